/- Rows of tags: append onto one's own, as one step of a region that draws its order. -/
import Derived.Test.YtbfodbejdaafaaaRefTag
namespace Go.Proofs.Ytbfodbejdaafaaa
open Go.RowKit
set_option maxHeartbeats 1000000
set_option linter.unusedVariables false

theorem rd_head {w : World} {A : Option Addr} {n c m : Nat} {l : List UInt8} (h : Rd w A n c (u8s l)) (hm : m ≤ n) : Rd w A m c (u8s (l.take m)) := by
  have hl : l.length = n := by simpa using h.len
  refine ⟨by simp; omega, by have := h.cap; omega, h.max, h.nil, fun ad e j u hu => h.cells ad e j u ?_⟩
  unfold u8s at hu ⊢
  rw [List.map_take, List.getElem?_take] at hu
  split at hu
  · exact hu
  · cases hu
theorem Bk.dr' {w w' : World} {g : Nat} {t : TypeId} {cs : List Value} (h : Bk w g t cs) (k : Dr w w') : Bk w' g t cs := h.no k.fr
theorem Bk.grow' {w w' : World} {g : Nat} {t : TypeId} {cs : List Value} {row : Option Nat} (h : Bk w g t cs) (k : w.grownBy w' row) (hr : row = none) : Bk w' g t cs := h.no ((Fr.refl No w).grown k (fun g e => by rw [hr] at e; cases e))
theorem own_slice {E : Option Addr} {e ce : Nat} {g : Nat} (h : (Value.slice E e ce).ownBlock = (Value.slice none 0 0).ownBlock ∨ (Value.slice E e ce).ownBlock = some g) : ∀ ad, E = some ad → ad.block = g := by
  intro ad h2
  subst h2
  rcases h with h | h
  · simp [Value.ownBlock] at h
  · simpa [Value.ownBlock] using h
theorem info_tag : (Try.prog.info? 33).map (fun i => (i.zero, i.size, i.bytes)) = some (some (.agg #[.int .i64 0, .slice none 0 0]), 2, 32) := by kernel_rfl
theorem tagSize (a b : Value) : (Try.prog.info? 33).map (·.size) = some [a, b].length := by kernel_rfl
/-- tags' cells behind tags' cells, as one step of a region that draws its order -/
theorem stepT {ops : Array Oper} {o : Oper} {a : Act} {w : World} {K : Act → World → Prop} {Q : Exit → Act → World → Prop} {E : Prop} (hgd : Region.wanted o (yielded ops a.tmps) = true) (s x : Operand)
    (ho : o.op = .call { callee := .builtin .append, args := #[s, x], argTypes := #[23, 23] })
    (base : Nat) (v : Value) (n : Nat) (xs : List Value) (hs : a.eval s = v) (hown : w.ownsRow base 33 2 v n xs)
    (A : Option Addr) (m c : Nat) (news : List Value) (hx : a.eval x = .slice A m c) (hr : RdS w 2 A m c news) (h1 : ∀ u ∈ news, u.oneCell' = true) (hb : n + m ≤ 1000000) (hbase : base ≤ w.heap.size)
    (h : ∀ A' c' w', w'.ownsRow base 33 2 (.slice A' (n + m) c') (n + m) (xs ++ news) → w.grownBy w' v.ownBlock → ((Value.slice A' (n + m) c').ownBlock = v.ownBlock ∨ (Value.slice A' (n + m) c').ownBlock = some w.heap.size) → K (a.put o.dst (.slice A' (n + m) c')) w') :
    if Region.wanted o (yielded ops a.tmps) = true then Oper.wp Try.prog o a w K Q else E := by
  rw [if_pos hgd]
  obtain ⟨i, hi, hz, h2, h3⟩ := info_parts info_tag
  obtain ⟨v', w', hrun, g1, g2, g3⟩ := run_append_rdS (P := Try.prog) w base 23 o.type 33 i _ 2 32 Try.underlying23 hi hz h2 h3 rfl (by omega) v n xs hown A m c news hr h1 (by simp only [maxLen]; omega) (by omega) hbase
  unfold Oper.wp execOp
  simp only [ho, resolve, invoke, builtin, Sem.run_bind, Sem.run_pure, Result.andThen_ok, List.map_toArray, List.map_cons, List.map_nil, hs, hx, hrun]
  obtain ⟨A', c', rfl, -⟩ := RdS.of_own g1
  exact h A' c' w' g1 g2 g3
theorem rdi_of_own {w : World} {base n c : Nat} {A : Option Addr} {N : Nat → Prop} {xs : List Value} {ls : List (Int × List UInt8)} (h : w.ownsRow base 33 2 (.slice A n c) n xs) (hi : ItemsF TagI w N xs ls) : RdI 2 TagI w (fun _ => True) A n c ls := by
  obtain ⟨A', c', e, hr, _⟩ := RdS.of_own h
  injection e with e1 _ e2
  subst e1 e2
  exact ⟨⟨xs, hr, ItemsF.mono tag_ok hi (fun _ _ => trivial)⟩, fun _ _ _ => trivial⟩
theorem items_more {w0 w : World} {D : Nat → Prop} {xs : List Value} {os : List (Int × List UInt8)} {q : Int} {E : Option Addr} {e ce : Nat} {l : List UInt8} (hf : Fr No w0 w) (hi : ItemsF TagI w0 D xs os) (hr : Rd w0 E e ce (u8s l)) (hq : (Lit.int .i64 q).wf = true) (he : e ≤ 30) :
    ItemsF TagI w (fun _ => True) (xs ++ [.int .i64 q, .slice E e ce]) (os ++ [(q, l)]) :=
  ItemsF.app (ItemsF.mono tag_ok (ItemsF.fr tag_ok hi hf (fun _ _ x => x)) (fun _ _ => trivial)) (ItemsF.single ⟨E, e, ce, rfl, hr.no hf, fun _ _ _ => trivial, hq, by omega⟩)
end Go.Proofs.Ytbfodbejdaafaaa
