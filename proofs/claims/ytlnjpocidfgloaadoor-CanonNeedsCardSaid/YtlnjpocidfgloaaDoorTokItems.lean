/- Attributes and tokens as things in rows. -/
import Derived.Test.YtlnjpocidfgloaaDoorItems
import Derived.Test.YtlnjpocidfgloaaDoorTokMath
import Derived.Test.YtlnjpocidfgloaaDoorHelp0
namespace Go.Proofs.YtlnjpocidfgloaaDoor
open Go.RowKit
set_option maxHeartbeats 400000
set_option linter.unusedVariables false

def AttrI (_ : World) (_ : Nat → Prop) (cs : List Value) (a : List UInt8 × List UInt8) : Prop := ∃ X Y : ByteArray, cs = [.string X, .string Y] ∧ X.data.toList = a.1 ∧ Y.data.toList = a.2
theorem attr_ok : ItemOk 2 AttrI where
  len := by rintro w N cs a ⟨X, Y, rfl, _, _⟩; rfl
  one := by
    rintro w N cs a ⟨X, Y, rfl, _, _⟩ u hu
    simp only [List.mem_cons, List.not_mem_nil, or_false] at hu
    rcases hu with rfl | rfl <;> rfl
  fr := fun h _ _ => h
  mono := fun h _ => h
theorem AttrI.any {w w' : World} {N M : Nat → Prop} {cs : List Value} {a : List UInt8 × List UInt8} (h : AttrI w N cs a) : AttrI w' M cs a := h
/-- a token's cells -/
def TokI (w : World) (N : Nat → Prop) (cs : List Value) (t : Tok) : Prop := ∃ (X Y : ByteArray) (A : Option Addr) (n c : Nat),
  cs = [.int .i64 t.kind, .string X, .string Y, .slice A n c, .bool t.empty] ∧ X.data.toList = t.name ∧ Y.data.toList = t.text ∧ RdI 2 AttrI w N A n c t.attrs
theorem tok_ok : ItemOk 5 TokI where
  len := by rintro w N cs a ⟨X, Y, A, n, c, rfl, _⟩; rfl
  one := by
    rintro w N cs a ⟨X, Y, A, n, c, rfl, _⟩ u hu
    simp only [List.mem_cons, List.not_mem_nil, or_false] at hu
    rcases hu with rfl | rfl | rfl | rfl | rfl <;> rfl
  fr := by
    rintro w w' N S cs a ⟨X, Y, A, n, c, e, h1, h2, h3⟩ hf hS
    exact ⟨X, Y, A, n, c, e, h1, h2, h3.fr attr_ok hf hS⟩
  mono := by
    rintro w N M cs a ⟨X, Y, A, n, c, e, h1, h2, h3⟩ hM
    exact ⟨X, Y, A, n, c, e, h1, h2, h3.mono attr_ok hM⟩
theorem info_attr : (Tryd.prog.info? 29).map (fun i => (i.zero, i.size, i.bytes)) = some (some (.agg #[.string ⟨#[]⟩, .string ⟨#[]⟩]), 2, 32) := by kernel_rfl
theorem attrs_any {w w' : World} {N M : Nat → Prop} : ∀ {ls : List (List UInt8 × List UInt8)} {xs : List Value} (h : ItemsF AttrI w N xs ls), ItemsF AttrI w' M xs ls
  | [], _, h => h
  | _ :: _, _, ⟨cs, rest, e, h1, h2⟩ => ⟨cs, rest, e, h1, attrs_any h2⟩
theorem own_attrs {w : World} {base : Nat} {e : TypeId} {N : Nat → Prop} {v : Value} {n : Nat} {ls : List (List UInt8 × List UInt8)} (h : OwnI 2 AttrI w base e N v n ls) (M : Nat → Prop) : OwnI 2 AttrI w base e M v n ls :=
  let ⟨xs, ho, he⟩ := h.xs
  ⟨⟨xs, ho, attrs_any he⟩⟩
/-- one more attribute, just laid in a block of its own -/
theorem ap_attr1 (u : World) {ops : Array Oper} {rest : List Oper} {o : Oper} {a : Act} {Q : Exit → Act → World → Prop} (hgd : Region.wanted o (yielded ops a.tmps) = true) (s x : Operand)
    (ho : o.op = .call { callee := .builtin .append, args := #[s, x], argTypes := #[30, 30] })
    (base : Nat) (v : Value) (n : Nat) (ls : List (List UInt8 × List UInt8)) (hs : a.eval s = v) (hown : OwnI 2 AttrI u base 29 No v n ls) (X Y : ByteArray) (at_ : List UInt8 × List UInt8) (hX : X.data.toList = at_.1) (hY : Y.data.toList = at_.2) (t : TypeId)
    (bk : Nat) (hbk : u.heap.size = bk) (hx : a.eval x = .slice (some ⟨bk, 0, none⟩) 1 1) (hb : n + 1 ≤ 4000000000) (hbase : base ≤ u.heap.size)
    (h : ∀ v' w', OwnI 2 AttrI w' base 29 No v' (n + 1) (ls ++ [at_]) → (u.alloc (.cells #[.string X, .string Y] t)).grownBy w' v.ownBlock → (v'.ownBlock = v.ownBlock ∨ v'.ownBlock = some (u.heap.size + 1)) → wpList Tryd.prog ops Q rest (a.put o.dst v') w') :
    wpList Tryd.prog ops Q (o :: rest) a (u.alloc (.cells #[.string X, .string Y] t)) := by
  subst hbk
  obtain ⟨i, hi, hz, h1, h2⟩ := info_parts info_attr
  have hlt := hown.lt
  have ho1 : OwnI 2 AttrI (u.alloc (.cells #[.string X, .string Y] t)) base 29 (fun i => i = u.heap.size) v n ls := own_attrs (hown.no attr_ok ((Fr.refl No u).alloc _)) _
  have hr : RdI 2 AttrI (u.alloc (.cells #[.string X, .string Y] t)) (fun i => i = u.heap.size) (some ⟨u.heap.size, 0, none⟩) 1 1 [at_] :=
    ⟨⟨[.string X, .string Y], RdS.lit u [.string X, .string Y] t 1 rfl (by simp [maxLen]), ItemsF.single ⟨X, Y, rfl, hX, hY⟩⟩, fun ad e _ => (congrArg Addr.block (Option.some.inj e)).symm⟩
  refine apI' _ attr_ok (by omega) hgd s x 30 ho base 29 i _ 32 Tryd.underlying30 hi hz h1 h2 rfl v n ls [at_] hs ho1 _ 1 1 hx hr (by simp only [maxLen]; omega) (by omega) (by simp; omega) (fun i hi e => by have := (hlt i e).2; omega) ?_
  intro v' w' g1 g2 g3
  exact h v' w' (own_attrs g1 No) g2 (by simpa using g3)
end Go.Proofs.YtlnjpocidfgloaaDoor
