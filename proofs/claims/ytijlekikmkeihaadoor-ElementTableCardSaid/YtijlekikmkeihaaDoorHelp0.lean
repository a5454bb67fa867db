/- Append, copy and make of bytes, at the operation; two lists of bytes held against each other (the statements' own helper): contracts, for every list of bytes within a slice's length. -/
import Derived.Test.YtijlekikmkeihaaDoorBase
namespace Go.Proofs.YtijlekikmkeihaaDoor
open Go.RowKit
set_option maxHeartbeats 400000
set_option linter.unusedVariables false

theorem info_u8 : (Tryd.prog.info? 5).map (fun i => (i.zero, i.size, i.bytes)) = some (some (.int .u8 0), 1, 1) := by kernel_rfl

/-- append of bytes onto a row of the call's own -/
theorem ap8 (w : World) {ops : Array Oper} {rest : List Oper} {o : Oper} {a : Act} {Q : Exit → Act → World → Prop} (hgd : Region.wanted o (yielded ops a.tmps) = true) (s x : Operand)
    (ho : o.op = .call { callee := .builtin .append, args := #[s, x], argTypes := #[22, 22] })
    (base : Nat) (v : Value) (n : Nat) (l : List UInt8) (hs : a.eval s = v) (hown : w.ownsRow base 5 1 v n (u8s l))
    (A : Option Addr) (m c : Nat) (k : List UInt8) (hx : a.eval x = .slice A m c) (hr : Rd w A m c (u8s k)) (hb : n + m ≤ 140737488355328) (hbase : base ≤ w.heap.size)
    (h : ∀ v' w', w'.ownsRow base 5 1 v' (n + m) (u8s (l ++ k)) → w.grownBy w' v.ownBlock → (v'.ownBlock = v.ownBlock ∨ v'.ownBlock = some w.heap.size) → wpList Tryd.prog ops Q rest (a.put o.dst v') w') :
    wpList Tryd.prog ops Q (o :: rest) a w := by
  obtain ⟨i, hi, hz, h1, h2⟩ := info_parts info_u8
  refine wpList_append_rd w hgd s x 22 ho base 5 i (.int .u8 0) 1 Tryd.underlying22 hi hz h1 h2 rfl v n (u8s l) hs hown A m c (u8s k) hx hr (u8s_one k) (by simp only [maxLen]; omega) (by omega) hbase ?_
  intro v' w' g1 g2 g3
  exact h v' w' (by rw [u8s_append]; exact g1) g2 g3

/-- append of bytes onto a row of the call's own, as one step of a region that draws its order ('go_region_law') -/
theorem step8 {ops : Array Oper} {o : Oper} {a : Act} {w : World} {K : Act → World → Prop} {Q : Exit → Act → World → Prop} {E : Prop} (hgd : Region.wanted o (yielded ops a.tmps) = true) (s x : Operand)
    (ho : o.op = .call { callee := .builtin .append, args := #[s, x], argTypes := #[22, 22] })
    (base : Nat) (v : Value) (n : Nat) (l : List UInt8) (hs : a.eval s = v) (hown : w.ownsRow base 5 1 v n (u8s l))
    (A : Option Addr) (m c : Nat) (k : List UInt8) (hx : a.eval x = .slice A m c) (hr : Rd w A m c (u8s k)) (hb : n + m ≤ 140737488355328) (hbase : base ≤ w.heap.size)
    (h : ∀ v' w', w'.ownsRow base 5 1 v' (n + m) (u8s (l ++ k)) → w.grownBy w' v.ownBlock → (v'.ownBlock = v.ownBlock ∨ v'.ownBlock = some w.heap.size) → K (a.put o.dst v') w') :
    if Region.wanted o (yielded ops a.tmps) = true then Oper.wp Tryd.prog o a w K Q else E := by
  rw [if_pos hgd]
  obtain ⟨i, hi, hz, h1, h2⟩ := info_parts info_u8
  obtain ⟨v', w', hrun, g1, g2, g3⟩ := run_append_rd (P := Tryd.prog) w base 22 o.type 5 i (.int .u8 0) 1 Tryd.underlying22 hi hz h1 h2 rfl v n (u8s l) hown A m c (u8s k) hr (u8s_one k) (by simp only [maxLen]; omega) (by omega) hbase
  unfold Oper.wp execOp
  simp only [ho, resolve, invoke, builtin, Sem.run_bind, Sem.run_pure, Result.andThen_ok, List.map_toArray, List.map_cons, List.map_nil, hs, hx, hrun]
  exact h v' w' (by rw [u8s_append]; exact g1) g2 g3

/-- elements that were just laid in a block of their own -/
theorem Rd.lit (w : World) (cs : List Value) (t : TypeId) (n : Nat) (hn : cs.length = n) (hm : n ≤ maxLen) : Rd (w.alloc (.cells cs.toArray t)) (some ⟨w.heap.size, 0, none⟩) n n cs := by
  have := (Bk.new w t cs.toArray).rd (n := n) (cap := n) (Nat.le_refl _) hm (by simp; omega)
  simpa [← hn] using this

/-- one byte that was just laid in a block of its own -/
theorem Rd.one {w : World} {i : Int} {b : UInt8} (hi : i = (b.toNat : Int)) (t : TypeId) : Rd (w.alloc (.cells #[.int .u8 i] t)) (some ⟨w.heap.size, 0, none⟩) 1 1 (u8s [b]) := by
  have h := (Bk.new w t #[.int .u8 i]).rd (n := 1) (cap := 1) (Nat.le_refl _) (by simp [maxLen]) (by simp)
  rw [hi] at h ⊢
  exact h
theorem ap8_one (w : World) {ops : Array Oper} {rest : List Oper} {o : Oper} {a : Act} {Q : Exit → Act → World → Prop} (hgd : Region.wanted o (yielded ops a.tmps) = true) (s x : Operand)
    (ho : o.op = .call { callee := .builtin .append, args := #[s, x], argTypes := #[22, 22] })
    (base : Nat) (v : Value) (n : Nat) (l : List UInt8) (hs : a.eval s = v) (hown : w.ownsRow base 5 1 v n (u8s l)) (i : Int) (b : UInt8) (hi : i = (b.toNat : Int)) (t : TypeId)
    (hx : a.eval x = .slice (some ⟨w.heap.size, 0, none⟩) 1 1) (hb : n + 1 ≤ 140737488355328) (hbase : base ≤ w.heap.size)
    (h : ∀ v' w', w'.ownsRow base 5 1 v' (n + 1) (u8s (l ++ [b])) → (w.alloc (.cells #[.int .u8 i] t)).grownBy w' v.ownBlock → (v'.ownBlock = v.ownBlock ∨ v'.ownBlock = some (w.heap.size + 1)) → wpList Tryd.prog ops Q rest (a.put o.dst v') w') :
    wpList Tryd.prog ops Q (o :: rest) a (w.alloc (.cells #[.int .u8 i] t)) := by
  refine ap8 _ hgd s x ho base v n l hs (hown.alloc _) _ 1 1 [b] hx (Rd.one hi t) hb (by simp; omega) ?_
  intro v' w' h1 h2 h3
  exact h v' w' h1 h2 (by simpa using h3)

theorem Rd.none_ {w : World} {n c : Nat} {l : List UInt8} (h : Rd w none n c (u8s l)) : n = 0 ∧ c = 0 ∧ l = [] := by
  have h1 := h.nil rfl
  have h2 := h.cap
  have h3 := h.len
  rw [u8s_length] at h3
  exact ⟨by omega, h1, List.eq_nil_of_length_eq_zero (by omega)⟩

/-- make of bytes -/
theorem mk8 (w : World) {ops : Array Oper} {rest : List Oper} {o : Oper} {a : Act} {Q : Exit → Act → World → Prop} (hgd : Region.wanted o (yielded ops a.tmps) = true) (l c : Operand) (hop : o.op = .makeSlice 22 l c)
    (kl kc : IntKind) (L C : Int) (n m : Nat) (hl : a.eval l = .int kl L) (hc : a.eval c = .int kc C) (hL : L = n) (hC : C = m) (hnm : n ≤ m) (hb : m ≤ 281474976710656)
    (h : ∀ w', Bk w' w.heap.size 5 (u8s (List.replicate m 0)) → Fr No w w' → w'.heap.size = w.heap.size + 1 → wpList Tryd.prog ops Q rest (a.put o.dst (.slice (some ⟨w.heap.size, 0, none⟩) n m)) w') :
    wpList Tryd.prog ops Q (o :: rest) a w := by
  obtain ⟨i, hi, hz, h1, h2⟩ := info_parts info_u8
  refine wpList_make_bk w hgd l c 22 hop 5 i (.int .u8 0) Tryd.underlying22 hi hz h1 rfl kl kc L C n m hl hc hL hC hnm (by rw [h2]; omega) (by simp only [maxLen]; omega) ?_
  intro w' h1 h2 h3
  exact h w' (by simpa [u8s] using h1) h2 h3
/-- copy of bytes into the head of a block of bytes -/
theorem cp8 (w : World) {ops : Array Oper} {rest : List Oper} {o : Oper} {a : Act} {Q : Exit → Act → World → Prop} (hgd : Region.wanted o (yielded ops a.tmps) = true) (d s : Operand)
    (ho : o.op = .call { callee := .builtin .copy, args := #[d, s], argTypes := #[22, 22] })
    (g n cap : Nat) (k : List UInt8) (hd : a.eval d = .slice (some ⟨g, 0, none⟩) n cap) (hbk : Bk w g 5 (u8s k))
    (A : Option Addr) (c : Nat) (l : List UInt8) (hs : a.eval s = .slice A n c) (hr : Rd w A n c (u8s l)) (hlen : n ≤ k.length)
    (h : ∀ w', Bk w' g 5 (u8s (l ++ k.drop n)) → Fr (Just g) w w' → w'.heap.size = w.heap.size → wpList Tryd.prog ops Q rest (a.put o.dst (.int .i64 (n : Int))) w') :
    wpList Tryd.prog ops Q (o :: rest) a w := by
  obtain ⟨i, hi, hz, h1, h2⟩ := info_parts info_u8
  refine wpList_copy_fit w hgd d s 22 ho 5 i Tryd.underlying22 hi h1 g n cap (u8s k) hd hbk A c (u8s l) hs hr (u8s_one l) (by simpa using hlen) ?_
  intro w' h1 h2 h3
  exact h w' (by simpa [u8s] using h1) h2 h3

/-- comptoirhelp.Bytes -/
theorem bytes_any (A B : Option Addr) (n c m d : Nat) (l k : List UInt8) (w : World) (ha : Rd w A n c (u8s l)) (hb : Rd w B m d (u8s k)) :
    Calls Tryd.prog 18 #[.slice A n c, .slice B m d] w fun e w' => e = .returned (.bool (l == k)) ∧ w = w' := by
  have h1 := run_string (P := Tryd.prog) ha 22 5 Tryd.underlying22 Tryd.underlying5 9 Tryd.underlying9
  have h2 := run_string (P := Tryd.prog) hb 22 5 Tryd.underlying22 Tryd.underlying5 9 Tryd.underlying9
  go_enter Tryd.func18, Tryd.ntmps18
  go_wp2
  go_ret
  exact ⟨rfl, rfl⟩

end Go.Proofs.YtijlekikmkeihaaDoor
