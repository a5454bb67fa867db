/- Rows of strings, and what the helpers of the statements do with them. -/
import Derived.Test.YthkjmbkfcnehoaaDoorHelp0
namespace Go.Proofs.YthkjmbkfcnehoaaDoor
open Go.RowKit
set_option maxHeartbeats 400000
set_option linter.unusedVariables false

/-- strings as cells -/
def strs (l : List ByteArray) : List Value := l.map Value.string
@[simp] theorem strs_length (l : List ByteArray) : (strs l).length = l.length := by simp [strs]
theorem strs_get (l : List ByteArray) (k : Nat) (h : k < l.length) : (strs l)[k]? = some (.string l[k]) := by simp [strs, h]
theorem strs_append (l m : List ByteArray) : strs (l ++ m) = strs l ++ strs m := by simp [strs]
theorem strs_one (l : List ByteArray) : ∀ u ∈ strs l, u.oneCell' = true := by
  intro u hu
  simp only [strs, List.mem_map] at hu
  obtain ⟨b, _, rfl⟩ := hu
  rfl
theorem info_str : (Tryd.prog.info? 9).map (fun i => (i.zero, i.size, i.bytes)) = some (some (.string ⟨#[]⟩), 1, 16) := by kernel_rfl
theorem eqS_any (x y : ByteArray) (w : World) : Calls Tryd.prog 24 #[.string x, .string y] w fun e w' => e = .returned (.bool (x.toList == y.toList)) ∧ w = w' := by
  go_enter Tryd.func24, Tryd.ntmps24
  go_wp2
  go_ret
  exact ⟨rfl, rfl⟩
set_option maxHeartbeats 1000000 in
theorem sameS_any (A B : Option Addr) (n c d : Nat) (l : List ByteArray) (w : World) (ha : Rd w A n c (strs l)) (hb : Rd w B n d (strs l)) :
    Calls Tryd.prog 23 #[.slice A n c, .slice B n d, .func (.func 24) #[] #[]] w fun e w' => e = .returned (.bool true) ∧ Dr w w' := by
  have hn : l.length = n := by simpa using ha.len
  have hm : n ≤ 9223372036854775807 := by
    have := ha.max
    have := ha.cap
    simp only [maxLen] at *
    omega
  go_enter Tryd.func23, Tryd.ntmps23
  go_wp2
  go_loopw [7] (fun v wr => ∃ k : Nat, k ≤ n ∧ v = .int .i64 (k : Int) ∧ Dr w wr) (fun v _ => n - (intOf v).toNat)
  case atStart => exact ⟨0, by omega, rfl, Dr.refl _⟩
  case round =>
    obtain ⟨k, hk, rfl, hdr⟩ := hrel
    rcases Nat.lt_or_ge k n with hlt | hge
    · obtain ⟨ad, u, rfl, hu, hc⟩ := (ha.dr hdr).at_ hlt
      obtain ⟨bd, v, rfl, hv, hd⟩ := (hb.dr hdr).at_ hlt
      rw [strs_get l k (by omega)] at hu hv
      injection hu with hu; injection hv with hv
      subst hu hv
      have h9 : (l[k].toList == l[k].toList) = true := by simp
      have heq := fun u => eqS_any l[k] l[k] u
      generalize l[k] = S at hc hd h9 heq
      rw [h9] at heq
      have HEQ := Lib.hid heq
      clear heq
      go_wp2
      go_quiet ((go_at_call 24; exact quiet_same (HEQ.out _)))
      go_wp2
      go_roundw
      case rel => exact ⟨k + 1, by omega, by go_num, hdr.drewN _⟩
      case measure => simp [intOf]; omega
    · obtain rfl : k = n := by omega
      go_wp2
      go_ret
      exact ⟨rfl, hdr⟩
theorem plainS_any (A B : Option Addr) (n c d : Nat) (l : List ByteArray) (w : World) (ha : Rd w A n c (strs l)) (hb : Rd w B n d (strs l)) :
    Calls Tryd.prog 15 #[.slice A n c, .slice B n d] w fun e w' => e = .returned (.bool true) ∧ Dr w w' := by
  go_enter Tryd.func15, Tryd.ntmps15
  go_wp2_with (go_at_call 23; refine (sameS_any _ _ _ _ _ _ _ ha hb).mono ?_; rintro e w' ⟨rfl, hdr⟩)
  go_ret
  exact ⟨rfl, hdr⟩
theorem Rd.lits {w : World} (l : List ByteArray) (t : TypeId) (n : Nat) (hn : l.length = n) (hm : n ≤ maxLen) : Rd (w.alloc (.cells (strs l).toArray t)) (some ⟨w.heap.size, 0, none⟩) n n (strs l) := by
  have h := (Bk.new w t (strs l).toArray).rd (n := n) (cap := n) (Nat.le_refl _) hm (by simp [hn])
  rw [List.take_of_length_le (by simp [hn])] at h
  simpa using h
theorem Rd.oneS {w : World} (s : ByteArray) (t : TypeId) : Rd (w.alloc (.cells #[.string s] t)) (some ⟨w.heap.size, 0, none⟩) 1 1 (strs [s]) := Rd.lits [s] t 1 rfl (by simp [maxLen])
/-- strings behind strings -/
theorem apS (w : World) {ops : Array Oper} {rest : List Oper} {o : Oper} {a : Act} {Q : Exit → Act → World → Prop} (hgd : Region.wanted o (yielded ops a.tmps) = true) (s x : Operand)
    (ho : o.op = .call { callee := .builtin .append, args := #[s, x], argTypes := #[29, 29] })
    (base : Nat) (v : Value) (n : Nat) (l : List ByteArray) (hs : a.eval s = v) (hown : w.ownsRow base 9 1 v n (strs l))
    (A : Option Addr) (m c : Nat) (k : List ByteArray) (hx : a.eval x = .slice A m c) (hr : Rd w A m c (strs k)) (hb : n + m ≤ 4000000000) (hbase : base ≤ w.heap.size)
    (h : ∀ v' w', w'.ownsRow base 9 1 v' (n + m) (strs (l ++ k)) → w.grownBy w' v.ownBlock → (v'.ownBlock = v.ownBlock ∨ v'.ownBlock = some w.heap.size) → wpList Tryd.prog ops Q rest (a.put o.dst v') w') :
    wpList Tryd.prog ops Q (o :: rest) a w := by
  obtain ⟨i, hi, hz, h1, h2⟩ := info_parts info_str
  refine wpList_append_rd w hgd s x 29 ho base 9 i (.string ⟨#[]⟩) 16 Tryd.underlying29 hi hz h1 h2 rfl v n (strs l) hs hown A m c (strs k) hx hr (strs_one k) (by simp only [maxLen]; omega) (by omega) hbase ?_
  intro v' w' g1 g2 g3
  exact h v' w' (by rw [strs_append]; exact g1) g2 g3
theorem apS_one (w : World) {ops : Array Oper} {rest : List Oper} {o : Oper} {a : Act} {Q : Exit → Act → World → Prop} (hgd : Region.wanted o (yielded ops a.tmps) = true) (s x : Operand)
    (ho : o.op = .call { callee := .builtin .append, args := #[s, x], argTypes := #[29, 29] })
    (base : Nat) (v : Value) (n : Nat) (l : List ByteArray) (hs : a.eval s = v) (hown : w.ownsRow base 9 1 v n (strs l)) (i : ByteArray) (t : TypeId)
    (hx : a.eval x = .slice (some ⟨w.heap.size, 0, none⟩) 1 1) (hb : n + 1 ≤ 4000000000) (hbase : base ≤ w.heap.size)
    (h : ∀ v' w', w'.ownsRow base 9 1 v' (n + 1) (strs (l ++ [i])) → (w.alloc (.cells #[.string i] t)).grownBy w' v.ownBlock → (v'.ownBlock = v.ownBlock ∨ v'.ownBlock = some (w.heap.size + 1)) → wpList Tryd.prog ops Q rest (a.put o.dst v') w') :
    wpList Tryd.prog ops Q (o :: rest) a (w.alloc (.cells #[.string i] t)) := by
  refine apS _ hgd s x ho base v n l hs (hown.alloc _) _ 1 1 [i] hx (Rd.oneS i t) hb (by simp; omega) ?_
  intro v' w' h1 h2 h3
  exact h v' w' h1 h2 (by simpa using h3)
end Go.Proofs.YthkjmbkfcnehoaaDoor
