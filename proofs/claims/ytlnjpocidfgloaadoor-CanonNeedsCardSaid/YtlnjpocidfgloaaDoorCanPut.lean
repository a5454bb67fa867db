/- What package canon's writer does: texts, one behind the other. -/
import Derived.Test.YtlnjpocidfgloaaDoorWrB
import Derived.Test.YtlnjpocidfgloaaDoorTreeItems
import Derived.Test.YtlnjpocidfgloaaDoorHelpTok
import Derived.Test.YtlnjpocidfgloaaDoorDig0
namespace Go.Proofs.YtlnjpocidfgloaaDoor
open Go.RowKit
set_option maxHeartbeats 400000
set_option linter.unusedVariables false

variable {w w' : World} {B g : Nat} {V p v : Value} {l : List UInt8}
def catL (Ps : List ByteArray) : List UInt8 := (Ps.map (fun x => x.data.toList)).flatten
theorem cat_next (Ps : List ByteArray) (k : Nat) (h : k < Ps.length) : catL (Ps.take (k + 1)) = catL (Ps.take k) ++ Ps[k].data.toList := by
  unfold catL
  rw [List.take_succ_eq_append_getElem h, List.map_append, List.flatten_append]
  simp
theorem cat_le (Ps : List ByteArray) : ∀ k, (catL (Ps.take k)).length ≤ (catL Ps).length := by
  intro k
  have : catL Ps = catL (Ps.take k) ++ catL (Ps.drop k) := by
    unfold catL
    rw [← List.flatten_append, ← List.map_append, List.take_append_drop]
  rw [this, List.length_append]
  omega
theorem strs_at (Ps : List ByteArray) (k : Nat) (h : k < Ps.length) : (strs Ps)[k]? = some (.string Ps[k]) := by simp [strs, h]
theorem c_put_any (Ps : List ByteArray) (A : Option Addr) (n c : Nat) (h : WrV w B g V p v l) (hr : Rd w A n c (strs Ps)) (hA : ∀ ad, A = some ad → ¬ (ad.block = g ∨ v.ownBlock = some ad.block)) (hlen : l.length + (catL Ps).length ≤ 1000000000000) :
    Calls Tryd.prog 25 #[.pointer (some ⟨g, 0, none⟩), .slice A n c] w fun e w' => e = .returned (.tuple #[]) ∧ Went B g V v (l ++ catL Ps) w w' := by
  have hn : Ps.length = n := by have := hr.len; rw [strs_len] at this; exact this
  have hnm : n ≤ 9223372036854775807 := by have := hr.cap; have := hr.max; simp only [maxLen] at this; omega
  have HR := Lib.hid hr; have HA := Lib.hid hA
  have hw0 := Went.refl h
  have HW0 := Lib.hid hw0
  clear hr hA h hw0
  go_enter Tryd.func25, Tryd.ntmps25
  go_wp2
  go_loopw [8] (fun iv wr => ∃ k : Nat, iv = .int .i64 (k : Int) ∧ k ≤ n ∧ Went B g V v (l ++ catL (Ps.take k)) w wr) (fun iv _ => n - (intOf iv).toNat)
  case atStart => exact ⟨0, rfl, Nat.zero_le _, by simpa [catL] using HW0.out⟩
  case round =>
    obtain ⟨k, rfl, hk, hwt⟩ := hrel
    obtain ⟨p1, v1, h1, hf1, hv1⟩ := hwt
    rcases Nat.lt_or_ge k n with hlt | hge
    · have hltI : (k : Int) < (n : Int) := by omega
      have hkl : k < Ps.length := by omega
      obtain ⟨ad, u, rfl, hu, hc⟩ := (HR.out.fr hf1 HA.out).at_ hlt
      rw [strs_at Ps k hkl] at hu
      injection hu with hu
      subst hu
      have hnx := cat_next Ps k hkl
      have hle := cat_le Ps (k + 1)
      rw [hnx, List.length_append, size_list] at hle
      have hwr := wb_write Ps[k] h1 (by rw [List.length_append]; omega)
      rw [List.append_assoc, ← hnx] at hwr
      have c0 := h1.cell0
      have HWR := Lib.hid hwr; have HF := Lib.hid hf1; have HV := Lib.hid hv1
      clear hwr hf1 hv1 h1 hnx hle c0
      generalize Ps[k] = P at *
      go_wp2_with (go_at_call 38; refine HWR.out.mono ?_; rintro e w2 ⟨rfl, hw2⟩)
      go_roundw
      case rel => exact ⟨k + 1, by go_num, hlt, Went.step HF.out HV.out hw2⟩
      case measure => simp [intOf]; omega
    · have hke : k = n := by omega
      subst hke
      have hW : Went B g V v (l ++ catL Ps) w wr := ⟨p1, v1, by rw [List.take_of_length_le (by omega)] at h1; exact h1, hf1, hv1⟩
      have HW := Lib.hid hW
      clear h1 hf1 hv1 hW
      go_wp2
      go_end0
      exact ⟨rfl, HW.out⟩
/-- texts that were just laid in a block of their own -/
theorem c_put_lit (Ps : List ByteArray) (hn0 : Ps.length ≤ 100) (T : TypeId) (h : WrV w B g V p v l) (hlen : l.length + (catL Ps).length ≤ 1000000000000) :
    Calls Tryd.prog 25 #[.pointer (some ⟨g, 0, none⟩), .slice (some ⟨w.heap.size, 0, none⟩) Ps.length Ps.length] (w.alloc (.cells (strs Ps).toArray T)) fun e w' => e = .returned (.tuple #[]) ∧ Went B g V v (l ++ catL Ps) w w' := by
  have hf := (Fr.refl No w).alloc (.cells (strs Ps).toArray T)
  have hbk := Bk.new w T (strs Ps).toArray
  have hrd : Rd (w.alloc (.cells (strs Ps).toArray T)) (some ⟨w.heap.size, 0, none⟩) Ps.length Ps.length (strs Ps) := by
    have := hbk.rd (n := Ps.length) (cap := Ps.length) (Nat.le_refl _) (by simp only [maxLen]; omega) (by simp [strs])
    rw [List.take_of_length_le (by simp [strs])] at this
    exact this
  refine (c_put_any Ps _ _ _ (h.no hf) hrd ?_ hlen).mono ?_
  · intro ad e
    injection e with e
    subst e
    exact h.apart (Nat.le_refl _)
  · rintro e w' ⟨he, p', v', h1, h2, h3⟩
    refine ⟨he, p', v', h1, (hf.no).trans h2, ?_⟩
    rcases h3 with h3 | h3
    · exact .inl h3
    · exact .inr (fun i hi => Nat.le_trans hf.size (h3 i hi))
variable (T : TypeId)
theorem c_put_1 (x : ByteArray) (h : WrV w B g V p v l) (hlen : l.length + x.size ≤ 1000000000000) :
    Calls Tryd.prog 25 #[.pointer (some ⟨g, 0, none⟩), .slice (some ⟨w.heap.size, 0, none⟩) 1 1] (w.alloc (.cells #[.string x] T)) fun e w' => e = .returned (.tuple #[]) ∧ Went B g V v (l ++ x.data.toList) w w' := by
  have := c_put_lit [x] (by simp) T h (by simp [catL]; omega)
  simpa [catL, strs] using this
theorem c_put_2 (x y : ByteArray) (h : WrV w B g V p v l) (hlen : l.length + (x.size + y.size) ≤ 1000000000000) :
    Calls Tryd.prog 25 #[.pointer (some ⟨g, 0, none⟩), .slice (some ⟨w.heap.size, 0, none⟩) 2 2] (w.alloc (.cells #[.string x, .string y] T)) fun e w' => e = .returned (.tuple #[]) ∧ Went B g V v (l ++ (x.data.toList ++ y.data.toList)) w w' := by
  have := c_put_lit [x, y] (by simp) T h (by simp [catL]; omega)
  simpa [catL, strs] using this
theorem c_put_3 (x y z : ByteArray) (h : WrV w B g V p v l) (hlen : l.length + (x.size + (y.size + z.size)) ≤ 1000000000000) :
    Calls Tryd.prog 25 #[.pointer (some ⟨g, 0, none⟩), .slice (some ⟨w.heap.size, 0, none⟩) 3 3] (w.alloc (.cells #[.string x, .string y, .string z] T)) fun e w' => e = .returned (.tuple #[]) ∧ Went B g V v (l ++ (x.data.toList ++ (y.data.toList ++ z.data.toList))) w w' := by
  have := c_put_lit [x, y, z] (by simp) T h (by simp [catL]; omega)
  simpa [catL, strs] using this
theorem c_put_5 (x y z r s : ByteArray) (h : WrV w B g V p v l) (hlen : l.length + (x.size + (y.size + (z.size + (r.size + s.size)))) ≤ 1000000000000) :
    Calls Tryd.prog 25 #[.pointer (some ⟨g, 0, none⟩), .slice (some ⟨w.heap.size, 0, none⟩) 5 5] (w.alloc (.cells #[.string x, .string y, .string z, .string r, .string s] T)) fun e w' => e = .returned (.tuple #[]) ∧ Went B g V v (l ++ (x.data.toList ++ (y.data.toList ++ (z.data.toList ++ (r.data.toList ++ s.data.toList))))) w w' := by
  have := c_put_lit [x, y, z, r, s] (by simp) T h (by simp [catL]; omega)
  simpa [catL, strs] using this
end Go.Proofs.YtlnjpocidfgloaaDoor
