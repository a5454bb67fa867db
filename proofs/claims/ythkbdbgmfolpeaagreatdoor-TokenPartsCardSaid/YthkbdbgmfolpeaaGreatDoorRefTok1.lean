/- The statements' own walk over a file: tests of bytes, blanks. -/
import Derived.Test.YthkbdbgmfolpeaaGreatDoorTokMath
import Derived.Test.YthkbdbgmfolpeaaGreatDoorDig0
import Derived.Test.YthkbdbgmfolpeaaGreatDoorHelp0
namespace Go.Proofs.YthkbdbgmfolpeaaGreatDoor
open Go.RowKit
set_option maxHeartbeats 400000
set_option linter.unusedVariables false

theorem r_blank_any (c : UInt8) (w : World) : Calls Tryz.prog 46 #[.int .u8 (c.toNat : Int)] w fun e w' => e = .returned (.bool (isBl c)) ∧ w = w' := by
  go_enter Tryz.func46, Tryz.ntmps46
  go_wp2
  all_goals
    go_ret
    refine ⟨ret_bool ?_, rfl⟩
    unfold isBl
    rw [Bool.eq_iff_iff]
    simp_all
    try omega
theorem r_first_any (c : UInt8) (w : World) : Calls Tryz.prog 60 #[.int .u8 (c.toNat : Int)] w fun e w' => e = .returned (.bool (isFi c)) ∧ w = w' := by
  go_enter Tryz.func60, Tryz.ntmps60
  go_wp2
  all_goals
    go_ret
    refine ⟨ret_bool ?_, rfl⟩
    unfold isFi
    rw [Bool.eq_iff_iff]
    simp_all
    try omega
theorem r_within_any (c : UInt8) (w : World) : Calls Tryz.prog 44 #[.int .u8 (c.toNat : Int)] w fun e w' => e = .returned (.bool (isWi c)) ∧ w = w' := by
  go_enter Tryz.func44, Tryz.ntmps44
  go_wp2_with (go_at_call 60; refine (r_first_any _ _).mono ?_; rintro e w' ⟨rfl, rfl⟩)
  all_goals
    go_ret
    refine ⟨ret_bool ?_, rfl⟩
    unfold isWi
    rw [Bool.eq_iff_iff]
    simp_all
    try omega

/-- the walk at block g: a file, and a place in it -/
structure WkT (w : World) (g : Nat) (S : ByteArray) (at_ : Nat) : Prop where
  blk : Bk w g 43 [.string S, .int .i64 (at_ : Int)]
  le : at_ ≤ S.size
  small : S.size ≤ 65536
theorem WkT.no {w w' : World} {g : Nat} {S : ByteArray} {a : Nat} (h : WkT w g S a) (hf : Fr No w w') : WkT w' g S a := ⟨h.blk.no hf, h.le, h.small⟩
theorem WkT.set {w : World} {g : Nat} {S : ByteArray} {a b : Nat} (h : WkT w g S a) (hb : b ≤ S.size) : WkT (w.setCell ⟨g, 1, none⟩ (.int .i64 (b : Int))) g S b := ⟨h.blk.set_ 1 _, hb, h.small⟩
theorem size_list (S : ByteArray) : S.data.toList.length = S.size := by simp
theorem byte_at (S : ByteArray) (i : Nat) (h : i < S.size) : S[i] = S.data.toList[i]'(by simpa using h) := rfl
theorem take_while_len (p : UInt8 → Bool) (l : List UInt8) (k : Nat) (h1 : ∀ j (hj : j < k) (hl : j < l.length), p l[j] = true) (hk : k ≤ l.length) (h2 : ∀ hl : k < l.length, p l[k] = false) : (l.takeWhile p).length = k := by
  induction k generalizing l with
  | zero =>
    cases l with
    | nil => rfl
    | cons c r => rw [List.takeWhile_cons, if_neg (by have := h2 (by simp); simpa using this)]; rfl
  | succ k ih =>
    cases l with
    | nil => simp at hk
    | cons c r =>
      have hc : p c = true := h1 0 (by omega) (by simp)
      rw [List.takeWhile_cons, if_pos hc, List.length_cons, ih r (fun j hj hl => by have h := h1 (j + 1) (by omega) (by simpa using hl); rwa [List.getElem_cons_succ] at h) (by simpa using hk) (fun hl => by have h := h2 (by simpa using hl); rwa [List.getElem_cons_succ] at h)]

theorem r_blanks_any (g : Nat) (S : ByteArray) (a : Nat) (w : World) (h : WkT w g S a) :
    Calls Tryz.prog 26 #[.pointer (some ⟨g, 0, none⟩)] w fun e w' => e = .returned (.int .i64 (((S.data.toList.drop a).takeWhile isBl).length : Int)) ∧ WkT w' g S (a + ((S.data.toList.drop a).takeWhile isBl).length) ∧ Fr (Just g) w w' := by
  go_enter Tryz.func26, Tryz.ntmps26
  go_wp2
  have H := Lib.hid h
  clear h
  go_loopw [3] (fun nv wr => ∃ k : Nat, nv = .int .i64 (k : Int) ∧ WkT wr g S (a + k) ∧ Fr (Just g) w wr ∧ ∀ j (hj : j < k) (hl : j < (S.data.toList.drop a).length), isBl (S.data.toList.drop a)[j] = true) (fun nv _ => S.size - (intOf nv).toNat)
  case atStart => exact ⟨0, rfl, H.out, Fr.refl _ _, fun j hj => by omega⟩
  case round =>
    obtain ⟨k, rfl, hw, hf, hall⟩ := hrel
    have c0 : wr.cell? ⟨g, 0, none⟩ = some (.string S) := hw.blk.cell 0
    have c1 : wr.cell? ⟨g, 1, none⟩ = some (.int .i64 ((a + k : Nat) : Int)) := hw.blk.cell 1
    have z1 := hw.blk.frozen 1
    have hle := hw.le
    have hsm := hw.small
    have hdl : (S.data.toList.drop a).length = S.size - a := by simp
    have HW := Lib.hid hw; have HALL := Lib.hid hall; have HDL := Lib.hid hdl
    clear hw hall hdl
    obtain ⟨t, ht⟩ : ∃ t, a + k = t := ⟨_, rfl⟩
    rw [ht] at c1 hle
    have HT := Lib.hid ht
    have hkb : k ≤ 65536 := by omega
    by_cases hlt : t < S.size
    · have hltI : (t : Int) < (S.size : Int) := by omega
      obtain ⟨x, hx⟩ : ∃ x, S[t] = x := ⟨_, rfl⟩
      have hxl : ∀ hl : k < (S.data.toList.drop a).length, (S.data.toList.drop a)[k] = x := fun hl => by
        rw [← hx, byte_at S t hlt, List.getElem_drop]
        simp only [ht]
      have HXL := Lib.hid hxl
      clear hxl ht
      cases hb : isBl x with
      | true =>
        have hq := fun u => r_blank_any x u
        rw [hb] at hq
        have HB := Lib.hid hb; have HQ := Lib.hid hq
        clear hb hq
        go_wp2
        go_quiet ((go_at_call 46; exact quiet_same (HQ.out _)))
        go_wp2
        go_roundw
        case rel =>
          have h1 := HT.out
          have h2 := (HW.out.no ((Fr.refl No wr).drewN nq)).set (b := t + 1) (by omega)
          refine ⟨k + 1, by go_num, ?_, (hf.drewN nq).setCell (p := ⟨g, 1, none⟩) (.inl (Just.at g)) _, fun j hj hl => ?_⟩
          · rw [show a + (k + 1) = t + 1 by omega]
            have e : ((t + 1 : Nat) : Int) = (t : Int) + 1 := by omega
            rw [e] at h2
            exact h2
          · by_cases hjk : j = k
            · subst hjk; rw [HXL.out hl]; exact HB.out
            · exact HALL.out j (by omega) hl
        case measure =>
          have := HT.out
          simp [intOf]
          omega
      | false =>
        have HB := Lib.hid hb
        clear hb
        have hlen := take_while_len isBl (S.data.toList.drop a) k HALL.out (by rw [HDL.out]; have := HT.out; omega) (fun hl => by rw [HXL.out hl]; exact HB.out)
        have HLEN := Lib.hid hlen
        have hq := fun u => r_blank_any x u
        rw [HB.out] at hq
        have HQ := Lib.hid hq
        clear hlen hq
        go_wp2
        go_quiet ((go_at_call 46; exact quiet_same (HQ.out _)))
        go_wp2
        go_ret
        rw [HLEN.out, HT.out]
        exact ⟨rfl, by have h := HW.out.no ((Fr.refl No wr).drewN nq); rwa [HT.out] at h, hf.drewN nq⟩
    · have hltI : ¬ (t : Int) < (S.size : Int) := by omega
      have hlen := take_while_len isBl (S.data.toList.drop a) k HALL.out (by rw [HDL.out]; have := HT.out; omega) (fun hl => by rw [HDL.out] at hl; have := HT.out; omega)
      have HLEN := Lib.hid hlen
      clear hlen ht
      go_wp2
      go_quiet (fail)
      go_wp2
      go_ret
      rw [HLEN.out, HT.out]
      exact ⟨rfl, by have h := HW.out.no ((Fr.refl No wr).drewN nq); rwa [HT.out] at h, hf.drewN nq⟩
end Go.Proofs.YthkbdbgmfolpeaaGreatDoor
