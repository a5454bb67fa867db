/- The statements' own walk over a file: the name here. -/
import Derived.Test.YthkbdbgmfolpeaaGreatDoorRefTok3
namespace Go.Proofs.YthkbdbgmfolpeaaGreatDoor
open Go.RowKit
set_option maxHeartbeats 400000
set_option linter.unusedVariables false

/-- the place of the walk at block g -/
def posOf (w : World) (g : Nat) : Nat := match w.cell? ⟨g, 1, none⟩ with
  | some (.int _ z) => z.toNat
  | _ => 0
theorem WkT.pos {w : World} {g : Nat} {S : ByteArray} {a : Nat} (h : WkT w g S a) : posOf w g = a := by
  have c1 : w.cell? ⟨g, 1, none⟩ = some (.int .i64 (a : Int)) := h.blk.cell 1
  unfold posOf
  rw [c1]
  simp
/-- a name, or nothing -/
def nameR (l : List UInt8) : List UInt8 := if nameOk (l.takeWhile isWi) then l.takeWhile isWi else []
theorem take_while_pre (p : UInt8 → Bool) (l : List UInt8) : l.takeWhile p = l.take (l.takeWhile p).length := (List.prefix_iff_eq_take.1 (List.takeWhile_prefix p))

theorem r_name_any (g : Nat) (S : ByteArray) (a : Nat) (w : World) (h : WkT w g S a) :
    Calls Tryz.prog 25 #[.pointer (some ⟨g, 0, none⟩)] w fun e w' => ∃ R : ByteArray, e = .returned (.string R) ∧ R.data.toList = nameR (S.data.toList.drop a) ∧ WkT w' g S (a + ((S.data.toList.drop a).takeWhile isWi).length) ∧ Fr (Just g) w w' := by
  have c1 : w.cell? ⟨g, 1, none⟩ = some (.int .i64 (a : Int)) := h.blk.cell 1
  have H := Lib.hid h
  clear h
  go_enter Tryz.func25, Tryz.ntmps25
  go_wp2
  go_loopw [] (fun wr => ∃ k : Nat, WkT wr g S (a + k) ∧ Fr (Just g) w wr ∧ ∀ j (hj : j < k) (hl : j < (S.data.toList.drop a).length), isWi (S.data.toList.drop a)[j] = true) (fun wr => S.size - posOf wr g)
  case atStart => exact ⟨0, H.out, Fr.refl _ _, fun j hj => by omega⟩
  case round =>
    obtain ⟨k, hw, hf, hall⟩ := hrel
    have c0 : wr.cell? ⟨g, 0, none⟩ = some (.string S) := hw.blk.cell 0
    have c1 : wr.cell? ⟨g, 1, none⟩ = some (.int .i64 ((a + k : Nat) : Int)) := hw.blk.cell 1
    have z1 := hw.blk.frozen 1
    have hle := hw.le
    have hsm := hw.small
    have hdl : (S.data.toList.drop a).length = S.size - a := by simp
    have hpos := hw.pos
    have HW := Lib.hid hw; have HALL := Lib.hid hall; have HDL := Lib.hid hdl; have HPOS := Lib.hid hpos
    clear hw hall hdl hpos
    obtain ⟨t, ht⟩ : ∃ t, a + k = t := ⟨_, rfl⟩
    rw [ht] at c1 hle
    have HT := Lib.hid ht
    have hkb : k ≤ 65536 := by omega
    by_cases hlt : t < S.size
    · have hltI : (t : Int) < (S.size : Int) := by omega
      obtain ⟨x, hx⟩ : ∃ x, S[t] = x := ⟨_, rfl⟩
      have hxl : ∀ hl : k < (S.data.toList.drop a).length, (S.data.toList.drop a)[k] = x := fun hl => by
        rw [← hx, byte_at S t hlt, List.getElem_drop]
        simp only [ht]
      have HXL := Lib.hid hxl
      clear hxl ht
      cases hb : isWi x with
      | true =>
        have hq := fun u => r_within_any x u
        rw [hb] at hq
        have HB := Lib.hid hb; have HQ := Lib.hid hq
        clear hb hq
        go_wp2
        go_quiet ((go_at_call 44; exact quiet_same (HQ.out _)))
        go_wp2
        have h1 := HT.out
        have h2 := (HW.out.no ((Fr.refl No wr).drewN nq)).set (b := t + 1) (by omega)
        have e : ((t + 1 : Nat) : Int) = (t : Int) + 1 := by omega
        rw [e] at h2
        go_roundw
        case rel =>
          refine ⟨k + 1, ?_, (hf.drewN nq).setCell (p := ⟨g, 1, none⟩) (.inl (Just.at g)) _, fun j hj hl => ?_⟩
          · rw [show a + (k + 1) = t + 1 by omega]
            exact h2
          · by_cases hjk : j = k
            · subst hjk; rw [HXL.out hl]; exact HB.out
            · exact HALL.out j (by omega) hl
        case measure =>
          have p2 := h2.pos
          have p1 := HPOS.out
          rw [p1, p2]
          omega
      | false =>
        have HB := Lib.hid hb
        clear hb
        have hlen := take_while_len isWi (S.data.toList.drop a) k HALL.out (by rw [HDL.out]; have := HT.out; omega) (fun hl => by rw [HXL.out hl]; exact HB.out)
        have HLEN := Lib.hid hlen
        have hq := fun u => r_within_any x u
        rw [HB.out] at hq
        have HQ := Lib.hid hq
        clear hlen hq
        have htk : t = a + ((S.data.toList.drop a).takeWhile isWi).length := by rw [HLEN.out]; exact HT.out.symm
        have hat : a ≤ t := by have := HT.out; omega
        have f1 : (0 : Int) ≤ (t : Int) ∧ (t : Int) ≤ (S.size : Int) := by omega
        have f2 : (0 : Int) ≤ (a : Int) ∧ (a : Int) ≤ (t : Int) := by omega
        obtain ⟨R, hR⟩ : ∃ R, S.extract a t = R := ⟨_, rfl⟩
        have hRl : R.data.toList = (S.data.toList.drop a).takeWhile isWi := by
          rw [take_while_pre, HLEN.out, ← hR, ← HT.out]
          simp [List.take_drop]
        have hRs : R.size ≤ 65536 := by rw [← size_list, hRl]; have h1 := (List.takeWhile_prefix isWi (l := S.data.toList.drop a)).length_le; rw [HDL.out] at h1; omega
        have hres : nameR (S.data.toList.drop a) = if nameOk R.data.toList then R.data.toList else [] := by unfold nameR; rw [hRl]
        have HRES := Lib.hid hres
        have hnm := fun u => r_Name_any R u hRs
        have HK := Lib.hid htk
        cases hok : nameOk R.data.toList with
        | true =>
          rw [hok] at hnm
          have HN := Lib.hid hnm; have HOK := Lib.hid hok
          clear hnm hok hRl hres htk hRs
          go_wp2
          go_quiet ((go_at_call 44; exact quiet_same (HQ.out _)))
          go_wp2
          go_quiet (fail)
          go_wp2_with (go_at_call 45; refine (HN.out _).mono ?_; rintro e w2 ⟨rfl, hd2⟩)
          go_ret
          have hdw : Dr wr w2 := by first | exact (((Dr.refl wr).drewN _).drewN _).trans hd2 | exact ((Dr.refl wr).drewN _).trans hd2
          refine ⟨R, rfl, by rw [HRES.out, HOK.out]; rfl, ?_, hf.dr hdw⟩
          rw [← HK.out]
          have h := HW.out.no hdw.fr
          rwa [HT.out] at h
        | false =>
          rw [hok] at hnm
          have HN := Lib.hid hnm; have HOK := Lib.hid hok
          clear hnm hok hRl hres htk hRs
          go_wp2
          go_quiet ((go_at_call 44; exact quiet_same (HQ.out _)))
          go_wp2
          go_quiet (fail)
          go_wp2_with (go_at_call 45; refine (HN.out _).mono ?_; rintro e w2 ⟨rfl, hd2⟩)
          go_ret
          have hdw : Dr wr w2 := by first | exact (((Dr.refl wr).drewN _).drewN _).trans hd2 | exact ((Dr.refl wr).drewN _).trans hd2
          refine ⟨_, rfl, by rw [HRES.out, HOK.out]; rfl, ?_, hf.dr hdw⟩
          rw [← HK.out]
          have h := HW.out.no hdw.fr
          rwa [HT.out] at h
    · have hltI : ¬ (t : Int) < (S.size : Int) := by omega
      have hlen := take_while_len isWi (S.data.toList.drop a) k HALL.out (by rw [HDL.out]; have := HT.out; omega) (fun hl => by rw [HDL.out] at hl; have := HT.out; omega)
      have HLEN := Lib.hid hlen
      clear hlen ht
      have htk : t = a + ((S.data.toList.drop a).takeWhile isWi).length := by rw [HLEN.out]; exact HT.out.symm
      have hat : a ≤ t := by have := HT.out; omega
      have f1 : (0 : Int) ≤ (t : Int) ∧ (t : Int) ≤ (S.size : Int) := by omega
      have f2 : (0 : Int) ≤ (a : Int) ∧ (a : Int) ≤ (t : Int) := by omega
      obtain ⟨R, hR⟩ : ∃ R, S.extract a t = R := ⟨_, rfl⟩
      have hRl : R.data.toList = (S.data.toList.drop a).takeWhile isWi := by
        rw [take_while_pre, HLEN.out, ← hR, ← HT.out]
        simp [List.take_drop]
      have hRs : R.size ≤ 65536 := by rw [← size_list, hRl]; have h1 := (List.takeWhile_prefix isWi (l := S.data.toList.drop a)).length_le; rw [HDL.out] at h1; omega
      have hres : nameR (S.data.toList.drop a) = if nameOk R.data.toList then R.data.toList else [] := by unfold nameR; rw [hRl]
      have HRES := Lib.hid hres
      have hnm := fun u => r_Name_any R u hRs
      have HK := Lib.hid htk
      cases hok : nameOk R.data.toList with
      | true =>
        rw [hok] at hnm
        have HN := Lib.hid hnm; have HOK := Lib.hid hok
        clear hnm hok hRl hres htk hRs
        go_wp2
        go_quiet (fail)
        go_wp2
        go_quiet (fail)
        go_wp2_with (go_at_call 45; refine (HN.out _).mono ?_; rintro e w2 ⟨rfl, hd2⟩)
        go_ret
        have hdw : Dr wr w2 := by first | exact (((Dr.refl wr).drewN _).drewN _).trans hd2 | exact ((Dr.refl wr).drewN _).trans hd2
        refine ⟨R, rfl, by rw [HRES.out, HOK.out]; rfl, ?_, hf.dr hdw⟩
        rw [← HK.out]
        have h := HW.out.no hdw.fr
        rwa [HT.out] at h
      | false =>
        rw [hok] at hnm
        have HN := Lib.hid hnm; have HOK := Lib.hid hok
        clear hnm hok hRl hres htk hRs
        go_wp2
        go_quiet (fail)
        go_wp2
        go_quiet (fail)
        go_wp2_with (go_at_call 45; refine (HN.out _).mono ?_; rintro e w2 ⟨rfl, hd2⟩)
        go_ret
        have hdw : Dr wr w2 := by first | exact (((Dr.refl wr).drewN _).drewN _).trans hd2 | exact ((Dr.refl wr).drewN _).trans hd2
        refine ⟨_, rfl, by rw [HRES.out, HOK.out]; rfl, ?_, hf.dr hdw⟩
        rw [← HK.out]
        have h := HW.out.no hdw.fr
        rwa [HT.out] at h
end Go.Proofs.YthkbdbgmfolpeaaGreatDoor
