/- The statements' own codes: contracts. -/
import Derived.Test.YtdfehdjpbmkaoaaDoorCodMath
import Derived.Test.YtdfehdjpbmkaoaaDoorHelpStr
import Derived.BigQuiet
import Derived.LoopTactic
namespace Go.Proofs.YtdfehdjpbmkaoaaDoor
open Go.RowKit
set_option maxHeartbeats 400000
set_option linter.unusedVariables false

theorem tabS_len : tabS.length = 22 := rfl
theorem tabS_get (k : Nat) (h : k < tabS.length) : tabS[k] = tabAt k := by
  unfold tabAt
  rw [List.getD_eq_getElem?_getD, List.getElem?_eq_getElem h]
  rfl
set_option maxRecDepth 20000 in
theorem r_table (w : World) : Calls Tryd.prog 40 #[] w fun e w' => ∃ A, e = .returned (.slice A 22 22) ∧ Rd w' A 22 22 (strs tabS) ∧ Fr No w w' := by
  go_enter Tryd.func40, Tryd.ntmps40
  go_wp2
  go_ret
  exact ⟨_, rfl, Rd.lits tabS _ 22 rfl (by simp [maxLen]), (Fr.refl No w).alloc _⟩
/-- a cell of the table -/
theorem tab_cell {w : World} {A : Option Addr} (h : Rd w A 22 22 (strs tabS)) {k : Nat} (hk : k < 22) : ∃ ad, A = some ad ∧ w.cell? (ad.add k) = some (.string (tabAt k)) := by
  obtain ⟨ad, u, rfl, hu, hc⟩ := h.at_ hk
  rw [strs_get tabS k (by rw [tabS_len]; exact hk), tabS_get] at hu
  injection hu with hu
  subst hu
  exact ⟨ad, rfl, hc⟩
theorem r_Words (S : ByteArray) (w : World) :
    Calls Tryd.prog 41 #[.string S] w fun e w' => e = .returned (.tuple #[.string (wS S), .string (wR S), .bool (wK S)]) ∧ Fr No w w' := by
  have ht := fun u => r_table u
  have HT := Lib.hid ht
  clear ht
  go_enter Tryd.func41, Tryd.ntmps41
  go_wp2_with (go_at_call 40; refine (HT.out _).mono ?_; rintro e w1 ⟨A, rfl, hA, hf1⟩)
  have HA := Lib.hid hA; have HF := Lib.hid hf1
  clear hA hf1
  go_loop [6] (fun v => ∃ k : Nat, k ≤ 22 ∧ v = .int .i64 (k : Int) ∧ ∀ j, j < k → ((cRow j).1 == S.data.toList) = false) (fun v => 22 - (intOf v).toNat)
  case atStart => exact ⟨0, by omega, rfl, fun j hj => by omega⟩
  case round =>
    obtain ⟨k, hk, rfl, hall⟩ := hrel
    have HALL := Lib.hid hall
    clear hall
    rcases Nat.lt_or_ge k 22 with hkn | hge
    · obtain ⟨ad, rfl, hc⟩ := tab_cell HA.out hkn
      obtain ⟨hsz, e1, e2, e3⟩ := tab_facts hkn
      generalize tabAt k = Tk at hc hsz e1 e2 e3
      obtain ⟨X, hX⟩ : ∃ X, Tk.extract 0 3 = X := ⟨_, rfl⟩
      obtain ⟨Y, hY⟩ : ∃ Y, Tk.extract 3 7 = Y := ⟨_, rfl⟩
      obtain ⟨Z, hZ⟩ : ∃ Z, Tk.extract 7 11 = Z := ⟨_, rfl⟩
      rw [hX] at e1
      rw [hY] at e2
      rw [hZ] at e3
      have hsI : (Tk.size : Int) = 11 := by omega
      cases hq : ((cRow k).1 == S.data.toList) with
      | true =>
        have hqb : (X.toList == S.toList) = true := by rw [s_beq, e1]; exact hq
        have hw := words_at (A := S) hkn HALL.out hq
        have h1 : wS S = Y := by unfold wS staC; rw [hw]; exact s_eq e2.symm
        have h2 : wR S = Z := by unfold wR reaC; rw [hw]; exact s_eq e3.symm
        have h3 : wK S = true := by unfold wK; rw [hw]; rfl
        have H123 := Lib.hid (And.intro h1 (And.intro h2 h3))
        clear h1 h2 h3 hw hq e1 e2 e3
        go_wp2
        go_quiet (fail)
        go_wp2
        go_ret3
        exact ⟨by rw [H123.out.1, H123.out.2.1, H123.out.2.2]; rfl, HF.out.drewN _⟩
      | false =>
        have hqb : (X.toList == S.toList) = false := by rw [s_beq, e1]; exact hq
        have HQ := Lib.hid hq
        clear hq e1 e2 e3
        go_wp2
        go_round
        case rel => exact ⟨k + 1, by omega, by go_num, fun j hj => by
          by_cases hjk : j = k
          · subst hjk; exact HQ.out
          · exact HALL.out j (by omega)⟩
        case measure => simp [intOf]; omega
    · obtain rfl : k = 22 := by omega
      have hw := words_no (A := S) HALL.out
      have h1 : wS S = ⟨#[]⟩ := by unfold wS staC; rw [hw]; rfl
      have h2 : wR S = ⟨#[]⟩ := by unfold wR reaC; rw [hw]; rfl
      have h3 : wK S = false := by unfold wK; rw [hw]; rfl
      have H123 := Lib.hid (And.intro h1 (And.intro h2 h3))
      clear h1 h2 h3 hw
      go_wp2
      go_ret3
      exact ⟨by rw [H123.out.1, H123.out.2.1, H123.out.2.2]; rfl, HF.out⟩
theorem r_Known (S : ByteArray) (w : World) :
    Calls Tryd.prog 25 #[.string S] w fun e w' => e = .returned (.bool (wK S)) ∧ Fr No w w' := by
  have hw := r_Words S w
  generalize wS S = x1 at hw
  generalize wR S = x2 at hw
  generalize wK S = x3 at hw ⊢
  have HW := Lib.hid hw
  clear hw
  go_enter Tryd.func25, Tryd.ntmps25
  go_wp2_with (go_at_call 41; refine HW.out.mono ?_; rintro e w1 ⟨rfl, hf1⟩)
  go_ret
  exact ⟨rfl, hf1⟩
theorem yB_eq (S : ByteArray) : yB S = ((wS S).toList == [65, 80, 80, 82] || (wS S).toList == [80, 65, 82, 84]) := by rw [s_list]; rfl
theorem acts_take (k : Nat) (hk : k < 22) (X : ByteArray) (hX : X.data.toList = (cRow k).1) : actsL.take (k + 1) = actsL.take k ++ [X] := by
  rw [List.take_succ_eq_append_getElem (by rw [actsL_len]; exact hk)]
  congr 2
  unfold actsL
  rw [List.getElem_map, ← cRow_at k (by rw [codT_len]; exact hk)]
  exact s_eq hX.symm
theorem r_Actions (w : World) :
    Calls Tryd.prog 24 #[] w fun e w' => ∃ v, e = .returned v ∧ w'.ownsRow w.heap.size 9 1 v 22 (strs actsL) ∧ Fr No w w' := by
  have ht := fun u => r_table u
  have HT := Lib.hid ht
  clear ht
  go_enter Tryd.func24, Tryd.ntmps24
  go_wp2_with (go_at_call 40; refine (HT.out _).mono ?_; rintro e w1 ⟨A, rfl, hA, hf1⟩)
  obtain ⟨B, hB⟩ : ∃ B, w1.heap.size = B := ⟨_, rfl⟩
  have hwB := hf1.size
  rw [hB] at hwB
  have HA := Lib.hid hA; have HF := Lib.hid hf1; have HB := Lib.hid hB
  clear hA hf1 hB
  go_loopw [1, 3] (fun lv v wr => ∃ k : Nat, k ≤ 22 ∧ v = .int .i64 (k : Int) ∧ wr.ownsRow B 9 1 lv k (strs (actsL.take k)) ∧ Fr No w1 wr) (fun _ v _ => 22 - (intOf v).toNat)
  case atStart => exact ⟨0, by omega, rfl, World.ownsRow_nil _ _ _ _, Fr.refl _ _⟩
  case round =>
    obtain ⟨k, hk, rfl, hown, hfr⟩ := hrel
    have hBs : B ≤ wr.heap.size := by rw [← HB.out]; exact hfr.size
    rcases Nat.lt_or_ge k 22 with hkn | hge
    · obtain ⟨ad, rfl, hc⟩ := tab_cell (HA.out.no hfr) hkn
      obtain ⟨hsz, e1, e2, e3⟩ := tab_facts hkn
      generalize tabAt k = Tk at hc hsz e1 e2 e3
      obtain ⟨X, hX⟩ : ∃ X, Tk.extract 0 3 = X := ⟨_, rfl⟩
      rw [hX] at e1
      have hsI : (Tk.size : Int) = 11 := by omega
      have hnx := acts_take k hkn X e1
      have hlt := hown.lt
      have HNX := Lib.hid hnx; have HOWN := Lib.hid hown; have HFR := Lib.hid hfr; have HLT := Lib.hid hlt
      clear e1 e2 e3 hnx hown hfr hlt
      go_wp2_with (at_builtin; go_must (refine apS_one wr rfl (.tmp 11) (.tmp 17) rfl B u1 k (actsL.take k) rfl HOWN.out X _ rfl (by omega) hBs ?_); intro v' w' ho' hg' hr')
      go_roundw
      case rel => exact ⟨k + 1, by omega, by go_num, by rw [HNX.out]; exact ho', (HFR.out.alloc _).grown hg' (fun g e => .inr (by rw [HB.out]; exact (HLT.out g e).1))⟩
      case measure => simp [intOf]; omega
    · obtain rfl : k = 22 := by omega
      have HOWN := Lib.hid hown
      clear hown
      go_wp2
      go_ret
      refine ⟨_, rfl, ?_, HF.out.trans hfr⟩
      have := HOWN.out
      rw [List.take_of_length_le (by rw [actsL_len]; exact Nat.le_refl _)] at this
      exact own_low this hwB
end Go.Proofs.YtdfehdjpbmkaoaaDoor
