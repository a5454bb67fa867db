/- The statements' own walk over a file: is, name. -/
import Derived.Test.YthkbdbgmfolpeaaGreatDoorRefTok1
namespace Go.Proofs.YthkbdbgmfolpeaaGreatDoor
open Go.RowKit
set_option maxHeartbeats 400000
set_option linter.unusedVariables false

theorem r_is_any (g : Nat) (S : ByteArray) (a : Nat) (P : ByteArray) (w : World) (h : WkT w g S a) (hP : P.size ≤ 65536) :
    Calls Tryz.prog 14 #[.pointer (some ⟨g, 0, none⟩), .string P] w fun e w' => e = .returned (.bool (isP P.data.toList (S.data.toList.drop a)).isSome) ∧ WkT w' g S (if (isP P.data.toList (S.data.toList.drop a)).isSome then a + P.size else a) ∧ Fr (Just g) w w' := by
  have c0 : w.cell? ⟨g, 0, none⟩ = some (.string S) := h.blk.cell 0
  have c1 : w.cell? ⟨g, 1, none⟩ = some (.int .i64 (a : Int)) := h.blk.cell 1
  have z1 := h.blk.frozen 1
  have hle := h.le
  have hsm := h.small
  have hdl : (S.data.toList.drop a).length = S.size - a := by simp
  have H := Lib.hid h
  clear h
  by_cases hlt : S.size < a + P.size
  · have hno : (isP P.data.toList (S.data.toList.drop a)).isSome = false := by
      cases hc : isP P.data.toList (S.data.toList.drop a) with
      | none => rfl
      | some r =>
        have h2 := (isP_len hc).2
        rw [hdl, size_list] at h2
        omega
    rw [hno]
    have hltI : (S.size : Int) < (a : Int) + (P.size : Int) := by omega
    clear hno hdl hlt
    go_enter Tryz.func14, Tryz.ntmps14
    go_wp2
    go_quiet (fail)
    go_wp2
    go_ret
    exact ⟨rfl, H.out.no ((Fr.refl No w).drewN nq), (Fr.refl _ w).drewN nq⟩
  · have hltI : ¬ (S.size : Int) < (a : Int) + (P.size : Int) := by omega
    have e1 : (a : Int) + (P.size : Int) ≤ (S.size : Int) := by omega
    have e2 : ((a : Int) + (P.size : Int)).toNat = a + P.size := by omega
    have e3 : (0 : Int) ≤ (a : Int) + (P.size : Int) := by omega
    have e5 : (a : Int) ≤ max ((a : Int) + (P.size : Int)) 0 := by omega
    have e8 : (0 : Int) ≤ (a : Int) + (P.size : Int) ∧ (a : Int) + (P.size : Int) ≤ (S.size : Int) := ⟨e3, e1⟩
    have e9 : (a : Int) ≤ (a : Int) + (P.size : Int) := by omega
    have e6 : IntKind.i64.wrap ((a : Int) + (P.size : Int)) = (a : Int) + (P.size : Int) := IntWalk.i64_in _ ⟨by omega, by omega⟩
    obtain ⟨Q, hQ⟩ : ∃ Q, S.extract a (a + P.size) = Q := ⟨_, rfl⟩
    have hQl : Q.data.toList = (S.data.toList.drop a).take P.size := by
      rw [← hQ]
      simp [List.take_drop]
    by_cases hQP : Q = P
    · have hyes : (isP P.data.toList (S.data.toList.drop a)).isSome = true := by
        unfold isP
        rw [if_pos, Option.isSome_some]
        rw [List.isPrefixOf_iff_prefix, ← hQP, hQl]
        exact List.take_prefix _ _
      rw [hyes]
      have HY := Lib.hid hyes
      have hQ2 : S.extract a (a + P.size) = P := hQ.trans hQP
      clear hyes hQl hdl hlt hQ hQP
      go_enter Tryz.func14, Tryz.ntmps14
      go_wp2
      go_quiet (fail)
      go_wp2
      go_ret
      have h2 := (H.out.no ((Fr.refl No w).drewN nq)).set (b := a + P.size) (by omega)
      exact ⟨rfl, by simpa using h2, ((Fr.refl _ w).drewN nq).setCell (p := ⟨g, 1, none⟩) (.inl (Just.at g)) _⟩
    · have hno : (isP P.data.toList (S.data.toList.drop a)).isSome = false := by
        cases hc : isP P.data.toList (S.data.toList.drop a) with
        | none => rfl
        | some r =>
          exfalso
          apply hQP
          have h1 := (isP_len hc).1
          have h2 : Q.data.toList = P.data.toList := by
            rw [hQl, h1, List.take_left' (size_list P)]
          have h3 : Q.data = P.data := Array.ext' h2
          cases Q; cases P; simp_all
      have hne : ¬ Q.toList = P.toList := by
        rw [ByteArray.toList_eq, ByteArray.toList_eq]
        intro e
        apply hQP
        have h3 : Q.data = P.data := Array.ext' e
        cases Q; cases P; simp_all
      have hneb : (Q.toList == P.toList) = false := by rw [beq_eq_false_iff_ne]; exact hne
      rw [hno]
      clear hno hQl hdl hlt hQP
      go_enter Tryz.func14, Tryz.ntmps14
      go_wp2
      go_quiet (fail)
      go_wp2
      go_ret
      exact ⟨rfl, H.out.no ((Fr.refl No w).drewN nq), (Fr.refl _ w).drewN nq⟩
end Go.Proofs.YthkbdbgmfolpeaaGreatDoor
