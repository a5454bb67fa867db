/- TextRunes: of each character, written as Go writes it, whether it may be; cut it may not, unless it is of one byte: the walk, for every two numbers. -/
import Derived.Test.YtlhajpkjncancaaDoorTxtAwake
import Derived.Test.YtlhajpkjncancaaDoorTxtMath2
namespace Go.Proofs.YtlhajpkjncancaaDoor
open Go.RowKit
set_option maxHeartbeats 1000000
set_option linter.unusedVariables false

set_option maxRecDepth 100000 in
theorem runes_walk {z y : Int} (w : World) (hT : Tabs w) (hz : (Lit.int .i64 z).wf = true) (hy : (Lit.int .i64 y).wf = true) :
    Calls Tryd.prog 4 #[.int .i64 z, .int .i64 y] w fun e w' => e = .returned (.bool true) ∧ Fr No w w' := by
  obtain ⟨C, hC, hC1⟩ := rem_nat z 1200000 (by omega)
  obtain ⟨q, hq, hq1⟩ := rem_nat y 3 (by omega)
  obtain ⟨S, hS⟩ : ∃ S, Utf8.encode (C : Int) = S := ⟨_, rfl⟩
  have hSl : S.data.toList = encL C := by rw [← hS]; rfl
  have hsz : S.size = (encL C).length := by rw [← hSl]; simp
  by_cases hbad : 1114111 < C ∨ (55296 ≤ C ∧ C ≤ 57343)
  · have hu : utf8B S.data.toList = true := by rw [hSl, enc_bad hbad]; exact utf8_bad
    have hs : S.size ≤ 65536 := by rw [hsz, enc_bad hbad]; simp
    have HU := Lib.hid hu
    clear hu hSl hsz
    have hcs : 1114111 < (C : Int) ∨ (¬ 1114111 < (C : Int) ∧ 55296 ≤ (C : Int) ∧ (C : Int) ≤ 57343) := by omega
    clear hbad
    rcases hcs with h1 | ⟨h1, h2, h3⟩
    all_goals
      go_enter Tryd.func4, Tryd.ntmps4
      go_wp2_with (first
        | (go_at_call 19; refine (ref_char_any _ _).mono ?_; rintro e w' ⟨rfl, rfl⟩)
        | (go_at_call 8; refine (awake_any _).mono ?_; rintro e w0 ⟨rfl, hf0⟩)
        | (go_at_call 9; refine (text_utf8_any S _ hs).mono ?_; rw [HU.out]; rintro e w1 ⟨rfl, hf1⟩))
      go_ret
      exact ⟨rfl, hf0.trans hf1⟩
  · have hv1 : C ≤ 1114111 := by omega
    have hv2 : ¬ (55296 ≤ C ∧ C ≤ 57343) := by omega
    obtain ⟨-, g1, g2, -⟩ := enc_size hv1 hv2
    have hs : S.size ≤ 65536 := by omega
    have hk : (C : Int) ≤ 1114111 ∧ ((C : Int) < 55296 ∨ 57343 < (C : Int)) := by omega
    have hcs : (decide (1114111 < (C : Int)) = false ∧ decide (55296 ≤ (C : Int)) = false) ∨ (decide (1114111 < (C : Int)) = false ∧ decide (55296 ≤ (C : Int)) = true ∧ decide ((C : Int) ≤ 57343) = false) := by
      simp only [decide_eq_false_iff_not, decide_eq_true_iff]
      omega
    have hL1 : 1 ≤ (S.size : Int) := by omega
    have hL2 : (S.size : Int) ≤ 4 := by omega
    obtain ⟨D, hD⟩ : ∃ D : Int, (S.size : Int) - (1 + (q : Int)) = D := ⟨_, rfl⟩
    have hcut : (D ≤ 0 ∧ 1 = 1) ∨ (0 < D ∧ ∃ k : Nat, D = (k : Int) ∧ 0 < k ∧ k < S.size) := by
      by_cases h : D ≤ 0
      · exact .inl ⟨h, rfl⟩
      · exact .inr ⟨by omega, S.size - (1 + q), by omega, by omega, by omega⟩
    have HV1 := Lib.hid hv1; have HV2 := Lib.hid hv2; have HSL := Lib.hid hSl; have HSZ := Lib.hid hsz; have G1 := Lib.hid g1; have G2 := Lib.hid g2; have HS := Lib.hid hs
    clear hbad hv1 hv2 hSl hsz g1 g2 hs hk hL1 hL2
    have tok1 : True := trivial
    have tok2 : True := trivial
    have tok3 : True := trivial
    have e1 : utf8B ByteArray.empty.data.toList = true := by decide
    have e2 : runesN ByteArray.empty.data.toList = 0 := by decide
    have E1 := Lib.hid e1; have E2 := Lib.hid e2
    clear e1 e2
    rcases hcs with ⟨h1, h2⟩ | ⟨h1, h2, h3⟩
    all_goals
      rcases hcut with ⟨hk1, hk2⟩ | ⟨hk1, k, rfl, hk3, hk4⟩
      · have hmx : max (0 : Int) D = 0 := by omega
        have hex : S.extract 0 0 = ByteArray.empty := by simp
        clear hk1 hk2
        cases hcb : charB C with
        | true =>
          have hu : utf8B S.data.toList = true := by rw [HSL.out]; unfold utf8B; rw [cnt_enc HV1.out HV2.out, hcb]; rfl
          have hr : runesN S.data.toList = 1 := by rw [HSL.out]; unfold runesN; rw [cnt_enc HV1.out HV2.out, hcb]; rfl
          have HU := Lib.hid hu; have HR := Lib.hid hr; have HC := Lib.hid hcb
          clear hu hr hcb
          go_enter Tryd.func4, Tryd.ntmps4
          go_wp2_with (first
            | (go_at_call 19; refine (ref_char_any _ _).mono ?_; rw [HC.out]; rintro e w' ⟨rfl, rfl⟩)
            | (go_at_call 8; refine (awake_any _).mono ?_; rintro e w0 ⟨rfl, hf0⟩)
            | (go_at_call 9; clear tok1; refine (text_utf8_any S _ HS.out).mono ?_; rw [HU.out]; rintro e w1 ⟨rfl, hf1⟩)
            | (go_at_call 11; clear tok2; refine (text_runes_any S _ HS.out).mono ?_; rw [HR.out]; rintro e w2 ⟨rfl, hf2⟩)
            | (go_at_call 9; refine (text_utf8_any ByteArray.empty _ (by decide)).mono ?_; rw [E1.out]; rintro e w4 ⟨rfl, hf4⟩)
            | (go_at_call 11; refine (text_runes_any ByteArray.empty _ (by decide)).mono ?_; rw [E2.out]; rintro e w5 ⟨rfl, hf5⟩))
          go_ret
          exact ⟨rfl, (((hf0.trans hf1).trans hf2).trans hf4).trans hf5⟩
        | false =>
          have hu : utf8B S.data.toList = false := by rw [HSL.out]; unfold utf8B; rw [cnt_enc HV1.out HV2.out, hcb]; rfl
          have HU := Lib.hid hu; have HC := Lib.hid hcb
          clear hu hcb
          go_enter Tryd.func4, Tryd.ntmps4
          go_wp2_with (first
            | (go_at_call 19; refine (ref_char_any _ _).mono ?_; rw [HC.out]; rintro e w' ⟨rfl, rfl⟩)
            | (go_at_call 8; refine (awake_any _).mono ?_; rintro e w0 ⟨rfl, hf0⟩)
            | (go_at_call 9; clear tok1; refine (text_utf8_any S _ HS.out).mono ?_; rw [HU.out]; rintro e w1 ⟨rfl, hf1⟩)
            | (go_at_call 9; refine (text_utf8_any ByteArray.empty _ (by decide)).mono ?_; rw [E1.out]; rintro e w4 ⟨rfl, hf4⟩)
            | (go_at_call 11; refine (text_runes_any ByteArray.empty _ (by decide)).mono ?_; rw [E2.out]; rintro e w5 ⟨rfl, hf5⟩))
          go_ret
          exact ⟨rfl, ((hf0.trans hf1).trans hf4).trans hf5⟩
      · have hkU : (k : Int) ≤ 4 := by have := HSZ.out; have := G2.out; omega
        have hkI : (k : Int) ≤ (S.size : Int) := by omega
        obtain ⟨S2, hS2⟩ : ∃ S2, S.extract 0 k = S2 := ⟨_, rfl⟩
        have hS2l : S2.data.toList = (encL (C : Int)).take k := by
          rw [← hS2, ByteArray.data_extract, ← HSL.out]
          simp
        have hk5 : k < (encL (C : Int)).length := by rw [← HSZ.out]; exact hk4
        have hu2 : utf8B S2.data.toList = false := by rw [hS2l]; unfold utf8B; rw [cnt_enc_cut HV1.out HV2.out hk3 hk5]; rfl
        have hs2 : S2.size ≤ 65536 := by
          have : S2.data.toList.length = S2.size := by simp
          rw [hS2l, List.length_take] at this
          omega
        have hne : ¬ S2.toList = [] := by
          rw [ByteArray.toList_eq, hS2l]
          intro e
          have := congrArg List.length e
          rw [List.length_take, List.length_nil] at this
          omega
        have HU2 := Lib.hid hu2; have HS2 := Lib.hid hs2
        clear hk3 hk4 hk5 hu2 hs2 hS2l
        cases hcb : charB C with
        | true =>
          have hu : utf8B S.data.toList = true := by rw [HSL.out]; unfold utf8B; rw [cnt_enc HV1.out HV2.out, hcb]; rfl
          have hr : runesN S.data.toList = 1 := by rw [HSL.out]; unfold runesN; rw [cnt_enc HV1.out HV2.out, hcb]; rfl
          have HU := Lib.hid hu; have HR := Lib.hid hr; have HC := Lib.hid hcb
          clear hu hr hcb
          go_enter Tryd.func4, Tryd.ntmps4
          go_wp2_with (first
            | (go_at_call 19; refine (ref_char_any _ _).mono ?_; rw [HC.out]; rintro e w' ⟨rfl, rfl⟩)
            | (go_at_call 8; refine (awake_any _).mono ?_; rintro e w0 ⟨rfl, hf0⟩)
            | (go_at_call 9; clear tok1; refine (text_utf8_any S _ HS.out).mono ?_; rw [HU.out]; rintro e w1 ⟨rfl, hf1⟩)
            | (go_at_call 11; clear tok2; refine (text_runes_any S _ HS.out).mono ?_; rw [HR.out]; rintro e w2 ⟨rfl, hf2⟩)
            | (go_at_call 9; clear tok3; refine (text_utf8_any S2 _ HS2.out).mono ?_; rw [HU2.out]; rintro e w3 ⟨rfl, hf3⟩)
            | (go_at_call 9; refine (text_utf8_any ByteArray.empty _ (by decide)).mono ?_; rw [E1.out]; rintro e w4 ⟨rfl, hf4⟩)
            | (go_at_call 11; refine (text_runes_any ByteArray.empty _ (by decide)).mono ?_; rw [E2.out]; rintro e w5 ⟨rfl, hf5⟩))
          go_ret
          exact ⟨rfl, ((((hf0.trans hf1).trans hf2).trans hf3).trans hf4).trans hf5⟩
        | false =>
          have hu : utf8B S.data.toList = false := by rw [HSL.out]; unfold utf8B; rw [cnt_enc HV1.out HV2.out, hcb]; rfl
          have HU := Lib.hid hu; have HC := Lib.hid hcb
          clear hu hcb
          go_enter Tryd.func4, Tryd.ntmps4
          go_wp2_with (first
            | (go_at_call 19; refine (ref_char_any _ _).mono ?_; rw [HC.out]; rintro e w' ⟨rfl, rfl⟩)
            | (go_at_call 8; refine (awake_any _).mono ?_; rintro e w0 ⟨rfl, hf0⟩)
            | (go_at_call 9; clear tok1; refine (text_utf8_any S _ HS.out).mono ?_; rw [HU.out]; rintro e w1 ⟨rfl, hf1⟩)
            | (go_at_call 9; clear tok3; refine (text_utf8_any S2 _ HS2.out).mono ?_; rw [HU2.out]; rintro e w3 ⟨rfl, hf3⟩)
            | (go_at_call 9; refine (text_utf8_any ByteArray.empty _ (by decide)).mono ?_; rw [E1.out]; rintro e w4 ⟨rfl, hf4⟩)
            | (go_at_call 11; refine (text_runes_any ByteArray.empty _ (by decide)).mono ?_; rw [E2.out]; rintro e w5 ⟨rfl, hf5⟩))
          go_ret
          exact ⟨rfl, (((hf0.trans hf1).trans hf3).trans hf4).trans hf5⟩
end Go.Proofs.YtlhajpkjncancaaDoor
