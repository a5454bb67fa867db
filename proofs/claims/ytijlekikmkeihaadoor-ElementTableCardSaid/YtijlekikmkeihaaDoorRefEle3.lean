/- The statements' own elements: Check, Write. -/
import Derived.Test.YtijlekikmkeihaaDoorRefEle2
import Derived.Test.YtijlekikmkeihaaDoorOwnM
import Derived.Test.YtijlekikmkeihaaDoorDigMath2
import Derived.Test.YtijlekikmkeihaaDoorEleMath
import Derived.Deep.RegionLaw
namespace Go.Proofs.YtijlekikmkeihaaDoor
open Go.RowKit
set_option maxHeartbeats 1000000
set_option linter.unusedVariables false

theorem rf_get {no : Int} {r : FRow} (h : elFind no = some r) : elGet no = r := by unfold elGet; rw [h]; rfl
set_option maxRecDepth 20000 in
theorem r_CheckElement (no : Int) (A : Option Addr) (c : Nat) (d : List UInt8) (w : World) (hr : Rd w A d.length c (u8s d)) (hd : d.length ≤ 140737488355328) :
    Calls Tryd.prog 20 #[.agg #[.int .i64 no, .slice A d.length c]] w fun e w' => e = .returned (.int .i64 (chkEl no d)) ∧ Fr No w w' := by
  have HF := Lib.hid (fun u => r_Format no u)
  have hal := (Fr.refl No w).alloc (.cells #[.int .i64 no, .slice A d.length c] 24)
  have hbe : Bk (w.alloc (.cells #[.int .i64 no, .slice A d.length c] 24)) w.heap.size 24 [.int .i64 no, .slice A d.length c] := Bk.new w _ _
  have HAL := Lib.hid hal; have HBE := Lib.hid hbe
  cases hs : elFind no with
  | none =>
    have he : chkEl no d = 16 := by unfold chkEl; rw [hs]
    have hg : elGet no = elNone := by unfold elGet; rw [hs]; rfl
    rw [hs, hg] at HF
    rw [he]
    unfold FRow.fmtR at HF
    clear he hg hs hr hd hal hbe
    go_enter Tryd.func20, Tryd.ntmps20
    go_wp2_with (go_at_call 11; refine (HF.out _).mono ?_; rintro e w1 ⟨rfl, f1⟩; have F1 := Lib.hid (HAL.out.trans f1); clear f1)
    go_ret
    exact ⟨rfl, F1.out.alloc _⟩
  | some r =>
    have hm := (elFind_some hs).1
    have hrow := el_row hm
    rw [hs, rf_get hs] at HF
    have hty := fun u (hf : Fr No w u) => r_typed hrow.2.2.2.2.1 (hr.no hf) hd
    have he : chkEl no d = chkR r d := by unfold chkEl; rw [hs]
    rw [he]
    have hfit := fitB_iff (r := r) (n := d.length)
    have hk : chkR r d = if fitB r d.length = false then 17 else if typB r.kind d = false then 14 else 0 := rfl
    rw [hk]
    unfold FRow.fmtR at HF hty
    obtain ⟨rn, rk, rd, rt, rs⟩ := r
    dsimp only at HF hty hrow hfit ⊢
    obtain ⟨D, hD⟩ : ∃ D : Int, (rd : Int) = D := ⟨_, rfl⟩
    obtain ⟨T, hTT⟩ : ∃ T : Int, (rt : Int) = T := ⟨_, rfl⟩
    obtain ⟨m, hmm⟩ : ∃ m, d.length = m := ⟨_, rfl⟩
    rw [hD, hTT] at HF hty
    rw [hmm] at hty hfit HAL HBE hd ⊢
    generalize fitB _ m = FB at *
    generalize typB rk d = TB at *
    have h1 := hrow.1
    have HTY := Lib.hid hty
    clear hrow hty hk he hs hm hr hal hbe
    have HK1 : ∀ w1 : World, Fr No w w1 → Bk (w1.alloc (.cells #[.int .i64 rn, .int .i64 rk, .int .i64 D, .int .i64 T] 27)) w1.heap.size 27 [.int .i64 rn, .int .i64 rk, .int .i64 D, .int .i64 T] := fun w1 _ => Bk.new w1 _ _
    have HK1 := Lib.hid HK1
    by_cases h0 : rd = 0
    · have e0 : (D == 0) = true := by rw [beq_iff_eq]; omega
      rw [if_pos h0] at hfit
      by_cases h2 : m = rt
      · have e1 : ((m : Int) != T) = false := by rw [bne_eq_false_iff_eq]; omega
        have e2 : decide ((m : Int) < 1) = false := decide_eq_false (by omega)
        have e3 : decide (T < (m : Int)) = false := decide_eq_false (by omega)
        obtain rfl : FB = true := hfit.2 (by omega)
        clear hfit h0 h2 hD hTT h1
        cases TB
        all_goals
          go_enter Tryd.func20, Tryd.ntmps20
          go_wp2_with (first
            | (go_at_call 11; refine (HF.out _).mono ?_; rintro e w1 ⟨rfl, f1⟩; have F1 := Lib.hid (HAL.out.trans f1); have BE := HBE.out.no (f1.alloc (.cells #[.int .i64 rn, .int .i64 rk, .int .i64 D, .int .i64 T] 27)); have b1 := BE.cell 1; clear BE f1)
            | (go_at_call 33; refine (HTY.out _ (F1.out.alloc _)).mono ?_; rintro e w2 ⟨rfl, f2⟩; have F2 := Lib.hid ((F1.out.alloc (.cells #[.int .i64 rn, .int .i64 rk, .int .i64 D, .int .i64 T] 27)).trans f2); clear f2))
          go_ret
          exact ⟨rfl, F2.out⟩
      · have e1 : ((m : Int) != T) = true := by rw [bne_iff_ne]; omega
        obtain rfl : FB = false := by rw [Bool.eq_false_iff]; intro h; have := hfit.1 h; omega
        clear hfit h0 h2 hD hTT h1
        go_enter Tryd.func20, Tryd.ntmps20
        go_wp2_with (first
          | (go_at_call 11; refine (HF.out _).mono ?_; rintro e w1 ⟨rfl, f1⟩; have F1 := Lib.hid (HAL.out.trans f1); have BE := HBE.out.no (f1.alloc (.cells #[.int .i64 rn, .int .i64 rk, .int .i64 D, .int .i64 T] 27)); have b1 := BE.cell 1; clear BE f1))
        go_ret
        exact ⟨rfl, F1.out.alloc _⟩
    · have e0 : (D == 0) = false := by rw [beq_eq_false_iff_ne]; omega
      rw [if_neg h0] at hfit
      by_cases h2 : m < 1
      · have e2 : decide ((m : Int) < 1) = true := decide_eq_true (by omega)
        obtain rfl : FB = false := by rw [Bool.eq_false_iff]; intro h; have := hfit.1 h; omega
        clear hfit h0 h2 hD hTT h1
        go_enter Tryd.func20, Tryd.ntmps20
        go_wp2_with (first
          | (go_at_call 11; refine (HF.out _).mono ?_; rintro e w1 ⟨rfl, f1⟩; have F1 := Lib.hid (HAL.out.trans f1); have BE := HBE.out.no (f1.alloc (.cells #[.int .i64 rn, .int .i64 rk, .int .i64 D, .int .i64 T] 27)); have b1 := BE.cell 1; clear BE f1))
        go_ret
        exact ⟨rfl, F1.out.alloc _⟩
      · have e2 : decide ((m : Int) < 1) = false := decide_eq_false (by omega)
        by_cases h3 : rt < m
        · have e3 : decide (T < (m : Int)) = true := decide_eq_true (by omega)
          obtain rfl : FB = false := by rw [Bool.eq_false_iff]; intro h; have := hfit.1 h; omega
          clear hfit h0 h2 h3 hD hTT h1
          go_enter Tryd.func20, Tryd.ntmps20
          go_wp2_with (first
            | (go_at_call 11; refine (HF.out _).mono ?_; rintro e w1 ⟨rfl, f1⟩; have F1 := Lib.hid (HAL.out.trans f1); have BE := HBE.out.no (f1.alloc (.cells #[.int .i64 rn, .int .i64 rk, .int .i64 D, .int .i64 T] 27)); have b1 := BE.cell 1; clear BE f1))
          go_ret
          exact ⟨rfl, F1.out.alloc _⟩
        · have e3 : decide (T < (m : Int)) = false := decide_eq_false (by omega)
          obtain rfl : FB = true := hfit.2 (by omega)
          clear hfit h0 h2 h3 hD hTT h1
          cases TB
          all_goals
            go_enter Tryd.func20, Tryd.ntmps20
            go_wp2_with (first
              | (go_at_call 11; refine (HF.out _).mono ?_; rintro e w1 ⟨rfl, f1⟩; have F1 := Lib.hid (HAL.out.trans f1); have BE := HBE.out.no (f1.alloc (.cells #[.int .i64 rn, .int .i64 rk, .int .i64 D, .int .i64 T] 27)); have b1 := BE.cell 1; clear BE f1)
              | (go_at_call 33; refine (HTY.out _ (F1.out.alloc _)).mono ?_; rintro e w2 ⟨rfl, f2⟩; have F2 := Lib.hid ((F1.out.alloc (.cells #[.int .i64 rn, .int .i64 rk, .int .i64 D, .int .i64 T] 27)).trans f2); clear f2))
            go_ret
            exact ⟨rfl, F2.out⟩
end Go.Proofs.YtijlekikmkeihaaDoor
