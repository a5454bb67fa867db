/- The texts RefEle3, RefEle4, joined. -/
import Derived.Test.YthlgnmgjfgbffaaGreatDoorL46
import Derived.Test.YthlgnmgjfgbffaaGreatDoorL25
import Derived.Test.YthlgnmgjfgbffaaGreatDoorL06
import Derived.Deep.RegionLaw
/- The statements' own elements: Check, Write. -/
namespace Go.Proofs.YthlgnmgjfgbffaaGreatDoor
open Go.RowKit
set_option maxHeartbeats 1000000
set_option linter.unusedVariables false
set_option maxRecDepth 20000

theorem rf_get {no : Int} {r : FRow} (h : elFind no = some r) : elGet no = r := by unfold elGet; rw [h]; rfl
set_option maxRecDepth 20000 in
theorem r_CheckElement (no : Int) (A : Option Addr) (c : Nat) (d : List UInt8) (w : World) (hr : Rd w A d.length c (u8s d)) (hd : d.length ≤ 9223372036854775807) :
    Calls Tryz.prog 39 #[.agg #[.int .i64 no, .slice A d.length c]] w fun e w' => e = .returned (.int .i64 (chkEl no d)) ∧ Fr No w w' := by
  have HF := Lib.hid (fun u => r_Format no u)
  have hal := (Fr.refl No w).alloc (.cells #[.int .i64 no, .slice A d.length c] 24)
  have hbe : Bk (w.alloc (.cells #[.int .i64 no, .slice A d.length c] 24)) w.heap.size 24 [.int .i64 no, .slice A d.length c] := Bk.new w _ _
  have HAL := Lib.hid hal; have HBE := Lib.hid hbe
  cases hs : elFind no with
  | none =>
    have he : chkEl no d = 16 := by unfold chkEl; rw [hs]
    have hg : elGet no = elNone := by unfold elGet; rw [hs]; rfl
    rw [hs, hg] at HF
    rw [he]
    unfold FRow.fmtR at HF
    clear he hg hs hr hd hal hbe
    go_enter Tryz.func39, Tryz.ntmps39
    go_wp2_with (go_at_call 40; refine (HF.out _).mono ?_; rintro e w1 ⟨rfl, f1⟩; have F1 := Lib.hid (HAL.out.trans f1); clear f1)
    go_ret
    exact ⟨rfl, F1.out.alloc _⟩
  | some r =>
    have hm := (elFind_some hs).1
    have hrow := el_row hm
    rw [hs, rf_get hs] at HF
    have hty := fun (h9 : fitB r d.length = true) u (hf : Fr No w u) => r_typed hrow.2.2.2.2.1 (hr.no hf) (by have := (fit_bounds hm h9).2.2.1; omega)
    have he : chkEl no d = chkR r d := by unfold chkEl; rw [hs]
    rw [he]
    have hfit := fitB_iff (r := r) (n := d.length)
    have hk : chkR r d = if fitB r d.length = false then 17 else if typB r.kind d = false then 14 else 0 := rfl
    rw [hk]
    unfold FRow.fmtR at HF hty
    obtain ⟨rn, rk, rd, rt, rs⟩ := r
    dsimp only at HF hty hrow hfit ⊢
    obtain ⟨D, hD⟩ : ∃ D : Int, (rd : Int) = D := ⟨_, rfl⟩
    obtain ⟨T, hTT⟩ : ∃ T : Int, (rt : Int) = T := ⟨_, rfl⟩
    obtain ⟨m, hmm⟩ : ∃ m, d.length = m := ⟨_, rfl⟩
    rw [hD, hTT] at HF hty
    rw [hmm] at hty hfit HAL HBE hd ⊢
    generalize fitB _ m = FB at *
    generalize typB rk d = TB at *
    have h1 := hrow.1
    have HTY := Lib.hid hty
    clear hrow hty hk he hs hm hr hal hbe
    have HK1 : ∀ w1 : World, Fr No w w1 → Bk (w1.alloc (.cells #[.int .i64 rn, .int .i64 rk, .int .i64 D, .int .i64 T] 77)) w1.heap.size 77 [.int .i64 rn, .int .i64 rk, .int .i64 D, .int .i64 T] := fun w1 _ => Bk.new w1 _ _
    have HK1 := Lib.hid HK1
    by_cases h0 : rd = 0
    · have e0 : (D == 0) = true := by rw [beq_iff_eq]; omega
      rw [if_pos h0] at hfit
      by_cases h2 : m = rt
      · have e1 : ((m : Int) != T) = false := by rw [bne_eq_false_iff_eq]; omega
        have e2 : decide ((m : Int) < 1) = false := decide_eq_false (by omega)
        have e3 : decide (T < (m : Int)) = false := decide_eq_false (by omega)
        obtain rfl : FB = true := hfit.2 (by omega)
        clear hfit h0 h2 hD hTT h1
        cases TB
        all_goals
          go_enter Tryz.func39, Tryz.ntmps39
          go_wp2_with (first
            | (go_at_call 40; refine (HF.out _).mono ?_; rintro e w1 ⟨rfl, f1⟩; have F1 := Lib.hid (HAL.out.trans f1); have BE := HBE.out.no (f1.alloc (.cells #[.int .i64 rn, .int .i64 rk, .int .i64 D, .int .i64 T] 77)); have b1 := BE.cell 1; clear BE f1)
            | (go_at_call 74; refine (HTY.out (by simp) _ (F1.out.alloc _)).mono ?_; rintro e w2 ⟨rfl, f2⟩; have F2 := Lib.hid ((F1.out.alloc (.cells #[.int .i64 rn, .int .i64 rk, .int .i64 D, .int .i64 T] 77)).trans f2); clear f2))
          go_ret
          exact ⟨rfl, F2.out⟩
      · have e1 : ((m : Int) != T) = true := by rw [bne_iff_ne]; omega
        obtain rfl : FB = false := by rw [Bool.eq_false_iff]; intro h; have := hfit.1 h; omega
        clear hfit h0 h2 hD hTT h1
        go_enter Tryz.func39, Tryz.ntmps39
        go_wp2_with (first
          | (go_at_call 40; refine (HF.out _).mono ?_; rintro e w1 ⟨rfl, f1⟩; have F1 := Lib.hid (HAL.out.trans f1); have BE := HBE.out.no (f1.alloc (.cells #[.int .i64 rn, .int .i64 rk, .int .i64 D, .int .i64 T] 77)); have b1 := BE.cell 1; clear BE f1))
        go_ret
        exact ⟨rfl, F1.out.alloc _⟩
    · have e0 : (D == 0) = false := by rw [beq_eq_false_iff_ne]; omega
      rw [if_neg h0] at hfit
      by_cases h2 : m < 1
      · have e2 : decide ((m : Int) < 1) = true := decide_eq_true (by omega)
        obtain rfl : FB = false := by rw [Bool.eq_false_iff]; intro h; have := hfit.1 h; omega
        clear hfit h0 h2 hD hTT h1
        go_enter Tryz.func39, Tryz.ntmps39
        go_wp2_with (first
          | (go_at_call 40; refine (HF.out _).mono ?_; rintro e w1 ⟨rfl, f1⟩; have F1 := Lib.hid (HAL.out.trans f1); have BE := HBE.out.no (f1.alloc (.cells #[.int .i64 rn, .int .i64 rk, .int .i64 D, .int .i64 T] 77)); have b1 := BE.cell 1; clear BE f1))
        go_ret
        exact ⟨rfl, F1.out.alloc _⟩
      · have e2 : decide ((m : Int) < 1) = false := decide_eq_false (by omega)
        by_cases h3 : rt < m
        · have e3 : decide (T < (m : Int)) = true := decide_eq_true (by omega)
          obtain rfl : FB = false := by rw [Bool.eq_false_iff]; intro h; have := hfit.1 h; omega
          clear hfit h0 h2 h3 hD hTT h1
          go_enter Tryz.func39, Tryz.ntmps39
          go_wp2_with (first
            | (go_at_call 40; refine (HF.out _).mono ?_; rintro e w1 ⟨rfl, f1⟩; have F1 := Lib.hid (HAL.out.trans f1); have BE := HBE.out.no (f1.alloc (.cells #[.int .i64 rn, .int .i64 rk, .int .i64 D, .int .i64 T] 77)); have b1 := BE.cell 1; clear BE f1))
          go_ret
          exact ⟨rfl, F1.out.alloc _⟩
        · have e3 : decide (T < (m : Int)) = false := decide_eq_false (by omega)
          obtain rfl : FB = true := hfit.2 (by omega)
          clear hfit h0 h2 h3 hD hTT h1
          cases TB
          all_goals
            go_enter Tryz.func39, Tryz.ntmps39
            go_wp2_with (first
              | (go_at_call 40; refine (HF.out _).mono ?_; rintro e w1 ⟨rfl, f1⟩; have F1 := Lib.hid (HAL.out.trans f1); have BE := HBE.out.no (f1.alloc (.cells #[.int .i64 rn, .int .i64 rk, .int .i64 D, .int .i64 T] 77)); have b1 := BE.cell 1; clear BE f1)
              | (go_at_call 74; refine (HTY.out (by simp) _ (F1.out.alloc _)).mono ?_; rintro e w2 ⟨rfl, f2⟩; have F2 := Lib.hid ((F1.out.alloc (.cells #[.int .i64 rn, .int .i64 rk, .int .i64 D, .int .i64 T] 77)).trans f2); clear f2))
            go_ret
            exact ⟨rfl, F2.out⟩
end Go.Proofs.YthlgnmgjfgbffaaGreatDoor
/- The statements' own elements: Write, Read. -/
namespace Go.Proofs.YthlgnmgjfgbffaaGreatDoor
open Go.RowKit
set_option maxHeartbeats 1000000
set_option linter.unusedVariables false
set_option maxRecDepth 20000

/-- what the statements' own Write answers -/
def RWrtTo (l : List UInt8) (E : Int) (w : World) (e : Ending) (w' : World) : Prop := ∃ v, e = .returned (.tuple #[v, .int .i64 E]) ∧ OwnM w' w.heap.size v l ∧ Fr No w w'
theorem rwrt_no {no : Int} {d : List UInt8} (h : chkEl no d ≠ 0) (w : World) {w' : World} (hf : Fr No w w') : RWrtTo (wrtEl no d) (chkEl no d) w (.returned (.tuple #[.slice none 0 0, .int .i64 (chkEl no d)])) w' := by
  have : wrtEl no d = [] := by unfold wrtEl; rw [if_neg h]
  rw [this]
  exact ⟨_, rfl, ⟨rfl, .inl ⟨rfl, rfl⟩⟩, hf⟩
theorem rwrt_small {no : Int} {d : List UInt8} (h : chkEl no d = 0) : ∃ r, elFind no = some r ∧ (headEl r d.length).length ≤ 4 ∧ d.length ≤ 999 ∧ wrtEl no d = headEl r d.length ++ d ∧ (r.dig = 0 → headEl r d.length = []) := by
  obtain ⟨r, hr, hm, hc, hw, hl, h0⟩ := wrt_ok h
  have h1 := (chkR_ok hc).1
  have := head_len hm h1
  have := el_row hm
  have := fit_bounds hm h1
  exact ⟨r, hr, by omega, by omega, hw, head_none _⟩
set_option maxRecDepth 20000 in
theorem r_WriteElement (no : Int) (A : Option Addr) (c : Nat) (d : List UInt8) (w : World) (hr : Rd w A d.length c (u8s d)) (hd : d.length ≤ 9223372036854775807) :
    Calls Tryz.prog 13 #[.agg #[.int .i64 no, .slice A d.length c]] w (RWrtTo (wrtEl no d) (chkEl no d) w) := by
  have HF := Lib.hid (fun u => r_Format no u)
  have HC := Lib.hid (fun u (hf : Fr No w u) => r_CheckElement no A c d u (hr.no hf) hd)
  have hal := (Fr.refl No w).alloc (.cells #[.int .i64 no, .slice A d.length c] 24)
  have hbe : Bk (w.alloc (.cells #[.int .i64 no, .slice A d.length c] 24)) w.heap.size 24 [.int .i64 no, .slice A d.length c] := Bk.new w _ _
  have HAL := Lib.hid hal; have HBE := Lib.hid hbe; have HR := Lib.hid hr
  clear hal hbe hr
  by_cases hE : chkEl no d = 0
  · obtain ⟨r, hs, h4, h9, hw, hh⟩ := rwrt_small hE
    rw [hs, rf_get hs] at HF
    rw [hE] at HC ⊢
    rw [hw]
    unfold FRow.fmtR at HF
    have hdg := fun u => ref_digits d.length (r.dig : Int) u (by omega)
    have hu : IntKind.u64.wrap (d.length : Int) = (d.length : Int) := IntWalk.u64_in _ ⟨by omega, by omega⟩
    have hL : textR d.length (r.dig : Int) = headEl r d.length := rfl
    rw [hL] at hdg
    obtain ⟨rn, rk, rd, rt, rs⟩ := r
    dsimp only at HF hdg hh ⊢
    generalize textE d.length (rd : Int) = TE at *
    generalize headEl _ d.length = L at *
    obtain ⟨m, hmm⟩ : ∃ m, d.length = m := ⟨_, rfl⟩
    have HM := Lib.hid hmm
    rw [hmm] at hdg HAL HBE HR HC hd h9 hu ⊢
    obtain ⟨D, hD⟩ : ∃ D : Int, (rd : Int) = D := ⟨_, rfl⟩
    obtain ⟨T, hTT⟩ : ∃ T : Int, (rt : Int) = T := ⟨_, rfl⟩
    rw [hD, hTT] at HF
    rw [hD] at hdg
    have HDG := Lib.hid hdg; have H4 := Lib.hid h4; have H9 := Lib.hid h9; have HH := Lib.hid hh; have HDD := Lib.hid hD
    clear hdg h4 h9 hw hh hE hL hmm hTT hs
    have HLL : Hid (L.length ≤ 140737488355328) := Lib.hid (by have := H4.out; omega)
    by_cases h0 : 0 < D
    · go_enter Tryz.func13, Tryz.ntmps13
      go_wp2_with (first
        | (go_at_call 39; refine (HC.out _ HAL.out).mono ?_; rintro e w1 ⟨rfl, f1⟩; have F1 := Lib.hid (HAL.out.trans f1); have BE1 := Lib.hid (HBE.out.no f1); have b0 := (HBE.out.no f1).cell 0; clear f1)
        | (go_at_call 40; refine (HF.out _).mono ?_; rintro e w2 ⟨rfl, f2⟩; have BF2 := Bk.new w2 77 #[.int .i64 rn, .int .i64 rk, .int .i64 D, .int .i64 T]; have b2 := BF2.cell 2; have F2 := Lib.hid ((F1.out.trans f2).alloc (.cells #[.int .i64 rn, .int .i64 rk, .int .i64 D, .int .i64 T] 77)); have BE2 := Lib.hid (BE1.out.no (f2.alloc (.cells #[.int .i64 rn, .int .i64 rk, .int .i64 D, .int .i64 T] 77))); have b1 := BE2.out.cell 1; clear BF2 f2)
        | (go_at_call 8; refine (HDG.out _).mono ?_; rintro e w3 ⟨rfl, f3⟩; have F3 := Lib.hid (F2.out.trans f3); have BE3 := Lib.hid (BE2.out.no f3); clear f3)
        | (refine convM _ rfl (.tmp 32) rfl L rfl HLL.out ?_; intro cc w4 ho4 f4 hz4; have HO4 := Lib.hid ho4; have F4 := Lib.hid (F3.out.trans f4); have b41 := (BE3.out.no f4).cell 1; have HS3 := F3.out.size; clear ho4 f4 hz4)
        | (at_builtin; go_must (refine apM w4 rfl (.tmp 33) (.tmp 35) rfl w3.heap.size _ L rfl HO4.out A m c d rfl (HR.out.no F4.out) (by have := H4.out; have := H9.out; omega) (Nat.le_of_lt (ownM_lt HO4.out _ rfl).2) ?_); intro v5 w5 o5 g5 q5; have O5 := Lib.hid o5; have F5 := Lib.hid (F4.out.grown g5 (fun g e => .inr (Nat.le_trans F3.out.size (ownM_lt HO4.out g e).1))); clear o5 g5 q5))
      go_ret2
      exact ⟨_, rfl, ownM_low O5.out HS3, F5.out⟩
    · have hL : L = [] := HH.out (by have := HDD.out; omega)
      subst hL
      go_enter Tryz.func13, Tryz.ntmps13
      go_wp2_with (first
        | (go_at_call 39; refine (HC.out _ HAL.out).mono ?_; rintro e w1 ⟨rfl, f1⟩; have F1 := Lib.hid (HAL.out.trans f1); have BE1 := Lib.hid (HBE.out.no f1); have b0 := (HBE.out.no f1).cell 0; clear f1)
        | (go_at_call 40; refine (HF.out _).mono ?_; rintro e w2 ⟨rfl, f2⟩; have F3 := Lib.hid ((F1.out.trans f2).alloc (.cells #[.int .i64 rn, .int .i64 rk, .int .i64 D, .int .i64 T] 77)); have BE3 := Lib.hid (BE1.out.no (f2.alloc (.cells #[.int .i64 rn, .int .i64 rk, .int .i64 D, .int .i64 T] 77))); clear f2)
        | (refine convM _ rfl (.tmp 32) rfl [] rfl HLL.out ?_; intro cc w4 ho4 f4 hz4; have HO4 := Lib.hid (show OwnM w4 (w2.heap.size + 1) (.slice (some ⟨w2.heap.size + 1, 0, none⟩) 0 cc) [] by simpa using ho4); have F4 := Lib.hid (F3.out.trans f4); have b41 := (BE3.out.no f4).cell 1; have HS3 : w.heap.size ≤ w2.heap.size + 1 := (by have := F3.out.size; simpa using this); clear ho4 f4 hz4)
        | (at_builtin; go_must (refine apM w4 rfl (.tmp 33) (.tmp 35) rfl (w2.heap.size + 1) _ [] rfl HO4.out A m c d rfl (HR.out.no F4.out) (by have := H9.out; simp; omega) (Nat.le_of_lt (ownM_lt HO4.out _ rfl).2) ?_); intro v5 w5 o5 g5 q5; have O5 := Lib.hid o5; have F5 := Lib.hid (F4.out.grown g5 (fun g e => .inr (Nat.le_trans HS3 (ownM_lt HO4.out g e).1))); clear o5 g5 q5))
      go_ret2
      exact ⟨_, rfl, ownM_low O5.out HS3, F5.out⟩
  · have hEb : (chkEl no d != 0) = true := by rw [bne_iff_ne]; exact hE
    have HW := Lib.hid (fun w' (hf : Fr No w w') => rwrt_no hE w hf)
    obtain ⟨E, hEE⟩ : ∃ E, chkEl no d = E := ⟨_, rfl⟩
    rw [hEE] at HC HW hEb ⊢
    generalize wrtEl no d = WL at *
    generalize d.length = m at *
    clear hE hEE HF
    go_enter Tryz.func13, Tryz.ntmps13
    go_wp2_with (first
      | (go_at_call 39; refine (HC.out _ HAL.out).mono ?_; rintro e w1 ⟨rfl, f1⟩; have F1 := Lib.hid (HAL.out.trans f1); clear f1))
    go_ret2
    exact HW.out _ F1.out
end Go.Proofs.YthlgnmgjfgbffaaGreatDoor
