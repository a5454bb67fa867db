/- SimpleTimes: the walk. -/
import Derived.Test.YthnjnaiajohfiaaGreatDoorSimFix
import Derived.Test.YthnjnaiajohfiaaGreatDoorRefDig
import Derived.Great.BuildSlice
import Derived.Deep.CutRange
namespace Go.Proofs.YthnjnaiajohfiaaGreatDoor
open Go.RowKit
set_option maxHeartbeats 40000000
set_option linter.unusedVariables false

theorem two_any (m : Nat) (w : World) (hm : m < 100) : Calls Tryz.prog 21 #[.int .i64 (m : Int)] w fun e w' => e = .returned (.string (bstr (twoL m))) ∧ Fr No w w' := by
  have hc := fun u => ref_digits m 2 u (by omega)
  obtain ⟨t1, t2⟩ := two_wide m hm
  rw [t1, t2] at hc
  have hi : (m : Int) < 100 := by omega
  have HC := Lib.hid hc
  clear hc t1 t2
  go_enter Tryz.func21, Tryz.ntmps21
  go_wp2_with (go_at_call 20; refine (HC.out _).mono ?_; rintro e w1 ⟨rfl, hf1⟩)
  go_ret
  exact ⟨rfl, hf1⟩

def tabZ : List Int := [0, 31, 28, 31, 30, 31, 30, 31, 31, 30, 31, 30, 31, 0, 0]
theorem tab_cell (w : World) (t : TypeId) (M : Nat) (h : M < 15) : (w.alloc (.cells (tabZ.map (Value.int .i64)).toArray t)).cell? ⟨w.heap.size, M, none⟩ = some (.int .i64 (tabD.getD M 0 : Nat)) := by
  rw [(Bk.new w t _).cell M]
  rcases (by omega : M = 0 ∨ M = 1 ∨ M = 2 ∨ M = 3 ∨ M = 4 ∨ M = 5 ∨ M = 6 ∨ M = 7 ∨ M = 8 ∨ M = 9 ∨ M = 10 ∨ M = 11 ∨ M = 12 ∨ M = 13 ∨ M = 14) with rfl | rfl | rfl | rfl | rfl | rfl | rfl | rfl | rfl | rfl | rfl | rfl | rfl | rfl | rfl
  all_goals rfl
/-- the literal of the months' days, at its operation: the new block by a letter -/
theorem tab_build {ops : Array Oper} {rest : List Oper} {o : Oper} {a : Act} {w : World} {Q : Exit → Act → World → Prop} (hg : o.guard = none) (parts : Array (Nat × Operand)) (ho : o.op = .buildSlice 38 15 parts)
    (hparts : parts.toList = (tabZ.zipIdx 0).map fun x => (x.2, Operand.const (Value.int .i64 x.1))) (M : Nat) (hM : M < 15)
    (h : ∀ w' g, Fr No w w' → w'.cell? ⟨g, M, none⟩ = some (.int .i64 (tabD.getD M 0 : Nat)) → wpList Tryz.prog ops Q rest (a.put o.dst (.slice (some ⟨g, 0, none⟩) 15 15)) w') : wpList Tryz.prog ops Q (o :: rest) a w := by
  refine wpList_buildFlat hg 38 3 15 parts ho .i64 tabZ Tryz.underlying38 (by kernel_rfl) (by kernel_rfl) rfl (by decide) (by decide) hparts ?_
  exact h _ _ ((Fr.refl No w).alloc _) (tab_cell w 3 M hM)

set_option maxRecDepth 100000 in
theorem simTimes_walk {y m d h n c : Int} (w : World) (hT : Tabs w) (hy : (Lit.int .i64 y).wf = true) (hm : (Lit.int .i64 m).wf = true) (hd : (Lit.int .i64 d).wf = true) (hh : (Lit.int .i64 h).wf = true) (hn : (Lit.int .i64 n).wf = true) (hc : (Lit.int .i64 c).wf = true) :
    Calls Tryz.prog 4 #[.int .i64 y, .int .i64 m, .int .i64 d, .int .i64 h, .int .i64 n, .int .i64 c] w fun e w' => e = .returned (.bool true) ∧ Fr No w w' := by
  obtain ⟨Y, hY, eY⟩ := umod y 10000 (by omega) (by omega)
  obtain ⟨M, hM, eM⟩ := umod m 15 (by omega) (by omega)
  obtain ⟨D, hD, eD⟩ := umod d 34 (by omega) (by omega)
  obtain ⟨H, hH, eH⟩ := umod h 26 (by omega) (by omega)
  obtain ⟨N, hN, eN⟩ := umod n 62 (by omega) (by omega)
  obtain ⟨C, hC, eC⟩ := umod c 62 (by omega) (by omega)
  simp only [Int.cast_ofNat_Int] at eY eM eD eH eN eC
  have hlaw := timeP_law Y M D H N C hM
  have htl := timeL_is Y M D H N C hY (by omega) (by omega) (by omega) (by omega) (by omega)
  obtain ⟨g1, g2, g3, g4⟩ := four_digits Y hY
  have a0 := fun u => ref_digits Y 4 u (by omega)
  rw [g4] at a0
  have a1 := fun u => two_any M u (by omega)
  have a2 := fun u => two_any D u (by omega)
  have a3 := fun u => two_any H u (by omega)
  have a4 := fun u => two_any N u (by omega)
  have a5 := fun u => two_any C u (by omega)
  have hcat : (bstr (textR Y 4) ++ bstr (twoL M) ++ bstr (twoL D) ++ bstr (twoL H) ++ bstr (twoL N) ++ bstr (twoL C)).data.toList = timeL Y M D H N C := by
    rw [s_app, s_app, s_app, s_app, s_app]
    simp only [bstr_data]
    rfl
  have z0 : (bstr (textR Y 4)).size = 4 := by rw [bstr_size]; exact g1
  have z1 : (bstr (twoL M)).size = 2 := by rw [bstr_size]; rfl
  have z2 : (bstr (twoL D)).size = 2 := by rw [bstr_size]; rfl
  have z3 : (bstr (twoL H)).size = 2 := by rw [bstr_size]; rfl
  have z4 : (bstr (twoL N)).size = 2 := by rw [bstr_size]; rfl
  have z5 : (bstr (twoL C)).size = 2 := by rw [bstr_size]; rfl
  generalize bstr (textR Y 4) = X0 at *
  generalize bstr (twoL M) = X1 at *
  generalize bstr (twoL D) = X2 at *
  generalize bstr (twoL H) = X3 at *
  generalize bstr (twoL N) = X4 at *
  generalize bstr (twoL C) = X5 at *
  have q0 : X0.size ≤ 4 := by omega
  have q1 : X1.size ≤ 4 := by omega
  have q2 : X2.size ≤ 4 := by omega
  have q3 : X3.size ≤ 4 := by omega
  have q4 : X4.size ≤ 4 := by omega
  have q5 : X5.size ≤ 4 := by omega
  obtain ⟨T, hTT⟩ : ∃ T, X0 ++ X1 ++ X2 ++ X3 ++ X4 ++ X5 = T := ⟨_, rfl⟩
  rw [hTT] at hcat
  obtain ⟨S, hS⟩ : ∃ S : ByteArray, S.data.toList = timeTextR T.data.toList := ⟨⟨(timeTextR T.data.toList).toArray⟩, by simp⟩
  have hTs : T.size ≤ maxLen := by rw [← s_size, hcat, htl.2]; decide
  have b1 := fun u => fix_timetext T S u hTs hS
  have b2 := fun u => s_time_any T u hTs
  rw [hcat] at b1 b2
  obtain ⟨L, hL⟩ : ∃ L, tabD.getD M 0 = L := ⟨_, rfl⟩
  have hlast : lastD Y M = if M = 2 ∧ (Y % 400 = 0 ∨ Y % 4 = 0 ∧ Y % 100 ≠ 0) then 29 else L := by unfold lastD; rw [hL]
  have i1 : (M : Int) < 15 := by omega
  have i2 : (Y : Int) < 10000 := by omega
  have i3 : (D : Int) < 34 := by omega
  have i4 : (H : Int) < 26 := by omega
  have i5 : (N : Int) < 62 := by omega
  have i6 : (C : Int) < 62 := by omega
  have hcell0 : True := trivial
  have tokT : True := trivial
  have A0 := Lib.hid a0; have A1 := Lib.hid a1; have A2 := Lib.hid a2; have A3 := Lib.hid a3; have A4 := Lib.hid a4; have A5 := Lib.hid a5
  have HTT := Lib.hid hTT; have HL := Lib.hid hL; have HLAST := Lib.hid hlast; have HLAW := Lib.hid hlaw; have B1 := Lib.hid b1; have B2 := Lib.hid b2; have HS := Lib.hid hS; have HCAT := Lib.hid hcat; have HTL := Lib.hid htl; have HTS := Lib.hid hTs
  clear a0 a1 a2 a3 a4 a5 b1 b2 hlaw htl g1 g2 g3 g4 hcat z0 z1 z2 z3 z4 z5 hS hL hlast hTT hTs
  go_enter Tryz.func4, Tryz.ntmps4
  go_upto_region 6 with (first
    | (go_at_call 20; (with_reducible refine (A0.out _).mono ?_); rintro e w0 ⟨rfl, f0⟩)
    | (go_at_call 21; (with_reducible refine (A1.out _).mono ?_); rintro e w1 ⟨rfl, f1⟩)
    | (go_at_call 21; (with_reducible refine (A2.out _).mono ?_); rintro e w2 ⟨rfl, f2⟩)
    | (go_at_call 21; (with_reducible refine (A3.out _).mono ?_); rintro e w3 ⟨rfl, f3⟩)
    | (go_at_call 21; (with_reducible refine (A4.out _).mono ?_); rintro e w4 ⟨rfl, f4⟩)
    | (go_at_call 21; (with_reducible refine (A5.out _).mono ?_); rintro e w5 ⟨rfl, f5⟩)
    | (clear tokT; refine tab_build rfl _ rfl (by rfl) M hM ?_; rw [HL.out]; intro w6 g f6 hcl; (have t6 := ((((((hT.fr f0).fr f1).fr f2).fr f3).fr f4).fr f5).fr f6); (have f7 := (((((f0.trans f1).trans f2).trans f3).trans f4).trans f5).trans f6); clear f0 f1 f2 f3 f4 f5 f6))
  rw [HTT.out]
  obtain ⟨lp, hlp⟩ : ∃ lp, decide (M = 2 ∧ (Y % 400 = 0 ∨ Y % 4 = 0 ∧ Y % 100 ≠ 0)) = lp := ⟨_, rfl⟩
  have HLP := Lib.hid hlp
  clear hlp hcl A0 A1 A2 A3 A4 A5 eY eM eD eH eN eC hy hm hd hh hn hc q0 q1 q2 q3 q4 q5
  go_cut [90] from 74 to 90 (fun v wx => v = .bool lp ∧ wx = w6)
  case first =>
    cases hk : ((M : Int) == 2) with
    | _ =>
      have HK := Lib.hid hk
      go_wp2_with fail
      all_goals
        go_meet
        refine ⟨?_, rfl⟩
        rw [← HLP.out]
        congr 1
        have hk2 := HK.out
        rw [Bool.eq_iff_iff]
        simp at hk2
        simp
        try omega
  case rest =>
    obtain ⟨rfl, rfl⟩ := hcut
    obtain ⟨ok, hok⟩ : ∃ ok, timeP Y M D H N C = ok := ⟨_, rfl⟩
    have HOK := Lib.hid hok
    clear hok
    obtain ⟨ld, hld⟩ : ∃ ld, lastD Y M = ld := ⟨_, rfl⟩
    have HLD := Lib.hid hld
    clear hld
    go_upto_if 90 with fail
    go_cut [17] from 74 to 90 (fun v wx => v = .int .i64 (ld : Int) ∧ wx = wc)
    case first =>
      cases lp with
      | true =>
        have e : 29 = ld := by rw [← HLD.out, HLAST.out, if_pos (of_decide_eq_true HLP.out)]
        subst e
        go_wp2_with fail
        go_meet
        exact ⟨rfl, rfl⟩
      | false =>
        have e : L = ld := by rw [← HLD.out, HLAST.out, if_neg (of_decide_eq_false HLP.out)]
        subst e
        go_wp2_with fail
        go_meet
        exact ⟨rfl, rfl⟩
    case rest =>
      obtain ⟨rfl, rfl⟩ := hcut
      go_upto_region 8 with fail
      go_cut [18] from 91 to 113 (fun v wx => v = .bool ok ∧ wx = wc)
      case first =>
        go_wp2_with fail
        all_goals
          go_meet
          refine ⟨?_, rfl⟩
          rw [← HOK.out]
          congr 1
          rw [HLAW.out, HLD.out, Bool.eq_iff_iff]
          simp
          try omega
      case rest =>
        obtain ⟨rfl, rfl⟩ := hcut
        have hok := HOK.out
        have htl := HTL.out
        have hcat := HCAT.out
        have hS := HS.out
        have b1 := B1.out
        have b2 := B2.out
        rw [hcat] at hS
        cases ok with
        | true =>
          have htb : timeB (timeL Y M D H N C) = true := htl.1.trans hok
          have e1 : timeTextE (timeL Y M D H N C) = 0 := by unfold timeTextE; rw [if_pos htb]
          rw [e1] at b1
          rw [htb] at b2
          have hS2 : S.data.toList = shownL (timeL Y M D H N C) := by rw [hS]; unfold timeTextR; rw [if_pos htb]
          obtain ⟨o1, o2⟩ := timeOf_shown htb
          have hSz : S.size = 19 := by rw [← s_size, hS2]; exact (hid_shown htl.2).2
          have b3 := fun u => fix_timeof S T u (by rw [hSz]; decide) (by rw [hS2, hcat]; unfold timeOfR; rw [if_pos o1, o2])
          have e3 : timeOfE S.data.toList = 0 := by rw [hS2]; unfold timeOfE; rw [if_pos o1]
          rw [e3] at b3
          have hSI : ((S.size : Int) == 19) = true := by rw [hSz]; rfl
          have C1 := Lib.hid b1; have C2 := Lib.hid b2; have C3 := Lib.hid b3
          clear hok htl hcat hS b1 b2 htb e1 hS2 o1 o2 hSz b3 e3 B1 B2 HS HCAT HTL HTS HOK HLAW HLAST HL HTT
          go_wp2_with (first
            | (go_at_call 8; (with_reducible refine (C1.out _).mono ?_); rintro e w8 ⟨rfl, d8⟩)
            | (go_at_call 10; (with_reducible refine (C3.out _).mono ?_); rintro e w9 ⟨rfl, d9⟩; (have t9 := (t6.dr d8).dr d9); (have f9 := (f7.dr d8).dr d9))
            | (go_at_call 7; refine (sim_awake _ t9).mono ?_; rintro e wa ⟨rfl, fa⟩)
            | (go_at_call 16; (with_reducible refine (C2.out _).mono ?_); rintro e wb ⟨rfl, db⟩))
          go_ret
          exact ⟨rfl, (f9.trans fa).dr db⟩
        | false =>
          have htb : timeB (timeL Y M D H N C) = false := htl.1.trans hok
          have e1 : timeTextE (timeL Y M D H N C) = 14 := by unfold timeTextE; rw [htb]; rfl
          rw [e1] at b1
          rw [htb] at b2
          have hS2 : S.data.toList = [] := by rw [hS]; unfold timeTextR; rw [htb]; rfl
          have b3 := fun u => s_timeof_any S u (by rw [← s_size, hS2]; decide)
          have C1 := Lib.hid b1; have C2 := Lib.hid b2; have C3 := Lib.hid b3
          clear hok htl hcat hS b1 b2 htb e1 hS2 b3 B1 B2 HS HCAT HTL HTS HOK HLAW HLAST HL HTT
          go_wp2_with (first
            | (go_at_call 8; (with_reducible refine (C1.out _).mono ?_); rintro e w8 ⟨rfl, d8⟩)
            | (go_at_call 10; (with_reducible refine (C3.out _).mono ?_); rintro e w9 ⟨S9, rfl, q9, d9⟩; clear q9; (have t9 := (t6.dr d8).dr d9); (have f9 := (f7.dr d8).dr d9))
            | (go_at_call 7; refine (sim_awake _ t9).mono ?_; rintro e wa ⟨rfl, fa⟩)
            | (go_at_call 16; (with_reducible refine (C2.out _).mono ?_); rintro e wb ⟨rfl, db⟩))
          go_ret
          exact ⟨rfl, (f9.trans fa).dr db⟩
end Go.Proofs.YthnjnaiajohfiaaGreatDoor
