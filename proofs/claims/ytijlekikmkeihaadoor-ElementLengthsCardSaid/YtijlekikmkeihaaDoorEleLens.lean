/- ElementLengths: the walk, for any two numbers. -/
import Derived.Test.YtijlekikmkeihaaDoorEleFill
namespace Go.Proofs.YtijlekikmkeihaaDoor
open Go.RowKit
set_option maxHeartbeats 1000000
set_option linter.unusedVariables false
set_option linter.unusedSimpArgs false

theorem len_fact (r : FRow) (n : Nat) (hr : r ∈ elT) : chkR r (List.replicate n 55) = if (1 ≤ n ∧ n ≤ r.top) ∧ (0 < r.dig ∨ n = r.top) then 0 else 17 := by
  have hrow := el_row hr
  unfold chkR
  rw [List.length_replicate, typ_seven]
  have hf := fitB_iff (r := r) (n := n)
  by_cases h : (1 ≤ n ∧ n ≤ r.top) ∧ (0 < r.dig ∨ n = r.top)
  · have : fitB r n = true := hf.2 (by split <;> omega)
    rw [this, if_pos h]
    rfl
  · have : fitB r n = false := by
      rw [Bool.eq_false_iff]; intro hh
      have := hf.1 hh
      refine h ?_
      split at this <;> omega
    rw [this, if_neg h]
    rfl
theorem fmt_row4 {w : World} {g : Nat} {t : TypeId} {a b c d : Value} (h : Bk w g t [a, b, c, d]) : w.cell? ⟨g, 0, none⟩ = some a ∧ w.cell? ⟨g, 1, none⟩ = some b ∧ w.cell? ⟨g, 2, none⟩ = some c ∧ w.cell? ⟨g, 3, none⟩ = some d := ⟨h.cell 0, h.cell 1, h.cell 2, h.cell 3⟩
set_option maxRecDepth 20000 in
theorem eleLens_walk {no x : Int} (w : World) (hT : Tabs w) (hno : (Lit.int .i64 no).wf = true) (hx : (Lit.int .i64 x).wf = true) :
    Calls Tryd.prog 5 #[.int .i64 no, .int .i64 x] w fun e w' => e = .returned (.bool true) ∧ Fr No w w' := by
  obtain ⟨n, hn, en⟩ := umod x 1100 (by decide) (by decide)
  have en : (IntKind.u64.wrap x).tmod 1100 = (n : Int) := en
  have wn : IntKind.i64.wrap (n : Int) = (n : Int) := IntWalk.i64_in _ ⟨by omega, by omega⟩
  have wn2 : wrap64 (n : Int) = (n : Int) := IntWalk.wrap64_in _ ⟨by omega, by omega⟩
  have hx2 := wf_i64 hx
  have AW := Lib.hid (fun u (hu : Fr No w u) => awake_ele u (hT.fr hu))
  have OF := el_of_any no w hT
  have CK := fun (g : Nat) u (hu : Fr No w u) (h : Rd u (some ⟨g, 0, none⟩) n n (u8s (List.replicate n 55))) => by
    have hl : (List.replicate n (55 : UInt8)).length = n := List.length_replicate
    have := el_check_any no (some ⟨g, 0, none⟩) n (List.replicate n 55) u (by rw [hl]; exact h) (by omega) (hT.fr hu)
    rw [hl] at this
    exact this
  have hfacts : (∃ r, elFind no = some r ∧ (elGet no).no = no ∧ chkEl no (List.replicate n 55) = (if (1 ≤ n ∧ n ≤ (elGet no).top) ∧ (0 < (elGet no).dig ∨ n = (elGet no).top) then 0 else 17)) ∨ (elFind no = none ∧ chkEl no (List.replicate n 55) = 16) := by
    cases hs : elFind no with
    | none => exact .inr ⟨rfl, by unfold chkEl; rw [hs]⟩
    | some r =>
      have hm := elFind_some hs
      have hg : elGet no = r := by unfold elGet; rw [hs]; rfl
      refine .inl ⟨r, rfl, by rw [hg]; exact hm.2, ?_⟩
      rw [hg]
      unfold chkEl
      rw [hs]
      exact len_fact r n hm.1
  have HFA := Lib.hid hfacts
  unfold FRow.fmt at OF
  generalize elGet no = r at *
  obtain ⟨rn, rk, rd, rt, rs⟩ := r
  dsimp only at OF HFA
  obtain ⟨D, hD⟩ : ∃ D : Int, (rd : Int) = D := ⟨_, rfl⟩
  obtain ⟨T, hTT⟩ : ∃ T : Int, (rt : Int) = T := ⟨_, rfl⟩
  rw [hD, hTT] at OF
  generalize hCE : chkEl no (List.replicate n 55) = CE at *
  generalize hIS : (elFind no).isSome = IS at *
  have OF := Lib.hid OF; have CK := Lib.hid CK; have HD := Lib.hid hD; have HTT := Lib.hid hTT; have HIS := Lib.hid hIS
  clear hT hfacts hD hTT hIS hCE
  go_enter Tryd.func5, Tryd.ntmps5
  go_wp2_with (first
    | (go_at_call 10; refine OF.out.mono ?_; rintro e w1 ⟨rfl, f1⟩; have F1 := Lib.hid (f1.alloc (.cells #[.int .i64 rn, .int .i64 rk, .int .i64 D, .int .i64 T] 27)); have FB := Lib.hid (Bk.new w1 27 #[.int .i64 rn, .int .i64 rk, .int .i64 D, .int .i64 T]); have G1 := Lib.hid (show w.heap.size ≤ w1.heap.size + 1 by have := f1.size; omega); clear f1)
    | (at_make; go_must (refine mk8 _ rfl (.tmp 20) (.tmp 20) rfl .i64 .i64 _ _ n n rfl rfl (by omega) (by omega) (by omega) (by omega) ?_); intro w2 hb2 hf2 hs2; have F2 := Lib.hid (F1.out.trans hf2); have FB2 := Lib.hid (FB.out.no hf2); have B2 := Lib.hid (show Bk w2 (w1.heap.size + 1) 5 (u8s (List.replicate n 0)) by simpa using hb2); clear hb2 hf2 hs2))
  obtain ⟨g, hg⟩ : ∃ g, w1.heap.size + 1 = g := ⟨_, rfl⟩
  rw [hg] at B2 G1 ⊢
  go_loopw [24] (fun i wr => ∃ k : Nat, k ≤ n ∧ i = .int .i64 (k : Int) ∧ Bk wr g 5 (u8s (fillL 55 n k)) ∧ Fr (Just g) w2 wr) (fun i _ => n - (intOf i).toNat)
  case atStart => exact ⟨0, Nat.zero_le _, rfl, by rw [fillL_zero]; exact B2.out, Fr.refl _ _⟩
  case round =>
    obtain ⟨k, hk, rfl, hb, hf⟩ := hrel
    have HB := Lib.hid hb; have HFR := Lib.hid hf
    rcases Nat.lt_or_ge k n with hlt | hge
    · obtain ⟨u, hu⟩ : ∃ u, (u8s (fillL 55 n k))[k]? = some u := ⟨_, List.getElem?_eq_getElem (by rw [u8s_length, fillL_len _ _ _ hk]; exact hlt)⟩
      have hc : wr.cell? ⟨g, k, none⟩ = some u := by rw [hb.cell]; exact hu
      have hfz := hb.frozen k
      have HS := Lib.hid (fillL_set 55 n k hlt)
      clear hu hb hf
      go_wp2
      go_roundw
      case rel => exact ⟨k + 1, by omega, by go_num, by rw [← HS.out]; exact HB.out.set_ _ _, HFR.out.setCell (p := ⟨g, k, none⟩) (.inl (Just.at g)) _⟩
      case measure => simp [intOf]; omega
    · obtain rfl : k = n := by omega
      have hF := Lib.hid (F2.out.trans_just hf G1.out)
      have hrd := Lib.hid (fill_rd hb (by omega))
      have FB3 := Lib.hid (FB2.out.fr hf (fun e => by have e : w1.heap.size = g := e; omega))
      clear hb hf HFR HB en wn wn2 hge
      rcases HFA.out with ⟨r0, hs, rfl, hce⟩ | ⟨hs, rfl⟩
      · have hIS : IS = true := by rw [← HIS.out, hs]; rfl
        subst hIS
        have hD := HD.out
        have hT2 := HTT.out
        have hcs : ∃ (p q : Bool), decide ((1 : Int) ≤ (k : Int)) = p ∧ decide ((k : Int) ≤ T) = q := ⟨_, _, rfl, rfl⟩
        obtain ⟨p, q, hp, hq⟩ := hcs
        have hcs2 : ∃ (s t : Bool), decide (0 < D) = s ∧ ((k : Int) == T) = t := ⟨_, _, rfl, rfl⟩
        obtain ⟨s, t, hs2, ht2⟩ := hcs2
        have hCE : CE = if (p && q && (s || t)) = true then 0 else 17 := by
          rw [hce, ← hp, ← hq, ← hs2, ← ht2]
          congr 1
          simp only [Bool.and_eq_true, Bool.or_eq_true, decide_eq_true_eq, beq_iff_eq, eq_iff_iff]
          omega
        have HCE := Lib.hid hCE
        clear hce hD hT2 hCE hs HFA
        cases p <;> cases q <;> cases s <;> cases t
        all_goals
          have hCE := HCE.out
          simp only [Bool.and_true, Bool.and_false, Bool.or_true, Bool.or_false, Bool.true_and, Bool.false_and, Bool.true_or, Bool.false_or, if_true, if_false, Bool.false_eq_true, reduceCtorEq] at hCE
          subst hCE
          obtain ⟨a0, a1, a2, a3⟩ := fmt_row4 FB3.out
          go_wp2_with (first
            | (go_at_call 19; refine (CK.out _ _ hF.out hrd.out).mono ?_; rintro e w5 ⟨rfl, f5⟩; have F5 := Lib.hid (hF.out.trans f5); obtain ⟨y0, y1, y2, y3⟩ := fmt_row4 (FB3.out.no f5); have FB5 := Lib.hid (FB3.out.no f5); clear f5)
            | (go_at_call 9; refine (AW.out _ F5.out).mono ?_; rintro e w6 ⟨rfl, f6⟩; have F6 := Lib.hid (F5.out.trans f6); obtain ⟨x0, x1, x2, x3⟩ := fmt_row4 (FB5.out.no f6); clear f6))
          go_ret
          exact ⟨rfl, F6.out⟩
      · have hIS : IS = false := by rw [← HIS.out, hs]; rfl
        subst hIS
        clear hs HFA
        go_wp2_with (first
          | (go_at_call 19; refine (CK.out _ _ hF.out hrd.out).mono ?_; rintro e w5 ⟨rfl, f5⟩; have F5 := Lib.hid (hF.out.trans f5); clear f5)
          | (go_at_call 9; refine (AW.out _ F5.out).mono ?_; rintro e w6 ⟨rfl, f6⟩; have F6 := Lib.hid (F5.out.trans f6); clear f6))
        go_ret
        exact ⟨rfl, F6.out⟩
end Go.Proofs.YtijlekikmkeihaaDoor
