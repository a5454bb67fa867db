/- TlvNeeds: the walk, for any three numbers. -/
import Derived.Test.YtbfodbejdaafaaaTlvAwake
import Derived.Test.YtbfodbejdaafaaaTlvMath2
import Derived.Deep.CutRange
namespace Go.Proofs.Ytbfodbejdaafaaa
open Go.RowKit
set_option maxHeartbeats 2000000
set_option linter.unusedVariables false

/-- one tag that was just laid -/
theorem lit1 (u : World) (t : Int) (ht : (Lit.int .i64 t).wf = true) {D : Option Addr} {n c : Nat} {d : List UInt8} (hD : Rd u D n c (u8s d)) (hn : n ≤ 1000) (hl : ∀ ad, D = some ad → 0 < n → ad.block < u.heap.size) (ty : TypeId) :
    RdI 2 TagI (u.alloc (.cells #[.int .i64 t, .slice D n c] ty)) (fun i => i < (u.alloc (.cells #[.int .i64 t, .slice D n c] ty)).heap.size) (some ⟨u.heap.size, 0, none⟩) 1 1 [(t, d)] := by
  refine ⟨⟨_, RdS.lit (s := 2) u [.int .i64 t, .slice D n c] ty 1 rfl (by simp [maxLen]), ItemsF.single ⟨D, n, c, rfl, hD.no ((Fr.refl No u).alloc _), fun ad e h0 => by have := hl ad e h0; simp; omega, ht, by omega⟩⟩, fun ad e _ => ?_⟩
  injection e with e
  subst e
  simp
theorem lit2 (u : World) (ty : TypeId) :
    RdI 2 TagI (u.alloc (.cells #[.int .i64 149, .slice none 0 0, .int .i64 149, .slice none 0 0] ty)) (fun i => i < (u.alloc (.cells #[.int .i64 149, .slice none 0 0, .int .i64 149, .slice none 0 0] ty)).heap.size) (some ⟨u.heap.size, 0, none⟩) 2 2 [(149, []), (149, [])] := by
  have hi : ∀ v : World, TagI v (fun i => i < (u.alloc (.cells #[.int .i64 149, .slice none 0 0, .int .i64 149, .slice none 0 0] ty)).heap.size) [.int .i64 149, .slice none 0 0] (149, []) := fun v => ⟨none, 0, 0, rfl, Rd.nil_ v, (fun ad e => nomatch e), by decide, by omega⟩
  refine ⟨⟨_, RdS.lit (s := 2) u [.int .i64 149, .slice none 0 0, .int .i64 149, .slice none 0 0] ty 2 rfl (by simp [maxLen]), ⟨[.int .i64 149, .slice none 0 0], [.int .i64 149, .slice none 0 0], rfl, hi _, ItemsF.single (hi _)⟩⟩, fun ad e _ => ?_⟩
  injection e with e
  subst e
  simp
theorem rowT_succ (k : Nat) : rowT (k + 1) = rowT k ++ [(32 + (k : Int), [])] := by unfold rowT; rw [List.range_succ, List.map_append]; rfl
theorem rowT_len (k : Nat) : (rowT k).length = k := by unfold rowT; simp
theorem n_add (a m : Nat) {N : Nat} (h : (N : Int) < (m : Int)) (hm : a + m < 100000) : ∃ n1 : Nat, (a : Int) + (N : Int) = (n1 : Int) ∧ wrap64 (n1 : Int) = (n1 : Int) ∧ n1 < a + m :=
  ⟨a + N, by omega, IntWalk.wrap64_in _ ⟨by omega, by omega⟩, by omega⟩
theorem one_val (T : Nat) (h : T < 70000) : wrE [((T : Int), [])] = if (oneB T || twoB T) = true then 0 else 18 := by
  rw [wrE_one]
  by_cases h1 : tgN (T : Int) = 0
  · rw [if_pos h1, if_neg (fun h2 => (tgN_is T).2 h2 h1)]
  · rw [if_neg h1, if_neg (by simp), if_pos ((tgN_is T).1 h1)]
theorem tdiv_nat (a b : Nat) : (a : Int).tdiv (b : Int) = ((a / b : Nat) : Int) := by rw [Int.tdiv_eq_ediv_of_nonneg (by omega)]; rfl
theorem tmod_nat (a b : Nat) : (a : Int).tmod (b : Int) = ((a % b : Nat) : Int) := by rw [Int.tmod_eq_emod_of_nonneg (by omega)]; rfl
set_option maxHeartbeats 8000000 in
attribute [local irreducible] yielded in
set_option maxRecDepth 20000 in
theorem needs_walk {a b c : Int} (w : World) :
    Calls Try.prog 5 #[.int .i64 a, .int .i64 b, .int .i64 c] w fun e w' => e = .returned (.bool true) ∧ Fr No w w' := by
  obtain ⟨T, hT, hTl⟩ := rem_nat a 70000 (by omega)
  obtain ⟨N, hN, hNl⟩ := rem_nat b 4 (by omega)
  obtain ⟨S, hS, hSl⟩ := rem_nat c 10 (by omega)
  have wT : IntKind.i64.wrap (T : Int) = (T : Int) := IntWalk.i64_in _ ⟨by omega, by omega⟩
  have wN : IntKind.i64.wrap (N : Int) = (N : Int) := IntWalk.i64_in _ ⟨by omega, by omega⟩
  have wS : IntKind.i64.wrap (S : Int) = (S : Int) := IntWalk.i64_in _ ⟨by omega, by omega⟩
  go_enter Try.func5, Try.ntmps5
  go_upto_region 2 with fail
  clear hT wT
  obtain ⟨o, ho⟩ : ∃ o, oneB T = o := ⟨_, rfl⟩
  obtain ⟨tw, htw⟩ : ∃ tw, twoB T = tw := ⟨_, rfl⟩
  have HO := Lib.hid ho; have HTW := Lib.hid htw
  clear ho htw
  go_cut [7] from 23 to 33 (fun v wx => v = .bool o ∧ wx = w)
  case first =>
    have hr : oneB T = (decide (0 < T) && decide (T < 255) && (T % 32 != 31)) := rfl
    rw [HO.out] at hr
    by_cases c1 : 0 < T
    · rw [decide_eq_true c1] at hr
      by_cases c2 : T < 255
      · have i2 : (T : Int) < 255 := by omega
        rw [decide_eq_true c2] at hr
        by_cases c3 : T % 32 = 31
        · have i3 : ((T : Int) % 32 != 31) = false := by rw [bne_eq_false_iff_eq]; omega
          have e : o = false := by rw [hr, c3]; rfl
          have HE := Lib.hid e
          clear c2 c3 hr e
          go_wp2_with fail
          go_meet
          exact ⟨by rw [HE.out], rfl⟩
        · have i3 : ((T : Int) % 32 != 31) = true := by rw [bne_iff_ne]; omega
          have e : o = true := by rw [hr]; simpa using c3
          have HE := Lib.hid e
          clear c2 c3 hr e
          go_wp2_with fail
          go_meet
          exact ⟨by rw [HE.out], rfl⟩
      · have i2 : ¬ (T : Int) < 255 := by omega
        rw [decide_eq_false c2] at hr
        have e : o = false := by rw [hr]; simp
        have HE := Lib.hid e
        clear c2 hr e
        go_wp2_with fail
        go_meet
        exact ⟨by rw [HE.out], rfl⟩
    · rw [decide_eq_false c1] at hr
      have e : o = false := by rw [hr]; simp
      have HE := Lib.hid e
      clear hr e
      go_wp2_with fail
      go_meet
      exact ⟨by rw [HE.out], rfl⟩
  case rest =>
    obtain ⟨rfl, rfl⟩ := hcut
    go_upto_region 3 with fail
    go_cut [8] from 34 to 50 (fun v wx => v = .bool tw ∧ wx = wc)
    case first =>
      have hr : twoB T = (decide (255 < T) && decide (T < 65280) && (T / 256 % 32 == 31) && decide (T % 256 < 128)) := rfl
      rw [HTW.out] at hr
      by_cases c1 : 255 < T
      · have i1 : (255 : Int) < (T : Int) := by omega
        rw [decide_eq_true c1] at hr
        by_cases c2 : T < 65280
        · have i2 : (T : Int) < 65280 := by omega
          rw [decide_eq_true c2] at hr
          by_cases c3 : T / 256 % 32 = 31
          · have i3 : ((T : Int) / 256 % 32 == 31) = true := by rw [beq_iff_eq]; omega
            rw [show (T / 256 % 32 == 31) = true by rw [beq_iff_eq]; exact c3] at hr
            by_cases c4 : T % 256 < 128
            · have i4 : decide ((T : Int) % 256 < 128) = true := decide_eq_true (by omega)
              rw [decide_eq_true c4] at hr
              have e : tw = true := by rw [hr]; rfl
              clear c1 c2 c3 c4 hr
              go_wp2_with fail
              go_meet
              exact ⟨by rw [e], rfl⟩
            · have i4 : decide ((T : Int) % 256 < 128) = false := decide_eq_false (by omega)
              rw [decide_eq_false c4] at hr
              have e : tw = false := by rw [hr]; rfl
              clear c1 c2 c3 c4 hr
              go_wp2_with fail
              go_meet
              exact ⟨by rw [e], rfl⟩
          · have i3 : ((T : Int) / 256 % 32 == 31) = false := by rw [beq_eq_false_iff_ne]; omega
            rw [show (T / 256 % 32 == 31) = false by rw [beq_eq_false_iff_ne]; exact c3] at hr
            have e : tw = false := by rw [hr]; simp
            clear c1 c2 c3 hr
            go_wp2_with fail
            go_meet
            exact ⟨by rw [e], rfl⟩
        · have i2 : ¬ (T : Int) < 65280 := by omega
          rw [decide_eq_false c2] at hr
          have e : tw = false := by rw [hr]; simp
          clear c1 c2 hr
          go_wp2_with fail
          go_meet
          exact ⟨by rw [e], rfl⟩
      · have i1 : ¬ (255 : Int) < (T : Int) := by omega
        rw [decide_eq_false c1] at hr
        have e : tw = false := by rw [hr]; simp
        clear c1 hr
        go_wp2_with fail
        go_meet
        exact ⟨by rw [e], rfl⟩
    case rest =>
      obtain ⟨rfl, rfl⟩ := hcut
      have hE1 := one_val T (by omega)
      rw [HO.out, HTW.out] at hE1
      obtain ⟨E1, hE1e⟩ : ∃ E1, wrE [((T : Int), [])] = E1 := ⟨_, rfl⟩
      rw [hE1e] at hE1
      have htw : (Lit.int .i64 (T : Int)).wf = true := by simp [Lit.wf, IntKind.min, IntKind.max, IntKind.signed, IntKind.bits]; omega
      have hq1 := fun (u : World) (ty : TypeId) => write_any _ (lit1 (D := none) (n := 0) (c := 0) (d := []) u (T : Int) htw (Rd.nil_ u) (by omega) (fun ad e _ => nomatch e) ty)
      have hq2 := fun (u : World) (ty : TypeId) => write_any _ (lit2 u ty)
      unfold WroteT at hq1 hq2
      rw [hE1e] at hq1
      rw [wrE_twice] at hq2
      obtain ⟨n1, hNI0, wN1, hn1l⟩ := n_add 18 4 hNl (by decide)
      obtain ⟨s1, hSI0, wS1, hs1l⟩ := n_add 250 10 hSl (by decide)
      have hNI : (18 : Int) + (N : Int) = (n1 : Int) := hNI0
      have hSI : (250 : Int) + (S : Int) = (s1 : Int) := hSI0
      have Q1 := Lib.hid hq1; have Q2 := Lib.hid hq2; have HE1 := Lib.hid hE1
      clear hq1 hq2 hE1 hE1e htw hNl hSl hTl hNI0 hSI0
      have tok1 := True.intro
      go_wp2_with (first
        | (go_at_call 11; clear tok1; refine (Q1.out _ _).mono ?_; rintro e w1 ⟨v1, rfl, ho1, hf1⟩; obtain ⟨V1, d1, rfl, -, -⟩ := Rd.of_own ho1; have tok2 := True.intro; have F1 := Lib.hid (((Fr.refl No wc).alloc _).trans hf1); clear ho1 hf1)
        | (go_at_call 11; clear tok2; refine (Q2.out _ _).mono ?_; rintro e w2 ⟨v2, rfl, ho2, hf2⟩; obtain ⟨V2, d2, rfl, -, -⟩ := Rd.of_own ho2; have F2 := Lib.hid ((F1.out.alloc _).trans hf2); clear ho2 hf2))
      clear hN hS wN wS hNI hSI wN1 wS1
      go_loopw [13, 14] (fun lv iv wr => ∃ k : Nat, k ≤ n1 ∧ iv = .int .i64 (k : Int) ∧ OwnI 2 TagI wr wc.heap.size 33 No lv k (rowT k) ∧ Fr No wc wr) (fun _ iv _ => n1 - (intOf iv).toNat)
      case atStart => exact ⟨0, by omega, rfl, OwnI.nil_ _ _ _ _ _ _, F2.out⟩
      case round =>
        obtain ⟨k, hk, rfl, ho, hfr⟩ := hrel
        obtain ⟨LA, lc, rfl, -⟩ : ∃ A' c', u13 = .slice A' k c' ∧ RdI 2 TagI wr (fun _ => True) A' k c' (rowT k) := ho.rd' (M := fun _ => True) (fun _ _ => trivial) tag_ok (fun _ _ => trivial)
        have HOW := Lib.hid ho; have HFR := Lib.hid hfr
        clear ho hfr
        rcases Nat.lt_or_ge k n1 with hkn | hge
        · have hkI : (k : Int) < (n1 : Int) := by omega
          have w32 : wrap64 ((32 : Int) + (k : Int)) = (32 : Int) + (k : Int) := IntWalk.wrap64_in _ ⟨by omega, by omega⟩
          have wf32 : (Lit.int .i64 ((32 : Int) + (k : Int))).wf = true := by simp [Lit.wf, IntKind.min, IntKind.max, IntKind.signed, IntKind.bits]; omega
          have WF := Lib.hid wf32
          clear wf32
          go_wp2_with (at_builtin; go_must (refine ap_tag1 wr rfl (.tmp 80) (.tmp 84) rfl wc.heap.size (.slice LA k lc) k (rowT k) No No rfl HOW.out (32 + (k : Int), []) [.int .i64 (32 + (k : Int)), .slice none 0 0] ⟨none, 0, 0, rfl, Rd.nil_ _, (fun ad e => nomatch e), WF.out, by omega⟩ _ _ rfl rfl (by omega) HFR.out.size (fun i x => x.elim) (fun i x => x.elim) ?_); intro v4 w4 ho4 hg4 hr4; have HO4 := Lib.hid ho4; have HG4 := Lib.hid hg4; clear ho4 hg4 hr4)
          go_roundw
          case rel => exact ⟨k + 1, by omega, by go_num, by rw [rowT_succ]; exact HO4.out.mono tag_ok (fun i hi => by rcases hi with hi | hi <;> exact hi), (HFR.out.alloc _).grown HG4.out (fun g e => .inr (HOW.out.lt g e).1)⟩
          case measure => simp [intOf]; omega
        · obtain rfl : k = n1 := by omega
          have hr3 : RdI 2 TagI wr (fun i => i < wr.heap.size) LA k lc (rowT k) := by
            obtain ⟨A', c', e, h⟩ := HOW.out.rd' (M := fun i => i < wr.heap.size) (fun i hi => (HOW.out.lt i hi).2) tag_ok (fun i x => x.elim)
            injection e with e1 _ e2
            subst e1 e2
            exact h
          have hq3 := write_any wr hr3
          unfold WroteT at hq3
          rw [wrE_rows (by omega)] at hq3
          obtain ⟨E3, hE3⟩ : ∃ E3 : Int, (if k ≤ 20 then 0 else 4) = E3 := ⟨_, rfl⟩
          rw [hE3] at hq3
          obtain ⟨E4, hE4⟩ : ∃ E4 : Int, (if 255 < s1 then 17 else 0) = E4 := ⟨_, rfl⟩
          have hq4 : ∀ (u u5 : World) (ty : TypeId), Bk u5 u.heap.size 5 (u8s (List.replicate s1 0)) → u.heap.size < u5.heap.size → Calls Try.prog 11 #[.slice (some ⟨u5.heap.size, 0, none⟩) 1 1] (u5.alloc (.cells #[.int .i64 149, .slice (some ⟨u.heap.size, 0, none⟩) s1 s1] ty)) fun e w' => ∃ v : Value, e = .returned (.tuple #[v, .int .i64 E4]) ∧ (∃ A c m, v = .slice A m c) ∧ Fr No (u5.alloc (.cells #[.int .i64 149, .slice (some ⟨u.heap.size, 0, none⟩) s1 s1] ty)) w' := by
            intro u u5 ty hb hlt
            have hrd : Rd u5 (some ⟨u.heap.size, 0, none⟩) s1 s1 (u8s (List.replicate s1 0)) := by
              have := hb.rd (n := s1) (cap := s1) (Nat.le_refl _) (by simp only [maxLen]; omega) (by simp)
              rwa [List.take_of_length_le (by simp)] at this
            refine (write_any _ (lit1 u5 149 (by decide) hrd (by omega) (fun ad e _ => by injection e with e; subst e; exact hlt) ty)).mono ?_
            rintro e w' ⟨v, rfl, ho, hf⟩
            obtain ⟨V, d, rfl, -, -⟩ := Rd.of_own ho
            refine ⟨.slice V (wrL [((149 : Int), List.replicate s1 0)]).length d, ?_, ⟨V, d, _, rfl⟩, hf⟩
            rw [wrE_one, if_neg (by decide), List.length_replicate, hE4]
          have Q3 := Lib.hid hq3; have Q4 := Lib.hid hq4; have HE3 := Lib.hid hE3; have HE4 := Lib.hid hE4
          clear hq3 hq4 hE3 hE4 hr3
          have tok3 := True.intro
          go_upto_region 14 with (first
            | (go_at_call 11; clear tok3; refine (Q3.out).mono ?_; rintro e w4 ⟨v4, rfl, ho4, hf4⟩; obtain ⟨V4, d4, rfl, -, -⟩ := Rd.of_own ho4; have F4 := Lib.hid (HFR.out.trans hf4); have tok4 := True.intro; clear ho4 hf4)
            | (at_make; go_must (refine mk8 w4 rfl (.tmp 92) (.tmp 92) rfl .i64 .i64 _ _ s1 s1 rfl rfl rfl rfl (Nat.le_refl _) (by omega) ?_); intro w5 hb5 hf5 hs5; have B5 := Lib.hid hb5; have F5 := Lib.hid (F4.out.trans hf5); have S5 := Lib.hid hs5; clear hb5 hf5 hs5)
            | (go_at_call 11; clear tok4; refine (Q4.out w4 _ _ B5.out (by rw [S5.out]; omega)).mono ?_; rintro e w6 ⟨v6, rfl, ⟨V6, c6, m6, rfl⟩, hf6⟩; have F6 := Lib.hid ((F5.out.alloc _).trans hf6); clear hf6))
          have hboth : (E1 == 0) = (o || tw) ∧ ((E1 == 0) || (E1 == 18)) = true := by
            rw [HE1.out]
            cases o <;> cases tw <;> decide
          have h3 : (E3 == 0) = decide (k ≤ 20) := by
            rw [← HE3.out]
            by_cases h : k ≤ 20
            · rw [if_pos h, decide_eq_true h]; rfl
            · rw [if_neg h, decide_eq_false h]; rfl
          have h4 : (E4 == 0) = decide (s1 ≤ 255) := by
            rw [← HE4.out]
            by_cases h : 255 < s1
            · rw [if_pos h, decide_eq_false (by omega)]; rfl
            · rw [if_neg h, decide_eq_true (by omega)]; rfl
          have HBO := Lib.hid hboth
          clear hboth hn1l hs1l hk hge
          obtain ⟨e0, he0⟩ : ∃ e0, (E1 == 0) = e0 := ⟨_, rfl⟩
          obtain ⟨e8, he8⟩ : ∃ e8, (E1 == 18) = e8 := ⟨_, rfl⟩
          rw [he0, he8] at HBO
          obtain ⟨hb1, hb2⟩ := HBO.out
          have hkI : ((k : Int) ≤ 20) = (k ≤ 20) := by rw [eq_iff_iff]; omega
          have hsI : ((s1 : Int) ≤ 255) = (s1 ≤ 255) := by rw [eq_iff_iff]; omega
          have hkd : decide ((k : Int) ≤ 20) = decide (k ≤ 20) := by simp only [hkI]
          have hsd : decide ((s1 : Int) ≤ 255) = decide (s1 ≤ 255) := by simp only [hsI]
          obtain ⟨dk, hdk⟩ : ∃ dk, decide (k ≤ 20) = dk := ⟨_, rfl⟩
          obtain ⟨ds, hds⟩ : ∃ ds, decide (s1 ≤ 255) = ds := ⟨_, rfl⟩
          rw [hdk] at hkd h3
          rw [hds] at hsd h4
          clear hkI hsI hdk hds HBO HE1 HE3 HE4
          cases o <;> cases tw <;> cases e0 <;> cases e8 <;> first | (cases hb1; done) | (cases hb2; done) | skip
          all_goals
            clear hb1 hb2
            cases dk <;> cases ds
          all_goals
            go_wp2_with (go_at_call 7; refine (awake_tlv _).mono ?_; rintro e w7 ⟨rfl, hf7⟩; have F7 := Lib.hid (F6.out.trans hf7); clear hf7)
            go_ret
            exact ⟨rfl, F7.out⟩
theorem needs_all {a b c : Int} (w : World) (ha : (Lit.int .i64 a).wf = true) (hb : (Lit.int .i64 b).wf = true) (hc : (Lit.int .i64 c).wf = true) :
    Calls Try.prog 5 #[.int .i64 a, .int .i64 b, .int .i64 c] w fun e w' => e = .returned (.bool true) ∧ Fr No w w' := needs_walk w
end Go.Proofs.Ytbfodbejdaafaaa
