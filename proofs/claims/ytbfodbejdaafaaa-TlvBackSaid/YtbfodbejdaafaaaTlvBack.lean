/- TlvBack: the walk, for any tags and any bytes. -/
import Derived.Test.YtbfodbejdaafaaaTlvAwake
import Derived.Test.YtbfodbejdaafaaaPlayTag3
namespace Go.Proofs.Ytbfodbejdaafaaa
open Go.RowKit
set_option maxHeartbeats 2000000
set_option linter.unusedVariables false

theorem wrT_len : ∀ (ls p : List TagL), wrF p ls = 0 → (wrT ls).length ≤ 300 * ls.length
  | [], p, _ => by simp [wrT]
  | a :: l, p, h => by
    obtain ⟨h1, h2, h3, h4⟩ := wrF_ok h
    have ih := wrT_len l _ h4
    have h5 := wr1_len a h3
    show (wr1T a ++ wrT l).length ≤ _
    rw [List.length_append, List.length_cons]
    omega
theorem wrT_pos {ls : List TagL} (h : wrE ls = 0) (hn : 1 ≤ ls.length) : 0 < (wrT ls).length := by
  obtain ⟨h1, h2⟩ := wrE_ok h
  cases ls with
  | nil => simp at hn
  | cons a l =>
    obtain ⟨h3, _, _, _⟩ := wrF_ok h2
    obtain ⟨b, r, e⟩ := wr1_ne a h3 (wrT l)
    show 0 < (wr1T a ++ wrT l).length
    rw [e]
    simp
theorem wrote_ok {ls : List TagL} (h : wrE ls = 0) : wrL ls = wrT ls := by unfold wrL; rw [if_pos h]
set_option maxHeartbeats 8000000 in
attribute [local irreducible] yielded in
theorem back_walk {A B : Option Addr} {n c m d : Nat} {b : List UInt8} {ls : List (Int × List UInt8)} (w : World) (hl : RdI 2 TagI w (fun i => i < w.heap.size) A n c ls) (hb : Rd w B m d (u8s b)) {z : Int} (hz : (Lit.int .i64 z).wf = true) :
    Calls Try.prog 4 #[.slice A n c, .slice B m d, .int .i64 z] w fun e w' => e = .returned (.bool true) ∧ Fr No w w' := by
  have htop := hl.top
  rcases Nat.lt_or_ge 600 m with hm | hm
  · clear hl
    go_enter Try.func4, Try.ntmps4
    go_wp2_with (go_at_call 7; refine (awake_tlv _).mono ?_; rintro e w1 ⟨rfl, hf⟩)
    go_ret
    exact ⟨rfl, hf⟩
  rcases Nat.lt_or_ge 40 n with hn | hn
  · clear hl
    go_enter Try.func4, Try.ntmps4
    go_wp2_with (go_at_call 7; refine (awake_tlv _).mono ?_; rintro e w1 ⟨rfl, hf⟩)
    go_ret
    exact ⟨rfl, hf⟩
  have hbt : ∀ k : List UInt8, (k == k) = true := fun k => by simp
  have HBT := Lib.hid hbt
  have HL := Lib.hid hl; have HB := Lib.hid hb
  clear hbt hl hb
  go_enter Try.func4, Try.ntmps4
  go_upto_region 4 with (go_at_call 17; refine (p_tags _ HL.out).mono ?_; rintro e w1 ⟨A1, n1, c1, ls1, rfl, hn1, hn6, hr1, hf1, hw1⟩)
  have hl1 := hr1.len tag_ok (by omega)
  obtain ⟨X, hX⟩ : ∃ X, wrT ls1 = X := ⟨_, rfl⟩
  obtain ⟨t1, t2⟩ := tlv_there hw1
  have hXl := wrT_len ls1 [] (wrE_ok hw1).2
  have hX0 := wrT_pos hw1 (by omega)
  have hq1 := fun u (hf : Fr No w1 u) => write_any u ((hr1.no tag_ok hf).mono tag_ok (fun i hi => Nat.lt_of_lt_of_le hi.2 hf.size))
  unfold WroteT at hq1
  rw [wrote_ok hw1, hw1, hX] at hq1
  have hp1 := fun A n c w h hn => parse_any A n c X w h hn
  have hpb := fun A n c w h hn => parse_any A n c b w h hn
  rw [hX] at t1 t2 hXl hX0
  rw [t1, t2] at hp1
  obtain ⟨XL, hXL⟩ : ∃ XL, X.length = XL := ⟨_, rfl⟩
  rw [hXL] at hq1 hXl hX0
  obtain ⟨BE, hBE⟩ : ∃ BE, tlvE b = BE := ⟨_, rfl⟩
  obtain ⟨BL, hBL⟩ : ∃ BL, tlvL b = BL := ⟨_, rfl⟩
  rw [hBE, hBL] at hpb
  have hXb : XL ≤ 100000 := by omega
  have Q1 := Lib.hid hq1; have P1 := Lib.hid hp1; have PB := Lib.hid hpb; have R1 := Lib.hid hr1; have F1 := Lib.hid hf1; have L1 := Lib.hid hl1; have HW := Lib.hid hw1; have T1 := Lib.hid t1; have T2 := Lib.hid t2; have HX := Lib.hid hX; have HXL := Lib.hid hXL; have HBE := Lib.hid hBE; have HBL := Lib.hid hBL
  clear hq1 hp1 hpb hr1 hf1 hl1 hw1 t1 t2 hX hXL hBE hBL hXl
  have tok1 := True.intro
  go_upto_region 9 with (first
    | (go_at_call 11; refine (Q1.out _ (Fr.refl _ _)).mono ?_; rintro e w2 ⟨v2, rfl, ho2, hf2⟩; obtain ⟨V2, d2, rfl, hr2, _⟩ := Rd.of_own ho2; have F2 := Lib.hid hf2; have R2 := Lib.hid hr2; clear ho2 hf2 hr2)
    | (go_at_call 9; clear tok1; refine (P1.out _ _ _ _ R2.out hXb).mono ?_; rintro e w3 ⟨v3, rfl, ho3, hf3⟩; rw [L1.out] at ho3; obtain ⟨V3, d3, rfl, hr3⟩ := ho3.rd' (M := fun _ => True) (fun _ _ => trivial) tag_ok (fun _ _ => trivial); have tok2 := True.intro; have F3 := Lib.hid (F2.out.trans hf3); have F23 := Lib.hid hf3; have R3 := Lib.hid hr3; clear ho3 hf3 hr3)
    | (go_at_call 9; clear tok2; refine (PB.out _ _ _ _ (HB.out.no (F1.out.trans F3.out)) (by omega)).mono ?_; rintro e w4 ⟨v4, rfl, ho4, hf4⟩; have hz4 := ho4.lt; obtain ⟨V4, d4, rfl, hr4⟩ := ho4.rd' (M := fun i => i < w4.heap.size) (fun i hi => (hz4 i hi).2) tag_ok (fun i hi => hi.2); have F4 := Lib.hid (F3.out.trans hf4); have F34 := Lib.hid hf4; have R4 := Lib.hid hr4; clear ho4 hf4 hr4 hz4)
    | (go_at_call 7; refine (awake_tlv _).mono ?_; rintro e w5 ⟨rfl, hf5⟩; have F45 := Lib.hid hf5; have F5 := Lib.hid (F4.out.trans hf5); clear hf5)
    | (go_at_call 13; refine (sameG_any _ _ _ _ _ ls1 _ _ _ (R3.out.no tag_ok (F34.out.trans F45.out)) (R1.out.no tag_ok F5.out)).mono ?_; rintro e w6 ⟨rfl, hf6⟩; have F56 := Lib.hid hf6; have F6 := Lib.hid (F5.out.trans hf6); clear hf6))
  obtain ⟨q, hq, hql⟩ := rem_nat z (XL : Int) (by omega)
  have hqn : q ≤ XL := by omega
  have hxz : ((XL : Int) == 0) = false := by rw [beq_eq_false_iff_ne]; omega
  have hxz2 : ¬ XL = 0 := by omega
  have hw1 : IntKind.u64.wrap (XL : Int) = (XL : Int) := IntWalk.u64_in _ ⟨by omega, by omega⟩
  have hw2 : IntKind.i64.wrap (q : Int) = (q : Int) := IntWalk.i64_in _ ⟨by omega, by omega⟩
  have hcut := tlv_cut HW.out (k := q) (by rw [HX.out, HXL.out]; omega)
  rw [HX.out, L1.out] at hcut
  have hpc := fun A c w h => parse_any A q c (X.take q) w h (by omega)
  obtain ⟨CE, hCE⟩ : ∃ CE, tlvE (X.take q) = CE := ⟨_, rfl⟩
  obtain ⟨CL, hCL⟩ : ∃ CL, tlvL (X.take q) = CL := ⟨_, rfl⟩
  rw [hCE, hCL] at hpc hcut
  have hqd : (q : Int) ≤ (d2 : Int) := by have := R2.out.cap; omega
  have hq0 : (0 : Int) ≤ (q : Int) := by omega
  have R2c := Lib.hid (rd_head R2.out hqn)
  have PC := Lib.hid hpc; have HCUT := Lib.hid hcut
  clear hpc hcut hCE hCL hql hX0
  go_upto_region 11 with (go_at_call 9; refine (PC.out _ _ _ ((R2c.out.no F23.out).no (F34.out.trans (F45.out.trans F56.out)))).mono ?_; rintro e w7 ⟨v7, rfl, ho7, hf7⟩; obtain ⟨V7, d7, rfl, -⟩ := ho7.rd' (M := fun _ => True) (fun _ _ => trivial) tag_ok (fun _ _ => trivial); have F67 := Lib.hid hf7; have F7 := Lib.hid (F6.out.trans hf7); clear ho7 hf7)
  clear hq hw1 hw2 hqd hq0 hqn hXb hxz hxz2
  have hq2 := fun u (hf : Fr No w4 u) => write_any u ((R4.out.no tag_ok hf).mono tag_ok (fun i hi => Nat.lt_of_lt_of_le hi hf.size))
  unfold WroteT at hq2
  have Q2 := Lib.hid hq2
  clear hq2
  rcases HCUT.out with hc | ⟨hc, hcl⟩
  · subst hc
    by_cases hBE : BE = 0
    · subst hBE
      obtain ⟨k1, k2⟩ := tlv_back HBE.out
      rw [HBL.out] at k1 k2
      have hq2 := Q2.out
      rw [wrote_ok k1, k1, k2] at hq2
      have Q3 := Lib.hid hq2
      clear hq2 k1 k2
      go_wp2_with (first
        | (go_at_call 11; refine (Q3.out _ (F45.out.trans (F56.out.trans F67.out))).mono ?_; rintro e w8 ⟨v8, rfl, ho8, hf8⟩; obtain ⟨V8, d8, rfl, hr8, _⟩ := Rd.of_own ho8; have F8 := Lib.hid (F7.out.trans hf8); have R8 := Lib.hid hr8; clear ho8 hf8 hr8)
        | (go_at_call 15; refine (bytes_any _ _ _ _ _ _ _ _ _ R8.out (HB.out.no (F1.out.trans F8.out))).mono ?_; rintro e w9 ⟨rfl, rfl⟩; simp only [HBT.out]))
      go_ret
      exact ⟨rfl, F1.out.trans F8.out⟩
    · have hEb := int_ne0 hBE
      clear hBE
      go_wp2_with fail
      go_ret
      exact ⟨rfl, F1.out.trans F7.out⟩
  · subst hc
    have hcI : ¬ (n1 : Int) ≤ (CL.length : Int) := by omega
    clear hcl
    by_cases hBE : BE = 0
    · subst hBE
      obtain ⟨k1, k2⟩ := tlv_back HBE.out
      rw [HBL.out] at k1 k2
      have hq2 := Q2.out
      rw [wrote_ok k1, k1, k2] at hq2
      have Q3 := Lib.hid hq2
      clear hq2 k1 k2
      go_wp2_with (first
        | (go_at_call 11; refine (Q3.out _ (F45.out.trans (F56.out.trans F67.out))).mono ?_; rintro e w8 ⟨v8, rfl, ho8, hf8⟩; obtain ⟨V8, d8, rfl, hr8, _⟩ := Rd.of_own ho8; have F8 := Lib.hid (F7.out.trans hf8); have R8 := Lib.hid hr8; clear ho8 hf8 hr8)
        | (go_at_call 15; refine (bytes_any _ _ _ _ _ _ _ _ _ R8.out (HB.out.no (F1.out.trans F8.out))).mono ?_; rintro e w9 ⟨rfl, rfl⟩; simp only [HBT.out]))
      go_ret
      exact ⟨rfl, F1.out.trans F8.out⟩
    · have hEb := int_ne0 hBE
      clear hBE
      go_wp2_with fail
      go_ret
      exact ⟨rfl, F1.out.trans F7.out⟩
end Go.Proofs.Ytbfodbejdaafaaa
