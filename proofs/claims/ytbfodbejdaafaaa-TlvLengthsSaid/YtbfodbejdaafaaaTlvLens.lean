/- TlvLengths: the walk, for any number and any byte. -/
import Derived.Test.YtbfodbejdaafaaaTlvNeeds
namespace Go.Proofs.Ytbfodbejdaafaaa
open Go.RowKit
set_option maxHeartbeats 2000000
set_option linter.unusedVariables false

theorem wrote_ok' {ls : List TagL} (h : wrE ls = 0) : wrL ls = wrT ls := by unfold wrL; rw [if_pos h]
theorem own3 (u : World) {q : Int} {y : UInt8} (hy : q = (y.toNat : Int)) (ty : TypeId) (hty : ty = 5) : (u.alloc (.cells #[.int .u8 149, .int .u8 129, .int .u8 q] ty)).ownsRow u.heap.size 5 1 (.slice (some ⟨u.heap.size, 0, none⟩) 3 3) 3 (u8s [149, 129, y]) := by
  subst hty hy
  exact (Bk.new u 5 #[.int .u8 149, .int .u8 129, .int .u8 (y.toNat : Int)]).own (base := u.heap.size) (n := 3) (cap := 3) (Nat.le_refl _) (by omega) (by simp [maxLen]) rfl
theorem own2 (u : World) {q : Int} {y : UInt8} (hy : q = (y.toNat : Int)) (ty : TypeId) (hty : ty = 5) : (u.alloc (.cells #[.int .u8 149, .int .u8 q] ty)).ownsRow u.heap.size 5 1 (.slice (some ⟨u.heap.size, 0, none⟩) 2 2) 2 (u8s [149, y]) := by
  subst hty hy
  exact (Bk.new u 5 #[.int .u8 149, .int .u8 (y.toNat : Int)]).own (base := u.heap.size) (n := 2) (cap := 2) (Nat.le_refl _) (by omega) (by simp [maxLen]) rfl
theorem len_nat {q : Nat} (h : (q : Int) < 256) : IntKind.i64.wrap (q : Int) = (q : Int) ∧ IntKind.u8.wrap (q : Int) = (q : Int) ∧ q ≤ 255 ∧ (q : Int) = ((UInt8.ofNat q).toNat : Int) ∧ wrap64 ((q : Int) + 2) = (q : Int) + 2 ∧ wrap64 ((q : Int) + 3) = (q : Int) + 3 := by
  refine ⟨IntWalk.i64_in _ ⟨by omega, by omega⟩, IntWalk.u8_in _ ⟨by omega, by omega⟩, by omega, by rw [u8_nat (by omega)], IntWalk.wrap64_in _ ⟨by omega, by omega⟩, IntWalk.wrap64_in _ ⟨by omega, by omega⟩⟩
theorem wr_149_len (q : Nat) (h : q ≤ 255) : wrE [((149 : Int), List.replicate q 0)] = 0 ∧ ((wrL [((149 : Int), List.replicate q 0)]).length : Int) = (q : Int) + (if 127 < q then 3 else 2) := by
  have h0 : wrE [((149 : Int), List.replicate q (0 : UInt8))] = 0 := by rw [wrE_one, if_neg (by decide), if_neg (by simp; omega)]
  refine ⟨h0, ?_⟩
  rw [wrote_ok' h0, wrT_one, wr1_149, List.length_cons, List.length_append, List.length_replicate]
  unfold lenB
  by_cases c : q < 128
  · rw [if_pos c, if_neg (by omega)]; simp; omega
  · rw [if_neg c, if_pos (by omega)]; simp; omega
set_option maxHeartbeats 8000000 in
attribute [local irreducible] yielded in
theorem lengths_walk {a : Int} {f : UInt8} (w : World) :
    Calls Try.prog 6 #[.int .i64 a, .int .u8 (f.toNat : Int)] w fun e w' => e = .returned (.bool true) ∧ Fr No w w' := by
  obtain ⟨q, hq, hql⟩ := rem_nat a 256 (by omega)
  obtain ⟨wq, wb, hq255, hqy, wq2, wq3⟩ := len_nat hql
  obtain ⟨hE, hXL⟩ := wr_149_len q hq255
  obtain ⟨x, hx⟩ : ∃ x : UInt8, (128 : UInt8) ||| f = x := ⟨_, rfl⟩
  have hor : bits .or .u8 128 (f.toNat : Int) = (x.toNat : Int) := by rw [← hx]; exact or_u8 128 f
  have hx128 : 128 ≤ x.toNat := by rw [← hx, UInt8.toNat_or]; exact Nat.left_le_or
  have hrd : ∀ (u u2 : World), Bk u2 u.heap.size 5 (u8s (List.replicate q 0)) → Rd u2 (some ⟨u.heap.size, 0, none⟩) q q (u8s (List.replicate q 0)) := by
    intro u u2 hb
    have := hb.rd (n := q) (cap := q) (Nat.le_refl _) (by simp only [maxLen]; omega) (by simp)
    rwa [List.take_of_length_le (by simp)] at this
  have hq1 : ∀ (u u2 : World) (ty : TypeId), Rd u2 (some ⟨u.heap.size, 0, none⟩) q q (u8s (List.replicate q 0)) → u.heap.size < u2.heap.size → Calls Try.prog 11 #[.slice (some ⟨u2.heap.size, 0, none⟩) 1 1] (u2.alloc (.cells #[.int .i64 149, .slice (some ⟨u.heap.size, 0, none⟩) q q] ty)) _ := fun u u2 ty hr hlt => write_any _ (lit1 u2 149 (by decide) hr (by omega) (fun ad e _ => by injection e with e; subst e; exact hlt) ty)
  unfold WroteT at hq1
  rw [hE] at hq1
  obtain ⟨XL, hXLe⟩ : ∃ XL, (wrL [((149 : Int), List.replicate q (0 : UInt8))]).length = XL := ⟨_, rfl⟩
  rw [hXLe] at hq1 hXL
  have hp1 := fun A n c w h hn => parse_any A n c ([149, 129, UInt8.ofNat q] ++ List.replicate q 0) w h hn
  have hp2 := fun A n c w h hn => parse_any A n c ([149, x] ++ List.replicate q 0) w h hn
  have hE2 : x ≠ 129 → tlvE ([149, x] ++ List.replicate q 0) = 17 := fun h => by
    have h1 := lenP_form hx128 h (List.replicate q 0)
    show tlvE (149 :: (x :: List.replicate q 0)) = 17
    rw [tlv_149 _ (by rw [h1]; decide), h1]
  obtain ⟨E2, hE2e⟩ : ∃ E2, tlvE ([149, x] ++ List.replicate q 0) = E2 := ⟨_, rfl⟩
  rw [hE2e] at hp2 hE2
  have hx9 : ((x.toNat : Int) != 129) = decide (x ≠ 129) := by
    rw [Bool.eq_iff_iff, bne_iff_ne, decide_eq_true_iff]
    constructor
    · intro h e; exact h (by rw [e]; rfl)
    · intro h e; exact h (UInt8.toNat_inj.1 (by rw [show (129 : UInt8).toNat = 129 from rfl]; omega))
  have HR := Lib.hid hrd; have Q1 := Lib.hid hq1; have P2 := Lib.hid hp2; have HQY := Lib.hid hqy; have HE2 := Lib.hid hE2; have HX9 := Lib.hid hx9
  clear hrd hq1 hp2 hE hXLe hx hx128 hE2e hE2 hx9 hqy
  have tok1 := True.intro
  by_cases c : 127 < q
  · have cI : (127 : Int) < (q : Int) := by omega
    rw [if_pos c] at hXL
    have hE1 : tlvE ([149, 129, UInt8.ofNat q] ++ List.replicate q 0) = 0 := tlv_149_ok q _ c (by omega) (by simp)
    rw [hE1] at hp1
    have P1 := Lib.hid hp1
    clear hp1 hE1 c hql
    go_enter Try.func6, Try.ntmps6
    go_upto_region 13 with (first
      | (at_make; go_must (refine mk8 w rfl (.tmp 20) (.tmp 20) rfl .i64 .i64 _ _ q q rfl rfl rfl rfl (Nat.le_refl _) (by omega) ?_); intro w2 hb2 hf2 hs2; have R2 := Lib.hid (HR.out w w2 hb2); have F2 := Lib.hid hf2; have S2 := Lib.hid hs2; clear hb2 hf2 hs2)
      | (go_at_call 11; refine (Q1.out w _ _ R2.out (by rw [S2.out]; omega)).mono ?_; rintro e w3 ⟨v3, rfl, ho3, hf3⟩; obtain ⟨V3, d3, rfl, -, -⟩ := Rd.of_own ho3; have F3 := Lib.hid ((F2.out.alloc _).trans hf3); have R3 := Lib.hid (R2.out.no (((Fr.refl No w2).alloc _).trans hf3)); clear ho3 hf3)
      | (at_builtin; clear tok1; go_must (refine ap8 _ rfl (.tmp 33) (.tmp 34) rfl w3.heap.size (.slice (some ⟨w3.heap.size, 0, none⟩) 3 3) 3 [149, 129, UInt8.ofNat q] rfl (own3 w3 HQY.out _ rfl) (some ⟨w.heap.size, 0, none⟩) q q (List.replicate q 0) rfl (R3.out.no ((Fr.refl No w3).alloc _)) (by omega) (by simp) ?_); intro v4 w4 ho4 hg4 hr4; obtain ⟨V4, d4, rfl, hr4b, -⟩ := Rd.of_own ho4; have hf34 := ((Fr.refl No w3).alloc (.cells #[.int .u8 149, .int .u8 129, .int .u8 (q : Int)] 5)).grown hg4 (fun g e => by simp [Value.ownBlock] at e; subst e; exact .inr (Nat.le_refl _)); have F4 := Lib.hid (F3.out.trans hf34); have R4 := Lib.hid (R3.out.no hf34); have X4 := Lib.hid hr4b; have tok2 := True.intro; clear ho4 hg4 hr4 hr4b hf34)
      | (go_at_call 9; clear tok2; refine (P1.out _ _ _ _ X4.out (by omega)).mono ?_; rintro e w5 ⟨v5, rfl, ho5, hf5⟩; have F5 := Lib.hid (F4.out.trans hf5); have R5 := Lib.hid (R4.out.no hf5); have tok3 := True.intro; clear ho5 hf5)
      | (at_builtin; clear tok3; go_must (refine ap8 _ rfl (.tmp 44) (.tmp 45) rfl w5.heap.size (.slice (some ⟨w5.heap.size, 0, none⟩) 2 2) 2 [149, x] rfl (own2 w5 rfl _ rfl) (some ⟨w.heap.size, 0, none⟩) q q (List.replicate q 0) rfl (R5.out.no ((Fr.refl No w5).alloc _)) (by omega) (by simp) ?_); intro v6 w6 ho6 hg6 hr6; obtain ⟨V6, d6, rfl, hr6b, -⟩ := Rd.of_own ho6; have hf56 := ((Fr.refl No w5).alloc (.cells #[.int .u8 149, .int .u8 (x.toNat : Int)] 5)).grown hg6 (fun g e => by simp [Value.ownBlock] at e; subst e; exact .inr (Nat.le_refl _)); have F6 := Lib.hid (F5.out.trans hf56); have X6 := Lib.hid hr6b; have tok4 := True.intro; clear ho6 hg6 hr6 hr6b hf56)
      | (go_at_call 9; clear tok4; refine (P2.out _ _ _ _ X6.out (by omega)).mono ?_; rintro e w7 ⟨v7, rfl, ho7, hf7⟩; have F7 := Lib.hid (F6.out.trans hf7); clear ho7 hf7))
    by_cases cx : x = 129
    · have h1 := HX9.out
      rw [decide_eq_false (fun h => h cx)] at h1
      clear cx
      go_wp2_with (go_at_call 7; refine (awake_tlv _).mono ?_; rintro e w8 ⟨rfl, hf8⟩; have F8 := Lib.hid (F7.out.trans hf8); clear hf8)
      go_ret
      exact ⟨rfl, F8.out⟩
    · have h1 := HX9.out
      rw [decide_eq_true cx] at h1
      have h2 := HE2.out cx
      subst h2
      clear cx
      go_wp2_with (go_at_call 7; refine (awake_tlv _).mono ?_; rintro e w8 ⟨rfl, hf8⟩; have F8 := Lib.hid (F7.out.trans hf8); clear hf8)
      go_ret
      exact ⟨rfl, F8.out⟩
  · have cI : ¬ (127 : Int) < (q : Int) := by omega
    rw [if_neg c] at hXL
    have hE1 : tlvE ([149, 129, UInt8.ofNat q] ++ List.replicate q 0) = 17 := by
      have h1 := lenP_long (n := q) (by omega) (List.replicate q 0)
      show tlvE (149 :: (129 :: UInt8.ofNat q :: List.replicate q 0)) = 17
      rw [tlv_149 _ (by rw [h1]; decide), h1]
    rw [hE1] at hp1
    have P1 := Lib.hid hp1
    clear hp1 hE1 c hql
    go_enter Try.func6, Try.ntmps6
    go_upto_region 13 with (first
      | (at_make; go_must (refine mk8 w rfl (.tmp 20) (.tmp 20) rfl .i64 .i64 _ _ q q rfl rfl rfl rfl (Nat.le_refl _) (by omega) ?_); intro w2 hb2 hf2 hs2; have R2 := Lib.hid (HR.out w w2 hb2); have F2 := Lib.hid hf2; have S2 := Lib.hid hs2; clear hb2 hf2 hs2)
      | (go_at_call 11; refine (Q1.out w _ _ R2.out (by rw [S2.out]; omega)).mono ?_; rintro e w3 ⟨v3, rfl, ho3, hf3⟩; obtain ⟨V3, d3, rfl, -, -⟩ := Rd.of_own ho3; have F3 := Lib.hid ((F2.out.alloc _).trans hf3); have R3 := Lib.hid (R2.out.no (((Fr.refl No w2).alloc _).trans hf3)); clear ho3 hf3)
      | (at_builtin; clear tok1; go_must (refine ap8 _ rfl (.tmp 33) (.tmp 34) rfl w3.heap.size (.slice (some ⟨w3.heap.size, 0, none⟩) 3 3) 3 [149, 129, UInt8.ofNat q] rfl (own3 w3 HQY.out _ rfl) (some ⟨w.heap.size, 0, none⟩) q q (List.replicate q 0) rfl (R3.out.no ((Fr.refl No w3).alloc _)) (by omega) (by simp) ?_); intro v4 w4 ho4 hg4 hr4; obtain ⟨V4, d4, rfl, hr4b, -⟩ := Rd.of_own ho4; have hf34 := ((Fr.refl No w3).alloc (.cells #[.int .u8 149, .int .u8 129, .int .u8 (q : Int)] 5)).grown hg4 (fun g e => by simp [Value.ownBlock] at e; subst e; exact .inr (Nat.le_refl _)); have F4 := Lib.hid (F3.out.trans hf34); have R4 := Lib.hid (R3.out.no hf34); have X4 := Lib.hid hr4b; have tok2 := True.intro; clear ho4 hg4 hr4 hr4b hf34)
      | (go_at_call 9; clear tok2; refine (P1.out _ _ _ _ X4.out (by omega)).mono ?_; rintro e w5 ⟨v5, rfl, ho5, hf5⟩; have F5 := Lib.hid (F4.out.trans hf5); have R5 := Lib.hid (R4.out.no hf5); have tok3 := True.intro; clear ho5 hf5)
      | (at_builtin; clear tok3; go_must (refine ap8 _ rfl (.tmp 44) (.tmp 45) rfl w5.heap.size (.slice (some ⟨w5.heap.size, 0, none⟩) 2 2) 2 [149, x] rfl (own2 w5 rfl _ rfl) (some ⟨w.heap.size, 0, none⟩) q q (List.replicate q 0) rfl (R5.out.no ((Fr.refl No w5).alloc _)) (by omega) (by simp) ?_); intro v6 w6 ho6 hg6 hr6; obtain ⟨V6, d6, rfl, hr6b, -⟩ := Rd.of_own ho6; have hf56 := ((Fr.refl No w5).alloc (.cells #[.int .u8 149, .int .u8 (x.toNat : Int)] 5)).grown hg6 (fun g e => by simp [Value.ownBlock] at e; subst e; exact .inr (Nat.le_refl _)); have F6 := Lib.hid (F5.out.trans hf56); have X6 := Lib.hid hr6b; have tok4 := True.intro; clear ho6 hg6 hr6 hr6b hf56)
      | (go_at_call 9; clear tok4; refine (P2.out _ _ _ _ X6.out (by omega)).mono ?_; rintro e w7 ⟨v7, rfl, ho7, hf7⟩; have F7 := Lib.hid (F6.out.trans hf7); clear ho7 hf7))
    by_cases cx : x = 129
    · have h1 := HX9.out
      rw [decide_eq_false (fun h => h cx)] at h1
      clear cx
      go_wp2_with (go_at_call 7; refine (awake_tlv _).mono ?_; rintro e w8 ⟨rfl, hf8⟩; have F8 := Lib.hid (F7.out.trans hf8); clear hf8)
      go_ret
      exact ⟨rfl, F8.out⟩
    · have h1 := HX9.out
      rw [decide_eq_true cx] at h1
      have h2 := HE2.out cx
      subst h2
      clear cx
      go_wp2_with (go_at_call 7; refine (awake_tlv _).mono ?_; rintro e w8 ⟨rfl, hf8⟩; have F8 := Lib.hid (F7.out.trans hf8); clear hf8)
      go_ret
      exact ⟨rfl, F8.out⟩
theorem lengths_all {a : Int} {f : UInt8} (w : World) (ha : (Lit.int .i64 a).wf = true) :
    Calls Try.prog 6 #[.int .i64 a, .int .u8 (f.toNat : Int)] w fun e w' => e = .returned (.bool true) ∧ Fr No w w' := lengths_walk w
end Go.Proofs.Ytbfodbejdaafaaa
