/- What shows that package tlv does something; and TlvTells: the walk, for any bytes and any tags. -/
import Derived.Test.YtbfodbejdaafaaaTlvP5
import Derived.Test.YtbfodbejdaafaaaTlvP7
import Derived.Test.YtbfodbejdaafaaaHelpTag
import Derived.Test.YtbfodbejdaafaaaHelp
import Derived.Lib.SlBytesConst
namespace Go.Proofs.Ytbfodbejdaafaaa
open Go.RowKit
set_option maxHeartbeats 2000000
set_option linter.unusedVariables false

theorem tlv_one : tlvL [149, 1, 7] = [(149, [7])] ∧ tlvE [149, 1, 7] = 0 := by decide +kernel
theorem add_zero_ (ad : Addr) : ad.add (0 * 2) = ad := by simp [Addr.add]
set_option maxHeartbeats 4000000 in
attribute [local irreducible] yielded in
theorem awake_tlv (w : World) : Calls Try.prog 7 #[] w fun e w' => e = .returned (.bool true) ∧ Fr No w w' := by
  have r7 : ∀ u : World, Rd (u.alloc (.cells #[.int .u8 7] 5)) (some ⟨u.heap.size, 0, none⟩) 1 1 (u8s [7]) := fun u => Rd.lit u (u8s [7]) _ 1 rfl (by simp [maxLen])
  have R7 := Lib.hid r7
  have r9 : ∀ u : World, Rd (u.alloc (.cells #[.int .u8 149, .int .u8 1, .int .u8 7] 5)) (some ⟨u.heap.size, 0, none⟩) 3 3 (u8s [149, 1, 7]) := fun u => Rd.lit u (u8s [149, 1, 7]) _ 3 rfl (by simp [maxLen])
  have p9 := fun u => parse_any _ 3 3 [149, 1, 7] (u.alloc (.cells #[.int .u8 149, .int .u8 1, .int .u8 7] 5)) (r9 u) (by omega)
  rw [tlv_one.1, tlv_one.2] at p9
  have P9 := Lib.hid p9
  clear r7 r9 p9
  go_enter Try.func7, Try.ntmps7
  go_wp2_with (first
    | (go_at_call 9; refine (P9.out _).mono ?_; rintro e w1 ⟨v1, rfl, ho1, hf1⟩; obtain ⟨V1, d1, rfl, hr1⟩ := ho1.rd' (M := fun _ => True) (fun _ _ => trivial) tag_ok (fun _ _ => trivial); obtain ⟨ad, cs, a, rfl, ⟨B, m, d, rfl, h1, h2, h3, h4⟩, hak, hc0, hc1⟩ := two_cells (k := 0) tag_ok hr1 (by decide); injection hak with hak; subst hak; have c0 := hc0 _ rfl; have c1 := hc1 _ rfl; rw [add_zero_] at c0 c1; dsimp only at c0 h1; have c0a : ∀ o, (w1.alloc o).cell? ad = some (.int .i64 149) := fun o => ((Fr.refl No w1).alloc o).cell c0 (fun x => x); have F1 := Lib.hid hf1; have H1 := Lib.hid h1; clear hc0 hc1 ho1 hr1 h1 h2 h3 h4 hf1)
    | (go_at_call 15; refine (bytes_any _ _ _ _ _ _ _ _ _ (H1.out.no ((Fr.refl _ _).alloc _)) (R7.out _)).mono ?_; rintro e w4 ⟨rfl, rfl⟩))
  go_ret
  exact ⟨rfl, (((Fr.refl No w).alloc _).trans F1.out).alloc _⟩

set_option maxHeartbeats 8000000 in
attribute [local irreducible] yielded in
theorem tells_walk {A B : Option Addr} {n c m d : Nat} {b : List UInt8} {ls : List (Int × List UInt8)} (w : World) (ha : Rd w A n c (u8s b)) (hl : RdI 2 TagI w (fun i => i < w.heap.size) B m d ls) :
    Calls Try.prog 3 #[.slice A n c, .slice B m d] w fun e w' => e = .returned (.bool true) ∧ Fr No w w' := by
  have htop := hl.top
  rcases Nat.lt_or_ge 1000 n with hn | hn
  · clear hl
    go_enter Try.func3, Try.ntmps3
    go_wp2_with (go_at_call 7; refine (awake_tlv _).mono ?_; rintro e w1 ⟨rfl, hf⟩)
    go_ret
    exact ⟨rfl, hf⟩
  rcases Nat.lt_or_ge 40 m with hm | hm
  · clear hl
    go_enter Try.func3, Try.ntmps3
    go_wp2_with (go_at_call 7; refine (awake_tlv _).mono ?_; rintro e w1 ⟨rfl, hf⟩)
    go_ret
    exact ⟨rfl, hf⟩
  have hbt : ∀ k : List UInt8, (k == k) = true := fun k => by simp
  have HB := Lib.hid hbt
  clear hbt
  have p1 := fun A n c w h hn => parse_any A n c b w h hn
  have p2 := fun A n c w h hn => r_ParseTags_any A n c b w h hn
  have q1 := fun u (hf : Fr No w u) => write_any u ((hl.no tag_ok hf).mono tag_ok (fun i hi => Nat.lt_of_lt_of_le hi hf.size))
  have q2 := fun u (hf : Fr No w u) => r_WriteTags_any u (hl.no tag_ok hf)
  unfold WroteT at q1 q2
  generalize tlvL b = TL at p1 p2
  generalize tlvE b = TE at p1 p2
  generalize wrE ls = WE at q1 q2
  generalize wrL ls = WL at q1 q2
  have P1 := Lib.hid p1; have P2 := Lib.hid p2; have Q1 := Lib.hid q1; have Q2 := Lib.hid q2; have HA := Lib.hid ha
  have hal := ha.len
  have HAL := Lib.hid hal
  clear p1 p2 q1 q2 hl ha hal
  go_enter Try.func3, Try.ntmps3
  go_wp2_with (first
    | (go_at_call 8; refine (own_any _ _ _ b 71 _ HA.out (by omega)).mono ?_; rintro e w1 ⟨g, rfl, hg, hb1, hf1⟩; have B1 := Lib.hid hb1; have F1 := Lib.hid hf1; clear hb1 hf1 hg)
    | (go_at_call 9; refine (P1.out _ _ _ _ (own_rd0 B1.out HAL.out (by omega)) (by omega)).mono ?_; rintro e w2 ⟨v2, rfl, ho2, hf2⟩; obtain ⟨V2, d2, rfl, hr2⟩ := ho2.rd' (M := fun _ => True) (fun _ _ => trivial) tag_ok (fun _ _ => trivial); have F2 := Lib.hid (F1.out.trans hf2); have B2 := Lib.hid (B1.out.no hf2); have R2 := Lib.hid hr2; clear ho2 hf2 hr2)
    | (go_at_call 10; refine (P2.out _ _ _ _ (HA.out.no F2.out) (by omega)).mono ?_; rintro e w3 ⟨v3, rfl, ho3, hf3⟩; obtain ⟨V3, d3, rfl, hr3⟩ := ho3.rd' (M := fun _ => True) (fun _ _ => trivial) tag_ok (fun _ _ => trivial); have F3 := Lib.hid (F2.out.trans hf3); have B3 := Lib.hid (B2.out.no hf3); have R32 := Lib.hid (R2.out.no tag_ok hf3); have R33 := Lib.hid hr3; clear ho3 hf3 hr3)
    | (go_at_call 11; refine (Q1.out _ F3.out).mono ?_; rintro e w4 ⟨v4, rfl, ho4, hf4⟩; obtain ⟨V4, d4, rfl, hr4, _⟩ := Rd.of_own ho4; have F34 := Lib.hid hf4; have F4 := Lib.hid (F3.out.trans hf4); have R44 := Lib.hid hr4; clear ho4 hf4 hr4)
    | (go_at_call 12; refine (Q2.out _ F4.out).mono ?_; rintro e w5 ⟨v5, rfl, ho5, hf5⟩; obtain ⟨V5, d5, rfl, hr5, _⟩ := Rd.of_own ho5; have F45 := Lib.hid hf5; have F5 := Lib.hid (F4.out.trans hf5); have R55 := Lib.hid hr5; clear ho5 hf5 hr5)
    | (go_at_call 7; refine (awake_tlv _).mono ?_; rintro e w6 ⟨rfl, hf6⟩; have F56 := Lib.hid hf6; have F6 := Lib.hid (F5.out.trans hf6); clear hf6)
    | (go_at_call 13; refine (sameG_any _ _ _ _ _ TL _ _ _ (R32.out.no tag_ok ((F34.out.trans F45.out).trans F56.out)) (R33.out.no tag_ok ((F34.out.trans F45.out).trans F56.out))).mono ?_; rintro e w7 ⟨rfl, hf7⟩; have F67 := Lib.hid hf7; have F7 := Lib.hid (F6.out.trans hf7); clear hf7)
    | (go_at_call 15; refine (bytes_any _ _ _ _ _ _ _ _ _ (((R44.out.no F45.out).no F56.out).no F67.out) ((R55.out.no F56.out).no F67.out)).mono ?_; rintro e w8 ⟨rfl, rfl⟩; simp only [HB.out])
    | (go_at_call 16; refine (kept8_any _ _ _ _ b 71 _ (HA.out.no F7.out) ((((B3.out.no F34.out).no F45.out).no F56.out).no F67.out) (by omega)).mono ?_; rintro e w10 ⟨rfl, hd10⟩))
  go_ret
  exact ⟨rfl, F7.out.dr hd10⟩
end Go.Proofs.Ytbfodbejdaafaaa
