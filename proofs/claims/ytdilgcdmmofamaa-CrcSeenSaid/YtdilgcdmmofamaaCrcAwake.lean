/- What shows that package crc does something; and CrcTells: the walk, for every list of bytes. -/
import Derived.Test.YtdilgcdmmofamaaCrcProg
import Derived.Test.YtdilgcdmmofamaaHelp
import Derived.Lib.SlBytesConst
namespace Go.Proofs.Ytdilgcdmmofamaa
open Go.RowKit
set_option maxHeartbeats 400000
set_option linter.unusedVariables false

theorem crc_nine : crcL [49, 50, 51, 52, 53, 54, 55, 56, 57] = 3421780262 := by decide +kernel

/-- elements that were just laid in a marked block of their own -/
theorem Rd.mark (w : World) (cs : List Value) (t : TypeId) (fz : Nat × Nat) (n : Nat) (hn : cs.length = n) (hm : n ≤ maxLen) : Rd (w.alloc (.cells cs.toArray t fz)) (some ⟨w.heap.size, 0, none⟩) n n cs := by
  refine ⟨hn, Nat.le_refl _, hm, (fun e => nomatch e), ?_⟩
  intro ad e j u hu
  injection e with e
  subst e
  rw [show (⟨w.heap.size, 0, none⟩ : Addr).add j = ⟨w.heap.size, j, none⟩ from by unfold Addr.add; split <;> simp_all]
  have h := heap_alloc_new w (.cells cs.toArray t fz)
  generalize w.alloc (.cells cs.toArray t fz) = w2 at h ⊢
  generalize w.heap.size = s at h ⊢
  simp [World.cell?, h, hu]

theorem awake_any (w : World) : Calls Try.prog 6 #[] w fun e w' => e = .returned (.bool true) ∧ Fr No w w' := by
  have r7 : ∀ u : World, Rd (u.alloc (.cells #[.int .u8 7] 5)) (some ⟨u.heap.size, 0, none⟩) 1 1 (u8s [7]) := fun u => Rd.lit u (u8s [7]) _ 1 rfl (by simp [maxLen])
  have R7 := Lib.hid r7
  have r9 : ∀ u : World, Rd (u.alloc (.cells #[.int .u8 49, .int .u8 50, .int .u8 51, .int .u8 52, .int .u8 53, .int .u8 54, .int .u8 55, .int .u8 56, .int .u8 57] 5 (9, 10))) (some ⟨u.heap.size, 0, none⟩) 9 9 (u8s [49, 50, 51, 52, 53, 54, 55, 56, 57]) := fun u => Rd.mark u (u8s [49, 50, 51, 52, 53, 54, 55, 56, 57]) _ _ 9 rfl (by simp [maxLen])
  have R9 := Lib.hid r9
  obtain ⟨o1, o2⟩ := open_seal [7]
  have hlen : (sealL [7]).length = 5 := by unfold sealL; simp
  have O1 := Lib.hid o1; have O2 := Lib.hid o2; have C9 := Lib.hid crc_nine
  have kc := fun (w : World) (C : Array Value) (n c : Nat) => Lib.run_convert_bytes_const (P := Try.prog) w 22 5 C n c Try.underlying22 Try.underlying5
  clear r7 r9 o1 o2 hlen
  go_enter Try.func6, Try.ntmps6
  go_wp2_with (first
    | (go_at_call 13; refine (crc_seal_any _ 1 1 [7] _ (R7.out _) (by omega)).mono ?_; rintro e w1 ⟨v1, rfl, ho1, hf1⟩; obtain ⟨V1, d1, rfl, hr1, _⟩ := Rd.of_own ho1)
    | (go_at_call 8; refine (crc_open_any _ 5 _ (sealL [7]) _ hr1 (by omega)).mono ?_; rw [O1.out, O2.out]; rintro e w2 ⟨v2, rfl, ho2, hf2⟩; obtain ⟨V2, d2, rfl, hr2, _⟩ := Rd.of_own ho2)
    | (go_at_call 10; refine (crc_of_any _ 9 9 [49, 50, 51, 52, 53, 54, 55, 56, 57] _ (R9.out _) (by omega)).mono ?_; rw [C9.out]; rintro e w3 ⟨rfl, hf3⟩)
    | (go_at_call 12; refine (bytes_any _ _ _ _ _ _ _ _ _ (((hr2.no ((Fr.refl _ _).alloc _)).no hf3).no ((Fr.refl _ _).alloc _)) (R7.out _)).mono ?_; rintro e w4 ⟨rfl, rfl⟩))
  go_ret
  exact ⟨rfl, ((((((Fr.refl No w).alloc _).trans hf1).trans hf2).alloc _).trans hf3).alloc _⟩

set_option maxHeartbeats 1600000 in
attribute [local irreducible] yielded in
theorem tells_walk {A : Option Addr} {n c : Nat} {l : List UInt8} (w : World) (ha : Rd w A n c (u8s l)) :
    Calls Try.prog 3 #[.slice A n c] w fun e w' => e = .returned (.bool true) ∧ Fr No w w' := by
  rcases Nat.lt_or_ge 2000 n with hn | hn
  · go_enter Try.func3, Try.ntmps3
    go_wp2_with (go_at_call 6; refine (awake_any _).mono ?_; rintro e w1 ⟨rfl, hf⟩)
    go_ret
    exact ⟨rfl, hf⟩
  have hbt : ∀ k : List UInt8, (k == k) = true := fun k => by simp
  have HB := Lib.hid hbt
  clear hbt
  have p1 := fun A n c w h hn => crc_of_any A n c l w h hn
  have r1 := fun A n c w h hn => ref_crc A n c l w h hn
  generalize crcL l = V at p1 r1
  have P1 := Lib.hid p1; have R1 := Lib.hid r1
  clear p1 r1
  go_enter Try.func3, Try.ntmps3
  go_wp2_with (first
    | (go_at_call 7; refine (own_any _ _ _ l 71 _ ha (by omega)).mono ?_; rintro e w1 ⟨g, rfl, hg, hb1, hf1⟩)
    | (go_at_call 8; refine (crc_open_any _ _ _ l _ (own_rd0 hb1 ha.len (by omega)) (by omega)).mono ?_; rintro e w2 ⟨v2, rfl, ho2, hf2⟩; obtain ⟨V2, d2, rfl, hr2, _⟩ := Rd.of_own ho2)
    | (go_at_call 9; refine (ref_unseal _ _ _ l _ ((ha.no hf1).no hf2) (by omega)).mono ?_; rintro e w3 ⟨v3, rfl, ho3, hf3⟩; obtain ⟨V3, d3, rfl, hr3, _⟩ := Rd.of_own ho3)
    | (go_at_call 6; refine (awake_any _).mono ?_; rintro e w4 ⟨rfl, hf4⟩)
    | (go_at_call 10; refine (P1.out _ _ _ _ ((((own_rd0 hb1 ha.len (by omega)).no hf2).no hf3).no hf4) (by omega)).mono ?_; rintro e w5 ⟨rfl, hf5⟩)
    | (go_at_call 11; refine (R1.out _ _ _ _ (((((ha.no hf1).no hf2).no hf3).no hf4).no hf5) (by omega)).mono ?_; rintro e w' ⟨rfl, rfl⟩)
    | (go_at_call 13; refine (crc_seal_any _ _ _ l _ (((((own_rd0 hb1 ha.len (by omega)).no hf2).no hf3).no hf4).no hf5) (by omega)).mono ?_; rintro e w6 ⟨v6, rfl, ho6, hf6⟩; obtain ⟨V6, d6, rfl, hr6, _⟩ := Rd.of_own ho6)
    | (go_at_call 14; refine (ref_seal _ _ _ l _ ((((((ha.no hf1).no hf2).no hf3).no hf4).no hf5).no hf6) (by omega)).mono ?_; rintro e w7 ⟨v7, rfl, ho7, hf7⟩; obtain ⟨V7, d7, rfl, hr7, _⟩ := Rd.of_own ho7)
    | (go_at_call 12; refine (bytes_any _ _ _ _ _ _ _ _ _ (hr6.no hf7) hr7).mono ?_; rintro e w8 ⟨rfl, rfl⟩; simp only [HB.out])
    | (go_at_call 12; refine (bytes_any _ _ _ _ _ _ _ _ _ (((((hr2.no hf3).no hf4).no hf5).no hf6).no hf7) ((((hr3.no hf4).no hf5).no hf6).no hf7)).mono ?_; rintro e w9 ⟨rfl, rfl⟩; simp only [HB.out])
    | (go_at_call 15; refine (kept8_any _ _ _ _ l 71 _ (((((((ha.no hf1).no hf2).no hf3).no hf4).no hf5).no hf6).no hf7) ((((((hb1.no hf2).no hf3).no hf4).no hf5).no hf6).no hf7) (by omega)).mono ?_; rintro e w10 ⟨rfl, hd10⟩))
  go_ret
  exact ⟨rfl, ((((((hf1.trans hf2).trans hf3).trans hf4).trans hf5).trans hf6).trans hf7).dr hd10⟩
end Go.Proofs.Ytdilgcdmmofamaa
