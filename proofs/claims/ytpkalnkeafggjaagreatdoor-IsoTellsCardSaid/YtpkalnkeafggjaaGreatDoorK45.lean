/- The texts IsoTells, joined. -/
import Derived.Test.YtpkalnkeafggjaaGreatDoorK39
import Derived.Test.YtpkalnkeafggjaaGreatDoorK40
import Derived.Test.YtpkalnkeafggjaaGreatDoorK42
import Derived.Test.YtpkalnkeafggjaaGreatDoorK44
import Derived.Test.YtpkalnkeafggjaaGreatDoorK13
/- IsoTells: the walk, for any bytes and any message. -/
namespace Go.Proofs.YtpkalnkeafggjaaGreatDoor
open Go.RowKit
set_option maxHeartbeats 4000000
set_option linter.unusedVariables false
set_option maxRecDepth 20000

theorem is_cells {w : World} {g : Nat} {t : TypeId} {a b : Value} (h : Bk w g t [a, b]) : w.cell? ⟨g, 0, none⟩ = some a ∧ w.cell? ⟨g, 1, none⟩ = some b := ⟨h.cell 0, h.cell 1⟩
theorem owne_rd {w : World} {base : Nat} {v : Value} {es : List El} (h : OwnE w base v es) : ∃ A c, v = .slice A es.length c ∧ RdI 2 TagI w (fun i => i < w.heap.size) A es.length c es :=
  OwnI.rd' h (M := fun i => i < w.heap.size) (fun i e => (h.lt i e).2) tag_ok (fun i hi => hi.2.1)
theorem rdi_up {w w' : World} {A : Option Addr} {n c : Nat} {es : List El} (h : RdI 2 TagI w (fun i => i < w.heap.size) A n c es) (hf : Fr No w w') : RdI 2 TagI w' (fun i => i < w'.heap.size) A n c es :=
  (h.no tag_ok hf).mono tag_ok (fun i hi => Nat.lt_of_lt_of_le hi hf.size)
attribute [local irreducible] yielded in
theorem isoTells_walk {B A : Option Addr} {m d n c : Nat} {b : List UInt8} {S : ByteArray} {es : List El} (w : World) (hT : Tabs w) (hb : Rd w B m d (u8s b)) (he : RdI 2 TagI w (fun i => i < w.heap.size) A n c es) (hz : S.size ≤ maxLen) :
    Calls Tryz.prog 3 #[.slice B m d, .agg #[.string S, .slice A n c]] w fun e w' => e = .returned (.bool true) ∧ Fr No w w' := by
  obtain rfl : b.length = m := by simpa using hb.len
  have AW := Lib.hid (fun u (hu : Fr No w u) => awake_iso u (hT.fr hu))
  have hbe : Bk (w.alloc (.cells #[.string S, .slice A n c] 25)) w.heap.size 25 [.string S, .slice A n c] := Bk.new w _ _
  have F0 := Lib.hid ((Fr.refl No w).alloc (.cells #[.string S, .slice A n c] 25))
  obtain ⟨z0, z1⟩ := is_cells hbe
  have HBE := Lib.hid hbe
  have hm9 := rd_len63 hb
  have hn9 : n ≤ 9223372036854775807 := he.top
  by_cases h1 : 5000 < b.length
  · have h1I : 5000 < (b.length : Int) := by omega
    generalize b.length = m at *
    clear hb he hT hbe h1
    go_enter Tryz.func3, Tryz.ntmps3
    go_wp2_with (go_at_call 6; refine (AW.out _ F0.out).mono ?_; rintro e w1 ⟨rfl, hf⟩)
    go_ret
    exact ⟨rfl, F0.out.trans hf⟩
  have h1I : ¬ 5000 < (b.length : Int) := by omega
  by_cases h2 : 60 < n
  · have h2I : 60 < (n : Int) := by omega
    generalize b.length = m at *
    clear hb he hT hbe h1 h2
    go_enter Tryz.func3, Tryz.ntmps3
    go_wp2_with (go_at_call 6; refine (AW.out _ F0.out).mono ?_; rintro e w1 ⟨rfl, hf⟩)
    go_ret
    exact ⟨rfl, F0.out.trans hf⟩
  have h2I : ¬ 60 < (n : Int) := by omega
  have OW := Lib.hid (fun u (hu : Fr No w u) => own_any B b.length d b 71 u (hb.no hu) (by omega))
  have ORD := Lib.hid (fun (u : World) (g : Nat) (hg : Bk u g 5 (u8s (b ++ [71, 71, 71]))) => own_rd0 hg hb.len (by omega))
  have PA := fun u (A : Option Addr) (c : Nat) (hu : Fr No w u) (hr : Rd u A b.length c (u8s b)) => iso_parse_any A c b u hr (hT.fr hu)
  have PR := fun u (hu : Fr No w u) => r_ParseIso B d b u (hb.no hu)
  have KA := fun u (hu : Fr No w u) => iso_pack_any S A n c es u (rdi_up he hu) (by omega) hz (hT.fr hu)
  have KR := fun u (hu : Fr No w u) => r_PackIso S A n c es u (rdi_up he hu) (by omega) hz
  have KE := Lib.hid (fun (u : World) (g : Nat) (hu : Fr No w u) (hg : Bk u g 5 (u8s (b ++ [71, 71, 71]))) => kept8_any B g b.length d b 71 u (hb.no hu) hg (by omega))
  have hbt : ∀ k : List UInt8, (k == k) = true := fun k => beq_self_eq_true _
  have hsz : (bstr (parI b).2.1).size ≤ 9223372036854775807 := by
    rw [bstr_size]
    unfold parI
    repeat' split
    all_goals first | (simp; done) | (show (b.take 4).length ≤ _; rw [List.length_take]; omega)
  unfold IsoTo at PA PR
  unfold PacTo at KA KR
  generalize (parI b).1 = E1 at *
  generalize (parI b).2.2 = es1 at *
  generalize (bstr (parI b).2.1) = S1 at *
  generalize pacE S.data.toList es = E2 at *
  generalize pacR S.data.toList es = L2 at *
  have PA := Lib.hid PA; have PR := Lib.hid PR; have KA := Lib.hid KA; have KR := Lib.hid KR; have HBT := Lib.hid hbt; have HSZ := Lib.hid hsz
  generalize b.length = m at *
  clear hb he hT hbe h1 h2 hz hbt hsz
  go_enter Tryz.func3, Tryz.ntmps3
  go_wp2_with (first
    | (go_at_call 7; refine (OW.out _ F0.out).mono ?_; rintro e w1 ⟨g, rfl, hg, hg1, f1⟩; have F1 := Lib.hid (F0.out.trans f1); have G1 := Lib.hid hg1; have B1 := Lib.hid (HBE.out.no f1); clear hg hg1 f1)
    | (go_at_call 8; refine (PA.out _ _ _ F1.out (ORD.out _ _ G1.out)).mono ?_; rintro e w2 ⟨v2, rfl, o2, f2⟩; obtain ⟨V2, c2, rfl, r2⟩ := owne_rd o2; have a2 : Fr No w2 (w2.alloc (.cells #[.string S1, .slice V2 es1.length c2] 25)) := (Fr.refl No w2).alloc _; have F2 := Lib.hid ((F1.out.trans f2).trans a2); have G2 := Lib.hid (G1.out.no (f2.trans a2)); have B2 := Lib.hid (B1.out.no (f2.trans a2)); have X2 := Lib.hid (Bk.new w2 25 #[.string S1, .slice V2 es1.length c2]); have R2 := Lib.hid (rdi_up r2 a2); clear o2 f2 r2 a2)
    | (go_at_call 9; refine (PR.out _ F2.out).mono ?_; rintro e w3 ⟨v3, rfl, o3, f3⟩; obtain ⟨V3, c3, rfl, r3⟩ := owne_rd o3; have a3 : Fr No w3 (w3.alloc (.cells #[.string S1, .slice V3 es1.length c3] 25)) := (Fr.refl No w3).alloc _; have F3 := Lib.hid ((F2.out.trans f3).trans a3); have G3 := Lib.hid (G2.out.no (f3.trans a3)); have B3 := Lib.hid (B2.out.no (f3.trans a3)); have X3 := Lib.hid (X2.out.no (f3.trans a3)); have Y3 := Lib.hid (Bk.new w3 25 #[.string S1, .slice V3 es1.length c3]); have R23 := Lib.hid (rdi_up R2.out (f3.trans a3)); have R3 := Lib.hid (rdi_up r3 a3); obtain ⟨d30, d31⟩ := is_cells (B2.out.no (f3.trans a3)); clear o3 f3 r3 a3)
    | (go_at_call 10; refine (KA.out _ F3.out).mono ?_; rintro e w4 ⟨v4, rfl, o4, f4⟩; obtain ⟨V4, c4, rfl, r4, -⟩ := ownM_rd o4; have F4 := Lib.hid (F3.out.trans f4); have G4 := Lib.hid (G3.out.no f4); obtain ⟨d40, d41⟩ := is_cells (B3.out.no f4); have X4 := Lib.hid (X3.out.no f4); have Y4 := Lib.hid (Y3.out.no f4); have R24 := Lib.hid (rdi_up R23.out f4); have R34 := Lib.hid (rdi_up R3.out f4); have U4 := Lib.hid r4; clear o4 f4 r4)
    | (go_at_call 11; refine (KR.out _ F4.out).mono ?_; rintro e w5 ⟨v5, rfl, o5, f5⟩; obtain ⟨V5, c5, rfl, r5, -⟩ := ownM_rd o5; have F5 := Lib.hid (F4.out.trans f5); have G5 := Lib.hid (G4.out.no f5); have X5 := Lib.hid (X4.out.no f5); have Y5 := Lib.hid (Y4.out.no f5); have R25 := Lib.hid (rdi_up R24.out f5); have R35 := Lib.hid (rdi_up R34.out f5); have U5 := Lib.hid (U4.out.no f5); have N5 := Lib.hid r5; clear o5 f5 r5)
    | (go_at_call 6; refine (AW.out _ F5.out).mono ?_; rintro e w6 ⟨rfl, f6⟩; have F6 := Lib.hid (F5.out.trans f6); have G6 := Lib.hid (G5.out.no f6); obtain ⟨x0, x1⟩ := is_cells (X5.out.no f6); obtain ⟨y0, y1⟩ := is_cells (Y5.out.no f6); have R26 := Lib.hid (rdi_up R25.out f6); have R36 := Lib.hid (rdi_up R35.out f6); have U6 := Lib.hid (U5.out.no f6); have N6 := Lib.hid (N5.out.no f6); clear f6)
    | (go_at_call 12; refine (sameIso_any _ _ _ _ _ _ _ _ _ _ R26.out R36.out HSZ.out).mono ?_; rintro e w7 ⟨rfl, f7⟩; have F7 := Lib.hid (F6.out.trans f7); have G7 := Lib.hid (G6.out.no f7); have U7 := Lib.hid (U6.out.no f7); have N7 := Lib.hid (N6.out.no f7); clear f7)
    | (go_at_call 13; refine (bytes_any _ _ _ _ _ _ L2 L2 _ U7.out N7.out).mono ?_; rintro e w8 ⟨rfl, rfl⟩; simp only [HBT.out])
    | (go_at_call 14; refine (KE.out _ _ F7.out G7.out).mono ?_; rintro e w9 ⟨rfl, d9⟩; have F9 := Lib.hid (F7.out.dr d9); clear d9))
  go_ret
  exact ⟨rfl, F9.out⟩
end Go.Proofs.YtpkalnkeafggjaaGreatDoor
