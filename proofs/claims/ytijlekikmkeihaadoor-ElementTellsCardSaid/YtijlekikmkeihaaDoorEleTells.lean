/- ElementTells: the walk, for any number, any element, any bytes. -/
import Derived.Test.YtijlekikmkeihaaDoorEleAwake
import Derived.Laws.StructEq
namespace Go.Proofs.YtijlekikmkeihaaDoor
open Go.RowKit
set_option maxHeartbeats 4000000
set_option linter.unusedVariables false

theorem el_cells {w : World} {g : Nat} {t : TypeId} {a b : Value} (h : Bk w g t [a, b]) : w.cell? ⟨g, 0, none⟩ = some a ∧ w.cell? ⟨g, 1, none⟩ = some b := ⟨h.cell 0, h.cell 1⟩
theorem fmt_row {w : World} {g : Nat} {t : TypeId} {a b c d : Value} (h : Bk w g t [a, b, c, d]) : w.cell? ⟨g, 0, none⟩ = some a ∧ w.cell? ⟨g, 1, none⟩ = some b ∧ w.cell? ⟨g, 2, none⟩ = some c ∧ w.cell? ⟨g, 3, none⟩ = some d := ⟨h.cell 0, h.cell 1, h.cell 2, h.cell 3⟩
set_option maxRecDepth 20000 in
attribute [local irreducible] yielded in
theorem eleTells_walk {no xno : Int} {A B : Option Addr} {n c m d : Nat} {x b : List UInt8} (w : World) (hT : Tabs w) (hno : (Lit.int .i64 no).wf = true) (hxno : (Lit.int .i64 xno).wf = true) (hx : Rd w A n c (u8s x)) (hb : Rd w B m d (u8s b)) :
    Calls Tryd.prog 3 #[.int .i64 no, .agg #[.int .i64 xno, .slice A n c], .slice B m d] w fun e w' => e = .returned (.bool true) ∧ Fr No w w' := by
  clear hno hxno
  obtain rfl : x.length = n := by simpa using hx.len
  obtain rfl : b.length = m := by simpa using hb.len
  have AW := Lib.hid (fun u (hu : Fr No w u) => awake_ele u (hT.fr hu))
  have hbe : Bk (w.alloc (.cells #[.int .i64 xno, .slice A x.length c] 24)) w.heap.size 24 [.int .i64 xno, .slice A x.length c] := Bk.new w _ _
  have F0 := Lib.hid ((Fr.refl No w).alloc (.cells #[.int .i64 xno, .slice A x.length c] 24))
  obtain ⟨z0, z1⟩ := el_cells hbe
  have HBE := Lib.hid hbe
  rcases Nat.lt_or_ge 1500 b.length with h1 | h1
  · generalize b.length = m at *
    generalize x.length = n at *
    clear hx hb hT hbe
    go_enter Tryd.func3, Tryd.ntmps3
    go_wp2_with (go_at_call 9; refine (AW.out _ F0.out).mono ?_; rintro e w1 ⟨rfl, hf⟩)
    go_ret
    exact ⟨rfl, F0.out.trans hf⟩
  rcases Nat.lt_or_ge 1500 x.length with h2 | h2
  · generalize b.length = m at *
    generalize x.length = n at *
    clear hx hb hT hbe
    go_enter Tryd.func3, Tryd.ntmps3
    go_wp2_with (go_at_call 9; refine (AW.out _ F0.out).mono ?_; rintro e w1 ⟨rfl, hf⟩)
    go_ret
    exact ⟨rfl, F0.out.trans hf⟩
  have OF := fun u (hu : Fr No w u) => el_of_any no u (hT.fr hu)
  have FM := fun u => r_Format no u
  have SP := fun u (hu : Fr No w u) => below_of (el_spare_any no u (hT.fr hu))
  have RS := fun u => below_same (r_Spare no u)
  have RD := fun u (hu : Fr No w u) => el_read_any no B d b u (hb.no hu) (hT.fr hu)
  have RR := fun u (hu : Fr No w u) => r_ReadElement no B d b u (hb.no hu)
  have WR := fun u (hu : Fr No w u) => el_write_any xno A c x u (hx.no hu) (by omega) (hT.fr hu)
  have RW := fun u (hu : Fr No w u) => r_WriteElement xno A c x u (hx.no hu) (by omega)
  have CK := fun u (hu : Fr No w u) => below_of (el_check_any xno A c x u (hx.no hu) (by omega) (hT.fr hu))
  have RC := fun u (hu : Fr No w u) => below_of (r_CheckElement xno A c x u (hx.no hu) (by omega))
  have AWB := fun u (hu : Fr No w u) => below_of (AW.out u hu)
  unfold FRow.fmt at OF
  unfold FRow.fmtR at FM
  unfold ReadTo at RD
  unfold RReadTo at RR
  unfold WrtTo at WR
  unfold RWrtTo at RW
  generalize elGet no = r at *
  obtain ⟨rn, rk, rd, rt, rs⟩ := r
  dsimp only at OF FM SP RS
  generalize (rd : Int) = D at *
  generalize (rt : Int) = T at *
  generalize (elFind no).isSome = IS at *
  generalize reE no b = RE at *
  generalize reN no b = RN at *
  generalize reL no b = RL at *
  generalize chkEl xno x = CE at *
  generalize wrtEl xno x = WL at *
  generalize b.length = bm at *
  generalize x.length = xn at *
  have OF := Lib.hid OF; have FM := Lib.hid FM; have SP := Lib.hid SP; have RS := Lib.hid RS; have RD := Lib.hid RD; have RR := Lib.hid RR; have WR := Lib.hid WR; have RW := Lib.hid RW; have CK := Lib.hid CK; have RC := Lib.hid RC; have AWB := Lib.hid AWB
  clear hx hb hT hbe
  go_enter Tryd.func3, Tryd.ntmps3
  go_wp2_with (first
    | (go_at_call 10; refine (OF.out _ F0.out).mono ?_; rintro e w1 ⟨rfl, f1⟩; have F1 := Lib.hid ((F0.out.trans f1).alloc (.cells #[.int .i64 rn, .int .i64 rk, .int .i64 D, .int .i64 T] 27)); have B1 := Lib.hid (Bk.new w1 27 #[.int .i64 rn, .int .i64 rk, .int .i64 D, .int .i64 T]); have E1 := Lib.hid (HBE.out.no (f1.alloc (.cells #[.int .i64 rn, .int .i64 rk, .int .i64 D, .int .i64 T] 27))); clear f1)
    | (go_at_call 11; refine (FM.out _).mono ?_; rintro e w2 ⟨rfl, f2⟩; have G2 := f2.alloc (.cells #[.int .i64 rn, .int .i64 rk, .int .i64 D, .int .i64 T] 27); have F2 := Lib.hid (F1.out.trans G2); have B12 := Lib.hid (B1.out.no G2); have B2 := Lib.hid (Bk.new w2 27 #[.int .i64 rn, .int .i64 rk, .int .i64 D, .int .i64 T]); have E2 := Lib.hid (E1.out.no G2); clear f2 G2)
    | (go_at_call 12; refine (RD.out _ F2.out).mono ?_; rintro e w3 ⟨v3, rfl, o3, f3⟩; obtain ⟨V3, c3, rfl, r3, -⟩ := Rd.of_own o3; have F3 := Lib.hid (F2.out.trans f3); have B13 := Lib.hid (B12.out.no f3); have B23 := Lib.hid (B2.out.no f3); have E3 := Lib.hid (E2.out.no f3); have R3 := Lib.hid r3; clear o3 f3 r3)
    | (go_at_call 13; refine (RR.out _ F3.out).mono ?_; rintro e w4 ⟨v4, rfl, o4, f4⟩; obtain ⟨V4, c4, rfl, r4, -⟩ := Rd.of_own o4; have F4 := Lib.hid (F3.out.trans f4); have B14 := Lib.hid (B13.out.no f4); have B24 := Lib.hid (B23.out.no f4); have E4 := Lib.hid (E3.out.no f4); have R34 := Lib.hid (R3.out.no f4); have R4 := Lib.hid r4; obtain ⟨y0, y1⟩ := el_cells E4.out; clear o4 f4 r4)
    | (go_at_call 14; refine (WR.out _ F4.out).mono ?_; rintro e w5 ⟨v5, rfl, o5, f5⟩; obtain ⟨V5, c5, rfl, r5, -⟩ := ownM_rd o5; have F5 := Lib.hid (F4.out.trans f5); have B15 := Lib.hid (B14.out.no f5); have B25 := Lib.hid (B24.out.no f5); have E5 := Lib.hid (E4.out.no f5); have R35 := Lib.hid (R34.out.no f5); have R45 := Lib.hid (R4.out.no f5); have R5 := Lib.hid r5; obtain ⟨x0, x1⟩ := el_cells E5.out; clear o5 f5 r5)
    | (go_at_call 15; refine (RW.out _ F5.out).mono ?_; rintro e w6 ⟨v6, rfl, o6, f6⟩; obtain ⟨V6, c6, rfl, r6, -⟩ := ownM_rd o6; have F6 := Lib.hid (F5.out.trans f6); have B16 := Lib.hid (B15.out.no f6); have B26 := Lib.hid (B25.out.no f6); have E6 := Lib.hid (E5.out.no f6); have R36 := Lib.hid (R35.out.no f6); have R46 := Lib.hid (R45.out.no f6); have R56 := Lib.hid (R5.out.no f6); have R6 := Lib.hid r6; clear o6 f6 r6))
  obtain ⟨a0, a1, a2, a3⟩ := fmt_row B16.out
  obtain ⟨b0, b1, b2, b3⟩ := fmt_row B26.out
  obtain ⟨e0, e1⟩ := el_cells E6.out
  have ga0 := cell_regrown a0; have ga1 := cell_regrown a1; have ga2 := cell_regrown a2; have ga3 := cell_regrown a3
  have gb0 := cell_regrown b0; have gb1 := cell_regrown b1; have gb2 := cell_regrown b2; have gb3 := cell_regrown b3
  have ge0 := cell_regrown e0; have ge1 := cell_regrown e1
  have BY1 : Hid (∀ u, Fr No w6 u → Calls Tryd.prog 18 #[.slice V3 RL.length c3, .slice V4 RL.length c4] u fun e w' => e = .returned (.bool true) ∧ Below u.heap.size u w') := Lib.hid (fun u hu => by
    have h := below_same (bytes_any _ _ _ _ _ _ RL RL u (R36.out.no hu) (R46.out.no hu))
    rwa [show (RL == RL) = true from beq_self_eq_true _] at h)
  have BY2 : Hid (∀ u, Fr No w6 u → Calls Tryd.prog 18 #[.slice V5 WL.length c5, .slice V6 WL.length c6] u fun e w' => e = .returned (.bool true) ∧ Below u.heap.size u w') := Lib.hid (fun u hu => by
    have h := below_same (bytes_any _ _ _ _ _ _ WL WL u (R56.out.no hu) (R6.out.no hu))
    rwa [show (WL == WL) = true from beq_self_eq_true _] at h)
  refine wp_region_quiet_below (by kernel_rfl) (by kernel_rfl) ?_
  repeat (first
    | quiet_step ((first
      | (go_at_call 9; exact Calls.regrown_of (AWB.out _ (F6.out.trans (fr_regrown _ _ _))))
      | (go_at_call 16; exact Calls.regrown_of (SP.out _ (F6.out.trans (fr_regrown _ _ _))))
      | (go_at_call 17; exact Calls.regrown_of (RS.out _))
      | (go_at_call 18; with_reducible exact Calls.regrown_of (BY1.out _ (fr_regrown _ _ _)))
      | (go_at_call 18; with_reducible exact Calls.regrown_of (BY2.out _ (fr_regrown _ _ _)))
      | (go_at_call 19; exact Calls.regrown_of (CK.out _ (F6.out.trans (fr_regrown _ _ _))))
      | (go_at_call 20; exact Calls.regrown_of (RC.out _ (F6.out.trans (fr_regrown _ _ _)))))))
  refine wpQuiet_nil ?_
  intro w9 hw9r
  obtain ⟨⟨nr, osr⟩, hw9r⟩ := hw9r
  have F9 := F6.out.trans (show Fr No w6 w9 by rw [hw9r]; exact fr_regrown w6 nr osr)
  clear hw9r
  go_wp2
  go_ret
  exact ⟨rfl, F9⟩
end Go.Proofs.YtijlekikmkeihaaDoor
