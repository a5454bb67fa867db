/- ElementBack: the walk, for any element, any bytes behind it, any cut. -/
import Derived.Test.YtijlekikmkeihaaDoorEleFill
import Derived.Deep.RegionLaw
namespace Go.Proofs.YtijlekikmkeihaaDoor
open Go.RowKit
set_option maxHeartbeats 4000000
set_option linter.unusedVariables false

theorem bk_two {w : World} {g : Nat} {t : TypeId} {a b : Value} (h : Bk w g t [a, b]) : w.cell? ⟨g, 0, none⟩ = some a ∧ w.cell? ⟨g, 1, none⟩ = some b := ⟨h.cell 0, h.cell 1⟩
theorem back_nums {q L : Nat} (hq : q < L) (hL : L ≤ 1003) : IntKind.i64.wrap (q : Int) = (q : Int) ∧ wrap64 (q : Int) = (q : Int) ∧ IntKind.u64.wrap (L : Int) = (L : Int) :=
  ⟨IntWalk.i64_in _ ⟨by omega, by omega⟩, IntWalk.wrap64_in _ ⟨by omega, by omega⟩, IntWalk.u64_in _ ⟨by omega, by omega⟩⟩
set_option maxRecDepth 20000 in
attribute [local irreducible] yielded in
theorem eleBack_walk {no cut : Int} {A B : Option Addr} {n c m e : Nat} {d mo : List UInt8} (w : World) (hT : Tabs w) (hno : (Lit.int .i64 no).wf = true) (hd : Rd w A n c (u8s d)) (hm : Rd w B m e (u8s mo)) (hcut : (Lit.int .i64 cut).wf = true) :
    Calls Tryd.prog 4 #[.agg #[.int .i64 no, .slice A n c], .slice B m e, .int .i64 cut] w fun e w' => e = .returned (.bool true) ∧ Fr No w w' := by
  clear hno
  obtain rfl : d.length = n := by simpa using hd.len
  obtain rfl : mo.length = m := by simpa using hm.len
  have hcut2 := wf_i64 hcut
  have AW := Lib.hid (fun u (hu : Fr No w u) => awake_ele u (hT.fr hu))
  have hbe : Bk (w.alloc (.cells #[.int .i64 no, .slice A d.length c] 24)) w.heap.size 24 [.int .i64 no, .slice A d.length c] := Bk.new w _ _
  have F0 := Lib.hid ((Fr.refl No w).alloc (.cells #[.int .i64 no, .slice A d.length c] 24))
  obtain ⟨z0, z1⟩ := bk_two hbe
  have HBE := Lib.hid hbe
  rcases Nat.lt_or_ge 1000 d.length with h1 | h1
  · generalize mo.length = m at *
    generalize d.length = n at *
    clear hd hm hT hbe
    go_enter Tryd.func4, Tryd.ntmps4
    go_wp2_with (go_at_call 9; refine (AW.out _ F0.out).mono ?_; rintro e w1 ⟨rfl, hf⟩)
    go_ret
    exact ⟨rfl, F0.out.trans hf⟩
  rcases Nat.lt_or_ge 100 mo.length with h2 | h2
  · generalize mo.length = m at *
    generalize d.length = n at *
    clear hd hm hT hbe
    go_enter Tryd.func4, Tryd.ntmps4
    go_wp2_with (go_at_call 9; refine (AW.out _ F0.out).mono ?_; rintro e w1 ⟨rfl, hf⟩)
    go_ret
    exact ⟨rfl, F0.out.trans hf⟩
  have WR := fun u (hu : Fr No w u) => el_write_any no A c d u (hd.no hu) (by omega) (hT.fr hu)
  have CK := Lib.hid (fun u (hu : Fr No w u) => el_check_any no A c d u (hd.no hu) (by omega) (hT.fr hu))
  unfold WrtTo at WR
  have HBT : Hid (∀ k : List UInt8, (k == k) = true) := Lib.hid (fun k => beq_self_eq_true k)
  by_cases hE : chkEl no d = 0
  · obtain ⟨r0, -, -, -, -, -, hpos⟩ := wrt_ok hE
    obtain ⟨r1, -, -, -, -, hlen, -⟩ := wrt_ok hE
    have hbk := el_back hE mo
    have hct := el_cut hE
    have hll := wrt_len (no := no) (d := d)
    have RD : ∀ (u : World) (A' : Option Addr) (n' c' : Nat) (b : List UInt8), Fr No w u → Rd u A' n' c' (u8s b) → Calls Tryd.prog 12 #[.int .i64 no, .slice A' n' c'] u (ReadTo (reL no b) (reN no b) (reE no b) u) := fun u A' n' c' b hu h => by
      have hl : b.length = n' := by simpa using h.len
      subst hl
      exact el_read_any no A' c' b u h (hT.fr hu)
    unfold ReadTo at RD
    have RD1 := fun (u : World) (A' : Option Addr) (n' c' : Nat) (hu : Fr No w u) (h : Rd u A' n' c' (u8s (wrtEl no d ++ mo))) => RD u A' n' c' _ hu h
    rw [hbk.1, hbk.2.1, hbk.2.2] at RD1
    rw [hE] at WR
    generalize wrtEl no d = l at *
    obtain ⟨L, hL⟩ : ∃ L, l.length = L := ⟨_, rfl⟩
    have hL0 : 0 < L := by omega
    have hL1 : L < 18446744073709551616 := Nat.lt_of_le_of_lt (hL ▸ hll) (by decide)
    obtain ⟨q, hq, eq⟩ := umod cut L hL0 hL1
    have hct2 := hct q (by omega)
    have RD2 := fun (u : World) (A' : Option Addr) (n' c' : Nat) (hu : Fr No w u) (h : Rd u A' n' c' (u8s (l.take q))) => RD u A' n' c' _ hu h
    rw [hct2] at RD2
    generalize reL no (l.take q) = L2 at *
    generalize reN no (l.take q) = N2 at *
    have hL2 : L ≤ 1003 := hL ▸ hll
    have hqL : (q : Int) ≤ (L : Int) := by omega
    have hLpos : ((L : Int) == 0) = false := by rw [beq_eq_false_iff_ne]; omega
    have HB1 : Hid (0 + L ≤ 140737488355328) := Lib.hid (by omega)
    have HB2 : Hid (L + mo.length ≤ 140737488355328) := Lib.hid (by omega)
    obtain ⟨wq, wq2, wL⟩ := back_nums hq hL2
    rw [hL] at RD1
    have WR := Lib.hid WR; have RD1 := Lib.hid RD1; have RD2 := Lib.hid RD2; have HL := Lib.hid hL; have HD := Lib.hid hd; have HM := Lib.hid hm; have HLL := Lib.hid hll
    obtain ⟨dn, hdn⟩ : ∃ dn, d.length = dn := ⟨_, rfl⟩
    obtain ⟨mn, hmn⟩ : ∃ mn, mo.length = mn := ⟨_, rfl⟩
    have HDN := Lib.hid hdn
    rw [hdn] at WR HBE F0 z0 z1 h1 HD RD1 ⊢
    rw [hmn] at h2 HM HB2 ⊢
    clear hd hm hT hbe RD hbk hct hct2 hE hll hlen hpos hL hdn hmn hcut CK
    go_enter Tryd.func4, Tryd.ntmps4
    go_wp2_with (first
      | (go_at_call 14; refine (WR.out _ F0.out).mono ?_; rintro e w1 ⟨v, rfl, ho, f1⟩; obtain ⟨V, vc, rfl, hr1, -⟩ := ownM_rd ho; rw [HL.out] at hr1 ⊢; have F1 := Lib.hid (F0.out.trans f1); have BE1 := Lib.hid (HBE.out.no f1); have R1 := Lib.hid hr1; have hvc := hr1.cap; have hvm : vc ≤ 9223372036854775807 := (by have := hr1.max; simpa [maxLen] using this); clear ho hr1 f1)
      | (go_at_call 9; refine (AW.out _ F1.out).mono ?_; rintro e w2 ⟨rfl, f2⟩; have F2 := Lib.hid (F1.out.trans f2); have BE2 := Lib.hid (BE1.out.no f2); have R2 := Lib.hid (R1.out.no f2); clear f2))
    obtain ⟨y0, y1⟩ := bk_two BE2.out
    have RD1W := RD1
    go_region_law (first
      | (refine step8 rfl (.const (.slice none 0 0)) (.tmp 54) rfl w2.heap.size (.slice none 0 0) 0 [] (by rfl) (World.ownsRow_nil _ _ _ _) V L vc l (by rfl) (R2.out.no (Fr.refl No w2).drew) HB1.out (Nat.le_refl _) ?_; intro v3 w3 o3 g3 q3; have F23 := Lib.hid ((Fr.refl No w2).drew.grown g3 (fun g e => by simp [Value.ownBlock] at e)); replace o3 : w3.ownsRow w2.heap.size 5 1 v3 L (u8s l) := (by simpa using o3); have O3 := Lib.hid o3; have c30 := F23.out.cell y0 (fun x => x); obtain ⟨V3, k3, rfl, -⟩ := Rd.of_own o3; clear o3 g3 q3)
      | (refine step8 rfl (.tmp 55) (.tmp 56) rfl w2.heap.size _ L l (by rfl) O3.out B mn e mo (by rfl) (HM.out.no (F2.out.trans F23.out)) HB2.out F23.out.size ?_; intro v4 w4 o4 g4 q4; have F4 := Lib.hid ((F2.out.trans F23.out).grown g4 (fun g e => .inr (Nat.le_trans F2.out.size (O3.out.lt g e).1))); have BE4 := Lib.hid (BE2.out.fr (S := fun i => (Value.slice V3 L k3).ownBlock = some i) (F23.out.no.grown g4 (fun g e => .inl e)) (fun e => Nat.lt_irrefl _ (Nat.lt_of_lt_of_le BE2.out.lt (O3.out.lt _ e).1))); have R42 := Lib.hid (rd_far R2.out (S := fun i => (Value.slice V3 L k3).ownBlock = some i) (F23.out.no.grown g4 (fun g e => .inl e)) (fun h0 ad e hh => Nat.lt_irrefl _ (Nat.lt_of_lt_of_le (R2.out.lt h0 ad e) (O3.out.lt _ hh).1))); obtain ⟨c40, -⟩ := bk_two BE4.out; obtain ⟨V4, k4, rfl, hr4, -⟩ := Rd.of_own o4; have R4 := Lib.hid hr4; clear o4 g4 q4 hr4)
      | (go_simp; go_at_call 12; refine (RD1.out _ _ _ _ F4.out R4.out).mono ?_; rintro e w5 ⟨v5, rfl, o5, f5⟩; have F5 := Lib.hid (F4.out.trans f5); have BE5 := Lib.hid (BE4.out.no f5); have R52 := Lib.hid (R42.out.no f5); obtain ⟨V5, k5, rfl, hr5, -⟩ := Rd.of_own o5; have R5 := Lib.hid hr5; clear o5 f5 hr5))
    all_goals
      have RH := Lib.hid (rd_head (k := q) R52.out (Nat.le_of_lt hq))
      obtain ⟨x0, x1⟩ := bk_two BE5.out
      have hqv : q ≤ vc := Nat.le_trans (Nat.le_of_lt hq) hvc
      go_wp2_with fail
      go_region_law (first
        | (go_simp; go_at_call 12; refine (RD2.out _ _ _ _ F5.out.drew (RH.out.no (Fr.refl No w5).drew)).mono ?_; rintro e w6 ⟨v6, rfl, o6, f6⟩; have G6 := (Fr.refl No w5).drew.trans f6; have F6 := Lib.hid (F5.out.trans G6); have BE6 := Lib.hid (BE5.out.no G6); have R56 := Lib.hid (R5.out.no G6); obtain ⟨w60, w61⟩ := bk_two BE6.out; clear o6 f6 G6))
      all_goals
        go_wp2_with (first
          | (go_at_call 9; refine (AW.out _ F6.out).mono ?_; rintro e w7 ⟨rfl, f7⟩; have F7 := Lib.hid (F6.out.trans f7); have R57 := Lib.hid (R56.out.no f7); obtain ⟨w70, w71⟩ := bk_two (BE6.out.no f7); clear f7)
          | (go_at_call 18; refine (bytes_any _ _ _ _ _ _ d d _ R57.out (HD.out.no F7.out)).mono ?_; rintro e w8 ⟨rfl, rfl⟩; simp only [HBT.out]))
        go_ret
        exact ⟨rfl, F7.out⟩
  · have hEb : (chkEl no d != 0) = true := by rw [bne_iff_ne]; exact hE
    have hwl : wrtEl no d = [] := by unfold wrtEl; rw [if_neg hE]
    rw [hwl] at WR
    generalize chkEl no d = E at *
    generalize mo.length = mn at *
    generalize d.length = dn at *
    have WR := Lib.hid WR
    clear hd hm hT hbe hwl hE
    go_enter Tryd.func4, Tryd.ntmps4
    go_wp2_with (first
      | (go_at_call 14; refine (WR.out _ F0.out).mono ?_; rintro e w1 ⟨v, rfl, ho, f1⟩; obtain ⟨V, vc, rfl, hr1, -⟩ := ownM_rd ho; have F1 := Lib.hid (F0.out.trans f1); have BE1 := Lib.hid (HBE.out.no f1); clear ho hr1 f1)
      | (go_at_call 9; refine (AW.out _ F1.out).mono ?_; rintro e w2 ⟨rfl, f2⟩; have F2 := Lib.hid (F1.out.trans f2); obtain ⟨y0, y1⟩ := bk_two (BE1.out.no f2); clear f2)
      | (go_at_call 19; refine (CK.out _ F2.out).mono ?_; rintro e w3 ⟨rfl, f3⟩; have F3 := Lib.hid (F2.out.trans f3); clear f3))
    go_ret
    exact ⟨rfl, F3.out⟩
end Go.Proofs.YtijlekikmkeihaaDoor
