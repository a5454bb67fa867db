/- The texts IsoBack, joined. -/
import Derived.Test.YtpkalnkeafggjaaGreatDoorK45
/- IsoBack: the walk, for any message, any bytes, whatever stands behind and wherever it is cut. Written by wip/gen_isoback.py. -/
namespace Go.Proofs.YtpkalnkeafggjaaGreatDoor
open Go.RowKit
set_option maxHeartbeats 4000000
set_option linter.unusedVariables false
set_option maxRecDepth 20000

theorem umodI (x : Int) (m : Nat) (h0 : 0 < m) (h1 : m < 18446744073709551616) : ∃ q : Nat, q < m ∧ (IntKind.u64.wrap x).tmod (m : Int) = (q : Int) := by
  have hb : 0 ≤ IntKind.u64.wrap x := by
    unfold IntKind.wrap
    simp [IntKind.signed, IntKind.bits]
    omega
  refine ⟨((IntKind.u64.wrap x).tmod (m : Int)).toNat, ?_, ?_⟩
  · have h2 := Int.tmod_lt_of_pos (IntKind.u64.wrap x) (b := (m : Int)) (by omega)
    have h3 := Int.tmod_nonneg (m : Int) hb
    omega
  · have h3 := Int.tmod_nonneg (m : Int) hb
    omega
theorem parI_len (b : List UInt8) : (parI b).2.2.length ≤ 127 := by
  have hp := parL_len (b.drop 4)
  unfold parI
  split
  · exact Nat.zero_le _
  split
  · exact Nat.zero_le _
  split
  · exact Nat.zero_le _
  split
  · exact Nat.zero_le _
  split
  · exact Nat.zero_le _
  split
  · exact Nat.zero_le _
  · rename_i h1 h2
    have h1 := Decidable.not_not.1 h1
    have h3 := (els_fwd (parL (b.drop 4)) (b.drop (4 + parN (b.drop 4))) _ _ (by rw [← h1])).1
    have h4 := congrArg List.length h3
    rw [nos_len] at h4
    exact Nat.le_trans (Nat.le_of_eq h4) hp
theorem iso_nums {q L : Nat} (hq : q < L) (hL : L ≤ 4096) : IntKind.i64.wrap (q : Int) = (q : Int) ∧ wrap64 (q : Int) = (q : Int) ∧ IntKind.u64.wrap (L : Int) = (L : Int) ∧ (q : Int) ≤ (L : Int) ∧ ((L : Int) == 0) = false ∧ (L : Int) ≤ 4096 :=
  ⟨IntWalk.i64_in _ ⟨by omega, by omega⟩, IntWalk.wrap64_in _ ⟨by omega, by omega⟩, IntWalk.u64_in _ ⟨by omega, by omega⟩, by omega, by rw [beq_eq_false_iff_ne]; omega, by omega⟩
theorem iso_cutat (cut : Int) {L : Nat} (h0 : 12 ≤ L) (hL : L ≤ 4096) : ∃ q : Nat, q < L ∧ (IntKind.u64.wrap cut).tmod (L : Int) = (q : Int) := umodI cut L (by omega) (by omega)
theorem iso_fwd' {b : List UInt8} (h : (parI b).1 = 0) : pacE (parI b).2.1 (parI b).2.2 = 0 ∧ pacR (parI b).2.1 (parI b).2.2 = b := by
  have h2 : parI b = (0, (parI b).2.1, (parI b).2.2) := by rw [← h]
  obtain ⟨h3, h4⟩ := iso_fwd h2
  exact ⟨h3, by unfold pacR; rw [if_pos h3, h4]⟩
theorem ownm_nil {w : World} {base : Nat} : OwnM w base (.slice none 0 0) [] := ⟨rfl, .inl ⟨rfl, rfl⟩⟩
attribute [local irreducible] yielded in
theorem isoBack_walk {A B D : Option Addr} {n c m d k e : Nat} {S : ByteArray} {es : List El} {b mo : List UInt8} {cut : Int} (w : World) (hT : Tabs w) (he : RdI 2 TagI w (fun i => i < w.heap.size) A n c es) (hz : S.size ≤ maxLen) (hb : Rd w B m d (u8s b)) (hm : Rd w D k e (u8s mo)) (hcut : (Lit.int .i64 cut).wf = true) :
    Calls Tryz.prog 4 #[.agg #[.string S, .slice A n c], .slice B m d, .slice D k e, .int .i64 cut] w fun e w' => e = .returned (.bool true) ∧ Fr No w w' := by
  obtain rfl : b.length = m := by simpa using hb.len
  obtain rfl : mo.length = k := by simpa using hm.len
  obtain rfl : es.length = n := he.len tag_ok (by omega)
  have hcut2 := wf_i64 hcut
  have AW := Lib.hid (fun u (hu : Fr No w u) => awake_iso u (hT.fr hu))
  have hbe : Bk (w.alloc (.cells #[.string S, .slice A es.length c] 25)) w.heap.size 25 [.string S, .slice A es.length c] := Bk.new w _ _
  have F0 := Lib.hid ((Fr.refl No w).alloc (.cells #[.string S, .slice A es.length c] 25))
  obtain ⟨z0, z1⟩ := is_cells hbe
  have HBE := Lib.hid hbe
  have hm9 := rd_len63 hb
  have hk9 := rd_len63 hm
  have hn9 : es.length ≤ 9223372036854775807 := he.top
  by_cases h1 : 4096 < b.length
  · have h1I : 4096 < (b.length : Int) := by omega
    generalize b.length = m at *
    clear hb he hT hbe h1 hm
    generalize es.length = n at *
    generalize mo.length = k at *
    go_enter Tryz.func4, Tryz.ntmps4
    go_wp2_with (go_at_call 6; refine (AW.out _ F0.out).mono ?_; rintro e w1 ⟨rfl, hf⟩)
    go_ret
    exact ⟨rfl, F0.out.trans hf⟩
  have h1I : ¬ 4096 < (b.length : Int) := by omega
  by_cases h2 : 60 < es.length
  · have h2I : 60 < (es.length : Int) := by omega
    clear hb he hT hbe h1 h2 hm
    generalize b.length = m at *
    generalize es.length = n at *
    generalize mo.length = k at *
    go_enter Tryz.func4, Tryz.ntmps4
    go_wp2_with (go_at_call 6; refine (AW.out _ F0.out).mono ?_; rintro e w1 ⟨rfl, hf⟩)
    go_ret
    exact ⟨rfl, F0.out.trans hf⟩
  have h2I : ¬ 60 < (es.length : Int) := by omega
  by_cases h3 : 50 < mo.length
  · have h3I : 50 < (mo.length : Int) := by omega
    clear hb he hT hbe h1 h2 h3 hm
    generalize b.length = m at *
    generalize es.length = n at *
    generalize mo.length = k at *
    go_enter Tryz.func4, Tryz.ntmps4
    go_wp2_with (go_at_call 6; refine (AW.out _ F0.out).mono ?_; rintro e w1 ⟨rfl, hf⟩)
    go_ret
    exact ⟨rfl, F0.out.trans hf⟩
  have h3I : ¬ 50 < (mo.length : Int) := by omega
  have KA := fun u (hu : Fr No w u) => iso_pack_any S A es.length c es u (rdi_up he hu) (by omega) hz (hT.fr hu)
  have PAR : ∀ (u : World) (A' : Option Addr) (n' c' : Nat) (b : List UInt8), Fr No w u → Rd u A' n' c' (u8s b) → Calls Tryz.prog 8 #[.slice A' n' c'] u (IsoTo (parI b).2.1 (parI b).2.2 (parI b).1 u) := fun u A' n' c' b hu h => by
    have hl : b.length = n' := by simpa using h.len
    subst hl
    exact iso_parse_any A' c' b u h (hT.fr hu)
  have hbt : ∀ k : List UInt8, (k == k) = true := fun k => beq_self_eq_true _
  have PB := fun u (hu : Fr No w u) => PAR u B b.length d b hu (hb.no hu)
  have hfw := fun h => iso_fwd' (b := b) h
  have hpl := parI_len b
  have KZ := fun (u : World) (A' : Option Addr) (c' : Nat) (hu : Fr No w u) (h : RdI 2 TagI u (fun i => i < u.heap.size) A' (parI b).2.2.length c' (parI b).2.2) => iso_pack_any (bstr (parI b).2.1) A' (parI b).2.2.length c' (parI b).2.2 u h (by omega) (by
    rw [bstr_size]
    unfold parI
    repeat' split
    all_goals first | (simp [maxLen]; done) | (show (b.take 4).length ≤ _; rw [List.length_take]; simp only [maxLen]; omega)) (hT.fr hu)
  rw [show (bstr (parI b).2.1).data.toList = (parI b).2.1 by simp [bstr]] at KZ
  unfold PacTo at KA KZ
  unfold IsoTo at PB
  generalize (parI b).2.1 = t3 at *
  generalize (parI b).2.2 = es3 at *
  generalize (parI b).1 = E3 at *
  generalize bstr t3 = S3 at *
  have hpe := fun h : pacE S.data.toList es = 0 => (show pacR S.data.toList es = wrtI S.data.toList es by unfold pacR; rw [if_pos h])
  have hpn := fun h : pacE S.data.toList es ≠ 0 => (show pacR S.data.toList es = [] by unfold pacR; rw [if_neg h])
  have hSS := bstr_self' S
  have HBT := Lib.hid hbt; have HD := Lib.hid hm; have HB := Lib.hid hb; have HEE := Lib.hid (fun u (hu : Fr No w u) => rdi_up he hu)
  have hSZ : S.size ≤ 9223372036854775807 := by simpa [maxLen] using hz
  have HSZ := Lib.hid hSZ
  clear hbt hz hSZ
  obtain ⟨t, ht⟩ : ∃ t, S.data.toList = t := ⟨_, rfl⟩
  rw [ht] at KA hpe hpn hSS
  by_cases hE : pacE t es = 0
  · have hback := iso_back hE
    have hbeh := iso_behind hE mo
    have hcutL := iso_cut hE
    have hlen := iso_len hE
    have hle := (pac_ok hE).2.2.2.2
    rw [hE, hpe hE] at KA
    clear hpe hpn
    generalize wrtI t es = l at *
    have hmx : (mo.length = 0) ∨ (0 < mo.length ∧ (parI (l ++ mo)).1 = 17) ∨ (0 < mo.length ∧ (parI (l ++ mo)).1 ≠ 17 ∧ 4096 < l.length + mo.length) := by
      by_cases hk0 : mo.length = 0
      · exact .inl hk0
      · by_cases hlo : l.length + mo.length ≤ 4096
        · have := hbeh hlo
          rw [if_neg (fun e => by rw [e] at hk0; exact hk0 rfl)] at this
          exact .inr (.inl ⟨by omega, by rw [this]⟩)
        · by_cases h17 : (parI (l ++ mo)).1 = 17
          · exact .inr (.inl ⟨by omega, h17⟩)
          · exact .inr (.inr ⟨by omega, h17, by omega⟩)
    obtain ⟨L, hL⟩ : ∃ L, l.length = L := ⟨_, rfl⟩
    rw [hL] at hmx hlen hle hcutL
    obtain ⟨q, hq, eq⟩ := iso_cutat cut hlen hle
    have hct := hcutL q hq
    have PX := fun (u : World) (A' : Option Addr) (n' c' : Nat) (hu : Fr No w u) (h : Rd u A' n' c' (u8s l)) => PAR u A' n' c' _ hu h
    have PM := fun (u : World) (A' : Option Addr) (n' c' : Nat) (hu : Fr No w u) (h : Rd u A' n' c' (u8s (l ++ mo))) => PAR u A' n' c' _ hu h
    have PC := fun (u : World) (A' : Option Addr) (n' c' : Nat) (hu : Fr No w u) (h : Rd u A' n' c' (u8s (l.take q))) => PAR u A' n' c' _ hu h
    unfold IsoTo at PX PM PC
    rw [hback] at PX
    rw [hct] at PC
    dsimp only at PX
    rw [hSS] at PX
    generalize (parI (l ++ mo)).2.1 = tm at *
    generalize (parI (l ++ mo)).2.2 = esm at *
    generalize (parI (l ++ mo)).1 = G1 at *
    generalize (parI (l.take q)).2.1 = tc at *
    generalize (parI (l.take q)).2.2 = esc at *
    generalize bstr tm = Sm at *
    generalize bstr tc = Sc at *
    obtain ⟨wq, wq2, wL, hqL, hLpos, hLI⟩ := iso_nums hq hle
    obtain ⟨mn, hmn⟩ : ∃ mn, mo.length = mn := ⟨_, rfl⟩
    rw [hmn] at hmx HD h3I
    have HQ := Lib.hid hq
    have HMN := Lib.hid hmn
    have HLB := Lib.hid hle
    have HBL := Lib.hid (show ([] : List UInt8).length + L ≤ 140737488355328 by simp; omega)
    have HBM := Lib.hid (show l.length + mn ≤ 140737488355328 by omega)
    have PX := Lib.hid PX; have PM := Lib.hid PM; have PC := Lib.hid PC; have KA := Lib.hid KA; have PB := Lib.hid PB; have KZ := Lib.hid KZ; have HL := Lib.hid hL; have HFW := Lib.hid hfw
    rw [hmn]
    clear hb he hT hbe hm PAR hback hbeh hcutL hct hlen hE hL hmn hcut h1 h2 h3 hSS ht hfw hpl hle
    generalize b.length = bm at *
    rcases hmx with hm0 | ⟨hm1, rfl⟩ | ⟨hm1, hg, hlo⟩
    · have hmI : ¬ 0 < (mn : Int) := by omega
      clear hm0
      by_cases hE3 : E3 = 0
      · subst hE3
        have HK := Lib.hid (HFW.out rfl)
        have KZ2 := Lib.hid (fun (u : World) (A' : Option Addr) (c' : Nat) (hu : Fr No w u) (h : RdI 2 TagI u (fun i => i < u.heap.size) A' es3.length c' es3) => by
          have h := KZ.out u A' c' hu h
          rw [HK.out.1, HK.out.2] at h
          exact h)
        clear KZ HFW
        have tokP := True.intro
        have tokA := True.intro
        have tok1 := True.intro
        have tok2 := True.intro
        have tok3 := True.intro
        have tok5 := True.intro
        go_enter Tryz.func4, Tryz.ntmps4
        go_wp2_with (first
            | (go_at_call 10; clear tokP; refine (KA.out _ F0.out).mono ?_; rintro e w1 ⟨v, rfl, o1, f1⟩; obtain ⟨V, vc, rfl, r1, -⟩ := ownM_rd o1; rw [HL.out] at r1 ⊢; have F1 := Lib.hid (F0.out.trans f1); have B1 := Lib.hid (HBE.out.no f1); have R1 := Lib.hid r1; have hvc := r1.cap; have hvm : vc ≤ 9223372036854775807 := (by have := r1.max; simpa [maxLen] using this); clear o1 r1 f1)
            | (go_at_call 6; clear tokA; refine (AW.out _ F1.out).mono ?_; rintro e w2 ⟨rfl, f2⟩; have F2 := Lib.hid (F1.out.trans f2); have B2 := Lib.hid (B1.out.no f2); have R2 := Lib.hid (R1.out.no f2); clear f2)
            | (go_at_call 8; clear tok1; refine (PX.out _ _ _ _ F2.out R2.out).mono ?_; rintro e w3 ⟨v3, rfl, o3, f3⟩; obtain ⟨V3, c3, rfl, r3⟩ := owne_rd o3; have a3 : Fr No w3 (w3.alloc (.cells #[.string S, .slice V3 es.length c3] 25)) := (Fr.refl No w3).alloc _; have F3 := Lib.hid ((F2.out.trans f3).trans a3); have B3 := Lib.hid (B2.out.no (f3.trans a3)); have R3 := Lib.hid (R2.out.no (f3.trans a3)); have X3 := Lib.hid (Bk.new w3 25 #[.string S, .slice V3 es.length c3]); have Y3 := Lib.hid (rdi_up r3 a3); have SZ3 := Lib.hid (show (w3.alloc (.cells #[.string S, .slice V3 es.length c3] 25)).heap.size = w3.heap.size + 1 by simp); clear o3 f3 r3 a3)
            | (at_builtin; clear tok5; go_must (refine apM (w3.alloc (.cells #[.string S, .slice V3 es.length c3] 25)) rfl (.const (.slice none 0 0)) (.tmp 61) rfl (w3.heap.size + 1) (.slice none 0 0) [] rfl ownm_nil V L vc l rfl R3.out HBL.out (by rw [SZ3.out]; exact Nat.le_refl _) ?_); intro v4 w4 o4 g4 q4; rw [List.nil_append] at o4; have G4 := Lib.hid ((Fr.refl No (w3.alloc (.cells #[.string S, .slice V3 es.length c3] 25))).grown g4 (fun i e => by simp [Value.ownBlock] at e)); have O4 := Lib.hid o4; obtain ⟨V4, c4, rfl, -, -⟩ := ownM_rd o4; rw [HL.out] at O4 ⊢; clear o4 g4 q4)
            | (at_builtin; go_must (refine apM w4 rfl (.tmp 62) (.tmp 63) rfl (w3.heap.size + 1) (.slice V4 L c4) l rfl O4.out D mn e mo rfl (HD.out.no (F3.out.trans G4.out)) HBM.out (by have := G4.out.size; rw [SZ3.out] at this; exact this) ?_); intro v5 w5 o5 g5 q5; have G5 := Lib.hid (G4.out.trans_new ((Fr.refl (fun i => (Value.slice V4 L c4).ownBlock = some i) w4).grown g5 (fun i e => .inl e)) (fun i e => .inr (by rw [SZ3.out]; exact (ownM_lt O4.out i e).1))); obtain ⟨V5, c5, rfl, r5, -⟩ := ownM_rd o5; rw [List.length_append, HL.out, HMN.out] at r5 ⊢; have R5 := Lib.hid r5; have F5 := Lib.hid (F3.out.trans G5.out); clear o5 g5 q5 r5)
            | (go_at_call 8; clear tok2; refine (PM.out _ _ _ _ F5.out R5.out).mono ?_; rintro e w6 ⟨v6, rfl, o6, f6⟩; obtain ⟨V6, c6, rfl, r6⟩ := owne_rd o6; have a6 : Fr No w6 (w6.alloc (.cells #[.string Sm, .slice V6 esm.length c6] 25)) := (Fr.refl No w6).alloc _; have G6 := Lib.hid (G5.out.trans (f6.trans a6)); have F6 := Lib.hid (F5.out.trans (f6.trans a6)); have R6 := Lib.hid (R3.out.no G6.out); clear o6 f6 r6 a6)
            | (go_at_call 8; clear tok3; refine (PC.out _ _ _ _ F6.out (rd_head R6.out (Nat.le_of_lt HQ.out))).mono ?_; rintro e w7 ⟨v7, rfl, o7, f7⟩; obtain ⟨V7, c7, rfl, r7⟩ := owne_rd o7; have a7 : Fr No w7 (w7.alloc (.cells #[.string Sc, .slice V7 esc.length c7] 25)) := (Fr.refl No w7).alloc _; have G7 := Lib.hid (G6.out.trans (f7.trans a7)); have F7 := Lib.hid (F6.out.trans (f7.trans a7)); obtain ⟨x0, x1⟩ := is_cells (X3.out.no G7.out); obtain ⟨y0, y1⟩ := is_cells (B3.out.no G7.out); have Y7 := Lib.hid (rdi_up Y3.out G7.out); clear o7 f7 r7 a7)
            | (go_at_call 12; refine (sameIso_any S V3 A es.length c3 c es _ _ _ Y7.out (HEE.out _ F7.out) HSZ.out).mono ?_; rintro e w8 ⟨rfl, f8⟩; have F8 := Lib.hid (F7.out.trans f8); clear f8)
            | (go_at_call 8; refine (PB.out _ F8.out).mono ?_; rintro e w9 ⟨v9, rfl, o9, f9⟩; obtain ⟨V9, c9, rfl, r9⟩ := owne_rd o9; have a9 : Fr No w9 (w9.alloc (.cells #[.string S3, .slice V9 es3.length c9] 25)) := (Fr.refl No w9).alloc _; have F9 := Lib.hid ((F8.out.trans f9).trans a9); have Y9 := Lib.hid (rdi_up r9 a9); obtain ⟨zz0, zz1⟩ := is_cells (Bk.new w9 25 #[.string S3, .slice V9 es3.length c9]); clear o9 f9 r9 a9)
            | (go_at_call 10; refine (KZ2.out _ _ _ F9.out Y9.out).mono ?_; rintro e w10 ⟨v, rfl, o10, f10⟩; obtain ⟨V10, c10, rfl, r10, -⟩ := ownM_rd o10; have F10 := Lib.hid (F9.out.trans f10); have R10 := Lib.hid r10; clear o10 r10 f10)
            | (go_at_call 6; refine (AW.out _ F10.out).mono ?_; rintro e w11 ⟨rfl, f11⟩; have F11 := Lib.hid (F10.out.trans f11); have R11 := Lib.hid (R10.out.no f11); clear f11)
            | (go_at_call 13; refine (bytes_any _ _ _ _ _ _ b b _ R11.out (HB.out.no F11.out)).mono ?_; rintro e w12 ⟨rfl, rfl⟩; simp only [HBT.out]))
        go_ret
        exact ⟨rfl, F11.out⟩
      · have hE3b := st_ne0 hE3
        clear hE3 KZ HFW
        have tokP := True.intro
        have tokA := True.intro
        have tok1 := True.intro
        have tok2 := True.intro
        have tok3 := True.intro
        have tok5 := True.intro
        go_enter Tryz.func4, Tryz.ntmps4
        go_wp2_with (first
            | (go_at_call 10; clear tokP; refine (KA.out _ F0.out).mono ?_; rintro e w1 ⟨v, rfl, o1, f1⟩; obtain ⟨V, vc, rfl, r1, -⟩ := ownM_rd o1; rw [HL.out] at r1 ⊢; have F1 := Lib.hid (F0.out.trans f1); have B1 := Lib.hid (HBE.out.no f1); have R1 := Lib.hid r1; have hvc := r1.cap; have hvm : vc ≤ 9223372036854775807 := (by have := r1.max; simpa [maxLen] using this); clear o1 r1 f1)
            | (go_at_call 6; clear tokA; refine (AW.out _ F1.out).mono ?_; rintro e w2 ⟨rfl, f2⟩; have F2 := Lib.hid (F1.out.trans f2); have B2 := Lib.hid (B1.out.no f2); have R2 := Lib.hid (R1.out.no f2); clear f2)
            | (go_at_call 8; clear tok1; refine (PX.out _ _ _ _ F2.out R2.out).mono ?_; rintro e w3 ⟨v3, rfl, o3, f3⟩; obtain ⟨V3, c3, rfl, r3⟩ := owne_rd o3; have a3 : Fr No w3 (w3.alloc (.cells #[.string S, .slice V3 es.length c3] 25)) := (Fr.refl No w3).alloc _; have F3 := Lib.hid ((F2.out.trans f3).trans a3); have B3 := Lib.hid (B2.out.no (f3.trans a3)); have R3 := Lib.hid (R2.out.no (f3.trans a3)); have X3 := Lib.hid (Bk.new w3 25 #[.string S, .slice V3 es.length c3]); have Y3 := Lib.hid (rdi_up r3 a3); have SZ3 := Lib.hid (show (w3.alloc (.cells #[.string S, .slice V3 es.length c3] 25)).heap.size = w3.heap.size + 1 by simp); clear o3 f3 r3 a3)
            | (at_builtin; clear tok5; go_must (refine apM (w3.alloc (.cells #[.string S, .slice V3 es.length c3] 25)) rfl (.const (.slice none 0 0)) (.tmp 61) rfl (w3.heap.size + 1) (.slice none 0 0) [] rfl ownm_nil V L vc l rfl R3.out HBL.out (by rw [SZ3.out]; exact Nat.le_refl _) ?_); intro v4 w4 o4 g4 q4; rw [List.nil_append] at o4; have G4 := Lib.hid ((Fr.refl No (w3.alloc (.cells #[.string S, .slice V3 es.length c3] 25))).grown g4 (fun i e => by simp [Value.ownBlock] at e)); have O4 := Lib.hid o4; obtain ⟨V4, c4, rfl, -, -⟩ := ownM_rd o4; rw [HL.out] at O4 ⊢; clear o4 g4 q4)
            | (at_builtin; go_must (refine apM w4 rfl (.tmp 62) (.tmp 63) rfl (w3.heap.size + 1) (.slice V4 L c4) l rfl O4.out D mn e mo rfl (HD.out.no (F3.out.trans G4.out)) HBM.out (by have := G4.out.size; rw [SZ3.out] at this; exact this) ?_); intro v5 w5 o5 g5 q5; have G5 := Lib.hid (G4.out.trans_new ((Fr.refl (fun i => (Value.slice V4 L c4).ownBlock = some i) w4).grown g5 (fun i e => .inl e)) (fun i e => .inr (by rw [SZ3.out]; exact (ownM_lt O4.out i e).1))); obtain ⟨V5, c5, rfl, r5, -⟩ := ownM_rd o5; rw [List.length_append, HL.out, HMN.out] at r5 ⊢; have R5 := Lib.hid r5; have F5 := Lib.hid (F3.out.trans G5.out); clear o5 g5 q5 r5)
            | (go_at_call 8; clear tok2; refine (PM.out _ _ _ _ F5.out R5.out).mono ?_; rintro e w6 ⟨v6, rfl, o6, f6⟩; obtain ⟨V6, c6, rfl, r6⟩ := owne_rd o6; have a6 : Fr No w6 (w6.alloc (.cells #[.string Sm, .slice V6 esm.length c6] 25)) := (Fr.refl No w6).alloc _; have G6 := Lib.hid (G5.out.trans (f6.trans a6)); have F6 := Lib.hid (F5.out.trans (f6.trans a6)); have R6 := Lib.hid (R3.out.no G6.out); clear o6 f6 r6 a6)
            | (go_at_call 8; clear tok3; refine (PC.out _ _ _ _ F6.out (rd_head R6.out (Nat.le_of_lt HQ.out))).mono ?_; rintro e w7 ⟨v7, rfl, o7, f7⟩; obtain ⟨V7, c7, rfl, r7⟩ := owne_rd o7; have a7 : Fr No w7 (w7.alloc (.cells #[.string Sc, .slice V7 esc.length c7] 25)) := (Fr.refl No w7).alloc _; have G7 := Lib.hid (G6.out.trans (f7.trans a7)); have F7 := Lib.hid (F6.out.trans (f7.trans a7)); obtain ⟨x0, x1⟩ := is_cells (X3.out.no G7.out); obtain ⟨y0, y1⟩ := is_cells (B3.out.no G7.out); have Y7 := Lib.hid (rdi_up Y3.out G7.out); clear o7 f7 r7 a7)
            | (go_at_call 12; refine (sameIso_any S V3 A es.length c3 c es _ _ _ Y7.out (HEE.out _ F7.out) HSZ.out).mono ?_; rintro e w8 ⟨rfl, f8⟩; have F8 := Lib.hid (F7.out.trans f8); clear f8)
            | (go_at_call 8; refine (PB.out _ F8.out).mono ?_; rintro e w9 ⟨v9, rfl, o9, f9⟩; obtain ⟨V9, c9, rfl, r9⟩ := owne_rd o9; have a9 : Fr No w9 (w9.alloc (.cells #[.string S3, .slice V9 es3.length c9] 25)) := (Fr.refl No w9).alloc _; have F9 := Lib.hid ((F8.out.trans f9).trans a9); have Y9 := Lib.hid (rdi_up r9 a9); obtain ⟨zz0, zz1⟩ := is_cells (Bk.new w9 25 #[.string S3, .slice V9 es3.length c9]); clear o9 f9 r9 a9)
            | (go_at_call 6; refine (AW.out _ F9.out).mono ?_; rintro e w10 ⟨rfl, f10⟩; have F10 := Lib.hid (F9.out.trans f10); clear f10))
        go_ret
        exact ⟨rfl, F10.out⟩
    · have hmI : 0 < (mn : Int) := by omega
      clear hm1
      by_cases hE3 : E3 = 0
      · subst hE3
        have HK := Lib.hid (HFW.out rfl)
        have KZ2 := Lib.hid (fun (u : World) (A' : Option Addr) (c' : Nat) (hu : Fr No w u) (h : RdI 2 TagI u (fun i => i < u.heap.size) A' es3.length c' es3) => by
          have h := KZ.out u A' c' hu h
          rw [HK.out.1, HK.out.2] at h
          exact h)
        clear KZ HFW
        have tokP := True.intro
        have tokA := True.intro
        have tok1 := True.intro
        have tok2 := True.intro
        have tok3 := True.intro
        have tok5 := True.intro
        go_enter Tryz.func4, Tryz.ntmps4
        go_wp2_with (first
            | (go_at_call 10; clear tokP; refine (KA.out _ F0.out).mono ?_; rintro e w1 ⟨v, rfl, o1, f1⟩; obtain ⟨V, vc, rfl, r1, -⟩ := ownM_rd o1; rw [HL.out] at r1 ⊢; have F1 := Lib.hid (F0.out.trans f1); have B1 := Lib.hid (HBE.out.no f1); have R1 := Lib.hid r1; have hvc := r1.cap; have hvm : vc ≤ 9223372036854775807 := (by have := r1.max; simpa [maxLen] using this); clear o1 r1 f1)
            | (go_at_call 6; clear tokA; refine (AW.out _ F1.out).mono ?_; rintro e w2 ⟨rfl, f2⟩; have F2 := Lib.hid (F1.out.trans f2); have B2 := Lib.hid (B1.out.no f2); have R2 := Lib.hid (R1.out.no f2); clear f2)
            | (go_at_call 8; clear tok1; refine (PX.out _ _ _ _ F2.out R2.out).mono ?_; rintro e w3 ⟨v3, rfl, o3, f3⟩; obtain ⟨V3, c3, rfl, r3⟩ := owne_rd o3; have a3 : Fr No w3 (w3.alloc (.cells #[.string S, .slice V3 es.length c3] 25)) := (Fr.refl No w3).alloc _; have F3 := Lib.hid ((F2.out.trans f3).trans a3); have B3 := Lib.hid (B2.out.no (f3.trans a3)); have R3 := Lib.hid (R2.out.no (f3.trans a3)); have X3 := Lib.hid (Bk.new w3 25 #[.string S, .slice V3 es.length c3]); have Y3 := Lib.hid (rdi_up r3 a3); have SZ3 := Lib.hid (show (w3.alloc (.cells #[.string S, .slice V3 es.length c3] 25)).heap.size = w3.heap.size + 1 by simp); clear o3 f3 r3 a3)
            | (at_builtin; clear tok5; go_must (refine apM (w3.alloc (.cells #[.string S, .slice V3 es.length c3] 25)) rfl (.const (.slice none 0 0)) (.tmp 61) rfl (w3.heap.size + 1) (.slice none 0 0) [] rfl ownm_nil V L vc l rfl R3.out HBL.out (by rw [SZ3.out]; exact Nat.le_refl _) ?_); intro v4 w4 o4 g4 q4; rw [List.nil_append] at o4; have G4 := Lib.hid ((Fr.refl No (w3.alloc (.cells #[.string S, .slice V3 es.length c3] 25))).grown g4 (fun i e => by simp [Value.ownBlock] at e)); have O4 := Lib.hid o4; obtain ⟨V4, c4, rfl, -, -⟩ := ownM_rd o4; rw [HL.out] at O4 ⊢; clear o4 g4 q4)
            | (at_builtin; go_must (refine apM w4 rfl (.tmp 62) (.tmp 63) rfl (w3.heap.size + 1) (.slice V4 L c4) l rfl O4.out D mn e mo rfl (HD.out.no (F3.out.trans G4.out)) HBM.out (by have := G4.out.size; rw [SZ3.out] at this; exact this) ?_); intro v5 w5 o5 g5 q5; have G5 := Lib.hid (G4.out.trans_new ((Fr.refl (fun i => (Value.slice V4 L c4).ownBlock = some i) w4).grown g5 (fun i e => .inl e)) (fun i e => .inr (by rw [SZ3.out]; exact (ownM_lt O4.out i e).1))); obtain ⟨V5, c5, rfl, r5, -⟩ := ownM_rd o5; rw [List.length_append, HL.out, HMN.out] at r5 ⊢; have R5 := Lib.hid r5; have F5 := Lib.hid (F3.out.trans G5.out); clear o5 g5 q5 r5)
            | (go_at_call 8; clear tok2; refine (PM.out _ _ _ _ F5.out R5.out).mono ?_; rintro e w6 ⟨v6, rfl, o6, f6⟩; obtain ⟨V6, c6, rfl, r6⟩ := owne_rd o6; have a6 : Fr No w6 (w6.alloc (.cells #[.string Sm, .slice V6 esm.length c6] 25)) := (Fr.refl No w6).alloc _; have G6 := Lib.hid (G5.out.trans (f6.trans a6)); have F6 := Lib.hid (F5.out.trans (f6.trans a6)); have R6 := Lib.hid (R3.out.no G6.out); clear o6 f6 r6 a6)
            | (go_at_call 8; clear tok3; refine (PC.out _ _ _ _ F6.out (rd_head R6.out (Nat.le_of_lt HQ.out))).mono ?_; rintro e w7 ⟨v7, rfl, o7, f7⟩; obtain ⟨V7, c7, rfl, r7⟩ := owne_rd o7; have a7 : Fr No w7 (w7.alloc (.cells #[.string Sc, .slice V7 esc.length c7] 25)) := (Fr.refl No w7).alloc _; have G7 := Lib.hid (G6.out.trans (f7.trans a7)); have F7 := Lib.hid (F6.out.trans (f7.trans a7)); obtain ⟨x0, x1⟩ := is_cells (X3.out.no G7.out); obtain ⟨y0, y1⟩ := is_cells (B3.out.no G7.out); have Y7 := Lib.hid (rdi_up Y3.out G7.out); clear o7 f7 r7 a7)
            | (go_at_call 12; refine (sameIso_any S V3 A es.length c3 c es _ _ _ Y7.out (HEE.out _ F7.out) HSZ.out).mono ?_; rintro e w8 ⟨rfl, f8⟩; have F8 := Lib.hid (F7.out.trans f8); clear f8)
            | (go_at_call 8; refine (PB.out _ F8.out).mono ?_; rintro e w9 ⟨v9, rfl, o9, f9⟩; obtain ⟨V9, c9, rfl, r9⟩ := owne_rd o9; have a9 : Fr No w9 (w9.alloc (.cells #[.string S3, .slice V9 es3.length c9] 25)) := (Fr.refl No w9).alloc _; have F9 := Lib.hid ((F8.out.trans f9).trans a9); have Y9 := Lib.hid (rdi_up r9 a9); obtain ⟨zz0, zz1⟩ := is_cells (Bk.new w9 25 #[.string S3, .slice V9 es3.length c9]); clear o9 f9 r9 a9)
            | (go_at_call 10; refine (KZ2.out _ _ _ F9.out Y9.out).mono ?_; rintro e w10 ⟨v, rfl, o10, f10⟩; obtain ⟨V10, c10, rfl, r10, -⟩ := ownM_rd o10; have F10 := Lib.hid (F9.out.trans f10); have R10 := Lib.hid r10; clear o10 r10 f10)
            | (go_at_call 6; refine (AW.out _ F10.out).mono ?_; rintro e w11 ⟨rfl, f11⟩; have F11 := Lib.hid (F10.out.trans f11); have R11 := Lib.hid (R10.out.no f11); clear f11)
            | (go_at_call 13; refine (bytes_any _ _ _ _ _ _ b b _ R11.out (HB.out.no F11.out)).mono ?_; rintro e w12 ⟨rfl, rfl⟩; simp only [HBT.out]))
        go_ret
        exact ⟨rfl, F11.out⟩
      · have hE3b := st_ne0 hE3
        clear hE3 KZ HFW
        have tokP := True.intro
        have tokA := True.intro
        have tok1 := True.intro
        have tok2 := True.intro
        have tok3 := True.intro
        have tok5 := True.intro
        go_enter Tryz.func4, Tryz.ntmps4
        go_wp2_with (first
            | (go_at_call 10; clear tokP; refine (KA.out _ F0.out).mono ?_; rintro e w1 ⟨v, rfl, o1, f1⟩; obtain ⟨V, vc, rfl, r1, -⟩ := ownM_rd o1; rw [HL.out] at r1 ⊢; have F1 := Lib.hid (F0.out.trans f1); have B1 := Lib.hid (HBE.out.no f1); have R1 := Lib.hid r1; have hvc := r1.cap; have hvm : vc ≤ 9223372036854775807 := (by have := r1.max; simpa [maxLen] using this); clear o1 r1 f1)
            | (go_at_call 6; clear tokA; refine (AW.out _ F1.out).mono ?_; rintro e w2 ⟨rfl, f2⟩; have F2 := Lib.hid (F1.out.trans f2); have B2 := Lib.hid (B1.out.no f2); have R2 := Lib.hid (R1.out.no f2); clear f2)
            | (go_at_call 8; clear tok1; refine (PX.out _ _ _ _ F2.out R2.out).mono ?_; rintro e w3 ⟨v3, rfl, o3, f3⟩; obtain ⟨V3, c3, rfl, r3⟩ := owne_rd o3; have a3 : Fr No w3 (w3.alloc (.cells #[.string S, .slice V3 es.length c3] 25)) := (Fr.refl No w3).alloc _; have F3 := Lib.hid ((F2.out.trans f3).trans a3); have B3 := Lib.hid (B2.out.no (f3.trans a3)); have R3 := Lib.hid (R2.out.no (f3.trans a3)); have X3 := Lib.hid (Bk.new w3 25 #[.string S, .slice V3 es.length c3]); have Y3 := Lib.hid (rdi_up r3 a3); have SZ3 := Lib.hid (show (w3.alloc (.cells #[.string S, .slice V3 es.length c3] 25)).heap.size = w3.heap.size + 1 by simp); clear o3 f3 r3 a3)
            | (at_builtin; clear tok5; go_must (refine apM (w3.alloc (.cells #[.string S, .slice V3 es.length c3] 25)) rfl (.const (.slice none 0 0)) (.tmp 61) rfl (w3.heap.size + 1) (.slice none 0 0) [] rfl ownm_nil V L vc l rfl R3.out HBL.out (by rw [SZ3.out]; exact Nat.le_refl _) ?_); intro v4 w4 o4 g4 q4; rw [List.nil_append] at o4; have G4 := Lib.hid ((Fr.refl No (w3.alloc (.cells #[.string S, .slice V3 es.length c3] 25))).grown g4 (fun i e => by simp [Value.ownBlock] at e)); have O4 := Lib.hid o4; obtain ⟨V4, c4, rfl, -, -⟩ := ownM_rd o4; rw [HL.out] at O4 ⊢; clear o4 g4 q4)
            | (at_builtin; go_must (refine apM w4 rfl (.tmp 62) (.tmp 63) rfl (w3.heap.size + 1) (.slice V4 L c4) l rfl O4.out D mn e mo rfl (HD.out.no (F3.out.trans G4.out)) HBM.out (by have := G4.out.size; rw [SZ3.out] at this; exact this) ?_); intro v5 w5 o5 g5 q5; have G5 := Lib.hid (G4.out.trans_new ((Fr.refl (fun i => (Value.slice V4 L c4).ownBlock = some i) w4).grown g5 (fun i e => .inl e)) (fun i e => .inr (by rw [SZ3.out]; exact (ownM_lt O4.out i e).1))); obtain ⟨V5, c5, rfl, r5, -⟩ := ownM_rd o5; rw [List.length_append, HL.out, HMN.out] at r5 ⊢; have R5 := Lib.hid r5; have F5 := Lib.hid (F3.out.trans G5.out); clear o5 g5 q5 r5)
            | (go_at_call 8; clear tok2; refine (PM.out _ _ _ _ F5.out R5.out).mono ?_; rintro e w6 ⟨v6, rfl, o6, f6⟩; obtain ⟨V6, c6, rfl, r6⟩ := owne_rd o6; have a6 : Fr No w6 (w6.alloc (.cells #[.string Sm, .slice V6 esm.length c6] 25)) := (Fr.refl No w6).alloc _; have G6 := Lib.hid (G5.out.trans (f6.trans a6)); have F6 := Lib.hid (F5.out.trans (f6.trans a6)); have R6 := Lib.hid (R3.out.no G6.out); clear o6 f6 r6 a6)
            | (go_at_call 8; clear tok3; refine (PC.out _ _ _ _ F6.out (rd_head R6.out (Nat.le_of_lt HQ.out))).mono ?_; rintro e w7 ⟨v7, rfl, o7, f7⟩; obtain ⟨V7, c7, rfl, r7⟩ := owne_rd o7; have a7 : Fr No w7 (w7.alloc (.cells #[.string Sc, .slice V7 esc.length c7] 25)) := (Fr.refl No w7).alloc _; have G7 := Lib.hid (G6.out.trans (f7.trans a7)); have F7 := Lib.hid (F6.out.trans (f7.trans a7)); obtain ⟨x0, x1⟩ := is_cells (X3.out.no G7.out); obtain ⟨y0, y1⟩ := is_cells (B3.out.no G7.out); have Y7 := Lib.hid (rdi_up Y3.out G7.out); clear o7 f7 r7 a7)
            | (go_at_call 12; refine (sameIso_any S V3 A es.length c3 c es _ _ _ Y7.out (HEE.out _ F7.out) HSZ.out).mono ?_; rintro e w8 ⟨rfl, f8⟩; have F8 := Lib.hid (F7.out.trans f8); clear f8)
            | (go_at_call 8; refine (PB.out _ F8.out).mono ?_; rintro e w9 ⟨v9, rfl, o9, f9⟩; obtain ⟨V9, c9, rfl, r9⟩ := owne_rd o9; have a9 : Fr No w9 (w9.alloc (.cells #[.string S3, .slice V9 es3.length c9] 25)) := (Fr.refl No w9).alloc _; have F9 := Lib.hid ((F8.out.trans f9).trans a9); have Y9 := Lib.hid (rdi_up r9 a9); obtain ⟨zz0, zz1⟩ := is_cells (Bk.new w9 25 #[.string S3, .slice V9 es3.length c9]); clear o9 f9 r9 a9)
            | (go_at_call 6; refine (AW.out _ F9.out).mono ?_; rintro e w10 ⟨rfl, f10⟩; have F10 := Lib.hid (F9.out.trans f10); clear f10))
        go_ret
        exact ⟨rfl, F10.out⟩
    · have hmI : 0 < (mn : Int) := by omega
      have hgI : (G1 != 17) = true := by rw [bne_iff_ne]; exact hg
      have hloI : 4096 < (L : Int) + (mn : Int) := by omega
      clear hm1 hg hlo
      by_cases hE3 : E3 = 0
      · subst hE3
        have HK := Lib.hid (HFW.out rfl)
        have KZ2 := Lib.hid (fun (u : World) (A' : Option Addr) (c' : Nat) (hu : Fr No w u) (h : RdI 2 TagI u (fun i => i < u.heap.size) A' es3.length c' es3) => by
          have h := KZ.out u A' c' hu h
          rw [HK.out.1, HK.out.2] at h
          exact h)
        clear KZ HFW
        have tokP := True.intro
        have tokA := True.intro
        have tok1 := True.intro
        have tok2 := True.intro
        have tok3 := True.intro
        have tok5 := True.intro
        go_enter Tryz.func4, Tryz.ntmps4
        go_wp2_with (first
            | (go_at_call 10; clear tokP; refine (KA.out _ F0.out).mono ?_; rintro e w1 ⟨v, rfl, o1, f1⟩; obtain ⟨V, vc, rfl, r1, -⟩ := ownM_rd o1; rw [HL.out] at r1 ⊢; have F1 := Lib.hid (F0.out.trans f1); have B1 := Lib.hid (HBE.out.no f1); have R1 := Lib.hid r1; have hvc := r1.cap; have hvm : vc ≤ 9223372036854775807 := (by have := r1.max; simpa [maxLen] using this); clear o1 r1 f1)
            | (go_at_call 6; clear tokA; refine (AW.out _ F1.out).mono ?_; rintro e w2 ⟨rfl, f2⟩; have F2 := Lib.hid (F1.out.trans f2); have B2 := Lib.hid (B1.out.no f2); have R2 := Lib.hid (R1.out.no f2); clear f2)
            | (go_at_call 8; clear tok1; refine (PX.out _ _ _ _ F2.out R2.out).mono ?_; rintro e w3 ⟨v3, rfl, o3, f3⟩; obtain ⟨V3, c3, rfl, r3⟩ := owne_rd o3; have a3 : Fr No w3 (w3.alloc (.cells #[.string S, .slice V3 es.length c3] 25)) := (Fr.refl No w3).alloc _; have F3 := Lib.hid ((F2.out.trans f3).trans a3); have B3 := Lib.hid (B2.out.no (f3.trans a3)); have R3 := Lib.hid (R2.out.no (f3.trans a3)); have X3 := Lib.hid (Bk.new w3 25 #[.string S, .slice V3 es.length c3]); have Y3 := Lib.hid (rdi_up r3 a3); have SZ3 := Lib.hid (show (w3.alloc (.cells #[.string S, .slice V3 es.length c3] 25)).heap.size = w3.heap.size + 1 by simp); clear o3 f3 r3 a3)
            | (at_builtin; clear tok5; go_must (refine apM (w3.alloc (.cells #[.string S, .slice V3 es.length c3] 25)) rfl (.const (.slice none 0 0)) (.tmp 61) rfl (w3.heap.size + 1) (.slice none 0 0) [] rfl ownm_nil V L vc l rfl R3.out HBL.out (by rw [SZ3.out]; exact Nat.le_refl _) ?_); intro v4 w4 o4 g4 q4; rw [List.nil_append] at o4; have G4 := Lib.hid ((Fr.refl No (w3.alloc (.cells #[.string S, .slice V3 es.length c3] 25))).grown g4 (fun i e => by simp [Value.ownBlock] at e)); have O4 := Lib.hid o4; obtain ⟨V4, c4, rfl, -, -⟩ := ownM_rd o4; rw [HL.out] at O4 ⊢; clear o4 g4 q4)
            | (at_builtin; go_must (refine apM w4 rfl (.tmp 62) (.tmp 63) rfl (w3.heap.size + 1) (.slice V4 L c4) l rfl O4.out D mn e mo rfl (HD.out.no (F3.out.trans G4.out)) HBM.out (by have := G4.out.size; rw [SZ3.out] at this; exact this) ?_); intro v5 w5 o5 g5 q5; have G5 := Lib.hid (G4.out.trans_new ((Fr.refl (fun i => (Value.slice V4 L c4).ownBlock = some i) w4).grown g5 (fun i e => .inl e)) (fun i e => .inr (by rw [SZ3.out]; exact (ownM_lt O4.out i e).1))); obtain ⟨V5, c5, rfl, r5, -⟩ := ownM_rd o5; rw [List.length_append, HL.out, HMN.out] at r5 ⊢; have R5 := Lib.hid r5; have F5 := Lib.hid (F3.out.trans G5.out); clear o5 g5 q5 r5)
            | (go_at_call 8; clear tok2; refine (PM.out _ _ _ _ F5.out R5.out).mono ?_; rintro e w6 ⟨v6, rfl, o6, f6⟩; obtain ⟨V6, c6, rfl, r6⟩ := owne_rd o6; have a6 : Fr No w6 (w6.alloc (.cells #[.string Sm, .slice V6 esm.length c6] 25)) := (Fr.refl No w6).alloc _; have G6 := Lib.hid (G5.out.trans (f6.trans a6)); have F6 := Lib.hid (F5.out.trans (f6.trans a6)); have R6 := Lib.hid (R3.out.no G6.out); clear o6 f6 r6 a6)
            | (go_at_call 8; clear tok3; refine (PC.out _ _ _ _ F6.out (rd_head R6.out (Nat.le_of_lt HQ.out))).mono ?_; rintro e w7 ⟨v7, rfl, o7, f7⟩; obtain ⟨V7, c7, rfl, r7⟩ := owne_rd o7; have a7 : Fr No w7 (w7.alloc (.cells #[.string Sc, .slice V7 esc.length c7] 25)) := (Fr.refl No w7).alloc _; have G7 := Lib.hid (G6.out.trans (f7.trans a7)); have F7 := Lib.hid (F6.out.trans (f7.trans a7)); obtain ⟨x0, x1⟩ := is_cells (X3.out.no G7.out); obtain ⟨y0, y1⟩ := is_cells (B3.out.no G7.out); have Y7 := Lib.hid (rdi_up Y3.out G7.out); clear o7 f7 r7 a7)
            | (go_at_call 12; refine (sameIso_any S V3 A es.length c3 c es _ _ _ Y7.out (HEE.out _ F7.out) HSZ.out).mono ?_; rintro e w8 ⟨rfl, f8⟩; have F8 := Lib.hid (F7.out.trans f8); clear f8)
            | (go_at_call 8; refine (PB.out _ F8.out).mono ?_; rintro e w9 ⟨v9, rfl, o9, f9⟩; obtain ⟨V9, c9, rfl, r9⟩ := owne_rd o9; have a9 : Fr No w9 (w9.alloc (.cells #[.string S3, .slice V9 es3.length c9] 25)) := (Fr.refl No w9).alloc _; have F9 := Lib.hid ((F8.out.trans f9).trans a9); have Y9 := Lib.hid (rdi_up r9 a9); obtain ⟨zz0, zz1⟩ := is_cells (Bk.new w9 25 #[.string S3, .slice V9 es3.length c9]); clear o9 f9 r9 a9)
            | (go_at_call 10; refine (KZ2.out _ _ _ F9.out Y9.out).mono ?_; rintro e w10 ⟨v, rfl, o10, f10⟩; obtain ⟨V10, c10, rfl, r10, -⟩ := ownM_rd o10; have F10 := Lib.hid (F9.out.trans f10); have R10 := Lib.hid r10; clear o10 r10 f10)
            | (go_at_call 6; refine (AW.out _ F10.out).mono ?_; rintro e w11 ⟨rfl, f11⟩; have F11 := Lib.hid (F10.out.trans f11); have R11 := Lib.hid (R10.out.no f11); clear f11)
            | (go_at_call 13; refine (bytes_any _ _ _ _ _ _ b b _ R11.out (HB.out.no F11.out)).mono ?_; rintro e w12 ⟨rfl, rfl⟩; simp only [HBT.out]))
        go_ret
        exact ⟨rfl, F11.out⟩
      · have hE3b := st_ne0 hE3
        clear hE3 KZ HFW
        have tokP := True.intro
        have tokA := True.intro
        have tok1 := True.intro
        have tok2 := True.intro
        have tok3 := True.intro
        have tok5 := True.intro
        go_enter Tryz.func4, Tryz.ntmps4
        go_wp2_with (first
            | (go_at_call 10; clear tokP; refine (KA.out _ F0.out).mono ?_; rintro e w1 ⟨v, rfl, o1, f1⟩; obtain ⟨V, vc, rfl, r1, -⟩ := ownM_rd o1; rw [HL.out] at r1 ⊢; have F1 := Lib.hid (F0.out.trans f1); have B1 := Lib.hid (HBE.out.no f1); have R1 := Lib.hid r1; have hvc := r1.cap; have hvm : vc ≤ 9223372036854775807 := (by have := r1.max; simpa [maxLen] using this); clear o1 r1 f1)
            | (go_at_call 6; clear tokA; refine (AW.out _ F1.out).mono ?_; rintro e w2 ⟨rfl, f2⟩; have F2 := Lib.hid (F1.out.trans f2); have B2 := Lib.hid (B1.out.no f2); have R2 := Lib.hid (R1.out.no f2); clear f2)
            | (go_at_call 8; clear tok1; refine (PX.out _ _ _ _ F2.out R2.out).mono ?_; rintro e w3 ⟨v3, rfl, o3, f3⟩; obtain ⟨V3, c3, rfl, r3⟩ := owne_rd o3; have a3 : Fr No w3 (w3.alloc (.cells #[.string S, .slice V3 es.length c3] 25)) := (Fr.refl No w3).alloc _; have F3 := Lib.hid ((F2.out.trans f3).trans a3); have B3 := Lib.hid (B2.out.no (f3.trans a3)); have R3 := Lib.hid (R2.out.no (f3.trans a3)); have X3 := Lib.hid (Bk.new w3 25 #[.string S, .slice V3 es.length c3]); have Y3 := Lib.hid (rdi_up r3 a3); have SZ3 := Lib.hid (show (w3.alloc (.cells #[.string S, .slice V3 es.length c3] 25)).heap.size = w3.heap.size + 1 by simp); clear o3 f3 r3 a3)
            | (at_builtin; clear tok5; go_must (refine apM (w3.alloc (.cells #[.string S, .slice V3 es.length c3] 25)) rfl (.const (.slice none 0 0)) (.tmp 61) rfl (w3.heap.size + 1) (.slice none 0 0) [] rfl ownm_nil V L vc l rfl R3.out HBL.out (by rw [SZ3.out]; exact Nat.le_refl _) ?_); intro v4 w4 o4 g4 q4; rw [List.nil_append] at o4; have G4 := Lib.hid ((Fr.refl No (w3.alloc (.cells #[.string S, .slice V3 es.length c3] 25))).grown g4 (fun i e => by simp [Value.ownBlock] at e)); have O4 := Lib.hid o4; obtain ⟨V4, c4, rfl, -, -⟩ := ownM_rd o4; rw [HL.out] at O4 ⊢; clear o4 g4 q4)
            | (at_builtin; go_must (refine apM w4 rfl (.tmp 62) (.tmp 63) rfl (w3.heap.size + 1) (.slice V4 L c4) l rfl O4.out D mn e mo rfl (HD.out.no (F3.out.trans G4.out)) HBM.out (by have := G4.out.size; rw [SZ3.out] at this; exact this) ?_); intro v5 w5 o5 g5 q5; have G5 := Lib.hid (G4.out.trans_new ((Fr.refl (fun i => (Value.slice V4 L c4).ownBlock = some i) w4).grown g5 (fun i e => .inl e)) (fun i e => .inr (by rw [SZ3.out]; exact (ownM_lt O4.out i e).1))); obtain ⟨V5, c5, rfl, r5, -⟩ := ownM_rd o5; rw [List.length_append, HL.out, HMN.out] at r5 ⊢; have R5 := Lib.hid r5; have F5 := Lib.hid (F3.out.trans G5.out); clear o5 g5 q5 r5)
            | (go_at_call 8; clear tok2; refine (PM.out _ _ _ _ F5.out R5.out).mono ?_; rintro e w6 ⟨v6, rfl, o6, f6⟩; obtain ⟨V6, c6, rfl, r6⟩ := owne_rd o6; have a6 : Fr No w6 (w6.alloc (.cells #[.string Sm, .slice V6 esm.length c6] 25)) := (Fr.refl No w6).alloc _; have G6 := Lib.hid (G5.out.trans (f6.trans a6)); have F6 := Lib.hid (F5.out.trans (f6.trans a6)); have R6 := Lib.hid (R3.out.no G6.out); clear o6 f6 r6 a6)
            | (go_at_call 8; clear tok3; refine (PC.out _ _ _ _ F6.out (rd_head R6.out (Nat.le_of_lt HQ.out))).mono ?_; rintro e w7 ⟨v7, rfl, o7, f7⟩; obtain ⟨V7, c7, rfl, r7⟩ := owne_rd o7; have a7 : Fr No w7 (w7.alloc (.cells #[.string Sc, .slice V7 esc.length c7] 25)) := (Fr.refl No w7).alloc _; have G7 := Lib.hid (G6.out.trans (f7.trans a7)); have F7 := Lib.hid (F6.out.trans (f7.trans a7)); obtain ⟨x0, x1⟩ := is_cells (X3.out.no G7.out); obtain ⟨y0, y1⟩ := is_cells (B3.out.no G7.out); have Y7 := Lib.hid (rdi_up Y3.out G7.out); clear o7 f7 r7 a7)
            | (go_at_call 12; refine (sameIso_any S V3 A es.length c3 c es _ _ _ Y7.out (HEE.out _ F7.out) HSZ.out).mono ?_; rintro e w8 ⟨rfl, f8⟩; have F8 := Lib.hid (F7.out.trans f8); clear f8)
            | (go_at_call 8; refine (PB.out _ F8.out).mono ?_; rintro e w9 ⟨v9, rfl, o9, f9⟩; obtain ⟨V9, c9, rfl, r9⟩ := owne_rd o9; have a9 : Fr No w9 (w9.alloc (.cells #[.string S3, .slice V9 es3.length c9] 25)) := (Fr.refl No w9).alloc _; have F9 := Lib.hid ((F8.out.trans f9).trans a9); have Y9 := Lib.hid (rdi_up r9 a9); obtain ⟨zz0, zz1⟩ := is_cells (Bk.new w9 25 #[.string S3, .slice V9 es3.length c9]); clear o9 f9 r9 a9)
            | (go_at_call 6; refine (AW.out _ F9.out).mono ?_; rintro e w10 ⟨rfl, f10⟩; have F10 := Lib.hid (F9.out.trans f10); clear f10))
        go_ret
        exact ⟨rfl, F10.out⟩
  · have hEb : (pacE t es == 0) = false := by rw [beq_eq_false_iff_ne]; exact hE
    rw [hpn hE] at KA
    generalize pacE t es = E at *
    have KA := Lib.hid KA; have PB := Lib.hid PB; have KZ := Lib.hid KZ; have HFW := Lib.hid hfw
    clear hb he hT hbe hm PAR hE hcut h1 h2 h3 hSS ht hfw hpl hpe hpn hk9 HD
    generalize b.length = bm at *
    generalize mo.length = mn at *
    by_cases hE3 : E3 = 0
    · subst hE3
      have HK := Lib.hid (HFW.out rfl)
      have KZ2 := Lib.hid (fun (u : World) (A' : Option Addr) (c' : Nat) (hu : Fr No w u) (h : RdI 2 TagI u (fun i => i < u.heap.size) A' es3.length c' es3) => by
        have h := KZ.out u A' c' hu h
        rw [HK.out.1, HK.out.2] at h
        exact h)
      clear KZ HFW
      have tokP := True.intro
      have tokA := True.intro
      have tok1 := True.intro
      have tok2 := True.intro
      have tok3 := True.intro
      have tok5 := True.intro
      go_enter Tryz.func4, Tryz.ntmps4
      go_wp2_with (first
          | (go_at_call 10; clear tokP; refine (KA.out _ F0.out).mono ?_; rintro e w1 ⟨v, rfl, o1, f1⟩; obtain ⟨V, vc, rfl, r1, -⟩ := ownM_rd o1; have F1 := Lib.hid (F0.out.trans f1); clear o1 r1 f1)
          | (go_at_call 6; clear tokA; refine (AW.out _ F1.out).mono ?_; rintro e w2 ⟨rfl, f2⟩; have F8 := Lib.hid (F1.out.trans f2); clear f2)
          | (go_at_call 8; refine (PB.out _ F8.out).mono ?_; rintro e w9 ⟨v9, rfl, o9, f9⟩; obtain ⟨V9, c9, rfl, r9⟩ := owne_rd o9; have a9 : Fr No w9 (w9.alloc (.cells #[.string S3, .slice V9 es3.length c9] 25)) := (Fr.refl No w9).alloc _; have F9 := Lib.hid ((F8.out.trans f9).trans a9); have Y9 := Lib.hid (rdi_up r9 a9); obtain ⟨zz0, zz1⟩ := is_cells (Bk.new w9 25 #[.string S3, .slice V9 es3.length c9]); clear o9 f9 r9 a9)
          | (go_at_call 10; refine (KZ2.out _ _ _ F9.out Y9.out).mono ?_; rintro e w10 ⟨v, rfl, o10, f10⟩; obtain ⟨V10, c10, rfl, r10, -⟩ := ownM_rd o10; have F10 := Lib.hid (F9.out.trans f10); have R10 := Lib.hid r10; clear o10 r10 f10)
          | (go_at_call 6; refine (AW.out _ F10.out).mono ?_; rintro e w11 ⟨rfl, f11⟩; have F11 := Lib.hid (F10.out.trans f11); have R11 := Lib.hid (R10.out.no f11); clear f11)
          | (go_at_call 13; refine (bytes_any _ _ _ _ _ _ b b _ R11.out (HB.out.no F11.out)).mono ?_; rintro e w12 ⟨rfl, rfl⟩; simp only [HBT.out]))
      go_ret
      exact ⟨rfl, F11.out⟩
    · have hE3b := st_ne0 hE3
      clear hE3 KZ HFW
      have tokP := True.intro
      have tokA := True.intro
      have tok1 := True.intro
      have tok2 := True.intro
      have tok3 := True.intro
      have tok5 := True.intro
      go_enter Tryz.func4, Tryz.ntmps4
      go_wp2_with (first
          | (go_at_call 10; clear tokP; refine (KA.out _ F0.out).mono ?_; rintro e w1 ⟨v, rfl, o1, f1⟩; obtain ⟨V, vc, rfl, r1, -⟩ := ownM_rd o1; have F1 := Lib.hid (F0.out.trans f1); clear o1 r1 f1)
          | (go_at_call 6; clear tokA; refine (AW.out _ F1.out).mono ?_; rintro e w2 ⟨rfl, f2⟩; have F8 := Lib.hid (F1.out.trans f2); clear f2)
          | (go_at_call 8; refine (PB.out _ F8.out).mono ?_; rintro e w9 ⟨v9, rfl, o9, f9⟩; obtain ⟨V9, c9, rfl, r9⟩ := owne_rd o9; have a9 : Fr No w9 (w9.alloc (.cells #[.string S3, .slice V9 es3.length c9] 25)) := (Fr.refl No w9).alloc _; have F9 := Lib.hid ((F8.out.trans f9).trans a9); have Y9 := Lib.hid (rdi_up r9 a9); obtain ⟨zz0, zz1⟩ := is_cells (Bk.new w9 25 #[.string S3, .slice V9 es3.length c9]); clear o9 f9 r9 a9)
          | (go_at_call 6; refine (AW.out _ F9.out).mono ?_; rintro e w10 ⟨rfl, f10⟩; have F10 := Lib.hid (F9.out.trans f10); clear f10))
      go_ret
      exact ⟨rfl, F10.out⟩
end Go.Proofs.YtpkalnkeafggjaaGreatDoor
