/- CrcSeen: the walk, for every list of bytes, every two places and every burst. -/
import Derived.Test.YtdilgcdmmofamaaCrcAwake
import Derived.Test.YtdilgcdmmofamaaCrcFour
namespace Go.Proofs.Ytdilgcdmmofamaa
open Go.RowKit
set_option maxHeartbeats 400000
set_option linter.unusedVariables false

theorem wf_u32 {x : Int} (h : (Lit.int .u32 x).wf = true) : ∃ v : Nat, x = (v : Int) ∧ v < 4294967296 := by
  simp [Lit.wf, IntKind.min, IntKind.max, IntKind.signed, IntKind.bits] at h
  obtain ⟨n, rfl⟩ := Int.eq_ofNat_of_zero_le (show 0 ≤ x by omega)
  exact ⟨n, rfl, by omega⟩
theorem u8s_q (l : List UInt8) (i : Nat) (h : i < l.length) : (u8s l)[i]? = some (.int .u8 (((l[i]?).getD 0).toNat : Int)) := by
  rw [u8s_get l i h, List.getElem?_eq_getElem h]
  rfl
theorem xor_u8 (a b : UInt8) : bits .xor .u8 (a.toNat : Int) (b.toNat : Int) = ((a ^^^ b).toNat : Int) := by
  have ha := a.toNat_lt
  have hb := b.toNat_lt
  have hx : a.toNat ^^^ b.toNat < 2 ^ 8 := Nat.xor_lt_two_pow (by omega) (by omega)
  have h1 : (BitVec.ofInt 8 (a.toNat : Int)).toNat = a.toNat := by
    rw [BitVec.ofInt_natCast, BitVec.toNat_ofNat]; exact Nat.mod_eq_of_lt (by omega)
  have h2 : (BitVec.ofInt 8 (b.toNat : Int)).toNat = b.toNat := by
    rw [BitVec.ofInt_natCast, BitVec.toNat_ofNat]; exact Nat.mod_eq_of_lt (by omega)
  show IntKind.u8.wrap ((BitVec.ofInt 8 (a.toNat : Int) ^^^ BitVec.ofInt 8 (b.toNat : Int)).toNat : Int) = _
  rw [BitVec.toNat_xor, h1, h2, UInt8.toNat_xor]
  show ((a.toNat ^^^ b.toNat : Nat) : Int) % 256 = _
  omega
theorem turn_own {w : World} {base : Nat} {e : TypeId} {g n cap : Nat} {l : List UInt8} (h : w.ownsRow base e 1 (.slice (some ⟨g, 0, none⟩) n cap) n (u8s l)) (i : Nat) (hi : i / 8 < n) :
    (w.setCell ⟨g, i / 8, none⟩ (.int .u8 (bits .xor .u8 (((l[i / 8]?).getD 0).toNat : Int) (2 ^ (i % 8) % 256)))).ownsRow base e 1 (.slice (some ⟨g, 0, none⟩) n cap) n (u8s (turn l i)) := by
  have e1 : ((2 : Int) ^ (i % 8) % 256) = ((UInt8.ofNat (2 ^ (i % 8))).toNat : Int) := by
    rw [UInt8.toNat_ofNat']
    simp [Int.natCast_pow]
  rw [e1, xor_u8]
  have h9 := own_set h hi (.int .u8 (((l[i / 8]?).getD 0 ^^^ UInt8.ofNat (2 ^ (i % 8))).toNat : Int))
  have e9 : (u8s l).set (i / 8) (.int .u8 (((l[i / 8]?).getD 0 ^^^ UInt8.ofNat (2 ^ (i % 8))).toNat : Int)) = u8s (turn l i) := by simp [u8s, List.map_set, turn]
  rw [← e9]
  exact h9
theorem burst_own {w : World} {base : Nat} {e : TypeId} {g n cap : Nat} {l : List UInt8} (m b j : Nat) (h : w.ownsRow base e 1 (.slice (some ⟨g, 0, none⟩) n cap) n (u8s (burstL l m b j))) (hi : m + j < n) :
    (w.setCell ⟨g, m + j, none⟩ (.int .u8 (bits .xor .u8 ((((burstL l m b j)[m + j]?).getD 0).toNat : Int) ((b : Int) / 2 ^ (8 * j) % 256)))).ownsRow base e 1 (.slice (some ⟨g, 0, none⟩) n cap) n (u8s (burstL l m b (j + 1))) := by
  rw [leB_int, xor_u8]
  have h9 := own_set h hi (.int .u8 ((((burstL l m b j)[m + j]?).getD 0 ^^^ leB b j).toNat : Int))
  have e9 : (u8s (burstL l m b j)).set (m + j) (.int .u8 ((((burstL l m b j)[m + j]?).getD 0 ^^^ leB b j).toNat : Int)) = u8s (burstL l m b (j + 1)) := by simp [u8s, List.map_set, burstL]
  rw [← e9]
  exact h9
theorem own_read {w : World} {base : Nat} {t : TypeId} {A : Option Addr} {n c : Nat} {l : List UInt8} (h : w.ownsRow base t 1 (.slice A n c) n (u8s l)) : Rd w A n c (u8s l) := by
  obtain ⟨V, d, e, hr, _⟩ := Rd.of_own h
  injection e with e1 e2 e3
  subst e1 e3
  exact hr
theorem place (z : Int) (m : Nat) (h0 : 0 < m) (h1 : m ≤ 10000) : ∃ i : Nat, i < m ∧ wrap64 ((IntKind.u64.wrap z).tmod (m : Int)) = (i : Int) := by
  have hu : 0 ≤ IntKind.u64.wrap z := by
    show 0 ≤ z % 18446744073709551616
    omega
  rw [Int.tmod_eq_emod_of_nonneg hu]
  generalize IntKind.u64.wrap z = U at hu
  have h2 := Int.emod_nonneg U (b := (m : Int)) (by omega)
  have h3 := Int.emod_lt_of_pos U (b := (m : Int)) (by omega)
  refine ⟨(U % (m : Int)).toNat, by omega, ?_⟩
  rw [IntWalk.wrap64_in _ ⟨by omega, by omega⟩]
  omega
set_option maxRecDepth 100000 in
set_option maxHeartbeats 1600000 in
attribute [local irreducible] yielded in
theorem seen_walk {A : Option Addr} {n c : Nat} {l : List UInt8} {at_ other : Int} {burst : Nat} (w : World) (ha : Rd w A n c (u8s l)) (hat : (Lit.int .i64 at_).wf = true) (hot : (Lit.int .i64 other).wf = true) (hbu : burst < 4294967296) :
    Calls Try.prog 4 #[.slice A n c, .int .i64 at_, .int .i64 other, .int .u32 burst] w fun e w' => e = .returned (.bool true) ∧ Fr No w w' := by
  have HBU := Lib.hid hbu
  clear hat hot
  rcases Nat.lt_or_ge 300 n with hn | hn
  · clear hbu
    go_enter Try.func4, Try.ntmps4
    go_wp2_with (go_at_call 6; refine (awake_any _).mono ?_; rintro e w1 ⟨rfl, hf⟩)
    go_ret
    exact ⟨rfl, hf⟩
  have hll : l.length = n := by simpa using ha.len
  obtain ⟨oe, or_⟩ := open_seal l
  have hs := seen_one l
  have hs2 := fun i k => seen_two l i k (by omega)
  have hs3 := fun m => seen_burst l m burst hbu
  have hsl : (sealL l).length = n + 4 := by unfold sealL; simp [hll]
  have p1 := fun A n c w h hn => crc_seal_any A n c l w h hn
  generalize sealL l = S at *
  have hbt : (l == l) = true := by simp
  have OE := Lib.hid oe; have OR := Lib.hid or_; have HS := Lib.hid hs; have HS2 := Lib.hid hs2; have HS3 := Lib.hid hs3; have HSL := Lib.hid hsl; have P1 := Lib.hid p1; have HB := Lib.hid hbt; have HLL := Lib.hid hll
  clear oe or_ hs hs2 hs3 hsl p1 hbt hll hbu
  have tok := True.intro
  obtain ⟨i, hi8, hie⟩ := place at_ (8 * (n + 4)) (by omega) (by omega)
  obtain ⟨k, hk8, hke⟩ := place other (8 * (n + 4)) (by omega) (by omega)
  obtain ⟨m, hm8, hme⟩ := place at_ (n + 1) (by omega) (by omega)
  rw [show ((8 * (n + 4) : Nat) : Int) = 8 * ((n : Int) + 4) from by omega] at hie hke
  rw [show ((n + 1 : Nat) : Int) = (n : Int) + 1 from by omega] at hme
  have h1 := HS.out i (by rw [HLL.out]; exact hi8)
  have h2 := HS2.out i k (by rw [HLL.out]; exact hi8) (by rw [HLL.out]; exact hk8)
  obtain ⟨G, hG⟩ : ∃ G : Int, G = if i = k then 0 else 8 := ⟨_, rfl⟩
  rw [← hG] at h2
  have hT : (turn S i).length = n + 4 := by rw [turn_length]; exact HSL.out
  have H1 := Lib.hid h1; have H2 := Lib.hid h2; have HG := Lib.hid hG; have HT := Lib.hid hT
  clear h1 h2 hG hT
  have tok2 := True.intro
  have tok3 := True.intro
  have tok4 := True.intro
  have tok5 := True.intro
  have tok6 := True.intro
  have tok7 := True.intro
  go_enter Try.func4, Try.ntmps4
  go_wp2_with (first
    | (go_at_call 13; refine (P1.out _ _ _ _ ha (by omega)).mono ?_; rintro e w1 ⟨v1, rfl, ho1, hf1⟩; obtain ⟨V1, d1, rfl, hr1, _⟩ := Rd.of_own ho1)
    | (go_at_call 8; clear tok; refine (crc_open_any _ _ _ S _ hr1 (by omega)).mono ?_; rw [OE.out, OR.out]; rintro e w2 ⟨v2, rfl, ho2, hf2⟩; rw [HLL.out] at ho2; obtain ⟨V2, d2, rfl, hr2, _⟩ := Rd.of_own ho2)
    | (go_at_call 6; refine (awake_any _).mono ?_; rintro e w3 ⟨rfl, hf3⟩)
    | (go_at_call 12; refine (bytes_any _ _ _ _ _ _ _ _ _ (hr2.no hf3) ((((ha.no hf1).no hf2).no hf3))).mono ?_; rintro e w9 ⟨rfl, rfl⟩; rw [HB.out]))
  go_quiet (fail)
  rw [hie, hke]
  generalize hw4 : w3.drewN nq = w4
  have hf4 : Fr No w3 w4 := by rw [← hw4]; exact (Fr.refl No w3).drewN nq
  go_wp2_with (first
    | (at_builtin; clear tok2; go_must (refine ap8 w4 rfl (.const (.slice none 0 0)) (.tmp 73) rfl w4.heap.size (.slice none 0 0) 0 [] rfl (World.ownsRow_nil _ _ _ _) V1 (n + 4) d1 S rfl ((((hr1.no hf2).no hf3).no hf4)) (by omega) (Nat.le_refl _) ?_); go_must (intro r5 w5 ho5 hg5 hr5; rw [Nat.zero_add, List.nil_append] at ho5; have hf5 : Fr No w4 w5 := (Fr.refl No w4).grown hg5 (by simp [Value.ownBlock]); clear hg5 hr5; obtain ⟨g5, d5, rfl, hb5, hd5, -, -, -⟩ := own_open ho5 (by omega); have c5 := own_cell ho5 (u8s_q S (i / 8) (by have := HSL.out; omega)); have f5 := own_free ho5 (by omega) (i / 8)))
    | (go_at_call 8; clear tok3; go_must (have ho6 := turn_own ho5 i (by omega); have hf6 := hf5.setCell (p := ⟨g5, i / 8, none⟩) (.inr hb5) (.int .u8 (bits .xor .u8 (((S[i / 8]?).getD 0).toNat : Int) (2 ^ (i % 8) % 256))); generalize w5.setCell _ _ = w6 at ho6 hf6 ⊢; have hr6 := own_read ho6; refine (crc_open_any _ _ _ (turn S i) _ hr6 (by omega)).mono ?_; rw [H1.out]; rintro e w7 ⟨v7, rfl, ho7, hf7⟩; obtain ⟨V7, d7, rfl, -, -⟩ := Rd.of_own ho7; clear c5 f5 ho5 hf5 ho7))
    | (at_builtin; clear tok4; go_must (refine ap8 w7 rfl (.const (.slice none 0 0)) (.tmp 91) rfl w7.heap.size (.slice none 0 0) 0 [] rfl (World.ownsRow_nil _ _ _ _) _ (n + 4) d5 (turn S i) rfl (hr6.no hf7) (by omega) (Nat.le_refl _) ?_); go_must (intro r8 w8 ho8 hg8 hr8; rw [Nat.zero_add, List.nil_append] at ho8; have hf8 : Fr No w7 w8 := (Fr.refl No w7).grown hg8 (by simp [Value.ownBlock]); clear hg8 hr8; obtain ⟨g8, d8, rfl, hb8, hd8, -, -, -⟩ := own_open ho8 (by omega); have c8 := own_cell ho8 (u8s_q (turn S i) (k / 8) (by have := HT.out; omega)); have f8 := own_free ho8 (by omega) (k / 8)))
    | (go_at_call 8; clear tok5; go_must (have ho9 := turn_own ho8 k (by omega); have hf9 := hf8.setCell (p := ⟨g8, k / 8, none⟩) (.inr hb8) (.int .u8 (bits .xor .u8 ((((turn S i)[k / 8]?).getD 0).toNat : Int) (2 ^ (k % 8) % 256))); generalize w8.setCell _ _ = w9 at ho9 hf9 ⊢; refine (crc_open_any _ _ _ (turn (turn S i) k) _ (own_read ho9) (by omega)).mono ?_; rw [H2.out]; rintro e w10 ⟨v10, rfl, ho10, hf10⟩; obtain ⟨V10, d10, rfl, -, -⟩ := Rd.of_own ho10; have hF10 : Fr No w w10 := ((((((hf1.trans hf2).trans hf3).trans hf4).trans hf6).trans hf7).trans hf9).trans hf10; have hr10 := (((((((hr1.no hf2).no hf3).no hf4).no hf6).no hf7).no hf9).no hf10); clear c8 f8 ho8 hf8 ho9 ho10 hr6 ho6 hf9 hf10 hf6 hf7 hf4 hf3 hf2 hf1 hr1 hr2))
    | (at_builtin; clear tok6; go_must (refine ap8 w10 rfl (.const (.slice none 0 0)) (.tmp 109) rfl w10.heap.size (.slice none 0 0) 0 [] rfl (World.ownsRow_nil _ _ _ _) V1 (n + 4) d1 S rfl hr10 (by omega) (Nat.le_refl _) ?_); go_must (intro r11 w11 ho11 hg11 hr11; rw [Nat.zero_add, List.nil_append] at ho11; have hF11 : Fr No w w11 := hF10.grown hg11 (by simp [Value.ownBlock]); obtain ⟨g11, d11, rfl, hb11, hd11, -, -, -⟩ := own_open ho11 (by omega); have hw11 := hF10.size; clear hg11 hr11 hF10 hr10)))
  rw [hme]
  have hBL : ∀ j, (burstL S m burst j).length = n + 4 := fun j => by rw [burstL_length]; exact HSL.out
  have HBL := Lib.hid hBL
  clear hBL
  have hwg : w.heap.size ≤ g11 := Nat.le_trans hw11 hb11
  generalize w10.heap.size = B at ho11
  go_loopw [22] (fun z wr => ∃ j : Nat, j ≤ 4 ∧ z = .int .i64 (j : Int) ∧ wr.ownsRow B 5 1 (.slice (some ⟨g11, 0, none⟩) (n + 4) d11) (n + 4) (u8s (burstL S m burst j)) ∧ Fr No w wr) (fun z _ => 4 - (intOf z).toNat)
  case atStart => exact ⟨0, by omega, rfl, ho11, hF11⟩
  case round =>
    clear ho11 hF11
    obtain ⟨j, hj, rfl, ho, hF⟩ := hrel
    rcases Nat.lt_or_ge j 4 with hlt | hge
    · have c12 := own_cell ho (u8s_q (burstL S m burst j) (m + j) (by have := HBL.out j; omega))
      have f12 := own_free ho (by omega) (m + j)
      go_wp2
      exact ⟨⟨j + 1, by omega, rfl, burst_own m burst j ho (by omega), hF.setCell (p := ⟨g11, m + j, none⟩) (.inr hwg) _⟩, by simp [intOf]; omega⟩
    · obtain rfl : j = 4 := by omega
      obtain ⟨Z, hZ⟩ : ∃ Z, openE (burstL S m burst 4) = Z := ⟨_, rfl⟩
      have h3 := HS3.out m
      rw [hZ, HLL.out] at h3
      have hgk : ((G == 0) == ((i : Int) == (k : Int))) = true := by
        rw [HG.out]
        by_cases h : i = k
        · subst h; simp
        · rw [if_neg h]
          have : ((i : Int) == (k : Int)) = false := beq_eq_false_iff_ne.2 (by omega)
          rw [this]
          rfl
      have hr12 := own_read ho
      have HZZ := Lib.hid hZ
      clear hZ ho
      by_cases hin : m + 4 ≤ n
      · have h3' := h3 hin
        have hbk : ((Z == 0) == ((burst : Int) == 0)) = true := by
          rw [h3']
          by_cases h : burst = 0
          · subst h; simp
          · rw [if_neg h]
            have : ((burst : Int) == 0) = false := beq_eq_false_iff_ne.2 (by omega)
            rw [this]
            rfl
        have hin' : decide ((m : Int) + 4 ≤ (n : Int)) = true := decide_eq_true (by omega)
        clear h3 h3' hin
        go_wp2_with (go_at_call 8; refine (crc_open_any _ _ _ (burstL S m burst 4) _ hr12 (by omega)).mono ?_; rw [HZZ.out]; rintro e w13 ⟨v13, rfl, ho13, hf13⟩; obtain ⟨V13, d13, rfl, -, -⟩ := Rd.of_own ho13; clear ho13)
        go_ret
        exact ⟨rfl, hF.trans hf13⟩
      · have hin' : decide ((m : Int) + 4 ≤ (n : Int)) = false := decide_eq_false (by omega)
        clear h3 hin
        go_wp2_with (go_at_call 8; refine (crc_open_any _ _ _ (burstL S m burst 4) _ hr12 (by omega)).mono ?_; rw [HZZ.out]; rintro e w13 ⟨v13, rfl, ho13, hf13⟩; obtain ⟨V13, d13, rfl, -, -⟩ := Rd.of_own ho13; clear ho13)
        go_ret
        exact ⟨rfl, hF.trans hf13⟩
end Go.Proofs.Ytdilgcdmmofamaa
