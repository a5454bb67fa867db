/- LinkPlays: whatever bytes come: each frame, or why there will be none: the walk, for all rows of bytes. -/
import Derived.Test.YtpoaifibomiiaaaLnkAwake
import Derived.Test.YtpoaifibomiiaaaLnkFar
import Derived.Test.YtpoaifibomiiaaaHelp
namespace Go.Proofs.Ytpoaifibomiiaaa
open Go.RowKit
set_option maxHeartbeats 4000000
set_option linter.unusedVariables false

theorem RdL.top {w : World} {N : Nat → Prop} {A : Option Addr} {n c : Nat} {ls : List (List UInt8)} (h : RdL w N A n c ls) : n ≤ 9223372036854775807 := by
  obtain ⟨vs, hr, _⟩ := h.vs
  have h1 := hr.cap
  have h2 := hr.max
  simp only [maxLen] at h2
  omega
/-- the program's link beside the statements' own -/
structure Both (w wr : World) (p : Value) (g : Nat) (t : TypeId) (K1 K2 : Nat → Prop) (st : Option (List UInt8)) : Prop where
  a : Lnk wr p K1 st
  b : RLnk wr g t K2 st
  apart : ∀ i, K1 i → ¬ K2 i
  far : ∀ i, K1 i → w.heap.size ≤ i
  far2 : w.heap.size ≤ g
  fr : Fr No w wr
theorem Both.next {w wr w2 w3 w4 w5 : World} {p : Value} {g : Nat} {t : TypeId} {K1 K2 K1' K2' : Nat → Prop} {st st' : Option (List UInt8)} (h : Both w wr p g t K1 K2 st) (hf2 : Fr No wr w2) (ha : Lnk w3 p K1' st') (hf3 : Fr K1 w2 w3)
    (hk1 : ∀ i, K1' i → K1 i ∨ w2.heap.size ≤ i) (hb : RLnk w4 g t K2' st') (hf4 : Fr (Just g) w3 w4) (hk2 : ∀ i, K2' i → K2 i ∨ w3.heap.size ≤ i) (hf5 : Fr No w4 w5) : Both w w5 p g t K1' K2' st' := by
  have s0 := h.fr.size
  have s2 := hf2.size
  have s3 := hf3.size
  have hl1 := ha.low
  have hl2 := h.b.lt
  refine ⟨(ha.fr hf4 (fun i hi e => ?_)).no hf5, hb.fr (S := No) hf5 (fun _ _ x => x), fun i h1 h2 => ?_, fun i hi => ?_, h.far2, ((((h.fr.trans hf2).trans_new hf3 (fun i hi => .inr (h.far i hi))).trans_new hf4 (fun i hi => .inr (by rw [show i = g from hi]; exact h.far2))).trans hf5)⟩
  · have e : i = g := e
    subst e
    have hg := hl2 i h.b.own
    rcases hk1 i hi with y | y
    · exact h.apart i y h.b.own
    · omega
  · rcases hk2 i h2 with y | y
    · rcases hk1 i h1 with z | z
      · exact h.apart i z y
      · have := hl2 i y; omega
    · have := hl1 i h1; omega
  · rcases hk1 i hi with y | y
    · exact h.far i y
    · omega

set_option maxRecDepth 100000 in
theorem lplays_walk {A B : Option Addr} {n c m d : Nat} {ls : List (List UInt8)} {b : List UInt8} {N : Nat → Prop} (w : World) (ha : RdL w N A n c ls) (hb : Rd w B m d (u8s b)) :
    Calls Try.prog 3 #[.slice A n c, .slice B m d] w fun e w' => e = .returned (.bool true) ∧ Fr No w w' := by
  have hbl : b.length = m := by simpa using hb.len
  by_cases hbig : 5000 < m
  · have hbI : (5000 : Int) < (m : Int) := by omega
    clear hbig
    go_enter Try.func3, Try.ntmps3
    go_wp2_with (first
      | (go_at_call 7; refine (link_new_any _).mono ?_; rintro e w1 ⟨p1, rfl, K1, hl1, hK1, hf1⟩; obtain ⟨pd, rfl⟩ := hl1.ptr; have tok1 : True := trivial)
      | (go_at_call 8; clear tok1; refine (awake_any _).mono ?_; rintro e w2 ⟨rfl, hf2⟩)
      | (go_at_call 8; refine (awake_any _).mono ?_; rintro e w3 ⟨rfl, hf3⟩))
    go_ret
    exact ⟨rfl, ((hf1.alloc _).trans hf2).trans hf3⟩
  have hbI : ¬ (5000 : Int) < (m : Int) := by omega
  have hF := fun u (hf : Fr No w u) => link_frame_any B m d b u (hb.no hf) (by omega)
  have hG := fun u (hf : Fr No w u) => ref_framed_any B m d b u (hb.no hf) (by omega)
  obtain ⟨E, hE⟩ : ∃ E, frmE b = E := ⟨_, rfl⟩
  obtain ⟨X, hX⟩ : ∃ X, frmL b = X := ⟨_, rfl⟩
  rw [hE, hX] at hF hG
  have hXX : (X == X) = true := by simp
  have HF := Lib.hid hF; have HG := Lib.hid hG; have HXX := Lib.hid hXX; have HA := Lib.hid ha
  clear hF hG hXX ha hb hE hX hbig hbl
  go_enter Try.func3, Try.ntmps3
  go_wp2_with (first
    | (go_at_call 7; refine (link_new_any _).mono ?_; rintro e w1 ⟨p1, rfl, K1, hl1, hK1, hf1⟩; obtain ⟨pd, rfl⟩ := hl1.ptr; have HL1 := Lib.hid hl1; have HK1 := Lib.hid hK1; clear hl1 hK1)
    | (go_at_call 8; refine (awake_any _).mono ?_; rintro e w2 ⟨rfl, hf2⟩; have hfa : Fr No w w2 := (hf1.alloc _).trans hf2)
    | (go_at_call 9; refine (HF.out _ hfa).mono ?_; rintro e w3 ⟨X1, m1, d1, rfl, hx1, -, hf3⟩)
    | (go_at_call 10; refine (HG.out _ (hfa.trans hf3)).mono ?_; rintro e w4 ⟨X2, m2, d2, rfl, hx2, -, hf4⟩)
    | (go_at_call 11; refine (bytes_any _ _ _ _ _ _ X X _ (hx1.no hf4) hx2).mono ?_; rw [HXX.out]; rintro e w' ⟨rfl, rfl⟩))
  have hg1 : w.heap.size ≤ w1.heap.size := hf1.size
  have hB0 : Both w w4 (.pointer (some pd)) w1.heap.size 28 K1 (fun i => i = w1.heap.size) (some []) := by
    have hf14 : Fr No (w1.alloc (.cells #[.slice none 0 0, .bool false] 28)) w4 := (hf2.trans hf3).trans hf4
    have hr : RLnk (w1.alloc (.cells #[.slice none 0 0, .bool false] 28)) w1.heap.size 28 (fun i => i = w1.heap.size) (some []) := by
      refine ⟨⟨none, 0, 0, false, Bk.new _ _ _, (fun _ e => nomatch e), (fun e => nomatch e), fun x e => ?_⟩, rfl, ?_⟩
      · injection e with e
        subst e
        exact ⟨rfl, Rd.nil_ _, (fun _ e => nomatch e), by simp⟩
      · rintro i rfl
        simp
    refine ⟨((HL1.out.no ((Fr.refl No w1).alloc _)).no hf14), hr.fr (S := No) hf14 (fun _ _ x => x), fun i h e => ?_, HK1.out, hg1, (hfa.trans hf3).trans hf4⟩
    have := HL1.out.low i h
    omega
  have HB0 := Lib.hid hB0
  obtain ⟨g, hg⟩ : ∃ g, w1.heap.size = g := ⟨_, rfl⟩
  rw [hg] at HB0 ⊢
  clear hB0 hx1 hx2 hg hg1
  go_loopw [11] (fun iv wr => ∃ (k : Nat) (Ka Kb : Nat → Prop) (st : Option (List UInt8)), iv = .int .i64 (k : Int) ∧ k ≤ 40 ∧ k ≤ n ∧ Both w wr (.pointer (some pd)) g 28 Ka Kb st) (fun iv _ => 40 - (intOf iv).toNat)
  case atStart => exact ⟨0, K1, _, some [], rfl, by omega, by omega, HB0.out⟩
  case round =>
    obtain ⟨k, Ka, Kb, st, rfl, hk, hkn, hB⟩ := hrel
    have HB := Lib.hid hB
    clear hB
    by_cases hgo : k < n ∧ k < 40
    · have hgo1 : (k : Int) < (n : Int) := by omega
      have hgo2 : (k : Int) < 40 := by omega
      have hlen := HA.out.len
      obtain ⟨ad, C, pm, pc, hA, hcell, hrd, -⟩ := (HA.out.no HB.out.fr).at_ (i := k) (by omega)
      obtain ⟨ad0, C0, pm0, pc0, hA0, hcell0, hrd0, -⟩ := HA.out.at_ (i := k) (by omega)
      subst hA
      obtain ⟨P, hP⟩ : ∃ P, ls[k]'(by omega) = P := ⟨_, rfl⟩
      rw [hP] at hrd hrd0
      obtain rfl : ad = ad0 := Option.some.inj hA0
      have hsame : C0 = C ∧ pm0 = pm ∧ pc0 = pc := by
        have h := HB.out.fr.cell hcell0 (fun x => x)
        rw [hcell] at h
        injection h with h
        injection h with h1 h2 h3
        exact ⟨h1.symm, h2.symm, h3.symm⟩
      obtain ⟨rfl, rfl, rfl⟩ := hsame
      have HC0 := Lib.hid hcell0
      have hglt : g < wr.heap.size := HB.out.b.lt g HB.out.b.own
      clear hcell0 hA0 hgo hlen hrd hP
      by_cases hbig : 5000 < pm0
      · have hbI2 : (5000 : Int) < (pm0 : Int) := by omega
        go_wp2
        go_ret
        exact ⟨rfl, HB.out.fr⟩
      · have hbI2 : ¬ (5000 : Int) < (pm0 : Int) := by omega
        have hFF : (feedF st P == feedF st P) = true := by simp
        have HFF := Lib.hid hFF; have HRD := Lib.hid hrd0
        obtain ⟨E2, hE2⟩ : ∃ E2, feedE st P = E2 := ⟨_, rfl⟩
        have HE2 := Lib.hid hE2
        clear hFF hrd0 hE2
        go_wp2_with (first
          | (go_at_call 12; refine (own_any _ pm0 _ P 71 _ (HRD.out.no HB.out.fr) (by omega)).mono ?_; rintro e w5 ⟨g5, rfl, hg5, hb5, hf5⟩; have hr5 := own_rd0 hb5 (by have h := HRD.out.len; exact h) (by omega); have HB5 := Lib.hid hb5; clear hb5)
          | (go_at_call 13; have t1 := HB.out.a.no hf5; have t3 : ∀ ad, some (⟨g5, 0, none⟩ : Addr) = some ad → 0 < pm0 → ¬ Ka ad.block := (fun ad e _ x => by injection e with e; subst e; have h1 : g5 < wr.heap.size := HB.out.a.low _ x; omega); refine (link_feed_any (K := Ka) (st := st) _ pm0 (pm0 + 3) P _ t1 hr5 (by omega) t3).mono ?_; clear t1 t3; rw [HE2.out]; rintro e w6 ⟨B6, m6, d6, rfl, Kc, hR6, hl6, hf6, hk6⟩; have hs5 := hf5.size; have hs6 := hf6.size; have hf06 : Fr No w w6 := (HB.out.fr.trans hf5).trans_new hf6 (fun i hi => .inr (HB.out.far i hi)); have hcell6 := hf06.cell HC0.out (fun x => x); have HR6 := Lib.hid hR6; have HL6 := Lib.hid hl6; have HK6 := Lib.hid hk6; clear hR6 hl6 hk6)
          | (go_at_call 14; have t1 := (HB.out.b.fr (S := No) hf5 (fun _ _ x => x)).fr hf6 (fun i h x => HB.out.apart i x h); have t2 := HRD.out.no hf06; refine (ref_feed_any _ pm0 _ P _ t1 t2 (by omega)).mono ?_; clear t1 t2; rw [HE2.out]; rintro e w7 ⟨B7, m7, d7, rfl, Kd, hR7, hr7, hf7, hk7⟩; have hs7 := hf7.size; have hf07 : Fr No w w7 := hf06.trans_new hf7 (fun i hi => .inr (by rw [show i = g from hi]; exact HB.out.far2)); have hcell7 := hf07.cell HC0.out (fun x => x); have hR67 := HR6.out.fr hf7 (fun i h x => by have e : i = g := x; omega); have HB7 := Lib.hid ((HB5.out.fr hf6 (fun x => by have := HB.out.a.low _ x; omega)).fr hf7 (fun x => by have e : g5 = g := x; omega)); have HR7 := Lib.hid hr7; have HK7 := Lib.hid hk7; clear hr7 hk7)
          | (go_at_call 15; refine (same_rows_any _ _ _ _ _ _ _ _ _ _ _ hR67 hR7 hR67.top).mono ?_; rw [HFF.out]; rintro e w8 ⟨rfl, hd8⟩; have hcell8 := hd8.fr.cell (S := No) hcell7 (fun x => x))
          | (go_at_call 16; refine (kept8_any _ g5 pm0 _ P 71 _ ((HRD.out.no hf07).dr hd8) (HB7.out.no hd8.fr) (by omega)).mono ?_; rintro e w9 ⟨rfl, hd9⟩))
        go_roundw
        case rel => exact ⟨k + 1, Kc, Kd, _, by go_num, by omega, by omega, HB.out.next hf5 HL6.out hf6 HK6.out HR7.out hf7 HK7.out (hd8.fr.trans hd9.fr)⟩
        case measure => simp [intOf]; omega
    · have hgoI : ¬ (k : Int) < (n : Int) ∨ ((k : Int) < (n : Int) ∧ ¬ (k : Int) < 40) := by omega
      rcases hgoI with hgoI | ⟨hgoI, hgoI2⟩
      all_goals
        go_wp2
        go_ret
        exact ⟨rfl, HB.out.fr⟩
end Go.Proofs.Ytpoaifibomiiaaa
