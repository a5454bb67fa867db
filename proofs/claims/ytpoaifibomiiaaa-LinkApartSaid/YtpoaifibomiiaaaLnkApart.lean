/- LinkApart: two links do not know of each other; a frame that waits is told when its last byte comes: the walk, for all bytes and every number. -/
import Derived.Test.YtpoaifibomiiaaaLnkAwake
import Derived.Test.YtpoaifibomiiaaaLnkFar
import Derived.Test.YtpoaifibomiiaaaBits
namespace Go.Proofs.Ytpoaifibomiiaaa
open Go.RowKit
set_option maxHeartbeats 4000000
set_option linter.unusedVariables false

/-- a frame that is cut, and the rest of it -/
theorem apart_math (b : List UInt8) (h1 : 1 ≤ b.length) (h2 : b.length ≤ 500) (k : Nat) (hk : k < b.length + 2) :
    feedE (some []) ((frmL b).take k) = 0 ∧ feedF (some []) ((frmL b).take k) = [] ∧ feedE (some []) (frmL b) = 0 ∧ feedF (some []) (frmL b) = [b] ∧
    feedE (feedS (some []) ((frmL b).take k)) ((frmL b).drop k) = 0 ∧ feedF (feedS (some []) ((frmL b).take k)) ((frmL b).drop k) = [b] := by
  obtain ⟨-, e⟩ := frm_ok h1 (by omega : b.length ≤ 4096)
  have hl : (frmL b).length = b.length + 2 := by rw [e]; simp; omega
  have hall : cutL (frmL b) = some ([b], []) := by
    have h := cut_frame h1 (by omega : b.length ≤ 4096) []
    rw [List.append_nil] at h
    rw [e, h]
    rfl
  have hpre : cutL ((frmL b).take k) = some ([], (frmL b).take k) := by
    by_cases hk2 : k < 2
    · exact cut_short (by rw [List.length_take]; omega)
    · have hn : num2 ((frmL b).take k) = b.length := by
        have e2 : (frmL b).take k = low b.length 2 ++ b.take (k - 2) := by
          rw [e, List.take_append]
          simp
          exact List.take_of_length_le (by simp; omega)
        rw [e2]
        exact num2_low (by omega) _
      have hlt : ((frmL b).take k).length = k := by rw [List.length_take]; omega
      exact cut_wait (by omega) (by omega) (by omega)
  have o1 : feedO (some []) ((frmL b).take k) = some ([], (frmL b).take k) := hpre
  have o2 : feedO (some []) (frmL b) = some ([b], []) := hall
  obtain ⟨s1, f1, x1⟩ := feed_some o1
  obtain ⟨s2, f2, x2⟩ := feed_some o2
  have o3 : feedO (some ((frmL b).take k)) ((frmL b).drop k) = some ([b], []) := by
    show cutL ((frmL b).take k ++ (frmL b).drop k) = _
    rw [List.take_append_drop]
    exact hall
  obtain ⟨s3, f3, x3⟩ := feed_some o3
  rw [s1]
  exact ⟨x1, f1, x2, f2, x3, f3⟩

set_option maxRecDepth 100000 in
theorem apart_walk {z : Int} {A : Option Addr} {n c : Nat} {b : List UInt8} (w : World) (hr : Rd w A n c (u8s b)) (hz : (Lit.int .i64 z).wf = true) :
    Calls Try.prog 6 #[.slice A n c, .int .i64 z] w fun e w' => e = .returned (.bool true) ∧ Fr No w w' := by
  have hl : b.length = n := by simpa using hr.len
  have hcs : (n < 1 ∧ 1 = 1) ∨ (1 ≤ n ∧ 500 < n) ∨ (1 ≤ n ∧ n ≤ 500) := by omega
  rcases hcs with ⟨h1, h2⟩ | ⟨h1, h2⟩ | ⟨h1, h2⟩
  · go_enter Try.func6, Try.ntmps6
    have hI : (n : Int) < 1 := by omega
    go_wp2_with (go_at_call 8; refine (awake_any _).mono ?_; rintro e w1 ⟨rfl, hf⟩)
    go_ret
    exact ⟨rfl, hf⟩
  · go_enter Try.func6, Try.ntmps6
    have hI : ¬ (n : Int) < 1 := by omega
    have hI2 : (500 : Int) < (n : Int) := by omega
    go_wp2_with (go_at_call 8; refine (awake_any _).mono ?_; rintro e w1 ⟨rfl, hf⟩)
    go_ret
    exact ⟨rfl, hf⟩
  have hI : ¬ (n : Int) < 1 := by omega
  have hI2 : ¬ (500 : Int) < (n : Int) := by omega
  obtain ⟨k, hk, hk1⟩ := rem_nat z (n + 2) (by omega)
  obtain ⟨m1, m2, m3, m4, m5, m6⟩ := apart_math b (by omega) (by omega) k (by omega)
  obtain ⟨e1, e2⟩ := frm_ok (b := b) (by omega) (by omega)
  have hx : (frmL b).length = n + 2 := by rw [e2]; simp; omega
  have hbb : (b == b) = true := by simp
  have HR := Lib.hid hr; have M1 := Lib.hid m1; have M2 := Lib.hid m2; have M3 := Lib.hid m3; have M4 := Lib.hid m4; have M5 := Lib.hid m5; have M6 := Lib.hid m6; have E1 := Lib.hid e1; have HX := Lib.hid hx; have HBB := Lib.hid hbb; have HL := Lib.hid hl
  obtain ⟨X, hX⟩ : ∃ X, frmL b = X := ⟨_, rfl⟩
  clear m1 m2 m3 m4 m5 m6 e1 e2 hx hr hbb hl
  have tok1 : True := trivial
  have tok2 : True := trivial
  have tok3 : True := trivial
  have tok4 : True := trivial
  go_enter Try.func6, Try.ntmps6
  go_wp2_with (first
    | (go_at_call 9; refine (link_frame_any _ n _ b _ HR.out (by omega)).mono ?_; rw [E1.out]; rintro e w1 ⟨B1, m1, d1, rfl, hx1, hB1, hf1⟩; obtain rfl : m1 = n + 2 := (by have h := hx1.len; rw [u8s_length, HX.out] at h; exact h.symm); have hcap1 := hx1.cap; have hp1 : Rd w1 B1 k d1 (u8s ((frmL b).take k)) := (by have h := hx1.pre (k := k) (by omega); rwa [show (u8s (frmL b)).take k = u8s ((frmL b).take k) from by simp [u8s]] at h); have hdk : ¬ d1 = k := (by omega); have hq1 : Rd w1 (Option.map (fun x => x.add k) B1) (n + 2 - k) (d1 - k) (u8s ((frmL b).drop k)) := (by have h := hx1.cut (k := k) (m := n + 2) (by omega) (Nat.le_refl _); rw [if_neg hdk, show (u8s (frmL b)).take (n + 2) = u8s (frmL b) from List.take_of_length_le (by rw [u8s_length, HX.out]; exact Nat.le_refl _), show (u8s (frmL b)).drop k = u8s ((frmL b).drop k) from by simp [u8s]] at h; exact h); have HX1 := Lib.hid hx1; have HP1 := Lib.hid hp1; have HQ1 := Lib.hid hq1; clear hx1 hp1 hq1)
    | (go_at_call 7; clear tok1; refine (link_new_any _).mono ?_; rintro e w2 ⟨p1, rfl, K1, hl1, hK1, hf2⟩; obtain ⟨ad1, rfl⟩ := hl1.ptr; have HL1 := Lib.hid hl1; have HK1 := Lib.hid hK1; clear hl1 hK1)
    | (go_at_call 7; refine (link_new_any _).mono ?_; rintro e w3 ⟨p2, rfl, K2, hl2, hK2, hf3⟩; obtain ⟨ad2, rfl⟩ := hl2.ptr; have HL2 := Lib.hid hl2; have HK2 := Lib.hid hK2; clear hl2 hK2)
    | (go_at_call 8; refine (awake_any _).mono ?_; rintro e w4 ⟨rfl, hf4⟩; have hf24 : Fr No w2 w4 := hf3.trans hf4; have hAP : ∀ i, K2 i → ¬ K1 i := (fun i h x => by have h1 := HL1.out.low i x; have h2 := HK2.out i h; omega); have HAP := Lib.hid hAP; clear hAP)
    | (go_at_call 13; clear tok2; have t1 := HL1.out.no hf24; have t2 := (HP1.out.no hf2).no hf24; have t3 : ∀ ad, B1 = some ad → 0 < k → ¬ K1 ad.block := Rd.far HP1.out HK1.out; refine (link_feed_any (K := K1) (st := some []) _ k d1 _ _ t1 t2 (by omega) t3).mono ?_; clear t1 t2 t3; rw [M1.out, M2.out]
       rintro e w5 ⟨B5, m5, d5, rfl, K1b, hR5, hl1b, hf5, hk1⟩; obtain rfl : m5 = 0 := (by have h := hR5.len; simpa using h.symm); have hf15 : Fr No w1 w5 := (hf2.trans hf24).trans_new hf5 (fun i hi => .inr (HK1.out i hi)); have HL1b := Lib.hid hl1b; have hK1b : ∀ i, K1b i → w1.heap.size ≤ i := far_step HK1.out hk1 ((hf2.trans hf24).size); have HK1b := Lib.hid hK1b; have HL2b := Lib.hid ((HL2.out.no hf4).fr hf5 HAP.out); have hAP2 : ∀ i, K2 i → ¬ K1b i := apart_step HAP.out hk1 (HL2.out.no hf4).low; have HAP2 := Lib.hid hAP2; clear hl1b hk1 hK1b hAP2 hR5)
    | (go_at_call 13; clear tok3; have t1 := HL2b.out; have t2 := HX1.out.no hf15; have t3 : ∀ ad, B1 = some ad → 0 < n + 2 → ¬ K2 ad.block := Rd.far HX1.out (fun i hi => Nat.le_trans hf2.size (HK2.out i hi)); refine (link_feed_any (K := K2) (st := some []) _ (n + 2) d1 _ _ t1 t2 (by omega) t3).mono ?_; clear t1 t2 t3; rw [M3.out, M4.out]
       rintro e w6 ⟨B6, m6, d6, rfl, K2b, hR6, -, hf6, hk2⟩; obtain rfl : m6 = 1 := (by have h := hR6.len; simpa using h.symm); have hf16 : Fr No w1 w6 := hf15.trans_new hf6 (fun i hi => .inr (Nat.le_trans hf2.size (HK2.out i hi))); have HL1c := Lib.hid (HL1b.out.fr hf6 (fun i h x => HAP2.out i x h)); have HR6 := Lib.hid (hR6.mono (M := fun i => w5.heap.size ≤ i) (fun i h => h.1)); have hlow5 : ∀ i, K1b i → i < w5.heap.size := HL1b.out.low; have HLOW := Lib.hid hlow5; clear hk2 hR6 hlow5)
    | (go_at_call 13; have t1 := HL1c.out; have t2 := HQ1.out.no hf16; have t3 : ∀ ad, Option.map (fun x => x.add k) B1 = some ad → 0 < n + 2 - k → ¬ K1b ad.block := Rd.far HQ1.out HK1b.out; refine (link_feed_any (K := K1b) _ (n + 2 - k) (d1 - k) _ _ t1 t2 (by omega) t3).mono ?_; clear t1 t2 t3; rw [M5.out, M6.out]
       rintro e w7 ⟨B7, m7, d7, rfl, K1c, hR7, -, hf7, -⟩; obtain rfl : m7 = 1 := (by have h := hR7.len; simpa using h.symm); have hf17 : Fr No w1 w7 := hf16.trans_new hf7 (fun i hi => .inr (HK1b.out i hi)); have hR67 := HR6.out.fr hf7 (fun i hi x => by have := HLOW.out i x; omega); obtain ⟨qd, Q, mq, dq, rfl, hcq, hrq, -⟩ := hR67.at_ (i := 0) (by simp); obtain ⟨rd, R, mr, dr, rfl, hcr, hrr, -⟩ := hR7.at_ (i := 0) (by simp); obtain ⟨qd', hqd⟩ : ∃ qd', qd.add 0 = qd' := ⟨_, rfl⟩; rw [hqd] at hcq; obtain ⟨rd', hrd⟩ : ∃ rd', rd.add 0 = rd' := ⟨_, rfl⟩; rw [hrd] at hcr; rw [show u8s ([b][0]'(by simp)) = u8s b from rfl] at hrq hrr; have hrb := HR.out.no (hf1.trans hf17); clear hR67 hR7)
    | (go_at_call 11; clear tok4; refine (bytes_any _ _ _ _ _ _ b b _ hrq hrb).mono ?_; rw [HBB.out]; rintro e w' ⟨rfl, rfl⟩)
    | (go_at_call 11; refine (bytes_any _ _ _ _ _ _ b b _ hrr hrb).mono ?_; rw [HBB.out]; rintro e w' ⟨rfl, rfl⟩))
  go_ret
  exact ⟨rfl, hf1.trans hf17⟩
end Go.Proofs.Ytpoaifibomiiaaa
