/- LinkDead: behind a length that may not be nothing is told any more: the walk, for every number and all bytes. -/
import Derived.Test.YtpoaifibomiiaaaLnkAwake
import Derived.Test.YtpoaifibomiiaaaLnkFar
import Derived.Test.YtpoaifibomiiaaaBits
namespace Go.Proofs.Ytpoaifibomiiaaa
open Go.RowKit
set_option maxHeartbeats 8000000
set_option linter.unusedVariables false

/-- what the walk needs of the two bytes -/
structure DeadS (q : Nat) (x y : UInt8) (more : List UInt8) : Prop where
  e : feedE (some []) [x, y] = if 4096 < 4094 + q then 4 else 0
  f : feedE (feedS (some []) [x, y]) more = if 4096 < 4094 + q then 4 else 0
  i : frmE (List.replicate (4094 + q) 0) = if 4096 < 4094 + q then 4 else 0
theorem deadS (q : Nat) (hq : q < 5) (x y : UInt8) (hx : x.toNat = (4094 + q) / 256) (hy : y.toNat = (4094 + q) % 256) (more : List UInt8) (hm : more.length ≤ 100) : DeadS q x y more := by
  have e : num2 [x, y] = 4094 + q := by
    show beN [x, y] = _
    simp [beN]
    omega
  obtain ⟨h1, h2⟩ := feed_len [x, y] more rfl (by omega) hm (by omega)
  rw [e] at h1 h2
  refine ⟨h1, h2, ?_⟩
  unfold frmE
  rw [if_neg (by simp)]
  simp

set_option maxRecDepth 100000 in
theorem dead_walk {z : Int} {A : Option Addr} {n c : Nat} {more : List UInt8} (w : World) (hz : (Lit.int .i64 z).wf = true) (hr : Rd w A n c (u8s more)) :
    Calls Try.prog 5 #[.int .i64 z, .slice A n c] w fun e w' => e = .returned (.bool true) ∧ Fr No w w' := by
  have hl : more.length = n := by simpa using hr.len
  rcases Nat.lt_or_ge 100 n with hn | hn
  · go_enter Try.func5, Try.ntmps5
    have hnI : (100 : Int) < (n : Int) := by omega
    go_wp2_with (go_at_call 8; refine (awake_any _).mono ?_; rintro e w1 ⟨rfl, hf⟩)
    go_ret
    exact ⟨rfl, hf⟩
  have hnI : ¬ (100 : Int) < (n : Int) := by omega
  obtain ⟨q, hq, hq1⟩ := rem_nat z 5 (by omega)
  have hq5 : q < 5 := by omega
  obtain ⟨x, hx⟩ : ∃ x : UInt8, x.toNat = (4094 + q) / 256 := ⟨UInt8.ofNat ((4094 + q) / 256), by rw [UInt8.toNat_ofNat']; omega⟩
  obtain ⟨y, hy⟩ : ∃ y : UInt8, y.toNat = (4094 + q) % 256 := ⟨UInt8.ofNat ((4094 + q) % 256), by rw [UInt8.toNat_ofNat']; omega⟩
  have hS := deadS q hq5 x y hx hy more (by omega)
  obtain ⟨E1, E2, E3⟩ := hS
  have e00 : feedE (some []) [0, 0, 1] = 4 := by decide
  have e01 : feedE (feedS (some []) [0, 0, 1]) more = 4 := by
    have : feedO (some []) [0, 0, 1] = none := by decide
    rw [(feed_none this).1]
    rfl
  have hd1 : IntKind.u8.wrap ((4094 + (q : Int)) / 256) = (x.toNat : Int) := by rw [IntKind.wrap_u8]; omega
  have hd2 : IntKind.u8.wrap (4094 + (q : Int)) = (y.toNat : Int) := by rw [IntKind.wrap_u8]; omega
  have r2 : ∀ (u : World) (n : Nat), u.heap.size = n → Rd (u.alloc (.cells #[.int .u8 (x.toNat : Int), .int .u8 (y.toNat : Int)] 5)) (some ⟨n, 0, none⟩) 2 2 (u8s [x, y]) := fun u n h => h ▸ Rd.lit u (u8s [x, y]) 5 2 rfl (by simp [maxLen])
  have r3 : ∀ (u : World) (n : Nat), u.heap.size = n → Rd (u.alloc (.cells #[.int .u8 0, .int .u8 0, .int .u8 1] 5)) (some ⟨n, 0, none⟩) 3 3 (u8s [0, 0, 1]) := fun u n h => h ▸ Rd.lit u (u8s [0, 0, 1]) 5 3 rfl (by simp [maxLen])
  have HR := Lib.hid hr; have HE1 := Lib.hid E1; have HE2 := Lib.hid E2; have HE3 := Lib.hid E3; have H00 := Lib.hid e00; have H01 := Lib.hid e01; have R2 := Lib.hid r2; have R3 := Lib.hid r3
  have tok1 : True := trivial
  have tok2 : True := trivial
  have tok3 : True := trivial
  have tok4 : True := trivial
  have tok5 : True := trivial
  clear hx hy r2 r3 e00 e01 E1 E2 E3 hr hl
  have hcs : (q ≤ 2 ∧ decide ((4096 : Int) < 4094 + (q : Int)) = false) ∨ (2 < q ∧ decide ((4096 : Int) < 4094 + (q : Int)) = true) := by
    simp only [decide_eq_false_iff_not, decide_eq_true_iff]
    omega
  have hmk : (4094 : Int) + (q : Int) = ((4094 + q : Nat) : Int) := by omega
  have HMK := Lib.hid hmk
  clear hmk
  rcases hcs with ⟨hc1, hc2⟩ | ⟨hc1, hc2⟩
  all_goals
    have V1 := HE1.out
    have V2 := HE2.out
    have V3 := HE3.out
    first | rw [if_neg (by omega)] at V1 V2 V3 | rw [if_pos (by omega)] at V1 V2 V3
    have W1 := Lib.hid V1; have W2 := Lib.hid V2; have W3 := Lib.hid V3
    clear V1 V2 V3
    go_enter Try.func5, Try.ntmps5
    go_wp2_with (first
      | (go_at_call 7; clear tok1; refine (link_new_any _).mono ?_; rintro e w1 ⟨p1, rfl, K1, hl1, hK1, hf1⟩; obtain ⟨ad1, rfl⟩ := hl1.ptr; have HL1 := Lib.hid hl1; have HK1 := Lib.hid hK1; clear hl1 hK1)
      | (go_at_call 7; refine (link_new_any _).mono ?_; rintro e w2 ⟨p2, rfl, K2, hl2, hK2, hf2⟩; obtain ⟨ad2, rfl⟩ := hl2.ptr; have HL2 := Lib.hid hl2; have HK2 := Lib.hid hK2; clear hl2 hK2)
      | (go_at_call 8; refine (awake_any _).mono ?_; rintro e w3 ⟨rfl, hf3⟩; have hf13 : Fr No w1 w3 := hf2.trans hf3; have HAP : ∀ i, K2 i → ¬ K1 i := (fun i h x => by have h1 := HL1.out.low i x; have h2 := HK2.out i h; omega); have HAP := Lib.hid HAP)
      | (go_at_call 13; clear tok2; refine (link_feed_any (K := K1) (st := some []) _ 2 2 [x, y] _ (HL1.out.no (hf13.alloc _)) (R2.out _ _ (by simp)) (by omega) (fun ad e _ x => by injection e with e; subst e; have h1 : w3.heap.size < w1.heap.size := HL1.out.low _ x; have := hf13.size; omega)).mono ?_; rw [W1.out]
         rintro e w4 ⟨B4, m4, d4, rfl, K1b, -, hl1b, hf4, hk1⟩; have hfw4 : Fr No w w4 := (((hf1.trans hf13).alloc _).trans_new hf4 (fun i hi => .inr (HK1.out i hi))); have HL1b := Lib.hid hl1b; have hK1b : ∀ i, K1b i → w.heap.size ≤ i := far_step HK1.out hk1 (((hf1.trans hf13).alloc _).size); have HK1b := Lib.hid hK1b; clear hK1b; have HL2b := Lib.hid ((HL2.out.no (hf3.alloc _)).fr hf4 HAP.out); have HAP2 := Lib.hid (apart_step HAP.out hk1 (HL2.out.no (hf3.alloc _)).low); clear hl1b hk1)
      | (go_at_call 13; clear tok3; have t1 := HL1b.out; have t2 := HR.out.no hfw4; have t3 : ∀ ad, A = some ad → 0 < n → ¬ K1b ad.block := Rd.far HR.out HK1b.out; refine (link_feed_any (K := K1b) _ n c more _ t1 t2 (by omega) t3).mono ?_; clear t1 t2 t3; rw [W2.out]
         rintro e w5 ⟨B5, m5, d5, rfl, K1c, -, hl1c, hf5, hk1c⟩; have hfw5 : Fr No w w5 := hfw4.trans_new hf5 (fun i hi => .inr (HK1b.out i hi)); have HL2c := Lib.hid (HL2b.out.fr hf5 HAP2.out); clear hl1c hk1c)
      | (go_at_call 13; clear tok4; refine (link_feed_any (K := K2) _ 3 3 [0, 0, 1] _ (HL2c.out.no ((Fr.refl No _).alloc _)) (R3.out _ _ (by simp)) (by omega) (fun ad e _ x => by injection e with e; subst e; have h1 : w5.heap.size < w5.heap.size := HL2c.out.low _ x; omega)).mono ?_; rw [H00.out]
         rintro e w6 ⟨B6, m6, d6, rfl, K2b, -, hl2b, hf6, hk2b⟩; have hfw6 : Fr No w w6 := (hfw5.alloc _).trans_new hf6 (fun i hi => .inr (Nat.le_trans hf1.size (HK2.out i hi))); have HL2d := Lib.hid hl2b; have hK2b : ∀ i, K2b i → w.heap.size ≤ i := far_step (fun i hi => Nat.le_trans hf1.size (HK2.out i hi)) hk2b ((hfw5.alloc _).size); have HK2b := Lib.hid hK2b; clear hK2b; clear hl2b hk2b)
      | (go_at_call 13; clear tok5; have t1 := HL2d.out; have t2 := HR.out.no hfw6; have t3 : ∀ ad, A = some ad → 0 < n → ¬ K2b ad.block := Rd.far HR.out HK2b.out; refine (link_feed_any (K := K2b) _ n c more _ t1 t2 (by omega) t3).mono ?_; clear t1 t2 t3; rw [H01.out]
         rintro e w7 ⟨B7, m7, d7, rfl, K2c, -, hl2c, hf7, hk2c⟩; have hfw7 : Fr No w w7 := hfw6.trans_new hf7 (fun i hi => .inr (HK2b.out i hi)); clear hl2c hk2c)
      | (refine mk8 w7 rfl _ _ rfl .i64 .i64 _ _ (4094 + q) (4094 + q) rfl rfl HMK.out HMK.out (Nat.le_refl _) (by omega) ?_; intro w8 hb8 hf8 hs8; have hr8 : Rd w8 (some ⟨w7.heap.size, 0, none⟩) (4094 + q) (4094 + q) (u8s (List.replicate (4094 + q) 0)) := (by have h := hb8.rd (n := 4094 + q) (cap := 4094 + q) (Nat.le_refl _) (by simp only [maxLen]; omega) (by simp); rwa [List.take_of_length_le (by simp)] at h))
      | (go_at_call 9; refine (link_frame_any _ (4094 + q) _ (List.replicate (4094 + q) 0) _ hr8 (by omega)).mono ?_; rw [W3.out]; rintro e w9 ⟨B9, m9, d9, rfl, -, -, hf9⟩; have tok6 : True := trivial)
      | (go_at_call 13; clear tok6; refine (link_nil_any _ _ _ _).mono ?_; rintro e w10 ⟨rfl, hf10⟩))
    go_ret
    exact ⟨rfl, ((hfw7.trans hf8).trans hf9).trans hf10⟩
end Go.Proofs.Ytpoaifibomiiaaa
