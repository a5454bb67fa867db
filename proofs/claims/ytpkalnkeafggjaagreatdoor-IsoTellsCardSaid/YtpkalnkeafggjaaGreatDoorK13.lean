/- The texts Help, Clone, joined. -/
import Derived.Test.YtpkalnkeafggjaaGreatDoorK03
/- What the helpers of the statements do (a copy with room behind it, and whether it is as it was): contracts, for every list of bytes within a slice's length. -/
namespace Go.Proofs.YtpkalnkeafggjaaGreatDoor
open Go.RowKit
set_option maxHeartbeats 400000
set_option linter.unusedVariables false
set_option maxRecDepth 20000

theorem own_step (l : List UInt8) (f : UInt8) (k : Nat) (hk : k < 3) :
    (u8s (l ++ List.replicate k f ++ List.replicate (3 - k) 0)).set (l.length + k) (.int .u8 (f.toNat : Int)) = u8s (l ++ List.replicate (k + 1) f ++ List.replicate (3 - (k + 1)) 0) := by
  obtain rfl | rfl | rfl : k = 0 ∨ k = 1 ∨ k = 2 := by omega
  all_goals simp [u8s, List.replicate]

theorem own_get (l : List UInt8) (f : UInt8) (k : Nat) (hk : k < 3) :
    ∃ u, (u8s (l ++ List.replicate k f ++ List.replicate (3 - k) 0))[l.length + k]? = some u := by
  rw [List.getElem?_eq_getElem (by simp; omega)]
  exact ⟨_, rfl⟩

/-- what Own made reads as what it was made of -/
theorem own_rd0 {w : World} {g n : Nat} {l : List UInt8} {f : UInt8} {t : TypeId} (hb : Bk w g t (u8s (l ++ [f, f, f]))) (hl : (u8s l).length = n) (hn : n ≤ 65536) : Rd w (some ⟨g, 0, none⟩) n (n + 3) (u8s l) := by
  rw [u8s_length] at hl
  have := hb.rd (n := n) (cap := n + 3) (by omega) (by simp only [maxLen]; omega) (by simp; omega)
  have e : (u8s (l ++ [f, f, f])).take n = u8s l := by
    rw [u8s_append, List.take_left' (by simpa using hl)]
  rwa [e] at this
theorem own_rd {w w' : World} {g n : Nat} {l : List UInt8} {f : UInt8} {t : TypeId} (hb : Bk w g t (u8s (l ++ [f, f, f]))) (hf : Fr No w w') (hl : (u8s l).length = n) (hn : n ≤ 65536) : Rd w' (some ⟨g, 0, none⟩) n (n + 3) (u8s l) :=
  own_rd0 (hb.no hf) hl hn

set_option maxRecDepth 20000 in
/-- comptoirhelp.Own of bytes: a copy with three bytes of room behind it, in a block of its own -/
theorem own_any (A : Option Addr) (n c : Nat) (l : List UInt8) (f : UInt8) (w : World) (ha : Rd w A n c (u8s l)) (hn : n ≤ 65536) :
    Calls Tryz.prog 7 #[.slice A n c, .int .u8 (f.toNat : Int)] w fun e w' => ∃ g, e = .returned (.slice (some ⟨g, 0, none⟩) n (n + 3)) ∧ w.heap.size ≤ g ∧
      Bk w' g 5 (u8s (l ++ [f, f, f])) ∧ Fr No w w' := by
  obtain ⟨i, hi, hz, h1, h2⟩ := info_parts info_u8
  have hmk := fun u : World => run_make_one (P := Tryz.prog) 22 5 i (.int .u8 0) Tryz.underlying22 hi hz h1 rfl .i64 .i64 0 ((n : Int) + 3) 0 (n + 3) rfl (by omega) (by omega) (by rw [h2]; omega) (by simp only [maxLen]; omega) u
  have HM := Lib.hid hmk
  clear hmk
  have hn' : l.length = n := by simpa using ha.len
  go_enter Tryz.func7, Tryz.ntmps7
  go_wp2_with (first | rw [HM.out] | (at_builtin; refine wpList_append_fit _ rfl (.tmp 12) (.tmp 13) 22 rfl 5 i Tryz.underlying22 hi h1 w.heap.size 0 (n + 3) _ rfl (Bk.new w _ _) A n c _ rfl (ha.no ((Fr.refl _ _).alloc _)) (u8s_one l) (by omega) (by simp) ?_; intro w1 hb1 hf1 hs1))
  have hb2 : Bk w1 w.heap.size 5 (u8s (l ++ List.replicate 0 f ++ List.replicate (3 - 0) 0)) := by
    have e : List.take 0 (Array.replicate (n + 3) (Value.int IntKind.u8 0)).toList ++ u8s l ++ List.drop (0 + n) (Array.replicate (n + 3) (Value.int IntKind.u8 0)).toList = u8s (l ++ List.replicate 0 f ++ List.replicate (3 - 0) 0) := by
      rw [Array.toList_replicate, Nat.zero_add, List.drop_replicate, Nat.add_sub_cancel_left]
      simp [u8s]
    rw [e] at hb1
    exact hb1
  have hf2 : Fr No w w1 := ((Fr.refl No w).alloc _).trans_new hf1 (fun i hi => .inr (by rw [show i = w.heap.size from hi]; exact Nat.le_refl _))
  clear hb1 hf1 hs1 HM
  generalize hg : w.heap.size = g at *
  go_loopw [7] (fun v wr => ∃ k : Nat, k ≤ 3 ∧ v = .int .i64 ((n + k : Nat) : Int) ∧ Bk wr g 5 (u8s (l ++ List.replicate k f ++ List.replicate (3 - k) 0)) ∧ Fr No w wr) (fun v _ => (n + 3) - (intOf v).toNat)
  case atStart => exact ⟨0, by omega, rfl, hb2, hf2⟩
  case round =>
    clear hb2 hf2
    obtain ⟨k, hk, rfl, hbk, hf⟩ := hrel
    rcases Nat.lt_or_ge k 3 with hlt | hge
    · obtain ⟨u, hu⟩ := own_get l f k hlt
      have hc : wr.cell? ⟨g, n + k, none⟩ = some u := by rw [← hn', hbk.cell]; exact hu
      have hfz := hbk.frozen (n + k)
      clear hu
      go_wp2
      go_roundw
      case rel => exact ⟨k + 1, by omega, by go_num, by rw [← own_step l f k hlt, hn']; exact hbk.set_ _ _, hf.setCell (.inr (by rw [hg]; exact Nat.le_refl _)) _⟩
      case measure => simp [intOf]; omega
    · obtain rfl : k = 3 := by omega
      go_wp2
      go_ret
      exact ⟨g, rfl, by omega, by simpa [List.replicate] using hbk, hf⟩

theorem eq8_any (x y : UInt8) (w : World) : Calls Tryz.prog 55 #[.int .u8 (x.toNat : Int), .int .u8 (y.toNat : Int)] w fun e w' => e = .returned (.bool (x == y)) ∧ w = w' := by
  have h : ((x.toNat : Int) == (y.toNat : Int)) = (x == y) := by
    by_cases e : x = y
    · subst e; simp
    · have : x.toNat ≠ y.toNat := fun h => e (UInt8.toNat_inj.1 h)
      rw [beq_eq_false_iff_ne.2 e, beq_eq_false_iff_ne]
      omega
  go_enter Tryz.func55, Tryz.ntmps55
  go_wp2
  go_ret
  exact ⟨rfl, rfl⟩

set_option maxHeartbeats 1000000 in
/-- comptoirhelp.Same of bytes that are alike, by what Plain hands on -/
theorem same8_any (A B : Option Addr) (n c d : Nat) (l : List UInt8) (w : World) (ha : Rd w A n c (u8s l)) (hb : Rd w B n d (u8s l)) :
    Calls Tryz.prog 54 #[.slice A n c, .slice B n d, .func (.func 55) #[] #[]] w fun e w' => e = .returned (.bool true) ∧ Dr w w' := by
  have hn : l.length = n := by simpa using ha.len
  have hm : n ≤ 9223372036854775807 := by
    have := ha.max
    have := ha.cap
    simp only [maxLen] at *
    omega
  go_enter Tryz.func54, Tryz.ntmps54
  go_wp2
  go_loopw [7] (fun v wr => ∃ k : Nat, k ≤ n ∧ v = .int .i64 (k : Int) ∧ Dr w wr) (fun v _ => n - (intOf v).toNat)
  case atStart => exact ⟨0, by omega, rfl, Dr.refl _⟩
  case round =>
    obtain ⟨k, hk, rfl, hdr⟩ := hrel
    rcases Nat.lt_or_ge k n with hlt | hge
    · obtain ⟨ad, u, rfl, hu, hc⟩ := (ha.dr hdr).at_ hlt
      obtain ⟨bd, v, rfl, hv, hd⟩ := (hb.dr hdr).at_ hlt
      rw [u8s_get l k (by omega)] at hu hv
      injection hu with hu; injection hv with hv
      subst hu hv
      have h9 : (l[k] == l[k]) = true := by simp
      go_wp2
      go_quiet ((go_at_call 55; exact quiet_same (eq8_any _ _ _)))
      go_wp2
      go_roundw
      case rel => exact ⟨k + 1, by omega, by go_num, hdr.drewN _⟩
      case measure => simp [intOf]; omega
    · obtain rfl : k = n := by omega
      go_wp2
      go_ret
      exact ⟨rfl, hdr⟩

theorem plain8_any (A B : Option Addr) (n c d : Nat) (l : List UInt8) (w : World) (ha : Rd w A n c (u8s l)) (hb : Rd w B n d (u8s l)) :
    Calls Tryz.prog 33 #[.slice A n c, .slice B n d] w fun e w' => e = .returned (.bool true) ∧ Dr w w' := by
  go_enter Tryz.func33, Tryz.ntmps33
  go_wp2_with (go_at_call 54; refine (same8_any _ _ _ _ _ _ _ ha hb).mono ?_; rintro e w' ⟨rfl, hdr⟩)
  go_ret
  exact ⟨rfl, hdr⟩

/-- comptoirhelp.Kept of bytes: a copy that Own made, as it was -/
theorem kept8_any (A : Option Addr) (g n c : Nat) (l : List UInt8) (f : UInt8) (w : World) (ha : Rd w A n c (u8s l)) (hb : Bk w g 5 (u8s (l ++ [f, f, f]))) (hn : n ≤ 65536) :
    Calls Tryz.prog 14 #[.slice (some ⟨g, 0, none⟩) n (n + 3), .slice A n c, .int .u8 (f.toNat : Int)] w fun e w' => e = .returned (.bool true) ∧ Dr w w' := by
  have hl : l.length = n := by simpa using ha.len
  have hr : Rd w (some ⟨g, 0, none⟩) n (n + 3) (u8s l) := by
    have := hb.rd (n := n) (cap := n + 3) (by omega) (by simp only [maxLen]; omega) (by simp; omega)
    have e : (u8s (l ++ [f, f, f])).take n = u8s l := by
      rw [u8s_append, List.take_left' (by simpa using hl)]
    rwa [e] at this
  go_enter Tryz.func14, Tryz.ntmps14
  go_wp2_with (go_at_call 33; refine (plain8_any _ _ _ _ _ _ _ hr ha).mono ?_; rintro e w1 ⟨rfl, hdr⟩)
  go_loopw [8] (fun v wr => ∃ k : Nat, k ≤ 3 ∧ v = .int .i64 ((n + k : Nat) : Int) ∧ Dr w wr) (fun v _ => (n + 3) - (intOf v).toNat)
  case atStart => exact ⟨0, by omega, rfl, hdr⟩
  case round =>
    obtain ⟨k, hk, rfl, hdr1⟩ := hrel
    rcases Nat.lt_or_ge k 3 with hlt | hge
    · have hc : wr.cell? ⟨g, n + k, none⟩ = some (.int .u8 (f.toNat : Int)) := by
        rw [hdr1.cell, hb.cell, u8s_get _ _ (by simp; omega)]
        obtain rfl | rfl | rfl : k = 0 ∨ k = 1 ∨ k = 2 := by omega
        all_goals simp [← hl]
      go_wp2
      go_roundw
      case rel => exact ⟨k + 1, by omega, by go_num, hdr1⟩
      case measure => simp [intOf]; omega
    · obtain rfl : k = 3 := by omega
      go_wp2
      go_ret
      exact ⟨rfl, hdr1⟩
end Go.Proofs.YtpkalnkeafggjaaGreatDoor
/- bytes.Clone: its contract, for every list of bytes within a slice's length. -/
namespace Go.Proofs.YtpkalnkeafggjaaGreatDoor
open Go.RowKit
set_option maxHeartbeats 400000
set_option linter.unusedVariables false
set_option maxRecDepth 20000

/-- bytes.Clone -/
theorem clone_any (A : Option Addr) (n c : Nat) (l : List UInt8) (w : World) (ha : Rd w A n c (u8s l)) (hn : n ≤ 140737488355328) :
    Calls Tryz.prog 34 #[.slice A n c] w fun e w' => ∃ v, e = .returned v ∧ w'.ownsRow w.heap.size 5 1 v n (u8s l) ∧ Fr No w w' := by
  cases A with
  | none =>
    obtain ⟨rfl, rfl, rfl⟩ := ha.none_
    have hnil : ∀ w : World, (binOp .eql 22 (.slice none 0 0) (.slice none 0 0)).run Tryz.prog w = .ok (.bool true) w := fun w => Lib.run_eql_slice_nil w _ _ none 0 0 0 0 Tryz.underlying22
    go_enter Tryz.func34, Tryz.ntmps34
    go_wp2
    go_ret
    exact ⟨_, rfl, World.ownsRow_nil _ _ _ _, Fr.refl _ _⟩
  | some ad =>
    have hnil : ∀ w : World, (binOp .eql 22 (.slice (some ad) n c) (.slice none 0 0)).run Tryz.prog w = .ok (.bool false) w := fun w => Lib.run_eql_slice_nil w _ _ (some ad) n c 0 0 Tryz.underlying22
    go_enter Tryz.func34, Tryz.ntmps34
    go_wp2_with (at_builtin; refine ap8 _ rfl (.tmp 5) (.tmp 6) rfl w.heap.size (.slice (some ⟨w.heap.size, 0, none⟩) 0 0) 0 [] rfl (World.ownsRow_made w #[] 0 (Nat.le_refl _) (by simp [maxLen]) rfl) (some ad) n c l rfl (ha.no ((Fr.refl _ _).alloc _)) (by omega) (by simp) ?_; intro v w1 h1 h2 h3)
    go_ret
    exact ⟨v, rfl, by simpa using h1, ((Fr.refl No w).alloc _).grown h2 (by simp [Value.ownBlock])⟩
end Go.Proofs.YtpkalnkeafggjaaGreatDoor
