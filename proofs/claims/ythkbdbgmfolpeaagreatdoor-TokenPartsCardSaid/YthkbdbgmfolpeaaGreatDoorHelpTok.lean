/- The statements' own helpers: rows of attributes and of tokens that are alike, held against each other. -/
import Derived.Test.YthkbdbgmfolpeaaGreatDoorTokItems
import Derived.Test.YthkbdbgmfolpeaaGreatDoorDig0
import Derived.Lib.QuietBelow
namespace Go.Proofs.YthkbdbgmfolpeaaGreatDoor
open Go.RowKit
set_option maxHeartbeats 1000000
set_option linter.unusedVariables false

theorem add_next (ad : Addr) (i j : Nat) : ad.add (i + (j + 1)) = ⟨(ad.add i).block, (ad.add i).off + (j + 1), none⟩ := by
  unfold Addr.add
  by_cases h : i = 0
  · subst h
    simp
  · simp [h]
    omega
theorem eqA_any (X Y X' Y' : ByteArray) (w : World) (h1 : X.data.toList = X'.data.toList) (h2 : Y.data.toList = Y'.data.toList) :
    Calls Tryz.prog 30 #[.agg #[.string X, .string Y], .agg #[.string X', .string Y']] w fun e w' => e = .returned (.bool true) ∧ Below w.heap.size w w' := by
  have e1 : X = X' := by cases X; cases X'; congr 1; exact Array.ext' h1
  have e2 : Y = Y' := by cases Y; cases Y'; congr 1; exact Array.ext' h2
  subst e1 e2
  clear h1 h2
  go_enter Tryz.func30, Tryz.ntmps30
  go_wp2
  go_ret
  exact ⟨rfl, (((Fr.refl No w).alloc _).alloc _).toBelow⟩
theorem sameA_any (A B : Option Addr) (n c d : Nat) (l : List (List UInt8 × List UInt8)) (N M : Nat → Prop) (w : World) (ha : RdI 2 AttrI w N A n c l) (hb : RdI 2 AttrI w M B n d l) :
    Calls Tryz.prog 29 #[.slice A n c, .slice B n d, .func (.func 30) #[] #[]] w fun e w' => e = .returned (.bool true) ∧ Fr No w w' := by
  have hn := ha.len attr_ok (by omega)
  have hm := ha.top
  go_enter Tryz.func29, Tryz.ntmps29
  go_wp2
  go_loopw [7] (fun v wr => ∃ k : Nat, k ≤ n ∧ v = .int .i64 (k : Int) ∧ Fr No w wr) (fun v _ => n - (intOf v).toNat)
  case atStart => exact ⟨0, by omega, rfl, Fr.refl _ _⟩
  case round =>
    obtain ⟨k, hk, rfl, hdr⟩ := hrel
    rcases Nat.lt_or_ge k n with hlt | hge
    · obtain ⟨ad, cs, rfl, ⟨X, Y, rfl, hX, hY⟩, hc⟩ := (ha.no attr_ok hdr).at_ attr_ok (by omega) (i := k) (by omega)
      obtain ⟨bd, ds, rfl, ⟨X', Y', rfl, hX', hY'⟩, hd⟩ := (hb.no attr_ok hdr).at_ attr_ok (by omega) (i := k) (by omega)
      have c0 := hc 0 _ rfl
      have c1 := hc 1 _ rfl
      have d0 := hd 0 _ rfl
      have d1 := hd 1 _ rfl
      rw [add_next ad] at c1
      rw [add_next bd] at d1
      obtain ⟨P, hP⟩ : ∃ P, ad.add (k * 2) = P := ⟨_, rfl⟩
      obtain ⟨Q, hQ⟩ : ∃ Q, bd.add (k * 2) = Q := ⟨_, rfl⟩
      rw [Nat.add_zero, hP] at c0
      rw [Nat.add_zero, hQ] at d0
      rw [hP] at c1
      rw [hQ] at d1
      have q0 := fun x os => cell_regrown c0 x os
      have q1 := fun x os => cell_regrown c1 x os
      have r0 := fun x os => cell_regrown d0 x os
      have r1 := fun x os => cell_regrown d1 x os
      have heq := fun u => eqA_any X Y X' Y' u (by rw [hX, hX']) (by rw [hY, hY'])
      have HEQ := Lib.hid heq
      clear hc hd heq c0 c1 d0 d1 hX hX' hY hY'
      go_wp2
      refine wp_region_quiet_below (by kernel_rfl) (by kernel_rfl) ?_
      repeat (quiet_step ((go_at_call 30; exact Calls.regrown_of (HEQ.out _))))
      refine wpQuiet_nil ?_
      intro w7 hw7r
      obtain ⟨⟨nr, osr⟩, hw7r⟩ := hw7r
      have hf7 : Fr No wr w7 := by rw [hw7r]; exact Fr.of_below (below_regrown wr nr osr)
      clear hw7r
      go_wp2
      go_roundw
      case rel => exact ⟨k + 1, by omega, by go_num, hdr.trans hf7⟩
      case measure => simp [intOf]; omega
    · obtain rfl : k = n := by omega
      go_wp2
      go_ret
      exact ⟨rfl, hdr⟩
theorem plainA_any (A B : Option Addr) (n c d : Nat) (l : List (List UInt8 × List UInt8)) (N M : Nat → Prop) (w : World) (ha : RdI 2 AttrI w N A n c l) (hb : RdI 2 AttrI w M B n d l) :
    Calls Tryz.prog 16 #[.slice A n c, .slice B n d] w fun e w' => e = .returned (.bool true) ∧ Fr No w w' := by
  go_enter Tryz.func16, Tryz.ntmps16
  go_wp2_with (go_at_call 29; refine (sameA_any _ _ _ _ _ _ _ _ _ ha hb).mono ?_; rintro e w' ⟨rfl, hdr⟩)
  go_ret
  exact ⟨rfl, hdr⟩
theorem eqT_any (k : Int) (em : Bool) (X Y X' Y' : ByteArray) (A B : Option Addr) (n c d : Nat) (l : List (List UInt8 × List UInt8)) (N M : Nat → Prop) (w : World) (h1 : X.data.toList = X'.data.toList) (h2 : Y.data.toList = Y'.data.toList) (ha : RdI 2 AttrI w N A n c l) (hb : RdI 2 AttrI w M B n d l) :
    Calls Tryz.prog 9 #[.agg #[.int .i64 k, .string X, .string Y, .slice A n c, .bool em], .agg #[.int .i64 k, .string X', .string Y', .slice B n d, .bool em]] w fun e w' => e = .returned (.bool true) ∧ Below w.heap.size w w' := by
  have e1 : X = X' := by cases X; cases X'; congr 1; exact Array.ext' h1
  have e2 : Y = Y' := by cases Y; cases Y'; congr 1; exact Array.ext' h2
  subst e1 e2
  have hp := fun u (hf : Fr No w u) => plainA_any A B n c d l N M u (ha.no attr_ok hf) (hb.no attr_ok hf)
  have HP := Lib.hid hp
  clear h1 h2 hp ha hb
  go_enter Tryz.func9, Tryz.ntmps9
  go_wp2_with (go_at_call 16; refine (HP.out _ (((Fr.refl No w).alloc _).alloc _)).mono ?_; rintro e w1 ⟨rfl, hf1⟩)
  go_ret
  exact ⟨rfl, ((((Fr.refl No w).alloc _).alloc _).trans hf1).toBelow⟩
theorem sameT_any (A B : Option Addr) (n c d : Nat) (l : List Tok) (N M : Nat → Prop) (w : World) (ha : RdI 5 TokI w N A n c l) (hb : RdI 5 TokI w M B n d l) :
    Calls Tryz.prog 8 #[.slice A n c, .slice B n d, .func (.func 9) #[] #[]] w fun e w' => e = .returned (.bool true) ∧ Fr No w w' := by
  have hn := ha.len tok_ok (by omega)
  have hm := ha.top
  go_enter Tryz.func8, Tryz.ntmps8
  go_wp2
  go_loopw [7] (fun v wr => ∃ k : Nat, k ≤ n ∧ v = .int .i64 (k : Int) ∧ Fr No w wr) (fun v _ => n - (intOf v).toNat)
  case atStart => exact ⟨0, by omega, rfl, Fr.refl _ _⟩
  case round =>
    obtain ⟨k, hk, rfl, hdr⟩ := hrel
    rcases Nat.lt_or_ge k n with hlt | hge
    · have hkl : k < l.length := by omega
      obtain ⟨ad, cs, rfl, ⟨X, Y, A1, n1, x1, rfl, hX, hY, hA1⟩, hc⟩ := (ha.no tok_ok hdr).at_ tok_ok (by omega) (i := k) hkl
      obtain ⟨bd, ds, rfl, ⟨X', Y', B1, m1, y1, rfl, hX', hY', hB1⟩, hd⟩ := (hb.no tok_ok hdr).at_ tok_ok (by omega) (i := k) hkl
      have e1 := hA1.len attr_ok (by omega)
      have e2 := hB1.len attr_ok (by omega)
      obtain rfl : m1 = n1 := by omega
      have c0 := hc 0 _ rfl; have c1 := hc 1 _ rfl; have c2 := hc 2 _ rfl; have c3 := hc 3 _ rfl; have c4 := hc 4 _ rfl
      have d0 := hd 0 _ rfl; have d1 := hd 1 _ rfl; have d2 := hd 2 _ rfl; have d3 := hd 3 _ rfl; have d4 := hd 4 _ rfl
      rw [add_next ad] at c1 c2 c3 c4
      rw [add_next bd] at d1 d2 d3 d4
      obtain ⟨P, hP⟩ : ∃ P, ad.add (k * 5) = P := ⟨_, rfl⟩
      obtain ⟨Q, hQ⟩ : ∃ Q, bd.add (k * 5) = Q := ⟨_, rfl⟩
      rw [Nat.add_zero, hP] at c0
      rw [Nat.add_zero, hQ] at d0
      rw [hP] at c1 c2 c3 c4
      rw [hQ] at d1 d2 d3 d4
      have heq := fun u (hf : Fr No wr u) => eqT_any l[k].kind l[k].empty X Y X' Y' A1 B1 m1 x1 y1 l[k].attrs N M u (by rw [hX, hX']) (by rw [hY, hY']) (hA1.no attr_ok hf) (hB1.no attr_ok hf)
      generalize l[k].kind = K at c0 d0 heq
      generalize l[k].empty = E at c4 d4 heq
      have HEQ := Lib.hid heq
      have q0 := fun x os => cell_regrown c0 x os; have q1 := fun x os => cell_regrown c1 x os; have q2 := fun x os => cell_regrown c2 x os; have q3 := fun x os => cell_regrown c3 x os; have q4 := fun x os => cell_regrown c4 x os
      have r0 := fun x os => cell_regrown d0 x os; have r1 := fun x os => cell_regrown d1 x os; have r2 := fun x os => cell_regrown d2 x os; have r3 := fun x os => cell_regrown d3 x os; have r4 := fun x os => cell_regrown d4 x os
      clear hc hd heq c0 c1 c2 c3 c4 d0 d1 d2 d3 d4 hX hX' hY hY' e1 e2 hA1 hB1
      go_wp2
      refine wp_region_quiet_below (by kernel_rfl) (by kernel_rfl) ?_
      repeat (quiet_step ((go_at_call 9; exact Calls.regrown_of (HEQ.out _ (Fr.of_below (below_regrown wr _ _))))))
      refine wpQuiet_nil ?_
      intro w7 hw7r
      obtain ⟨⟨nr, osr⟩, hw7r⟩ := hw7r
      have hf7 : Fr No wr w7 := by rw [hw7r]; exact Fr.of_below (below_regrown wr nr osr)
      clear hw7r
      go_wp2
      go_roundw
      case rel => exact ⟨k + 1, by omega, by go_num, hdr.trans hf7⟩
      case measure => simp [intOf]; omega
    · obtain rfl : k = n := by omega
      go_wp2
      go_ret
      exact ⟨rfl, hdr⟩
end Go.Proofs.YthkbdbgmfolpeaaGreatDoor
