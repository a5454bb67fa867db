/- The statements' own helpers: rows of attributes and of tokens that are alike, held against each other. -/
import Derived.Test.YtdgfpjekahpggaaGreatDoorTokItems
import Derived.Test.YtdgfpjekahpggaaGreatDoorDig0
import Derived.Lib.QuietBelow
namespace Go.Proofs.YtdgfpjekahpggaaGreatDoor
open Go.RowKit
set_option maxHeartbeats 1000000
set_option linter.unusedVariables false

theorem add_next (ad : Addr) (i j : Nat) : ad.add (i + (j + 1)) = ⟨(ad.add i).block, (ad.add i).off + (j + 1), none⟩ := by
  unfold Addr.add
  by_cases h : i = 0
  · subst h
    simp
  · simp [h]
    omega
theorem eqA_any (X Y X' Y' : ByteArray) (w : World) (h1 : X.data.toList = X'.data.toList) (h2 : Y.data.toList = Y'.data.toList) :
    Calls Tryz.prog 40 #[.agg #[.string X, .string Y], .agg #[.string X', .string Y']] w fun e w' => e = .returned (.bool true) ∧ Below w.heap.size w w' := by
  have e1 : X = X' := by cases X; cases X'; congr 1; exact Array.ext' h1
  have e2 : Y = Y' := by cases Y; cases Y'; congr 1; exact Array.ext' h2
  subst e1 e2
  clear h1 h2
  go_enter Tryz.func40, Tryz.ntmps40
  go_wp2
  go_ret
  exact ⟨rfl, (((Fr.refl No w).alloc _).alloc _).toBelow⟩
theorem sameA_any (A B : Option Addr) (n c d : Nat) (l : List (List UInt8 × List UInt8)) (N M : Nat → Prop) (w : World) (ha : RdI 2 AttrI w N A n c l) (hb : RdI 2 AttrI w M B n d l) :
    Calls Tryz.prog 39 #[.slice A n c, .slice B n d, .func (.func 40) #[] #[]] w fun e w' => e = .returned (.bool true) ∧ Fr No w w' := by
  have hn := ha.len attr_ok (by omega)
  have hm := ha.top
  go_enter Tryz.func39, Tryz.ntmps39
  go_wp2
  go_loopw [7] (fun v wr => ∃ k : Nat, k ≤ n ∧ v = .int .i64 (k : Int) ∧ Fr No w wr) (fun v _ => n - (intOf v).toNat)
  case atStart => exact ⟨0, by omega, rfl, Fr.refl _ _⟩
  case round =>
    obtain ⟨k, hk, rfl, hdr⟩ := hrel
    rcases Nat.lt_or_ge k n with hlt | hge
    · obtain ⟨ad, cs, rfl, ⟨X, Y, rfl, hX, hY⟩, hc⟩ := (ha.no attr_ok hdr).at_ attr_ok (by omega) (i := k) (by omega)
      obtain ⟨bd, ds, rfl, ⟨X', Y', rfl, hX', hY'⟩, hd⟩ := (hb.no attr_ok hdr).at_ attr_ok (by omega) (i := k) (by omega)
      have c0 := hc 0 _ rfl
      have c1 := hc 1 _ rfl
      have d0 := hd 0 _ rfl
      have d1 := hd 1 _ rfl
      rw [add_next ad] at c1
      rw [add_next bd] at d1
      obtain ⟨P, hP⟩ : ∃ P, ad.add (k * 2) = P := ⟨_, rfl⟩
      obtain ⟨Q, hQ⟩ : ∃ Q, bd.add (k * 2) = Q := ⟨_, rfl⟩
      rw [Nat.add_zero, hP] at c0
      rw [Nat.add_zero, hQ] at d0
      rw [hP] at c1
      rw [hQ] at d1
      have q0 := fun x os => cell_regrown c0 x os
      have q1 := fun x os => cell_regrown c1 x os
      have r0 := fun x os => cell_regrown d0 x os
      have r1 := fun x os => cell_regrown d1 x os
      have heq := fun u => eqA_any X Y X' Y' u (by rw [hX, hX']) (by rw [hY, hY'])
      have HEQ := Lib.hid heq
      clear hc hd heq c0 c1 d0 d1 hX hX' hY hY'
      go_wp2
      refine wp_region_quiet_below (by kernel_rfl) (by kernel_rfl) ?_
      repeat (quiet_step ((go_at_call 40; exact Calls.regrown_of (HEQ.out _))))
      refine wpQuiet_nil ?_
      intro w7 hw7r
      obtain ⟨⟨nr, osr⟩, hw7r⟩ := hw7r
      have hf7 : Fr No wr w7 := by rw [hw7r]; exact Fr.of_below (below_regrown wr nr osr)
      clear hw7r
      go_wp2
      go_roundw
      case rel => exact ⟨k + 1, by omega, by go_num, hdr.trans hf7⟩
      case measure => simp [intOf]; omega
    · obtain rfl : k = n := by omega
      go_wp2
      go_ret
      exact ⟨rfl, hdr⟩
theorem plainA_any (A B : Option Addr) (n c d : Nat) (l : List (List UInt8 × List UInt8)) (N M : Nat → Prop) (w : World) (ha : RdI 2 AttrI w N A n c l) (hb : RdI 2 AttrI w M B n d l) :
    Calls Tryz.prog 24 #[.slice A n c, .slice B n d] w fun e w' => e = .returned (.bool true) ∧ Fr No w w' := by
  go_enter Tryz.func24, Tryz.ntmps24
  go_wp2_with (go_at_call 39; refine (sameA_any _ _ _ _ _ _ _ _ _ ha hb).mono ?_; rintro e w' ⟨rfl, hdr⟩)
  go_ret
  exact ⟨rfl, hdr⟩
end Go.Proofs.YtdgfpjekahpggaaGreatDoor
