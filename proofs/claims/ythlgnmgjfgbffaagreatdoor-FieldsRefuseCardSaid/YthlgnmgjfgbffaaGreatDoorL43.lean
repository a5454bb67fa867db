/- The texts HelpTag, joined. -/
import Derived.Test.YthlgnmgjfgbffaaGreatDoorL18
import Derived.Lib.QuietBelow
/- The statements' own helpers: rows of tags that are alike, held against each other. -/
namespace Go.Proofs.YthlgnmgjfgbffaaGreatDoor
open Go.RowKit
set_option maxHeartbeats 1000000
set_option linter.unusedVariables false

theorem eqG_any (t : Int) (A B : Option Addr) (n c d : Nat) (l : List UInt8) (w : World) (ha : Rd w A n c (u8s l)) (hb : Rd w B n d (u8s l)) :
    Calls Tryz.prog 35 #[.agg #[.int .i64 t, .slice A n c], .agg #[.int .i64 t, .slice B n d]] w fun e w' => e = .returned (.bool true) ∧ Below w.heap.size w w' := by
  have hp := fun u (hf : Fr No w u) => bytes_any A B n c n d l l u (ha.no hf) (hb.no hf)
  rw [show (l == l) = true by simp] at hp
  have HP := Lib.hid hp
  clear hp ha hb
  go_enter Tryz.func35, Tryz.ntmps35
  go_wp2_with (go_at_call 71; refine (HP.out _ (((Fr.refl No w).alloc _).alloc _)).mono ?_; rintro e w1 ⟨rfl, rfl⟩)
  go_ret
  exact ⟨rfl, ((((Fr.refl No w).alloc _).alloc _)).toBelow⟩
theorem sameG_any (A B : Option Addr) (n c d : Nat) (l : List (Int × List UInt8)) (N M : Nat → Prop) (w : World) (ha : RdI 2 TagI w N A n c l) (hb : RdI 2 TagI w M B n d l) :
    Calls Tryz.prog 34 #[.slice A n c, .slice B n d, .func (.func 35) #[] #[]] w fun e w' => e = .returned (.bool true) ∧ Fr No w w' := by
  have hn := ha.len tag_ok (by omega)
  have hm := ha.top
  go_enter Tryz.func34, Tryz.ntmps34
  go_wp2
  go_loopw [7] (fun v wr => ∃ k : Nat, k ≤ n ∧ v = .int .i64 (k : Int) ∧ Fr No w wr) (fun v _ => n - (intOf v).toNat)
  case atStart => exact ⟨0, by omega, rfl, Fr.refl _ _⟩
  case round =>
    obtain ⟨k, hk, rfl, hdr⟩ := hrel
    rcases Nat.lt_or_ge k n with hlt | hge
    · have hkl : k < l.length := by omega
      obtain ⟨ad, cs, rfl, ⟨A1, n1, x1, rfl, hA1, -, -, -⟩, hc⟩ := (ha.no tag_ok hdr).at_ tag_ok (by omega) (i := k) hkl
      obtain ⟨bd, ds, rfl, ⟨B1, m1, y1, rfl, hB1, -, -, -⟩, hd⟩ := (hb.no tag_ok hdr).at_ tag_ok (by omega) (i := k) hkl
      have e1 := hA1.len
      have e2 := hB1.len
      rw [u8s_length] at e1 e2
      obtain rfl : m1 = n1 := by omega
      have c0 := hc 0 _ rfl; have c1 := hc 1 _ rfl
      have d0 := hd 0 _ rfl; have d1 := hd 1 _ rfl
      rw [tag_next ad] at c1
      rw [tag_next bd] at d1
      obtain ⟨P, hP⟩ : ∃ P, ad.add (k * 2) = P := ⟨_, rfl⟩
      obtain ⟨Q, hQ⟩ : ∃ Q, bd.add (k * 2) = Q := ⟨_, rfl⟩
      rw [Nat.add_zero, hP] at c0
      rw [Nat.add_zero, hQ] at d0
      rw [hP] at c1
      rw [hQ] at d1
      have heq := fun u (hf : Fr No wr u) => eqG_any l[k].1 A1 B1 m1 x1 y1 l[k].2 u (hA1.no hf) (hB1.no hf)
      generalize l[k].1 = K at c0 d0 heq
      have HEQ := Lib.hid heq
      have q0 := fun x os => cell_regrown c0 x os; have q1 := fun x os => cell_regrown c1 x os
      have r0 := fun x os => cell_regrown d0 x os; have r1 := fun x os => cell_regrown d1 x os
      clear hc hd heq c0 c1 d0 d1 e1 e2 hA1 hB1
      go_wp2
      refine wp_region_quiet_below (by kernel_rfl) (by kernel_rfl) ?_
      repeat (quiet_step ((go_at_call 35; exact Calls.regrown_of (HEQ.out _ (Fr.of_below (below_regrown wr _ _))))))
      refine wpQuiet_nil ?_
      intro w7 hw7r
      obtain ⟨⟨nr, osr⟩, hw7r⟩ := hw7r
      have hf7 : Fr No wr w7 := by rw [hw7r]; exact Fr.of_below (below_regrown wr nr osr)
      clear hw7r
      go_wp2
      go_roundw
      case rel => exact ⟨k + 1, by omega, by go_num, hdr.trans hf7⟩
      case measure => simp [intOf]; omega
    · obtain rfl : k = n := by omega
      go_wp2
      go_ret
      exact ⟨rfl, hdr⟩
end Go.Proofs.YthlgnmgjfgbffaaGreatDoor
