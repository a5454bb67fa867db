/- CrcJoins: the walk, for every list of bytes. -/
import Derived.Test.YtdilgcdmmofamaaCrcAwake
import Derived.Test.YtdilgcdmmofamaaCrcFour
namespace Go.Proofs.Ytdilgcdmmofamaa
open Go.RowKit
set_option maxHeartbeats 400000
set_option linter.unusedVariables false

set_option maxHeartbeats 1600000 in
attribute [local irreducible] yielded in
theorem joins_walk {A : Option Addr} {n c : Nat} {l : List UInt8} (w : World) (ha : Rd w A n c (u8s l)) :
    Calls Try.prog 5 #[.slice A n c] w fun e w' => e = .returned (.bool true) ∧ Fr No w w' := by
  rcases Nat.lt_or_ge 300 n with hn | hn
  · go_enter Try.func5, Try.ntmps5
    go_wp2_with (go_at_call 6; refine (awake_any _).mono ?_; rintro e w1 ⟨rfl, hf⟩)
    go_ret
    exact ⟨rfl, hf⟩
  have hv := crcL_lt l
  have p1 := fun A n c w h hn => crc_of_any A n c l w h hn
  have hj : crcL (l ++ le4 (crcL l)) = 558161692 := by rw [joins]; decide +kernel
  have hz : crcL [0, 0, 0, 0] = 558161692 := by decide +kernel
  have hn0 : crcL [] = 0 := by decide +kernel
  have hah : ((crcL (0 :: l) : Int) == (crcL (0 :: 0 :: l) : Int)) = false := by rw [beq_eq_false_iff_ne]; have := ahead l; omega
  have hb : ∀ j, (leB (crcL l) j).toNat = crcL l / 2 ^ (8 * j) % 256 := leB_nat (crcL l)
  have p2 := fun A n c w h hn => crc_of_any A n c (0 :: l) w h hn
  have p3 := fun A n c w h hn => crc_of_any A n c (0 :: 0 :: l) w h hn
  generalize crcL l = V at p1 hv hj hb
  generalize crcL (0 :: l) = X at p2 hah
  generalize crcL (0 :: 0 :: l) = Y at p3 hah
  have p4 := fun A n c w h hn => crc_of_any A n c (l ++ le4 V) w h hn
  rw [hj] at p4
  have r4 : ∀ u : World, Rd (u.alloc (.cells #[.int .u8 ((V : Int) % 256), .int .u8 ((V : Int) / 256 % 256), .int .u8 ((V : Int) / 65536 % 256), .int .u8 ((V : Int) / 16777216)] 5)) (some ⟨u.heap.size, 0, none⟩) 4 4 (u8s (le4 V)) := by
    intro u
    have e : u8s (le4 V) = [.int .u8 ((V : Int) % 256), .int .u8 ((V : Int) / 256 % 256), .int .u8 ((V : Int) / 65536 % 256), .int .u8 ((V : Int) / 16777216)] := by
      show [Value.int .u8 ((leB V 0).toNat : Int), Value.int .u8 ((leB V 1).toNat : Int), Value.int .u8 ((leB V 2).toNat : Int), Value.int .u8 ((leB V 3).toNat : Int)] = _
      rw [hb, hb, hb, hb]
      have e0 : ((V / 2 ^ (8 * 0) % 256 : Nat) : Int) = (V : Int) % 256 := by simp
      have e1 : ((V / 2 ^ (8 * 1) % 256 : Nat) : Int) = (V : Int) / 256 % 256 := by simp
      have e2 : ((V / 2 ^ (8 * 2) % 256 : Nat) : Int) = (V : Int) / 65536 % 256 := by simp
      have e3 : ((V / 2 ^ (8 * 3) % 256 : Nat) : Int) = (V : Int) / 16777216 := by rw [show 2 ^ (8 * 3) = 16777216 from by decide]; omega
      rw [e0, e1, e2, e3]
    rw [e]
    exact Rd.lit u _ _ 4 rfl (by simp [maxLen])
  have z4 : ∀ u : World, Rd (u.alloc (.cells #[.int .u8 0, .int .u8 0, .int .u8 0, .int .u8 0] 5)) (some ⟨u.heap.size, 0, none⟩) 4 4 (u8s [0, 0, 0, 0]) := fun u => Rd.lit u (u8s [0, 0, 0, 0]) _ 4 rfl (by simp [maxLen])
  have z0 : ∀ u : World, Rd u none 0 0 (u8s []) := fun u => ⟨rfl, Nat.le_refl _, by simp [maxLen], fun _ => rfl, fun ad e => nomatch e⟩
  have o1 : ∀ u : World, (u.alloc (.cells #[.int .u8 0] 5)).ownsRow u.heap.size 5 1 (.slice (some ⟨u.heap.size, 0, none⟩) 1 1) 1 (u8s [0]) := fun u => ⟨by simp [u8s], .inr ⟨u.heap.size, 1, #[.int .u8 0], rfl, Nat.le_refl _, heap_alloc_new u _, Nat.le_refl _, by simp [maxLen], rfl, by simp [u8s]⟩⟩
  have o2 : ∀ u : World, (u.alloc (.cells #[.int .u8 0, .int .u8 0] 5)).ownsRow u.heap.size 5 1 (.slice (some ⟨u.heap.size, 0, none⟩) 2 2) 2 (u8s [0, 0]) := fun u => ⟨by simp [u8s], .inr ⟨u.heap.size, 2, #[.int .u8 0, .int .u8 0], rfl, Nat.le_refl _, heap_alloc_new u _, Nat.le_refl _, by simp [maxLen], rfl, by simp [u8s]⟩⟩
  have P1 := Lib.hid p1; have P2 := Lib.hid p2; have P3 := Lib.hid p3; have P4 := Lib.hid p4; have R4 := Lib.hid r4; have Z4 := Lib.hid z4; have Z0 := Lib.hid z0; have HZ := Lib.hid hz; have HN := Lib.hid hn0
  have O1 := Lib.hid o1; have O2 := Lib.hid o2
  clear p1 p2 p3 p4 hj hz hn0 r4 z4 z0 hb o1 o2
  have tok := True.intro
  have tok2 := True.intro
  have tok3 := True.intro
  have tok4 := True.intro
  have tok5 := True.intro
  have tok6 := True.intro
  have tok7 := True.intro
  go_enter Try.func5, Try.ntmps5
  go_wp2_with (first
    | (go_at_call 10; clear tok; refine (P1.out _ _ _ _ ha (by omega)).mono ?_; rintro e w1 ⟨rfl, hf1⟩)
    | (at_builtin; clear tok2; go_must (refine ap8 w1 rfl (.const (.slice none 0 0)) (.tmp 11) rfl w1.heap.size (.slice none 0 0) 0 [] rfl (World.ownsRow_nil _ _ _ _) A n c l rfl (ha.no hf1) (by omega) (Nat.le_refl _) ?_); intro r1 w2 ho1 hg1 hr1; rw [Nat.zero_add, List.nil_append] at ho1; have hf2 : Fr No w1 w2 := (Fr.refl No w1).grown hg1 (by simp [Value.ownBlock]); clear hg1 hr1)
    | (at_builtin; clear tok3; go_must (refine ap8 _ rfl (.tmp 12) (.tmp 24) rfl w1.heap.size r1 n l rfl (ho1.alloc _) _ 4 4 (le4 V) rfl (R4.out w2) (by omega) (by have := hf2.size; simp; omega) ?_); intro r2 w3 ho2 hg2 hr2; have hf3 : Fr No w1 w3 := (hf2.alloc _).grown hg2 (fun g e => .inr (ho1.lt g e).1); have hF := hf1.trans hf3; obtain ⟨X1, d1, rfl, hx1, _⟩ := Rd.of_own ho2; clear hf2 hf3 hg2 hr2 ho1 ho2)
    | (go_at_call 6; refine (awake_any _).mono ?_; rintro e w4 ⟨rfl, hf4⟩)
    | (go_at_call 10; refine (P4.out _ _ _ _ (hx1.no hf4) (by omega)).mono ?_; clear hx1; rintro e w5 ⟨rfl, hf5⟩)
    | (go_at_call 10; clear tok4; refine (crc_of_any _ 4 4 [0, 0, 0, 0] _ (Z4.out _) (by omega)).mono ?_; rw [HZ.out]; rintro e w6 ⟨rfl, hf6⟩)
    | (go_at_call 10; clear tok5; refine (crc_of_any _ 0 0 [] _ (Z0.out _) (by omega)).mono ?_; rw [HN.out]; rintro e w7 ⟨rfl, hf7⟩; have hG := ((((hF.trans hf4).trans hf5).alloc _).trans hf6).trans hf7; clear hF hf4 hf5 hf6 hf7)
    | (at_builtin; clear tok6; go_must (refine ap8 _ (by with_unfolding_all rfl) (.tmp 39) (.tmp 40) rfl w7.heap.size _ 1 [0] rfl (O1.out w7) A n c l rfl (ha.no (hG.alloc _)) (by omega) (by simp) ?_); go_must (intro r3 w8 ho3 hg3 hr3; have hf8 : Fr No w w8 := (hG.alloc _).grown hg3 (fun g e => .inr (by have := hG.size; have e2 : some w7.heap.size = some g := e; injection e2 with e2; omega)); obtain ⟨X3, d3, rfl, hx3, _⟩ := Rd.of_own ho3; clear hg3 hr3 ho3 hG))
    | (go_at_call 10; refine (P2.out _ _ _ _ hx3 (by omega)).mono ?_; clear hx3; rintro e w9 ⟨rfl, hf9⟩; have hG2 := hf8.trans hf9; clear hf8 hf9)
    | (at_builtin; clear tok7; go_must (refine ap8 _ (by with_unfolding_all rfl) (.tmp 43) (.tmp 44) rfl w9.heap.size _ 2 [0, 0] rfl (O2.out w9) A n c l rfl (ha.no (hG2.alloc _)) (by omega) (by simp) ?_); go_must (intro r4 w10 ho4 hg4 hr4; have hf10 : Fr No w w10 := (hG2.alloc _).grown hg4 (fun g e => .inr (by have := hG2.size; have e2 : some w9.heap.size = some g := e; injection e2 with e2; omega)); obtain ⟨X4, d4, rfl, hx4, _⟩ := Rd.of_own ho4; clear hg4 hr4 ho4 hG2))
    | (go_at_call 10; refine (P3.out _ _ _ _ hx4 (by omega)).mono ?_; clear hx4; rintro e w11 ⟨rfl, hf11⟩; have hG3 := hf10.trans hf11; clear hf10 hf11))
  have hne : ((X : Int) != (Y : Int)) = true := by rw [bne, hah]; rfl
  rw [hne]
  go_ret
  exact ⟨rfl, hG3⟩
end Go.Proofs.Ytdilgcdmmofamaa
