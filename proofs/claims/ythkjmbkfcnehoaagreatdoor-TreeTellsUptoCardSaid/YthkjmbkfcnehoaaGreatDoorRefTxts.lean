/- The texts RefTxt, RefChr, RefTxt2, RefTxt3, joined. -/
import Derived.Test.YthkjmbkfcnehoaaGreatDoorTxtM
import Derived.Test.YthkjmbkfcnehoaaGreatDoorSm
/- The statements' own answers about texts: characters, how many, and of which kinds. -/
namespace Go.Proofs.YthkjmbkfcnehoaaGreatDoor
open Go.RowKit
set_option maxHeartbeats 400000
set_option linter.unusedVariables false

theorem ref_char_any (c : Nat) (w : World) : Calls Tryz.prog 108 #[.int .i64 (c : Int)] w fun e w' => e = .returned (.bool (charB c)) ∧ w = w' := by
  go_enter Tryz.func108, Tryz.ntmps108
  go_wp2
  all_goals
    go_ret
    refine ⟨ret_bool ?_, rfl⟩
    unfold charB
    rw [Bool.eq_iff_iff]
    simp
    try omega

theorem drop_at (s : ByteArray) (i : Nat) (h : i < s.size) : s.data.toList.drop i = s[i] :: s.data.toList.drop (i + 1) := by
  rw [List.drop_eq_getElem_cons (by simpa using h)]
  rfl

/-- no character: the size is nought -/
theorem size_none {x : UInt8} {r : List UInt8} (h : lead x.toNat = none) : sizeB (x :: r) = 0 := by rw [sizeB_cons, h]; rfl

end Go.Proofs.YthkjmbkfcnehoaaGreatDoor
/- The statements' own reading of one character in a text: what it answers. -/
namespace Go.Proofs.YthkjmbkfcnehoaaGreatDoor
open Go.RowKit
set_option maxHeartbeats 400000
set_option linter.unusedVariables false

theorem and_i64 (x m : Nat) (hx : x < 9223372036854775808) (hm : m < 9223372036854775808) : bits BinOp.and IntKind.i64 (x : Int) (m : Int) = ((x &&& m : Nat) : Int) :=
  (bits_nat .i64 63 (by decide) (fun n h0 h1 => IntWalk.i64_in _ ⟨by omega, by omega⟩) _ _ (by simpa using hx) (by simpa using hm)).1
theorem or_i64 (x m : Nat) (hx : x < 9223372036854775808) (hm : m < 9223372036854775808) : bits BinOp.or IntKind.i64 (x : Int) (m : Int) = ((x ||| m : Nat) : Int) :=
  (bits_nat .i64 63 (by decide) (fun n h0 h1 => IntWalk.i64_in _ ⟨by omega, by omega⟩) _ _ (by simpa using hx) (by simpa using hm)).2
theorem and31 (x : Nat) (hx : x < 256) : bits BinOp.and IntKind.i64 (x : Int) 31 = ((x % 32 : Nat) : Int) := by
  have h := and_i64 x 31 (by omega) (by omega)
  rw [show x &&& 31 = x % 32 from Nat.and_two_pow_sub_one_eq_mod x 5] at h
  exact h
theorem and15 (x : Nat) (hx : x < 256) : bits BinOp.and IntKind.i64 (x : Int) 15 = ((x % 16 : Nat) : Int) := by
  have h := and_i64 x 15 (by omega) (by omega)
  rw [show x &&& 15 = x % 16 from Nat.and_two_pow_sub_one_eq_mod x 4] at h
  exact h
theorem and7 (x : Nat) (hx : x < 256) : bits BinOp.and IntKind.i64 (x : Int) 7 = ((x % 8 : Nat) : Int) := by
  have h := and_i64 x 7 (by omega) (by omega)
  rw [show x &&& 7 = x % 8 from Nat.and_two_pow_sub_one_eq_mod x 3] at h
  exact h
theorem and63 (b : UInt8) : bits BinOp.and IntKind.u8 (b.toNat : Int) 63 = ((b.toNat % 64 : Nat) : Int) := by
  have h := and_u8 b 63
  rw [UInt8.toNat_and, show (63 : UInt8).toNat = 63 from rfl, show b.toNat &&& 63 = b.toNat % 64 from Nat.and_two_pow_sub_one_eq_mod b.toNat 6] at h
  exact h
theorem cont_bits (b : UInt8) : (bits BinOp.and IntKind.u8 (b.toNat : Int) 192 != 128) = !contB b := by
  have h := and_u8 b 192
  have hk : ∀ y : Fin 256, ((y.val &&& 192) != 128) = !decide (128 ≤ y.val ∧ y.val < 192) := by decide +kernel
  have h2 := hk ⟨b.toNat, b.toNat_lt⟩
  have h192 : ((192 : UInt8).toNat : Int) = 192 := rfl
  rw [h192] at h
  rw [h, UInt8.toNat_and]
  unfold contB
  rw [← h2]
  rw [Bool.eq_iff_iff]
  simp
  omega
theorem or_tail (c y : Nat) (hc : c < 16777216) (hy : y < 64) : bits BinOp.or IntKind.i64 ((c : Int) * 64) (y : Int) = ((c * 64 + y : Nat) : Int) := by
  have e : ((c : Int) * 64) = ((c * 64 : Nat) : Int) := by omega
  rw [e, or_i64 _ _ (by omega) (by omega)]
  congr 1
  have := Nat.two_pow_add_eq_or_of_lt (i := 6) (b := y) (by omega) c
  rw [show c * 64 = 2 ^ 6 * c from by omega, this]
theorem pow64 (k : Nat) (hk : k ≤ 4) : 64 ^ k ≤ 16777216 := by
  have := Nat.pow_le_pow_right (n := 64) (by decide) hk
  have e : (64 : Nat) ^ 4 = 16777216 := by decide
  omega

set_option maxRecDepth 100000 in
set_option maxHeartbeats 4000000 in
theorem ref_chr_any (s : ByteArray) (i : Nat) (w : World) (hs : s.size ≤ 140737488355328) (hi : i < s.size) :
    Calls Tryz.prog 89 #[.string s, .int .i64 (i : Int)] w fun e w' => (∃ c : Int, e = .returned (.tuple #[.int .i64 c, .int .i64 (sizeB (s.data.toList.drop i) : Int)])) ∧ w = w' := by
  obtain ⟨x, hsx⟩ : ∃ x, s[i] = x := ⟨_, rfl⟩
  have hd := drop_at s i hi
  rw [hsx] at hd
  have hx : x.toNat < 256 := x.toNat_lt
  have hxI : (x.toNat : Int) < 256 := by omega
  have hcs : x.toNat < 128 ∨ (128 ≤ x.toNat ∧ x.toNat < 192) ∨ (192 ≤ x.toNat ∧ x.toNat < 224) ∨ (224 ≤ x.toNat ∧ x.toNat < 240) ∨ (240 ≤ x.toNat ∧ x.toNat < 248) ∨ 248 ≤ x.toNat := by omega
  obtain ⟨R, hR⟩ : ∃ R, R = s.data.toList.drop (i + 1) := ⟨_, rfl⟩
  have hRl : R.length = s.size - (i + 1) := by rw [hR, List.length_drop]; rfl
  rw [← hR] at hd
  have hRat : ∀ k, (h : i + k < s.size) → 1 ≤ k → R.drop (k - 1) = s[i + k] :: R.drop k := fun k h h1 => by
    rw [hR, List.drop_drop, List.drop_drop, show i + 1 + (k - 1) = i + k from by omega, drop_at s (i + k) h, show i + 1 + k = i + k + 1 from by omega]
  have HD := Lib.hid hd; have HRL := Lib.hid hRl; have HRAT := Lib.hid hRat
  clear hd hR hRl hRat
  rcases hcs with h | ⟨h, h'⟩ | ⟨h, h'⟩ | ⟨h, h'⟩ | ⟨h, h'⟩ | h
  · have hl : lead x.toNat = some (1, 0, x.toNat) := by unfold lead; rw [if_pos h]
    have hsz : sizeB (s.data.toList.drop i) = if charB x.toNat then 1 else 0 := by
      rw [HD.out, sizeB_cons, hl, sizeC_some]
      show finB (some x.toNat) 1 0 = _
      rw [finB_some, if_neg (by omega)]
    have hI : (x.toNat : Int) < 128 := by omega
    cases hc : charB x.toNat with
    | true =>
      rw [hc] at hsz
      have HS := Lib.hid hsz; have HC := Lib.hid hc
      clear hsz hc hl h
      go_enter Tryz.func89, Tryz.ntmps89
      go_wp2
      go_loop [6, 9] (fun c k => c = .int .i64 (x.toNat : Int) ∧ k = .int .i64 1) (fun _ _ => 0)
      case atStart => exact ⟨rfl, rfl⟩
      case round =>
        obtain ⟨rfl, rfl⟩ := hrel
        go_wp2_with (go_at_call 108; refine (ref_char_any _ _).mono ?_; rw [HC.out]; rintro e w' ⟨rfl, rfl⟩)
        go_ret2
        exact ⟨⟨_, by rw [HS.out]; rfl⟩, rfl⟩
    | false =>
      rw [hc] at hsz
      have HS := Lib.hid hsz; have HC := Lib.hid hc
      clear hsz hc hl h
      go_enter Tryz.func89, Tryz.ntmps89
      go_wp2
      go_loop [6, 9] (fun c k => c = .int .i64 (x.toNat : Int) ∧ k = .int .i64 1) (fun _ _ => 0)
      case atStart => exact ⟨rfl, rfl⟩
      case round =>
        obtain ⟨rfl, rfl⟩ := hrel
        go_wp2_with (go_at_call 108; refine (ref_char_any _ _).mono ?_; rw [HC.out]; rintro e w' ⟨rfl, rfl⟩)
        go_ret2
        exact ⟨⟨_, by rw [HS.out]; rfl⟩, rfl⟩
  · have hl : lead x.toNat = none := by unfold lead; rw [if_neg (by omega), if_neg (by omega), if_neg (by omega), if_neg (by omega)]
    have hsz : sizeB (s.data.toList.drop i) = 0 := by rw [HD.out]; exact size_none hl
    have hI1 : 128 ≤ (x.toNat : Int) := by omega
    have hI2 : (x.toNat : Int) < 192 := by omega
    have HS := Lib.hid hsz
    clear hsz hl
    go_enter Tryz.func89, Tryz.ntmps89
    go_wp2
    go_ret2
    exact ⟨⟨_, by rw [HS.out]; rfl⟩, rfl⟩
  · have hl : lead x.toNat = some (2, 128, x.toNat % 32) := by unfold lead; rw [if_neg (by omega), if_pos (by omega)]
    have hsz : sizeB (s.data.toList.drop i) = finB (tlB (2 - 1) R (x.toNat % 32)) 2 128 := by rw [HD.out, sizeB_cons, hl, sizeC_some]
    have hI1 : 192 ≤ (x.toNat : Int) := by omega
    have hI2 : (x.toNat : Int) < 224 := by omega
    have hand := and31 x.toNat hx
    have hm : x.toNat % 32 < 64 := by omega
    generalize x.toNat % 32 = m at *
    have HS := Lib.hid hsz
    clear hsz hl h h'
    rcases Nat.lt_or_ge s.size (i + 2) with hlen | hlen
    · have hz : finB (tlB (2 - 1) R m) 2 128 = 0 := by
        cases ht : tlB (2 - 1) R m with
        | none => rfl
        | some v => have := tlB_len _ _ _ _ ht; have := HRL.out; omega
      have HZ := Lib.hid hz
      clear hz
      go_enter Tryz.func89, Tryz.ntmps89
      go_wp2
      go_ret2
      exact ⟨⟨_, by rw [HS.out, HZ.out]; rfl⟩, rfl⟩
    · go_enter Tryz.func89, Tryz.ntmps89
      go_wp2
      go_loop [6, 9] (fun cv kv => ∃ k c : Nat, 1 ≤ k ∧ k ≤ 2 ∧ kv = .int .i64 (k : Int) ∧ cv = .int .i64 (c : Int) ∧ c < 64 ^ k ∧ tlB (2 - 1) R m = tlB (2 - k) (R.drop (k - 1)) c) (fun _ kv => 2 - (intOf kv).toNat)
      case atStart => exact ⟨1, m, by omega, by omega, rfl, rfl, by simpa using hm, by simp⟩
      case round =>
        obtain ⟨k, c, hk1, hk2, rfl, rfl, hc, htl⟩ := hrel
        have hp := pow64 k (by omega)
        have hc2 : c < 16777216 := by omega
        have hp2 : (64 : Nat) ^ (k + 1) = 64 * 64 ^ k := by rw [Nat.pow_succ, Nat.mul_comm]
        have HC := Lib.hid hc; have HP2 := Lib.hid hp2
        clear hc hp hp2
        rcases Nat.lt_or_ge k 2 with hlt | hge
        · have hik : i + k < s.size := by omega
          have hra := HRAT.out k hik hk1
          obtain ⟨b, hb⟩ : ∃ b, s[i + k] = b := ⟨_, rfl⟩
          rw [hb] at hra
          have hcb := cont_bits b
          have hst : tlB (2 - k) (R.drop (k - 1)) c = if contB b then tlB (2 - (k + 1)) (R.drop k) (c * 64 + b.toNat % 64) else none := by
            rw [hra, show 2 - k = (2 - (k + 1)) + 1 from by omega, tlB]
          have hbn : b.toNat < 256 := b.toNat_lt
          cases hcn : contB b with
          | false =>
            rw [hcn] at hcb hst
            have hz : finB (tlB (2 - 1) R m) 2 128 = 0 := by rw [htl, hst]; rfl
            have HZ := Lib.hid hz
            clear hz hst htl hra hcn
            go_wp2
            go_ret2
            exact ⟨⟨_, by rw [HS.out, HZ.out]; rfl⟩, rfl⟩
          | true =>
            rw [hcn, if_pos rfl] at hst
            rw [hcn] at hcb
            have h63 := and63 b
            have hor := or_tail c (b.toNat % 64) hc2 (by omega)
            have hb64 : b.toNat % 64 < 64 := by omega
            generalize b.toNat % 64 = y at *
            have hwr : IntKind.i64.wrap ((c : Int) * 64) = (c : Int) * 64 := IntWalk.i64_in _ ⟨by omega, by omega⟩
            have ht2 : tlB (2 - 1) R m = tlB (2 - (k + 1)) (R.drop k) (c * 64 + y) := by rw [htl, hst]
            have HT := Lib.hid ht2
            clear hst htl hra hcn ht2
            go_wp2
            go_round
            case rel => exact ⟨k + 1, c * 64 + y, by omega, by omega, by go_num, by first | rfl | (congr 1; omega), by rw [HP2.out]; have := HC.out; omega, HT.out⟩
            case measure => simp [intOf]; omega
        · obtain rfl : k = 2 := by omega
          have hv : tlB (2 - 1) R m = some c := by rw [htl]; rfl
          have HV := Lib.hid hv
          clear hv htl
          by_cases hle : c < 128
          · have hz : finB (tlB (2 - 1) R m) 2 128 = 0 := by rw [HV.out, finB_some, if_pos hle]
            have HZ := Lib.hid hz
            have hleI : (c : Int) < 128 := by omega
            clear hz hle
            go_wp2
            go_ret2
            exact ⟨⟨_, by rw [HS.out, HZ.out]; rfl⟩, rfl⟩
          · cases hcc : charB c with
            | true =>
              have hz : finB (tlB (2 - 1) R m) 2 128 = 2 := by rw [HV.out, finB_some, if_neg hle, hcc, if_pos rfl]
              have HZ := Lib.hid hz; have HC2 := Lib.hid hcc
              have hleI : ¬ (c : Int) < 128 := by omega
              clear hz hcc hle
              go_wp2_with (go_at_call 108; refine (ref_char_any _ _).mono ?_; rw [HC2.out]; rintro e w' ⟨rfl, rfl⟩)
              go_ret2
              exact ⟨⟨_, by rw [HS.out, HZ.out]; rfl⟩, rfl⟩
            | false =>
              have hz : finB (tlB (2 - 1) R m) 2 128 = 0 := by rw [HV.out, finB_some, if_neg hle, hcc]; rfl
              have HZ := Lib.hid hz; have HC2 := Lib.hid hcc
              have hleI : ¬ (c : Int) < 128 := by omega
              clear hz hcc hle
              go_wp2_with (go_at_call 108; refine (ref_char_any _ _).mono ?_; rw [HC2.out]; rintro e w' ⟨rfl, rfl⟩)
              go_ret2
              exact ⟨⟨_, by rw [HS.out, HZ.out]; rfl⟩, rfl⟩
  · have hl : lead x.toNat = some (3, 2048, x.toNat % 16) := by unfold lead; rw [if_neg (by omega), if_neg (by omega), if_pos (by omega)]
    have hsz : sizeB (s.data.toList.drop i) = finB (tlB (3 - 1) R (x.toNat % 16)) 3 2048 := by rw [HD.out, sizeB_cons, hl, sizeC_some]
    have hI1 : 224 ≤ (x.toNat : Int) := by omega
    have hI2 : (x.toNat : Int) < 240 := by omega
    have hand := and15 x.toNat hx
    have hm : x.toNat % 16 < 64 := by omega
    generalize x.toNat % 16 = m at *
    have HS := Lib.hid hsz
    clear hsz hl h h'
    rcases Nat.lt_or_ge s.size (i + 3) with hlen | hlen
    · have hz : finB (tlB (3 - 1) R m) 3 2048 = 0 := by
        cases ht : tlB (3 - 1) R m with
        | none => rfl
        | some v => have := tlB_len _ _ _ _ ht; have := HRL.out; omega
      have HZ := Lib.hid hz
      clear hz
      go_enter Tryz.func89, Tryz.ntmps89
      go_wp2
      go_ret2
      exact ⟨⟨_, by rw [HS.out, HZ.out]; rfl⟩, rfl⟩
    · go_enter Tryz.func89, Tryz.ntmps89
      go_wp2
      go_loop [6, 9] (fun cv kv => ∃ k c : Nat, 1 ≤ k ∧ k ≤ 3 ∧ kv = .int .i64 (k : Int) ∧ cv = .int .i64 (c : Int) ∧ c < 64 ^ k ∧ tlB (3 - 1) R m = tlB (3 - k) (R.drop (k - 1)) c) (fun _ kv => 3 - (intOf kv).toNat)
      case atStart => exact ⟨1, m, by omega, by omega, rfl, rfl, by simpa using hm, by simp⟩
      case round =>
        obtain ⟨k, c, hk1, hk2, rfl, rfl, hc, htl⟩ := hrel
        have hp := pow64 k (by omega)
        have hc2 : c < 16777216 := by omega
        have hp2 : (64 : Nat) ^ (k + 1) = 64 * 64 ^ k := by rw [Nat.pow_succ, Nat.mul_comm]
        have HC := Lib.hid hc; have HP2 := Lib.hid hp2
        clear hc hp hp2
        rcases Nat.lt_or_ge k 3 with hlt | hge
        · have hik : i + k < s.size := by omega
          have hra := HRAT.out k hik hk1
          obtain ⟨b, hb⟩ : ∃ b, s[i + k] = b := ⟨_, rfl⟩
          rw [hb] at hra
          have hcb := cont_bits b
          have hst : tlB (3 - k) (R.drop (k - 1)) c = if contB b then tlB (3 - (k + 1)) (R.drop k) (c * 64 + b.toNat % 64) else none := by
            rw [hra, show 3 - k = (3 - (k + 1)) + 1 from by omega, tlB]
          have hbn : b.toNat < 256 := b.toNat_lt
          cases hcn : contB b with
          | false =>
            rw [hcn] at hcb hst
            have hz : finB (tlB (3 - 1) R m) 3 2048 = 0 := by rw [htl, hst]; rfl
            have HZ := Lib.hid hz
            clear hz hst htl hra hcn
            go_wp2
            go_ret2
            exact ⟨⟨_, by rw [HS.out, HZ.out]; rfl⟩, rfl⟩
          | true =>
            rw [hcn, if_pos rfl] at hst
            rw [hcn] at hcb
            have h63 := and63 b
            have hor := or_tail c (b.toNat % 64) hc2 (by omega)
            have hb64 : b.toNat % 64 < 64 := by omega
            generalize b.toNat % 64 = y at *
            have hwr : IntKind.i64.wrap ((c : Int) * 64) = (c : Int) * 64 := IntWalk.i64_in _ ⟨by omega, by omega⟩
            have ht2 : tlB (3 - 1) R m = tlB (3 - (k + 1)) (R.drop k) (c * 64 + y) := by rw [htl, hst]
            have HT := Lib.hid ht2
            clear hst htl hra hcn ht2
            go_wp2
            go_round
            case rel => exact ⟨k + 1, c * 64 + y, by omega, by omega, by go_num, by first | rfl | (congr 1; omega), by rw [HP2.out]; have := HC.out; omega, HT.out⟩
            case measure => simp [intOf]; omega
        · obtain rfl : k = 3 := by omega
          have hv : tlB (3 - 1) R m = some c := by rw [htl]; rfl
          have HV := Lib.hid hv
          clear hv htl
          by_cases hle : c < 2048
          · have hz : finB (tlB (3 - 1) R m) 3 2048 = 0 := by rw [HV.out, finB_some, if_pos hle]
            have HZ := Lib.hid hz
            have hleI : (c : Int) < 2048 := by omega
            clear hz hle
            go_wp2
            go_ret2
            exact ⟨⟨_, by rw [HS.out, HZ.out]; rfl⟩, rfl⟩
          · cases hcc : charB c with
            | true =>
              have hz : finB (tlB (3 - 1) R m) 3 2048 = 3 := by rw [HV.out, finB_some, if_neg hle, hcc, if_pos rfl]
              have HZ := Lib.hid hz; have HC2 := Lib.hid hcc
              have hleI : ¬ (c : Int) < 2048 := by omega
              clear hz hcc hle
              go_wp2_with (go_at_call 108; refine (ref_char_any _ _).mono ?_; rw [HC2.out]; rintro e w' ⟨rfl, rfl⟩)
              go_ret2
              exact ⟨⟨_, by rw [HS.out, HZ.out]; rfl⟩, rfl⟩
            | false =>
              have hz : finB (tlB (3 - 1) R m) 3 2048 = 0 := by rw [HV.out, finB_some, if_neg hle, hcc]; rfl
              have HZ := Lib.hid hz; have HC2 := Lib.hid hcc
              have hleI : ¬ (c : Int) < 2048 := by omega
              clear hz hcc hle
              go_wp2_with (go_at_call 108; refine (ref_char_any _ _).mono ?_; rw [HC2.out]; rintro e w' ⟨rfl, rfl⟩)
              go_ret2
              exact ⟨⟨_, by rw [HS.out, HZ.out]; rfl⟩, rfl⟩
  · have hl : lead x.toNat = some (4, 65536, x.toNat % 8) := by unfold lead; rw [if_neg (by omega), if_neg (by omega), if_neg (by omega), if_pos (by omega)]
    have hsz : sizeB (s.data.toList.drop i) = finB (tlB (4 - 1) R (x.toNat % 8)) 4 65536 := by rw [HD.out, sizeB_cons, hl, sizeC_some]
    have hI1 : 240 ≤ (x.toNat : Int) := by omega
    have hI2 : (x.toNat : Int) < 248 := by omega
    have hand := and7 x.toNat hx
    have hm : x.toNat % 8 < 64 := by omega
    generalize x.toNat % 8 = m at *
    have HS := Lib.hid hsz
    clear hsz hl h h'
    rcases Nat.lt_or_ge s.size (i + 4) with hlen | hlen
    · have hz : finB (tlB (4 - 1) R m) 4 65536 = 0 := by
        cases ht : tlB (4 - 1) R m with
        | none => rfl
        | some v => have := tlB_len _ _ _ _ ht; have := HRL.out; omega
      have HZ := Lib.hid hz
      clear hz
      go_enter Tryz.func89, Tryz.ntmps89
      go_wp2
      go_ret2
      exact ⟨⟨_, by rw [HS.out, HZ.out]; rfl⟩, rfl⟩
    · go_enter Tryz.func89, Tryz.ntmps89
      go_wp2
      go_loop [6, 9] (fun cv kv => ∃ k c : Nat, 1 ≤ k ∧ k ≤ 4 ∧ kv = .int .i64 (k : Int) ∧ cv = .int .i64 (c : Int) ∧ c < 64 ^ k ∧ tlB (4 - 1) R m = tlB (4 - k) (R.drop (k - 1)) c) (fun _ kv => 4 - (intOf kv).toNat)
      case atStart => exact ⟨1, m, by omega, by omega, rfl, rfl, by simpa using hm, by simp⟩
      case round =>
        obtain ⟨k, c, hk1, hk2, rfl, rfl, hc, htl⟩ := hrel
        have hp := pow64 k (by omega)
        have hc2 : c < 16777216 := by omega
        have hp2 : (64 : Nat) ^ (k + 1) = 64 * 64 ^ k := by rw [Nat.pow_succ, Nat.mul_comm]
        have HC := Lib.hid hc; have HP2 := Lib.hid hp2
        clear hc hp hp2
        rcases Nat.lt_or_ge k 4 with hlt | hge
        · have hik : i + k < s.size := by omega
          have hra := HRAT.out k hik hk1
          obtain ⟨b, hb⟩ : ∃ b, s[i + k] = b := ⟨_, rfl⟩
          rw [hb] at hra
          have hcb := cont_bits b
          have hst : tlB (4 - k) (R.drop (k - 1)) c = if contB b then tlB (4 - (k + 1)) (R.drop k) (c * 64 + b.toNat % 64) else none := by
            rw [hra, show 4 - k = (4 - (k + 1)) + 1 from by omega, tlB]
          have hbn : b.toNat < 256 := b.toNat_lt
          cases hcn : contB b with
          | false =>
            rw [hcn] at hcb hst
            have hz : finB (tlB (4 - 1) R m) 4 65536 = 0 := by rw [htl, hst]; rfl
            have HZ := Lib.hid hz
            clear hz hst htl hra hcn
            go_wp2
            go_ret2
            exact ⟨⟨_, by rw [HS.out, HZ.out]; rfl⟩, rfl⟩
          | true =>
            rw [hcn, if_pos rfl] at hst
            rw [hcn] at hcb
            have h63 := and63 b
            have hor := or_tail c (b.toNat % 64) hc2 (by omega)
            have hb64 : b.toNat % 64 < 64 := by omega
            generalize b.toNat % 64 = y at *
            have hwr : IntKind.i64.wrap ((c : Int) * 64) = (c : Int) * 64 := IntWalk.i64_in _ ⟨by omega, by omega⟩
            have ht2 : tlB (4 - 1) R m = tlB (4 - (k + 1)) (R.drop k) (c * 64 + y) := by rw [htl, hst]
            have HT := Lib.hid ht2
            clear hst htl hra hcn ht2
            go_wp2
            go_round
            case rel => exact ⟨k + 1, c * 64 + y, by omega, by omega, by go_num, by first | rfl | (congr 1; omega), by rw [HP2.out]; have := HC.out; omega, HT.out⟩
            case measure => simp [intOf]; omega
        · obtain rfl : k = 4 := by omega
          have hv : tlB (4 - 1) R m = some c := by rw [htl]; rfl
          have HV := Lib.hid hv
          clear hv htl
          by_cases hle : c < 65536
          · have hz : finB (tlB (4 - 1) R m) 4 65536 = 0 := by rw [HV.out, finB_some, if_pos hle]
            have HZ := Lib.hid hz
            have hleI : (c : Int) < 65536 := by omega
            clear hz hle
            go_wp2
            go_ret2
            exact ⟨⟨_, by rw [HS.out, HZ.out]; rfl⟩, rfl⟩
          · cases hcc : charB c with
            | true =>
              have hz : finB (tlB (4 - 1) R m) 4 65536 = 4 := by rw [HV.out, finB_some, if_neg hle, hcc, if_pos rfl]
              have HZ := Lib.hid hz; have HC2 := Lib.hid hcc
              have hleI : ¬ (c : Int) < 65536 := by omega
              clear hz hcc hle
              go_wp2_with (go_at_call 108; refine (ref_char_any _ _).mono ?_; rw [HC2.out]; rintro e w' ⟨rfl, rfl⟩)
              go_ret2
              exact ⟨⟨_, by rw [HS.out, HZ.out]; rfl⟩, rfl⟩
            | false =>
              have hz : finB (tlB (4 - 1) R m) 4 65536 = 0 := by rw [HV.out, finB_some, if_neg hle, hcc]; rfl
              have HZ := Lib.hid hz; have HC2 := Lib.hid hcc
              have hleI : ¬ (c : Int) < 65536 := by omega
              clear hz hcc hle
              go_wp2_with (go_at_call 108; refine (ref_char_any _ _).mono ?_; rw [HC2.out]; rintro e w' ⟨rfl, rfl⟩)
              go_ret2
              exact ⟨⟨_, by rw [HS.out, HZ.out]; rfl⟩, rfl⟩
  · have hl : lead x.toNat = none := by unfold lead; rw [if_neg (by omega), if_neg (by omega), if_neg (by omega), if_neg (by omega)]
    have hsz : sizeB (s.data.toList.drop i) = 0 := by rw [HD.out]; exact size_none hl
    have hI1 : 248 ≤ (x.toNat : Int) := by omega
    have HS := Lib.hid hsz
    clear hsz hl
    go_enter Tryz.func89, Tryz.ntmps89
    go_wp2
    go_ret2
    exact ⟨⟨_, by rw [HS.out]; rfl⟩, rfl⟩
end Go.Proofs.YthkjmbkfcnehoaaGreatDoor
/- The statements' own answers about texts: how many characters, and of which kinds. -/
namespace Go.Proofs.YthkjmbkfcnehoaaGreatDoor
open Go.RowKit
set_option maxHeartbeats 1000000
set_option linter.unusedVariables false

/-- how many characters, or -1 -/
def cntZ (l : List UInt8) : Int := match cnt l with
  | none => -1
  | some n => n
theorem cntZ_utf8 (l : List UInt8) : decide (0 ≤ cntZ l) = utf8B l := by
  unfold cntZ utf8B
  cases cnt l <;> simp
theorem cntZ_runes (l : List UInt8) : max 0 (cntZ l) = (runesN l : Int) := by
  unfold cntZ runesN
  cases cnt l with
  | none => rfl
  | some n => simp
theorem cntZ_bound (l : List UInt8) : -1 ≤ cntZ l ∧ cntZ l ≤ l.length := by
  unfold cntZ
  cases h : cnt l with
  | none => simp
  | some n => have := cnt_le _ l (Nat.le_refl _) n h; simp; omega

set_option maxRecDepth 100000 in
theorem ref_count_any (s : ByteArray) (w : World) (hs : s.size ≤ 140737488355328) :
    Calls Tryz.prog 58 #[.string s] w fun e w' => e = .returned (.int .i64 (cntZ s.data.toList)) ∧ w = w' := by
  have hl : s.data.toList.length = s.size := by simp
  have HL := Lib.hid hl
  clear hl
  go_enter Tryz.func58, Tryz.ntmps58
  go_wp2
  go_loop [3, 4] (fun nv iv => ∃ n i : Nat, n ≤ i ∧ i ≤ s.size ∧ nv = .int .i64 (n : Int) ∧ iv = .int .i64 (i : Int) ∧ cnt s.data.toList = (cnt (s.data.toList.drop i)).map (n + ·)) (fun _ iv => s.size - (intOf iv).toNat)
  case atStart => exact ⟨0, 0, Nat.le_refl _, Nat.zero_le _, rfl, rfl, by cases h : cnt s.data.toList <;> simp [h]⟩
  case round =>
    obtain ⟨n, i, hni, hi, rfl, rfl, hc⟩ := hrel
    rcases Nat.lt_or_ge i s.size with hlt | hge
    · have hne : s.data.toList.drop i ≠ [] := by
        intro e
        have := congrArg List.length e
        rw [List.length_drop, HL.out, List.length_nil] at this
        omega
      have hst := cnt_step hne
      by_cases hz : sizeB (s.data.toList.drop i) = 0
      · rw [if_pos hz] at hst
        have hr : cntZ s.data.toList = -1 := by unfold cntZ; rw [hc, hst]; rfl
        have HR := Lib.hid hr; have HZ := Lib.hid hz
        clear hc hst hne hz hr
        go_wp2_with (go_at_call 89; refine (ref_chr_any s i _ hs hlt).mono ?_; rw [HZ.out]; rintro e w' ⟨⟨c, rfl⟩, rfl⟩)
        go_ret
        exact ⟨by rw [HR.out]; rfl, rfl⟩
      · rw [if_neg hz] at hst
        obtain ⟨p1, p2, p3⟩ := sizeB_pos hz
        rw [List.length_drop, HL.out] at p1
        have hc2 : cnt s.data.toList = (cnt (s.data.toList.drop (i + sizeB (s.data.toList.drop i)))).map (n + 1 + ·) := by
          rw [hc, hst, List.drop_drop]
          cases cnt (s.data.toList.drop (i + sizeB (s.data.toList.drop i))) with
          | none => rfl
          | some y => simp; omega
        obtain ⟨z, hzz⟩ : ∃ z, z = sizeB (s.data.toList.drop i) := ⟨_, rfl⟩
        rw [← hzz] at hz p1 p2 hc2
        have HZZ := Lib.hid hzz; have HC2 := Lib.hid hc2
        have hz1 : 1 ≤ z := by omega
        have hzI : ((z : Int) == 0) = false := by rw [beq_eq_false_iff_ne]; omega
        clear hc hst hne hzz hc2 hz
        go_wp2_with (go_at_call 89; refine (ref_chr_any s i _ hs hlt).mono ?_; rw [← HZZ.out]; rintro e w' ⟨⟨c, rfl⟩, rfl⟩)
        go_round
        case rel => exact ⟨n + 1, i + z, by omega, by omega, by go_num, by go_num, HC2.out⟩
        case measure => simp [intOf]; omega
    · obtain rfl : i = s.size := by omega
      have hr : cntZ s.data.toList = n := by
        unfold cntZ
        rw [hc, List.drop_of_length_le (by rw [HL.out]; exact Nat.le_refl _), cnt_nil]
        rfl
      have HR := Lib.hid hr
      clear hc hr
      go_wp2
      go_ret
      exact ⟨by rw [HR.out]; rfl, rfl⟩

theorem ref_utf8_any (s : ByteArray) (w : World) (hs : s.size ≤ 140737488355328) :
    Calls Tryz.prog 37 #[.string s] w fun e w' => e = .returned (.bool (utf8B s.data.toList)) ∧ w = w' := by
  have hu := cntZ_utf8 s.data.toList
  have HU := Lib.hid hu
  clear hu
  go_enter Tryz.func37, Tryz.ntmps37
  go_wp2_with (go_at_call 58; refine (ref_count_any s _ hs).mono ?_; rintro e w' ⟨rfl, rfl⟩)
  go_ret
  exact ⟨ret_bool HU.out, rfl⟩

theorem plain_eq {l : List UInt8} {low top : Int} (h : lowest l = true) : plainB l low top = (decide (0 ≤ cntZ l) && (decide (low ≤ cntZ l) && (decide (cntZ l ≤ top) && (decide (l = []) || (decide (l.getD 0 0 ≠ 32) && decide (l.getD (l.length - 1) 0 ≠ 32)))))) := by
  unfold plainB
  rw [h, Bool.true_and, ← cntZ_utf8 l]
  by_cases hz : 0 ≤ cntZ l
  · have e := cntZ_runes l
    rw [← e, show max 0 (cntZ l) = cntZ l from by omega]
  · rw [decide_eq_false hz, Bool.false_and, Bool.false_and]
theorem ne32 (x : UInt8) : decide (x ≠ 32) = ((x.toNat : Int) != 32) := by
  rw [Bool.eq_iff_iff, decide_eq_true_iff, bne_iff_ne]
  constructor
  · intro h e
    apply h
    apply UInt8.toNat_inj.1
    show x.toNat = 32
    omega
  · rintro h rfl
    exact h rfl
theorem lowest_take (l : List UInt8) (k : Nat) (h : k < l.length) : lowest (l.take (k + 1)) = (lowest (l.take k) && decide (32 ≤ l[k].toNat)) := by
  unfold lowest
  rw [List.take_succ_eq_append_getElem h, List.all_append]
  simp

end Go.Proofs.YthkjmbkfcnehoaaGreatDoor
/- The statements' own answers about texts: signs of one byte, and letters and digits. -/
namespace Go.Proofs.YthkjmbkfcnehoaaGreatDoor
open Go.RowKit
set_option maxHeartbeats 1000000
set_option linter.unusedVariables false

theorem rt_take (l : List UInt8) (p : UInt8 → Bool) (k : Nat) (h : k < l.length) : (l.take (k + 1)).all p = ((l.take k).all p && p l[k]) := by
  rw [List.take_succ_eq_append_getElem h, List.all_append]
  simp
theorem all_drop (l : List UInt8) (p : UInt8 → Bool) (k : Nat) (h : (l.take k).all p = false) : l.all p = false := by
  rw [Bool.eq_false_iff] at h ⊢
  intro h2
  apply h
  rw [List.all_eq_true] at h2 ⊢
  exact fun y hy => h2 y (List.mem_of_mem_take hy)

end Go.Proofs.YthkjmbkfcnehoaaGreatDoor
