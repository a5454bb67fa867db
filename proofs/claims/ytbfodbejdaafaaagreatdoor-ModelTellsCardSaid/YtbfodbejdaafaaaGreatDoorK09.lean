/- The texts RefChr, joined. -/
import Derived.Test.YtbfodbejdaafaaaGreatDoorK08
/- The statements' own reading of one character in a text: what it answers. -/
namespace Go.Proofs.YtbfodbejdaafaaaGreatDoor
open Go.RowKit
set_option maxHeartbeats 400000
set_option linter.unusedVariables false

theorem and_i64 (x m : Nat) (hx : x < 9223372036854775808) (hm : m < 9223372036854775808) : bits BinOp.and IntKind.i64 (x : Int) (m : Int) = ((x &&& m : Nat) : Int) :=
  (bits_nat .i64 63 (by decide) (fun n h0 h1 => IntWalk.i64_in _ ⟨by omega, by omega⟩) _ _ (by simpa using hx) (by simpa using hm)).1
theorem or_i64 (x m : Nat) (hx : x < 9223372036854775808) (hm : m < 9223372036854775808) : bits BinOp.or IntKind.i64 (x : Int) (m : Int) = ((x ||| m : Nat) : Int) :=
  (bits_nat .i64 63 (by decide) (fun n h0 h1 => IntWalk.i64_in _ ⟨by omega, by omega⟩) _ _ (by simpa using hx) (by simpa using hm)).2
theorem and31 (x : Nat) (hx : x < 256) : bits BinOp.and IntKind.i64 (x : Int) 31 = ((x % 32 : Nat) : Int) := by
  have h := and_i64 x 31 (by omega) (by omega)
  rw [show x &&& 31 = x % 32 from Nat.and_two_pow_sub_one_eq_mod x 5] at h
  exact h
theorem and15 (x : Nat) (hx : x < 256) : bits BinOp.and IntKind.i64 (x : Int) 15 = ((x % 16 : Nat) : Int) := by
  have h := and_i64 x 15 (by omega) (by omega)
  rw [show x &&& 15 = x % 16 from Nat.and_two_pow_sub_one_eq_mod x 4] at h
  exact h
theorem and7 (x : Nat) (hx : x < 256) : bits BinOp.and IntKind.i64 (x : Int) 7 = ((x % 8 : Nat) : Int) := by
  have h := and_i64 x 7 (by omega) (by omega)
  rw [show x &&& 7 = x % 8 from Nat.and_two_pow_sub_one_eq_mod x 3] at h
  exact h
theorem and63 (b : UInt8) : bits BinOp.and IntKind.u8 (b.toNat : Int) 63 = ((b.toNat % 64 : Nat) : Int) := by
  have h := and_u8 b 63
  rw [UInt8.toNat_and, show (63 : UInt8).toNat = 63 from rfl, show b.toNat &&& 63 = b.toNat % 64 from Nat.and_two_pow_sub_one_eq_mod b.toNat 6] at h
  exact h
theorem cont_bits (b : UInt8) : (bits BinOp.and IntKind.u8 (b.toNat : Int) 192 != 128) = !contB b := by
  have h := and_u8 b 192
  have hk : ∀ y : Fin 256, ((y.val &&& 192) != 128) = !decide (128 ≤ y.val ∧ y.val < 192) := by decide +kernel
  have h2 := hk ⟨b.toNat, b.toNat_lt⟩
  have h192 : ((192 : UInt8).toNat : Int) = 192 := rfl
  rw [h192] at h
  rw [h, UInt8.toNat_and]
  unfold contB
  rw [← h2]
  rw [Bool.eq_iff_iff]
  simp
  omega
theorem or_tail (c y : Nat) (hc : c < 16777216) (hy : y < 64) : bits BinOp.or IntKind.i64 ((c : Int) * 64) (y : Int) = ((c * 64 + y : Nat) : Int) := by
  have e : ((c : Int) * 64) = ((c * 64 : Nat) : Int) := by omega
  rw [e, or_i64 _ _ (by omega) (by omega)]
  congr 1
  have := Nat.two_pow_add_eq_or_of_lt (i := 6) (b := y) (by omega) c
  rw [show c * 64 = 2 ^ 6 * c from by omega, this]
theorem pow64 (k : Nat) (hk : k ≤ 4) : 64 ^ k ≤ 16777216 := by
  have := Nat.pow_le_pow_right (n := 64) (by decide) hk
  have e : (64 : Nat) ^ 4 = 16777216 := by decide
  omega

set_option maxRecDepth 100000 in
set_option maxHeartbeats 4000000 in
theorem ref_chr_any (s : ByteArray) (i : Nat) (w : World) (hs : s.size ≤ 140737488355328) (hi : i < s.size) :
    Calls Tryz.prog 75 #[.string s, .int .i64 (i : Int)] w fun e w' => (∃ c : Int, e = .returned (.tuple #[.int .i64 c, .int .i64 (sizeB (s.data.toList.drop i) : Int)])) ∧ w = w' := by
  obtain ⟨x, hsx⟩ : ∃ x, s[i] = x := ⟨_, rfl⟩
  have hd := drop_at s i hi
  rw [hsx] at hd
  have hx : x.toNat < 256 := x.toNat_lt
  have hxI : (x.toNat : Int) < 256 := by omega
  have hcs : x.toNat < 128 ∨ (128 ≤ x.toNat ∧ x.toNat < 192) ∨ (192 ≤ x.toNat ∧ x.toNat < 224) ∨ (224 ≤ x.toNat ∧ x.toNat < 240) ∨ (240 ≤ x.toNat ∧ x.toNat < 248) ∨ 248 ≤ x.toNat := by omega
  obtain ⟨R, hR⟩ : ∃ R, R = s.data.toList.drop (i + 1) := ⟨_, rfl⟩
  have hRl : R.length = s.size - (i + 1) := by rw [hR, List.length_drop]; rfl
  rw [← hR] at hd
  have hRat : ∀ k, (h : i + k < s.size) → 1 ≤ k → R.drop (k - 1) = s[i + k] :: R.drop k := fun k h h1 => by
    rw [hR, List.drop_drop, List.drop_drop, show i + 1 + (k - 1) = i + k from by omega, drop_at s (i + k) h, show i + 1 + k = i + k + 1 from by omega]
  have HD := Lib.hid hd; have HRL := Lib.hid hRl; have HRAT := Lib.hid hRat
  clear hd hR hRl hRat
  rcases hcs with h | ⟨h, h'⟩ | ⟨h, h'⟩ | ⟨h, h'⟩ | ⟨h, h'⟩ | h
  · have hl : lead x.toNat = some (1, 0, x.toNat) := by unfold lead; rw [if_pos h]
    have hsz : sizeB (s.data.toList.drop i) = if charB x.toNat then 1 else 0 := by
      rw [HD.out, sizeB_cons, hl, sizeC_some]
      show finB (some x.toNat) 1 0 = _
      rw [finB_some, if_neg (by omega)]
    have hI : (x.toNat : Int) < 128 := by omega
    cases hc : charB x.toNat with
    | true =>
      rw [hc] at hsz
      have HS := Lib.hid hsz; have HC := Lib.hid hc
      clear hsz hc hl h
      go_enter Tryz.func75, Tryz.ntmps75
      go_wp2
      go_loop [6, 9] (fun c k => c = .int .i64 (x.toNat : Int) ∧ k = .int .i64 1) (fun _ _ => 0)
      case atStart => exact ⟨rfl, rfl⟩
      case round =>
        obtain ⟨rfl, rfl⟩ := hrel
        go_wp2_with (go_at_call 92; refine (ref_char_any _ _).mono ?_; rw [HC.out]; rintro e w' ⟨rfl, rfl⟩)
        go_ret2
        exact ⟨⟨_, by rw [HS.out]; rfl⟩, rfl⟩
    | false =>
      rw [hc] at hsz
      have HS := Lib.hid hsz; have HC := Lib.hid hc
      clear hsz hc hl h
      go_enter Tryz.func75, Tryz.ntmps75
      go_wp2
      go_loop [6, 9] (fun c k => c = .int .i64 (x.toNat : Int) ∧ k = .int .i64 1) (fun _ _ => 0)
      case atStart => exact ⟨rfl, rfl⟩
      case round =>
        obtain ⟨rfl, rfl⟩ := hrel
        go_wp2_with (go_at_call 92; refine (ref_char_any _ _).mono ?_; rw [HC.out]; rintro e w' ⟨rfl, rfl⟩)
        go_ret2
        exact ⟨⟨_, by rw [HS.out]; rfl⟩, rfl⟩
  · have hl : lead x.toNat = none := by unfold lead; rw [if_neg (by omega), if_neg (by omega), if_neg (by omega), if_neg (by omega)]
    have hsz : sizeB (s.data.toList.drop i) = 0 := by rw [HD.out]; exact size_none hl
    have hI1 : 128 ≤ (x.toNat : Int) := by omega
    have hI2 : (x.toNat : Int) < 192 := by omega
    have HS := Lib.hid hsz
    clear hsz hl
    go_enter Tryz.func75, Tryz.ntmps75
    go_wp2
    go_ret2
    exact ⟨⟨_, by rw [HS.out]; rfl⟩, rfl⟩
  · have hl : lead x.toNat = some (2, 128, x.toNat % 32) := by unfold lead; rw [if_neg (by omega), if_pos (by omega)]
    have hsz : sizeB (s.data.toList.drop i) = finB (tlB (2 - 1) R (x.toNat % 32)) 2 128 := by rw [HD.out, sizeB_cons, hl, sizeC_some]
    have hI1 : 192 ≤ (x.toNat : Int) := by omega
    have hI2 : (x.toNat : Int) < 224 := by omega
    have hand := and31 x.toNat hx
    have hm : x.toNat % 32 < 64 := by omega
    generalize x.toNat % 32 = m at *
    have HS := Lib.hid hsz
    clear hsz hl h h'
    rcases Nat.lt_or_ge s.size (i + 2) with hlen | hlen
    · have hz : finB (tlB (2 - 1) R m) 2 128 = 0 := by
        cases ht : tlB (2 - 1) R m with
        | none => rfl
        | some v => have := tlB_len _ _ _ _ ht; have := HRL.out; omega
      have HZ := Lib.hid hz
      clear hz
      go_enter Tryz.func75, Tryz.ntmps75
      go_wp2
      go_ret2
      exact ⟨⟨_, by rw [HS.out, HZ.out]; rfl⟩, rfl⟩
    · go_enter Tryz.func75, Tryz.ntmps75
      go_wp2
      go_loop [6, 9] (fun cv kv => ∃ k c : Nat, 1 ≤ k ∧ k ≤ 2 ∧ kv = .int .i64 (k : Int) ∧ cv = .int .i64 (c : Int) ∧ c < 64 ^ k ∧ tlB (2 - 1) R m = tlB (2 - k) (R.drop (k - 1)) c) (fun _ kv => 2 - (intOf kv).toNat)
      case atStart => exact ⟨1, m, by omega, by omega, rfl, rfl, by simpa using hm, by simp⟩
      case round =>
        obtain ⟨k, c, hk1, hk2, rfl, rfl, hc, htl⟩ := hrel
        have hp := pow64 k (by omega)
        have hc2 : c < 16777216 := by omega
        have hp2 : (64 : Nat) ^ (k + 1) = 64 * 64 ^ k := by rw [Nat.pow_succ, Nat.mul_comm]
        have HC := Lib.hid hc; have HP2 := Lib.hid hp2
        clear hc hp hp2
        rcases Nat.lt_or_ge k 2 with hlt | hge
        · have hik : i + k < s.size := by omega
          have hra := HRAT.out k hik hk1
          obtain ⟨b, hb⟩ : ∃ b, s[i + k] = b := ⟨_, rfl⟩
          rw [hb] at hra
          have hcb := cont_bits b
          have hst : tlB (2 - k) (R.drop (k - 1)) c = if contB b then tlB (2 - (k + 1)) (R.drop k) (c * 64 + b.toNat % 64) else none := by
            rw [hra, show 2 - k = (2 - (k + 1)) + 1 from by omega, tlB]
          have hbn : b.toNat < 256 := b.toNat_lt
          cases hcn : contB b with
          | false =>
            rw [hcn] at hcb hst
            have hz : finB (tlB (2 - 1) R m) 2 128 = 0 := by rw [htl, hst]; rfl
            have HZ := Lib.hid hz
            clear hz hst htl hra hcn
            go_wp2
            go_ret2
            exact ⟨⟨_, by rw [HS.out, HZ.out]; rfl⟩, rfl⟩
          | true =>
            rw [hcn, if_pos rfl] at hst
            rw [hcn] at hcb
            have h63 := and63 b
            have hor := or_tail c (b.toNat % 64) hc2 (by omega)
            have hb64 : b.toNat % 64 < 64 := by omega
            generalize b.toNat % 64 = y at *
            have hwr : IntKind.i64.wrap ((c : Int) * 64) = (c : Int) * 64 := IntWalk.i64_in _ ⟨by omega, by omega⟩
            have ht2 : tlB (2 - 1) R m = tlB (2 - (k + 1)) (R.drop k) (c * 64 + y) := by rw [htl, hst]
            have HT := Lib.hid ht2
            clear hst htl hra hcn ht2
            go_wp2
            go_round
            case rel => exact ⟨k + 1, c * 64 + y, by omega, by omega, by go_num, by first | rfl | (congr 1; omega), by rw [HP2.out]; have := HC.out; omega, HT.out⟩
            case measure => simp [intOf]; omega
        · obtain rfl : k = 2 := by omega
          have hv : tlB (2 - 1) R m = some c := by rw [htl]; rfl
          have HV := Lib.hid hv
          clear hv htl
          by_cases hle : c < 128
          · have hz : finB (tlB (2 - 1) R m) 2 128 = 0 := by rw [HV.out, finB_some, if_pos hle]
            have HZ := Lib.hid hz
            have hleI : (c : Int) < 128 := by omega
            clear hz hle
            go_wp2
            go_ret2
            exact ⟨⟨_, by rw [HS.out, HZ.out]; rfl⟩, rfl⟩
          · cases hcc : charB c with
            | true =>
              have hz : finB (tlB (2 - 1) R m) 2 128 = 2 := by rw [HV.out, finB_some, if_neg hle, hcc, if_pos rfl]
              have HZ := Lib.hid hz; have HC2 := Lib.hid hcc
              have hleI : ¬ (c : Int) < 128 := by omega
              clear hz hcc hle
              go_wp2_with (go_at_call 92; refine (ref_char_any _ _).mono ?_; rw [HC2.out]; rintro e w' ⟨rfl, rfl⟩)
              go_ret2
              exact ⟨⟨_, by rw [HS.out, HZ.out]; rfl⟩, rfl⟩
            | false =>
              have hz : finB (tlB (2 - 1) R m) 2 128 = 0 := by rw [HV.out, finB_some, if_neg hle, hcc]; rfl
              have HZ := Lib.hid hz; have HC2 := Lib.hid hcc
              have hleI : ¬ (c : Int) < 128 := by omega
              clear hz hcc hle
              go_wp2_with (go_at_call 92; refine (ref_char_any _ _).mono ?_; rw [HC2.out]; rintro e w' ⟨rfl, rfl⟩)
              go_ret2
              exact ⟨⟨_, by rw [HS.out, HZ.out]; rfl⟩, rfl⟩
  · have hl : lead x.toNat = some (3, 2048, x.toNat % 16) := by unfold lead; rw [if_neg (by omega), if_neg (by omega), if_pos (by omega)]
    have hsz : sizeB (s.data.toList.drop i) = finB (tlB (3 - 1) R (x.toNat % 16)) 3 2048 := by rw [HD.out, sizeB_cons, hl, sizeC_some]
    have hI1 : 224 ≤ (x.toNat : Int) := by omega
    have hI2 : (x.toNat : Int) < 240 := by omega
    have hand := and15 x.toNat hx
    have hm : x.toNat % 16 < 64 := by omega
    generalize x.toNat % 16 = m at *
    have HS := Lib.hid hsz
    clear hsz hl h h'
    rcases Nat.lt_or_ge s.size (i + 3) with hlen | hlen
    · have hz : finB (tlB (3 - 1) R m) 3 2048 = 0 := by
        cases ht : tlB (3 - 1) R m with
        | none => rfl
        | some v => have := tlB_len _ _ _ _ ht; have := HRL.out; omega
      have HZ := Lib.hid hz
      clear hz
      go_enter Tryz.func75, Tryz.ntmps75
      go_wp2
      go_ret2
      exact ⟨⟨_, by rw [HS.out, HZ.out]; rfl⟩, rfl⟩
    · go_enter Tryz.func75, Tryz.ntmps75
      go_wp2
      go_loop [6, 9] (fun cv kv => ∃ k c : Nat, 1 ≤ k ∧ k ≤ 3 ∧ kv = .int .i64 (k : Int) ∧ cv = .int .i64 (c : Int) ∧ c < 64 ^ k ∧ tlB (3 - 1) R m = tlB (3 - k) (R.drop (k - 1)) c) (fun _ kv => 3 - (intOf kv).toNat)
      case atStart => exact ⟨1, m, by omega, by omega, rfl, rfl, by simpa using hm, by simp⟩
      case round =>
        obtain ⟨k, c, hk1, hk2, rfl, rfl, hc, htl⟩ := hrel
        have hp := pow64 k (by omega)
        have hc2 : c < 16777216 := by omega
        have hp2 : (64 : Nat) ^ (k + 1) = 64 * 64 ^ k := by rw [Nat.pow_succ, Nat.mul_comm]
        have HC := Lib.hid hc; have HP2 := Lib.hid hp2
        clear hc hp hp2
        rcases Nat.lt_or_ge k 3 with hlt | hge
        · have hik : i + k < s.size := by omega
          have hra := HRAT.out k hik hk1
          obtain ⟨b, hb⟩ : ∃ b, s[i + k] = b := ⟨_, rfl⟩
          rw [hb] at hra
          have hcb := cont_bits b
          have hst : tlB (3 - k) (R.drop (k - 1)) c = if contB b then tlB (3 - (k + 1)) (R.drop k) (c * 64 + b.toNat % 64) else none := by
            rw [hra, show 3 - k = (3 - (k + 1)) + 1 from by omega, tlB]
          have hbn : b.toNat < 256 := b.toNat_lt
          cases hcn : contB b with
          | false =>
            rw [hcn] at hcb hst
            have hz : finB (tlB (3 - 1) R m) 3 2048 = 0 := by rw [htl, hst]; rfl
            have HZ := Lib.hid hz
            clear hz hst htl hra hcn
            go_wp2
            go_ret2
            exact ⟨⟨_, by rw [HS.out, HZ.out]; rfl⟩, rfl⟩
          | true =>
            rw [hcn, if_pos rfl] at hst
            rw [hcn] at hcb
            have h63 := and63 b
            have hor := or_tail c (b.toNat % 64) hc2 (by omega)
            have hb64 : b.toNat % 64 < 64 := by omega
            generalize b.toNat % 64 = y at *
            have hwr : IntKind.i64.wrap ((c : Int) * 64) = (c : Int) * 64 := IntWalk.i64_in _ ⟨by omega, by omega⟩
            have ht2 : tlB (3 - 1) R m = tlB (3 - (k + 1)) (R.drop k) (c * 64 + y) := by rw [htl, hst]
            have HT := Lib.hid ht2
            clear hst htl hra hcn ht2
            go_wp2
            go_round
            case rel => exact ⟨k + 1, c * 64 + y, by omega, by omega, by go_num, by first | rfl | (congr 1; omega), by rw [HP2.out]; have := HC.out; omega, HT.out⟩
            case measure => simp [intOf]; omega
        · obtain rfl : k = 3 := by omega
          have hv : tlB (3 - 1) R m = some c := by rw [htl]; rfl
          have HV := Lib.hid hv
          clear hv htl
          by_cases hle : c < 2048
          · have hz : finB (tlB (3 - 1) R m) 3 2048 = 0 := by rw [HV.out, finB_some, if_pos hle]
            have HZ := Lib.hid hz
            have hleI : (c : Int) < 2048 := by omega
            clear hz hle
            go_wp2
            go_ret2
            exact ⟨⟨_, by rw [HS.out, HZ.out]; rfl⟩, rfl⟩
          · cases hcc : charB c with
            | true =>
              have hz : finB (tlB (3 - 1) R m) 3 2048 = 3 := by rw [HV.out, finB_some, if_neg hle, hcc, if_pos rfl]
              have HZ := Lib.hid hz; have HC2 := Lib.hid hcc
              have hleI : ¬ (c : Int) < 2048 := by omega
              clear hz hcc hle
              go_wp2_with (go_at_call 92; refine (ref_char_any _ _).mono ?_; rw [HC2.out]; rintro e w' ⟨rfl, rfl⟩)
              go_ret2
              exact ⟨⟨_, by rw [HS.out, HZ.out]; rfl⟩, rfl⟩
            | false =>
              have hz : finB (tlB (3 - 1) R m) 3 2048 = 0 := by rw [HV.out, finB_some, if_neg hle, hcc]; rfl
              have HZ := Lib.hid hz; have HC2 := Lib.hid hcc
              have hleI : ¬ (c : Int) < 2048 := by omega
              clear hz hcc hle
              go_wp2_with (go_at_call 92; refine (ref_char_any _ _).mono ?_; rw [HC2.out]; rintro e w' ⟨rfl, rfl⟩)
              go_ret2
              exact ⟨⟨_, by rw [HS.out, HZ.out]; rfl⟩, rfl⟩
  · have hl : lead x.toNat = some (4, 65536, x.toNat % 8) := by unfold lead; rw [if_neg (by omega), if_neg (by omega), if_neg (by omega), if_pos (by omega)]
    have hsz : sizeB (s.data.toList.drop i) = finB (tlB (4 - 1) R (x.toNat % 8)) 4 65536 := by rw [HD.out, sizeB_cons, hl, sizeC_some]
    have hI1 : 240 ≤ (x.toNat : Int) := by omega
    have hI2 : (x.toNat : Int) < 248 := by omega
    have hand := and7 x.toNat hx
    have hm : x.toNat % 8 < 64 := by omega
    generalize x.toNat % 8 = m at *
    have HS := Lib.hid hsz
    clear hsz hl h h'
    rcases Nat.lt_or_ge s.size (i + 4) with hlen | hlen
    · have hz : finB (tlB (4 - 1) R m) 4 65536 = 0 := by
        cases ht : tlB (4 - 1) R m with
        | none => rfl
        | some v => have := tlB_len _ _ _ _ ht; have := HRL.out; omega
      have HZ := Lib.hid hz
      clear hz
      go_enter Tryz.func75, Tryz.ntmps75
      go_wp2
      go_ret2
      exact ⟨⟨_, by rw [HS.out, HZ.out]; rfl⟩, rfl⟩
    · go_enter Tryz.func75, Tryz.ntmps75
      go_wp2
      go_loop [6, 9] (fun cv kv => ∃ k c : Nat, 1 ≤ k ∧ k ≤ 4 ∧ kv = .int .i64 (k : Int) ∧ cv = .int .i64 (c : Int) ∧ c < 64 ^ k ∧ tlB (4 - 1) R m = tlB (4 - k) (R.drop (k - 1)) c) (fun _ kv => 4 - (intOf kv).toNat)
      case atStart => exact ⟨1, m, by omega, by omega, rfl, rfl, by simpa using hm, by simp⟩
      case round =>
        obtain ⟨k, c, hk1, hk2, rfl, rfl, hc, htl⟩ := hrel
        have hp := pow64 k (by omega)
        have hc2 : c < 16777216 := by omega
        have hp2 : (64 : Nat) ^ (k + 1) = 64 * 64 ^ k := by rw [Nat.pow_succ, Nat.mul_comm]
        have HC := Lib.hid hc; have HP2 := Lib.hid hp2
        clear hc hp hp2
        rcases Nat.lt_or_ge k 4 with hlt | hge
        · have hik : i + k < s.size := by omega
          have hra := HRAT.out k hik hk1
          obtain ⟨b, hb⟩ : ∃ b, s[i + k] = b := ⟨_, rfl⟩
          rw [hb] at hra
          have hcb := cont_bits b
          have hst : tlB (4 - k) (R.drop (k - 1)) c = if contB b then tlB (4 - (k + 1)) (R.drop k) (c * 64 + b.toNat % 64) else none := by
            rw [hra, show 4 - k = (4 - (k + 1)) + 1 from by omega, tlB]
          have hbn : b.toNat < 256 := b.toNat_lt
          cases hcn : contB b with
          | false =>
            rw [hcn] at hcb hst
            have hz : finB (tlB (4 - 1) R m) 4 65536 = 0 := by rw [htl, hst]; rfl
            have HZ := Lib.hid hz
            clear hz hst htl hra hcn
            go_wp2
            go_ret2
            exact ⟨⟨_, by rw [HS.out, HZ.out]; rfl⟩, rfl⟩
          | true =>
            rw [hcn, if_pos rfl] at hst
            rw [hcn] at hcb
            have h63 := and63 b
            have hor := or_tail c (b.toNat % 64) hc2 (by omega)
            have hb64 : b.toNat % 64 < 64 := by omega
            generalize b.toNat % 64 = y at *
            have hwr : IntKind.i64.wrap ((c : Int) * 64) = (c : Int) * 64 := IntWalk.i64_in _ ⟨by omega, by omega⟩
            have ht2 : tlB (4 - 1) R m = tlB (4 - (k + 1)) (R.drop k) (c * 64 + y) := by rw [htl, hst]
            have HT := Lib.hid ht2
            clear hst htl hra hcn ht2
            go_wp2
            go_round
            case rel => exact ⟨k + 1, c * 64 + y, by omega, by omega, by go_num, by first | rfl | (congr 1; omega), by rw [HP2.out]; have := HC.out; omega, HT.out⟩
            case measure => simp [intOf]; omega
        · obtain rfl : k = 4 := by omega
          have hv : tlB (4 - 1) R m = some c := by rw [htl]; rfl
          have HV := Lib.hid hv
          clear hv htl
          by_cases hle : c < 65536
          · have hz : finB (tlB (4 - 1) R m) 4 65536 = 0 := by rw [HV.out, finB_some, if_pos hle]
            have HZ := Lib.hid hz
            have hleI : (c : Int) < 65536 := by omega
            clear hz hle
            go_wp2
            go_ret2
            exact ⟨⟨_, by rw [HS.out, HZ.out]; rfl⟩, rfl⟩
          · cases hcc : charB c with
            | true =>
              have hz : finB (tlB (4 - 1) R m) 4 65536 = 4 := by rw [HV.out, finB_some, if_neg hle, hcc, if_pos rfl]
              have HZ := Lib.hid hz; have HC2 := Lib.hid hcc
              have hleI : ¬ (c : Int) < 65536 := by omega
              clear hz hcc hle
              go_wp2_with (go_at_call 92; refine (ref_char_any _ _).mono ?_; rw [HC2.out]; rintro e w' ⟨rfl, rfl⟩)
              go_ret2
              exact ⟨⟨_, by rw [HS.out, HZ.out]; rfl⟩, rfl⟩
            | false =>
              have hz : finB (tlB (4 - 1) R m) 4 65536 = 0 := by rw [HV.out, finB_some, if_neg hle, hcc]; rfl
              have HZ := Lib.hid hz; have HC2 := Lib.hid hcc
              have hleI : ¬ (c : Int) < 65536 := by omega
              clear hz hcc hle
              go_wp2_with (go_at_call 92; refine (ref_char_any _ _).mono ?_; rw [HC2.out]; rintro e w' ⟨rfl, rfl⟩)
              go_ret2
              exact ⟨⟨_, by rw [HS.out, HZ.out]; rfl⟩, rfl⟩
  · have hl : lead x.toNat = none := by unfold lead; rw [if_neg (by omega), if_neg (by omega), if_neg (by omega), if_neg (by omega)]
    have hsz : sizeB (s.data.toList.drop i) = 0 := by rw [HD.out]; exact size_none hl
    have hI1 : 248 ≤ (x.toNat : Int) := by omega
    have HS := Lib.hid hsz
    clear hsz hl
    go_enter Tryz.func75, Tryz.ntmps75
    go_wp2
    go_ret2
    exact ⟨⟨_, by rw [HS.out]; rfl⟩, rfl⟩
end Go.Proofs.YtbfodbejdaafaaaGreatDoor
