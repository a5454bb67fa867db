/- The texts TokNum, TokNum2, joined. -/
import Derived.Test.YthkjmbkfcnehoaaGreatDoorTokW
import Derived.Test.YthkjmbkfcnehoaaGreatDoorSm
import Derived.Test.YthkjmbkfcnehoaaGreatDoorProgs
import Derived.Lib.ConvBytes
import Derived.Lib.ParseIntBMem
/- What the library's strconv.ParseUint answers, at base 10 and at base 16, of at most seven signs; a character by its number. -/
namespace Go.Proofs.YthkjmbkfcnehoaaGreatDoor
open Go.RowKit
set_option linter.unusedVariables false

/-- a letter's number, as the library reads it -/
def lowN (c : UInt8) : Nat := c.toNat ||| 32
def lowB (n : Nat) : Bool := Nat.ble (n ||| 32) 255 && (if 48 ≤ n ∧ n ≤ 57 then true else
  if 97 ≤ n ||| 32 ∧ n ||| 32 ≤ 102 then ((Nat.ble 97 n && Nat.ble n 102 && Nat.beq (n ||| 32) n) || (Nat.ble 65 n && Nat.ble n 70 && Nat.beq (n ||| 32) (n + 32)))
  else !(Nat.ble 97 n && Nat.ble n 102) && !(Nat.ble 65 n && Nat.ble n 70))
theorem low_table : (List.range 256).all lowB = true := by decide +kernel
theorem low_all (n : Nat) (hn : n < 256) : (n ||| 32) < 256 ∧ (¬ (48 ≤ n ∧ n ≤ 57) → (97 ≤ n ||| 32 ∧ n ||| 32 ≤ 102 → (97 ≤ n ∧ n ≤ 102 ∧ n ||| 32 = n) ∨ (65 ≤ n ∧ n ≤ 70 ∧ n ||| 32 = n + 32)) ∧ (¬ (97 ≤ n ||| 32 ∧ n ||| 32 ≤ 102) → ¬ (97 ≤ n ∧ n ≤ 102) ∧ ¬ (65 ≤ n ∧ n ≤ 70))) := by
  have h := List.all_eq_true.1 low_table n (List.mem_range.2 hn)
  unfold lowB at h
  rw [Bool.and_eq_true] at h
  refine ⟨by have := Nat.le_of_ble_eq_true h.1; omega, fun h1 => ?_⟩
  have h2 := h.2
  rw [if_neg h1] at h2
  constructor
  · intro h3
    rw [if_pos h3] at h2
    simp only [Bool.or_eq_true, Bool.and_eq_true, Nat.ble_eq, Nat.beq_eq] at h2
    rcases h2 with ⟨⟨a, b⟩, c⟩ | ⟨⟨a, b⟩, c⟩
    · exact .inl ⟨a, b, c⟩
    · exact .inr ⟨a, b, c⟩
  · intro h3
    rw [if_neg h3] at h2
    simp only [Bool.and_eq_true, Bool.not_eq_true', Bool.and_eq_false_iff] at h2
    obtain ⟨a, b⟩ := h2
    constructor
    · rintro ⟨x, y⟩
      rcases a with a | a
      · rw [← Bool.not_eq_true, Nat.ble_eq] at a; exact a x
      · rw [← Bool.not_eq_true, Nat.ble_eq] at a; exact a y
    · rintro ⟨x, y⟩
      rcases b with a | a
      · rw [← Bool.not_eq_true, Nat.ble_eq] at a; exact a x
      · rw [← Bool.not_eq_true, Nat.ble_eq] at a; exact a y
theorem low_lt (c : UInt8) : lowN c < 256 := (low_all c.toNat c.toNat_lt).1
theorem low_bits (c : UInt8) : bits .or .u8 (c.toNat : Int) 32 = (lowN c : Int) := by
  have h := or_u8 c 32
  have e : ((32 : UInt8).toNat : Int) = 32 := rfl
  rw [e] at h
  rw [h, UInt8.toNat_or]
  rfl
theorem dig_num {c : UInt8} (h : 48 ≤ c.toNat ∧ c.toNat ≤ 57) : digV c = c.toNat - 48 := by unfold digV; rw [if_pos h]
theorem dig_low {c : UInt8} (h : ¬ (48 ≤ c.toNat ∧ c.toNat ≤ 57)) (h2 : 97 ≤ lowN c ∧ lowN c ≤ 102) : digV c = lowN c - 87 := by
  have h3 := ((low_all c.toNat c.toNat_lt).2 h).1 (by unfold lowN at h2; exact h2)
  unfold digV
  rw [if_neg h]
  unfold lowN at h2 ⊢
  rcases h3 with ⟨a, b, e⟩ | ⟨a, b, e⟩
  · rw [if_pos ⟨a, b⟩, e]
  · rw [if_neg (by omega), if_pos ⟨a, b⟩, e]; omega
theorem dig_none {c : UInt8} (h : ¬ (48 ≤ c.toNat ∧ c.toNat ≤ 57)) (h2 : ¬ (97 ≤ lowN c ∧ lowN c ≤ 102)) : digV c = 99 := by
  have k := (low_all c.toNat c.toNat_lt).2 h
  unfold lowN at h2
  have h3 := k.2 h2
  unfold digV
  rw [if_neg h, if_neg h3.1, if_neg h3.2]
theorem chrF_step {b v : Nat} {c : UInt8} {r : List UInt8} (h : digV c < b) : chrF b v (c :: r) = chrF b (v * b + digV c) r := by
  rw [chrF, if_neg (by omega)]
theorem chrF_stop {b v : Nat} {c : UInt8} {r : List UInt8} (h : b ≤ digV c) : chrF b v (c :: r) = none := by
  rw [chrF, if_pos h]
/-- what it answers -/
def parsed : Option Nat → Value
  | some v => .tuple #[.int .u64 (v : Int), .nilIface]
  | none => .tuple #[.int .u64 0, .iface 163 (.int .i64 2)]

set_option maxHeartbeats 32000000 in
set_option maxRecDepth 100000 in
theorem k_parse_10 (t : ByteArray) (hne : t.size ≠ 0) (hmax : t.size ≤ 7) (w : World) :
    Calls Tryz.prog 130 #[.string t, .int .i64 10, .int .i64 32] w fun e w' => e = .returned (parsed (chrF 10 0 t.data.toList)) ∧ Fr No w w' := by
  have hemp : t.toList.isEmpty = false := by
    rw [← decide_eq_emptyBytes]
    exact decide_eq_false (fun h => hne (by rw [h]; rfl))
  have hemq : (t.toList == []) = false := by
    rw [ba_list, beq_eq_false_iff_ne]
    intro h
    exact hne (by rw [sz_eq h]; rfl)
  have hcv := Lib.run_convert_string_bytes (P := Tryz.prog) w 9 64 5 t (u := .string) Tryz.underlying9 Tryz.underlying64 Tryz.underlying5
  have hB : ∀ j, j < t.size → (Lib.bytesWorld w 5 t).cell? ⟨w.heap.size, j, none⟩ = some (.int .u8 (t.data.toList.getD j 0).toNat) := fun j hj => Lib.bytesWorld_cell w 5 t j hj
  have hF1 : Fr No w (Lib.bytesWorld w 5 t) := Fr.of_below (Lib.bytesWorld_below _ _ _)
  obtain ⟨W1, hW1⟩ : ∃ W1, W1 = Lib.bytesWorld w 5 t := ⟨_, rfl⟩
  rw [← hW1] at hcv hB hF1
  clear hW1
  obtain ⟨bs, hL⟩ : ∃ bs, bs = t.data.toList := ⟨_, rfl⟩
  have hLn : bs.length = t.size := by rw [hL, size_list]
  rw [← hL] at hB ⊢
  clear hL
  have hmv : IntKind.u64.wrap (IntKind.u64.wrap 4294967296 - 1) = 4294967295 := by
    rw [IntKind.wrap_u64, IntKind.wrap_u64]
    decide
  generalize hres : chrF 10 0 bs = res
  have HRES := Lib.hid hres
  clear hres
  go_enter Tryz.func130, Tryz.ntmps130
  go_wp2
  go_loop [12, 13, 101] (fun vu vn vi => ∃ (k acc : Nat) (a : Int), vu = .bool false ∧ vn = .int .u64 a ∧ vi = .int .i64 k ∧ k ≤ t.size ∧ Hid (a = (acc : Int) ∧ acc < 16 ^ k ∧ res = chrF 10 acc (bs.drop k)))
    (fun _ _ vi => t.size - (intOf vi).toNat)
  case atStart => exact ⟨0, 0, 0, rfl, rfl, rfl, by omega, rfl, by decide, HRES.out.symm⟩
  case round =>
    obtain ⟨k, acc, a, rfl, rfl, rfl, hk, hh⟩ := hrel
    obtain ⟨ha, hacc, hdec⟩ := hh.out
    clear hh
    have hp7 : acc ≤ 268435455 := by
      have := Nat.pow_le_pow_right (show 0 < 16 by decide) (show k ≤ 7 by omega)
      have : 16 ^ 7 = 268435456 := by decide
      omega
    by_cases hkn : k < t.size
    · have hp6 : acc ≤ 16777215 := by
        have := Nat.pow_le_pow_right (show 0 < 16 by decide) (show k ≤ 6 by omega)
        have : 16 ^ 6 = 16777216 := by decide
        omega
      have a0 : 0 ≤ a := by omega
      have a1 : a ≤ 16777215 := by omega
      have hc := hB k hkn
      have hdrop : bs.drop k = bs[k]'(by omega) :: bs.drop (k + 1) := List.drop_eq_getElem_cons (by omega)
      have hget : bs.getD k 0 = bs[k]'(by omega) := by simp [List.getD, List.getElem?_eq_getElem (show k < bs.length by omega)]
      rw [hdrop] at hdec
      rw [hget] at hc
      generalize bs[k]'(by omega) = c at hc hdec
      have hc256 : c.toNat < 256 := c.toNat_lt
      have hq256 := low_lt c
      have hbits := low_bits c
      clear hB hdrop hget hp7 hp6
      have hpow : 16 ^ (k + 1) = 16 ^ k * 16 := Nat.pow_succ ..
      by_cases h95 : (c.toNat : Int) = 95
      · have hlo : lowN c = 127 := by unfold lowN; rw [show c.toNat = 95 by omega]; decide
        have hstop : 10 ≤ digV c := by rw [dig_none (by omega) (by omega)]; omega
        rw [chrF_stop hstop] at hdec
        have h127 : bits .or .u8 95 32 = 127 := by decide
        have HD := Lib.hid hdec
        rw [h95] at hc
        clear hpow hacc ha hstop hdec hbits hlo hq256 h95 hc256
        go_wp2_with (go_at_call 133; refine (Tryz.internal_strconv_lower _ _).mono ?_; rw [h127]; rintro e w' ⟨rfl, rfl⟩)
        all_goals go_ret2
        all_goals exact ⟨by rw [HD.out]; rfl, hF1⟩
      by_cases hdig : 48 ≤ c.toNat ∧ c.toNat ≤ 57
      · obtain ⟨hd0, hd1⟩ := hdig
        have hdv := dig_num ⟨hd0, hd1⟩
        by_cases hbase : digV c < 10
        · rw [chrF_step hbase, hdv] at hdec
          rw [hdv] at hbase
          have HN : Hid (a * 10 + ((c.toNat : Int) - 48) = ((acc * 10 + (c.toNat - 48) : Nat) : Int) ∧ acc * 10 + (c.toNat - 48) < 16 ^ (k + 1) ∧ res = chrF 10 (acc * 10 + (c.toNat - 48)) (bs.drop (k + 1))) := Lib.hid ⟨by omega, by omega, hdec⟩
          clear hpow hacc hdec ha hdv hbits hq256 hbase
          go_wp2
          refine ⟨⟨k + 1, acc * 10 + (c.toNat - 48), a * 10 + ((c.toNat : Int) - 48), rfl, (by first | rfl | (congr 1; omega)), (by first | rfl | (congr 1; omega)), by omega, HN⟩, by simp [intOf]; omega⟩
        · exact absurd (show digV c < 10 by omega) hbase
      · by_cases hlet : 97 ≤ lowN c ∧ lowN c ≤ 122
        · obtain ⟨hl0, hl1⟩ := hlet
          by_cases hbase : lowN c < 87 + 10
          · omega
          · have hstop : 10 ≤ digV c := by
              by_cases h6 : lowN c ≤ 102
              · rw [dig_low hdig ⟨hl0, h6⟩]; omega
              · rw [dig_none hdig (by omega)]; omega
            rw [chrF_stop hstop] at hdec
            generalize lowN c = q at hbits hl0 hl1 hbase hq256
            have HD := Lib.hid hdec
            clear hpow hacc ha hstop hdec
            go_wp2_with (go_at_call 133; refine (Tryz.internal_strconv_lower _ _).mono ?_; rw [hbits]; rintro e w' ⟨rfl, rfl⟩)
            all_goals go_ret2
            all_goals exact ⟨by rw [HD.out]; rfl, hF1⟩
        · have hstop : 10 ≤ digV c := by rw [dig_none hdig (by omega)]; omega
          rw [chrF_stop hstop] at hdec
          generalize lowN c = q at hbits hlet hq256
          have HD := Lib.hid hdec
          clear hpow hacc ha hstop hdec
          go_wp2_with (go_at_call 133; refine (Tryz.internal_strconv_lower _ _).mono ?_; rw [hbits]; rintro e w' ⟨rfl, rfl⟩)
          all_goals go_ret2
          all_goals exact ⟨by rw [HD.out]; rfl, hF1⟩
    · have hkk : k = t.size := by omega
      subst hkk
      have hF : chrF 10 acc (bs.drop t.size) = some acc := by rw [List.drop_eq_nil_of_le (by omega)]; rfl
      rw [hF] at hdec
      subst ha
      have hp7I : (acc : Int) ≤ 268435455 := by omega
      have HD := Lib.hid hdec
      clear hacc hF hp7 hdec
      go_wp2
      go_ret2
      exact ⟨by rw [HD.out]; rfl, hF1⟩

set_option maxHeartbeats 32000000 in
set_option maxRecDepth 100000 in
theorem k_parse_16 (t : ByteArray) (hne : t.size ≠ 0) (hmax : t.size ≤ 7) (w : World) :
    Calls Tryz.prog 130 #[.string t, .int .i64 16, .int .i64 32] w fun e w' => e = .returned (parsed (chrF 16 0 t.data.toList)) ∧ Fr No w w' := by
  have hemp : t.toList.isEmpty = false := by
    rw [← decide_eq_emptyBytes]
    exact decide_eq_false (fun h => hne (by rw [h]; rfl))
  have hemq : (t.toList == []) = false := by
    rw [ba_list, beq_eq_false_iff_ne]
    intro h
    exact hne (by rw [sz_eq h]; rfl)
  have hcv := Lib.run_convert_string_bytes (P := Tryz.prog) w 9 64 5 t (u := .string) Tryz.underlying9 Tryz.underlying64 Tryz.underlying5
  have hB : ∀ j, j < t.size → (Lib.bytesWorld w 5 t).cell? ⟨w.heap.size, j, none⟩ = some (.int .u8 (t.data.toList.getD j 0).toNat) := fun j hj => Lib.bytesWorld_cell w 5 t j hj
  have hF1 : Fr No w (Lib.bytesWorld w 5 t) := Fr.of_below (Lib.bytesWorld_below _ _ _)
  obtain ⟨W1, hW1⟩ : ∃ W1, W1 = Lib.bytesWorld w 5 t := ⟨_, rfl⟩
  rw [← hW1] at hcv hB hF1
  clear hW1
  obtain ⟨bs, hL⟩ : ∃ bs, bs = t.data.toList := ⟨_, rfl⟩
  have hLn : bs.length = t.size := by rw [hL, size_list]
  rw [← hL] at hB ⊢
  clear hL
  have hmv : IntKind.u64.wrap (IntKind.u64.wrap 4294967296 - 1) = 4294967295 := by
    rw [IntKind.wrap_u64, IntKind.wrap_u64]
    decide
  generalize hres : chrF 16 0 bs = res
  have HRES := Lib.hid hres
  clear hres
  go_enter Tryz.func130, Tryz.ntmps130
  go_wp2
  go_loop [12, 13, 101] (fun vu vn vi => ∃ (k acc : Nat) (a : Int), vu = .bool false ∧ vn = .int .u64 a ∧ vi = .int .i64 k ∧ k ≤ t.size ∧ Hid (a = (acc : Int) ∧ acc < 16 ^ k ∧ res = chrF 16 acc (bs.drop k)))
    (fun _ _ vi => t.size - (intOf vi).toNat)
  case atStart => exact ⟨0, 0, 0, rfl, rfl, rfl, by omega, rfl, by decide, HRES.out.symm⟩
  case round =>
    obtain ⟨k, acc, a, rfl, rfl, rfl, hk, hh⟩ := hrel
    obtain ⟨ha, hacc, hdec⟩ := hh.out
    clear hh
    have hp7 : acc ≤ 268435455 := by
      have := Nat.pow_le_pow_right (show 0 < 16 by decide) (show k ≤ 7 by omega)
      have : 16 ^ 7 = 268435456 := by decide
      omega
    by_cases hkn : k < t.size
    · have hp6 : acc ≤ 16777215 := by
        have := Nat.pow_le_pow_right (show 0 < 16 by decide) (show k ≤ 6 by omega)
        have : 16 ^ 6 = 16777216 := by decide
        omega
      have a0 : 0 ≤ a := by omega
      have a1 : a ≤ 16777215 := by omega
      have hc := hB k hkn
      have hdrop : bs.drop k = bs[k]'(by omega) :: bs.drop (k + 1) := List.drop_eq_getElem_cons (by omega)
      have hget : bs.getD k 0 = bs[k]'(by omega) := by simp [List.getD, List.getElem?_eq_getElem (show k < bs.length by omega)]
      rw [hdrop] at hdec
      rw [hget] at hc
      generalize bs[k]'(by omega) = c at hc hdec
      have hc256 : c.toNat < 256 := c.toNat_lt
      have hq256 := low_lt c
      have hbits := low_bits c
      clear hB hdrop hget hp7 hp6
      have hpow : 16 ^ (k + 1) = 16 ^ k * 16 := Nat.pow_succ ..
      by_cases h95 : (c.toNat : Int) = 95
      · have hlo : lowN c = 127 := by unfold lowN; rw [show c.toNat = 95 by omega]; decide
        have hstop : 16 ≤ digV c := by rw [dig_none (by omega) (by omega)]; omega
        rw [chrF_stop hstop] at hdec
        have h127 : bits .or .u8 95 32 = 127 := by decide
        have HD := Lib.hid hdec
        rw [h95] at hc
        clear hpow hacc ha hstop hdec hbits hlo hq256 h95 hc256
        go_wp2_with (go_at_call 133; refine (Tryz.internal_strconv_lower _ _).mono ?_; rw [h127]; rintro e w' ⟨rfl, rfl⟩)
        all_goals go_ret2
        all_goals exact ⟨by rw [HD.out]; rfl, hF1⟩
      by_cases hdig : 48 ≤ c.toNat ∧ c.toNat ≤ 57
      · obtain ⟨hd0, hd1⟩ := hdig
        have hdv := dig_num ⟨hd0, hd1⟩
        by_cases hbase : digV c < 16
        · rw [chrF_step hbase, hdv] at hdec
          rw [hdv] at hbase
          have HN : Hid (a * 16 + ((c.toNat : Int) - 48) = ((acc * 16 + (c.toNat - 48) : Nat) : Int) ∧ acc * 16 + (c.toNat - 48) < 16 ^ (k + 1) ∧ res = chrF 16 (acc * 16 + (c.toNat - 48)) (bs.drop (k + 1))) := Lib.hid ⟨by omega, by omega, hdec⟩
          clear hpow hacc hdec ha hdv hbits hq256 hbase
          go_wp2
          refine ⟨⟨k + 1, acc * 16 + (c.toNat - 48), a * 16 + ((c.toNat : Int) - 48), rfl, (by first | rfl | (congr 1; omega)), (by first | rfl | (congr 1; omega)), by omega, HN⟩, by simp [intOf]; omega⟩
        · exact absurd (show digV c < 16 by omega) hbase
      · by_cases hlet : 97 ≤ lowN c ∧ lowN c ≤ 122
        · obtain ⟨hl0, hl1⟩ := hlet
          by_cases hbase : lowN c < 87 + 16
          · have hdv := dig_low hdig ⟨hl0, by omega⟩
            have hlt : digV c < 16 := by omega
            rw [chrF_step hlt, hdv] at hdec
            generalize lowN c = q at hbits hl0 hl1 hbase hq256 hdv hdec hlt
            have HN : Hid (a * 16 + ((q : Int) - 87) = ((acc * 16 + (q - 87) : Nat) : Int) ∧ acc * 16 + (q - 87) < 16 ^ (k + 1) ∧ res = chrF 16 (acc * 16 + (q - 87)) (bs.drop (k + 1))) := Lib.hid ⟨by omega, by omega, hdec⟩
            clear hpow hacc hdec ha hdv hlt
            go_wp2_with (go_at_call 133; refine (Tryz.internal_strconv_lower _ _).mono ?_; rw [hbits]; rintro e w' ⟨rfl, rfl⟩)
            all_goals refine ⟨⟨k + 1, acc * 16 + (q - 87), a * 16 + ((q : Int) - 87), rfl, (by first | rfl | (congr 1; omega)), (by first | rfl | (congr 1; omega)), by omega, HN⟩, by simp [intOf]; omega⟩
          · have hstop : 16 ≤ digV c := by
              by_cases h6 : lowN c ≤ 102
              · rw [dig_low hdig ⟨hl0, h6⟩]; omega
              · rw [dig_none hdig (by omega)]; omega
            rw [chrF_stop hstop] at hdec
            generalize lowN c = q at hbits hl0 hl1 hbase hq256
            have HD := Lib.hid hdec
            clear hpow hacc ha hstop hdec
            go_wp2_with (go_at_call 133; refine (Tryz.internal_strconv_lower _ _).mono ?_; rw [hbits]; rintro e w' ⟨rfl, rfl⟩)
            all_goals go_ret2
            all_goals exact ⟨by rw [HD.out]; rfl, hF1⟩
        · have hstop : 16 ≤ digV c := by rw [dig_none hdig (by omega)]; omega
          rw [chrF_stop hstop] at hdec
          generalize lowN c = q at hbits hlet hq256
          have HD := Lib.hid hdec
          clear hpow hacc ha hstop hdec
          go_wp2_with (go_at_call 133; refine (Tryz.internal_strconv_lower _ _).mono ?_; rw [hbits]; rintro e w' ⟨rfl, rfl⟩)
          all_goals go_ret2
          all_goals exact ⟨by rw [HD.out]; rfl, hF1⟩
    · have hkk : k = t.size := by omega
      subst hkk
      have hF : chrF 16 acc (bs.drop t.size) = some acc := by rw [List.drop_eq_nil_of_le (by omega)]; rfl
      rw [hF] at hdec
      subst ha
      have hp7I : (acc : Int) ≤ 268435455 := by omega
      have HD := Lib.hid hdec
      clear hacc hF hp7 hdec
      go_wp2
      go_ret2
      exact ⟨by rw [HD.out]; rfl, hF1⟩
end Go.Proofs.YthkjmbkfcnehoaaGreatDoor
/- What package token does: a character by its number, or by its name. -/
namespace Go.Proofs.YthkjmbkfcnehoaaGreatDoor
open Go.RowKit
set_option maxHeartbeats 400000
set_option linter.unusedVariables false

set_option maxRecDepth 20000 in
theorem k_parse_none (b : Int) (w : World) :
    Calls Tryz.prog 130 #[.string ⟨#[]⟩, .int .i64 b, .int .i64 32] w fun e w' => e = .returned (parsed none) ∧ Fr No w w' := by
  go_enter Tryz.func130, Tryz.ntmps130
  go_wp2
  go_ret2
  exact ⟨rfl, Fr.refl _ _⟩
theorem k_parse (s : ByteArray) (b : Nat) (hb : b = 10 ∨ b = 16) (hs : s.size ≤ 7) (w : World) :
    Calls Tryz.prog 130 #[.string s, .int .i64 (b : Int), .int .i64 32] w fun e w' => e = .returned (parsed (if s.data.toList = [] then none else chrF b 0 s.data.toList)) ∧ Fr No w w' := by
  by_cases h0 : s.data.toList = []
  · rw [if_pos h0, str_empty h0]
    exact k_parse_none _ w
  · rw [if_neg h0]
    have hne : s.size ≠ 0 := fun e => h0 (List.eq_nil_of_length_eq_zero (by rw [size_list]; exact e))
    rcases hb with rfl | rfl
    · exact k_parse_10 s hne hs w
    · exact k_parse_16 s hne hs w
theorem k_pub_ok (s : ByteArray) (b : Int) (v : Nat) (hi : ∀ u, Calls Tryz.prog 130 #[.string s, .int .i64 b, .int .i64 32] u fun e w' => e = .returned (parsed (some v)) ∧ Fr No u w') (w : World) :
    Calls Tryz.prog 127 #[.string s, .int .i64 b, .int .i64 32] w fun e w' => e = .returned (.tuple #[.int .u64 (v : Int), .nilIface]) ∧ Fr No w w' := by
  unfold parsed at hi
  have HI := Lib.hid hi
  clear hi
  go_enter Tryz.func127, Tryz.ntmps127
  go_wp2_with (go_at_call 130; refine (HI.out _).mono ?_; rintro e w' ⟨rfl, hf⟩)
  go_ret2
  exact ⟨rfl, hf⟩
theorem k_pub_bad (s : ByteArray) (b : Int) (hs : s.size ≤ 65536) (hi : ∀ u, Calls Tryz.prog 130 #[.string s, .int .i64 b, .int .i64 32] u fun e w' => e = .returned (parsed none) ∧ Fr No u w') (w : World) (hT : Tabs w) :
    Calls Tryz.prog 127 #[.string s, .int .i64 b, .int .i64 32] w fun e w' => (∃ t p, e = .returned (.tuple #[.int .u64 0, .iface t p])) ∧ Fr No w w' := by
  unfold parsed at hi
  have HI := Lib.hid hi
  clear hi
  go_enter Tryz.func127, Tryz.ntmps127
  go_wp2_with (first
    | (go_at_call 130; refine (HI.out _).mono ?_; rintro e w1 ⟨rfl, hf⟩; obtain ⟨ev, hv, hev⟩ := (hT.fr hf).es)
    | (go_at_call 131; refine (Tryz.strconv_toError_syntax _ s _ _ ev _ (by omega) hv hev).mono ?_; rintro e w2 ⟨N, rfl, _, _, hb⟩))
  go_ret2
  exact ⟨⟨_, _, rfl⟩, hf.trans (Fr.of_below hb)⟩
theorem chrF_lt : ∀ (l : List UInt8) (b v k n : Nat), b ≤ 16 → v < 16 ^ k → chrF b v l = some n → n < 16 ^ (k + l.length)
  | [], b, v, k, n, _, hv, h => by
    injection h with h
    subst h
    simpa using hv
  | c :: r, b, v, k, n, hb, hv, h => by
    by_cases hd : digV c < b
    · rw [chrF_step hd] at h
      have hp : 16 ^ (k + 1) = 16 ^ k * 16 := Nat.pow_succ ..
      have hm : v * b ≤ v * 16 := Nat.mul_le_mul_left v hb
      have := chrF_lt r b (v * b + digV c) (k + 1) n hb (by omega) h
      rw [List.length_cons, show k + (r.length + 1) = k + 1 + r.length by omega]
      exact this
    · rw [chrF_stop (by omega)] at h
      cases h
theorem enc_is (c : Int) : encL c = (Utf8.encode c).data.toList := rfl
/-- what a number stands for: a character's text, or none -/
theorem k_numbered (s : ByteArray) (b m : Nat) (hb : b = 10 ∧ m = 7 ∨ b = 16 ∧ m = 6) (hs : s.size ≤ 65536) (w : World) (hT : Tabs w) :
    Calls Tryz.prog 120 #[.string s, .int .i64 (b : Int), .int .i64 (m : Int)] w fun e w' => (∃ X : ByteArray, e = .returned (.tuple #[.string X, .bool (numQ b m s.data.toList).isSome]) ∧ ((numQ b m s.data.toList).isSome = true → some X.data.toList = numQ b m s.data.toList)) ∧ Fr No w w' := by
  have hm7 : m ≤ 7 := by omega
  have hb2 : b = 10 ∨ b = 16 := by omega
  have hb16 : b ≤ 16 := by omega
  have hsl := size_list s
  by_cases hlong : m < s.size
  · have hq : numQ b m s.data.toList = none := by unfold numQ chrV; rw [if_pos (by omega)]
    have hI : (m : Int) < (s.size : Int) := by omega
    rw [hq]
    clear hq hsl
    go_enter Tryz.func120, Tryz.ntmps120
    go_wp2
    go_ret2
    exact ⟨⟨_, rfl, fun e => by cases e⟩, Fr.refl _ _⟩
  · have hI : ¬ (m : Int) < (s.size : Int) := by omega
    have hp := fun u => k_parse s b hb2 (by omega) u
    have hcv : chrV s.data.toList b m = if s.data.toList = [] then none else chrF b 0 s.data.toList := by
      unfold chrV
      by_cases h0 : s.data.toList = []
      · rw [h0]; rfl
      · rw [if_neg h0, if_neg]
        have : s.data.toList.length ≠ 0 := fun e => h0 (List.eq_nil_of_length_eq_zero e)
        omega
    rw [← hcv] at hp
    have hnq : numQ b m s.data.toList = match chrV s.data.toList b m with | none => none | some v => if charB v then some (encL (v : Int)) else none := rfl
    have hbound : ∀ v, chrV s.data.toList b m = some v → v ≤ 268435455 := by
      intro v hv
      rw [hcv] at hv
      by_cases h0 : s.data.toList = []
      · rw [if_pos h0] at hv; cases hv
      · rw [if_neg h0] at hv
        have h1 := chrF_lt _ b 0 0 v hb16 (by decide) hv
        have h2 := Nat.pow_le_pow_right (show 0 < 16 by decide) (show 0 + s.data.toList.length ≤ 7 by omega)
        have h3 : 16 ^ 7 = 268435456 := by decide
        omega
    rw [hnq]
    cases hv : chrV s.data.toList b m with
    | none =>
      rw [hv] at hp
      have hpub := k_pub_bad s (b : Int) hs hp w hT
      have HP := Lib.hid hpub
      clear hpub hp hcv hnq hbound hv hsl
      go_enter Tryz.func120, Tryz.ntmps120
      go_wp2_with (go_at_call 127; refine HP.out.mono ?_; rintro e w1 ⟨⟨t, p, rfl⟩, hf⟩)
      go_ret2
      exact ⟨⟨_, rfl, fun e => by cases e⟩, hf⟩
    | some v =>
      rw [hv] at hp
      have hpub := fun u => k_pub_ok s (b : Int) v hp u
      have hb7 := hbound v hv
      have HP := Lib.hid hpub
      have hvr := fun u => Tryz.utf8_ValidRune (v : Int) u
      show Calls _ _ _ _ fun e w' => (∃ X : ByteArray, e = .returned (.tuple #[.string X, .bool (if charB v then some (encL (v : Int)) else none).isSome]) ∧ ((if charB v then some (encL (v : Int)) else none).isSome = true → some X.data.toList = (if charB v then some (encL (v : Int)) else none))) ∧ Fr No w w'
      have hvI : (v : Int) ≤ 268435455 := by omega
      by_cases hval : v ≤ 1114111 ∧ ¬ (55296 ≤ v ∧ v ≤ 57343)
      · have hsz4 := (enc_size hval.1 hval.2).2.2.1
        rw [enc_is] at hsz4
        have hvb : Lib.validRune (v : Int) = true := by unfold Lib.validRune; rw [decide_eq_true_iff]; omega
        rw [hvb] at hvr
        have hu8 := utf8_enc hval.1 hval.2
        rw [enc_is] at hu8
        rw [enc_is]
        obtain ⟨C, hC⟩ : ∃ C, Utf8.encode (v : Int) = C := ⟨_, rfl⟩
        rw [hC] at hu8 hsz4 ⊢
        have hes : C.size ≤ 65536 := by rw [size_list] at hsz4; omega
        have htx := fun u hu => text_utf8_any C u hes hu
        rw [hu8] at htx
        have hR : ∃ (R : Option (List UInt8)) (q : Bool), (if charB v then some C.data.toList else none) = R ∧ charB v = q ∧ R.isSome = q ∧ (q = true → some C.data.toList = R) := by
          refine ⟨_, _, rfl, rfl, ?_, ?_⟩
          · cases charB v <;> rfl
          · intro e; rw [e]; rfl
        obtain ⟨R, q, hR1, hR2, hR3, hR4⟩ := hR
        rw [hR1]
        rw [hR2] at htx
        have HR := Lib.hid (And.intro hR3 hR4)
        clear hR1 hR2 hR3 hR4
        have HV := Lib.hid hvr; have HX := Lib.hid htx
        clear hpub hp hcv hnq hbound hv hsl hvr htx hu8 hvb hval hes hsz4
        go_enter Tryz.func120, Tryz.ntmps120
        go_wp2_with (first
          | (go_at_call 127; refine (HP.out _).mono ?_; rintro e w1 ⟨rfl, hf⟩)
          | (go_at_call 122; refine (HV.out _).mono ?_; rintro e w' ⟨rfl, rfl⟩)
          | (go_at_call 34; refine (HX.out _ (hT.fr hf)).mono ?_; rintro e w2 ⟨rfl, hf2⟩))
        go_ret2
        exact ⟨⟨C, by rw [HR.out.1]; rfl, fun e => HR.out.2 (by rw [← HR.out.1]; exact e)⟩, hf.trans hf2⟩
      · have hvb : Lib.validRune (v : Int) = false := by unfold Lib.validRune; rw [decide_eq_false_iff_not]; omega
        rw [hvb] at hvr
        rw [charB_not hval]
        have HV := Lib.hid hvr
        clear hpub hp hcv hnq hbound hv hsl hvr hvb hval
        go_enter Tryz.func120, Tryz.ntmps120
        go_wp2_with (first
          | (go_at_call 127; refine (HP.out _).mono ?_; rintro e w1 ⟨rfl, hf⟩)
          | (go_at_call 122; refine (HV.out _).mono ?_; rintro e w' ⟨rfl, rfl⟩))
        go_ret2
        first
          | exact ⟨⟨_, rfl, fun e => by cases e⟩, hf⟩
          | exact ⟨⟨_, rfl⟩, hf⟩
end Go.Proofs.YthkjmbkfcnehoaaGreatDoor
