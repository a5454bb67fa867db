/- What package token does: a character by its number, or by its name. -/
import Derived.Test.YthkbdbgmfolpeaaGreatDoorTokNum
namespace Go.Proofs.YthkbdbgmfolpeaaGreatDoor
open Go.RowKit
set_option maxHeartbeats 400000
set_option linter.unusedVariables false

set_option maxRecDepth 20000 in
theorem k_parse_none (b : Int) (w : World) :
    Calls Tryz.prog 78 #[.string ⟨#[]⟩, .int .i64 b, .int .i64 32] w fun e w' => e = .returned (parsed none) ∧ Fr No w w' := by
  go_enter Tryz.func78, Tryz.ntmps78
  go_wp2
  go_ret2
  exact ⟨rfl, Fr.refl _ _⟩
theorem k_parse (s : ByteArray) (b : Nat) (hb : b = 10 ∨ b = 16) (hs : s.size ≤ 7) (w : World) :
    Calls Tryz.prog 78 #[.string s, .int .i64 (b : Int), .int .i64 32] w fun e w' => e = .returned (parsed (if s.data.toList = [] then none else chrF b 0 s.data.toList)) ∧ Fr No w w' := by
  by_cases h0 : s.data.toList = []
  · rw [if_pos h0, str_empty h0]
    exact k_parse_none _ w
  · rw [if_neg h0]
    have hne : s.size ≠ 0 := fun e => h0 (List.eq_nil_of_length_eq_zero (by rw [size_list]; exact e))
    rcases hb with rfl | rfl
    · exact k_parse_10 s hne hs w
    · exact k_parse_16 s hne hs w
theorem k_pub_ok (s : ByteArray) (b : Int) (v : Nat) (hi : ∀ u, Calls Tryz.prog 78 #[.string s, .int .i64 b, .int .i64 32] u fun e w' => e = .returned (parsed (some v)) ∧ Fr No u w') (w : World) :
    Calls Tryz.prog 70 #[.string s, .int .i64 b, .int .i64 32] w fun e w' => e = .returned (.tuple #[.int .u64 (v : Int), .nilIface]) ∧ Fr No w w' := by
  unfold parsed at hi
  have HI := Lib.hid hi
  clear hi
  go_enter Tryz.func70, Tryz.ntmps70
  go_wp2_with (go_at_call 78; refine (HI.out _).mono ?_; rintro e w' ⟨rfl, hf⟩)
  go_ret2
  exact ⟨rfl, hf⟩
theorem k_pub_bad (s : ByteArray) (b : Int) (hs : s.size ≤ 65536) (hi : ∀ u, Calls Tryz.prog 78 #[.string s, .int .i64 b, .int .i64 32] u fun e w' => e = .returned (parsed none) ∧ Fr No u w') (w : World) (hT : Tabs w) :
    Calls Tryz.prog 70 #[.string s, .int .i64 b, .int .i64 32] w fun e w' => (∃ t p, e = .returned (.tuple #[.int .u64 0, .iface t p])) ∧ Fr No w w' := by
  unfold parsed at hi
  have HI := Lib.hid hi
  clear hi
  go_enter Tryz.func70, Tryz.ntmps70
  go_wp2_with (first
    | (go_at_call 78; refine (HI.out _).mono ?_; rintro e w1 ⟨rfl, hf⟩; obtain ⟨ev, hv, hev⟩ := (hT.fr hf).es)
    | (go_at_call 79; refine (Tryz.strconv_toError_syntax _ s _ _ ev _ (by omega) hv hev).mono ?_; rintro e w2 ⟨N, rfl, _, _, hb⟩))
  go_ret2
  exact ⟨⟨_, _, rfl⟩, hf.trans (Fr.of_below hb)⟩
theorem chrF_lt : ∀ (l : List UInt8) (b v k n : Nat), b ≤ 16 → v < 16 ^ k → chrF b v l = some n → n < 16 ^ (k + l.length)
  | [], b, v, k, n, _, hv, h => by
    injection h with h
    subst h
    simpa using hv
  | c :: r, b, v, k, n, hb, hv, h => by
    by_cases hd : digV c < b
    · rw [chrF_step hd] at h
      have hp : 16 ^ (k + 1) = 16 ^ k * 16 := Nat.pow_succ ..
      have hm : v * b ≤ v * 16 := Nat.mul_le_mul_left v hb
      have := chrF_lt r b (v * b + digV c) (k + 1) n hb (by omega) h
      rw [List.length_cons, show k + (r.length + 1) = k + 1 + r.length by omega]
      exact this
    · rw [chrF_stop (by omega)] at h
      cases h
theorem enc_is (c : Int) : encL c = (Utf8.encode c).data.toList := rfl
/-- what a number stands for: a character's text, or none -/
theorem k_numbered (s : ByteArray) (b m : Nat) (hb : b = 10 ∧ m = 7 ∨ b = 16 ∧ m = 6) (hs : s.size ≤ 65536) (w : World) (hT : Tabs w) :
    Calls Tryz.prog 66 #[.string s, .int .i64 (b : Int), .int .i64 (m : Int)] w fun e w' => (∃ X : ByteArray, e = .returned (.tuple #[.string X, .bool (numQ b m s.data.toList).isSome]) ∧ ((numQ b m s.data.toList).isSome = true → some X.data.toList = numQ b m s.data.toList)) ∧ Fr No w w' := by
  have hm7 : m ≤ 7 := by omega
  have hb2 : b = 10 ∨ b = 16 := by omega
  have hb16 : b ≤ 16 := by omega
  have hsl := size_list s
  by_cases hlong : m < s.size
  · have hq : numQ b m s.data.toList = none := by unfold numQ chrV; rw [if_pos (by omega)]
    have hI : (m : Int) < (s.size : Int) := by omega
    rw [hq]
    clear hq hsl
    go_enter Tryz.func66, Tryz.ntmps66
    go_wp2
    go_ret2
    exact ⟨⟨_, rfl, fun e => by cases e⟩, Fr.refl _ _⟩
  · have hI : ¬ (m : Int) < (s.size : Int) := by omega
    have hp := fun u => k_parse s b hb2 (by omega) u
    have hcv : chrV s.data.toList b m = if s.data.toList = [] then none else chrF b 0 s.data.toList := by
      unfold chrV
      by_cases h0 : s.data.toList = []
      · rw [h0]; rfl
      · rw [if_neg h0, if_neg]
        have : s.data.toList.length ≠ 0 := fun e => h0 (List.eq_nil_of_length_eq_zero e)
        omega
    rw [← hcv] at hp
    have hnq : numQ b m s.data.toList = match chrV s.data.toList b m with | none => none | some v => if charB v then some (encL (v : Int)) else none := rfl
    have hbound : ∀ v, chrV s.data.toList b m = some v → v ≤ 268435455 := by
      intro v hv
      rw [hcv] at hv
      by_cases h0 : s.data.toList = []
      · rw [if_pos h0] at hv; cases hv
      · rw [if_neg h0] at hv
        have h1 := chrF_lt _ b 0 0 v hb16 (by decide) hv
        have h2 := Nat.pow_le_pow_right (show 0 < 16 by decide) (show 0 + s.data.toList.length ≤ 7 by omega)
        have h3 : 16 ^ 7 = 268435456 := by decide
        omega
    rw [hnq]
    cases hv : chrV s.data.toList b m with
    | none =>
      rw [hv] at hp
      have hpub := k_pub_bad s (b : Int) hs hp w hT
      have HP := Lib.hid hpub
      clear hpub hp hcv hnq hbound hv hsl
      go_enter Tryz.func66, Tryz.ntmps66
      go_wp2_with (go_at_call 70; refine HP.out.mono ?_; rintro e w1 ⟨⟨t, p, rfl⟩, hf⟩)
      go_ret2
      exact ⟨⟨_, rfl, fun e => by cases e⟩, hf⟩
    | some v =>
      rw [hv] at hp
      have hpub := fun u => k_pub_ok s (b : Int) v hp u
      have hb7 := hbound v hv
      have HP := Lib.hid hpub
      have hvr := fun u => Tryz.utf8_ValidRune (v : Int) u
      show Calls _ _ _ _ fun e w' => (∃ X : ByteArray, e = .returned (.tuple #[.string X, .bool (if charB v then some (encL (v : Int)) else none).isSome]) ∧ ((if charB v then some (encL (v : Int)) else none).isSome = true → some X.data.toList = (if charB v then some (encL (v : Int)) else none))) ∧ Fr No w w'
      have hvI : (v : Int) ≤ 268435455 := by omega
      by_cases hval : v ≤ 1114111 ∧ ¬ (55296 ≤ v ∧ v ≤ 57343)
      · have hsz4 := (enc_size hval.1 hval.2).2.2.1
        rw [enc_is] at hsz4
        have hvb : Lib.validRune (v : Int) = true := by unfold Lib.validRune; rw [decide_eq_true_iff]; omega
        rw [hvb] at hvr
        have hu8 := utf8_enc hval.1 hval.2
        rw [enc_is] at hu8
        rw [enc_is]
        obtain ⟨C, hC⟩ : ∃ C, Utf8.encode (v : Int) = C := ⟨_, rfl⟩
        rw [hC] at hu8 hsz4 ⊢
        have hes : C.size ≤ 65536 := by rw [size_list] at hsz4; omega
        have htx := fun u hu => text_utf8_any C u hes hu
        rw [hu8] at htx
        have hR : ∃ (R : Option (List UInt8)) (q : Bool), (if charB v then some C.data.toList else none) = R ∧ charB v = q ∧ R.isSome = q ∧ (q = true → some C.data.toList = R) := by
          refine ⟨_, _, rfl, rfl, ?_, ?_⟩
          · cases charB v <;> rfl
          · intro e; rw [e]; rfl
        obtain ⟨R, q, hR1, hR2, hR3, hR4⟩ := hR
        rw [hR1]
        rw [hR2] at htx
        have HR := Lib.hid (And.intro hR3 hR4)
        clear hR1 hR2 hR3 hR4
        have HV := Lib.hid hvr; have HX := Lib.hid htx
        clear hpub hp hcv hnq hbound hv hsl hvr htx hu8 hvb hval hes hsz4
        go_enter Tryz.func66, Tryz.ntmps66
        go_wp2_with (first
          | (go_at_call 70; refine (HP.out _).mono ?_; rintro e w1 ⟨rfl, hf⟩)
          | (go_at_call 71; refine (HV.out _).mono ?_; rintro e w' ⟨rfl, rfl⟩)
          | (go_at_call 10; refine (HX.out _ (hT.fr hf)).mono ?_; rintro e w2 ⟨rfl, hf2⟩))
        go_ret2
        exact ⟨⟨C, by rw [HR.out.1]; rfl, fun e => HR.out.2 (by rw [← HR.out.1]; exact e)⟩, hf.trans hf2⟩
      · have hvb : Lib.validRune (v : Int) = false := by unfold Lib.validRune; rw [decide_eq_false_iff_not]; omega
        rw [hvb] at hvr
        rw [charB_not hval]
        have HV := Lib.hid hvr
        clear hpub hp hcv hnq hbound hv hsl hvr hvb hval
        go_enter Tryz.func66, Tryz.ntmps66
        go_wp2_with (first
          | (go_at_call 70; refine (HP.out _).mono ?_; rintro e w1 ⟨rfl, hf⟩)
          | (go_at_call 71; refine (HV.out _).mono ?_; rintro e w' ⟨rfl, rfl⟩))
        go_ret2
        first
          | exact ⟨⟨_, rfl, fun e => by cases e⟩, hf⟩
          | exact ⟨⟨_, rfl⟩, hf⟩
end Go.Proofs.YthkbdbgmfolpeaaGreatDoor
