/- TextPlain and TextBytes: the walks, for every text, number, byte. -/
import Derived.Test.YtlhajpkjncancaaDoorTxtParts
namespace Go.Proofs.YtlhajpkjncancaaDoor
open Go.RowKit
set_option maxHeartbeats 2000000
set_option linter.unusedVariables false

theorem plain_lowI {s : List UInt8} (h : plainB s 0 300 = true) (n : Nat) : plainB s 0 n = decide ((runesN s : Int) ≤ (n : Int)) ∧ plainB s n 300 = decide ((n : Int) ≤ (runesN s : Int)) := by
  obtain ⟨h1, h2⟩ := plain_low h n
  rw [h1, h2]
  simp

set_option maxRecDepth 100000 in
theorem plain_walk {s : ByteArray} {z : Int} (w : World) (hT : Tabs w) (hs : s.size ≤ maxLen) (hz : (Lit.int .i64 z).wf = true) :
    Calls Tryd.prog 6 #[.string s, .int .i64 z] w fun e w' => e = .returned (.bool true) ∧ Fr No w w' := by
  rcases Nat.lt_or_ge 300 s.size with hn | hn
  · go_enter Tryd.func6, Tryd.ntmps6
    go_wp2_with (go_at_call 8; refine (awake_any _).mono ?_; rintro e w1 ⟨rfl, hf⟩)
    go_ret
    exact ⟨rfl, hf⟩
  obtain ⟨N, hN, hN1⟩ := rem_nat z 310 (by omega)
  obtain ⟨X1, hX1⟩ : ∃ X, ({ data := #[32] } : ByteArray) ++ s = X := ⟨_, rfl⟩
  obtain ⟨X2, hX2⟩ : ∃ X, s ++ ({ data := #[32] } : ByteArray) = X := ⟨_, rfl⟩
  obtain ⟨Y, hY⟩ : ∃ X, s ++ ({ data := #[10] } : ByteArray) = X := ⟨_, rfl⟩
  obtain ⟨X3, hX3⟩ : ∃ X, Y ++ s = X := ⟨_, rfl⟩
  obtain ⟨X4, hX4⟩ : ∃ X, X2 ++ s = X := ⟨_, rfl⟩
  have hsl := ba_len s
  have l1 : X1.data.toList = 32 :: s.data.toList := by rw [← hX1, ba_app]; rfl
  have l2 : X2.data.toList = s.data.toList ++ [32] := by rw [← hX2, ba_app]
  have ly : Y.data.toList = s.data.toList ++ [10] := by rw [← hY, ba_app]
  have l3 : X3.data.toList = s.data.toList ++ (10 :: s.data.toList) := by rw [← hX3, ba_app, ly, List.append_assoc]; rfl
  have l4 : X4.data.toList = s.data.toList ++ (32 :: s.data.toList) := by rw [← hX4, ba_app, l2, List.append_assoc]; rfl
  have z1 : X1.size ≤ 301 := by have h := ba_len X1; rw [l1, List.length_cons, hsl] at h; omega
  have z2 : X2.size ≤ 301 := by have h := ba_len X2; rw [l2, List.length_append, hsl] at h; simp at h; omega
  have zy : Y.size ≤ 301 := by have h := ba_len Y; rw [ly, List.length_append, hsl] at h; simp at h; omega
  have z3 : X3.size ≤ 65536 := by have h := ba_len X3; rw [l3, List.length_append, List.length_cons, hsl] at h; omega
  have z4 : X4.size ≤ 65536 := by have h := ba_len X4; rw [l4, List.length_append, List.length_cons, hsl] at h; omega
  have p1 : plainB X1.data.toList 0 400 = false := by rw [l1]; exact plain_first _ _ _
  have p2 : plainB X2.data.toList 0 400 = false := by rw [l2]; exact plain_last _ _ _
  have p3 : plainB X3.data.toList 0 700 = false := by rw [l3]; exact plain_below _ _ _ _
  obtain ⟨R, hR⟩ : ∃ R, runesN s.data.toList = R := ⟨_, rfl⟩
  have hR1 : (R : Int) ≤ 300 := by have := runes_le s.data.toList; rw [hR, hsl] at this; omega
  have hs6 : s.size ≤ 65536 := by omega
  have hs61 : X1.size ≤ 65536 := by omega
  have hs62 : X2.size ≤ 65536 := by omega
  have HS6 := Lib.hid hs6; have HS61 := Lib.hid hs61; have HS62 := Lib.hid hs62; have Z3 := Lib.hid z3; have Z4 := Lib.hid z4
  have P1 := Lib.hid p1; have P2 := Lib.hid p2; have P3 := Lib.hid p3; have HR := Lib.hid hR; have L4 := Lib.hid l4; have HSL := Lib.hid hsl
  clear l1 l2 ly l3 l4 z3 z4 p1 p2 p3 hs6 hs61 hs62 hsl hs
  have tok1 : True := trivial
  have tok2 : True := trivial
  have tok3 : True := trivial
  have tok4 : True := trivial
  have tok5 : True := trivial
  have tok6 : True := trivial
  cases hp : plainB s.data.toList 0 300 with
  | false =>
    have HP := Lib.hid hp
    clear hp hR
    go_enter Tryd.func6, Tryd.ntmps6
    go_wp2_with (first
      | (go_at_call 11; refine (text_runes_any s _ HS6.out).mono ?_; rw [HR.out]; rintro e w1 ⟨rfl, hf1⟩)
      | (go_at_call 13; clear tok1; refine (text_plain_any s 0 300 _ HS6.out).mono ?_; rw [HP.out]; rintro e w2 ⟨rfl, hf2⟩)
      | (go_at_call 8; refine (awake_any _).mono ?_; rintro e w3 ⟨rfl, hf3⟩)
      | (go_at_call 13; clear tok2; refine (text_plain_any X1 0 400 _ HS61.out).mono ?_; rw [P1.out]; rintro e w4 ⟨rfl, hf4⟩)
      | (go_at_call 13; clear tok3; refine (text_plain_any X2 0 400 _ HS62.out).mono ?_; rw [P2.out]; rintro e w5 ⟨rfl, hf5⟩)
      | (go_at_call 13; clear tok4; refine (text_plain_any X3 0 700 _ Z3.out).mono ?_; rw [P3.out]; rintro e w6 ⟨rfl, hf6⟩))
    go_ret
    exact ⟨rfl, ((((hf1.trans hf2).trans hf3).trans hf4).trans hf5).trans hf6⟩
  | true =>
    obtain ⟨q1, q2⟩ := plain_lowI hp N
    rw [hR] at q1 q2
    have HP := Lib.hid hp; have Q1 := Lib.hid q1; have Q2 := Lib.hid q2
    clear q1 q2 hR
    rcases Nat.eq_zero_or_pos s.size with he | he
    · have hemp : s.toList = [] := by
        rw [ByteArray.toList_eq]
        exact List.eq_nil_of_length_eq_zero (by rw [HSL.out]; exact he)
      clear hp he
      go_enter Tryd.func6, Tryd.ntmps6
      go_wp2_with (first
        | (go_at_call 11; refine (text_runes_any s _ HS6.out).mono ?_; rw [HR.out]; rintro e w1 ⟨rfl, hf1⟩)
        | (go_at_call 13; clear tok1; refine (text_plain_any s 0 300 _ HS6.out).mono ?_; rw [HP.out]; rintro e w2 ⟨rfl, hf2⟩)
        | (go_at_call 8; refine (awake_any _).mono ?_; rintro e w3 ⟨rfl, hf3⟩)
        | (go_at_call 13; clear tok2; refine (text_plain_any X1 0 400 _ HS61.out).mono ?_; rw [P1.out]; rintro e w4 ⟨rfl, hf4⟩)
        | (go_at_call 13; clear tok3; refine (text_plain_any X2 0 400 _ HS62.out).mono ?_; rw [P2.out]; rintro e w5 ⟨rfl, hf5⟩)
        | (go_at_call 13; clear tok4; refine (text_plain_any X3 0 700 _ Z3.out).mono ?_; rw [P3.out]; rintro e w6 ⟨rfl, hf6⟩)
        | (go_at_call 13; clear tok5; refine (text_plain_any s 0 N _ HS6.out).mono ?_; rw [Q1.out]; rintro e w7 ⟨rfl, hf7⟩)
        | (go_at_call 13; clear tok6; refine (text_plain_any s N 300 _ HS6.out).mono ?_; rw [Q2.out]; rintro e w8 ⟨rfl, hf8⟩))
      go_ret
      exact ⟨rfl, ((((((hf1.trans hf2).trans hf3).trans hf4).trans hf5).trans hf6).trans hf7).trans hf8⟩
    · have hne : s.data.toList ≠ [] := by
        intro e
        have := congrArg List.length e
        rw [HSL.out, List.length_nil] at this
        omega
      have p4 : plainB X4.data.toList 0 700 = true := by rw [L4.out]; exact plain_twice hp hne
      have hemp : ¬ s.toList = [] := by rw [ByteArray.toList_eq]; exact hne
      have P4 := Lib.hid p4
      clear hp he p4 hne
      go_enter Tryd.func6, Tryd.ntmps6
      go_wp2_with (first
        | (go_at_call 11; refine (text_runes_any s _ HS6.out).mono ?_; rw [HR.out]; rintro e w1 ⟨rfl, hf1⟩)
        | (go_at_call 13; clear tok1; refine (text_plain_any s 0 300 _ HS6.out).mono ?_; rw [HP.out]; rintro e w2 ⟨rfl, hf2⟩)
        | (go_at_call 8; refine (awake_any _).mono ?_; rintro e w3 ⟨rfl, hf3⟩)
        | (go_at_call 13; clear tok2; refine (text_plain_any X1 0 400 _ HS61.out).mono ?_; rw [P1.out]; rintro e w4 ⟨rfl, hf4⟩)
        | (go_at_call 13; clear tok3; refine (text_plain_any X2 0 400 _ HS62.out).mono ?_; rw [P2.out]; rintro e w5 ⟨rfl, hf5⟩)
        | (go_at_call 13; clear tok4; refine (text_plain_any X3 0 700 _ Z3.out).mono ?_; rw [P3.out]; rintro e w6 ⟨rfl, hf6⟩)
        | (go_at_call 13; clear tok5; refine (text_plain_any s 0 N _ HS6.out).mono ?_; rw [Q1.out]; rintro e w7 ⟨rfl, hf7⟩)
        | (go_at_call 13; clear tok6; refine (text_plain_any s N 300 _ HS6.out).mono ?_; rw [Q2.out]; rintro e w8 ⟨rfl, hf8⟩)
        | (go_at_call 13; refine (text_plain_any X4 0 700 _ Z4.out).mono ?_; rw [P4.out]; rintro e w9 ⟨rfl, hf9⟩))
      go_ret
      refine ⟨ret_bool ?_, (((((((hf1.trans hf2).trans hf3).trans hf4).trans hf5).trans hf6).trans hf7).trans hf8).trans hf9⟩
      simp

theorem one_bytes (d : UInt8) : utf8B [d] = decide (d.toNat < 128 ∧ charB d.toNat = true) ∧ runesN [d] = (if d.toNat < 128 ∧ charB d.toNat = true then 1 else 0) := by
  unfold utf8B runesN
  rw [cnt_one]
  by_cases h : d.toNat < 128 ∧ charB d.toNat = true
  · rw [if_pos h, if_pos h, decide_eq_true h]
    exact ⟨rfl, rfl⟩
  · rw [if_neg h, if_neg h, decide_eq_false h]
    exact ⟨rfl, rfl⟩
/-- what a byte alone is, for each of the 256 -/
theorem byte_facts : ∀ n : Fin 256, let l := [UInt8.ofNat n.val]
    utf8B l = decide (n.val < 128 ∧ (32 ≤ n.val ∨ n.val = 9 ∨ n.val = 10 ∨ n.val = 13)) ∧ plainB l 1 1 = decide (n.val < 128 ∧ 32 < n.val) ∧ ansB l 1 = decide (32 ≤ n.val ∧ n.val ≤ 126) ∧
      alnB l 1 1 = decide ((48 ≤ n.val ∧ n.val ≤ 57) ∨ (65 ≤ n.val ∧ n.val ≤ 90) ∨ (97 ≤ n.val ∧ n.val ≤ 122)) ∧ ansB (l ++ l) 1 = false := by decide +kernel
theorem byte_facts' (d : UInt8) : utf8B [d] = decide (d.toNat < 128 ∧ (32 ≤ d.toNat ∨ d.toNat = 9 ∨ d.toNat = 10 ∨ d.toNat = 13)) ∧ plainB [d] 1 1 = decide (d.toNat < 128 ∧ 32 < d.toNat) ∧ ansB [d] 1 = decide (32 ≤ d.toNat ∧ d.toNat ≤ 126) ∧
      alnB [d] 1 1 = decide ((48 ≤ d.toNat ∧ d.toNat ≤ 57) ∨ (65 ≤ d.toNat ∧ d.toNat ≤ 90) ∨ (97 ≤ d.toNat ∧ d.toNat ≤ 122)) ∧ ansB [d, d] 1 = false := by
  have h := byte_facts ⟨d.toNat, d.toNat_lt⟩
  simp only [UInt8.ofNat_toNat] at h
  exact h

/-- a byte alone: what the walk needs -/
structure ByteS (c : UInt8) (B BB : ByteArray) : Prop where
  zb : B.size ≤ 65536
  zbb : BB.size ≤ 65536
  f1 : utf8B B.data.toList = decide (c.toNat < 128 ∧ (32 ≤ c.toNat ∨ c.toNat = 9 ∨ c.toNat = 10 ∨ c.toNat = 13))
  f2 : plainB B.data.toList 1 1 = decide (c.toNat < 128 ∧ 32 < c.toNat)
  f3 : ansB B.data.toList 1 = decide (32 ≤ c.toNat ∧ c.toNat ≤ 126)
  f4 : alnB B.data.toList 1 1 = decide ((48 ≤ c.toNat ∧ c.toNat ≤ 57) ∨ (65 ≤ c.toNat ∧ c.toNat ≤ 90) ∨ (97 ≤ c.toNat ∧ c.toNat ≤ 122))
  f5 : ansB BB.data.toList 1 = false
theorem byteS (c : UInt8) : ByteS c (bstr [c]) (bstr [c] ++ bstr [c]) := by
  obtain ⟨f1, f2, f3, f4, f5⟩ := byte_facts' c
  have hBd : (bstr [c]).data.toList = [c] := rfl
  have hBBd : (bstr [c] ++ bstr [c]).data.toList = [c, c] := by rw [ba_app, hBd]; rfl
  exact ⟨by rw [bstr_size]; simp, by have h := (ba_len (bstr [c] ++ bstr [c])).symm.trans (congrArg List.length hBBd); rw [show [c, c].length = 2 from rfl] at h; omega,
    by rw [hBd]; exact f1, by rw [hBd]; exact f2, by rw [hBd]; exact f3, by rw [hBd]; exact f4, by rw [hBBd]; exact f5⟩

end Go.Proofs.YtlhajpkjncancaaDoor
