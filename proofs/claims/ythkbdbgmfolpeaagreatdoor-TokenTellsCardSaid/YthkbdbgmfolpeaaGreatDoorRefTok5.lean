/- The statements' own tokens: a character's number. -/
import Derived.Test.YthkbdbgmfolpeaaGreatDoorRefTok4
namespace Go.Proofs.YthkbdbgmfolpeaaGreatDoor
open Go.RowKit
set_option maxHeartbeats 1000000
set_option linter.unusedVariables false

def chrR (l : List UInt8) (base most : Nat) : Int := match chrV l base most with
  | none => -1
  | some v => (v : Int)
theorem chrF_cons (base v : Nat) (c : UInt8) (r : List UInt8) : chrF base v (c :: r) = if base ≤ digV c then none else chrF base (v * base + digV c) r := rfl
theorem dig_cases (c : UInt8) : (48 ≤ c.toNat ∧ c.toNat ≤ 57 ∧ digV c = c.toNat - 48) ∨ (97 ≤ c.toNat ∧ c.toNat ≤ 102 ∧ digV c = c.toNat - 87) ∨ (65 ≤ c.toNat ∧ c.toNat ≤ 70 ∧ digV c = c.toNat - 55) ∨
    (c.toNat < 48 ∧ 1 = 1 ∧ digV c = 99) ∨ (57 < c.toNat ∧ c.toNat < 65 ∧ digV c = 99) ∨ (70 < c.toNat ∧ c.toNat < 97 ∧ digV c = 99) ∨ (102 < c.toNat ∧ 1 = 1 ∧ digV c = 99) := by
  unfold digV
  split
  · omega
  · split
    · omega
    · split <;> omega

theorem r_numeral_any (S : ByteArray) (base most : Nat) (w : World) (hb : base = 10 ∨ base = 16) (hm : most ≤ 7) :
    Calls Tryz.prog 61 #[.string S, .int .i64 (base : Int), .int .i64 (most : Int)] w fun e w' => e = .returned (.int .i64 (chrR S.data.toList base most)) ∧ w = w' := by
  have hsl := size_list S
  by_cases h0 : S.size < 1 ∨ most < S.size
  · have hr : chrR S.data.toList base most = -1 := by
      unfold chrR chrV
      rw [if_pos (by rw [hsl]; exact h0)]
    rw [hr]
    have h0I : (S.size : Int) < 1 ∨ (¬ (S.size : Int) < 1 ∧ (most : Int) < (S.size : Int)) := by omega
    clear hr hsl h0
    rcases h0I with h0I | ⟨h0I, h1I⟩
    all_goals
      go_enter Tryz.func61, Tryz.ntmps61
      go_wp2
      go_ret
      exact ⟨rfl, rfl⟩
  have hr : chrR S.data.toList base most = match chrF base 0 S.data.toList with | none => -1 | some v => (v : Int) := by
    unfold chrR chrV
    rw [if_neg (by rw [hsl]; exact h0)]
  have h1I : ¬ (S.size : Int) < 1 := by omega
  have h2I : ¬ (most : Int) < (S.size : Int) := by omega
  have hs7 : S.size ≤ 7 := by omega
  have HR := Lib.hid hr; have HSL := Lib.hid hsl
  clear hr hsl h0
  go_enter Tryz.func61, Tryz.ntmps61
  go_wp2
  go_loop [7, 8] (fun vv iv => ∃ k v : Nat, vv = .int .i64 (v : Int) ∧ iv = .int .i64 (k : Int) ∧ k ≤ S.size ∧ v < 16 ^ k ∧ chrF base 0 S.data.toList = chrF base v (S.data.toList.drop k)) (fun _ iv => S.size - (intOf iv).toNat)
  case atStart => exact ⟨0, 0, rfl, rfl, by omega, by simp, by simp⟩
  case round =>
    obtain ⟨k, v, rfl, rfl, hk, hv, hnum⟩ := hrel
    have hv7 : v < 268435456 := Nat.lt_of_lt_of_le hv (show 16 ^ k ≤ 16 ^ 7 from Nat.pow_le_pow_right (by omega) (by omega))
    have HV := Lib.hid hv; have HNUM := Lib.hid hnum
    clear hv hnum
    by_cases hlt : k < S.size
    · have hltI : (k : Int) < (S.size : Int) := by omega
      obtain ⟨c, hc⟩ : ∃ c, S[k] = c := ⟨_, rfl⟩
      have hdr : S.data.toList.drop k = c :: S.data.toList.drop (k + 1) := by
        rw [List.drop_eq_getElem_cons (by rw [HSL.out]; exact hlt), ← hc]
        rfl
      have hst := chrF_cons base v c (S.data.toList.drop (k + 1))
      rw [← hdr] at hst
      have HST := Lib.hid hst
      have hcb := c.toNat_lt
      clear hdr hst
      have hcl := dig_cases c
      obtain ⟨D, hD⟩ : ∃ D, digV c = D := ⟨_, rfl⟩
      rw [hD] at hcl
      have HD := Lib.hid hD
      clear hD
      by_cases hbd : base ≤ D
      · have hans : chrR S.data.toList base most = -1 := by
          rw [HR.out, HNUM.out, HST.out, HD.out, if_pos hbd]
        have HANS := Lib.hid hans
        clear hans
        rcases hcl with ⟨h1, h2, h3⟩ | ⟨h1, h2, h3⟩ | ⟨h1, h2, h3⟩ | ⟨h1, h2, h3⟩ | ⟨h1, h2, h3⟩ | ⟨h1, h2, h3⟩ | ⟨h1, h2, h3⟩
        all_goals
          have hbI : (base : Int) ≤ (D : Int) := by omega
          go_wp2
          all_goals
            go_ret
            rw [HANS.out]
            exact ⟨rfl, rfl⟩
      · have hnx : chrF base 0 S.data.toList = chrF base (v * base + D) (S.data.toList.drop (k + 1)) := by
          rw [HNUM.out, HST.out, HD.out, if_neg hbd]
        have hpw : v * base + D < 16 ^ (k + 1) := by
          have h := HV.out
          rw [Nat.pow_succ]
          rcases hb with rfl | rfl <;> omega
        obtain ⟨M, hM⟩ : ∃ M, v * base = M := ⟨_, rfl⟩
        have hMb : M < 4294967296 := by rcases hb with e | e <;> subst e <;> omega
        rw [hM] at hnx hpw
        have HNX := Lib.hid hnx; have HPW := Lib.hid hpw; have HM := Lib.hid hM
        clear hnx hpw hM
        have hcl3 : (48 ≤ c.toNat ∧ c.toNat ≤ 57 ∧ D = c.toNat - 48) ∨ (97 ≤ c.toNat ∧ c.toNat ≤ 102 ∧ D = c.toNat - 87) ∨ (65 ≤ c.toNat ∧ c.toNat ≤ 70 ∧ D = c.toNat - 55) := by omega
        clear hcl
        rcases hcl3 with ⟨h1, h2, h3⟩ | ⟨h1, h2, h3⟩ | ⟨h1, h2, h3⟩
        all_goals
          have hbI : ¬ (base : Int) ≤ (D : Int) := by omega
          have hMI : (v : Int) * (base : Int) = (M : Int) := by rw [← HM.out, Int.natCast_mul]
          have hD1 : (c.toNat : Int) - 48 = (D : Int) ∨ (c.toNat : Int) - 97 + 10 = (D : Int) ∨ (c.toNat : Int) - 65 + 10 = (D : Int) := by omega
          have hD9 : D ≤ 15 := by omega
          rcases hD1 with hD1 | hD1 | hD1
          all_goals
            first
              | (exfalso; omega)
              | (clear h3
                 go_wp2
                 go_round
                 case rel => exact ⟨k + 1, M + D, by go_num, by go_num, by omega, HPW.out, HNX.out⟩
                 case measure => simp [intOf]; omega)
    · obtain rfl : k = S.size := by omega
      have hltI : ¬ (S.size : Int) < (S.size : Int) := by omega
      have hans : chrR S.data.toList base most = (v : Int) := by
        rw [HR.out, HNUM.out, List.drop_eq_nil_of_le (by rw [HSL.out]; exact Nat.le_refl _)]
        rfl
      have HANS := Lib.hid hans
      clear hans
      go_wp2
      go_ret
      rw [HANS.out]
      exact ⟨rfl, rfl⟩
end Go.Proofs.YthkbdbgmfolpeaaGreatDoor
