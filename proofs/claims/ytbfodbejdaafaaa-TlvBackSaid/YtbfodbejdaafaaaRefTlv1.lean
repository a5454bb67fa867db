/- The statements' own tags: a tag's length, whether one is a tag, whether it was there already. -/
import Derived.Test.YtbfodbejdaafaaaTlvMath
import Derived.Test.YtbfodbejdaafaaaMsgItems
import Derived.Test.YtbfodbejdaafaaaRefTag
import Derived.LoopTactic
namespace Go.Proofs.Ytbfodbejdaafaaa
open Go.RowKit
set_option maxHeartbeats 1000000
set_option linter.unusedVariables false

/-- how many bytes a length has -/
def lenH : List UInt8 → Nat
  | [] => 0
  | n :: q => if n.toNat < 128 then 1 else if n.toNat ≠ 129 then 0 else match q with
    | [] => 0
    | m :: s => if m.toNat < 128 then 0 else 2
theorem lenH_cons (n : UInt8) (q : List UInt8) : lenH (n :: q) = if n.toNat < 128 then 1 else if n.toNat ≠ 129 then 0 else match q with
    | [] => 0
    | m :: s => if m.toNat < 128 then 0 else 2 := rfl
theorem lenH_rest {l : List UInt8} (h : (lenP l).1 = 0) : (lenP l).2.2 = l.drop (lenH l) ∧ lenH l ≤ l.length ∧ 1 ≤ lenH l ∧ lenH l ≤ 2 := by
  cases l with
  | nil => cases h
  | cons n q =>
    rw [lenP_cons] at h ⊢
    rw [lenH_cons]
    by_cases h1 : n.toNat < 128
    · simp only [if_pos h1]
      simp
    · simp only [if_neg h1] at h ⊢
      by_cases h2 : n.toNat ≠ 129
      · rw [if_pos h2] at h; cases h
      · simp only [if_neg h2] at h ⊢
        cases q with
        | nil => cases h
        | cons m s =>
          simp only at h ⊢
          by_cases h3 : m.toNat < 128
          · rw [if_pos h3] at h; cases h
          · simp only [if_neg h3]
            simp
theorem lenP_count (l : List UInt8) : (lenP l).2.1 ≤ 255 := by
  cases l with
  | nil => simp [lenP]
  | cons n q =>
    have := n.toNat_lt
    rw [lenP_cons]
    split
    · simp only; omega
    split
    · simp
    cases q with
    | nil => simp
    | cons m s =>
      have := m.toNat_lt
      simp only
      split
      · simp
      · simp only; omega
theorem drop_two (b : List UInt8) (k : Nat) (h : k < b.length) : b.drop k = b[k] :: b.drop (k + 1) := List.drop_eq_getElem_cons h
theorem u8c (x : UInt8) : (x.toNat : Int) < 256 ∧ 0 ≤ (x.toNat : Int) := by have := x.toNat_lt; omega
theorem r_length (A : Option Addr) (n c : Nat) (b : List UInt8) (k : Nat) (w : World) (hb : Rd w A n c (u8s b)) (hn : n ≤ 1000000) (hk : k ≤ 1000000) :
    Calls Try.prog 28 #[.slice A n c, .int .i64 (k : Int)] w fun e w' => e = .returned (.tuple #[.int .i64 ((lenP (b.drop k)).2.1 : Int), .int .i64 (lenH (b.drop k) : Int), .int .i64 (lenP (b.drop k)).1]) ∧ w = w' := by
  have hl : b.length = n := by simpa using hb.len
  have hnM : (n : Int) ≤ 9223372036854775807 := by omega
  have hw1 : wrap64 ((k : Int) + 1) = (k : Int) + 1 := IntWalk.wrap64_in _ ⟨by omega, by omega⟩
  rcases Nat.lt_or_ge k n with hlt | hge
  · have hkI : ¬ (n : Int) ≤ (k : Int) := by omega
    have hk0 : (0 : Int) ≤ (k : Int) := by omega
    obtain ⟨ad, u, rfl, hu, hc⟩ := hb.at_ hlt
    rw [u8s_get b k (by omega)] at hu
    injection hu with hu
    subst hu
    rw [drop_two b k (by omega)]
    obtain ⟨x0, x1⟩ := u8c b[k]
    by_cases h1 : b[k].toNat < 128
    · have e1 : lenP (b[k] :: b.drop (k + 1)) = (0, b[k].toNat, b.drop (k + 1)) := by rw [lenP_cons, if_pos h1]
      have e2 : lenH (b[k] :: b.drop (k + 1)) = 1 := by rw [lenH_cons, if_pos h1]
      rw [e1, e2]
      have h1I : (b[k].toNat : Int) < 128 := by omega
      generalize b[k] = x at *
      clear e1 e2 h1 hl hb
      go_enter Try.func28, Try.ntmps28
      go_wp2
      go_ret3
      exact ⟨rfl, rfl⟩
    by_cases h2 : b[k].toNat ≠ 129
    · have e1 : lenP (b[k] :: b.drop (k + 1)) = (17, 0, []) := by rw [lenP_cons, if_neg h1, if_pos h2]
      have e2 : lenH (b[k] :: b.drop (k + 1)) = 0 := by rw [lenH_cons, if_neg h1, if_pos h2]
      rw [e1, e2]
      have h1I : ¬ (b[k].toNat : Int) < 128 := by omega
      have h2I : ((b[k].toNat : Int) != 129) = true := by rw [bne_iff_ne]; omega
      generalize b[k] = x at *
      clear e1 e2 h1 h2 hl hb
      go_enter Try.func28, Try.ntmps28
      go_wp2
      go_ret3
      exact ⟨rfl, rfl⟩
    have h1I : ¬ (b[k].toNat : Int) < 128 := by omega
    have h2I : ((b[k].toNat : Int) != 129) = false := by rw [bne_eq_false_iff_eq]; omega
    rcases Nat.lt_or_ge (k + 1) n with hlt2 | hge2
    · obtain ⟨ad', u, e', hu, hc2⟩ := hb.at_ hlt2
      injection e' with e'
      subst e'
      rw [u8s_get b (k + 1) (by omega)] at hu
      injection hu with hu
      subst hu
      rw [drop_two b (k + 1) (by omega)]
      obtain ⟨y0, y1⟩ := u8c b[k + 1]
      by_cases h3 : b[k + 1].toNat < 128
      · have e1 : lenP (b[k] :: b[k + 1] :: b.drop (k + 1 + 1)) = (17, 0, []) := by rw [lenP_cons, if_neg h1, if_neg h2]; simp only; rw [if_pos h3]
        have e2 : lenH (b[k] :: b[k + 1] :: b.drop (k + 1 + 1)) = 0 := by rw [lenH_cons, if_neg h1, if_neg h2]; simp only; rw [if_pos h3]
        rw [e1, e2]
        have h3I : (b[k + 1].toNat : Int) < 128 := by omega
        generalize b[k + 1] = y at *
        generalize b[k] = x at *
        obtain ⟨j, hj⟩ : ∃ j : Nat, k + 1 = j := ⟨_, rfl⟩
        rw [hj] at hc2 hlt2
        have hjI : (k : Int) + 1 = (j : Int) := by omega
        have hwj : wrap64 (j : Int) = (j : Int) := IntWalk.wrap64_in _ ⟨by omega, by omega⟩
        have hk2 : ¬ (n : Int) ≤ (j : Int) := by omega
        have hj0 : (0 : Int) ≤ (j : Int) := by omega
        clear e1 e2 h1 h2 h3 hl hb hw1 hj
        go_enter Try.func28, Try.ntmps28
        go_wp2
        go_ret3
        exact ⟨rfl, rfl⟩
      · have e1 : lenP (b[k] :: b[k + 1] :: b.drop (k + 1 + 1)) = (0, b[k + 1].toNat, b.drop (k + 1 + 1)) := by rw [lenP_cons, if_neg h1, if_neg h2]; simp only; rw [if_neg h3]
        have e2 : lenH (b[k] :: b[k + 1] :: b.drop (k + 1 + 1)) = 2 := by rw [lenH_cons, if_neg h1, if_neg h2]; simp only; rw [if_neg h3]
        rw [e1, e2]
        have h3I : ¬ (b[k + 1].toNat : Int) < 128 := by omega
        generalize b[k + 1] = y at *
        generalize b[k] = x at *
        obtain ⟨j, hj⟩ : ∃ j : Nat, k + 1 = j := ⟨_, rfl⟩
        rw [hj] at hc2 hlt2
        have hjI : (k : Int) + 1 = (j : Int) := by omega
        have hwj : wrap64 (j : Int) = (j : Int) := IntWalk.wrap64_in _ ⟨by omega, by omega⟩
        have hk2 : ¬ (n : Int) ≤ (j : Int) := by omega
        have hj0 : (0 : Int) ≤ (j : Int) := by omega
        clear e1 e2 h1 h2 h3 hl hb hw1 hj
        go_enter Try.func28, Try.ntmps28
        go_wp2
        go_ret3
        exact ⟨rfl, rfl⟩
    · rw [List.drop_eq_nil_of_le (show b.length ≤ k + 1 by omega)]
      have hk2 : (n : Int) ≤ (k : Int) + 1 := by omega
      have e1 : lenP [b[k]] = (3, 0, []) := by rw [lenP_cons, if_neg h1, if_neg h2]
      have e2 : lenH [b[k]] = 0 := by rw [lenH_cons, if_neg h1, if_neg h2]
      rw [e1, e2]
      generalize b[k] = x at *
      clear e1 e2 h1 h2 hl hb
      go_enter Try.func28, Try.ntmps28
      go_wp2
      go_ret3
      exact ⟨rfl, rfl⟩
  · have hkI : (n : Int) ≤ (k : Int) := by omega
    rw [List.drop_eq_nil_of_le (by omega)]
    clear hl hb
    go_enter Try.func28, Try.ntmps28
    go_wp2
    go_ret3
    exact ⟨rfl, rfl⟩
end Go.Proofs.Ytbfodbejdaafaaa
