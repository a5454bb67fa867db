/- What Write of maps answers, and lists that rise, number by number: plain functions on lists, no program. -/
import Derived.Test.YtcjfikeephbceaaBmMath2
namespace Go.Proofs.Ytcjfikeephbceaa
set_option linter.unusedVariables false

/-- what Write answers -/
def wmE (l : List Int) : Int := if risesB l then 0 else 1
def wmR (l : List Int) : List UInt8 := if risesB l then mapOf l else []

theorem rises_take {l : List Int} (h : risesB l = true) (k : Nat) : risesB (l.take k) = true := by
  obtain ⟨h1, h2⟩ := (risesB_iff l).1 h
  exact (risesB_iff _).2 ⟨h1.sublist (List.take_sublist k l), fun n hn => h2 n (List.mem_of_mem_take hn)⟩
theorem rises_snoc {l : List Int} {k : Nat} (hk : k < l.length) (h : risesB (l.take k) = true) :
    risesB (l.take (k + 1)) = (mayB l[k] && (decide (k = 0) || decide (l.getD (k - 1) 0 < l[k]))) := by
  obtain ⟨h1, h2⟩ := (risesB_iff _).1 h
  rw [Bool.eq_iff_iff, risesB_iff, List.take_succ_eq_append_getElem hk, List.pairwise_append]
  simp only [Bool.and_eq_true, Bool.or_eq_true, decide_eq_true_eq, List.mem_append, List.mem_singleton]
  constructor
  · rintro ⟨⟨_, _, h3⟩, h4⟩
    refine ⟨h4 _ (.inr rfl), ?_⟩
    by_cases h0 : k = 0
    · exact .inl h0
    · refine .inr (h3 _ ?_ _ rfl)
      rw [List.getD, List.getElem?_eq_getElem (by omega), Option.getD_some]
      exact List.mem_take_iff_getElem.2 ⟨k - 1, by omega, rfl⟩
  · rintro ⟨h3, h4⟩
    refine ⟨⟨h1, by simp, ?_⟩, ?_⟩
    · rintro a ha b rfl
      rcases h4 with rfl | h4
      · simp at ha
      · obtain ⟨i, hi, rfl⟩ := List.mem_take_iff_getElem.1 ha
        rw [List.getD, List.getElem?_eq_getElem (by omega), Option.getD_some] at h4
        by_cases hik : i = k - 1
        · subst hik; exact h4
        · have hp := List.pairwise_iff_getElem.1 h1 i (k - 1) (by rw [List.length_take]; omega) (by rw [List.length_take]; omega) (by omega)
          rw [List.getElem_take, List.getElem_take] at hp
          omega
    · rintro n (hn | rfl)
      · exact h2 n hn
      · exact h3
theorem mapOf_len {l : List Int} (h : risesB l = true) : (mapOf l).length = 8 ∨ (mapOf l).length = 16 := by
  rw [(mapOf_spec l ((risesB_iff l).1 h).2).1]
  unfold sizeOfMap
  split <;> simp

/-- the number ahead of the k-th, 1 ahead of the first -/
def ahd (l : List Int) (k : Nat) : Int := if k = 0 then 1 else l.getD (k - 1) 0
theorem ahd_succ (l : List Int) (k : Nat) (hk : k < l.length) : ahd l (k + 1) = l[k] := by
  unfold ahd
  rw [if_neg (by omega), Nat.add_sub_cancel, List.getD, List.getElem?_eq_getElem hk]
  rfl
theorem ahd_pos {l : List Int} {k : Nat} (hk : k ≤ l.length) (h : risesB (l.take k) = true) : 1 ≤ ahd l k := by
  unfold ahd
  split
  · omega
  · rename_i h0
    have h2 := ((risesB_iff _).1 h).2
    have hm : l.getD (k - 1) 0 ∈ l.take k := by
      rw [List.getD, List.getElem?_eq_getElem (by omega), Option.getD_some]
      exact List.mem_take_iff_getElem.2 ⟨k - 1, by omega, rfl⟩
    have := mayB_iff.1 (h2 _ hm)
    omega
theorem rises_next {l : List Int} {k : Nat} (hk : k < l.length) (h : risesB (l.take k) = true) : risesB (l.take (k + 1)) = (decide (ahd l k < l[k]) && (decide (l[k] ≠ 65) && decide (l[k] ≤ 128))) := by
  rw [rises_snoc hk h, Bool.eq_iff_iff]
  have hp := ahd_pos (by omega : k ≤ l.length) h
  simp only [Bool.and_eq_true, Bool.or_eq_true, decide_eq_true_eq, mayB_iff]
  unfold ahd at hp ⊢
  by_cases h0 : k = 0
  · rw [if_pos h0]
    omega
  · rw [if_neg h0] at hp ⊢
    omega
end Go.Proofs.Ytcjfikeephbceaa
