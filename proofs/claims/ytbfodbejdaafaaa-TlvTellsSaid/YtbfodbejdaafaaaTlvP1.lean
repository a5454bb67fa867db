/- Package tlv: what a tag is, whether one was there already, whether one more may come. -/
import Derived.Test.YtbfodbejdaafaaaRefTlv3
import Derived.Test.YtbfodbejdaafaaaTagItems
namespace Go.Proofs.Ytbfodbejdaafaaa
open Go.RowKit
set_option maxHeartbeats 1000000
set_option linter.unusedVariables false

theorem and31 (x : Int) (h0 : 0 ≤ x) (h1 : x < 255) : (bits .and .i64 x 31 == 31) = decide (x % 32 = 31) := by
  have h : bits .and .i64 x 31 = x % 32 := and_i64b 5 (by decide) _ (by omega) (by omega)
  rw [h, Bool.eq_iff_iff, beq_iff_eq, decide_eq_true_iff]
theorem t_more (x : Int) (h0 : 0 ≤ x) (w : World) :
    Calls Try.prog 36 #[.int .i64 x] w fun e w' => e = .returned (.bool (decide (x < 255 ∧ x % 32 = 31))) ∧ w = w' := by
  by_cases c1 : x < 255
  · have e1 := and31 x h0 c1
    by_cases c2 : x % 32 = 31
    · rw [decide_eq_true c2] at e1
      have hd : decide (x < 255 ∧ x % 32 = 31) = true := decide_eq_true ⟨c1, c2⟩
      rw [hd]
      clear hd c2
      go_enter Try.func36, Try.ntmps36
      go_wp2
      go_ret
      exact ⟨rfl, rfl⟩
    · rw [decide_eq_false c2] at e1
      have hd : decide (x < 255 ∧ x % 32 = 31) = false := decide_eq_false (fun h => c2 h.2)
      rw [hd]
      clear hd c2
      go_enter Try.func36, Try.ntmps36
      go_wp2
      go_ret
      exact ⟨rfl, rfl⟩
  · have hd : decide (x < 255 ∧ x % 32 = 31) = false := decide_eq_false (fun h => c1 h.1)
    rw [hd]
    clear hd
    go_enter Try.func36, Try.ntmps36
    go_wp2
    go_ret
    exact ⟨rfl, rfl⟩
theorem tg_big {t : Int} (h : 255 < t) : decide (tgN t ≠ 0) = (decide (t / 256 < 255 ∧ t / 256 % 32 = 31) && decide (t % 256 < 128)) := by
  rw [← Bool.decide_and, Bool.eq_iff_iff, decide_eq_true_iff, decide_eq_true_iff]
  unfold tgN
  rw [if_neg (by omega)]
  by_cases hc : 255 < t ∧ t / 256 < 255 ∧ t / 256 % 32 = 31 ∧ t % 256 < 128
  · rw [if_pos hc]; omega
  · rw [if_neg hc]; omega
theorem tg_small {t : Int} (h : ¬ 255 < t) : decide (tgN t ≠ 0) = ((decide (0 < t) && decide (t < 255)) && !decide (t < 255 ∧ t % 32 = 31)) := by
  rw [← Bool.decide_and, ← decide_not, ← Bool.decide_and, Bool.eq_iff_iff, decide_eq_true_iff, decide_eq_true_iff]
  unfold tgN
  by_cases hc : 0 < t ∧ t < 255 ∧ t % 32 ≠ 31
  · rw [if_pos hc]; omega
  · rw [if_neg hc, if_neg (by omega)]; omega
theorem and255 (t : Int) (h0 : 0 ≤ t) (h1 : t < 1099511627776) : bits .and .i64 t 255 = t % 256 := and_i64b 8 (by decide) t h0 h1
theorem t_right (t : Int) (h0 : -9223372036854775808 ≤ t) (h1 : t ≤ 9223372036854775807) (w : World) :
    Calls Try.prog 37 #[.int .i64 t] w fun e w' => e = .returned (.bool (decide (tgN t ≠ 0))) ∧ w = w' := by
  by_cases c1 : 255 < t
  · rw [tg_big c1]
    have hm := fun u => t_more (t / 256) (by omega) u
    by_cases cm : t / 256 < 255 ∧ t / 256 % 32 = 31
    · rw [decide_eq_true cm] at hm ⊢
      have ha := and255 t (by omega) (by omega)
      obtain ⟨y, hy⟩ : ∃ y, bits .and .i64 t 255 = y := ⟨_, rfl⟩
      rw [hy] at ha
      rw [← ha]
      have HM := Lib.hid hm
      clear hm cm ha
      by_cases c2 : y < 128
      · rw [decide_eq_true c2]
        go_enter Try.func37, Try.ntmps37
        go_wp2_with (go_at_call 36; refine (HM.out _).mono ?_; rintro e w1 ⟨rfl, rfl⟩)
        go_ret
        exact ⟨rfl, rfl⟩
      · go_enter Try.func37, Try.ntmps37
        go_wp2_with (go_at_call 36; refine (HM.out _).mono ?_; rintro e w1 ⟨rfl, rfl⟩)
        go_ret
        exact ⟨by first | rfl | (rw [decide_eq_false c2]; rfl), rfl⟩
    · rw [decide_eq_false cm] at hm ⊢
      have HM := Lib.hid hm
      clear hm cm
      go_enter Try.func37, Try.ntmps37
      go_wp2_with (go_at_call 36; refine (HM.out _).mono ?_; rintro e w1 ⟨rfl, rfl⟩)
      go_ret
      exact ⟨rfl, rfl⟩
  · rw [tg_small c1]
    by_cases c2 : 0 < t
    · rw [decide_eq_true c2]
      by_cases c3 : t < 255
      · rw [decide_eq_true c3]
        have hm := fun u => t_more t (by omega) u
        obtain ⟨mm, hmm⟩ : ∃ mm, decide (t < 255 ∧ t % 32 = 31) = mm := ⟨_, rfl⟩
        rw [hmm] at hm ⊢
        have HM := Lib.hid hm
        clear hm hmm
        cases mm with
        | true =>
          go_enter Try.func37, Try.ntmps37
          go_wp2_with (go_at_call 36; refine (HM.out _).mono ?_; rintro e w1 ⟨rfl, rfl⟩)
          go_ret
          exact ⟨rfl, rfl⟩
        | false =>
          go_enter Try.func37, Try.ntmps37
          go_wp2_with (go_at_call 36; refine (HM.out _).mono ?_; rintro e w1 ⟨rfl, rfl⟩)
          go_ret
          exact ⟨rfl, rfl⟩
      · rw [decide_eq_false c3]
        go_enter Try.func37, Try.ntmps37
        go_wp2
        go_ret
        exact ⟨rfl, rfl⟩
    · rw [decide_eq_false c2]
      go_enter Try.func37, Try.ntmps37
      go_wp2
      go_ret
      exact ⟨rfl, rfl⟩
theorem t_room (g : Nat) (A : Option Addr) (n c : Nat) (w : World) (h : w.cell? ⟨g, 0, none⟩ = some (.slice A n c)) :
    Calls Try.prog 21 #[.pointer (some ⟨g, 0, none⟩)] w fun e w' => e = .returned (.int .i64 (if n = 20 then 4 else 0)) ∧ w = w' := by
  by_cases h20 : n = 20
  · have e1 : ((n : Int) == 20) = true := by rw [beq_iff_eq]; omega
    rw [if_pos h20]
    clear h20
    go_enter Try.func21, Try.ntmps21
    go_wp2
    go_ret
    exact ⟨rfl, rfl⟩
  · have e1 : ((n : Int) == 20) = false := by rw [beq_eq_false_iff_ne]; omega
    rw [if_neg h20]
    clear h20
    go_enter Try.func21, Try.ntmps21
    go_wp2
    go_ret
    exact ⟨rfl, rfl⟩
theorem t_like (g : Nat) (t q : Int) (dv : Value) (w : World) (h : w.cell? ⟨g, 1, none⟩ = some (.int .i64 t)) :
    Calls Try.prog 39 #[.pointer (some ⟨g, 0, none⟩), .agg #[.int .i64 q, dv]] w fun e w' => e = .returned (.bool (q == t)) ∧ Fr No w w' := by
  have hb : ∀ t', Bk (w.alloc (.cells #[.int .i64 q, dv] t')) w.heap.size t' [.int .i64 q, dv] := fun t' => Bk.new w t' _
  have h0 : ∀ t', (w.alloc (.cells #[.int .i64 q, dv] t')).cell? ⟨w.heap.size, 0, none⟩ = some (.int .i64 q) := fun t' => (hb t').cell 0
  have h1 : ∀ o, (w.alloc o).cell? ⟨g, 1, none⟩ = some (.int .i64 t) := fun o => ((Fr.refl No w).alloc o).cell h (fun x => x)
  clear hb
  go_enter Try.func39, Try.ntmps39
  go_wp2
  go_quiet (fail)
  go_wp2
  go_ret
  exact ⟨rfl, ((Fr.refl No w).alloc _).drewN _⟩
end Go.Proofs.Ytbfodbejdaafaaa
