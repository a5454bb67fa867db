/- The statements' own tags: whether one is a tag, whether it was there already. -/
import Derived.Test.YtbfodbejdaafaaaMsgItems
import Derived.Test.YtbfodbejdaafaaaTlvMath
import Derived.Test.YtbfodbejdaafaaaBits
import Derived.LoopTactic
namespace Go.Proofs.Ytbfodbejdaafaaa
open Go.RowKit
set_option maxHeartbeats 1000000
set_option linter.unusedVariables false

theorem tag_next (ad : Addr) (i j : Nat) : ad.add (i + (j + 1)) = ⟨(ad.add i).block, (ad.add i).off + (j + 1), none⟩ := by
  unfold Addr.add
  by_cases h : i = 0
  · subst h
    simp
  · simp [h]
    omega
/-- the cells of an element of two -/
theorem two_cells {α : Type} {I : World → (Nat → Prop) → List Value → α → Prop} {w : World} {N : Nat → Prop} {A : Option Addr} {n c : Nat} {ls : List α} (hI : ItemOk 2 I) (h : RdI 2 I w N A n c ls) {k : Nat} (hk : k < n) :
    ∃ ad cs a, A = some ad ∧ I w N cs a ∧ ls[k]? = some a ∧ (∀ u, cs[0]? = some u → w.cell? (ad.add (k * 2)) = some u) ∧ (∀ u, cs[1]? = some u → w.cell? ⟨(ad.add (k * 2)).block, (ad.add (k * 2)).off + 1, none⟩ = some u) := by
  have hl := h.len hI (by omega)
  obtain ⟨ad, cs, rfl, hi, hc⟩ := h.at_ hI (by omega) (i := k) (by omega)
  exact ⟨ad, cs, _, rfl, hi, List.getElem?_eq_getElem (by omega), fun u hu => by have := hc 0 u hu; rwa [Nat.add_zero] at this, fun u hu => by rw [← tag_next ad (k * 2) 0]; exact hc 1 u hu⟩
theorem and_i64b (i : Nat) (hi : i ≤ 40) (x : Int) (h0 : 0 ≤ x) (h1 : x < 1099511627776) : bits .and .i64 x (2 ^ i - 1) = x % 2 ^ i :=
  bits_mask .i64 40 (by decide) (fun n a b => by rw [IntKind.wrap_i64]; have : (2 : Int) ^ 40 = 1099511627776 := by decide
                                                 omega) i hi x h0 (by have : (2 : Int) ^ 40 = 1099511627776 := by decide
                                                                      omega)
theorem r_tagged (t : Int) (h0 : -9223372036854775808 ≤ t) (h1 : t ≤ 9223372036854775807) (w : World) :
    Calls Try.prog 26 #[.int .i64 t] w fun e w' => e = .returned (.int .i64 (tgN t : Int)) ∧ w = w' := by
  obtain ⟨m, hm⟩ : ∃ m, tgN t = m := ⟨_, rfl⟩
  have hcs : (t ≤ 0 ∧ m = 0) ∨ (((0 < t ∧ t < 255) ∧ (bits .and .i64 t 31 != 31) = true) ∧ m = 1) ∨ (((0 < t ∧ t < 255) ∧ (bits .and .i64 t 31 != 31) = false) ∧ m = 0) ∨ (t = 255 ∧ m = 0) ∨ ((255 < t ∧ 255 ≤ t / 256) ∧ m = 0) ∨
      (((255 < t ∧ t / 256 < 255) ∧ (bits .and .i64 (t / 256) 31 == 31) = false) ∧ m = 0) ∨ (((255 < t ∧ t / 256 < 255) ∧ (bits .and .i64 (t / 256) 31 == 31) = true ∧ 128 ≤ bits .and .i64 t 255) ∧ m = 0) ∨ (((255 < t ∧ t / 256 < 255) ∧ (bits .and .i64 (t / 256) 31 == 31) = true ∧ bits .and .i64 t 255 < 128) ∧ m = 2) := by
    unfold tgN at hm
    by_cases c0 : t ≤ 0
    · exact .inl ⟨c0, by rw [if_neg (by omega), if_neg (by omega)] at hm; exact hm.symm⟩
    right
    by_cases c1 : t < 255
    · have e := and_i64b 5 (by decide) t (by omega) (by omega)
      have e : bits .and .i64 t 31 = t % 32 := e
      rw [e]
      by_cases c2 : t % 32 = 31
      · right; left
        refine ⟨⟨⟨by omega, c1⟩, by simp [c2]⟩, ?_⟩
        rw [if_neg (by omega), if_neg (by omega)] at hm; exact hm.symm
      · left
        refine ⟨⟨⟨by omega, c1⟩, by simp [c2]⟩, ?_⟩
        rw [if_pos (by omega)] at hm; exact hm.symm
    right; right
    by_cases c2 : t = 255
    · left
      refine ⟨c2, ?_⟩
      rw [if_neg (by omega), if_neg (by omega)] at hm; exact hm.symm
    right
    by_cases c3 : 255 ≤ t / 256
    · left
      refine ⟨⟨by omega, c3⟩, ?_⟩
      rw [if_neg (by omega), if_neg (by omega)] at hm; exact hm.symm
    right
    have e : bits .and .i64 (t / 256) 31 = t / 256 % 32 := and_i64b 5 (by decide) (t / 256) (by omega) (by omega)
    have e2 : bits .and .i64 t 255 = t % 256 := and_i64b 8 (by decide) t (by omega) (by omega)
    rw [e, e2]
    by_cases c4 : t / 256 % 32 = 31
    · right
      by_cases c5 : t % 256 < 128
      · right
        refine ⟨⟨⟨by omega, by omega⟩, by simp [c4], c5⟩, ?_⟩
        rw [if_neg (by omega), if_pos (by omega)] at hm; exact hm.symm
      · left
        refine ⟨⟨⟨by omega, by omega⟩, by simp [c4], by omega⟩, ?_⟩
        rw [if_neg (by omega), if_neg (by omega)] at hm; exact hm.symm
    · left
      refine ⟨⟨⟨by omega, by omega⟩, by simp [c4]⟩, ?_⟩
      rw [if_neg (by omega), if_neg (by omega)] at hm; exact hm.symm
  rw [hm]
  clear hm
  go_enter Try.func26, Try.ntmps26
  rcases hcs with ⟨c1, rfl⟩ | ⟨⟨⟨c1, c2⟩, c3⟩, rfl⟩ | ⟨⟨⟨c1, c2⟩, c3⟩, rfl⟩ | ⟨rfl, rfl⟩ | ⟨⟨c1, c2⟩, rfl⟩ | ⟨⟨⟨c1, c2⟩, c3⟩, rfl⟩ | ⟨⟨⟨c1, c2⟩, c3, c4⟩, rfl⟩ | ⟨⟨⟨c1, c2⟩, c3, c4⟩, rfl⟩
  all_goals
    (try have c8 : ¬ t < 255 := by omega)
    (try have c9 : 0 < t := by omega)
    go_wp2
    go_ret
    exact ⟨rfl, rfl⟩
theorem RdI.take2 {w : World} {N : Nat → Prop} {A : Option Addr} {n c : Nat} {ls : List (Int × List UInt8)} (h : RdI 2 TagI w N A n c ls) {i : Nat} (hi : i ≤ n) : RdI 2 TagI w N A i c (ls.take i) := by
  have hl := h.len tag_ok (by omega)
  obtain ⟨xs, hr, he⟩ := h.xs
  refine ⟨⟨xs.take (i * 2), ⟨by rw [List.length_take, hr.len]; omega, by have := hr.cap; omega, hr.max, hr.nil, fun ad e j u hu => hr.cells ad e j u ?_⟩, ?_⟩, fun ad e h0 => h.blk ad e (by omega)⟩
  · rw [List.getElem?_take] at hu
    split at hu
    · exact hu
    · cases hu
  · have key : ∀ (ls : List (Int × List UInt8)) (xs : List Value) (i : Nat), ItemsF TagI w N xs ls → ItemsF TagI w N (xs.take (i * 2)) (ls.take i) := by
      intro ls
      induction ls with
      | nil => intro xs i h; rw [show xs = [] from h]; simp [ItemsF]
      | cons a ls ih =>
        intro xs i h
        cases i with
        | zero => simp [ItemsF]
        | succ i =>
          obtain ⟨cs, rest, e, h1, h2⟩ := h
          refine ⟨cs, rest.take (i * 2), ?_, h1, ih rest i h2⟩
          have hcl := tag_ok.len h1
          rw [e, show (i + 1) * 2 = cs.length + i * 2 by omega, List.take_append, List.take_of_length_le (by omega), Nat.add_sub_cancel_left]
    exact key ls xs i he
theorem r_known {N : Nat → Prop} {A : Option Addr} {n c : Nat} {ls : List (Int × List UInt8)} (t : Int) (w : World) (h : RdI 2 TagI w N A n c ls) :
    Calls Try.prog 27 #[.slice A n c, .int .i64 t] w fun e w' => e = .returned (.bool (ls.any (fun a => a.1 == t))) ∧ w = w' := by
  have hl := h.len tag_ok (by omega)
  have htop := h.top
  generalize hres : ls.any (fun a => a.1 == t) = res
  have HRES := Lib.hid hres; have HL := Lib.hid hl; have H := Lib.hid h
  clear hres hl h
  go_enter Try.func27, Try.ntmps27
  go_wp2
  go_loop [5] (fun v => ∃ k : Nat, k ≤ n ∧ v = .int .i64 (k : Int) ∧ ∀ j a, j < k → ls[j]? = some a → a.1 ≠ t) (fun v => n - (intOf v).toNat)
  case atStart => exact ⟨0, by omega, rfl, fun j a hj => by omega⟩
  case round =>
    obtain ⟨k, hk, rfl, hall⟩ := hrel
    have HALL := Lib.hid hall
    clear hall
    rcases Nat.lt_or_ge k n with hkn | hge
    · obtain ⟨ad, cs, a, rfl, ⟨B, m, d, rfl, h1, h2, h3, h4⟩, hak, hc0, hc1⟩ := two_cells tag_ok H.out hkn
      have c0 := hc0 _ rfl
      obtain ⟨P, hP⟩ : ∃ P, ad.add (k * 2) = P := ⟨_, rfl⟩
      rw [hP] at c0
      have hkI : (k : Int) < (n : Int) := by omega
      have HAK := Lib.hid hak
      clear hc0 hc1 h1 h2 h3 hak
      obtain ⟨q, hq⟩ : ∃ q : Int, a.1 = q := ⟨_, rfl⟩
      rw [hq] at c0
      have HQ := Lib.hid hq
      clear hq
      by_cases hqt : q = t
      · subst hqt
        have hw : res = true := by
          rw [← HRES.out, List.any_eq_true]
          exact ⟨a, List.mem_of_getElem? HAK.out, by rw [HQ.out]; exact beq_self_eq_true _⟩
        have HW := Lib.hid hw
        clear hw
        go_wp2
        go_ret
        exact ⟨by rw [HW.out]; rfl, rfl⟩
      · have HQT := Lib.hid hqt
        go_wp2
        go_round
        case rel => exact ⟨k + 1, by omega, by go_num, fun j b hj hb => by
          by_cases hjk : j = k
          · subst hjk
            have := HAK.out.symm.trans hb
            injection this with this
            rw [← this, HQ.out]
            exact HQT.out
          · exact HALL.out j b (by omega) hb⟩
        case measure => simp [intOf]; omega
    · obtain rfl : k = n := by omega
      have hw : res = false := by
        rw [← HRES.out, List.any_eq_false]
        intro b hb
        obtain ⟨j, hj, rfl⟩ := List.getElem_of_mem hb
        rw [beq_iff_eq]
        exact HALL.out j _ (by rw [HL.out] at hj; exact hj) (List.getElem?_eq_getElem hj)
      have HW := Lib.hid hw
      clear hw
      go_wp2
      go_ret
      exact ⟨by rw [HW.out]; rfl, rfl⟩
end Go.Proofs.Ytbfodbejdaafaaa
