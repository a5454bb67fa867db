/- Package tlv: whether the tag under way is one, which no other one has. -/
import Derived.Test.YtbfodbejdaafaaaTlvP1
import Derived.LoopTactic
namespace Go.Proofs.Ytbfodbejdaafaaa
open Go.RowKit
set_option maxHeartbeats 1000000
set_option linter.unusedVariables false

/-- slices.IndexFunc by the tag under way -/
theorem t_index (g : Nat) (t : Int) {N : Nat → Prop} {A : Option Addr} {n c : Nat} {ls : List (Int × List UInt8)} (w : World) (h : RdI 2 TagI w N A n c ls) (ht : w.cell? ⟨g, 1, none⟩ = some (.int .i64 t)) :
    Calls Try.prog 47 #[.slice A n c, .func (.func 39) #[.pointer (some ⟨g, 0, none⟩)] #[]] w fun e w' => ∃ z : Int, e = .returned (.int .i64 z) ∧ decide (0 ≤ z) = ls.any (fun a => a.1 == t) ∧ Fr No w w' := by
  have hl := h.len tag_ok (by omega)
  have htop := h.top
  generalize hres : ls.any (fun a => a.1 == t) = res
  have HRES := Lib.hid hres; have HL := Lib.hid hl; have H := Lib.hid h; have HT := Lib.hid ht
  clear hres hl h ht
  go_enter Try.func47, Try.ntmps47
  go_wp2
  go_loopw [8] (fun v wr => ∃ k : Nat, k ≤ n ∧ v = .int .i64 (k : Int) ∧ (∀ j a, j < k → ls[j]? = some a → a.1 ≠ t) ∧ Fr No w wr) (fun v _ => n - (intOf v).toNat)
  case atStart => exact ⟨0, by omega, rfl, fun j a hj => by omega, Fr.refl _ _⟩
  case round =>
    obtain ⟨k, hk, rfl, hall, hfr⟩ := hrel
    have HALL := Lib.hid hall; have HFR := Lib.hid hfr
    clear hall hfr
    rcases Nat.lt_or_ge k n with hkn | hge
    · obtain ⟨ad, cs, a, rfl, ⟨B, m, d, rfl, h1, h2, h3, h4⟩, hak, hc0, hc1⟩ := two_cells tag_ok (H.out.no tag_ok HFR.out) hkn
      have c0 := hc0 _ rfl
      have c1 := hc1 _ rfl
      obtain ⟨P, hP⟩ : ∃ P, ad.add (k * 2) = P := ⟨_, rfl⟩
      rw [hP] at c0 c1
      have hkI : (k : Int) < (n : Int) := by omega
      have HAK := Lib.hid hak
      have ht := HFR.out.cell HT.out (fun x => x)
      obtain ⟨q, hq⟩ : ∃ q : Int, a.1 = q := ⟨_, rfl⟩
      rw [hq] at c0
      have HQ := Lib.hid hq
      have hlk := t_like g t q (.slice B m d) wr ht
      clear hc0 hc1 h1 h2 h3 hak hq ht
      by_cases hqt : q = t
      · subst hqt
        have hw : res = true := by
          rw [← HRES.out, List.any_eq_true]
          exact ⟨a, List.mem_of_getElem? HAK.out, by rw [HQ.out]; exact beq_self_eq_true _⟩
        rw [beq_self_eq_true] at hlk
        have HW := Lib.hid hw; have HLK := Lib.hid hlk
        clear hw hlk
        go_wp2_with (go_at_call 39; refine (HLK.out).mono ?_; rintro e w1 ⟨rfl, f1⟩; have F1 := Lib.hid f1; clear f1)
        go_ret
        exact ⟨_, rfl, by rw [HW.out]; simp, HFR.out.trans F1.out⟩
      · have hqb : (q == t) = false := by rw [beq_eq_false_iff_ne]; exact hqt
        rw [hqb] at hlk
        have HQT := Lib.hid hqt; have HLK := Lib.hid hlk
        clear hqt hqb hlk
        go_wp2_with (go_at_call 39; refine (HLK.out).mono ?_; rintro e w1 ⟨rfl, f1⟩; have F1 := Lib.hid f1; clear f1)
        go_roundw
        case rel => exact ⟨k + 1, by omega, by go_num, fun j b hj hb => by
          by_cases hjk : j = k
          · subst hjk
            have := HAK.out.symm.trans hb
            injection this with this
            rw [← this, HQ.out]
            exact HQT.out
          · exact HALL.out j b (by omega) hb, HFR.out.trans F1.out⟩
        case measure => simp [intOf]; omega
    · obtain rfl : k = n := by omega
      have hw : res = false := by
        rw [← HRES.out, List.any_eq_false]
        intro b hb
        obtain ⟨j, hj, rfl⟩ := List.getElem_of_mem hb
        rw [beq_iff_eq]
        exact HALL.out j _ (by rw [HL.out] at hj; exact hj) (List.getElem?_eq_getElem hj)
      have HW := Lib.hid hw
      clear hw
      go_wp2
      go_ret
      exact ⟨_, rfl, by rw [HW.out]; simp, HFR.out⟩
theorem t_contains (g : Nat) (t : Int) {N : Nat → Prop} {A : Option Addr} {n c : Nat} {ls : List (Int × List UInt8)} (w : World) (h : RdI 2 TagI w N A n c ls) (ht : w.cell? ⟨g, 1, none⟩ = some (.int .i64 t)) :
    Calls Try.prog 38 #[.slice A n c, .func (.func 39) #[.pointer (some ⟨g, 0, none⟩)] #[]] w fun e w' => e = .returned (.bool (ls.any (fun a => a.1 == t))) ∧ Fr No w w' := by
  have H := Lib.hid (t_index g t w h ht)
  generalize ls.any (fun a => a.1 == t) = res at *
  clear h ht
  go_enter Try.func38, Try.ntmps38
  go_wp2_with (go_at_call 47; refine (H.out).mono ?_; rintro e w1 ⟨z, rfl, hz, f1⟩; have F1 := Lib.hid f1; have HZ := Lib.hid hz; clear f1 hz)
  go_ret
  exact ⟨by first | (rw [← HZ.out]; rfl) | rw [← HZ.out], F1.out⟩
/-- what stands in the way of a tag -/
def freshE (t : Int) (p : List (Int × List UInt8)) : Int := if tgN t = 0 ∨ p.any (fun a => a.1 == t) = true then 18 else 0
theorem t_fresh (g : Nat) (t : Int) (h0 : -9223372036854775808 ≤ t) (h1 : t ≤ 9223372036854775807) {N : Nat → Prop} {A : Option Addr} {n c : Nat} {ls : List (Int × List UInt8)} (w : World) (h : RdI 2 TagI w N A n c ls)
    (ha : w.cell? ⟨g, 0, none⟩ = some (.slice A n c)) (ht : w.cell? ⟨g, 1, none⟩ = some (.int .i64 t)) :
    Calls Try.prog 23 #[.pointer (some ⟨g, 0, none⟩)] w fun e w' => e = .returned (.int .i64 (freshE t ls)) ∧ Fr No w w' := by
  have hr := fun u => t_right t h0 h1 u
  have hc := t_contains g t w h ht
  have e : freshE t ls = if decide (tgN t ≠ 0) = false ∨ ls.any (fun a => a.1 == t) = true then 18 else 0 := by
    unfold freshE
    congr 1
    simp
  rw [e]
  generalize decide (tgN t ≠ 0) = r at *
  generalize ls.any (fun a => a.1 == t) = k at *
  have HR := Lib.hid hr; have HC := Lib.hid hc
  clear hr hc e h h0 h1
  cases r with
  | false =>
    rw [if_pos (Or.inl rfl)]
    go_enter Try.func23, Try.ntmps23
    go_wp2_with (go_at_call 37; refine (HR.out _).mono ?_; rintro e w1 ⟨rfl, rfl⟩)
    go_ret
    exact ⟨rfl, Fr.refl _ _⟩
  | true =>
    cases k with
    | true =>
      rw [if_pos (Or.inr rfl)]
      go_enter Try.func23, Try.ntmps23
      go_wp2_with (first
        | (go_at_call 37; refine (HR.out _).mono ?_; rintro e w1 ⟨rfl, rfl⟩)
        | (go_at_call 38; refine (HC.out).mono ?_; rintro e w1 ⟨rfl, f1⟩; have F1 := Lib.hid f1; clear f1))
      go_ret
      exact ⟨rfl, F1.out⟩
    | false =>
      rw [if_neg (by simp)]
      go_enter Try.func23, Try.ntmps23
      go_wp2_with (first
        | (go_at_call 37; refine (HR.out _).mono ?_; rintro e w1 ⟨rfl, rfl⟩)
        | (go_at_call 38; refine (HC.out).mono ?_; rintro e w1 ⟨rfl, f1⟩; have F1 := Lib.hid f1; clear f1))
      go_ret
      exact ⟨rfl, F1.out⟩
end Go.Proofs.Ytbfodbejdaafaaa
