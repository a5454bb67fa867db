/- The texts RefTlv3, TlvP1, TlvP2, RefTlv4, TlvP3, TlvP4, joined. -/
import Derived.Test.YthlgnmgjfgbffaaGreatDoorL18
import Derived.Deep.CutRange
import Derived.LoopTactic
import Derived.Test.YthlgnmgjfgbffaaGreatDoorL03
import Derived.Test.YthlgnmgjfgbffaaGreatDoorL13
/- The statements' own tags of bytes. -/
namespace Go.Proofs.YthlgnmgjfgbffaaGreatDoor
open Go.RowKit
set_option maxHeartbeats 2000000
set_option linter.unusedVariables false

/-- tags that were made anew -/
def TagsTo (L : List TagL) (E : Int) (w : World) (e : Ending) (w' : World) : Prop := ∃ v, e = .returned (.tuple #[v, .int .i64 E]) ∧
  OwnI 2 TagI w' w.heap.size 68 (fun i => w.heap.size ≤ i ∧ i < w'.heap.size) v L.length L ∧ Fr No w w'
theorem tags_err {w w' : World} {E : Int} (hf : Fr No w w') : TagsTo [] E w (.returned (.tuple #[.slice none 0 0, .int .i64 E])) w' := ⟨_, rfl, OwnI.nil_ _ _ _ _ _ _, hf⟩
theorem parF_at (b : List UInt8) (p : List TagL) (k : Nat) (hk : k < b.length) : parF b.length p (b.drop k) = if 20 ≤ p.length then (4, []) else match tagP (b.drop k) with
    | none => (3, [])
    | some (t, q) => if tgN t = 0 ∨ p.any (fun x => x.1 == t) = true then (18, []) else
      if (lenP q).1 ≠ 0 then ((lenP q).1, []) else
      if (lenP q).2.2.length < (lenP q).2.1 then (3, []) else parF b.length (p ++ [(t, (lenP q).2.2.take (lenP q).2.1)]) ((lenP q).2.2.drop (lenP q).2.1) := by
  obtain ⟨f, hf⟩ : ∃ f, b.length = f + 1 := ⟨b.length - 1, by omega⟩
  rw [drop_two b k hk, hf, parF_cons]
  by_cases h20 : 20 ≤ p.length
  · rw [if_pos h20, if_pos h20]
  rw [if_neg h20, if_neg h20]
  cases ht : tagP (b[k] :: b.drop (k + 1)) with
  | none => rfl
  | some x =>
    obtain ⟨t, q⟩ := x
    have h1 := tagP_less ht
    have h2 := lenP_less q
    simp only [List.length_cons, List.length_drop] at h1
    have key : parF f (p ++ [(t, (lenP q).2.2.take (lenP q).2.1)]) ((lenP q).2.2.drop (lenP q).2.1) = parF (f + 1) (p ++ [(t, (lenP q).2.2.take (lenP q).2.1)]) ((lenP q).2.2.drop (lenP q).2.1) := by
      refine parF_fuel _ _ _ _ ?_ ?_
      · rw [List.length_drop]; omega
      · rw [List.length_drop]; omega
    simp only [key]
/-- the tag at a place: cut, of one byte, of two -/
theorem tagP_at (b : List UInt8) (k : Nat) (hk : k < b.length) : (b[k].toNat % 32 = 31 ∧ b[k].toNat ≠ 255 ∧ b.length ≤ k + 1 ∧ tagP (b.drop k) = none) ∨
    (¬ (b[k].toNat % 32 = 31 ∧ b[k].toNat ≠ 255) ∧ tagP (b.drop k) = some ((b[k].toNat : Int), b.drop (k + 1))) ∨
    (∃ h : k + 1 < b.length, b[k].toNat % 32 = 31 ∧ b[k].toNat ≠ 255 ∧ tagP (b.drop k) = some (((b[k].toNat * 256 + b[k + 1].toNat : Nat) : Int), b.drop (k + 2))) := by
  rw [drop_two b k hk, tagP_cons]
  by_cases h : b[k].toNat % 32 = 31 ∧ b[k].toNat ≠ 255
  · simp only [if_pos h]
    rcases Nat.lt_or_ge (k + 1) b.length with h1 | h1
    · right; right
      refine ⟨h1, h.1, h.2, ?_⟩
      rw [drop_two b (k + 1) h1]
    · left
      refine ⟨h.1, h.2, h1, ?_⟩
      rw [List.drop_eq_nil_of_le h1]
  · right; left
    simp only [if_neg h]
    exact ⟨h, trivial⟩
theorem or_t64 (x y : Nat) (hx : x < 256) (hy : y < 256) : bits .or .i64 ((x : Int) * 256) (y : Int) = ((x * 256 + y : Nat) : Int) := by
  have e40 : (2 : Int) ^ 40 = 1099511627776 := by decide
  have n40 : (2 : Nat) ^ 40 = 1099511627776 := by decide
  have hk : ∀ n : Int, 0 ≤ n → n < 2 ^ 40 → IntKind.i64.wrap n = n := by
    intro n a b
    rw [IntKind.wrap_i64]
    omega
  have h := (bits_nat .i64 40 (by decide) hk (x * 256) y (by omega) (by omega)).2
  rw [show ((x : Int) * 256) = ((x * 256 : Nat) : Int) by omega, h]
  congr 1
  have := Nat.two_pow_add_eq_or_of_lt (i := 8) (b := y) (by omega) x
  rw [show x * 256 = 2 ^ 8 * x from by omega, this]
end Go.Proofs.YthlgnmgjfgbffaaGreatDoor
/- Package tlv: what a tag is, whether one was there already, whether one more may come. -/
namespace Go.Proofs.YthlgnmgjfgbffaaGreatDoor
open Go.RowKit
set_option maxHeartbeats 1000000
set_option linter.unusedVariables false
set_option maxRecDepth 20000

theorem and31T (x : Int) (h0 : 0 ≤ x) (h1 : x < 255) : (bits .and .i64 x 31 == 31) = decide (x % 32 = 31) := by
  have h : bits .and .i64 x 31 = x % 32 := and_i64b 5 (by decide) _ (by omega) (by omega)
  rw [h, Bool.eq_iff_iff, beq_iff_eq, decide_eq_true_iff]
theorem t_more (x : Int) (h0 : 0 ≤ x) (w : World) :
    Calls Tryz.prog 147 #[.int .i64 x] w fun e w' => e = .returned (.bool (decide (x < 255 ∧ x % 32 = 31))) ∧ w = w' := by
  by_cases c1 : x < 255
  · have e1 := and31T x h0 c1
    by_cases c2 : x % 32 = 31
    · rw [decide_eq_true c2] at e1
      have hd : decide (x < 255 ∧ x % 32 = 31) = true := decide_eq_true ⟨c1, c2⟩
      rw [hd]
      clear hd c2
      go_enter Tryz.func147, Tryz.ntmps147
      go_wp2
      go_ret
      exact ⟨rfl, rfl⟩
    · rw [decide_eq_false c2] at e1
      have hd : decide (x < 255 ∧ x % 32 = 31) = false := decide_eq_false (fun h => c2 h.2)
      rw [hd]
      clear hd c2
      go_enter Tryz.func147, Tryz.ntmps147
      go_wp2
      go_ret
      exact ⟨rfl, rfl⟩
  · have hd : decide (x < 255 ∧ x % 32 = 31) = false := decide_eq_false (fun h => c1 h.1)
    rw [hd]
    clear hd
    go_enter Tryz.func147, Tryz.ntmps147
    go_wp2
    go_ret
    exact ⟨rfl, rfl⟩
theorem tg_big {t : Int} (h : 255 < t) : decide (tgN t ≠ 0) = (decide (t / 256 < 255 ∧ t / 256 % 32 = 31) && decide (t % 256 < 128)) := by
  rw [← Bool.decide_and, Bool.eq_iff_iff, decide_eq_true_iff, decide_eq_true_iff]
  unfold tgN
  rw [if_neg (by omega)]
  by_cases hc : 255 < t ∧ t / 256 < 255 ∧ t / 256 % 32 = 31 ∧ t % 256 < 128
  · rw [if_pos hc]; omega
  · rw [if_neg hc]; omega
theorem tg_small {t : Int} (h : ¬ 255 < t) : decide (tgN t ≠ 0) = ((decide (0 < t) && decide (t < 255)) && !decide (t < 255 ∧ t % 32 = 31)) := by
  rw [← Bool.decide_and, ← decide_not, ← Bool.decide_and, Bool.eq_iff_iff, decide_eq_true_iff, decide_eq_true_iff]
  unfold tgN
  by_cases hc : 0 < t ∧ t < 255 ∧ t % 32 ≠ 31
  · rw [if_pos hc]; omega
  · rw [if_neg hc, if_neg (by omega)]; omega
theorem and255 (t : Int) (h0 : 0 ≤ t) (h1 : t < 1099511627776) : bits .and .i64 t 255 = t % 256 := and_i64b 8 (by decide) t h0 h1
theorem t_right (t : Int) (h0 : -9223372036854775808 ≤ t) (h1 : t ≤ 9223372036854775807) (w : World) :
    Calls Tryz.prog 148 #[.int .i64 t] w fun e w' => e = .returned (.bool (decide (tgN t ≠ 0))) ∧ w = w' := by
  by_cases c1 : 255 < t
  · rw [tg_big c1]
    have hm := fun u => t_more (t / 256) (by omega) u
    by_cases cm : t / 256 < 255 ∧ t / 256 % 32 = 31
    · rw [decide_eq_true cm] at hm ⊢
      have ha := and255 t (by omega) (by omega)
      obtain ⟨y, hy⟩ : ∃ y, bits .and .i64 t 255 = y := ⟨_, rfl⟩
      rw [hy] at ha
      rw [← ha]
      have HM := Lib.hid hm
      clear hm cm ha
      by_cases c2 : y < 128
      · rw [decide_eq_true c2]
        go_enter Tryz.func148, Tryz.ntmps148
        go_wp2_with (go_at_call 147; refine (HM.out _).mono ?_; rintro e w1 ⟨rfl, rfl⟩)
        go_ret
        exact ⟨rfl, rfl⟩
      · go_enter Tryz.func148, Tryz.ntmps148
        go_wp2_with (go_at_call 147; refine (HM.out _).mono ?_; rintro e w1 ⟨rfl, rfl⟩)
        go_ret
        exact ⟨by first | rfl | (rw [decide_eq_false c2]; rfl), rfl⟩
    · rw [decide_eq_false cm] at hm ⊢
      have HM := Lib.hid hm
      clear hm cm
      go_enter Tryz.func148, Tryz.ntmps148
      go_wp2_with (go_at_call 147; refine (HM.out _).mono ?_; rintro e w1 ⟨rfl, rfl⟩)
      go_ret
      exact ⟨rfl, rfl⟩
  · rw [tg_small c1]
    by_cases c2 : 0 < t
    · rw [decide_eq_true c2]
      by_cases c3 : t < 255
      · rw [decide_eq_true c3]
        have hm := fun u => t_more t (by omega) u
        obtain ⟨mm, hmm⟩ : ∃ mm, decide (t < 255 ∧ t % 32 = 31) = mm := ⟨_, rfl⟩
        rw [hmm] at hm ⊢
        have HM := Lib.hid hm
        clear hm hmm
        cases mm with
        | true =>
          go_enter Tryz.func148, Tryz.ntmps148
          go_wp2_with (go_at_call 147; refine (HM.out _).mono ?_; rintro e w1 ⟨rfl, rfl⟩)
          go_ret
          exact ⟨rfl, rfl⟩
        | false =>
          go_enter Tryz.func148, Tryz.ntmps148
          go_wp2_with (go_at_call 147; refine (HM.out _).mono ?_; rintro e w1 ⟨rfl, rfl⟩)
          go_ret
          exact ⟨rfl, rfl⟩
      · rw [decide_eq_false c3]
        go_enter Tryz.func148, Tryz.ntmps148
        go_wp2
        go_ret
        exact ⟨rfl, rfl⟩
    · rw [decide_eq_false c2]
      go_enter Tryz.func148, Tryz.ntmps148
      go_wp2
      go_ret
      exact ⟨rfl, rfl⟩
theorem t_room (g : Nat) (A : Option Addr) (n c : Nat) (w : World) (h : w.cell? ⟨g, 0, none⟩ = some (.slice A n c)) :
    Calls Tryz.prog 99 #[.pointer (some ⟨g, 0, none⟩)] w fun e w' => e = .returned (.int .i64 (if n = 20 then 4 else 0)) ∧ w = w' := by
  by_cases h20 : n = 20
  · have e1 : ((n : Int) == 20) = true := by rw [beq_iff_eq]; omega
    rw [if_pos h20]
    clear h20
    go_enter Tryz.func99, Tryz.ntmps99
    go_wp2
    go_ret
    exact ⟨rfl, rfl⟩
  · have e1 : ((n : Int) == 20) = false := by rw [beq_eq_false_iff_ne]; omega
    rw [if_neg h20]
    clear h20
    go_enter Tryz.func99, Tryz.ntmps99
    go_wp2
    go_ret
    exact ⟨rfl, rfl⟩
theorem t_like (g : Nat) (t q : Int) (dv : Value) (w : World) (h : w.cell? ⟨g, 1, none⟩ = some (.int .i64 t)) :
    Calls Tryz.prog 150 #[.pointer (some ⟨g, 0, none⟩), .agg #[.int .i64 q, dv]] w fun e w' => e = .returned (.bool (q == t)) ∧ Fr No w w' := by
  have hb : ∀ t', Bk (w.alloc (.cells #[.int .i64 q, dv] t')) w.heap.size t' [.int .i64 q, dv] := fun t' => Bk.new w t' _
  have h0 : ∀ t', (w.alloc (.cells #[.int .i64 q, dv] t')).cell? ⟨w.heap.size, 0, none⟩ = some (.int .i64 q) := fun t' => (hb t').cell 0
  have h1 : ∀ o, (w.alloc o).cell? ⟨g, 1, none⟩ = some (.int .i64 t) := fun o => ((Fr.refl No w).alloc o).cell h (fun x => x)
  clear hb
  go_enter Tryz.func150, Tryz.ntmps150
  go_wp2
  go_quiet (fail)
  go_wp2
  go_ret
  exact ⟨rfl, ((Fr.refl No w).alloc _).drewN _⟩
end Go.Proofs.YthlgnmgjfgbffaaGreatDoor
/- Package tlv: whether the tag under way is one, which no other one has. -/
namespace Go.Proofs.YthlgnmgjfgbffaaGreatDoor
open Go.RowKit
set_option maxHeartbeats 1000000
set_option linter.unusedVariables false
set_option maxRecDepth 20000

/-- slices.IndexFunc by the tag under way -/
theorem t_index (g : Nat) (t : Int) {N : Nat → Prop} {A : Option Addr} {n c : Nat} {ls : List (Int × List UInt8)} (w : World) (h : RdI 2 TagI w N A n c ls) (ht : w.cell? ⟨g, 1, none⟩ = some (.int .i64 t)) :
    Calls Tryz.prog 186 #[.slice A n c, .func (.func 150) #[.pointer (some ⟨g, 0, none⟩)] #[]] w fun e w' => ∃ z : Int, e = .returned (.int .i64 z) ∧ decide (0 ≤ z) = ls.any (fun a => a.1 == t) ∧ Fr No w w' := by
  have hl := h.len tag_ok (by omega)
  have htop := h.top
  generalize hres : ls.any (fun a => a.1 == t) = res
  have HRES := Lib.hid hres; have HL := Lib.hid hl; have H := Lib.hid h; have HT := Lib.hid ht
  clear hres hl h ht
  go_enter Tryz.func186, Tryz.ntmps186
  go_wp2
  go_loopw [8] (fun v wr => ∃ k : Nat, k ≤ n ∧ v = .int .i64 (k : Int) ∧ (∀ j a, j < k → ls[j]? = some a → a.1 ≠ t) ∧ Fr No w wr) (fun v _ => n - (intOf v).toNat)
  case atStart => exact ⟨0, by omega, rfl, fun j a hj => by omega, Fr.refl _ _⟩
  case round =>
    obtain ⟨k, hk, rfl, hall, hfr⟩ := hrel
    have HALL := Lib.hid hall; have HFR := Lib.hid hfr
    clear hall hfr
    rcases Nat.lt_or_ge k n with hkn | hge
    · obtain ⟨ad, cs, a, rfl, ⟨B, m, d, rfl, h1, h2, h3, h4⟩, hak, hc0, hc1⟩ := two_cells tag_ok (H.out.no tag_ok HFR.out) hkn
      have c0 := hc0 _ rfl
      have c1 := hc1 _ rfl
      obtain ⟨P, hP⟩ : ∃ P, ad.add (k * 2) = P := ⟨_, rfl⟩
      rw [hP] at c0 c1
      have hkI : (k : Int) < (n : Int) := by omega
      have HAK := Lib.hid hak
      have ht := HFR.out.cell HT.out (fun x => x)
      obtain ⟨q, hq⟩ : ∃ q : Int, a.1 = q := ⟨_, rfl⟩
      rw [hq] at c0
      have HQ := Lib.hid hq
      have hlk := t_like g t q (.slice B m d) wr ht
      clear hc0 hc1 h1 h2 h3 hak hq ht
      by_cases hqt : q = t
      · subst hqt
        have hw : res = true := by
          rw [← HRES.out, List.any_eq_true]
          exact ⟨a, List.mem_of_getElem? HAK.out, by rw [HQ.out]; exact beq_self_eq_true _⟩
        rw [beq_self_eq_true] at hlk
        have HW := Lib.hid hw; have HLK := Lib.hid hlk
        clear hw hlk
        go_wp2_with (go_at_call 150; refine (HLK.out).mono ?_; rintro e w1 ⟨rfl, f1⟩; have F1 := Lib.hid f1; clear f1)
        go_ret
        exact ⟨_, rfl, by rw [HW.out]; simp, HFR.out.trans F1.out⟩
      · have hqb : (q == t) = false := by rw [beq_eq_false_iff_ne]; exact hqt
        rw [hqb] at hlk
        have HQT := Lib.hid hqt; have HLK := Lib.hid hlk
        clear hqt hqb hlk
        go_wp2_with (go_at_call 150; refine (HLK.out).mono ?_; rintro e w1 ⟨rfl, f1⟩; have F1 := Lib.hid f1; clear f1)
        go_roundw
        case rel => exact ⟨k + 1, by omega, by go_num, fun j b hj hb => by
          by_cases hjk : j = k
          · subst hjk
            have := HAK.out.symm.trans hb
            injection this with this
            rw [← this, HQ.out]
            exact HQT.out
          · exact HALL.out j b (by omega) hb, HFR.out.trans F1.out⟩
        case measure => simp [intOf]; omega
    · obtain rfl : k = n := by omega
      have hw : res = false := by
        rw [← HRES.out, List.any_eq_false]
        intro b hb
        obtain ⟨j, hj, rfl⟩ := List.getElem_of_mem hb
        rw [beq_iff_eq]
        exact HALL.out j _ (by rw [HL.out] at hj; exact hj) (List.getElem?_eq_getElem hj)
      have HW := Lib.hid hw
      clear hw
      go_wp2
      go_ret
      exact ⟨_, rfl, by rw [HW.out]; simp, HFR.out⟩
theorem t_contains (g : Nat) (t : Int) {N : Nat → Prop} {A : Option Addr} {n c : Nat} {ls : List (Int × List UInt8)} (w : World) (h : RdI 2 TagI w N A n c ls) (ht : w.cell? ⟨g, 1, none⟩ = some (.int .i64 t)) :
    Calls Tryz.prog 149 #[.slice A n c, .func (.func 150) #[.pointer (some ⟨g, 0, none⟩)] #[]] w fun e w' => e = .returned (.bool (ls.any (fun a => a.1 == t))) ∧ Fr No w w' := by
  have H := Lib.hid (t_index g t w h ht)
  generalize ls.any (fun a => a.1 == t) = res at *
  clear h ht
  go_enter Tryz.func149, Tryz.ntmps149
  go_wp2_with (go_at_call 186; refine (H.out).mono ?_; rintro e w1 ⟨z, rfl, hz, f1⟩; have F1 := Lib.hid f1; have HZ := Lib.hid hz; clear f1 hz)
  go_ret
  exact ⟨by first | (rw [← HZ.out]; rfl) | rw [← HZ.out], F1.out⟩
/-- what stands in the way of a tag -/
def freshE (t : Int) (p : List (Int × List UInt8)) : Int := if tgN t = 0 ∨ p.any (fun a => a.1 == t) = true then 18 else 0
theorem t_fresh (g : Nat) (t : Int) (h0 : -9223372036854775808 ≤ t) (h1 : t ≤ 9223372036854775807) {N : Nat → Prop} {A : Option Addr} {n c : Nat} {ls : List (Int × List UInt8)} (w : World) (h : RdI 2 TagI w N A n c ls)
    (ha : w.cell? ⟨g, 0, none⟩ = some (.slice A n c)) (ht : w.cell? ⟨g, 1, none⟩ = some (.int .i64 t)) :
    Calls Tryz.prog 101 #[.pointer (some ⟨g, 0, none⟩)] w fun e w' => e = .returned (.int .i64 (freshE t ls)) ∧ Fr No w w' := by
  have hr := fun u => t_right t h0 h1 u
  have hc := t_contains g t w h ht
  have e : freshE t ls = if decide (tgN t ≠ 0) = false ∨ ls.any (fun a => a.1 == t) = true then 18 else 0 := by
    unfold freshE
    congr 1
    simp
  rw [e]
  generalize decide (tgN t ≠ 0) = r at *
  generalize ls.any (fun a => a.1 == t) = k at *
  have HR := Lib.hid hr; have HC := Lib.hid hc
  clear hr hc e h h0 h1
  cases r with
  | false =>
    rw [if_pos (Or.inl rfl)]
    go_enter Tryz.func101, Tryz.ntmps101
    go_wp2_with (go_at_call 148; refine (HR.out _).mono ?_; rintro e w1 ⟨rfl, rfl⟩)
    go_ret
    exact ⟨rfl, Fr.refl _ _⟩
  | true =>
    cases k with
    | true =>
      rw [if_pos (Or.inr rfl)]
      go_enter Tryz.func101, Tryz.ntmps101
      go_wp2_with (first
        | (go_at_call 148; refine (HR.out _).mono ?_; rintro e w1 ⟨rfl, rfl⟩)
        | (go_at_call 149; refine (HC.out).mono ?_; rintro e w1 ⟨rfl, f1⟩; have F1 := Lib.hid f1; clear f1))
      go_ret
      exact ⟨rfl, F1.out⟩
    | false =>
      rw [if_neg (by simp)]
      go_enter Tryz.func101, Tryz.ntmps101
      go_wp2_with (first
        | (go_at_call 148; refine (HR.out _).mono ?_; rintro e w1 ⟨rfl, rfl⟩)
        | (go_at_call 149; refine (HC.out).mono ?_; rintro e w1 ⟨rfl, f1⟩; have F1 := Lib.hid f1; clear f1))
      go_ret
      exact ⟨rfl, F1.out⟩
end Go.Proofs.YthlgnmgjfgbffaaGreatDoor
/- The statements' own tags of bytes: ParseTags. -/

namespace Go.Proofs.YthlgnmgjfgbffaaGreatDoor
open Go.RowKit
set_option maxHeartbeats 2000000
set_option linter.unusedVariables false

theorem sh8 (x : Nat) (h : x < 256) : IntKind.i64.wrap ((x : Int) * 256) = (x : Int) * 256 := IntWalk.i64_in _ ⟨by omega, by omega⟩
theorem tlv_nums {k2 h n : Nat} (hn : n ≤ 100000) (hk : k2 ≤ n) (hh : h ≤ n - k2) : ∃ k3 : Nat, k2 + h = k3 ∧ (k2 : Int) + (h : Int) = (k3 : Int) ∧ wrap64 (k3 : Int) = (k3 : Int) ∧ wrap64 ((n : Int) - (k3 : Int)) = (n : Int) - (k3 : Int) ∧ k3 ≤ n :=
  ⟨k2 + h, rfl, by omega, IntWalk.wrap64_in _ ⟨by omega, by omega⟩, IntWalk.wrap64_in _ ⟨by omega, by omega⟩, by omega⟩
theorem tlv_end {k3 m n c : Nat} (hn : n ≤ 100000) (h : ¬ n - k3 < m) (hk : k3 ≤ n) (hc : n ≤ c) : ∃ k4 : Nat, k3 + m = k4 ∧ (k3 : Int) + (m : Int) = (k4 : Int) ∧ wrap64 (k4 : Int) = (k4 : Int) ∧ k4 ≤ n ∧ k3 ≤ k4 ∧ (k3 : Int) ≤ (k4 : Int) ∧ (k4 : Int) ≤ (c : Int) ∧ (0 : Int) ≤ (k3 : Int) ∧ k4 - k3 = m :=
  ⟨k3 + m, rfl, by omega, IntWalk.wrap64_in _ ⟨by omega, by omega⟩, by omega, by omega, by omega, by omega, by omega, by omega⟩
theorem tlv_two {k j n : Nat} (hn : n ≤ 100000) (hj : k + 1 = j) (h : j < n) : ∃ k2 : Nat, k + 2 = k2 ∧ (j : Int) + 1 = (k2 : Int) ∧ wrap64 (k2 : Int) = (k2 : Int) ∧ ¬ (n : Int) ≤ (j : Int) ∧ (j : Int) < (n : Int) ∧ (0 : Int) ≤ (j : Int) ∧ k < k2 ∧ k2 ≤ n :=
  ⟨k + 2, rfl, by omega, IntWalk.wrap64_in _ ⟨by omega, by omega⟩, by omega, by omega, by omega, by omega, by omega⟩
theorem tlv_bit31 {x : Nat} (hx : x < 256) : (bits .and .i64 (x : Int) 31 == 31) = decide (x % 32 = 31) := by
  have h : bits .and .i64 (x : Int) 31 = (x : Int) % 32 := and_i64b 5 (by decide) _ (by omega) (by omega)
  rw [h, Bool.eq_iff_iff, beq_iff_eq, decide_eq_true_iff]; omega
theorem tlv_b255 (x : Nat) : ((x : Int) != 255) = decide (x ≠ 255) := by
  rw [Bool.eq_iff_iff, bne_iff_ne, decide_eq_true_iff]; omega
theorem int_ne0 {E : Int} (h : E ≠ 0) : (E != 0) = true := by rw [bne_iff_ne]; exact h
theorem nat_ne0 {t : Nat} (h : t ≠ 0) : ((t : Int) == 0) = false := by rw [beq_eq_false_iff_ne]; omega
theorem tlv_jn {k j n bl : Nat} (hj : k + 1 = j) (hb : bl = n) (h : bl ≤ k + 1) : (n : Int) ≤ (j : Int) := by omega
theorem tlv_j {k n : Nat} (hn : n ≤ 100000) (h : k < n) : ∃ j : Nat, k + 1 = j ∧ wrap64 (j : Int) = (j : Int) ∧ (k : Int) + 1 = (j : Int) ∧ (k : Int) < (n : Int) ∧ k < j ∧ j ≤ n :=
  ⟨k + 1, rfl, IntWalk.wrap64_in _ ⟨by omega, by omega⟩, by omega, by omega, by omega, by omega⟩
theorem two_num {x y : Nat} (hx : x < 256) (hy : y < 256) : 0 ≤ ((x * 256 + y : Nat) : Int) ∧ ((x * 256 + y : Nat) : Int) < 65536 := by omega
theorem one_num {x : Nat} (hx : x < 256) : 0 ≤ (x : Int) ∧ (x : Int) < 65536 := by omega
theorem tt_wide {t : Int} (h0 : 0 ≤ t) (h1 : t < 65536) : -9223372036854775808 ≤ t ∧ t ≤ 9223372036854775807 := by omega
theorem tlv_lt {n k3 m : Nat} (h : n - k3 < m) (hk : k3 ≤ n) : (n : Int) - (k3 : Int) < (m : Int) := by omega
theorem tlv_nlt {n k3 m : Nat} (h : ¬ n - k3 < m) (hk : k3 ≤ n) : ¬ (n : Int) - (k3 : Int) < (m : Int) := by omega
theorem nat_le_m {a : Nat} (h : a ≤ 100000) : a ≤ 1000000 := by omega
theorem i20 {p : Nat} (h : 20 ≤ p) : (20 : Int) ≤ (p : Int) := by omega
theorem n20 {p : Nat} (h : ¬ 20 ≤ p) : ¬ (20 : Int) ≤ (p : Int) := by omega
theorem u8_lt (x : UInt8) : x.toNat < 256 := x.toNat_lt
def TagD (w wr : World) (v : Value) : Nat → Prop := fun i => w.heap.size ≤ i ∧ i < wr.heap.size ∧ v.ownBlock ≠ some i
theorem tt_wf {t : Int} (h0 : 0 ≤ t) (h1 : t < 65536) : (Lit.int .i64 t).wf = true := by simp [Lit.wf, IntKind.min, IntKind.max, IntKind.signed, IntKind.bits]; omega
theorem tags_room {p : Nat} (h : ¬ 20 ≤ p) : p + 1 ≤ 1000000000 := by omega
theorem tags_own {w wc w1 w2 : World} {Ao : Option Addr} {k co : Nat} {v2 : Value} {t : TypeId} {cs : Array Value} {ls : List TagL} {n : Nat} (h : OwnI 2 TagI w2 w.heap.size 68 (fun i => TagD w wc (.slice Ao k co) i ∨ wc.heap.size ≤ i ∧ i < w1.heap.size) v2 n ls)
    (hg : (w1.alloc (.cells cs t)).grownBy w2 (Value.slice Ao k co).ownBlock) (hr : v2.ownBlock = (Value.slice Ao k co).ownBlock ∨ v2.ownBlock = some (w1.heap.size + 1)) (hlt : ∀ i, (Value.slice Ao k co).ownBlock = some i → w.heap.size ≤ i ∧ i < wc.heap.size) (hf : Fr No w wc) (hf1 : Fr No wc w1) :
    OwnI 2 TagI w2 w.heap.size 68 (TagD w w2 v2) v2 n ls := by
  have h1 := hf.size
  have h2 := hf1.size
  have h3 : w1.heap.size + 1 ≤ w2.heap.size := by have := ((Fr.refl (fun _ => True) (w1.alloc (.cells cs t))).grown hg (fun _ _ => .inl trivial)).size; simpa using this
  refine h.mono tag_ok (fun i hi => ?_)
  rcases hi with ⟨a1, a2, a3⟩ | ⟨a1, a2⟩
  · refine ⟨a1, by omega, fun e => ?_⟩
    rcases hr with hr | hr
    · rw [hr] at e; exact a3 e
    · rw [hr] at e; injection e with e; omega
  · refine ⟨by omega, by omega, fun e => ?_⟩
    rcases hr with hr | hr
    · rw [hr] at e; have := (hlt i e).2; omega
    · rw [hr] at e; injection e with e; omega
theorem tags_fr {w wc w1 w2 : World} {v : Value} {t : TypeId} {cs : Array Value} (hg : (w1.alloc (.cells cs t)).grownBy w2 v.ownBlock) (hlt : ∀ i, v.ownBlock = some i → w.heap.size ≤ i ∧ i < wc.heap.size) (hf : Fr No w wc) (hf1 : Fr No wc w1) : Fr No w w2 :=
  ((hf.trans hf1).alloc _).grown hg (fun g e => .inr (hlt g e).1)
theorem tags_less {k k2 h k3 k4 m n q : Nat} (h2 : k < k2 ∧ k2 ≤ n) (h3 : k2 + h = k3 ∧ 1 ≤ q) (h4 : k3 + m = k4 ∧ k4 ≤ n ∧ k3 ≤ k4 ∧ k4 - k3 = m) : n - (intOf (.int .i64 (k4 : Int))).toNat < n - (intOf (.int .i64 (k : Int))).toNat := by
  simp only [intOf, Int.toNat_natCast]; omega
end Go.Proofs.YthlgnmgjfgbffaaGreatDoor
/- Package tlv: the parser's steps: a tag, a length, the data. -/
namespace Go.Proofs.YthlgnmgjfgbffaaGreatDoor
open Go.RowKit
set_option maxHeartbeats 1000000
set_option linter.unusedVariables false
set_option maxRecDepth 20000

/-- a parser at block g, its cursor at G -/
structure Ps (w : World) (g G : Nat) (b : List UInt8) (k : Nat) (va : Value) (t : Int) (vd : Value) (n : Nat) : Prop where
  bk : Bk w g 149 [va, .int .i64 t, vd, .pointer (some ⟨G, 0, none⟩), .int .i64 (n : Int)]
  cur : Cur w g G b k
/-- the cursor's and the parser's own blocks -/
def Two (G g : Nat) : Nat → Prop := fun i => i = G ∨ i = g
theorem Ps.cells {w : World} {g G : Nat} {b : List UInt8} {k : Nat} {va vd : Value} {t : Int} {n : Nat} (h : Ps w g G b k va t vd n) :
    w.cell? ⟨g, 0, none⟩ = some va ∧ w.cell? ⟨g, 1, none⟩ = some (.int .i64 t) ∧ w.cell? ⟨g, 2, none⟩ = some vd ∧ w.cell? ⟨g, 3, none⟩ = some (.pointer (some ⟨G, 0, none⟩)) ∧ w.cell? ⟨g, 4, none⟩ = some (.int .i64 (n : Int)) ∧
    (∀ i, w.frozen? ⟨g, i, none⟩ = false) := ⟨h.bk.cell 0, h.bk.cell 1, h.bk.cell 2, h.bk.cell 3, h.bk.cell 4, h.bk.frozen⟩
theorem Ps.step {w w' : World} {g G : Nat} {b : List UInt8} {k k' : Nat} {va vd : Value} {t : Int} {n : Nat} (h : Ps w g G b k va t vd n) (hf : Fr (Just G) w w') (hc : Cur w' g G b k') : Ps w' g G b k' va t vd n :=
  ⟨h.bk.fr hf (fun e => by have := h.cur.bound.1; have : g = G := e; omega), hc⟩
theorem Ps.no {w w' : World} {g G : Nat} {b : List UInt8} {k : Nat} {va vd : Value} {t : Int} {n : Nat} (h : Ps w g G b k va t vd n) (hf : Fr No w w') : Ps w' g G b k va t vd n :=
  ⟨h.bk.no hf, h.cur.no hf⟩
theorem Ps.setTag {w : World} {g G : Nat} {b : List UInt8} {k : Nat} {va vd : Value} {t : Int} {n : Nat} (h : Ps w g G b k va t vd n) (t' : Int) (vd' : Value) :
    Ps ((w.setCell ⟨g, 1, none⟩ (.int .i64 t')).setCell ⟨g, 2, none⟩ vd') g G b k va t' vd' n :=
  ⟨(h.bk.set_ 1 (.int .i64 t')).set_ 2 vd', h.cur.just (((Fr.refl (Just g) w).setCell (.inl (Just.at g)) _).setCell (.inl (Just.at g)) _) (Nat.le_refl _)⟩
theorem Ps.setN {w : World} {g G : Nat} {b : List UInt8} {k : Nat} {va vd : Value} {t : Int} {n : Nat} (h : Ps w g G b k va t vd n) (m : Nat) : Ps (w.setCell ⟨g, 4, none⟩ (.int .i64 (m : Int))) g G b k va t vd m :=
  ⟨h.bk.set_ 4 (.int .i64 (m : Int)), h.cur.just ((Fr.refl (Just g) w).setCell (.inl (Just.at g)) _) (Nat.le_refl _)⟩
theorem Ps.setD {w : World} {g G : Nat} {b : List UInt8} {k : Nat} {va vd : Value} {t : Int} {n : Nat} (h : Ps w g G b k va t vd n) (v : Value) : Ps (w.setCell ⟨g, 2, none⟩ v) g G b k va t v n :=
  ⟨h.bk.set_ 2 v, h.cur.just ((Fr.refl (Just g) w).setCell (.inl (Just.at g)) _) (Nat.le_refl _)⟩
theorem two_G {G g : Nat} {w w' : World} (h : Fr (Just G) w w') : Fr (Two G g) w w' := h.mono (fun _ x => .inl x)
theorem two_set {G g : Nat} {w w' : World} (h : Fr (Two G g) w w') (o : Nat) (v : Value) : Fr (Two G g) w (w'.setCell ⟨g, o, none⟩ v) := h.setCell (.inl (.inr rfl)) v
theorem be1 (b : List UInt8) (k : Nat) (hk : k < b.length) : beN ((b.drop k).take 1) = b[k].toNat := by
  rw [drop_two b k hk]
  show beN [b[k]] = _
  simp [beN]
/-- one byte as a number -/
theorem num1 {w : World} {g G : Nat} {b : List UInt8} {k : Nat} (h : Cur w g G b k) (hk : k < b.length) :
    Calls Tryz.prog 146 #[.pointer (some ⟨G, 0, none⟩), .int .i64 1] w fun e w' => e = .returned (.tuple #[.int .u64 (b[k].toNat : Int), .int .i64 0]) ∧ Cur w' g G b (k + 1) ∧ Fr (Just G) w w' := by
  have := number_ok G 1 b k w h (by omega) (by omega) (by omega)
  rw [be1 b k hk] at this
  exact this
theorem num0 {w : World} {g G : Nat} {b : List UInt8} {k : Nat} (h : Cur w g G b k) (hk : b.length ≤ k) :
    Calls Tryz.prog 146 #[.pointer (some ⟨G, 0, none⟩), .int .i64 1] w fun e w' => e = .returned (.tuple #[.int .u64 0, .int .i64 3]) ∧ Dr w w' :=
  number_short G 1 b k w h (by omega) (by omega) (by omega)
theorem i64_u8 (x : UInt8) : IntKind.i64.wrap (x.toNat : Int) = (x.toNat : Int) := IntWalk.i64_in _ ⟨by have := x.toNat_lt; omega, by have := x.toNat_lt; omega⟩
theorem i64_two (x y : UInt8) : IntKind.i64.wrap ((x.toNat * 256 + y.toNat : Nat) : Int) = ((x.toNat * 256 + y.toNat : Nat) : Int) := IntWalk.i64_in _ ⟨by have := x.toNat_lt; have := y.toNat_lt; omega, by have := x.toNat_lt; have := y.toNat_lt; omega⟩
theorem dec_tag (x : Nat) (hx : x < 256) : decide ((x : Int) < 255 ∧ (x : Int) % 32 = 31) = decide (x % 32 = 31 ∧ x ≠ 255) := by
  rw [Bool.eq_iff_iff, decide_eq_true_iff, decide_eq_true_iff]; omega

def TagEnd (w : World) (g G : Nat) (b : List UInt8) (k : Nat) (va : Value) (n : Nat) (e : Ending) (w' : World) : Prop :=
  ∃ E : Int, e = .returned (.int .i64 E) ∧ Fr (Two G g) w w' ∧ ((E = 3 ∧ tagP (b.drop k) = none) ∨
    (E = 0 ∧ ∃ (k2 : Nat) (tt : Int), k < k2 ∧ k2 ≤ b.length ∧ tagP (b.drop k) = some (tt, b.drop k2) ∧ 0 ≤ tt ∧ tt < 65536 ∧ Ps w' g G b k2 va tt (.slice none 0 0) n))
theorem t_tag {w : World} {g G : Nat} {b : List UInt8} {k : Nat} {va vd : Value} {t : Int} {n : Nat} (h : Ps w g G b k va t vd n) (hk : k < b.length) :
    Calls Tryz.prog 100 #[.pointer (some ⟨g, 0, none⟩)] w (TagEnd w g G b k va n) := by
  obtain ⟨c0, c1, c2, c3, c4, cf⟩ := h.cells
  have hx := num1 h.cur hk
  have hta := tagP_at b k hk
  obtain ⟨x, hxe⟩ : ∃ x : UInt8, b[k] = x := ⟨_, rfl⟩
  rw [hxe] at hx hta
  have hmo := fun u => t_more (x.toNat : Int) (Int.natCast_nonneg _) u
  rw [dec_tag _ (u8_lt x)] at hmo
  have hw1 := i64_u8 x
  have H := Lib.hid h; have HX := Lib.hid hx; have HTA := Lib.hid hta; have HK := Lib.hid hk
  clear h hx hta hxe c0 c1 c2 c4 cf
  by_cases hm : x.toNat % 32 = 31 ∧ x.toNat ≠ 255
  · rw [decide_eq_true hm] at hmo
    have HMO := Lib.hid hmo; have HM := Lib.hid hm
    clear hmo hm
    have tok1 := True.intro
    by_cases hk2 : b.length ≤ k + 1
    · have hz := fun u (hu : Cur u g G b (k + 1)) => num0 hu hk2
      have HZ := Lib.hid hz; have HK2 := Lib.hid hk2
      have hor := or_step x.toNat 0 (by have := u8_lt x; omega) (by omega)
      have hw2 : IntKind.i64.wrap ((x.toNat * 256 + 0 : Nat) : Int) = ((x.toNat * 256 + 0 : Nat) : Int) := IntWalk.i64_in _ ⟨by have := u8_lt x; omega, by have := u8_lt x; omega⟩
      obtain ⟨tt, htt⟩ : ∃ tt : Int, ((x.toNat * 256 + 0 : Nat) : Int) = tt := ⟨_, rfl⟩
      rw [htt] at hor hw2
      simp only [Int.cast_ofNat_Int] at hor
      clear hz hk2 htt
      go_enter Tryz.func100, Tryz.ntmps100
      go_wp2_with (first
        | (go_at_call 146; clear tok1; refine (HX.out).mono ?_; rintro e w1 ⟨rfl, hc1, hf1⟩; have tok2 := True.intro; have P1 := Lib.hid (H.out.step hf1 hc1); have F1 := Lib.hid hf1; have d3 := P1.out.cells.2.2.2.1; clear hf1 hc1)
        | (go_at_call 147; refine (HMO.out _).mono ?_; rintro e w2 ⟨rfl, rfl⟩)
        | (go_at_call 146; clear tok2; refine (HZ.out _ P1.out.cur).mono ?_; rintro e w2 ⟨rfl, hd2⟩; have P2 := Lib.hid (P1.out.no hd2.fr); have F2 := Lib.hid (F1.out.dr hd2); have e0 := P2.out.cells.1; have e1 := P2.out.cells.2.1; have e2 := P2.out.cells.2.2.1; have e5 := P2.out.cells.2.2.2.2.2 1; have e6 := P2.out.cells.2.2.2.2.2 2; clear hd2))
      go_ret
      refine ⟨3, rfl, two_set (two_set (two_G F2.out) _ _) _ _, .inl ⟨rfl, ?_⟩⟩
      rcases HTA.out with ⟨t1, t2, t3, t4⟩ | ⟨t1, t2⟩ | ⟨h1, t1, t2, t3⟩
      · exact t4
      · exact absurd HM.out t1
      · have := HK2.out; omega
    · have hk2 : k + 1 < b.length := by omega
      obtain ⟨y, hye⟩ : ∃ y : UInt8, b[k + 1] = y := ⟨_, rfl⟩
      have hz := fun u (hu : Cur u g G b (k + 1)) => num1 hu hk2
      rw [hye] at hz
      have htp : tagP (b.drop k) = some (((x.toNat * 256 + y.toNat : Nat) : Int), b.drop (k + 2)) := by
        rcases HTA.out with ⟨t1, t2, t3, t4⟩ | ⟨t1, t2⟩ | ⟨h1, t1, t2, t3⟩
        · omega
        · exact absurd HM.out t1
        · rw [hye] at t3; exact t3
      have HZ := Lib.hid hz; have HK2 := Lib.hid hk2
      have hor := or_step x.toNat y.toNat (by have := u8_lt x; omega) (u8_lt y)
      have hw2 := i64_two x y
      have h2 := two_num (u8_lt x) (u8_lt y)
      obtain ⟨tt, htt⟩ : ∃ tt : Int, ((x.toNat * 256 + y.toNat : Nat) : Int) = tt := ⟨_, rfl⟩
      rw [htt] at hor hw2 htp h2
      have HTP := Lib.hid htp; have H2 := Lib.hid h2
      clear hz hk2 htt hye htp h2
      go_enter Tryz.func100, Tryz.ntmps100
      go_wp2_with (first
        | (go_at_call 146; clear tok1; refine (HX.out).mono ?_; rintro e w1 ⟨rfl, hc1, hf1⟩; have tok2 := True.intro; have P1 := Lib.hid (H.out.step hf1 hc1); have F1 := Lib.hid hf1; have d3 := P1.out.cells.2.2.2.1; clear hf1 hc1)
        | (go_at_call 147; refine (HMO.out _).mono ?_; rintro e w2 ⟨rfl, rfl⟩)
        | (go_at_call 146; clear tok2; refine (HZ.out _ P1.out.cur).mono ?_; rintro e w2 ⟨rfl, hc2, hf2⟩; have P2 := Lib.hid (P1.out.step hf2 hc2); have F2 := Lib.hid (F1.out.trans hf2); have e0 := P2.out.cells.1; have e1 := P2.out.cells.2.1; have e2 := P2.out.cells.2.2.1; have e5 := P2.out.cells.2.2.2.2.2 1; have e6 := P2.out.cells.2.2.2.2.2 2; clear hc2 hf2))
      go_ret
      exact ⟨0, rfl, two_set (two_set (two_G F2.out) _ _) _ _, .inr ⟨rfl, k + 2, tt, by omega, HK2.out, HTP.out, H2.out.1, H2.out.2, P2.out.setTag _ _⟩⟩
  · rw [decide_eq_false hm] at hmo
    have HMO := Lib.hid hmo
    have htp : tagP (b.drop k) = some ((x.toNat : Int), b.drop (k + 1)) := by
      rcases HTA.out with ⟨t1, t2, t3, t4⟩ | ⟨t1, t2⟩ | ⟨h1, t1, t2, t3⟩
      · exact absurd ⟨t1, t2⟩ hm
      · exact t2
      · exact absurd ⟨t1, t2⟩ hm
    have HTP := Lib.hid htp; have H1 := Lib.hid (one_num (u8_lt x))
    clear hmo hm htp
    go_enter Tryz.func100, Tryz.ntmps100
    go_wp2_with (first
      | (go_at_call 146; refine (HX.out).mono ?_; rintro e w1 ⟨rfl, hc1, hf1⟩; have P1 := Lib.hid (H.out.step hf1 hc1); have F1 := Lib.hid hf1; have e0 := P1.out.cells.1; have e1 := P1.out.cells.2.1; have e2 := P1.out.cells.2.2.1; have e5 := P1.out.cells.2.2.2.2.2 1; have e6 := P1.out.cells.2.2.2.2.2 2; clear hf1 hc1)
      | (go_at_call 147; refine (HMO.out _).mono ?_; rintro e w2 ⟨rfl, rfl⟩))
    go_ret
    exact ⟨0, rfl, two_set (two_set (two_G F1.out) _ _) _ _, .inr ⟨rfl, k + 1, _, by omega, by have := HK.out; omega, HTP.out, H1.out.1, H1.out.2, P1.out.setTag _ _⟩⟩

def LenEnd (w : World) (g G : Nat) (b : List UInt8) (k : Nat) (va : Value) (t : Int) (vd : Value) (e : Ending) (w' : World) : Prop :=
  ∃ E : Int, e = .returned (.int .i64 E) ∧ Fr (Two G g) w w' ∧ E = (lenP (b.drop k)).1 ∧ (E = 0 → Ps w' g G b (k + lenH (b.drop k)) va t vd (lenP (b.drop k)).2.1)
set_option maxRecDepth 20000 in
theorem t_length {w : World} {g G : Nat} {b : List UInt8} {k : Nat} {va vd : Value} {t : Int} {n : Nat} (h : Ps w g G b k va t vd n) :
    Calls Tryz.prog 102 #[.pointer (some ⟨g, 0, none⟩)] w (LenEnd w g G b k va t vd) := by
  obtain ⟨c0, c1, c2, c3, c4, cf⟩ := h.cells
  have H := Lib.hid h
  clear c0 c1 c2 c4 cf
  by_cases hk : k < b.length
  · have hx := num1 h.cur hk
    have hdr := drop_two b k hk
    obtain ⟨x, hxe⟩ : ∃ x : UInt8, b[k] = x := ⟨_, rfl⟩
    rw [hxe] at hx hdr
    have hw1 := i64_u8 x
    have HX := Lib.hid hx; have HDR := Lib.hid hdr
    clear hx hxe h hdr
    by_cases h1 : x.toNat < 128
    · have e1 : lenP (b.drop k) = (0, x.toNat, b.drop (k + 1)) := by rw [HDR.out, lenP_cons, if_pos h1]
      have e2 : lenH (b.drop k) = 1 := by rw [HDR.out, lenH_cons, if_pos h1]
      have h1I : decide ((x.toNat : Int) < 128) = true := decide_eq_true (by omega)
      have h2I : ((x.toNat : Int) == 129) = false := by rw [beq_eq_false_iff_ne]; omega
      have E1 := Lib.hid e1; have E2 := Lib.hid e2
      clear e1 e2 h1
      go_enter Tryz.func102, Tryz.ntmps102
      go_wp2_with (go_at_call 146; refine (HX.out).mono ?_; rintro e w1 ⟨rfl, hc1, hf1⟩; have P1 := Lib.hid (H.out.step hf1 hc1); have F1 := Lib.hid hf1; have e4 := P1.out.cells.2.2.2.2.1; have e5 := P1.out.cells.2.2.2.2.2 4; clear hf1 hc1)
      go_ret
      refine ⟨0, rfl, two_set (two_G F1.out) _ _, by rw [E1.out], fun _ => ?_⟩
      rw [E1.out, E2.out]
      exact P1.out.setN _
    by_cases h2 : x.toNat ≠ 129
    · have e1 : lenP (b.drop k) = (17, 0, []) := by rw [HDR.out, lenP_cons, if_neg h1, if_pos h2]
      have h1I : decide ((x.toNat : Int) < 128) = false := decide_eq_false (by omega)
      have h2I : ((x.toNat : Int) == 129) = false := by rw [beq_eq_false_iff_ne]; omega
      have E1 := Lib.hid e1
      clear e1 h1 h2
      go_enter Tryz.func102, Tryz.ntmps102
      go_wp2_with (go_at_call 146; refine (HX.out).mono ?_; rintro e w1 ⟨rfl, hc1, hf1⟩; have F1 := Lib.hid hf1; clear hf1 hc1)
      go_ret
      exact ⟨17, rfl, two_G F1.out, by rw [E1.out], fun e => by cases e⟩
    have h1I : ¬ (x.toNat : Int) < 128 := by omega
    have h2I : ((x.toNat : Int) == 129) = true := by rw [beq_iff_eq]; omega
    have tok1 := True.intro
    by_cases hk2 : b.length ≤ k + 1
    · have e1 : lenP (b.drop k) = (3, 0, []) := by rw [HDR.out, lenP_cons, if_neg h1, if_neg h2, List.drop_eq_nil_of_le hk2]
      have HZ := Lib.hid (fun u (hu : Cur u g G b (k + 1)) => num0 hu hk2)
      have E1 := Lib.hid e1
      clear e1 h1 h2 hk2
      go_enter Tryz.func102, Tryz.ntmps102
      go_wp2_with (first
        | (go_at_call 146; clear tok1; refine (HX.out).mono ?_; rintro e w1 ⟨rfl, hc1, hf1⟩; have tok2 := True.intro; have P1 := Lib.hid (H.out.step hf1 hc1); have F1 := Lib.hid hf1; have d3 := P1.out.cells.2.2.2.1; clear hf1 hc1)
        | (go_at_call 146; clear tok2; refine (HZ.out _ P1.out.cur).mono ?_; rintro e w2 ⟨rfl, hd2⟩; have F2 := Lib.hid (F1.out.dr hd2); clear hd2))
      go_ret
      exact ⟨3, rfl, two_G F2.out, by rw [E1.out], fun e => by cases e⟩
    have hk3 : k + 1 < b.length := by omega
    have hz := fun u (hu : Cur u g G b (k + 1)) => num1 hu hk3
    have hdr2 := drop_two b (k + 1) hk3
    obtain ⟨y, hye⟩ : ∃ y : UInt8, b[k + 1] = y := ⟨_, rfl⟩
    rw [hye] at hz hdr2
    have hw2 := i64_u8 y
    have HZ := Lib.hid hz
    by_cases h3 : y.toNat < 128
    · have e1 : lenP (b.drop k) = (17, 0, []) := by rw [HDR.out, lenP_cons, if_neg h1, if_neg h2, hdr2]; simp only; rw [if_pos h3]
      have h3I : decide (128 ≤ (y.toNat : Int)) = false := decide_eq_false (by omega)
      have E1 := Lib.hid e1
      clear e1 h1 h2 hk2 hk3 hz hdr2 hye h3
      go_enter Tryz.func102, Tryz.ntmps102
      go_wp2_with (first
        | (go_at_call 146; clear tok1; refine (HX.out).mono ?_; rintro e w1 ⟨rfl, hc1, hf1⟩; have tok2 := True.intro; have P1 := Lib.hid (H.out.step hf1 hc1); have F1 := Lib.hid hf1; have d3 := P1.out.cells.2.2.2.1; clear hf1 hc1)
        | (go_at_call 146; clear tok2; refine (HZ.out _ P1.out.cur).mono ?_; rintro e w2 ⟨rfl, hc2, hf2⟩; have F2 := Lib.hid (F1.out.trans hf2); clear hc2 hf2))
      go_ret
      exact ⟨17, rfl, two_G F2.out, by rw [E1.out], fun e => by cases e⟩
    · have e1 : lenP (b.drop k) = (0, y.toNat, b.drop (k + 1 + 1)) := by rw [HDR.out, lenP_cons, if_neg h1, if_neg h2, hdr2]; simp only; rw [if_neg h3]
      have e2 : lenH (b.drop k) = 2 := by rw [HDR.out, lenH_cons, if_neg h1, if_neg h2, hdr2]; simp only; rw [if_neg h3]
      have h3I : decide (128 ≤ (y.toNat : Int)) = true := decide_eq_true (by omega)
      have E1 := Lib.hid e1; have E2 := Lib.hid e2
      clear e1 e2 h1 h2 hk2 hk3 hz hdr2 hye h3
      go_enter Tryz.func102, Tryz.ntmps102
      go_wp2_with (first
        | (go_at_call 146; clear tok1; refine (HX.out).mono ?_; rintro e w1 ⟨rfl, hc1, hf1⟩; have tok2 := True.intro; have P1 := Lib.hid (H.out.step hf1 hc1); have F1 := Lib.hid hf1; have d3 := P1.out.cells.2.2.2.1; clear hf1 hc1)
        | (go_at_call 146; clear tok2; refine (HZ.out _ P1.out.cur).mono ?_; rintro e w2 ⟨rfl, hc2, hf2⟩; have P2 := Lib.hid (P1.out.step hf2 hc2); have F2 := Lib.hid (F1.out.trans hf2); have e4 := P2.out.cells.2.2.2.2.1; have e5 := P2.out.cells.2.2.2.2.2 4; clear hc2 hf2))
      go_ret
      refine ⟨0, rfl, two_set (two_G F2.out) _ _, by rw [E1.out], fun _ => ?_⟩
      rw [E1.out, E2.out]
      exact P2.out.setN _
  · have hz := num0 h.cur (show b.length ≤ k by omega)
    have e1 : lenP (b.drop k) = (3, 0, []) := by rw [List.drop_eq_nil_of_le (by omega)]; rfl
    have HZ := Lib.hid hz; have E1 := Lib.hid e1
    clear h hz e1 hk
    go_enter Tryz.func102, Tryz.ntmps102
    go_wp2_with (go_at_call 146; refine (HZ.out).mono ?_; rintro e w1 ⟨rfl, hd⟩)
    go_ret
    exact ⟨3, rfl, hd.fr, by rw [E1.out], fun e => by cases e⟩
end Go.Proofs.YthlgnmgjfgbffaaGreatDoor
/- Package tlv: the parser's data; steps, one behind the other. -/
namespace Go.Proofs.YthlgnmgjfgbffaaGreatDoor
open Go.RowKit
set_option maxHeartbeats 1000000
set_option linter.unusedVariables false
set_option maxRecDepth 20000

theorem Ps.dr {w w' : World} {g G : Nat} {b : List UInt8} {k : Nat} {va vd : Value} {t : Int} {n : Nat} (h : Ps w g G b k va t vd n) (hf : Dr w w') : Ps w' g G b k va t vd n := h.no hf.fr
def DatEnd (w : World) (g G : Nat) (b : List UInt8) (k : Nat) (va : Value) (t : Int) (m : Nat) (e : Ending) (w' : World) : Prop :=
  ∃ E : Int, e = .returned (.int .i64 E) ∧ Fr (Two G g) w w' ∧ ((E = 3 ∧ b.length < k + m) ∨
    (E = 0 ∧ k + m ≤ b.length ∧ ∃ D c, Ps w' g G b (k + m) va t (.slice D m c) m ∧ Rd w' D m c (u8s ((b.drop k).take m)) ∧ ∀ ad, D = some ad → w.heap.size ≤ ad.block ∧ ad.block < w'.heap.size))
theorem dat_end {w w4 w5 : World} {g G : Nat} {b : List UInt8} {k : Nat} {va vd : Value} {t : Int} {m dc : Nat} {D : Option Addr} (h4 : Ps w4 g G b k va t vd m) (h5 : Ps w5 g G b (k + m) va t vd m) (hf : Fr (Two G g) w w5)
    (hr : Rd w5 D m dc (u8s ((b.drop k).take m))) (hb : ∀ ad, D = some ad → w4.heap.size ≤ ad.block ∧ ad.block < w5.heap.size) (hs : k + m ≤ b.length) (hz : w4.heap.size = w.heap.size := by rfl) :
    DatEnd w g G b k va t m (.returned (.int .i64 0)) (w5.setCell ⟨g, 2, none⟩ (.slice D m dc)) := by
  have hne : ∀ ad, D = some ad → ¬ Just g ad.block := fun ad e x => by
    have h1 := (hb ad e).1
    have h2 := h4.bk.lt
    have h3 : ad.block = g := x
    omega
  exact ⟨0, rfl, two_set hf _ _, .inr ⟨rfl, hs, D, dc, h5.setD _, hr.fr ((Fr.refl (Just g) w5).setCell (.inl (Just.at g)) _) hne, fun ad e => ⟨by have := (hb ad e).1; omega, by simpa using (hb ad e).2⟩⟩⟩
theorem t_data {w : World} {g G : Nat} {b : List UInt8} {k : Nat} {va vd : Value} {t : Int} {m : Nat} (h : Ps w g G b k va t vd m) (hb : b.length ≤ 140737488355328) :
    Calls Tryz.prog 103 #[.pointer (some ⟨g, 0, none⟩)] w (DatEnd w g G b k va t m) := by
  have H := Lib.hid h
  have hle := h.cur.le.1
  clear h
  have P4 := Lib.hid (H.out.dr (Dr.refl w).drew)
  have c3 := H.out.cells.2.2.2.1
  have c4 := H.out.cells.2.2.2.2.1
  by_cases hs : k + m ≤ b.length
  · have HT := Lib.hid (take_ok G m b k w.drew P4.out.cur hs hb)
    go_enter Tryz.func103, Tryz.ntmps103
    go_wp2
    go_region_with (go_at_call 130; refine (HT.out).mono ?_; rintro e w5 ⟨v, rfl, ho5, hc5, hf5⟩; obtain ⟨D, dc, rfl, hr5, hb5⟩ := Rd.of_own ho5; have P5 := Lib.hid (P4.out.step hf5 hc5); have F5 := Lib.hid ((Dr.fr (S := Two G g) (Dr.refl w).drew).trans (two_G hf5)); have d2 := P5.out.cells.2.2.1; have z2 := P5.out.cells.2.2.2.2.2 2; have R5 := Lib.hid hr5; have B5 := Lib.hid hb5; clear ho5 hc5 hf5 hr5 hb5)
    all_goals
      go_wp2_with fail
      go_ret
      exact dat_end P4.out P5.out F5.out R5.out B5.out hs
  · have hs2 : (b.length : Int) - (k : Int) < (m : Int) := by omega
    have HT := Lib.hid (take_short G (m : Int) b k w.drew P4.out.cur (Int.natCast_nonneg _) hs2)
    have HS := Lib.hid hs
    clear hs hs2
    go_enter Tryz.func103, Tryz.ntmps103
    go_wp2
    go_region_with (go_at_call 130; refine (HT.out).mono ?_; rintro e w5 ⟨rfl, hd5⟩; have P5 := Lib.hid (P4.out.dr hd5); have F5 := Lib.hid ((Dr.fr (S := Two G g) (Dr.refl w).drew).dr hd5); have d2 := P5.out.cells.2.2.1; have z2 := P5.out.cells.2.2.2.2.2 2; clear hd5)
    all_goals
      go_wp2_with fail
      go_ret
      exact ⟨3, rfl, two_set F5.out _ _, .inl ⟨rfl, by have := HS.out; omega⟩⟩

end Go.Proofs.YthlgnmgjfgbffaaGreatDoor
