/- The statements' own kinds: contracts. -/
import Derived.Test.YtdfehdjpbmkaoaaDoorKinMath
import Derived.Test.YtdfehdjpbmkaoaaDoorHelpStr
import Derived.Test.YtdfehdjpbmkaoaaDoorItems
import Derived.BigQuiet
import Derived.LoopTactic
namespace Go.Proofs.YtdfehdjpbmkaoaaDoor
open Go.RowKit
set_option maxHeartbeats 400000
set_option linter.unusedVariables false

/-- a row's cells -/
def rowV (r : KRow) : List Value := [.string r.code, .string r.mti, .string r.must, .string r.may]
def rowsV : List Value := kinT.flatMap rowV
theorem rowsV_get {k : Nat} (hk : k < 12) : rowsV[k * 4]? = some (.string (kRow k).code) ∧ rowsV[k * 4 + 1]? = some (.string (kRow k).mti) ∧ rowsV[k * 4 + 2]? = some (.string (kRow k).must) ∧ rowsV[k * 4 + 3]? = some (.string (kRow k).may) := by
  have h : k = 0 ∨ k = 1 ∨ k = 2 ∨ k = 3 ∨ k = 4 ∨ k = 5 ∨ k = 6 ∨ k = 7 ∨ k = 8 ∨ k = 9 ∨ k = 10 ∨ k = 11 := by omega
  rcases h with rfl | rfl | rfl | rfl | rfl | rfl | rfl | rfl | rfl | rfl | rfl | rfl <;> exact ⟨rfl, rfl, rfl, rfl⟩
set_option maxRecDepth 20000 in
theorem r_Rows (w : World) : Calls Tryd.prog 10 #[] w fun e w' => ∃ A, e = .returned (.slice (some A) 12 12) ∧ RdS w' 4 (some A) 12 12 rowsV ∧ Fr No w w' := by
  go_enter Tryd.func10, Tryd.ntmps10
  go_wp2
  go_ret
  exact ⟨_, rfl, RdS.lit w rowsV _ 12 rfl (by simp [maxLen]), (Fr.refl No w).alloc _⟩
theorem k_add (ad : Addr) (i j : Nat) : ad.add (i + (j + 1)) = ⟨(ad.add i).block, (ad.add i).off + (j + 1), none⟩ := by
  unfold Addr.add
  by_cases h : i = 0
  · subst h
    simp
  · simp [h]
    omega
/-- the cells of a row of the table -/
theorem row_cells {w : World} {ad : Addr} (h : RdS w 4 (some ad) 12 12 rowsV) {k : Nat} (hk : k < 12) :
    w.cell? (ad.add (k * 4)) = some (.string (kRow k).code) ∧ w.cell? ⟨(ad.add (k * 4)).block, (ad.add (k * 4)).off + 1, none⟩ = some (.string (kRow k).mti) ∧
    w.cell? ⟨(ad.add (k * 4)).block, (ad.add (k * 4)).off + 2, none⟩ = some (.string (kRow k).must) ∧ w.cell? ⟨(ad.add (k * 4)).block, (ad.add (k * 4)).off + 3, none⟩ = some (.string (kRow k).may) := by
  obtain ⟨g0, g1, g2, g3⟩ := rowsV_get hk
  exact ⟨h.cells ad rfl _ _ g0, by rw [← k_add ad (k * 4) 0]; exact h.cells ad rfl _ _ g1, by rw [← k_add ad (k * 4) 1]; exact h.cells ad rfl _ _ g2, by rw [← k_add ad (k * 4) 2]; exact h.cells ad rfl _ _ g3⟩
/-- four cells, written one behind the other -/
def put4 (w : World) (g : Nat) (a b c d : Value) : World := (((w.setCell ⟨g, 0, none⟩ a).setCell ⟨g, 1, none⟩ b).setCell ⟨g, 2, none⟩ c).setCell ⟨g, 3, none⟩ d
theorem put4_cells {w : World} {g : Nat} {t : TypeId} {a' b' c' d' : Value} (h : Bk w g t [a', b', c', d']) (a b c d : Value) :
    (w.setCell ⟨g, 0, none⟩ a).cell? ⟨g, 0, none⟩ = some a ∧ ((w.setCell ⟨g, 0, none⟩ a).setCell ⟨g, 1, none⟩ b).cell? ⟨g, 1, none⟩ = some b ∧ (((w.setCell ⟨g, 0, none⟩ a).setCell ⟨g, 1, none⟩ b).setCell ⟨g, 2, none⟩ c).cell? ⟨g, 2, none⟩ = some c ∧
    ((((w.setCell ⟨g, 0, none⟩ a).setCell ⟨g, 1, none⟩ b).setCell ⟨g, 2, none⟩ c).setCell ⟨g, 3, none⟩ d).cell? ⟨g, 3, none⟩ = some d :=
  ⟨(h.set_ 0 a).cell 0, ((h.set_ 0 a).set_ 1 b).cell 1, (((h.set_ 0 a).set_ 1 b).set_ 2 c).cell 2, ((((h.set_ 0 a).set_ 1 b).set_ 2 c).set_ 3 d).cell 3⟩
theorem cells4 {w : World} {g : Nat} {t : TypeId} {a b c d : Value} (h : Bk w g t [a, b, c, d]) :
    w.cell? ⟨g, 0, none⟩ = some a ∧ w.cell? ⟨g, 1, none⟩ = some b ∧ w.cell? ⟨g, 2, none⟩ = some c ∧ w.cell? ⟨g, 3, none⟩ = some d ∧
    w.frozen? ⟨g, 0, none⟩ = false ∧ w.frozen? ⟨g, 1, none⟩ = false ∧ w.frozen? ⟨g, 2, none⟩ = false ∧ w.frozen? ⟨g, 3, none⟩ = false :=
  ⟨h.cell 0, h.cell 1, h.cell 2, h.cell 3, h.frozen 0, h.frozen 1, h.frozen 2, h.frozen 3⟩
theorem put4_fr {S : Nat → Prop} {w0 w : World} {g : Nat} (h : Fr S w0 w) (hg : S g ∨ w0.heap.size ≤ g) (a b c d : Value) : Fr S w0 (put4 w g a b c d) :=
  (((h.setCell hg a).setCell hg b).setCell hg c).setCell hg d
def rowA (r : KRow) : Value := .agg #[.string r.code, .string r.mti, .string r.must, .string r.may]
set_option maxRecDepth 20000 in
theorem r_row (k : Int) (hk0 : -9223372036854775808 ≤ k) (hk1 : k ≤ 9223372036854775807) (w : World) :
    Calls Tryd.prog 33 #[.int .i64 k] w fun e w' => e = .returned (rowA (rowOf k)) ∧ Fr No w w' := by
  have hb0 : Bk (w.alloc (.cells #[.string ⟨#[]⟩, .string ⟨#[]⟩, .string ⟨#[]⟩, .string ⟨#[]⟩] 37)) w.heap.size 37 [.string ⟨#[]⟩, .string ⟨#[]⟩, .string ⟨#[]⟩, .string ⟨#[]⟩] := Bk.new w _ _
  have hfa : Fr No w (w.alloc (.cells #[.string ⟨#[]⟩, .string ⟨#[]⟩, .string ⟨#[]⟩, .string ⟨#[]⟩] 37)) := (Fr.refl No w).alloc _
  have HB0 := Lib.hid hb0; have HFA := Lib.hid hfa
  clear hb0 hfa
  by_cases h : 1 ≤ k ∧ k < 12
  · obtain ⟨n, rfl⟩ : ∃ n : Nat, k = (n : Int) := ⟨k.toNat, by omega⟩
    have hn : n < 12 := by omega
    have hr : rowOf (n : Int) = kRow n := by unfold rowOf; rw [if_pos h, Int.toNat_natCast]
    rw [hr]
    obtain ⟨h1, h2⟩ := h
    have h3 : ¬ (n : Int) < 1 := by omega
    have h4 : ¬ (12 : Int) ≤ (n : Int) := by omega
    clear hr
    go_enter Tryd.func33, Tryd.ntmps33
    go_wp2_with (go_at_call 10; refine (r_Rows _).mono ?_; rintro e w1 ⟨ad, rfl, hA, hf1⟩; obtain ⟨c0, c1, c2, c3⟩ := row_cells hA hn; have hbk := HB0.out.no hf1; obtain ⟨b0, b1, b2, b3, f0, f1, f2, f3⟩ := cells4 hbk; obtain ⟨P, hP⟩ : ∃ P, ad.add (n * 4) = P := ⟨_, rfl⟩; rw [hP] at c0 c1 c2 c3)
    obtain ⟨q0, q1, q2, q3⟩ := put4_cells hbk (.string (kRow n).code) (.string (kRow n).mti) (.string (kRow n).must) (.string (kRow n).may)
    refine bodyPost_ret (v := rowA (kRow n)) (by simp [results, rowA, Tryd.results33, go_sem, q0, q1, q2, q3]) rfl ?_
    exact ⟨rfl, put4_fr (HFA.out.trans hf1) (.inr (Nat.le_refl _)) _ _ _ _⟩
  · have hr : rowOf k = kNone := by unfold rowOf; rw [if_neg h]
    rw [hr]
    clear hr
    have h3 : k < 1 ∨ ¬ k < 1 ∧ (12 : Int) ≤ k := by omega
    clear h
    go_enter Tryd.func33, Tryd.ntmps33
    rcases h3 with h3 | ⟨h3, h4⟩
    all_goals
      go_wp2_with (go_at_call 10; refine (r_Rows _).mono ?_; rintro e w1 ⟨ad, rfl, hA, hf1⟩; have hbk := HB0.out.no hf1; obtain ⟨b0, b1, b2, b3, f0, f1, f2, f3⟩ := cells4 hbk)
      obtain ⟨q0, q1, q2, q3⟩ := put4_cells hbk (.string ⟨#[]⟩) (.string ⟨#[]⟩) (.string ⟨#[]⟩) (.string ⟨#[]⟩)
      refine bodyPost_ret (v := rowA kNone) (by simp [results, rowA, kNone, Tryd.results33, go_sem, q0, q1, q2, q3]) rfl ?_
      exact ⟨rfl, put4_fr (HFA.out.trans hf1) (.inr (Nat.le_refl _)) _ _ _ _⟩
end Go.Proofs.YtdfehdjpbmkaoaaDoor
