/- The texts ModOf, RefMod3, joined. -/
import Derived.Test.YtbfodbejdaafaaaGreatDoorK22
/- Package model: what an element may have in it: contracts. -/
namespace Go.Proofs.YtbfodbejdaafaaaGreatDoor
open Go.RowKit
set_option maxHeartbeats 1000000
set_option linter.unusedVariables false

theorem m_most (S : ByteArray) (t k l p : Int) (w : World) : Calls Tryz.prog 28 #[.int .i64 t, .string S, .int .i64 k, .int .i64 l, .int .i64 p] w fun en w' => en = .returned (.agg #[.string S, .int .i64 0, .int .i64 t, .int .i64 k, .int .i64 l, .int .i64 p]) ∧ Fr No w w' := by
  have hfa := (Fr.refl No w).alloc (.cells #[.string S, .int .i64 0, .int .i64 t, .int .i64 k, .int .i64 l, .int .i64 p] 32)
  have HFA := Lib.hid hfa
  clear hfa
  go_enter Tryz.func28, Tryz.ntmps28
  go_wp2
  exact bodyPost_ret (v := .agg #[.string S, .int .i64 0, .int .i64 t, .int .i64 k, .int .i64 l, .int .i64 p]) (results_bk (g := w.heap.size) (cs := [.string S, .int .i64 0, .int .i64 t, .int .i64 k, .int .i64 l, .int .i64 p]) Tryz.results28 rfl (Bk.new w _ _) Tryz.underlying32 rfl chdSize) rfl ⟨rfl, HFA.out⟩
theorem six_at {w : World} {g : Nat} {t : TypeId} {a0 a1 a2 a3 a4 a5 : Value} (h : Bk w g t [a0, a1, a2, a3, a4, a5]) : w.cell? ⟨g, 0, none⟩ = some a0 ∧ w.cell? ⟨g, 1, none⟩ = some a1 ∧ w.cell? ⟨g, 2, none⟩ = some a2 ∧ w.cell? ⟨g, 3, none⟩ = some a3 ∧ w.cell? ⟨g, 4, none⟩ = some a4 ∧ w.cell? ⟨g, 5, none⟩ = some a5 ∧
    w.frozen? ⟨g, 0, none⟩ = false ∧ w.frozen? ⟨g, 1, none⟩ = false ∧ w.frozen? ⟨g, 2, none⟩ = false ∧ w.frozen? ⟨g, 3, none⟩ = false ∧ w.frozen? ⟨g, 4, none⟩ = false ∧ w.frozen? ⟨g, 5, none⟩ = false :=
  ⟨h.cell 0, h.cell 1, h.cell 2, h.cell 3, h.cell 4, h.cell 5, h.frozen 0, h.frozen 1, h.frozen 2, h.frozen 3, h.frozen 4, h.frozen 5⟩
theorem six_al {w : World} {g : Nat} {t : TypeId} {a0 a1 a2 a3 a4 a5 : Value} (h : Bk w g t [a0, a1, a2, a3, a4, a5]) : (∀ o, (w.alloc o).cell? ⟨g, 0, none⟩ = some a0) ∧ (∀ o, (w.alloc o).cell? ⟨g, 1, none⟩ = some a1) ∧ (∀ o, (w.alloc o).cell? ⟨g, 2, none⟩ = some a2) ∧ (∀ o, (w.alloc o).cell? ⟨g, 3, none⟩ = some a3) ∧ (∀ o, (w.alloc o).cell? ⟨g, 4, none⟩ = some a4) ∧ (∀ o, (w.alloc o).cell? ⟨g, 5, none⟩ = some a5) ∧
    (∀ o, (w.alloc o).frozen? ⟨g, 0, none⟩ = false) ∧ (∀ o, (w.alloc o).frozen? ⟨g, 1, none⟩ = false) ∧ (∀ o, (w.alloc o).frozen? ⟨g, 2, none⟩ = false) ∧ (∀ o, (w.alloc o).frozen? ⟨g, 3, none⟩ = false) ∧ (∀ o, (w.alloc o).frozen? ⟨g, 4, none⟩ = false) ∧ (∀ o, (w.alloc o).frozen? ⟨g, 5, none⟩ = false) :=
  ⟨fun o => (h.no ((Fr.refl No w).alloc o)).cell 0, fun o => (h.no ((Fr.refl No w).alloc o)).cell 1, fun o => (h.no ((Fr.refl No w).alloc o)).cell 2, fun o => (h.no ((Fr.refl No w).alloc o)).cell 3, fun o => (h.no ((Fr.refl No w).alloc o)).cell 4, fun o => (h.no ((Fr.refl No w).alloc o)).cell 5,
   fun o => (h.no ((Fr.refl No w).alloc o)).frozen 0, fun o => (h.no ((Fr.refl No w).alloc o)).frozen 1, fun o => (h.no ((Fr.refl No w).alloc o)).frozen 2, fun o => (h.no ((Fr.refl No w).alloc o)).frozen 3, fun o => (h.no ((Fr.refl No w).alloc o)).frozen 4, fun o => (h.no ((Fr.refl No w).alloc o)).frozen 5⟩
def put6 (w : World) (g : Nat) (a b c d e f : Value) : World := (((((w.setCell ⟨g, 0, none⟩ a).setCell ⟨g, 1, none⟩ b).setCell ⟨g, 2, none⟩ c).setCell ⟨g, 3, none⟩ d).setCell ⟨g, 4, none⟩ e).setCell ⟨g, 5, none⟩ f
theorem put6_bk {w : World} {g : Nat} {t : TypeId} {a0 a1 a2 a3 a4 a5 : Value} (h : Bk w g t [a0, a1, a2, a3, a4, a5]) (a b c d e f : Value) : Bk (put6 w g a b c d e f) g t [a, b, c, d, e, f] := (((((h.set_ 0 a).set_ 1 b).set_ 2 c).set_ 3 d).set_ 4 e).set_ 5 f
theorem put6_fr {S : Nat → Prop} {w0 w : World} {g : Nat} (h : Fr S w0 w) (hg : S g ∨ w0.heap.size ≤ g) (a b c d e f : Value) : Fr S w0 (put6 w g a b c d e f) :=
  (((((h.setCell hg a).setCell hg b).setCell hg c).setCell hg d).setCell hg e).setCell hg f
theorem new6 (w : World) (t : TypeId) : Bk (w.alloc (.cells #[.string ⟨#[]⟩, .int .i64 0, .int .i64 0, .int .i64 0, .int .i64 0, .int .i64 0] t)) w.heap.size t [.string ⟨#[]⟩, .int .i64 0, .int .i64 0, .int .i64 0, .int .i64 0, .int .i64 0] := Bk.new w _ _
theorem m_once (S : ByteArray) (k l p : Int) (w : World) : Calls Tryz.prog 11 #[.string S, .int .i64 k, .int .i64 l, .int .i64 p] w fun en w' => en = .returned (.agg #[.string S, .int .i64 1, .int .i64 1, .int .i64 k, .int .i64 l, .int .i64 p]) ∧ Fr No w w' := by
  have HM := Lib.hid m_most
  have HB := Lib.hid (new6 w 32)
  have HF := Lib.hid ((Fr.refl No w).alloc (.cells #[.string ⟨#[]⟩, .int .i64 0, .int .i64 0, .int .i64 0, .int .i64 0, .int .i64 0] 32))
  go_enter Tryz.func11, Tryz.ntmps11
  go_wp2_with (first
    | (go_at_call 28; refine (HM.out _ _ _ _ _ _).mono ?_; rintro e w1 ⟨rfl, hf1⟩; obtain ⟨c0, c1, c2, c3, c4, c5, z0, z1, z2, z3, z4, z5⟩ := six_al (HB.out.no hf1)))
  exact bodyPost_ret (v := .agg #[.string S, .int .i64 1, .int .i64 1, .int .i64 k, .int .i64 l, .int .i64 p]) (results_bk (g := w.heap.size) (cs := [.string S, .int .i64 1, .int .i64 1, .int .i64 k, .int .i64 l, .int .i64 p]) Tryz.results11 rfl (put6_bk ((HB.out.no hf1).no ((Fr.refl No w1).alloc _)) _ _ _ _ _ _) Tryz.underlying32 rfl chdSize) rfl ⟨rfl, put6_fr ((HF.out.trans hf1).alloc _) (.inr (Nat.le_refl _)) _ _ _ _ _ _⟩
theorem m_number (w : World) : Calls Tryz.prog 12 #[] w fun en w' => en = .returned (.agg #[.string ⟨#[88, 99, 104, 103, 73, 100]⟩, .int .i64 1, .int .i64 1, .int .i64 1, .int .i64 1, .int .i64 6]) ∧ Fr No w w' := by
  have HM := Lib.hid m_once
  have HB := Lib.hid (new6 w 32)
  have HF := Lib.hid ((Fr.refl No w).alloc (.cells #[.string ⟨#[]⟩, .int .i64 0, .int .i64 0, .int .i64 0, .int .i64 0, .int .i64 0] 32))
  go_enter Tryz.func12, Tryz.ntmps12
  go_wp2_with (first
    | (go_at_call 11; refine (HM.out _ _ _ _ _).mono ?_; rintro e w1 ⟨rfl, hf1⟩; obtain ⟨c0, c1, c2, c3, c4, c5, z0, z1, z2, z3, z4, z5⟩ := six_at (HB.out.no hf1)))
  exact bodyPost_ret (v := .agg #[.string ⟨#[88, 99, 104, 103, 73, 100]⟩, .int .i64 1, .int .i64 1, .int .i64 1, .int .i64 1, .int .i64 6]) (results_bk (g := w.heap.size) (cs := [.string ⟨#[88, 99, 104, 103, 73, 100]⟩, .int .i64 1, .int .i64 1, .int .i64 1, .int .i64 1, .int .i64 6]) Tryz.results12 rfl (put6_bk (HB.out.no hf1) _ _ _ _ _ _) Tryz.underlying32 rfl chdSize) rfl ⟨rfl, put6_fr (HF.out.trans hf1) (.inr (Nat.le_refl _)) _ _ _ _ _ _⟩
theorem m_time (w : World) : Calls Tryz.prog 13 #[] w fun en w' => en = .returned (.agg #[.string ⟨#[67, 114, 101, 68, 116, 84, 109]⟩, .int .i64 1, .int .i64 1, .int .i64 4, .int .i64 19, .int .i64 19]) ∧ Fr No w w' := by
  have HM := Lib.hid m_once
  have HB := Lib.hid (new6 w 32)
  have HF := Lib.hid ((Fr.refl No w).alloc (.cells #[.string ⟨#[]⟩, .int .i64 0, .int .i64 0, .int .i64 0, .int .i64 0, .int .i64 0] 32))
  go_enter Tryz.func13, Tryz.ntmps13
  go_wp2_with (first
    | (go_at_call 11; refine (HM.out _ _ _ _ _).mono ?_; rintro e w1 ⟨rfl, hf1⟩; obtain ⟨c0, c1, c2, c3, c4, c5, z0, z1, z2, z3, z4, z5⟩ := six_at (HB.out.no hf1)))
  exact bodyPost_ret (v := .agg #[.string ⟨#[67, 114, 101, 68, 116, 84, 109]⟩, .int .i64 1, .int .i64 1, .int .i64 4, .int .i64 19, .int .i64 19]) (results_bk (g := w.heap.size) (cs := [.string ⟨#[67, 114, 101, 68, 116, 84, 109]⟩, .int .i64 1, .int .i64 1, .int .i64 4, .int .i64 19, .int .i64 19]) Tryz.results13 rfl (put6_bk (HB.out.no hf1) _ _ _ _ _ _) Tryz.underlying32 rfl chdSize) rfl ⟨rfl, put6_fr (HF.out.trans hf1) (.inr (Nat.le_refl _)) _ _ _ _ _ _⟩
def RowTo (cs : List Chd) (w : World) (e : Ending) (w' : World) : Prop := ∃ A n c, e = .returned (.slice A n c) ∧ RdI 6 ChdI w' (fun i => w.heap.size ≤ i ∧ i < w'.heap.size) A n c cs ∧ Fr No w w'
set_option maxRecDepth 20000 in
theorem m_within (w : World) : Calls Tryz.prog 14 #[] w (RowTo bodyC w) := by
  have HK := Lib.hid m_most
  have HF := Lib.hid (Fr.refl No w)
  go_enter Tryz.func14, Tryz.ntmps14
  go_wp2_with (first
    | (go_at_call 28; refine (HK.out _ _ _ _ _ _).mono ?_; rintro e w1 ⟨rfl, hf1⟩; have HF := Lib.hid (HF.out.trans hf1); clear hf1)
    | (refine Great.wpList_buildRows rfl 24 32 _ 6 (bodyC.map Chd.val) rfl (fun i => i + 1) _ rfl _ rfl Tryz.underlying24 chdSize chdZero (by omega) (by kernel_rfl) (by kernel_rfl) (by kernel_rfl) ?_ ?_ ?_
       · intro v hv; obtain ⟨c, _, rfl⟩ := List.mem_map.1 hv; rfl
       · intro i hi; have hi16 : i < 16 := hi; (have : i = 0 ∨ i = 1 ∨ i = 2 ∨ i = 3 ∨ i = 4 ∨ i = 5 ∨ i = 6 ∨ i = 7 ∨ i = 8 ∨ i = 9 ∨ i = 10 ∨ i = 11 ∨ i = 12 ∨ i = 13 ∨ i = 14 ∨ i = 15 := by omega); rcases this with rfl | rfl | rfl | rfl | rfl | rfl | rfl | rfl | rfl | rfl | rfl | rfl | rfl | rfl | rfl | rfl <;> rfl
       have hcc : ((bodyC.map Chd.val).flatMap fun v => v.cells.toList) = cellsL bodyC := rfl
       rw [hcc]))
  go_ret
  exact ⟨_, 16, 16, rfl, chd_lit w1 bodyC 32 16 rfl (by simp [maxLen]) _ ⟨HF.out.size, by simp⟩, HF.out.alloc _⟩
set_option maxRecDepth 20000 in
theorem m_Of_doc (w : World) : Calls Tryz.prog 5 #[.string ⟨docS.toArray⟩] w (ModTo (some docC) w) := by
  have HO := Lib.hid m_once; have HN := Lib.hid m_number; have HT := Lib.hid m_time
  have HF := Lib.hid (Fr.refl No w)
  unfold docS
  go_enter Tryz.func5, Tryz.ntmps5
  go_wp2_with (first
    | (go_at_call 11; refine (HO.out _ _ _ _ _).mono ?_; rintro e w1 ⟨rfl, hf1⟩; have HF := Lib.hid (HF.out.trans hf1); clear hf1)
    | (go_at_call 12; refine (HN.out _).mono ?_; rintro e w1 ⟨rfl, hf1⟩; have HF := Lib.hid (HF.out.trans hf1); clear hf1)
    | (go_at_call 13; refine (HT.out _).mono ?_; rintro e w1 ⟨rfl, hf1⟩; have HF := Lib.hid (HF.out.trans hf1); clear hf1))
  go_ret2
  exact mod_lit (cs := docC) HF.out rfl (by simp [maxLen])
set_option maxRecDepth 20000 in
theorem m_Of_hdr (w : World) : Calls Tryz.prog 5 #[.string ⟨hdrS.toArray⟩] w (ModTo (some hdrC) w) := by
  have HO := Lib.hid m_once; have HN := Lib.hid m_number; have HT := Lib.hid m_time
  have HF := Lib.hid (Fr.refl No w)
  unfold hdrS
  go_enter Tryz.func5, Tryz.ntmps5
  go_wp2_with (first
    | (go_at_call 11; refine (HO.out _ _ _ _ _).mono ?_; rintro e w1 ⟨rfl, hf1⟩; have HF := Lib.hid (HF.out.trans hf1); clear hf1)
    | (go_at_call 12; refine (HN.out _).mono ?_; rintro e w1 ⟨rfl, hf1⟩; have HF := Lib.hid (HF.out.trans hf1); clear hf1)
    | (go_at_call 13; refine (HT.out _).mono ?_; rintro e w1 ⟨rfl, hf1⟩; have HF := Lib.hid (HF.out.trans hf1); clear hf1))
  go_ret2
  exact mod_lit (cs := hdrC) HF.out rfl (by simp [maxLen])
set_option maxRecDepth 20000 in
theorem m_Of_org (w : World) : Calls Tryz.prog 5 #[.string ⟨orgS.toArray⟩] w (ModTo (some orgC) w) := by
  have HO := Lib.hid m_once; have HN := Lib.hid m_number; have HT := Lib.hid m_time
  have HF := Lib.hid (Fr.refl No w)
  unfold orgS
  go_enter Tryz.func5, Tryz.ntmps5
  go_wp2_with (first
    | (go_at_call 11; refine (HO.out _ _ _ _ _).mono ?_; rintro e w1 ⟨rfl, hf1⟩; have HF := Lib.hid (HF.out.trans hf1); clear hf1)
    | (go_at_call 12; refine (HN.out _).mono ?_; rintro e w1 ⟨rfl, hf1⟩; have HF := Lib.hid (HF.out.trans hf1); clear hf1)
    | (go_at_call 13; refine (HT.out _).mono ?_; rintro e w1 ⟨rfl, hf1⟩; have HF := Lib.hid (HF.out.trans hf1); clear hf1))
  go_ret2
  exact mod_lit (cs := orgC) HF.out rfl (by simp [maxLen])
set_option maxRecDepth 20000 in
theorem m_Of_ext (w : World) : Calls Tryz.prog 5 #[.string ⟨extS.toArray⟩] w (ModTo (some extC) w) := by
  have HO := Lib.hid m_once; have HN := Lib.hid m_number; have HT := Lib.hid m_time
  have HF := Lib.hid (Fr.refl No w)
  unfold extS
  go_enter Tryz.func5, Tryz.ntmps5
  go_wp2_with (first
    | (go_at_call 11; refine (HO.out _ _ _ _ _).mono ?_; rintro e w1 ⟨rfl, hf1⟩; have HF := Lib.hid (HF.out.trans hf1); clear hf1)
    | (go_at_call 12; refine (HN.out _).mono ?_; rintro e w1 ⟨rfl, hf1⟩; have HF := Lib.hid (HF.out.trans hf1); clear hf1)
    | (go_at_call 13; refine (HT.out _).mono ?_; rintro e w1 ⟨rfl, hf1⟩; have HF := Lib.hid (HF.out.trans hf1); clear hf1))
  go_ret2
  exact mod_lit (cs := extC) HF.out rfl (by simp [maxLen])
set_option maxRecDepth 20000 in
theorem m_Of_body (w : World) : Calls Tryz.prog 5 #[.string ⟨bodyS.toArray⟩] w (ModTo (some bodyC) w) := by
  have HW := Lib.hid m_within
  unfold bodyS
  go_enter Tryz.func5, Tryz.ntmps5
  go_wp2_with (first
    | (go_at_call 14; refine (HW.out _).mono ?_; rintro e w1 ⟨A, n, c, rfl, hR, hf1⟩))
  go_ret2
  exact ⟨A, n, c, rfl, hR, hf1⟩
set_option maxRecDepth 20000 in
theorem m_Of_none (S : ByteArray) (w : World) (h1 : S.data.toList ≠ docS) (h2 : S.data.toList ≠ hdrS) (h3 : S.data.toList ≠ bodyS) (h4 : S.data.toList ≠ orgS) (h5 : S.data.toList ≠ extS) : Calls Tryz.prog 5 #[.string S] w (ModTo none w) := by
  rw [← s_list, ← beq_eq_false_iff_ne] at h1 h2 h3 h4 h5
  unfold docS at h1
  unfold hdrS at h2
  unfold bodyS at h3
  unfold orgS at h4
  unfold extS at h5
  go_enter Tryz.func5, Tryz.ntmps5
  go_wp2
  go_ret2
  exact mod_none w
theorem m_Of_any (S : ByteArray) (w : World) : Calls Tryz.prog 5 #[.string S] w (ModTo (modelL S.data.toList) w) := by
  unfold modelL
  split
  · rename_i h; rw [ba_eq h]; exact m_Of_doc w
  split
  · rename_i h; rw [ba_eq h]; exact m_Of_hdr w
  split
  · rename_i h; rw [ba_eq h]; exact m_Of_body w
  split
  · rename_i h; rw [ba_eq h]; exact m_Of_org w
  split
  · rename_i h; rw [ba_eq h]; exact m_Of_ext w
  rename_i h1 h2 h3 h4 h5
  exact m_Of_none S w h1 h2 h3 h4 h5
end Go.Proofs.YtbfodbejdaafaaaGreatDoor
/- The statements' own models: a child by name. -/
namespace Go.Proofs.YtbfodbejdaafaaaGreatDoor
open Go.RowKit
set_option maxHeartbeats 1000000
set_option linter.unusedVariables false

theorem child_hit {cs : List Chd} {nm : List UInt8} {k : Nat} (hk : k < cs.length) (h : cs[k].name = nm) (hn : ∀ j (hj : j < cs.length), j < k → cs[j].name ≠ nm) : childL cs nm = cs[k] := by
  unfold childL
  have : cs.find? (fun c => c.name == nm) = some cs[k] := by
    rw [List.find?_eq_some_iff_getElem]
    refine ⟨by simpa using h, k, hk, rfl, fun j hj => ?_⟩
    have := hn j (by omega) hj
    simpa using this
  rw [this]
  rfl
theorem child_miss {cs : List Chd} {nm : List UInt8} (hn : ∀ j (hj : j < cs.length), cs[j].name ≠ nm) : childL cs nm = zChd := by
  unfold childL
  have : cs.find? (fun c => c.name == nm) = none := by
    rw [List.find?_eq_none]
    intro x hx
    obtain ⟨j, hj, rfl⟩ := List.getElem_of_mem hx
    simpa using hn j hj
  rw [this]
  rfl
theorem chd_one (c : Chd) : c.cells.toArray.all (·.oneCell') = true := by simp [Chd.cells, Value.oneCell']
set_option maxRecDepth 20000 in
theorem r_child_any (cs : List Chd) (S : ByteArray) (A : Option Addr) (n c : Nat) (N : Nat → Prop) (w : World) (h : RdI 6 ChdI w N A n c cs) (hn : n ≤ 1000000000) :
    Calls Tryz.prog 27 #[.slice A n c, .string S] w fun e w' => e = .returned (childL cs S.data.toList).val ∧ Fr No w w' := by
  have hlen := h.len chd_ok (by omega)
  have B0 : Bk (w.alloc (.cells #[.string ⟨#[]⟩, .int .i64 0, .int .i64 0, .int .i64 0, .int .i64 0, .int .i64 0] 32)) w.heap.size 32 zChd.cells := Bk.new w _ _
  have F0 := (Fr.refl No w).alloc (.cells #[.string ⟨#[]⟩, .int .i64 0, .int .i64 0, .int .i64 0, .int .i64 0, .int .i64 0] 32)
  have HR := Lib.hid (h.no chd_ok F0)
  have HB := Lib.hid B0; have HF := Lib.hid F0
  clear h B0 F0
  generalize hRR : childL cs S.data.toList = R
  have HRR := Lib.hid hRR
  clear hRR
  go_enter Tryz.func27, Tryz.ntmps27
  go_wp2
  generalize hW : (w.alloc (.cells #[.string ⟨#[]⟩, .int .i64 0, .int .i64 0, .int .i64 0, .int .i64 0, .int .i64 0] 32)) = W at HR HB HF ⊢
  clear hW
  go_loopw [5] (fun iv wr => ∃ k : Nat, iv = .int .i64 (k : Int) ∧ k ≤ n ∧ wr = W ∧ ∀ j (hj : j < cs.length), j < k → cs[j].name ≠ S.data.toList) (fun iv _ => n - (intOf iv).toNat)
  case atStart => exact ⟨0, rfl, Nat.zero_le _, rfl, fun _ _ h => by omega⟩
  case round =>
    obtain ⟨k, rfl, hk, rfl, hne⟩ := hrel
    have HNE := Lib.hid hne
    clear hne
    rcases Nat.lt_or_ge k n with hlt | hge
    · have hltI : (k : Int) < (n : Int) := by omega
      have hkl : k < cs.length := by omega
      obtain ⟨ad, rfl, P, hP, x0, x1, x2, x3, x4, x5, -⟩ := chd_cells HR.out hkl
      by_cases hq : cs[k].name = S.data.toList
      · have hq2 : (cs[k].nm.toList == S.toList) = true := by
          rw [beq_iff_eq, s_list, s_list]; exact hq
        have hd : cs[k] = R := by rw [← HRR.out, child_hit hkl hq HNE.out]
        rw [hd] at x0 x1 x2 x3 x4 x5 hq2
        clear hd hq
        have b0 : wr.cell? ⟨w.heap.size, 0, none⟩ = some (.string ⟨#[]⟩) := HB.out.cell 0
        have b1 : wr.cell? ⟨w.heap.size, 1, none⟩ = some (.int .i64 0) := HB.out.cell 1
        have b2 : wr.cell? ⟨w.heap.size, 2, none⟩ = some (.int .i64 0) := HB.out.cell 2
        have b3 : wr.cell? ⟨w.heap.size, 3, none⟩ = some (.int .i64 0) := HB.out.cell 3
        have b4 : wr.cell? ⟨w.heap.size, 4, none⟩ = some (.int .i64 0) := HB.out.cell 4
        have b5 : wr.cell? ⟨w.heap.size, 5, none⟩ = some (.int .i64 0) := HB.out.cell 5
        have z0 := HB.out.frozen 0; have z1 := HB.out.frozen 1; have z2 := HB.out.frozen 2; have z3 := HB.out.frozen 3; have z4 := HB.out.frozen 4; have z5 := HB.out.frozen 5
        go_wp2
        have B8 : Bk ((((((wr.setCell ⟨w.heap.size, 0, none⟩ (.string R.nm)).setCell ⟨w.heap.size, 1, none⟩ (.int .i64 R.mn)).setCell ⟨w.heap.size, 2, none⟩ (.int .i64 R.mx)).setCell ⟨w.heap.size, 3, none⟩ (.int .i64 R.ty)).setCell ⟨w.heap.size, 4, none⟩ (.int .i64 R.low)).setCell ⟨w.heap.size, 5, none⟩ (.int .i64 R.top)) w.heap.size 32 R.cells := ((((((HB.out.set_ 0 (.string R.nm)).set_ 1 (.int .i64 R.mn)).set_ 2 (.int .i64 R.mx)).set_ 3 (.int .i64 R.ty)).set_ 4 (.int .i64 R.low)).set_ 5 (.int .i64 R.top))
        have hg : No w.heap.size ∨ w.heap.size ≤ w.heap.size := .inr (Nat.le_refl _)
        exact bodyPost_ret (v := R.val) (results_bk (g := w.heap.size) (cs := R.cells) Tryz.results27 rfl B8 Tryz.underlying32 rfl chdSize) rfl ⟨rfl, (((((HF.out.setCell hg _).setCell hg _).setCell hg _).setCell hg _).setCell hg _).setCell hg _⟩
      · have hq2 : (cs[k].nm.toList == S.toList) = false := by
          rw [beq_eq_false_iff_ne, s_list, s_list]; exact hq
        go_wp2
        go_roundw
        case rel => exact ⟨k + 1, by go_num, hlt, trivial, fun j hj hjk => by
          rcases Nat.lt_or_ge j k with h1 | h1
          · exact HNE.out j hj h1
          · have : j = k := by omega
            subst this
            exact hq⟩
        case measure => simp [intOf]; omega
    · have hke : k = n := by omega
      subst hke
      have hd : zChd = R := by rw [← HRR.out, child_miss (fun j hj => HNE.out j hj (by omega))]
      subst hd
      go_wp2_with (first
        | (refine wpList_store_bk rfl 32 _ _ rfl w.heap.size rfl zChd.cells zChd.cells rfl HB.out rfl chdSize (chd_one zChd) ?_; intro w8 b8 f8 s8; have B8 := Lib.hid b8; have F8 := Lib.hid f8; clear b8 f8 s8))
      exact bodyPost_ret (v := zChd.val) (results_bk (g := w.heap.size) (cs := zChd.cells) Tryz.results27 rfl B8.out Tryz.underlying32 rfl chdSize) rfl ⟨rfl, HF.out.trans_just F8.out (Nat.le_refl _)⟩
end Go.Proofs.YtbfodbejdaafaaaGreatDoor
