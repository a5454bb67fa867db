/- The texts RefMod1, RefMod2, joined. -/
import Derived.Test.YtbfodbejdaafaaaGreatDoorK18
import Derived.Test.YtbfodbejdaafaaaGreatDoorK21
import Derived.Great.CaseRows
import Derived.LoopTactic
import Derived.Deep.RegionHeld3
/- The statements' own models: contracts. -/
namespace Go.Proofs.YtbfodbejdaafaaaGreatDoor
open Go.RowKit
set_option maxHeartbeats 1000000
set_option linter.unusedVariables false

/-- a model that comes back, or none -/
def ModTo (o : Option (List Chd)) (w : World) (e : Ending) (w' : World) : Prop := ∃ A n c, e = .returned (.tuple #[.slice A n c, .bool o.isSome]) ∧
  RdI 6 ChdI w' (fun i => w.heap.size ≤ i ∧ i < w'.heap.size) A n c (o.getD []) ∧ Fr No w w'
theorem mod_none (w : World) : ModTo none w (.returned (.tuple #[.slice none 0 0, .bool false])) w := ⟨none, 0, 0, rfl, RdI.nil_ _ _ _ _, Fr.refl _ _⟩
/-- children that were just laid in a block of their own -/
theorem chd_lit (w : World) (cs : List Chd) (t : TypeId) (n : Nat) (hn : cs.length = n) (hm : n ≤ maxLen) (N : Nat → Prop) (hN : N w.heap.size) : RdI 6 ChdI (w.alloc (.cells (cellsL cs).toArray t)) N (some ⟨w.heap.size, 0, none⟩) n n cs :=
  ⟨⟨cellsL cs, RdS.lit w (cellsL cs) t n (by rw [cells_len, hn]) hm, chd_items _ _ cs⟩, fun ad e _ => by injection e with e; subst e; exact hN⟩
theorem mod_lit {w w1 : World} {cs : List Chd} {t : TypeId} {n : Nat} (hf : Fr No w w1) (hn : cs.length = n) (hm : n ≤ maxLen) : ModTo (some cs) w (.returned (.tuple #[.slice (some ⟨w1.heap.size, 0, none⟩) n n, .bool true])) (w1.alloc (.cells (cellsL cs).toArray t)) :=
  ⟨_, n, n, rfl, chd_lit w1 cs t n hn hm _ ⟨hf.size, by simp⟩, hf.alloc _⟩
theorem chdSize : (Tryz.prog.info? 32).map (·.size) = some 6 := by kernel_rfl
theorem chdZero : ((Tryz.prog.info? 32).bind (·.zero)).isSome = true := by kernel_rfl
theorem mod_lit' {w w1 : World} {cs : List Chd} {t : TypeId} {n B : Nat} (hf : Fr No w w1) (hn : cs.length = n) (hm : n ≤ maxLen) (hB : w1.heap.size = B) : ModTo (some cs) w (.returned (.tuple #[.slice (some ⟨B, 0, none⟩) n n, .bool true])) (w1.alloc (.cells (cellsL cs).toArray t)) := by
  subst hB
  exact mod_lit hf hn hm
theorem r_kid (S : ByteArray) (a b c d e : Int) (w : World) : Calls Tryz.prog 15 #[.string S, .int .i64 a, .int .i64 b, .int .i64 c, .int .i64 d, .int .i64 e] w fun en w' => en = .returned (.agg #[.string S, .int .i64 a, .int .i64 b, .int .i64 c, .int .i64 d, .int .i64 e]) ∧ Fr No w w' := by
  have hfa := (Fr.refl No w).alloc (.cells #[.string S, .int .i64 a, .int .i64 b, .int .i64 c, .int .i64 d, .int .i64 e] 32)
  have HFA := Lib.hid hfa
  clear hfa
  go_enter Tryz.func15, Tryz.ntmps15
  go_wp2
  exact bodyPost_ret (v := .agg #[.string S, .int .i64 a, .int .i64 b, .int .i64 c, .int .i64 d, .int .i64 e]) (results_bk (g := w.heap.size) (cs := [.string S, .int .i64 a, .int .i64 b, .int .i64 c, .int .i64 d, .int .i64 e]) Tryz.results15 rfl (Bk.new w _ _) Tryz.underlying32 rfl chdSize) rfl ⟨rfl, HFA.out⟩
set_option maxRecDepth 20000 in
theorem r_Model_doc (w : World) : Calls Tryz.prog 6 #[.string ⟨docS.toArray⟩] w (ModTo (some docC) w) := by
  have HK := Lib.hid r_kid
  have HF := Lib.hid (((Fr.refl No w).alloc (.cells #[.string ⟨#[88, 99, 104, 103, 73, 100]⟩, .int .i64 1, .int .i64 1, .int .i64 1, .int .i64 1, .int .i64 6] 32)).alloc (.cells #[.string ⟨#[67, 114, 101, 68, 116, 84, 109]⟩, .int .i64 1, .int .i64 1, .int .i64 4, .int .i64 19, .int .i64 19] 32))
  unfold docS
  go_enter Tryz.func6, Tryz.ntmps6
  go_wp2_with (first
    | (go_at_call 15; refine (HK.out _ _ _ _ _ _ _).mono ?_; rintro e w1 ⟨rfl, hf1⟩; have HF := Lib.hid (HF.out.trans hf1); clear hf1))
  go_ret2
  exact mod_lit (cs := docC) HF.out rfl (by simp [maxLen])
set_option maxRecDepth 20000 in
theorem r_Model_ext (w : World) : Calls Tryz.prog 6 #[.string ⟨extS.toArray⟩] w (ModTo (some extC) w) := by
  have HK := Lib.hid r_kid
  have HF := Lib.hid (((Fr.refl No w).alloc (.cells #[.string ⟨#[88, 99, 104, 103, 73, 100]⟩, .int .i64 1, .int .i64 1, .int .i64 1, .int .i64 1, .int .i64 6] 32)).alloc (.cells #[.string ⟨#[67, 114, 101, 68, 116, 84, 109]⟩, .int .i64 1, .int .i64 1, .int .i64 4, .int .i64 19, .int .i64 19] 32))
  unfold extS
  go_enter Tryz.func6, Tryz.ntmps6
  go_wp2_with (first
    | (go_at_call 15; refine (HK.out _ _ _ _ _ _ _).mono ?_; rintro e w1 ⟨rfl, hf1⟩; have HF := Lib.hid (HF.out.trans hf1); clear hf1))
  go_ret2
  exact mod_lit (cs := extC) HF.out rfl (by simp [maxLen])
set_option maxRecDepth 20000 in
theorem r_Model_org (w : World) : Calls Tryz.prog 6 #[.string ⟨orgS.toArray⟩] w (ModTo (some orgC) w) := by
  have HF := Lib.hid (((Fr.refl No w).alloc (.cells #[.string ⟨#[88, 99, 104, 103, 73, 100]⟩, .int .i64 1, .int .i64 1, .int .i64 1, .int .i64 1, .int .i64 6] 32)).alloc (.cells #[.string ⟨#[67, 114, 101, 68, 116, 84, 109]⟩, .int .i64 1, .int .i64 1, .int .i64 4, .int .i64 19, .int .i64 19] 32))
  unfold orgS
  go_enter Tryz.func6, Tryz.ntmps6
  go_wp2
  go_ret2
  exact mod_lit' (cs := orgC) HF.out rfl (by simp [maxLen]) (by simp)
set_option maxRecDepth 20000 in
theorem r_Model_body (w : World) : Calls Tryz.prog 6 #[.string ⟨bodyS.toArray⟩] w (ModTo (some bodyC) w) := by
  have HK := Lib.hid r_kid
  have HF := Lib.hid (((Fr.refl No w).alloc (.cells #[.string ⟨#[88, 99, 104, 103, 73, 100]⟩, .int .i64 1, .int .i64 1, .int .i64 1, .int .i64 1, .int .i64 6] 32)).alloc (.cells #[.string ⟨#[67, 114, 101, 68, 116, 84, 109]⟩, .int .i64 1, .int .i64 1, .int .i64 4, .int .i64 19, .int .i64 19] 32))
  unfold bodyS
  go_enter Tryz.func6, Tryz.ntmps6
  go_wp2_with (first
    | (go_at_call 15; refine (HK.out _ _ _ _ _ _ _).mono ?_; rintro e w1 ⟨rfl, hf1⟩; have HF := Lib.hid (HF.out.trans hf1); clear hf1)
    | (refine Great.wpList_buildRows rfl 24 32 _ 6 (bodyC.map Chd.val) rfl (fun i => i + 23) _ rfl _ rfl Tryz.underlying24 chdSize chdZero (by omega) (by kernel_rfl) (by kernel_rfl) (by kernel_rfl) ?_ ?_ ?_
       · intro v hv; obtain ⟨c, _, rfl⟩ := List.mem_map.1 hv; rfl
       · intro i hi; have hi16 : i < 16 := hi; (have : i = 0 ∨ i = 1 ∨ i = 2 ∨ i = 3 ∨ i = 4 ∨ i = 5 ∨ i = 6 ∨ i = 7 ∨ i = 8 ∨ i = 9 ∨ i = 10 ∨ i = 11 ∨ i = 12 ∨ i = 13 ∨ i = 14 ∨ i = 15 := by omega); rcases this with rfl | rfl | rfl | rfl | rfl | rfl | rfl | rfl | rfl | rfl | rfl | rfl | rfl | rfl | rfl | rfl <;> rfl
       have hcc : ((bodyC.map Chd.val).flatMap fun v => v.cells.toList) = cellsL bodyC := rfl
       rw [hcc]))
  go_ret2
  exact mod_lit (cs := bodyC) HF.out rfl (by simp [maxLen])
set_option maxRecDepth 20000 in
theorem r_Model_hdr (w : World) : Calls Tryz.prog 6 #[.string ⟨hdrS.toArray⟩] w (ModTo (some hdrC) w) := by
  have HK := Lib.hid r_kid
  have hf := ((Fr.refl No w).alloc (.cells #[.string ⟨#[88, 99, 104, 103, 73, 100]⟩, .int .i64 1, .int .i64 1, .int .i64 1, .int .i64 1, .int .i64 6] 32)).alloc (.cells #[.string ⟨#[67, 114, 101, 68, 116, 84, 109]⟩, .int .i64 1, .int .i64 1, .int .i64 4, .int .i64 19, .int .i64 19] 32)
  have B4 : Bk ((w.alloc (.cells #[.string ⟨#[88, 99, 104, 103, 73, 100]⟩, .int .i64 1, .int .i64 1, .int .i64 1, .int .i64 1, .int .i64 6] 32)).alloc (.cells #[.string ⟨#[67, 114, 101, 68, 116, 84, 109]⟩, .int .i64 1, .int .i64 1, .int .i64 4, .int .i64 19, .int .i64 19] 32)) w.heap.size 32 [.string ⟨#[88, 99, 104, 103, 73, 100]⟩, .int .i64 1, .int .i64 1, .int .i64 1, .int .i64 1, .int .i64 6] := (Bk.new w _ _).no ((Fr.refl No _).alloc _)
  have B5 : Bk ((w.alloc (.cells #[.string ⟨#[88, 99, 104, 103, 73, 100]⟩, .int .i64 1, .int .i64 1, .int .i64 1, .int .i64 1, .int .i64 6] 32)).alloc (.cells #[.string ⟨#[67, 114, 101, 68, 116, 84, 109]⟩, .int .i64 1, .int .i64 1, .int .i64 4, .int .i64 19, .int .i64 19] 32)) (w.heap.size + 1) 32 [.string ⟨#[67, 114, 101, 68, 116, 84, 109]⟩, .int .i64 1, .int .i64 1, .int .i64 4, .int .i64 19, .int .i64 19] := by
    have h := Bk.new (w.alloc (.cells #[.string ⟨#[88, 99, 104, 103, 73, 100]⟩, .int .i64 1, .int .i64 1, .int .i64 1, .int .i64 1, .int .i64 6] 32)) 32 #[.string ⟨#[67, 114, 101, 68, 116, 84, 109]⟩, .int .i64 1, .int .i64 1, .int .i64 4, .int .i64 19, .int .i64 19]
    simpa using h
  have hS : (fun u : World => u.cell? ⟨w.heap.size, 0, none⟩ = some (.string ⟨#[88, 99, 104, 103, 73, 100]⟩) ∧ u.cell? ⟨w.heap.size, 1, none⟩ = some (.int .i64 1) ∧ u.cell? ⟨w.heap.size, 2, none⟩ = some (.int .i64 1) ∧ u.cell? ⟨w.heap.size, 3, none⟩ = some (.int .i64 1) ∧ u.cell? ⟨w.heap.size, 4, none⟩ = some (.int .i64 1) ∧ u.cell? ⟨w.heap.size, 5, none⟩ = some (.int .i64 6) ∧ u.cell? ⟨w.heap.size + 1, 0, none⟩ = some (.string ⟨#[67, 114, 101, 68, 116, 84, 109]⟩) ∧ u.cell? ⟨w.heap.size + 1, 1, none⟩ = some (.int .i64 1) ∧ u.cell? ⟨w.heap.size + 1, 2, none⟩ = some (.int .i64 1) ∧ u.cell? ⟨w.heap.size + 1, 3, none⟩ = some (.int .i64 4) ∧ u.cell? ⟨w.heap.size + 1, 4, none⟩ = some (.int .i64 19) ∧ u.cell? ⟨w.heap.size + 1, 5, none⟩ = some (.int .i64 19)) ((w.alloc (.cells #[.string ⟨#[88, 99, 104, 103, 73, 100]⟩, .int .i64 1, .int .i64 1, .int .i64 1, .int .i64 1, .int .i64 6] 32)).alloc (.cells #[.string ⟨#[67, 114, 101, 68, 116, 84, 109]⟩, .int .i64 1, .int .i64 1, .int .i64 4, .int .i64 19, .int .i64 19] 32)) := ⟨B4.cell 0, B4.cell 1, B4.cell 2, B4.cell 3, B4.cell 4, B4.cell 5, B5.cell 0, B5.cell 1, B5.cell 2, B5.cell 3, B5.cell 4, B5.cell 5⟩
  have hk : ∀ u u' : World, Fr No u u' → (fun u : World => u.cell? ⟨w.heap.size, 0, none⟩ = some (.string ⟨#[88, 99, 104, 103, 73, 100]⟩) ∧ u.cell? ⟨w.heap.size, 1, none⟩ = some (.int .i64 1) ∧ u.cell? ⟨w.heap.size, 2, none⟩ = some (.int .i64 1) ∧ u.cell? ⟨w.heap.size, 3, none⟩ = some (.int .i64 1) ∧ u.cell? ⟨w.heap.size, 4, none⟩ = some (.int .i64 1) ∧ u.cell? ⟨w.heap.size, 5, none⟩ = some (.int .i64 6) ∧ u.cell? ⟨w.heap.size + 1, 0, none⟩ = some (.string ⟨#[67, 114, 101, 68, 116, 84, 109]⟩) ∧ u.cell? ⟨w.heap.size + 1, 1, none⟩ = some (.int .i64 1) ∧ u.cell? ⟨w.heap.size + 1, 2, none⟩ = some (.int .i64 1) ∧ u.cell? ⟨w.heap.size + 1, 3, none⟩ = some (.int .i64 4) ∧ u.cell? ⟨w.heap.size + 1, 4, none⟩ = some (.int .i64 19) ∧ u.cell? ⟨w.heap.size + 1, 5, none⟩ = some (.int .i64 19)) u → (fun u : World => u.cell? ⟨w.heap.size, 0, none⟩ = some (.string ⟨#[88, 99, 104, 103, 73, 100]⟩) ∧ u.cell? ⟨w.heap.size, 1, none⟩ = some (.int .i64 1) ∧ u.cell? ⟨w.heap.size, 2, none⟩ = some (.int .i64 1) ∧ u.cell? ⟨w.heap.size, 3, none⟩ = some (.int .i64 1) ∧ u.cell? ⟨w.heap.size, 4, none⟩ = some (.int .i64 1) ∧ u.cell? ⟨w.heap.size, 5, none⟩ = some (.int .i64 6) ∧ u.cell? ⟨w.heap.size + 1, 0, none⟩ = some (.string ⟨#[67, 114, 101, 68, 116, 84, 109]⟩) ∧ u.cell? ⟨w.heap.size + 1, 1, none⟩ = some (.int .i64 1) ∧ u.cell? ⟨w.heap.size + 1, 2, none⟩ = some (.int .i64 1) ∧ u.cell? ⟨w.heap.size + 1, 3, none⟩ = some (.int .i64 4) ∧ u.cell? ⟨w.heap.size + 1, 4, none⟩ = some (.int .i64 19) ∧ u.cell? ⟨w.heap.size + 1, 5, none⟩ = some (.int .i64 19)) u' := by
    rintro u u' h ⟨a0, a1, a2, a3, a4, a5, b0, b1, b2, b3, b4, b5⟩
    exact ⟨h.cell a0 (fun x => x), h.cell a1 (fun x => x), h.cell a2 (fun x => x), h.cell a3 (fun x => x), h.cell a4 (fun x => x), h.cell a5 (fun x => x), h.cell b0 (fun x => x), h.cell b1 (fun x => x), h.cell b2 (fun x => x), h.cell b3 (fun x => x), h.cell b4 (fun x => x), h.cell b5 (fun x => x)⟩
  have HKK := Lib.hid hk; have HSS := Lib.hid hS
  have HF := Lib.hid hf
  clear hf B4 B5 hk hS
  unfold hdrS
  go_enter Tryz.func6, Tryz.ntmps6
  go_wp2
  go_region_held3 (fun u : World => u.cell? ⟨w.heap.size, 0, none⟩ = some (.string ⟨#[88, 99, 104, 103, 73, 100]⟩) ∧ u.cell? ⟨w.heap.size, 1, none⟩ = some (.int .i64 1) ∧ u.cell? ⟨w.heap.size, 2, none⟩ = some (.int .i64 1) ∧ u.cell? ⟨w.heap.size, 3, none⟩ = some (.int .i64 1) ∧ u.cell? ⟨w.heap.size, 4, none⟩ = some (.int .i64 1) ∧ u.cell? ⟨w.heap.size, 5, none⟩ = some (.int .i64 6) ∧ u.cell? ⟨w.heap.size + 1, 0, none⟩ = some (.string ⟨#[67, 114, 101, 68, 116, 84, 109]⟩) ∧ u.cell? ⟨w.heap.size + 1, 1, none⟩ = some (.int .i64 1) ∧ u.cell? ⟨w.heap.size + 1, 2, none⟩ = some (.int .i64 1) ∧ u.cell? ⟨w.heap.size + 1, 3, none⟩ = some (.int .i64 4) ∧ u.cell? ⟨w.heap.size + 1, 4, none⟩ = some (.int .i64 19) ∧ u.cell? ⟨w.heap.size + 1, 5, none⟩ = some (.int .i64 19))
    (first
     | with_reducible exact HKK.out _ _ (Dr.fr (Dr.refl _).drew) HSS.out
     | with_reducible exact HKK.out _ _ F1.out (HKK.out _ _ (Dr.fr (Dr.refl _).drew) HSS.out)
     | with_reducible exact HKK.out _ _ (F1.out.trans F2.out) (HKK.out _ _ (Dr.fr (Dr.refl _).drew) HSS.out)
     | go_keep)
    (first
     | (go_at_call 15; (with_reducible refine (HK.out _ _ _ _ _ _ w1).mono ?_); rintro e w2 ⟨rfl, hf2⟩; have F2 := Lib.hid hf2; clear hf2)
     | (go_at_call 15; (with_reducible refine (HK.out _ _ _ _ _ _ _).mono ?_); rintro e w1 ⟨rfl, hf1⟩; have F1 := Lib.hid hf1; clear hf1))
  all_goals
    go_wp2
    go_ret2
    exact mod_lit (cs := hdrC) (((HF.out.dr (Dr.refl _).drew).trans F1.out).trans F2.out) rfl (by simp [maxLen])
theorem ba_eq {S : ByteArray} {l : List UInt8} (h : S.data.toList = l) : S = ⟨l.toArray⟩ := by
  subst h
  rfl
end Go.Proofs.YtbfodbejdaafaaaGreatDoor
/- The statements' own models: a child by name; whether a node's kids are as its model has them. -/
namespace Go.Proofs.YtbfodbejdaafaaaGreatDoor
open Go.RowKit
set_option maxHeartbeats 1000000
set_option linter.unusedVariables false

set_option maxRecDepth 20000 in
theorem r_Model_none (S : ByteArray) (w : World) (h1 : S.data.toList ≠ docS) (h2 : S.data.toList ≠ hdrS) (h3 : S.data.toList ≠ bodyS) (h4 : S.data.toList ≠ orgS) (h5 : S.data.toList ≠ extS) : Calls Tryz.prog 6 #[.string S] w (ModTo none w) := by
  have HF := Lib.hid (((Fr.refl No w).alloc (.cells #[.string ⟨#[88, 99, 104, 103, 73, 100]⟩, .int .i64 1, .int .i64 1, .int .i64 1, .int .i64 1, .int .i64 6] 32)).alloc (.cells #[.string ⟨#[67, 114, 101, 68, 116, 84, 109]⟩, .int .i64 1, .int .i64 1, .int .i64 4, .int .i64 19, .int .i64 19] 32))
  rw [← s_list, ← beq_eq_false_iff_ne] at h1 h2 h3 h4 h5
  unfold docS at h1
  unfold hdrS at h2
  unfold bodyS at h3
  unfold orgS at h4
  unfold extS at h5
  go_enter Tryz.func6, Tryz.ntmps6
  go_wp2
  go_ret2
  exact ⟨none, 0, 0, rfl, RdI.nil_ _ _ _ _, HF.out⟩
theorem r_Model_any (S : ByteArray) (w : World) : Calls Tryz.prog 6 #[.string S] w (ModTo (modelL S.data.toList) w) := by
  unfold modelL
  split
  · rename_i h; rw [ba_eq h]; exact r_Model_doc w
  split
  · rename_i h; rw [ba_eq h]; exact r_Model_hdr w
  split
  · rename_i h; rw [ba_eq h]; exact r_Model_body w
  split
  · rename_i h; rw [ba_eq h]; exact r_Model_org w
  split
  · rename_i h; rw [ba_eq h]; exact r_Model_ext w
  rename_i h1 h2 h3 h4 h5
  exact r_Model_none S w h1 h2 h3 h4 h5
theorem add_next6 (a : Addr) (i k : Nat) : a.add (i * 6 + (k + 1)) = ⟨(a.add (i * 6)).block, (a.add (i * 6)).off + (k + 1), none⟩ := by
  unfold Addr.add
  by_cases h : i * 6 = 0
  · rw [h]; simp
  · simp [h]; omega
/-- the cells of one child -/
theorem chd_cells {w : World} {N : Nat → Prop} {A : Option Addr} {n c : Nat} {cs : List Chd} (h : RdI 6 ChdI w N A n c cs) {k : Nat} (hk : k < cs.length) : ∃ ad, A = some ad ∧ ∃ P : Addr, ad.add (k * 6) = P ∧ w.cell? P = some (.string cs[k].nm) ∧
    w.cell? ⟨P.block, P.off + 1, none⟩ = some (.int .i64 cs[k].mn) ∧ w.cell? ⟨P.block, P.off + 2, none⟩ = some (.int .i64 cs[k].mx) ∧ w.cell? ⟨P.block, P.off + 3, none⟩ = some (.int .i64 cs[k].ty) ∧
    w.cell? ⟨P.block, P.off + 4, none⟩ = some (.int .i64 cs[k].low) ∧ w.cell? ⟨P.block, P.off + 5, none⟩ = some (.int .i64 cs[k].top) ∧ (0 < n → N P.block) := by
  have hn := h.len chd_ok (by omega)
  obtain ⟨ad, ds, rfl, hd, hc⟩ := h.at_ chd_ok (by omega) hk
  have hd : ds = cs[k].cells := hd
  subst hd
  have x0 := hc 0 _ rfl
  have x1 := hc 1 _ rfl
  have x2 := hc 2 _ rfl
  have x3 := hc 3 _ rfl
  have x4 := hc 4 _ rfl
  have x5 := hc 5 _ rfl
  rw [add_next6] at x1 x2 x3 x4 x5
  rw [Nat.add_zero] at x0
  exact ⟨ad, rfl, _, rfl, x0, x1, x2, x3, x4, x5, fun h0 => by rw [blk_add]; exact h.blk ad rfl h0⟩
end Go.Proofs.YtbfodbejdaafaaaGreatDoor
