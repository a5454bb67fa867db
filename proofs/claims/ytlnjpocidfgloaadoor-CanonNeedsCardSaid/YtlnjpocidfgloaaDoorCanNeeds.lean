/- CanonNeeds: four nodes that are right, and eleven ways to spoil them: the walk, for every two numbers. Written by wip/gen_canneeds.py. -/
import Derived.Test.YtlnjpocidfgloaaDoorCanLit
import Derived.Test.YtlnjpocidfgloaaDoorStr
namespace Go.Proofs.YtlnjpocidfgloaaDoor
open Go.RowKit
set_option maxHeartbeats 2000000
set_option linter.unusedVariables false

def ndC : List Value → Prop := fun _ => True
/-- the four nodes as they are laid, their attribute in block b -/
def ndCs (b : Nat) : List Value := cs4 (-1) 0 1 0 ⟨#[97]⟩ ⟨#[98]⟩ ⟨#[99]⟩ ⟨#[100]⟩ ⟨#[]⟩ ⟨#[]⟩ ⟨#[116]⟩ ⟨#[]⟩ (some ⟨b, 0, none⟩) 1 1
def ndLs : List Nod := ls4 (-1) 0 1 0 ⟨#[97]⟩ ⟨#[98]⟩ ⟨#[99]⟩ ⟨#[100]⟩ ⟨#[]⟩ ⟨#[]⟩ ⟨#[116]⟩ ⟨#[]⟩ [([120], [49])]
theorem nd_right : rightB ndLs = true := by kernel_rfl
theorem small4 (p0 p1 p2 p3 : Int) (x0 x1 x2 x3 y0 y1 y2 y3 : ByteArray) (ats : List (List UInt8 × List UInt8)) (h : [x0, x1, x2, x3, y0, y1, y2, y3].all (fun x => decide (x.size ≤ 100)) = true) (h2 : ats.length ≤ 100) (h3 : ats.all (fun a => decide (a.1.length ≤ 100 ∧ a.2.length ≤ 100)) = true) :
    ∀ x ∈ ls4 p0 p1 p2 p3 x0 x1 x2 x3 y0 y1 y2 y3 ats, NodS x := by
  have hz : ∀ X : ByteArray, X.data.toList.length = X.size := size_list
  have ha : ∀ a ∈ ats, AttrS a := fun a ha => by
    have := of_decide_eq_true (List.all_eq_true.1 h3 a ha)
    exact ⟨by omega, by omega⟩
  simp only [List.all_cons, List.all_nil, Bool.and_true, Bool.and_eq_true, decide_eq_true_eq] at h
  intro x hx
  simp only [ls4, List.mem_cons, List.not_mem_nil, or_false] at hx
  rcases hx with rfl | rfl | rfl | rfl
  · exact ⟨by show x0.data.toList.length ≤ _; rw [hz]; omega, by show y0.data.toList.length ≤ _; rw [hz]; omega, by show ats.length ≤ _; omega, ha⟩
  · exact ⟨by show x1.data.toList.length ≤ _; rw [hz]; omega, by show y1.data.toList.length ≤ _; rw [hz]; omega, by simp, fun a h' => by cases h'⟩
  · exact ⟨by show x2.data.toList.length ≤ _; rw [hz]; omega, by show y2.data.toList.length ≤ _; rw [hz]; omega, by simp, fun a h' => by cases h'⟩
  · exact ⟨by show x3.data.toList.length ≤ _; rw [hz]; omega, by show y3.data.toList.length ≤ _; rw [hz]; omega, by simp, fun a h' => by cases h'⟩
/-- the world that they are laid in -/
def ndW (w : World) : World := (w.alloc (.cells #[.string ⟨#[120]⟩, .string ⟨#[49]⟩] 29)).alloc (.cells (ndCs w.heap.size).toArray 32)
theorem nd_fr (w : World) : Fr No w (ndW w) := ((Fr.refl No w).alloc _).alloc _
theorem nd_attr (w : World) : Bk (ndW w) w.heap.size 29 [.string ⟨#[120]⟩, .string ⟨#[49]⟩] := (Bk.new w _ _).no ((Fr.refl No _).alloc _)
theorem nd_node (w : World) : Bk (ndW w) (w.heap.size + 1) 32 (ndCs w.heap.size) := by
  have h := Bk.new (w.alloc (.cells #[.string ⟨#[120]⟩, .string ⟨#[49]⟩] 29)) 32 (ndCs w.heap.size).toArray
  rw [show (w.alloc (.cells #[.string ⟨#[120]⟩, .string ⟨#[49]⟩] 29)).heap.size = w.heap.size + 1 by simp] at h
  exact h
/-- what stands where they were laid, whatever was turned in it, is read as four nodes -/
theorem nd_rd {u : World} {b B : Nat} {X Y : ByteArray} {t : TypeId} {cs : List Value} (p0 p1 p2 p3 : Int) (x0 x1 x2 x3 y0 y1 y2 y3 : ByteArray) (hA : Bk u b t [.string X, .string Y]) (hB : Bk u B 32 cs) (he : cs = cs4 p0 p1 p2 p3 x0 x1 x2 x3 y0 y1 y2 y3 (some ⟨b, 0, none⟩) 1 1) :
    RdI 4 NodI u (fun i => i < u.heap.size) (some ⟨B, 0, none⟩) 4 4 (ls4 p0 p1 p2 p3 x0 x1 x2 x3 y0 y1 y2 y3 [(X.data.toList, Y.data.toList)]) := by
  subst he
  exact rd_bk hB rfl (by omega) (it4 p0 p1 p2 p3 x0 x1 x2 x3 y0 y1 y2 y3 (at_bk hA hA.lt)) hB.lt
/-- they are right as they stand -/
theorem nd_yes (w u : World) (hf : Fr No (ndW w) u) (hT : Tabs u) : Calls Tryd.prog 10 #[.slice (some ⟨w.heap.size + 1, 0, none⟩) 4 4] u fun e w' => e = .returned (.bool true) ∧ Fr No u w' := by
  have h := c_right_any ndLs (some ⟨w.heap.size + 1, 0, none⟩) 4 4 _ u (nd_rd (-1) 0 1 0 ⟨#[97]⟩ ⟨#[98]⟩ ⟨#[99]⟩ ⟨#[100]⟩ ⟨#[]⟩ ⟨#[]⟩ ⟨#[116]⟩ ⟨#[]⟩ ((nd_attr w).no hf) ((nd_node w).no hf) rfl) (small4 _ _ _ _ _ _ _ _ _ _ _ _ _ (by kernel_rfl) (by decide) (by kernel_rfl)) (by omega) hT
  rw [nd_right] at h
  exact h
/-- and rows that are not: neither written nor right -/
theorem no_both (ls : List Nod) (hr : rightB ls = false) (hs : ∀ x ∈ ls, NodS x) (A : Option Addr) (n c : Nat) (u : World) (hR : RdI 4 NodI u (fun i => i < u.heap.size) A n c ls) (hn : n ≤ 1000000) (hT : Tabs u) :
    (Calls Tryd.prog 8 #[.slice A n c] u fun e w' => e = .returned (.tuple #[.string ⟨#[]⟩, .int .i64 10]) ∧ Fr No u w') ∧
    ∀ u', Fr No u u' → Calls Tryd.prog 10 #[.slice A n c] u' fun e w' => e = .returned (.bool false) ∧ Fr No u' w' := by
  refine ⟨c_write_no ls hr hs A n c _ u hR hn hT, fun u' hf => ?_⟩
  have h := c_right_any ls A n c _ u' (hR.no nod_ok hf) hs hn (hT.fr hf)
  rw [hr] at h
  exact h
/-- an attribute that lies whole in a block of its own, as one's own -/
theorem own_at {u : World} {B base : Nat} {N : Nat → Prop} {X Y : ByteArray} (hb : Bk u B 29 [.string X, .string Y]) (hlow : base ≤ B) :
    OwnI 2 AttrI u base 29 N (.slice (some ⟨B, 0, none⟩) 1 1) 1 [(X.data.toList, Y.data.toList)] :=
  ⟨⟨[.string X, .string Y], ⟨rfl, .inr ⟨B, 1, #[.string X, .string Y], rfl, hlow, hb, Nat.le_refl _, by simp [maxLen], rfl, rfl⟩⟩, ItemsF.single ⟨X, Y, rfl, rfl, rfl⟩⟩⟩
theorem str_one (u : World) (t : TypeId) {i : Int} {b : UInt8} (hi : i = (b.toNat : Int)) : (convert 34 9 (.slice (some ⟨u.heap.size, 0, none⟩) 1 1)).run Tryd.prog (u.alloc (.cells #[.int .u8 i] t)) = .ok (.string ⟨#[b]⟩) (u.alloc (.cells #[.int .u8 i] t)) := by
  subst hi
  have hr : Rd (u.alloc (.cells #[.int .u8 (b.toNat : Int)] t)) (some ⟨u.heap.size, 0, none⟩) 1 1 (u8s [b]) :=
    (Bk.new u t #[.int .u8 (b.toNat : Int)]).rd (n := 1) (cap := 1) (Nat.le_refl _) (by simp [maxLen]) (by simp)
  exact run_string (P := Tryd.prog) hr 34 5 Tryd.underlying34 Tryd.underlying5 9 Tryd.underlying9
theorem str_drew (u : World) (t : TypeId) {i : Int} {b : UInt8} (hi : i = (b.toNat : Int)) : (convert 34 9 (.slice (some ⟨u.heap.size, 0, none⟩) 1 1)).run Tryd.prog (u.alloc (.cells #[.int .u8 i] t)).drew = .ok (.string ⟨#[b]⟩) (u.alloc (.cells #[.int .u8 i] t)).drew := by
  subst hi
  have hr : Rd (u.alloc (.cells #[.int .u8 (b.toNat : Int)] t)).drew (some ⟨u.heap.size, 0, none⟩) 1 1 (u8s [b]) :=
    ((Bk.new u t #[.int .u8 (b.toNat : Int)]).no (Fr.refl No _).drew).rd (n := 1) (cap := 1) (Nat.le_refl _) (by simp [maxLen]) (by simp)
  exact run_string (P := Tryd.prog) hr 34 5 Tryd.underlying34 Tryd.underlying5 9 Tryd.underlying9
def badN (b : UInt8) : List Nod := ls4 (-1) 0 1 0 ⟨#[97]⟩ ⟨#[98]⟩ ⟨#[99]⟩ ⟨#[100]⟩ ⟨#[]⟩ ⟨#[]⟩ ⟨#[116]⟩ ⟨#[b]⟩ [([120], [49])]
theorem bad_right {b : UInt8} (h : 128 ≤ b.toNat) : rightB (badN b) = false := by
  have : (List.range 256).all (fun k => decide (k < 128) || !rightB (badN (UInt8.ofNat k))) = true := by kernel_rfl
  have h2 := List.all_eq_true.1 this b.toNat (List.mem_range.2 b.toNat_lt)
  rw [UInt8.ofNat_toNat, decide_eq_false (by omega), Bool.false_or, Bool.not_eq_true'] at h2
  exact h2
theorem bad_small (b : UInt8) : ∀ x ∈ badN b, NodS x := small4 _ _ _ _ _ _ _ _ _ _ _ _ _ (by rfl) (by decide) (by kernel_rfl)
theorem five_small : ∀ x ∈ ls4 (-1) 0 1 0 ⟨#[97]⟩ ⟨#[98]⟩ ⟨#[99]⟩ ⟨#[100]⟩ ⟨#[]⟩ ⟨#[]⟩ ⟨#[116]⟩ ⟨#[]⟩ [([120], [49])] ++ [⟨1, [101], [], []⟩], NodS x := by
  intro x hx
  rcases List.mem_append.1 hx with h | h
  · exact small4 _ _ _ _ _ _ _ _ _ _ _ _ _ (by kernel_rfl) (by decide) (by kernel_rfl) x h
  · obtain rfl := List.mem_singleton.1 h
    exact ⟨by simp, by simp, by simp, fun a h' => by cases h'⟩
set_option maxRecDepth 20000 in
theorem needs_0 {x n : Int} (w : World) (hT : Tabs w) (hm : (IntKind.u64.wrap x).tmod 11 = 0) : Calls Tryd.prog 4 #[.int .i64 x, .int .u8 n] w fun e w' => e = .returned (.bool true) ∧ Fr No w w' := by
  have haw := fun u (hu : Tabs u) => awake_can u hu
  have HAW := Lib.hid haw
  have hy := nd_yes w
  have HY := Lib.hid hy
  have HTW := Lib.hid (hT.fr (nd_fr w))
  have HF := Lib.hid (nd_fr w)
  have HA := Lib.hid (nd_attr w)
  have HB := Lib.hid (nd_node w)
  clear haw hy
  go_enter Tryd.func4, Tryd.ntmps4
  go_wp2_with (first
    | (go_at_call 7; refine (HAW.out _ HTW.out).mono ?_; rintro e w3 ⟨rfl, hf3⟩)
    | (go_at_call 10; (with_reducible refine (HY.out _ hf3 (HTW.out.fr hf3)).mono ?_); rintro e w4 ⟨rfl, hf4⟩; have F4 := (HF.out.trans hf3).trans hf4; have hA := HA.out.no (hf3.trans hf4); have hB := HB.out.no (hf3.trans hf4); have x0 := hB.cell 0; have z0 := hB.frozen 0; simp only [ndCs, cs4, List.getElem?_cons_zero] at x0; have HA4 := Lib.hid hA; have HB4 := Lib.hid hB; clear hA hB))
  have F5 : Fr No w (w4.setCell ⟨w.heap.size + 1, 0, none⟩ (.int .i64 0)) := F4.setCell (.inr (Nat.le_succ _)) _
  have hR := nd_rd 0 0 1 0 ⟨#[97]⟩ ⟨#[98]⟩ ⟨#[99]⟩ ⟨#[100]⟩ ⟨#[]⟩ ⟨#[]⟩ ⟨#[116]⟩ ⟨#[]⟩ (HA4.out.fr ((Fr.refl (Just (w.heap.size + 1)) w4).setCell (p := ⟨w.heap.size + 1, 0, none⟩) (.inl rfl) (.int .i64 0)) (fun e => absurd (show w.heap.size = w.heap.size + 1 from e) (by omega))) (HB4.out.set_ 0 (.int .i64 0)) rfl
  obtain ⟨hw, hr⟩ := no_both (ls4 0 0 1 0 ⟨#[97]⟩ ⟨#[98]⟩ ⟨#[99]⟩ ⟨#[100]⟩ ⟨#[]⟩ ⟨#[]⟩ ⟨#[116]⟩ ⟨#[]⟩ [([120], [49])]) (by kernel_rfl) (small4 _ _ _ _ _ _ _ _ _ _ _ _ _ (by kernel_rfl) (by decide) (by kernel_rfl)) _ 4 4 _ hR (by omega) (hT.fr F5)
  have HW := Lib.hid hw; have HR := Lib.hid hr
  clear hw hr hR
  go_wp2_with (first
    | (go_at_call 8; refine HW.out.mono ?_; rintro e w6 ⟨rfl, hf6⟩)
    | (go_at_call 10; refine (HR.out _ hf6).mono ?_; rintro e w7 ⟨rfl, hf7⟩))
  go_ret
  exact ⟨rfl, (F5.trans hf6).trans hf7⟩
set_option maxRecDepth 20000 in
theorem needs_1 {x n : Int} (w : World) (hT : Tabs w) (hm : (IntKind.u64.wrap x).tmod 11 = 1) : Calls Tryd.prog 4 #[.int .i64 x, .int .u8 n] w fun e w' => e = .returned (.bool true) ∧ Fr No w w' := by
  have haw := fun u (hu : Tabs u) => awake_can u hu
  have HAW := Lib.hid haw
  have hy := nd_yes w
  have HY := Lib.hid hy
  have HTW := Lib.hid (hT.fr (nd_fr w))
  have HF := Lib.hid (nd_fr w)
  have HA := Lib.hid (nd_attr w)
  have HB := Lib.hid (nd_node w)
  clear haw hy
  go_enter Tryd.func4, Tryd.ntmps4
  go_wp2_with (first
    | (go_at_call 7; refine (HAW.out _ HTW.out).mono ?_; rintro e w3 ⟨rfl, hf3⟩)
    | (go_at_call 10; (with_reducible refine (HY.out _ hf3 (HTW.out.fr hf3)).mono ?_); rintro e w4 ⟨rfl, hf4⟩; have F4 := (HF.out.trans hf3).trans hf4; have hA := HA.out.no (hf3.trans hf4); have hB := HB.out.no (hf3.trans hf4); have x5 := hB.cell 5; have z5 := hB.frozen 5; simp only [ndCs, cs4, List.getElem?_cons_succ, List.getElem?_cons_zero] at x5; have HA4 := Lib.hid hA; have HB4 := Lib.hid hB; clear hA hB))
  have F5 : Fr No w (w4.setCell ⟨w.heap.size + 1, 5, none⟩ (.string ⟨#[49, 98]⟩)) := F4.setCell (.inr (Nat.le_succ _)) _
  have hR := nd_rd (-1) 0 1 0 ⟨#[97]⟩ ⟨#[49, 98]⟩ ⟨#[99]⟩ ⟨#[100]⟩ ⟨#[]⟩ ⟨#[]⟩ ⟨#[116]⟩ ⟨#[]⟩ (HA4.out.fr ((Fr.refl (Just (w.heap.size + 1)) w4).setCell (p := ⟨w.heap.size + 1, 5, none⟩) (.inl rfl) (.string ⟨#[49, 98]⟩)) (fun e => absurd (show w.heap.size = w.heap.size + 1 from e) (by omega))) (HB4.out.set_ 5 (.string ⟨#[49, 98]⟩)) rfl
  obtain ⟨hw, hr⟩ := no_both (ls4 (-1) 0 1 0 ⟨#[97]⟩ ⟨#[49, 98]⟩ ⟨#[99]⟩ ⟨#[100]⟩ ⟨#[]⟩ ⟨#[]⟩ ⟨#[116]⟩ ⟨#[]⟩ [([120], [49])]) (by kernel_rfl) (small4 _ _ _ _ _ _ _ _ _ _ _ _ _ (by kernel_rfl) (by decide) (by kernel_rfl)) _ 4 4 _ hR (by omega) (hT.fr F5)
  have HW := Lib.hid hw; have HR := Lib.hid hr
  clear hw hr hR
  go_wp2_with (first
    | (go_at_call 8; refine HW.out.mono ?_; rintro e w6 ⟨rfl, hf6⟩)
    | (go_at_call 10; refine (HR.out _ hf6).mono ?_; rintro e w7 ⟨rfl, hf7⟩))
  go_ret
  exact ⟨rfl, (F5.trans hf6).trans hf7⟩
set_option maxRecDepth 20000 in
theorem needs_2 {x n : Int} (w : World) (hT : Tabs w) (hm : (IntKind.u64.wrap x).tmod 11 = 2) : Calls Tryd.prog 4 #[.int .i64 x, .int .u8 n] w fun e w' => e = .returned (.bool true) ∧ Fr No w w' := by
  have haw := fun u (hu : Tabs u) => awake_can u hu
  have HAW := Lib.hid haw
  have hy := nd_yes w
  have HY := Lib.hid hy
  have HTW := Lib.hid (hT.fr (nd_fr w))
  have HF := Lib.hid (nd_fr w)
  have HA := Lib.hid (nd_attr w)
  have HB := Lib.hid (nd_node w)
  clear haw hy
  go_enter Tryd.func4, Tryd.ntmps4
  go_wp2_with (first
    | (go_at_call 7; refine (HAW.out _ HTW.out).mono ?_; rintro e w3 ⟨rfl, hf3⟩)
    | (go_at_call 10; (with_reducible refine (HY.out _ hf3 (HTW.out.fr hf3)).mono ?_); rintro e w4 ⟨rfl, hf4⟩; have F4 := (HF.out.trans hf3).trans hf4; have hA := HA.out.no (hf3.trans hf4); have hB := HB.out.no (hf3.trans hf4); have x6 := hB.cell 6; have z6 := hB.frozen 6; simp only [ndCs, cs4, List.getElem?_cons_succ, List.getElem?_cons_zero] at x6; have HA4 := Lib.hid hA; have HB4 := Lib.hid hB; clear hA hB))
  have F5 : Fr No w (w4.setCell ⟨w.heap.size + 1, 6, none⟩ (.string ⟨#[116]⟩)) := F4.setCell (.inr (Nat.le_succ _)) _
  have hR := nd_rd (-1) 0 1 0 ⟨#[97]⟩ ⟨#[98]⟩ ⟨#[99]⟩ ⟨#[100]⟩ ⟨#[]⟩ ⟨#[116]⟩ ⟨#[116]⟩ ⟨#[]⟩ (HA4.out.fr ((Fr.refl (Just (w.heap.size + 1)) w4).setCell (p := ⟨w.heap.size + 1, 6, none⟩) (.inl rfl) (.string ⟨#[116]⟩)) (fun e => absurd (show w.heap.size = w.heap.size + 1 from e) (by omega))) (HB4.out.set_ 6 (.string ⟨#[116]⟩)) rfl
  obtain ⟨hw, hr⟩ := no_both (ls4 (-1) 0 1 0 ⟨#[97]⟩ ⟨#[98]⟩ ⟨#[99]⟩ ⟨#[100]⟩ ⟨#[]⟩ ⟨#[116]⟩ ⟨#[116]⟩ ⟨#[]⟩ [([120], [49])]) (by kernel_rfl) (small4 _ _ _ _ _ _ _ _ _ _ _ _ _ (by kernel_rfl) (by decide) (by kernel_rfl)) _ 4 4 _ hR (by omega) (hT.fr F5)
  have HW := Lib.hid hw; have HR := Lib.hid hr
  clear hw hr hR
  go_wp2_with (first
    | (go_at_call 8; refine HW.out.mono ?_; rintro e w6 ⟨rfl, hf6⟩)
    | (go_at_call 10; refine (HR.out _ hf6).mono ?_; rintro e w7 ⟨rfl, hf7⟩))
  go_ret
  exact ⟨rfl, (F5.trans hf6).trans hf7⟩
set_option maxRecDepth 20000 in
theorem needs_3 {x n : Int} (w : World) (hT : Tabs w) (hm : (IntKind.u64.wrap x).tmod 11 = 3) : Calls Tryd.prog 4 #[.int .i64 x, .int .u8 n] w fun e w' => e = .returned (.bool true) ∧ Fr No w w' := by
  have haw := fun u (hu : Tabs u) => awake_can u hu
  have HAW := Lib.hid haw
  have hy := nd_yes w
  have HY := Lib.hid hy
  have HTW := Lib.hid (hT.fr (nd_fr w))
  have HF := Lib.hid (nd_fr w)
  have HA := Lib.hid (nd_attr w)
  have HB := Lib.hid (nd_node w)
  clear haw hy
  go_enter Tryd.func4, Tryd.ntmps4
  go_wp2_with (first
    | (go_at_call 7; refine (HAW.out _ HTW.out).mono ?_; rintro e w3 ⟨rfl, hf3⟩)
    | (go_at_call 10; (with_reducible refine (HY.out _ hf3 (HTW.out.fr hf3)).mono ?_); rintro e w4 ⟨rfl, hf4⟩; have F4 := (HF.out.trans hf3).trans hf4; have hA := HA.out.no (hf3.trans hf4); have hB := HB.out.no (hf3.trans hf4); have x12 := hB.cell 12; have z12 := hB.frozen 12; simp only [ndCs, cs4, List.getElem?_cons_succ, List.getElem?_cons_zero] at x12; have HA4 := Lib.hid hA; have HB4 := Lib.hid hB; clear hA hB))
  have F5 : Fr No w (w4.setCell ⟨w.heap.size + 1, 12, none⟩ (.int .i64 3)) := F4.setCell (.inr (Nat.le_succ _)) _
  have hR := nd_rd (-1) 0 1 3 ⟨#[97]⟩ ⟨#[98]⟩ ⟨#[99]⟩ ⟨#[100]⟩ ⟨#[]⟩ ⟨#[]⟩ ⟨#[116]⟩ ⟨#[]⟩ (HA4.out.fr ((Fr.refl (Just (w.heap.size + 1)) w4).setCell (p := ⟨w.heap.size + 1, 12, none⟩) (.inl rfl) (.int .i64 3)) (fun e => absurd (show w.heap.size = w.heap.size + 1 from e) (by omega))) (HB4.out.set_ 12 (.int .i64 3)) rfl
  obtain ⟨hw, hr⟩ := no_both (ls4 (-1) 0 1 3 ⟨#[97]⟩ ⟨#[98]⟩ ⟨#[99]⟩ ⟨#[100]⟩ ⟨#[]⟩ ⟨#[]⟩ ⟨#[116]⟩ ⟨#[]⟩ [([120], [49])]) (by kernel_rfl) (small4 _ _ _ _ _ _ _ _ _ _ _ _ _ (by kernel_rfl) (by decide) (by kernel_rfl)) _ 4 4 _ hR (by omega) (hT.fr F5)
  have HW := Lib.hid hw; have HR := Lib.hid hr
  clear hw hr hR
  go_wp2_with (first
    | (go_at_call 8; refine HW.out.mono ?_; rintro e w6 ⟨rfl, hf6⟩)
    | (go_at_call 10; refine (HR.out _ hf6).mono ?_; rintro e w7 ⟨rfl, hf7⟩))
  go_ret
  exact ⟨rfl, (F5.trans hf6).trans hf7⟩
set_option maxRecDepth 20000 in
theorem needs_4 {x n : Int} (w : World) (hT : Tabs w) (hm : (IntKind.u64.wrap x).tmod 11 = 4) : Calls Tryd.prog 4 #[.int .i64 x, .int .u8 n] w fun e w' => e = .returned (.bool true) ∧ Fr No w w' := by
  have haw := fun u (hu : Tabs u) => awake_can u hu
  have HAW := Lib.hid haw
  have hy := nd_yes w
  have HY := Lib.hid hy
  have HTW := Lib.hid (hT.fr (nd_fr w))
  have HF := Lib.hid (nd_fr w)
  have HA := Lib.hid (nd_attr w)
  have HB := Lib.hid (nd_node w)
  clear haw hy
  go_enter Tryd.func4, Tryd.ntmps4
  go_wp2_with (first
    | (go_at_call 7; refine (HAW.out _ HTW.out).mono ?_; rintro e w3 ⟨rfl, hf3⟩)
    | (go_at_call 10; (with_reducible refine (HY.out _ hf3 (HTW.out.fr hf3)).mono ?_); rintro e w4 ⟨rfl, hf4⟩; have F4 := (HF.out.trans hf3).trans hf4; have hA := HA.out.no (hf3.trans hf4); have hB := HB.out.no (hf3.trans hf4); have x12 := hB.cell 12; have z12 := hB.frozen 12; simp only [ndCs, cs4, List.getElem?_cons_succ, List.getElem?_cons_zero] at x12; have HA4 := Lib.hid hA; have HB4 := Lib.hid hB; clear hA hB))
  have F5 : Fr No w (w4.setCell ⟨w.heap.size + 1, 12, none⟩ (.int .i64 (-1))) := F4.setCell (.inr (Nat.le_succ _)) _
  have hR := nd_rd (-1) 0 1 (-1) ⟨#[97]⟩ ⟨#[98]⟩ ⟨#[99]⟩ ⟨#[100]⟩ ⟨#[]⟩ ⟨#[]⟩ ⟨#[116]⟩ ⟨#[]⟩ (HA4.out.fr ((Fr.refl (Just (w.heap.size + 1)) w4).setCell (p := ⟨w.heap.size + 1, 12, none⟩) (.inl rfl) (.int .i64 (-1))) (fun e => absurd (show w.heap.size = w.heap.size + 1 from e) (by omega))) (HB4.out.set_ 12 (.int .i64 (-1))) rfl
  obtain ⟨hw, hr⟩ := no_both (ls4 (-1) 0 1 (-1) ⟨#[97]⟩ ⟨#[98]⟩ ⟨#[99]⟩ ⟨#[100]⟩ ⟨#[]⟩ ⟨#[]⟩ ⟨#[116]⟩ ⟨#[]⟩ [([120], [49])]) (by kernel_rfl) (small4 _ _ _ _ _ _ _ _ _ _ _ _ _ (by kernel_rfl) (by decide) (by kernel_rfl)) _ 4 4 _ hR (by omega) (hT.fr F5)
  have HW := Lib.hid hw; have HR := Lib.hid hr
  clear hw hr hR
  go_wp2_with (first
    | (go_at_call 8; refine HW.out.mono ?_; rintro e w6 ⟨rfl, hf6⟩)
    | (go_at_call 10; refine (HR.out _ hf6).mono ?_; rintro e w7 ⟨rfl, hf7⟩))
  go_ret
  exact ⟨rfl, (F5.trans hf6).trans hf7⟩
set_option maxRecDepth 20000 in
theorem needs_5 {x n : Int} (w : World) (hT : Tabs w) (hm : (IntKind.u64.wrap x).tmod 11 = 5) : Calls Tryd.prog 4 #[.int .i64 x, .int .u8 n] w fun e w' => e = .returned (.bool true) ∧ Fr No w w' := by
  have haw := fun u (hu : Tabs u) => awake_can u hu
  have HAW := Lib.hid haw
  have hy := nd_yes w
  have HY := Lib.hid hy
  have HTW := Lib.hid (hT.fr (nd_fr w))
  have HF := Lib.hid (nd_fr w)
  have HA := Lib.hid (nd_attr w)
  have HB := Lib.hid (nd_node w)
  clear haw hy
  go_enter Tryd.func4, Tryd.ntmps4
  go_wp2_with (first
    | (go_at_call 7; refine (HAW.out _ HTW.out).mono ?_; rintro e w3 ⟨rfl, hf3⟩)
    | (go_at_call 10; (with_reducible refine (HY.out _ hf3 (HTW.out.fr hf3)).mono ?_); rintro e w4 ⟨rfl, hf4⟩; have F4 := (HF.out.trans hf3).trans hf4; have hA := HA.out.no (hf3.trans hf4); have hB := HB.out.no (hf3.trans hf4); have hs4 := F4.size; have hb4 := hB.lt; have HO := Lib.hid (own_bk (n := 4) (N := fun i => i = w.heap.size) (base := w.heap.size) hB (Nat.le_succ _) rfl (by omega) (it4 (-1) 0 1 0 ⟨#[97]⟩ ⟨#[98]⟩ ⟨#[99]⟩ ⟨#[100]⟩ ⟨#[]⟩ ⟨#[]⟩ ⟨#[116]⟩ ⟨#[]⟩ (at_bk hA rfl))); have HA4 := Lib.hid hA; have HB4 := Lib.hid hB; clear hA hB)
    | (at_builtin; go_must (refine ap_node1 _ rfl (.tmp 58) (.tmp 60) rfl w.heap.size (fun i => i = w.heap.size) _ 4 _ rfl HO.out _ _ _ _ _ (by simp) rfl (by omega) (by omega) (fun i e => by subst e; omega) (fun i e h => by subst e; have h2 : w.heap.size + 1 = w.heap.size := Option.some.inj h; omega) ?_); intro v' w5 g1 g2 g3; have G5 := ((Fr.refl (fun j => (Value.slice (some ⟨w.heap.size + 1, 0, none⟩) 4 4).ownBlock = some j) w4).alloc _).grown g2 (fun g e => .inl e); have F5 : Fr No w w5 := F4.trans_new G5 (fun j e => .inr (by have h2 : w.heap.size + 1 = j := Option.some.inj e; omega)); have hs5 : w4.heap.size + 1 ≤ w5.heap.size := (by have := ((Fr.refl (fun j => (Value.slice (some ⟨w.heap.size + 1, 0, none⟩) 4 4).ownBlock = some j) _).grown g2 (fun g e => .inl e)).size; simpa using this); obtain ⟨A5, c5, rfl, hR⟩ := g1.rd' (M := fun i => i < w5.heap.size) (fun i hi => (g1.lt i hi).2) nod_ok (fun i hi => by rcases hi with hi | hi; (have h2 : i = w.heap.size := hi; show i < w5.heap.size; omega); (have h2 : i = w4.heap.size := hi; show i < w5.heap.size; omega)); obtain ⟨hw, hr⟩ := no_both _ (by kernel_rfl) five_small _ 5 c5 _ hR (by omega) (hT.fr F5); have HW := Lib.hid hw; have HR := Lib.hid hr; clear hw hr hR)
    | (go_at_call 8; refine HW.out.mono ?_; rintro e w6 ⟨rfl, hf6⟩)
    | (go_at_call 10; refine (HR.out _ hf6).mono ?_; rintro e w7 ⟨rfl, hf7⟩))
  go_ret
  exact ⟨rfl, (F5.trans hf6).trans hf7⟩
set_option maxRecDepth 20000 in
theorem needs_6 {x n : Int} (w : World) (hT : Tabs w) (hm : (IntKind.u64.wrap x).tmod 11 = 6) : Calls Tryd.prog 4 #[.int .i64 x, .int .u8 n] w fun e w' => e = .returned (.bool true) ∧ Fr No w w' := by
  have haw := fun u (hu : Tabs u) => awake_can u hu
  have HAW := Lib.hid haw
  have hy := nd_yes w
  have HY := Lib.hid hy
  have HTW := Lib.hid (hT.fr (nd_fr w))
  have HF := Lib.hid (nd_fr w)
  have HA := Lib.hid (nd_attr w)
  have HB := Lib.hid (nd_node w)
  clear haw hy
  go_enter Tryd.func4, Tryd.ntmps4
  go_wp2_with (first
    | (go_at_call 7; refine (HAW.out _ HTW.out).mono ?_; rintro e w3 ⟨rfl, hf3⟩)
    | (go_at_call 10; (with_reducible refine (HY.out _ hf3 (HTW.out.fr hf3)).mono ?_); rintro e w4 ⟨rfl, hf4⟩; have F4 := (HF.out.trans hf3).trans hf4; have hA := HA.out.no (hf3.trans hf4); have hB := HB.out.no (hf3.trans hf4); have hs4 := F4.size; have hb4 := hB.lt; have x3 := hB.cell 3; simp only [ndCs, cs4, List.getElem?_cons_succ, List.getElem?_cons_zero] at x3; have HO := Lib.hid (own_at (N := No) hA (Nat.le_refl w.heap.size)); have HA4 := Lib.hid hA; have HB4 := Lib.hid hB; clear hA hB)
    | (at_builtin; go_must (refine ap_attr1 _ rfl (.tmp 68) (.tmp 70) rfl w.heap.size (.slice (some ⟨w.heap.size, 0, none⟩) 1 1) 1 _ rfl HO.out ⟨#[120]⟩ ⟨#[]⟩ ([120], []) rfl rfl _ _ (by simp) rfl (by omega) (by omega) ?_); intro v' w5 g1 g2 g3; have G5 := ((Fr.refl (fun j => (Value.slice (some ⟨w.heap.size, 0, none⟩) 1 1).ownBlock = some j) w4).alloc _).grown g2 (fun g e => .inl e); have F5 : Fr No w w5 := F4.trans_new G5 (fun j e => .inr (by have h2 : w.heap.size = j := Option.some.inj e; omega)); have hs5 := G5.size; have hB5 := HB4.out.fr G5 (fun e => by have h2 : w.heap.size = w.heap.size + 1 := Option.some.inj e; omega); have x5 := hB5.cell 3; have z5 := hB5.frozen 3; simp only [ndCs, cs4, List.getElem?_cons_succ, List.getElem?_cons_zero] at x5; have HB5 := Lib.hid hB5; clear hB5; obtain ⟨A5, c5, rfl, hRa⟩ := g1.rd' (M := fun i => i < w5.heap.size ∧ i ≠ w.heap.size + 1) (fun i hi => ⟨(g1.lt i hi).2, by rcases g3 with g3 | g3; (rw [g3] at hi; have h2 : w.heap.size = i := Option.some.inj hi; omega); (rw [g3] at hi; have h2 : w4.heap.size + 1 = i := Option.some.inj hi; omega)⟩) attr_ok (fun _ h => h.elim); have HRA := Lib.hid hRa; clear hRa))
  have F6 : Fr No w (w5.setCell ⟨w.heap.size + 1, 3, none⟩ (.slice A5 2 c5)) := F5.setCell (.inr (Nat.le_succ _)) _
  have hRa6 : RdI 2 AttrI (w5.setCell ⟨w.heap.size + 1, 3, none⟩ (.slice A5 2 c5)) (fun i => i < (w5.setCell ⟨w.heap.size + 1, 3, none⟩ (.slice A5 2 c5)).heap.size) A5 2 c5 [([120], [49]), ([120], [])] :=
    (HRA.out.fr attr_ok ((Fr.refl (Just (w.heap.size + 1)) w5).setCell (p := ⟨w.heap.size + 1, 3, none⟩) (.inl rfl) (.slice A5 2 c5)) (fun i hi => hi.2)).mono attr_ok (fun i hi => by simpa [World.setCell] using hi.1)
  have hB6 : Bk (w5.setCell ⟨w.heap.size + 1, 3, none⟩ (.slice A5 2 c5)) (w.heap.size + 1) 32 (cs4 (-1) 0 1 0 ⟨#[97]⟩ ⟨#[98]⟩ ⟨#[99]⟩ ⟨#[100]⟩ ⟨#[]⟩ ⟨#[]⟩ ⟨#[116]⟩ ⟨#[]⟩ A5 2 c5) := HB5.out.set_ 3 (.slice A5 2 c5)
  have hR := rd_bk (n := 4) hB6 rfl (by omega) (it4 (-1) 0 1 0 ⟨#[97]⟩ ⟨#[98]⟩ ⟨#[99]⟩ ⟨#[100]⟩ ⟨#[]⟩ ⟨#[]⟩ ⟨#[116]⟩ ⟨#[]⟩ hRa6) hB6.lt
  obtain ⟨hw, hr⟩ := no_both (ls4 (-1) 0 1 0 ⟨#[97]⟩ ⟨#[98]⟩ ⟨#[99]⟩ ⟨#[100]⟩ ⟨#[]⟩ ⟨#[]⟩ ⟨#[116]⟩ ⟨#[]⟩ [([120], [49]), ([120], [])]) (by kernel_rfl) (small4 _ _ _ _ _ _ _ _ _ _ _ _ _ (by kernel_rfl) (by decide) (by kernel_rfl)) _ 4 4 _ hR (by omega) (hT.fr F6)
  have HW := Lib.hid hw; have HR := Lib.hid hr
  clear hw hr hR
  go_wp2_with (first
    | (go_at_call 8; refine HW.out.mono ?_; rintro e w6 ⟨rfl, hf6⟩)
    | (go_at_call 10; refine (HR.out _ hf6).mono ?_; rintro e w7 ⟨rfl, hf7⟩))
  go_ret
  exact ⟨rfl, (F6.trans hf6).trans hf7⟩
set_option maxRecDepth 20000 in
theorem needs_7 {x n : Int} (w : World) (hT : Tabs w) (hm : (IntKind.u64.wrap x).tmod 11 = 7) : Calls Tryd.prog 4 #[.int .i64 x, .int .u8 n] w fun e w' => e = .returned (.bool true) ∧ Fr No w w' := by
  have haw := fun u (hu : Tabs u) => awake_can u hu
  have HAW := Lib.hid haw
  have hy := nd_yes w
  have HY := Lib.hid hy
  have HTW := Lib.hid (hT.fr (nd_fr w))
  have HF := Lib.hid (nd_fr w)
  have HA := Lib.hid (nd_attr w)
  have HB := Lib.hid (nd_node w)
  clear haw hy
  go_enter Tryd.func4, Tryd.ntmps4
  go_wp2_with (first
    | (go_at_call 7; refine (HAW.out _ HTW.out).mono ?_; rintro e w3 ⟨rfl, hf3⟩)
    | (go_at_call 10; (with_reducible refine (HY.out _ hf3 (HTW.out.fr hf3)).mono ?_); rintro e w4 ⟨rfl, hf4⟩; have F4 := (HF.out.trans hf3).trans hf4; have hA := HA.out.no (hf3.trans hf4); have hB := HB.out.no (hf3.trans hf4); have x13 := hB.cell 13; have z13 := hB.frozen 13; simp only [ndCs, cs4, List.getElem?_cons_succ, List.getElem?_cons_zero] at x13; have HA4 := Lib.hid hA; have HB4 := Lib.hid hB; clear hA hB))
  have F5 : Fr No w (w4.setCell ⟨w.heap.size + 1, 13, none⟩ (.string ⟨#[]⟩)) := F4.setCell (.inr (Nat.le_succ _)) _
  have hR := nd_rd (-1) 0 1 0 ⟨#[97]⟩ ⟨#[98]⟩ ⟨#[99]⟩ ⟨#[]⟩ ⟨#[]⟩ ⟨#[]⟩ ⟨#[116]⟩ ⟨#[]⟩ (HA4.out.fr ((Fr.refl (Just (w.heap.size + 1)) w4).setCell (p := ⟨w.heap.size + 1, 13, none⟩) (.inl rfl) (.string ⟨#[]⟩)) (fun e => absurd (show w.heap.size = w.heap.size + 1 from e) (by omega))) (HB4.out.set_ 13 (.string ⟨#[]⟩)) rfl
  obtain ⟨hw, hr⟩ := no_both (ls4 (-1) 0 1 0 ⟨#[97]⟩ ⟨#[98]⟩ ⟨#[99]⟩ ⟨#[]⟩ ⟨#[]⟩ ⟨#[]⟩ ⟨#[116]⟩ ⟨#[]⟩ [([120], [49])]) (by kernel_rfl) (small4 _ _ _ _ _ _ _ _ _ _ _ _ _ (by kernel_rfl) (by decide) (by kernel_rfl)) _ 4 4 _ hR (by omega) (hT.fr F5)
  have HW := Lib.hid hw; have HR := Lib.hid hr
  clear hw hr hR
  go_wp2_with (first
    | (go_at_call 8; refine HW.out.mono ?_; rintro e w6 ⟨rfl, hf6⟩)
    | (go_at_call 10; refine (HR.out _ hf6).mono ?_; rintro e w7 ⟨rfl, hf7⟩))
  go_ret
  exact ⟨rfl, (F5.trans hf6).trans hf7⟩
set_option maxRecDepth 20000 in
theorem needs_8 {x n : Int} (w : World) (hT : Tabs w) (hm : (IntKind.u64.wrap x).tmod 11 = 8) (hn : ∃ b : UInt8, n = (b.toNat : Int)) : Calls Tryd.prog 4 #[.int .i64 x, .int .u8 n] w fun e w' => e = .returned (.bool true) ∧ Fr No w w' := by
  have haw := fun u (hu : Tabs u) => awake_can u hu
  have HAW := Lib.hid haw
  have hy := nd_yes w
  have HY := Lib.hid hy
  have HTW := Lib.hid (hT.fr (nd_fr w))
  have HF := Lib.hid (nd_fr w)
  have HA := Lib.hid (nd_attr w)
  have HB := Lib.hid (nd_node w)
  clear haw hy
  obtain ⟨b, hb, hb2⟩ : ∃ b : UInt8, (128 + n.tmod 128) % 256 = (b.toNat : Int) ∧ 128 ≤ b.toNat := by
    obtain ⟨b0, rfl⟩ := hn
    have h1 := b0.toNat_lt
    refine ⟨UInt8.ofNat (128 + b0.toNat % 128), ?_, ?_⟩
    · rw [UInt8.toNat_ofNat', Int.tmod_eq_emod_of_nonneg (by omega)]; omega
    · rw [UInt8.toNat_ofNat']; omega
  have hstr := fun (u : World) (t : TypeId) => str_one u t hb
  have HB2 := Lib.hid hb2; have HB1 := Lib.hid hb
  clear hn hb2 hb
  go_enter Tryd.func4, Tryd.ntmps4
  go_wp2_with (first
    | (go_at_call 7; refine (HAW.out _ HTW.out).mono ?_; rintro e w3 ⟨rfl, hf3⟩)
    | (go_at_call 10; (with_reducible refine (HY.out _ hf3 (HTW.out.fr hf3)).mono ?_); rintro e w4 ⟨rfl, hf4⟩; have F4 := (HF.out.trans hf3).trans hf4; have hA := HA.out.no (hf3.trans hf4); have hB := HB.out.no (hf3.trans hf4); have hs4 := F4.size; have hb4 := hB.lt; have x14 : ∀ ob, (w4.alloc ob).cell? ⟨w.heap.size + 1, 14, none⟩ = some (.string ⟨#[]⟩) := fun ob => (hB.no ((Fr.refl No w4).alloc ob)).cell 14; have z14 : ∀ ob, (w4.alloc ob).frozen? ⟨w.heap.size + 1, 14, none⟩ = false := fun ob => (hB.no ((Fr.refl No w4).alloc ob)).frozen 14; have HA4 := Lib.hid hA; have HB4 := Lib.hid hB; clear hA hB))
  have S5 : Fr (Just (w.heap.size + 1)) w4 (w4.setCell ⟨w.heap.size + 1, 14, none⟩ (.string ⟨#[b]⟩)) := (Fr.refl (Just (w.heap.size + 1)) w4).setCell (p := ⟨w.heap.size + 1, 14, none⟩) (.inl rfl) _
  have G5 : Fr No (w4.setCell ⟨w.heap.size + 1, 14, none⟩ (.string ⟨#[b]⟩)) ((w4.setCell ⟨w.heap.size + 1, 14, none⟩ (.string ⟨#[b]⟩)).alloc (.cells #[.int .u8 ((128 + n.tmod 128) % 256)] 5)) := (Fr.refl No _).alloc _
  have F5 : Fr No w ((w4.setCell ⟨w.heap.size + 1, 14, none⟩ (.string ⟨#[b]⟩)).alloc (.cells #[.int .u8 ((128 + n.tmod 128) % 256)] 5)) := (F4.setCell (.inr (Nat.le_succ _)) _).trans G5
  have hR := nd_rd (-1) 0 1 0 ⟨#[97]⟩ ⟨#[98]⟩ ⟨#[99]⟩ ⟨#[100]⟩ ⟨#[]⟩ ⟨#[]⟩ ⟨#[116]⟩ ⟨#[b]⟩ ((HA4.out.fr S5 (fun e => absurd (show w.heap.size = w.heap.size + 1 from e) (by omega))).no G5) ((HB4.out.set_ 14 (.string ⟨#[b]⟩)).no G5) rfl
  obtain ⟨hw, hr⟩ := no_both (badN b) (bad_right HB2.out) (bad_small b) _ 4 4 _ hR (by omega) (hT.fr F5)
  have HW := Lib.hid hw; have HR := Lib.hid hr
  clear hw hr hR
  go_wp2_with (first
    | (go_at_call 8; refine HW.out.mono ?_; rintro e w6 ⟨rfl, hf6⟩)
    | (go_at_call 10; refine (HR.out _ hf6).mono ?_; rintro e w7 ⟨rfl, hf7⟩))
  go_ret
  exact ⟨rfl, (F5.trans hf6).trans hf7⟩
set_option maxRecDepth 20000 in
theorem needs_9 {x n : Int} (w : World) (hT : Tabs w) (hm : (IntKind.u64.wrap x).tmod 11 = 9) : Calls Tryd.prog 4 #[.int .i64 x, .int .u8 n] w fun e w' => e = .returned (.bool true) ∧ Fr No w w' := by
  have haw := fun u (hu : Tabs u) => awake_can u hu
  have HAW := Lib.hid haw
  have hy := nd_yes w
  have HY := Lib.hid hy
  have HTW := Lib.hid (hT.fr (nd_fr w))
  have HF := Lib.hid (nd_fr w)
  have HA := Lib.hid (nd_attr w)
  have HB := Lib.hid (nd_node w)
  clear haw hy
  have hstr := fun (u : World) (t : TypeId) => str_one u t (i := 1) (b := 1) rfl
  have hstr2 := fun (u : World) (t : TypeId) => str_drew u t (i := 1) (b := 1) rfl
  go_enter Tryd.func4, Tryd.ntmps4
  go_wp2_with (first
    | (go_at_call 7; refine (HAW.out _ HTW.out).mono ?_; rintro e w3 ⟨rfl, hf3⟩)
    | (go_at_call 10; (with_reducible refine (HY.out _ hf3 (HTW.out.fr hf3)).mono ?_); rintro e w4 ⟨rfl, hf4⟩; have F4 := (HF.out.trans hf3).trans hf4; have hA := HA.out.no (hf3.trans hf4); have hB := HB.out.no (hf3.trans hf4); have hs4 := F4.size; have hb4 := hB.lt; have x3 := hB.cell 3; simp only [ndCs, cs4, List.getElem?_cons_succ, List.getElem?_cons_zero] at x3; have x3a : ∀ ob, (w4.alloc ob).cell? ⟨w.heap.size + 1, 3, none⟩ = some (.slice (some ⟨w.heap.size, 0, none⟩) 1 1) := fun ob => (hB.no ((Fr.refl No w4).alloc ob)).cell 3; have y1 : w4.cell? ⟨w.heap.size, 1, none⟩ = some (.string ⟨#[49]⟩) := hA.cell 1; have z1 := hA.frozen 1; have y1a : ∀ ob, (w4.alloc ob).cell? ⟨w.heap.size, 1, none⟩ = some (.string ⟨#[49]⟩) := fun ob => (hA.no ((Fr.refl No w4).alloc ob)).cell 1; have z1a : ∀ ob, (w4.alloc ob).frozen? ⟨w.heap.size, 1, none⟩ = false := fun ob => (hA.no ((Fr.refl No w4).alloc ob)).frozen 1; have HA4 := Lib.hid hA; have HB4 := Lib.hid hB; clear hA hB))
  go_region
  have G5 : Fr No w4 (w4.alloc (.cells #[.int .u8 1] 5)) := (Fr.refl No w4).alloc _
  have S5 : Fr (Just w.heap.size) (w4.alloc (.cells #[.int .u8 1] 5)) ((w4.alloc (.cells #[.int .u8 1] 5)).setCell ⟨w.heap.size, 1, none⟩ (.string ⟨#[1]⟩)) := (Fr.refl (Just w.heap.size) _).setCell (p := ⟨w.heap.size, 1, none⟩) (.inl rfl) _
  have D5 : Fr No ((w4.alloc (.cells #[.int .u8 1] 5)).setCell ⟨w.heap.size, 1, none⟩ (.string ⟨#[1]⟩)) ((w4.alloc (.cells #[.int .u8 1] 5)).setCell ⟨w.heap.size, 1, none⟩ (.string ⟨#[1]⟩)).drew := (Fr.refl No _).drew
  have F5 : Fr No w ((w4.alloc (.cells #[.int .u8 1] 5)).setCell ⟨w.heap.size, 1, none⟩ (.string ⟨#[1]⟩)).drew := ((F4.trans G5).setCell (.inr (Nat.le_refl _)) _).trans D5
  have hR := nd_rd (-1) 0 1 0 ⟨#[97]⟩ ⟨#[98]⟩ ⟨#[99]⟩ ⟨#[100]⟩ ⟨#[]⟩ ⟨#[]⟩ ⟨#[116]⟩ ⟨#[]⟩ (((HA4.out.no G5).set_ 1 (.string ⟨#[1]⟩)).no D5) (((HB4.out.no G5).fr S5 (fun e => absurd (show w.heap.size + 1 = w.heap.size from e) (by omega))).no D5) rfl
  obtain ⟨hw, hr⟩ := no_both (ls4 (-1) 0 1 0 ⟨#[97]⟩ ⟨#[98]⟩ ⟨#[99]⟩ ⟨#[100]⟩ ⟨#[]⟩ ⟨#[]⟩ ⟨#[116]⟩ ⟨#[]⟩ [([120], [1])]) (by kernel_rfl) (small4 _ _ _ _ _ _ _ _ _ _ _ _ _ (by kernel_rfl) (by decide) (by kernel_rfl)) _ 4 4 _ hR (by omega) (hT.fr F5)
  have HW := Lib.hid hw; have HR := Lib.hid hr
  clear hw hr hR
  go_wp2_with (first
    | (go_at_call 8; refine HW.out.mono ?_; rintro e w6 ⟨rfl, hf6⟩)
    | (go_at_call 10; refine (HR.out _ hf6).mono ?_; rintro e w7 ⟨rfl, hf7⟩))
  go_ret
  exact ⟨rfl, (F5.trans hf6).trans hf7⟩
set_option maxRecDepth 20000 in
theorem needs_10 {x n : Int} (w : World) (hT : Tabs w) (hm : (IntKind.u64.wrap x).tmod 11 = 10) : Calls Tryd.prog 4 #[.int .i64 x, .int .u8 n] w fun e w' => e = .returned (.bool true) ∧ Fr No w w' := by
  have haw := fun u (hu : Tabs u) => awake_can u hu
  have HAW := Lib.hid haw
  have hy := nd_yes w
  have HY := Lib.hid hy
  have HTW := Lib.hid (hT.fr (nd_fr w))
  have HF := Lib.hid (nd_fr w)
  have HA := Lib.hid (nd_attr w)
  have HB := Lib.hid (nd_node w)
  clear haw hy
  go_enter Tryd.func4, Tryd.ntmps4
  go_wp2_with (first
    | (go_at_call 7; refine (HAW.out _ HTW.out).mono ?_; rintro e w3 ⟨rfl, hf3⟩)
    | (go_at_call 10; (with_reducible refine (HY.out _ hf3 (HTW.out.fr hf3)).mono ?_); rintro e w4 ⟨rfl, hf4⟩; have F4 := (HF.out.trans hf3).trans hf4; have hA := HA.out.no (hf3.trans hf4); have hB := HB.out.no (hf3.trans hf4); have hs4 := F4.size; have hb4 := hB.lt; have x3 := hB.cell 3; have y0 := hA.cell 0; have z0 := hA.frozen 0; simp only [ndCs, cs4, List.getElem?_cons_succ, List.getElem?_cons_zero] at x3 y0; have HA4 := Lib.hid hA; have HB4 := Lib.hid hB; clear hA hB))
  have F5 : Fr No w (w4.setCell ⟨w.heap.size, 0, none⟩ (.string ⟨#[97, 32, 98]⟩)) := F4.setCell (.inr (Nat.le_refl _)) _
  have hR := nd_rd (-1) 0 1 0 ⟨#[97]⟩ ⟨#[98]⟩ ⟨#[99]⟩ ⟨#[100]⟩ ⟨#[]⟩ ⟨#[]⟩ ⟨#[116]⟩ ⟨#[]⟩ (HA4.out.set_ 0 (.string ⟨#[97, 32, 98]⟩)) (HB4.out.fr ((Fr.refl (Just w.heap.size) w4).setCell (p := ⟨w.heap.size, 0, none⟩) (.inl rfl) (.string ⟨#[97, 32, 98]⟩)) (fun e => absurd (show w.heap.size + 1 = w.heap.size from e) (by omega))) rfl
  obtain ⟨hw, hr⟩ := no_both (ls4 (-1) 0 1 0 ⟨#[97]⟩ ⟨#[98]⟩ ⟨#[99]⟩ ⟨#[100]⟩ ⟨#[]⟩ ⟨#[]⟩ ⟨#[116]⟩ ⟨#[]⟩ [([97, 32, 98], [49])]) (by kernel_rfl) (small4 _ _ _ _ _ _ _ _ _ _ _ _ _ (by kernel_rfl) (by decide) (by kernel_rfl)) _ 4 4 _ hR (by omega) (hT.fr F5)
  have HW := Lib.hid hw; have HR := Lib.hid hr
  clear hw hr hR
  go_wp2_with (first
    | (go_at_call 8; refine HW.out.mono ?_; rintro e w6 ⟨rfl, hf6⟩)
    | (go_at_call 10; refine (HR.out _ hf6).mono ?_; rintro e w7 ⟨rfl, hf7⟩))
  go_ret
  exact ⟨rfl, (F5.trans hf6).trans hf7⟩
theorem needs_can {x : Int} {n : UInt8} (w : World) (hT : Tabs w) (hx : (Lit.int .i64 x).wf = true) : Calls Tryd.prog 4 #[.int .i64 x, .int .u8 (n.toNat : Int)] w fun e w' => e = .returned (.bool true) ∧ Fr No w w' := by
  obtain ⟨m, hm, hmx⟩ := umod x 11 (by omega) (by omega)
  have hmx : (IntKind.u64.wrap x).tmod 11 = (m : Int) := hmx
  obtain rfl | rfl | rfl | rfl | rfl | rfl | rfl | rfl | rfl | rfl | rfl : m = 0 ∨ m = 1 ∨ m = 2 ∨ m = 3 ∨ m = 4 ∨ m = 5 ∨ m = 6 ∨ m = 7 ∨ m = 8 ∨ m = 9 ∨ m = 10 := by omega
  · exact needs_0 w hT hmx
  · exact needs_1 w hT hmx
  · exact needs_2 w hT hmx
  · exact needs_3 w hT hmx
  · exact needs_4 w hT hmx
  · exact needs_5 w hT hmx
  · exact needs_6 w hT hmx
  · exact needs_7 w hT hmx
  · exact needs_8 w hT hmx ⟨n, rfl⟩
  · exact needs_9 w hT hmx
  · exact needs_10 w hT hmx
end Go.Proofs.YtlnjpocidfgloaaDoor
