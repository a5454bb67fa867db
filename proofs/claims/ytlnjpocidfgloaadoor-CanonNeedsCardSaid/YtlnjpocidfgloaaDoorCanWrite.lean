/- What package canon does: the file of nodes that are right. -/
import Derived.Test.YtlnjpocidfgloaaDoorCanNode
import Derived.Test.YtlnjpocidfgloaaDoorCanRt
namespace Go.Proofs.YtlnjpocidfgloaaDoor
open Go.RowKit
set_option maxHeartbeats 400000
set_option linter.unusedVariables false

theorem node_all {F : Fo} {B g : Nat} {A : Option Addr} {n c : Nat} {N : Nat → Prop} (hN : ∀ i, N i → i < B) (hsound : ∀ x ∈ F.flat (-1) 0, SoundN x) (hsmall : ∀ x ∈ F.flat (-1) 0, NodS x) (hbig : n ≤ 1000000) : ∀ m, NodeCon F B g A n c N m
  | 0 => by intro nm t a k r pp b _ h; omega
  | m + 1 => c_node_step (node_all hN hsound hsmall hbig m) hN hsound hsmall hbig
/-- the file of right nodes -/
def fileL (ls : List Nod) (X : List UInt8) : Prop := ∃ F : Fo, ls = F.flat (-1) 0 ∧ F.ok ∧ F.single = true ∧ F.isNil = false ∧ F.deep ≤ 32 ∧ F.size ≤ 500 ∧ X = F.wr
theorem wr_ne {F : Fo} (h : F.isNil = false) : F.wr ≠ [] := by
  cases F with
  | nil => cases h
  | cons => simp [Fo.wr]
theorem single_one {F : Fo} (h : F.single = true) (h2 : F.isNil = false) : ∃ nm t a k, F = .cons nm t a k .nil := by
  cases F with
  | nil => cases h2
  | cons nm t a k r =>
    cases r with
    | nil => exact ⟨nm, t, a, k, rfl⟩
    | cons => cases h
theorem fo_sound {F : Fo} {ls : List Nod} (h : rightB ls = true) (e : ls = F.flat (-1) 0) : ∀ x ∈ F.flat (-1) 0, SoundN x := by
  rw [← e]
  exact ((rightB_iff ls).1 h).2.2.2.2.1
theorem Fr.below' {a b c : World} {B : Nat} (h : Fr No a b) (k : Below B b c) (hB : a.heap.size ≤ B) : Fr No a c :=
  ⟨k.os.trans h.os, k.tape.trans h.tape, k.output.trans h.output, Nat.le_trans h.size k.size, fun i hi hn => (k.block i (Nat.lt_of_lt_of_le hi hB)).trans (h.block i hi hn)⟩
set_option maxRecDepth 20000 in
theorem c_write_yes (F : Fo) (ls : List Nod) (hF : ls = F.flat (-1) 0) (hs1 : F.single = true) (hn1 : F.isNil = false) (hright : rightB ls = true) (hsmall : ∀ x ∈ ls, NodS x) (hfit : F.wr.length ≤ 1000000000000)
    (A : Option Addr) (n c : Nat) (w : World) (hR : RdI 4 NodI w (fun i => i < w.heap.size) A n c ls) (hbig : n ≤ 1000000) (hT : Tabs w) :
    Calls Tryd.prog 8 #[.slice A n c] w fun e w' => e = .returned (.tuple #[.string (bstr F.wr), .int .i64 0]) ∧ Fr No w w' := by
  have hri := c_right_any ls A n c _ w hR hsmall hbig hT
  rw [hright] at hri
  obtain ⟨nm, t, a, k, hFe⟩ := single_one hs1 hn1
  have hsound := fo_sound hright hF
  have hwr : F.wr = wr1 nm t a k := by rw [hFe, Fo.wr_one]; show _ ++ [] = _; rw [List.append_nil]
  have hat : At F (-1) 0 (.cons nm t a k .nil) (-1) 0 := by
    have := At.refl (F := F) (p0 := -1) (b0 := 0)
    rw [hFe] at this ⊢
    exact this
  have hnode := fun (B g : Nat) (hB : w.heap.size ≤ B) => node_all (F := F) (B := B) (g := g) (A := A) (n := n) (c := c) (N := fun i => i < w.heap.size) (fun i hi => Nat.lt_of_lt_of_le hi hB) hsound (by rw [← hF]; exact hsmall) hbig (1 + k.size) nm t a k .nil (-1) 0 hat (Nat.le_refl _)
  rw [← hwr] at hnode
  have hne := wr_ne hn1
  have HRI := Lib.hid hri; have HND := Lib.hid hnode; have HR := Lib.hid hR; have HF := Lib.hid hF; have HNE := Lib.hid hne; have HFIT := Lib.hid hfit
  clear hri hnode hR hF hne hsound hwr hat hFe hsmall hright hs1 hn1 hfit
  generalize F.wr = out at *
  go_enter Tryd.func8, Tryd.ntmps8
  go_wp2_with (first
    | (go_at_call 10; refine HRI.out.mono ?_; rintro e w1 ⟨rfl, hf1⟩)
    | (go_at_call 13; refine (HND.out w1.heap.size w1.heap.size hf1.size _ (.pointer none) (.slice none 0 0) [] ⟨Nat.le_refl _, heap_alloc_new w1 _, .inl rfl, World.ownsRowF_nil _ _ _ _, by simp [Value.ownBlock]⟩ (by rw [← HF.out]; exact HR.out.no nod_ok (hf1.alloc _)) (by simpa using HFIT.out)).mono ?_; rintro e w2 ⟨rfl, hw2⟩; obtain ⟨p2, v2, h2, f2, hv2⟩ := hw2; rw [List.nil_append] at h2)
    | (go_at_call 14; refine (wb_string h2 HNE.out).mono ?_; rintro e w3 ⟨rfl, hb3⟩))
  go_ret2
  refine ⟨rfl, ((hf1.alloc _).trans_new f2 ?_).below' hb3 hf1.size⟩
  rintro i (rfl | hi)
  · exact .inr hf1.size
  · cases hi
theorem c_write_no (ls : List Nod) (hright : rightB ls = false) (hsmall : ∀ x ∈ ls, NodS x) (A : Option Addr) (n c : Nat) (N : Nat → Prop) (w : World) (hR : RdI 4 NodI w N A n c ls) (hbig : n ≤ 1000000) (hT : Tabs w) :
    Calls Tryd.prog 8 #[.slice A n c] w fun e w' => e = .returned (.tuple #[.string ⟨#[]⟩, .int .i64 10]) ∧ Fr No w w' := by
  have hri := c_right_any ls A n c _ w hR hsmall hbig hT
  rw [hright] at hri
  have HRI := Lib.hid hri
  clear hri hR hsmall hright
  go_enter Tryd.func8, Tryd.ntmps8
  go_wp2_with (go_at_call 10; refine HRI.out.mono ?_; rintro e w1 ⟨rfl, hf1⟩)
  go_ret2
  exact ⟨rfl, hf1⟩
end Go.Proofs.YtlnjpocidfgloaaDoor
