/- The texts CanWrite, CanAw, CanFits, joined. -/
import Derived.Test.YthkjmbkfcnehoaaGreatDoorCanNode
import Derived.Test.YthkjmbkfcnehoaaGreatDoorCanRt
import Derived.Test.YthkjmbkfcnehoaaGreatDoorNodOpen
/- What package canon does: the file of nodes that are right. -/
namespace Go.Proofs.YthkjmbkfcnehoaaGreatDoor
open Go.RowKit
set_option maxHeartbeats 400000
set_option linter.unusedVariables false

theorem node_all {F : Fo} {B g : Nat} {A : Option Addr} {n c : Nat} {N : Nat → Prop} (hN : ∀ i, N i → i < B) (hsound : ∀ x ∈ F.flat (-1) 0, SoundN x) (hsmall : ∀ x ∈ F.flat (-1) 0, NodS x) (hbig : n ≤ 1000000) : ∀ m, NodeCon F B g A n c N m
  | 0 => by intro nm t a k r pp b _ h; omega
  | m + 1 => c_node_step (node_all hN hsound hsmall hbig m) hN hsound hsmall hbig
/-- the file of right nodes -/
def fileL (ls : List Nod) (X : List UInt8) : Prop := ∃ F : Fo, ls = F.flat (-1) 0 ∧ F.ok ∧ F.single = true ∧ F.isNil = false ∧ F.deep ≤ 32 ∧ F.size ≤ 500 ∧ X = F.wr
theorem wr_ne {F : Fo} (h : F.isNil = false) : F.wr ≠ [] := by
  cases F with
  | nil => cases h
  | cons => simp [Fo.wr]
theorem single_one {F : Fo} (h : F.single = true) (h2 : F.isNil = false) : ∃ nm t a k, F = .cons nm t a k .nil := by
  cases F with
  | nil => cases h2
  | cons nm t a k r =>
    cases r with
    | nil => exact ⟨nm, t, a, k, rfl⟩
    | cons => cases h
theorem fo_sound {F : Fo} {ls : List Nod} (h : rightB ls = true) (e : ls = F.flat (-1) 0) : ∀ x ∈ F.flat (-1) 0, SoundN x := by
  rw [← e]
  exact ((rightB_iff ls).1 h).2.2.2.2.1
theorem Fr.below' {a b c : World} {B : Nat} (h : Fr No a b) (k : Below B b c) (hB : a.heap.size ≤ B) : Fr No a c :=
  ⟨k.os.trans h.os, k.tape.trans h.tape, k.output.trans h.output, Nat.le_trans h.size k.size, fun i hi hn => (k.block i (Nat.lt_of_lt_of_le hi hB)).trans (h.block i hi hn)⟩
set_option maxRecDepth 20000 in
theorem c_write_yes (F : Fo) (ls : List Nod) (hF : ls = F.flat (-1) 0) (hs1 : F.single = true) (hn1 : F.isNil = false) (hright : rightB ls = true) (hsmall : ∀ x ∈ ls, NodS x) (hfit : F.wr.length ≤ 1000000000000)
    (A : Option Addr) (n c : Nat) (w : World) (hR : RdI 4 NodI w (fun i => i < w.heap.size) A n c ls) (hbig : n ≤ 1000000) (hT : Tabs w) :
    Calls Tryz.prog 16 #[.slice A n c] w fun e w' => e = .returned (.tuple #[.string (bstr F.wr), .int .i64 0]) ∧ Fr No w w' := by
  have hri := c_right_any ls A n c _ w hR hsmall hbig hT
  rw [hright] at hri
  obtain ⟨nm, t, a, k, hFe⟩ := single_one hs1 hn1
  have hsound := fo_sound hright hF
  have hwr : F.wr = wr1 nm t a k := by rw [hFe, Fo.wr_one]; show _ ++ [] = _; rw [List.append_nil]
  have hat : At F (-1) 0 (.cons nm t a k .nil) (-1) 0 := by
    have := At.refl (F := F) (p0 := -1) (b0 := 0)
    rw [hFe] at this ⊢
    exact this
  have hnode := fun (B g : Nat) (hB : w.heap.size ≤ B) => node_all (F := F) (B := B) (g := g) (A := A) (n := n) (c := c) (N := fun i => i < w.heap.size) (fun i hi => Nat.lt_of_lt_of_le hi hB) hsound (by rw [← hF]; exact hsmall) hbig (1 + k.size) nm t a k .nil (-1) 0 hat (Nat.le_refl _)
  rw [← hwr] at hnode
  have hne := wr_ne hn1
  have HRI := Lib.hid hri; have HND := Lib.hid hnode; have HR := Lib.hid hR; have HF := Lib.hid hF; have HNE := Lib.hid hne; have HFIT := Lib.hid hfit
  clear hri hnode hR hF hne hsound hwr hat hFe hsmall hright hs1 hn1 hfit
  generalize F.wr = out at *
  go_enter Tryz.func16, Tryz.ntmps16
  go_wp2_with (first
    | (go_at_call 25; refine HRI.out.mono ?_; rintro e w1 ⟨rfl, hf1⟩)
    | (go_at_call 26; refine (HND.out w1.heap.size w1.heap.size hf1.size _ (.pointer none) (.slice none 0 0) [] ⟨Nat.le_refl _, heap_alloc_new w1 _, .inl rfl, World.ownsRowF_nil _ _ _ _, by simp [Value.ownBlock]⟩ (by rw [← HF.out]; exact HR.out.no nod_ok (hf1.alloc _)) (by simpa using HFIT.out)).mono ?_; rintro e w2 ⟨rfl, hw2⟩; obtain ⟨p2, v2, h2, f2, hv2⟩ := hw2; rw [List.nil_append] at h2)
    | (go_at_call 27; refine (wb_string h2 HNE.out).mono ?_; rintro e w3 ⟨rfl, hb3⟩))
  go_ret2
  refine ⟨rfl, ((hf1.alloc _).trans_new f2 ?_).below' hb3 hf1.size⟩
  rintro i (rfl | hi)
  · exact .inr hf1.size
  · cases hi
theorem c_write_no (ls : List Nod) (hright : rightB ls = false) (hsmall : ∀ x ∈ ls, NodS x) (A : Option Addr) (n c : Nat) (N : Nat → Prop) (w : World) (hR : RdI 4 NodI w N A n c ls) (hbig : n ≤ 1000000) (hT : Tabs w) :
    Calls Tryz.prog 16 #[.slice A n c] w fun e w' => e = .returned (.tuple #[.string ⟨#[]⟩, .int .i64 10]) ∧ Fr No w w' := by
  have hri := c_right_any ls A n c _ w hR hsmall hbig hT
  rw [hright] at hri
  have HRI := Lib.hid hri
  clear hri hR hsmall hright
  go_enter Tryz.func16, Tryz.ntmps16
  go_wp2_with (go_at_call 25; refine HRI.out.mono ?_; rintro e w1 ⟨rfl, hf1⟩)
  go_ret2
  exact ⟨rfl, hf1⟩
end Go.Proofs.YthkjmbkfcnehoaaGreatDoor
/- Package canon does something; nodes that fit. -/
namespace Go.Proofs.YthkjmbkfcnehoaaGreatDoor
open Go.RowKit
set_option maxHeartbeats 400000
set_option linter.unusedVariables false

/-- nodes that were just laid in a block of their own -/
theorem nodes_lit (w : World) (cs : List Value) (ls : List Nod) (n : Nat) (T : TypeId) (hn : cs.length = n * 4) (hm : n ≤ 1000000) (hi : ItemsF NodI (w.alloc (.cells cs.toArray T)) (fun i => i < (w.alloc (.cells cs.toArray T)).heap.size) cs ls) :
    RdI 4 NodI (w.alloc (.cells cs.toArray T)) (fun i => i < (w.alloc (.cells cs.toArray T)).heap.size) (some ⟨w.heap.size, 0, none⟩) n n ls :=
  ⟨⟨cs, RdS.lit w cs T n hn (by simp only [maxLen]; omega), hi⟩, fun ad e _ => by injection e with e; subst e; simp⟩
theorem nod_bare (u : World) (p : Int) (X Y : ByteArray) : NodI u (fun i => i < u.heap.size) [.int .i64 p, .string X, .string Y, .slice none 0 0] ⟨p, X.data.toList, Y.data.toList, []⟩ :=
  ⟨X, Y, none, 0, 0, rfl, rfl, rfl, RdI.nil_ 2 AttrI u _⟩
def awF : Fo := .cons [97] [] [] (.cons [98] [60] [] .nil .nil) .nil
def awN : List Nod := [⟨-1, [97], [], []⟩, ⟨0, [98], [60], []⟩]
theorem aw_flat : awN = awF.flat (-1) 0 := rfl
theorem aw_right : rightB awN = true := by kernel_rfl
theorem aw_wr : awF.wr = [60, 97, 62, 60, 98, 62, 38, 108, 116, 59, 60, 47, 98, 62, 60, 47, 97, 62] := by kernel_rfl
theorem aw_small : ∀ x ∈ awN, NodS x := by
  intro x hx
  simp only [awN, List.mem_cons, List.not_mem_nil, or_false] at hx
  rcases hx with rfl | rfl
  · exact ⟨by simp, by simp, by simp, fun a h => by cases h⟩
  · exact ⟨by simp, by simp, by simp, fun a h => by cases h⟩
theorem aw_rd (w : World) (T : TypeId) : RdI 4 NodI (w.alloc (.cells #[.int .i64 (-1), .string ⟨#[97]⟩, .string ⟨#[]⟩, .slice none 0 0, .int .i64 0, .string ⟨#[98]⟩, .string ⟨#[60]⟩, .slice none 0 0] T)) (fun i => i < (w.alloc (.cells #[.int .i64 (-1), .string ⟨#[97]⟩, .string ⟨#[]⟩, .slice none 0 0, .int .i64 0, .string ⟨#[98]⟩, .string ⟨#[60]⟩, .slice none 0 0] T)).heap.size) (some ⟨w.heap.size, 0, none⟩) 2 2 awN :=
  nodes_lit w _ awN 2 T rfl (by omega) ⟨_, _, rfl, nod_bare _ (-1) ⟨#[97]⟩ ⟨#[]⟩, ⟨_, _, rfl, nod_bare _ 0 ⟨#[98]⟩ ⟨#[60]⟩, rfl⟩⟩
theorem awake_can (w : World) (hT : Tabs w := by repeat' first | with_reducible assumption | with_reducible apply Tabs.drew | with_reducible apply Tabs.drewN | with_reducible apply Tabs.alloc | refine Tabs.fr ?_ (by with_reducible assumption) | refine Tabs.dr ?_ (by with_reducible assumption)) :
    Calls Tryz.prog 15 #[] w fun e w' => e = .returned (.bool true) ∧ Fr No w w' := by
  obtain ⟨S, hS⟩ : ∃ S, bstr awF.wr = S := ⟨_, rfl⟩
  have hwr := fun T => c_write_yes awF awN aw_flat rfl rfl aw_right aw_small (by rw [aw_wr]; decide) _ 2 2 _ (aw_rd w T) (by omega) hT.alloc
  rw [hS] at hwr
  have hb : (S.toList == [60, 97, 62, 60, 98, 62, 38, 108, 116, 59, 60, 47, 98, 62, 60, 47, 97, 62]) = true := by rw [← hS, bstr_toList, aw_wr]; rfl
  have HW := Lib.hid hwr
  clear hwr hS
  go_enter Tryz.func15, Tryz.ntmps15
  go_wp2_with (go_at_call 16; refine (HW.out _).mono ?_; rintro e w1 ⟨rfl, hf1⟩)
  go_ret
  exact ⟨ret_bool (by simp), ((Fr.refl No w).alloc _).trans hf1⟩

/-- nodes that are not too much: each is small, and so is what they are as a file -/
structure Fits (ls : List Nod) : Prop where
  each : ∀ x ∈ ls, NodS x
  file : ∀ F : Fo, ls = F.flat (-1) 0 → F.wr.length ≤ 1000000000000
end Go.Proofs.YthkjmbkfcnehoaaGreatDoor
/- Nodes that are not too much fit. -/
namespace Go.Proofs.YthkjmbkfcnehoaaGreatDoor
open Go.RowKit
set_option maxHeartbeats 400000
set_option linter.unusedVariables false

theorem le_sum {α : Type} (f : α → Nat) : ∀ {l : List α} {x : α}, x ∈ l → f x ≤ (l.map f).sum
  | y :: l, x, h => by
    simp only [List.map_cons, List.sum_cons]
    rcases List.mem_cons.1 h with rfl | h
    · omega
    · have := le_sum f h; omega
theorem len_sum {α : Type} (f : α → Nat) (h1 : ∀ x, 1 ≤ f x) : ∀ l : List α, l.length ≤ (l.map f).sum
  | [] => by simp
  | x :: l => by
    have := len_sum f h1 l
    have := h1 x
    simp only [List.map_cons, List.sum_cons, List.length_cons]
    omega
theorem attrW_wt : ∀ a : List (List UInt8 × List UInt8), (attrW a).length ≤ 10 * (a.map wtA).sum
  | [] => by simp [attrW]
  | x :: a => by
    have ih := attrW_wt a
    have h := (escL_len x.2).2
    simp only [attrW, List.length_cons, List.length_append, List.map_cons, List.sum_cons, wtA] at ih ⊢
    omega
theorem wr_wt : ∀ (F : Fo) (p : Int) (b : Nat), F.wr.length ≤ 10 * ((F.flat p b).map wtN).sum
  | .nil, _, _ => by simp [Fo.wr]
  | .cons n t a k r, p, b => by
    have i1 := wr_wt k (b : Int) (b + 1)
    have i2 := wr_wt r p (b + 1 + k.size)
    have h1 := attrW_wt a
    have h2 := (escL_len t).2
    rw [Fo.wr_one, Fo.flat_cons, List.length_append, List.map_cons, List.sum_cons, List.map_append, List.sum_append]
    have h3 : (wr1 n t a k).length ≤ 10 * wtN ⟨p, n, t, a⟩ + k.wr.length := by
      unfold wr1 wtN
      split
      · simp only [List.length_cons, List.length_append, List.length_nil]; omega
      · simp only [List.length_cons, List.length_append, List.length_nil]; omega
    omega
theorem fits_of {ls : List Nod} (h : (ls.map wtN).sum ≤ 1048576) : Fits ls where
  each := by
    intro x hx
    have hw := Nat.le_trans (le_sum wtN hx) h
    unfold wtN at hw
    refine ⟨by omega, by omega, ?_, fun a ha => ?_⟩
    · have := len_sum wtA (fun x => by unfold wtA; omega) x.attrs; omega
    · have := le_sum wtA ha
      have h2 : wtA a = a.1.length + a.2.length + 1 := rfl
      exact ⟨by omega, by omega⟩
  file := by
    intro F hF
    have := wr_wt F (-1) 0
    rw [← hF] at this
    omega
end Go.Proofs.YthkjmbkfcnehoaaGreatDoor
