/- Frames that are joined, and the rows that they are of, both growing: no package's own. -/
import Derived.Test.YtpoaifibomiiaaaLnkMath
import Derived.Test.YtpoaifibomiiaaaRows2
namespace Go.Proofs.Ytpoaifibomiiaaa
open Go.RowKit
set_option maxHeartbeats 400000
set_option linter.unusedVariables false

structure Grow (w wr : World) (av wv : Value) (k an : Nat) (ms : List (List UInt8)) : Prop where
  all : wr.ownsRow w.heap.size 5 1 av an (u8s (joinF ms))
  want : OwnL wr w.heap.size (fun i => w.heap.size ≤ i ∧ i < wr.heap.size ∧ av.ownBlock ≠ some i ∧ wv.ownBlock ≠ some i) wv k ms
  apart : ∀ g, av.ownBlock = some g → wv.ownBlock ≠ some g
  fr : Fr No w wr
  len : ∀ x ∈ ms, 1 ≤ x.length ∧ x.length ≤ 300
  top : an ≤ 302 * k
variable {w wr w2 w3 w4 : World} {av wv av' wv' : Value} {k an an' : Nat} {ms : List (List UInt8)} {M l : List UInt8} {g1 q : Nat} {t : TypeId}
theorem Grow.nil_ (w : World) : Grow w w (.slice none 0 0) (.slice none 0 0) 0 0 [] :=
  ⟨⟨rfl, .inl ⟨rfl, rfl⟩⟩, OwnL.nil_ _ _ _, fun _ e => by simp [Value.ownBlock] at e, Fr.refl _ _, fun _ h => by simp at h, Nat.le_refl _⟩
theorem Grow.avlt (G : Grow w wr av wv k an ms) : ∀ i, av.ownBlock = some i → w.heap.size ≤ i ∧ i < wr.heap.size := fun i e => G.all.lt i e
theorem Grow.wvlt (G : Grow w wr av wv k an ms) : ∀ i, wv.ownBlock = some i → w.heap.size ≤ i ∧ i < wr.heap.size := by
  obtain ⟨vs, hov, _⟩ := G.want.vs
  exact fun i e => hov.lt i e
theorem Grow.no (G : Grow w wr av wv k an ms) (hf : Fr No wr w2) : w2.ownsRow w.heap.size 5 1 av an (u8s (joinF ms)) := hf.own G.all (fun _ _ x => x)
theorem Grow.mid (G : Grow w wr av wv k an ms) (hf : Fr No wr w2) (hg : w2.grownBy w3 av.ownBlock) (hlt : ∀ i, av'.ownBlock = some i → i < w3.heap.size) (hav : av'.ownBlock = av.ownBlock ∨ av'.ownBlock = some w2.heap.size)
    (h1 : wr.heap.size ≤ g1) (h2 : g1 < w2.heap.size) (hM : Rd w2 (some ⟨g1, 0, none⟩) q q (u8s M)) :
    OwnL (w3.alloc (.cells #[.slice (some ⟨g1, 0, none⟩) q q] t)) w.heap.size (fun i => w.heap.size ≤ i ∧ i < w3.heap.size + 1 ∧ av'.ownBlock ≠ some i ∧ wv.ownBlock ≠ some i) wv k ms ∧
    RdL (w3.alloc (.cells #[.slice (some ⟨g1, 0, none⟩) q q] t)) (fun i => w.heap.size ≤ i ∧ i < w3.heap.size + 1 ∧ av'.ownBlock ≠ some i ∧ wv.ownBlock ≠ some i) (some ⟨w3.heap.size, 0, none⟩) 1 1 [M] := by
  have hfg : Fr (fun i => av.ownBlock = some i) w2 w3 := (Fr.refl _ w2).grown hg (fun g e => .inl e)
  have s1 := G.fr.size
  have s2 := hf.size
  have s3 := hg.size
  have ha := G.avlt
  have hw := G.wvlt
  refine ⟨?_, ⟨⟨[.slice (some ⟨g1, 0, none⟩) q q], Rd.lit w3 [.slice (some ⟨g1, 0, none⟩) q q] t 1 rfl (by simp [maxLen]), ⟨⟨some ⟨g1, 0, none⟩, q, q, rfl, (hM.fr hfg (fun ad e x => ?_)).no ((Fr.refl No w3).alloc _), fun ad e => ?_⟩, trivial⟩⟩, fun ad e => ?_⟩⟩
  · refine (((G.want.no hf).fr hfg (fun i h x => h.2.2.1 x) (fun g e x => G.apart g x e)).no ((Fr.refl No w3).alloc _)).mono (fun i h => ⟨h.1, by omega, ?_, h.2.2.2⟩)
    rcases hav with e | e
    · rw [e]; exact h.2.2.1
    · rw [e]
      intro x
      injection x with x
      omega
  · injection e with e
    subst e
    have : g1 < wr.heap.size := (ha _ x).2
    omega
  · injection e with e
    subst e
    refine ⟨?_, ?_, ?_, ?_⟩
    · show _ ≤ g1; omega
    · show g1 < _; omega
    · rcases hav with e | e
      · rw [e]; intro x; have : g1 < wr.heap.size := (ha _ x).2; omega
      · rw [e]; intro x; injection x with x; have x : w2.heap.size = g1 := x; omega
    · intro x; have : g1 < wr.heap.size := (hw _ x).2; omega
  · injection e with e
    subst e
    refine ⟨?_, ?_, ?_, ?_⟩
    · show _ ≤ w3.heap.size; omega
    · show w3.heap.size < _; omega
    · intro x; have : w3.heap.size < w3.heap.size := hlt _ x; omega
    · intro x; have : w3.heap.size < wr.heap.size := (hw _ x).2; omega
theorem Grow.next (G : Grow w wr av wv k an ms) (hf : Fr No wr w2) (h3 : w3.ownsRow w.heap.size 5 1 av' an' (u8s (joinF ms ++ (low M.length 2 ++ M)))) (hg : w2.grownBy w3 av.ownBlock) (hav : av'.ownBlock = av.ownBlock ∨ av'.ownBlock = some w2.heap.size)
    (h4 : OwnL w4 w.heap.size (fun i => w.heap.size ≤ i ∧ i < w3.heap.size + 1 ∧ av'.ownBlock ≠ some i ∧ wv.ownBlock ≠ some i) wv' (k + 1) (ms ++ [M]))
    (hg4 : (w3.alloc (.cells #[.slice (some ⟨g1, 0, none⟩) q q] t)).grownBy w4 wv.ownBlock) (hwv : wv'.ownBlock = wv.ownBlock ∨ wv'.ownBlock = some (w3.heap.size + 1))
    (hM : 1 ≤ M.length ∧ M.length ≤ 300) (hn : an' ≤ 302 * (k + 1)) : Grow w w4 av' wv' (k + 1) an' (ms ++ [M]) := by
  have s1 := G.fr.size
  have s2 := hf.size
  have s3 := hg.size
  have s4 := hg4.size
  have s5 : (w3.alloc (.cells #[.slice (some ⟨g1, 0, none⟩) q q] t)).heap.size = w3.heap.size + 1 := by simp
  have ha := G.avlt
  have hw := G.wvlt
  have hlt := h3.lt
  have hne : ∀ g, av'.ownBlock = some g → wv.ownBlock ≠ some g := fun g e x => by
    rcases hav with e1 | e1
    · rw [e1] at e; exact G.apart g e x
    · rw [e1] at e
      injection e with e
      have := (hw _ x).2
      omega
  have hf4 : Fr (fun i => wv.ownBlock = some i) w3 w4 := ((Fr.refl (fun i => wv.ownBlock = some i) w3).alloc _).grown hg4 (fun g e => .inl e)
  refine ⟨?_, h4.mono (fun i h => ⟨h.1, by omega, h.2.2.1, ?_⟩), fun g e => ?_, ?_, ?_, hn⟩
  · rw [joinF_snoc]
    exact hf4.own h3 (fun g e x => hne g e x)
  · rcases hwv with e | e
    · rw [e]; exact h.2.2.2
    · rw [e]; intro x; injection x with x; omega
  · rcases hwv with e1 | e1
    · rw [e1]; exact hne g e
    · rw [e1]; intro x; injection x with x; have := (hlt g e).2; omega
  · have f3 : Fr No w w3 := (G.fr.trans hf).grown hg (fun g e => .inr (ha g e).1)
    exact (f3.alloc _).grown hg4 (fun g e => .inr (hw g e).1)
  · intro x hx
    rcases List.mem_append.1 hx with h | h
    · exact G.len x h
    · rw [List.mem_singleton.1 h]; exact hM
/-- the row that a round fills -/
def fillL (k j : Nat) : List UInt8 := (List.range j).map fun i => UInt8.ofNat (k + i)
theorem fill_len (k j : Nat) : (fillL k j).length = j := by simp [fillL]
theorem fill_step (k j m : Nat) (h : j < m) : (u8s (fillL k j ++ List.replicate (m - j) 0)).set j (.int .u8 (IntKind.u8.wrap ((k : Int) + (j : Int)))) = u8s (fillL k (j + 1) ++ List.replicate (m - (j + 1)) 0) := by
  obtain ⟨p, hp⟩ : ∃ p, m - j = p + 1 := ⟨m - j - 1, by omega⟩
  have e : m - (j + 1) = p := by omega
  have hw : IntKind.u8.wrap ((k : Int) + (j : Int)) = ((UInt8.ofNat (k + j)).toNat : Int) := by
    rw [IntKind.wrap_u8, UInt8.toNat_ofNat']
    omega
  rw [hp, e, hw]
  have h1 : fillL k (j + 1) = fillL k j ++ [UInt8.ofNat (k + j)] := by simp [fillL, List.range_succ]
  rw [h1]
  simp only [u8s, List.map_append, List.replicate_succ, List.map_cons]
  rw [List.set_append_right _ _ (by simp [fillL])]
  simp [fillL]

/-- frames that are told, row behind row -/
structure Got (wr w6 w8 : World) (gv : Value) (gk : Nat) (fs : List (List UInt8)) (K : Nat → Prop) : Prop where
  own : OwnL w8 w6.heap.size (fun i => w6.heap.size ≤ i ∧ i < w8.heap.size ∧ ¬ K i ∧ gv.ownBlock ≠ some i) gv gk fs
  apart : ∀ g, gv.ownBlock = some g → ¬ K g
  far : ∀ i, K i → wr.heap.size ≤ i
  fr : Fr No wr w8
  old : wr.heap.size ≤ w6.heap.size ∧ w6.heap.size ≤ w8.heap.size
variable {w6 w8 w9 w10 : World} {gv gv' : Value} {gk gm gd : Nat} {fs fs2 : List (List UInt8)} {K K' : Nat → Prop} {B : Option Addr}
theorem Got.glt (G : Got wr w6 w8 gv gk fs K) : ∀ i, gv.ownBlock = some i → w6.heap.size ≤ i ∧ i < w8.heap.size := by
  obtain ⟨vs, hov, _⟩ := G.own.vs
  exact fun i e => hov.lt i e
theorem Got.apart2 (G : Got wr w6 w8 gv gk fs K) (hk : ∀ i, K' i → K i ∨ w8.heap.size ≤ i) : ∀ i, K' i → gv.ownBlock ≠ some i := fun i h x => by
  rcases hk i h with y | y
  · exact G.apart i x y
  · have := (G.glt i x).2
    omega
theorem Got.mid (G : Got wr w6 w8 gv gk fs K) (hf : Fr K w8 w9) (hk : ∀ i, K' i → K i ∨ w8.heap.size ≤ i) (hR : RdL w9 (fun i => w8.heap.size ≤ i ∧ i < w9.heap.size ∧ ¬ K' i) B gm gd fs2) :
    OwnL w9 w6.heap.size (fun i => w6.heap.size ≤ i ∧ i < w9.heap.size ∧ ¬ K' i ∧ gv.ownBlock ≠ some i) gv gk fs ∧ RdL w9 (fun i => w6.heap.size ≤ i ∧ i < w9.heap.size ∧ ¬ K' i ∧ gv.ownBlock ≠ some i) B gm gd fs2 := by
  have s := hf.size
  have o := G.old.2
  refine ⟨(G.own.fr hf (fun i h => h.2.2.1) (fun g e => G.apart g e)).mono (fun i h => ⟨h.1, by omega, fun x => ?_, h.2.2.2⟩), hR.mono (fun i h => ⟨by omega, h.2.1, h.2.2, fun x => ?_⟩)⟩
  · rcases hk i x with y | y
    · exact h.2.2.1 y
    · omega
  · have := (G.glt i x).2
    omega
theorem Got.next (G : Got wr w6 w8 gv gk fs K) (hf : Fr K w8 w9) (hk : ∀ i, K' i → K i ∨ w8.heap.size ≤ i) (hlow : ∀ i, K' i → i < w9.heap.size)
    (ho : OwnL w10 w6.heap.size (fun i => w6.heap.size ≤ i ∧ i < w9.heap.size ∧ ¬ K' i ∧ gv.ownBlock ≠ some i) gv' (gk + gm) (fs ++ fs2)) (hg : w9.grownBy w10 gv.ownBlock) (hgv : gv'.ownBlock = gv.ownBlock ∨ gv'.ownBlock = some w9.heap.size) :
    Got wr w6 w10 gv' (gk + gm) (fs ++ fs2) K' := by
  have s := hf.size
  have s2 := hg.size
  have o := G.old
  have f := G.fr.size
  refine ⟨ho.mono (fun i h => ⟨h.1, by omega, h.2.2.1, fun x => ?_⟩), fun g e x => ?_, fun i h => ?_, ?_, ⟨o.1, by omega⟩⟩
  · rcases hgv with e | e
    · rw [e] at x; exact h.2.2.2 x
    · rw [e] at x; injection x with x; omega
  · rcases hgv with e1 | e1
    · rw [e1] at e; exact G.apart2 hk g x e
    · rw [e1] at e; injection e with e; have := hlow g x; omega
  · rcases hk i h with y | y
    · exact G.far i y
    · omega
  · exact (G.fr.trans_new hf (fun i hi => .inr (G.far i hi))).grown hg (fun g e => .inr (by have := (G.glt g e).1; omega))
end Go.Proofs.Ytpoaifibomiiaaa
