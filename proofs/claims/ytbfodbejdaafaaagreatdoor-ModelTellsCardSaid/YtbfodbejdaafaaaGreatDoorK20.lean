/- The texts TreeItems, HelpTok, joined. -/
import Derived.Test.YtbfodbejdaafaaaGreatDoorK14
import Derived.Test.YtbfodbejdaafaaaGreatDoorK19
import Derived.Test.YtbfodbejdaafaaaGreatDoorK03
import Derived.Lib.QuietBelow
/- Nodes as things in rows; a tree that grows, as it lies. -/
namespace Go.Proofs.YtbfodbejdaafaaaGreatDoor
open Go.RowKit
set_option maxHeartbeats 400000
set_option linter.unusedVariables false

/-- a node's cells -/
def NodI (w : World) (N : Nat → Prop) (cs : List Value) (t : Nod) : Prop := ∃ (X Y : ByteArray) (A : Option Addr) (n c : Nat),
  cs = [.int .i64 t.parent, .string X, .string Y, .slice A n c] ∧ X.data.toList = t.name ∧ Y.data.toList = t.text ∧ RdI 2 AttrI w N A n c t.attrs
theorem nod_ok : ItemOk 4 NodI where
  len := by rintro w N cs a ⟨X, Y, A, n, c, rfl, _⟩; rfl
  one := by
    rintro w N cs a ⟨X, Y, A, n, c, rfl, _⟩ u hu
    simp only [List.mem_cons, List.not_mem_nil, or_false] at hu
    rcases hu with rfl | rfl | rfl | rfl <;> rfl
  fr := by
    rintro w w' N S cs a ⟨X, Y, A, n, c, e, h1, h2, h3⟩ hf hS
    exact ⟨X, Y, A, n, c, e, h1, h2, h3.fr attr_ok hf hS⟩
  mono := by
    rintro w N M cs a ⟨X, Y, A, n, c, e, h1, h2, h3⟩ hM
    exact ⟨X, Y, A, n, c, e, h1, h2, h3.mono attr_ok hM⟩
theorem info_node : (Tryz.prog.info? 54).map (fun i => (i.zero, i.size, i.bytes)) = some (some (.agg #[.int .i64 0, .string ⟨#[]⟩, .string ⟨#[]⟩, .slice none 0 0]), 4, 64) := by kernel_rfl
theorem info_str : (Tryz.prog.info? 9).map (fun i => (i.zero, i.size, i.bytes)) = some (some (.string ⟨#[]⟩), 1, 16) := by kernel_rfl
theorem info_bool : (Tryz.prog.info? 4).map (fun i => (i.zero, i.size, i.bytes)) = some (some (.bool false), 1, 1) := by kernel_rfl

def strs (l : List ByteArray) : List Value := l.map .string
def bls (l : List Bool) : List Value := l.map .bool
theorem strs_len (l : List ByteArray) : (strs l).length = l.length := by simp [strs]
theorem bls_len (l : List Bool) : (bls l).length = l.length := by simp [bls]

/-- whose blocks: none of two rows of one's own is the same, none is g's -/
structure Apart (g : Nat) (v1 v2 v3 v4 : Value) : Prop where
  g1 : v1.ownBlock ≠ some g
  g2 : v2.ownBlock ≠ some g
  g3 : v3.ownBlock ≠ some g
  g4 : v4.ownBlock ≠ some g
  h12 : ∀ i, v1.ownBlock = some i → v2.ownBlock ≠ some i
  h13 : ∀ i, v1.ownBlock = some i → v3.ownBlock ≠ some i
  h14 : ∀ i, v1.ownBlock = some i → v4.ownBlock ≠ some i
  h23 : ∀ i, v2.ownBlock = some i → v3.ownBlock ≠ some i
  h24 : ∀ i, v2.ownBlock = some i → v4.ownBlock ≠ some i
  h34 : ∀ i, v3.ownBlock = some i → v4.ownBlock ≠ some i
/-- blocks of what nodes point to -/
def Deep (w : World) (base g : Nat) (v1 v2 v3 v4 : Value) : Nat → Prop := fun i => base ≤ i ∧ i < w.heap.size ∧ i ≠ g ∧ v1.ownBlock ≠ some i ∧ v2.ownBlock ≠ some i ∧ v3.ownBlock ≠ some i ∧ v4.ownBlock ≠ some i
/-- a tree that grows, at block g, with its four rows -/
structure GrV (w : World) (base g : Nat) (v1 v2 v3 v4 : Value) (xs : List ByteArray) (G : Gro) : Prop where
  bk : Bk w g 75 [v1, v2, v3, v4]
  low : base ≤ g
  o1 : OwnI 4 NodI w base 54 (Deep w base g v1 v2 v3 v4) v1 G.l.length G.l
  o2 : w.ownsRow base 3 1 v2 G.opn.length (ints G.opn)
  ex : xs.map (fun x => x.data.toList) = G.txt
  o3 : w.ownsRow base 9 1 v3 xs.length (strs xs)
  o4 : w.ownsRow base 4 1 v4 G.ink.length (bls G.ink)
  ap : Apart g v1 v2 v3 v4
def GrT (w : World) (base g : Nat) (G : Gro) : Prop := ∃ v1 v2 v3 v4 xs, GrV w base g v1 v2 v3 v4 xs G
variable {w w' : World} {base g : Nat} {v1 v2 v3 v4 : Value} {xs : List ByteArray} {G : Gro}
theorem GrV.fr {S : Nat → Prop} (h : GrV w base g v1 v2 v3 v4 xs G) (hf : Fr S w w') (hS : ∀ i, base ≤ i → i < w.heap.size → ¬ S i) : GrV w' base g v1 v2 v3 v4 xs G where
  bk := h.bk.fr hf (hS g h.low h.bk.lt)
  low := h.low
  o1 := (h.o1.fr nod_ok hf (fun i hi => hS i hi.1 hi.2.1) (fun i e => hS i (h.o1.lt i e).1 (h.o1.lt i e).2)).mono nod_ok (fun i hi => ⟨hi.1, Nat.lt_of_lt_of_le hi.2.1 hf.size, hi.2.2⟩)
  o2 := hf.own h.o2 (fun i e => hS i (h.o2.lt i e).1 (h.o2.lt i e).2)
  ex := h.ex
  o3 := hf.own h.o3 (fun i e => hS i (h.o3.lt i e).1 (h.o3.lt i e).2)
  o4 := hf.own h.o4 (fun i e => hS i (h.o4.lt i e).1 (h.o4.lt i e).2)
  ap := h.ap
theorem GrV.no (h : GrV w base g v1 v2 v3 v4 xs G) (hf : Fr No w w') : GrV w' base g v1 v2 v3 v4 xs G := h.fr hf (fun _ _ _ x => x)

/-- another row in the place of one of the four -/
theorem fresh_ne {v v' : Value} {u : World} {i : Nat} (hv : v'.ownBlock = v.ownBlock ∨ ∀ i, v'.ownBlock = some i → u.heap.size ≤ i) (h : v.ownBlock ≠ some i) (hi : i < u.heap.size) : v'.ownBlock ≠ some i := by
  rcases hv with hv | hv
  · rw [hv]; exact h
  · intro e; have := hv i e; omega

theorem GrV.put1 {u w2 : World} {v1' : Value} (h : GrV u base g v1 v2 v3 v4 xs G) (hf : Fr (fun i => v1.ownBlock = some i) u w2) {l' : List Nod} (ho : OwnI 4 NodI w2 base 54 (Deep w2 base g v1' v2 v3 v4) v1' l'.length l') (hv : v1'.ownBlock = v1.ownBlock ∨ ∀ i, v1'.ownBlock = some i → u.heap.size ≤ i) :
    GrV (w2.setCell ⟨g, 0, none⟩ v1') base g v1' v2 v3 v4 xs { G with l := l' } := by
  have hs : Fr (Just g) w2 (w2.setCell ⟨g, 0, none⟩ v1') := (Fr.refl (Just g) w2).setCell (p := ⟨g, 0, none⟩) (.inl (Just.at g)) _
  have hgs : g < u.heap.size := h.bk.lt
  have hz := hf.size
  have hzz := hs.size
  have hb := (h.bk.fr hf h.ap.g1).set_ 0 v1'
  have l2 := h.o2.lt
  have l3 := h.o3.lt
  have l4 := h.o4.lt
  have hng : v1'.ownBlock ≠ some g := fresh_ne hv h.ap.g1 hgs
  exact ⟨hb, h.low, (ho.fr nod_ok hs (fun i hi e => hi.2.2.1 e) (fun i e e2 => hng (by rw [show g = i from e2.symm]; exact e))).mono nod_ok (fun i hi => ⟨hi.1, Nat.lt_of_lt_of_le hi.2.1 hzz, hi.2.2⟩), hs.own (hf.own h.o2 (fun i e e2 => h.ap.h12 i e2 e)) (fun i e e2 => h.ap.g2 (by rw [show g = i from e2.symm]; exact e)), h.ex, hs.own (hf.own h.o3 (fun i e e2 => h.ap.h13 i e2 e)) (fun i e e2 => h.ap.g3 (by rw [show g = i from e2.symm]; exact e)), hs.own (hf.own h.o4 (fun i e e2 => h.ap.h14 i e2 e)) (fun i e e2 => h.ap.g4 (by rw [show g = i from e2.symm]; exact e)), ⟨hng, h.ap.g2, h.ap.g3, h.ap.g4, (fun i e e2 => fresh_ne hv (fun e3 => h.ap.h12 i e3 e2) (l2 i e2).2 e), (fun i e e2 => fresh_ne hv (fun e3 => h.ap.h13 i e3 e2) (l3 i e2).2 e), (fun i e e2 => fresh_ne hv (fun e3 => h.ap.h14 i e3 e2) (l4 i e2).2 e), h.ap.h23, h.ap.h24, h.ap.h34⟩⟩

theorem GrV.put2 {u w2 : World} {v2' : Value} (h : GrV u base g v1 v2 v3 v4 xs G) (hf : Fr (fun i => v2.ownBlock = some i) u w2) {opn' : List Int} (ho : w2.ownsRow base 3 1 v2' opn'.length (ints opn')) (hv : v2'.ownBlock = v2.ownBlock ∨ ∀ i, v2'.ownBlock = some i → u.heap.size ≤ i) :
    GrV (w2.setCell ⟨g, 1, none⟩ v2') base g v1 v2' v3 v4 xs { G with opn := opn' } := by
  have hs : Fr (Just g) w2 (w2.setCell ⟨g, 1, none⟩ v2') := (Fr.refl (Just g) w2).setCell (p := ⟨g, 1, none⟩) (.inl (Just.at g)) _
  have hgs : g < u.heap.size := h.bk.lt
  have hz := hf.size
  have hzz := hs.size
  have hb := (h.bk.fr hf h.ap.g2).set_ 1 v2'
  have l1 := h.o1.lt
  have l3 := h.o3.lt
  have l4 := h.o4.lt
  have hng : v2'.ownBlock ≠ some g := fresh_ne hv h.ap.g2 hgs
  exact ⟨hb, h.low, ((h.o1.fr nod_ok hf (fun i hi e => hi.2.2.2.2.1 e) (fun i e e2 => h.ap.h12 i e e2)).fr nod_ok hs (fun i hi e => hi.2.2.1 e) (fun i e e2 => h.ap.g1 (by rw [show g = i from e2.symm]; exact e))).mono nod_ok (fun i hi => ⟨hi.1, by have := hi.2.1; omega, hi.2.2.1, hi.2.2.2.1, fresh_ne hv hi.2.2.2.2.1 hi.2.1, hi.2.2.2.2.2.1, hi.2.2.2.2.2.2⟩), hs.own ho (fun i e e2 => hng (by rw [show g = i from e2.symm]; exact e)), h.ex, hs.own (hf.own h.o3 (fun i e e2 => h.ap.h23 i e2 e)) (fun i e e2 => h.ap.g3 (by rw [show g = i from e2.symm]; exact e)), hs.own (hf.own h.o4 (fun i e e2 => h.ap.h24 i e2 e)) (fun i e e2 => h.ap.g4 (by rw [show g = i from e2.symm]; exact e)), ⟨h.ap.g1, hng, h.ap.g3, h.ap.g4, (fun i e => fresh_ne hv (h.ap.h12 i e) (l1 i e).2), h.ap.h13, h.ap.h14, (fun i e e2 => fresh_ne hv (fun e3 => h.ap.h23 i e3 e2) (l3 i e2).2 e), (fun i e e2 => fresh_ne hv (fun e3 => h.ap.h24 i e3 e2) (l4 i e2).2 e), h.ap.h34⟩⟩

theorem GrV.put3 {u w2 : World} {v3' : Value} (h : GrV u base g v1 v2 v3 v4 xs G) (hf : Fr (fun i => v3.ownBlock = some i) u w2) {xs' : List ByteArray} (ho : w2.ownsRow base 9 1 v3' xs'.length (strs xs')) (hv : v3'.ownBlock = v3.ownBlock ∨ ∀ i, v3'.ownBlock = some i → u.heap.size ≤ i) :
    GrV (w2.setCell ⟨g, 2, none⟩ v3') base g v1 v2 v3' v4 xs' { G with txt := xs'.map (fun x => x.data.toList) } := by
  have hs : Fr (Just g) w2 (w2.setCell ⟨g, 2, none⟩ v3') := (Fr.refl (Just g) w2).setCell (p := ⟨g, 2, none⟩) (.inl (Just.at g)) _
  have hgs : g < u.heap.size := h.bk.lt
  have hz := hf.size
  have hzz := hs.size
  have hb := (h.bk.fr hf h.ap.g3).set_ 2 v3'
  have l1 := h.o1.lt
  have l2 := h.o2.lt
  have l4 := h.o4.lt
  have hng : v3'.ownBlock ≠ some g := fresh_ne hv h.ap.g3 hgs
  exact ⟨hb, h.low, ((h.o1.fr nod_ok hf (fun i hi e => hi.2.2.2.2.2.1 e) (fun i e e2 => h.ap.h13 i e e2)).fr nod_ok hs (fun i hi e => hi.2.2.1 e) (fun i e e2 => h.ap.g1 (by rw [show g = i from e2.symm]; exact e))).mono nod_ok (fun i hi => ⟨hi.1, by have := hi.2.1; omega, hi.2.2.1, hi.2.2.2.1, hi.2.2.2.2.1, fresh_ne hv hi.2.2.2.2.2.1 hi.2.1, hi.2.2.2.2.2.2⟩), hs.own (hf.own h.o2 (fun i e e2 => h.ap.h23 i e e2)) (fun i e e2 => h.ap.g2 (by rw [show g = i from e2.symm]; exact e)), rfl, hs.own ho (fun i e e2 => hng (by rw [show g = i from e2.symm]; exact e)), hs.own (hf.own h.o4 (fun i e e2 => h.ap.h34 i e2 e)) (fun i e e2 => h.ap.g4 (by rw [show g = i from e2.symm]; exact e)), ⟨h.ap.g1, h.ap.g2, hng, h.ap.g4, h.ap.h12, (fun i e => fresh_ne hv (h.ap.h13 i e) (l1 i e).2), h.ap.h14, (fun i e => fresh_ne hv (h.ap.h23 i e) (l2 i e).2), h.ap.h24, (fun i e e2 => fresh_ne hv (fun e3 => h.ap.h34 i e3 e2) (l4 i e2).2 e)⟩⟩

theorem GrV.put4 {u w2 : World} {v4' : Value} (h : GrV u base g v1 v2 v3 v4 xs G) (hf : Fr (fun i => v4.ownBlock = some i) u w2) {ink' : List Bool} (ho : w2.ownsRow base 4 1 v4' ink'.length (bls ink')) (hv : v4'.ownBlock = v4.ownBlock ∨ ∀ i, v4'.ownBlock = some i → u.heap.size ≤ i) :
    GrV (w2.setCell ⟨g, 3, none⟩ v4') base g v1 v2 v3 v4' xs { G with ink := ink' } := by
  have hs : Fr (Just g) w2 (w2.setCell ⟨g, 3, none⟩ v4') := (Fr.refl (Just g) w2).setCell (p := ⟨g, 3, none⟩) (.inl (Just.at g)) _
  have hgs : g < u.heap.size := h.bk.lt
  have hz := hf.size
  have hzz := hs.size
  have hb := (h.bk.fr hf h.ap.g4).set_ 3 v4'
  have l1 := h.o1.lt
  have l2 := h.o2.lt
  have l3 := h.o3.lt
  have hng : v4'.ownBlock ≠ some g := fresh_ne hv h.ap.g4 hgs
  exact ⟨hb, h.low, ((h.o1.fr nod_ok hf (fun i hi e => hi.2.2.2.2.2.2 e) (fun i e e2 => h.ap.h14 i e e2)).fr nod_ok hs (fun i hi e => hi.2.2.1 e) (fun i e e2 => h.ap.g1 (by rw [show g = i from e2.symm]; exact e))).mono nod_ok (fun i hi => ⟨hi.1, by have := hi.2.1; omega, hi.2.2.1, hi.2.2.2.1, hi.2.2.2.2.1, hi.2.2.2.2.2.1, fresh_ne hv hi.2.2.2.2.2.2 hi.2.1⟩), hs.own (hf.own h.o2 (fun i e e2 => h.ap.h24 i e e2)) (fun i e e2 => h.ap.g2 (by rw [show g = i from e2.symm]; exact e)), h.ex, hs.own (hf.own h.o3 (fun i e e2 => h.ap.h34 i e e2)) (fun i e e2 => h.ap.g3 (by rw [show g = i from e2.symm]; exact e)), hs.own ho (fun i e e2 => hng (by rw [show g = i from e2.symm]; exact e)), ⟨h.ap.g1, h.ap.g2, h.ap.g3, hng, h.ap.h12, h.ap.h13, (fun i e => fresh_ne hv (h.ap.h14 i e) (l1 i e).2), h.ap.h23, (fun i e => fresh_ne hv (h.ap.h24 i e) (l2 i e).2), (fun i e => fresh_ne hv (h.ap.h34 i e) (l3 i e).2)⟩⟩

/-- into the row of texts, of inks -/
theorem GrV.at3 (h : GrV w base g v1 v2 v3 v4 xs G) {k : Nat} (hk : k < xs.length) : ∃ b3 c3, v3 = .slice (some ⟨b3, 0, none⟩) xs.length c3 ∧ w.cell? ⟨b3, k, none⟩ = some (.string xs[k]) ∧ w.frozen? ⟨b3, k, none⟩ = false := by
  obtain ⟨b3, c3, rfl, _, _, hc, hz, _⟩ := own_open h.o3 (by omega)
  exact ⟨b3, c3, rfl, hc k _ (by simp [strs, hk]), hz k⟩
theorem GrV.at4 (h : GrV w base g v1 v2 v3 v4 xs G) {k : Nat} (hk : k < G.ink.length) : ∃ b4 c4, v4 = .slice (some ⟨b4, 0, none⟩) G.ink.length c4 ∧ w.cell? ⟨b4, k, none⟩ = some (.bool G.ink[k]) ∧ w.frozen? ⟨b4, k, none⟩ = false := by
  obtain ⟨b4, c4, rfl, _, _, hc, hz, _⟩ := own_open h.o4 (by omega)
  exact ⟨b4, c4, rfl, hc k _ (by simp [bls, hk]), hz k⟩
theorem GrV.set3 {b3 c3 k : Nat} {Y : ByteArray} (h : GrV w base g v1 v2 (.slice (some ⟨b3, 0, none⟩) xs.length c3) v4 xs G) (hk : k < xs.length) :
    GrV (w.setCell ⟨b3, k, none⟩ (.string Y)) base g v1 v2 (.slice (some ⟨b3, 0, none⟩) xs.length c3) v4 (xs.set k Y) { G with txt := G.txt.set k Y.data.toList } := by
  have hs : Fr (Just b3) w (w.setCell ⟨b3, k, none⟩ (.string Y)) := (Fr.refl (Just b3) w).setCell (p := ⟨b3, k, none⟩) (.inl (Just.at b3)) _
  have e3 : (Value.slice (some ⟨b3, 0, none⟩) xs.length c3).ownBlock = some b3 := rfl
  have hg3 : ¬ g = b3 := fun e => h.ap.g3 (by rw [e3, e])
  have l1 : (xs.set k Y).length = xs.length := by simp
  refine ⟨h.bk.fr hs hg3, h.low, (h.o1.fr nod_ok hs (fun i hi e => hi.2.2.2.2.2.1 (by rw [e3, show i = b3 from e])) (fun i e e2 => h.ap.h13 i e (by rw [e3, show i = b3 from e2]))).mono nod_ok (fun i hi => ⟨hi.1, Nat.lt_of_lt_of_le hi.2.1 hs.size, hi.2.2⟩),
    hs.own h.o2 (fun i e e2 => h.ap.h23 i e (by rw [e3, show i = b3 from e2])), ?_, ?_, hs.own h.o4 (fun i e e2 => h.ap.h34 i (by rw [e3, show i = b3 from e2]) e), h.ap⟩
  · rw [List.map_set, h.ex]
  · have := own_set h.o3 hk (.string Y)
    rw [l1]
    rwa [show (strs xs).set k (.string Y) = strs (xs.set k Y) from by unfold strs; rw [List.map_set]] at this
theorem GrV.set4 {b4 c4 k : Nat} {y : Bool} (h : GrV w base g v1 v2 v3 (.slice (some ⟨b4, 0, none⟩) G.ink.length c4) xs G) (hk : k < G.ink.length) :
    GrV (w.setCell ⟨b4, k, none⟩ (.bool y)) base g v1 v2 v3 (.slice (some ⟨b4, 0, none⟩) G.ink.length c4) xs { G with ink := G.ink.set k y } := by
  have hs : Fr (Just b4) w (w.setCell ⟨b4, k, none⟩ (.bool y)) := (Fr.refl (Just b4) w).setCell (p := ⟨b4, k, none⟩) (.inl (Just.at b4)) _
  have e4 : (Value.slice (some ⟨b4, 0, none⟩) G.ink.length c4).ownBlock = some b4 := rfl
  have hg4 : ¬ g = b4 := fun e => h.ap.g4 (by rw [e4, e])
  have l1 : (G.ink.set k y).length = G.ink.length := by simp
  refine ⟨h.bk.fr hs hg4, h.low, (h.o1.fr nod_ok hs (fun i hi e => hi.2.2.2.2.2.2 (by rw [e4, show i = b4 from e])) (fun i e e2 => h.ap.h14 i e (by rw [e4, show i = b4 from e2]))).mono nod_ok (fun i hi => ⟨hi.1, Nat.lt_of_lt_of_le hi.2.1 hs.size, hi.2.2⟩),
    hs.own h.o2 (fun i e e2 => h.ap.h24 i e (by rw [e4, show i = b4 from e2])), h.ex, hs.own h.o3 (fun i e e2 => h.ap.h34 i e (by rw [e4, show i = b4 from e2])), ?_, h.ap⟩
  have := own_set h.o4 hk (.bool y)
  simp only [l1]
  rwa [show (bls G.ink).set k (.bool y) = bls (G.ink.set k y) from by unfold bls; rw [List.map_set]] at this

/-- attributes copied onto none, as one step of a region that draws its order ('go_region_law') -/
theorem stepAt {ops : Array Oper} {o : Oper} {a : Act} {w : World} {K : Act → World → Prop} {Q : Exit → Act → World → Prop} {E : Prop} (hgd : Region.wanted o (yielded ops a.tmps) = true) (s x : Operand)
    (ho : o.op = .call { callee := .builtin .append, args := #[s, x], argTypes := #[52, 52] }) (hs : a.eval s = .slice none 0 0)
    (A : Option Addr) (m c : Nat) (N : Nat → Prop) (bs : List (List UInt8 × List UInt8)) (hx : a.eval x = .slice A m c) (hr : RdI 2 AttrI w N A m c bs) (hb : m ≤ 4000000000)
    (h : ∀ A' c' w', RdI 2 AttrI w' (fun i => i = w.heap.size) A' m c' bs → Fr No w w' → K (a.put o.dst (.slice A' m c')) w') :
    if Region.wanted o (yielded ops a.tmps) = true then Oper.wp Tryz.prog o a w K Q else E := by
  rw [if_pos hgd]
  obtain ⟨i, hi, hz, h1, h2⟩ := info_parts info_attr
  obtain ⟨ys, hry, hye⟩ := hr.xs
  obtain ⟨v', w', hrun, g1, g2, g3⟩ := run_append_rdS (P := Tryz.prog) w w.heap.size 52 o.type 56 i _ 2 32 Tryz.underlying52 hi hz h1 h2 rfl (by omega) (.slice none 0 0) 0 [] ⟨by simp, .inl ⟨rfl, rfl⟩⟩ A m c ys hry (ItemsF.one attr_ok hye) (by simp only [maxLen]; omega) (by omega) (Nat.le_refl _)
  unfold Oper.wp execOp
  simp only [ho, resolve, invoke, builtin, Sem.run_bind, Sem.run_pure, Result.andThen_ok, List.map_toArray, List.map_cons, List.map_nil, hs, hx, hrun]
  rw [Nat.zero_add, List.nil_append] at g1
  obtain ⟨A', c', rfl, hrd, hbk⟩ := RdS.of_own g1
  refine h A' c' w' ⟨⟨ys, hrd, attrs_any hye⟩, fun ad e _ => ?_⟩ ((Fr.refl No w).grown g2 (by simp [Value.ownBlock]))
  subst e
  rcases g1.2 with ⟨e, _⟩ | ⟨b, cap, cur, e, hb0, hh, _⟩
  · exact nomatch (Value.slice.inj e).1
  · have e := Option.some.inj (Value.slice.inj e).1
    rcases g3 with g3 | g3
    · rw [e] at g3
      simp [Value.ownBlock] at g3
    · rw [e] at g3 ⊢
      simpa [Value.ownBlock] using g3
/-- one more node, as one step of a region that draws its order -/
theorem stepNd {ops : Array Oper} {o : Oper} {a : Act} {w : World} {K : Act → World → Prop} {Q : Exit → Act → World → Prop} {E : Prop} (hgd : Region.wanted o (yielded ops a.tmps) = true) (s x : Operand)
    (ho : o.op = .call { callee := .builtin .append, args := #[s, x], argTypes := #[22, 22] })
    (base : Nat) (v : Value) (n : Nat) (ls : List Nod) (N M : Nat → Prop) (hs : a.eval s = v) (hown : OwnI 4 NodI w base 54 N v n ls) (nd : Nod) (cs : List Value) (hnd : NodI w M cs nd)
    (ad : Addr) (hx : a.eval x = .slice (some ad) 1 1) (hrd : RdS w 4 (some ad) 1 1 cs) (hb : n + 1 ≤ 1000000000) (hbase : base ≤ w.heap.size)
    (hN : ∀ i, N i → v.ownBlock ≠ some i) (hM : ∀ i, M i → v.ownBlock ≠ some i)
    (h : ∀ A' c' w', OwnI 4 NodI w' base 54 (fun i => N i ∨ M i) (.slice A' (n + 1) c') (n + 1) (ls ++ [nd]) → Fr (fun i => v.ownBlock = some i) w w' → ((Value.slice A' (n + 1) c').ownBlock = v.ownBlock ∨ (Value.slice A' (n + 1) c').ownBlock = some w.heap.size) → K (a.put o.dst (.slice A' (n + 1) c')) w') :
    if Region.wanted o (yielded ops a.tmps) = true then Oper.wp Tryz.prog o a w K Q else E := by
  rw [if_pos hgd]
  obtain ⟨i, hi, hz, h1, h2⟩ := info_parts info_node
  obtain ⟨ys, hov, he⟩ := hown.xs
  obtain ⟨v', w', hrun, g1, g2, g3⟩ := run_append_rdS (P := Tryz.prog) w base 22 o.type 54 i _ 4 64 Tryz.underlying22 hi hz h1 h2 rfl (by omega) v n ys hov (some ad) 1 1 cs hrd (nod_ok.one hnd) (by simp only [maxLen]; omega) (by omega) hbase
  unfold Oper.wp execOp
  simp only [ho, resolve, invoke, builtin, Sem.run_bind, Sem.run_pure, Result.andThen_ok, List.map_toArray, List.map_cons, List.map_nil, hs, hx, hrun]
  have hf : Fr (fun k => v.ownBlock = some k) w w' := (Fr.refl _ w).grown g2 (fun g e => .inl e)
  obtain ⟨A', c', rfl, -, -⟩ := RdS.of_own g1
  exact h A' c' w' ⟨⟨ys ++ cs, g1, ItemsF.fr nod_ok (ItemsF.app (ItemsF.mono nod_ok he (fun _ x => .inl x)) (ItemsF.single (nod_ok.mono hnd (fun _ x => .inr x)))) hf (fun k hk => by rcases hk with hk | hk; exact hN k hk; exact hM k hk)⟩⟩ hf g3
/-- nodes that come back, or none, and why -/
def NodesTo (L : List Nod) (E : Int) (w : World) (e : Ending) (w' : World) : Prop := ∃ v, e = .returned (.tuple #[v, .int .i64 E]) ∧
  OwnI 4 NodI w' w.heap.size 54 (fun i => w.heap.size ≤ i ∧ i < w'.heap.size) v L.length L ∧ Fr No w w'
theorem nodes_rd {w : World} {base n : Nat} {e : TypeId} {v : Value} {l : List Nod} (h : OwnI 4 NodI w base e (fun i => base ≤ i ∧ i < w.heap.size) v n l) : ∃ A c, v = .slice A n c ∧ RdI 4 NodI w (fun i => base ≤ i ∧ i < w.heap.size) A n c l :=
  h.rd (fun i h1 h2 => ⟨h1, h2⟩)
end Go.Proofs.YtbfodbejdaafaaaGreatDoor
/- The statements' own helpers: rows of attributes and of tokens that are alike, held against each other. -/
namespace Go.Proofs.YtbfodbejdaafaaaGreatDoor
open Go.RowKit
set_option maxHeartbeats 1000000
set_option linter.unusedVariables false

theorem add_next (ad : Addr) (i j : Nat) : ad.add (i + (j + 1)) = ⟨(ad.add i).block, (ad.add i).off + (j + 1), none⟩ := by
  unfold Addr.add
  by_cases h : i = 0
  · subst h
    simp
  · simp [h]
    omega
end Go.Proofs.YtbfodbejdaafaaaGreatDoor
