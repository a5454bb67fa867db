/- The texts TreeBd, Trim, TreeB1, TreeB2, TreeB3, TreeB4, TreeB5, TreeB6, TreeB7, joined. -/
import Derived.Test.YthkjmbkfcnehoaaGreatDoorTreeMath2
import Derived.Test.YthkjmbkfcnehoaaGreatDoorIts
import Derived.Lib.SlTrimSet
import Derived.Lib.Bytealg
import Derived.Test.YthkjmbkfcnehoaaGreatDoorShelf
import Derived.Test.YthkjmbkfcnehoaaGreatDoorSm
import Derived.Test.YthkjmbkfcnehoaaGreatDoorRefTokX
import Derived.Test.YthkjmbkfcnehoaaGreatDoorStrApp
import Derived.Deep.CutRange
/- The program's builder of trees, as it lies: a block with two rows; whose each block is, a number tells (0: attributes, 1: the builder, 2: its elements, 3: the open ones, 4 + k: the texts of element k). -/
namespace Go.Proofs.YthkjmbkfcnehoaaGreatDoor
open Go.RowKit
set_option maxHeartbeats 400000
set_option linter.unusedVariables false

/-! ### cells within a row of things -/
section
variable {α : Type} {s : Nat} {I : World → (Nat → Prop) → List Value → α → Prop} {w : World} {N : Nat → Prop}
theorem ItemsF.setAt (hI : ItemOk s I) : ∀ {ls : List α} {xs : List Value} (h : ItemsF I w N xs ls) (k j : Nat) (hk : k < ls.length) (hj : j < s) (u : Value) (a' : α) (h' : ∀ cs, I w N cs ls[k] → I w N (cs.set j u) a'), ItemsF I w N (xs.set (k * s + j) u) (ls.set k a')
  | [], _, _, k, _, hk, _, _, _, _ => by simp at hk
  | a :: ls, _, ⟨cs, rest, e, h1, h2⟩, 0, j, hk, hj, u, a', h' => by
    have hl := hI.len h1
    rw [e, Nat.zero_mul, Nat.zero_add, List.set_append_left _ _ (by omega)]
    exact ⟨cs.set j u, rest, rfl, h' cs h1, h2⟩
  | a :: ls, _, ⟨cs, rest, e, h1, h2⟩, k + 1, j, hk, hj, u, a', h' => by
    have hl := hI.len h1
    have e2 : (k + 1) * s + j = cs.length + (k * s + j) := by rw [hl, Nat.add_mul]; omega
    rw [e, e2, List.set_append_right _ _ (by omega), Nat.add_sub_cancel_left]
    exact ⟨cs, _, rfl, h1, ItemsF.setAt hI h2 k j (by simpa using hk) hj u a' h'⟩
end
theorem own_setS {w : World} {base : Nat} {e : TypeId} {s g n cap : Nat} {xs : List Value} (h : w.ownsRow base e s (.slice (some ⟨g, 0, none⟩) n cap) n xs) {i : Nat} (hi : i < n * s) (u : Value) :
    (w.setCell ⟨g, i, none⟩ u).ownsRow base e s (.slice (some ⟨g, 0, none⟩) n cap) n (xs.set i u) := by
  rcases h.2 with ⟨e1, _⟩ | ⟨g', cap', cur, e1, hb, hg, hnc, hm, hc, ht⟩
  · cases e1
  · injection e1 with e1 _ e3
    injection e1 with e1
    injection e1 with e1
    subst e1 e3
    have hbk : Bk w g e cur.toList := hg
    refine ⟨by rw [List.length_set]; exact h.1, .inr ⟨g, cap, (cur.toList.set i u).toArray, rfl, hb, hbk.set_ i u, hnc, hm, by simpa using hc, ?_⟩⟩
    rw [← ht]
    simp [List.take_set]
theorem own_cellS {w : World} {base : Nat} {e : TypeId} {s g n cap : Nat} {xs : List Value} (h : w.ownsRow base e s (.slice (some ⟨g, 0, none⟩) n cap) n xs) {i : Nat} {u : Value} (hu : xs[i]? = some u) :
    w.cell? ⟨g, i, none⟩ = some u ∧ w.frozen? ⟨g, i, none⟩ = false := by
  rcases h.2 with ⟨e1, _⟩ | ⟨g', cap', cur, e1, hb, hg, hnc, hm, hc, ht⟩
  · cases e1
  · injection e1 with e1 _ e3
    injection e1 with e1
    injection e1 with e1
    subst e1 e3
    have hbk : Bk w g e cur.toList := hg
    refine ⟨?_, hbk.frozen i⟩
    rw [hbk.cell]
    rw [← ht, List.getElem?_take] at hu
    split at hu
    · exact hu
    · cases hu
/-- a row of one's own with something in it lies somewhere -/
theorem own_some {w : World} {base : Nat} {e : TypeId} {s n : Nat} {v : Value} {xs : List Value} (h : w.ownsRow base e s v n xs) (hn : 0 < n) : ∃ g cap, v = .slice (some ⟨g, 0, none⟩) n cap ∧ base ≤ g ∧ g < w.heap.size ∧ n ≤ cap ∧ cap ≤ maxLen := by
  rcases h.2 with ⟨e1, e2⟩ | ⟨g', cap', cur, e1, hb, hg, hnc, hm, hc, ht⟩
  · have := h.1
    subst e1
    simp_all
  · exact ⟨g', cap', e1, hb, (Array.getElem?_eq_some_iff.1 hg).1, hnc, hm⟩

theorem Fr.frz {S : Nat → Prop} {a b : World} (h : Fr S a b) {p : Addr} (hp : p.block < a.heap.size) (hk : ¬ S p.block) : b.frozen? p = a.frozen? p := by
  simp only [World.frozen?, h.block p.block hp hk]
theorem modify_set {α : Type} (l : List α) (k : Nat) (f : α → α) (h : k < l.length) : l.modify k f = l.set k (f l[k]) := by
  apply List.ext_getElem?
  intro j
  rw [List.getElem?_modify, List.getElem?_set]
  by_cases hj : k = j
  · subst hj
    simp [h]
  · simp [hj]
/-! ### elements -/
def ElmI (w : World) (N : Nat → Prop) (cs : List Value) (e : Elm × Value) : Prop := ∃ (X : ByteArray) (A : Option Addr) (n c : Nat),
  cs = [.int .i64 e.1.nod.parent, .string X, .string ⟨#[]⟩, .slice A n c, e.2, .bool e.1.fil] ∧ X.data.toList = e.1.nod.name ∧ RdI 2 AttrI w N A n c e.1.nod.attrs ∧ e.2.oneCell' = true
theorem elm_ok : ItemOk 6 ElmI where
  len := by rintro w N cs a ⟨X, A, n, c, rfl, _⟩; rfl
  one := by
    rintro w N cs a ⟨X, A, n, c, rfl, _, _, h1⟩ u hu
    simp only [List.mem_cons, List.not_mem_nil, or_false] at hu
    rcases hu with rfl | rfl | rfl | rfl | rfl | rfl
    · rfl
    · rfl
    · rfl
    · rfl
    · exact h1
    · rfl
  fr := by
    rintro w w' N S cs a ⟨X, A, n, c, e, h1, h2, h3⟩ hf hS
    exact ⟨X, A, n, c, e, h1, h2.fr attr_ok hf hS, h3⟩
  mono := by
    rintro w N M cs a ⟨X, A, n, c, e, h1, h2, h3⟩ hM
    exact ⟨X, A, n, c, e, h1, h2.mono attr_ok hM, h3⟩
theorem info_elm : (Tryz.prog.info? 73).map (fun i => (i.zero, i.size, i.bytes)) = some (some (.agg #[.int .i64 0, .string ⟨#[]⟩, .string ⟨#[]⟩, .slice none 0 0, .slice none 0 0, .bool false]), 6, 96) := by kernel_rfl

/-- blocks of attributes -/
def AtB (ρ : Nat → Nat) (w : World) (base : Nat) : Nat → Prop := fun i => base ≤ i ∧ i < w.heap.size ∧ ρ i = 0
structure BdV (ρ : Nat → Nat) (w : World) (base g : Nat) (v1 v2 : Value) (T : List Value) (E : List Elm) (opn : List Int) : Prop where
  bk : Bk w g 43 [v1, v2]
  low : base ≤ g
  rg : ρ g = 1
  o1 : OwnI 6 ElmI w base 73 (AtB ρ w base) v1 E.length (E.zip T)
  r1 : ∀ i, v1.ownBlock = some i → ρ i = 2
  o2 : w.ownsRow base 3 1 v2 opn.length (ints opn)
  r2 : ∀ i, v2.ownBlock = some i → ρ i = 3
  tl : T.length = E.length
  ot : ∀ k (h : k < T.length) (h' : k < E.length), w.ownsRow base 5 1 T[k] E[k].txt.length (u8s E[k].txt)
  rt : ∀ k (h : k < T.length) i, T[k].ownBlock = some i → ρ i = 4 + k
def BdT (w : World) (base g : Nat) (p : Pst) : Prop := ∃ ρ v1 v2 T, BdV ρ w base g v1 v2 T p.E p.opn

section
variable {ρ ρ' : Nat → Nat} {u w w2 : World} {base g r : Nat} {v1 v2 : Value} {T : List Value} {E : List Elm} {opn : List Int} {S : Nat → Prop}
theorem BdV.kbk (h : BdV ρ u base g v1 v2 T E opn) (hf : Fr S u w2) (hS : ∀ i, base ≤ i → i < u.heap.size → S i → ρ i = r) (h1 : r ≠ 1) : Bk w2 g 43 [v1, v2] :=
  h.bk.fr hf (fun hs => h1 (by rw [← hS g h.low h.bk.lt hs]; exact h.rg))
theorem BdV.ko1 (h : BdV ρ u base g v1 v2 T E opn) (hf : Fr S u w2) (hS : ∀ i, base ≤ i → i < u.heap.size → S i → ρ i = r) (hρ : ∀ i, i < u.heap.size → ρ' i = ρ i) (h0 : r ≠ 0) (h2 : r ≠ 2) : OwnI 6 ElmI w2 base 73 (AtB ρ' w2 base) v1 E.length (E.zip T) :=
  (h.o1.fr elm_ok hf (fun i hi hs => h0 (by rw [← hS i hi.1 hi.2.1 hs]; exact hi.2.2)) (fun i hi hs => h2 (by rw [← hS i (h.o1.lt i hi).1 (h.o1.lt i hi).2 hs]; exact h.r1 i hi))).mono elm_ok (fun i hi => ⟨hi.1, Nat.lt_of_lt_of_le hi.2.1 hf.size, by rw [hρ i hi.2.1]; exact hi.2.2⟩)
theorem BdV.kr1 (h : BdV ρ u base g v1 v2 T E opn) (hρ : ∀ i, i < u.heap.size → ρ' i = ρ i) : ∀ i, v1.ownBlock = some i → ρ' i = 2 := fun i hi => by rw [hρ i (h.o1.lt i hi).2]; exact h.r1 i hi
theorem BdV.ko2 (h : BdV ρ u base g v1 v2 T E opn) (hf : Fr S u w2) (hS : ∀ i, base ≤ i → i < u.heap.size → S i → ρ i = r) (h3 : r ≠ 3) : w2.ownsRow base 3 1 v2 opn.length (ints opn) :=
  hf.own h.o2 (fun i hi hs => h3 (by rw [← hS i (h.o2.lt i hi).1 (h.o2.lt i hi).2 hs]; exact h.r2 i hi))
theorem BdV.kr2 (h : BdV ρ u base g v1 v2 T E opn) (hρ : ∀ i, i < u.heap.size → ρ' i = ρ i) : ∀ i, v2.ownBlock = some i → ρ' i = 3 := fun i hi => by rw [hρ i (h.o2.lt i hi).2]; exact h.r2 i hi
theorem BdV.kot (h : BdV ρ u base g v1 v2 T E opn) (hf : Fr S u w2) (hS : ∀ i, base ≤ i → i < u.heap.size → S i → ρ i = r) (k : Nat) (hk : k < T.length) (hk' : k < E.length) (h4 : r ≠ 4 + k) : w2.ownsRow base 5 1 T[k] E[k].txt.length (u8s E[k].txt) :=
  hf.own (h.ot k hk hk') (fun i hi hs => h4 (by rw [← hS i ((h.ot k hk hk').lt i hi).1 ((h.ot k hk hk').lt i hi).2 hs]; exact h.rt k hk i hi))
theorem BdV.krt (h : BdV ρ u base g v1 v2 T E opn) (hρ : ∀ i, i < u.heap.size → ρ' i = ρ i) (k : Nat) (hk : k < T.length) : ∀ i, T[k].ownBlock = some i → ρ' i = 4 + k := fun i hi => by
  have hk' : k < E.length := by rw [← h.tl]; exact hk
  rw [hρ i ((h.ot k hk hk').lt i hi).2]
  exact h.rt k hk i hi
theorem BdV.krg (h : BdV ρ u base g v1 v2 T E opn) (hρ : ∀ i, i < u.heap.size → ρ' i = ρ i) : ρ' g = 1 := by rw [hρ g h.bk.lt]; exact h.rg

theorem BdV.fr (h : BdV ρ u base g v1 v2 T E opn) (hf : Fr S u w2) (hS : ∀ i, base ≤ i → i < u.heap.size → ¬ S i) : BdV ρ w2 base g v1 v2 T E opn :=
  have hs : ∀ r i, base ≤ i → i < u.heap.size → S i → ρ i = r := fun r i h1 h2 h3 => absurd h3 (hS i h1 h2)
  ⟨h.kbk hf (hs 0) (by omega), h.low, h.rg, h.ko1 hf (hs 1) (fun _ _ => rfl) (by omega) (by omega), h.r1, h.ko2 hf (hs 0) (by omega), h.r2, h.tl, fun k h1 h2 => h.kot hf (hs 0) k h1 h2 (by omega), h.rt⟩
theorem BdV.no (h : BdV ρ u base g v1 v2 T E opn) (hf : Fr No u w2) : BdV ρ w2 base g v1 v2 T E opn := h.fr hf (fun _ _ _ x => x)
theorem BdT.fr {p : Pst} (h : BdT u base g p) (hf : Fr S u w2) (hS : ∀ i, base ≤ i → i < u.heap.size → ¬ S i) : BdT w2 base g p :=
  let ⟨ρ, v1, v2, T, h⟩ := h
  ⟨ρ, v1, v2, T, h.fr hf hS⟩
theorem BdT.no {p : Pst} (h : BdT u base g p) (hf : Fr No u w2) : BdT w2 base g p := h.fr hf (fun _ _ _ x => x)

/-- another row of elements: one more, its texts nil -/
theorem BdV.put1 {v1' : Value} {e : Elm} (h : BdV ρ u base g v1 v2 T E opn) (hf : Fr (fun i => v1.ownBlock = some i) u w2) (het : e.txt = [])
    (ho : OwnI 6 ElmI w2 base 73 (fun i => AtB ρ u base i ∨ (u.heap.size ≤ i ∧ i < w2.heap.size ∧ v1'.ownBlock ≠ some i)) v1' (E.length + 1) (E.zip T ++ [(e, .slice none 0 0)]))
    (hv : v1'.ownBlock = v1.ownBlock ∨ ∀ i, v1'.ownBlock = some i → u.heap.size ≤ i) :
    BdT (w2.setCell ⟨g, 0, none⟩ v1') base g ⟨E ++ [e], opn⟩ := by
  obtain ⟨ρ', hρ'⟩ : ∃ ρ' : Nat → Nat, ρ' = fun i => if i < u.heap.size then ρ i else if v1'.ownBlock = some i then 2 else 0 := ⟨_, rfl⟩
  have hρ : ∀ i, i < u.heap.size → ρ' i = ρ i := fun i hi => by rw [hρ']; exact if_pos hi
  have hs : Fr (Just g) w2 (w2.setCell ⟨g, 0, none⟩ v1') := (Fr.refl (Just g) w2).setCell (p := ⟨g, 0, none⟩) (.inl (Just.at g)) _
  have hS : ∀ i, base ≤ i → i < u.heap.size → v1.ownBlock = some i → ρ i = 2 := fun i _ _ e => h.r1 i e
  have hgg : ¬ (v1.ownBlock = some g) := fun e => by have := h.r1 g e; have := h.rg; omega
  have hb : Bk w2 g 43 [v1, v2] := h.kbk hf hS (by omega)
  have hvg : v1'.ownBlock ≠ some g := by
    intro e
    rcases hv with hv | hv
    · exact hgg (by rw [← hv]; exact e)
    · have := hv g e; have := h.bk.lt; omega
  have hrv : ∀ i, v1'.ownBlock = some i → ρ' i = 2 := by
    intro i e
    rcases hv with hv | hv
    · rw [hv] at e; exact h.kr1 hρ i e
    · have := hv i e
      rw [hρ']
      simp only
      rw [if_neg (by omega), if_pos e]
  have hzz := hs.size
  have hzu := hf.size
  refine ⟨ρ', v1', v2, T ++ [.slice none 0 0], ?_⟩
  refine ⟨hb.set_ 0 v1', h.low, h.krg hρ, ?_, hrv, ?_, h.kr2 hρ, by simp [h.tl], ?_, ?_⟩
  · have hzip : (E ++ [e]).zip (T ++ [.slice none 0 0]) = E.zip T ++ [(e, Value.slice none 0 0)] := by rw [List.zip_append h.tl.symm]; rfl
    simp only [hzip, List.length_append, List.length_cons, List.length_nil]
    refine (ho.fr elm_ok hs (fun i hi e => ?_) (fun i hi e => hvg (by rw [show g = i from e.symm]; exact hi))).mono elm_ok (fun i hi => ?_)
    · have e : i = g := e
      subst e
      rcases hi with hi | hi
      · have := hi.2.2; have := h.rg; omega
      · have := h.bk.lt; omega
    · rcases hi with hi | hi
      · exact ⟨hi.1, Nat.lt_of_lt_of_le (Nat.lt_of_lt_of_le hi.2.1 hzu) hzz, by rw [hρ i hi.2.1]; exact hi.2.2⟩
      · have := h.low
        have := h.bk.lt
        refine ⟨by omega, by omega, ?_⟩
        rw [hρ']
        simp only
        rw [if_neg (by omega), if_neg hi.2.2]
  · exact hs.own (h.ko2 hf hS (by omega)) (fun i hi e => by have := h.r2 i hi; have := h.rg; rw [show i = g from e] at *; omega)
  · intro k hk hk'
    simp only [List.length_append, List.length_cons, List.length_nil] at hk hk'
    by_cases hkl : k < T.length
    · have hkE : k < E.length := by rw [← h.tl]; exact hkl
      simp only [List.getElem_append, hkl, hkE, dite_true]
      exact hs.own (h.kot hf hS k hkl hkE (by omega)) (fun i hi e => by have := h.rt k hkl i hi; have := h.rg; rw [show i = g from e] at *; omega)
    · have hkE : ¬ k < E.length := by rw [← h.tl]; exact hkl
      have e1 : k - E.length = 0 := by omega
      have e2 : k - T.length = 0 := by omega
      simp only [List.getElem_append, hkl, hkE, dite_false, e1, e2, List.getElem_cons_zero, het]
      exact ⟨rfl, .inl ⟨rfl, rfl⟩⟩
  · intro k hk i hi
    simp only [List.length_append, List.length_cons, List.length_nil] at hk
    by_cases hkl : k < T.length
    · simp only [List.getElem_append, hkl, dite_true] at hi
      exact h.krt hρ k hkl i hi
    · have e2 : k - T.length = 0 := by omega
      simp only [List.getElem_append, hkl, dite_false, e2, List.getElem_cons_zero] at hi
      cases hi

/-- another row of open ones -/
theorem BdV.put2 {v2' : Value} {opn' : List Int} (h : BdV ρ u base g v1 v2 T E opn) (hf : Fr (fun i => v2.ownBlock = some i) u w2) (ho : w2.ownsRow base 3 1 v2' opn'.length (ints opn'))
    (hv : v2'.ownBlock = v2.ownBlock ∨ ∀ i, v2'.ownBlock = some i → u.heap.size ≤ i) : ∃ ρ', BdV ρ' (w2.setCell ⟨g, 1, none⟩ v2') base g v1 v2' T E opn' := by
  obtain ⟨ρ', hρ'⟩ : ∃ ρ' : Nat → Nat, ρ' = fun i => if i < u.heap.size then ρ i else 3 := ⟨_, rfl⟩
  have hρ : ∀ i, i < u.heap.size → ρ' i = ρ i := fun i hi => by rw [hρ']; exact if_pos hi
  have hs : Fr (Just g) w2 (w2.setCell ⟨g, 1, none⟩ v2') := (Fr.refl (Just g) w2).setCell (p := ⟨g, 1, none⟩) (.inl (Just.at g)) _
  have hS : ∀ i, base ≤ i → i < u.heap.size → v2.ownBlock = some i → ρ i = 3 := fun i _ _ e => h.r2 i e
  have hgg : ¬ (v2.ownBlock = some g) := fun e => by have := h.r2 g e; have := h.rg; omega
  have hb : Bk w2 g 43 [v1, v2] := h.kbk hf hS (by omega)
  have hvg : v2'.ownBlock ≠ some g := by
    intro e
    rcases hv with hv | hv
    · exact hgg (by rw [← hv]; exact e)
    · have := hv g e; have := h.bk.lt; omega
  have hrv : ∀ i, v2'.ownBlock = some i → ρ' i = 3 := by
    intro i e
    rcases hv with hv | hv
    · rw [hv] at e; exact h.kr2 hρ i e
    · have := hv i e
      rw [hρ']
      simp only
      rw [if_neg (by omega)]
  have hzz := hs.size
  have hzu := hf.size
  refine ⟨ρ', hb.set_ 1 v2', h.low, h.krg hρ, ?_, h.kr1 hρ, hs.own ho (fun i hi e => hvg (by rw [show g = i from e.symm]; exact hi)), hrv, h.tl, ?_, fun k hk => h.krt hρ k hk⟩
  · refine ((h.ko1 (ρ' := ρ') hf hS hρ (by omega) (by omega)).fr elm_ok hs (fun i hi e => ?_) (fun i hi e => ?_)).mono elm_ok (fun i hi => ⟨hi.1, by have := hi.2.1; omega, hi.2.2⟩)
    · have := hi.2.2; have := h.krg hρ; rw [show i = g from e] at *; omega
    · have := h.r1 i hi; have := h.rg; rw [show i = g from e] at *; omega
  · intro k hk hk'
    exact hs.own (h.kot hf hS k hk hk' (by omega)) (fun i hi e => by have := h.rt k hk i hi; have := h.rg; rw [show i = g from e] at *; omega)

/-- a cell of one element -/
theorem BdV.at_ (h : BdV ρ u base g v1 v2 T E opn) {k : Nat} (hk : k < E.length) : ∃ b1 c1 X A n c, v1 = .slice (some ⟨b1, 0, none⟩) E.length c1 ∧ base ≤ b1 ∧ b1 < u.heap.size ∧ ρ b1 = 2 ∧ (∀ j x, [Value.int .i64 E[k].nod.parent, .string X, .string ⟨#[]⟩, .slice A n c, T[k]'(by rw [h.tl]; exact hk), .bool E[k].fil][j]? = some x → u.cell? ⟨b1, k * 6 + j, none⟩ = some x ∧ u.frozen? ⟨b1, k * 6 + j, none⟩ = false) ∧
    X.data.toList = E[k].nod.name ∧ RdI 2 AttrI u (AtB ρ u base) A n c E[k].nod.attrs := by
  obtain ⟨ys, ho, hi⟩ := h.o1.xs
  have hkT : k < T.length := by rw [h.tl]; exact hk
  have hkz : k < (E.zip T).length := by rw [List.length_zip]; omega
  have hat := ItemsF.at_ elm_ok hi k hkz
  obtain ⟨X, A, n, c, hcs, hX, hA, _⟩ := hat
  simp only [List.getElem_zip] at hcs hX hA
  obtain ⟨b1, c1, e1, hb, hlt, hnc, _⟩ := own_some ho (by omega)
  refine ⟨b1, c1, X, A, n, c, e1, hb, hlt, h.r1 b1 (by rw [e1]; rfl), fun j x hj => ?_, hX, hA⟩
  rw [e1] at ho
  rw [← hcs, List.getElem?_take] at hj
  split at hj
  · rw [List.getElem?_drop] at hj
    exact own_cellS ho hj
  · cases hj
theorem zip_set_left (E : List Elm) (T : List Value) (k : Nat) (e : Elm) (hk : k < E.length) (hT : k < T.length) : (E.zip T).set k (e, T[k]) = (E.set k e).zip T := by
  apply List.ext_getElem?
  intro j
  simp only [List.getElem?_set, List.zip_eq_zipWith, List.getElem?_zipWith]
  by_cases hj : k = j
  · subst hj
    simp [hk, hT]
    omega
  · simp [hj]
theorem zip_set_both (E : List Elm) (T : List Value) (k : Nat) (e : Elm) (v : Value) (hk : k < E.length) (hT : k < T.length) : (E.zip T).set k (e, v) = (E.set k e).zip (T.set k v) := by
  apply List.ext_getElem?
  intro j
  simp only [List.getElem?_set, List.zip_eq_zipWith, List.getElem?_zipWith]
  by_cases hj : k = j
  · subst hj
    simp [hk, hT]
    omega
  · simp [hj]
/-- there are elements in it -/
theorem BdV.setFil {b1 c1 k : Nat} (h : BdV ρ u base g (.slice (some ⟨b1, 0, none⟩) E.length c1) v2 T E opn) (hk : k < E.length) :
    BdV ρ (u.setCell ⟨b1, k * 6 + 5, none⟩ (.bool true)) base g (.slice (some ⟨b1, 0, none⟩) E.length c1) v2 T (E.set k { E[k] with fil := true }) opn := by
  have hr1 : ρ b1 = 2 := h.r1 b1 rfl
  have hs : Fr (Just b1) u (u.setCell ⟨b1, k * 6 + 5, none⟩ (.bool true)) := (Fr.refl (Just b1) u).setCell (p := ⟨b1, k * 6 + 5, none⟩) (.inl (Just.at b1)) _
  have hS : ∀ i, base ≤ i → i < u.heap.size → Just b1 i → ρ i = 2 := fun i _ _ e => by rw [show i = b1 from e]; exact hr1
  have hkT : k < T.length := by rw [h.tl]; exact hk
  obtain ⟨ys, ho, hi⟩ := h.o1.xs
  refine ⟨h.kbk hs hS (by omega), h.low, h.rg, ?_, h.r1, h.ko2 hs hS (by omega), h.r2, by simp [h.tl], ?_, h.rt⟩
  · simp only [List.length_set]
    refine ⟨ys.set (k * 6 + 5) (.bool true), own_setS ho (by omega) _, ?_⟩
    rw [← zip_set_left E T k _ hk hkT]
    have hi2 : ItemsF ElmI (u.setCell ⟨b1, k * 6 + 5, none⟩ (.bool true)) (AtB ρ (u.setCell ⟨b1, k * 6 + 5, none⟩ (.bool true)) base) ys (E.zip T) :=
      ItemsF.mono elm_ok (ItemsF.fr elm_ok hi hs (fun i hi e => by have := hi.2.2; rw [show i = b1 from e] at this; omega)) (fun i hi => ⟨hi.1, Nat.lt_of_lt_of_le hi.2.1 hs.size, hi.2.2⟩)
    refine ItemsF.setAt elm_ok hi2 k 5 (by rw [List.length_zip]; omega) (by omega) _ _ ?_
    rintro cs ⟨X, A, n, c, rfl, hX, hA, h1⟩
    simp only [List.getElem_zip] at hX hA h1 ⊢
    exact ⟨X, A, n, c, rfl, hX, hA, h1⟩
  · intro j hj hj'
    have hj2 : j < E.length := by simpa using hj'
    have e1 : (E.set k { E[k] with fil := true })[j].txt = E[j].txt := by
      rw [List.getElem_set]
      split
      · rename_i e; subst e; rfl
      · rfl
    rw [e1]
    exact h.kot hs hS j hj hj2 (by omega)
/-- other texts of one element -/
theorem BdV.setTxt {b1 c1 k : Nat} {tv : Value} {txt' : List UInt8} (h : BdV ρ u base g (.slice (some ⟨b1, 0, none⟩) E.length c1) v2 T E opn) (hk : k < E.length) (hkT : k < T.length) (hf : Fr (fun i => T[k].ownBlock = some i) u w2)
    (ho : w2.ownsRow base 5 1 tv txt'.length (u8s txt')) (hv : tv.ownBlock = T[k].ownBlock ∨ ∀ i, tv.ownBlock = some i → u.heap.size ≤ i) (h1 : tv.oneCell' = true) :
    ∃ ρ', BdV ρ' (w2.setCell ⟨b1, k * 6 + 4, none⟩ tv) base g (.slice (some ⟨b1, 0, none⟩) E.length c1) v2 (T.set k tv) (E.set k { E[k] with txt := txt' }) opn := by
  obtain ⟨ρ', hρ'⟩ : ∃ ρ' : Nat → Nat, ρ' = fun i => if i < u.heap.size then ρ i else 4 + k := ⟨_, rfl⟩
  have hρ : ∀ i, i < u.heap.size → ρ' i = ρ i := fun i hi => by rw [hρ']; exact if_pos hi
  have hr1 : ρ b1 = 2 := h.r1 b1 rfl
  have hb1 := h.o1.lt b1 rfl
  have hr1' : ρ' b1 = 2 := by rw [hρ b1 hb1.2]; exact hr1
  have hs : Fr (Just b1) w2 (w2.setCell ⟨b1, k * 6 + 4, none⟩ tv) := (Fr.refl (Just b1) w2).setCell (p := ⟨b1, k * 6 + 4, none⟩) (.inl (Just.at b1)) _
  have hS : ∀ i, base ≤ i → i < u.heap.size → T[k].ownBlock = some i → ρ i = 4 + k := fun i _ _ e => h.rt k hkT i e
  have hrv : ∀ i, tv.ownBlock = some i → ρ' i = 4 + k := by
    intro i e
    rcases hv with hv | hv
    · rw [hv] at e; exact h.krt hρ k hkT i e
    · have := hv i e
      rw [hρ']
      simp only
      rw [if_neg (by omega)]
  have hzz := hs.size
  have hzu := hf.size
  have hglt := h.bk.lt
  have hw2 : ∀ i, i < u.heap.size → ∀ r, ρ' i = r → r ≠ 2 → ¬ Just b1 i := fun i hi r hr h2 e => by rw [show i = b1 from e] at hr; omega
  refine ⟨ρ', (h.kbk hf hS (by omega)).fr hs (hw2 g hglt 1 (h.krg hρ) (by omega)), h.low, h.krg hρ, ?_, h.kr1 hρ, hs.own (h.ko2 hf hS (by omega)) (fun i hi => hw2 i (h.o2.lt i hi).2 3 (h.kr2 hρ i hi) (by omega)), h.kr2 hρ, by simp [h.tl], ?_, ?_⟩
  · simp only [List.length_set]
    obtain ⟨ys, ho1, hi⟩ := (h.ko1 (ρ' := ρ') hf hS hρ (by omega) (by omega)).xs
    refine ⟨ys.set (k * 6 + 4) tv, own_setS ho1 (by omega) _, ?_⟩
    rw [← zip_set_both E T k _ _ hk hkT]
    have hi2 : ItemsF ElmI (w2.setCell ⟨b1, k * 6 + 4, none⟩ tv) (AtB ρ' (w2.setCell ⟨b1, k * 6 + 4, none⟩ tv) base) ys (E.zip T) :=
      ItemsF.mono elm_ok (ItemsF.fr elm_ok hi hs (fun i hi e => by have := hi.2.2; rw [show i = b1 from e] at this; omega)) (fun i hi => ⟨hi.1, Nat.lt_of_lt_of_le hi.2.1 hs.size, hi.2.2⟩)
    refine ItemsF.setAt elm_ok hi2 k 4 (by rw [List.length_zip]; omega) (by omega) _ _ ?_
    rintro cs ⟨X, A, n, c, rfl, hX, hA, _⟩
    simp only [List.getElem_zip] at hX hA ⊢
    exact ⟨X, A, n, c, rfl, hX, hA, h1⟩
  · intro j hj hj'
    have hj2 : j < E.length := by simpa using hj'
    have hjT : j < T.length := by simpa using hj
    by_cases hjk : k = j
    · subst hjk
      simp only [List.getElem_set_self]
      refine hs.own ho (fun i hi e => ?_)
      have := hrv i hi
      rw [show i = b1 from e] at this
      omega
    · simp only [List.getElem_set, hjk, if_false]
      exact hs.own (h.kot hf hS j hjT hj2 (by omega)) (fun i hi => hw2 i ((h.ot j hjT hj2).lt i hi).2 (4 + j) (h.krt hρ j hjT i hi) (by omega))
  · intro j hj i hi
    have hjT : j < T.length := by simpa using hj
    by_cases hjk : k = j
    · subst hjk
      simp only [List.getElem_set_self] at hi
      exact hrv i hi
    · simp only [List.getElem_set, hjk, if_false] at hi
      exact h.krt hρ j hjT i hi
end
end Go.Proofs.YthkjmbkfcnehoaaGreatDoor
/- What strings.Trim leaves nothing of: plain functions on lists of bytes, no program. -/
namespace Go.Proofs.YthkjmbkfcnehoaaGreatDoor
set_option linter.unusedVariables false

theorem drop_while_nil (q : UInt8 → Bool) : ∀ l : List UInt8, l.dropWhile q = [] ↔ l.all q = true
  | [] => by simp
  | c :: r => by
    rw [List.dropWhile_cons, List.all_cons]
    cases h : q c with
    | true => simpa using drop_while_nil q r
    | false => simp
theorem trim_nil (l cs : List UInt8) : (Lib.trimS l cs = []) ↔ l.all (fun c => cs.contains c) = true := by
  obtain ⟨q, hq⟩ : ∃ q : UInt8 → Bool, (fun c : UInt8 => cs.contains c) = q := ⟨_, rfl⟩
  unfold Lib.trimS Lib.trimLeftS Lib.trimRightS
  rw [hq, drop_while_nil]
  have hrev : l.all q = l.reverse.all q := by rw [List.all_reverse]
  constructor
  · intro h
    rw [List.all_reverse] at h
    rw [hrev, ← drop_while_nil]
    cases hd : l.reverse.dropWhile q with
    | nil => rfl
    | cons c r =>
      rw [hd, List.all_cons] at h
      have h2 := List.head?_dropWhile_not q l.reverse
      rw [hd] at h2
      simp only [List.head?_cons] at h2
      simp [h2] at h
  · intro h
    rw [hrev, ← drop_while_nil] at h
    rw [h]
    rfl
theorem index_in (c : UInt8) : ∀ l : List UInt8, (0 ≤ Lib.indexByte l c) ↔ l.contains c = true
  | [] => by simp [Lib.indexByte]
  | b :: l => by
    have ih := index_in c l
    have hg := Lib.indexByte_ge l c
    unfold Lib.indexByte
    rw [List.contains_cons]
    by_cases hb : b = c
    · subst hb; simp
    · have h1 : (b == c) = false := by simpa using hb
      have h2 : (c == b) = false := by simpa using fun e : c = b => hb e.symm
      rw [h1, h2, Bool.false_or, ← ih]
      simp only [Bool.false_eq_true, if_false]
      split
      · rename_i h
        have : Lib.indexByte l c = -1 := by simpa using h
        rw [this]
      · rename_i h
        have : ¬ Lib.indexByte l c = -1 := by simpa using h
        omega
end Go.Proofs.YthkjmbkfcnehoaaGreatDoor
/- The program's builder of trees: the innermost one that is open, blanks, what a Close does. -/
namespace Go.Proofs.YthkjmbkfcnehoaaGreatDoor
open Go.RowKit
set_option maxHeartbeats 400000
set_option linter.unusedVariables false

variable {ρ : Nat → Nat} {w : World} {base g : Nat} {v1 v2 : Value} {T : List Value} {E : List Elm} {opn : List Int}
theorem BdV.none_ (h : BdV ρ w base g v1 v2 T E []) : ∃ A2 c2, v2 = .slice A2 0 c2 := by
  obtain ⟨A, c, e, hr, _⟩ := Rd.of_own h.o2
  exact ⟨A, c, e⟩
theorem BdV.top {k : Nat} {r : List Int} (h : BdV ρ w base g v1 v2 T E (r ++ [(k : Int)])) : ∃ b2 c2, v2 = .slice (some ⟨b2, 0, none⟩) (r.length + 1) c2 ∧ w.cell? ⟨b2, r.length, none⟩ = some (.int .i64 (k : Int)) ∧ r.length + 1 ≤ 9223372036854775807 ∧ r.length + 1 ≤ c2 := by
  have h2 := h.o2
  have hl : (r ++ [(k : Int)]).length = r.length + 1 := by simp
  rw [hl] at h2
  obtain ⟨b2, c2, rfl, _, hnc, hc, _⟩ := own_open h2 (by omega)
  obtain ⟨A, n, c, hr⟩ := Rd.of_own h2
  injection c with c1 c2' c3
  have := hr.1.max
  have := hr.1.cap
  simp only [maxLen] at *
  exact ⟨b2, c2, rfl, hc r.length _ (by simp [ints]), by omega, hnc⟩
theorem BdV.len1 (h : BdV ρ w base g v1 v2 T E opn) : ∃ A1 c1, v1 = .slice A1 E.length c1 ∧ E.length ≤ c1 := by
  obtain ⟨ys, ho, _⟩ := h.o1.xs
  obtain ⟨A, c, e, hr, _⟩ := RdS.of_own ho
  exact ⟨A, c, e, hr.cap⟩
theorem top_casesP (p : Pst) (h : ParOk p) : (p.opn = [] ∧ topP p = -1) ∨ (∃ (k : Nat) (r : List Int), p.opn = r ++ [(k : Int)] ∧ topP p = (k : Int) ∧ k < p.E.length) := by
  rcases List.eq_nil_or_concat p.opn with h0 | ⟨r, x, h1⟩
  · exact .inl ⟨h0, by unfold topP; rw [h0]; rfl⟩
  · right
    rw [List.concat_eq_append] at h1
    have hx := h.2 x (by rw [h1]; simp)
    obtain ⟨k, rfl⟩ := Int.eq_ofNat_of_zero_le hx.1
    refine ⟨k, r, h1, ?_, by omega⟩
    unfold topP
    rw [h1]
    simp

/-- one's own row, cut at its end -/
theorem own_cut {w : World} {base : Nat} {e : TypeId} {b n c : Nat} {xs : List Int} {x : Int} (h : w.ownsRow base e 1 (.slice (some ⟨b, 0, none⟩) (n + 1) c) (xs ++ [x]).length (ints (xs ++ [x]))) : w.ownsRow base e 1 (.slice (some ⟨b, 0, none⟩) n c) xs.length (ints xs) := by
  rcases h.2 with ⟨e1, _⟩ | ⟨g', cap', cur, e1, hb, hg, hnc, hm, hc, ht⟩
  · cases e1
  · injection e1 with e1 e2 e3
    simp only [List.length_append, List.length_cons, List.length_nil] at e2 hnc ht
    have e2 : n = xs.length := by omega
    refine ⟨by simp [ints], .inr ⟨g', cap', cur, by rw [e1, e2, e3], hb, hg, by omega, hm, hc, ?_⟩⟩
    have h2 : (ints (xs ++ [x])).take xs.length = ints xs := by
      simp [ints]
    rw [← h2, ← ht, List.take_take]
    congr 1
    omega
theorem b_inner (p : Pst) (hp : ParOk p) (hB : BdV ρ w base g v1 v2 T p.E p.opn) : Calls Tryz.prog 48 #[.pointer (some ⟨g, 0, none⟩)] w fun e w' => e = .returned (.int .i64 (topP p)) ∧ Dr w w' := by
  have c1 : w.cell? ⟨g, 1, none⟩ = some v2 := hB.bk.cell 1
  rcases top_casesP p hp with ⟨h0, ht⟩ | ⟨k, r, hr, ht, hkl⟩
  · rw [h0] at hB
    obtain ⟨A2, c2, rfl⟩ := hB.none_
    rw [ht]
    clear h0 ht hB hp
    go_enter Tryz.func48, Tryz.ntmps48
    go_wp2
    go_ret
    exact ⟨rfl, Dr.refl _⟩
  · rw [hr] at hB
    obtain ⟨b2, c2, rfl, ct, hrl, hrc⟩ := hB.top
    rw [ht]
    have hwr : IntKind.i64.wrap (r.length : Int) = (r.length : Int) := IntWalk.i64_in _ ⟨by omega, by omega⟩
    clear hr ht hB hp hkl
    go_enter Tryz.func48, Tryz.ntmps48
    go_wp2
    go_quiet (fail)
    go_wp2
    go_ret
    exact ⟨rfl, ⟨_, rfl⟩⟩

theorem bl_eq (c : UInt8) : [9, 10, 13, 32].contains c = isBl c := by
  unfold isBl
  have h : ∀ d : UInt8, (c == d) = decide (c.toNat = d.toNat) := fun d => by
    by_cases hc : c = d
    · subst hc; simp
    · have : c.toNat ≠ d.toNat := fun e => hc (UInt8.toNat_inj.1 e)
      simp [hc, this]
  simp only [List.contains, List.elem, h]
  by_cases h1 : c.toNat = 9 <;> by_cases h2 : c.toNat = 10 <;> by_cases h3 : c.toNat = 13 <;> by_cases h4 : c.toNat = 32 <;> simp_all
theorem trim_blank (l : List UInt8) : (Lib.trimS l [9, 10, 13, 32] = []) ↔ blankB l = true := by
  have hq : (fun c : UInt8 => [9, 10, 13, 32].contains c) = isBl := funext bl_eq
  unfold Lib.trimS Lib.trimLeftS Lib.trimRightS blankB
  rw [hq, drop_while_nil]
  have hrev : l.all isBl = l.reverse.all isBl := by rw [List.all_reverse]
  constructor
  · intro h
    rw [List.all_reverse] at h
    rw [hrev, ← drop_while_nil]
    cases hd : l.reverse.dropWhile isBl with
    | nil => rfl
    | cons c r =>
      rw [hd, List.all_cons] at h
      have h2 := List.head?_dropWhile_not isBl l.reverse
      rw [hd] at h2
      simp only [List.head?_cons] at h2
      simp [h2] at h
  · intro h
    rw [hrev, ← drop_while_nil] at h
    rw [h]
    rfl
theorem b_blank (S : ByteArray) (w : World) (hs : S.size ≤ 9223372036854775806) : Calls Tryz.prog 32 #[.string S] w fun e w' => e = .returned (.bool (blankB S.data.toList)) ∧ Fr No w w' := by
  have hcon := Tryz.strings_Trim S ⟨#[9, 10, 13, 32]⟩ w (by omega) (by decide) (ascii_of_all (by decide))
  obtain ⟨R, hR⟩ : ∃ R : ByteArray, R = ⟨(Lib.trimS S.data.toList [9, 10, 13, 32]).toArray⟩ := ⟨_, rfl⟩
  have hc2 : Calls Tryz.prog 49 #[.string S, .string ⟨#[9, 10, 13, 32]⟩] w fun e w' => e = .returned (.string R) ∧ Below w.heap.size w w' := by rw [hR]; exact hcon
  have hb : (R.toList == []) = blankB S.data.toList := by
    rw [ba_list, hR]
    show (Lib.trimS S.data.toList [9, 10, 13, 32] == []) = _
    cases h : blankB S.data.toList with
    | true => rw [(trim_blank _).2 h]; rfl
    | false =>
      rw [beq_eq_false_iff_ne]
      intro e
      rw [(trim_blank _).1 e] at h
      cases h
  have HC := Lib.hid hc2
  clear hcon hR hc2
  go_enter Tryz.func32, Tryz.ntmps32
  go_wp2_with (go_at_call 49; refine HC.out.mono ?_; rintro e w1 ⟨rfl, hf⟩)
  go_ret
  exact ⟨rfl, Fr.of_below hf⟩

/-- what a step leaves -/
def StepTo (p : Pst) (t : Tok) (base g : Nat) (w : World) (e : Ending) (w' : World) : Prop :=
  e = .returned (.int .i64 (takeE (toG p) t)) ∧ Fr (fun i => base ≤ i) w w' ∧ (takeE (toG p) t = 0 → BdT w' base g (stepP p t))
set_option maxRecDepth 20000 in
theorem b_closing (K : Int) (X Y : ByteArray) (A : Option Addr) (n c : Nat) (em : Bool) (t : Tok) (p : Pst) (hp : ParOk p) (hB : BdV ρ w base g v1 v2 T p.E p.opn) (hk : t.kind = 2) (hX : X.data.toList = t.name) (hl : p.E.length ≤ 500) :
    Calls Tryz.prog 29 #[.pointer (some ⟨g, 0, none⟩), .agg #[.int .i64 K, .string X, .string Y, .slice A n c, .bool em]] w (StepTo p t base g w) := by
  unfold StepTo
  rcases top_casesP p hp with ⟨h0, ht⟩ | ⟨k, r, hr, ht, hkl⟩
  · have hE : takeE (toG p) t = 10 := by unfold takeE; rw [if_neg (by omega), if_pos hk, if_pos (.inl (by rw [← topP_eq]; omega))]
    have HB := Lib.hid hB
    rw [hE]
    have hin := fun u (hu : BdV ρ u base g v1 v2 T p.E p.opn) => b_inner p hp hu
    rw [ht] at hin
    have HI := Lib.hid hin
    clear h0 ht hB hp hE hin hk
    go_enter Tryz.func29, Tryz.ntmps29
    go_wp2_with (go_at_call 48; refine (HI.out _ (HB.out.no ((Fr.refl No w).alloc _))).mono ?_; rintro e w1 ⟨rfl, hd1⟩)
    go_quiet (fail)
    go_wp2
    go_ret
    exact ⟨rfl, (((Fr.refl _ w).alloc _).dr hd1).drewN _, fun e => by cases e⟩
  · rw [hr] at hB
    obtain ⟨b2, c2, rfl, ct, hrl, hrc⟩ := hB.top
    obtain ⟨b1, d1, Z, A1, n1, c1, rfl, _, _, _, hcl, hZ, _⟩ := hB.at_ hkl
    have cn := (hcl 1 _ rfl).1
    obtain ⟨A1', d1', e1, hd1⟩ := hB.len1
    injection e1 with e1 _ e3
    subst e3
    clear e1 A1'
    have hT : nameAt (toG p).l (topG (toG p)) = Z.data.toList := by
      rw [← topP_eq, ht]
      unfold nameAt toG
      simp only [Int.toNat_natCast, List.getElem?_map, List.getElem?_eq_getElem hkl, Option.map_some, Option.getD_some, hZ]
    have htG : topG (toG p) = (k : Int) := ht
    have hin := fun u (hu : BdV ρ u base g (.slice (some ⟨b1, 0, none⟩) p.E.length d1) (.slice (some ⟨b2, 0, none⟩) (r.length + 1) c2) T p.E p.opn) => b_inner p hp hu
    rw [hr, ht] at hin
    by_cases hne : Z.data.toList = X.data.toList
    · have hE : takeE (toG p) t = 0 := by unfold takeE; rw [if_neg (by omega), if_pos hk, if_neg]; rintro (h | h); omega; exact h (by rw [hT, hne, hX])
      have hb : (Z.toList == X.toList) = true := by rw [beq_iff_eq, ba_list, ba_list]; exact hne
      have hS : stepP p t = ⟨p.E, r⟩ := by unfold stepP; rw [if_neg (by omega), if_pos hk, hr]; simp
      rw [hE, hS]
      have hkI : (k : Int) < (p.E.length : Int) := by omega
      have hk1 : ((k : Int) == -1) = false := by rw [beq_eq_false_iff_ne]; omega
      have hwr : IntKind.i64.wrap (r.length : Int) = (r.length : Int) := IntWalk.i64_in _ ⟨by omega, by omega⟩
      have e4 : (r.length : Int) ≤ (c2 : Int) := by omega
      have e5 : (0 : Int) ≤ (r.length : Int) := by omega
      have HI := Lib.hid hin; have HB := Lib.hid hB; have CN := Lib.hid cn
      clear hE hT htG hk hne hZ hX hr ht hp hB cn ct hcl hin hS
      go_enter Tryz.func29, Tryz.ntmps29
      go_wp2_with (go_at_call 48; refine (HI.out _ (HB.out.no ((Fr.refl No w).alloc _))).mono ?_; rintro e w1 ⟨rfl, hd1⟩; have B1 := HB.out.no (((Fr.refl No w).alloc _).dr hd1); have TB := (Bk.new w _ _).no hd1.fr; have dx : w1.cell? ⟨w.heap.size, 1, none⟩ = some (.string X) := TB.cell 1; have cn := (((Fr.refl No w).alloc _).dr hd1).cell CN.out (fun x => x); have d0 : w1.cell? ⟨g, 0, none⟩ = some _ := B1.bk.cell 0)
      go_quiet (fail)
      go_wp2
      go_name_world u3 hu3
      have hdu : Dr w1 u3 := by rw [← hu3]; exact (Dr.refl w1).drewN _
      clear hu3
      refine wp_region_reads 14 (by kernel_rfl) (by kernel_rfl) ?_
      intro u4 hd4
      simp only [List.take_succ_cons, List.take_zero, List.drop_succ_cons, List.drop_zero]
      have hd : Dr w1 u4 := hdu.trans hd4
      have B4 := B1.no hd.fr
      have d1 : u4.cell? ⟨g, 1, none⟩ = some _ := B4.bk.cell 1
      have z1 := B4.bk.frozen 1
      repeat still_step
      refine wpStill_nil ?_
      go_wp2
      go_ret
      refine ⟨rfl, ((((Fr.refl _ w).alloc _).dr hd1).dr hd).setCell (p := ⟨g, 1, none⟩) (.inl B1.low) _, fun _ => ?_⟩
      have ho : u4.ownsRow base 3 1 (.slice (some ⟨b2, 0, none⟩) r.length c2) r.length (ints r) := own_cut B4.o2
      obtain ⟨ρ', h'⟩ := B4.put2 (v2' := .slice (some ⟨b2, 0, none⟩) r.length c2) (opn' := r) (Fr.refl _ u4) ho (.inl rfl)
      exact ⟨ρ', _, _, T, h'⟩
    · have hE : takeE (toG p) t = 10 := by unfold takeE; rw [if_neg (by omega), if_pos hk, if_pos]; exact .inr (fun h => hne (by rw [← hT, h, hX]))
      have hb : (Z.toList == X.toList) = false := by rw [beq_eq_false_iff_ne, ba_list, ba_list]; exact hne
      rw [hE]
      have hkI : (k : Int) < (p.E.length : Int) := by omega
      have hk1 : ((k : Int) == -1) = false := by rw [beq_eq_false_iff_ne]; omega
      have HI := Lib.hid hin; have HB := Lib.hid hB; have CN := Lib.hid cn
      clear hE hT htG hk hne hZ hX hr ht hp hB cn ct hcl hin
      go_enter Tryz.func29, Tryz.ntmps29
      go_wp2_with (go_at_call 48; refine (HI.out _ (HB.out.no ((Fr.refl No w).alloc _))).mono ?_; rintro e w1 ⟨rfl, hd1⟩; have B1 := HB.out.no (((Fr.refl No w).alloc _).dr hd1); have TB := (Bk.new w _ _).no hd1.fr; have dx : w1.cell? ⟨w.heap.size, 1, none⟩ = some (.string X) := TB.cell 1; have cn := (((Fr.refl No w).alloc _).dr hd1).cell CN.out (fun x => x); have d0 : w1.cell? ⟨g, 0, none⟩ = some _ := B1.bk.cell 0)
      go_quiet (fail)
      go_wp2
      go_ret
      exact ⟨rfl, (((Fr.refl _ w).alloc _).dr hd1).drewN _, fun e => by cases e⟩
end Go.Proofs.YthkjmbkfcnehoaaGreatDoor
/- The program's builder of trees: what a Text does. -/
namespace Go.Proofs.YthkjmbkfcnehoaaGreatDoor
open Go.RowKit
set_option maxHeartbeats 400000
set_option linter.unusedVariables false

variable {ρ : Nat → Nat} {w : World} {base g : Nat} {v1 v2 : Value} {T : List Value} {E : List Elm} {opn : List Int}
set_option maxRecDepth 20000 in
theorem b_text (K : Int) (X Y : ByteArray) (A : Option Addr) (n c : Nat) (em : Bool) (t : Tok) (p : Pst) (hp : ParOk p) (hB : BdV ρ w base g v1 v2 T p.E p.opn) (hk : t.kind = 3) (hY : Y.data.toList = t.text) (hys : Y.size ≤ 9223372036854775806) (hl : p.E.length ≤ 500) (hsz : ∀ e ∈ p.E, e.txt.length + Y.size ≤ 1000000000) :
    Calls Tryz.prog 30 #[.pointer (some ⟨g, 0, none⟩), .agg #[.int .i64 K, .string X, .string Y, .slice A n c, .bool em]] w (StepTo p t base g w) := by
  unfold StepTo
  rcases top_casesP p hp with ⟨h0, ht⟩ | ⟨k, r, hr, ht, hkl⟩
  · have hin := fun u (hu : BdV ρ u base g v1 v2 T p.E p.opn) => b_inner p hp hu
    rw [ht] at hin
    have hS : stepP p t = p := by unfold stepP; rw [if_neg (by omega), if_neg (by omega), if_pos (by omega)]
    rw [hS]
    have hbk := fun u => b_blank Y u hys
    rw [hY] at hbk
    have htG : topG (toG p) = -1 := ht
    cases hbl : blankB t.text with
    | true =>
      have hE : takeE (toG p) t = 0 := by unfold takeE; rw [if_neg (by omega), if_neg (by omega), if_pos hk, if_neg]; rintro ⟨_, h⟩; exact h hbl
      rw [hE]
      rw [hbl] at hbk
      have HB := Lib.hid hB; have HI := Lib.hid hin; have HK := Lib.hid hbk
      clear h0 ht hB hp hE hin hk hbk htG hS hY hbl
      go_enter Tryz.func30, Tryz.ntmps30
      go_wp2_with (first
        | (go_at_call 48; refine (HI.out _ (HB.out.no ((Fr.refl No w).alloc _))).mono ?_; rintro e w1 ⟨rfl, hd1⟩; have TB := (Bk.new w _ _).no hd1.fr; have dy : w1.cell? ⟨w.heap.size, 2, none⟩ = some (.string Y) := TB.cell 2)
        | (go_at_call 32; refine (HK.out _).mono ?_; rintro e w2 ⟨rfl, hf2⟩))
      go_ret
      have hf : Fr No w w2 := (((Fr.refl _ w).alloc _).dr hd1).trans hf2
      exact ⟨rfl, hf.no, fun _ => ⟨ρ, v1, v2, T, HB.out.no hf⟩⟩
    | false =>
      have hE : takeE (toG p) t = 10 := by unfold takeE; rw [if_neg (by omega), if_neg (by omega), if_pos hk, if_pos]; exact ⟨by omega, by rw [hbl]; exact fun h => by cases h⟩
      rw [hE]
      rw [hbl] at hbk
      have HB := Lib.hid hB; have HI := Lib.hid hin; have HK := Lib.hid hbk
      clear h0 ht hB hp hE hin hk hbk htG hS hY hbl
      go_enter Tryz.func30, Tryz.ntmps30
      go_wp2_with (first
        | (go_at_call 48; refine (HI.out _ (HB.out.no ((Fr.refl No w).alloc _))).mono ?_; rintro e w1 ⟨rfl, hd1⟩; have TB := (Bk.new w _ _).no hd1.fr; have dy : w1.cell? ⟨w.heap.size, 2, none⟩ = some (.string Y) := TB.cell 2)
        | (go_at_call 32; refine (HK.out _).mono ?_; rintro e w2 ⟨rfl, hf2⟩))
      go_ret
      have hf : Fr No w w2 := (((Fr.refl _ w).alloc _).dr hd1).trans hf2
      exact ⟨rfl, hf.no, fun e => by cases e⟩
  · rw [hr] at hB
    obtain ⟨b1, d1, Z, A1, n1, c1, rfl, hb1, hb1l, _, hcl, _⟩ := hB.at_ hkl
    obtain ⟨A1', d1', e1, hd1⟩ := hB.len1
    injection e1 with e1 _ e3
    subst e3
    clear e1 A1'
    have hkT : k < T.length := by rw [hB.tl]; exact hkl
    have hin := fun u (hu : BdV ρ u base g (.slice (some ⟨b1, 0, none⟩) p.E.length d1) v2 T p.E p.opn) => b_inner p hp hu
    rw [hr, ht] at hin
    have htG : topG (toG p) = (k : Int) := ht
    have hE : takeE (toG p) t = 0 := by unfold takeE; rw [if_neg (by omega), if_neg (by omega), if_pos hk, if_neg]; rintro ⟨h, _⟩; omega
    have hS : stepP p t = ⟨p.E.set k { p.E[k] with txt := p.E[k].txt ++ Y.data.toList }, r ++ [(k : Int)]⟩ := by
      unfold stepP
      rw [if_neg (by omega), if_neg (by omega), if_neg (by omega), ht, Int.toNat_natCast, hr, ← hY, modify_set _ _ _ hkl]
    rw [hE, hS]
    have hot := hB.ot k hkT hkl
    obtain ⟨AT, cT, hTv, hrT, _⟩ := Rd.of_own hot
    have hks := hsz _ (List.getElem_mem hkl)
    have c4 := (hcl 4 _ rfl).1
    rw [hTv] at c4
    have hkI : (k : Int) < (p.E.length : Int) := by omega
    have hk0 : (0 : Int) ≤ (k : Int) := by omega
    have hk1 : ((k : Int) == -1) = false := by rw [beq_eq_false_iff_ne]; omega
    have HI := Lib.hid hin; have HB := Lib.hid hB; have C4 := Lib.hid c4; have HTV := Lib.hid hTv
    clear hE htG hk hY hr ht hp hB c4 hcl hin hS hTv hrT hot hsz
    go_enter Tryz.func30, Tryz.ntmps30
    go_wp2_with (first
        | (go_at_call 48; refine (HI.out _ (HB.out.no ((Fr.refl No w).alloc _))).mono ?_; rintro e w1 ⟨rfl, hd1⟩; have B1 := HB.out.no (((Fr.refl No w).alloc _).dr hd1); have TB := (Bk.new w _ _).no hd1.fr; have dy : w1.cell? ⟨w.heap.size, 2, none⟩ = some (.string Y) := TB.cell 2; have d0 : w1.cell? ⟨g, 0, none⟩ = some _ := B1.bk.cell 0; have d4 := (((Fr.refl No w).alloc _).dr hd1).cell C4.out (fun x => x); have hw1 : w.heap.size ≤ w1.heap.size := (((Fr.refl No w).alloc _).dr hd1).size))
    have hot1 := B1.ot k hkT hkl
    have hrt1 := B1.rt k hkT
    have z4 : w1.frozen? ⟨b1, k * 6 + 4, none⟩ = false := by obtain ⟨_, _, _, _, _, _, e, _, _, _, hcl, _⟩ := B1.at_ hkl; injection e with e; injection e with e; injection e with e; subst e; exact (hcl 4 _ rfl).2
    rw [HTV.out] at hot1 hrt1
    have hb1w : b1 < w1.heap.size := by omega
    have hr2 : ρ b1 = 2 := B1.r1 b1 rfl
    have hrg := B1.rg
    have hbs := B1.low
    have hgl := B1.bk.lt
    have hnb : ¬ (Value.slice AT p.E[k].txt.length cT).ownBlock = some b1 := fun e => by have := hrt1 b1 e; omega
    have hng : ¬ (Value.slice AT p.E[k].txt.length cT).ownBlock = some g := fun e => by have := hrt1 g e; omega
    have HB1 := Lib.hid B1; have HT1 := Lib.hid hrt1
    clear B1 hrt1 TB
    go_region_law (refine step8s rfl (.tmp 23) (.tmp 25) rfl base (.slice AT p.E[k].txt.length cT) p.E[k].txt.length p.E[k].txt (by rfl) (hot1.drew) Y (by rfl) (by omega) (by simp; omega) ?_; intro tv w2 ho2 hf2 hv2; obtain ⟨AV, cV, etv, _, _⟩ := Rd.of_own ho2; subst etv; have d5 := hf2.cell d4 hnb; have d6 := hf2.cell d0 hng; have z5 := hf2.frz (p := ⟨b1, k * 6 + 4, none⟩) hb1w hnb; rw [show w1.drew.frozen? ⟨b1, k * 6 + 4, none⟩ = false from z4] at z5)
    all_goals
      go_wp2
      go_ret
      have hTT : T[k] = .slice AT p.E[k].txt.length cT := HTV.out
      have hd : Dr w1 w1.drew := (Dr.refl w1).drew
      have B1d := HB1.out.no hd.fr
      obtain ⟨ρ', h'⟩ := B1d.setTxt (tv := .slice AV (p.E[k].txt.length + Y.size) cV) (txt' := p.E[k].txt ++ Y.data.toList) hkl hkT (by rw [hTT]; exact hf2) (by rw [show (p.E[k].txt ++ Y.data.toList).length = p.E[k].txt.length + Y.size from by rw [List.length_append]; rfl]; exact ho2)
        (by rw [hTT]; rcases hv2 with h | h; exact .inl h; exact .inr (fun i e => by rw [h] at e; injection e with e; omega)) rfl
      refine ⟨rfl, ?_, fun _ => ⟨ρ', _, _, _, h'⟩⟩
      have hfr : Fr (fun i => base ≤ i) w w1.drew := (((Fr.refl _ w).alloc _).dr hd1).dr hd
      have hlt1 := HB1.out.ot k hkT hkl
      exact (hfr.trans_new hf2 (fun i e => .inl ((hlt1.lt i (by rw [hTT]; exact e)).1))).setCell (p := ⟨b1, k * 6 + 4, none⟩) (.inl hb1) _
end Go.Proofs.YthkjmbkfcnehoaaGreatDoor
/- The program's builder of trees: what an Open does. -/
namespace Go.Proofs.YthkjmbkfcnehoaaGreatDoor
open Go.RowKit
set_option maxHeartbeats 400000
set_option linter.unusedVariables false

variable {ρ : Nat → Nat} {w : World} {base g : Nat} {v1 v2 : Value} {T : List Value} {E : List Elm} {opn : List Int}
/-- one more element, as one step of a region that draws its order -/
theorem stepEl {ops : Array Oper} {o : Oper} {a : Act} {w : World} {K : Act → World → Prop} {Q : Exit → Act → World → Prop} {E : Prop} (hgd : Region.wanted o (yielded ops a.tmps) = true) (s x : Operand)
    (ho : o.op = .call { callee := .builtin .append, args := #[s, x], argTypes := #[41, 41] })
    (base : Nat) (v : Value) (n : Nat) (ls : List (Elm × Value)) (N M : Nat → Prop) (hs : a.eval s = v) (hown : OwnI 6 ElmI w base 73 N v n ls) (nd : Elm × Value) (cs : List Value) (hnd : ElmI w M cs nd)
    (ad : Addr) (hx : a.eval x = .slice (some ad) 1 1) (hrd : RdS w 6 (some ad) 1 1 cs) (hb : n + 1 ≤ 1000000000) (hbase : base ≤ w.heap.size)
    (hN : ∀ i, N i → v.ownBlock ≠ some i) (hM : ∀ i, M i → v.ownBlock ≠ some i)
    (h : ∀ A' c' w', OwnI 6 ElmI w' base 73 (fun i => N i ∨ M i) (.slice A' (n + 1) c') (n + 1) (ls ++ [nd]) → Fr (fun i => v.ownBlock = some i) w w' → ((Value.slice A' (n + 1) c').ownBlock = v.ownBlock ∨ (Value.slice A' (n + 1) c').ownBlock = some w.heap.size) → K (a.put o.dst (.slice A' (n + 1) c')) w') :
    if Region.wanted o (yielded ops a.tmps) = true then Oper.wp Tryz.prog o a w K Q else E := by
  rw [if_pos hgd]
  obtain ⟨i, hi, hz, h1, h2⟩ := info_parts info_elm
  obtain ⟨ys, hov, he⟩ := hown.xs
  obtain ⟨v', w', hrun, g1, g2, g3⟩ := run_append_rdS (P := Tryz.prog) w base 41 o.type 73 i _ 6 96 Tryz.underlying41 hi hz h1 h2 rfl (by omega) v n ys hov (some ad) 1 1 cs hrd (elm_ok.one hnd) (by simp only [maxLen]; omega) (by omega) hbase
  unfold Oper.wp execOp
  simp only [ho, resolve, invoke, builtin, Sem.run_bind, Sem.run_pure, Result.andThen_ok, List.map_toArray, List.map_cons, List.map_nil, hs, hx, hrun]
  have hf : Fr (fun k => v.ownBlock = some k) w w' := (Fr.refl _ w).grown g2 (fun g e => .inl e)
  obtain ⟨A', c', rfl, -, -⟩ := RdS.of_own g1
  exact h A' c' w' ⟨⟨ys ++ cs, g1, ItemsF.fr elm_ok (ItemsF.app (ItemsF.mono elm_ok he (fun _ x => .inl x)) (ItemsF.single (elm_ok.mono hnd (fun _ x => .inr x)))) hf (fun k hk => by rcases hk with hk | hk; exact hN k hk; exact hM k hk)⟩⟩ hf g3

theorem BdV.len2 (h : BdV ρ w base g v1 v2 T E opn) : ∃ A2 c2, v2 = .slice A2 opn.length c2 := by
  obtain ⟨A, c, e, hr, _⟩ := Rd.of_own h.o2
  exact ⟨A, c, e⟩
/-- why not -/
theorem b_open_no (K : Int) (X Y : ByteArray) (A : Option Addr) (n c : Nat) (em : Bool) (t : Tok) (p : Pst) (hp : ParOk p) (hB : BdV ρ w base g v1 v2 T p.E p.opn) (hk : t.kind = 1) (hX : X.data.toList = t.name) (hl : p.E.length ≤ 500) (ho : p.opn.length ≤ 32) (hE : takeE (toG p) t ≠ 0) :
    Calls Tryz.prog 28 #[.pointer (some ⟨g, 0, none⟩), .agg #[.int .i64 K, .string X, .string Y, .slice A n c, .bool em]] w (StepTo p t base g w) := by
  unfold StepTo
  have hlen : (toG p).l.length = p.E.length := by simp [toG]
  have htG : topG (toG p) = topP p := rfl
  have hop : (toG p).opn = p.opn := rfl
  have hE2 : takeE (toG p) t = if t.name = [] then 9 else if topP p < 0 ∧ 0 < p.E.length then 10 else if 32 ≤ p.opn.length then 11 else if 500 ≤ p.E.length then 4 else 0 := by
    unfold takeE
    rw [if_pos hk, htG, hlen, hop]
  have hin := fun u (hu : BdV ρ u base g v1 v2 T p.E p.opn) => b_inner p hp hu
  have htp := topP_lt hp
  obtain ⟨A1, d1, rfl, hd1⟩ := hB.len1
  obtain ⟨A2, d2, rfl⟩ := hB.len2
  have HI := Lib.hid hin; have HB := Lib.hid hB
  by_cases h1 : t.name = []
  · rw [if_pos h1] at hE2
    rw [hE2]
    have hXe : (X.toList == []) = true := by rw [beq_iff_eq, ba_list, hX]; exact h1
    clear hin hB hE hE2 h1 hX hk hp htG hlen hop htp
    go_enter Tryz.func28, Tryz.ntmps28
    go_wp2_with (go_at_call 48; refine (HI.out _ (HB.out.no ((Fr.refl No w).alloc _))).mono ?_; rintro e w1 ⟨rfl, hd1⟩; have TB := (Bk.new w _ _).no hd1.fr; have dx : w1.cell? ⟨w.heap.size, 1, none⟩ = some (.string X) := TB.cell 1)
    go_ret
    exact ⟨rfl, ((Fr.refl _ w).alloc _).dr hd1, fun e => by cases e⟩
  have hXe : (X.toList == []) = false := by rw [beq_eq_false_iff_ne, ba_list, hX]; exact h1
  rw [if_neg h1] at hE2
  by_cases h2 : topP p < 0 ∧ 0 < p.E.length
  · rw [if_pos h2] at hE2
    rw [hE2]
    have ht : topP p = -1 := by omega
    have hn : (0 : Int) < (p.E.length : Int) := by omega
    rw [ht] at hin
    have HI := Lib.hid hin
    clear hin hB hE hE2 h1 hX hk hp htG hlen hop htp ht h2
    go_enter Tryz.func28, Tryz.ntmps28
    go_wp2_with (go_at_call 48; refine (HI.out _ (HB.out.no ((Fr.refl No w).alloc _))).mono ?_; rintro e w1 ⟨rfl, hd1⟩; have TB := (Bk.new w _ _).no hd1.fr; have dx : w1.cell? ⟨w.heap.size, 1, none⟩ = some (.string X) := TB.cell 1; have B1 := HB.out.no (((Fr.refl No w).alloc _).dr hd1); have d0 : w1.cell? ⟨g, 0, none⟩ = some _ := B1.bk.cell 0)
    go_ret
    exact ⟨rfl, ((Fr.refl _ w).alloc _).dr hd1, fun e => by cases e⟩
  rw [if_neg h2] at hE2
  have hpar : ∃ b : Bool, (topP p == -1) = b ∧ (b = true → ¬ (0 : Int) < (p.E.length : Int)) := ⟨_, rfl, fun e => by rw [beq_iff_eq] at e; omega⟩
  obtain ⟨b, hb1, hb2⟩ := hpar
  generalize topP p = P at *
  by_cases h3 : 32 ≤ p.opn.length
  · rw [if_pos h3] at hE2
    rw [hE2]
    have h32 : ((p.opn.length : Int) == 32) = true := by rw [beq_iff_eq]; omega
    clear hin hB hE hE2 h1 hX hk hp htG hlen hop htp h2
    cases b
    all_goals
      try have hb3 := hb2 rfl
      clear hb2
      go_enter Tryz.func28, Tryz.ntmps28
      go_wp2_with (go_at_call 48; refine (HI.out _ (HB.out.no ((Fr.refl No w).alloc _))).mono ?_; rintro e w1 ⟨rfl, hd1⟩; have TB := (Bk.new w _ _).no hd1.fr; have dx : w1.cell? ⟨w.heap.size, 1, none⟩ = some (.string X) := TB.cell 1; have B1 := HB.out.no (((Fr.refl No w).alloc _).dr hd1); have d0 : w1.cell? ⟨g, 0, none⟩ = some _ := B1.bk.cell 0; have d1 : w1.cell? ⟨g, 1, none⟩ = some _ := B1.bk.cell 1)
      go_ret
      exact ⟨rfl, ((Fr.refl _ w).alloc _).dr hd1, fun e => by cases e⟩
  rw [if_neg h3] at hE2
  have h32 : ((p.opn.length : Int) == 32) = false := by rw [beq_eq_false_iff_ne]; omega
  by_cases h4 : 500 ≤ p.E.length
  · rw [if_pos h4] at hE2
    rw [hE2]
    have h500 : ((p.E.length : Int) == 500) = true := by rw [beq_iff_eq]; omega
    clear hin hB hE hE2 h1 hX hk hp htG hlen hop htp h2
    cases b
    case true => have hb3 := hb2 rfl; omega
    all_goals
      clear hb2
      go_enter Tryz.func28, Tryz.ntmps28
      go_wp2_with (go_at_call 48; refine (HI.out _ (HB.out.no ((Fr.refl No w).alloc _))).mono ?_; rintro e w1 ⟨rfl, hd1⟩; have TB := (Bk.new w _ _).no hd1.fr; have dx : w1.cell? ⟨w.heap.size, 1, none⟩ = some (.string X) := TB.cell 1; have B1 := HB.out.no (((Fr.refl No w).alloc _).dr hd1); have d0 : w1.cell? ⟨g, 0, none⟩ = some _ := B1.bk.cell 0; have d1 : w1.cell? ⟨g, 1, none⟩ = some _ := B1.bk.cell 1)
      go_ret
      exact ⟨rfl, ((Fr.refl _ w).alloc _).dr hd1, fun e => by cases e⟩
  rw [if_neg h4] at hE2
  exact absurd hE2 hE
end Go.Proofs.YthkjmbkfcnehoaaGreatDoor
/- The program's builder of trees: what an Open does, the first one. -/
namespace Go.Proofs.YthkjmbkfcnehoaaGreatDoor
open Go.RowKit
set_option maxHeartbeats 400000
set_option linter.unusedVariables false

variable {ρ : Nat → Nat} {w : World} {base g : Nat} {v1 v2 : Value} {T : List Value} {E : List Elm} {opn : List Int}

set_option maxHeartbeats 4000000 in
set_option maxRecDepth 20000 in
theorem b_open_0 (K : Int) (X Y : ByteArray) (A : Option Addr) (n c : Nat) (em : Bool) (t : Tok) (p : Pst) (hp : ParOk p) (hB : BdV ρ w base g v1 v2 T p.E p.opn) (hk : t.kind = 1) (hX : X.data.toList = t.name) (hA : RdI 2 AttrI w (fun i => i < base) A n c t.attrs) (hem : em = t.empty) (hn : n ≤ 1000000) (hl : p.E.length ≤ 500) (ho : p.opn.length ≤ 32) (hE : takeE (toG p) t = 0) (hPb : (topP p == -1) = true) :
    Calls Tryz.prog 28 #[.pointer (some ⟨g, 0, none⟩), .agg #[.int .i64 K, .string X, .string Y, .slice A n c, .bool em]] w (StepTo p t base g w) := by
  unfold StepTo
  have hlen : (toG p).l.length = p.E.length := by simp [toG]
  have htG : topG (toG p) = topP p := rfl
  have hop : (toG p).opn = p.opn := rfl
  have hfacts : t.name ≠ [] ∧ ¬ (topP p < 0 ∧ 0 < p.E.length) ∧ p.opn.length < 32 ∧ p.E.length < 500 := by
    unfold takeE at hE
    rw [if_pos hk, htG, hlen, hop] at hE
    split at hE
    · cases hE
    split at hE
    · cases hE
    split at hE
    · cases hE
    split at hE
    · cases hE
    exact ⟨by assumption, by assumption, by omega, by omega⟩
  obtain ⟨h1, h2, h3, h4⟩ := hfacts
  rw [hE]
  have hXe : (X.toList == []) = false := by rw [beq_eq_false_iff_ne, ba_list, hX]; exact h1
  have h32 : ((p.opn.length : Int) == 32) = false := by rw [beq_eq_false_iff_ne]; omega
  have h500 : ((p.E.length : Int) == 500) = false := by rw [beq_eq_false_iff_ne]; omega
  have hin := fun u (hu : BdV ρ u base g v1 v2 T p.E p.opn) => b_inner p hp hu
  have htp := topP_lt hp
  have hfil : filE p.E (topP p) = p.E ∧ ¬ (0 : Int) < (p.E.length : Int) ∧ (topP p == -1) = true ∨ (topP p == -1) = false ∧ ∃ (k : Nat) (hk : k < p.E.length), topP p = (k : Int) ∧ filE p.E (topP p) = p.E.set k { p.E[k] with fil := true } := by
    by_cases hP : topP p < 0
    · exact .inl ⟨if_pos hP, by omega, by rw [beq_iff_eq]; omega⟩
    · refine .inr ⟨by rw [beq_eq_false_iff_ne]; omega, (topP p).toNat, by omega, by omega, ?_⟩
      unfold filE
      rw [if_neg hP, modify_set _ _ _ (by omega)]
  have hflen : (filE p.E (topP p)).length = p.E.length := fil_len _ _
  obtain ⟨O, hO⟩ : ∃ O, (if t.empty then p.opn else p.opn ++ [(p.E.length : Int)]) = O := ⟨_, rfl⟩
  have hS : stepP p t = ⟨filE p.E (topP p) ++ [newE (topP p) t], O⟩ := by unfold stepP; rw [if_pos hk, hO]
  rw [hS]
  have hnf : (newE (topP p) t).nod.parent = topP p ∧ (newE (topP p) t).nod.name = X.data.toList ∧ (newE (topP p) t).nod.attrs = t.attrs ∧ (newE (topP p) t).fil = false ∧ (newE (topP p) t).txt = [] := ⟨rfl, hX.symm, rfl, rfl, rfl⟩
  generalize newE (topP p) t = NE at *
  generalize filE p.E (topP p) = F at *
  generalize topP p = P at *
  have HI := Lib.hid hin; have HB := Lib.hid hB; have HA := Lib.hid hA; have HEM := Lib.hid hem; have HO := Lib.hid hO; have HNF := Lib.hid hnf
  clear hin hB hE h1 hX hk hp htG hlen hop h2 hA hS hem hO hnf
  have hgt : ¬ w.heap.size = g := by have := HB.out.bk.lt; omega
  have HGT := Lib.hid hgt
  clear hgt
  rcases hfil with ⟨hF, hn0, hb1⟩ | ⟨hb1, k, hk, rfl, hF⟩
  · obtain ⟨A1, q1, rfl, hdl⟩ := HB.out.len1
    obtain ⟨A2, q2, rfl⟩ := HB.out.len2
    have hnt0 : ¬ (Value.slice A2 p.opn.length q2).ownBlock = some w.heap.size := fun e => by have := (HB.out.o2.lt _ e).2; omega
    have HNT := Lib.hid hnt0
    clear hnt0
    have HFF := Lib.hid hF
    clear hF
    go_enter Tryz.func28, Tryz.ntmps28
    go_upto_if 48 with (go_at_call 48; refine (HI.out _ (HB.out.no ((Fr.refl No w).alloc _))).mono ?_; rintro e w1 ⟨rfl, hd1⟩; have TB := (Bk.new w _ _).no hd1.fr; have dx : w1.cell? ⟨w.heap.size, 1, none⟩ = some (.string X) := TB.cell 1; have B1 := HB.out.no (((Fr.refl No w).alloc _).dr hd1); have d0 : w1.cell? ⟨g, 0, none⟩ = some _ := B1.bk.cell 0; have dq : w1.cell? ⟨g, 1, none⟩ = some _ := B1.bk.cell 1; have de : w1.cell? ⟨w.heap.size, 4, none⟩ = some (.bool em) := TB.cell 4)
    have BU : BdV ρ w1 base g (.slice A1 p.E.length q1) (.slice A2 p.opn.length q2) T F p.opn := by rw [HFF.out]; exact B1
    have TBU : Bk w1 w.heap.size 45 [.int .i64 K, .string X, .string Y, .slice A n c, .bool em] := TB
    have FU : Fr (fun i => base ≤ i) w w1 := (((Fr.refl No w).alloc _).dr hd1).no
    clear B1 TB d0 dq dx
    have hlow := BU.low
    have hglt := BU.bk.lt
    have hrg := BU.rg
    have e0 : w1.drew.cell? ⟨g, 0, none⟩ = some (.slice A1 p.E.length q1) := BU.bk.cell 0
    have e1 : w1.drew.cell? ⟨g, 1, none⟩ = some (.slice A2 p.opn.length q2) := BU.bk.cell 1
    have e0w : w1.cell? ⟨g, 0, none⟩ = some (.slice A1 p.E.length q1) := e0
    have e1w : w1.cell? ⟨g, 1, none⟩ = some (.slice A2 p.opn.length q2) := e1
    have z1 := BU.bk.frozen 1
    have hr2 := BU.r2
    have l2 := BU.o2.lt
    have hbase : base ≤ w1.heap.size := by omega
    have hng : ¬ (Value.slice A2 p.opn.length q2).ownBlock = some g := fun e => by have := hr2 g e; omega
    have hnt : ¬ (Value.slice A2 p.opn.length q2).ownBlock = some w.heap.size := HNT.out
    have HBU := Lib.hid BU; have HTU := Lib.hid TBU; have HFU := Lib.hid FU; have HR2 := Lib.hid hr2; have HL2 := Lib.hid l2
    clear BU TBU FU hr2 l2
    go_cut [] from 6 to 62 (fun wx => ∃ ρ' A2' q2', BdV ρ' wx base g (.slice A1 p.E.length q1) (.slice A2' O.length q2') T F O ∧ Fr (fun i => base ≤ i) w1 wx ∧ Bk wx w.heap.size 45 [.int .i64 K, .string X, .string Y, .slice A n c, .bool em])
    case first =>
      cases em with
      | true =>
        have hOO : O = p.opn := by rw [← HO.out, ← HEM.out]; rfl
        go_wp2_with fail
        go_meet
        exact ⟨ρ, A2, q2, by rw [hOO]; exact HBU.out, Fr.refl _ _, HTU.out⟩
      | false =>
        have hOO : O = p.opn ++ [(p.E.length : Int)] := by rw [← HO.out, ← HEM.out]; rfl
        go_wp2_with fail
        go_region_law (refine stepI rfl (.tmp 53) (.tmp 59) rfl base (.slice A2 p.opn.length q2) p.opn.length p.opn (by rfl) ((HBU.out.o2.alloc _).drew) (some ⟨w1.heap.size, 0, none⟩) 1 1 [(p.E.length : Int)] (by rfl) ((Rd.oneI _ _).dr (Dr.refl _).drew) (by omega) (by simp; omega) ?_; intro AV cV w2 ho2 hg2 hv2; have hf2 : Fr (fun i => (Value.slice A2 p.opn.length q2).ownBlock = some i) w1 w2 := ((Fr.refl _ w1).alloc _).drew.grown hg2 (fun g e => .inl e); have y1 := hf2.cell (p := ⟨g, 1, none⟩) e1 hng; have yz : w2.frozen? ⟨g, 1, none⟩ = false := (hf2.frz (p := ⟨g, 1, none⟩) hglt hng).trans z1)
        all_goals
          go_wp2_with fail
          go_meet
          obtain ⟨ρ', h'⟩ := HBU.out.put2 (v2' := .slice AV (p.opn.length + 1) cV) (opn' := p.opn ++ [(p.E.length : Int)]) hf2 (by simpa using ho2) (hv2.imp id (fun h i e => by rw [h] at e; injection e with e; simp at e; omega))
          refine ⟨ρ', AV, cV, by rw [hOO]; simpa using h', ?_, ?_⟩
          · exact ((Fr.refl _ w1).trans_new hf2 (fun i e => .inl (HL2.out i e).1)).setCell (p := ⟨g, 1, none⟩) (.inl hlow) _
          · exact (HTU.out.fr hf2 hnt).fr ((Fr.refl (Just g) w2).setCell (p := ⟨g, 1, none⟩) (.inl (Just.at g)) _) HGT.out
    case rest =>
      obtain ⟨ρ', A2', q2', B3, hf3, T3⟩ := hcut
      have htl := HFF.out
      clear e0 e1 e0w e1w z1 hng hnt hglt hrg hbase htl
      have hlow3 := B3.low
      have hglt := B3.bk.lt
      have e0 : wc.drew.cell? ⟨g, 0, none⟩ = some (.slice A1 p.E.length q1) := B3.bk.cell 0
      have dx : wc.drew.cell? ⟨w.heap.size, 1, none⟩ = some (.string X) := T3.cell 1
      have da : wc.drew.cell? ⟨w.heap.size, 3, none⟩ = some (.slice A n c) := T3.cell 3
      have l1 := B3.o1.lt
      have r1 := B3.r1
      have hrg := B3.rg
      have hbase : base ≤ wc.heap.size := by omega
      have hsd : wc.drew.heap.size = wc.heap.size := rfl
      have hwl : w.heap.size < wc.heap.size := T3.lt
      have hgn : ¬ (Value.slice A1 p.E.length q1).ownBlock = some g := fun e => by have := r1 g e; omega
      have hwl0 : w.heap.size ≤ wc.heap.size := by omega
      have hA3 : RdI 2 AttrI wc.drew (fun i => i < base) A n c t.attrs := (HA.out.fr attr_ok (HFU.out.trans hf3) (fun i hi hs => by have hs : base ≤ i := hs; omega)).dr attr_ok (Dr.refl wc).drew
      have ho1 : OwnI 6 ElmI wc base 73 (AtB ρ' wc base) (.slice A1 p.E.length q1) p.E.length (F.zip T) := by have h := B3.o1; rwa [hflen] at h
      have HB3 := Lib.hid B3; have HO1 := Lib.hid ho1; have HL1 := Lib.hid l1; have HR1 := Lib.hid r1; have HF3 := Lib.hid hf3
      clear B3 T3 ho1 l1 r1 hf3
      go_wp2_with fail
      go_region_law (first
        | (refine stepAt rfl (.const (.slice none 0 0)) (.tmp 72) rfl (by rfl) A n c (fun i => i < base) t.attrs (by rfl) hA3 (by omega) ?_; intro A5 c5 w5 hr5 hf5; have hs5 := hf5.size; have e05 := hf5.cell e0 (fun x => x); have e5x := hf5.cell dx (fun x => x); have e5a : ∀ o, (w5.alloc o).cell? ⟨g, 0, none⟩ = some (.slice A1 p.E.length q1) := fun o => ((Fr.refl No w5).alloc o).cell e05 (fun x => x))
        | (refine stepEl rfl (.tmp 67) (.tmp 76) rfl base (.slice A1 p.E.length q1) p.E.length (F.zip T) _ (fun i => i = wc.drew.heap.size) (by rfl) (((HO1.out.no elm_ok (Dr.refl wc).drew.fr).no elm_ok hf5).no elm_ok ((Fr.refl No w5).alloc _)) (NE, .slice none 0 0) [.int .i64 P, .string X, .string ⟨#[]⟩, .slice A5 n c5, .slice none 0 0, .bool false] ⟨X, A5, n, c5, by rw [HNF.out.1, HNF.out.2.2.2.1], HNF.out.2.1.symm, by rw [HNF.out.2.2.1]; exact hr5.no attr_ok ((Fr.refl No w5).alloc _), rfl⟩ ⟨w5.heap.size, 0, none⟩ (by rfl) (RdS.lit w5 _ _ 1 rfl (by simp [maxLen])) (by omega) (by simp; omega) (fun i hi e => by have h1 := hi.2.2; have h2 := HR1.out i e; omega) (fun i hi e => by have := (HL1.out i e).2; omega) ?_; intro A7 c7 w7 ho7 hf7 hv7; have hf57 : Fr (fun i => (Value.slice A1 p.E.length q1).ownBlock = some i) wc w7 := (((Dr.refl wc).drew.fr.trans hf5.no).alloc _).trans hf7; have y7 := hf57.cell (p := ⟨g, 0, none⟩) e0 hgn; have z7 : w7.frozen? ⟨g, 0, none⟩ = false := (hf57.frz (p := ⟨g, 0, none⟩) hglt hgn).trans (HB3.out.bk.frozen 0)))
      all_goals
        go_wp2
        go_ret
        have hsz : (w5.alloc (.cells #[.int .i64 P, .string X, .string ⟨#[]⟩, .slice A5 n c5, .slice none 0 0, .bool false] 73)).heap.size = w5.heap.size + 1 := by simp
        have hs7 := hf7.size
        refine ⟨rfl, ?_, fun _ => ?_⟩
        · exact ((HFU.out.trans HF3.out).trans_new hf57 (fun i e => .inl (HL1.out i e).1)).setCell (p := ⟨g, 0, none⟩) (.inl hlow3) _
        · refine HB3.out.put1 hf57 HNF.out.2.2.2.2 ?_ (hv7.imp id (fun h i e => by rw [h] at e; injection e with e; omega))
          rw [hflen]
          refine ho7.mono elm_ok (fun i hi => ?_)
          rcases hi with hi | hi
          · exact .inl hi
          · have hi : i = wc.drew.heap.size := hi
            refine .inr ⟨by omega, by omega, fun e => ?_⟩
            rcases hv7 with h | h
            · rw [h] at e
              have := (HL1.out i e).2
              omega
            · rw [h] at e
              injection e with e
              omega
  · rw [hb1] at hPb; cases hPb
end Go.Proofs.YthkjmbkfcnehoaaGreatDoor
/- The program's builder of trees: what an Open does, in another one. -/
namespace Go.Proofs.YthkjmbkfcnehoaaGreatDoor
open Go.RowKit
set_option maxHeartbeats 400000
set_option linter.unusedVariables false

variable {ρ : Nat → Nat} {w : World} {base g : Nat} {v1 v2 : Value} {T : List Value} {E : List Elm} {opn : List Int}

set_option maxHeartbeats 4000000 in
set_option maxRecDepth 20000 in
theorem b_open_1 (K : Int) (X Y : ByteArray) (A : Option Addr) (n c : Nat) (em : Bool) (t : Tok) (p : Pst) (hp : ParOk p) (hB : BdV ρ w base g v1 v2 T p.E p.opn) (hk : t.kind = 1) (hX : X.data.toList = t.name) (hA : RdI 2 AttrI w (fun i => i < base) A n c t.attrs) (hem : em = t.empty) (hn : n ≤ 1000000) (hl : p.E.length ≤ 500) (ho : p.opn.length ≤ 32) (hE : takeE (toG p) t = 0) (hPb : (topP p == -1) = false) :
    Calls Tryz.prog 28 #[.pointer (some ⟨g, 0, none⟩), .agg #[.int .i64 K, .string X, .string Y, .slice A n c, .bool em]] w (StepTo p t base g w) := by
  unfold StepTo
  have hlen : (toG p).l.length = p.E.length := by simp [toG]
  have htG : topG (toG p) = topP p := rfl
  have hop : (toG p).opn = p.opn := rfl
  have hfacts : t.name ≠ [] ∧ ¬ (topP p < 0 ∧ 0 < p.E.length) ∧ p.opn.length < 32 ∧ p.E.length < 500 := by
    unfold takeE at hE
    rw [if_pos hk, htG, hlen, hop] at hE
    split at hE
    · cases hE
    split at hE
    · cases hE
    split at hE
    · cases hE
    split at hE
    · cases hE
    exact ⟨by assumption, by assumption, by omega, by omega⟩
  obtain ⟨h1, h2, h3, h4⟩ := hfacts
  rw [hE]
  have hXe : (X.toList == []) = false := by rw [beq_eq_false_iff_ne, ba_list, hX]; exact h1
  have h32 : ((p.opn.length : Int) == 32) = false := by rw [beq_eq_false_iff_ne]; omega
  have h500 : ((p.E.length : Int) == 500) = false := by rw [beq_eq_false_iff_ne]; omega
  have hin := fun u (hu : BdV ρ u base g v1 v2 T p.E p.opn) => b_inner p hp hu
  have htp := topP_lt hp
  have hfil : filE p.E (topP p) = p.E ∧ ¬ (0 : Int) < (p.E.length : Int) ∧ (topP p == -1) = true ∨ (topP p == -1) = false ∧ ∃ (k : Nat) (hk : k < p.E.length), topP p = (k : Int) ∧ filE p.E (topP p) = p.E.set k { p.E[k] with fil := true } := by
    by_cases hP : topP p < 0
    · exact .inl ⟨if_pos hP, by omega, by rw [beq_iff_eq]; omega⟩
    · refine .inr ⟨by rw [beq_eq_false_iff_ne]; omega, (topP p).toNat, by omega, by omega, ?_⟩
      unfold filE
      rw [if_neg hP, modify_set _ _ _ (by omega)]
  have hflen : (filE p.E (topP p)).length = p.E.length := fil_len _ _
  obtain ⟨O, hO⟩ : ∃ O, (if t.empty then p.opn else p.opn ++ [(p.E.length : Int)]) = O := ⟨_, rfl⟩
  have hS : stepP p t = ⟨filE p.E (topP p) ++ [newE (topP p) t], O⟩ := by unfold stepP; rw [if_pos hk, hO]
  rw [hS]
  have hnf : (newE (topP p) t).nod.parent = topP p ∧ (newE (topP p) t).nod.name = X.data.toList ∧ (newE (topP p) t).nod.attrs = t.attrs ∧ (newE (topP p) t).fil = false ∧ (newE (topP p) t).txt = [] := ⟨rfl, hX.symm, rfl, rfl, rfl⟩
  generalize newE (topP p) t = NE at *
  generalize filE p.E (topP p) = F at *
  generalize topP p = P at *
  have HI := Lib.hid hin; have HB := Lib.hid hB; have HA := Lib.hid hA; have HEM := Lib.hid hem; have HO := Lib.hid hO; have HNF := Lib.hid hnf
  clear hin hB hE h1 hX hk hp htG hlen hop h2 hA hS hem hO hnf
  have hgt : ¬ w.heap.size = g := by have := HB.out.bk.lt; omega
  have HGT := Lib.hid hgt
  clear hgt
  rcases hfil with ⟨hF, hn0, hb1⟩ | ⟨hb1, k, hk, rfl, hF⟩
  · rw [hb1] at hPb; cases hPb
  · obtain ⟨A2, q2, rfl⟩ := HB.out.len2
    have hnt0 : ¬ (Value.slice A2 p.opn.length q2).ownBlock = some w.heap.size := fun e => by have := (HB.out.o2.lt _ e).2; omega
    have HNT := Lib.hid hnt0
    clear hnt0
    obtain ⟨b1, q1, Z, A1', n1, c1, rfl, hb1', hb1l, _, hcl, _⟩ := HB.out.at_ hk
    have c5 := hcl 5 _ rfl
    have C5 := Lib.hid c5.1; have Z5 := Lib.hid c5.2
    clear hcl c5
    have hkI : (k : Int) < (p.E.length : Int) := by omega
    have hk0 : (0 : Int) ≤ (k : Int) := by omega
    have hne : w.heap.size ≠ b1 := by omega
    have HFF := Lib.hid hF
    clear hF
    go_enter Tryz.func28, Tryz.ntmps28
    go_upto_if 48 with (go_at_call 48; refine (HI.out _ (HB.out.no ((Fr.refl No w).alloc _))).mono ?_; rintro e w1 ⟨rfl, hd1⟩; have TB := (Bk.new w _ _).no hd1.fr; have dx : w1.cell? ⟨w.heap.size, 1, none⟩ = some (.string X) := TB.cell 1; have B1 := HB.out.no (((Fr.refl No w).alloc _).dr hd1); have d0 : w1.cell? ⟨g, 0, none⟩ = some _ := B1.bk.cell 0; have dq : w1.cell? ⟨g, 1, none⟩ = some _ := B1.bk.cell 1; have d5 := (((Fr.refl No w).alloc _).dr hd1).cell C5.out (fun x => x); have z5 := (((Fr.refl No w).alloc _).dr hd1).frz (p := ⟨b1, k * 6 + 5, none⟩) hb1l (fun x => x); rw [Z5.out] at z5; have TB2 := TB.fr ((Fr.refl (Just b1) w1).setCell (p := ⟨b1, k * 6 + 5, none⟩) (.inl (Just.at b1)) (.bool true)) hne; have de : (w1.setCell ⟨b1, k * 6 + 5, none⟩ (.bool true)).cell? ⟨w.heap.size, 4, none⟩ = some (.bool em) := TB2.cell 4)
    have BU0 := B1.setFil hk
    rw [← HFF.out] at BU0
    have FU0 : Fr (fun i => base ≤ i) w (w1.setCell ⟨b1, k * 6 + 5, none⟩ (.bool true)) := (((Fr.refl No w).alloc _).dr hd1).no.setCell (p := ⟨b1, k * 6 + 5, none⟩) (.inl hb1') _
    obtain ⟨A1, hA1⟩ : ∃ A1 : Option Addr, some ⟨b1, 0, none⟩ = A1 := ⟨_, rfl⟩
    rw [hA1] at BU0
    have HBU0 := Lib.hid BU0; have HTB2 := Lib.hid TB2; have HFU0 := Lib.hid FU0
    clear B1 TB TB2 d0 dq dx d5 z5 BU0 FU0 de
    go_name_world u hu
    have BU : BdV ρ u base g (.slice A1 p.E.length q1) (.slice A2 p.opn.length q2) T F p.opn := by rw [← hu]; exact HBU0.out
    have TBU : Bk u w.heap.size 45 [.int .i64 K, .string X, .string Y, .slice A n c, .bool em] := by rw [← hu]; exact HTB2.out
    have FU : Fr (fun i => base ≤ i) w u := by rw [← hu]; exact HFU0.out
    clear hu HBU0 HTB2 HFU0
    have hlow := BU.low
    have hglt := BU.bk.lt
    have hrg := BU.rg
    have e0 : u.drew.cell? ⟨g, 0, none⟩ = some (.slice A1 p.E.length q1) := BU.bk.cell 0
    have e1 : u.drew.cell? ⟨g, 1, none⟩ = some (.slice A2 p.opn.length q2) := BU.bk.cell 1
    have e0w : u.cell? ⟨g, 0, none⟩ = some (.slice A1 p.E.length q1) := e0
    have e1w : u.cell? ⟨g, 1, none⟩ = some (.slice A2 p.opn.length q2) := e1
    have z1 := BU.bk.frozen 1
    have hr2 := BU.r2
    have l2 := BU.o2.lt
    have hbase : base ≤ u.heap.size := by omega
    have hng : ¬ (Value.slice A2 p.opn.length q2).ownBlock = some g := fun e => by have := hr2 g e; omega
    have hnt : ¬ (Value.slice A2 p.opn.length q2).ownBlock = some w.heap.size := HNT.out
    have HBU := Lib.hid BU; have HTU := Lib.hid TBU; have HFU := Lib.hid FU; have HR2 := Lib.hid hr2; have HL2 := Lib.hid l2
    clear BU TBU FU hr2 l2
    go_cut [] from 6 to 62 (fun wx => ∃ ρ' A2' q2', BdV ρ' wx base g (.slice A1 p.E.length q1) (.slice A2' O.length q2') T F O ∧ Fr (fun i => base ≤ i) u wx ∧ Bk wx w.heap.size 45 [.int .i64 K, .string X, .string Y, .slice A n c, .bool em])
    case first =>
      cases em with
      | true =>
        have hOO : O = p.opn := by rw [← HO.out, ← HEM.out]; rfl
        go_wp2_with fail
        go_meet
        exact ⟨ρ, A2, q2, by rw [hOO]; exact HBU.out, Fr.refl _ _, HTU.out⟩
      | false =>
        have hOO : O = p.opn ++ [(p.E.length : Int)] := by rw [← HO.out, ← HEM.out]; rfl
        go_wp2_with fail
        go_region_law (refine stepI rfl (.tmp 53) (.tmp 59) rfl base (.slice A2 p.opn.length q2) p.opn.length p.opn (by rfl) ((HBU.out.o2.alloc _).drew) (some ⟨u.heap.size, 0, none⟩) 1 1 [(p.E.length : Int)] (by rfl) ((Rd.oneI _ _).dr (Dr.refl _).drew) (by omega) (by simp; omega) ?_; intro AV cV w2 ho2 hg2 hv2; have hf2 : Fr (fun i => (Value.slice A2 p.opn.length q2).ownBlock = some i) u w2 := ((Fr.refl _ u).alloc _).drew.grown hg2 (fun g e => .inl e); have y1 := hf2.cell (p := ⟨g, 1, none⟩) e1 hng; have yz : w2.frozen? ⟨g, 1, none⟩ = false := (hf2.frz (p := ⟨g, 1, none⟩) hglt hng).trans z1)
        all_goals
          go_wp2_with fail
          go_meet
          obtain ⟨ρ', h'⟩ := HBU.out.put2 (v2' := .slice AV (p.opn.length + 1) cV) (opn' := p.opn ++ [(p.E.length : Int)]) hf2 (by simpa using ho2) (hv2.imp id (fun h i e => by rw [h] at e; injection e with e; simp at e; omega))
          refine ⟨ρ', AV, cV, by rw [hOO]; simpa using h', ?_, ?_⟩
          · exact ((Fr.refl _ u).trans_new hf2 (fun i e => .inl (HL2.out i e).1)).setCell (p := ⟨g, 1, none⟩) (.inl hlow) _
          · exact (HTU.out.fr hf2 hnt).fr ((Fr.refl (Just g) w2).setCell (p := ⟨g, 1, none⟩) (.inl (Just.at g)) _) HGT.out
    case rest =>
      obtain ⟨ρ', A2', q2', B3, hf3, T3⟩ := hcut
      have htl := HFF.out
      clear e0 e1 e0w e1w z1 hng hnt hglt hrg hbase htl
      have hlow3 := B3.low
      have hglt := B3.bk.lt
      have e0 : wc.drew.cell? ⟨g, 0, none⟩ = some (.slice A1 p.E.length q1) := B3.bk.cell 0
      have dx : wc.drew.cell? ⟨w.heap.size, 1, none⟩ = some (.string X) := T3.cell 1
      have da : wc.drew.cell? ⟨w.heap.size, 3, none⟩ = some (.slice A n c) := T3.cell 3
      have l1 := B3.o1.lt
      have r1 := B3.r1
      have hrg := B3.rg
      have hbase : base ≤ wc.heap.size := by omega
      have hsd : wc.drew.heap.size = wc.heap.size := rfl
      have hwl : w.heap.size < wc.heap.size := T3.lt
      have hgn : ¬ (Value.slice A1 p.E.length q1).ownBlock = some g := fun e => by have := r1 g e; omega
      have hwl0 : w.heap.size ≤ wc.heap.size := by omega
      have hA3 : RdI 2 AttrI wc.drew (fun i => i < base) A n c t.attrs := (HA.out.fr attr_ok (HFU.out.trans hf3) (fun i hi hs => by have hs : base ≤ i := hs; omega)).dr attr_ok (Dr.refl wc).drew
      have ho1 : OwnI 6 ElmI wc base 73 (AtB ρ' wc base) (.slice A1 p.E.length q1) p.E.length (F.zip T) := by have h := B3.o1; rwa [hflen] at h
      have HB3 := Lib.hid B3; have HO1 := Lib.hid ho1; have HL1 := Lib.hid l1; have HR1 := Lib.hid r1; have HF3 := Lib.hid hf3
      clear B3 T3 ho1 l1 r1 hf3
      go_wp2_with fail
      go_region_law (first
        | (refine stepAt rfl (.const (.slice none 0 0)) (.tmp 72) rfl (by rfl) A n c (fun i => i < base) t.attrs (by rfl) hA3 (by omega) ?_; intro A5 c5 w5 hr5 hf5; have hs5 := hf5.size; have e05 := hf5.cell e0 (fun x => x); have e5x := hf5.cell dx (fun x => x); have e5a : ∀ o, (w5.alloc o).cell? ⟨g, 0, none⟩ = some (.slice A1 p.E.length q1) := fun o => ((Fr.refl No w5).alloc o).cell e05 (fun x => x))
        | (refine stepEl rfl (.tmp 67) (.tmp 76) rfl base (.slice A1 p.E.length q1) p.E.length (F.zip T) _ (fun i => i = wc.drew.heap.size) (by rfl) (((HO1.out.no elm_ok (Dr.refl wc).drew.fr).no elm_ok hf5).no elm_ok ((Fr.refl No w5).alloc _)) (NE, .slice none 0 0) [.int .i64 (k : Int), .string X, .string ⟨#[]⟩, .slice A5 n c5, .slice none 0 0, .bool false] ⟨X, A5, n, c5, by rw [HNF.out.1, HNF.out.2.2.2.1], HNF.out.2.1.symm, by rw [HNF.out.2.2.1]; exact hr5.no attr_ok ((Fr.refl No w5).alloc _), rfl⟩ ⟨w5.heap.size, 0, none⟩ (by rfl) (RdS.lit w5 _ _ 1 rfl (by simp [maxLen])) (by omega) (by simp; omega) (fun i hi e => by have h1 := hi.2.2; have h2 := HR1.out i e; omega) (fun i hi e => by have := (HL1.out i e).2; omega) ?_; intro A7 c7 w7 ho7 hf7 hv7; have hf57 : Fr (fun i => (Value.slice A1 p.E.length q1).ownBlock = some i) wc w7 := (((Dr.refl wc).drew.fr.trans hf5.no).alloc _).trans hf7; have y7 := hf57.cell (p := ⟨g, 0, none⟩) e0 hgn; have z7 : w7.frozen? ⟨g, 0, none⟩ = false := (hf57.frz (p := ⟨g, 0, none⟩) hglt hgn).trans (HB3.out.bk.frozen 0)))
      all_goals
        go_wp2
        go_ret
        have hsz : (w5.alloc (.cells #[.int .i64 (k : Int), .string X, .string ⟨#[]⟩, .slice A5 n c5, .slice none 0 0, .bool false] 73)).heap.size = w5.heap.size + 1 := by simp
        have hs7 := hf7.size
        refine ⟨rfl, ?_, fun _ => ?_⟩
        · exact ((HFU.out.trans HF3.out).trans_new hf57 (fun i e => .inl (HL1.out i e).1)).setCell (p := ⟨g, 0, none⟩) (.inl hlow3) _
        · refine HB3.out.put1 hf57 HNF.out.2.2.2.2 ?_ (hv7.imp id (fun h i e => by rw [h] at e; injection e with e; omega))
          rw [hflen]
          refine ho7.mono elm_ok (fun i hi => ?_)
          rcases hi with hi | hi
          · exact .inl hi
          · have hi : i = wc.drew.heap.size := hi
            refine .inr ⟨by omega, by omega, fun e => ?_⟩
            rcases hv7 with h | h
            · rw [h] at e
              have := (HL1.out i e).2
              omega
            · rw [h] at e
              injection e with e
              omega
end Go.Proofs.YthkjmbkfcnehoaaGreatDoor
/- The program's builder of trees: the nodes, when no token is left. -/
namespace Go.Proofs.YthkjmbkfcnehoaaGreatDoor
open Go.RowKit
set_option maxHeartbeats 400000
set_option linter.unusedVariables false

/-- one more node, just laid in a block of its own -/
theorem ap_nod1 (u : World) {ops : Array Oper} {rest : List Oper} {o : Oper} {a : Act} {Q : Exit → Act → World → Prop} (hgd : Region.wanted o (yielded ops a.tmps) = true) (s x : Operand)
    (ho : o.op = .call { callee := .builtin .append, args := #[s, x], argTypes := #[23, 23] })
    (base : Nat) (v : Value) (n : Nat) (ls : List Nod) (N : Nat → Prop) (hs : a.eval s = v) (hown : OwnI 4 NodI u base 32 N v n ls) (nd : Nod) (cs : List Value) (hnd : NodI u N cs nd) (t : TypeId)
    (bk : Nat) (hbk : u.heap.size = bk) (hx : a.eval x = .slice (some ⟨bk, 0, none⟩) 1 1) (hb : n + 1 ≤ 1000000000) (hbase : base ≤ u.heap.size)
    (hN : ∀ i, N i → v.ownBlock ≠ some i)
    (h : ∀ A' c' w', OwnI 4 NodI w' base 32 N (.slice A' (n + 1) c') (n + 1) (ls ++ [nd]) → Fr (fun i => v.ownBlock = some i) u w' → ((Value.slice A' (n + 1) c').ownBlock = v.ownBlock ∨ (Value.slice A' (n + 1) c').ownBlock = some (u.heap.size + 1)) → wpList Tryz.prog ops Q rest (a.put o.dst (.slice A' (n + 1) c')) w') :
    wpList Tryz.prog ops Q (o :: rest) a (u.alloc (.cells cs.toArray t)) := by
  subst hbk
  obtain ⟨i, hi, hz, h1, h2⟩ := info_parts info_node
  have hfa : Fr No u (u.alloc (.cells cs.toArray t)) := (Fr.refl No u).alloc _
  have hcl := nod_ok.len hnd
  refine apI2 _ nod_ok (by omega) hgd s x 23 ho base 32 i _ 64 Tryz.underlying23 hi hz h1 h2 rfl v n ls [nd] hs (hown.no nod_ok hfa) _ 1 1 hx cs (RdS.lit u cs t 1 (by simpa using hcl) (by simp [maxLen])) (ItemsF.single (nod_ok.fr hnd hfa (fun _ _ x => x))) (by simp only [maxLen]; omega) (by omega) (by simp; omega) hN ?_
  intro v' w' g1 g2 g3
  obtain ⟨ys, hov, _⟩ := g1.xs
  obtain ⟨A', c', rfl, -, -⟩ := RdS.of_own hov
  exact h A' c' w' g1 (((Fr.refl _ u).alloc _).grown g2 (fun g e => .inl e)) (by simpa using g3)

variable {ρ : Nat → Nat} {w : World} {base g : Nat} {v1 v2 : Value} {T : List Value} {E : List Elm} {opn : List Int}
def WholeTo (p : Pst) (base : Nat) (w : World) (e : Ending) (w' : World) : Prop := ∃ v, e = .returned (.tuple #[v, .int .i64 (endE (toG p))]) ∧
  OwnI 4 NodI w' base 32 (fun i => base ≤ i ∧ i < w'.heap.size) v (if endE (toG p) = 0 then p.E.map outN else []).length (if endE (toG p) = 0 then p.E.map outN else []) ∧ Fr No w w'
theorem whole_no {p : Pst} {base : Nat} {w w' : World} (h : endE (toG p) ≠ 0) (hf : Fr No w w') : WholeTo p base w (.returned (.tuple #[.slice none 0 0, .int .i64 (endE (toG p))])) w' := by
  refine ⟨_, rfl, ?_, hf⟩
  rw [if_neg h]
  exact OwnI.nil_ _ _ _ _ _ _
theorem mixP_succ (E : List Elm) (k : Nat) (hk : k < E.length) : mixP E (k + 1) = (mixP E k || (E[k].fil && !blankB E[k].txt)) := by
  unfold mixP
  rw [List.take_succ_eq_append_getElem hk, List.any_append, List.any_cons, List.any_nil, Bool.or_false]
theorem mixP_mono (E : List Elm) {k n : Nat} (h : k ≤ n) (hk : mixP E k = true) : mixP E n = true := by
  unfold mixP at hk ⊢
  rw [List.any_eq_true] at hk ⊢
  obtain ⟨x, hx, hq⟩ := hk
  refine ⟨x, ?_, hq⟩
  have : E.take k = (E.take n).take k := by rw [List.take_take]; congr 1; omega
  rw [this] at hx
  exact List.mem_of_mem_take hx

set_option maxRecDepth 20000 in
theorem b_whole (p : Pst) (hf : FilOk p) (hB : BdV ρ w base g v1 v2 T p.E p.opn) (hl : p.E.length ≤ 500) (hts : ∀ e ∈ p.E, e.txt.length ≤ 1000000000) (htx : ∀ e ∈ p.E, e.nod.text = []) :
    Calls Tryz.prog 18 #[.pointer (some ⟨g, 0, none⟩)] w (WholeTo p base w) := by
  have hlen : (toG p).l.length = p.E.length := by simp [toG]
  have hend : endE (toG p) = if p.E = [] ∨ p.opn ≠ [] then 10 else if mixP p.E p.E.length then 12 else 0 := by
    unfold endE
    rw [hlen, mix_eq hf _ (Nat.le_refl _)]
    have : ((toG p).l = [] ∨ (toG p).opn ≠ []) ↔ (p.E = [] ∨ p.opn ≠ []) := by unfold toG; simp
    by_cases hc : p.E = [] ∨ p.opn ≠ []
    · rw [if_pos hc, if_pos (this.2 hc)]
    · rw [if_neg hc, if_neg (fun h => hc (this.1 h))]
  have d0 : w.cell? ⟨g, 0, none⟩ = some v1 := hB.bk.cell 0
  have d1 : w.cell? ⟨g, 1, none⟩ = some v2 := hB.bk.cell 1
  obtain ⟨A1, q1, rfl, hq1⟩ := hB.len1
  have hl2 : ∃ A2 c2, v2 = .slice A2 p.opn.length c2 := by obtain ⟨A, c, e, hr, _⟩ := Rd.of_own hB.o2; exact ⟨A, c, e⟩
  obtain ⟨A2, q2, rfl⟩ := hl2
  by_cases h1 : p.E = []
  · have hE : endE (toG p) = 10 := by rw [hend, if_pos (.inl h1)]
    have hn : ((p.E.length : Int) == 0) = true := by rw [h1]; rfl
    have hw := fun w' (hf : Fr No w w') => whole_no (base := base) (p := p) (by rw [hE]; decide) hf
    rw [hE] at hw
    have HW := Lib.hid hw
    clear hend hE hw hlen hB hf hts htx h1
    go_enter Tryz.func18, Tryz.ntmps18
    go_wp2
    go_ret2
    exact HW.out _ (Fr.refl _ w)
  have hn0 : ((p.E.length : Int) == 0) = false := by rw [beq_eq_false_iff_ne]; intro e; exact h1 (List.eq_nil_of_length_eq_zero (by omega))
  by_cases h2 : p.opn = []
  · have hn : ¬ (0 : Int) < (p.opn.length : Int) := by rw [h2]; decide
    have hnl : 0 < p.E.length := List.length_pos_iff.2 h1
    have hend2 : endE (toG p) = if mixP p.E p.E.length then 12 else 0 := by rw [hend, if_neg]; rintro (h | h); exact h1 h; exact h h2
    have hlow := hB.low
    have hglt := hB.bk.lt
    have HB := Lib.hid hB; have HE := Lib.hid hend2; have HTS := Lib.hid hts; have HTX := Lib.hid htx
    clear hend hlen hB hf hts h1 h2 hend2 htx
    go_enter Tryz.func18, Tryz.ntmps18
    go_wp2_with (at_make; obtain ⟨i, hi, hz, hs1, hs2⟩ := info_parts info_node; (refine wpList_make_own _ rfl (.const (.int .i64 0)) (.tmp 26) 23 rfl w.heap.size 32 i _ 4 Tryz.underlying23 hi hz hs1 .i64 .i64 _ p.E.length rfl rfl rfl (by rw [hs2]; omega) (by simp only [maxLen]; omega) (Nat.le_refl _) ?_; intro w1 ho1 hg1; have hf1 : Fr No w w1 := (Fr.refl No w).grown hg1 (fun g e => by cases e); have d2 := hf1.cell d0 (fun x => x)))
    have hown1 : OwnI 4 NodI w1 w.heap.size 32 (fun i => base ≤ i ∧ i < w.heap.size) (.slice (some ⟨w.heap.size, 0, none⟩) 0 p.E.length) 0 [] := ⟨⟨[], ho1, rfl⟩⟩
    have HO1 := Lib.hid hown1
    clear hown1 ho1 hg1 d2
    go_loopw [4, 33] (fun lv iv wr => ∃ k : Nat, iv = .int .i64 (k : Int) ∧ k ≤ p.E.length ∧ OwnI 4 NodI wr w.heap.size 32 (fun i => base ≤ i ∧ i < w.heap.size) lv k ((p.E.take k).map outN) ∧ Fr No w wr ∧ mixP p.E k = false) (fun _ iv _ => p.E.length - (intOf iv).toNat)
    case atStart => exact ⟨0, rfl, Nat.zero_le _, HO1.out, hf1, rfl⟩
    case round =>
      obtain ⟨k, rfl, hk, hown, hfr, hmx⟩ := hrel
      have hvs : ∃ A c, u4 = .slice A k c := by obtain ⟨A, c, e, _⟩ := hown.rd' (M := fun _ => True) (fun _ _ => trivial) nod_ok (fun _ _ => trivial); exact ⟨A, c, e⟩
      obtain ⟨VA, vc, rfl⟩ := hvs
      have hvl := hown.lt
      have hsz := hfr.size
      rcases Nat.lt_or_ge k p.E.length with hlt | hge
      · have hltI : (k : Int) < (p.E.length : Int) := by omega
        have hk0 : (0 : Int) ≤ (k : Int) := by omega
        obtain ⟨b1, q1', Z, A3, n3, c3, e1, _, _, _, hcl, hZ, hA3⟩ := HB.out.at_ hlt
        injection e1 with e1 _ e3
        subst e1 e3
        have hkT : k < T.length := by rw [HB.out.tl]; exact hlt
        obtain ⟨AT, cT, hTv, hrT, _⟩ := Rd.of_own (HB.out.ot k hkT hlt)
        rw [hTv] at hcl
        have x0 := hfr.cell (hcl 0 _ rfl).1 (fun x => x)
        have x1 := hfr.cell (hcl 1 _ rfl).1 (fun x => x)
        have x2 := hfr.cell (hcl 2 _ rfl).1 (fun x => x)
        have x3 := hfr.cell (hcl 3 _ rfl).1 (fun x => x)
        have x4 := hfr.cell (hcl 4 _ rfl).1 (fun x => x)
        have x5 := hfr.cell (hcl 5 _ rfl).1 (fun x => x)
        rw [Nat.add_zero] at x0
        have hcv := fun o => run_string (P := Tryz.prog) (hrT.no (hfr.trans ((Fr.refl No wr).alloc o))) 64 5 Tryz.underlying64 Tryz.underlying5 9 Tryz.underlying9
        obtain ⟨S, hS⟩ : ∃ S : ByteArray, bstr p.E[k].txt = S := ⟨_, rfl⟩
        have hSl : S.data.toList = p.E[k].txt := by rw [← hS]; rfl
        have hSs : S.size ≤ 1000000000 := by rw [← hS, bstr_size]; exact HTS.out _ (List.getElem_mem hlt)
        rw [hS] at hcv
        have htk : (p.E.take (k + 1)).map outN = (p.E.take k).map outN ++ [outN p.E[k]] := by rw [List.take_succ_eq_append_getElem hlt, List.map_append]; rfl
        have hms := mixP_succ p.E k hlt
        rw [hmx, Bool.false_or] at hms
        have htn := HTX.out _ (List.getElem_mem hlt)
        have hA4 : RdI 2 AttrI wr (fun i => base ≤ i ∧ i < w.heap.size) A3 n3 c3 p.E[k].nod.attrs := (hA3.mono attr_ok (fun i hi => ⟨hi.1, hi.2.1⟩)).no attr_ok hfr
        have hv1 : ∀ i, base ≤ i ∧ i < w.heap.size → (Value.slice VA k vc).ownBlock ≠ some i := fun i hi e => by have := (hvl i e).1; omega
        have HOWN := Lib.hid hown; have HFR := Lib.hid hfr; have HCV := Lib.hid hcv; have HTK := Lib.hid htk; have HA4 := Lib.hid hA4; have HZ := Lib.hid hZ; have HV1 := Lib.hid hv1; have HVL := Lib.hid hvl
        clear hown hfr htk hA3 hA4 hZ hcl hrT hTv hS hv1 hvl
        cases hfb : p.E[k].fil with
        | false =>
          rw [hfb] at x5 hms
          have hmk : mixP p.E (k + 1) = false := hms
          have hout : outN p.E[k] = { p.E[k].nod with text := p.E[k].txt } := by unfold outN; rw [hfb]; rfl
          have HOUT := Lib.hid hout; have HMK := Lib.hid hmk; have HSL := Lib.hid hSl
          clear hout hmk hms htn hSl hmx hfb
          go_wp2_with (at_builtin; go_must (refine ap_nod1 _ rfl (.tmp 51) (.tmp 54) rfl w.heap.size (.slice VA k vc) k ((p.E.take k).map outN) (fun i => base ≤ i ∧ i < w.heap.size) rfl (HOWN.out.no nod_ok ((Fr.refl No wr).alloc _)) (outN p.E[k]) [.int .i64 p.E[k].nod.parent, .string Z, .string S, .slice A3 n3 c3] ⟨Z, S, A3, n3, c3, by rw [HOUT.out], by rw [HZ.out, HOUT.out], by rw [HSL.out, HOUT.out], by rw [HOUT.out]; exact HA4.out.no attr_ok ((Fr.refl No wr).alloc _)⟩ _ _ (by simp) rfl (by omega) (by simp; omega) HV1.out ?_; intro A5 c5 w5 ho5 hf5 hv5))
          have hf2 : Fr No w w5 := (HFR.out.trans ((Fr.refl No wr).alloc _)).trans_new hf5 (fun i e => .inr (HVL.out i e).1)
          go_roundw
          case rel => exact ⟨k + 1, by go_num, hlt, by rw [HTK.out]; exact ho5, hf2, HMK.out⟩
          case measure => simp [intOf]; omega
        | true =>
          rw [hfb] at x5 hms
          have hbk := fun u => b_blank S u (by omega)
          rw [hSl] at hbk
          cases hbl : blankB p.E[k].txt with
          | true =>
            rw [hbl] at hms hbk
            have hmk : mixP p.E (k + 1) = false := hms
            have hout : outN p.E[k] = p.E[k].nod := by unfold outN; rw [hfb]; rfl
            have HOUT := Lib.hid hout; have HMK := Lib.hid hmk; have HBK := Lib.hid hbk; have HTN := Lib.hid htn
            clear hout hmk hms htn hSl hmx hfb hbl hbk
            go_wp2_with (first
              | (go_at_call 32; refine (HBK.out _).mono ?_; rintro e w3 ⟨rfl, hf3⟩; have TB := (Bk.new wr _ _).no hf3; have hf03 := ((Fr.refl No wr).alloc _).trans hf3; have y0 : w3.cell? ⟨wr.heap.size, 0, none⟩ = some (.int .i64 p.E[k].nod.parent) := TB.cell 0; have y1 : w3.cell? ⟨wr.heap.size, 1, none⟩ = some (.string Z) := TB.cell 1; have y2 : w3.cell? ⟨wr.heap.size, 2, none⟩ = some (.string ⟨#[]⟩) := TB.cell 2; have y3 : w3.cell? ⟨wr.heap.size, 3, none⟩ = some (.slice A3 n3 c3) := TB.cell 3; have hs3 := hf03.size)
              | (at_builtin; go_must (refine ap_nod1 _ rfl (.tmp 51) (.tmp 54) rfl w.heap.size (.slice VA k vc) k ((p.E.take k).map outN) (fun i => base ≤ i ∧ i < w.heap.size) rfl (HOWN.out.no nod_ok hf03) (outN p.E[k]) [.int .i64 p.E[k].nod.parent, .string Z, .string ⟨#[]⟩, .slice A3 n3 c3] ⟨Z, ⟨#[]⟩, A3, n3, c3, by rw [HOUT.out], by rw [HZ.out, HOUT.out], by rw [HOUT.out, HTN.out], by rw [HOUT.out]; exact HA4.out.no attr_ok hf03⟩ _ _ (by simp) rfl (by omega) (by omega) HV1.out ?_; intro A5 c5 w5 ho5 hf5 hv5)))
            have hf2 : Fr No w w5 := (HFR.out.trans hf03).trans_new hf5 (fun i e => .inr (HVL.out i e).1)
            go_roundw
            case rel => exact ⟨k + 1, by go_num, hlt, by rw [HTK.out]; exact ho5, hf2, HMK.out⟩
            case measure => simp [intOf]; omega
          | false =>
            rw [hbl] at hms hbk
            have hmk : mixP p.E (k + 1) = true := hms
            have hE : endE (toG p) = 12 := by rw [HE.out, if_pos (mixP_mono p.E hlt hmk)]
            have hw := fun w' (hf : Fr No w w') => whole_no (base := base) (p := p) (by rw [hE]; decide) hf
            rw [hE] at hw
            have HW := Lib.hid hw; have HBK := Lib.hid hbk
            clear hw hE hmk hms htn hSl hmx hfb hbl hbk
            go_wp2_with (go_at_call 32; refine (HBK.out _).mono ?_; rintro e w3 ⟨rfl, hf3⟩)
            go_ret2
            exact HW.out _ ((HFR.out.trans ((Fr.refl No wr).alloc _)).trans hf3)
      · have hke : k = p.E.length := by omega
        subst hke
        have hE : endE (toG p) = 0 := by rw [HE.out, hmx]; rfl
        have hw : ∀ u, Fr No w u → OwnI 4 NodI u w.heap.size 32 (fun i => base ≤ i ∧ i < w.heap.size) (.slice VA p.E.length vc) p.E.length (p.E.map outN) → WholeTo p base w (.returned (.tuple #[.slice VA p.E.length vc, .int .i64 0])) u := by
          intro u hu ho
          refine ⟨_, by rw [hE], ?_, hu⟩
          rw [if_pos hE, List.length_map]
          exact (ho.low nod_ok (by omega)).mono nod_ok (fun i hi => ⟨hi.1, by have := hu.size; omega⟩)
        rw [List.take_of_length_le (Nat.le_refl _)] at hown
        have HW := Lib.hid hw; have HOWN := Lib.hid hown; have HFR := Lib.hid hfr
        clear hw hE hown hfr hmx hvl
        go_wp2
        go_ret2
        exact HW.out _ HFR.out HOWN.out
  · have hE : endE (toG p) = 10 := by rw [hend, if_pos (.inr h2)]
    have hn : (0 : Int) < (p.opn.length : Int) := by have := List.length_pos_iff.2 h2; omega
    have hw := fun w' (hf : Fr No w w') => whole_no (base := base) (p := p) (by rw [hE]; decide) hf
    rw [hE] at hw
    have HW := Lib.hid hw
    clear hend hE hw hlen hB hf hts htx h1 h2
    go_enter Tryz.func18, Tryz.ntmps18
    go_wp2
    go_ret2
    exact HW.out _ (Fr.refl _ w)
end Go.Proofs.YthkjmbkfcnehoaaGreatDoor
/- The program's trees: Build. -/
namespace Go.Proofs.YthkjmbkfcnehoaaGreatDoor
open Go.RowKit
set_option maxHeartbeats 400000
set_option linter.unusedVariables false

/-! ### more that always holds -/
theorem fil_mem {E : List Elm} {i : Int} {e : Elm} (h : e ∈ filE E i) : ∃ e' ∈ E, e.txt = e'.txt ∧ e.nod = e'.nod := by
  unfold filE at h
  split at h
  · exact ⟨e, h, rfl, rfl⟩
  · obtain ⟨k, hk, hh⟩ := List.mem_iff_getElem.1 h
    rw [List.getElem_modify] at hh
    have hk' : k < E.length := by simpa using hk
    refine ⟨E[k], List.getElem_mem hk', ?_⟩
    rw [← hh]
    split <;> exact ⟨rfl, rfl⟩
theorem txt_step {p : Pst} {t : Tok} {B : Nat} (h : ∀ e ∈ p.E, e.txt.length ≤ B) : ∀ e ∈ (stepP p t).E, e.txt.length ≤ B + t.text.length := by
  intro e he
  unfold stepP at he
  split at he
  · rcases List.mem_append.1 he with he | he
    · obtain ⟨e', h1, h2, _⟩ := fil_mem he
      have := h e' h1
      rw [h2]; omega
    · simp only [List.mem_singleton] at he
      subst he
      simp [newE]
  split at he
  · have := h e he; omega
  split at he
  · have := h e he; omega
  · obtain ⟨k, hk, hh⟩ := List.mem_iff_getElem.1 he
    rw [List.getElem_modify] at hh
    have hk' : k < p.E.length := by simpa using hk
    have := h _ (List.getElem_mem hk')
    rw [← hh]
    split
    · simp only [List.length_append]; omega
    · omega
theorem nil_step {p : Pst} {t : Tok} (h : ∀ e ∈ p.E, e.nod.text = []) : ∀ e ∈ (stepP p t).E, e.nod.text = [] := by
  intro e he
  unfold stepP at he
  split at he
  · rcases List.mem_append.1 he with he | he
    · obtain ⟨e', h1, _, h2⟩ := fil_mem he
      rw [h2]
      exact h e' h1
    · simp only [List.mem_singleton] at he
      subst he
      rfl
  split at he
  · exact h e he
  split at he
  · exact h e he
  · obtain ⟨k, hk, hh⟩ := List.mem_iff_getElem.1 he
    rw [List.getElem_modify] at hh
    have hk' : k < p.E.length := by simpa using hk
    have := h _ (List.getElem_mem hk')
    rw [← hh]
    split <;> exact this

variable {w : World} {base g : Nat}
theorem b_opening (K : Int) (X Y : ByteArray) (A : Option Addr) (n c : Nat) (em : Bool) (t : Tok) (p : Pst) (hp : ParOk p) (hB : BdT w base g p) (hk : t.kind = 1) (hX : X.data.toList = t.name) (hA : RdI 2 AttrI w (fun i => i < base) A n c t.attrs) (hem : em = t.empty) (hn : n ≤ 1000000) (hl : p.E.length ≤ 500) (ho : p.opn.length ≤ 32) :
    Calls Tryz.prog 28 #[.pointer (some ⟨g, 0, none⟩), .agg #[.int .i64 K, .string X, .string Y, .slice A n c, .bool em]] w (StepTo p t base g w) := by
  obtain ⟨ρ, v1, v2, T, hB⟩ := hB
  by_cases hE : takeE (toG p) t = 0
  · cases hb : (topP p == -1) with
    | true => exact b_open_0 K X Y A n c em t p hp hB hk hX hA hem hn hl ho hE hb
    | false => exact b_open_1 K X Y A n c em t p hp hB hk hX hA hem hn hl ho hE hb
  · exact b_open_no K X Y A n c em t p hp hB hk hX hl ho hE

theorem call_opening : ∀ args w, (callFunc 28 args).run Tryz.prog w = .ok (.enter 28 args) w := fun _ _ => by kernel_rfl
theorem call_closing : ∀ args w, (callFunc 29 args).run Tryz.prog w = .ok (.enter 29 args) w := fun _ _ => by kernel_rfl
theorem call_text : ∀ args w, (callFunc 30 args).run Tryz.prog w = .ok (.enter 30 args) w := fun _ _ => by kernel_rfl
theorem call_strange : ∀ args w, (callFunc 31 args).run Tryz.prog w = .ok (.enter 31 args) w := fun _ _ => by kernel_rfl
/-- the next step: which it is -/
def NextTo (p : Pst) (t : Tok) (base g : Nat) (X Y : ByteArray) (A : Option Addr) (n c : Nat) (e : Ending) : Prop := ∃ f : FuncId, e = .returned (.func (.func f) #[.pointer (some ⟨g, 0, none⟩)] #[]) ∧ (∀ args w, (callFunc f args).run Tryz.prog w = .ok (.enter f args) w) ∧
  (∀ u, BdT u base g p → RdI 2 AttrI u (fun i => i < base) A n c t.attrs → Calls Tryz.prog f #[.pointer (some ⟨g, 0, none⟩), .agg #[.int .i64 t.kind, .string X, .string Y, .slice A n c, .bool t.empty]] u (StepTo p t base g u))
theorem b_next (p : Pst) (t : Tok) (X Y : ByteArray) (A : Option Addr) (n c : Nat) (hp : ParOk p) (hk : t.kind = 1 ∨ t.kind = 2 ∨ t.kind = 3) (hX : X.data.toList = t.name) (hY : Y.data.toList = t.text) (hn : n ≤ 1000000) (hl : p.E.length ≤ 500) (ho : p.opn.length ≤ 32) (hsz : ∀ e ∈ p.E, e.txt.length + Y.size ≤ 1000000000) (hys : Y.size ≤ 1000000000) (w : World) :
    Calls Tryz.prog 17 #[.pointer (some ⟨g, 0, none⟩), .int .i64 t.kind] w fun e w' => NextTo p t base g X Y A n c e ∧ w = w' := by
  rcases hk with h | h | h
  · have hc : ∀ u, BdT u base g p → RdI 2 AttrI u (fun i => i < base) A n c t.attrs → Calls Tryz.prog 28 #[.pointer (some ⟨g, 0, none⟩), .agg #[.int .i64 t.kind, .string X, .string Y, .slice A n c, .bool t.empty]] u (StepTo p t base g u) :=
      fun u hu hA => b_opening t.kind X Y A n c t.empty t p hp hu h hX hA rfl hn hl ho
    have HC := Lib.hid hc
    have HW : NextTo p t base g X Y A n c (.returned (.func (.func 28) #[.pointer (some ⟨g, 0, none⟩)] #[])) := ⟨_, rfl, call_opening, hc⟩
    have HW2 := Lib.hid HW
    rw [h]
    clear hc HC hsz hX hY hp HW h
    go_enter Tryz.func17, Tryz.ntmps17
    go_wp2
    go_ret
    exact ⟨HW2.out, rfl⟩
  · have hc : ∀ u, BdT u base g p → RdI 2 AttrI u (fun i => i < base) A n c t.attrs → Calls Tryz.prog 29 #[.pointer (some ⟨g, 0, none⟩), .agg #[.int .i64 t.kind, .string X, .string Y, .slice A n c, .bool t.empty]] u (StepTo p t base g u) :=
      fun u ⟨ρ, v1, v2, T, hu⟩ hA => b_closing t.kind X Y A n c t.empty t p hp hu h hX hl
    have HC := Lib.hid hc
    have HW : NextTo p t base g X Y A n c (.returned (.func (.func 29) #[.pointer (some ⟨g, 0, none⟩)] #[])) := ⟨_, rfl, call_closing, hc⟩
    have HW2 := Lib.hid HW
    rw [h]
    clear hc HC hsz hX hY hp HW h
    go_enter Tryz.func17, Tryz.ntmps17
    go_wp2
    go_ret
    exact ⟨HW2.out, rfl⟩
  · have hc : ∀ u, BdT u base g p → RdI 2 AttrI u (fun i => i < base) A n c t.attrs → Calls Tryz.prog 30 #[.pointer (some ⟨g, 0, none⟩), .agg #[.int .i64 t.kind, .string X, .string Y, .slice A n c, .bool t.empty]] u (StepTo p t base g u) :=
      fun u ⟨ρ, v1, v2, T, hu⟩ hA => b_text t.kind X Y A n c t.empty t p hp hu h hY (by omega) hl hsz
    have HC := Lib.hid hc
    have HW : NextTo p t base g X Y A n c (.returned (.func (.func 30) #[.pointer (some ⟨g, 0, none⟩)] #[])) := ⟨_, rfl, call_text, hc⟩
    have HW2 := Lib.hid HW
    rw [h]
    clear hc HC hsz hX hY hp HW h
    go_enter Tryz.func17, Tryz.ntmps17
    go_wp2
    go_ret
    exact ⟨HW2.out, rfl⟩
theorem b_next_no (t : Tok) (h1 : t.kind ≠ 1) (h2 : t.kind ≠ 2) (h3 : t.kind ≠ 3) (w : World) :
    Calls Tryz.prog 17 #[.pointer (some ⟨g, 0, none⟩), .int .i64 t.kind] w fun e w' => e = .returned (.func (.func 31) #[] #[]) ∧ w = w' := by
  have e1 : (t.kind == 1) = false := beq_eq_false_iff_ne.2 h1
  have e2 : (t.kind == 2) = false := beq_eq_false_iff_ne.2 h2
  have e3 : (t.kind == 3) = false := beq_eq_false_iff_ne.2 h3
  go_enter Tryz.func17, Tryz.ntmps17
  go_wp2
  go_ret
  exact ⟨rfl, rfl⟩
theorem b_strange (v : Value) (w : World) (K : Int) (X Y : ByteArray) (A : Option Addr) (n c : Nat) (em : Bool) :
    Calls Tryz.prog 31 #[.agg #[.int .i64 K, .string X, .string Y, .slice A n c, .bool em]] w fun e w' => e = .returned (.int .i64 9) ∧ Fr No w w' := by
  go_enter Tryz.func31, Tryz.ntmps31
  go_wp2
  go_ret
  exact ⟨rfl, (Fr.refl _ w).alloc _⟩
end Go.Proofs.YthkjmbkfcnehoaaGreatDoor
