/- The program's builder of trees, as it lies: a block with two rows; whose each block is, a number tells (0: attributes, 1: the builder, 2: its elements, 3: the open ones, 4 + k: the texts of element k). -/
import Derived.Test.YtdgfpjekahpggaaGreatDoorMathA
import Derived.Test.YtdgfpjekahpggaaGreatDoorTreeItems
namespace Go.Proofs.YtdgfpjekahpggaaGreatDoor
open Go.RowKit
set_option maxHeartbeats 400000
set_option linter.unusedVariables false

/-! ### cells within a row of things -/
section
variable {α : Type} {s : Nat} {I : World → (Nat → Prop) → List Value → α → Prop} {w : World} {N : Nat → Prop}
theorem ItemsF.setAt (hI : ItemOk s I) : ∀ {ls : List α} {xs : List Value} (h : ItemsF I w N xs ls) (k j : Nat) (hk : k < ls.length) (hj : j < s) (u : Value) (a' : α) (h' : ∀ cs, I w N cs ls[k] → I w N (cs.set j u) a'), ItemsF I w N (xs.set (k * s + j) u) (ls.set k a')
  | [], _, _, k, _, hk, _, _, _, _ => by simp at hk
  | a :: ls, _, ⟨cs, rest, e, h1, h2⟩, 0, j, hk, hj, u, a', h' => by
    have hl := hI.len h1
    rw [e, Nat.zero_mul, Nat.zero_add, List.set_append_left _ _ (by omega)]
    exact ⟨cs.set j u, rest, rfl, h' cs h1, h2⟩
  | a :: ls, _, ⟨cs, rest, e, h1, h2⟩, k + 1, j, hk, hj, u, a', h' => by
    have hl := hI.len h1
    have e2 : (k + 1) * s + j = cs.length + (k * s + j) := by rw [hl, Nat.add_mul]; omega
    rw [e, e2, List.set_append_right _ _ (by omega), Nat.add_sub_cancel_left]
    exact ⟨cs, _, rfl, h1, ItemsF.setAt hI h2 k j (by simpa using hk) hj u a' h'⟩
end
theorem own_setS {w : World} {base : Nat} {e : TypeId} {s g n cap : Nat} {xs : List Value} (h : w.ownsRow base e s (.slice (some ⟨g, 0, none⟩) n cap) n xs) {i : Nat} (hi : i < n * s) (u : Value) :
    (w.setCell ⟨g, i, none⟩ u).ownsRow base e s (.slice (some ⟨g, 0, none⟩) n cap) n (xs.set i u) := by
  rcases h.2 with ⟨e1, _⟩ | ⟨g', cap', cur, e1, hb, hg, hnc, hm, hc, ht⟩
  · cases e1
  · injection e1 with e1 _ e3
    injection e1 with e1
    injection e1 with e1
    subst e1 e3
    have hbk : Bk w g e cur.toList := hg
    refine ⟨by rw [List.length_set]; exact h.1, .inr ⟨g, cap, (cur.toList.set i u).toArray, rfl, hb, hbk.set_ i u, hnc, hm, by simpa using hc, ?_⟩⟩
    rw [← ht]
    simp [List.take_set]
theorem own_cellS {w : World} {base : Nat} {e : TypeId} {s g n cap : Nat} {xs : List Value} (h : w.ownsRow base e s (.slice (some ⟨g, 0, none⟩) n cap) n xs) {i : Nat} {u : Value} (hu : xs[i]? = some u) :
    w.cell? ⟨g, i, none⟩ = some u ∧ w.frozen? ⟨g, i, none⟩ = false := by
  rcases h.2 with ⟨e1, _⟩ | ⟨g', cap', cur, e1, hb, hg, hnc, hm, hc, ht⟩
  · cases e1
  · injection e1 with e1 _ e3
    injection e1 with e1
    injection e1 with e1
    subst e1 e3
    have hbk : Bk w g e cur.toList := hg
    refine ⟨?_, hbk.frozen i⟩
    rw [hbk.cell]
    rw [← ht, List.getElem?_take] at hu
    split at hu
    · exact hu
    · cases hu
/-- a row of one's own with something in it lies somewhere -/
theorem own_some {w : World} {base : Nat} {e : TypeId} {s n : Nat} {v : Value} {xs : List Value} (h : w.ownsRow base e s v n xs) (hn : 0 < n) : ∃ g cap, v = .slice (some ⟨g, 0, none⟩) n cap ∧ base ≤ g ∧ g < w.heap.size ∧ n ≤ cap ∧ cap ≤ maxLen := by
  rcases h.2 with ⟨e1, e2⟩ | ⟨g', cap', cur, e1, hb, hg, hnc, hm, hc, ht⟩
  · have := h.1
    subst e1
    simp_all
  · exact ⟨g', cap', e1, hb, (Array.getElem?_eq_some_iff.1 hg).1, hnc, hm⟩

theorem Fr.frz {S : Nat → Prop} {a b : World} (h : Fr S a b) {p : Addr} (hp : p.block < a.heap.size) (hk : ¬ S p.block) : b.frozen? p = a.frozen? p := by
  simp only [World.frozen?, h.block p.block hp hk]
theorem modify_set {α : Type} (l : List α) (k : Nat) (f : α → α) (h : k < l.length) : l.modify k f = l.set k (f l[k]) := by
  apply List.ext_getElem?
  intro j
  rw [List.getElem?_modify, List.getElem?_set]
  by_cases hj : k = j
  · subst hj
    simp [h]
  · simp [hj]
/-! ### elements -/
def ElmI (w : World) (N : Nat → Prop) (cs : List Value) (e : Elm × Value) : Prop := ∃ (X : ByteArray) (A : Option Addr) (n c : Nat),
  cs = [.int .i64 e.1.nod.parent, .string X, .string ⟨#[]⟩, .slice A n c, e.2, .bool e.1.fil] ∧ X.data.toList = e.1.nod.name ∧ RdI 2 AttrI w N A n c e.1.nod.attrs ∧ e.2.oneCell' = true
theorem elm_ok : ItemOk 6 ElmI where
  len := by rintro w N cs a ⟨X, A, n, c, rfl, _⟩; rfl
  one := by
    rintro w N cs a ⟨X, A, n, c, rfl, _, _, h1⟩ u hu
    simp only [List.mem_cons, List.not_mem_nil, or_false] at hu
    rcases hu with rfl | rfl | rfl | rfl | rfl | rfl
    · rfl
    · rfl
    · rfl
    · rfl
    · exact h1
    · rfl
  fr := by
    rintro w w' N S cs a ⟨X, A, n, c, e, h1, h2, h3⟩ hf hS
    exact ⟨X, A, n, c, e, h1, h2.fr attr_ok hf hS, h3⟩
  mono := by
    rintro w N M cs a ⟨X, A, n, c, e, h1, h2, h3⟩ hM
    exact ⟨X, A, n, c, e, h1, h2.mono attr_ok hM, h3⟩
theorem info_elm : (Tryz.prog.info? 66).map (fun i => (i.zero, i.size, i.bytes)) = some (some (.agg #[.int .i64 0, .string ⟨#[]⟩, .string ⟨#[]⟩, .slice none 0 0, .slice none 0 0, .bool false]), 6, 96) := by kernel_rfl

/-- blocks of attributes -/
def AtB (ρ : Nat → Nat) (w : World) (base : Nat) : Nat → Prop := fun i => base ≤ i ∧ i < w.heap.size ∧ ρ i = 0
structure BdV (ρ : Nat → Nat) (w : World) (base g : Nat) (v1 v2 : Value) (T : List Value) (E : List Elm) (opn : List Int) : Prop where
  bk : Bk w g 47 [v1, v2]
  low : base ≤ g
  rg : ρ g = 1
  o1 : OwnI 6 ElmI w base 66 (AtB ρ w base) v1 E.length (E.zip T)
  r1 : ∀ i, v1.ownBlock = some i → ρ i = 2
  o2 : w.ownsRow base 3 1 v2 opn.length (ints opn)
  r2 : ∀ i, v2.ownBlock = some i → ρ i = 3
  tl : T.length = E.length
  ot : ∀ k (h : k < T.length) (h' : k < E.length), w.ownsRow base 5 1 T[k] E[k].txt.length (u8s E[k].txt)
  rt : ∀ k (h : k < T.length) i, T[k].ownBlock = some i → ρ i = 4 + k
def BdT (w : World) (base g : Nat) (p : Pst) : Prop := ∃ ρ v1 v2 T, BdV ρ w base g v1 v2 T p.E p.opn

section
variable {ρ ρ' : Nat → Nat} {u w w2 : World} {base g r : Nat} {v1 v2 : Value} {T : List Value} {E : List Elm} {opn : List Int} {S : Nat → Prop}
theorem BdV.kbk (h : BdV ρ u base g v1 v2 T E opn) (hf : Fr S u w2) (hS : ∀ i, base ≤ i → i < u.heap.size → S i → ρ i = r) (h1 : r ≠ 1) : Bk w2 g 47 [v1, v2] :=
  h.bk.fr hf (fun hs => h1 (by rw [← hS g h.low h.bk.lt hs]; exact h.rg))
theorem BdV.ko1 (h : BdV ρ u base g v1 v2 T E opn) (hf : Fr S u w2) (hS : ∀ i, base ≤ i → i < u.heap.size → S i → ρ i = r) (hρ : ∀ i, i < u.heap.size → ρ' i = ρ i) (h0 : r ≠ 0) (h2 : r ≠ 2) : OwnI 6 ElmI w2 base 66 (AtB ρ' w2 base) v1 E.length (E.zip T) :=
  (h.o1.fr elm_ok hf (fun i hi hs => h0 (by rw [← hS i hi.1 hi.2.1 hs]; exact hi.2.2)) (fun i hi hs => h2 (by rw [← hS i (h.o1.lt i hi).1 (h.o1.lt i hi).2 hs]; exact h.r1 i hi))).mono elm_ok (fun i hi => ⟨hi.1, Nat.lt_of_lt_of_le hi.2.1 hf.size, by rw [hρ i hi.2.1]; exact hi.2.2⟩)
theorem BdV.kr1 (h : BdV ρ u base g v1 v2 T E opn) (hρ : ∀ i, i < u.heap.size → ρ' i = ρ i) : ∀ i, v1.ownBlock = some i → ρ' i = 2 := fun i hi => by rw [hρ i (h.o1.lt i hi).2]; exact h.r1 i hi
theorem BdV.ko2 (h : BdV ρ u base g v1 v2 T E opn) (hf : Fr S u w2) (hS : ∀ i, base ≤ i → i < u.heap.size → S i → ρ i = r) (h3 : r ≠ 3) : w2.ownsRow base 3 1 v2 opn.length (ints opn) :=
  hf.own h.o2 (fun i hi hs => h3 (by rw [← hS i (h.o2.lt i hi).1 (h.o2.lt i hi).2 hs]; exact h.r2 i hi))
theorem BdV.kr2 (h : BdV ρ u base g v1 v2 T E opn) (hρ : ∀ i, i < u.heap.size → ρ' i = ρ i) : ∀ i, v2.ownBlock = some i → ρ' i = 3 := fun i hi => by rw [hρ i (h.o2.lt i hi).2]; exact h.r2 i hi
theorem BdV.kot (h : BdV ρ u base g v1 v2 T E opn) (hf : Fr S u w2) (hS : ∀ i, base ≤ i → i < u.heap.size → S i → ρ i = r) (k : Nat) (hk : k < T.length) (hk' : k < E.length) (h4 : r ≠ 4 + k) : w2.ownsRow base 5 1 T[k] E[k].txt.length (u8s E[k].txt) :=
  hf.own (h.ot k hk hk') (fun i hi hs => h4 (by rw [← hS i ((h.ot k hk hk').lt i hi).1 ((h.ot k hk hk').lt i hi).2 hs]; exact h.rt k hk i hi))
theorem BdV.krt (h : BdV ρ u base g v1 v2 T E opn) (hρ : ∀ i, i < u.heap.size → ρ' i = ρ i) (k : Nat) (hk : k < T.length) : ∀ i, T[k].ownBlock = some i → ρ' i = 4 + k := fun i hi => by
  have hk' : k < E.length := by rw [← h.tl]; exact hk
  rw [hρ i ((h.ot k hk hk').lt i hi).2]
  exact h.rt k hk i hi
theorem BdV.krg (h : BdV ρ u base g v1 v2 T E opn) (hρ : ∀ i, i < u.heap.size → ρ' i = ρ i) : ρ' g = 1 := by rw [hρ g h.bk.lt]; exact h.rg

theorem BdV.fr (h : BdV ρ u base g v1 v2 T E opn) (hf : Fr S u w2) (hS : ∀ i, base ≤ i → i < u.heap.size → ¬ S i) : BdV ρ w2 base g v1 v2 T E opn :=
  have hs : ∀ r i, base ≤ i → i < u.heap.size → S i → ρ i = r := fun r i h1 h2 h3 => absurd h3 (hS i h1 h2)
  ⟨h.kbk hf (hs 0) (by omega), h.low, h.rg, h.ko1 hf (hs 1) (fun _ _ => rfl) (by omega) (by omega), h.r1, h.ko2 hf (hs 0) (by omega), h.r2, h.tl, fun k h1 h2 => h.kot hf (hs 0) k h1 h2 (by omega), h.rt⟩
theorem BdV.no (h : BdV ρ u base g v1 v2 T E opn) (hf : Fr No u w2) : BdV ρ w2 base g v1 v2 T E opn := h.fr hf (fun _ _ _ x => x)
theorem BdT.fr {p : Pst} (h : BdT u base g p) (hf : Fr S u w2) (hS : ∀ i, base ≤ i → i < u.heap.size → ¬ S i) : BdT w2 base g p :=
  let ⟨ρ, v1, v2, T, h⟩ := h
  ⟨ρ, v1, v2, T, h.fr hf hS⟩
theorem BdT.no {p : Pst} (h : BdT u base g p) (hf : Fr No u w2) : BdT w2 base g p := h.fr hf (fun _ _ _ x => x)

/-- another row of elements: one more, its texts nil -/
theorem BdV.put1 {v1' : Value} {e : Elm} (h : BdV ρ u base g v1 v2 T E opn) (hf : Fr (fun i => v1.ownBlock = some i) u w2) (het : e.txt = [])
    (ho : OwnI 6 ElmI w2 base 66 (fun i => AtB ρ u base i ∨ (u.heap.size ≤ i ∧ i < w2.heap.size ∧ v1'.ownBlock ≠ some i)) v1' (E.length + 1) (E.zip T ++ [(e, .slice none 0 0)]))
    (hv : v1'.ownBlock = v1.ownBlock ∨ ∀ i, v1'.ownBlock = some i → u.heap.size ≤ i) :
    BdT (w2.setCell ⟨g, 0, none⟩ v1') base g ⟨E ++ [e], opn⟩ := by
  obtain ⟨ρ', hρ'⟩ : ∃ ρ' : Nat → Nat, ρ' = fun i => if i < u.heap.size then ρ i else if v1'.ownBlock = some i then 2 else 0 := ⟨_, rfl⟩
  have hρ : ∀ i, i < u.heap.size → ρ' i = ρ i := fun i hi => by rw [hρ']; exact if_pos hi
  have hs : Fr (Just g) w2 (w2.setCell ⟨g, 0, none⟩ v1') := (Fr.refl (Just g) w2).setCell (p := ⟨g, 0, none⟩) (.inl (Just.at g)) _
  have hS : ∀ i, base ≤ i → i < u.heap.size → v1.ownBlock = some i → ρ i = 2 := fun i _ _ e => h.r1 i e
  have hgg : ¬ (v1.ownBlock = some g) := fun e => by have := h.r1 g e; have := h.rg; omega
  have hb : Bk w2 g 47 [v1, v2] := h.kbk hf hS (by omega)
  have hvg : v1'.ownBlock ≠ some g := by
    intro e
    rcases hv with hv | hv
    · exact hgg (by rw [← hv]; exact e)
    · have := hv g e; have := h.bk.lt; omega
  have hrv : ∀ i, v1'.ownBlock = some i → ρ' i = 2 := by
    intro i e
    rcases hv with hv | hv
    · rw [hv] at e; exact h.kr1 hρ i e
    · have := hv i e
      rw [hρ']
      simp only
      rw [if_neg (by omega), if_pos e]
  have hzz := hs.size
  have hzu := hf.size
  refine ⟨ρ', v1', v2, T ++ [.slice none 0 0], ?_⟩
  refine ⟨hb.set_ 0 v1', h.low, h.krg hρ, ?_, hrv, ?_, h.kr2 hρ, by simp [h.tl], ?_, ?_⟩
  · have hzip : (E ++ [e]).zip (T ++ [.slice none 0 0]) = E.zip T ++ [(e, Value.slice none 0 0)] := by rw [List.zip_append h.tl.symm]; rfl
    simp only [hzip, List.length_append, List.length_cons, List.length_nil]
    refine (ho.fr elm_ok hs (fun i hi e => ?_) (fun i hi e => hvg (by rw [show g = i from e.symm]; exact hi))).mono elm_ok (fun i hi => ?_)
    · have e : i = g := e
      subst e
      rcases hi with hi | hi
      · have := hi.2.2; have := h.rg; omega
      · have := h.bk.lt; omega
    · rcases hi with hi | hi
      · exact ⟨hi.1, Nat.lt_of_lt_of_le (Nat.lt_of_lt_of_le hi.2.1 hzu) hzz, by rw [hρ i hi.2.1]; exact hi.2.2⟩
      · have := h.low
        have := h.bk.lt
        refine ⟨by omega, by omega, ?_⟩
        rw [hρ']
        simp only
        rw [if_neg (by omega), if_neg hi.2.2]
  · exact hs.own (h.ko2 hf hS (by omega)) (fun i hi e => by have := h.r2 i hi; have := h.rg; rw [show i = g from e] at *; omega)
  · intro k hk hk'
    simp only [List.length_append, List.length_cons, List.length_nil] at hk hk'
    by_cases hkl : k < T.length
    · have hkE : k < E.length := by rw [← h.tl]; exact hkl
      simp only [List.getElem_append, hkl, hkE, dite_true]
      exact hs.own (h.kot hf hS k hkl hkE (by omega)) (fun i hi e => by have := h.rt k hkl i hi; have := h.rg; rw [show i = g from e] at *; omega)
    · have hkE : ¬ k < E.length := by rw [← h.tl]; exact hkl
      have e1 : k - E.length = 0 := by omega
      have e2 : k - T.length = 0 := by omega
      simp only [List.getElem_append, hkl, hkE, dite_false, e1, e2, List.getElem_cons_zero, het]
      exact ⟨rfl, .inl ⟨rfl, rfl⟩⟩
  · intro k hk i hi
    simp only [List.length_append, List.length_cons, List.length_nil] at hk
    by_cases hkl : k < T.length
    · simp only [List.getElem_append, hkl, dite_true] at hi
      exact h.krt hρ k hkl i hi
    · have e2 : k - T.length = 0 := by omega
      simp only [List.getElem_append, hkl, dite_false, e2, List.getElem_cons_zero] at hi
      cases hi

/-- another row of open ones -/
theorem BdV.put2 {v2' : Value} {opn' : List Int} (h : BdV ρ u base g v1 v2 T E opn) (hf : Fr (fun i => v2.ownBlock = some i) u w2) (ho : w2.ownsRow base 3 1 v2' opn'.length (ints opn'))
    (hv : v2'.ownBlock = v2.ownBlock ∨ ∀ i, v2'.ownBlock = some i → u.heap.size ≤ i) : ∃ ρ', BdV ρ' (w2.setCell ⟨g, 1, none⟩ v2') base g v1 v2' T E opn' := by
  obtain ⟨ρ', hρ'⟩ : ∃ ρ' : Nat → Nat, ρ' = fun i => if i < u.heap.size then ρ i else 3 := ⟨_, rfl⟩
  have hρ : ∀ i, i < u.heap.size → ρ' i = ρ i := fun i hi => by rw [hρ']; exact if_pos hi
  have hs : Fr (Just g) w2 (w2.setCell ⟨g, 1, none⟩ v2') := (Fr.refl (Just g) w2).setCell (p := ⟨g, 1, none⟩) (.inl (Just.at g)) _
  have hS : ∀ i, base ≤ i → i < u.heap.size → v2.ownBlock = some i → ρ i = 3 := fun i _ _ e => h.r2 i e
  have hgg : ¬ (v2.ownBlock = some g) := fun e => by have := h.r2 g e; have := h.rg; omega
  have hb : Bk w2 g 47 [v1, v2] := h.kbk hf hS (by omega)
  have hvg : v2'.ownBlock ≠ some g := by
    intro e
    rcases hv with hv | hv
    · exact hgg (by rw [← hv]; exact e)
    · have := hv g e; have := h.bk.lt; omega
  have hrv : ∀ i, v2'.ownBlock = some i → ρ' i = 3 := by
    intro i e
    rcases hv with hv | hv
    · rw [hv] at e; exact h.kr2 hρ i e
    · have := hv i e
      rw [hρ']
      simp only
      rw [if_neg (by omega)]
  have hzz := hs.size
  have hzu := hf.size
  refine ⟨ρ', hb.set_ 1 v2', h.low, h.krg hρ, ?_, h.kr1 hρ, hs.own ho (fun i hi e => hvg (by rw [show g = i from e.symm]; exact hi)), hrv, h.tl, ?_, fun k hk => h.krt hρ k hk⟩
  · refine ((h.ko1 (ρ' := ρ') hf hS hρ (by omega) (by omega)).fr elm_ok hs (fun i hi e => ?_) (fun i hi e => ?_)).mono elm_ok (fun i hi => ⟨hi.1, by have := hi.2.1; omega, hi.2.2⟩)
    · have := hi.2.2; have := h.krg hρ; rw [show i = g from e] at *; omega
    · have := h.r1 i hi; have := h.rg; rw [show i = g from e] at *; omega
  · intro k hk hk'
    exact hs.own (h.kot hf hS k hk hk' (by omega)) (fun i hi e => by have := h.rt k hk i hi; have := h.rg; rw [show i = g from e] at *; omega)

/-- a cell of one element -/
theorem BdV.at_ (h : BdV ρ u base g v1 v2 T E opn) {k : Nat} (hk : k < E.length) : ∃ b1 c1 X A n c, v1 = .slice (some ⟨b1, 0, none⟩) E.length c1 ∧ base ≤ b1 ∧ b1 < u.heap.size ∧ ρ b1 = 2 ∧ (∀ j x, [Value.int .i64 E[k].nod.parent, .string X, .string ⟨#[]⟩, .slice A n c, T[k]'(by rw [h.tl]; exact hk), .bool E[k].fil][j]? = some x → u.cell? ⟨b1, k * 6 + j, none⟩ = some x ∧ u.frozen? ⟨b1, k * 6 + j, none⟩ = false) ∧
    X.data.toList = E[k].nod.name ∧ RdI 2 AttrI u (AtB ρ u base) A n c E[k].nod.attrs := by
  obtain ⟨ys, ho, hi⟩ := h.o1.xs
  have hkT : k < T.length := by rw [h.tl]; exact hk
  have hkz : k < (E.zip T).length := by rw [List.length_zip]; omega
  have hat := ItemsF.at_ elm_ok hi k hkz
  obtain ⟨X, A, n, c, hcs, hX, hA, _⟩ := hat
  simp only [List.getElem_zip] at hcs hX hA
  obtain ⟨b1, c1, e1, hb, hlt, hnc, _⟩ := own_some ho (by omega)
  refine ⟨b1, c1, X, A, n, c, e1, hb, hlt, h.r1 b1 (by rw [e1]; rfl), fun j x hj => ?_, hX, hA⟩
  rw [e1] at ho
  rw [← hcs, List.getElem?_take] at hj
  split at hj
  · rw [List.getElem?_drop] at hj
    exact own_cellS ho hj
  · cases hj
theorem zip_set_left (E : List Elm) (T : List Value) (k : Nat) (e : Elm) (hk : k < E.length) (hT : k < T.length) : (E.zip T).set k (e, T[k]) = (E.set k e).zip T := by
  apply List.ext_getElem?
  intro j
  simp only [List.getElem?_set, List.zip_eq_zipWith, List.getElem?_zipWith]
  by_cases hj : k = j
  · subst hj
    simp [hk, hT]
    omega
  · simp [hj]
theorem zip_set_both (E : List Elm) (T : List Value) (k : Nat) (e : Elm) (v : Value) (hk : k < E.length) (hT : k < T.length) : (E.zip T).set k (e, v) = (E.set k e).zip (T.set k v) := by
  apply List.ext_getElem?
  intro j
  simp only [List.getElem?_set, List.zip_eq_zipWith, List.getElem?_zipWith]
  by_cases hj : k = j
  · subst hj
    simp [hk, hT]
    omega
  · simp [hj]
/-- there are elements in it -/
theorem BdV.setFil {b1 c1 k : Nat} (h : BdV ρ u base g (.slice (some ⟨b1, 0, none⟩) E.length c1) v2 T E opn) (hk : k < E.length) :
    BdV ρ (u.setCell ⟨b1, k * 6 + 5, none⟩ (.bool true)) base g (.slice (some ⟨b1, 0, none⟩) E.length c1) v2 T (E.set k { E[k] with fil := true }) opn := by
  have hr1 : ρ b1 = 2 := h.r1 b1 rfl
  have hs : Fr (Just b1) u (u.setCell ⟨b1, k * 6 + 5, none⟩ (.bool true)) := (Fr.refl (Just b1) u).setCell (p := ⟨b1, k * 6 + 5, none⟩) (.inl (Just.at b1)) _
  have hS : ∀ i, base ≤ i → i < u.heap.size → Just b1 i → ρ i = 2 := fun i _ _ e => by rw [show i = b1 from e]; exact hr1
  have hkT : k < T.length := by rw [h.tl]; exact hk
  obtain ⟨ys, ho, hi⟩ := h.o1.xs
  refine ⟨h.kbk hs hS (by omega), h.low, h.rg, ?_, h.r1, h.ko2 hs hS (by omega), h.r2, by simp [h.tl], ?_, h.rt⟩
  · simp only [List.length_set]
    refine ⟨ys.set (k * 6 + 5) (.bool true), own_setS ho (by omega) _, ?_⟩
    rw [← zip_set_left E T k _ hk hkT]
    have hi2 : ItemsF ElmI (u.setCell ⟨b1, k * 6 + 5, none⟩ (.bool true)) (AtB ρ (u.setCell ⟨b1, k * 6 + 5, none⟩ (.bool true)) base) ys (E.zip T) :=
      ItemsF.mono elm_ok (ItemsF.fr elm_ok hi hs (fun i hi e => by have := hi.2.2; rw [show i = b1 from e] at this; omega)) (fun i hi => ⟨hi.1, Nat.lt_of_lt_of_le hi.2.1 hs.size, hi.2.2⟩)
    refine ItemsF.setAt elm_ok hi2 k 5 (by rw [List.length_zip]; omega) (by omega) _ _ ?_
    rintro cs ⟨X, A, n, c, rfl, hX, hA, h1⟩
    simp only [List.getElem_zip] at hX hA h1 ⊢
    exact ⟨X, A, n, c, rfl, hX, hA, h1⟩
  · intro j hj hj'
    have hj2 : j < E.length := by simpa using hj'
    have e1 : (E.set k { E[k] with fil := true })[j].txt = E[j].txt := by
      rw [List.getElem_set]
      split
      · rename_i e; subst e; rfl
      · rfl
    rw [e1]
    exact h.kot hs hS j hj hj2 (by omega)
/-- other texts of one element -/
theorem BdV.setTxt {b1 c1 k : Nat} {tv : Value} {txt' : List UInt8} (h : BdV ρ u base g (.slice (some ⟨b1, 0, none⟩) E.length c1) v2 T E opn) (hk : k < E.length) (hkT : k < T.length) (hf : Fr (fun i => T[k].ownBlock = some i) u w2)
    (ho : w2.ownsRow base 5 1 tv txt'.length (u8s txt')) (hv : tv.ownBlock = T[k].ownBlock ∨ ∀ i, tv.ownBlock = some i → u.heap.size ≤ i) (h1 : tv.oneCell' = true) :
    ∃ ρ', BdV ρ' (w2.setCell ⟨b1, k * 6 + 4, none⟩ tv) base g (.slice (some ⟨b1, 0, none⟩) E.length c1) v2 (T.set k tv) (E.set k { E[k] with txt := txt' }) opn := by
  obtain ⟨ρ', hρ'⟩ : ∃ ρ' : Nat → Nat, ρ' = fun i => if i < u.heap.size then ρ i else 4 + k := ⟨_, rfl⟩
  have hρ : ∀ i, i < u.heap.size → ρ' i = ρ i := fun i hi => by rw [hρ']; exact if_pos hi
  have hr1 : ρ b1 = 2 := h.r1 b1 rfl
  have hb1 := h.o1.lt b1 rfl
  have hr1' : ρ' b1 = 2 := by rw [hρ b1 hb1.2]; exact hr1
  have hs : Fr (Just b1) w2 (w2.setCell ⟨b1, k * 6 + 4, none⟩ tv) := (Fr.refl (Just b1) w2).setCell (p := ⟨b1, k * 6 + 4, none⟩) (.inl (Just.at b1)) _
  have hS : ∀ i, base ≤ i → i < u.heap.size → T[k].ownBlock = some i → ρ i = 4 + k := fun i _ _ e => h.rt k hkT i e
  have hrv : ∀ i, tv.ownBlock = some i → ρ' i = 4 + k := by
    intro i e
    rcases hv with hv | hv
    · rw [hv] at e; exact h.krt hρ k hkT i e
    · have := hv i e
      rw [hρ']
      simp only
      rw [if_neg (by omega)]
  have hzz := hs.size
  have hzu := hf.size
  have hglt := h.bk.lt
  have hw2 : ∀ i, i < u.heap.size → ∀ r, ρ' i = r → r ≠ 2 → ¬ Just b1 i := fun i hi r hr h2 e => by rw [show i = b1 from e] at hr; omega
  refine ⟨ρ', (h.kbk hf hS (by omega)).fr hs (hw2 g hglt 1 (h.krg hρ) (by omega)), h.low, h.krg hρ, ?_, h.kr1 hρ, hs.own (h.ko2 hf hS (by omega)) (fun i hi => hw2 i (h.o2.lt i hi).2 3 (h.kr2 hρ i hi) (by omega)), h.kr2 hρ, by simp [h.tl], ?_, ?_⟩
  · simp only [List.length_set]
    obtain ⟨ys, ho1, hi⟩ := (h.ko1 (ρ' := ρ') hf hS hρ (by omega) (by omega)).xs
    refine ⟨ys.set (k * 6 + 4) tv, own_setS ho1 (by omega) _, ?_⟩
    rw [← zip_set_both E T k _ _ hk hkT]
    have hi2 : ItemsF ElmI (w2.setCell ⟨b1, k * 6 + 4, none⟩ tv) (AtB ρ' (w2.setCell ⟨b1, k * 6 + 4, none⟩ tv) base) ys (E.zip T) :=
      ItemsF.mono elm_ok (ItemsF.fr elm_ok hi hs (fun i hi e => by have := hi.2.2; rw [show i = b1 from e] at this; omega)) (fun i hi => ⟨hi.1, Nat.lt_of_lt_of_le hi.2.1 hs.size, hi.2.2⟩)
    refine ItemsF.setAt elm_ok hi2 k 4 (by rw [List.length_zip]; omega) (by omega) _ _ ?_
    rintro cs ⟨X, A, n, c, rfl, hX, hA, _⟩
    simp only [List.getElem_zip] at hX hA ⊢
    exact ⟨X, A, n, c, rfl, hX, hA, h1⟩
  · intro j hj hj'
    have hj2 : j < E.length := by simpa using hj'
    have hjT : j < T.length := by simpa using hj
    by_cases hjk : k = j
    · subst hjk
      simp only [List.getElem_set_self]
      refine hs.own ho (fun i hi e => ?_)
      have := hrv i hi
      rw [show i = b1 from e] at this
      omega
    · simp only [List.getElem_set, hjk, if_false]
      exact hs.own (h.kot hf hS j hjT hj2 (by omega)) (fun i hi => hw2 i ((h.ot j hjT hj2).lt i hi).2 (4 + j) (h.krt hρ j hjT i hi) (by omega))
  · intro j hj i hi
    have hjT : j < T.length := by simpa using hj
    by_cases hjk : k = j
    · subst hjk
      simp only [List.getElem_set_self] at hi
      exact hrv i hi
    · simp only [List.getElem_set, hjk, if_false] at hi
      exact h.krt hρ j hjT i hi
end
end Go.Proofs.YtdgfpjekahpggaaGreatDoor
