/- The texts CanRight, ModMath, joined. -/
import Derived.Test.YtbfodbejdaafaaaGreatDoorK15
import Derived.Test.YtbfodbejdaafaaaGreatDoorK12
/- Which rows may be written, as the program asks, and as the statements' own answer does: plain functions, no program. -/
namespace Go.Proofs.YtbfodbejdaafaaaGreatDoor
set_option linter.unusedVariables false

def attrB (x : List UInt8 × List UInt8) : Bool := nameOk x.1 && utf8B x.2
def unlikeB (a : List (List UInt8 × List UInt8)) : Bool := decide ((a.map (·.1)).Nodup)
def attrsB (a : List (List UInt8 × List UInt8)) : Bool := a.all attrB && unlikeB a
def soundB (n : Nod) : Bool := nameOk n.name && (utf8B n.text && (n.attrs.all attrB && unlikeB n.attrs))
/-- the text of the one that stands there -/
def textAt (l : List Nod) (p : Int) : List UInt8 := ((l[p.toNat]?).map (·.text)).getD []
def bareB (l : List Nod) (x : Nod) : Bool := decide (textAt l x.parent = [])
def nextO (o : List Int) (k : Nat) (p : Int) : List Int := o.takeWhile (fun x => decide (x ≠ p)) ++ [p, (k : Int)]
/-- as the program asks -/
def nestP (l : List Nod) : List Int → Nat → List Nod → Bool
  | _, _, [] => true
  | o, k, n :: r => o.contains n.parent && (bareB l n && (decide ((nextO o k n.parent).length ≤ 32) && nestP l (nextO o k n.parent) (k + 1) r))
def rightN (l : List Nod) : Bool := decide (0 < l.length) && (decide (l.length ≤ 500) && (((l.head?.map (·.parent)) == some (-1)) && (nestP l [0] 1 l.tail && l.all soundB)))
theorem soundB_iff (n : Nod) : soundB n = true ↔ SoundN n := by
  unfold soundB SoundN unlikeB attrB
  simp only [Bool.and_eq_true, List.all_eq_true, decide_eq_true_eq]
theorem nestP_eq (l : List Nod) : ∀ (r : List Nod) (o : List Int) (k : Nat), nestP l o k r = (nestF o k r && r.all (bareB l))
  | [], o, k => rfl
  | n :: r, o, k => by
    unfold nestP
    rw [nest_cons, nestP_eq l r]
    unfold nextO
    rw [List.all_cons]
    ac_rfl
theorem rightN_iff (l : List Nod) : rightN l = true ↔ RightL l := by
  unfold rightN RightL
  simp only [Bool.and_eq_true, decide_eq_true_eq, nestP_eq, List.all_eq_true, soundB_iff, beq_iff_eq]
  constructor
  · rintro ⟨h1, h2, h3, ⟨h4, h5⟩, h6⟩
    refine ⟨fun e => by simp [e] at h1, h2, h3, h4, h6, fun x hx => ?_⟩
    exact of_decide_eq_true (h5 x hx)
  · rintro ⟨h1, h2, h3, h4, h5, h6⟩
    refine ⟨List.length_pos_iff.2 h1, h2, h3, ⟨h4, fun x hx => ?_⟩, h5⟩
    exact decide_eq_true (h6 x hx)

/-! ### the statements' own answer -/
def parOk (l : List Nod) (i : Nat) (p : Int) : Bool := decide (0 ≤ p) && (decide (p < (i : Int)) && (chainL l (i - 1)).contains p)
def okB (l : List Nod) (i : Nat) (n : Nod) : Bool := (decide (i = 0) || parOk l i n.parent) && (nameOk n.name && (utf8B n.text && (attrsB n.attrs && decide ((chainF l 34 (i : Int)).length ≤ 32))))
/-- the first i of them -/
def oksB (l : List Nod) (i : Nat) : Bool := (l.take i).zipIdx.all (fun x => okB l x.2 x.1)
theorem oks_succ (l : List Nod) (i : Nat) (h : i < l.length) : oksB l (i + 1) = (oksB l i && okB l i l[i]) := by
  unfold oksB
  rw [List.take_succ_eq_append_getElem h, List.zipIdx_append, List.all_append]
  have : min i l.length = i := by omega
  simp [this]
theorem oks_at {l : List Nod} : ∀ (i : Nat), i ≤ l.length → (oksB l i = true ↔ ∀ j (h : j < l.length), j < i → okB l j l[j] = true)
  | 0, _ => by simp [oksB]
  | i + 1, hi => by
    rw [oks_succ l i (by omega), Bool.and_eq_true, oks_at i (by omega)]
    constructor
    · rintro ⟨h1, h2⟩ j hj hji
      by_cases h : j = i
      · subst h; exact h2
      · exact h1 j hj (by omega)
    · intro h
      exact ⟨fun j hj hji => h j hj (by omega), h i (by omega) (by omega)⟩
theorem parOk_iff {n0 : Nod} {r : List Nod} {i : Nat} {n : Nod} (hn : (n0 :: r)[i]? = some n) (hi : 1 ≤ i) :
    (parOk (n0 :: r) i n.parent = true ∧ (chainF (n0 :: r) 34 (i : Int)).length ≤ 32) ↔ RefOk (n0 :: r) i := by
  unfold parOk RefOk
  simp only [Bool.and_eq_true, decide_eq_true_eq]
  constructor
  · rintro ⟨⟨h1, h2, h3⟩, h4⟩
    obtain ⟨p, hp⟩ := Int.eq_ofNat_of_zero_le h1
    rw [hp] at h2 h3
    exact ⟨n, p, hn, hp, by omega, by simpa using h3, h4⟩
  · rintro ⟨m, p, hm, hp, h2, h3, h4⟩
    rw [hn] at hm
    injection hm with hm
    subst hm
    rw [hp]
    exact ⟨⟨by omega, by omega, by simpa using h3⟩, h4⟩
/-- what stands ahead is as it must: the parents lead to the first one -/
theorem oks_valid {n0 : Nod} {r : List Nod} (h0 : n0.parent = -1) {i : Nat} (hi : i ≤ r.length) (h : oksB (n0 :: r) (i + 1) = true) : Valid (n0 :: r) i := by
  rw [oks_at (i + 1) (by simpa using hi)] at h
  refine ((nest_ref h0 i hi).2 ((nest_ref h0 i hi).1.2 fun j h1 h2 => ?_)).1
  have hj : j < (n0 :: r).length := by simp; omega
  have := h j hj (by omega)
  unfold okB at this
  simp only [Bool.and_eq_true, Bool.or_eq_true, decide_eq_true_eq] at this
  obtain ⟨h3 | h3, _, _, _, h4⟩ := this
  · omega
  · exact (parOk_iff (List.getElem?_eq_getElem hj) h1).1 ⟨h3, h4⟩
def refB (l : List Nod) : Bool := decide (0 < l.length) && (decide (l.length ≤ 500) && (((l.head?.map (·.parent)) == some (-1)) && (oksB l l.length && l.tail.all (bareB l))))
theorem sound_attrs (n : Nod) : soundB n = (nameOk n.name && (utf8B n.text && attrsB n.attrs)) := rfl
theorem ref_rightN (l : List Nod) : refB l = rightN l := by
  unfold refB rightN
  cases l with
  | nil => rfl
  | cons n0 r =>
    rw [nestP_eq]
    simp only [List.tail_cons, List.head?_cons, Option.map_some]
    by_cases h0 : n0.parent = -1
    · have key : oksB (n0 :: r) (n0 :: r).length = (nestF [0] 1 r && (n0 :: r).all soundB) := by
        rw [Bool.eq_iff_iff, oks_at _ (Nat.le_refl _), Bool.and_eq_true]
        have hz := (nest_ref h0 r.length (Nat.le_refl _)).1
        rw [List.take_length] at hz
        rw [hz, List.all_eq_true]
        constructor
        · intro h
          refine ⟨fun i h1 h2 => ?_, fun x hx => ?_⟩
          · have hj : i < (n0 :: r).length := by simp; omega
            have := h i hj hj
            unfold okB at this
            simp only [Bool.and_eq_true, Bool.or_eq_true, decide_eq_true_eq] at this
            obtain ⟨h3 | h3, _, _, _, h4⟩ := this
            · omega
            · exact (parOk_iff (List.getElem?_eq_getElem hj) h1).1 ⟨h3, h4⟩
          · obtain ⟨i, hi, rfl⟩ := List.getElem_of_mem hx
            have := h i hi hi
            unfold okB at this
            simp only [Bool.and_eq_true] at this
            rw [sound_attrs, Bool.and_eq_true, Bool.and_eq_true]
            exact ⟨this.2.1, this.2.2.1, this.2.2.2.1⟩
        · rintro ⟨h1, h2⟩ j hj _
          have hs := h2 _ (List.getElem_mem hj)
          rw [sound_attrs, Bool.and_eq_true, Bool.and_eq_true] at hs
          unfold okB
          simp only [Bool.and_eq_true, Bool.or_eq_true, decide_eq_true_eq]
          rcases Nat.eq_zero_or_pos j with hj0 | hj0
          · subst hj0
            refine ⟨.inl rfl, hs.1, hs.2.1, hs.2.2, ?_⟩
            rw [chain_at (n := n0) 33 rfl, chain_neg _ _ (by omega)]
            simp
          · have := (parOk_iff (List.getElem?_eq_getElem hj) hj0).2 (h1 j hj0 (by simp at hj; omega))
            exact ⟨.inr this.1, hs.1, hs.2.1, hs.2.2, this.2⟩
      rw [key]
      ac_rfl
    · have : (some n0.parent == some (-1)) = false := by simpa using h0
      rw [this]
      simp
end Go.Proofs.YtbfodbejdaafaaaGreatDoor
/- The models, and what a file must be: plain functions, no program. -/
namespace Go.Proofs.YtbfodbejdaafaaaGreatDoor
set_option linter.unusedVariables false

structure Chd where
  nm : ByteArray
  mn : Int
  mx : Int
  ty : Int
  low : Int
  top : Int
def Chd.name (c : Chd) : List UInt8 := c.nm.data.toList
def Chd.cells (c : Chd) : List Value := [.string c.nm, .int .i64 c.mn, .int .i64 c.mx, .int .i64 c.ty, .int .i64 c.low, .int .i64 c.top]
def Chd.val (c : Chd) : Value := .agg #[.string c.nm, .int .i64 c.mn, .int .i64 c.mx, .int .i64 c.ty, .int .i64 c.low, .int .i64 c.top]
def zChd : Chd := ⟨⟨#[]⟩, 0, 0, 0, 0, 0⟩
def cellsL (l : List Chd) : List Value := l.flatMap Chd.cells
def docS : List UInt8 := [68, 111, 99, 117, 109, 101, 110, 116]
def hdrS : List UInt8 := [72, 100, 114]
def bodyS : List UInt8 := [66, 111, 100, 121]
def orgS : List UInt8 := [79, 114, 103, 110, 108, 84, 120]
def extS : List UInt8 := [83, 112, 108, 109, 116, 114, 121, 68, 97, 116, 97]
def xmlnsS : List UInt8 := [120, 109, 108, 110, 115]
def caaaS : List UInt8 := [117, 114, 110, 58, 99, 111, 109, 112, 116, 111, 105, 114, 58, 99, 97, 97, 97]
def docC : List Chd := [⟨⟨#[72, 100, 114]⟩, 1, 1, 8, 0, 0⟩, ⟨⟨#[66, 111, 100, 121]⟩, 1, 1, 8, 0, 0⟩]
def hdrC : List Chd := [⟨⟨#[77, 115, 103, 70, 99, 116, 110]⟩, 1, 1, 3, 4, 4⟩, ⟨⟨#[88, 99, 104, 103, 73, 100]⟩, 1, 1, 1, 1, 6⟩, ⟨⟨#[67, 114, 101, 68, 116, 84, 109]⟩, 1, 1, 4, 19, 19⟩, ⟨⟨#[73, 110, 105, 116, 103, 80, 116, 121]⟩, 1, 1, 1, 1, 11⟩]
def bodyC : List Chd := [⟨⟨#[80, 65, 78]⟩, 0, 1, 1, 12, 19⟩, ⟨⟨#[84, 116, 108, 65, 109, 116]⟩, 0, 1, 5, 4, 13⟩, ⟨⟨#[67, 99, 121]⟩, 0, 1, 1, 3, 3⟩, ⟨⟨#[82, 82, 78]⟩, 0, 1, 6, 12, 12⟩, ⟨⟨#[77, 114, 99, 104, 110, 116, 73, 100]⟩, 0, 1, 2, 1, 35⟩, ⟨⟨#[84, 101, 114, 109, 110, 108, 73, 100]⟩, 0, 1, 2, 1, 35⟩, ⟨⟨#[78, 116, 114, 121, 77, 100]⟩, 0, 1, 1, 1, 3⟩, ⟨⟨#[82, 115, 112, 110]⟩, 0, 1, 3, 4, 4⟩, ⟨⟨#[82, 115, 112, 110, 82, 115, 110]⟩, 0, 1, 3, 4, 4⟩, ⟨⟨#[65, 117, 116, 104, 115, 116, 110, 67, 100]⟩, 0, 1, 6, 6, 6⟩, ⟨⟨#[82, 115, 110]⟩, 0, 1, 1, 4, 4⟩, ⟨⟨#[79, 114, 103, 110, 108, 84, 120]⟩, 0, 1, 8, 0, 0⟩, ⟨⟨#[73, 67, 67, 68, 97, 116, 97]⟩, 0, 1, 7, 2, 510⟩, ⟨⟨#[78, 111, 116, 101]⟩, 0, 1, 2, 1, 140⟩, ⟨⟨#[83, 112, 108, 109, 116, 114, 121, 68, 97, 116, 97]⟩, 0, 8, 8, 0, 0⟩, ⟨⟨#[82, 115, 100, 108, 75, 101, 121]⟩, 0, 1, 7, 8, 8⟩]
def orgC : List Chd := [⟨⟨#[88, 99, 104, 103, 73, 100]⟩, 1, 1, 1, 1, 6⟩, ⟨⟨#[67, 114, 101, 68, 116, 84, 109]⟩, 1, 1, 4, 19, 19⟩]
def extC : List Chd := [⟨⟨#[78, 109]⟩, 1, 1, 2, 1, 20⟩, ⟨⟨#[86, 97, 108]⟩, 1, 1, 2, 1, 100⟩]
def modelL (nm : List UInt8) : Option (List Chd) := if nm = docS then some docC else if nm = hdrS then some hdrC else if nm = bodyS then some bodyC else if nm = orgS then some orgC else if nm = extS then some extC else none
/-- a model's, by name -/
def childL (cs : List Chd) (nm : List UInt8) : Chd := (cs.find? (fun c => c.name == nm)).getD zChd
/-- are names a model's, in order, as often as may be? -/
def fillB : List Chd → List (List UInt8) → Bool
  | [], ns => ns.isEmpty
  | c :: cs, ns => decide (c.mn ≤ ((ns.takeWhile (· == c.name)).length : Int)) && (decide (((ns.takeWhile (· == c.name)).length : Int) ≤ c.mx) && fillB cs (ns.drop (ns.takeWhile (· == c.name)).length))
def namesK (ns : List Nod) (i : Nat) : List (List UInt8) := (kidsL ns (i : Int)).map (fun (k : Nat) => nameAt ns (k : Int))
/-- what a node has to be, but for the first one's own -/
def nodE (ns : List Nod) (i : Nat) : Int :=
  match ns[i]? with
  | none => 0
  | some n =>
    if 0 < i ∧ n.attrs ≠ [] then 13
    else match modelL n.name with
      | some cs => if blankB n.text && fillB cs (namesK ns i) then 0 else 13
      | none => if kidsL ns (i : Int) ≠ [] then 13 else chkE (childL ((modelL (nameAt ns n.parent)).getD []) n.name).ty (childL ((modelL (nameAt ns n.parent)).getD []) n.name).low (childL ((modelL (nameAt ns n.parent)).getD []) n.name).top n.text
def nodF (ns : List Nod) : Nat → Int
  | 0 => 0
  | k + 1 => if nodF ns k = 0 then nodE ns k else nodF ns k
def firstB (ns : List Nod) : Bool :=
  match ns with
  | [] => false
  | n :: _ => decide (n.name = docS) && decide (n.attrs = [(xmlnsS, caaaS)])
def chkN (ns : List Nod) : Int := if rightN ns then (if firstB ns then nodF ns ns.length else 13) else 10

/-! ### what follows -/
theorem model_some {nm : List UInt8} {cs : List Chd} (h : modelL nm = some cs) : cs = docC ∨ cs = hdrC ∨ cs = bodyC ∨ cs = orgC ∨ cs = extC := by
  unfold modelL at h
  repeat' split at h
  all_goals first
    | (injection h with h; subst h; simp)
    | cases h
def ownB (cs : List Chd) : Bool := (List.range cs.length).all (fun m => decide ((cs.find? (fun c => c.name == ((cs[m]?).getD zChd).name)).map (fun c => (c.nm.data, c.mn, c.mx, c.ty, c.low, c.top)) = some ((((cs[m]?).getD zChd).nm.data, ((cs[m]?).getD zChd).mn, ((cs[m]?).getD zChd).mx, ((cs[m]?).getD zChd).ty, ((cs[m]?).getD zChd).low, ((cs[m]?).getD zChd).top))))
theorem own_child {cs : List Chd} (h : ownB cs = true) {m : Nat} (hm : m < cs.length) : childL cs cs[m].name = cs[m] := by
  unfold ownB at h
  rw [List.all_eq_true] at h
  have h1 := of_decide_eq_true (h m (List.mem_range.2 hm))
  rw [List.getElem?_eq_getElem hm, Option.getD_some] at h1
  unfold childL
  cases hf : cs.find? (fun c => c.name == cs[m].name) with
  | none => rw [hf] at h1; cases h1
  | some d =>
    rw [hf, Option.map_some] at h1
    injection h1 with h1
    obtain ⟨⟨dd⟩, d1, d2, d3, d4, d5⟩ := d
    generalize cs[m] = x at h1 ⊢
    obtain ⟨⟨xd⟩, x1, x2, x3, x4, x5⟩ := x
    simp only [Prod.mk.injEq] at h1
    obtain ⟨rfl, rfl, rfl, rfl, rfl, rfl⟩ := h1
    rfl
theorem model_own {nm : List UInt8} {cs : List Chd} (h : modelL nm = some cs) : ownB cs = true := by
  rcases model_some h with rfl | rfl | rfl | rfl | rfl <;> kernel_rfl
theorem nodF_le {ns : List Nod} : ∀ {k : Nat}, nodF ns k = 0 → ∀ j, j < k → nodE ns j = 0
  | 0, _, j, hj => by omega
  | k + 1, h, j, hj => by
    unfold nodF at h
    split at h
    · rename_i h0
      rcases Nat.lt_or_ge j k with h1 | h1
      · exact nodF_le h0 j h1
      · rw [show j = k from by omega]; exact h
    · rename_i h0; exact absurd h h0
theorem nodF_bad {ns : List Nod} {k : Nat} (h0 : nodF ns k ≠ 0) : ∀ {m : Nat}, k ≤ m → nodF ns m = nodF ns k
  | 0, hm => by rw [show k = 0 from by omega]
  | m + 1, hm => by
    rcases Nat.lt_or_ge m k with h1 | h1
    · rw [show k = m + 1 from by omega]
    · have h2 := nodF_bad h0 h1
      rw [show nodF ns (m + 1) = if nodF ns m = 0 then nodE ns m else nodF ns m from rfl, h2, if_neg h0]
theorem nodF_at {ns : List Nod} {k : Nat} (h0 : nodF ns k = 0) : nodF ns (k + 1) = nodE ns k := by
  rw [nodF, if_pos h0]
theorem nodF_err {ns : List Nod} {k : Nat} (h0 : nodF ns k = 0) (h1 : nodE ns k ≠ 0) (hk : k < ns.length) : nodF ns ns.length = nodE ns k := by
  rw [← nodF_at h0]
  exact nodF_bad (by rw [nodF_at h0]; exact h1) (by omega)
end Go.Proofs.YtbfodbejdaafaaaGreatDoor
