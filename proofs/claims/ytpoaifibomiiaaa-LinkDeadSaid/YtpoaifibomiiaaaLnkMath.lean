/- Frames on a line: plain functions on lists of bytes, no program. -/
import Derived.Test.YtpoaifibomiiaaaBeMath
namespace Go.Proofs.Ytpoaifibomiiaaa
set_option linter.unusedVariables false

/-- the length that the first two bytes say -/
def num2 (x : List UInt8) : Nat := beN (x.take 2)
/-- the frames that wait, and what is left; none: a length that may not be -/
def cutF : Nat → List UInt8 → Option (List (List UInt8) × List UInt8)
  | 0, x => some ([], x)
  | f + 1, x => if x.length < 2 then some ([], x) else if num2 x = 0 ∨ 4096 < num2 x then none else if x.length < 2 + num2 x then some ([], x)
    else (cutF f (x.drop (2 + num2 x))).map fun p => ((x.drop 2).take (num2 x) :: p.1, p.2)
def cutL (x : List UInt8) : Option (List (List UInt8) × List UInt8) := cutF x.length x

theorem cutF_enough : ∀ (f g : Nat) (x : List UInt8), x.length ≤ f → x.length ≤ g → cutF f x = cutF g x := by
  intro f
  induction f with
  | zero =>
    intro g x h1 h2
    have : x = [] := List.eq_nil_of_length_eq_zero (by omega)
    subst this
    cases g with
    | zero => rfl
    | succ g => simp [cutF]
  | succ f ih =>
    intro g x h1 h2
    cases g with
    | zero =>
      have : x = [] := List.eq_nil_of_length_eq_zero (by omega)
      subst this
      simp [cutF]
    | succ g =>
      unfold cutF
      split
      · rfl
      · split
        · rfl
        · split
          · rfl
          · rw [ih g _ (by rw [List.length_drop]; omega) (by rw [List.length_drop]; omega)]
theorem cut_short {x : List UInt8} (h : x.length < 2) : cutL x = some ([], x) := by
  unfold cutL
  cases hx : x.length with
  | zero => rfl
  | succ n =>
    unfold cutF
    rw [if_pos h]
theorem cut_dead {x : List UInt8} (h : 2 ≤ x.length) (hn : num2 x = 0 ∨ 4096 < num2 x) : cutL x = none := by
  unfold cutL
  obtain ⟨n, hx⟩ : ∃ n, x.length = n + 1 := ⟨x.length - 1, by omega⟩
  rw [hx]
  unfold cutF
  rw [if_neg (by omega), if_pos hn]
theorem cut_wait {x : List UInt8} (h : 2 ≤ x.length) (hn : ¬ (num2 x = 0 ∨ 4096 < num2 x)) (hs : x.length < 2 + num2 x) : cutL x = some ([], x) := by
  unfold cutL
  obtain ⟨n, hx⟩ : ∃ n, x.length = n + 1 := ⟨x.length - 1, by omega⟩
  rw [hx]
  unfold cutF
  rw [if_neg (by omega), if_neg hn, if_pos hs]
theorem cut_one {x : List UInt8} (h : 2 ≤ x.length) (hn : ¬ (num2 x = 0 ∨ 4096 < num2 x)) (hs : 2 + num2 x ≤ x.length) :
    cutL x = (cutL (x.drop (2 + num2 x))).map fun p => ((x.drop 2).take (num2 x) :: p.1, p.2) := by
  unfold cutL
  obtain ⟨n, hx⟩ : ∃ n, x.length = n + 1 := ⟨x.length - 1, by omega⟩
  rw [hx]
  show (if x.length < 2 then _ else _) = _
  rw [if_neg (by omega), if_neg hn, if_neg (by omega), cutF_enough n _ _ (by rw [List.length_drop]; omega) (Nat.le_refl _)]
theorem num2_app {x : List UInt8} (h : 2 ≤ x.length) (y : List UInt8) : num2 (x ++ y) = num2 x := by
  unfold num2
  rw [List.take_append_of_le_length h]
/-- what waits is short of a frame -/
theorem cut_rest : ∀ (n : Nat) (x : List UInt8), x.length ≤ n → ∀ p, cutL x = some p → p.2.length ≤ 4097 ∧ p.2.length ≤ x.length := by
  intro n
  induction n with
  | zero =>
    intro x h p hp
    rw [cut_short (by omega)] at hp
    injection hp with hp
    subst hp
    exact ⟨by simp only []; omega, Nat.le_refl _⟩
  | succ n ih =>
    intro x h p hp
    by_cases h1 : x.length < 2
    · rw [cut_short h1] at hp
      injection hp with hp
      subst hp
      exact ⟨by simp only []; omega, Nat.le_refl _⟩
    by_cases h2 : num2 x = 0 ∨ 4096 < num2 x
    · rw [cut_dead (by omega) h2] at hp
      cases hp
    by_cases h3 : x.length < 2 + num2 x
    · rw [cut_wait (by omega) h2 h3] at hp
      injection hp with hp
      subst hp
      exact ⟨by simp only []; omega, Nat.le_refl _⟩
    rw [cut_one (by omega) h2 (by omega)] at hp
    obtain ⟨q, hq, rfl⟩ := Option.map_eq_some_iff.1 hp
    have := ih _ (by rw [List.length_drop]; omega) q hq
    rw [List.length_drop] at this
    exact ⟨this.1, by simp only []; omega⟩
/-- more behind: what is told is told, what waits goes on -/
theorem cut_app : ∀ (n : Nat) (x : List UInt8), x.length ≤ n → ∀ (y : List UInt8) p, cutL x = some p → cutL (x ++ y) = (cutL (p.2 ++ y)).map fun q => (p.1 ++ q.1, q.2) := by
  intro n
  induction n with
  | zero =>
    intro x h y p hp
    rw [cut_short (by omega)] at hp
    injection hp with hp
    subst hp
    cases cutL (x ++ y) <;> simp
  | succ n ih =>
    intro x h y p hp
    by_cases h1 : x.length < 2
    · rw [cut_short h1] at hp
      injection hp with hp
      subst hp
      cases cutL (x ++ y) <;> simp
    by_cases h2 : num2 x = 0 ∨ 4096 < num2 x
    · rw [cut_dead (by omega) h2] at hp
      cases hp
    by_cases h3 : x.length < 2 + num2 x
    · rw [cut_wait (by omega) h2 h3] at hp
      injection hp with hp
      subst hp
      cases cutL (x ++ y) <;> simp
    rw [cut_one (by omega) h2 (by omega)] at hp
    obtain ⟨q, hq, rfl⟩ := Option.map_eq_some_iff.1 hp
    have e := num2_app (x := x) (by omega) y
    have d1 : (x ++ y).drop (2 + num2 x) = x.drop (2 + num2 x) ++ y := List.drop_append_of_le_length (by omega)
    have d2 : ((x ++ y).drop 2).take (num2 x) = (x.drop 2).take (num2 x) := by rw [List.drop_append_of_le_length (by omega), List.take_append_of_le_length (by rw [List.length_drop]; omega)]
    rw [cut_one (by rw [List.length_append]; omega) (by rw [e]; exact h2) (by rw [e, List.length_append]; omega), e, d1, d2, ih _ (by rw [List.length_drop]; omega) y q hq]
    cases cutL (q.2 ++ y) <;> simp
/-- dead is dead -/
theorem cut_none : ∀ (n : Nat) (x : List UInt8), x.length ≤ n → ∀ (y : List UInt8), cutL x = none → cutL (x ++ y) = none := by
  intro n
  induction n with
  | zero =>
    intro x h y hp
    rw [cut_short (by omega)] at hp
    cases hp
  | succ n ih =>
    intro x h y hp
    by_cases h1 : x.length < 2
    · rw [cut_short h1] at hp
      cases hp
    have e := num2_app (x := x) (by omega) y
    by_cases h2 : num2 x = 0 ∨ 4096 < num2 x
    · exact cut_dead (by rw [List.length_append]; omega) (by rw [e]; exact h2)
    by_cases h3 : x.length < 2 + num2 x
    · rw [cut_wait (by omega) h2 h3] at hp
      cases hp
    rw [cut_one (by omega) h2 (by omega)] at hp
    rw [cut_one (by rw [List.length_append]; omega) (by rw [e]; exact h2) (by rw [e, List.length_append]; omega), e, show (x ++ y).drop (2 + num2 x) = x.drop (2 + num2 x) ++ y from List.drop_append_of_le_length (by omega), ih _ (by rw [List.length_drop]; omega) y (by simpa using hp)]
    rfl

/-! ### one frame -/
def frmE (b : List UInt8) : Int := if b = [] then 1 else if 4096 < b.length then 4 else 0
def frmL (b : List UInt8) : List UInt8 := if b = [] then [] else if 4096 < b.length then [] else low b.length 2 ++ b
theorem frm_ok {b : List UInt8} (h1 : 1 ≤ b.length) (h2 : b.length ≤ 4096) : frmE b = 0 ∧ frmL b = low b.length 2 ++ b := by
  have h0 : b ≠ [] := fun e => by rw [e] at h1; simp at h1
  unfold frmE frmL
  rw [if_neg h0, if_neg h0, if_neg (by omega), if_neg (by omega)]
  exact ⟨rfl, rfl⟩
theorem num2_low {n : Nat} (h : n < 65536) (y : List UInt8) : num2 (low n 2 ++ y) = n := by
  unfold num2
  rw [List.take_left' (by simp), beN_low' 2 n]
  omega
theorem cut_frame {b : List UInt8} (h1 : 1 ≤ b.length) (h2 : b.length ≤ 4096) (y : List UInt8) : cutL (low b.length 2 ++ b ++ y) = (cutL y).map fun p => (b :: p.1, p.2) := by
  have e : num2 (low b.length 2 ++ b ++ y) = b.length := by rw [List.append_assoc]; exact num2_low (by omega) _
  have hl : (low b.length 2 ++ b ++ y).length = 2 + b.length + y.length := by simp; omega
  rw [cut_one (by omega) (by omega) (by omega), e]
  have d : (low b.length 2 ++ b ++ y).drop (2 + b.length) = y := List.drop_left' (by simp)
  have t : ((low b.length 2 ++ b ++ y).drop 2).take b.length = b := by
    rw [List.append_assoc, List.drop_left' (by simp), List.take_left' rfl]
  rw [d, t]

/-! ### what a link does: what waits; none: it is dead -/
def feedO (st : Option (List UInt8)) (b : List UInt8) : Option (List (List UInt8) × List UInt8) := st.bind fun x => cutL (x ++ b)
def feedS (st : Option (List UInt8)) (b : List UInt8) : Option (List UInt8) := (feedO st b).map (·.2)
def feedF (st : Option (List UInt8)) (b : List UInt8) : List (List UInt8) := match feedO st b with | none => [] | some p => p.1
def feedE (st : Option (List UInt8)) (b : List UInt8) : Int := if (feedO st b).isSome then 0 else 4
theorem feed_some {st : Option (List UInt8)} {b : List UInt8} {p} (h : feedO st b = some p) : feedS st b = some p.2 ∧ feedF st b = p.1 ∧ feedE st b = 0 := by
  unfold feedS feedF feedE
  rw [h]
  exact ⟨rfl, rfl, rfl⟩
theorem feed_none {st : Option (List UInt8)} {b : List UInt8} (h : feedO st b = none) : feedS st b = none ∧ feedF st b = [] ∧ feedE st b = 4 := by
  unfold feedS feedF feedE
  rw [h]
  exact ⟨rfl, rfl, rfl⟩
/-- two bytes that say a length: dead, or waiting for more than come -/
theorem feed_len (b : List UInt8) (more : List UInt8) (hb : b.length = 2) (h0 : num2 b ≠ 0) (hm : more.length ≤ 100) (hn : 200 ≤ num2 b) :
    feedE (some []) b = (if 4096 < num2 b then 4 else 0) ∧ feedE (feedS (some []) b) more = (if 4096 < num2 b then 4 else 0) := by
  by_cases h : 4096 < num2 b
  · have e : feedO (some []) b = none := cut_dead (by simp; omega) (.inr (by simpa using h))
    obtain ⟨e1, e2, e3⟩ := feed_none e
    rw [e3, e1, if_pos h]
    exact ⟨rfl, rfl⟩
  · have e : feedO (some []) b = some ([], b) := cut_wait (x := b) (by omega) (by omega) (by omega)
    obtain ⟨e1, e2, e3⟩ := feed_some e
    have hn2 : num2 (b ++ more) = num2 b := num2_app (by omega) more
    have f : feedO (some b) more = some ([], b ++ more) := cut_wait (by simp; omega) (by rw [hn2]; omega) (by rw [hn2]; simp; omega)
    rw [e3, e1, if_neg h]
    exact ⟨rfl, (feed_some f).2.2⟩

/-! ### rows of frames, in parts -/
def joinF : List (List UInt8) → List UInt8
  | [] => []
  | m :: ms => low m.length 2 ++ m ++ joinF ms
theorem joinF_snoc (ms : List (List UInt8)) (m : List UInt8) : joinF (ms ++ [m]) = joinF ms ++ (low m.length 2 ++ m) := by
  induction ms with
  | nil => simp [joinF]
  | cons a ms ih => simp [joinF, ih]
theorem cut_join : ∀ (ms : List (List UInt8)), (∀ m ∈ ms, 1 ≤ m.length ∧ m.length ≤ 4096) → cutL (joinF ms) = some (ms, [])
  | [], _ => rfl
  | m :: ms, h => by
    have h1 := h m (by simp)
    show cutL (low m.length 2 ++ m ++ joinF ms) = _
    rw [cut_frame h1.1 h1.2, cut_join ms (fun x hx => h x (by simp [hx]))]
    rfl
/-- one part more of what is a row of frames -/
theorem part_next {all : List UInt8} {ms : List (List UInt8)} (h : cutL all = some (ms, [])) {t n : Nat} {fs : List (List UInt8)} {r : List UInt8} (hp : cutL (all.take t) = some (fs, r)) :
    ∃ fs2 r2, feedE (some r) ((all.drop t).take n) = 0 ∧ feedF (some r) ((all.drop t).take n) = fs2 ∧ feedS (some r) ((all.drop t).take n) = some r2 ∧ cutL (all.take (t + n)) = some (fs ++ fs2, r2) := by
  have e : all.take (t + n) = all.take t ++ (all.drop t).take n := List.take_add
  have h2 := cut_app _ _ (Nat.le_refl _) ((all.drop t).take n) _ hp
  rw [← e] at h2
  cases hc : cutL (r ++ (all.drop t).take n) with
  | none =>
    rw [hc] at h2
    have h3 := cut_none _ _ (Nat.le_refl _) (all.drop (t + n)) h2
    rw [List.take_append_drop, h] at h3
    cases h3
  | some q =>
    rw [hc] at h2
    have ho : feedO (some r) ((all.drop t).take n) = some q := hc
    obtain ⟨a, b, c⟩ := feed_some ho
    exact ⟨q.1, q.2, c, b, a, h2⟩
theorem part_end {all : List UInt8} {ms : List (List UInt8)} (h : cutL all = some (ms, [])) {t : Nat} (ht : all.length ≤ t) {fs : List (List UInt8)} {r : List UInt8} (hp : cutL (all.take t) = some (fs, r)) : fs = ms := by
  rw [List.take_of_length_le ht, h] at hp
  injection hp with hp
  injection hp with h1 h2
  exact h1.symm
theorem cut_len : ∀ (n : Nat) (x : List UInt8), x.length ≤ n → ∀ p, cutL x = some p → p.1.length ≤ x.length := by
  intro n
  induction n with
  | zero =>
    intro x h p hp
    rw [cut_short (by omega)] at hp
    injection hp with hp
    subst hp
    simp
  | succ n ih =>
    intro x h p hp
    by_cases h1 : x.length < 2
    · rw [cut_short h1] at hp
      injection hp with hp
      subst hp
      simp
    by_cases h2 : num2 x = 0 ∨ 4096 < num2 x
    · rw [cut_dead (by omega) h2] at hp
      cases hp
    by_cases h3 : x.length < 2 + num2 x
    · rw [cut_wait (by omega) h2 h3] at hp
      injection hp with hp
      subst hp
      simp
    rw [cut_one (by omega) h2 (by omega)] at hp
    obtain ⟨q, hq, rfl⟩ := Option.map_eq_some_iff.1 hp
    have := ih _ (by rw [List.length_drop]; omega) q hq
    rw [List.length_drop] at this
    simp only [List.length_cons]
    omega
end Go.Proofs.Ytpoaifibomiiaaa
