/- The texts EleMath, Bits, joined. -/
import Derived.Test.YtpkalnkeafggjaaGreatDoorK05
import Derived.Test.YtpkalnkeafggjaaGreatDoorK01
import Derived.Laws.BitsLemmas
import Derived.IntWalk
/- Data elements as plain functions: the table, which data may be, how they are written and read; what is written is read. No program. -/
namespace Go.Proofs.YtpkalnkeafggjaaGreatDoor
set_option linter.unusedVariables false

/-- a row of the table: number, kind, digits of the length, greatest length, whether it is a spare one -/
structure FRow where
  no : Int
  kind : Int
  dig : Nat
  top : Nat
  spare : Bool
deriving DecidableEq
def elT : List FRow := [⟨2, 1, 2, 19, false⟩, ⟨4, 1, 0, 12, false⟩, ⟨11, 1, 0, 6, false⟩, ⟨12, 1, 0, 14, false⟩, ⟨22, 1, 0, 3, false⟩, ⟨25, 1, 0, 4, false⟩, ⟨32, 1, 2, 11, false⟩, ⟨37, 2, 0, 12, false⟩, ⟨38, 2, 0, 6, false⟩, ⟨39, 1, 0, 3, false⟩,
  ⟨41, 3, 0, 8, false⟩, ⟨42, 3, 0, 15, false⟩, ⟨43, 3, 2, 40, true⟩, ⟨48, 3, 3, 8, false⟩, ⟨49, 1, 0, 3, false⟩, ⟨55, 4, 3, 255, false⟩, ⟨56, 1, 0, 20, false⟩, ⟨60, 3, 3, 100, true⟩, ⟨61, 3, 3, 100, true⟩, ⟨62, 3, 3, 100, true⟩, ⟨63, 3, 3, 100, true⟩,
  ⟨102, 3, 2, 28, true⟩, ⟨103, 3, 2, 28, true⟩, ⟨120, 4, 4, 999, true⟩]
def elNone : FRow := ⟨0, 0, 0, 0, false⟩
def elRow (k : Nat) : FRow := elT.getD k elNone
def elFind (no : Int) : Option FRow := elT.find? (fun r => r.no == no)
/-- the row, or one of noughts -/
def elGet (no : Int) : FRow := (elFind no).getD elNone
theorem elT_len : elT.length = 24 := rfl
theorem elRow_mem {k : Nat} (hk : k < 24) : elRow k ∈ elT := by
  have : elRow k = elT[k]'(by rw [elT_len]; exact hk) := by unfold elRow; rw [List.getD_eq_getElem?_getD, List.getElem?_eq_getElem (by rw [elT_len]; exact hk)]; rfl
  rw [this]
  exact List.getElem_mem _
theorem elFind_row {k : Nat} (hk : k < 24) : elFind (elRow k).no = some (elRow k) := by
  have h : (List.range 24).all (fun k => decide (elFind (elRow k).no = some (elRow k))) = true := by decide +kernel
  exact of_decide_eq_true (List.all_eq_true.1 h k (List.mem_range.2 hk))
theorem elFind_at {no : Int} {k : Nat} (hk : k < 24) (h : (elRow k).no = no) : elFind no = some (elRow k) := by
  rw [← h]
  exact elFind_row hk
theorem elFind_none {no : Int} (h : ∀ k, k < 24 → (elRow k).no ≠ no) : elFind no = none := by
  unfold elFind
  rw [List.find?_eq_none]
  intro r hr
  obtain ⟨k, hk, rfl⟩ := List.getElem_of_mem hr
  rw [elT_len] at hk
  have := h k hk
  unfold elRow at this
  rw [List.getD_eq_getElem?_getD, List.getElem?_eq_getElem (by rw [elT_len]; exact hk)] at this
  simpa using this
theorem elFind_some {no : Int} {r : FRow} (h : elFind no = some r) : r ∈ elT ∧ r.no = no := by
  refine ⟨List.mem_of_find?_eq_some h, ?_⟩
  simpa using List.find?_some h
/-- what a row is -/
theorem el_row {r : FRow} (h : r ∈ elT) : 1 ≤ r.top ∧ r.top ≤ 999 ∧ r.dig ≤ 4 ∧ (r.dig ≠ 0 → r.top < 10 ^ r.dig) ∧ (r.kind = 1 ∨ r.kind = 2 ∨ r.kind = 3 ∨ r.kind = 4) ∧ 2 ≤ r.no ∧ r.no ≤ 120 := by
  have h1 : elT.all (fun r => decide (1 ≤ r.top ∧ r.top ≤ 999 ∧ r.dig ≤ 4 ∧ (r.dig ≠ 0 → r.top < 10 ^ r.dig) ∧ (r.kind = 1 ∨ r.kind = 2 ∨ r.kind = 3 ∨ r.kind = 4) ∧ 2 ≤ r.no ∧ r.no ≤ 120)) = true := by decide +kernel
  exact of_decide_eq_true (List.all_eq_true.1 h1 r h)

/-! ### which data may be -/
def typB (kind : Int) (d : List UInt8) : Bool := if kind = 1 then d.all isD else if kind = 2 then d.all alnC else if kind = 3 then d.all ansC else true
/-- whether so many bytes fit -/
def fitB (r : FRow) (n : Nat) : Bool := decide ((if r.dig = 0 then r.top else 1) ≤ n) && decide (n ≤ r.top)
def chkR (r : FRow) (d : List UInt8) : Int := if fitB r d.length = false then 17 else if typB r.kind d = false then 14 else 0
def chkEl (no : Int) (d : List UInt8) : Int := match elFind no with
  | none => 16
  | some r => chkR r d
/-- the length, as it stands ahead -/
def headEl (r : FRow) (n : Nat) : List UInt8 := textR n (r.dig : Int)
def wrtEl (no : Int) (d : List UInt8) : List UInt8 := if chkEl no d = 0 then headEl (elGet no) d.length ++ d else []
/-- the length that is read: the error, and how many -/
def sizEl (r : FRow) (b : List UInt8) : Int × Nat := if r.dig = 0 then (0, r.top) else if b.length < r.dig then (3, 0) else (numE (b.take r.dig), numR (b.take r.dig))
/-- what is read: the error, the data, how many bytes -/
def rdR (r : FRow) (b : List UInt8) : Int × List UInt8 × Nat :=
  if (sizEl r b).1 ≠ 0 then ((sizEl r b).1, [], 0)
  else if fitB r (sizEl r b).2 = false then (17, [], 0)
  else if b.length < r.dig + (sizEl r b).2 then (3, [], 0)
  else if typB r.kind ((b.drop r.dig).take (sizEl r b).2) = false then (14, [], 0)
  else (0, (b.drop r.dig).take (sizEl r b).2, r.dig + (sizEl r b).2)
def rdEl (no : Int) (b : List UInt8) : Int × List UInt8 × Nat := match elFind no with
  | none => (16, [], 0)
  | some r => rdR r b
def reL (no : Int) (b : List UInt8) : List UInt8 := (rdEl no b).2.1
def reN (no : Int) (b : List UInt8) : Nat := (rdEl no b).2.2
def reE (no : Int) (b : List UInt8) : Int := (rdEl no b).1

theorem chkR_ok {r : FRow} {d : List UInt8} (h : chkR r d = 0) : fitB r d.length = true ∧ typB r.kind d = true := by
  unfold chkR at h
  split at h
  · cases h
  · split at h
    · cases h
    · rename_i h1 h2
      exact ⟨by simpa using h1, by simpa using h2⟩
theorem fitB_iff {r : FRow} {n : Nat} : fitB r n = true ↔ (if r.dig = 0 then r.top else 1) ≤ n ∧ n ≤ r.top := by simp [fitB]
theorem fit_bounds {r : FRow} (hr : r ∈ elT) {n : Nat} (h : fitB r n = true) : 1 ≤ n ∧ n ≤ r.top ∧ n ≤ 999 ∧ (r.dig = 0 → n = r.top) := by
  have h1 := fitB_iff.1 h
  obtain ⟨a1, a2, -⟩ := el_row hr
  split at h1
  · exact ⟨by omega, h1.2, by omega, fun _ => by omega⟩
  · rename_i h2
    exact ⟨h1.1, h1.2, by omega, fun h => absurd h h2⟩
/-- digits enough -/
theorem dd_len : ∀ (k n : Nat), n < 10 ^ (k + 1) → (Lib.decDigits n).length ≤ k + 1
  | 0, n, h => by rw [Lib.decDigits, dif_pos (by simpa using h)]; simp
  | k + 1, n, h => by
    rw [Lib.decDigits]
    split
    · simp
    · rw [List.length_append, List.length_singleton]
      have := dd_len k (n / 10) (by rw [Nat.pow_succ] at h; omega)
      omega
theorem head_is {r : FRow} (hr : r ∈ elT) {n : Nat} (h : fitB r n = true) (hd : r.dig ≠ 0) :
    (headEl r n).length = r.dig ∧ (headEl r n).all isD = true ∧ numE (headEl r n) = 0 ∧ numR (headEl r n) = n := by
  obtain ⟨b1, b2, b3, b4⟩ := fit_bounds hr h
  obtain ⟨a1, a2, a3, a4, -⟩ := el_row hr
  have hlt := a4 hd
  have hl : (Lib.decDigits n).length ≤ r.dig := by
    obtain ⟨k, hk⟩ : ∃ k, r.dig = k + 1 := ⟨r.dig - 1, by omega⟩
    rw [hk] at hlt ⊢
    exact dd_len k n (by omega)
  unfold headEl
  rcases text_cases n (r.dig : Int) with ⟨h1, _, _⟩ | ⟨h1, _, _⟩ | ⟨_, _, h1, _, _⟩ | ⟨m, h1, h2, h3, h4, h5⟩
  · omega
  · omega
  · omega
  · rw [h5]
    have hw := wide_length n m
    have hn := wide_number n m (by omega) (by omega)
    exact ⟨by omega, wide_all n m, hn.2, hn.1⟩
theorem head_none {r : FRow} (n : Nat) (hd : r.dig = 0) : headEl r n = [] := by
  unfold headEl
  rw [hd]
  rfl
theorem head_len {r : FRow} (hr : r ∈ elT) {n : Nat} (h : fitB r n = true) : (headEl r n).length = r.dig := by
  by_cases hd : r.dig = 0
  · rw [head_none n hd, hd]; rfl
  · exact (head_is hr h hd).1
/-- the length ahead is read as it was written -/
theorem siz_back {r : FRow} (hr : r ∈ elT) {n : Nat} (h : fitB r n = true) (x : List UInt8) : sizEl r (headEl r n ++ x) = (0, n) := by
  unfold sizEl
  by_cases hd : r.dig = 0
  · rw [if_pos hd, (fit_bounds hr h).2.2.2 hd]
  · obtain ⟨h1, h2, h3, h4⟩ := head_is hr h hd
    rw [if_neg hd, if_neg (by rw [List.length_append, h1]; omega)]
    have ht : (headEl r n ++ x).take r.dig = headEl r n := by rw [← h1, List.take_left]
    rw [ht, h3, h4]
theorem rd_back {r : FRow} (hr : r ∈ elT) {d : List UInt8} (h : chkR r d = 0) (more : List UInt8) : rdR r (headEl r d.length ++ d ++ more) = (0, d, r.dig + d.length) := by
  obtain ⟨h1, h2⟩ := chkR_ok h
  have hs := siz_back hr h1 (d ++ more)
  rw [← List.append_assoc] at hs
  have hl := head_len hr h1
  have hdr : ((headEl r d.length ++ d ++ more).drop r.dig).take d.length = d := by
    rw [List.append_assoc, ← hl, List.drop_left, List.take_left]
  unfold rdR
  rw [hs]
  dsimp only
  rw [if_neg (by decide), if_neg (by rw [h1]; decide), if_neg (by simp only [List.length_append, hl]; omega), hdr, if_neg (by rw [h2]; decide)]
theorem rd_cut {r : FRow} (hr : r ∈ elT) {d : List UInt8} (h : chkR r d = 0) (k : Nat) (hk : k < r.dig + d.length) : (rdR r ((headEl r d.length ++ d).take k)).1 = 3 := by
  obtain ⟨h1, h2⟩ := chkR_ok h
  have hl := head_len hr h1
  obtain ⟨b1, b2, b3, b4⟩ := fit_bounds hr h1
  rcases Nat.lt_or_ge k r.dig with hlt | hge
  · have hs : sizEl r ((headEl r d.length ++ d).take k) = (3, 0) := by
      unfold sizEl
      rw [if_neg (by omega), if_pos (by rw [List.length_take]; omega)]
    unfold rdR
    rw [hs, if_pos (by decide)]
  · have ht : (headEl r d.length ++ d).take k = headEl r d.length ++ d.take (k - r.dig) := by
      rw [List.take_append, hl, List.take_of_length_le (by omega)]
    have hs := siz_back hr h1 (d.take (k - r.dig))
    unfold rdR
    rw [ht, hs]
    dsimp only
    rw [if_neg (by decide), if_neg (by rw [h1]; decide), if_pos (by rw [List.length_append, List.length_take, hl]; omega)]
theorem wrt_ok {no : Int} {d : List UInt8} (h : chkEl no d = 0) : ∃ r, elFind no = some r ∧ r ∈ elT ∧ chkR r d = 0 ∧ wrtEl no d = headEl r d.length ++ d ∧ (wrtEl no d).length = r.dig + d.length ∧ 0 < d.length := by
  have h0 := h
  unfold chkEl at h
  split at h
  · cases h
  · rename_i r hr
    have hm := (elFind_some hr).1
    have h1 := chkR_ok h
    have hw : wrtEl no d = headEl r d.length ++ d := by unfold wrtEl; rw [if_pos h0]; unfold elGet; rw [hr]; rfl
    have hb := fit_bounds hm h1.1
    exact ⟨r, hr, hm, h, hw, by rw [hw, List.length_append, head_len hm h1.1], by omega⟩
theorem el_back {no : Int} {d : List UInt8} (h : chkEl no d = 0) (more : List UInt8) : reE no (wrtEl no d ++ more) = 0 ∧ reL no (wrtEl no d ++ more) = d ∧ reN no (wrtEl no d ++ more) = (wrtEl no d).length := by
  obtain ⟨r, hr, hm, hc, hw, hl, _⟩ := wrt_ok h
  have hb := rd_back hm hc more
  unfold reE reL reN rdEl
  rw [hr, hw]
  dsimp only
  rw [hb]
  exact ⟨rfl, rfl, by rw [← hl, hw]⟩
theorem el_cut {no : Int} {d : List UInt8} (h : chkEl no d = 0) (k : Nat) (hk : k < (wrtEl no d).length) : reE no ((wrtEl no d).take k) = 3 := by
  obtain ⟨r, hr, hm, hc, hw, hl, _⟩ := wrt_ok h
  have hb := rd_cut hm hc k (by omega)
  unfold reE rdEl
  rw [hr, hw]
  exact hb
theorem wrt_len {no : Int} {d : List UInt8} : (wrtEl no d).length ≤ 4 + 999 := by
  by_cases h : chkEl no d = 0
  · obtain ⟨r, hr, hm, hc, hw, hl, _⟩ := wrt_ok h
    have := fit_bounds hm (chkR_ok hc).1
    have := el_row hm
    omega
  · unfold wrtEl; rw [if_neg h]; simp
end Go.Proofs.YtpkalnkeafggjaaGreatDoor
/- Shifts and masks of bytes, as the walk spells them and as Lean has them: no program. -/
namespace Go.Proofs.YtpkalnkeafggjaaGreatDoor
set_option linter.unusedVariables false

theorem u8_wrap (n : Int) (h0 : 0 ≤ n) (h1 : n < 2 ^ 8) : IntKind.u8.wrap n = n := IntWalk.u8_in _ ⟨h0, by omega⟩
theorem or_u8 (x y : UInt8) : bits .or .u8 (x.toNat : Int) (y.toNat : Int) = ((x ||| y).toNat : Int) := by
  rw [(bits_nat .u8 8 (by decide) u8_wrap _ _ x.toNat_lt y.toNat_lt).2, UInt8.toNat_or]
theorem and_u8 (x y : UInt8) : bits .and .u8 (x.toNat : Int) (y.toNat : Int) = ((x &&& y).toNat : Int) := by
  rw [(bits_nat .u8 8 (by decide) u8_wrap _ _ x.toNat_lt y.toNat_lt).1, UInt8.toNat_and]
theorem wrap_u8 (n : Int) : IntKind.u8.wrap n = n % 256 := by
  simp [IntKind.wrap, IntKind.bits, IntKind.signed]
theorem shl4_u8 (x : UInt8) : IntKind.u8.wrap ((x.toNat : Int) * 16) = ((x <<< 4).toNat : Int) := by
  rw [wrap_u8, UInt8.toNat_shiftLeft]
  have h : x.toNat <<< ((4 : UInt8).toNat % 8) = x.toNat * 16 := by rw [Nat.shiftLeft_eq]; rfl
  rw [h]
  omega
theorem shr4_u8 (x : UInt8) : (x.toNat : Int) / 16 = ((x >>> 4).toNat : Int) := by
  rw [UInt8.toNat_shiftRight, Nat.shiftRight_eq_div_pow]
  have h : 2 ^ ((4 : UInt8).toNat % 8) = 16 := rfl
  rw [h]
  omega
/-- what 'int(uint(p) % b)' makes -/
theorem rem_nat (p b : Int) (hb : 0 < b) : ∃ m : Nat, (IntKind.u64.wrap p).tmod b = (m : Int) ∧ (m : Int) < b := by
  have hw : 0 ≤ IntKind.u64.wrap p := by rw [IntKind.wrap_u64]; omega
  rw [Int.tmod_eq_emod_of_nonneg hw]
  have h0 : 0 ≤ IntKind.u64.wrap p % b := Int.emod_nonneg _ (by omega)
  have h1 : IntKind.u64.wrap p % b < b := Int.emod_lt_of_pos _ hb
  obtain ⟨m, hm⟩ := Int.eq_ofNat_of_zero_le h0
  exact ⟨m, hm, by omega⟩

end Go.Proofs.YtpkalnkeafggjaaGreatDoor
