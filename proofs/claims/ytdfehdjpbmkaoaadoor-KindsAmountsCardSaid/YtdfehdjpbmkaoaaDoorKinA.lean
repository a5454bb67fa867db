/- The texts KinDev, Tabs, KinFirst, KinBits, KinProg, QuietBelow, KinHas, KinWhole, KinFits, KinAwake, joined. -/
import Derived.Test.YtdfehdjpbmkaoaaDoorBase
import Derived.Deep.MidRow
import Derived.Test.YtdfehdjpbmkaoaaDoorRefKin4
import Derived.Test.YtdfehdjpbmkaoaaDoorWhole
import Derived.LoopTactic
import Derived.Test.YtdfehdjpbmkaoaaDoorKinMath
import Derived.Laws.BitsLemmas
import Derived.Lib.QuietBelow
/- Package kinds' table, as it is laid. No program. -/
namespace Go.Proofs.YtdfehdjpbmkaoaaDoor
set_option linter.unusedVariables false

/-- a row of the table: kind, code, number, what it must have, what it may have -/
structure DRow where
  kind : Int
  code : ByteArray
  mti : ByteArray
  must : Nat
  may : Nat
def DRow.cells (r : DRow) : List Value := [.int .i64 r.kind, .string r.code, .string r.mti, .int .u16 (r.must : Int), .int .u16 (r.may : Int)]
def DRow.val (r : DRow) : Value := .agg #[.int .i64 r.kind, .string r.code, .string r.mti, .int .u16 (r.must : Int), .int .u16 (r.may : Int)]
def devT : List DRow := [⟨1, ⟨#[65, 85, 84, 81]⟩, ⟨#[50, 49, 48, 48]⟩, 27, 1092⟩, ⟨2, ⟨#[65, 85, 84, 80]⟩, ⟨#[50, 49, 49, 48]⟩, 128, 1063⟩, ⟨3, ⟨#[67, 77, 80, 86]⟩, ⟨#[50, 50, 50, 48]⟩, 27, 740⟩, ⟨4, ⟨#[67, 77, 80, 75]⟩, ⟨#[50, 50, 51, 48]⟩, 128, 4⟩, ⟨5, ⟨#[82, 86, 82, 65]⟩, ⟨#[50, 52, 50, 48]⟩, 771, 28⟩, ⟨6, ⟨#[82, 86, 82, 82]⟩, ⟨#[50, 52, 51, 48]⟩, 128, 4⟩, ⟨7, ⟨#[82, 67, 76, 81]⟩, ⟨#[50, 53, 50, 48]⟩, 2, 0⟩, ⟨8, ⟨#[82, 67, 76, 80]⟩, ⟨#[50, 53, 51, 48]⟩, 128, 2⟩, ⟨9, ⟨#[68, 71, 78, 81]⟩, ⟨#[50, 56, 48, 48]⟩, 0, 0⟩, ⟨10, ⟨#[68, 71, 78, 80]⟩, ⟨#[50, 56, 49, 48]⟩, 128, 0⟩, ⟨11, ⟨#[82, 74, 67, 84]⟩, ⟨#[50, 54, 52, 52]⟩, 256, 0⟩]
def dNone : DRow := ⟨0, ⟨#[]⟩, ⟨#[]⟩, 0, 0⟩
def dRow (k : Nat) : DRow := devT.getD k dNone
def devV : List Value := devT.flatMap DRow.cells
/-- the first row from k on, of n, of which that is so -/
def dFirstF (p : Nat → Bool) : Nat → Nat → DRow
  | _, 0 => dNone
  | k, n + 1 => if p k then dRow k else dFirstF p (k + 1) n
def dFirst (p : Nat → Bool) : DRow := dFirstF p 0 11
theorem dFirstF_at (p : Nat → Bool) : ∀ (n k j : Nat), j < n → (∀ i, i < j → p (k + i) = false) → p (k + j) = true → dFirstF p k n = dRow (k + j)
  | 0, _, _, h, _, _ => by omega
  | n + 1, k, 0, _, _, h => by rw [dFirstF, if_pos (by simpa using h)]; rfl
  | n + 1, k, j + 1, hj, h0, h => by
    have h1 := h0 0 (by omega)
    rw [Nat.add_zero] at h1
    rw [dFirstF, h1, if_neg (by decide), dFirstF_at p n (k + 1) j (by omega) (fun i hi => by have := h0 (i + 1) (by omega); rw [show k + 1 + i = k + (i + 1) by omega]; exact this) (by rw [show k + 1 + j = k + (j + 1) by omega]; exact h)]
    congr 1
    omega
theorem dFirstF_none (p : Nat → Bool) : ∀ (n k : Nat), (∀ i, i < n → p (k + i) = false) → dFirstF p k n = dNone
  | 0, _, _ => rfl
  | n + 1, k, h => by
    have h1 := h 0 (by omega)
    rw [Nat.add_zero] at h1
    rw [dFirstF, h1, if_neg (by decide)]
    exact dFirstF_none p n (k + 1) (fun i hi => by have := h (i + 1) (by omega); rw [show k + 1 + i = k + (i + 1) by omega]; exact this)
theorem dFirst_at {p : Nat → Bool} {k : Nat} (hk : k < 11) (h0 : ∀ j, j < k → p j = false) (h : p k = true) : dFirst p = dRow k := by
  have := dFirstF_at p 11 0 k hk (fun i hi => by rw [Nat.zero_add]; exact h0 i hi) (by rw [Nat.zero_add]; exact h)
  rwa [Nat.zero_add] at this
theorem dFirst_none {p : Nat → Bool} (h0 : ∀ j, j < 11 → p j = false) : dFirst p = dNone := dFirstF_none p 11 0 (fun i hi => by rw [Nat.zero_add]; exact h0 i hi)
end Go.Proofs.YtdfehdjpbmkaoaaDoor
/- The tables of the library that the program reads (package unicode/utf8's, strconv's powers of ten): what is asked of the world, and that a call which turns no block keeps it. -/
namespace Go.Proofs.YtdfehdjpbmkaoaaDoor
open Go.RowKit
set_option linter.unusedVariables false

structure Tabs (w : World) : Prop where
  kt : w.rangeAt 0 0 devV
  kb : 0 < w.heap.size
theorem Tabs.below {a b : World} (h : Tabs a) (k : Below a.heap.size a b) : Tabs b where
  kt := fun j v hv => (k.cell h.kb).trans (h.kt j v hv)
  kb := Nat.lt_of_lt_of_le h.kb k.size
theorem Tabs.fr {a b : World} (h : Tabs a) (k : Fr No a b) : Tabs b := h.below k.toBelow
theorem Tabs.frNew {S : Nat → Prop} {a b : World} (h : Tabs a) (k : Fr S a b) (hS : ∀ i, S i → a.heap.size ≤ i) : Tabs b := h.below (k.toBelow' hS)
theorem Tabs.drew {a : World} (h : Tabs a) : Tabs a.drew := h.fr (Fr.refl No a).drew
theorem Tabs.drewN {a : World} {n : Nat} (h : Tabs a) : Tabs (a.drewN n) := h.fr ((Fr.refl No a).drewN n)
theorem Tabs.alloc {a : World} {o : Obj} (h : Tabs a) : Tabs (a.alloc o) := h.fr ((Fr.refl No a).alloc o)
theorem Tabs.dr {a b : World} (h : Tabs a) (k : Dr a b) : Tabs b := h.fr ((Fr.refl No a).dr k)
end Go.Proofs.YtdfehdjpbmkaoaaDoor
/- Package kinds: the first row that stands a test. -/
namespace Go.Proofs.YtdfehdjpbmkaoaaDoor
open Go.RowKit
set_option maxHeartbeats 400000
set_option linter.unusedVariables false

theorem devSize : (Tryd.prog.info? 85).map (·.size) = some devV.length := by kernel_rfl
theorem dev_index (k : Nat) (hk : k < 11) : ∀ w : World, (Instr.index 85 (.agg devV.toArray) (.int .i64 (k : Int))).run Tryd.prog w = .ok (dRow k).val w := by
  intro w
  have h : k = 0 ∨ k = 1 ∨ k = 2 ∨ k = 3 ∨ k = 4 ∨ k = 5 ∨ k = 6 ∨ k = 7 ∨ k = 8 ∨ k = 9 ∨ k = 10 := by omega
  rcases h with rfl | rfl | rfl | rfl | rfl | rfl | rfl | rfl | rfl | rfl | rfl <;> (show _ = _; kernel_rfl)
theorem rowSize (a b c d e : Value) : (Tryd.prog.info? 68).map (·.size) = some [a, b, c, d, e].length := by kernel_rfl
theorem cells5 {w : World} {g : Nat} {t : TypeId} {a b c d e : Value} (h : Bk w g t [a, b, c, d, e]) :
    w.cell? ⟨g, 0, none⟩ = some a ∧ w.cell? ⟨g, 1, none⟩ = some b ∧ w.cell? ⟨g, 2, none⟩ = some c ∧ w.cell? ⟨g, 3, none⟩ = some d ∧ w.cell? ⟨g, 4, none⟩ = some e ∧
    w.frozen? ⟨g, 0, none⟩ = false ∧ w.frozen? ⟨g, 1, none⟩ = false ∧ w.frozen? ⟨g, 2, none⟩ = false ∧ w.frozen? ⟨g, 3, none⟩ = false ∧ w.frozen? ⟨g, 4, none⟩ = false :=
  ⟨h.cell 0, h.cell 1, h.cell 2, h.cell 3, h.cell 4, h.frozen 0, h.frozen 1, h.frozen 2, h.frozen 3, h.frozen 4⟩
/-- five cells, written one behind the other -/
def put5 (w : World) (g : Nat) (a b c d e : Value) : World := ((((w.setCell ⟨g, 0, none⟩ a).setCell ⟨g, 1, none⟩ b).setCell ⟨g, 2, none⟩ c).setCell ⟨g, 3, none⟩ d).setCell ⟨g, 4, none⟩ e
theorem put5_cells {w : World} {g : Nat} {t : TypeId} {a' b' c' d' e' : Value} (h : Bk w g t [a', b', c', d', e']) (a b c d e : Value) :
    (w.setCell ⟨g, 0, none⟩ a).cell? ⟨g, 0, none⟩ = some a ∧ ((w.setCell ⟨g, 0, none⟩ a).setCell ⟨g, 1, none⟩ b).cell? ⟨g, 1, none⟩ = some b ∧ (((w.setCell ⟨g, 0, none⟩ a).setCell ⟨g, 1, none⟩ b).setCell ⟨g, 2, none⟩ c).cell? ⟨g, 2, none⟩ = some c ∧
    ((((w.setCell ⟨g, 0, none⟩ a).setCell ⟨g, 1, none⟩ b).setCell ⟨g, 2, none⟩ c).setCell ⟨g, 3, none⟩ d).cell? ⟨g, 3, none⟩ = some d ∧
    (((((w.setCell ⟨g, 0, none⟩ a).setCell ⟨g, 1, none⟩ b).setCell ⟨g, 2, none⟩ c).setCell ⟨g, 3, none⟩ d).setCell ⟨g, 4, none⟩ e).cell? ⟨g, 4, none⟩ = some e :=
  ⟨(h.set_ 0 a).cell 0, ((h.set_ 0 a).set_ 1 b).cell 1, (((h.set_ 0 a).set_ 1 b).set_ 2 c).cell 2, ((((h.set_ 0 a).set_ 1 b).set_ 2 c).set_ 3 d).cell 3, (((((h.set_ 0 a).set_ 1 b).set_ 2 c).set_ 3 d).set_ 4 e).cell 4⟩
theorem put5_fr {S : Nat → Prop} {w0 w : World} {g : Nat} (h : Fr S w0 w) (hg : S g ∨ w0.heap.size ≤ g) (a b c d e : Value) : Fr S w0 (put5 w g a b c d e) :=
  ((((h.setCell hg a).setCell hg b).setCell hg c).setCell hg d).setCell hg e
/-- what a test of rows answers -/
structure RowTests (F : FuncId) (x : Value) (p : Nat → Bool) : Prop where
  enters : ∀ args w, (callFunc F args).run Tryd.prog w = .ok (.enter F args) w
  tells : ∀ (k : Nat) (w : World), k < 11 → Calls Tryd.prog F #[x, (dRow k).val] w fun e w' => e = .returned (.bool (p k)) ∧ Fr No w w'
set_option maxRecDepth 20000 in
theorem k_first (F : FuncId) (x : Value) (p : Nat → Bool) (ht : RowTests F x p) (w : World) (hT : Tabs w := by repeat' first | with_reducible assumption | with_reducible apply Tabs.drew | with_reducible apply Tabs.drewN | with_reducible apply Tabs.alloc | refine Tabs.fr ?_ (by with_reducible assumption)) :
    Calls Tryd.prog 28 #[.func (.func F) #[x] #[]] w fun e w' => e = .returned (dFirst p).val ∧ Fr No w w' := by
  have hb0 : Bk (w.alloc (.cells #[.int .i64 0, .string ⟨#[]⟩, .string ⟨#[]⟩, .int .u16 0, .int .u16 0] 68)) w.heap.size 68 [.int .i64 0, .string ⟨#[]⟩, .string ⟨#[]⟩, .int .u16 0, .int .u16 0] := Bk.new w _ _
  have hfa : Fr No w (w.alloc (.cells #[.int .i64 0, .string ⟨#[]⟩, .string ⟨#[]⟩, .int .u16 0, .int .u16 0] 68)) := (Fr.refl No w).alloc _
  have HRG := Lib.hid (hT.alloc (o := .cells #[.int .i64 0, .string ⟨#[]⟩, .string ⟨#[]⟩, .int .u16 0, .int .u16 0] 68)).kt
  have HB0 := Lib.hid hb0; have HFA := Lib.hid hfa
  have hen := ht.enters
  clear hb0 hfa hT
  go_enter Tryd.func28, Tryd.ntmps28
  go_wp2_with (first
    | (refine wpList_load_mid rfl 85 _ rfl 0 0 rfl devV _ HRG.out (Tryd.underlying85) rfl devSize ?_; clear HRG))
  have HEN := Lib.hid hen; have HT := Lib.hid ht.tells
  clear ht
  go_loopw [6] (fun v wr => ∃ k : Nat, k ≤ 11 ∧ v = .int .i64 (k : Int) ∧ (∀ j, j < k → p j = false) ∧ Fr No (w.alloc (.cells #[.int .i64 0, .string ⟨#[]⟩, .string ⟨#[]⟩, .int .u16 0, .int .u16 0] 68)) wr) (fun v _ => 11 - (intOf v).toNat)
  case atStart => exact ⟨0, by omega, rfl, fun j hj => by omega, Fr.refl _ _⟩
  case round =>
    obtain ⟨k, hk, rfl, hall, hfr⟩ := hrel
    have HALL := Lib.hid hall; have HFR := Lib.hid hfr
    clear hall hfr
    rcases Nat.lt_or_ge k 11 with hkn | hge
    · have hix := dev_index k hkn
      have htl := fun u => HT.out k u hkn
      obtain ⟨⟨rk, rc, rm, ru, ra⟩, hr⟩ : ∃ r, dRow k = r := ⟨_, rfl⟩
      rw [hr] at hix htl
      unfold DRow.val at hix htl
      have HR := Lib.hid hr; have HTL := Lib.hid htl
      have hb1 : Bk (wr.alloc (.cells #[.int .i64 rk, .string rc, .string rm, .int .u16 (ru : Int), .int .u16 (ra : Int)] 68)) wr.heap.size 68 [.int .i64 rk, .string rc, .string rm, .int .u16 (ru : Int), .int .u16 (ra : Int)] := Bk.new wr _ _
      have HB1 := Lib.hid hb1
      have HFA2 := Lib.hid ((Fr.refl No wr).alloc (.cells #[.int .i64 rk, .string rc, .string rm, .int .u16 (ru : Int), .int .u16 (ra : Int)] 68))
      clear hr htl hb1
      cases hp : p k with
      | true =>
        rw [hp] at HTL
        have HP := Lib.hid hp
        have he : (dFirst p).val = .agg #[.int .i64 rk, .string rc, .string rm, .int .u16 (ru : Int), .int .u16 (ra : Int)] := by rw [dFirst_at hkn HALL.out hp, HR.out]; rfl
        have HE := Lib.hid he
        clear hp he
        go_wp2_with (first
          | (refine (HTL.out _).mono ?_; rintro e w2 ⟨rfl, f2⟩; have B2 := HB1.out.no f2; have HF2 := Lib.hid (HFR.out.trans (HFA2.out.trans f2)); have B3 := HB0.out.no HF2.out; obtain ⟨b0, b1, b2, b3, b4, z0, z1, z2, z3, z4⟩ := cells5 B3; have B3H := Lib.hid B3; clear f2 B3)
          | (refine wpList_load_bk rfl 68 _ rfl wr.heap.size rfl _ _ B2 (Tryd.underlying68) rfl (rowSize _ _ _ _ _) ?_; clear B2))
        obtain ⟨q0, q1, q2, q3, q4⟩ := put5_cells B3H.out (.int .i64 rk) (.string rc) (.string rm) (.int .u16 (ru : Int)) (.int .u16 (ra : Int))
        refine bodyPost_ret (v := .agg #[.int .i64 rk, .string rc, .string rm, .int .u16 (ru : Int), .int .u16 (ra : Int)]) (by simp [results, Tryd.results28, go_sem, q0, q1, q2, q3, q4]) rfl ?_
        exact ⟨by rw [HE.out], put5_fr (HFA.out.trans HF2.out) (.inr (Nat.le_refl _)) _ _ _ _ _⟩
      | false =>
        rw [hp] at HTL
        have HP := Lib.hid hp
        clear hp
        go_wp2_with (first
          | (refine (HTL.out _).mono ?_; rintro e w2 ⟨rfl, f2⟩; have HF2 := Lib.hid (HFR.out.trans (HFA2.out.trans f2)); clear f2))
        go_roundw
        case rel => exact ⟨k + 1, by omega, by go_num, fun j hj => by
          by_cases hjk : j = k
          · subst hjk; exact HP.out
          · exact HALL.out j (by omega), HF2.out⟩
        case measure => simp [intOf]; omega
    · obtain rfl : k = 11 := by omega
      have he : (dFirst p).val = .agg #[.int .i64 0, .string ⟨#[]⟩, .string ⟨#[]⟩, .int .u16 0, .int .u16 0] := by rw [dFirst_none HALL.out]; rfl
      have HE := Lib.hid he
      have B3 := HB0.out.no HFR.out
      obtain ⟨b0, b1, b2, b3, b4, z0, z1, z2, z3, z4⟩ := cells5 B3
      have B3H := Lib.hid B3
      clear he B3
      go_wp2
      obtain ⟨q0, q1, q2, q3, q4⟩ := put5_cells B3H.out (.int .i64 0) (.string ⟨#[]⟩) (.string ⟨#[]⟩) (.int .u16 0) (.int .u16 0)
      refine bodyPost_ret (v := .agg #[.int .i64 0, .string ⟨#[]⟩, .string ⟨#[]⟩, .int .u16 0, .int .u16 0]) (by simp [results, Tryd.results28, go_sem, q0, q1, q2, q3, q4]) rfl ?_
      exact ⟨by rw [HE.out], put5_fr (HFA.out.trans HFR.out) (.inr (Nat.le_refl _)) _ _ _ _ _⟩
end Go.Proofs.YtdfehdjpbmkaoaaDoor
/- Kinds of messages: the program's table, and its sets of parts, against the document's. No program. -/
namespace Go.Proofs.YtdfehdjpbmkaoaaDoor
open Go.RowKit
set_option linter.unusedVariables false

/-! ### rows -/
theorem dev_table : (List.range 11).all (fun i => (dRow i).kind == ((i : Int) + 1) && ((dRow i).code.data.toList == (kRow (i + 1)).code.data.toList && ((dRow i).mti.data.toList == (kRow (i + 1)).mti.data.toList && (Nat.blt (dRow i).must 2048 && Nat.blt (dRow i).may 2048)))) = true := by decide +kernel
theorem dev_row {i : Nat} (hi : i < 11) : (dRow i).kind = (i : Int) + 1 ∧ (dRow i).code = (kRow (i + 1)).code ∧ (dRow i).mti = (kRow (i + 1)).mti ∧ (dRow i).must < 2048 ∧ (dRow i).may < 2048 := by
  have h := List.all_eq_true.1 dev_table i (List.mem_range.2 hi)
  simp only [Bool.and_eq_true, beq_iff_eq, Nat.blt_eq] at h
  exact ⟨h.1, s_eq h.2.1, s_eq h.2.2.1, h.2.2.2.1, h.2.2.2.2⟩
/-- the test of a number -/
def pNum (K : Int) (i : Nat) : Bool := (dRow i).kind == K
def pCode (S : ByteArray) (i : Nat) : Bool := (dRow i).code.data.toList == S.data.toList
def pMti (S : ByteArray) (i : Nat) : Bool := (dRow i).mti.data.toList == S.data.toList
theorem first_num (K : Int) : (1 ≤ K ∧ K < 12 → ∃ i : Nat, i < 11 ∧ K = (i : Int) + 1 ∧ dFirst (pNum K) = dRow i) ∧ (¬ (1 ≤ K ∧ K < 12) → dFirst (pNum K) = dNone) := by
  constructor
  · intro h
    refine ⟨K.toNat - 1, by omega, by omega, dFirst_at (by omega) (fun j hj => ?_) ?_⟩
    · unfold pNum
      rw [(dev_row (i := j) (by omega)).1, beq_eq_false_iff_ne]
      omega
    · unfold pNum
      rw [(dev_row (i := K.toNat - 1) (by omega)).1, beq_iff_eq]
      omega
  · intro h
    refine dFirst_none (fun j hj => ?_)
    unfold pNum
    rw [(dev_row hj).1, beq_eq_false_iff_ne]
    omega
theorem rowOf_at (i : Nat) (hi : i < 11) : rowOf ((i : Int) + 1) = kRow (i + 1) := by
  unfold rowOf
  rw [if_pos (by omega)]
  congr 1
theorem first_words (K : Int) : (dFirst (pNum K)).code = cdB K ∧ (dFirst (pNum K)).mti = mtB K := by
  unfold cdB mtB
  by_cases h : 1 ≤ K ∧ K < 12
  · obtain ⟨i, hi, rfl, he⟩ := (first_num K).1 h
    obtain ⟨_, h1, h2, _⟩ := dev_row hi
    rw [he, rowOf_at i hi, h1, h2]
    exact ⟨rfl, rfl⟩
  · rw [(first_num K).2 h]
    unfold rowOf
    rw [if_neg h]
    exact ⟨rfl, rfl⟩
theorem dFirstF_kind (p : Nat → Bool) (q : KRow → Bool) (h : ∀ i, i < 11 → p i = q (kRow (i + 1))) : ∀ n k, k + n ≤ 11 → (dFirstF p k n).kind = kindF q (k + 1) n
  | 0, _, _ => rfl
  | n + 1, k, hk => by
    rw [dFirstF, kindF, h k (by omega)]
    split
    · rw [(dev_row (i := k) (by omega)).1]; omega
    · exact dFirstF_kind p q h n (k + 1) (by omega)
theorem first_code (S : ByteArray) : (dFirst (pCode S)).kind = ofCode S := by
  refine dFirstF_kind (pCode S) (fun r => r.code.data.toList == S.data.toList) (fun i hi => ?_) 11 0 (by omega)
  unfold pCode
  rw [(dev_row hi).2.1]
theorem first_mti (S : ByteArray) : (dFirst (pMti S)).kind = ofMti S := by
  refine dFirstF_kind (pMti S) (fun r => r.mti.data.toList == S.data.toList) (fun i hi => ?_) 11 0 (by omega)
  unfold pMti
  rw [(dev_row hi).2.2.1]

/-! ### sets of parts -/
def maskN (th : List Bool) : Nat → Nat
  | 0 => 0
  | k + 1 => if (th[k]?).getD false then maskN th k ||| 2 ^ k else maskN th k
theorem maskN_bit (th : List Bool) : ∀ (k i : Nat), (maskN th k).testBit i = (decide (i < k) && (th[i]?).getD false)
  | 0, i => by simp [maskN]
  | k + 1, i => by
    rw [maskN]
    by_cases hk : (th[k]?).getD false = true
    · rw [if_pos hk, Nat.testBit_or, maskN_bit th k i, Nat.testBit_two_pow]
      by_cases h : k = i
      · subst h; simp [hk]
      · simp [h, show (i < k + 1) = (i < k) from by rw [eq_iff_iff]; omega]
    · rw [if_neg hk, maskN_bit th k i]
      by_cases h : k = i
      · subst h; simp [Bool.not_eq_true _ ▸ hk]
      · rw [show (decide (i < k + 1)) = decide (i < k) from by rw [decide_eq_decide]; omega]
theorem maskN_lt (th : List Bool) : ∀ k, maskN th k < 2 ^ k
  | 0 => by simp [maskN]
  | k + 1 => by
    have h := maskN_lt th k
    have h2 : 2 ^ k < 2 ^ (k + 1) := Nat.pow_lt_pow_right (by decide) (by omega)
    rw [maskN]
    split
    · exact Nat.or_lt_two_pow (by omega) h2
    · omega
theorem wraps_u16 (n : Int) (h0 : 0 ≤ n) (h1 : n < 2 ^ 16) : IntKind.u16.wrap n = n := by
  simp [IntKind.wrap, IntKind.bits, IntKind.signed]
  omega
theorem and_u16 (a b : Nat) (ha : a < 65536) (hb : b < 65536) : bits .and .u16 (a : Int) (b : Int) = ((a &&& b : Nat) : Int) := (bits_nat .u16 16 (by decide) wraps_u16 a b ha hb).1
theorem or_u16 (a b : Nat) (ha : a < 65536) (hb : b < 65536) : bits .or .u16 (a : Int) (b : Int) = ((a ||| b : Nat) : Int) := (bits_nat .u16 16 (by decide) wraps_u16 a b ha hb).2
/-- a without b's bits -/
def without (a b : Nat) : Nat := (BitVec.ofNat 16 a &&& ~~~BitVec.ofNat 16 b).toNat
theorem not_u16 (a b : Nat) : bits .andNot .u16 (a : Int) (b : Int) = (without a b : Int) := by
  simp only [bits, BitVec.ofInt_natCast]
  exact wraps_u16 _ (Int.natCast_nonneg _) (by have := (BitVec.ofNat 16 a &&& ~~~BitVec.ofNat 16 b).isLt; exact_mod_cast this)
theorem without_bit (a b i : Nat) : (without a b).testBit i = (decide (i < 16) && (a.testBit i && !b.testBit i)) := by
  unfold without
  rw [BitVec.testBit_toNat, BitVec.getLsbD_and, BitVec.getLsbD_not, BitVec.getLsbD_ofNat, BitVec.getLsbD_ofNat]
  by_cases h : i < 16 <;> simp [h]
theorem without_lt (a b : Nat) : without a b < 65536 := (BitVec.ofNat 16 a &&& ~~~BitVec.ofNat 16 b).isLt
/-- may a message have just these parts? -/
def letsB (r : DRow) (h : Nat) : Bool := (h &&& r.must) == r.must && without h (r.must ||| r.may) == 0
theorem small_bit {n i : Nat} (hn : n < 2048) (hi : 11 ≤ i) : n.testBit i = false := by
  refine Nat.testBit_lt_two_pow (Nat.lt_of_lt_of_le hn ?_)
  exact Nat.le_trans (by decide : 2048 ≤ 2 ^ 11) (Nat.pow_le_pow_right (by decide) hi)
theorem must_iff {h m : Nat} (hm : m < 2048) : ((h &&& m) == m) = true ↔ ∀ i, i < 11 → m.testBit i = true → h.testBit i = true := by
  rw [beq_iff_eq]
  constructor
  · intro e i _ hb
    have := congrArg (fun x => x.testBit i) e
    simp only [Nat.testBit_and, hb, Bool.and_true] at this
    exact this
  · intro e
    apply Nat.eq_of_testBit_eq
    intro i
    rw [Nat.testBit_and]
    by_cases hi : i < 11
    · cases hb : m.testBit i with
      | true => rw [e i hi hb]; rfl
      | false => simp
    · rw [small_bit hm (by omega)]; simp
theorem may_iff {h m : Nat} (hh : h < 2048) : (without h m == 0) = true ↔ ∀ i, i < 11 → h.testBit i = true → m.testBit i = true := by
  rw [beq_iff_eq]
  constructor
  · intro e i hi hb
    have := congrArg (fun x => x.testBit i) e
    simp only [without_bit, hb, Nat.zero_testBit, Bool.true_and, show i < 16 from by omega, decide_true] at this
    simpa using this
  · intro e
    apply Nat.eq_of_testBit_eq
    intro i
    rw [without_bit, Nat.zero_testBit]
    by_cases hi : i < 11
    · cases hb : h.testBit i with
      | true => rw [e i hi hb]; simp
      | false => simp
    · rw [small_bit hh (by omega)]; simp
theorem dev_bits : (List.range 11).all (fun k => (List.range 11).all (fun i => inL (kRow (k + 1)).must.data.toList (lettersL.getD i 0) == (dRow k).must.testBit i && inL (kRow (k + 1)).may.data.toList (lettersL.getD i 0) == (dRow k).may.testBit i) && ((kRow (k + 1)).must.data.toList.all (fun c => inL lettersL c) && !((kRow (k + 1)).code.data.toList == []))) = true := by decide +kernel
theorem dev_bit {k i : Nat} (hk : k < 11) (hi : i < 11) : inL (kRow (k + 1)).must.data.toList (lettersL.getD i 0) = (dRow k).must.testBit i ∧ inL (kRow (k + 1)).may.data.toList (lettersL.getD i 0) = (dRow k).may.testBit i := by
  have h := List.all_eq_true.1 dev_bits k (List.mem_range.2 hk)
  rw [Bool.and_eq_true] at h
  have h2 := List.all_eq_true.1 h.1 i (List.mem_range.2 hi)
  simp only [Bool.and_eq_true, beq_iff_eq] at h2
  exact h2
theorem dev_more {k : Nat} (hk : k < 11) : (∀ c ∈ (kRow (k + 1)).must.data.toList, ∃ i, i < 11 ∧ lettersL.getD i 0 = c) ∧ (kRow (k + 1)).code.data.toList ≠ [] := by
  have h := List.all_eq_true.1 dev_bits k (List.mem_range.2 hk)
  simp only [Bool.and_eq_true, Bool.not_eq_true', beq_eq_false_iff_ne] at h
  refine ⟨fun c hc => ?_, h.2.2⟩
  have h3 := List.all_eq_true.1 h.2.1 c hc
  unfold inL at h3
  rw [List.any_eq_true] at h3
  obtain ⟨x, hx, he⟩ := h3
  obtain ⟨i, hi, rfl⟩ := List.getElem_of_mem hx
  rw [beq_iff_eq] at he
  exact ⟨i, hi, by rw [List.getD_eq_getElem?_getD, List.getElem?_eq_getElem hi]; exact he⟩
theorem letters_nodup {i j : Nat} (hi : i < 11) (hj : j < 11) (h : lettersL.getD i 0 = lettersL.getD j 0) : i = j := by
  have ht : (List.range 11).all (fun i => (List.range 11).all (fun j => !(lettersL.getD i 0 == lettersL.getD j 0) || i == j)) = true := by decide +kernel
  have h2 := List.all_eq_true.1 (List.all_eq_true.1 ht i (List.mem_range.2 hi)) j (List.mem_range.2 hj)
  simp only [h, beq_self_eq_true, Bool.not_true, Bool.false_or, beq_iff_eq] at h2
  exact h2
theorem hasF_mem (th : List Bool) : ∀ (k : Nat) (c : UInt8), c ∈ hasF th k ↔ ∃ i, i < k ∧ (th[i]?).getD false = true ∧ lettersL.getD i 0 = c
  | 0, c => by simp [hasF]
  | k + 1, c => by
    rw [hasF, List.mem_append, hasF_mem th k c]
    constructor
    · rintro (⟨i, hi, h1, h2⟩ | h)
      · exact ⟨i, by omega, h1, h2⟩
      · split at h
        · rename_i hk
          rw [List.mem_singleton] at h
          exact ⟨k, by omega, hk, by rw [List.getD_eq_getElem?_getD]; exact h.symm⟩
        · cases h
    · rintro ⟨i, hi, h1, h2⟩
      by_cases hik : i = k
      · subst hik
        right
        rw [if_pos h1, List.mem_singleton, ← h2, List.getD_eq_getElem?_getD]
      · exact .inl ⟨i, by omega, h1, h2⟩
theorem inL_iff {l : List UInt8} {c : UInt8} : inL l c = true ↔ c ∈ l := by
  unfold inL
  rw [List.any_eq_true]
  constructor
  · rintro ⟨x, hx, he⟩
    rw [beq_iff_eq] at he
    exact he ▸ hx
  · intro h
    exact ⟨c, h, beq_self_eq_true c⟩
theorem has_letter (th : List Bool) {i : Nat} (hi : i < 11) : lettersL.getD i 0 ∈ hasL th ↔ (maskN th 11).testBit i = true := by
  unfold hasL
  rw [hasF_mem, maskN_bit, Bool.and_eq_true, decide_eq_true_eq]
  constructor
  · rintro ⟨j, hj, h1, h2⟩
    rw [letters_nodup hj hi h2] at h1
    exact ⟨hi, h1⟩
  · rintro ⟨_, h⟩
    exact ⟨i, hi, h, rfl⟩
/-- the program's sets are the document's letters -/
theorem lets_eq (th : List Bool) {k : Nat} (hk : k < 11) : letsB (dRow k) (maskN th 11) = ((kRow (k + 1)).must.data.toList.all (fun c => inL (hasL th) c) && (hasL th).all (fun c => inL ((kRow (k + 1)).must.data.toList ++ (kRow (k + 1)).may.data.toList) c)) := by
  obtain ⟨_, _, _, hm1, hm2⟩ := dev_row hk
  have hlt : maskN th 11 < 2048 := maskN_lt th 11
  unfold letsB
  rw [Bool.eq_iff_iff, Bool.and_eq_true, Bool.and_eq_true, must_iff hm1, may_iff hlt, List.all_eq_true, List.all_eq_true]
  constructor
  · rintro ⟨h1, h2⟩
    refine ⟨fun c hc => ?_, fun c hc => ?_⟩
    · obtain ⟨i, hi, rfl⟩ := (dev_more hk).1 c hc
      rw [inL_iff, has_letter th hi]
      refine h1 i hi ?_
      rw [← (dev_bit hk hi).1]
      exact inL_iff.2 hc
    · obtain ⟨i, hi, ht, rfl⟩ := (hasF_mem th 11 c).1 hc
      have h3 := h2 i hi ((has_letter th hi).1 hc)
      rw [Nat.testBit_or, Bool.or_eq_true, ← (dev_bit hk hi).1, ← (dev_bit hk hi).2, inL_iff, inL_iff] at h3
      rw [inL_iff, List.mem_append]
      exact h3
  · rintro ⟨h1, h2⟩
    refine ⟨fun i hi hb => ?_, fun i hi hb => ?_⟩
    · rw [← (dev_bit hk hi).1, inL_iff] at hb
      exact (has_letter th hi).1 (inL_iff.1 (h1 _ hb))
    · have h3 := h2 _ ((has_letter th hi).2 hb)
      rw [inL_iff, List.mem_append, ← inL_iff, ← inL_iff, (dev_bit hk hi).1, (dev_bit hk hi).2] at h3
      rw [Nat.testBit_or, Bool.or_eq_true]
      exact h3
/-- what Fits tells, by the program's row -/
theorem fits_dev (th : List Bool) (bad : Bool) (K : Int) : fitsR (rowOf K) (hasL th) bad = if (dFirst (pNum K)).kind = 0 then 15 else if !letsB (dFirst (pNum K)) (maskN th 11) || bad then 19 else 0 := by
  by_cases h : 1 ≤ K ∧ K < 12
  · obtain ⟨i, hi, rfl, he⟩ := (first_num K).1 h
    rw [he, rowOf_at i hi, (dev_row hi).1, if_neg (by omega), lets_eq th hi]
    unfold fitsR
    rw [if_neg (dev_more hi).2]
    cases (kRow (i + 1)).must.data.toList.all (fun c => inL (hasL th) c) <;> cases (hasL th).all (fun c => inL ((kRow (i + 1)).must.data.toList ++ (kRow (i + 1)).may.data.toList) c) <;> cases bad <;> rfl
  · rw [(first_num K).2 h, if_pos (show dNone.kind = 0 from rfl)]
    unfold rowOf
    rw [if_neg h]
    rfl
end Go.Proofs.YtdfehdjpbmkaoaaDoor
/- What package kinds does: contracts of its calls. -/
namespace Go.Proofs.YtdfehdjpbmkaoaaDoor
open Go.RowKit
set_option maxHeartbeats 400000
set_option linter.unusedVariables false

theorem k_num_of (K : Int) (k : Nat) (w : World) (hk : k < 11) : Calls Tryd.prog 29 #[.int .i64 K, (dRow k).val] w fun e w' => e = .returned (.bool (pNum K k)) ∧ Fr No w w' := by
  have hp : pNum K k = ((dRow k).kind == K) := rfl
  obtain ⟨⟨rk, rc, rm, ru, ra⟩, hr⟩ : ∃ r, dRow k = r := ⟨_, rfl⟩
  rw [hr] at hp ⊢
  rw [hp]
  unfold DRow.val
  have hfa := Lib.hid ((Fr.refl No w).alloc (.cells #[.int .i64 rk, .string rc, .string rm, .int .u16 (ru : Int), .int .u16 (ra : Int)] 68))
  clear hp hr
  go_enter Tryd.func29, Tryd.ntmps29
  go_wp2
  go_ret
  exact ⟨rfl, hfa.out⟩
theorem k_num_tests (K : Int) : RowTests 29 (.int .i64 K) (pNum K) := ⟨fun _ _ => by kernel_rfl, fun k w hk => k_num_of K k w hk⟩
theorem k_mti_of (S : ByteArray) (k : Nat) (w : World) (hk : k < 11) : Calls Tryd.prog 36 #[.string S, (dRow k).val] w fun e w' => e = .returned (.bool (pMti S k)) ∧ Fr No w w' := by
  have hp : pMti S k = ((dRow k).mti.toList == S.toList) := (s_beq _ _).symm
  obtain ⟨⟨rk, rc, rm, ru, ra⟩, hr⟩ : ∃ r, dRow k = r := ⟨_, rfl⟩
  rw [hr] at hp ⊢
  rw [hp]
  unfold DRow.val
  have hfa := Lib.hid ((Fr.refl No w).alloc (.cells #[.int .i64 rk, .string rc, .string rm, .int .u16 (ru : Int), .int .u16 (ra : Int)] 68))
  clear hp hr
  go_enter Tryd.func36, Tryd.ntmps36
  go_wp2
  go_ret
  exact ⟨rfl, hfa.out⟩
theorem k_mti_tests (S : ByteArray) : RowTests 36 (.string S) (pMti S) := ⟨fun _ _ => by kernel_rfl, fun k w hk => k_mti_of S k w hk⟩
theorem kinds_code_any (k : Int) (hk0 : -9223372036854775808 ≤ k) (hk1 : k ≤ 9223372036854775807) (w : World) (hT : Tabs w := by repeat' first | with_reducible assumption | with_reducible apply Tabs.drew | with_reducible apply Tabs.drewN | with_reducible apply Tabs.alloc | refine Tabs.fr ?_ (by with_reducible assumption)) : Calls Tryd.prog 13 #[.int .i64 k] w fun e w' => e = .returned (.string (cdB k)) ∧ Fr No w w' := by
  have hf := k_first _ _ _ (k_num_tests k) w
  have he := (first_words k).1
  obtain ⟨r, hr⟩ : ∃ r, dFirst (pNum k) = r := ⟨_, rfl⟩
  rw [hr] at hf he
  rw [← he]
  obtain ⟨rk, rc, rm, ru, ra⟩ := r
  unfold DRow.val at hf
  have hfd : ∀ w : World, (Instr.field 68 (.agg #[.int .i64 rk, .string rc, .string rm, .int .u16 (ru : Int), .int .u16 (ra : Int)]) 1).run Tryd.prog w = .ok (.string rc) w := fun _ => by kernel_rfl
  have HF := Lib.hid hf
  clear hf he hr
  go_enter Tryd.func13, Tryd.ntmps13
  go_wp2_with (go_at_call 28; refine HF.out.mono ?_; rintro e w1 ⟨rfl, f1⟩)
  go_ret
  exact ⟨rfl, f1⟩
theorem kinds_ofmti_any (S : ByteArray) (w : World) (hT : Tabs w := by repeat' first | with_reducible assumption | with_reducible apply Tabs.drew | with_reducible apply Tabs.drewN | with_reducible apply Tabs.alloc | refine Tabs.fr ?_ (by with_reducible assumption)) : Calls Tryd.prog 14 #[.string S] w fun e w' => e = .returned (.int .i64 (ofMti S)) ∧ Fr No w w' := by
  have hf := k_first _ _ _ (k_mti_tests S) w
  have he := first_mti S
  obtain ⟨r, hr⟩ : ∃ r, dFirst (pMti S) = r := ⟨_, rfl⟩
  rw [hr] at hf he
  rw [← he]
  obtain ⟨rk, rc, rm, ru, ra⟩ := r
  unfold DRow.val at hf
  have hfd : ∀ w : World, (Instr.field 68 (.agg #[.int .i64 rk, .string rc, .string rm, .int .u16 (ru : Int), .int .u16 (ra : Int)]) 0).run Tryd.prog w = .ok (.int .i64 rk) w := fun _ => by kernel_rfl
  have HF := Lib.hid hf
  clear hf he hr
  go_enter Tryd.func14, Tryd.ntmps14
  go_wp2_with (go_at_call 28; refine HF.out.mono ?_; rintro e w1 ⟨rfl, f1⟩)
  go_ret
  exact ⟨rfl, f1⟩
theorem kinds_answer_any (k : Int) (hk0 : -9223372036854775808 ≤ k) (hk1 : k ≤ 9223372036854775807) (w : World) : Calls Tryd.prog 15 #[.int .i64 k] w fun e w' => e = .returned (.int .i64 (ansI k)) ∧ w = w' := by
  obtain ⟨a, ha⟩ : ∃ a, ansI k = a := ⟨_, rfl⟩
  rw [ha]
  have hor : (k = 1 ∧ a = 2) ∨ (k = 3 ∧ a = 4) ∨ (k = 5 ∧ a = 6) ∨ (k = 7 ∧ a = 8) ∨ (k = 9 ∧ a = 10) ∨ ((k ≠ 1 ∧ k ≠ 3 ∧ k ≠ 5 ∧ k ≠ 7 ∧ k ≠ 9) ∧ a = 0) := by
    by_cases h : 1 ≤ k ∧ k ≤ 9
    · have h9 : k = 1 ∨ k = 2 ∨ k = 3 ∨ k = 4 ∨ k = 5 ∨ k = 6 ∨ k = 7 ∨ k = 8 ∨ k = 9 := by omega
      rcases h9 with rfl | rfl | rfl | rfl | rfl | rfl | rfl | rfl | rfl <;> (have e : ansI _ = a := ha; simp [ansI] at e; omega)
    · unfold ansI at ha
      rw [if_neg (fun x => h ⟨x.1, x.2.1⟩)] at ha
      omega
  clear ha
  go_enter Tryd.func15, Tryd.ntmps15
  rcases hor with ⟨rfl, rfl⟩ | ⟨rfl, rfl⟩ | ⟨rfl, rfl⟩ | ⟨rfl, rfl⟩ | ⟨rfl, rfl⟩ | ⟨⟨h1, h3, h5, h7, h9⟩, rfl⟩
  all_goals
    go_wp2
    go_ret
    exact ⟨rfl, rfl⟩
theorem kinds_money_any (k : Int) (w : World) : Calls Tryd.prog 16 #[.int .i64 k] w fun e w' => e = .returned (.bool (monB k)) ∧ w = w' := by
  go_enter Tryd.func16, Tryd.ntmps16
  go_wp2
  all_goals
    go_ret
    refine ⟨ret_bool ?_, rfl⟩
    unfold monB
    rw [Bool.eq_iff_iff]
    simp
    try omega
end Go.Proofs.YtdfehdjpbmkaoaaDoor
/- Regions that draw their order, only read, and hold calls that lay new blocks: small words. -/
namespace Go.Proofs.YtdfehdjpbmkaoaaDoor
open Go.RowKit
set_option linter.unusedVariables false

/-- a load of many cells, at a step of a region that draws and only reads -/
theorem quiet_load {P : Program} {ops : Array Oper} {C : World → Prop} {Q : Act → Prop} {o : Oper} {rest : List Oper} {a : Act} (ty : TypeId) (x : Operand) (ho : o.op = .load ty x) (hw : Region.wanted o (yielded ops a.tmps) = true)
    (b : Nat) (hx : a.eval x = .pointer (some ⟨b, 0, none⟩)) (cs : List Value) (d : TypeDesc) (hC : ∀ w, C w → w.rangeAt b 0 cs)
    (hu : P.underlying ty = some d) (hd : d.isRow = true) (hi : (P.info? ty).map (·.size) = some cs.length)
    (h : wpQuiet P ops C Q rest (a.put o.dst (.agg cs.toArray))) : wpQuiet P ops C Q (o :: rest) a := by
  unfold wpQuiet
  rw [if_pos hw]
  refine ⟨_, fun w hw' => ?_, h⟩
  unfold Oper.quietAt execOp
  simp only [ho, hx, Instr.loadAt, Instr.sureAddr, Sem.run_bind, Sem.run_pure, Result.andThen_ok, run_loadVar_mid w b 0 ty cs d (hC w hw') hu hd hi]
  exact ⟨rfl, rfl⟩
theorem below_of {P : Program} {f : FuncId} {args : Array Value} {v : Value} {w : World} (h : Calls P f args w fun e w' => e = .returned v ∧ Fr No w w') : Calls P f args w fun e w' => e = .returned v ∧ Below w.heap.size w w' :=
  h.mono fun _ _ ⟨e, f⟩ => ⟨e, f.toBelow⟩
theorem below_same {P : Program} {f : FuncId} {args : Array Value} {v : Value} {w : World} (h : Calls P f args w fun e w' => e = .returned v ∧ w = w') : Calls P f args w fun e w' => e = .returned v ∧ Below w.heap.size w w' :=
  h.mono fun _ _ ⟨e, f⟩ => ⟨e, f ▸ (Fr.refl No w).toBelow⟩
theorem below_dr {P : Program} {f : FuncId} {args : Array Value} {v : Value} {w : World} (h : Calls P f args w fun e w' => e = .returned v ∧ Dr w w') : Calls P f args w fun e w' => e = .returned v ∧ Below w.heap.size w w' :=
  h.mono fun _ _ ⟨e, f⟩ => ⟨e, f.fr.toBelow⟩
theorem fr_regrown (W : World) (d : Nat) (os : Array Obj) : Fr No W (Go.Sort.grow (redrawn W d) os) := Fr.of_below (below_regrown W d os)
end Go.Proofs.YtdfehdjpbmkaoaaDoor
/- Package kinds: what a message has: contracts. -/
namespace Go.Proofs.YtdfehdjpbmkaoaaDoor
open Go.RowKit
set_option maxHeartbeats 400000
set_option linter.unusedVariables false

theorem beq_nil_ie (l : List UInt8) : (l == []) = l.isEmpty := by cases l <;> rfl
theorem kmsgSize (m : MsgC) : (Tryd.prog.info? 72).map (·.size) = some m.cells.length := by kernel_rfl

set_option maxRecDepth 20000 in
theorem k_pan (m : MsgC) (w : World) : Calls Tryd.prog 59 #[m.val] w fun e w' => e = .returned (.bool (!(m.pan.toList == []))) ∧ Fr No w w' := by
  have hfa := (Fr.refl No w).alloc (.cells m.cells.toArray 72)
  unfold MsgC.cells at hfa
  have HFA := Lib.hid hfa
  clear hfa
  unfold MsgC.val
  go_enter Tryd.func59, Tryd.ntmps59
  go_wp2
  go_ret
  exact ⟨ret_bool (by rw [beq_nil_ie]), HFA.out⟩
set_option maxRecDepth 20000 in
theorem k_currency (m : MsgC) (w : World) : Calls Tryd.prog 47 #[m.val] w fun e w' => e = .returned (.bool (!(m.cur.toList == []))) ∧ Fr No w w' := by
  have hfa := (Fr.refl No w).alloc (.cells m.cells.toArray 72)
  unfold MsgC.cells at hfa
  have HFA := Lib.hid hfa
  clear hfa
  unfold MsgC.val
  go_enter Tryd.func47, Tryd.ntmps47
  go_wp2
  go_ret
  exact ⟨ret_bool (by rw [beq_nil_ie]), HFA.out⟩
set_option maxRecDepth 20000 in
theorem k_rrn (m : MsgC) (w : World) : Calls Tryd.prog 60 #[m.val] w fun e w' => e = .returned (.bool (!(m.rrn.toList == []))) ∧ Fr No w w' := by
  have hfa := (Fr.refl No w).alloc (.cells m.cells.toArray 72)
  unfold MsgC.cells at hfa
  have HFA := Lib.hid hfa
  clear hfa
  unfold MsgC.val
  go_enter Tryd.func60, Tryd.ntmps60
  go_wp2
  go_ret
  exact ⟨ret_bool (by rw [beq_nil_ie]), HFA.out⟩
set_option maxRecDepth 20000 in
theorem k_merchant (m : MsgC) (w : World) : Calls Tryd.prog 61 #[m.val] w fun e w' => e = .returned (.bool (!(m.mer.toList == []))) ∧ Fr No w w' := by
  have hfa := (Fr.refl No w).alloc (.cells m.cells.toArray 72)
  unfold MsgC.cells at hfa
  have HFA := Lib.hid hfa
  clear hfa
  unfold MsgC.val
  go_enter Tryd.func61, Tryd.ntmps61
  go_wp2
  go_ret
  exact ⟨ret_bool (by rw [beq_nil_ie]), HFA.out⟩
set_option maxRecDepth 20000 in
theorem k_terminal (m : MsgC) (w : World) : Calls Tryd.prog 62 #[m.val] w fun e w' => e = .returned (.bool (!(m.ter.toList == []))) ∧ Fr No w w' := by
  have hfa := (Fr.refl No w).alloc (.cells m.cells.toArray 72)
  unfold MsgC.cells at hfa
  have HFA := Lib.hid hfa
  clear hfa
  unfold MsgC.val
  go_enter Tryd.func62, Tryd.ntmps62
  go_wp2
  go_ret
  exact ⟨ret_bool (by rw [beq_nil_ie]), HFA.out⟩
set_option maxRecDepth 20000 in
theorem k_approval (m : MsgC) (w : World) : Calls Tryd.prog 63 #[m.val] w fun e w' => e = .returned (.bool (!(m.app.toList == []))) ∧ Fr No w w' := by
  have hfa := (Fr.refl No w).alloc (.cells m.cells.toArray 72)
  unfold MsgC.cells at hfa
  have HFA := Lib.hid hfa
  clear hfa
  unfold MsgC.val
  go_enter Tryd.func63, Tryd.ntmps63
  go_wp2
  go_ret
  exact ⟨ret_bool (by rw [beq_nil_ie]), HFA.out⟩
set_option maxRecDepth 20000 in
theorem k_entry (m : MsgC) (w : World) : Calls Tryd.prog 64 #[m.val] w fun e w' => e = .returned (.bool (m.entry != 0)) ∧ Fr No w w' := by
  have hfa := (Fr.refl No w).alloc (.cells m.cells.toArray 72)
  unfold MsgC.cells at hfa
  have HFA := Lib.hid hfa
  clear hfa
  unfold MsgC.val
  go_enter Tryd.func64, Tryd.ntmps64
  go_wp2
  go_ret
  exact ⟨rfl, HFA.out⟩
set_option maxRecDepth 20000 in
theorem k_action (m : MsgC) (w : World) : Calls Tryd.prog 65 #[m.val] w fun e w' => e = .returned (.bool (!(m.act.toList == []))) ∧ Fr No w w' := by
  have hfa := (Fr.refl No w).alloc (.cells m.cells.toArray 72)
  unfold MsgC.cells at hfa
  have HFA := Lib.hid hfa
  clear hfa
  unfold MsgC.val
  go_enter Tryd.func65, Tryd.ntmps65
  go_wp2
  go_ret
  exact ⟨ret_bool (by rw [beq_nil_ie]), HFA.out⟩
set_option maxRecDepth 20000 in
theorem k_reason (m : MsgC) (w : World) : Calls Tryd.prog 66 #[m.val] w fun e w' => e = .returned (.bool (!(m.rea.toList == []))) ∧ Fr No w w' := by
  have hfa := (Fr.refl No w).alloc (.cells m.cells.toArray 72)
  unfold MsgC.cells at hfa
  have HFA := Lib.hid hfa
  clear hfa
  unfold MsgC.val
  go_enter Tryd.func66, Tryd.ntmps66
  go_wp2
  go_ret
  exact ⟨ret_bool (by rw [beq_nil_ie]), HFA.out⟩
set_option maxRecDepth 20000 in
theorem k_origin (m : MsgC) (w : World) : Calls Tryd.prog 48 #[m.val] w fun e w' => e = .returned (.bool (!(m.otime.toList == []))) ∧ Fr No w w' := by
  have hfa := (Fr.refl No w).alloc (.cells m.cells.toArray 72)
  unfold MsgC.cells at hfa
  have HFA := Lib.hid hfa
  clear hfa
  unfold MsgC.val
  go_enter Tryd.func48, Tryd.ntmps48
  go_wp2
  go_ret
  exact ⟨ret_bool (by rw [beq_nil_ie]), HFA.out⟩
set_option maxRecDepth 20000 in
theorem k_tags (m : MsgC) (w : World) : Calls Tryd.prog 67 #[m.val] w fun e w' => e = .returned (.bool (decide (0 < m.tn))) ∧ Fr No w w' := by
  have hfa := (Fr.refl No w).alloc (.cells m.cells.toArray 72)
  unfold MsgC.cells at hfa
  have HFA := Lib.hid hfa
  clear hfa
  unfold MsgC.val
  go_enter Tryd.func67, Tryd.ntmps67
  go_wp2
  go_ret
  exact ⟨ret_bool (by rw [decide_eq_decide]), HFA.out⟩
/-- the questions' functions, in their order -/
def askF (k : Nat) : FuncId := ([59, 47, 60, 61, 62, 63, 64, 65, 66, 48, 67] : List Nat).getD k 0
theorem askF_enters (k : Nat) (hk : k < 11) : ∀ args w, (callFunc (askF k) args).run Tryd.prog w = .ok (.enter (askF k) args) w := by
  intro args w
  have h : k = 0 ∨ k = 1 ∨ k = 2 ∨ k = 3 ∨ k = 4 ∨ k = 5 ∨ k = 6 ∨ k = 7 ∨ k = 8 ∨ k = 9 ∨ k = 10 := by omega
  rcases h with rfl | rfl | rfl | rfl | rfl | rfl | rfl | rfl | rfl | rfl | rfl <;> (show _ = _; unfold askF; kernel_rfl)
theorem askF_tells (m : MsgC) (k : Nat) (hk : k < 11) (w : World) : Calls Tryd.prog (askF k) #[m.val] w fun e w' => e = .returned (.bool ((m.there[k]?).getD false)) ∧ Fr No w w' := by
  have h : k = 0 ∨ k = 1 ∨ k = 2 ∨ k = 3 ∨ k = 4 ∨ k = 5 ∨ k = 6 ∨ k = 7 ∨ k = 8 ∨ k = 9 ∨ k = 10 := by omega
  rcases h with rfl | rfl | rfl | rfl | rfl | rfl | rfl | rfl | rfl | rfl | rfl
  · exact k_pan m w
  · exact k_currency m w
  · exact k_rrn m w
  · exact k_merchant m w
  · exact k_terminal m w
  · exact k_approval m w
  · exact k_entry m w
  · exact k_action m w
  · exact k_reason m w
  · exact k_origin m w
  · exact k_tags m w
/-- the questions' cells -/
def askV : List Value := [.int .u16 1, .func (.func (askF 0)) #[] #[], .int .u16 2, .func (.func (askF 1)) #[] #[], .int .u16 4, .func (.func (askF 2)) #[] #[], .int .u16 8, .func (.func (askF 3)) #[] #[], .int .u16 16, .func (.func (askF 4)) #[] #[], .int .u16 32, .func (.func (askF 5)) #[] #[], .int .u16 64, .func (.func (askF 6)) #[] #[], .int .u16 128, .func (.func (askF 7)) #[] #[], .int .u16 256, .func (.func (askF 8)) #[] #[], .int .u16 512, .func (.func (askF 9)) #[] #[], .int .u16 1024, .func (.func (askF 10)) #[] #[]]
theorem askV_get {k : Nat} (hk : k < 11) : askV[k * 2]? = some (.int .u16 ((2 ^ k : Nat) : Int)) ∧ askV[k * 2 + 1]? = some (.func (.func (askF k)) #[] #[]) := by
  have h : k = 0 ∨ k = 1 ∨ k = 2 ∨ k = 3 ∨ k = 4 ∨ k = 5 ∨ k = 6 ∨ k = 7 ∨ k = 8 ∨ k = 9 ∨ k = 10 := by omega
  rcases h with rfl | rfl | rfl | rfl | rfl | rfl | rfl | rfl | rfl | rfl | rfl <;> exact ⟨rfl, rfl⟩
set_option maxRecDepth 20000 in
theorem k_questions (w : World) : Calls Tryd.prog 46 #[] w fun e w' => ∃ A, e = .returned (.slice (some A) 11 11) ∧ RdS w' 2 (some A) 11 11 askV ∧ Fr No w w' := by
  go_enter Tryd.func46, Tryd.ntmps46
  go_wp2
  go_ret
  exact ⟨_, rfl, RdS.lit w askV _ 11 rfl (by simp [maxLen]), (Fr.refl No w).alloc _⟩
/-- a question's cells -/
theorem ask_cells {w : World} {ad : Addr} (h : RdS w 2 (some ad) 11 11 askV) {k : Nat} (hk : k < 11) :
    w.cell? (ad.add (k * 2)) = some (.int .u16 ((2 ^ k : Nat) : Int)) ∧ w.cell? ⟨(ad.add (k * 2)).block, (ad.add (k * 2)).off + 1, none⟩ = some (.func (.func (askF k)) #[] #[]) := by
  obtain ⟨g0, g1⟩ := askV_get hk
  exact ⟨h.cells ad rfl _ _ g0, by rw [← k_add ad (k * 2) 0]; exact h.cells ad rfl _ _ g1⟩
set_option maxRecDepth 20000 in
theorem k_has (m : MsgC) (w : World) : Calls Tryd.prog 31 #[m.val] w fun e w' => e = .returned (.int .u16 (maskN m.there 11 : Int)) ∧ Fr No w w' := by
  have hask := fun k hk u => askF_tells m k hk u
  have hb0 : Bk (w.alloc (.cells m.cells.toArray 72)) w.heap.size 72 m.cells := Bk.new w _ _
  have hfa : Fr No w (w.alloc (.cells m.cells.toArray 72)) := (Fr.refl No w).alloc _
  generalize m.there = th at hask ⊢
  unfold MsgC.val at hask ⊢
  unfold MsgC.cells at hfa
  have HASK := Lib.hid hask; have HB0 := Lib.hid hb0; have HFA := Lib.hid hfa
  clear hask hb0 hfa
  go_enter Tryd.func31, Tryd.ntmps31
  go_wp2_with (go_at_call 46; refine (k_questions _).mono ?_; rintro e w1 ⟨ad, rfl, hq, f1⟩)
  have hbm := HB0.out.no f1
  have HQ := Lib.hid hq; have HF1 := Lib.hid (HFA.out.trans f1); have HBM := Lib.hid hbm
  clear hq f1 hbm HB0
  go_loopw [3, 8] (fun ov v wr => ∃ k : Nat, k ≤ 11 ∧ v = .int .i64 (k : Int) ∧ ov = .int .u16 (maskN th k : Int) ∧ Fr No w1 wr) (fun _ v _ => 11 - (intOf v).toNat)
  case atStart => exact ⟨0, by omega, rfl, rfl, Fr.refl _ _⟩
  case round =>
    obtain ⟨k, hk, rfl, rfl, hfr⟩ := hrel
    have HFR := Lib.hid hfr
    clear hfr
    rcases Nat.lt_or_ge k 11 with hkn | hge
    · obtain ⟨c0, c1⟩ := ask_cells (w := wr) ⟨HQ.out.len, HQ.out.cap, HQ.out.max, HQ.out.nil, fun a e j u hu => HFR.out.cell (HQ.out.cells a e j u hu) (fun x => x)⟩ hkn
      have hen := askF_enters k hkn
      have hte := fun u => HASK.out k hkn u
      have hstep : maskN th (k + 1) = if (th[k]?).getD false then maskN th k ||| 2 ^ k else maskN th k := rfl
      have hml := maskN_lt th k
      have hp2 : 2 ^ k ≤ 2 ^ 10 := Nat.pow_le_pow_right (by decide) (by omega)
      obtain ⟨p2, hp⟩ : ∃ p, 2 ^ k = p := ⟨_, rfl⟩
      rw [hp] at c0 hstep hml hp2
      obtain ⟨mk, hmk⟩ : ∃ x, maskN th k = x := ⟨_, rfl⟩
      rw [hmk] at hstep hml ⊢
      have hor := or_u16 mk p2 (by omega) (by omega)
      generalize (th[k]?).getD false = b at hte hstep
      generalize askF k = F at c1 hen hte
      obtain ⟨P, hP⟩ : ∃ P, ad.add (k * 2) = P := ⟨_, rfl⟩
      rw [hP] at c0 c1
      have hbq : Bk (wr.alloc (.cells #[.int .u16 (p2 : Int), .func (.func F) #[] #[]] 90)) wr.heap.size 90 [.int .u16 (p2 : Int), .func (.func F) #[] #[]] := Bk.new wr _ _
      have hbm := (HBM.out.no HFR.out).no ((Fr.refl No wr).alloc (.cells #[.int .u16 (p2 : Int), .func (.func F) #[] #[]] 90))
      have HFQ := Lib.hid ((Fr.refl No wr).alloc (.cells #[.int .u16 (p2 : Int), .func (.func F) #[] #[]] 90))
      have HRG := Lib.hid hbm.range
      have hsf : ∀ (a : Addr) (u : World) (m : Mode), (store a (.func (.func F) #[] #[]) m).run Tryd.prog u = stored Tryd.prog u a (.func (.func F) #[] #[]) m := fun a u m => run_store Tryd.prog u a _ m rfl
      have HTE := Lib.hid hte; have HST := Lib.hid hstep; have HBQ := Lib.hid hbq
      clear hte hstep hbq hbm hp hmk hml hp2
      cases b with
      | _ =>
        go_wp2_with (first
          | (refine wpList_load_mid rfl 72 _ rfl w.heap.size 0 rfl m.cells _ HRG.out (Tryd.underlying72) rfl (kmsgSize m) ?_; clear HRG)
          | (refine (HTE.out _).mono ?_; rintro e w2 ⟨rfl, f2⟩; have B2 := HBQ.out.no f2; have d0 := B2.cell 0; have HF2 := Lib.hid (HFR.out.trans (HFQ.out.trans f2)); clear f2 B2))
        go_roundw
        case rel => exact ⟨k + 1, by omega, by go_num, by rw [HST.out]; rfl, HF2.out⟩
        case measure => simp [intOf]; omega
    · obtain rfl : k = 11 := by omega
      go_wp2
      go_ret
      exact ⟨rfl, HF1.out.trans HFR.out⟩
end Go.Proofs.YtdfehdjpbmkaoaaDoor
/- Package kinds: whether a message has what it must, and may: contracts. -/
namespace Go.Proofs.YtdfehdjpbmkaoaaDoor
open Go.RowKit
set_option maxHeartbeats 1000000
set_option linter.unusedVariables false

theorem k_lets (r : DRow) (h : Nat) (hm : r.must < 2048) (ha : r.may < 2048) (hh : h < 2048) (w : World) : Calls Tryd.prog 30 #[r.val, .int .u16 (h : Int)] w fun e w' => e = .returned (.bool (letsB r h)) ∧ Fr No w w' := by
  obtain ⟨rk, rc, rm, ru, ra⟩ := r
  simp only at hm ha
  unfold DRow.val letsB
  simp only
  have hor := or_u16 ru ra (by omega) (by omega)
  have hj : ru ||| ra < 65536 := Nat.or_lt_two_pow (n := 16) (by omega) (by omega)
  have hand := and_u16 h ru (by omega) (by omega)
  have hnot := not_u16 h (ru ||| ra)
  have hw := without_lt h (ru ||| ra)
  have hx : h &&& ru < 65536 := Nat.and_lt_two_pow (n := 16) h (by omega)
  generalize without h (ru ||| ra) = Z at hnot hw ⊢
  generalize ru ||| ra = Y at hor hnot hj
  generalize h &&& ru = X at hand hx ⊢
  have hb1 : ((X : Int) == (ru : Int)) = (X == ru) := by rw [Bool.eq_iff_iff, beq_iff_eq, beq_iff_eq]; omega
  have hb2 : ((Z : Int) == 0) = (Z == 0) := by rw [Bool.eq_iff_iff, beq_iff_eq, beq_iff_eq]; omega
  generalize (X == ru) = b1 at hb1 ⊢
  generalize (Z == 0) = b2 at hb2 ⊢
  have HFA := Lib.hid ((Fr.refl No w).alloc (.cells #[.int .i64 rk, .string rc, .string rm, .int .u16 (ru : Int), .int .u16 (ra : Int)] 68))
  go_enter Tryd.func30, Tryd.ntmps30
  cases b1 <;> cases b2
  all_goals
    go_wp2
    go_ret
    exact ⟨rfl, HFA.out⟩
set_option maxHeartbeats 4000000 in
set_option maxRecDepth 20000 in
theorem k_whole (m : MsgC) (w : World) : Calls Tryd.prog 32 #[m.val] w fun e w' => e = .returned (.bool (!m.bad)) ∧ Fr No w w' := by
  have hc := fun u => k_currency m u
  have ho := fun u => k_origin m u
  have hb0 : Bk (w.alloc (.cells m.cells.toArray 72)) w.heap.size 72 m.cells := Bk.new w _ _
  have hfa : Fr No w (w.alloc (.cells m.cells.toArray 72)) := (Fr.refl No w).alloc _
  unfold MsgC.bad
  obtain ⟨p1, e1⟩ : ∃ p, (m.cur.toList == []) = p := ⟨_, rfl⟩
  obtain ⟨p2, e2⟩ : ∃ p, (m.amount != 0) = p := ⟨_, rfl⟩
  obtain ⟨p3, e3⟩ : ∃ p, (m.otime.toList == []) = p := ⟨_, rfl⟩
  obtain ⟨p4, e4⟩ : ∃ p, (m.ostan != 0) = p := ⟨_, rfl⟩
  have e2' : (m.amount == 0) = !p2 := by rw [← e2]; simp [bne]
  have e4' : (m.ostan == 0) = !p4 := by rw [← e4]; simp [bne]
  rw [e1, e2, e3, e4]
  rw [e1] at hc
  rw [e3] at ho
  unfold MsgC.val at hc ho ⊢
  unfold MsgC.cells at hfa
  have HC := Lib.hid hc; have HO := Lib.hid ho; have HB0 := Lib.hid hb0; have HFA := Lib.hid hfa
  have HRG := Lib.hid hb0.range
  have t1 : True := trivial
  have t2 : True := trivial
  clear hc ho hb0 hfa e1 e2 e3 e4
  go_enter Tryd.func32, Tryd.ntmps32
  have hfin : (p1 = true ∧ p2 = true) ∨ (p1 = false ∧ p3 = false) ∨ (p1 = false ∧ p3 = true ∧ p4 = false) ∨ (p1 = false ∧ p3 = true ∧ p4 = true) ∨ ((p1 = true ∧ p2 = false) ∧ p3 = false) ∨ ((p1 = true ∧ p2 = false) ∧ p3 = true ∧ p4 = false) ∨ ((p1 = true ∧ p2 = false) ∧ p3 = true ∧ p4 = true) := by
    cases p1 <;> cases p2 <;> cases p3 <;> cases p4 <;> simp
  rcases hfin with ⟨rfl, rfl⟩ | ⟨rfl, rfl⟩ | ⟨rfl, rfl, rfl⟩ | ⟨rfl, rfl, rfl⟩ | ⟨⟨rfl, rfl⟩, rfl⟩ | ⟨⟨rfl, rfl⟩, rfl, rfl⟩ | ⟨⟨rfl, rfl⟩, rfl, rfl⟩
  all_goals
    go_wp2_with (first
      | (clear t1; refine wpList_load_bk rfl 72 _ rfl w.heap.size rfl m.cells _ HB0.out (Tryd.underlying72) rfl (kmsgSize m) ?_)
      | (clear t2; refine wpList_load_bk rfl 72 _ rfl w.heap.size rfl m.cells _ HB1.out (Tryd.underlying72) rfl (kmsgSize m) ?_)
      | (go_at_call 47; refine (HC.out _).mono ?_; rintro e w1 ⟨rfl, f1⟩; have B1 := HB0.out.no f1; have d6 : w1.cell? ⟨w.heap.size, 6, none⟩ = some (.int .u64 m.amount) := B1.cell 6; have d14 : w1.cell? ⟨w.heap.size, 14, none⟩ = some (.int .i64 m.ostan) := B1.cell 14; have HF1 := Lib.hid f1; have HB1 := Lib.hid B1; clear f1 B1)
      | (go_at_call 48; refine (HO.out _).mono ?_; rintro e w2 ⟨rfl, f2⟩; have B2 := HB1.out.no f2; have d14' : w2.cell? ⟨w.heap.size, 14, none⟩ = some (.int .i64 m.ostan) := B2.cell 14; have HF2 := Lib.hid f2; clear f2 B2))
    go_ret
    first | exact ⟨ret_bool (by simp), (HFA.out.trans HF1.out).trans HF2.out⟩ | exact ⟨ret_bool (by simp), HFA.out.trans HF1.out⟩
end Go.Proofs.YtdfehdjpbmkaoaaDoor
/- Package kinds: whether a message has what it must, and may: contracts. -/
namespace Go.Proofs.YtdfehdjpbmkaoaaDoor
open Go.RowKit
set_option maxHeartbeats 1000000
set_option linter.unusedVariables false

theorem msg_one (m : MsgC) : m.cells.toArray.all (·.oneCell') = true := by simp [MsgC.cells, Value.oneCell']
def m0 : List Value := [.int .i64 0, .int .i64 0, .string ⟨#[]⟩, .string ⟨#[]⟩, .string ⟨#[]⟩, .string ⟨#[]⟩, .int .u64 0, .string ⟨#[]⟩, .string ⟨#[]⟩, .string ⟨#[]⟩, .string ⟨#[]⟩, .int .i64 0, .string ⟨#[]⟩, .string ⟨#[]⟩, .int .i64 0, .string ⟨#[]⟩, .slice none 0 0, .string ⟨#[]⟩, .string ⟨#[]⟩, .slice none 0 0, .slice none 0 0]
/-- whether a message has what it must -/
def fitsM (m : MsgC) : Int := fitsR (rowOf m.kind) (hasL m.there) m.bad
set_option maxHeartbeats 4000000 in
set_option maxRecDepth 20000 in
theorem kinds_fits_any (m : MsgC) (hk0 : -9223372036854775808 ≤ m.kind) (hk1 : m.kind ≤ 9223372036854775807) (w : World) (hT : Tabs w := by repeat' first | with_reducible assumption | with_reducible apply Tabs.drew | with_reducible apply Tabs.drewN | with_reducible apply Tabs.alloc | refine Tabs.fr ?_ (by with_reducible assumption)) :
    Calls Tryd.prog 9 #[m.val] w fun e w' => e = .returned (.int .i64 (fitsM m)) ∧ Fr No w w' := by
  have hfi := fun u (h : Tabs u) => k_first _ _ _ (k_num_tests m.kind) u h
  have hsm : (dFirst (pNum m.kind)).must < 2048 ∧ (dFirst (pNum m.kind)).may < 2048 := by
    by_cases h : 1 ≤ m.kind ∧ m.kind < 12
    · obtain ⟨i, hi, _, he⟩ := (first_num m.kind).1 h
      rw [he]
      exact ⟨(dev_row hi).2.2.2.1, (dev_row hi).2.2.2.2⟩
    · rw [(first_num m.kind).2 h]
      exact ⟨by decide, by decide⟩
  have hres : fitsM m = if (dFirst (pNum m.kind)).kind = 0 then 15 else if !letsB (dFirst (pNum m.kind)) (maskN m.there 11) || m.bad then 19 else 0 := by unfold fitsM; exact fits_dev m.there m.bad m.kind
  generalize fitsM m = res at hres ⊢
  generalize dFirst (pNum m.kind) = r at hfi hsm hres
  have hha := fun u => below_of (k_has m u)
  have hml := maskN_lt m.there 11
  have hle := fun u => below_of (k_lets r (maskN m.there 11) hsm.1 hsm.2 hml u)
  have hwh := fun u => below_of (k_whole m u)
  generalize maskN m.there 11 = H at hha hle hres hml
  generalize letsB r H = lb at hle hres
  generalize m.bad = bad at hwh hres
  obtain ⟨rk, rc, rm, ru, ra⟩ := r
  have hb0 : Bk (w.alloc (.cells m.cells.toArray 29)) w.heap.size 29 m.cells := Bk.new w _ _
  have hfa : Fr No w (w.alloc (.cells m.cells.toArray 29)) := (Fr.refl No w).alloc _
  have hT1 : Tabs (w.alloc (.cells m.cells.toArray 29)) := hT.alloc
  unfold DRow.val at hfi hle
  simp only at hres
  unfold MsgC.val at hha hwh ⊢
  have hfi2 := hfi _ hT1
  unfold MsgC.cells at hfi2 hfa
  have HFI := Lib.hid hfi2; have HHA := Lib.hid hha; have HLE := Lib.hid hle; have HWH := Lib.hid hwh; have HRES := Lib.hid hres; have HB0 := Lib.hid hb0; have HFA := Lib.hid hfa
  clear hfi hfi2 hha hle hwh hres hb0 hfa hT hT1 hsm hml hk0 hk1
  cases hz : (rk == 0) with
  | true =>
    have hre : res = 15 := by rw [HRES.out, if_pos (by simpa using hz)]
    have HRE := Lib.hid hre
    clear hre
    go_enter Tryd.func9, Tryd.ntmps9
    go_wp2_with (go_at_call 28; refine HFI.out.mono ?_; rintro e w1 ⟨rfl, f1⟩; have HF1 := Lib.hid f1; clear f1)
    go_ret
    exact ⟨by rw [HRE.out]; rfl, (HFA.out.trans HF1.out).alloc _⟩
  | false =>
    have hre : res = if !lb || bad then 19 else 0 := by rw [HRES.out, if_neg (by simpa using hz)]
    have HRE := Lib.hid hre
    have t1 : True := trivial
    clear hre
    go_enter Tryd.func9, Tryd.ntmps9
    go_wp2_with (first
      | (go_at_call 28; refine HFI.out.mono ?_; rintro e w1 ⟨rfl, f1⟩; have HF1 := Lib.hid f1; have B1 := ((HB0.out.no f1).no ((Fr.refl No w1).alloc (.cells #[.int .i64 rk, .string rc, .string rm, .int .u16 (ru : Int), .int .u16 (ra : Int)] 68))); have BZ := Lib.hid (Bk.new (w1.alloc (.cells #[.int .i64 rk, .string rc, .string rm, .int .u16 (ru : Int), .int .u16 (ra : Int)] 68)) 72 m0.toArray); clear f1)
      | (clear t1; refine wpList_load_bk rfl 29 _ rfl w.heap.size rfl m.cells _ B1 (Tryd.underlying29) rfl (msgSize m) ?_; clear B1)
      | (refine wpList_store_bk rfl 72 _ _ rfl (w1.heap.size + 1) rfl m0 m.cells rfl (by simpa [m0] using BZ.out) rfl (kmsgSize m) (msg_one m) ?_; intro W bm f2 s2; have BM := Lib.hid bm; have HF2 := Lib.hid f2; clear bm f2 s2))
    have hbr : Bk W w1.heap.size 68 [.int .i64 rk, .string rc, .string rm, .int .u16 (ru : Int), .int .u16 (ra : Int)] :=
      ((Bk.new w1 _ _).no ((Fr.refl No _).alloc _)).fr HF2.out (by unfold Just; omega)
    have hbm := BM.out
    have hfw : Fr No w W := (((HFA.out.trans HF1.out).alloc _).alloc _).trans_just HF2.out (by have := (HFA.out.trans HF1.out).size; omega)
    have HFW := Lib.hid hfw
    have HQ1 := Lib.hid (show ∀ w' : World, (∃ p : Regrown, w' = Go.Sort.grow (redrawn W p.d) p.os) → w'.rangeAt w1.heap.size 0 [.int .i64 rk, .string rc, .string rm, .int .u16 (ru : Int), .int .u16 (ra : Int)] from fun w' ⟨p, hp⟩ => by
      rw [hp]; exact (hbr.no (fr_regrown W p.d p.os)).range)
    have HQ2 := Lib.hid (show ∀ w' : World, (∃ p : Regrown, w' = Go.Sort.grow (redrawn W p.d) p.os) → w'.rangeAt (w1.heap.size + 1) 0 m.cells from fun w' ⟨p, hp⟩ => by
      rw [hp]; exact (hbm.no (fr_regrown W p.d p.os)).range)
    clear hbr hbm hfw BM HF2 BZ HF1
    generalize w1.heap.size = g1 at HQ1 HQ2 ⊢
    have hre2 : ∀ q, (!lb || bad) = q → res = if q then 19 else 0 := fun q hq => by rw [HRE.out, hq]
    have HRE2 := Lib.hid hre2
    clear hre2 HRE HRES
    cases lb <;> cases bad
    all_goals
      refine wp_region_quiet_below (by kernel_rfl) (by kernel_rfl) ?_
      repeat (first
        | (refine quiet_load 68 _ rfl (by rfl) g1 (by rfl) _ _ HQ1.out (Tryd.underlying68) rfl (rowSize _ _ _ _ _) ?_)
        | (refine quiet_load 72 _ rfl (by rfl) (g1 + 1) (by rfl) m.cells _ HQ2.out (Tryd.underlying72) rfl (kmsgSize m) ?_)
        | quiet_step ((first
          | (go_at_call 31; exact Calls.regrown_of (HHA.out _))
          | (go_at_call 30; exact Calls.regrown_of (HLE.out _))
          | (go_at_call 32; exact Calls.regrown_of (HWH.out _)))))
      refine wpQuiet_nil ?_
      intro w7 hw7r
      obtain ⟨⟨nr, osr⟩, hw7r⟩ := hw7r
      have hf7 : Fr No W w7 := by rw [hw7r]; exact fr_regrown W nr osr
      clear hw7r
      go_wp2
      go_ret
      exact ⟨by rw [HRE2.out _ rfl]; rfl, HFW.out.trans hf7⟩
end Go.Proofs.YtdfehdjpbmkaoaaDoor
/- Layer 11 is awake. -/
namespace Go.Proofs.YtdfehdjpbmkaoaaDoor
open Go.RowKit
set_option maxHeartbeats 400000
set_option linter.unusedVariables false

/-- a message of a kind, no more -/
def kMsg (k : Int) : MsgC := { kind := k, stan := 0, time := .empty, acq := .empty, pan := .empty, cur := .empty, amount := 0, rrn := .empty, mer := .empty, ter := .empty, app := .empty, entry := 0, act := .empty, rea := .empty, ostan := 0, otime := .empty, tA := none, tn := 0, tc := 0, key := .empty, note := .empty, eA := none, en := 0, ec := 0, oA := none, on := 0, oc := 0 }
theorem kin_awake (w : World) (hT : Tabs w := by repeat' first | with_reducible assumption | with_reducible apply Tabs.drew | with_reducible apply Tabs.drewN | with_reducible apply Tabs.alloc | refine Tabs.fr ?_ (by with_reducible assumption)) : Calls Tryd.prog 6 #[] w fun e w' => e = .returned (.bool true) ∧ Fr No w w' := by
  have h1 := fun u (h : Tabs u) => kinds_code_any 1 (by decide) (by decide) u
  have e1 : cdB 1 = ⟨#[65, 85, 84, 81]⟩ := by decide +kernel
  rw [e1] at h1
  have h2 := fun u (h : Tabs u) => kinds_ofmti_any ⟨#[50, 49, 49, 48]⟩ u
  have e2 : ofMti ⟨#[50, 49, 49, 48]⟩ = 2 := by decide +kernel
  rw [e2] at h2
  have h3 := fun u => kinds_answer_any 7 (by decide) (by decide) u
  have e3 : ansI 7 = 8 := by decide +kernel
  rw [e3] at h3
  have h4 := fun u => kinds_money_any 3 u
  have e4 : monB 3 = true := by decide +kernel
  rw [e4] at h4
  have h5 := fun u (h : Tabs u) => kinds_fits_any (kMsg 9) (by decide) (by decide) u
  have e5 : fitsM (kMsg 9) = 0 := by decide +kernel
  rw [e5] at h5
  have H1 := Lib.hid h1; have H2 := Lib.hid h2; have H3 := Lib.hid h3; have H4 := Lib.hid h4; have H5 := Lib.hid h5
  clear h1 h2 h3 h4 h5 e1 e2 e3 e4 e5
  go_enter Tryd.func6, Tryd.ntmps6
  go_wp2_with (first
    | (go_at_call 13; refine (H1.out _ (by repeat' first | with_reducible assumption | with_reducible apply Tabs.drew | with_reducible apply Tabs.drewN | with_reducible apply Tabs.alloc | refine Tabs.fr ?_ (by with_reducible assumption))).mono ?_; rintro e w1 ⟨rfl, hf1⟩)
    | (go_at_call 14; refine (H2.out _ (by repeat' first | with_reducible assumption | with_reducible apply Tabs.drew | with_reducible apply Tabs.drewN | with_reducible apply Tabs.alloc | refine Tabs.fr ?_ (by with_reducible assumption))).mono ?_; rintro e w2 ⟨rfl, hf2⟩)
    | (go_at_call 15; refine (H3.out _).mono ?_; rintro e w3 ⟨rfl, rfl⟩)
    | (go_at_call 16; refine (H4.out _).mono ?_; rintro e w4 ⟨rfl, rfl⟩)
    | (go_at_call 9; refine (H5.out _ (by repeat' first | with_reducible assumption | with_reducible apply Tabs.drew | with_reducible apply Tabs.drewN | with_reducible apply Tabs.alloc | refine Tabs.fr ?_ (by with_reducible assumption))).mono ?_; rintro e w5 ⟨rfl, hf5⟩))
  go_ret
  exact ⟨rfl, (hf1.trans hf2).trans hf5⟩
end Go.Proofs.YtdfehdjpbmkaoaaDoor
