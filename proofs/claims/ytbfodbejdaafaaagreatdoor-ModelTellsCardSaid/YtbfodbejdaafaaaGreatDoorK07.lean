/- The texts Tabs, SimAmt, SimChkM, joined. -/
import Derived.Test.YtbfodbejdaafaaaGreatDoorK01
import Derived.Shelf.Unicode.DecodeSlow
import Derived.Lib.ItoaMem
import Derived.Lib.SmallJoins
import Derived.Test.YtbfodbejdaafaaaGreatDoorK05
import Derived.Test.YtbfodbejdaafaaaGreatDoorK06
import Derived.Test.YtbfodbejdaafaaaGreatDoorK03
import Derived.Test.YtbfodbejdaafaaaGreatDoorK04
import Derived.Test.YtbfodbejdaafaaaGreatDoorShelf
/- The tables of the library that the program reads (package unicode/utf8's, strconv's powers of ten): what is asked of the world, and that a call which turns no block keeps it. -/
namespace Go.Proofs.YtbfodbejdaafaaaGreatDoor
open Go.RowKit
set_option linter.unusedVariables false

structure Tabs (w : World) : Prop where
  u8 : Lib.Utf8Tabs 0 1 w
  ten : Lib.TabIs Tryz.prog w "internal/strconv.uint64pow10" .u64 Lib.pow10Tab
theorem Tabs.below {a b : World} (h : Tabs a) (k : Below a.heap.size a b) : Tabs b where
  u8 := Utf8Tabs_below h.u8 k
  ten := Joins.tab_stays (show Tryz.prog.globalNamed "internal/strconv.uint64pow10" = some 3 by kernel_rfl) h.ten k (Nat.le_refl _)
theorem Tabs.fr {a b : World} (h : Tabs a) (k : Fr No a b) : Tabs b := h.below k.toBelow
theorem Tabs.frNew {S : Nat → Prop} {a b : World} (h : Tabs a) (k : Fr S a b) (hS : ∀ i, S i → a.heap.size ≤ i) : Tabs b := h.below (k.toBelow' hS)
theorem Tabs.drew {a : World} (h : Tabs a) : Tabs a.drew := h.fr (Fr.refl No a).drew
theorem Tabs.drewN {a : World} {n : Nat} (h : Tabs a) : Tabs (a.drewN n) := h.fr ((Fr.refl No a).drewN n)
theorem Tabs.alloc {a : World} {o : Obj} (h : Tabs a) : Tabs (a.alloc o) := h.fr ((Fr.refl No a).alloc o)
theorem Tabs.dr {a b : World} (h : Tabs a) (k : Dr a b) : Tabs b := h.fr ((Fr.refl No a).dr k)
end Go.Proofs.YtbfodbejdaafaaaGreatDoor
/- Package simple's amounts: contracts of its calls. -/
namespace Go.Proofs.YtbfodbejdaafaaaGreatDoor
open Go.RowKit
set_option maxHeartbeats 1000000
set_option linter.unusedVariables false

theorem s_amttext_any (v : Nat) (w : World) (hv : v < 18446744073709551616) (hT : Tabs w := by repeat' first | with_reducible assumption | with_reducible apply Tabs.drew | with_reducible apply Tabs.drewN | with_reducible apply Tabs.alloc | refine Tabs.fr ?_ (by with_reducible assumption)) :
    Calls Tryz.prog 132 #[.int .u64 (v : Int)] w fun e w' => ∃ T : ByteArray, e = .returned (.tuple #[.string T, .int .i64 (amtE v)]) ∧ T.data.toList = amtR v ∧ Fr No w w' := by
  unfold amtE amtR
  by_cases hm : v ≤ 999999999999
  · rw [if_pos hm, if_pos hm]
    obtain ⟨q, hq⟩ : ∃ q, v / 100 = q := ⟨_, rfl⟩
    obtain ⟨r, hr⟩ : ∃ r, v % 100 = r := ⟨_, rfl⟩
    obtain ⟨t1, t2⟩ := two_wide r (by omega)
    have htx := fun u (h : Tab u) => text_any r 2 u (by omega) h
    rw [t1, t2] at htx
    have hfm := fun u (h : Tab u) => format_any q (by omega) u h
    have hamt : (bstr (Lib.decDigits q) ++ ({ data := #[46] } : ByteArray) ++ bstr (twoL r)).data.toList = amtL v := by
      rw [s_app, s_app, bstr_data, bstr_data]
      unfold amtL
      rw [hq, hr]
    have hz1 : (bstr (Lib.decDigits q)).size ≤ 20 := by rw [bstr_size]; exact decDigits_len q (by omega)
    have hz2 : (bstr (twoL r)).size ≤ 2 := by rw [bstr_size]; exact Nat.le_refl 2
    generalize bstr (Lib.decDigits q) = Q at hfm hamt hz1
    generalize bstr (twoL r) = R at htx hamt hz2
    have htab := hT.ten
    have e1 : (v : Int).tmod 100 = (r : Int) := by rw [Int.tmod_eq_emod_of_nonneg (by omega)]; omega
    have e2 : (v : Int) % 100 = (r : Int) := by omega
    have e3 : (v : Int) / 100 = (q : Int) := by omega
    have e4 : IntKind.u64.wrap ((v : Int).tdiv 100) = (q : Int) := by rw [IntWalk.u64_quo _ _ (by omega)]; omega
    have e6 : IntKind.u64.wrap ((v : Int) / 100) = (q : Int) := by rw [IntWalk.u64_in _ (by omega)]; omega
    have hi : (v : Int) ≤ 999999999999 := by omega
    have HX := Lib.hid htx; have HF := Lib.hid hfm; have HA := Lib.hid hamt; have HV := Lib.hid hv
    clear htx hfm hamt hq hr t1 t2 hm hv
    go_enter Tryz.func132, Tryz.ntmps132
    go_wp2_with (first
      | (go_at_call 145; refine (HX.out _ htab).mono ?_; rintro e w1 ⟨rfl, hf1⟩)
      | (go_at_call 146; refine (HF.out _ (tab_no htab hf1)).mono ?_; rintro e w2 ⟨rfl, hf2⟩))
    go_ret2
    exact ⟨_, rfl, HA.out, hf1.trans hf2⟩
  · rw [if_neg hm, if_neg hm]
    have hi : ¬ (v : Int) ≤ 999999999999 := by omega
    clear hm
    go_enter Tryz.func132, Tryz.ntmps132
    go_wp2
    go_ret2
    exact ⟨_, rfl, rfl, Fr.refl _ _⟩

theorem notC_fun : notC 46 = (fun c => decide (c ≠ 46)) := rfl
theorem s_amtof_any (s : ByteArray) (w : World) (hs : s.size ≤ 140737488355328) (hT : Tabs w := by repeat' first | with_reducible assumption | with_reducible apply Tabs.drew | with_reducible apply Tabs.drewN | with_reducible apply Tabs.alloc | refine Tabs.fr ?_ (by with_reducible assumption)) :
    Calls Tryz.prog 115 #[.string s] w fun e w' => e = .returned (.tuple #[.int .u64 (amtOfR s.data.toList : Int), .int .i64 (amtOfE s.data.toList)]) ∧ Fr No w w' := by
  have hcut := fun u => cut_any s 46 u hs
  rw [notC_fun] at hcut
  obtain ⟨a, ha⟩ : ∃ a, a = s.data.toList.takeWhile (fun c => decide (c ≠ 46)) := ⟨_, rfl⟩
  obtain ⟨b, hb⟩ : ∃ b, b = (s.data.toList.dropWhile (fun c => decide (c ≠ 46))).drop 1 := ⟨_, rfl⟩
  have hal : a.length ≤ 140737488355328 := by
    have h1 : a.length ≤ s.data.toList.length := by rw [ha]; exact (List.takeWhile_sublist _).length_le
    rw [s_size] at h1; omega
  have hbl : b.length ≤ 140737488355328 := by
    have h1 : b.length ≤ s.data.toList.length := by rw [hb, List.length_drop]; exact Nat.le_trans (Nat.sub_le _ _) (List.dropWhile_sublist _).length_le
    rw [s_size] at h1; omega
  obtain ⟨m1, m2⟩ := amt_prog s.data.toList a b ha hb
  have hcs := amt_cases m1 m2
  rw [← ha, ← hb] at hcut
  have hnum := fun (A : ByteArray) (h : A.data.toList = a ++ b) u => number_any A u (by have := s_size A; rw [h, List.length_append] at this; unfold maxLen; omega)
  have hlt := numR_lt (a ++ b)
  have hnum2 : ∀ (A : ByteArray), A.data.toList = a ++ b → ∀ u, Calls Tryz.prog 131 #[.string A] u fun e w' => e = .returned (.tuple #[.int .u64 (numR (a ++ b) : Int), .int .i64 (numE (a ++ b))]) ∧ u = w' := fun A h u => by rw [← h]; exact hnum A h u
  clear hnum m1 m2 ha hb
  obtain ⟨P, hP⟩ : ∃ P, numR (a ++ b) = P := ⟨_, rfl⟩
  obtain ⟨E, hE⟩ : ∃ E, numE (a ++ b) = E := ⟨_, rfl⟩
  rw [hP, hE] at hcs hnum2
  rw [hP] at hlt
  clear hP hE
  have HC := Lib.hid hcut; have HN := Lib.hid hnum2; have HAL := Lib.hid hal; have HBL := Lib.hid hbl; have HLT := Lib.hid hlt
  clear hcut hnum2 hal hbl hlt
  unfold amtOfR amtOfE
  rcases hcs with ⟨rfl, hb⟩ | ⟨rfl, he, hb⟩ | ⟨rfl, he, hq, hv⟩
  · rw [hb]
    clear hb
    go_enter Tryz.func115, Tryz.ntmps115
    go_wp2_with (first
      | (go_at_call 130; refine (HC.out _).mono ?_; rintro e w1 ⟨X, Y, b3, rfl, hX, hY, hd1⟩; (obtain ⟨A, hA⟩ : ∃ A, X ++ Y = A := ⟨_, rfl⟩); (have hA1 : A.data.toList = a ++ b := by rw [← hA, s_app, hX, hY]); (have hz1 : X.size ≤ 140737488355328 := by rw [← s_size, hX]; exact HAL.out); (have hz2 : Y.size ≤ 140737488355328 := by rw [← s_size, hY]; exact HBL.out); clear hX hY)
      | (go_at_call 131; refine (HN.out A hA1 _).mono ?_; rintro e w' ⟨rfl, rfl⟩))
    go_ret2
    exact ⟨rfl, hd1.fr⟩
  · rw [hb]
    have htx := fun u (h : Tabs u) => s_amttext_any P u HLT.out h
    rw [he] at htx
    have HX := Lib.hid htx
    clear hb he htx
    go_enter Tryz.func115, Tryz.ntmps115
    go_wp2_with (first
      | (go_at_call 130; refine (HC.out _).mono ?_; rintro e w1 ⟨X, Y, b3, rfl, hX, hY, hd1⟩; (obtain ⟨A, hA⟩ : ∃ A, X ++ Y = A := ⟨_, rfl⟩); (have hA1 : A.data.toList = a ++ b := by rw [← hA, s_app, hX, hY]); (have hz1 : X.size ≤ 140737488355328 := by rw [← s_size, hX]; exact HAL.out); (have hz2 : Y.size ≤ 140737488355328 := by rw [← s_size, hY]; exact HBL.out); clear hX hY)
      | (go_at_call 131; refine (HN.out A hA1 _).mono ?_; rintro e w' ⟨rfl, rfl⟩)
      | (go_at_call 132; refine (HX.out _ (hT.dr hd1)).mono ?_; rintro e w2 ⟨T, rfl, hT2, hf2⟩; clear hT2))
    go_ret2
    exact ⟨rfl, hd1.fr.trans hf2⟩
  · have htx := fun u (h : Tabs u) => s_amttext_any P u HLT.out h
    rw [he] at htx
    have HX := Lib.hid htx
    have HQ := Lib.hid hq
    clear he htx hq
    cases hb : amtB s.data.toList with
    | true =>
      have hv2 := hv hb
      rw [hb] at HQ
      rw [← hv2]
      clear hb hv hv2
      go_enter Tryz.func115, Tryz.ntmps115
      go_wp2_with (first
        | (go_at_call 130; refine (HC.out _).mono ?_; rintro e w1 ⟨X, Y, b3, rfl, hX, hY, hd1⟩; (obtain ⟨A, hA⟩ : ∃ A, X ++ Y = A := ⟨_, rfl⟩); (have hA1 : A.data.toList = a ++ b := by rw [← hA, s_app, hX, hY]); (have hz1 : X.size ≤ 140737488355328 := by rw [← s_size, hX]; exact HAL.out); (have hz2 : Y.size ≤ 140737488355328 := by rw [← s_size, hY]; exact HBL.out); clear hX hY)
        | (go_at_call 131; refine (HN.out A hA1 _).mono ?_; rintro e w' ⟨rfl, rfl⟩)
        | (go_at_call 132; refine (HX.out _ (hT.dr hd1)).mono ?_; rintro e w2 ⟨T, rfl, hT2, hf2⟩; (have hq := s_beq T s); rw [hT2, HQ.out] at hq; clear hT2))
      go_ret2
      exact ⟨rfl, hd1.fr.trans hf2⟩
    | false =>
      rw [hb] at HQ
      clear hb hv
      go_enter Tryz.func115, Tryz.ntmps115
      go_wp2_with (first
        | (go_at_call 130; refine (HC.out _).mono ?_; rintro e w1 ⟨X, Y, b3, rfl, hX, hY, hd1⟩; (obtain ⟨A, hA⟩ : ∃ A, X ++ Y = A := ⟨_, rfl⟩); (have hA1 : A.data.toList = a ++ b := by rw [← hA, s_app, hX, hY]); (have hz1 : X.size ≤ 140737488355328 := by rw [← s_size, hX]; exact HAL.out); (have hz2 : Y.size ≤ 140737488355328 := by rw [← s_size, hY]; exact HBL.out); clear hX hY)
        | (go_at_call 131; refine (HN.out A hA1 _).mono ?_; rintro e w' ⟨rfl, rfl⟩)
        | (go_at_call 132; refine (HX.out _ (hT.dr hd1)).mono ?_; rintro e w2 ⟨T, rfl, hT2, hf2⟩; (have hq := s_beq T s); rw [hT2, HQ.out] at hq; clear hT2))
      go_ret2
      exact ⟨rfl, hd1.fr.trans hf2⟩
end Go.Proofs.YtbfodbejdaafaaaGreatDoor
/- Capitals: what is left of a text when they are cut off at both ends. -/
namespace Go.Proofs.YtbfodbejdaafaaaGreatDoor
open Go.RowKit
set_option maxHeartbeats 1000000
set_option linter.unusedVariables false

def capsL : List UInt8 := [65, 66, 67, 68, 69, 70, 71, 72, 73, 74, 75, 76, 77, 78, 79, 80, 81, 82, 83, 84, 85, 86, 87, 88, 89, 90]
theorem caps_in (c : UInt8) : capsL.contains c = capC c := by
  have := byte_all (fun c => capsL.contains c == capC c) (by decide +kernel) c
  simpa using this
theorem drop_all (q : UInt8 → Bool) : ∀ l : List UInt8, l.dropWhile q = [] ↔ l.all q = true
  | [] => by simp
  | c :: r => by
    rw [List.dropWhile_cons, List.all_cons]
    cases h : q c with
    | true => simpa using drop_all q r
    | false => simp
theorem trim_capsL (l : List UInt8) : (Lib.trimS l capsL = []) ↔ l.all capC = true := by
  have hq : (fun c : UInt8 => capsL.contains c) = capC := funext caps_in
  unfold Lib.trimS Lib.trimLeftS Lib.trimRightS
  rw [hq, drop_all]
  constructor
  · intro h
    rw [List.all_reverse] at h
    rw [← List.all_reverse, ← drop_all]
    cases hd : l.reverse.dropWhile capC with
    | nil => rfl
    | cons c r =>
      rw [hd, List.all_cons] at h
      have h2 := List.head?_dropWhile_not capC l.reverse
      rw [hd] at h2
      simp only [List.head?_cons] at h2
      simp [h2] at h
  · intro h
    rw [← List.all_reverse, ← drop_all] at h
    rw [h]
    rfl
theorem caps_ascii : ∀ (j : Nat) (b : UInt8), capsL[j]? = some b → b.toNat < 128 := by
  intro j b h
  have hm := List.mem_of_getElem? h
  have := List.all_eq_true.1 (show capsL.all (fun b => decide (b.toNat < 128)) = true by decide) b hm
  simpa using this
theorem trim_caps (s : ByteArray) (w : World) (hs : s.size ≤ 140737488355328) :
    Calls Tryz.prog 67 #[.string s, .string ⟨#[65, 66, 67, 68, 69, 70, 71, 72, 73, 74, 75, 76, 77, 78, 79, 80, 81, 82, 83, 84, 85, 86, 87, 88, 89, 90]⟩] w fun e w' => ∃ S, e = .returned (.string S) ∧ (S.toList == []) = s.data.toList.all capC ∧ Fr No w w' := by
  refine (Tryz.strings_Trim s ⟨#[65, 66, 67, 68, 69, 70, 71, 72, 73, 74, 75, 76, 77, 78, 79, 80, 81, 82, 83, 84, 85, 86, 87, 88, 89, 90]⟩ w (by omega) (by decide) caps_ascii).mono ?_
  rintro e w' ⟨rfl, hb⟩
  refine ⟨_, rfl, ?_, Fr.of_below hb⟩
  rw [s_list]
  show (Lib.trimS s.data.toList capsL == []) = _
  cases h : s.data.toList.all capC with
  | true => rw [(trim_capsL _).2 h]; rfl
  | false =>
    rw [beq_eq_false_iff_ne]
    intro e
    rw [(trim_capsL _).1 e] at h
    cases h
end Go.Proofs.YtbfodbejdaafaaaGreatDoor
