/- The texts RefTok1, RefTok2, RefTok3, RefTok4, RefTok5, RefTok6, RefTok7, RefTok8, joined. -/
import Derived.Test.YthkjmbkfcnehoaaGreatDoorTokMath
import Derived.Test.YthkjmbkfcnehoaaGreatDoorSm
import Derived.Test.YthkjmbkfcnehoaaGreatDoorHelp0
import Derived.Laws.Cover4
import Derived.Test.YthkjmbkfcnehoaaGreatDoorRefTxts
/- The statements' own walk over a file: tests of bytes, blanks. -/
namespace Go.Proofs.YthkjmbkfcnehoaaGreatDoor
open Go.RowKit
set_option maxHeartbeats 400000
set_option linter.unusedVariables false

theorem r_blank_any (c : UInt8) (w : World) : Calls Tryz.prog 50 #[.int .u8 (c.toNat : Int)] w fun e w' => e = .returned (.bool (isBl c)) ∧ w = w' := by
  go_enter Tryz.func50, Tryz.ntmps50
  go_wp2
  all_goals
    go_ret
    refine ⟨ret_bool ?_, rfl⟩
    unfold isBl
    rw [Bool.eq_iff_iff]
    simp_all
    try omega
theorem r_first_any (c : UInt8) (w : World) : Calls Tryz.prog 109 #[.int .u8 (c.toNat : Int)] w fun e w' => e = .returned (.bool (isFi c)) ∧ w = w' := by
  go_enter Tryz.func109, Tryz.ntmps109
  go_wp2
  all_goals
    go_ret
    refine ⟨ret_bool ?_, rfl⟩
    unfold isFi
    rw [Bool.eq_iff_iff]
    simp_all
    try omega
theorem r_within_any (c : UInt8) (w : World) : Calls Tryz.prog 90 #[.int .u8 (c.toNat : Int)] w fun e w' => e = .returned (.bool (isWi c)) ∧ w = w' := by
  go_enter Tryz.func90, Tryz.ntmps90
  go_wp2_with (go_at_call 109; refine (r_first_any _ _).mono ?_; rintro e w' ⟨rfl, rfl⟩)
  all_goals
    go_ret
    refine ⟨ret_bool ?_, rfl⟩
    unfold isWi
    rw [Bool.eq_iff_iff]
    simp_all
    try omega

/-- the walk at block g: a file, and a place in it -/
structure WkT (w : World) (g : Nat) (S : ByteArray) (at_ : Nat) : Prop where
  blk : Bk w g 84 [.string S, .int .i64 (at_ : Int)]
  le : at_ ≤ S.size
  small : S.size ≤ 65536
theorem WkT.no {w w' : World} {g : Nat} {S : ByteArray} {a : Nat} (h : WkT w g S a) (hf : Fr No w w') : WkT w' g S a := ⟨h.blk.no hf, h.le, h.small⟩
theorem WkT.set {w : World} {g : Nat} {S : ByteArray} {a b : Nat} (h : WkT w g S a) (hb : b ≤ S.size) : WkT (w.setCell ⟨g, 1, none⟩ (.int .i64 (b : Int))) g S b := ⟨h.blk.set_ 1 _, hb, h.small⟩
theorem size_list (S : ByteArray) : S.data.toList.length = S.size := by simp
theorem sdrop_cons (S : ByteArray) (k : Nat) (h : k < S.size) : S.data.toList.drop k = S[k] :: S.data.toList.drop (k + 1) := by
  rw [List.drop_eq_getElem_cons (by rw [size_list]; exact h)]
  rfl
theorem ext_list (S : ByteArray) (i j : Nat) : (S.extract i j).data.toList = (S.data.toList.drop i).take (j - i) := by
  rw [ByteArray.data_extract, Array.toList_extract, List.extract_eq_take_drop]
theorem app_list (S T : ByteArray) : (S ++ T).data.toList = S.data.toList ++ T.data.toList := by
  rw [ByteArray.data_append, Array.toList_append]
theorem ba_list (S : ByteArray) : S.toList = S.data.toList := bstr_toList S.data.toList
theorem bstr_self (R : ByteArray) : bstr R.data.toList = R := rfl
theorem sz_eq {S : ByteArray} {L : List UInt8} (h : S.data.toList = L) : S.size = L.length := by rw [← h, size_list]
theorem str_empty {S : ByteArray} (h : S.data.toList = []) : S = ⟨#[]⟩ := by
  rw [← bstr_self S, h]; rfl
theorem byte_at (S : ByteArray) (i : Nat) (h : i < S.size) : S[i] = S.data.toList[i]'(by simpa using h) := rfl
theorem take_while_len (p : UInt8 → Bool) (l : List UInt8) (k : Nat) (h1 : ∀ j (hj : j < k) (hl : j < l.length), p l[j] = true) (hk : k ≤ l.length) (h2 : ∀ hl : k < l.length, p l[k] = false) : (l.takeWhile p).length = k := by
  induction k generalizing l with
  | zero =>
    cases l with
    | nil => rfl
    | cons c r => rw [List.takeWhile_cons, if_neg (by have := h2 (by simp); simpa using this)]; rfl
  | succ k ih =>
    cases l with
    | nil => simp at hk
    | cons c r =>
      have hc : p c = true := h1 0 (by omega) (by simp)
      rw [List.takeWhile_cons, if_pos hc, List.length_cons, ih r (fun j hj hl => by have h := h1 (j + 1) (by omega) (by simpa using hl); rwa [List.getElem_cons_succ] at h) (by simpa using hk) (fun hl => by have h := h2 (by simpa using hl); rwa [List.getElem_cons_succ] at h)]

theorem r_blanks_any (g : Nat) (S : ByteArray) (a : Nat) (w : World) (h : WkT w g S a) :
    Calls Tryz.prog 60 #[.pointer (some ⟨g, 0, none⟩)] w fun e w' => e = .returned (.int .i64 (((S.data.toList.drop a).takeWhile isBl).length : Int)) ∧ WkT w' g S (a + ((S.data.toList.drop a).takeWhile isBl).length) ∧ Fr (Just g) w w' := by
  go_enter Tryz.func60, Tryz.ntmps60
  go_wp2
  have H := Lib.hid h
  clear h
  go_loopw [3] (fun nv wr => ∃ k : Nat, nv = .int .i64 (k : Int) ∧ WkT wr g S (a + k) ∧ Fr (Just g) w wr ∧ ∀ j (hj : j < k) (hl : j < (S.data.toList.drop a).length), isBl (S.data.toList.drop a)[j] = true) (fun nv _ => S.size - (intOf nv).toNat)
  case atStart => exact ⟨0, rfl, H.out, Fr.refl _ _, fun j hj => by omega⟩
  case round =>
    obtain ⟨k, rfl, hw, hf, hall⟩ := hrel
    have c0 : wr.cell? ⟨g, 0, none⟩ = some (.string S) := hw.blk.cell 0
    have c1 : wr.cell? ⟨g, 1, none⟩ = some (.int .i64 ((a + k : Nat) : Int)) := hw.blk.cell 1
    have z1 := hw.blk.frozen 1
    have hle := hw.le
    have hsm := hw.small
    have hdl : (S.data.toList.drop a).length = S.size - a := by simp
    have HW := Lib.hid hw; have HALL := Lib.hid hall; have HDL := Lib.hid hdl
    clear hw hall hdl
    obtain ⟨t, ht⟩ : ∃ t, a + k = t := ⟨_, rfl⟩
    rw [ht] at c1 hle
    have HT := Lib.hid ht
    have hkb : k ≤ 65536 := by omega
    by_cases hlt : t < S.size
    · have hltI : (t : Int) < (S.size : Int) := by omega
      obtain ⟨x, hx⟩ : ∃ x, S[t] = x := ⟨_, rfl⟩
      have hxl : ∀ hl : k < (S.data.toList.drop a).length, (S.data.toList.drop a)[k] = x := fun hl => by
        rw [← hx, byte_at S t hlt, List.getElem_drop]
        simp only [ht]
      have HXL := Lib.hid hxl
      clear hxl ht
      cases hb : isBl x with
      | true =>
        have hq := fun u => r_blank_any x u
        rw [hb] at hq
        have HB := Lib.hid hb; have HQ := Lib.hid hq
        clear hb hq
        go_wp2
        go_quiet ((go_at_call 50; exact quiet_same (HQ.out _)))
        go_wp2
        go_roundw
        case rel =>
          have h1 := HT.out
          have h2 := (HW.out.no ((Fr.refl No wr).drewN nq)).set (b := t + 1) (by omega)
          refine ⟨k + 1, by go_num, ?_, (hf.drewN nq).setCell (p := ⟨g, 1, none⟩) (.inl (Just.at g)) _, fun j hj hl => ?_⟩
          · rw [show a + (k + 1) = t + 1 by omega]
            have e : ((t + 1 : Nat) : Int) = (t : Int) + 1 := by omega
            rw [e] at h2
            exact h2
          · by_cases hjk : j = k
            · subst hjk; rw [HXL.out hl]; exact HB.out
            · exact HALL.out j (by omega) hl
        case measure =>
          have := HT.out
          simp [intOf]
          omega
      | false =>
        have HB := Lib.hid hb
        clear hb
        have hlen := take_while_len isBl (S.data.toList.drop a) k HALL.out (by rw [HDL.out]; have := HT.out; omega) (fun hl => by rw [HXL.out hl]; exact HB.out)
        have HLEN := Lib.hid hlen
        have hq := fun u => r_blank_any x u
        rw [HB.out] at hq
        have HQ := Lib.hid hq
        clear hlen hq
        go_wp2
        go_quiet ((go_at_call 50; exact quiet_same (HQ.out _)))
        go_wp2
        go_ret
        rw [HLEN.out, HT.out]
        exact ⟨rfl, by have h := HW.out.no ((Fr.refl No wr).drewN nq); rwa [HT.out] at h, hf.drewN nq⟩
    · have hltI : ¬ (t : Int) < (S.size : Int) := by omega
      have hlen := take_while_len isBl (S.data.toList.drop a) k HALL.out (by rw [HDL.out]; have := HT.out; omega) (fun hl => by rw [HDL.out] at hl; have := HT.out; omega)
      have HLEN := Lib.hid hlen
      clear hlen ht
      go_wp2
      go_quiet (fail)
      go_wp2
      go_ret
      rw [HLEN.out, HT.out]
      exact ⟨rfl, by have h := HW.out.no ((Fr.refl No wr).drewN nq); rwa [HT.out] at h, hf.drewN nq⟩
end Go.Proofs.YthkjmbkfcnehoaaGreatDoor
/- The statements' own walk over a file: is, name. -/
namespace Go.Proofs.YthkjmbkfcnehoaaGreatDoor
open Go.RowKit
set_option maxHeartbeats 400000
set_option linter.unusedVariables false

theorem r_is_any (g : Nat) (S : ByteArray) (a : Nat) (P : ByteArray) (w : World) (h : WkT w g S a) (hP : P.size ≤ 65536) :
    Calls Tryz.prog 38 #[.pointer (some ⟨g, 0, none⟩), .string P] w fun e w' => e = .returned (.bool (isP P.data.toList (S.data.toList.drop a)).isSome) ∧ WkT w' g S (if (isP P.data.toList (S.data.toList.drop a)).isSome then a + P.size else a) ∧ Fr (Just g) w w' := by
  have c0 : w.cell? ⟨g, 0, none⟩ = some (.string S) := h.blk.cell 0
  have c1 : w.cell? ⟨g, 1, none⟩ = some (.int .i64 (a : Int)) := h.blk.cell 1
  have z1 := h.blk.frozen 1
  have hle := h.le
  have hsm := h.small
  have hdl : (S.data.toList.drop a).length = S.size - a := by simp
  have H := Lib.hid h
  clear h
  by_cases hlt : S.size < a + P.size
  · have hno : (isP P.data.toList (S.data.toList.drop a)).isSome = false := by
      cases hc : isP P.data.toList (S.data.toList.drop a) with
      | none => rfl
      | some r =>
        have h2 := (isP_len hc).2
        rw [hdl, size_list] at h2
        omega
    rw [hno]
    have hltI : (S.size : Int) < (a : Int) + (P.size : Int) := by omega
    clear hno hdl hlt
    go_enter Tryz.func38, Tryz.ntmps38
    go_wp2
    go_quiet (fail)
    go_wp2
    go_ret
    exact ⟨rfl, H.out.no ((Fr.refl No w).drewN nq), (Fr.refl _ w).drewN nq⟩
  · have hltI : ¬ (S.size : Int) < (a : Int) + (P.size : Int) := by omega
    have e1 : (a : Int) + (P.size : Int) ≤ (S.size : Int) := by omega
    have e2 : ((a : Int) + (P.size : Int)).toNat = a + P.size := by omega
    have e3 : (0 : Int) ≤ (a : Int) + (P.size : Int) := by omega
    have e5 : (a : Int) ≤ max ((a : Int) + (P.size : Int)) 0 := by omega
    have e8 : (0 : Int) ≤ (a : Int) + (P.size : Int) ∧ (a : Int) + (P.size : Int) ≤ (S.size : Int) := ⟨e3, e1⟩
    have e9 : (a : Int) ≤ (a : Int) + (P.size : Int) := by omega
    have e6 : IntKind.i64.wrap ((a : Int) + (P.size : Int)) = (a : Int) + (P.size : Int) := IntWalk.i64_in _ ⟨by omega, by omega⟩
    obtain ⟨Q, hQ⟩ : ∃ Q, S.extract a (a + P.size) = Q := ⟨_, rfl⟩
    have hQl : Q.data.toList = (S.data.toList.drop a).take P.size := by
      rw [← hQ]
      simp [List.take_drop]
    by_cases hQP : Q = P
    · have hyes : (isP P.data.toList (S.data.toList.drop a)).isSome = true := by
        unfold isP
        rw [if_pos, Option.isSome_some]
        rw [List.isPrefixOf_iff_prefix, ← hQP, hQl]
        exact List.take_prefix _ _
      rw [hyes]
      have HY := Lib.hid hyes
      have hQ2 : S.extract a (a + P.size) = P := hQ.trans hQP
      clear hyes hQl hdl hlt hQ hQP
      go_enter Tryz.func38, Tryz.ntmps38
      go_wp2
      go_quiet (fail)
      go_wp2
      go_ret
      have h2 := (H.out.no ((Fr.refl No w).drewN nq)).set (b := a + P.size) (by omega)
      exact ⟨rfl, by simpa using h2, ((Fr.refl _ w).drewN nq).setCell (p := ⟨g, 1, none⟩) (.inl (Just.at g)) _⟩
    · have hno : (isP P.data.toList (S.data.toList.drop a)).isSome = false := by
        cases hc : isP P.data.toList (S.data.toList.drop a) with
        | none => rfl
        | some r =>
          exfalso
          apply hQP
          have h1 := (isP_len hc).1
          have h2 : Q.data.toList = P.data.toList := by
            rw [hQl, h1, List.take_left' (size_list P)]
          have h3 : Q.data = P.data := Array.ext' h2
          cases Q; cases P; simp_all
      have hne : ¬ Q.toList = P.toList := by
        rw [ByteArray.toList_eq, ByteArray.toList_eq]
        intro e
        apply hQP
        have h3 : Q.data = P.data := Array.ext' e
        cases Q; cases P; simp_all
      have hneb : (Q.toList == P.toList) = false := by rw [beq_eq_false_iff_ne]; exact hne
      rw [hno]
      clear hno hQl hdl hlt hQP
      go_enter Tryz.func38, Tryz.ntmps38
      go_wp2
      go_quiet (fail)
      go_wp2
      go_ret
      exact ⟨rfl, H.out.no ((Fr.refl No w).drewN nq), (Fr.refl _ w).drewN nq⟩
end Go.Proofs.YthkjmbkfcnehoaaGreatDoor
/- The statements' own walk over a file: names. -/
namespace Go.Proofs.YthkjmbkfcnehoaaGreatDoor
open Go.RowKit
set_option maxHeartbeats 400000
set_option linter.unusedVariables false

theorem r_Name_any (S : ByteArray) (w : World) (hs : S.size ≤ 1000000000) :
    Calls Tryz.prog 91 #[.string S] w fun e w' => e = .returned (.bool (nameOk S.data.toList)) ∧ Dr w w' := by
  go_enter Tryz.func91, Tryz.ntmps91
  go_wp2
  go_loopw [3] (fun iv wr => ∃ k : Nat, iv = .int .i64 (k : Int) ∧ k ≤ S.size ∧ Dr w wr ∧ (S.data.toList.take k).all isWi = true) (fun iv _ => S.size - (intOf iv).toNat)
  case atStart => exact ⟨0, rfl, by omega, Dr.refl _, by simp⟩
  case round =>
    obtain ⟨k, rfl, hk, hd, hall⟩ := hrel
    have HALL := Lib.hid hall
    clear hall
    by_cases hlt : k < S.size
    · have hltI : (k : Int) < (S.size : Int) := by omega
      obtain ⟨x, hx⟩ : ∃ x, S[k] = x := ⟨_, rfl⟩
      have hst : S.data.toList.take (k + 1) = S.data.toList.take k ++ [x] := by
        rw [List.take_succ_eq_append_getElem (by simpa using hlt), ← hx]; rfl
      have HST := Lib.hid hst
      clear hst
      cases hb : isWi x with
      | true =>
        have hq := fun u => r_within_any x u
        rw [hb] at hq
        have HB := Lib.hid hb; have HQ := Lib.hid hq
        clear hb hq
        go_wp2_with (go_at_call 90; refine (HQ.out _).mono ?_; rintro e w' ⟨rfl, rfl⟩)
        go_roundw
        case rel => exact ⟨k + 1, by go_num, by omega, hd, by rw [HST.out, List.all_append, HALL.out]; simp [HB.out]⟩
        case measure => simp [intOf]; omega
      | false =>
        have hq := fun u => r_within_any x u
        rw [hb] at hq
        have hno : nameOk S.data.toList = false := by
          have h1 : S.data.toList.all isWi = false := by
            rw [Bool.eq_false_iff]
            intro h
            rw [List.all_eq_true] at h
            have := h x (by rw [← hx, byte_at S k hlt]; exact List.getElem_mem _)
            rw [hb] at this
            cases this
          cases hl : S.data.toList with
          | nil => rfl
          | cons c r => rw [hl] at h1; simp only [nameOk, h1, Bool.and_false]
        have HQ := Lib.hid hq; have HNO := Lib.hid hno
        clear hb hq hno
        go_wp2_with (go_at_call 90; refine (HQ.out _).mono ?_; rintro e w' ⟨rfl, rfl⟩)
        go_ret
        rw [HNO.out]
        exact ⟨rfl, hd⟩
    · have hltI : ¬ (k : Int) < (S.size : Int) := by omega
      obtain rfl : k = S.size := by omega
      have hall2 : S.data.toList.all isWi = true := by
        have h := HALL.out
        rwa [List.take_of_length_le (by simp)] at h
      by_cases h0 : S.size = 0
      · have hno : nameOk S.data.toList = false := by
          have hl : S.data.toList = [] := List.eq_nil_of_length_eq_zero (by rw [size_list]; exact h0)
          rw [hl]
          rfl
        have he : S.toList = [] := by rw [ByteArray.toList_eq]; exact List.eq_nil_of_length_eq_zero (by rw [size_list]; exact h0)
        have HNO := Lib.hid hno
        clear hno hall2
        go_wp2
        go_ret
        rw [HNO.out]
        exact ⟨rfl, hd⟩
      · obtain ⟨c, r, hl⟩ : ∃ c r, S.data.toList = c :: r := by
          cases hl : S.data.toList with
          | nil => have := size_list S; rw [hl] at this; simp at this; omega
          | cons c r => exact ⟨c, r, rfl⟩
        have hc : S[0]'(by omega) = c := by
          rw [byte_at S 0 (by omega)]
          simp [hl]
        have hans : nameOk S.data.toList = isFi c := by
          rw [hl] at hall2 ⊢
          simp only [nameOk, hall2, Bool.and_true]
        have he : ¬ S.toList = [] := by rw [ByteArray.toList_eq, hl]; simp
        have heb : (S.toList == []) = false := by rw [beq_eq_false_iff_ne]; exact he
        have hq := fun u => r_first_any c u
        have HANS := Lib.hid hans; have HQ := Lib.hid hq
        have h0I : (0 : Int) < (S.size : Int) := by omega
        clear hans hq hall2 hl
        go_wp2_with (go_at_call 109; refine (HQ.out _).mono ?_; rintro e w' ⟨rfl, rfl⟩)
        go_ret
        rw [HANS.out]
        exact ⟨rfl, hd⟩
end Go.Proofs.YthkjmbkfcnehoaaGreatDoor
/- The statements' own walk over a file: the name here. -/
namespace Go.Proofs.YthkjmbkfcnehoaaGreatDoor
open Go.RowKit
set_option maxHeartbeats 400000
set_option linter.unusedVariables false

/-- the place of the walk at block g -/
def posOf (w : World) (g : Nat) : Nat := match w.cell? ⟨g, 1, none⟩ with
  | some (.int _ z) => z.toNat
  | _ => 0
theorem WkT.pos {w : World} {g : Nat} {S : ByteArray} {a : Nat} (h : WkT w g S a) : posOf w g = a := by
  have c1 : w.cell? ⟨g, 1, none⟩ = some (.int .i64 (a : Int)) := h.blk.cell 1
  unfold posOf
  rw [c1]
  simp
/-- a name, or nothing -/
def nameR (l : List UInt8) : List UInt8 := if nameOk (l.takeWhile isWi) then l.takeWhile isWi else []
theorem take_while_pre (p : UInt8 → Bool) (l : List UInt8) : l.takeWhile p = l.take (l.takeWhile p).length := (List.prefix_iff_eq_take.1 (List.takeWhile_prefix p))

theorem r_name_any (g : Nat) (S : ByteArray) (a : Nat) (w : World) (h : WkT w g S a) :
    Calls Tryz.prog 59 #[.pointer (some ⟨g, 0, none⟩)] w fun e w' => ∃ R : ByteArray, e = .returned (.string R) ∧ R.data.toList = nameR (S.data.toList.drop a) ∧ WkT w' g S (a + ((S.data.toList.drop a).takeWhile isWi).length) ∧ Fr (Just g) w w' := by
  have c1 : w.cell? ⟨g, 1, none⟩ = some (.int .i64 (a : Int)) := h.blk.cell 1
  have H := Lib.hid h
  clear h
  go_enter Tryz.func59, Tryz.ntmps59
  go_wp2
  go_loopw [] (fun wr => ∃ k : Nat, WkT wr g S (a + k) ∧ Fr (Just g) w wr ∧ ∀ j (hj : j < k) (hl : j < (S.data.toList.drop a).length), isWi (S.data.toList.drop a)[j] = true) (fun wr => S.size - posOf wr g)
  case atStart => exact ⟨0, H.out, Fr.refl _ _, fun j hj => by omega⟩
  case round =>
    obtain ⟨k, hw, hf, hall⟩ := hrel
    have c0 : wr.cell? ⟨g, 0, none⟩ = some (.string S) := hw.blk.cell 0
    have c1 : wr.cell? ⟨g, 1, none⟩ = some (.int .i64 ((a + k : Nat) : Int)) := hw.blk.cell 1
    have z1 := hw.blk.frozen 1
    have hle := hw.le
    have hsm := hw.small
    have hdl : (S.data.toList.drop a).length = S.size - a := by simp
    have hpos := hw.pos
    have HW := Lib.hid hw; have HALL := Lib.hid hall; have HDL := Lib.hid hdl; have HPOS := Lib.hid hpos
    clear hw hall hdl hpos
    obtain ⟨t, ht⟩ : ∃ t, a + k = t := ⟨_, rfl⟩
    rw [ht] at c1 hle
    have HT := Lib.hid ht
    have hkb : k ≤ 65536 := by omega
    by_cases hlt : t < S.size
    · have hltI : (t : Int) < (S.size : Int) := by omega
      obtain ⟨x, hx⟩ : ∃ x, S[t] = x := ⟨_, rfl⟩
      have hxl : ∀ hl : k < (S.data.toList.drop a).length, (S.data.toList.drop a)[k] = x := fun hl => by
        rw [← hx, byte_at S t hlt, List.getElem_drop]
        simp only [ht]
      have HXL := Lib.hid hxl
      clear hxl ht
      cases hb : isWi x with
      | true =>
        have hq := fun u => r_within_any x u
        rw [hb] at hq
        have HB := Lib.hid hb; have HQ := Lib.hid hq
        clear hb hq
        go_wp2
        go_quiet ((go_at_call 90; exact quiet_same (HQ.out _)))
        go_wp2
        have h1 := HT.out
        have h2 := (HW.out.no ((Fr.refl No wr).drewN nq)).set (b := t + 1) (by omega)
        have e : ((t + 1 : Nat) : Int) = (t : Int) + 1 := by omega
        rw [e] at h2
        go_roundw
        case rel =>
          refine ⟨k + 1, ?_, (hf.drewN nq).setCell (p := ⟨g, 1, none⟩) (.inl (Just.at g)) _, fun j hj hl => ?_⟩
          · rw [show a + (k + 1) = t + 1 by omega]
            exact h2
          · by_cases hjk : j = k
            · subst hjk; rw [HXL.out hl]; exact HB.out
            · exact HALL.out j (by omega) hl
        case measure =>
          have p2 := h2.pos
          have p1 := HPOS.out
          rw [p1, p2]
          omega
      | false =>
        have HB := Lib.hid hb
        clear hb
        have hlen := take_while_len isWi (S.data.toList.drop a) k HALL.out (by rw [HDL.out]; have := HT.out; omega) (fun hl => by rw [HXL.out hl]; exact HB.out)
        have HLEN := Lib.hid hlen
        have hq := fun u => r_within_any x u
        rw [HB.out] at hq
        have HQ := Lib.hid hq
        clear hlen hq
        have htk : t = a + ((S.data.toList.drop a).takeWhile isWi).length := by rw [HLEN.out]; exact HT.out.symm
        have hat : a ≤ t := by have := HT.out; omega
        have f1 : (0 : Int) ≤ (t : Int) ∧ (t : Int) ≤ (S.size : Int) := by omega
        have f2 : (0 : Int) ≤ (a : Int) ∧ (a : Int) ≤ (t : Int) := by omega
        obtain ⟨R, hR⟩ : ∃ R, S.extract a t = R := ⟨_, rfl⟩
        have hRl : R.data.toList = (S.data.toList.drop a).takeWhile isWi := by
          rw [take_while_pre, HLEN.out, ← hR, ← HT.out]
          simp [List.take_drop]
        have hRs : R.size ≤ 65536 := by rw [← size_list, hRl]; have h1 := (List.takeWhile_prefix isWi (l := S.data.toList.drop a)).length_le; rw [HDL.out] at h1; omega
        have hres : nameR (S.data.toList.drop a) = if nameOk R.data.toList then R.data.toList else [] := by unfold nameR; rw [hRl]
        have HRES := Lib.hid hres
        have hnm := fun u => r_Name_any R u (by omega)
        have HK := Lib.hid htk
        cases hok : nameOk R.data.toList with
        | true =>
          rw [hok] at hnm
          have HN := Lib.hid hnm; have HOK := Lib.hid hok
          clear hnm hok hRl hres htk hRs
          go_wp2
          go_quiet ((go_at_call 90; exact quiet_same (HQ.out _)))
          go_wp2
          go_quiet (fail)
          go_wp2_with (go_at_call 91; refine (HN.out _).mono ?_; rintro e w2 ⟨rfl, hd2⟩)
          go_ret
          have hdw : Dr wr w2 := by first | exact (((Dr.refl wr).drewN _).drewN _).trans hd2 | exact ((Dr.refl wr).drewN _).trans hd2
          refine ⟨R, rfl, by rw [HRES.out, HOK.out]; rfl, ?_, hf.dr hdw⟩
          rw [← HK.out]
          have h := HW.out.no hdw.fr
          rwa [HT.out] at h
        | false =>
          rw [hok] at hnm
          have HN := Lib.hid hnm; have HOK := Lib.hid hok
          clear hnm hok hRl hres htk hRs
          go_wp2
          go_quiet ((go_at_call 90; exact quiet_same (HQ.out _)))
          go_wp2
          go_quiet (fail)
          go_wp2_with (go_at_call 91; refine (HN.out _).mono ?_; rintro e w2 ⟨rfl, hd2⟩)
          go_ret
          have hdw : Dr wr w2 := by first | exact (((Dr.refl wr).drewN _).drewN _).trans hd2 | exact ((Dr.refl wr).drewN _).trans hd2
          refine ⟨_, rfl, by rw [HRES.out, HOK.out]; rfl, ?_, hf.dr hdw⟩
          rw [← HK.out]
          have h := HW.out.no hdw.fr
          rwa [HT.out] at h
    · have hltI : ¬ (t : Int) < (S.size : Int) := by omega
      have hlen := take_while_len isWi (S.data.toList.drop a) k HALL.out (by rw [HDL.out]; have := HT.out; omega) (fun hl => by rw [HDL.out] at hl; have := HT.out; omega)
      have HLEN := Lib.hid hlen
      clear hlen ht
      have htk : t = a + ((S.data.toList.drop a).takeWhile isWi).length := by rw [HLEN.out]; exact HT.out.symm
      have hat : a ≤ t := by have := HT.out; omega
      have f1 : (0 : Int) ≤ (t : Int) ∧ (t : Int) ≤ (S.size : Int) := by omega
      have f2 : (0 : Int) ≤ (a : Int) ∧ (a : Int) ≤ (t : Int) := by omega
      obtain ⟨R, hR⟩ : ∃ R, S.extract a t = R := ⟨_, rfl⟩
      have hRl : R.data.toList = (S.data.toList.drop a).takeWhile isWi := by
        rw [take_while_pre, HLEN.out, ← hR, ← HT.out]
        simp [List.take_drop]
      have hRs : R.size ≤ 65536 := by rw [← size_list, hRl]; have h1 := (List.takeWhile_prefix isWi (l := S.data.toList.drop a)).length_le; rw [HDL.out] at h1; omega
      have hres : nameR (S.data.toList.drop a) = if nameOk R.data.toList then R.data.toList else [] := by unfold nameR; rw [hRl]
      have HRES := Lib.hid hres
      have hnm := fun u => r_Name_any R u (by omega)
      have HK := Lib.hid htk
      cases hok : nameOk R.data.toList with
      | true =>
        rw [hok] at hnm
        have HN := Lib.hid hnm; have HOK := Lib.hid hok
        clear hnm hok hRl hres htk hRs
        go_wp2
        go_quiet (fail)
        go_wp2
        go_quiet (fail)
        go_wp2_with (go_at_call 91; refine (HN.out _).mono ?_; rintro e w2 ⟨rfl, hd2⟩)
        go_ret
        have hdw : Dr wr w2 := by first | exact (((Dr.refl wr).drewN _).drewN _).trans hd2 | exact ((Dr.refl wr).drewN _).trans hd2
        refine ⟨R, rfl, by rw [HRES.out, HOK.out]; rfl, ?_, hf.dr hdw⟩
        rw [← HK.out]
        have h := HW.out.no hdw.fr
        rwa [HT.out] at h
      | false =>
        rw [hok] at hnm
        have HN := Lib.hid hnm; have HOK := Lib.hid hok
        clear hnm hok hRl hres htk hRs
        go_wp2
        go_quiet (fail)
        go_wp2
        go_quiet (fail)
        go_wp2_with (go_at_call 91; refine (HN.out _).mono ?_; rintro e w2 ⟨rfl, hd2⟩)
        go_ret
        have hdw : Dr wr w2 := by first | exact (((Dr.refl wr).drewN _).drewN _).trans hd2 | exact ((Dr.refl wr).drewN _).trans hd2
        refine ⟨_, rfl, by rw [HRES.out, HOK.out]; rfl, ?_, hf.dr hdw⟩
        rw [← HK.out]
        have h := HW.out.no hdw.fr
        rwa [HT.out] at h
end Go.Proofs.YthkjmbkfcnehoaaGreatDoor
/- The statements' own tokens: a character's number. -/
namespace Go.Proofs.YthkjmbkfcnehoaaGreatDoor
open Go.RowKit
set_option maxHeartbeats 1000000
set_option linter.unusedVariables false

def chrR (l : List UInt8) (base most : Nat) : Int := match chrV l base most with
  | none => -1
  | some v => (v : Int)
theorem chrF_cons (base v : Nat) (c : UInt8) (r : List UInt8) : chrF base v (c :: r) = if base ≤ digV c then none else chrF base (v * base + digV c) r := rfl
theorem dig_cases (c : UInt8) : (48 ≤ c.toNat ∧ c.toNat ≤ 57 ∧ digV c = c.toNat - 48) ∨ (97 ≤ c.toNat ∧ c.toNat ≤ 102 ∧ digV c = c.toNat - 87) ∨ (65 ≤ c.toNat ∧ c.toNat ≤ 70 ∧ digV c = c.toNat - 55) ∨
    (c.toNat < 48 ∧ 1 = 1 ∧ digV c = 99) ∨ (57 < c.toNat ∧ c.toNat < 65 ∧ digV c = 99) ∨ (70 < c.toNat ∧ c.toNat < 97 ∧ digV c = 99) ∨ (102 < c.toNat ∧ 1 = 1 ∧ digV c = 99) := by
  unfold digV
  split
  · omega
  · split
    · omega
    · split <;> omega

theorem r_numeral_any (S : ByteArray) (base most : Nat) (w : World) (hb : base = 10 ∨ base = 16) (hm : most ≤ 7) :
    Calls Tryz.prog 110 #[.string S, .int .i64 (base : Int), .int .i64 (most : Int)] w fun e w' => e = .returned (.int .i64 (chrR S.data.toList base most)) ∧ w = w' := by
  have hsl := size_list S
  by_cases h0 : S.size < 1 ∨ most < S.size
  · have hr : chrR S.data.toList base most = -1 := by
      unfold chrR chrV
      rw [if_pos (by rw [hsl]; exact h0)]
    rw [hr]
    have h0I : (S.size : Int) < 1 ∨ (¬ (S.size : Int) < 1 ∧ (most : Int) < (S.size : Int)) := by omega
    clear hr hsl h0
    rcases h0I with h0I | ⟨h0I, h1I⟩
    all_goals
      go_enter Tryz.func110, Tryz.ntmps110
      go_wp2
      go_ret
      exact ⟨rfl, rfl⟩
  have hr : chrR S.data.toList base most = match chrF base 0 S.data.toList with | none => -1 | some v => (v : Int) := by
    unfold chrR chrV
    rw [if_neg (by rw [hsl]; exact h0)]
  have h1I : ¬ (S.size : Int) < 1 := by omega
  have h2I : ¬ (most : Int) < (S.size : Int) := by omega
  have hs7 : S.size ≤ 7 := by omega
  have HR := Lib.hid hr; have HSL := Lib.hid hsl
  clear hr hsl h0
  go_enter Tryz.func110, Tryz.ntmps110
  go_wp2
  go_loop [7, 8] (fun vv iv => ∃ k v : Nat, vv = .int .i64 (v : Int) ∧ iv = .int .i64 (k : Int) ∧ k ≤ S.size ∧ v < 16 ^ k ∧ chrF base 0 S.data.toList = chrF base v (S.data.toList.drop k)) (fun _ iv => S.size - (intOf iv).toNat)
  case atStart => exact ⟨0, 0, rfl, rfl, by omega, by simp, by simp⟩
  case round =>
    obtain ⟨k, v, rfl, rfl, hk, hv, hnum⟩ := hrel
    have hv7 : v < 268435456 := Nat.lt_of_lt_of_le hv (show 16 ^ k ≤ 16 ^ 7 from Nat.pow_le_pow_right (by omega) (by omega))
    have HV := Lib.hid hv; have HNUM := Lib.hid hnum
    clear hv hnum
    by_cases hlt : k < S.size
    · have hltI : (k : Int) < (S.size : Int) := by omega
      obtain ⟨c, hc⟩ : ∃ c, S[k] = c := ⟨_, rfl⟩
      have hdr : S.data.toList.drop k = c :: S.data.toList.drop (k + 1) := by
        rw [List.drop_eq_getElem_cons (by rw [HSL.out]; exact hlt), ← hc]
        rfl
      have hst := chrF_cons base v c (S.data.toList.drop (k + 1))
      rw [← hdr] at hst
      have HST := Lib.hid hst
      have hcb := c.toNat_lt
      clear hdr hst
      have hcl := dig_cases c
      obtain ⟨D, hD⟩ : ∃ D, digV c = D := ⟨_, rfl⟩
      rw [hD] at hcl
      have HD := Lib.hid hD
      clear hD
      by_cases hbd : base ≤ D
      · have hans : chrR S.data.toList base most = -1 := by
          rw [HR.out, HNUM.out, HST.out, HD.out, if_pos hbd]
        have HANS := Lib.hid hans
        clear hans
        rcases hcl with ⟨h1, h2, h3⟩ | ⟨h1, h2, h3⟩ | ⟨h1, h2, h3⟩ | ⟨h1, h2, h3⟩ | ⟨h1, h2, h3⟩ | ⟨h1, h2, h3⟩ | ⟨h1, h2, h3⟩
        all_goals
          have hbI : (base : Int) ≤ (D : Int) := by omega
          go_wp2
          all_goals
            go_ret
            rw [HANS.out]
            exact ⟨rfl, rfl⟩
      · have hnx : chrF base 0 S.data.toList = chrF base (v * base + D) (S.data.toList.drop (k + 1)) := by
          rw [HNUM.out, HST.out, HD.out, if_neg hbd]
        have hpw : v * base + D < 16 ^ (k + 1) := by
          have h := HV.out
          rw [Nat.pow_succ]
          rcases hb with rfl | rfl <;> omega
        obtain ⟨M, hM⟩ : ∃ M, v * base = M := ⟨_, rfl⟩
        have hMb : M < 4294967296 := by rcases hb with e | e <;> subst e <;> omega
        rw [hM] at hnx hpw
        have HNX := Lib.hid hnx; have HPW := Lib.hid hpw; have HM := Lib.hid hM
        clear hnx hpw hM
        have hcl3 : (48 ≤ c.toNat ∧ c.toNat ≤ 57 ∧ D = c.toNat - 48) ∨ (97 ≤ c.toNat ∧ c.toNat ≤ 102 ∧ D = c.toNat - 87) ∨ (65 ≤ c.toNat ∧ c.toNat ≤ 70 ∧ D = c.toNat - 55) := by omega
        clear hcl
        rcases hcl3 with ⟨h1, h2, h3⟩ | ⟨h1, h2, h3⟩ | ⟨h1, h2, h3⟩
        all_goals
          have hbI : ¬ (base : Int) ≤ (D : Int) := by omega
          have hMI : (v : Int) * (base : Int) = (M : Int) := by rw [← HM.out, Int.natCast_mul]
          have hD1 : (c.toNat : Int) - 48 = (D : Int) ∨ (c.toNat : Int) - 97 + 10 = (D : Int) ∨ (c.toNat : Int) - 65 + 10 = (D : Int) := by omega
          have hD9 : D ≤ 15 := by omega
          rcases hD1 with hD1 | hD1 | hD1
          all_goals
            first
              | (exfalso; omega)
              | (clear h3
                 go_wp2
                 go_round
                 case rel => exact ⟨k + 1, M + D, by go_num, by go_num, by omega, HPW.out, HNX.out⟩
                 case measure => simp [intOf]; omega)
    · obtain rfl : k = S.size := by omega
      have hltI : ¬ (S.size : Int) < (S.size : Int) := by omega
      have hans : chrR S.data.toList base most = (v : Int) := by
        rw [HR.out, HNUM.out, List.drop_eq_nil_of_le (by rw [HSL.out]; exact Nat.le_refl _)]
        rfl
      have HANS := Lib.hid hans
      clear hans
      go_wp2
      go_ret
      rw [HANS.out]
      exact ⟨rfl, rfl⟩
end Go.Proofs.YthkjmbkfcnehoaaGreatDoor
/- The statements' own tokens: what stands between & and ; . -/
namespace Go.Proofs.YthkjmbkfcnehoaaGreatDoor
open Go.RowKit
set_option maxHeartbeats 1000000
set_option linter.unusedVariables false

theorem run_rune1 (w : World) (z : Int) (t : TypeId) :
    (convert 154 9 (.slice (some ⟨w.heap.size, 0, none⟩) 1 1)).run Tryz.prog (w.alloc (.cells #[.int .i32 z] t)) = .ok (.string (runesBytes [z])) (w.alloc (.cells #[.int .i32 z] t)) := by
  have h := run_convert_runes (P := Tryz.prog) (w.alloc (.cells #[.int .i32 z] t)) 154 9 21 ⟨w.heap.size, 0, none⟩ 1 1 [z] (by simp) Tryz.underlying154 Tryz.underlying21 Tryz.underlying9 (fun j hj => by
    obtain rfl : j = 0 := by simpa using hj
    simp [Addr.add])
  simpa using h
theorem runes1 (z : Int) : (runesBytes [z]).data.toList = encL z := by
  unfold runesBytes encL
  simp
theorem r_utf_any (v : Nat) (w : World) (hv : v ≤ 1114111) :
    Calls Tryz.prog 111 #[.int .i64 (v : Int)] w fun e w' => ∃ R : ByteArray, e = .returned (.string R) ∧ R.data.toList = encL (v : Int) ∧ Fr No w w' := by
  have hr := runes1 (v : Int)
  have hx := fun u => run_rune1 u (v : Int)
  generalize runesBytes [(v : Int)] = R at hr hx
  have HR := Lib.hid hr
  clear hr
  go_enter Tryz.func111, Tryz.ntmps111
  go_wp2
  go_ret
  exact ⟨R, rfl, HR.out, (Fr.refl No w).alloc _⟩
end Go.Proofs.YthkjmbkfcnehoaaGreatDoor
/- The statements' own tokens: what stands between & and ; . -/
namespace Go.Proofs.YthkjmbkfcnehoaaGreatDoor
open Go.RowKit
set_option maxHeartbeats 1000000
set_option linter.unusedVariables false

def nmL (k : Nat) : List UInt8 := [[108, 116], [103, 116], [97, 109, 112], [113, 117, 111, 116], [97, 112, 111, 115]].getD k []
/-- the number of a character -/
def entN (s : List UInt8) : Option Nat := if 2 < s.length ∧ s.take 2 = [35, 120] then chrV (s.drop 2) 16 6 else if 1 < s.length ∧ s.getD 0 0 = 35 then chrV (s.drop 1) 10 7 else none
theorem entV_num {s : List UInt8} (h : ∀ j, j < 5 → s ≠ nmL j) : entV s = match entN s with | none => none | some v => if charB v then some (encL (v : Int)) else none := by
  unfold entV
  have h0 : s ≠ [108, 116] := h 0 (by omega)
  have h1 : s ≠ [103, 116] := h 1 (by omega)
  have h2 : s ≠ [97, 109, 112] := h 2 (by omega)
  have h3 : s ≠ [113, 117, 111, 116] := h 3 (by omega)
  have h4 : s ≠ [97, 112, 111, 115] := h 4 (by omega)
  rw [if_neg h0, if_neg h1, if_neg h2, if_neg h3, if_neg h4]
  rfl
theorem entV_none {s : List UInt8} (h : ∀ j, j < 5 → s ≠ nmL j) (hE : entN s = none) : (entV s).getD [] = [] := by
  have h1 := entV_num h
  rw [hE] at h1
  simp only at h1
  rw [h1]
  rfl
theorem entV_bad {s : List UInt8} {v : Nat} (h : ∀ j, j < 5 → s ≠ nmL j) (hE : entN s = some v) (hc : charB v = false) : (entV s).getD [] = [] := by
  have h1 := entV_num h
  rw [hE] at h1
  simp only [hc] at h1
  rw [h1]
  rfl
theorem entV_char {s : List UInt8} {v : Nat} (h : ∀ j, j < 5 → s ≠ nmL j) (hE : entN s = some v) (hc : charB v = true) : (entV s).getD [] = encL (v : Int) := by
  have h1 := entV_num h
  rw [hE] at h1
  simp only [hc, if_true] at h1
  rw [h1, Option.getD_some]
theorem ext_drop (S : ByteArray) (k : Nat) : (S.extract k S.size).data.toList = S.data.toList.drop k := by
  rw [ByteArray.data_extract, Array.toList_extract, List.extract_eq_take_drop]
  exact List.take_of_length_le (by rw [List.length_drop, size_list]; exact Nat.le_refl _)
theorem getD_zero (l : List UInt8) (h : 0 < l.length) : l.getD 0 0 = l[0] := by
  cases l with
  | nil => simp at h
  | cons a r => rfl
theorem r_entity_any (S : ByteArray) (w : World) (hs : S.size ≤ 65536) :
    Calls Tryz.prog 93 #[.string S] w fun e w' => ∃ R : ByteArray, e = .returned (.string R) ∧ R.data.toList = (entV S.data.toList).getD [] ∧ Fr No w w' := by
  have hbl := ba_list S
  have hsl := size_list S
  have HBL := Lib.hid hbl
  have HSL := Lib.hid hsl
  clear hbl hsl
  go_enter Tryz.func93, Tryz.ntmps93
  go_wp2
  generalize hw1 : World.alloc _ _ = w1
  have hf1 : Fr No w w1 := by rw [← hw1]; exact ((Fr.refl No w).alloc _).alloc _
  have hn : Bk w1 w.heap.size 9 [.string ⟨#[108, 116]⟩, .string ⟨#[103, 116]⟩, .string ⟨#[97, 109, 112]⟩, .string ⟨#[113, 117, 111, 116]⟩, .string ⟨#[97, 112, 111, 115]⟩] := by rw [← hw1]; exact (Bk.new w _ _).no ((Fr.refl No _).alloc _)
  have hg : Bk w1 (w.heap.size + 1) 9 [.string ⟨#[60]⟩, .string ⟨#[62]⟩, .string ⟨#[38]⟩, .string ⟨#[34]⟩, .string ⟨#[39]⟩] := by
    rw [← hw1]
    have h := Bk.new (w.alloc (.cells #[.string ⟨#[108, 116]⟩, .string ⟨#[103, 116]⟩, .string ⟨#[97, 109, 112]⟩, .string ⟨#[113, 117, 111, 116]⟩, .string ⟨#[97, 112, 111, 115]⟩] 9)) 9 #[.string ⟨#[60]⟩, .string ⟨#[62]⟩, .string ⟨#[38]⟩, .string ⟨#[34]⟩, .string ⟨#[39]⟩]
    simpa using h
  have c0 := hn.cell 0; have c1 := hn.cell 1; have c2 := hn.cell 2; have c3 := hn.cell 3; have c4 := hn.cell 4
  have d0 := hg.cell 0; have d1 := hg.cell 1; have d2 := hg.cell 2; have d3 := hg.cell 3; have d4 := hg.cell 4
  simp only [List.getElem?_cons_zero, List.getElem?_cons_succ] at c0 c1 c2 c3 c4 d0 d1 d2 d3 d4
  have hf := Lib.hid hf1
  clear hw1 hf1 hn hg
  go_loop [5] (fun i => ∃ k : Nat, k ≤ 5 ∧ i = .int .i64 (k : Int) ∧ ∀ j, j < k → S.data.toList ≠ nmL j) (fun i => 5 - (intOf i).toNat)
  case atStart => exact ⟨0, by omega, rfl, fun j hj => by omega⟩
  case round =>
    obtain ⟨k, hk, rfl, hne⟩ := hrel
    have HNE := Lib.hid hne
    clear hne
    rcases (show k = 0 ∨ k = 1 ∨ k = 2 ∨ k = 3 ∨ k = 4 ∨ k = 5 by omega) with rfl | rfl | rfl | rfl | rfl | rfl
    · by_cases hq : S.data.toList = [108, 116]
      · have hcmp : ([108, 116] == S.toList) = true := by rw [HBL.out, hq]; exact beq_self_eq_true _
        have hr : (entV S.data.toList).getD [] = [60] := by rw [hq]; rfl
        have HR := Lib.hid hr
        clear hq hr
        go_wp2
        go_ret
        exact ⟨⟨#[60]⟩, rfl, by rw [HR.out], hf.out⟩
      · have hcmp : ([108, 116] == S.toList) = false := by rw [HBL.out, beq_eq_false_iff_ne]; exact fun e => hq e.symm
        have HQ := Lib.hid hq
        clear hq
        go_wp2
        go_round
        case rel => exact ⟨1, by omega, rfl, fun j hj => by
          by_cases hjk : j = 0
          · subst hjk; exact HQ.out
          · exact HNE.out j (by omega)⟩
        case measure => simp [intOf]
    · by_cases hq : S.data.toList = [103, 116]
      · have hcmp : ([103, 116] == S.toList) = true := by rw [HBL.out, hq]; exact beq_self_eq_true _
        have hr : (entV S.data.toList).getD [] = [62] := by rw [hq]; rfl
        have HR := Lib.hid hr
        clear hq hr
        go_wp2
        go_ret
        exact ⟨⟨#[62]⟩, rfl, by rw [HR.out], hf.out⟩
      · have hcmp : ([103, 116] == S.toList) = false := by rw [HBL.out, beq_eq_false_iff_ne]; exact fun e => hq e.symm
        have HQ := Lib.hid hq
        clear hq
        go_wp2
        go_round
        case rel => exact ⟨2, by omega, rfl, fun j hj => by
          by_cases hjk : j = 1
          · subst hjk; exact HQ.out
          · exact HNE.out j (by omega)⟩
        case measure => simp [intOf]
    · by_cases hq : S.data.toList = [97, 109, 112]
      · have hcmp : ([97, 109, 112] == S.toList) = true := by rw [HBL.out, hq]; exact beq_self_eq_true _
        have hr : (entV S.data.toList).getD [] = [38] := by rw [hq]; rfl
        have HR := Lib.hid hr
        clear hq hr
        go_wp2
        go_ret
        exact ⟨⟨#[38]⟩, rfl, by rw [HR.out], hf.out⟩
      · have hcmp : ([97, 109, 112] == S.toList) = false := by rw [HBL.out, beq_eq_false_iff_ne]; exact fun e => hq e.symm
        have HQ := Lib.hid hq
        clear hq
        go_wp2
        go_round
        case rel => exact ⟨3, by omega, rfl, fun j hj => by
          by_cases hjk : j = 2
          · subst hjk; exact HQ.out
          · exact HNE.out j (by omega)⟩
        case measure => simp [intOf]
    · by_cases hq : S.data.toList = [113, 117, 111, 116]
      · have hcmp : ([113, 117, 111, 116] == S.toList) = true := by rw [HBL.out, hq]; exact beq_self_eq_true _
        have hr : (entV S.data.toList).getD [] = [34] := by rw [hq]; rfl
        have HR := Lib.hid hr
        clear hq hr
        go_wp2
        go_ret
        exact ⟨⟨#[34]⟩, rfl, by rw [HR.out], hf.out⟩
      · have hcmp : ([113, 117, 111, 116] == S.toList) = false := by rw [HBL.out, beq_eq_false_iff_ne]; exact fun e => hq e.symm
        have HQ := Lib.hid hq
        clear hq
        go_wp2
        go_round
        case rel => exact ⟨4, by omega, rfl, fun j hj => by
          by_cases hjk : j = 3
          · subst hjk; exact HQ.out
          · exact HNE.out j (by omega)⟩
        case measure => simp [intOf]
    · by_cases hq : S.data.toList = [97, 112, 111, 115]
      · have hcmp : ([97, 112, 111, 115] == S.toList) = true := by rw [HBL.out, hq]; exact beq_self_eq_true _
        have hr : (entV S.data.toList).getD [] = [39] := by rw [hq]; rfl
        have HR := Lib.hid hr
        clear hq hr
        go_wp2
        go_ret
        exact ⟨⟨#[39]⟩, rfl, by rw [HR.out], hf.out⟩
      · have hcmp : ([97, 112, 111, 115] == S.toList) = false := by rw [HBL.out, beq_eq_false_iff_ne]; exact fun e => hq e.symm
        have HQ := Lib.hid hq
        clear hq
        go_wp2
        go_round
        case rel => exact ⟨5, by omega, rfl, fun j hj => by
          by_cases hjk : j = 4
          · subst hjk; exact HQ.out
          · exact HNE.out j (by omega)⟩
        case measure => simp [intOf]
    · clear c0 c1 c2 c3 c4 d0 d1 d2 d3 d4
      by_cases hA : 2 < S.data.toList.length ∧ S.data.toList.take 2 = [35, 120]
      · have hN : entN S.data.toList = chrV (S.data.toList.drop 2) 16 6 := by unfold entN; rw [if_pos hA]
        have h2 : (2 : Int) < (S.size : Int) := by have := hA.1; rw [HSL.out] at this; omega
        obtain ⟨T, hT⟩ : ∃ T, S.extract 0 2 = T := ⟨_, rfl⟩
        have hcmp : (T.toList == [35, 120]) = true := by
          rw [← hT, ba_list, beq_iff_eq]
          simpa using hA.2
        obtain ⟨U, hU⟩ : ∃ U, S.extract 2 S.size = U := ⟨_, rfl⟩
        have hUl : U.data.toList = S.data.toList.drop 2 := by rw [← hU]; exact ext_drop S _
        have hnum := fun u => r_numeral_any U 16 6 u (.inr rfl) (by omega)
        have hans : chrR U.data.toList 16 6 = match entN S.data.toList with | none => -1 | some v => (v : Int) := by rw [hN, hUl]; rfl
        rw [hans] at hnum
        have HNUM := Lib.hid hnum
        clear hnum hans hUl hA hN
        obtain hE | ⟨v, hE⟩ : entN S.data.toList = none ∨ ∃ v, entN S.data.toList = some v := by cases entN S.data.toList <;> simp
        · have HNUM2 := HNUM.out
          rw [hE] at HNUM2
          have hr : (entV S.data.toList).getD [] = [] := entV_none HNE.out hE
          have HN2 := Lib.hid HNUM2; have HR := Lib.hid hr
          clear HNUM2 hr hE HNUM
          go_wp2_with (go_at_call 110; refine (HN2.out _).mono ?_; rintro e w' ⟨rfl, rfl⟩)
          go_ret
          exact ⟨⟨#[]⟩, rfl, by rw [HR.out], hf.out⟩
        · have HNUM2 := HNUM.out
          rw [hE] at HNUM2
          have hch := fun u => ref_char_any v u
          cases hc : charB v with
          | false =>
            have hr : (entV S.data.toList).getD [] = [] := entV_bad HNE.out hE hc
            rw [hc] at hch
            have HN2 := Lib.hid HNUM2; have HR := Lib.hid hr; have HCH := Lib.hid hch
            clear HNUM2 hr hE HNUM hch hc
            go_wp2_with (first
              | (go_at_call 110; refine (HN2.out _).mono ?_; rintro e w' ⟨rfl, rfl⟩)
              | (go_at_call 108; refine (HCH.out _).mono ?_; rintro e w' ⟨rfl, rfl⟩))
            go_ret
            exact ⟨⟨#[]⟩, rfl, by rw [HR.out], hf.out⟩
          | true =>
            have hv : v ≤ 1114111 := by unfold charB at hc; simp at hc; omega
            have hr : (entV S.data.toList).getD [] = encL (v : Int) := entV_char HNE.out hE hc
            rw [hc] at hch
            have hut := fun u => r_utf_any v u hv
            have HN2 := Lib.hid HNUM2; have HR := Lib.hid hr; have HCH := Lib.hid hch; have HUT := Lib.hid hut
            clear HNUM2 hr hE HNUM hch hc hut
            go_wp2_with (first
              | (go_at_call 110; refine (HN2.out _).mono ?_; rintro e w' ⟨rfl, rfl⟩)
              | (go_at_call 108; refine (HCH.out _).mono ?_; rintro e w' ⟨rfl, rfl⟩)
              | (go_at_call 111; refine (HUT.out _).mono ?_; rintro e w2 ⟨R, rfl, hR, hf2⟩))
            go_ret
            exact ⟨R, rfl, by rw [HR.out, hR], hf.out.trans hf2⟩
      · obtain ⟨T, hT⟩ : ∃ T, S.extract 0 2 = T := ⟨_, rfl⟩
        have hTl : T.toList = S.data.toList.take 2 := by
          rw [← hT, ba_list]
          simp
        by_cases hB : 1 < S.data.toList.length ∧ S.data.toList.getD 0 0 = 35
        · have hN : entN S.data.toList = chrV (S.data.toList.drop 1) 10 7 := by unfold entN; rw [if_neg hA, if_pos hB]
          have h1 : (1 : Int) < (S.size : Int) := by have := hB.1; rw [HSL.out] at this; omega
          have h1n : 0 < S.size := by omega
          obtain ⟨x, hx⟩ : ∃ x, S[0] = x := ⟨_, rfl⟩
          have hx35 : (x.toNat : Int) = 35 := by
            have h := hB.2
            rw [getD_zero _ (by rw [HSL.out]; exact h1n)] at h
            rw [← hx, byte_at S 0 h1n, h]
            rfl
          have hcases : (S.size : Int) ≤ 2 ∨ (2 < (S.size : Int) ∧ (T.toList == [35, 120]) = false) := by
            by_cases h2 : 2 < S.size
            · refine .inr ⟨by omega, ?_⟩
              rw [beq_eq_false_iff_ne, hTl]
              exact fun e => hA ⟨by rw [HSL.out]; exact h2, e⟩
            · exact .inl (by omega)
          clear hTl
          obtain ⟨U, hU⟩ : ∃ U, S.extract 1 S.size = U := ⟨_, rfl⟩
          have hUl : U.data.toList = S.data.toList.drop 1 := by rw [← hU]; exact ext_drop S _
          have hnum := fun u => r_numeral_any U 10 7 u (.inl rfl) (by omega)
          have hans : chrR U.data.toList 10 7 = match entN S.data.toList with | none => -1 | some v => (v : Int) := by rw [hN, hUl]; rfl
          rw [hans] at hnum
          have HNUM := Lib.hid hnum
          clear hnum hans hUl hA hB hN
          rcases hcases with h2 | ⟨h2, hcmp⟩
          all_goals
            obtain hE | ⟨v, hE⟩ : entN S.data.toList = none ∨ ∃ v, entN S.data.toList = some v := by cases entN S.data.toList <;> simp
            · have HNUM2 := HNUM.out
              rw [hE] at HNUM2
              have hr : (entV S.data.toList).getD [] = [] := entV_none HNE.out hE
              have HN2 := Lib.hid HNUM2; have HR := Lib.hid hr
              clear HNUM2 hr hE HNUM
              go_wp2_with (go_at_call 110; refine (HN2.out _).mono ?_; rintro e w' ⟨rfl, rfl⟩)
              go_ret
              exact ⟨⟨#[]⟩, rfl, by rw [HR.out], hf.out⟩
            · have HNUM2 := HNUM.out
              rw [hE] at HNUM2
              have hch := fun u => ref_char_any v u
              cases hc : charB v with
              | false =>
                have hr : (entV S.data.toList).getD [] = [] := entV_bad HNE.out hE hc
                rw [hc] at hch
                have HN2 := Lib.hid HNUM2; have HR := Lib.hid hr; have HCH := Lib.hid hch
                clear HNUM2 hr hE HNUM hch hc
                go_wp2_with (first
                  | (go_at_call 110; refine (HN2.out _).mono ?_; rintro e w' ⟨rfl, rfl⟩)
                  | (go_at_call 108; refine (HCH.out _).mono ?_; rintro e w' ⟨rfl, rfl⟩))
                go_ret
                exact ⟨⟨#[]⟩, rfl, by rw [HR.out], hf.out⟩
              | true =>
                have hv : v ≤ 1114111 := by unfold charB at hc; simp at hc; omega
                have hr : (entV S.data.toList).getD [] = encL (v : Int) := entV_char HNE.out hE hc
                rw [hc] at hch
                have hut := fun u => r_utf_any v u hv
                have HN2 := Lib.hid HNUM2; have HR := Lib.hid hr; have HCH := Lib.hid hch; have HUT := Lib.hid hut
                clear HNUM2 hr hE HNUM hch hc hut
                go_wp2_with (first
                  | (go_at_call 110; refine (HN2.out _).mono ?_; rintro e w' ⟨rfl, rfl⟩)
                  | (go_at_call 108; refine (HCH.out _).mono ?_; rintro e w' ⟨rfl, rfl⟩)
                  | (go_at_call 111; refine (HUT.out _).mono ?_; rintro e w2 ⟨R, rfl, hR, hf2⟩))
                go_ret
                exact ⟨R, rfl, by rw [HR.out, hR], hf.out.trans hf2⟩
        · have hN : entN S.data.toList = none := by unfold entN; rw [if_neg hA, if_neg hB]
          have hr : (entV S.data.toList).getD [] = [] := entV_none HNE.out hN
          have HR := Lib.hid hr
          have hcases : (S.size : Int) ≤ 1 ∨ ∃ h : 0 < S.size, (S.size : Int) = 2 ∧ ((S[0].toNat : Int) == 35) = false ∨ (2 < (S.size : Int) ∧ (T.toList == [35, 120]) = false ∧ ((S[0].toNat : Int) == 35) = false) := by
            by_cases h1 : 1 < S.size
            · have h0 : 0 < S.size := by omega
              have hne : ((S[0].toNat : Int) == 35) = false := by
                rw [beq_eq_false_iff_ne]
                intro e
                refine hB ⟨by rw [HSL.out]; exact h1, ?_⟩
                rw [getD_zero _ (by rw [HSL.out]; exact h0), ← byte_at S 0 h0]
                apply UInt8.toNat_inj.1
                have : (35 : UInt8).toNat = 35 := rfl
                omega
              refine .inr ⟨h0, ?_⟩
              by_cases h2 : 2 < S.size
              · refine .inr ⟨by omega, ?_, hne⟩
                rw [beq_eq_false_iff_ne, hTl]
                exact fun e => hA ⟨by rw [HSL.out]; exact h2, e⟩
              · exact .inl ⟨by omega, hne⟩
            · exact .inl (by omega)
          clear hTl hr hN hA hB
          rcases hcases with h1 | ⟨h0, ⟨h2, hne⟩ | ⟨h2, hcmp, hne⟩⟩
          · go_wp2
            go_ret
            exact ⟨⟨#[]⟩, rfl, by rw [HR.out], hf.out⟩
          all_goals
            obtain ⟨x, hx⟩ : ∃ x, S[0] = x := ⟨_, rfl⟩
            rw [hx] at hne
            go_wp2
            go_ret
            exact ⟨⟨#[]⟩, rfl, by rw [HR.out], hf.out⟩
end Go.Proofs.YthkjmbkfcnehoaaGreatDoor
/- The statements' own tokens: a text's value. -/
namespace Go.Proofs.YthkjmbkfcnehoaaGreatDoor
open Go.RowKit
set_option maxHeartbeats 1000000
set_option linter.unusedVariables false

/-- a text's value as bytes; none: nothing -/
def valB (l : List UInt8) : List UInt8 := (valV l).getD []
theorem valV_open {r : List UInt8} (h : ∀ b ∈ r, b.toNat ≠ 59) : valV (38 :: r) = none := by
  unfold valV
  rw [List.length_cons, valF_amp]
  have : r.dropWhile (fun b => decide (b.toNat ≠ 59)) = [] := by
    induction r with
    | nil => rfl
    | cons c r ih =>
      rw [List.dropWhile_cons, if_pos (by simpa using h c (by simp))]
      exact ih (fun b hb => h b (by simp [hb]))
  rw [this]
theorem entV_small {s x : List UInt8} (h : entV s = some x) : x ≠ [] ∧ x.length ≤ 4 := by
  unfold entV at h
  split at h
  · injection h with h; subst h; simp
  split at h
  · injection h with h; subst h; simp
  split at h
  · injection h with h; subst h; simp
  split at h
  · injection h with h; subst h; simp
  split at h
  · injection h with h; subst h; simp
  simp only at h
  split at h
  · cases h
  · rename_i v _
    split at h
    · rename_i hc
      injection h with h
      subst h
      have hv : v ≤ 1114111 ∧ ¬ (55296 ≤ v ∧ v ≤ 57343) := by unfold charB at hc; simp at hc; omega
      have he := enc_size hv.1 hv.2
      constructor
      · intro e
        rw [e] at he
        simp at he
      · omega
    · cases h
theorem r_value_any (S : ByteArray) (w : World) (hs : S.size ≤ 65536) :
    Calls Tryz.prog 62 #[.string S] w fun e w' => ∃ R : ByteArray, e = .returned (.tuple #[.string R, .bool (valV S.data.toList).isSome]) ∧ R.data.toList = valB S.data.toList ∧ Fr No w w' := by
  have hsl := size_list S
  have HSL := Lib.hid hsl
  clear hsl
  go_enter Tryz.func62, Tryz.ntmps62
  go_wp2
  go_loopw [4, 5] (fun ov iv wr => ∃ (k : Nat) (O : ByteArray), ov = .string O ∧ iv = .int .i64 (k : Int) ∧ k ≤ S.size ∧ O.size ≤ 4 * k ∧ valV S.data.toList = (valV (S.data.toList.drop k)).map (O.data.toList ++ ·) ∧ Fr No w wr) (fun _ iv _ => S.size - (intOf iv).toNat)
  case atStart => exact ⟨0, ⟨#[]⟩, rfl, rfl, by omega, by decide, by simp, Fr.refl _ _⟩
  case round =>
    obtain ⟨k, O, rfl, rfl, hk, hO, hval, hf⟩ := hrel
    have HV := Lib.hid hval
    clear hval
    by_cases hlt : k < S.size
    · have hltI : (k : Int) < (S.size : Int) := by omega
      have hdr := sdrop_cons S k hlt
      obtain ⟨x, hx⟩ : ∃ x, S[k] = x := ⟨_, rfl⟩
      rw [hx] at hdr
      have HDR := Lib.hid hdr
      clear hdr
      by_cases hx38 : x.toNat = 38
      · have hxb : ((x.toNat : Int) != 38) = false := by rw [hx38]; rfl
        have hx0 : x = 38 := UInt8.toNat_inj.1 hx38
        have HX0 := Lib.hid hx0
        clear hx0 hx38
        go_wp2
        go_loop [6] (fun ev => ∃ e : Nat, ev = .int .i64 (e : Int) ∧ k ≤ e ∧ e ≤ S.size ∧ ∀ j (hj : k ≤ j) (hje : j < e) (hl : j < S.size), S[j].toNat ≠ 59) (fun ev => S.size - (intOf ev).toNat)
        case atStart => exact ⟨k, rfl, by omega, by omega, fun j h1 h2 => by omega⟩
        case round =>
          obtain ⟨e, rfl, hke, hes, hall⟩ := hrel
          have HALL := Lib.hid hall
          clear hall
          by_cases hle : e < S.size
          · have hleI : (e : Int) < (S.size : Int) := by omega
            obtain ⟨y, hy⟩ : ∃ y, S[e] = y := ⟨_, rfl⟩
            by_cases hy59 : y.toNat = 59
            · have hyb : ((y.toNat : Int) != 59) = false := by rw [hy59]; rfl
              have hek : k < e := by
                rcases Nat.lt_or_ge k e with h | h
                · exact h
                · exfalso
                  have e1 : k = e := by omega
                  subst e1
                  rw [hx, HX0.out] at hy
                  rw [← hy] at hy59
                  exact absurd hy59 (by decide)
              have f1 : (0 : Int) ≤ (e : Int) ∧ (e : Int) ≤ (S.size : Int) := by omega
              have f2 : (0 : Int) ≤ (k : Int) + 1 ∧ (k : Int) + 1 ≤ (e : Int) := by omega
              have hne : ((e : Int) == (S.size : Int)) = false := by rw [beq_eq_false_iff_ne]; omega
              obtain ⟨T, hT⟩ : ∃ T, S.extract (k + 1) e = T := ⟨_, rfl⟩
              have hTl : T.data.toList = (S.data.toList.drop (k + 1)).take (e - (k + 1)) := by rw [← hT, ext_list]
              have hTs : T.size ≤ 65536 := by rw [← size_list, hTl, List.length_take]; omega
              have hno : ∀ b ∈ T.data.toList, b.toNat ≠ 59 := by
                intro b hb
                rw [hTl] at hb
                obtain ⟨j, hj, rfl⟩ := List.getElem_of_mem hb
                rw [List.length_take, List.length_drop, HSL.out] at hj
                rw [List.getElem_take, List.getElem_drop]
                exact HALL.out (k + 1 + j) (by omega) (by omega) (by omega)
              have hspl : S.data.toList.drop k = 38 :: T.data.toList ++ (59 :: S.data.toList.drop (e + 1)) := by
                have hy0 : y = 59 := UInt8.toNat_inj.1 hy59
                rw [HDR.out, HX0.out, hTl, List.cons_append]
                congr 1
                have h1 := List.take_append_drop (e - (k + 1)) (S.data.toList.drop (k + 1))
                rw [List.drop_drop, show k + 1 + (e - (k + 1)) = e by omega, sdrop_cons S e hle, hy, hy0] at h1
                exact h1.symm
              have hvk := HV.out
              rw [hspl, valV_ent hno] at hvk
              have hent := fun u => r_entity_any T u hTs
              cases hE : entV T.data.toList with
              | none =>
                rw [hE] at hent hvk
                have h1 : (valV S.data.toList).isSome = false := by rw [hvk]; rfl
                have h2 : valB S.data.toList = [] := by unfold valB; rw [hvk]; rfl
                have H1 := Lib.hid h1; have H2 := Lib.hid h2; have HENT := Lib.hid hent
                clear h1 h2 hvk hent hE hspl hno hTl hTs hy59
                go_wp2_with (go_at_call 93; refine (HENT.out _).mono ?_; rintro e1 w2 ⟨R, rfl, hR, hf2⟩; have hRc : (R.toList == []) = true := by rw [ba_list, hR]; rfl)
                go_ret2
                exact ⟨⟨#[]⟩, by rw [H1.out]; rfl, by rw [H2.out], hf.trans hf2⟩
              | some z =>
                rw [hE] at hent hvk
                obtain ⟨hz0, hz4⟩ := entV_small hE
                have HVK := Lib.hid hvk; have HENT := Lib.hid hent; have HZ0 := Lib.hid hz0; have HZ4 := Lib.hid hz4
                clear hvk hent hE hspl hno hTl hTs hy59 hz0 hz4
                go_wp2_with (go_at_call 93; refine (HENT.out _).mono ?_; rintro e1 w2 ⟨R, rfl, hR, hf2⟩; have hRc : (R.toList == []) = false := (by rw [ba_list, hR, beq_eq_false_iff_ne]; exact HZ0.out); have hRs : R.size ≤ 4 := (by rw [← size_list, hR]; exact HZ4.out))
                go_roundw
                case rel => exact ⟨e + 1, O ++ R, rfl, by go_num, by omega, by rw [← size_list, app_list, hR]; have h1 := size_list O; have h2 := HZ4.out; simp; omega, by
                  rw [HVK.out, app_list, hR, Option.map_map]
                  congr 1
                  funext q
                  simp, hf.trans hf2⟩
                case measure => simp [intOf]; omega
            · have hyb : ((y.toNat : Int) != 59) = true := by rw [bne_iff_ne]; omega
              go_wp2
              go_round
              case rel => exact ⟨e + 1, by go_num, by omega, by omega, fun j h1 h2 hl => by
                by_cases hje : j = e
                · subst hje; rw [hy]; exact hy59
                · exact HALL.out j h1 (by omega) hl⟩
              case measure => simp [intOf]; omega
          · obtain rfl : e = S.size := by omega
            have hltI2 : ¬ (S.size : Int) < (S.size : Int) := by omega
            have hno : ∀ b ∈ S.data.toList.drop (k + 1), b.toNat ≠ 59 := by
              intro b hb
              obtain ⟨j, hj, rfl⟩ := List.getElem_of_mem hb
              rw [List.length_drop, HSL.out] at hj
              rw [List.getElem_drop]
              exact HALL.out (k + 1 + j) (by omega) (by omega) (by omega)
            have hvk := HV.out
            rw [HDR.out, HX0.out, valV_open hno] at hvk
            have h1 : (valV S.data.toList).isSome = false := by rw [hvk]; rfl
            have h2 : valB S.data.toList = [] := by unfold valB; rw [hvk]; rfl
            have H1 := Lib.hid h1; have H2 := Lib.hid h2
            clear h1 h2 hvk hno
            go_wp2
            go_ret2
            exact ⟨⟨#[]⟩, by rw [H1.out]; rfl, by rw [H2.out], hf⟩
      · have hxb : ((x.toNat : Int) != 38) = true := by rw [bne_iff_ne]; omega
        have f1 : (0 : Int) ≤ (k : Int) + 1 ∧ (k : Int) + 1 ≤ (S.size : Int) := by omega
        have f2 : (0 : Int) ≤ (k : Int) ∧ (k : Int) ≤ (k : Int) + 1 := by omega
        go_wp2
        go_roundw
        case rel => exact ⟨k + 1, O ++ S.extract k (k + 1), rfl, by go_num, by omega, by rw [← size_list, app_list, ext_list, HDR.out]; have := size_list O; simp; omega, by
          rw [HV.out, HDR.out, valV_plain hx38, app_list, ext_list, HDR.out, Option.map_map]
          congr 1
          funext z
          simp, hf⟩
        case measure => simp [intOf]; omega
    · obtain rfl : k = S.size := by omega
      have hltI : ¬ (S.size : Int) < (S.size : Int) := by omega
      have hv : valV S.data.toList = some O.data.toList := by
        rw [HV.out, List.drop_eq_nil_of_le (by rw [HSL.out]; exact Nat.le_refl _), valV_nil]
        simp
      have h1 : (valV S.data.toList).isSome = true := by rw [hv]; rfl
      have h2 : valB S.data.toList = O.data.toList := by unfold valB; rw [hv]; rfl
      have H1 := Lib.hid h1; have H2 := Lib.hid h2
      clear h1 h2 hv
      go_wp2
      go_ret2
      exact ⟨O, by rw [H1.out]; rfl, H2.out.symm, hf⟩
end Go.Proofs.YthkjmbkfcnehoaaGreatDoor
