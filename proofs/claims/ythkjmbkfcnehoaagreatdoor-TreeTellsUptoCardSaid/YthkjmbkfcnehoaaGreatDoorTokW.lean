/- The texts TokWalk, TokWalk2, TokLib, joined. -/
import Derived.Test.YthkjmbkfcnehoaaGreatDoorTokMath3
import Derived.Test.YthkjmbkfcnehoaaGreatDoorIts
import Derived.Test.YthkjmbkfcnehoaaGreatDoorSm
import Derived.Test.YthkjmbkfcnehoaaGreatDoorShelf
import Derived.LoopTactic
import Derived.BigQuiet
/- What package token does: a file and what is left of it: signs, names, blanks. -/
namespace Go.Proofs.YthkjmbkfcnehoaaGreatDoor
open Go.RowKit
set_option maxHeartbeats 400000
set_option linter.unusedVariables false

theorem k_blank_any (c : UInt8) (w : World) : Calls Tryz.prog 102 #[.int .u8 (c.toNat : Int)] w fun e w' => e = .returned (.bool (isBl c)) ∧ w = w' := by
  go_enter Tryz.func102, Tryz.ntmps102
  go_wp2
  all_goals
    go_ret
    refine ⟨ret_bool ?_, rfl⟩
    unfold isBl
    rw [Bool.eq_iff_iff]
    simp_all
    try omega
theorem k_first_any (c : UInt8) (w : World) : Calls Tryz.prog 83 #[.int .u8 (c.toNat : Int)] w fun e w' => e = .returned (.bool (isFi c)) ∧ w = w' := by
  go_enter Tryz.func83, Tryz.ntmps83
  go_wp2
  all_goals
    go_ret
    refine ⟨ret_bool ?_, rfl⟩
    unfold isFi
    rw [Bool.eq_iff_iff]
    simp_all
    try omega
theorem k_behind_any (c : UInt8) (w : World) : Calls Tryz.prog 101 #[.int .u8 (c.toNat : Int)] w fun e w' => e = .returned (.bool (isWi c)) ∧ w = w' := by
  cases hf : isFi c with
  | true =>
    have hw : isWi c = true := isWi_of hf
    go_enter Tryz.func101, Tryz.ntmps101
    go_wp2_with (go_at_call 83; refine (k_first_any _ _).mono ?_; rw [hf]; rintro e w' ⟨rfl, rfl⟩)
    all_goals
      go_ret
      exact ⟨ret_bool hw.symm, rfl⟩
  | false =>
    have hw : isWi c = decide ((48 ≤ c.toNat ∧ c.toNat ≤ 57) ∨ c.toNat = 45 ∨ c.toNat = 46 ∨ c.toNat = 58) := by unfold isWi; rw [hf]; rfl
    rw [hw]
    go_enter Tryz.func101, Tryz.ntmps101
    go_wp2_with (go_at_call 83; refine (k_first_any _ _).mono ?_; rw [hf]; rintro e w' ⟨rfl, rfl⟩)
    all_goals
      go_ret
      refine ⟨ret_bool ?_, rfl⟩
      rw [Bool.eq_iff_iff]
      simp_all
      try omega
theorem k_loose_any (c : UInt8) (w : World) : Calls Tryz.prog 88 #[.int .u8 (c.toNat : Int)] w fun e w' => e = .returned (.bool (notLt c)) ∧ w = w' := by
  go_enter Tryz.func88, Tryz.ntmps88
  go_wp2
  all_goals
    go_ret
    refine ⟨ret_bool ?_, rfl⟩
    unfold notLt
    rw [Bool.eq_iff_iff]
    simp_all
    try omega
theorem tests_kblank : Tests 102 isBl := ⟨fun _ _ => by kernel_rfl, fun c w => k_blank_any c w⟩
theorem tests_kfirst : Tests 83 isFi := ⟨fun _ _ => by kernel_rfl, fun c w => k_first_any c w⟩
theorem tests_kbehind : Tests 101 isWi := ⟨fun _ _ => by kernel_rfl, fun c w => k_behind_any c w⟩
theorem tests_kloose : Tests 88 notLt := ⟨fun _ _ => by kernel_rfl, fun c w => k_loose_any c w⟩

/-! ### a file, of which this is left -/
def Wk (w : World) (g : Nat) (L : List UInt8) : Prop := ∃ S : ByteArray, Bk w g 77 [.string S] ∧ S.data.toList = L ∧ S.size ≤ 65536
variable {w w' : World} {g : Nat} {L : List UInt8} {Q : Nat → Prop}
theorem Wk.fr (h : Wk w g L) (hf : Fr Q w w') (hQ : ¬ Q g) : Wk w' g L := let ⟨S, a, b, c⟩ := h; ⟨S, a.fr hf hQ, b, c⟩
theorem Wk.no (h : Wk w g L) (hf : Fr No w w') : Wk w' g L := h.fr hf (fun x => x)
theorem Wk.dr (h : Wk w g L) (hf : Dr w w') : Wk w' g L := h.no hf.fr
theorem Wk.lt (h : Wk w g L) : g < w.heap.size := let ⟨_, a, _, _⟩ := h; a.lt
theorem Wk.small (h : Wk w g L) : L.length ≤ 65536 := let ⟨S, _, b, c⟩ := h; by rw [← b, size_list]; exact c

theorem w_begins (f : FuncId) (p : UInt8 → Bool) (ht : Tests f p) (g : Nat) (L : List UInt8) (w : World) (h : Wk w g L) :
    Calls Tryz.prog 82 #[.pointer (some ⟨g, 0, none⟩), .func (.func f) #[] #[]] w fun e w' => e = .returned (.bool (bgB p L)) ∧ w = w' := by
  obtain ⟨S, hb, hS, hsz⟩ := h
  have c0 : w.cell? ⟨g, 0, none⟩ = some (.string S) := hb.cell 0
  have hen := ht.enters
  cases L with
  | nil =>
    obtain rfl := str_empty hS
    go_enter Tryz.func82, Tryz.ntmps82
    go_wp2
    go_ret
    exact ⟨rfl, rfl⟩
  | cons c r =>
    have h0 : 0 < S.size := by rw [sz_eq hS]; simp
    have h0I : (0 : Int) < (S.size : Int) := by omega
    have hat : S[0] = c := by rw [byte_at S 0 h0]; simp [hS]
    have hne : (S.toList == []) = false := by rw [ba_list, hS]; rfl
    have htc : ∀ w : World, Calls Tryz.prog f #[.int .u8 (c.toNat : Int)] w fun e w' => e = .returned (.bool (p c)) ∧ w = w' := fun w => ht.tells c w
    have HC := Lib.hid htc; have HS := Lib.hid hS
    clear htc hS hsz hb
    go_enter Tryz.func82, Tryz.ntmps82
    go_wp2_with (refine (HC.out _).mono ?_; rintro e w' ⟨rfl, rfl⟩)
    go_ret
    exact ⟨rfl, rfl⟩
end Go.Proofs.YthkjmbkfcnehoaaGreatDoor
/- What package token does: as many signs as stand a test; a mark; names and blanks. -/
namespace Go.Proofs.YthkjmbkfcnehoaaGreatDoor
open Go.RowKit
set_option maxHeartbeats 400000
set_option linter.unusedVariables false

/-- how much is left -/
def leftOf (w : World) (g : Nat) : Nat := match w.cell? ⟨g, 0, none⟩ with
  | some (.string S) => S.size
  | _ => 0
theorem Wk.left {w : World} {g : Nat} {L : List UInt8} (h : Wk w g L) : leftOf w g = L.length := by
  obtain ⟨S, hb, hS, _⟩ := h
  unfold leftOf
  rw [show w.cell? ⟨g, 0, none⟩ = some (.string S) from hb.cell 0]
  exact sz_eq hS
theorem drop_one (T : ByteArray) (x : UInt8) (R : List UInt8) (h : T.data.toList = x :: R) : (T.extract 1 T.size).data.toList = R := by
  rw [ext_list, h]
  simp only [List.drop_succ_cons, List.drop_zero]
  rw [List.take_of_length_le]
  rw [sz_eq h]
  simp
theorem take_pre (S : ByteArray) (A R : List UInt8) (h : S.data.toList = A ++ R) : (S.extract 0 A.length).data.toList = A := by
  rw [ext_list, h]
  simp

theorem w_while (f : FuncId) (p : UInt8 → Bool) (ht : Tests f p) (g : Nat) (L : List UInt8) (w : World) (h : Wk w g L) :
    Calls Tryz.prog 87 #[.pointer (some ⟨g, 0, none⟩), .func (.func f) #[] #[]] w fun e w' => ∃ R : ByteArray, e = .returned (.string R) ∧ R.data.toList = L.takeWhile p ∧ Wk w' g (L.dropWhile p) ∧ Fr (Just g) w w' := by
  have h0 := h
  obtain ⟨S, hb, hS, hsz⟩ := h
  have c0 : w.cell? ⟨g, 0, none⟩ = some (.string S) := hb.cell 0
  have H := Lib.hid h0; have HS := Lib.hid hS
  clear h0 hb hS
  go_enter Tryz.func87, Tryz.ntmps87
  go_wp2
  go_loopw [] (fun wr => ∃ A R : List UInt8, L = A ++ R ∧ (∀ x ∈ A, p x = true) ∧ Wk wr g R ∧ Fr (Just g) w wr) (fun wr => leftOf wr g)
  case atStart => exact ⟨[], L, rfl, (fun x hx => by cases hx), H.out, Fr.refl _ _⟩
  case round =>
    obtain ⟨A, R, hL, hA, hW, hF⟩ := hrel
    have hlf := hW.left
    obtain ⟨T, hbT, hT, hszT⟩ := id hW
    have c1 : wr.cell? ⟨g, 0, none⟩ = some (.string T) := hbT.cell 0
    have z1 := hbT.frozen 0
    have hsum : S.size = A.length + T.size := by rw [sz_eq HS.out, sz_eq hT, hL, List.length_append]
    have hbg := fun u hu => w_begins f p ht g R u hu
    cases hb : bgB p R with
    | true =>
      cases R with
      | nil => cases hb
      | cons x R =>
        have h1 : 1 ≤ T.size := by rw [sz_eq hT]; simp
        have hd1 := drop_one T x R hT
        obtain ⟨T2, hT2⟩ : ∃ T2, T.extract 1 T.size = T2 := ⟨_, rfl⟩
        rw [hT2] at hd1
        have e1 : (0 : Int) ≤ 1 ∧ (1 : Int) ≤ (T.size : Int) := by omega
        have e2 : (1 : Int) ≤ (T.size : Int) := by omega
        have hd1s : T2.size ≤ 65536 := by have := sz_eq hd1; have := sz_eq hT; simp at this; omega
        rw [hb] at hbg
        have HW := Lib.hid hW; have HBG := Lib.hid hbg; have HF := Lib.hid hF; have HL := Lib.hid hL; have HA := Lib.hid hA; have HD := Lib.hid hd1; have HX := Lib.hid (show p x = true from hb); have HLF := Lib.hid hlf; have HBT := Lib.hid hbT; have HT := Lib.hid hT; have HDS := Lib.hid hd1s
        clear hW hbg hF hL hA hd1 hb hlf hbT hT hsum hd1s
        go_wp2_with (go_at_call 82; refine (HBG.out _ HW.out).mono ?_; rintro e w' ⟨rfl, rfl⟩)
        have hset := HBT.out.set_ 0 (.string T2)
        have hw2 : Wk (wr.setCell ⟨g, 0, none⟩ (.string T2)) g R := ⟨T2, hset, HD.out, HDS.out⟩
        go_roundw
        case rel => exact ⟨A ++ [x], R, by rw [HL.out]; simp, fun y hy => (List.mem_append.1 hy).elim (HA.out y) (fun hy => by rw [List.mem_singleton.1 hy]; exact HX.out), hw2, HF.out.setCell (p := ⟨g, 0, none⟩) (.inl (Just.at g)) _⟩
        case measure => rw [hw2.left, HLF.out]; simp
    | false =>
      have htw := tw_app (b := R) hA (fun x r e => by rw [e] at hb; exact hb)
      rw [← hL] at htw
      have e3 : (S.size : Int) - (T.size : Int) = (A.length : Int) := by omega
      have e4 : (0 : Int) ≤ (A.length : Int) ∧ (A.length : Int) ≤ (S.size : Int) := by omega
      have e5 : (A.length : Int) ≤ (S.size : Int) := by omega
      have hpre := take_pre S A R (by rw [HS.out, hL])
      obtain ⟨S2, hS2⟩ : ∃ S2, S.extract 0 A.length = S2 := ⟨_, rfl⟩
      rw [hS2] at hpre
      rw [hb] at hbg
      have hres : S2.data.toList = L.takeWhile p ∧ Wk wr g (L.dropWhile p) := ⟨by rw [hpre, htw.1], by rw [htw.2]; exact hW⟩
      have HBG := Lib.hid hbg; have HW := Lib.hid hW; have HF := Lib.hid hF; have HRES := Lib.hid hres
      clear hbg hW hF hres hpre htw hL hA hb hlf hbT hT hsum
      go_wp2_with (go_at_call 82; refine (HBG.out _ HW.out).mono ?_; rintro e w' ⟨rfl, rfl⟩)
      go_ret
      exact ⟨S2, rfl, HRES.out.1, HRES.out.2, HF.out⟩

theorem w_pass (M : ByteArray) (g : Nat) (L : List UInt8) (w : World) (h : Wk w g L) :
    Calls Tryz.prog 54 #[.pointer (some ⟨g, 0, none⟩), .string M] w fun e w' => e = .returned (.bool (isP M.data.toList L).isSome) ∧ Wk w' g ((isP M.data.toList L).getD L) ∧ Fr (Just g) w w' := by
  obtain ⟨S, hb, hS, hsz⟩ := h
  have c0 : w.cell? ⟨g, 0, none⟩ = some (.string S) := hb.cell 0
  have z0 := hb.frozen 0
  have hc := fun u => Tryz.strings_CutPrefix S M u
  have e1 : Lib.hasPrefix S.data.toList M.data.toList = (isP M.data.toList L).isSome := by
    rw [hS]; unfold Lib.hasPrefix isP; cases M.data.toList.isPrefixOf L <;> rfl
  have e2 : Lib.trimPrefix S.data.toList M.data.toList = (isP M.data.toList L).getD L := by
    rw [hS]; unfold Lib.trimPrefix Lib.hasPrefix isP; split <;> rfl
  rw [e1, e2] at hc
  have hln : ((isP M.data.toList L).getD L).length ≤ 65536 := by
    have := sz_eq hS
    cases hp : isP M.data.toList L with
    | none => rw [Option.getD_none]; omega
    | some r => have := (isP_len hp).2; rw [Option.getD_some]; omega
  generalize (isP M.data.toList L).isSome = q at hc ⊢
  generalize (isP M.data.toList L).getD L = R at hc hln ⊢
  obtain ⟨T, hT⟩ : ∃ T : ByteArray, T = ⟨R.toArray⟩ := ⟨_, rfl⟩
  have hT2 : T.data.toList = R := by rw [hT]
  rw [← hT] at hc
  have hts : T.size ≤ 65536 := by rw [sz_eq hT2]; exact hln
  have HC := Lib.hid hc; have HB := Lib.hid hb; have HT := Lib.hid hT2; have HTS := Lib.hid hts
  clear hc hb hT hT2 e1 e2 hS hts hln
  go_enter Tryz.func54, Tryz.ntmps54
  go_wp2_with (go_at_call 79; refine (HC.out _).mono ?_; rintro e w' ⟨rfl, rfl⟩)
  go_ret
  exact ⟨rfl, ⟨T, HB.out.set_ 0 (.string T), HT.out, HTS.out⟩, (Fr.refl _ _).setCell (p := ⟨g, 0, none⟩) (.inl (Just.at g)) _⟩

theorem w_blanks (g : Nat) (L : List UInt8) (w : World) (h : Wk w g L) :
    Calls Tryz.prog 81 #[.pointer (some ⟨g, 0, none⟩)] w fun e w' => e = .returned (.bool (bgB isBl L)) ∧ Wk w' g (L.dropWhile isBl) ∧ Fr (Just g) w w' := by
  have hw := w_while _ _ tests_kblank g L w h
  have HW := Lib.hid hw
  clear hw h
  go_enter Tryz.func81, Tryz.ntmps81
  cases hb : bgB isBl L with
  | true =>
    have hne := (bg_ne (p := isBl) (l := L)).2 hb
    go_wp2_with (go_at_call 87; refine HW.out.mono ?_; rintro e w' ⟨R, rfl, hR, hw', hf⟩; have hRe : (R.toList == []) = false := by rw [ba_list, hR, beq_eq_false_iff_ne]; exact hne)
    go_ret
    exact ⟨rfl, hw', hf⟩
  | false =>
    have hne := (drop_none hb).2
    go_wp2_with (go_at_call 87; refine HW.out.mono ?_; rintro e w' ⟨R, rfl, hR, hw', hf⟩; have hRe : (R.toList == []) = true := by rw [ba_list, hR, hne]; rfl)
    go_ret
    exact ⟨rfl, hw', hf⟩

theorem w_name (g : Nat) (L : List UInt8) (w : World) (h : Wk w g L) :
    Calls Tryz.prog 80 #[.pointer (some ⟨g, 0, none⟩)] w fun e w' => ∃ R : ByteArray, e = .returned (.string R) ∧ R.data.toList = nameR L ∧ Wk w' g (if bgB isFi L then L.dropWhile isWi else L) ∧ Fr (Just g) w w' := by
  have hw := fun u hu => w_while _ _ tests_kbehind g L u hu
  have hbg := w_begins _ _ tests_kfirst g L w h
  rw [nameR_bg]
  have H := Lib.hid h
  clear h
  cases hb : bgB isFi L with
  | true =>
    rw [if_pos rfl, if_pos rfl]
    rw [hb] at hbg
    clear hb
    go_enter Tryz.func80, Tryz.ntmps80
    have HW := Lib.hid hw; have HBG := Lib.hid hbg
    clear hw hbg
    go_wp2_with (first
      | (go_at_call 82; refine HBG.out.mono ?_; rintro e w' ⟨rfl, rfl⟩)
      | (go_at_call 87; refine (HW.out _ H.out).mono ?_; rintro e w' ⟨R, rfl, hR, hw', hf⟩))
    go_ret
    exact ⟨R, rfl, hR, hw', hf⟩
  | false =>
    rw [if_neg (by decide), if_neg (by decide)]
    rw [hb] at hbg
    clear hb
    have HBG := Lib.hid hbg
    clear hw hbg
    go_enter Tryz.func80, Tryz.ntmps80
    go_wp2_with (go_at_call 82; refine HBG.out.mono ?_; rintro e w' ⟨rfl, rfl⟩)
    go_ret
    exact ⟨⟨#[]⟩, rfl, rfl, H.out, Fr.refl _ _⟩
end Go.Proofs.YthkjmbkfcnehoaaGreatDoor
/- What the library does for package token: up to a sign, a sign among bytes; whether a name is among attributes. -/
namespace Go.Proofs.YthkjmbkfcnehoaaGreatDoor
open Go.RowKit
set_option maxHeartbeats 400000
set_option linter.unusedVariables false

theorem index_byte1 (m : UInt8) : ∀ l : List UInt8, Lib.indexByte l m = if l.dropWhile (upTo m) = [] then -1 else ((l.takeWhile (upTo m)).length : Int)
  | [] => rfl
  | b :: l => by
    have ih := index_byte1 m l
    rw [Lib.indexByte, List.dropWhile_cons, List.takeWhile_cons]
    by_cases hb : b = m
    · subst hb
      have hu : upTo b b = false := by unfold upTo; simp
      rw [hu]
      simp
    · have hu : upTo m b = true := by unfold upTo; simp [hb]
      have hp : (b == m) = false := by simpa using hb
      rw [hu, hp, ih]
      simp only [Bool.false_eq_true, if_false, if_true]
      split
      · rfl
      · rename_i hd
        rw [if_neg (by simp)]
        simp
theorem k_cut_no (S : ByteArray) (m : UInt8) (w : World) (h : S.data.toList.dropWhile (upTo m) = []) :
    Calls Tryz.prog 106 #[.string S, .string ⟨#[m]⟩] w fun e w' => e = .returned (.tuple #[.string S, .string ⟨#[]⟩, .bool false]) ∧ Dr w w' := by
  have hi := fun u => Tryz.stringslite_Index_one S m u
  rw [index_byte1, if_pos h] at hi
  have HI := Lib.hid hi
  clear hi h
  have hc : ∀ u, Calls Tryz.prog 119 #[.string S, .string ⟨#[m]⟩] u fun e w' => e = .returned (.tuple #[.string S, .string ⟨#[]⟩, .bool false]) ∧ u = w' := by
    intro u
    go_enter Tryz.func119, Tryz.ntmps119
    go_wp2_with (go_at_call 126; refine (HI.out _).mono ?_; rintro e w' ⟨rfl, rfl⟩)
    go_ret3
    exact ⟨rfl, rfl⟩
  have HC := Lib.hid hc
  clear hc HI
  go_enter Tryz.func106, Tryz.ntmps106
  go_wp2_with (go_at_call 119; refine (HC.out _).mono ?_; rintro e w' ⟨rfl, rfl⟩)
  go_ret3
  exact ⟨rfl, Dr.refl _⟩
theorem k_cut_yes (S : ByteArray) (m : UInt8) (c : UInt8) (r : List UInt8) (w : World) (hs : S.size ≤ 65536) (h : S.data.toList.dropWhile (upTo m) = c :: r) :
    Calls Tryz.prog 106 #[.string S, .string ⟨#[m]⟩] w fun e w' => ∃ X Y : ByteArray, e = .returned (.tuple #[.string X, .string Y, .bool true]) ∧ X.data.toList = S.data.toList.takeWhile (upTo m) ∧ Y.data.toList = r ∧ Dr w w' := by
  have hi := fun u => Tryz.stringslite_Index_one S m u
  rw [index_byte1, if_neg (by rw [h]; simp)] at hi
  have hsp := List.takeWhile_append_dropWhile (p := upTo m) (l := S.data.toList)
  rw [h] at hsp
  generalize S.data.toList.takeWhile (upTo m) = A at hi hsp ⊢
  have hln : A.length + (r.length + 1) = S.size := by rw [← size_list, ← hsp]; simp
  have hX := take_pre S A (c :: r) hsp.symm
  have hY : (S.extract (A.length + 1) S.size).data.toList = r := by
    rw [ext_list, ← hsp]
    rw [show A.length + 1 = A.length + 1 from rfl, ← List.drop_drop, List.drop_left]
    show List.take _ r = r
    exact List.take_of_length_le (by omega)
  obtain ⟨X, eX⟩ : ∃ X, S.extract 0 A.length = X := ⟨_, rfl⟩
  obtain ⟨Y, eY⟩ : ∃ Y, S.extract (A.length + 1) S.size = Y := ⟨_, rfl⟩
  rw [eX] at hX
  rw [eY] at hY
  obtain ⟨i, hi2⟩ : ∃ i, A.length = i := ⟨_, rfl⟩
  rw [hi2] at hi hln eX eY
  have f1 : (0 : Int) ≤ (i : Int) ∧ (i : Int) ≤ (S.size : Int) := by omega
  have f2 : (0 : Int) ≤ (i : Int) + 1 ∧ (i : Int) + 1 ≤ (S.size : Int) := by omega
  have f4 : (S.size : Int) ≤ 65536 := by omega
  have HI := Lib.hid hi; have HX := Lib.hid hX; have HY := Lib.hid hY
  clear hi hX hY hsp h hln hi2 hs
  have hc : ∀ u, Calls Tryz.prog 119 #[.string S, .string ⟨#[m]⟩] u fun e w' => e = .returned (.tuple #[.string X, .string Y, .bool true]) ∧ Dr u w' := by
    intro u
    go_enter Tryz.func119, Tryz.ntmps119
    go_wp2_with (go_at_call 126; refine (HI.out _).mono ?_; rintro e w' ⟨rfl, rfl⟩)
    go_quiet (fail)
    go_wp2
    go_ret3
    exact ⟨rfl, (Dr.refl _).drewN _⟩
  have HC := Lib.hid hc
  clear hc HI f1 f2 f4 eX eY
  go_enter Tryz.func106, Tryz.ntmps106
  go_wp2_with (go_at_call 119; refine (HC.out _).mono ?_; rintro e w' ⟨rfl, hd⟩)
  go_ret3
  exact ⟨X, Y, rfl, HX.out, HY.out, hd⟩
theorem k_contains (S : ByteArray) (m : UInt8) (w : World) :
    Calls Tryz.prog 125 #[.string S, .string ⟨#[m]⟩] w fun e w' => e = .returned (.bool (decide (∃ x ∈ S.data.toList, x = m))) ∧ w = w' := by
  refine (Tryz.strings_Contains_one S m w).mono ?_
  rintro e w' ⟨rfl, rfl⟩
  rw [index_byte]
  exact ⟨rfl, rfl⟩

/-! ### a name among attributes -/
theorem add_nx (ad : Addr) (i j : Nat) : ad.add (i + (j + 1)) = ⟨(ad.add i).block, (ad.add i).off + (j + 1), none⟩ := by
  unfold Addr.add
  by_cases h : i = 0
  · subst h
    simp
  · simp [h]
    omega
theorem k_has1 (X Y N : ByteArray) (b : Nat) (w : World) (h : w.cell? ⟨b, 0, none⟩ = some (.string N)) :
    Calls Tryz.prog 105 #[.agg #[.string X, .string Y], .pointer (some ⟨b, 0, none⟩)] w fun e w' => e = .returned (.bool (X.data.toList == N.data.toList)) ∧ Fr No w w' := by
  have hlt : b < w.heap.size := World.block_lt_of_cell? _ _ h
  have hne : b ≠ w.heap.size := by omega
  rw [← ba_list, ← ba_list]
  go_enter Tryz.func105, Tryz.ntmps105
  go_wp2
  go_ret
  exact ⟨rfl, (Fr.refl No w).alloc _⟩
theorem k_index (A : Option Addr) (n c : Nat) (l : List (List UInt8 × List UInt8)) (M : Nat → Prop) (N : ByteArray) (b : Nat) (w : World) (hr : RdI 2 AttrI w M A n c l) (h : w.cell? ⟨b, 0, none⟩ = some (.string N)) :
    Calls Tryz.prog 118 #[.slice A n c, .func (.func 105) #[] #[.pointer (some ⟨b, 0, none⟩)]] w fun e w' => ∃ k : Int, e = .returned (.int .i64 k) ∧ decide (0 ≤ k) = l.any (fun a => a.1 == N.data.toList) ∧ -1 ≤ k ∧ k ≤ 9223372036854775807 ∧ Fr No w w' := by
  have hlen := hr.len attr_ok (by omega)
  have htop := hr.top
  have hlt : b < w.heap.size := World.block_lt_of_cell? _ _ h
  have hen : ∀ args w, (callFunc 105 args).run Tryz.prog w = .ok (.enter 105 args) w := fun _ _ => by kernel_rfl
  have H := Lib.hid h; have HLEN := Lib.hid hlen; have HR := Lib.hid hr
  clear h hlen hr
  go_enter Tryz.func118, Tryz.ntmps118
  go_wp2
  go_loopw [8] (fun v wr => ∃ k : Nat, k ≤ n ∧ v = .int .i64 (k : Int) ∧ Fr No w wr ∧ ∀ j (hj : j < k) (hl : j < l.length), (l[j].1 == N.data.toList) = false) (fun v _ => n - (intOf v).toNat)
  case atStart => exact ⟨0, by omega, rfl, Fr.refl _ _, fun j hj => by omega⟩
  case round =>
    obtain ⟨k, hk, rfl, hdr, hall⟩ := hrel
    have HALL := Lib.hid hall
    clear hall
    rcases Nat.lt_or_ge k n with hkn | hge
    · have hkl : k < l.length := by rw [HLEN.out]; exact hkn
      obtain ⟨ad, cs, rfl, ⟨X, Y, rfl, hX, hY⟩, hc⟩ := (HR.out.no attr_ok hdr).at_ attr_ok (by omega) (i := k) hkl
      have c0 := hc 0 _ rfl
      have c1 := hc 1 _ rfl
      rw [add_nx ad] at c1
      obtain ⟨P, hP⟩ : ∃ P, ad.add (k * 2) = P := ⟨_, rfl⟩
      rw [Nat.add_zero, hP] at c0
      rw [hP] at c1
      have hh := fun u (hu : Fr No w u) => k_has1 X Y N b u (hu.cell H.out (fun x => x))
      have e1 : (X.data.toList == N.data.toList) = (l[k].1 == N.data.toList) := by rw [hX]
      rw [e1] at hh
      have hkI : (k : Int) < (n : Int) := by omega
      cases hq : (l[k].1 == N.data.toList) with
      | true =>
        rw [hq] at hh
        have hany : decide (0 ≤ (k : Int)) = l.any (fun a => a.1 == N.data.toList) := by
          rw [decide_eq_true (by omega)]
          symm
          rw [List.any_eq_true]
          exact ⟨l[k], List.getElem_mem _, hq⟩
        have HH := Lib.hid hh; have HANY := Lib.hid hany
        clear hh e1 hc hX hY hq hany
        go_wp2_with (go_at_call 105; refine (HH.out _ hdr).mono ?_; rintro e w2 ⟨rfl, hf2⟩)
        go_ret
        exact ⟨_, rfl, HANY.out, by omega, by omega, hdr.trans hf2⟩
      | false =>
        rw [hq] at hh
        have HH := Lib.hid hh; have HQ := Lib.hid hq
        clear hh e1 hc hX hY hq
        go_wp2_with (go_at_call 105; refine (HH.out _ hdr).mono ?_; rintro e w2 ⟨rfl, hf2⟩)
        go_roundw
        case rel => exact ⟨k + 1, by omega, by go_num, hdr.trans hf2, fun j hj hl => by
          by_cases hjk : j = k
          · subst hjk; exact HQ.out
          · exact HALL.out j (by omega) hl⟩
        case measure => simp [intOf]; omega
    · obtain rfl : k = n := by omega
      have hany : decide (0 ≤ (-1 : Int)) = l.any (fun a => a.1 == N.data.toList) := by
        show false = _
        symm
        rw [List.any_eq_false]
        intro x hx
        obtain ⟨j, hj, rfl⟩ := List.getElem_of_mem hx
        rw [HALL.out j (by rw [← HLEN.out]; exact hj) hj]
        decide
      have HANY := Lib.hid hany
      clear hany
      go_wp2
      go_ret
      exact ⟨_, rfl, HANY.out, by omega, by omega, hdr⟩
theorem k_has (A : Option Addr) (n c : Nat) (l : List (List UInt8 × List UInt8)) (M : Nat → Prop) (N : ByteArray) (w : World) (hr : RdI 2 AttrI w M A n c l) :
    Calls Tryz.prog 85 #[.slice A n c, .string N] w fun e w' => e = .returned (.bool (l.any (fun a => a.1 == N.data.toList))) ∧ Fr No w w' := by
  have hc : ∀ b u, Fr No w u → u.cell? ⟨b, 0, none⟩ = some (.string N) → Calls Tryz.prog 104 #[.slice A n c, .func (.func 105) #[] #[.pointer (some ⟨b, 0, none⟩)]] u fun e w' => e = .returned (.bool (l.any (fun a => a.1 == N.data.toList))) ∧ Fr No u w' := by
    intro b u hu hb
    have hi := k_index A n c l M N b u (hr.no attr_ok hu) hb
    have HI := Lib.hid hi
    clear hi hb
    go_enter Tryz.func104, Tryz.ntmps104
    go_wp2_with (go_at_call 118; refine HI.out.mono ?_; rintro e w' ⟨k, rfl, hk, hk1, hk2, hf⟩)
    go_ret
    exact ⟨rfl, hf⟩
  have HC := Lib.hid hc
  clear hc
  go_enter Tryz.func85, Tryz.ntmps85
  go_wp2_with (go_at_call 104; go_loud (refine (HC.out _ _ ((Fr.refl No w).alloc _) ((Bk.new w _ _).cell 0)).mono ?_; rintro e w' ⟨rfl, hf⟩))
  go_ret
  exact ⟨rfl, ((Fr.refl No w).alloc _).trans hf⟩
end Go.Proofs.YthkjmbkfcnehoaaGreatDoor
