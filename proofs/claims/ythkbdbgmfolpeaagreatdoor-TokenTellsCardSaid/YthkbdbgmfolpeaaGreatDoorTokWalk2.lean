/- What package token does: as many signs as stand a test; a mark; names and blanks. -/
import Derived.Test.YthkbdbgmfolpeaaGreatDoorTokWalk
import Derived.LoopTactic
namespace Go.Proofs.YthkbdbgmfolpeaaGreatDoor
open Go.RowKit
set_option maxHeartbeats 400000
set_option linter.unusedVariables false

/-- how much is left -/
def leftOf (w : World) (g : Nat) : Nat := match w.cell? ⟨g, 0, none⟩ with
  | some (.string S) => S.size
  | _ => 0
theorem Wk.left {w : World} {g : Nat} {L : List UInt8} (h : Wk w g L) : leftOf w g = L.length := by
  obtain ⟨S, hb, hS, _⟩ := h
  unfold leftOf
  rw [show w.cell? ⟨g, 0, none⟩ = some (.string S) from hb.cell 0]
  exact sz_eq hS
theorem drop_one (T : ByteArray) (x : UInt8) (R : List UInt8) (h : T.data.toList = x :: R) : (T.extract 1 T.size).data.toList = R := by
  rw [ext_list, h]
  simp only [List.drop_succ_cons, List.drop_zero]
  rw [List.take_of_length_le]
  rw [sz_eq h]
  simp
theorem take_pre (S : ByteArray) (A R : List UInt8) (h : S.data.toList = A ++ R) : (S.extract 0 A.length).data.toList = A := by
  rw [ext_list, h]
  simp

theorem w_while (f : FuncId) (p : UInt8 → Bool) (ht : Tests f p) (g : Nat) (L : List UInt8) (w : World) (h : Wk w g L) :
    Calls Tryz.prog 41 #[.pointer (some ⟨g, 0, none⟩), .func (.func f) #[] #[]] w fun e w' => ∃ R : ByteArray, e = .returned (.string R) ∧ R.data.toList = L.takeWhile p ∧ Wk w' g (L.dropWhile p) ∧ Fr (Just g) w w' := by
  have h0 := h
  obtain ⟨S, hb, hS, hsz⟩ := h
  have c0 : w.cell? ⟨g, 0, none⟩ = some (.string S) := hb.cell 0
  have H := Lib.hid h0; have HS := Lib.hid hS
  clear h0 hb hS
  go_enter Tryz.func41, Tryz.ntmps41
  go_wp2
  go_loopw [] (fun wr => ∃ A R : List UInt8, L = A ++ R ∧ (∀ x ∈ A, p x = true) ∧ Wk wr g R ∧ Fr (Just g) w wr) (fun wr => leftOf wr g)
  case atStart => exact ⟨[], L, rfl, (fun x hx => by cases hx), H.out, Fr.refl _ _⟩
  case round =>
    obtain ⟨A, R, hL, hA, hW, hF⟩ := hrel
    have hlf := hW.left
    obtain ⟨T, hbT, hT, hszT⟩ := id hW
    have c1 : wr.cell? ⟨g, 0, none⟩ = some (.string T) := hbT.cell 0
    have z1 := hbT.frozen 0
    have hsum : S.size = A.length + T.size := by rw [sz_eq HS.out, sz_eq hT, hL, List.length_append]
    have hbg := fun u hu => w_begins f p ht g R u hu
    cases hb : bgB p R with
    | true =>
      cases R with
      | nil => cases hb
      | cons x R =>
        have h1 : 1 ≤ T.size := by rw [sz_eq hT]; simp
        have hd1 := drop_one T x R hT
        obtain ⟨T2, hT2⟩ : ∃ T2, T.extract 1 T.size = T2 := ⟨_, rfl⟩
        rw [hT2] at hd1
        have e1 : (0 : Int) ≤ 1 ∧ (1 : Int) ≤ (T.size : Int) := by omega
        have e2 : (1 : Int) ≤ (T.size : Int) := by omega
        have hd1s : T2.size ≤ 65536 := by have := sz_eq hd1; have := sz_eq hT; simp at this; omega
        rw [hb] at hbg
        have HW := Lib.hid hW; have HBG := Lib.hid hbg; have HF := Lib.hid hF; have HL := Lib.hid hL; have HA := Lib.hid hA; have HD := Lib.hid hd1; have HX := Lib.hid (show p x = true from hb); have HLF := Lib.hid hlf; have HBT := Lib.hid hbT; have HT := Lib.hid hT; have HDS := Lib.hid hd1s
        clear hW hbg hF hL hA hd1 hb hlf hbT hT hsum hd1s
        go_wp2_with (go_at_call 36; refine (HBG.out _ HW.out).mono ?_; rintro e w' ⟨rfl, rfl⟩)
        have hset := HBT.out.set_ 0 (.string T2)
        have hw2 : Wk (wr.setCell ⟨g, 0, none⟩ (.string T2)) g R := ⟨T2, hset, HD.out, HDS.out⟩
        go_roundw
        case rel => exact ⟨A ++ [x], R, by rw [HL.out]; simp, fun y hy => (List.mem_append.1 hy).elim (HA.out y) (fun hy => by rw [List.mem_singleton.1 hy]; exact HX.out), hw2, HF.out.setCell (p := ⟨g, 0, none⟩) (.inl (Just.at g)) _⟩
        case measure => rw [hw2.left, HLF.out]; simp
    | false =>
      have htw := tw_app (b := R) hA (fun x r e => by rw [e] at hb; exact hb)
      rw [← hL] at htw
      have e3 : (S.size : Int) - (T.size : Int) = (A.length : Int) := by omega
      have e4 : (0 : Int) ≤ (A.length : Int) ∧ (A.length : Int) ≤ (S.size : Int) := by omega
      have e5 : (A.length : Int) ≤ (S.size : Int) := by omega
      have hpre := take_pre S A R (by rw [HS.out, hL])
      obtain ⟨S2, hS2⟩ : ∃ S2, S.extract 0 A.length = S2 := ⟨_, rfl⟩
      rw [hS2] at hpre
      rw [hb] at hbg
      have hres : S2.data.toList = L.takeWhile p ∧ Wk wr g (L.dropWhile p) := ⟨by rw [hpre, htw.1], by rw [htw.2]; exact hW⟩
      have HBG := Lib.hid hbg; have HW := Lib.hid hW; have HF := Lib.hid hF; have HRES := Lib.hid hres
      clear hbg hW hF hres hpre htw hL hA hb hlf hbT hT hsum
      go_wp2_with (go_at_call 36; refine (HBG.out _ HW.out).mono ?_; rintro e w' ⟨rfl, rfl⟩)
      go_ret
      exact ⟨S2, rfl, HRES.out.1, HRES.out.2, HF.out⟩

theorem w_pass (M : ByteArray) (g : Nat) (L : List UInt8) (w : World) (h : Wk w g L) :
    Calls Tryz.prog 20 #[.pointer (some ⟨g, 0, none⟩), .string M] w fun e w' => e = .returned (.bool (isP M.data.toList L).isSome) ∧ Wk w' g ((isP M.data.toList L).getD L) ∧ Fr (Just g) w w' := by
  obtain ⟨S, hb, hS, hsz⟩ := h
  have c0 : w.cell? ⟨g, 0, none⟩ = some (.string S) := hb.cell 0
  have z0 := hb.frozen 0
  have hc := fun u => Tryz.strings_CutPrefix S M u
  have e1 : Lib.hasPrefix S.data.toList M.data.toList = (isP M.data.toList L).isSome := by
    rw [hS]; unfold Lib.hasPrefix isP; cases M.data.toList.isPrefixOf L <;> rfl
  have e2 : Lib.trimPrefix S.data.toList M.data.toList = (isP M.data.toList L).getD L := by
    rw [hS]; unfold Lib.trimPrefix Lib.hasPrefix isP; split <;> rfl
  rw [e1, e2] at hc
  have hln : ((isP M.data.toList L).getD L).length ≤ 65536 := by
    have := sz_eq hS
    cases hp : isP M.data.toList L with
    | none => rw [Option.getD_none]; omega
    | some r => have := (isP_len hp).2; rw [Option.getD_some]; omega
  generalize (isP M.data.toList L).isSome = q at hc ⊢
  generalize (isP M.data.toList L).getD L = R at hc hln ⊢
  obtain ⟨T, hT⟩ : ∃ T : ByteArray, T = ⟨R.toArray⟩ := ⟨_, rfl⟩
  have hT2 : T.data.toList = R := by rw [hT]
  rw [← hT] at hc
  have hts : T.size ≤ 65536 := by rw [sz_eq hT2]; exact hln
  have HC := Lib.hid hc; have HB := Lib.hid hb; have HT := Lib.hid hT2; have HTS := Lib.hid hts
  clear hc hb hT hT2 e1 e2 hS hts hln
  go_enter Tryz.func20, Tryz.ntmps20
  go_wp2_with (go_at_call 33; refine (HC.out _).mono ?_; rintro e w' ⟨rfl, rfl⟩)
  go_ret
  exact ⟨rfl, ⟨T, HB.out.set_ 0 (.string T), HT.out, HTS.out⟩, (Fr.refl _ _).setCell (p := ⟨g, 0, none⟩) (.inl (Just.at g)) _⟩

theorem w_blanks (g : Nat) (L : List UInt8) (w : World) (h : Wk w g L) :
    Calls Tryz.prog 35 #[.pointer (some ⟨g, 0, none⟩)] w fun e w' => e = .returned (.bool (bgB isBl L)) ∧ Wk w' g (L.dropWhile isBl) ∧ Fr (Just g) w w' := by
  have hw := w_while _ _ tests_kblank g L w h
  have HW := Lib.hid hw
  clear hw h
  go_enter Tryz.func35, Tryz.ntmps35
  cases hb : bgB isBl L with
  | true =>
    have hne := (bg_ne (p := isBl) (l := L)).2 hb
    go_wp2_with (go_at_call 41; refine HW.out.mono ?_; rintro e w' ⟨R, rfl, hR, hw', hf⟩; have hRe : (R.toList == []) = false := by rw [ba_list, hR, beq_eq_false_iff_ne]; exact hne)
    go_ret
    exact ⟨rfl, hw', hf⟩
  | false =>
    have hne := (drop_none hb).2
    go_wp2_with (go_at_call 41; refine HW.out.mono ?_; rintro e w' ⟨R, rfl, hR, hw', hf⟩; have hRe : (R.toList == []) = true := by rw [ba_list, hR, hne]; rfl)
    go_ret
    exact ⟨rfl, hw', hf⟩

theorem w_name (g : Nat) (L : List UInt8) (w : World) (h : Wk w g L) :
    Calls Tryz.prog 34 #[.pointer (some ⟨g, 0, none⟩)] w fun e w' => ∃ R : ByteArray, e = .returned (.string R) ∧ R.data.toList = nameR L ∧ Wk w' g (if bgB isFi L then L.dropWhile isWi else L) ∧ Fr (Just g) w w' := by
  have hw := fun u hu => w_while _ _ tests_kbehind g L u hu
  have hbg := w_begins _ _ tests_kfirst g L w h
  rw [nameR_bg]
  have H := Lib.hid h
  clear h
  cases hb : bgB isFi L with
  | true =>
    rw [if_pos rfl, if_pos rfl]
    rw [hb] at hbg
    clear hb
    go_enter Tryz.func34, Tryz.ntmps34
    have HW := Lib.hid hw; have HBG := Lib.hid hbg
    clear hw hbg
    go_wp2_with (first
      | (go_at_call 36; refine HBG.out.mono ?_; rintro e w' ⟨rfl, rfl⟩)
      | (go_at_call 41; refine (HW.out _ H.out).mono ?_; rintro e w' ⟨R, rfl, hR, hw', hf⟩))
    go_ret
    exact ⟨R, rfl, hR, hw', hf⟩
  | false =>
    rw [if_neg (by decide), if_neg (by decide)]
    rw [hb] at hbg
    clear hb
    have HBG := Lib.hid hbg
    clear hw hbg
    go_enter Tryz.func34, Tryz.ntmps34
    go_wp2_with (go_at_call 36; refine HBG.out.mono ?_; rintro e w' ⟨rfl, rfl⟩)
    go_ret
    exact ⟨⟨#[]⟩, rfl, rfl, H.out, Fr.refl _ _⟩
end Go.Proofs.YthkbdbgmfolpeaaGreatDoor
