/- The texts RefMod4, RefTok1, RefTok2, joined. -/
import Derived.Test.YtbfodbejdaafaaaGreatDoorK23
import Derived.Test.YtbfodbejdaafaaaGreatDoorK13
import Derived.Test.YtbfodbejdaafaaaGreatDoorK03
/- The statements' own models: whether a node's kids are as its model has them. -/
namespace Go.Proofs.YtbfodbejdaafaaaGreatDoor
open Go.RowKit
set_option maxHeartbeats 1000000
set_option linter.unusedVariables false

/-- bounds that all models keep -/
def SmallC (cs : List Chd) : Prop := ∀ c ∈ cs, 0 ≤ c.mn ∧ c.mn ≤ 1000 ∧ 0 ≤ c.mx ∧ c.mx ≤ 1000
theorem small_of {nm : List UInt8} {cs : List Chd} (h : modelL nm = some cs) : SmallC cs := by
  have key : ∀ l : List Chd, l.all (fun c => decide (0 ≤ c.mn ∧ c.mn ≤ 1000 ∧ 0 ≤ c.mx ∧ c.mx ≤ 1000)) = true → SmallC l := by
    intro l h c hc
    exact of_decide_eq_true (List.all_eq_true.1 h c hc)
  rcases model_some h with rfl | rfl | rfl | rfl | rfl <;> exact key _ (by kernel_rfl)
theorem names_len (ns : List Nod) (i : Nat) : (namesK ns i).length = (kidsL ns (i : Int)).length := by unfold namesK; rw [List.length_map]
theorem kidsL_le (ns : List Nod) (i : Int) : (kidsL ns i).length ≤ ns.length := by
  unfold kidsL
  split
  · exact kidsF_len _ _ _
  · exact Nat.zero_le _
/-- the cell of one of the places, and its node -/
theorem kid_at {ns : List Nod} {i j : Nat} (hi : i < ns.length) (hj : j < (kidsL ns (i : Int)).length) : ∃ (p : Nat) (hp : p < ns.length), (kidsL ns (i : Int))[j] = p ∧ (ints (natI (kidsL ns (i : Int))))[j]? = some (.int .i64 (p : Int)) ∧ (namesK ns i)[j]? = some ns[p].name ∧ ns[p].parent = (i : Int) := by
  obtain ⟨hp, hpar⟩ := (kid_in hi).1 (List.getElem_mem hj)
  refine ⟨_, hp, rfl, ?_, ?_, hpar⟩
  · unfold ints natI
    rw [List.getElem?_map, List.getElem?_map, List.getElem?_eq_getElem hj]
    rfl
  · unfold namesK
    rw [List.getElem?_map, List.getElem?_eq_getElem hj, Option.map_some, name_at hp]
theorem r_kids_any (ns : List Nod) (cs : List Chd) (A B : Option Addr) (n c m d i : Nat) (N M : Nat → Prop) (w : World) (h : RdI 4 NodI w N A n c ns) (hc : RdI 6 ChdI w M B m d cs) (hi : i < n) (hn : n ≤ 1000000) (hm : m ≤ 1000) (hs : SmallC cs) :
    Calls Tryz.prog 24 #[.slice A n c, .int .i64 (i : Int), .slice B m d] w fun e w' => e = .returned (.bool (fillB cs (namesK ns i))) ∧ Fr No w w' := by
  have hlen := h.len nod_ok (by omega)
  have hclen := hc.len chd_ok (by omega)
  have hkd := r_Kids_any ns A n c (i : Int) N w h (by omega)
  have hle := kidsL_le ns (i : Int)
  have hnl := names_len ns i
  have HK := Lib.hid hkd; have HR := Lib.hid h; have HC := Lib.hid hc; have HS := Lib.hid hs
  clear hkd h hc hs
  go_enter Tryz.func24, Tryz.ntmps24
  go_wp2_with (go_at_call 25; refine HK.out.mono ?_; rintro e w1 ⟨v, rfl, ho1, hf1⟩; obtain ⟨K, ck, rfl, hrk, -⟩ := Rd.of_own ho1)
  generalize hq : (kidsL ns (i : Int)).length = q at *
  have HRK := Lib.hid hrk; have HR1 := Lib.hid (HR.out.no nod_ok hf1); have HC1 := Lib.hid (HC.out.no chd_ok hf1); have HF1 := Lib.hid hf1; have HQ := Lib.hid hq
  clear hrk ho1 hf1 hq HR HC HK
  go_loopw [8, 9] (fun av nv wr => ∃ a k : Nat, av = .int .i64 (a : Int) ∧ nv = .int .i64 (k : Int) ∧ a ≤ q ∧ k ≤ m ∧ Dr w1 wr ∧ fillB cs (namesK ns i) = fillB (cs.drop k) ((namesK ns i).drop a)) (fun _ nv _ => m - (intOf nv).toNat)
  case atStart => exact ⟨0, 0, rfl, rfl, Nat.zero_le _, Nat.zero_le _, Dr.refl _, rfl⟩
  case round =>
    obtain ⟨a, k, rfl, rfl, ha, hk, hd, hfill⟩ := hrel
    have HD := Lib.hid hd; have HFI := Lib.hid hfill
    clear hd hfill
    rcases Nat.lt_or_ge k m with hlt | hge
    · have hltI : (k : Int) < (m : Int) := by omega
      have hkl : k < cs.length := by omega
      go_wp2
      obtain ⟨adc, rfl, P, hP, x0, x1, x2, x3, x4, x5, -⟩ := chd_cells (HC1.out.no chd_ok HD.out.fr) hkl
      obtain ⟨cm0, cm1, cm2, cm3⟩ := HS.out _ (List.getElem_mem hkl)
      go_loopw [8, 10] (fun av mv wi => ∃ b j : Nat, av = .int .i64 (b : Int) ∧ mv = .int .i64 (j : Int) ∧ a + j = b ∧ b ≤ q ∧ Dr w1 wi ∧ ∀ t, t < j → (namesK ns i)[a + t]? = some cs[k].name) (fun _ mv _ => q - (intOf mv).toNat)
      case atStart => exact ⟨a, 0, rfl, rfl, rfl, ha, HD.out, fun _ h => by omega⟩
      case round =>
        obtain ⟨b, j, rfl, rfl, hbj, haj, hdi, hpre⟩ := hrel
        have hjb : (j : Int) ≤ 1000000 := by omega
        have HBJ := Lib.hid hbj
        clear hbj
        have HDI := Lib.hid hdi; have HP := Lib.hid hpre
        clear hdi hpre x0 x1 x2 x3 x4 x5 hP
        obtain ⟨adc', e', P', hP, x0, x1, x2, x3, x4, x5, -⟩ := chd_cells (HC1.out.no chd_ok HDI.out.fr) hkl
        injection e' with e'
        subst e'
        rcases Nat.lt_or_ge b q with hj | hj
        · have hjI : (b : Int) < (q : Int) := by omega
          obtain ⟨p, hp, hpk, hcell, hname, hpar⟩ := kid_at (ns := ns) (i := i) (by omega) (show b < (kidsL ns (i : Int)).length by rw [HQ.out]; exact hj)
          obtain ⟨adk, uk, rfl, huk, hck⟩ := (HRK.out.no HDI.out.fr).at_ hj
          rw [hcell] at huk
          injection huk with huk
          subst huk
          obtain ⟨ad, ds, rfl, ⟨X, Y, A1, n1, c1, rfl, hX, hY, hA1⟩, hcn⟩ := (HR1.out.no nod_ok HDI.out.fr).at_ nod_ok (by omega) (i := p) hp
          have y1 := hcn 1 _ rfl
          rw [add_next ad] at y1
          have hpI : (p : Int) < (n : Int) := by omega
          obtain ⟨PN, hPN⟩ : ∃ P, ad.add (p * 4) = P := ⟨_, rfl⟩
          rw [hPN] at y1
          clear hA1 hcn hY
          replace y1 : wr.cell? ⟨PN.block, PN.off + 1, none⟩ = some (.string X) := y1
          have HX := Lib.hid hX; have HNM := Lib.hid hname
          clear hX hname hcell hpk hpar
          cases hz : (X.toList == (cs[k].nm).toList) with
          | true =>
            have hnm : cs[k].name = ns[p].name := by
              rw [beq_iff_eq, s_list, s_list] at hz
              rw [← HX.out, hz]
              rfl
            have HN := Lib.hid hnm
            have hjq : j < q := by have := HBJ.out; omega
            clear hnm
            go_wp2
            go_quiet (fail)
            go_wp2
            go_roundw
            case rel => exact ⟨b + 1, j + 1, by go_num, by go_num, by have := HBJ.out; omega, by omega, HDI.out.drewN nq, fun t ht => by
              rcases Nat.lt_or_ge t j with h1 | h1
              · exact HP.out t h1
              · rw [show t = j from by omega, HBJ.out, HN.out]; exact HNM.out⟩
            case measure => simp [intOf]; omega
          | false =>
            have hnm : (namesK ns i)[b]? ≠ some cs[k].name := by
              rw [beq_eq_false_iff_ne, s_list, s_list] at hz
              rw [HNM.out, ← HX.out]
              intro e
              injection e with e
              exact hz e
            have HN := Lib.hid hnm
            clear hnm
            go_wp2
            go_quiet (fail)
            have hrun := run_at HP.out (by rw [HBJ.out]; exact HN.out)
            have HRUN := Lib.hid hrun
            clear hrun
            by_cases b1 : (j : Int) < cs[k].mn
            · have hno := fill_no HFI.out hkl HRUN.out (by omega)
              have HNO := Lib.hid hno
              clear hno
              have P5 := Lib.hid x5
              go_wp2
              go_ret
              exact ⟨ret_bool HNO.out.symm, HF1.out.dr (HDI.out.drewN nq)⟩
            · by_cases b2 : (j : Int) > cs[k].mx
              · have hno := fill_no HFI.out hkl HRUN.out (by omega)
                have HNO := Lib.hid hno
                clear hno
                go_wp2
                go_ret
                exact ⟨ret_bool HNO.out.symm, HF1.out.dr (HDI.out.drewN nq)⟩
              · have hnx := fill_next HFI.out hkl HRUN.out (by omega) (by omega)
                have HNX := Lib.hid hnx
                clear hnx
                go_wp2
                go_roundw
                case rel => exact ⟨b, k + 1, by go_num, by go_num, haj, hlt, HDI.out.drewN nq, by rw [← HBJ.out]; exact HNX.out⟩
                case measure => simp [intOf]; omega
        · have hbq : b = q := by omega
          subst hbq
          have hnm : (namesK ns i)[b]? ≠ some cs[k].name := by
            rw [List.getElem?_eq_none (by rw [names_len, HQ.out]; exact Nat.le_refl _)]
            intro e; cases e
          have HN := Lib.hid hnm
          clear hnm
          go_wp2
          go_quiet (fail)
          have hrun := run_at HP.out (by rw [HBJ.out]; exact HN.out)
          have HRUN := Lib.hid hrun
          clear hrun
          by_cases b1 : (j : Int) < cs[k].mn
          · have hno := fill_no HFI.out hkl HRUN.out (by omega)
            have HNO := Lib.hid hno
            clear hno
            have P5 := Lib.hid x5
            go_wp2
            go_ret
            exact ⟨ret_bool HNO.out.symm, HF1.out.dr (HDI.out.drewN nq)⟩
          · by_cases b2 : (j : Int) > cs[k].mx
            · have hno := fill_no HFI.out hkl HRUN.out (by omega)
              have HNO := Lib.hid hno
              clear hno
              go_wp2
              go_ret
              exact ⟨ret_bool HNO.out.symm, HF1.out.dr (HDI.out.drewN nq)⟩
            · have hnx := fill_next HFI.out hkl HRUN.out (by omega) (by omega)
              have HNX := Lib.hid hnx
              clear hnx
              go_wp2
              go_roundw
              case rel => exact ⟨b, k + 1, by go_num, by go_num, haj, hlt, HDI.out.drewN nq, by rw [← HBJ.out]; exact HNX.out⟩
              case measure => simp [intOf]; omega
    · have hke : k = m := by omega
      subst hke
      have hend := fill_end HFI.out (by omega)
      have HE := Lib.hid hend
      clear hend
      go_wp2
      go_ret
      exact ⟨ret_bool (by rw [HE.out, names_len, HQ.out, Bool.eq_iff_iff, beq_iff_eq, decide_eq_true_iff]; omega), HF1.out.dr HD.out⟩
end Go.Proofs.YtbfodbejdaafaaaGreatDoor
/- The statements' own walk over a file: tests of bytes, blanks. -/
namespace Go.Proofs.YtbfodbejdaafaaaGreatDoor
open Go.RowKit
set_option maxHeartbeats 400000
set_option linter.unusedVariables false

theorem r_blank_any (c : UInt8) (w : World) : Calls Tryz.prog 44 #[.int .u8 (c.toNat : Int)] w fun e w' => e = .returned (.bool (isBl c)) ∧ w = w' := by
  go_enter Tryz.func44, Tryz.ntmps44
  go_wp2
  all_goals
    go_ret
    refine ⟨ret_bool ?_, rfl⟩
    unfold isBl
    rw [Bool.eq_iff_iff]
    simp_all
    try omega
theorem r_first_any (c : UInt8) (w : World) : Calls Tryz.prog 70 #[.int .u8 (c.toNat : Int)] w fun e w' => e = .returned (.bool (isFi c)) ∧ w = w' := by
  go_enter Tryz.func70, Tryz.ntmps70
  go_wp2
  all_goals
    go_ret
    refine ⟨ret_bool ?_, rfl⟩
    unfold isFi
    rw [Bool.eq_iff_iff]
    simp_all
    try omega
theorem r_within_any (c : UInt8) (w : World) : Calls Tryz.prog 69 #[.int .u8 (c.toNat : Int)] w fun e w' => e = .returned (.bool (isWi c)) ∧ w = w' := by
  go_enter Tryz.func69, Tryz.ntmps69
  go_wp2_with (go_at_call 70; refine (r_first_any _ _).mono ?_; rintro e w' ⟨rfl, rfl⟩)
  all_goals
    go_ret
    refine ⟨ret_bool ?_, rfl⟩
    unfold isWi
    rw [Bool.eq_iff_iff]
    simp_all
    try omega

/-- the walk at block g: a file, and a place in it -/
structure WkT (w : World) (g : Nat) (S : ByteArray) (at_ : Nat) : Prop where
  blk : Bk w g 66 [.string S, .int .i64 (at_ : Int)]
  le : at_ ≤ S.size
  small : S.size ≤ 65536
theorem WkT.no {w w' : World} {g : Nat} {S : ByteArray} {a : Nat} (h : WkT w g S a) (hf : Fr No w w') : WkT w' g S a := ⟨h.blk.no hf, h.le, h.small⟩
theorem WkT.set {w : World} {g : Nat} {S : ByteArray} {a b : Nat} (h : WkT w g S a) (hb : b ≤ S.size) : WkT (w.setCell ⟨g, 1, none⟩ (.int .i64 (b : Int))) g S b := ⟨h.blk.set_ 1 _, hb, h.small⟩
theorem size_list (S : ByteArray) : S.data.toList.length = S.size := by simp
theorem sdrop_cons (S : ByteArray) (k : Nat) (h : k < S.size) : S.data.toList.drop k = S[k] :: S.data.toList.drop (k + 1) := by
  rw [List.drop_eq_getElem_cons (by rw [size_list]; exact h)]
  rfl
theorem ext_list (S : ByteArray) (i j : Nat) : (S.extract i j).data.toList = (S.data.toList.drop i).take (j - i) := by
  rw [ByteArray.data_extract, Array.toList_extract, List.extract_eq_take_drop]
theorem app_list (S T : ByteArray) : (S ++ T).data.toList = S.data.toList ++ T.data.toList := by
  rw [ByteArray.data_append, Array.toList_append]
theorem ba_list (S : ByteArray) : S.toList = S.data.toList := bstr_toList S.data.toList
theorem bstr_self (R : ByteArray) : bstr R.data.toList = R := rfl
theorem sz_eq {S : ByteArray} {L : List UInt8} (h : S.data.toList = L) : S.size = L.length := by rw [← h, size_list]
theorem str_empty {S : ByteArray} (h : S.data.toList = []) : S = ⟨#[]⟩ := by
  rw [← bstr_self S, h]; rfl
theorem byte_at (S : ByteArray) (i : Nat) (h : i < S.size) : S[i] = S.data.toList[i]'(by simpa using h) := rfl
theorem take_while_len (p : UInt8 → Bool) (l : List UInt8) (k : Nat) (h1 : ∀ j (hj : j < k) (hl : j < l.length), p l[j] = true) (hk : k ≤ l.length) (h2 : ∀ hl : k < l.length, p l[k] = false) : (l.takeWhile p).length = k := by
  induction k generalizing l with
  | zero =>
    cases l with
    | nil => rfl
    | cons c r => rw [List.takeWhile_cons, if_neg (by have := h2 (by simp); simpa using this)]; rfl
  | succ k ih =>
    cases l with
    | nil => simp at hk
    | cons c r =>
      have hc : p c = true := h1 0 (by omega) (by simp)
      rw [List.takeWhile_cons, if_pos hc, List.length_cons, ih r (fun j hj hl => by have h := h1 (j + 1) (by omega) (by simpa using hl); rwa [List.getElem_cons_succ] at h) (by simpa using hk) (fun hl => by have h := h2 (by simpa using hl); rwa [List.getElem_cons_succ] at h)]

theorem r_blanks_any (g : Nat) (S : ByteArray) (a : Nat) (w : World) (h : WkT w g S a) :
    Calls Tryz.prog 54 #[.pointer (some ⟨g, 0, none⟩)] w fun e w' => e = .returned (.int .i64 (((S.data.toList.drop a).takeWhile isBl).length : Int)) ∧ WkT w' g S (a + ((S.data.toList.drop a).takeWhile isBl).length) ∧ Fr (Just g) w w' := by
  go_enter Tryz.func54, Tryz.ntmps54
  go_wp2
  have H := Lib.hid h
  clear h
  go_loopw [3] (fun nv wr => ∃ k : Nat, nv = .int .i64 (k : Int) ∧ WkT wr g S (a + k) ∧ Fr (Just g) w wr ∧ ∀ j (hj : j < k) (hl : j < (S.data.toList.drop a).length), isBl (S.data.toList.drop a)[j] = true) (fun nv _ => S.size - (intOf nv).toNat)
  case atStart => exact ⟨0, rfl, H.out, Fr.refl _ _, fun j hj => by omega⟩
  case round =>
    obtain ⟨k, rfl, hw, hf, hall⟩ := hrel
    have c0 : wr.cell? ⟨g, 0, none⟩ = some (.string S) := hw.blk.cell 0
    have c1 : wr.cell? ⟨g, 1, none⟩ = some (.int .i64 ((a + k : Nat) : Int)) := hw.blk.cell 1
    have z1 := hw.blk.frozen 1
    have hle := hw.le
    have hsm := hw.small
    have hdl : (S.data.toList.drop a).length = S.size - a := by simp
    have HW := Lib.hid hw; have HALL := Lib.hid hall; have HDL := Lib.hid hdl
    clear hw hall hdl
    obtain ⟨t, ht⟩ : ∃ t, a + k = t := ⟨_, rfl⟩
    rw [ht] at c1 hle
    have HT := Lib.hid ht
    have hkb : k ≤ 65536 := by omega
    by_cases hlt : t < S.size
    · have hltI : (t : Int) < (S.size : Int) := by omega
      obtain ⟨x, hx⟩ : ∃ x, S[t] = x := ⟨_, rfl⟩
      have hxl : ∀ hl : k < (S.data.toList.drop a).length, (S.data.toList.drop a)[k] = x := fun hl => by
        rw [← hx, byte_at S t hlt, List.getElem_drop]
        simp only [ht]
      have HXL := Lib.hid hxl
      clear hxl ht
      cases hb : isBl x with
      | true =>
        have hq := fun u => r_blank_any x u
        rw [hb] at hq
        have HB := Lib.hid hb; have HQ := Lib.hid hq
        clear hb hq
        go_wp2
        go_quiet ((go_at_call 44; exact quiet_same (HQ.out _)))
        go_wp2
        go_roundw
        case rel =>
          have h1 := HT.out
          have h2 := (HW.out.no ((Fr.refl No wr).drewN nq)).set (b := t + 1) (by omega)
          refine ⟨k + 1, by go_num, ?_, (hf.drewN nq).setCell (p := ⟨g, 1, none⟩) (.inl (Just.at g)) _, fun j hj hl => ?_⟩
          · rw [show a + (k + 1) = t + 1 by omega]
            have e : ((t + 1 : Nat) : Int) = (t : Int) + 1 := by omega
            rw [e] at h2
            exact h2
          · by_cases hjk : j = k
            · subst hjk; rw [HXL.out hl]; exact HB.out
            · exact HALL.out j (by omega) hl
        case measure =>
          have := HT.out
          simp [intOf]
          omega
      | false =>
        have HB := Lib.hid hb
        clear hb
        have hlen := take_while_len isBl (S.data.toList.drop a) k HALL.out (by rw [HDL.out]; have := HT.out; omega) (fun hl => by rw [HXL.out hl]; exact HB.out)
        have HLEN := Lib.hid hlen
        have hq := fun u => r_blank_any x u
        rw [HB.out] at hq
        have HQ := Lib.hid hq
        clear hlen hq
        go_wp2
        go_quiet ((go_at_call 44; exact quiet_same (HQ.out _)))
        go_wp2
        go_ret
        rw [HLEN.out, HT.out]
        exact ⟨rfl, by have h := HW.out.no ((Fr.refl No wr).drewN nq); rwa [HT.out] at h, hf.drewN nq⟩
    · have hltI : ¬ (t : Int) < (S.size : Int) := by omega
      have hlen := take_while_len isBl (S.data.toList.drop a) k HALL.out (by rw [HDL.out]; have := HT.out; omega) (fun hl => by rw [HDL.out] at hl; have := HT.out; omega)
      have HLEN := Lib.hid hlen
      clear hlen ht
      go_wp2
      go_quiet (fail)
      go_wp2
      go_ret
      rw [HLEN.out, HT.out]
      exact ⟨rfl, by have h := HW.out.no ((Fr.refl No wr).drewN nq); rwa [HT.out] at h, hf.drewN nq⟩
end Go.Proofs.YtbfodbejdaafaaaGreatDoor
/- The statements' own walk over a file: is, name. -/
namespace Go.Proofs.YtbfodbejdaafaaaGreatDoor
open Go.RowKit
set_option maxHeartbeats 400000
set_option linter.unusedVariables false

theorem r_is_any (g : Nat) (S : ByteArray) (a : Nat) (P : ByteArray) (w : World) (h : WkT w g S a) (hP : P.size ≤ 65536) :
    Calls Tryz.prog 30 #[.pointer (some ⟨g, 0, none⟩), .string P] w fun e w' => e = .returned (.bool (isP P.data.toList (S.data.toList.drop a)).isSome) ∧ WkT w' g S (if (isP P.data.toList (S.data.toList.drop a)).isSome then a + P.size else a) ∧ Fr (Just g) w w' := by
  have c0 : w.cell? ⟨g, 0, none⟩ = some (.string S) := h.blk.cell 0
  have c1 : w.cell? ⟨g, 1, none⟩ = some (.int .i64 (a : Int)) := h.blk.cell 1
  have z1 := h.blk.frozen 1
  have hle := h.le
  have hsm := h.small
  have hdl : (S.data.toList.drop a).length = S.size - a := by simp
  have H := Lib.hid h
  clear h
  by_cases hlt : S.size < a + P.size
  · have hno : (isP P.data.toList (S.data.toList.drop a)).isSome = false := by
      cases hc : isP P.data.toList (S.data.toList.drop a) with
      | none => rfl
      | some r =>
        have h2 := (isP_len hc).2
        rw [hdl, size_list] at h2
        omega
    rw [hno]
    have hltI : (S.size : Int) < (a : Int) + (P.size : Int) := by omega
    clear hno hdl hlt
    go_enter Tryz.func30, Tryz.ntmps30
    go_wp2
    go_quiet (fail)
    go_wp2
    go_ret
    exact ⟨rfl, H.out.no ((Fr.refl No w).drewN nq), (Fr.refl _ w).drewN nq⟩
  · have hltI : ¬ (S.size : Int) < (a : Int) + (P.size : Int) := by omega
    have e1 : (a : Int) + (P.size : Int) ≤ (S.size : Int) := by omega
    have e2 : ((a : Int) + (P.size : Int)).toNat = a + P.size := by omega
    have e3 : (0 : Int) ≤ (a : Int) + (P.size : Int) := by omega
    have e5 : (a : Int) ≤ max ((a : Int) + (P.size : Int)) 0 := by omega
    have e8 : (0 : Int) ≤ (a : Int) + (P.size : Int) ∧ (a : Int) + (P.size : Int) ≤ (S.size : Int) := ⟨e3, e1⟩
    have e9 : (a : Int) ≤ (a : Int) + (P.size : Int) := by omega
    have e6 : IntKind.i64.wrap ((a : Int) + (P.size : Int)) = (a : Int) + (P.size : Int) := IntWalk.i64_in _ ⟨by omega, by omega⟩
    obtain ⟨Q, hQ⟩ : ∃ Q, S.extract a (a + P.size) = Q := ⟨_, rfl⟩
    have hQl : Q.data.toList = (S.data.toList.drop a).take P.size := by
      rw [← hQ]
      simp [List.take_drop]
    by_cases hQP : Q = P
    · have hyes : (isP P.data.toList (S.data.toList.drop a)).isSome = true := by
        unfold isP
        rw [if_pos, Option.isSome_some]
        rw [List.isPrefixOf_iff_prefix, ← hQP, hQl]
        exact List.take_prefix _ _
      rw [hyes]
      have HY := Lib.hid hyes
      have hQ2 : S.extract a (a + P.size) = P := hQ.trans hQP
      clear hyes hQl hdl hlt hQ hQP
      go_enter Tryz.func30, Tryz.ntmps30
      go_wp2
      go_quiet (fail)
      go_wp2
      go_ret
      have h2 := (H.out.no ((Fr.refl No w).drewN nq)).set (b := a + P.size) (by omega)
      exact ⟨rfl, by simpa using h2, ((Fr.refl _ w).drewN nq).setCell (p := ⟨g, 1, none⟩) (.inl (Just.at g)) _⟩
    · have hno : (isP P.data.toList (S.data.toList.drop a)).isSome = false := by
        cases hc : isP P.data.toList (S.data.toList.drop a) with
        | none => rfl
        | some r =>
          exfalso
          apply hQP
          have h1 := (isP_len hc).1
          have h2 : Q.data.toList = P.data.toList := by
            rw [hQl, h1, List.take_left' (size_list P)]
          have h3 : Q.data = P.data := Array.ext' h2
          cases Q; cases P; simp_all
      have hne : ¬ Q.toList = P.toList := by
        rw [ByteArray.toList_eq, ByteArray.toList_eq]
        intro e
        apply hQP
        have h3 : Q.data = P.data := Array.ext' e
        cases Q; cases P; simp_all
      have hneb : (Q.toList == P.toList) = false := by rw [beq_eq_false_iff_ne]; exact hne
      rw [hno]
      clear hno hQl hdl hlt hQP
      go_enter Tryz.func30, Tryz.ntmps30
      go_wp2
      go_quiet (fail)
      go_wp2
      go_ret
      exact ⟨rfl, H.out.no ((Fr.refl No w).drewN nq), (Fr.refl _ w).drewN nq⟩
end Go.Proofs.YtbfodbejdaafaaaGreatDoor
