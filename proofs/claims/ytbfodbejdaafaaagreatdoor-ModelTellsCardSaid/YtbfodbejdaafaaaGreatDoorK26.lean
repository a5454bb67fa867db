/- The texts RefTok7, RefBlank, joined. -/
import Derived.Test.YtbfodbejdaafaaaGreatDoorK25
import Derived.Test.YtbfodbejdaafaaaGreatDoorK08
import Derived.Test.YtbfodbejdaafaaaGreatDoorK14
import Derived.Test.YtbfodbejdaafaaaGreatDoorK24
/- The statements' own tokens: what stands between & and ; . -/
namespace Go.Proofs.YtbfodbejdaafaaaGreatDoor
open Go.RowKit
set_option maxHeartbeats 1000000
set_option linter.unusedVariables false

def nmL (k : Nat) : List UInt8 := [[108, 116], [103, 116], [97, 109, 112], [113, 117, 111, 116], [97, 112, 111, 115]].getD k []
/-- the number of a character -/
def entN (s : List UInt8) : Option Nat := if 2 < s.length ∧ s.take 2 = [35, 120] then chrV (s.drop 2) 16 6 else if 1 < s.length ∧ s.getD 0 0 = 35 then chrV (s.drop 1) 10 7 else none
theorem entV_num {s : List UInt8} (h : ∀ j, j < 5 → s ≠ nmL j) : entV s = match entN s with | none => none | some v => if charB v then some (encL (v : Int)) else none := by
  unfold entV
  have h0 : s ≠ [108, 116] := h 0 (by omega)
  have h1 : s ≠ [103, 116] := h 1 (by omega)
  have h2 : s ≠ [97, 109, 112] := h 2 (by omega)
  have h3 : s ≠ [113, 117, 111, 116] := h 3 (by omega)
  have h4 : s ≠ [97, 112, 111, 115] := h 4 (by omega)
  rw [if_neg h0, if_neg h1, if_neg h2, if_neg h3, if_neg h4]
  rfl
theorem entV_none {s : List UInt8} (h : ∀ j, j < 5 → s ≠ nmL j) (hE : entN s = none) : (entV s).getD [] = [] := by
  have h1 := entV_num h
  rw [hE] at h1
  simp only at h1
  rw [h1]
  rfl
theorem entV_bad {s : List UInt8} {v : Nat} (h : ∀ j, j < 5 → s ≠ nmL j) (hE : entN s = some v) (hc : charB v = false) : (entV s).getD [] = [] := by
  have h1 := entV_num h
  rw [hE] at h1
  simp only [hc] at h1
  rw [h1]
  rfl
theorem entV_char {s : List UInt8} {v : Nat} (h : ∀ j, j < 5 → s ≠ nmL j) (hE : entN s = some v) (hc : charB v = true) : (entV s).getD [] = encL (v : Int) := by
  have h1 := entV_num h
  rw [hE] at h1
  simp only [hc, if_true] at h1
  rw [h1, Option.getD_some]
theorem ext_drop (S : ByteArray) (k : Nat) : (S.extract k S.size).data.toList = S.data.toList.drop k := by
  rw [ByteArray.data_extract, Array.toList_extract, List.extract_eq_take_drop]
  exact List.take_of_length_le (by rw [List.length_drop, size_list]; exact Nat.le_refl _)
theorem getD_zero (l : List UInt8) (h : 0 < l.length) : l.getD 0 0 = l[0] := by
  cases l with
  | nil => simp at h
  | cons a r => rfl
theorem r_entity_any (S : ByteArray) (w : World) (hs : S.size ≤ 65536) :
    Calls Tryz.prog 77 #[.string S] w fun e w' => ∃ R : ByteArray, e = .returned (.string R) ∧ R.data.toList = (entV S.data.toList).getD [] ∧ Fr No w w' := by
  have hbl := ba_list S
  have hsl := size_list S
  have HBL := Lib.hid hbl
  have HSL := Lib.hid hsl
  clear hbl hsl
  go_enter Tryz.func77, Tryz.ntmps77
  go_wp2
  generalize hw1 : World.alloc _ _ = w1
  have hf1 : Fr No w w1 := by rw [← hw1]; exact ((Fr.refl No w).alloc _).alloc _
  have hn : Bk w1 w.heap.size 9 [.string ⟨#[108, 116]⟩, .string ⟨#[103, 116]⟩, .string ⟨#[97, 109, 112]⟩, .string ⟨#[113, 117, 111, 116]⟩, .string ⟨#[97, 112, 111, 115]⟩] := by rw [← hw1]; exact (Bk.new w _ _).no ((Fr.refl No _).alloc _)
  have hg : Bk w1 (w.heap.size + 1) 9 [.string ⟨#[60]⟩, .string ⟨#[62]⟩, .string ⟨#[38]⟩, .string ⟨#[34]⟩, .string ⟨#[39]⟩] := by
    rw [← hw1]
    have h := Bk.new (w.alloc (.cells #[.string ⟨#[108, 116]⟩, .string ⟨#[103, 116]⟩, .string ⟨#[97, 109, 112]⟩, .string ⟨#[113, 117, 111, 116]⟩, .string ⟨#[97, 112, 111, 115]⟩] 9)) 9 #[.string ⟨#[60]⟩, .string ⟨#[62]⟩, .string ⟨#[38]⟩, .string ⟨#[34]⟩, .string ⟨#[39]⟩]
    simpa using h
  have c0 := hn.cell 0; have c1 := hn.cell 1; have c2 := hn.cell 2; have c3 := hn.cell 3; have c4 := hn.cell 4
  have d0 := hg.cell 0; have d1 := hg.cell 1; have d2 := hg.cell 2; have d3 := hg.cell 3; have d4 := hg.cell 4
  simp only [List.getElem?_cons_zero, List.getElem?_cons_succ] at c0 c1 c2 c3 c4 d0 d1 d2 d3 d4
  have hf := Lib.hid hf1
  clear hw1 hf1 hn hg
  go_loop [5] (fun i => ∃ k : Nat, k ≤ 5 ∧ i = .int .i64 (k : Int) ∧ ∀ j, j < k → S.data.toList ≠ nmL j) (fun i => 5 - (intOf i).toNat)
  case atStart => exact ⟨0, by omega, rfl, fun j hj => by omega⟩
  case round =>
    obtain ⟨k, hk, rfl, hne⟩ := hrel
    have HNE := Lib.hid hne
    clear hne
    rcases (show k = 0 ∨ k = 1 ∨ k = 2 ∨ k = 3 ∨ k = 4 ∨ k = 5 by omega) with rfl | rfl | rfl | rfl | rfl | rfl
    · by_cases hq : S.data.toList = [108, 116]
      · have hcmp : ([108, 116] == S.toList) = true := by rw [HBL.out, hq]; exact beq_self_eq_true _
        have hr : (entV S.data.toList).getD [] = [60] := by rw [hq]; rfl
        have HR := Lib.hid hr
        clear hq hr
        go_wp2
        go_ret
        exact ⟨⟨#[60]⟩, rfl, by rw [HR.out], hf.out⟩
      · have hcmp : ([108, 116] == S.toList) = false := by rw [HBL.out, beq_eq_false_iff_ne]; exact fun e => hq e.symm
        have HQ := Lib.hid hq
        clear hq
        go_wp2
        go_round
        case rel => exact ⟨1, by omega, rfl, fun j hj => by
          by_cases hjk : j = 0
          · subst hjk; exact HQ.out
          · exact HNE.out j (by omega)⟩
        case measure => simp [intOf]
    · by_cases hq : S.data.toList = [103, 116]
      · have hcmp : ([103, 116] == S.toList) = true := by rw [HBL.out, hq]; exact beq_self_eq_true _
        have hr : (entV S.data.toList).getD [] = [62] := by rw [hq]; rfl
        have HR := Lib.hid hr
        clear hq hr
        go_wp2
        go_ret
        exact ⟨⟨#[62]⟩, rfl, by rw [HR.out], hf.out⟩
      · have hcmp : ([103, 116] == S.toList) = false := by rw [HBL.out, beq_eq_false_iff_ne]; exact fun e => hq e.symm
        have HQ := Lib.hid hq
        clear hq
        go_wp2
        go_round
        case rel => exact ⟨2, by omega, rfl, fun j hj => by
          by_cases hjk : j = 1
          · subst hjk; exact HQ.out
          · exact HNE.out j (by omega)⟩
        case measure => simp [intOf]
    · by_cases hq : S.data.toList = [97, 109, 112]
      · have hcmp : ([97, 109, 112] == S.toList) = true := by rw [HBL.out, hq]; exact beq_self_eq_true _
        have hr : (entV S.data.toList).getD [] = [38] := by rw [hq]; rfl
        have HR := Lib.hid hr
        clear hq hr
        go_wp2
        go_ret
        exact ⟨⟨#[38]⟩, rfl, by rw [HR.out], hf.out⟩
      · have hcmp : ([97, 109, 112] == S.toList) = false := by rw [HBL.out, beq_eq_false_iff_ne]; exact fun e => hq e.symm
        have HQ := Lib.hid hq
        clear hq
        go_wp2
        go_round
        case rel => exact ⟨3, by omega, rfl, fun j hj => by
          by_cases hjk : j = 2
          · subst hjk; exact HQ.out
          · exact HNE.out j (by omega)⟩
        case measure => simp [intOf]
    · by_cases hq : S.data.toList = [113, 117, 111, 116]
      · have hcmp : ([113, 117, 111, 116] == S.toList) = true := by rw [HBL.out, hq]; exact beq_self_eq_true _
        have hr : (entV S.data.toList).getD [] = [34] := by rw [hq]; rfl
        have HR := Lib.hid hr
        clear hq hr
        go_wp2
        go_ret
        exact ⟨⟨#[34]⟩, rfl, by rw [HR.out], hf.out⟩
      · have hcmp : ([113, 117, 111, 116] == S.toList) = false := by rw [HBL.out, beq_eq_false_iff_ne]; exact fun e => hq e.symm
        have HQ := Lib.hid hq
        clear hq
        go_wp2
        go_round
        case rel => exact ⟨4, by omega, rfl, fun j hj => by
          by_cases hjk : j = 3
          · subst hjk; exact HQ.out
          · exact HNE.out j (by omega)⟩
        case measure => simp [intOf]
    · by_cases hq : S.data.toList = [97, 112, 111, 115]
      · have hcmp : ([97, 112, 111, 115] == S.toList) = true := by rw [HBL.out, hq]; exact beq_self_eq_true _
        have hr : (entV S.data.toList).getD [] = [39] := by rw [hq]; rfl
        have HR := Lib.hid hr
        clear hq hr
        go_wp2
        go_ret
        exact ⟨⟨#[39]⟩, rfl, by rw [HR.out], hf.out⟩
      · have hcmp : ([97, 112, 111, 115] == S.toList) = false := by rw [HBL.out, beq_eq_false_iff_ne]; exact fun e => hq e.symm
        have HQ := Lib.hid hq
        clear hq
        go_wp2
        go_round
        case rel => exact ⟨5, by omega, rfl, fun j hj => by
          by_cases hjk : j = 4
          · subst hjk; exact HQ.out
          · exact HNE.out j (by omega)⟩
        case measure => simp [intOf]
    · clear c0 c1 c2 c3 c4 d0 d1 d2 d3 d4
      by_cases hA : 2 < S.data.toList.length ∧ S.data.toList.take 2 = [35, 120]
      · have hN : entN S.data.toList = chrV (S.data.toList.drop 2) 16 6 := by unfold entN; rw [if_pos hA]
        have h2 : (2 : Int) < (S.size : Int) := by have := hA.1; rw [HSL.out] at this; omega
        obtain ⟨T, hT⟩ : ∃ T, S.extract 0 2 = T := ⟨_, rfl⟩
        have hcmp : (T.toList == [35, 120]) = true := by
          rw [← hT, ba_list, beq_iff_eq]
          simpa using hA.2
        obtain ⟨U, hU⟩ : ∃ U, S.extract 2 S.size = U := ⟨_, rfl⟩
        have hUl : U.data.toList = S.data.toList.drop 2 := by rw [← hU]; exact ext_drop S _
        have hnum := fun u => r_numeral_any U 16 6 u (.inr rfl) (by omega)
        have hans : chrR U.data.toList 16 6 = match entN S.data.toList with | none => -1 | some v => (v : Int) := by rw [hN, hUl]; rfl
        rw [hans] at hnum
        have HNUM := Lib.hid hnum
        clear hnum hans hUl hA hN
        obtain hE | ⟨v, hE⟩ : entN S.data.toList = none ∨ ∃ v, entN S.data.toList = some v := by cases entN S.data.toList <;> simp
        · have HNUM2 := HNUM.out
          rw [hE] at HNUM2
          have hr : (entV S.data.toList).getD [] = [] := entV_none HNE.out hE
          have HN2 := Lib.hid HNUM2; have HR := Lib.hid hr
          clear HNUM2 hr hE HNUM
          go_wp2_with (go_at_call 93; refine (HN2.out _).mono ?_; rintro e w' ⟨rfl, rfl⟩)
          go_ret
          exact ⟨⟨#[]⟩, rfl, by rw [HR.out], hf.out⟩
        · have HNUM2 := HNUM.out
          rw [hE] at HNUM2
          have hch := fun u => ref_char_any v u
          cases hc : charB v with
          | false =>
            have hr : (entV S.data.toList).getD [] = [] := entV_bad HNE.out hE hc
            rw [hc] at hch
            have HN2 := Lib.hid HNUM2; have HR := Lib.hid hr; have HCH := Lib.hid hch
            clear HNUM2 hr hE HNUM hch hc
            go_wp2_with (first
              | (go_at_call 93; refine (HN2.out _).mono ?_; rintro e w' ⟨rfl, rfl⟩)
              | (go_at_call 92; refine (HCH.out _).mono ?_; rintro e w' ⟨rfl, rfl⟩))
            go_ret
            exact ⟨⟨#[]⟩, rfl, by rw [HR.out], hf.out⟩
          | true =>
            have hv : v ≤ 1114111 := by unfold charB at hc; simp at hc; omega
            have hr : (entV S.data.toList).getD [] = encL (v : Int) := entV_char HNE.out hE hc
            rw [hc] at hch
            have hut := fun u => r_utf_any v u hv
            have HN2 := Lib.hid HNUM2; have HR := Lib.hid hr; have HCH := Lib.hid hch; have HUT := Lib.hid hut
            clear HNUM2 hr hE HNUM hch hc hut
            go_wp2_with (first
              | (go_at_call 93; refine (HN2.out _).mono ?_; rintro e w' ⟨rfl, rfl⟩)
              | (go_at_call 92; refine (HCH.out _).mono ?_; rintro e w' ⟨rfl, rfl⟩)
              | (go_at_call 94; refine (HUT.out _).mono ?_; rintro e w2 ⟨R, rfl, hR, hf2⟩))
            go_ret
            exact ⟨R, rfl, by rw [HR.out, hR], hf.out.trans hf2⟩
      · obtain ⟨T, hT⟩ : ∃ T, S.extract 0 2 = T := ⟨_, rfl⟩
        have hTl : T.toList = S.data.toList.take 2 := by
          rw [← hT, ba_list]
          simp
        by_cases hB : 1 < S.data.toList.length ∧ S.data.toList.getD 0 0 = 35
        · have hN : entN S.data.toList = chrV (S.data.toList.drop 1) 10 7 := by unfold entN; rw [if_neg hA, if_pos hB]
          have h1 : (1 : Int) < (S.size : Int) := by have := hB.1; rw [HSL.out] at this; omega
          have h1n : 0 < S.size := by omega
          obtain ⟨x, hx⟩ : ∃ x, S[0] = x := ⟨_, rfl⟩
          have hx35 : (x.toNat : Int) = 35 := by
            have h := hB.2
            rw [getD_zero _ (by rw [HSL.out]; exact h1n)] at h
            rw [← hx, byte_at S 0 h1n, h]
            rfl
          have hcases : (S.size : Int) ≤ 2 ∨ (2 < (S.size : Int) ∧ (T.toList == [35, 120]) = false) := by
            by_cases h2 : 2 < S.size
            · refine .inr ⟨by omega, ?_⟩
              rw [beq_eq_false_iff_ne, hTl]
              exact fun e => hA ⟨by rw [HSL.out]; exact h2, e⟩
            · exact .inl (by omega)
          clear hTl
          obtain ⟨U, hU⟩ : ∃ U, S.extract 1 S.size = U := ⟨_, rfl⟩
          have hUl : U.data.toList = S.data.toList.drop 1 := by rw [← hU]; exact ext_drop S _
          have hnum := fun u => r_numeral_any U 10 7 u (.inl rfl) (by omega)
          have hans : chrR U.data.toList 10 7 = match entN S.data.toList with | none => -1 | some v => (v : Int) := by rw [hN, hUl]; rfl
          rw [hans] at hnum
          have HNUM := Lib.hid hnum
          clear hnum hans hUl hA hB hN
          rcases hcases with h2 | ⟨h2, hcmp⟩
          all_goals
            obtain hE | ⟨v, hE⟩ : entN S.data.toList = none ∨ ∃ v, entN S.data.toList = some v := by cases entN S.data.toList <;> simp
            · have HNUM2 := HNUM.out
              rw [hE] at HNUM2
              have hr : (entV S.data.toList).getD [] = [] := entV_none HNE.out hE
              have HN2 := Lib.hid HNUM2; have HR := Lib.hid hr
              clear HNUM2 hr hE HNUM
              go_wp2_with (go_at_call 93; refine (HN2.out _).mono ?_; rintro e w' ⟨rfl, rfl⟩)
              go_ret
              exact ⟨⟨#[]⟩, rfl, by rw [HR.out], hf.out⟩
            · have HNUM2 := HNUM.out
              rw [hE] at HNUM2
              have hch := fun u => ref_char_any v u
              cases hc : charB v with
              | false =>
                have hr : (entV S.data.toList).getD [] = [] := entV_bad HNE.out hE hc
                rw [hc] at hch
                have HN2 := Lib.hid HNUM2; have HR := Lib.hid hr; have HCH := Lib.hid hch
                clear HNUM2 hr hE HNUM hch hc
                go_wp2_with (first
                  | (go_at_call 93; refine (HN2.out _).mono ?_; rintro e w' ⟨rfl, rfl⟩)
                  | (go_at_call 92; refine (HCH.out _).mono ?_; rintro e w' ⟨rfl, rfl⟩))
                go_ret
                exact ⟨⟨#[]⟩, rfl, by rw [HR.out], hf.out⟩
              | true =>
                have hv : v ≤ 1114111 := by unfold charB at hc; simp at hc; omega
                have hr : (entV S.data.toList).getD [] = encL (v : Int) := entV_char HNE.out hE hc
                rw [hc] at hch
                have hut := fun u => r_utf_any v u hv
                have HN2 := Lib.hid HNUM2; have HR := Lib.hid hr; have HCH := Lib.hid hch; have HUT := Lib.hid hut
                clear HNUM2 hr hE HNUM hch hc hut
                go_wp2_with (first
                  | (go_at_call 93; refine (HN2.out _).mono ?_; rintro e w' ⟨rfl, rfl⟩)
                  | (go_at_call 92; refine (HCH.out _).mono ?_; rintro e w' ⟨rfl, rfl⟩)
                  | (go_at_call 94; refine (HUT.out _).mono ?_; rintro e w2 ⟨R, rfl, hR, hf2⟩))
                go_ret
                exact ⟨R, rfl, by rw [HR.out, hR], hf.out.trans hf2⟩
        · have hN : entN S.data.toList = none := by unfold entN; rw [if_neg hA, if_neg hB]
          have hr : (entV S.data.toList).getD [] = [] := entV_none HNE.out hN
          have HR := Lib.hid hr
          have hcases : (S.size : Int) ≤ 1 ∨ ∃ h : 0 < S.size, (S.size : Int) = 2 ∧ ((S[0].toNat : Int) == 35) = false ∨ (2 < (S.size : Int) ∧ (T.toList == [35, 120]) = false ∧ ((S[0].toNat : Int) == 35) = false) := by
            by_cases h1 : 1 < S.size
            · have h0 : 0 < S.size := by omega
              have hne : ((S[0].toNat : Int) == 35) = false := by
                rw [beq_eq_false_iff_ne]
                intro e
                refine hB ⟨by rw [HSL.out]; exact h1, ?_⟩
                rw [getD_zero _ (by rw [HSL.out]; exact h0), ← byte_at S 0 h0]
                apply UInt8.toNat_inj.1
                have : (35 : UInt8).toNat = 35 := rfl
                omega
              refine .inr ⟨h0, ?_⟩
              by_cases h2 : 2 < S.size
              · refine .inr ⟨by omega, ?_, hne⟩
                rw [beq_eq_false_iff_ne, hTl]
                exact fun e => hA ⟨by rw [HSL.out]; exact h2, e⟩
              · exact .inl ⟨by omega, hne⟩
            · exact .inl (by omega)
          clear hTl hr hN hA hB
          rcases hcases with h1 | ⟨h0, ⟨h2, hne⟩ | ⟨h2, hcmp, hne⟩⟩
          · go_wp2
            go_ret
            exact ⟨⟨#[]⟩, rfl, by rw [HR.out], hf.out⟩
          all_goals
            obtain ⟨x, hx⟩ : ∃ x, S[0] = x := ⟨_, rfl⟩
            rw [hx] at hne
            go_wp2
            go_ret
            exact ⟨⟨#[]⟩, rfl, by rw [HR.out], hf.out⟩
end Go.Proofs.YtbfodbejdaafaaaGreatDoor
/- The statements' own Blank: is a text of blanks alone? A contract, for every text. -/
namespace Go.Proofs.YtbfodbejdaafaaaGreatDoor
open Go.RowKit
set_option maxHeartbeats 400000
set_option linter.unusedVariables false

/-- of blanks alone -/
theorem r_Blank_any (S : ByteArray) (w : World) (hs : S.size ≤ 9223372036854775806) : Calls Tryz.prog 23 #[.string S] w fun e w' => e = .returned (.bool (blankB S.data.toList)) ∧ w = w' := by
  go_enter Tryz.func23, Tryz.ntmps23
  go_wp2
  go_loop [3] (fun v => ∃ k : Nat, k ≤ S.size ∧ v = .int .i64 (k : Int) ∧ (S.data.toList.take k).all isBl = true) (fun v => S.size - (intOf v).toNat)
  case atStart => exact ⟨0, Nat.zero_le _, rfl, rfl⟩
  case round =>
    obtain ⟨k, hk, rfl, hall⟩ := hrel
    rcases Nat.lt_or_ge k S.size with hlt | hge
    · have hltI : (k : Int) < (S.size : Int) := by omega
      obtain ⟨x, hx⟩ : ∃ x, S[k] = x := ⟨_, rfl⟩
      have hlk : k < S.data.toList.length := by rw [size_list]; exact hlt
      have hst : S.data.toList.take (k + 1) = S.data.toList.take k ++ [x] := by rw [List.take_succ_eq_append_getElem hlk, ← byte_at S k hlt, hx]
      have HST := Lib.hid hst; have HALL := Lib.hid hall
      clear hst hall
      cases hb : isBl x with
      | true =>
        have hq := fun u => r_blank_any x u
        rw [hb] at hq
        have HQ := Lib.hid hq; have HB := Lib.hid hb
        clear hq hb
        go_wp2_with (go_at_call 44; refine (HQ.out _).mono ?_; rintro e w2 ⟨rfl, rfl⟩)
        go_round
        case rel => exact ⟨k + 1, by omega, by go_num, by rw [HST.out, List.all_append, HALL.out, List.all_cons, HB.out]; rfl⟩
        case measure => simp [intOf]; omega
      | false =>
        have hq := fun u => r_blank_any x u
        rw [hb] at hq
        have HQ := Lib.hid hq; have HB := Lib.hid hb
        have hno : blankB S.data.toList = false := by
          have h : S.data.toList = S.data.toList.take (k + 1) ++ S.data.toList.drop (k + 1) := (List.take_append_drop _ _).symm
          unfold blankB
          rw [h, HST.out, List.all_append, List.all_append, List.all_cons, hb]
          simp
        have HN := Lib.hid hno
        clear hq hb hno
        go_wp2_with (go_at_call 44; refine (HQ.out _).mono ?_; rintro e w2 ⟨rfl, rfl⟩)
        go_ret
        exact ⟨ret_bool HN.out.symm, rfl⟩
    · have hkn : k = S.size := by omega
      subst hkn
      have hyes : blankB S.data.toList = true := by
        rw [List.take_of_length_le (by rw [size_list]; exact Nat.le_refl _)] at hall
        exact hall
      have HY := Lib.hid hyes
      clear hyes hall
      go_wp2
      go_ret
      exact ⟨ret_bool HY.out.symm, rfl⟩
end Go.Proofs.YtbfodbejdaafaaaGreatDoor
