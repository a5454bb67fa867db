/- The statements' own attributes that may be. -/
import Derived.Test.YtlnjpocidfgloaaDoorRefCan1
import Derived.Test.YtlnjpocidfgloaaDoorCanNams
import Derived.Test.YtlnjpocidfgloaaDoorRefTok
import Derived.Test.YtlnjpocidfgloaaDoorRefTxts
namespace Go.Proofs.YtlnjpocidfgloaaDoor
open Go.RowKit
set_option maxHeartbeats 400000
set_option linter.unusedVariables false

abbrev Ats := List (List UInt8 × List UInt8)
theorem names_at (a : Ats) (i : Nat) (h : i < a.length) : (a.map (·.1))[i]'(by simpa using h) = a[i].1 := by simp
theorem unlike_clash {a : Ats} {i k : Nat} (hi : i < a.length) (hk : k < i) (h : a[k].1 = a[i].1) : unlikeB a = false := by
  unfold unlikeB
  rw [decide_eq_false_iff_not]
  intro hd
  have h2 := List.pairwise_iff_getElem.1 hd k i (by simp; omega) (by simpa using hi) hk
  rw [List.getElem_map, List.getElem_map] at h2
  exact h2 h
theorem unlike_all {a : Ats} (h : ∀ i k, (hi : i < a.length) → (hk : k < i) → a[k].1 ≠ a[i].1) : unlikeB a = true := by
  unfold unlikeB
  rw [decide_eq_true_iff]
  refine List.pairwise_iff_getElem.2 ?_
  intro k i hk hi hlt
  rw [List.getElem_map, List.getElem_map]
  exact h i k (by simpa using hi) hlt
theorem r_attrs_any (a : Ats) (A : Option Addr) (n c : Nat) (N : Nat → Prop) (w : World) (h : RdI 2 AttrI w N A n c a) (hs : ∀ x ∈ a, AttrS x) (hn : n ≤ 1000000000) :
    Calls Tryd.prog 22 #[.slice A n c] w fun e w' => e = .returned (.bool (attrsB a)) ∧ Fr No w w' := by
  have hlen := h.len attr_ok (by omega)
  have HR := Lib.hid h; have HS := Lib.hid hs
  clear h hs
  go_enter Tryd.func22, Tryd.ntmps22
  go_wp2
  go_loopw [3, 4] (fun iv kv wr => ∃ i : Nat, iv = .int .i64 (i : Int) ∧ i ≤ n ∧ Fr No w wr ∧ (a.take i).all attrB = true ∧ ∀ i' k, (hi : i' < a.length) → (hk : k < i') → i' < i → a[k].1 ≠ a[i'].1) (fun iv _ _ => n - (intOf iv).toNat)
  case atStart => exact ⟨0, rfl, Nat.zero_le _, Fr.refl _ _, rfl, fun _ _ _ _ h => by omega⟩
  case round =>
    obtain ⟨i, rfl, hi, hfr, hall, hne⟩ := hrel
    rcases Nat.lt_or_ge i n with hlt | hge
    · have hltI : (i : Int) < (n : Int) := by omega
      have hil : i < a.length := by omega
      obtain ⟨ad, cs, rfl, ⟨X, Y, rfl, hX, hY⟩, hc⟩ := (HR.out.no attr_ok hfr).at_ attr_ok (by omega) (i := i) hil
      have x0 := hc 0 _ rfl
      have x1 := hc 1 _ rfl
      rw [add_next ad] at x1
      obtain ⟨P, hP⟩ : ∃ P, ad.add (i * 2) = P := ⟨_, rfl⟩
      rw [Nat.add_zero, hP] at x0
      rw [hP] at x1
      obtain ⟨s1, s2⟩ := HS.out _ (List.getElem_mem hil)
      have hfr0 := hfr
      have HFR := Lib.hid hfr; have HNE := Lib.hid hne; have HALL := Lib.hid hall; have HX := Lib.hid hX; have HY := Lib.hid hY
      clear hfr hne hall hc hX hY
      go_wp2
      go_loopw [4] (fun kv wi => ∃ k : Nat, kv = .int .i64 (k : Int) ∧ k ≤ i ∧ Fr No w wi ∧ ∀ k', (hk : k' < k) → (h2 : k' < a.length) → a[k'].1 ≠ a[i].1) (fun kv _ => i - (intOf kv).toNat)
      case atStart => exact ⟨0, rfl, Nat.zero_le _, HFR.out, fun _ h => by omega⟩
      case round =>
        obtain ⟨k, rfl, hk, hfi, hin⟩ := hrel
        clear x0 x1 hfr0
        obtain ⟨ad2, cs2, e2, ⟨X2, Y2, rfl, hX2, hY2⟩, hc2⟩ := (HR.out.no attr_ok hfi).at_ attr_ok (by omega) (i := i) hil
        injection e2 with e2
        subst e2
        have x0 := hc2 0 _ rfl
        have x1 := hc2 1 _ rfl
        rw [add_next ad] at x1
        rw [Nat.add_zero, hP] at x0
        rw [hP] at x1
        replace x1 : wr.cell? ⟨P.block, P.off + 1, none⟩ = some (.string Y2) := x1
        rcases Nat.lt_or_ge k i with hki | hki
        · have hkiI : (k : Int) < (i : Int) := by omega
          have hkn : (k : Int) < (n : Int) := by omega
          have hkl : k < a.length := by omega
          obtain ⟨ad3, cs3, e3, ⟨X3, Y3, rfl, hX3, hY3⟩, hc3⟩ := (HR.out.no attr_ok hfi).at_ attr_ok (by omega) (i := k) hkl
          injection e3 with e3
          subst e3
          have z0 := hc3 0 _ rfl
          obtain ⟨P3, hP3⟩ : ∃ P3, ad.add (k * 2) = P3 := ⟨_, rfl⟩
          rw [Nat.add_zero, hP3] at z0
          by_cases hcl : a[k].1 = a[i].1
          · have hb : (X3.toList == X2.toList) = true := by rw [beq_iff_eq, ba_list, ba_list, hX3, hX2]; exact hcl
            have hat : attrsB a = false := by unfold attrsB; rw [unlike_clash hil hki hcl, Bool.and_false]
            have HAT := Lib.hid hat; have HFI := Lib.hid hfi
            clear hin hc2 hc3 hX2 hY2 hX3 hY3 hcl hat hfi
            go_wp2
            go_quiet (fail)
            go_wp2
            go_ret
            exact ⟨ret_bool HAT.out.symm, HFI.out.drewN _⟩
          · have hb : (X3.toList == X2.toList) = false := by rw [beq_eq_false_iff_ne, ba_list, ba_list, hX3, hX2]; exact hcl
            have hin2 : ∀ k', (hk : k' < k + 1) → (h2 : k' < a.length) → a[k'].1 ≠ a[i].1 := by
              intro k' hk' h2
              by_cases e : k' = k
              · subst e; exact hcl
              · exact hin k' (by omega) h2
            have HIN := Lib.hid hin2; have HFI := Lib.hid hfi
            clear hin hc2 hc3 hX2 hY2 hX3 hY3 hcl hin2 hfi
            go_wp2
            go_quiet (fail)
            go_wp2
            go_roundw
            case rel => exact ⟨k + 1, by go_num, hki, HFI.out.drewN _, HIN.out⟩
            case measure => simp [intOf]; omega
        · have hke : k = i := by omega
          subst hke
          have hne2 : ∀ i' k', (hi : i' < a.length) → (hk : k' < i') → i' < k + 1 → a[k'].1 ≠ a[i'].1 := by
            intro i' k' hi' hk' h3
            by_cases e : i' = k
            · subst e; exact hin k' hk' (by omega)
            · exact HNE.out i' k' hi' hk' (by omega)
          have hnm := fun u => r_Name_any X2 u (by rw [← size_list, hX2]; exact s1)
          have hut := fun u => ref_utf8_any Y2 u (by rw [← size_list, hY2]; omega)
          have htk := all_take attrB a k hil
          rw [HALL.out, Bool.true_and] at htk
          have haf := all_at_false (p := attrB) hil
          have hav : attrB a[k] = (nameOk X2.data.toList && utf8B Y2.data.toList) := by rw [hX2, hY2]; rfl
          rw [hav] at htk haf
          have hff : a.all attrB = false → attrsB a = false := fun h => by unfold attrsB; rw [h, Bool.false_and]
          generalize nameOk X2.data.toList = q1 at *
          generalize utf8B Y2.data.toList = q2 at *
          have HN := Lib.hid hnm; have HU := Lib.hid hut; have HTK := Lib.hid htk; have HAF := Lib.hid haf; have HFI := Lib.hid hfi; have HNE2 := Lib.hid hne2; have HFF := Lib.hid hff
          clear hnm hut htk haf hfi hne2 hff hav hin hc2 hX2 hY2
          cases q1 with
          | false =>
            go_wp2_with (go_at_call 20; refine (HN.out _).mono ?_; rintro e w2 ⟨rfl, hd2⟩)
            go_ret
            exact ⟨ret_bool (HFF.out (HAF.out rfl)).symm, HFI.out.dr hd2⟩
          | true =>
            cases q2 with
            | false =>
              go_wp2_with (first
                | (go_at_call 20; refine (HN.out _).mono ?_; rintro e w2 ⟨rfl, hd2⟩; have x1' : w2.cell? ⟨P.block, P.off + 1, none⟩ = some (.string Y2) := (hd2.cell _).trans x1)
                | (go_at_call 21; refine (HU.out _).mono ?_; rintro e w3 ⟨rfl, rfl⟩))
              go_ret
              exact ⟨ret_bool (HFF.out (HAF.out rfl)).symm, HFI.out.dr hd2⟩
            | true =>
              go_wp2_with (first
                | (go_at_call 20; refine (HN.out _).mono ?_; rintro e w2 ⟨rfl, hd2⟩; have x1' : w2.cell? ⟨P.block, P.off + 1, none⟩ = some (.string Y2) := (hd2.cell _).trans x1)
                | (go_at_call 21; refine (HU.out _).mono ?_; rintro e w3 ⟨rfl, rfl⟩))
              go_roundw
              case rel => exact ⟨k + 1, by go_num, hlt, HFI.out.dr hd2, HTK.out, HNE2.out⟩
              case measure => simp [intOf]; omega
    · have hie : i = n := by omega
      subst hie
      have hun : unlikeB a = true := unlike_all (fun i' k hi' hk => hne i' k hi' hk (by omega))
      have hat : attrsB a = true := by
        unfold attrsB
        rw [List.take_of_length_le (by omega)] at hall
        rw [hun, hall]
        rfl
      have HFR := Lib.hid hfr; have HAT := Lib.hid hat
      clear hfr hall hne hun hat
      go_wp2
      go_ret
      exact ⟨ret_bool HAT.out.symm, HFR.out⟩
end Go.Proofs.YtlnjpocidfgloaaDoor
