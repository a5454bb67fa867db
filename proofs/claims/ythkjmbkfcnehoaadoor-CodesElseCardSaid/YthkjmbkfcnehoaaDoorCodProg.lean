/- What package codes does: contracts of its calls. -/
import Derived.Test.YthkjmbkfcnehoaaDoorCodFirst
namespace Go.Proofs.YthkjmbkfcnehoaaDoor
open Go.RowKit
set_option maxHeartbeats 400000
set_option linter.unusedVariables false

def pAct (S : ByteArray) (k : Nat) : Bool := (eRow k).action.toList == S.toList
def pWrd (S T : ByteArray) (k : Nat) : Bool := (eRow k).status.toList == S.toList && (eRow k).reason.toList == T.toList
theorem cod_num_of (S : ByteArray) (k : Nat) (w : World) (hk : k < 22) : Calls Tryd.prog 19 #[.string S, (eRow k).val] w fun e w' => e = .returned (.bool (pAct S k)) ∧ Fr No w w' := by
  have hp : pAct S k = ((eRow k).action.toList == S.toList) := rfl
  obtain ⟨⟨ra, rs, rr⟩, hr⟩ : ∃ r, eRow k = r := ⟨_, rfl⟩
  rw [hr] at hp ⊢
  rw [hp]
  unfold ERow.val
  have hfa := Lib.hid ((Fr.refl No w).alloc (.cells #[.string ra, .string rs, .string rr] 37))
  clear hp hr
  go_enter Tryd.func19, Tryd.ntmps19
  go_wp2
  go_ret
  exact ⟨rfl, hfa.out⟩
theorem cod_num_tests (S : ByteArray) : CodTests 19 (.string S) (pAct S) := ⟨fun _ _ => by kernel_rfl, fun k w hk => cod_num_of S k w hk⟩
theorem cod_wrd_of (S T : ByteArray) (k : Nat) (w : World) (hk : k < 22) : Calls Tryd.prog 21 #[.agg #[.string S, .string T], (eRow k).val] w fun e w' => e = .returned (.bool (pWrd S T k)) ∧ Fr No w w' := by
  have hp : pWrd S T k = ((eRow k).status.toList == S.toList && (eRow k).reason.toList == T.toList) := rfl
  obtain ⟨⟨ra, rs, rr⟩, hr⟩ : ∃ r, eRow k = r := ⟨_, rfl⟩
  rw [hr] at hp ⊢
  rw [hp]
  unfold ERow.val
  have hfa := Lib.hid (((Fr.refl No w).alloc (.cells #[.string S, .string T] 43)).alloc (.cells #[.string ra, .string rs, .string rr] 37))
  clear hp hr
  go_enter Tryd.func21, Tryd.ntmps21
  cases h1 : (rs.toList == S.toList) <;> cases h2 : (rr.toList == T.toList)
  all_goals
    go_wp2
    go_ret
    exact ⟨rfl, hfa.out⟩
theorem cod_wrd_tests (S T : ByteArray) : CodTests 21 (.agg #[.string S, .string T]) (pWrd S T) := ⟨fun _ _ => by kernel_rfl, fun k w hk => cod_wrd_of S T k w hk⟩
theorem bstr_beq (l : List UInt8) (S : ByteArray) : ((bstr l).toList == S.toList) = (l == S.data.toList) := by rw [bstr_toList, s_list]
theorem act_first (S : ByteArray) : (eFirst (pAct S)).1.status = wS S ∧ (eFirst (pAct S)).1.reason = wR S ∧ (eFirst (pAct S)).2 = wK S := by
  rw [eFirst_of (pAct S) (fun r => r.1 == S.data.toList) (fun k hk => by unfold pAct; rw [eRow_at hk]; exact bstr_beq _ _)]
  exact ⟨rfl, rfl, rfl⟩
theorem wrd_first (S T : ByteArray) : (eFirst (pWrd S T)).1.action = aA S T ∧ (eFirst (pWrd S T)).2 = aK S T := by
  rw [eFirst_of (pWrd S T) (fun r => r.2.1 == S.data.toList && r.2.2 == T.data.toList) (fun k hk => by unfold pWrd; rw [eRow_at hk]; dsimp only; rw [bstr_beq, bstr_beq])]
  exact ⟨rfl, rfl⟩
theorem cod_yes (ra rs rr : ByteArray) (w : World) : Calls Tryd.prog 22 #[.agg #[.string ra, .string rs, .string rr]] w fun e w' => e = .returned (.bool (rs.toList == [65, 80, 80, 82] || rs.toList == [80, 65, 82, 84])) ∧ Fr No w w' := by
  have hfa := Lib.hid ((Fr.refl No w).alloc (.cells #[.string ra, .string rs, .string rr] 37))
  have e1 : ∀ l : List UInt8, (⟨l.toArray⟩ : ByteArray).toList = l := fun l => bstr_toList l
  have g1 := e1 [65, 80, 80, 82]
  have g2 := e1 [80, 65, 82, 84]
  clear e1
  go_enter Tryd.func22, Tryd.ntmps22
  cases h1 : (rs.toList == [65, 80, 80, 82]) <;> cases h2 : (rs.toList == [80, 65, 82, 84])
  all_goals
    go_wp2
    go_ret
    exact ⟨rfl, hfa.out⟩
theorem codes_words_any (S : ByteArray) (w : World) (hT : Tabs w := by repeat' first | with_reducible assumption | with_reducible apply Tabs.drew | with_reducible apply Tabs.drewN | with_reducible apply Tabs.alloc | refine Tabs.fr ?_ (by with_reducible assumption)) : Calls Tryd.prog 6 #[.string S] w fun e w' => e = .returned (.tuple #[.string (wS S), .string (wR S), .bool (wK S)]) ∧ Fr No w w' := by
  have hf := cod_first _ _ _ (cod_num_tests S) w
  obtain ⟨h1, h2, h3⟩ := act_first S
  obtain ⟨⟨⟨ra, rs, rr⟩, ok⟩, hr⟩ : ∃ r, eFirst (pAct S) = r := ⟨_, rfl⟩
  rw [hr] at hf h1 h2 h3
  dsimp only at h1 h2 h3
  rw [← h1, ← h2, ← h3]
  unfold ERow.val at hf
  have HF := Lib.hid hf
  clear hf h1 h2 h3 hr
  go_enter Tryd.func6, Tryd.ntmps6
  go_wp2_with (go_at_call 18; refine HF.out.mono ?_; rintro e w1 ⟨rfl, f1⟩; have B1 := Bk.new w1 37 #[.string ra, .string rs, .string rr]; have c1 := B1.cell 1; have c2 := B1.cell 2; clear B1)
  go_quiet (fail)
  go_wp2
  go_ret3
  exact ⟨rfl, (f1.alloc _).drewN _⟩
theorem codes_action_any (S T : ByteArray) (w : World) (hT : Tabs w := by repeat' first | with_reducible assumption | with_reducible apply Tabs.drew | with_reducible apply Tabs.drewN | with_reducible apply Tabs.alloc | refine Tabs.fr ?_ (by with_reducible assumption)) : Calls Tryd.prog 8 #[.string S, .string T] w fun e w' => e = .returned (.tuple #[.string (aA S T), .bool (aK S T)]) ∧ Fr No w w' := by
  have hf := cod_first _ _ _ (cod_wrd_tests S T) w
  obtain ⟨h1, h3⟩ := wrd_first S T
  obtain ⟨⟨⟨ra, rs, rr⟩, ok⟩, hr⟩ : ∃ r, eFirst (pWrd S T) = r := ⟨_, rfl⟩
  rw [hr] at hf h1 h3
  dsimp only at h1 h3
  rw [← h1, ← h3]
  unfold ERow.val at hf
  have HF := Lib.hid hf
  clear hf h1 h3 hr
  go_enter Tryd.func8, Tryd.ntmps8
  go_wp2_with (go_at_call 18; refine HF.out.mono ?_; rintro e w1 ⟨rfl, f1⟩)
  go_ret2
  exact ⟨rfl, f1.alloc _⟩
theorem codes_known_any (S : ByteArray) (w : World) (hT : Tabs w := by repeat' first | with_reducible assumption | with_reducible apply Tabs.drew | with_reducible apply Tabs.drewN | with_reducible apply Tabs.alloc | refine Tabs.fr ?_ (by with_reducible assumption)) : Calls Tryd.prog 11 #[.string S] w fun e w' => e = .returned (.bool (wK S)) ∧ Fr No w w' := by
  have hf := cod_first _ _ _ (cod_num_tests S) w
  obtain ⟨h1, h2, h3⟩ := act_first S
  obtain ⟨⟨⟨ra, rs, rr⟩, ok⟩, hr⟩ : ∃ r, eFirst (pAct S) = r := ⟨_, rfl⟩
  rw [hr] at hf h3
  dsimp only at h3
  rw [← h3]
  unfold ERow.val at hf
  have HF := Lib.hid hf
  clear hf h1 h2 h3 hr
  go_enter Tryd.func11, Tryd.ntmps11
  go_wp2_with (go_at_call 18; refine HF.out.mono ?_; rintro e w1 ⟨rfl, f1⟩)
  go_ret
  exact ⟨rfl, f1.alloc _⟩
theorem codes_yes_any (S : ByteArray) (w : World) (hT : Tabs w := by repeat' first | with_reducible assumption | with_reducible apply Tabs.drew | with_reducible apply Tabs.drewN | with_reducible apply Tabs.alloc | refine Tabs.fr ?_ (by with_reducible assumption)) : Calls Tryd.prog 13 #[.string S] w fun e w' => e = .returned (.bool (yB S)) ∧ Fr No w w' := by
  have hf := cod_first _ _ _ (cod_num_tests S) w
  obtain ⟨h1, h2, h3⟩ := act_first S
  have hy : yB S = ((eFirst (pAct S)).2 && ((eFirst (pAct S)).1.status.toList == [65, 80, 80, 82] || (eFirst (pAct S)).1.status.toList == [80, 65, 82, 84])) := by
    rw [h1, h3]
    unfold yB wK wS
    rw [bstr_toList]
    cases wordsR S.data.toList <;> rfl
  obtain ⟨⟨⟨ra, rs, rr⟩, ok⟩, hr⟩ : ∃ r, eFirst (pAct S) = r := ⟨_, rfl⟩
  rw [hr] at hf hy
  dsimp only at hy
  rw [hy]
  unfold ERow.val at hf
  have HF := Lib.hid hf; have HY := Lib.hid (fun u => cod_yes ra rs rr u)
  clear hf h1 h2 h3 hr hy
  have hb1 : ∀ u : World, (u.alloc (.cells #[.string ra, .string rs, .string rr] 37)).cell? ⟨u.heap.size, 0, none⟩ = some (.string ra) := fun u => (Bk.new u _ _).cell 0
  go_enter Tryd.func13, Tryd.ntmps13
  generalize (rs.toList == [65, 80, 80, 82] || rs.toList == [80, 65, 82, 84]) = y at HY ⊢
  cases ok
  · go_wp2_with (go_at_call 18; refine HF.out.mono ?_; rintro e w1 ⟨rfl, f1⟩)
    go_ret
    exact ⟨rfl, f1.alloc _⟩
  · go_wp2_with (first
      | (go_at_call 18; refine HF.out.mono ?_; rintro e w1 ⟨rfl, f1⟩)
      | (go_at_call 22; refine (HY.out _).mono ?_; rintro e w2 ⟨rfl, f2⟩))
    go_ret
    exact ⟨rfl, (f1.alloc _).trans f2⟩
set_option maxRecDepth 20000 in
theorem codes_all_any (w : World) (hT : Tabs w := by repeat' first | with_reducible assumption | with_reducible apply Tabs.drew | with_reducible apply Tabs.drewN | with_reducible apply Tabs.alloc | refine Tabs.fr ?_ (by with_reducible assumption)) : Calls Tryd.prog 16 #[] w fun e w' => ∃ v, e = .returned v ∧ w'.ownsRow w.heap.size 9 1 v 22 (strs actsL) ∧ Fr No w w' := by
  have hTw : Tabs w := hT
  have HRG := Lib.hid hTw
  clear hT hTw
  obtain ⟨i, hi, hz, h1, h2⟩ := info_parts info_str
  have hib : i.bytes * 22 ≤ 281474976710656 := by rw [h2]; decide
  obtain ⟨B, hB⟩ : ∃ B, w.heap.size = B := ⟨_, rfl⟩
  have HB := Lib.hid hB
  rw [hB]
  clear hB
  go_enter Tryd.func16, Tryd.ntmps16
  go_wp2_with (first
    | (refine wpList_make_bk w rfl _ _ 29 rfl 9 i (.string ⟨#[]⟩) Tryd.underlying29 hi hz h1 (by rfl) .i64 .i64 0 22 0 22 rfl rfl rfl rfl (by decide) hib (by decide) ?_; intro w1 hbk hf1 hs1; have HRR := Lib.hid (HRG.out.fr hf1).ct)
    | (refine wpList_load_mid rfl 46 _ rfl 0 0 rfl codV _ HRR.out (Tryd.underlying46) rfl cod_size ?_; clear HRR))
  have hown0 := hbk.own (base := B) (n := 0) (cap := 22) (by rw [HB.out]; exact Nat.le_refl _) (by decide) (by decide) (by simp)
  have HOWN0 := Lib.hid hown0; have HF := Lib.hid hf1
  clear hown0 hbk
  go_loopw [1, 6] (fun lv v wr => ∃ k : Nat, k ≤ 22 ∧ v = .int .i64 (k : Int) ∧ wr.ownsRow B 9 1 lv k (strs (actsL.take k)) ∧ Fr No w wr) (fun _ v _ => 22 - (intOf v).toNat)
  case atStart => exact ⟨0, by omega, rfl, by have h := HOWN0.out; rw [HB.out] at h ⊢; simpa [strs] using h, HF.out⟩
  case round =>
    obtain ⟨k, hk, rfl, hown, hfr⟩ := hrel
    have hBs : B ≤ wr.heap.size := by rw [← HB.out]; exact hfr.size
    rcases Nat.lt_or_ge k 22 with hkn | hge
    · have hix := cod_index k hkn
      rw [eRow_at hkn] at hix
      unfold ERow.val at hix
      dsimp only at hix
      obtain ⟨X, hX⟩ : ∃ X, bstr (cRow k).1 = X := ⟨_, rfl⟩
      obtain ⟨Y, hY⟩ : ∃ X, bstr (cRow k).2.1 = X := ⟨_, rfl⟩
      obtain ⟨Z, hZ⟩ : ∃ X, bstr (cRow k).2.2 = X := ⟨_, rfl⟩
      rw [hX, hY, hZ] at hix
      have hnx := acts_take k hkn X (by rw [← hX]; rfl)
      have hlt := hown.lt
      have HOWN := Lib.hid (hown.alloc (.cells #[.string X, .string Y, .string Z] 37)); have HNX := Lib.hid hnx; have HFR := Lib.hid hfr; have HLT := Lib.hid hlt
      have hrd : ∀ t : TypeId, Rd ((wr.alloc (.cells #[.string X, .string Y, .string Z] 37)).alloc (.cells #[.string X] t)) (some ⟨wr.heap.size + 1, 0, none⟩) 1 1 (strs [X]) := fun t => by
        have h := Rd.oneS (w := wr.alloc (.cells #[.string X, .string Y, .string Z] 37)) X t
        rw [show (wr.alloc (.cells #[.string X, .string Y, .string Z] 37)).heap.size = wr.heap.size + 1 by simp] at h
        exact h
      have HRD := Lib.hid hrd
      clear hnx hown hfr hlt hX hY hZ hrd
      go_wp2_with (at_builtin; go_must (refine apS _ rfl (.tmp 9) (.tmp 12) rfl B u1 k (actsL.take k) rfl (HOWN.out.alloc _) _ 1 1 [X] rfl (HRD.out _) (by omega) (by simp; omega) ?_); intro v' w' ho' hg' hr')
      go_roundw
      case rel => exact ⟨k + 1, by omega, by go_num, by rw [HNX.out]; exact ho', ((HFR.out.alloc _).alloc _).grown hg' (fun g e => .inr (by rw [HB.out]; exact (HLT.out g e).1))⟩
      case measure => simp [intOf]; omega
    · obtain rfl : k = 22 := by omega
      have HOWN := Lib.hid hown
      clear hown
      go_wp2
      go_ret
      refine ⟨_, rfl, ?_, hfr⟩
      have := HOWN.out
      rw [List.take_of_length_le (by rw [actsL_len]; exact Nat.le_refl _)] at this
      exact this
end Go.Proofs.YthkjmbkfcnehoaaDoor
