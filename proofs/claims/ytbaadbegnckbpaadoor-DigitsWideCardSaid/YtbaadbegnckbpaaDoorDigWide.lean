/- DigitsWide: a number fits in as many digits as it has, and in more, with noughts ahead, and in no fewer: the walk, for every number and width. -/
import Derived.Test.YtbaadbegnckbpaaDoorDigAwake
import Derived.Test.YtbaadbegnckbpaaDoorDigText
namespace Go.Proofs.YtbaadbegnckbpaaDoor
open Go.RowKit
set_option maxHeartbeats 400000
set_option linter.unusedVariables false

theorem bstr_get (l : List UInt8) (k : Nat) (x : UInt8) (hx : l[k]? = some x) (h : k < (bstr l).size) : (bstr l)[k] = x := by
  have h2 : (bstr l).data.toList[k]? = some x := by rw [bstr_data]; exact hx
  rw [List.getElem?_eq_getElem (by simpa using h)] at h2
  injection h2
theorem wide_get (v m k : Nat) (h : k < m) : (wide v m)[k]? = some 48 := by
  unfold wide
  rw [List.getElem?_append_left (by simpa using h)]
  simp [h]
theorem wide_drop (v m : Nat) : (wide v m).drop m = Lib.decDigits v := by
  unfold wide
  rw [List.drop_left' (by simp)]

set_option maxHeartbeats 1000000 in
theorem wide_walk {v : Nat} {z : Int} (w : World) (htab : Tab w) (hv : v < 18446744073709551616) (hz : (Lit.int .i64 z).wf = true) :
    Calls Tryd.prog 5 #[.int .u64 (v : Int), .int .i64 z] w fun e w' => e = .returned (.bool true) ∧ Fr No w w' := by
  obtain ⟨q, hq, hq1⟩ := rem_nat z 20 (by omega)
  have hl := decDigits_len v hv
  have hd := fun w => digits_any v w hv
  have ht := fun w h => text_any v (1 + (q : Int)) w hv h
  have HV := Lib.hid hv
  have hsz : (bstr (Lib.decDigits v)).size = (Lib.decDigits v).length := bstr_size _
  clear hv
  have hcs : 1 + (q : Int) < ((Lib.decDigits v).length : Int) ∨ ∃ m : Nat, 1 + (q : Int) = ((Lib.decDigits v).length : Int) + (m : Int) ∧ textE v (1 + (q : Int)) = 0 ∧ textR v (1 + (q : Int)) = wide v m := by
    rcases text_cases v (1 + (q : Int)) with ⟨h, _⟩ | ⟨h, _⟩ | ⟨_, _, h, _⟩ | ⟨m, h, _, _, e1, e2⟩
    · omega
    · omega
    · exact .inl h
    · exact .inr ⟨m, h, e1, e2⟩
  rcases hcs with h | ⟨m, hm, e1, e2⟩
  · have e1 : textE v (1 + (q : Int)) = 4 := by unfold textE; rw [if_neg (by omega), if_pos h]
    have e2 : textR v (1 + (q : Int)) = [] := by unfold textR; rw [e1]; rfl
    rw [e1, e2] at ht
    have he : bstr [] = { data := #[] } := rfl
    rw [he] at ht
    generalize bstr (Lib.decDigits v) = P at hd hsz
    rw [← hsz] at h hl
    have HD := Lib.hid hd
    have HT := Lib.hid ht
    clear e1 e2 hd ht he hsz
    go_enter Tryd.func5, Tryd.ntmps5
    go_wp2_with (first
      | (go_at_call 22; refine (HD.out _).mono ?_; rintro e w1 ⟨rfl, hf1⟩)
      | (go_at_call 9; refine (HT.out _ (tab_no htab hf1)).mono ?_; rintro e w2 ⟨rfl, hf2⟩)
      | (go_at_call 6; refine (awake_any _).mono ?_; rintro e w3 ⟨rfl, hf3⟩))
    go_ret
    exact ⟨rfl, (hf1.trans hf2).trans hf3⟩
  · rw [e1, e2] at ht
    have hTz : (bstr (wide v m)).size = m + (Lib.decDigits v).length := by rw [bstr_size, wide_length]
    have hTg : ∀ k (h : k < (bstr (wide v m)).size), k < m → (bstr (wide v m))[k] = 48 := fun k h hk => bstr_get _ k 48 (wide_get v m k hk) h
    have hTd : (bstr (wide v m)).extract m (bstr (wide v m)).size = bstr (Lib.decDigits v) := by rw [bstr_cut, bstr_data, wide_drop]
    generalize bstr (wide v m) = T at ht hTz hTg hTd
    generalize bstr (Lib.decDigits v) = P at hd hsz hTd
    rw [← hsz] at hm hl hTz
    have hTi : (T.size : Int) = 1 + (q : Int) := by omega
    have hPi : (P.size : Int) ≤ 1 + (q : Int) := by omega
    have HD := Lib.hid hd
    have HT := Lib.hid ht
    have HG := Lib.hid hTg
    have HE := Lib.hid hTd
    have HI := Lib.hid hTi
    have HM := Lib.hid hm
    have hq20 : q < 20 := by omega
    have hm20 : m < 21 := by omega
    clear e1 e2 hd ht hsz hTg hTd hTi hm
    go_enter Tryd.func5, Tryd.ntmps5
    go_wp2_with (first
      | (go_at_call 22; refine (HD.out _).mono ?_; rintro e w1 ⟨rfl, hf1⟩)
      | (go_at_call 9; refine (HT.out _ (tab_no htab hf1)).mono ?_; rintro e w2 ⟨rfl, hf2⟩))
    go_loop [8] (fun i => ∃ k : Nat, k ≤ m ∧ i = .int .i64 (k : Int)) (fun i => m - (intOf i).toNat)
    case atStart => exact ⟨0, Nat.zero_le _, rfl⟩
    case round =>
      obtain ⟨k, hk, rfl⟩ := hrel
      rcases Nat.lt_or_ge k m with hlt | hge
      · have hkT : k < T.size := by omega
        have hg := HG.out k hkT hlt
        have hg2 : ((T[k].toNat : Int) != 48) = false := by rw [hg]; rfl
        have hlt2 : (k : Int) < (T.size : Int) - (P.size : Int) := by omega
        clear hg
        go_wp2_with fail
        go_round
        case rel => exact ⟨k + 1, by omega, by go_num⟩
        case measure => simp [intOf]; omega
      · obtain rfl : k = m := by omega
        have hge2 : ¬ (k : Int) < (T.size : Int) - (P.size : Int) := by omega
        go_wp2_with (go_at_call 6; refine (awake_any _).mono ?_; rintro e w3 ⟨rfl, hf3⟩)
        · have he : T.extract (1 + q - P.size) (k + P.size) = P := by
            have h1 := HM.out
            rw [show 1 + q - P.size = k from by omega, ← hTz]
            exact HE.out
          go_ret
          exact ⟨ret_bool (by rw [he]; simp), (hf1.trans hf2).trans hf3⟩
        · exfalso
          have hne : ¬ (k : Int) + (P.size : Int) = 1 + (q : Int) := by assumption
          have h1 := HM.out
          omega
end Go.Proofs.YtbaadbegnckbpaaDoor
