/- Package simple's amounts: contracts of its calls. -/
import Derived.Test.YthnjnaiajohfiaaGreatDoorSimMath2
import Derived.Test.YthnjnaiajohfiaaGreatDoorDigText
import Derived.Test.YthnjnaiajohfiaaGreatDoorDig3
import Derived.Test.YthnjnaiajohfiaaGreatDoorCut
import Derived.Test.YthnjnaiajohfiaaGreatDoorTabs
namespace Go.Proofs.YthnjnaiajohfiaaGreatDoor
open Go.RowKit
set_option maxHeartbeats 1000000
set_option linter.unusedVariables false

theorem s_amttext_any (v : Nat) (w : World) (hv : v < 18446744073709551616) (hT : Tabs w := by repeat' first | with_reducible assumption | with_reducible apply Tabs.drew | with_reducible apply Tabs.drewN | with_reducible apply Tabs.alloc | refine Tabs.fr ?_ (by with_reducible assumption)) :
    Calls Tryz.prog 14 #[.int .u64 (v : Int)] w fun e w' => ∃ T : ByteArray, e = .returned (.tuple #[.string T, .int .i64 (amtE v)]) ∧ T.data.toList = amtR v ∧ Fr No w w' := by
  unfold amtE amtR
  by_cases hm : v ≤ 999999999999
  · rw [if_pos hm, if_pos hm]
    obtain ⟨q, hq⟩ : ∃ q, v / 100 = q := ⟨_, rfl⟩
    obtain ⟨r, hr⟩ : ∃ r, v % 100 = r := ⟨_, rfl⟩
    obtain ⟨t1, t2⟩ := two_wide r (by omega)
    have htx := fun u (h : Tab u) => text_any r 2 u (by omega) h
    rw [t1, t2] at htx
    have hfm := fun u (h : Tab u) => format_any q (by omega) u h
    have hamt : (bstr (Lib.decDigits q) ++ ({ data := #[46] } : ByteArray) ++ bstr (twoL r)).data.toList = amtL v := by
      rw [s_app, s_app, bstr_data, bstr_data]
      unfold amtL
      rw [hq, hr]
    have hz1 : (bstr (Lib.decDigits q)).size ≤ 20 := by rw [bstr_size]; exact decDigits_len q (by omega)
    have hz2 : (bstr (twoL r)).size ≤ 2 := by rw [bstr_size]; exact Nat.le_refl 2
    generalize bstr (Lib.decDigits q) = Q at hfm hamt hz1
    generalize bstr (twoL r) = R at htx hamt hz2
    have htab := hT.ten
    have e1 : (v : Int).tmod 100 = (r : Int) := by rw [Int.tmod_eq_emod_of_nonneg (by omega)]; omega
    have e2 : (v : Int) % 100 = (r : Int) := by omega
    have e3 : (v : Int) / 100 = (q : Int) := by omega
    have e4 : IntKind.u64.wrap ((v : Int).tdiv 100) = (q : Int) := by rw [IntWalk.u64_quo _ _ (by omega)]; omega
    have e6 : IntKind.u64.wrap ((v : Int) / 100) = (q : Int) := by rw [IntWalk.u64_in _ (by omega)]; omega
    have hi : (v : Int) ≤ 999999999999 := by omega
    have HX := Lib.hid htx; have HF := Lib.hid hfm; have HA := Lib.hid hamt; have HV := Lib.hid hv
    clear htx hfm hamt hq hr t1 t2 hm hv
    go_enter Tryz.func14, Tryz.ntmps14
    go_wp2_with (first
      | (go_at_call 27; refine (HX.out _ htab).mono ?_; rintro e w1 ⟨rfl, hf1⟩)
      | (go_at_call 28; refine (HF.out _ (tab_no htab hf1)).mono ?_; rintro e w2 ⟨rfl, hf2⟩))
    go_ret2
    exact ⟨_, rfl, HA.out, hf1.trans hf2⟩
  · rw [if_neg hm, if_neg hm]
    have hi : ¬ (v : Int) ≤ 999999999999 := by omega
    clear hm
    go_enter Tryz.func14, Tryz.ntmps14
    go_wp2
    go_ret2
    exact ⟨_, rfl, rfl, Fr.refl _ _⟩

theorem notC_fun : notC 46 = (fun c => decide (c ≠ 46)) := rfl
theorem s_amtof_any (s : ByteArray) (w : World) (hs : s.size ≤ 65536) (hT : Tabs w := by repeat' first | with_reducible assumption | with_reducible apply Tabs.drew | with_reducible apply Tabs.drewN | with_reducible apply Tabs.alloc | refine Tabs.fr ?_ (by with_reducible assumption)) :
    Calls Tryz.prog 12 #[.string s] w fun e w' => e = .returned (.tuple #[.int .u64 (amtOfR s.data.toList : Int), .int .i64 (amtOfE s.data.toList)]) ∧ Fr No w w' := by
  have hcut := fun u => cut_any s 46 u hs
  rw [notC_fun] at hcut
  obtain ⟨a, ha⟩ : ∃ a, a = s.data.toList.takeWhile (fun c => decide (c ≠ 46)) := ⟨_, rfl⟩
  obtain ⟨b, hb⟩ : ∃ b, b = (s.data.toList.dropWhile (fun c => decide (c ≠ 46))).drop 1 := ⟨_, rfl⟩
  have hal : a.length ≤ 65536 := by
    have h1 : a.length ≤ s.data.toList.length := by rw [ha]; exact (List.takeWhile_sublist _).length_le
    rw [s_size] at h1; omega
  have hbl : b.length ≤ 65536 := by
    have h1 : b.length ≤ s.data.toList.length := by rw [hb, List.length_drop]; exact Nat.le_trans (Nat.sub_le _ _) (List.dropWhile_sublist _).length_le
    rw [s_size] at h1; omega
  obtain ⟨m1, m2⟩ := amt_prog s.data.toList a b ha hb
  have hcs := amt_cases m1 m2
  rw [← ha, ← hb] at hcut
  have hnum := fun (A : ByteArray) (h : A.data.toList = a ++ b) u => number_any A u (by have := s_size A; rw [h, List.length_append] at this; unfold maxLen; omega)
  have hlt := numR_lt (a ++ b)
  have hnum2 : ∀ (A : ByteArray), A.data.toList = a ++ b → ∀ u, Calls Tryz.prog 25 #[.string A] u fun e w' => e = .returned (.tuple #[.int .u64 (numR (a ++ b) : Int), .int .i64 (numE (a ++ b))]) ∧ u = w' := fun A h u => by rw [← h]; exact hnum A h u
  clear hnum m1 m2 ha hb
  obtain ⟨P, hP⟩ : ∃ P, numR (a ++ b) = P := ⟨_, rfl⟩
  obtain ⟨E, hE⟩ : ∃ E, numE (a ++ b) = E := ⟨_, rfl⟩
  rw [hP, hE] at hcs hnum2
  rw [hP] at hlt
  clear hP hE
  have HC := Lib.hid hcut; have HN := Lib.hid hnum2; have HAL := Lib.hid hal; have HBL := Lib.hid hbl; have HLT := Lib.hid hlt
  clear hcut hnum2 hal hbl hlt
  unfold amtOfR amtOfE
  rcases hcs with ⟨rfl, hb⟩ | ⟨rfl, he, hb⟩ | ⟨rfl, he, hq, hv⟩
  · rw [hb]
    clear hb
    go_enter Tryz.func12, Tryz.ntmps12
    go_wp2_with (first
      | (go_at_call 24; refine (HC.out _).mono ?_; rintro e w1 ⟨X, Y, b3, rfl, hX, hY, hd1⟩; (obtain ⟨A, hA⟩ : ∃ A, X ++ Y = A := ⟨_, rfl⟩); (have hA1 : A.data.toList = a ++ b := by rw [← hA, s_app, hX, hY]); (have hz1 : X.size ≤ 65536 := by rw [← s_size, hX]; exact HAL.out); (have hz2 : Y.size ≤ 65536 := by rw [← s_size, hY]; exact HBL.out); clear hX hY)
      | (go_at_call 25; refine (HN.out A hA1 _).mono ?_; rintro e w' ⟨rfl, rfl⟩))
    go_ret2
    exact ⟨rfl, hd1.fr⟩
  · rw [hb]
    have htx := fun u (h : Tabs u) => s_amttext_any P u HLT.out h
    rw [he] at htx
    have HX := Lib.hid htx
    clear hb he htx
    go_enter Tryz.func12, Tryz.ntmps12
    go_wp2_with (first
      | (go_at_call 24; refine (HC.out _).mono ?_; rintro e w1 ⟨X, Y, b3, rfl, hX, hY, hd1⟩; (obtain ⟨A, hA⟩ : ∃ A, X ++ Y = A := ⟨_, rfl⟩); (have hA1 : A.data.toList = a ++ b := by rw [← hA, s_app, hX, hY]); (have hz1 : X.size ≤ 65536 := by rw [← s_size, hX]; exact HAL.out); (have hz2 : Y.size ≤ 65536 := by rw [← s_size, hY]; exact HBL.out); clear hX hY)
      | (go_at_call 25; refine (HN.out A hA1 _).mono ?_; rintro e w' ⟨rfl, rfl⟩)
      | (go_at_call 14; refine (HX.out _ (hT.dr hd1)).mono ?_; rintro e w2 ⟨T, rfl, hT2, hf2⟩; clear hT2))
    go_ret2
    exact ⟨rfl, hd1.fr.trans hf2⟩
  · have htx := fun u (h : Tabs u) => s_amttext_any P u HLT.out h
    rw [he] at htx
    have HX := Lib.hid htx
    have HQ := Lib.hid hq
    clear he htx hq
    cases hb : amtB s.data.toList with
    | true =>
      have hv2 := hv hb
      rw [hb] at HQ
      rw [← hv2]
      clear hb hv hv2
      go_enter Tryz.func12, Tryz.ntmps12
      go_wp2_with (first
        | (go_at_call 24; refine (HC.out _).mono ?_; rintro e w1 ⟨X, Y, b3, rfl, hX, hY, hd1⟩; (obtain ⟨A, hA⟩ : ∃ A, X ++ Y = A := ⟨_, rfl⟩); (have hA1 : A.data.toList = a ++ b := by rw [← hA, s_app, hX, hY]); (have hz1 : X.size ≤ 65536 := by rw [← s_size, hX]; exact HAL.out); (have hz2 : Y.size ≤ 65536 := by rw [← s_size, hY]; exact HBL.out); clear hX hY)
        | (go_at_call 25; refine (HN.out A hA1 _).mono ?_; rintro e w' ⟨rfl, rfl⟩)
        | (go_at_call 14; refine (HX.out _ (hT.dr hd1)).mono ?_; rintro e w2 ⟨T, rfl, hT2, hf2⟩; (have hq := s_beq T s); rw [hT2, HQ.out] at hq; clear hT2))
      go_ret2
      exact ⟨rfl, hd1.fr.trans hf2⟩
    | false =>
      rw [hb] at HQ
      clear hb hv
      go_enter Tryz.func12, Tryz.ntmps12
      go_wp2_with (first
        | (go_at_call 24; refine (HC.out _).mono ?_; rintro e w1 ⟨X, Y, b3, rfl, hX, hY, hd1⟩; (obtain ⟨A, hA⟩ : ∃ A, X ++ Y = A := ⟨_, rfl⟩); (have hA1 : A.data.toList = a ++ b := by rw [← hA, s_app, hX, hY]); (have hz1 : X.size ≤ 65536 := by rw [← s_size, hX]; exact HAL.out); (have hz2 : Y.size ≤ 65536 := by rw [← s_size, hY]; exact HBL.out); clear hX hY)
        | (go_at_call 25; refine (HN.out A hA1 _).mono ?_; rintro e w' ⟨rfl, rfl⟩)
        | (go_at_call 14; refine (HX.out _ (hT.dr hd1)).mono ?_; rintro e w2 ⟨T, rfl, hT2, hf2⟩; (have hq := s_beq T s); rw [hT2, HQ.out] at hq; clear hT2))
      go_ret2
      exact ⟨rfl, hd1.fr.trans hf2⟩
end Go.Proofs.YthnjnaiajohfiaaGreatDoor
