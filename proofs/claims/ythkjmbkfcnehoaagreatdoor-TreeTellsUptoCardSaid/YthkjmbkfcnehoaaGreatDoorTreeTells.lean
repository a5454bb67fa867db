/- TreeTells: the walk. -/
import Derived.Test.YthkjmbkfcnehoaaGreatDoorRefBuild
import Derived.Test.YthkjmbkfcnehoaaGreatDoorTreeAwake
import Derived.Test.YthkjmbkfcnehoaaGreatDoorHn
import Derived.Test.YthkjmbkfcnehoaaGreatDoorTokOpen
namespace Go.Proofs.YthkjmbkfcnehoaaGreatDoor
open Go.RowKit
set_option maxHeartbeats 1000000
set_option linter.unusedVariables false

theorem r_Parse_any (S : ByteArray) (w : World) (hs : S.size ≤ 65536) :
    Calls Tryz.prog 9 #[.string S] w (NodesTo (parseL S.data.toList) (parseE S.data.toList) w) := by
  have htk := r_Tokens_any S w hs
  obtain ⟨h1, h2, h3⟩ := tokL_small S.data.toList (by rw [size_list]; exact hs)
  have hE : parseE S.data.toList = if tokE S.data.toList = 0 then buildE (tokL S.data.toList) else tokE S.data.toList := rfl
  have hL : parseL S.data.toList = if tokE S.data.toList = 0 then buildL (tokL S.data.toList) else [] := rfl
  rw [hE, hL]
  generalize tokE S.data.toList = E at *
  generalize tokL S.data.toList = L at *
  have HT := Lib.hid htk; have H3 := Lib.hid h3; have H1 := Lib.hid h1
  clear htk h3 hE hL h1
  by_cases he : E = 0
  · have hev : (E != 0) = false := by rw [he]; rfl
    have hbu := fun u A c N (hr : RdI 5 TokI u N A L.length c L) => r_Build_any L A L.length c N u hr (by omega) (Nat.le_trans H1.out (by omega)) (fun t ht => Nat.le_trans (H3.out t ht) (by omega))
    have HBU := Lib.hid hbu
    rw [if_pos he, if_pos he]
    clear hbu
    go_enter Tryz.func9, Tryz.ntmps9
    go_wp2_with (first
      | (go_at_call 21; refine HT.out.mono ?_; rintro e w1 ⟨v, rfl, ho1, hf1⟩; obtain ⟨A1, c1, rfl, hr1⟩ := toks_rd' ho1)
      | (go_at_call 7; refine (HBU.out _ _ _ _ hr1).mono ?_; rintro e w2 ⟨v2, rfl, ho2, hf2⟩))
    go_ret2
    have hz := hf1.size
    exact ⟨v2, rfl, (ho2.low nod_ok hz).mono nod_ok (fun i hi => ⟨Nat.le_trans hz hi.1, hi.2⟩), hf1.trans hf2⟩
  · have hev : (E != 0) = true := by rw [bne_iff_ne]; exact he
    rw [if_neg he, if_neg he]
    go_enter Tryz.func9, Tryz.ntmps9
    go_wp2_with (go_at_call 21; refine HT.out.mono ?_; rintro e w1 ⟨v, rfl, ho1, hf1⟩; obtain ⟨A1, c1, rfl, hr1⟩ := toks_rd' ho1)
    go_ret2
    exact ⟨_, rfl, OwnI.nil_ _ _ _ _ _ _, hf1⟩
theorem wk_sum : ∀ ts : List Tok, sumT ts ≤ (ts.map wtK).sum
  | [] => Nat.le_refl _
  | t :: ts => by
    have h := wk_sum ts
    have e1 : sumT (t :: ts) = t.text.length + sumT ts := by unfold sumT; simp
    have e2 : wtK t = t.name.length + t.text.length + (t.attrs.map wtB).sum + 1 := rfl
    rw [e1, List.map_cons, List.sum_cons]
    omega
theorem wa_len : ∀ a : List (List UInt8 × List UInt8), 3 * a.length ≤ (a.map wtB).sum
  | [] => Nat.le_refl _
  | x :: a => by
    have h := wa_len a
    have e2 : wtB x = x.1.length + x.2.length + 3 := rfl
    rw [List.map_cons, List.sum_cons, List.length_cons]
    omega
theorem wk_attrs : ∀ {ts : List Tok} {t : Tok}, t ∈ ts → 3 * t.attrs.length ≤ (ts.map wtK).sum
  | x :: ts, t, h => by
    rw [List.map_cons, List.sum_cons]
    rcases List.mem_cons.1 h with rfl | h
    · have := wa_len t.attrs
      have e2 : wtK t = t.name.length + t.text.length + (t.attrs.map wtB).sum + 1 := rfl
      omega
    · have := wk_attrs h; omega
attribute [local irreducible] yielded in
set_option maxRecDepth 20000 in
theorem tells_main (ts : List Tok) (ns : List Nod) (S : ByteArray) (A B : Option Addr) (n c m d : Nat) (i : Int) (w : World) (hT : Tabs w) (hts : RdI 5 TokI w (fun i => i < w.heap.size) A n c ts) (hns : RdI 4 NodI w (fun i => i < w.heap.size) B m d ns)
    (hn : n ≤ 100) (hS : S.size ≤ 4000) (hm : m ≤ 100) (hsum : sumT ts ≤ 500000000) (hat : ∀ t ∈ ts, t.attrs.length ≤ 1000000) :
    Calls Tryz.prog 3 #[.slice A n c, .string S, .slice B m d, .int .i64 i] w fun e w' => e = .returned (.bool true) ∧ Fr No w w' := by
  have h1 := build_any ts A n c w hts (by omega) hsum hat
  have h2 := fun u (hu : Fr No w u) => r_Build_any ts A n c _ u (hts.no tok_ok hu) (by omega) hsum hat
  have h3 := fun u (hu : Tabs u) => parse_any S u (by omega) hu
  have h4 := fun u => r_Parse_any S u (by omega)
  have h5 := fun u (hu : Tabs u) => awake_tree u hu
  have h6 := fun u (hu : Fr No w u) => kids_any ns B m d i _ u (hns.no nod_ok hu) (by omega)
  have h7 := fun u (hu : Fr No w u) => r_Kids_any ns B m d i _ u (hns.no nod_ok hu) (by omega)
  generalize buildL ts = L at h1 h2
  generalize buildE ts = E at h1 h2
  generalize parseL S.data.toList = P at h3 h4
  generalize parseE S.data.toList = Q at h3 h4
  generalize kidsL ns i = K at h6 h7
  have hnI : ¬ (n : Int) > 100 := by omega
  have hmI : ¬ (m : Int) > 100 := by omega
  have hSI : ¬ (S.size : Int) > 4000 := by omega
  have H1 := Lib.hid h1; have H2 := Lib.hid h2; have H3 := Lib.hid h3; have H4 := Lib.hid h4; have H5 := Lib.hid h5; have H6 := Lib.hid h6; have H7 := Lib.hid h7
  clear h1 h2 h3 h4 h5 h6 h7 hts hns hsum hat
  have tokA : True := trivial
  go_enter Tryz.func3, Tryz.ntmps3
  go_wp2_with (first
    | (go_at_call 6; refine H1.out.mono ?_; rintro e w1 ⟨v1, rfl, ho1, f1⟩; obtain ⟨A1, c1, rfl, hr1⟩ := nodes_rd ho1; clear ho1)
    | (go_at_call 7; refine (H2.out _ f1).mono ?_; rintro e w2 ⟨v2, rfl, ho2, f2⟩; obtain ⟨A2, c2, rfl, hr2⟩ := nodes_rd ho2; have F2 := f1.trans f2; clear ho2)
    | (go_at_call 8; refine (H3.out _ (hT.fr F2)).mono ?_; rintro e w3 ⟨v3, rfl, ho3, f3⟩; obtain ⟨A3, c3, rfl, hr3⟩ := nodes_rd ho3; have F3 := F2.trans f3; clear ho3)
    | (go_at_call 9; refine (H4.out _).mono ?_; rintro e w4 ⟨v4, rfl, ho4, f4⟩; obtain ⟨A4, c4, rfl, hr4⟩ := nodes_rd ho4; have F4 := F3.trans f4; clear ho4)
    | (go_at_call 5; refine (H5.out _ (hT.fr F4)).mono ?_; rintro e w5 ⟨rfl, f5⟩; have F5 := F4.trans f5)
    | (go_at_call 10; clear tokA; refine (sameN_any _ _ _ _ _ L _ _ _ ((((hr1.no nod_ok f2).no nod_ok f3).no nod_ok f4).no nod_ok f5) (((hr2.no nod_ok f3).no nod_ok f4).no nod_ok f5)).mono ?_; rintro e w6 ⟨rfl, f6⟩; have F6 := F5.trans f6)
    | (go_at_call 10; refine (sameN_any _ _ _ _ _ P _ _ _ (((hr3.no nod_ok f4).no nod_ok f5).no nod_ok f6) ((hr4.no nod_ok f5).no nod_ok f6)).mono ?_; rintro e w7 ⟨rfl, f7⟩; have F7 := F6.trans f7)
    | (go_at_call 13; refine (H6.out _ F7).mono ?_; rintro e w8 ⟨v8, rfl, ho8, f8⟩; obtain ⟨A8, c8, rfl, hr8, -⟩ := Rd.of_own ho8; have F8 := F7.trans f8; clear ho8)
    | (go_at_call 14; refine (H7.out _ F8).mono ?_; rintro e w9 ⟨v9, rfl, ho9, f9⟩; obtain ⟨A9, c9, rfl, hr9, -⟩ := Rd.of_own ho9; have F9 := F8.trans f9; clear ho9)
    | (go_at_call 12; refine (plainI_any _ _ _ _ _ (natI K) _ (hr8.no f9) hr9).mono ?_; rintro e w10 ⟨rfl, f10⟩))
  go_ret
  exact ⟨by simp, F9.dr f10⟩
theorem tells_tree {ts : List Tok} {ns : List Nod} {S : ByteArray} {A B : Option Addr} {n c m d : Nat} {i : Int} (w : World) (hT : Tabs w) (hts : RdI 5 TokI w (fun i => i < w.heap.size) A n c ts) (hb : (ts.map wtK).sum ≤ 1048576) (hS : S.size ≤ maxLen)
    (hns : RdI 4 NodI w (fun i => i < w.heap.size) B m d ns) (hb2 : (ns.map wtN).sum ≤ 1048576) (hi : (Lit.int .i64 i).wf = true) :
    Calls Tryz.prog 3 #[.slice A n c, .string S, .slice B m d, .int .i64 i] w fun e w' => e = .returned (.bool true) ∧ Fr No w w' := by
  have htop := hts.top
  have htop2 := hns.top
  have hw := wk_sum ts
  by_cases hsm : n ≤ 100 ∧ S.size ≤ 4000 ∧ m ≤ 100
  · obtain ⟨h1, h2, h3⟩ := hsm
    exact tells_main ts ns S A B n c m d i w hT hts hns h1 h2 h3 (by omega) (fun t ht => by have := wk_attrs ht; omega)
  · have haw := fun u (hu : Tabs u) => awake_tree u hu
    have HAW := Lib.hid haw
    simp only [maxLen] at hS
    have hSM : (S.size : Int) ≤ 9223372036854775807 := by omega
    have hnM : (n : Int) ≤ 9223372036854775807 := by omega
    have hmM : (m : Int) ≤ 9223372036854775807 := by omega
    clear haw hts hns hb hb2 hw
    by_cases hn : n ≤ 100
    · by_cases hs : S.size ≤ 4000
      · have hm : ¬ m ≤ 100 := fun h => hsm ⟨hn, hs, h⟩
        have hnI : ¬ (n : Int) > 100 := by omega
        have hSI : ¬ (S.size : Int) > 4000 := by omega
        have hmI : (m : Int) > 100 := by omega
        clear hsm hn hs hm
        go_enter Tryz.func3, Tryz.ntmps3
        go_wp2_with (go_at_call 5; refine (HAW.out _ hT).mono ?_; rintro e w1 ⟨rfl, f1⟩)
        go_ret
        exact ⟨rfl, f1⟩
      · have hnI : ¬ (n : Int) > 100 := by omega
        have hSI : (S.size : Int) > 4000 := by omega
        clear hsm hn hs
        go_enter Tryz.func3, Tryz.ntmps3
        go_wp2_with (go_at_call 5; refine (HAW.out _ hT).mono ?_; rintro e w1 ⟨rfl, f1⟩)
        go_ret
        exact ⟨rfl, f1⟩
    · have hnI : (n : Int) > 100 := by omega
      clear hsm hn
      go_enter Tryz.func3, Tryz.ntmps3
      go_wp2_with (go_at_call 5; refine (HAW.out _ hT).mono ?_; rintro e w1 ⟨rfl, f1⟩)
      go_ret
      exact ⟨rfl, f1⟩
end Go.Proofs.YthkjmbkfcnehoaaGreatDoor
