/- The texts FldW1, FldW2, joined. -/
import Derived.Test.YthlgnmgjfgbffaaGreatDoorL26
import Derived.Test.YthlgnmgjfgbffaaGreatDoorL32
import Derived.Test.YthlgnmgjfgbffaaGreatDoorL35
/- Package fields: what the writer's steps lean on. -/
namespace Go.Proofs.YthlgnmgjfgbffaaGreatDoor
open Go.RowKit
set_option maxHeartbeats 1000000
set_option linter.unusedVariables false
set_option maxRecDepth 20000

/-- a number as int has it, as a word -/
def wordN (n : Int) : Nat := (n % 18446744073709551616).toNat
theorem word_lt (n : Int) : wordN n < 18446744073709551616 := by unfold wordN; omega
theorem word_pos {n : Nat} (h2 : n < 18446744073709551616) : wordN (n : Int) = n := by unfold wordN; omega
theorem f_told (n z : Int) (w : World) (hT : Tabs w) :
    Calls Tryz.prog 108 #[.int .i64 n, .int .i64 z] w fun e w' => e = .returned (.tuple #[.string (bstr (textR (wordN n) z)), .int .i64 (textE (wordN n) z)]) ∧ Fr No w w' := by
  have HX := Lib.hid (fun u (hu : Fr No w u) => text_any (wordN n) z u (word_lt n) (tab_no hT.ten hu))
  have hc : (IntKind.u64.wrap n) = (wordN n : Int) := by rw [IntKind.wrap_u64]; unfold wordN; omega
  have hc2 : n % 18446744073709551616 = (wordN n : Int) := by unfold wordN; omega
  generalize textR (wordN n) z = R at *
  generalize textE (wordN n) z = E at *
  go_enter Tryz.func108, Tryz.ntmps108
  go_wp2_with (go_at_call 110; refine (HX.out _ (Fr.refl _ _)).mono ?_; rintro e w1 ⟨rfl, f1⟩)
  go_ret2
  exact ⟨rfl, f1⟩
/-- the first of two that is not 0 -/
theorem or_two (P : Nat) (a b : Int) (w : World) (h0 : w.cell? ⟨P, 0, none⟩ = some (.int .i64 a)) (h1 : w.cell? ⟨P, 1, none⟩ = some (.int .i64 b)) : Calls Tryz.prog 109 #[.slice (some ⟨P, 0, none⟩) 2 2] w fun e w' => e = .returned (.int .i64 (if a = 0 then b else a)) ∧ w = w' := by
  by_cases ha : a = 0
  · subst ha
    rw [if_pos rfl]
    by_cases hb : b = 0
    · subst hb
      go_enter Tryz.func109, Tryz.ntmps109
      go_wp2
      refine wp_loop_rounds 3 ?_
      rw [rounds_succ]
      go_wp2
      rw [rounds_succ]
      go_wp2
      rw [rounds_succ]
      go_wp2
      go_ret
      exact ⟨rfl, rfl⟩
    · have hbb : (b != 0) = true := by rw [bne_iff_ne]; exact hb
      go_enter Tryz.func109, Tryz.ntmps109
      go_wp2
      refine wp_loop_rounds 2 ?_
      rw [rounds_succ]
      go_wp2
      rw [rounds_succ]
      go_wp2
      go_ret
      exact ⟨rfl, rfl⟩
  · have hab : (a != 0) = true := by rw [bne_iff_ne]; exact ha
    rw [if_neg ha]
    go_enter Tryz.func109, Tryz.ntmps109
    go_wp2
    refine wp_loop_rounds 1 ?_
    rw [rounds_succ]
    go_wp2
    go_ret
    exact ⟨rfl, rfl⟩
/-- a name with blanks behind -/
def padB (S : ByteArray) (n : Nat) : Bool := plainB S.data.toList 1 (n : Int) && ansB S.data.toList (n : Int)
def padE (S : ByteArray) (n : Nat) : Int := if (S.toList == []) = true then 0 else if padB S n = true then 0 else 1
def padT (S : ByteArray) (n : Nat) : List UInt8 := if (S.toList == []) = true then [] else if padB S n = true then padR n S.data.toList else []
theorem rep_blank (k : Nat) : (⟨(Lib.repeatL ({ data := #[32] } : ByteArray).data.toList k).toArray⟩ : ByteArray) = bstr (List.replicate k 32) := by
  have h : Lib.repeatL ({ data := #[32] } : ByteArray).data.toList k = List.replicate k 32 := by
    show Lib.repeatL [32] k = _
    induction k with
    | zero => rfl
    | succ k ih => rw [Lib.repeatL, ih]; rfl
  rw [h]
  rfl
theorem bs_app (S : ByteArray) (l : List UInt8) : S ++ bstr l = bstr (S.data.toList ++ l) := by
  apply ByteArray.ext
  rw [ByteArray.data_append]
  apply Array.ext'
  simp [bstr]
theorem f_padded (S : ByteArray) (n : Nat) (w : World) (hs : S.size ≤ 140737488355328) (hn : n ≤ 1000) (hT : Tabs w) :
    Calls Tryz.prog 111 #[.string S, .int .i64 (n : Int)] w fun e w' => e = .returned (.tuple #[.string (bstr (padT S n)), .int .i64 (padE S n)]) ∧ Fr No w w' := by
  have HP := Lib.hid (fun u (hu : Tabs u) => text_plain_any S 1 (n : Int) u hs hu)
  have HA := Lib.hid (fun u => text_ans_any S (n : Int) u hs)
  have HT := Lib.hid hT
  have hs63 : (S.size : Int) ≤ 9223372036854775807 := by omega
  have hn63 : (n : Int) ≤ 1000 := by omega
  clear hT
  cases hE : (S.toList == [])
  · cases hPl : plainB S.data.toList 1 (n : Int)
    · rw [hPl] at HP
      have e1 : padT S n = [] := by unfold padT padB; rw [hE, hPl]; rfl
      have e2 : padE S n = 1 := by unfold padE padB; rw [hE, hPl]; rfl
      rw [e1, e2]
      clear hPl e1 e2
      go_enter Tryz.func111, Tryz.ntmps111
      go_wp2_with (go_at_call 92; refine (HP.out _ HT.out).mono ?_; rintro e w1 ⟨rfl, f1⟩)
      go_ret2
      exact ⟨rfl, f1⟩
    · rw [hPl] at HP
      cases hAn : ansB S.data.toList (n : Int)
      · rw [hAn] at HA
        have e1 : padT S n = [] := by unfold padT padB; rw [hE, hPl, hAn]; rfl
        have e2 : padE S n = 1 := by unfold padE padB; rw [hE, hPl, hAn]; rfl
        rw [e1, e2]
        clear hPl hAn e1 e2
        go_enter Tryz.func111, Tryz.ntmps111
        go_wp2_with (first
          | (go_at_call 92; refine (HP.out _ HT.out).mono ?_; rintro e w1 ⟨rfl, f1⟩)
          | (go_at_call 156; refine (HA.out _).mono ?_; rintro e w2 ⟨rfl, f2⟩))
        go_ret2
        exact ⟨rfl, f1.trans f2⟩
      · have hl : S.size ≤ n := by
          unfold ansB at hAn
          have h3 : S.data.toList.length = S.size := by simp
          simp only [Bool.and_eq_true, decide_eq_true_eq] at hAn
          omega
        obtain ⟨k, hk⟩ : ∃ k, n - S.size = k := ⟨_, rfl⟩
        have hkI : (n : Int) - (S.size : Int) = (k : Int) := by omega
        have hk1 : k ≤ 1000 := by omega
        rw [hAn] at HA
        have e1 : padT S n = padR n S.data.toList := by unfold padT padB; rw [hE, hPl, hAn]; rfl
        have e2 : padE S n = 0 := by unfold padE padB; rw [hE, hPl, hAn]; rfl
        rw [e1, e2]
        clear e1 e2
        have hfin : S ++ bstr (List.replicate k 32) = bstr (padR n S.data.toList) := by
          rw [bs_app]
          unfold padR
          rw [show S.data.toList.length = S.size by simp, hk]
        have HFIN := Lib.hid hfin
        have hrp : ∀ u, Calls Tryz.prog 155 #[.string ⟨#[32]⟩, .int .i64 (k : Int)] u fun e w' => e = .returned (.string (bstr (List.replicate k 32))) ∧ Fr No u w' := fun u =>
          (Tryz.strings_Repeat { data := #[32] } k u (by omega) (by show 1 * k ≤ _; omega)).mono (fun e w' h => ⟨by rw [h.1, rep_blank], Fr.of_below h.2⟩)
        have HR := Lib.hid hrp
        have hcat : S.size + (bstr (List.replicate k 32)).size ≤ 9223372036854775807 := by rw [bstr_size, List.length_replicate]; omega
        generalize bstr (List.replicate k 32) = R at *
        generalize bstr (padR n S.data.toList) = V at *
        clear hPl hAn hl hk hfin hrp
        go_enter Tryz.func111, Tryz.ntmps111
        go_wp2_with (first
          | (go_at_call 92; refine (HP.out _ HT.out).mono ?_; rintro e w1 ⟨rfl, f1⟩)
          | (go_at_call 156; refine (HA.out _).mono ?_; rintro e w2 ⟨rfl, f2⟩)
          | (go_at_call 155; refine (HR.out _).mono ?_; rintro e w3 ⟨rfl, f3⟩))
        go_ret2
        exact ⟨by rw [← HFIN.out]; rfl, (f1.trans f2).trans f3⟩
  · have e1 : padT S n = [] := by unfold padT; rw [hE]; rfl
    have e2 : padE S n = 0 := by unfold padE; rw [hE]; rfl
    rw [e1, e2]
    go_enter Tryz.func111, Tryz.ntmps111
    go_wp2
    go_ret2
    exact ⟨rfl, Fr.refl _ _⟩
end Go.Proofs.YthlgnmgjfgbffaaGreatDoor
/- Package fields: the writer's steps, one at a time: over a block that is known whole. -/
namespace Go.Proofs.YthlgnmgjfgbffaaGreatDoor
open Go.RowKit
set_option maxHeartbeats 1000000
set_option linter.unusedVariables false
set_option maxRecDepth 20000

def wexE (n : Int) (Ac : ByteArray) : Int := if textE (wordN n) 6 = 0 then (if (Ac.toList == []) = true then 1 else 0) else textE (wordN n) 6
def wamE (v : Nat) (C : ByteArray) : Int := if (C.toList == []) = true then 0 else textE v 12
def wenE (n : Int) : Int := if n = 0 then 0 else textE (wordN n) 3
def worE (n : Int) (O : ByteArray) : Int := if (O.toList == []) = true then 0 else if textE (wordN n) 6 = 0 then (if sinceB O = true then 0 else 14) else textE (wordN n) 6
/-- whether other elements are spare, and rise -/
def sprB : Int → List El → Bool
  | _, [] => true
  | last, a :: r => spareP a.1 && (decide (last < a.1) && sprB a.1 r)
theorem textR_len (v : Nat) (z : Int) : (textR v z).length ≤ 20 := by
  rcases text_cases v z with ⟨_, _, h⟩ | ⟨_, _, h⟩ | ⟨_, _, _, _, h⟩ | ⟨m, hz, h1, h2, _, h⟩
  · rw [h]; exact Nat.zero_le _
  · rw [h]; exact Nat.zero_le _
  · rw [h]; exact Nat.zero_le _
  · rw [h, wide_length]; omega
section
variable {w : World} {g : Nat} {T : TypeId} {cs : List Value}
theorem f_sayable {N : ByteArray} {A : Option Addr} {n c : Nat} (h : Bk w g T cs) (h18 : cs[18]? = some (.string N)) (h19 : cs[19]? = some (.slice A n c)) :
    Calls Tryz.prog 59 #[.pointer (some ⟨g, 0, none⟩)] w fun e w' => e = .returned (.int .i64 (if ((N.toList == []) && decide (n = 0)) = true then 0 else 19)) ∧ w = w' := by
  have c18 := (h.cell 18).trans h18
  have c19 := (h.cell 19).trans h19
  have HU1 := Lib.hid (fun u => unless_any true 19 u)
  have HU0 := Lib.hid (fun u => unless_any false 19 u)
  rw [if_pos rfl] at HU1
  rw [if_neg (by decide)] at HU0
  clear h h18 h19
  cases hE : (N.toList == [])
  · rw [Bool.false_and]
    go_enter Tryz.func59, Tryz.ntmps59
    go_wp2_with (go_at_call 49; (with_reducible first | refine (HU1.out _).mono ?_ | refine (HU0.out _).mono ?_); rintro e w9 ⟨rfl, rfl⟩)
    go_ret
    exact ⟨rfl, rfl⟩
  · rw [Bool.true_and]
    by_cases hn : n = 0
    · subst hn
      go_enter Tryz.func59, Tryz.ntmps59
      go_wp2_with (go_at_call 49; (with_reducible first | refine (HU1.out _).mono ?_ | refine (HU0.out _).mono ?_); rintro e w9 ⟨rfl, rfl⟩)
      go_ret
      exact ⟨rfl, rfl⟩
    · have hnb : ((n : Int) == 0) = false := by rw [beq_eq_false_iff_ne]; omega
      rw [decide_eq_false hn]
      clear hn
      go_enter Tryz.func59, Tryz.ntmps59
      go_wp2_with (go_at_call 49; (with_reducible first | refine (HU1.out _).mono ?_ | refine (HU0.out _).mono ?_); rintro e w9 ⟨rfl, rfl⟩)
      go_ret
      exact ⟨rfl, rfl⟩
theorem f_wexchange {n : Int} {Ac : ByteArray} {v21 : Value} (h : Bk w g T cs) (h1 : cs[1]? = some (.int .i64 n)) (h3 : cs[3]? = some (.string Ac)) (h21 : cs[21]? = some v21) (hT : Tabs w) :
    Calls Tryz.prog 60 #[.pointer (some ⟨g, 0, none⟩)] w fun e w' => e = .returned (.int .i64 (wexE n Ac)) ∧ Bk w' g T (cs.set 21 (.string (bstr (textR (wordN n) 6)))) ∧ Fr (Just g) w w' := by
  have c1 := (h.cell 1).trans h1
  have H := Lib.hid h
  have H3 := Lib.hid h3
  have H21 := Lib.hid h21
  have HX := Lib.hid (fun u (hu : Tabs u) => f_told n 6 u hu)
  have HU1 := Lib.hid (fun u => unless_any true 1 u)
  have HU0 := Lib.hid (fun u => unless_any false 1 u)
  rw [if_pos rfl] at HU1
  rw [if_neg (by decide)] at HU0
  unfold wexE
  clear h h1 h3 h21
  generalize textR (wordN n) 6 = R at *
  generalize textE (wordN n) 6 = E at *
  cases hA : (Ac.toList == [])
  all_goals
    go_enter Tryz.func60, Tryz.ntmps60
    go_upto_region 3 with (go_at_call 108; refine (HX.out _ hT).mono ?_; rintro e w1 ⟨rfl, f1⟩; have F1 := Lib.hid f1; have B1 := Lib.hid (H.out.no f1); have d21 := (H.out.no (by assumption)).cell 21 |>.trans H21.out; have z21 := (H.out.no (by assumption)).frozen 21; clear f1)
    have B2 := Lib.hid (B1.out.set_ 21 (.string (bstr R)))
    have F2 := Lib.hid ((F1.out.no).trans (just_set w1 g 21 (.string (bstr R))))
    have e3 := B1.out.after 21 3 (by decide) H3.out (.string (bstr R))
    generalize w1.setCell ⟨g, 21, none⟩ (.string (bstr R)) = w2 at *
    have G := fun (a b : Int) => or_two w2.heap.size a b (w2.alloc (.cells #[.int .i64 a, .int .i64 b] 28)) ((Bk.new w2 28 #[.int .i64 a, .int .i64 b]).cell 0) ((Bk.new w2 28 #[.int .i64 a, .int .i64 b]).cell 1)
    have GG := Lib.hid G
    have FA := Lib.hid (fun ob => (Fr.refl No w2).alloc ob)
    clear G d21 z21
    go_wp2_with (first
      | (go_at_call 49; (with_reducible first | refine (HU1.out _).mono ?_ | refine (HU0.out _).mono ?_); rintro e w9 ⟨rfl, rfl⟩)
      | (go_at_call 109; refine (GG.out _ _).mono ?_; rintro e w7 ⟨rfl, rfl⟩))
    all_goals
      go_ret
      exact ⟨rfl, B2.out.no (FA.out _), (F2.out).trans (FA.out _).no⟩
theorem f_wamount_no {C : ByteArray} (h : Bk w g T cs) (h5 : cs[5]? = some (.string C)) (hC : (C.toList == []) = true) :
    Calls Tryz.prog 61 #[.pointer (some ⟨g, 0, none⟩)] w fun e w' => e = .returned (.int .i64 0) ∧ w = w' := by
  have c5 := (h.cell 5).trans h5
  clear h h5
  go_enter Tryz.func61, Tryz.ntmps61
  go_wp2
  go_ret
  exact ⟨rfl, rfl⟩
theorem f_wamount {C : ByteArray} {v : Nat} {v22 : Value} (h : Bk w g T cs) (h5 : cs[5]? = some (.string C)) (h6 : cs[6]? = some (.int .u64 (v : Int))) (h22 : cs[22]? = some v22) (hv : v < 18446744073709551616) (hC : (C.toList == []) = false) (hT : Tabs w) :
    Calls Tryz.prog 61 #[.pointer (some ⟨g, 0, none⟩)] w fun e w' => e = .returned (.int .i64 (textE v 12)) ∧ Bk w' g T (cs.set 22 (.string (bstr (textR v 12)))) ∧ Fr (Just g) w w' := by
  have c5 := (h.cell 5).trans h5
  have c6 := (h.cell 6).trans h6
  have H := Lib.hid h
  have H22 := Lib.hid h22
  have HX := Lib.hid (fun u (hu : Fr No w u) => text_any v 12 u hv (tab_no hT.ten hu))
  clear h h5 h6 h22 hv
  generalize textR v 12 = R at *
  generalize textE v 12 = E at *
  go_enter Tryz.func61, Tryz.ntmps61
  go_wp2_with (go_at_call 110; refine (HX.out _ (Fr.refl _ _)).mono ?_; rintro e w1 ⟨rfl, f1⟩; have F1 := Lib.hid f1; have B1 := Lib.hid (H.out.no f1); have d22 := ((H.out.no f1).cell 22).trans H22.out; have z22 := (H.out.no f1).frozen 22; clear f1)
  go_ret
  exact ⟨rfl, B1.out.set_ 22 _, (F1.out.no).trans (just_set _ _ _ _)⟩
theorem f_wentry_no (h : Bk w g T cs) (h11 : cs[11]? = some (.int .i64 0)) :
    Calls Tryz.prog 62 #[.pointer (some ⟨g, 0, none⟩)] w fun e w' => e = .returned (.int .i64 0) ∧ w = w' := by
  have c11 := (h.cell 11).trans h11
  clear h h11
  go_enter Tryz.func62, Tryz.ntmps62
  go_wp2
  go_ret
  exact ⟨rfl, rfl⟩
theorem f_wentry {n : Int} {v23 : Value} (h : Bk w g T cs) (h11 : cs[11]? = some (.int .i64 n)) (h23 : cs[23]? = some v23) (hn : n ≠ 0) (hT : Tabs w) :
    Calls Tryz.prog 62 #[.pointer (some ⟨g, 0, none⟩)] w fun e w' => e = .returned (.int .i64 (textE (wordN n) 3)) ∧ Bk w' g T (cs.set 23 (.string (bstr (textR (wordN n) 3)))) ∧ Fr (Just g) w w' := by
  have c11 := (h.cell 11).trans h11
  have hnb : (n == 0) = false := by rw [beq_eq_false_iff_ne]; exact hn
  have H := Lib.hid h
  have H23 := Lib.hid h23
  have HX := Lib.hid (fun u (hu : Tabs u) => f_told n 3 u hu)
  clear h h11 h23 hn
  generalize textR (wordN n) 3 = R at *
  generalize textE (wordN n) 3 = E at *
  go_enter Tryz.func62, Tryz.ntmps62
  go_wp2_with (go_at_call 108; refine (HX.out _ hT).mono ?_; rintro e w1 ⟨rfl, f1⟩; have F1 := Lib.hid f1; have B1 := Lib.hid (H.out.no f1); have d23 := ((H.out.no (by assumption)).cell 23).trans H23.out; have z23 := (H.out.no (by assumption)).frozen 23; clear f1)
  go_ret
  exact ⟨rfl, B1.out.set_ 23 _, (F1.out.no).trans (just_set _ _ _ _)⟩
theorem f_worigin_no {O : ByteArray} (h : Bk w g T cs) (h15 : cs[15]? = some (.string O)) (hO : (O.toList == []) = true) :
    Calls Tryz.prog 63 #[.pointer (some ⟨g, 0, none⟩)] w fun e w' => e = .returned (.int .i64 0) ∧ w = w' := by
  have c15 := (h.cell 15).trans h15
  clear h h15
  go_enter Tryz.func63, Tryz.ntmps63
  go_wp2
  go_ret
  exact ⟨rfl, rfl⟩
theorem f_worigin {n : Int} {O : ByteArray} {v26 : Value} (h : Bk w g T cs) (h14 : cs[14]? = some (.int .i64 n)) (h15 : cs[15]? = some (.string O)) (h26 : cs[26]? = some v26) (hs : O.size ≤ 140737488355328) (hO : (O.toList == []) = false) (hT : Tabs w) :
    Calls Tryz.prog 63 #[.pointer (some ⟨g, 0, none⟩)] w fun e w' => e = .returned (.int .i64 (if textE (wordN n) 6 = 0 then (if sinceB O = true then 0 else 14) else textE (wordN n) 6)) ∧ Bk w' g T (cs.set 26 (.string (bstr (textR (wordN n) 6 ++ O.data.toList)))) ∧ Fr (Just g) w w' := by
  have c14 := (h.cell 14).trans h14
  have c15 := (h.cell 15).trans h15
  have H := Lib.hid h
  have H15 := Lib.hid h15
  have H26 := Lib.hid h26
  have HX := Lib.hid (fun u (hu : Tabs u) => f_told n 6 u hu)
  have hcat : (bstr (textR (wordN n) 6)).size + O.size ≤ 9223372036854775807 := by
    have := textR_len (wordN n) 6
    rw [bstr_size]
    omega
  have hsum : bstr (textR (wordN n) 6) ++ O = bstr (textR (wordN n) 6 ++ O.data.toList) := by
    apply ByteArray.ext
    rw [ByteArray.data_append]
    apply Array.ext'
    simp [bstr]
  have HSUM := Lib.hid hsum
  have HSI := Lib.hid (fun (u : World) (cs' : List Value) (hu : Bk u g T cs') (h15' : cs'[15]? = some (.string O)) => f_since hu h15' (by simp only [maxLen]; omega))
  clear h h14 h15 h26 hs hsum
  generalize (if sinceB O = true then (0 : Int) else 14) = SE at *
  generalize bstr (textR (wordN n) 6 ++ O.data.toList) = V at *
  generalize bstr (textR (wordN n) 6) = R at *
  generalize textE (wordN n) 6 = E at *
  go_enter Tryz.func63, Tryz.ntmps63
  go_upto_region 4 with (go_at_call 108; refine (HX.out _ hT).mono ?_; rintro e w1 ⟨rfl, f1⟩; have F1 := Lib.hid f1; have B1 := Lib.hid (H.out.no f1); have d26 := ((H.out.no (by assumption)).cell 26).trans H26.out; have z26 := (H.out.no (by assumption)).frozen 26; have d15 := ((H.out.no (by assumption)).cell 15).trans H15.out; clear f1)
  go_upto_region 5 with fail
  have hv : R ++ O = V := HSUM.out
  rw [hv]
  have B2 := Lib.hid (B1.out.set_ 26 (.string V))
  have F2 := Lib.hid ((F1.out.no).trans (just_set w1 g 26 (.string V)))
  have h15b : (cs.set 26 (.string V))[15]? = some (.string O) := by rw [List.getElem?_set_ne (by decide)]; exact H15.out
  have HS2 := Lib.hid (fun u (hu : Fr No (w1.setCell ⟨g, 26, none⟩ (.string V)) u) => HSI.out u _ (B2.out.no hu) h15b)
  generalize w1.setCell ⟨g, 26, none⟩ (.string V) = w2 at *
  have GG := Lib.hid (fun (u : World) (a b : Int) => or_two u.heap.size a b (u.alloc (.cells #[.int .i64 a, .int .i64 b] 28)) ((Bk.new u 28 #[.int .i64 a, .int .i64 b]).cell 0) ((Bk.new u 28 #[.int .i64 a, .int .i64 b]).cell 1))
  clear h15b d26 z26 d15 HSUM hv
  go_wp2_with (first
    | (go_at_call 52; refine (HS2.out _ (Fr.refl _ _)).mono ?_; rintro e w3 ⟨rfl, f3⟩; have F3 := Lib.hid f3; clear f3)
    | (go_at_call 109; refine (GG.out _ _ _).mono ?_; rintro e w7 ⟨rfl, rfl⟩))
  all_goals
    go_ret
    exact ⟨rfl, (B2.out.no F3.out).no ((Fr.refl No _).alloc _), ((F2.out).trans F3.out.no).trans ((Fr.refl (Just g) _).alloc _)⟩
theorem f_wterminal {S : ByteArray} {v : Value} (h : Bk w g T cs) (hm : cs[9]? = some (.string S)) (ht : cs[24]? = some v) (hs : S.size ≤ 140737488355328) (hT : Tabs w) :
    Calls Tryz.prog 64 #[.pointer (some ⟨g, 0, none⟩)] w fun e w' => e = .returned (.int .i64 (padE S 8)) ∧ Bk w' g T (cs.set 24 (.string (bstr (padT S 8)))) ∧ Fr (Just g) w w' := by
  have cm := (h.cell 9).trans hm
  have H := Lib.hid h
  have HTT := Lib.hid ht
  have HB := Lib.hid (fun u (hu : Tabs u) => f_padded S 8 u hs (by decide) hu)
  clear h ht hm hs
  generalize padE S 8 = E at *
  generalize bstr (padT S 8) = R at *
  go_enter Tryz.func64, Tryz.ntmps64
  go_wp2_with (go_at_call 111; refine (HB.out _ hT).mono ?_; rintro e w1 ⟨rfl, f1⟩; have F1 := Lib.hid f1; have B1 := Lib.hid (H.out.no f1); have dm := ((H.out.no f1).cell 24).trans HTT.out; have zm := (H.out.no f1).frozen 24; clear f1)
  go_ret
  exact ⟨rfl, B1.out.set_ 24 _, (F1.out.no).trans (just_set _ _ _ _)⟩
theorem f_wmerchant {S : ByteArray} {v : Value} (h : Bk w g T cs) (hm : cs[8]? = some (.string S)) (ht : cs[25]? = some v) (hs : S.size ≤ 140737488355328) (hT : Tabs w) :
    Calls Tryz.prog 65 #[.pointer (some ⟨g, 0, none⟩)] w fun e w' => e = .returned (.int .i64 (padE S 15)) ∧ Bk w' g T (cs.set 25 (.string (bstr (padT S 15)))) ∧ Fr (Just g) w w' := by
  have cm := (h.cell 8).trans hm
  have H := Lib.hid h
  have HTT := Lib.hid ht
  have HB := Lib.hid (fun u (hu : Tabs u) => f_padded S 15 u hs (by decide) hu)
  clear h ht hm hs
  generalize padE S 15 = E at *
  generalize bstr (padT S 15) = R at *
  go_enter Tryz.func65, Tryz.ntmps65
  go_wp2_with (go_at_call 111; refine (HB.out _ hT).mono ?_; rintro e w1 ⟨rfl, f1⟩; have F1 := Lib.hid f1; have B1 := Lib.hid (H.out.no f1); have dm := ((H.out.no f1).cell 25).trans HTT.out; have zm := (H.out.no f1).frozen 25; clear f1)
  go_ret
  exact ⟨rfl, B1.out.set_ 25 _, (F1.out.no).trans (just_set _ _ _ _)⟩
theorem f_wtags {A : Option Addr} {n c : Nat} {ls : List TagL} {v27 : Value} (h : Bk w g T cs) (h16 : cs[16]? = some (.slice A n c)) (h27 : cs[27]? = some v27) (hl : RdI 2 TagI w (fun i => i < w.heap.size) A n c ls) :
    Calls Tryz.prog 67 #[.pointer (some ⟨g, 0, none⟩)] w fun e w' => e = .returned (.int .i64 (wrE ls)) ∧ Bk w' g T (cs.set 27 (.string (bstr (wrL ls)))) ∧ Fr (Just g) w w' := by
  have c16 := (h.cell 16).trans h16
  have H := Lib.hid h
  have H27 := Lib.hid h27
  have HW := Lib.hid (write_any w hl)
  unfold WroteT at HW
  clear h h16 h27 hl
  generalize wrE ls = E at *
  generalize wrL ls = L at *
  go_enter Tryz.func67, Tryz.ntmps67
  go_wp2_with (go_at_call 112; refine (HW.out).mono ?_; rintro e w1 ⟨v, rfl, ho, f1⟩; obtain ⟨V, vc, rfl, hr, -⟩ := Rd.of_own ho; have F1 := Lib.hid f1; have B1 := Lib.hid (H.out.no f1); have dm := ((H.out.no f1).cell 27).trans H27.out; have zm := (H.out.no f1).frozen 27; have hst := run_string (P := Tryz.prog) hr 22 5 Tryz.underlying22 Tryz.underlying5 9 Tryz.underlying9; clear f1 ho hr)
  go_ret
  exact ⟨rfl, B1.out.set_ 27 _, (F1.out.no).trans (just_set _ _ _ _)⟩
end
end Go.Proofs.YthlgnmgjfgbffaaGreatDoor
