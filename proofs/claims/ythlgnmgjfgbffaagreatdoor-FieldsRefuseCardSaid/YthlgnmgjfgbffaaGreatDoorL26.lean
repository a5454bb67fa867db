/- The texts FldS1, FldS2, FldD1, joined. -/
import Derived.Test.YthlgnmgjfgbffaaGreatDoorL13
import Derived.Test.YthlgnmgjfgbffaaGreatDoorL14
import Derived.Test.YthlgnmgjfgbffaaGreatDoorL11
import Derived.Test.YthlgnmgjfgbffaaGreatDoorL17
import Derived.Test.YthlgnmgjfgbffaaGreatDoorL19
import Derived.Test.YthlgnmgjfgbffaaGreatDoorL22
import Derived.Test.YthlgnmgjfgbffaaGreatDoorL24
import Derived.Test.YthlgnmgjfgbffaaGreatDoorL25
import Derived.Test.YthlgnmgjfgbffaaGreatDoorL10
import Derived.Test.YthlgnmgjfgbffaaGreatDoorL21
import Derived.Test.YthlgnmgjfgbffaaGreatDoorShelf
import Derived.BigQuiet
import Derived.Test.YthlgnmgjfgbffaaGreatDoorL39
/- Package fields: the steps of a sheet, and of the reader, one at a time: over a block that is known whole. -/
namespace Go.Proofs.YthlgnmgjfgbffaaGreatDoor
open Go.RowKit
set_option maxHeartbeats 1000000
set_option linter.unusedVariables false
set_option maxRecDepth 20000

/-- what a sheet's texts are asked -/
def sinceB (S : ByteArray) : Bool := (S.toList == []) || timeB S.data.toList
def keyB (S : ByteArray) : Bool := (S.toList == []) || (decide (S.size = 8) && unhexB S.data.toList)
def panB (S : ByteArray) : Bool := (S.toList == []) || rightB S.data.toList 12 (S.size : Int)
def actB (S : ByteArray) : Bool := (S.toList == []) || wK S
def trimA (S : ByteArray) : ByteArray := bstr (trimR S.data.toList)
def bareB (S : ByteArray) : Bool := (S.toList == []) || plainB (trimR S.data.toList) 1 ((trimR S.data.toList).length : Int)
theorem msgSizeF (m : MsgC) : (Tryz.prog.info? 38).map (·.size) = some m.cells.length := by kernel_rfl
theorem trim_lib (l : List UInt8) : Lib.trimRightB l 32 = trimR l := rfl
theorem numR_top (l : List UInt8) : numR l < 1000000000000000000 := by
  unfold numR
  split
  · rename_i h
    have h1 := rightB_len h
    have h2 := numV_le h1.2.2
    have h3 := Nat.pow_le_pow_right (n := 10) (by decide) (show l.length ≤ 18 by omega)
    omega
  · decide

theorem f_value (S : ByteArray) (w : World) (hs : S.size ≤ maxLen) : Calls Tryz.prog 50 #[.string S] w fun e w' => e = .returned (.int .u64 (numR S.data.toList : Int)) ∧ w = w' := by
  have HN := Lib.hid (fun u => number_any S u hs)
  clear hs
  generalize numR S.data.toList = N at *
  generalize numE S.data.toList = E at *
  go_enter Tryz.func50, Tryz.ntmps50
  go_wp2_with (go_at_call 88; refine (HN.out _).mono ?_; rintro e w1 ⟨rfl, rfl⟩)
  go_ret
  exact ⟨rfl, rfl⟩
section
variable {w : World} {g : Nat} {T : TypeId} {cs : List Value}
/-- whether the time is one -/
theorem f_time {S : ByteArray} (h : Bk w g T cs) (h2 : cs[2]? = some (.string S)) (hs : S.size ≤ maxLen) :
    Calls Tryz.prog 21 #[.pointer (some ⟨g, 0, none⟩)] w fun e w' => e = .returned (.int .i64 (if timeB S.data.toList = true then 0 else 14)) ∧ Fr No w w' := by
  have c2 := (h.cell 2).trans h2
  have HT := Lib.hid (fun u => s_time_any S u hs)
  have HU1 := Lib.hid (fun u => unless_any true 14 u)
  have HU0 := Lib.hid (fun u => unless_any false 14 u)
  rw [if_pos rfl] at HU1
  rw [if_neg (by decide)] at HU0
  clear h h2 hs
  cases hR : timeB S.data.toList
  all_goals
    rw [hR] at HT
    clear hR
    go_enter Tryz.func21, Tryz.ntmps21
    go_wp2_with (first
      | (go_at_call 51; refine (HT.out _).mono ?_; rintro e w1 ⟨rfl, d1⟩; have F1 := Lib.hid (Dr.fr (S := No) d1); clear d1)
      | (go_at_call 49; (with_reducible first | refine (HU1.out _).mono ?_ | refine (HU0.out _).mono ?_); rintro e w9 ⟨rfl, rfl⟩))
    go_ret
    exact ⟨rfl, F1.out⟩
/-- whether the time of the origin is one, if it is there -/
theorem f_since {S : ByteArray} (h : Bk w g T cs) (h15 : cs[15]? = some (.string S)) (hs : S.size ≤ maxLen) :
    Calls Tryz.prog 52 #[.pointer (some ⟨g, 0, none⟩)] w fun e w' => e = .returned (.int .i64 (if sinceB S = true then 0 else 14)) ∧ Fr No w w' := by
  have c15 := (h.cell 15).trans h15
  have HT := Lib.hid (fun u => s_time_any S u hs)
  have HU1 := Lib.hid (fun u => unless_any true 14 u)
  have HU0 := Lib.hid (fun u => unless_any false 14 u)
  rw [if_pos rfl] at HU1
  rw [if_neg (by decide)] at HU0
  clear h h15 hs
  unfold sinceB
  cases hE : (S.toList == [])
  · rw [Bool.false_or]
    cases hR : timeB S.data.toList
    all_goals
      rw [hR] at HT
      clear hR
      go_enter Tryz.func52, Tryz.ntmps52
      go_wp2_with (first
        | (go_at_call 51; refine (HT.out _).mono ?_; rintro e w1 ⟨rfl, d1⟩; have F1 := Lib.hid (Dr.fr (S := No) d1); clear d1)
        | (go_at_call 49; (with_reducible first | refine (HU1.out _).mono ?_ | refine (HU0.out _).mono ?_); rintro e w9 ⟨rfl, rfl⟩))
      go_ret
      exact ⟨rfl, F1.out⟩
  · rw [Bool.true_or, if_pos rfl]
    go_enter Tryz.func52, Tryz.ntmps52
    go_wp2_with (go_at_call 49; (with_reducible first | refine (HU1.out _).mono ?_ | refine (HU0.out _).mono ?_); rintro e w9 ⟨rfl, rfl⟩)
    go_ret
    exact ⟨rfl, Fr.refl _ _⟩
/-- whether the key may be, if it is there -/
theorem f_key {S : ByteArray} (h : Bk w g T cs) (h17 : cs[17]? = some (.string S)) (hs : S.size ≤ 140737488355328) :
    Calls Tryz.prog 25 #[.pointer (some ⟨g, 0, none⟩)] w fun e w' => e = .returned (.int .i64 (if keyB S = true then 0 else 14)) ∧ Fr No w w' := by
  have c17 := (h.cell 17).trans h17
  have HK := Lib.hid (fun u => unhex_any S u hs)
  unfold unhexE at HK
  have HU1 := Lib.hid (fun u => unless_any true 14 u)
  have HU0 := Lib.hid (fun u => unless_any false 14 u)
  rw [if_pos rfl] at HU1
  rw [if_neg (by decide)] at HU0
  have hs63 : (S.size : Int) ≤ 9223372036854775807 := by omega
  clear h h17 hs
  unfold keyB
  cases hE : (S.toList == [])
  · rw [Bool.false_or]
    by_cases h8 : S.size = 8
    · have h8I : (S.size : Int) = 8 := by omega
      rw [decide_eq_true h8, Bool.true_and]
      clear h8
      cases hR : unhexB S.data.toList
      all_goals
        rw [hR] at HK
        clear hR
        go_enter Tryz.func25, Tryz.ntmps25
        go_wp2_with (first
          | (go_at_call 54; refine (HK.out _).mono ?_; rintro e w1 ⟨v, rfl, ho, f1⟩; have F1 := Lib.hid f1; have d17 := f1.cell c17 (fun x => x); clear f1 ho)
          | (go_at_call 49; (with_reducible first | refine (HU1.out _).mono ?_ | refine (HU0.out _).mono ?_); rintro e w9 ⟨rfl, rfl⟩))
        go_ret
        exact ⟨rfl, F1.out⟩
    · have h8I : ¬ (S.size : Int) = 8 := by omega
      rw [decide_eq_false h8, Bool.false_and]
      clear h8
      go_enter Tryz.func25, Tryz.ntmps25
      go_wp2_with (first
        | (go_at_call 54; refine (HK.out _).mono ?_; rintro e w1 ⟨v, rfl, ho, f1⟩; have F1 := Lib.hid f1; have d17 := f1.cell c17 (fun x => x); clear f1 ho)
        | (go_at_call 49; (with_reducible first | refine (HU1.out _).mono ?_ | refine (HU0.out _).mono ?_); rintro e w9 ⟨rfl, rfl⟩))
      all_goals
        go_ret
        exact ⟨rfl, F1.out⟩
  · rw [Bool.true_or, if_pos rfl]
    go_enter Tryz.func25, Tryz.ntmps25
    go_wp2_with (first
      | (go_at_call 54; refine (HK.out _).mono ?_; rintro e w1 ⟨v, rfl, ho, f1⟩; have F1 := Lib.hid f1; have d17 := f1.cell c17 (fun x => x); clear f1 ho)
      | (go_at_call 49; (with_reducible first | refine (HU1.out _).mono ?_ | refine (HU0.out _).mono ?_); rintro e w9 ⟨rfl, rfl⟩))
    all_goals
      go_ret
      exact ⟨rfl, F1.out⟩
/-- whether the card's number may be, if it is there -/
theorem f_pan {S : ByteArray} (h : Bk w g T cs) (h4 : cs[4]? = some (.string S)) (hs : S.size ≤ maxLen) :
    Calls Tryz.prog 26 #[.pointer (some ⟨g, 0, none⟩)] w fun e w' => e = .returned (.int .i64 (if panB S = true then 0 else 14)) ∧ Dr w w' := by
  have c4 := (h.cell 4).trans h4
  have HR := Lib.hid (fun u => right_any S 12 (S.size : Int) u hs)
  have HU1 := Lib.hid (fun u => unless_any true 14 u)
  have HU0 := Lib.hid (fun u => unless_any false 14 u)
  rw [if_pos rfl] at HU1
  rw [if_neg (by decide)] at HU0
  have hs63 : (S.size : Int) ≤ 9223372036854775807 := by simp only [maxLen] at hs; omega
  clear h h4 hs
  unfold panB
  cases hE : (S.toList == [])
  · rw [Bool.false_or]
    cases hR : rightB S.data.toList 12 (S.size : Int)
    all_goals
      rw [hR] at HR
      clear hR
      go_enter Tryz.func26, Tryz.ntmps26
      go_wp2
      go_quiet (first | (go_at_call 55; exact quiet_same (HR.out _)) | (go_at_call 49; first | exact quiet_same (HU1.out _) | exact quiet_same (HU0.out _)))
      go_wp2
      go_ret
      exact ⟨rfl, (Dr.refl _).drewN _⟩
  · rw [Bool.true_or, if_pos rfl]
    go_enter Tryz.func26, Tryz.ntmps26
    go_wp2
    go_quiet (first | (go_at_call 55; exact quiet_same (HR.out _)) | (go_at_call 49; first | exact quiet_same (HU1.out _) | exact quiet_same (HU0.out _)))
    go_wp2
    go_ret
    exact ⟨rfl, (Dr.refl _).drewN _⟩
/-- whether the action is known, if it is there -/
theorem f_action {S : ByteArray} (h : Bk w g T cs) (h12 : cs[12]? = some (.string S)) (hT : Tabs w) :
    Calls Tryz.prog 27 #[.pointer (some ⟨g, 0, none⟩)] w fun e w' => e = .returned (.int .i64 (if actB S = true then 0 else 20)) ∧ Fr No w w' := by
  have c12 := (h.cell 12).trans h12
  have HK := Lib.hid (fun u (hu : Tabs u) => codes_known_any S u hu)
  have HU1 := Lib.hid (fun u => unless_any true 20 u)
  have HU0 := Lib.hid (fun u => unless_any false 20 u)
  rw [if_pos rfl] at HU1
  rw [if_neg (by decide)] at HU0
  clear h h12
  unfold actB
  cases hE : (S.toList == [])
  · rw [Bool.false_or]
    cases hR : wK S
    all_goals
      rw [hR] at HK
      clear hR
      go_enter Tryz.func27, Tryz.ntmps27
      go_wp2_with (first
        | (go_at_call 56; refine (HK.out _ hT).mono ?_; rintro e w1 ⟨rfl, f1⟩; have F1 := Lib.hid f1; clear f1)
        | (go_at_call 49; (with_reducible first | refine (HU1.out _).mono ?_ | refine (HU0.out _).mono ?_); rintro e w9 ⟨rfl, rfl⟩))
      go_ret
      exact ⟨rfl, F1.out⟩
  · rw [Bool.true_or, if_pos rfl]
    go_enter Tryz.func27, Tryz.ntmps27
    go_wp2_with (go_at_call 49; (with_reducible first | refine (HU1.out _).mono ?_ | refine (HU0.out _).mono ?_); rintro e w9 ⟨rfl, rfl⟩)
    go_ret
    exact ⟨rfl, Fr.refl _ _⟩
/-- whether there are not too many other elements -/
theorem f_few {A : Option Addr} {n c : Nat} (h : Bk w g T cs) (h20 : cs[20]? = some (.slice A n c)) (hn : n ≤ maxLen) :
    Calls Tryz.prog 28 #[.pointer (some ⟨g, 0, none⟩)] w fun e w' => e = .returned (.int .i64 (if n ≤ 8 then 0 else 4)) ∧ w = w' := by
  have c20 := (h.cell 20).trans h20
  have HU1 := Lib.hid (fun u => unless_any true 4 u)
  have HU0 := Lib.hid (fun u => unless_any false 4 u)
  rw [if_pos rfl] at HU1
  rw [if_neg (by decide)] at HU0
  have hn63 : (n : Int) ≤ 9223372036854775807 := by simp only [maxLen] at hn; omega
  clear h h20 hn
  by_cases h8 : n ≤ 8
  · have h8I : (n : Int) ≤ 8 := by omega
    rw [if_pos h8]
    clear h8
    go_enter Tryz.func28, Tryz.ntmps28
    go_wp2_with (go_at_call 49; (with_reducible first | refine (HU1.out _).mono ?_ | refine (HU0.out _).mono ?_); rintro e w9 ⟨rfl, rfl⟩)
    go_ret
    exact ⟨rfl, rfl⟩
  · have h8I : ¬ (n : Int) ≤ 8 := by omega
    rw [if_neg h8]
    clear h8
    go_enter Tryz.func28, Tryz.ntmps28
    go_wp2_with (go_at_call 49; (with_reducible first | refine (HU1.out _).mono ?_ | refine (HU0.out _).mono ?_); rintro e w9 ⟨rfl, rfl⟩)
    go_ret
    exact ⟨rfl, rfl⟩
/-- whether the message has what it must -/
theorem f_fits {m : MsgC} {tl : List Value} (h : Bk w g T (m.cells ++ tl)) (hk0 : -9223372036854775808 ≤ m.kind) (hk1 : m.kind ≤ 9223372036854775807) (hT : Tabs w) :
    Calls Tryz.prog 30 #[.pointer (some ⟨g, 0, none⟩)] w fun e w' => e = .returned (.int .i64 (fitsM m)) ∧ Fr No w w' := by
  have hrg : w.rangeAt g 0 m.cells := fun j v hv => by
    rw [Nat.zero_add, h.cell j, List.getElem?_append_left (List.getElem?_eq_some_iff.1 hv).1]; exact hv
  have HRG := Lib.hid hrg
  have HF := Lib.hid (fun u (hu : Tabs u) => kinds_fits_any m hk0 hk1 u hu)
  clear h hrg hk0 hk1
  go_enter Tryz.func30, Tryz.ntmps30
  go_wp2_with (first
    | (refine wpList_load_mid rfl 38 _ rfl g 0 rfl m.cells _ HRG.out (Tryz.underlying38) rfl (msgSizeF m) ?_; clear HRG)
    | (go_at_call 58; refine (HF.out _ hT).mono ?_; rintro e w1 ⟨rfl, f1⟩; have F1 := Lib.hid f1; clear f1))
  go_ret
  exact ⟨rfl, F1.out⟩
/-- the kind, of its number -/
theorem f_kind {S : ByteArray} {v0 : Value} (h : Bk w g T cs) (h28 : cs[28]? = some (.string S)) (h0 : cs[0]? = some v0) (hT : Tabs w) :
    Calls Tryz.prog 17 #[.pointer (some ⟨g, 0, none⟩)] w fun e w' => e = .returned (.int .i64 (if ofMti S ≠ 0 then 0 else 15)) ∧ Bk w' g T (cs.set 0 (.int .i64 (ofMti S))) ∧ Fr (Just g) w w' := by
  have c28 := (h.cell 28).trans h28
  have c0 := (h.cell 0).trans h0
  have H := Lib.hid h
  have HK := Lib.hid (fun u (hu : Tabs u) => kinds_ofmti_any S u hu)
  have HU1 := Lib.hid (fun u => unless_any true 15 u)
  have HU0 := Lib.hid (fun u => unless_any false 15 u)
  rw [if_pos rfl] at HU1
  rw [if_neg (by decide)] at HU0
  clear h h28 h0
  generalize ofMti S = K at *
  by_cases hK : K = 0
  · subst hK
    go_enter Tryz.func17, Tryz.ntmps17
    go_wp2_with (first
      | (go_at_call 48; refine (HK.out _ hT).mono ?_; rintro e w1 ⟨rfl, f1⟩; have F1 := Lib.hid f1; have d0 := f1.cell c0 (fun x => x); have z0 := (H.out.no f1).frozen 0; have B1 := Lib.hid (H.out.no f1); clear f1)
      | (go_at_call 49; (with_reducible first | refine (HU1.out _).mono ?_ | refine (HU0.out _).mono ?_); rintro e w9 ⟨rfl, rfl⟩))
    go_ret
    exact ⟨rfl, B1.out.set_ 0 _, (F1.out.no).setCell (.inl (Just.at g)) _⟩
  · have hKb : (K != 0) = true := by rw [bne_iff_ne]; exact hK
    rw [if_pos hK]
    clear hK
    go_enter Tryz.func17, Tryz.ntmps17
    go_wp2_with (first
      | (go_at_call 48; refine (HK.out _ hT).mono ?_; rintro e w1 ⟨rfl, f1⟩; have F1 := Lib.hid f1; have d0 := f1.cell c0 (fun x => x); have z0 := (H.out.no f1).frozen 0; have B1 := Lib.hid (H.out.no f1); clear f1)
      | (go_at_call 49; (with_reducible first | refine (HU1.out _).mono ?_ | refine (HU0.out _).mono ?_); rintro e w9 ⟨rfl, rfl⟩))
    go_ret
    exact ⟨rfl, B1.out.set_ 0 _, (F1.out.no).setCell (.inl (Just.at g)) _⟩
end
end Go.Proofs.YthlgnmgjfgbffaaGreatDoor
/- Package fields: the reader's steps that set what they read. -/
namespace Go.Proofs.YthlgnmgjfgbffaaGreatDoor
open Go.RowKit
set_option maxHeartbeats 1000000
set_option linter.unusedVariables false
set_option maxRecDepth 20000

def exchB (S Tm Ac : ByteArray) : Bool := !(S.toList == []) && (!(Tm.toList == []) && !(Ac.toList == []))
def entryB (S : ByteArray) : Bool := !(S.toList == [48, 48, 48])
theorem Bk.after {w : World} {g : Nat} {T : TypeId} {cs : List Value} (h : Bk w g T cs) (i j : Nat) (hne : i ≠ j) {v : Value} (hj : cs[j]? = some v) (u : Value) : (w.setCell ⟨g, i, none⟩ u).cell? ⟨g, j, none⟩ = some v := by
  rw [(h.set_ i u).cell j, List.getElem?_set_ne hne]
  exact hj
theorem trim_size (S : ByteArray) : (trimA S).size ≤ S.size := by
  unfold trimA
  rw [bstr_size]
  exact trim_len S.data.toList
theorem f_bare (S : ByteArray) (w : World) (hs : S.size ≤ 140737488355328) (hT : Tabs w) :
    Calls Tryz.prog 53 #[.string S] w fun e w' => e = .returned (.tuple #[.string (trimA S), .int .i64 (if bareB S = true then 0 else 14)]) ∧ Fr No w w' := by
  have hr : ∀ u, Calls Tryz.prog 91 #[.string S, .string ⟨#[32]⟩] u fun e w' => e = .returned (.string (trimA S)) ∧ w' = u := fun u => Tryz.strings_TrimRight_one S 32 (by decide) u (by omega)
  have HR := Lib.hid hr
  have hts := trim_size S
  have HP := Lib.hid (fun u (hu : Tabs u) => text_plain_any (trimA S) 1 ((trimA S).size : Int) u (by omega) hu)
  have hb : bareB S = ((S.toList == []) || plainB (trimA S).data.toList 1 ((trimA S).size : Int)) := by unfold bareB trimA; rw [bstr_size]; simp [bstr]
  rw [hb]
  have ht63 : ((trimA S).size : Int) ≤ 9223372036854775807 := by omega
  clear hs hts hb hr
  generalize trimA S = R at *
  have HU1 := Lib.hid (fun u => unless_any true 14 u)
  have HU0 := Lib.hid (fun u => unless_any false 14 u)
  rw [if_pos rfl] at HU1
  rw [if_neg (by decide)] at HU0
  cases hE : (S.toList == [])
  · rw [Bool.false_or]
    cases hR : plainB R.data.toList 1 (R.size : Int)
    all_goals
      rw [hR] at HP
      clear hR
      go_enter Tryz.func53, Tryz.ntmps53
      go_wp2_with (first
        | (go_at_call 91; refine (HR.out _).mono ?_; rintro e w1 ⟨rfl, rfl⟩)
        | (go_at_call 92; refine (HP.out _ hT).mono ?_; rintro e w1 ⟨rfl, f1⟩; have F1 := Lib.hid f1; clear f1)
        | (go_at_call 49; (with_reducible first | refine (HU1.out _).mono ?_ | refine (HU0.out _).mono ?_); rintro e w9 ⟨rfl, rfl⟩))
      go_ret2
      exact ⟨rfl, F1.out⟩
  · rw [Bool.true_or, if_pos rfl]
    go_enter Tryz.func53, Tryz.ntmps53
    go_wp2_with (first
      | (go_at_call 91; refine (HR.out _).mono ?_; rintro e w1 ⟨rfl, rfl⟩)
      | (go_at_call 49; refine (HU1.out _).mono ?_; rintro e w9 ⟨rfl, rfl⟩))
    go_ret2
    exact ⟨rfl, Fr.refl _ _⟩
section
variable {w : World} {g : Nat} {T : TypeId} {cs : List Value}
theorem just_set (w : World) (g i : Nat) (u : Value) : Fr (Just g) w (w.setCell ⟨g, i, none⟩ u) := (Fr.refl (Just g) w).setCell (.inl (Just.at g)) _
/-- what the message is named by -/
theorem f_exchange {S Tm Ac : ByteArray} {v1 : Value} (h : Bk w g T cs) (h21 : cs[21]? = some (.string S)) (h1 : cs[1]? = some v1) (h2 : cs[2]? = some (.string Tm)) (h3 : cs[3]? = some (.string Ac)) (hs : S.size ≤ maxLen) :
    Calls Tryz.prog 18 #[.pointer (some ⟨g, 0, none⟩)] w fun e w' => e = .returned (.int .i64 (if exchB S Tm Ac = true then 0 else 19)) ∧ Bk w' g T (cs.set 1 (.int .i64 (numR S.data.toList : Int))) ∧ Fr (Just g) w w' := by
  have c21 := (h.cell 21).trans h21
  have c1 := (h.cell 1).trans h1
  have c2 := (h.cell 2).trans h2
  have c3 := (h.cell 3).trans h3
  have z1 := h.frozen 1
  have H := Lib.hid h
  have HV := Lib.hid (fun u => f_value S u hs)
  have hN := numR_top S.data.toList
  have HU1 := Lib.hid (fun u => unless_any true 19 u)
  have HU0 := Lib.hid (fun u => unless_any false 19 u)
  rw [if_pos rfl] at HU1
  rw [if_neg (by decide)] at HU0
  clear h h21 h1 h2 h3 hs
  generalize numR S.data.toList = N at *
  have hNI : (N : Int) ≤ 9223372036854775807 := by omega
  clear hN
  unfold exchB
  cases hS : (S.toList == [])
  · cases hTm : (Tm.toList == [])
    · cases hAc : (Ac.toList == [])
      all_goals
        go_enter Tryz.func18, Tryz.ntmps18
        go_wp2_with (first
          | (go_at_call 50; refine (HV.out _).mono ?_; rintro e w1 ⟨rfl, rfl⟩)
          | (go_at_call 49; (with_reducible first | refine (HU1.out _).mono ?_ | refine (HU0.out _).mono ?_); rintro e w9 ⟨rfl, rfl⟩))
        go_ret
        exact ⟨rfl, H.out.set_ 1 _, just_set _ _ _ _⟩
    · go_enter Tryz.func18, Tryz.ntmps18
      go_wp2_with (first
        | (go_at_call 50; refine (HV.out _).mono ?_; rintro e w1 ⟨rfl, rfl⟩)
        | (go_at_call 49; (with_reducible first | refine (HU1.out _).mono ?_ | refine (HU0.out _).mono ?_); rintro e w9 ⟨rfl, rfl⟩))
      go_ret
      exact ⟨rfl, H.out.set_ 1 _, just_set _ _ _ _⟩
  · go_enter Tryz.func18, Tryz.ntmps18
    go_wp2_with (first
      | (go_at_call 50; refine (HV.out _).mono ?_; rintro e w1 ⟨rfl, rfl⟩)
      | (go_at_call 49; (with_reducible first | refine (HU1.out _).mono ?_ | refine (HU0.out _).mono ?_); rintro e w9 ⟨rfl, rfl⟩))
    go_ret
    exact ⟨rfl, H.out.set_ 1 _, just_set _ _ _ _⟩
/-- the amount -/
theorem f_amount {S C : ByteArray} {v6 : Value} (h : Bk w g T cs) (h22 : cs[22]? = some (.string S)) (h6 : cs[6]? = some v6) (h5 : cs[5]? = some (.string C)) (hs : S.size ≤ maxLen) :
    Calls Tryz.prog 19 #[.pointer (some ⟨g, 0, none⟩)] w fun e w' => e = .returned (.int .i64 (if ((S.toList == []) == (C.toList == [])) = true then 0 else 19)) ∧ Bk w' g T (cs.set 6 (.int .u64 (numR S.data.toList : Int))) ∧ Fr (Just g) w w' := by
  have c22 := (h.cell 22).trans h22
  have c6 := (h.cell 6).trans h6
  have z6 := h.frozen 6
  have H := Lib.hid h
  have HV := Lib.hid (fun u => f_value S u hs)
  have HU1 := Lib.hid (fun u => unless_any true 19 u)
  have HU0 := Lib.hid (fun u => unless_any false 19 u)
  rw [if_pos rfl] at HU1
  rw [if_neg (by decide)] at HU0
  have H22 := Lib.hid (fun u => h.after 6 22 (by decide) h22 u)
  have H5 := Lib.hid (fun u => h.after 6 5 (by decide) h5 u)
  clear h h22 h6 h5 hs
  generalize numR S.data.toList = N at *
  cases hS : (S.toList == []) <;> cases hC : (C.toList == [])
  all_goals
    go_enter Tryz.func19, Tryz.ntmps19
    go_upto_region 2 with (go_at_call 50; refine (HV.out _).mono ?_; rintro e w1 ⟨rfl, rfl⟩)
    have e22 := H22.out (.int .u64 (N : Int))
    have e5 := H5.out (.int .u64 (N : Int))
    have B2 := Lib.hid (H.out.set_ 6 (.int .u64 (N : Int)))
    have F2 := Lib.hid (just_set w g 6 (.int .u64 (N : Int)))
    generalize w.setCell ⟨g, 6, none⟩ (.int .u64 (N : Int)) = w2 at *
    go_quiet ((go_at_call 49; first | exact quiet_same (HU1.out _) | exact quiet_same (HU0.out _)))
    go_wp2
    go_ret
    exact ⟨rfl, B2.out.no ((Fr.refl _ _).drewN _), (F2.out).trans ((Fr.refl _ _).drewN _)⟩
/-- the entry -/
theorem f_entry {S : ByteArray} {v11 : Value} (h : Bk w g T cs) (h23 : cs[23]? = some (.string S)) (h11 : cs[11]? = some v11) (hs : S.size ≤ maxLen) :
    Calls Tryz.prog 20 #[.pointer (some ⟨g, 0, none⟩)] w fun e w' => e = .returned (.int .i64 (if entryB S = true then 0 else 19)) ∧ Bk w' g T (cs.set 11 (.int .i64 (numR S.data.toList : Int))) ∧ Fr (Just g) w w' := by
  have c23 := (h.cell 23).trans h23
  have c11 := (h.cell 11).trans h11
  have z11 := h.frozen 11
  have H := Lib.hid h
  have HV := Lib.hid (fun u => f_value S u hs)
  have hN := numR_top S.data.toList
  have HU1 := Lib.hid (fun u => unless_any true 19 u)
  have HU0 := Lib.hid (fun u => unless_any false 19 u)
  rw [if_pos rfl] at HU1
  rw [if_neg (by decide)] at HU0
  clear h h23 h11 hs
  generalize numR S.data.toList = N at *
  have hNI : (N : Int) ≤ 9223372036854775807 := by omega
  clear hN
  unfold entryB
  cases hS : (S.toList == [48, 48, 48])
  all_goals
    go_enter Tryz.func20, Tryz.ntmps20
    go_wp2_with (first
      | (go_at_call 50; refine (HV.out _).mono ?_; rintro e w1 ⟨rfl, rfl⟩)
      | (go_at_call 49; (with_reducible first | refine (HU1.out _).mono ?_ | refine (HU0.out _).mono ?_); rintro e w9 ⟨rfl, rfl⟩))
    go_ret
    exact ⟨rfl, H.out.set_ 11 _, just_set _ _ _ _⟩
/-- the origin -/
theorem f_origin_no {S O : ByteArray} (h : Bk w g T cs) (h26 : cs[26]? = some (.string S)) (h15 : cs[15]? = some (.string O)) (hO : O.size ≤ maxLen) (hS : (S.toList == []) = true) :
    Calls Tryz.prog 22 #[.pointer (some ⟨g, 0, none⟩)] w fun e w' => e = .returned (.int .i64 (if sinceB O = true then 0 else 14)) ∧ Fr No w w' := by
  have c26 := (h.cell 26).trans h26
  have HS := Lib.hid (f_since h h15 hO)
  clear h h26 h15 hO
  generalize (if sinceB O = true then (0 : Int) else 14) = E at *
  go_enter Tryz.func22, Tryz.ntmps22
  go_wp2_with (go_at_call 52; refine (HS.out).mono ?_; rintro e w1 ⟨rfl, f1⟩; have F1 := Lib.hid f1; clear f1)
  go_ret
  exact ⟨rfl, F1.out⟩
theorem f_origin {S : ByteArray} {v14 v15 : Value} (h : Bk w g T cs) (h26 : cs[26]? = some (.string S)) (h14 : cs[14]? = some v14) (h15 : cs[15]? = some v15) (hs : S.size ≤ 140737488355328) (hS : (S.toList == []) = false) (h6 : 6 ≤ S.size) :
    Calls Tryz.prog 22 #[.pointer (some ⟨g, 0, none⟩)] w fun e w' => e = .returned (.int .i64 (if sinceB (S.extract 6 S.size) = true then 0 else 14)) ∧ Bk w' g T ((cs.set 14 (.int .i64 (numR (S.extract 0 6).data.toList : Int))).set 15 (.string (S.extract 6 S.size))) ∧ Fr (Just g) w w' := by
  have c26 := (h.cell 26).trans h26
  have c14 := (h.cell 14).trans h14
  have c15 := (h.cell 15).trans h15
  have z14 := h.frozen 14
  have z15 := h.frozen 15
  have h6I : (6 : Int) ≤ (S.size : Int) := by omega
  have hsz : (S.extract 0 6).size ≤ maxLen := by rw [ByteArray.size_extract]; simp only [maxLen]; omega
  have hsz2 : (S.extract 6 S.size).size ≤ maxLen := by rw [ByteArray.size_extract]; simp only [maxLen]; omega
  have HV := Lib.hid (fun u => f_value (S.extract 0 6) u hsz)
  have hN := numR_top (S.extract 0 6).data.toList
  have HSI := Lib.hid (fun (u : World) (hu : Bk u g T ((cs.set 14 (.int .i64 (numR (S.extract 0 6).data.toList : Int))).set 15 (.string (S.extract 6 S.size)))) => f_since hu (by rw [List.getElem?_set_self (by rw [List.length_set]; exact (List.getElem?_eq_some_iff.1 h15).1)]) hsz2)
  have H := Lib.hid h
  clear h h26 h14 h15 h6 hsz hsz2
  generalize (if sinceB (S.extract 6 S.size) = true then (0 : Int) else 14) = E at *
  generalize numR (S.extract 0 6).data.toList = N at *
  have hNI : (N : Int) ≤ 9223372036854775807 := by omega
  have hs63 : (S.size : Int) ≤ 9223372036854775807 := by omega
  clear hN hs
  go_enter Tryz.func22, Tryz.ntmps22
  go_upto_region 2 with fail
  refine wp_region_reads 20 (by kernel_rfl) (by kernel_rfl) ?_
  intro w4 hd
  have d26 := hd.fr.cell (S := No) c26 (fun x => x)
  have d14 := hd.fr.cell (S := No) c14 (fun x => x)
  have d15 := hd.fr.cell (S := No) c15 (fun x => x)
  repeat still_step
  still_call ((HV.out _).mono (fun e w' h => ⟨h.1, h.2.symm⟩))
  repeat still_step
  refine wpStill_nil ?_
  clear HV
  have D4 := Lib.hid hd
  have B4 := Lib.hid ((H.out.no hd.fr))
  have y14 := (H.out.no hd.fr).frozen 14
  have y15 := (H.out.no hd.fr).frozen 15
  clear hd
  have B5 := Lib.hid ((B4.out.set_ 14 (.int .i64 (N : Int))).set_ 15 (.string (S.extract 6 S.size)))
  go_wp2_with (go_at_call 52; refine (HSI.out _ B5.out).mono ?_; rintro e w6 ⟨rfl, f6⟩; have F6 := Lib.hid f6; clear f6)
  go_ret
  exact ⟨rfl, B5.out.no F6.out, ((((Dr.fr (S := Just g) D4.out).trans (just_set _ _ _ _)).trans (just_set _ _ _ _)).trans (F6.out.no))⟩
theorem f_terminal {S : ByteArray} {v : Value} (h : Bk w g T cs) (ht : cs[24]? = some (.string S)) (hm : cs[9]? = some v) (hs : S.size ≤ 140737488355328) (hT : Tabs w) :
    Calls Tryz.prog 23 #[.pointer (some ⟨g, 0, none⟩)] w fun e w' => e = .returned (.int .i64 (if bareB S = true then 0 else 14)) ∧ Bk w' g T (cs.set 9 (.string (trimA S))) ∧ Fr (Just g) w w' := by
  have ct := (h.cell 24).trans ht
  have cm := (h.cell 9).trans hm
  have H := Lib.hid h
  have HB := Lib.hid (fun u (hu : Tabs u) => f_bare S u hs hu)
  clear h ht hm hs
  generalize (if bareB S = true then (0 : Int) else 14) = E at *
  generalize trimA S = R at *
  go_enter Tryz.func23, Tryz.ntmps23
  go_wp2_with (go_at_call 53; refine (HB.out _ hT).mono ?_; rintro e w1 ⟨rfl, f1⟩; have F1 := Lib.hid f1; have B1 := Lib.hid (H.out.no f1); have dm := f1.cell cm (fun x => x); have zm := (H.out.no f1).frozen 9; clear f1)
  go_ret
  exact ⟨rfl, B1.out.set_ 9 _, (F1.out.no).trans (just_set _ _ _ _)⟩
theorem f_merchant {S : ByteArray} {v : Value} (h : Bk w g T cs) (ht : cs[25]? = some (.string S)) (hm : cs[8]? = some v) (hs : S.size ≤ 140737488355328) (hT : Tabs w) :
    Calls Tryz.prog 24 #[.pointer (some ⟨g, 0, none⟩)] w fun e w' => e = .returned (.int .i64 (if bareB S = true then 0 else 14)) ∧ Bk w' g T (cs.set 8 (.string (trimA S))) ∧ Fr (Just g) w w' := by
  have ct := (h.cell 25).trans ht
  have cm := (h.cell 8).trans hm
  have H := Lib.hid h
  have HB := Lib.hid (fun u (hu : Tabs u) => f_bare S u hs hu)
  clear h ht hm hs
  generalize (if bareB S = true then (0 : Int) else 14) = E at *
  generalize trimA S = R at *
  go_enter Tryz.func24, Tryz.ntmps24
  go_wp2_with (go_at_call 53; refine (HB.out _ hT).mono ?_; rintro e w1 ⟨rfl, f1⟩; have F1 := Lib.hid f1; have B1 := Lib.hid (H.out.no f1); have dm := f1.cell cm (fun x => x); have zm := (H.out.no f1).frozen 8; clear f1)
  go_ret
  exact ⟨rfl, B1.out.set_ 8 _, (F1.out.no).trans (just_set _ _ _ _)⟩
/-- the tags: in new blocks -/
theorem f_tags {S : ByteArray} {v16 : Value} (h : Bk w g T cs) (h27 : cs[27]? = some (.string S)) (h16 : cs[16]? = some v16) (hs : S.size ≤ 100000) :
    Calls Tryz.prog 29 #[.pointer (some ⟨g, 0, none⟩)] w fun e w' => e = .returned (.int .i64 (if tlvE S.data.toList = 0 then 0 else 18)) ∧ ∃ A c, Bk w' g T (cs.set 16 (.slice A (tlvL S.data.toList).length c)) ∧ Fr (Just g) w w' ∧ RdI 2 TagI w' (fun i => w.heap.size ≤ i ∧ i < w'.heap.size) A (tlvL S.data.toList).length c (tlvL S.data.toList) := by
  have c27 := (h.cell 27).trans h27
  have c16 := (h.cell 16).trans h16
  have H := Lib.hid h
  have HS := Lib.hid hs
  have hl : S.data.toList.length = S.size := by simp
  have HP := Lib.hid (fun u A c (hr : Rd u A S.data.toList.length c (u8s S.data.toList)) => parse_any A S.data.toList.length c S.data.toList u hr (by omega))
  have HU1 := Lib.hid (fun u => unless_any true 18 u)
  have HU0 := Lib.hid (fun u => unless_any false 18 u)
  rw [if_pos rfl] at HU1
  rw [if_neg (by decide)] at HU0
  have HL := Lib.hid hl
  obtain ⟨l, hS⟩ : ∃ l, S = bstr l := ⟨S.data.toList, by cases S; simp [bstr]⟩
  subst hS
  have hbl : (bstr l).data.toList = l := by simp [bstr]
  rw [hbl] at HP HL ⊢
  clear h h27 h16 hs hl hbl
  generalize tlvE l = E at *
  generalize tlvL l = L at *
  by_cases hE : E = 0
  · subst hE
    go_enter Tryz.func29, Tryz.ntmps29
    go_wp2_with (first
      | (refine convM w rfl (.tmp 10) rfl l rfl (by have := HL.out; have := HS.out; omega) ?_; intro cc w1 ho1 f1 z1; obtain ⟨V1, c1, e1, hr1, hv1⟩ := ownM_rd ho1; injection e1 with e11 _ e12; subst e11 e12; have HR1 := Lib.hid hr1; have F1 := Lib.hid f1; clear ho1 hr1 f1 z1)
      | (go_at_call 57; refine (HP.out _ _ _ HR1.out).mono ?_; rintro e w2 ⟨v, rfl, ho2, f2⟩; obtain ⟨A2, c2, rfl, hr2⟩ := ho2.rd (fun i h1 h2 => ⟨h1, h2⟩); have R2 := Lib.hid hr2; have F2 := Lib.hid (F1.out.trans f2); have FS := Lib.hid F1.out.size; have d16 := F2.out.cell c16 (fun x => x); have z16 := (H.out.no F2.out).frozen 16; have B2 := Lib.hid (H.out.no F2.out); clear ho2 hr2 f2)
      | (go_at_call 49; (with_reducible first | refine (HU1.out _).mono ?_ | refine (HU0.out _).mono ?_); rintro e w9 ⟨rfl, rfl⟩))
    go_ret
    exact ⟨rfl, A2, c2, B2.out.set_ 16 _, (F2.out.no).trans (just_set _ _ _ _), (RdI.fr tag_ok R2.out (just_set w2 g 16 (.slice A2 L.length c2)) (fun i hi e => by have h1 : i = g := e; have h2 := H.out.lt; have h3 := FS.out; omega)).mono tag_ok (fun i hi => ⟨by have h3 := FS.out; omega, by simpa using hi.2⟩)⟩
  · have hEb : (E == 0) = false := by rw [beq_eq_false_iff_ne]; exact hE
    rw [if_neg hE]
    have HE := Lib.hid hE
    clear hE
    go_enter Tryz.func29, Tryz.ntmps29
    go_wp2_with (first
      | (refine convM w rfl (.tmp 10) rfl l rfl (by have := HL.out; have := HS.out; omega) ?_; intro cc w1 ho1 f1 z1; obtain ⟨V1, c1, e1, hr1, hv1⟩ := ownM_rd ho1; injection e1 with e11 _ e12; subst e11 e12; have HR1 := Lib.hid hr1; have F1 := Lib.hid f1; clear ho1 hr1 f1 z1)
      | (go_at_call 57; refine (HP.out _ _ _ HR1.out).mono ?_; rintro e w2 ⟨v, rfl, ho2, f2⟩; obtain ⟨A2, c2, rfl, hr2⟩ := ho2.rd (fun i h1 h2 => ⟨h1, h2⟩); have R2 := Lib.hid hr2; have F2 := Lib.hid (F1.out.trans f2); have FS := Lib.hid F1.out.size; have d16 := F2.out.cell c16 (fun x => x); have z16 := (H.out.no F2.out).frozen 16; have B2 := Lib.hid (H.out.no F2.out); clear ho2 hr2 f2)
      | (go_at_call 49; (with_reducible first | refine (HU1.out _).mono ?_ | refine (HU0.out _).mono ?_); rintro e w9 ⟨rfl, rfl⟩))
    go_ret
    exact ⟨rfl, A2, c2, B2.out.set_ 16 _, (F2.out.no).trans (just_set _ _ _ _), (RdI.fr tag_ok R2.out (just_set w2 g 16 (.slice A2 L.length c2)) (fun i hi e => by have h1 : i = g := e; have h2 := H.out.lt; have h3 := FS.out; omega)).mono tag_ok (fun i hi => ⟨by have h3 := FS.out; omega, by simpa using hi.2⟩)⟩
end
end Go.Proofs.YthlgnmgjfgbffaaGreatDoor
/- Package fields: Decode's steps, one behind the other. -/
namespace Go.Proofs.YthlgnmgjfgbffaaGreatDoor
open Go.RowKit
set_option maxHeartbeats 1000000
set_option linter.unusedVariables false
set_option maxRecDepth 20000

/-- the sheet behind k steps -/
def decSh (k : Nat) (t : List UInt8) (f : Int → List UInt8) (tA : Option Addr) (tn tc : Nat) (oA : Option Addr) (on oc : Nat) : FSh where
  txt := f
  kind := if 1 ≤ k then ofMti (bstr t) else 0
  stan := if 2 ≤ k then (numR (f 11) : Int) else 0
  amount := if 3 ≤ k then (numR (f 4) : Int) else 0
  mer := if 8 ≤ k then trimA (bstr (f 42)) else ⟨#[]⟩
  ter := if 7 ≤ k then trimA (bstr (f 41)) else ⟨#[]⟩
  entry := if 4 ≤ k then (numR (f 22) : Int) else 0
  ostan := if 6 ≤ k then (numR ((f 56).take 6) : Int) else 0
  otime := if 6 ≤ k then bstr ((f 56).drop 6) else ⟨#[]⟩
  note := ⟨#[]⟩
  tA := tA
  tn := tn
  tc := tc
  eA := none
  en := 0
  ec := 0
  oA := oA
  on := on
  oc := oc
/-- why each step fails -/
def decEs (t : List UInt8) (f : Int → List UInt8) (on : Nat) : List Int := [
  if ofMti (bstr t) ≠ 0 then 0 else 15,
  if exchB (bstr (f 11)) (bstr (f 12)) (bstr (f 32)) = true then 0 else 19,
  if (((bstr (f 4)).toList == []) == ((bstr (f 49)).toList == [])) = true then 0 else 19,
  if entryB (bstr (f 22)) = true then 0 else 19,
  if timeB (f 12) = true then 0 else 14,
  if sinceB (bstr ((f 56).drop 6)) = true then 0 else 14,
  if bareB (bstr (f 41)) = true then 0 else 14,
  if bareB (bstr (f 42)) = true then 0 else 14,
  if keyB (bstr (f 48)) = true then 0 else 14,
  if panB (bstr (f 2)) = true then 0 else 14,
  if actB (bstr (f 39)) = true then 0 else 20,
  if on ≤ 8 then 0 else 4,
  if tlvE (f 55) = 0 then 0 else 18,
  fitsM (decSh 14 t f none (tlvL (f 55)).length 0 none on 0).msg]
section
variable (w0 : World) (g : Nat) (t : List UInt8) (f : Int → List UInt8) (oA : Option Addr) (on oc : Nat)
/-- how the tags stand behind k steps -/
def DecT (k : Nat) (u : World) (tA : Option Addr) (tn tc : Nat) : Prop :=
  (13 ≤ k → tn = (tlvL (f 55)).length ∧ RdI 2 TagI u (fun i => w0.heap.size ≤ i ∧ i < u.heap.size) tA tn tc (tlvL (f 55))) ∧ (k < 13 → tA = none ∧ tn = 0 ∧ tc = 0)
def DecR (k : Nat) (u : World) : Prop :=
  Fr (Just g) w0 u ∧ (∀ j, j < k → (decEs t f on)[j]? = some 0) ∧ ∃ tA tn tc, DecT w0 f k u tA tn tc ∧ Bk u g 62 ((decSh k t f tA tn tc oA on oc).cells ++ [.string (bstr t)])
def DecQ (E : Int) (u : World) : Prop := Fr (Just g) w0 u ∧ firstE (decEs t f on) = E
end
section
variable {w0 : World} {g : Nat} {t : List UInt8} {f : Int → List UInt8} {oA : Option Addr} {on oc : Nat}
theorem dec_to {k : Nat} {u w' : World} {E : Int} (h : DecR w0 g t f oA on oc k u) (he : (decEs t f on)[k]? = some E) (hf : Fr (Just g) u w') (hst : ∃ tA tn tc, DecT w0 f (k + 1) w' tA tn tc ∧ Bk w' g 62 ((decSh (k + 1) t f tA tn tc oA on oc).cells ++ [.string (bstr t)])) :
    SWTo (DecR w0 g t f oA on oc (k + 1)) (DecQ w0 g t f on) (.returned (.int .i64 E)) w' := by
  obtain ⟨hf0, hz, -⟩ := h
  refine ⟨E, rfl, ?_⟩
  by_cases hE : E = 0
  · refine .inl ⟨hE, hf0.trans hf, fun j hj => ?_, hst⟩
    rcases Nat.lt_or_ge j k with h1 | h1
    · exact hz j h1
    · obtain rfl : j = k := by omega
      rw [he, hE]
  · exact .inr ⟨hE, hf0.trans hf, firstE_here _ k E hz he hE⟩
theorem decT_low {k : Nat} {u u' : World} {tA : Option Addr} {tn tc : Nat} (h : DecT w0 f k u tA tn tc) (hk : k + 1 < 13) : DecT w0 f (k + 1) u' tA tn tc := ⟨fun h1 => by omega, fun _ => h.2 (by omega)⟩
theorem decT_fr {k : Nat} {u u' : World} {tA : Option Addr} {tn tc : Nat} (h : DecT w0 f k u tA tn tc) (hk : 13 ≤ k) (hf : Fr No u u') : DecT w0 f (k + 1) u' tA tn tc :=
  ⟨fun _ => ⟨(h.1 hk).1, ((h.1 hk).2.no tag_ok hf).mono tag_ok (fun i hi => ⟨hi.1, Nat.lt_of_lt_of_le hi.2 hf.size⟩)⟩, fun h1 => by omega⟩
abbrev readV (g : Nat) : List Value := [.func (.func 17) #[.pointer (some ⟨g, 0, none⟩)] #[], .func (.func 18) #[.pointer (some ⟨g, 0, none⟩)] #[], .func (.func 19) #[.pointer (some ⟨g, 0, none⟩)] #[], .func (.func 20) #[.pointer (some ⟨g, 0, none⟩)] #[],
  .func (.func 21) #[.pointer (some ⟨g, 0, none⟩)] #[], .func (.func 22) #[.pointer (some ⟨g, 0, none⟩)] #[], .func (.func 23) #[.pointer (some ⟨g, 0, none⟩)] #[], .func (.func 24) #[.pointer (some ⟨g, 0, none⟩)] #[],
  .func (.func 25) #[.pointer (some ⟨g, 0, none⟩)] #[], .func (.func 26) #[.pointer (some ⟨g, 0, none⟩)] #[], .func (.func 27) #[.pointer (some ⟨g, 0, none⟩)] #[], .func (.func 28) #[.pointer (some ⟨g, 0, none⟩)] #[],
  .func (.func 29) #[.pointer (some ⟨g, 0, none⟩)] #[], .func (.func 30) #[.pointer (some ⟨g, 0, none⟩)] #[]]
theorem kindF_le (p : KRow → Bool) : ∀ (n k : Nat), 0 ≤ kindF p k n ∧ kindF p k n ≤ (k + n : Nat)
  | 0, k => ⟨Int.le_refl _, by unfold kindF; omega⟩
  | n + 1, k => by
    unfold kindF
    split
    · omega
    · have := kindF_le p n (k + 1)
      omega
theorem ofMti_small (S : ByteArray) : -9223372036854775808 ≤ ofMti S ∧ ofMti S ≤ 9223372036854775807 := by
  have h := kindF_le (fun r => r.mti.data.toList == S.data.toList) 11 1
  have e : ofMti S = kindF (fun r => r.mti.data.toList == S.data.toList) 1 11 := rfl
  rw [e]
  omega
theorem fbs_cut (l : List UInt8) (k : Nat) : (bstr l).extract k (bstr l).size = bstr (l.drop k) := by
  apply ByteArray.ext
  rw [ByteArray.data_extract]
  show (bstr l).data.extract k (bstr l).data.size = (l.drop k).toArray
  apply Array.ext'
  simp [bstr]
  exact List.take_of_length_le (by simp)
theorem bs_size (l : List UInt8) {n : Nat} (h : l.length ≤ n) : (bstr l).size ≤ n := by rw [bstr_size]; exact h
theorem dec_steps (hsz : ∀ n, (f n).length ≤ 100000) (h56 : f 56 = [] ∨ 6 ≤ (f 56).length) (hon : on ≤ 1000) (hT : ∀ u, Fr (Just g) w0 u → Tabs u) (i : Nat) (hi : i < 14) :
    ∃ F x, (readV g)[i]? = some (.func (.func F) #[x] #[]) ∧ (∀ args w, (callFunc F args).run Tryz.prog w = .ok (.enter F args) w) ∧ ∀ u, DecR w0 g t f oA on oc i u → Calls Tryz.prog F #[x] u (SWTo (DecR w0 g t f oA on oc (i + 1)) (DecQ w0 g t f on)) := by
  have hM : ∀ n, (bstr (f n)).size ≤ maxLen := fun n => by have := bs_size (f n) (hsz n); simp only [maxLen]; omega
  have hB : ∀ n, (bstr (f n)).size ≤ 140737488355328 := fun n => by have := bs_size (f n) (hsz n); omega
  have h14 : i = 0 ∨ i = 1 ∨ i = 2 ∨ i = 3 ∨ i = 4 ∨ i = 5 ∨ i = 6 ∨ i = 7 ∨ i = 8 ∨ i = 9 ∨ i = 10 ∨ i = 11 ∨ i = 12 ∨ i = 13 := by omega
  rcases h14 with rfl | rfl | rfl | rfl | rfl | rfl | rfl | rfl | rfl | rfl | rfl | rfl | rfl | rfl
  · refine ⟨_, _, rfl, fun args w => rfl, fun u h => ?_⟩
    obtain ⟨tA, tn, tc, ht, hb⟩ := h.2.2
    refine (f_kind hb rfl rfl (hT u h.1)).mono ?_
    rintro e w' ⟨rfl, hb', hf⟩
    exact dec_to h rfl hf ⟨tA, tn, tc, decT_low ht (by omega), hb'⟩
  · refine ⟨_, _, rfl, fun args w => rfl, fun u h => ?_⟩
    obtain ⟨tA, tn, tc, ht, hb⟩ := h.2.2
    refine (f_exchange hb rfl rfl rfl rfl (hM 11)).mono ?_
    rintro e w' ⟨rfl, hb', hf⟩
    exact dec_to h rfl hf ⟨tA, tn, tc, decT_low ht (by omega), hb'⟩
  · refine ⟨_, _, rfl, fun args w => rfl, fun u h => ?_⟩
    obtain ⟨tA, tn, tc, ht, hb⟩ := h.2.2
    refine (f_amount hb rfl rfl rfl (hM 4)).mono ?_
    rintro e w' ⟨rfl, hb', hf⟩
    exact dec_to h rfl hf ⟨tA, tn, tc, decT_low ht (by omega), hb'⟩
  · refine ⟨_, _, rfl, fun args w => rfl, fun u h => ?_⟩
    obtain ⟨tA, tn, tc, ht, hb⟩ := h.2.2
    refine (f_entry hb rfl rfl (hM 22)).mono ?_
    rintro e w' ⟨rfl, hb', hf⟩
    exact dec_to h rfl hf ⟨tA, tn, tc, decT_low ht (by omega), hb'⟩
  · refine ⟨_, _, rfl, fun args w => rfl, fun u h => ?_⟩
    obtain ⟨tA, tn, tc, ht, hb⟩ := h.2.2
    refine (f_time hb rfl (hM 12)).mono ?_
    rintro e w' ⟨rfl, hf⟩
    exact dec_to h rfl hf.no ⟨tA, tn, tc, decT_low ht (by omega), hb.no hf⟩
  · refine ⟨_, _, rfl, fun args w => rfl, fun u h => ?_⟩
    obtain ⟨tA, tn, tc, ht, hb⟩ := h.2.2
    rcases h56 with h56 | h56
    · refine (f_origin_no (S := bstr (f 56)) (O := ⟨#[]⟩) hb rfl rfl (by decide) (by rw [h56, bstr_toList]; rfl)).mono ?_
      rintro e w' ⟨rfl, hf⟩
      refine dec_to h ?_ hf.no ⟨tA, tn, tc, decT_low ht (by omega), ?_⟩
      · show some (if sinceB (bstr ((f 56).drop 6)) = true then (0 : Int) else 14) = _
        rw [h56]
        rfl
      · have e : (decSh 6 t f tA tn tc oA on oc).cells = (decSh 5 t f tA tn tc oA on oc).cells := by
          unfold decSh FSh.cells FSh.msg FSh.texts
          simp only [h56]
          rfl
        rw [e]
        exact hb.no hf
    · have hne : ((bstr (f 56)).toList == []) = false := by
        rw [bstr_toList]
        cases hh : f 56 with
        | nil => rw [hh] at h56; simp at h56
        | cons a l => rfl
      refine (f_origin (S := bstr (f 56)) hb rfl rfl rfl (hB 56) hne (by rw [bstr_size]; exact h56)).mono ?_
      rintro e w' ⟨rfl, hb', hf⟩
      have e1 : ((bstr (f 56)).extract 0 6).data.toList = (f 56).take 6 := by rw [s_ext]; rfl
      have e2 : (bstr (f 56)).extract 6 (bstr (f 56)).size = bstr ((f 56).drop 6) := fbs_cut _ 6
      rw [e1, e2] at hb'
      rw [e2]
      exact dec_to h rfl hf ⟨tA, tn, tc, decT_low ht (by omega), hb'⟩
  · refine ⟨_, _, rfl, fun args w => rfl, fun u h => ?_⟩
    obtain ⟨tA, tn, tc, ht, hb⟩ := h.2.2
    refine (f_terminal hb rfl rfl (hB 41) (hT u h.1)).mono ?_
    rintro e w' ⟨rfl, hb', hf⟩
    exact dec_to h rfl hf ⟨tA, tn, tc, decT_low ht (by omega), hb'⟩
  · refine ⟨_, _, rfl, fun args w => rfl, fun u h => ?_⟩
    obtain ⟨tA, tn, tc, ht, hb⟩ := h.2.2
    refine (f_merchant hb rfl rfl (hB 42) (hT u h.1)).mono ?_
    rintro e w' ⟨rfl, hb', hf⟩
    exact dec_to h rfl hf ⟨tA, tn, tc, decT_low ht (by omega), hb'⟩
  · refine ⟨_, _, rfl, fun args w => rfl, fun u h => ?_⟩
    obtain ⟨tA, tn, tc, ht, hb⟩ := h.2.2
    refine (f_key hb rfl (hB 48)).mono ?_
    rintro e w' ⟨rfl, hf⟩
    exact dec_to h rfl hf.no ⟨tA, tn, tc, decT_low ht (by omega), hb.no hf⟩
  · refine ⟨_, _, rfl, fun args w => rfl, fun u h => ?_⟩
    obtain ⟨tA, tn, tc, ht, hb⟩ := h.2.2
    refine (f_pan hb rfl (hM 2)).mono ?_
    rintro e w' ⟨rfl, hd⟩
    exact dec_to h rfl (Dr.fr hd) ⟨tA, tn, tc, decT_low ht (by omega), hb.no (Dr.fr hd)⟩
  · refine ⟨_, _, rfl, fun args w => rfl, fun u h => ?_⟩
    obtain ⟨tA, tn, tc, ht, hb⟩ := h.2.2
    refine (f_action hb rfl (hT u h.1)).mono ?_
    rintro e w' ⟨rfl, hf⟩
    exact dec_to h rfl hf.no ⟨tA, tn, tc, decT_low ht (by omega), hb.no hf⟩
  · refine ⟨_, _, rfl, fun args w => rfl, fun u h => ?_⟩
    obtain ⟨tA, tn, tc, ht, hb⟩ := h.2.2
    refine (f_few (n := on) hb rfl (by simp only [maxLen]; omega)).mono ?_
    rintro e w' ⟨rfl, rfl⟩
    exact dec_to h rfl (Fr.refl _ _) ⟨tA, tn, tc, decT_low ht (by omega), hb⟩
  · refine ⟨_, _, rfl, fun args w => rfl, fun u h => ?_⟩
    obtain ⟨tA, tn, tc, ht, hb⟩ := h.2.2
    refine (f_tags hb rfl rfl (bs_size _ (hsz 55))).mono ?_
    rintro e w' ⟨rfl, A, c, hb', hf, hr⟩
    exact dec_to h rfl hf ⟨A, (tlvL (f 55)).length, c, ⟨fun _ => ⟨rfl, hr.mono tag_ok (fun i hi => ⟨Nat.le_trans h.1.size hi.1, hi.2⟩)⟩, fun h1 => by omega⟩, hb'⟩
  · refine ⟨_, _, rfl, fun args w => rfl, fun u h => ?_⟩
    obtain ⟨tA, tn, tc, ht, hb⟩ := h.2.2
    refine (f_fits (m := (decSh 13 t f tA tn tc oA on oc).msg) (tl := (decSh 13 t f tA tn tc oA on oc).texts ++ [.string (bstr t)]) (by rw [← List.append_assoc]; exact hb) (ofMti_small _).1 (ofMti_small _).2 (hT u h.1)).mono ?_
    rintro e w' ⟨rfl, hf⟩
    refine dec_to h ?_ hf.no ⟨tA, tn, tc, decT_fr ht (by omega) hf, hb.no hf⟩
    rw [(ht.1 (by omega)).1]
    rfl
end
end Go.Proofs.YthlgnmgjfgbffaaGreatDoor
