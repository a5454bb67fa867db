/- The texts TxtProg, joined. -/
import Derived.Test.YthlgnmgjfgbffaaGreatDoorShelf
import Derived.Test.YthlgnmgjfgbffaaGreatDoorL15
import Derived.Test.YthlgnmgjfgbffaaGreatDoorL16
import Derived.Test.YthlgnmgjfgbffaaGreatDoorL07
import Derived.Laws.RangeAny
import Derived.LoopTactic
/- What package text does: contracts of its calls. -/
namespace Go.Proofs.YthlgnmgjfgbffaaGreatDoor
open Go.RowKit
set_option maxHeartbeats 400000
set_option linter.unusedVariables false

theorem t_may_any (c : Nat) (w : World) : Calls Tryz.prog 179 #[.int .i32 (c : Int)] w fun e w' => e = .returned (.bool (mayT c)) ∧ w = w' := by
  go_enter Tryz.func179, Tryz.ntmps179
  go_wp2
  all_goals
    go_ret
    refine ⟨ret_bool ?_, rfl⟩
    unfold mayT
    rw [Bool.eq_iff_iff]
    simp_all
    try omega

theorem text_utf8_wide (s : ByteArray) (w : World) (hs : s.size ≤ 140737488355328) (hT : Tabs w := by repeat' first | with_reducible assumption | with_reducible apply Tabs.drew | with_reducible apply Tabs.drewN | with_reducible apply Tabs.alloc | refine Tabs.fr ?_ (by with_reducible assumption)) :
    Calls Tryz.prog 139 #[.string s] w fun e w' => e = .returned (.bool (utf8B s.data.toList)) ∧ Fr No w w' := by
  cases hv : Lib.validD s.data.toList with
  | false =>
    have e := utf8_not_valid hv
    have HV := Lib.hid hv; have E := Lib.hid e
    clear hv e
    go_enter Tryz.func139, Tryz.ntmps139
    go_wp2_with (go_at_call 178; refine (Tryz.utf8_ValidString s _ (by omega) hT.u8).mono ?_; rw [HV.out]; rintro e w1 ⟨rfl, hb⟩)
    go_ret
    exact ⟨ret_bool E.out.symm, Fr.of_below hb⟩
  | true =>
    have HV := Lib.hid hv
    have hv0 : Lib.validD (s.data.toList.drop 0) = true := hv
    have HV0 := Lib.hid hv0
    clear hv hv0
    go_enter Tryz.func139, Tryz.ntmps139
    go_wp2_with (go_at_call 178; refine (Tryz.utf8_ValidString s _ (by omega) hT.u8).mono ?_; rw [HV.out]; rintro e w1 ⟨rfl, hb⟩)
    clear HV
    go_loopw [] (fun w' => ∃ pos : Nat, w' = w1.iter s pos ∧ Lib.validD (s.data.toList.drop pos) = true ∧ utf8B (s.data.toList.drop pos) = utf8B s.data.toList) (fun w' => s.size - w'.iterPos w1.heap.size)
    case atStart => exact ⟨0, rfl, HV0.out, rfl⟩
    case round =>
      obtain ⟨pos, rfl, hv, hu⟩ := hrel
      by_cases hp : pos < s.size
      · have hnx : ∀ ty, (Instr.next (.pointer (some ⟨w1.heap.size, 0, none⟩)) true ty).run Tryz.prog (w1.iter s pos) = _ := fun ty => run_next_any w1 s pos ty hp
        have hwd := Lib.decode_width_pos s pos hp
        obtain ⟨hbad, hv2⟩ := valid_next s pos hp hv
        have hst := utf8_next s pos hp hbad
        obtain ⟨C, hC⟩ : ∃ C, (Utf8.decode s pos).1 = C := ⟨_, rfl⟩
        rw [hC] at hst hnx
        obtain ⟨k, hk⟩ : ∃ k, (Utf8.decode s pos).2 = k := ⟨_, rfl⟩
        rw [hk] at hst hnx hwd hv2
        cases hm : mayT C with
        | true =>
          rw [hm, hu] at hst
          have HM := Lib.hid hm; have HS := Lib.hid hst; have HV2 := Lib.hid hv2
          clear hm hst hv2 hu hv hbad hC hk
          go_wp2_with (go_at_call 179; refine (t_may_any C _).mono ?_; rw [HM.out]; rintro e w' ⟨rfl, rfl⟩)
          go_roundw
          case rel => exact ⟨pos + k, rfl, HV2.out, HS.out.symm⟩
          case measure =>
            simp
            omega
        | false =>
          rw [hm, hu] at hst
          have HM := Lib.hid hm; have HS := Lib.hid hst
          clear hm hst hv2 hu hv hbad hC hk
          go_wp2_with (go_at_call 179; refine (t_may_any C _).mono ?_; rw [HM.out]; rintro e w' ⟨rfl, rfl⟩)
          go_ret
          exact ⟨ret_bool HS.out.symm, (Fr.of_below hb).trans (Fr.of_below ((Below.refl w1.heap.size w1).alloc (Nat.le_refl _) _))⟩
      · have hnx : ∀ ty, (Instr.next (.pointer (some ⟨w1.heap.size, 0, none⟩)) true ty).run Tryz.prog (w1.iter s pos) = _ := fun ty => run_next_end w1 s pos ty hp
        rw [utf8_end s pos hp] at hu
        have HU := Lib.hid hu
        clear hu hv
        go_wp2
        go_ret
        exact ⟨ret_bool HU.out, (Fr.of_below hb).trans (Fr.of_below ((Below.refl w1.heap.size w1).alloc (Nat.le_refl _) _))⟩
theorem text_utf8_any (s : ByteArray) (w : World) (hs : s.size ≤ 140737488355328) (hT : Tabs w := by repeat' first | with_reducible assumption | with_reducible apply Tabs.drew | with_reducible apply Tabs.drewN | with_reducible apply Tabs.alloc | refine Tabs.fr ?_ (by with_reducible assumption)) :
    Calls Tryz.prog 139 #[.string s] w fun e w' => e = .returned (.bool (utf8B s.data.toList)) ∧ Fr No w w' := text_utf8_wide s w (by omega) hT

theorem text_runes_any (s : ByteArray) (w : World) (hs : s.size ≤ 140737488355328) (hT : Tabs w := by repeat' first | with_reducible assumption | with_reducible apply Tabs.drew | with_reducible apply Tabs.drewN | with_reducible apply Tabs.alloc | refine Tabs.fr ?_ (by with_reducible assumption)) :
    Calls Tryz.prog 141 #[.string s] w fun e w' => e = .returned (.int .i64 (runesN s.data.toList : Int)) ∧ Fr No w w' := by
  cases hu : utf8B s.data.toList with
  | false =>
    have e : runesN s.data.toList = 0 := by
      unfold utf8B at hu
      unfold runesN
      cases h : cnt s.data.toList with
      | none => rfl
      | some n => rw [h] at hu; cases hu
    rw [e]
    have HU := Lib.hid hu
    clear hu e
    go_enter Tryz.func141, Tryz.ntmps141
    go_wp2_with (go_at_call 139; refine (text_utf8_any s _ hs).mono ?_; rw [HU.out]; rintro e w1 ⟨rfl, hf⟩)
    go_ret
    exact ⟨rfl, hf⟩
  | true =>
    have e := runes_count hu
    have HU := Lib.hid hu; have E := Lib.hid e
    clear hu e
    go_enter Tryz.func141, Tryz.ntmps141
    go_wp2_with (first
      | (go_at_call 139; refine (text_utf8_any s _ hs).mono ?_; rw [HU.out]; rintro e w1 ⟨rfl, hf⟩)
      | (go_at_call 180; refine (Tryz.utf8_RuneCountInString s _ (by omega)).mono ?_; rw [E.out]; rintro e w2 ⟨rfl, pos, rfl⟩))
    go_ret
    exact ⟨rfl, hf.trans (Fr.of_below ((Below.refl w1.heap.size w1).alloc (Nat.le_refl _) _))⟩

theorem pre_one (l : List UInt8) : Lib.hasPrefix l ({ data := #[32] } : ByteArray).data.toList = decide (l ≠ [] ∧ l.getD 0 0 = 32) := by
  cases l with
  | nil => rfl
  | cons b r =>
    show [32].isPrefixOf (b :: r) = _
    rw [Bool.eq_iff_iff]
    simp [List.isPrefixOf]
    exact eq_comm
theorem suf_one (l : List UInt8) : Lib.hasSuffix l ({ data := #[32] } : ByteArray).data.toList = decide (l ≠ [] ∧ l.getD (l.length - 1) 0 = 32) := by
  rcases List.eq_nil_or_concat l with rfl | ⟨r, b, rfl⟩
  · rfl
  · rw [List.concat_eq_append]
    show [32].isSuffixOf (r ++ [b]) = _
    rw [Bool.eq_iff_iff]
    simp [List.isSuffixOf, List.isPrefixOf]
    exact eq_comm
theorem plain_shape (l : List UInt8) (low top : Int) :
    plainB l low top = (utf8B l && ((decide (low ≤ (runesN l : Int)) && decide ((runesN l : Int) ≤ top)) && (allB l (fun c => decide (32 ≤ c.toNat)) && (!Lib.hasPrefix l ({ data := #[32] } : ByteArray).data.toList && !Lib.hasSuffix l ({ data := #[32] } : ByteArray).data.toList)))) := by
  rw [pre_one, suf_one, Bool.eq_iff_iff]
  unfold plainB lowest allB
  by_cases h : l = []
  · subst h; simp [and_assoc, and_comm]
  · simp [h]
    constructor
    · rintro ⟨a, b, c, d, e, f⟩; exact ⟨b, ⟨c, d⟩, a, e, f⟩
    · rintro ⟨b, ⟨c, d⟩, a, e, f⟩; exact ⟨a, b, c, d, e, f⟩

theorem text_plain_any (s : ByteArray) (low top : Int) (w : World) (hs : s.size ≤ 140737488355328) (hT : Tabs w := by repeat' first | with_reducible assumption | with_reducible apply Tabs.drew | with_reducible apply Tabs.drewN | with_reducible apply Tabs.alloc | refine Tabs.fr ?_ (by with_reducible assumption)) :
    Calls Tryz.prog 92 #[.string s, .int .i64 low, .int .i64 top] w fun e w' => e = .returned (.bool (plainB s.data.toList low top)) ∧ Fr No w w' := by
  rw [plain_shape]
  have hm : s.size ≤ maxLen := by unfold maxLen; omega
  have p1 := fun u (hT : Tabs u) => text_utf8_any s u hs hT
  have p2 := fun u (hT : Tabs u) => text_runes_any s u hs hT
  have p3 := fun u => t_every_any _ _ tests_above s u hm
  have p4 := fun u => Tryz.strings_HasPrefix s { data := #[32] } u
  have p5 := fun u => Tryz.strings_HasSuffix s { data := #[32] } u (by omega)
  generalize utf8B s.data.toList = q1 at p1
  generalize runesN s.data.toList = q2 at p2
  generalize allB s.data.toList (fun c => decide (32 ≤ c.toNat)) = q3 at p3
  generalize Lib.hasPrefix s.data.toList ({ data := #[32] } : ByteArray).data.toList = q4 at p4
  generalize Lib.hasSuffix s.data.toList ({ data := #[32] } : ByteArray).data.toList = q5 at p5
  have P1 := Lib.hid p1; have P2 := Lib.hid p2; have P3 := Lib.hid p3; have P4 := Lib.hid p4; have P5 := Lib.hid p5
  clear p1 p2 p3 p4 p5 hm hs
  go_enter Tryz.func92, Tryz.ntmps92
  go_wp2_with (first
    | (go_at_call 139; refine (P1.out _ hT).mono ?_; rintro e w1 ⟨rfl, hf1⟩)
    | (go_at_call 141; refine (P2.out _ (hT.fr hf1)).mono ?_; rintro e w2 ⟨rfl, hf2⟩)
    | (go_at_call 140; refine (t_within_any _ _ _ _).mono ?_; rintro e w' ⟨rfl, rfl⟩)
    | (go_at_call 142; refine (P3.out _).mono ?_; rintro e w' ⟨rfl, rfl⟩)
    | (go_at_call 144; refine (P4.out _).mono ?_; rintro e w' ⟨rfl, rfl⟩)
    | (go_at_call 145; refine (P5.out _).mono ?_; rintro e w' ⟨rfl, rfl⟩))
  all_goals
    go_ret
    refine ⟨ret_bool ?_, ?_⟩
    rotate_left
    first | exact hf1.trans hf2 | exact hf1
    first
      | (simp_all; done)
      | (simp_all; intros; omega)
end Go.Proofs.YthlgnmgjfgbffaaGreatDoor
