/- The texts TxtProg0, TxtProg, joined. -/
import Derived.Test.YthkjmbkfcnehoaaGreatDoorTxtM
import Derived.Test.YthkjmbkfcnehoaaGreatDoorSm
import Derived.Test.YthkjmbkfcnehoaaGreatDoorShelf
import Derived.Test.YthkjmbkfcnehoaaGreatDoorRefTxts
import Derived.Laws.RangeAny
import Derived.LoopTactic
/- What package text does with bytes alone: contracts of its calls that read no table. -/
namespace Go.Proofs.YthkjmbkfcnehoaaGreatDoor
open Go.RowKit
set_option maxHeartbeats 400000
set_option linter.unusedVariables false

def isDig (b : UInt8) : Bool := decide (48 ≤ b.toNat ∧ b.toNat ≤ 57)
def isLet (b : UInt8) : Bool := decide ((65 ≤ b.toNat ∧ b.toNat ≤ 90) ∨ (97 ≤ b.toNat ∧ b.toNat ≤ 122))
end Go.Proofs.YthkjmbkfcnehoaaGreatDoor
/- What package text does: contracts of its calls. -/
namespace Go.Proofs.YthkjmbkfcnehoaaGreatDoor
open Go.RowKit
set_option maxHeartbeats 400000
set_option linter.unusedVariables false

theorem t_may_any (c : Nat) (w : World) : Calls Tryz.prog 52 #[.int .i32 (c : Int)] w fun e w' => e = .returned (.bool (mayB c)) ∧ w = w' := by
  go_enter Tryz.func52, Tryz.ntmps52
  go_wp2
  all_goals
    go_ret
    refine ⟨ret_bool ?_, rfl⟩
    unfold mayB
    rw [Bool.eq_iff_iff]
    simp_all
    try omega

theorem text_utf8_wide (s : ByteArray) (w : World) (hs : s.size ≤ 1099511627776) (hT : Tabs w := by repeat' first | with_reducible assumption | with_reducible apply Tabs.drew | with_reducible apply Tabs.drewN | with_reducible apply Tabs.alloc | refine Tabs.fr ?_ (by with_reducible assumption)) :
    Calls Tryz.prog 34 #[.string s] w fun e w' => e = .returned (.bool (utf8B s.data.toList)) ∧ Fr No w w' := by
  cases hv : Lib.validD s.data.toList with
  | false =>
    have e := utf8_not_valid hv
    have HV := Lib.hid hv; have E := Lib.hid e
    clear hv e
    go_enter Tryz.func34, Tryz.ntmps34
    go_wp2_with (go_at_call 51; refine (Tryz.utf8_ValidString s _ (by omega) hT.u8).mono ?_; rw [HV.out]; rintro e w1 ⟨rfl, hb⟩)
    go_ret
    exact ⟨ret_bool E.out.symm, Fr.of_below hb⟩
  | true =>
    have HV := Lib.hid hv
    have hv0 : Lib.validD (s.data.toList.drop 0) = true := hv
    have HV0 := Lib.hid hv0
    clear hv hv0
    go_enter Tryz.func34, Tryz.ntmps34
    go_wp2_with (go_at_call 51; refine (Tryz.utf8_ValidString s _ (by omega) hT.u8).mono ?_; rw [HV.out]; rintro e w1 ⟨rfl, hb⟩)
    clear HV
    go_loopw [] (fun w' => ∃ pos : Nat, w' = w1.iter s pos ∧ Lib.validD (s.data.toList.drop pos) = true ∧ utf8B (s.data.toList.drop pos) = utf8B s.data.toList) (fun w' => s.size - w'.iterPos w1.heap.size)
    case atStart => exact ⟨0, rfl, HV0.out, rfl⟩
    case round =>
      obtain ⟨pos, rfl, hv, hu⟩ := hrel
      by_cases hp : pos < s.size
      · have hnx : ∀ ty, (Instr.next (.pointer (some ⟨w1.heap.size, 0, none⟩)) true ty).run Tryz.prog (w1.iter s pos) = _ := fun ty => run_next_any w1 s pos ty hp
        have hwd := Lib.decode_width_pos s pos hp
        obtain ⟨hbad, hv2⟩ := valid_next s pos hp hv
        have hst := utf8_next s pos hp hbad
        obtain ⟨C, hC⟩ : ∃ C, (Utf8.decode s pos).1 = C := ⟨_, rfl⟩
        rw [hC] at hst hnx
        obtain ⟨k, hk⟩ : ∃ k, (Utf8.decode s pos).2 = k := ⟨_, rfl⟩
        rw [hk] at hst hnx hwd hv2
        cases hm : mayB C with
        | true =>
          rw [hm, hu] at hst
          have HM := Lib.hid hm; have HS := Lib.hid hst; have HV2 := Lib.hid hv2
          clear hm hst hv2 hu hv hbad hC hk
          go_wp2_with (go_at_call 52; refine (t_may_any C _).mono ?_; rw [HM.out]; rintro e w' ⟨rfl, rfl⟩)
          go_roundw
          case rel => exact ⟨pos + k, rfl, HV2.out, HS.out.symm⟩
          case measure =>
            simp
            omega
        | false =>
          rw [hm, hu] at hst
          have HM := Lib.hid hm; have HS := Lib.hid hst
          clear hm hst hv2 hu hv hbad hC hk
          go_wp2_with (go_at_call 52; refine (t_may_any C _).mono ?_; rw [HM.out]; rintro e w' ⟨rfl, rfl⟩)
          go_ret
          exact ⟨ret_bool HS.out.symm, (Fr.of_below hb).trans (Fr.of_below ((Below.refl w1.heap.size w1).alloc (Nat.le_refl _) _))⟩
      · have hnx : ∀ ty, (Instr.next (.pointer (some ⟨w1.heap.size, 0, none⟩)) true ty).run Tryz.prog (w1.iter s pos) = _ := fun ty => run_next_end w1 s pos ty hp
        rw [utf8_end s pos hp] at hu
        have HU := Lib.hid hu
        clear hu hv
        go_wp2
        go_ret
        exact ⟨ret_bool HU.out, (Fr.of_below hb).trans (Fr.of_below ((Below.refl w1.heap.size w1).alloc (Nat.le_refl _) _))⟩
theorem text_utf8_any (s : ByteArray) (w : World) (hs : s.size ≤ 65536) (hT : Tabs w := by repeat' first | with_reducible assumption | with_reducible apply Tabs.drew | with_reducible apply Tabs.drewN | with_reducible apply Tabs.alloc | refine Tabs.fr ?_ (by with_reducible assumption)) :
    Calls Tryz.prog 34 #[.string s] w fun e w' => e = .returned (.bool (utf8B s.data.toList)) ∧ Fr No w w' := text_utf8_wide s w (by omega) hT

theorem pre_one (l : List UInt8) : Lib.hasPrefix l ({ data := #[32] } : ByteArray).data.toList = decide (l ≠ [] ∧ l.getD 0 0 = 32) := by
  cases l with
  | nil => rfl
  | cons b r =>
    show [32].isPrefixOf (b :: r) = _
    rw [Bool.eq_iff_iff]
    simp [List.isPrefixOf]
    exact eq_comm
theorem suf_one (l : List UInt8) : Lib.hasSuffix l ({ data := #[32] } : ByteArray).data.toList = decide (l ≠ [] ∧ l.getD (l.length - 1) 0 = 32) := by
  rcases List.eq_nil_or_concat l with rfl | ⟨r, b, rfl⟩
  · rfl
  · rw [List.concat_eq_append]
    show [32].isSuffixOf (r ++ [b]) = _
    rw [Bool.eq_iff_iff]
    simp [List.isSuffixOf, List.isPrefixOf]
    exact eq_comm
theorem plain_shape (l : List UInt8) (low top : Int) :
    plainB l low top = (utf8B l && ((decide (low ≤ (runesN l : Int)) && decide ((runesN l : Int) ≤ top)) && (allB l (fun c => decide (32 ≤ c.toNat)) && (!Lib.hasPrefix l ({ data := #[32] } : ByteArray).data.toList && !Lib.hasSuffix l ({ data := #[32] } : ByteArray).data.toList)))) := by
  rw [pre_one, suf_one, Bool.eq_iff_iff]
  unfold plainB lowest allB
  by_cases h : l = []
  · subst h; simp [and_assoc, and_comm]
  · simp [h]
    constructor
    · rintro ⟨a, b, c, d, e, f⟩; exact ⟨b, ⟨c, d⟩, a, e, f⟩
    · rintro ⟨b, ⟨c, d⟩, a, e, f⟩; exact ⟨a, b, c, d, e, f⟩

end Go.Proofs.YthkjmbkfcnehoaaGreatDoor
