/- The statements' own answers about texts: how many characters, and of which kinds. -/
import Derived.Test.YtdgfpjekahpggaaGreatDoorRefChr
namespace Go.Proofs.YtdgfpjekahpggaaGreatDoor
open Go.RowKit
set_option maxHeartbeats 1000000
set_option linter.unusedVariables false

/-- how many characters, or -1 -/
def cntZ (l : List UInt8) : Int := match cnt l with
  | none => -1
  | some n => n
theorem cntZ_utf8 (l : List UInt8) : decide (0 ≤ cntZ l) = utf8B l := by
  unfold cntZ utf8B
  cases cnt l <;> simp
theorem cntZ_runes (l : List UInt8) : max 0 (cntZ l) = (runesN l : Int) := by
  unfold cntZ runesN
  cases cnt l with
  | none => rfl
  | some n => simp
theorem cntZ_bound (l : List UInt8) : -1 ≤ cntZ l ∧ cntZ l ≤ l.length := by
  unfold cntZ
  cases h : cnt l with
  | none => simp
  | some n => have := cnt_le _ l (Nat.le_refl _) n h; simp; omega

set_option maxRecDepth 100000 in
theorem ref_count_any (s : ByteArray) (w : World) (hs : s.size ≤ 65536) :
    Calls Tryz.prog 50 #[.string s] w fun e w' => e = .returned (.int .i64 (cntZ s.data.toList)) ∧ w = w' := by
  have hl : s.data.toList.length = s.size := by simp
  have HL := Lib.hid hl
  clear hl
  go_enter Tryz.func50, Tryz.ntmps50
  go_wp2
  go_loop [3, 4] (fun nv iv => ∃ n i : Nat, n ≤ i ∧ i ≤ s.size ∧ nv = .int .i64 (n : Int) ∧ iv = .int .i64 (i : Int) ∧ cnt s.data.toList = (cnt (s.data.toList.drop i)).map (n + ·)) (fun _ iv => s.size - (intOf iv).toNat)
  case atStart => exact ⟨0, 0, Nat.le_refl _, Nat.zero_le _, rfl, rfl, by cases h : cnt s.data.toList <;> simp [h]⟩
  case round =>
    obtain ⟨n, i, hni, hi, rfl, rfl, hc⟩ := hrel
    rcases Nat.lt_or_ge i s.size with hlt | hge
    · have hne : s.data.toList.drop i ≠ [] := by
        intro e
        have := congrArg List.length e
        rw [List.length_drop, HL.out, List.length_nil] at this
        omega
      have hst := cnt_step hne
      by_cases hz : sizeB (s.data.toList.drop i) = 0
      · rw [if_pos hz] at hst
        have hr : cntZ s.data.toList = -1 := by unfold cntZ; rw [hc, hst]; rfl
        have HR := Lib.hid hr; have HZ := Lib.hid hz
        clear hc hst hne hz hr
        go_wp2_with (go_at_call 74; refine (ref_chr_any s i _ hs hlt).mono ?_; rw [HZ.out]; rintro e w' ⟨⟨c, rfl⟩, rfl⟩)
        go_ret
        exact ⟨by rw [HR.out]; rfl, rfl⟩
      · rw [if_neg hz] at hst
        obtain ⟨p1, p2, p3⟩ := sizeB_pos hz
        rw [List.length_drop, HL.out] at p1
        have hc2 : cnt s.data.toList = (cnt (s.data.toList.drop (i + sizeB (s.data.toList.drop i)))).map (n + 1 + ·) := by
          rw [hc, hst, List.drop_drop]
          cases cnt (s.data.toList.drop (i + sizeB (s.data.toList.drop i))) with
          | none => rfl
          | some y => simp; omega
        obtain ⟨z, hzz⟩ : ∃ z, z = sizeB (s.data.toList.drop i) := ⟨_, rfl⟩
        rw [← hzz] at hz p1 p2 hc2
        have HZZ := Lib.hid hzz; have HC2 := Lib.hid hc2
        have hz1 : 1 ≤ z := by omega
        have hzI : ((z : Int) == 0) = false := by rw [beq_eq_false_iff_ne]; omega
        clear hc hst hne hzz hc2 hz
        go_wp2_with (go_at_call 74; refine (ref_chr_any s i _ hs hlt).mono ?_; rw [← HZZ.out]; rintro e w' ⟨⟨c, rfl⟩, rfl⟩)
        go_round
        case rel => exact ⟨n + 1, i + z, by omega, by omega, by go_num, by go_num, HC2.out⟩
        case measure => simp [intOf]; omega
    · obtain rfl : i = s.size := by omega
      have hr : cntZ s.data.toList = n := by
        unfold cntZ
        rw [hc, List.drop_of_length_le (by rw [HL.out]; exact Nat.le_refl _), cnt_nil]
        rfl
      have HR := Lib.hid hr
      clear hc hr
      go_wp2
      go_ret
      exact ⟨by rw [HR.out]; rfl, rfl⟩

theorem ref_utf8_any (s : ByteArray) (w : World) (hs : s.size ≤ 65536) :
    Calls Tryz.prog 36 #[.string s] w fun e w' => e = .returned (.bool (utf8B s.data.toList)) ∧ w = w' := by
  have hu := cntZ_utf8 s.data.toList
  have HU := Lib.hid hu
  clear hu
  go_enter Tryz.func36, Tryz.ntmps36
  go_wp2_with (go_at_call 50; refine (ref_count_any s _ hs).mono ?_; rintro e w' ⟨rfl, rfl⟩)
  go_ret
  exact ⟨ret_bool HU.out, rfl⟩

theorem plain_eq {l : List UInt8} {low top : Int} (h : lowest l = true) : plainB l low top = (decide (0 ≤ cntZ l) && (decide (low ≤ cntZ l) && (decide (cntZ l ≤ top) && (decide (l = []) || (decide (l.getD 0 0 ≠ 32) && decide (l.getD (l.length - 1) 0 ≠ 32)))))) := by
  unfold plainB
  rw [h, Bool.true_and, ← cntZ_utf8 l]
  by_cases hz : 0 ≤ cntZ l
  · have e := cntZ_runes l
    rw [← e, show max 0 (cntZ l) = cntZ l from by omega]
  · rw [decide_eq_false hz, Bool.false_and, Bool.false_and]
theorem ne32 (x : UInt8) : decide (x ≠ 32) = ((x.toNat : Int) != 32) := by
  rw [Bool.eq_iff_iff, decide_eq_true_iff, bne_iff_ne]
  constructor
  · intro h e
    apply h
    apply UInt8.toNat_inj.1
    show x.toNat = 32
    omega
  · rintro h rfl
    exact h rfl
theorem lowest_take (l : List UInt8) (k : Nat) (h : k < l.length) : lowest (l.take (k + 1)) = (lowest (l.take k) && decide (32 ≤ l[k].toNat)) := by
  unfold lowest
  rw [List.take_succ_eq_append_getElem h, List.all_append]
  simp

end Go.Proofs.YtdgfpjekahpggaaGreatDoor
