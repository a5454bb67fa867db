/- The texts RefTok3, RefTok4, RefTok5, RefTok6, joined. -/
import Derived.Test.YtbfodbejdaafaaaGreatDoorK24
import Derived.Laws.Cover4
/- The statements' own walk over a file: names. -/
namespace Go.Proofs.YtbfodbejdaafaaaGreatDoor
open Go.RowKit
set_option maxHeartbeats 400000
set_option linter.unusedVariables false

theorem r_Name_any (S : ByteArray) (w : World) (hs : S.size ≤ 140737488355328) :
    Calls Tryz.prog 41 #[.string S] w fun e w' => e = .returned (.bool (nameOk S.data.toList)) ∧ Dr w w' := by
  go_enter Tryz.func41, Tryz.ntmps41
  go_wp2
  go_loopw [3] (fun iv wr => ∃ k : Nat, iv = .int .i64 (k : Int) ∧ k ≤ S.size ∧ Dr w wr ∧ (S.data.toList.take k).all isWi = true) (fun iv _ => S.size - (intOf iv).toNat)
  case atStart => exact ⟨0, rfl, by omega, Dr.refl _, by simp⟩
  case round =>
    obtain ⟨k, rfl, hk, hd, hall⟩ := hrel
    have HALL := Lib.hid hall
    clear hall
    by_cases hlt : k < S.size
    · have hltI : (k : Int) < (S.size : Int) := by omega
      obtain ⟨x, hx⟩ : ∃ x, S[k] = x := ⟨_, rfl⟩
      have hst : S.data.toList.take (k + 1) = S.data.toList.take k ++ [x] := by
        rw [List.take_succ_eq_append_getElem (by simpa using hlt), ← hx]; rfl
      have HST := Lib.hid hst
      clear hst
      cases hb : isWi x with
      | true =>
        have hq := fun u => r_within_any x u
        rw [hb] at hq
        have HB := Lib.hid hb; have HQ := Lib.hid hq
        clear hb hq
        go_wp2_with (go_at_call 69; refine (HQ.out _).mono ?_; rintro e w' ⟨rfl, rfl⟩)
        go_roundw
        case rel => exact ⟨k + 1, by go_num, by omega, hd, by rw [HST.out, List.all_append, HALL.out]; simp [HB.out]⟩
        case measure => simp [intOf]; omega
      | false =>
        have hq := fun u => r_within_any x u
        rw [hb] at hq
        have hno : nameOk S.data.toList = false := by
          have h1 : S.data.toList.all isWi = false := by
            rw [Bool.eq_false_iff]
            intro h
            rw [List.all_eq_true] at h
            have := h x (by rw [← hx, byte_at S k hlt]; exact List.getElem_mem _)
            rw [hb] at this
            cases this
          cases hl : S.data.toList with
          | nil => rfl
          | cons c r => rw [hl] at h1; simp only [nameOk, h1, Bool.and_false]
        have HQ := Lib.hid hq; have HNO := Lib.hid hno
        clear hb hq hno
        go_wp2_with (go_at_call 69; refine (HQ.out _).mono ?_; rintro e w' ⟨rfl, rfl⟩)
        go_ret
        rw [HNO.out]
        exact ⟨rfl, hd⟩
    · have hltI : ¬ (k : Int) < (S.size : Int) := by omega
      obtain rfl : k = S.size := by omega
      have hall2 : S.data.toList.all isWi = true := by
        have h := HALL.out
        rwa [List.take_of_length_le (by simp)] at h
      by_cases h0 : S.size = 0
      · have hno : nameOk S.data.toList = false := by
          have hl : S.data.toList = [] := List.eq_nil_of_length_eq_zero (by rw [size_list]; exact h0)
          rw [hl]
          rfl
        have he : S.toList = [] := by rw [ByteArray.toList_eq]; exact List.eq_nil_of_length_eq_zero (by rw [size_list]; exact h0)
        have HNO := Lib.hid hno
        clear hno hall2
        go_wp2
        go_ret
        rw [HNO.out]
        exact ⟨rfl, hd⟩
      · obtain ⟨c, r, hl⟩ : ∃ c r, S.data.toList = c :: r := by
          cases hl : S.data.toList with
          | nil => have := size_list S; rw [hl] at this; simp at this; omega
          | cons c r => exact ⟨c, r, rfl⟩
        have hc : S[0]'(by omega) = c := by
          rw [byte_at S 0 (by omega)]
          simp [hl]
        have hans : nameOk S.data.toList = isFi c := by
          rw [hl] at hall2 ⊢
          simp only [nameOk, hall2, Bool.and_true]
        have he : ¬ S.toList = [] := by rw [ByteArray.toList_eq, hl]; simp
        have heb : (S.toList == []) = false := by rw [beq_eq_false_iff_ne]; exact he
        have hq := fun u => r_first_any c u
        have HANS := Lib.hid hans; have HQ := Lib.hid hq
        have h0I : (0 : Int) < (S.size : Int) := by omega
        clear hans hq hall2 hl
        go_wp2_with (go_at_call 70; refine (HQ.out _).mono ?_; rintro e w' ⟨rfl, rfl⟩)
        go_ret
        rw [HANS.out]
        exact ⟨rfl, hd⟩
end Go.Proofs.YtbfodbejdaafaaaGreatDoor
/- The statements' own walk over a file: the name here. -/
namespace Go.Proofs.YtbfodbejdaafaaaGreatDoor
open Go.RowKit
set_option maxHeartbeats 400000
set_option linter.unusedVariables false

/-- the place of the walk at block g -/
def posOf (w : World) (g : Nat) : Nat := match w.cell? ⟨g, 1, none⟩ with
  | some (.int _ z) => z.toNat
  | _ => 0
theorem WkT.pos {w : World} {g : Nat} {S : ByteArray} {a : Nat} (h : WkT w g S a) : posOf w g = a := by
  have c1 : w.cell? ⟨g, 1, none⟩ = some (.int .i64 (a : Int)) := h.blk.cell 1
  unfold posOf
  rw [c1]
  simp
/-- a name, or nothing -/
def nameR (l : List UInt8) : List UInt8 := if nameOk (l.takeWhile isWi) then l.takeWhile isWi else []
theorem take_while_pre (p : UInt8 → Bool) (l : List UInt8) : l.takeWhile p = l.take (l.takeWhile p).length := (List.prefix_iff_eq_take.1 (List.takeWhile_prefix p))

theorem r_name_any (g : Nat) (S : ByteArray) (a : Nat) (w : World) (h : WkT w g S a) :
    Calls Tryz.prog 53 #[.pointer (some ⟨g, 0, none⟩)] w fun e w' => ∃ R : ByteArray, e = .returned (.string R) ∧ R.data.toList = nameR (S.data.toList.drop a) ∧ WkT w' g S (a + ((S.data.toList.drop a).takeWhile isWi).length) ∧ Fr (Just g) w w' := by
  have c1 : w.cell? ⟨g, 1, none⟩ = some (.int .i64 (a : Int)) := h.blk.cell 1
  have H := Lib.hid h
  clear h
  go_enter Tryz.func53, Tryz.ntmps53
  go_wp2
  go_loopw [] (fun wr => ∃ k : Nat, WkT wr g S (a + k) ∧ Fr (Just g) w wr ∧ ∀ j (hj : j < k) (hl : j < (S.data.toList.drop a).length), isWi (S.data.toList.drop a)[j] = true) (fun wr => S.size - posOf wr g)
  case atStart => exact ⟨0, H.out, Fr.refl _ _, fun j hj => by omega⟩
  case round =>
    obtain ⟨k, hw, hf, hall⟩ := hrel
    have c0 : wr.cell? ⟨g, 0, none⟩ = some (.string S) := hw.blk.cell 0
    have c1 : wr.cell? ⟨g, 1, none⟩ = some (.int .i64 ((a + k : Nat) : Int)) := hw.blk.cell 1
    have z1 := hw.blk.frozen 1
    have hle := hw.le
    have hsm := hw.small
    have hdl : (S.data.toList.drop a).length = S.size - a := by simp
    have hpos := hw.pos
    have HW := Lib.hid hw; have HALL := Lib.hid hall; have HDL := Lib.hid hdl; have HPOS := Lib.hid hpos
    clear hw hall hdl hpos
    obtain ⟨t, ht⟩ : ∃ t, a + k = t := ⟨_, rfl⟩
    rw [ht] at c1 hle
    have HT := Lib.hid ht
    have hkb : k ≤ 65536 := by omega
    by_cases hlt : t < S.size
    · have hltI : (t : Int) < (S.size : Int) := by omega
      obtain ⟨x, hx⟩ : ∃ x, S[t] = x := ⟨_, rfl⟩
      have hxl : ∀ hl : k < (S.data.toList.drop a).length, (S.data.toList.drop a)[k] = x := fun hl => by
        rw [← hx, byte_at S t hlt, List.getElem_drop]
        simp only [ht]
      have HXL := Lib.hid hxl
      clear hxl ht
      cases hb : isWi x with
      | true =>
        have hq := fun u => r_within_any x u
        rw [hb] at hq
        have HB := Lib.hid hb; have HQ := Lib.hid hq
        clear hb hq
        go_wp2
        go_quiet ((go_at_call 69; exact quiet_same (HQ.out _)))
        go_wp2
        have h1 := HT.out
        have h2 := (HW.out.no ((Fr.refl No wr).drewN nq)).set (b := t + 1) (by omega)
        have e : ((t + 1 : Nat) : Int) = (t : Int) + 1 := by omega
        rw [e] at h2
        go_roundw
        case rel =>
          refine ⟨k + 1, ?_, (hf.drewN nq).setCell (p := ⟨g, 1, none⟩) (.inl (Just.at g)) _, fun j hj hl => ?_⟩
          · rw [show a + (k + 1) = t + 1 by omega]
            exact h2
          · by_cases hjk : j = k
            · subst hjk; rw [HXL.out hl]; exact HB.out
            · exact HALL.out j (by omega) hl
        case measure =>
          have p2 := h2.pos
          have p1 := HPOS.out
          rw [p1, p2]
          omega
      | false =>
        have HB := Lib.hid hb
        clear hb
        have hlen := take_while_len isWi (S.data.toList.drop a) k HALL.out (by rw [HDL.out]; have := HT.out; omega) (fun hl => by rw [HXL.out hl]; exact HB.out)
        have HLEN := Lib.hid hlen
        have hq := fun u => r_within_any x u
        rw [HB.out] at hq
        have HQ := Lib.hid hq
        clear hlen hq
        have htk : t = a + ((S.data.toList.drop a).takeWhile isWi).length := by rw [HLEN.out]; exact HT.out.symm
        have hat : a ≤ t := by have := HT.out; omega
        have f1 : (0 : Int) ≤ (t : Int) ∧ (t : Int) ≤ (S.size : Int) := by omega
        have f2 : (0 : Int) ≤ (a : Int) ∧ (a : Int) ≤ (t : Int) := by omega
        obtain ⟨R, hR⟩ : ∃ R, S.extract a t = R := ⟨_, rfl⟩
        have hRl : R.data.toList = (S.data.toList.drop a).takeWhile isWi := by
          rw [take_while_pre, HLEN.out, ← hR, ← HT.out]
          simp [List.take_drop]
        have hRs : R.size ≤ 65536 := by rw [← size_list, hRl]; have h1 := (List.takeWhile_prefix isWi (l := S.data.toList.drop a)).length_le; rw [HDL.out] at h1; omega
        have hres : nameR (S.data.toList.drop a) = if nameOk R.data.toList then R.data.toList else [] := by unfold nameR; rw [hRl]
        have HRES := Lib.hid hres
        have hnm := fun u => r_Name_any R u (by omega)
        have HK := Lib.hid htk
        cases hok : nameOk R.data.toList with
        | true =>
          rw [hok] at hnm
          have HN := Lib.hid hnm; have HOK := Lib.hid hok
          clear hnm hok hRl hres htk hRs
          go_wp2
          go_quiet ((go_at_call 69; exact quiet_same (HQ.out _)))
          go_wp2
          go_quiet (fail)
          go_wp2_with (go_at_call 41; refine (HN.out _).mono ?_; rintro e w2 ⟨rfl, hd2⟩)
          go_ret
          have hdw : Dr wr w2 := by first | exact (((Dr.refl wr).drewN _).drewN _).trans hd2 | exact ((Dr.refl wr).drewN _).trans hd2
          refine ⟨R, rfl, by rw [HRES.out, HOK.out]; rfl, ?_, hf.dr hdw⟩
          rw [← HK.out]
          have h := HW.out.no hdw.fr
          rwa [HT.out] at h
        | false =>
          rw [hok] at hnm
          have HN := Lib.hid hnm; have HOK := Lib.hid hok
          clear hnm hok hRl hres htk hRs
          go_wp2
          go_quiet ((go_at_call 69; exact quiet_same (HQ.out _)))
          go_wp2
          go_quiet (fail)
          go_wp2_with (go_at_call 41; refine (HN.out _).mono ?_; rintro e w2 ⟨rfl, hd2⟩)
          go_ret
          have hdw : Dr wr w2 := by first | exact (((Dr.refl wr).drewN _).drewN _).trans hd2 | exact ((Dr.refl wr).drewN _).trans hd2
          refine ⟨_, rfl, by rw [HRES.out, HOK.out]; rfl, ?_, hf.dr hdw⟩
          rw [← HK.out]
          have h := HW.out.no hdw.fr
          rwa [HT.out] at h
    · have hltI : ¬ (t : Int) < (S.size : Int) := by omega
      have hlen := take_while_len isWi (S.data.toList.drop a) k HALL.out (by rw [HDL.out]; have := HT.out; omega) (fun hl => by rw [HDL.out] at hl; have := HT.out; omega)
      have HLEN := Lib.hid hlen
      clear hlen ht
      have htk : t = a + ((S.data.toList.drop a).takeWhile isWi).length := by rw [HLEN.out]; exact HT.out.symm
      have hat : a ≤ t := by have := HT.out; omega
      have f1 : (0 : Int) ≤ (t : Int) ∧ (t : Int) ≤ (S.size : Int) := by omega
      have f2 : (0 : Int) ≤ (a : Int) ∧ (a : Int) ≤ (t : Int) := by omega
      obtain ⟨R, hR⟩ : ∃ R, S.extract a t = R := ⟨_, rfl⟩
      have hRl : R.data.toList = (S.data.toList.drop a).takeWhile isWi := by
        rw [take_while_pre, HLEN.out, ← hR, ← HT.out]
        simp [List.take_drop]
      have hRs : R.size ≤ 65536 := by rw [← size_list, hRl]; have h1 := (List.takeWhile_prefix isWi (l := S.data.toList.drop a)).length_le; rw [HDL.out] at h1; omega
      have hres : nameR (S.data.toList.drop a) = if nameOk R.data.toList then R.data.toList else [] := by unfold nameR; rw [hRl]
      have HRES := Lib.hid hres
      have hnm := fun u => r_Name_any R u (by omega)
      have HK := Lib.hid htk
      cases hok : nameOk R.data.toList with
      | true =>
        rw [hok] at hnm
        have HN := Lib.hid hnm; have HOK := Lib.hid hok
        clear hnm hok hRl hres htk hRs
        go_wp2
        go_quiet (fail)
        go_wp2
        go_quiet (fail)
        go_wp2_with (go_at_call 41; refine (HN.out _).mono ?_; rintro e w2 ⟨rfl, hd2⟩)
        go_ret
        have hdw : Dr wr w2 := by first | exact (((Dr.refl wr).drewN _).drewN _).trans hd2 | exact ((Dr.refl wr).drewN _).trans hd2
        refine ⟨R, rfl, by rw [HRES.out, HOK.out]; rfl, ?_, hf.dr hdw⟩
        rw [← HK.out]
        have h := HW.out.no hdw.fr
        rwa [HT.out] at h
      | false =>
        rw [hok] at hnm
        have HN := Lib.hid hnm; have HOK := Lib.hid hok
        clear hnm hok hRl hres htk hRs
        go_wp2
        go_quiet (fail)
        go_wp2
        go_quiet (fail)
        go_wp2_with (go_at_call 41; refine (HN.out _).mono ?_; rintro e w2 ⟨rfl, hd2⟩)
        go_ret
        have hdw : Dr wr w2 := by first | exact (((Dr.refl wr).drewN _).drewN _).trans hd2 | exact ((Dr.refl wr).drewN _).trans hd2
        refine ⟨_, rfl, by rw [HRES.out, HOK.out]; rfl, ?_, hf.dr hdw⟩
        rw [← HK.out]
        have h := HW.out.no hdw.fr
        rwa [HT.out] at h
end Go.Proofs.YtbfodbejdaafaaaGreatDoor
/- The statements' own tokens: a character's number. -/
namespace Go.Proofs.YtbfodbejdaafaaaGreatDoor
open Go.RowKit
set_option maxHeartbeats 1000000
set_option linter.unusedVariables false

def chrR (l : List UInt8) (base most : Nat) : Int := match chrV l base most with
  | none => -1
  | some v => (v : Int)
theorem chrF_cons (base v : Nat) (c : UInt8) (r : List UInt8) : chrF base v (c :: r) = if base ≤ digV c then none else chrF base (v * base + digV c) r := rfl
theorem dig_cases (c : UInt8) : (48 ≤ c.toNat ∧ c.toNat ≤ 57 ∧ digV c = c.toNat - 48) ∨ (97 ≤ c.toNat ∧ c.toNat ≤ 102 ∧ digV c = c.toNat - 87) ∨ (65 ≤ c.toNat ∧ c.toNat ≤ 70 ∧ digV c = c.toNat - 55) ∨
    (c.toNat < 48 ∧ 1 = 1 ∧ digV c = 99) ∨ (57 < c.toNat ∧ c.toNat < 65 ∧ digV c = 99) ∨ (70 < c.toNat ∧ c.toNat < 97 ∧ digV c = 99) ∨ (102 < c.toNat ∧ 1 = 1 ∧ digV c = 99) := by
  unfold digV
  split
  · omega
  · split
    · omega
    · split <;> omega

theorem r_numeral_any (S : ByteArray) (base most : Nat) (w : World) (hb : base = 10 ∨ base = 16) (hm : most ≤ 7) :
    Calls Tryz.prog 93 #[.string S, .int .i64 (base : Int), .int .i64 (most : Int)] w fun e w' => e = .returned (.int .i64 (chrR S.data.toList base most)) ∧ w = w' := by
  have hsl := size_list S
  by_cases h0 : S.size < 1 ∨ most < S.size
  · have hr : chrR S.data.toList base most = -1 := by
      unfold chrR chrV
      rw [if_pos (by rw [hsl]; exact h0)]
    rw [hr]
    have h0I : (S.size : Int) < 1 ∨ (¬ (S.size : Int) < 1 ∧ (most : Int) < (S.size : Int)) := by omega
    clear hr hsl h0
    rcases h0I with h0I | ⟨h0I, h1I⟩
    all_goals
      go_enter Tryz.func93, Tryz.ntmps93
      go_wp2
      go_ret
      exact ⟨rfl, rfl⟩
  have hr : chrR S.data.toList base most = match chrF base 0 S.data.toList with | none => -1 | some v => (v : Int) := by
    unfold chrR chrV
    rw [if_neg (by rw [hsl]; exact h0)]
  have h1I : ¬ (S.size : Int) < 1 := by omega
  have h2I : ¬ (most : Int) < (S.size : Int) := by omega
  have hs7 : S.size ≤ 7 := by omega
  have HR := Lib.hid hr; have HSL := Lib.hid hsl
  clear hr hsl h0
  go_enter Tryz.func93, Tryz.ntmps93
  go_wp2
  go_loop [7, 8] (fun vv iv => ∃ k v : Nat, vv = .int .i64 (v : Int) ∧ iv = .int .i64 (k : Int) ∧ k ≤ S.size ∧ v < 16 ^ k ∧ chrF base 0 S.data.toList = chrF base v (S.data.toList.drop k)) (fun _ iv => S.size - (intOf iv).toNat)
  case atStart => exact ⟨0, 0, rfl, rfl, by omega, by simp, by simp⟩
  case round =>
    obtain ⟨k, v, rfl, rfl, hk, hv, hnum⟩ := hrel
    have hv7 : v < 268435456 := Nat.lt_of_lt_of_le hv (show 16 ^ k ≤ 16 ^ 7 from Nat.pow_le_pow_right (by omega) (by omega))
    have HV := Lib.hid hv; have HNUM := Lib.hid hnum
    clear hv hnum
    by_cases hlt : k < S.size
    · have hltI : (k : Int) < (S.size : Int) := by omega
      obtain ⟨c, hc⟩ : ∃ c, S[k] = c := ⟨_, rfl⟩
      have hdr : S.data.toList.drop k = c :: S.data.toList.drop (k + 1) := by
        rw [List.drop_eq_getElem_cons (by rw [HSL.out]; exact hlt), ← hc]
        rfl
      have hst := chrF_cons base v c (S.data.toList.drop (k + 1))
      rw [← hdr] at hst
      have HST := Lib.hid hst
      have hcb := c.toNat_lt
      clear hdr hst
      have hcl := dig_cases c
      obtain ⟨D, hD⟩ : ∃ D, digV c = D := ⟨_, rfl⟩
      rw [hD] at hcl
      have HD := Lib.hid hD
      clear hD
      by_cases hbd : base ≤ D
      · have hans : chrR S.data.toList base most = -1 := by
          rw [HR.out, HNUM.out, HST.out, HD.out, if_pos hbd]
        have HANS := Lib.hid hans
        clear hans
        rcases hcl with ⟨h1, h2, h3⟩ | ⟨h1, h2, h3⟩ | ⟨h1, h2, h3⟩ | ⟨h1, h2, h3⟩ | ⟨h1, h2, h3⟩ | ⟨h1, h2, h3⟩ | ⟨h1, h2, h3⟩
        all_goals
          have hbI : (base : Int) ≤ (D : Int) := by omega
          go_wp2
          all_goals
            go_ret
            rw [HANS.out]
            exact ⟨rfl, rfl⟩
      · have hnx : chrF base 0 S.data.toList = chrF base (v * base + D) (S.data.toList.drop (k + 1)) := by
          rw [HNUM.out, HST.out, HD.out, if_neg hbd]
        have hpw : v * base + D < 16 ^ (k + 1) := by
          have h := HV.out
          rw [Nat.pow_succ]
          rcases hb with rfl | rfl <;> omega
        obtain ⟨M, hM⟩ : ∃ M, v * base = M := ⟨_, rfl⟩
        have hMb : M < 4294967296 := by rcases hb with e | e <;> subst e <;> omega
        rw [hM] at hnx hpw
        have HNX := Lib.hid hnx; have HPW := Lib.hid hpw; have HM := Lib.hid hM
        clear hnx hpw hM
        have hcl3 : (48 ≤ c.toNat ∧ c.toNat ≤ 57 ∧ D = c.toNat - 48) ∨ (97 ≤ c.toNat ∧ c.toNat ≤ 102 ∧ D = c.toNat - 87) ∨ (65 ≤ c.toNat ∧ c.toNat ≤ 70 ∧ D = c.toNat - 55) := by omega
        clear hcl
        rcases hcl3 with ⟨h1, h2, h3⟩ | ⟨h1, h2, h3⟩ | ⟨h1, h2, h3⟩
        all_goals
          have hbI : ¬ (base : Int) ≤ (D : Int) := by omega
          have hMI : (v : Int) * (base : Int) = (M : Int) := by rw [← HM.out, Int.natCast_mul]
          have hD1 : (c.toNat : Int) - 48 = (D : Int) ∨ (c.toNat : Int) - 97 + 10 = (D : Int) ∨ (c.toNat : Int) - 65 + 10 = (D : Int) := by omega
          have hD9 : D ≤ 15 := by omega
          rcases hD1 with hD1 | hD1 | hD1
          all_goals
            first
              | (exfalso; omega)
              | (clear h3
                 go_wp2
                 go_round
                 case rel => exact ⟨k + 1, M + D, by go_num, by go_num, by omega, HPW.out, HNX.out⟩
                 case measure => simp [intOf]; omega)
    · obtain rfl : k = S.size := by omega
      have hltI : ¬ (S.size : Int) < (S.size : Int) := by omega
      have hans : chrR S.data.toList base most = (v : Int) := by
        rw [HR.out, HNUM.out, List.drop_eq_nil_of_le (by rw [HSL.out]; exact Nat.le_refl _)]
        rfl
      have HANS := Lib.hid hans
      clear hans
      go_wp2
      go_ret
      rw [HANS.out]
      exact ⟨rfl, rfl⟩
end Go.Proofs.YtbfodbejdaafaaaGreatDoor
/- The statements' own tokens: what stands between & and ; . -/
namespace Go.Proofs.YtbfodbejdaafaaaGreatDoor
open Go.RowKit
set_option maxHeartbeats 1000000
set_option linter.unusedVariables false

theorem run_rune1 (w : World) (z : Int) (t : TypeId) :
    (convert 142 9 (.slice (some ⟨w.heap.size, 0, none⟩) 1 1)).run Tryz.prog (w.alloc (.cells #[.int .i32 z] t)) = .ok (.string (runesBytes [z])) (w.alloc (.cells #[.int .i32 z] t)) := by
  have h := run_convert_runes (P := Tryz.prog) (w.alloc (.cells #[.int .i32 z] t)) 142 9 21 ⟨w.heap.size, 0, none⟩ 1 1 [z] (by simp) Tryz.underlying142 Tryz.underlying21 Tryz.underlying9 (fun j hj => by
    obtain rfl : j = 0 := by simpa using hj
    simp [Addr.add])
  simpa using h
theorem runes1 (z : Int) : (runesBytes [z]).data.toList = encL z := by
  unfold runesBytes encL
  simp
theorem r_utf_any (v : Nat) (w : World) (hv : v ≤ 1114111) :
    Calls Tryz.prog 94 #[.int .i64 (v : Int)] w fun e w' => ∃ R : ByteArray, e = .returned (.string R) ∧ R.data.toList = encL (v : Int) ∧ Fr No w w' := by
  have hr := runes1 (v : Int)
  have hx := fun u => run_rune1 u (v : Int)
  generalize runesBytes [(v : Int)] = R at hr hx
  have HR := Lib.hid hr
  clear hr
  go_enter Tryz.func94, Tryz.ntmps94
  go_wp2
  go_ret
  exact ⟨R, rfl, HR.out, (Fr.refl No w).alloc _⟩
end Go.Proofs.YtbfodbejdaafaaaGreatDoor
