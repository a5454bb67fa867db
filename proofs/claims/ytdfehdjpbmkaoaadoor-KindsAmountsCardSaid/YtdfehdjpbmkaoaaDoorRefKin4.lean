/- The statements' own kinds: Fits. -/
import Derived.Test.YtdfehdjpbmkaoaaDoorRefKin3
import Derived.Deep.MidRow
namespace Go.Proofs.YtdfehdjpbmkaoaaDoor
open Go.RowKit
set_option maxHeartbeats 1000000
set_option linter.unusedVariables false

theorem range21 {w : World} {g : Nat} {t : TypeId} {m : MsgC} (h : Bk w g t m.cells) : w.rangeAt g 0 m.cells := fun j v hv => by
  rw [Nat.zero_add, h.cell j]; exact hv
theorem msgSize (m : MsgC) : (Tryd.prog.info? 29).map (·.size) = some m.cells.length := by kernel_rfl
theorem small_table : kAll (fun k => Nat.ble (kRow k).must.size 11 && Nat.ble (kRow k).may.size 11) = true := by decide +kernel
theorem row_small (k : Int) : (rowOf k).must.size ≤ 11 ∧ (rowOf k).may.size ≤ 11 := by
  unfold rowOf
  split
  · have h := kAll_at small_table (k := k.toNat) (by omega)
    simp only [Bool.and_eq_true, Nat.ble_eq] at h
    exact h
  · exact ⟨by decide, by decide⟩

set_option maxRecDepth 100000 in
theorem r_Fits (m : MsgC) (hk0 : -9223372036854775808 ≤ m.kind) (hk1 : m.kind ≤ 9223372036854775807) (w : World) :
    Calls Tryd.prog 12 #[m.val] w fun e w' => e = .returned (.int .i64 (fitsR (rowOf m.kind) (hasL m.there) m.bad)) ∧ Fr No w w' := by
  have hrow := fun u => r_row m.kind hk0 hk1 u
  have hhas := fun u => r_has m u
  obtain ⟨hm1, hm2⟩ := row_small m.kind
  unfold rowA at hrow
  generalize rowOf m.kind = r at hrow hm1 hm2 ⊢
  have hhl := hasF_len m.there 11
  have hhl : (hasL m.there).length ≤ 11 := hhl
  generalize hasL m.there = hl at hhas hhl ⊢
  generalize hres : fitsR r hl m.bad = res
  unfold MsgC.val at hhas
  have hb0 : Bk (w.alloc (.cells m.cells.toArray 29)) w.heap.size 29 m.cells := Bk.new w _ _
  have hfa : Fr No w (w.alloc (.cells m.cells.toArray 29)) := (Fr.refl No w).alloc _
  unfold MsgC.val
  unfold MsgC.cells at hfa
  have HROW := Lib.hid hrow; have HHAS := Lib.hid hhas; have HRES := Lib.hid hres; have HB0 := Lib.hid hb0; have HFA := Lib.hid hfa
  clear hrow hhas hres hb0 hfa
  cases hc : (r.code.toList == []) with
  | true =>
    have hre : res = 15 := by
      rw [← HRES.out]
      unfold fitsR
      rw [if_pos]
      rw [beq_iff_eq, s_list] at hc
      exact hc
    have HRE := Lib.hid hre
    clear hre
    go_enter Tryd.func12, Tryd.ntmps12
    go_wp2_with (go_at_call 33; refine (HROW.out _).mono ?_; rintro e w1 ⟨rfl, hf1⟩)
    go_ret
    exact ⟨by rw [HRE.out]; rfl, (HFA.out.trans hf1).alloc _⟩
  | false =>
    have hcn : r.code.data.toList ≠ [] := by
      rw [beq_eq_false_iff_ne, s_list] at hc
      exact hc
    have hre : res = if !r.must.data.toList.all (fun c => inL hl c) then 19 else if !hl.all (fun c => inL (r.must.data.toList ++ r.may.data.toList) c) then 19 else if m.bad then 19 else 0 := by
      rw [← HRES.out]
      unfold fitsR
      rw [if_neg hcn]
    have HRE := Lib.hid hre
    clear hre hcn
    go_enter Tryd.func12, Tryd.ntmps12
    go_wp2_with (first
      | (go_at_call 33; refine (HROW.out _).mono ?_; rintro e w1 ⟨rfl, hf1⟩; have hbm : Bk (w1.alloc (.cells #[.string r.code, .string r.mti, .string r.must, .string r.may] 37)) w.heap.size 29 m.cells := (HB0.out.no hf1).no ((Fr.refl No w1).alloc _); have HRG := Lib.hid (range21 hbm); have hbr := Bk.new w1 37 #[.string r.code, .string r.mti, .string r.must, .string r.may])
      | (refine wpList_load_mid rfl 29 _ rfl w.heap.size 0 rfl m.cells _ HRG.out (Tryd.underlying29) rfl (msgSize m) ?_; clear HRG)
      | (go_at_call 34; refine (HHAS.out _).mono ?_; rintro e w3 ⟨H, rfl, hH, hf3⟩; have hbm3 := hbm.no hf3; have hbr3 := hbr.no hf3; have d2 := hbr3.cell 2; have d3 := hbr3.cell 3))
    have hF3 : Fr No w w3 := ((HFA.out.trans hf1).alloc _).trans hf3
    have hHs : H.size ≤ 11 := by rw [← s_size, hH]; exact hhl
    have HF3 := Lib.hid hF3; have HBM := Lib.hid hbm3; have HBR := Lib.hid hbr3; have HH := Lib.hid hH
    clear hF3 hbm3 hbr3 hH hbm hbr hf3 hf1 HROW HHAS HRES
    go_loop [5] (fun v => ∃ k : Nat, k ≤ r.must.size ∧ v = .int .i64 (k : Int) ∧ ∀ j (hj : j < k) (hl2 : j < r.must.data.toList.length), inL hl (r.must.data.toList[j]) = true) (fun v => r.must.size - (intOf v).toNat)
    case atStart => exact ⟨0, by omega, rfl, fun j hj => by omega⟩
    case round =>
      obtain ⟨k, hk, rfl, hall⟩ := hrel
      have HALL := Lib.hid hall
      clear hall
      rcases Nat.lt_or_ge k r.must.size with hkn | hge
      · have hkI : (k : Int) < (r.must.size : Int) := by omega
        have hat := s_at r.must k hkn
        generalize hx : r.must[k] = x at hat
        have hlet := fun u => r_letter H x (by omega) u
        rw [HH.out] at hlet
        cases hq : inL hl x with
        | true =>
          rw [hq] at hlet
          have HL := Lib.hid hlet; have HQ := Lib.hid hq; have HAT := Lib.hid hat
          clear hlet hq hat
          go_wp2_with (go_at_call 35; refine (HL.out _).mono ?_; rintro e w' ⟨rfl, rfl⟩)
          go_round
          case rel => exact ⟨k + 1, by omega, by go_num, fun j hj hl2 => by
            by_cases hjk : j = k
            · subst hjk; rw [← HAT.out]; exact HQ.out
            · exact HALL.out j (by omega) hl2⟩
          case measure => simp [intOf]; omega
        | false =>
          rw [hq] at hlet
          have hre : res = 19 := by
            rw [HRE.out, if_pos]
            rw [Bool.not_eq_true', ← Bool.not_eq_true, List.all_eq_true]
            intro h
            have := h x (by rw [hat]; exact List.getElem_mem _)
            rw [hq] at this
            cases this
          have HL := Lib.hid hlet; have HE := Lib.hid hre
          clear hlet hq hat hre
          go_wp2_with (go_at_call 35; refine (HL.out _).mono ?_; rintro e w' ⟨rfl, rfl⟩)
          go_ret
          exact ⟨by rw [HE.out]; rfl, HF3.out⟩
      · obtain rfl : k = r.must.size := by omega
        have hre : res = if !hl.all (fun c => inL (r.must.data.toList ++ r.may.data.toList) c) then 19 else if m.bad then 19 else 0 := by
          rw [HRE.out, if_neg]
          rw [Bool.not_eq_true', Bool.not_eq_false, List.all_eq_true]
          intro x hx
          obtain ⟨j, hj, rfl⟩ := List.getElem_of_mem hx
          exact HALL.out j (by rw [s_size] at hj; exact hj) hj
        have HRE2 := Lib.hid hre
        clear hre HALL HRE
        have hsum : r.must.size + r.may.size ≤ 9223372036854775807 := by omega
        have HHL := Lib.hid (show H.data.toList.length = hl.length by rw [HH.out])
        go_wp2
        go_loopw [6] (fun v wr => ∃ k : Nat, k ≤ H.size ∧ v = .int .i64 (k : Int) ∧ Dr w3 wr ∧ ∀ j (hj : j < k) (hl2 : j < hl.length), inL (r.must.data.toList ++ r.may.data.toList) (hl[j]) = true) (fun v _ => H.size - (intOf v).toNat)
        case atStart => exact ⟨0, by omega, rfl, Dr.refl _, fun j hj => by omega⟩
        case round =>
          obtain ⟨k, hk, rfl, hdr, hall⟩ := hrel
          have HALL := Lib.hid hall
          clear hall
          have hbr4 := HBR.out.no hdr.fr
          have d2 := hbr4.cell 2
          have d3 := hbr4.cell 3
          have HF4 := Lib.hid (HF3.out.dr hdr)
          rcases Nat.lt_or_ge k H.size with hkn | hge
          · have hkI : (k : Int) < (H.size : Int) := by omega
            have hat := s_at H k hkn
            have hkl : k < hl.length := by rw [← HHL.out, s_size]; exact hkn
            have hat2 : H[k] = hl[k]'hkl := by rw [hat]; simp [HH.out]
            generalize hx : H[k] = x at hat2
            have hlet := fun u => r_letter (r.must ++ r.may) x (by rw [ByteArray.size_append]; omega) u
            rw [s_app] at hlet
            cases hq : inL (r.must.data.toList ++ r.may.data.toList) x with
            | true =>
              rw [hq] at hlet
              have HL := Lib.hid hlet; have HQ := Lib.hid hq; have HAT := Lib.hid hat2
              clear hlet hq hat hat2
              go_wp2
              go_quiet ((go_at_call 35; exact quiet_same (HL.out _)))
              go_wp2
              go_roundw
              case rel => exact ⟨k + 1, by omega, by go_num, hdr.drewN _, fun j hj hl2 => by
                by_cases hjk : j = k
                · subst hjk; rw [← HAT.out]; exact HQ.out
                · exact HALL.out j (by omega) hl2⟩
              case measure => simp [intOf]; omega
            | false =>
              rw [hq] at hlet
              have hre : res = 19 := by
                rw [HRE2.out, if_pos]
                rw [Bool.not_eq_true', ← Bool.not_eq_true, List.all_eq_true]
                intro h
                have := h x (by rw [hat2]; exact List.getElem_mem _)
                rw [hq] at this
                cases this
              have HL := Lib.hid hlet; have HE := Lib.hid hre
              clear hlet hq hat hat2 hre
              go_wp2
              go_quiet ((go_at_call 35; exact quiet_same (HL.out _)))
              go_wp2
              go_ret
              exact ⟨by rw [HE.out]; rfl, HF4.out.drewN _⟩
          · obtain rfl : k = H.size := by omega
            have hre : res = if m.bad then 19 else 0 := by
              rw [HRE2.out, if_neg]
              rw [Bool.not_eq_true', Bool.not_eq_false, List.all_eq_true]
              intro x hx
              obtain ⟨j, hj, rfl⟩ := List.getElem_of_mem hx
              exact HALL.out j (by rw [← s_size, HHL.out]; exact hj) hj
            have hbm4 := HBM.out.no hdr.fr
            have c5 := hbm4.cell 5
            have c6 := hbm4.cell 6
            have c14 := hbm4.cell 14
            have c15 := hbm4.cell 15
            unfold MsgC.cells at c5 c6 c14 c15
            unfold MsgC.bad at hre
            obtain ⟨p1, e1⟩ : ∃ p, (m.cur.toList == []) = p := ⟨_, rfl⟩
            obtain ⟨p2, e2⟩ : ∃ p, (m.amount != 0) = p := ⟨_, rfl⟩
            obtain ⟨p3, e3⟩ : ∃ p, (m.otime.toList == []) = p := ⟨_, rfl⟩
            obtain ⟨p4, e4⟩ : ∃ p, (m.ostan != 0) = p := ⟨_, rfl⟩
            rw [e1, e2, e3, e4] at hre
            have HE := Lib.hid hre
            clear hre HRE2 HALL hbm4
            generalize m.cur = cur at *
            generalize m.amount = amount at *
            generalize m.otime = otime at *
            generalize m.ostan = ostan at *
            have hfin : (p1 = true ∧ p2 = true ∧ res = 19) ∨ ((p1 = false ∨ p1 = true ∧ p2 = false) ∧ ((p3 = false ∧ res = 0) ∨ (p3 = true ∧ p4 = false ∧ res = 0) ∨ (p3 = true ∧ p4 = true ∧ res = 19))) := by
              rw [HE.out]
              cases p1 <;> cases p2 <;> cases p3 <;> cases p4 <;> simp
            rcases hfin with ⟨rfl, rfl, hr⟩ | ⟨hor, hr⟩
            · have HE2 := Lib.hid hr
              clear hr HE
              go_wp2
              go_ret
              exact ⟨by rw [HE2.out]; rfl, HF4.out⟩
            · clear HE
              rcases hr with ⟨rfl, hr⟩ | ⟨rfl, rfl, hr⟩ | ⟨rfl, rfl, hr⟩
              all_goals
                have HE2 := Lib.hid hr
                clear hr
                rcases hor with rfl | ⟨rfl, rfl⟩
                all_goals
                  go_wp2
                  go_ret
                  exact ⟨by rw [HE2.out]; rfl, HF4.out⟩
end Go.Proofs.YtdfehdjpbmkaoaaDoor
