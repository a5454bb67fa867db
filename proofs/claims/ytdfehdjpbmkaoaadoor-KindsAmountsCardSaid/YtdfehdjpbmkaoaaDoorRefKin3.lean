/- The statements' own kinds: whether a message has what it must, and may. -/
import Derived.Test.YtdfehdjpbmkaoaaDoorRefKin2
import Derived.Test.YtdfehdjpbmkaoaaDoorMsg
namespace Go.Proofs.YtdfehdjpbmkaoaaDoor
open Go.RowKit
set_option maxHeartbeats 400000
set_option linter.unusedVariables false

theorem s_at (S : ByteArray) (k : Nat) (h : k < S.size) : S[k] = S.data.toList[k]'(by simpa using h) := rfl
theorem r_letter (S : ByteArray) (c : UInt8) (hs : S.size ≤ 65536) (w : World) :
    Calls Tryd.prog 35 #[.string S, .int .u8 (c.toNat : Int)] w fun e w' => e = .returned (.bool (inL S.data.toList c)) ∧ w = w' := by
  generalize hres : inL S.data.toList c = res
  have HRES := Lib.hid hres
  clear hres
  go_enter Tryd.func35, Tryd.ntmps35
  go_wp2
  go_loop [5] (fun v => ∃ k : Nat, k ≤ S.size ∧ v = .int .i64 (k : Int) ∧ ∀ j (hj : j < k) (hl : j < S.data.toList.length), S.data.toList[j] ≠ c) (fun v => S.size - (intOf v).toNat)
  case atStart => exact ⟨0, by omega, rfl, fun j hj => by omega⟩
  case round =>
    obtain ⟨k, hk, rfl, hall⟩ := hrel
    have HALL := Lib.hid hall
    clear hall
    rcases Nat.lt_or_ge k S.size with hkn | hge
    · have hkI : (k : Int) < (S.size : Int) := by omega
      have hat := s_at S k hkn
      generalize hx : S[k] = x at hat
      by_cases hq : x = c
      · subst hq
        have hw : res = true := by
          rw [← HRES.out]
          unfold inL
          rw [List.any_eq_true]
          exact ⟨x, by rw [hat]; exact List.getElem_mem _, beq_self_eq_true x⟩
        have HW := Lib.hid hw
        clear hw hat
        go_wp2
        go_ret
        exact ⟨by rw [HW.out]; rfl, rfl⟩
      · have hne : ¬ ((x.toNat : Int) = (c.toNat : Int)) := fun e => hq (UInt8.toNat_inj.1 (by omega))
        have HQ := Lib.hid hq; have HAT := Lib.hid hat
        clear hq hat
        go_wp2
        go_round
        case rel => exact ⟨k + 1, by omega, by go_num, fun j hj hl => by
          by_cases hjk : j = k
          · subst hjk; rw [← HAT.out]; exact HQ.out
          · exact HALL.out j (by omega) hl⟩
        case measure => simp [intOf]; omega
    · obtain rfl : k = S.size := by omega
      have hw : res = false := by
        rw [← HRES.out]
        unfold inL
        rw [List.any_eq_false]
        intro y hy
        obtain ⟨j, hj, rfl⟩ := List.getElem_of_mem hy
        rw [beq_iff_eq]
        exact HALL.out j (by rw [s_size] at hj; exact hj) hj
      have HW := Lib.hid hw
      clear hw
      go_wp2
      go_ret
      exact ⟨by rw [HW.out]; rfl, rfl⟩
theorem hasF_step (th : List Bool) (k : Nat) (b : Bool) (c : UInt8) (hb : th[k]? = some b) (hc : lettersL[k]? = some c) : hasF th (k + 1) = hasF th k ++ (if b then [c] else []) := by
  rw [hasF, hb, hc]; rfl
theorem letter_at {k : Nat} (hk : k < 11) : ∃ (X : ByteArray) (c : UInt8), (⟨#[80, 67, 82, 77, 84, 65, 69, 68, 78, 79, 71]⟩ : ByteArray).extract k (k + 1) = X ∧ X.data.toList = [c] ∧ lettersL[k]? = some c := by
  have h : k = 0 ∨ k = 1 ∨ k = 2 ∨ k = 3 ∨ k = 4 ∨ k = 5 ∨ k = 6 ∨ k = 7 ∨ k = 8 ∨ k = 9 ∨ k = 10 := by omega
  rcases h with rfl | rfl | rfl | rfl | rfl | rfl | rfl | rfl | rfl | rfl | rfl <;> exact ⟨_, _, rfl, rfl, rfl⟩
set_option maxRecDepth 20000 in
theorem r_has (m : MsgC) (w : World) :
    Calls Tryd.prog 34 #[m.val] w fun e w' => ∃ H : ByteArray, e = .returned (.string H) ∧ H.data.toList = hasL m.there ∧ Fr No w w' := by
  obtain ⟨kind, stan, time, acq, pan, cur, amount, rrn, mer, ter, app, entry, act, rea, ostan, otime, tA, tn, tc, key, note, eA, en, ec, oA, on, oc⟩ := m
  unfold MsgC.val MsgC.there
  obtain ⟨b0, h0⟩ : ∃ b, (pan.toList == []) = b := ⟨_, rfl⟩
  obtain ⟨b1, h1⟩ : ∃ b, (cur.toList == []) = b := ⟨_, rfl⟩
  obtain ⟨b2, h2⟩ : ∃ b, (rrn.toList == []) = b := ⟨_, rfl⟩
  obtain ⟨b3, h3⟩ : ∃ b, (mer.toList == []) = b := ⟨_, rfl⟩
  obtain ⟨b4, h4⟩ : ∃ b, (ter.toList == []) = b := ⟨_, rfl⟩
  obtain ⟨b5, h5⟩ : ∃ b, (app.toList == []) = b := ⟨_, rfl⟩
  obtain ⟨b6, h6⟩ : ∃ b, (entry != 0) = b := ⟨_, rfl⟩
  obtain ⟨b7, h7⟩ : ∃ b, (act.toList == []) = b := ⟨_, rfl⟩
  obtain ⟨b8, h8⟩ : ∃ b, (rea.toList == []) = b := ⟨_, rfl⟩
  obtain ⟨b9, h9⟩ : ∃ b, (otime.toList == []) = b := ⟨_, rfl⟩
  obtain ⟨b10, h10⟩ : ∃ b, decide (0 < tn) = b := ⟨_, rfl⟩
  simp only [h0, h1, h2, h3, h4, h5, h6, h7, h8, h9, h10]
  go_enter Tryd.func34, Tryd.ntmps34
  go_wp2
  go_name_world u hu
  have hf0 : Fr No w u := by rw [← hu]; exact ((Fr.refl No w).alloc _).alloc _
  have hbk : Bk u (w.heap.size + 1) 4 [.bool !b0, .bool !b1, .bool !b2, .bool !b3, .bool !b4, .bool !b5, .bool b6, .bool !b7, .bool !b8, .bool !b9, .bool b10] := by
    have h := Bk.new (w.alloc (.cells (MsgC.cells ⟨kind, stan, time, acq, pan, cur, amount, rrn, mer, ter, app, entry, act, rea, ostan, otime, tA, tn, tc, key, note, eA, en, ec, oA, on, oc⟩).toArray 29)) 4 #[.bool !b0, .bool !b1, .bool !b2, .bool !b3, .bool !b4, .bool !b5, .bool b6, .bool !b7, .bool !b8, .bool !b9, .bool b10]
    rw [show (w.alloc (.cells (MsgC.cells ⟨kind, stan, time, acq, pan, cur, amount, rrn, mer, ter, app, entry, act, rea, ostan, otime, tA, tn, tc, key, note, eA, en, ec, oA, on, oc⟩).toArray 29)).heap.size = w.heap.size + 1 by simp] at h
    rw [← hu]
    exact h
  clear hu h0 h1 h2 h3 h4 h5 h6 h7 h8 h9 h10
  obtain ⟨g, hg⟩ : ∃ g, w.heap.size + 1 = g := ⟨_, rfl⟩
  rw [hg] at hbk
  simp only [hg]
  obtain ⟨th, hth⟩ : ∃ th, [!b0, !b1, !b2, !b3, !b4, !b5, b6, !b7, !b8, !b9, b10] = th := ⟨_, rfl⟩
  have hcell : ∀ k, k < 11 → ∃ b, u.cell? ⟨g, k, none⟩ = some (.bool b) ∧ th[k]? = some b := by
    intro k hk
    rw [hbk.cell k, ← hth]
    have h : k = 0 ∨ k = 1 ∨ k = 2 ∨ k = 3 ∨ k = 4 ∨ k = 5 ∨ k = 6 ∨ k = 7 ∨ k = 8 ∨ k = 9 ∨ k = 10 := by omega
    rcases h with rfl | rfl | rfl | rfl | rfl | rfl | rfl | rfl | rfl | rfl | rfl <;> exact ⟨_, rfl, rfl⟩
  have HC := Lib.hid hcell; have HF := Lib.hid hf0; have HTH := Lib.hid hth
  clear hcell hf0 hth hbk hg
  go_loop [3, 5] (fun sv v => ∃ (k : Nat) (H : ByteArray), k ≤ 11 ∧ v = .int .i64 (k : Int) ∧ sv = .string H ∧ H.data.toList = hasF th k) (fun _ v => 11 - (intOf v).toNat)
  case atStart => exact ⟨0, ⟨#[]⟩, by omega, rfl, rfl, rfl⟩
  case round =>
    obtain ⟨k, H, hk, rfl, rfl, hH⟩ := hrel
    rcases Nat.lt_or_ge k 11 with hkn | hge
    · obtain ⟨b, hc, hb⟩ := HC.out k hkn
      obtain ⟨X, c, hX, hXc, hl⟩ := letter_at hkn
      have hs := hasF_step th k b c hb hl
      have hHs : H.size ≤ 11 := by rw [← s_size, hH]; have := hasF_len th k; omega
      have hXs : X.size = 1 := by rw [← s_size, hXc]; rfl
      have hsum : H.size + X.size ≤ 9223372036854775807 := by omega
      have f1 : (0 : Int) ≤ (k : Int) ∧ (k : Int) ≤ (k : Int) + 1 := by omega
      have f2 : (k : Int) + 1 ≤ 11 := by omega
      have HS := Lib.hid hs; have HH := Lib.hid hH; have HX := Lib.hid hXc
      clear hs hH hXc hb hl hHs hXs
      cases b with
      | true =>
        go_wp2
        go_round
        case rel => exact ⟨k + 1, H ++ X, by omega, by go_num, rfl, by rw [HS.out, s_app, HH.out, HX.out]; rfl⟩
        case measure => simp [intOf]; omega
      | false =>
        go_wp2
        go_round
        case rel => exact ⟨k + 1, H, by omega, by go_num, rfl, by rw [HS.out, HH.out]; simp⟩
        case measure => simp [intOf]; omega
    · obtain rfl : k = 11 := by omega
      have HH := Lib.hid hH
      clear hH
      go_wp2
      go_ret
      exact ⟨H, rfl, by rw [HH.out, ← HTH.out]; rfl, HF.out⟩
end Go.Proofs.YtdfehdjpbmkaoaaDoor
