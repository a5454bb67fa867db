/- The statements' own messages: Small tells something. -/
import Derived.Test.YtdfehdjpbmkaoaaDoorMsgItems
import Derived.Test.YtdfehdjpbmkaoaaDoorRefTag
import Derived.Test.YtdfehdjpbmkaoaaDoorRefKin4
import Derived.LoopTactic
namespace Go.Proofs.YtdfehdjpbmkaoaaDoor
open Go.RowKit
set_option maxHeartbeats 1000000
set_option linter.unusedVariables false

def SomeBool (w : World) (e : Ending) (w' : World) : Prop := ∃ b : Bool, e = .returned (.bool b) ∧ Fr No w w'
set_option maxRecDepth 20000 in
theorem p_small {N : Nat → Prop} {m : MsgC} {tl : List (Int × List UInt8)} {el : List (ByteArray × ByteArray)} {ol : List (Int × List UInt8)} (w : World) (hm : MsgR w N m tl el ol) :
    Calls Tryd.prog 5 #[m.val] w (SomeBool w) := by
  have hb0 : Bk (w.alloc (.cells m.cells.toArray 29)) w.heap.size 29 m.cells := Bk.new w _ _
  have hfa : Fr No w (w.alloc (.cells m.cells.toArray 29)) := (Fr.refl No w).alloc _
  have hsz : m.time.size ≤ 140737488355328 ∧ m.acq.size ≤ 140737488355328 ∧ m.pan.size ≤ 140737488355328 ∧ m.cur.size ≤ 140737488355328 ∧ m.rrn.size ≤ 140737488355328 ∧ m.mer.size ≤ 140737488355328 ∧ m.ter.size ≤ 140737488355328 ∧ m.app.size ≤ 140737488355328 ∧ m.act.size ≤ 140737488355328 ∧ m.rea.size ≤ 140737488355328 ∧ m.otime.size ≤ 140737488355328 ∧ m.key.size ≤ 140737488355328 ∧ m.note.size ≤ 140737488355328 := ⟨hm.time, hm.acq, hm.pan, hm.cur, hm.rrn, hm.mer, hm.ter, hm.app, hm.act, hm.rea, hm.otime, hm.key, hm.note⟩
  have hlen : m.tn ≤ 140737488355328 ∧ m.en ≤ 140737488355328 ∧ m.on ≤ 140737488355328 := ⟨hm.tn, hm.en, hm.on⟩
  have d16 : ∀ u, Fr No (w.alloc (.cells m.cells.toArray 29)) u → u.cell? ⟨w.heap.size, 16, none⟩ = some (.slice m.tA m.tn m.tc) ∧ u.cell? ⟨w.heap.size, 19, none⟩ = some (.slice m.eA m.en m.ec) ∧ u.cell? ⟨w.heap.size, 20, none⟩ = some (.slice m.oA m.on m.oc) := fun u hu => ⟨(hb0.no hu).cell 16, (hb0.no hu).cell 19, (hb0.no hu).cell 20⟩
  have hT := (hm.no hfa).tags
  have hE := (hm.no hfa).extra
  have hO := (hm.no hfa).other
  obtain ⟨W, hW⟩ : ∃ W, w.alloc (.cells m.cells.toArray 29) = W := ⟨_, rfl⟩
  rw [hW] at d16 hT hE hO hfa hb0
  have q2 : W.cell? ⟨w.heap.size, 2, none⟩ = some (.string m.time) := hb0.cell 2
  have q3 : W.cell? ⟨w.heap.size, 3, none⟩ = some (.string m.acq) := hb0.cell 3
  have q4 : W.cell? ⟨w.heap.size, 4, none⟩ = some (.string m.pan) := hb0.cell 4
  have q5 : W.cell? ⟨w.heap.size, 5, none⟩ = some (.string m.cur) := hb0.cell 5
  have q7 : W.cell? ⟨w.heap.size, 7, none⟩ = some (.string m.rrn) := hb0.cell 7
  have q8 : W.cell? ⟨w.heap.size, 8, none⟩ = some (.string m.mer) := hb0.cell 8
  have q9 : W.cell? ⟨w.heap.size, 9, none⟩ = some (.string m.ter) := hb0.cell 9
  have q10 : W.cell? ⟨w.heap.size, 10, none⟩ = some (.string m.app) := hb0.cell 10
  have q12 : W.cell? ⟨w.heap.size, 12, none⟩ = some (.string m.act) := hb0.cell 12
  have q13 : W.cell? ⟨w.heap.size, 13, none⟩ = some (.string m.rea) := hb0.cell 13
  have q15 : W.cell? ⟨w.heap.size, 15, none⟩ = some (.string m.otime) := hb0.cell 15
  have q17 : W.cell? ⟨w.heap.size, 17, none⟩ = some (.string m.key) := hb0.cell 17
  have q18 : W.cell? ⟨w.heap.size, 18, none⟩ = some (.string m.note) := hb0.cell 18
  unfold MsgC.val
  unfold MsgC.cells at hW
  obtain ⟨s1, s2, s3, s4, s5, s6, s7, s8, s9, s10, s11, s12, s13⟩ := hsz
  obtain ⟨l1, l2, l3⟩ := hlen
  have D16 := Lib.hid d16; have HT := Lib.hid hT; have HE := Lib.hid hE; have HO := Lib.hid hO; have HFA := Lib.hid hfa
  clear d16 hT hE hO hfa hb0 hm
  go_enter Tryd.func5, Tryd.ntmps5
  go_wp2
  clear s1 s2 s3 s4 s5 s6 s7 s8 s9 s10 s11 s12 s13 q2 q3 q4 q5 q7 q8 q9 q10 q12 q13 q15 q17 q18
  generalize m.tA = tA at *
  generalize m.eA = eA at *
  generalize m.oA = oA at *
  go_loopw [3, 4] (fun zv v wr => ∃ (z : Int) (k : Nat), zv = .int .i64 z ∧ k ≤ m.tn ∧ v = .int .i64 (k : Int) ∧ Fr No W wr) (fun _ v _ => m.tn - (intOf v).toNat)
  case atStart => exact ⟨_, 0, rfl, by omega, rfl, Fr.refl _ _⟩
  case round =>
    obtain ⟨z, k, rfl, hk, rfl, hfr⟩ := hrel
    obtain ⟨d16, d19, d20⟩ := D16.out _ hfr
    have HFR := Lib.hid hfr
    clear hfr
    rcases Nat.lt_or_ge k m.tn with hkn | hge
    · obtain ⟨ad, cs, a, rfl, ⟨A, n, c, rfl, h1, h2, h3, h4⟩, hak, hc0, hc1⟩ := two_cells tag_ok (HT.out.no tag_ok HFR.out) hkn
      have c1 := hc1 _ rfl
      obtain ⟨P, hP⟩ : ∃ P, ad.add (k * 2) = P := ⟨_, rfl⟩
      rw [hP] at c1
      have hkI : (k : Int) < (m.tn : Int) := by omega
      clear hc0 hc1 h1 h2 h3 hak
      go_wp2
      go_roundw
      case rel => exact ⟨_, k + 1, rfl, by omega, by go_num, HFR.out⟩
      case measure => simp [intOf]; omega
    · obtain rfl : k = m.tn := by omega
      clear hge hk
      go_wp2
      go_loopw [3, 5] (fun zv v wr => ∃ (z : Int) (k : Nat), zv = .int .i64 z ∧ k ≤ m.en ∧ v = .int .i64 (k : Int) ∧ Fr No W wr) (fun _ v _ => m.en - (intOf v).toNat)
      case atStart => exact ⟨_, 0, rfl, by omega, rfl, HFR.out⟩
      case round =>
        clear HFR d16 d19 d20
        obtain ⟨z, k, rfl, hk, rfl, hfr⟩ := hrel
        obtain ⟨d16, d19, d20⟩ := D16.out _ hfr
        have HFR := Lib.hid hfr
        clear hfr
        rcases Nat.lt_or_ge k m.en with hkn | hge
        · obtain ⟨ad, cs, a, rfl, ⟨rfl, h1, h2⟩, hak, hc0, hc1⟩ := two_cells pair_ok (HE.out.no pair_ok HFR.out) hkn
          have c0 := hc0 _ rfl
          have c1 := hc1 _ rfl
          obtain ⟨P, hP⟩ : ∃ P, ad.add (k * 2) = P := ⟨_, rfl⟩
          rw [hP] at c1 c0
          have hkI : (k : Int) < (m.en : Int) := by omega
          clear hc0 hc1 hak
          go_wp2
          go_quiet (fail)
          go_wp2
          go_roundw
          case rel => exact ⟨_, k + 1, rfl, by omega, by go_num, HFR.out.drewN _⟩
          case measure => simp [intOf]; omega
        · obtain rfl : k = m.en := by omega
          clear hge hk
          go_wp2
          go_loopw [3, 6] (fun zv v wr => ∃ (z : Int) (k : Nat), zv = .int .i64 z ∧ k ≤ m.on ∧ v = .int .i64 (k : Int) ∧ Fr No W wr) (fun _ v _ => m.on - (intOf v).toNat)
          case atStart => exact ⟨_, 0, rfl, by omega, rfl, HFR.out⟩
          case round =>
            clear HFR d16 d19 d20
            obtain ⟨z, k, rfl, hk, rfl, hfr⟩ := hrel
            obtain ⟨d16, d19, d20⟩ := D16.out _ hfr
            have HFR := Lib.hid hfr
            clear hfr
            rcases Nat.lt_or_ge k m.on with hkn | hge
            · obtain ⟨ad, cs, a, rfl, ⟨A, n, c, rfl, h1, h2, h3, h4⟩, hak, hc0, hc1⟩ := two_cells tag_ok (HO.out.no tag_ok HFR.out) hkn
              have c1 := hc1 _ rfl
              obtain ⟨P, hP⟩ : ∃ P, ad.add (k * 2) = P := ⟨_, rfl⟩
              rw [hP] at c1
              have hkI : (k : Int) < (m.on : Int) := by omega
              clear hc0 hc1 h1 h2 h3 hak
              go_wp2
              go_roundw
              case rel => exact ⟨_, k + 1, rfl, by omega, by go_num, HFR.out⟩
              case measure => simp [intOf]; omega
            · obtain rfl : k = m.on := by omega
              clear hge hk
              go_wp2
              go_ret
              exact ⟨_, rfl, HFA.out.trans HFR.out⟩
end Go.Proofs.YtdfehdjpbmkaoaaDoor
