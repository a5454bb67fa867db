/- The texts EleFind, joined. -/
import Derived.Test.YthlgnmgjfgbffaaGreatDoorL15
import Derived.Test.YthlgnmgjfgbffaaGreatDoorL06
import Derived.Test.YthlgnmgjfgbffaaGreatDoorL14
import Derived.LoopTactic
/- Package element: the row of a number; its format; whether it is a spare one. -/
namespace Go.Proofs.YthlgnmgjfgbffaaGreatDoor
open Go.RowKit
set_option maxHeartbeats 400000
set_option linter.unusedVariables false
set_option maxRecDepth 20000

theorem ele_size : (Tryz.prog.info? 224).map (·.size) = some eleV.length := by kernel_rfl
theorem ele_index (k : Nat) (hk : k < 24) : ∀ w : World, (Instr.index 224 (.agg eleV.toArray) (.int .i64 (k : Int))).run Tryz.prog w = .ok (elRow k).val w := by
  intro w
  have h : k = 0 ∨ k = 1 ∨ k = 2 ∨ k = 3 ∨ k = 4 ∨ k = 5 ∨ k = 6 ∨ k = 7 ∨ k = 8 ∨ k = 9 ∨ k = 10 ∨ k = 11 ∨ k = 12 ∨ k = 13 ∨ k = 14 ∨ k = 15 ∨ k = 16 ∨ k = 17 ∨ k = 18 ∨ k = 19 ∨ k = 20 ∨ k = 21 ∨ k = 22 ∨ k = 23 := by omega
  rcases h with rfl | rfl | rfl | rfl | rfl | rfl | rfl | rfl | rfl | rfl | rfl | rfl | rfl | rfl | rfl | rfl | rfl | rfl | rfl | rfl | rfl | rfl | rfl | rfl <;> (show _ = _; kernel_rfl)
theorem erow_size (a b c d e : Value) : (Tryz.prog.info? 177).map (·.size) = some [a, b, c, d, e].length := by kernel_rfl
theorem ele_cells {w : World} {g : Nat} {t : TypeId} {a b c d e : Value} (h : Bk w g t [a, b, c, d, e]) :
    w.cell? ⟨g, 0, none⟩ = some a ∧ w.cell? ⟨g, 1, none⟩ = some b ∧ w.cell? ⟨g, 2, none⟩ = some c ∧ w.cell? ⟨g, 3, none⟩ = some d ∧ w.cell? ⟨g, 4, none⟩ = some e ∧
    w.frozen? ⟨g, 0, none⟩ = false ∧ w.frozen? ⟨g, 1, none⟩ = false ∧ w.frozen? ⟨g, 2, none⟩ = false ∧ w.frozen? ⟨g, 3, none⟩ = false ∧ w.frozen? ⟨g, 4, none⟩ = false :=
  ⟨h.cell 0, h.cell 1, h.cell 2, h.cell 3, h.cell 4, h.frozen 0, h.frozen 1, h.frozen 2, h.frozen 3, h.frozen 4⟩
/-- five cells, written one behind the other -/
def eput (w : World) (g : Nat) (a b c d e : Value) : World := ((((w.setCell ⟨g, 0, none⟩ a).setCell ⟨g, 1, none⟩ b).setCell ⟨g, 2, none⟩ c).setCell ⟨g, 3, none⟩ d).setCell ⟨g, 4, none⟩ e
theorem eput_cells {w : World} {g : Nat} {t : TypeId} {a' b' c' d' e' : Value} (h : Bk w g t [a', b', c', d', e']) (a b c d e : Value) :
    (w.setCell ⟨g, 0, none⟩ a).cell? ⟨g, 0, none⟩ = some a ∧ ((w.setCell ⟨g, 0, none⟩ a).setCell ⟨g, 1, none⟩ b).cell? ⟨g, 1, none⟩ = some b ∧ (((w.setCell ⟨g, 0, none⟩ a).setCell ⟨g, 1, none⟩ b).setCell ⟨g, 2, none⟩ c).cell? ⟨g, 2, none⟩ = some c ∧
    ((((w.setCell ⟨g, 0, none⟩ a).setCell ⟨g, 1, none⟩ b).setCell ⟨g, 2, none⟩ c).setCell ⟨g, 3, none⟩ d).cell? ⟨g, 3, none⟩ = some d ∧
    (((((w.setCell ⟨g, 0, none⟩ a).setCell ⟨g, 1, none⟩ b).setCell ⟨g, 2, none⟩ c).setCell ⟨g, 3, none⟩ d).setCell ⟨g, 4, none⟩ e).cell? ⟨g, 4, none⟩ = some e :=
  ⟨(h.set_ 0 a).cell 0, ((h.set_ 0 a).set_ 1 b).cell 1, (((h.set_ 0 a).set_ 1 b).set_ 2 c).cell 2, ((((h.set_ 0 a).set_ 1 b).set_ 2 c).set_ 3 d).cell 3, (((((h.set_ 0 a).set_ 1 b).set_ 2 c).set_ 3 d).set_ 4 e).cell 4⟩
theorem eput_fr {S : Nat → Prop} {w0 w : World} {g : Nat} (h : Fr S w0 w) (hg : S g ∨ w0.heap.size ≤ g) (a b c d e : Value) : Fr S w0 (eput w g a b c d e) :=
  ((((h.setCell hg a).setCell hg b).setCell hg c).setCell hg d).setCell hg e
set_option maxRecDepth 20000 in
theorem ele_find (no : Int) (w : World) (hT : Tabs w := by repeat' first | with_reducible assumption | with_reducible apply Tabs.drew | with_reducible apply Tabs.drewN | with_reducible apply Tabs.alloc | refine Tabs.fr ?_ (by with_reducible assumption)) :
    Calls Tryz.prog 132 #[.int .i64 no] w fun e w' => e = .returned (.tuple #[(elGet no).val, .bool (elFind no).isSome]) ∧ Fr No w w' := by
  have hb0 : Bk (w.alloc (.cells #[.int .i64 0, .int .i64 0, .int .i64 0, .int .i64 0, .bool false] 177)) w.heap.size 177 [.int .i64 0, .int .i64 0, .int .i64 0, .int .i64 0, .bool false] := Bk.new w _ _
  have hfa : Fr No w (w.alloc (.cells #[.int .i64 0, .int .i64 0, .int .i64 0, .int .i64 0, .bool false] 177)) := (Fr.refl No w).alloc _
  have HRG := Lib.hid (hT.alloc (o := .cells #[.int .i64 0, .int .i64 0, .int .i64 0, .int .i64 0, .bool false] 177)).et
  have HB0 := Lib.hid hb0; have HFA := Lib.hid hfa
  clear hb0 hfa hT
  go_enter Tryz.func132, Tryz.ntmps132
  go_wp2_with (first
    | (refine wpList_load_mid rfl 224 _ rfl 2 0 rfl eleV _ HRG.out (Tryz.underlying224) rfl ele_size ?_; clear HRG))
  go_loopw [7] (fun v wr => ∃ k : Nat, k ≤ 24 ∧ v = .int .i64 (k : Int) ∧ (∀ j, j < k → (elRow j).no ≠ no) ∧ Fr No (w.alloc (.cells #[.int .i64 0, .int .i64 0, .int .i64 0, .int .i64 0, .bool false] 177)) wr) (fun v _ => 24 - (intOf v).toNat)
  case atStart => exact ⟨0, by omega, rfl, fun j hj => by omega, Fr.refl _ _⟩
  case round =>
    obtain ⟨k, hk, rfl, hall, hfr⟩ := hrel
    have HALL := Lib.hid hall; have HFR := Lib.hid hfr
    clear hall hfr
    rcases Nat.lt_or_ge k 24 with hkn | hge
    · have hix := ele_index k hkn
      obtain ⟨⟨rn, rk, rd, rt, rs⟩, hr⟩ : ∃ r, elRow k = r := ⟨_, rfl⟩
      rw [hr] at hix
      unfold FRow.val at hix
      obtain ⟨D, hD⟩ : ∃ D : Int, (rd : Int) = D := ⟨_, rfl⟩
      obtain ⟨T, hTT⟩ : ∃ T : Int, (rt : Int) = T := ⟨_, rfl⟩
      dsimp only at hix
      rw [hD, hTT] at hix
      have HR := Lib.hid hr; have HD := Lib.hid hD; have HTT := Lib.hid hTT
      have hb1 : Bk (wr.alloc (.cells #[.int .i64 rn, .int .i64 rk, .int .i64 D, .int .i64 T, .bool rs] 177)) wr.heap.size 177 [.int .i64 rn, .int .i64 rk, .int .i64 D, .int .i64 T, .bool rs] := Bk.new wr _ _
      have HB1 := Lib.hid hb1
      have c0 := hb1.cell 0
      have HFA2 := Lib.hid ((Fr.refl No wr).alloc (.cells #[.int .i64 rn, .int .i64 rk, .int .i64 D, .int .i64 T, .bool rs] 177))
      have HF2 := Lib.hid (HFR.out.trans HFA2.out)
      clear hr hb1 hD hTT
      by_cases hn : rn = no
      · have hnb : (rn == no) = true := beq_iff_eq.2 hn
        have he : elFind no = some ⟨rn, rk, rd, rt, rs⟩ := by rw [← HR.out]; exact elFind_at hkn (by rw [HR.out]; exact hn)
        have HE := Lib.hid he
        have B3 := HB0.out.no HF2.out
        obtain ⟨b0, b1, b2, b3, b4, z0, z1, z2, z3, z4⟩ := ele_cells B3
        have B3H := Lib.hid B3
        clear hn he B3
        go_wp2_with (first
          | (refine wpList_load_bk rfl 177 _ rfl wr.heap.size rfl _ _ HB1.out (Tryz.underlying177) rfl (erow_size _ _ _ _ _) ?_))
        obtain ⟨q0, q1, q2, q3, q4⟩ := eput_cells B3H.out (.int .i64 rn) (.int .i64 rk) (.int .i64 D) (.int .i64 T) (.bool rs)
        refine bodyPost_ret (v := .tuple #[.agg #[.int .i64 rn, .int .i64 rk, .int .i64 D, .int .i64 T, .bool rs], .bool true]) (by simp [results, Tryz.results132, go_sem, q0, q1, q2, q3, q4]) rfl ?_
        exact ⟨by unfold elGet; rw [HE.out, ← HD.out, ← HTT.out]; rfl, eput_fr (HFA.out.trans HF2.out) (.inr (Nat.le_refl _)) _ _ _ _ _⟩
      · have hnb : (rn == no) = false := beq_eq_false_iff_ne.2 hn
        have HN := Lib.hid hn
        clear hn
        go_wp2_with fail
        go_roundw
        case rel => exact ⟨k + 1, by omega, by go_num, fun j hj => by
          by_cases hjk : j = k
          · subst hjk; rw [HR.out]; exact HN.out
          · exact HALL.out j (by omega), HF2.out⟩
        case measure => simp [intOf]; omega
    · obtain rfl : k = 24 := by omega
      have he : elFind no = none := elFind_none HALL.out
      have HE := Lib.hid he
      have B3 := HB0.out.no HFR.out
      obtain ⟨b0, b1, b2, b3, b4, z0, z1, z2, z3, z4⟩ := ele_cells B3
      have B3H := Lib.hid B3
      clear he B3
      go_wp2
      obtain ⟨q0, q1, q2, q3, q4⟩ := eput_cells B3H.out (.int .i64 0) (.int .i64 0) (.int .i64 0) (.int .i64 0) (.bool false)
      refine bodyPost_ret (v := .tuple #[.agg #[.int .i64 0, .int .i64 0, .int .i64 0, .int .i64 0, .bool false], .bool false]) (by simp [results, Tryz.results132, go_sem, q0, q1, q2, q3, q4]) rfl ?_
      exact ⟨by unfold elGet; rw [HE.out]; rfl, eput_fr (HFA.out.trans HFR.out) (.inr (Nat.le_refl _)) _ _ _ _ _⟩
end Go.Proofs.YthlgnmgjfgbffaaGreatDoor
