/- Package kinds: the first row that stands a test. -/
import Derived.Test.YtdenaejinlkfgaaDoorTabs
import Derived.Test.YtdenaejinlkfgaaDoorRefKin4
import Derived.Test.YtdenaejinlkfgaaDoorWhole
import Derived.LoopTactic
namespace Go.Proofs.YtdenaejinlkfgaaDoor
open Go.RowKit
set_option maxHeartbeats 400000
set_option linter.unusedVariables false

theorem devSize : (Tryd.prog.info? 81).map (·.size) = some devV.length := by kernel_rfl
theorem dev_index (k : Nat) (hk : k < 11) : ∀ w : World, (Instr.index 81 (.agg devV.toArray) (.int .i64 (k : Int))).run Tryd.prog w = .ok (dRow k).val w := by
  intro w
  have h : k = 0 ∨ k = 1 ∨ k = 2 ∨ k = 3 ∨ k = 4 ∨ k = 5 ∨ k = 6 ∨ k = 7 ∨ k = 8 ∨ k = 9 ∨ k = 10 := by omega
  rcases h with rfl | rfl | rfl | rfl | rfl | rfl | rfl | rfl | rfl | rfl | rfl <;> (show _ = _; kernel_rfl)
theorem rowSize (a b c d e : Value) : (Tryd.prog.info? 52).map (·.size) = some [a, b, c, d, e].length := by kernel_rfl
theorem cells5 {w : World} {g : Nat} {t : TypeId} {a b c d e : Value} (h : Bk w g t [a, b, c, d, e]) :
    w.cell? ⟨g, 0, none⟩ = some a ∧ w.cell? ⟨g, 1, none⟩ = some b ∧ w.cell? ⟨g, 2, none⟩ = some c ∧ w.cell? ⟨g, 3, none⟩ = some d ∧ w.cell? ⟨g, 4, none⟩ = some e ∧
    w.frozen? ⟨g, 0, none⟩ = false ∧ w.frozen? ⟨g, 1, none⟩ = false ∧ w.frozen? ⟨g, 2, none⟩ = false ∧ w.frozen? ⟨g, 3, none⟩ = false ∧ w.frozen? ⟨g, 4, none⟩ = false :=
  ⟨h.cell 0, h.cell 1, h.cell 2, h.cell 3, h.cell 4, h.frozen 0, h.frozen 1, h.frozen 2, h.frozen 3, h.frozen 4⟩
/-- five cells, written one behind the other -/
def put5 (w : World) (g : Nat) (a b c d e : Value) : World := ((((w.setCell ⟨g, 0, none⟩ a).setCell ⟨g, 1, none⟩ b).setCell ⟨g, 2, none⟩ c).setCell ⟨g, 3, none⟩ d).setCell ⟨g, 4, none⟩ e
theorem put5_cells {w : World} {g : Nat} {t : TypeId} {a' b' c' d' e' : Value} (h : Bk w g t [a', b', c', d', e']) (a b c d e : Value) :
    (w.setCell ⟨g, 0, none⟩ a).cell? ⟨g, 0, none⟩ = some a ∧ ((w.setCell ⟨g, 0, none⟩ a).setCell ⟨g, 1, none⟩ b).cell? ⟨g, 1, none⟩ = some b ∧ (((w.setCell ⟨g, 0, none⟩ a).setCell ⟨g, 1, none⟩ b).setCell ⟨g, 2, none⟩ c).cell? ⟨g, 2, none⟩ = some c ∧
    ((((w.setCell ⟨g, 0, none⟩ a).setCell ⟨g, 1, none⟩ b).setCell ⟨g, 2, none⟩ c).setCell ⟨g, 3, none⟩ d).cell? ⟨g, 3, none⟩ = some d ∧
    (((((w.setCell ⟨g, 0, none⟩ a).setCell ⟨g, 1, none⟩ b).setCell ⟨g, 2, none⟩ c).setCell ⟨g, 3, none⟩ d).setCell ⟨g, 4, none⟩ e).cell? ⟨g, 4, none⟩ = some e :=
  ⟨(h.set_ 0 a).cell 0, ((h.set_ 0 a).set_ 1 b).cell 1, (((h.set_ 0 a).set_ 1 b).set_ 2 c).cell 2, ((((h.set_ 0 a).set_ 1 b).set_ 2 c).set_ 3 d).cell 3, (((((h.set_ 0 a).set_ 1 b).set_ 2 c).set_ 3 d).set_ 4 e).cell 4⟩
theorem put5_fr {S : Nat → Prop} {w0 w : World} {g : Nat} (h : Fr S w0 w) (hg : S g ∨ w0.heap.size ≤ g) (a b c d e : Value) : Fr S w0 (put5 w g a b c d e) :=
  ((((h.setCell hg a).setCell hg b).setCell hg c).setCell hg d).setCell hg e
/-- what a test of rows answers -/
structure RowTests (F : FuncId) (x : Value) (p : Nat → Bool) : Prop where
  enters : ∀ args w, (callFunc F args).run Tryd.prog w = .ok (.enter F args) w
  tells : ∀ (k : Nat) (w : World), k < 11 → Calls Tryd.prog F #[x, (dRow k).val] w fun e w' => e = .returned (.bool (p k)) ∧ Fr No w w'
set_option maxRecDepth 20000 in
theorem k_first (F : FuncId) (x : Value) (p : Nat → Bool) (ht : RowTests F x p) (w : World) (hT : Tabs w := by repeat' first | with_reducible assumption | with_reducible apply Tabs.drew | with_reducible apply Tabs.drewN | with_reducible apply Tabs.alloc | refine Tabs.fr ?_ (by with_reducible assumption)) :
    Calls Tryd.prog 28 #[.func (.func F) #[x] #[]] w fun e w' => e = .returned (dFirst p).val ∧ Fr No w w' := by
  have hb0 : Bk (w.alloc (.cells #[.int .i64 0, .string ⟨#[]⟩, .string ⟨#[]⟩, .int .u16 0, .int .u16 0] 52)) w.heap.size 52 [.int .i64 0, .string ⟨#[]⟩, .string ⟨#[]⟩, .int .u16 0, .int .u16 0] := Bk.new w _ _
  have hfa : Fr No w (w.alloc (.cells #[.int .i64 0, .string ⟨#[]⟩, .string ⟨#[]⟩, .int .u16 0, .int .u16 0] 52)) := (Fr.refl No w).alloc _
  have HRG := Lib.hid (hT.alloc (o := .cells #[.int .i64 0, .string ⟨#[]⟩, .string ⟨#[]⟩, .int .u16 0, .int .u16 0] 52)).kt
  have HB0 := Lib.hid hb0; have HFA := Lib.hid hfa
  have hen := ht.enters
  clear hb0 hfa hT
  go_enter Tryd.func28, Tryd.ntmps28
  go_wp2_with (first
    | (refine wpList_load_mid rfl 81 _ rfl 0 0 rfl devV _ HRG.out (Tryd.underlying81) rfl devSize ?_; clear HRG))
  have HEN := Lib.hid hen; have HT := Lib.hid ht.tells
  clear ht
  go_loopw [6] (fun v wr => ∃ k : Nat, k ≤ 11 ∧ v = .int .i64 (k : Int) ∧ (∀ j, j < k → p j = false) ∧ Fr No (w.alloc (.cells #[.int .i64 0, .string ⟨#[]⟩, .string ⟨#[]⟩, .int .u16 0, .int .u16 0] 52)) wr) (fun v _ => 11 - (intOf v).toNat)
  case atStart => exact ⟨0, by omega, rfl, fun j hj => by omega, Fr.refl _ _⟩
  case round =>
    obtain ⟨k, hk, rfl, hall, hfr⟩ := hrel
    have HALL := Lib.hid hall; have HFR := Lib.hid hfr
    clear hall hfr
    rcases Nat.lt_or_ge k 11 with hkn | hge
    · have hix := dev_index k hkn
      have htl := fun u => HT.out k u hkn
      obtain ⟨⟨rk, rc, rm, ru, ra⟩, hr⟩ : ∃ r, dRow k = r := ⟨_, rfl⟩
      rw [hr] at hix htl
      unfold DRow.val at hix htl
      have HR := Lib.hid hr; have HTL := Lib.hid htl
      have hb1 : Bk (wr.alloc (.cells #[.int .i64 rk, .string rc, .string rm, .int .u16 (ru : Int), .int .u16 (ra : Int)] 52)) wr.heap.size 52 [.int .i64 rk, .string rc, .string rm, .int .u16 (ru : Int), .int .u16 (ra : Int)] := Bk.new wr _ _
      have HB1 := Lib.hid hb1
      have HFA2 := Lib.hid ((Fr.refl No wr).alloc (.cells #[.int .i64 rk, .string rc, .string rm, .int .u16 (ru : Int), .int .u16 (ra : Int)] 52))
      clear hr htl hb1
      cases hp : p k with
      | true =>
        rw [hp] at HTL
        have HP := Lib.hid hp
        have he : (dFirst p).val = .agg #[.int .i64 rk, .string rc, .string rm, .int .u16 (ru : Int), .int .u16 (ra : Int)] := by rw [dFirst_at hkn HALL.out hp, HR.out]; rfl
        have HE := Lib.hid he
        clear hp he
        go_wp2_with (first
          | (refine (HTL.out _).mono ?_; rintro e w2 ⟨rfl, f2⟩; have B2 := HB1.out.no f2; have HF2 := Lib.hid (HFR.out.trans (HFA2.out.trans f2)); have B3 := HB0.out.no HF2.out; obtain ⟨b0, b1, b2, b3, b4, z0, z1, z2, z3, z4⟩ := cells5 B3; have B3H := Lib.hid B3; clear f2 B3)
          | (refine wpList_load_bk rfl 52 _ rfl wr.heap.size rfl _ _ B2 (Tryd.underlying52) rfl (rowSize _ _ _ _ _) ?_; clear B2))
        obtain ⟨q0, q1, q2, q3, q4⟩ := put5_cells B3H.out (.int .i64 rk) (.string rc) (.string rm) (.int .u16 (ru : Int)) (.int .u16 (ra : Int))
        refine bodyPost_ret (v := .agg #[.int .i64 rk, .string rc, .string rm, .int .u16 (ru : Int), .int .u16 (ra : Int)]) (by simp [results, Tryd.results28, go_sem, q0, q1, q2, q3, q4]) rfl ?_
        exact ⟨by rw [HE.out], put5_fr (HFA.out.trans HF2.out) (.inr (Nat.le_refl _)) _ _ _ _ _⟩
      | false =>
        rw [hp] at HTL
        have HP := Lib.hid hp
        clear hp
        go_wp2_with (first
          | (refine (HTL.out _).mono ?_; rintro e w2 ⟨rfl, f2⟩; have HF2 := Lib.hid (HFR.out.trans (HFA2.out.trans f2)); clear f2))
        go_roundw
        case rel => exact ⟨k + 1, by omega, by go_num, fun j hj => by
          by_cases hjk : j = k
          · subst hjk; exact HP.out
          · exact HALL.out j (by omega), HF2.out⟩
        case measure => simp [intOf]; omega
    · obtain rfl : k = 11 := by omega
      have he : (dFirst p).val = .agg #[.int .i64 0, .string ⟨#[]⟩, .string ⟨#[]⟩, .int .u16 0, .int .u16 0] := by rw [dFirst_none HALL.out]; rfl
      have HE := Lib.hid he
      have B3 := HB0.out.no HFR.out
      obtain ⟨b0, b1, b2, b3, b4, z0, z1, z2, z3, z4⟩ := cells5 B3
      have B3H := Lib.hid B3
      clear he B3
      go_wp2
      obtain ⟨q0, q1, q2, q3, q4⟩ := put5_cells B3H.out (.int .i64 0) (.string ⟨#[]⟩) (.string ⟨#[]⟩) (.int .u16 0) (.int .u16 0)
      refine bodyPost_ret (v := .agg #[.int .i64 0, .string ⟨#[]⟩, .string ⟨#[]⟩, .int .u16 0, .int .u16 0]) (by simp [results, Tryd.results28, go_sem, q0, q1, q2, q3, q4]) rfl ?_
      exact ⟨by rw [HE.out], put5_fr (HFA.out.trans HFR.out) (.inr (Nat.le_refl _)) _ _ _ _ _⟩
end Go.Proofs.YtdenaejinlkfgaaDoor
