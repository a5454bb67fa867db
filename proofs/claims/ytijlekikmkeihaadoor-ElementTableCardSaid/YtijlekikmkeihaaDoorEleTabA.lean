/- ElementTable, one case of the two rows. -/
import Derived.Test.YtijlekikmkeihaaDoorEleTabM
namespace Go.Proofs.YtijlekikmkeihaaDoor
open Go.RowKit
set_option maxHeartbeats 16000000
set_option linter.unusedVariables false
set_option linter.unusedSimpArgs false

set_option maxRecDepth 20000 in
attribute [local irreducible] yielded in
theorem tab_A {x y an ak DA TA : Int} {S : Bool} (w : World) (hx : Numb x an) (hy : Numb y an) (hs : STests an S) (hq : TabAsk w an an (.agg #[.int .i64 an, .int .i64 ak, .int .i64 DA, .int .i64 TA], true) (.agg #[.int .i64 an, .int .i64 ak, .int .i64 DA, .int .i64 TA], true) S) (p1 : 0 < TA) (p2 : 0 ≤ DA) (p3 : DA ≤ 4) :
    Calls Tryd.prog 7 #[.int .i64 x, .int .i64 y] w fun e w' => e = .returned (.bool true) ∧ Fr No w w' := by
  obtain ⟨ea, wa, wa2, ha1, ha2⟩ := hx
  obtain ⟨eb, wb, wb2, hb1, hb2⟩ := hy
  obtain ⟨b43, b60, b63, b102, b103, b120, h43, h60, h63, h102, h103, h120, hS, htup⟩ := hs
  have HOA := Lib.hid hq.oa; have HOB := Lib.hid hq.ob; have HSP0 := Lib.hid hq.sp; have AW := Lib.hid hq.aw
  have HSS := Lib.hid hS
  clear hq hS
  unfold sAll at htup
  simp only [List.mem_cons, List.not_mem_nil, or_false] at htup
  rcases htup with htup | htup | htup | htup | htup | htup | htup
  all_goals
    simp only [List.cons.injEq, and_true] at htup
    obtain ⟨rfl, rfl, rfl, rfl, rfl, rfl⟩ := htup
    have hS := HSS.out
    simp only [Bool.and_true, Bool.and_false, Bool.or_true, Bool.or_false, Bool.true_and, Bool.false_and, Bool.true_or, Bool.false_or, Bool.and_self, Bool.or_self] at hS
  all_goals
    subst hS
    have HSP := Lib.hid HSP0.out
    clear HSS
    have tok1 := True.intro
    go_enter Tryd.func7, Tryd.ntmps7
    go_wp2_with (first
      | (go_at_call 10; clear tok1; (with_reducible refine (HOA.out _ (Fr.refl No w)).mono ?_); rintro e w1 ⟨rfl, f1⟩; have tok2 := True.intro; have F1 := Lib.hid (f1.alloc (.cells #[.int .i64 an, .int .i64 ak, .int .i64 DA, .int .i64 TA] 27)); have BA1 := Lib.hid (Bk.new w1 27 #[.int .i64 an, .int .i64 ak, .int .i64 DA, .int .i64 TA]); clear f1)
      | (go_at_call 10; clear tok2; (with_reducible refine (HOB.out _ F1.out).mono ?_); rintro e w2 ⟨rfl, f2⟩; have G2 := f2.alloc (.cells #[.int .i64 an, .int .i64 ak, .int .i64 DA, .int .i64 TA] 27); have F2 := Lib.hid (F1.out.trans G2); have BA2 := Lib.hid (BA1.out.no G2); have BB2 := Lib.hid (Bk.new w2 27 #[.int .i64 an, .int .i64 ak, .int .i64 DA, .int .i64 TA]); clear f2 G2)
      | (go_at_call 9; refine (AW.out _ F2.out).mono ?_; rintro e w3 ⟨rfl, f3⟩; have F3 := Lib.hid (F2.out.trans f3); have BA3 := Lib.hid (BA2.out.no f3); have BB3 := Lib.hid (BB2.out.no f3); clear f3)
      | (go_at_call 16; refine (HSP.out _ F3.out).mono ?_; rintro e w4 ⟨rfl, f4⟩; have F4 := Lib.hid (F3.out.trans f4); obtain ⟨y0, y1, y2, y3⟩ := fmt_rows (BA3.out.no f4); obtain ⟨x0, x1, x2, x3⟩ := fmt_rows (BB3.out.no f4); clear f4))
    go_ret
    exact ⟨rfl, F4.out⟩
end Go.Proofs.YtijlekikmkeihaaDoor
