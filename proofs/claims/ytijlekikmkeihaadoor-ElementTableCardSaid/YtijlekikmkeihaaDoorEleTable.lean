/- ElementTable: the walk, for any two numbers. -/
import Derived.Test.YtijlekikmkeihaaDoorEleTabA
import Derived.Test.YtijlekikmkeihaaDoorEleTabB
import Derived.Test.YtijlekikmkeihaaDoorEleTabC
import Derived.Test.YtijlekikmkeihaaDoorEleTabD
namespace Go.Proofs.YtijlekikmkeihaaDoor
open Go.RowKit
set_option maxHeartbeats 4000000
set_option linter.unusedVariables false

set_option maxRecDepth 20000 in
attribute [local irreducible] yielded in
theorem eleTable_walk {x y : Int} (w : World) (hT : Tabs w) (hx : (Lit.int .i64 x).wf = true) (hy : (Lit.int .i64 y).wf = true) :
    Calls Tryd.prog 7 #[.int .i64 x, .int .i64 y] w fun e w' => e = .returned (.bool true) ∧ Fr No w w' := by
  obtain ⟨a, ha, ea⟩ := umod x 130 (by decide) (by decide)
  obtain ⟨b, hb, eb⟩ := umod y 130 (by decide) (by decide)
  have ea : (IntKind.u64.wrap x).tmod 130 = (a : Int) := ea
  have eb : (IntKind.u64.wrap y).tmod 130 = (b : Int) := eb
  have wa : IntKind.i64.wrap (a : Int) = (a : Int) := IntWalk.i64_in _ ⟨by omega, by omega⟩
  have wb : IntKind.i64.wrap (b : Int) = (b : Int) := IntWalk.i64_in _ ⟨by omega, by omega⟩
  have wa2 : wrap64 (a : Int) = (a : Int) := IntWalk.wrap64_in _ ⟨by omega, by omega⟩
  have wb2 : wrap64 (b : Int) = (b : Int) := IntWalk.wrap64_in _ ⟨by omega, by omega⟩
  have hx2 := wf_i64 hx
  have hy2 := wf_i64 hy
  obtain ⟨t1, t2, t3⟩ := table_at ha
  obtain ⟨s1, s2, s3⟩ := table_at hb
  have hsp := spare_of (a : Int)
  have OA := fun u (hu : Fr No w u) => el_of_any (a : Int) u (hT.fr hu)
  have OB := fun u (hu : Fr No w u) => el_of_any (b : Int) u (hT.fr hu)
  have SP := fun u (hu : Fr No w u) => el_spare_any (a : Int) u (hT.fr hu)
  have AW := Lib.hid (fun u (hu : Fr No w u) => awake_ele u (hT.fr hu))
  have hab : a = b → elGet (a : Int) = elGet (b : Int) ∧ (elFind (a : Int)).isSome = (elFind (b : Int)).isSome := fun h => by rw [h]; exact ⟨rfl, rfl⟩
  unfold FRow.fmt at OA OB
  generalize elGet (a : Int) = ra at *
  generalize elGet (b : Int) = rb at *
  generalize (elFind (a : Int)).isSome = IA at *
  generalize (elFind (b : Int)).isSome = IB at *
  obtain ⟨an, ak, ad, at_, as_⟩ := ra
  obtain ⟨bn, bk, bd, bt, bs⟩ := rb
  dsimp only at *
  obtain ⟨AI, hAI⟩ : ∃ A : Int, (a : Int) = A := ⟨_, rfl⟩
  obtain ⟨BI, hBI⟩ : ∃ B : Int, (b : Int) = B := ⟨_, rfl⟩
  have htup := sTup_in a ha
  unfold sTup at htup
  rw [hAI] at htup hsp ea wa wa2 t1 OA SP
  rw [hBI] at eb wb wb2 s1 OB
  obtain ⟨b43, h43⟩ : ∃ q, (AI == 43) = q := ⟨_, rfl⟩
  obtain ⟨b60, h60⟩ : ∃ q, decide (60 ≤ AI) = q := ⟨_, rfl⟩
  obtain ⟨b63, h63⟩ : ∃ q, decide (AI ≤ 63) = q := ⟨_, rfl⟩
  obtain ⟨b102, h102⟩ : ∃ q, (AI == 102) = q := ⟨_, rfl⟩
  obtain ⟨b103, h103⟩ : ∃ q, (AI == 103) = q := ⟨_, rfl⟩
  obtain ⟨b120, h120⟩ : ∃ q, (AI == 120) = q := ⟨_, rfl⟩
  rw [h43, h60, h63, h102, h103, h120] at htup hsp
  obtain ⟨DA, hDA⟩ : ∃ q : Int, (ad : Int) = q := ⟨_, rfl⟩
  obtain ⟨TA, hTA⟩ : ∃ q : Int, (at_ : Int) = q := ⟨_, rfl⟩
  obtain ⟨DB, hDB⟩ : ∃ q : Int, (bd : Int) = q := ⟨_, rfl⟩
  obtain ⟨TB, hTB⟩ : ∃ q : Int, (bt : Int) = q := ⟨_, rfl⟩
  rw [hDA, hTA] at OA
  rw [hDB, hTB] at OB
  have hcase : (IA = true ∧ IB = true ∧ AI = BI ∧ an = bn ∧ ak = bk ∧ DA = DB ∧ TA = TB ∧ an = AI ∧ 0 < TA ∧ 0 ≤ DA ∧ DA ≤ 4) ∨ (IA = true ∧ IB = true ∧ AI ≠ BI ∧ an = AI ∧ bn = BI ∧ 0 < TA ∧ 0 ≤ DA ∧ DA ≤ 4) ∨ (IA = true ∧ IB = false ∧ an = AI ∧ 0 < TA ∧ 0 ≤ DA ∧ DA ≤ 4) ∨ (IA = false ∧ as_ = false ∧ an = 0 ∧ ak = 0 ∧ DA = 0 ∧ TA = 0) := by
    cases IA with
    | false =>
      have h := t3 rfl
      unfold elNone at h
      injection h with q1 q2 q3 q4 q5
      exact .inr (.inr (.inr ⟨rfl, q5, q1, q2, by omega, by omega⟩))
    | true =>
      obtain ⟨u1, u2, u3⟩ := t1 rfl
      cases IB with
      | false => exact .inr (.inr (.inl ⟨rfl, rfl, u1, by omega, by omega, by omega⟩))
      | true =>
        obtain ⟨v1, v2, v3⟩ := s1 rfl
        by_cases hq : a = b
        · obtain ⟨hr, _⟩ := hab hq
          injection hr with q1 q2 q3 q4 q5
          exact .inl ⟨rfl, rfl, by omega, q1, q2, by omega, by omega, u1, by omega, by omega, by omega⟩
        · exact .inr (.inl ⟨rfl, rfl, by omega, u1, v1, by omega, by omega, by omega⟩)
  have hS : STests AI as_ := ⟨b43, b60, b63, b102, b103, b120, h43, h60, h63, h102, h103, h120, hsp, htup⟩
  have hX : Numb x AI := ⟨ea, wa, wa2, hx2.1, hx2.2⟩
  have hY : Numb y BI := ⟨eb, wb, wb2, hy2.1, hy2.2⟩
  rcases hcase with ⟨rfl, rfl, rfl, rfl, rfl, rfl, rfl, rfl, p1, p2, p3⟩ | ⟨rfl, rfl, hne, rfl, rfl, p1, p2, p3⟩ | ⟨rfl, rfl, rfl, p1, p2, p3⟩ | ⟨rfl, has, rfl, rfl, rfl, rfl⟩
  · exact tab_A w hX hY hS ⟨OA, OB, SP, AW.out⟩ p1 p2 p3
  · exact tab_B w hX hY hS ⟨OA, OB, SP, AW.out⟩ hne p1 p2 p3
  · exact tab_C w hX hY hS ⟨OA, OB, SP, AW.out⟩ p1 p2 p3
  · exact tab_D w hX hY hS ⟨OA, OB, SP, AW.out⟩ has
end Go.Proofs.YtijlekikmkeihaaDoor
