/- The table of elements: what it is of each number below 130. -/
import Derived.Test.YtijlekikmkeihaaDoorEleFill
import Derived.Test.YtijlekikmkeihaaDoorQuietBelow
import Derived.Laws.StructEq
namespace Go.Proofs.YtijlekikmkeihaaDoor
open Go.RowKit
set_option maxHeartbeats 4000000
set_option linter.unusedVariables false

/-- what the table is, of each number below 130 -/
theorem table_one : (List.range 130).all (fun a => decide (((elFind (a : Int)).isSome = true → (elGet (a : Int)).no = (a : Int) ∧ 0 < (elGet (a : Int)).top ∧ (elGet (a : Int)).dig ≤ 4) ∧ ((elGet (a : Int)).spare = true → (elFind (a : Int)).isSome = true) ∧ ((elFind (a : Int)).isSome = false → elGet (a : Int) = elNone))) = true := by decide +kernel
theorem table_at {a : Nat} (h : a < 130) : ((elFind (a : Int)).isSome = true → (elGet (a : Int)).no = (a : Int) ∧ 0 < (elGet (a : Int)).top ∧ (elGet (a : Int)).dig ≤ 4) ∧ ((elGet (a : Int)).spare = true → (elFind (a : Int)).isSome = true) ∧ ((elFind (a : Int)).isSome = false → elGet (a : Int) = elNone) :=
  of_decide_eq_true (List.all_eq_true.1 table_one a (List.mem_range.2 h))
def sTup (a : Nat) : List Bool := [(a : Int) == 43, decide (60 ≤ (a : Int)), decide ((a : Int) ≤ 63), (a : Int) == 102, (a : Int) == 103, (a : Int) == 120]
def sAll : List (List Bool) := [[true, false, true, false, false, false], [false, true, true, false, false, false], [false, true, false, true, false, false], [false, true, false, false, true, false], [false, true, false, false, false, true], [false, false, true, false, false, false], [false, true, false, false, false, false]]
theorem sTup_in (a : Nat) (h : a < 130) : sTup a ∈ sAll := by
  have h1 : (List.range 130).all (fun a => decide (sTup a ∈ sAll)) = true := by decide +kernel
  exact of_decide_eq_true (List.all_eq_true.1 h1 a (List.mem_range.2 h))
theorem fmt_rows {w : World} {g : Nat} {t : TypeId} {a b c d : Value} (h : Bk w g t [a, b, c, d]) : w.cell? ⟨g, 0, none⟩ = some a ∧ w.cell? ⟨g, 1, none⟩ = some b ∧ w.cell? ⟨g, 2, none⟩ = some c ∧ w.cell? ⟨g, 3, none⟩ = some d := ⟨h.cell 0, h.cell 1, h.cell 2, h.cell 3⟩
theorem beq_comm_no {a b : Int} {k : Bool} (h : (a == b) = k) : (b == a) = k := by rw [← h, Bool.eq_iff_iff, beq_iff_eq, beq_iff_eq]; exact eq_comm
/-- what is asked of the calls, all of one kind -/
structure TabAsk (w : World) (AI BI : Int) (ra rb : Value × Bool) (S : Bool) : Prop where
  oa : ∀ u, Fr No w u → Calls Tryd.prog 10 #[.int .i64 AI] u fun e w' => e = .returned (.tuple #[ra.1, .bool ra.2]) ∧ Fr No u w'
  ob : ∀ u, Fr No w u → Calls Tryd.prog 10 #[.int .i64 BI] u fun e w' => e = .returned (.tuple #[rb.1, .bool rb.2]) ∧ Fr No u w'
  sp : ∀ u, Fr No w u → Calls Tryd.prog 16 #[.int .i64 AI] u fun e w' => e = .returned (.bool S) ∧ Fr No u w'
  aw : ∀ u, Fr No w u → Calls Tryd.prog 9 #[] u fun e w' => e = .returned (.bool true) ∧ Fr No u w'
/-- the number's tests, and whether it is a spare one -/
def STests (AI : Int) (S : Bool) : Prop := ∃ b43 b60 b63 b102 b103 b120 : Bool, (AI == 43) = b43 ∧ decide (60 ≤ AI) = b60 ∧ decide (AI ≤ 63) = b63 ∧ (AI == 102) = b102 ∧ (AI == 103) = b103 ∧ (AI == 120) = b120 ∧
  S = (b43 || ((b60 && b63) || (b102 || (b103 || b120)))) ∧ [b43, b60, b63, b102, b103, b120] ∈ sAll
/-- a number below 130, out of any number -/
structure Numb (x AI : Int) : Prop where
  e : (IntKind.u64.wrap x).tmod 130 = AI
  w1 : IntKind.i64.wrap AI = AI
  w2 : wrap64 AI = AI
  lo : -9223372036854775808 ≤ x
  hi : x ≤ 9223372036854775807
end Go.Proofs.YtijlekikmkeihaaDoor
