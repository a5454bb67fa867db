/- A strings.Builder of one's own. -/
import Derived.Test.YtlnjpocidfgloaaDoorBuild
namespace Go.Proofs.YtlnjpocidfgloaaDoor
open Go.RowKit
set_option maxHeartbeats 400000
set_option linter.unusedVariables false

/-! ### a builder of one's own -/
def Bd (w : World) (B b : Nat) (l : List UInt8) : Prop := Lib.IsBuilderF 41 5 B b (Lib.byteCells l) w
theorem Bd.no {a c : World} {B b : Nat} {l : List UInt8} (h : Bd a B b l) (hf : Fr No a c) : Bd c B b l := by
  have key : ∀ p, Lib.BuilderAtF 41 5 B b p (Lib.byteCells l) a → Lib.BuilderAtF 41 5 B b p (Lib.byteCells l) c := by
    rintro p ⟨h1, v, h2, h3, h4⟩
    exact ⟨h1, v, hf.heap h2 (fun x => x), h3.kept hf.grownNone (by by_cases e : v.ownBlock = none; exact .inl e; exact .inr e), h4⟩
  rcases h with h | h
  · exact .inl (key _ h)
  · exact .inr (key _ h)
theorem Bd.dr {a c : World} {B b : Nat} {l : List UInt8} (h : Bd a B b l) (hf : Dr a c) : Bd c B b l := h.no hf.fr
theorem Bd.new (w : World) : Bd (w.alloc (.cells #[.pointer none, .slice none 0 0] 41)) w.heap.size w.heap.size [] := Lib.IsBuilderF.of (Lib.fresh_isBuilder _ _ _)
theorem k_write (B b : Nat) (l : List UInt8) (s : ByteArray) (w : World) (h : Bd w B b l) (hl : l.length ≤ 1000000) (hs : s.size ≤ 1000000) (hB : B ≤ w.heap.size) :
    Calls Tryd.prog 38 #[.pointer (some ⟨b, 0, none⟩), .string s] w fun e w' => e = .returned (.tuple #[.int .i64 s.size, .nilIface]) ∧ Bd w' B b (l ++ s.data.toList) ∧ Below B w w' := by
  refine (sb_write B b _ s w h (by rw [Lib.byteCells_length]; omega) hB).mono ?_
  rintro e w' ⟨rfl, h1, h2, _⟩
  refine ⟨rfl, .inr ?_, h2⟩
  have e1 : Lib.byteCells l ++ Lib.strCells s = Lib.byteCells (l ++ s.data.toList) := by unfold Lib.byteCells Lib.strCells; rw [List.map_append]
  rw [← e1]
  exact h1
theorem k_string (B b : Nat) (l : List UInt8) (w : World) (h : Bd w B b l) (hB : B ≤ w.heap.size) :
    Calls Tryd.prog 14 #[.pointer (some ⟨b, 0, none⟩)] w fun e w' => e = .returned (.string (bstr l)) ∧ Below B w w' := by
  refine (Tryd.Builder_String_any_k B b l w h hB).mono ?_
  rintro e w' ⟨rfl, h1⟩
  exact ⟨rfl, h1.2.1⟩

end Go.Proofs.YtlnjpocidfgloaaDoor
