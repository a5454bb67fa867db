/- The statements' own digits of a number: as the library has them. -/
import Derived.Test.YtdfehdjpbmkaoaaDoorDigMath
import Derived.Test.YtdfehdjpbmkaoaaDoorHelp0
import Derived.Lib.ItoaNum
import Derived.Deep.RegionWith
namespace Go.Proofs.YtdfehdjpbmkaoaaDoor
open Go.RowKit
set_option maxHeartbeats 400000
set_option linter.unusedVariables false

theorem new_cell (w : World) (u : Value) (t : TypeId) : ((w.alloc (.cells #[u] t)).drew).cell? ⟨w.heap.size, 0, none⟩ = some u :=
  ((Bk.new w t #[u]).no ((Dr.refl _).drew.fr)).cell 0
theorem bstr_append (l m : List UInt8) : bstr (l ++ m) = bstr l ++ bstr m := by
  apply ByteArray.ext
  rw [ByteArray.data_append]
  simp [bstr]
theorem decDigits_len (u : Nat) (h : u < 18446744073709551616) : (Lib.decDigits u).length ≤ 20 := by
  rw [Lib.decDigits_length]
  by_cases h1 : 1 ≤ u
  · have := Lib.numDigits_eq u h1 h
    split at this <;> omega
  · rw [Lib.nDigits_small (by omega)]
    omega
/-- string of one byte, just laid, or anywhere -/
theorem one_string (w : World) {i : Int} {b : UInt8} (hi : i = (b.toNat : Int)) : (convert 44 9 (.slice (some ⟨w.heap.size, 0, none⟩) 1 1)).run Tryd.prog (w.alloc (.cells #[.int .u8 i] 5)) = .ok (.string (bstr [b])) (w.alloc (.cells #[.int .u8 i] 5)) :=
  run_string (P := Tryd.prog) (Rd.one hi 5) 44 5 Tryd.underlying44 Tryd.underlying5 9 Tryd.underlying9
theorem cell_string (w : World) (g : Nat) {b : UInt8} (h : w.cell? ⟨g, 0, none⟩ = some (.int .u8 (b.toNat : Int))) : (convert 44 9 (.slice (some ⟨g, 0, none⟩) 1 1)).run Tryd.prog w = .ok (.string (bstr [b])) w := by
  refine run_string (P := Tryd.prog) (A := some ⟨g, 0, none⟩) (n := 1) (c := 1) (l := [b]) ⟨rfl, Nat.le_refl _, by simp [maxLen], (fun e => nomatch e), ?_⟩ 44 5 Tryd.underlying44 Tryd.underlying5 9 Tryd.underlying9
  intro ad e j u hu
  injection e with e
  subst e
  cases j with
  | zero =>
    simp only [u8s, List.map_cons, List.map_nil, List.getElem?_cons_zero, Option.some.injEq] at hu
    subst hu
    exact h
  | succ j => simp [u8s] at hu

end Go.Proofs.YtdfehdjpbmkaoaaDoor
