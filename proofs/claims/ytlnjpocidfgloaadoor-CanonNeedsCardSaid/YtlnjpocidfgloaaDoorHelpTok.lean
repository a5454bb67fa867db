/- The statements' own helpers: rows of attributes and of tokens that are alike, held against each other. -/
import Derived.Test.YtlnjpocidfgloaaDoorTokItems
import Derived.Test.YtlnjpocidfgloaaDoorDig0
import Derived.Lib.QuietBelow
namespace Go.Proofs.YtlnjpocidfgloaaDoor
open Go.RowKit
set_option maxHeartbeats 1000000
set_option linter.unusedVariables false

theorem add_next (ad : Addr) (i j : Nat) : ad.add (i + (j + 1)) = ⟨(ad.add i).block, (ad.add i).off + (j + 1), none⟩ := by
  unfold Addr.add
  by_cases h : i = 0
  · subst h
    simp
  · simp [h]
    omega
end Go.Proofs.YtlnjpocidfgloaaDoor
