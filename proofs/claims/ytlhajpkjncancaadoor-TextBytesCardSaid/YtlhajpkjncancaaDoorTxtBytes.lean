/- TextBytes: of each byte alone which of the kinds it is: the walk, for every byte. -/
import Derived.Test.YtlhajpkjncancaaDoorTxtBytesA
import Derived.Test.YtlhajpkjncancaaDoorTxtBytesB
import Derived.Test.YtlhajpkjncancaaDoorTxtBytesC
import Derived.Test.YtlhajpkjncancaaDoorTxtBytesD
import Derived.Test.YtlhajpkjncancaaDoorTxtBytesE
import Derived.Test.YtlhajpkjncancaaDoorTxtBytesF
import Derived.Test.YtlhajpkjncancaaDoorTxtBytesG
import Derived.Test.YtlhajpkjncancaaDoorTxtBytesH
import Derived.Test.YtlhajpkjncancaaDoorTxtBytesI
namespace Go.Proofs.YtlhajpkjncancaaDoor
open Go.RowKit
set_option linter.unusedVariables false

theorem bytes_walk {c : UInt8} (w : World) (hT : Tabs w) :
    Calls Tryd.prog 7 #[.int .u8 (c.toNat : Int)] w fun e w' => e = .returned (.bool true) ∧ Fr No w w' := by
  have h := c.toNat_lt
  rcases Nat.lt_or_ge 9 c.toNat with h0 | h0
  rotate_left
  · exact bytes_walkA w hT (by omega)
  rcases Nat.lt_or_ge 12 c.toNat with h1 | h1
  rotate_left
  · exact bytes_walkB w hT (by omega)
  rcases Nat.lt_or_ge 31 c.toNat with h2 | h2
  rotate_left
  · exact bytes_walkC w hT (by omega)
  rcases Nat.lt_or_ge 47 c.toNat with h3 | h3
  rotate_left
  · exact bytes_walkD w hT (by omega)
  rcases Nat.lt_or_ge 64 c.toNat with h4 | h4
  rotate_left
  · exact bytes_walkE w hT (by omega)
  rcases Nat.lt_or_ge 96 c.toNat with h5 | h5
  rotate_left
  · exact bytes_walkF w hT (by omega)
  rcases Nat.lt_or_ge 126 c.toNat with h6 | h6
  rotate_left
  · exact bytes_walkG w hT (by omega)
  rcases Nat.lt_or_ge 127 c.toNat with h7 | h7
  rotate_left
  · exact bytes_walkH w hT (by omega)
  exact bytes_walkI w hT (by omega)
end Go.Proofs.YtlhajpkjncancaaDoor
