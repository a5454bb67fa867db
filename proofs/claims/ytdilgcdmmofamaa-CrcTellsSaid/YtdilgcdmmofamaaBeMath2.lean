/- A number's lowest bytes, read as a number: plain functions, no program. -/
import Derived.Test.YtdilgcdmmofamaaRefSeal
namespace Go.Proofs.Ytdilgcdmmofamaa
set_option linter.unusedVariables false

/-- sealed bytes are opened as they were -/
theorem open_seal (l : List UInt8) : openE (sealL l) = 0 ∧ openR (sealL l) = l := by
  have hlen : (sealL l).length = l.length + 4 := by unfold sealL; rw [List.length_append, low_length]
  have hd : (sealL l).drop ((sealL l).length - 4) = low (crcL l) 4 := by
    rw [hlen, Nat.add_sub_cancel]
    unfold sealL
    rw [List.drop_left' rfl]
  have ht : (sealL l).take ((sealL l).length - 4) = l := by
    rw [hlen, Nat.add_sub_cancel]
    unfold sealL
    rw [List.take_left' rfl]
  have hb : beN (low (crcL l) 4) = crcL l := by
    rw [beN_low']
    have e : (256 : Nat) ^ 4 = 4294967296 := by decide
    rw [e]
    exact Nat.mod_eq_of_lt (crcL_lt l)
  have hE : openE (sealL l) = 0 := by
    unfold openE
    rw [if_neg (by omega), hd, ht, hb, if_pos rfl]
  refine ⟨hE, ?_⟩
  unfold openR
  rw [if_pos hE, ht]
end Go.Proofs.Ytdilgcdmmofamaa
