/- Headers of bytes that are cut. No program. -/
import Derived.Test.YtijlekikmkeihaaDoorBase
namespace Go.Proofs.YtijlekikmkeihaaDoor
open Go.RowKit
set_option linter.unusedVariables false

/-- the header of the rest behind so many elements -/
def cutA (A : Option Addr) (c k : Nat) : Option Addr := if c = k then A else A.map (·.add k)
theorem cutA_block {A : Option Addr} {c k : Nat} {ad : Addr} (h : cutA A c k = some ad) : ∃ ad', A = some ad' ∧ ad.block = ad'.block := by
  unfold cutA at h
  split at h
  · exact ⟨ad, h, rfl⟩
  · obtain ⟨ad', rfl, rfl⟩ := Option.map_eq_some_iff.1 h
    exact ⟨ad', rfl, blk_add _ _⟩
theorem rd_rest {w : World} {A : Option Addr} {n c k : Nat} {b : List UInt8} (h : Rd w A n c (u8s b)) (hk : k ≤ n) : Rd w (cutA A c k) (n - k) (c - k) (u8s (b.drop k)) := by
  have := h.cut (k := k) (m := n) hk (Nat.le_refl _)
  have hl : b.length = n := by simpa using h.len
  have e := u8s_cut b k (n - k)
  rw [show k + (n - k) = n by omega, List.take_of_length_le (l := List.drop k b) (by rw [List.length_drop]; omega)] at e
  rw [e] at this
  exact this
theorem rd_head {w : World} {A : Option Addr} {n c k : Nat} {b : List UInt8} (h : Rd w A n c (u8s b)) (hk : k ≤ n) : Rd w A k c (u8s (b.take k)) := by
  have h1 := h.len
  have h2 := h.cap
  refine ⟨by rw [u8s_length] at h1 ⊢; rw [List.length_take]; omega, by omega, h.max, h.nil, fun ad e j u hu => ?_⟩
  refine h.cells ad e j u ?_
  have e : u8s (b.take k) = (u8s b).take k := by simp [u8s, List.map_take]
  rw [e, List.getElem?_take] at hu
  split at hu
  · exact hu
  · cases hu
theorem rd_part {w : World} {A : Option Addr} {n c k m : Nat} {b : List UInt8} (h : Rd w A n c (u8s b)) (hk : k + m ≤ n) : Rd w (cutA A c k) m (c - k) (u8s ((b.drop k).take m)) :=
  rd_head (rd_rest h (by omega)) (by omega)
end Go.Proofs.YtijlekikmkeihaaDoor
