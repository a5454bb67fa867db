/- What package digits makes of texts: a number, bytes of two signs each, signs of bytes: contracts of its calls. -/
import Derived.Test.YtdfehdjpbmkaoaaDoorDig
import Derived.Test.YtdfehdjpbmkaoaaDoorBits
import Derived.Test.YtdfehdjpbmkaoaaDoorDigMath2
namespace Go.Proofs.YtdfehdjpbmkaoaaDoor
open Go.RowKit
set_option maxHeartbeats 400000
set_option linter.unusedVariables false

/-- as many bytes as there are pairs: the first k are those of the text, the others 0 -/
def pairRow (l : List UInt8) (n k : Nat) : List UInt8 := pairL (l.take (2 * k)) ++ List.replicate (n - k) 0
theorem pairRow_set (s : ByteArray) (n k : Nat) (hn : n = s.size / 2) (hk : k < n) (h1 : 2 * k < s.size) (h2 : 2 * k + 1 < s.size) :
    (u8s (pairRow s.data.toList n k)).set k (.int .u8 ((pr s[2 * k] s[2 * k + 1]).toNat : Int)) = u8s (pairRow s.data.toList n (k + 1)) := by
  have hp : (pairL (s.data.toList.take (2 * k))).length = k := by rw [pairL_length]; simp; omega
  unfold pairRow
  rw [pairL_snoc k s.data.toList s[2 * k] s[2 * k + 1] (List.getElem?_eq_getElem (by simpa using h1)) (List.getElem?_eq_getElem (by simpa using h2))]
  obtain ⟨m, hm⟩ : ∃ m, n - k = m + 1 := ⟨n - k - 1, by omega⟩
  rw [hm, show n - (k + 1) = m from by omega, List.replicate_succ]
  simp only [u8s, List.map_append, List.map_cons, List.map_nil, List.append_assoc]
  rw [List.set_append_right _ _ (by simp [hp])]
  simp [hp]

theorem pairL_even : ∀ l m : List UInt8, m.length ≤ 1 → l.length % 2 = 0 → pairL (l ++ m) = pairL l
  | [], [], _, _ => rfl
  | [], [x], _, _ => rfl
  | [], _ :: _ :: _, h, _ => by simp at h
  | [x], _, _, h => by simp at h
  | x :: y :: r, m, h, h2 => by
    simp only [List.cons_append, pairL, pairL_even r m h (by simp at h2; omega)]
theorem pairL_all (s : ByteArray) (n : Nat) (hn : n = s.size / 2) : pairL (s.data.toList.take (2 * n)) = pairL s.data.toList := by
  have h := pairL_even (s.data.toList.take (2 * n)) (s.data.toList.drop (2 * n)) (by simp; omega) (by simp; omega)
  rw [List.take_append_drop] at h
  exact h.symm
theorem pairRow_length (s : ByteArray) (n k : Nat) (hn : n = s.size / 2) (hk : k ≤ n) : (pairRow s.data.toList n k).length = n := by
  unfold pairRow
  rw [List.length_append, pairL_length]
  simp
  omega

theorem nought_data (s : ByteArray) : (({ data := #[48] } : ByteArray) ++ s).data.toList = 48 :: s.data.toList := by simp
theorem nought_size (s : ByteArray) : (({ data := #[48] } : ByteArray) ++ s).size = s.size + 1 := by
  rw [ByteArray.size_append]
  exact Nat.add_comm _ _

/-- what Bcd answers -/
def bcdR (l : List UInt8) : List UInt8 := if rightB l 0 100 then pairL (evenL l) else []
def bcdE (l : List UInt8) : Int := if rightB l 0 100 then 0 else 5

/-- what UnHex answers -/
def unhexB (l : List UInt8) : Bool := decide (l.length % 2 = 0) && l.all isH
def unhexR (l : List UInt8) : List UInt8 := if unhexB l then pairL l else []
def unhexE (l : List UInt8) : Int := if unhexB l then 0 else 5

end Go.Proofs.YtdfehdjpbmkaoaaDoor
