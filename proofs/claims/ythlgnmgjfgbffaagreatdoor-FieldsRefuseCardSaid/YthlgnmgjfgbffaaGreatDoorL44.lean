/- The texts Dig3, joined. -/
import Derived.Test.YthlgnmgjfgbffaaGreatDoorL11
import Derived.Deep.RegionLaw
/- What package digits tells of bytes: two signs each, and so many digits: contracts of its calls. -/
namespace Go.Proofs.YthlgnmgjfgbffaaGreatDoor
open Go.RowKit
set_option maxHeartbeats 400000
set_option linter.unusedVariables false
set_option maxRecDepth 20000

abbrev signs16 : ByteArray := { data := #[48, 49, 50, 51, 52, 53, 54, 55, 56, 57, 65, 66, 67, 68, 69, 70] }
theorem sign_nat (i : Nat) (h : i < signs16.size) : signs16[i] = sg (UInt8.ofNat i) := by
  have h16 : i < 16 := h
  obtain rfl | rfl | rfl | rfl | rfl | rfl | rfl | rfl | rfl | rfl | rfl | rfl | rfl | rfl | rfl | rfl : i = 0 ∨ i = 1 ∨ i = 2 ∨ i = 3 ∨ i = 4 ∨ i = 5 ∨ i = 6 ∨ i = 7 ∨ i = 8 ∨ i = 9 ∨ i = 10 ∨ i = 11 ∨ i = 12 ∨ i = 13 ∨ i = 14 ∨ i = 15 := by omega
  all_goals rfl
theorem sign_at {i : Int} {x : UInt8} (hx : i = (x.toNat : Int)) (h : i.toNat < signs16.size) : signs16[i.toNat] = sg x := by
  subst hx
  rw [sign_nat]
  simp
theorem Rd.two {w : World} {i j x y : UInt8} (hi : i = x) (hj : j = y) (t : TypeId) : Rd ((w.alloc (.cells #[.int .u8 (i.toNat : Int), .int .u8 (j.toNat : Int)] t)).drew) (some ⟨w.heap.size, 0, none⟩) 2 2 (u8s [x, y]) := by
  subst hi hj
  exact (Rd.lit w (u8s [i, j]) t 2 rfl (by simp [maxLen])).dr (Dr.refl _).drew
theorem hi_lt (x : UInt8) : (x >>> 4).toNat < 16 := by
  have := byte_all (fun x => decide ((x >>> 4).toNat < 16)) (by decide +kernel) x
  simpa using this
theorem lo_lt (x : UInt8) : (x &&& 15).toNat < 16 := by
  have := byte_all (fun x => decide ((x &&& 15).toNat < 16)) (by decide +kernel) x
  simpa using this

theorem hexL_snoc (l : List UInt8) (k : Nat) (h : k < l.length) : hexL (l.take (k + 1)) = hexL (l.take k) ++ [sg (l[k] >>> 4), sg (l[k] &&& 15)] := by
  rw [List.take_succ_eq_append_getElem h, hexL_append]
  rfl

/-- what UnBcd answers -/
def unbcdE (b : List UInt8) (n : Int) : Int :=
  if n < 0 ∨ (n ≠ 2 * (b.length : Int) ∧ n ≠ 2 * (b.length : Int) - 1) then 1
  else if allB (hexL b) isD = false ∨ (n < 2 * (b.length : Int) ∧ (hexL b)[0]? ≠ some 48) then 5 else 0
def unbcdR (b : List UInt8) (n : Int) : List UInt8 := if unbcdE b n = 0 then (hexL b).drop (2 * (b.length : Int) - n).toNat else []
theorem bstr_data (l : List UInt8) : (bstr l).data.toList = l := by simp [bstr]
theorem bstr_of (s : ByteArray) : bstr s.data.toList = s := by
  cases s
  rfl
theorem bstr_cut (s : ByteArray) (k : Nat) : s.extract k s.size = bstr (s.data.toList.drop k) := by
  apply ByteArray.ext
  rw [ByteArray.data_extract]
  show s.data.extract k s.data.size = (s.data.toList.drop k).toArray
  apply Array.ext'
  simp
  rw [List.take_of_length_le (by simp)]
theorem head_bytes (s : ByteArray) (h : 0 < s.size) : s.data.toList[0]? = some s[0] := List.getElem?_eq_getElem (by simpa using h)

end Go.Proofs.YthlgnmgjfgbffaaGreatDoor
