/- The texts Dig0, Bits, Tests, Tabs, joined. -/
import Derived.Test.YthkjmbkfcnehoaaGreatDoorBase
import Derived.Laws.BitsLemmas
import Derived.IntWalk
import Derived.Test.YthkjmbkfcnehoaaGreatDoorHelp0
import Derived.Shelf.Unicode.DecodeSlow
/- Small words on what a call hands back: no program. -/
namespace Go.Proofs.YthkjmbkfcnehoaaGreatDoor
theorem ret_bool {a b : Bool} (h : a = b) : Ending.returned (.bool a) = .returned (.bool b) := by rw [h]
theorem ret_u8 {a : Int} {b : UInt8} (h : a = (b.toNat : Int)) : Ending.returned (.int .u8 a) = .returned (.int .u8 (b.toNat : Int)) := by rw [h]
/-- a row of one's own, said of an elder world -/
theorem own_low {w : World} {base base' : Nat} {e : TypeId} {size : Nat} {v : Value} {n : Nat} {xs : List Value} (h : w.ownsRow base e size v n xs) (hb : base' ≤ base) : w.ownsRow base' e size v n xs := by
  refine ⟨h.1, ?_⟩
  rcases h.2 with h2 | ⟨g, cap, cur, e1, hg, r⟩
  · exact .inl h2
  · exact .inr ⟨g, cap, cur, e1, Nat.le_trans hb hg, r⟩
end Go.Proofs.YthkjmbkfcnehoaaGreatDoor
/- Shifts and masks of bytes, as the walk spells them and as Lean has them: no program. -/
namespace Go.Proofs.YthkjmbkfcnehoaaGreatDoor
set_option linter.unusedVariables false

theorem u8_wrap (n : Int) (h0 : 0 ≤ n) (h1 : n < 2 ^ 8) : IntKind.u8.wrap n = n := IntWalk.u8_in _ ⟨h0, by omega⟩
theorem or_u8 (x y : UInt8) : bits .or .u8 (x.toNat : Int) (y.toNat : Int) = ((x ||| y).toNat : Int) := by
  rw [(bits_nat .u8 8 (by decide) u8_wrap _ _ x.toNat_lt y.toNat_lt).2, UInt8.toNat_or]
theorem and_u8 (x y : UInt8) : bits .and .u8 (x.toNat : Int) (y.toNat : Int) = ((x &&& y).toNat : Int) := by
  rw [(bits_nat .u8 8 (by decide) u8_wrap _ _ x.toNat_lt y.toNat_lt).1, UInt8.toNat_and]
theorem wrap_u8 (n : Int) : IntKind.u8.wrap n = n % 256 := by
  simp [IntKind.wrap, IntKind.bits, IntKind.signed]
theorem shl4_u8 (x : UInt8) : IntKind.u8.wrap ((x.toNat : Int) * 16) = ((x <<< 4).toNat : Int) := by
  rw [wrap_u8, UInt8.toNat_shiftLeft]
  have h : x.toNat <<< ((4 : UInt8).toNat % 8) = x.toNat * 16 := by rw [Nat.shiftLeft_eq]; rfl
  rw [h]
  omega
theorem shr4_u8 (x : UInt8) : (x.toNat : Int) / 16 = ((x >>> 4).toNat : Int) := by
  rw [UInt8.toNat_shiftRight, Nat.shiftRight_eq_div_pow]
  have h : 2 ^ ((4 : UInt8).toNat % 8) = 16 := rfl
  rw [h]
  omega
/-- what 'int(uint(p) % b)' makes -/
theorem rem_nat (p b : Int) (hb : 0 < b) : ∃ m : Nat, (IntKind.u64.wrap p).tmod b = (m : Int) ∧ (m : Int) < b := by
  have hw : 0 ≤ IntKind.u64.wrap p := by rw [IntKind.wrap_u64]; omega
  rw [Int.tmod_eq_emod_of_nonneg hw]
  have h0 : 0 ≤ IntKind.u64.wrap p % b := Int.emod_nonneg _ (by omega)
  have h1 : IntKind.u64.wrap p % b < b := Int.emod_lt_of_pos _ hb
  obtain ⟨m, hm⟩ := Int.eq_ofNat_of_zero_le h0
  exact ⟨m, hm, by omega⟩

end Go.Proofs.YthkjmbkfcnehoaaGreatDoor
/- Tests of bytes that are handed in as functions: no package's own. -/
namespace Go.Proofs.YthkjmbkfcnehoaaGreatDoor
open Go.RowKit
set_option linter.unusedVariables false

theorem at_data (s : ByteArray) (k : Nat) (h : k < s.size) : s[k] = s.data.toList[k]'(by simpa using h) := rfl
theorem take_snoc (s : ByteArray) (k : Nat) (h : k < s.size) : s.data.toList.take (k + 1) = s.data.toList.take k ++ [s[k]] := by
  rw [List.take_succ_eq_append_getElem (by simpa using h)]; rfl

/-- each stands the test -/
def allB (l : List UInt8) (t : UInt8 → Bool) : Bool := l.all t
/-- what a test of signs answers -/
structure Tests (f : FuncId) (t : UInt8 → Bool) : Prop where
  enters : ∀ args w, (callFunc f args).run Tryz.prog w = .ok (.enter f args) w
  tells : ∀ (c : UInt8) (w : World), Calls Tryz.prog f #[.int .u8 (c.toNat : Int)] w fun e w' => e = .returned (.bool (t c)) ∧ w = w'
end Go.Proofs.YthkjmbkfcnehoaaGreatDoor
/- The tables of the library that the program reads (package unicode/utf8's, strconv's powers of ten): what is asked of the world, and that a call which turns no block keeps it. -/
namespace Go.Proofs.YthkjmbkfcnehoaaGreatDoor
open Go.RowKit
set_option linter.unusedVariables false

structure Tabs (w : World) : Prop where
  u8 : Lib.Utf8Tabs 0 1 w
  es : ∃ ev, w.cell? ⟨3, 0, none⟩ = some ev ∧ (ev = .nilIface ∨ ∃ te pe, ev = .iface te pe)
theorem Tabs.below {a b : World} (h : Tabs a) (k : Below a.heap.size a b) : Tabs b where
  u8 := Utf8Tabs_below h.u8 k
  es := by
    obtain ⟨ev, hc, he⟩ := h.es
    exact ⟨ev, (k.cell (show (⟨3, 0, none⟩ : Addr).block < a.heap.size from World.block_lt_of_cell? _ _ hc)).trans hc, he⟩
theorem Tabs.fr {a b : World} (h : Tabs a) (k : Fr No a b) : Tabs b := h.below k.toBelow
theorem Tabs.frNew {S : Nat → Prop} {a b : World} (h : Tabs a) (k : Fr S a b) (hS : ∀ i, S i → a.heap.size ≤ i) : Tabs b := h.below (k.toBelow' hS)
theorem Tabs.drew {a : World} (h : Tabs a) : Tabs a.drew := h.fr (Fr.refl No a).drew
theorem Tabs.drewN {a : World} {n : Nat} (h : Tabs a) : Tabs (a.drewN n) := h.fr ((Fr.refl No a).drewN n)
theorem Tabs.alloc {a : World} {o : Obj} (h : Tabs a) : Tabs (a.alloc o) := h.fr ((Fr.refl No a).alloc o)
theorem Tabs.dr {a b : World} (h : Tabs a) (k : Dr a b) : Tabs b := h.fr ((Fr.refl No a).dr k)
end Go.Proofs.YthkjmbkfcnehoaaGreatDoor
