/- The texts Fmt, joined. -/
import Derived.Test.YthlgnmgjfgbffaaGreatDoorL01
import Derived.Test.YthlgnmgjfgbffaaGreatDoorShelf
import Derived.Lib.ItoaMem
import Derived.Lib.AppendIntMem
import Derived.Lib.ItoaWalk
import Derived.BigCall
import Derived.BigGuard
import Derived.Lib.SmallJoins
/- A number in tens: what strconv.FormatUint at ten tells of every number of 64 bits; the library's table of powers of ten stays as it lies. -/
namespace Go.Proofs.YthlgnmgjfgbffaaGreatDoor
open Go.RowKit Go.Lib
set_option linter.unusedVariables false
set_option maxRecDepth 20000

/-- the table of powers of ten, as it is laid -/
abbrev Tab (w : World) : Prop := TabIs Tryz.prog w "internal/strconv.uint64pow10" .u64 pow10Tab
theorem tab_global : Tryz.prog.globalNamed "internal/strconv.uint64pow10" = some 5 := by kernel_rfl
theorem tab_no {w w' : World} (h : Tab w) (hf : Fr No w w') : Tab w' := Joins.tab_stays tab_global h hf.toBelow (Nat.le_refl _)

set_option maxHeartbeats 3200000 in
set_option maxRecDepth 100000 in
theorem format_ten (u : Nat) (hu64 : u < 18446744073709551616) (w : World) (htab : Tab w) :
    Calls Tryz.prog 196 #[.int .u64 (u : Int), .int .i64 10] w fun e w' => e = .returned (.string (bstr (decDigits u))) ∧ Fr No w w' := by
  by_cases hs : u < 100
  · have is : (u : Int) < 100 := by omega
    go_enter Tryz.func196, Tryz.ntmps196
    go_wp2_with (go_at_call 226; refine (Tryz.internal_strconv_small u hs _).mono ?_; rintro e w' ⟨rfl, rfl⟩)
    go_ret
    exact ⟨rfl, Fr.refl _ _⟩
  · have hu1 : 1 ≤ u := by omega
    have hnd20 : nDigits u ≤ 20 := by have := numDigits_eq u hu1 hu64; split at this <;> omega
    have hal : Tryz.prog.arrayLen 270 = 24 := by kernel_rfl
    have hel : Tryz.prog.underlying 270 = some (.array 24 5) := Tryz.underlying270
    have hsl : ∀ W, (Instr.sliceAt 270 (.pointer (some ⟨w.heap.size, 0, none⟩)) none (some (.int .i64 (nDigits u : Int))) none).run Tryz.prog W = .ok (.slice (some ⟨w.heap.size, 0, none⟩) (nDigits u) 24) W := fun W => by
      rw [run_sliceAt_array_h W 270 ⟨w.heap.size, 0, none⟩ (by kernel_rfl) .i64 (nDigits u : Int) (by omega) (by rw [hal]; omega)]
      go_simp
    have hH0 := holds_zero0 w 270 (nDigits u) (by omega)
    have hfmt := Tryz.internal_strconv_formatBase10 w.heap.size 0 24 u (Array.replicate (nDigits u) 0) (w.alloc (.cells zeros24 270)) hH0 (by rw [Array.size_replicate]; exact lt_pow_nDigits u) hu64 (by rw [Array.size_replicate]; omega)
    rw [Array.size_replicate] at hfmt
    have HH0 := Lib.hid hH0
    have HF := Lib.hid hfmt
    have iu : (100 : Int) ≤ (u : Int) := by omega
    clear hH0 hal hel hfmt
    go_enter Tryz.func196, Tryz.ntmps196
    go_wp2_with (first
      | (go_at_call 227; refine (Tryz.internal_strconv_numDigits u hu1 hu64 _ (tabIs_alloc htab _)).mono ?_; rintro e w' ⟨rfl, rfl⟩))
    refine HF.out.mono ?_
    rintro e w' ⟨rfl, k, v', dk, rfl, hF⟩
    have hrd : Rd ((Sort.putRow (fun (b : UInt8) => Value.int .u8 (b.toNat : Int)) (w.alloc (.cells zeros24 270)) w.heap.size 0 dk).drewN k) (some ⟨w.heap.size, 0, none⟩) (nDigits u) 24 (u8s (decDigits u)) := by
      refine ⟨by rw [u8s_length, decDigits_length], by omega, by simp [maxLen], (fun e => nomatch e), ?_⟩
      intro ad e j u' hj
      injection e with e
      subst e
      have hjl : j < (decDigits u).length := by
        have h5 := (List.getElem?_eq_some_iff.1 hj).1
        rwa [u8s_length] at h5
      rw [u8s_get _ _ hjl] at hj
      cases hj
      rw [row_is_numeral hF j hjl, add_plain, World.cell?_drewN]
      exact Sort.cell?_putRow (fun (b : UInt8) => Value.int .u8 (b.toNat : Int)) _ w.heap.size 0 _ dk HH0.out (by rw [hF.size, Array.size_replicate]) j (by rw [hF.size]; rw [decDigits_length] at hjl; exact hjl)
    obtain ⟨os, eo⟩ := fin_at w (.cells zeros24 270) dk k 0
    have hnx : Fr No w ((Sort.putRow (fun (b : UInt8) => Value.int .u8 (b.toNat : Int)) (w.alloc (.cells zeros24 270)) w.heap.size 0 dk).drewN k) := by rw [eo]; exact Fr.of_below (below_grow w.heap.size w (Nat.le_refl _) k os)
    generalize (Sort.putRow (fun (b : UInt8) => Value.int .u8 (b.toNat : Int)) (w.alloc (.cells zeros24 270)) w.heap.size 0 dk).drewN k = W2 at hrd hnx ⊢
    clear eo HH0 HF hF
    have hst := run_string (P := Tryz.prog) hrd 22 5 Tryz.underlying22 Tryz.underlying5 9 Tryz.underlying9
    go_wp2
    go_ret
    exact ⟨rfl, hnx⟩

set_option maxHeartbeats 400000 in
theorem format_any (u : Nat) (hu64 : u < 18446744073709551616) (w : World) (htab : Tab w) :
    Calls Tryz.prog 154 #[.int .u64 (u : Int), .int .i64 10] w fun e w' => e = .returned (.string (bstr (decDigits u))) ∧ Fr No w w' := by
  go_enter Tryz.func154, Tryz.ntmps154
  go_wp2_with (go_at_call 196; refine (format_ten u hu64 _ htab).mono ?_; rintro e w' ⟨rfl, hf⟩)
  go_ret
  exact ⟨rfl, hf⟩
end Go.Proofs.YthlgnmgjfgbffaaGreatDoor
