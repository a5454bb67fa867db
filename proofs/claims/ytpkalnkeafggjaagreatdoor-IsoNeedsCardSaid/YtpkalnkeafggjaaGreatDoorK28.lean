/- The texts Fmt, RefDigits, DigText, joined. -/
import Derived.Test.YtpkalnkeafggjaaGreatDoorK01
import Derived.Test.YtpkalnkeafggjaaGreatDoorShelf
import Derived.Lib.ItoaMem
import Derived.Lib.AppendIntMem
import Derived.Lib.ItoaWalk
import Derived.BigCall
import Derived.BigGuard
import Derived.Lib.SmallJoins
import Derived.Test.YtpkalnkeafggjaaGreatDoorK04
import Derived.Test.YtpkalnkeafggjaaGreatDoorK03
import Derived.Lib.ItoaNum
import Derived.Deep.RegionWith
import Derived.Test.YtpkalnkeafggjaaGreatDoorK19
import Derived.Test.YtpkalnkeafggjaaGreatDoorK05
/- A number in tens: what strconv.FormatUint at ten tells of every number of 64 bits; the library's table of powers of ten stays as it lies. -/
namespace Go.Proofs.YtpkalnkeafggjaaGreatDoor
open Go.RowKit Go.Lib
set_option linter.unusedVariables false
set_option maxRecDepth 20000

/-- the table of powers of ten, as it is laid -/
abbrev Tab (w : World) : Prop := TabIs Tryz.prog w "internal/strconv.uint64pow10" .u64 pow10Tab
theorem tab_global : Tryz.prog.globalNamed "internal/strconv.uint64pow10" = some 1 := by kernel_rfl
theorem tab_no {w w' : World} (h : Tab w) (hf : Fr No w w') : Tab w' := Joins.tab_stays tab_global h hf.toBelow (Nat.le_refl _)

set_option maxHeartbeats 3200000 in
set_option maxRecDepth 100000 in
theorem format_ten (u : Nat) (hu64 : u < 18446744073709551616) (w : World) (htab : Tab w) :
    Calls Tryz.prog 106 #[.int .u64 (u : Int), .int .i64 10] w fun e w' => e = .returned (.string (bstr (decDigits u))) ∧ Fr No w w' := by
  by_cases hs : u < 100
  · have is : (u : Int) < 100 := by omega
    go_enter Tryz.func106, Tryz.ntmps106
    go_wp2_with (go_at_call 117; refine (Tryz.internal_strconv_small u hs _).mono ?_; rintro e w' ⟨rfl, rfl⟩)
    go_ret
    exact ⟨rfl, Fr.refl _ _⟩
  · have hu1 : 1 ≤ u := by omega
    have hnd20 : nDigits u ≤ 20 := by have := numDigits_eq u hu1 hu64; split at this <;> omega
    have hal : Tryz.prog.arrayLen 152 = 24 := by kernel_rfl
    have hel : Tryz.prog.underlying 152 = some (.array 24 5) := Tryz.underlying152
    have hsl : ∀ W, (Instr.sliceAt 152 (.pointer (some ⟨w.heap.size, 0, none⟩)) none (some (.int .i64 (nDigits u : Int))) none).run Tryz.prog W = .ok (.slice (some ⟨w.heap.size, 0, none⟩) (nDigits u) 24) W := fun W => by
      rw [run_sliceAt_array_h W 152 ⟨w.heap.size, 0, none⟩ (by kernel_rfl) .i64 (nDigits u : Int) (by omega) (by rw [hal]; omega)]
      go_simp
    have hH0 := holds_zero0 w 152 (nDigits u) (by omega)
    have hfmt := Tryz.internal_strconv_formatBase10 w.heap.size 0 24 u (Array.replicate (nDigits u) 0) (w.alloc (.cells zeros24 152)) hH0 (by rw [Array.size_replicate]; exact lt_pow_nDigits u) hu64 (by rw [Array.size_replicate]; omega)
    rw [Array.size_replicate] at hfmt
    have HH0 := Lib.hid hH0
    have HF := Lib.hid hfmt
    have iu : (100 : Int) ≤ (u : Int) := by omega
    clear hH0 hal hel hfmt
    go_enter Tryz.func106, Tryz.ntmps106
    go_wp2_with (first
      | (go_at_call 118; refine (Tryz.internal_strconv_numDigits u hu1 hu64 _ (tabIs_alloc htab _)).mono ?_; rintro e w' ⟨rfl, rfl⟩))
    refine HF.out.mono ?_
    rintro e w' ⟨rfl, k, v', dk, rfl, hF⟩
    have hrd : Rd ((Sort.putRow (fun (b : UInt8) => Value.int .u8 (b.toNat : Int)) (w.alloc (.cells zeros24 152)) w.heap.size 0 dk).drewN k) (some ⟨w.heap.size, 0, none⟩) (nDigits u) 24 (u8s (decDigits u)) := by
      refine ⟨by rw [u8s_length, decDigits_length], by omega, by simp [maxLen], (fun e => nomatch e), ?_⟩
      intro ad e j u' hj
      injection e with e
      subst e
      have hjl : j < (decDigits u).length := by
        have h5 := (List.getElem?_eq_some_iff.1 hj).1
        rwa [u8s_length] at h5
      rw [u8s_get _ _ hjl] at hj
      cases hj
      rw [row_is_numeral hF j hjl, add_plain, World.cell?_drewN]
      exact Sort.cell?_putRow (fun (b : UInt8) => Value.int .u8 (b.toNat : Int)) _ w.heap.size 0 _ dk HH0.out (by rw [hF.size, Array.size_replicate]) j (by rw [hF.size]; rw [decDigits_length] at hjl; exact hjl)
    obtain ⟨os, eo⟩ := fin_at w (.cells zeros24 152) dk k 0
    have hnx : Fr No w ((Sort.putRow (fun (b : UInt8) => Value.int .u8 (b.toNat : Int)) (w.alloc (.cells zeros24 152)) w.heap.size 0 dk).drewN k) := by rw [eo]; exact Fr.of_below (below_grow w.heap.size w (Nat.le_refl _) k os)
    generalize (Sort.putRow (fun (b : UInt8) => Value.int .u8 (b.toNat : Int)) (w.alloc (.cells zeros24 152)) w.heap.size 0 dk).drewN k = W2 at hrd hnx ⊢
    clear eo HH0 HF hF
    have hst := run_string (P := Tryz.prog) hrd 22 5 Tryz.underlying22 Tryz.underlying5 9 Tryz.underlying9
    go_wp2
    go_ret
    exact ⟨rfl, hnx⟩

set_option maxHeartbeats 400000 in
theorem format_any (u : Nat) (hu64 : u < 18446744073709551616) (w : World) (htab : Tab w) :
    Calls Tryz.prog 102 #[.int .u64 (u : Int), .int .i64 10] w fun e w' => e = .returned (.string (bstr (decDigits u))) ∧ Fr No w w' := by
  go_enter Tryz.func102, Tryz.ntmps102
  go_wp2_with (go_at_call 106; refine (format_ten u hu64 _ htab).mono ?_; rintro e w' ⟨rfl, hf⟩)
  go_ret
  exact ⟨rfl, hf⟩
end Go.Proofs.YtpkalnkeafggjaaGreatDoor
/- The statements' own digits of a number: as the library has them. -/
namespace Go.Proofs.YtpkalnkeafggjaaGreatDoor
open Go.RowKit
set_option maxHeartbeats 400000
set_option linter.unusedVariables false
set_option maxRecDepth 20000

theorem new_cell (w : World) (u : Value) (t : TypeId) : ((w.alloc (.cells #[u] t)).drew).cell? ⟨w.heap.size, 0, none⟩ = some u :=
  ((Bk.new w t #[u]).no ((Dr.refl _).drew.fr)).cell 0
theorem bstr_append (l m : List UInt8) : bstr (l ++ m) = bstr l ++ bstr m := by
  apply ByteArray.ext
  rw [ByteArray.data_append]
  simp [bstr]
theorem decDigits_len (u : Nat) (h : u < 18446744073709551616) : (Lib.decDigits u).length ≤ 20 := by
  rw [Lib.decDigits_length]
  by_cases h1 : 1 ≤ u
  · have := Lib.numDigits_eq u h1 h
    split at this <;> omega
  · rw [Lib.nDigits_small (by omega)]
    omega
/-- string of one byte, just laid, or anywhere -/
theorem one_string (w : World) {i : Int} {b : UInt8} (hi : i = (b.toNat : Int)) : (convert 22 9 (.slice (some ⟨w.heap.size, 0, none⟩) 1 1)).run Tryz.prog (w.alloc (.cells #[.int .u8 i] 5)) = .ok (.string (bstr [b])) (w.alloc (.cells #[.int .u8 i] 5)) :=
  run_string (P := Tryz.prog) (Rd.one hi 5) 22 5 Tryz.underlying22 Tryz.underlying5 9 Tryz.underlying9
theorem cell_string (w : World) (g : Nat) {b : UInt8} (h : w.cell? ⟨g, 0, none⟩ = some (.int .u8 (b.toNat : Int))) : (convert 22 9 (.slice (some ⟨g, 0, none⟩) 1 1)).run Tryz.prog w = .ok (.string (bstr [b])) w := by
  refine run_string (P := Tryz.prog) (A := some ⟨g, 0, none⟩) (n := 1) (c := 1) (l := [b]) ⟨rfl, Nat.le_refl _, by simp [maxLen], (fun e => nomatch e), ?_⟩ 22 5 Tryz.underlying22 Tryz.underlying5 9 Tryz.underlying9
  intro ad e j u hu
  injection e with e
  subst e
  cases j with
  | zero =>
    simp only [u8s, List.map_cons, List.map_nil, List.getElem?_cons_zero, Option.some.injEq] at hu
    subst hu
    exact h
  | succ j => simp [u8s] at hu

theorem digits_any (v : Nat) : ∀ (w : World), v < 18446744073709551616 →
    Calls Tryz.prog 75 #[.int .u64 (v : Int)] w fun e w' => e = .returned (.string (bstr (Lib.decDigits v))) ∧ Fr No w w' := by
  induction v using Nat.strongRecOn with
  | _ v ih =>
    intro w hv
    have IH := Lib.hid ih
    clear ih
    by_cases h : v < 10
    · obtain ⟨c, hc⟩ : ∃ c, c = UInt8.ofNat (48 + v) := ⟨_, rfl⟩
      have e : bstr (Lib.decDigits v) = bstr [c] := by rw [Lib.decDigits, dif_pos h, hc]
      have hcv : 48 + (v : Int) = (c.toNat : Int) := by rw [hc, UInt8.toNat_ofNat']; omega
      rw [e]
      have hi : (v : Int) < 10 := by omega
      have hst := one_string w hcv
      have HV := Lib.hid hv
      clear e hc hcv hv
      go_enter Tryz.func75, Tryz.ntmps75
      go_wp2
      go_ret
      exact ⟨rfl, (Fr.refl _ _).alloc _⟩
    · obtain ⟨q, hq⟩ : ∃ q, q = v / 10 := ⟨_, rfl⟩
      obtain ⟨r, hr⟩ : ∃ r, r = v % 10 := ⟨_, rfl⟩
      obtain ⟨c, hc⟩ : ∃ c, c = UInt8.ofNat (48 + r) := ⟨_, rfl⟩
      have hr9 : r ≤ 9 := by omega
      have e : bstr (Lib.decDigits v) = bstr (Lib.decDigits q ++ [c]) := by rw [Lib.decDigits, dif_neg h, hc, hr, hq]
      have hcr : 48 + (r : Int) = (c.toNat : Int) := by rw [hc, UInt8.toNat_ofNat']; omega
      rw [e]
      have hi : ¬ (v : Int) < 10 := by omega
      have hcv : ∀ (W : World) (b : Nat), W.cell? ⟨b, 0, none⟩ = some (.int .u8 (48 + (r : Int))) → (convert 22 9 (.slice (some ⟨b, 0, none⟩) 1 1)).run Tryz.prog W = .ok (.string (bstr [c])) W := fun W b hw =>
        cell_string W b (by rw [hw, hcr])
      have e1 : IntKind.u64.wrap ((v : Int).tdiv 10) = (q : Int) := by rw [IntWalk.u64_quo _ _ (by omega)]; omega
      have e6 : IntKind.u64.wrap ((v : Int) / 10) = (q : Int) := by rw [IntWalk.u64_in _ (by omega)]; omega
      have e2 : (v : Int).tmod 10 = (r : Int) := by rw [Int.tmod_eq_emod_of_nonneg (by omega)]; omega
      have e3 : IntKind.u64.wrap (r : Int) = (r : Int) := IntWalk.u64_in _ (by omega)
      have e4 : IntKind.u64.wrap (48 + (r : Int)) = 48 + (r : Int) := IntWalk.u64_in _ (by omega)
      have e5 : IntKind.u8.wrap (48 + (r : Int)) = 48 + (r : Int) := IntWalk.u8_in _ (by omega)
      have ih2 : ∀ w : World, Calls Tryz.prog 75 #[.int .u64 (q : Int)] w fun e w' => e = .returned (.string (bstr (Lib.decDigits q))) ∧ Fr No w w' := fun w => IH.out q (by omega) w (by omega)
      obtain ⟨S, hS⟩ : ∃ S, S = bstr (Lib.decDigits q) := ⟨_, rfl⟩
      obtain ⟨C, hC⟩ : ∃ C, C = bstr [c] := ⟨_, rfl⟩
      have hSz : S.size ≤ 20 := by rw [hS, bstr_size]; exact decDigits_len q (by omega)
      have hCz : C.size ≤ 1 := by rw [hC, bstr_size]; simp
      have hSC : bstr (Lib.decDigits q ++ [c]) = S ++ C := by rw [hS, hC, bstr_append]
      rw [← hS] at ih2
      rw [← hC] at hcv
      rw [hSC]
      have IH2 := Lib.hid ih2
      have HV := Lib.hid hv
      clear e hc hcr hv hq hr ih2 IH hS hC hSC
      go_enter Tryz.func75, Tryz.ntmps75
      go_wp2
      go_region_with (go_at_call 75; refine (IH2.out _).mono ?_; rintro e w2 ⟨rfl, hf2⟩; try (have hc2 := hf2.cell (new_cell w _ _) (fun x => x)))
      all_goals
        go_wp2
        go_ret
        refine ⟨rfl, ?_⟩
        first
          | exact ((Fr.refl _ _).drew.trans hf2).alloc _
          | exact ((Fr.refl _ _).alloc _).drew.trans hf2
end Go.Proofs.YtpkalnkeafggjaaGreatDoor
/- A number in so many digits: what package digits tells, and the statements' own answer. -/
namespace Go.Proofs.YtpkalnkeafggjaaGreatDoor
open Go.RowKit
set_option maxHeartbeats 400000
set_option linter.unusedVariables false
set_option maxRecDepth 20000

theorem text_any (v : Nat) (z : Int) (w : World) (hv : v < 18446744073709551616) (htab : Tab w) :
    Calls Tryz.prog 95 #[.int .u64 (v : Int), .int .i64 z] w fun e w' => e = .returned (.tuple #[.string (bstr (textR v z)), .int .i64 (textE v z)]) ∧ Fr No w w' := by
  have hfm := fun w h => format_any v hv w h
  have hl := decDigits_len v hv
  have HV := Lib.hid hv
  clear hv
  rcases text_cases v z with ⟨h, e1, e2⟩ | ⟨h, e1, e2⟩ | ⟨h1, h2, h3, e1, e2⟩ | ⟨m, rfl, h1, h2, e1, e2⟩
  · rw [e1, e2]
    clear e1 e2 hfm
    go_enter Tryz.func95, Tryz.ntmps95
    go_wp2
    go_ret2
    exact ⟨rfl, Fr.refl _ _⟩
  · rw [e1, e2]
    clear e1 e2 hfm
    go_enter Tryz.func95, Tryz.ntmps95
    go_wp2
    go_ret2
    exact ⟨rfl, Fr.refl _ _⟩
  · rw [e1, e2]
    have hsz : (bstr (Lib.decDigits v)).size = (Lib.decDigits v).length := bstr_size _
    generalize bstr (Lib.decDigits v) = D at hfm hsz
    rw [← hsz] at h3 hl
    have HF := Lib.hid hfm
    clear e1 e2 hfm hsz
    go_enter Tryz.func95, Tryz.ntmps95
    go_wp2_with (go_at_call 102; refine (HF.out _ htab).mono ?_; rintro e w1 ⟨rfl, hf⟩)
    go_ret2
    exact ⟨rfl, hf⟩
  · rw [e1, e2]
    have hsz : (bstr (Lib.decDigits v)).size = (Lib.decDigits v).length := bstr_size _
    have hwd : bstr (wide v m) = bstr (List.replicate m 48) ++ bstr (Lib.decDigits v) := by unfold wide; rw [bstr_append]
    have hrp : bstr (Lib.repeatL ({ data := #[48] } : ByteArray).data.toList m) = bstr (List.replicate m 48) := by
      have := Lib.repeatL_replicate (48 : UInt8) 1 m
      rw [Nat.mul_one] at this
      show bstr (Lib.repeatL [48] m) = _
      rw [← this]
      rfl
    have hrz : (bstr (List.replicate m 48)).size = m := by rw [bstr_size]; simp
    generalize bstr (Lib.decDigits v) = D at hfm hsz hwd
    generalize bstr (List.replicate m 48) = Z at hwd hrp hrz
    rw [← hsz] at h1 h2 hl ⊢
    rw [hwd]
    have hz20 : Z.size ≤ 20 := by omega
    have hm20 : m ≤ 20 := by omega
    have hrc : (D.size : Int) + (m : Int) - (D.size : Int) = (m : Int) := by omega
    have HF := Lib.hid hfm
    have HR := Lib.hid hrp
    clear e1 e2 hfm hsz hwd hrp hrz
    go_enter Tryz.func95, Tryz.ntmps95
    go_wp2_with (first
      | (go_at_call 102; refine (HF.out _ htab).mono ?_; rintro e w1 ⟨rfl, hf⟩)
      | (go_at_call 103; refine (Tryz.strings_Repeat { data := #[48] } m _ (by omega) (by show 1 * m ≤ _; omega)).mono ?_; rintro e w2 ⟨rfl, hb⟩; rw [show (⟨(Lib.repeatL ({ data := #[48] } : ByteArray).data.toList m).toArray⟩ : ByteArray) = Z from HR.out]))
    go_ret2
    exact ⟨rfl, hf.trans (Fr.of_below hb)⟩
end Go.Proofs.YtpkalnkeafggjaaGreatDoor
