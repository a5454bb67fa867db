/- The texts Fmt, RefDigits, DigText, Dig3, Cut, joined. -/
import Derived.Test.YtbfodbejdaafaaaGreatDoorK01
import Derived.Test.YtbfodbejdaafaaaGreatDoorShelf
import Derived.Lib.ItoaMem
import Derived.Lib.AppendIntMem
import Derived.Lib.ItoaWalk
import Derived.BigCall
import Derived.BigGuard
import Derived.Lib.SmallJoins
import Derived.Test.YtbfodbejdaafaaaGreatDoorK02
import Derived.Test.YtbfodbejdaafaaaGreatDoorK03
import Derived.Lib.ItoaNum
import Derived.Deep.RegionWith
import Derived.Test.YtbfodbejdaafaaaGreatDoorK04
import Derived.Deep.RegionLaw
import Derived.BigQuiet
/- A number in tens: what strconv.FormatUint at ten tells of every number of 64 bits; the library's table of powers of ten stays as it lies. -/
namespace Go.Proofs.YtbfodbejdaafaaaGreatDoor
open Go.RowKit Go.Lib
set_option linter.unusedVariables false

/-- the table of powers of ten, as it is laid -/
abbrev Tab (w : World) : Prop := TabIs Tryz.prog w "internal/strconv.uint64pow10" .u64 pow10Tab
theorem tab_global : Tryz.prog.globalNamed "internal/strconv.uint64pow10" = some 3 := by kernel_rfl
theorem tab_no {w w' : World} (h : Tab w) (hf : Fr No w w') : Tab w' := Joins.tab_stays tab_global h hf.toBelow (Nat.le_refl _)

set_option maxHeartbeats 3200000 in
set_option maxRecDepth 100000 in
theorem format_ten (u : Nat) (hu64 : u < 18446744073709551616) (w : World) (htab : Tab w) :
    Calls Tryz.prog 153 #[.int .u64 (u : Int), .int .i64 10] w fun e w' => e = .returned (.string (bstr (decDigits u))) ∧ Fr No w w' := by
  by_cases hs : u < 100
  · have is : (u : Int) < 100 := by omega
    go_enter Tryz.func153, Tryz.ntmps153
    go_wp2_with (go_at_call 161; refine (Tryz.internal_strconv_small u hs _).mono ?_; rintro e w' ⟨rfl, rfl⟩)
    go_ret
    exact ⟨rfl, Fr.refl _ _⟩
  · have hu1 : 1 ≤ u := by omega
    have hnd20 : nDigits u ≤ 20 := by have := numDigits_eq u hu1 hu64; split at this <;> omega
    have hal : Tryz.prog.arrayLen 173 = 24 := by kernel_rfl
    have hel : Tryz.prog.underlying 173 = some (.array 24 5) := Tryz.underlying173
    have hsl : ∀ W, (Instr.sliceAt 173 (.pointer (some ⟨w.heap.size, 0, none⟩)) none (some (.int .i64 (nDigits u : Int))) none).run Tryz.prog W = .ok (.slice (some ⟨w.heap.size, 0, none⟩) (nDigits u) 24) W := fun W => by
      rw [run_sliceAt_array_h W 173 ⟨w.heap.size, 0, none⟩ (by kernel_rfl) .i64 (nDigits u : Int) (by omega) (by rw [hal]; omega)]
      go_simp
    have hH0 := holds_zero0 w 173 (nDigits u) (by omega)
    have hfmt := Tryz.internal_strconv_formatBase10 w.heap.size 0 24 u (Array.replicate (nDigits u) 0) (w.alloc (.cells zeros24 173)) hH0 (by rw [Array.size_replicate]; exact lt_pow_nDigits u) hu64 (by rw [Array.size_replicate]; omega)
    rw [Array.size_replicate] at hfmt
    have HH0 := Lib.hid hH0
    have HF := Lib.hid hfmt
    have iu : (100 : Int) ≤ (u : Int) := by omega
    clear hH0 hal hel hfmt
    go_enter Tryz.func153, Tryz.ntmps153
    go_wp2_with (first
      | (go_at_call 162; refine (Tryz.internal_strconv_numDigits u hu1 hu64 _ (tabIs_alloc htab _)).mono ?_; rintro e w' ⟨rfl, rfl⟩))
    refine HF.out.mono ?_
    rintro e w' ⟨rfl, k, v', dk, rfl, hF⟩
    have hrd : Rd ((Sort.putRow (fun (b : UInt8) => Value.int .u8 (b.toNat : Int)) (w.alloc (.cells zeros24 173)) w.heap.size 0 dk).drewN k) (some ⟨w.heap.size, 0, none⟩) (nDigits u) 24 (u8s (decDigits u)) := by
      refine ⟨by rw [u8s_length, decDigits_length], by omega, by simp [maxLen], (fun e => nomatch e), ?_⟩
      intro ad e j u' hj
      injection e with e
      subst e
      have hjl : j < (decDigits u).length := by
        have h5 := (List.getElem?_eq_some_iff.1 hj).1
        rwa [u8s_length] at h5
      rw [u8s_get _ _ hjl] at hj
      cases hj
      rw [row_is_numeral hF j hjl, add_plain, World.cell?_drewN]
      exact Sort.cell?_putRow (fun (b : UInt8) => Value.int .u8 (b.toNat : Int)) _ w.heap.size 0 _ dk HH0.out (by rw [hF.size, Array.size_replicate]) j (by rw [hF.size]; rw [decDigits_length] at hjl; exact hjl)
    obtain ⟨os, eo⟩ := fin_at w (.cells zeros24 173) dk k 0
    have hnx : Fr No w ((Sort.putRow (fun (b : UInt8) => Value.int .u8 (b.toNat : Int)) (w.alloc (.cells zeros24 173)) w.heap.size 0 dk).drewN k) := by rw [eo]; exact Fr.of_below (below_grow w.heap.size w (Nat.le_refl _) k os)
    generalize (Sort.putRow (fun (b : UInt8) => Value.int .u8 (b.toNat : Int)) (w.alloc (.cells zeros24 173)) w.heap.size 0 dk).drewN k = W2 at hrd hnx ⊢
    clear eo HH0 HF hF
    have hst := run_string (P := Tryz.prog) hrd 91 5 Tryz.underlying91 Tryz.underlying5 9 Tryz.underlying9
    go_wp2
    go_ret
    exact ⟨rfl, hnx⟩

set_option maxHeartbeats 400000 in
theorem format_any (u : Nat) (hu64 : u < 18446744073709551616) (w : World) (htab : Tab w) :
    Calls Tryz.prog 146 #[.int .u64 (u : Int), .int .i64 10] w fun e w' => e = .returned (.string (bstr (decDigits u))) ∧ Fr No w w' := by
  go_enter Tryz.func146, Tryz.ntmps146
  go_wp2_with (go_at_call 153; refine (format_ten u hu64 _ htab).mono ?_; rintro e w' ⟨rfl, hf⟩)
  go_ret
  exact ⟨rfl, hf⟩
end Go.Proofs.YtbfodbejdaafaaaGreatDoor
/- The statements' own digits of a number: as the library has them. -/
namespace Go.Proofs.YtbfodbejdaafaaaGreatDoor
open Go.RowKit
set_option maxHeartbeats 400000
set_option linter.unusedVariables false

theorem new_cell (w : World) (u : Value) (t : TypeId) : ((w.alloc (.cells #[u] t)).drew).cell? ⟨w.heap.size, 0, none⟩ = some u :=
  ((Bk.new w t #[u]).no ((Dr.refl _).drew.fr)).cell 0
theorem bstr_append (l m : List UInt8) : bstr (l ++ m) = bstr l ++ bstr m := by
  apply ByteArray.ext
  rw [ByteArray.data_append]
  simp [bstr]
theorem decDigits_len (u : Nat) (h : u < 18446744073709551616) : (Lib.decDigits u).length ≤ 20 := by
  rw [Lib.decDigits_length]
  by_cases h1 : 1 ≤ u
  · have := Lib.numDigits_eq u h1 h
    split at this <;> omega
  · rw [Lib.nDigits_small (by omega)]
    omega
/-- string of one byte, just laid, or anywhere -/
theorem one_string (w : World) {i : Int} {b : UInt8} (hi : i = (b.toNat : Int)) : (convert 91 9 (.slice (some ⟨w.heap.size, 0, none⟩) 1 1)).run Tryz.prog (w.alloc (.cells #[.int .u8 i] 5)) = .ok (.string (bstr [b])) (w.alloc (.cells #[.int .u8 i] 5)) :=
  run_string (P := Tryz.prog) (Rd.one hi 5) 91 5 Tryz.underlying91 Tryz.underlying5 9 Tryz.underlying9
theorem cell_string (w : World) (g : Nat) {b : UInt8} (h : w.cell? ⟨g, 0, none⟩ = some (.int .u8 (b.toNat : Int))) : (convert 91 9 (.slice (some ⟨g, 0, none⟩) 1 1)).run Tryz.prog w = .ok (.string (bstr [b])) w := by
  refine run_string (P := Tryz.prog) (A := some ⟨g, 0, none⟩) (n := 1) (c := 1) (l := [b]) ⟨rfl, Nat.le_refl _, by simp [maxLen], (fun e => nomatch e), ?_⟩ 91 5 Tryz.underlying91 Tryz.underlying5 9 Tryz.underlying9
  intro ad e j u hu
  injection e with e
  subst e
  cases j with
  | zero =>
    simp only [u8s, List.map_cons, List.map_nil, List.getElem?_cons_zero, Option.some.injEq] at hu
    subst hu
    exact h
  | succ j => simp [u8s] at hu

theorem digits_any (v : Nat) : ∀ (w : World), v < 18446744073709551616 →
    Calls Tryz.prog 91 #[.int .u64 (v : Int)] w fun e w' => e = .returned (.string (bstr (Lib.decDigits v))) ∧ Fr No w w' := by
  induction v using Nat.strongRecOn with
  | _ v ih =>
    intro w hv
    have IH := Lib.hid ih
    clear ih
    by_cases h : v < 10
    · obtain ⟨c, hc⟩ : ∃ c, c = UInt8.ofNat (48 + v) := ⟨_, rfl⟩
      have e : bstr (Lib.decDigits v) = bstr [c] := by rw [Lib.decDigits, dif_pos h, hc]
      have hcv : 48 + (v : Int) = (c.toNat : Int) := by rw [hc, UInt8.toNat_ofNat']; omega
      rw [e]
      have hi : (v : Int) < 10 := by omega
      have hst := one_string w hcv
      have HV := Lib.hid hv
      clear e hc hcv hv
      go_enter Tryz.func91, Tryz.ntmps91
      go_wp2
      go_ret
      exact ⟨rfl, (Fr.refl _ _).alloc _⟩
    · obtain ⟨q, hq⟩ : ∃ q, q = v / 10 := ⟨_, rfl⟩
      obtain ⟨r, hr⟩ : ∃ r, r = v % 10 := ⟨_, rfl⟩
      obtain ⟨c, hc⟩ : ∃ c, c = UInt8.ofNat (48 + r) := ⟨_, rfl⟩
      have hr9 : r ≤ 9 := by omega
      have e : bstr (Lib.decDigits v) = bstr (Lib.decDigits q ++ [c]) := by rw [Lib.decDigits, dif_neg h, hc, hr, hq]
      have hcr : 48 + (r : Int) = (c.toNat : Int) := by rw [hc, UInt8.toNat_ofNat']; omega
      rw [e]
      have hi : ¬ (v : Int) < 10 := by omega
      have hcv : ∀ (W : World) (b : Nat), W.cell? ⟨b, 0, none⟩ = some (.int .u8 (48 + (r : Int))) → (convert 91 9 (.slice (some ⟨b, 0, none⟩) 1 1)).run Tryz.prog W = .ok (.string (bstr [c])) W := fun W b hw =>
        cell_string W b (by rw [hw, hcr])
      have e1 : IntKind.u64.wrap ((v : Int).tdiv 10) = (q : Int) := by rw [IntWalk.u64_quo _ _ (by omega)]; omega
      have e6 : IntKind.u64.wrap ((v : Int) / 10) = (q : Int) := by rw [IntWalk.u64_in _ (by omega)]; omega
      have e2 : (v : Int).tmod 10 = (r : Int) := by rw [Int.tmod_eq_emod_of_nonneg (by omega)]; omega
      have e3 : IntKind.u64.wrap (r : Int) = (r : Int) := IntWalk.u64_in _ (by omega)
      have e4 : IntKind.u64.wrap (48 + (r : Int)) = 48 + (r : Int) := IntWalk.u64_in _ (by omega)
      have e5 : IntKind.u8.wrap (48 + (r : Int)) = 48 + (r : Int) := IntWalk.u8_in _ (by omega)
      have ih2 : ∀ w : World, Calls Tryz.prog 91 #[.int .u64 (q : Int)] w fun e w' => e = .returned (.string (bstr (Lib.decDigits q))) ∧ Fr No w w' := fun w => IH.out q (by omega) w (by omega)
      obtain ⟨S, hS⟩ : ∃ S, S = bstr (Lib.decDigits q) := ⟨_, rfl⟩
      obtain ⟨C, hC⟩ : ∃ C, C = bstr [c] := ⟨_, rfl⟩
      have hSz : S.size ≤ 20 := by rw [hS, bstr_size]; exact decDigits_len q (by omega)
      have hCz : C.size ≤ 1 := by rw [hC, bstr_size]; simp
      have hSC : bstr (Lib.decDigits q ++ [c]) = S ++ C := by rw [hS, hC, bstr_append]
      rw [← hS] at ih2
      rw [← hC] at hcv
      rw [hSC]
      have IH2 := Lib.hid ih2
      have HV := Lib.hid hv
      clear e hc hcr hv hq hr ih2 IH hS hC hSC
      go_enter Tryz.func91, Tryz.ntmps91
      go_wp2
      go_region_with (go_at_call 91; refine (IH2.out _).mono ?_; rintro e w2 ⟨rfl, hf2⟩; try (have hc2 := hf2.cell (new_cell w _ _) (fun x => x)))
      all_goals
        go_wp2
        go_ret
        refine ⟨rfl, ?_⟩
        first
          | exact ((Fr.refl _ _).drew.trans hf2).alloc _
          | exact ((Fr.refl _ _).alloc _).drew.trans hf2
end Go.Proofs.YtbfodbejdaafaaaGreatDoor
/- A number in so many digits: what package digits tells, and the statements' own answer. -/
namespace Go.Proofs.YtbfodbejdaafaaaGreatDoor
open Go.RowKit
set_option maxHeartbeats 400000
set_option linter.unusedVariables false

theorem text_any (v : Nat) (z : Int) (w : World) (hv : v < 18446744073709551616) (htab : Tab w) :
    Calls Tryz.prog 145 #[.int .u64 (v : Int), .int .i64 z] w fun e w' => e = .returned (.tuple #[.string (bstr (textR v z)), .int .i64 (textE v z)]) ∧ Fr No w w' := by
  have hfm := fun w h => format_any v hv w h
  have hl := decDigits_len v hv
  have HV := Lib.hid hv
  clear hv
  rcases text_cases v z with ⟨h, e1, e2⟩ | ⟨h, e1, e2⟩ | ⟨h1, h2, h3, e1, e2⟩ | ⟨m, rfl, h1, h2, e1, e2⟩
  · rw [e1, e2]
    clear e1 e2 hfm
    go_enter Tryz.func145, Tryz.ntmps145
    go_wp2
    go_ret2
    exact ⟨rfl, Fr.refl _ _⟩
  · rw [e1, e2]
    clear e1 e2 hfm
    go_enter Tryz.func145, Tryz.ntmps145
    go_wp2
    go_ret2
    exact ⟨rfl, Fr.refl _ _⟩
  · rw [e1, e2]
    have hsz : (bstr (Lib.decDigits v)).size = (Lib.decDigits v).length := bstr_size _
    generalize bstr (Lib.decDigits v) = D at hfm hsz
    rw [← hsz] at h3 hl
    have HF := Lib.hid hfm
    clear e1 e2 hfm hsz
    go_enter Tryz.func145, Tryz.ntmps145
    go_wp2_with (go_at_call 146; refine (HF.out _ htab).mono ?_; rintro e w1 ⟨rfl, hf⟩)
    go_ret2
    exact ⟨rfl, hf⟩
  · rw [e1, e2]
    have hsz : (bstr (Lib.decDigits v)).size = (Lib.decDigits v).length := bstr_size _
    have hwd : bstr (wide v m) = bstr (List.replicate m 48) ++ bstr (Lib.decDigits v) := by unfold wide; rw [bstr_append]
    have hrp : bstr (Lib.repeatL ({ data := #[48] } : ByteArray).data.toList m) = bstr (List.replicate m 48) := by
      have := Lib.repeatL_replicate (48 : UInt8) 1 m
      rw [Nat.mul_one] at this
      show bstr (Lib.repeatL [48] m) = _
      rw [← this]
      rfl
    have hrz : (bstr (List.replicate m 48)).size = m := by rw [bstr_size]; simp
    generalize bstr (Lib.decDigits v) = D at hfm hsz hwd
    generalize bstr (List.replicate m 48) = Z at hwd hrp hrz
    rw [← hsz] at h1 h2 hl ⊢
    rw [hwd]
    have hz20 : Z.size ≤ 20 := by omega
    have hm20 : m ≤ 20 := by omega
    have hrc : (D.size : Int) + (m : Int) - (D.size : Int) = (m : Int) := by omega
    have HF := Lib.hid hfm
    have HR := Lib.hid hrp
    clear e1 e2 hfm hsz hwd hrp hrz
    go_enter Tryz.func145, Tryz.ntmps145
    go_wp2_with (first
      | (go_at_call 146; refine (HF.out _ htab).mono ?_; rintro e w1 ⟨rfl, hf⟩)
      | (go_at_call 152; refine (Tryz.strings_Repeat { data := #[48] } m _ (by omega) (by show 1 * m ≤ _; omega)).mono ?_; rintro e w2 ⟨rfl, hb⟩; rw [show (⟨(Lib.repeatL ({ data := #[48] } : ByteArray).data.toList m).toArray⟩ : ByteArray) = Z from HR.out]))
    go_ret2
    exact ⟨rfl, hf.trans (Fr.of_below hb)⟩
end Go.Proofs.YtbfodbejdaafaaaGreatDoor
/- What package digits tells of bytes: two signs each, and so many digits: contracts of its calls. -/
namespace Go.Proofs.YtbfodbejdaafaaaGreatDoor
open Go.RowKit
set_option maxHeartbeats 400000
set_option linter.unusedVariables false

abbrev signs16 : ByteArray := { data := #[48, 49, 50, 51, 52, 53, 54, 55, 56, 57, 65, 66, 67, 68, 69, 70] }
theorem sign_nat (i : Nat) (h : i < signs16.size) : signs16[i] = sg (UInt8.ofNat i) := by
  have h16 : i < 16 := h
  obtain rfl | rfl | rfl | rfl | rfl | rfl | rfl | rfl | rfl | rfl | rfl | rfl | rfl | rfl | rfl | rfl : i = 0 ∨ i = 1 ∨ i = 2 ∨ i = 3 ∨ i = 4 ∨ i = 5 ∨ i = 6 ∨ i = 7 ∨ i = 8 ∨ i = 9 ∨ i = 10 ∨ i = 11 ∨ i = 12 ∨ i = 13 ∨ i = 14 ∨ i = 15 := by omega
  all_goals rfl
theorem sign_at {i : Int} {x : UInt8} (hx : i = (x.toNat : Int)) (h : i.toNat < signs16.size) : signs16[i.toNat] = sg x := by
  subst hx
  rw [sign_nat]
  simp
theorem Rd.two {w : World} {i j x y : UInt8} (hi : i = x) (hj : j = y) (t : TypeId) : Rd ((w.alloc (.cells #[.int .u8 (i.toNat : Int), .int .u8 (j.toNat : Int)] t)).drew) (some ⟨w.heap.size, 0, none⟩) 2 2 (u8s [x, y]) := by
  subst hi hj
  exact (Rd.lit w (u8s [i, j]) t 2 rfl (by simp [maxLen])).dr (Dr.refl _).drew
theorem hi_lt (x : UInt8) : (x >>> 4).toNat < 16 := by
  have := byte_all (fun x => decide ((x >>> 4).toNat < 16)) (by decide +kernel) x
  simpa using this
theorem lo_lt (x : UInt8) : (x &&& 15).toNat < 16 := by
  have := byte_all (fun x => decide ((x &&& 15).toNat < 16)) (by decide +kernel) x
  simpa using this

theorem hexL_snoc (l : List UInt8) (k : Nat) (h : k < l.length) : hexL (l.take (k + 1)) = hexL (l.take k) ++ [sg (l[k] >>> 4), sg (l[k] &&& 15)] := by
  rw [List.take_succ_eq_append_getElem h, hexL_append]
  rfl

/-- what UnBcd answers -/
def unbcdE (b : List UInt8) (n : Int) : Int :=
  if n < 0 ∨ (n ≠ 2 * (b.length : Int) ∧ n ≠ 2 * (b.length : Int) - 1) then 1
  else if allB (hexL b) isD = false ∨ (n < 2 * (b.length : Int) ∧ (hexL b)[0]? ≠ some 48) then 5 else 0
def unbcdR (b : List UInt8) (n : Int) : List UInt8 := if unbcdE b n = 0 then (hexL b).drop (2 * (b.length : Int) - n).toNat else []
theorem bstr_data (l : List UInt8) : (bstr l).data.toList = l := by simp [bstr]
theorem bstr_of (s : ByteArray) : bstr s.data.toList = s := by
  cases s
  rfl
theorem bstr_cut (s : ByteArray) (k : Nat) : s.extract k s.size = bstr (s.data.toList.drop k) := by
  apply ByteArray.ext
  rw [ByteArray.data_extract]
  show s.data.extract k s.data.size = (s.data.toList.drop k).toArray
  apply Array.ext'
  simp
  rw [List.take_of_length_le (by simp)]
theorem head_bytes (s : ByteArray) (h : 0 < s.size) : s.data.toList[0]? = some s[0] := List.getElem?_eq_getElem (by simpa using h)

end Go.Proofs.YtbfodbejdaafaaaGreatDoor
/- strings.Cut at a sign of one byte, without the library's bound of lengths: contracts. -/
namespace Go.Proofs.YtbfodbejdaafaaaGreatDoor
open Go.RowKit
set_option maxHeartbeats 400000
set_option linter.unusedVariables false

/-- not yet that sign -/
def notC (m c : UInt8) : Bool := decide (c ≠ m)
theorem cut_index (m : UInt8) : ∀ l : List UInt8, Lib.indexByte l m = if l.dropWhile (notC m) = [] then -1 else ((l.takeWhile (notC m)).length : Int)
  | [] => rfl
  | b :: l => by
    have ih := cut_index m l
    rw [Lib.indexByte, List.dropWhile_cons, List.takeWhile_cons]
    by_cases hb : b = m
    · subst hb
      have hu : notC b b = false := by unfold notC; simp
      rw [hu]
      simp
    · have hu : notC m b = true := by unfold notC; simp [hb]
      have hp : (b == m) = false := by simpa using hb
      rw [hu, hp, ih]
      simp only [Bool.false_eq_true, if_false, if_true]
      split
      · rfl
      · rename_i hd
        rw [if_neg (by simp)]
        simp
theorem cut_no (S : ByteArray) (m : UInt8) (w : World) (h : S.data.toList.dropWhile (notC m) = []) :
    Calls Tryz.prog 130 #[.string S, .string ⟨#[m]⟩] w fun e w' => e = .returned (.tuple #[.string S, .string ⟨#[]⟩, .bool false]) ∧ Dr w w' := by
  have hi := fun u => Tryz.stringslite_Index_one S m u
  rw [cut_index, if_pos h] at hi
  have HI := Lib.hid hi
  clear hi h
  have hc : ∀ u, Calls Tryz.prog 143 #[.string S, .string ⟨#[m]⟩] u fun e w' => e = .returned (.tuple #[.string S, .string ⟨#[]⟩, .bool false]) ∧ u = w' := by
    intro u
    go_enter Tryz.func143, Tryz.ntmps143
    go_wp2_with (go_at_call 151; refine (HI.out _).mono ?_; rintro e w' ⟨rfl, rfl⟩)
    go_ret3
    exact ⟨rfl, rfl⟩
  have HC := Lib.hid hc
  clear hc HI
  go_enter Tryz.func130, Tryz.ntmps130
  go_wp2_with (go_at_call 143; refine (HC.out _).mono ?_; rintro e w' ⟨rfl, rfl⟩)
  go_ret3
  exact ⟨rfl, Dr.refl _⟩
theorem cut_yes (S : ByteArray) (m : UInt8) (c : UInt8) (r : List UInt8) (w : World) (hs : S.size ≤ 140737488355328) (h : S.data.toList.dropWhile (notC m) = c :: r) :
    Calls Tryz.prog 130 #[.string S, .string ⟨#[m]⟩] w fun e w' => ∃ X Y : ByteArray, e = .returned (.tuple #[.string X, .string Y, .bool true]) ∧ X.data.toList = S.data.toList.takeWhile (notC m) ∧ Y.data.toList = r ∧ Dr w w' := by
  have hi := fun u => Tryz.stringslite_Index_one S m u
  rw [cut_index, if_neg (by rw [h]; simp)] at hi
  have hsp := List.takeWhile_append_dropWhile (p := notC m) (l := S.data.toList)
  rw [h] at hsp
  generalize S.data.toList.takeWhile (notC m) = A at hi hsp ⊢
  have hln : A.length + (r.length + 1) = S.size := by rw [← s_size, ← hsp]; simp
  have hX : (S.extract 0 A.length).data.toList = A := by rw [s_ext, ← hsp]; simp
  have hY : (S.extract (A.length + 1) S.size).data.toList = r := by
    rw [s_ext, ← hsp]
    rw [show A.length + 1 = A.length + 1 from rfl, ← List.drop_drop, List.drop_left]
    show List.take _ r = r
    exact List.take_of_length_le (by omega)
  obtain ⟨X, eX⟩ : ∃ X, S.extract 0 A.length = X := ⟨_, rfl⟩
  obtain ⟨Y, eY⟩ : ∃ Y, S.extract (A.length + 1) S.size = Y := ⟨_, rfl⟩
  rw [eX] at hX
  rw [eY] at hY
  obtain ⟨i, hi2⟩ : ∃ i, A.length = i := ⟨_, rfl⟩
  rw [hi2] at hi hln eX eY
  have f1 : (0 : Int) ≤ (i : Int) ∧ (i : Int) ≤ (S.size : Int) := by omega
  have f2 : (0 : Int) ≤ (i : Int) + 1 ∧ (i : Int) + 1 ≤ (S.size : Int) := by omega
  have f4 : (S.size : Int) ≤ 140737488355328 := by omega
  have HI := Lib.hid hi; have HX := Lib.hid hX; have HY := Lib.hid hY
  clear hi hX hY hsp h hln hi2 hs
  have hc : ∀ u, Calls Tryz.prog 143 #[.string S, .string ⟨#[m]⟩] u fun e w' => e = .returned (.tuple #[.string X, .string Y, .bool true]) ∧ Dr u w' := by
    intro u
    go_enter Tryz.func143, Tryz.ntmps143
    go_wp2_with (go_at_call 151; refine (HI.out _).mono ?_; rintro e w' ⟨rfl, rfl⟩)
    go_quiet (fail)
    go_wp2
    go_ret3
    exact ⟨rfl, (Dr.refl _).drewN _⟩
  have HC := Lib.hid hc
  clear hc HI f1 f2 f4 eX eY
  go_enter Tryz.func130, Tryz.ntmps130
  go_wp2_with (go_at_call 143; refine (HC.out _).mono ?_; rintro e w' ⟨rfl, hd⟩)
  go_ret3
  exact ⟨X, Y, rfl, HX.out, HY.out, hd⟩
/-- either way: what is ahead of the sign, and what is behind it -/
theorem cut_any (S : ByteArray) (m : UInt8) (w : World) (hs : S.size ≤ 140737488355328) :
    Calls Tryz.prog 130 #[.string S, .string ⟨#[m]⟩] w fun e w' => ∃ (X Y : ByteArray) (b : Bool), e = .returned (.tuple #[.string X, .string Y, .bool b]) ∧ X.data.toList = S.data.toList.takeWhile (notC m) ∧ Y.data.toList = (S.data.toList.dropWhile (notC m)).drop 1 ∧ Dr w w' := by
  cases h : S.data.toList.dropWhile (notC m) with
  | nil =>
    refine (cut_no S m w h).mono ?_
    rintro e w' ⟨rfl, hd⟩
    have hsp := List.takeWhile_append_dropWhile (p := notC m) (l := S.data.toList)
    rw [h, List.append_nil] at hsp
    exact ⟨S, ⟨#[]⟩, false, rfl, hsp.symm, rfl, hd⟩
  | cons c r =>
    refine (cut_yes S m c r w hs h).mono ?_
    rintro e w' ⟨X, Y, rfl, hX, hY, hd⟩
    exact ⟨X, Y, true, rfl, hX, hY, hd⟩
end Go.Proofs.YtbfodbejdaafaaaGreatDoor
