/- The texts RefDigits, joined. -/
import Derived.Test.YthlgnmgjfgbffaaGreatDoorL06
import Derived.Test.YthlgnmgjfgbffaaGreatDoorL01
import Derived.Lib.ItoaNum
import Derived.Deep.RegionWith
/- The statements' own digits of a number: as the library has them. -/
namespace Go.Proofs.YthlgnmgjfgbffaaGreatDoor
open Go.RowKit
set_option maxHeartbeats 400000
set_option linter.unusedVariables false
set_option maxRecDepth 20000

theorem new_cell (w : World) (u : Value) (t : TypeId) : ((w.alloc (.cells #[u] t)).drew).cell? ⟨w.heap.size, 0, none⟩ = some u :=
  ((Bk.new w t #[u]).no ((Dr.refl _).drew.fr)).cell 0
theorem bstr_append (l m : List UInt8) : bstr (l ++ m) = bstr l ++ bstr m := by
  apply ByteArray.ext
  rw [ByteArray.data_append]
  simp [bstr]
theorem decDigits_len (u : Nat) (h : u < 18446744073709551616) : (Lib.decDigits u).length ≤ 20 := by
  rw [Lib.decDigits_length]
  by_cases h1 : 1 ≤ u
  · have := Lib.numDigits_eq u h1 h
    split at this <;> omega
  · rw [Lib.nDigits_small (by omega)]
    omega
/-- string of one byte, just laid, or anywhere -/
theorem one_string (w : World) {i : Int} {b : UInt8} (hi : i = (b.toNat : Int)) : (convert 22 9 (.slice (some ⟨w.heap.size, 0, none⟩) 1 1)).run Tryz.prog (w.alloc (.cells #[.int .u8 i] 5)) = .ok (.string (bstr [b])) (w.alloc (.cells #[.int .u8 i] 5)) :=
  run_string (P := Tryz.prog) (Rd.one hi 5) 22 5 Tryz.underlying22 Tryz.underlying5 9 Tryz.underlying9
theorem cell_string (w : World) (g : Nat) {b : UInt8} (h : w.cell? ⟨g, 0, none⟩ = some (.int .u8 (b.toNat : Int))) : (convert 22 9 (.slice (some ⟨g, 0, none⟩) 1 1)).run Tryz.prog w = .ok (.string (bstr [b])) w := by
  refine run_string (P := Tryz.prog) (A := some ⟨g, 0, none⟩) (n := 1) (c := 1) (l := [b]) ⟨rfl, Nat.le_refl _, by simp [maxLen], (fun e => nomatch e), ?_⟩ 22 5 Tryz.underlying22 Tryz.underlying5 9 Tryz.underlying9
  intro ad e j u hu
  injection e with e
  subst e
  cases j with
  | zero =>
    simp only [u8s, List.map_cons, List.map_nil, List.getElem?_cons_zero, Option.some.injEq] at hu
    subst hu
    exact h
  | succ j => simp [u8s] at hu

theorem digits_any (v : Nat) : ∀ (w : World), v < 18446744073709551616 →
    Calls Tryz.prog 33 #[.int .u64 (v : Int)] w fun e w' => e = .returned (.string (bstr (Lib.decDigits v))) ∧ Fr No w w' := by
  induction v using Nat.strongRecOn with
  | _ v ih =>
    intro w hv
    have IH := Lib.hid ih
    clear ih
    by_cases h : v < 10
    · obtain ⟨c, hc⟩ : ∃ c, c = UInt8.ofNat (48 + v) := ⟨_, rfl⟩
      have e : bstr (Lib.decDigits v) = bstr [c] := by rw [Lib.decDigits, dif_pos h, hc]
      have hcv : 48 + (v : Int) = (c.toNat : Int) := by rw [hc, UInt8.toNat_ofNat']; omega
      rw [e]
      have hi : (v : Int) < 10 := by omega
      have hst := one_string w hcv
      have HV := Lib.hid hv
      clear e hc hcv hv
      go_enter Tryz.func33, Tryz.ntmps33
      go_wp2
      go_ret
      exact ⟨rfl, (Fr.refl _ _).alloc _⟩
    · obtain ⟨q, hq⟩ : ∃ q, q = v / 10 := ⟨_, rfl⟩
      obtain ⟨r, hr⟩ : ∃ r, r = v % 10 := ⟨_, rfl⟩
      obtain ⟨c, hc⟩ : ∃ c, c = UInt8.ofNat (48 + r) := ⟨_, rfl⟩
      have hr9 : r ≤ 9 := by omega
      have e : bstr (Lib.decDigits v) = bstr (Lib.decDigits q ++ [c]) := by rw [Lib.decDigits, dif_neg h, hc, hr, hq]
      have hcr : 48 + (r : Int) = (c.toNat : Int) := by rw [hc, UInt8.toNat_ofNat']; omega
      rw [e]
      have hi : ¬ (v : Int) < 10 := by omega
      have hcv : ∀ (W : World) (b : Nat), W.cell? ⟨b, 0, none⟩ = some (.int .u8 (48 + (r : Int))) → (convert 22 9 (.slice (some ⟨b, 0, none⟩) 1 1)).run Tryz.prog W = .ok (.string (bstr [c])) W := fun W b hw =>
        cell_string W b (by rw [hw, hcr])
      have e1 : IntKind.u64.wrap ((v : Int).tdiv 10) = (q : Int) := by rw [IntWalk.u64_quo _ _ (by omega)]; omega
      have e6 : IntKind.u64.wrap ((v : Int) / 10) = (q : Int) := by rw [IntWalk.u64_in _ (by omega)]; omega
      have e2 : (v : Int).tmod 10 = (r : Int) := by rw [Int.tmod_eq_emod_of_nonneg (by omega)]; omega
      have e3 : IntKind.u64.wrap (r : Int) = (r : Int) := IntWalk.u64_in _ (by omega)
      have e4 : IntKind.u64.wrap (48 + (r : Int)) = 48 + (r : Int) := IntWalk.u64_in _ (by omega)
      have e5 : IntKind.u8.wrap (48 + (r : Int)) = 48 + (r : Int) := IntWalk.u8_in _ (by omega)
      have ih2 : ∀ w : World, Calls Tryz.prog 33 #[.int .u64 (q : Int)] w fun e w' => e = .returned (.string (bstr (Lib.decDigits q))) ∧ Fr No w w' := fun w => IH.out q (by omega) w (by omega)
      obtain ⟨S, hS⟩ : ∃ S, S = bstr (Lib.decDigits q) := ⟨_, rfl⟩
      obtain ⟨C, hC⟩ : ∃ C, C = bstr [c] := ⟨_, rfl⟩
      have hSz : S.size ≤ 20 := by rw [hS, bstr_size]; exact decDigits_len q (by omega)
      have hCz : C.size ≤ 1 := by rw [hC, bstr_size]; simp
      have hSC : bstr (Lib.decDigits q ++ [c]) = S ++ C := by rw [hS, hC, bstr_append]
      rw [← hS] at ih2
      rw [← hC] at hcv
      rw [hSC]
      have IH2 := Lib.hid ih2
      have HV := Lib.hid hv
      clear e hc hcr hv hq hr ih2 IH hS hC hSC
      go_enter Tryz.func33, Tryz.ntmps33
      go_wp2
      go_region_with (go_at_call 33; refine (IH2.out _).mono ?_; rintro e w2 ⟨rfl, hf2⟩; try (have hc2 := hf2.cell (new_cell w _ _) (fun x => x)))
      all_goals
        go_wp2
        go_ret
        refine ⟨rfl, ?_⟩
        first
          | exact ((Fr.refl _ _).drew.trans hf2).alloc _
          | exact ((Fr.refl _ _).alloc _).drew.trans hf2
end Go.Proofs.YthlgnmgjfgbffaaGreatDoor
