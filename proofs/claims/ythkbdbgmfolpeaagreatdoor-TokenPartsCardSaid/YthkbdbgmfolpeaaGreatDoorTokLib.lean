/- What the library does for package token: up to a sign, a sign among bytes; whether a name is among attributes. -/
import Derived.Test.YthkbdbgmfolpeaaGreatDoorTokWalk2
import Derived.BigQuiet
namespace Go.Proofs.YthkbdbgmfolpeaaGreatDoor
open Go.RowKit
set_option maxHeartbeats 400000
set_option linter.unusedVariables false

theorem index_byte1 (m : UInt8) : ∀ l : List UInt8, Lib.indexByte l m = if l.dropWhile (upTo m) = [] then -1 else ((l.takeWhile (upTo m)).length : Int)
  | [] => rfl
  | b :: l => by
    have ih := index_byte1 m l
    rw [Lib.indexByte, List.dropWhile_cons, List.takeWhile_cons]
    by_cases hb : b = m
    · subst hb
      have hu : upTo b b = false := by unfold upTo; simp
      rw [hu]
      simp
    · have hu : upTo m b = true := by unfold upTo; simp [hb]
      have hp : (b == m) = false := by simpa using hb
      rw [hu, hp, ih]
      simp only [Bool.false_eq_true, if_false, if_true]
      split
      · rfl
      · rename_i hd
        rw [if_neg (by simp)]
        simp
theorem k_cut_no (S : ByteArray) (m : UInt8) (w : World) (h : S.data.toList.dropWhile (upTo m) = []) :
    Calls Tryz.prog 55 #[.string S, .string ⟨#[m]⟩] w fun e w' => e = .returned (.tuple #[.string S, .string ⟨#[]⟩, .bool false]) ∧ Dr w w' := by
  have hi := fun u => Tryz.stringslite_Index_one S m u
  rw [index_byte1, if_pos h] at hi
  have HI := Lib.hid hi
  clear hi h
  have hc : ∀ u, Calls Tryz.prog 65 #[.string S, .string ⟨#[m]⟩] u fun e w' => e = .returned (.tuple #[.string S, .string ⟨#[]⟩, .bool false]) ∧ u = w' := by
    intro u
    go_enter Tryz.func65, Tryz.ntmps65
    go_wp2_with (go_at_call 69; refine (HI.out _).mono ?_; rintro e w' ⟨rfl, rfl⟩)
    go_ret3
    exact ⟨rfl, rfl⟩
  have HC := Lib.hid hc
  clear hc HI
  go_enter Tryz.func55, Tryz.ntmps55
  go_wp2_with (go_at_call 65; refine (HC.out _).mono ?_; rintro e w' ⟨rfl, rfl⟩)
  go_ret3
  exact ⟨rfl, Dr.refl _⟩
theorem k_cut_yes (S : ByteArray) (m : UInt8) (c : UInt8) (r : List UInt8) (w : World) (hs : S.size ≤ 65536) (h : S.data.toList.dropWhile (upTo m) = c :: r) :
    Calls Tryz.prog 55 #[.string S, .string ⟨#[m]⟩] w fun e w' => ∃ X Y : ByteArray, e = .returned (.tuple #[.string X, .string Y, .bool true]) ∧ X.data.toList = S.data.toList.takeWhile (upTo m) ∧ Y.data.toList = r ∧ Dr w w' := by
  have hi := fun u => Tryz.stringslite_Index_one S m u
  rw [index_byte1, if_neg (by rw [h]; simp)] at hi
  have hsp := List.takeWhile_append_dropWhile (p := upTo m) (l := S.data.toList)
  rw [h] at hsp
  generalize S.data.toList.takeWhile (upTo m) = A at hi hsp ⊢
  have hln : A.length + (r.length + 1) = S.size := by rw [← size_list, ← hsp]; simp
  have hX := take_pre S A (c :: r) hsp.symm
  have hY : (S.extract (A.length + 1) S.size).data.toList = r := by
    rw [ext_list, ← hsp]
    rw [show A.length + 1 = A.length + 1 from rfl, ← List.drop_drop, List.drop_left]
    show List.take _ r = r
    exact List.take_of_length_le (by omega)
  obtain ⟨X, eX⟩ : ∃ X, S.extract 0 A.length = X := ⟨_, rfl⟩
  obtain ⟨Y, eY⟩ : ∃ Y, S.extract (A.length + 1) S.size = Y := ⟨_, rfl⟩
  rw [eX] at hX
  rw [eY] at hY
  obtain ⟨i, hi2⟩ : ∃ i, A.length = i := ⟨_, rfl⟩
  rw [hi2] at hi hln eX eY
  have f1 : (0 : Int) ≤ (i : Int) ∧ (i : Int) ≤ (S.size : Int) := by omega
  have f2 : (0 : Int) ≤ (i : Int) + 1 ∧ (i : Int) + 1 ≤ (S.size : Int) := by omega
  have f4 : (S.size : Int) ≤ 65536 := by omega
  have HI := Lib.hid hi; have HX := Lib.hid hX; have HY := Lib.hid hY
  clear hi hX hY hsp h hln hi2 hs
  have hc : ∀ u, Calls Tryz.prog 65 #[.string S, .string ⟨#[m]⟩] u fun e w' => e = .returned (.tuple #[.string X, .string Y, .bool true]) ∧ Dr u w' := by
    intro u
    go_enter Tryz.func65, Tryz.ntmps65
    go_wp2_with (go_at_call 69; refine (HI.out _).mono ?_; rintro e w' ⟨rfl, rfl⟩)
    go_quiet (fail)
    go_wp2
    go_ret3
    exact ⟨rfl, (Dr.refl _).drewN _⟩
  have HC := Lib.hid hc
  clear hc HI f1 f2 f4 eX eY
  go_enter Tryz.func55, Tryz.ntmps55
  go_wp2_with (go_at_call 65; refine (HC.out _).mono ?_; rintro e w' ⟨rfl, hd⟩)
  go_ret3
  exact ⟨X, Y, rfl, HX.out, HY.out, hd⟩
theorem k_contains (S : ByteArray) (m : UInt8) (w : World) :
    Calls Tryz.prog 68 #[.string S, .string ⟨#[m]⟩] w fun e w' => e = .returned (.bool (decide (∃ x ∈ S.data.toList, x = m))) ∧ w = w' := by
  refine (Tryz.strings_Contains_one S m w).mono ?_
  rintro e w' ⟨rfl, rfl⟩
  rw [index_byte]
  exact ⟨rfl, rfl⟩

/-! ### a name among attributes -/
theorem add_nx (ad : Addr) (i j : Nat) : ad.add (i + (j + 1)) = ⟨(ad.add i).block, (ad.add i).off + (j + 1), none⟩ := by
  unfold Addr.add
  by_cases h : i = 0
  · subst h
    simp
  · simp [h]
    omega
theorem k_has1 (X Y N : ByteArray) (b : Nat) (w : World) (h : w.cell? ⟨b, 0, none⟩ = some (.string N)) :
    Calls Tryz.prog 54 #[.agg #[.string X, .string Y], .pointer (some ⟨b, 0, none⟩)] w fun e w' => e = .returned (.bool (X.data.toList == N.data.toList)) ∧ Fr No w w' := by
  have hlt : b < w.heap.size := World.block_lt_of_cell? _ _ h
  have hne : b ≠ w.heap.size := by omega
  rw [← ba_list, ← ba_list]
  go_enter Tryz.func54, Tryz.ntmps54
  go_wp2
  go_ret
  exact ⟨rfl, (Fr.refl No w).alloc _⟩
theorem k_index (A : Option Addr) (n c : Nat) (l : List (List UInt8 × List UInt8)) (M : Nat → Prop) (N : ByteArray) (b : Nat) (w : World) (hr : RdI 2 AttrI w M A n c l) (h : w.cell? ⟨b, 0, none⟩ = some (.string N)) :
    Calls Tryz.prog 64 #[.slice A n c, .func (.func 54) #[] #[.pointer (some ⟨b, 0, none⟩)]] w fun e w' => ∃ k : Int, e = .returned (.int .i64 k) ∧ decide (0 ≤ k) = l.any (fun a => a.1 == N.data.toList) ∧ -1 ≤ k ∧ k ≤ 9223372036854775807 ∧ Fr No w w' := by
  have hlen := hr.len attr_ok (by omega)
  have htop := hr.top
  have hlt : b < w.heap.size := World.block_lt_of_cell? _ _ h
  have hen : ∀ args w, (callFunc 54 args).run Tryz.prog w = .ok (.enter 54 args) w := fun _ _ => by kernel_rfl
  have H := Lib.hid h; have HLEN := Lib.hid hlen; have HR := Lib.hid hr
  clear h hlen hr
  go_enter Tryz.func64, Tryz.ntmps64
  go_wp2
  go_loopw [8] (fun v wr => ∃ k : Nat, k ≤ n ∧ v = .int .i64 (k : Int) ∧ Fr No w wr ∧ ∀ j (hj : j < k) (hl : j < l.length), (l[j].1 == N.data.toList) = false) (fun v _ => n - (intOf v).toNat)
  case atStart => exact ⟨0, by omega, rfl, Fr.refl _ _, fun j hj => by omega⟩
  case round =>
    obtain ⟨k, hk, rfl, hdr, hall⟩ := hrel
    have HALL := Lib.hid hall
    clear hall
    rcases Nat.lt_or_ge k n with hkn | hge
    · have hkl : k < l.length := by rw [HLEN.out]; exact hkn
      obtain ⟨ad, cs, rfl, ⟨X, Y, rfl, hX, hY⟩, hc⟩ := (HR.out.no attr_ok hdr).at_ attr_ok (by omega) (i := k) hkl
      have c0 := hc 0 _ rfl
      have c1 := hc 1 _ rfl
      rw [add_nx ad] at c1
      obtain ⟨P, hP⟩ : ∃ P, ad.add (k * 2) = P := ⟨_, rfl⟩
      rw [Nat.add_zero, hP] at c0
      rw [hP] at c1
      have hh := fun u (hu : Fr No w u) => k_has1 X Y N b u (hu.cell H.out (fun x => x))
      have e1 : (X.data.toList == N.data.toList) = (l[k].1 == N.data.toList) := by rw [hX]
      rw [e1] at hh
      have hkI : (k : Int) < (n : Int) := by omega
      cases hq : (l[k].1 == N.data.toList) with
      | true =>
        rw [hq] at hh
        have hany : decide (0 ≤ (k : Int)) = l.any (fun a => a.1 == N.data.toList) := by
          rw [decide_eq_true (by omega)]
          symm
          rw [List.any_eq_true]
          exact ⟨l[k], List.getElem_mem _, hq⟩
        have HH := Lib.hid hh; have HANY := Lib.hid hany
        clear hh e1 hc hX hY hq hany
        go_wp2_with (go_at_call 54; refine (HH.out _ hdr).mono ?_; rintro e w2 ⟨rfl, hf2⟩)
        go_ret
        exact ⟨_, rfl, HANY.out, by omega, by omega, hdr.trans hf2⟩
      | false =>
        rw [hq] at hh
        have HH := Lib.hid hh; have HQ := Lib.hid hq
        clear hh e1 hc hX hY hq
        go_wp2_with (go_at_call 54; refine (HH.out _ hdr).mono ?_; rintro e w2 ⟨rfl, hf2⟩)
        go_roundw
        case rel => exact ⟨k + 1, by omega, by go_num, hdr.trans hf2, fun j hj hl => by
          by_cases hjk : j = k
          · subst hjk; exact HQ.out
          · exact HALL.out j (by omega) hl⟩
        case measure => simp [intOf]; omega
    · obtain rfl : k = n := by omega
      have hany : decide (0 ≤ (-1 : Int)) = l.any (fun a => a.1 == N.data.toList) := by
        show false = _
        symm
        rw [List.any_eq_false]
        intro x hx
        obtain ⟨j, hj, rfl⟩ := List.getElem_of_mem hx
        rw [HALL.out j (by rw [← HLEN.out]; exact hj) hj]
        decide
      have HANY := Lib.hid hany
      clear hany
      go_wp2
      go_ret
      exact ⟨_, rfl, HANY.out, by omega, by omega, hdr⟩
theorem k_has (A : Option Addr) (n c : Nat) (l : List (List UInt8 × List UInt8)) (M : Nat → Prop) (N : ByteArray) (w : World) (hr : RdI 2 AttrI w M A n c l) :
    Calls Tryz.prog 39 #[.slice A n c, .string N] w fun e w' => e = .returned (.bool (l.any (fun a => a.1 == N.data.toList))) ∧ Fr No w w' := by
  have hc : ∀ b u, Fr No w u → u.cell? ⟨b, 0, none⟩ = some (.string N) → Calls Tryz.prog 53 #[.slice A n c, .func (.func 54) #[] #[.pointer (some ⟨b, 0, none⟩)]] u fun e w' => e = .returned (.bool (l.any (fun a => a.1 == N.data.toList))) ∧ Fr No u w' := by
    intro b u hu hb
    have hi := k_index A n c l M N b u (hr.no attr_ok hu) hb
    have HI := Lib.hid hi
    clear hi hb
    go_enter Tryz.func53, Tryz.ntmps53
    go_wp2_with (go_at_call 64; refine HI.out.mono ?_; rintro e w' ⟨k, rfl, hk, hk1, hk2, hf⟩)
    go_ret
    exact ⟨rfl, hf⟩
  have HC := Lib.hid hc
  clear hc
  go_enter Tryz.func39, Tryz.ntmps39
  go_wp2_with (go_at_call 53; go_loud (refine (HC.out _ _ ((Fr.refl No w).alloc _) ((Bk.new w _ _).cell 0)).mono ?_; rintro e w' ⟨rfl, hf⟩))
  go_ret
  exact ⟨rfl, ((Fr.refl No w).alloc _).trans hf⟩
end Go.Proofs.YthkbdbgmfolpeaaGreatDoor
