/- Elements of one byte, again and again: may they be? -/
import Derived.Test.YtijlekikmkeihaaDoorEleFill
import Derived.Test.YtijlekikmkeihaaDoorQuietBelow
namespace Go.Proofs.YtijlekikmkeihaaDoor
open Go.RowKit
set_option maxHeartbeats 2000000
set_option linter.unusedVariables false

/-- the statement's own question: may an element of so many of that byte be? -/
theorem k_ask (no : Int) (n g : Nat) (c : UInt8) (w : World) (hn : n ≤ 1000) (hc : w.cell? ⟨g, 0, none⟩ = some (.int .u8 (c.toNat : Int))) (hT : Tabs w) :
    Calls Tryd.prog 21 #[.int .i64 no, .int .i64 (n : Int), .pointer (some ⟨g, 0, none⟩)] w fun e w' => e = .returned (.bool (chkEl no (List.replicate n c) == 0)) ∧ Fr No w w' := by
  have CK := fun (g : Nat) u (hu : Fr No w u) (h : Rd u (some ⟨g, 0, none⟩) n n (u8s (List.replicate n c))) => by
    have hl : (List.replicate n c).length = n := List.length_replicate
    have := el_check_any no (some ⟨g, 0, none⟩) n (List.replicate n c) u (by rw [hl]; exact h) (by omega) (hT.fr hu)
    rw [hl] at this
    exact this
  generalize chkEl no (List.replicate n c) = CE at *
  have CK := Lib.hid CK
  have HC := Lib.hid hc
  have hgl := World.block_lt_of_cell? _ _ hc
  clear hT hc
  go_enter Tryd.func21, Tryd.ntmps21
  go_wp2_with (at_make; go_must (refine mk8 w rfl (.tmp 9) (.tmp 9) rfl .i64 .i64 _ _ n n rfl rfl (by omega) (by omega) (by omega) (by omega) ?_); intro w2 hb2 hf2 hs2; have F2 := Lib.hid hf2; have B2 := Lib.hid hb2; clear hb2 hf2 hs2)
  obtain ⟨G, hG⟩ : ∃ G, w.heap.size = G := ⟨_, rfl⟩
  rw [hG] at B2 ⊢
  go_loopw [13] (fun i wr => ∃ k : Nat, k ≤ n ∧ i = .int .i64 (k : Int) ∧ Bk wr G 5 (u8s (fillL c n k)) ∧ Fr (Just G) w2 wr) (fun i _ => n - (intOf i).toNat)
  case atStart => exact ⟨0, Nat.zero_le _, rfl, by rw [fillL_zero]; exact B2.out, Fr.refl _ _⟩
  case round =>
    obtain ⟨k, hk, rfl, hb, hf⟩ := hrel
    have HB := Lib.hid hb; have HFR := Lib.hid hf
    rcases Nat.lt_or_ge k n with hlt | hge
    · obtain ⟨u, hu⟩ : ∃ u, (u8s (fillL c n k))[k]? = some u := ⟨_, List.getElem?_eq_getElem (by rw [u8s_length, fillL_len _ _ _ hk]; exact hlt)⟩
      have hc : wr.cell? ⟨G, k, none⟩ = some u := by rw [hb.cell]; exact hu
      have hfz := hb.frozen k
      have HS := Lib.hid (fillL_set c n k hlt)
      have hcc := hf.cell (F2.out.cell HC.out (fun x => x)) (fun e => by have e : g = G := e; omega)
      clear hu hb hf
      go_wp2
      go_roundw
      case rel => exact ⟨k + 1, by omega, by go_num, by rw [← HS.out]; exact HB.out.set_ _ _, HFR.out.setCell (p := ⟨G, k, none⟩) (.inl (Just.at G)) _⟩
      case measure => simp [intOf]; omega
    · obtain rfl : k = n := by omega
      have hF := Lib.hid (F2.out.trans_just hf (by rw [hG]; exact Nat.le_refl _))
      have hrd := Lib.hid (fill_rd hb (by omega))
      clear hb hf HFR HB hge
      go_wp2_with (go_at_call 19; refine (CK.out _ _ hF.out hrd.out).mono ?_; rintro e w5 ⟨rfl, f5⟩; have F5 := Lib.hid (hF.out.trans f5); clear f5)
      go_ret
      exact ⟨rfl, F5.out⟩
theorem chk_rep {no : Int} {r : FRow} (c : UInt8) (n : Nat) (hf : elFind no = some r) (hn : n ≠ 0) (hb : fitB r n = true) : chkEl no (List.replicate n c) = if (if r.kind = 1 then isD c else if r.kind = 2 then alnC c else if r.kind = 3 then ansC c else true) = false then 14 else 0 := by
  unfold chkEl
  rw [hf]
  show chkR r (List.replicate n c) = _
  unfold chkR
  rw [List.length_replicate, hb, typ_rep r.kind c n hn]
  rfl
theorem b_zero (b : Bool) : ((if b = false then (14 : Int) else 0) == 0) = b := by cases b <;> rfl
theorem kind_2 (c : UInt8) : (chkEl 2 (List.replicate 12 c) == 0) = isD c := by
  rw [chk_rep (r := ⟨2, 1, 2, 19, false⟩) c 12 (by decide +kernel) (by omega) (by decide +kernel)]
  exact b_zero _
theorem kind_37 (c : UInt8) : (chkEl 37 (List.replicate 12 c) == 0) = alnC c := by
  rw [chk_rep (r := ⟨37, 2, 0, 12, false⟩) c 12 (by decide +kernel) (by omega) (by decide +kernel)]
  exact b_zero _
theorem kind_43 (c : UInt8) : (chkEl 43 (List.replicate 3 c) == 0) = ansC c := by
  rw [chk_rep (r := ⟨43, 3, 2, 40, true⟩) c 3 (by decide +kernel) (by omega) (by decide +kernel)]
  exact b_zero _
theorem kind_120 (c : UInt8) : (chkEl 120 (List.replicate 5 c) == 0) = true := by
  rw [chk_rep (r := ⟨120, 4, 4, 999, true⟩) c 5 (by decide +kernel) (by omega) (by decide +kernel)]
  exact b_zero true
theorem kind_55 (c : UInt8) : (chkEl 55 (List.replicate 1 c) == 0) = true := by
  rw [chk_rep (r := ⟨55, 4, 3, 255, false⟩) c 1 (by decide +kernel) (by omega) (by decide +kernel)]
  exact b_zero true
def kTup (n : Nat) : List Bool := [decide (48 ≤ n), decide (n ≤ 57), decide (65 ≤ n), decide (n ≤ 90), decide (97 ≤ n), decide (n ≤ 122), decide (32 ≤ n), decide (n ≤ 126)]
def kAll : List (List Bool) := [[false, true, false, true, false, true, false, true], [false, true, false, true, false, true, true, true], [true, true, false, true, false, true, true, true], [true, false, false, true, false, true, true, true], [true, false, true, true, false, true, true, true],
  [true, false, true, false, false, true, true, true], [true, false, true, false, true, true, true, true], [true, false, true, false, true, false, true, true], [true, false, true, false, true, false, true, false]]
theorem kTup_in (n : Nat) (h : n < 256) : kTup n ∈ kAll := by
  have h1 : (List.range 256).all (fun n => decide (kTup n ∈ kAll)) = true := by decide +kernel
  exact of_decide_eq_true (List.all_eq_true.1 h1 n (List.mem_range.2 h))
theorem kinds_cases (c : UInt8) : ∃ b1 b2 b3 b4 b5 b6 b7 b8 : Bool, (decide ((48 : Int) ≤ (c.toNat : Int)) = b1 ∧ decide ((c.toNat : Int) ≤ 57) = b2 ∧ decide ((65 : Int) ≤ (c.toNat : Int)) = b3 ∧ decide ((c.toNat : Int) ≤ 90) = b4 ∧ decide ((97 : Int) ≤ (c.toNat : Int)) = b5 ∧ decide ((c.toNat : Int) ≤ 122) = b6 ∧ decide ((32 : Int) ≤ (c.toNat : Int)) = b7 ∧ decide ((c.toNat : Int) ≤ 126) = b8) ∧
    (isD c = (b1 && b2) ∧ alnC c = ((b1 && b2) || ((b3 && b4) || (b5 && b6))) ∧ ansC c = (b7 && b8)) ∧ [b1, b2, b3, b4, b5, b6, b7, b8] ∈ kAll := by
  refine ⟨decide (48 ≤ c.toNat), decide (c.toNat ≤ 57), decide (65 ≤ c.toNat), decide (c.toNat ≤ 90), decide (97 ≤ c.toNat), decide (c.toNat ≤ 122), decide (32 ≤ c.toNat), decide (c.toNat ≤ 126),
    ⟨decide_eq_decide.2 (by omega), decide_eq_decide.2 (by omega), decide_eq_decide.2 (by omega), decide_eq_decide.2 (by omega), decide_eq_decide.2 (by omega), decide_eq_decide.2 (by omega), decide_eq_decide.2 (by omega), decide_eq_decide.2 (by omega)⟩, ⟨?_, ?_, ?_⟩, kTup_in c.toNat c.toNat_lt⟩
  · rfl
  · unfold alnC
    rw [← Bool.decide_and, ← Bool.decide_and, ← Bool.decide_and, ← Bool.decide_or, ← Bool.decide_or]
  · unfold ansC
    rw [← Bool.decide_and]
end Go.Proofs.YtijlekikmkeihaaDoor
