/- The texts RefDig, RefEle1, joined. -/
import Derived.Test.YtpkalnkeafggjaaGreatDoorK34
import Derived.Test.YtpkalnkeafggjaaGreatDoorK28
import Derived.Test.YtpkalnkeafggjaaGreatDoorK18
import Derived.Great.CaseRows
import Derived.Great.BuildSlice
import Derived.LoopTactic
import Derived.Deep.CutRange
/- The statements' own digits, halves of bytes and signs: what they answer. -/
namespace Go.Proofs.YtpkalnkeafggjaaGreatDoor
open Go.RowKit
set_option maxHeartbeats 400000
set_option linter.unusedVariables false
set_option maxRecDepth 20000

theorem ref_right (s : ByteArray) (low top : Int) (w : World) (hs : s.size ≤ maxLen) :
    Calls Tryz.prog 22 #[.string s, .int .i64 low, .int .i64 top] w fun e w' => e = .returned (.bool (rightB s.data.toList low top)) ∧ w = w' := by
  have hl : s.data.toList.length = s.size := by simp
  unfold maxLen at hs
  go_enter Tryz.func22, Tryz.ntmps22
  go_wp2
  go_loop [7] (fun i => ∃ k : Nat, k ≤ s.size ∧ i = .int .i64 (k : Int) ∧ (s.data.toList.take k).all isD = true) (fun i => s.size - (intOf i).toNat)
  case atStart => exact ⟨0, Nat.zero_le _, rfl, by simp⟩
  case round =>
    obtain ⟨k, hk, rfl, hall⟩ := hrel
    have HA := Lib.hid hall
    have HL := Lib.hid hl
    clear hall hl
    by_cases hlt : k < s.size
    · have HT := Lib.hid (take_snoc s k hlt)
      have hno : isD s[k] = false → rightB s.data.toList low top = false := fun hb => by
        unfold rightB
        rw [show s.data.toList.all isD = false from ?_, Bool.and_false, Bool.and_false]
        rw [← Bool.not_eq_true, List.all_eq_true]
        intro hx
        have := hx s[k] (by rw [at_data s k hlt]; exact List.getElem_mem _)
        rw [hb] at this
        cases this
      have HN := Lib.hid hno
      clear hno
      have hcs : s[k].toNat < 48 ∨ (48 ≤ s[k].toNat ∧ s[k].toNat ≤ 57) ∨ 57 < s[k].toNat := by omega
      rcases hcs with h1 | ⟨h1, h2⟩ | h1
      · go_wp2
        go_ret
        exact ⟨ret_bool (HN.out (isD_false (.inl h1))).symm, rfl⟩
      · have hb : decide ((s[k].toNat : Int) < 48) = false := decide_eq_false (by omega)
        have hb2 : decide (57 < (s[k].toNat : Int)) = false := decide_eq_false (by omega)
        go_wp2
        go_round
        case rel => exact ⟨k + 1, by omega, by go_num, by rw [HT.out, List.all_append, HA.out]; simp [isD_mk h1 h2]⟩
        case measure => simp [intOf]; omega
      · have hb : decide ((s[k].toNat : Int) < 48) = false := decide_eq_false (by omega)
        go_wp2
        go_ret
        exact ⟨ret_bool (HN.out (isD_false (.inr h1))).symm, rfl⟩
    · obtain rfl : k = s.size := by omega
      have hd : s.data.toList.all isD = true := by
        have := HA.out
        rwa [List.take_of_length_le (by simp)] at this
      have hr : rightB s.data.toList low top = (decide (low ≤ (s.size : Int)) && decide ((s.size : Int) ≤ top)) := by
        unfold rightB
        rw [hd, HL.out, Bool.and_true]
      have HR := Lib.hid hr
      clear hd hr
      by_cases h1 : low ≤ (s.size : Int)
      all_goals
        go_wp2
        go_ret
        refine ⟨ret_bool ?_, rfl⟩
        rw [HR.out]
        first
          | (simp [h1]; done)
          | (simp; omega)

theorem ref_number (s : ByteArray) (w : World) (hs : s.size ≤ maxLen) :
    Calls Tryz.prog 46 #[.string s] w fun e w' => e = .returned (.tuple #[.int .u64 (numR s.data.toList : Int), .int .i64 (numE s.data.toList)]) ∧ w = w' := by
  cases hr : rightB s.data.toList 1 18 with
  | false =>
    have e1 : numR s.data.toList = 0 := by simp [numR, hr]
    have e2 : numE s.data.toList = 5 := by simp [numE, hr]
    have E1 := Lib.hid e1
    have E2 := Lib.hid e2
    have HR := Lib.hid hr
    clear e1 e2 hr
    go_enter Tryz.func46, Tryz.ntmps46
    go_wp2_with (go_at_call 22; refine (ref_right _ _ _ _ hs).mono ?_; rw [HR.out]; rintro e w' ⟨rfl, rfl⟩)
    go_ret2
    exact ⟨by rw [E1.out, E2.out]; rfl, rfl⟩
  | true =>
    have e1 : numR s.data.toList = numV s.data.toList := by simp [numR, hr]
    have e2 : numE s.data.toList = 0 := by simp [numE, hr]
    obtain ⟨h1, h2, h3⟩ := rightB_len hr
    have hsz : s.size ≤ 18 := by simp at h2; omega
    have E1 := Lib.hid e1
    have E2 := Lib.hid e2
    have HR := Lib.hid hr
    have HD := Lib.hid h3
    clear e1 e2 hr h1 h2 h3
    go_enter Tryz.func46, Tryz.ntmps46
    go_wp2_with (go_at_call 22; refine (ref_right _ _ _ _ hs).mono ?_; rw [HR.out]; rintro e w' ⟨rfl, rfl⟩)
    go_loop [4, 5] (fun v i => ∃ k : Nat, k ≤ s.size ∧ i = .int .i64 (k : Int) ∧ v = .int .u64 (numV (s.data.toList.take k) : Int)) (fun _ i => s.size - (intOf i).toNat)
    case atStart => exact ⟨0, Nat.zero_le _, rfl, rfl⟩
    case round =>
      obtain ⟨k, hk, rfl, rfl⟩ := hrel
      by_cases hlt : k < s.size
      · have hts := take_snoc s k hlt
        have hn := numV_snoc (s.data.toList.take k) s[k]
        rw [← hts] at hn
        have hb := numV_le (dig_take HD.out k)
        have hb2 := pow_le_18 (k := k) (by omega)
        have hl : (s.data.toList.take k).length = k := by simp; omega
        rw [hl] at hb
        have hb3 : numV (s.data.toList.take k) ≤ 100000000000000000 := by omega
        have hdk : isD s[k] = true := by
          have := List.all_eq_true.1 HD.out s[k] (by rw [at_data s k hlt]; exact List.getElem_mem _)
          exact this
        have hh := half_digit hdk
        have hd2 := isD_true.1 hdk
        rw [hh] at hn
        have HN := Lib.hid hn
        clear hn hts hb hb2 hl hh hdk
        obtain ⟨g1, g2⟩ := hd2
        go_wp2
        go_round
        case rel => exact ⟨k + 1, by omega, by go_num, by rw [HN.out]; congr 1; omega⟩
        case measure => simp [intOf]; omega
      · obtain rfl : k = s.size := by omega
        go_wp2
        go_ret2
        exact ⟨by rw [E1.out, E2.out, List.take_of_length_le (by simp)]; rfl, rfl⟩

theorem wide_step (v k : Nat) : ({ data := #[48] } : ByteArray) ++ bstr (wide v k) = bstr (wide v (k + 1)) := by
  apply ByteArray.ext
  rw [ByteArray.data_append]
  simp [bstr, wide, List.replicate_succ]

theorem ref_digits (v : Nat) (z : Int) (w : World) (hv : v < 18446744073709551616) :
    Calls Tryz.prog 53 #[.int .u64 (v : Int), .int .i64 z] w fun e w' => e = .returned (.tuple #[.string (bstr (textR v z)), .int .i64 (textE v z)]) ∧ Fr No w w' := by
  have hfm := fun w => digits_any v w hv
  have hl := decDigits_len v hv
  have HV := Lib.hid hv
  clear hv
  rcases text_cases v z with ⟨h, e1, e2⟩ | ⟨h, e1, e2⟩ | ⟨h1, h2, h3, e1, e2⟩ | ⟨m, rfl, h1, h2, e1, e2⟩
  · rw [e1, e2]
    clear e1 e2 hfm
    go_enter Tryz.func53, Tryz.ntmps53
    go_wp2
    go_ret2
    exact ⟨rfl, Fr.refl _ _⟩
  · rw [e1, e2]
    clear e1 e2 hfm
    go_enter Tryz.func53, Tryz.ntmps53
    go_wp2
    go_ret2
    exact ⟨rfl, Fr.refl _ _⟩
  · rw [e1, e2]
    have hsz : (bstr (Lib.decDigits v)).size = (Lib.decDigits v).length := bstr_size _
    generalize bstr (Lib.decDigits v) = D at hfm hsz
    rw [← hsz] at h3 hl
    have HF := Lib.hid hfm
    clear e1 e2 hfm hsz
    go_enter Tryz.func53, Tryz.ntmps53
    go_wp2_with (go_at_call 75; refine (HF.out _).mono ?_; rintro e w1 ⟨rfl, hf⟩)
    go_ret2
    exact ⟨rfl, hf⟩
  · rw [e1, e2]
    have hw0 : bstr (Lib.decDigits v) = bstr (wide v 0) := by simp [wide]
    rw [hw0] at hfm
    have hwz : ∀ k, (bstr (wide v k)).size = k + (Lib.decDigits v).length := fun k => by rw [bstr_size, wide_length]
    have hws := wide_step v
    generalize hZ : (fun k => bstr (wide v k)) = Z at *
    have hz1 : ∀ k, bstr (wide v k) = Z k := fun k => by rw [← hZ]
    simp only [hz1] at hfm hwz hws ⊢
    generalize (Lib.decDigits v).length = L at *
    have HF := Lib.hid hfm
    have HZ := Lib.hid hwz
    have HS := Lib.hid hws
    have h0z := hwz 0
    have h0 : (Z 0).size ≤ 20 := by omega
    have h0i : ((Z 0).size : Int) = (L : Int) := by omega
    have hm20 : m ≤ 20 := by omega
    clear e1 e2 hfm hwz hws hw0 hZ hz1
    go_enter Tryz.func53, Tryz.ntmps53
    go_wp2_with (go_at_call 75; refine (HF.out _).mono ?_; rintro e w1 ⟨rfl, hf⟩)
    go_loop [6] (fun x => ∃ k : Nat, k ≤ m ∧ x = .string (Z k)) (fun x => m + L - (match x with | .string s => s.size | _ => 0))
    case atStart => exact ⟨0, Nat.zero_le _, rfl⟩
    case round =>
      obtain ⟨k, hk, rfl⟩ := hrel
      have hkz : ((Z k).size : Int) = (k : Int) + (L : Int) := by have := HZ.out k; omega
      have hkz2 := HZ.out k
      have hkz3 := HZ.out (k + 1)
      have HK := Lib.hid hkz2
      have HK3 := Lib.hid hkz3
      clear hkz2 hkz3
      rcases Nat.lt_or_ge k m with hlt | hge
      · have hs1 := HS.out k
        have HS1 := Lib.hid hs1
        clear hs1
        go_wp2
        go_round
        case rel => exact ⟨k + 1, by omega, by rw [HS1.out]⟩
        case measure =>
          show m + L - (({ data := #[48] } : ByteArray) ++ Z k).size < m + L - (Z k).size
          rw [HS1.out, HK3.out, HK.out]
          omega
      · obtain rfl : k = m := by omega
        go_wp2
        go_ret2
        exact ⟨rfl, hf⟩

/-- what the statements' own sign stands for -/
def sgn (c : UInt8) : UInt8 := if isH c then half c else 16
end Go.Proofs.YtpkalnkeafggjaaGreatDoor
/- The statements' own formats of data elements: contracts. -/
namespace Go.Proofs.YtpkalnkeafggjaaGreatDoor
open Go.RowKit
set_option maxHeartbeats 1000000
set_option linter.unusedVariables false
set_option maxRecDepth 20000

def FRow.fmtR (r : FRow) : Value := .agg #[.int .i64 r.no, .int .i64 r.kind, .int .i64 (r.dig : Int), .int .i64 (r.top : Int)]
def FRow.fcells (r : FRow) : List Value := [.int .i64 r.no, .int .i64 r.kind, .int .i64 (r.dig : Int), .int .i64 (r.top : Int)]
def fmtV : List Value := elT.flatMap FRow.fcells
theorem fmtSize : (Tryz.prog.info? 77).map (·.size) = some 4 := by kernel_rfl
theorem fmtZero : ((Tryz.prog.info? 77).bind (·.zero)).isSome = true := by kernel_rfl
theorem r_form (a b c d : Int) (w : World) : Calls Tryz.prog 84 #[.int .i64 a, .int .i64 b, .int .i64 c, .int .i64 d] w fun en w' => en = .returned (.agg #[.int .i64 a, .int .i64 b, .int .i64 c, .int .i64 d]) ∧ Fr No w w' := by
  have hfa := (Fr.refl No w).alloc (.cells #[.int .i64 a, .int .i64 b, .int .i64 c, .int .i64 d] 77)
  have HFA := Lib.hid hfa
  clear hfa
  go_enter Tryz.func84, Tryz.ntmps84
  go_wp2
  exact bodyPost_ret (v := .agg #[.int .i64 a, .int .i64 b, .int .i64 c, .int .i64 d]) (results_bk (g := w.heap.size) (cs := [.int .i64 a, .int .i64 b, .int .i64 c, .int .i64 d]) Tryz.results84 rfl (Bk.new w _ _) Tryz.underlying77 rfl fmtSize) rfl ⟨rfl, HFA.out⟩
set_option maxRecDepth 20000 in
theorem r_formats (w : World) : Calls Tryz.prog 68 #[] w fun e w' => ∃ g, e = .returned (.slice (some ⟨g, 0, none⟩) 24 24) ∧ Bk w' g 77 fmtV ∧ w.heap.size ≤ g ∧ Fr No w w' := by
  have HK := Lib.hid r_form
  have HF := Lib.hid (Fr.refl No w)
  go_enter Tryz.func68, Tryz.ntmps68
  go_wp2_with (first
    | (go_at_call 84; refine (HK.out _ _ _ _ _).mono ?_; rintro e w1 ⟨rfl, hf1⟩; have HF := Lib.hid (HF.out.trans hf1); clear hf1)
    | (refine Great.wpList_buildRows rfl 103 77 _ 4 (elT.map FRow.fmtR) rfl (fun i => i + 1) _ rfl _ rfl Tryz.underlying103 fmtSize fmtZero (by omega) (by kernel_rfl) (by kernel_rfl) (by kernel_rfl) ?_ ?_ ?_
       · intro v hv; obtain ⟨c, _, rfl⟩ := List.mem_map.1 hv; rfl
       · intro i hi; have hi24 : i < 24 := hi; (have : i = 0 ∨ i = 1 ∨ i = 2 ∨ i = 3 ∨ i = 4 ∨ i = 5 ∨ i = 6 ∨ i = 7 ∨ i = 8 ∨ i = 9 ∨ i = 10 ∨ i = 11 ∨ i = 12 ∨ i = 13 ∨ i = 14 ∨ i = 15 ∨ i = 16 ∨ i = 17 ∨ i = 18 ∨ i = 19 ∨ i = 20 ∨ i = 21 ∨ i = 22 ∨ i = 23 := by omega); rcases this with rfl | rfl | rfl | rfl | rfl | rfl | rfl | rfl | rfl | rfl | rfl | rfl | rfl | rfl | rfl | rfl | rfl | rfl | rfl | rfl | rfl | rfl | rfl | rfl <;> rfl
       have hcc : ((elT.map FRow.fmtR).flatMap fun v => v.cells.toList) = fmtV := rfl
       rw [hcc]))
  go_ret
  exact ⟨_, rfl, Bk.new _ _ _, HF.out.size, HF.out.alloc _⟩
end Go.Proofs.YtpkalnkeafggjaaGreatDoor
