/- The texts CanEscM, CanEsc, joined. -/
import Derived.Test.YthkjmbkfcnehoaaGreatDoorTxtM
import Derived.Test.YthkjmbkfcnehoaaGreatDoorEscMath
import Derived.Test.YthkjmbkfcnehoaaGreatDoorTokV
import Derived.Test.YthkjmbkfcnehoaaGreatDoorSm
import Derived.Test.YthkjmbkfcnehoaaGreatDoorRefTokX
import Derived.Laws.RangeAny
/- A text, character by character, with four signs written by their names: plain functions on lists of bytes, no program. -/
namespace Go.Proofs.YthkjmbkfcnehoaaGreatDoor
set_option linter.unusedVariables false

set_option maxRecDepth 100000 in
theorem enc_1 {v : Nat} (h : v < 128) : encL (v : Int) = [UInt8.ofNat v] := by
  have hv := enc_valid (c := v) (by omega) (by omega)
  unfold encL Utf8.encode
  simp only [hv, if_true, Int.toNat_natCast]
  rw [if_pos h]
set_option maxRecDepth 100000 in
theorem enc_2 {v : Nat} (h0 : 128 ≤ v) (h : v < 2048) : encL (v : Int) = [UInt8.ofNat (192 + v / 64), UInt8.ofNat (128 + v % 64)] := by
  have hv := enc_valid (c := v) (by omega) (by omega)
  unfold encL Utf8.encode
  simp only [hv, if_true, Int.toNat_natCast]
  rw [if_neg (by omega), if_pos h]
set_option maxRecDepth 100000 in
theorem enc_3 {v : Nat} (h0 : 2048 ≤ v) (h : v < 65536) (hs : ¬ (55296 ≤ v ∧ v ≤ 57343)) : encL (v : Int) = [UInt8.ofNat (224 + v / 4096), UInt8.ofNat (128 + v / 64 % 64), UInt8.ofNat (128 + v % 64)] := by
  have hv := enc_valid (c := v) (by omega) (by omega)
  unfold encL Utf8.encode
  simp only [hv, if_true, Int.toNat_natCast]
  rw [if_neg (by omega), if_neg (by omega), if_pos h]
set_option maxRecDepth 100000 in
theorem enc_4 {v : Nat} (h0 : 65536 ≤ v) (h : v ≤ 1114111) : encL (v : Int) = [UInt8.ofNat (240 + v / 262144), UInt8.ofNat (128 + v / 4096 % 64), UInt8.ofNat (128 + v / 64 % 64), UInt8.ofNat (128 + v % 64)] := by
  have hv := enc_valid (c := v) (by omega) (by omega)
  unfold encL Utf8.encode
  simp only [hv, if_true, Int.toNat_natCast]
  rw [if_neg (by omega), if_neg (by omega), if_neg (by omega)]
theorem ofNat_eq {n : Nat} {b : UInt8} (h : n = b.toNat) : UInt8.ofNat n = b := by subst h; simp
theorem fin_ne {v n least : Nat} (h : finB (some v) n least ≠ 0) : least ≤ v ∧ charB v = true ∧ finB (some v) n least = n := by
  rw [finB_some] at h ⊢
  split at h
  · exact absurd rfl h
  · rename_i h1
    rw [if_neg h1]
    split at h
    · rename_i h2
      rw [if_pos h2]
      exact ⟨by omega, h2, rfl⟩
    · exact absurd rfl h
theorem char_may {v : Nat} (h : charB v = true) : v ≤ 1114111 ∧ ¬ (55296 ≤ v ∧ v ≤ 57343) := by
  unfold charB at h
  rw [decide_eq_true_eq] at h
  omega
/-- a character that may stand: decoded, and written anew, it is its own bytes -/
theorem dec_enc (b : UInt8) (r : List UInt8) (h : sizeB (b :: r) ≠ 0) :
    ∃ v n, Lib.decodeL (b :: r) = (v, n) ∧ sizeB (b :: r) = n ∧ encL (v : Int) = (b :: r).take n ∧ v ≤ 1114111 ∧ (v < 128 → n = 1 ∧ b.toNat = v) ∧ (128 ≤ v → ∀ x ∈ (b :: r).take n, 128 ≤ x.toNat) := by
  rw [Lib.decodeL_N]
  rw [sizeB_cons] at h ⊢
  have hb := b.toNat_lt
  simp only [List.getD_cons_zero, List.getD_cons_succ, List.length_cons]
  unfold Lib.decodeN
  by_cases h1 : b.toNat < 128
  · rw [if_pos h1]
    rw [lead_1 h1, sizeC_some, tl_0] at h ⊢
    obtain ⟨_, _, h4⟩ := fin_ne h
    refine ⟨_, _, rfl, h4, ?_, by omega, fun _ => ⟨rfl, rfl⟩, fun h => by omega⟩
    rw [enc_1 h1, ofNat_eq rfl]
    rfl
  rw [if_neg h1]
  by_cases h2 : (128 ≤ b.toNat ∧ b.toNat < 192) ∨ 248 ≤ b.toNat
  · rw [lead_none h2, sizeC_none] at h
    exact absurd rfl h
  by_cases h3 : b.toNat < 224
  · rw [lead_2 (by omega), sizeC_some] at h ⊢
    cases r with
    | nil => exact absurd rfl h
    | cons c r =>
      have e : (2 : Nat) - 1 = 0 + 1 := rfl
      rw [e, tl_cons, tl_0] at h ⊢
      simp only [List.getD_cons_zero, List.length_cons]
      by_cases hc : c.toNat / 64 = 2
      · rw [if_pos hc] at h ⊢
        obtain ⟨v1, v2, v3⟩ := fin_ne h
        have := char_may v2
        have hcl := c.toNat_lt
        rw [if_pos ⟨by omega, by omega, hc⟩, if_pos v1]
        refine ⟨_, _, rfl, v3, ?_, by omega, fun h => by omega, fun _ x hx => ?_⟩
        · rw [enc_2 (by omega) (by omega), ofNat_eq (b := b) (by omega), ofNat_eq (b := c) (by omega)]
          rfl
        · simp at hx
          rcases hx with rfl | rfl <;> omega
      · rw [if_neg hc, finB_none] at h
        exact absurd rfl h
  by_cases h4 : b.toNat < 240
  · rw [lead_3 (by omega), sizeC_some] at h ⊢
    rw [if_neg (by omega)]
    have e : (3 : Nat) - 1 = 1 + 1 := rfl
    rw [e] at h ⊢
    match r with
    | [] => exact absurd rfl h
    | [c] =>
      rw [tl_cons, tl_nil] at h
      split at h <;> exact absurd rfl h
    | c :: d :: r =>
      rw [tl_cons, tl_cons, tl_0] at h ⊢
      simp only [List.getD_cons_zero, List.getD_cons_succ, List.length_cons]
      by_cases hc : c.toNat / 64 = 2
      · by_cases hd : d.toNat / 64 = 2
        · rw [if_pos hc, if_pos hd] at h ⊢
          obtain ⟨v1, v2, v3⟩ := fin_ne h
          have := char_may v2
          have hcl := c.toNat_lt
          have hdl := d.toNat_lt
          have e1 : (b.toNat % 16 * 64 + c.toNat % 64) * 64 + d.toNat % 64 = b.toNat % 16 * 4096 + c.toNat % 64 * 64 + d.toNat % 64 := by omega
          rw [e1] at v1 v2 v3 ⊢
          rw [if_pos ⟨by omega, ⟨by omega, hc⟩, by omega, hd⟩, if_pos ⟨v1, by omega⟩]
          refine ⟨_, _, rfl, v3, ?_, by omega, fun h => by omega, fun _ x hx => ?_⟩
          · rw [enc_3 (by omega) (by omega) (by omega), ofNat_eq (b := b) (by omega), ofNat_eq (b := c) (by omega), ofNat_eq (b := d) (by omega)]
            rfl
          · simp at hx
            rcases hx with rfl | rfl | rfl <;> omega
        · rw [if_pos hc, if_neg hd, finB_none] at h
          exact absurd rfl h
      · rw [if_neg hc, finB_none] at h
        exact absurd rfl h
  · rw [lead_4 (by omega), sizeC_some] at h ⊢
    rw [if_neg (by omega), if_neg (by omega)]
    have e : (4 : Nat) - 1 = 2 + 1 := rfl
    rw [e] at h ⊢
    match r with
    | [] => exact absurd rfl h
    | [c] =>
      rw [tl_cons, tl_nil] at h
      split at h <;> exact absurd rfl h
    | [c, d] =>
      rw [tl_cons, tl_cons, tl_nil] at h
      split at h
      · split at h <;> exact absurd rfl h
      · exact absurd rfl h
    | c :: d :: f :: r =>
      rw [tl_cons, tl_cons, tl_cons, tl_0] at h ⊢
      simp only [List.getD_cons_zero, List.getD_cons_succ, List.length_cons]
      by_cases hc : c.toNat / 64 = 2
      · by_cases hd : d.toNat / 64 = 2
        · by_cases hf : f.toNat / 64 = 2
          · rw [if_pos hc, if_pos hd, if_pos hf] at h ⊢
            obtain ⟨v1, v2, v3⟩ := fin_ne h
            have := char_may v2
            have hcl := c.toNat_lt
            have hdl := d.toNat_lt
            have hfl := f.toNat_lt
            have e1 : ((b.toNat % 8 * 64 + c.toNat % 64) * 64 + d.toNat % 64) * 64 + f.toNat % 64 = b.toNat % 8 * 262144 + c.toNat % 64 * 4096 + d.toNat % 64 * 64 + f.toNat % 64 := by omega
            rw [e1] at v1 v2 v3 ⊢
            rw [if_pos ⟨by omega, ⟨by omega, hc⟩, ⟨by omega, hd⟩, by omega, hf⟩, if_pos ⟨v1, by omega⟩]
            refine ⟨_, _, rfl, v3, ?_, by omega, fun h => by omega, fun _ x hx => ?_⟩
            · rw [enc_4 (by omega) (by omega), ofNat_eq (b := b) (by omega), ofNat_eq (b := c) (by omega), ofNat_eq (b := d) (by omega), ofNat_eq (b := f) (by omega)]
              rfl
            · simp at hx
              rcases hx with rfl | rfl | rfl | rfl <;> omega
          · rw [if_pos hc, if_pos hd, if_neg hf, finB_none] at h
            exact absurd rfl h
        · rw [if_pos hc, if_neg hd, finB_none] at h
          exact absurd rfl h
      · rw [if_neg hc, finB_none] at h
        exact absurd rfl h
/-- what stands in a file for a character -/
def signL (c : Nat) : List UInt8 := if c = 38 then [38, 97, 109, 112, 59] else if c = 60 then [38, 108, 116, 59] else if c = 62 then [38, 103, 116, 59] else if c = 34 then [38, 113, 117, 111, 116, 59] else encL (c : Int)
theorem sign_esc {l : List UInt8} (hl : l ≠ []) (h : sizeB l ≠ 0) : (Lib.decodeL l).2 = sizeB l ∧ signL (Lib.decodeL l).1 = escL (l.take (sizeB l)) ∧ (Lib.decodeL l).1 ≤ 1114111 := by
  cases l with
  | nil => exact absurd rfl hl
  | cons b r =>
    obtain ⟨v, n, e1, e2, e3, e4, e5, e6⟩ := dec_enc b r h
    rw [e1, e2]
    refine ⟨rfl, ?_, e4⟩
    show signL v = _
    rw [← e3]
    unfold signL
    by_cases h1 : v < 128
    · obtain ⟨rfl, hb⟩ := e5 h1
      rw [enc_1 h1, ofNat_eq hb.symm]
      have q : ∀ k : UInt8, (b = k) ↔ v = k.toNat := fun k => by rw [← hb]; exact UInt8.toNat_inj.symm
      have q1 := q 38; have q2 := q 60; have q3 := q 62; have q4 := q 34
      simp only [UInt8.reduceToNat] at q1 q2 q3 q4
      rw [escL_cons, show escL [] = [] from rfl, List.append_nil]
      unfold escB
      simp only [q1, q2, q3, q4]
    · rw [if_neg (by omega), if_neg (by omega), if_neg (by omega), if_neg (by omega), escL_high]
      rw [e3]
      exact e6 (by omega)
/-- one character further in a text that is one -/
theorem esc_next (s : ByteArray) (i : Nat) (h : i < s.size) (hu : utf8B (s.data.toList.drop i) = true) :
    escL (s.data.toList.drop i) = signL (Utf8.decode s i).1 ++ escL (s.data.toList.drop (i + (Utf8.decode s i).2)) ∧ utf8B (s.data.toList.drop (i + (Utf8.decode s i).2)) = true ∧ (Utf8.decode s i).1 ≤ 1114111 := by
  have hne : s.data.toList.drop i ≠ [] := by
    obtain ⟨b, r, e⟩ := drop_cons (l := s.data.toList) (i := i) (by simpa using h)
    rw [e]; simp
  have h0 : sizeB (s.data.toList.drop i) ≠ 0 ∧ utf8B ((s.data.toList.drop i).drop (sizeB (s.data.toList.drop i))) = true := by
    unfold utf8B at hu ⊢
    rw [cnt_step hne] at hu
    split at hu
    · cases hu
    · rename_i hs
      refine ⟨hs, ?_⟩
      cases hc : cnt ((s.data.toList.drop i).drop (sizeB (s.data.toList.drop i))) with
      | none => rw [hc] at hu; cases hu
      | some x => rfl
  obtain ⟨e1, e2, e3⟩ := sign_esc hne h0.1
  rw [Lib.decodeL_drop] at e1 e2 e3
  refine ⟨?_, ?_, e3⟩
  · conv => lhs; rw [← List.take_append_drop (sizeB (s.data.toList.drop i)) (s.data.toList.drop i), escL_app]
    rw [← e2, ← e1, List.drop_drop]
  · have := h0.2
    rwa [← e1, List.drop_drop] at this
set_option maxRecDepth 100000 in
theorem sign_len (c : Nat) : (signL c).length ≤ 6 := by
  unfold signL
  split
  · simp
  split
  · simp
  split
  · simp
  split
  · simp
  unfold encL Utf8.encode
  simp only
  repeat' split
  all_goals simp
end Go.Proofs.YthkjmbkfcnehoaaGreatDoor
/- What package canon does: a text as it stands in a file. -/
namespace Go.Proofs.YthkjmbkfcnehoaaGreatDoor
open Go.RowKit
set_option maxHeartbeats 400000
set_option linter.unusedVariables false

def signI (c : Int) : List UInt8 := if c = 38 then [38, 97, 109, 112, 59] else if c = 60 then [38, 108, 116, 59] else if c = 62 then [38, 103, 116, 59] else if c = 34 then [38, 113, 117, 111, 116, 59] else encL c
theorem sign_int (c : Nat) : signI (c : Int) = signL c := by
  have q : ∀ k : Nat, ((c : Int) = (k : Int)) = (c = k) := fun k => by rw [eq_iff_iff]; omega
  have q1 := q 38; have q2 := q 60; have q3 := q 62; have q4 := q 34
  simp only [Int.cast_ofNat_Int] at q1 q2 q3 q4
  unfold signI signL
  simp only [q1, q2, q3, q4]
theorem enc_str (c : Int) : bstr (encL c) = Utf8.encode c := rfl
theorem c_sign_int (c : Int) (w : World) : Calls Tryz.prog 69 #[.int .i32 c] w fun e w' => e = .returned (.string (bstr (signI c))) ∧ w = w' := by
  unfold signI
  by_cases h38 : c = 38
  · subst h38
    go_enter Tryz.func69, Tryz.ntmps69
    go_wp2
    go_ret
    exact ⟨rfl, rfl⟩
  rw [if_neg h38]
  have b38 : (c == 38) = false := by rw [beq_eq_false_iff_ne]; exact h38
  by_cases h60 : c = 60
  · subst h60
    go_enter Tryz.func69, Tryz.ntmps69
    go_wp2
    go_ret
    exact ⟨rfl, rfl⟩
  rw [if_neg h60]
  have b60 : (c == 60) = false := by rw [beq_eq_false_iff_ne]; exact h60
  by_cases h62 : c = 62
  · subst h62
    go_enter Tryz.func69, Tryz.ntmps69
    go_wp2
    go_ret
    exact ⟨rfl, rfl⟩
  rw [if_neg h62]
  have b62 : (c == 62) = false := by rw [beq_eq_false_iff_ne]; exact h62
  by_cases h34 : c = 34
  · subst h34
    go_enter Tryz.func69, Tryz.ntmps69
    go_wp2
    go_ret
    exact ⟨rfl, rfl⟩
  rw [if_neg h34]
  have b34 : (c == 34) = false := by rw [beq_eq_false_iff_ne]; exact h34
  clear h38 h60 h62 h34
  rw [enc_str]
  go_enter Tryz.func69, Tryz.ntmps69
  go_wp2
  go_ret
  exact ⟨rfl, rfl⟩
theorem c_sign_any (c : Nat) (w : World) : Calls Tryz.prog 69 #[.int .i32 (c : Int)] w fun e w' => e = .returned (.string (bstr (signL c))) ∧ w = w' := by
  rw [← sign_int]
  exact c_sign_int _ w
set_option maxHeartbeats 4000000 in
set_option maxRecDepth 100000 in
theorem c_escaped_any (S : ByteArray) (w : World) (hs : S.size ≤ 1000000000) (hu : utf8B S.data.toList = true) :
    Calls Tryz.prog 46 #[.string S] w fun e w' => e = .returned (.string (bstr (escL S.data.toList))) ∧ Fr No w w' := by
  obtain ⟨R, hR⟩ : ∃ R, escL S.data.toList = R := ⟨_, rfl⟩
  have h0 : escL (S.data.toList.drop 0) = R ∧ utf8B (S.data.toList.drop 0) = true := ⟨by rw [List.drop_zero, hR], by rw [List.drop_zero]; exact hu⟩
  rw [hR]
  have H0 := Lib.hid h0
  clear hR hu h0
  go_enter Tryz.func46, Tryz.ntmps46
  go_wp2
  go_loopw [] (fun wr => ∃ (pos : Nat) (acc : List UInt8), Bd wr w.heap.size w.heap.size acc ∧ wr.heap[w.heap.size + 1]? = some (.stringIter S pos) ∧ Below w.heap.size w wr ∧ acc ++ escL (S.data.toList.drop pos) = R ∧ utf8B (S.data.toList.drop pos) = true ∧ acc.length ≤ 6 * pos) (fun wr => S.size - wr.iterPos (w.heap.size + 1))
  case atStart =>
    refine ⟨0, [], (Lib.IsBuilderF.of (Lib.fresh_isBuilder _ _ w)).alloc _, ?_, ((Below.refl _ w).alloc (Nat.le_refl _) _).alloc (by simp) _, H0.out.1, H0.out.2, by simp⟩
    have := World.iter_heap (w.alloc (.cells #[.pointer none, .slice none 0 0] 66)) S 0
    simpa using this
  case round =>
    obtain ⟨pos, acc, hI, hit, hbw, hacc, hv, hal⟩ := hrel
    have hsz : w.heap.size + 1 < wr.heap.size := (Array.getElem?_eq_some_iff.1 hit).1
    by_cases hp : pos < S.size
    · have hnx : ∀ ty, (Instr.next (.pointer (some ⟨w.heap.size + 1, 0, none⟩)) true ty).run Tryz.prog wr = _ := fun ty => Lib.run_next_any_at wr (w.heap.size + 1) S pos ty hit hp
      have hwd := Lib.decode_width_pos S pos hp
      obtain ⟨e1, e2, e3⟩ := esc_next S pos hp hv
      rw [e1, ← List.append_assoc] at hacc
      have hsl := sign_len (Utf8.decode S pos).1
      obtain ⟨C, hC⟩ : ∃ C, (Utf8.decode S pos).1 = C := ⟨_, rfl⟩
      obtain ⟨k, hk⟩ : ∃ k, (Utf8.decode S pos).2 = k := ⟨_, rfl⟩
      rw [hC, hk] at hacc hnx
      rw [hk] at e2 hwd
      rw [hC] at e3 hsl
      have hI2 : Bd (wr.iterAt (w.heap.size + 1) S (pos + k)) w.heap.size w.heap.size acc := Lib.IsBuilderF.iterAt hI hit (pos + k)
      have hit2 := Lib.iterAt_heap wr (w.heap.size + 1) S pos (pos + k) hit
      have hbw2 := Lib.below_iterAt hbw (k := w.heap.size + 1) (by omega) S (pos + k)
      have hsz2 : w.heap.size ≤ (wr.iterAt (w.heap.size + 1) S (pos + k)).heap.size := by rw [Lib.iterAt_size]; omega
      obtain ⟨X, hX⟩ : ∃ X, bstr (signL C) = X := ⟨_, rfl⟩
      have hXl : X.data.toList = signL C := by rw [← hX]; rfl
      have hXs : X.size ≤ 6 := by rw [← size_list, hXl]; exact hsl
      have hsg := fun u => c_sign_any C u
      rw [hX] at hsg
      rw [← hXl] at hacc
      have hwr := fun u (hu : Bd u w.heap.size w.heap.size acc) (hz : w.heap.size ≤ u.heap.size) => sb_write w.heap.size w.heap.size (Lib.byteCells acc) X u hu (by rw [Lib.byteCells_length]; omega) hz
      have HI2 := Lib.hid hI2; have HIT := Lib.hid hit2; have HBW := Lib.hid hbw2; have HACC := Lib.hid hacc; have HV := Lib.hid e2; have HSG := Lib.hid hsg; have HWR := Lib.hid hwr; have HI := Lib.hid hit
      clear hI hbw hacc hv e1 e2 hI2 hit2 hbw2 hsg hwr hX hXl hC hk hit
      go_wp2_with (first
        | (go_at_call 69; refine (HSG.out _).mono ?_; rintro e w1 ⟨rfl, rfl⟩)
        | (go_at_call 68; refine (HWR.out _ HI2.out hsz2).mono ?_; rintro e W1 ⟨rfl, h1, b1, k1⟩))
      go_roundw
      case rel =>
        refine ⟨pos + k, acc ++ X.data.toList, .inr ?_, k1.iter HIT.out (by omega), HBW.out.trans b1, HACC.out, HV.out, by rw [List.length_append, size_list]; omega⟩
        have e1 : Lib.byteCells acc ++ Lib.strCells X = Lib.byteCells (acc ++ X.data.toList) := by unfold Lib.byteCells Lib.strCells; rw [List.map_append]
        rw [← e1]
        exact h1
      case measure =>
        simp only [World.iterPos, k1.iter HIT.out (by omega), HI.out]
        omega
    · have hnx : ∀ ty, (Instr.next (.pointer (some ⟨w.heap.size + 1, 0, none⟩)) true ty).run Tryz.prog wr = _ := fun ty => Lib.run_next_end_at wr (w.heap.size + 1) S pos ty hit hp
      have hnil : S.data.toList.drop pos = [] := List.drop_eq_nil_of_le (by rw [size_list]; omega)
      rw [hnil, show escL [] = [] from rfl, List.append_nil] at hacc
      have hst := fun u (hu : Bd u w.heap.size w.heap.size acc) (hz : w.heap.size ≤ u.heap.size) => k_string w.heap.size w.heap.size acc u hu hz
      rw [hacc] at hst
      have HST := Lib.hid hst; have HI := Lib.hid hI; have HBW := Lib.hid hbw; have HA := Lib.hid hacc
      clear hacc hv hst hI hbw hnil hit
      go_wp2_with (go_at_call 27; refine (HST.out _ (by rw [← HA.out] at *; exact HI.out) (by omega)).mono ?_; rintro e w3 ⟨rfl, h3⟩)
      go_ret
      exact ⟨rfl, Fr.of_below (HBW.out.trans h3)⟩
end Go.Proofs.YthkjmbkfcnehoaaGreatDoor
