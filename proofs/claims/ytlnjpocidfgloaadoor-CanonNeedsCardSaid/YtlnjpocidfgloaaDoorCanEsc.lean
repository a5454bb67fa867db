/- What package canon does: a text as it stands in a file. -/
import Derived.Test.YtlnjpocidfgloaaDoorCanEscM
import Derived.Test.YtlnjpocidfgloaaDoorBd
import Derived.Test.YtlnjpocidfgloaaDoorDig0
import Derived.Test.YtlnjpocidfgloaaDoorRefTok
import Derived.Laws.RangeAny
namespace Go.Proofs.YtlnjpocidfgloaaDoor
open Go.RowKit
set_option maxHeartbeats 400000
set_option linter.unusedVariables false

def signI (c : Int) : List UInt8 := if c = 38 then [38, 97, 109, 112, 59] else if c = 60 then [38, 108, 116, 59] else if c = 62 then [38, 103, 116, 59] else if c = 34 then [38, 113, 117, 111, 116, 59] else encL c
theorem sign_int (c : Nat) : signI (c : Int) = signL c := by
  have q : ∀ k : Nat, ((c : Int) = (k : Int)) = (c = k) := fun k => by rw [eq_iff_iff]; omega
  have q1 := q 38; have q2 := q 60; have q3 := q 62; have q4 := q 34
  simp only [Int.cast_ofNat_Int] at q1 q2 q3 q4
  unfold signI signL
  simp only [q1, q2, q3, q4]
theorem enc_str (c : Int) : bstr (encL c) = Utf8.encode c := rfl
theorem c_sign_int (c : Int) (w : World) : Calls Tryd.prog 39 #[.int .i32 c] w fun e w' => e = .returned (.string (bstr (signI c))) ∧ w = w' := by
  unfold signI
  by_cases h38 : c = 38
  · subst h38
    go_enter Tryd.func39, Tryd.ntmps39
    go_wp2
    go_ret
    exact ⟨rfl, rfl⟩
  rw [if_neg h38]
  have b38 : (c == 38) = false := by rw [beq_eq_false_iff_ne]; exact h38
  by_cases h60 : c = 60
  · subst h60
    go_enter Tryd.func39, Tryd.ntmps39
    go_wp2
    go_ret
    exact ⟨rfl, rfl⟩
  rw [if_neg h60]
  have b60 : (c == 60) = false := by rw [beq_eq_false_iff_ne]; exact h60
  by_cases h62 : c = 62
  · subst h62
    go_enter Tryd.func39, Tryd.ntmps39
    go_wp2
    go_ret
    exact ⟨rfl, rfl⟩
  rw [if_neg h62]
  have b62 : (c == 62) = false := by rw [beq_eq_false_iff_ne]; exact h62
  by_cases h34 : c = 34
  · subst h34
    go_enter Tryd.func39, Tryd.ntmps39
    go_wp2
    go_ret
    exact ⟨rfl, rfl⟩
  rw [if_neg h34]
  have b34 : (c == 34) = false := by rw [beq_eq_false_iff_ne]; exact h34
  clear h38 h60 h62 h34
  rw [enc_str]
  go_enter Tryd.func39, Tryd.ntmps39
  go_wp2
  go_ret
  exact ⟨rfl, rfl⟩
theorem c_sign_any (c : Nat) (w : World) : Calls Tryd.prog 39 #[.int .i32 (c : Int)] w fun e w' => e = .returned (.string (bstr (signL c))) ∧ w = w' := by
  rw [← sign_int]
  exact c_sign_int _ w
set_option maxHeartbeats 4000000 in
set_option maxRecDepth 100000 in
theorem c_escaped_any (S : ByteArray) (w : World) (hs : S.size ≤ 1000000000) (hu : utf8B S.data.toList = true) :
    Calls Tryd.prog 26 #[.string S] w fun e w' => e = .returned (.string (bstr (escL S.data.toList))) ∧ Fr No w w' := by
  obtain ⟨R, hR⟩ : ∃ R, escL S.data.toList = R := ⟨_, rfl⟩
  have h0 : escL (S.data.toList.drop 0) = R ∧ utf8B (S.data.toList.drop 0) = true := ⟨by rw [List.drop_zero, hR], by rw [List.drop_zero]; exact hu⟩
  rw [hR]
  have H0 := Lib.hid h0
  clear hR hu h0
  go_enter Tryd.func26, Tryd.ntmps26
  go_wp2
  go_loopw [] (fun wr => ∃ (pos : Nat) (acc : List UInt8), Bd wr w.heap.size w.heap.size acc ∧ wr.heap[w.heap.size + 1]? = some (.stringIter S pos) ∧ Below w.heap.size w wr ∧ acc ++ escL (S.data.toList.drop pos) = R ∧ utf8B (S.data.toList.drop pos) = true ∧ acc.length ≤ 6 * pos) (fun wr => S.size - wr.iterPos (w.heap.size + 1))
  case atStart =>
    refine ⟨0, [], (Lib.IsBuilderF.of (Lib.fresh_isBuilder _ _ w)).alloc _, ?_, ((Below.refl _ w).alloc (Nat.le_refl _) _).alloc (by simp) _, H0.out.1, H0.out.2, by simp⟩
    have := World.iter_heap (w.alloc (.cells #[.pointer none, .slice none 0 0] 41)) S 0
    simpa using this
  case round =>
    obtain ⟨pos, acc, hI, hit, hbw, hacc, hv, hal⟩ := hrel
    have hsz : w.heap.size + 1 < wr.heap.size := (Array.getElem?_eq_some_iff.1 hit).1
    by_cases hp : pos < S.size
    · have hnx : ∀ ty, (Instr.next (.pointer (some ⟨w.heap.size + 1, 0, none⟩)) true ty).run Tryd.prog wr = _ := fun ty => Lib.run_next_any_at wr (w.heap.size + 1) S pos ty hit hp
      have hwd := Lib.decode_width_pos S pos hp
      obtain ⟨e1, e2, e3⟩ := esc_next S pos hp hv
      rw [e1, ← List.append_assoc] at hacc
      have hsl := sign_len (Utf8.decode S pos).1
      obtain ⟨C, hC⟩ : ∃ C, (Utf8.decode S pos).1 = C := ⟨_, rfl⟩
      obtain ⟨k, hk⟩ : ∃ k, (Utf8.decode S pos).2 = k := ⟨_, rfl⟩
      rw [hC, hk] at hacc hnx
      rw [hk] at e2 hwd
      rw [hC] at e3 hsl
      have hI2 : Bd (wr.iterAt (w.heap.size + 1) S (pos + k)) w.heap.size w.heap.size acc := Lib.IsBuilderF.iterAt hI hit (pos + k)
      have hit2 := Lib.iterAt_heap wr (w.heap.size + 1) S pos (pos + k) hit
      have hbw2 := Lib.below_iterAt hbw (k := w.heap.size + 1) (by omega) S (pos + k)
      have hsz2 : w.heap.size ≤ (wr.iterAt (w.heap.size + 1) S (pos + k)).heap.size := by rw [Lib.iterAt_size]; omega
      obtain ⟨X, hX⟩ : ∃ X, bstr (signL C) = X := ⟨_, rfl⟩
      have hXl : X.data.toList = signL C := by rw [← hX]; rfl
      have hXs : X.size ≤ 6 := by rw [← size_list, hXl]; exact hsl
      have hsg := fun u => c_sign_any C u
      rw [hX] at hsg
      rw [← hXl] at hacc
      have hwr := fun u (hu : Bd u w.heap.size w.heap.size acc) (hz : w.heap.size ≤ u.heap.size) => sb_write w.heap.size w.heap.size (Lib.byteCells acc) X u hu (by rw [Lib.byteCells_length]; omega) hz
      have HI2 := Lib.hid hI2; have HIT := Lib.hid hit2; have HBW := Lib.hid hbw2; have HACC := Lib.hid hacc; have HV := Lib.hid e2; have HSG := Lib.hid hsg; have HWR := Lib.hid hwr; have HI := Lib.hid hit
      clear hI hbw hacc hv e1 e2 hI2 hit2 hbw2 hsg hwr hX hXl hC hk hit
      go_wp2_with (first
        | (go_at_call 39; refine (HSG.out _).mono ?_; rintro e w1 ⟨rfl, rfl⟩)
        | (go_at_call 38; refine (HWR.out _ HI2.out hsz2).mono ?_; rintro e W1 ⟨rfl, h1, b1, k1⟩))
      go_roundw
      case rel =>
        refine ⟨pos + k, acc ++ X.data.toList, .inr ?_, k1.iter HIT.out (by omega), HBW.out.trans b1, HACC.out, HV.out, by rw [List.length_append, size_list]; omega⟩
        have e1 : Lib.byteCells acc ++ Lib.strCells X = Lib.byteCells (acc ++ X.data.toList) := by unfold Lib.byteCells Lib.strCells; rw [List.map_append]
        rw [← e1]
        exact h1
      case measure =>
        simp only [World.iterPos, k1.iter HIT.out (by omega), HI.out]
        omega
    · have hnx : ∀ ty, (Instr.next (.pointer (some ⟨w.heap.size + 1, 0, none⟩)) true ty).run Tryd.prog wr = _ := fun ty => Lib.run_next_end_at wr (w.heap.size + 1) S pos ty hit hp
      have hnil : S.data.toList.drop pos = [] := List.drop_eq_nil_of_le (by rw [size_list]; omega)
      rw [hnil, show escL [] = [] from rfl, List.append_nil] at hacc
      have hst := fun u (hu : Bd u w.heap.size w.heap.size acc) (hz : w.heap.size ≤ u.heap.size) => k_string w.heap.size w.heap.size acc u hu hz
      rw [hacc] at hst
      have HST := Lib.hid hst; have HI := Lib.hid hI; have HBW := Lib.hid hbw; have HA := Lib.hid hacc
      clear hacc hv hst hI hbw hnil hit
      go_wp2_with (go_at_call 14; refine (HST.out _ (by rw [← HA.out] at *; exact HI.out) (by omega)).mono ?_; rintro e w3 ⟨rfl, h3⟩)
      go_ret
      exact ⟨rfl, Fr.of_below (HBW.out.trans h3)⟩
end Go.Proofs.YtlnjpocidfgloaaDoor
