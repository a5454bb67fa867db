/- DigitsTell: any text as digits, a number, halves of bytes, and signs; any number as digits; any bytes likewise: the walk, for every input. -/
import Derived.Test.YtbaadbegnckbpaaDoorDigAwake
import Derived.Test.YtbaadbegnckbpaaDoorRefDig3
namespace Go.Proofs.YtbaadbegnckbpaaDoor
open Go.RowKit
set_option maxHeartbeats 400000
set_option linter.unusedVariables false

set_option maxRecDepth 100000 in
theorem tell_short {s : ByteArray} {low top : Int} {v : Nat} {z : Int} {A : Option Addr} {n c : Nat} (w : World) (h : 300 < s.size ∨ 300 < n) :
    Calls Tryd.prog 3 #[.string s, .int .i64 low, .int .i64 top, .int .u64 (v : Int), .int .i64 z, .slice A n c] w fun e w' => e = .returned (.bool true) ∧ Fr No w w' := by
  by_cases hs : 300 < s.size
  · go_enter Tryd.func3, Tryd.ntmps3
    go_wp2_with (go_at_call 6; refine (awake_any _).mono ?_; rintro e w1 ⟨rfl, hf⟩)
    go_ret
    exact ⟨rfl, hf⟩
  · have hn : 300 < n := by omega
    go_enter Tryd.func3, Tryd.ntmps3
    go_wp2_with (go_at_call 6; refine (awake_any _).mono ?_; rintro e w1 ⟨rfl, hf⟩)
    go_ret
    exact ⟨rfl, hf⟩

set_option maxRecDepth 100000 in
set_option maxHeartbeats 4000000 in
theorem tell_walk {s : ByteArray} {low top : Int} {v : Nat} {z : Int} {A : Option Addr} {n c : Nat} {l : List UInt8} (w : World) (htab : Tab w) (hs : s.size ≤ maxLen) (hlow : (Lit.int .i64 low).wf = true) (htop : (Lit.int .i64 top).wf = true) (hv : v < 18446744073709551616) (hz : (Lit.int .i64 z).wf = true) (ha : Rd w A n c (u8s l)) :
    Calls Tryd.prog 3 #[.string s, .int .i64 low, .int .i64 top, .int .u64 (v : Int), .int .i64 z, .slice A n c] w fun e w' => e = .returned (.bool true) ∧ Fr No w w' := by
  by_cases hbig : 300 < s.size ∨ 300 < n
  · exact tell_short w hbig
  have hs1 : s.size ≤ 300 := by omega
  have hs2 : s.size ≤ 140737488355328 := by omega
  have hn1 : n ≤ 300 := by omega
  have hn2 : n ≤ 65536 := by omega
  have c1 := fun w => number_any s w hs
  have c2 := fun w => ref_number s w hs
  have c3 := fun w h => text_any v z w hv h
  have c4 := fun w => ref_digits v z w hv
  have c5 := fun w => bcd_any s w hs
  have c6 := fun w => ref_bcd s w hs
  have c7 := fun w h => unbcd_any A n c l low w h hn2
  have c8 := fun w h => ref_unbcd A n c l low w h hn2
  have c9 := fun w => unhex_any s w hs2
  have c10 := fun w => ref_unhex s w hs2
  have c11 := fun w h => hex_all A n c l w h hn2
  have c12 := fun w h => ref_hex A n c l w h hn2
  have c13 := fun w => right_any s low top w hs
  have c14 := fun w => ref_right s low top w hs
  generalize (numR s.data.toList) = X1 at c1 c2
  generalize (numE s.data.toList) = X2 at c1 c2
  generalize bstr (textR v z) = X3 at c3 c4
  generalize (textE v z) = X4 at c3 c4
  generalize bcdR s.data.toList = X5 at c5 c6
  generalize bcdE s.data.toList = X6 at c5 c6
  generalize bstr (unbcdR l low) = X7 at c7 c8
  generalize unbcdE l low = X8 at c7 c8
  generalize unhexR s.data.toList = X9 at c9 c10
  generalize unhexE s.data.toList = X10 at c9 c10
  generalize bstr (hexL l) = X11 at c11 c12
  generalize rightB s.data.toList low top = X12 at c13 c14
  have hb5 : (X5 == X5) = true := by simp
  have hb9 : (X9 == X9) = true := by simp
  have HB5 := Lib.hid hb5
  have HB9 := Lib.hid hb9
  have C1 := Lib.hid c1; have C2 := Lib.hid c2; have C3 := Lib.hid c3; have C4 := Lib.hid c4; have C5 := Lib.hid c5; have C6 := Lib.hid c6; have C7 := Lib.hid c7
  have C8 := Lib.hid c8; have C9 := Lib.hid c9; have C10 := Lib.hid c10; have C11 := Lib.hid c11; have C12 := Lib.hid c12; have C13 := Lib.hid c13; have C14 := Lib.hid c14
  have HV := Lib.hid hv
  clear c1 c2 c3 c4 c5 c6 c7 c8 c9 c10 c11 c12 c13 c14 hb5 hb9 hbig hv
  go_enter Tryd.func3, Tryd.ntmps3
  go_wp2_with (first
    | (go_at_call 7; refine (C1.out _).mono ?_; rintro e wn ⟨rfl, rfl⟩)
    | (go_at_call 8; refine (C2.out _).mono ?_; rintro e wm ⟨rfl, rfl⟩)
    | (go_at_call 9; refine (C3.out _ htab).mono ?_; rintro e w1 ⟨rfl, hf1⟩)
    | (go_at_call 10; refine (C4.out _).mono ?_; rintro e w2 ⟨rfl, hf2⟩)
    | (go_at_call 11; refine (C5.out _).mono ?_; rintro e w3 ⟨v3, rfl, ho3, hf3⟩; obtain ⟨P3, d3, rfl, hr3, _⟩ := Rd.of_own ho3)
    | (go_at_call 12; refine (C6.out _).mono ?_; rintro e w4 ⟨v4, rfl, ho4, hf4⟩; obtain ⟨P4, d4, rfl, hr4, _⟩ := Rd.of_own ho4; have hF4 := ((hf1.trans hf2).trans hf3).trans hf4; clear ho3 ho4)
    | (go_at_call 13; refine (C7.out _ (ha.no hF4)).mono ?_; rintro e w5 ⟨rfl, hf5⟩)
    | (go_at_call 14; refine (C8.out _ ((ha.no hF4).no hf5)).mono ?_; rintro e w6 ⟨rfl, hf6⟩)
    | (go_at_call 15; refine (C9.out _).mono ?_; rintro e w7 ⟨v7, rfl, ho7, hf7⟩; obtain ⟨P7, d7, rfl, hr7, _⟩ := Rd.of_own ho7)
    | (go_at_call 16; refine (C10.out _).mono ?_; rintro e w8 ⟨v8, rfl, ho8, hf8⟩; obtain ⟨P8, d8, rfl, hr8, _⟩ := Rd.of_own ho8; have hF8 := ((hf5.trans hf6).trans hf7).trans hf8; clear ho7 ho8)
    | (go_at_call 6; refine (awake_any _).mono ?_; rintro e w9 ⟨rfl, hf9⟩; have hF9 := hF8.trans hf9)
    | (go_at_call 17; refine (C13.out _).mono ?_; rintro e wr ⟨rfl, rfl⟩)
    | (go_at_call 18; refine (C14.out _).mono ?_; rintro e wr2 ⟨rfl, rfl⟩)
    | (go_at_call 19; ((with_reducible refine (bytes_any P3 P4 _ _ _ _ _ _ _ ((hr3.no hf4).no hF9) (hr4.no hF9)).mono ?_); rw [HB5.out]; rintro e wx ⟨rfl, rfl⟩))
    | (go_at_call 19; ((with_reducible refine (bytes_any P7 P8 _ _ _ _ _ _ _ ((hr7.no hf8).no hf9) (hr8.no hf9)).mono ?_); rw [HB9.out]; rintro e wy ⟨rfl, rfl⟩))
    | (go_at_call 20; refine (C11.out _ ((ha.no hF4).no hF9)).mono ?_; rintro e wa ⟨rfl, hfa⟩)
    | (go_at_call 21; refine (C12.out _ (((ha.no hF4).no hF9).no hfa)).mono ?_; rintro e wb ⟨rfl, hfb⟩))
  go_ret
  exact ⟨rfl, (((hF4.trans hF9).trans hfa).trans hfb)⟩
end Go.Proofs.YtbaadbegnckbpaaDoor
