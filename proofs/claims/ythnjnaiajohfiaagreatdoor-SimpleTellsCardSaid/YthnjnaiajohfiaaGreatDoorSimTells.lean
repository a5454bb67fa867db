/- SimpleTells: the walk. -/
import Derived.Test.YthnjnaiajohfiaaGreatDoorSimAwake
import Derived.Test.YthnjnaiajohfiaaGreatDoorRefSimple
import Derived.Test.YthnjnaiajohfiaaGreatDoorQuietBelow
namespace Go.Proofs.YthnjnaiajohfiaaGreatDoor
open Go.RowKit
set_option maxHeartbeats 4000000
set_option linter.unusedVariables false

theorem two_texts {S T : ByteArray} {l : List UInt8} (h : S.data.toList = l) (k : T.data.toList = l) : (S.toList == T.toList) = true := by
  rw [s_beq, h, k]; simp
theorem childSize {a b c d e f : Value} : (Tryz.prog.info? 24).map (·.size) = some [a, b, c, d, e, f].length := by kernel_rfl
set_option maxRecDepth 100000 in
theorem simTells_walk {s : ByteArray} {v : Nat} {nm : ByteArray} {mn mx ty low top : Int} (w : World) (hT : Tabs w) (hs : s.size ≤ maxLen) (hv : v < 18446744073709551616) :
    Calls Tryz.prog 3 #[.string s, .int .u64 (v : Int), .agg #[.string nm, .int .i64 mn, .int .i64 mx, .int .i64 ty, .int .i64 low, .int .i64 top]] w fun e w' => e = .returned (.bool true) ∧ Fr No w w' := by
  have hb0 : Bk (w.alloc (.cells #[.string nm, .int .i64 mn, .int .i64 mx, .int .i64 ty, .int .i64 low, .int .i64 top] 24)) w.heap.size 24 [.string nm, .int .i64 mn, .int .i64 mx, .int .i64 ty, .int .i64 low, .int .i64 top] := Bk.new w _ _
  have hfa : Fr No w (w.alloc (.cells #[.string nm, .int .i64 mn, .int .i64 mx, .int .i64 ty, .int .i64 low, .int .i64 top] 24)) := (Fr.refl No w).alloc _
  obtain ⟨W, hW⟩ : ∃ W, w.alloc (.cells #[.string nm, .int .i64 mn, .int .i64 mx, .int .i64 ty, .int .i64 low, .int .i64 top] 24) = W := ⟨_, rfl⟩
  rw [hW] at hb0 hfa
  have hTW := hT.fr hfa
  have HFA := Lib.hid hfa
  clear hfa
  rcases Nat.lt_or_ge 600 s.size with hn | hn
  · go_enter Tryz.func3, Tryz.ntmps3
    go_wp2_with (go_at_call 7; refine (sim_awake _ hTW).mono ?_; rintro e w1 ⟨rfl, hf⟩)
    go_ret
    exact ⟨rfl, HFA.out.trans hf⟩
  · have h6 : s.size ≤ 65536 := by omega
    have a1 := fun u => s_timetext_any s u hs
    have a2 := fun u => r_timetext s u hs
    have a3 := fun u => s_timeof_any s u hs
    have a4 := fun u => r_timeof s u hs
    have a5 := fun u (h : Tabs u) => s_amtof_any s u h6 h
    have a6 := fun u => r_amtof s u h6
    have a7 := fun u (h : Tabs u) => s_amttext_any v u hv h
    have a8 := fun u => r_amttext v u hv
    have a9 := fun u => below_dr (s_time_any s u hs)
    have b1 := fun u => below_dr (r_time s u hs)
    have b2 := fun u (h : Tabs u) => below_of (s_check_any (nm := nm) (mn := mn) (mx := mx) (ty := ty) (low := low) (top := top) s u h6 h)
    have b3 := fun u => below_of (r_simple (nm := nm) (mn := mn) (mx := mx) (ty := ty) (low := low) (top := top) s u h6)
    have b0 := fun u (h : Tabs u) => below_of (sim_awake u h)
    generalize timeTextE s.data.toList = x1 at a1 a2
    generalize timeTextR s.data.toList = y1 at a1 a2
    generalize timeOfE s.data.toList = x2 at a3 a4
    generalize timeOfR s.data.toList = y2 at a3 a4
    generalize amtOfE s.data.toList = x3 at a5 a6
    generalize amtOfR s.data.toList = y3 at a5 a6
    generalize amtE v = x4 at a7 a8
    generalize amtR v = y4 at a7 a8
    generalize timeB s.data.toList = x5 at a9 b1
    generalize chkE ty low top s.data.toList = x6 at b2 b3
    have A1 := Lib.hid a1; have A2 := Lib.hid a2; have A3 := Lib.hid a3; have A4 := Lib.hid a4; have A5 := Lib.hid a5; have A6 := Lib.hid a6; have A7 := Lib.hid a7; have A8 := Lib.hid a8; have A9 := Lib.hid a9; have B1 := Lib.hid b1; have B2 := Lib.hid b2; have B3 := Lib.hid b3; have B0 := Lib.hid b0
    clear a1 a2 a3 a4 a5 a6 a7 a8 a9 b1 b2 b3 b0 hs
    have HB := Lib.hid hb0
    clear hb0
    go_enter Tryz.func3, Tryz.ntmps3
    go_wp2_with (first
      | (go_at_call 8; refine (A1.out _).mono ?_; rintro e w1 ⟨T1, rfl, q1, d1⟩)
      | (go_at_call 9; refine (A2.out _).mono ?_; rintro e w2 ⟨U1, rfl, q2, d2⟩; (have z1 := two_texts q1 q2); clear q1 q2)
      | (go_at_call 10; refine (A3.out _).mono ?_; rintro e w3 ⟨T2, rfl, q1, d3⟩)
      | (go_at_call 11; refine (A4.out _).mono ?_; rintro e w4 ⟨U2, rfl, q2, d4⟩; (have z2 := two_texts q1 q2); clear q1 q2; (have f4 := ((d1.trans d2).trans (d3.trans d4)).fr (S := No)); (have t4 := hTW.fr f4))
      | (go_at_call 12; refine (A5.out _ t4).mono ?_; rintro e w5 ⟨rfl, f5⟩; (have t5 := t4.fr f5))
      | (go_at_call 13; refine (A6.out _).mono ?_; rintro e w6 ⟨rfl, f6⟩; (have t6 := t5.fr f6))
      | (go_at_call 14; refine (A7.out _ t6).mono ?_; rintro e w7 ⟨T3, rfl, q1, f7⟩; (have t7 := t6.fr f7))
      | (go_at_call 15; refine (A8.out _).mono ?_; rintro e w8 ⟨U3, rfl, q2, f8⟩; (have z3 := two_texts q1 q2); clear q1 q2; (have t8 := t7.fr f8); (have f9 := (((f4.trans f5).trans f6).trans f7).trans f8)))
    have HQ := Lib.hid (show ∀ w' : World, (∃ p : Regrown, w' = Go.Sort.grow (redrawn w8 p.d) p.os) → w'.rangeAt w.heap.size 0 [.string nm, .int .i64 mn, .int .i64 mx, .int .i64 ty, .int .i64 low, .int .i64 top] from fun w' ⟨p, hp⟩ j u hu => by
      rw [hp, Nat.zero_add, (HB.out.no (f9.trans (fr_regrown w8 p.d p.os))).cell j]; exact hu)
    refine wp_region_quiet_below (by kernel_rfl) (by kernel_rfl) ?_
    repeat (first
      | (refine quiet_load 24 _ rfl (by rfl) w.heap.size (by rfl) _ _ HQ.out (Tryz.underlying24) rfl childSize ?_)
      | quiet_step ((first
        | (go_at_call 7; exact Calls.regrown_of (B0.out _ (t8.fr (fr_regrown _ _ _))))
        | (go_at_call 16; exact Calls.regrown_of (A9.out _))
        | (go_at_call 17; exact Calls.regrown_of (B1.out _))
        | (go_at_call 18; exact Calls.regrown_of (B2.out _ (t8.fr (fr_regrown _ _ _))))
        | (go_at_call 19; exact Calls.regrown_of (B3.out _)))))
    refine wpQuiet_nil ?_
    intro w9 hw9r
    obtain ⟨⟨nr, osr⟩, hw9r⟩ := hw9r
    have hf9 : Fr No w8 w9 := by rw [hw9r]; exact fr_regrown w8 nr osr
    clear hw9r
    go_wp2
    go_ret
    exact ⟨rfl, (HFA.out.trans f9).trans hf9⟩
end Go.Proofs.YthnjnaiajohfiaaGreatDoor
