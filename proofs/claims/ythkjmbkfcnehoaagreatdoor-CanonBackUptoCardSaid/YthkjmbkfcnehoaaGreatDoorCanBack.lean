/- CanonBack: what is written is parsed as it was; what is parsed may be written, and is parsed as it was. -/
import Derived.Test.YthkjmbkfcnehoaaGreatDoorParseAll
import Derived.Test.YthkjmbkfcnehoaaGreatDoorCanWr
import Derived.Test.YthkjmbkfcnehoaaGreatDoorCanSize
import Derived.Test.YthkjmbkfcnehoaaGreatDoorCanMt
import Derived.Test.YthkjmbkfcnehoaaGreatDoorHn
namespace Go.Proofs.YthkjmbkfcnehoaaGreatDoor
open Go.RowKit
set_option maxHeartbeats 1000000
set_option linter.unusedVariables false

/-- what a file of right nodes is parsed as -/
theorem back_parse {F : Fo} {ls : List Nod} (h1 : ls = F.flat (-1) 0) (h2 : F.ok) (h3 : F.single = true) (h4 : F.isNil = false) (h5 : F.deep ≤ 32) (h6 : F.size ≤ 500) (hX : F.wr.length ≤ 4096) :
    parseE (bstr F.wr).data.toList = 0 ∧ parseL (bstr F.wr).data.toList = ls := by
  have e : (bstr F.wr).data.toList = F.wr := by simp [bstr]
  rw [e, h1]
  exact Fo.parse h2 h3 h4 h5 h6 hX
/-- what writing them answers, and what that is parsed as -/
theorem back_write (ls : List Nod) (hfit : Fits ls) (hb : rightB ls = true) : ∃ U : ByteArray, U.size ≤ 1000000000000 ∧
    (∀ (A : Option Addr) (n c : Nat) (w : World), RdI 4 NodI w (fun i => i < w.heap.size) A n c ls → n ≤ 1000000 → Tabs w → Calls Tryz.prog 16 #[.slice A n c] w fun e w' => e = .returned (.tuple #[.string U, .int .i64 0]) ∧ Fr No w w') ∧
    (U.size ≤ 4096 → ∀ w, Tabs w → Calls Tryz.prog 8 #[.string U] w (NodesTo ls 0 w)) ∧
    (4096 < U.size → ∀ w, Tabs w → Calls Tryz.prog 8 #[.string U] w (NodesTo [] 4 w)) := by
  obtain ⟨F, h1, h2, h3, h4, h5, h6⟩ := right_forest ((rightB_iff ls).1 hb)
  have hl := hfit.file F h1
  have hz : (bstr F.wr).size = F.wr.length := bstr_size _
  refine ⟨bstr F.wr, by rw [hz]; exact hl, fun A n c w hR hn hT => c_write_yes F ls h1 h3 h4 hb hfit.each hl A n c w hR hn hT, fun hs w hT => ?_, fun hs w hT => ?_⟩
  · obtain ⟨e1, e2⟩ := back_parse h1 h2 h3 h4 h5 h6 (by rw [← hz]; exact hs)
    have := parse_all (bstr F.wr) w (by omega) hT
    rwa [e1, e2] at this
  · have := parse_all (bstr F.wr) w (by omega) hT
    obtain ⟨g1, g2⟩ := tok_far (l := (bstr F.wr).data.toList) (by rw [size_list]; exact hs)
    have hE : parseE (bstr F.wr).data.toList = 4 := by unfold parseE; rw [g1, if_neg (by decide)]
    have hL : parseL (bstr F.wr).data.toList = [] := by unfold parseL; rw [g1, if_neg (by decide)]
    rwa [hE, hL] at this
theorem small_of {ls : List Nod} (h : (ls.map wtN).sum ≤ 1048576) : Fits ls := fits_of h
attribute [local irreducible] yielded in
set_option maxRecDepth 20000 in
theorem back_no_bad (A : Option Addr) (n c : Nat) (S X : ByteArray) (ls L : List Nod) (w : World) (hT : Tabs w) (hR : RdI 4 NodI w (fun i => i < w.heap.size) A n c ls) (hn : n ≤ 100) (hS : S.size ≤ 4000) (haw : ∀ u, Tabs u → Calls Tryz.prog 15 #[] u fun e w' => e = .returned (.bool true) ∧ Fr No u w') (hw : Calls Tryz.prog 16 #[.slice A n c] w fun e w' => e = .returned (.tuple #[.string X, .int .i64 10]) ∧ Fr No w w') (hXm : X.size ≤ 1000000000000) (E : Int) (hE : E ≠ 0) (hps : ∀ u, Tabs u → Calls Tryz.prog 8 #[.string S] u (NodesTo L E u)) :
    Calls Tryz.prog 4 #[.slice A n c, .string S] w fun e w' => e = .returned (.bool true) ∧ Fr No w w' := by
  have hlen := hR.len nod_ok (by omega)
  subst hlen
  have hnI : ¬ (ls.length : Int) > 100 := by omega
  have hn0 : (ls.length : Int) ≤ 9223372036854775807 := by omega
  have hSI : ¬ (S.size : Int) > 4000 := by omega
  have hXI : (X.size : Int) ≤ 1000000000000 := by omega
  have hEJ : (E != 0) = true := by rw [bne_iff_ne]; exact hE
  have HW := Lib.hid hw; have HPS := Lib.hid hps; have HAW := Lib.hid haw
  clear hw hps haw
  have tokW : True := trivial
  have tokQ : True := trivial
  go_enter Tryz.func4, Tryz.ntmps4
  go_wp2_with (first
    | (go_at_call 16; clear tokW; refine HW.out.mono ?_; rintro e w1 ⟨rfl, f1⟩; have F3 := f1)
    | (go_at_call 8; clear tokQ; refine (HPS.out _ (hT.fr F3)).mono ?_; rintro e w4 ⟨v4, rfl, ho4, f4⟩; obtain ⟨A4, c4, rfl, hr4⟩ := nodes_rd ho4; have F4 := F3.trans f4; clear ho4)
    | (go_at_call 15; refine (HAW.out _ (hT.fr F4)).mono ?_; rintro e w5 ⟨rfl, f5⟩; have F5 := F4.trans f5))
  go_ret
  exact ⟨rfl, F5⟩
attribute [local irreducible] yielded in
set_option maxRecDepth 20000 in
theorem back_no_far (A : Option Addr) (n c : Nat) (S X : ByteArray) (ls L : List Nod) (w : World) (hT : Tabs w) (hR : RdI 4 NodI w (fun i => i < w.heap.size) A n c ls) (hn : n ≤ 100) (hS : S.size ≤ 4000) (haw : ∀ u, Tabs u → Calls Tryz.prog 15 #[] u fun e w' => e = .returned (.bool true) ∧ Fr No u w') (hw : Calls Tryz.prog 16 #[.slice A n c] w fun e w' => e = .returned (.tuple #[.string X, .int .i64 10]) ∧ Fr No w w') (hXm : X.size ≤ 1000000000000) (U : ByteArray) (hUm : U.size ≤ 1000000000000) (hps : ∀ u, Tabs u → Calls Tryz.prog 8 #[.string S] u (NodesTo L 0 u)) (hlb : L.length ≤ 1000000) (hw2 : ∀ (A : Option Addr) (n c : Nat) (w : World), RdI 4 NodI w (fun i => i < w.heap.size) A n c L → n ≤ 1000000 → Tabs w → Calls Tryz.prog 16 #[.slice A n c] w fun e w' => e = .returned (.tuple #[.string U, .int .i64 0]) ∧ Fr No w w') (hU : 4096 < U.size) (hp2 : ∀ u, Tabs u → Calls Tryz.prog 8 #[.string U] u (NodesTo [] 4 u)) :
    Calls Tryz.prog 4 #[.slice A n c, .string S] w fun e w' => e = .returned (.bool true) ∧ Fr No w w' := by
  have hlen := hR.len nod_ok (by omega)
  subst hlen
  have hnI : ¬ (ls.length : Int) > 100 := by omega
  have hn0 : (ls.length : Int) ≤ 9223372036854775807 := by omega
  have hSI : ¬ (S.size : Int) > 4000 := by omega
  have hXI : (X.size : Int) ≤ 1000000000000 := by omega
  have hUI : (U.size : Int) ≤ 1000000000000 := by omega
  have hUJ : (U.size : Int) > 4096 := by omega
  have HW := Lib.hid hw; have HPS := Lib.hid hps; have HAW := Lib.hid haw; have HW2 := Lib.hid hw2; have HP2 := Lib.hid hp2; have HLB := Lib.hid hlb
  clear hw hps haw hw2 hp2 hlb
  have tokW : True := trivial
  have tokQ : True := trivial
  go_enter Tryz.func4, Tryz.ntmps4
  go_wp2_with (first
    | (go_at_call 16; clear tokW; refine HW.out.mono ?_; rintro e w1 ⟨rfl, f1⟩; have F3 := f1)
    | (go_at_call 8; clear tokQ; refine (HPS.out _ (hT.fr F3)).mono ?_; rintro e w4 ⟨v4, rfl, ho4, f4⟩; obtain ⟨A4, c4, rfl, hr4⟩ := nodes_rd ho4; have F4 := F3.trans f4; clear ho4)
    | (go_at_call 16; refine (HW2.out _ _ _ _ (hr4.mono nod_ok (fun i hi => hi.2)) HLB.out (hT.fr F4)).mono ?_; rintro e w5 ⟨rfl, f5⟩; have F5 := F4.trans f5)
    | (go_at_call 8; refine (HP2.out _ (hT.fr F5)).mono ?_; rintro e w6 ⟨v6, rfl, ho6, f6⟩; obtain ⟨A6, c6, rfl, hr6⟩ := nodes_rd ho6; have F6 := F5.trans f6; clear ho6)
    | (go_at_call 15; refine (HAW.out _ (hT.fr F6)).mono ?_; rintro e w7 ⟨rfl, f7⟩; have F7 := F6.trans f7))
  go_ret
  exact ⟨rfl, F7⟩
attribute [local irreducible] yielded in
set_option maxRecDepth 20000 in
theorem back_no_near (A : Option Addr) (n c : Nat) (S X : ByteArray) (ls L : List Nod) (w : World) (hT : Tabs w) (hR : RdI 4 NodI w (fun i => i < w.heap.size) A n c ls) (hn : n ≤ 100) (hS : S.size ≤ 4000) (haw : ∀ u, Tabs u → Calls Tryz.prog 15 #[] u fun e w' => e = .returned (.bool true) ∧ Fr No u w') (hw : Calls Tryz.prog 16 #[.slice A n c] w fun e w' => e = .returned (.tuple #[.string X, .int .i64 10]) ∧ Fr No w w') (hXm : X.size ≤ 1000000000000) (U : ByteArray) (hUm : U.size ≤ 1000000000000) (hps : ∀ u, Tabs u → Calls Tryz.prog 8 #[.string S] u (NodesTo L 0 u)) (hlb : L.length ≤ 1000000) (hw2 : ∀ (A : Option Addr) (n c : Nat) (w : World), RdI 4 NodI w (fun i => i < w.heap.size) A n c L → n ≤ 1000000 → Tabs w → Calls Tryz.prog 16 #[.slice A n c] w fun e w' => e = .returned (.tuple #[.string U, .int .i64 0]) ∧ Fr No w w') (hU : U.size ≤ 4096) (hp2 : ∀ u, Tabs u → Calls Tryz.prog 8 #[.string U] u (NodesTo L 0 u)) :
    Calls Tryz.prog 4 #[.slice A n c, .string S] w fun e w' => e = .returned (.bool true) ∧ Fr No w w' := by
  have hlen := hR.len nod_ok (by omega)
  subst hlen
  have hnI : ¬ (ls.length : Int) > 100 := by omega
  have hn0 : (ls.length : Int) ≤ 9223372036854775807 := by omega
  have hSI : ¬ (S.size : Int) > 4000 := by omega
  have hXI : (X.size : Int) ≤ 1000000000000 := by omega
  have hUI : (U.size : Int) ≤ 1000000000000 := by omega
  have hUJ : ¬ (U.size : Int) > 4096 := by omega
  have HW := Lib.hid hw; have HPS := Lib.hid hps; have HAW := Lib.hid haw; have HW2 := Lib.hid hw2; have HP2 := Lib.hid hp2; have HLB := Lib.hid hlb
  clear hw hps haw hw2 hp2 hlb
  have tokW : True := trivial
  have tokQ : True := trivial
  go_enter Tryz.func4, Tryz.ntmps4
  go_wp2_with (first
    | (go_at_call 16; clear tokW; refine HW.out.mono ?_; rintro e w1 ⟨rfl, f1⟩; have F3 := f1)
    | (go_at_call 8; clear tokQ; refine (HPS.out _ (hT.fr F3)).mono ?_; rintro e w4 ⟨v4, rfl, ho4, f4⟩; obtain ⟨A4, c4, rfl, hr4⟩ := nodes_rd ho4; have F4 := F3.trans f4; clear ho4)
    | (go_at_call 16; refine (HW2.out _ _ _ _ (hr4.mono nod_ok (fun i hi => hi.2)) HLB.out (hT.fr F4)).mono ?_; rintro e w5 ⟨rfl, f5⟩; have F5 := F4.trans f5)
    | (go_at_call 8; refine (HP2.out _ (hT.fr F5)).mono ?_; rintro e w6 ⟨v6, rfl, ho6, f6⟩; obtain ⟨A6, c6, rfl, hr6⟩ := nodes_rd ho6; have F6 := F5.trans f6; clear ho6)
    | (go_at_call 15; refine (HAW.out _ (hT.fr F6)).mono ?_; rintro e w7 ⟨rfl, f7⟩; have F7 := F6.trans f7)
    | (go_at_call 10; refine (sameN_any _ _ _ _ _ L _ _ _ (((hr4.no nod_ok f5).no nod_ok f6).no nod_ok f7) (hr6.no nod_ok f7)).mono ?_; rintro e w8 ⟨rfl, f8⟩; have F8 := F7.trans f8))
  go_ret
  exact ⟨rfl, F8⟩
attribute [local irreducible] yielded in
set_option maxRecDepth 20000 in
theorem back_far_bad (A : Option Addr) (n c : Nat) (S X : ByteArray) (ls L : List Nod) (w : World) (hT : Tabs w) (hR : RdI 4 NodI w (fun i => i < w.heap.size) A n c ls) (hn : n ≤ 100) (hS : S.size ≤ 4000) (haw : ∀ u, Tabs u → Calls Tryz.prog 15 #[] u fun e w' => e = .returned (.bool true) ∧ Fr No u w') (hw : Calls Tryz.prog 16 #[.slice A n c] w fun e w' => e = .returned (.tuple #[.string X, .int .i64 0]) ∧ Fr No w w') (hXm : X.size ≤ 1000000000000) (hX : 4096 < X.size) (E : Int) (hE : E ≠ 0) (hps : ∀ u, Tabs u → Calls Tryz.prog 8 #[.string S] u (NodesTo L E u)) :
    Calls Tryz.prog 4 #[.slice A n c, .string S] w fun e w' => e = .returned (.bool true) ∧ Fr No w w' := by
  have hlen := hR.len nod_ok (by omega)
  subst hlen
  have hnI : ¬ (ls.length : Int) > 100 := by omega
  have hn0 : (ls.length : Int) ≤ 9223372036854775807 := by omega
  have hSI : ¬ (S.size : Int) > 4000 := by omega
  have hXI : (X.size : Int) ≤ 1000000000000 := by omega
  have hXJ : ¬ (X.size : Int) ≤ 4096 := by omega
  have hEJ : (E != 0) = true := by rw [bne_iff_ne]; exact hE
  have HW := Lib.hid hw; have HPS := Lib.hid hps; have HAW := Lib.hid haw
  clear hw hps haw
  have tokW : True := trivial
  have tokQ : True := trivial
  go_enter Tryz.func4, Tryz.ntmps4
  go_wp2_with (first
    | (go_at_call 16; clear tokW; refine HW.out.mono ?_; rintro e w1 ⟨rfl, f1⟩; have F3 := f1)
    | (go_at_call 8; clear tokQ; refine (HPS.out _ (hT.fr F3)).mono ?_; rintro e w4 ⟨v4, rfl, ho4, f4⟩; obtain ⟨A4, c4, rfl, hr4⟩ := nodes_rd ho4; have F4 := F3.trans f4; clear ho4)
    | (go_at_call 15; refine (HAW.out _ (hT.fr F4)).mono ?_; rintro e w5 ⟨rfl, f5⟩; have F5 := F4.trans f5))
  go_ret
  exact ⟨rfl, F5⟩
attribute [local irreducible] yielded in
set_option maxRecDepth 20000 in
theorem back_far_far (A : Option Addr) (n c : Nat) (S X : ByteArray) (ls L : List Nod) (w : World) (hT : Tabs w) (hR : RdI 4 NodI w (fun i => i < w.heap.size) A n c ls) (hn : n ≤ 100) (hS : S.size ≤ 4000) (haw : ∀ u, Tabs u → Calls Tryz.prog 15 #[] u fun e w' => e = .returned (.bool true) ∧ Fr No u w') (hw : Calls Tryz.prog 16 #[.slice A n c] w fun e w' => e = .returned (.tuple #[.string X, .int .i64 0]) ∧ Fr No w w') (hXm : X.size ≤ 1000000000000) (hX : 4096 < X.size) (U : ByteArray) (hUm : U.size ≤ 1000000000000) (hps : ∀ u, Tabs u → Calls Tryz.prog 8 #[.string S] u (NodesTo L 0 u)) (hlb : L.length ≤ 1000000) (hw2 : ∀ (A : Option Addr) (n c : Nat) (w : World), RdI 4 NodI w (fun i => i < w.heap.size) A n c L → n ≤ 1000000 → Tabs w → Calls Tryz.prog 16 #[.slice A n c] w fun e w' => e = .returned (.tuple #[.string U, .int .i64 0]) ∧ Fr No w w') (hU : 4096 < U.size) (hp2 : ∀ u, Tabs u → Calls Tryz.prog 8 #[.string U] u (NodesTo [] 4 u)) :
    Calls Tryz.prog 4 #[.slice A n c, .string S] w fun e w' => e = .returned (.bool true) ∧ Fr No w w' := by
  have hlen := hR.len nod_ok (by omega)
  subst hlen
  have hnI : ¬ (ls.length : Int) > 100 := by omega
  have hn0 : (ls.length : Int) ≤ 9223372036854775807 := by omega
  have hSI : ¬ (S.size : Int) > 4000 := by omega
  have hXI : (X.size : Int) ≤ 1000000000000 := by omega
  have hXJ : ¬ (X.size : Int) ≤ 4096 := by omega
  have hUI : (U.size : Int) ≤ 1000000000000 := by omega
  have hUJ : (U.size : Int) > 4096 := by omega
  have HW := Lib.hid hw; have HPS := Lib.hid hps; have HAW := Lib.hid haw; have HW2 := Lib.hid hw2; have HP2 := Lib.hid hp2; have HLB := Lib.hid hlb
  clear hw hps haw hw2 hp2 hlb
  have tokW : True := trivial
  have tokQ : True := trivial
  go_enter Tryz.func4, Tryz.ntmps4
  go_wp2_with (first
    | (go_at_call 16; clear tokW; refine HW.out.mono ?_; rintro e w1 ⟨rfl, f1⟩; have F3 := f1)
    | (go_at_call 8; clear tokQ; refine (HPS.out _ (hT.fr F3)).mono ?_; rintro e w4 ⟨v4, rfl, ho4, f4⟩; obtain ⟨A4, c4, rfl, hr4⟩ := nodes_rd ho4; have F4 := F3.trans f4; clear ho4)
    | (go_at_call 16; refine (HW2.out _ _ _ _ (hr4.mono nod_ok (fun i hi => hi.2)) HLB.out (hT.fr F4)).mono ?_; rintro e w5 ⟨rfl, f5⟩; have F5 := F4.trans f5)
    | (go_at_call 8; refine (HP2.out _ (hT.fr F5)).mono ?_; rintro e w6 ⟨v6, rfl, ho6, f6⟩; obtain ⟨A6, c6, rfl, hr6⟩ := nodes_rd ho6; have F6 := F5.trans f6; clear ho6)
    | (go_at_call 15; refine (HAW.out _ (hT.fr F6)).mono ?_; rintro e w7 ⟨rfl, f7⟩; have F7 := F6.trans f7))
  go_ret
  exact ⟨rfl, F7⟩
attribute [local irreducible] yielded in
set_option maxRecDepth 20000 in
theorem back_far_near (A : Option Addr) (n c : Nat) (S X : ByteArray) (ls L : List Nod) (w : World) (hT : Tabs w) (hR : RdI 4 NodI w (fun i => i < w.heap.size) A n c ls) (hn : n ≤ 100) (hS : S.size ≤ 4000) (haw : ∀ u, Tabs u → Calls Tryz.prog 15 #[] u fun e w' => e = .returned (.bool true) ∧ Fr No u w') (hw : Calls Tryz.prog 16 #[.slice A n c] w fun e w' => e = .returned (.tuple #[.string X, .int .i64 0]) ∧ Fr No w w') (hXm : X.size ≤ 1000000000000) (hX : 4096 < X.size) (U : ByteArray) (hUm : U.size ≤ 1000000000000) (hps : ∀ u, Tabs u → Calls Tryz.prog 8 #[.string S] u (NodesTo L 0 u)) (hlb : L.length ≤ 1000000) (hw2 : ∀ (A : Option Addr) (n c : Nat) (w : World), RdI 4 NodI w (fun i => i < w.heap.size) A n c L → n ≤ 1000000 → Tabs w → Calls Tryz.prog 16 #[.slice A n c] w fun e w' => e = .returned (.tuple #[.string U, .int .i64 0]) ∧ Fr No w w') (hU : U.size ≤ 4096) (hp2 : ∀ u, Tabs u → Calls Tryz.prog 8 #[.string U] u (NodesTo L 0 u)) :
    Calls Tryz.prog 4 #[.slice A n c, .string S] w fun e w' => e = .returned (.bool true) ∧ Fr No w w' := by
  have hlen := hR.len nod_ok (by omega)
  subst hlen
  have hnI : ¬ (ls.length : Int) > 100 := by omega
  have hn0 : (ls.length : Int) ≤ 9223372036854775807 := by omega
  have hSI : ¬ (S.size : Int) > 4000 := by omega
  have hXI : (X.size : Int) ≤ 1000000000000 := by omega
  have hXJ : ¬ (X.size : Int) ≤ 4096 := by omega
  have hUI : (U.size : Int) ≤ 1000000000000 := by omega
  have hUJ : ¬ (U.size : Int) > 4096 := by omega
  have HW := Lib.hid hw; have HPS := Lib.hid hps; have HAW := Lib.hid haw; have HW2 := Lib.hid hw2; have HP2 := Lib.hid hp2; have HLB := Lib.hid hlb
  clear hw hps haw hw2 hp2 hlb
  have tokW : True := trivial
  have tokQ : True := trivial
  go_enter Tryz.func4, Tryz.ntmps4
  go_wp2_with (first
    | (go_at_call 16; clear tokW; refine HW.out.mono ?_; rintro e w1 ⟨rfl, f1⟩; have F3 := f1)
    | (go_at_call 8; clear tokQ; refine (HPS.out _ (hT.fr F3)).mono ?_; rintro e w4 ⟨v4, rfl, ho4, f4⟩; obtain ⟨A4, c4, rfl, hr4⟩ := nodes_rd ho4; have F4 := F3.trans f4; clear ho4)
    | (go_at_call 16; refine (HW2.out _ _ _ _ (hr4.mono nod_ok (fun i hi => hi.2)) HLB.out (hT.fr F4)).mono ?_; rintro e w5 ⟨rfl, f5⟩; have F5 := F4.trans f5)
    | (go_at_call 8; refine (HP2.out _ (hT.fr F5)).mono ?_; rintro e w6 ⟨v6, rfl, ho6, f6⟩; obtain ⟨A6, c6, rfl, hr6⟩ := nodes_rd ho6; have F6 := F5.trans f6; clear ho6)
    | (go_at_call 15; refine (HAW.out _ (hT.fr F6)).mono ?_; rintro e w7 ⟨rfl, f7⟩; have F7 := F6.trans f7)
    | (go_at_call 10; refine (sameN_any _ _ _ _ _ L _ _ _ (((hr4.no nod_ok f5).no nod_ok f6).no nod_ok f7) (hr6.no nod_ok f7)).mono ?_; rintro e w8 ⟨rfl, f8⟩; have F8 := F7.trans f8))
  go_ret
  exact ⟨rfl, F8⟩
attribute [local irreducible] yielded in
set_option maxRecDepth 20000 in
theorem back_near_bad (A : Option Addr) (n c : Nat) (S X : ByteArray) (ls L : List Nod) (w : World) (hT : Tabs w) (hR : RdI 4 NodI w (fun i => i < w.heap.size) A n c ls) (hn : n ≤ 100) (hS : S.size ≤ 4000) (haw : ∀ u, Tabs u → Calls Tryz.prog 15 #[] u fun e w' => e = .returned (.bool true) ∧ Fr No u w') (hw : Calls Tryz.prog 16 #[.slice A n c] w fun e w' => e = .returned (.tuple #[.string X, .int .i64 0]) ∧ Fr No w w') (hXm : X.size ≤ 1000000000000) (hX : X.size ≤ 4096) (hp : ∀ u, Tabs u → Calls Tryz.prog 8 #[.string X] u (NodesTo ls 0 u)) (E : Int) (hE : E ≠ 0) (hps : ∀ u, Tabs u → Calls Tryz.prog 8 #[.string S] u (NodesTo L E u)) :
    Calls Tryz.prog 4 #[.slice A n c, .string S] w fun e w' => e = .returned (.bool true) ∧ Fr No w w' := by
  have hlen := hR.len nod_ok (by omega)
  subst hlen
  have hnI : ¬ (ls.length : Int) > 100 := by omega
  have hn0 : (ls.length : Int) ≤ 9223372036854775807 := by omega
  have hSI : ¬ (S.size : Int) > 4000 := by omega
  have hXI : (X.size : Int) ≤ 1000000000000 := by omega
  have hXJ : (X.size : Int) ≤ 4096 := by omega
  have hEJ : (E != 0) = true := by rw [bne_iff_ne]; exact hE
  have HW := Lib.hid hw; have HPS := Lib.hid hps; have HAW := Lib.hid haw; have HP := Lib.hid hp
  clear hw hps haw hp
  have tokW : True := trivial
  have tokQ : True := trivial
  have tokP : True := trivial
  have tokS : True := trivial
  go_enter Tryz.func4, Tryz.ntmps4
  go_wp2_with (first
    | (go_at_call 16; clear tokW; refine HW.out.mono ?_; rintro e w1 ⟨rfl, f1⟩)
    | (go_at_call 8; clear tokP; refine (HP.out _ (hT.fr f1)).mono ?_; rintro e w2 ⟨v2, rfl, ho2, f2⟩; obtain ⟨A2, c2, rfl, hr2⟩ := nodes_rd ho2; have F2 := f1.trans f2; clear ho2)
    | (go_at_call 10; clear tokS; refine (sameN_any _ _ _ _ _ ls _ _ _ hr2 (hR.no nod_ok F2)).mono ?_; rintro e w3 ⟨rfl, f3⟩; have F3 := F2.trans f3)
    | (go_at_call 8; clear tokQ; refine (HPS.out _ (hT.fr F3)).mono ?_; rintro e w4 ⟨v4, rfl, ho4, f4⟩; obtain ⟨A4, c4, rfl, hr4⟩ := nodes_rd ho4; have F4 := F3.trans f4; clear ho4)
    | (go_at_call 15; refine (HAW.out _ (hT.fr F4)).mono ?_; rintro e w5 ⟨rfl, f5⟩; have F5 := F4.trans f5))
  go_ret
  exact ⟨rfl, F5⟩
attribute [local irreducible] yielded in
set_option maxRecDepth 20000 in
theorem back_near_far (A : Option Addr) (n c : Nat) (S X : ByteArray) (ls L : List Nod) (w : World) (hT : Tabs w) (hR : RdI 4 NodI w (fun i => i < w.heap.size) A n c ls) (hn : n ≤ 100) (hS : S.size ≤ 4000) (haw : ∀ u, Tabs u → Calls Tryz.prog 15 #[] u fun e w' => e = .returned (.bool true) ∧ Fr No u w') (hw : Calls Tryz.prog 16 #[.slice A n c] w fun e w' => e = .returned (.tuple #[.string X, .int .i64 0]) ∧ Fr No w w') (hXm : X.size ≤ 1000000000000) (hX : X.size ≤ 4096) (hp : ∀ u, Tabs u → Calls Tryz.prog 8 #[.string X] u (NodesTo ls 0 u)) (U : ByteArray) (hUm : U.size ≤ 1000000000000) (hps : ∀ u, Tabs u → Calls Tryz.prog 8 #[.string S] u (NodesTo L 0 u)) (hlb : L.length ≤ 1000000) (hw2 : ∀ (A : Option Addr) (n c : Nat) (w : World), RdI 4 NodI w (fun i => i < w.heap.size) A n c L → n ≤ 1000000 → Tabs w → Calls Tryz.prog 16 #[.slice A n c] w fun e w' => e = .returned (.tuple #[.string U, .int .i64 0]) ∧ Fr No w w') (hU : 4096 < U.size) (hp2 : ∀ u, Tabs u → Calls Tryz.prog 8 #[.string U] u (NodesTo [] 4 u)) :
    Calls Tryz.prog 4 #[.slice A n c, .string S] w fun e w' => e = .returned (.bool true) ∧ Fr No w w' := by
  have hlen := hR.len nod_ok (by omega)
  subst hlen
  have hnI : ¬ (ls.length : Int) > 100 := by omega
  have hn0 : (ls.length : Int) ≤ 9223372036854775807 := by omega
  have hSI : ¬ (S.size : Int) > 4000 := by omega
  have hXI : (X.size : Int) ≤ 1000000000000 := by omega
  have hXJ : (X.size : Int) ≤ 4096 := by omega
  have hUI : (U.size : Int) ≤ 1000000000000 := by omega
  have hUJ : (U.size : Int) > 4096 := by omega
  have HW := Lib.hid hw; have HPS := Lib.hid hps; have HAW := Lib.hid haw; have HP := Lib.hid hp; have HW2 := Lib.hid hw2; have HP2 := Lib.hid hp2; have HLB := Lib.hid hlb
  clear hw hps haw hp hw2 hp2 hlb
  have tokW : True := trivial
  have tokQ : True := trivial
  have tokP : True := trivial
  have tokS : True := trivial
  go_enter Tryz.func4, Tryz.ntmps4
  go_wp2_with (first
    | (go_at_call 16; clear tokW; refine HW.out.mono ?_; rintro e w1 ⟨rfl, f1⟩)
    | (go_at_call 8; clear tokP; refine (HP.out _ (hT.fr f1)).mono ?_; rintro e w2 ⟨v2, rfl, ho2, f2⟩; obtain ⟨A2, c2, rfl, hr2⟩ := nodes_rd ho2; have F2 := f1.trans f2; clear ho2)
    | (go_at_call 10; clear tokS; refine (sameN_any _ _ _ _ _ ls _ _ _ hr2 (hR.no nod_ok F2)).mono ?_; rintro e w3 ⟨rfl, f3⟩; have F3 := F2.trans f3)
    | (go_at_call 8; clear tokQ; refine (HPS.out _ (hT.fr F3)).mono ?_; rintro e w4 ⟨v4, rfl, ho4, f4⟩; obtain ⟨A4, c4, rfl, hr4⟩ := nodes_rd ho4; have F4 := F3.trans f4; clear ho4)
    | (go_at_call 16; refine (HW2.out _ _ _ _ (hr4.mono nod_ok (fun i hi => hi.2)) HLB.out (hT.fr F4)).mono ?_; rintro e w5 ⟨rfl, f5⟩; have F5 := F4.trans f5)
    | (go_at_call 8; refine (HP2.out _ (hT.fr F5)).mono ?_; rintro e w6 ⟨v6, rfl, ho6, f6⟩; obtain ⟨A6, c6, rfl, hr6⟩ := nodes_rd ho6; have F6 := F5.trans f6; clear ho6)
    | (go_at_call 15; refine (HAW.out _ (hT.fr F6)).mono ?_; rintro e w7 ⟨rfl, f7⟩; have F7 := F6.trans f7))
  go_ret
  exact ⟨rfl, F7⟩
attribute [local irreducible] yielded in
set_option maxRecDepth 20000 in
theorem back_near_near (A : Option Addr) (n c : Nat) (S X : ByteArray) (ls L : List Nod) (w : World) (hT : Tabs w) (hR : RdI 4 NodI w (fun i => i < w.heap.size) A n c ls) (hn : n ≤ 100) (hS : S.size ≤ 4000) (haw : ∀ u, Tabs u → Calls Tryz.prog 15 #[] u fun e w' => e = .returned (.bool true) ∧ Fr No u w') (hw : Calls Tryz.prog 16 #[.slice A n c] w fun e w' => e = .returned (.tuple #[.string X, .int .i64 0]) ∧ Fr No w w') (hXm : X.size ≤ 1000000000000) (hX : X.size ≤ 4096) (hp : ∀ u, Tabs u → Calls Tryz.prog 8 #[.string X] u (NodesTo ls 0 u)) (U : ByteArray) (hUm : U.size ≤ 1000000000000) (hps : ∀ u, Tabs u → Calls Tryz.prog 8 #[.string S] u (NodesTo L 0 u)) (hlb : L.length ≤ 1000000) (hw2 : ∀ (A : Option Addr) (n c : Nat) (w : World), RdI 4 NodI w (fun i => i < w.heap.size) A n c L → n ≤ 1000000 → Tabs w → Calls Tryz.prog 16 #[.slice A n c] w fun e w' => e = .returned (.tuple #[.string U, .int .i64 0]) ∧ Fr No w w') (hU : U.size ≤ 4096) (hp2 : ∀ u, Tabs u → Calls Tryz.prog 8 #[.string U] u (NodesTo L 0 u)) :
    Calls Tryz.prog 4 #[.slice A n c, .string S] w fun e w' => e = .returned (.bool true) ∧ Fr No w w' := by
  have hlen := hR.len nod_ok (by omega)
  subst hlen
  have hnI : ¬ (ls.length : Int) > 100 := by omega
  have hn0 : (ls.length : Int) ≤ 9223372036854775807 := by omega
  have hSI : ¬ (S.size : Int) > 4000 := by omega
  have hXI : (X.size : Int) ≤ 1000000000000 := by omega
  have hXJ : (X.size : Int) ≤ 4096 := by omega
  have hUI : (U.size : Int) ≤ 1000000000000 := by omega
  have hUJ : ¬ (U.size : Int) > 4096 := by omega
  have HW := Lib.hid hw; have HPS := Lib.hid hps; have HAW := Lib.hid haw; have HP := Lib.hid hp; have HW2 := Lib.hid hw2; have HP2 := Lib.hid hp2; have HLB := Lib.hid hlb
  clear hw hps haw hp hw2 hp2 hlb
  have tokW : True := trivial
  have tokQ : True := trivial
  have tokP : True := trivial
  have tokS : True := trivial
  go_enter Tryz.func4, Tryz.ntmps4
  go_wp2_with (first
    | (go_at_call 16; clear tokW; refine HW.out.mono ?_; rintro e w1 ⟨rfl, f1⟩)
    | (go_at_call 8; clear tokP; refine (HP.out _ (hT.fr f1)).mono ?_; rintro e w2 ⟨v2, rfl, ho2, f2⟩; obtain ⟨A2, c2, rfl, hr2⟩ := nodes_rd ho2; have F2 := f1.trans f2; clear ho2)
    | (go_at_call 10; clear tokS; refine (sameN_any _ _ _ _ _ ls _ _ _ hr2 (hR.no nod_ok F2)).mono ?_; rintro e w3 ⟨rfl, f3⟩; have F3 := F2.trans f3)
    | (go_at_call 8; clear tokQ; refine (HPS.out _ (hT.fr F3)).mono ?_; rintro e w4 ⟨v4, rfl, ho4, f4⟩; obtain ⟨A4, c4, rfl, hr4⟩ := nodes_rd ho4; have F4 := F3.trans f4; clear ho4)
    | (go_at_call 16; refine (HW2.out _ _ _ _ (hr4.mono nod_ok (fun i hi => hi.2)) HLB.out (hT.fr F4)).mono ?_; rintro e w5 ⟨rfl, f5⟩; have F5 := F4.trans f5)
    | (go_at_call 8; refine (HP2.out _ (hT.fr F5)).mono ?_; rintro e w6 ⟨v6, rfl, ho6, f6⟩; obtain ⟨A6, c6, rfl, hr6⟩ := nodes_rd ho6; have F6 := F5.trans f6; clear ho6)
    | (go_at_call 15; refine (HAW.out _ (hT.fr F6)).mono ?_; rintro e w7 ⟨rfl, f7⟩; have F7 := F6.trans f7)
    | (go_at_call 10; refine (sameN_any _ _ _ _ _ L _ _ _ (((hr4.no nod_ok f5).no nod_ok f6).no nod_ok f7) (hr6.no nod_ok f7)).mono ?_; rintro e w8 ⟨rfl, f8⟩; have F8 := F7.trans f8))
  go_ret
  exact ⟨rfl, F8⟩
theorem back_card {S : ByteArray} {ls : List Nod} {A : Option Addr} {n c : Nat} (w : World) (hT : Tabs w) (hR : RdI 4 NodI w (fun i => i < w.heap.size) A n c ls) (hb : (ls.map wtN).sum ≤ 1048576) (hS : S.size ≤ maxLen) :
    Calls Tryz.prog 4 #[.slice A n c, .string S] w fun e w' => e = .returned (.bool true) ∧ Fr No w w' := by
  have htop := hR.top
  have haw := fun u (hu : Tabs u) => awake_can u hu
  by_cases hsm : n ≤ 100 ∧ S.size ≤ 4000
  · obtain ⟨hn, hs⟩ := hsm
    have hps := fun u (hu : Tabs u) => parse_all S u (by omega) hu
    have hl2 := parse_wt S.data.toList
    rw [size_list] at hl2
    have hfit2 : Fits (parseL S.data.toList) := fits_of (by omega)
    have hlb : (parseL S.data.toList).length ≤ 1000000 := by
      have := len_sum wtN (fun x => by unfold wtN; omega) (parseL S.data.toList); omega
    have hsec : parseE S.data.toList = 0 → rightB (parseL S.data.toList) = true := fun h => (rightB_iff _).2 (parse_right h)
    generalize parseL S.data.toList = L at *
    generalize parseE S.data.toList = E at *
    have hfit := fits_of hb
    cases hr : rightB ls with
    | false =>
      have hw := c_write_no ls hr hfit.each A n c _ w hR (by omega) hT
      by_cases hE : E = 0
      · subst hE
        obtain ⟨U, hUm, hw2, h1, h2⟩ := back_write L hfit2 (hsec rfl)
        rcases Nat.lt_or_ge 4096 U.size with hU | hU
        · exact back_no_far A n c S _ ls L w hT hR hn hs haw hw (by decide) U hUm hps hlb hw2 hU (h2 hU)
        · exact back_no_near A n c S _ ls L w hT hR hn hs haw hw (by decide) U hUm hps hlb hw2 hU (h1 hU)
      · exact back_no_bad A n c S _ ls L w hT hR hn hs haw hw (by decide) E hE hps
    | true =>
      obtain ⟨X, hXm, hw0, g1, g2⟩ := back_write ls hfit hr
      have hw := hw0 A n c w hR (by omega) hT
      rcases Nat.lt_or_ge 4096 X.size with hX | hX
      · by_cases hE : E = 0
        · subst hE
          obtain ⟨U, hUm, hw2, h1, h2⟩ := back_write L hfit2 (hsec rfl)
          rcases Nat.lt_or_ge 4096 U.size with hU | hU
          · exact back_far_far A n c S X ls L w hT hR hn hs haw hw hXm hX U hUm hps hlb hw2 hU (h2 hU)
          · exact back_far_near A n c S X ls L w hT hR hn hs haw hw hXm hX U hUm hps hlb hw2 hU (h1 hU)
        · exact back_far_bad A n c S X ls L w hT hR hn hs haw hw hXm hX E hE hps
      · by_cases hE : E = 0
        · subst hE
          obtain ⟨U, hUm, hw2, h1, h2⟩ := back_write L hfit2 (hsec rfl)
          rcases Nat.lt_or_ge 4096 U.size with hU | hU
          · exact back_near_far A n c S X ls L w hT hR hn hs haw hw hXm hX (g1 hX) U hUm hps hlb hw2 hU (h2 hU)
          · exact back_near_near A n c S X ls L w hT hR hn hs haw hw hXm hX (g1 hX) U hUm hps hlb hw2 hU (h1 hU)
        · exact back_near_bad A n c S X ls L w hT hR hn hs haw hw hXm hX (g1 hX) E hE hps
  · have HAW := Lib.hid haw
    clear haw
    simp only [maxLen] at hS
    have hSM : (S.size : Int) ≤ 9223372036854775807 := by omega
    by_cases hn : n ≤ 100
    · have hnI : ¬ (n : Int) > 100 := by omega
      have hSI : (S.size : Int) > 4000 := by omega
      go_enter Tryz.func4, Tryz.ntmps4
      go_wp2_with (go_at_call 15; refine (HAW.out _ hT).mono ?_; rintro e w1 ⟨rfl, f1⟩)
      go_ret
      exact ⟨rfl, f1⟩
    · have hnI : (n : Int) > 100 := by omega
      go_enter Tryz.func4, Tryz.ntmps4
      go_wp2_with (go_at_call 15; refine (HAW.out _ hT).mono ?_; rintro e w1 ⟨rfl, f1⟩)
      go_ret
      exact ⟨rfl, f1⟩
end Go.Proofs.YthkjmbkfcnehoaaGreatDoor
