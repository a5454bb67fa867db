/- The statements' own tree that grows: what a Text does. -/
import Derived.Test.YthkjmbkfcnehoaaGreatDoorRefTree1
import Derived.Test.YthkjmbkfcnehoaaGreatDoorRefTokX
namespace Go.Proofs.YthkjmbkfcnehoaaGreatDoor
open Go.RowKit
set_option maxHeartbeats 400000
set_option linter.unusedVariables false

variable {w : World} {base g : Nat} {v1 v2 v3 v4 : Value} {xs : List ByteArray} {G : Gro}
set_option maxHeartbeats 4000000 in
set_option maxRecDepth 20000 in
theorem r_take_text0 (X Y : ByteArray) (A : Option Addr) (n c : Nat) (em : Bool) (t : Tok) (w : World) (hG : GrV w base g v1 v2 v3 v4 xs G) (ho : Okg G) (hk : t.kind = 3) (hY : Y.data.toList = t.text) (hys : Y.size ≤ 9223372036854775806) (h0 : G.opn = []) (ht : topG G = -1) :
    Calls Tryz.prog 19 #[.pointer (some ⟨g, 0, none⟩), .agg #[.int .i64 3, .string X, .string Y, .slice A n c, .bool em]] w fun e w' => e = .returned (.int .i64 (takeE G t)) ∧ Fr (fun i => base ≤ i) w w' ∧ (takeE G t = 0 → GrT w' base g (takeS G t)) := by
  have c1 : ∀ o, (w.alloc o).cell? ⟨g, 1, none⟩ = some v2 := fun o => (hG.bk.no ((Fr.refl No w).alloc o)).cell 1
  obtain ⟨A2, c2, rfl⟩ := hG.none_ h0
  have hq := fun u => r_Blank_any Y u hys
  rw [hY] at hq
  have hS : takeS G t = G := by unfold takeS; rw [if_neg (by omega), if_neg (by omega), if_pos (by omega)]
  rw [hS]
  cases hbl : blankB t.text with
  | true =>
    have hE : takeE G t = 0 := by unfold takeE; rw [if_neg (by omega), if_neg (by omega), if_pos hk, if_neg]; rintro ⟨_, h⟩; exact h hbl
    rw [hE]
    rw [hbl] at hq
    have HQ := Lib.hid hq; have HG := Lib.hid hG
    clear h0 ht hk hY ho hE hbl hS hq hG
    go_enter Tryz.func19, Tryz.ntmps19
    go_wp2_with (go_at_call 33; refine (HQ.out _).mono ?_; rintro e w2 ⟨rfl, rfl⟩)
    go_ret
    exact ⟨rfl, (Fr.refl _ w).alloc _, fun _ => ⟨_, _, _, _, _, HG.out.no ((Fr.refl No w).alloc _)⟩⟩
  | false =>
    have hE : takeE G t = 10 := by unfold takeE; rw [if_neg (by omega), if_neg (by omega), if_pos hk, if_pos]; exact ⟨by omega, by rw [hbl]; exact fun h => by cases h⟩
    rw [hE]
    rw [hbl] at hq
    have HQ := Lib.hid hq
    clear h0 ht hk hY ho hE hbl hS hq hG
    go_enter Tryz.func19, Tryz.ntmps19
    go_wp2_with (go_at_call 33; refine (HQ.out _).mono ?_; rintro e w2 ⟨rfl, rfl⟩)
    go_ret
    exact ⟨rfl, (Fr.refl _ w).alloc _, fun e => by cases e⟩

set_option maxHeartbeats 4000000 in
set_option maxRecDepth 20000 in
theorem r_take_text1 (X Y : ByteArray) (A : Option Addr) (n c : Nat) (em : Bool) (t : Tok) (w : World) (hG : GrV w base g v1 v2 v3 v4 xs G) (ho : Okg G) (hk : t.kind = 3) (hY : Y.data.toList = t.text) (hys : Y.size ≤ 9223372036854775806) {k : Nat} {r : List Int} (hr : G.opn = r ++ [(k : Int)]) (ht : topG G = (k : Int)) (hkl : k < G.l.length) (hsz : ∀ x ∈ xs, x.size + Y.size ≤ 9223372036854775806) :
    Calls Tryz.prog 19 #[.pointer (some ⟨g, 0, none⟩), .agg #[.int .i64 3, .string X, .string Y, .slice A n c, .bool em]] w fun e w' => e = .returned (.int .i64 (takeE G t)) ∧ Fr (fun i => base ≤ i) w w' ∧ (takeE G t = 0 → GrT w' base g (takeS G t)) := by
  have c1 : ∀ o, (w.alloc o).cell? ⟨g, 1, none⟩ = some v2 := fun o => (hG.bk.no ((Fr.refl No w).alloc o)).cell 1
  obtain ⟨b2, c2, rfl, ct, hrl⟩ := hG.top k r hr
  have hxl : xs.length = G.txt.length := by rw [← hG.ex]; simp
  have hkx : k < xs.length := by rw [hxl, ho.txt]; exact hkl
  have hki : k < G.ink.length := by rw [ho.ink]; exact hkl
  obtain ⟨b3, c3, rfl, x3, f3⟩ := hG.at3 hkx
  obtain ⟨b4, c4, rfl, x4, f4⟩ := hG.at4 hki
  have ct0 : ∀ o, (w.alloc o).cell? ⟨b2, r.length, none⟩ = some (.int .i64 (k : Int)) := fun o => ((Fr.refl No w).alloc o).cell ct (fun x => x)
  have hE : takeE G t = 0 := by unfold takeE; rw [if_neg (by omega), if_neg (by omega), if_pos hk, if_neg]; rintro ⟨h, _⟩; omega
  have hq := fun u => r_Blank_any Y u hys
  have hS : takeS G t = { G with txt := G.txt.set k (xs[k] ++ Y).data.toList, ink := G.ink.set k (G.ink[k] || !blankB Y.data.toList) } := by
    have e1 : G.txt[k]? = some xs[k].data.toList := by rw [← hG.ex]; simp [hkx]
    unfold takeS
    rw [if_neg (by omega), if_neg (by omega), if_neg (by omega), ht, Int.toNat_natCast, e1, List.getElem?_eq_getElem hki, app_list, hY]
    rfl
  rw [hE, hS]
  have hsk := hsz xs[k] (List.getElem_mem hkx)
  have htop := ho.top
  have hkI : ¬ (k : Int) < 0 := by omega
  have hxn : xs.length ≤ 500 := by rw [hxl, ho.txt]; exact htop
  have hin : G.ink.length ≤ 500 := by rw [ho.ink]; exact htop
  generalize hxk : xs[k] = Z at *
  generalize hik : G.ink[k] = z at *
  generalize blankB Y.data.toList = bl at *
  have HQ := Lib.hid hq; have HG := Lib.hid hG; have CT := Lib.hid ct
  clear hE hS hq hG hk hY hr ht ho ct hsz x3 f3 x4 f4 hxl
  cases z
  all_goals
    go_enter Tryz.func19, Tryz.ntmps19
    go_wp2
    go_name_world u hu
    have H1 := HG.out.start 3 X Y A n c em _ hu
    clear ct0 c1
    obtain ⟨hG1, hTb, hf1⟩ := H1
    have d1 : u.cell? ⟨g, 1, none⟩ = some _ := hG1.bk.cell 1
    have d2 : u.cell? ⟨g, 2, none⟩ = some _ := hG1.bk.cell 2
    have d3 : u.cell? ⟨g, 3, none⟩ = some _ := hG1.bk.cell 3
    have dk : u.cell? ⟨w.heap.size, 0, none⟩ = some (.int .i64 3) := hTb.cell 0
    have dy : u.cell? ⟨w.heap.size, 2, none⟩ = some (.string Y) := hTb.cell 2
    have dt := hf1.cell CT.out (fun x => x)
    have hwr : IntKind.i64.wrap (r.length : Int) = (r.length : Int) := IntWalk.i64_in _ ⟨by omega, by omega⟩
    go_quiet (fail)
    go_wp2
    go_name_world u3 hu3
    have hdu : Dr u u3 := by rw [← hu3]; exact (Dr.refl u).drewN _
    clear hu3
    refine wp_region_reads 15 (by kernel_rfl) (by kernel_rfl) ?_
    intro u4 hd4
    simp only [List.take_succ_cons, List.take_zero, List.drop_succ_cons, List.drop_zero]
    have hd : Dr u u4 := hdu.trans hd4
    have G4 := hG1.no hd.fr
    have d2 : u4.cell? ⟨g, 2, none⟩ = some _ := G4.bk.cell 2
    have dy : u4.cell? ⟨w.heap.size, 2, none⟩ = some (.string Y) := (hTb.no hd.fr).cell 2
    obtain ⟨b3', c3', e3, x3, f3⟩ := G4.at3 hkx
    injection e3 with e3 _ e3'
    injection e3 with e3
    injection e3 with e3
    subst e3 e3'
    rw [hxk] at x3
    have G5 := G4.set3 (Y := Z ++ Y) hkx
    have hf5 : Fr (fun i => base ≤ i) w (u4.setCell ⟨b3, k, none⟩ (.string (Z ++ Y))) := (hf1.trans hd.fr).no.setCell (p := ⟨b3, k, none⟩) (.inl (G4.o3.lt b3 rfl).1) _
    have hTb5 := (hTb.no hd.fr).fr ((Fr.refl (Just b3) u4).setCell (p := ⟨b3, k, none⟩) (.inl (Just.at b3)) (.string (Z ++ Y))) (fun e => by have e : w.heap.size = b3 := e; have := (HG.out.o3.lt b3 rfl).2; omega)
    have HG5 := Lib.hid G5; have HT5 := Lib.hid hTb5
    clear G5 G4 hG1 hTb hTb5 dt dk hu
    have hkxI : (k : Int) < (xs.length : Int) := by omega
    have hk0 : (0 : Int) ≤ (k : Int) := by omega
    have hcat : ¬ 9223372036854775807 < Z.size + Y.size := by omega
    repeat still_step
    refine wpStill_nil ?_
    go_wp2
    go_name_world u5 hu5
    rw [hu5] at hf5
    have HG6 := HG5.out
    have hTb6 := HT5.out
    rw [hu5] at HG6 hTb6
    clear hu5 HG5 HT5 d2 dy x3 f3
    refine wp_region_reads 18 (by kernel_rfl) (by kernel_rfl) ?_
    intro u6 hd6
    simp only [List.take_succ_cons, List.take_zero, List.drop_succ_cons, List.drop_zero]
    have G6 := HG6.no hd6.fr
    have d3 : u6.cell? ⟨g, 3, none⟩ = some _ := G6.bk.cell 3
    have dy : u6.cell? ⟨w.heap.size, 2, none⟩ = some (.string Y) := (hTb6.no hd6.fr).cell 2
    obtain ⟨b4', c4', e4, x4, f4⟩ := G6.at4 hki
    injection e4 with e4 _ e4'
    injection e4 with e4
    injection e4 with e4
    subst e4 e4'
    have hikI : (k : Int) < (G.ink.length : Int) := by omega
    have hk0 : (0 : Int) ≤ (k : Int) := by omega
    repeat still_step
    try still_call ((HQ.out _).mono (fun e w' h => ⟨h.1, h.2.symm⟩))
    repeat still_step
    refine wpStill_nil ?_
    go_wp2
    go_ret
    rw [app_list] at G6
    have G7 := fun y => GrV.set4 (G := { G with txt := G.txt.set k (Z.data.toList ++ Y.data.toList) }) (y := y) G6 hki
    have hf7 : Fr (fun i => base ≤ i) w u6 := hf5.dr hd6
    have hb4 := (G6.o4.lt b4 rfl).1
    refine ⟨rfl, hf7.setCell (p := ⟨b4, k, none⟩) (.inl hb4) _, ?_⟩
    first
      | exact ⟨_, _, _, _, _, G7 (!bl)⟩
      | exact ⟨_, _, _, _, _, G7 true⟩
end Go.Proofs.YthkjmbkfcnehoaaGreatDoor
