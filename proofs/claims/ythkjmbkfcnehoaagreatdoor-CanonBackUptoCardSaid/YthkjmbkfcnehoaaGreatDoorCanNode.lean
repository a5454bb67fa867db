/- What package canon's writer does: a node, and what stands in it. -/
import Derived.Test.YthkjmbkfcnehoaaGreatDoorCanW
import Derived.Test.YthkjmbkfcnehoaaGreatDoorCanNams
import Derived.Test.YthkjmbkfcnehoaaGreatDoorCanEscs
import Derived.Test.YthkjmbkfcnehoaaGreatDoorCanM
import Derived.Test.YthkjmbkfcnehoaaGreatDoorHn
import Derived.Test.YthkjmbkfcnehoaaGreatDoorSm
import Derived.Deep.CutBlock
import Derived.Deep.RegionHeld3
namespace Go.Proofs.YthkjmbkfcnehoaaGreatDoor
open Go.RowKit
set_option maxHeartbeats 400000
set_option linter.unusedVariables false

/-- behind a node's first steps: its own cells, laid anew, and the places of those in it -/
def NodeAt (w : World) (q0 : Int) (i : Nat) (ls : List Nod) (X Y : ByteArray) (A1 : Option Addr) (n1 c1 : Nat) (av kv : Value) (wx : World) : Prop :=
  ∃ b, av = .pointer (some ⟨b, 0, none⟩) ∧ Bk wx b 32 [.int .i64 q0, .string X, .string Y, .slice A1 n1 c1] ∧ w.heap.size ≤ b ∧
    wx.ownsRow w.heap.size 3 1 kv (kidsL ls (i : Int)).length (ints (natI (kidsL ls (i : Int)))) ∧ kv.ownBlock ≠ some b ∧ Fr No w wx
theorem four {w w1 : World} (h : Fr No w w1) (a b c d : Value) : Fr No w ((((w1.setCell ⟨w.heap.size, 0, none⟩ a).setCell ⟨w.heap.size, 1, none⟩ b).setCell ⟨w.heap.size, 2, none⟩ c).setCell ⟨w.heap.size, 3, none⟩ d) :=
  (((h.setCell (p := ⟨w.heap.size, 0, none⟩) (.inr (Nat.le_refl _)) a).setCell (p := ⟨w.heap.size, 1, none⟩) (.inr (Nat.le_refl _)) b).setCell (p := ⟨w.heap.size, 2, none⟩) (.inr (Nat.le_refl _)) c).setCell (p := ⟨w.heap.size, 3, none⟩) (.inr (Nat.le_refl _)) d
section
variable {w w1 : World} {q0 : Int} {i : Nat} {ls : List Nod} {X Y : ByteArray} {A1 : Option Addr} {n1 c1 : Nat} {vk : Value}
theorem nodeAt_a (F1 : Fr No w w1) (ho : w1.ownsRow w.heap.size 3 1 vk (kidsL ls (i : Int)).length (ints (natI (kidsL ls (i : Int))))) :
    NodeAt w q0 i ls X Y A1 n1 c1 (.pointer (some ⟨w1.heap.size, 0, none⟩)) vk (w1.alloc (.cells #[.int .i64 q0, .string X, .string Y, .slice A1 n1 c1] 32)) :=
  ⟨_, rfl, Bk.new w1 _ _, F1.size, ho.alloc _, fun e => by have := (ho.lt _ e).2; omega, F1.alloc _⟩
theorem nodeAt_c (F1 : Fr No w w1) (ho : w1.ownsRow (w.heap.size + 1) 3 1 vk (kidsL ls (i : Int)).length (ints (natI (kidsL ls (i : Int))))) (B1 : Bk w1 w.heap.size 32 [.int .i64 q0, .string X, .string Y, .slice A1 n1 c1]) :
    NodeAt w q0 i ls X Y A1 n1 c1 (.pointer (some ⟨w.heap.size, 0, none⟩)) vk w1 :=
  ⟨_, rfl, B1, Nat.le_refl _, own_low ho (Nat.le_succ _), fun e => by have := (ho.lt _ e).1; omega, F1⟩
theorem nodeAt_b {c0 c1' c2 c3 : Value} (F1 : Fr No w w1) (ho : w1.ownsRow (w.heap.size + 1) 3 1 vk (kidsL ls (i : Int)).length (ints (natI (kidsL ls (i : Int))))) (B1 : Bk w1 w.heap.size 32 [c0, c1', c2, c3]) :
    NodeAt w q0 i ls X Y A1 n1 c1 (.pointer (some ⟨w.heap.size, 0, none⟩)) vk ((((w1.setCell ⟨w.heap.size, 0, none⟩ (.int .i64 q0)).setCell ⟨w.heap.size, 1, none⟩ (.string X)).setCell ⟨w.heap.size, 2, none⟩ (.string Y)).setCell ⟨w.heap.size, 3, none⟩ (.slice A1 n1 c1)) := by
  have hJ : Fr (Just w.heap.size) w1 ((((w1.setCell ⟨w.heap.size, 0, none⟩ (.int .i64 q0)).setCell ⟨w.heap.size, 1, none⟩ (.string X)).setCell ⟨w.heap.size, 2, none⟩ (.string Y)).setCell ⟨w.heap.size, 3, none⟩ (.slice A1 n1 c1)) :=
    ((((Fr.refl (Just w.heap.size) w1).setCell (p := ⟨w.heap.size, 0, none⟩) (.inl (Just.at _)) _).setCell (p := ⟨w.heap.size, 1, none⟩) (.inl (Just.at _)) _).setCell (p := ⟨w.heap.size, 2, none⟩) (.inl (Just.at _)) _).setCell (p := ⟨w.heap.size, 3, none⟩) (.inl (Just.at _)) _
  exact ⟨_, rfl, (((B1.set_ 0 _).set_ 1 _).set_ 2 _).set_ 3 _, Nat.le_refl _, own_low (hJ.own ho (fun k e e2 => by have := (ho.lt k e).1; have : k = w.heap.size := e2; omega)) (Nat.le_succ _), fun e => by have := (ho.lt _ e).1; omega, four F1 _ _ _ _⟩
end
variable {F : Fo} {B g : Nat} {A : Option Addr} {n c : Nat} {N : Nat → Prop} {m : Nat} {w : World} {p v : Value} {l : List UInt8}
def attr1 (x : List UInt8 × List UInt8) : List UInt8 := 32 :: (x.1 ++ (61 :: 34 :: (escL x.2 ++ [34])))
theorem attrW_next (a : List (List UInt8 × List UInt8)) (j : Nat) (h : j < a.length) : attrW (a.take (j + 1)) = attrW (a.take j) ++ attr1 a[j] := by
  have key : ∀ (x y : List (List UInt8 × List UInt8)), attrW (x ++ y) = attrW x ++ attrW y := by
    intro x y
    induction x with
    | nil => rfl
    | cons z x ih => simp [attrW, ih]
  rw [List.take_succ_eq_append_getElem h, key]
  simp [attrW, attr1]
theorem attrW_le (a : List (List UInt8 × List UInt8)) (j : Nat) : (attrW (a.take j)).length ≤ (attrW a).length := by
  have key : ∀ (x y : List (List UInt8 × List UInt8)), attrW (x ++ y) = attrW x ++ attrW y := by
    intro x y
    induction x with
    | nil => rfl
    | cons z x ih => simp [attrW, ih]
  conv => rhs; rw [← List.take_append_drop j a, key]
  rw [List.length_append]
  omega
attribute [local irreducible] yielded in
set_option maxHeartbeats 4000000 in
set_option maxRecDepth 20000 in
theorem c_node_step (hcon : NodeCon F B g A n c N m) (hN : ∀ i, N i → i < B) (hsound : ∀ x ∈ F.flat (-1) 0, SoundN x) (hsmall : ∀ x ∈ F.flat (-1) 0, NodS x) (hbig : n ≤ 1000000) : NodeCon F B g A n c N (m + 1) := by
  intro nm t a k r pp i hat hkm w p v l h hR hlo
  have hlen := hR.len nod_ok (by omega)
  obtain ⟨hnode, hkids⟩ := hat.node
  obtain ⟨ls, hls⟩ : ∃ ls, F.flat (-1) 0 = ls := ⟨_, rfl⟩
  rw [hls] at hnode hkids hR hlen hsound hsmall
  have hil : i < ls.length := by
    rcases Nat.lt_or_ge i ls.length with h1 | h1
    · exact h1
    · rw [List.getElem?_eq_none h1] at hnode; cases hnode
  have hnd : ls[i] = ⟨pp, nm, t, a⟩ := by rw [List.getElem?_eq_getElem hil] at hnode; injection hnode
  have hso := hsound _ (List.getElem_mem hil)
  have hsm := hsmall _ (List.getElem_mem hil)
  rw [hnd] at hso hsm
  obtain ⟨ad, cs, rfl, ⟨X, Y, A1, n1, c1, rfl, hX, hY, hA1⟩, hc⟩ := hR.at_ nod_ok (by omega) (i := i) hil
  have x0 := hc 0 _ rfl
  have x1 := hc 1 _ rfl
  have x2 := hc 2 _ rfl
  have x3 := hc 3 _ rfl
  rw [add_next ad] at x1 x2 x3
  obtain ⟨P, hP⟩ : ∃ P, ad.add (i * 4) = P := ⟨_, rfl⟩
  rw [Nat.add_zero, hP] at x0
  obtain ⟨q0, hq0⟩ : ∃ q, ls[i].parent = q := ⟨_, rfl⟩
  rw [hq0] at x0
  rw [hP] at x1 x2 x3
  replace x1 : w.cell? ⟨P.block, P.off + 1, none⟩ = some (.string X) := x1
  replace x2 : w.cell? ⟨P.block, P.off + 2, none⟩ = some (.string Y) := x2
  replace x3 : w.cell? ⟨P.block, P.off + 3, none⟩ = some (.slice A1 n1 c1) := x3
  rw [hnd] at hX hY hA1
  replace hX : X.data.toList = nm := hX
  replace hY : Y.data.toList = t := hY
  replace hA1 : RdI 2 AttrI w N A1 n1 c1 a := hA1
  have hin2 : i < n := by omega
  have hwb := h.lt
  have c0 := h.cell0
  have hkd := fun u (hf : Fr No w u) => kids_any ls (some ad) n c (i : Int) N u (hR.no nod_ok hf) (by omega)
  have HK := Lib.hid hkd; have HR := Lib.hid hR; have HW := Lib.hid h; have HX := Lib.hid hX; have HY := Lib.hid hY; have HA1 := Lib.hid hA1; have HSO := Lib.hid hso; have HSM := Lib.hid hsm; have HLO := Lib.hid hlo; have HKI := Lib.hid hkids; have HC := Lib.hid hcon; have HN := Lib.hid hN; have HAT := Lib.hid hat; have HLS := Lib.hid hls
  clear hkd hR h hX hY hc hA1 hso hsm hlo hkids hcon hN hat hls hnd hnode hsound hsmall hq0
  have hk1 : Calls Tryz.prog 13 #[.slice (some ad) n c, .int .i64 (i : Int)] w.drew fun e w' => ∃ v, e = .returned v ∧ w'.ownsRow w.heap.size 3 1 v (kidsL ls (i : Int)).length (ints (natI (kidsL ls (i : Int)))) ∧ Fr No w w' :=
    (HK.out _ ((Fr.refl No w).drew)).mono fun e w' ⟨v, h1, h2, h3⟩ => ⟨v, h1, h2, ((Fr.refl No w).drew).trans h3⟩
  have hk2 : ∀ cs : Array Value, Calls Tryz.prog 13 #[.slice (some ad) n c, .int .i64 (i : Int)] (w.alloc (.cells cs 32)).drew fun e w' => ∃ v, e = .returned v ∧ w'.ownsRow (w.heap.size + 1) 3 1 v (kidsL ls (i : Int)).length (ints (natI (kidsL ls (i : Int)))) ∧ Fr No w w' ∧ Bk w' w.heap.size 32 cs.toList := by
    intro cs
    have F := ((Fr.refl No w).alloc (.cells cs 32)).drew
    refine (HK.out _ F).mono ?_
    rintro e w' ⟨v, h1, h2, h3⟩
    refine ⟨v, h1, ?_, F.trans h3, ((Bk.new w 32 cs).no ((Fr.refl No _).drew)).no h3⟩
    have : (w.alloc (.cells cs 32)).drew.heap.size = w.heap.size + 1 := by simp
    rwa [this] at h2
  have HK1 := Lib.hid hk1; have HK2 := Lib.hid hk2
  clear hk1 hk2 HK
  have hiI : (i : Int) < (n : Int) := by omega
  clear hlen hil
  go_enter Tryz.func26, Tryz.ntmps26
  go_wp2_with fail
  go_cut [4, 5] from 8 to 67 (fun av kv wx => NodeAt w q0 i ls X Y A1 n1 c1 av kv wx)
  case first =>
    go_region_held3 (fun u => u.cell? ⟨g, 0, none⟩ = some (.slice (some ad) n c) ∧ u.cell? P = some (.int .i64 q0) ∧ u.cell? ⟨P.block, P.off + 1, none⟩ = some (.string X) ∧ u.cell? ⟨P.block, P.off + 2, none⟩ = some (.string Y) ∧ u.cell? ⟨P.block, P.off + 3, none⟩ = some (.slice A1 n1 c1))
      (first
       | with_reducible exact ⟨(F1.out).cell c0 (fun x => x), (F1.out).cell x0 (fun x => x), (F1.out).cell x1 (fun x => x), (F1.out).cell x2 (fun x => x), (F1.out).cell x3 (fun x => x)⟩
       | with_reducible exact ⟨((Fr.refl No w).alloc _).cell c0 (fun x => x), ((Fr.refl No w).alloc _).cell x0 (fun x => x), ((Fr.refl No w).alloc _).cell x1 (fun x => x), ((Fr.refl No w).alloc _).cell x2 (fun x => x), ((Fr.refl No w).alloc _).cell x3 (fun x => x)⟩
       | with_reducible exact ⟨(F1.out.alloc _).cell c0 (fun x => x), (F1.out.alloc _).cell x0 (fun x => x), (F1.out.alloc _).cell x1 (fun x => x), (F1.out.alloc _).cell x2 (fun x => x), (F1.out.alloc _).cell x3 (fun x => x)⟩
       | with_reducible exact ⟨(four F1.out _ _ _ _).cell c0 (fun x => x), (four F1.out _ _ _ _).cell x0 (fun x => x), (four F1.out _ _ _ _).cell x1 (fun x => x), (four F1.out _ _ _ _).cell x2 (fun x => x), (four F1.out _ _ _ _).cell x3 (fun x => x)⟩
       | go_keep)
      (first
       | (go_at_call 13; (with_reducible refine HK1.out.mono ?_); rintro e w1 ⟨vk, rfl, hok, hfk⟩; have F1 := Lib.hid hfk; have HOK := Lib.hid hok; clear hok hfk)
       | (go_at_call 13; (with_reducible refine (HK2.out #[.int .i64 0, .string ⟨#[]⟩, .string ⟨#[]⟩, .slice none 0 0]).mono ?_); rintro e w1 ⟨vk, rfl, hok, hfk, B1⟩; have b0 : w1.cell? ⟨w.heap.size, 0, none⟩ = some (.int .i64 0) := B1.cell 0; have b1 : w1.cell? ⟨w.heap.size, 1, none⟩ = some (.string ⟨#[]⟩) := B1.cell 1; have b2 : w1.cell? ⟨w.heap.size, 2, none⟩ = some (.string ⟨#[]⟩) := B1.cell 2; have b3 : w1.cell? ⟨w.heap.size, 3, none⟩ = some (.slice none 0 0) := B1.cell 3; have z0 := B1.frozen 0; have z1 := B1.frozen 1; have z2 := B1.frozen 2; have z3 := B1.frozen 3; have B1 : Hid (Bk w1 w.heap.size 32 [.int .i64 0, .string ⟨#[]⟩, .string ⟨#[]⟩, .slice none 0 0]) := Lib.hid B1; have F1 := Lib.hid hfk; have HOK := Lib.hid hok; clear hok hfk)
       | (go_at_call 13; (with_reducible refine (HK2.out #[.int .i64 q0, .string X, .string Y, .slice A1 n1 c1]).mono ?_); rintro e w1 ⟨vk, rfl, hok, hfk, B1⟩; have B1 : Hid (Bk w1 w.heap.size 32 [.int .i64 q0, .string X, .string Y, .slice A1 n1 c1]) := Lib.hid B1; have F1 := Lib.hid hfk; have HOK := Lib.hid hok; clear hok hfk))
    all_goals
      go_wp2_with fail
      go_meet
      first
      | with_reducible exact nodeAt_a F1.out HOK.out
      | with_reducible exact nodeAt_b F1.out HOK.out B1.out
      | with_reducible exact nodeAt_c F1.out HOK.out B1.out
  case rest =>
    obtain ⟨W0, rfl⟩ : ∃ W0, W0 = wc := ⟨_, rfl⟩
    obtain ⟨b, rfl, hbk, hbw, hko, hkb, hf0⟩ := hcut
    clear x0 x1 x2 x3 c0
    rw [HKI.out] at hko
    obtain ⟨KA, kc, rfl, hkr, hkl⟩ := Rd.of_own hko
    have h0 := HW.out.no hf0
    have h0' := HW.out
    have hbz := hbk.lt
    have hXs : X.size ≤ 1000000000 := by rw [← size_list, HX.out]; exact HSM.out.name
    have hn1 : n1 ≤ 1000000000 := by rw [← HA1.out.len attr_ok (by omega)]; exact HSM.out.many
    have hYs : Y.size ≤ 1000000000 := by rw [← size_list, HY.out]; exact HSM.out.text
    have hap := h0'.apart hbw
    have hka : ∀ ad, KA = some ad → ¬ (ad.block = g ∨ v.ownBlock = some ad.block) := fun ad e => h0'.apart (hkl ad e).1
    have hnb : ∀ i, N i → ¬ (i = g ∨ v.ownBlock = some i) := fun i hi => h0'.below (HN.out i hi)
    have hw1 : wr1 nm t a k = 60 :: (nm ++ (attrW a ++ (if t = [] ∧ k.isNil = true then [47, 62] else 62 :: (escL t ++ (k.wr ++ (60 :: 47 :: (nm ++ [62]))))))) := rfl
    obtain ⟨tl, htl⟩ : ∃ tl, (if t = [] ∧ k.isNil = true then [47, 62] else 62 :: (escL t ++ (k.wr ++ (60 :: 47 :: (nm ++ [62]))))) = tl := ⟨_, rfl⟩
    rw [htl] at hw1
    have hlo2 := HLO.out
    rw [hw1] at hlo2
    simp only [List.length_cons, List.length_append] at hlo2
    have hnl : nm.length = X.size := by rw [← size_list, HX.out]
    rw [hnl] at hlo2
    have hp1 := c_put_2 9 ⟨#[60]⟩ X h0 (by show l.length + (1 + X.size) ≤ _; omega)
    rw [HX.out, show (⟨#[60]⟩ : ByteArray).data.toList = [60] from rfl] at hp1
    have b1 : W0.cell? ⟨b, 1, none⟩ = some (.string X) := hbk.cell 1
    have HP1 := Lib.hid hp1; have HBK := Lib.hid hbk; have HAP := Lib.hid hap; have HKA := Lib.hid hka; have HKL := Lib.hid (fun ad e => (hkl ad e).2); have HNB := Lib.hid hnb; have HKR := Lib.hid hkr; have HF0 := Lib.hid hf0; have HW1 := Lib.hid hw1; have HTL := Lib.hid htl
    clear hp1 hbk hap hka hnb hko hkr hkl hf0 h0 hw1 htl hkb
    go_wp2_with (go_at_call 45; refine HP1.out.mono ?_; rintro e W1 ⟨rfl, hw1⟩; obtain ⟨p1, v1, h1, f1, hv1⟩ := hw1; have b3 : W1.cell? ⟨b, 3, none⟩ = some (.slice A1 n1 c1) := (HBK.out.fr f1 HAP.out).cell 3; have h1 := Lib.hid h1; have f1 := Lib.hid f1; have hv1 := Lib.hid hv1)
    go_loopw [29] (fun iv wr => ∃ j : Nat, iv = .int .i64 (j : Int) ∧ j ≤ n1 ∧ Went B g (.slice (some ad) n c) v (l ++ (60 :: (nm ++ attrW (a.take j)))) W0 wr) (fun iv _ => n1 - (intOf iv).toNat)
    case atStart => exact ⟨0, rfl, Nat.zero_le _, p1, v1, by simpa [attrW] using h1.out, f1.out, hv1.out⟩
    case round =>
      obtain ⟨j, rfl, hj, p2, v2, h2, f2, hv2⟩ := hrel
      have han := HA1.out.len attr_ok (by omega)
      rcases Nat.lt_or_ge j n1 with hlt | hge
      · have hltI : (j : Int) < (n1 : Int) := by omega
        have hjl : j < a.length := by omega
        obtain ⟨ad1, cs1, rfl, ⟨X1, Y1, rfl, hX1, hY1⟩, hc1⟩ := ((HA1.out.no attr_ok HF0.out).fr attr_ok f2 HNB.out).at_ attr_ok (by omega) (i := j) hjl
        have y0 := hc1 0 _ rfl
        have y1 := hc1 1 _ rfl
        rw [add_next ad1] at y1
        obtain ⟨P1, hP1⟩ : ∃ P1, ad1.add (j * 2) = P1 := ⟨_, rfl⟩
        rw [Nat.add_zero, hP1] at y0
        rw [hP1] at y1
        obtain ⟨s1, s2⟩ := HSM.out.attrs _ (List.getElem_mem hjl)
        obtain ⟨u1, u2⟩ := HSO.out.2.2.1 _ (List.getElem_mem hjl)
        have hes := fun u => c_escaped_any Y1 u (by rw [← size_list, hY1]; exact s2) (by rw [hY1]; exact u2)
        obtain ⟨E, hE⟩ : ∃ E, bstr (escL Y1.data.toList) = E := ⟨_, rfl⟩
        rw [hE] at hes
        have hEl : E.data.toList = escL a[j].2 := by rw [← hE, hY1]; rfl
        have hnx := attrW_next a j hjl
        have hle := attrW_le a (j + 1)
        have hat1 : attr1 a[j] = 32 :: (X1.data.toList ++ (61 :: 34 :: (E.data.toList ++ [34]))) := by unfold attr1; rw [hX1, hEl]
        have hall : (l ++ (60 :: (nm ++ attrW (a.take j)))) ++ ([32] ++ (X1.data.toList ++ ([61, 34] ++ (E.data.toList ++ [34])))) = l ++ (60 :: (nm ++ attrW (a.take (j + 1)))) := by
          rw [hnx, hat1]; simp
        rw [hnx, hat1] at hle
        simp only [List.length_append, List.length_cons, List.length_nil, size_list] at hle
        have hp5 := fun u (hf : Fr No wr u) => c_put_5 9 ⟨#[32]⟩ X1 ⟨#[61, 34]⟩ E ⟨#[34]⟩ (h2.no hf) (by
          simp only [List.length_append, List.length_cons, hnl]
          show _ + (1 + (X1.size + (2 + (E.size + 1)))) ≤ _
          omega)
        rw [show (⟨#[32]⟩ : ByteArray).data.toList = [32] from rfl, show (⟨#[61, 34]⟩ : ByteArray).data.toList = [61, 34] from rfl, show (⟨#[34]⟩ : ByteArray).data.toList = [34] from rfl, hall] at hp5
        have hq := h2.apart (k := wr.heap.size) (Nat.le_refl _)
        have HES := Lib.hid hes; have HP5 := Lib.hid hp5; have H2 := Lib.hid h2; have F2 := Lib.hid f2; have HV2 := Lib.hid hv2; have HQ := Lib.hid hq
        clear hes hp5 h2 f2 hv2 hc1 hX1 hY1 s1 s2 u1 u2 hE hEl hnx hle hat1 hall han hq
        go_wp2_with fail
        have Q0 := Bk.new wr 59 #[.string X1, .string Y1]
        have q0' : (wr.alloc (.cells #[.string X1, .string Y1] 59)).cell? ⟨wr.heap.size, 0, none⟩ = some (.string X1) := Q0.cell 0
        have q1' : (wr.alloc (.cells #[.string X1, .string Y1] 59)).cell? ⟨wr.heap.size, 1, none⟩ = some (.string Y1) := Q0.cell 1
        have Q0 := Lib.hid Q0
        go_region_held3 (fun u => u.cell? ⟨wr.heap.size, 0, none⟩ = some (.string X1) ∧ u.cell? ⟨wr.heap.size, 1, none⟩ = some (.string Y1))
          (first
           | with_reducible exact ⟨C20.out, C21.out⟩
           | with_reducible exact ⟨C20a.out _, C21a.out _⟩
           | with_reducible exact ⟨C30.out, C31.out⟩
           | go_keep)
          (first
           | (go_at_call 46; (with_reducible refine (HES.out _).mono ?_); rintro e w2 ⟨rfl, hf2⟩; have FW := Lib.hid ((((Fr.refl No wr).alloc _).drew).trans hf2); have B2 := (Q0.out.no ((Fr.refl No _).drew)).no hf2; have C20 : Hid (w2.cell? ⟨wr.heap.size, 0, none⟩ = some (.string X1)) := Lib.hid (B2.cell 0); have C21 : Hid (w2.cell? ⟨wr.heap.size, 1, none⟩ = some (.string Y1)) := Lib.hid (B2.cell 1); have C20a : Hid (∀ o, (w2.alloc o).cell? ⟨wr.heap.size, 0, none⟩ = some (.string X1)) := Lib.hid (fun o => (B2.no ((Fr.refl No w2).alloc o)).cell 0); have C21a : Hid (∀ o, (w2.alloc o).cell? ⟨wr.heap.size, 1, none⟩ = some (.string Y1)) := Lib.hid (fun o => (B2.no ((Fr.refl No w2).alloc o)).cell 1); have B2 := Lib.hid B2; clear hf2)
           | (go_at_call 45; (with_reducible refine (HP5.out w2 FW.out).mono ?_); rintro e w3 ⟨rfl, hw3⟩; have hw3' := hw3; obtain ⟨p3, v3, h3, f3, hv3⟩ := hw3'; have B3 := B2.out.fr f3 HQ.out; have C30 : Hid (w3.cell? ⟨wr.heap.size, 0, none⟩ = some (.string X1)) := Lib.hid (B3.cell 0); have C31 : Hid (w3.cell? ⟨wr.heap.size, 1, none⟩ = some (.string Y1)) := Lib.hid (B3.cell 1); have HW3 := Lib.hid hw3; clear hw3 h3 f3 hv3 B3))
        go_wp2_with fail
        go_roundw
        case rel => exact ⟨j + 1, by go_num, hlt, Went.step (F2.out.trans FW.out.no) HV2.out HW3.out⟩
        case measure => simp [intOf]; omega
      · have hje : j = n1 := by omega
        subst hje
        rw [List.take_of_length_le (by omega)] at h2
        obtain ⟨M, hM⟩ : ∃ M, l ++ (60 :: (nm ++ attrW a)) = M := ⟨_, rfl⟩
        rw [hM] at h2
        have hMl : M.length = l.length + (1 + (X.size + (attrW a).length)) := by rw [← hM]; simp only [List.length_append, List.length_cons, hnl]; omega
        have hB2 := HBK.out.fr f2 HAP.out
        have b2 : wr.cell? ⟨b, 2, none⟩ = some (.string Y) := hB2.cell 2
        have htn := tops_nil k (i + 1)
        obtain ⟨kn, hkn⟩ : ∃ kn, (k.tops (i + 1)).length = kn := ⟨_, rfl⟩
        have HKR' : Rd W0 KA kn kc (ints (natI (k.tops (i + 1)))) := by rw [← hkn]; exact HKR.out
        have hk0 : kn = 0 ↔ k.isNil = true := by rw [← hkn, List.length_eq_zero_iff]; exact htn
        have hyt : Y.toList = t := by rw [ba_list, HY.out]
        have hfin : ∀ (out : List UInt8) (u : World), M ++ out = l ++ wr1 nm t a k → Went B g (.slice (some ad) n c) v (M ++ out) W0 u → Went B g (.slice (some ad) n c) v (l ++ wr1 nm t a k) w u := by
          intro out u e hk
          rw [← e]
          exact Went.step HF0.out.no (.inl rfl) hk
        have hMo : ∀ out, out = tl → M ++ out = l ++ wr1 nm t a k := by
          intro out e
          rw [← hM, HW1.out, e]
          simp
        rw [hkn]
        have H2 := Lib.hid h2; have F2 := Lib.hid f2; have HV2 := Lib.hid hv2; have HB2 := Lib.hid hB2; have HKR2 := Lib.hid HKR'; have HFIN := Lib.hid hfin; have HMO := Lib.hid hMo; have HML := Lib.hid hMl; have HKN := Lib.hid hkn
        clear h2 f2 hv2 hB2 HKR' hM hMl htn hfin hMo h1 f1 hv1 b3 hkn han
        by_cases he : t = [] ∧ k.isNil = true
        · have hem : Y.toList.isEmpty = true := by rw [hyt, he.1]; rfl
          have he0 : ((kn : Int) == 0) = true := by rw [hk0.2 he.2]; rfl
          have htl2 : [47, 62] = tl := by have := HTL.out; rw [if_pos he] at this; exact this
          have hp := c_put_1 9 ⟨#[47, 62]⟩ H2.out (by rw [HML.out]; show _ + 2 ≤ _; rw [← htl2] at hlo2; simp at hlo2; omega)
          have HP := Lib.hid hp; have HT2 := Lib.hid htl2
          clear hp he hyt hk0 htl2
          go_wp2_with (go_at_call 45; refine HP.out.mono ?_; rintro e w3 ⟨rfl, hw3⟩)
          try simp only [Exit.inBlock, Exit.then]
          refine bodyPost_ret (results_none rfl _ _ _) rfl ?_
          exact ⟨rfl, HFIN.out _ _ (HMO.out _ HT2.out) (Went.step F2.out HV2.out hw3)⟩
        · have htl2 : 62 :: (escL t ++ (k.wr ++ (60 :: 47 :: (nm ++ [62])))) = tl := by have := HTL.out; rw [if_neg he] at this; exact this
          have htlen : tl.length = 1 + ((escL t).length + (k.wr.length + (X.size + 3))) := by rw [← htl2]; simp only [List.length_append, List.length_cons, List.length_nil, hnl]; omega
          rw [htlen] at hlo2
          have hes := fun u => c_escaped_any Y u hYs (by rw [HY.out]; exact HSO.out.2.1)
          rw [HY.out] at hes
          obtain ⟨E, hE⟩ : ∃ E, bstr (escL t) = E := ⟨_, rfl⟩
          rw [hE] at hes
          have hEl : E.data.toList = escL t := by rw [← hE]; rfl
          have hEs : E.size = (escL t).length := by rw [← size_list, hEl]
          have hp2 := fun u (hf : Fr No wr u) => c_put_2 9 ⟨#[62]⟩ E (H2.out.no hf) (by rw [HML.out]; show _ + (1 + E.size) ≤ _; omega)
          rw [hEl, show (⟨#[62]⟩ : ByteArray).data.toList = [62] from rfl] at hp2
          have hee := fun (u : World) (p4 v4 : Value) (h4 : WrV u B g (.slice (some ad) n c) p4 v4 (M ++ ([62] ++ escL t))) (f4 : Fr (fun i => i = g ∨ v.ownBlock = some i) W0 u) (hv4 : v4.ownBlock = v.ownBlock ∨ ∀ i, v4.ownBlock = some i → W0.heap.size ≤ i) =>
            c_each_any (w := u) (p := p4) (v := v4) (l := M ++ ([62] ++ escL t)) HC.out HN.out k (i : Int) (i + 1) (At.kids HAT.out) (by omega) h4 (by rw [HLS.out]; exact (HR.out.no nod_ok HF0.out).fr nod_ok f4 HNB.out) KA kn kc (HKR2.out.fr f4 HKA.out)
              (fun ad' e => by
                rintro (hg | ho)
                · exact HKA.out ad' e (.inl hg)
                · rcases hv4 with hv4 | hv4
                  · exact HKA.out ad' e (.inr (by rw [← hv4]; exact ho))
                  · have h7 := hv4 _ ho
                    have hpos : 0 < kn := by
                      rcases Nat.eq_zero_or_pos kn with h8 | h8
                      · exact absurd (HKL.out ad' e) (by omega)
                      · exact h8
                    have := HKL.out ad' e
                    omega) (by rw [List.length_append, List.length_append, HML.out]; simp only [List.length_cons, List.length_nil]; omega)
          have hp3 := fun (u : World) (p5 v5 : Value) (h5 : WrV u B g (.slice (some ad) n c) p5 v5 (M ++ ([62] ++ escL t) ++ k.wr)) => c_put_3 9 ⟨#[60, 47]⟩ X ⟨#[62]⟩ h5 (by rw [List.length_append, List.length_append, List.length_append, HML.out]; simp only [List.length_cons, List.length_nil]; show _ + (2 + (X.size + 1)) ≤ _; omega)
          rw [HX.out, show (⟨#[60, 47]⟩ : ByteArray).data.toList = [60, 47] from rfl, show (⟨#[62]⟩ : ByteArray).data.toList = [62] from rfl] at hp3
          have hout : M ++ ([62] ++ escL t) ++ k.wr ++ ([60, 47] ++ (nm ++ [62])) = M ++ tl := by rw [← htl2]; simp
          have HES := Lib.hid hes; have HP2 := Lib.hid hp2; have HEE := Lib.hid hee; have HP3 := Lib.hid hp3; have HOUT := Lib.hid hout
          have hcs : (Y.toList.isEmpty = false) ∨ (Y.toList.isEmpty = true ∧ ((kn : Int) == 0) = false) := by
            rw [hyt]
            by_cases h1 : t = []
            · refine .inr ⟨by rw [h1]; rfl, ?_⟩
              rw [beq_eq_false_iff_ne]
              intro e
              exact he ⟨h1, hk0.1 (by omega)⟩
            · refine .inl ?_
              cases t with
              | nil => exact absurd rfl h1
              | cons => rfl
          clear hes hp2 hee hp3 hout hE hEl hEs htl2 htlen he hyt hk0
          rcases hcs with hem | ⟨hem, he0⟩
          all_goals
            have tok1 : True := trivial
            go_wp2_with (first
              | (go_at_call 46; refine (HES.out _).mono ?_; rintro e u1 ⟨rfl, hf1⟩; have FU := Lib.hid hf1; clear hf1)
              | (go_at_call 45; clear tok1; refine (HP2.out u1 FU.out).mono ?_; rintro e w4 ⟨rfl, hw4⟩; have hw4 := Went.step (F2.out.trans FU.out.no) HV2.out hw4; obtain ⟨p4, v4, h4, f4, hv4⟩ := hw4; have H4 := Lib.hid h4; have F4 := Lib.hid f4; have HV4 := Lib.hid hv4; clear h4 f4 hv4)
              | (go_at_call 47; refine (HEE.out w4 p4 v4 H4.out F4.out HV4.out).mono ?_; rintro e w5 ⟨rfl, hw5⟩; have hw5 := Went.step F4.out HV4.out hw5; obtain ⟨p5, v5, h5, f5, hv5⟩ := hw5; have b1w : w5.cell? ⟨b, 1, none⟩ = some (.string X) := (HBK.out.fr f5 HAP.out).cell 1; have H5 := Lib.hid h5; have F5 := Lib.hid f5; have HV5 := Lib.hid hv5; clear h5 f5 hv5)
              | (go_at_call 45; refine (HP3.out w5 p5 v5 H5.out).mono ?_; rintro e w6 ⟨rfl, hw6⟩; have hw6 := Went.step F5.out HV5.out hw6))
            go_end0
            rw [HOUT.out] at hw6
            exact ⟨rfl, HFIN.out _ _ (HMO.out _ rfl) hw6⟩
end Go.Proofs.YthkjmbkfcnehoaaGreatDoor
