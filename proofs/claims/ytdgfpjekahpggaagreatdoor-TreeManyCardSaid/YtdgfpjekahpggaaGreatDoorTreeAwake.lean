/- What shows that package tree does something; and TreeStands: the walk, for every text. -/
import Derived.Test.YtdgfpjekahpggaaGreatDoorTreeProg
import Derived.Test.YtdgfpjekahpggaaGreatDoorMathA
import Derived.Test.YtdgfpjekahpggaaGreatDoorStr
namespace Go.Proofs.YtdgfpjekahpggaaGreatDoor
open Go.RowKit
set_option maxHeartbeats 400000
set_option linter.unusedVariables false

/-- <a><b>x</b></a> -/
def ayL : List UInt8 := [60, 97, 62, 60, 98, 62, 120, 60, 47, 98, 62, 60, 47, 97, 62]
def ayT : List Nod := [⟨-1, [97], [], []⟩, ⟨0, [98], [120], []⟩]
theorem ay_err : parseE ayL = 0 := by kernel_rfl
theorem ay_tree : parseL ayL = ayT := by kernel_rfl
theorem ay_kids : kidsL ayT 0 = [1] := by kernel_rfl
/-- the second node's text -/
theorem ay_cells {w : World} {N : Nat → Prop} {A : Option Addr} {n c : Nat} (h : RdI 4 NodI w N A n c ayT) : ∃ ad X, A = some ad ∧ n = 2 ∧ w.cell? ⟨ad.block, ad.off + 4 + 2, none⟩ = some (.string X) ∧ (X.toList == [120]) = true := by
  have hn := h.len nod_ok (by omega)
  obtain ⟨ad, cs, rfl, ⟨X, Y, A1, n1, x1, rfl, hX, hY, hA1⟩, hc⟩ := h.at_ nod_ok (by omega) (i := 1) (by decide)
  have c2 := hc 2 _ rfl
  rw [show ad.add (1 * 4 + 2) = ⟨ad.block, ad.off + 4 + 2, none⟩ from by simp [Addr.add]] at c2
  exact ⟨ad, Y, rfl, by rw [← hn]; rfl, c2, by rw [s_list, hY]; rfl⟩
theorem ay_own {w : World} {base : Nat} {v : Value} (h : w.ownsRow base 3 1 v (kidsL ayT 0).length (ints (natI (kidsL ayT 0)))) : ∃ A c, v = .slice A 1 c ∧ Rd w A 1 c (ints [1]) := by
  obtain ⟨A, c, e, h1, h2⟩ := Rd.of_own h
  exact ⟨A, c, by rw [e, ay_kids]; rfl, by rw [ay_kids] at h1; exact h1⟩
set_option maxRecDepth 20000 in
theorem awake_tree (w : World) (hT : Tabs w := by repeat' first | with_reducible assumption | with_reducible apply Tabs.drew | with_reducible apply Tabs.drewN | with_reducible apply Tabs.alloc | refine Tabs.fr ?_ (by with_reducible assumption) | refine Tabs.dr ?_ (by with_reducible assumption)) : Calls Tryz.prog 8 #[] w fun e w' => e = .returned (.bool true) ∧ Fr No w w' := by
  have hp := fun u (hT : Tabs u) => parse_any ⟨#[60, 97, 62, 60, 98, 62, 120, 60, 47, 98, 62, 60, 47, 97, 62]⟩ u (by decide)
  rw [show (⟨#[60, 97, 62, 60, 98, 62, 120, 60, 47, 98, 62, 60, 47, 97, 62]⟩ : ByteArray).data.toList = ayL from rfl, ay_err, ay_tree] at hp
  have HP := Lib.hid hp
  clear hp
  go_enter Tryz.func8, Tryz.ntmps8
  go_wp2_with (first
    | (go_at_call 11; refine (HP.out _ (by repeat' first | with_reducible assumption | with_reducible apply Tabs.drew | with_reducible apply Tabs.drewN | with_reducible apply Tabs.alloc | refine Tabs.fr ?_ (by with_reducible assumption) | refine Tabs.dr ?_ (by with_reducible assumption))).mono ?_; rintro e w1 ⟨v, rfl, ho, hf⟩; obtain ⟨A, c, rfl, hr⟩ := nodes_rd ho; obtain ⟨ad, X, rfl, hn2, c2, hx⟩ := ay_cells hr)
    | (go_at_call 16; refine (kids_any ayT _ _ _ 0 _ _ hr (by decide)).mono ?_; rintro e w2 ⟨v2, rfl, ho2, hf2⟩; obtain ⟨A2, c3, rfl, hr2⟩ := ay_own ho2)
    | (go_at_call 15; refine (plainI_any _ _ _ _ _ [1] _ (hr2.no ((Fr.refl No w2).alloc _)) (Rd.oneI 1 _)).mono ?_; rintro e w3 ⟨rfl, hf3⟩))
  go_ret
  exact ⟨rfl, ((hf.trans hf2).alloc _).dr hf3⟩

/-- how many kids there are -/
theorem kids_len (ns : List Nod) (A : Option Addr) (n c : Nat) (i : Int) (N : Nat → Prop) (w : World) (h : RdI 4 NodI w N A n c ns) (hn : n ≤ 1000000000) (m : Nat) (hm : (kidsL ns i).length = m) :
    Calls Tryz.prog 16 #[.slice A n c, .int .i64 i] w fun e w' => ∃ A' c', e = .returned (.slice A' m c') ∧ Fr No w w' :=
  (kids_any ns A n c i N w h hn).mono fun e w' ⟨v, e1, h1, h2⟩ => by
    obtain ⟨A', c', e2, _⟩ := Rd.of_own h1
    subst hm
    exact ⟨A', c', by rw [e1, e2], h2⟩
theorem kidsL_len (l : List Nod) (i : Int) : (kidsL l i).length ≤ l.length := by
  unfold kidsL
  split
  · exact kidsF_len l _ _
  · simp
theorem sumK_small {l : List Nod} (h : Stands l) : ∀ k, k ≤ l.length → sumK l k ≤ 250000 := fun k hk => by
  have h1 := sumK_le l k
  have h2 := h.top
  have h3 : k * l.length ≤ 500 * 500 := Nat.mul_le_mul (by omega) (by omega)
  omega
attribute [local irreducible] yielded in
set_option maxHeartbeats 8000000 in
set_option maxRecDepth 20000 in
theorem stands_walk {S : ByteArray} (w : World) (hT : Tabs w) (hS : S.size ≤ 9223372036854775807) : Calls Tryz.prog 4 #[.string S] w fun e w' => e = .returned (.bool true) ∧ Fr No w w' := by
  by_cases hl : 4000 < S.size
  · have hlI : (4000 : Int) < (S.size : Int) := by omega
    go_enter Tryz.func4, Tryz.ntmps4
    go_wp2_with (go_at_call 8; refine (awake_tree _).mono ?_; rintro e w1 ⟨rfl, hf1⟩)
    go_ret
    exact ⟨rfl, hf1⟩
  have hlI : ¬ (4000 : Int) < (S.size : Int) := by omega
  have hp := fun u (hT : Tabs u) => parse_any S u (by omega)
  by_cases he : parseE S.data.toList = 0
  · have hst := parse_stands he
    rw [he] at hp
    generalize parseL S.data.toList = L at hp hst
    have hsum := sumK_all hst.std
    have hpos : 0 < L.length := List.length_pos_iff.2 hst.some
    have htop := hst.top
    have hk1 : (kidsL L (-1)).length = 0 := by unfold kidsL; rw [if_neg (by omega)]; rfl
    have hk2 : (kidsL L (L.length : Int)).length = 0 := by unfold kidsL; rw [if_neg (by omega)]; rfl
    have HP := Lib.hid hp; have HST := Lib.hid hst; have HSUM := Lib.hid hsum; have HK1 := Lib.hid hk1; have HK2 := Lib.hid hk2
    clear hp hst hsum hk1 hk2 he
    go_enter Tryz.func4, Tryz.ntmps4
    go_wp2_with (go_at_call 11; refine (HP.out _ (by repeat' first | with_reducible assumption | with_reducible apply Tabs.drew | with_reducible apply Tabs.drewN | with_reducible apply Tabs.alloc | refine Tabs.fr ?_ (by with_reducible assumption) | refine Tabs.dr ?_ (by with_reducible assumption))).mono ?_; rintro e w1 ⟨v, rfl, ho, hf1⟩; obtain ⟨A, c, rfl, hr⟩ := nodes_rd ho)
    have HR := Lib.hid hr
    clear hr ho
    go_loopw [5, 6] (fun nv iv wr => ∃ k : Nat, iv = .int .i64 (k : Int) ∧ nv = .int .i64 ((sumK L k : Nat) : Int) ∧ k ≤ L.length ∧ Fr No w1 wr) (fun _ iv _ => L.length - (intOf iv).toNat)
    case atStart => exact ⟨0, rfl, rfl, Nat.zero_le _, Fr.refl _ _⟩
    case round =>
      obtain ⟨k, rfl, rfl, hk, hfr⟩ := hrel
      have hsm := sumK_small HST.out k hk
      rcases Nat.lt_or_ge k L.length with hlt | hge
      · obtain ⟨ad, cs, rfl, ⟨X, Y, A1, n1, c1, rfl, hX, hY, hA1⟩, hc⟩ := (HR.out.no nod_ok hfr).at_ nod_ok (by omega) (i := k) hlt
        have x0 := hc 0 _ rfl
        have x1 := hc 1 _ rfl
        have x2 := hc 2 _ rfl
        rw [add_next ad] at x1 x2
        obtain ⟨P, hP⟩ : ∃ P, ad.add (k * 4) = P := ⟨_, rfl⟩
        rw [Nat.add_zero, hP] at x0
        rw [hP] at x1 x2
        have hltI : (k : Int) < (L.length : Int) := by omega
        have hpar := HST.out.std.par k hlt
        have hkid := HST.out.kid k hlt
        have hxe : (X.toList == []) = false := by rw [beq_eq_false_iff_ne, s_list, hX]; exact HST.out.std.nm _ (List.getElem_mem hlt)
        have hkl := kidsL_len L (k : Int)
        have hmk := fun u (hu : Fr No w1 u) => kids_len L (some ad) L.length c (k : Int) _ u (HR.out.no nod_ok hu) (by omega) _ rfl
        have hye : (kidsL L (k : Int)).length ≠ 0 → Y = ⟨#[]⟩ := by
          intro hne
          exact s_eq (by rw [hY, hkid (fun e => hne (by rw [e]; rfl))])
        have hsucc : sumK L (k + 1) = sumK L k + (kidsL L (k : Int)).length := rfl
        generalize hp : L[k].parent = p at *
        generalize (kidsL L (k : Int)).length = m at *
        have HMK := Lib.hid hmk; have HFR := Lib.hid hfr; have HS := Lib.hid hsucc
        generalize hsk : sumK L k = sk at *
        have HSK := Lib.hid hsk
        clear hc hX hY hA1 hmk hkid hsucc hfr hsk hp
        have hpc : (k = 0 ∧ p = -1) ∨ (0 < k ∧ 0 ≤ p ∧ p < (k : Int)) := by
          rcases Nat.eq_zero_or_pos k with h | h
          · exact .inl ⟨h, hpar.1 h⟩
          · exact .inr ⟨h, hpar.2 h⟩
        clear hpar
        rcases hpc with ⟨hk0, rfl⟩ | ⟨hk0, hp0, hpk⟩
        · have hkb : ((k : Int) == 0) = true := by rw [beq_iff_eq]; omega
          clear hk0
          by_cases hm : m = 0
          · clear hye
            go_wp2_with (go_at_call 16; refine (HMK.out _ HFR.out).mono ?_; rintro e w2 ⟨A2, c2, rfl, hf2⟩; have y0 := hf2.cell x0 (fun x => x); have y1 := hf2.cell x1 (fun x => x); have y2 := hf2.cell x2 (fun x => x))
            go_roundw
            case rel => exact ⟨k + 1, by go_num, by rw [HS.out]; go_num, hlt, HFR.out.trans hf2⟩
            case measure => simp [intOf]; omega
          · obtain rfl := hye hm
            clear hye
            have hm0 : (0 : Int) < (m : Int) := by omega
            go_wp2_with (go_at_call 16; refine (HMK.out _ HFR.out).mono ?_; rintro e w2 ⟨A2, c2, rfl, hf2⟩; have y0 := hf2.cell x0 (fun x => x); have y1 := hf2.cell x1 (fun x => x); have y2 := hf2.cell x2 (fun x => x))
            go_roundw
            case rel => exact ⟨k + 1, by go_num, by rw [HS.out]; go_num, hlt, HFR.out.trans hf2⟩
            case measure => simp [intOf]; omega
        · have hkb : ((k : Int) == 0) = false := by rw [beq_eq_false_iff_ne]; omega
          have hpb : (p == -1) = false := by rw [beq_eq_false_iff_ne]; omega
          by_cases hm : m = 0
          · clear hye
            go_wp2_with (go_at_call 16; refine (HMK.out _ HFR.out).mono ?_; rintro e w2 ⟨A2, c2, rfl, hf2⟩; have y0 := hf2.cell x0 (fun x => x); have y1 := hf2.cell x1 (fun x => x); have y2 := hf2.cell x2 (fun x => x))
            go_roundw
            case rel => exact ⟨k + 1, by go_num, by rw [HS.out]; go_num, hlt, HFR.out.trans hf2⟩
            case measure => simp [intOf]; omega
          · obtain rfl := hye hm
            clear hye
            have hm0 : (0 : Int) < (m : Int) := by omega
            go_wp2_with (go_at_call 16; refine (HMK.out _ HFR.out).mono ?_; rintro e w2 ⟨A2, c2, rfl, hf2⟩; have y0 := hf2.cell x0 (fun x => x); have y1 := hf2.cell x1 (fun x => x); have y2 := hf2.cell x2 (fun x => x))
            go_roundw
            case rel => exact ⟨k + 1, by go_num, by rw [HS.out]; go_num, hlt, HFR.out.trans hf2⟩
            case measure => simp [intOf]; omega
      · obtain rfl : k = L.length := by omega
        have hs2 : sumK L L.length = L.length - 1 := HSUM.out
        have hs3 : ((sumK L L.length : Nat) : Int) = (L.length : Int) - 1 := by omega
        have hk1 := fun u (hu : Fr No w1 u) => kids_len L A L.length c (-1) _ u (HR.out.no nod_ok hu) (by omega) 0 HK1.out
        have hk2 := fun u (hu : Fr No w1 u) => kids_len L A L.length c (L.length : Int) _ u (HR.out.no nod_ok hu) (by omega) 0 HK2.out
        generalize ((sumK L L.length : Nat) : Int) = sk at *
        have HA := Lib.hid hk1; have HB := Lib.hid hk2
        subst hs3
        clear hk1 hk2 hs2 hsm
        have tok1 : True := trivial
        go_wp2_with (first
          | (go_at_call 8; refine (awake_tree _).mono ?_; rintro e w3 ⟨rfl, hf3⟩; have hf13 := hfr.trans hf3)
          | (go_at_call 16; clear tok1; refine (HA.out _ hf13).mono ?_; rintro e w4 ⟨A4, c4, rfl, hf4⟩; have hf14 := hf13.trans hf4)
          | (go_at_call 16; refine (HB.out _ hf14).mono ?_; rintro e w5 ⟨A5, c5, rfl, hf5⟩))
        go_ret
        exact ⟨rfl, hf1.trans (hf14.trans hf5)⟩
  · have hev : (parseE S.data.toList != 0) = true := by rw [bne_iff_ne]; exact he
    rw [parse_none he] at hp
    generalize parseE S.data.toList = E at *
    have HP := Lib.hid hp
    clear hp he
    go_enter Tryz.func4, Tryz.ntmps4
    go_wp2_with (first
      | (go_at_call 11; refine (HP.out _ (by repeat' first | with_reducible assumption | with_reducible apply Tabs.drew | with_reducible apply Tabs.drewN | with_reducible apply Tabs.alloc | refine Tabs.fr ?_ (by with_reducible assumption) | refine Tabs.dr ?_ (by with_reducible assumption))).mono ?_; rintro e w1 ⟨v, rfl, ho, hf1⟩; obtain ⟨A, c, rfl, hr⟩ := nodes_rd ho)
      | (go_at_call 8; refine (awake_tree _).mono ?_; rintro e w3 ⟨rfl, hf3⟩))
    go_ret
    exact ⟨rfl, hf1.trans hf3⟩
end Go.Proofs.YtdgfpjekahpggaaGreatDoor
