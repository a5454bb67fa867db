/- TreeDeep: so deep, and no deeper; an end too many, one too few, another one; text beside elements: the walk, for every two numbers. -/
import Derived.Test.YtdgfpjekahpggaaGreatDoorTreeMany
import Derived.Test.YtdgfpjekahpggaaGreatDoorTreeDeepM
namespace Go.Proofs.YtdgfpjekahpggaaGreatDoor
open Go.RowKit
set_option maxHeartbeats 400000
set_option linter.unusedVariables false

set_option maxHeartbeats 8000000 in
set_option maxRecDepth 20000 in
attribute [local irreducible] yielded in
theorem deep_walk {x y : Int} (w : World) (hT : Tabs w) (hx : (Lit.int .i64 x).wf = true) (hy : (Lit.int .i64 y).wf = true) : Calls Tryz.prog 5 #[.int .i64 x, .int .i64 y] w fun e w' => e = .returned (.bool true) ∧ Fr No w w' := by
  clear hx hy
  obtain ⟨m, hm, hmx⟩ := umod x 38 (by omega) (by omega)
  obtain ⟨q, hq, hmy⟩ := umod y 6 (by omega) (by omega)
  have hmx : (IntKind.u64.wrap x).tmod 38 = (m : Int) := hmx
  have hmy : (IntKind.u64.wrap y).tmod 6 = (q : Int) := hmy
  go_enter Tryz.func5, Tryz.ntmps5
  go_wp2
  clear hmx
  go_loop [5, 6, 7] (fun sv tv iv => ∃ (k : Nat) (S T : ByteArray), iv = .int .i64 (k : Int) ∧ sv = .string S ∧ tv = .string T ∧ S.data.toList = opL k ∧ T.data.toList = clL k ∧ k ≤ m + 1) (fun _ _ iv => m + 1 - (intOf iv).toNat)
  case atStart => exact ⟨0, ⟨#[]⟩, ⟨#[]⟩, rfl, rfl, rfl, rfl, rfl, Nat.zero_le _⟩
  case round =>
    obtain ⟨k, S, T, rfl, rfl, rfl, hS, hU, hk⟩ := hrel
    have hSs : S.size = k * 3 := by rw [← s_size, hS, op_len]
    have hTs : T.size = k * 4 := by rw [← s_size, hU, cl_len]
    have HS := Lib.hid hS; have HU := Lib.hid hU; have HSS := Lib.hid hSs; have HTS := Lib.hid hTs
    have hb1 : S.size ≤ 200 := by omega
    have hb2 : T.size ≤ 200 := by omega
    have hb3 : k = 0 ∨ 4 ≤ T.size := by omega
    clear hS hU hSs hTs
    rcases Nat.lt_or_ge k (m + 1) with h | h
    · have hI : (k : Int) < 1 + (m : Int) := by omega
      go_wp2
      go_round
      case rel => exact ⟨k + 1, S ++ ⟨#[60, 97, 62]⟩, T ++ ⟨#[60, 47, 97, 62]⟩, by go_num, rfl, rfl, by rw [s_app, HS.out]; exact (rep_succ' k _).symm, by rw [s_app, HU.out]; exact (rep_succ' k _).symm, h⟩
      case measure => simp [intOf]; omega
    obtain rfl : k = m + 1 := by omega
    have hI : ¬ ((m + 1 : Nat) : Int) < 1 + (m : Int) := by omega
    have hb4 : (4 : Int) ≤ (T.size : Int) := by omega
    clear h hk hb3
    obtain ⟨X, hX⟩ : ∃ X, (S ++ ⟨#[32, 120]⟩) ++ T = X := ⟨_, rfl⟩
    have hXl : X.data.toList = opL (m + 1) ++ [32, 120] ++ clL (m + 1) := by rw [← hX, s_app, s_app, HS.out, HU.out]
    have hXs : X.size ≤ 65536 := by rw [← s_size, hXl]; simp [op_len, cl_len]; omega
    have hp := fun u (hT : Tabs u) => parse_any X u hXs
    rw [hXl] at hp
    by_cases hbig : 32 < m + 1
    · have hbI : (32 : Int) < 1 + (m : Int) := by omega
      obtain ⟨e1, e2⟩ := deep_parse_no (m + 1) hbig (by omega)
      rw [e1, e2] at hp
      have HP := Lib.hid hp
      clear hp e1 e2 hXl hXs hmy
      go_wp2_with (first
        | (go_at_call 11; refine (HP.out _ (by repeat' first | with_reducible assumption | with_reducible apply Tabs.drew | with_reducible apply Tabs.drewN | with_reducible apply Tabs.alloc | refine Tabs.fr ?_ (by with_reducible assumption) | refine Tabs.dr ?_ (by with_reducible assumption))).mono ?_; rintro e w2 ⟨v, rfl, ho2, hf2⟩; obtain ⟨A2, c2, rfl, hr2⟩ := nodes_rdl ho2 rfl)
        | (go_at_call 8; refine (awake_tree _).mono ?_; rintro e w3 ⟨rfl, hf3⟩))
      go_ret
      exact ⟨rfl, hf2.trans hf3⟩
    have hbI : ¬ (32 : Int) < 1 + (m : Int) := by omega
    obtain ⟨e1, e2, e3⟩ := deep_parse (m + 1) (by omega) (by omega)
    rw [e1] at hp
    generalize parseL (opL (m + 1) ++ [32, 120] ++ clL (m + 1)) = L at *
    obtain ⟨Z, hZ⟩ : ∃ Z, ((((⟨#[32]⟩ ++ S) ++ ⟨#[32, 10, 32]⟩) ++ T) ++ ⟨#[9]⟩) = Z := ⟨_, rfl⟩
    have hZl : Z.data.toList = [32] ++ opL (m + 1) ++ [32, 10, 32] ++ clL (m + 1) ++ [9] := by rw [← hZ, s_app, s_app, s_app, s_app, HS.out, HU.out]
    have hZs : Z.size ≤ 65536 := by rw [← s_size, hZl]; simp [op_len, cl_len]; omega
    have hpz := fun u (hT : Tabs u) => parse_any Z u hZs
    rw [hZl] at hpz
    obtain ⟨z1, z2, z3⟩ := blank_parse (m + 1) (by omega) (by omega)
    rw [z1] at hpz
    generalize parseL ([32] ++ opL (m + 1) ++ [32, 10, 32] ++ clL (m + 1) ++ [9]) = M at *
    have HP := Lib.hid hp; have HPZ := Lib.hid hpz; have E2 := Lib.hid (show L.length = 1 + m by omega); have E3 := Lib.hid e3; have Z2 := Lib.hid (show M.length = 1 + m by omega); have Z3 := Lib.hid z3
    clear hp hpz e1 e2 e3 z1 z2 z3 hXl hXs hZl hZs
    obtain rfl | rfl | rfl | rfl | rfl | rfl : q = 0 ∨ q = 1 ∨ q = 2 ∨ q = 3 ∨ q = 4 ∨ q = 5 := by omega
    -- CASES
    · obtain ⟨B, hB⟩ : ∃ B, S ++ T.extract 0 (T.size - 4) = B := ⟨_, rfl⟩
      have hBl : B.data.toList = badL (m + 1) 0 := by
        rw [← hB, s_app, s_ext, List.drop_zero, Nat.sub_zero, HS.out, HU.out]
        rw [HTS.out, cl_take (m + 1) (by omega)]
        rfl
      have hbp := bad_parse (m + 1) 0 (by omega) (by omega) (fun h => by omega)
      have hpb := fun u (hT : Tabs u) => parse_any B u (by rw [← s_size, hBl]; exact bad_len _ _ (by omega))
      rw [hBl, hbp] at hpb
      generalize parseL (badL (m + 1) 0) = LB at *
      have HB := Lib.hid hpb
      clear hpb hbp hBl
      have tok1 : True := trivial
      have tok2 : True := trivial
      go_wp2_with (first
        | (go_at_call 11; clear tok1; refine (HP.out _ (by repeat' first | with_reducible assumption | with_reducible apply Tabs.drew | with_reducible apply Tabs.drewN | with_reducible apply Tabs.alloc | refine Tabs.fr ?_ (by with_reducible assumption) | refine Tabs.dr ?_ (by with_reducible assumption))).mono ?_; rintro e w2 ⟨v, rfl, ho2, hf2⟩; obtain ⟨A2, c2, rfl, hr2⟩ := nodes_rdl ho2 E2.out; obtain ⟨ad, YX, rfl, hcX, hYX⟩ := nod_text hr2 E3.out; have hqX : (YX.toList == [32, 120]) = true := (by rw [beq_iff_eq, s_list, hYX]); rw [show m + 1 - 1 = m from rfl] at hcX)
        | (go_at_call 11; clear tok2; refine (HB.out _ (by repeat' first | with_reducible assumption | with_reducible apply Tabs.drew | with_reducible apply Tabs.drewN | with_reducible apply Tabs.alloc | refine Tabs.fr ?_ (by with_reducible assumption) | refine Tabs.dr ?_ (by with_reducible assumption))).mono ?_; rintro e w4 ⟨v4, rfl, ho4, hf4⟩; obtain ⟨A4, c4, rfl, hr4⟩ := nodes_rd ho4; have hcX4 := hf4.cell hcX (fun x => x))
        | (go_at_call 11; refine (HPZ.out _ (by repeat' first | with_reducible assumption | with_reducible apply Tabs.drew | with_reducible apply Tabs.drewN | with_reducible apply Tabs.alloc | refine Tabs.fr ?_ (by with_reducible assumption) | refine Tabs.dr ?_ (by with_reducible assumption))).mono ?_; rintro e w5 ⟨v5, rfl, ho5, hf5⟩; obtain ⟨A5, c5, rfl, hr5⟩ := nodes_rdl ho5 Z2.out; obtain ⟨bd, YZ, rfl, hcZ, hYZ⟩ := nod_text hr5 Z3.out; have hqZ : (YZ.toList == [32, 10, 32]) = true := (by rw [beq_iff_eq, s_list, hYZ]); rw [show m + 1 - 1 = m from rfl] at hcZ; have hcX5 := hf5.cell hcX4 (fun x => x))
        | (go_at_call 8; refine (awake_tree _).mono ?_; rintro e w6 ⟨rfl, hf6⟩; have hcX6 := hf6.cell hcX5 (fun x => x); have hcZ6 := hf6.cell hcZ (fun x => x); obtain ⟨P1, hP1⟩ : ∃ P1, ad.add (m * 4) = P1 := ⟨_, rfl⟩; obtain ⟨P2, hP2⟩ : ∃ P2, bd.add (m * 4) = P2 := ⟨_, rfl⟩; rw [hP1] at hcX6; rw [hP2] at hcZ6))
      go_ret
      exact ⟨rfl, ((hf2.trans hf4).trans hf5).trans hf6⟩
    · obtain ⟨B, hB⟩ : ∃ B, (S ++ T) ++ ⟨#[60, 98, 47, 62]⟩ = B := ⟨_, rfl⟩
      have hBl : B.data.toList = badL (m + 1) 1 := by
        rw [← hB, s_app, s_app, HS.out, HU.out]
        rfl
      have hbp := bad_parse (m + 1) 1 (by omega) (by omega) (fun h => by omega)
      have hpb := fun u (hT : Tabs u) => parse_any B u (by rw [← s_size, hBl]; exact bad_len _ _ (by omega))
      rw [hBl, hbp] at hpb
      generalize parseL (badL (m + 1) 1) = LB at *
      have HB := Lib.hid hpb
      clear hpb hbp hBl
      have tok1 : True := trivial
      have tok2 : True := trivial
      go_wp2_with (first
        | (go_at_call 11; clear tok1; refine (HP.out _ (by repeat' first | with_reducible assumption | with_reducible apply Tabs.drew | with_reducible apply Tabs.drewN | with_reducible apply Tabs.alloc | refine Tabs.fr ?_ (by with_reducible assumption) | refine Tabs.dr ?_ (by with_reducible assumption))).mono ?_; rintro e w2 ⟨v, rfl, ho2, hf2⟩; obtain ⟨A2, c2, rfl, hr2⟩ := nodes_rdl ho2 E2.out; obtain ⟨ad, YX, rfl, hcX, hYX⟩ := nod_text hr2 E3.out; have hqX : (YX.toList == [32, 120]) = true := (by rw [beq_iff_eq, s_list, hYX]); rw [show m + 1 - 1 = m from rfl] at hcX)
        | (go_at_call 11; clear tok2; refine (HB.out _ (by repeat' first | with_reducible assumption | with_reducible apply Tabs.drew | with_reducible apply Tabs.drewN | with_reducible apply Tabs.alloc | refine Tabs.fr ?_ (by with_reducible assumption) | refine Tabs.dr ?_ (by with_reducible assumption))).mono ?_; rintro e w4 ⟨v4, rfl, ho4, hf4⟩; obtain ⟨A4, c4, rfl, hr4⟩ := nodes_rd ho4; have hcX4 := hf4.cell hcX (fun x => x))
        | (go_at_call 11; refine (HPZ.out _ (by repeat' first | with_reducible assumption | with_reducible apply Tabs.drew | with_reducible apply Tabs.drewN | with_reducible apply Tabs.alloc | refine Tabs.fr ?_ (by with_reducible assumption) | refine Tabs.dr ?_ (by with_reducible assumption))).mono ?_; rintro e w5 ⟨v5, rfl, ho5, hf5⟩; obtain ⟨A5, c5, rfl, hr5⟩ := nodes_rdl ho5 Z2.out; obtain ⟨bd, YZ, rfl, hcZ, hYZ⟩ := nod_text hr5 Z3.out; have hqZ : (YZ.toList == [32, 10, 32]) = true := (by rw [beq_iff_eq, s_list, hYZ]); rw [show m + 1 - 1 = m from rfl] at hcZ; have hcX5 := hf5.cell hcX4 (fun x => x))
        | (go_at_call 8; refine (awake_tree _).mono ?_; rintro e w6 ⟨rfl, hf6⟩; have hcX6 := hf6.cell hcX5 (fun x => x); have hcZ6 := hf6.cell hcZ (fun x => x); obtain ⟨P1, hP1⟩ : ∃ P1, ad.add (m * 4) = P1 := ⟨_, rfl⟩; obtain ⟨P2, hP2⟩ : ∃ P2, bd.add (m * 4) = P2 := ⟨_, rfl⟩; rw [hP1] at hcX6; rw [hP2] at hcZ6))
      go_ret
      exact ⟨rfl, ((hf2.trans hf4).trans hf5).trans hf6⟩
    · obtain ⟨B, hB⟩ : ∃ B, (S ++ T.extract 0 (T.size - 4)) ++ ⟨#[60, 47, 98, 62]⟩ = B := ⟨_, rfl⟩
      have hBl : B.data.toList = badL (m + 1) 2 := by
        rw [← hB, s_app, s_app, s_ext, List.drop_zero, Nat.sub_zero, HS.out, HU.out]
        rw [HTS.out, cl_take (m + 1) (by omega)]
        rfl
      have hbp := bad_parse (m + 1) 2 (by omega) (by omega) (fun h => by omega)
      have hpb := fun u (hT : Tabs u) => parse_any B u (by rw [← s_size, hBl]; exact bad_len _ _ (by omega))
      rw [hBl, hbp] at hpb
      generalize parseL (badL (m + 1) 2) = LB at *
      have HB := Lib.hid hpb
      clear hpb hbp hBl
      have tok1 : True := trivial
      have tok2 : True := trivial
      go_wp2_with (first
        | (go_at_call 11; clear tok1; refine (HP.out _ (by repeat' first | with_reducible assumption | with_reducible apply Tabs.drew | with_reducible apply Tabs.drewN | with_reducible apply Tabs.alloc | refine Tabs.fr ?_ (by with_reducible assumption) | refine Tabs.dr ?_ (by with_reducible assumption))).mono ?_; rintro e w2 ⟨v, rfl, ho2, hf2⟩; obtain ⟨A2, c2, rfl, hr2⟩ := nodes_rdl ho2 E2.out; obtain ⟨ad, YX, rfl, hcX, hYX⟩ := nod_text hr2 E3.out; have hqX : (YX.toList == [32, 120]) = true := (by rw [beq_iff_eq, s_list, hYX]); rw [show m + 1 - 1 = m from rfl] at hcX)
        | (go_at_call 11; clear tok2; refine (HB.out _ (by repeat' first | with_reducible assumption | with_reducible apply Tabs.drew | with_reducible apply Tabs.drewN | with_reducible apply Tabs.alloc | refine Tabs.fr ?_ (by with_reducible assumption) | refine Tabs.dr ?_ (by with_reducible assumption))).mono ?_; rintro e w4 ⟨v4, rfl, ho4, hf4⟩; obtain ⟨A4, c4, rfl, hr4⟩ := nodes_rd ho4; have hcX4 := hf4.cell hcX (fun x => x))
        | (go_at_call 11; refine (HPZ.out _ (by repeat' first | with_reducible assumption | with_reducible apply Tabs.drew | with_reducible apply Tabs.drewN | with_reducible apply Tabs.alloc | refine Tabs.fr ?_ (by with_reducible assumption) | refine Tabs.dr ?_ (by with_reducible assumption))).mono ?_; rintro e w5 ⟨v5, rfl, ho5, hf5⟩; obtain ⟨A5, c5, rfl, hr5⟩ := nodes_rdl ho5 Z2.out; obtain ⟨bd, YZ, rfl, hcZ, hYZ⟩ := nod_text hr5 Z3.out; have hqZ : (YZ.toList == [32, 10, 32]) = true := (by rw [beq_iff_eq, s_list, hYZ]); rw [show m + 1 - 1 = m from rfl] at hcZ; have hcX5 := hf5.cell hcX4 (fun x => x))
        | (go_at_call 8; refine (awake_tree _).mono ?_; rintro e w6 ⟨rfl, hf6⟩; have hcX6 := hf6.cell hcX5 (fun x => x); have hcZ6 := hf6.cell hcZ (fun x => x); obtain ⟨P1, hP1⟩ : ∃ P1, ad.add (m * 4) = P1 := ⟨_, rfl⟩; obtain ⟨P2, hP2⟩ : ∃ P2, bd.add (m * 4) = P2 := ⟨_, rfl⟩; rw [hP1] at hcX6; rw [hP2] at hcZ6))
      go_ret
      exact ⟨rfl, ((hf2.trans hf4).trans hf5).trans hf6⟩
    · obtain ⟨B, hB⟩ : ∃ B, (S ++ T) ++ ⟨#[120]⟩ = B := ⟨_, rfl⟩
      have hBl : B.data.toList = badL (m + 1) 3 := by
        rw [← hB, s_app, s_app, HS.out, HU.out]
        rfl
      have hbp := bad_parse (m + 1) 3 (by omega) (by omega) (fun h => by omega)
      have hpb := fun u (hT : Tabs u) => parse_any B u (by rw [← s_size, hBl]; exact bad_len _ _ (by omega))
      rw [hBl, hbp] at hpb
      generalize parseL (badL (m + 1) 3) = LB at *
      have HB := Lib.hid hpb
      clear hpb hbp hBl
      have tok1 : True := trivial
      have tok2 : True := trivial
      go_wp2_with (first
        | (go_at_call 11; clear tok1; refine (HP.out _ (by repeat' first | with_reducible assumption | with_reducible apply Tabs.drew | with_reducible apply Tabs.drewN | with_reducible apply Tabs.alloc | refine Tabs.fr ?_ (by with_reducible assumption) | refine Tabs.dr ?_ (by with_reducible assumption))).mono ?_; rintro e w2 ⟨v, rfl, ho2, hf2⟩; obtain ⟨A2, c2, rfl, hr2⟩ := nodes_rdl ho2 E2.out; obtain ⟨ad, YX, rfl, hcX, hYX⟩ := nod_text hr2 E3.out; have hqX : (YX.toList == [32, 120]) = true := (by rw [beq_iff_eq, s_list, hYX]); rw [show m + 1 - 1 = m from rfl] at hcX)
        | (go_at_call 11; clear tok2; refine (HB.out _ (by repeat' first | with_reducible assumption | with_reducible apply Tabs.drew | with_reducible apply Tabs.drewN | with_reducible apply Tabs.alloc | refine Tabs.fr ?_ (by with_reducible assumption) | refine Tabs.dr ?_ (by with_reducible assumption))).mono ?_; rintro e w4 ⟨v4, rfl, ho4, hf4⟩; obtain ⟨A4, c4, rfl, hr4⟩ := nodes_rd ho4; have hcX4 := hf4.cell hcX (fun x => x))
        | (go_at_call 11; refine (HPZ.out _ (by repeat' first | with_reducible assumption | with_reducible apply Tabs.drew | with_reducible apply Tabs.drewN | with_reducible apply Tabs.alloc | refine Tabs.fr ?_ (by with_reducible assumption) | refine Tabs.dr ?_ (by with_reducible assumption))).mono ?_; rintro e w5 ⟨v5, rfl, ho5, hf5⟩; obtain ⟨A5, c5, rfl, hr5⟩ := nodes_rdl ho5 Z2.out; obtain ⟨bd, YZ, rfl, hcZ, hYZ⟩ := nod_text hr5 Z3.out; have hqZ : (YZ.toList == [32, 10, 32]) = true := (by rw [beq_iff_eq, s_list, hYZ]); rw [show m + 1 - 1 = m from rfl] at hcZ; have hcX5 := hf5.cell hcX4 (fun x => x))
        | (go_at_call 8; refine (awake_tree _).mono ?_; rintro e w6 ⟨rfl, hf6⟩; have hcX6 := hf6.cell hcX5 (fun x => x); have hcZ6 := hf6.cell hcZ (fun x => x); obtain ⟨P1, hP1⟩ : ∃ P1, ad.add (m * 4) = P1 := ⟨_, rfl⟩; obtain ⟨P2, hP2⟩ : ∃ P2, bd.add (m * 4) = P2 := ⟨_, rfl⟩; rw [hP1] at hcX6; rw [hP2] at hcZ6))
      go_ret
      exact ⟨rfl, ((hf2.trans hf4).trans hf5).trans hf6⟩
    · by_cases h32 : m + 1 = 32
      · have h32b : (1 + (m : Int) == 32) = true := by rw [beq_iff_eq]; omega
        clear h32
        go_wp2_with (first
          | (go_at_call 11; refine (HP.out _ (by repeat' first | with_reducible assumption | with_reducible apply Tabs.drew | with_reducible apply Tabs.drewN | with_reducible apply Tabs.alloc | refine Tabs.fr ?_ (by with_reducible assumption) | refine Tabs.dr ?_ (by with_reducible assumption))).mono ?_; rintro e w2 ⟨v, rfl, ho2, hf2⟩; obtain ⟨A2, c2, rfl, hr2⟩ := nodes_rdl ho2 E2.out)
          | (go_at_call 8; refine (awake_tree _).mono ?_; rintro e w6 ⟨rfl, hf6⟩))
        go_ret
        exact ⟨rfl, hf2.trans hf6⟩
      have h32b : (1 + (m : Int) == 32) = false := by rw [beq_eq_false_iff_ne]; omega
      obtain ⟨B, hB⟩ : ∃ B, (S ++ ⟨#[60, 98, 47, 62, 120]⟩) ++ T = B := ⟨_, rfl⟩
      have hBl : B.data.toList = badL (m + 1) 4 := by
        rw [← hB, s_app, s_app, HS.out, HU.out]
        rfl
      have hbp := bad_parse (m + 1) 4 (by omega) (by omega) (fun h => by omega)
      have hpb := fun u (hT : Tabs u) => parse_any B u (by rw [← s_size, hBl]; exact bad_len _ _ (by omega))
      rw [hBl, hbp] at hpb
      generalize parseL (badL (m + 1) 4) = LB at *
      have HB := Lib.hid hpb
      clear hpb hbp hBl h32
      have tok1 : True := trivial
      have tok2 : True := trivial
      go_wp2_with (first
        | (go_at_call 11; clear tok1; refine (HP.out _ (by repeat' first | with_reducible assumption | with_reducible apply Tabs.drew | with_reducible apply Tabs.drewN | with_reducible apply Tabs.alloc | refine Tabs.fr ?_ (by with_reducible assumption) | refine Tabs.dr ?_ (by with_reducible assumption))).mono ?_; rintro e w2 ⟨v, rfl, ho2, hf2⟩; obtain ⟨A2, c2, rfl, hr2⟩ := nodes_rdl ho2 E2.out; obtain ⟨ad, YX, rfl, hcX, hYX⟩ := nod_text hr2 E3.out; have hqX : (YX.toList == [32, 120]) = true := (by rw [beq_iff_eq, s_list, hYX]); rw [show m + 1 - 1 = m from rfl] at hcX)
        | (go_at_call 11; clear tok2; refine (HB.out _ (by repeat' first | with_reducible assumption | with_reducible apply Tabs.drew | with_reducible apply Tabs.drewN | with_reducible apply Tabs.alloc | refine Tabs.fr ?_ (by with_reducible assumption) | refine Tabs.dr ?_ (by with_reducible assumption))).mono ?_; rintro e w4 ⟨v4, rfl, ho4, hf4⟩; obtain ⟨A4, c4, rfl, hr4⟩ := nodes_rd ho4; have hcX4 := hf4.cell hcX (fun x => x))
        | (go_at_call 11; refine (HPZ.out _ (by repeat' first | with_reducible assumption | with_reducible apply Tabs.drew | with_reducible apply Tabs.drewN | with_reducible apply Tabs.alloc | refine Tabs.fr ?_ (by with_reducible assumption) | refine Tabs.dr ?_ (by with_reducible assumption))).mono ?_; rintro e w5 ⟨v5, rfl, ho5, hf5⟩; obtain ⟨A5, c5, rfl, hr5⟩ := nodes_rdl ho5 Z2.out; obtain ⟨bd, YZ, rfl, hcZ, hYZ⟩ := nod_text hr5 Z3.out; have hqZ : (YZ.toList == [32, 10, 32]) = true := (by rw [beq_iff_eq, s_list, hYZ]); rw [show m + 1 - 1 = m from rfl] at hcZ; have hcX5 := hf5.cell hcX4 (fun x => x))
        | (go_at_call 8; refine (awake_tree _).mono ?_; rintro e w6 ⟨rfl, hf6⟩; have hcX6 := hf6.cell hcX5 (fun x => x); have hcZ6 := hf6.cell hcZ (fun x => x); obtain ⟨P1, hP1⟩ : ∃ P1, ad.add (m * 4) = P1 := ⟨_, rfl⟩; obtain ⟨P2, hP2⟩ : ∃ P2, bd.add (m * 4) = P2 := ⟨_, rfl⟩; rw [hP1] at hcX6; rw [hP2] at hcZ6))
      go_ret
      exact ⟨rfl, ((hf2.trans hf4).trans hf5).trans hf6⟩
    · obtain ⟨B, hB⟩ : ∃ B, (S ++ T) ++ ⟨#[60, 47, 97, 62]⟩ = B := ⟨_, rfl⟩
      have hBl : B.data.toList = badL (m + 1) 5 := by
        rw [← hB, s_app, s_app, HS.out, HU.out]
        rfl
      have hbp := bad_parse (m + 1) 5 (by omega) (by omega) (fun h => by omega)
      have hpb := fun u (hT : Tabs u) => parse_any B u (by rw [← s_size, hBl]; exact bad_len _ _ (by omega))
      rw [hBl, hbp] at hpb
      generalize parseL (badL (m + 1) 5) = LB at *
      have HB := Lib.hid hpb
      clear hpb hbp hBl
      have tok1 : True := trivial
      have tok2 : True := trivial
      go_wp2_with (first
        | (go_at_call 11; clear tok1; refine (HP.out _ (by repeat' first | with_reducible assumption | with_reducible apply Tabs.drew | with_reducible apply Tabs.drewN | with_reducible apply Tabs.alloc | refine Tabs.fr ?_ (by with_reducible assumption) | refine Tabs.dr ?_ (by with_reducible assumption))).mono ?_; rintro e w2 ⟨v, rfl, ho2, hf2⟩; obtain ⟨A2, c2, rfl, hr2⟩ := nodes_rdl ho2 E2.out; obtain ⟨ad, YX, rfl, hcX, hYX⟩ := nod_text hr2 E3.out; have hqX : (YX.toList == [32, 120]) = true := (by rw [beq_iff_eq, s_list, hYX]); rw [show m + 1 - 1 = m from rfl] at hcX)
        | (go_at_call 11; clear tok2; refine (HB.out _ (by repeat' first | with_reducible assumption | with_reducible apply Tabs.drew | with_reducible apply Tabs.drewN | with_reducible apply Tabs.alloc | refine Tabs.fr ?_ (by with_reducible assumption) | refine Tabs.dr ?_ (by with_reducible assumption))).mono ?_; rintro e w4 ⟨v4, rfl, ho4, hf4⟩; obtain ⟨A4, c4, rfl, hr4⟩ := nodes_rd ho4; have hcX4 := hf4.cell hcX (fun x => x))
        | (go_at_call 11; refine (HPZ.out _ (by repeat' first | with_reducible assumption | with_reducible apply Tabs.drew | with_reducible apply Tabs.drewN | with_reducible apply Tabs.alloc | refine Tabs.fr ?_ (by with_reducible assumption) | refine Tabs.dr ?_ (by with_reducible assumption))).mono ?_; rintro e w5 ⟨v5, rfl, ho5, hf5⟩; obtain ⟨A5, c5, rfl, hr5⟩ := nodes_rdl ho5 Z2.out; obtain ⟨bd, YZ, rfl, hcZ, hYZ⟩ := nod_text hr5 Z3.out; have hqZ : (YZ.toList == [32, 10, 32]) = true := (by rw [beq_iff_eq, s_list, hYZ]); rw [show m + 1 - 1 = m from rfl] at hcZ; have hcX5 := hf5.cell hcX4 (fun x => x))
        | (go_at_call 8; refine (awake_tree _).mono ?_; rintro e w6 ⟨rfl, hf6⟩; have hcX6 := hf6.cell hcX5 (fun x => x); have hcZ6 := hf6.cell hcZ (fun x => x); obtain ⟨P1, hP1⟩ : ∃ P1, ad.add (m * 4) = P1 := ⟨_, rfl⟩; obtain ⟨P2, hP2⟩ : ∃ P2, bd.add (m * 4) = P2 := ⟨_, rfl⟩; rw [hP1] at hcX6; rw [hP2] at hcZ6))
      go_ret
      exact ⟨rfl, ((hf2.trans hf4).trans hf5).trans hf6⟩
end Go.Proofs.YtdgfpjekahpggaaGreatDoor
