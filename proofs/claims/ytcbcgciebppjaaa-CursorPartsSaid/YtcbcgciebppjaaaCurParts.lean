/- CursorParts: read in whatever parts, bytes are what they are at once; refused, nothing is read. The walk, for every list of bytes, of parts, and number. -/
import Derived.Test.YtcbcgciebppjaaaCurAwake
namespace Go.Proofs.Ytcbcgciebppjaaa
open Go.RowKit Go.ChangeShapes Go.WideShapes Go.ChangeAt
set_option maxHeartbeats 800000
set_option linter.unusedVariables false

/-- what 'int(uint(p) % b)' makes -/
theorem rem_nat (p b : Int) (hb : 0 < b) : ∃ m : Nat, (IntKind.u64.wrap p).tmod b = (m : Int) ∧ (m : Int) < b := by
  have hw : 0 ≤ IntKind.u64.wrap p := by rw [IntKind.wrap_u64]; omega
  rw [Int.tmod_eq_emod_of_nonneg hw]
  have h0 : 0 ≤ IntKind.u64.wrap p % b := Int.emod_nonneg _ (by omega)
  have h1 : IntKind.u64.wrap p % b < b := Int.emod_lt_of_pos _ hb
  obtain ⟨m, hm⟩ := Int.eq_ofNat_of_zero_le h0
  exact ⟨m, hm, by omega⟩

/-- all that is left -/
theorem take_rest {B : Nat} (g : Nat) (b : List UInt8) (k : Nat) (w : World) (h : Cur w B g b k) (hb : b.length ≤ 140737488355328) :
    Calls Try.prog 14 #[.pointer (some ⟨g, 0, none⟩), .int .i64 ((b.length : Int) - (k : Int))] w fun e w' => ∃ v, e = .returned (.tuple #[v, .int .i64 0]) ∧
      w'.ownsRow w.heap.size 5 1 v (b.length - k) (u8s (b.drop k)) ∧ Cur w' B g b b.length ∧ Fr (Just g) w w' := by
  have hk := h.le.1
  have h1 := take_ok g (b.length - k) b k w h (by omega) hb
  rw [show ((b.length - k : Nat) : Int) = (b.length : Int) - (k : Int) from by omega] at h1
  refine h1.mono ?_
  rintro e w' ⟨v, rfl, h2, h3, h4⟩
  rw [List.take_of_length_le (by simp)] at h2
  rw [show k + (b.length - k) = b.length from by omega] at h3
  exact ⟨v, rfl, h2, h3, h4⟩

set_option maxRecDepth 100000 in
set_option maxHeartbeats 4000000 in
theorem parts_walk {A B : Option Addr} {n c m d : Nat} {l : List UInt8} {zs : List Int} {z : Int} (w : World) (ha : Rd w A n c (u8s l)) (hb : Rd w B m d (zs.map (Value.int .i64))) (hzs : ∀ x ∈ zs, (Lit.int .i64 x).wf = true) (hz : (Lit.int .i64 z).wf = true) :
    Calls Try.prog 6 #[.slice A n c, .slice B m d, .int .i64 z] w fun e w' => e = .returned (.bool true) ∧ Fr No w w' := by
  rcases Nat.lt_or_ge 300 n with hn | hn
  · go_enter Try.func6, Try.ntmps6
    go_wp2_with (go_at_call 7; refine (awake_any _).mono ?_; rintro e w1 ⟨rfl, hf⟩)
    go_ret
    exact ⟨rfl, hf⟩
  have hl : l.length ≤ 300 := by have := ha.len; rw [u8s_length] at this; omega
  obtain ⟨q, hq, hq1⟩ := rem_nat z 100 (by omega)
  go_enter Try.func6, Try.ntmps6
  go_wp2_with (first
    | (go_at_call 9; refine (new_any _ _ _ l _ ha (by omega)).mono ?_; rintro e wN ⟨g, rfl, hg, hc1, hf1⟩)
    | (go_at_call 7; refine (awake_any _).mono ?_; rintro e wM ⟨rfl, hf2⟩))
  have hc2 := hc1.no hf2
  have hF2 := hf1.trans hf2
  have hNB : w.heap.size ≤ wN.heap.size := hf1.size
  generalize wN.heap.size = B0 at *
  clear hc1 hf1 hf2
  go_loopw [8, 9] (fun r i wr => ∃ j k : Nat, j ≤ m ∧ j ≤ 30 ∧ i = .int .i64 (j : Int) ∧ Cur wr B0 g l k ∧ wr.ownsRow B0 5 1 r k (u8s (l.take k)) ∧ Fr No w wr) (fun _ i _ => 30 - (intOf i).toNat)
  case atStart => exact ⟨0, 0, by omega, by omega, rfl, hc2, World.ownsRow_nil _ _ _ _, hF2⟩
  case round =>
    obtain ⟨j, k, hj, hj30, rfl, hc, ho, hF⟩ := hrel
    obtain ⟨hkl, _⟩ := hc.le
    obtain ⟨hgB, hBw⟩ := hc.bound
    obtain ⟨R, rc, rfl, hr8, hRb⟩ := Rd.of_own ho
    by_cases hlt : j < m ∧ j < 30
    · obtain ⟨hjm, hj3⟩ := hlt
      obtain ⟨ad, u, rfl, hu, hcell⟩ := (hb.no hF).at_ hjm
      rw [List.getElem?_map, Option.map_eq_some_iff] at hu
      obtain ⟨pz, _, rfl⟩ := hu
      obtain ⟨p, hp, hp1⟩ := rem_nat pz 20 (by omega)
      rcases Nat.lt_or_ge l.length (k + p) with hs | hs
      · go_wp2_with (first
          | (go_at_call 14; (with_reducible refine (take_short g (p : Int) l k _ hc (by omega) (by omega)).mono ?_); rintro e w1 ⟨rfl, hd1⟩)
          | (go_at_call 17; (with_reducible refine (at_any g l k w1 (hc.dr hd1)).mono ?_); rintro e w2 ⟨rfl, hd2⟩)
          | (go_at_call 16; refine (left_any g l k _ ((hc.dr hd1).dr hd2)).mono ?_; rintro e w3 ⟨rfl, hd3⟩)
          | (go_at_call 14; (with_reducible refine (take_short g _ l k w3 (((hc.dr hd1).dr hd2).dr hd3) (by omega) (by omega)).mono ?_); rintro e w4 ⟨rfl, hd4⟩)
          | (go_at_call 12; refine (number_arg g _ _ (by omega)).mono ?_; rintro e w5 ⟨rfl, hd5⟩)
          | (go_at_call 14; (with_reducible refine (take_neg g _ w5 (by omega)).mono ?_); rintro e w6 ⟨rfl, hd6⟩)
          | (go_at_call 17; (with_reducible refine (at_any g l k w6 ((((((hc.dr hd1).dr hd2).dr hd3).dr hd4).dr hd5).dr hd6)).mono ?_); rintro e w7 ⟨rfl, hd7⟩))
        go_roundw
        case rel =>
          have hD : Dr wr w7 := (((((hd1.trans hd2).trans hd3).trans hd4).trans hd5).trans hd6).trans hd7
          exact ⟨j + 1, k, by omega, by omega, by go_num, hc.dr hD, hD.fr.own (S := No) ho (fun _ _ x => x), hF.dr hD⟩
        case measure => simp [intOf]; omega
      · have hj2 : l.take k ++ (l.drop k).take p = l.take (k + p) := by rw [List.take_add]
        have HJ := Lib.hid hj2
        clear hj2
        go_wp2_with (first
          | (go_at_call 14; (with_reducible refine (take_ok g p l k wr hc hs (by omega)).mono ?_); rintro e w1 ⟨v, rfl, hv1, hc1, hf1⟩; obtain ⟨V, vc, rfl, hrv, hVb⟩ := Rd.of_own hv1)
          | (at_builtin; go_must (refine ap8 w1 rfl (.tmp 57) (.tmp 58) rfl B0 (.slice R k rc) k (l.take k) rfl (hf1.own ho (fun G e e2 => by have := (ho.lt G e).1; rw [show G = g from e2] at this; omega)) V p vc _ rfl hrv (by omega) (Nat.le_trans hBw hf1.size) ?_); intro r8 w8 ho8 hg8 hr8'; rw [HJ.out] at ho8; obtain ⟨R8, rc8, rfl, hrd8, hRb8⟩ := Rd.of_own ho8))
        have hS8 : Fr (fun i => (Value.slice R k rc).ownBlock = some i) w1 w8 := (Fr.refl _ w1).grown hg8 (fun G e => .inl e)
        have hc8 : Cur w8 B0 g l (k + p) := hc1.fr hS8 (fun i hi e => by have := (ho.lt i e).1; omega)
        have hF1 : Fr No w w1 := hF.trans_new hf1 (fun i hi => .inr (by rw [show i = g from hi]; exact hg))
        have hF8 : Fr No w w8 := hF1.grown hg8 (fun G e => .inr (Nat.le_trans hNB (ho.lt G e).1))
        have hk8 : k + p ≤ l.length := hs
        clear hS8 hc1 hf1 hg8 hr8' hv1 hrv HJ
        go_wp2_with (first
          | (go_at_call 17; (with_reducible refine (at_any g l (k + p) w8 hc8).mono ?_); rintro e w2 ⟨rfl, hd2⟩)
          | (go_at_call 16; refine (left_any g l (k + p) _ (hc8.dr hd2)).mono ?_; rintro e w3 ⟨rfl, hd3⟩)
          | (go_at_call 14; (with_reducible refine (take_short g _ l (k + p) w3 ((hc8.dr hd2).dr hd3) (by omega) (by omega)).mono ?_); rintro e w4 ⟨rfl, hd4⟩)
          | (go_at_call 12; refine (number_arg g _ _ (by omega)).mono ?_; rintro e w5 ⟨rfl, hd5⟩)
          | (go_at_call 14; (with_reducible refine (take_neg g _ w5 (by omega)).mono ?_); rintro e w6 ⟨rfl, hd6⟩)
          | (go_at_call 17; (with_reducible refine (at_any g l (k + p) w6 (((((hc8.dr hd2).dr hd3).dr hd4).dr hd5).dr hd6)).mono ?_); rintro e w7 ⟨rfl, hd7⟩))
        go_roundw
        case rel =>
          have hD : Dr w8 w7 := ((((hd2.trans hd3).trans hd4).trans hd5).trans hd6).trans hd7
          exact ⟨j + 1, k + p, by omega, by omega, by go_num, hc8.dr hD, hD.fr.own (S := No) ho8 (fun _ _ x => x), hF8.dr hD⟩
        case measure => simp [intOf]; omega
    · have hend : m ≤ j ∨ 30 ≤ j := by omega
      have hjj : l.take k ++ l.drop k = l := List.take_append_drop k l
      have HJ := Lib.hid hjj
      have HT := Lib.hid (show (l == l) = true by simp)
      clear hjj hlt
      rcases hend with hend | hend
      all_goals
        go_wp2_with (first
          | (go_at_call 16; refine (left_any g l k _ hc).mono ?_; rintro e w3 ⟨rfl, hd3⟩)
          | (go_at_call 14; (with_reducible refine (take_rest g l k w3 (hc.dr hd3) (by omega)).mono ?_); rintro e w4 ⟨v, rfl, hv4, hc4, hf4⟩; obtain ⟨V, vc, rfl, hrv, hVb⟩ := Rd.of_own hv4)
          | (at_builtin; go_must (refine ap8 w4 rfl (.tmp 117) (.tmp 118) rfl B0 (.slice R k rc) k (l.take k) rfl (hf4.own (hd3.fr.own (S := No) ho (fun _ _ x => x)) (fun G e e2 => by have := (ho.lt G e).1; rw [show G = g from e2] at this; omega)) V (l.length - k) vc _ rfl hrv (by omega) (Nat.le_trans hBw (Nat.le_trans (hd3.fr (S := No)).size hf4.size)) ?_); intro r8 w8 ho8 hg8 hr8'; rw [HJ.out, show k + (l.length - k) = l.length from by omega] at ho8; obtain ⟨R8, rc8, rfl, hrd8, hRb8⟩ := Rd.of_own ho8; have hF8 : Fr No w w8 := ((hF.dr hd3).trans_just hf4 hg).grown hg8 (fun G e => .inr (Nat.le_trans hNB (ho.lt G e).1)))
          | (go_at_call 15; (with_reducible refine (bytes_any _ _ _ _ _ _ _ _ _ hrd8 (ha.no hF8)).mono ?_); rintro e w5 ⟨rfl, rfl⟩; simp only [HT.out]))
      all_goals
        go_ret
        exact ⟨rfl, hF8⟩
end Go.Proofs.Ytcbcgciebppjaaa
