/- The texts RefPar, joined. -/
import Derived.Test.YtpkalnkeafggjaaGreatDoorK08
import Derived.Test.YtpkalnkeafggjaaGreatDoorK12
import Derived.Test.YtpkalnkeafggjaaGreatDoorK04
/- The statements' own reading of maps of bits: what it answers. -/
namespace Go.Proofs.YtpkalnkeafggjaaGreatDoor
open Go.RowKit
set_option maxHeartbeats 400000
set_option linter.unusedVariables false
set_option maxRecDepth 20000

/-- the first j numbers that may be set, those that are -/
def setTo (b : List UInt8) (j : Nat) : List Int := ((List.range j).map fun (k : Nat) => ((k : Int) + 2)).filter fun n => bitAt b (n.toNat - 1)
theorem setTo_snoc (b : List UInt8) (j : Nat) : setTo b (j + 1) = if bitAt b (j + 1) then setTo b j ++ [(j : Int) + 2] else setTo b j := by
  unfold setTo
  rw [List.range_succ, List.map_append, List.filter_append]
  simp only [List.map_cons, List.map_nil, List.filter_cons, List.filter_nil]
  rw [show ((j : Int) + 2).toNat - 1 = j + 1 from by omega]
  split <;> simp
theorem setTo_len (b : List UInt8) (j : Nat) : (setTo b j).length ≤ j := by
  unfold setTo
  exact Nat.le_trans (List.length_filter_le _ _) (by simp)
theorem byte_all8 (x : UInt8) (m : Nat) (h : m < 8) : ((((x &&& ((128 : UInt8) >>> UInt8.ofNat m)).toNat : Int)) != 0) = x.toNat.testBit (7 - m) := by
  have hx := fun k : Fin 8 => byte_all (fun x => ((((x &&& ((128 : UInt8) >>> UInt8.ofNat k.val)).toNat : Int)) != 0) == x.toNat.testBit (7 - k.val)) (by revert k; decide +kernel) x
  have := hx ⟨m, h⟩
  simpa using this
theorem bit_byte (b : List UInt8) (i : Nat) (x : UInt8) (hx : b[i / 8]? = some x) : (bits BinOp.and IntKind.u8 (x.toNat : Int) (128 / 2 ^ (i % 8)) != 0) = bitAt b i := by
  have hg : b.getD (i / 8) 0 = x := by rw [List.getD, hx]; rfl
  have hm : (128 : Int) / 2 ^ (i % 8) = (((128 : UInt8) >>> UInt8.ofNat (i % 8)).toNat : Int) := by
    have h8 : i % 8 < 8 := by omega
    generalize i % 8 = m at h8
    obtain rfl | rfl | rfl | rfl | rfl | rfl | rfl | rfl : m = 0 ∨ m = 1 ∨ m = 2 ∨ m = 3 ∨ m = 4 ∨ m = 5 ∨ m = 6 ∨ m = 7 := by omega
    all_goals decide
  unfold bitAt
  rw [hg, hm, and_u8]
  have h8 : i % 8 < 8 := by omega
  generalize i % 8 = m at h8
  have h := byte_all8 x m h8
  exact h
theorem last_small : ∀ (L : List Int), L.Pairwise (· < ·) → (L = [] ∨ ∃ y, L.getLast? = some y ∧ y < 66) → (L.any fun n => decide (66 ≤ n)) = false
  | L, hp, h => by
    rw [Bool.eq_false_iff]
    intro ha
    obtain ⟨n, hn, h66⟩ := List.any_eq_true.1 ha
    have h66' := of_decide_eq_true h66
    rcases h with rfl | ⟨y, hy, hlt⟩
    · simp at hn
    · rw [List.getLast?_eq_some_iff] at hy
      obtain ⟨ys, rfl⟩ := hy
      rw [List.pairwise_append] at hp
      rcases List.mem_append.1 hn with h1 | h1
      · have := hp.2.2 n h1 y (by simp)
        omega
      · simp at h1
        omega
/-! ### the walk -/
theorem par_short {b : List UInt8} (h : b.length < 8 ∨ b.length < mapN b) : parE b = 3 ∧ parN b = 0 ∧ parL b = [] := by
  have e : parE b = 3 := by
    unfold parE
    by_cases h8 : b.length < 8
    · rw [if_pos h8]
    · rw [if_neg h8, if_pos (by omega)]
  exact ⟨e, by unfold parN; rw [e]; rfl, by unfold parL; rw [e]; rfl⟩
theorem par_bad {b : List UInt8} (h8 : ¬ b.length < 8) (h : ¬ b.length < mapN b) (hb : mapBad b = true) : parE b = 6 ∧ parN b = 0 ∧ parL b = [] := by
  have e : parE b = 6 := by unfold parE; rw [if_neg h8, if_neg h, if_pos hb]
  exact ⟨e, by unfold parN; rw [e]; rfl, by unfold parL; rw [e]; rfl⟩
theorem par_good {b : List UInt8} (h8 : ¬ b.length < 8) (h : ¬ b.length < mapN b) (hb : mapBad b = false) : parE b = 0 ∧ parN b = mapN b ∧ parL b = setOf b (mapN b) := by
  have e : parE b = 0 := by unfold parE; rw [if_neg h8, if_neg h, if_neg (by rw [hb]; decide)]
  exact ⟨e, by unfold parN; rw [if_pos e], by unfold parL; rw [if_pos e]⟩

set_option maxRecDepth 100000 in
set_option maxHeartbeats 4000000 in
theorem ref_parse (A : Option Addr) (n c : Nat) (b : List UInt8) (w : World) (ha : Rd w A n c (u8s b)) (hn : n ≤ 65536) :
    Calls Tryz.prog 23 #[.slice A n c] w fun e w' => ∃ v, e = .returned (.tuple #[v, .int .i64 (parN b : Int), .int .i64 (parE b)]) ∧ w'.ownsRow w.heap.size 3 1 v (parL b).length (ints (parL b)) ∧ Fr No w w' := by
  have hl : b.length = n := by simpa using ha.len
  by_cases h8 : n < 8
  · obtain ⟨e1, e2, e3⟩ := par_short (b := b) (.inl (by omega))
    have E1 := Lib.hid e1; have E2 := Lib.hid e2; have E3 := Lib.hid e3
    clear e1 e2 e3 hl
    go_enter Tryz.func23, Tryz.ntmps23
    go_wp2
    go_ret3
    exact ⟨.slice none 0 0, by rw [E1.out, E2.out]; rfl, by rw [E3.out]; exact World.ownsRow_nil _ _ _ _, Fr.refl _ _⟩
  · obtain ⟨ad, u, rfl, hu, hc0⟩ := ha.at_ (show 0 < n by omega)
    obtain ⟨x0, hx0⟩ : ∃ x0, b[0]? = some x0 := ⟨_, List.getElem?_eq_getElem (by omega)⟩
    obtain rfl : u = .int .u8 (x0.toNat : Int) := by
      unfold u8s at hu
      rw [List.getElem?_map, hx0] at hu
      simpa using hu.symm
    simp only [Addr.add, if_true] at hc0
    have hbit : (bits BinOp.and IntKind.u8 (x0.toNat : Int) 128 != 0) = bitAt b 0 := bit_byte b 0 x0 hx0
    have HLN := Lib.hid hl
    have hat : ∀ i, i < 8 * n → ∃ x : UInt8, b[i / 8]? = some x ∧ ∀ wr, Fr No w wr → wr.cell? (ad.add (i / 8)) = some (.int .u8 (x.toNat : Int)) := fun i hi => by
      obtain ⟨x, hx⟩ : ∃ x, b[i / 8]? = some x := ⟨_, List.getElem?_eq_getElem (by omega)⟩
      refine ⟨x, hx, fun wr hf => (ha.no hf).cells ad rfl (i / 8) _ ?_⟩
      unfold u8s
      rw [List.getElem?_map, hx]
      rfl
    have HAT := Lib.hid hat
    clear hu hx0 hat hl
    cases hb0 : bitAt b 0 with
    | false =>
      have hN : mapN b = 8 := by unfold mapN; rw [hb0]; rfl
      rw [hb0] at hbit
      have HN := Lib.hid hN
      have HB0 := Lib.hid hb0
      clear hb0 hN
      have hs8 : ¬ b.length < 8 := by rw [HLN.out]; exact h8
      have hsN : ¬ b.length < mapN b := by rw [HLN.out, HN.out]; omega
      have HS8 := Lib.hid hs8; have HSN := Lib.hid hsN
      clear hs8 hsN
      go_enter Tryz.func23, Tryz.ntmps23
      go_wp2
      go_loopw [6, 7] (fun v i wr => ∃ j : Nat, j ≤ 63 ∧ i = .int .i64 ((j : Int) + 2) ∧ wr.ownsRow w.heap.size 3 1 v (setTo b j).length (ints (setTo b j)) ∧ Fr No w wr) (fun _ i _ => 200 - (intOf i).toNat)
      case atStart => exact ⟨0, Nat.zero_le _, rfl, World.ownsRow_nil _ _ _ _, Fr.refl _ _⟩
      case round =>
        obtain ⟨j, hj, rfl, ho, hf⟩ := hrel
        have hlen := setTo_len b j
        rcases Nat.lt_or_ge j 63 with hlt | hge
        · obtain ⟨x, hx, hcx⟩ := HAT.out (j + 1) (by omega)
          have hc := hcx wr hf
          have hbx := bit_byte b (j + 1) x hx
          have hsn := setTo_snoc b j
          cases hbj : bitAt b (j + 1) with
          | true =>
            rw [hbj] at hbx hsn
            rw [if_pos rfl] at hsn
            have HX := Lib.hid hx; have HS := Lib.hid hsn
            clear hx hcx hsn hbj
            go_wp2_with (at_builtin; go_must (refine apI_one wr rfl (.tmp 39) (.tmp 41) rfl w.heap.size u6 (setTo b j).length (setTo b j) rfl ho ((j : Int) + 2) _ rfl (by omega) hf.size ?_); intro v2 w2 ho2 hg2 hr2)
            go_roundw
            case rel => exact ⟨j + 1, by omega, by first | (congr 1; done) | (congr 1; omega), by rw [HS.out, List.length_append]; exact ho2, (hf.alloc _).grown hg2 (fun g e => .inr (ho.lt g e).1)⟩
            case measure => simp [intOf]; omega
          | false =>
            rw [hbj] at hbx hsn
            rw [if_neg (by decide)] at hsn
            have HX := Lib.hid hx; have HS := Lib.hid hsn
            clear hx hcx hsn hbj
            go_wp2
            go_roundw
            case rel => exact ⟨j + 1, by omega, by first | (congr 1; done) | (congr 1; omega), by rw [HS.out]; exact ho, hf⟩
            case measure => simp [intOf]; omega
        · obtain rfl : j = 63 := by omega
          have hbad : mapBad b = false := by unfold mapBad; rw [HB0.out]; rfl
          obtain ⟨e1, e2, e3⟩ := par_good HS8.out HSN.out hbad
          rw [HN.out] at e2 e3
          have E1 := Lib.hid e1; have E2 := Lib.hid e2; have E3 := Lib.hid e3
          clear e1 e2 e3 hbad
          go_wp2
          go_ret3
          exact ⟨u6, by rw [E1.out, E2.out]; rfl, by rw [E3.out]; exact ho, hf⟩
    | true =>
      have hN : mapN b = 16 := by unfold mapN; rw [hb0]; rfl
      rw [hb0] at hbit
      have HN := Lib.hid hN
      have HB0 := Lib.hid hb0
      clear hb0 hN
      by_cases h16 : n < 16
      · obtain ⟨e1, e2, e3⟩ := par_short (b := b) (.inr (by rw [HN.out, HLN.out]; exact h16))
        have E1 := Lib.hid e1; have E2 := Lib.hid e2; have E3 := Lib.hid e3
        clear e1 e2 e3
        go_enter Tryz.func23, Tryz.ntmps23
        go_wp2
        go_ret3
        exact ⟨.slice none 0 0, by rw [E1.out, E2.out]; rfl, by rw [E3.out]; exact World.ownsRow_nil _ _ _ _, Fr.refl _ _⟩
      have hn16 : 16 ≤ n := by omega
      have hs8 : ¬ b.length < 8 := by rw [HLN.out]; exact h8
      have hsN : ¬ b.length < mapN b := by rw [HLN.out, HN.out]; omega
      have HS8 := Lib.hid hs8; have HSN := Lib.hid hsN
      clear hs8 hsN
      go_enter Tryz.func23, Tryz.ntmps23
      go_wp2
      go_loopw [6, 7] (fun v i wr => ∃ j : Nat, j ≤ 127 ∧ i = .int .i64 ((j : Int) + 2) ∧ wr.ownsRow w.heap.size 3 1 v (setTo b j).length (ints (setTo b j)) ∧ Fr No w wr) (fun _ i _ => 200 - (intOf i).toNat)
      case atStart => exact ⟨0, Nat.zero_le _, rfl, World.ownsRow_nil _ _ _ _, Fr.refl _ _⟩
      case round =>
        obtain ⟨j, hj, rfl, ho, hf⟩ := hrel
        have hlen := setTo_len b j
        rcases Nat.lt_or_ge j 127 with hlt | hge
        · obtain ⟨x, hx, hcx⟩ := HAT.out (j + 1) (by omega)
          have hc := hcx wr hf
          have hbx := bit_byte b (j + 1) x hx
          have hsn := setTo_snoc b j
          cases hbj : bitAt b (j + 1) with
          | true =>
            rw [hbj] at hbx hsn
            rw [if_pos rfl] at hsn
            have HX := Lib.hid hx; have HS := Lib.hid hsn
            clear hx hcx hsn hbj
            go_wp2_with (at_builtin; go_must (refine apI_one wr rfl (.tmp 39) (.tmp 41) rfl w.heap.size u6 (setTo b j).length (setTo b j) rfl ho ((j : Int) + 2) _ rfl (by omega) hf.size ?_); intro v2 w2 ho2 hg2 hr2)
            go_roundw
            case rel => exact ⟨j + 1, by omega, by first | (congr 1; done) | (congr 1; omega), by rw [HS.out, List.length_append]; exact ho2, (hf.alloc _).grown hg2 (fun g e => .inr (ho.lt g e).1)⟩
            case measure => simp [intOf]; omega
          | false =>
            rw [hbj] at hbx hsn
            rw [if_neg (by decide)] at hsn
            have HX := Lib.hid hx; have HS := Lib.hid hsn
            clear hx hcx hsn hbj
            go_wp2
            go_roundw
            case rel => exact ⟨j + 1, by omega, by first | (congr 1; done) | (congr 1; omega), by rw [HS.out]; exact ho, hf⟩
            case measure => simp [intOf]; omega
        · obtain rfl : j = 127 := by omega
          have hbd : mapBad b = (bitAt b 64 || !(setTo b 127).any fun n => decide (66 ≤ n)) := by unfold mapBad; rw [HB0.out, Bool.true_and]; rfl
          have hsr : (setTo b 127).Pairwise (· < ·) := setOf_rises b 16
          have hin : hasI (setTo b 127) 65 = bitAt b 64 := by
            unfold hasI
            have := setOf_mem b 16 (by omega) 65
            rw [Bool.eq_iff_iff, List.contains_iff_mem]
            refine this.trans ⟨fun h => h.2.2, fun h => ⟨by omega, by omega, h⟩⟩
          have hgood : mapBad b = false → parE b = 0 ∧ parN b = 16 ∧ parL b = setTo b 127 := fun h => by
            obtain ⟨e1, e2, e3⟩ := par_good HS8.out HSN.out h
            rw [HN.out] at e2 e3
            exact ⟨e1, e2, e3⟩
          have hbad := par_bad HS8.out HSN.out
          have HG := Lib.hid hgood; have HBD := Lib.hid hbad; have HD := Lib.hid hbd; have HSR := Lib.hid hsr
          clear hgood hbad hbd hsr
          generalize setTo b 127 = L at ho hin HG HD HSR hlen
          obtain ⟨R, rc, rfl, hR, _⟩ := Rd.of_own ho
          have hin2 := fun w' hr => in_any R L.length rc L 65 w' hr (by omega)
          rw [hin] at hin2
          have HIN := Lib.hid hin2
          clear hin hin2
          cases h64 : bitAt b 64 with
          | true =>
            obtain ⟨e1, e2, e3⟩ := HBD.out (by rw [HD.out, h64]; rfl)
            have E1 := Lib.hid e1; have E2 := Lib.hid e2; have E3 := Lib.hid e3; have H64 := Lib.hid h64
            clear e1 e2 e3 h64
            go_wp2_with (go_at_call 44; refine (HIN.out _ hR).mono ?_; rw [H64.out]; rintro e w' ⟨rfl, rfl⟩)
            go_ret3
            exact ⟨.slice none 0 0, by rw [E1.out, E2.out]; rfl, by rw [E3.out]; exact World.ownsRow_nil _ _ _ _, hf⟩
          | false =>
            have H64 := Lib.hid h64
            rcases Nat.eq_zero_or_pos L.length with hz | hpos
            · obtain ⟨e1, e2, e3⟩ := HBD.out (by rw [HD.out, h64, last_small L HSR.out (.inl (List.eq_nil_of_length_eq_zero hz))]; rfl)
              have E1 := Lib.hid e1; have E2 := Lib.hid e2; have E3 := Lib.hid e3
              have hz2 : ((L.length : Int) == 0) = true := by rw [beq_iff_eq]; omega
              clear e1 e2 e3 h64 hz
              go_wp2_with (go_at_call 44; refine (HIN.out _ hR).mono ?_; rw [H64.out]; rintro e w' ⟨rfl, rfl⟩)
              go_ret3
              exact ⟨.slice none 0 0, by rw [E1.out, E2.out]; rfl, by rw [E3.out]; exact World.ownsRow_nil _ _ _ _, hf⟩
            · obtain ⟨rd, u, rfl, hu, hcl⟩ := hR.at_ (show L.length - 1 < L.length by omega)
              have hlk : L.length - 1 < L.length := by omega
              rw [ints_get L _ hlk] at hu
              injection hu with hu
              subst hu
              have hlast : L.getLast? = some L[L.length - 1] := by rw [List.getLast?_eq_getElem?, List.getElem?_eq_getElem hlk]
              have hmem : L[L.length - 1] ∈ L := List.getElem_mem _
              generalize L[L.length - 1] = y at hcl hlast hmem
              have hz2 : ((L.length : Int) == 0) = false := by rw [beq_eq_false_iff_ne]; omega
              have ek : (L.length : Int) - 1 = ((L.length - 1 : Nat) : Int) := by omega
              by_cases hy : y < 66
              · obtain ⟨e1, e2, e3⟩ := HBD.out (by rw [HD.out, h64, last_small L HSR.out (.inr ⟨y, hlast, hy⟩)]; rfl)
                have E1 := Lib.hid e1; have E2 := Lib.hid e2; have E3 := Lib.hid e3
                clear e1 e2 e3 h64 hlast hmem
                go_wp2_with (go_at_call 44; refine (HIN.out _ hR).mono ?_; rw [H64.out]; rintro e w' ⟨rfl, rfl⟩)
                go_ret3
                exact ⟨.slice none 0 0, by rw [E1.out, E2.out]; rfl, by rw [E3.out]; exact World.ownsRow_nil _ _ _ _, hf⟩
              · have hany : (L.any fun n => decide (66 ≤ n)) = true := List.any_eq_true.2 ⟨y, hmem, decide_eq_true (by omega)⟩
                obtain ⟨e1, e2, e3⟩ := HG.out (by rw [HD.out, h64, hany]; rfl)
                have E1 := Lib.hid e1; have E2 := Lib.hid e2; have E3 := Lib.hid e3
                clear e1 e2 e3 h64 hlast hmem hany
                go_wp2_with (go_at_call 44; refine (HIN.out _ hR).mono ?_; rw [H64.out]; rintro e w' ⟨rfl, rfl⟩)
                go_ret3
                exact ⟨_, by rw [E1.out, E2.out]; rfl, by rw [E3.out]; exact ho, hf⟩
end Go.Proofs.YtpkalnkeafggjaaGreatDoor
