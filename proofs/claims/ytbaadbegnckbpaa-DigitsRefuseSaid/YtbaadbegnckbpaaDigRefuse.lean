/- DigitsRefuse: one sign that is no digit is refused; small letters are none of sixteen; an odd number of them, too: the walk, for every number and every byte. -/
import Derived.Test.YtbaadbegnckbpaaDigAwake
namespace Go.Proofs.Ytbaadbegnckbpaa
open Go.RowKit
set_option maxHeartbeats 400000
set_option linter.unusedVariables false

/-- what 'int(uint(p) % b)' makes -/
theorem rem_nat (p b : Int) (hb : 0 < b) : ∃ m : Nat, (IntKind.u64.wrap p).tmod b = (m : Int) ∧ (m : Int) < b := by
  have hw : 0 ≤ IntKind.u64.wrap p := by rw [IntKind.wrap_u64]; omega
  rw [Int.tmod_eq_emod_of_nonneg hw]
  have h0 : 0 ≤ IntKind.u64.wrap p % b := Int.emod_nonneg _ (by omega)
  have h1 : IntKind.u64.wrap p % b < b := Int.emod_lt_of_pos _ hb
  obtain ⟨m, hm⟩ := Int.eq_ofNat_of_zero_le h0
  exact ⟨m, hm, by omega⟩

/-- n digits -/
def rowD (n : Nat) : List UInt8 := (List.range n).map fun i => UInt8.ofNat (48 + i % 10)
theorem rowD_length (n : Nat) : (rowD n).length = n := by simp [rowD]
theorem rowD_all (n : Nat) : (rowD n).all isD = true := by
  rw [List.all_eq_true]
  intro x hx
  simp only [rowD, List.mem_map, List.mem_range] at hx
  obtain ⟨i, _, rfl⟩ := hx
  apply isD_mk
  · rw [UInt8.toNat_ofNat']; omega
  · rw [UInt8.toNat_ofNat']; omega
/-- the row with one other sign -/
theorem set_all (p : UInt8 → Bool) : ∀ (l : List UInt8) (k : Nat) (c : UInt8), k < l.length → l.all p = true → (l.set k c).all p = p c
  | [], k, c, h, _ => by simp at h
  | x :: r, 0, c, _, h => by
    simp only [List.all_cons, Bool.and_eq_true] at h
    simp [h.2]
  | x :: r, k + 1, c, h, ha => by
    simp only [List.all_cons, Bool.and_eq_true] at ha
    simp only [List.set_cons_succ, List.all_cons, ha.1, Bool.true_and]
    exact set_all p r k c (by simpa using h) ha.2
theorem isH_no {c : UInt8} (h : isD c = false) (h2 : c.toNat < 65 ∨ 70 < c.toNat) : isH c = false := by
  unfold isH
  rw [h, Bool.false_or, Bool.eq_false_iff]
  intro e
  simp at e
  omega
theorem isH_of_isD {c : UInt8} (h : isD c = true) : isH c = true := by simp [isH, h]
theorem all_mono {p q : UInt8 → Bool} (h : ∀ c, p c = true → q c = true) {l : List UInt8} (ha : l.all p = true) : l.all q = true := by
  rw [List.all_eq_true] at ha ⊢
  exact fun x hx => h x (ha x hx)

theorem refuse_facts (n k : Nat) (c : UInt8) (h1 : 1 ≤ n) (h2 : n ≤ 18) (hk : k < n) (l : List UInt8) (hl : l = (rowD n).set k c) :
    l.length = n ∧ numE l = (if isD c then 0 else 5) ∧ bcdE l = (if isD c then 0 else 5) ∧ unhexE l = (if isH c && decide (n % 2 = 0) then 0 else 5) ∧ rightB l n n = isD c ∧ rightB l (n + 1) (n + 5) = false := by
  have hlen : l.length = n := by rw [hl, List.length_set, rowD_length]
  have hd : l.all isD = isD c := by rw [hl]; exact set_all isD _ _ _ (by rw [rowD_length]; exact hk) (rowD_all n)
  have hh : l.all isH = isH c := by rw [hl]; exact set_all isH _ _ _ (by rw [rowD_length]; exact hk) (all_mono (fun _ => isH_of_isD) (rowD_all n))
  have r1 : rightB l 1 18 = isD c := by unfold rightB; rw [hd, hlen, decide_eq_true (by omega), decide_eq_true (by omega), Bool.true_and, Bool.true_and]
  have r2 : rightB l 0 100 = isD c := by unfold rightB; rw [hd, hlen, decide_eq_true (by omega), decide_eq_true (by omega), Bool.true_and, Bool.true_and]
  refine ⟨hlen, by unfold numE; rw [r1], by unfold bcdE; rw [r2], ?_, ?_, ?_⟩
  · unfold unhexE unhexB
    rw [hh, hlen, Bool.and_comm]
  · unfold rightB; rw [hd, hlen, decide_eq_true (by omega), Bool.true_and, Bool.true_and]
  · unfold rightB; rw [hlen, decide_eq_false (by omega), Bool.false_and]

/-- the first k of n are written -/
def rowK (n k : Nat) : List UInt8 := rowD k ++ List.replicate (n - k) 0
theorem rowK_length (n k : Nat) (h : k ≤ n) : (rowK n k).length = n := by
  unfold rowK
  rw [List.length_append, rowD_length, List.length_replicate]
  omega
theorem rowK_set (n k : Nat) (hk : k < n) : (u8s (rowK n k)).set k (.int .u8 (48 + (k : Int) % 10)) = u8s (rowK n (k + 1)) := by
  unfold rowK
  obtain ⟨m, hm⟩ : ∃ m, n - k = m + 1 := ⟨n - k - 1, by omega⟩
  rw [hm, show n - (k + 1) = m from by omega, List.replicate_succ]
  have hr : rowD (k + 1) = rowD k ++ [UInt8.ofNat (48 + k % 10)] := by simp [rowD, List.range_succ]
  have hv : (48 + (k : Int) % 10) = ((UInt8.ofNat (48 + k % 10)).toNat : Int) := by rw [UInt8.toNat_ofNat']; omega
  rw [hr, hv]
  simp only [u8s, List.map_append, List.map_cons, List.map_nil, List.append_assoc]
  rw [List.set_append_right _ _ (by simp [rowD_length])]
  simp [rowD_length]
theorem u8s_set (l : List UInt8) (k : Nat) (c : UInt8) : (u8s l).set k (.int .u8 (c.toNat : Int)) = u8s (l.set k c) := by
  simp [u8s, List.map_set]

set_option maxRecDepth 100000 in
set_option maxHeartbeats 1000000 in
theorem refuse_walk {z1 z2 : Int} {c : UInt8} (w : World) (hz1 : (Lit.int .i64 z1).wf = true) (hz2 : (Lit.int .i64 z2).wf = true) :
    Calls Try.prog 3 #[.int .i64 z1, .int .i64 z2, .int .u8 (c.toNat : Int)] w fun e w' => e = .returned (.bool true) ∧ Fr No w w' := by
  obtain ⟨q, hq, hq1⟩ := rem_nat z1 18 (by omega)
  go_enter Try.func3, Try.ntmps3
  go_wp2_with (at_make; go_must (refine mk8 w rfl (.tmp 22) (.tmp 22) rfl .i64 .i64 _ _ (q + 1) (q + 1) rfl rfl (by omega) (by omega) (by omega) (by omega) ?_); intro w1 hb1 hf1 hs1)
  generalize hg : w.heap.size = g at *
  go_loopw [26] (fun i wr => ∃ k : Nat, k ≤ q + 1 ∧ i = .int .i64 (k : Int) ∧ Bk wr g 5 (u8s (rowK (q + 1) k)) ∧ Fr No w wr) (fun i _ => q + 1 - (intOf i).toNat)
  case atStart => exact ⟨0, Nat.zero_le _, rfl, by simpa [rowK, rowD] using hb1, hf1⟩
  case round =>
    obtain ⟨k, hk, rfl, hb, hf⟩ := hrel
    rcases Nat.lt_or_ge k (q + 1) with hlt | hge
    · obtain ⟨u, hu⟩ : ∃ u, (u8s (rowK (q + 1) k))[k]? = some u := ⟨_, List.getElem?_eq_getElem (by rw [u8s_length, rowK_length _ _ hk]; exact hlt)⟩
      have hc : wr.cell? ⟨g, k, none⟩ = some u := by rw [hb.cell]; exact hu
      have hfz := hb.frozen k
      have HS := Lib.hid (rowK_set (q + 1) k hlt)
      clear hu
      go_wp2
      go_roundw
      case rel => exact ⟨k + 1, by omega, by go_num, by rw [← HS.out]; exact hb.set_ _ _, hf.setCell (.inr (by rw [hg]; exact Nat.le_refl _)) _⟩
      case measure => simp [intOf]; omega
    · obtain rfl : k = q + 1 := by omega
      have hrow : rowK (q + 1) (q + 1) = rowD (q + 1) := by simp [rowK]
      rw [hrow] at hb
      obtain ⟨p, hp, hp1⟩ := rem_nat z2 (1 + (q : Int)) (by omega)
      obtain ⟨u, hu⟩ : ∃ u, (u8s (rowD (q + 1)))[p]? = some u := ⟨_, List.getElem?_eq_getElem (by rw [u8s_length, rowD_length]; omega)⟩
      have hc : wr.cell? ⟨g, p, none⟩ = some u := by rw [hb.cell]; exact hu
      have hfz := hb.frozen p
      have hb2 := hb.set_ p (.int .u8 (c.toNat : Int))
      rw [u8s_set] at hb2
      have hf2 : Fr No w (wr.setCell ⟨g, p, none⟩ (.int .u8 (c.toNat : Int))) := hf.setCell (p := ⟨g, p, none⟩) (.inr (by rw [hg]; exact Nat.le_refl _)) (.int .u8 (c.toNat : Int))
      obtain ⟨l, hl⟩ : ∃ l, l = (rowD (q + 1)).set p c := ⟨_, rfl⟩
      obtain ⟨g1, g2, g3, g4, g5, g6⟩ := refuse_facts (q + 1) p c (by omega) (by omega) (by omega) l hl
      rw [← hl] at hb2
      clear hu hl hrow
      have hrd : Rd (wr.setCell ⟨g, p, none⟩ (.int .u8 (c.toNat : Int))) (some ⟨g, 0, none⟩) (q + 1) (q + 1) (u8s l) := by
        have h9 := hb2.rd (n := q + 1) (cap := q + 1) (Nat.le_refl _) (by simp only [maxLen]; omega) (by rw [u8s_length, g1]; exact Nat.le_refl _)
        rwa [List.take_of_length_le (by rw [u8s_length, g1]; exact Nat.le_refl _)] at h9
      have hn : q < 18 := by omega
      have hsd := bstr_data l
      have hss := bstr_size l
      have hstr := fun (u : World) (h : Rd u (some ⟨g, 0, none⟩) (q + 1) (q + 1) (u8s l)) => run_string (P := Try.prog) h 23 5 Try.underlying23 Try.underlying5 9 Try.underlying9
      generalize bstr l = S at hsd hss hstr
      rw [← hsd] at g2 g3 g4 g5 g6
      have hS1 : S.size ≤ 18 := by omega
      have hS2 : S.size ≤ maxLen := by simp only [maxLen]; omega
      have hS3 : S.size ≤ 140737488355328 := by omega
      have hs1 := hstr _ hrd
      have HS := Lib.hid hstr
      have hp2 : ((q + 1) % 2 = 0 ∧ ((1 + (q : Int)) % 2 == 0) = true) ∨ (¬ (q + 1) % 2 = 0 ∧ ((1 + (q : Int)) % 2 == 0) = false) := by
        by_cases h : (q + 1) % 2 = 0
        · exact .inl ⟨h, by rw [beq_iff_eq]; omega⟩
        · exact .inr ⟨h, by rw [beq_eq_false_iff_ne]; omega⟩
      clear g1 hstr hsd hss hb hf hge hb1 hf1 hb2
      rw [show ((q + 1 : Nat) : Int) = 1 + (q : Int) from by omega] at g5 g6
      have hcs : c.toNat < 48 ∨ (48 ≤ c.toNat ∧ c.toNat ≤ 57) ∨ (57 < c.toNat ∧ c.toNat < 65) ∨ (65 ≤ c.toNat ∧ c.toNat ≤ 70) ∨ 70 < c.toNat := by omega
      rcases hcs with hc1 | ⟨hc1, hc2⟩ | ⟨hc1, hc2⟩ | ⟨hc1, hc2⟩ | hc1
      · have hD : isD c = false := isD_false (by omega)
        have hH : isH c = false := isH_no hD (by omega)
        rw [hD, if_neg Bool.false_ne_true] at g2 g3
        rw [hH, Bool.false_and, if_neg Bool.false_ne_true] at g4
        rw [hD] at g5
        have G2 := Lib.hid g2; have G3 := Lib.hid g3; have G4 := Lib.hid g4; have G5 := Lib.hid g5; have G6 := Lib.hid g6
        clear g2 g3 g4 g5 g6 hD hH hp2
        go_wp2_with (first
          | (go_at_call 5; refine (number_any S _ hS2).mono ?_; rw [G2.out]; rintro e wn ⟨rfl, rfl⟩)
          | (go_at_call 6; refine (bcd_any S _ hS2).mono ?_; rw [G3.out]; rintro e w2 ⟨v2, rfl, ho2, hf3⟩; have hst2 := HS.out w2 (hrd.no hf3))
          | (go_at_call 7; refine (unhex_any S _ hS3).mono ?_; rw [G4.out]; rintro e w3 ⟨v3, rfl, ho3, hf4⟩)
          | (go_at_call 8; refine (awake_any _).mono ?_; rintro e w4 ⟨rfl, hf5⟩; have hst4 := HS.out w4 (((hrd.no hf3).no hf4).no hf5))
          | (go_at_call 9; (with_reducible refine (right_any S (1 + (q : Int)) (1 + (q : Int)) _ hS2).mono ?_); rw [G5.out]; rintro e w5 ⟨rfl, rfl⟩)
          | (go_at_call 9; (with_reducible refine (right_any S (1 + (q : Int) + 1) (1 + (q : Int) + 5) _ hS2).mono ?_); rw [G6.out]; rintro e w6 ⟨rfl, rfl⟩))
        go_ret
        exact ⟨rfl, ((hf2.trans hf3).trans hf4).trans hf5⟩
      · have hD : isD c = true := isD_mk hc1 hc2
        have hH : isH c = true := isH_of_isD hD
        rcases hp2 with ⟨hq2, hq3⟩ | ⟨hq2, hq3⟩
        · rw [hD, if_pos rfl] at g2 g3
          rw [hH, decide_eq_true hq2, Bool.true_and, if_pos rfl] at g4
          rw [hD] at g5
          have G2 := Lib.hid g2; have G3 := Lib.hid g3; have G4 := Lib.hid g4; have G5 := Lib.hid g5; have G6 := Lib.hid g6
          clear g2 g3 g4 g5 g6 hD hH hq2
          go_wp2_with (first
            | (go_at_call 5; refine (number_any S _ hS2).mono ?_; rw [G2.out]; rintro e wn ⟨rfl, rfl⟩)
            | (go_at_call 6; refine (bcd_any S _ hS2).mono ?_; rw [G3.out]; rintro e w2 ⟨v2, rfl, ho2, hf3⟩; have hst2 := HS.out w2 (hrd.no hf3))
            | (go_at_call 7; refine (unhex_any S _ hS3).mono ?_; rw [G4.out]; rintro e w3 ⟨v3, rfl, ho3, hf4⟩)
            | (go_at_call 8; refine (awake_any _).mono ?_; rintro e w4 ⟨rfl, hf5⟩; have hst4 := HS.out w4 (((hrd.no hf3).no hf4).no hf5))
            | (go_at_call 9; (with_reducible refine (right_any S (1 + (q : Int)) (1 + (q : Int)) _ hS2).mono ?_); rw [G5.out]; rintro e w5 ⟨rfl, rfl⟩)
            | (go_at_call 9; (with_reducible refine (right_any S (1 + (q : Int) + 1) (1 + (q : Int) + 5) _ hS2).mono ?_); rw [G6.out]; rintro e w6 ⟨rfl, rfl⟩))
          go_ret
          exact ⟨rfl, ((hf2.trans hf3).trans hf4).trans hf5⟩
        · rw [hD, if_pos rfl] at g2 g3
          rw [hH, decide_eq_false hq2, Bool.true_and, if_neg Bool.false_ne_true] at g4
          rw [hD] at g5
          have G2 := Lib.hid g2; have G3 := Lib.hid g3; have G4 := Lib.hid g4; have G5 := Lib.hid g5; have G6 := Lib.hid g6
          clear g2 g3 g4 g5 g6 hD hH hq2
          go_wp2_with (first
            | (go_at_call 5; refine (number_any S _ hS2).mono ?_; rw [G2.out]; rintro e wn ⟨rfl, rfl⟩)
            | (go_at_call 6; refine (bcd_any S _ hS2).mono ?_; rw [G3.out]; rintro e w2 ⟨v2, rfl, ho2, hf3⟩; have hst2 := HS.out w2 (hrd.no hf3))
            | (go_at_call 7; refine (unhex_any S _ hS3).mono ?_; rw [G4.out]; rintro e w3 ⟨v3, rfl, ho3, hf4⟩)
            | (go_at_call 8; refine (awake_any _).mono ?_; rintro e w4 ⟨rfl, hf5⟩; have hst4 := HS.out w4 (((hrd.no hf3).no hf4).no hf5))
            | (go_at_call 9; (with_reducible refine (right_any S (1 + (q : Int)) (1 + (q : Int)) _ hS2).mono ?_); rw [G5.out]; rintro e w5 ⟨rfl, rfl⟩)
            | (go_at_call 9; (with_reducible refine (right_any S (1 + (q : Int) + 1) (1 + (q : Int) + 5) _ hS2).mono ?_); rw [G6.out]; rintro e w6 ⟨rfl, rfl⟩))
          go_ret
          exact ⟨rfl, ((hf2.trans hf3).trans hf4).trans hf5⟩
      · have hD : isD c = false := isD_false (by omega)
        have hH : isH c = false := isH_no hD (by omega)
        rw [hD, if_neg Bool.false_ne_true] at g2 g3
        rw [hH, Bool.false_and, if_neg Bool.false_ne_true] at g4
        rw [hD] at g5
        have G2 := Lib.hid g2; have G3 := Lib.hid g3; have G4 := Lib.hid g4; have G5 := Lib.hid g5; have G6 := Lib.hid g6
        clear g2 g3 g4 g5 g6 hD hH hp2
        go_wp2_with (first
          | (go_at_call 5; refine (number_any S _ hS2).mono ?_; rw [G2.out]; rintro e wn ⟨rfl, rfl⟩)
          | (go_at_call 6; refine (bcd_any S _ hS2).mono ?_; rw [G3.out]; rintro e w2 ⟨v2, rfl, ho2, hf3⟩; have hst2 := HS.out w2 (hrd.no hf3))
          | (go_at_call 7; refine (unhex_any S _ hS3).mono ?_; rw [G4.out]; rintro e w3 ⟨v3, rfl, ho3, hf4⟩)
          | (go_at_call 8; refine (awake_any _).mono ?_; rintro e w4 ⟨rfl, hf5⟩; have hst4 := HS.out w4 (((hrd.no hf3).no hf4).no hf5))
          | (go_at_call 9; (with_reducible refine (right_any S (1 + (q : Int)) (1 + (q : Int)) _ hS2).mono ?_); rw [G5.out]; rintro e w5 ⟨rfl, rfl⟩)
          | (go_at_call 9; (with_reducible refine (right_any S (1 + (q : Int) + 1) (1 + (q : Int) + 5) _ hS2).mono ?_); rw [G6.out]; rintro e w6 ⟨rfl, rfl⟩))
        go_ret
        exact ⟨rfl, ((hf2.trans hf3).trans hf4).trans hf5⟩
      · have hD : isD c = false := isD_false (by omega)
        have hH : isH c = true := by unfold isH; rw [hD, decide_eq_true hc1, decide_eq_true hc2]; rfl
        have hb57 : decide ((c.toNat : Int) ≤ 57) = false := decide_eq_false (by omega)
        have hb70 : decide ((c.toNat : Int) ≤ 70) = true := decide_eq_true (by omega)
        rcases hp2 with ⟨hq2, hq3⟩ | ⟨hq2, hq3⟩
        · rw [hD, if_neg Bool.false_ne_true] at g2 g3
          rw [hH, decide_eq_true hq2, Bool.true_and, if_pos rfl] at g4
          rw [hD] at g5
          have G2 := Lib.hid g2; have G3 := Lib.hid g3; have G4 := Lib.hid g4; have G5 := Lib.hid g5; have G6 := Lib.hid g6
          clear g2 g3 g4 g5 g6 hD hH hq2
          go_wp2_with (first
            | (go_at_call 5; refine (number_any S _ hS2).mono ?_; rw [G2.out]; rintro e wn ⟨rfl, rfl⟩)
            | (go_at_call 6; refine (bcd_any S _ hS2).mono ?_; rw [G3.out]; rintro e w2 ⟨v2, rfl, ho2, hf3⟩; have hst2 := HS.out w2 (hrd.no hf3))
            | (go_at_call 7; refine (unhex_any S _ hS3).mono ?_; rw [G4.out]; rintro e w3 ⟨v3, rfl, ho3, hf4⟩)
            | (go_at_call 8; refine (awake_any _).mono ?_; rintro e w4 ⟨rfl, hf5⟩; have hst4 := HS.out w4 (((hrd.no hf3).no hf4).no hf5))
            | (go_at_call 9; (with_reducible refine (right_any S (1 + (q : Int)) (1 + (q : Int)) _ hS2).mono ?_); rw [G5.out]; rintro e w5 ⟨rfl, rfl⟩)
            | (go_at_call 9; (with_reducible refine (right_any S (1 + (q : Int) + 1) (1 + (q : Int) + 5) _ hS2).mono ?_); rw [G6.out]; rintro e w6 ⟨rfl, rfl⟩))
          go_ret
          exact ⟨rfl, ((hf2.trans hf3).trans hf4).trans hf5⟩
        · rw [hD, if_neg Bool.false_ne_true] at g2 g3
          rw [hH, decide_eq_false hq2, Bool.true_and, if_neg Bool.false_ne_true] at g4
          rw [hD] at g5
          have G2 := Lib.hid g2; have G3 := Lib.hid g3; have G4 := Lib.hid g4; have G5 := Lib.hid g5; have G6 := Lib.hid g6
          clear g2 g3 g4 g5 g6 hD hH hq2
          go_wp2_with (first
            | (go_at_call 5; refine (number_any S _ hS2).mono ?_; rw [G2.out]; rintro e wn ⟨rfl, rfl⟩)
            | (go_at_call 6; refine (bcd_any S _ hS2).mono ?_; rw [G3.out]; rintro e w2 ⟨v2, rfl, ho2, hf3⟩; have hst2 := HS.out w2 (hrd.no hf3))
            | (go_at_call 7; refine (unhex_any S _ hS3).mono ?_; rw [G4.out]; rintro e w3 ⟨v3, rfl, ho3, hf4⟩)
            | (go_at_call 8; refine (awake_any _).mono ?_; rintro e w4 ⟨rfl, hf5⟩; have hst4 := HS.out w4 (((hrd.no hf3).no hf4).no hf5))
            | (go_at_call 9; (with_reducible refine (right_any S (1 + (q : Int)) (1 + (q : Int)) _ hS2).mono ?_); rw [G5.out]; rintro e w5 ⟨rfl, rfl⟩)
            | (go_at_call 9; (with_reducible refine (right_any S (1 + (q : Int) + 1) (1 + (q : Int) + 5) _ hS2).mono ?_); rw [G6.out]; rintro e w6 ⟨rfl, rfl⟩))
          go_ret
          exact ⟨rfl, ((hf2.trans hf3).trans hf4).trans hf5⟩
      · have hD : isD c = false := isD_false (by omega)
        have hH : isH c = false := isH_no hD (by omega)
        have hb57 : decide ((c.toNat : Int) ≤ 57) = false := decide_eq_false (by omega)
        have hb70 : decide ((c.toNat : Int) ≤ 70) = false := decide_eq_false (by omega)
        rw [hD, if_neg Bool.false_ne_true] at g2 g3
        rw [hH, Bool.false_and, if_neg Bool.false_ne_true] at g4
        rw [hD] at g5
        have G2 := Lib.hid g2; have G3 := Lib.hid g3; have G4 := Lib.hid g4; have G5 := Lib.hid g5; have G6 := Lib.hid g6
        clear g2 g3 g4 g5 g6 hD hH hp2
        go_wp2_with (first
          | (go_at_call 5; refine (number_any S _ hS2).mono ?_; rw [G2.out]; rintro e wn ⟨rfl, rfl⟩)
          | (go_at_call 6; refine (bcd_any S _ hS2).mono ?_; rw [G3.out]; rintro e w2 ⟨v2, rfl, ho2, hf3⟩; have hst2 := HS.out w2 (hrd.no hf3))
          | (go_at_call 7; refine (unhex_any S _ hS3).mono ?_; rw [G4.out]; rintro e w3 ⟨v3, rfl, ho3, hf4⟩)
          | (go_at_call 8; refine (awake_any _).mono ?_; rintro e w4 ⟨rfl, hf5⟩; have hst4 := HS.out w4 (((hrd.no hf3).no hf4).no hf5))
          | (go_at_call 9; (with_reducible refine (right_any S (1 + (q : Int)) (1 + (q : Int)) _ hS2).mono ?_); rw [G5.out]; rintro e w5 ⟨rfl, rfl⟩)
          | (go_at_call 9; (with_reducible refine (right_any S (1 + (q : Int) + 1) (1 + (q : Int) + 5) _ hS2).mono ?_); rw [G6.out]; rintro e w6 ⟨rfl, rfl⟩))
        go_ret
        exact ⟨rfl, ((hf2.trans hf3).trans hf4).trans hf5⟩
end Go.Proofs.Ytbaadbegnckbpaa
