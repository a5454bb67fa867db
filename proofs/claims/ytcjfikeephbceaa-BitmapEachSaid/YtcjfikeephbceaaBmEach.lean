/- BitmapEach: one number alone: just its bit; two in the wrong order, or twice the same, are refused: the walk, for every two numbers. -/
import Derived.Test.YtcjfikeephbceaaBmAwake
namespace Go.Proofs.Ytcjfikeephbceaa
open Go.RowKit
set_option maxHeartbeats 400000
set_option linter.unusedVariables false

/-- how many bits are set in a byte's k lowest -/
def pcK (b : UInt8) (k : Nat) : Nat := ((List.range k).filter fun j => b.toNat.testBit j).length
/-- how many in bytes -/
def pcs (l : List UInt8) : Nat := (l.map fun b => pcK b 8).sum
theorem pcK_succ (b : UInt8) (k : Nat) : pcK b (k + 1) = pcK b k + (if b.toNat.testBit k then 1 else 0) := by
  unfold pcK
  rw [List.range_succ, List.filter_append, List.length_append]
  cases h : b.toNat.testBit k <;> simp [h]
theorem pcs_snoc (l : List UInt8) (i : Nat) (h : i < l.length) : pcs (l.take (i + 1)) = pcs (l.take i) + pcK l[i] 8 := by
  unfold pcs
  rw [List.take_succ_eq_append_getElem h, List.map_append, List.sum_append]
  simp only [List.map_cons, List.map_nil, List.sum_cons, List.sum_nil, Nat.add_zero]
theorem pcK_le (b : UInt8) (k : Nat) : pcK b k ≤ k := by
  unfold pcK
  exact Nat.le_trans (List.length_filter_le _ _) (by simp)
theorem pcs_le : ∀ l : List UInt8, pcs l ≤ 8 * l.length
  | [] => by simp [pcs]
  | b :: l => by
    have h1 := pcs_le l
    have h2 := pcK_le b 8
    unfold pcs at h1 ⊢
    rw [List.map_cons, List.sum_cons, List.length_cons]
    omega
theorem one_bit8 (b : UInt8) (k : Nat) (hk : k < 8) : (bits BinOp.and IntKind.u8 ((b.toNat : Int) / 2 ^ k) 1 == 1) = b.toNat.testBit k := by
  have e : ((b.toNat : Int) / 2 ^ k) = ((b.toNat / 2 ^ k : Nat) : Int) := by simp
  have hle : b.toNat / 2 ^ k < 2 ^ 8 := Nat.lt_of_le_of_lt (Nat.div_le_self _ _) b.toNat_lt
  have hb : bits BinOp.and IntKind.u8 ((b.toNat / 2 ^ k : Nat) : Int) ((1 : Nat) : Int) = ((b.toNat / 2 ^ k &&& 1 : Nat) : Int) :=
    (bits_nat .u8 8 (by decide) u8_wrap _ _ hle (by decide)).1
  rw [e]
  have hb' : bits BinOp.and IntKind.u8 ((b.toNat / 2 ^ k : Nat) : Int) 1 = ((b.toNat / 2 ^ k &&& 1 : Nat) : Int) := hb
  rw [hb', Nat.and_one_is_mod, Nat.testBit_eq_decide_div_mod_eq, Bool.eq_iff_iff]
  simp
  omega
/-- one number alone: so long, so many bits, and just its bit -/
theorem each_map : ∀ N : Fin 135, mayB (N.val : Int) = true → (mapOf [(N.val : Int)]).length = (if 64 < N.val then 16 else 8) ∧ pcs (mapOf [(N.val : Int)]) = (if 64 < N.val then 2 else 1) ∧
    bitAt (mapOf [(N.val : Int)]) (N.val - 1) = true := by decide +kernel

theorem each_map' (N : Nat) (h : (N : Int) < 135) (hm : mayB (N : Int) = true) : (mapOf [(N : Int)]).length = (if 64 < N then 16 else 8) ∧ pcs (mapOf [(N : Int)]) = (if 64 < N then 2 else 1) ∧ bitAt (mapOf [(N : Int)]) (N - 1) = true :=
  each_map ⟨N, by omega⟩ hm
theorem wmE_two (N M : Int) (h : mayB N = true) : wmE [N, M] = if N < M ∧ M ≤ 128 ∧ M ≠ 65 then 0 else 1 := by
  have h2 := mayB_iff.1 h
  have e : risesB [N, M] = decide (N < M ∧ M ≤ 128 ∧ M ≠ 65) := by
    rw [Bool.eq_iff_iff]
    simp [risesB, mayB]
    omega
  unfold wmE
  rw [e]
  by_cases hc : N < M ∧ M ≤ 128 ∧ M ≠ 65
  · rw [if_pos hc, decide_eq_true hc]; rfl
  · rw [if_neg hc, decide_eq_false hc]; rfl

set_option maxRecDepth 100000 in
set_option maxHeartbeats 1000000 in
theorem each_walk {z y : Int} (w : World) (hz : (Lit.int .i64 z).wf = true) (hy : (Lit.int .i64 y).wf = true) :
    Calls Try.prog 5 #[.int .i64 z, .int .i64 y] w fun e w' => e = .returned (.bool true) ∧ Fr No w w' := by
  obtain ⟨N, hN, hN1⟩ := rem_nat z 135 (by omega)
  obtain ⟨M, hM, hM1⟩ := rem_nat y 135 (by omega)
  have li2 : ∀ u : World, Rd (u.alloc (.cells #[.int .i64 (N : Int), .int .i64 (M : Int)] 3)) (some ⟨u.heap.size, 0, none⟩) 2 2 (ints [(N : Int), (M : Int)]) := fun u => Rd.litI u [(N : Int), (M : Int)] _ 2 rfl (by simp [maxLen])
  have li1 : ∀ u : World, Rd (u.alloc (.cells #[.int .i64 (N : Int)] 3)) (some ⟨u.heap.size, 0, none⟩) 1 1 (ints [(N : Int)]) := fun u => Rd.litI u [(N : Int)] _ 1 rfl (by simp [maxLen])
  have L1 := Lib.hid li1; have L2 := Lib.hid li2
  clear li1 li2
  have tok1 : True := trivial
  cases hmay : mayB (N : Int) with
  | false =>
    have e1 : wmE [(N : Int)] = 1 := by unfold wmE risesB; rw [hmay]; rfl
    have e2 : wmR [(N : Int)] = [] := by unfold wmR risesB; rw [hmay]; rfl
    have e3 : wmE [(N : Int), (M : Int)] = 1 := by unfold wmE risesB; rw [hmay]; rfl
    have E1 := Lib.hid e1; have E2 := Lib.hid e2; have E3 := Lib.hid e3
    clear e1 e2 e3
    have hno : (N : Int) < 2 ∨ (2 ≤ (N : Int) ∧ 128 < (N : Int)) ∨ (2 ≤ (N : Int) ∧ (N : Int) ≤ 128 ∧ ((N : Int) != 65) = false) := by
      have : ¬ (mayB (N : Int) = true) := by rw [hmay]; simp
      rw [mayB_iff] at this
      rw [bne_eq_false_iff_eq]
      omega
    clear hmay
    rcases hno with h | ⟨h, h'⟩ | ⟨h, h', h''⟩
    all_goals
      go_enter Try.func5, Try.ntmps5
      go_wp2_with (first
        | (go_at_call 11; clear tok1; refine (write_any _ 1 1 [(N : Int)] _ (L1.out _) (by omega)).mono ?_; rw [E1.out, E2.out]; rintro e w1 ⟨v, rfl, ho, hf⟩; obtain ⟨V, d, rfl, hr, _⟩ := Rd.of_own ho)
        | (go_at_call 11; refine (write_any _ 2 2 [(N : Int), (M : Int)] _ (L2.out _) (by omega)).mono ?_; rw [E3.out]; rintro e w2 ⟨v2, rfl, ho2, hf2⟩)
        | (go_at_call 8; refine (awake_any _).mono ?_; rintro e w3 ⟨rfl, hf3⟩))
      go_ret
      exact ⟨rfl, ((((Fr.refl No w).alloc _).trans hf).alloc _ |>.trans hf2).trans hf3⟩
  | true =>
    have hm3 := mayB_iff.1 hmay
    have e1 : wmE [(N : Int)] = 0 := by unfold wmE risesB; rw [hmay]; rfl
    have e2 : wmR [(N : Int)] = mapOf [(N : Int)] := by unfold wmR risesB; rw [hmay]; rfl
    obtain ⟨m1, m2, m3⟩ := each_map' N hN1 hmay
    have e3 := wmE_two (N : Int) (M : Int) hmay
    have hc1 : ((N : Int) != 65) = true := by rw [bne_iff_ne]; exact hm3.2.2
    have hc2 : 2 ≤ (N : Int) := hm3.1
    have hc3 : (N : Int) ≤ 128 := hm3.2.1
    have hl1 : ((mapOf [(N : Int)]).length : Int) ≤ 16 := by rw [m1]; split <;> omega
    generalize mapOf [(N : Int)] = Bs at *
    have E1 := Lib.hid e1; have E2 := Lib.hid e2; have E3 := Lib.hid e3; have M1 := Lib.hid m1; have M2 := Lib.hid m2; have M3 := Lib.hid m3
    clear e1 e2 e3 m1 m2 m3 hmay hm3
    have h64 : (64 < (N : Int) ∧ pcs Bs = 2 ∧ Bs.length = 16) ∨ (¬ 64 < (N : Int) ∧ pcs Bs = 1 ∧ Bs.length = 8) := by
      rw [M1.out, M2.out]
      by_cases h : 64 < N
      · exact .inl ⟨by omega, by rw [if_pos h], by rw [if_pos h]⟩
      · exact .inr ⟨by omega, by rw [if_neg h], by rw [if_neg h]⟩
    clear M1 M2
    rcases h64 with ⟨h64, hp, hlen⟩ | ⟨h64, hp, hlen⟩
    all_goals
      have HP := Lib.hid hp; have HLEN := Lib.hid hlen
      clear hp hlen
      go_enter Try.func5, Try.ntmps5
      go_wp2_with (first
        | (go_at_call 11; clear tok1; refine (write_any _ 1 1 [(N : Int)] _ (L1.out _) (by omega)).mono ?_; rw [E1.out, E2.out]; rintro e w1 ⟨v, rfl, ho, hf⟩; obtain ⟨V, d, rfl, hr, _⟩ := Rd.of_own ho)
        | (go_at_call 11; refine (write_any _ 2 2 [(N : Int), (M : Int)] _ (L2.out _) (by omega)).mono ?_; rintro e w2 ⟨v2, rfl, ho2, hf2⟩))
      have hr2 := hr.no (((Fr.refl No w1).alloc _).trans hf2)
      go_loop [11, 12] (fun v i => ∃ (k : Nat) (o : Int), k ≤ Bs.length ∧ i = .int .i64 (k : Int) ∧ v = .int .i64 o ∧ o = (pcs Bs : Int) - (pcs (Bs.take k) : Int)) (fun _ i => Bs.length - (intOf i).toNat)
      case atStart => exact ⟨0, _, Nat.zero_le _, rfl, rfl, by rw [HP.out]; rfl⟩
      case round =>
        obtain ⟨k, o, hk, rfl, rfl, ho1⟩ := hrel
        rcases Nat.lt_or_ge k Bs.length with hlt | hge
        · obtain ⟨ad, u, rfl, hu, hc⟩ := hr2.at_ hlt
          rw [u8s_get Bs k hlt] at hu
          injection hu with hu
          subst hu
          have hsn := pcs_snoc Bs k hlt
          have hpl : pcs (Bs.take k) ≤ 128 := Nat.le_trans (pcs_le _) (by rw [List.length_take]; omega)
          generalize Bs[k] = x at hc hsn
          generalize pcs (Bs.take k) = T at *
          have HSN := Lib.hid hsn
          have HO := Lib.hid ho1
          have HT := Lib.hid hpl
          clear hsn ho1 hpl
          go_wp2
          go_loop [11, 13] (fun v j => ∃ (q : Nat) (o2 : Int), q ≤ 8 ∧ j = .int .i64 (q : Int) ∧ v = .int .i64 o2 ∧ o2 = (pcs Bs : Int) - (T : Int) - (pcK x q : Int)) (fun _ j => 8 - (intOf j).toNat)
          case atStart => exact ⟨0, _, Nat.zero_le _, rfl, rfl, by rw [HO.out]; simp [pcK]⟩
          case round =>
            obtain ⟨q, o2, hq, rfl, rfl, ho2⟩ := hrel
            have hl1 := pcK_le x q
            have hl2 := HT.out
            have hl3 := HP.out
            have hb1 : -200 ≤ o2 := by omega
            have hb2 : o2 ≤ 200 := by omega
            have HO2 := Lib.hid ho2
            clear hl1 hl2 hl3 ho2
            rcases Nat.lt_or_ge q 8 with hql | hqg
            · have hs := pcK_succ x q
              have hb := one_bit8 x q hql
              cases ht : x.toNat.testBit q with
              | true =>
                rw [ht, if_pos rfl] at hs
                rw [ht] at hb
                have HS := Lib.hid hs
                clear hs ht
                go_wp2
                go_round
                case rel => exact ⟨q + 1, _, by omega, by go_num, rfl, by rw [HS.out, HO2.out]; omega⟩
                case measure => simp [intOf]; omega
              | false =>
                rw [ht, if_neg (by simp)] at hs
                rw [ht] at hb
                have HS := Lib.hid hs
                clear hs ht
                go_wp2
                go_round
                case rel => exact ⟨q + 1, _, by omega, by go_num, rfl, by rw [HS.out, HO2.out]; omega⟩
                case measure => simp [intOf]; omega
            · obtain rfl : q = 8 := by omega
              go_wp2
              go_round
              case rel => exact ⟨k + 1, _, by omega, by go_num, rfl, by rw [HSN.out, HO2.out]; omega⟩
              case measure => simp [intOf]; omega
        · obtain rfl : k = Bs.length := by omega
          rw [List.take_length] at ho1
          obtain rfl : o = 0 := by omega
          have hlenI : (Bs.length : Int) = _ := congrArg Nat.cast HLEN.out
          have hNl : (N - 1) / 8 < Bs.length := by have := HLEN.out; omega
          obtain ⟨ad, u, rfl, hu, -⟩ := hr2.at_ hNl
          rw [u8s_get Bs _ hNl] at hu
          injection hu with hu
          subst hu
          have hbit := M3.out
          unfold bitAt at hbit
          rw [List.getD, List.getElem?_eq_getElem hNl, Option.getD_some] at hbit
          have h3 := fun (u : World) (h : Rd u (some ad) Bs.length d (u8s Bs)) => h.cells ad rfl ((N - 1) / 8) _ (u8s_get Bs _ hNl)
          generalize Bs[(N - 1) / 8] = x at hbit h3
          have H3 := Lib.hid h3
          have hb := one_bit8 x (7 - (N - 1) % 8) (by omega)
          rw [hbit] at hb
          have e0 : (N : Int) - 1 = ((N - 1 : Nat) : Int) := by omega
          have e1 : 7 - ((N - 1 : Nat) : Int) % 8 = ((7 - (N - 1) % 8 : Nat) : Int) := by omega
          have hcase : ((N : Int) < (M : Int) ∧ (M : Int) ≤ 128 ∧ ((M : Int) != 65) = true ∧ wmE [(N : Int), (M : Int)] = 0) ∨ (¬ (N : Int) < (M : Int) ∧ wmE [(N : Int), (M : Int)] = 1) ∨ ((N : Int) < (M : Int) ∧ ¬ (M : Int) ≤ 128 ∧ wmE [(N : Int), (M : Int)] = 1) ∨
              ((N : Int) < (M : Int) ∧ (M : Int) ≤ 128 ∧ ((M : Int) != 65) = false ∧ wmE [(N : Int), (M : Int)] = 1) := by
            rw [E3.out]
            by_cases c1 : (N : Int) < (M : Int)
            · by_cases c2 : (M : Int) ≤ 128
              · by_cases c3 : (M : Int) ≠ 65
                · exact .inl ⟨c1, c2, bne_iff_ne.2 c3, if_pos ⟨c1, c2, c3⟩⟩
                · exact .inr (.inr (.inr ⟨c1, c2, bne_eq_false_iff_eq.2 (by omega), if_neg (by omega)⟩))
              · exact .inr (.inr (.inl ⟨c1, c2, if_neg (by omega)⟩))
            · exact .inr (.inl ⟨c1, if_neg (by omega)⟩)
          clear hbit h3 ho1 E3
          generalize wmE [(N : Int), (M : Int)] = e2 at *
          rcases hcase with ⟨c1, c2, c3, rfl⟩ | ⟨c1, rfl⟩ | ⟨c1, c2, rfl⟩ | ⟨c1, c2, c3, rfl⟩
          all_goals
            go_wp2_with (go_at_call 8; refine (awake_any _).mono ?_; rintro e w3 ⟨rfl, hf3⟩; have hc9 := H3.out _ (hr2.no hf3))
            go_ret
            exact ⟨rfl, ((((Fr.refl No w).alloc _).trans hf).alloc _ |>.trans hf2).trans hf3⟩
end Go.Proofs.Ytcjfikeephbceaa
