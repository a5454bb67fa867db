/- CursorBack: what is put is read, one behind the other; a nil cursor. The walk, for every list of bytes, of numbers, of widths. -/
import Derived.Test.YtcbcgciebppjaaaCurBackM
import Derived.Test.YtcbcgciebppjaaaCurParts
namespace Go.Proofs.Ytcbcgciebppjaaa
open Go.RowKit Go.ChangeShapes Go.WideShapes Go.ChangeAt
set_option maxHeartbeats 4000000
set_option maxRecDepth 100000
set_option linter.unusedVariables false

theorem own_mono {w : World} {B B' : Nat} {e : TypeId} {s n : Nat} {v : Value} {xs : List Value} (h : w.ownsRow B e s v n xs) (hB : B' ≤ B) : w.ownsRow B' e s v n xs := by
  refine ⟨h.1, ?_⟩
  rcases h.2 with h2 | ⟨g', cap, cur, e, hg, r⟩
  · exact .inl h2
  · exact .inr ⟨g', cap, cur, e, by omega, r⟩

theorem put_nat (A : Option Addr) (c : Nat) (l : List UInt8) (v m : Nat) (w : World) (ha : Rd w A l.length c (u8s l)) (hn : l.length ≤ 65536) (hv : v < 18446744073709551616) (hm : m ≤ 8) :
    Calls Try.prog 19 #[.slice A l.length c, .int .u64 (v : Int), .int .i64 (m : Int)] w fun e w' => ∃ r, e = .returned r ∧ w'.ownsRow w.heap.size 5 1 r (l ++ low v m).length (u8s (l ++ low v m)) ∧ Fr No w w' := by
  have h := put_any A l.length c l v (m : Int) w ha hn hv
  have e : held8 (m : Int) = m := by unfold held8; omega
  rw [e] at h
  simpa using h

theorem back_num {B : Nat} (g : Nat) (l : List UInt8) (V M : Nat → Nat) (q j : Nat) (w : World) (h : Cur w B g (putX l V M j) (putX l V M q).length) (hq : q < j) (h1 : 1 ≤ M q) (h8 : M q ≤ 8) :
    Calls Try.prog 12 #[.pointer (some ⟨g, 0, none⟩), .int .i64 (1 + ((M q : Int) - 1))] w fun e w' => e = .returned (.tuple #[.int .u64 ((V q % 256 ^ M q : Nat) : Int), .int .i64 0]) ∧
      Cur w' B g (putX l V M j) (putX l V M (q + 1)).length ∧ Fr (Just g) w w' := by
  obtain ⟨hx1, hx2⟩ := putX_at l V M q j hq
  have h2 := number_ok g (M q) (putX l V M j) (putX l V M q).length w h h1 h8 hx1
  rw [hx2, beN_low] at h2
  rw [show (1 + ((M q : Int) - 1)) = (M q : Int) from by omega]
  refine h2.mono ?_
  rintro e w' ⟨rfl, h3, h4⟩
  exact ⟨rfl, by simpa [putX] using h3, h4⟩

theorem back_walk {A C D : Option Addr} {n c m d k e0 : Nat} {l : List UInt8} {zs ss : List Int} (w : World) (ha : Rd w A n c (u8s l)) (hb : Rd w C m d (zs.map (Value.int .u64))) (hzs : ∀ x ∈ zs, (Lit.int .u64 x).wf = true)
    (hd : Rd w D k e0 (ss.map (Value.int .i64))) (hss : ∀ x ∈ ss, (Lit.int .i64 x).wf = true) :
    Calls Try.prog 4 #[.slice A n c, .slice C m d, .slice D k e0] w fun e w' => e = .returned (.bool true) ∧ Fr No w w' := by
  rcases Nat.lt_or_ge 100 n with hn | hn
  · go_enter Try.func4, Try.ntmps4
    go_wp2_with (go_at_call 7; refine (awake_any _).mono ?_; rintro e w1 ⟨rfl, hf⟩)
    go_ret
    exact ⟨rfl, hf⟩
  have hl : l.length ≤ 100 := by have := ha.len; rw [u8s_length] at this; omega
  have hln := Lib.hid (show l.length = n by have := ha.len; rw [u8s_length] at this; omega)
  generalize hV : (fun i : Nat => (zs.getD i 0).toNat) = V
  generalize hM : (fun i : Nat => 1 + ((IntKind.u64.wrap (ss.getD i 0)).tmod 8).toNat) = M
  have hM8 : ∀ i, 1 ≤ M i ∧ M i ≤ 8 := fun i => by
    obtain ⟨q, hq, hq1⟩ := rem_nat (ss.getD i 0) 8 (by omega)
    rw [← hM]
    simp only [hq]
    omega
  have hV1 : ∀ j, j < m → (zs.map (Value.int .u64))[j]? = some (.int .u64 (V j : Int)) ∧ V j < 18446744073709551616 := fun j hj => by
    have hz : j < zs.length := by have := hb.len; rw [List.length_map] at this; omega
    obtain ⟨v, hv, hv2⟩ := wf_u64 (hzs zs[j] (List.getElem_mem hz))
    rw [← hV]
    simp [hz, List.getD, hv, hv2]
  have hM1 : ∀ j, j < k → ∃ s, (ss.map (Value.int .i64))[j]? = some (.int .i64 s) ∧ (IntKind.u64.wrap s).tmod 8 = (M j : Int) - 1 := fun j hj => by
    have hz : j < ss.length := by have := hd.len; rw [List.length_map] at this; omega
    refine ⟨ss[j], by simp [hz], ?_⟩
    obtain ⟨q, hq, hq1⟩ := rem_nat (ss.getD j 0) 8 (by omega)
    have : ss.getD j 0 = ss[j] := by simp [List.getD, hz]
    rw [← hM]
    simp only [hq]
    rw [← this, hq]
    omega
  clear hV hM hzs hss
  have hXl := putX_len l V M (fun i => (hM8 i).2)
  have HXl := Lib.hid hXl
  clear hXl
  go_enter Try.func4, Try.ntmps4
  have HM8 := Lib.hid hM8
  have HV1 := Lib.hid hV1
  have HM1 := Lib.hid hM1
  clear hM8 hV1 hM1
  go_wp2_with (at_builtin; go_must (refine ap8 w rfl (.const (.slice none 0 0)) (.tmp 29) rfl w.heap.size (.slice none 0 0) 0 [] rfl (World.ownsRow_nil _ _ _ _) A n c l rfl ha (by omega) (Nat.le_refl _) ?_); intro r1 w1 ho1 hg1 hr1)
  have ho2 : w1.ownsRow w.heap.size 5 1 r1 (putX l V M 0).length (u8s (putX l V M 0)) := by
    rw [← hln.out] at ho1
    simpa [putX] using ho1
  have hF1 : Fr No w w1 := (Fr.refl No w).grown hg1 (by simp [Value.ownBlock])
  clear ho1 hg1 hr1
  go_loopw [7, 8] (fun r i wr => ∃ j : Nat, j ≤ m ∧ j ≤ k ∧ j ≤ 30 ∧ i = .int .i64 (j : Int) ∧ wr.ownsRow w.heap.size 5 1 r (putX l V M j).length (u8s (putX l V M j)) ∧ Fr No w wr) (fun _ i _ => 30 - (intOf i).toNat)
  case atStart => exact ⟨0, by omega, by omega, by omega, rfl, ho2, hF1⟩
  case round =>
    clear ho2 hF1
    obtain ⟨j, hj, hjk, hj30, rfl, ho, hF⟩ := hrel
    by_cases hlt : j < m ∧ j < k ∧ j < 30
    · obtain ⟨hjm, hjk', hj3⟩ := hlt
      obtain ⟨hv1, hv2⟩ := HV1.out j hjm
      obtain ⟨s, hs1, hs2⟩ := HM1.out j hjk'
      obtain ⟨hm1, hm8⟩ := HM8.out j
      obtain ⟨ad, u, rfl, hu, hcell⟩ := (hb.no hF).at_ hjm
      obtain ⟨bd, u', rfl, hu', hcell'⟩ := (hd.no hF).at_ hjk'
      rw [hv1] at hu; injection hu with hu; subst hu
      rw [hs1] at hu'; injection hu' with hu'; subst hu'
      have hXj := HXl.out j
      obtain ⟨R, rc, rfl, hr8, hRb⟩ := Rd.of_own ho
      clear hv1 hs1
      go_wp2_with (go_at_call 19; rw [show (1 + ((M j : Int) - 1)) = (M j : Int) from by omega]; (with_reducible refine (put_nat _ _ _ (V j) (M j) _ hr8 (by omega) hv2 hm8).mono ?_); rintro e w3 ⟨r3, rfl, ho3, hf3⟩)
      go_roundw
      case rel => exact ⟨j + 1, by omega, by omega, by omega, by go_num, own_mono ho3 hF.size, hF.trans hf3⟩
      case measure => simp [intOf]; omega
    · have hcnt : ∀ i, i < j → i < m ∧ i < k ∧ i < 30 := fun i hi => by omega
      have HC := Lib.hid hcnt
      have hstop : m ≤ j ∨ k ≤ j ∨ 30 ≤ j := by omega
      obtain ⟨R, rc, rfl, hr8, hRb⟩ := Rd.of_own ho
      have hXj := HXl.out j
      have hXh := putX_head l V M j
      have hnX : n ≤ (putX l V M j).length := by rw [← hln.out]; exact hXh.1
      have HH := Lib.hid (show ((putX l V M j).drop 0).take n = l by rw [List.drop_zero, ← hln.out]; exact hXh.2)
      have HT := Lib.hid (show (l == l) = true by simp)
      clear hlt hcnt hXh
      rcases hstop with hstop | hstop | hstop
      all_goals
        go_wp2_with (first
          | (go_at_call 9; (with_reducible refine (new_any _ _ _ _ _ hr8 (by omega)).mono ?_); rintro e wN ⟨g, rfl, hg, hc1, hf1⟩)
          | (go_at_call 7; refine (awake_any _).mono ?_; rintro e wM ⟨rfl, hf2⟩)
          | (go_at_call 14; (with_reducible refine (take_ok g n (putX l V M j) 0 wM (hc1.no hf2) (by omega) (by omega)).mono ?_); rintro e w4 ⟨v, rfl, hv4, hc4, hf4⟩; obtain ⟨VV, vc, rfl, hrv, hVb⟩ := Rd.of_own hv4; rw [HH.out] at hrv; have hF4 : Fr No w w4 := ((hF.trans hf1).trans hf2).trans_just hf4 (Nat.le_trans hF.size hg))
          | (go_at_call 15; (with_reducible refine (bytes_any _ _ _ _ _ _ l l w4 hrv (ha.no hF4)).mono ?_); rintro e w5 ⟨rfl, rfl⟩; simp only [HT.out]))
      all_goals
        have hg0 : w.heap.size ≤ g := Nat.le_trans hF.size hg
        have hc5 : Cur w4 wN.heap.size g (putX l V M j) (putX l V M 0).length := by simpa [putX, ← hln.out] using hc4
        generalize wN.heap.size = B0 at *
        clear hc4 hf4 hrv hv4 hVb hf2 hf1 hc1 hg ho hr8 hRb
      all_goals
        go_loopw [13] (fun i wr => ∃ q : Nat, q ≤ j ∧ i = .int .i64 (q : Int) ∧ Cur wr B0 g (putX l V M j) (putX l V M q).length ∧ Fr No w wr) (fun i _ => 30 - (intOf i).toNat)
        case atStart => exact ⟨0, by omega, rfl, hc5, hF4⟩
        case round =>
          clear hc5 hF4
          obtain ⟨q, hq, rfl, hc, hF⟩ := hrel
          rcases Nat.lt_or_ge q j with hlt | hge
          · obtain ⟨hqm, hqk, hq3⟩ := HC.out q hlt
            obtain ⟨hv1, hv2⟩ := HV1.out q hqm
            obtain ⟨s, hs1, hs2⟩ := HM1.out q hqk
            obtain ⟨hm1, hm8⟩ := HM8.out q
            obtain ⟨ad, u, rfl, hu, hcell⟩ := (hb.no hF).at_ hqm
            obtain ⟨bd, u', rfl, hu', hcell'⟩ := (hd.no hF).at_ hqk
            rw [hv1] at hu; injection hu with hu; subst hu
            rw [hs1] at hu'; injection hu' with hu'; subst hu'
            have HV := Lib.hid hv1
            clear hv1 hs1
            rcases Nat.lt_or_ge (M q) 8 with hm7 | hm7
            · have hmask := mask_walk (V q) (M q) hv2 hm1 hm7
              go_wp2_with (go_at_call 12; (with_reducible refine (back_num g l V M q j _ hc hlt hm1 hm8).mono ?_); rintro e w6 ⟨rfl, hc6, hf6⟩; have hF6 : Fr No w w6 := hF.trans_just hf6 hg0; have hcell6 : w6.cell? (ad.add q) = some (.int .u64 (V q : Int)) := (hb.no hF6).cells ad rfl q _ HV.out)
              go_roundw
              case rel => exact ⟨q + 1, by omega, by go_num, hc6, hF6⟩
              case measure => simp [intOf]; omega
            · have hmask := mod_full (V q) (M q) hv2 (by omega)
              go_wp2_with (go_at_call 12; (with_reducible refine (back_num g l V M q j _ hc hlt hm1 hm8).mono ?_); rintro e w6 ⟨rfl, hc6, hf6⟩; have hF6 : Fr No w w6 := hF.trans_just hf6 hg0; have hcell6 : w6.cell? (ad.add q) = some (.int .u64 (V q : Int)) := (hb.no hF6).cells ad rfl q _ HV.out)
              go_roundw
              case rel => exact ⟨q + 1, by omega, by go_num, hc6, hF6⟩
              case measure => simp [intOf]; omega
          · obtain rfl : q = j := by omega
            go_wp2_with (first
              | (go_at_call 14; refine (take_nil _ _).mono ?_; rintro e w5 ⟨rfl, hd5⟩)
              | (go_at_call 12; refine (number_nil _ _).mono ?_; rintro e w6 ⟨rfl, hd6⟩)
              | (go_at_call 10; refine (text_nil _ _).mono ?_; rintro e w7 ⟨rfl, hd7⟩)
              | (go_at_call 16; (with_reducible refine (left_any g _ _ w7 (((hc.dr hd5).dr hd6).dr hd7)).mono ?_); rintro e w8 ⟨rfl, hd8⟩)
              | (go_at_call 16; refine (left_nil _).mono ?_; rintro e w9 ⟨rfl, hd9⟩)
              | (go_at_call 17; refine (at_nil _).mono ?_; rintro e w10 ⟨rfl, hd10⟩))
            go_ret
            exact ⟨rfl, (((((hF.dr hd5).dr hd6).dr hd7).dr hd8).dr hd9).dr hd10⟩
end Go.Proofs.Ytcbcgciebppjaaa
