/- The statements' own digits out of halves of bytes: what they answer. -/
import Derived.Test.YtbaadbegnckbpaaDoorRefDig2
namespace Go.Proofs.YtbaadbegnckbpaaDoor
open Go.RowKit
set_option maxHeartbeats 400000
set_option linter.unusedVariables false

/-! ### UnBcd -/
theorem hex_len (l : List UInt8) (k : Nat) (h : k ≤ l.length) : (hexL (l.take k)).length = 2 * k := by rw [hexL_length, List.length_take]; omega
theorem hexL_all (p : UInt8 → Bool) : ∀ l : List UInt8, (hexL l).all p = l.all fun x => p (sg (x >>> 4)) && p (sg (x &&& 15))
  | [] => rfl
  | x :: r => by simp only [hexL, List.all_cons, hexL_all p r, Bool.and_assoc]
theorem dig_byte (x : UInt8) : (x.toNat / 16 ≤ 9 → isD (sg (x >>> 4)) = true ∧ (sg (x >>> 4)).toNat = 48 + x.toNat / 16) ∧ (¬ x.toNat / 16 ≤ 9 → isD (sg (x >>> 4)) = false) ∧
    (x.toNat % 16 ≤ 9 → isD (sg (x &&& 15)) = true ∧ (sg (x &&& 15)).toNat = 48 + x.toNat % 16) ∧ (¬ x.toNat % 16 ≤ 9 → isD (sg (x &&& 15)) = false) := by
  have h := byte_all (fun x => decide ((x.toNat / 16 ≤ 9 → isD (sg (x >>> 4)) = true ∧ (sg (x >>> 4)).toNat = 48 + x.toNat / 16) ∧ (¬ x.toNat / 16 ≤ 9 → isD (sg (x >>> 4)) = false) ∧
    (x.toNat % 16 ≤ 9 → isD (sg (x &&& 15)) = true ∧ (sg (x &&& 15)).toNat = 48 + x.toNat % 16) ∧ (¬ x.toNat % 16 ≤ 9 → isD (sg (x &&& 15)) = false))) (by decide +kernel) x
  exact of_decide_eq_true h

theorem ref_unbcd (A : Option Addr) (m c : Nat) (l : List UInt8) (n : Int) (w : World) (ha : Rd w A m c (u8s l)) (hm : m ≤ 65536) :
    Calls Tryd.prog 14 #[.slice A m c, .int .i64 n] w fun e w' => e = .returned (.tuple #[.string (bstr (unbcdR l n)), .int .i64 (unbcdE l n)]) ∧ Fr No w w' := by
  have hl : l.length = m := by simpa using ha.len
  by_cases harg : n < 0 ∨ (n ≠ 2 * (m : Int) ∧ n ≠ 2 * (m : Int) - 1)
  · have e2 : unbcdE l n = 1 := by unfold unbcdE; rw [hl, if_pos harg]
    have e1 : unbcdR l n = [] := by unfold unbcdR; rw [e2]; rfl
    rw [e1, e2]
    clear e1 e2 hl
    rcases harg with h | ⟨h1, h2⟩
    · go_enter Tryd.func14, Tryd.ntmps14
      go_wp2
      go_ret2
      exact ⟨rfl, Fr.refl _ _⟩
    · by_cases h0 : n < 0
      · go_enter Tryd.func14, Tryd.ntmps14
        go_wp2
        go_ret2
        exact ⟨rfl, Fr.refl _ _⟩
      · have q1 : (n == 2 * (m : Int)) = false := by simpa using h1
        have q2 : (n == 2 * (m : Int) - 1) = false := by simpa using h2
        have q3 : (n != 2 * (m : Int)) = true := by simpa using h1
        have q4 : (n != 2 * (m : Int) - 1) = true := by simpa using h2
        go_enter Tryd.func14, Tryd.ntmps14
        go_wp2
        go_ret2
        exact ⟨rfl, Fr.refl _ _⟩
  · have hn2 : n = 2 * (m : Int) ∨ (n = 2 * (m : Int) - 1 ∧ 1 ≤ m) := by omega
    have hun : unbcdE l n = if allB (hexL l) isD = false ∨ (n < 2 * (m : Int) ∧ (hexL l)[0]? ≠ some 48) then 5 else 0 := by unfold unbcdE; rw [hl, if_neg harg]
    have hur : unbcdR l n = if unbcdE l n = 0 then (hexL l).drop (2 * (m : Int) - n).toNat else [] := by unfold unbcdR; rw [hl]
    have HUN := Lib.hid hun
    have HUR := Lib.hid hur
    have HL := Lib.hid hl
    clear hun hur hl harg
    have hbad : ∀ k (h : k < l.length), (isD (sg (l[k] >>> 4)) = false ∨ isD (sg (l[k] &&& 15)) = false) → unbcdE l n = 5 ∧ unbcdR l n = [] := fun k h hx => by
      have hd : allB (hexL l) isD = false := by
        unfold allB
        rw [hexL_all, ← Bool.not_eq_true, List.all_eq_true]
        intro hy
        have := hy l[k] (List.getElem_mem _)
        rcases hx with hx | hx
        · rw [hx] at this; cases this
        · rw [hx, Bool.and_false] at this; cases this
      have e : unbcdE l n = 5 := by rw [HUN.out, if_pos (.inl hd)]
      exact ⟨e, by rw [HUR.out, e]; rfl⟩
    have HB := Lib.hid hbad
    clear hbad
    go_enter Tryd.func14, Tryd.ntmps14
    have hn0 : ¬ n < 0 := by omega
    have hno : ((n != 2 * (m : Int)) = false ∧ n = 2 * (m : Int)) ∨ ((n != 2 * (m : Int)) = true ∧ (n != 2 * (m : Int) - 1) = false ∧ n = 2 * (m : Int) - 1 ∧ 1 ≤ m) := by
      rcases hn2 with h | ⟨h, h1⟩
      · exact .inl ⟨by simpa using h, h⟩
      · exact .inr ⟨by simp; omega, by simpa using h, h, h1⟩
    clear hn2
    rcases hno with ⟨q1, hn2⟩ | ⟨q1, q2, hn2, hm1⟩
    all_goals
      have HN2 := Lib.hid hn2
      clear hn2
      go_wp2
      go_loopw [6, 7] (fun v i wr => ∃ k : Nat, k ≤ m ∧ i = .int .i64 (k : Int) ∧ (hexL (l.take k)).all isD = true ∧ wr.ownsRow w.heap.size 5 1 v (2 * k) (u8s (hexL (l.take k))) ∧ Fr No w wr) (fun _ i _ => m - (intOf i).toNat)
      case atStart => exact ⟨0, Nat.zero_le _, rfl, rfl, World.ownsRow_nil _ _ _ _, Fr.refl _ _⟩
      case round =>
        obtain ⟨k, hk, rfl, hall, ho, hf⟩ := hrel
        have HA := Lib.hid hall
        clear hall
        rcases Nat.lt_or_ge k m with hlt | hge
        · have hlk : k < l.length := by have := HL.out; omega
          obtain ⟨ad, u, rfl, hu, hc⟩ := (ha.no hf).at_ hlt
          rw [u8s_get l k hlk] at hu
          injection hu with hu
          subst hu
          have hadlt : ad.block < wr.heap.size := by
            have := World.block_lt_of_cell? _ _ hc
            rwa [blk_add] at this
          obtain ⟨d1, d2, d3, d4⟩ := dig_byte l[k]
          have hx := l[k].toNat_lt
          by_cases h1 : l[k].toNat / 16 ≤ 9
          · by_cases h2 : l[k].toNat % 16 ≤ 9
            · obtain ⟨p1, p2⟩ := d1 h1
              obtain ⟨p3, p4⟩ := d3 h2
              have b1 : ¬ (9 : Int) < (l[k].toNat : Int) / 16 := by omega
              have b2 : ¬ (9 : Int) < (l[k].toNat : Int) % 16 := by omega
              have a1 : (l[k].toNat : Int) / 16 ≤ 9 := by omega
              have e1 : IntKind.u8.wrap (48 + (l[k].toNat : Int) / 16) = ((sg (l[k] >>> 4)).toNat : Int) := by rw [p2, IntWalk.u8_in _ (by omega)]; omega
              have e2 : bits BinOp.and IntKind.u8 (l[k].toNat : Int) 15 = (l[k].toNat : Int) % 16 := by
                have := and_u8 l[k] 15
                rw [show ((15 : UInt8).toNat : Int) = 15 from rfl] at this
                rw [this, UInt8.toNat_and]
                have h3 : l[k].toNat &&& (15 : UInt8).toNat = l[k].toNat % 16 := Nat.and_two_pow_sub_one_eq_mod l[k].toNat 4
                rw [h3]
                omega
              have e3 : IntKind.u8.wrap (48 + (l[k].toNat : Int) % 16) = ((sg (l[k] &&& 15)).toNat : Int) := by rw [p4, IntWalk.u8_in _ (by omega)]; omega
              have HX := Lib.hid (hexL_snoc l k hlk)
              have hall2 : (hexL (l.take (k + 1))).all isD = true := by rw [HX.out, List.all_append, HA.out]; simp [p1, p3]
              have HA2 := Lib.hid hall2
              clear d1 d2 d3 d4 p1 p2 p3 p4 hall2
              go_wp2
              go_region_law (refine step8 rfl (.tmp 45) (.tmp 58) rfl w.heap.size u6 (2 * k) (hexL (l.take k)) (by rfl) ((ho.alloc _).drew) (some ⟨wr.heap.size, 0, none⟩) 2 2 [sg (l[k] >>> 4), sg (l[k] &&& 15)] (by rfl) (Rd.two rfl rfl _) (by omega) (by simp; have := hf.size; omega) ?_; intro v2 w2 ho2 hg2 hr2)
              all_goals
                clear e1 e2 e3
                go_wp2
                go_roundw
                case rel => exact ⟨k + 1, by omega, by go_num, HA2.out, by rw [HX.out]; exact ho2, ((hf.alloc _).drew).grown hg2 (fun g e => .inr (ho.lt g e).1)⟩
                case measure => simp [intOf]; omega
            · obtain ⟨p1, p2⟩ := d1 h1
              have p3 := d4 h2
              have b1 : ¬ (9 : Int) < (l[k].toNat : Int) / 16 := by omega
              have b2 : (9 : Int) < (l[k].toNat : Int) % 16 := by omega
              obtain ⟨r1, r2⟩ := HB.out k hlk (.inr p3)
              have R1 := Lib.hid r1; have R2 := Lib.hid r2
              clear d1 d2 d3 d4 p1 p2 p3 r1 r2
              go_wp2
              go_ret2
              exact ⟨by rw [R1.out, R2.out]; rfl, hf⟩
          · have p3 := d2 h1
            have b1 : (9 : Int) < (l[k].toNat : Int) / 16 := by omega
            obtain ⟨r1, r2⟩ := HB.out k hlk (.inl p3)
            have R1 := Lib.hid r1; have R2 := Lib.hid r2
            clear d1 d2 d3 d4 p3 r1 r2
            go_wp2
            go_ret2
            exact ⟨by rw [R1.out, R2.out]; rfl, hf⟩
        · obtain rfl : k = m := by omega
          have hlk := HL.out
          rw [List.take_of_length_le (by omega)] at ho
          have hal : allB (hexL l) isD = true := by
            have := HA.out
            rwa [List.take_of_length_le (by omega)] at this
          obtain ⟨B, d, rfl, hrd, _⟩ := Rd.of_own ho
          rcases (show n = 2 * (k : Int) ∨ (n = 2 * (k : Int) - 1 ∧ 1 ≤ k) by have := HN2.out; omega) with hn | ⟨hn, hk1⟩
          · have e : unbcdE l n = 0 := by rw [HUN.out, if_neg]; rintro (h | h); rw [hal] at h; cases h; omega
            have r : unbcdR l n = hexL l := by rw [HUR.out, if_pos e, show (2 * (k : Int) - n).toNat = 0 from by omega, List.drop_zero]
            have hst := run_string (P := Tryd.prog) hrd 23 5 Tryd.underlying23 Tryd.underlying5 9 Tryd.underlying9
            have hge2 : ¬ n < 2 * (k : Int) := by omega
            have R1 := Lib.hid e; have R2 := Lib.hid r
            clear e r hal hn hlk
            go_wp2
            go_ret2
            exact ⟨by rw [R1.out, R2.out]; rfl, hf⟩
          · obtain ⟨bd, u, rfl, hu, hc⟩ := hrd.at_ (show 0 < 2 * k by omega)
            have hlen : (hexL l).length = 2 * k := by rw [hexL_length]; omega
            obtain ⟨x0, hg⟩ : ∃ x0, (hexL l)[0]? = some x0 := ⟨_, List.getElem?_eq_getElem (by omega)⟩
            obtain rfl : u = .int .u8 (x0.toNat : Int) := by
              unfold u8s at hu
              rw [List.getElem?_map, hg] at hu
              simpa using hu.symm
            simp only [Addr.add, if_true] at hc
            have hlt2 : n < 2 * (k : Int) := by omega
            have hk1i : (1 : Int) ≤ 2 * (k : Int) := by omega
            have hdc := hrd.cap
            have hcut := hrd.cut (k := 1) (m := 2 * k) (by omega) (Nat.le_refl _)
            have hcl : ((u8s (hexL l)).take (2 * k)).drop 1 = u8s ((hexL l).drop 1) := by
              rw [List.take_of_length_le (by rw [u8s_length, hlen]; exact Nat.le_refl _)]
              simp [u8s]
            rw [hcl] at hcut
            by_cases hz : x0 = 48
            · have e : unbcdE l n = 0 := by
                rw [HUN.out, if_neg]
                rintro (h | ⟨_, h⟩)
                · rw [hal] at h; cases h
                · exact h (by rw [hg, hz])
              have r : unbcdR l n = (hexL l).drop 1 := by rw [HUR.out, if_pos e, show (2 * (k : Int) - n).toNat = 1 from by omega]
              have hz3 : ((x0.toNat : Int) != 48) = false := by rw [hz]; rfl
              have R1 := Lib.hid e; have R2 := Lib.hid r
              clear e r hal hn hg hz hcl hlk hu
              by_cases hd1 : d = 1
              · subst hd1
                exfalso
                omega
              · rw [if_neg hd1] at hcut
                simp only [Option.map_some] at hcut
                rw [show bd.add 1 = ⟨bd.block, bd.off + 1, none⟩ from by simp [Addr.add]] at hcut
                have hst := run_string (P := Tryd.prog) hcut 23 5 Tryd.underlying23 Tryd.underlying5 9 Tryd.underlying9
                go_wp2
                go_ret2
                exact ⟨by rw [R1.out, R2.out, List.drop_one]; rfl, hf⟩
            · have e : unbcdE l n = 5 := by rw [HUN.out, if_pos]; exact .inr ⟨by omega, fun h => hz (by rw [hg] at h; injection h)⟩
              have r : unbcdR l n = [] := by rw [HUR.out, e]; rfl
              have hz3 : ((x0.toNat : Int) != 48) = true := by
                have : ¬ x0.toNat = 48 := fun h => hz (UInt8.toNat_inj.1 h)
                simp
                omega
              have R1 := Lib.hid e; have R2 := Lib.hid r
              clear e r hal hn hg hz hcl hlk hu hcut
              go_wp2
              go_ret2
              exact ⟨by rw [R1.out, R2.out]; rfl, hf⟩
end Go.Proofs.YtbaadbegnckbpaaDoor
