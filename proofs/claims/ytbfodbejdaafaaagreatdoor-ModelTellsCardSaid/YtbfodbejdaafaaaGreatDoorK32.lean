/- The texts RefDig2, RefSimple, QuietBelow, joined. -/
import Derived.Test.YtbfodbejdaafaaaGreatDoorK30
import Derived.Deep.RegionLaw
import Derived.Test.YtbfodbejdaafaaaGreatDoorK12
import Derived.Test.YtbfodbejdaafaaaGreatDoorK31
import Derived.Test.YtbfodbejdaafaaaGreatDoorK01
import Derived.Lib.QuietBelow
import Derived.Deep.MidRow
/- The statements' own halves of bytes and signs: what they answer. -/
namespace Go.Proofs.YtbfodbejdaafaaaGreatDoor
open Go.RowKit
set_option maxHeartbeats 400000
set_option linter.unusedVariables false

/-- an even row of digits, two a byte: the loop -/
theorem Rd.one_drew {w : World} {i : Int} {b : UInt8} (hi : i = (b.toNat : Int)) (t : TypeId) : Rd ((w.alloc (.cells #[.int .u8 i] t)).drew) (some ⟨w.heap.size, 0, none⟩) 1 1 (u8s [b]) :=
  (Rd.one hi t).dr (Dr.refl _).drew
theorem pr_walk (a b : UInt8) : bits BinOp.or IntKind.u8 (IntKind.u8.wrap (((half a).toNat : Int) * 16)) ((half b).toNat : Int) = ((pr a b).toNat : Int) := by
  rw [shl4_u8, or_u8]
  rfl
theorem wrap_digit {c : UInt8} (h : isD c = true) : IntKind.u8.wrap ((c.toNat : Int) - 48) = ((half c).toNat : Int) := by
  have h1 := isD_true.1 h
  rw [half_digit h, IntWalk.u8_in _ (by omega)]
  omega
theorem all_at {p : UInt8 → Bool} (s : ByteArray) (h : s.data.toList.all p = true) (k : Nat) (hk : k < s.size) : p s[k] = true :=
  List.all_eq_true.1 h s[k] (by rw [at_data s k hk]; exact List.getElem_mem _)

theorem sgn_hex {c : UInt8} (h : isH c = true) : sgn c = half c ∧ (half c).toNat ≤ 15 := by
  refine ⟨by unfold sgn; rw [if_pos h], ?_⟩
  have := byte_all (fun c => !isH c || decide ((half c).toNat ≤ 15)) (by decide +kernel) c
  simp only [h, Bool.not_true, Bool.false_or, decide_eq_true_eq] at this
  exact this
theorem sgn_no {c : UInt8} (h : isH c = false) : sgn c = 16 := by unfold sgn; rw [if_neg (by rw [h]; decide)]
theorem sign_still (c : UInt8) (w : World) : Calls Tryz.prog 74 #[.int .u8 (c.toNat : Int)] w fun e w' => e = .returned (.int .u8 ((sgn c).toNat : Int)) ∧ w = w' := ref_sign c w

theorem ref_unhex (s : ByteArray) (w : World) (hs : s.size ≤ 140737488355328) :
    Calls Tryz.prog 51 #[.string s] w fun e w' => ∃ v, e = .returned (.tuple #[v, .int .i64 (unhexE s.data.toList)]) ∧ w'.ownsRow w.heap.size 5 1 v (unhexR s.data.toList).length (u8s (unhexR s.data.toList)) ∧ Fr No w w' := by
  rcases Nat.mod_two_eq_zero_or_one s.size with hodd | hodd
  · have hodd2 : ((s.size : Int) % 2 != 0) = false := by simp; omega
    have hno : s.data.toList.all isH = false → unhexR s.data.toList = [] ∧ unhexE s.data.toList = 5 := fun hr => by
      have hb : unhexB s.data.toList = false := by unfold unhexB; rw [hr]; simp
      exact ⟨by simp [unhexR, hb], by simp [unhexE, hb]⟩
    have hyes : s.data.toList.all isH = true → unhexR s.data.toList = pairL s.data.toList ∧ unhexE s.data.toList = 0 := fun hr => by
      have hb : unhexB s.data.toList = true := by unfold unhexB; rw [hr]; simp [hodd]
      exact ⟨by simp [unhexR, hb], by simp [unhexE, hb]⟩
    have hlen : (pairL s.data.toList).length = s.size / 2 := by rw [pairL_length]; simp
    have HNO := Lib.hid hno
    have HYES := Lib.hid hyes
    have HLN := Lib.hid hlen
    clear hno hyes hlen
    go_enter Tryz.func51, Tryz.ntmps51
    go_wp2
    go_loopw [4, 5] (fun v i wr => ∃ k : Nat, 2 * k ≤ s.size ∧ i = .int .i64 (2 * (k : Int)) ∧ (s.data.toList.take (2 * k)).all isH = true ∧ wr.ownsRow w.heap.size 5 1 v k (u8s (pairL (s.data.toList.take (2 * k)))) ∧ Fr No w wr) (fun _ i _ => s.size - (intOf i).toNat)
    case atStart => exact ⟨0, Nat.zero_le _, rfl, rfl, World.ownsRow_nil _ _ _ _, Fr.refl _ _⟩
    case round =>
      obtain ⟨k, hk, rfl, hall, ho, hf⟩ := hrel
      have HA := Lib.hid hall
      clear hall
      by_cases hlt : 2 * k < s.size
      · have h3 : 2 * k + 1 < s.size := by omega
        have e3 : IntKind.i64.wrap (2 * (k : Int) + 1) = 2 * (k : Int) + 1 := IntWalk.i64_in _ ⟨by omega, by omega⟩
        have e2 : (2 * (k : Int)).toNat = 2 * k := by omega
        have e4 : (2 * (k : Int) + 1).toNat = 2 * k + 1 := by omega
        have e5 : 2 * (k : Int) < (s.size : Int) := by omega
        have e6 : 2 * (k : Int) + 1 < (s.size : Int) := by omega
        have e7 : 0 ≤ 2 * (k : Int) := by omega
        have e8 : 0 ≤ 2 * (k : Int) + 1 := by omega
        have hbad : (isH s[2 * k] = false ∨ isH s[2 * k + 1] = false) → s.data.toList.all isH = false := fun h => by
          rw [← Bool.not_eq_true]
          intro hx
          rcases h with h | h
          · rw [all_at s hx (2 * k) hlt] at h; cases h
          · rw [all_at s hx (2 * k + 1) h3] at h; cases h
        have HB := Lib.hid hbad
        clear hbad
        go_wp2
        go_quiet ((go_at_call 74; exact quiet_same (ref_sign _ _)))
        cases ha : isH s[2 * k] with
        | false =>
          have HV := Lib.hid (sgn_no ha)
          have h16 : (15 : Int) < ((sgn s[2 * k]).toNat : Int) := by rw [HV.out]; decide
          obtain ⟨r1, r2⟩ := HNO.out (HB.out (.inl ha))
          have R1 := Lib.hid r1; have R2 := Lib.hid r2
          clear ha r1 r2
          go_wp2
          go_ret2
          exact ⟨.slice none 0 0, by rw [R2.out]; rfl, by rw [R1.out]; exact World.ownsRow_nil _ _ _ _, hf.drewN _⟩
        | true =>
          obtain ⟨hs1, hs2⟩ := sgn_hex ha
          have h15 : ¬ (15 : Int) < ((sgn s[2 * k]).toNat : Int) := by rw [hs1]; omega
          cases hb : isH s[2 * k + 1] with
          | false =>
            have HV := Lib.hid (sgn_no hb)
            have h16 : (15 : Int) < ((sgn s[2 * k + 1]).toNat : Int) := by rw [HV.out]; decide
            obtain ⟨r1, r2⟩ := HNO.out (HB.out (.inr hb))
            have R1 := Lib.hid r1; have R2 := Lib.hid r2
            clear ha hb r1 r2 hs1 hs2
            go_wp2
            go_ret2
            exact ⟨.slice none 0 0, by rw [R2.out]; rfl, by rw [R1.out]; exact World.ownsRow_nil _ _ _ _, hf.drewN _⟩
          | true =>
            obtain ⟨ht1, ht2⟩ := sgn_hex hb
            have h152 : ¬ (15 : Int) < ((sgn s[2 * k + 1]).toNat : Int) := by rw [ht1]; omega
            have hpr := pr_walk s[2 * k] s[2 * k + 1]
            rw [IntWalk.u8_in _ (by omega), ← hs1, ← ht1] at hpr
            have HP := Lib.hid hpr
            have hall2 : (s.data.toList.take (2 * (k + 1))).all isH = true := by
              rw [show 2 * (k + 1) = 2 * k + 1 + 1 from by omega, take_snoc s (2 * k + 1) h3, take_snoc s (2 * k) hlt, List.all_append, List.all_append, HA.out]
              simp [ha, hb]
            have HA2 := Lib.hid hall2
            have HX := Lib.hid (pairL_snoc k s.data.toList s[2 * k] s[2 * k + 1] (List.getElem?_eq_getElem (by simpa using hlt)) (List.getElem?_eq_getElem (by simpa using h3)))
            have hoq := ((Dr.refl wr).drewN nq).fr.own (S := No) ho (fun _ _ x => x)
            clear ha hb hs1 hs2 ht1 ht2 hpr hall2
            go_wp2_with (at_builtin; go_must (refine ap8_one (wr.drewN nq) rfl (.tmp 33) (.tmp 38) rfl w.heap.size u4 k (pairL (s.data.toList.take (2 * k))) rfl hoq _ (pr s[2 * k] s[2 * k + 1]) HP.out _ rfl (by omega) hf.size ?_); intro v2 w2 ho2 hg2 hr2)
            go_roundw
            case rel => exact ⟨k + 1, by omega, by first | (congr 1; done) | (congr 1; omega), HA2.out, by rw [HX.out]; exact ho2, ((hf.drewN nq).alloc _).grown hg2 (fun g e => .inr (ho.lt g e).1)⟩
            case measure => simp [intOf]; omega
      · have hke : 2 * k = s.size := by omega
        rw [hke, List.take_of_length_le (by simp)] at ho
        have hal : s.data.toList.all isH = true := by
          have := HA.out
          rwa [hke, List.take_of_length_le (by simp)] at this
        obtain ⟨r1, r2⟩ := HYES.out hal
        have hk2 : s.size / 2 = k := by omega
        have hge : ¬ 2 * (k : Int) < (s.size : Int) := by omega
        have HK := Lib.hid hk2
        have R1 := Lib.hid r1; have R2 := Lib.hid r2
        clear hke hk2 hal r1 r2
        go_wp2
        go_ret2
        exact ⟨u4, by rw [R2.out]; rfl, by rw [R1.out, HLN.out, HK.out]; exact ho, hf⟩
  · have hodd2 : ((s.size : Int) % 2 != 0) = true := by simp; omega
    have hb : unhexB s.data.toList = false := by unfold unhexB; simp [hodd]
    have e1 : unhexR s.data.toList = [] := by simp [unhexR, hb]
    have e2 : unhexE s.data.toList = 5 := by simp [unhexE, hb]
    rw [e1, e2]
    clear e1 e2 hb hodd
    go_enter Tryz.func51, Tryz.ntmps51
    go_wp2
    go_ret2
    exact ⟨_, rfl, World.ownsRow_nil _ _ _ _, Fr.refl _ _⟩

/-! ### Hex -/
theorem sign_cut (i : Nat) (h : i < 16) : signs16.extract i (i + 1) = bstr [sg (UInt8.ofNat i)] := by
  obtain rfl | rfl | rfl | rfl | rfl | rfl | rfl | rfl | rfl | rfl | rfl | rfl | rfl | rfl | rfl | rfl : i = 0 ∨ i = 1 ∨ i = 2 ∨ i = 3 ∨ i = 4 ∨ i = 5 ∨ i = 6 ∨ i = 7 ∨ i = 8 ∨ i = 9 ∨ i = 10 ∨ i = 11 ∨ i = 12 ∨ i = 13 ∨ i = 14 ∨ i = 15 := by omega
  all_goals decide +kernel
end Go.Proofs.YtbfodbejdaafaaaGreatDoor
/- The statements' own: what a type lets. -/
namespace Go.Proofs.YtbfodbejdaafaaaGreatDoor
open Go.RowKit
set_option maxHeartbeats 2000000
set_option linter.unusedVariables false
set_option linter.unusedSimpArgs false

section
variable {nm : ByteArray} {mn mx ty low top : Int}
theorem r_simple (s : ByteArray) (w : World) (hS6 : s.size ≤ 140737488355328) :
    Calls Tryz.prog 26 #[.agg #[.string nm, .int .i64 mn, .int .i64 mx, .int .i64 ty, .int .i64 low, .int .i64 top], .string s] w fun e w' => e = .returned (.int .i64 (chkE ty low top s.data.toList)) ∧ Fr No w w' := by
  have hb0 := Bk.new w 32 #[.string nm, .int .i64 mn, .int .i64 mx, .int .i64 ty, .int .i64 low, .int .i64 top]
  have b3 := hb0.cell 3
  have b4 := hb0.cell 4
  have b5 := hb0.cell 5
  have hfa : Fr No w (w.alloc (.cells #[.string nm, .int .i64 mn, .int .i64 mx, .int .i64 ty, .int .i64 low, .int .i64 top] 32)) := (Fr.refl No w).alloc _
  have HFA := Lib.hid hfa
  clear hfa
  have b3 : (w.alloc (.cells #[.string nm, .int .i64 mn, .int .i64 mx, .int .i64 ty, .int .i64 low, .int .i64 top] 32)).cell? ⟨w.heap.size, 3, none⟩ = some (.int .i64 ty) := b3
  have b4 : (w.alloc (.cells #[.string nm, .int .i64 mn, .int .i64 mx, .int .i64 ty, .int .i64 low, .int .i64 top] 32)).cell? ⟨w.heap.size, 4, none⟩ = some (.int .i64 low) := b4
  have b5 : (w.alloc (.cells #[.string nm, .int .i64 mn, .int .i64 mx, .int .i64 ty, .int .i64 low, .int .i64 top] 32)).cell? ⟨w.heap.size, 5, none⟩ = some (.int .i64 top) := b5
  have hsm : s.size ≤ maxLen := by unfold maxLen; omega
  clear hb0
  unfold chkE chkB
  cases h1 : (ty == 1) with
  | true =>
    simp only [h1, if_true, Bool.false_eq_true, if_false]
    have hc := fun u => ref_right s low top u hsm
    generalize rightB s.data.toList low top = R at hc ⊢
    have HC := Lib.hid hc
    clear hc
    cases R with
    | _ =>
      go_enter Tryz.func26, Tryz.ntmps26
      go_wp2_with (go_at_call 45; refine (HC.out _).mono ?_; rintro e w' ⟨rfl, rfl⟩)
      go_ret
      exact ⟨rfl, HFA.out⟩
  | false =>
  cases h2 : (ty == 2) with
  | true =>
    simp only [h2, if_true, Bool.false_eq_true, if_false]
    have hc := fun u => ref_plain_any s low top u hS6
    generalize plainB s.data.toList low top = R at hc ⊢
    have HC := Lib.hid hc
    clear hc
    cases R with
    | _ =>
      go_enter Tryz.func26, Tryz.ntmps26
      go_wp2_with (go_at_call 46; refine (HC.out _).mono ?_; rintro e w' ⟨rfl, rfl⟩)
      go_ret
      exact ⟨rfl, HFA.out⟩
  | false =>
  cases h3 : (ty == 3) with
  | true =>
    simp only [h3, if_true, Bool.false_eq_true, if_false]
    have hc := fun u => r_capitals s u hS6
    generalize codeB s.data.toList = R at hc ⊢
    have HC := Lib.hid hc
    clear hc
    cases R with
    | _ =>
      go_enter Tryz.func26, Tryz.ntmps26
      go_wp2_with (go_at_call 47; refine (HC.out _).mono ?_; rintro e w' ⟨rfl, rfl⟩)
      go_ret
      exact ⟨rfl, HFA.out⟩
  | false =>
  cases h4 : (ty == 4) with
  | true =>
    simp only [h4, if_true, Bool.false_eq_true, if_false]
    have hc := fun u => r_timeof s u hsm
    have hE : timeOfE s.data.toList = 0 ∨ timeOfE s.data.toList = 14 := by unfold timeOfE; split <;> simp
    generalize timeOfE s.data.toList = R at hc hE ⊢
    have HC := Lib.hid hc
    clear hc
    rcases hE with rfl | rfl
    · go_enter Tryz.func26, Tryz.ntmps26
      go_wp2_with (go_at_call 48; refine (HC.out _).mono ?_; rintro e w' ⟨T, rfl, hT3, hd⟩; clear hT3)
      go_ret
      exact ⟨rfl, HFA.out.dr hd⟩
    · go_enter Tryz.func26, Tryz.ntmps26
      go_wp2_with (go_at_call 48; refine (HC.out _).mono ?_; rintro e w' ⟨T, rfl, hT3, hd⟩; clear hT3)
      go_ret
      exact ⟨rfl, HFA.out.dr hd⟩
  | false =>
  cases h5 : (ty == 5) with
  | true =>
    simp only [h5, if_true, Bool.false_eq_true, if_false]
    have hc := fun u => r_amtof s u hS6
    have hE : amtOfE s.data.toList = 0 ∨ amtOfE s.data.toList = 14 := by unfold amtOfE; split <;> simp
    generalize amtOfE s.data.toList = R at hc hE ⊢
    have HC := Lib.hid hc
    clear hc
    rcases hE with rfl | rfl
    · go_enter Tryz.func26, Tryz.ntmps26
      go_wp2_with (go_at_call 49; refine (HC.out _).mono ?_; rintro e w' ⟨rfl, hf⟩)
      go_ret
      exact ⟨rfl, HFA.out.trans hf⟩
    · go_enter Tryz.func26, Tryz.ntmps26
      go_wp2_with (go_at_call 49; refine (HC.out _).mono ?_; rintro e w' ⟨rfl, hf⟩)
      go_ret
      exact ⟨rfl, HFA.out.trans hf⟩
  | false =>
  cases h6 : (ty == 6) with
  | true =>
    simp only [h6, if_true, Bool.false_eq_true, if_false]
    have hc := fun u => ref_aln_any s low top u hS6
    generalize alnB s.data.toList low top = R at hc ⊢
    have HC := Lib.hid hc
    clear hc
    cases R with
    | _ =>
      go_enter Tryz.func26, Tryz.ntmps26
      go_wp2_with (go_at_call 50; refine (HC.out _).mono ?_; rintro e w' ⟨rfl, rfl⟩)
      go_ret
      exact ⟨rfl, HFA.out⟩
  | false =>
  cases h7 : (ty == 7) with
  | true =>
    simp only [h7, if_true, Bool.false_eq_true, if_false]
    have hc := fun u => ref_unhex s u (by omega)
    have hE : unhexE s.data.toList = 0 ∨ unhexE s.data.toList = 5 := by unfold unhexE; split <;> simp
    rw [s_size]
    generalize unhexE s.data.toList = R at hc hE ⊢
    have HC := Lib.hid hc
    clear hc
    rcases hE with rfl | rfl
    · by_cases g1 : low ≤ (s.size : Int)
      · by_cases g2 : (s.size : Int) ≤ top
        · simp only [g1, g2, decide_true, decide_false, Bool.and_self, Bool.and_false, Bool.false_and, if_true, Bool.false_eq_true, if_false]
          go_enter Tryz.func26, Tryz.ntmps26
          go_wp2_with (go_at_call 51; refine (HC.out _).mono ?_; rintro e w' ⟨v, rfl, hO, hf⟩; (have c4 := hf.cell b4 (fun x => x)); (have c5 := hf.cell b5 (fun x => x)))
          go_ret
          exact ⟨rfl, HFA.out.trans hf⟩
        · simp only [g1, g2, decide_true, decide_false, Bool.and_self, Bool.and_false, Bool.false_and, if_true, Bool.false_eq_true, if_false]
          go_enter Tryz.func26, Tryz.ntmps26
          go_wp2_with (go_at_call 51; refine (HC.out _).mono ?_; rintro e w' ⟨v, rfl, hO, hf⟩; (have c4 := hf.cell b4 (fun x => x)); (have c5 := hf.cell b5 (fun x => x)))
          all_goals
            first
              | (exfalso; rename_i hz; simp at hz; omega)
              | (go_ret; exact ⟨rfl, HFA.out.trans hf⟩)
      · simp only [g1, decide_true, decide_false, Bool.and_self, Bool.and_false, Bool.false_and, if_true, Bool.false_eq_true, if_false]
        go_enter Tryz.func26, Tryz.ntmps26
        go_wp2_with (go_at_call 51; refine (HC.out _).mono ?_; rintro e w' ⟨v, rfl, hO, hf⟩; (have c4 := hf.cell b4 (fun x => x)); (have c5 := hf.cell b5 (fun x => x)))
        go_ret
        exact ⟨rfl, HFA.out.trans hf⟩
    · go_enter Tryz.func26, Tryz.ntmps26
      go_wp2_with (go_at_call 51; refine (HC.out _).mono ?_; rintro e w' ⟨v, rfl, hO, hf⟩; (have c4 := hf.cell b4 (fun x => x)); (have c5 := hf.cell b5 (fun x => x)))
      go_ret
      exact ⟨rfl, HFA.out.trans hf⟩
  | false =>
  simp only [*, if_true, Bool.false_eq_true, if_false]
  go_enter Tryz.func26, Tryz.ntmps26
  go_wp2
  go_ret
  exact ⟨rfl, HFA.out⟩
end
end Go.Proofs.YtbfodbejdaafaaaGreatDoor
/- Regions that draw their order, only read, and hold calls that lay new blocks: small words. -/
namespace Go.Proofs.YtbfodbejdaafaaaGreatDoor
open Go.RowKit
set_option linter.unusedVariables false

/-- a load of many cells, at a step of a region that draws and only reads -/
theorem quiet_load {P : Program} {ops : Array Oper} {C : World → Prop} {Q : Act → Prop} {o : Oper} {rest : List Oper} {a : Act} (ty : TypeId) (x : Operand) (ho : o.op = .load ty x) (hw : Region.wanted o (yielded ops a.tmps) = true)
    (b : Nat) (hx : a.eval x = .pointer (some ⟨b, 0, none⟩)) (cs : List Value) (d : TypeDesc) (hC : ∀ w, C w → w.rangeAt b 0 cs)
    (hu : P.underlying ty = some d) (hd : d.isRow = true) (hi : (P.info? ty).map (·.size) = some cs.length)
    (h : wpQuiet P ops C Q rest (a.put o.dst (.agg cs.toArray))) : wpQuiet P ops C Q (o :: rest) a := by
  unfold wpQuiet
  rw [if_pos hw]
  refine ⟨_, fun w hw' => ?_, h⟩
  unfold Oper.quietAt execOp
  simp only [ho, hx, Instr.loadAt, Instr.sureAddr, Sem.run_bind, Sem.run_pure, Result.andThen_ok, run_loadVar_mid w b 0 ty cs d (hC w hw') hu hd hi]
  exact ⟨rfl, rfl⟩
theorem below_of {P : Program} {f : FuncId} {args : Array Value} {v : Value} {w : World} (h : Calls P f args w fun e w' => e = .returned v ∧ Fr No w w') : Calls P f args w fun e w' => e = .returned v ∧ Below w.heap.size w w' :=
  h.mono fun _ _ ⟨e, f⟩ => ⟨e, f.toBelow⟩
theorem below_same {P : Program} {f : FuncId} {args : Array Value} {v : Value} {w : World} (h : Calls P f args w fun e w' => e = .returned v ∧ w = w') : Calls P f args w fun e w' => e = .returned v ∧ Below w.heap.size w w' :=
  h.mono fun _ _ ⟨e, f⟩ => ⟨e, f ▸ (Fr.refl No w).toBelow⟩
theorem below_dr {P : Program} {f : FuncId} {args : Array Value} {v : Value} {w : World} (h : Calls P f args w fun e w' => e = .returned v ∧ Dr w w') : Calls P f args w fun e w' => e = .returned v ∧ Below w.heap.size w w' :=
  h.mono fun _ _ ⟨e, f⟩ => ⟨e, f.fr.toBelow⟩
theorem fr_regrown (W : World) (d : Nat) (os : Array Obj) : Fr No W (Go.Sort.grow (redrawn W d) os) := Fr.of_below (below_regrown W d os)
end Go.Proofs.YtbfodbejdaafaaaGreatDoor
