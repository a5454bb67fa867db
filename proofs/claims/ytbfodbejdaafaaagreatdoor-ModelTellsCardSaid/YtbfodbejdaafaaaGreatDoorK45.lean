/- The texts RefTok9, joined. -/
import Derived.Test.YtbfodbejdaafaaaGreatDoorK39
import Derived.Test.YtbfodbejdaafaaaGreatDoorK19
import Derived.Lib.QuietBelow
/- The statements' own tokens: one attribute. -/
namespace Go.Proofs.YtbfodbejdaafaaaGreatDoor
open Go.RowKit
set_option maxHeartbeats 1000000
set_option linter.unusedVariables false

theorem drop_while_at (p : UInt8 → Bool) (L : List UInt8) (a : Nat) : L.drop (a + ((L.drop a).takeWhile p).length) = (L.drop a).dropWhile p := by
  rw [← List.drop_drop]
  have h := List.takeWhile_append_dropWhile (p := p) (l := L.drop a)
  have h2 := congrArg (List.drop ((L.drop a).takeWhile p).length) h
  rw [List.drop_left] at h2
  exact h2.symm
/-- a value's bytes: up to its mark, or < -/
def inVal (mark c : UInt8) : Bool := decide (c ≠ mark ∧ c.toNat ≠ 60)
/-- an attribute behind its name -/
def attrQ (n x : List UInt8) : Option ((List UInt8 × List UInt8) × List UInt8) :=
  match isP [61] x with
  | none => none
  | some l1 => match l1.dropWhile isBl with
    | [] => none
    | mark :: r => if mark.toNat ≠ 34 ∧ mark.toNat ≠ 39 then none else
      match r.dropWhile (inVal mark) with
      | [] => none
      | c :: rest => if c ≠ mark then none else (valV (r.takeWhile (inVal mark))).map fun v => ((n, v), rest)
theorem attrP_bad {used : List (List UInt8 × List UInt8)} {l : List UInt8} (h : nameOk (l.takeWhile isWi) = false) : attrP used l = none := by
  unfold attrP
  simp only [h, Bool.not_false, Bool.true_or, if_true]
theorem attrP_dup {used : List (List UInt8 × List UInt8)} {l : List UInt8} (j : Nat) (hj : j < used.length) (h : used[j].1 = nameR l) : attrP used l = none := by
  cases hn : nameOk (l.takeWhile isWi) with
  | false => exact attrP_bad hn
  | true =>
    unfold nameR at h
    rw [hn] at h
    simp only [if_true] at h
    have : used.any (fun a => a.1 == l.takeWhile isWi) = true := by
      rw [List.any_eq_true]
      exact ⟨used[j], List.getElem_mem _, by rw [h]; exact beq_self_eq_true _⟩
    unfold attrP
    simp only [hn, this, Bool.not_true, Bool.or_true, if_true]
theorem attrP_new {used : List (List UInt8 × List UInt8)} {l : List UInt8} (hn : nameOk (l.takeWhile isWi) = true) (h : ∀ j (hj : j < used.length), used[j].1 ≠ nameR l) : attrP used l = attrQ (nameR l) ((l.dropWhile isWi).dropWhile isBl) := by
  have hr : nameR l = l.takeWhile isWi := by unfold nameR; rw [hn]; rfl
  rw [hr] at h ⊢
  have : used.any (fun a => a.1 == l.takeWhile isWi) = false := by
    rw [List.any_eq_false]
    intro x hx
    obtain ⟨j, hj, rfl⟩ := List.getElem_of_mem hx
    rw [beq_iff_eq]
    exact h j hj
  unfold attrP
  simp only [hn, this, Bool.not_true, Bool.or_false, Bool.false_eq_true, if_false]
  rfl
theorem nameR_nil {l : List UInt8} : nameR l = [] ↔ nameOk (l.takeWhile isWi) = false := by
  unfold nameR
  cases hn : nameOk (l.takeWhile isWi) with
  | false => simp
  | true =>
    simp only [if_true]
    constructor
    · intro e
      rw [e] at hn
      cases hn
    · intro e; cases e
/-- blanks, from a place on -/
theorem r_blanks_at (g : Nat) (S : ByteArray) (p : Nat) : ∃ m q : Nat, q = p + m ∧ m = ((S.data.toList.drop p).takeWhile isBl).length ∧ S.data.toList.drop q = (S.data.toList.drop p).dropWhile isBl ∧
    ∀ u, WkT u g S p → Calls Tryz.prog 54 #[.pointer (some ⟨g, 0, none⟩)] u fun e w' => e = .returned (.int .i64 (m : Int)) ∧ WkT w' g S q ∧ Fr (Just g) u w' :=
  ⟨_, _, rfl, rfl, drop_while_at _ _ _, fun u h => r_blanks_any g S p u h⟩
theorem r_is_yes (g : Nat) (S P : ByteArray) (p : Nat) (r : List UInt8) (hP : P.size ≤ 65536) (h : isP P.data.toList (S.data.toList.drop p) = some r) : S.data.toList.drop (p + P.size) = r ∧
    ∀ u, WkT u g S p → Calls Tryz.prog 30 #[.pointer (some ⟨g, 0, none⟩), .string P] u fun e w' => e = .returned (.bool true) ∧ WkT w' g S (p + P.size) ∧ Fr (Just g) u w' := by
  constructor
  · have h1 := (isP_len h).1
    rw [← List.drop_drop, h1, ← size_list, List.drop_left]
  · intro u hu
    have h2 := r_is_any g S p P u hu hP
    rw [h] at h2
    simpa using h2
theorem r_is_no (g : Nat) (S P : ByteArray) (p : Nat) (hP : P.size ≤ 65536) (h : isP P.data.toList (S.data.toList.drop p) = none) :
    ∀ u, WkT u g S p → Calls Tryz.prog 30 #[.pointer (some ⟨g, 0, none⟩), .string P] u fun e w' => e = .returned (.bool false) ∧ WkT w' g S p ∧ Fr (Just g) u w' := by
  intro u hu
  have h2 := r_is_any g S p P u hu hP
  rw [h] at h2
  simpa using h2
/-- a name, from a place on -/
theorem r_name_at (g : Nat) (S : ByteArray) (p : Nat) : ∃ q : Nat, S.data.toList.drop q = (S.data.toList.drop p).dropWhile isWi ∧ q = p + ((S.data.toList.drop p).takeWhile isWi).length ∧
    ∀ u, WkT u g S p → Calls Tryz.prog 53 #[.pointer (some ⟨g, 0, none⟩)] u fun e w' => ∃ R : ByteArray, e = .returned (.string R) ∧ R.data.toList = nameR (S.data.toList.drop p) ∧ WkT w' g S q ∧ Fr (Just g) u w' :=
  ⟨_, drop_while_at _ _ _, rfl, fun u h => r_name_any g S p u h⟩
theorem attrQ_eq {n x : List UInt8} (h : isP [61] x = none) : attrQ n x = none := by
  unfold attrQ
  rw [h]
theorem attrQ_end {n x l1 : List UInt8} (h : isP [61] x = some l1) (h2 : l1.dropWhile isBl = []) : attrQ n x = none := by
  unfold attrQ
  rw [h]
  simp only [h2]
theorem attrQ_mark {n x l1 r : List UInt8} {m : UInt8} (h : isP [61] x = some l1) (h2 : l1.dropWhile isBl = m :: r) (h3 : m.toNat ≠ 34 ∧ m.toNat ≠ 39) : attrQ n x = none := by
  unfold attrQ
  rw [h]
  simp only [h2]
  rw [if_pos h3]
theorem attrQ_good {n x l1 r : List UInt8} {m : UInt8} (h : isP [61] x = some l1) (h2 : l1.dropWhile isBl = m :: r) (h3 : m.toNat = 34 ∨ m.toNat = 39) : attrQ n x = match r.dropWhile (inVal m) with
      | [] => none
      | c :: rest => if c ≠ m then none else (valV (r.takeWhile (inVal m))).map fun v => ((n, v), rest) := by
  unfold attrQ
  rw [h]
  simp only [h2]
  rw [if_neg (by omega)]
/-- what an attribute's call leaves -/
def AttrEnd (S : ByteArray) (g base n : Nat) (used : List (List UInt8 × List UInt8)) (r : Option ((List UInt8 × List UInt8) × List UInt8)) (e : Ending) (w' : World) : Prop := match r with
  | some (x, rest) => ∃ v' b, e = .returned (.tuple #[v', .bool true]) ∧ OwnI 2 AttrI w' base 56 No v' (n + 1) (used ++ [x]) ∧ WkT w' g S b ∧ S.data.toList.drop b = rest
  | none => ∃ A m c, e = .returned (.tuple #[.slice A m c, .bool false])

theorem r_value_one (S V : ByteArray) (w : World) (hs : S.size ≤ 65536) (hV : V.data.toList = valB S.data.toList) :
    Calls Tryz.prog 56 #[.string S] w fun e w' => e = .returned (.tuple #[.string V, .bool (valV S.data.toList).isSome]) ∧ Below w.heap.size w w' := by
  refine (r_value_any S w hs).mono ?_
  rintro e w' ⟨R, rfl, hR, hf⟩
  rw [← hV] at hR
  have : R = V := by rw [← bstr_self R, ← bstr_self V, hR]
  subst this
  exact ⟨rfl, hf.toBelow⟩

set_option maxRecDepth 100000 in
theorem r_attr_any (g : Nat) (S : ByteArray) (a : Nat) (w : World) (h : WkT w g S a) (base : Nat) (v : Value) (n : Nat) (used : List (List UInt8 × List UInt8)) (hown : OwnI 2 AttrI w base 56 No v n used) (hvg : v.ownBlock ≠ some g) (hn : n ≤ 65536) (hbase : base ≤ w.heap.size) :
    Calls Tryz.prog 76 #[.pointer (some ⟨g, 0, none⟩), v] w fun e w' => AttrEnd S g base n used (attrP used (S.data.toList.drop a)) e w' ∧ Fr (fun i => i = g ∨ v.ownBlock = some i) w w' := by
  have hown0 := hown
  obtain ⟨A, c, rfl, hrd⟩ := hown.rd' (M := fun i => i ≠ g) (fun i hi e => hvg (by rw [hi, e])) attr_ok (fun _ x => x.elim)
  have hlen := hrd.len attr_ok (by omega)
  obtain ⟨p1, D1, -, hnm⟩ := r_name_at g S a
  obtain ⟨m1, p2, -, -, D2, hb1⟩ := r_blanks_at g S p1
  have htop := hrd.top
  have H := Lib.hid h; have HOWN := Lib.hid hown0; have HRD := Lib.hid hrd; have HNM := Lib.hid hnm; have HB1 := Lib.hid hb1; have HD1 := Lib.hid D1; have HD2 := Lib.hid D2; have HVG := Lib.hid hvg; have HLEN := Lib.hid hlen
  clear hnm hb1 D1 D2 h hown hown0 hrd hvg hlen
  generalize hatt : attrP used (S.data.toList.drop a) = att
  have HATT := Lib.hid hatt
  clear hatt
  go_enter Tryz.func76, Tryz.ntmps76
  go_wp2_with (go_at_call 53; refine (HNM.out _ H.out).mono ?_; rintro e w1 ⟨R, rfl, hR, hw1, hf1⟩)
  have HR := Lib.hid hR; have HW1 := Lib.hid hw1; have HF := Lib.hid hf1
  clear hR hw1 hf1
  go_loop [7] (fun iv => ∃ k : Nat, iv = .int .i64 (k : Int) ∧ k ≤ n ∧ ∀ j (hj : j < k) (hl : j < used.length), used[j].1 ≠ R.data.toList) (fun iv => n - (intOf iv).toNat)
  case atStart => exact ⟨0, rfl, by omega, fun j hj => by omega⟩
  case round =>
    obtain ⟨k, rfl, hk, hall⟩ := hrel
    have HALL := Lib.hid hall
    clear hall
    by_cases hlt : k < n
    · have hltI : (k : Int) < (n : Int) := by omega
      have hkl : k < used.length := by rw [HLEN.out]; exact hlt
      have hrd1 := HRD.out.fr attr_ok HF.out (fun i hi e => hi e)
      obtain ⟨ad, cs, rfl, ⟨X, Y, rfl, hX, hY⟩, hcell⟩ := hrd1.at_ attr_ok (by omega) (i := k) hkl
      have c0 : w1.cell? (ad.add (k * 2)) = some (.string X) := hcell 0 _ rfl
      have HX := Lib.hid hX
      clear hcell hrd1 hX hY
      by_cases hq : X.data.toList = R.data.toList
      · have hqb : (X.toList == R.toList) = true := by rw [ba_list, ba_list, hq]; exact beq_self_eq_true _
        have hres : att = none := by rw [← HATT.out]; exact attrP_dup k hkl (by rw [← HX.out, hq, HR.out])
        have HRES := Lib.hid hres
        clear hq hres
        go_wp2
        go_ret2
        exact ⟨by rw [HRES.out]; exact ⟨_, _, _, rfl⟩, HF.out.mono (fun i hi => .inl hi)⟩
      · have hqb : (X.toList == R.toList) = false := by rw [ba_list, ba_list, beq_eq_false_iff_ne]; exact hq
        have HQ := Lib.hid hq
        clear hq
        go_wp2
        go_round
        case rel => exact ⟨k + 1, by go_num, by omega, fun j hj hl => by
          by_cases hjk : j = k
          · subst hjk; rw [← HX.out]; exact HQ.out
          · exact HALL.out j (by omega) hl⟩
        case measure => simp [intOf]; omega
    · obtain rfl : k = n := by omega
      have hltI : ¬ (k : Int) < (k : Int) := by omega
      have hnew : ∀ j (hj : j < used.length), used[j].1 ≠ nameR (S.data.toList.drop a) := fun j hj => by rw [← HR.out]; exact HALL.out j (by rw [← HLEN.out]; exact hj) hj
      have HNEW := Lib.hid hnew
      clear hnew
      by_cases hN : R.data.toList = []
      · have hRe : (R.toList == []) = true := by rw [ba_list, hN]; rfl
        have hres : att = none := by rw [← HATT.out]; exact attrP_bad (nameR_nil.1 (by rw [← HR.out]; exact hN))
        have HRES := Lib.hid hres
        clear hN hres
        go_wp2_with (go_at_call 54; refine (HB1.out _ HW1.out).mono ?_; rintro e w2 ⟨rfl, hw2, hf2⟩)
        go_ret2
        exact ⟨by rw [HRES.out]; exact ⟨_, _, _, rfl⟩, (HF.out.trans hf2).mono (fun i hi => .inl hi)⟩
      · have hRe : (R.toList == []) = false := by rw [ba_list, beq_eq_false_iff_ne]; exact hN
        have hatt : att = attrQ R.data.toList (S.data.toList.drop p2) := by
          rw [← HATT.out, HD2.out, HD1.out, HR.out]
          refine attrP_new ?_ HNEW.out
          cases hx : nameOk ((S.data.toList.drop a).takeWhile isWi) with
          | true => rfl
          | false => exact absurd (by rw [HR.out]; exact nameR_nil.2 hx) hN
        clear hN
        cases hq : isP [61] (S.data.toList.drop p2) with
        | none =>
          have his := r_is_no g S ⟨#[61]⟩ p2 (by decide) hq
          have hres : att = none := by rw [hatt]; exact attrQ_eq hq
          have HRES := Lib.hid hres; have HIS := Lib.hid his
          clear hres his hatt hq
          go_wp2_with (first
            | (go_at_call 54; refine (HB1.out _ HW1.out).mono ?_; rintro e w2 ⟨rfl, hw2, hf2⟩)
            | (go_at_call 30; refine (HIS.out _ hw2).mono ?_; rintro e w3 ⟨rfl, hw3, hf3⟩))
          go_ret2
          exact ⟨by rw [HRES.out]; exact ⟨_, _, _, rfl⟩, (HF.out.trans (hf2.trans hf3)).mono (fun i hi => .inl hi)⟩
        | some r =>
          obtain ⟨D3, his⟩ := r_is_yes g S ⟨#[61]⟩ p2 r (by decide) hq
          obtain ⟨p3, hp3⟩ : ∃ p3, p2 + (⟨#[61]⟩ : ByteArray).size = p3 := ⟨_, rfl⟩
          rw [hp3] at D3 his
          obtain ⟨m2, p4, -, -, D4, hb2⟩ := r_blanks_at g S p3
          have HIS := Lib.hid his; have HB2 := Lib.hid hb2; have HD3 := Lib.hid D3; have HD4 := Lib.hid D4; have HQ := Lib.hid hq; have HATQ := Lib.hid hatt
          clear his hatt hq hb2 D3 D4 hp3
          have tok1 : True := trivial
          go_wp2_with (first
            | (clear tok1; go_at_call 54; refine (HB1.out _ HW1.out).mono ?_; rintro e w2 ⟨rfl, hw2, hf2⟩)
            | (go_at_call 30; refine (HIS.out _ hw2).mono ?_; rintro e w3 ⟨rfl, hw3, hf3⟩)
            | (go_at_call 54; refine (HB2.out _ hw3).mono ?_; rintro e w4 ⟨rfl, hw4, hf4⟩; have c0 : w4.cell? ⟨g, 0, none⟩ = some (.string S) := hw4.blk.cell 0; have c1 : w4.cell? ⟨g, 1, none⟩ = some (.int .i64 (p4 : Int)) := hw4.blk.cell 1; have z1 := hw4.blk.frozen 1))
          have hle4 := hw4.le
          have hsm4 := hw4.small
          have hdl : S.data.toList.drop p4 = r.dropWhile isBl := by rw [HD4.out, HD3.out]
          have hfw4 : Fr (Just g) w w4 := HF.out.trans ((hf2.trans hf3).trans hf4)
          have HFW4 := Lib.hid hfw4; have HW4 := Lib.hid hw4
          clear hfw4 hw2 hw3 hw4 hf2 hf3 hf4
          by_cases hp : p4 < S.size
          · have hpI : ¬ (S.size : Int) ≤ (p4 : Int) := by omega
            obtain ⟨x, hx⟩ : ∃ x, S[p4] = x := ⟨_, rfl⟩
            have hdc := sdrop_cons S p4 hp
            rw [hdl, hx] at hdc
            by_cases hmk : x.toNat = 34 ∨ x.toNat = 39
            · have hatg := attrQ_good (n := R.data.toList) HQ.out hdc hmk
              rw [← HATQ.out] at hatg
              have hx60 : x.toNat ≠ 60 := by omega
              have HATG := Lib.hid hatg; have HX60 := Lib.hid hx60
              have hmm : (((x.toNat : Int) != 34) = false ∧ 1 = 1) ∨ (((x.toNat : Int) != 34) = true ∧ ((x.toNat : Int) != 39) = false) := by
                rcases hmk with h | h
                · exact .inl ⟨by rw [h]; rfl, rfl⟩
                · exact .inr ⟨by rw [h]; rfl, by rw [h]; rfl⟩
              clear hatg hdc hdl hmk hx60
              rcases hmm with ⟨hm1, _⟩ | ⟨hm1, hm2⟩
              all_goals
                go_quiet (fail)
                go_wp2
                generalize nq = n1
                go_quiet (fail)
                go_wp2
                have hw5 := (HW4.out.no ((Fr.refl No w4).drewN (n1 + nq))).set (b := p4 + 1) (by omega)
                have hf5 := (HFW4.out.drewN (n1 + nq)).setCell (p := ⟨g, 1, none⟩) (.inl (Just.at g)) (.int .i64 ((p4 + 1 : Nat) : Int))
                obtain ⟨f, hf⟩ : ∃ f, p4 + 1 = f := ⟨_, rfl⟩
                have hfI : (p4 : Int) + 1 = (f : Int) := by omega
                rw [hf] at hw5 hf5
                rw [hfI]
                have HATF := HATG.out
                rw [hf] at HATF
                have HATG := Lib.hid HATF
                have hfs : f ≤ S.size := by omega
                clear HATF hf hfI c0 c1 z1 hm1 hp hpI hx
                generalize (w4.drewN (n1 + nq)).setCell ⟨g, 1, none⟩ (.int .i64 (f : Int)) = w5 at hw5 hf5 ⊢
                have HW5 := Lib.hid hw5; have HF5 := Lib.hid hf5
                clear hw5 hf5
                go_loopw [] (fun wr => ∃ t : Nat, WkT wr g S (f + t) ∧ Fr (Just g) w wr ∧ ∀ j (hj : j < t) (hl : j < (S.data.toList.drop f).length), inVal x (S.data.toList.drop f)[j] = true) (fun wr => S.size - posOf wr g)
                case atStart => exact ⟨0, HW5.out, HF5.out, fun j hj => by omega⟩
                case round =>
                  obtain ⟨t, hwt, hft, hall⟩ := hrel
                  obtain ⟨q, hq⟩ : ∃ q, f + t = q := ⟨_, rfl⟩
                  rw [hq] at hwt
                  have c0 : wr.cell? ⟨g, 0, none⟩ = some (.string S) := hwt.blk.cell 0
                  have c1 : wr.cell? ⟨g, 1, none⟩ = some (.int .i64 (q : Int)) := hwt.blk.cell 1
                  have z1 := hwt.blk.frozen 1
                  have hle := hwt.le
                  have hpos := hwt.pos
                  have hdl : (S.data.toList.drop f).length = S.size - f := by rw [List.length_drop, size_list]
                  have HT := Lib.hid hq; have HWT := Lib.hid hwt; have HFT := Lib.hid hft; have HALLV := Lib.hid hall; have HPOS := Lib.hid hpos; have HDL := Lib.hid hdl
                  clear hq hwt hft hall hpos hdl
                  by_cases hlt2 : q < S.size
                  · have hltI2 : (q : Int) < (S.size : Int) := by omega
                    obtain ⟨y, hy⟩ : ∃ y, S[q] = y := ⟨_, rfl⟩
                    have hyl : ∀ hl : t < (S.data.toList.drop f).length, (S.data.toList.drop f)[t] = y := fun hl => by
                      rw [← hy, byte_at S q hlt2, List.getElem_drop]
                      have := HT.out
                      subst this
                      rfl
                    have HYL := Lib.hid hyl
                    clear hyl
                    by_cases hym : y = x
                    · have hyb : ((y.toNat : Int) != (x.toNat : Int)) = false := by rw [hym]; exact bne_self_eq_false _
                      have hgeI2 : ¬ (S.size : Int) ≤ (q : Int) := by omega
                      have hout : inVal x y = false := by unfold inVal; rw [decide_eq_false_iff_not]; exact fun h => h.1 hym
                      have hlen := take_while_len (inVal x) (S.data.toList.drop f) t HALLV.out (by rw [HDL.out]; have := HT.out; omega) (fun hl => by rw [HYL.out hl]; exact hout)
                      have hdw := drop_while_at (inVal x) S.data.toList f
                      rw [hlen, HT.out, sdrop_cons S q hlt2, hy] at hdw
                      have f1 : (0 : Int) ≤ (q : Int) ∧ (q : Int) ≤ (S.size : Int) := by omega
                      have f2 : (0 : Int) ≤ (f : Int) ∧ (f : Int) ≤ (q : Int) := by have := HT.out; omega
                      obtain ⟨T, hTT⟩ : ∃ T, S.extract f q = T := ⟨_, rfl⟩
                      have hTl : T.data.toList = (S.data.toList.drop f).takeWhile (inVal x) := by
                        rw [take_while_pre, hlen, ← hTT, ext_list]
                        have := HT.out
                        congr 1
                        omega
                      have hTs : T.size ≤ 65536 := by rw [← size_list, hTl, hlen]; have := HT.out; omega
                      have hres : att = (valV T.data.toList).map fun v => ((R.data.toList, v), S.data.toList.drop (q + 1)) := by
                        rw [HATG.out, ← hdw]
                        simp only
                        rw [if_neg (fun h => h hym), hTl]
                      obtain ⟨V, hV⟩ : ∃ V : ByteArray, V.data.toList = valB T.data.toList := ⟨bstr _, rfl⟩
                      have hval := fun u => r_value_one T V u hTs hV
                      have HRES := Lib.hid hres; have HVAL := Lib.hid hval
                      clear hres hdw hlen hout hym hTl hTs hval
                      go_wp2
                      go_quiet (fail)
                      go_wp2
                      generalize nq = n1
                      go_quiet (fail)
                      go_wp2
                      generalize nq = n2
                      have hdr6 : Dr wr ((wr.drewN n1).drewN n2) := (((Dr.refl wr).drewN n1).drewN n2)
                      generalize (wr.drewN n1).drewN n2 = w6 at hdr6 ⊢
                      have hw6 := HWT.out.no hdr6.fr
                      have hf6 := HFT.out.dr hdr6
                      have c60 : w6.cell? ⟨g, 0, none⟩ = some (.string S) := hw6.blk.cell 0
                      have c61 : w6.cell? ⟨g, 1, none⟩ = some (.int .i64 (q : Int)) := hw6.blk.cell 1
                      have q60 := fun d os => cell_regrown c60 d os
                      have q61 := fun d os => cell_regrown c61 d os
                      have HW6 := Lib.hid hw6; have HF6 := Lib.hid hf6
                      clear hdr6 hw6 hf6 c0 c1 z1 HWT HFT c60 c61
                      refine wp_region_quiet_below (by kernel_rfl) (by kernel_rfl) ?_
                      repeat (quiet_step ((go_at_call 56; exact Calls.regrown_of (HVAL.out _))))
                      refine wpQuiet_nil ?_
                      intro w7 hw7r
                      obtain ⟨⟨nr, osr⟩, hw7r⟩ := hw7r
                      have hf7 : Fr No w6 w7 := by rw [hw7r]; exact Fr.of_below (below_regrown w6 nr osr)
                      clear hw7r q60 q61
                      have c71 : w7.cell? ⟨g, 1, none⟩ = some (.int .i64 (q : Int)) := (HW6.out.no hf7).blk.cell 1
                      have z71 := (HW6.out.no hf7).blk.frozen 1
                      have hfu := (HF6.out.trans hf7.no).setCell (p := ⟨g, 1, none⟩) (.inl (Just.at g)) (.int .i64 ((q : Int) + 1))
                      have hou := HOWN.out.fr attr_ok hfu (fun _ x => x.elim) (fun i hi e => HVG.out (by rw [hi, e]))
                      go_wp2_with (at_builtin; go_must (refine ap_attr1 (w7.setCell ⟨g, 1, none⟩ (.int .i64 ((q : Int) + 1))) rfl (.tmp 161) (.tmp 165) rfl base (.slice A k c) k used rfl hou R V (R.data.toList, V.data.toList) rfl rfl _ _ (by simp) rfl (by omega) (Nat.le_trans hbase hfu.size) ?_); intro v8 w8 ho8 hg8 hr8)
                      go_ret2
                      have hw7 : WkT (w7.setCell ⟨g, 1, none⟩ (.int .i64 ((q : Int) + 1))) g S (q + 1) := by
                        have h2 := (HW6.out.no hf7).set (b := q + 1) (by omega)
                        have e1 : ((q + 1 : Nat) : Int) = (q : Int) + 1 := by omega
                        rwa [e1] at h2
                      have hgr : Fr (fun i => (Value.slice A k c).ownBlock = some i) (w7.setCell ⟨g, 1, none⟩ (.int .i64 ((q : Int) + 1))) w8 := ((Fr.refl _ _).alloc _).grown hg8 (fun i e => .inl e)
                      have hw8 : WkT w8 g S (q + 1) := ⟨hw7.blk.fr hgr HVG.out, hw7.le, hw7.small⟩
                      refine ⟨?_, (hfu.mono (fun i hi => .inl hi)).trans (hgr.mono (fun i hi => .inr hi))⟩
                      rw [HRES.out]
                      cases hz : valV T.data.toList with
                      | none =>
                        obtain ⟨A8, c8, rfl, _⟩ := ho8.rd' (M := fun _ => True) (fun _ _ => trivial) attr_ok (fun _ _ => trivial)
                        exact ⟨A8, _, c8, rfl⟩
                      | some z =>
                        have hVz : V.data.toList = z := by rw [hV]; unfold valB; rw [hz]; rfl
                        rw [hVz] at ho8
                        exact ⟨v8, q + 1, rfl, ho8, hw8, rfl⟩
                    · have hyb : ((y.toNat : Int) != (x.toNat : Int)) = true := by
                        rw [bne_iff_ne]
                        intro e
                        exact hym (UInt8.toNat_inj.1 (by omega))
                      by_cases hy6 : y.toNat = 60
                      · have hy6b : ((y.toNat : Int) == 60) = true := by rw [hy6]; rfl
                        have hout : inVal x y = false := by unfold inVal; rw [decide_eq_false_iff_not]; omega
                        have hlen := take_while_len (inVal x) (S.data.toList.drop f) t HALLV.out (by rw [HDL.out]; have := HT.out; omega) (fun hl => by rw [HYL.out hl]; exact hout)
                        have hdw := drop_while_at (inVal x) S.data.toList f
                        rw [hlen, HT.out, sdrop_cons S q hlt2, hy] at hdw
                        have hres : att = none := by
                          rw [HATG.out, ← hdw]
                          simp only
                          rw [if_pos hym]
                        have HRES := Lib.hid hres
                        clear hres hdw hlen hout hym hy6
                        go_wp2
                        go_quiet (fail)
                        go_wp2
                        generalize nq = n1
                        go_quiet (fail)
                        go_wp2
                        go_ret2
                        exact ⟨by rw [HRES.out]; exact ⟨_, _, _, rfl⟩, ((HFT.out.drewN _).drewN _).mono (fun i hi => .inl hi)⟩
                      · have hy6b : ((y.toNat : Int) == 60) = false := by rw [beq_eq_false_iff_ne]; omega
                        have hin : inVal x y = true := by unfold inVal; rw [decide_eq_true_iff]; exact ⟨hym, hy6⟩
                        have HIN := Lib.hid hin
                        clear hym hy6 hin
                        go_wp2
                        go_quiet (fail)
                        go_wp2
                        generalize nq = n1
                        go_quiet (fail)
                        go_wp2
                        have h2 := (HWT.out.no ((Fr.refl No wr).drewN (n1 + nq))).set (b := q + 1) (by omega)
                        have e1 : ((q + 1 : Nat) : Int) = (q : Int) + 1 := by omega
                        rw [e1] at h2
                        go_roundw
                        case rel =>
                          refine ⟨t + 1, ?_, (HFT.out.drewN (n1 + nq)).setCell (p := ⟨g, 1, none⟩) (.inl (Just.at g)) _, fun j hj hl => ?_⟩
                          · have h3 := HT.out
                            rw [show f + (t + 1) = q + 1 by omega]
                            exact h2
                          · by_cases hjk : j = t
                            · subst hjk; rw [HYL.out hl]; exact HIN.out
                            · exact HALLV.out j (by omega) hl
                        case measure =>
                          have p2 := h2.pos
                          have p1 := HPOS.out
                          rw [p1, p2]
                          omega
                  · have hqe : q = S.size := by omega
                    have hltI2 : ¬ (q : Int) < (S.size : Int) := by omega
                    have hgeI2 : (S.size : Int) ≤ (q : Int) := by omega
                    have hlen := take_while_len (inVal x) (S.data.toList.drop f) t HALLV.out (by rw [HDL.out]; have := HT.out; omega) (fun hl => by rw [HDL.out] at hl; have := HT.out; omega)
                    have hdw := drop_while_at (inVal x) S.data.toList f
                    rw [hlen, HT.out, hqe, List.drop_eq_nil_of_le (by rw [size_list]; exact Nat.le_refl _)] at hdw
                    have hres : att = none := by rw [HATG.out, ← hdw]
                    have HRES := Lib.hid hres
                    clear hres hdw hlen hqe
                    go_wp2
                    go_quiet (fail)
                    go_wp2
                    generalize nq = n1
                    go_quiet (fail)
                    go_wp2
                    go_ret2
                    exact ⟨by rw [HRES.out]; exact ⟨_, _, _, rfl⟩, ((HFT.out.drewN _).drewN _).mono (fun i hi => .inl hi)⟩
            · have hm1 : ((x.toNat : Int) != 34) = true := by rw [bne_iff_ne]; omega
              have hm2 : ((x.toNat : Int) != 39) = true := by rw [bne_iff_ne]; omega
              have hres : att = none := by rw [HATQ.out]; exact attrQ_mark HQ.out hdc (by omega)
              have HRES := Lib.hid hres
              clear hres hdc hdl hmk
              go_quiet (fail)
              go_wp2
              go_ret2
              exact ⟨by rw [HRES.out]; exact ⟨_, _, _, rfl⟩, (HFW4.out.drewN _).mono (fun i hi => .inl hi)⟩
          · obtain rfl : p4 = S.size := by omega
            have hpI : (S.size : Int) ≤ (S.size : Int) := by omega
            have hres : att = none := by rw [HATQ.out]; exact attrQ_end HQ.out (by rw [← hdl]; exact List.drop_eq_nil_of_le (by rw [size_list]; exact Nat.le_refl _))
            have HRES := Lib.hid hres
            clear hres hdl
            go_quiet (fail)
            go_wp2
            go_ret2
            exact ⟨by rw [HRES.out]; exact ⟨_, _, _, rfl⟩, (HFW4.out.drewN _).mono (fun i hi => .inl hi)⟩
end Go.Proofs.YtbfodbejdaafaaaGreatDoor
