/- The texts RefTok9, RefTokA, RefTokB, RefTokC, joined. -/
import Derived.Test.YthkjmbkfcnehoaaGreatDoorRefTokX
import Derived.Test.YthkjmbkfcnehoaaGreatDoorIts
import Derived.Lib.QuietBelow
import Derived.Test.YthkjmbkfcnehoaaGreatDoorRefTxts
/- The statements' own tokens: one attribute. -/
namespace Go.Proofs.YthkjmbkfcnehoaaGreatDoor
open Go.RowKit
set_option maxHeartbeats 1000000
set_option linter.unusedVariables false

theorem drop_while_at (p : UInt8 → Bool) (L : List UInt8) (a : Nat) : L.drop (a + ((L.drop a).takeWhile p).length) = (L.drop a).dropWhile p := by
  rw [← List.drop_drop]
  have h := List.takeWhile_append_dropWhile (p := p) (l := L.drop a)
  have h2 := congrArg (List.drop ((L.drop a).takeWhile p).length) h
  rw [List.drop_left] at h2
  exact h2.symm
/-- a value's bytes: up to its mark, or < -/
def inVal (mark c : UInt8) : Bool := decide (c ≠ mark ∧ c.toNat ≠ 60)
/-- an attribute behind its name -/
def attrQ (n x : List UInt8) : Option ((List UInt8 × List UInt8) × List UInt8) :=
  match isP [61] x with
  | none => none
  | some l1 => match l1.dropWhile isBl with
    | [] => none
    | mark :: r => if mark.toNat ≠ 34 ∧ mark.toNat ≠ 39 then none else
      match r.dropWhile (inVal mark) with
      | [] => none
      | c :: rest => if c ≠ mark then none else (valV (r.takeWhile (inVal mark))).map fun v => ((n, v), rest)
theorem attrP_bad {used : List (List UInt8 × List UInt8)} {l : List UInt8} (h : nameOk (l.takeWhile isWi) = false) : attrP used l = none := by
  unfold attrP
  simp only [h, Bool.not_false, Bool.true_or, if_true]
theorem attrP_dup {used : List (List UInt8 × List UInt8)} {l : List UInt8} (j : Nat) (hj : j < used.length) (h : used[j].1 = nameR l) : attrP used l = none := by
  cases hn : nameOk (l.takeWhile isWi) with
  | false => exact attrP_bad hn
  | true =>
    unfold nameR at h
    rw [hn] at h
    simp only [if_true] at h
    have : used.any (fun a => a.1 == l.takeWhile isWi) = true := by
      rw [List.any_eq_true]
      exact ⟨used[j], List.getElem_mem _, by rw [h]; exact beq_self_eq_true _⟩
    unfold attrP
    simp only [hn, this, Bool.not_true, Bool.or_true, if_true]
theorem attrP_new {used : List (List UInt8 × List UInt8)} {l : List UInt8} (hn : nameOk (l.takeWhile isWi) = true) (h : ∀ j (hj : j < used.length), used[j].1 ≠ nameR l) : attrP used l = attrQ (nameR l) ((l.dropWhile isWi).dropWhile isBl) := by
  have hr : nameR l = l.takeWhile isWi := by unfold nameR; rw [hn]; rfl
  rw [hr] at h ⊢
  have : used.any (fun a => a.1 == l.takeWhile isWi) = false := by
    rw [List.any_eq_false]
    intro x hx
    obtain ⟨j, hj, rfl⟩ := List.getElem_of_mem hx
    rw [beq_iff_eq]
    exact h j hj
  unfold attrP
  simp only [hn, this, Bool.not_true, Bool.or_false, Bool.false_eq_true, if_false]
  rfl
theorem nameR_nil {l : List UInt8} : nameR l = [] ↔ nameOk (l.takeWhile isWi) = false := by
  unfold nameR
  cases hn : nameOk (l.takeWhile isWi) with
  | false => simp
  | true =>
    simp only [if_true]
    constructor
    · intro e
      rw [e] at hn
      cases hn
    · intro e; cases e
/-- blanks, from a place on -/
theorem r_blanks_at (g : Nat) (S : ByteArray) (p : Nat) : ∃ m q : Nat, q = p + m ∧ m = ((S.data.toList.drop p).takeWhile isBl).length ∧ S.data.toList.drop q = (S.data.toList.drop p).dropWhile isBl ∧
    ∀ u, WkT u g S p → Calls Tryz.prog 60 #[.pointer (some ⟨g, 0, none⟩)] u fun e w' => e = .returned (.int .i64 (m : Int)) ∧ WkT w' g S q ∧ Fr (Just g) u w' :=
  ⟨_, _, rfl, rfl, drop_while_at _ _ _, fun u h => r_blanks_any g S p u h⟩
theorem r_is_yes (g : Nat) (S P : ByteArray) (p : Nat) (r : List UInt8) (hP : P.size ≤ 65536) (h : isP P.data.toList (S.data.toList.drop p) = some r) : S.data.toList.drop (p + P.size) = r ∧
    ∀ u, WkT u g S p → Calls Tryz.prog 38 #[.pointer (some ⟨g, 0, none⟩), .string P] u fun e w' => e = .returned (.bool true) ∧ WkT w' g S (p + P.size) ∧ Fr (Just g) u w' := by
  constructor
  · have h1 := (isP_len h).1
    rw [← List.drop_drop, h1, ← size_list, List.drop_left]
  · intro u hu
    have h2 := r_is_any g S p P u hu hP
    rw [h] at h2
    simpa using h2
theorem r_is_no (g : Nat) (S P : ByteArray) (p : Nat) (hP : P.size ≤ 65536) (h : isP P.data.toList (S.data.toList.drop p) = none) :
    ∀ u, WkT u g S p → Calls Tryz.prog 38 #[.pointer (some ⟨g, 0, none⟩), .string P] u fun e w' => e = .returned (.bool false) ∧ WkT w' g S p ∧ Fr (Just g) u w' := by
  intro u hu
  have h2 := r_is_any g S p P u hu hP
  rw [h] at h2
  simpa using h2
/-- a name, from a place on -/
theorem r_name_at (g : Nat) (S : ByteArray) (p : Nat) : ∃ q : Nat, S.data.toList.drop q = (S.data.toList.drop p).dropWhile isWi ∧ q = p + ((S.data.toList.drop p).takeWhile isWi).length ∧
    ∀ u, WkT u g S p → Calls Tryz.prog 59 #[.pointer (some ⟨g, 0, none⟩)] u fun e w' => ∃ R : ByteArray, e = .returned (.string R) ∧ R.data.toList = nameR (S.data.toList.drop p) ∧ WkT w' g S q ∧ Fr (Just g) u w' :=
  ⟨_, drop_while_at _ _ _, rfl, fun u h => r_name_any g S p u h⟩
theorem attrQ_eq {n x : List UInt8} (h : isP [61] x = none) : attrQ n x = none := by
  unfold attrQ
  rw [h]
theorem attrQ_end {n x l1 : List UInt8} (h : isP [61] x = some l1) (h2 : l1.dropWhile isBl = []) : attrQ n x = none := by
  unfold attrQ
  rw [h]
  simp only [h2]
theorem attrQ_mark {n x l1 r : List UInt8} {m : UInt8} (h : isP [61] x = some l1) (h2 : l1.dropWhile isBl = m :: r) (h3 : m.toNat ≠ 34 ∧ m.toNat ≠ 39) : attrQ n x = none := by
  unfold attrQ
  rw [h]
  simp only [h2]
  rw [if_pos h3]
theorem attrQ_good {n x l1 r : List UInt8} {m : UInt8} (h : isP [61] x = some l1) (h2 : l1.dropWhile isBl = m :: r) (h3 : m.toNat = 34 ∨ m.toNat = 39) : attrQ n x = match r.dropWhile (inVal m) with
      | [] => none
      | c :: rest => if c ≠ m then none else (valV (r.takeWhile (inVal m))).map fun v => ((n, v), rest) := by
  unfold attrQ
  rw [h]
  simp only [h2]
  rw [if_neg (by omega)]
/-- what an attribute's call leaves -/
def AttrEnd (S : ByteArray) (g base n : Nat) (used : List (List UInt8 × List UInt8)) (r : Option ((List UInt8 × List UInt8) × List UInt8)) (e : Ending) (w' : World) : Prop := match r with
  | some (x, rest) => ∃ v' b, e = .returned (.tuple #[v', .bool true]) ∧ OwnI 2 AttrI w' base 59 No v' (n + 1) (used ++ [x]) ∧ WkT w' g S b ∧ S.data.toList.drop b = rest
  | none => ∃ A m c, e = .returned (.tuple #[.slice A m c, .bool false])

theorem r_value_one (S V : ByteArray) (w : World) (hs : S.size ≤ 65536) (hV : V.data.toList = valB S.data.toList) :
    Calls Tryz.prog 62 #[.string S] w fun e w' => e = .returned (.tuple #[.string V, .bool (valV S.data.toList).isSome]) ∧ Below w.heap.size w w' := by
  refine (r_value_any S w hs).mono ?_
  rintro e w' ⟨R, rfl, hR, hf⟩
  rw [← hV] at hR
  have : R = V := by rw [← bstr_self R, ← bstr_self V, hR]
  subst this
  exact ⟨rfl, hf.toBelow⟩

set_option maxRecDepth 100000 in
theorem r_attr_any (g : Nat) (S : ByteArray) (a : Nat) (w : World) (h : WkT w g S a) (base : Nat) (v : Value) (n : Nat) (used : List (List UInt8 × List UInt8)) (hown : OwnI 2 AttrI w base 59 No v n used) (hvg : v.ownBlock ≠ some g) (hn : n ≤ 65536) (hbase : base ≤ w.heap.size) :
    Calls Tryz.prog 92 #[.pointer (some ⟨g, 0, none⟩), v] w fun e w' => AttrEnd S g base n used (attrP used (S.data.toList.drop a)) e w' ∧ Fr (fun i => i = g ∨ v.ownBlock = some i) w w' := by
  have hown0 := hown
  obtain ⟨A, c, rfl, hrd⟩ := hown.rd' (M := fun i => i ≠ g) (fun i hi e => hvg (by rw [hi, e])) attr_ok (fun _ x => x.elim)
  have hlen := hrd.len attr_ok (by omega)
  obtain ⟨p1, D1, -, hnm⟩ := r_name_at g S a
  obtain ⟨m1, p2, -, -, D2, hb1⟩ := r_blanks_at g S p1
  have htop := hrd.top
  have H := Lib.hid h; have HOWN := Lib.hid hown0; have HRD := Lib.hid hrd; have HNM := Lib.hid hnm; have HB1 := Lib.hid hb1; have HD1 := Lib.hid D1; have HD2 := Lib.hid D2; have HVG := Lib.hid hvg; have HLEN := Lib.hid hlen
  clear hnm hb1 D1 D2 h hown hown0 hrd hvg hlen
  generalize hatt : attrP used (S.data.toList.drop a) = att
  have HATT := Lib.hid hatt
  clear hatt
  go_enter Tryz.func92, Tryz.ntmps92
  go_wp2_with (go_at_call 59; refine (HNM.out _ H.out).mono ?_; rintro e w1 ⟨R, rfl, hR, hw1, hf1⟩)
  have HR := Lib.hid hR; have HW1 := Lib.hid hw1; have HF := Lib.hid hf1
  clear hR hw1 hf1
  go_loop [7] (fun iv => ∃ k : Nat, iv = .int .i64 (k : Int) ∧ k ≤ n ∧ ∀ j (hj : j < k) (hl : j < used.length), used[j].1 ≠ R.data.toList) (fun iv => n - (intOf iv).toNat)
  case atStart => exact ⟨0, rfl, by omega, fun j hj => by omega⟩
  case round =>
    obtain ⟨k, rfl, hk, hall⟩ := hrel
    have HALL := Lib.hid hall
    clear hall
    by_cases hlt : k < n
    · have hltI : (k : Int) < (n : Int) := by omega
      have hkl : k < used.length := by rw [HLEN.out]; exact hlt
      have hrd1 := HRD.out.fr attr_ok HF.out (fun i hi e => hi e)
      obtain ⟨ad, cs, rfl, ⟨X, Y, rfl, hX, hY⟩, hcell⟩ := hrd1.at_ attr_ok (by omega) (i := k) hkl
      have c0 : w1.cell? (ad.add (k * 2)) = some (.string X) := hcell 0 _ rfl
      have HX := Lib.hid hX
      clear hcell hrd1 hX hY
      by_cases hq : X.data.toList = R.data.toList
      · have hqb : (X.toList == R.toList) = true := by rw [ba_list, ba_list, hq]; exact beq_self_eq_true _
        have hres : att = none := by rw [← HATT.out]; exact attrP_dup k hkl (by rw [← HX.out, hq, HR.out])
        have HRES := Lib.hid hres
        clear hq hres
        go_wp2
        go_ret2
        exact ⟨by rw [HRES.out]; exact ⟨_, _, _, rfl⟩, HF.out.mono (fun i hi => .inl hi)⟩
      · have hqb : (X.toList == R.toList) = false := by rw [ba_list, ba_list, beq_eq_false_iff_ne]; exact hq
        have HQ := Lib.hid hq
        clear hq
        go_wp2
        go_round
        case rel => exact ⟨k + 1, by go_num, by omega, fun j hj hl => by
          by_cases hjk : j = k
          · subst hjk; rw [← HX.out]; exact HQ.out
          · exact HALL.out j (by omega) hl⟩
        case measure => simp [intOf]; omega
    · obtain rfl : k = n := by omega
      have hltI : ¬ (k : Int) < (k : Int) := by omega
      have hnew : ∀ j (hj : j < used.length), used[j].1 ≠ nameR (S.data.toList.drop a) := fun j hj => by rw [← HR.out]; exact HALL.out j (by rw [← HLEN.out]; exact hj) hj
      have HNEW := Lib.hid hnew
      clear hnew
      by_cases hN : R.data.toList = []
      · have hRe : (R.toList == []) = true := by rw [ba_list, hN]; rfl
        have hres : att = none := by rw [← HATT.out]; exact attrP_bad (nameR_nil.1 (by rw [← HR.out]; exact hN))
        have HRES := Lib.hid hres
        clear hN hres
        go_wp2_with (go_at_call 60; refine (HB1.out _ HW1.out).mono ?_; rintro e w2 ⟨rfl, hw2, hf2⟩)
        go_ret2
        exact ⟨by rw [HRES.out]; exact ⟨_, _, _, rfl⟩, (HF.out.trans hf2).mono (fun i hi => .inl hi)⟩
      · have hRe : (R.toList == []) = false := by rw [ba_list, beq_eq_false_iff_ne]; exact hN
        have hatt : att = attrQ R.data.toList (S.data.toList.drop p2) := by
          rw [← HATT.out, HD2.out, HD1.out, HR.out]
          refine attrP_new ?_ HNEW.out
          cases hx : nameOk ((S.data.toList.drop a).takeWhile isWi) with
          | true => rfl
          | false => exact absurd (by rw [HR.out]; exact nameR_nil.2 hx) hN
        clear hN
        cases hq : isP [61] (S.data.toList.drop p2) with
        | none =>
          have his := r_is_no g S ⟨#[61]⟩ p2 (by decide) hq
          have hres : att = none := by rw [hatt]; exact attrQ_eq hq
          have HRES := Lib.hid hres; have HIS := Lib.hid his
          clear hres his hatt hq
          go_wp2_with (first
            | (go_at_call 60; refine (HB1.out _ HW1.out).mono ?_; rintro e w2 ⟨rfl, hw2, hf2⟩)
            | (go_at_call 38; refine (HIS.out _ hw2).mono ?_; rintro e w3 ⟨rfl, hw3, hf3⟩))
          go_ret2
          exact ⟨by rw [HRES.out]; exact ⟨_, _, _, rfl⟩, (HF.out.trans (hf2.trans hf3)).mono (fun i hi => .inl hi)⟩
        | some r =>
          obtain ⟨D3, his⟩ := r_is_yes g S ⟨#[61]⟩ p2 r (by decide) hq
          obtain ⟨p3, hp3⟩ : ∃ p3, p2 + (⟨#[61]⟩ : ByteArray).size = p3 := ⟨_, rfl⟩
          rw [hp3] at D3 his
          obtain ⟨m2, p4, -, -, D4, hb2⟩ := r_blanks_at g S p3
          have HIS := Lib.hid his; have HB2 := Lib.hid hb2; have HD3 := Lib.hid D3; have HD4 := Lib.hid D4; have HQ := Lib.hid hq; have HATQ := Lib.hid hatt
          clear his hatt hq hb2 D3 D4 hp3
          have tok1 : True := trivial
          go_wp2_with (first
            | (clear tok1; go_at_call 60; refine (HB1.out _ HW1.out).mono ?_; rintro e w2 ⟨rfl, hw2, hf2⟩)
            | (go_at_call 38; refine (HIS.out _ hw2).mono ?_; rintro e w3 ⟨rfl, hw3, hf3⟩)
            | (go_at_call 60; refine (HB2.out _ hw3).mono ?_; rintro e w4 ⟨rfl, hw4, hf4⟩; have c0 : w4.cell? ⟨g, 0, none⟩ = some (.string S) := hw4.blk.cell 0; have c1 : w4.cell? ⟨g, 1, none⟩ = some (.int .i64 (p4 : Int)) := hw4.blk.cell 1; have z1 := hw4.blk.frozen 1))
          have hle4 := hw4.le
          have hsm4 := hw4.small
          have hdl : S.data.toList.drop p4 = r.dropWhile isBl := by rw [HD4.out, HD3.out]
          have hfw4 : Fr (Just g) w w4 := HF.out.trans ((hf2.trans hf3).trans hf4)
          have HFW4 := Lib.hid hfw4; have HW4 := Lib.hid hw4
          clear hfw4 hw2 hw3 hw4 hf2 hf3 hf4
          by_cases hp : p4 < S.size
          · have hpI : ¬ (S.size : Int) ≤ (p4 : Int) := by omega
            obtain ⟨x, hx⟩ : ∃ x, S[p4] = x := ⟨_, rfl⟩
            have hdc := sdrop_cons S p4 hp
            rw [hdl, hx] at hdc
            by_cases hmk : x.toNat = 34 ∨ x.toNat = 39
            · have hatg := attrQ_good (n := R.data.toList) HQ.out hdc hmk
              rw [← HATQ.out] at hatg
              have hx60 : x.toNat ≠ 60 := by omega
              have HATG := Lib.hid hatg; have HX60 := Lib.hid hx60
              have hmm : (((x.toNat : Int) != 34) = false ∧ 1 = 1) ∨ (((x.toNat : Int) != 34) = true ∧ ((x.toNat : Int) != 39) = false) := by
                rcases hmk with h | h
                · exact .inl ⟨by rw [h]; rfl, rfl⟩
                · exact .inr ⟨by rw [h]; rfl, by rw [h]; rfl⟩
              clear hatg hdc hdl hmk hx60
              rcases hmm with ⟨hm1, _⟩ | ⟨hm1, hm2⟩
              all_goals
                go_quiet (fail)
                go_wp2
                generalize nq = n1
                go_quiet (fail)
                go_wp2
                have hw5 := (HW4.out.no ((Fr.refl No w4).drewN (n1 + nq))).set (b := p4 + 1) (by omega)
                have hf5 := (HFW4.out.drewN (n1 + nq)).setCell (p := ⟨g, 1, none⟩) (.inl (Just.at g)) (.int .i64 ((p4 + 1 : Nat) : Int))
                obtain ⟨f, hf⟩ : ∃ f, p4 + 1 = f := ⟨_, rfl⟩
                have hfI : (p4 : Int) + 1 = (f : Int) := by omega
                rw [hf] at hw5 hf5
                rw [hfI]
                have HATF := HATG.out
                rw [hf] at HATF
                have HATG := Lib.hid HATF
                have hfs : f ≤ S.size := by omega
                clear HATF hf hfI c0 c1 z1 hm1 hp hpI hx
                generalize (w4.drewN (n1 + nq)).setCell ⟨g, 1, none⟩ (.int .i64 (f : Int)) = w5 at hw5 hf5 ⊢
                have HW5 := Lib.hid hw5; have HF5 := Lib.hid hf5
                clear hw5 hf5
                go_loopw [] (fun wr => ∃ t : Nat, WkT wr g S (f + t) ∧ Fr (Just g) w wr ∧ ∀ j (hj : j < t) (hl : j < (S.data.toList.drop f).length), inVal x (S.data.toList.drop f)[j] = true) (fun wr => S.size - posOf wr g)
                case atStart => exact ⟨0, HW5.out, HF5.out, fun j hj => by omega⟩
                case round =>
                  obtain ⟨t, hwt, hft, hall⟩ := hrel
                  obtain ⟨q, hq⟩ : ∃ q, f + t = q := ⟨_, rfl⟩
                  rw [hq] at hwt
                  have c0 : wr.cell? ⟨g, 0, none⟩ = some (.string S) := hwt.blk.cell 0
                  have c1 : wr.cell? ⟨g, 1, none⟩ = some (.int .i64 (q : Int)) := hwt.blk.cell 1
                  have z1 := hwt.blk.frozen 1
                  have hle := hwt.le
                  have hpos := hwt.pos
                  have hdl : (S.data.toList.drop f).length = S.size - f := by rw [List.length_drop, size_list]
                  have HT := Lib.hid hq; have HWT := Lib.hid hwt; have HFT := Lib.hid hft; have HALLV := Lib.hid hall; have HPOS := Lib.hid hpos; have HDL := Lib.hid hdl
                  clear hq hwt hft hall hpos hdl
                  by_cases hlt2 : q < S.size
                  · have hltI2 : (q : Int) < (S.size : Int) := by omega
                    obtain ⟨y, hy⟩ : ∃ y, S[q] = y := ⟨_, rfl⟩
                    have hyl : ∀ hl : t < (S.data.toList.drop f).length, (S.data.toList.drop f)[t] = y := fun hl => by
                      rw [← hy, byte_at S q hlt2, List.getElem_drop]
                      have := HT.out
                      subst this
                      rfl
                    have HYL := Lib.hid hyl
                    clear hyl
                    by_cases hym : y = x
                    · have hyb : ((y.toNat : Int) != (x.toNat : Int)) = false := by rw [hym]; exact bne_self_eq_false _
                      have hgeI2 : ¬ (S.size : Int) ≤ (q : Int) := by omega
                      have hout : inVal x y = false := by unfold inVal; rw [decide_eq_false_iff_not]; exact fun h => h.1 hym
                      have hlen := take_while_len (inVal x) (S.data.toList.drop f) t HALLV.out (by rw [HDL.out]; have := HT.out; omega) (fun hl => by rw [HYL.out hl]; exact hout)
                      have hdw := drop_while_at (inVal x) S.data.toList f
                      rw [hlen, HT.out, sdrop_cons S q hlt2, hy] at hdw
                      have f1 : (0 : Int) ≤ (q : Int) ∧ (q : Int) ≤ (S.size : Int) := by omega
                      have f2 : (0 : Int) ≤ (f : Int) ∧ (f : Int) ≤ (q : Int) := by have := HT.out; omega
                      obtain ⟨T, hTT⟩ : ∃ T, S.extract f q = T := ⟨_, rfl⟩
                      have hTl : T.data.toList = (S.data.toList.drop f).takeWhile (inVal x) := by
                        rw [take_while_pre, hlen, ← hTT, ext_list]
                        have := HT.out
                        congr 1
                        omega
                      have hTs : T.size ≤ 65536 := by rw [← size_list, hTl, hlen]; have := HT.out; omega
                      have hres : att = (valV T.data.toList).map fun v => ((R.data.toList, v), S.data.toList.drop (q + 1)) := by
                        rw [HATG.out, ← hdw]
                        simp only
                        rw [if_neg (fun h => h hym), hTl]
                      obtain ⟨V, hV⟩ : ∃ V : ByteArray, V.data.toList = valB T.data.toList := ⟨bstr _, rfl⟩
                      have hval := fun u => r_value_one T V u hTs hV
                      have HRES := Lib.hid hres; have HVAL := Lib.hid hval
                      clear hres hdw hlen hout hym hTl hTs hval
                      go_wp2
                      go_quiet (fail)
                      go_wp2
                      generalize nq = n1
                      go_quiet (fail)
                      go_wp2
                      generalize nq = n2
                      have hdr6 : Dr wr ((wr.drewN n1).drewN n2) := (((Dr.refl wr).drewN n1).drewN n2)
                      generalize (wr.drewN n1).drewN n2 = w6 at hdr6 ⊢
                      have hw6 := HWT.out.no hdr6.fr
                      have hf6 := HFT.out.dr hdr6
                      have c60 : w6.cell? ⟨g, 0, none⟩ = some (.string S) := hw6.blk.cell 0
                      have c61 : w6.cell? ⟨g, 1, none⟩ = some (.int .i64 (q : Int)) := hw6.blk.cell 1
                      have q60 := fun d os => cell_regrown c60 d os
                      have q61 := fun d os => cell_regrown c61 d os
                      have HW6 := Lib.hid hw6; have HF6 := Lib.hid hf6
                      clear hdr6 hw6 hf6 c0 c1 z1 HWT HFT c60 c61
                      refine wp_region_quiet_below (by kernel_rfl) (by kernel_rfl) ?_
                      repeat (quiet_step ((go_at_call 62; exact Calls.regrown_of (HVAL.out _))))
                      refine wpQuiet_nil ?_
                      intro w7 hw7r
                      obtain ⟨⟨nr, osr⟩, hw7r⟩ := hw7r
                      have hf7 : Fr No w6 w7 := by rw [hw7r]; exact Fr.of_below (below_regrown w6 nr osr)
                      clear hw7r q60 q61
                      have c71 : w7.cell? ⟨g, 1, none⟩ = some (.int .i64 (q : Int)) := (HW6.out.no hf7).blk.cell 1
                      have z71 := (HW6.out.no hf7).blk.frozen 1
                      have hfu := (HF6.out.trans hf7.no).setCell (p := ⟨g, 1, none⟩) (.inl (Just.at g)) (.int .i64 ((q : Int) + 1))
                      have hou := HOWN.out.fr attr_ok hfu (fun _ x => x.elim) (fun i hi e => HVG.out (by rw [hi, e]))
                      go_wp2_with (at_builtin; go_must (refine ap_attr1 (w7.setCell ⟨g, 1, none⟩ (.int .i64 ((q : Int) + 1))) rfl (.tmp 161) (.tmp 165) rfl base (.slice A k c) k used rfl hou R V (R.data.toList, V.data.toList) rfl rfl _ _ (by simp) rfl (by omega) (Nat.le_trans hbase hfu.size) ?_); intro v8 w8 ho8 hg8 hr8)
                      go_ret2
                      have hw7 : WkT (w7.setCell ⟨g, 1, none⟩ (.int .i64 ((q : Int) + 1))) g S (q + 1) := by
                        have h2 := (HW6.out.no hf7).set (b := q + 1) (by omega)
                        have e1 : ((q + 1 : Nat) : Int) = (q : Int) + 1 := by omega
                        rwa [e1] at h2
                      have hgr : Fr (fun i => (Value.slice A k c).ownBlock = some i) (w7.setCell ⟨g, 1, none⟩ (.int .i64 ((q : Int) + 1))) w8 := ((Fr.refl _ _).alloc _).grown hg8 (fun i e => .inl e)
                      have hw8 : WkT w8 g S (q + 1) := ⟨hw7.blk.fr hgr HVG.out, hw7.le, hw7.small⟩
                      refine ⟨?_, (hfu.mono (fun i hi => .inl hi)).trans (hgr.mono (fun i hi => .inr hi))⟩
                      rw [HRES.out]
                      cases hz : valV T.data.toList with
                      | none =>
                        obtain ⟨A8, c8, rfl, _⟩ := ho8.rd' (M := fun _ => True) (fun _ _ => trivial) attr_ok (fun _ _ => trivial)
                        exact ⟨A8, _, c8, rfl⟩
                      | some z =>
                        have hVz : V.data.toList = z := by rw [hV]; unfold valB; rw [hz]; rfl
                        rw [hVz] at ho8
                        exact ⟨v8, q + 1, rfl, ho8, hw8, rfl⟩
                    · have hyb : ((y.toNat : Int) != (x.toNat : Int)) = true := by
                        rw [bne_iff_ne]
                        intro e
                        exact hym (UInt8.toNat_inj.1 (by omega))
                      by_cases hy6 : y.toNat = 60
                      · have hy6b : ((y.toNat : Int) == 60) = true := by rw [hy6]; rfl
                        have hout : inVal x y = false := by unfold inVal; rw [decide_eq_false_iff_not]; omega
                        have hlen := take_while_len (inVal x) (S.data.toList.drop f) t HALLV.out (by rw [HDL.out]; have := HT.out; omega) (fun hl => by rw [HYL.out hl]; exact hout)
                        have hdw := drop_while_at (inVal x) S.data.toList f
                        rw [hlen, HT.out, sdrop_cons S q hlt2, hy] at hdw
                        have hres : att = none := by
                          rw [HATG.out, ← hdw]
                          simp only
                          rw [if_pos hym]
                        have HRES := Lib.hid hres
                        clear hres hdw hlen hout hym hy6
                        go_wp2
                        go_quiet (fail)
                        go_wp2
                        generalize nq = n1
                        go_quiet (fail)
                        go_wp2
                        go_ret2
                        exact ⟨by rw [HRES.out]; exact ⟨_, _, _, rfl⟩, ((HFT.out.drewN _).drewN _).mono (fun i hi => .inl hi)⟩
                      · have hy6b : ((y.toNat : Int) == 60) = false := by rw [beq_eq_false_iff_ne]; omega
                        have hin : inVal x y = true := by unfold inVal; rw [decide_eq_true_iff]; exact ⟨hym, hy6⟩
                        have HIN := Lib.hid hin
                        clear hym hy6 hin
                        go_wp2
                        go_quiet (fail)
                        go_wp2
                        generalize nq = n1
                        go_quiet (fail)
                        go_wp2
                        have h2 := (HWT.out.no ((Fr.refl No wr).drewN (n1 + nq))).set (b := q + 1) (by omega)
                        have e1 : ((q + 1 : Nat) : Int) = (q : Int) + 1 := by omega
                        rw [e1] at h2
                        go_roundw
                        case rel =>
                          refine ⟨t + 1, ?_, (HFT.out.drewN (n1 + nq)).setCell (p := ⟨g, 1, none⟩) (.inl (Just.at g)) _, fun j hj hl => ?_⟩
                          · have h3 := HT.out
                            rw [show f + (t + 1) = q + 1 by omega]
                            exact h2
                          · by_cases hjk : j = t
                            · subst hjk; rw [HYL.out hl]; exact HIN.out
                            · exact HALLV.out j (by omega) hl
                        case measure =>
                          have p2 := h2.pos
                          have p1 := HPOS.out
                          rw [p1, p2]
                          omega
                  · have hqe : q = S.size := by omega
                    have hltI2 : ¬ (q : Int) < (S.size : Int) := by omega
                    have hgeI2 : (S.size : Int) ≤ (q : Int) := by omega
                    have hlen := take_while_len (inVal x) (S.data.toList.drop f) t HALLV.out (by rw [HDL.out]; have := HT.out; omega) (fun hl => by rw [HDL.out] at hl; have := HT.out; omega)
                    have hdw := drop_while_at (inVal x) S.data.toList f
                    rw [hlen, HT.out, hqe, List.drop_eq_nil_of_le (by rw [size_list]; exact Nat.le_refl _)] at hdw
                    have hres : att = none := by rw [HATG.out, ← hdw]
                    have HRES := Lib.hid hres
                    clear hres hdw hlen hqe
                    go_wp2
                    go_quiet (fail)
                    go_wp2
                    generalize nq = n1
                    go_quiet (fail)
                    go_wp2
                    go_ret2
                    exact ⟨by rw [HRES.out]; exact ⟨_, _, _, rfl⟩, ((HFT.out.drewN _).drewN _).mono (fun i hi => .inl hi)⟩
            · have hm1 : ((x.toNat : Int) != 34) = true := by rw [bne_iff_ne]; omega
              have hm2 : ((x.toNat : Int) != 39) = true := by rw [bne_iff_ne]; omega
              have hres : att = none := by rw [HATQ.out]; exact attrQ_mark HQ.out hdc (by omega)
              have HRES := Lib.hid hres
              clear hres hdc hdl hmk
              go_quiet (fail)
              go_wp2
              go_ret2
              exact ⟨by rw [HRES.out]; exact ⟨_, _, _, rfl⟩, (HFW4.out.drewN _).mono (fun i hi => .inl hi)⟩
          · obtain rfl : p4 = S.size := by omega
            have hpI : (S.size : Int) ≤ (S.size : Int) := by omega
            have hres : att = none := by rw [HATQ.out]; exact attrQ_end HQ.out (by rw [← hdl]; exact List.drop_eq_nil_of_le (by rw [size_list]; exact Nat.le_refl _))
            have HRES := Lib.hid hres
            clear hres hdl
            go_quiet (fail)
            go_wp2
            go_ret2
            exact ⟨by rw [HRES.out]; exact ⟨_, _, _, rfl⟩, (HFW4.out.drewN _).mono (fun i hi => .inl hi)⟩
end Go.Proofs.YthkjmbkfcnehoaaGreatDoor
/- The statements' own tokens: an element's beginning. -/
namespace Go.Proofs.YthkjmbkfcnehoaaGreatDoor
open Go.RowKit
set_option maxHeartbeats 1000000
set_option linter.unusedVariables false

theorem attrQ_less {n x rest : List UInt8} {y : List UInt8 × List UInt8} (h : attrQ n x = some (y, rest)) : rest.length < x.length := by
  unfold attrQ at h
  split at h
  · cases h
  rename_i l1 h1
  have e1 := (isP_len h1).2
  have e2 := drop_while_le isBl l1
  split at h
  · cases h
  rename_i m r h2
  rw [h2] at e2
  simp only [List.length_cons, List.length_nil] at e1 e2
  split at h
  · cases h
  have e3 := drop_while_le (inVal m) r
  split at h
  · cases h
  rename_i c q h3
  rw [h3] at e3
  simp only [List.length_cons] at e3
  split at h
  · cases h
  cases hv : valV (r.takeWhile (inVal m)) with
  | none => rw [hv] at h; cases h
  | some v =>
    rw [hv] at h
    simp only [Option.map_some, Option.some.injEq, Prod.mk.injEq] at h
    rw [← h.2]
    omega
theorem attrP_less {used : List (List UInt8 × List UInt8)} {l rest : List UInt8} {y : List UInt8 × List UInt8} (h : attrP used l = some (y, rest)) : rest.length < l.length := by
  cases hn : nameOk (l.takeWhile isWi) with
  | false => rw [attrP_bad hn] at h; cases h
  | true =>
    have h2 : attrQ (l.takeWhile isWi) ((l.dropWhile isWi).dropWhile isBl) = some (y, rest) := by
      unfold attrP at h
      simp only [hn, Bool.not_true, Bool.false_or] at h
      split at h
      · cases h
      · exact h
    have e1 := attrQ_less h2
    have e2 := drop_while_le isBl (l.dropWhile isWi)
    have e3 := drop_while_le isWi l
    omega
def openV (name : List UInt8) (attrs : List (List UInt8 × List UInt8)) (l : List UInt8) : Option (Tok × List UInt8) := openF (l.length + 1) name attrs l
theorem openF_enough : ∀ (f k : Nat) (name : List UInt8) (attrs : List (List UInt8 × List UInt8)) (l : List UInt8), l.length < f → l.length < k → openF f name attrs l = openF k name attrs l := by
  intro f
  induction f with
  | zero => intro k name attrs l h; omega
  | succ f ih =>
    intro k name attrs l h1 h2
    cases k with
    | zero => omega
    | succ k =>
      unfold openF
      split
      · rfl
      split
      · rfl
      split
      · rfl
      cases ha : attrP attrs (l.dropWhile isBl) with
      | none => rfl
      | some x =>
        obtain ⟨y, r⟩ := x
        have e1 := attrP_less ha
        have e2 := drop_while_le isBl l
        exact ih k name _ r (by omega) (by omega)
theorem openV_eq (name : List UInt8) (attrs : List (List UInt8 × List UInt8)) (l : List UInt8) : openV name attrs l =
    match isP [47, 62] (l.dropWhile isBl) with
    | some r => some (⟨1, name, [], attrs, true⟩, r)
    | none => match isP [62] (l.dropWhile isBl) with
      | some r => some (⟨1, name, [], attrs, false⟩, r)
      | none => if (l.takeWhile isBl).length = 0 then none else
        match attrP attrs (l.dropWhile isBl) with
        | none => none
        | some (a, r) => openV name (attrs ++ [a]) r := by
  unfold openV
  rw [openF]
  cases isP [47, 62] (l.dropWhile isBl) with
  | some r => rfl
  | none =>
    cases isP [62] (l.dropWhile isBl) with
    | some r => rfl
    | none =>
      by_cases h0 : (l.takeWhile isBl).length = 0
      · simp only [h0, if_true]
      · simp only [h0, if_false]
        cases ha : attrP attrs (l.dropWhile isBl) with
        | none => rfl
        | some x =>
          obtain ⟨y, r⟩ := x
          have e1 := attrP_less ha
          have e2 := drop_while_le isBl l
          exact openF_enough _ _ _ _ _ (by omega) (by omega)

/-- five cells, written one behind the other -/
def put5 (w : World) (g : Nat) (a b c d e : Value) : World := ((((w.setCell ⟨g, 0, none⟩ a).setCell ⟨g, 1, none⟩ b).setCell ⟨g, 2, none⟩ c).setCell ⟨g, 3, none⟩ d).setCell ⟨g, 4, none⟩ e
theorem put5_cells {w : World} {g : Nat} {t : TypeId} {a' b' c' d' e' : Value} (h : Bk w g t [a', b', c', d', e']) (a b c d e : Value) :
    (w.setCell ⟨g, 0, none⟩ a).cell? ⟨g, 0, none⟩ = some a ∧ ((w.setCell ⟨g, 0, none⟩ a).setCell ⟨g, 1, none⟩ b).cell? ⟨g, 1, none⟩ = some b ∧ (((w.setCell ⟨g, 0, none⟩ a).setCell ⟨g, 1, none⟩ b).setCell ⟨g, 2, none⟩ c).cell? ⟨g, 2, none⟩ = some c ∧
    ((((w.setCell ⟨g, 0, none⟩ a).setCell ⟨g, 1, none⟩ b).setCell ⟨g, 2, none⟩ c).setCell ⟨g, 3, none⟩ d).cell? ⟨g, 3, none⟩ = some d ∧ (((((w.setCell ⟨g, 0, none⟩ a).setCell ⟨g, 1, none⟩ b).setCell ⟨g, 2, none⟩ c).setCell ⟨g, 3, none⟩ d).setCell ⟨g, 4, none⟩ e).cell? ⟨g, 4, none⟩ = some e :=
  ⟨(h.set_ 0 a).cell 0, ((h.set_ 0 a).set_ 1 b).cell 1, (((h.set_ 0 a).set_ 1 b).set_ 2 c).cell 2, ((((h.set_ 0 a).set_ 1 b).set_ 2 c).set_ 3 d).cell 3, (((((h.set_ 0 a).set_ 1 b).set_ 2 c).set_ 3 d).set_ 4 e).cell 4⟩
theorem cells5 {w : World} {g : Nat} {t : TypeId} {a b c d e : Value} (h : Bk w g t [a, b, c, d, e]) :
    w.cell? ⟨g, 0, none⟩ = some a ∧ w.cell? ⟨g, 1, none⟩ = some b ∧ w.cell? ⟨g, 2, none⟩ = some c ∧ w.cell? ⟨g, 3, none⟩ = some d ∧ w.cell? ⟨g, 4, none⟩ = some e ∧
    w.frozen? ⟨g, 0, none⟩ = false ∧ w.frozen? ⟨g, 1, none⟩ = false ∧ w.frozen? ⟨g, 2, none⟩ = false ∧ w.frozen? ⟨g, 3, none⟩ = false ∧ w.frozen? ⟨g, 4, none⟩ = false :=
  ⟨h.cell 0, h.cell 1, h.cell 2, h.cell 3, h.cell 4, h.frozen 0, h.frozen 1, h.frozen 2, h.frozen 3, h.frozen 4⟩
theorem put5_fr {S : Nat → Prop} {w0 w : World} {g : Nat} (h : Fr S w0 w) (hg : S g ∨ w0.heap.size ≤ g) (a b c d e : Value) : Fr S w0 (put5 w g a b c d e) :=
  ((((h.setCell hg a).setCell hg b).setCell hg c).setCell hg d).setCell hg e

theorem WkT.fr {w w' : World} {g : Nat} {S : ByteArray} {a : Nat} {Q : Nat → Prop} (h : WkT w g S a) (hf : Fr Q w w') (hQ : ¬ Q g) : WkT w' g S a := ⟨h.blk.fr hf hQ, h.le, h.small⟩
/-- what an element's beginning leaves -/
def OpenEnd (S : ByteArray) (g base : Nat) (r : Option (Tok × List UInt8)) (e : Ending) (w' : World) : Prop := match r with
  | some (t, rest) => ∃ (X Y : ByteArray) (A : Option Addr) (n c b : Nat), e = .returned (.tuple #[.agg #[.int .i64 t.kind, .string X, .string Y, .slice A n c, .bool t.empty], .bool true]) ∧ X.data.toList = t.name ∧ Y.data.toList = t.text ∧
      RdI 2 AttrI w' (fun i => base ≤ i ∧ i < w'.heap.size) A n c t.attrs ∧ WkT w' g S b ∧ S.data.toList.drop b = rest
  | none => ∃ (k : Int) (X Y : ByteArray) (A : Option Addr) (n c : Nat) (em : Bool), e = .returned (.tuple #[.agg #[.int .i64 k, .string X, .string Y, .slice A n c, .bool em], .bool false])
/-- an element's beginning is whole: what its cells' worlds must keep -/
theorem open_good {S : ByteArray} {g T B : Nat} {R : ByteArray} {w wr wz : World} {q : Nat} {A : Option Addr} {c n : Nat} {xs : List (List UInt8 × List UInt8)} {em : Bool} {rest : List UInt8} (hB : w.heap.size = B) (hBT : B < T) (hgB : g < B)
    (own : OwnI 2 AttrI wr (T + 1) 59 No (.slice A n c) n xs) (hz : Fr (fun i => i ≤ T) wr wz) (hw : WkT wz g S q) (hr : S.data.toList.drop q = rest) :
    OpenEnd S g w.heap.size (some (⟨1, R.data.toList, [], xs, em⟩, rest)) (.returned (.tuple #[.agg #[.int .i64 1, .string R, .string ⟨#[]⟩, .slice A n c, .bool em], .bool true])) wz := by
  have hlt := own.lt
  have ho := own.fr attr_ok hz (fun _ x => x.elim) (fun i hi e => by have := (hlt i hi).1; omega)
  have hlt2 := ho.lt
  obtain ⟨A', c', e, hrd⟩ := ho.rd' (M := fun i => w.heap.size ≤ i ∧ i < wz.heap.size) (fun i hi => ⟨by have := (hlt i hi).1; omega, (hlt2 i hi).2⟩) attr_ok (fun _ x => x.elim)
  injection e with e1 e2 e3
  subst e1 e3
  exact ⟨R, ⟨#[]⟩, A, n, c, q, rfl, rfl, rfl, hrd, hw, hr⟩
/-- the state of the loop -/
structure OpSt (S : ByteArray) (g T B : Nat) (R : ByteArray) (r : Option (Tok × List UInt8)) (wr : World) (p : Nat) (A : Option Addr) (c n : Nat) (xs : List (List UInt8 × List UInt8)) : Prop where
  walk : WkT wr g S p
  tok : Bk wr T 45 [.int .i64 1, .string R, .string ⟨#[]⟩, .slice A n c, .bool false]
  own : OwnI 2 AttrI wr (T + 1) 59 No (.slice A n c) n xs
  few : n ≤ p
  res : r = openV R.data.toList xs (S.data.toList.drop p)

set_option maxRecDepth 100000 in
theorem r_open_any (g : Nat) (S : ByteArray) (a : Nat) (w : World) (h : WkT w g S a) :
    Calls Tryz.prog 61 #[.pointer (some ⟨g, 0, none⟩)] w fun e w' =>
      OpenEnd S g w.heap.size (if nameOk ((S.data.toList.drop a).takeWhile isWi) then openV ((S.data.toList.drop a).takeWhile isWi) [] ((S.data.toList.drop a).dropWhile isWi) else none) e w' ∧ Fr (Just g) w w' := by
  obtain ⟨p1, D1, -, hnm⟩ := r_name_at g S a
  have hgw := h.blk.lt
  generalize hr : (if nameOk ((S.data.toList.drop a).takeWhile isWi) then openV ((S.data.toList.drop a).takeWhile isWi) [] ((S.data.toList.drop a).dropWhile isWi) else none) = r
  have H := Lib.hid h; have HNM := Lib.hid hnm; have HRR := Lib.hid hr; have HD1 := Lib.hid D1
  clear hnm h hr D1
  go_enter Tryz.func61, Tryz.ntmps61
  go_wp2_with (go_at_call 59; refine (HNM.out _ (H.out.no ((Fr.refl _ _).alloc _))).mono ?_; rintro e w1 ⟨R, rfl, hR, hw1, hf1⟩)
  have hT : w.heap.size < w1.heap.size := by have := hf1.size; simp at this; omega
  have hB1 : Bk w1 w.heap.size 45 [.int .i64 0, .string ⟨#[]⟩, .string ⟨#[]⟩, .slice none 0 0, .bool false] := (Bk.new w _ _).fr hf1 (fun e => by have : w.heap.size = g := e; omega)
  obtain ⟨B, hBB⟩ : ∃ B, w.heap.size = B := ⟨_, rfl⟩
  obtain ⟨T, hTT⟩ : ∃ T, w1.heap.size = T := ⟨_, rfl⟩
  have hfw : Fr (Just g) w w1 := ((Fr.refl _ w).alloc _).trans hf1
  have hnew : Bk (w1.alloc (.cells #[.int .i64 1, .string R, .string ⟨#[]⟩, .slice none 0 0, .bool false] 45)) w1.heap.size 45 [.int .i64 1, .string R, .string ⟨#[]⟩, .slice none 0 0, .bool false] := Bk.new w1 _ _
  have hsz : (w1.alloc (.cells #[.int .i64 1, .string R, .string ⟨#[]⟩, .slice none 0 0, .bool false] 45)).heap.size = w1.heap.size + 1 := by simp
  have hf2 : Fr No w1 (w1.alloc (.cells #[.int .i64 1, .string R, .string ⟨#[]⟩, .slice none 0 0, .bool false] 45)) := (Fr.refl No w1).alloc _
  generalize w1.alloc (.cells #[.int .i64 1, .string R, .string ⟨#[]⟩, .slice none 0 0, .bool false] 45) = w2 at *
  rw [hBB] at hT hB1 hgw
  rw [hTT] at hT hnew hsz
  simp only [hBB, hTT]
  have HBB := Lib.hid hBB; have HTT := Lib.hid hTT
  have hbase : B ≤ w2.heap.size := by omega
  have hst : (R.data.toList = [] ∧ r = none) ∨ (R.data.toList ≠ [] ∧ OpSt S g T B R r w2 p1 none 0 0 []) := by
    cases hok : nameOk ((S.data.toList.drop a).takeWhile isWi) with
    | false => exact .inl ⟨by rw [hR]; exact nameR_nil.2 hok, by rw [← HRR.out, hok]; rfl⟩
    | true =>
      refine .inr ⟨(by rw [hR]; exact (fun e => (by rw [nameR_nil.1 e] at hok; cases hok))), hw1.no hf2, hnew, OwnI.nil_ _ _ _ _ _ _, by omega, ?_⟩
      rw [← HRR.out, hok, HD1.out, hR]
      unfold nameR
      rw [hok]
      rfl
  have HST := Lib.hid hst; have HF := Lib.hid (hfw.trans hf2.no); have HB := Lib.hid (hB1.no hf2); have HNEW := Lib.hid hnew
  have HSZ := Lib.hid hsz
  clear hst hR hw1 hf1 hB1 hfw hnew hf2 hBB hTT hsz
  go_loopw [5] (fun ok wr => ∃ b : Bool, ok = .bool b ∧ Fr (Just g) w wr ∧ Bk wr B 45 [.int .i64 0, .string ⟨#[]⟩, .string ⟨#[]⟩, .slice none 0 0, .bool false] ∧ T < wr.heap.size ∧
    ((b = false ∧ r = none ∧ ∃ A m c, Bk wr T 45 [.int .i64 1, .string R, .string ⟨#[]⟩, .slice A m c, .bool false]) ∨ (b = true ∧ ∃ p A c n xs, OpSt S g T B R r wr p A c n xs)))
    (fun ok wr => match ok with | .bool true => 1 + S.size - posOf wr g | _ => 0)
  case atStart =>
    rcases HST.out with ⟨h1, h2⟩ | ⟨h1, h2⟩
    · exact ⟨false, by rw [ba_list, h1]; rfl, HF.out, HB.out, by have := HSZ.out; omega, .inl ⟨rfl, h2, _, _, _, HNEW.out⟩⟩
    · refine ⟨true, ?_, HF.out, HB.out, by have := HSZ.out; omega, .inr ⟨rfl, _, _, _, _, _, h2⟩⟩
      rw [ba_list]
      cases hq : R.data.toList with
      | nil => exact absurd hq h1
      | cons c r => rfl
  case round =>
    obtain ⟨b, rfl, hf, hB, hTl, hst⟩ := hrel
    have HFF := Lib.hid hf; have HBK := Lib.hid hB
    clear hf hB
    rcases hst with ⟨rfl, hrn, A, m, c, htk⟩ | ⟨rfl, p, A, c, n, xs, hop⟩
    · obtain ⟨t0, t1, t2, t3, t4, -, -, -, -, -⟩ := cells5 htk
      obtain ⟨b0, b1, b2, b3, b4, f0, f1, f2, f3, f4⟩ := cells5 HBK.out
      obtain ⟨q0, q1, q2, q3, q4⟩ := put5_cells HBK.out (.int .i64 1) (.string R) (.string ⟨#[]⟩) (.slice A m c) (.bool false)
      go_wp2
      refine bodyPost_ret (v := .tuple #[.agg #[.int .i64 1, .string R, .string ⟨#[]⟩, .slice A m c, .bool false], .bool false]) (by simp [results, Tryz.results61, go_sem, q0, q1, q2, q3, q4]) rfl ?_
      refine ⟨by rw [hrn]; exact ⟨_, _, _, _, _, _, _, rfl⟩, put5_fr HFF.out (.inr (by rw [HBB.out]; exact Nat.le_refl _)) _ _ _ _ _⟩
    · have hres := hop.res
      obtain ⟨m, p2, hpm, hmm, D2, hbl⟩ := r_blanks_at g S p
      rw [openV_eq, ← D2, ← hmm] at hres
      have HOP := Lib.hid hop; have HBL := Lib.hid hbl; have HD2 := Lib.hid D2
      clear hop hmm D2 hbl
      cases h1 : isP [47, 62] (S.data.toList.drop p2) with
      | some r2 =>
        obtain ⟨E1, his⟩ := r_is_yes g S ⟨#[47, 62]⟩ p2 r2 (by decide) h1
        rw [h1] at hres
        have HRES := Lib.hid hres; have HE1 := Lib.hid E1; have HIS := Lib.hid his
        clear hres E1 his h1 hpm
        go_wp2_with (first
          | (go_at_call 60; refine (HBL.out _ HOP.out.walk).mono ?_; rintro e w3 ⟨rfl, hw3, hf3⟩)
          | (go_at_call 38; refine (HIS.out _ hw3).mono ?_; rintro e w4 ⟨rfl, hw4, hf4⟩; have htk := HOP.out.tok.fr (hf3.trans hf4) (fun e => absurd (show T = g from e) (by omega)); have hbk := HBK.out.fr (hf3.trans hf4) (fun e => absurd (show B = g from e) (by omega)); have hfT : Fr (Just T) w4 (w4.setCell ⟨T, 4, none⟩ (.bool true)) := (Fr.refl (Just T) _).setCell (p := ⟨T, 4, none⟩) (.inl (Just.at T)) _; have hbk5 := hbk.fr hfT (fun e => absurd (show B = T from e) (by omega)); have htk5 := htk.set_ 4 (.bool true); simp only [List.set_cons_succ, List.set_cons_zero] at htk5; have z4 := htk.frozen 4; have c4 := htk.cell 4; obtain ⟨t0, t1, t2, t3, t4, -, -, -, -, -⟩ := cells5 htk5; obtain ⟨b0, b1, b2, b3, b4, f0, f1, f2, f3, f4⟩ := cells5 hbk5))
        obtain ⟨q0, q1, q2, q3, q4⟩ := put5_cells hbk5 (.int .i64 1) (.string R) (.string ⟨#[]⟩) (.slice A n c) (.bool true)
        refine bodyPost_ret (v := .tuple #[.agg #[.int .i64 1, .string R, .string ⟨#[]⟩, .slice A n c, .bool true], .bool true]) (by simp [results, Tryz.results61, go_sem, q0, q1, q2, q3, q4]) rfl ?_
        have hq4 := (hf3.trans hf4).mono (T := fun i => i ≤ T) (fun i e => by have : i = g := e; omega)
        have hz := put5_fr (hq4.setCell (p := ⟨T, 4, none⟩) (.inl (Nat.le_refl T)) (.bool true)) (g := B) (.inl (Nat.le_of_lt hT)) (.int .i64 1) (.string R) (.string ⟨#[]⟩) (.slice A n c) (.bool true)
        have hy := put5_fr ((Fr.refl (fun i => i = T ∨ i = B) w4).setCell (p := ⟨T, 4, none⟩) (.inl (.inl rfl)) (.bool true)) (g := B) (.inl (.inr rfl)) (.int .i64 1) (.string R) (.string ⟨#[]⟩) (.slice A n c) (.bool true)
        refine ⟨?_, put5_fr (((HFF.out.trans hf3).trans hf4).setCell (p := ⟨T, 4, none⟩) (.inr (by rw [HBB.out]; exact Nat.le_of_lt hT)) (.bool true)) (g := B) (.inr (by rw [HBB.out]; exact Nat.le_refl _)) _ _ _ _ _⟩
        rw [HRES.out]
        exact open_good HBB.out hT hgw HOP.out.own hz (hw4.fr hy (fun e => by rcases e with e | e <;> omega)) HE1.out
      | none =>
        have his := r_is_no g S ⟨#[47, 62]⟩ p2 (by decide) h1
        rw [h1] at hres
        have HIS := Lib.hid his
        clear his h1
        cases h2 : isP [62] (S.data.toList.drop p2) with
        | some r2 =>
          obtain ⟨E1, his2⟩ := r_is_yes g S ⟨#[62]⟩ p2 r2 (by decide) h2
          rw [h2] at hres
          have HRES := Lib.hid hres; have HE1 := Lib.hid E1; have HIS2 := Lib.hid his2
          clear hres E1 his2 h2 hpm
          have tok1 : True := trivial
          go_wp2_with (first
            | (go_at_call 60; refine (HBL.out _ HOP.out.walk).mono ?_; rintro e w3 ⟨rfl, hw3, hf3⟩)
            | (go_at_call 38; clear tok1; refine (HIS.out _ hw3).mono ?_; rintro e w4 ⟨rfl, hw4, hf4⟩)
            | (go_at_call 38; refine (HIS2.out _ hw4).mono ?_; rintro e w5 ⟨rfl, hw5, hf5⟩; have htk := HOP.out.tok.fr ((hf3.trans hf4).trans hf5) (fun e => absurd (show T = g from e) (by omega)); have hbk := HBK.out.fr ((hf3.trans hf4).trans hf5) (fun e => absurd (show B = g from e) (by omega)); obtain ⟨t0, t1, t2, t3, t4, -, -, -, -, -⟩ := cells5 htk; obtain ⟨b0, b1, b2, b3, b4, f0, f1, f2, f3, f4⟩ := cells5 hbk))
          obtain ⟨q0, q1, q2, q3, q4⟩ := put5_cells hbk (.int .i64 1) (.string R) (.string ⟨#[]⟩) (.slice A n c) (.bool false)
          refine bodyPost_ret (v := .tuple #[.agg #[.int .i64 1, .string R, .string ⟨#[]⟩, .slice A n c, .bool false], .bool true]) (by simp [results, Tryz.results61, go_sem, q0, q1, q2, q3, q4]) rfl ?_
          have hq5 := ((hf3.trans hf4).trans hf5).mono (T := fun i => i ≤ T) (fun i e => by have : i = g := e; omega)
          have hz := put5_fr hq5 (g := B) (.inl (Nat.le_of_lt hT)) (.int .i64 1) (.string R) (.string ⟨#[]⟩) (.slice A n c) (.bool false)
          have hy := put5_fr (Fr.refl (fun i => i = T ∨ i = B) w5) (g := B) (.inl (.inr rfl)) (.int .i64 1) (.string R) (.string ⟨#[]⟩) (.slice A n c) (.bool false)
          refine ⟨?_, put5_fr (((HFF.out.trans hf3).trans hf4).trans hf5) (g := B) (.inr (by rw [HBB.out]; exact Nat.le_refl _)) _ _ _ _ _⟩
          rw [HRES.out]
          exact open_good HBB.out hT hgw HOP.out.own hz (hw5.fr hy (fun e => by rcases e with e | e <;> omega)) HE1.out
        | none =>
          have his2 := r_is_no g S ⟨#[62]⟩ p2 (by decide) h2
          rw [h2] at hres
          simp only at hres
          have HIS2 := Lib.hid his2
          clear his2 h2
          by_cases hm0 : m = 0
          · have hmb : ((m : Int) == 0) = true := by rw [hm0]; rfl
            rw [if_pos hm0] at hres
            have HRES := Lib.hid hres
            clear hres hpm hm0
            have tok1 : True := trivial
            go_wp2_with (first
              | (go_at_call 60; refine (HBL.out _ HOP.out.walk).mono ?_; rintro e w3 ⟨rfl, hw3, hf3⟩)
              | (go_at_call 38; clear tok1; refine (HIS.out _ hw3).mono ?_; rintro e w4 ⟨rfl, hw4, hf4⟩)
              | (go_at_call 38; refine (HIS2.out _ hw4).mono ?_; rintro e w5 ⟨rfl, hw5, hf5⟩; have htk := HOP.out.tok.fr ((hf3.trans hf4).trans hf5) (fun e => absurd (show T = g from e) (by omega)); have hbk := HBK.out.fr ((hf3.trans hf4).trans hf5) (fun e => absurd (show B = g from e) (by omega)); obtain ⟨t0, t1, t2, t3, t4, -, -, -, -, -⟩ := cells5 htk; obtain ⟨b0, b1, b2, b3, b4, f0, f1, f2, f3, f4⟩ := cells5 hbk))
            obtain ⟨q0, q1, q2, q3, q4⟩ := put5_cells hbk (.int .i64 1) (.string R) (.string ⟨#[]⟩) (.slice A n c) (.bool false)
            refine bodyPost_ret (v := .tuple #[.agg #[.int .i64 1, .string R, .string ⟨#[]⟩, .slice A n c, .bool false], .bool false]) (by simp [results, Tryz.results61, go_sem, q0, q1, q2, q3, q4]) rfl ?_
            refine ⟨?_, put5_fr (((HFF.out.trans hf3).trans hf4).trans hf5) (g := B) (.inr (by rw [HBB.out]; exact Nat.le_refl _)) _ _ _ _ _⟩
            rw [HRES.out]
            exact ⟨_, _, _, _, _, _, _, rfl⟩
          · have hmb : ((m : Int) == 0) = false := by rw [beq_eq_false_iff_ne]; omega
            rw [if_neg hm0] at hres
            have hle := HOP.out.walk.le
            have hsm := HOP.out.walk.small
            have hfew := HOP.out.few
            have hlt := HOP.out.own.lt
            have hvg : (Value.slice A n c).ownBlock ≠ some g := fun e => by have := (hlt g e).1; omega
            have hat := fun u (hu : WkT u g S p2) (ho : OwnI 2 AttrI u (T + 1) 59 No (.slice A n c) n xs) (hb : T + 1 ≤ u.heap.size) => r_attr_any g S p2 u hu (T + 1) (.slice A n c) n xs ho hvg (by omega) hb
            have HVG := Lib.hid hvg; have HLT := Lib.hid hlt; have HFEW := Lib.hid hfew
            cases ha : attrP xs (S.data.toList.drop p2) with
            | none =>
              rw [ha] at hres hat
              have HRES := Lib.hid hres; have HAT := Lib.hid hat
              clear hres hpm hm0 hat ha hvg hlt hfew
              have tok1 : True := trivial
              go_wp2_with (first
                | (go_at_call 60; refine (HBL.out _ HOP.out.walk).mono ?_; rintro e w3 ⟨rfl, hw3, hf3⟩)
                | (go_at_call 38; clear tok1; refine (HIS.out _ hw3).mono ?_; rintro e w4 ⟨rfl, hw4, hf4⟩)
                | (go_at_call 38; refine (HIS2.out _ hw4).mono ?_; rintro e w5 ⟨rfl, hw5, hf5⟩; have hf35 := (hf3.trans hf4).trans hf5; have htk := HOP.out.tok.fr hf35 (fun e => absurd (show T = g from e) (by omega)); have hbk := HBK.out.fr hf35 (fun e => absurd (show B = g from e) (by omega)); have c3 := htk.cell 3; have z3 := htk.frozen 3; have ho5 := HOP.out.own.fr attr_ok hf35 (fun _ x => x.elim) (fun i hi e => HVG.out (by rw [hi, show i = g from e])); have hT5 := hf35.size)
                | (go_at_call 92; refine (HAT.out _ hw5 ho5 (by omega)).mono ?_; rintro e w6 ⟨⟨A6, m6, c6, rfl⟩, hf6⟩; have htk6 := htk.fr hf6 (fun e => by rcases e with e | e; exact absurd e (by omega); have := (HLT.out T e).1; omega); have z36 := htk6.frozen 3; have c36 := htk6.cell 3))
              have hf06 : Fr (Just g) w w6 := (HFF.out.trans hf35).trans_new hf6 (fun i e => by
                rcases e with e | e
                · exact .inl e
                · refine .inr ?_
                  have h1 := (HLT.out i e).1
                  have h2 := HBB.out
                  omega)
              have hf07 := hf06.setCell (p := ⟨T, 3, none⟩) (.inr (by rw [HBB.out]; exact Nat.le_of_lt hT)) (.slice A6 m6 c6)
              have hf67 : Fr (Just T) w6 (w6.setCell ⟨T, 3, none⟩ (.slice A6 m6 c6)) := (Fr.refl (Just T) _).setCell (p := ⟨T, 3, none⟩) (.inl (Just.at T)) _
              have hbk7 := (hbk.fr hf6 (fun e => by rcases e with e | e; exact absurd e (by omega); have := (HLT.out B e).1; omega)).fr hf67 (fun e => absurd (show B = T from e) (by omega))
              have htk7 := htk6.set_ 3 (.slice A6 m6 c6)
              simp only [List.set_cons_succ, List.set_cons_zero] at htk7
              have hsz7 : T < (w6.setCell ⟨T, 3, none⟩ (.slice A6 m6 c6)).heap.size := by have h1 := hf6.size; have h2 := hf67.size; omega
              go_roundw
              case rel => exact ⟨false, rfl, hf07, hbk7, hsz7, .inl ⟨rfl, HRES.out, _, _, _, htk7⟩⟩
              case measure =>
                have h1 := HOP.out.walk.pos
                show 0 < 1 + S.size - posOf wr g
                omega
            | some x =>
              obtain ⟨y, rest⟩ := x
              have hls := attrP_less ha
              rw [ha] at hres hat
              have HRES := Lib.hid hres; have HAT := Lib.hid hat; have HLS := Lib.hid hls; have HPM := Lib.hid hpm
              clear hres hpm hm0 hat ha hvg hlt hfew hls
              have tok1 : True := trivial
              go_wp2_with (first
                | (go_at_call 60; refine (HBL.out _ HOP.out.walk).mono ?_; rintro e w3 ⟨rfl, hw3, hf3⟩)
                | (go_at_call 38; clear tok1; refine (HIS.out _ hw3).mono ?_; rintro e w4 ⟨rfl, hw4, hf4⟩)
                | (go_at_call 38; refine (HIS2.out _ hw4).mono ?_; rintro e w5 ⟨rfl, hw5, hf5⟩; have hf35 := (hf3.trans hf4).trans hf5; have htk := HOP.out.tok.fr hf35 (fun e => absurd (show T = g from e) (by omega)); have hbk := HBK.out.fr hf35 (fun e => absurd (show B = g from e) (by omega)); have c3 := htk.cell 3; have z3 := htk.frozen 3; have ho5 := HOP.out.own.fr attr_ok hf35 (fun _ x => x.elim) (fun i hi e => HVG.out (by rw [hi, show i = g from e])); have hT5 := hf35.size)
                | (go_at_call 92; refine (HAT.out _ hw5 ho5 (by omega)).mono ?_; rintro e w6 ⟨⟨v6, b6, rfl, ho6, hw6, hd6⟩, hf6⟩; obtain ⟨A6, c6, rfl, _⟩ := ho6.rd' (M := fun _ => True) (fun _ _ => trivial) attr_ok (fun _ _ => trivial); have htk6 := htk.fr hf6 (fun e => by rcases e with e | e; exact absurd e (by omega); have := (HLT.out T e).1; omega); have z36 := htk6.frozen 3; have c36 := htk6.cell 3))
              have hf06 : Fr (Just g) w w6 := (HFF.out.trans hf35).trans_new hf6 (fun i e => by
                rcases e with e | e
                · exact .inl e
                · refine .inr ?_
                  have h1 := (HLT.out i e).1
                  have h2 := HBB.out
                  omega)
              have hf07 := hf06.setCell (p := ⟨T, 3, none⟩) (.inr (by rw [HBB.out]; exact Nat.le_of_lt hT)) (.slice A6 (n + 1) c6)
              have hf67 : Fr (Just T) w6 (w6.setCell ⟨T, 3, none⟩ (.slice A6 (n + 1) c6)) := (Fr.refl (Just T) _).setCell (p := ⟨T, 3, none⟩) (.inl (Just.at T)) _
              have hbk7 := (hbk.fr hf6 (fun e => by rcases e with e | e; exact absurd e (by omega); have := (HLT.out B e).1; omega)).fr hf67 (fun e => absurd (show B = T from e) (by omega))
              have htk7 := htk6.set_ 3 (.slice A6 (n + 1) c6)
              simp only [List.set_cons_succ, List.set_cons_zero] at htk7
              have hsz7 : T < (w6.setCell ⟨T, 3, none⟩ (.slice A6 (n + 1) c6)).heap.size := by have h1 := hf6.size; have h2 := hf67.size; omega
              have hw7 := hw6.fr hf67 (fun e => absurd (show g = T from e) (by omega))
              have ho6l := ho6.lt
              have ho7 := ho6.fr attr_ok hf67 (fun _ x => x.elim) (fun i hi e => by have h1 := (ho6l i hi).1; have h2 : i = T := e; omega)
              have hb6 : p < b6 := by
                have h1 := HLS.out
                have h2 := HPM.out
                rw [← hd6, List.length_drop, List.length_drop, size_list] at h1
                omega
              go_roundw
              case rel => exact ⟨true, rfl, hf07, hbk7, hsz7, .inr ⟨rfl, b6, A6, c6, n + 1, xs ++ [y], hw7, htk7, ho7, by have h1 := HFEW.out; omega, by rw [HRES.out, hd6]⟩⟩
              case measure =>
                have h1 := HOP.out.walk.pos
                have h2 := hw7.pos
                show 1 + S.size - posOf (w6.setCell ⟨T, 3, none⟩ (.slice A6 (n + 1) c6)) g < 1 + S.size - posOf wr g
                omega
end Go.Proofs.YthkjmbkfcnehoaaGreatDoor
/- The statements' own tokens: one token. -/
namespace Go.Proofs.YthkjmbkfcnehoaaGreatDoor
open Go.RowKit
set_option maxHeartbeats 1000000
set_option linter.unusedVariables false

/-- a closing token behind its name -/
def closeQ (n l : List UInt8) : Option (Tok × List UInt8) := if n = [] then none else (isP [62] l).map fun r => (⟨2, n, [], [], false⟩, r)
theorem tokP_close {l l1 : List UInt8} (h : isP [60, 47] l = some l1) : tokP l = closeQ (nameR l1) ((l1.dropWhile isWi).dropWhile isBl) := by
  unfold tokP closeQ
  rw [h]
  cases hn : nameOk (l1.takeWhile isWi) with
  | false => rw [if_pos (nameR_nil.2 hn)]; simp [hn]
  | true =>
    have h1 : nameR l1 = l1.takeWhile isWi := by unfold nameR; rw [hn]; rfl
    rw [if_neg (fun e => by rw [nameR_nil.1 e] at hn; cases hn), h1]
    simp [hn]
theorem tokP_open {l l1 : List UInt8} (h0 : isP [60, 47] l = none) (h : isP [60] l = some l1) : tokP l = if nameOk (l1.takeWhile isWi) then openV (l1.takeWhile isWi) [] (l1.dropWhile isWi) else none := by
  unfold tokP
  rw [h0]
  simp only
  rw [h]
  simp only
  have e := drop_while_le isWi l1
  cases hn : nameOk (l1.takeWhile isWi) with
  | false => simp
  | true =>
    simp only [Bool.not_true, Bool.false_eq_true, if_false, if_true]
    exact openF_enough _ _ _ _ _ (by omega) (by omega)
def notLt (c : UInt8) : Bool := decide (c.toNat ≠ 60)
theorem tokP_text {l : List UInt8} (h0 : isP [60, 47] l = none) (h : isP [60] l = none) : tokP l = (valV (l.takeWhile notLt)).map fun v => (⟨3, [], v, [], false⟩, l.dropWhile notLt) := by
  unfold tokP
  rw [h0]
  simp only
  rw [h]
  rfl
def zeroTok : List Value := [.int .i64 0, .string ⟨#[]⟩, .string ⟨#[]⟩, .slice none 0 0, .bool false]

set_option maxRecDepth 100000 in
theorem r_tok_close (g : Nat) (S : ByteArray) (a : Nat) (w : World) (h : WkT w g S a) (l1 : List UInt8) (hc : isP [60, 47] (S.data.toList.drop a) = some l1) :
    Calls Tryz.prog 39 #[.pointer (some ⟨g, 0, none⟩)] w fun e w' => OpenEnd S g w.heap.size (tokP (S.data.toList.drop a)) e w' ∧ Fr (Just g) w w' := by
  rw [tokP_close hc]
  obtain ⟨E1, his⟩ := r_is_yes g S ⟨#[60, 47]⟩ a l1 (by decide) hc
  obtain ⟨p0, hp0⟩ : ∃ p0, a + (⟨#[60, 47]⟩ : ByteArray).size = p0 := ⟨_, rfl⟩
  rw [hp0] at E1 his
  obtain ⟨p1, D1, -, hnm⟩ := r_name_at g S p0
  obtain ⟨m, p2, -, -, D2, hbl⟩ := r_blanks_at g S p1
  rw [E1] at D1
  rw [D1] at D2
  rw [E1] at hnm
  rw [← D2]
  have hgw := h.blk.lt
  have hb0 : Bk (w.alloc (.cells #[.int .i64 0, .string ⟨#[]⟩, .string ⟨#[]⟩, .slice none 0 0, .bool false] 45)) w.heap.size 45 [.int .i64 0, .string ⟨#[]⟩, .string ⟨#[]⟩, .slice none 0 0, .bool false] := Bk.new w _ _
  have hfa : Fr (Just g) w (w.alloc (.cells #[.int .i64 0, .string ⟨#[]⟩, .string ⟨#[]⟩, .slice none 0 0, .bool false] 45)) := (Fr.refl _ w).alloc _
  have H := Lib.hid h; have HB0 := Lib.hid hb0; have HFA := Lib.hid hfa; have HGW := Lib.hid hgw; have HIS := Lib.hid his; have HNM := Lib.hid hnm; have HBL := Lib.hid hbl
  clear h hb0 hfa hgw hc E1 his hnm hbl D1 D2 hp0
  by_cases hN : nameR l1 = []
  · have hres : closeQ (nameR l1) (S.data.toList.drop p2) = none := by unfold closeQ; rw [if_pos hN]
    rw [hres]
    rw [hN] at HNM
    clear hres hN
    go_enter Tryz.func39, Tryz.ntmps39
    go_wp2_with (first
      | (go_at_call 38; refine (HIS.out _ (H.out.no ((Fr.refl _ _).alloc _))).mono ?_; rintro e w1 ⟨rfl, hw1, hf1⟩)
      | (go_at_call 59; refine (HNM.out _ hw1).mono ?_; rintro e w2 ⟨R, rfl, hR, hw2, hf2⟩; have hRe : (R.toList == []) = true := (by rw [ba_list, hR]; rfl))
      | (go_at_call 60; refine (HBL.out _ hw2).mono ?_; rintro e w3 ⟨rfl, hw3, hf3⟩; have hf13 := (hf1.trans hf2).trans hf3; have hbk := HB0.out.fr hf13 (fun e => absurd (show w.heap.size = g from e) (by have := HGW.out; omega)); obtain ⟨b0, b1, b2, b3, b4, f0, f1, f2, f3, f4⟩ := cells5 hbk))
    obtain ⟨q0, q1, q2, q3, q4⟩ := put5_cells hbk (.int .i64 2) (.string R) (.string ⟨#[]⟩) (.slice none 0 0) (.bool false)
    refine bodyPost_ret (v := .tuple #[.agg #[.int .i64 2, .string R, .string ⟨#[]⟩, .slice none 0 0, .bool false], .bool false]) (by simp [results, Tryz.results39, go_sem, q0, q1, q2, q3, q4]) rfl ?_
    refine ⟨?_, put5_fr (HFA.out.trans hf13) (.inr (Nat.le_refl _)) _ _ _ _ _⟩
    exact ⟨_, _, _, _, _, _, _, rfl⟩
  · cases h2 : isP [62] (S.data.toList.drop p2) with
    | none =>
      have his2 := r_is_no g S ⟨#[62]⟩ p2 (by decide) h2
      have hres : closeQ (nameR l1) (S.data.toList.drop p2) = none := by unfold closeQ; rw [if_neg hN, h2]; rfl
      rw [hres]
      have HIS2 := Lib.hid his2; have HN := Lib.hid hN
      clear hres hN his2 h2
      have tok1 : True := trivial
      go_enter Tryz.func39, Tryz.ntmps39
      go_wp2_with (first
        | (go_at_call 38; clear tok1; refine (HIS.out _ (H.out.no ((Fr.refl _ _).alloc _))).mono ?_; rintro e w1 ⟨rfl, hw1, hf1⟩)
        | (go_at_call 59; refine (HNM.out _ hw1).mono ?_; rintro e w2 ⟨R, rfl, hR, hw2, hf2⟩; have hRe : (R.toList == []) = false := (by rw [ba_list, hR, beq_eq_false_iff_ne]; exact HN.out))
        | (go_at_call 60; refine (HBL.out _ hw2).mono ?_; rintro e w3 ⟨rfl, hw3, hf3⟩)
        | (go_at_call 38; refine (HIS2.out _ hw3).mono ?_; rintro e w4 ⟨rfl, hw4, hf4⟩; have hf14 := ((hf1.trans hf2).trans hf3).trans hf4; have hbk := HB0.out.fr hf14 (fun e => absurd (show w.heap.size = g from e) (by have := HGW.out; omega)); obtain ⟨b0, b1, b2, b3, b4, f0, f1, f2, f3, f4⟩ := cells5 hbk))
      obtain ⟨q0, q1, q2, q3, q4⟩ := put5_cells hbk (.int .i64 2) (.string R) (.string ⟨#[]⟩) (.slice none 0 0) (.bool false)
      refine bodyPost_ret (v := .tuple #[.agg #[.int .i64 2, .string R, .string ⟨#[]⟩, .slice none 0 0, .bool false], .bool false]) (by simp [results, Tryz.results39, go_sem, q0, q1, q2, q3, q4]) rfl ?_
      refine ⟨?_, put5_fr (HFA.out.trans hf14) (.inr (Nat.le_refl _)) _ _ _ _ _⟩
      exact ⟨_, _, _, _, _, _, _, rfl⟩
    | some r2 =>
      obtain ⟨E2, his2⟩ := r_is_yes g S ⟨#[62]⟩ p2 r2 (by decide) h2
      have hres : closeQ (nameR l1) (S.data.toList.drop p2) = some (⟨2, nameR l1, [], [], false⟩, r2) := by unfold closeQ; rw [if_neg hN, h2]; rfl
      rw [hres]
      have HIS2 := Lib.hid his2; have HN := Lib.hid hN; have HE2 := Lib.hid E2
      clear hres hN his2 h2 E2
      have tok1 : True := trivial
      go_enter Tryz.func39, Tryz.ntmps39
      go_wp2_with (first
        | (go_at_call 38; clear tok1; refine (HIS.out _ (H.out.no ((Fr.refl _ _).alloc _))).mono ?_; rintro e w1 ⟨rfl, hw1, hf1⟩)
        | (go_at_call 59; refine (HNM.out _ hw1).mono ?_; rintro e w2 ⟨R, rfl, hR, hw2, hf2⟩; have hRe : (R.toList == []) = false := (by rw [ba_list, hR, beq_eq_false_iff_ne]; exact HN.out))
        | (go_at_call 60; refine (HBL.out _ hw2).mono ?_; rintro e w3 ⟨rfl, hw3, hf3⟩)
        | (go_at_call 38; refine (HIS2.out _ hw3).mono ?_; rintro e w4 ⟨rfl, hw4, hf4⟩; have hf14 := ((hf1.trans hf2).trans hf3).trans hf4; have hbk := HB0.out.fr hf14 (fun e => absurd (show w.heap.size = g from e) (by have := HGW.out; omega)); obtain ⟨b0, b1, b2, b3, b4, f0, f1, f2, f3, f4⟩ := cells5 hbk))
      obtain ⟨q0, q1, q2, q3, q4⟩ := put5_cells hbk (.int .i64 2) (.string R) (.string ⟨#[]⟩) (.slice none 0 0) (.bool false)
      refine bodyPost_ret (v := .tuple #[.agg #[.int .i64 2, .string R, .string ⟨#[]⟩, .slice none 0 0, .bool false], .bool true]) (by simp [results, Tryz.results39, go_sem, q0, q1, q2, q3, q4]) rfl ?_
      refine ⟨?_, put5_fr (HFA.out.trans hf14) (.inr (Nat.le_refl _)) _ _ _ _ _⟩
      have hy := put5_fr (Fr.refl (fun i => i = w.heap.size) w4) (g := w.heap.size) (.inl rfl) (.int .i64 2) (.string R) (.string ⟨#[]⟩) (.slice none 0 0) (.bool false)
      exact ⟨R, ⟨#[]⟩, none, 0, 0, _, rfl, hR, rfl, RdI.nil_ _ _ _ _, hw4.fr hy (fun e => absurd e (by have := HGW.out; omega)), HE2.out⟩

set_option maxRecDepth 100000 in
theorem r_tok_open (g : Nat) (S : ByteArray) (a : Nat) (w : World) (h : WkT w g S a) (l1 : List UInt8) (hc0 : isP [60, 47] (S.data.toList.drop a) = none) (hc : isP [60] (S.data.toList.drop a) = some l1) :
    Calls Tryz.prog 39 #[.pointer (some ⟨g, 0, none⟩)] w fun e w' => OpenEnd S g w.heap.size (tokP (S.data.toList.drop a)) e w' ∧ Fr (Just g) w w' := by
  rw [tokP_open hc0 hc]
  have his0 := r_is_no g S ⟨#[60, 47]⟩ a (by decide) hc0
  obtain ⟨E1, his⟩ := r_is_yes g S ⟨#[60]⟩ a l1 (by decide) hc
  obtain ⟨p0, hp0⟩ : ∃ p0, a + (⟨#[60]⟩ : ByteArray).size = p0 := ⟨_, rfl⟩
  rw [hp0] at E1 his
  have hop := fun u hu => r_open_any g S p0 u hu
  rw [E1] at hop
  have hgw := h.blk.lt
  have hb0 : Bk (w.alloc (.cells #[.int .i64 0, .string ⟨#[]⟩, .string ⟨#[]⟩, .slice none 0 0, .bool false] 45)) w.heap.size 45 [.int .i64 0, .string ⟨#[]⟩, .string ⟨#[]⟩, .slice none 0 0, .bool false] := Bk.new w _ _
  have hfa : Fr (Just g) w (w.alloc (.cells #[.int .i64 0, .string ⟨#[]⟩, .string ⟨#[]⟩, .slice none 0 0, .bool false] 45)) := (Fr.refl _ w).alloc _
  generalize (if nameOk (l1.takeWhile isWi) then openV (l1.takeWhile isWi) [] (l1.dropWhile isWi) else none) = r at hop ⊢
  have H := Lib.hid h; have HB0 := Lib.hid hb0; have HFA := Lib.hid hfa; have HGW := Lib.hid hgw; have HIS0 := Lib.hid his0; have HIS := Lib.hid his; have HOP := Lib.hid hop
  clear h hb0 hfa hgw hc0 hc E1 his0 his hop hp0
  have tok1 : True := trivial
  go_enter Tryz.func39, Tryz.ntmps39
  cases r with
  | none =>
    go_wp2_with (first
      | (go_at_call 38; clear tok1; refine (HIS0.out _ (H.out.no ((Fr.refl _ _).alloc _))).mono ?_; rintro e w1 ⟨rfl, hw1, hf1⟩)
      | (go_at_call 38; refine (HIS.out _ hw1).mono ?_; rintro e w2 ⟨rfl, hw2, hf2⟩)
      | (go_at_call 61; refine (HOP.out _ hw2).mono ?_; rintro e w3 ⟨⟨k, X, Y, A, n, c, em, rfl⟩, hf3⟩; have hf13 := (hf1.trans hf2).trans hf3; have hbk := HB0.out.fr hf13 (fun e => absurd (show w.heap.size = g from e) (by have := HGW.out; omega)); obtain ⟨b0, b1, b2, b3, b4, f0, f1, f2, f3, f4⟩ := cells5 hbk))
    obtain ⟨q0, q1, q2, q3, q4⟩ := put5_cells hbk (.int .i64 k) (.string X) (.string Y) (.slice A n c) (.bool em)
    refine bodyPost_ret (v := .tuple #[.agg #[.int .i64 k, .string X, .string Y, .slice A n c, .bool em], .bool false]) (by simp [results, Tryz.results39, go_sem, q0, q1, q2, q3, q4]) rfl ?_
    exact ⟨⟨_, _, _, _, _, _, _, rfl⟩, put5_fr (HFA.out.trans hf13) (.inr (Nat.le_refl _)) _ _ _ _ _⟩
  | some r =>
    obtain ⟨t, rest⟩ := r
    go_wp2_with (first
      | (go_at_call 38; clear tok1; refine (HIS0.out _ (H.out.no ((Fr.refl _ _).alloc _))).mono ?_; rintro e w1 ⟨rfl, hw1, hf1⟩)
      | (go_at_call 38; refine (HIS.out _ hw1).mono ?_; rintro e w2 ⟨rfl, hw2, hf2⟩)
      | (go_at_call 61; refine (HOP.out _ hw2).mono ?_; rintro e w3 ⟨⟨X, Y, A, n, c, b, rfl, hX, hY, hrd, hw3, hd3⟩, hf3⟩; have hf13 := (hf1.trans hf2).trans hf3; have hbk := HB0.out.fr hf13 (fun e => absurd (show w.heap.size = g from e) (by have := HGW.out; omega)); obtain ⟨b0, b1, b2, b3, b4, f0, f1, f2, f3, f4⟩ := cells5 hbk))
    obtain ⟨q0, q1, q2, q3, q4⟩ := put5_cells hbk (.int .i64 t.kind) (.string X) (.string Y) (.slice A n c) (.bool t.empty)
    refine bodyPost_ret (v := .tuple #[.agg #[.int .i64 t.kind, .string X, .string Y, .slice A n c, .bool t.empty], .bool true]) (by simp [results, Tryz.results39, go_sem, q0, q1, q2, q3, q4]) rfl ?_
    refine ⟨?_, put5_fr (HFA.out.trans hf13) (.inr (Nat.le_refl _)) _ _ _ _ _⟩
    have hy := put5_fr (Fr.refl (fun i => i = w.heap.size) w3) (g := w.heap.size) (.inl rfl) (.int .i64 t.kind) (.string X) (.string Y) (.slice A n c) (.bool t.empty)
    have hs2 : w.heap.size < w2.heap.size := by
      have h1 := hf1.size
      have h2 := hf2.size
      simp at h1
      omega
    exact ⟨X, Y, A, n, c, b, rfl, hX, hY, (hrd.fr attr_ok hy (fun i hi e => by omega)).mono attr_ok (fun i hi => by have := hy.size; exact ⟨by omega, Nat.lt_of_lt_of_le hi.2 this⟩), hw3.fr hy (fun e => absurd e (by have := HGW.out; omega)), hd3⟩

attribute [local irreducible] yielded in
set_option maxRecDepth 100000 in
theorem r_tok_text (g : Nat) (S : ByteArray) (a : Nat) (w : World) (h : WkT w g S a) (hc0 : isP [60, 47] (S.data.toList.drop a) = none) (hc : isP [60] (S.data.toList.drop a) = none) :
    Calls Tryz.prog 39 #[.pointer (some ⟨g, 0, none⟩)] w fun e w' => OpenEnd S g w.heap.size (tokP (S.data.toList.drop a)) e w' ∧ Fr (Just g) w w' := by
  have hT := tokP_text hc0 hc
  have his0 := r_is_no g S ⟨#[60, 47]⟩ a (by decide) hc0
  have his := r_is_no g S ⟨#[60]⟩ a (by decide) hc
  have hgw := h.blk.lt
  have hb0 : Bk (w.alloc (.cells #[.int .i64 0, .string ⟨#[]⟩, .string ⟨#[]⟩, .slice none 0 0, .bool false] 45)) w.heap.size 45 [.int .i64 0, .string ⟨#[]⟩, .string ⟨#[]⟩, .slice none 0 0, .bool false] := Bk.new w _ _
  have hfa : Fr (Just g) w (w.alloc (.cells #[.int .i64 0, .string ⟨#[]⟩, .string ⟨#[]⟩, .slice none 0 0, .bool false] 45)) := (Fr.refl _ w).alloc _
  have H := Lib.hid h; have HB0 := Lib.hid hb0; have HFA := Lib.hid hfa; have HGW := Lib.hid hgw; have HIS0 := Lib.hid his0; have HIS := Lib.hid his; have HT := Lib.hid hT
  clear h hb0 hfa hgw hc0 hc his0 his hT
  have tok1 : True := trivial
  go_enter Tryz.func39, Tryz.ntmps39
  go_wp2_with (first
    | (go_at_call 38; clear tok1; refine (HIS0.out _ (H.out.no ((Fr.refl _ _).alloc _))).mono ?_; rintro e w1 ⟨rfl, hw1, hf1⟩)
    | (go_at_call 38; refine (HIS.out _ hw1).mono ?_; rintro e w2 ⟨rfl, hw2, hf2⟩; have c1 : w2.cell? ⟨g, 1, none⟩ = some (.int .i64 (a : Int)) := hw2.blk.cell 1))
  have hf02 : Fr (Just g) w w2 := HFA.out.trans (hf1.trans hf2)
  have hbk2 := HB0.out.fr (hf1.trans hf2) (fun e => absurd (show w.heap.size = g from e) (by have := HGW.out; omega))
  have HF02 := Lib.hid hf02; have HBK2 := Lib.hid hbk2; have HW2 := Lib.hid hw2
  clear hf02 hbk2 hw2 hf1 hf2 hw1 c1
  go_loopw [] (fun wr => ∃ t : Nat, WkT wr g S (a + t) ∧ Fr (Just g) w2 wr ∧ ∀ j (hj : j < t) (hl : j < (S.data.toList.drop a).length), notLt (S.data.toList.drop a)[j] = true) (fun wr => S.size - posOf wr g)
  case atStart => exact ⟨0, HW2.out, Fr.refl _ _, fun j hj => by omega⟩
  case round =>
    obtain ⟨t, hwt, hft, hall⟩ := hrel
    obtain ⟨q, hq⟩ : ∃ q, a + t = q := ⟨_, rfl⟩
    rw [hq] at hwt
    have c0 : wr.cell? ⟨g, 0, none⟩ = some (.string S) := hwt.blk.cell 0
    have c1 : wr.cell? ⟨g, 1, none⟩ = some (.int .i64 (q : Int)) := hwt.blk.cell 1
    have z1 := hwt.blk.frozen 1
    have hle := hwt.le
    have hsm := hwt.small
    have hpos := hwt.pos
    have hdl : (S.data.toList.drop a).length = S.size - a := by rw [List.length_drop, size_list]
    have haq : a ≤ q := by omega
    have f1 : (0 : Int) ≤ (q : Int) ∧ (q : Int) ≤ (S.size : Int) := by omega
    have f2 : (0 : Int) ≤ (a : Int) ∧ (a : Int) ≤ (q : Int) := by omega
    have HT2 := Lib.hid hq; have HWT := Lib.hid hwt; have HFT := Lib.hid hft; have HALLV := Lib.hid hall; have HPOS := Lib.hid hpos; have HDL := Lib.hid hdl
    clear hq hwt hft hall hpos hdl
    by_cases hlt2 : q < S.size
    · have hltI2 : (q : Int) < (S.size : Int) := by omega
      obtain ⟨y, hy⟩ : ∃ y, S[q] = y := ⟨_, rfl⟩
      have hyl : ∀ hl : t < (S.data.toList.drop a).length, (S.data.toList.drop a)[t] = y := fun hl => by
        rw [← hy, byte_at S q hlt2, List.getElem_drop]
        have := HT2.out
        subst this
        rfl
      have HYL := Lib.hid hyl
      clear hyl
      by_cases hy6 : y.toNat = 60
      · have hyb : ((y.toNat : Int) != 60) = false := by rw [hy6]; rfl
        have hlen := take_while_len notLt (S.data.toList.drop a) t HALLV.out (by rw [HDL.out]; have := HT2.out; omega) (fun hl => by rw [HYL.out hl]; unfold notLt; rw [decide_eq_false_iff_not]; exact fun h => h hy6)
        clear hy6
        obtain ⟨T, hTT⟩ : ∃ T, S.extract a q = T := ⟨_, rfl⟩
        have hdw := drop_while_at notLt S.data.toList a
        rw [hlen, HT2.out] at hdw
        have hTl : T.data.toList = (S.data.toList.drop a).takeWhile notLt := by
          rw [take_while_pre, hlen, ← hTT, ext_list]
          have := HT2.out
          congr 1
          omega
        have hTs : T.size ≤ 65536 := by rw [← size_list, hTl, hlen]; have := HT2.out; omega
        have hres : tokP (S.data.toList.drop a) = (valV T.data.toList).map fun v => (⟨3, [], v, [], false⟩, S.data.toList.drop q) := by rw [HT.out, ← hTl, hdw]
        obtain ⟨V, hV⟩ : ∃ V : ByteArray, V.data.toList = valB T.data.toList := ⟨bstr _, rfl⟩
        have hval := fun u => r_value_one T V u hTs hV
        have HRES := Lib.hid hres; have HVAL := Lib.hid hval; have HV := Lib.hid hV
        clear hres hdw hlen hTl hTs hval hV
        go_wp2
        go_quiet (fail)
        go_wp2
        have hdr6 : Dr wr (wr.drewN nq) := ((Dr.refl wr).drewN nq)
        generalize wr.drewN nq = w6 at hdr6 ⊢
        have hw6 := HWT.out.no hdr6.fr
        have hf6 := HFT.out.dr hdr6
        have c60 : w6.cell? ⟨g, 0, none⟩ = some (.string S) := hw6.blk.cell 0
        have c61 : w6.cell? ⟨g, 1, none⟩ = some (.int .i64 (q : Int)) := hw6.blk.cell 1
        have q60 := fun d os => cell_regrown c60 d os
        have q61 := fun d os => cell_regrown c61 d os
        have HW6 := Lib.hid hw6; have HF6 := Lib.hid hf6
        clear hdr6 hw6 hf6 c0 c1 z1 HWT HFT c60 c61
        refine wp_region_quiet_below (by kernel_rfl) (by kernel_rfl) ?_
        repeat (quiet_step ((go_at_call 62; exact Calls.regrown_of (HVAL.out _))))
        refine wpQuiet_nil ?_
        intro w7 hw7r
        obtain ⟨⟨nr, osr⟩, hw7r⟩ := hw7r
        have hf7 : Fr No w6 w7 := by rw [hw7r]; exact Fr.of_below (below_regrown w6 nr osr)
        clear hw7r q60 q61
        have hw7 := HW6.out.no hf7
        have hf07 := HF6.out.trans hf7.no
        have hbk := HBK2.out.fr hf07 (fun e => absurd (show w.heap.size = g from e) (by have := HGW.out; omega))
        obtain ⟨b0, b1, b2, b3, b4, f0, f1, f2, f3, f4⟩ := cells5 hbk
        go_wp2
        obtain ⟨q0, q1, q2, q3, q4⟩ := put5_cells hbk (.int .i64 3) (.string ⟨#[]⟩) (.string V) (.slice none 0 0) (.bool false)
        refine bodyPost_ret (v := .tuple #[.agg #[.int .i64 3, .string ⟨#[]⟩, .string V, .slice none 0 0, .bool false], .bool (valV T.data.toList).isSome]) (by simp [results, Tryz.results39, go_sem, q0, q1, q2, q3, q4]) rfl ?_
        refine ⟨?_, put5_fr (HF02.out.trans hf07) (.inr (Nat.le_refl _)) _ _ _ _ _⟩
        have hy := put5_fr (Fr.refl (fun i => i = w.heap.size) w7) (g := w.heap.size) (.inl rfl) (.int .i64 3) (.string ⟨#[]⟩) (.string V) (.slice none 0 0) (.bool false)
        rw [HRES.out]
        have hV := HV.out
        unfold valB at hV
        cases hz : valV T.data.toList with
        | none => exact ⟨_, _, _, _, _, _, _, rfl⟩
        | some z =>
          rw [hz] at hV
          exact ⟨⟨#[]⟩, V, none, 0, 0, q, rfl, rfl, hV, RdI.nil_ _ _ _ _, hw7.fr hy (fun e => absurd e (by have := HGW.out; omega)), rfl⟩
      · have hyb : ((y.toNat : Int) != 60) = true := by rw [bne_iff_ne]; omega
        have hin : notLt y = true := by unfold notLt; rw [decide_eq_true_iff]; exact hy6
        have HIN := Lib.hid hin
        clear hy6 hin
        go_wp2
        go_quiet (fail)
        go_wp2
        have h2 := (HWT.out.no ((Fr.refl No wr).drewN nq)).set (b := q + 1) (by omega)
        have e1 : ((q + 1 : Nat) : Int) = (q : Int) + 1 := by omega
        rw [e1] at h2
        go_roundw
        case rel =>
          refine ⟨t + 1, ?_, (HFT.out.drewN nq).setCell (p := ⟨g, 1, none⟩) (.inl (Just.at g)) _, fun j hj hl => ?_⟩
          · have h3 := HT2.out
            rw [show a + (t + 1) = q + 1 by omega]
            exact h2
          · by_cases hjk : j = t
            · subst hjk; rw [HYL.out hl]; exact HIN.out
            · exact HALLV.out j (by omega) hl
        case measure =>
          have p2 := h2.pos
          have p1 := HPOS.out
          rw [p1, p2]
          omega
    · have hltI2 : ¬ (q : Int) < (S.size : Int) := by omega
      have hlen := take_while_len notLt (S.data.toList.drop a) t HALLV.out (by rw [HDL.out]; have := HT2.out; omega) (fun hl => by rw [HDL.out] at hl; have := HT2.out; omega)
      obtain ⟨T, hTT⟩ : ∃ T, S.extract a q = T := ⟨_, rfl⟩
      have hdw := drop_while_at notLt S.data.toList a
      rw [hlen, HT2.out] at hdw
      have hTl : T.data.toList = (S.data.toList.drop a).takeWhile notLt := by
        rw [take_while_pre, hlen, ← hTT, ext_list]
        have := HT2.out
        congr 1
        omega
      have hTs : T.size ≤ 65536 := by rw [← size_list, hTl, hlen]; have := HT2.out; omega
      have hres : tokP (S.data.toList.drop a) = (valV T.data.toList).map fun v => (⟨3, [], v, [], false⟩, S.data.toList.drop q) := by rw [HT.out, ← hTl, hdw]
      obtain ⟨V, hV⟩ : ∃ V : ByteArray, V.data.toList = valB T.data.toList := ⟨bstr _, rfl⟩
      have hval := fun u => r_value_one T V u hTs hV
      have HRES := Lib.hid hres; have HVAL := Lib.hid hval; have HV := Lib.hid hV
      clear hres hdw hlen hTl hTs hval hV
      go_wp2
      go_quiet (fail)
      go_wp2
      have hdr6 : Dr wr (wr.drewN nq) := ((Dr.refl wr).drewN nq)
      generalize wr.drewN nq = w6 at hdr6 ⊢
      have hw6 := HWT.out.no hdr6.fr
      have hf6 := HFT.out.dr hdr6
      have c60 : w6.cell? ⟨g, 0, none⟩ = some (.string S) := hw6.blk.cell 0
      have c61 : w6.cell? ⟨g, 1, none⟩ = some (.int .i64 (q : Int)) := hw6.blk.cell 1
      have q60 := fun d os => cell_regrown c60 d os
      have q61 := fun d os => cell_regrown c61 d os
      have HW6 := Lib.hid hw6; have HF6 := Lib.hid hf6
      clear hdr6 hw6 hf6 c0 c1 z1 HWT HFT c60 c61
      refine wp_region_quiet_below (by kernel_rfl) (by kernel_rfl) ?_
      repeat (quiet_step ((go_at_call 62; exact Calls.regrown_of (HVAL.out _))))
      refine wpQuiet_nil ?_
      intro w7 hw7r
      obtain ⟨⟨nr, osr⟩, hw7r⟩ := hw7r
      have hf7 : Fr No w6 w7 := by rw [hw7r]; exact Fr.of_below (below_regrown w6 nr osr)
      clear hw7r q60 q61
      have hw7 := HW6.out.no hf7
      have hf07 := HF6.out.trans hf7.no
      have hbk := HBK2.out.fr hf07 (fun e => absurd (show w.heap.size = g from e) (by have := HGW.out; omega))
      obtain ⟨b0, b1, b2, b3, b4, f0, f1, f2, f3, f4⟩ := cells5 hbk
      go_wp2
      obtain ⟨q0, q1, q2, q3, q4⟩ := put5_cells hbk (.int .i64 3) (.string ⟨#[]⟩) (.string V) (.slice none 0 0) (.bool false)
      refine bodyPost_ret (v := .tuple #[.agg #[.int .i64 3, .string ⟨#[]⟩, .string V, .slice none 0 0, .bool false], .bool (valV T.data.toList).isSome]) (by simp [results, Tryz.results39, go_sem, q0, q1, q2, q3, q4]) rfl ?_
      refine ⟨?_, put5_fr (HF02.out.trans hf07) (.inr (Nat.le_refl _)) _ _ _ _ _⟩
      have hy := put5_fr (Fr.refl (fun i => i = w.heap.size) w7) (g := w.heap.size) (.inl rfl) (.int .i64 3) (.string ⟨#[]⟩) (.string V) (.slice none 0 0) (.bool false)
      rw [HRES.out]
      have hV := HV.out
      unfold valB at hV
      cases hz : valV T.data.toList with
      | none => exact ⟨_, _, _, _, _, _, _, rfl⟩
      | some z =>
        rw [hz] at hV
        exact ⟨⟨#[]⟩, V, none, 0, 0, q, rfl, rfl, hV, RdI.nil_ _ _ _ _, hw7.fr hy (fun e => absurd e (by have := HGW.out; omega)), rfl⟩
end Go.Proofs.YthkjmbkfcnehoaaGreatDoor
/- The statements' own tokens: all of a text. -/
namespace Go.Proofs.YthkjmbkfcnehoaaGreatDoor
open Go.RowKit
set_option maxHeartbeats 1000000
set_option linter.unusedVariables false

theorem openF_less : ∀ (f : Nat) (name : List UInt8) (attrs : List (List UInt8 × List UInt8)) (l : List UInt8) (t : Tok) (rest : List UInt8), openF f name attrs l = some (t, rest) → rest.length < l.length
  | 0, _, _, _, _, _, h => by cases h
  | f + 1, name, attrs, l, t, rest, h => by
    have e2 := drop_while_le isBl l
    unfold openF at h
    split at h
    · rename_i r h1
      have := (isP_len h1).2
      simp only [Option.some.injEq, Prod.mk.injEq, List.length_cons, List.length_nil] at h this
      rw [← h.2]
      omega
    split at h
    · rename_i r h1
      have := (isP_len h1).2
      simp only [Option.some.injEq, Prod.mk.injEq, List.length_cons, List.length_nil] at h this
      rw [← h.2]
      omega
    split at h
    · cases h
    split at h
    · cases h
    rename_i x r h1
    have e1 := attrP_less h1
    have e3 := openF_less f name _ r t rest h
    omega
theorem tokP_less {c : UInt8} {r rest : List UInt8} {t : Tok} (h : tokP (c :: r) = some (t, rest)) : rest.length < (c :: r).length := by
  cases h0 : isP [60, 47] (c :: r) with
  | some l1 =>
    rw [tokP_close h0] at h
    have e1 := (isP_len h0).2
    have e2 := drop_while_le isWi l1
    have e3 := drop_while_le isBl (l1.dropWhile isWi)
    unfold closeQ at h
    split at h
    · cases h
    cases h2 : isP [62] ((l1.dropWhile isWi).dropWhile isBl) with
    | none => rw [h2] at h; cases h
    | some q =>
      have e4 := (isP_len h2).2
      rw [h2] at h
      simp only [Option.map_some, Option.some.injEq, Prod.mk.injEq] at h
      simp only [List.length_cons, List.length_nil] at e1 e4 ⊢
      rw [← h.2]
      omega
  | none =>
    cases h1 : isP [60] (c :: r) with
    | some l1 =>
      rw [tokP_open h0 h1] at h
      have e1 := (isP_len h1).2
      have e2 := drop_while_le isWi l1
      split at h
      · have e3 := openF_less _ _ _ _ _ _ h
        simp only [List.length_cons, List.length_nil] at e1 ⊢
        omega
      · cases h
    | none =>
      rw [tokP_text h0 h1] at h
      have hc : notLt c = true := by
        unfold notLt
        rw [decide_eq_true_iff]
        intro e
        have : c = 60 := UInt8.toNat_inj.1 e
        subst this
        unfold isP at h1
        simp at h1
      have e1 := drop_while_le notLt r
      cases hv : valV ((c :: r).takeWhile notLt) with
      | none => rw [hv] at h; cases h
      | some v =>
        rw [hv] at h
        simp only [Option.map_some, Option.some.injEq, Prod.mk.injEq] at h
        rw [← h.2, List.dropWhile_cons, if_pos hc]
        simp only [List.length_cons]
        omega
theorem toksF_enough : ∀ (f k : Nat) (l : List UInt8), l.length ≤ f → l.length ≤ k → toksF f l = toksF k l := by
  intro f
  induction f with
  | zero =>
    intro k l h1 h2
    have : l = [] := List.eq_nil_of_length_eq_zero (by omega)
    subst this
    cases k <;> rfl
  | succ f ih =>
    intro k l h1 h2
    cases l with
    | nil => cases k <;> rfl
    | cons c r =>
      cases k with
      | zero => simp at h2
      | succ k =>
        unfold toksF
        cases ht : tokP (c :: r) with
        | none => rfl
        | some x =>
          obtain ⟨t, rest⟩ := x
          have e1 := tokP_less ht
          simp only [List.length_cons] at e1 h1 h2
          show (toksF f rest).map _ = (toksF k rest).map _
          rw [ih k rest (by omega) (by omega)]
theorem toksV_cons (c : UInt8) (r : List UInt8) : toksV (c :: r) = match tokP (c :: r) with
    | none => none
    | some (t, rest) => (toksV rest).map (t :: ·) := by
  unfold toksV
  rw [List.length_cons, toksF]
  cases ht : tokP (c :: r) with
  | none => rfl
  | some x =>
    obtain ⟨t, rest⟩ := x
    have e1 := tokP_less ht
    simp only [List.length_cons] at e1
    show (toksF _ rest).map _ = (toksF _ rest).map _
    rw [toksF_enough _ _ rest (by omega) (Nat.le_refl _)]
theorem toksV_nil : toksV [] = some [] := rfl

theorem r_is_yes_any (S P : ByteArray) (p : Nat) (r : List UInt8) (hP : P.size ≤ 65536) (h : isP P.data.toList (S.data.toList.drop p) = some r) : S.data.toList.drop (p + P.size) = r ∧
    ∀ g u, WkT u g S p → Calls Tryz.prog 38 #[.pointer (some ⟨g, 0, none⟩), .string P] u fun e w' => e = .returned (.bool true) ∧ WkT w' g S (p + P.size) ∧ Fr (Just g) u w' :=
  ⟨(r_is_yes 0 S P p r hP h).1, fun g => (r_is_yes g S P p r hP h).2⟩
/-- one token, whatever it is -/
theorem r_token_any (g : Nat) (S : ByteArray) (a : Nat) (w : World) (h : WkT w g S a) :
    Calls Tryz.prog 39 #[.pointer (some ⟨g, 0, none⟩)] w fun e w' => OpenEnd S g w.heap.size (tokP (S.data.toList.drop a)) e w' ∧ Fr (Just g) w w' := by
  cases h0 : isP [60, 47] (S.data.toList.drop a) with
  | some l1 => exact r_tok_close g S a w h l1 h0
  | none => cases h1 : isP [60] (S.data.toList.drop a) with
    | some l1 => exact r_tok_open g S a w h l1 h0 h1
    | none => exact r_tok_text g S a w h h0 h1

set_option maxRecDepth 100000 in
theorem r_Tokens_any (S : ByteArray) (w : World) (hs : S.size ≤ 65536) :
    Calls Tryz.prog 21 #[.string S] w fun e w' => ∃ v, e = .returned (.tuple #[v, .int .i64 (tokE S.data.toList)]) ∧
      OwnI 5 TokI w' w.heap.size 45 (fun i => w.heap.size ≤ i ∧ i < w'.heap.size) v (tokL S.data.toList).length (tokL S.data.toList) ∧ Fr No w w' := by
  have hsl := size_list S
  by_cases h1 : 4096 < S.size
  · have e1 : tokE S.data.toList = 4 := by unfold tokE; rw [hsl, if_pos h1]
    have e2 : tokL S.data.toList = [] := by unfold tokL; rw [e1]; rfl
    have h1I : (4096 : Int) < (S.size : Int) := by omega
    rw [e1, e2]
    clear e1 e2 hsl
    go_enter Tryz.func21, Tryz.ntmps21
    go_wp2
    go_ret2
    exact ⟨_, rfl, OwnI.nil_ _ _ _ _ _ _, Fr.refl _ _⟩
  have h1I : ¬ (4096 : Int) < (S.size : Int) := by omega
  cases h2 : utf8B S.data.toList with
  | false =>
    have e1 : tokE S.data.toList = 7 := by unfold tokE; rw [hsl, if_neg h1, h2]; rfl
    have e2 : tokL S.data.toList = [] := by unfold tokL; rw [e1]; rfl
    have hu := fun u => ref_utf8_any S u (by omega)
    rw [h2] at hu
    have HU := Lib.hid hu
    rw [e1, e2]
    clear e1 e2 hsl hu h2
    go_enter Tryz.func21, Tryz.ntmps21
    go_wp2_with (go_at_call 37; refine (HU.out _).mono ?_; rintro e w1 ⟨rfl, rfl⟩)
    go_ret2
    exact ⟨_, rfl, OwnI.nil_ _ _ _ _ _ _, Fr.refl _ _⟩
  | true =>
    have hu := fun u => ref_utf8_any S u (by omega)
    rw [h2] at hu
    have HU := Lib.hid hu
    have hE : tokE S.data.toList = if (toksV (bodyL S.data.toList)).isSome then 0 else 9 := by unfold tokE; rw [hsl, if_neg h1, h2]; rfl
    have hL : tokL S.data.toList = (toksV (bodyL S.data.toList)).getD [] := by
      unfold tokL
      rw [hE]
      cases toksV (bodyL S.data.toList) <;> rfl
    -- where it begins
    obtain ⟨p0, hp0, hbody, his⟩ : ∃ p0, p0 ≤ S.size ∧ S.data.toList.drop p0 = bodyL S.data.toList ∧ ∀ (g : Nat) (u : World), WkT u g S 0 → Calls Tryz.prog 38 #[.pointer (some ⟨g, 0, none⟩), .string ⟨#[60, 63, 120, 109, 108, 32, 118, 101, 114, 115, 105, 111, 110, 61, 34, 49, 46, 48, 34, 32, 101, 110, 99, 111, 100, 105, 110, 103, 61, 34, 85, 84, 70, 45, 56, 34, 63, 62]⟩] u fun e w' => (∃ b, e = .returned (.bool b)) ∧ WkT w' g S p0 ∧ Fr (Just g) u w' := by
      cases hp : isP prologL S.data.toList with
      | none =>
        refine ⟨0, by omega, by unfold bodyL; rw [hp]; rfl, fun g u hu => (r_is_no g S ⟨#[60, 63, 120, 109, 108, 32, 118, 101, 114, 115, 105, 111, 110, 61, 34, 49, 46, 48, 34, 32, 101, 110, 99, 111, 100, 105, 110, 103, 61, 34, 85, 84, 70, 45, 56, 34, 63, 62]⟩ 0 (by decide) hp u hu).mono ?_⟩
        rintro e w' ⟨rfl, h3, h4⟩
        exact ⟨⟨_, rfl⟩, h3, h4⟩
      | some r =>
        obtain ⟨E, hy⟩ := r_is_yes_any S ⟨#[60, 63, 120, 109, 108, 32, 118, 101, 114, 115, 105, 111, 110, 61, 34, 49, 46, 48, 34, 32, 101, 110, 99, 111, 100, 105, 110, 103, 61, 34, 85, 84, 70, 45, 56, 34, 63, 62]⟩ 0 r (by decide) hp
        have hln := (isP_len hp).2
        refine ⟨0 + (⟨#[60, 63, 120, 109, 108, 32, 118, 101, 114, 115, 105, 111, 110, 61, 34, 49, 46, 48, 34, 32, 101, 110, 99, 111, 100, 105, 110, 103, 61, 34, 85, 84, 70, 45, 56, 34, 63, 62]⟩ : ByteArray).size, by rw [← hsl, ← hln]; exact Nat.le_trans (by decide) (Nat.le_add_left _ _), by rw [E]; unfold bodyL; rw [hp]; rfl, fun g u hu => (hy g u hu).mono ?_⟩
        rintro e w' ⟨rfl, h3, h4⟩
        exact ⟨⟨_, rfl⟩, h3, h4⟩
    rw [← hbody] at hE hL
    have HIS := Lib.hid his; have HE := Lib.hid hE; have HL := Lib.hid hL; have HSL := Lib.hid hsl
    clear his hE hL hbody hsl hu h2
    go_enter Tryz.func21, Tryz.ntmps21
    have hwk : WkT (w.alloc (.cells #[.string S, .int .i64 0] 84)) w.heap.size S 0 := ⟨Bk.new w _ _, by omega, hs⟩
    have HWK := Lib.hid hwk
    clear hwk
    go_wp2_with (first
      | (go_at_call 37; refine (HU.out _).mono ?_; rintro e w1 ⟨rfl, rfl⟩)
      | (go_at_call 38; refine (HIS.out _ _ HWK.out).mono ?_; rintro e w2 ⟨⟨b, rfl⟩, hw2, hf2⟩))
    obtain ⟨G, hG⟩ : ∃ G, w.heap.size = G := ⟨_, rfl⟩
    have hf02 : Fr No w w2 := ((Fr.refl No w).alloc _).trans_new hf2 (fun i e => .inr (by rw [show i = w.heap.size from e]; exact Nat.le_refl _))
    have hG2 : G < w2.heap.size := by have := hf2.size; simp at this; omega
    rw [hG] at hw2
    simp only [hG]
    have HG := Lib.hid hG; have HW2 := Lib.hid hw2; have HF02 := Lib.hid hf02
    clear hw2 hf02 hf2 hG
    go_loopw [5] (fun lv wr => ∃ (p : Nat) (ts : List Tok) (n : Nat) (N : Nat → Prop), n = ts.length ∧ WkT wr G S p ∧ OwnI 5 TokI wr (G + 1) 45 N lv n ts ∧ (∀ i, N i → G < i ∧ i < wr.heap.size ∧ lv.ownBlock ≠ some i) ∧ n ≤ p ∧ toksV (S.data.toList.drop p0) = (toksV (S.data.toList.drop p)).map (ts ++ ·) ∧ Fr No w wr ∧ G < wr.heap.size) (fun _ wr => S.size - posOf wr G)
    case atStart => exact ⟨p0, [], 0, No, rfl, HW2.out, OwnI.nil_ _ _ _ _ _ _, fun _ x => x.elim, by omega, by simp, HF02.out, hG2⟩
    case round =>
      obtain ⟨p, ts, n, N, hn, hwk, hown, hN, hnp, hto, hf, hGr⟩ := hrel
      have c1 : wr.cell? ⟨G, 1, none⟩ = some (.int .i64 (p : Int)) := hwk.blk.cell 1
      have hle := hwk.le
      have hpos := hwk.pos
      have hlt := hown.lt
      have hvs : ∃ A c, u5 = .slice A n c := by obtain ⟨A, c, e, _⟩ := hown.rd' (M := fun _ => True) (fun _ _ => trivial) tok_ok (fun _ _ => trivial); exact ⟨A, c, e⟩
      obtain ⟨VA, vc, rfl⟩ := hvs
      have HNN := Lib.hid hn; have HWK := Lib.hid hwk; have HOWN := Lib.hid hown; have HN := Lib.hid hN; have HTO := Lib.hid hto; have HF := Lib.hid hf; have HPOS := Lib.hid hpos; have HLT := Lib.hid hlt
      clear hn hwk hown hN hto hf hpos hlt
      by_cases hp : p < S.size
      · have hpI : (p : Int) < (S.size : Int) := by omega
        have hdc := sdrop_cons S p hp
        have hcons := toksV_cons S[p] (S.data.toList.drop (p + 1))
        rw [← hdc] at hcons
        have htok := fun u hu => r_token_any G S p u hu
        cases ht : tokP (S.data.toList.drop p) with
        | none =>
          rw [ht] at hcons htok
          have hnone : toksV (S.data.toList.drop p0) = none := by rw [HTO.out, hcons]; rfl
          have e1 : tokE S.data.toList = 9 := by rw [HE.out, hnone]; rfl
          have e2 : tokL S.data.toList = [] := by rw [HL.out, hnone]; rfl
          have HTOK := Lib.hid htok; have HE1 := Lib.hid e1; have HE2 := Lib.hid e2
          clear e1 e2 hnone hcons htok ht hdc
          go_wp2_with (go_at_call 39; refine (HTOK.out _ HWK.out).mono ?_; rintro e w3 ⟨⟨k, X, Y, A, m, c, em, rfl⟩, hf3⟩)
          go_ret2
          refine ⟨.slice none 0 0, by rw [HE1.out]; rfl, by rw [HE2.out]; exact OwnI.nil_ _ _ _ _ _ _, ?_⟩
          exact (HF.out.trans_new hf3 (fun i e => .inr (by rw [show i = G from e, HG.out]; exact Nat.le_refl _))).alloc _
        | some x =>
          obtain ⟨t, rest⟩ := x
          rw [ht] at hcons htok
          have hls := tokP_less (hdc ▸ ht)
          rw [← hdc] at hls
          have HTOK := Lib.hid htok; have HCONS := Lib.hid hcons; have HLS := Lib.hid hls
          clear hcons htok ht hdc hls
          go_wp2_with (first
            | (go_at_call 39; refine (HTOK.out _ HWK.out).mono ?_; rintro e w3 ⟨⟨X, Y, A, m, c, b, rfl, hX, hY, hrd, hw3, hd3⟩, hf3⟩; have hsz3 := hf3.size; have hfa : Fr No w3 (w3.alloc (.cells #[.int .i64 t.kind, .string X, .string Y, .slice A m c, .bool t.empty] 45)) := (Fr.refl No w3).alloc _; have hou := (HOWN.out.fr tok_ok hf3 (fun i hi e => absurd (show i = G from e) (by have := (HN.out i hi).1; omega)) (fun i hi e => absurd (show i = G from e) (by have := (HLT.out i hi).1; omega))).no tok_ok hfa; have hszu := hfa.size)
            | (at_builtin; go_must (refine ap_tok1 (w3.alloc (.cells #[.int .i64 t.kind, .string X, .string Y, .slice A m c, .bool t.empty] 45)) rfl (.tmp 33) (.tmp 35) rfl (G + 1) (.slice VA n vc) n ts N (fun i => wr.heap.size ≤ i ∧ i < w3.heap.size) rfl hou t [.int .i64 t.kind, .string X, .string Y, .slice A m c, .bool t.empty] ⟨X, Y, A, m, c, rfl, hX, hY, hrd.no attr_ok hfa⟩ _ _ (by simp) rfl (by omega) (by omega) (fun i hi => (HN.out i hi).2.2) (fun i hi e => by have := (HLT.out i e).2; omega) ?_); intro v4 w4 ho4 hg4 hr4))
          have hfv : Fr (fun i => (Value.slice VA n vc).ownBlock = some i) w3 w4 := ((hfa.no.alloc _).grown hg4 (fun g e => .inl e))
          have hw4 := hw3.fr hfv (fun e => by have := (HLT.out G e).1; omega)
          have hsz4 := hfv.size
          have hsg : (w3.alloc (.cells #[.int .i64 t.kind, .string X, .string Y, .slice A m c, .bool t.empty] 45)).heap.size = w3.heap.size + 1 := by simp
          have hbp : p < b := by
            have h1 := HLS.out
            rw [← hd3, List.length_drop, List.length_drop, size_list] at h1
            omega
          go_roundw
          case rel =>
            refine ⟨b, ts ++ [t], n + 1, _, by rw [List.length_append, HNN.out]; rfl, hw4, ho4, fun i hi => ?_, by omega, by rw [HTO.out, HCONS.out, hd3, Option.map_map]; congr 1; funext z; simp, ?_, by omega⟩
            · have hv : ∀ i, i < w3.heap.size → (Value.slice VA n vc).ownBlock ≠ some i → v4.ownBlock ≠ some i := fun i hi hne e => by
                rcases hr4 with h | h
                · exact hne (by rw [← h, e])
                · rw [h, hsg] at e
                  injection e with e
                  omega
              rcases hi with hi | hi
              · obtain ⟨h1, h2, h3⟩ := HN.out i hi
                exact ⟨h1, by omega, hv i (by omega) h3⟩
              · exact ⟨by omega, by omega, hv i hi.2 (fun e => by have := (HLT.out i e).2; omega)⟩
            · have h13 := HF.out.trans_new hf3 (fun i e => .inr (by rw [show i = G from e, HG.out]; exact Nat.le_refl _))
              exact h13.trans_new hfv (fun i e => .inr (by rw [HG.out]; have := (HLT.out i e).1; omega))
          case measure =>
            have h1 := HPOS.out
            have h2 := hw4.pos
            omega
      · obtain rfl : p = S.size := by omega
        have hpI : ¬ (S.size : Int) < (S.size : Int) := by omega
        have hto : toksV (S.data.toList.drop p0) = some ts := by
          rw [HTO.out, List.drop_eq_nil_of_le (by rw [HSL.out]; exact Nat.le_refl _), toksV_nil]
          simp
        have e1 : tokE S.data.toList = 0 := by rw [HE.out, hto]; rfl
        have e2 : tokL S.data.toList = ts := by rw [HL.out, hto]; rfl
        have HE1 := Lib.hid e1; have HE2 := Lib.hid e2
        clear e1 e2 hto
        go_wp2
        go_ret2
        refine ⟨.slice VA n vc, by rw [HE1.out]; rfl, ?_, HF.out⟩
        rw [HE2.out, ← HNN.out]
        exact OwnI.low tok_ok (HOWN.out.mono tok_ok (fun i hi => by obtain ⟨h1, h2, h3⟩ := HN.out i hi; rw [HG.out]; exact ⟨by omega, h2⟩)) (by rw [HG.out]; omega)
end Go.Proofs.YthkjmbkfcnehoaaGreatDoor
