/- The statements' own Build and Parse. -/
import Derived.Test.YthkjmbkfcnehoaaGreatDoorRefTree7
import Derived.Test.YthkjmbkfcnehoaaGreatDoorTreeProg
import Derived.Test.YthkjmbkfcnehoaaGreatDoorTreeRuns
import Derived.Test.YthkjmbkfcnehoaaGreatDoorTreeStd
import Derived.Test.YthkjmbkfcnehoaaGreatDoorRefKids
import Derived.LoopTactic
namespace Go.Proofs.YthkjmbkfcnehoaaGreatDoor
open Go.RowKit
set_option maxHeartbeats 1000000
set_option linter.unusedVariables false

theorem gr_set_sum : ∀ (l : List (List UInt8)) (i : Nat) (y : List UInt8), ((l.set i ((l[i]?).getD [] ++ y)).map List.length).sum ≤ (l.map List.length).sum + y.length
  | [], i, y => by simp
  | x :: l, 0, y => by simp; omega
  | x :: l, i + 1, y => by
    have := gr_set_sum l i y
    simp only [List.getElem?_cons_succ, List.set_cons_succ, List.map_cons, List.sum_cons]
    omega
theorem take_txt (g : Gro) (t : Tok) : ((takeS g t).txt.map List.length).sum ≤ (g.txt.map List.length).sum + t.text.length := by
  unfold takeS
  split
  · simp
  split
  · simp only; omega
  split
  · omega
  · exact gr_set_sum _ _ _
theorem gr_run_one (g : Gro) (t : Tok) : runS g [t] = takeS g t := rfl
theorem gr_runE_one (g : Gro) (t : Tok) : runE g [t] = takeE g t := by
  show (if takeE g t = 0 then 0 else takeE g t) = _
  split <;> simp_all
/-- where two lists meet -/
theorem mid_at (E l : List Nod) (k : Nat) (hk : k < l.length) (hE : E.length = l.length) : (E.take k ++ l.drop k)[k]? = some l[k] := by
  rw [List.getElem?_append_right (by rw [List.length_take]; omega), List.length_take, show k - min k E.length = 0 by omega, List.getElem?_drop, Nat.add_zero, List.getElem?_eq_getElem hk]
theorem mid_step (E l : List Nod) (k : Nat) (hk : k < l.length) (hE : E.length = l.length) (x : Nod) (hx : E[k]? = some x) : (E.take k ++ l.drop k).set k x = E.take (k + 1) ++ l.drop (k + 1) := by
  have h1 : (E.take k).length = k := by rw [List.length_take]; omega
  have h2 : k < E.length := by omega
  rw [List.set_append_right _ _ (by omega), h1, Nat.sub_self, List.drop_eq_getElem_cons hk, List.set_cons_zero, List.take_succ_eq_append_getElem h2, List.append_assoc, List.singleton_append]
  rw [List.getElem?_eq_getElem h2] at hx
  injection hx with hx
  rw [hx]
theorem mid_same (E l : List Nod) (k : Nat) (hk : k < l.length) (hE : E.length = l.length) (hx : E[k]? = l[k]?) : E.take k ++ l.drop k = E.take (k + 1) ++ l.drop (k + 1) := by
  have h2 : k < E.length := by omega
  rw [List.getElem?_eq_getElem h2, List.getElem?_eq_getElem hk] at hx
  injection hx with hx
  rw [List.drop_eq_getElem_cons hk, List.take_succ_eq_append_getElem h2, List.append_assoc, List.singleton_append, hx]
theorem mid_par (g : Gro) (k : Nat) : ((endF g 0 g.l).take k ++ g.l.drop k).map (·.parent) = g.l.map (·.parent) := by
  rw [List.map_append, List.map_take, endF_par, ← List.map_take, ← List.map_append, List.take_append_drop]
theorem mid_len (g : Gro) (k : Nat) : ((endF g 0 g.l).take k ++ g.l.drop k).length = g.l.length := by
  have := congrArg List.length (mid_par g k)
  simpa using this
theorem mix_le (g : Gro) {k n : Nat} (h : mixF g k = true) (hk : k ≤ n) : mixF g n = true := by
  induction hk with
  | refl => exact h
  | step _ ih => show (mixF g _ || _) = true; rw [ih, Bool.true_or]
/-- a node's text: how the walk reads it, and stores into it -/
theorem GrV.textAt {w : World} {base g : Nat} {v1 v2 v3 v4 : Value} {xs : List ByteArray} {G : Gro} (h : GrV w base g v1 v2 v3 v4 xs G) {k : Nat} (hk : k < G.l.length) : ∃ b1 c1 X, v1 = .slice (some ⟨b1, 0, none⟩) G.l.length c1 ∧ w.cell? ⟨b1, k * 4 + 2, none⟩ = some (.string X) ∧ w.frozen? ⟨b1, k * 4 + 2, none⟩ = false := by
  obtain ⟨ys, ho, hi⟩ := h.o1.xs
  have hat := ItemsF.at_ nod_ok hi k hk
  obtain ⟨X, Y, A, n, c, hcs, hX, _⟩ := hat
  have hlen := ItemsF.len nod_ok hi
  rcases ho.2 with ⟨_, e⟩ | ⟨b1, cap, cur, e1, _, hg, hn, hm, hc, ht⟩
  · rw [e] at hlen
    simp at hlen
    omega
  · have hbk : Bk w b1 32 cur.toList := hg
    refine ⟨b1, cap, Y, e1, ?_, hbk.frozen _⟩
    obtain ⟨A', c', e2, hr, _⟩ := RdS.of_own ho
    rw [e1] at e2
    injection e2 with e2 e3 e4
    have h1 : ((ys.drop (k * 4)).take 4)[2]? = some (.string Y) := by rw [hcs]; rfl
    rw [List.getElem?_take, if_pos (by omega), List.getElem?_drop] at h1
    have h2 := hr.cells _ e2.symm _ _ h1
    rwa [show (⟨b1, 0, none⟩ : Addr).add (k * 4 + 2) = ⟨b1, k * 4 + 2, none⟩ from by simp [Addr.add]] at h2
theorem gr_start (w : World) (ty : TypeId) (hty : ty = 54) : GrV (w.alloc (.cells #[.slice none 0 0, .slice none 0 0, .slice none 0 0, .slice none 0 0] ty)) w.heap.size w.heap.size (.slice none 0 0) (.slice none 0 0) (.slice none 0 0) (.slice none 0 0) [] g0 := by
  subst hty
  exact ⟨Bk.new w _ _, Nat.le_refl _, OwnI.nil_ _ _ _ _ _ _, World.ownsRow_nil _ _ _ _, rfl, World.ownsRow_nil _ _ _ _, World.ownsRow_nil _ _ _ _,
    ⟨by simp [Value.ownBlock], by simp [Value.ownBlock], by simp [Value.ownBlock], by simp [Value.ownBlock], by simp [Value.ownBlock], by simp [Value.ownBlock], by simp [Value.ownBlock], by simp [Value.ownBlock], by simp [Value.ownBlock], by simp [Value.ownBlock]⟩⟩
set_option maxRecDepth 20000 in
theorem r_Build_any (ts : List Tok) (A : Option Addr) (n c : Nat) (N : Nat → Prop) (w : World) (hts : RdI 5 TokI w N A n c ts) (hn : n ≤ 100000000) (hsum : sumT ts ≤ 500000000) (hat : ∀ t ∈ ts, t.attrs.length ≤ 1000000) :
    Calls Tryz.prog 7 #[.slice A n c] w (NodesTo (buildL ts) (buildE ts) w) := by
  have hlen := hts.len tok_ok (by omega)
  have HTS := Lib.hid hts; have HAT := Lib.hid hat; have HSUM := Lib.hid hsum
  clear hts hat hsum
  go_enter Tryz.func7, Tryz.ntmps7
  go_wp2
  go_name_world w1 hw1
  have hb0 := gr_start w 54 rfl
  rw [hw1] at hb0
  have hf1 : Fr No w w1 := by rw [← hw1]; exact (Fr.refl No w).alloc _
  have HB0 := Lib.hid hb0
  clear hb0 hw1
  go_loopw [5] (fun iv wr => ∃ k : Nat, iv = .int .i64 (k : Int) ∧ k ≤ n ∧ GrT wr w.heap.size w.heap.size (runS g0 (ts.take k)) ∧ Fr No w wr ∧ Okg (runS g0 (ts.take k)) ∧ runE g0 (ts.take k) = 0 ∧ ((runS g0 (ts.take k)).txt.map List.length).sum ≤ sumT (ts.take k)) (fun iv _ => n - (intOf iv).toNat)
  case atStart => exact ⟨0, rfl, Nat.zero_le _, ⟨_, _, _, _, _, HB0.out⟩, hf1, ok0, rfl, by simp [runS, g0]⟩
  case round =>
    obtain ⟨k, rfl, hk, hGT, hfr, hok, hrun, htx⟩ := hrel
    rcases Nat.lt_or_ge k n with hlt | hge
    · have hltI : (k : Int) < (n : Int) := by omega
      have hkl : k < ts.length := by omega
      obtain ⟨ad, cs, rfl, ⟨X, Y, A1, n1, c1, rfl, hX, hY, hA1⟩, hc⟩ := (HTS.out.no tok_ok hfr).at_ tok_ok (by omega) (i := k) hkl
      have x0 := hc 0 _ rfl
      have x1 := hc 1 _ rfl
      have x2 := hc 2 _ rfl
      have x3 := hc 3 _ rfl
      have x4 := hc 4 _ rfl
      rw [add_next ad] at x1 x2 x3 x4
      obtain ⟨P, hP⟩ : ∃ P, ad.add (k * 5) = P := ⟨_, rfl⟩
      rw [Nat.add_zero, hP] at x0
      rw [hP] at x1 x2 x3 x4
      have htake : ts.take (k + 1) = ts.take k ++ [ts[k]] := List.take_succ_eq_append_getElem hkl
      have hsplit : ts = ts.take k ++ ts[k] :: ts.drop (k + 1) := by rw [← List.drop_eq_getElem_cons hkl, List.take_append_drop]
      have hsum1 : sumT (ts.take (k + 1)) = sumT (ts.take k) + ts[k].text.length := by rw [htake, sumT_app, sumT_one]
      have hsum2 : sumT (ts.take k) + ts[k].text.length ≤ 500000000 := by rw [← hsum1]; exact Nat.le_trans (sumT_take _ _) HSUM.out
      have han := hA1.len attr_ok (by omega)
      have hat1 := HAT.out _ (List.getElem_mem hkl)
      have hRS : runS g0 (ts.take (k + 1)) = takeS (runS g0 (ts.take k)) ts[k] := by rw [htake, runS_app, gr_run_one]
      have hRE : runE g0 (ts.take (k + 1)) = takeE (runS g0 (ts.take k)) ts[k] := by rw [htake, runE_app _ _ _ hrun, gr_runE_one]
      have hAll : takeE (runS g0 (ts.take k)) ts[k] ≠ 0 → runE g0 ts = takeE (runS g0 (ts.take k)) ts[k] := by
        intro h
        have h2 : runE g0 (ts.take k ++ ts[k] :: ts.drop (k + 1)) = takeE (runS g0 (ts.take k)) ts[k] := by
          rw [runE_app _ _ _ hrun]
          show (if takeE (runS g0 (ts.take k)) ts[k] = 0 then _ else _) = _
          rw [if_neg h]
        rwa [← hsplit] at h2
      have hTX := take_txt (runS g0 (ts.take k)) ts[k]
      have hoks : takeE (runS g0 (ts.take k)) ts[k] = 0 → Okg (takeS (runS g0 (ts.take k)) ts[k]) := fun h => ok_take hok h
      have hYs : Y.size = ts[k].text.length := by rw [← size_list, hY]
      have HTK := Lib.hid (r_take_any X Y A1 n1 c1 ts[k] wr _ hGT hok hX hY hA1 (by omega) (by omega) (by omega))
      rw [← hsum1] at hsum2
      have hT2 : ((takeS (runS g0 (ts.take k)) ts[k]).txt.map List.length).sum ≤ sumT (ts.take (k + 1)) := by omega
      clear hsplit htake hsum1 hsum2 hTX hYs han hat1 hX hY hA1 hc hrun htx hGT hok
      generalize takeS (runS g0 (ts.take k)) ts[k] = G2 at *
      generalize takeE (runS g0 (ts.take k)) ts[k] = E at *
      generalize ts[k] = t at *
      have hz := hfr.size
      have HFR := Lib.hid hfr; have HRS := Lib.hid hRS; have HRE := Lib.hid hRE; have HALL := Lib.hid hAll; have HOK := Lib.hid hoks; have HT2 := Lib.hid hT2
      clear hfr hRS hRE hAll hoks hT2
      by_cases hE : E = 0
      · have hEb : (E != 0) = false := by rw [hE]; rfl
        have HE := Lib.hid hE
        clear hE
        go_wp2_with (go_at_call 19; refine HTK.out.mono ?_; rintro e w2 ⟨rfl, f2, g2⟩)
        go_roundw
        case rel => exact ⟨k + 1, by go_num, by omega, by rw [HRS.out]; exact g2 HE.out, HFR.out.trans_new f2 (fun i hi => .inr hi), by rw [HRS.out]; exact HOK.out HE.out, by rw [HRE.out]; exact HE.out, by rw [HRS.out]; exact HT2.out⟩
        case measure => simp [intOf]; omega
      · have hEb : (E != 0) = true := by rw [bne_iff_ne]; exact hE
        have HE := Lib.hid hE
        clear hE
        go_wp2_with (go_at_call 19; refine HTK.out.mono ?_; rintro e w2 ⟨rfl, f2, g2⟩)
        go_ret2
        have hr := HALL.out HE.out
        have e1 : buildE ts = E := by unfold buildE; rw [hr, if_neg HE.out]
        have e2 : buildL ts = [] := by unfold buildL; rw [e1, if_neg HE.out]
        rw [e1, e2]
        exact ⟨_, rfl, OwnI.nil_ _ _ _ _ _ _, HFR.out.trans_new f2 (fun i hi => .inr hi)⟩
    · obtain rfl : k = n := by omega
      have hall : ts.take ts.length = ts := List.take_length
      subst hlen
      rw [hall] at hGT hok hrun
      clear htx hall
      obtain ⟨v1, v2, v3, v4, xs, hV⟩ := hGT
      obtain ⟨A1, c1, rfl, hd1⟩ := hV.len1
      obtain ⟨A2, c2, rfl, hr2, -⟩ := Rd.of_own hV.o2
      have e0 : wr.cell? ⟨w.heap.size, 0, none⟩ = some _ := hV.bk.cell 0
      have e1 : wr.cell? ⟨w.heap.size, 1, none⟩ = some _ := hV.bk.cell 1
      have hbE : buildE ts = endE (runS g0 ts) := by unfold buildE; rw [if_pos hrun]
      have hbL : endE (runS g0 ts) = 0 → buildL ts = endF (runS g0 ts) 0 (runS g0 ts).l := by intro h; unfold buildL; rw [hbE, if_pos h]
      have hbN : endE (runS g0 ts) ≠ 0 → buildL ts = [] := by intro h; unfold buildL; rw [hbE, if_neg h]
      generalize runS g0 ts = G at *
      have htop := hok.top
      have hdeep := hok.deep
      have HV := Lib.hid hV; have HOK := Lib.hid hok; have HFR := Lib.hid hfr; have HBL := Lib.hid hbL; have HBN := Lib.hid hbN; have HBE := Lib.hid hbE
      clear hV hok hrun hbE hfr hr2 hbL hbN
      by_cases hl : G.l.length = 0
      · have hlb : ((G.l.length : Int) == 0) = true := by rw [hl]; rfl
        have hE : endE G = 10 := by unfold endE; rw [if_pos (.inl (List.eq_nil_of_length_eq_zero hl))]
        have HE := Lib.hid hE
        clear hl hE
        go_wp2
        go_ret2
        rw [HBE.out, HBN.out (by rw [HE.out]; decide), HE.out]
        exact ⟨_, rfl, OwnI.nil_ _ _ _ _ _ _, HFR.out⟩
      have hlb : ((G.l.length : Int) == 0) = false := by rw [beq_eq_false_iff_ne]; omega
      by_cases hop : G.opn.length = 0
      · have hob : ¬ (0 : Int) < (G.opn.length : Int) := by omega
        have hne : ¬ (G.l = [] ∨ G.opn ≠ []) := by
          rintro (h | h)
          · rw [h] at hl; exact hl rfl
          · exact h (List.eq_nil_of_length_eq_zero hop)
        have hmix : endE G = if mixF G G.l.length then 12 else 0 := by unfold endE; rw [if_neg hne]
        have hEl := endF_len G G.l 0
        have HMX := Lib.hid hmix; have HEL := Lib.hid hEl
        clear hne hmix hEl hl hop
        go_wp2
        go_loopw [7] (fun iv wx => ∃ k : Nat, iv = .int .i64 (k : Int) ∧ k ≤ G.l.length ∧ GrT wx w.heap.size w.heap.size { G with l := (endF G 0 G.l).take k ++ G.l.drop k } ∧ Fr No w wx ∧ mixF G k = false) (fun iv _ => G.l.length - (intOf iv).toNat)
        case atStart => exact ⟨0, rfl, Nat.zero_le _, ⟨_, _, _, _, _, HV.out⟩, HFR.out, rfl⟩
        case round =>
          clear e0 e1 HV
          obtain ⟨k, rfl, hk, ⟨v1, v2, v3, v4, xs, hV⟩, hfr, hmx⟩ := hrel
          have hml := mid_len G k
          obtain ⟨A1, c1, rfl, hd1⟩ := hV.len1
          have e0 : wr.cell? ⟨w.heap.size, 0, none⟩ = some (.slice A1 (((endF G 0 G.l).take k ++ G.l.drop k).length) c1) := hV.bk.cell 0
          rw [hml] at e0
          rcases Nat.lt_or_ge k G.l.length with hlt | hge
          · have hltI : (k : Int) < (G.l.length : Int) := by omega
            obtain ⟨A', c', e', hrd⟩ := hV.o1.rd' (M := fun _ => True) (fun _ _ => trivial) nod_ok (fun _ _ => trivial)
            obtain ⟨e1, -, e3⟩ := Value.slice.inj e'
            subst e1 e3
            have hkids : ∀ m, (kidsL G.l (k : Int)).length = m → Calls Tryz.prog 14 #[.slice A1 G.l.length c1, .int .i64 (k : Int)] wr fun e w' => ∃ A' c', e = .returned (.slice A' m c') ∧ Fr No wr w' := by
              intro m hm
              have h1 := r_Kids_any _ A1 _ c1 (k : Int) _ wr hrd (by show ((endF G 0 G.l).take k ++ G.l.drop k).length ≤ _; rw [hml]; omega)
              rw [show ({ G with l := (endF G 0 G.l).take k ++ G.l.drop k } : Gro).l.length = G.l.length from hml, show kidsL ({ G with l := (endF G 0 G.l).take k ++ G.l.drop k } : Gro).l (k : Int) = kidsL G.l (k : Int) from kidsL_par (mid_par G k) _] at h1
              refine h1.mono fun e w' ⟨v, e1, h1, h2⟩ => ?_
              obtain ⟨A', c', e2, _⟩ := Rd.of_own h1
              subst hm
              exact ⟨A', c', by rw [e1, e2], h2⟩
            have hEk : (endF G 0 G.l)[k]? = some (if kidsL G.l (k : Int) = [] then { G.l[k] with text := (G.txt[k]?).getD [] } else G.l[k]) := by
              rw [endF_get, List.getElem?_eq_getElem hlt]; simp
            have hmid := mid_at (endF G 0 G.l) G.l k hlt HEL.out
            have hxl : xs.length = G.l.length := by
              have h1 := congrArg List.length hV.ex
              have h2 := HOK.out.txt
              simp at h1
              omega
            have hil : G.ink.length = G.l.length := HOK.out.ink
            have hmxs : mixF G (k + 1) = (mixF G k || (!(kidsL G.l (k : Int)).isEmpty && (G.ink[k]?).getD false)) := rfl
            rw [hmx, Bool.false_or] at hmxs
            by_cases hkz : kidsL G.l (k : Int) = []
            · have HKD := Lib.hid (hkids 0 (by rw [hkz]; rfl))
              rw [if_pos hkz] at hEk
              rw [hkz] at hmxs
              obtain ⟨b3, c3, rfl, hc3, -⟩ := hV.at3 (k := k) (by omega)
              have htk : (G.txt[k]?).getD [] = xs[k].data.toList := by
                rw [← hV.ex, List.getElem?_map, List.getElem?_eq_getElem (by omega)]; rfl
              rw [htk] at hEk
              have hst := mid_step (endF G 0 G.l) G.l k hlt HEL.out _ hEk
              obtain ⟨b1, c1', X1, ev, hc1, hz1⟩ := hV.textAt (k := k) (by show k < ((endF G 0 G.l).take k ++ G.l.drop k).length; rw [hml]; exact hlt)
              obtain ⟨e1, -, e3⟩ := Value.slice.inj ev
              subst e1 e3
              have hxk : k < xs.length := by omega
              have hsT : ∀ u : World, GrV u w.heap.size w.heap.size (.slice (some ⟨b1, 0, none⟩) ((endF G 0 G.l).take k ++ G.l.drop k).length c1) v2 (.slice (some ⟨b3, 0, none⟩) xs.length c3) v4 xs { G with l := (endF G 0 G.l).take k ++ G.l.drop k } →
                  GrV (u.setCell ⟨b1, k * 4 + 2, none⟩ (.string xs[k])) w.heap.size w.heap.size (.slice (some ⟨b1, 0, none⟩) ((endF G 0 G.l).take k ++ G.l.drop k).length c1) v2 (.slice (some ⟨b3, 0, none⟩) xs.length c3) v4 xs { G with l := (endF G 0 G.l).take (k + 1) ++ G.l.drop (k + 1) } := by
                intro u hu
                have h := GrV.setT (G := { G with l := (endF G 0 G.l).take k ++ G.l.drop k }) (Y := xs[k]) (nd := G.l[k]) (k := k) hu hmid
                rw [show (({ G with l := (endF G 0 G.l).take k ++ G.l.drop k } : Gro).l.set k { G.l[k] with text := xs[k].data.toList }) = (endF G 0 G.l).take (k + 1) ++ G.l.drop (k + 1) from hst] at h
                exact h
              have hc2 : wr.cell? ⟨w.heap.size, 2, none⟩ = some (.slice (some ⟨b3, 0, none⟩) xs.length c3) := hV.bk.cell 2
              generalize xs[k] = Y at *
              have HC1 := Lib.hid hc1; have HC2 := Lib.hid hc2; have HC3 := Lib.hid hc3; have HV := Lib.hid hV; have HFR2 := Lib.hid hfr; have HSETT := Lib.hid hsT; have HMXS := Lib.hid hmxs
              clear hV hfr hst hsT hmxs hEk hmid htk hkids hkz hmx hrd e' ev hc1 hc2 hc3 hz1 e0
              have hxI : (k : Int) < (xs.length : Int) := by omega
              have hk0 : (0 : Int) ≤ (k : Int) := by omega
              have e0 : wr.cell? ⟨w.heap.size, 0, none⟩ = some (.slice (some ⟨b1, 0, none⟩) G.l.length c1) := by have h := HV.out.bk.cell 0; rw [hml] at h; exact h
              go_wp2_with (go_at_call 14; refine HKD.out.mono ?_; rintro e w2 ⟨A8, c8, rfl, f2⟩; have F2 := Lib.hid f2; clear f2)
              refine wp_region_reads 12 (by kernel_rfl) (by kernel_rfl) ?_
              intro u4 hd4
              simp only [List.take_succ_cons, List.take_zero, List.drop_succ_cons, List.drop_zero]
              have hV4 := (HV.out.no F2.out).no hd4.fr
              have d0 : u4.cell? ⟨w.heap.size, 0, none⟩ = some (.slice (some ⟨b1, 0, none⟩) G.l.length c1) := by have h := hV4.bk.cell 0; rw [hml] at h; exact h
              have d2 : u4.cell? ⟨w.heap.size, 2, none⟩ = some (.slice (some ⟨b3, 0, none⟩) xs.length c3) := hV4.bk.cell 2
              have d3 : u4.cell? ⟨b3, k, none⟩ = some (.string Y) := (F2.out.trans hd4.fr).cell HC3.out (fun x => x)
              have d1 : u4.cell? ⟨b1, k * 4 + 2, none⟩ = some (.string X1) := (F2.out.trans hd4.fr).cell HC1.out (fun x => x)
              obtain ⟨b1', c1', X1', ev, -, z1⟩ := hV4.textAt (k := k) (by show k < ((endF G 0 G.l).take k ++ G.l.drop k).length; rw [hml]; exact hlt)
              obtain ⟨e1, -, e3⟩ := Value.slice.inj ev
              injection e1 with e1
              injection e1 with e1
              subst e1 e3
              have HV4 := Lib.hid hV4
              clear hV4 ev
              repeat still_step
              refine wpStill_nil ?_
              go_wp2
              go_roundw
              case rel => exact ⟨k + 1, by go_num, by omega, ⟨_, _, _, _, _, HSETT.out _ HV4.out⟩, ((HFR2.out.trans F2.out).trans hd4.fr).setCell (p := ⟨b1, k * 4 + 2, none⟩) (.inr (HV4.out.o1.lt b1 rfl).1) _, by rw [HMXS.out]; rfl⟩
              case measure => simp [intOf]; omega
            · obtain ⟨q, hq⟩ : ∃ q, (kidsL G.l (k : Int)).length = q + 1 := by
                cases hh : kidsL G.l (k : Int) with
                | nil => exact absurd hh hkz
                | cons a r => exact ⟨r.length, rfl⟩
              have HKD := Lib.hid (hkids (q + 1) hq)
              rw [if_neg hkz] at hEk
              have hie : (kidsL G.l (k : Int)).isEmpty = false := by
                cases hh : kidsL G.l (k : Int) with
                | nil => exact absurd hh hkz
                | cons a r => rfl
              rw [hie, List.getElem?_eq_getElem (by omega), Option.getD_some] at hmxs
              obtain ⟨b4, c4, rfl, hc4, -⟩ := hV.at4 (k := k) (by show k < G.ink.length; omega)
              have hsame := mid_same (endF G 0 G.l) G.l k hlt HEL.out (by rw [hEk, List.getElem?_eq_getElem hlt])
              have hik : k < G.ink.length := by omega
              have hc4 : wr.cell? ⟨b4, k, none⟩ = some (.bool G.ink[k]) := hc4
              have e3 : wr.cell? ⟨w.heap.size, 3, none⟩ = some (.slice (some ⟨b4, 0, none⟩) G.ink.length c4) := hV.bk.cell 3
              generalize G.ink[k] = z at hc4 hmxs
              have HV := Lib.hid hV; have HFR2 := Lib.hid hfr; have HMXS := Lib.hid hmxs; have HSM := Lib.hid hsame; have HC4 := Lib.hid hc4; have E3 := Lib.hid e3
              clear hV hfr hmxs hEk hmid hkids hkz hmx hrd e' hie hq hsame hc4 e3
              have hxI : (k : Int) < (G.ink.length : Int) := by omega
              have hk0 : (0 : Int) ≤ (k : Int) := by omega
              have hq1 : ((q : Int) + 1 == 0) = false := by rw [beq_eq_false_iff_ne]; omega
              cases z
              · go_wp2_with (go_at_call 14; refine HKD.out.mono ?_; rintro e w2 ⟨A8, c8, rfl, f2⟩; have F2 := Lib.hid f2; have c3' := f2.cell E3.out (fun x => x); have c4' := f2.cell HC4.out (fun x => x))
                go_roundw
                case rel => exact ⟨k + 1, by go_num, by omega, by rw [← HSM.out]; exact ⟨_, _, _, _, _, HV.out.no F2.out⟩, HFR2.out.trans F2.out, by rw [HMXS.out]; rfl⟩
                case measure => simp [intOf]; omega
              · go_wp2_with (go_at_call 14; refine HKD.out.mono ?_; rintro e w2 ⟨A8, c8, rfl, f2⟩; have F2 := Lib.hid f2; have c3' := f2.cell E3.out (fun x => x); have c4' := f2.cell HC4.out (fun x => x))
                go_ret2
                have hE : endE G = 12 := by rw [HMX.out, if_pos (mix_le G (by rw [HMXS.out]; rfl) hlt)]
                rw [HBE.out, HBN.out (by rw [hE]; decide), hE]
                exact ⟨_, rfl, OwnI.nil_ _ _ _ _ _ _, HFR2.out.trans F2.out⟩
          · obtain rfl : k = G.l.length := by omega
            have hE : endE G = 0 := by rw [HMX.out, hmx]; rfl
            have hfin : (endF G 0 G.l).take G.l.length ++ G.l.drop G.l.length = endF G 0 G.l := by
              rw [List.drop_length, List.append_nil, List.take_of_length_le (by rw [HEL.out]; exact Nat.le_refl _)]
            have HV := Lib.hid hV; have HFR2 := Lib.hid hfr; have HE := Lib.hid hE; have HFIN := Lib.hid hfin
            clear hV hfr hE hfin hmx hml
            go_wp2
            go_ret2
            rw [HBE.out, HBL.out HE.out, HE.out]
            have ho := HV.out.o1
            have hL : (endF G 0 G.l).length = G.l.length := HEL.out
            refine ⟨_, rfl, ?_, HFR2.out⟩
            rw [show ({ G with l := (endF G 0 G.l).take G.l.length ++ G.l.drop G.l.length } : Gro).l = endF G 0 G.l from HFIN.out, hL] at ho
            have ho2 := ho.mono nod_ok (M := fun i => w.heap.size ≤ i ∧ i < wr.heap.size) (fun i hi => ⟨hi.1, hi.2.1⟩)
            rw [show ((endF G 0 G.l).take G.l.length ++ G.l.drop G.l.length).length = G.l.length from mid_len G _] at ho2
            rw [hL]
            exact ho2
      · have hob : (0 : Int) < (G.opn.length : Int) := by omega
        have hE : endE G = 10 := by unfold endE; rw [if_pos (.inr (fun h => hop (by rw [h]; rfl)))]
        have HE := Lib.hid hE
        clear hl hE hop
        go_wp2
        go_ret2
        rw [HBE.out, HBN.out (by rw [HE.out]; decide), HE.out]
        exact ⟨_, rfl, OwnI.nil_ _ _ _ _ _ _, HFR.out⟩
end Go.Proofs.YthkjmbkfcnehoaaGreatDoor
