/- What package tree does: contracts of its calls. -/
import Derived.Test.YthkjmbkfcnehoaaGreatDoorTreeB
import Derived.Test.YthkjmbkfcnehoaaGreatDoorTokProg
import Derived.Test.YthkjmbkfcnehoaaGreatDoorHn
import Derived.Test.YthkjmbkfcnehoaaGreatDoorTreeMath3
namespace Go.Proofs.YthkjmbkfcnehoaaGreatDoor
open Go.RowKit
set_option maxHeartbeats 400000
set_option linter.unusedVariables false

/-- nodes that come back, or none, and why -/
def NodesTo (L : List Nod) (E : Int) (w : World) (e : Ending) (w' : World) : Prop := ∃ v, e = .returned (.tuple #[v, .int .i64 E]) ∧
  OwnI 4 NodI w' w.heap.size 32 (fun i => w.heap.size ≤ i ∧ i < w'.heap.size) v L.length L ∧ Fr No w w'
theorem bd_start (w : World) (h : World) (hh : w.alloc (.cells #[.slice none 0 0, .slice none 0 0] 43) = h) : BdT h w.heap.size w.heap.size p0 := by
  subst hh
  refine ⟨fun _ => 1, .slice none 0 0, .slice none 0 0, [], ?_⟩
  exact ⟨Bk.new w _ _, Nat.le_refl _, rfl, OwnI.nil_ _ _ _ _ _ _, (fun i e => by cases e), World.ownsRow_nil _ _ _ _, (fun i e => by cases e), rfl, (fun k h => by simp at h), (fun k h => by simp at h)⟩
structure StOk (p : Pst) (B : Nat) : Prop where
  fil : FilOk p
  par : ParOk p
  ok : Okg (toG p)
  txt : ∀ e ∈ p.E, e.txt.length ≤ B
  nil : ∀ e ∈ p.E, e.nod.text = []
theorem st0 : StOk p0 0 := ⟨fil_p0, par_p0, ok0, (fun e h => by simp [p0] at h), (fun e h => by simp [p0] at h)⟩
theorem st_step {p : Pst} {t : Tok} {B : Nat} (h : StOk p B) (he : takeE (toG p) t = 0) : StOk (stepP p t) (B + t.text.length) :=
  ⟨fil_step h.fil h.par, par_step h.par, by rw [toG_step p t he]; exact ok_take h.ok he, txt_step h.txt, nil_step h.nil⟩
theorem st_len {p : Pst} {B : Nat} (h : StOk p B) : p.E.length ≤ 500 ∧ p.opn.length ≤ 32 := by
  have h1 := h.ok.top
  have h2 := h.ok.deep
  have e : (toG p).l.length = p.E.length := by simp [toG]
  exact ⟨by omega, h2⟩
set_option maxRecDepth 20000 in
theorem build_any (ts : List Tok) (A : Option Addr) (n c : Nat) (w : World) (hts : RdI 5 TokI w (fun i => i < w.heap.size) A n c ts) (hn : n ≤ 100000000) (hsum : sumT ts ≤ 500000000) (hat : ∀ t ∈ ts, t.attrs.length ≤ 1000000) :
    Calls Tryz.prog 6 #[.slice A n c] w (NodesTo (buildL ts) (buildE ts) w) := by
  have hlen := hts.len tok_ok (by omega)
  have HTS := Lib.hid hts; have HAT := Lib.hid hat; have HSUM := Lib.hid hsum
  clear hts hat hsum
  go_enter Tryz.func6, Tryz.ntmps6
  go_wp2
  go_name_world w1 hw1
  have hb0 := bd_start w w1 hw1
  have hf1 : Fr No w w1 := by rw [← hw1]; exact (Fr.refl No w).alloc _
  have HB0 := Lib.hid hb0
  clear hb0 hw1
  go_loopw [11] (fun iv wr => ∃ (k : Nat) (p : Pst) (B : Nat), iv = .int .i64 (k : Int) ∧ k ≤ n ∧ BdT wr w.heap.size w.heap.size p ∧ Fr No w wr ∧ StOk p B ∧ B = sumT (ts.take k) ∧ runE g0 ts = runE (toG p) (ts.drop k) ∧ runS g0 ts = runS (toG p) (ts.drop k)) (fun iv _ => n - (intOf iv).toNat)
  case atStart => exact ⟨0, p0, 0, rfl, Nat.zero_le _, HB0.out, hf1, st0, rfl, rfl, rfl⟩
  case round =>
    obtain ⟨k, p, B, rfl, hk, hB, hfr, hst, hBs, hre, hrs⟩ := hrel
    rcases Nat.lt_or_ge k n with hlt | hge
    · have hltI : (k : Int) < (n : Int) := by omega
      have hkl : k < ts.length := by omega
      obtain ⟨ad, cs, rfl, ⟨X, Y, A1, n1, c1, rfl, hX, hY, hA1⟩, hc⟩ := (HTS.out.no tok_ok hfr).at_ tok_ok (by omega) (i := k) hkl
      have x0 := hc 0 _ rfl
      have x1 := hc 1 _ rfl
      have x2 := hc 2 _ rfl
      have x3 := hc 3 _ rfl
      have x4 := hc 4 _ rfl
      rw [add_next ad] at x1 x2 x3 x4
      obtain ⟨P, hP⟩ : ∃ P, ad.add (k * 5) = P := ⟨_, rfl⟩
      rw [Nat.add_zero, hP] at x0
      rw [hP] at x1 x2 x3 x4
      have hdrop : ts.drop k = ts[k] :: ts.drop (k + 1) := List.drop_eq_getElem_cons hkl
      have htake : ts.take (k + 1) = ts.take k ++ [ts[k]] := List.take_succ_eq_append_getElem hkl
      have hsum1 : sumT (ts.take (k + 1)) = B + ts[k].text.length := by rw [htake, sumT_app, sumT_one, hBs]
      have hsum2 : B + ts[k].text.length ≤ 500000000 := by rw [← hsum1]; exact Nat.le_trans (sumT_take _ _) HSUM.out
      have han := hA1.len attr_ok (by omega)
      have hat1 := HAT.out _ (List.getElem_mem hkl)
      rw [hdrop] at hre hrs
      generalize ts[k] = t at *
      have hYs : Y.size = t.text.length := by rw [← size_list, hY]
      obtain ⟨hl5, hl3⟩ := st_len hst
      have hss : ∀ e ∈ p.E, e.txt.length + Y.size ≤ 1000000000 := fun e he => by have := hst.txt e he; omega
      have hsz := hfr.size
      have HB := Lib.hid hB; have HFR := Lib.hid hfr; have HST := Lib.hid hst; have HRE := Lib.hid hre; have HRS := Lib.hid hrs; have HSM := Lib.hid hsum1; have HA1 := Lib.hid hA1
      have hbuild : takeE (toG p) t ≠ 0 → buildE ts = takeE (toG p) t ∧ buildL ts = [] := by
        intro h
        have e1 : runE g0 ts = takeE (toG p) t := by rw [hre, runE, if_neg h]
        have e2 : buildE ts = takeE (toG p) t := by unfold buildE; rw [e1, if_neg h]
        exact ⟨e2, by unfold buildL; rw [e2, if_neg h]⟩
      have hnext : takeE (toG p) t = 0 → runE g0 ts = runE (toG (stepP p t)) (ts.drop (k + 1)) ∧ runS g0 ts = runS (toG (stepP p t)) (ts.drop (k + 1)) := by
        intro h
        rw [toG_step p t h]
        exact ⟨by rw [hre, runE, if_pos h], by rw [hrs, runS]⟩
      have HBU := Lib.hid hbuild; have HNX := Lib.hid hnext
      by_cases hk123 : t.kind = 1 ∨ t.kind = 2 ∨ t.kind = 3
      · have hnx := fun u => b_next (base := w.heap.size) (g := w.heap.size) p t X Y A1 n1 c1 hst.par hk123 hX hY (by omega) hl5 hl3 hss (by omega) u
        have HN := Lib.hid hnx
        clear hB hfr hst hre hrs hsum1 hA1 hbuild hnext hnx hk123 hss hX hY hc hdrop htake hBs
        by_cases hE : takeE (toG p) t = 0
        · have hst2 := st_step HST.out hE
          have hn2 := HNX.out hE
          have hev : (takeE (toG p) t != 0) = false := by rw [hE]; rfl
          have HST2 := Lib.hid hst2; have HN2 := Lib.hid hn2
          clear hst2 hn2
          go_wp2_with (first
            | (go_at_call 17; refine (HN.out _).mono ?_; rintro e w2 ⟨⟨f, rfl, hen, hct⟩, rfl⟩; have HCT := Lib.hid hct; clear hct; have hBa := HB.out.no ((Fr.refl No wr).alloc (.cells #[.int .i64 t.kind, .string X, .string Y, .slice A1 n1 c1, .bool t.empty] 45)); have hAa := HA1.out.no attr_ok ((Fr.refl No wr).alloc (.cells #[.int .i64 t.kind, .string X, .string Y, .slice A1 n1 c1, .bool t.empty] 45)))
            | ((with_reducible refine (HCT.out _ hBa hAa).mono ?_); rintro e w3 ⟨rfl, hf3, hB3⟩))
          have hz3 := hf3.size
          go_roundw
          case rel => exact ⟨k + 1, stepP p t, _, by go_num, hlt, hB3 hE, HFR.out.trans_new (((Fr.refl No wr).alloc (.cells #[.int .i64 t.kind, .string X, .string Y, .slice A1 n1 c1, .bool t.empty] 45)).no.trans hf3) (fun i hi => .inr hi), HST2.out, HSM.out.symm, HN2.out.1, HN2.out.2⟩
          case measure => simp [intOf]; omega
        · obtain ⟨hb1, hb2⟩ := HBU.out hE
          have hev : (takeE (toG p) t != 0) = true := by rw [bne_iff_ne]; exact hE
          rw [hb1, hb2]
          clear hb1 hb2
          go_wp2_with (first
            | (go_at_call 17; refine (HN.out _).mono ?_; rintro e w2 ⟨⟨f, rfl, hen, hct⟩, rfl⟩; have HCT := Lib.hid hct; clear hct; have hBa := HB.out.no ((Fr.refl No wr).alloc (.cells #[.int .i64 t.kind, .string X, .string Y, .slice A1 n1 c1, .bool t.empty] 45)); have hAa := HA1.out.no attr_ok ((Fr.refl No wr).alloc (.cells #[.int .i64 t.kind, .string X, .string Y, .slice A1 n1 c1, .bool t.empty] 45)))
            | ((with_reducible refine (HCT.out _ hBa hAa).mono ?_); rintro e w3 ⟨rfl, hf3, hB3⟩))
          go_ret2
          exact ⟨_, rfl, OwnI.nil_ _ _ _ _ _ _, HFR.out.trans_new (((Fr.refl No wr).alloc (.cells #[.int .i64 t.kind, .string X, .string Y, .slice A1 n1 c1, .bool t.empty] 45)).no.trans hf3) (fun i hi => .inr hi)⟩
      · have hE : takeE (toG p) t = 9 := by unfold takeE; rw [if_neg (fun h => hk123 (.inl h)), if_neg (fun h => hk123 (.inr (.inl h))), if_neg (fun h => hk123 (.inr (.inr h)))]
        obtain ⟨hb1, hb2⟩ := hbuild (by rw [hE]; decide)
        rw [hb1, hb2, hE]
        have hnx := fun u => b_next_no (g := w.heap.size) t (fun h => hk123 (.inl h)) (fun h => hk123 (.inr (.inl h))) (fun h => hk123 (.inr (.inr h))) u
        have hsg := fun u => b_strange (.bool true) u t.kind X Y A1 n1 c1 t.empty
        have HN := Lib.hid hnx; have HSG := Lib.hid hsg
        clear hB hfr hst hre hrs hsum1 hA1 hbuild hnext hnx hk123 hss hX hY hc hdrop htake hBs hb1 hb2 hsg hE
        go_wp2_with (first
          | (go_at_call 17; refine (HN.out _).mono ?_; rintro e w2 ⟨rfl, rfl⟩)
          | (go_at_call 31; refine (HSG.out _).mono ?_; rintro e w3 ⟨rfl, hf3⟩))
        go_ret2
        exact ⟨_, rfl, OwnI.nil_ _ _ _ _ _ _, HFR.out.trans (((Fr.refl No wr).alloc _).trans hf3)⟩
    · have hke : k = n := by omega
      subst hke
      rw [List.drop_of_length_le (by omega)] at hre hrs
      have hre : runE g0 ts = 0 := hre
      have hrs : runS g0 ts = toG p := hrs
      obtain ⟨ρ, v1, v2, T, hBv⟩ := hB
      have hE : buildE ts = endE (toG p) := by unfold buildE; rw [if_pos hre, hrs]
      have hL : buildL ts = if endE (toG p) = 0 then p.E.map outN else [] := by
        unfold buildL
        rw [hE, hrs, end_out hst.fil]
      have hsl : B ≤ 500000000 := by rw [hBs]; exact Nat.le_trans (sumT_take _ _) HSUM.out
      have hwh := b_whole p hst.fil hBv (st_len hst).1 (fun e he => by have := hst.txt e he; omega) hst.nil
      have HE := Lib.hid hE; have HL := Lib.hid hL
      have HWH := Lib.hid hwh; have HFR := Lib.hid hfr
      clear hwh hE hL hre hrs hBv hst hfr hBs hsl
      go_wp2_with (go_at_call 18; refine HWH.out.mono ?_; rintro e w2 ⟨v, rfl, ho2, hf2⟩)
      go_ret2
      exact ⟨v, by rw [HE.out]; rfl, by rw [HL.out]; exact ho2, HFR.out.trans hf2⟩

theorem toks_rd' {w : World} {base n : Nat} {e : TypeId} {v : Value} {l : List Tok} (h : OwnI 5 TokI w base e (fun i => base ≤ i ∧ i < w.heap.size) v n l) : ∃ A c, v = .slice A n c ∧ RdI 5 TokI w (fun i => base ≤ i ∧ i < w.heap.size) A n c l :=
  h.rd (fun i h1 h2 => ⟨h1, h2⟩)
theorem nodes_rd {w : World} {base n : Nat} {e : TypeId} {v : Value} {l : List Nod} (h : OwnI 4 NodI w base e (fun i => base ≤ i ∧ i < w.heap.size) v n l) : ∃ A c, v = .slice A n c ∧ RdI 4 NodI w (fun i => base ≤ i ∧ i < w.heap.size) A n c l :=
  h.rd (fun i h1 h2 => ⟨h1, h2⟩)
theorem parse_any (S : ByteArray) (w : World) (hs : S.size ≤ 65536) (hT : Tabs w := by repeat' first | with_reducible assumption | with_reducible apply Tabs.drew | with_reducible apply Tabs.drewN | with_reducible apply Tabs.alloc | refine Tabs.fr ?_ (by with_reducible assumption) | refine Tabs.dr ?_ (by with_reducible assumption)) :
    Calls Tryz.prog 8 #[.string S] w (NodesTo (parseL S.data.toList) (parseE S.data.toList) w) := by
  have htk := tokens_any S w hs hT
  obtain ⟨h1, h2, h3⟩ := tokL_small S.data.toList (by rw [size_list]; exact hs)
  have hE : parseE S.data.toList = if tokE S.data.toList = 0 then buildE (tokL S.data.toList) else tokE S.data.toList := rfl
  have hL : parseL S.data.toList = if tokE S.data.toList = 0 then buildL (tokL S.data.toList) else [] := rfl
  rw [hE, hL]
  generalize tokE S.data.toList = E at *
  generalize tokL S.data.toList = L at *
  have HT := Lib.hid htk; have H3 := Lib.hid h3; have H1 := Lib.hid h1
  clear htk h3 hE hL h1
  by_cases he : E = 0
  · have hev : (E != 0) = false := by rw [he]; rfl
    have hbu := fun u A c (hr : RdI 5 TokI u (fun i => i < u.heap.size) A L.length c L) => build_any L A L.length c u hr (by omega) (Nat.le_trans H1.out (by omega)) (fun t ht => Nat.le_trans (H3.out t ht) (by omega))
    have HBU := Lib.hid hbu
    rw [if_pos he, if_pos he]
    clear hbu
    go_enter Tryz.func8, Tryz.ntmps8
    go_wp2_with (first
      | (go_at_call 20; refine HT.out.mono ?_; rintro e w1 ⟨v, rfl, ho1, hf1⟩; obtain ⟨A1, c1, rfl, hr1⟩ := toks_rd' ho1; have hr2 := hr1.mono tok_ok (M := fun i => i < w1.heap.size) (fun i hi => hi.2))
      | (go_at_call 6; refine (HBU.out _ _ _ hr2).mono ?_; rintro e w2 ⟨v2, rfl, ho2, hf2⟩))
    go_ret2
    have hz := hf1.size
    exact ⟨v2, rfl, (ho2.low nod_ok hz).mono nod_ok (fun i hi => ⟨Nat.le_trans hz hi.1, hi.2⟩), hf1.trans hf2⟩
  · have hev : (E != 0) = true := by rw [bne_iff_ne]; exact he
    rw [if_neg he, if_neg he]
    go_enter Tryz.func8, Tryz.ntmps8
    go_wp2_with (go_at_call 20; refine HT.out.mono ?_; rintro e w1 ⟨v, rfl, ho1, hf1⟩; obtain ⟨A1, c1, rfl, hr1⟩ := toks_rd' ho1)
    go_ret2
    exact ⟨_, rfl, OwnI.nil_ _ _ _ _ _ _, hf1⟩

end Go.Proofs.YthkjmbkfcnehoaaGreatDoor
