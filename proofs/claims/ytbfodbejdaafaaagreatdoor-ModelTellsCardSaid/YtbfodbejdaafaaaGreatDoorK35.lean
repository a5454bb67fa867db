/- The texts ModFill, joined. -/
import Derived.Test.YtbfodbejdaafaaaGreatDoorK34
import Derived.Deep.RegionHeld3
/- Package model: places filled into a model: a contract. -/
namespace Go.Proofs.YtbfodbejdaafaaaGreatDoor
open Go.RowKit
set_option maxHeartbeats 1000000
set_option linter.unusedVariables false

/-- what is laid so far: the first t places have their child, what is no place is as it was -/
structure Laid6 (ns : List Nod) (i : Nat) (cs : List Chd) (a a' : List Chd) (t : Nat) : Prop where
  good : ∀ j (hj : j < (kidsL ns (i : Int)).length), j < t → a'[(kidsL ns (i : Int))[j]]? = some (childL cs (nameAt ns ((kidsL ns (i : Int))[j] : Int)))
  rest : ∀ k, k ∉ kidsL ns (i : Int) → a'[k]? = a[k]?
theorem Laid6.zero (ns : List Nod) (i : Nat) (cs a : List Chd) : Laid6 ns i cs a a 0 := ⟨fun _ _ h => by omega, fun _ _ => rfl⟩
theorem Laid6.set {ns : List Nod} {i t p : Nat} {cs a a' : List Chd} {d : Chd} (h : Laid6 ns i cs a a' t) (ht : t < (kidsL ns (i : Int)).length) (hp : (kidsL ns (i : Int))[t] = p) (hpa : p < a'.length) (hd : d = childL cs (nameAt ns (p : Int))) : Laid6 ns i cs a (a'.set p d) (t + 1) where
  good := by
    intro j hj hjt
    by_cases e : (kidsL ns (i : Int))[j] = p
    · rw [e, List.getElem?_set_self hpa, hd]
    · rw [List.getElem?_set_ne (fun x => e x.symm)]
      refine h.good j hj ?_
      rcases Nat.lt_or_ge j t with h1 | h1
      · exact h1
      · exact absurd (by rw [← hp]; congr 1; omega) e
  rest := by
    intro k hk
    rw [List.getElem?_set_ne ?_]
    · exact h.rest k hk
    · intro e
      exact hk (by rw [← e, ← hp]; exact List.getElem_mem ht)
theorem Laid6.all {ns : List Nod} {i t : Nat} {cs a a' : List Chd} (h : Laid6 ns i cs a a' t) (ht : (kidsL ns (i : Int)).length ≤ t) : ∀ k ∈ kidsL ns (i : Int), a'[k]? = some (childL cs (nameAt ns (k : Int))) := by
  intro k hk
  obtain ⟨j, hj, rfl⟩ := List.getElem_of_mem hk
  exact h.good j hj (by omega)
variable {w w' : World} {g G : Nat} {A : Option Addr} {n c : Nat} {N : Nat → Prop} {ns : List Nod} {a : List Chd}
theorem FileT.put {p : Nat} (h : FileT w g G A n c N ns a) (hp : p < n) (d : Chd) : FileT (w.setCells G (p * 6) d.cells) g G A n c N ns (a.set p d) where
  bk := h.bk.fr (Fr.setCells d.cells (p * 6) (Fr.refl (Just G) w) (.inl (Just.at G))) h.ne
  as_ := by
    have := Bk.setCells d.cells (p * 6) h.as_
    rwa [cells_set a p d (by rw [h.len]; exact hp)] at this
  len := by rw [List.length_set, h.len]
  rd := h.rd.fr nod_ok (Fr.setCells d.cells (p * 6) (Fr.refl (Just G) w) (.inl (Just.at G))) (fun i hi e => (h.hN i hi).2 e)
  ne := h.ne
  hN := h.hN
theorem pl_cut {PA : Option Addr} {r pc t j : Nat} {xs : List Value} (h : Rd w PA r pc (xs.drop t)) (hG : ∀ ad, PA = some ad → ad.block ≠ G) (hj : j ≤ r) :
    Rd w (if pc = j then PA else PA.map (·.add j)) (r - j) (pc - j) (xs.drop (t + j)) ∧ ∀ ad, (if pc = j then PA else PA.map (·.add j)) = some ad → ad.block ≠ G := by
  have h1 := h.cut hj (Nat.le_refl r)
  have hl := h.len
  rw [List.take_of_length_le (by omega), List.drop_drop] at h1
  refine ⟨h1, fun ad e => ?_⟩
  split at e
  · exact hG ad e
  · cases PA with
    | none => cases e
    | some a0 =>
      injection e with e
      rw [← e, blk_add]
      exact hG a0 rfl
def FillEnd (g G : Nat) (A : Option Addr) (n c : Nat) (N : Nat → Prop) (ns : List Nod) (a : List Chd) (i : Nat) (cs : List Chd) (w : World) (e : Ending) (w' : World) : Prop :=
  ∃ a', e = .returned (.bool (fillB cs (namesK ns i))) ∧ FileT w' g G A n c N ns a' ∧ Fr (Just G) w w' ∧ (∀ k, k ∉ kidsL ns (i : Int) → a'[k]? = a[k]?) ∧ (fillB cs (namesK ns i) = true → ∀ k ∈ kidsL ns (i : Int), a'[k]? = some (childL cs (nameAt ns (k : Int))))
set_option maxRecDepth 20000 in
theorem m_fill (i : Nat) (cs : List Chd) (h : FileT w g G A n c N ns a) (hi : i < n) (hn : n ≤ 1000000) {B : Option Addr} {m d : Nat} {M : Nat → Prop} (hC : RdI 6 ChdI w M B m d cs) (hM : ∀ k, M k → k ≠ G) (hm : m ≤ 1000) (hs : SmallC cs) (hown : ownB cs = true)
    {K : Option Addr} {q ck : Nat} (hq : (kidsL ns (i : Int)).length = q) (hK : Rd w K q ck (ints (natI (kidsL ns (i : Int))))) (hKG : ∀ ad, K = some ad → ad.block ≠ G) :
    Calls Tryz.prog 68 #[.pointer (some ⟨g, 0, none⟩), .slice B m d, .slice K q ck] w (FillEnd g G A n c N ns a i cs w) := by
  have hlen := h.rd.len nod_ok (by omega)
  have hclen := hC.len chd_ok (by omega)
  have hGw : G < w.heap.size := h.as_.lt
  have hle := kidsL_le ns (i : Int)
  have H := Lib.hid h; have HC := Lib.hid hC; have HK := Lib.hid hK; have HKG := Lib.hid hKG; have HS := Lib.hid hs; have HOWN := Lib.hid hown; have HM := Lib.hid hM; have HQ := Lib.hid hq
  clear h hC hK hKG hs hown hM
  go_enter Tryz.func68, Tryz.ntmps68
  go_wp2
  go_loopw [2, 12] (fun pv kv wr => ∃ (t k r : Nat) (PA : Option Addr) (pc : Nat) (a' : List Chd), pv = .slice PA r pc ∧ kv = .int .i64 (k : Int) ∧ t + r = q ∧ k ≤ m ∧ Rd wr PA r pc ((ints (natI (kidsL ns (i : Int)))).drop t) ∧ (∀ ad, PA = some ad → ad.block ≠ G) ∧ FileT wr g G A n c N ns a' ∧ Fr (Just G) w wr ∧ Laid6 ns i cs a a' t ∧ fillB cs (namesK ns i) = fillB (cs.drop k) ((namesK ns i).drop t)) (fun _ kv _ => m - (intOf kv).toNat)
  case atStart => exact ⟨0, 0, q, K, ck, a, rfl, rfl, by omega, Nat.zero_le _, HK.out, HKG.out, H.out, Fr.refl _ _, Laid6.zero _ _ _ _, rfl⟩
  case round =>
    obtain ⟨t, k, r, PA, pc, a', rfl, rfl, htr, hk, hpl, hpg, hft, hfr, hld, hfill⟩ := hrel
    have HTR := Lib.hid htr; have HPL := Lib.hid hpl; have HPG := Lib.hid hpg; have HFT := Lib.hid hft; have HFR := Lib.hid hfr; have HLD := Lib.hid hld; have HFI := Lib.hid hfill
    have hr6 : r ≤ 1000000 := by omega
    clear htr hpl hpg hft hfr hld hfill
    rcases Nat.lt_or_ge k m with hlt | hge
    · have hltI : (k : Int) < (m : Int) := by omega
      have hkl : k < cs.length := by omega
      obtain ⟨adc, rfl, P, hP, x0, x1, x2, x3, x4, x5, -⟩ := chd_cells (HC.out.fr chd_ok HFR.out (fun k hk e => HM.out k hk e)) hkl
      obtain ⟨cm0, cm1, cm2, cm3⟩ := HS.out _ (List.getElem_mem hkl)
      have hch := own_child HOWN.out hkl
      obtain ⟨D, hD⟩ : ∃ D, cs[k] = D := ⟨_, rfl⟩
      have hdk := hD
      rw [hD] at x0 x1 x2 x3 x4 x5
      have HBC := Lib.hid (Bk.new wr 32 #[.string D.nm, .int .i64 D.mn, .int .i64 D.mx, .int .i64 D.ty, .int .i64 D.low, .int .i64 D.top])
      have HFA := Lib.hid ((Fr.refl No wr).alloc (.cells #[.string D.nm, .int .i64 D.mn, .int .i64 D.mx, .int .i64 D.ty, .int .i64 D.low, .int .i64 D.top] 32))
      have HD := Lib.hid hD; have HCHD := Lib.hid hch
      clear hD hdk hch
      go_wp2
      generalize hW : wr.alloc (.cells #[.string D.nm, .int .i64 D.mn, .int .i64 D.mx, .int .i64 D.ty, .int .i64 D.low, .int .i64 D.top] 32) = W at *
      clear hW x0 x1 x2 x3 x4 x5
      have hgcs : wr.heap.size ≠ G := by have := HFT.out.as_.lt; omega
      generalize hgc : wr.heap.size = gc at *
      rw [HD.out] at cm0 cm1 cm2 cm3
      go_loopw [9] (fun jv wi => ∃ (j : Nat) (a'' : List Chd), jv = .int .i64 (j : Int) ∧ j ≤ r ∧ FileT wi g G A n c N ns a'' ∧ Fr (Just G) W wi ∧ Laid6 ns i cs a a'' (t + j) ∧ ∀ u, u < j → (namesK ns i)[t + u]? = some cs[k].name) (fun jv _ => r - (intOf jv).toNat)
      case atStart => exact ⟨0, a', rfl, Nat.zero_le _, HFT.out.no HFA.out, Fr.refl _ _, HLD.out, fun _ h => by omega⟩
      case round =>
        obtain ⟨j, a'', rfl, hj, hft2, hfi, hld2, hpre⟩ := hrel
        have hbc := HBC.out.fr hfi hgcs
        have hpl := (HPL.out.no HFA.out).fr hfi (fun ad e => HPG.out ad e)
        have hk0 : wr.cell? ⟨g, 0, none⟩ = some (.slice A n c) := hft2.c0
        have hk1 : wr.cell? ⟨g, 1, none⟩ = some (.slice (some ⟨G, 0, none⟩) n n) := hft2.c1
        have x0 : wr.cell? ⟨gc, 0, none⟩ = some (.string D.nm) := hbc.cell 0
        have x1 : wr.cell? ⟨gc, 1, none⟩ = some (.int .i64 D.mn) := hbc.cell 1
        have x2 : wr.cell? ⟨gc, 2, none⟩ = some (.int .i64 D.mx) := hbc.cell 2
        have x3 : wr.cell? ⟨gc, 3, none⟩ = some (.int .i64 D.ty) := hbc.cell 3
        have x4 : wr.cell? ⟨gc, 4, none⟩ = some (.int .i64 D.low) := hbc.cell 4
        have x5 : wr.cell? ⟨gc, 5, none⟩ = some (.int .i64 D.top) := hbc.cell 5
        have HFT2 := Lib.hid hft2; have HFI2 := Lib.hid hfi; have HLD2 := Lib.hid hld2; have HP := Lib.hid hpre; have HB2 := Lib.hid hbc; have HPL2 := Lib.hid hpl
        clear hft2 hfi hld2 hpre hbc hpl
        rcases Nat.lt_or_ge j r with hlj | hgj
        · have hjI : (j : Int) < (r : Int) := by omega
          have htj : t + j < (kidsL ns (i : Int)).length := by rw [HQ.out, ← HTR.out]; omega
          obtain ⟨p, hp, hpk, hcell, hname, hpar⟩ := kid_at (ns := ns) (i := i) (by omega) htj
          obtain ⟨adk, uk, rfl, huk, hck⟩ := HPL2.out.at_ hlj
          rw [List.getElem?_drop, hcell] at huk
          injection huk with huk
          subst huk
          have hpI : (p : Int) < (n : Int) := by omega
          obtain ⟨ad, rfl, PN, X, Y, A1, n1, c1, hPN, z0, z1, z2, z3, hX, hY, hA1⟩ := nod_cells HFT2.out.rd hp
          have hadk : adk.block ≠ G := HPG.out adk rfl
          have HX := Lib.hid hX; have HNM := Lib.hid hname; have HPK := Lib.hid hpk
          clear hX hY hA1 hname hcell hpar hpk z0 z2 z3
          cases hz : (X.toList == D.nm.toList) with
          | true =>
            have hnm : cs[k].name = ns[p].name := by
              rw [beq_iff_eq, s_list, s_list] at hz
              rw [← HX.out, hz, HD.out]
              rfl
            have HN := Lib.hid hnm
            clear hnm
            go_wp2
            go_quiet (fail)
            go_wp2
            obtain ⟨w5, hw5⟩ : ∃ w5, wr.drewN nq = w5 := ⟨_, rfl⟩
            have D5 : Dr wr w5 := by rw [← hw5]; exact (Dr.refl wr).drewN nq
            rw [hw5]
            clear hw5
            refine wp_region_reads 10 (by kernel_rfl) (by kernel_rfl) ?_
            intro w6 hd6
            simp only [List.take_succ_cons, List.take_zero, List.drop_succ_cons, List.drop_zero]
            have F6 := Lib.hid ((D5.trans hd6).fr (S := No))
            have HFT6 := Lib.hid (HFT2.out.no F6.out)
            have hpa : p < a''.length := by rw [HFT2.out.len]; omega
            obtain ⟨s0, s1, s2, s3, s4, s5⟩ := cells_reg HFT6.out.as_ hpa
            have v0 := HFT6.out.as_.frozen (p * 6); have v1 := HFT6.out.as_.frozen (p * 6 + 1); have v2 := HFT6.out.as_.frozen (p * 6 + 2); have v3 := HFT6.out.as_.frozen (p * 6 + 3); have v4 := HFT6.out.as_.frozen (p * 6 + 4); have v5 := HFT6.out.as_.frozen (p * 6 + 5)
            have hG6 : (⟨G, 0, none⟩ : Addr).add (p * 6) = ⟨G, p * 6, none⟩ := add_at G (p * 6)
            have t1 := F6.out.cell hk1 (fun x => x); have tck := F6.out.cell hck (fun x => x)
            have t0 := F6.out.cell x0 (fun x => x); have ta := F6.out.cell x1 (fun x => x); have t2 := F6.out.cell x2 (fun x => x); have t3 := F6.out.cell x3 (fun x => x); have t4 := F6.out.cell x4 (fun x => x); have t5 := F6.out.cell x5 (fun x => x)
            clear x0 x1 x2 x3 x4 x5 hk0 hk1 hck z1 hz D5 hd6 hgc hq hP hPN
            repeat still_step
            refine wpStill_nil ?_
            go_wp2
            have hd : D = childL cs (nameAt ns (p : Int)) := by rw [name_at hp, ← HN.out, HCHD.out, HD.out]
            exact ⟨⟨j + 1, a''.set p D, by go_num, by omega, HFT6.out.put (by omega) D, Fr.setCells D.cells (p * 6) (HFI2.out.trans F6.out.no) (.inl (Just.at G)), HLD2.out.set htj HPK.out hpa hd, fun u hu => by
              rcases Nat.lt_or_ge u j with h1 | h1
              · exact HP.out u h1
              · rw [show u = j from by omega, HN.out]; exact HNM.out⟩, by simp [intOf]; omega⟩
          | false =>
            have hnm : (namesK ns i)[t + j]? ≠ some cs[k].name := by
              rw [beq_eq_false_iff_ne, s_list, s_list] at hz
              rw [HNM.out, ← HX.out, HD.out]
              intro e
              injection e with e
              exact hz e
            have HN := Lib.hid hnm
            clear hnm
            go_wp2
            go_quiet (fail)
            have hrun := run_at HP.out HN.out
            have HRUN := Lib.hid hrun
            have FW := Lib.hid ((HFR.out.trans HFA.out.no).trans HFI2.out)
            clear hrun
            by_cases b1 : (j : Int) < D.mn
            · have hno := fill_no HFI.out hkl HRUN.out (by rw [HD.out]; omega)
              have HNO := Lib.hid hno
              clear hno
              go_wp2
              go_ret
              exact ⟨a'', ret_bool HNO.out.symm, HFT2.out.no ((Dr.refl wr).drewN nq).fr, FW.out.drewN nq, HLD2.out.rest, fun e => by rw [HNO.out] at e; cases e⟩
            · by_cases b2 : (j : Int) > D.mx
              · have hno := fill_no HFI.out hkl HRUN.out (by rw [HD.out]; omega)
                have HNO := Lib.hid hno
                clear hno
                go_wp2
                go_ret
                exact ⟨a'', ret_bool HNO.out.symm, HFT2.out.no ((Dr.refl wr).drewN nq).fr, FW.out.drewN nq, HLD2.out.rest, fun e => by rw [HNO.out] at e; cases e⟩
              · have hnx := fill_next HFI.out hkl HRUN.out (by rw [HD.out]; omega) (by rw [HD.out]; omega)
                have HNX := Lib.hid hnx
                clear hnx
                obtain ⟨p1, p2⟩ := pl_cut (HPL2.out.dr ((Dr.refl wr).drewN nq)) HPG.out hj
                have P1 := Lib.hid p1; have P2 := Lib.hid p2
                clear p1 p2
                go_wp2
                exact ⟨⟨t + j, k + 1, r - j, _, pc - j, a'', rfl, by go_num, by have := HTR.out; omega, hlt, P1.out, P2.out, HFT2.out.no ((Dr.refl wr).drewN nq).fr, FW.out.drewN nq, HLD2.out, HNX.out⟩, by simp [intOf]; omega⟩
        · have hbq : j = r := by omega
          subst hbq
          have hnm : (namesK ns i)[t + j]? ≠ some cs[k].name := by
            rw [List.getElem?_eq_none (by rw [names_len, HQ.out, ← HTR.out]; exact Nat.le_refl _)]
            intro e; cases e
          have HN := Lib.hid hnm
          clear hnm
          go_wp2
          go_quiet (fail)
          have hrun := run_at HP.out HN.out
          have HRUN := Lib.hid hrun
          have FW := Lib.hid ((HFR.out.trans HFA.out.no).trans HFI2.out)
          clear hrun
          by_cases b1 : (j : Int) < D.mn
          · have hno := fill_no HFI.out hkl HRUN.out (by rw [HD.out]; omega)
            have HNO := Lib.hid hno
            clear hno
            go_wp2
            go_ret
            exact ⟨a'', ret_bool HNO.out.symm, HFT2.out.no ((Dr.refl wr).drewN nq).fr, FW.out.drewN nq, HLD2.out.rest, fun e => by rw [HNO.out] at e; cases e⟩
          · by_cases b2 : (j : Int) > D.mx
            · have hno := fill_no HFI.out hkl HRUN.out (by rw [HD.out]; omega)
              have HNO := Lib.hid hno
              clear hno
              go_wp2
              go_ret
              exact ⟨a'', ret_bool HNO.out.symm, HFT2.out.no ((Dr.refl wr).drewN nq).fr, FW.out.drewN nq, HLD2.out.rest, fun e => by rw [HNO.out] at e; cases e⟩
            · have hnx := fill_next HFI.out hkl HRUN.out (by rw [HD.out]; omega) (by rw [HD.out]; omega)
              have HNX := Lib.hid hnx
              clear hnx
              obtain ⟨p1, p2⟩ := pl_cut (HPL2.out.dr ((Dr.refl wr).drewN nq)) HPG.out hj
              have P1 := Lib.hid p1; have P2 := Lib.hid p2
              clear p1 p2
              go_wp2
              exact ⟨⟨t + j, k + 1, 0, _, pc - j, a'', rfl, by go_num, by have := HTR.out; omega, hlt, by have := P1.out; rwa [Nat.sub_self] at this, P2.out, HFT2.out.no ((Dr.refl wr).drewN nq).fr, FW.out.drewN nq, HLD2.out, HNX.out⟩, by simp [intOf]; omega⟩
    · have hke : k = m := by omega
      subst hke
      have hend := fill_end HFI.out (by omega)
      rw [names_len, HQ.out] at hend
      have HE := Lib.hid hend
      clear hend
      go_wp2
      go_ret
      exact ⟨a', ret_bool (by rw [HE.out, Bool.eq_iff_iff, beq_iff_eq, decide_eq_true_iff]; have := HTR.out; omega), HFT.out, HFR.out, HLD.out.rest, fun e => HLD.out.all (by rw [HE.out, decide_eq_true_iff] at e; rw [HQ.out]; exact e)⟩
end Go.Proofs.YtbfodbejdaafaaaGreatDoor
