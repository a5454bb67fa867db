/- The texts IsoP4, joined. -/
import Derived.Test.YtpkalnkeafggjaaGreatDoorK26
import Derived.Test.YtpkalnkeafggjaaGreatDoorK18
/- Package iso: Parse. -/
namespace Go.Proofs.YtpkalnkeafggjaaGreatDoor
open Go.RowKit
set_option maxHeartbeats 1000000
set_option linter.unusedVariables false
set_option maxRecDepth 20000

abbrev fiveI (g : Nat) : List Value := [.func (.func 17) #[.pointer (some ⟨g, 0, none⟩)] #[], .func (.func 18) #[.pointer (some ⟨g, 0, none⟩)] #[], .func (.func 19) #[.pointer (some ⟨g, 0, none⟩)] #[],
  .func (.func 20) #[.pointer (some ⟨g, 0, none⟩)] #[], .func (.func 21) #[.pointer (some ⟨g, 0, none⟩)] #[]]
section
variable (w0 : World) (g G : Nat) (A : Option Addr) (c : Nat) (b : List UInt8)
/-- how far the message has come behind its steps -/
def MesR : Nat → World → Prop
  | 0, u => Fr (IsoB G g) w0 u ∧ Rs u g G A c b 0 .empty (.slice none 0 0) (.slice none 0 0)
  | 1, u => Fr (IsoB G g) w0 u ∧ 4 ≤ b.length ∧ Rs u g G A c b 4 (bstr (b.take 4)) (.slice none 0 0) (.slice none 0 0)
  | 2, u => Fr (IsoB G g) w0 u ∧ 4 ≤ b.length ∧ rightB (b.take 4) 4 4 = true ∧ Rs u g G A c b 4 (bstr (b.take 4)) (.slice none 0 0) (.slice none 0 0)
  | 3, u => Fr (IsoB G g) w0 u ∧ 4 ≤ b.length ∧ rightB (b.take 4) 4 4 = true ∧ parE (b.drop 4) = 0 ∧ ∃ L cl, Rs u g G A c b (4 + parN (b.drop 4)) (bstr (b.take 4)) (.slice none 0 0) (.slice L (parL (b.drop 4)).length cl) ∧ Rd u L (parL (b.drop 4)).length cl (ints (parL (b.drop 4))) ∧ ∀ ad, L = some ad → w0.heap.size ≤ ad.block
  | 4, u => Fr (IsoB G g) w0 u ∧ 4 ≤ b.length ∧ rightB (b.take 4) 4 4 = true ∧ parE (b.drop 4) = 0 ∧ ∃ es q va vl, elsF (parL (b.drop 4)) (b.drop (4 + parN (b.drop 4))) = (0, es, q) ∧ Rs u g G A c b (4 + parN (b.drop 4) + q) (bstr (b.take 4)) va vl ∧ OwnE u w0.heap.size va es
  | _, u => Fr (IsoB G g) w0 u ∧ ∃ es q va vl, parI b = (0, b.take 4, es) ∧ Rs u g G A c b q (bstr (b.take 4)) va vl ∧ OwnE u w0.heap.size va es
def MesQ (E : Int) (u : World) : Prop := Fr (IsoB G g) w0 u ∧ parI b = (E, [], [])
end
theorem mesR_fr {w0 u : World} {g G : Nat} {A : Option Addr} {c : Nat} {b : List UInt8} {i : Nat} (h : MesR w0 g G A c b i u) : Fr (IsoB G g) w0 u := by
  match i, h with
  | 0, h => exact h.1
  | 1, h => exact h.1
  | 2, h => exact h.1
  | 3, h => exact h.1
  | 4, h => exact h.1
  | _ + 5, h => exact h.1
theorem OwnE.low {w : World} {base base' : Nat} {v : Value} {es : List El} (h : OwnE w base v es) (hb : base' ≤ base) : OwnE w base' v es :=
  (OwnI.low tag_ok h hb).mono tag_ok (fun i hi => ⟨Nat.le_trans hb hi.1, hi.2⟩)
theorem five_isos {w0 : World} {g G : Nat} {A : Option Addr} {c : Nat} {b : List UInt8} (hb : b.length ≤ 4096) (hgw : g < w0.heap.size) (hT : ∀ u, Fr (IsoB G g) w0 u → Tabs u) (i : Nat) (hi : i < 5) :
    ∃ F x, (fiveI g)[i]? = some (.func (.func F) #[x] #[]) ∧ (∀ args w, (callFunc F args).run Tryz.prog w = .ok (.enter F args) w) ∧ ∀ u, MesR w0 g G A c b i u → Calls Tryz.prog F #[x] u (SWTo (MesR w0 g G A c b (i + 1)) (MesQ w0 g G b)) := by
  have hbl : ∀ l : List UInt8, (bstr l).data.toList = l := fun l => by simp [bstr]
  have h5 : i = 0 ∨ i = 1 ∨ i = 2 ∨ i = 3 ∨ i = 4 := by omega
  have hjg : ∀ {u u' : World}, Fr (Just g) u u' → Fr (IsoB G g) u u' := fun h => h.mono (fun i x => .inr x)
  rcases h5 with rfl | rfl | rfl | rfl | rfl
  · refine ⟨_, _, rfl, fun args w => rfl, ?_⟩
    rintro u ⟨hf, hp⟩
    by_cases h4 : b.length < 4
    · refine (iso_begin_no hp h4).mono ?_
      rintro e u' ⟨rfl, hf2⟩
      exact ⟨3, rfl, .inr ⟨by decide, hf.trans (hjg hf2), by unfold parI; rw [if_neg (by omega), if_pos h4]⟩⟩
    · refine (iso_begin hp (by omega)).mono ?_
      rintro e u' ⟨rfl, hr, hf2⟩
      exact ⟨0, rfl, .inl ⟨rfl, hf.trans hf2, by omega, hr⟩⟩
  · refine ⟨_, _, rfl, fun args w => rfl, ?_⟩
    rintro u ⟨hf, h4, hp⟩
    refine (iso_right hp.cells.1 (by rw [bstr_size, List.length_take]; simp only [maxLen]; omega)).mono ?_
    rintro e u' ⟨rfl, rfl⟩
    rw [hbl]
    cases hR : rightB (b.take 4) 4 4 with
    | true => exact ⟨0, rfl, .inl ⟨rfl, hf, h4, hR, hp⟩⟩
    | false => exact ⟨5, rfl, .inr ⟨by decide, hf, by unfold parI; rw [if_neg (by omega), if_neg (by omega), if_pos hR]⟩⟩
  · refine ⟨_, _, rfl, fun args w => rfl, ?_⟩
    rintro u ⟨hf, h4, hR, hp⟩
    refine (iso_numbers hp hb).mono ?_
    rintro e u' ⟨rfl, hf2, hok⟩
    by_cases hE : parE (b.drop 4) = 0
    · obtain ⟨L, cl, h1, h2, h3⟩ := hok hE
      exact ⟨_, rfl, .inl ⟨hE, hf.trans hf2, h4, hR, hE, L, cl, h1, h2, fun ad e => Nat.le_trans hf.size (h3 ad e)⟩⟩
    · exact ⟨_, rfl, .inr ⟨hE, hf.trans hf2, by unfold parI; rw [if_neg (by omega), if_neg (by omega), if_neg (by rw [hR]; decide), if_pos hE]⟩⟩
  · refine ⟨_, _, rfl, fun args w => rfl, ?_⟩
    rintro u ⟨hf, h4, hR, hE, L, cl, hp, hrl, hbl2⟩
    have hpl := parL_len (b.drop 4)
    refine (iso_elements hp hrl (fun ad e h0 => by have := hbl2 ad e; omega) (by omega) (fun v hv => by have := parL_num hv; omega) hb (fun u' hu => hT u' (hf.trans hu))).mono ?_
    rintro e u' ⟨E, rfl, ⟨rfl, hf2, es, q, va, hp2, ho2, hel, hinv⟩ | ⟨hE2, hf2, he2⟩⟩
    · have hd := els_done hinv (Nat.le_refl _)
      exact ⟨0, rfl, .inl ⟨rfl, hf.trans hf2, h4, hR, hE, es, q, va, _, hd, hp2, ho2.low hf.size⟩⟩
    · exact ⟨E, rfl, .inr ⟨hE2, hf.trans hf2, by unfold parI; rw [if_neg (by omega), if_neg (by omega), if_neg (by rw [hR]; decide), if_neg (by rw [hE]; decide), if_pos (by rw [he2]; exact hE2), he2]⟩⟩
  · refine ⟨_, _, rfl, fun args w => rfl, ?_⟩
    rintro u ⟨hf, h4, hR, hE, es, q, va, vl, hel, hp, ho⟩
    have hk := hp.caps.1
    refine (iso_end hp).mono ?_
    rintro e u' ⟨rfl, hd⟩
    have hpi : parI b = if 4 + parN (b.drop 4) + q < b.length then (17, [], []) else (0, b.take 4, es) := by
      unfold parI
      rw [if_neg (by omega), if_neg (by omega), if_neg (by rw [hR]; decide), if_neg (by rw [hE]; decide), hel, if_neg (by simp)]
    by_cases hq : 4 + parN (b.drop 4) + q = b.length
    · rw [if_pos hq]
      exact ⟨0, rfl, .inl ⟨rfl, hf.dr hd, es, _, va, vl, by rw [hpi, if_neg (by omega)], hp.dr hd, ho.no hd.fr⟩⟩
    · rw [if_neg hq]
      exact ⟨17, rfl, .inr ⟨by decide, hf.dr hd, by rw [hpi, if_pos (by omega)]⟩⟩
theorem iso_walk {w : World} {g G : Nat} {A : Option Addr} {c : Nat} {b : List UInt8} (h : Rs w g G A c b 0 .empty (.slice none 0 0) (.slice none 0 0)) (hb : b.length ≤ 4096) (hT : ∀ u, Fr (IsoB G g) w u → Tabs u) (ty : TypeId) :
    Calls Tryz.prog 16 #[.slice (some ⟨w.heap.size, 0, none⟩) 5 5] (w.alloc (.cells (fiveI g).toArray ty))
      (SWTo (MesR (w.alloc (.cells (fiveI g).toArray ty)) g G A c b 5) (MesQ (w.alloc (.cells (fiveI g).toArray ty)) g G b)) := by
  have hfa : Fr No w (w.alloc (.cells (fiveI g).toArray ty)) := (Fr.refl No w).alloc _
  have hbk := Bk.new w ty (fiveI g).toArray
  have hgl := h.lt
  refine t_walk (some ⟨w.heap.size, 0, none⟩) 5 5 (fiveI g) _ _ _ rfl (Nat.le_refl _) (by omega) (fun e => nomatch e) ⟨Fr.refl _ _, h.no hfa⟩ ?_ (fun i hi => five_isos hb (by have := hfa.size; omega) (fun u hu => hT u (hfa.no.trans hu)) i hi)
  intro i u hu ad e j v hv
  injection e with e
  subst e
  have h1 := (hbk.fr (mesR_fr hu) (fun x => by rcases x with x | x <;> omega)).cell j
  rw [addr_at, h1]
  exact hv
/-- what Parse answers -/
def IsoTo (t : List UInt8) (es : List El) (E : Int) (w : World) (e : Ending) (w' : World) : Prop :=
  ∃ va, e = .returned (.tuple #[.agg #[.string (bstr t), va], .int .i64 E]) ∧ OwnE w' w.heap.size va es ∧ Fr No w w'
theorem iso_no {w w' : World} {E : Int} (hf : Fr No w w') : IsoTo [] [] E w (.returned (.tuple #[.agg #[.string .empty, .slice none 0 0], .int .i64 E])) w' := ⟨_, rfl, OwnE.nil_ _ _, hf⟩
/-- a struct that is handed back as a whole, and one thing more -/
theorem results_bk2 {P : Program} {fn : Func} {tmps : Array Value} {w : World} {i j g : Nat} {ty t : TypeId} {cs : List Value} {d : TypeDesc} (hres : fn.results = #[.cell i ty, .tmp j]) (ht : tmps.getD i undef = .pointer (some ⟨g, 0, none⟩)) (hb : Bk w g t cs)
    (hu : P.underlying ty = some d) (hd : d.isRow = true) (hi : (P.info? ty).map (·.size) = some cs.length) : (results fn tmps).run P w = .ok (.tuple #[.agg cs.toArray, tmps.getD j undef]) w := by
  have h := run_loadVar_mid w g 0 ty cs d hb.range hu hd hi
  unfold results
  rw [hres]
  simp only [List.mapM_toArray, List.mapM_cons, List.mapM_nil, ht, asAddr, Sem.run_bind, Sem.run_map, Sem.run_pure, Result.andThen_ok, h]
  rfl
theorem isoSize (a b : Value) : (Tryz.prog.info? 25).map (·.size) = some [a, b].length := by kernel_rfl
theorem iso_parse_any (A : Option Addr) (c : Nat) (b : List UInt8) (w : World) (hr : Rd w A b.length c (u8s b)) (hT : Tabs w := by repeat' first | with_reducible assumption | with_reducible apply Tabs.drew | with_reducible apply Tabs.drewN | with_reducible apply Tabs.alloc | refine Tabs.fr ?_ (by with_reducible assumption)) :
    Calls Tryz.prog 8 #[.slice A b.length c] w (IsoTo (parI b).2.1 (parI b).2.2 (parI b).1 w) := by
  by_cases hb : 4096 < b.length
  · have e : parI b = (4, [], []) := by unfold parI; rw [if_pos hb]
    rw [e]
    have hbI : (4096 : Int) < (b.length : Int) := by omega
    generalize b.length = m at *
    clear hr hT hb e
    go_enter Tryz.func8, Tryz.ntmps8
    go_wp2
    refine bodyPost_ret (results_bk2 (t := 25) (g := w.heap.size) (cs := [.string .empty, .slice none 0 0]) (Tryz.results8) (by rfl) (Bk.new w _ _) Tryz.underlying25 rfl (isoSize _ _)) rfl ?_
    exact iso_no ((Fr.refl No w).alloc _)
  · have hb : b.length ≤ 4096 := by omega
    obtain ⟨m, hm⟩ : ∃ m, b.length = m := ⟨_, rfl⟩
    have HN := Lib.hid (fun u (hu : Fr No w u) => new_any A b.length c b u (hr.no hu) (by omega))
    have HR := Lib.hid hr
    rw [hm] at HN hb ⊢
    go_enter Tryz.func8, Tryz.ntmps8
    have HF0 := Lib.hid ((Fr.refl No w).alloc (.cells #[.string .empty, .slice none 0 0] 25))
    go_upto_region 4 with (go_at_call 15; refine (HN.out _ HF0.out).mono ?_; rintro e w1 ⟨G, rfl, hG, hc, hf⟩)
    have hf1 : Fr No w w1 := HF0.out.trans hf
    have hbk0 : Bk w1 w.heap.size 25 [.string ⟨#[]⟩, .slice none 0 0] := (Bk.new w 25 #[.string ⟨#[]⟩, .slice none 0 0]).no hf
    have hGw : w.heap.size < G := by have : w.heap.size + 1 ≤ G := by simpa using hG
                                     omega
    have hal : Fr No w1 (w1.alloc (.cells #[.string ⟨#[]⟩, .slice none 0 0, .pointer (some ⟨G, 0, none⟩), .slice A m c, .slice none 0 0] 47)) := (Fr.refl No w1).alloc _
    have hrs : Rs (w1.alloc (.cells #[.string ⟨#[]⟩, .slice none 0 0, .pointer (some ⟨G, 0, none⟩), .slice A m c, .slice none 0 0] 47)) w1.heap.size G A c b 0 ⟨#[]⟩ (.slice none 0 0) (.slice none 0 0) := by
      refine ⟨?_, hc.no hal, (hr.no hf1).no hal, fun h0 ad e => by have := hr.lt h0 ad e; omega⟩
      rw [hm]
      exact Bk.new w1 47 #[.string ⟨#[]⟩, .slice none 0 0, .pointer (some ⟨G, 0, none⟩), .slice A m c, .slice none 0 0]
    have hfg : ∀ u, Fr (IsoB G w1.heap.size) (w1.alloc (.cells #[.string ⟨#[]⟩, .slice none 0 0, .pointer (some ⟨G, 0, none⟩), .slice A m c, .slice none 0 0] 47)) u → Fr No w u := fun u hu => (hf1.trans hal).trans_new hu (fun i hi => .inr (by have := hf1.size; rcases hi with x | x <;> omega))
    have hw := iso_walk hrs (by omega) (fun u hu => hT.fr (hfg u hu)) 49
    have hal2 : Fr No (w1.alloc (.cells #[.string ⟨#[]⟩, .slice none 0 0, .pointer (some ⟨G, 0, none⟩), .slice A m c, .slice none 0 0] 47)) ((w1.alloc (.cells #[.string ⟨#[]⟩, .slice none 0 0, .pointer (some ⟨G, 0, none⟩), .slice A m c, .slice none 0 0] 47)).alloc (.cells (fiveI w1.heap.size).toArray 49)) := (Fr.refl No _).alloc _
    have hz : (w1.alloc (.cells #[.string ⟨#[]⟩, .slice none 0 0, .pointer (some ⟨G, 0, none⟩), .slice A m c, .slice none 0 0] 47)).heap.size = w1.heap.size + 1 := by simp
    rw [hz] at hw
    have hfin : ∀ u, Fr (IsoB G w1.heap.size) ((w1.alloc (.cells #[.string ⟨#[]⟩, .slice none 0 0, .pointer (some ⟨G, 0, none⟩), .slice A m c, .slice none 0 0] 47)).alloc (.cells (fiveI w1.heap.size).toArray 49)) u → Fr No w u ∧ Bk u w.heap.size 25 [.string ⟨#[]⟩, .slice none 0 0] := fun u hu => ⟨hfg u (hal2.no.trans hu), ((hbk0.no hal).no hal2).fr hu (fun x => by have := hf1.size; have := hbk0.lt; rcases x with x | x <;> omega)⟩
    have HFIN := Lib.hid hfin; have HW := Lib.hid hw; have HBL := Lib.hid hb; have HS := Lib.hid hbk0.lt
    clear hr hT hf1 hbk0 hGw hal hrs hfg hw hal2 hz hfin hc hf hG HN HF0 HR hm hb
    go_upto_region 5 with (go_at_call 16; (refine (HW.out).mono ?_); rintro e w2 ⟨E, rfl, hE⟩; have HE := Lib.hid hE; clear hE)
    obtain ⟨rb, hrb⟩ : ∃ rb, w.heap.size = rb := ⟨_, rfl⟩
    obtain ⟨g, hg⟩ : ∃ g, w1.heap.size = g := ⟨_, rfl⟩
    have HRB := Lib.hid hrb
    rw [hrb, hg] at HFIN
    rw [hg] at HE
    rw [hrb, hg]
    by_cases hE : E = 0
    · subst hE
      obtain ⟨hf2, es, q, va, vl, hpi, hp, ho⟩ : MesR ((w1.alloc (.cells #[.string ⟨#[]⟩, .slice none 0 0, .pointer (some ⟨G, 0, none⟩), .slice A m c, .slice none 0 0] 47)).alloc (.cells (fiveI g).toArray 49)) g G A c b 5 w2 := by
        rcases HE.out with ⟨_, h⟩ | ⟨h, _⟩
        · exact h
        · exact absurd rfl h
      obtain ⟨hfw, hbk⟩ := HFIN.out w2 hf2
      obtain ⟨vA, vc, rfl, -⟩ := OwnI.rd' ho (M := fun _ => True) (fun _ _ => trivial) tag_ok (fun _ _ => trivial)
      have c0 := hp.cells.1
      have c1 := hp.cells.2.1
      have d0 := Bk.cell hbk 0
      have d1 := Bk.cell hbk 1
      have z0 := Bk.frozen hbk 0
      have z1 := Bk.frozen hbk 1
      have hlow : rb ≤ ((w1.alloc (.cells #[.string ⟨#[]⟩, .slice none 0 0, .pointer (some ⟨G, 0, none⟩), .slice A m c, .slice none 0 0] 47)).alloc (.cells (fiveI g).toArray 49)).heap.size := by have := HS.out; simp; omega
      have hlt : ∀ i, ((w1.alloc (.cells #[.string ⟨#[]⟩, .slice none 0 0, .pointer (some ⟨G, 0, none⟩), .slice A m c, .slice none 0 0] 47)).alloc (.cells (fiveI g).toArray 49)).heap.size ≤ i → ¬ (i = rb) := fun i hi e => by have := HS.out; simp at hi; omega
      have HPI := Lib.hid hpi
      obtain ⟨S, hS⟩ : ∃ S, bstr (b.take 4) = S := ⟨_, rfl⟩
      have HSS := Lib.hid hS
      rw [hS] at c0
      have HO := Lib.hid ho; have HFW := Lib.hid hfw; have HBK := Lib.hid hbk; have HLO := Lib.hid hlow; have HLT := Lib.hid hlt
      clear hS ho hfw hbk hlow hlt hp hpi hf2 HE HFIN HW hrb hg
      go_wp2_with fail
      refine bodyPost_ret (results_bk2 (t := 25) (g := rb) (cs := [.string S, .slice vA es.length vc]) (Tryz.results8) (by rfl) ((HBK.out.set_ 0 (.string S)).set_ 1 (.slice vA es.length vc)) Tryz.underlying25 rfl (isoSize _ _)) rfl ?_
      have hs1 : Fr (Just rb) w2 ((w2.setCell ⟨rb, 0, none⟩ (.string S)).setCell ⟨rb, 1, none⟩ (.slice vA es.length vc)) := ((Fr.refl (Just rb) w2).setCell (.inl (Just.at rb)) _).setCell (.inl (Just.at rb)) _
      rw [HPI.out, ← HSS.out]
      have hfin : IsoTo (b.take 4) es 0 w (.returned (.tuple #[.agg #[.string (bstr (b.take 4)), .slice vA es.length vc], .int .i64 0])) ((w2.setCell ⟨rb, 0, none⟩ (.string S)).setCell ⟨rb, 1, none⟩ (.slice vA es.length vc)) :=
        ⟨_, rfl, (OwnE.far HO.out hs1 HLT.out).low (by rw [HRB.out]; exact HLO.out), HFW.out.trans_just hs1 (by rw [HRB.out]; exact Nat.le_refl _)⟩
      rw [← HSS.out] at hfin
      exact hfin
    · have hEb := st_ne0 hE
      obtain ⟨hf2, hpi⟩ : MesQ ((w1.alloc (.cells #[.string ⟨#[]⟩, .slice none 0 0, .pointer (some ⟨G, 0, none⟩), .slice A m c, .slice none 0 0] 47)).alloc (.cells (fiveI g).toArray 49)) g G b E w2 := by
        rcases HE.out with ⟨h, _⟩ | ⟨_, h⟩
        · exact absurd h hE
        · exact h
      obtain ⟨hfw, hbk⟩ := HFIN.out w2 hf2
      have d0 := Bk.cell hbk 0
      have d1 := Bk.cell hbk 1
      have z0 := Bk.frozen hbk 0
      have z1 := Bk.frozen hbk 1
      have HPI := Lib.hid hpi
      have HFW := Lib.hid hfw; have HBK := Lib.hid hbk
      clear hfw hbk hpi hf2 HE HFIN HW hrb hg hE
      go_wp2_with fail
      refine bodyPost_ret (results_bk2 (t := 25) (g := rb) (cs := [.string ⟨#[]⟩, .slice none 0 0]) (Tryz.results8) (by rfl) ((HBK.out.set_ 0 (.string ⟨#[]⟩)).set_ 1 (.slice none 0 0)) Tryz.underlying25 rfl (isoSize _ _)) rfl ?_
      have hs1 : Fr (Just rb) w2 ((w2.setCell ⟨rb, 0, none⟩ (.string ⟨#[]⟩)).setCell ⟨rb, 1, none⟩ (.slice none 0 0)) := ((Fr.refl (Just rb) w2).setCell (.inl (Just.at rb)) _).setCell (.inl (Just.at rb)) _
      rw [HPI.out]
      exact iso_no (HFW.out.trans_just hs1 (by rw [HRB.out]; exact Nat.le_refl _))
end Go.Proofs.YtpkalnkeafggjaaGreatDoor
