/- CursorPlays: of any bytes whatever is read, one behind the other. The walk, for every list of bytes and of things that are read. -/
import Derived.Test.YtcbcgciebppjaaaCurParts
namespace Go.Proofs.Ytcbcgciebppjaaa
open Go.RowKit Go.ChangeShapes Go.WideShapes Go.ChangeAt
set_option maxHeartbeats 4000000
set_option maxRecDepth 100000
set_option linter.unusedVariables false

/-- a list of pairs of integers that came in -/
theorem open_pairs {H : Type} {enc : TypeId × Value → H} {P : Program} {W : World} {b0 : Nat} {t e : TypeId} {f0 f1 : Field} {k0 k1 : IntKind} {v : Value} {d : DataW H} {p : List MemPlace}
    (ht : P.underlying t = some (.slice e)) (he : P.underlying e = some (.struct #[f0, f1])) (hc : P.cellsOf e = 2) (ho0 : f0.offset = 0) (ho1 : f1.offset = 1) (hc0 : P.cellsOf f0.type = 1) (hc1 : P.cellsOf f1.type = 1)
    (h0 : P.underlying f0.type = some (.int k0)) (h1 : P.underlying f1.type = some (.int k1))
    (hval : Value.okWide P W .any b0 t v) (h : DataW.Trod enc P W 0 (fun _ => true) true t v d p) :
    ∃ (A : Option Addr) (n c : Nat), v = .slice A n c ∧ n ≤ c ∧ c ≤ maxLen ∧ (A = none → c = 0) ∧
      ∀ ad, A = some ad → ∀ j, j < n → ∃ x y, W.cell? (ad.add (j * 2)) = some (.int k0 x) ∧ W.cell? (ad.add (j * 2 + 1)) = some (.int k1 y) ∧ (Lit.int k0 x).wf = true ∧ (Lit.int k1 y).wf = true := by
  obtain ⟨a0, len, cap, rfl⟩ := okWide_slice ht hval
  obtain ⟨fuel, hf⟩ := h
  rcases DataW.trod_slice ht hf with ⟨hcs, _⟩ | ⟨a, len', cap', elems, rest, m, _, hcs, _, _, hl, hm, hle, hel, _, _⟩
  · simp [Value.cells] at hcs
    obtain ⟨rfl, rfl, rfl⟩ := hcs
    exact ⟨none, 0, 0, rfl, Nat.le_refl _, Nat.zero_le _, fun _ => rfl, fun _ e => nomatch e⟩
  · simp [Value.cells] at hcs
    obtain ⟨rfl, rfl, rfl⟩ := hcs
    refine ⟨some a, len, cap, rfl, hl, hm, (fun e => nomatch e), ?_⟩
    intro ad e j hj
    injection e with e
    subst e
    have h2 := hel j hj
    rw [hc, List.getElem?_eq_getElem (by omega), Option.bind_eq_some_iff] at h2
    obtain ⟨cs, hcs, htr⟩ := h2
    obtain ⟨_, hcl, hat⟩ := World.cells?_some hcs
    obtain ⟨ys, n', _, _, hlen, hyl, hfl⟩ := DataW.trod_struct he htr
    have g0 := hfl 0 f0 rfl
    have g1 := hfl 1 f1 rfl
    rw [ho0, hc0] at g0
    rw [ho1, hc1] at g1
    match cs, hcl with
    | [c0, c1], _ =>
      simp only [List.drop_zero, List.take_succ_cons, List.take_zero, List.drop_succ_cons] at g0 g1
      rw [List.getElem?_eq_getElem (by simp at hyl; omega)] at g0 g1
      obtain ⟨x, e0, _, w0⟩ := DataW.trod_int h0 g0
      obtain ⟨y, e1, _, w1⟩ := DataW.trod_int h1 g1
      simp only [List.cons.injEq, and_true] at e0 e1
      subst e0 e1
      have q0 := hat 0 (by omega)
      have q1 := hat 1 (by omega)
      rw [add_add] at q0 q1
      exact ⟨x, y, by simpa using q0, by simpa using q1, w0, w1⟩

theorem plain_of_cell {w : World} {ad : Addr} {v : Value} (h : w.cell? ad = some v) : ∃ b o, ad = ⟨b, o, none⟩ := by
  obtain ⟨b, o, s⟩ := ad
  cases s with
  | none => exact ⟨b, o, rfl⟩
  | some x =>
    exfalso
    simp only [World.cell?] at h
    split at h <;> simp_all
theorem add_plain (b o k : Nat) : (⟨b, o, none⟩ : Addr).add k = ⟨b, o + k, none⟩ := by
  unfold Addr.add
  split <;> simp_all

theorem Cur.up {w : World} {B B' g : Nat} {b : List UInt8} {k : Nat} (h : Cur w B g b k) (h1 : B ≤ B') (h2 : B' ≤ w.heap.size) : Cur w B' g b k := by
  obtain ⟨A, c, a1, a2, a3, a5, a6, a4⟩ := h
  exact ⟨A, c, a1, a2, a3, by omega, h2, fun ad e => ⟨(a4 ad e).1, Nat.lt_of_lt_of_le (a4 ad e).2 h1⟩⟩
theorem CurR.cellN {w : World} {B g : Nat} {b : List UInt8} {k : Nat} (h : CurR w B g b k) : w.cell? ⟨g, 1, none⟩ = some (.int .i64 (k : Int)) := by
  obtain ⟨A, c, h1, _⟩ := h
  have c1 := h1.cell 1
  simpa using c1

theorem plays_walk {A C : Option Addr} {n c m d : Nat} {l : List UInt8} (w : World) (ha : Rd w A n c (u8s l)) (hmd : m ≤ d) (hdm : d ≤ maxLen) (hCn : C = none → d = 0)
    (hops : ∀ ad, C = some ad → ∀ j, j < m → ∃ x y, w.cell? (ad.add (j * 2)) = some (.int .i64 x) ∧ w.cell? (ad.add (j * 2 + 1)) = some (.int .i64 y) ∧ (Lit.int .i64 x).wf = true ∧ (Lit.int .i64 y).wf = true) :
    Calls Try.prog 3 #[.slice A n c, .slice C m d] w fun e w' => e = .returned (.bool true) ∧ Fr No w w' := by
  rcases Nat.lt_or_ge 1000 n with hn | hn
  · go_enter Try.func3, Try.ntmps3
    go_wp2_with (go_at_call 7; refine (awake_any _).mono ?_; rintro e w1 ⟨rfl, hf⟩)
    go_ret
    exact ⟨rfl, hf⟩
  obtain rfl : l.length = n := by have := ha.len; rw [u8s_length] at this; exact this
  have HO := Lib.hid hops
  clear hops
  go_enter Try.func3, Try.ntmps3
  go_wp2_with (first
    | (go_at_call 8; refine (own_any _ _ _ l 71 _ ha (by omega)).mono ?_; rintro e w1 ⟨go, rfl, hgo, hb1, hf1⟩)
    | (go_at_call 9; refine (new_any _ _ _ l _ (own_rd0 hb1 ha.len (by omega)) (by omega)).mono ?_; rintro e w2 ⟨g, rfl, hg, hc2, hf2⟩)
    | (go_at_call 7; refine (awake_any _).mono ?_; rintro e w3 ⟨rfl, hf3⟩))
  -- LOOP
  have hs2 : w.heap.size ≤ w2.heap.size := Nat.le_trans hf1.size hf2.size
  have hFm : Fr No w (w2.alloc (.cells #[.slice A l.length c, .int .i64 0] 30)) := (hf1.trans hf2).alloc _
  have hF3 : Fr No w w3 := hFm.trans hf3
  have hcc : Cur w3 w2.heap.size g l 0 := (hc2.no ((Fr.refl No w2).alloc _)).no hf3
  have hrr : CurR w3 w.heap.size w2.heap.size l 0 := ⟨A, c, ((Bk.new w2 _ _).no hf3), ha.no hF3, by omega, hs2, fun ad e h0 => ha.lt h0 ad e⟩
  have hbb : Bk w3 go 5 (u8s (l ++ [71, 71, 71])) := (hb1.no hf2).no (((Fr.refl No w2).alloc _).trans hf3)
  have hgoB : go < g := by have := hb1.lt; omega
  have hgr : g < w2.heap.size := hc2.bound.1
  have hgB : w.heap.size ≤ g := Nat.le_trans hf1.size hg
  generalize w2.heap.size = gr at *
  clear hf1 hf2 hf3 hb1 hc2 hFm hg
  go_loopw [8] (fun i wr => ∃ j k : Nat, j ≤ m ∧ j ≤ 60 ∧ i = .int .i64 (j : Int) ∧ Cur wr gr g l k ∧ CurR wr w.heap.size gr l k ∧ Bk wr go 5 (u8s (l ++ [71, 71, 71])) ∧ Fr No w wr) (fun i _ => 60 - (intOf i).toNat)
  case atStart => exact ⟨0, 0, by omega, by omega, rfl, hcc, hrr, hbb, hF3⟩
  case round =>
    clear hcc hrr hbb hF3
    obtain ⟨j, k, hj, hj60, rfl, hc, hr, hb, hF⟩ := hrel
    obtain ⟨hkl, hl9⟩ := hc.le
    have hbt : ∀ x : List UInt8, (x == x) = true := fun x => by simp
    have HB := Lib.hid hbt
    clear hbt
    by_cases hlt : j < m ∧ j < 60
    · obtain ⟨hjm, hj6⟩ := hlt
      obtain ⟨ad, rfl⟩ : ∃ ad, C = some ad := by
        cases C with
        | none => have := hCn rfl; omega
        | some ad => exact ⟨ad, rfl⟩
      obtain ⟨kd, nn, hk0, hn0, wk, wn⟩ := HO.out ad rfl j hjm
      obtain ⟨ab, ao, hab⟩ := plain_of_cell hk0
      have hk1 := hF.cell hk0 (fun x => x)
      have hn1 := hF.cell hn0 (fun x => x)
      rw [← add_add, hab, add_plain] at hn1
      rw [hab] at hk1
      clear hk0 hn0
      have hnn := wf_i64 wn
      have hall : (kd = 1 ∨ kd = 2 ∨ ((kd == 1) = false ∧ (kd == 2) = false)) := by
        by_cases e1 : kd = 1
        · exact .inl e1
        · by_cases e2 : kd = 2
          · exact .inr (.inl e2)
          · exact .inr (.inr ⟨beq_eq_false_iff_ne.2 e1, beq_eq_false_iff_ne.2 e2⟩)
      have hF0 := hF
      rcases hall with rfl | rfl | ⟨hq1, hq2⟩
      · have hsplit : (nn < 0) ∨ ((0 ≤ nn) ∧ (l.length : Int) - (k : Int) < nn) ∨ ((0 ≤ nn) ∧ nn ≤ (l.length : Int) - (k : Int)) := by omega
        rcases hsplit with hcs | hcs | ⟨hlo, hhi⟩
        · go_wp2_with (first
            | (go_at_call 10; refine (text_neg g nn _ hcs).mono ?_; rintro e wa ⟨rfl, hda⟩)
            | (go_at_call 11; refine (rtake_neg gr nn _ hcs).mono ?_; rintro e wE ⟨rfl, hde⟩; have hstr := run_convert_bytes_nil (P := Try.prog) wE 22 5 Try.underlying22 Try.underlying5 0 0 9 Try.underlying9))
          have hdE : Dr wr wE := hda.trans hde
          obtain ⟨kE, hcE, hrE, hbE, hFE⟩ : ∃ kE, Cur wE gr g l kE ∧ CurR wE w.heap.size gr l kE ∧ Bk wE go 5 (u8s (l ++ [71, 71, 71])) ∧ Fr No w wE := ⟨k, hc.dr hdE, hr.dr hdE, hb.no hdE.fr, hF.dr hdE⟩
          obtain ⟨hkE, _⟩ := hcE.le
          have hnE := hrE.cellN
          have f1 : ((l.length : Int) - (kE : Int) != (l.length : Int) - (kE : Int)) = false := by simp
          have f2 : ((kE : Int) != (kE : Int)) = false := by simp
          go_quiet ((first | (go_at_call 16; exact quiet_dr (left_any g l kE _ (hcE.dr ⟨_, rfl⟩))) | (go_at_call 17; exact quiet_dr (at_any g l kE _ (hcE.dr ⟨_, rfl⟩)))))
          go_wp2
          go_roundw
          case rel => exact ⟨j + 1, kE, by omega, by omega, by go_num, hcE.dr ⟨_, rfl⟩, hrE.dr ⟨_, rfl⟩, hbE.no (Dr.fr ⟨_, rfl⟩), hFE.dr ⟨_, rfl⟩⟩
          case measure => simp [intOf]; omega
        · go_wp2_with (first
            | (go_at_call 10; refine (text_short g nn l k _ hc hcs.1 hcs.2).mono ?_; rintro e wa ⟨rfl, hda⟩)
            | (go_at_call 11; refine (rtake_short gr nn l k _ (hr.dr hda) hcs.1 hcs.2).mono ?_; rintro e wE ⟨rfl, hde⟩; have hstr := run_convert_bytes_nil (P := Try.prog) wE 22 5 Try.underlying22 Try.underlying5 0 0 9 Try.underlying9))
          have hdE : Dr wr wE := hda.trans hde
          obtain ⟨kE, hcE, hrE, hbE, hFE⟩ : ∃ kE, Cur wE gr g l kE ∧ CurR wE w.heap.size gr l kE ∧ Bk wE go 5 (u8s (l ++ [71, 71, 71])) ∧ Fr No w wE := ⟨k, hc.dr hdE, hr.dr hdE, hb.no hdE.fr, hF.dr hdE⟩
          obtain ⟨hkE, _⟩ := hcE.le
          have hnE := hrE.cellN
          have f1 : ((l.length : Int) - (kE : Int) != (l.length : Int) - (kE : Int)) = false := by simp
          have f2 : ((kE : Int) != (kE : Int)) = false := by simp
          go_quiet ((first | (go_at_call 16; exact quiet_dr (left_any g l kE _ (hcE.dr ⟨_, rfl⟩))) | (go_at_call 17; exact quiet_dr (at_any g l kE _ (hcE.dr ⟨_, rfl⟩)))))
          go_wp2
          go_roundw
          case rel => exact ⟨j + 1, kE, by omega, by omega, by go_num, hcE.dr ⟨_, rfl⟩, hrE.dr ⟨_, rfl⟩, hbE.no (Dr.fr ⟨_, rfl⟩), hFE.dr ⟨_, rfl⟩⟩
          case measure => simp [intOf]; omega
        · obtain ⟨p, rfl⟩ := Int.eq_ofNat_of_zero_le (show 0 ≤ nn by omega)
          have hs : k + p ≤ l.length := by omega
          go_wp2_with (first
            | (go_at_call 10; refine (text_ok g p l k _ hc hs).mono ?_; rintro e wa ⟨rfl, hca, hfa⟩; have hra : CurR wa w.heap.size gr l k := hr.just hfa (by omega) hgB)
            | (go_at_call 11; refine (rtake_ok gr p l k _ hra hs (by omega)).mono ?_; rintro e wE ⟨v, rfl, hv, hrE0, hfe⟩; obtain ⟨V, vc, rfl, hrv, hVb⟩ := Rd.of_own hv; have hstr := run_string (P := Try.prog) hrv 22 5 Try.underlying22 Try.underlying5 9 Try.underlying9))
          obtain ⟨kE, hcE, hrE, hbE, hFE⟩ : ∃ kE, Cur wE gr g l kE ∧ CurR wE w.heap.size gr l kE ∧ Bk wE go 5 (u8s (l ++ [71, 71, 71])) ∧ Fr No w wE := ⟨k + p, hca.just hfe (Nat.le_refl _), hrE0, (hb.fr hfa (fun e => by have : go = g := e; omega)).fr hfe (fun e => by have : go = gr := e; omega), (hF.trans_just hfa hgB).trans_just hfe hs2⟩
          obtain ⟨hkE, _⟩ := hcE.le
          have hnE := hrE.cellN
          have f1 : ((l.length : Int) - (kE : Int) != (l.length : Int) - (kE : Int)) = false := by simp
          have f2 : ((kE : Int) != (kE : Int)) = false := by simp
          go_quiet ((first | (go_at_call 16; exact quiet_dr (left_any g l kE _ (hcE.dr ⟨_, rfl⟩))) | (go_at_call 17; exact quiet_dr (at_any g l kE _ (hcE.dr ⟨_, rfl⟩)))))
          go_wp2
          go_roundw
          case rel => exact ⟨j + 1, kE, by omega, by omega, by go_num, hcE.dr ⟨_, rfl⟩, hrE.dr ⟨_, rfl⟩, hbE.no (Dr.fr ⟨_, rfl⟩), hFE.dr ⟨_, rfl⟩⟩
          case measure => simp [intOf]; omega
      · have hsplit : (nn < 1 ∨ 8 < nn) ∨ ((1 ≤ nn ∧ nn ≤ 8) ∧ (l.length : Int) - (k : Int) < nn) ∨ ((1 ≤ nn ∧ nn ≤ 8) ∧ nn ≤ (l.length : Int) - (k : Int)) := by omega
        rcases hsplit with hcs | hcs | ⟨hlo, hhi⟩
        · go_wp2_with (first
            | (go_at_call 12; refine (number_arg g nn _ hcs).mono ?_; rintro e wa ⟨rfl, hda⟩)
            | (go_at_call 13; refine (rnum_arg gr nn _ hcs).mono ?_; rintro e wE ⟨rfl, hde⟩))
          have hdE : Dr wr wE := hda.trans hde
          obtain ⟨kE, hcE, hrE, hbE, hFE⟩ : ∃ kE, Cur wE gr g l kE ∧ CurR wE w.heap.size gr l kE ∧ Bk wE go 5 (u8s (l ++ [71, 71, 71])) ∧ Fr No w wE := ⟨k, hc.dr hdE, hr.dr hdE, hb.no hdE.fr, hF.dr hdE⟩
          obtain ⟨hkE, _⟩ := hcE.le
          have hnE := hrE.cellN
          have f1 : ((l.length : Int) - (kE : Int) != (l.length : Int) - (kE : Int)) = false := by simp
          have f2 : ((kE : Int) != (kE : Int)) = false := by simp
          go_quiet ((first | (go_at_call 16; exact quiet_dr (left_any g l kE _ (hcE.dr ⟨_, rfl⟩))) | (go_at_call 17; exact quiet_dr (at_any g l kE _ (hcE.dr ⟨_, rfl⟩)))))
          go_wp2
          go_roundw
          case rel => exact ⟨j + 1, kE, by omega, by omega, by go_num, hcE.dr ⟨_, rfl⟩, hrE.dr ⟨_, rfl⟩, hbE.no (Dr.fr ⟨_, rfl⟩), hFE.dr ⟨_, rfl⟩⟩
          case measure => simp [intOf]; omega
        · go_wp2_with (first
            | (go_at_call 12; refine (number_short g nn l k _ hc hcs.1.1 hcs.1.2 hcs.2).mono ?_; rintro e wa ⟨rfl, hda⟩)
            | (go_at_call 13; refine (rnum_short gr nn l k _ (hr.dr hda) hcs.1.1 hcs.1.2 hcs.2).mono ?_; rintro e wE ⟨rfl, hde⟩))
          have hdE : Dr wr wE := hda.trans hde
          obtain ⟨kE, hcE, hrE, hbE, hFE⟩ : ∃ kE, Cur wE gr g l kE ∧ CurR wE w.heap.size gr l kE ∧ Bk wE go 5 (u8s (l ++ [71, 71, 71])) ∧ Fr No w wE := ⟨k, hc.dr hdE, hr.dr hdE, hb.no hdE.fr, hF.dr hdE⟩
          obtain ⟨hkE, _⟩ := hcE.le
          have hnE := hrE.cellN
          have f1 : ((l.length : Int) - (kE : Int) != (l.length : Int) - (kE : Int)) = false := by simp
          have f2 : ((kE : Int) != (kE : Int)) = false := by simp
          go_quiet ((first | (go_at_call 16; exact quiet_dr (left_any g l kE _ (hcE.dr ⟨_, rfl⟩))) | (go_at_call 17; exact quiet_dr (at_any g l kE _ (hcE.dr ⟨_, rfl⟩)))))
          go_wp2
          go_roundw
          case rel => exact ⟨j + 1, kE, by omega, by omega, by go_num, hcE.dr ⟨_, rfl⟩, hrE.dr ⟨_, rfl⟩, hbE.no (Dr.fr ⟨_, rfl⟩), hFE.dr ⟨_, rfl⟩⟩
          case measure => simp [intOf]; omega
        · obtain ⟨p, rfl⟩ := Int.eq_ofNat_of_zero_le (show 0 ≤ nn by omega)
          have hs : k + p ≤ l.length := by omega
          go_wp2_with (first
            | (go_at_call 12; refine (number_ok g p l k _ hc (by omega) (by omega) hs).mono ?_; rintro e wa ⟨rfl, hca, hfa⟩; have hra : CurR wa w.heap.size gr l k := hr.just hfa (by omega) hgB)
            | (go_at_call 13; refine (rnum_ok gr p l k _ hra (by omega) (by omega) hs (by omega)).mono ?_; rintro e wE ⟨rfl, hrE0, hfe⟩))
          obtain ⟨kE, hcE, hrE, hbE, hFE⟩ : ∃ kE, Cur wE gr g l kE ∧ CurR wE w.heap.size gr l kE ∧ Bk wE go 5 (u8s (l ++ [71, 71, 71])) ∧ Fr No w wE := ⟨k + p, hca.just hfe (Nat.le_refl _), hrE0, (hb.fr hfa (fun e => by have : go = g := e; omega)).fr hfe (fun e => by have : go = gr := e; omega), (hF.trans_just hfa hgB).trans_just hfe hs2⟩
          obtain ⟨hkE, _⟩ := hcE.le
          have hnE := hrE.cellN
          have f1 : ((l.length : Int) - (kE : Int) != (l.length : Int) - (kE : Int)) = false := by simp
          have f2 : ((kE : Int) != (kE : Int)) = false := by simp
          go_quiet ((first | (go_at_call 16; exact quiet_dr (left_any g l kE _ (hcE.dr ⟨_, rfl⟩))) | (go_at_call 17; exact quiet_dr (at_any g l kE _ (hcE.dr ⟨_, rfl⟩)))))
          go_wp2
          go_roundw
          case rel => exact ⟨j + 1, kE, by omega, by omega, by go_num, hcE.dr ⟨_, rfl⟩, hrE.dr ⟨_, rfl⟩, hbE.no (Dr.fr ⟨_, rfl⟩), hFE.dr ⟨_, rfl⟩⟩
          case measure => simp [intOf]; omega
      · have hsplit : (nn < 0) ∨ ((0 ≤ nn) ∧ (l.length : Int) - (k : Int) < nn) ∨ ((0 ≤ nn) ∧ nn ≤ (l.length : Int) - (k : Int)) := by omega
        rcases hsplit with hcs | hcs | ⟨hlo, hhi⟩
        · go_wp2_with (first
            | (go_at_call 14; refine (take_neg g nn _ hcs).mono ?_; rintro e wa ⟨rfl, hda⟩)
            | (go_at_call 11; refine (rtake_neg gr nn _ hcs).mono ?_; rintro e wb ⟨rfl, hdb⟩)
            | (go_at_call 15; (with_reducible refine (bytes_any none none 0 0 0 0 [] [] _ (Rd.nil_ _) (Rd.nil_ _)).mono ?_); rintro e wE ⟨rfl, hde⟩; simp only [HB.out]))
          go_rounds 1
          have hdE : Dr wr wE := by rw [← hde]; exact hda.trans hdb
          obtain ⟨kE, hcE, hrE, hbE, hFE⟩ : ∃ kE, Cur wE gr g l kE ∧ CurR wE w.heap.size gr l kE ∧ Bk wE go 5 (u8s (l ++ [71, 71, 71])) ∧ Fr No w wE := ⟨k, hc.dr hdE, hr.dr hdE, hb.no hdE.fr, hF.dr hdE⟩
          obtain ⟨hkE, _⟩ := hcE.le
          have hnE := hrE.cellN
          have f1 : ((l.length : Int) - (kE : Int) != (l.length : Int) - (kE : Int)) = false := by simp
          have f2 : ((kE : Int) != (kE : Int)) = false := by simp
          go_quiet ((first | (go_at_call 16; exact quiet_dr (left_any g l kE _ (hcE.dr ⟨_, rfl⟩))) | (go_at_call 17; exact quiet_dr (at_any g l kE _ (hcE.dr ⟨_, rfl⟩)))))
          go_wp2
          go_roundw
          case rel => exact ⟨j + 1, kE, by omega, by omega, by go_num, hcE.dr ⟨_, rfl⟩, hrE.dr ⟨_, rfl⟩, hbE.no (Dr.fr ⟨_, rfl⟩), hFE.dr ⟨_, rfl⟩⟩
          case measure => simp [intOf]; omega
        · go_wp2_with (first
            | (go_at_call 14; refine (take_short g nn l k _ hc hcs.1 hcs.2).mono ?_; rintro e wa ⟨rfl, hda⟩)
            | (go_at_call 11; refine (rtake_short gr nn l k _ (hr.dr hda) hcs.1 hcs.2).mono ?_; rintro e wb ⟨rfl, hdb⟩)
            | (go_at_call 15; (with_reducible refine (bytes_any none none 0 0 0 0 [] [] _ (Rd.nil_ _) (Rd.nil_ _)).mono ?_); rintro e wE ⟨rfl, hde⟩; simp only [HB.out]))
          go_rounds 1
          have hdE : Dr wr wE := by rw [← hde]; exact hda.trans hdb
          obtain ⟨kE, hcE, hrE, hbE, hFE⟩ : ∃ kE, Cur wE gr g l kE ∧ CurR wE w.heap.size gr l kE ∧ Bk wE go 5 (u8s (l ++ [71, 71, 71])) ∧ Fr No w wE := ⟨k, hc.dr hdE, hr.dr hdE, hb.no hdE.fr, hF.dr hdE⟩
          obtain ⟨hkE, _⟩ := hcE.le
          have hnE := hrE.cellN
          have f1 : ((l.length : Int) - (kE : Int) != (l.length : Int) - (kE : Int)) = false := by simp
          have f2 : ((kE : Int) != (kE : Int)) = false := by simp
          go_quiet ((first | (go_at_call 16; exact quiet_dr (left_any g l kE _ (hcE.dr ⟨_, rfl⟩))) | (go_at_call 17; exact quiet_dr (at_any g l kE _ (hcE.dr ⟨_, rfl⟩)))))
          go_wp2
          go_roundw
          case rel => exact ⟨j + 1, kE, by omega, by omega, by go_num, hcE.dr ⟨_, rfl⟩, hrE.dr ⟨_, rfl⟩, hbE.no (Dr.fr ⟨_, rfl⟩), hFE.dr ⟨_, rfl⟩⟩
          case measure => simp [intOf]; omega
        · obtain ⟨p, rfl⟩ := Int.eq_ofNat_of_zero_le (show 0 ≤ nn by omega)
          have hs : k + p ≤ l.length := by omega
          go_wp2_with (first
            | (go_at_call 14; refine (take_ok g p l k _ hc hs (by omega)).mono ?_; rintro e wa ⟨v, rfl, hv, hca, hfa⟩; obtain ⟨V, vc, rfl, hrv, hVb⟩ := Rd.of_own hv; have hra : CurR wa w.heap.size gr l k := hr.just hfa (by omega) hgB)
            | (go_at_call 11; refine (rtake_ok gr p l k _ hra hs (by omega)).mono ?_; rintro e wb ⟨v2, rfl, hv2, hrb, hfb⟩; obtain ⟨V2, vc2, rfl, hrv2, hVb2⟩ := Rd.of_own hv2; have hvb := hfb.own hv (fun G e e2 => by have := (hv.lt G e).1; have e3 : G = gr := e2; have := hc.bound.2; have := hr.lt; omega); obtain ⟨_, _, he0, hrvb, _⟩ := Rd.of_own hvb; cases he0)
            | (go_at_call 15; (with_reducible refine (bytes_any _ _ _ _ _ _ _ _ wb hrvb hrv2).mono ?_); rintro e wc ⟨rfl, rfl⟩; simp only [HB.out]))
          have hcb : Cur wb gr g l (k + p) := hca.just hfb (Nat.le_refl _)
          have hbb : Bk wb go 5 (u8s (l ++ [71, 71, 71])) := (hb.fr hfa (fun e => by have : go = g := e; omega)).fr hfb (fun e => by have : go = gr := e; omega)
          have hFb : Fr No w wb := (hF.trans_just hfa hgB).trans_just hfb hs2
          have hbase : gr < wr.heap.size := hr.lt
          have hub : ∀ i, i < p → ∃ x : UInt8, (u8s ((l.drop k).take p))[i]? = some (.int .u8 (x.toNat : Int)) := fun i hi => ⟨_, u8s_get _ i (by rw [List.length_take, List.length_drop]; omega)⟩
          generalize u8s ((l.drop k).take p) = ys at *
          generalize wr.heap.size = base at *
          clear hv hv2 hrvb hrv2 hrv hVb hVb2 hca hfa hra hfb
          go_loopw [83] (fun i wr => ∃ (q : Nat) (zs : List Value), q ≤ p ∧ i = .int .i64 (q : Int) ∧ wr.ownsRow base 5 1 (.slice V p vc) p zs ∧ (∀ i, q ≤ i → i < p → ∃ x : UInt8, zs[i]? = some (.int .u8 (x.toNat : Int))) ∧ Cur wr gr g l (k + p) ∧ CurR wr w.heap.size gr l (k + p) ∧ Bk wr go 5 (u8s (l ++ [71, 71, 71])) ∧ Fr No w wr) (fun i _ => p - (intOf i).toNat)
          case atStart => exact ⟨0, ys, by omega, rfl, hvb, fun i _ hi => hub i hi, hcb, hrb, hbb, hFb⟩
          case round =>
            clear hvb hub hcb hrb hbb hFb
            obtain ⟨q, zs, hq, rfl, hv, hub, hcE, hrE, hbE, hFE⟩ := hrel
            rcases Nat.lt_or_ge q p with hqp | hqp
            · obtain ⟨gv, vcap, hform, hgv, hgl⟩ := hv.form (by omega)
              obtain ⟨x, hx⟩ := hub q (Nat.le_refl _) hqp
              simp only [Value.slice.injEq, true_and] at hform
              obtain ⟨rfl, rfl⟩ := hform
              have hcq := hv.cellAt q (by omega)
              rw [hx] at hcq
              have hfq := hv.frozenAt q
              have hub2 := fun i (h1 : q + 1 ≤ i) (h2 : i < p) => hub i (by omega) h2
              have HU := Lib.hid hub2
              clear hub hub2 hx
              go_wp2
              go_roundw
              case rel =>
                have hff : ∀ (X : World) (u : Value), Fr (Just gv) X (X.setCell ⟨gv, q, none⟩ u) := fun X u => (Fr.refl _ X).setCell (p := ⟨gv, q, none⟩) (.inl (Just.at gv)) u
                exact ⟨q + 1, _, by omega, by go_num, (hv.stored q _).1, fun i h1 h2 => by rw [List.getElem?_set_ne (by omega)]; exact HU.out i h1 h2, hcE.just (hff _ _) (by omega), hrE.just (hff _ _) (by omega) (by omega), hbE.fr (hff _ _) (fun e => by have : go = gv := e; omega), hFE.trans_just (hff _ _) (by omega)⟩
              case measure => simp [intOf]; omega
            · obtain rfl : q = p := by omega
              obtain ⟨kE, hcE, hrE, hbE, hFE⟩ : ∃ kE, Cur wr gr g l kE ∧ CurR wr w.heap.size gr l kE ∧ Bk wr go 5 (u8s (l ++ [71, 71, 71])) ∧ Fr No w wr := ⟨k + q, hcE, hrE, hbE, hFE⟩
              go_wp2
              obtain ⟨hkE, _⟩ := hcE.le
              have hnE := hrE.cellN
              have f1 : ((l.length : Int) - (kE : Int) != (l.length : Int) - (kE : Int)) = false := by simp
              have f2 : ((kE : Int) != (kE : Int)) = false := by simp
              go_quiet ((first | (go_at_call 16; exact quiet_dr (left_any g l kE _ (hcE.dr ⟨_, rfl⟩))) | (go_at_call 17; exact quiet_dr (at_any g l kE _ (hcE.dr ⟨_, rfl⟩)))))
              go_wp2
              go_roundw
              case rel => exact ⟨j + 1, kE, by omega, by omega, by go_num, hcE.dr ⟨_, rfl⟩, hrE.dr ⟨_, rfl⟩, hbE.no (Dr.fr ⟨_, rfl⟩), hFE.dr ⟨_, rfl⟩⟩
              case measure => simp [intOf]; omega
    · have hend : m ≤ j ∨ 60 ≤ j := by omega
      clear hlt
      rcases hend with hend | hend
      all_goals
        go_wp2_with (go_at_call 18; refine (kept8_any _ _ _ _ l 71 _ (ha.no hF) hb (by omega)).mono ?_; rintro e w6 ⟨rfl, hd6⟩)
      all_goals
        go_ret
        exact ⟨rfl, hF.dr hd6⟩
end Go.Proofs.Ytcbcgciebppjaaa
