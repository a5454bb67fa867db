/- The texts IsoP1, IsoP2, IsoP3, IsoP4, joined. -/
import Derived.Test.YthlgnmgjfgbffaaGreatDoorL04
import Derived.Test.YthlgnmgjfgbffaaGreatDoorL10
import Derived.Test.YthlgnmgjfgbffaaGreatDoorL09
import Derived.Test.YthlgnmgjfgbffaaGreatDoorL40
import Derived.Test.YthlgnmgjfgbffaaGreatDoorL03
import Derived.Test.YthlgnmgjfgbffaaGreatDoorL13
import Derived.BigQuiet
import Derived.Test.YthlgnmgjfgbffaaGreatDoorL14
import Derived.Test.YthlgnmgjfgbffaaGreatDoorL21
/- Package iso: the reader: what is left, going on behind what was read, the first two steps and the last one. -/
namespace Go.Proofs.YthlgnmgjfgbffaaGreatDoor
open Go.RowKit
set_option maxHeartbeats 1000000
set_option linter.unusedVariables false
set_option maxRecDepth 20000

/-- a reader at block g, its cursor at G; b is what it reads (A, c: as it is), k bytes were taken -/
structure Rs (w : World) (g G : Nat) (A : Option Addr) (c : Nat) (b : List UInt8) (k : Nat) (mt : ByteArray) (va vl : Value) : Prop where
  bk : Bk w g 84 [.string mt, va, .pointer (some ⟨G, 0, none⟩), .slice A b.length c, vl]
  cur : Cur w g G b k
  rd : Rd w A b.length c (u8s b)
  blk : 0 < b.length → ∀ ad, A = some ad → ad.block < G
/-- the cursor's and the reader's own blocks -/
def IsoB (G g : Nat) : Nat → Prop := fun i => i = G ∨ i = g
section
variable {w w' : World} {g G : Nat} {A : Option Addr} {c : Nat} {b : List UInt8} {k k' : Nat} {mt : ByteArray} {va vl : Value}
theorem Rs.cells (h : Rs w g G A c b k mt va vl) :
    w.cell? ⟨g, 0, none⟩ = some (.string mt) ∧ w.cell? ⟨g, 1, none⟩ = some va ∧ w.cell? ⟨g, 2, none⟩ = some (.pointer (some ⟨G, 0, none⟩)) ∧ w.cell? ⟨g, 3, none⟩ = some (.slice A b.length c) ∧ w.cell? ⟨g, 4, none⟩ = some vl ∧
    (∀ i, w.frozen? ⟨g, i, none⟩ = false) := ⟨h.bk.cell 0, h.bk.cell 1, h.bk.cell 2, h.bk.cell 3, h.bk.cell 4, h.bk.frozen⟩
theorem Rs.lt (h : Rs w g G A c b k mt va vl) : G < g ∧ g < w.heap.size := ⟨h.cur.bound.1, h.bk.lt⟩
theorem Rs.far {S : Nat → Prop} (h : Rs w g G A c b k mt va vl) (hf : Fr S w w') (hS : ∀ i, i ≤ g → ¬ S i) : Rs w' g G A c b k mt va vl :=
  ⟨h.bk.fr hf (hS g (Nat.le_refl _)), h.cur.fr hf (fun i hi => hS i (Nat.le_of_lt hi)), rd_far h.rd hf (fun h0 ad e => hS _ (Nat.le_of_lt (Nat.lt_trans (h.blk h0 ad e) h.lt.1))), h.blk⟩
theorem Rs.no (h : Rs w g G A c b k mt va vl) (hf : Fr No w w') : Rs w' g G A c b k mt va vl := h.far hf (fun _ _ x => x)
theorem Rs.dr (h : Rs w g G A c b k mt va vl) (hf : Dr w w') : Rs w' g G A c b k mt va vl := h.no hf.fr
theorem Rs.step (h : Rs w g G A c b k mt va vl) (hf : Fr (Just G) w w') (hc : Cur w' g G b k') : Rs w' g G A c b k' mt va vl :=
  ⟨h.bk.fr hf (fun e => by have := h.lt.1; have : g = G := e; omega), hc, rd_far h.rd hf (fun h0 ad e x => by have := h.blk h0 ad e; have : ad.block = G := x; omega), h.blk⟩
theorem Rs.setJ (h : Rs w g G A c b k mt va vl) (o : Nat) (v : Value) : Cur (w.setCell ⟨g, o, none⟩ v) g G b k ∧ Rd (w.setCell ⟨g, o, none⟩ v) A b.length c (u8s b) :=
  ⟨h.cur.just ((Fr.refl (Just g) w).setCell (.inl (Just.at g)) _) (Nat.le_refl _), rd_far h.rd ((Fr.refl (Just g) w).setCell (.inl (Just.at g)) _) (fun h0 ad e x => by have := h.blk h0 ad e; have := h.lt.1; have : ad.block = g := x; omega)⟩
theorem Rs.setM (h : Rs w g G A c b k mt va vl) (s : ByteArray) : Rs (w.setCell ⟨g, 0, none⟩ (.string s)) g G A c b k s va vl := ⟨h.bk.set_ 0 _, (h.setJ 0 _).1, (h.setJ 0 _).2, h.blk⟩
theorem Rs.setA (h : Rs w g G A c b k mt va vl) (v : Value) : Rs (w.setCell ⟨g, 1, none⟩ v) g G A c b k mt v vl := ⟨h.bk.set_ 1 _, (h.setJ 1 _).1, (h.setJ 1 _).2, h.blk⟩
theorem Rs.setL (h : Rs w g G A c b k mt va vl) (v : Value) : Rs (w.setCell ⟨g, 4, none⟩ v) g G A c b k mt va v := ⟨h.bk.set_ 4 _, (h.setJ 4 _).1, (h.setJ 4 _).2, h.blk⟩
theorem isob_G (h : Fr (Just G) w w') : Fr (IsoB G g) w w' := h.mono (fun _ x => .inl x)
theorem isob_set (h : Fr (IsoB G g) w w') (o : Nat) (v : Value) : Fr (IsoB G g) w (w'.setCell ⟨g, o, none⟩ v) := h.setCell (.inl (.inr rfl)) v
theorem Rs.caps (h : Rs w g G A c b k mt va vl) : k ≤ b.length ∧ b.length ≤ c ∧ c ≤ 9223372036854775807 := by
  have h1 := h.cur.le.1
  have h2 := h.rd.cap
  have h3 := h.rd.max
  simp only [maxLen] at h3
  exact ⟨h1, h2, by omega⟩
/-- what is left -/
theorem iso_rest (h : Rs w g G A c b k mt va vl) :
    Calls Tryz.prog 79 #[.pointer (some ⟨g, 0, none⟩)] w fun e w' => e = .returned (.slice (cutA A c k) (b.length - k) (c - k)) ∧ Dr w w' := by
  obtain ⟨h1, h2, h3⟩ := h.caps
  obtain ⟨-, -, c2, c3, -, -⟩ := h.cells
  have HA := Lib.hid (fun u (hu : Dr w u) => at_any G b k u (h.cur.dr hu))
  obtain ⟨m, hm⟩ : ∃ m, b.length = m := ⟨_, rfl⟩
  rw [hm] at c3 h1 h2 ⊢
  clear h hm
  go_enter Tryz.func79, Tryz.ntmps79
  go_wp2
  go_quiet ((go_at_call 129; exact quiet_dr (HA.out _ (by first | assumption | exact (Dr.refl _).drewN _ | exact (Dr.refl _).drew | exact Dr.refl _))))
  go_wp2
  · go_ret
    have hc : cutA A k k = A := if_pos rfl
    exact ⟨by rw [hc]; rfl, (Dr.refl _).drewN _⟩
  · have hc : cutA A c k = A.map (·.add k) := if_neg (by assumption)
    go_ret
    exact ⟨by rw [hc]; rfl, (Dr.refl _).drewN _⟩
/-- going on fails if that failed -/
theorem iso_past_no (h : Rs w g G A c b k mt va vl) (n E : Int) (hE : E ≠ 0) :
    Calls Tryz.prog 80 #[.pointer (some ⟨g, 0, none⟩), .int .i64 n, .int .i64 E] w fun e w' => e = .returned (.int .i64 E) ∧ w = w' := by
  have hEb : (E == 0) = false := by rw [beq_eq_false_iff_ne]; exact hE
  clear h hE
  go_enter Tryz.func80, Tryz.ntmps80
  go_wp2
  go_ret
  exact ⟨rfl, rfl⟩
theorem iso_past (h : Rs w g G A c b k mt va vl) (m : Nat) (hs : k + m ≤ b.length) (hb : b.length ≤ 140737488355328) :
    Calls Tryz.prog 80 #[.pointer (some ⟨g, 0, none⟩), .int .i64 (m : Int), .int .i64 0] w fun e w' => e = .returned (.int .i64 0) ∧ Rs w' g G A c b (k + m) mt va vl ∧ Fr (Just G) w w' := by
  obtain ⟨-, -, c2, -, -, -⟩ := h.cells
  have HT := Lib.hid (take_ok G m b k w h.cur hs hb)
  have H := Lib.hid h
  clear h hs hb
  go_enter Tryz.func80, Tryz.ntmps80
  go_wp2_with (go_at_call 130; refine HT.out.mono ?_; rintro e w1 ⟨v, rfl, -, hc, hf⟩; have F1 := Lib.hid hf; have C1 := Lib.hid hc; clear hc hf)
  go_ret
  exact ⟨rfl, H.out.step F1.out C1.out, F1.out⟩
/-- the message type: too short, or read -/
theorem iso_begin_no (h : Rs w g G A c b 0 mt va vl) (hs : b.length < 4) :
    Calls Tryz.prog 42 #[.pointer (some ⟨g, 0, none⟩)] w fun e w' => e = .returned (.int .i64 3) ∧ Fr (Just g) w w' := by
  obtain ⟨c0, -, c2, -, -, cf⟩ := h.cells
  have z0 := cf 0
  have HT := Lib.hid (text_short G 4 b 0 w h.cur (by omega) (by omega))
  have H := Lib.hid h
  clear h hs cf
  go_enter Tryz.func42, Tryz.ntmps42
  go_wp2_with (go_at_call 77; refine HT.out.mono ?_; rintro e w1 ⟨rfl, hd⟩; have F1 := Lib.hid hd; have d0 := (Dr.fr (S := No) hd).cell c0 (fun x => x); have y0 := (H.out.dr hd).cells.2.2.2.2.2 0; clear hd)
  go_ret
  exact ⟨rfl, (Dr.fr (S := Just g) F1.out).setCell (.inl (Just.at g)) _⟩
theorem iso_begin (h : Rs w g G A c b 0 mt va vl) (hs : 4 ≤ b.length) :
    Calls Tryz.prog 42 #[.pointer (some ⟨g, 0, none⟩)] w fun e w' => e = .returned (.int .i64 0) ∧ Rs w' g G A c b 4 (bstr (b.take 4)) va vl ∧ Fr (IsoB G g) w w' := by
  obtain ⟨c0, -, c2, -, -, -⟩ := h.cells
  have ht := text_ok G 4 b 0 w h.cur (by omega)
  rw [List.drop_zero, Nat.zero_add] at ht
  obtain ⟨S, hS⟩ : ∃ S, bstr (b.take 4) = S := ⟨_, rfl⟩
  rw [hS] at ht ⊢
  have HT := Lib.hid ht
  have H := Lib.hid h
  clear h hs ht hS
  go_enter Tryz.func42, Tryz.ntmps42
  go_wp2_with (go_at_call 77; refine HT.out.mono ?_; rintro e w1 ⟨rfl, hc, hf⟩; have F1 := Lib.hid hf; have R1 := Lib.hid (H.out.step hf hc); have d0 := R1.out.cells.1; have y0 := R1.out.cells.2.2.2.2.2 0; clear hc hf)
  go_ret
  exact ⟨rfl, R1.out.setM _, isob_set (isob_G F1.out) _ _⟩
end
/-- whether the message type may be (the reader's and the writer's) -/
theorem iso_right {w : World} {g : Nat} {mt : ByteArray} (c0 : w.cell? ⟨g, 0, none⟩ = some (.string mt)) (hm : mt.size ≤ maxLen) :
    Calls Tryz.prog 43 #[.pointer (some ⟨g, 0, none⟩)] w fun e w' => e = .returned (.int .i64 (if rightB mt.data.toList 4 4 = true then 0 else 5)) ∧ w = w' := by
  have HR := Lib.hid (fun u => right_any mt 4 4 u hm)
  have HU1 := Lib.hid (fun u => unless_any true 5 u)
  have HU0 := Lib.hid (fun u => unless_any false 5 u)
  rw [if_pos rfl] at HU1
  rw [if_neg (by decide)] at HU0
  clear hm
  cases hR : rightB mt.data.toList 4 4
  all_goals
    rw [hR] at HR
    clear hR
    go_enter Tryz.func43, Tryz.ntmps43
    go_wp2_with (first
      | (go_at_call 55; refine (HR.out _).mono ?_; rintro e w1 ⟨rfl, rfl⟩)
      | (go_at_call 49; (with_reducible first | refine (HU1.out _).mono ?_ | refine (HU0.out _).mono ?_); rintro e w1 ⟨rfl, rfl⟩))
    go_ret
    exact ⟨rfl, rfl⟩
/-- whether all was read -/
theorem iso_end {w : World} {g G : Nat} {A : Option Addr} {c : Nat} {b : List UInt8} {k : Nat} {mt : ByteArray} {va vl : Value} (h : Rs w g G A c b k mt va vl) :
    Calls Tryz.prog 46 #[.pointer (some ⟨g, 0, none⟩)] w fun e w' => e = .returned (.int .i64 (if k = b.length then 0 else 17)) ∧ Dr w w' := by
  obtain ⟨-, -, c2, -, -, -⟩ := h.cells
  have hk := h.caps.1
  have hl := left_any G b k w h.cur
  have HU1 := Lib.hid (fun u => unless_any true 17 u)
  have HU0 := Lib.hid (fun u => unless_any false 17 u)
  rw [if_pos rfl] at HU1
  rw [if_neg (by decide)] at HU0
  obtain ⟨z, hz⟩ : ∃ z : Int, (b.length : Int) - (k : Int) = z := ⟨_, rfl⟩
  rw [hz] at hl
  by_cases e : k = b.length
  · obtain rfl : z = 0 := by omega
    rw [if_pos e]
    have HL := Lib.hid hl
    clear h hk hl hz e
    go_enter Tryz.func46, Tryz.ntmps46
    go_wp2_with (first
      | (go_at_call 83; refine (HL.out).mono ?_; rintro e w1 ⟨rfl, d1⟩; have D1 := Lib.hid d1; clear d1)
      | (go_at_call 49; refine (HU1.out _).mono ?_; rintro e w2 ⟨rfl, rfl⟩))
    go_ret
    exact ⟨rfl, D1.out⟩
  · have z0 : (z == 0) = false := by rw [beq_eq_false_iff_ne]; omega
    rw [if_neg e]
    have HL := Lib.hid hl
    clear h hk hl hz e
    go_enter Tryz.func46, Tryz.ntmps46
    go_wp2_with (first
      | (go_at_call 83; refine (HL.out).mono ?_; rintro e w1 ⟨rfl, d1⟩; have D1 := Lib.hid d1; clear d1)
      | (go_at_call 49; refine (HU0.out _).mono ?_; rintro e w2 ⟨rfl, rfl⟩))
    go_ret
    exact ⟨rfl, D1.out⟩
end Go.Proofs.YthlgnmgjfgbffaaGreatDoor
/- Package iso: the reader: which elements are there, and one of them. -/
namespace Go.Proofs.YthlgnmgjfgbffaaGreatDoor
open Go.RowKit
set_option maxHeartbeats 1000000
set_option linter.unusedVariables false
set_option maxRecDepth 20000

theorem par_len {x : List UInt8} (h : parE x = 0) : parN x ≤ x.length := by
  by_cases h8 : x.length < 8 ∨ x.length < mapN x
  · rw [(bm_bad3 h8).1] at h; cases h
  · have hm : mapN x ≤ x.length := by omega
    cases hb : mapBad x with
    | true => rw [(bm_bad6 hm hb).1] at h; cases h
    | false => rw [(bm_good hm hb).2.1]; exact hm
theorem rdEl_len (no : Int) (x : List UInt8) (h : reE no x = 0) : reN no x ≤ x.length := (el_fwd h).2.2
section
variable {w w' : World} {g G : Nat} {A : Option Addr} {c : Nat} {b : List UInt8} {k k' : Nat} {mt : ByteArray} {va vl : Value}
theorem Rs.rest (h : Rs w g G A c b k mt va vl) : Rd w (cutA A c k) (b.length - k) (c - k) (u8s (b.drop k)) := rd_rest h.rd h.caps.1
def NumEnd (w : World) (g G : Nat) (A : Option Addr) (c : Nat) (b : List UInt8) (k : Nat) (mt : ByteArray) (va : Value) (e : Ending) (w' : World) : Prop :=
  e = .returned (.int .i64 (parE (b.drop k))) ∧ Fr (IsoB G g) w w' ∧ (parE (b.drop k) = 0 → ∃ L cl, Rs w' g G A c b (k + parN (b.drop k)) mt va (.slice L (parL (b.drop k)).length cl) ∧ Rd w' L (parL (b.drop k)).length cl (ints (parL (b.drop k))) ∧ ∀ ad, L = some ad → w.heap.size ≤ ad.block)
theorem iso_numbers (h : Rs w g G A c b k mt va vl) (hb : b.length ≤ 4096) :
    Calls Tryz.prog 44 #[.pointer (some ⟨g, 0, none⟩)] w (NumEnd w g G A c b k mt va) := by
  have hk := h.caps.1
  have HRE := Lib.hid (iso_rest h)
  have HP := Lib.hid (fun u (hu : Dr w u) => bm_parse_any _ _ _ _ u (h.rest.dr hu) (by omega))
  have hdl : (b.drop k).length = b.length - k := List.length_drop
  have H := Lib.hid h
  have HPL := Lib.hid (fun hE : parE (b.drop k) = 0 => show k + parN (b.drop k) ≤ b.length by have := par_len hE; omega)
  unfold NumEnd
  clear hdl
  generalize parN (b.drop k) = N at *
  generalize parL (b.drop k) = LL at *
  generalize parE (b.drop k) = E at *
  obtain ⟨q, hq⟩ : ∃ q, b.length - k = q := ⟨_, rfl⟩
  obtain ⟨d, hd⟩ : ∃ d, c - k = d := ⟨_, rfl⟩
  obtain ⟨B, hB⟩ : ∃ B, cutA A c k = B := ⟨_, rfl⟩
  rw [hq, hd, hB] at HRE HP
  have HBL := Lib.hid hb; have HK := Lib.hid hk
  clear h hq hd hB hb hk
  by_cases hE : E = 0
  · subst hE
    have HS := Lib.hid (HPL.out rfl)
    go_enter Tryz.func44, Tryz.ntmps44
    go_wp2_with (first
      | (go_at_call 79; refine (HRE.out).mono ?_; rintro e w1 ⟨rfl, d1⟩; have D1 := Lib.hid d1; clear d1)
      | (go_at_call 78; refine (HP.out _ D1.out).mono ?_; rintro e w2 ⟨v, rfl, ho, f2⟩; obtain ⟨L, cl, rfl, hrd, hbl⟩ := Rd.of_own ho; have R2 := Lib.hid ((H.out.dr D1.out).no f2); have F2 := Lib.hid (D1.out.fr.trans f2); have RL := Lib.hid hrd; have BL := Lib.hid hbl; have c4 := R2.out.cells.2.2.2.2.1; have z4 := R2.out.cells.2.2.2.2.2 4; clear ho f2 hrd hbl)
      | (go_at_call 80; refine (iso_past (R2.out.setL (.slice L LL.length cl)) N HS.out (by have := HBL.out; omega)).mono ?_; rintro e w3 ⟨rfl, hr3, f3⟩; have R3 := Lib.hid hr3; have F3 := Lib.hid f3; clear hr3 f3))
    go_ret
    have hne : ∀ ad, L = some ad → 0 < LL.length → ad.block ≠ g ∧ ad.block ≠ G := fun ad e h0 => by
      have h1 := (BL.out ad e).1
      have h2 := H.out.lt
      have h3 := D1.out.fr.size (S := No)
      omega
    refine ⟨rfl, (isob_set (F2.out.no) _ _).trans (isob_G F3.out), fun _ => ⟨L, cl, R3.out, ?_, fun ad e => by have := (BL.out ad e).1; have h3 := D1.out.fr.size (S := No); omega⟩⟩
    exact rd_far (rd_far RL.out ((Fr.refl (Just g) w2).setCell (p := ⟨g, 4, none⟩) (.inl (Just.at g)) _) (fun h0 ad e => (hne ad e h0).1)) F3.out (fun h0 ad e => (hne ad e h0).2)
  · have HE := Lib.hid hE
    clear hE
    go_enter Tryz.func44, Tryz.ntmps44
    go_wp2_with (first
      | (go_at_call 79; refine (HRE.out).mono ?_; rintro e w1 ⟨rfl, d1⟩; have D1 := Lib.hid d1; clear d1)
      | (go_at_call 78; refine (HP.out _ D1.out).mono ?_; rintro e w2 ⟨v, rfl, ho, f2⟩; obtain ⟨L, cl, rfl, hrd, hbl⟩ := Rd.of_own ho; have R2 := Lib.hid ((H.out.dr D1.out).no f2); have F2 := Lib.hid (D1.out.fr.trans f2); have c4 := R2.out.cells.2.2.2.2.1; have z4 := R2.out.cells.2.2.2.2.2 4; clear ho f2 hrd hbl)
      | (go_at_call 80; refine (iso_past_no (R2.out.setL (.slice L LL.length cl)) N E HE.out).mono ?_; rintro e w3 ⟨rfl, rfl⟩))
    go_ret
    exact ⟨rfl, isob_set (F2.out.no) _ _, fun h => absurd h HE.out⟩
end
def ElmEnd (w : World) (g G : Nat) (A : Option Addr) (c : Nat) (b : List UInt8) (p : Nat) (mt : ByteArray) (va vl : Value) (base : Nat) (es : List El) (n : Int) (e : Ending) (w' : World) : Prop :=
  e = .returned (.int .i64 (reE n (b.drop p))) ∧ Fr (fun i => IsoB G g i ∨ va.ownBlock = some i) w w' ∧ (reE n (b.drop p) = 0 → ∃ va', Rs w' g G A c b (p + reN n (b.drop p)) mt va' vl ∧ OwnE w' base va' (es ++ [(n, reL n (b.drop p))]) ∧ (va'.ownBlock = va.ownBlock ∨ ∃ i, va'.ownBlock = some i ∧ w.heap.size ≤ i))
theorem iso_element {w : World} {g G : Nat} {A : Option Addr} {c : Nat} {b : List UInt8} {p : Nat} {mt : ByteArray} {va vl : Value} {base : Nat} {es : List El} {n : Int} (h : Rs w g G A c b p mt va vl) (ho : OwnE w base va es) (hg : g < base) (hbase : base ≤ w.heap.size) (hes : es.length ≤ 1000) (hn : (Lit.int .i64 n).wf = true) (hb : b.length ≤ 4096) (hT : Tabs w) :
    Calls Tryz.prog 82 #[.pointer (some ⟨g, 0, none⟩), .int .i64 n] w (ElmEnd w g G A c b p mt va vl base es n) := by
  have hk := h.caps.1
  obtain ⟨x, hx⟩ : ∃ x, b.drop p = x := ⟨_, rfl⟩
  have hxl : b.length - p = x.length := by rw [← hx, List.length_drop]
  have HRE := Lib.hid (iso_rest h)
  have hrx := h.rest
  rw [hx, hxl] at hrx
  rw [hxl] at HRE
  have HP := Lib.hid (fun u (hu : Dr w u) => el_read_any n _ _ x u (hrx.dr hu) (hT.dr hu))
  have H := Lib.hid h; have HO := Lib.hid ho
  have HPL := Lib.hid (fun hE : reE n x = 0 => show p + reN n x ≤ b.length by have := rdEl_len n x hE; omega)
  unfold ElmEnd
  rw [hx]
  have HEL := Lib.hid hes; have HBL := Lib.hid hb; have HG := Lib.hid hg; have HBA := Lib.hid hbase; have HN := Lib.hid hn
  clear hx hrx hxl hk h hb hT hg hbase hes hn
  obtain ⟨vA, vc, rfl, -⟩ := ho.rd' (M := fun _ => True) (fun _ _ => trivial) tag_ok (fun _ _ => trivial)
  clear ho
  generalize reL n x = D at *
  generalize reN n x = N at *
  generalize reE n x = E at *
  generalize x.length = xl at *
  obtain ⟨B, hB⟩ : ∃ B, cutA A c p = B := ⟨_, rfl⟩
  obtain ⟨d, hd⟩ : ∃ d, c - p = d := ⟨_, rfl⟩
  rw [hB, hd] at HRE HP
  clear hB hd
  go_enter Tryz.func82, Tryz.ntmps82
  go_upto_region 2 with (first
      | (go_at_call 79; refine (HRE.out).mono ?_; rintro e w1 ⟨rfl, d1⟩; have D1 := Lib.hid d1; clear d1)
      | (go_at_call 131; refine (HP.out _ D1.out).mono ?_; rintro e w2 ⟨v, rfl, ho2, f2⟩; obtain ⟨L, cl, rfl, hrd, hbl⟩ := Rd.of_own ho2; have R2 := Lib.hid ((H.out.dr D1.out).no f2); have F2 := Lib.hid ((Dr.fr (S := No) D1.out).trans f2); have RL := Lib.hid hrd; have BL := Lib.hid (fun ad e => (⟨Nat.le_trans (Dr.fr (S := No) D1.out).size (hbl ad e).1, (hbl ad e).2⟩ : w.heap.size ≤ ad.block ∧ ad.block < w2.heap.size)); have c1 := R2.out.cells.2.1; clear ho2 f2 hrd hbl))
  have hrl : D.length ≤ 9223372036854775807 := by have h1 := RL.out.cap; have h2 := RL.out.max; simp only [maxLen] at h2; omega
  have HRL := Lib.hid hrl
  have HO2 := Lib.hid (OwnI.no tag_ok HO.out F2.out)
  have HVB := Lib.hid (fun i (e : (Value.slice vA es.length vc).ownBlock = some i) => HO.out.lt i e)
  have HB2 := Lib.hid (Nat.le_trans HBA.out F2.out.size)
  obtain ⟨dl, hdl⟩ : ∃ dl, D.length = dl := ⟨_, rfl⟩
  rw [hdl] at RL HRL ⊢
  clear hrl hdl HP HRE
  have e1 : ∀ ob, (w2.alloc ob).cell? ⟨g, 1, none⟩ = some (.slice vA es.length vc) := fun ob => ((Fr.refl No w2).alloc ob).cell c1 (fun x => x)
  go_upto_region 3 with (at_builtin; go_must (refine ap_elm1 w2 rfl (.tmp 21) (.tmp 25) rfl base (.slice vA es.length vc) es.length es (IsoN base w (.slice vA es.length vc)) (fun i => w.heap.size ≤ i ∧ i < w2.heap.size) rfl HO2.out (n, D) [.int .i64 n, .slice L dl cl] ⟨L, dl, cl, rfl, RL.out, fun ad e _ => BL.out ad e, HN.out, HRL.out⟩ _ _ rfl rfl (by have := HEL.out; omega) HB2.out (fun i hi => hi.2.2) (fun i hi e => by have := (HVB.out i e).2; omega) ?_); intro v2 w4 ho4 hg4 hr4; obtain ⟨vA4, vc4, rfl, -⟩ := ho4.rd' (M := fun _ => True) (fun _ _ => trivial) tag_ok (fun _ _ => trivial); go_must (have HO4 := Lib.hid (owne_more F2.out HO.out ho4 hg4 hr4 HBA.out)); go_must (have F4 := Lib.hid (((Fr.refl (fun i => (Value.slice vA es.length vc).ownBlock = some i) w2).alloc (.cells #[.int .i64 n, .slice L dl cl] 24)).grown hg4 (fun i e => .inl e))); have R4 := Lib.hid (R2.out.far F4.out (fun i hi e => by have := (HVB.out i e).1; have := HG.out; omega)); have HV4 := Lib.hid hr4; have e0 := R4.out.cells.2.1; have e5 := R4.out.cells.2.2.2.2.2 1; clear ho4 hg4 hr4)
  have hf5 : Fr (fun i => IsoB G g i ∨ (Value.slice vA es.length vc).ownBlock = some i) w (w4.setCell ⟨g, 1, none⟩ (.slice vA4 (es.length + 1) vc4)) :=
    ((F2.out.no).trans (F4.out.mono (fun i e => .inr e))).setCell (.inl (.inl (.inr rfl))) _
  have hv4 : (Value.slice vA4 (es.length + 1) vc4).ownBlock = (Value.slice vA es.length vc).ownBlock ∨ ∃ i, (Value.slice vA4 (es.length + 1) vc4).ownBlock = some i ∧ w.heap.size ≤ i := by
    rcases HV4.out with h | h
    · exact .inl h
    · exact .inr ⟨_, h, by have := F2.out.size; omega⟩
  have ho5 : OwnE (w4.setCell ⟨g, 1, none⟩ (.slice vA4 (es.length + 1) vc4)) base (.slice vA4 (es.length + 1) vc4) (es ++ [(n, D)]) := HO4.out.far ((Fr.refl (Just g) w4).setCell (.inl (Just.at g)) _) (fun i hi x => by have := HG.out; have : i = g := x; omega)
  have F5 := Lib.hid hf5; have V5 := Lib.hid hv4; have O5 := Lib.hid ho5; have R5 := Lib.hid (R4.out.setA (.slice vA4 (es.length + 1) vc4))
  clear hf5 hv4 ho5 e0 e5 e1 c1
  by_cases hE : E = 0
  · subst hE
    go_wp2_with (go_at_call 80; refine (iso_past R5.out N (HPL.out rfl) (by have := HBL.out; omega)).mono ?_; rintro e w6 ⟨rfl, hr6, f6⟩; have R6 := Lib.hid hr6; have F6 := Lib.hid f6; clear hr6 f6)
    go_ret
    refine ⟨rfl, F5.out.trans ((isob_G F6.out).mono (fun i x => .inl x)), ⟨(.slice vA4 (es.length + 1) vc4), R6.out, O5.out.far F6.out (fun i hi x => ?_), V5.out⟩⟩
    have := HG.out
    have := H.out.lt
    have : i = G := x
    omega
  · have HE := Lib.hid hE
    clear hE
    go_wp2_with (go_at_call 80; refine (iso_past_no R5.out N E HE.out).mono ?_; rintro e w6 ⟨rfl, rfl⟩)
    go_ret
    exact ⟨rfl, F5.out, fun h => absurd h HE.out⟩
end Go.Proofs.YthlgnmgjfgbffaaGreatDoor
/- Package iso: the reader: all the elements; Parse. -/
namespace Go.Proofs.YthlgnmgjfgbffaaGreatDoor
open Go.RowKit
set_option maxHeartbeats 1000000
set_option linter.unusedVariables false
set_option maxRecDepth 20000

/-! ### the elements, as far as they were read -/
theorem els_norm (ns : List Int) (b : List UInt8) (h : (elsF ns b).1 ≠ 0) : elsF ns b = ((elsF ns b).1, [], 0) := by
  cases ns with
  | nil => exact absurd rfl h
  | cons n ns =>
    unfold elsF at h ⊢
    split
    · rfl
    · rename_i h1
      rw [if_neg h1] at h
      split
      · rfl
      · rename_i h2
        rw [if_neg h2] at h
        exact absurd rfl h
def elsQ (es : List El) (q : Nat) (r : Int × List El × Nat) : Int × List El × Nat := if r.1 ≠ 0 then (r.1, [], 0) else (0, es ++ r.2.1, q + r.2.2)
theorem els_start (ns : List Int) (b : List UInt8) : elsF ns b = elsQ [] 0 (elsF ns b) := by
  unfold elsQ
  by_cases h : (elsF ns b).1 ≠ 0
  · rw [if_pos h]; exact els_norm ns b h
  · rw [if_neg h, List.nil_append, Nat.zero_add]
    have h := Decidable.not_not.1 h
    rw [← h]
theorem els_next {r : Int × List El × Nat} {ns : List Int} {i : Nat} {x : List UInt8} {n : Int} {es : List El} {q : Nat} (h : r = elsQ es q (elsF (ns.drop i) x)) (hi : ns[i]? = some n) (he : reE n x = 0) :
    r = elsQ (es ++ [(n, reL n x)]) (q + reN n x) (elsF (ns.drop (i + 1)) (x.drop (reN n x))) := by
  have hil : i < ns.length := (List.getElem?_eq_some_iff.1 hi).1
  have hin : ns[i] = n := (List.getElem?_eq_some_iff.1 hi).2
  rw [h, List.drop_eq_getElem_cons hil, hin]
  generalize ns.drop (i + 1) = t
  have hu : elsF (n :: t) x = if (elsF t (x.drop (reN n x))).1 ≠ 0 then ((elsF t (x.drop (reN n x))).1, [], 0) else (0, (n, reL n x) :: (elsF t (x.drop (reN n x))).2.1, reN n x + (elsF t (x.drop (reN n x))).2.2) := by
    conv => lhs; unfold elsF
    rw [if_neg (by rw [he]; decide)]
  rw [hu]
  generalize elsF t (x.drop (reN n x)) = T
  unfold elsQ
  by_cases h2 : T.1 ≠ 0
  · rw [if_pos h2, if_pos h2, if_pos h2]
  · rw [if_neg h2, if_neg h2, if_neg (by simp), List.append_assoc, Nat.add_assoc]
    rfl
theorem els_fail {r : Int × List El × Nat} {ns : List Int} {i : Nat} {x : List UInt8} {n : Int} {es : List El} {q : Nat} (h : r = elsQ es q (elsF (ns.drop i) x)) (hi : ns[i]? = some n) (he : reE n x ≠ 0) : r.1 = reE n x := by
  have hil : i < ns.length := (List.getElem?_eq_some_iff.1 hi).1
  have hin : ns[i] = n := (List.getElem?_eq_some_iff.1 hi).2
  rw [h, List.drop_eq_getElem_cons hil, hin]
  unfold elsQ elsF
  rw [if_pos he, if_pos he]
theorem els_done {r : Int × List El × Nat} {ns : List Int} {i : Nat} {x : List UInt8} {es : List El} {q : Nat} (h : r = elsQ es q (elsF (ns.drop i) x)) (hi : ns.length ≤ i) : r = (0, es, q) := by
  rw [h, List.drop_eq_nil_of_le hi]
  unfold elsQ elsF
  rw [if_neg (by decide), List.append_nil, Nat.add_zero]

/-! ### one call for each number -/
theorem each_int (L : Option Addr) (n c : Nat) (ns : List Int) (w : World) (F : FuncId) (x : Value) (R : Nat → World → Prop) (Q : Int → World → Prop) (hlen : ns.length = n) (htop : n ≤ 9223372036854775807) (h0 : R 0 w) (hR : ∀ k u, R k u → Rd u L n c (ints ns))
    (hen : ∀ args w, (callFunc F args).run Tryz.prog w = .ok (.enter F args) w)
    (hs : ∀ k v, ns[k]? = some v → ∀ u, R k u → Calls Tryz.prog F #[x, .int .i64 v] u (SWTo (R (k + 1)) Q)) :
    Calls Tryz.prog 81 #[.slice L n c, .func (.func F) #[x] #[]] w (SWTo (R n) Q) := by
  have HR := Lib.hid hR; have HS := Lib.hid hs; have H0 := Lib.hid h0; have HL := Lib.hid hlen
  clear hR hs h0 hlen
  go_enter Tryz.func81, Tryz.ntmps81
  go_wp2
  go_loopw [10] (fun v wr => ∃ k : Nat, k ≤ n ∧ v = .int .i64 (k : Int) ∧ R k wr) (fun v _ => n - (intOf v).toNat)
  case atStart => exact ⟨0, by omega, rfl, H0.out⟩
  case round =>
    obtain ⟨k, hk, rfl, hr⟩ := hrel
    have HRK := Lib.hid hr
    clear hr
    rcases Nat.lt_or_ge k n with hkn | hge
    · obtain ⟨v, hv⟩ : ∃ v, ns[k]? = some v := ⟨_, List.getElem?_eq_getElem (by rw [HL.out]; exact hkn)⟩
      have hrd := HR.out k wr HRK.out
      obtain ⟨ad, u, rfl, hu, hc⟩ := hrd.at_ hkn
      obtain rfl : u = .int .i64 v := by
        have h2 : (ints ns)[k]? = some (.int .i64 v) := by simp [ints, hv]
        rw [h2] at hu
        injection hu with hu
        exact hu.symm
      clear hu
      have hkI : (k : Int) < (n : Int) := by omega
      have HC := Lib.hid (HS.out k v hv wr HRK.out)
      clear hrd hv
      go_upto_region 5 with ((with_reducible refine (HC.out).mono ?_); rintro e w1 ⟨E, rfl, hE⟩; have HE := Lib.hid hE; clear hE)
      by_cases hE : E = 0
      · subst hE
        have hr2 : R (k + 1) w1 := by
          rcases HE.out with ⟨_, h⟩ | ⟨h, _⟩
          · exact h
          · exact absurd rfl h
        have HR2 := Lib.hid hr2
        clear hr2 hc
        go_wp2_with fail
        go_roundw
        case rel => exact ⟨k + 1, by omega, by go_num, HR2.out⟩
        case measure => simp [intOf]; omega
      · have hEb := st_ne0 hE
        have HNE := Lib.hid hE
        clear hE hc
        go_wp2_with fail
        go_ret
        refine ⟨E, rfl, .inr ⟨HNE.out, ?_⟩⟩
        rcases HE.out with ⟨h, _⟩ | ⟨_, h⟩
        · exact absurd h HNE.out
        · exact h
    · obtain rfl : k = n := by omega
      go_wp2
      go_ret
      exact ⟨0, rfl, .inl ⟨rfl, HRK.out⟩⟩
theorem mapN_le (x : List UInt8) : mapN x = 8 ∨ mapN x = 16 := by unfold mapN; split <;> simp
theorem parL_num {x : List UInt8} {v : Int} (h : v ∈ parL x) : 2 ≤ v ∧ v ≤ 128 := by
  unfold parL at h
  split at h
  · have := (setOf_mem x (mapN x) (by rcases mapN_le x with h | h <;> omega) v).1 h
    rcases mapN_le x with h | h <;> omega
  · cases h
/-- numbers that int holds -/
theorem num_wf {v : Int} (h : 0 ≤ v ∧ v ≤ 1000) : (Lit.int .i64 v).wf = true := by simp [Lit.wf, IntKind.min, IntKind.max, IntKind.signed, IntKind.bits]; omega
theorem parL_len (x : List UInt8) : (parL x).length ≤ 127 := by
  unfold parL
  split
  · unfold setOf
    have h1 := List.length_filter_le (fun n : Int => bitAt x (n.toNat - 1)) ((List.range (8 * mapN x - 1)).map fun (k : Nat) => ((k : Int) + 2))
    rw [List.length_map, List.length_range] at h1
    rcases mapN_le x with h | h <;> omega
  · exact Nat.zero_le _
def ElsR (w : World) (g G : Nat) (A : Option Addr) (c : Nat) (b : List UInt8) (p : Nat) (mt : ByteArray) (vl : Value) (ns : List Int) (i : Nat) (u : World) : Prop :=
  Fr (IsoB G g) w u ∧ ∃ (es : List El) (q : Nat) (va : Value), Rs u g G A c b (p + q) mt va vl ∧ OwnE u w.heap.size va es ∧ es.length = i ∧ elsF ns (b.drop p) = elsQ es q (elsF (ns.drop i) (b.drop (p + q)))
def ElsO (w : World) (g G : Nat) (b : List UInt8) (p : Nat) (ns : List Int) (E : Int) (u : World) : Prop := Fr (IsoB G g) w u ∧ (elsF ns (b.drop p)).1 = E
theorem iso_elements {w : World} {g G : Nat} {A : Option Addr} {c : Nat} {b : List UInt8} {p : Nat} {mt : ByteArray} {L : Option Addr} {n cl : Nat} {ns : List Int} (h : Rs w g G A c b p mt (.slice none 0 0) (.slice L n cl)) (hr : Rd w L n cl (ints ns)) (hL : ∀ ad, L = some ad → 0 < n → g < ad.block) (hn : n ≤ 200)
    (hwf : ∀ v ∈ ns, 0 ≤ v ∧ v ≤ 1000) (hb : b.length ≤ 4096) (hT : ∀ u, Fr (IsoB G g) w u → Tabs u) :
    Calls Tryz.prog 45 #[.pointer (some ⟨g, 0, none⟩)] w (SWTo (ElsR w g G A c b p mt (.slice L n cl) ns n) (ElsO w g G b p ns)) := by
  have hlen : ns.length = n := by simpa [ints] using hr.len
  have hgl := h.lt
  have HE := Lib.hid (each_int L n cl ns w 82 (.pointer (some ⟨g, 0, none⟩)) (fun i u => i ≤ n ∧ ElsR w g G A c b p mt (.slice L n cl) ns i u) (ElsO w g G b p ns) hlen (by omega)
    ⟨Nat.zero_le _, Fr.refl _ _, [], 0, _, h, OwnE.nil_ _ _, rfl, els_start _ _⟩
    (fun i u hu => rd_far hr hu.2.1 (fun h0 ad e x => by have := hL ad e h0; rcases x with x | x <;> omega))
    (fun args w => rfl)
    (fun i v hv u hu => by
      obtain ⟨hin, hf, es, q, va, hrs, ho, hel, hinv⟩ := hu
      refine (iso_element (n := v) hrs ho hgl.2 hf.size (by omega) (num_wf (hwf v (List.mem_of_getElem? hv))) hb (hT u hf)).mono ?_
      rintro e u2 ⟨rfl, hf2, hok⟩
      have hf3 : Fr (IsoB G g) w u2 := hf.trans_new hf2 (fun j hj => by
        rcases hj with hj | hj
        · exact .inl hj
        · exact .inr (ho.lt j hj).1)
      refine ⟨_, rfl, ?_⟩
      by_cases hE : reE v (b.drop (p + q)) = 0
      · obtain ⟨va', hrs2, ho2, hv2⟩ := hok hE
        refine .inl ⟨hE, ?_, hf3, es ++ [(v, reL v (b.drop (p + q)))], q + reN v (b.drop (p + q)), va', ?_, ho2, by simp; omega, ?_⟩
        · have := (List.getElem?_eq_some_iff.1 hv).1; omega
        · rw [← Nat.add_assoc]; exact hrs2
        · have := els_next hinv hv hE
          rw [List.drop_drop, Nat.add_assoc] at this
          exact this
      · exact .inr ⟨hE, hf3, els_fail hinv hv hE⟩))
  have c4 := h.cells.2.2.2.2.1
  clear h hr hL hn hwf hb hT hlen hgl
  go_enter Tryz.func45, Tryz.ntmps45
  go_wp2_with (go_at_call 81; refine (HE.out).mono ?_; rintro e w1 ⟨E, rfl, hE⟩; have HR := Lib.hid hE; clear hE)
  go_ret
  refine ⟨E, rfl, ?_⟩
  rcases HR.out with ⟨h1, _, h2⟩ | h
  · exact .inl ⟨h1, h2⟩
  · exact .inr h
end Go.Proofs.YthlgnmgjfgbffaaGreatDoor
/- Package iso: Parse. -/
namespace Go.Proofs.YthlgnmgjfgbffaaGreatDoor
open Go.RowKit
set_option maxHeartbeats 1000000
set_option linter.unusedVariables false
set_option maxRecDepth 20000

abbrev fiveI (g : Nat) : List Value := [.func (.func 42) #[.pointer (some ⟨g, 0, none⟩)] #[], .func (.func 43) #[.pointer (some ⟨g, 0, none⟩)] #[], .func (.func 44) #[.pointer (some ⟨g, 0, none⟩)] #[],
  .func (.func 45) #[.pointer (some ⟨g, 0, none⟩)] #[], .func (.func 46) #[.pointer (some ⟨g, 0, none⟩)] #[]]
section
variable (w0 : World) (g G : Nat) (A : Option Addr) (c : Nat) (b : List UInt8)
/-- how far the message has come behind its steps -/
def MesR : Nat → World → Prop
  | 0, u => Fr (IsoB G g) w0 u ∧ Rs u g G A c b 0 .empty (.slice none 0 0) (.slice none 0 0)
  | 1, u => Fr (IsoB G g) w0 u ∧ 4 ≤ b.length ∧ Rs u g G A c b 4 (bstr (b.take 4)) (.slice none 0 0) (.slice none 0 0)
  | 2, u => Fr (IsoB G g) w0 u ∧ 4 ≤ b.length ∧ rightB (b.take 4) 4 4 = true ∧ Rs u g G A c b 4 (bstr (b.take 4)) (.slice none 0 0) (.slice none 0 0)
  | 3, u => Fr (IsoB G g) w0 u ∧ 4 ≤ b.length ∧ rightB (b.take 4) 4 4 = true ∧ parE (b.drop 4) = 0 ∧ ∃ L cl, Rs u g G A c b (4 + parN (b.drop 4)) (bstr (b.take 4)) (.slice none 0 0) (.slice L (parL (b.drop 4)).length cl) ∧ Rd u L (parL (b.drop 4)).length cl (ints (parL (b.drop 4))) ∧ ∀ ad, L = some ad → w0.heap.size ≤ ad.block
  | 4, u => Fr (IsoB G g) w0 u ∧ 4 ≤ b.length ∧ rightB (b.take 4) 4 4 = true ∧ parE (b.drop 4) = 0 ∧ ∃ es q va vl, elsF (parL (b.drop 4)) (b.drop (4 + parN (b.drop 4))) = (0, es, q) ∧ Rs u g G A c b (4 + parN (b.drop 4) + q) (bstr (b.take 4)) va vl ∧ OwnE u w0.heap.size va es
  | _, u => Fr (IsoB G g) w0 u ∧ ∃ es q va vl, parI b = (0, b.take 4, es) ∧ Rs u g G A c b q (bstr (b.take 4)) va vl ∧ OwnE u w0.heap.size va es
def MesQ (E : Int) (u : World) : Prop := Fr (IsoB G g) w0 u ∧ parI b = (E, [], [])
end
theorem mesR_fr {w0 u : World} {g G : Nat} {A : Option Addr} {c : Nat} {b : List UInt8} {i : Nat} (h : MesR w0 g G A c b i u) : Fr (IsoB G g) w0 u := by
  match i, h with
  | 0, h => exact h.1
  | 1, h => exact h.1
  | 2, h => exact h.1
  | 3, h => exact h.1
  | 4, h => exact h.1
  | _ + 5, h => exact h.1
theorem five_isos {w0 : World} {g G : Nat} {A : Option Addr} {c : Nat} {b : List UInt8} (hb : b.length ≤ 4096) (hgw : g < w0.heap.size) (hT : ∀ u, Fr (IsoB G g) w0 u → Tabs u) (i : Nat) (hi : i < 5) :
    ∃ F x, (fiveI g)[i]? = some (.func (.func F) #[x] #[]) ∧ (∀ args w, (callFunc F args).run Tryz.prog w = .ok (.enter F args) w) ∧ ∀ u, MesR w0 g G A c b i u → Calls Tryz.prog F #[x] u (SWTo (MesR w0 g G A c b (i + 1)) (MesQ w0 g G b)) := by
  have hbl : ∀ l : List UInt8, (bstr l).data.toList = l := fun l => by simp [bstr]
  have h5 : i = 0 ∨ i = 1 ∨ i = 2 ∨ i = 3 ∨ i = 4 := by omega
  have hjg : ∀ {u u' : World}, Fr (Just g) u u' → Fr (IsoB G g) u u' := fun h => h.mono (fun i x => .inr x)
  rcases h5 with rfl | rfl | rfl | rfl | rfl
  · refine ⟨_, _, rfl, fun args w => rfl, ?_⟩
    rintro u ⟨hf, hp⟩
    by_cases h4 : b.length < 4
    · refine (iso_begin_no hp h4).mono ?_
      rintro e u' ⟨rfl, hf2⟩
      exact ⟨3, rfl, .inr ⟨by decide, hf.trans (hjg hf2), by unfold parI; rw [if_neg (by omega), if_pos h4]⟩⟩
    · refine (iso_begin hp (by omega)).mono ?_
      rintro e u' ⟨rfl, hr, hf2⟩
      exact ⟨0, rfl, .inl ⟨rfl, hf.trans hf2, by omega, hr⟩⟩
  · refine ⟨_, _, rfl, fun args w => rfl, ?_⟩
    rintro u ⟨hf, h4, hp⟩
    refine (iso_right hp.cells.1 (by rw [bstr_size, List.length_take]; simp only [maxLen]; omega)).mono ?_
    rintro e u' ⟨rfl, rfl⟩
    rw [hbl]
    cases hR : rightB (b.take 4) 4 4 with
    | true => exact ⟨0, rfl, .inl ⟨rfl, hf, h4, hR, hp⟩⟩
    | false => exact ⟨5, rfl, .inr ⟨by decide, hf, by unfold parI; rw [if_neg (by omega), if_neg (by omega), if_pos hR]⟩⟩
  · refine ⟨_, _, rfl, fun args w => rfl, ?_⟩
    rintro u ⟨hf, h4, hR, hp⟩
    refine (iso_numbers hp hb).mono ?_
    rintro e u' ⟨rfl, hf2, hok⟩
    by_cases hE : parE (b.drop 4) = 0
    · obtain ⟨L, cl, h1, h2, h3⟩ := hok hE
      exact ⟨_, rfl, .inl ⟨hE, hf.trans hf2, h4, hR, hE, L, cl, h1, h2, fun ad e => Nat.le_trans hf.size (h3 ad e)⟩⟩
    · exact ⟨_, rfl, .inr ⟨hE, hf.trans hf2, by unfold parI; rw [if_neg (by omega), if_neg (by omega), if_neg (by rw [hR]; decide), if_pos hE]⟩⟩
  · refine ⟨_, _, rfl, fun args w => rfl, ?_⟩
    rintro u ⟨hf, h4, hR, hE, L, cl, hp, hrl, hbl2⟩
    have hpl := parL_len (b.drop 4)
    refine (iso_elements hp hrl (fun ad e h0 => by have := hbl2 ad e; omega) (by omega) (fun v hv => by have := parL_num hv; omega) hb (fun u' hu => hT u' (hf.trans hu))).mono ?_
    rintro e u' ⟨E, rfl, ⟨rfl, hf2, es, q, va, hp2, ho2, hel, hinv⟩ | ⟨hE2, hf2, he2⟩⟩
    · have hd := els_done hinv (Nat.le_refl _)
      exact ⟨0, rfl, .inl ⟨rfl, hf.trans hf2, h4, hR, hE, es, q, va, _, hd, hp2, ho2.low hf.size⟩⟩
    · exact ⟨E, rfl, .inr ⟨hE2, hf.trans hf2, by unfold parI; rw [if_neg (by omega), if_neg (by omega), if_neg (by rw [hR]; decide), if_neg (by rw [hE]; decide), if_pos (by rw [he2]; exact hE2), he2]⟩⟩
  · refine ⟨_, _, rfl, fun args w => rfl, ?_⟩
    rintro u ⟨hf, h4, hR, hE, es, q, va, vl, hel, hp, ho⟩
    have hk := hp.caps.1
    refine (iso_end hp).mono ?_
    rintro e u' ⟨rfl, hd⟩
    have hpi : parI b = if 4 + parN (b.drop 4) + q < b.length then (17, [], []) else (0, b.take 4, es) := by
      unfold parI
      rw [if_neg (by omega), if_neg (by omega), if_neg (by rw [hR]; decide), if_neg (by rw [hE]; decide), hel, if_neg (by simp)]
    by_cases hq : 4 + parN (b.drop 4) + q = b.length
    · rw [if_pos hq]
      exact ⟨0, rfl, .inl ⟨rfl, hf.dr hd, es, _, va, vl, by rw [hpi, if_neg (by omega)], hp.dr hd, ho.no hd.fr⟩⟩
    · rw [if_neg hq]
      exact ⟨17, rfl, .inr ⟨by decide, hf.dr hd, by rw [hpi, if_pos (by omega)]⟩⟩
theorem iso_walk {w : World} {g G : Nat} {A : Option Addr} {c : Nat} {b : List UInt8} (h : Rs w g G A c b 0 .empty (.slice none 0 0) (.slice none 0 0)) (hb : b.length ≤ 4096) (hT : ∀ u, Fr (IsoB G g) w u → Tabs u) (ty : TypeId) :
    Calls Tryz.prog 16 #[.slice (some ⟨w.heap.size, 0, none⟩) 5 5] (w.alloc (.cells (fiveI g).toArray ty))
      (SWTo (MesR (w.alloc (.cells (fiveI g).toArray ty)) g G A c b 5) (MesQ (w.alloc (.cells (fiveI g).toArray ty)) g G b)) := by
  have hfa : Fr No w (w.alloc (.cells (fiveI g).toArray ty)) := (Fr.refl No w).alloc _
  have hbk := Bk.new w ty (fiveI g).toArray
  have hgl := h.lt
  refine t_walk (some ⟨w.heap.size, 0, none⟩) 5 5 (fiveI g) _ _ _ rfl (Nat.le_refl _) (by omega) (fun e => nomatch e) ⟨Fr.refl _ _, h.no hfa⟩ ?_ (fun i hi => five_isos hb (by have := hfa.size; omega) (fun u hu => hT u (hfa.no.trans hu)) i hi)
  intro i u hu ad e j v hv
  injection e with e
  subst e
  have h1 := (hbk.fr (mesR_fr hu) (fun x => by rcases x with x | x <;> omega)).cell j
  rw [addr_at, h1]
  exact hv
/-- what Parse answers -/
def IsoTo (t : List UInt8) (es : List El) (E : Int) (w : World) (e : Ending) (w' : World) : Prop :=
  ∃ va, e = .returned (.tuple #[.agg #[.string (bstr t), va], .int .i64 E]) ∧ OwnE w' w.heap.size va es ∧ Fr No w w'
theorem iso_no {w w' : World} {E : Int} (hf : Fr No w w') : IsoTo [] [] E w (.returned (.tuple #[.agg #[.string .empty, .slice none 0 0], .int .i64 E])) w' := ⟨_, rfl, OwnE.nil_ _ _, hf⟩
/-- a struct that is handed back as a whole, and one thing more -/
theorem results_bk2 {P : Program} {fn : Func} {tmps : Array Value} {w : World} {i j g : Nat} {ty t : TypeId} {cs : List Value} {d : TypeDesc} (hres : fn.results = #[.cell i ty, .tmp j]) (ht : tmps.getD i undef = .pointer (some ⟨g, 0, none⟩)) (hb : Bk w g t cs)
    (hu : P.underlying ty = some d) (hd : d.isRow = true) (hi : (P.info? ty).map (·.size) = some cs.length) : (results fn tmps).run P w = .ok (.tuple #[.agg cs.toArray, tmps.getD j undef]) w := by
  have h := run_loadVar_mid w g 0 ty cs d hb.range hu hd hi
  unfold results
  rw [hres]
  simp only [List.mapM_toArray, List.mapM_cons, List.mapM_nil, ht, asAddr, Sem.run_bind, Sem.run_map, Sem.run_pure, Result.andThen_ok, h]
  rfl
theorem isoSize (a b : Value) : (Tryz.prog.info? 27).map (·.size) = some [a, b].length := by kernel_rfl
theorem iso_parse_any (A : Option Addr) (c : Nat) (b : List UInt8) (w : World) (hr : Rd w A b.length c (u8s b)) (hT : Tabs w := by repeat' first | with_reducible assumption | with_reducible apply Tabs.drew | with_reducible apply Tabs.drewN | with_reducible apply Tabs.alloc | refine Tabs.fr ?_ (by with_reducible assumption)) :
    Calls Tryz.prog 14 #[.slice A b.length c] w (IsoTo (parI b).2.1 (parI b).2.2 (parI b).1 w) := by
  by_cases hb : 4096 < b.length
  · have e : parI b = (4, [], []) := by unfold parI; rw [if_pos hb]
    rw [e]
    have hbI : (4096 : Int) < (b.length : Int) := by omega
    generalize b.length = m at *
    clear hr hT hb e
    go_enter Tryz.func14, Tryz.ntmps14
    go_wp2
    refine bodyPost_ret (results_bk2 (t := 27) (g := w.heap.size) (cs := [.string .empty, .slice none 0 0]) (Tryz.results14) (by rfl) (Bk.new w _ _) Tryz.underlying27 rfl (isoSize _ _)) rfl ?_
    exact iso_no ((Fr.refl No w).alloc _)
  · have hb : b.length ≤ 4096 := by omega
    obtain ⟨m, hm⟩ : ∃ m, b.length = m := ⟨_, rfl⟩
    have HN := Lib.hid (fun u (hu : Fr No w u) => new_any A b.length c b u (hr.no hu) (by omega))
    have HR := Lib.hid hr
    rw [hm] at HN hb ⊢
    go_enter Tryz.func14, Tryz.ntmps14
    have HF0 := Lib.hid ((Fr.refl No w).alloc (.cells #[.string .empty, .slice none 0 0] 27))
    go_upto_region 4 with (go_at_call 41; refine (HN.out _ HF0.out).mono ?_; rintro e w1 ⟨G, rfl, hG, hc, hf⟩)
    have hf1 : Fr No w w1 := HF0.out.trans hf
    have hbk0 : Bk w1 w.heap.size 27 [.string ⟨#[]⟩, .slice none 0 0] := (Bk.new w 27 #[.string ⟨#[]⟩, .slice none 0 0]).no hf
    have hGw : w.heap.size < G := by have : w.heap.size + 1 ≤ G := by simpa using hG
                                     omega
    have hal : Fr No w1 (w1.alloc (.cells #[.string ⟨#[]⟩, .slice none 0 0, .pointer (some ⟨G, 0, none⟩), .slice A m c, .slice none 0 0] 84)) := (Fr.refl No w1).alloc _
    have hrs : Rs (w1.alloc (.cells #[.string ⟨#[]⟩, .slice none 0 0, .pointer (some ⟨G, 0, none⟩), .slice A m c, .slice none 0 0] 84)) w1.heap.size G A c b 0 ⟨#[]⟩ (.slice none 0 0) (.slice none 0 0) := by
      refine ⟨?_, hc.no hal, (hr.no hf1).no hal, fun h0 ad e => by have := hr.lt h0 ad e; omega⟩
      rw [hm]
      exact Bk.new w1 84 #[.string ⟨#[]⟩, .slice none 0 0, .pointer (some ⟨G, 0, none⟩), .slice A m c, .slice none 0 0]
    have hfg : ∀ u, Fr (IsoB G w1.heap.size) (w1.alloc (.cells #[.string ⟨#[]⟩, .slice none 0 0, .pointer (some ⟨G, 0, none⟩), .slice A m c, .slice none 0 0] 84)) u → Fr No w u := fun u hu => (hf1.trans hal).trans_new hu (fun i hi => .inr (by have := hf1.size; rcases hi with x | x <;> omega))
    have hw := iso_walk hrs (by omega) (fun u hu => hT.fr (hfg u hu)) 58
    have hal2 : Fr No (w1.alloc (.cells #[.string ⟨#[]⟩, .slice none 0 0, .pointer (some ⟨G, 0, none⟩), .slice A m c, .slice none 0 0] 84)) ((w1.alloc (.cells #[.string ⟨#[]⟩, .slice none 0 0, .pointer (some ⟨G, 0, none⟩), .slice A m c, .slice none 0 0] 84)).alloc (.cells (fiveI w1.heap.size).toArray 58)) := (Fr.refl No _).alloc _
    have hz : (w1.alloc (.cells #[.string ⟨#[]⟩, .slice none 0 0, .pointer (some ⟨G, 0, none⟩), .slice A m c, .slice none 0 0] 84)).heap.size = w1.heap.size + 1 := by simp
    rw [hz] at hw
    have hfin : ∀ u, Fr (IsoB G w1.heap.size) ((w1.alloc (.cells #[.string ⟨#[]⟩, .slice none 0 0, .pointer (some ⟨G, 0, none⟩), .slice A m c, .slice none 0 0] 84)).alloc (.cells (fiveI w1.heap.size).toArray 58)) u → Fr No w u ∧ Bk u w.heap.size 27 [.string ⟨#[]⟩, .slice none 0 0] := fun u hu => ⟨hfg u (hal2.no.trans hu), ((hbk0.no hal).no hal2).fr hu (fun x => by have := hf1.size; have := hbk0.lt; rcases x with x | x <;> omega)⟩
    have HFIN := Lib.hid hfin; have HW := Lib.hid hw; have HBL := Lib.hid hb; have HS := Lib.hid hbk0.lt
    clear hr hT hf1 hbk0 hGw hal hrs hfg hw hal2 hz hfin hc hf hG HN HF0 HR hm hb
    go_upto_region 5 with (go_at_call 16; (refine (HW.out).mono ?_); rintro e w2 ⟨E, rfl, hE⟩; have HE := Lib.hid hE; clear hE)
    obtain ⟨rb, hrb⟩ : ∃ rb, w.heap.size = rb := ⟨_, rfl⟩
    obtain ⟨g, hg⟩ : ∃ g, w1.heap.size = g := ⟨_, rfl⟩
    have HRB := Lib.hid hrb
    rw [hrb, hg] at HFIN
    rw [hg] at HE
    rw [hrb, hg]
    by_cases hE : E = 0
    · subst hE
      obtain ⟨hf2, es, q, va, vl, hpi, hp, ho⟩ : MesR ((w1.alloc (.cells #[.string ⟨#[]⟩, .slice none 0 0, .pointer (some ⟨G, 0, none⟩), .slice A m c, .slice none 0 0] 84)).alloc (.cells (fiveI g).toArray 58)) g G A c b 5 w2 := by
        rcases HE.out with ⟨_, h⟩ | ⟨h, _⟩
        · exact h
        · exact absurd rfl h
      obtain ⟨hfw, hbk⟩ := HFIN.out w2 hf2
      obtain ⟨vA, vc, rfl, -⟩ := OwnI.rd' ho (M := fun _ => True) (fun _ _ => trivial) tag_ok (fun _ _ => trivial)
      have c0 := hp.cells.1
      have c1 := hp.cells.2.1
      have d0 := Bk.cell hbk 0
      have d1 := Bk.cell hbk 1
      have z0 := Bk.frozen hbk 0
      have z1 := Bk.frozen hbk 1
      have hlow : rb ≤ ((w1.alloc (.cells #[.string ⟨#[]⟩, .slice none 0 0, .pointer (some ⟨G, 0, none⟩), .slice A m c, .slice none 0 0] 84)).alloc (.cells (fiveI g).toArray 58)).heap.size := by have := HS.out; simp; omega
      have hlt : ∀ i, ((w1.alloc (.cells #[.string ⟨#[]⟩, .slice none 0 0, .pointer (some ⟨G, 0, none⟩), .slice A m c, .slice none 0 0] 84)).alloc (.cells (fiveI g).toArray 58)).heap.size ≤ i → ¬ (i = rb) := fun i hi e => by have := HS.out; simp at hi; omega
      have HPI := Lib.hid hpi
      obtain ⟨S, hS⟩ : ∃ S, bstr (b.take 4) = S := ⟨_, rfl⟩
      have HSS := Lib.hid hS
      rw [hS] at c0
      have HO := Lib.hid ho; have HFW := Lib.hid hfw; have HBK := Lib.hid hbk; have HLO := Lib.hid hlow; have HLT := Lib.hid hlt
      clear hS ho hfw hbk hlow hlt hp hpi hf2 HE HFIN HW hrb hg
      go_wp2_with fail
      refine bodyPost_ret (results_bk2 (t := 27) (g := rb) (cs := [.string S, .slice vA es.length vc]) (Tryz.results14) (by rfl) ((HBK.out.set_ 0 (.string S)).set_ 1 (.slice vA es.length vc)) Tryz.underlying27 rfl (isoSize _ _)) rfl ?_
      have hs1 : Fr (Just rb) w2 ((w2.setCell ⟨rb, 0, none⟩ (.string S)).setCell ⟨rb, 1, none⟩ (.slice vA es.length vc)) := ((Fr.refl (Just rb) w2).setCell (.inl (Just.at rb)) _).setCell (.inl (Just.at rb)) _
      rw [HPI.out, ← HSS.out]
      have hfin : IsoTo (b.take 4) es 0 w (.returned (.tuple #[.agg #[.string (bstr (b.take 4)), .slice vA es.length vc], .int .i64 0])) ((w2.setCell ⟨rb, 0, none⟩ (.string S)).setCell ⟨rb, 1, none⟩ (.slice vA es.length vc)) :=
        ⟨_, rfl, (OwnE.far HO.out hs1 HLT.out).low (by rw [HRB.out]; exact HLO.out), HFW.out.trans_just hs1 (by rw [HRB.out]; exact Nat.le_refl _)⟩
      rw [← HSS.out] at hfin
      exact hfin
    · have hEb := st_ne0 hE
      obtain ⟨hf2, hpi⟩ : MesQ ((w1.alloc (.cells #[.string ⟨#[]⟩, .slice none 0 0, .pointer (some ⟨G, 0, none⟩), .slice A m c, .slice none 0 0] 84)).alloc (.cells (fiveI g).toArray 58)) g G b E w2 := by
        rcases HE.out with ⟨h, _⟩ | ⟨_, h⟩
        · exact absurd h hE
        · exact h
      obtain ⟨hfw, hbk⟩ := HFIN.out w2 hf2
      have d0 := Bk.cell hbk 0
      have d1 := Bk.cell hbk 1
      have z0 := Bk.frozen hbk 0
      have z1 := Bk.frozen hbk 1
      have HPI := Lib.hid hpi
      have HFW := Lib.hid hfw; have HBK := Lib.hid hbk
      clear hfw hbk hpi hf2 HE HFIN HW hrb hg hE
      go_wp2_with fail
      refine bodyPost_ret (results_bk2 (t := 27) (g := rb) (cs := [.string ⟨#[]⟩, .slice none 0 0]) (Tryz.results14) (by rfl) ((HBK.out.set_ 0 (.string ⟨#[]⟩)).set_ 1 (.slice none 0 0)) Tryz.underlying27 rfl (isoSize _ _)) rfl ?_
      have hs1 : Fr (Just rb) w2 ((w2.setCell ⟨rb, 0, none⟩ (.string ⟨#[]⟩)).setCell ⟨rb, 1, none⟩ (.slice none 0 0)) := ((Fr.refl (Just rb) w2).setCell (.inl (Just.at rb)) _).setCell (.inl (Just.at rb)) _
      rw [HPI.out]
      exact iso_no (HFW.out.trans_just hs1 (by rw [HRB.out]; exact Nat.le_refl _))
end Go.Proofs.YthlgnmgjfgbffaaGreatDoor
