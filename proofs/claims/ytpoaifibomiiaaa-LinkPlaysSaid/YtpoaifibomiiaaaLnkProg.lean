/- What package link does: contracts of its calls. -/
import Derived.Test.YtpoaifibomiiaaaLnkNext
namespace Go.Proofs.Ytpoaifibomiiaaa
open Go.RowKit
set_option maxHeartbeats 400000
set_option linter.unusedVariables false

/-- a row of rows that grows, in blocks from base on, none of them its own -/
def Gw (w : World) (base : Nat) (o : Value) (m : Nat) (fs : List (List UInt8)) : Prop := OwnL w base (fun i => base ≤ i ∧ i < w.heap.size ∧ o.ownBlock ≠ some i) o m fs
theorem Gw.lt {w : World} {base : Nat} {o : Value} {m : Nat} {fs : List (List UInt8)} (h : Gw w base o m fs) : ∀ i, o.ownBlock = some i → base ≤ i ∧ i < w.heap.size := by
  obtain ⟨vs, hov, _⟩ := h.vs
  exact fun i e => hov.lt i e
theorem Gw.fr {w w' : World} {S : Nat → Prop} {base : Nat} {o : Value} {m : Nat} {fs : List (List UInt8)} (h : Gw w base o m fs) (hf : Fr S w w') (hS : ∀ i, base ≤ i → ¬ S i) : Gw w' base o m fs :=
  have hl := h.lt
  (OwnL.fr h hf (fun i hi => hS i hi.1) (fun i e => hS i (hl i e).1)).mono (fun i hi => ⟨hi.1, Nat.lt_of_lt_of_le hi.2.1 hf.size, hi.2.2⟩)
/-- one row more, put behind -/
theorem Gw.one {w w' : World} {S : Nat → Prop} {base : Nat} {o : Value} {m q dy : Nat} {fs : List (List UInt8)} {l : List UInt8} {Y : Option Addr} (t : TypeId) (h : Gw w base o m fs) (hf : Fr S w w') (hS : ∀ i, base ≤ i → ¬ S i) (hb : base ≤ w.heap.size)
    (hry : Rd w' Y q dy (u8s l)) (hby : ∀ ad, Y = some ad → w.heap.size ≤ ad.block ∧ ad.block < w'.heap.size) :
    RdL (w'.alloc (.cells #[.slice Y q dy] t)) (fun i => base ≤ i ∧ i < (w'.alloc (.cells #[.slice Y q dy] t)).heap.size ∧ o.ownBlock ≠ some i) (some ⟨w'.heap.size, 0, none⟩) 1 1 [l] := by
  have hl := h.lt
  have hsz : (w'.alloc (.cells #[.slice Y q dy] t)).heap.size = w'.heap.size + 1 := by simp
  have hs := hf.size
  refine ⟨⟨[.slice Y q dy], Rd.lit w' [.slice Y q dy] t 1 rfl (by simp [maxLen]), ⟨⟨Y, q, dy, rfl, hry.no ((Fr.refl No w').alloc _), fun ad e => ?_⟩, trivial⟩⟩, fun ad e => ?_⟩
  · obtain ⟨h1, h2⟩ := hby ad e
    exact ⟨by omega, by omega, fun x => by have := (hl _ x).2; omega⟩
  · injection e with e
    subst e
    exact ⟨by show _ ≤ w'.heap.size; omega, by show w'.heap.size < _; omega, fun x => by have h : w'.heap.size < w.heap.size := (hl _ x).2; omega⟩
theorem Gw.grown {w w' : World} {base : Nat} {o o' : Value} {m : Nat} {fs : List (List UInt8)} (ho : OwnL w' base (fun i => base ≤ i ∧ i < w.heap.size ∧ o.ownBlock ≠ some i) o' m fs) (hg : w.grownBy w' o.ownBlock) (hv : o'.ownBlock = o.ownBlock ∨ o'.ownBlock = some w.heap.size) : Gw w' base o' m fs :=
  ho.mono (fun i h => ⟨h.1, Nat.lt_of_lt_of_le h.2.1 hg.size, fun x => by
    rcases hv with h6 | h6
    · rw [h6] at x; exact h.2.2 x
    · rw [h6] at x
      injection x with x
      have := h.2.1
      omega⟩)

set_option maxHeartbeats 1600000 in
/-- the whole frames at the beginning, or none -/
theorem frames_any (A : Option Addr) (n c : Nat) (b : List UInt8) (w : World) (ha : Rd w A n c (u8s b)) (hn : n ≤ 100000) :
    Calls Try.prog 20 #[.slice A n c] w fun e w' => Fr No w w' ∧ ((cutL b = none ∧ e = .returned (.tuple #[.slice none 0 0, .int .i64 0, .int .i64 4])) ∨
      ∃ (fs : List (List UInt8)) (r : List UInt8) (k : Nat) (B : Option Addr) (m d : Nat), cutL b = some (fs, r) ∧ e = .returned (.tuple #[.slice B m d, .int .i64 (k : Int), .int .i64 0]) ∧ k ≤ b.length ∧ b.drop k = r ∧ RdL w' (fun i => w.heap.size ≤ i ∧ i < w'.heap.size) B m d fs) := by
  have hl : b.length = n := by simpa using ha.len
  go_enter Try.func20, Try.ntmps20
  go_wp2_with (go_at_call 25; refine (new_any A n c b _ ha (by omega)).mono ?_; rintro e w1 ⟨g, rfl, hg, hc, hf⟩)
  have hgb := hc.bound.1
  go_loopw [5, 7] (fun o z wr => ∃ (fs : List (List UInt8)) (k m : Nat), z = .int .i64 (k : Int) ∧ k ≤ n ∧ m ≤ k ∧ Gw wr w1.heap.size o m fs ∧ Cur wr w1.heap.size g b k ∧ Fr (Just g) w1 wr ∧
    cutL b = (cutL (b.drop k)).map fun p => (fs ++ p.1, p.2)) (fun _ z _ => n + 1 - (intOf z).toNat)
  case atStart => exact ⟨[], 0, 0, rfl, Nat.zero_le _, Nat.le_refl _, OwnL.nil_ _ _ _, hc, Fr.refl _ _, by rw [List.drop_zero]; cases cutL b <;> simp⟩
  case round =>
    clear hc
    obtain ⟨fs, k, m, rfl, hk, hmk, hO, hc, hfr, hinv⟩ := hrel
    have hS : ∀ i, w1.heap.size ≤ i → ¬ Just g i := fun i hi e => by have e : i = g := e; omega
    have hFw : Fr No w wr := hf.trans_just hfr hg
    have hdl : (b.drop k).length = n - k := by rw [List.length_drop, hl]
    -- nothing more is whole
    by_cases h1 : b.length < k + 2
    · obtain ⟨OA, oc, rfl, hrL⟩ := (OwnL.mono (M := fun i => w.heap.size ≤ i ∧ i < wr.heap.size) hO (fun i h => ⟨by have := hf.size; omega, h.2.1⟩)).rd (fun i h1 h2 => ⟨by have := hf.size; omega, h2⟩)
      have hcut : cutL b = some (fs, b.drop k) := by rw [hinv, cut_short (by omega)]; simp
      have HC := Lib.hid hcut
      clear hinv hcut
      go_wp2_with (go_at_call 27; refine (next_none g b k _ hc h1).mono ?_; rintro e w2 ⟨rfl, hd⟩)
      go_ret3
      exact ⟨hFw.dr hd, .inr ⟨fs, _, k, OA, m, oc, HC.out, rfl, by omega, rfl, (hrL.dr hd).mono (fun i hi => ⟨hi.1, by rw [hd.heap]; exact hi.2⟩)⟩⟩
    by_cases h2 : num2 (b.drop k) = 0 ∨ 4096 < num2 (b.drop k)
    · have hcut : cutL b = none := by rw [hinv, cut_dead (by omega) h2]; rfl
      have HC := Lib.hid hcut
      clear hinv hcut
      go_wp2_with (go_at_call 27; refine (next_dead g b k _ hc (by omega) h2).mono ?_; rintro e w2 ⟨rfl, hf2⟩)
      go_ret3
      exact ⟨hFw.trans_just hf2 (by have := hFw.size; omega), .inl ⟨HC.out, rfl⟩⟩
    by_cases h3 : b.length < k + 2 + num2 (b.drop k)
    · obtain ⟨OA, oc, rfl, hrL⟩ := (OwnL.mono (M := fun i => w1.heap.size ≤ i ∧ i < wr.heap.size) hO (fun i h => ⟨h.1, h.2.1⟩)).rd (fun i h1 h2 => ⟨h1, h2⟩)
      have hcut : cutL b = some (fs, b.drop k) := by rw [hinv, cut_wait (by omega) h2 (by omega)]; simp
      have HC := Lib.hid hcut
      clear hinv hcut
      go_wp2_with (go_at_call 27; refine (next_wait g b k _ hc (by omega) h2 h3).mono ?_; rintro e w2 ⟨rfl, hf2⟩)
      go_ret3
      exact ⟨hFw.trans_just hf2 (by have := hFw.size; omega), .inr ⟨fs, _, k, OA, m, oc, HC.out, rfl, by omega, rfl, (hrL.fr hf2 (fun i hi => hS i hi.1)).mono (fun i hi => ⟨by have := hf.size; omega, Nat.lt_of_lt_of_le hi.2 hf2.size⟩)⟩⟩
    have hcut := cut_one (x := b.drop k) (by omega) h2 (by omega)
    have hN := next_frame g b k _ hc (by omega) h2 (by omega) (by omega)
    have hdd : (b.drop k).drop (2 + num2 (b.drop k)) = b.drop (k + 2 + num2 (b.drop k)) := by rw [List.drop_drop, Nat.add_assoc]
    rw [hdd] at hcut
    have h2q : 1 ≤ num2 (b.drop k) := by omega
    generalize hlq : ((b.drop k).drop 2).take (num2 (b.drop k)) = l at hN hcut
    generalize num2 (b.drop k) = q at *
    have HC := Lib.hid hcut; have HI := Lib.hid hinv; have HN := Lib.hid hN
    clear hcut hinv hN hlq hdd h2
    have hs1 := hfr.size
    go_wp2_with (first
      | (go_at_call 27; refine HN.out.mono ?_; rintro e w2 ⟨v, rfl, ho2, hc2, hf2⟩; obtain ⟨Y, dy, rfl, hry, hby⟩ := Rd.of_own ho2; have hL5 := Gw.one 23 hO hf2 hS hfr.size hry hby; have hO5 := (hO.fr hf2 hS).fr ((Fr.refl No w2).alloc (.cells #[.slice Y q dy] 23)) (fun _ _ x => x); have hs2 := hf2.size)
      | (at_builtin; refine apL _ rfl _ _ rfl w1.heap.size _ u5 m fs rfl (OwnL.mono hO5 (fun i h => h)) _ 1 1 _ rfl hL5 (by omega) (by simp; omega) (fun i h => h.2.2) ?_; intro v6 w6 ho6 hg6 hv6; have hf6 : Fr (fun i => u5.ownBlock = some i) w2 w6 := ((Fr.refl _ w2).alloc _).grown hg6 (fun g e => .inl e); have hlo := hO.lt; have hc6 := hc2.fr hf6 (fun i hi e => by have := hlo i e; omega))
      | (go_at_call 26; refine (at_any g b (k + 2 + q) _ hc6).mono ?_; rintro e w7 ⟨rfl, hd7⟩))
    have hg7 := Gw.grown ho6 hg6 hv6
    go_roundw
    case rel =>
      refine ⟨fs ++ [l], k + 2 + q, m + 1, rfl, by omega, by omega, hg7.fr (S := No) hd7.fr (fun _ _ x => x), hc6.dr hd7, ((hfr.trans hf2).trans_new hf6 (fun i e => .inr (hlo i e).1)).dr hd7, ?_⟩
      rw [HI.out, HC.out]
      cases cutL (b.drop (k + 2 + q)) <;> simp
    case measure => simp [intOf]; omega

/-- a link: its pointer, the blocks that it leans on, what waits (none: it is dead) -/
structure Lnk (w : World) (p : Value) (K : Nat → Prop) (st : Option (List UInt8)) : Prop where
  is : ∃ g, p = .pointer (some ⟨g, 0, none⟩) ∧ RLnk w g 46 K st
variable {w w' : World} {p : Value} {K S : Nat → Prop} {st : Option (List UInt8)}
theorem Lnk.ptr (h : Lnk w p K st) : ∃ ad, p = .pointer (some ad) :=
  let ⟨g, e, _⟩ := h.is
  ⟨_, e⟩
theorem Lnk.fr (h : Lnk w p K st) (hf : Fr S w w') (hS : ∀ i, K i → ¬ S i) : Lnk w' p K st :=
  let ⟨g, e, hr⟩ := h.is
  ⟨g, e, hr.fr hf hS⟩
theorem Lnk.low (h : Lnk w p K st) : ∀ i, K i → i < w.heap.size :=
  let ⟨g, e, hr⟩ := h.is
  hr.lt
theorem Lnk.no (h : Lnk w p K st) (hf : Fr No w w') : Lnk w' p K st := h.fr hf (fun _ _ x => x)

theorem link_new_any (w : World) : Calls Try.prog 7 #[] w fun e w' => ∃ p, e = .returned p ∧ ∃ K, Lnk w' p K (some []) ∧ (∀ i, K i → w.heap.size ≤ i) ∧ Fr No w w' := by
  go_enter Try.func7, Try.ntmps7
  go_wp2
  go_ret
  refine ⟨_, rfl, fun i => i = w.heap.size, ⟨w.heap.size, rfl, ⟨none, 0, 0, false, Bk.new _ _ _, (fun _ e => nomatch e), (fun e => nomatch e), fun x e => ?_⟩, rfl, ?_⟩, ?_, ?_⟩
  · injection e with e
    subst e
    exact ⟨rfl, Rd.nil_ _, (fun _ e => nomatch e), by simp⟩
  · rintro i rfl
    simp
  · rintro i rfl
    exact Nat.le_refl _
  · exact (Fr.refl No w).alloc _

theorem link_nil_any (A : Option Addr) (n c : Nat) (w : World) :
    Calls Try.prog 13 #[.pointer none, .slice A n c] w fun e w' => e = .returned (.tuple #[.slice none 0 0, .int .i64 2]) ∧ Fr No w w' := by
  go_enter Try.func13, Try.ntmps13
  go_wp2
  go_ret2
  exact ⟨rfl, Fr.refl _ _⟩

theorem link_frame_any (A : Option Addr) (n c : Nat) (l : List UInt8) (w : World) (ha : Rd w A n c (u8s l)) (hn : n ≤ 65536) :
    Calls Try.prog 9 #[.slice A n c] w fun e w' => ∃ B m d, e = .returned (.tuple #[.slice B m d, .int .i64 (frmE l)]) ∧ Rd w' B m d (u8s (frmL l)) ∧ (∀ bd, B = some bd → w.heap.size ≤ bd.block) ∧ Fr No w w' := by
  have hl : l.length = n := by simpa using ha.len
  by_cases h0 : n = 0
  · have e1 : frmE l = 1 := by unfold frmE; rw [if_pos (List.eq_nil_of_length_eq_zero (by omega))]
    have e2 : frmL l = [] := by unfold frmL; rw [if_pos (List.eq_nil_of_length_eq_zero (by omega))]
    rw [e1, e2]
    have h0I : (n : Int) = 0 := by omega
    go_enter Try.func9, Try.ntmps9
    go_wp2
    go_ret2
    exact ⟨none, 0, 0, rfl, Rd.nil_ _, (fun _ e => nomatch e), Fr.refl _ _⟩
  have hne : l ≠ [] := fun e => by rw [e] at hl; simp at hl; omega
  have h0I : ¬ (n : Int) = 0 := by omega
  by_cases h1 : 4096 < n
  · have e1 : frmE l = 4 := by unfold frmE; rw [if_neg hne, if_pos (by omega)]
    have e2 : frmL l = [] := by unfold frmL; rw [if_neg hne, if_pos (by omega)]
    rw [e1, e2]
    have h1I : (4096 : Int) < (n : Int) := by omega
    go_enter Try.func9, Try.ntmps9
    go_wp2
    go_ret2
    exact ⟨none, 0, 0, rfl, Rd.nil_ _, (fun _ e => nomatch e), Fr.refl _ _⟩
  · obtain ⟨e1, e2⟩ := frm_ok (b := l) (by omega) (by omega)
    rw [hl] at e2
    rw [e1, e2]
    have h1I : ¬ (4096 : Int) < (n : Int) := by omega
    have hh8 : held8 2 = 2 := by decide
    have hput := fun u => put_any none 0 0 [] n 2 u (Rd.nil_ u) (by omega) (by omega)
    rw [hh8] at hput
    have HP := Lib.hid hput
    clear hput e1 e2 hne
    have hw64 : IntKind.u64.wrap (n : Int) = (n : Int) := IntWalk.u64_in _ ⟨by omega, by omega⟩
    go_enter Try.func9, Try.ntmps9
    go_wp2_with (first
      | (go_at_call 17; refine (HP.out _).mono ?_; rintro e w1 ⟨v1, rfl, ho1, hf1⟩)
      | (refine ap8 _ rfl _ _ rfl w.heap.size v1 2 (low n 2) rfl (by simpa using ho1) A n c l rfl (ha.no hf1) (by omega) hf1.size ?_; intro v2 w2 ho2 hg2 hv2))
    go_ret2
    obtain ⟨B, d, rfl, hr, hb⟩ := Rd.of_own ho2
    exact ⟨B, _, d, rfl, hr, fun bd e => (hb bd e).1, hf1.grown hg2 (fun g e => .inr (own_base ho1 e))⟩

set_option maxHeartbeats 1600000 in
theorem link_feed_any (A : Option Addr) (n c : Nat) (b : List UInt8) (w : World) (h : Lnk w p K st) (hb : Rd w A n c (u8s b)) (hn : n ≤ 65536) (hA : ∀ ad, A = some ad → 0 < n → ¬ K ad.block) :
    Calls Try.prog 13 #[p, .slice A n c] w fun e w' => ∃ B m d, e = .returned (.tuple #[.slice B m d, .int .i64 (feedE st b)]) ∧
      ∃ K', RdL w' (fun i => w.heap.size ≤ i ∧ i < w'.heap.size ∧ ¬ K' i) B m d (feedF st b) ∧ Lnk w' p K' (feedS st b) ∧ Fr K w w' ∧ (∀ i, K' i → K i ∨ w.heap.size ≤ i) := by
  obtain ⟨g, rfl, hr⟩ := h.is
  obtain ⟨LA, ln, lc, d, hb0, hLK, hd, hsx⟩ := hr.cells
  have hKg := hr.own
  have hKl := hr.lt
  have hbl : b.length = n := by simpa using hb.len
  cases st with
  | none =>
    have hdt := hd rfl
    subst hdt
    have c0 : w.cell? ⟨g, 0, none⟩ = some (.slice LA ln lc) := hb0.cell 0
    have c1 : w.cell? ⟨g, 1, none⟩ = some (.bool true) := hb0.cell 1
    go_enter Try.func13, Try.ntmps13
    go_wp2
    go_ret2
    exact ⟨none, 0, 0, rfl, K, RdL.nil_ _ _, h, Fr.refl _ _, fun i hi => .inl hi⟩
  | some x =>
    obtain ⟨rfl, hrx, hLg, hx⟩ := hsx x rfl
    have hxl : x.length = ln := by simpa using hrx.len
    have hflat : [x, b].flatten = x ++ b := by simp
    have hlen : (x ++ b).length = ln + n := by rw [List.length_append, hxl, hbl]
    have c0 : w.cell? ⟨g, 0, none⟩ = some (.slice LA ln lc) := hb0.cell 0
    have c1 : w.cell? ⟨g, 1, none⟩ = some (.bool false) := hb0.cell 1
    have hRow : RdL (w.alloc (.cells #[.slice LA ln lc, .slice A n c] 23)) (fun _ => True) (some ⟨w.heap.size, 0, none⟩) 2 2 [x, b] :=
      ⟨⟨[.slice LA ln lc, .slice A n c], Rd.lit w [.slice LA ln lc, .slice A n c] 23 2 rfl (by simp [maxLen]), ⟨LA, ln, lc, rfl, hrx.no ((Fr.refl No w).alloc _), fun _ _ => trivial⟩, ⟨A, n, c, rfl, hb.no ((Fr.refl No w).alloc _), fun _ _ => trivial⟩, trivial⟩, fun _ _ => trivial⟩
    have hCon := concat_any (fun _ => True) _ 2 2 [x, b] _ hRow (by omega) (by rw [hflat]; omega)
    rw [hflat, hlen] at hCon
    clear hRow hd hsx hflat
    cases hcut : cutL (x ++ b) with
    | none =>
      obtain ⟨e1, e2, e3⟩ := feed_none (st := some x) (b := b) hcut
      rw [e1, e2, e3]
      have hF := fun V d u (hu : Rd u V (ln + n) d (u8s (x ++ b))) => (frames_any V (ln + n) d (x ++ b) u hu (by omega)).mono (fun e w' h => (show e = .returned (.tuple #[.slice none 0 0, .int .i64 0, .int .i64 4]) ∧ Fr No u w' from by
        rcases h with ⟨hf, ⟨_, e1⟩ | ⟨fs, r, _, _, _, _, e2, _⟩⟩
        · exact ⟨e1, hf⟩
        · rw [hcut] at e2
          cases e2))
      have HF := Lib.hid hF; have HC := Lib.hid hCon
      clear hF hCon hcut e1 e2 e3 hlen
      go_enter Try.func13, Try.ntmps13
      go_wp2_with (first
        | (go_at_call 19; go_must (refine HC.out.mono ?_); rintro e w1 ⟨v1, rfl, ho1, hf1⟩; obtain ⟨V, d1, rfl, hrv, hbv⟩ := Rd.of_own ho1)
        | (go_at_call 20; refine (HF.out V d1 _ hrv).mono ?_; rintro e w2 ⟨rfl, hf2⟩; have hb2 := hb0.no (((Fr.refl No w).alloc _).trans (hf1.trans hf2)); have z0 := hb2.frozen 0; have z1 := hb2.frozen 1; have c02 : w2.cell? ⟨g, 0, none⟩ = some (.slice LA ln lc) := hb2.cell 0; have c12 : w2.cell? ⟨g, 1, none⟩ = some (.bool false) := hb2.cell 1))
      go_ret2
      have hfw : Fr No w w2 := ((Fr.refl No w).alloc _).trans (hf1.trans hf2)
      have hfs : Fr K w ((w2.setCell ⟨g, 0, none⟩ (.slice none 0 0)).setCell ⟨g, 1, none⟩ (.bool true)) := (hfw.no.setCell (p := ⟨g, 0, none⟩) (.inl hKg) _).setCell (p := ⟨g, 1, none⟩) (.inl hKg) _
      exact ⟨none, 0, 0, rfl, K, RdL.nil_ _ _, ⟨g, rfl, ⟨none, 0, 0, true, (hb2.set_ 0 (.slice none 0 0)).set_ 1 (.bool true), (fun _ e => nomatch e), (fun _ => rfl), (fun _ e => nomatch e)⟩, hKg, fun i hi => Nat.lt_of_lt_of_le (hKl i hi) hfs.size⟩, hfs, fun i hi => .inl hi⟩
    | some pr =>
      obtain ⟨e1, e2, e3⟩ := feed_some (st := some x) (b := b) hcut
      obtain ⟨fs, r⟩ := pr
      simp only [] at e1 e2
      rw [e1, e2, e3]
      have hrest := (cut_rest _ _ (Nat.le_refl _) _ hcut).1
      simp only [] at hrest
      have hF := fun V d u (hu : Rd u V (ln + n) d (u8s (x ++ b))) => (frames_any V (ln + n) d (x ++ b) u hu (by omega)).mono (fun e w' h => (show ∃ (k : Nat) (B : Option Addr) (m d : Nat), e = .returned (.tuple #[.slice B m d, .int .i64 (k : Int), .int .i64 0]) ∧ k ≤ ln + n ∧ (x ++ b).drop k = r ∧ RdL w' (fun i => u.heap.size ≤ i ∧ i < w'.heap.size) B m d fs ∧ Fr No u w' from by
        rcases h with ⟨hf, ⟨e2, _⟩ | ⟨fs', r', k, B, m, d, e2, e1, hk, hr, hd⟩⟩
        · rw [hcut] at e2
          cases e2
        · rw [hcut] at e2
          injection e2 with e2
          injection e2 with e2 e3
          subst e2
          subst e3
          exact ⟨k, B, m, d, e1, by omega, hr, hd, hf⟩))
      have hU : ∀ k, (x ++ b).drop k = r → ((u8s (x ++ b)).take (ln + n)).drop k = u8s r := by
        intro k hk
        rw [List.take_of_length_le (by rw [u8s_length]; omega), ← hk]
        simp [u8s]
      have HF := Lib.hid hF; have HC := Lib.hid hCon; have HU := Lib.hid hU; have HK := Lib.hid hKl
      clear hF hCon hcut e1 e2 e3 hlen hU hKl hLK hLg h hr
      go_enter Try.func13, Try.ntmps13
      go_wp2_with (first
        | (go_at_call 19; go_must (refine HC.out.mono ?_); rintro e w1 ⟨v1, rfl, ho1, hf1⟩; obtain ⟨V, d1, rfl, hrv, hbv⟩ := Rd.of_own ho1; have hcp := hrv.cap; have hmx : d1 ≤ 9223372036854775807 := hrv.max)
        | (go_at_call 20; refine (HF.out V d1 _ hrv).mono ?_; rintro e w2 ⟨k, B, m, d, rfl, hk, hkr, hR, hf2⟩; have hb2 := hb0.no (((Fr.refl No w).alloc _).trans (hf1.trans hf2)); have hcutv := (hrv.no hf2).cut (k := k) (m := ln + n) hk (Nat.le_refl _); rw [HU.out k hkr] at hcutv)
        | (go_at_call 21; go_must (refine (clone_any _ _ _ r _ hcutv (by omega)).mono ?_); rintro e w3 ⟨v3, rfl, ho3, hf3⟩; obtain ⟨Y, dy, rfl, hry, hby⟩ := Rd.of_own ho3; have b3 := hb2.no hf3; have c03 : w3.cell? ⟨g, 0, none⟩ = some (.slice LA ln lc) := b3.cell 0; have z03 := b3.frozen 0))
      all_goals
        go_ret2
        have hfw : Fr No w w2 := ((Fr.refl No w).alloc _).trans (hf1.trans hf2)
        have hgw : g < w.heap.size := hb0.lt
        have hs1 : w.heap.size ≤ w1.heap.size := by have := hf1.size; simp at this; omega
        have hs2 := hfw.size
        have hfs : Fr (Just g) w3 (w3.setCell ⟨g, 0, none⟩ (.slice Y (ln + n - k) dy)) := (Fr.refl (Just g) w3).setCell (p := ⟨g, 0, none⟩) (.inl (Just.at g)) _
        refine ⟨B, m, d, rfl, _, (hR.fr (hf3.no.trans hfs) (fun i hi e => by have e : i = g := e; omega)).mono (fun i hi => ⟨by omega, Nat.lt_of_lt_of_le hi.2 (Nat.le_trans hf3.size hfs.size), fun hx => ?_⟩), ⟨g, rfl, RLnk.put b3 hry (fun ad ea => ⟨by have := (hby ad ea).1; omega, (hby ad ea).2⟩) hrest⟩, (hfw.trans hf3).no.trans (hfs.mono (fun i e => by rw [show i = g from e]; exact hKg)), fun i hi => ?_⟩
        · rcases hx with rfl | ⟨ad, ea, rfl⟩
          · omega
          · have := (hby ad ea).1; omega
        · rcases hi with rfl | ⟨ad, ea, rfl⟩
          · exact .inl hKg
          · exact .inr (by have := (hby ad ea).1; omega)
end Go.Proofs.Ytpoaifibomiiaaa
