/- The statements' own frames and links. -/
import Derived.Test.YtpoaifibomiiaaaLnkMath
import Derived.Test.YtpoaifibomiiaaaRows2
import Derived.Test.YtpoaifibomiiaaaRefNum
import Derived.Test.YtpoaifibomiiaaaRefPut
namespace Go.Proofs.Ytpoaifibomiiaaa
open Go.RowKit
set_option maxHeartbeats 400000
set_option linter.unusedVariables false

theorem own_base {w : World} {base g : Nat} {e : TypeId} {size : Nat} {v : Value} {n : Nat} {xs : List Value} (h : w.ownsRow base e size v n xs) (hg : v.ownBlock = some g) : base ≤ g := by
  rcases h.2 with ⟨rfl, _⟩ | ⟨g', cap, cur, rfl, hb, _⟩
  · simp [Value.ownBlock] at hg
  · simp [Value.ownBlock] at hg
    omega
theorem Rd.of_own' {w : World} {base : Nat} {e : TypeId} {v : Value} {n : Nat} {xs : List Value} (h : w.ownsRow base e 1 v n xs) :
    ∃ A c, v = .slice A n c ∧ Rd w A n c xs ∧ ∃ g, (∀ ad, A = some ad → ad = ⟨g, 0, none⟩ ∧ base ≤ g ∧ g < w.heap.size) := by
  obtain ⟨A, c, rfl, hr, hb⟩ := Rd.of_own h
  refine ⟨A, c, rfl, hr, ?_⟩
  rcases h.2 with ⟨e, _⟩ | ⟨g, cap, cur, e, hg, hh⟩
  · injection e with e1 _ _
    subst e1
    exact ⟨0, fun _ e => nomatch e⟩
  · injection e with e1 _ _
    subst e1
    exact ⟨g, fun ad ea => by
      injection ea with ea
      subst ea
      exact ⟨rfl, (hb _ rfl).1, (hb _ rfl).2⟩⟩
theorem ref_framed_any (A : Option Addr) (n c : Nat) (l : List UInt8) (w : World) (ha : Rd w A n c (u8s l)) (hn : n ≤ 65536) :
    Calls Try.prog 10 #[.slice A n c] w fun e w' => ∃ B m d, e = .returned (.tuple #[.slice B m d, .int .i64 (frmE l)]) ∧ Rd w' B m d (u8s (frmL l)) ∧ (∀ bd, B = some bd → w.heap.size ≤ bd.block) ∧ Fr No w w' := by
  have hl : l.length = n := by simpa using ha.len
  by_cases h0 : n = 0
  · have e1 : frmE l = 1 := by unfold frmE; rw [if_pos (List.eq_nil_of_length_eq_zero (by omega))]
    have e2 : frmL l = [] := by unfold frmL; rw [if_pos (List.eq_nil_of_length_eq_zero (by omega))]
    rw [e1, e2]
    have h0I : (n : Int) = 0 := by omega
    go_enter Try.func10, Try.ntmps10
    go_wp2
    go_ret2
    exact ⟨none, 0, 0, rfl, Rd.nil_ _, (fun _ e => nomatch e), Fr.refl _ _⟩
  have hne : l ≠ [] := fun e => by rw [e] at hl; simp at hl; omega
  have h0I : ¬ (n : Int) = 0 := by omega
  by_cases h1 : 4096 < n
  · have e1 : frmE l = 4 := by unfold frmE; rw [if_neg hne, if_pos (by omega)]
    have e2 : frmL l = [] := by unfold frmL; rw [if_neg hne, if_pos (by omega)]
    rw [e1, e2]
    have h1I : (4096 : Int) < (n : Int) := by omega
    go_enter Try.func10, Try.ntmps10
    go_wp2
    go_ret2
    exact ⟨none, 0, 0, rfl, Rd.nil_ _, (fun _ e => nomatch e), Fr.refl _ _⟩
  · obtain ⟨e1, e2⟩ := frm_ok (b := l) (by omega) (by omega)
    rw [hl] at e2
    rw [e1, e2]
    have h1I : ¬ (4096 : Int) < (n : Int) := by omega
    have hh8 : held8 2 = 2 := by decide
    have hput := fun u => ref_put_any none 0 0 [] n 2 u (Rd.nil_ u) (by omega) (by omega)
    rw [hh8] at hput
    have HP := Lib.hid hput
    clear hput e1 e2 hne
    have hw64 : IntKind.u64.wrap (n : Int) = (n : Int) := IntWalk.u64_in _ ⟨by omega, by omega⟩
    go_enter Try.func10, Try.ntmps10
    go_wp2_with (first
      | (go_at_call 18; refine (HP.out _).mono ?_; rintro e w1 ⟨v1, rfl, ho1, hf1⟩)
      | (refine ap8 _ rfl _ _ rfl w.heap.size v1 2 (low n 2) rfl (by simpa using ho1) A n c l rfl (ha.no hf1) (by omega) hf1.size ?_; intro v2 w2 ho2 hg2 hv2))
    go_ret2
    obtain ⟨B, d, rfl, hr, hb⟩ := Rd.of_own ho2
    exact ⟨B, _, d, rfl, hr, fun bd e => (hb bd e).1, hf1.grown hg2 (fun g e => .inr (own_base ho1 e))⟩

/-- the statements' own link at block g: what waits (none: it is dead); K: the blocks that it leans on -/
structure RLnk (w : World) (g : Nat) (t : TypeId) (K : Nat → Prop) (st : Option (List UInt8)) : Prop where
  cells : ∃ A n c d, Bk w g t [.slice A n c, .bool d] ∧ (∀ ad, A = some ad → K ad.block) ∧ (st = none → d = true) ∧ ∀ x, st = some x → d = false ∧ Rd w A n c (u8s x) ∧ (∀ ad, A = some ad → ad.block ≠ g) ∧ x.length ≤ 4097
  own : K g
  lt : ∀ i, K i → i < w.heap.size
theorem RLnk.fr {w w' : World} {S K : Nat → Prop} {g : Nat} {t : TypeId} {st : Option (List UInt8)} (h : RLnk w g t K st) (hf : Fr S w w') (hS : ∀ i, K i → ¬ S i) : RLnk w' g t K st :=
  let ⟨A, n, c, d, hb, hK, h1, h2⟩ := h.cells
  ⟨⟨A, n, c, d, hb.fr hf (hS g h.own), hK, h1, fun x e => let ⟨a, b, c, d⟩ := h2 x e; ⟨a, b.fr hf (fun ad ea => hS _ (hK ad ea)), c, d⟩⟩, h.own, fun i hi => Nat.lt_of_lt_of_le (h.lt i hi) hf.size⟩
theorem RLnk.put {w3 : World} {g : Nat} {t : TypeId} {u : Value} {Y : Option Addr} {m dy : Nat} {r : List UInt8} (b3 : Bk w3 g t [u, .bool false]) (hry : Rd w3 Y m dy (u8s r)) (hby : ∀ ad, Y = some ad → ad.block ≠ g ∧ ad.block < w3.heap.size) (hr : r.length ≤ 4097) :
    RLnk (w3.setCell ⟨g, 0, none⟩ (.slice Y m dy)) g t (fun i => i = g ∨ ∃ ad, Y = some ad ∧ ad.block = i) (some r) :=
  have hf := (Fr.refl (Just g) w3).setCell (p := ⟨g, 0, none⟩) (.inl (Just.at g)) (.slice Y m dy)
  ⟨⟨Y, m, dy, false, b3.set_ 0 _, (fun ad e => .inr ⟨ad, e, rfl⟩), (fun e => nomatch e), fun x e => by
    injection e with e
    subst e
    exact ⟨rfl, hry.fr hf (fun ad ea => (hby ad ea).1), (fun ad ea => (hby ad ea).1), hr⟩⟩, .inl rfl, fun i hi => by
      have := hf.size
      rcases hi with rfl | ⟨ad, e, rfl⟩
      · have := b3.lt; omega
      · have := (hby ad e).2; omega⟩
/-- how long a slice is -/
def slLen : Value → Nat
  | .slice _ n _ => n
  | _ => 0
/-- one frame more: the row that grows, and the one that is put behind it -/
theorem feed_step {w wr w2 w4 w3 : World} {OA Y : Option Addr} {k oc q dy : Nat} {fs : List (List UInt8)} {l : List UInt8} {t : TypeId}
    (hO : OwnL wr w2.heap.size (fun i => w.heap.size ≤ i ∧ i < wr.heap.size ∧ (Value.slice OA k oc).ownBlock ≠ some i) (.slice OA k oc) k fs)
    (hOb : ∀ i, (Value.slice OA k oc).ownBlock = some i → w2.heap.size ≤ i ∧ i < wr.heap.size) (hs4 : wr.heap.size ≤ w4.heap.size) (hf3 : Fr No wr w3) (hry : Rd w3 Y q dy (u8s l))
    (hby : ∀ ad, Y = some ad → w4.heap.size ≤ ad.block ∧ ad.block < w3.heap.size) (hz : w.heap.size ≤ wr.heap.size) :
    OwnL (w3.alloc (.cells #[.slice Y q dy] t)) w2.heap.size (fun i => w.heap.size ≤ i ∧ i < (w3.alloc (.cells #[.slice Y q dy] t)).heap.size ∧ (Value.slice OA k oc).ownBlock ≠ some i) (.slice OA k oc) k fs ∧
    RdL (w3.alloc (.cells #[.slice Y q dy] t)) (fun i => w.heap.size ≤ i ∧ i < (w3.alloc (.cells #[.slice Y q dy] t)).heap.size ∧ (Value.slice OA k oc).ownBlock ≠ some i) (some ⟨w3.heap.size, 0, none⟩) 1 1 [l] := by
  have hs3 := hf3.size
  have hsz : (w3.alloc (.cells #[.slice Y q dy] t)).heap.size = w3.heap.size + 1 := by simp
  refine ⟨(hO.no (hf3.alloc _)).mono (fun i h => ⟨h.1, by omega, h.2.2⟩), ⟨⟨[.slice Y q dy], Rd.lit w3 [.slice Y q dy] t 1 rfl (by simp [maxLen]), ⟨⟨Y, q, dy, rfl, hry.no ((Fr.refl No w3).alloc _), fun ad e => ?_⟩, trivial⟩⟩, fun ad e => ?_⟩⟩
  · obtain ⟨h1, h2⟩ := hby ad e
    exact ⟨by omega, by omega, fun x => by have := (hOb _ x).2; omega⟩
  · injection e with e
    subst e
    exact ⟨by show _ ≤ w3.heap.size; omega, by show w3.heap.size < _; omega, fun x => by have h : w3.heap.size < wr.heap.size := (hOb _ x).2; omega⟩

set_option maxHeartbeats 4000000 in
theorem ref_feed_any {g : Nat} {t : TypeId} {K : Nat → Prop} {st : Option (List UInt8)} (A : Option Addr) (n c : Nat) (b : List UInt8) (w : World) (h : RLnk w g t K st) (hb : Rd w A n c (u8s b)) (hn : n ≤ 65536) :
    Calls Try.prog 14 #[.pointer (some ⟨g, 0, none⟩), .slice A n c] w fun e w' => ∃ B m d, e = .returned (.tuple #[.slice B m d, .int .i64 (feedE st b)]) ∧ ∃ K', RdL w' (fun i => w.heap.size ≤ i ∧ i < w'.heap.size ∧ ¬ K' i) B m d (feedF st b) ∧ RLnk w' g t K' (feedS st b) ∧ Fr (Just g) w w' ∧ (∀ i, K' i → K i ∨ w.heap.size ≤ i) := by
  obtain ⟨LA, ln, lc, ld, hbk, hLK, hs0, hs1⟩ := h.cells
  have hKg := Lib.hid h.own
  have hKl := Lib.hid h.lt
  have HLK := Lib.hid hLK
  clear hLK
  have hl : b.length = n := by simpa using hb.len
  have c0 := hbk.cell 0
  have c1 := hbk.cell 1
  have z0 := hbk.frozen 0
  have z1 := hbk.frozen 1
  cases st with
  | none =>
    obtain rfl := hs0 rfl
    obtain ⟨e1, e2, e3⟩ := feed_none (st := none) (b := b) rfl
    rw [e1, e2, e3]
    go_enter Try.func14, Try.ntmps14
    go_wp2
    go_ret2
    exact ⟨none, 0, 0, rfl, K, RdL.nil_ _ _, ⟨⟨LA, ln, lc, true, hbk, HLK.out, fun _ => rfl, (fun _ e => nomatch e)⟩, hKg.out, hKl.out⟩, Fr.refl _ _, fun i hi => .inl hi⟩
  | some x =>
    obtain ⟨rfl, hr, hLA, hx⟩ := hs1 x rfl
    have hxl : x.length = ln := by simpa using hr.len
    go_enter Try.func14, Try.ntmps14
    go_wp2_with (first
      | (refine ap8 _ rfl _ _ rfl w.heap.size (.slice none 0 0) 0 [] rfl ⟨rfl, .inl ⟨rfl, rfl⟩⟩ LA ln lc x rfl (hr.no (by first | exact (Fr.refl No w) | exact (Fr.refl No w).drew | exact (Fr.refl No w).drewN _)) (by omega) (Nat.le_refl _) ?_; intro v1 w1 ho1 hg1 hv1; rw [Nat.zero_add, List.nil_append] at ho1)
      | (refine ap8 _ rfl _ _ rfl w.heap.size v1 ln x rfl ho1 A n c b rfl (hb.no ((Fr.refl No w).grown hg1 (by simp [Value.ownBlock]))) (by omega) hg1.size ?_; intro v2 w2 ho2 hg2 hv2))
    have hf2 : Fr No w w2 := ((Fr.refl No w).grown hg1 (by simp [Value.ownBlock])).grown hg2 (fun g e => .inr (own_base ho1 e))
    obtain ⟨X0, d0, rfl, hr0, xb, hb0⟩ := Rd.of_own' ho2
    obtain ⟨y, hy⟩ : ∃ y, x ++ b = y := ⟨_, rfl⟩
    have hyl : y.length = ln + n := by rw [← hy, List.length_append]; omega
    have hr1 : Rd w2 X0 (ln + n) d0 (u8s y) := by rw [← hy]; simpa using hr0
    have hfo : feedO (some x) b = cutL y := by unfold feedO; rw [← hy]; rfl
    have hgl : g < w.heap.size := hbk.lt
    have hln : ln ≤ 4097 := by omega
    have HB := Lib.hid hbk; have HFO := Lib.hid hfo; have HYL := Lib.hid hyl; have HS1 := Lib.hid hf2
    have hinv0 : cutL y = (cutL y).map fun p => (([] : List (List UInt8)) ++ p.1, p.2) := by cases cutL y <;> simp
    have HI0 := Lib.hid hinv0; have HB0 := Lib.hid hb0
    clear hb0 hbk hfo hy hinv0 hr0 hr hs0 hs1 hb hl hxl c0 c1 z0 z1 ho1 hg1 hv1 hg2 hv2 ho2 h
    go_loopw [7, 6] (fun out xs wr => ∃ (fs : List (List UInt8)) (r : List UInt8) (X : Option Addr) (m d k : Nat), xs = .slice X m d ∧ Rd wr X m d (u8s r) ∧ (∀ ad, X = some ad → (∃ o, ad = ⟨xb, o, none⟩) ∧ w.heap.size ≤ xb ∧ xb < w2.heap.size) ∧
      OwnL wr w2.heap.size (fun i => w.heap.size ≤ i ∧ i < wr.heap.size ∧ out.ownBlock ≠ some i) out k fs ∧ Fr No w wr ∧ w2.heap.size ≤ wr.heap.size ∧ r.length ≤ 70000 ∧ k + r.length ≤ 70000 ∧ cutL y = (cutL r).map fun p => (fs ++ p.1, p.2)) (fun _ xs _ => slLen xs)
    case atStart => exact ⟨[], y, X0, _, d0, 0, rfl, hr1, fun ad e => ⟨⟨0, (HB0.out ad e).1⟩, (HB0.out ad e).2⟩, OwnL.nil_ _ _ _, hf2, Nat.le_refl _, by rw [HYL.out]; omega, by rw [HYL.out]; omega, HI0.out⟩
    case round =>
      obtain ⟨fs, r, X, m, d, k, rfl, hrr, hX, hO, hfr, hsz, hrl, hkl, hinv⟩ := hrel
      have hm : r.length = m := by simpa using hrr.len
      have hsz0 := HS1.out.size
      obtain ⟨OA, oc, rfl, hrL⟩ := (hO.mono (M := fun i => w.heap.size ≤ i ∧ i < wr.heap.size) (fun i h => ⟨h.1, h.2.1⟩)).rd (fun i h1 h2 => by omega)
      have hbr := HB.out.no hfr
      have c0 : wr.cell? ⟨g, 0, none⟩ = some (.slice LA ln lc) := hbr.cell 0
      have c1 : wr.cell? ⟨g, 1, none⟩ = some (.bool false) := hbr.cell 1
      have z0 := hbr.frozen 0
      have z1 := hbr.frozen 1
      -- what is done when nothing more can be cut
      have done : cutL r = some ([], r) → r.length ≤ 4097 → feedE (some x) b = 0 ∧ feedF (some x) b = fs ∧ feedS (some x) b = some r := by
        intro hc _
        have h1 : feedO (some x) b = some (fs ++ [], r) := by rw [HFO.out, hinv, hc]; rfl
        obtain ⟨a, b', c'⟩ := feed_some h1
        exact ⟨c', by rw [b']; simp, a⟩
      by_cases hlt : m < 2
      · obtain ⟨e1, e2, e3⟩ := done (cut_short (by omega)) (by omega)
        have hltI : ¬ (2 : Int) ≤ (m : Int) := by omega
        have hrlen : r.length ≤ 4097 := by omega
        have E1 := Lib.hid e1; have E2 := Lib.hid e2; have E3 := Lib.hid e3
        clear e1 e2 e3 done hinv
        go_wp2_with (refine ap8 _ rfl _ _ rfl wr.heap.size (.slice none 0 0) 0 [] rfl ⟨rfl, .inl ⟨rfl, rfl⟩⟩ X m d r rfl hrr (by omega) (Nat.le_refl _) ?_; intro v3 w3 ho3 hg3 hv3; have hf3 : Fr No wr w3 := ((Fr.refl No wr).grown hg3 (by simp [Value.ownBlock])); have b3 := hbr.no hf3; have c03 : w3.cell? ⟨g, 0, none⟩ = some (.slice LA ln lc) := b3.cell 0; have z03 := b3.frozen 0; obtain ⟨Y, dy, rfl, hry, hby⟩ := Rd.of_own ho3)
        go_ret2
        rw [E1.out, E2.out, E3.out]
        have hfs : Fr (Just g) w3 (w3.setCell ⟨g, 0, none⟩ (.slice Y m dy)) := (Fr.refl (Just g) w3).setCell (p := ⟨g, 0, none⟩) (.inl (Just.at g)) _
        have hb7 : ∀ ad, Y = some ad → wr.heap.size ≤ ad.block ∧ ad.block < w3.heap.size := fun ad ea => ⟨by have := (hby ad ea).1; omega, (hby ad ea).2⟩
        exact ⟨OA, k, oc, rfl, _, (hrL.fr (hf3.no.trans hfs) (fun i h e => by have e : i = g := e; omega)).mono (fun i hi => ⟨hi.1, Nat.lt_of_lt_of_le hi.2 (Nat.le_trans hf3.size hfs.size), fun x => by
          rcases x with x | ⟨ad, ea, x⟩
          · omega
          · have := (hb7 ad ea).1; omega⟩), RLnk.put b3 (by simpa using hry) (fun ad ea => ⟨by have := (hb7 ad ea).1; omega, (hb7 ad ea).2⟩) hrlen, hfr.no.trans (hf3.no.trans hfs), fun i hi => by
          rcases hi with rfl | ⟨ad, ea, rfl⟩
          · exact .inl hKg.out
          · exact .inr (by have := (hb7 ad ea).1; omega)⟩
      have hgeI : (2 : Int) ≤ (m : Int) := by omega
      have hnum := fun u (hu : Rd u X m d (u8s r)) => num_any X m d 0 2 r u hu (by omega) (by omega) (by omega)
      rw [show beN ((r.drop 0).take 2) = num2 r from rfl] at hnum
      have hn16 : num2 r < 65536 := by
        have := beN_lt (r.take 2)
        rw [List.length_take] at this
        have e2 : min 2 r.length = 2 := by omega
        rw [e2] at this
        exact this
      have hwr : IntKind.i64.wrap ((num2 r : Nat) : Int) = ((num2 r : Nat) : Int) := IntWalk.i64_in _ ⟨by omega, by omega⟩
      have hfr2 : 2 ≤ r.length := by omega
      by_cases hdead : num2 r = 0 ∨ 4096 < num2 r
      · have hno : feedO (some x) b = none := by rw [HFO.out, hinv, cut_dead hfr2 hdead]; rfl
        obtain ⟨e1, e2, e3⟩ := feed_none hno
        have E1 := Lib.hid e1; have E2 := Lib.hid e2; have E3 := Lib.hid e3; have HN := Lib.hid hnum
        obtain ⟨q, hq⟩ : ∃ q, num2 r = q := ⟨_, rfl⟩
        rw [hq] at HN hwr hdead
        clear e1 e2 e3 done hinv hno hnum hn16 hq
        have hdI : (q : Int) = 0 ∨ (¬ (q : Int) = 0 ∧ (4096 : Int) < (q : Int)) := by omega
        rcases hdI with hdI | ⟨hdI, hdI2⟩
        all_goals
          go_wp2_with (go_at_call 22; refine (HN.out _ hrr).mono ?_; rintro e w3 ⟨rfl, hd3⟩; have hf3 : Fr No wr w3 := hd3.fr; have b3 := hbr.no hf3; have c13 : w3.cell? ⟨g, 1, none⟩ = some (.bool false) := b3.cell 1; have z13 := b3.frozen 1)
          go_ret2
          rw [E1.out, E2.out, E3.out]
          have hfs : Fr (Just g) w3 (w3.setCell ⟨g, 1, none⟩ (.bool true)) := (Fr.refl (Just g) w3).setCell (p := ⟨g, 1, none⟩) (.inl (Just.at g)) _
          exact ⟨none, 0, 0, rfl, K, RdL.nil_ _ _, ⟨⟨LA, ln, lc, true, b3.set_ 1 _, HLK.out, fun _ => rfl, (fun _ e => nomatch e)⟩, hKg.out, fun i hi => Nat.lt_of_lt_of_le (hKl.out i hi) (Nat.le_trans hfr.size (Nat.le_trans hf3.size hfs.size))⟩, hfr.no.trans (hf3.no.trans hfs), fun i hi => .inl hi⟩
      · obtain ⟨q, hq⟩ : ∃ q, num2 r = q := ⟨_, rfl⟩
        have hn0 : ¬ (q : Int) = 0 := by omega
        have hn4 : ¬ (4096 : Int) < (q : Int) := by omega
        have hn0b : ((q : Int) == 0) = false := by rw [beq_eq_false_iff_ne]; exact hn0
        rw [hq] at hwr
        by_cases hws : m < 2 + q
        · obtain ⟨e1, e2, e3⟩ := done (cut_wait hfr2 hdead (by omega)) (by omega)
          have E1 := Lib.hid e1; have E2 := Lib.hid e2; have E3 := Lib.hid e3
          have hwsI : (m : Int) < 2 + (q : Int) := by omega
          rw [hq] at hnum
          have HN := Lib.hid hnum
          have hrlen : r.length ≤ 4097 := by omega
          clear e1 e2 e3 done hinv hnum hn16 hq hdead
          go_wp2_with (first
            | (go_at_call 22; refine (HN.out _ hrr).mono ?_; rintro e w4 ⟨rfl, hd4⟩; have hf4 : Fr No wr w4 := hd4.fr)
            | (refine ap8 _ rfl _ _ rfl w4.heap.size (.slice none 0 0) 0 [] rfl ⟨rfl, .inl ⟨rfl, rfl⟩⟩ X m d r rfl (hrr.no hf4) (by omega) (Nat.le_refl _) ?_; intro v3 w3 ho3 hg3 hv3; have hf3 : Fr No wr w3 := hf4.grown hg3 (by simp [Value.ownBlock]); have b3 := hbr.no hf3; have c03 : w3.cell? ⟨g, 0, none⟩ = some (.slice LA ln lc) := b3.cell 0; have z03 := b3.frozen 0; obtain ⟨Y, dy, rfl, hry, hby⟩ := Rd.of_own ho3))
          go_ret2
          rw [E1.out, E2.out, E3.out]
          have hfs : Fr (Just g) w3 (w3.setCell ⟨g, 0, none⟩ (.slice Y m dy)) := (Fr.refl (Just g) w3).setCell (p := ⟨g, 0, none⟩) (.inl (Just.at g)) _
          have hs4 := hf4.size
          have hb7 : ∀ ad, Y = some ad → wr.heap.size ≤ ad.block ∧ ad.block < w3.heap.size := fun ad ea => ⟨by have := (hby ad ea).1; omega, (hby ad ea).2⟩
          exact ⟨OA, k, oc, rfl, _, (hrL.fr (hf3.no.trans hfs) (fun i h e => by have e : i = g := e; omega)).mono (fun i hi => ⟨hi.1, Nat.lt_of_lt_of_le hi.2 (Nat.le_trans hf3.size hfs.size), fun x => by
            rcases x with x | ⟨ad, ea, x⟩
            · omega
            · have := (hb7 ad ea).1; omega⟩), RLnk.put b3 (by simpa using hry) (fun ad ea => ⟨by have := (hb7 ad ea).1; omega, (hb7 ad ea).2⟩) hrlen, hfr.no.trans (hf3.no.trans hfs), fun i hi => by
            rcases hi with rfl | ⟨ad, ea, rfl⟩
            · exact .inl hKg.out
            · exact .inr (by have := (hb7 ad ea).1; omega)⟩
        · have hwsI : ¬ (m : Int) < 2 + (q : Int) := by omega
          have hcut := cut_one hfr2 hdead (by omega)
          rw [hq] at hnum hcut
          have HN := Lib.hid hnum; have HC := Lib.hid hcut; have HI := Lib.hid hinv
          obtain ⟨ad, hXe⟩ : ∃ ad, X = some ad := by
            cases X with
            | none => have := hrr.nil rfl; have := hrr.cap; omega
            | some ad => exact ⟨ad, rfl⟩
          subst hXe
          obtain ⟨⟨xo, rfl⟩, hX1, hX2⟩ := hX ad rfl
          clear hX
          have hdm := hrr.cap
          have hd2 : ¬ d = 2 := by omega
          have hmid : Rd wr (some ⟨xb, xo + 2, none⟩) q (d - 2) (u8s ((r.drop 2).take q)) := by
            have h := hrr.cut (k := 2) (m := 2 + q) (by omega) (by omega)
            rw [u8s_cut, if_neg hd2] at h
            simpa [Addr.add] using h
          have hend : Rd wr (if d = 2 + q then some ⟨xb, xo, none⟩ else some ⟨xb, xo + (2 + q), none⟩) (m - (2 + q)) (d - (2 + q)) (u8s (r.drop (2 + q))) := by
            have h := hrr.cut (k := 2 + q) (m := m) (by omega) (by omega)
            rw [show (u8s r).take m = u8s r from List.take_of_length_le (by simp; omega), show (u8s r).drop (2 + q) = u8s (r.drop (2 + q)) from by simp [u8s]] at h
            simpa [Addr.add] using h
          clear done hinv hnum hcut hn16 hq hdead
          have hOb : ∀ i, (Value.slice OA k oc).ownBlock = some i → w2.heap.size ≤ i ∧ i < wr.heap.size := by
            obtain ⟨vs, hov, _⟩ := hO.vs
            exact fun i e => hov.lt i e
          have hf2z := HS1.out.size
          have tok1 : True := trivial
          have hmid' : Rd wr (some ⟨xb, xo + 2, none⟩) (2 + q - 2) (d - 2) (u8s ((r.drop 2).take q)) := by rw [Nat.add_sub_cancel_left]; exact hmid
          clear hmid
          by_cases hdq : d = 2 + q
          · rw [if_pos hdq] at hend
            subst hdq
            rw [show 2 + q - 2 = q from Nat.add_sub_cancel_left ..] at hmid'
            have hmid2 : Rd wr (some ⟨xb, xo + 2, none⟩) (2 + q - 2) q (u8s ((r.drop 2).take q)) := by rw [show 2 + q - 2 = q from Nat.add_sub_cancel_left ..]; exact hmid'
            clear hmid'
            go_wp2_with (first
              | (go_at_call 22; refine (HN.out _ hrr).mono ?_; rintro e w4 ⟨rfl, hd4⟩; have hf4 : Fr No wr w4 := hd4.fr)
              | (at_builtin; clear tok1; refine ap8 w4 rfl (.const (.slice none 0 0)) (.tmp 44) rfl w4.heap.size (.slice none 0 0) 0 [] rfl ⟨rfl, .inl ⟨rfl, rfl⟩⟩ (some ⟨xb, xo + 2, none⟩) (2 + q - 2) q ((r.drop 2).take q) rfl (hmid2.no hf4) (by omega) (Nat.le_refl _) ?_; intro v3 w3 ho3 hg3 hv3; have hf3 : Fr No wr w3 := hf4.grown hg3 (by simp [Value.ownBlock]); obtain ⟨Y, dy, rfl, hry, hby⟩ := Rd.of_own ho3; rw [Nat.zero_add, Nat.add_sub_cancel_left] at hry; obtain ⟨hO5, hL5⟩ := feed_step (t := 23) hO hOb hf4.size hf3 hry hby hfr.size)
              | (at_builtin; refine apL _ rfl (.tmp 40) (.tmp 46) rfl w2.heap.size _ _ k fs rfl hO5 _ 1 1 _ rfl hL5 (by omega) (by have := hf3.size; simp; omega) (fun i h => h.2.2) ?_; intro v6 w6 ho6 hg6 hv6))
            have hlen6 := HC.out
            have hf5 : Fr No wr (w3.alloc (.cells #[.slice Y q dy] 23)) := hf3.alloc _
            have hf6 : Fr (fun i => (Value.slice OA k oc).ownBlock = some i) wr w6 := (hf5.no).grown hg6 (fun g e => .inl e)
            have hfw6 : Fr No w w6 := (hfr.trans hf5).grown hg6 (fun g e => .inr (by have := (hOb g e).1; omega))
            have hs6 := hg6.size
            have hs3 := hf3.size
            have hsz5 : (w3.alloc (.cells #[.slice Y q dy] 23)).heap.size = w3.heap.size + 1 := by simp
            go_roundw
            case rel =>
              refine ⟨fs ++ [(r.drop 2).take q], r.drop (2 + q), _, _, _, k + 1, rfl, hend.fr hf6 (fun ad e x => ?_), fun ad e => ?_, ho6.mono (fun i h => ⟨h.1, by omega, fun x => ?_⟩), hfw6, by omega, by rw [List.length_drop]; omega, by rw [List.length_drop]; omega, ?_⟩
              · injection e with e
                subst e
                have := (hOb _ x).1
                simp at this
                omega
              · injection e with e
                exact ⟨⟨_, e.symm⟩, hX1, hX2⟩
              · rcases hv6 with h6 | h6
                · rw [h6] at x; exact h.2.2 x
                · rw [h6] at x
                  injection x with x
                  omega
              · rw [HI.out, hlen6]
                cases cutL (r.drop (2 + q)) <;> simp
            case measure => simp [slLen]; omega
          · rw [if_neg hdq] at hend
            go_wp2_with (first
              | (go_at_call 22; refine (HN.out _ hrr).mono ?_; rintro e w4 ⟨rfl, hd4⟩; have hf4 : Fr No wr w4 := hd4.fr)
              | (at_builtin; clear tok1; refine ap8 w4 rfl (.const (.slice none 0 0)) (.tmp 44) rfl w4.heap.size (.slice none 0 0) 0 [] rfl ⟨rfl, .inl ⟨rfl, rfl⟩⟩ (some ⟨xb, xo + 2, none⟩) (2 + q - 2) (d - 2) ((r.drop 2).take q) rfl (hmid'.no hf4) (by omega) (Nat.le_refl _) ?_; intro v3 w3 ho3 hg3 hv3; have hf3 : Fr No wr w3 := hf4.grown hg3 (by simp [Value.ownBlock]); obtain ⟨Y, dy, rfl, hry, hby⟩ := Rd.of_own ho3; rw [Nat.zero_add, Nat.add_sub_cancel_left] at hry; obtain ⟨hO5, hL5⟩ := feed_step (t := 23) hO hOb hf4.size hf3 hry hby hfr.size)
              | (at_builtin; refine apL _ rfl (.tmp 40) (.tmp 46) rfl w2.heap.size _ _ k fs rfl hO5 _ 1 1 _ rfl hL5 (by omega) (by have := hf3.size; simp; omega) (fun i h => h.2.2) ?_; intro v6 w6 ho6 hg6 hv6))
            have hlen6 := HC.out
            have hf5 : Fr No wr (w3.alloc (.cells #[.slice Y q dy] 23)) := hf3.alloc _
            have hf6 : Fr (fun i => (Value.slice OA k oc).ownBlock = some i) wr w6 := (hf5.no).grown hg6 (fun g e => .inl e)
            have hfw6 : Fr No w w6 := (hfr.trans hf5).grown hg6 (fun g e => .inr (by have := (hOb g e).1; omega))
            have hs6 := hg6.size
            have hs3 := hf3.size
            have hsz5 : (w3.alloc (.cells #[.slice Y q dy] 23)).heap.size = w3.heap.size + 1 := by simp
            go_roundw
            case rel =>
              refine ⟨fs ++ [(r.drop 2).take q], r.drop (2 + q), _, _, _, k + 1, rfl, hend.fr hf6 (fun ad e x => ?_), fun ad e => ?_, ho6.mono (fun i h => ⟨h.1, by omega, fun x => ?_⟩), hfw6, by omega, by rw [List.length_drop]; omega, by rw [List.length_drop]; omega, ?_⟩
              · injection e with e
                subst e
                have := (hOb _ x).1
                simp at this
                omega
              · injection e with e
                exact ⟨⟨_, e.symm⟩, hX1, hX2⟩
              · rcases hv6 with h6 | h6
                · rw [h6] at x; exact h.2.2 x
                · rw [h6] at x
                  injection x with x
                  omega
              · rw [HI.out, hlen6]
                cases cutL (r.drop (2 + q)) <;> simp
            case measure => simp [slLen]; omega
end Go.Proofs.Ytpoaifibomiiaaa
