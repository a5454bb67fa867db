/- The texts TlvP5, joined. -/
import Derived.Test.YthlgnmgjfgbffaaGreatDoorL23
import Derived.Deep.LoopGhost
/- Package tlv: Parse. -/
namespace Go.Proofs.YthlgnmgjfgbffaaGreatDoor
open Go.RowKit
set_option maxHeartbeats 1000000
set_option linter.unusedVariables false
set_option maxRecDepth 20000

/-- the parser's tags lie in blocks of their own, behind the parser's -/
def TagG (g : Nat) (wr : World) (v : Value) : Nat → Prop := fun i => g < i ∧ i < wr.heap.size ∧ v.ownBlock ≠ some i
def OwnG (wr : World) (g : Nat) (va : Value) (p : List TagL) : Prop := OwnI 2 TagI wr (g + 1) 68 (TagG g wr va) va p.length p
theorem OwnG.two {w w' : World} {g G : Nat} {va : Value} {p : List TagL} (h : OwnG w g va p) (hG : G < g) (hf : Fr (Two G g) w w') : OwnG w' g va p := by
  refine (OwnI.fr tag_ok h hf (fun i hi x => ?_) (fun i hi x => ?_)).mono tag_ok (fun i hi => ⟨hi.1, Nat.lt_of_lt_of_le hi.2.1 hf.size, hi.2.2⟩)
  · have := hi.1
    rcases x with x | x <;> omega
  · have := (h.lt i hi).1
    rcases x with x | x <;> omega
/-- the five steps of a tag -/
abbrev fiveV (g : Nat) : List Value := [.func (.func 99) #[.pointer (some ⟨g, 0, none⟩)] #[], .func (.func 100) #[.pointer (some ⟨g, 0, none⟩)] #[], .func (.func 101) #[.pointer (some ⟨g, 0, none⟩)] #[],
  .func (.func 102) #[.pointer (some ⟨g, 0, none⟩)] #[], .func (.func 103) #[.pointer (some ⟨g, 0, none⟩)] #[]]
/-- how far the tag has come behind its steps -/
def ParR (w1 : World) (g G : Nat) (b : List UInt8) (k : Nat) (va : Value) (p : List TagL) : Nat → World → Prop
  | 0, u => Fr (Two G g) w1 u ∧ ∃ t vd n, Ps u g G b k va t vd n
  | 1, u => Fr (Two G g) w1 u ∧ p.length ≠ 20 ∧ ∃ t vd n, Ps u g G b k va t vd n
  | 2, u => Fr (Two G g) w1 u ∧ p.length ≠ 20 ∧ ∃ k2 tt n, k < k2 ∧ tagP (b.drop k) = some (tt, b.drop k2) ∧ 0 ≤ tt ∧ tt < 65536 ∧ Ps u g G b k2 va tt (.slice none 0 0) n
  | 3, u => Fr (Two G g) w1 u ∧ p.length ≠ 20 ∧ ∃ k2 tt n, k < k2 ∧ tagP (b.drop k) = some (tt, b.drop k2) ∧ 0 ≤ tt ∧ tt < 65536 ∧ freshE tt p = 0 ∧ Ps u g G b k2 va tt (.slice none 0 0) n
  | 4, u => Fr (Two G g) w1 u ∧ p.length ≠ 20 ∧ ∃ k2 tt, k < k2 ∧ tagP (b.drop k) = some (tt, b.drop k2) ∧ 0 ≤ tt ∧ tt < 65536 ∧ freshE tt p = 0 ∧ (lenP (b.drop k2)).1 = 0 ∧ Ps u g G b (k2 + lenH (b.drop k2)) va tt (.slice none 0 0) (lenP (b.drop k2)).2.1
  | _, u => Fr (Two G g) w1 u ∧ p.length ≠ 20 ∧ ∃ (k4 : Nat) (tt : Int) (m : Nat) (d : List UInt8) (D : Option Addr) (c : Nat), k < k4 ∧ k4 ≤ b.length ∧ 0 ≤ tt ∧ tt < 65536 ∧ m ≤ 255 ∧ parF b.length p (b.drop k) = parF b.length (p ++ [(tt, d)]) (b.drop k4) ∧
      Ps u g G b k4 va tt (.slice D m c) m ∧ Rd u D m c (u8s d) ∧ ∀ ad, D = some ad → w1.heap.size ≤ ad.block ∧ ad.block < u.heap.size
def ParQ (w1 : World) (g G : Nat) (b : List UInt8) (k : Nat) (p : List TagL) (E : Int) (u : World) : Prop := Fr (Two G g) w1 u ∧ parF b.length p (b.drop k) = (E, [])
theorem frame5 {w1 u : World} {g G : Nat} {b : List UInt8} {k : Nat} {va : Value} {p : List TagL} {i : Nat} (h : ParR w1 g G b k va p i u) : Fr (Two G g) w1 u := by
  match i, h with
  | 0, h => exact h.1
  | 1, h => exact h.1
  | 2, h => exact h.1
  | 3, h => exact h.1
  | 4, h => exact h.1
  | _ + 5, h => exact h.1
theorem Two.lt {G g i : Nat} (h : Two G g i) (hG : G < g) : i ≤ g := by rcases h with h | h <;> omega
theorem five_steps {w1 : World} {g G : Nat} {b : List UInt8} {k : Nat} {va : Value} {p : List TagL} (hk : k < b.length) (hb : b.length ≤ 140737488355328) (ho : OwnG w1 g va p) (hp : p.length ≤ 20) (i : Nat) (hi : i < 5) :
    ∃ F x, (fiveV g)[i]? = some (.func (.func F) #[x] #[]) ∧ (∀ args w, (callFunc F args).run Tryz.prog w = .ok (.enter F args) w) ∧ ∀ u, ParR w1 g G b k va p i u → Calls Tryz.prog F #[x] u (SWTo (ParR w1 g G b k va p (i + 1)) (ParQ w1 g G b k p)) := by
  have hpf := parF_at b p k hk
  have h5 : i = 0 ∨ i = 1 ∨ i = 2 ∨ i = 3 ∨ i = 4 := by omega
  rcases h5 with rfl | rfl | rfl | rfl | rfl
  · refine ⟨_, _, rfl, fun args w => rfl, ?_⟩
    rintro u ⟨hf, t, vd, n, hps⟩
    have hG := hps.cur.bound.1
    obtain ⟨A, c, rfl, hrd⟩ := (ho.two hG hf).rd' (M := fun _ => True) (fun _ _ => trivial) tag_ok (fun _ _ => trivial)
    refine (t_room g A p.length c u hps.cells.1).mono ?_
    rintro e u' ⟨rfl, rfl⟩
    by_cases h20 : p.length = 20
    · rw [if_pos h20]
      refine ⟨4, rfl, .inr ⟨by decide, hf, ?_⟩⟩
      rw [hpf, if_pos (by omega)]
    · rw [if_neg h20]
      exact ⟨0, rfl, .inl ⟨rfl, hf, h20, t, vd, n, hps⟩⟩
  · refine ⟨_, _, rfl, fun args w => rfl, ?_⟩
    rintro u ⟨hf, h20, t, vd, n, hps⟩
    refine (t_tag hps hk).mono ?_
    rintro e u' ⟨E, rfl, hf2, ⟨rfl, hn⟩ | ⟨rfl, k2, tt, h1, h2, h3, h4, h5, hps2⟩⟩
    · refine ⟨3, rfl, .inr ⟨by decide, hf.trans hf2, ?_⟩⟩
      rw [hpf, if_neg (by omega), hn]
    · exact ⟨0, rfl, .inl ⟨rfl, hf.trans hf2, h20, k2, tt, n, h1, h3, h4, h5, hps2⟩⟩
  · refine ⟨_, _, rfl, fun args w => rfl, ?_⟩
    rintro u ⟨hf, h20, k2, tt, n, h1, h3, h4, h5, hps⟩
    have hG := hps.cur.bound.1
    obtain ⟨A, c, rfl, hrd⟩ := (ho.two hG hf).rd' (M := fun _ => True) (fun _ _ => trivial) tag_ok (fun _ _ => trivial)
    refine (t_fresh g tt (tt_wide h4 h5).1 (tt_wide h4 h5).2 u hrd hps.cells.1 hps.cells.2.1).mono ?_
    rintro e u' ⟨rfl, hf2⟩
    by_cases he : freshE tt p = 0
    · exact ⟨_, rfl, .inl ⟨he, hf.trans hf2.no, h20, k2, tt, n, h1, h3, h4, h5, he, hps.no hf2⟩⟩
    · refine ⟨_, rfl, .inr ⟨he, hf.trans hf2.no, ?_⟩⟩
      unfold freshE at he ⊢
      split at he
      · rename_i hc
        rw [if_pos hc, hpf, if_neg (by omega), h3]
        simp only [if_pos hc]
      · exact absurd rfl he
  · refine ⟨_, _, rfl, fun args w => rfl, ?_⟩
    rintro u ⟨hf, h20, k2, tt, n, h1, h3, h4, h5, h6, hps⟩
    refine (t_length hps).mono ?_
    rintro e u' ⟨E, rfl, hf2, hE, hps2⟩
    by_cases he : E = 0
    · exact ⟨E, rfl, .inl ⟨he, hf.trans hf2, h20, k2, tt, h1, h3, h4, h5, h6, by rw [← hE]; exact he, hps2 he⟩⟩
    · refine ⟨E, rfl, .inr ⟨he, hf.trans hf2, ?_⟩⟩
      have hc : ¬ (tgN tt = 0 ∨ p.any (fun a => a.1 == tt) = true) := fun hc => by unfold freshE at h6; rw [if_pos hc] at h6; cases h6
      rw [hpf, if_neg (by omega), h3]
      simp only [if_neg hc]
      rw [if_pos (by rw [← hE]; exact he), ← hE]
  · refine ⟨_, _, rfl, fun args w => rfl, ?_⟩
    rintro u ⟨hf, h20, k2, tt, h1, h3, h4, h5, h6, h7, hps⟩
    have hc : ¬ (tgN tt = 0 ∨ p.any (fun a => a.1 == tt) = true) := fun hc => by unfold freshE at h6; rw [if_pos hc] at h6; cases h6
    obtain ⟨q1, q2, q3, q4⟩ := lenH_rest h7
    have hle := hps.cur.le.1
    have hdl : (lenP (b.drop k2)).2.2.length = b.length - (k2 + lenH (b.drop k2)) := by rw [q1, List.drop_drop, List.length_drop]
    have hstep : parF b.length p (b.drop k) = if (lenP (b.drop k2)).2.2.length < (lenP (b.drop k2)).2.1 then (3, []) else parF b.length (p ++ [(tt, (lenP (b.drop k2)).2.2.take (lenP (b.drop k2)).2.1)]) ((lenP (b.drop k2)).2.2.drop (lenP (b.drop k2)).2.1) := by
      rw [hpf, if_neg (by omega), h3]
      simp only [if_neg hc]
      rw [if_neg (by rw [h7]; simp)]
    refine (t_data hps hb).mono ?_
    rintro e u' ⟨E, rfl, hf2, ⟨rfl, hs⟩ | ⟨rfl, hs, D, c, hps2, hrd, hbl⟩⟩
    · refine ⟨3, rfl, .inr ⟨by decide, hf.trans hf2, ?_⟩⟩
      rw [hstep, if_pos (by omega)]
    · refine ⟨0, rfl, .inl ⟨rfl, hf.trans hf2, h20, _, tt, _, (b.drop (k2 + lenH (b.drop k2))).take (lenP (b.drop k2)).2.1, D, c, ?_, hs, h4, h5, lenP_count _, ?_, hps2, hrd, fun ad e => ⟨Nat.le_trans hf.size (hbl ad e).1, (hbl ad e).2⟩⟩⟩
      · omega
      · rw [hstep, if_neg (by omega), q1, List.drop_drop, List.drop_drop]

/-- the loop: k bytes were read, the tags p taken -/
def ParRel (w : World) (g G : Nat) (b : List UInt8) (gk : Nat) (wr : World) : Prop := ∃ (k : Nat) (p : List TagL) (va : Value) (t : Int) (vd : Value) (n : Nat), gk = b.length - k ∧ k ≤ b.length ∧ Ps wr g G b k va t vd n ∧ OwnG wr g va p ∧ Fr No w wr ∧ parA b = parF b.length p (b.drop k) ∧ p.length ≤ 20 ∧ w.heap.size ≤ G
theorem par_walk {w2 : World} {g G : Nat} {b : List UInt8} {k : Nat} {va vd : Value} {p : List TagL} {t : Int} {n : Nat} (hps : Ps w2 g G b k va t vd n) (ho : OwnG w2 g va p) (hk : k < b.length) (hb : b.length ≤ 140737488355328) (hp : p.length ≤ 20) (ty : TypeId) :
    Calls Tryz.prog 16 #[.slice (some ⟨w2.heap.size, 0, none⟩) 5 5] (w2.alloc (.cells (fiveV g).toArray ty))
      (SWTo (ParR (w2.alloc (.cells (fiveV g).toArray ty)) g G b k va p 5) (ParQ (w2.alloc (.cells (fiveV g).toArray ty)) g G b k p)) := by
  have hfa : Fr No w2 (w2.alloc (.cells (fiveV g).toArray ty)) := (Fr.refl No w2).alloc _
  have hbk := Bk.new w2 ty (fiveV g).toArray
  have hgl := hps.bk.lt
  have hG := hps.cur.bound.1
  refine t_walk (some ⟨w2.heap.size, 0, none⟩) 5 5 (fiveV g) _ _ _ rfl (Nat.le_refl _) (by omega) (fun e => nomatch e) ⟨Fr.refl _ _, t, vd, n, hps.no hfa⟩ ?_ (fun i hi => five_steps hk hb (ho.two hG hfa.no) hp i hi)
  intro i u hu ad e j v hv
  injection e with e
  subst e
  have h1 := (hbk.fr (frame5 hu) (fun x => by have := x.lt hG; omega)).cell j
  have h2 : (⟨w2.heap.size, 0, none⟩ : Addr).add j = ⟨w2.heap.size, j, none⟩ := by unfold Addr.add; split <;> simp_all
  rw [h2, h1]
  exact hv
theorem Ps.grown {w w' : World} {g G : Nat} {b : List UInt8} {k : Nat} {va vd : Value} {t : Int} {n : Nat} {row : Option Nat} (h : Ps w g G b k va t vd n) (hg : w.grownBy w' row) (hr : ∀ i, row = some i → g < i) : Ps w' g G b k va t vd n := by
  have hf : Fr (fun i => row = some i) w w' := (Fr.refl _ w).grown hg (fun i e => .inl e)
  exact ⟨h.bk.fr hf (fun e => by have := hr g e; omega), h.cur.fr hf (fun i hi e => by have := hr i e; omega)⟩
theorem Ps.setA {w : World} {g G : Nat} {b : List UInt8} {k : Nat} {va vd : Value} {t : Int} {n : Nat} (h : Ps w g G b k va t vd n) (v : Value) : Ps (w.setCell ⟨g, 0, none⟩ v) g G b k v t vd n :=
  ⟨h.bk.set_ 0 v, h.cur.just ((Fr.refl (Just g) w).setCell (.inl (Just.at g)) _) (Nat.le_refl _)⟩
/-- one more tag -/
theorem par_more {w w3 w4 : World} {g G : Nat} {b : List UInt8} {k k4 : Nat} {p : List TagL} {tt : Int} {d : List UInt8} {A D : Option Addr} {c m dc : Nat} {v2 : Value} {ty : TypeId} {M : Nat → Prop} (hG : w.heap.size ≤ G)
    (hps : Ps w3 g G b k4 (.slice A p.length c) tt (.slice D m dc) m) (ho3 : OwnG w3 g (.slice A p.length c) p) (hf : Fr No w w3) (hp20 : p.length < 20) (hk : k < k4) (hk4 : k4 ≤ b.length) (hpar : parA b = parF b.length (p ++ [(tt, d)]) (b.drop k4))
    (hM : ∀ i, M i → g < i ∧ i < w3.heap.size ∧ (Value.slice A p.length c).ownBlock ≠ some i)
    (ho4 : OwnI 2 TagI w4 (g + 1) 68 (fun i => TagG g w3 (.slice A p.length c) i ∨ M i) v2 (p.length + 1) (p ++ [(tt, d)])) (cs : Array Value)
    (hg4 : (w3.alloc (.cells cs ty)).grownBy w4 (Value.slice A p.length c).ownBlock) (hv : v2.ownBlock = (Value.slice A p.length c).ownBlock ∨ v2.ownBlock = some (w3.heap.size + 1)) :
    ParRel w g G b (b.length - k4) (w4.setCell ⟨g, 0, none⟩ v2) := by
  have hal : Fr No w3 (w3.alloc (.cells cs ty)) := (Fr.refl No w3).alloc _
  have hown : ∀ i, (Value.slice A p.length c).ownBlock = some i → g < i := fun i e => (ho3.lt i e).1
  have hp4 : Ps w4 g G b k4 (.slice A p.length c) tt (.slice D m dc) m := (hps.no hal).grown hg4 hown
  have hf4 : Fr (fun i => g < i) w3 w4 := (hal.no).grown hg4 (fun i e => .inl (hown i e))
  have hs4 := hf4.size
  have hsz : w3.heap.size + 1 ≤ w4.heap.size := by have := ((Fr.refl (fun _ => True) (w3.alloc (.cells cs ty))).grown hg4 (fun _ _ => .inl trivial)).size; simpa using this
  have hgl := hps.bk.lt
  have hGg := hps.cur.bound.1
  have hn : ∀ i, (TagG g w3 (.slice A p.length c) i ∨ M i) → g < i ∧ i < w3.heap.size ∧ (Value.slice A p.length c).ownBlock ≠ some i := fun i hi => by
    rcases hi with hi | hi
    · exact hi
    · exact hM i hi
  have ho5 : OwnG (w4.setCell ⟨g, 0, none⟩ v2) g v2 (p ++ [(tt, d)]) := by
    have h1 : OwnI 2 TagI (w4.setCell ⟨g, 0, none⟩ v2) (g + 1) 68 (fun i => TagG g w3 (.slice A p.length c) i ∨ M i) v2 (p.length + 1) (p ++ [(tt, d)]) :=
      ho4.fr tag_ok ((Fr.refl (Just g) w4).setCell (.inl (Just.at g)) _) (fun i hi x => by have := (hn i hi).1; have : i = g := x; omega) (fun i hi x => by have := (ho4.lt i hi).1; have : i = g := x; omega)
    have h2 : (p ++ [(tt, d)]).length = p.length + 1 := by simp
    show OwnI 2 TagI _ (g + 1) _ _ v2 (p ++ [(tt, d)]).length _
    rw [h2]
    refine h1.mono tag_ok (fun i hi => ?_)
    obtain ⟨a1, a2, a3⟩ := hn i hi
    refine ⟨a1, by simp; omega, fun e => ?_⟩
    rcases hv with hv | hv
    · rw [hv] at e; exact a3 e
    · rw [hv] at e; injection e with e; omega
  refine ⟨k4, p ++ [(tt, d)], v2, tt, .slice D m dc, m, rfl, hk4, hp4.setA v2, ho5, ?_, hpar, by simp; omega, hG⟩
  have h6 : Fr No w w4 := hf.trans_new hf4 (fun i hi => .inr (by omega))
  have h7 : Fr (Just g) w4 (w4.setCell ⟨g, 0, none⟩ v2) := (Fr.refl (Just g) w4).setCell (.inl (Just.at g)) _
  exact h6.trans_just h7 (by omega)
theorem fr_two {w w1 w2 : World} {G g : Nat} (h1 : Fr No w w1) (h2 : Fr (Two G g) w1 w2) (hG : w.heap.size ≤ G) (hg : G < g) : Fr No w w2 := h1.trans_new h2 (fun i hi => .inr (by rcases hi with hi | hi <;> omega))
theorem tags_room20 {p : Nat} (h : p ≤ 20) : p + 1 ≤ 1000000000 := by omega
theorem left_pos {k n : Nat} (h : k < n) : (0 : Int) < (n : Int) - (k : Int) := by omega
theorem ghost_less {gk n k k4 : Nat} (h : gk = n - k) (h1 : k < k4) (h2 : k4 ≤ n) : n - k4 < gk := by omega
set_option maxRecDepth 20000 in
theorem parse_any (A : Option Addr) (n c : Nat) (b : List UInt8) (w : World) (hb : Rd w A n c (u8s b)) (hn : n ≤ 100000) :
    Calls Tryz.prog 57 #[.slice A n c] w (TagsTo (tlvL b) (tlvE b) w) := by
  have hl : b.length = n := by simpa using hb.len
  have HN := Lib.hid (new_any A n c b w hb (by omega))
  have hbl : b.length ≤ 140737488355328 := by omega
  have HL := Lib.hid hbl
  have hPA : tlvL b = (parA b).2 ∧ tlvE b = (parA b).1 := ⟨rfl, rfl⟩
  have HPA := Lib.hid hPA
  clear hb hl hPA hbl
  go_enter Tryz.func57, Tryz.ntmps57
  go_wp2_with (go_at_call 41; refine (HN.out).mono ?_; rintro e w1 ⟨G, rfl, hG, hc1, hf1⟩; have HC := Lib.hid hc1; have F1 := Lib.hid hf1; have HG := Lib.hid hG; clear hG hc1 hf1)
  go_loopg [] b.length (fun gk wr => ParRel w w1.heap.size G b gk wr)
  case atStart =>
    exact ⟨0, [], .slice none 0 0, 0, .slice none 0 0, 0, by omega, by omega, ⟨Bk.new w1 _ _, HC.out.no ((Fr.refl No w1).alloc _)⟩, OwnI.nil_ _ _ _ _ _ _, F1.out.alloc _, rfl, by simp, HG.out⟩
  case round =>
    obtain ⟨k, p, va, t, vd, nn, hgk, hk, hps, ho, hfr, hpa, hp20, hGs⟩ := hrel
    obtain ⟨g, hg⟩ : ∃ g, w1.heap.size = g := ⟨_, rfl⟩
    rw [hg] at hps ho ⊢
    have hGg := hps.cur.bound.1
    obtain ⟨Ao, co, rfl, hrd⟩ : ∃ A' c', va = .slice A' p.length c' ∧ RdI 2 TagI wr (fun _ => True) A' p.length c' p := ho.rd' (M := fun _ => True) (fun _ _ => trivial) tag_ok (fun _ _ => trivial)
    have c0 := hps.cells.1
    have c3 := hps.cells.2.2.2.1
    have HLF := Lib.hid (left_any G b k wr hps.cur)
    have HPS := Lib.hid hps; have HO := Lib.hid ho; have HFR := Lib.hid hfr; have HPAR := Lib.hid hpa; have H20 := Lib.hid hp20; have HGS := Lib.hid hGs; have HGK := Lib.hid hgk; have HGG := Lib.hid hGg
    clear hps ho hfr hpa hp20 hGs hgk hrd hGg
    rcases Nat.lt_or_ge k b.length with hkb | hge
    · have hpos := left_pos hkb
      have HKB := Lib.hid hkb
      clear hkb hk
      go_upto_region 4 with (first
        | (go_at_call 83; refine (HLF.out).mono ?_; rintro e w2 ⟨rfl, hd2⟩; have P2 := Lib.hid (HPS.out.dr hd2); have O2 := Lib.hid (HO.out.two HGG.out hd2.fr); have F2 := Lib.hid (HFR.out.dr hd2); clear hd2)
        | (go_at_call 16; refine (par_walk P2.out O2.out HKB.out HL.out H20.out _).mono ?_; rintro e w3 ⟨E, rfl, hE⟩; have HE := Lib.hid hE; clear hE))
      by_cases hE : E = 0
      · subst hE
        obtain ⟨hf3, h20, k4, tt, m, d, D, dc, hk4, hk4n, htt0, htt1, hm, hpf, hps3, hrd3, hbl3⟩ : ParR (w2.alloc (.cells (fiveV g).toArray 58)) g G b k (.slice Ao p.length co) p 5 w3 := by
          rcases HE.out with ⟨_, h⟩ | ⟨h, _⟩
          · exact h
          · exact absurd rfl h
        have ho3 : OwnG w3 g (.slice Ao p.length co) p := (O2.out.two HGG.out ((Fr.refl (Two G g) w2).alloc _)).two HGG.out hf3
        have hfw3 : Fr No w w3 := fr_two (F2.out.alloc _) hf3 HGS.out HGG.out
        have hbl4 : ∀ ad, D = some ad → w2.heap.size < ad.block ∧ ad.block < w3.heap.size := fun ad e => ⟨by have := (hbl3 ad e).1; simp at this; omega, (hbl3 ad e).2⟩
        have hg2 := P2.out.bk.lt
        have hlt2 := O2.out.lt
        have d0 := hps3.cells.1
        have d1 := hps3.cells.2.1
        have d2 := hps3.cells.2.2.1
        have d5 := hps3.cells.2.2.2.2.2 0
        have H21 := Lib.hid h20; have HK4 := Lib.hid (And.intro hk4 hk4n); have HT := Lib.hid (And.intro htt0 htt1); have HM := Lib.hid hm; have HPF := Lib.hid hpf; have P3 := Lib.hid hps3; have R3 := Lib.hid hrd3; have B3 := Lib.hid hbl4; have O3 := Lib.hid ho3; have F3 := Lib.hid hfw3; have G2 := Lib.hid hg2; have L2 := Lib.hid hlt2
        clear hf3 h20 hk4 hk4n htt0 htt1 hm hpf hps3 hrd3 hbl3 ho3 hfw3 hbl4 HE c0 c3 hpos hg2 hlt2
        go_wp2_with (at_builtin; go_must (refine ap_tag1 w3 rfl (.tmp 27) (.tmp 31) rfl (g + 1) (.slice Ao p.length co) p.length p _ (fun i => w2.heap.size < i ∧ i < w3.heap.size) rfl O3.out (tt, d) [.int .i64 tt, .slice D m dc] ⟨D, m, dc, rfl, R3.out, fun ad e _ => B3.out ad e, tt_wf HT.out.1 HT.out.2, by have := HM.out; omega⟩ _ _ rfl rfl (tags_room20 H20.out) (by have := P3.out.bk.lt; omega) (fun i hi => hi.2.2) (fun i hi e => by have := (L2.out i e).2; omega) ?_); intro v2 w4 ho4 hg4 hr4; obtain ⟨A4, c4, rfl, -⟩ := ho4.rd' (M := fun _ => True) (fun _ _ => trivial) tag_ok (fun _ _ => trivial); have HO4 := Lib.hid ho4; have HG4 := Lib.hid hg4; have HR4 := Lib.hid hr4; have P4 := Lib.hid ((P3.out.no ((Fr.refl No w3).alloc (.cells #[.int .i64 tt, .slice D m dc] 68))).grown hg4 (fun i e => (O3.out.lt i e).1)); have e0 := P4.out.cells.1; have e5 := P4.out.cells.2.2.2.2.2 0; clear ho4 hg4 hr4)
        subst hg
        go_roundg (b.length - k4)
        case measure => exact ghost_less HGK.out HK4.out.1 HK4.out.2
        case rel =>
          have hp := HPAR.out
          rw [HPF.out] at hp
          exact par_more HGS.out P3.out O3.out F3.out (by have := H20.out; have := H21.out; omega) HK4.out.1 HK4.out.2 hp (fun i hi => ⟨by have := G2.out; omega, hi.2, fun e => by have := (L2.out i e).2; omega⟩) HO4.out _ HG4.out HR4.out
      · have hEb := int_ne0 hE
        obtain ⟨hf3, hpf⟩ : ParQ (w2.alloc (.cells (fiveV g).toArray 58)) g G b k p E w3 := by
          rcases HE.out with ⟨h, _⟩ | ⟨_, h⟩
          · exact absurd h hE
          · exact h
        have F3 := Lib.hid (fr_two (F2.out.alloc _) hf3 HGS.out HGG.out); have HPF := Lib.hid hpf
        clear hf3 hpf hE HE c0 c3 hpos
        go_wp2_with fail
        go_ret2
        rw [HPA.out.1, HPA.out.2, HPAR.out, HPF.out]
        exact tags_err F3.out
    · obtain rfl : k = b.length := by omega
      have hz : ((b.length : Int) - (b.length : Int)) = 0 := by omega
      go_wp2_with (go_at_call 83; refine (HLF.out).mono ?_; rintro e w2 ⟨rfl, hd2⟩; have P2 := Lib.hid (HPS.out.dr hd2); have O2 := Lib.hid (HO.out.two HGG.out hd2.fr); have F2 := Lib.hid (HFR.out.dr hd2); have d0 := P2.out.cells.1; clear hd2)
      go_ret2
      have e := HPAR.out
      rw [List.drop_eq_nil_of_le (Nat.le_refl _), parF_nil] at e
      rw [HPA.out.1, HPA.out.2, e]
      exact ⟨_, rfl, ((O2.out.low tag_ok (by have := HGS.out; have := HGG.out; omega)).mono tag_ok (fun i hi => ⟨by have := HGS.out; have := HGG.out; have := hi.1; omega, hi.2.1⟩)), F2.out⟩
end Go.Proofs.YthlgnmgjfgbffaaGreatDoor
