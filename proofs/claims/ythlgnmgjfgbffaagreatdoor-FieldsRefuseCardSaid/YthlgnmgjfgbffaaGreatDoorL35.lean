/- The texts TlvP6, TlvP7, joined. -/
import Derived.Test.YthlgnmgjfgbffaaGreatDoorL23
import Derived.Test.YthlgnmgjfgbffaaGreatDoorL03
import Derived.Test.YthlgnmgjfgbffaaGreatDoorL34
/- Package tlv: the writer's steps. -/
namespace Go.Proofs.YthlgnmgjfgbffaaGreatDoor
open Go.RowKit
set_option maxHeartbeats 1000000
set_option linter.unusedVariables false
set_option maxRecDepth 20000

/-- a writer at block g -/
def Ws (w : World) (g : Nat) (va : Value) (t : Int) (vd vo : Value) : Prop := Bk w g 210 [va, .int .i64 t, vd, vo]
theorem Ws.cells {w : World} {g : Nat} {va vd vo : Value} {t : Int} (h : Ws w g va t vd vo) :
    w.cell? ⟨g, 0, none⟩ = some va ∧ w.cell? ⟨g, 1, none⟩ = some (.int .i64 t) ∧ w.cell? ⟨g, 2, none⟩ = some vd ∧ w.cell? ⟨g, 3, none⟩ = some vo ∧ (∀ i, w.frozen? ⟨g, i, none⟩ = false) :=
  ⟨h.cell 0, h.cell 1, h.cell 2, h.cell 3, h.frozen⟩
/-- what is written so far: bytes of one's own, behind the writer's block -/
def OutO (w : World) (base : Nat) (vo : Value) (l : List UInt8) : Prop := w.ownsRow base 5 1 vo l.length (u8s l)
theorem OutO.rd {w : World} {base : Nat} {vo : Value} {l : List UInt8} (h : OutO w base vo l) : ∃ A c, vo = .slice A l.length c ∧ Rd w A l.length c (u8s l) ∧ ∀ ad, A = some ad → base ≤ ad.block ∧ ad.block < w.heap.size := by
  obtain ⟨A, c, e, hr, hb⟩ := Rd.of_own h
  exact ⟨A, c, e, hr, fun ad e => ⟨(hb ad e).1, (hb ad e).2⟩⟩
theorem Ws.no {w w' : World} {g : Nat} {va vd vo : Value} {t : Int} (h : Ws w g va t vd vo) (hf : Fr No w w') : Ws w' g va t vd vo := Bk.no h hf
theorem Ws.grown {w w' : World} {g : Nat} {va vd vo : Value} {t : Int} {row : Option Nat} (h : Ws w g va t vd vo) (hg : w.grownBy w' row) (hr : ∀ i, row = some i → g < i) : Ws w' g va t vd vo :=
  Bk.fr (S := fun i => row = some i) h ((Fr.refl _ w).grown hg (fun i e => .inl e)) (fun e => by have := hr g e; omega)
theorem OutO.dr' {w w' : World} {base : Nat} {vo : Value} {l : List UInt8} (h : OutO w base vo l) (hd : Dr w w') : OutO w' base vo l := (hd.fr (S := No)).own h (fun _ _ x => x)
theorem Ws.setO {w : World} {g : Nat} {va vd vo : Value} {t : Int} (h : Ws w g va t vd vo) (v : Value) : Ws (w.setCell ⟨g, 3, none⟩ v) g va t vd v := h.set_ 3 v
/-- a step of the writer: only its own block may have turned; what is written is longer -/
def WrTo (w : World) (g : Nat) (va : Value) (t : Int) (vd : Value) (l : List UInt8) (e : Ending) (v : Ending) (w' : World) : Prop :=
  v = e ∧ Fr (Just g) w w' ∧ ∃ vo, Ws w' g va t vd vo ∧ OutO w' w.heap.size vo l
theorem out_set {w : World} {g base : Nat} {vo : Value} {l : List UInt8} (h : OutO w base vo l) (hg : g < base) (o : Nat) (v : Value) : OutO (w.setCell ⟨g, o, none⟩ v) base vo l :=
  ((Fr.refl (Just g) w).setCell (.inl (Just.at g)) v).own h (fun i hi e => by have := h.lt i hi; have : i = g := e; omega)
theorem own_len {w : World} {base n m : Nat} {e : TypeId} {v : Value} {xs : List Value} (h : w.ownsRow base e 1 v n xs) (hm : n = m) : w.ownsRow base e 1 v m xs := hm ▸ h
theorem held_two (n : Nat) (h : n = 1 ∨ n = 2) : held8 (n : Int) = n := by rcases h with rfl | rfl <;> rfl
theorem put_out {w w1 : World} {g n : Nat} {v : Value} {l k : List UInt8} (h : w1.ownsRow w.heap.size 5 1 v n (u8s k)) (hg : g < w.heap.size) (e : k = l) : OutO (w1.setCell ⟨g, 3, none⟩ v) w.heap.size v l := by
  subst e
  have hl : n = k.length := by simpa using h.1.symm
  exact out_set (own_len h hl) hg 3 v
/-- a number of one byte or two, behind what is written -/
theorem t_put {w : World} {g base : Nat} {va vd vo : Value} {t : Int} {l : List UInt8} (h : Ws w g va t vd vo) (ho : OutO w base vo l) (hl : l.length ≤ 60000) (n : Nat) (hn : n < 65536) :
    Calls Tryz.prog 203 #[.pointer (some ⟨g, 0, none⟩), .int .i64 (n : Int)] w (WrTo w g va t vd (l ++ low n (if 255 < n then 2 else 1)) (.returned (.tuple #[]))) := by
  obtain ⟨A, c, rfl, hr, hb⟩ := ho.rd
  have c3 := h.cells.2.2.2.1
  have hgl := h.lt
  have H := Lib.hid h
  have hw : IntKind.u64.wrap (n : Int) = (n : Int) := IntWalk.u64_in _ ⟨by omega, by omega⟩
  clear h
  by_cases h2 : 255 < n
  · have hI : (255 : Int) < (n : Int) := by omega
    have HP := Lib.hid (put_any A l.length c l n 2 w hr (by omega) (by omega))
    rw [if_pos h2]
    go_enter Tryz.func203, Tryz.ntmps203
    go_wp2_with (go_at_call 206; refine (HP.out).mono ?_; rintro e w1 ⟨r, rfl, ho1, hf1⟩; obtain ⟨A1, c1, rfl, -, -⟩ := Rd.of_own ho1; have H1 := Lib.hid (H.out.no hf1); have d3 := H1.out.cells.2.2.2.1; have d5 := H1.out.cells.2.2.2.2 3; have HO1 := Lib.hid ho1; have F1 := Lib.hid hf1; clear ho1 hf1)
    go_end0
    exact ⟨rfl, (F1.out.no).setCell (.inl (Just.at g)) _, _, H1.out.setO _, put_out HO1.out hgl (by rw [show held8 (2 : Int) = 2 from rfl])⟩
  · have hI : ¬ (255 : Int) < (n : Int) := by omega
    have HP := Lib.hid (put_any A l.length c l n 1 w hr (by omega) (by omega))
    rw [if_neg h2]
    go_enter Tryz.func203, Tryz.ntmps203
    go_wp2_with (go_at_call 206; refine (HP.out).mono ?_; rintro e w1 ⟨r, rfl, ho1, hf1⟩; obtain ⟨A1, c1, rfl, -, -⟩ := Rd.of_own ho1; have H1 := Lib.hid (H.out.no hf1); have d3 := H1.out.cells.2.2.2.1; have d5 := H1.out.cells.2.2.2.2 3; have HO1 := Lib.hid ho1; have F1 := Lib.hid hf1; clear ho1 hf1)
    go_end0
    exact ⟨rfl, (F1.out.no).setCell (.inl (Just.at g)) _, _, H1.out.setO _, put_out HO1.out hgl (by rw [show held8 (1 : Int) = 1 from rfl])⟩

theorem tag_low {t : Int} (h : tgN t ≠ 0) : ∃ n : Nat, t = (n : Int) ∧ n < 65536 ∧ low n (if 255 < n then 2 else 1) = tagB t := by
  obtain ⟨h0, h1⟩ := (tgN_le t).2 h
  obtain ⟨n, rfl⟩ := Int.eq_ofNat_of_zero_le (by omega : 0 ≤ t)
  have hle := (tgN_le (n : Int)).1
  refine ⟨n, rfl, by omega, ?_⟩
  rw [← low_tag (n : Int) n rfl h]
  have e : tgN (n : Int) = if 255 < n then 2 else 1 := by
    unfold tgN at h ⊢
    by_cases c1 : 0 < (n : Int) ∧ (n : Int) < 255 ∧ (n : Int) % 32 ≠ 31
    · rw [if_pos c1, if_neg (by omega)]
    · rw [if_neg c1] at h ⊢
      by_cases c2 : 255 < (n : Int) ∧ (n : Int) / 256 < 255 ∧ (n : Int) / 256 % 32 = 31 ∧ (n : Int) % 256 < 128
      · rw [if_pos c2, if_pos (by omega)]
      · rw [if_neg c2] at h; exact absurd rfl h
  rw [e]
  by_cases c : 255 < n
  · rw [if_pos c, held_two 2 (.inr rfl)]
  · rw [if_neg c, held_two 1 (.inl rfl)]
theorem t_wtag {w : World} {g base : Nat} {va vd vo : Value} {t : Int} {l : List UInt8} (h : Ws w g va t vd vo) (ho : OutO w base vo l) (hl : l.length ≤ 60000) (ht : tgN t ≠ 0) :
    Calls Tryz.prog 157 #[.pointer (some ⟨g, 0, none⟩)] w (WrTo w g va t vd (l ++ tagB t) (.returned (.int .i64 0))) := by
  obtain ⟨n, rfl, hn, hlow⟩ := tag_low ht
  have c1 := h.cells.2.1
  have HP := Lib.hid (t_put h ho hl n hn)
  have HLW := Lib.hid hlow
  clear h ho hl hlow ht
  go_enter Tryz.func157, Tryz.ntmps157
  go_wp2_with (go_at_call 203; refine (HP.out).mono ?_; rintro e w1 ⟨rfl, hf, hr⟩; have HR := Lib.hid hr; have F1 := Lib.hid hf; clear hf hr)
  go_ret
  exact ⟨rfl, F1.out, by rw [← HLW.out]; exact HR.out⟩
theorem low_len (n : Nat) (h : n ≤ 255) (h2 : 128 ≤ n) : low (33024 + n) (if 255 < 33024 + n then 2 else 1) = lenB n := by
  rw [if_pos (by omega)]
  have h3 : (List.range 256).all (fun k => decide (128 ≤ k → low (33024 + k) 2 = lenB k)) = true := by decide +kernel
  have := List.all_eq_true.1 h3 n (List.mem_range.2 (by omega))
  exact (of_decide_eq_true this) h2
theorem low_len1 (n : Nat) (h : n < 128) : low n (if 255 < n then 2 else 1) = lenB n := by
  rw [if_neg (by omega)]
  have h3 : (List.range 128).all (fun k => decide (low k 1 = lenB k)) = true := by decide +kernel
  exact of_decide_eq_true (List.all_eq_true.1 h3 n (List.mem_range.2 h))
theorem or_len (n : Nat) (h : n ≤ 255) : bits .or .i64 33024 (n : Int) = ((33024 + n : Nat) : Int) := by
  have := or_t64 129 n (by omega) (by omega)
  rw [show ((129 : Nat) : Int) * 256 = 33024 from rfl] at this
  rw [this]
theorem t_wlength {w : World} {g base : Nat} {va vo : Value} {t : Int} {l : List UInt8} {D : Option Addr} {m c : Nat} (h : Ws w g va t (.slice D m c) vo) (ho : OutO w base vo l) (hl : l.length ≤ 60000) (hm : m ≤ 9223372036854775807) :
    Calls Tryz.prog 158 #[.pointer (some ⟨g, 0, none⟩)] w fun e w' =>
      (255 < m ∧ e = .returned (.int .i64 17) ∧ w = w') ∨ (m ≤ 255 ∧ WrTo w g va t (.slice D m c) (l ++ lenB m) (.returned (.int .i64 0)) e w') := by
  have c2 := h.cells.2.2.1
  by_cases h255 : 255 < m
  · have hI : (255 : Int) < (m : Int) := by omega
    clear ho hl h
    go_enter Tryz.func158, Tryz.ntmps158
    go_wp2
    go_ret
    exact .inl ⟨h255, rfl, rfl⟩
  have hI : ¬ (255 : Int) < (m : Int) := by omega
  by_cases h128 : m < 128
  · have hI2 : (m : Int) < 128 := by omega
    have HP := Lib.hid (t_put h ho hl m (by omega))
    have HE := Lib.hid (low_len1 m h128)
    have HM := Lib.hid h255
    clear ho hl h h255
    go_enter Tryz.func158, Tryz.ntmps158
    go_wp2_with (go_at_call 203; refine (HP.out).mono ?_; rintro e w1 ⟨rfl, hf, hr⟩; have HR := Lib.hid hr; have F1 := Lib.hid hf; clear hf hr)
    go_ret
    exact .inr ⟨Nat.le_of_not_lt HM.out, rfl, F1.out, by rw [← HE.out]; exact HR.out⟩
  · have hI2 : ¬ (m : Int) < 128 := by omega
    have HP := Lib.hid (t_put h ho hl (33024 + m) (by omega))
    have HE := Lib.hid (low_len m (by omega) (by omega))
    have HM := Lib.hid h255
    have hor := or_len m (by omega)
    obtain ⟨q, hq⟩ : ∃ q, 33024 + m = q := ⟨_, rfl⟩
    rw [hq] at hor HP HE
    clear ho hl h h255 hq h128
    go_enter Tryz.func158, Tryz.ntmps158
    go_wp2_with (go_at_call 203; refine (HP.out).mono ?_; rintro e w1 ⟨rfl, hf, hr⟩; have HR := Lib.hid hr; have F1 := Lib.hid hf; clear hf hr)
    go_ret
    exact .inr ⟨Nat.le_of_not_lt HM.out, rfl, F1.out, by rw [← HE.out]; exact HR.out⟩
theorem t_wdata {w : World} {g base : Nat} {va vo : Value} {t : Int} {l d : List UInt8} {D : Option Addr} {m c : Nat} (h : Ws w g va t (.slice D m c) vo) (ho : OutO w base vo l) (hb : g < base) (hbw : base ≤ w.heap.size) (hl : l.length ≤ 60000) (hm : m ≤ 255) (hr : Rd w D m c (u8s d)) :
    Calls Tryz.prog 159 #[.pointer (some ⟨g, 0, none⟩)] w fun e w' => e = .returned (.int .i64 0) ∧ Fr (fun i => i = g ∨ base ≤ i) w w' ∧ ∃ vo, Ws w' g va t (.slice D m c) vo ∧ OutO w' base vo (l ++ d) := by
  have c2 := h.cells.2.2.1
  have c3 := h.cells.2.2.2.1
  have z3 := h.cells.2.2.2.2 3
  have hgl := h.lt
  have hdl : d.length = m := by simpa using hr.len
  obtain ⟨A, k, rfl, -, -⟩ := ho.rd
  have H := Lib.hid h; have HO := Lib.hid ho; have HRD := Lib.hid hr; have HDL := Lib.hid hdl
  clear h ho hr hdl
  go_enter Tryz.func159, Tryz.ntmps159
  go_wp2
  go_region_law (refine step8 rfl (.tmp 7) (.tmp 13) rfl base (.slice A l.length k) l.length l (by rfl) (HO.out.dr' (Dr.refl w).drew) D m c d (by rfl) (HRD.out.dr (Dr.refl _).drew) (by omega) (by simpa using hbw) ?_; intro v1 w1 ho1 hg1 hr1; obtain ⟨A1, c1, rfl, -, -⟩ := Rd.of_own ho1; have H1 := Lib.hid (Ws.grown (H.out.no (Dr.refl w).drew.fr) hg1 (fun i e => Nat.lt_of_lt_of_le hb (HO.out.lt i e).1)); have d3 := H1.out.cells.2.2.2.1; have d5 := H1.out.cells.2.2.2.2 3; have F1 := Lib.hid (((Fr.refl (fun i => i = g ∨ base ≤ i) w).drew).grown hg1 (fun i e => .inl (.inr (HO.out.lt i e).1))); have HO1 := Lib.hid ho1; clear ho1 hg1 hr1)
  all_goals
    go_wp2_with fail
    go_ret
    exact ⟨rfl, F1.out.setCell (.inl (.inl rfl)) _, _, H1.out.setO _, out_set (own_len HO1.out (by have := HDL.out; simp; omega)) hb 3 _⟩
end Go.Proofs.YthlgnmgjfgbffaaGreatDoor
/- Package tlv: Write. -/
namespace Go.Proofs.YthlgnmgjfgbffaaGreatDoor
open Go.RowKit
set_option maxHeartbeats 1000000
set_option linter.unusedVariables false
set_option maxRecDepth 20000

/-- the four steps of a tag -/
abbrev fourV (g : Nat) : List Value := [.func (.func 101) #[.pointer (some ⟨g, 0, none⟩)] #[], .func (.func 157) #[.pointer (some ⟨g, 0, none⟩)] #[], .func (.func 158) #[.pointer (some ⟨g, 0, none⟩)] #[],
  .func (.func 159) #[.pointer (some ⟨g, 0, none⟩)] #[]]
def WrR (w1 : World) (g : Nat) (va : Value) (p : List TagL) (tt : Int) (D : Option Addr) (m dc : Nat) (d l : List UInt8) : Nat → World → Prop
  | 0, u => Fr (Just g) w1 u ∧ ∃ vo, Ws u g va tt (.slice D m dc) vo ∧ OutO u (g + 1) vo l
  | 1, u => Fr (Just g) w1 u ∧ freshE tt p = 0 ∧ ∃ vo, Ws u g va tt (.slice D m dc) vo ∧ OutO u (g + 1) vo l
  | 2, u => Fr (Just g) w1 u ∧ freshE tt p = 0 ∧ ∃ vo, Ws u g va tt (.slice D m dc) vo ∧ OutO u w1.heap.size vo (l ++ tagB tt)
  | 3, u => Fr (Just g) w1 u ∧ freshE tt p = 0 ∧ m ≤ 255 ∧ ∃ vo, Ws u g va tt (.slice D m dc) vo ∧ OutO u w1.heap.size vo ((l ++ tagB tt) ++ lenB m)
  | _, u => Fr (Just g) w1 u ∧ freshE tt p = 0 ∧ m ≤ 255 ∧ ∃ vo, Ws u g va tt (.slice D m dc) vo ∧ OutO u w1.heap.size vo (((l ++ tagB tt) ++ lenB m) ++ d)
def WrQ (w1 : World) (g : Nat) (p : List TagL) (tt : Int) (d : List UInt8) (E : Int) (u : World) : Prop := Fr (Just g) w1 u ∧ ∀ rest, wrF p ((tt, d) :: rest) = E
theorem frame4 {w1 u : World} {g : Nat} {va : Value} {p : List TagL} {tt : Int} {D : Option Addr} {m dc : Nat} {d l : List UInt8} {i : Nat} (h : WrR w1 g va p tt D m dc d l i u) : Fr (Just g) w1 u := by
  match i, h with
  | 0, h => exact h.1
  | 1, h => exact h.1
  | 2, h => exact h.1
  | 3, h => exact h.1
  | _ + 4, h => exact h.1
theorem OutO.low {w : World} {b base : Nat} {vo : Value} {l : List UInt8} (h : OutO w base vo l) (hb : b ≤ base) : OutO w b vo l := rt_own_low h hb
theorem OutO.just {w w' : World} {g base : Nat} {vo : Value} {l : List UInt8} (h : OutO w base vo l) (hg : g < base) (hf : Fr (Just g) w w') : OutO w' base vo l := hf.own h (fun i hi e => by have := h.lt i hi; have : i = g := e; omega)
/-- tags of one's own, their data elsewhere -/
def OwnT (wr : World) (g : Nat) (va : Value) (p : List TagL) : Prop := OwnI 2 TagI wr (g + 1) 68 (fun i => i < g) va p.length p
theorem OwnT.just {w w' : World} {g : Nat} {va : Value} {p : List TagL} (h : OwnT w g va p) (hf : Fr (Just g) w w') : OwnT w' g va p :=
  OwnI.fr tag_ok h hf (fun i hi x => by have : i = g := x; omega) (fun i hi x => by have := (h.lt i hi).1; have : i = g := x; omega)
theorem fresh_no {tt : Int} {p : List TagL} (h : freshE tt p = 0) : ¬ (tgN tt = 0 ∨ p.any (fun x => x.1 == tt) = true) := fun hc => by unfold freshE at h; rw [if_pos hc] at h; cases h
theorem four_steps {w1 : World} {g : Nat} {va : Value} {p : List TagL} {tt : Int} {D : Option Addr} {m dc : Nat} {d l : List UInt8} (hgl : g < w1.heap.size) (ho : OwnT w1 g va p) (hl : l.length ≤ 50000) (hm63 : m ≤ 9223372036854775807) (hdl : d.length = m)
    (hw : -9223372036854775808 ≤ tt ∧ tt ≤ 9223372036854775807) (hrd : Rd w1 D m dc (u8s d)) (hD : ∀ ad, D = some ad → 0 < m → ad.block < g) (i : Nat) (hi : i < 4) :
    ∃ F x, (fourV g)[i]? = some (.func (.func F) #[x] #[]) ∧ (∀ args w, (callFunc F args).run Tryz.prog w = .ok (.enter F args) w) ∧ ∀ u, WrR w1 g va p tt D m dc d l i u → Calls Tryz.prog F #[x] u (SWTo (WrR w1 g va p tt D m dc d l (i + 1)) (WrQ w1 g p tt d)) := by
  have h5 : i = 0 ∨ i = 1 ∨ i = 2 ∨ i = 3 := by omega
  have htb : (tagB tt).length ≤ 2 := by unfold tagB; split; simp; split <;> simp
  have hlb : (lenB m).length ≤ 2 := by unfold lenB; split <;> simp
  rcases h5 with rfl | rfl | rfl | rfl
  · refine ⟨_, _, rfl, fun args w => rfl, ?_⟩
    rintro u ⟨hf, vo, hws, hvo⟩
    obtain ⟨A, c, rfl, hra⟩ := (ho.just hf).rd' (M := fun _ => True) (fun _ _ => trivial) tag_ok (fun _ _ => trivial)
    refine (t_fresh g tt hw.1 hw.2 u hra hws.cells.1 hws.cells.2.1).mono ?_
    rintro e u' ⟨rfl, hf2⟩
    by_cases he : freshE tt p = 0
    · exact ⟨_, rfl, .inl ⟨he, hf.trans hf2.no, he, vo, hws.no hf2, hvo.just (Nat.lt_succ_self g) hf2.no⟩⟩
    · refine ⟨_, rfl, .inr ⟨he, hf.trans hf2.no, fun rest => ?_⟩⟩
      unfold freshE at he ⊢
      split at he
      · rename_i hc
        rw [if_pos hc, wrF_step, if_pos hc]
      · exact absurd rfl he
  · refine ⟨_, _, rfl, fun args w => rfl, ?_⟩
    rintro u ⟨hf, hfe, vo, hws, hvo⟩
    have hnf := fresh_no hfe
    refine (t_wtag hws hvo (by omega) (fun e => hnf (.inl e))).mono ?_
    rintro e u' ⟨rfl, hf2, vo2, hws2, hvo2⟩
    exact ⟨0, rfl, .inl ⟨rfl, hf.trans hf2, hfe, vo2, hws2, hvo2.low hf.size⟩⟩
  · refine ⟨_, _, rfl, fun args w => rfl, ?_⟩
    rintro u ⟨hf, hfe, vo, hws, hvo⟩
    have hnf := fresh_no hfe
    refine (t_wlength hws hvo (by rw [List.length_append]; omega) hm63).mono ?_
    rintro e u' (⟨h255, rfl, rfl⟩ | ⟨h255, rfl, hf2, vo2, hws2, hvo2⟩)
    · refine ⟨17, rfl, .inr ⟨by decide, hf, fun rest => ?_⟩⟩
      rw [wrF_step, if_neg hnf, if_pos (by simp only; omega)]
    · exact ⟨0, rfl, .inl ⟨rfl, hf.trans hf2, hfe, h255, vo2, hws2, hvo2.low hf.size⟩⟩
  · refine ⟨_, _, rfl, fun args w => rfl, ?_⟩
    rintro u ⟨hf, hfe, hm, vo, hws, hvo⟩
    have hr2 : Rd u D m dc (u8s d) := rd_fr0 hrd hf (fun ad e h0 x => by have := hD ad e h0; have : ad.block = g := x; omega)
    refine (t_wdata hws hvo hgl hf.size (by rw [List.length_append, List.length_append]; omega) hm hr2).mono ?_
    rintro e u' ⟨rfl, hf2, vo2, hws2, hvo2⟩
    refine ⟨0, rfl, .inl ⟨rfl, ?_, hfe, hm, vo2, hws2, hvo2⟩⟩
    exact hf.trans_new hf2 (fun i hi => hi)
theorem wr_walk {w2 : World} {g : Nat} {va vo : Value} {p : List TagL} {tt : Int} {D : Option Addr} {m dc : Nat} {d l : List UInt8} (hws : Ws w2 g va tt (.slice D m dc) vo) (hvo : OutO w2 (g + 1) vo l) (ho : OwnT w2 g va p) (hl : l.length ≤ 50000) (hm63 : m ≤ 9223372036854775807) (hdl : d.length = m)
    (hw : -9223372036854775808 ≤ tt ∧ tt ≤ 9223372036854775807) (hrd : Rd w2 D m dc (u8s d)) (hD : ∀ ad, D = some ad → 0 < m → ad.block < g) (ty : TypeId) :
    Calls Tryz.prog 16 #[.slice (some ⟨w2.heap.size, 0, none⟩) 4 4] (w2.alloc (.cells (fourV g).toArray ty))
      (SWTo (WrR (w2.alloc (.cells (fourV g).toArray ty)) g va p tt D m dc d l 4) (WrQ (w2.alloc (.cells (fourV g).toArray ty)) g p tt d)) := by
  have hfa : Fr No w2 (w2.alloc (.cells (fourV g).toArray ty)) := (Fr.refl No w2).alloc _
  have hbk := Bk.new w2 ty (fourV g).toArray
  have hgl := hws.lt
  refine t_walk (some ⟨w2.heap.size, 0, none⟩) 4 4 (fourV g) _ _ _ rfl (Nat.le_refl _) (by omega) (fun e => nomatch e) ⟨Fr.refl _ _, vo, hws.no hfa, hvo.just (Nat.lt_succ_self g) hfa.no⟩ ?_ (fun i hi => four_steps (Nat.lt_of_lt_of_le hgl hfa.size) (ho.just hfa.no) hl hm63 hdl hw (hrd.no hfa) hD i hi)
  intro i u hu ad e j v hv
  injection e with e
  subst e
  have h1 := (hbk.fr (frame4 hu) (fun x => by have : w2.heap.size = g := x; omega)).cell j
  have h2 : (⟨w2.heap.size, 0, none⟩ : Addr).add j = ⟨w2.heap.size, j, none⟩ := by unfold Addr.add; split <;> simp_all
  rw [h2, h1]
  exact hv

theorem i64_wf {q : Int} (h : -9223372036854775808 ≤ q ∧ q ≤ 9223372036854775807) : (Lit.int .i64 q).wf = true := by simp [Lit.wf, IntKind.min, IntKind.max, IntKind.signed, IntKind.bits]; omega
/-- the loop: k tags are written -/
def WrRel (w : World) (g n : Nat) (ls : List TagL) (iv : Value) (wr : World) : Prop := ∃ (k : Nat) (va : Value) (t : Int) (vd vo : Value), iv = .int .i64 (k : Int) ∧ k ≤ n ∧ Ws wr g va t vd vo ∧ OwnT wr g va (ls.take k) ∧ OutO wr (g + 1) vo (wrT (ls.take k)) ∧ Fr No w wr ∧ wrE ls = wrF (ls.take k) (ls.drop k) ∧ (wrT (ls.take k)).length ≤ 300 * k
theorem wr1_len (a : TagL) (h : a.2.length ≤ 255) : (wr1T a).length ≤ 300 := by
  have htb : (tagB a.1).length ≤ 2 := by unfold tagB; split; simp; split <;> simp
  have hlb : (lenB a.2.length).length ≤ 2 := by unfold lenB; split <;> simp
  unfold wr1T
  simp only [List.length_append]
  omega
theorem wrT_snoc (p : List TagL) (a : TagL) : wrT (p ++ [a]) = ((wrT p ++ tagB a.1) ++ lenB a.2.length) ++ a.2 := by
  rw [wrT_app]
  simp [wrT, wr1T]
theorem wr_next {wr : World} {g : Nat} {va vd vo : Value} {t q : Int} {v : Value} {ob : Obj} (h : Ws wr g va t vd vo) : Ws (((wr.alloc ob).setCell ⟨g, 1, none⟩ (.int .i64 q)).setCell ⟨g, 2, none⟩ v) g va q v vo ∧ Fr (Just g) wr (((wr.alloc ob).setCell ⟨g, 1, none⟩ (.int .i64 q)).setCell ⟨g, 2, none⟩ v) :=
  ⟨((h.no ((Fr.refl No wr).alloc ob)).set_ 1 _).set_ 2 _, (((Fr.refl (Just g) wr).alloc ob).setCell (.inl (Just.at g)) _).setCell (.inl (Just.at g)) _⟩
theorem Ws.setA {w : World} {g : Nat} {va vd vo : Value} {t : Int} (h : Ws w g va t vd vo) (v : Value) : Ws (w.setCell ⟨g, 0, none⟩ v) g v t vd vo := h.set_ 0 v
/-- one more tag is written -/
theorem wr_more {w w3 w4 : World} {n k g base : Nat} {ls p : List TagL} {q : Int} {d L : List UInt8} {A D : Option Addr} {c m dc : Nat} {vo v2 : Value} {ty : TypeId} {cs : Array Value} (hg : w.heap.size = g) (hk : k < n) (hn : ls.length = n) (hp : ls.take k = p) (hak : ls[k]? = some (q, d)) (hL : wrT p = L) (hwl : L.length ≤ 300 * k) (hwe : wrE ls = wrF p (ls.drop k))
    (hws : Ws w3 g (.slice A p.length c) q (.slice D m dc) vo) (ho3 : OwnT w3 g (.slice A p.length c) p) (hvo : OutO w3 base vo (((L ++ tagB q) ++ lenB m) ++ d)) (hb : g < base) (hlt : ∀ i, (Value.slice A p.length c).ownBlock = some i → i < base) (hf : Fr No w w3) (hm : m ≤ 255) (hdl : d.length = m) (hfe : freshE q p = 0)
    (ho4 : OwnI 2 TagI w4 (g + 1) 68 (fun i => i < g ∨ i < g) v2 (p.length + 1) (p ++ [(q, d)]))
    (hg4 : (w3.alloc (.cells cs ty)).grownBy w4 (Value.slice A p.length c).ownBlock) (iv : Value) (hiv : iv = .int .i64 ((k + 1 : Nat) : Int)) :
    WrRel w g n ls iv (w4.setCell ⟨g, 0, none⟩ v2) := by
  have hal : Fr No w3 (w3.alloc (.cells cs ty)) := (Fr.refl No w3).alloc _
  have hown : ∀ i, (Value.slice A p.length c).ownBlock = some i → g < i := fun i e => (ho3.lt i e).1
  have hws4 : Ws w4 g (.slice A p.length c) q (.slice D m dc) vo := (hws.no hal).grown hg4 hown
  have hf4 : Fr (fun i => (Value.slice A p.length c).ownBlock = some i) w3 w4 := (hal.no).grown hg4 (fun i e => .inl e)
  have hvo4 : OutO w4 base vo (((L ++ tagB q) ++ lenB m) ++ d) := hf4.own hvo (fun i hi e => by have := (hvo.lt i hi).1; have := hlt i e; omega)
  have hkl : k < ls.length := by omega
  have hak2 : ls[k] = (q, d) := by rw [List.getElem?_eq_getElem hkl] at hak; injection hak
  have htk : ls.take (k + 1) = p ++ [(q, d)] := by rw [List.take_succ_eq_append_getElem hkl, hp, hak2]
  have hdr : ls.drop k = (q, d) :: ls.drop (k + 1) := by rw [List.drop_eq_getElem_cons hkl, hak2]
  have hnf := fresh_no hfe
  refine ⟨k + 1, v2, q, .slice D m dc, vo, hiv, hk, hws4.setA v2, ?_, ?_, ?_, ?_, ?_⟩
  · rw [htk]
    have h2 : (p ++ [(q, d)]).length = p.length + 1 := by simp
    show OwnI 2 TagI _ (g + 1) _ _ v2 (p ++ [(q, d)]).length _
    rw [h2]
    exact (ho4.fr tag_ok ((Fr.refl (Just g) w4).setCell (.inl (Just.at g)) _) (fun i hi x => by have : i = g := x; omega) (fun i hi x => by have := (ho4.lt i hi).1; have : i = g := x; omega)).mono tag_ok (fun i hi => by omega)
  · rw [htk, wrT_snoc, hL, hdl]
    exact (out_set hvo4 hb 0 v2).low hb
  · have h6 : Fr No w w4 := hf.trans_new hf4 (fun i hi => .inr (by have := hown i hi; omega))
    exact h6.trans_just ((Fr.refl (Just g) w4).setCell (.inl (Just.at g)) _) (by omega)
  · rw [hwe, hdr, wrF_step, if_neg hnf, if_neg (by simp only; omega), htk]
  · rw [htk, wrT_app, hL, List.length_append]
    have := wr1_len (q, d) (by simp only; omega)
    simp only [wrT, List.append_nil]
    omega
set_option maxRecDepth 20000 in
theorem write_any {A : Option Addr} {n c : Nat} {ls : List (Int × List UInt8)} (w : World) (h : RdI 2 TagI w (fun i => i < w.heap.size) A n c ls) :
    Calls Tryz.prog 112 #[.slice A n c] w (WroteT ls w) := by
  have htop := h.top
  have hcap : n ≤ c := by obtain ⟨xs, hr, _⟩ := h.xs; exact hr.cap
  have hlen := h.len tag_ok (by omega)
  have H := Lib.hid h; have HLEN := Lib.hid hlen
  clear h hlen
  go_enter Tryz.func112, Tryz.ntmps112
  by_cases hn : 20 < n
  · have hnI : 20 < (n : Int) := by omega
    go_wp2
    go_ret2
    exact wrote_err (by unfold wrE; rw [if_pos (by rw [HLEN.out]; exact hn)]) (by decide) (Fr.refl _ _)
  · have hnI : ¬ 20 < (n : Int) := by omega
    go_wp2
    go_loopw [13] (fun iv wr => WrRel w w.heap.size n ls iv wr) (fun v _ => n - (intOf v).toNat)
    case atStart =>
      exact ⟨0, .slice none 0 0, 0, .slice none 0 0, .slice none 0 0, rfl, by omega, Bk.new w _ _, OwnI.nil_ _ _ _ _ _ _, World.ownsRow_nil _ _ _ _, (Fr.refl _ _).alloc _, by unfold wrE; rw [if_neg (by rw [HLEN.out]; exact hn)]; rfl, by simp [wrT]⟩
    case round =>
      obtain ⟨k, va, t, vd, vo, rfl, hk, hws, ho, hvo, hfr, hwe, hwl⟩ := hrel
      obtain ⟨g, hg⟩ : ∃ g, w.heap.size = g := ⟨_, rfl⟩
      rw [hg] at hws ho hvo ⊢
      obtain ⟨Ao, co, rfl, -⟩ : ∃ A' c', va = .slice A' (ls.take k).length c' ∧ RdI 2 TagI wr (fun _ => True) A' (ls.take k).length c' (ls.take k) := ho.rd' (M := fun _ => True) (fun _ _ => trivial) tag_ok (fun _ _ => trivial)
      obtain ⟨Bo, bo, rfl, -, -⟩ := hvo.rd
      rcases Nat.lt_or_ge k n with hkn | hge
      · obtain ⟨ad, cs, a, rfl, ⟨B, m, dc, rfl, h1, h2, h3, h4⟩, hak, hc0, hc1⟩ := two_cells tag_ok (H.out.no tag_ok hfr) hkn
        have c0 := hc0 _ rfl
        have c1 := hc1 _ rfl
        obtain ⟨P, hP⟩ : ∃ P, ad.add (k * 2) = P := ⟨_, rfl⟩
        rw [hP] at c0 c1
        have hkI : (k : Int) < (n : Int) := by omega
        have hgl := hws.lt
        have hcl := hws.cells
        have e1 : ∀ ob, (wr.alloc ob).cell? ⟨g, 1, none⟩ = some (.int .i64 t) := fun ob => ((Fr.refl No wr).alloc ob).cell hcl.2.1 (fun x => x)
        have e2 : ∀ ob, (wr.alloc ob).cell? ⟨g, 2, none⟩ = some vd := fun ob => ((Fr.refl No wr).alloc ob).cell hcl.2.2.1 (fun x => x)
        have z1 : ∀ ob i, (wr.alloc ob).frozen? ⟨g, i, none⟩ = false := fun ob i => (hws.no ((Fr.refl No wr).alloc ob)).cells.2.2.2.2 i
        obtain ⟨q, d⟩ := a
        obtain ⟨p, hp⟩ : ∃ p, ls.take k = p := ⟨_, rfl⟩
        obtain ⟨L, hL⟩ : ∃ L, wrT p = L := ⟨_, rfl⟩
        rw [hp] at hws ho hvo hwe hwl
        rw [hL] at hws hvo hwl
        dsimp only at c0 h1 h3
        have HWS := Lib.hid hws; have HO := Lib.hid ho; have HVO := Lib.hid hvo; have HFR := Lib.hid hfr; have HWE := Lib.hid hwe; have HWL := Lib.hid hwl; have HAK := Lib.hid hak; have HRD := Lib.hid h1; have HBL := Lib.hid h2; have HQ := Lib.hid (wf_i64 h3); have HM := Lib.hid h4; have HGL := Lib.hid hgl; have HP := Lib.hid hp; have HLL := Lib.hid hL; have HKN := Lib.hid hkn
        clear hws ho hvo hfr hwe hwl hak h1 h2 h3 h4 hgl hcl hc0 hc1 hp hL hk hkn
        go_upto_region 8 with fail
        clear c0 c1 e1 e2 z1 hP
        obtain ⟨w2, hw2⟩ : ∃ w2, (((wr.alloc (.cells #[.int .i64 q, .slice B m dc] 68)).setCell ⟨g, 1, none⟩ (.int .i64 q)).setCell ⟨g, 2, none⟩ (.slice B m dc)) = w2 := ⟨_, rfl⟩
        rw [hw2]
        have hnx := wr_next (q := q) (v := .slice B m dc) (ob := .cells #[.int .i64 q, .slice B m dc] 68) HWS.out
        rw [hw2] at hnx
        have hdl : d.length = m := by simpa using HRD.out.len
        have hBg : ∀ ad, B = some ad → 0 < m → ad.block < g := by rw [← hg]; exact HBL.out
        have hws2 := hnx.1
        have ho2 := HO.out.just hnx.2
        have hvo2 := HVO.out.just (Nat.lt_succ_self g) hnx.2
        have hrd2 : Rd w2 B m dc (u8s d) := rd_fr0 HRD.out hnx.2 (fun ad e h0 x => by have := hBg ad e h0; have : ad.block = g := x; omega)
        have hfr2 : Fr No w w2 := HFR.out.trans_just hnx.2 (by omega)
        have hl5 : L.length ≤ 50000 := by have := HWL.out; omega
        have HWK := Lib.hid (wr_walk (l := L) hws2 hvo2 ho2 hl5 HM.out hdl HQ.out hrd2 hBg 58)
        have HF2 := Lib.hid hfr2; have HO2 := Lib.hid ho2; have HR2 := Lib.hid hrd2; have HDL := Lib.hid hdl; have HBG := Lib.hid hBg; have HW2 := Lib.hid hws2
        clear hnx hw2 hws2 ho2 hvo2 hrd2 hfr2 hl5 hdl hBg
        go_upto_region 9 with (go_at_call 16; refine (HWK.out).mono ?_; rintro e w3 ⟨E, rfl, hE⟩; have HE := Lib.hid hE; clear hE)
        by_cases hE : E = 0
        · subst hE
          obtain ⟨hf3, hfe, hm, vo3, hws3, hvo3⟩ : WrR (w2.alloc (.cells (fourV g).toArray 58)) g (.slice Ao p.length co) p q B m dc d L 4 w3 := by
            rcases HE.out with ⟨_, h⟩ | ⟨h, _⟩
            · exact h
            · exact absurd rfl h
          have hal : Fr No w2 (w2.alloc (.cells (fourV g).toArray 58)) := (Fr.refl No w2).alloc _
          have hf23 : Fr (Just g) w2 w3 := hal.no.trans hf3
          have ho3 := HO2.out.just hf23
          have hrd3 : Rd w3 B m dc (u8s d) := rd_fr0 HR2.out hf23 (fun ad e h0 x => by have := HBG.out ad e h0; have : ad.block = g := x; omega)
          have hfw3 : Fr No w w3 := HF2.out.trans_just hf23 (by omega)
          have hbs : g < (w2.alloc (.cells (fourV g).toArray 58)).heap.size := Nat.lt_of_lt_of_le HW2.out.lt hal.size
          have hlt3 : ∀ i, (Value.slice Ao p.length co).ownBlock = some i → i < (w2.alloc (.cells (fourV g).toArray 58)).heap.size := fun i e => Nat.lt_of_lt_of_le (HO2.out.lt i e).2 hal.size
          have d0 := hws3.cells.1
          have d1 := hws3.cells.2.1
          have d2 := hws3.cells.2.2.1
          have d5 := hws3.cells.2.2.2.2 0
          have HFE := Lib.hid hfe; have HM3 := Lib.hid hm; have W3 := Lib.hid hws3; have V3 := Lib.hid hvo3; have O3 := Lib.hid ho3; have R3 := Lib.hid hrd3; have F3 := Lib.hid hfw3; have BS := Lib.hid hbs; have L3 := Lib.hid hlt3
          clear hf3 hfe hm hws3 hvo3 hal hf23 ho3 hrd3 hfw3 hbs hlt3 HE
          have hpk : p.length ≤ 20 := by have := HKN.out; rw [← HP.out, List.length_take]; omega
          have HPK := Lib.hid hpk
          clear hpk
          go_wp2_with (at_builtin; go_must (refine ap_tag1 w3 rfl (.tmp 32) (.tmp 36) rfl (g + 1) (.slice Ao p.length co) p.length p (fun i => i < g) (fun i => i < g) rfl O3.out (q, d) [.int .i64 q, .slice B m dc] ⟨B, m, dc, rfl, R3.out, HBG.out, i64_wf HQ.out, HM.out⟩ _ _ rfl rfl (by have := HPK.out; omega) (by have := W3.out.lt; omega) (fun i hi e => by have := (O3.out.lt i e).1; omega) (fun i hi e => by have := (O3.out.lt i e).1; omega) ?_); intro v2 w4 ho4 hg4 hr4; obtain ⟨A4, c4, rfl, -⟩ := ho4.rd' (M := fun _ => True) (fun _ _ => trivial) tag_ok (fun _ _ => trivial); have HO4 := Lib.hid ho4; have HG4 := Lib.hid hg4; have W4 := Lib.hid ((W3.out.no ((Fr.refl No w3).alloc (.cells #[.int .i64 q, .slice B m dc] 68))).grown hg4 (fun i e => (O3.out.lt i e).1)); have e0 := W4.out.cells.1; have e5 := W4.out.cells.2.2.2.2 0; clear ho4 hg4 hr4)
          have HMORE := wr_more hg HKN.out HLEN.out HP.out HAK.out HLL.out HWL.out HWE.out W3.out O3.out V3.out BS.out L3.out F3.out HM3.out HDL.out HFE.out HO4.out HG4.out
          subst hg
          go_roundw
          case rel => exact HMORE _ (by first | rfl | go_num)
          case measure => simp [intOf]; have := HKN.out; omega
        · have hEb := int_ne0 hE
          obtain ⟨hf3, hwf⟩ : WrQ (w2.alloc (.cells (fourV g).toArray 58)) g p q d E w3 := by
            rcases HE.out with ⟨h, _⟩ | ⟨_, h⟩
            · exact absurd h hE
            · exact h
          have hfw3 : Fr No w w3 := HF2.out.trans_just (((Fr.refl No w2).alloc (.cells (fourV g).toArray 58)).no.trans hf3) (by omega)
          have hee : wrE ls = E := by
            have hkl : k < ls.length := by rw [HLEN.out]; exact HKN.out
            have hak2 : ls[k] = (q, d) := by have h := HAK.out; rw [List.getElem?_eq_getElem hkl] at h; injection h
            rw [HWE.out, List.drop_eq_getElem_cons hkl, hak2]
            exact hwf _
          have F3 := Lib.hid hfw3; have HEE := Lib.hid hee; have HNE := Lib.hid hE
          clear hf3 hwf hfw3 hee hE HE
          go_wp2_with fail
          go_ret2
          exact wrote_err HEE.out HNE.out F3.out
      · obtain rfl : k = n := by omega
        have d3 := hws.cells.2.2.2.1
        have HVO := Lib.hid hvo; have HFR := Lib.hid hfr; have HWE := Lib.hid hwe
        clear hws ho hvo hfr hwe hwl
        go_wp2
        go_ret2
        have htk : ls.take k = ls := List.take_of_length_le (by rw [HLEN.out]; exact Nat.le_refl _)
        have hwe := HWE.out
        have hvo := HVO.out
        rw [htk, List.drop_eq_nil_of_le (by rw [HLEN.out]; exact Nat.le_refl _)] at hwe
        rw [htk] at hvo ⊢
        have he0 : wrE ls = 0 := hwe
        have hl0 : wrL ls = wrT ls := by unfold wrL; rw [if_pos he0]
        exact ⟨_, by rw [he0]; rfl, by rw [hl0]; exact rt_own_low hvo (by omega), HFR.out⟩
end Go.Proofs.YthlgnmgjfgbffaaGreatDoor
