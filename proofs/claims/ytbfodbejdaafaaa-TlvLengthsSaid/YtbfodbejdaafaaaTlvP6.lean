/- Package tlv: the writer's steps. -/
import Derived.Test.YtbfodbejdaafaaaTlvP4
import Derived.Test.YtbfodbejdaafaaaPut
import Derived.Test.YtbfodbejdaafaaaRefTlv2
namespace Go.Proofs.Ytbfodbejdaafaaa
open Go.RowKit
set_option maxHeartbeats 1000000
set_option linter.unusedVariables false

/-- a writer at block g -/
def Ws (w : World) (g : Nat) (va : Value) (t : Int) (vd vo : Value) : Prop := Bk w g 57 [va, .int .i64 t, vd, vo]
theorem Ws.cells {w : World} {g : Nat} {va vd vo : Value} {t : Int} (h : Ws w g va t vd vo) :
    w.cell? ⟨g, 0, none⟩ = some va ∧ w.cell? ⟨g, 1, none⟩ = some (.int .i64 t) ∧ w.cell? ⟨g, 2, none⟩ = some vd ∧ w.cell? ⟨g, 3, none⟩ = some vo ∧ (∀ i, w.frozen? ⟨g, i, none⟩ = false) :=
  ⟨h.cell 0, h.cell 1, h.cell 2, h.cell 3, h.frozen⟩
/-- what is written so far: bytes of one's own, behind the writer's block -/
def OutO (w : World) (base : Nat) (vo : Value) (l : List UInt8) : Prop := w.ownsRow base 5 1 vo l.length (u8s l)
theorem OutO.rd {w : World} {base : Nat} {vo : Value} {l : List UInt8} (h : OutO w base vo l) : ∃ A c, vo = .slice A l.length c ∧ Rd w A l.length c (u8s l) ∧ ∀ ad, A = some ad → base ≤ ad.block ∧ ad.block < w.heap.size := by
  obtain ⟨A, c, e, hr, hb⟩ := Rd.of_own h
  exact ⟨A, c, e, hr, fun ad e => ⟨(hb ad e).1, (hb ad e).2⟩⟩
theorem Ws.no {w w' : World} {g : Nat} {va vd vo : Value} {t : Int} (h : Ws w g va t vd vo) (hf : Fr No w w') : Ws w' g va t vd vo := Bk.no h hf
theorem Ws.grown {w w' : World} {g : Nat} {va vd vo : Value} {t : Int} {row : Option Nat} (h : Ws w g va t vd vo) (hg : w.grownBy w' row) (hr : ∀ i, row = some i → g < i) : Ws w' g va t vd vo :=
  Bk.fr (S := fun i => row = some i) h ((Fr.refl _ w).grown hg (fun i e => .inl e)) (fun e => by have := hr g e; omega)
theorem OutO.dr' {w w' : World} {base : Nat} {vo : Value} {l : List UInt8} (h : OutO w base vo l) (hd : Dr w w') : OutO w' base vo l := (hd.fr (S := No)).own h (fun _ _ x => x)
theorem Ws.setO {w : World} {g : Nat} {va vd vo : Value} {t : Int} (h : Ws w g va t vd vo) (v : Value) : Ws (w.setCell ⟨g, 3, none⟩ v) g va t vd v := h.set_ 3 v
/-- a step of the writer: only its own block may have turned; what is written is longer -/
def WrTo (w : World) (g : Nat) (va : Value) (t : Int) (vd : Value) (l : List UInt8) (e : Ending) (v : Ending) (w' : World) : Prop :=
  v = e ∧ Fr (Just g) w w' ∧ ∃ vo, Ws w' g va t vd vo ∧ OutO w' w.heap.size vo l
theorem out_set {w : World} {g base : Nat} {vo : Value} {l : List UInt8} (h : OutO w base vo l) (hg : g < base) (o : Nat) (v : Value) : OutO (w.setCell ⟨g, o, none⟩ v) base vo l :=
  ((Fr.refl (Just g) w).setCell (.inl (Just.at g)) v).own h (fun i hi e => by have := h.lt i hi; have : i = g := e; omega)
theorem own_len {w : World} {base n m : Nat} {e : TypeId} {v : Value} {xs : List Value} (h : w.ownsRow base e 1 v n xs) (hm : n = m) : w.ownsRow base e 1 v m xs := hm ▸ h
theorem held_two (n : Nat) (h : n = 1 ∨ n = 2) : held8 (n : Int) = n := by rcases h with rfl | rfl <;> rfl
theorem put_out {w w1 : World} {g n : Nat} {v : Value} {l k : List UInt8} (h : w1.ownsRow w.heap.size 5 1 v n (u8s k)) (hg : g < w.heap.size) (e : k = l) : OutO (w1.setCell ⟨g, 3, none⟩ v) w.heap.size v l := by
  subst e
  have hl : n = k.length := by simpa using h.1.symm
  exact out_set (own_len h hl) hg 3 v
/-- a number of one byte or two, behind what is written -/
theorem t_put {w : World} {g base : Nat} {va vd vo : Value} {t : Int} {l : List UInt8} (h : Ws w g va t vd vo) (ho : OutO w base vo l) (hl : l.length ≤ 60000) (n : Nat) (hn : n < 65536) :
    Calls Try.prog 41 #[.pointer (some ⟨g, 0, none⟩), .int .i64 (n : Int)] w (WrTo w g va t vd (l ++ low n (if 255 < n then 2 else 1)) (.returned (.tuple #[]))) := by
  obtain ⟨A, c, rfl, hr, hb⟩ := ho.rd
  have c3 := h.cells.2.2.2.1
  have hgl := h.lt
  have H := Lib.hid h
  have hw : IntKind.u64.wrap (n : Int) = (n : Int) := IntWalk.u64_in _ ⟨by omega, by omega⟩
  clear h
  by_cases h2 : 255 < n
  · have hI : (255 : Int) < (n : Int) := by omega
    have HP := Lib.hid (put_any A l.length c l n 2 w hr (by omega) (by omega))
    rw [if_pos h2]
    go_enter Try.func41, Try.ntmps41
    go_wp2_with (go_at_call 50; refine (HP.out).mono ?_; rintro e w1 ⟨r, rfl, ho1, hf1⟩; obtain ⟨A1, c1, rfl, -, -⟩ := Rd.of_own ho1; have H1 := Lib.hid (H.out.no hf1); have d3 := H1.out.cells.2.2.2.1; have d5 := H1.out.cells.2.2.2.2 3; have HO1 := Lib.hid ho1; have F1 := Lib.hid hf1; clear ho1 hf1)
    go_end0
    exact ⟨rfl, (F1.out.no).setCell (.inl (Just.at g)) _, _, H1.out.setO _, put_out HO1.out hgl (by rw [show held8 (2 : Int) = 2 from rfl])⟩
  · have hI : ¬ (255 : Int) < (n : Int) := by omega
    have HP := Lib.hid (put_any A l.length c l n 1 w hr (by omega) (by omega))
    rw [if_neg h2]
    go_enter Try.func41, Try.ntmps41
    go_wp2_with (go_at_call 50; refine (HP.out).mono ?_; rintro e w1 ⟨r, rfl, ho1, hf1⟩; obtain ⟨A1, c1, rfl, -, -⟩ := Rd.of_own ho1; have H1 := Lib.hid (H.out.no hf1); have d3 := H1.out.cells.2.2.2.1; have d5 := H1.out.cells.2.2.2.2 3; have HO1 := Lib.hid ho1; have F1 := Lib.hid hf1; clear ho1 hf1)
    go_end0
    exact ⟨rfl, (F1.out.no).setCell (.inl (Just.at g)) _, _, H1.out.setO _, put_out HO1.out hgl (by rw [show held8 (1 : Int) = 1 from rfl])⟩

theorem tag_low {t : Int} (h : tgN t ≠ 0) : ∃ n : Nat, t = (n : Int) ∧ n < 65536 ∧ low n (if 255 < n then 2 else 1) = tagB t := by
  obtain ⟨h0, h1⟩ := (tgN_le t).2 h
  obtain ⟨n, rfl⟩ := Int.eq_ofNat_of_zero_le (by omega : 0 ≤ t)
  have hle := (tgN_le (n : Int)).1
  refine ⟨n, rfl, by omega, ?_⟩
  rw [← low_tag (n : Int) n rfl h]
  have e : tgN (n : Int) = if 255 < n then 2 else 1 := by
    unfold tgN at h ⊢
    by_cases c1 : 0 < (n : Int) ∧ (n : Int) < 255 ∧ (n : Int) % 32 ≠ 31
    · rw [if_pos c1, if_neg (by omega)]
    · rw [if_neg c1] at h ⊢
      by_cases c2 : 255 < (n : Int) ∧ (n : Int) / 256 < 255 ∧ (n : Int) / 256 % 32 = 31 ∧ (n : Int) % 256 < 128
      · rw [if_pos c2, if_pos (by omega)]
      · rw [if_neg c2] at h; exact absurd rfl h
  rw [e]
  by_cases c : 255 < n
  · rw [if_pos c, held_two 2 (.inr rfl)]
  · rw [if_neg c, held_two 1 (.inl rfl)]
theorem t_wtag {w : World} {g base : Nat} {va vd vo : Value} {t : Int} {l : List UInt8} (h : Ws w g va t vd vo) (ho : OutO w base vo l) (hl : l.length ≤ 60000) (ht : tgN t ≠ 0) :
    Calls Try.prog 29 #[.pointer (some ⟨g, 0, none⟩)] w (WrTo w g va t vd (l ++ tagB t) (.returned (.int .i64 0))) := by
  obtain ⟨n, rfl, hn, hlow⟩ := tag_low ht
  have c1 := h.cells.2.1
  have HP := Lib.hid (t_put h ho hl n hn)
  have HLW := Lib.hid hlow
  clear h ho hl hlow ht
  go_enter Try.func29, Try.ntmps29
  go_wp2_with (go_at_call 41; refine (HP.out).mono ?_; rintro e w1 ⟨rfl, hf, hr⟩; have HR := Lib.hid hr; have F1 := Lib.hid hf; clear hf hr)
  go_ret
  exact ⟨rfl, F1.out, by rw [← HLW.out]; exact HR.out⟩
theorem low_len (n : Nat) (h : n ≤ 255) (h2 : 128 ≤ n) : low (33024 + n) (if 255 < 33024 + n then 2 else 1) = lenB n := by
  rw [if_pos (by omega)]
  have h3 : (List.range 256).all (fun k => decide (128 ≤ k → low (33024 + k) 2 = lenB k)) = true := by decide +kernel
  have := List.all_eq_true.1 h3 n (List.mem_range.2 (by omega))
  exact (of_decide_eq_true this) h2
theorem low_len1 (n : Nat) (h : n < 128) : low n (if 255 < n then 2 else 1) = lenB n := by
  rw [if_neg (by omega)]
  have h3 : (List.range 128).all (fun k => decide (low k 1 = lenB k)) = true := by decide +kernel
  exact of_decide_eq_true (List.all_eq_true.1 h3 n (List.mem_range.2 h))
theorem or_len (n : Nat) (h : n ≤ 255) : bits .or .i64 33024 (n : Int) = ((33024 + n : Nat) : Int) := by
  have := or_i64 129 n (by omega) (by omega)
  rw [show ((129 : Nat) : Int) * 256 = 33024 from rfl] at this
  rw [this]
theorem t_wlength {w : World} {g base : Nat} {va vo : Value} {t : Int} {l : List UInt8} {D : Option Addr} {m c : Nat} (h : Ws w g va t (.slice D m c) vo) (ho : OutO w base vo l) (hl : l.length ≤ 60000) (hm : m ≤ 9223372036854775807) :
    Calls Try.prog 30 #[.pointer (some ⟨g, 0, none⟩)] w fun e w' =>
      (255 < m ∧ e = .returned (.int .i64 17) ∧ w = w') ∨ (m ≤ 255 ∧ WrTo w g va t (.slice D m c) (l ++ lenB m) (.returned (.int .i64 0)) e w') := by
  have c2 := h.cells.2.2.1
  by_cases h255 : 255 < m
  · have hI : (255 : Int) < (m : Int) := by omega
    clear ho hl h
    go_enter Try.func30, Try.ntmps30
    go_wp2
    go_ret
    exact .inl ⟨h255, rfl, rfl⟩
  have hI : ¬ (255 : Int) < (m : Int) := by omega
  by_cases h128 : m < 128
  · have hI2 : (m : Int) < 128 := by omega
    have HP := Lib.hid (t_put h ho hl m (by omega))
    have HE := Lib.hid (low_len1 m h128)
    have HM := Lib.hid h255
    clear ho hl h h255
    go_enter Try.func30, Try.ntmps30
    go_wp2_with (go_at_call 41; refine (HP.out).mono ?_; rintro e w1 ⟨rfl, hf, hr⟩; have HR := Lib.hid hr; have F1 := Lib.hid hf; clear hf hr)
    go_ret
    exact .inr ⟨Nat.le_of_not_lt HM.out, rfl, F1.out, by rw [← HE.out]; exact HR.out⟩
  · have hI2 : ¬ (m : Int) < 128 := by omega
    have HP := Lib.hid (t_put h ho hl (33024 + m) (by omega))
    have HE := Lib.hid (low_len m (by omega) (by omega))
    have HM := Lib.hid h255
    have hor := or_len m (by omega)
    obtain ⟨q, hq⟩ : ∃ q, 33024 + m = q := ⟨_, rfl⟩
    rw [hq] at hor HP HE
    clear ho hl h h255 hq h128
    go_enter Try.func30, Try.ntmps30
    go_wp2_with (go_at_call 41; refine (HP.out).mono ?_; rintro e w1 ⟨rfl, hf, hr⟩; have HR := Lib.hid hr; have F1 := Lib.hid hf; clear hf hr)
    go_ret
    exact .inr ⟨Nat.le_of_not_lt HM.out, rfl, F1.out, by rw [← HE.out]; exact HR.out⟩
theorem t_wdata {w : World} {g base : Nat} {va vo : Value} {t : Int} {l d : List UInt8} {D : Option Addr} {m c : Nat} (h : Ws w g va t (.slice D m c) vo) (ho : OutO w base vo l) (hb : g < base) (hbw : base ≤ w.heap.size) (hl : l.length ≤ 60000) (hm : m ≤ 255) (hr : Rd w D m c (u8s d)) :
    Calls Try.prog 31 #[.pointer (some ⟨g, 0, none⟩)] w fun e w' => e = .returned (.int .i64 0) ∧ Fr (fun i => i = g ∨ base ≤ i) w w' ∧ ∃ vo, Ws w' g va t (.slice D m c) vo ∧ OutO w' base vo (l ++ d) := by
  have c2 := h.cells.2.2.1
  have c3 := h.cells.2.2.2.1
  have z3 := h.cells.2.2.2.2 3
  have hgl := h.lt
  have hdl : d.length = m := by simpa using hr.len
  obtain ⟨A, k, rfl, -, -⟩ := ho.rd
  have H := Lib.hid h; have HO := Lib.hid ho; have HRD := Lib.hid hr; have HDL := Lib.hid hdl
  clear h ho hr hdl
  go_enter Try.func31, Try.ntmps31
  go_wp2
  go_region_law (refine step8 rfl (.tmp 7) (.tmp 13) rfl base (.slice A l.length k) l.length l (by rfl) (HO.out.dr' (Dr.refl w).drew) D m c d (by rfl) (HRD.out.dr (Dr.refl _).drew) (by omega) (by simpa using hbw) ?_; intro v1 w1 ho1 hg1 hr1; obtain ⟨A1, c1, rfl, -, -⟩ := Rd.of_own ho1; have H1 := Lib.hid (Ws.grown (H.out.no (Dr.refl w).drew.fr) hg1 (fun i e => Nat.lt_of_lt_of_le hb (HO.out.lt i e).1)); have d3 := H1.out.cells.2.2.2.1; have d5 := H1.out.cells.2.2.2.2 3; have F1 := Lib.hid (((Fr.refl (fun i => i = g ∨ base ≤ i) w).drew).grown hg1 (fun i e => .inl (.inr (HO.out.lt i e).1))); have HO1 := Lib.hid ho1; clear ho1 hg1 hr1)
  all_goals
    go_wp2_with fail
    go_ret
    exact ⟨rfl, F1.out.setCell (.inl (.inl rfl)) _, _, H1.out.setO _, out_set (own_len HO1.out (by have := HDL.out; simp; omega)) hb 3 _⟩
end Go.Proofs.Ytbfodbejdaafaaa
