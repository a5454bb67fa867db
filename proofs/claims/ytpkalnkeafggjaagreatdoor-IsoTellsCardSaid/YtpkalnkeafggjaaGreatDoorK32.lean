/- The texts IsoW2, joined. -/
import Derived.Test.YtpkalnkeafggjaaGreatDoorK31
import Derived.Test.YtpkalnkeafggjaaGreatDoorK18
/- Package iso: the writer: the elements; Pack. -/
namespace Go.Proofs.YtpkalnkeafggjaaGreatDoor
open Go.RowKit
set_option maxHeartbeats 1000000
set_option linter.unusedVariables false
set_option maxRecDepth 20000

theorem rd_len63 {w : World} {A : Option Addr} {n c : Nat} {xs : List Value} (h : Rd w A n c xs) : n ≤ 9223372036854775807 := by
  have h1 := h.cap
  have h2 := h.max
  simp only [maxLen] at h2
  omega
/-- one call for each element -/
theorem each_elm (A : Option Addr) (n c : Nat) (es : List El) (N : Nat → Prop) (w : World) (F : FuncId) (x : Value) (R : Nat → World → Prop) (Q : Int → World → Prop) (h0 : R 0 w) (hR : ∀ k u, R k u → RdI 2 TagI u N A n c es) (hal : ∀ k u o, R k u → R k (u.alloc o)) (htop : n ≤ 9223372036854775807)
    (hen : ∀ args w, (callFunc F args).run Tryz.prog w = .ok (.enter F args) w)
    (hs : ∀ k a, es[k]? = some a → ∀ u D dl dc, R k u → Rd u D dl dc (u8s a.2) → (∀ ad, D = some ad → 0 < dl → N ad.block) → Calls Tryz.prog F #[x, .agg #[.int .i64 a.1, .slice D dl dc]] u (SWTo (R (k + 1)) Q)) :
    Calls Tryz.prog 50 #[.slice A n c, .func (.func F) #[x] #[]] w (SWTo (R n) Q) := by
  have HR := Lib.hid hR; have HS := Lib.hid hs; have H0 := Lib.hid h0; have HA := Lib.hid hal
  clear hR hs h0 hal
  go_enter Tryz.func50, Tryz.ntmps50
  go_wp2
  go_loopw [10] (fun v wr => ∃ k : Nat, k ≤ n ∧ v = .int .i64 (k : Int) ∧ R k wr) (fun v _ => n - (intOf v).toNat)
  case atStart => exact ⟨0, by omega, rfl, H0.out⟩
  case round =>
    obtain ⟨k, hk, rfl, hr⟩ := hrel
    have HRK := Lib.hid hr
    clear hr
    rcases Nat.lt_or_ge k n with hkn | hge
    · obtain ⟨ad, cs, a, rfl, ⟨D, dl, dc, rfl, hd1, hd2, -, -⟩, hak, hc0, hc1⟩ := two_cells tag_ok (HR.out k wr HRK.out) hkn
      have c0 := hc0 _ rfl
      have c11 := hc1 _ rfl
      obtain ⟨P, hP⟩ : ∃ P, ad.add (k * 2) = P := ⟨_, rfl⟩
      rw [hP] at c0 c11
      have hkI : (k : Int) < (n : Int) := by omega
      obtain ⟨q, hq⟩ : ∃ q, a.1 = q := ⟨_, rfl⟩
      have HC := Lib.hid (HS.out k a hak (wr.alloc (.cells #[.int .i64 a.1, .slice D dl dc] 40)) D dl dc (HA.out _ _ _ HRK.out) (hd1.no ((Fr.refl No wr).alloc _)) hd2)
      rw [hq] at c0 HC
      clear hd1 hd2 hak hc0 hc1 hq
      go_upto_region 5 with ((with_reducible refine (HC.out).mono ?_); rintro e w1 ⟨E, rfl, hE⟩; have HE := Lib.hid hE; clear hE)
      by_cases hE : E = 0
      · subst hE
        have hr2 : R (k + 1) w1 := by
          rcases HE.out with ⟨_, h⟩ | ⟨h, _⟩
          · exact h
          · exact absurd rfl h
        have HR2 := Lib.hid hr2
        clear hr2 c0 c11
        go_wp2_with fail
        go_roundw
        case rel => exact ⟨k + 1, by omega, by go_num, HR2.out⟩
        case measure => simp [intOf]; omega
      · have hEb := st_ne0 hE
        have HNE := Lib.hid hE
        clear hE c0 c11
        go_wp2_with fail
        go_ret
        refine ⟨E, rfl, .inr ⟨HNE.out, ?_⟩⟩
        rcases HE.out with ⟨h, _⟩ | ⟨_, h⟩
        · exact absurd h HNE.out
        · exact h
    · obtain rfl : k = n := by omega
      go_wp2
      go_ret
      exact ⟨0, rfl, .inl ⟨rfl, HRK.out⟩⟩
theorem wrtEl_len (no : Int) (d : List UInt8) : (wrtEl no d).length ≤ 1003 := by
  by_cases h : chkEl no d = 0
  · obtain ⟨h1, h2, h3⟩ := head_small h
    rw [h3, List.length_append]
    omega
  · unfold wrtEl
    rw [if_neg h]
    simp
theorem iso_welement {w : World} {g : Nat} {mt : ByteArray} {va vo : Value} {base : Nat} {l : List UInt8} {no : Int} {D : Option Addr} {dc : Nat} {d : List UInt8} (h : Ws w g mt va vo) (hr : Rd w D d.length dc (u8s d)) (ho : OwnM w base vo l) (hg : g < base) (hb : base ≤ w.heap.size) (hz : l.length ≤ 10000000) (hT : Tabs w) :
    Calls Tryz.prog 51 #[.pointer (some ⟨g, 0, none⟩), .agg #[.int .i64 no, .slice D d.length dc]] w (PutTo w g mt va vo base (l ++ wrtEl no d) (chkEl no d)) := by
  have HW := Lib.hid (fun (u : World) (hf : Fr No w u) => el_write_any no D dc d u (hr.no hf) (rd_len63 hr) (hT.fr hf))
  have HP := Lib.hid (fun (u : World) (B : Option Addr) (e : Nat) (hf : Fr No w u) (hr : Rd u B (wrtEl no d).length e (u8s (wrtEl no d))) =>
    iso_put (E := chkEl no d) (Bk.no h hf) (ownM_fr ho hf (fun _ _ x => x)) hg (Nat.le_trans hb hf.size) hr (by have := wrtEl_len no d; omega))
  have HAL := Lib.hid ((Fr.refl No w).alloc (.cells #[.int .i64 no, .slice D d.length dc] 40))
  clear h hr ho hg hb hz hT
  generalize wrtEl no d = L at *
  generalize chkEl no d = E at *
  generalize d.length = m at *
  go_enter Tryz.func51, Tryz.ntmps51
  go_wp2_with (first
    | (go_at_call 74; refine (HW.out _ HAL.out).mono ?_; rintro e w2 ⟨v, rfl, o2, f2⟩; obtain ⟨V2, d2, rfl, hr2, -⟩ := ownM_rd o2; have R2 := Lib.hid hr2; have F2 := Lib.hid (HAL.out.trans f2); clear o2 hr2 f2)
    | (go_at_call 48; refine (HP.out _ _ _ F2.out R2.out).mono ?_; intro e w3 p3; have P3 := Lib.hid (PutTo.ahead p3 F2.out); obtain rfl := p3.1; clear p3))
  go_ret
  exact P3.out
/-! ### all the elements -/
theorem wrtAll_app (l k : List El) : wrtAll (l ++ k) = wrtAll l ++ wrtAll k := by
  induction l with
  | nil => rfl
  | cons a l ih => show wrtEl a.1 a.2 ++ wrtAll (l ++ k) = (wrtEl a.1 a.2 ++ wrtAll l) ++ wrtAll k; rw [ih, List.append_assoc]
theorem wrtAll_take {es : List El} {k : Nat} {a : El} (h : es[k]? = some a) : wrtAll (es.take (k + 1)) = wrtAll (es.take k) ++ wrtEl a.1 a.2 := by
  have hk := (List.getElem?_eq_some_iff.1 h).1
  have he := (List.getElem?_eq_some_iff.1 h).2
  rw [List.take_succ_eq_append_getElem hk, he, wrtAll_app]
  show _ ++ (wrtEl a.1 a.2 ++ []) = _
  rw [List.append_nil]
theorem wrtAll_len (l : List El) : (wrtAll l).length ≤ 1003 * l.length := by
  induction l with
  | nil => exact Nat.le_refl _
  | cons a l ih =>
    show (wrtEl a.1 a.2 ++ wrtAll l).length ≤ 1003 * (l.length + 1)
    rw [List.length_append]
    have := wrtEl_len a.1 a.2
    omega
theorem chkAll_at {es : List El} {k : Nat} {a : El} (h : es[k]? = some a) : chkAll (es.drop k) = if chkEl a.1 a.2 ≠ 0 then chkEl a.1 a.2 else chkAll (es.drop (k + 1)) := by
  have hk := (List.getElem?_eq_some_iff.1 h).1
  have he := (List.getElem?_eq_some_iff.1 h).2
  rw [List.drop_eq_getElem_cons hk, he]
  rfl
def WelR (w0 : World) (g : Nat) (mt : ByteArray) (A : Option Addr) (n c : Nat) (es : List El) (l : List UInt8) (i : Nat) (u : World) : Prop :=
  i ≤ n ∧ Fr (Just g) w0 u ∧ chkAll es = chkAll (es.drop i) ∧ ∃ vo, Ws u g mt (.slice A n c) vo ∧ OwnM u w0.heap.size vo (l ++ wrtAll (es.take i))
def WelQ (w0 : World) (g : Nat) (es : List El) (E : Int) (u : World) : Prop := Fr (Just g) w0 u ∧ chkAll es = E
theorem iso_welements {w0 w : World} {g : Nat} {mt : ByteArray} {A : Option Addr} {n c : Nat} {es : List El} {vo : Value} {l : List UInt8} (hf : Fr (Just g) w0 w) (h : Ws w g mt (.slice A n c) vo) (he : RdI 2 TagI w0 (fun i => i < g) A n c es) (ho : OwnM w w0.heap.size vo l) (hg : g < w0.heap.size) (hn : n ≤ 1000) (hz : l.length ≤ 100) (hT : ∀ u, Fr (Just g) w0 u → Tabs u) :
    Calls Tryz.prog 27 #[.pointer (some ⟨g, 0, none⟩)] w (SWTo (WelR w0 g mt A n c es l n) (WelQ w0 g es)) := by
  have hlen := he.len tag_ok (by omega)
  have hex := fun (i : Nat) (x : i < g) (y : Just g i) => by have : i = g := y; omega
  have HE := Lib.hid (each_elm A n c es (fun i => i < g) w 51 (.pointer (some ⟨g, 0, none⟩)) (WelR w0 g mt A n c es l) (WelQ w0 g es)
    ⟨Nat.zero_le _, hf, rfl, vo, h, by rw [List.take_zero]; show OwnM _ _ _ (l ++ []); rw [List.append_nil]; exact ho⟩
    (fun i u hu => he.fr tag_ok hu.2.1 (fun j hj x => by have : j = g := x; omega))
    (fun i u o hu => by
      obtain ⟨h1, h2, h3, vo, h4, h5⟩ := hu
      have hal : Fr No u (u.alloc o) := (Fr.refl No u).alloc o
      exact ⟨h1, h2.alloc o, h3, vo, Bk.no h4 hal, ownM_fr h5 hal (fun _ _ x => x)⟩)
    (by omega)
    (fun args w => rfl)
    (fun i a ha u D dl dc hu hd hdb => by
      obtain ⟨h1, h2, h3, vo, h4, h5⟩ := hu
      obtain rfl : a.2.length = dl := by simpa using hd.len
      have hil := (List.getElem?_eq_some_iff.1 ha).1
      refine (iso_welement (no := a.1) h4 hd h5 hg h2.size ?_ (hT u h2)).mono ?_
      · rw [List.length_append]
        have := wrtAll_len (es.take i)
        rw [List.length_take] at this
        have : min i es.length ≤ 1000 := by omega
        omega
      · intro e u2 p2
        have hf2 := p2.far h2 (fun j hj => (ownM_lt h5 j hj).1)
        obtain ⟨rfl, -, vo2, h6, h7, -⟩ := p2
        refine ⟨_, rfl, ?_⟩
        have hck := chkAll_at ha
        by_cases hE : chkEl a.1 a.2 = 0
        · rw [if_neg (by rw [hE]; decide)] at hck
          refine .inl ⟨hE, by omega, hf2, by rw [h3, hck], vo2, h6, ?_⟩
          rw [wrtAll_take ha, ← List.append_assoc]
          exact h7
        · rw [if_pos hE] at hck
          exact .inr ⟨hE, hf2, by rw [h3, hck]⟩))
  have c1 := (Ws.cells' h).2.1
  clear h he hn ho hg hz hT hlen hf hex
  go_enter Tryz.func27, Tryz.ntmps27
  go_wp2_with (go_at_call 50; refine (HE.out).mono ?_; rintro e w1 ⟨E, rfl, hE⟩; have HR := Lib.hid hE; clear hE)
  go_ret
  exact ⟨E, rfl, HR.out⟩
theorem iso_wend {w : World} {g : Nat} {mt : ByteArray} {va vo : Value} {base : Nat} {l : List UInt8} (h : Ws w g mt va vo) (ho : OwnM w base vo l) :
    Calls Tryz.prog 28 #[.pointer (some ⟨g, 0, none⟩)] w fun e w' => e = .returned (.int .i64 (if l.length ≤ 4096 then 0 else 4)) ∧ w = w' := by
  obtain ⟨vA, vc, rfl, hr, -⟩ := ownM_rd ho
  have c2 := (Ws.cells' h).2.2.1
  have hm := rd_len63 hr
  have HU1 := Lib.hid (fun u => unless_any true 4 u)
  have HU0 := Lib.hid (fun u => unless_any false 4 u)
  rw [if_pos rfl] at HU1
  rw [if_neg (by decide)] at HU0
  clear h ho hr
  generalize l.length = m at *
  by_cases h4 : m ≤ 4096
  · have h4I : (m : Int) ≤ 4096 := by omega
    rw [if_pos h4]
    clear h4
    go_enter Tryz.func28, Tryz.ntmps28
    go_wp2_with (go_at_call 36; refine (HU1.out _).mono ?_; rintro e w1 ⟨rfl, rfl⟩)
    go_ret
    exact ⟨rfl, rfl⟩
  · have h4I : ¬ (m : Int) ≤ 4096 := by omega
    rw [if_neg h4]
    clear h4
    go_enter Tryz.func28, Tryz.ntmps28
    go_wp2_with (go_at_call 36; refine (HU0.out _).mono ?_; rintro e w1 ⟨rfl, rfl⟩)
    go_ret
    exact ⟨rfl, rfl⟩
end Go.Proofs.YtpkalnkeafggjaaGreatDoor
