/- The texts IsoW3, joined. -/
import Derived.Test.YtpkalnkeafggjaaGreatDoorK32
/- Package iso: Pack. -/
namespace Go.Proofs.YtpkalnkeafggjaaGreatDoor
open Go.RowKit
set_option maxHeartbeats 1000000
set_option linter.unusedVariables false
set_option maxRecDepth 20000

abbrev fiveO (g : Nat) : List Value := [.func (.func 18) #[.pointer (some ⟨g, 0, none⟩)] #[], .func (.func 25) #[.pointer (some ⟨g, 0, none⟩)] #[], .func (.func 26) #[.pointer (some ⟨g, 0, none⟩)] #[],
  .func (.func 27) #[.pointer (some ⟨g, 0, none⟩)] #[], .func (.func 28) #[.pointer (some ⟨g, 0, none⟩)] #[]]
section
variable (w0 : World) (g : Nat) (t : List UInt8) (A : Option Addr) (n c : Nat) (es : List El)
def PckR : Nat → World → Prop
  | 0, u => Fr (Just g) w0 u ∧ Ws u g (bstr t) (.slice A n c) (.slice none 0 0)
  | 1, u => Fr (Just g) w0 u ∧ rightB t 4 4 = true ∧ Ws u g (bstr t) (.slice A n c) (.slice none 0 0)
  | 2, u => Fr (Just g) w0 u ∧ rightB t 4 4 = true ∧ ∃ vo, Ws u g (bstr t) (.slice A n c) vo ∧ OwnM u w0.heap.size vo t
  | 3, u => Fr (Just g) w0 u ∧ rightB t 4 4 = true ∧ wmE (nosOf es) = 0 ∧ ∃ vo, Ws u g (bstr t) (.slice A n c) vo ∧ OwnM u w0.heap.size vo (t ++ mapOf (nosOf es))
  | 4, u => Fr (Just g) w0 u ∧ rightB t 4 4 = true ∧ wmE (nosOf es) = 0 ∧ chkAll es = 0 ∧ ∃ vo, Ws u g (bstr t) (.slice A n c) vo ∧ OwnM u w0.heap.size vo (wrtI t es)
  | _, u => Fr (Just g) w0 u ∧ pacE t es = 0 ∧ ∃ vo, Ws u g (bstr t) (.slice A n c) vo ∧ OwnM u w0.heap.size vo (wrtI t es)
def PckQ (E : Int) (u : World) : Prop := Fr (Just g) w0 u ∧ pacE t es = E
end
theorem pckR_fr {w0 u : World} {g : Nat} {t : List UInt8} {A : Option Addr} {n c : Nat} {es : List El} {i : Nat} (h : PckR w0 g t A n c es i u) : Fr (Just g) w0 u := by
  match i, h with
  | 0, h => exact h.1
  | 1, h => exact h.1
  | 2, h => exact h.1
  | 3, h => exact h.1
  | 4, h => exact h.1
  | _ + 5, h => exact h.1
theorem wm_cases (l : List Int) : (wmE l = 0 ∧ wmR l = mapOf l ∧ ((mapOf l).length = 8 ∨ (mapOf l).length = 16)) ∨ wmE l = 1 := by
  unfold wmE wmR
  cases h : risesB l with
  | true => exact .inl ⟨rfl, rfl, mapOf_len h⟩
  | false => exact .inr rfl
theorem five_outs {w0 : World} {g : Nat} {t : List UInt8} {A : Option Addr} {n c : Nat} {es : List El} (he : RdI 2 TagI w0 (fun i => i < g) A n c es) (hg : g < w0.heap.size) (hn : n ≤ 1000) (hz : t.length ≤ maxLen) (hT : ∀ u, Fr (Just g) w0 u → Tabs u) (i : Nat) (hi : i < 5) :
    ∃ F x, (fiveO g)[i]? = some (.func (.func F) #[x] #[]) ∧ (∀ args w, (callFunc F args).run Tryz.prog w = .ok (.enter F args) w) ∧ ∀ u, PckR w0 g t A n c es i u → Calls Tryz.prog F #[x] u (SWTo (PckR w0 g t A n c es (i + 1)) (PckQ w0 g t es)) := by
  have hbl : ∀ l : List UInt8, (bstr l).data.toList = l := fun l => by simp [bstr]
  have hno : ∀ {u}, Fr (Just g) w0 u → RdI 2 TagI u (fun i => i < g) A n c es := fun hf => he.fr tag_ok hf (fun j hj x => by have : j = g := x; omega)
  have h5 : i = 0 ∨ i = 1 ∨ i = 2 ∨ i = 3 ∨ i = 4 := by omega
  rcases h5 with rfl | rfl | rfl | rfl | rfl
  · refine ⟨_, _, rfl, fun args w => rfl, ?_⟩
    rintro u ⟨hf, hp⟩
    refine (iso_right (Ws.cells' hp).1 (by rw [bstr_size]; exact hz)).mono ?_
    rintro e u' ⟨rfl, rfl⟩
    rw [hbl]
    cases hR : rightB t 4 4 with
    | true => exact ⟨0, rfl, .inl ⟨rfl, hf, hR, hp⟩⟩
    | false => exact ⟨5, rfl, .inr ⟨by decide, hf, by unfold pacE; rw [if_pos hR]⟩⟩
  · refine ⟨_, _, rfl, fun args w => rfl, ?_⟩
    rintro u ⟨hf, hR, hp⟩
    have h4 := rightB_len hR
    refine (iso_wbegin hp hg hf.size (by omega)).mono ?_
    intro e u2 p2
    have hf2 := p2.far hf (fun j hj => by cases hj)
    obtain ⟨rfl, -, vo2, h6, h7, -⟩ := p2
    exact ⟨0, rfl, .inl ⟨rfl, hf2, hR, vo2, h6, h7⟩⟩
  · refine ⟨_, _, rfl, fun args w => rfl, ?_⟩
    rintro u ⟨hf, hR, vo, hp, ho⟩
    have h4 := rightB_len hR
    refine (iso_wnumbers hp (hno hf) hn ho hg hf.size (by omega)).mono ?_
    intro e u2 p2
    have hf2 := p2.far hf (fun j hj => (ownM_lt ho j hj).1)
    obtain ⟨rfl, -, vo2, h6, h7, -⟩ := p2
    rcases wm_cases (nosOf es) with ⟨q1, q2, -⟩ | q1
    · rw [q2] at h7
      exact ⟨_, rfl, .inl ⟨q1, hf2, hR, q1, vo2, h6, h7⟩⟩
    · exact ⟨_, rfl, .inr ⟨by rw [q1]; decide, hf2, by unfold pacE; rw [if_neg (by rw [hR]; decide), if_pos (by rw [q1]; decide), q1]⟩⟩
  · refine ⟨_, _, rfl, fun args w => rfl, ?_⟩
    rintro u ⟨hf, hR, hE, vo, hp, ho⟩
    have h4 := rightB_len hR
    have hml : (mapOf (nosOf es)).length ≤ 16 := by
      rcases wm_cases (nosOf es) with ⟨_, _, h | h⟩ | h
      · omega
      · omega
      · rw [hE] at h; cases h
    refine (iso_welements hf hp he ho hg hn (by rw [List.length_append]; omega) hT).mono ?_
    rintro e u' ⟨E, rfl, ⟨rfl, -, hf2, hck, vo2, h6, h7⟩ | ⟨hE2, hf2, he2⟩⟩
    · have hlen := he.len tag_ok (by omega)
      rw [List.drop_eq_nil_of_le (by omega)] at hck
      rw [List.take_of_length_le (by omega)] at h7
      exact ⟨0, rfl, .inl ⟨rfl, hf2, hR, hE, hck, vo2, h6, h7⟩⟩
    · exact ⟨E, rfl, .inr ⟨hE2, hf2, by unfold pacE; rw [if_neg (by rw [hR]; decide), if_neg (by rw [hE]; decide), if_pos (by rw [he2]; exact hE2), he2]⟩⟩
  · refine ⟨_, _, rfl, fun args w => rfl, ?_⟩
    rintro u ⟨hf, hR, hE, hck, vo, hp, ho⟩
    refine (iso_wend hp ho).mono ?_
    rintro e u' ⟨rfl, rfl⟩
    have hpe : pacE t es = if 4096 < (wrtI t es).length then 4 else 0 := by
      unfold pacE
      rw [if_neg (by rw [hR]; decide), if_neg (by rw [hE]; decide), if_neg (by rw [hck]; decide)]
    by_cases hq : (wrtI t es).length ≤ 4096
    · rw [if_pos hq]
      exact ⟨0, rfl, .inl ⟨rfl, hf, by rw [hpe, if_neg (by omega)], vo, hp, ho⟩⟩
    · rw [if_neg hq]
      exact ⟨4, rfl, .inr ⟨by decide, hf, by rw [hpe, if_pos (by omega)]⟩⟩
theorem out_walk {w : World} {g : Nat} {t : List UInt8} {A : Option Addr} {n c : Nat} {es : List El} (h : Ws w g (bstr t) (.slice A n c) (.slice none 0 0)) (he : RdI 2 TagI w (fun i => i < g) A n c es) (hn : n ≤ 1000) (hz : t.length ≤ maxLen) (hT : ∀ u, Fr (Just g) w u → Tabs u) (ty : TypeId) :
    Calls Tryz.prog 16 #[.slice (some ⟨w.heap.size, 0, none⟩) 5 5] (w.alloc (.cells (fiveO g).toArray ty))
      (SWTo (PckR (w.alloc (.cells (fiveO g).toArray ty)) g t A n c es 5) (PckQ (w.alloc (.cells (fiveO g).toArray ty)) g t es)) := by
  have hfa : Fr No w (w.alloc (.cells (fiveO g).toArray ty)) := (Fr.refl No w).alloc _
  have hbk := Bk.new w ty (fiveO g).toArray
  have hgl := h.lt
  refine t_walk (some ⟨w.heap.size, 0, none⟩) 5 5 (fiveO g) _ _ _ rfl (Nat.le_refl _) (by omega) (fun e => nomatch e) ⟨Fr.refl _ _, Bk.no h hfa⟩ ?_ (fun i hi => five_outs (he.no tag_ok hfa) (by have := hfa.size; omega) hn hz (fun u hu => hT u (hfa.no.trans hu)) i hi)
  intro i u hu ad e j v hv
  injection e with e
  subst e
  have h1 := (hbk.fr (pckR_fr hu) (fun x => by have : w.heap.size = g := x; omega)).cell j
  rw [addr_at, h1]
  exact hv
/-- what Pack answers -/
def PacTo (t : List UInt8) (es : List El) (w : World) (e : Ending) (w' : World) : Prop := ∃ v, e = .returned (.tuple #[v, .int .i64 (pacE t es)]) ∧ OwnM w' w.heap.size v (pacR t es) ∧ Fr No w w'
theorem pac_no {t : List UInt8} {es : List El} {w w' : World} {E : Int} (h : pacE t es = E) (hE : E ≠ 0) (hf : Fr No w w') : PacTo t es w (.returned (.tuple #[.slice none 0 0, .int .i64 E])) w' := by
  have : pacR t es = [] := by unfold pacR; rw [if_neg (by rw [h]; exact hE)]
  refine ⟨_, by rw [h], ?_, hf⟩
  rw [this]
  exact ⟨rfl, .inl ⟨rfl, rfl⟩⟩
theorem pac_yes {t : List UInt8} {es : List El} {w w' : World} {v : Value} (h : pacE t es = 0) (ho : OwnM w' w.heap.size v (wrtI t es)) (hf : Fr No w w') : PacTo t es w (.returned (.tuple #[v, .int .i64 0])) w' := by
  have : pacR t es = wrtI t es := by unfold pacR; rw [if_pos h]
  refine ⟨_, by rw [h], ?_, hf⟩
  rw [this]
  exact ho
theorem bstr_self' (S : ByteArray) : bstr S.data.toList = S := by cases S; simp [bstr]
theorem iso_pack_any (S : ByteArray) (A : Option Addr) (n c : Nat) (es : List El) (w : World) (he : RdI 2 TagI w (fun i => i < w.heap.size) A n c es) (hn : n ≤ 1000) (hz : S.size ≤ maxLen) (hT : Tabs w := by repeat' first | with_reducible assumption | with_reducible apply Tabs.drew | with_reducible apply Tabs.drewN | with_reducible apply Tabs.alloc | refine Tabs.fr ?_ (by with_reducible assumption)) :
    Calls Tryz.prog 10 #[.agg #[.string S, .slice A n c]] w (PacTo S.data.toList es w) := by
  obtain ⟨t, ht⟩ : ∃ t, S.data.toList = t := ⟨_, rfl⟩
  have hS : S = bstr t := by rw [← ht, bstr_self']
  have hal : Fr No w (w.alloc (.cells #[.string S, .slice A n c] 25)) := (Fr.refl No w).alloc _
  have hal2 : Fr No w ((w.alloc (.cells #[.string S, .slice A n c] 25)).alloc (.cells #[.string S, .slice A n c, .slice none 0 0] 56)) := hal.alloc _
  have hbk := Bk.new (w.alloc (.cells #[.string S, .slice A n c] 25)) 56 #[.string S, .slice A n c, .slice none 0 0]
  have hz1 : (w.alloc (.cells #[.string S, .slice A n c] 25)).heap.size = w.heap.size + 1 := by simp
  have hz2 : ((w.alloc (.cells #[.string S, .slice A n c] 25)).alloc (.cells #[.string S, .slice A n c, .slice none 0 0] 56)).heap.size = w.heap.size + 1 + 1 := by simp
  rw [hz1] at hbk
  have hws : Ws ((w.alloc (.cells #[.string S, .slice A n c] 25)).alloc (.cells #[.string S, .slice A n c, .slice none 0 0] 56)) (w.heap.size + 1) (bstr t) (.slice A n c) (.slice none 0 0) := by rw [← hS]; exact hbk
  have hbk0 : Bk (w.alloc (.cells #[.string S, .slice A n c] 25)) w.heap.size 25 [.string S, .slice A n c] := Bk.new w _ _
  have e0 := Bk.cell hbk0 0
  have e1 := Bk.cell hbk0 1
  have hw := out_walk hws ((he.no tag_ok hal2).mono tag_ok (fun i hi => by omega)) hn (by rw [← ht]; simpa using hz) (fun u hu => hT.fr (hal2.trans_just hu (by omega))) 49
  rw [hz2] at hw
  have hfin : ∀ u, Fr (Just (w.heap.size + 1)) (((w.alloc (.cells #[.string S, .slice A n c] 25)).alloc (.cells #[.string S, .slice A n c, .slice none 0 0] 56)).alloc (.cells (fiveO (w.heap.size + 1)).toArray 49)) u → Fr No w u := fun u hu => (hal2.alloc _).trans_just hu (by omega)
  have HFIN := Lib.hid hfin; have HW := Lib.hid hw; have HT2 := Lib.hid ht
  rw [ht]
  clear he hn hz hT hS hal hal2 hbk hz1 hz2 hws hbk0 hw hfin ht
  go_enter Tryz.func10, Tryz.ntmps10
  go_upto_region 3 with (go_at_call 16; (refine (HW.out).mono ?_); rintro e w2 ⟨E, rfl, hE⟩; have HE := Lib.hid hE; clear hE)
  by_cases hE : E = 0
  · subst hE
    obtain ⟨hf2, hpe, vo, hp, ho⟩ : PckR (((w.alloc (.cells #[.string S, .slice A n c] 25)).alloc (.cells #[.string S, .slice A n c, .slice none 0 0] 56)).alloc (.cells (fiveO (w.heap.size + 1)).toArray 49)) (w.heap.size + 1) t A n c es 5 w2 := by
      rcases HE.out with ⟨_, h⟩ | ⟨h, _⟩
      · exact h
      · exact absurd rfl h
    have c2 := (Ws.cells' hp).2.2.1
    have H1 := Lib.hid (ownM_low ho (b := w.heap.size) (by simp; omega)); have H2 := Lib.hid (HFIN.out w2 hf2); have H3 := Lib.hid hpe
    clear hf2 hpe hp ho HE HFIN HW
    go_wp2_with fail
    go_ret2
    exact pac_yes H3.out H1.out H2.out
  · have hEb := st_ne0 hE
    obtain ⟨hf2, hpe⟩ : PckQ (((w.alloc (.cells #[.string S, .slice A n c] 25)).alloc (.cells #[.string S, .slice A n c, .slice none 0 0] 56)).alloc (.cells (fiveO (w.heap.size + 1)).toArray 49)) (w.heap.size + 1) t es E w2 := by
      rcases HE.out with ⟨h, _⟩ | ⟨_, h⟩
      · exact absurd h hE
      · exact h
    have H2 := Lib.hid (HFIN.out w2 hf2); have H3 := Lib.hid hpe; have H4 := Lib.hid hE
    clear hf2 hpe hE HE HFIN HW
    go_wp2_with fail
    go_ret2
    exact pac_no H3.out H4.out H2.out
end Go.Proofs.YtpkalnkeafggjaaGreatDoor
