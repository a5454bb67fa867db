/- The texts RefTokC, TreeMath3, joined. -/
import Derived.Test.YtbfodbejdaafaaaGreatDoorK47
import Derived.Test.YtbfodbejdaafaaaGreatDoorK10
import Derived.Test.YtbfodbejdaafaaaGreatDoorK44
/- The statements' own tokens: all of a text. -/
namespace Go.Proofs.YtbfodbejdaafaaaGreatDoor
open Go.RowKit
set_option maxHeartbeats 1000000
set_option linter.unusedVariables false

theorem openF_less : ∀ (f : Nat) (name : List UInt8) (attrs : List (List UInt8 × List UInt8)) (l : List UInt8) (t : Tok) (rest : List UInt8), openF f name attrs l = some (t, rest) → rest.length < l.length
  | 0, _, _, _, _, _, h => by cases h
  | f + 1, name, attrs, l, t, rest, h => by
    have e2 := drop_while_le isBl l
    unfold openF at h
    split at h
    · rename_i r h1
      have := (isP_len h1).2
      simp only [Option.some.injEq, Prod.mk.injEq, List.length_cons, List.length_nil] at h this
      rw [← h.2]
      omega
    split at h
    · rename_i r h1
      have := (isP_len h1).2
      simp only [Option.some.injEq, Prod.mk.injEq, List.length_cons, List.length_nil] at h this
      rw [← h.2]
      omega
    split at h
    · cases h
    split at h
    · cases h
    rename_i x r h1
    have e1 := attrP_less h1
    have e3 := openF_less f name _ r t rest h
    omega
theorem tokP_less {c : UInt8} {r rest : List UInt8} {t : Tok} (h : tokP (c :: r) = some (t, rest)) : rest.length < (c :: r).length := by
  cases h0 : isP [60, 47] (c :: r) with
  | some l1 =>
    rw [tokP_close h0] at h
    have e1 := (isP_len h0).2
    have e2 := drop_while_le isWi l1
    have e3 := drop_while_le isBl (l1.dropWhile isWi)
    unfold closeQ at h
    split at h
    · cases h
    cases h2 : isP [62] ((l1.dropWhile isWi).dropWhile isBl) with
    | none => rw [h2] at h; cases h
    | some q =>
      have e4 := (isP_len h2).2
      rw [h2] at h
      simp only [Option.map_some, Option.some.injEq, Prod.mk.injEq] at h
      simp only [List.length_cons, List.length_nil] at e1 e4 ⊢
      rw [← h.2]
      omega
  | none =>
    cases h1 : isP [60] (c :: r) with
    | some l1 =>
      rw [tokP_open h0 h1] at h
      have e1 := (isP_len h1).2
      have e2 := drop_while_le isWi l1
      split at h
      · have e3 := openF_less _ _ _ _ _ _ h
        simp only [List.length_cons, List.length_nil] at e1 ⊢
        omega
      · cases h
    | none =>
      rw [tokP_text h0 h1] at h
      have hc : notLt c = true := by
        unfold notLt
        rw [decide_eq_true_iff]
        intro e
        have : c = 60 := UInt8.toNat_inj.1 e
        subst this
        unfold isP at h1
        simp at h1
      have e1 := drop_while_le notLt r
      cases hv : valV ((c :: r).takeWhile notLt) with
      | none => rw [hv] at h; cases h
      | some v =>
        rw [hv] at h
        simp only [Option.map_some, Option.some.injEq, Prod.mk.injEq] at h
        rw [← h.2, List.dropWhile_cons, if_pos hc]
        simp only [List.length_cons]
        omega
theorem toksF_enough : ∀ (f k : Nat) (l : List UInt8), l.length ≤ f → l.length ≤ k → toksF f l = toksF k l := by
  intro f
  induction f with
  | zero =>
    intro k l h1 h2
    have : l = [] := List.eq_nil_of_length_eq_zero (by omega)
    subst this
    cases k <;> rfl
  | succ f ih =>
    intro k l h1 h2
    cases l with
    | nil => cases k <;> rfl
    | cons c r =>
      cases k with
      | zero => simp at h2
      | succ k =>
        unfold toksF
        cases ht : tokP (c :: r) with
        | none => rfl
        | some x =>
          obtain ⟨t, rest⟩ := x
          have e1 := tokP_less ht
          simp only [List.length_cons] at e1 h1 h2
          show (toksF f rest).map _ = (toksF k rest).map _
          rw [ih k rest (by omega) (by omega)]
theorem toksV_cons (c : UInt8) (r : List UInt8) : toksV (c :: r) = match tokP (c :: r) with
    | none => none
    | some (t, rest) => (toksV rest).map (t :: ·) := by
  unfold toksV
  rw [List.length_cons, toksF]
  cases ht : tokP (c :: r) with
  | none => rfl
  | some x =>
    obtain ⟨t, rest⟩ := x
    have e1 := tokP_less ht
    simp only [List.length_cons] at e1
    show (toksF _ rest).map _ = (toksF _ rest).map _
    rw [toksF_enough _ _ rest (by omega) (Nat.le_refl _)]
theorem toksV_nil : toksV [] = some [] := rfl

theorem r_is_yes_any (S P : ByteArray) (p : Nat) (r : List UInt8) (hP : P.size ≤ 65536) (h : isP P.data.toList (S.data.toList.drop p) = some r) : S.data.toList.drop (p + P.size) = r ∧
    ∀ g u, WkT u g S p → Calls Tryz.prog 30 #[.pointer (some ⟨g, 0, none⟩), .string P] u fun e w' => e = .returned (.bool true) ∧ WkT w' g S (p + P.size) ∧ Fr (Just g) u w' :=
  ⟨(r_is_yes 0 S P p r hP h).1, fun g => (r_is_yes g S P p r hP h).2⟩
/-- one token, whatever it is -/
theorem r_token_any (g : Nat) (S : ByteArray) (a : Nat) (w : World) (h : WkT w g S a) :
    Calls Tryz.prog 31 #[.pointer (some ⟨g, 0, none⟩)] w fun e w' => OpenEnd S g w.heap.size (tokP (S.data.toList.drop a)) e w' ∧ Fr (Just g) w w' := by
  cases h0 : isP [60, 47] (S.data.toList.drop a) with
  | some l1 => exact r_tok_close g S a w h l1 h0
  | none => cases h1 : isP [60] (S.data.toList.drop a) with
    | some l1 => exact r_tok_open g S a w h l1 h0 h1
    | none => exact r_tok_text g S a w h h0 h1

set_option maxRecDepth 100000 in
theorem r_Tokens_any (S : ByteArray) (w : World) (hs : S.size ≤ 65536) :
    Calls Tryz.prog 16 #[.string S] w fun e w' => ∃ v, e = .returned (.tuple #[v, .int .i64 (tokE S.data.toList)]) ∧
      OwnI 5 TokI w' w.heap.size 68 (fun i => w.heap.size ≤ i ∧ i < w'.heap.size) v (tokL S.data.toList).length (tokL S.data.toList) ∧ Fr No w w' := by
  have hsl := size_list S
  by_cases h1 : 4096 < S.size
  · have e1 : tokE S.data.toList = 4 := by unfold tokE; rw [hsl, if_pos h1]
    have e2 : tokL S.data.toList = [] := by unfold tokL; rw [e1]; rfl
    have h1I : (4096 : Int) < (S.size : Int) := by omega
    rw [e1, e2]
    clear e1 e2 hsl
    go_enter Tryz.func16, Tryz.ntmps16
    go_wp2
    go_ret2
    exact ⟨_, rfl, OwnI.nil_ _ _ _ _ _ _, Fr.refl _ _⟩
  have h1I : ¬ (4096 : Int) < (S.size : Int) := by omega
  cases h2 : utf8B S.data.toList with
  | false =>
    have e1 : tokE S.data.toList = 7 := by unfold tokE; rw [hsl, if_neg h1, h2]; rfl
    have e2 : tokL S.data.toList = [] := by unfold tokL; rw [e1]; rfl
    have hu := fun u => ref_utf8_any S u (by omega)
    rw [h2] at hu
    have HU := Lib.hid hu
    rw [e1, e2]
    clear e1 e2 hsl hu h2
    go_enter Tryz.func16, Tryz.ntmps16
    go_wp2_with (go_at_call 29; refine (HU.out _).mono ?_; rintro e w1 ⟨rfl, rfl⟩)
    go_ret2
    exact ⟨_, rfl, OwnI.nil_ _ _ _ _ _ _, Fr.refl _ _⟩
  | true =>
    have hu := fun u => ref_utf8_any S u (by omega)
    rw [h2] at hu
    have HU := Lib.hid hu
    have hE : tokE S.data.toList = if (toksV (bodyL S.data.toList)).isSome then 0 else 9 := by unfold tokE; rw [hsl, if_neg h1, h2]; rfl
    have hL : tokL S.data.toList = (toksV (bodyL S.data.toList)).getD [] := by
      unfold tokL
      rw [hE]
      cases toksV (bodyL S.data.toList) <;> rfl
    -- where it begins
    obtain ⟨p0, hp0, hbody, his⟩ : ∃ p0, p0 ≤ S.size ∧ S.data.toList.drop p0 = bodyL S.data.toList ∧ ∀ (g : Nat) (u : World), WkT u g S 0 → Calls Tryz.prog 30 #[.pointer (some ⟨g, 0, none⟩), .string ⟨#[60, 63, 120, 109, 108, 32, 118, 101, 114, 115, 105, 111, 110, 61, 34, 49, 46, 48, 34, 32, 101, 110, 99, 111, 100, 105, 110, 103, 61, 34, 85, 84, 70, 45, 56, 34, 63, 62]⟩] u fun e w' => (∃ b, e = .returned (.bool b)) ∧ WkT w' g S p0 ∧ Fr (Just g) u w' := by
      cases hp : isP prologL S.data.toList with
      | none =>
        refine ⟨0, by omega, by unfold bodyL; rw [hp]; rfl, fun g u hu => (r_is_no g S ⟨#[60, 63, 120, 109, 108, 32, 118, 101, 114, 115, 105, 111, 110, 61, 34, 49, 46, 48, 34, 32, 101, 110, 99, 111, 100, 105, 110, 103, 61, 34, 85, 84, 70, 45, 56, 34, 63, 62]⟩ 0 (by decide) hp u hu).mono ?_⟩
        rintro e w' ⟨rfl, h3, h4⟩
        exact ⟨⟨_, rfl⟩, h3, h4⟩
      | some r =>
        obtain ⟨E, hy⟩ := r_is_yes_any S ⟨#[60, 63, 120, 109, 108, 32, 118, 101, 114, 115, 105, 111, 110, 61, 34, 49, 46, 48, 34, 32, 101, 110, 99, 111, 100, 105, 110, 103, 61, 34, 85, 84, 70, 45, 56, 34, 63, 62]⟩ 0 r (by decide) hp
        have hln := (isP_len hp).2
        refine ⟨0 + (⟨#[60, 63, 120, 109, 108, 32, 118, 101, 114, 115, 105, 111, 110, 61, 34, 49, 46, 48, 34, 32, 101, 110, 99, 111, 100, 105, 110, 103, 61, 34, 85, 84, 70, 45, 56, 34, 63, 62]⟩ : ByteArray).size, by rw [← hsl, ← hln]; exact Nat.le_trans (by decide) (Nat.le_add_left _ _), by rw [E]; unfold bodyL; rw [hp]; rfl, fun g u hu => (hy g u hu).mono ?_⟩
        rintro e w' ⟨rfl, h3, h4⟩
        exact ⟨⟨_, rfl⟩, h3, h4⟩
    rw [← hbody] at hE hL
    have HIS := Lib.hid his; have HE := Lib.hid hE; have HL := Lib.hid hL; have HSL := Lib.hid hsl
    clear his hE hL hbody hsl hu h2
    go_enter Tryz.func16, Tryz.ntmps16
    have hwk : WkT (w.alloc (.cells #[.string S, .int .i64 0] 66)) w.heap.size S 0 := ⟨Bk.new w _ _, by omega, hs⟩
    have HWK := Lib.hid hwk
    clear hwk
    go_wp2_with (first
      | (go_at_call 29; refine (HU.out _).mono ?_; rintro e w1 ⟨rfl, rfl⟩)
      | (go_at_call 30; refine (HIS.out _ _ HWK.out).mono ?_; rintro e w2 ⟨⟨b, rfl⟩, hw2, hf2⟩))
    obtain ⟨G, hG⟩ : ∃ G, w.heap.size = G := ⟨_, rfl⟩
    have hf02 : Fr No w w2 := ((Fr.refl No w).alloc _).trans_new hf2 (fun i e => .inr (by rw [show i = w.heap.size from e]; exact Nat.le_refl _))
    have hG2 : G < w2.heap.size := by have := hf2.size; simp at this; omega
    rw [hG] at hw2
    simp only [hG]
    have HG := Lib.hid hG; have HW2 := Lib.hid hw2; have HF02 := Lib.hid hf02
    clear hw2 hf02 hf2 hG
    go_loopw [5] (fun lv wr => ∃ (p : Nat) (ts : List Tok) (n : Nat) (N : Nat → Prop), n = ts.length ∧ WkT wr G S p ∧ OwnI 5 TokI wr (G + 1) 68 N lv n ts ∧ (∀ i, N i → G < i ∧ i < wr.heap.size ∧ lv.ownBlock ≠ some i) ∧ n ≤ p ∧ toksV (S.data.toList.drop p0) = (toksV (S.data.toList.drop p)).map (ts ++ ·) ∧ Fr No w wr ∧ G < wr.heap.size) (fun _ wr => S.size - posOf wr G)
    case atStart => exact ⟨p0, [], 0, No, rfl, HW2.out, OwnI.nil_ _ _ _ _ _ _, fun _ x => x.elim, by omega, by simp, HF02.out, hG2⟩
    case round =>
      obtain ⟨p, ts, n, N, hn, hwk, hown, hN, hnp, hto, hf, hGr⟩ := hrel
      have c1 : wr.cell? ⟨G, 1, none⟩ = some (.int .i64 (p : Int)) := hwk.blk.cell 1
      have hle := hwk.le
      have hpos := hwk.pos
      have hlt := hown.lt
      have hvs : ∃ A c, u5 = .slice A n c := by obtain ⟨A, c, e, _⟩ := hown.rd' (M := fun _ => True) (fun _ _ => trivial) tok_ok (fun _ _ => trivial); exact ⟨A, c, e⟩
      obtain ⟨VA, vc, rfl⟩ := hvs
      have HNN := Lib.hid hn; have HWK := Lib.hid hwk; have HOWN := Lib.hid hown; have HN := Lib.hid hN; have HTO := Lib.hid hto; have HF := Lib.hid hf; have HPOS := Lib.hid hpos; have HLT := Lib.hid hlt
      clear hn hwk hown hN hto hf hpos hlt
      by_cases hp : p < S.size
      · have hpI : (p : Int) < (S.size : Int) := by omega
        have hdc := sdrop_cons S p hp
        have hcons := toksV_cons S[p] (S.data.toList.drop (p + 1))
        rw [← hdc] at hcons
        have htok := fun u hu => r_token_any G S p u hu
        cases ht : tokP (S.data.toList.drop p) with
        | none =>
          rw [ht] at hcons htok
          have hnone : toksV (S.data.toList.drop p0) = none := by rw [HTO.out, hcons]; rfl
          have e1 : tokE S.data.toList = 9 := by rw [HE.out, hnone]; rfl
          have e2 : tokL S.data.toList = [] := by rw [HL.out, hnone]; rfl
          have HTOK := Lib.hid htok; have HE1 := Lib.hid e1; have HE2 := Lib.hid e2
          clear e1 e2 hnone hcons htok ht hdc
          go_wp2_with (go_at_call 31; refine (HTOK.out _ HWK.out).mono ?_; rintro e w3 ⟨⟨k, X, Y, A, m, c, em, rfl⟩, hf3⟩)
          go_ret2
          refine ⟨.slice none 0 0, by rw [HE1.out]; rfl, by rw [HE2.out]; exact OwnI.nil_ _ _ _ _ _ _, ?_⟩
          exact (HF.out.trans_new hf3 (fun i e => .inr (by rw [show i = G from e, HG.out]; exact Nat.le_refl _))).alloc _
        | some x =>
          obtain ⟨t, rest⟩ := x
          rw [ht] at hcons htok
          have hls := tokP_less (hdc ▸ ht)
          rw [← hdc] at hls
          have HTOK := Lib.hid htok; have HCONS := Lib.hid hcons; have HLS := Lib.hid hls
          clear hcons htok ht hdc hls
          go_wp2_with (first
            | (go_at_call 31; refine (HTOK.out _ HWK.out).mono ?_; rintro e w3 ⟨⟨X, Y, A, m, c, b, rfl, hX, hY, hrd, hw3, hd3⟩, hf3⟩; have hsz3 := hf3.size; have hfa : Fr No w3 (w3.alloc (.cells #[.int .i64 t.kind, .string X, .string Y, .slice A m c, .bool t.empty] 68)) := (Fr.refl No w3).alloc _; have hou := (HOWN.out.fr tok_ok hf3 (fun i hi e => absurd (show i = G from e) (by have := (HN.out i hi).1; omega)) (fun i hi e => absurd (show i = G from e) (by have := (HLT.out i hi).1; omega))).no tok_ok hfa; have hszu := hfa.size)
            | (at_builtin; go_must (refine ap_tok1 (w3.alloc (.cells #[.int .i64 t.kind, .string X, .string Y, .slice A m c, .bool t.empty] 68)) rfl (.tmp 33) (.tmp 35) rfl (G + 1) (.slice VA n vc) n ts N (fun i => wr.heap.size ≤ i ∧ i < w3.heap.size) rfl hou t [.int .i64 t.kind, .string X, .string Y, .slice A m c, .bool t.empty] ⟨X, Y, A, m, c, rfl, hX, hY, hrd.no attr_ok hfa⟩ _ _ (by simp) rfl (by omega) (by omega) (fun i hi => (HN.out i hi).2.2) (fun i hi e => by have := (HLT.out i e).2; omega) ?_); intro v4 w4 ho4 hg4 hr4))
          have hfv : Fr (fun i => (Value.slice VA n vc).ownBlock = some i) w3 w4 := ((hfa.no.alloc _).grown hg4 (fun g e => .inl e))
          have hw4 := hw3.fr hfv (fun e => by have := (HLT.out G e).1; omega)
          have hsz4 := hfv.size
          have hsg : (w3.alloc (.cells #[.int .i64 t.kind, .string X, .string Y, .slice A m c, .bool t.empty] 68)).heap.size = w3.heap.size + 1 := by simp
          have hbp : p < b := by
            have h1 := HLS.out
            rw [← hd3, List.length_drop, List.length_drop, size_list] at h1
            omega
          go_roundw
          case rel =>
            refine ⟨b, ts ++ [t], n + 1, _, by rw [List.length_append, HNN.out]; rfl, hw4, ho4, fun i hi => ?_, by omega, by rw [HTO.out, HCONS.out, hd3, Option.map_map]; congr 1; funext z; simp, ?_, by omega⟩
            · have hv : ∀ i, i < w3.heap.size → (Value.slice VA n vc).ownBlock ≠ some i → v4.ownBlock ≠ some i := fun i hi hne e => by
                rcases hr4 with h | h
                · exact hne (by rw [← h, e])
                · rw [h, hsg] at e
                  injection e with e
                  omega
              rcases hi with hi | hi
              · obtain ⟨h1, h2, h3⟩ := HN.out i hi
                exact ⟨h1, by omega, hv i (by omega) h3⟩
              · exact ⟨by omega, by omega, hv i hi.2 (fun e => by have := (HLT.out i e).2; omega)⟩
            · have h13 := HF.out.trans_new hf3 (fun i e => .inr (by rw [show i = G from e, HG.out]; exact Nat.le_refl _))
              exact h13.trans_new hfv (fun i e => .inr (by rw [HG.out]; have := (HLT.out i e).1; omega))
          case measure =>
            have h1 := HPOS.out
            have h2 := hw4.pos
            omega
      · obtain rfl : p = S.size := by omega
        have hpI : ¬ (S.size : Int) < (S.size : Int) := by omega
        have hto : toksV (S.data.toList.drop p0) = some ts := by
          rw [HTO.out, List.drop_eq_nil_of_le (by rw [HSL.out]; exact Nat.le_refl _), toksV_nil]
          simp
        have e1 : tokE S.data.toList = 0 := by rw [HE.out, hto]; rfl
        have e2 : tokL S.data.toList = ts := by rw [HL.out, hto]; rfl
        have HE1 := Lib.hid e1; have HE2 := Lib.hid e2
        clear e1 e2 hto
        go_wp2
        go_ret2
        refine ⟨.slice VA n vc, by rw [HE1.out]; rfl, ?_, HF.out⟩
        rw [HE2.out, ← HNN.out]
        exact OwnI.low tok_ok (HOWN.out.mono tok_ok (fun i hi => by obtain ⟨h1, h2, h3⟩ := HN.out i hi; rw [HG.out]; exact ⟨by omega, h2⟩)) (by rw [HG.out]; omega)
end Go.Proofs.YtbfodbejdaafaaaGreatDoor
/- Tokens are never more than their text. -/
namespace Go.Proofs.YtbfodbejdaafaaaGreatDoor
set_option linter.unusedVariables false

theorem enc_le4 (c : Nat) : (encL (c : Int)).length ≤ 4 := by
  by_cases h : 1114111 < c ∨ (55296 ≤ c ∧ c ≤ 57343)
  · rw [enc_bad h]; decide
  · exact (enc_size (by omega) (by omega)).2.2.1
theorem ent_len2 {s x : List UInt8} (h : entV s = some x) : x.length ≤ s.length + 2 := by
  unfold entV at h
  split at h
  · injection h with h; subst h; simp
  split at h
  · injection h with h; subst h; simp
  split at h
  · injection h with h; subst h; simp
  split at h
  · injection h with h; subst h; simp
  split at h
  · injection h with h; subst h; simp
  simp only at h
  split at h
  · cases h
  · rename_i v hv
    split at h
    · injection h with h
      subst h
      have h4 := enc_le4 v
      have : 2 ≤ s.length := by
        split at hv
        · omega
        · split at hv
          · omega
          · cases hv
      omega
    · cases h
theorem whl_len (q : UInt8 → Bool) : ∀ l : List UInt8, (l.takeWhile q).length + (l.dropWhile q).length = l.length := fun l => by
  rw [← List.length_append, List.takeWhile_append_dropWhile]
theorem vlF_len : ∀ (f : Nat) (l v : List UInt8), valF f l = some v → v.length ≤ l.length
  | f, [], v, h => by
    have : v = [] := by cases f <;> (injection h with h; exact h.symm)
    rw [this]; exact Nat.le_refl _
  | 0, _ :: _, v, h => by cases h
  | f + 1, c :: r, v, h => by
    unfold valF at h
    split at h
    · rw [Option.map_eq_some_iff] at h
      obtain ⟨u, hu, rfl⟩ := h
      have := vlF_len f r u hu
      simp only [List.length_cons]
      omega
    · split at h
      · cases h
      · rename_i x rest he
        have hw := whl_len (fun b => decide (b.toNat ≠ 59)) r
        rw [he] at hw
        split at h
        · cases h
        · rename_i y hy
          rw [Option.map_eq_some_iff] at h
          obtain ⟨u, hu, rfl⟩ := h
          have h1 := vlF_len f rest u hu
          have h2 := ent_len2 hy
          simp only [List.length_cons, List.length_append] at hw ⊢
          omega
theorem opF_len : ∀ (f : Nat) (name : List UInt8) (attrs : List (List UInt8 × List UInt8)) (l : List UInt8) (t : Tok) (rest : List UInt8), openF f name attrs l = some (t, rest) → t.text = [] ∧ t.attrs.length ≤ attrs.length + f
  | 0, _, _, _, _, _, h => by cases h
  | f + 1, name, attrs, l, t, rest, h => by
    unfold openF at h
    split at h
    · simp only [Option.some.injEq, Prod.mk.injEq] at h
      rw [← h.1]
      exact ⟨rfl, by simp only; omega⟩
    split at h
    · simp only [Option.some.injEq, Prod.mk.injEq] at h
      rw [← h.1]
      exact ⟨rfl, by simp only; omega⟩
    split at h
    · cases h
    split at h
    · cases h
    rename_i x r h1
    obtain ⟨h2, h3⟩ := opF_len f name _ r t rest h
    simp only [List.length_append, List.length_cons, List.length_nil] at h3
    exact ⟨h2, by omega⟩
theorem tkP_len {c : UInt8} {r rest : List UInt8} {t : Tok} (h : tokP (c :: r) = some (t, rest)) : t.text.length + rest.length ≤ (c :: r).length ∧ t.attrs.length ≤ (c :: r).length := by
  have hless := tokP_less h
  unfold tokP at h
  split at h
  · split at h
    · cases h
    · rw [Option.map_eq_some_iff] at h
      obtain ⟨u, _, hu⟩ := h
      simp only [Prod.mk.injEq] at hu
      rw [← hu.1]
      exact ⟨by simp only [List.length_nil]; omega, by simp⟩
  · split at h
    · rename_i l1 h1
      have e1 := (isP_len h1).2
      split at h
      · cases h
      · obtain ⟨h2, h3⟩ := opF_len _ _ _ _ _ _ h
        simp only [List.length_cons, List.length_nil] at e1 h3 hless ⊢
        rw [h2]
        exact ⟨by simp only [List.length_nil]; omega, by omega⟩
    · rw [Option.map_eq_some_iff] at h
      obtain ⟨u, hu, hh⟩ := h
      simp only [Prod.mk.injEq] at hh
      rw [← hh.1, ← hh.2]
      have h1 := vlF_len _ _ _ hu
      have h2 := whl_len (fun c : UInt8 => decide (c.toNat ≠ 60)) (c :: r)
      exact ⟨by simp only; omega, by simp⟩
theorem toks_small : ∀ (n : Nat) (l : List UInt8) (ts : List Tok), l.length ≤ n → toksV l = some ts → sumT ts ≤ l.length ∧ ts.length ≤ l.length ∧ ∀ t ∈ ts, t.attrs.length ≤ l.length
  | _, [], ts, _, h => by
    rw [toksV_nil] at h
    injection h with h
    subst h
    exact ⟨Nat.le_refl _, Nat.le_refl _, fun t ht => by cases ht⟩
  | 0, _ :: _, _, hn, _ => by simp at hn
  | n + 1, c :: r, ts, hn, h => by
    rw [toksV_cons] at h
    cases ht : tokP (c :: r) with
    | none => rw [ht] at h; cases h
    | some x =>
      obtain ⟨t, rest⟩ := x
      rw [ht] at h
      simp only [Option.map_eq_some_iff] at h
      obtain ⟨us, hu, rfl⟩ := h
      have h1 := tokP_less ht
      obtain ⟨h2, h3⟩ := tkP_len ht
      simp only [List.length_cons] at hn h1 h2 h3 ⊢
      obtain ⟨i1, i2, i3⟩ := toks_small n rest us (by omega) hu
      have e1 : sumT (t :: us) = t.text.length + sumT us := by unfold sumT; simp
      rw [e1]
      refine ⟨by omega, by omega, fun u hm => ?_⟩
      rcases List.mem_cons.1 hm with rfl | hm
      · exact h3
      · have := i3 u hm; omega
theorem bdy_len (l : List UInt8) : (bodyL l).length ≤ l.length := by
  unfold bodyL
  cases hp : isP prologL l with
  | none => exact Nat.le_refl _
  | some r => have := (isP_len hp).2; rw [Option.getD_some]; omega
theorem tokL_small (l : List UInt8) (hl : l.length ≤ 65536) : sumT (tokL l) ≤ 65536 ∧ (tokL l).length ≤ 65536 ∧ ∀ t ∈ tokL l, t.attrs.length ≤ 65536 := by
  unfold tokL
  split
  · cases h : toksV (bodyL l) with
    | none => exact ⟨by simp [sumT], by simp, fun t ht => by cases ht⟩
    | some ts =>
      have hb := bdy_len l
      obtain ⟨h1, h2, h3⟩ := toks_small _ _ _ (Nat.le_refl _) h
      rw [Option.getD_some]
      exact ⟨by omega, by omega, fun t ht => by have := h3 t ht; omega⟩
  · exact ⟨by simp [sumT], by simp, fun t ht => by cases ht⟩
end Go.Proofs.YtbfodbejdaafaaaGreatDoor
