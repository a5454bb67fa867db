/- What package token does: a contract of its call. -/
import Derived.Test.YthkjmbkfcnehoaaGreatDoorTokS
namespace Go.Proofs.YthkjmbkfcnehoaaGreatDoor
open Go.RowKit
set_option maxHeartbeats 400000
set_option linter.unusedVariables false

/-- the next step: which it is, and what it will leave -/
def NextEnd (g : Nat) (r : Option (Tok × List UInt8)) (e : Ending) (w' : World) : Prop := ∃ (f : FuncId) (L : List UInt8), e = .returned (.func (.func f) #[.pointer (some ⟨g, 0, none⟩)] #[]) ∧ (∀ args w, (callFunc f args).run Tryz.prog w = .ok (.enter f args) w) ∧
    (∀ u, Wk u g L → Tg u g → Calls Tryz.prog f #[.pointer (some ⟨g, 0, none⟩)] u fun e w' => StepEnd g u.heap.size r e w' ∧ Fr (Just g) u w') ∧ Wk w' g L
theorem w_next (g : Nat) (L : List UInt8) (w : World) (h : Wk w g L) :
    Calls Tryz.prog 36 #[.pointer (some ⟨g, 0, none⟩)] w fun e w' => NextEnd g (tokP L) e w' ∧ Fr (Just g) w w' := by
  have hp1 : Calls Tryz.prog 54 #[.pointer (some ⟨g, 0, none⟩), .string ⟨#[60, 47]⟩] w fun e w' => e = .returned (.bool (isP [60, 47] L).isSome) ∧ Wk w' g ((isP [60, 47] L).getD L) ∧ Fr (Just g) w w' := w_pass ⟨#[60, 47]⟩ g L w h
  have hp2 : ∀ u, Wk u g L → Calls Tryz.prog 54 #[.pointer (some ⟨g, 0, none⟩), .string ⟨#[60]⟩] u fun e w' => e = .returned (.bool (isP [60] L).isSome) ∧ Wk w' g ((isP [60] L).getD L) ∧ Fr (Just g) u w' := fun u hu => w_pass ⟨#[60]⟩ g L u hu
  have tok1 : True := trivial
  cases h0 : isP [60, 47] L with
  | some l1 =>
    rw [h0] at hp1
    have hend : ∀ u, Wk u g l1 → Tg u g → Calls Tryz.prog 55 #[.pointer (some ⟨g, 0, none⟩)] u fun e w' => StepEnd g u.heap.size (tokP L) e w' ∧ Fr (Just g) u w' := by
      intro u hu _
      rw [tokP_close h0]
      exact w_closing g l1 u hu
    have HP1 := Lib.hid hp1; have HEND := Lib.hid hend
    generalize tokP L = r at HEND ⊢
    clear hp1 hp2 h0 hend h
    go_enter Tryz.func36, Tryz.ntmps36
    go_wp2_with (go_at_call 54; refine HP1.out.mono ?_; rintro e w1 ⟨rfl, hw1, hf1⟩)
    go_ret
    exact ⟨⟨_, l1, rfl, fun _ _ => by kernel_rfl, HEND.out, hw1⟩, hf1⟩
  | none =>
    rw [h0] at hp1
    cases h1 : isP [60] L with
    | some l1 =>
      have hp2' := hp2
      rw [h1] at hp2'
      have hend : ∀ u, Wk u g l1 → Tg u g → Calls Tryz.prog 56 #[.pointer (some ⟨g, 0, none⟩)] u fun e w' => StepEnd g u.heap.size (tokP L) e w' ∧ Fr (Just g) u w' := by
        intro u hu hu2
        have e1 : (if nameOk (l1.takeWhile isWi) then openV (l1.takeWhile isWi) [] (l1.dropWhile isWi) else none) = (if bgB isFi l1 then openV (nameR l1) [] (l1.dropWhile isWi) else none) := by
          unfold nameR
          rw [bg_name]
          cases bgB isFi l1 <;> rfl
        rw [tokP_open h0 h1, e1]
        exact w_opening g l1 u hu hu2
      have HP1 := Lib.hid hp1; have HP2 := Lib.hid hp2'; have HEND := Lib.hid hend
      generalize tokP L = r at HEND ⊢
      clear hp1 hp2 hp2' h0 h1 hend h
      go_enter Tryz.func36, Tryz.ntmps36
      go_wp2_with (first
        | (go_at_call 54; clear tok1; refine HP1.out.mono ?_; rintro e w1 ⟨rfl, hw1, hf1⟩)
        | (go_at_call 54; refine (HP2.out _ hw1).mono ?_; rintro e w2 ⟨rfl, hw2, hf2⟩))
      go_ret
      exact ⟨⟨_, l1, rfl, fun _ _ => by kernel_rfl, HEND.out, hw2⟩, hf1.trans hf2⟩
    | none =>
      have hp2' := hp2
      rw [h1] at hp2'
      have hend : ∀ u, Wk u g L → Tg u g → Calls Tryz.prog 57 #[.pointer (some ⟨g, 0, none⟩)] u fun e w' => StepEnd g u.heap.size (tokP L) e w' ∧ Fr (Just g) u w' := by
        intro u hu hu2
        rw [tokP_text h0 h1]
        exact w_loose g L u hu hu2
      have HP1 := Lib.hid hp1; have HP2 := Lib.hid hp2'; have HEND := Lib.hid hend
      generalize tokP L = r at HEND ⊢
      clear hp1 hp2 hp2' h0 h1 hend h
      go_enter Tryz.func36, Tryz.ntmps36
      go_wp2_with (first
        | (go_at_call 54; clear tok1; refine HP1.out.mono ?_; rintro e w1 ⟨rfl, hw1, hf1⟩)
        | (go_at_call 54; refine (HP2.out _ hw1).mono ?_; rintro e w2 ⟨rfl, hw2, hf2⟩))
      go_ret
      exact ⟨⟨_, L, rfl, fun _ _ => by kernel_rfl, HEND.out, hw2⟩, hf1.trans hf2⟩

set_option maxRecDepth 100000 in
theorem tokens_any (S : ByteArray) (w : World) (hs : S.size ≤ 65536) (hT : Tabs w := by repeat' first | with_reducible assumption | with_reducible apply Tabs.drew | with_reducible apply Tabs.drewN | with_reducible apply Tabs.alloc | refine Tabs.fr ?_ (by with_reducible assumption) | refine Tabs.dr ?_ (by with_reducible assumption)) :
    Calls Tryz.prog 20 #[.string S] w fun e w' => ∃ v, e = .returned (.tuple #[v, .int .i64 (tokE S.data.toList)]) ∧
      OwnI 5 TokI w' w.heap.size 45 (fun i => w.heap.size ≤ i ∧ i < w'.heap.size) v (tokL S.data.toList).length (tokL S.data.toList) ∧ Fr No w w' := by
  have hsl := size_list S
  by_cases h1 : 4096 < S.size
  · have e1 : tokE S.data.toList = 4 := by unfold tokE; rw [hsl, if_pos h1]
    have e2 : tokL S.data.toList = [] := by unfold tokL; rw [e1]; rfl
    have h1I : (4096 : Int) < (S.size : Int) := by omega
    rw [e1, e2]
    clear e1 e2 hsl
    go_enter Tryz.func20, Tryz.ntmps20
    go_wp2
    go_ret2
    exact ⟨_, rfl, OwnI.nil_ _ _ _ _ _ _, Fr.refl _ _⟩
  have h1I : ¬ (4096 : Int) < (S.size : Int) := by omega
  have hu := text_utf8_any S w hs hT
  cases h2 : utf8B S.data.toList with
  | false =>
    have e1 : tokE S.data.toList = 7 := by unfold tokE; rw [hsl, if_neg h1, h2]; rfl
    have e2 : tokL S.data.toList = [] := by unfold tokL; rw [e1]; rfl
    rw [h2] at hu
    have HU := Lib.hid hu
    rw [e1, e2]
    clear e1 e2 hsl hu h2
    go_enter Tryz.func20, Tryz.ntmps20
    go_wp2_with (go_at_call 34; refine HU.out.mono ?_; rintro e w1 ⟨rfl, hf1⟩)
    go_ret2
    exact ⟨_, rfl, OwnI.nil_ _ _ _ _ _ _, hf1⟩
  | true =>
    rw [h2] at hu
    have HU := Lib.hid hu
    have hE : tokE S.data.toList = if (toksV (bodyL S.data.toList)).isSome then 0 else 9 := by unfold tokE; rw [hsl, if_neg h1, h2]; rfl
    have hL : tokL S.data.toList = (toksV (bodyL S.data.toList)).getD [] := by
      unfold tokL
      rw [hE]
      cases toksV (bodyL S.data.toList) <;> rfl
    have htr : ∀ u, Calls Tryz.prog 35 #[.string S, .string ⟨#[60, 63, 120, 109, 108, 32, 118, 101, 114, 115, 105, 111, 110, 61, 34, 49, 46, 48, 34, 32, 101, 110, 99, 111, 100, 105, 110, 103, 61, 34, 85, 84, 70, 45, 56, 34, 63, 62]⟩] u fun e w' => e = .returned (.string (bstr (bodyL S.data.toList))) ∧ u = w' := by
      intro u
      have h3 := Tryz.strings_TrimPrefix S ⟨#[60, 63, 120, 109, 108, 32, 118, 101, 114, 115, 105, 111, 110, 61, 34, 49, 46, 48, 34, 32, 101, 110, 99, 111, 100, 105, 110, 103, 61, 34, 85, 84, 70, 45, 56, 34, 63, 62]⟩ u
      have e3 : Lib.trimPrefix S.data.toList prologL = bodyL S.data.toList := by
        unfold bodyL Lib.trimPrefix Lib.hasPrefix isP; split <;> rfl
      have h4 : Calls Tryz.prog 35 #[.string S, .string ⟨#[60, 63, 120, 109, 108, 32, 118, 101, 114, 115, 105, 111, 110, 61, 34, 49, 46, 48, 34, 32, 101, 110, 99, 111, 100, 105, 110, 103, 61, 34, 85, 84, 70, 45, 56, 34, 63, 62]⟩] u fun e w' => e = .returned (.string ⟨(Lib.trimPrefix S.data.toList prologL).toArray⟩) ∧ w' = u := h3
      rw [e3] at h4
      exact h4.mono fun e w' h => ⟨h.1, h.2.symm⟩
    have hbl : (bodyL S.data.toList).length ≤ 65536 := by
      unfold bodyL
      cases hp : isP prologL S.data.toList with
      | none => rw [Option.getD_none, hsl]; exact hs
      | some r => have := (isP_len hp).2; rw [Option.getD_some]; omega
    generalize bodyL S.data.toList = Lb at hE hL htr hbl
    obtain ⟨T, hTT⟩ : ∃ T, bstr Lb = T := ⟨_, rfl⟩
    have hTl : T.data.toList = Lb := by rw [← hTT]; rfl
    rw [hTT] at htr
    have hwk : ∀ u : World, Wk (u.alloc (.cells #[.string T] 77)) u.heap.size Lb := fun u => ⟨T, Bk.new u _ _, hTl, by rw [sz_eq hTl]; exact hbl⟩
    have HE := Lib.hid hE; have HL := Lib.hid hL; have HTR := Lib.hid htr; have HWK0 := Lib.hid hwk; have HTB := Lib.hid hT
    clear hE hL hsl hu h2 htr hTT hTl hwk hT
    go_enter Tryz.func20, Tryz.ntmps20
    go_wp2_with (first
      | (go_at_call 34; refine HU.out.mono ?_; rintro e w1 ⟨rfl, hf1⟩)
      | (go_at_call 35; refine (HTR.out _).mono ?_; rintro e w' ⟨rfl, rfl⟩; have hw2 := HWK0.out w1; have hf2 : Fr No w1 (w1.alloc (.cells #[.string T] 77)) := (Fr.refl No w1).alloc _))
    obtain ⟨G, hG⟩ : ∃ G, w1.heap.size = G := ⟨_, rfl⟩
    have hwG : w.heap.size ≤ G := by rw [← hG]; exact hf1.size
    have hTw : Tg (w1.alloc (.cells #[.string T] 77)) G := ⟨w, HTB.out, hwG, (hf1.trans hf2).mono (fun i x => x.elim)⟩
    have hf02 : Fr No w (w1.alloc (.cells #[.string T] 77)) := hf1.trans hf2
    have hG2 : G < (w1.alloc (.cells #[.string T] 77)).heap.size := by simp; omega
    rw [hG] at hw2
    simp only [hG]
    have HG := Lib.hid hG; have HW2 := Lib.hid hw2; have HF02 := Lib.hid hf02; have HTW := Lib.hid hTw
    clear hw2 hf02 hf2 hG hf1 hTw HTB
    generalize w1.alloc (.cells #[.string T] 77) = w2 at HW2 HF02 HTW hG2 ⊢
    go_loopw [4] (fun lv wr => ∃ (D : List UInt8) (ts : List Tok) (n : Nat) (N : Nat → Prop), n = ts.length ∧ Wk wr G D ∧ OwnI 5 TokI wr (G + 1) 45 N lv n ts ∧ (∀ i, N i → G < i ∧ i < wr.heap.size ∧ lv.ownBlock ≠ some i) ∧ n + D.length ≤ 65536 ∧ toksV Lb = (toksV D).map (ts ++ ·) ∧ Fr No w wr ∧ G < wr.heap.size ∧ Tg wr G) (fun _ wr => leftOf wr G)
    case atStart => exact ⟨Lb, [], 0, No, rfl, HW2.out, OwnI.nil_ _ _ _ _ _ _, fun _ x => x.elim, by omega, by simp, HF02.out, hG2, HTW.out⟩
    case round =>
      obtain ⟨D, ts, n, N, hn, hwk, hown, hN, hnp, hto, hf, hGr, hTg⟩ := hrel
      have hlf := hwk.left
      obtain ⟨Z, hbZ, hZ, hsZ⟩ := id hwk
      have c0 : wr.cell? ⟨G, 0, none⟩ = some (.string Z) := hbZ.cell 0
      have hlt := hown.lt
      have hvs : ∃ A c, u4 = .slice A n c := by obtain ⟨A, c, e, _⟩ := hown.rd' (M := fun _ => True) (fun _ _ => trivial) tok_ok (fun _ _ => trivial); exact ⟨A, c, e⟩
      obtain ⟨VA, vc, rfl⟩ := hvs
      have HNN := Lib.hid hn; have HWK := Lib.hid hwk; have HOWN := Lib.hid hown; have HN := Lib.hid hN; have HTO := Lib.hid hto; have HF := Lib.hid hf; have HLF := Lib.hid hlf; have HLT := Lib.hid hlt; have HTG := Lib.hid hTg
      clear hn hwk hown hN hto hf hlf hlt hTg hbZ hsZ
      cases D with
      | nil =>
        have hZe : (Z.toList == []) = true := by rw [ba_list, hZ]; rfl
        have hto : toksV Lb = some ts := by
          rw [HTO.out, toksV_nil]
          simp
        have e1 : tokE S.data.toList = 0 := by rw [HE.out, hto]; rfl
        have e2 : tokL S.data.toList = ts := by rw [HL.out, hto]; rfl
        have HE1 := Lib.hid e1; have HE2 := Lib.hid e2
        clear e1 e2 hto hZ
        go_wp2
        go_ret2
        refine ⟨.slice VA n vc, by rw [HE1.out]; rfl, ?_, HF.out⟩
        rw [HE2.out, ← HNN.out]
        exact OwnI.low tok_ok (HOWN.out.mono tok_ok (fun i hi => by obtain ⟨h1, h2, h3⟩ := HN.out i hi; exact ⟨by omega, h2⟩)) (by omega)
      | cons b D =>
        have hZe : (Z.toList == []) = false := by rw [ba_list, hZ]; rfl
        have hnx := fun u hu => w_next G (b :: D) u hu
        have hcons := toksV_cons b D
        cases ht : tokP (b :: D) with
        | none =>
          rw [ht] at hcons hnx
          have hnone : toksV Lb = none := by rw [HTO.out, hcons]; rfl
          have e1 : tokE S.data.toList = 9 := by rw [HE.out, hnone]; rfl
          have e2 : tokL S.data.toList = [] := by rw [HL.out, hnone]; rfl
          have HNX := Lib.hid hnx; have HE1 := Lib.hid e1; have HE2 := Lib.hid e2
          clear e1 e2 hnone hcons hnx ht hZ
          go_wp2_with (first
            | (go_at_call 36; refine (HNX.out _ HWK.out).mono ?_; rintro e w3 ⟨⟨F, L3, rfl, hen, hst, hw3⟩, hf3⟩; have hT3 := HTG.out.fr hf3; have HST := Lib.hid hst; clear hst)
            | ((with_reducible refine (HST.out _ hw3 hT3).mono ?_); rintro e w4 ⟨⟨k, X, Y, A, m, c, em, rfl⟩, hf4⟩))
          go_ret2
          refine ⟨.slice none 0 0, by rw [HE1.out]; rfl, by rw [HE2.out]; exact OwnI.nil_ _ _ _ _ _ _, ?_⟩
          exact (HF.out.trans_new (hf3.trans hf4) (fun i e => .inr (by rw [show i = G from e]; exact hwG))).alloc _
        | some x =>
          obtain ⟨t, rest⟩ := x
          rw [ht] at hcons hnx
          have hls := tokP_less ht
          have HNX := Lib.hid hnx; have HCONS := Lib.hid hcons; have HLS := Lib.hid hls
          clear hcons hnx ht hls hZ
          go_wp2_with (first
            | (go_at_call 36; refine (HNX.out _ HWK.out).mono ?_; rintro e w2b ⟨⟨F, L3, rfl, hen, hst, hw2b⟩, hf2b⟩; have hT3 := HTG.out.fr hf2b; have HST := Lib.hid hst; have hsz2 := hf2b.size; clear hst)
            | ((with_reducible refine (HST.out _ hw2b hT3).mono ?_); rintro e w3 ⟨⟨X, Y, A, m, c, rfl, hX, hY, hrd, hw3⟩, hf3b⟩; have hf3 := hf2b.trans hf3b; have hsz3 := hf3b.size; have hfa : Fr No w3 (w3.alloc (.cells #[.int .i64 t.kind, .string X, .string Y, .slice A m c, .bool t.empty] 45)) := (Fr.refl No w3).alloc _; have hou := (HOWN.out.fr tok_ok hf3 (fun i hi e => absurd (show i = G from e) (by have := (HN.out i hi).1; omega)) (fun i hi e => absurd (show i = G from e) (by have := (HLT.out i hi).1; omega))).no tok_ok hfa; have hszu := hfa.size)
            | (at_builtin; go_must (refine ap_tok1 (w3.alloc (.cells #[.int .i64 t.kind, .string X, .string Y, .slice A m c, .bool t.empty] 45)) rfl (.tmp 29) (.tmp 31) rfl (G + 1) (.slice VA n vc) n ts N (fun i => w2b.heap.size ≤ i ∧ i < w3.heap.size) rfl hou t [.int .i64 t.kind, .string X, .string Y, .slice A m c, .bool t.empty] ⟨X, Y, A, m, c, rfl, hX, hY, hrd.no attr_ok hfa⟩ _ _ (by simp) rfl (by omega) (by omega) (fun i hi => (HN.out i hi).2.2) (fun i hi e => by have := (HLT.out i e).2; omega) ?_); intro v4 w4 ho4 hg4 hr4))
          have hfv : Fr (fun i => (Value.slice VA n vc).ownBlock = some i) w3 w4 := ((hfa.no.alloc _).grown hg4 (fun g e => .inl e))
          have hw4 := hw3.fr hfv (fun e => by have := (HLT.out G e).1; omega)
          have hsz4 := hfv.size
          have hsg : (w3.alloc (.cells #[.int .i64 t.kind, .string X, .string Y, .slice A m c, .bool t.empty] 45)).heap.size = w3.heap.size + 1 := by simp
          have hls := HLS.out
          simp only [List.length_cons] at hls hnp
          have h14 := (HF.out.trans_new hf3 (fun i e => .inr (by rw [show i = G from e]; exact hwG))).trans_new hfv (fun i e => .inr (by have := (HLT.out i e).1; omega))
          have hT4 : Tg w4 G := by
            obtain ⟨w0, a0, b0, c0⟩ := HTG.out
            refine ⟨w0, a0, b0, (c0.trans (hf3.mono (fun i hi => by rw [show i = G from hi]; exact b0))).trans_new hfv (fun i e => .inl (by have := (HLT.out i e).1; omega))⟩
          go_roundw
          case rel =>
            refine ⟨rest, ts ++ [t], n + 1, _, by rw [List.length_append, HNN.out]; rfl, hw4, ho4, fun i hi => ?_, by omega, by rw [HTO.out, HCONS.out, Option.map_map]; congr 1; funext z; simp, h14, by omega, hT4⟩
            have hv : ∀ i, i < w3.heap.size → (Value.slice VA n vc).ownBlock ≠ some i → v4.ownBlock ≠ some i := fun i hi hne e => by
              rcases hr4 with h | h
              · exact hne (by rw [← h, e])
              · rw [h, hsg] at e
                injection e with e
                omega
            rcases hi with hi | hi
            · obtain ⟨h1, h2, h3⟩ := HN.out i hi
              exact ⟨h1, by omega, hv i (by omega) h3⟩
            · exact ⟨by omega, by omega, hv i hi.2 (fun e => by have := (HLT.out i e).2; omega)⟩
          case measure => rw [hw4.left, HLF.out]; exact HLS.out
end Go.Proofs.YthkjmbkfcnehoaaGreatDoor
