/- TreeTexts: texts of an element are one, in order; blanks between elements are none: the walk, for every list of texts. (Its two walks are written by gen_txtwalk.py.) -/
import Derived.Test.YtdgfpjekahpggaaGreatDoorTreeMany
import Derived.Test.YtdgfpjekahpggaaGreatDoorMathA
import Derived.Test.YtdgfpjekahpggaaGreatDoorRefBlank
import Derived.Deep.Strs
namespace Go.Proofs.YtdgfpjekahpggaaGreatDoor
open Go.RowKit
set_option maxHeartbeats 400000
set_option linter.unusedVariables false

/-- a list of texts that came in -/
theorem open_txts {H : Type} {enc : TypeId × Value → H} {P : Program} {W : World} {b0 : Nat} {t e : TypeId} {v : Value} {d : DataW H} {p : List MemPlace}
    (ht : P.underlying t = some (.slice e)) (he : P.underlying e = some .string) (hc : P.cellsOf e = 1)
    (hval : Value.okWide P W .any b0 t v) (h : DataW.Trod enc P W 0 (fun _ => true) true t v d p) : ∃ A n c l, v = .slice A n c ∧ Rd W A n c (strs l) ∧ ∀ s ∈ l, s.size ≤ maxLen := by
  obtain ⟨a0, len, cap, rfl⟩ := WideShapes.okWide_slice ht hval
  obtain ⟨fuel, hf⟩ := h
  rcases Deep.open_strs ht he hc hf with ⟨hcs, _⟩ | ⟨a, len', cap', m, B, hcs, _, hl, hm, hme, _, hcell⟩
  · simp [Value.cells] at hcs
    obtain ⟨rfl, rfl, rfl⟩ := hcs
    exact ⟨none, 0, 0, [], rfl, Rd.nil_ W, fun s h => by cases h⟩
  · simp [Value.cells] at hcs
    obtain ⟨rfl, rfl, rfl⟩ := hcs
    have hlm : len ≤ m := by rw [hme]; split <;> omega
    refine ⟨some a, len, cap, (List.range len).map B, rfl, ⟨by simp [strs], hl, hm, (fun e => nomatch e), ?_⟩, ?_⟩
    · intro ad e j u hu
      injection e with e
      subst e
      unfold strs at hu
      rw [List.getElem?_map, List.getElem?_map] at hu
      by_cases hj : j < len
      · rw [List.getElem?_range hj] at hu
        simp only [Option.map_some, Option.some.injEq] at hu
        rw [← hu, (hcell j (by omega)).1]
      · rw [List.getElem?_eq_none (by simp; omega)] at hu
        simp at hu
    · intro s hs
      obtain ⟨j, hj, rfl⟩ := List.mem_map.1 hs
      exact (hcell j (by have := List.mem_range.1 hj; omega)).2
theorem str_get (l : List ByteArray) (k : Nat) (h : k < l.length) : (strs l)[k]? = some (.string l[k]) := by simp [strs, h]
def txtL (l : List ByteArray) (k : Nat) : List (List UInt8) := (l.take k).map (fun s => s.data.toList)
theorem txtL_zero (l : List ByteArray) : txtL l 0 = [] := rfl
theorem txtL_succ (l : List ByteArray) (k : Nat) (h : k < l.length) : txtL l (k + 1) = txtL l k ++ [l[k].data.toList] := by unfold txtL; rw [List.take_succ_eq_append_getElem h, List.map_append]; rfl
theorem txtL_len (l : List ByteArray) (k : Nat) (h : k ≤ l.length) : (txtL l k).length = k := by unfold txtL; simp; omega
theorem textsT_app (kids : Bool) (a b : List (List UInt8)) : textsT kids (a ++ b) = textsT kids a ++ textsT kids b := by simp [textsT]
theorem textsT_one (kids : Bool) (t : List UInt8) : textsT kids [t] = textT kids t := by simp [textsT]
theorem inkL_app (a b : List (List UInt8)) : inkL (a ++ b) = (inkL a || inkL b) := by simp [inkL]
theorem inkL_one (t : List UInt8) : inkL [t] = !blankB t := by simp [inkL]
theorem textsT_len (kids : Bool) : ∀ l : List (List UInt8), (textsT kids l).length = (if kids then 2 * l.length else l.length)
  | [] => by cases kids <;> rfl
  | t :: r => by
    have e : textsT kids (t :: r) = textT kids t ++ textsT kids r := rfl
    rw [e, List.length_append, textsT_len kids r]
    cases kids <;> simp [textT] <;> omega
theorem textsT_in (kids : Bool) (B : Nat) : ∀ l : List (List UInt8), (∀ t ∈ l, t.length ≤ B) → sumT (textsT kids l) ≤ l.length * B ∧ ∀ t ∈ textsT kids l, t.attrs = []
  | [], _ => ⟨by simp [textsT, sumT], fun t h => by simp [textsT] at h⟩
  | t :: r, h => by
    obtain ⟨h1, h2⟩ := textsT_in kids B r (fun x hx => h x (by simp [hx]))
    have e : textsT kids (t :: r) = textT kids t ++ textsT kids r := rfl
    have h3 : sumT (textT kids t) = t.length := by cases kids <;> simp [textT, sumT, xT, oB]
    have h4 := h t (by simp)
    refine ⟨?_, ?_⟩
    · rw [e, sumT_app, h3, List.length_cons, Nat.succ_mul]; omega
    · intro x hx
      rw [e] at hx
      rcases List.mem_append.1 hx with hx | hx
      · cases kids <;> simp [textT] at hx
        · rw [hx]; rfl
        · rcases hx with hx | hx <;> rw [hx] <;> rfl
      · exact h2 x hx
theorem txt_flat_len : ∀ (l : List (List UInt8)), (∀ t ∈ l, t.length ≤ 50) → l.flatten.length ≤ l.length * 50
  | [], _ => by simp
  | t :: r, h => by
    have h1 := txt_flat_len r (fun x hx => h x (by simp [hx]))
    have h2 := h t (by simp)
    rw [List.flatten_cons, List.length_append, List.length_cons, Nat.succ_mul]
    omega
theorem len0_text {w : World} {N : Nat → Prop} {A : Option Addr} {n c : Nat} {L : List Nod} (h : RdI 4 NodI w N A n c L) {t : List UInt8} (ht : (L[0]?).map (·.text) = some t) : ∃ ad Y, A = some ad ∧ w.cell? ⟨ad.block, ad.off + 2, none⟩ = some (.string Y) ∧ Y.data.toList = t := by
  obtain ⟨ad, Y, rfl, hc, hY⟩ := nod_text h ht
  rw [show ad.add (0 * 4) = ad from by simp [Addr.add]] at hc
  exact ⟨ad, Y, rfl, hc, hY⟩

/-- a row of one bare token, just laid -/
theorem one_tok (w : World) (k : Int) (x : UInt8) (em : Bool) : OwnI 5 TokI (w.alloc (.cells #[.int .i64 k, .string ⟨#[x]⟩, .string ⟨#[]⟩, .slice none 0 0, .bool em] 43)) w.heap.size 43 No (.slice (some ⟨w.heap.size, 0, none⟩) 1 1) 1 [⟨k, [x], [], [], em⟩] :=
  ⟨⟨_, World.ownsRow_lit w #[.int .i64 k, .string ⟨#[x]⟩, .string ⟨#[]⟩, .slice none 0 0, .bool em] 1 (Nat.le_refl _) (by simp [maxLen]) rfl, ItemsF.single (bare_cells _ k x em)⟩⟩

theorem own_rdT {w : World} {base n c : Nat} {e : TypeId} {A : Option Addr} {ts : List Tok} (h : OwnI 5 TokI w base e No (.slice A n c) n ts) : RdI 5 TokI w (fun i => i < w.heap.size) A n c ts := by
  obtain ⟨A9, c9, e9, hr9⟩ := (h.mono tok_ok (M := fun i => i < w.heap.size) (fun i x => x.elim)).rd (fun i h1 h2 => h2)
  injection e9 with e9 _ e9'
  subst e9 e9'
  exact hr9
theorem inT_small (kids : Bool) (l : List (List UInt8)) (h : ∀ t ∈ l, t.length ≤ 50) (hl : l.length ≤ 20) : sumT (inT kids l) ≤ 500000000 ∧ ∀ t ∈ inT kids l, t.attrs.length ≤ 1000000 := by
  obtain ⟨h1, h2⟩ := textsT_in kids 50 l h
  have e : inT kids l = [oA] ++ textsT kids l ++ [cA] := rfl
  refine ⟨?_, fun t ht => ?_⟩
  · rw [e, sumT_app, sumT_app, sumT_one, sumT_one]
    show 0 + _ + 0 ≤ _
    have h3 : l.length * 50 ≤ 20 * 50 := Nat.mul_le_mul_right _ hl
    omega
  · rw [e] at ht
    have h3 : t.attrs = [] := by
      rcases List.mem_append.1 ht with ht | ht
      · rcases List.mem_append.1 ht with ht | ht
        · rw [List.mem_singleton.1 ht]; rfl
        · exact h2 t ht
      · rw [List.mem_singleton.1 ht]; rfl
    rw [h3]
    exact Nat.zero_le _
theorem inkL_nil : inkL [] = false := rfl

attribute [local irreducible] yielded in
set_option maxHeartbeats 8000000 in
set_option maxRecDepth 20000 in
theorem texts_plain {A : Option Addr} {n c : Nat} {l : List ByteArray} (w : World) (hT : Tabs w) (hl : Rd w A n c (strs l)) (hm : ∀ s ∈ l, s.size ≤ maxLen) : Calls Tryz.prog 6 #[.slice A n c, .bool false] w fun e w' => e = .returned (.bool true) ∧ Fr No w w' := by
  have hn : l.length = n := by simpa [strs] using hl.len
  have HL := Lib.hid hl; have HM := Lib.hid hm; have HN := Lib.hid hn
  clear hl hm hn
  go_enter Tryz.func6, Tryz.ntmps6
  go_wp2
  have hw1 : OwnI 5 TokI (w.alloc (.cells #[.int .i64 1, .string ⟨#[97]⟩, .string ⟨#[]⟩, .slice none 0 0, .bool false] 43)) w.heap.size 43 No (.slice (some ⟨w.heap.size, 0, none⟩) 1 1) 1 [oA] := one_tok w 1 97 false
  have hf1 : Fr No w (w.alloc (.cells #[.int .i64 1, .string ⟨#[97]⟩, .string ⟨#[]⟩, .slice none 0 0, .bool false] 43)) := (Fr.refl No w).alloc _
  go_loopw [5, 6, 7, 8] (fun tv wv kv iv wr => ∃ (k : Nat) (S : ByteArray), iv = .int .i64 (k : Int) ∧ wv = .string S ∧ kv = .bool (inkL (txtL l k)) ∧ S.data.toList = (txtL l k).flatten ∧ k ≤ n ∧ k ≤ 20 ∧ (∀ t ∈ txtL l k, t.length ≤ 50) ∧ OwnI 5 TokI wr w.heap.size 43 No tv (1 + k) (oA :: textsT false (txtL l k)) ∧ Fr No w wr) (fun _ _ _ iv _ => n - (intOf iv).toNat)
  case atStart => exact ⟨0, ⟨#[]⟩, rfl, rfl, rfl, rfl, Nat.zero_le _, Nat.zero_le _, (fun t h => by cases h), hw1, hf1⟩
  case round =>
    clear hw1 hf1
    obtain ⟨k, S, rfl, rfl, rfl, hS, hkn, hk20, h50, hown, hfr⟩ := hrel
    obtain ⟨VA, vc, rfl, -⟩ := hown.rd' (M := fun _ => True) (fun _ _ => trivial) tok_ok (fun _ _ => trivial)
    have hlt := hown.lt
    have hsz := hfr.size
    have hTr : Tabs wr := Tabs.fr hT hfr
    have HOWN := Lib.hid hown; have HFR := Lib.hid hfr; have HLT := Lib.hid hlt; have H50 := Lib.hid h50; have HS := Lib.hid hS; have HT := Lib.hid hT
    clear hown hfr hlt h50 hS hT
    have hSs : S.size ≤ 1000 := by
      have h1 := txt_flat_len _ H50.out
      rw [← HS.out, txtL_len _ _ (by have := HN.out; omega), s_size] at h1
      omega
    by_cases hgo : k < n ∧ k < 20
    · obtain ⟨hlt, hlt20⟩ := hgo
      have hI : (k : Int) < (n : Int) := by omega
      have hI20 : (k : Int) < 20 := by omega
      have hkl : k < l.length := by have := HN.out; omega
      obtain ⟨ad, u, rfl, hu, hc⟩ := (HL.out.no HFR.out).at_ hlt
      rw [str_get l k hkl] at hu
      injection hu with hu
      subst hu
      have hsucc := txtL_succ l k hkl
      have hYm := HM.out _ (List.getElem_mem hkl)
      generalize l[k] = Y at *
      have HSC := Lib.hid hsucc
      clear hsucc
      by_cases hbig : 50 < Y.size
      · have hbI : (50 : Int) < (Y.size : Int) := by omega
        go_wp2_with (go_at_call 8; refine (awake_tree _).mono ?_; rintro e w3 ⟨rfl, hf3⟩)
        go_ret
        exact ⟨rfl, HFR.out.trans hf3⟩
      have hbI : ¬ (50 : Int) < (Y.size : Int) := by omega
      have hcat : ¬ 9223372036854775807 < S.size + Y.size := by omega
      have hq := fun u => r_Blank_any Y u (by omega)
      have HQ := Lib.hid hq
      clear hq hYm
      have had : ad.block < w.heap.size := HL.out.lt (by omega) ad rfl
      have HAD := Lib.hid had
      clear had
      have hsucc : txtL l (k + 1) = txtL l k ++ [Y.data.toList] := HSC.out
      have HK : inkL (txtL l (k + 1)) = (inkL (txtL l k) || !blankB Y.data.toList) := by rw [hsucc, inkL_app, inkL_one]
      have HTT : textsT false (txtL l (k + 1)) = textsT false (txtL l k) ++ textT false Y.data.toList := by rw [hsucc, textsT_app, textsT_one]
      have H5 : ∀ t ∈ txtL l (k + 1), t.length ≤ 50 := by
        intro t ht
        rw [hsucc] at ht
        rcases List.mem_append.1 ht with ht | ht
        · exact H50.out t ht
        · rw [List.mem_singleton.1 ht, s_size]; omega
      have HFL : (S ++ Y).data.toList = (txtL l (k + 1)).flatten := by rw [hsucc, s_app, HS.out]; simp
      have HK := Lib.hid HK; have HTT := Lib.hid HTT; have H5 := Lib.hid H5; have HFL := Lib.hid HFL
      clear hsucc
      generalize inkL (txtL l k) = z at *
      generalize blankB Y.data.toList = bl at *
      cases z with
      | true =>
        go_wp2_with (at_builtin; go_must (refine ap_bare wr rfl (.tmp 30) (.tmp 36) rfl w.heap.size (.slice VA (1 + k) vc) (1 + k) (oA :: textsT false (txtL l k)) rfl HOWN.out 3 ⟨#[]⟩ Y false _ _ rfl rfl (by omega) (by omega) ?_; intro A4 c4 w4 ho4 hf4; have hc4 := hf4.cell (p := ad.add k) hc (fun e => by have h1 := (HLT.out _ e).1; have h2 := HAD.out; rw [blk_add] at h1; omega); have hz4 := hf4.size; have hlt4 := ho4.lt; have HOWN4 := Lib.hid ho4))
        go_roundw
        case rel =>
          refine ⟨k + 1, S ++ Y, by go_num, rfl, ?_, HFL.out, hlt, hlt20, H5.out, ?_, HFR.out.trans_new hf4 (fun i e => .inr (HLT.out i e).1)⟩
          · rw [HK.out]; simp
          · rw [HTT.out]; simpa [textT, xT, oB, oA, Nat.mul_add, Nat.add_assoc] using ho4
        case measure => simp [intOf]; omega
      | false =>
        go_wp2_with (first
          | (at_builtin; go_must (refine ap_bare wr rfl (.tmp 30) (.tmp 36) rfl w.heap.size (.slice VA (1 + k) vc) (1 + k) (oA :: textsT false (txtL l k)) rfl HOWN.out 3 ⟨#[]⟩ Y false _ _ rfl rfl (by omega) (by omega) ?_; intro A4 c4 w4 ho4 hf4; have hc4 := hf4.cell (p := ad.add k) hc (fun e => by have h1 := (HLT.out _ e).1; have h2 := HAD.out; rw [blk_add] at h1; omega); have hz4 := hf4.size; have hlt4 := ho4.lt; have HOWN4 := Lib.hid ho4))
          | (go_at_call 18; refine (HQ.out _).mono ?_; rintro e w9 ⟨rfl, rfl⟩))
        go_roundw
        case rel =>
          refine ⟨k + 1, S ++ Y, by go_num, rfl, ?_, HFL.out, hlt, hlt20, H5.out, ?_, HFR.out.trans_new hf4 (fun i e => .inr (HLT.out i e).1)⟩
          · rw [HK.out]; simp
          · rw [HTT.out]; simpa [textT, xT, oB, oA, Nat.mul_add, Nat.add_assoc] using ho4
        case measure => simp [intOf]; omega
    · have hend : (¬ (k : Int) < (n : Int)) ∨ ((k : Int) < (n : Int) ∧ ¬ (k : Int) < 20) := by omega
      have hlen := txtL_len l k (by have := HN.out; omega)
      obtain ⟨hsm1, hsm2⟩ := inT_small false (txtL l k) H50.out (by omega)
      clear hgo hTr
      have hbu := fun A' c' u (h : RdI 5 TokI u (fun i => i < u.heap.size) A' (1 + k + 1) c' (inT false (txtL l k))) => build_any (inT false (txtL l k)) A' (1 + k + 1) c' u h (by omega) hsm1 hsm2
      obtain ⟨e1, e2⟩ := texts_alone false (txtL l k) (by omega) rfl
      rw [e1, e2] at hbu
      have ht0 : ([(⟨-1, [97], (txtL l k).flatten, []⟩ : Nod)][0]?).map (·.text) = some S.data.toList := by rw [HS.out]; rfl
      have HBU := Lib.hid hbu; have HT0 := Lib.hid ht0
      clear hbu ht0 e1 e2 hsm1 hsm2 hlen
      rcases hend with hI | ⟨hI, hI20⟩
      · have tok1 : True := trivial
        go_wp2_with (first
          | (at_builtin; go_must (refine ap_bare wr rfl (.tmp 59) (.tmp 61) rfl w.heap.size (.slice VA (1 + k) vc) (1 + k) (oA :: textsT false (txtL l k)) rfl HOWN.out 2 ⟨#[97]⟩ ⟨#[]⟩ false _ _ rfl rfl (by omega) (by omega) ?_; intro A5 c5 w5 ho5 hf5; have hT5 : Tabs w5 := Tabs.fr HT.out (HFR.out.trans_new hf5 (fun i e => .inr (HLT.out i e).1)); have HOWN5 := Lib.hid (own_rdT ho5)))
          | (go_at_call 9; refine (HBU.out _ _ _ HOWN5.out).mono ?_; rintro e w2 ⟨v, rfl, ho2, hf2⟩; obtain ⟨A2, c2, rfl, hr2⟩ := nodes_rdl ho2 (m := 1) rfl; obtain ⟨ad2, Y2, rfl, hcY, hY2⟩ := len0_text hr2 HT0.out; obtain rfl := s_eq hY2)
          | (go_at_call 8; refine (awake_tree _).mono ?_; rintro e w3 ⟨rfl, hf3⟩; have hcY3 := hf3.cell hcY (fun x => x)))
        go_ret
        exact ⟨rfl, ((HFR.out.trans_new hf5 (fun i e => .inr (HLT.out i e).1)).trans hf2).trans hf3⟩
      · have tok1 : True := trivial
        go_wp2_with (first
          | (at_builtin; go_must (refine ap_bare wr rfl (.tmp 59) (.tmp 61) rfl w.heap.size (.slice VA (1 + k) vc) (1 + k) (oA :: textsT false (txtL l k)) rfl HOWN.out 2 ⟨#[97]⟩ ⟨#[]⟩ false _ _ rfl rfl (by omega) (by omega) ?_; intro A5 c5 w5 ho5 hf5; have hT5 : Tabs w5 := Tabs.fr HT.out (HFR.out.trans_new hf5 (fun i e => .inr (HLT.out i e).1)); have HOWN5 := Lib.hid (own_rdT ho5)))
          | (go_at_call 9; refine (HBU.out _ _ _ HOWN5.out).mono ?_; rintro e w2 ⟨v, rfl, ho2, hf2⟩; obtain ⟨A2, c2, rfl, hr2⟩ := nodes_rdl ho2 (m := 1) rfl; obtain ⟨ad2, Y2, rfl, hcY, hY2⟩ := len0_text hr2 HT0.out; obtain rfl := s_eq hY2)
          | (go_at_call 8; refine (awake_tree _).mono ?_; rintro e w3 ⟨rfl, hf3⟩; have hcY3 := hf3.cell hcY (fun x => x)))
        go_ret
        exact ⟨rfl, ((HFR.out.trans_new hf5 (fun i e => .inr (HLT.out i e).1)).trans hf2).trans hf3⟩

attribute [local irreducible] yielded in
set_option maxHeartbeats 8000000 in
set_option maxRecDepth 20000 in
theorem texts_kids {A : Option Addr} {n c : Nat} {l : List ByteArray} (w : World) (hT : Tabs w) (hl : Rd w A n c (strs l)) (hm : ∀ s ∈ l, s.size ≤ maxLen) : Calls Tryz.prog 6 #[.slice A n c, .bool true] w fun e w' => e = .returned (.bool true) ∧ Fr No w w' := by
  have hn : l.length = n := by simpa [strs] using hl.len
  have HL := Lib.hid hl; have HM := Lib.hid hm; have HN := Lib.hid hn
  clear hl hm hn
  go_enter Tryz.func6, Tryz.ntmps6
  go_wp2
  have hw1 : OwnI 5 TokI (w.alloc (.cells #[.int .i64 1, .string ⟨#[97]⟩, .string ⟨#[]⟩, .slice none 0 0, .bool false] 43)) w.heap.size 43 No (.slice (some ⟨w.heap.size, 0, none⟩) 1 1) 1 [oA] := one_tok w 1 97 false
  have hf1 : Fr No w (w.alloc (.cells #[.int .i64 1, .string ⟨#[97]⟩, .string ⟨#[]⟩, .slice none 0 0, .bool false] 43)) := (Fr.refl No w).alloc _
  go_loopw [5, 6, 7, 8] (fun tv wv kv iv wr => ∃ (k : Nat) (S : ByteArray), iv = .int .i64 (k : Int) ∧ wv = .string S ∧ kv = .bool (inkL (txtL l k)) ∧ S.data.toList = (txtL l k).flatten ∧ k ≤ n ∧ k ≤ 20 ∧ (∀ t ∈ txtL l k, t.length ≤ 50) ∧ OwnI 5 TokI wr w.heap.size 43 No tv (1 + 2 * k) (oA :: textsT true (txtL l k)) ∧ Fr No w wr) (fun _ _ _ iv _ => n - (intOf iv).toNat)
  case atStart => exact ⟨0, ⟨#[]⟩, rfl, rfl, rfl, rfl, Nat.zero_le _, Nat.zero_le _, (fun t h => by cases h), hw1, hf1⟩
  case round =>
    clear hw1 hf1
    obtain ⟨k, S, rfl, rfl, rfl, hS, hkn, hk20, h50, hown, hfr⟩ := hrel
    obtain ⟨VA, vc, rfl, -⟩ := hown.rd' (M := fun _ => True) (fun _ _ => trivial) tok_ok (fun _ _ => trivial)
    have hlt := hown.lt
    have hsz := hfr.size
    have hTr : Tabs wr := Tabs.fr hT hfr
    have HOWN := Lib.hid hown; have HFR := Lib.hid hfr; have HLT := Lib.hid hlt; have H50 := Lib.hid h50; have HS := Lib.hid hS; have HT := Lib.hid hT
    clear hown hfr hlt h50 hS hT
    have hSs : S.size ≤ 1000 := by
      have h1 := txt_flat_len _ H50.out
      rw [← HS.out, txtL_len _ _ (by have := HN.out; omega), s_size] at h1
      omega
    by_cases hgo : k < n ∧ k < 20
    · obtain ⟨hlt, hlt20⟩ := hgo
      have hI : (k : Int) < (n : Int) := by omega
      have hI20 : (k : Int) < 20 := by omega
      have hkl : k < l.length := by have := HN.out; omega
      obtain ⟨ad, u, rfl, hu, hc⟩ := (HL.out.no HFR.out).at_ hlt
      rw [str_get l k hkl] at hu
      injection hu with hu
      subst hu
      have hsucc := txtL_succ l k hkl
      have hYm := HM.out _ (List.getElem_mem hkl)
      generalize l[k] = Y at *
      have HSC := Lib.hid hsucc
      clear hsucc
      by_cases hbig : 50 < Y.size
      · have hbI : (50 : Int) < (Y.size : Int) := by omega
        go_wp2_with (go_at_call 8; refine (awake_tree _).mono ?_; rintro e w3 ⟨rfl, hf3⟩)
        go_ret
        exact ⟨rfl, HFR.out.trans hf3⟩
      have hbI : ¬ (50 : Int) < (Y.size : Int) := by omega
      have hcat : ¬ 9223372036854775807 < S.size + Y.size := by omega
      have hq := fun u => r_Blank_any Y u (by omega)
      have HQ := Lib.hid hq
      clear hq hYm
      have had : ad.block < w.heap.size := HL.out.lt (by omega) ad rfl
      have HAD := Lib.hid had
      clear had
      have hsucc : txtL l (k + 1) = txtL l k ++ [Y.data.toList] := HSC.out
      have HK : inkL (txtL l (k + 1)) = (inkL (txtL l k) || !blankB Y.data.toList) := by rw [hsucc, inkL_app, inkL_one]
      have HTT : textsT true (txtL l (k + 1)) = textsT true (txtL l k) ++ textT true Y.data.toList := by rw [hsucc, textsT_app, textsT_one]
      have H5 : ∀ t ∈ txtL l (k + 1), t.length ≤ 50 := by
        intro t ht
        rw [hsucc] at ht
        rcases List.mem_append.1 ht with ht | ht
        · exact H50.out t ht
        · rw [List.mem_singleton.1 ht, s_size]; omega
      have HFL : (S ++ Y).data.toList = (txtL l (k + 1)).flatten := by rw [hsucc, s_app, HS.out]; simp
      have HK := Lib.hid HK; have HTT := Lib.hid HTT; have H5 := Lib.hid H5; have HFL := Lib.hid HFL
      clear hsucc
      generalize inkL (txtL l k) = z at *
      generalize blankB Y.data.toList = bl at *
      cases z with
      | true =>
        have tok1 : True := trivial
        go_wp2_with (first
          | (at_builtin; clear tok1; go_must (refine ap_bare wr rfl (.tmp 30) (.tmp 36) rfl w.heap.size (.slice VA (1 + 2 * k) vc) (1 + 2 * k) (oA :: textsT true (txtL l k)) rfl HOWN.out 3 ⟨#[]⟩ Y false _ _ rfl rfl (by omega) (by omega) ?_; intro A4 c4 w4 ho4 hf4; have hc4 := hf4.cell (p := ad.add k) hc (fun e => by have h1 := (HLT.out _ e).1; have h2 := HAD.out; rw [blk_add] at h1; omega); have hz4 := hf4.size; have hlt4 := ho4.lt; have HOWN4 := Lib.hid ho4))
          | (at_builtin; go_must (refine ap_bare w4 rfl (.tmp 54) (.tmp 56) rfl w.heap.size (.slice A4 (1 + 2 * k + 1) c4) (1 + 2 * k + 1) _ rfl HOWN4.out 1 ⟨#[98]⟩ ⟨#[]⟩ true _ _ rfl rfl (by omega) (by omega) ?_; intro A5 c5 w5 ho5 hf5; have HOWN5 := Lib.hid ho5)))
        go_roundw
        case rel =>
          refine ⟨k + 1, S ++ Y, by go_num, rfl, ?_, HFL.out, hlt, hlt20, H5.out, ?_, (HFR.out.trans_new hf4 (fun i e => .inr (HLT.out i e).1)).trans_new hf5 (fun i e => .inr (hlt4 i e).1)⟩
          · rw [HK.out]; simp
          · rw [HTT.out]; simpa [textT, xT, oB, oA, Nat.mul_add, Nat.add_assoc] using ho5
        case measure => simp [intOf]; omega
      | false =>
        have tok1 : True := trivial
        go_wp2_with (first
          | (at_builtin; clear tok1; go_must (refine ap_bare wr rfl (.tmp 30) (.tmp 36) rfl w.heap.size (.slice VA (1 + 2 * k) vc) (1 + 2 * k) (oA :: textsT true (txtL l k)) rfl HOWN.out 3 ⟨#[]⟩ Y false _ _ rfl rfl (by omega) (by omega) ?_; intro A4 c4 w4 ho4 hf4; have hc4 := hf4.cell (p := ad.add k) hc (fun e => by have h1 := (HLT.out _ e).1; have h2 := HAD.out; rw [blk_add] at h1; omega); have hz4 := hf4.size; have hlt4 := ho4.lt; have HOWN4 := Lib.hid ho4))
          | (at_builtin; go_must (refine ap_bare w4 rfl (.tmp 54) (.tmp 56) rfl w.heap.size (.slice A4 (1 + 2 * k + 1) c4) (1 + 2 * k + 1) _ rfl HOWN4.out 1 ⟨#[98]⟩ ⟨#[]⟩ true _ _ rfl rfl (by omega) (by omega) ?_; intro A5 c5 w5 ho5 hf5; have HOWN5 := Lib.hid ho5))
          | (go_at_call 18; refine (HQ.out _).mono ?_; rintro e w9 ⟨rfl, rfl⟩))
        go_roundw
        case rel =>
          refine ⟨k + 1, S ++ Y, by go_num, rfl, ?_, HFL.out, hlt, hlt20, H5.out, ?_, (HFR.out.trans_new hf4 (fun i e => .inr (HLT.out i e).1)).trans_new hf5 (fun i e => .inr (hlt4 i e).1)⟩
          · rw [HK.out]; simp
          · rw [HTT.out]; simpa [textT, xT, oB, oA, Nat.mul_add, Nat.add_assoc] using ho5
        case measure => simp [intOf]; omega
    · have hend : (¬ (k : Int) < (n : Int)) ∨ ((k : Int) < (n : Int) ∧ ¬ (k : Int) < 20) := by omega
      have hlen := txtL_len l k (by have := HN.out; omega)
      obtain ⟨hsm1, hsm2⟩ := inT_small true (txtL l k) H50.out (by omega)
      clear hgo hTr
      have hbu := fun A' c' u (h : RdI 5 TokI u (fun i => i < u.heap.size) A' (1 + 2 * k + 1) c' (inT true (txtL l k))) => build_any (inT true (txtL l k)) A' (1 + 2 * k + 1) c' u h (by omega) hsm1 hsm2
      by_cases hk0 : k = 0
      · subst hk0
        obtain ⟨e1, e2⟩ := texts_alone true (txtL l 0) (by omega) rfl
        rw [e1, e2] at hbu
        have ht0 : ([(⟨-1, [97], (txtL l 0).flatten, []⟩ : Nod)][0]?).map (·.text) = some S.data.toList := by rw [HS.out]; rfl
        have HBU := Lib.hid hbu; have HT0 := Lib.hid ht0
        clear hbu ht0 e1 e2 hsm1 hsm2 hlen
        rcases hend with hI | ⟨hI, hI20⟩
        · go_wp2_with (first
            | (at_builtin; go_must (refine ap_bare wr rfl (.tmp 59) (.tmp 61) rfl w.heap.size (.slice VA (1 + 2 * 0) vc) (1 + 2 * 0) (oA :: textsT true (txtL l 0)) rfl HOWN.out 2 ⟨#[97]⟩ ⟨#[]⟩ false _ _ rfl rfl (by omega) (by omega) ?_; intro A5 c5 w5 ho5 hf5; have hT5 : Tabs w5 := Tabs.fr HT.out (HFR.out.trans_new hf5 (fun i e => .inr (HLT.out i e).1)); have HOWN5 := Lib.hid (own_rdT ho5)))
            | (go_at_call 9; refine (HBU.out _ _ _ HOWN5.out).mono ?_; rintro e w2 ⟨v, rfl, ho2, hf2⟩; obtain ⟨A2, c2, rfl, hr2⟩ := nodes_rdl ho2 (m := 1) rfl; obtain ⟨ad2, Y2, rfl, hcY, hY2⟩ := len0_text hr2 HT0.out; obtain rfl := s_eq hY2)
            | (go_at_call 8; refine (awake_tree _).mono ?_; rintro e w3 ⟨rfl, hf3⟩; have hcY3 := hf3.cell hcY (fun x => x)))
          go_ret
          exact ⟨rfl, ((HFR.out.trans_new hf5 (fun i e => .inr (HLT.out i e).1)).trans hf2).trans hf3⟩
        · omega
      have hne : txtL l k ≠ [] := fun e => by rw [e] at hlen; exact hk0 hlen.symm
      have hb1 : (1 : Int) < 1 + 2 * (k : Int) := by omega
      cases hz : inkL (txtL l k) with
      | true =>
        have e1 := texts_mixed (txtL l k) (by omega) hne hz
        rw [e1] at hbu
        have HBU := Lib.hid hbu
        clear hbu e1 hsm1 hsm2 hlen hz hne
        rcases hend with hI | ⟨hI, hI20⟩
        · have tok1 : True := trivial
          go_wp2_with (first
            | (at_builtin; go_must (refine ap_bare wr rfl (.tmp 59) (.tmp 61) rfl w.heap.size (.slice VA (1 + 2 * k) vc) (1 + 2 * k) (oA :: textsT true (txtL l k)) rfl HOWN.out 2 ⟨#[97]⟩ ⟨#[]⟩ false _ _ rfl rfl (by omega) (by omega) ?_; intro A5 c5 w5 ho5 hf5; have hT5 : Tabs w5 := Tabs.fr HT.out (HFR.out.trans_new hf5 (fun i e => .inr (HLT.out i e).1)); have HOWN5 := Lib.hid (own_rdT ho5)))
            | (go_at_call 9; refine (HBU.out _ _ _ HOWN5.out).mono ?_; rintro e w2 ⟨v, rfl, ho2, hf2⟩; obtain ⟨A2, c2, rfl, hr2⟩ := nodes_rdl ho2 rfl)
            | (go_at_call 8; refine (awake_tree _).mono ?_; rintro e w3 ⟨rfl, hf3⟩))
          go_ret
          exact ⟨rfl, ((HFR.out.trans_new hf5 (fun i e => .inr (HLT.out i e).1)).trans hf2).trans hf3⟩
        · have tok1 : True := trivial
          go_wp2_with (first
            | (at_builtin; go_must (refine ap_bare wr rfl (.tmp 59) (.tmp 61) rfl w.heap.size (.slice VA (1 + 2 * k) vc) (1 + 2 * k) (oA :: textsT true (txtL l k)) rfl HOWN.out 2 ⟨#[97]⟩ ⟨#[]⟩ false _ _ rfl rfl (by omega) (by omega) ?_; intro A5 c5 w5 ho5 hf5; have hT5 : Tabs w5 := Tabs.fr HT.out (HFR.out.trans_new hf5 (fun i e => .inr (HLT.out i e).1)); have HOWN5 := Lib.hid (own_rdT ho5)))
            | (go_at_call 9; refine (HBU.out _ _ _ HOWN5.out).mono ?_; rintro e w2 ⟨v, rfl, ho2, hf2⟩; obtain ⟨A2, c2, rfl, hr2⟩ := nodes_rdl ho2 rfl)
            | (go_at_call 8; refine (awake_tree _).mono ?_; rintro e w3 ⟨rfl, hf3⟩))
          go_ret
          exact ⟨rfl, ((HFR.out.trans_new hf5 (fun i e => .inr (HLT.out i e).1)).trans hf2).trans hf3⟩
      | false =>
        obtain ⟨e1, e2, e3⟩ := texts_blank (txtL l k) (by omega) hne hz
        rw [e1] at hbu
        generalize buildL (inT true (txtL l k)) = L at *
        have e2 : L.length = 1 + k := by rw [e2, hlen]
        have hdv : (1 + 2 * (k : Int) - 1) / 2 = (k : Int) := by omega
        have HBU := Lib.hid hbu; have E2 := Lib.hid e2; have HT0 := Lib.hid e3
        clear hbu e1 e2 e3 hsm1 hsm2 hlen hz hne
        rcases hend with hI | ⟨hI, hI20⟩
        · have tok1 : True := trivial
          go_wp2_with (first
            | (at_builtin; go_must (refine ap_bare wr rfl (.tmp 59) (.tmp 61) rfl w.heap.size (.slice VA (1 + 2 * k) vc) (1 + 2 * k) (oA :: textsT true (txtL l k)) rfl HOWN.out 2 ⟨#[97]⟩ ⟨#[]⟩ false _ _ rfl rfl (by omega) (by omega) ?_; intro A5 c5 w5 ho5 hf5; have hT5 : Tabs w5 := Tabs.fr HT.out (HFR.out.trans_new hf5 (fun i e => .inr (HLT.out i e).1)); have HOWN5 := Lib.hid (own_rdT ho5)))
            | (go_at_call 9; refine (HBU.out _ _ _ HOWN5.out).mono ?_; rintro e w2 ⟨v, rfl, ho2, hf2⟩; obtain ⟨A2, c2, rfl, hr2⟩ := nodes_rdl ho2 E2.out; obtain ⟨ad2, Y2, rfl, hcY, hY2⟩ := len0_text hr2 HT0.out; have hYe : (Y2.toList == []) = true := (by rw [beq_iff_eq, s_list, hY2]))
            | (go_at_call 8; refine (awake_tree _).mono ?_; rintro e w3 ⟨rfl, hf3⟩; have hcY3 := hf3.cell hcY (fun x => x)))
          go_ret
          exact ⟨rfl, ((HFR.out.trans_new hf5 (fun i e => .inr (HLT.out i e).1)).trans hf2).trans hf3⟩
        · have tok1 : True := trivial
          go_wp2_with (first
            | (at_builtin; go_must (refine ap_bare wr rfl (.tmp 59) (.tmp 61) rfl w.heap.size (.slice VA (1 + 2 * k) vc) (1 + 2 * k) (oA :: textsT true (txtL l k)) rfl HOWN.out 2 ⟨#[97]⟩ ⟨#[]⟩ false _ _ rfl rfl (by omega) (by omega) ?_; intro A5 c5 w5 ho5 hf5; have hT5 : Tabs w5 := Tabs.fr HT.out (HFR.out.trans_new hf5 (fun i e => .inr (HLT.out i e).1)); have HOWN5 := Lib.hid (own_rdT ho5)))
            | (go_at_call 9; refine (HBU.out _ _ _ HOWN5.out).mono ?_; rintro e w2 ⟨v, rfl, ho2, hf2⟩; obtain ⟨A2, c2, rfl, hr2⟩ := nodes_rdl ho2 E2.out; obtain ⟨ad2, Y2, rfl, hcY, hY2⟩ := len0_text hr2 HT0.out; have hYe : (Y2.toList == []) = true := (by rw [beq_iff_eq, s_list, hY2]))
            | (go_at_call 8; refine (awake_tree _).mono ?_; rintro e w3 ⟨rfl, hf3⟩; have hcY3 := hf3.cell hcY (fun x => x)))
          go_ret
          exact ⟨rfl, ((HFR.out.trans_new hf5 (fun i e => .inr (HLT.out i e).1)).trans hf2).trans hf3⟩

theorem texts_walk8 {A : Option Addr} {n c : Nat} {l : List ByteArray} {b : Bool} (w : World) (hT : Tabs w) (hl : Rd w A n c (strs l)) (hm : ∀ s ∈ l, s.size ≤ maxLen) : Calls Tryz.prog 6 #[.slice A n c, .bool b] w fun e w' => e = .returned (.bool true) ∧ Fr No w w' := by
  cases b with
  | true => exact texts_kids w hT hl hm
  | false => exact texts_plain w hT hl hm
end Go.Proofs.YtdgfpjekahpggaaGreatDoor
