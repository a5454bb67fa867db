/- TreeMany: so many elements, and no more: the walk, for every two numbers. -/
import Derived.Test.YtdgfpjekahpggaaGreatDoorTreeAwake
import Derived.Test.YtdgfpjekahpggaaGreatDoorMathA
namespace Go.Proofs.YtdgfpjekahpggaaGreatDoor
open Go.RowKit
set_option maxHeartbeats 400000
set_option linter.unusedVariables false

/-- a token of a name alone -/
theorem bare_cells (w : World) (k : Int) (x : UInt8) (em : Bool) : TokI w No [.int .i64 k, .string ⟨#[x]⟩, .string ⟨#[]⟩, .slice none 0 0, .bool em] ⟨k, [x], [], [], em⟩ :=
  ⟨⟨#[x]⟩, ⟨#[]⟩, none, 0, 0, rfl, rfl, rfl, RdI.nil_ _ _ _ _⟩
/-- one more bare token, onto a row of one's own -/
theorem ap_bare (u : World) {ops : Array Oper} {rest : List Oper} {o : Oper} {a : Act} {Q : Exit → Act → World → Prop} (hgd : Region.wanted o (yielded ops a.tmps) = true) (s x : Operand)
    (ho : o.op = .call { callee := .builtin .append, args := #[s, x], argTypes := #[22, 22] })
    (base : Nat) (v : Value) (n : Nat) (ls : List Tok) (hs : a.eval s = v) (hown : OwnI 5 TokI u base 43 No v n ls) (k : Int) (X Y : ByteArray) (em : Bool) (t : TypeId)
    (bk : Nat) (hbk : u.heap.size = bk) (hx : a.eval x = .slice (some ⟨bk, 0, none⟩) 1 1) (hb : n + 1 ≤ 1000000000) (hbase : base ≤ u.heap.size)
    (h : ∀ A' c' w', OwnI 5 TokI w' base 43 No (.slice A' (n + 1) c') (n + 1) (ls ++ [⟨k, X.data.toList, Y.data.toList, [], em⟩]) → Fr (fun i => v.ownBlock = some i) u w' → wpList Tryz.prog ops Q rest (a.put o.dst (.slice A' (n + 1) c')) w') :
    wpList Tryz.prog ops Q (o :: rest) a (u.alloc (.cells #[.int .i64 k, .string X, .string Y, .slice none 0 0, .bool em] t)) := by
  refine ap_tok1 u hgd s x ho base v n ls No No hs hown ⟨k, X.data.toList, Y.data.toList, [], em⟩ [.int .i64 k, .string X, .string Y, .slice none 0 0, .bool em] ⟨X, Y, none, 0, 0, rfl, rfl, rfl, RdI.nil_ _ _ _ _⟩ t bk hbk hx hb hbase (fun i x => x.elim) (fun i x => x.elim) ?_
  intro v' w' h1 h2 h3
  obtain ⟨A', c', e, -⟩ := h1.rd' (M := fun _ => True) (fun _ _ => trivial) tok_ok (fun _ _ => trivial)
  subst e
  exact h A' c' w' (h1.mono tok_ok (fun i x => by rcases x with x | x <;> exact x)) (((Fr.refl _ u).alloc _).grown h2 (fun g e => .inl e))
theorem manyT_len (d m : Nat) : (manyT d m).length = d + m + d := by simp [manyT]; omega
theorem sumT_zero : ∀ ts : List Tok, (∀ t ∈ ts, t.text = []) → sumT ts = 0
  | [], _ => rfl
  | t :: r, h => by
    have e : sumT (t :: r) = t.text.length + sumT r := rfl
    rw [e, sumT_zero r (fun t ht => h t (by simp [ht])), h t (by simp)]
    rfl
theorem manyT_in (d m : Nat) : ∀ t ∈ manyT d m, t.text = [] ∧ t.attrs = [] := by
  intro t ht
  unfold manyT at ht
  rcases List.mem_append.1 ht with ht | ht
  · rcases List.mem_append.1 ht with ht | ht
    · rw [(List.mem_replicate.1 ht).2]; exact ⟨rfl, rfl⟩
    · rw [(List.mem_replicate.1 ht).2]; exact ⟨rfl, rfl⟩
  · rw [(List.mem_replicate.1 ht).2]; exact ⟨rfl, rfl⟩
/-- a node's parent: how the walk reads it -/
theorem nod_par {w : World} {N : Nat → Prop} {A : Option Addr} {n c : Nat} {L : List Nod} (h : RdI 4 NodI w N A n c L) {k : Nat} {p : Int} (ht : (L[k]?).map (·.parent) = some p) : ∃ ad, A = some ad ∧ w.cell? (ad.add (k * 4)) = some (.int .i64 p) := by
  have hk : k < L.length := by
    rcases Nat.lt_or_ge k L.length with h1 | h1
    · exact h1
    · rw [List.getElem?_eq_none h1] at ht; cases ht
  rw [List.getElem?_eq_getElem hk] at ht
  injection ht with ht
  obtain ⟨ad, cs, rfl, ⟨X, Y, A1, n1, x1, rfl, hX, hY, hA1⟩, hc⟩ := h.at_ nod_ok (by omega) hk
  have c0 := hc 0 _ rfl
  rw [Nat.add_zero] at c0
  have ht : L[k].parent = p := ht
  rw [ht] at c0
  exact ⟨ad, rfl, c0⟩
/-- a node's text: how the walk reads it -/
theorem nod_text {w : World} {N : Nat → Prop} {A : Option Addr} {n c : Nat} {L : List Nod} (h : RdI 4 NodI w N A n c L) {k : Nat} {t : List UInt8} (ht : (L[k]?).map (·.text) = some t) : ∃ ad Y, A = some ad ∧ w.cell? ⟨(ad.add (k * 4)).block, (ad.add (k * 4)).off + 2, none⟩ = some (.string Y) ∧ Y.data.toList = t := by
  have hk : k < L.length := by
    rcases Nat.lt_or_ge k L.length with h1 | h1
    · exact h1
    · rw [List.getElem?_eq_none h1] at ht; cases ht
  rw [List.getElem?_eq_getElem hk] at ht
  injection ht with ht
  obtain ⟨ad, cs, rfl, ⟨X, Y, A1, n1, x1, rfl, hX, hY, hA1⟩, hc⟩ := h.at_ nod_ok (by omega) hk
  have c2 := hc 2 _ rfl
  rw [add_next ad] at c2
  exact ⟨ad, Y, rfl, c2, by rw [hY]; exact ht⟩

theorem nodes_rdl {w : World} {base n m : Nat} {e : TypeId} {v : Value} {l : List Nod} (h : OwnI 4 NodI w base e (fun i => base ≤ i ∧ i < w.heap.size) v n l) (hn : n = m) : ∃ A c, v = .slice A m c ∧ RdI 4 NodI w (fun i => base ≤ i ∧ i < w.heap.size) A m c l := by
  subst hn
  exact nodes_rd h
set_option maxRecDepth 20000 in
theorem many_walk {x y : Int} (w : World) (hT : Tabs w) (hx : (Lit.int .i64 x).wf = true) (hy : (Lit.int .i64 y).wf = true) : Calls Tryz.prog 7 #[.int .i64 x, .int .i64 y] w fun e w' => e = .returned (.bool true) ∧ Fr No w w' := by
  clear hx hy
  obtain ⟨a, ha, hma⟩ := umod x 4 (by omega) (by omega)
  obtain ⟨b, hb, hmb⟩ := umod y 20 (by omega) (by omega)
  have hma : (IntKind.u64.wrap x).tmod 4 = (a : Int) := hma
  have hmb : (IntKind.u64.wrap y).tmod 20 = (b : Int) := hmb
  go_enter Tryz.func7, Tryz.ntmps7
  go_wp2
  clear hma hmb
  go_loopw [5, 6] (fun lv iv wr => ∃ k : Nat, iv = .int .i64 (k : Int) ∧ k ≤ b + 1 ∧ OwnI 5 TokI wr w.heap.size 43 No lv k (List.replicate k oA) ∧ Fr No w wr) (fun _ iv _ => b + 1 - (intOf iv).toNat)
  case atStart => exact ⟨0, rfl, Nat.zero_le _, OwnI.nil_ _ _ _ _ _ _, Fr.refl _ _⟩
  case round =>
    obtain ⟨k, rfl, hk, hown, hfr⟩ := hrel
    obtain ⟨VA, vc, rfl, -⟩ := hown.rd' (M := fun _ => True) (fun _ _ => trivial) tok_ok (fun _ _ => trivial)
    have hlt := hown.lt
    have hsz := hfr.size
    have HOWN := Lib.hid hown; have HFR := Lib.hid hfr; have HLT := Lib.hid hlt
    clear hown hfr hlt
    rcases Nat.lt_or_ge k (b + 1) with h | h
    · have hI : (k : Int) < 1 + (b : Int) := by omega
      go_wp2_with (at_builtin; go_must (refine ap_bare wr rfl (.tmp 26) (.tmp 28) rfl w.heap.size (.slice VA k vc) k (List.replicate k oA) rfl HOWN.out 1 ⟨#[97]⟩ ⟨#[]⟩ false _ _ rfl rfl (by omega) (by omega) ?_; intro A' c' w' ho' hf'))
      go_roundw
      case rel => exact ⟨k + 1, by go_num, h, by rw [List.replicate_succ']; exact ho', HFR.out.trans_new hf' (fun i e => .inr (HLT.out i e).1)⟩
      case measure => simp [intOf]; omega
    obtain rfl : k = b + 1 := by omega
    clear hk h HLT
    have hbi : ¬ ((b + 1 : Nat) : Int) < 1 + (b : Int) := by omega
    go_wp2
    go_loopw [5, 7] (fun lv iv wr => ∃ k : Nat, iv = .int .i64 (1 + (b : Int) + (k : Int)) ∧ b + 1 + k ≤ 498 + a ∧ OwnI 5 TokI wr w.heap.size 43 No lv (b + 1 + k) (List.replicate (b + 1) oA ++ List.replicate k oB) ∧ Fr No w wr) (fun _ iv _ => 498 + a - (intOf iv).toNat)
    case atStart => exact ⟨0, by go_num, by omega, by simpa using HOWN.out, HFR.out⟩
    case round =>
      clear HOWN HFR hsz
      obtain ⟨k, rfl, hk, hown, hfr⟩ := hrel
      obtain ⟨VB, vb, rfl, -⟩ := hown.rd' (M := fun _ => True) (fun _ _ => trivial) tok_ok (fun _ _ => trivial)
      have hlt := hown.lt
      have hsz := hfr.size
      have HOWN := Lib.hid hown; have HFR := Lib.hid hfr; have HLT := Lib.hid hlt
      clear hown hfr hlt
      rcases Nat.lt_or_ge (b + 1 + k) (498 + a) with h | h
      · have hI : 1 + (b : Int) + (k : Int) < 498 + (a : Int) := by omega
        go_wp2_with (at_builtin; go_must (refine ap_bare wr rfl (.tmp 36) (.tmp 38) rfl w.heap.size (.slice VB (b + 1 + k) vb) (b + 1 + k) (List.replicate (b + 1) oA ++ List.replicate k oB) rfl HOWN.out 1 ⟨#[98]⟩ ⟨#[]⟩ true _ _ rfl rfl (by omega) (by omega) ?_; intro A' c' w' ho' hf'))
        go_roundw
        case rel => exact ⟨k + 1, by go_num, h, by rw [List.replicate_succ' (n := k), ← List.append_assoc]; exact ho', HFR.out.trans_new hf' (fun i e => .inr (HLT.out i e).1)⟩
        case measure => simp [intOf]; omega
      have hke : b + 1 + k = 498 + a := by omega
      have hI : ¬ 1 + (b : Int) + (k : Int) < 498 + (a : Int) := by omega
      have HKE := Lib.hid hke
      have hle : b + 1 + k ≤ 501 := by omega
      clear hke
      clear hk h HLT hma hmb hbi
      go_wp2
      go_loopw [5, 8] (fun lv iv wr => ∃ j : Nat, iv = .int .i64 (j : Int) ∧ j ≤ b + 1 ∧ OwnI 5 TokI wr w.heap.size 43 No lv (b + 1 + k + j) (List.replicate (b + 1) oA ++ List.replicate k oB ++ List.replicate j cA) ∧ Fr No w wr) (fun _ iv _ => b + 1 - (intOf iv).toNat)
      case atStart => exact ⟨0, rfl, by omega, by simpa using HOWN.out, HFR.out⟩
      case round =>
        clear HOWN HFR hsz
        obtain ⟨j, rfl, hj, hown, hfr⟩ := hrel
        obtain ⟨VC, vd, rfl, -⟩ := hown.rd' (M := fun _ => True) (fun _ _ => trivial) tok_ok (fun _ _ => trivial)
        have hlt := hown.lt
        have hsz := hfr.size
        have HOWN := Lib.hid hown; have HFR := Lib.hid hfr; have HLT := Lib.hid hlt
        clear hown hfr hlt
        rcases Nat.lt_or_ge j (b + 1) with h | h
        · have hI : (j : Int) < 1 + (b : Int) := by omega
          go_wp2_with (at_builtin; go_must (refine ap_bare wr rfl (.tmp 45) (.tmp 47) rfl w.heap.size (.slice VC (b + 1 + k + j) vd) (b + 1 + k + j) (List.replicate (b + 1) oA ++ List.replicate k oB ++ List.replicate j cA) rfl HOWN.out 2 ⟨#[97]⟩ ⟨#[]⟩ false _ _ rfl rfl (by omega) (by omega) ?_; intro A' c' w' ho' hf'))
          go_roundw
          case rel => exact ⟨j + 1, by go_num, h, by rw [List.replicate_succ' (n := j), ← List.append_assoc]; exact ho', HFR.out.trans_new hf' (fun i e => .inr (HLT.out i e).1)⟩
          case measure => simp [intOf]; omega
        obtain rfl : j = b + 1 := by omega
        have hji : ¬ ((b + 1 : Nat) : Int) < 1 + (b : Int) := by omega
        clear hj h HLT hI
        obtain ⟨A9, c9, e9, hr9⟩ := (HOWN.out.mono tok_ok (M := fun i => i < wr.heap.size) (fun i x => x.elim)).rd (fun i h1 h2 => h2)
        injection e9 with e9 _ e9'
        subst e9 e9'
        have hr9 : RdI 5 TokI wr (fun i => i < wr.heap.size) VC (b + 1 + k + (b + 1)) vd (manyT (b + 1) k) := hr9
        have hbu := build_any (manyT (b + 1) k) VC (b + 1 + k + (b + 1)) vd wr hr9 (by omega) (by rw [sumT_zero _ (fun t ht => (manyT_in _ _ t ht).1)]; omega) (fun t ht => by rw [(manyT_in _ _ t ht).2]; exact Nat.zero_le _)
        have hTr : Tabs wr := Tabs.fr hT HFR.out
        clear hT
        by_cases ha3 : a = 3
        · subst ha3
          obtain ⟨e1, e2⟩ := many_big (b + 1) k (by omega) (by omega) (by have := HKE.out; omega)
          rw [e1, e2] at hbu
          have HBU := Lib.hid hbu
          clear hbu e1 e2 hr9 HOWN
          go_wp2_with (first
            | (go_at_call 9; refine HBU.out.mono ?_; rintro e w2 ⟨v, rfl, ho2, hf2⟩; obtain ⟨A2, c2, rfl, hr2⟩ := nodes_rd ho2)
            | (go_at_call 8; refine (awake_tree _).mono ?_; rintro e w3 ⟨rfl, hf3⟩))
          go_ret
          exact ⟨rfl, (HFR.out.trans hf2).trans hf3⟩
        · obtain ⟨e1, e2, e3, e4⟩ := many_ok (b + 1) k (by omega) (by omega) (by have := HKE.out; omega) (by have := HKE.out; omega)
          rw [e1] at hbu
          generalize buildL (manyT (b + 1) k) = L at *
          have e5 : (kidsL L (1 + (b : Int) - 1)).length = k := by rw [← e3]; congr 2; omega
          have hbig : ¬ (500 : Int) < 498 + (a : Int) := by omega
          have e4 : (L[497 + a]?).map (·.parent) = some (1 + (b : Int) - 1) := by
            rw [show 497 + a = b + 1 + k - 1 from by have := HKE.out; omega, e4]
            congr 1
            omega
          have e2 : L.length = 498 + a := by rw [e2]; exact HKE.out
          have hkb : ∀ z : Int, z = 498 + (a : Int) → ((k : Int) == z - (1 + (b : Int))) = true := by
            intro z hz
            rw [beq_iff_eq, hz]
            have := HKE.out
            omega
          have HBU := Lib.hid hbu; have E2 := Lib.hid e2; have E4 := Lib.hid e4; have E5 := Lib.hid e5
          clear hbu e2 e4 e5 e3 hr9 HOWN e1 HKE hle
          obtain rfl | rfl | rfl : a = 0 ∨ a = 1 ∨ a = 2 := by omega
          · have hkb := hkb 498 rfl
            go_wp2_with (first
              | (go_at_call 9; refine HBU.out.mono ?_; rintro e w2 ⟨v, rfl, ho2, hf2⟩; obtain ⟨A2, c2, rfl, hr2⟩ := nodes_rdl ho2 E2.out; obtain ⟨ad, rfl, hcp⟩ := nod_par hr2 E4.out; rw [show ad.add ((497 + 0) * 4) = ⟨ad.block, ad.off + 1988, none⟩ from by simp [Addr.add]] at hcp)
              | (go_at_call 8; refine (awake_tree _).mono ?_; rintro e w3 ⟨rfl, hf3⟩)
              | (go_at_call 16; refine (kids_len L _ _ _ _ _ _ (hr2.no nod_ok hf3) (by decide) k E5.out).mono ?_; rintro e w4 ⟨A4, c4, rfl, hf4⟩; have hcp4 := (hf3.trans hf4).cell hcp (fun x => x)))
            go_ret
            exact ⟨rfl, ((HFR.out.trans hf2).trans hf3).trans hf4⟩
          · have hkb := hkb 499 rfl
            go_wp2_with (first
              | (go_at_call 9; refine HBU.out.mono ?_; rintro e w2 ⟨v, rfl, ho2, hf2⟩; obtain ⟨A2, c2, rfl, hr2⟩ := nodes_rdl ho2 E2.out; obtain ⟨ad, rfl, hcp⟩ := nod_par hr2 E4.out; rw [show ad.add ((497 + 1) * 4) = ⟨ad.block, ad.off + 1992, none⟩ from by simp [Addr.add]] at hcp)
              | (go_at_call 8; refine (awake_tree _).mono ?_; rintro e w3 ⟨rfl, hf3⟩)
              | (go_at_call 16; refine (kids_len L _ _ _ _ _ _ (hr2.no nod_ok hf3) (by decide) k E5.out).mono ?_; rintro e w4 ⟨A4, c4, rfl, hf4⟩; have hcp4 := (hf3.trans hf4).cell hcp (fun x => x)))
            go_ret
            exact ⟨rfl, ((HFR.out.trans hf2).trans hf3).trans hf4⟩
          · have hkb := hkb 500 rfl
            go_wp2_with (first
              | (go_at_call 9; refine HBU.out.mono ?_; rintro e w2 ⟨v, rfl, ho2, hf2⟩; obtain ⟨A2, c2, rfl, hr2⟩ := nodes_rdl ho2 E2.out; obtain ⟨ad, rfl, hcp⟩ := nod_par hr2 E4.out; rw [show ad.add ((497 + 2) * 4) = ⟨ad.block, ad.off + 1996, none⟩ from by simp [Addr.add]] at hcp)
              | (go_at_call 8; refine (awake_tree _).mono ?_; rintro e w3 ⟨rfl, hf3⟩)
              | (go_at_call 16; refine (kids_len L _ _ _ _ _ _ (hr2.no nod_ok hf3) (by decide) k E5.out).mono ?_; rintro e w4 ⟨A4, c4, rfl, hf4⟩; have hcp4 := (hf3.trans hf4).cell hcp (fun x => x)))
            go_ret
            exact ⟨rfl, ((HFR.out.trans hf2).trans hf3).trans hf4⟩
end Go.Proofs.YtdgfpjekahpggaaGreatDoor
