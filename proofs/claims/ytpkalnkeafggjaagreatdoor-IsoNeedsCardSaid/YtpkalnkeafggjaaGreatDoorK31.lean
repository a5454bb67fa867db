/- The texts IsoW1, joined. -/
import Derived.Test.YtpkalnkeafggjaaGreatDoorK26
import Derived.Test.YtpkalnkeafggjaaGreatDoorK30
import Derived.Test.YtpkalnkeafggjaaGreatDoorK16
/- Package iso: the writer's steps. -/
namespace Go.Proofs.YtpkalnkeafggjaaGreatDoor
open Go.RowKit
set_option maxHeartbeats 1000000
set_option linter.unusedVariables false
set_option maxRecDepth 20000

/-- a writer at block g: the message type, the elements, what is written -/
abbrev Ws (w : World) (g : Nat) (mt : ByteArray) (va vo : Value) : Prop := Bk w g 56 [.string mt, va, vo]
theorem Ws.cells' {w : World} {g : Nat} {mt : ByteArray} {va vo : Value} (h : Ws w g mt va vo) : w.cell? ⟨g, 0, none⟩ = some (.string mt) ∧ w.cell? ⟨g, 1, none⟩ = some va ∧ w.cell? ⟨g, 2, none⟩ = some vo ∧ (∀ i, w.frozen? ⟨g, i, none⟩ = false) := ⟨Bk.cell h 0, Bk.cell h 1, Bk.cell h 2, Bk.frozen h⟩
def PutTo (w : World) (g : Nat) (mt : ByteArray) (va vo : Value) (base : Nat) (l : List UInt8) (E : Int) (e : Ending) (w' : World) : Prop :=
  e = .returned (.int .i64 E) ∧ Fr (fun i => i = g ∨ vo.ownBlock = some i) w w' ∧ ∃ vo', Ws w' g mt va vo' ∧ OwnM w' base vo' l ∧ (vo'.ownBlock = vo.ownBlock ∨ ∃ i, vo'.ownBlock = some i ∧ w.heap.size ≤ i)
theorem iso_put {w : World} {g : Nat} {mt : ByteArray} {va vo : Value} {base : Nat} {l : List UInt8} {A : Option Addr} {m c : Nat} {k : List UInt8} {E : Int} (h : Ws w g mt va vo) (ho : OwnM w base vo l) (hg : g < base) (hb : base ≤ w.heap.size) (hr : Rd w A m c (u8s k)) (hz : l.length + m ≤ 140737488355328) :
    Calls Tryz.prog 48 #[.pointer (some ⟨g, 0, none⟩), .slice A m c, .int .i64 E] w (PutTo w g mt va vo base (l ++ k) E) := by
  obtain ⟨vA, vc, rfl, -, -⟩ := ownM_rd ho
  obtain ⟨-, -, c2, cf⟩ := Ws.cells' h
  have z2 := cf 2
  have H := Lib.hid h; have HO := Lib.hid ho; have HG := Lib.hid hg; have HB := Lib.hid hb; have HR := Lib.hid hr; have HZ := Lib.hid hz
  have HLT := Lib.hid (ownM_lt ho)
  obtain ⟨x, hx⟩ : ∃ x, l ++ k = x := ⟨_, rfl⟩
  have HX := Lib.hid hx
  rw [hx]
  clear h ho hg hb hr hz cf hx
  go_enter Tryz.func48, Tryz.ntmps48
  go_wp2_with (at_builtin; go_must (refine apM w rfl (.tmp 11) (.tmp 12) rfl base (.slice vA l.length vc) l rfl HO.out A m c k rfl HR.out HZ.out HB.out ?_); intro v2 w2 o2 g2 q2; rw [HX.out] at o2; obtain ⟨vA2, vc2, rfl, -, -⟩ := ownM_rd o2; have O2 := Lib.hid o2; have F2 := Lib.hid ((Fr.refl (fun i => (Value.slice vA l.length vc).ownBlock = some i) w).grown g2 (fun i e => .inl e)); have W2 := Lib.hid (Bk.fr H.out F2.out (fun e => by have := (HLT.out _ e).1; have := HG.out; omega)); have Q2 := Lib.hid q2; have d2 := (Ws.cells' W2.out).2.2.1; have y2 := (Ws.cells' W2.out).2.2.2 2; clear o2 g2 q2)
  go_ret
  have hs : Fr (Just g) w2 (w2.setCell ⟨g, 2, none⟩ (.slice vA2 x.length vc2)) := (Fr.refl (Just g) w2).setCell (.inl (Just.at g)) _
  refine ⟨rfl, (F2.out.mono (fun i e => .inr e)).trans (hs.mono (fun i e => .inl e)), _, W2.out.set_ 2 _, ownM_fr O2.out hs (fun i e x => ?_), ?_⟩
  · have := (ownM_lt O2.out i e).1
    have := HG.out
    have : i = g := x
    omega
  · rcases Q2.out with q | q
    · exact .inl q
    · exact .inr ⟨_, q, Nat.le_refl _⟩
/-- what a step of the writer may turn, seen from a base -/
theorem PutTo.far {w w' : World} {g : Nat} {mt : ByteArray} {va vo : Value} {base : Nat} {l : List UInt8} {E : Int} {e : Ending} (h : PutTo w g mt va vo base l E e w') {w0 : World} (hf : Fr (Just g) w0 w) (hv : ∀ i, vo.ownBlock = some i → w0.heap.size ≤ i) : Fr (Just g) w0 w' :=
  hf.trans_new h.2.1 (fun i hi => by rcases hi with hi | hi; exact .inl hi; exact .inr (hv i hi))
theorem PutTo.ahead {w w1 w' : World} {g : Nat} {mt : ByteArray} {va vo : Value} {base : Nat} {l : List UInt8} {E : Int} {e : Ending} (h : PutTo w1 g mt va vo base l E e w') (hf : Fr No w w1) : PutTo w g mt va vo base l E e w' := by
  obtain ⟨h1, h2, vo', h3, h4, h5⟩ := h
  refine ⟨h1, (hf.no).trans h2, vo', h3, h4, ?_⟩
  rcases h5 with h5 | ⟨i, h5, h6⟩
  · exact .inl h5
  · exact .inr ⟨i, h5, Nat.le_trans hf.size h6⟩
theorem iso_wbegin {w : World} {g : Nat} {t : List UInt8} {va : Value} {base : Nat} (h : Ws w g (bstr t) va (.slice none 0 0)) (hg : g < base) (hb : base ≤ w.heap.size) (hz : t.length ≤ 100000) :
    Calls Tryz.prog 25 #[.pointer (some ⟨g, 0, none⟩)] w (PutTo w g (bstr t) va (.slice none 0 0) base t 0) := by
  have c0 := (Ws.cells' h).1
  have HP := Lib.hid (fun (u : World) (A : Option Addr) (c : Nat) (hf : Fr No w u) (hr : Rd u A t.length c (u8s t)) => by
    have hh := iso_put (w := u) (g := g) (mt := bstr t) (va := va) (vo := .slice none 0 0) (base := base) (l := []) (A := A) (m := t.length) (c := c) (k := t) (E := 0) (Bk.no h hf) ⟨rfl, .inl ⟨rfl, rfl⟩⟩ hg (Nat.le_trans hb hf.size) hr (by simp; omega)
    rw [List.nil_append] at hh
    exact hh)
  have HZ := Lib.hid hz
  clear h hg hb hz
  go_enter Tryz.func25, Tryz.ntmps25
  go_wp2_with (first
    | (refine convM w rfl (.tmp 8) rfl t rfl (by have := HZ.out; omega) ?_; intro cc w1 o1 f1 z1; obtain ⟨V1, c1, e1, hr1, -⟩ := ownM_rd o1; injection e1 with e11 _ e12; subst e11 e12; have HR1 := Lib.hid hr1; have F1 := Lib.hid f1; clear o1 hr1 f1 z1)
    | (go_at_call 48; refine (HP.out _ _ _ F1.out HR1.out).mono ?_; intro e w2 p2; have P2 := Lib.hid (PutTo.ahead p2 F1.out); obtain rfl := p2.1; clear p2))
  go_ret
  exact P2.out
/-! ### the numbers -/
theorem nos_len (es : List El) : (nosOf es).length = es.length := by simp [nosOf]
theorem nos_take {es : List El} {k : Nat} {a : El} (h : es[k]? = some a) : nosOf (es.take (k + 1)) = nosOf (es.take k) ++ [a.1] := by
  have hk := (List.getElem?_eq_some_iff.1 h).1
  have he := (List.getElem?_eq_some_iff.1 h).2
  rw [List.take_succ_eq_append_getElem hk, he]
  simp [nosOf]
theorem wmR_len (l : List Int) : (wmR l).length ≤ 16 := by
  unfold wmR
  cases h : risesB l with
  | true => rw [if_pos rfl]; rcases mapOf_len h with h | h <;> omega
  | false => rw [if_neg (by simp)]; exact Nat.zero_le _
def NosRel (w : World) (n : Nat) (es : List El) (vl iv : Value) (wr : World) : Prop := ∃ k : Nat, k ≤ n ∧ iv = .int .i64 (k : Int) ∧ Fr No w wr ∧ wr.ownsRow w.heap.size 3 1 vl k (ints (nosOf (es.take k)))
theorem iso_wnumbers {w : World} {g : Nat} {mt : ByteArray} {A : Option Addr} {n c : Nat} {es : List El} {N : Nat → Prop} {vo : Value} {base : Nat} {l : List UInt8} (h : Ws w g mt (.slice A n c) vo) (he : RdI 2 TagI w N A n c es) (hn : n ≤ 1000) (ho : OwnM w base vo l) (hg : g < base) (hb : base ≤ w.heap.size) (hz : l.length ≤ 100000) :
    Calls Tryz.prog 26 #[.pointer (some ⟨g, 0, none⟩)] w (PutTo w g mt (.slice A n c) vo base (l ++ wmR (nosOf es)) (wmE (nosOf es))) := by
  have c1 := (Ws.cells' h).2.1
  have hlen := he.len tag_ok (by omega)
  have HW := Lib.hid (fun (u : World) (V : Option Addr) (vc : Nat) (hr : Rd u V n vc (ints (nosOf es))) => bm_write_any V n vc (nosOf es) u hr (by omega))
  have HP := Lib.hid (fun (u : World) (B : Option Addr) (d : Nat) (hf : Fr No w u) (hr : Rd u B (wmR (nosOf es)).length d (u8s (wmR (nosOf es)))) =>
    iso_put (E := wmE (nosOf es)) (Bk.no h hf) (ownM_fr ho hf (fun _ _ x => x)) hg (Nat.le_trans hb hf.size) hr (by have := wmR_len (nosOf es); omega))
  have HE := Lib.hid he; have HL := Lib.hid hlen
  clear h hlen he ho hg hb hz
  go_enter Tryz.func26, Tryz.ntmps26
  go_wp2
  go_loopw [3, 12] (fun vl iv wr => NosRel w n es vl iv wr) (fun _ v _ => n - (intOf v).toNat)
  case atStart => exact ⟨0, by omega, rfl, Fr.refl _ _, World.ownsRow_nil _ _ _ _⟩
  case round =>
    obtain ⟨k, hk, rfl, hf, hown⟩ := hrel
    obtain ⟨LA, lc, rfl, hrl, -⟩ := Rd.of_own hown
    rcases Nat.lt_or_ge k n with hkn | hge
    · obtain ⟨ad, cs, a, rfl, ⟨B, m, dc, rfl, -, -, -, -⟩, hak, hc0, hc1⟩ := two_cells tag_ok (HE.out.no tag_ok hf) hkn
      have c0 := hc0 _ rfl
      have c11 := hc1 _ rfl
      obtain ⟨P, hP⟩ : ∃ P, ad.add (k * 2) = P := ⟨_, rfl⟩
      rw [hP] at c0 c11
      have hkI : (k : Int) < (n : Int) := by omega
      have hnt := nos_take hak
      obtain ⟨q, d⟩ := a
      dsimp only at c0 hnt
      have HF := Lib.hid hf; have HO := Lib.hid hown; have HNT := Lib.hid hnt; have HKN := Lib.hid hkn
      clear hf hown hnt hak hc0 hc1 hrl hkn
      go_wp2_with (at_builtin; go_must (refine apI_one (wr.alloc (.cells #[.int .i64 q, .slice B m dc] 40)) rfl (.tmp 16) (.tmp 19) rfl w.heap.size (.slice LA k lc) k (nosOf (es.take k)) rfl (HO.out.alloc _) q 3 (by simp; rfl) (by omega) (by have := HF.out.size; simp; omega) ?_); intro v2 w2 o2 g2 q2; rw [← HNT.out] at o2; obtain ⟨LA2, lc2, rfl, -, -⟩ := Rd.of_own o2; have O2 := Lib.hid o2; have G2 := Lib.hid g2; clear o2 g2 q2)
      go_roundw
      case rel =>
        refine ⟨k + 1, by have := HKN.out; omega, by go_num, HF.out.trans_new (((Fr.refl (fun i => (Value.slice LA k lc).ownBlock = some i) wr).alloc _).alloc _ |>.grown G2.out (fun i e => .inl e)) (fun i e => .inr (HO.out.lt i e).1), O2.out⟩
      case measure => simp [intOf]; have := HKN.out; omega
    · obtain rfl : k = n := by omega
      rw [List.take_of_length_le (by rw [HL.out]; exact Nat.le_refl _)] at hrl
      have HRL := Lib.hid hrl; have HF := Lib.hid hf
      clear hown hrl hf
      go_wp2_with (first
        | (go_at_call 49; refine (HW.out _ _ _ HRL.out).mono ?_; rintro e w2 ⟨v, rfl, o2, f2⟩; obtain ⟨V2, d2, rfl, hr2, -⟩ := Rd.of_own o2; have R2 := Lib.hid hr2; have F2 := Lib.hid (HF.out.trans f2); clear o2 hr2 f2)
        | (go_at_call 48; refine (HP.out _ _ _ F2.out R2.out).mono ?_; intro e w3 p3; have P3 := Lib.hid (PutTo.ahead p3 F2.out); obtain rfl := p3.1; clear p3))
      go_ret
      exact P3.out
end Go.Proofs.YtpkalnkeafggjaaGreatDoor
