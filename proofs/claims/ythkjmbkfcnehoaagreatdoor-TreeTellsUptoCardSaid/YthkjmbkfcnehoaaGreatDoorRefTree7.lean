/- The statements' own tree that grows: what any token does; a text put into a node. -/
import Derived.Test.YthkjmbkfcnehoaaGreatDoorRefTree4
import Derived.Test.YthkjmbkfcnehoaaGreatDoorRefTree5
import Derived.Test.YthkjmbkfcnehoaaGreatDoorRefTree6
namespace Go.Proofs.YthkjmbkfcnehoaaGreatDoor
open Go.RowKit
set_option maxHeartbeats 400000
set_option linter.unusedVariables false

variable {w : World} {base g : Nat} {v1 v2 v3 v4 : Value} {xs : List ByteArray} {G : Gro}
theorem gr_le_sum : ∀ {l : List (List UInt8)} {x : List UInt8}, x ∈ l → x.length ≤ (l.map List.length).sum
  | y :: l, x, h => by
    simp only [List.map_cons, List.sum_cons]
    rcases List.mem_cons.1 h with rfl | h
    · omega
    · have := gr_le_sum h; omega
theorem GrV.small (h : GrV w base g v1 v2 v3 v4 xs G) : ∀ x ∈ xs, x.size ≤ (G.txt.map List.length).sum := by
  intro x hx
  have h1 : x.data.toList ∈ G.txt := by rw [← h.ex]; exact List.mem_map.2 ⟨x, hx, rfl⟩
  have h2 := gr_le_sum h1
  rwa [size_list] at h2
theorem r_take_any (X Y : ByteArray) (A : Option Addr) (n c : Nat) (t : Tok) (w : World) (M : Nat → Prop) (hG : GrT w base g G) (ho : Okg G) (hX : X.data.toList = t.name) (hY : Y.data.toList = t.text) (hA : RdI 2 AttrI w M A n c t.attrs) (hn : n ≤ 1000000)
    (hs : (G.txt.map List.length).sum ≤ 1000000000) (hys : Y.size ≤ 1000000000) :
    Calls Tryz.prog 19 #[.pointer (some ⟨g, 0, none⟩), .agg #[.int .i64 t.kind, .string X, .string Y, .slice A n c, .bool t.empty]] w fun e w' => e = .returned (.int .i64 (takeE G t)) ∧ Fr (fun i => base ≤ i) w w' ∧ (takeE G t = 0 → GrT w' base g (takeS G t)) := by
  obtain ⟨v1, v2, v3, v4, xs, hG⟩ := hG
  have hsm := hG.small
  by_cases k1 : t.kind = 1
  · have hk := k1
    rw [k1]
    rcases top_cases G ho with ⟨h0, ht⟩ | ⟨k, r, hr, ht, hkl⟩
    · by_cases h1 : t.name = []
      · exact r_open0_name X Y A n c t.empty t w hG ho h0 ht hk hX h1
      by_cases h2 : 0 < G.l.length
      · exact r_open0_two X Y A n c t.empty t w hG ho h0 ht hk hX h1 h2
      have hE : takeE G t = 0 := by
        unfold takeE
        rw [if_pos hk, if_neg h1, if_neg (by omega), if_neg (by rw [h0]; simp), if_neg (by omega)]
      exact (r_take_open0 X Y A n c t.empty t w M hG ho hk hX hA rfl hn h0 ht hE).mono fun e w' ⟨a, b, d⟩ => ⟨by rw [hE]; exact a, b, fun _ => d⟩
    · by_cases h1 : t.name = []
      · exact r_open1_name X Y A n c t.empty t w hG ho hr ht hkl hk hX h1
      by_cases h2 : 32 ≤ G.opn.length
      · exact r_open1_deep X Y A n c t.empty t w hG ho hr ht hkl hk hX h1 h2
      by_cases h3 : 500 ≤ G.l.length
      · exact r_open1_big X Y A n c t.empty t w hG ho hr ht hkl hk hX h1 h2 h3
      have hE : takeE G t = 0 := by
        unfold takeE
        rw [if_pos hk, if_neg h1, if_neg (by omega), if_neg h2, if_neg h3]
      exact (r_take_open1 X Y A n c t.empty t w M hG ho hk hX hA rfl hn hr ht hkl hE).mono fun e w' ⟨a, b, d⟩ => ⟨by rw [hE]; exact a, b, fun _ => d⟩
  by_cases k2 : t.kind = 2
  · have := r_take_close 2 X Y A n c t.empty t w hG ho k2 hX
    rw [k2]
    exact this
  by_cases k3 : t.kind = 3
  · rcases top_cases G ho with ⟨h0, ht⟩ | ⟨k, r, hr, ht, hkl⟩
    · have := r_take_text0 X Y A n c t.empty t w hG ho k3 hY (by omega) h0 ht
      rw [k3]
      exact this
    · have := r_take_text1 X Y A n c t.empty t w hG ho k3 hY (by omega) hr ht hkl (fun x hx => by have := hsm x hx; omega)
      rw [k3]
      exact this
  rcases top_cases G ho with ⟨h0, ht⟩ | ⟨k, r, hr, ht, hkl⟩
  · exact r_else0 X Y A n c t.empty t w hG ho h0 ht t.kind rfl k1 k2 k3
  · exact r_else1 X Y A n c t.empty t w hG ho hr ht hkl t.kind rfl k1 k2 k3
/-- a store into a row of one's own whose elements have several cells -/
theorem gr_own_setS {e : TypeId} {s n cap b : Nat} {ys : List Value} (h : w.ownsRow base e s (.slice (some ⟨b, 0, none⟩) n cap) n ys) {j : Nat} (hj : j < n * s) (u : Value) :
    (w.setCell ⟨b, j, none⟩ u).ownsRow base e s (.slice (some ⟨b, 0, none⟩) n cap) n (ys.set j u) := by
  have h1 := h.1
  rcases h.2 with ⟨e, _⟩ | ⟨b', cap', cur, e, hb, hg, hnc, hm, hc, ht⟩
  · exact nomatch (Value.slice.inj e).1
  · obtain ⟨e1, e2, e3⟩ := Value.slice.inj e
    injection e1 with e1
    injection e1 with e1
    subst e1 e3
    have hbk : Bk w b _ cur.toList := hg
    refine ⟨by rw [List.length_set]; exact h1, .inr ⟨b, cap, (cur.toList.set j u).toArray, rfl, hb, hbk.set_ j u, hnc, hm, by simpa using hc, ?_⟩⟩
    rw [← ht]
    simp [List.take_set]
theorem ItemsF.set_ {α : Type} {I : World → (Nat → Prop) → List Value → α → Prop} {s : Nat} {N : Nat → Prop} (hI : ItemOk s I) : ∀ {ls : List α} {ys : List Value} (h : ItemsF I w N ys ls) (i : Nat) (hi : i < ls.length) (j : Nat) (hj : j < s) (u : Value) (a : α), I w N (((ys.drop (i * s)).take s).set j u) a → ItemsF I w N (ys.set (i * s + j) u) (ls.set i a)
  | [], _, _, i, hi, _, _, _, _, _ => by simp at hi
  | b :: ls, _, ⟨cs, rest, e, h1, h2⟩, 0, hi, j, hj, u, a, ha => by
    have hl := hI.len h1
    subst e
    rw [Nat.zero_mul, List.drop_zero, List.take_left' hl] at ha
    rw [Nat.zero_mul, Nat.zero_add, List.set_append_left _ _ (by omega)]
    exact ⟨cs.set j u, rest, rfl, ha, h2⟩
  | b :: ls, _, ⟨cs, rest, e, h1, h2⟩, i + 1, hi, j, hj, u, a, ha => by
    have hl := hI.len h1
    subst e
    have e2 : (i + 1) * s = cs.length + i * s := by rw [hl, Nat.add_mul]; omega
    rw [e2, List.drop_append, List.drop_eq_nil_of_le (by omega), List.nil_append, Nat.add_sub_cancel_left] at ha
    have h3 := ItemsF.set_ hI h2 i (by simpa using hi) j hj u a ha
    rw [e2, Nat.add_assoc, List.set_append_right _ _ (by omega), Nat.add_sub_cancel_left]
    exact ⟨cs, _, rfl, h1, h3⟩
/-- a text into the k-th node -/
theorem GrV.setT {b1 c1 k : Nat} {Y : ByteArray} {nd : Nod} (h : GrV w base g (.slice (some ⟨b1, 0, none⟩) G.l.length c1) v2 v3 v4 xs G) (hk : G.l[k]? = some nd) :
    GrV (w.setCell ⟨b1, k * 4 + 2, none⟩ (.string Y)) base g (.slice (some ⟨b1, 0, none⟩) G.l.length c1) v2 v3 v4 xs { G with l := G.l.set k { nd with text := Y.data.toList } } := by
  have hkl : k < G.l.length := (List.getElem?_eq_some_iff.1 hk).1
  have hs : Fr (Just b1) w (w.setCell ⟨b1, k * 4 + 2, none⟩ (.string Y)) := (Fr.refl (Just b1) w).setCell (p := ⟨b1, k * 4 + 2, none⟩) (.inl (Just.at b1)) _
  obtain ⟨ys, ho, hi⟩ := h.o1.xs
  have hat := ItemsF.at_ nod_ok hi k hkl
  have hnd : G.l[k] = nd := (List.getElem?_eq_some_iff.1 hk).2
  rw [hnd] at hat
  have h1 : b1 ≠ g := fun e => h.ap.g1 (by rw [e]; rfl)
  have hD : ∀ i, Deep w base g (.slice (some ⟨b1, 0, none⟩) G.l.length c1) v2 v3 v4 i → ¬ Just b1 i := fun i hi e => hi.2.2.2.1 (by rw [show i = b1 from e]; rfl)
  have hi2 := ItemsF.fr nod_ok hi hs hD
  have hat2 := nod_ok.fr hat hs hD
  have hset := ItemsF.set_ nod_ok hi2 k hkl 2 (by omega) (.string Y) { nd with text := Y.data.toList } (by
    obtain ⟨X, Y0, A, n, c, hcs, hX, hY, hA⟩ := hat2
    rw [hcs]
    exact ⟨X, Y, A, n, c, rfl, hX, rfl, hA⟩)
  have ho2 := gr_own_setS ho (j := k * 4 + 2) (by omega) (.string Y)
  have hz : (w.setCell ⟨b1, k * 4 + 2, none⟩ (.string Y)).heap.size = w.heap.size := by simp [World.setCell]
  refine ⟨h.bk.fr hs (fun e => h1 e.symm), h.low, ?_, hs.own h.o2 (fun i e e2 => h.ap.h12 i (by rw [show i = b1 from e2]; rfl) e), h.ex, hs.own h.o3 (fun i e e2 => h.ap.h13 i (by rw [show i = b1 from e2]; rfl) e), hs.own h.o4 (fun i e e2 => h.ap.h14 i (by rw [show i = b1 from e2]; rfl) e), h.ap⟩
  rw [show ({ G with l := G.l.set k { nd with text := Y.data.toList } } : Gro).l.length = G.l.length from by simp]
  exact ⟨⟨_, ho2, ItemsF.mono nod_ok hset (fun i hi => ⟨hi.1, by rw [hz]; exact hi.2.1, hi.2.2⟩)⟩⟩
end Go.Proofs.YthkjmbkfcnehoaaGreatDoor
