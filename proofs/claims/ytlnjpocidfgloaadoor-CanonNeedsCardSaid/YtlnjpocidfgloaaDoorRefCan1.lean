/- The statements' own trees: the places of the nodes of a parent, how deep one stands, whether one is still open. -/
import Derived.Test.YtlnjpocidfgloaaDoorKids
import Derived.Test.YtlnjpocidfgloaaDoorCanRight
namespace Go.Proofs.YtlnjpocidfgloaaDoor
open Go.RowKit
set_option maxHeartbeats 400000
set_option linter.unusedVariables false

theorem r_Kids_any (ns : List Nod) (A : Option Addr) (n c : Nat) (i : Int) (N : Nat → Prop) (w : World) (h : RdI 4 NodI w N A n c ns) (hn : n ≤ 1000000000) :
    Calls Tryd.prog 28 #[.slice A n c, .int .i64 i] w fun e w' => ∃ v, e = .returned v ∧ w'.ownsRow w.heap.size 3 1 v (kidsL ns i).length (ints (natI (kidsL ns i))) ∧ Fr No w w' := by
  have hlen := h.len nod_ok (by omega)
  by_cases h1 : i < 0
  · have hk : kidsL ns i = [] := by unfold kidsL; rw [if_neg (by omega)]
    rw [hk]
    have h1' : ¬ i ≥ 0 := by omega
    clear hk h
    go_enter Tryd.func28, Tryd.ntmps28
    go_wp2
    refine wp_loop_rounds 1 ?_
    rw [rounds_succ]
    rcases Nat.eq_zero_or_pos n with h0 | h0
    · subst h0
      go_wp2
      go_ret
      exact ⟨_, rfl, World.ownsRow_nil _ _ _ _, Fr.refl _ _⟩
    · go_wp2
      go_ret
      exact ⟨_, rfl, World.ownsRow_nil _ _ _ _, Fr.refl _ _⟩
  by_cases h2 : (n : Int) ≤ i
  · have hk : kidsL ns i = [] := by unfold kidsL; rw [if_neg (by omega)]
    rw [hk]
    have h1' : i ≥ 0 := by omega
    have h2' : ¬ i < (n : Int) := by omega
    clear hk h
    go_enter Tryd.func28, Tryd.ntmps28
    go_wp2
    refine wp_loop_rounds 1 ?_
    rw [rounds_succ]
    rcases Nat.eq_zero_or_pos n with h0 | h0
    · subst h0
      go_wp2
      go_ret
      exact ⟨_, rfl, World.ownsRow_nil _ _ _ _, Fr.refl _ _⟩
    · go_wp2
      go_ret
      exact ⟨_, rfl, World.ownsRow_nil _ _ _ _, Fr.refl _ _⟩
  have hk : kidsL ns i = kidsF ns i ns.length := by unfold kidsL; rw [if_pos (by omega)]
  rw [hk]
  have h1' : i ≥ 0 := by omega
  have h2' : i < (n : Int) := by omega
  have HR := Lib.hid h
  clear hk h h1 h2
  go_enter Tryd.func28, Tryd.ntmps28
  go_wp2
  go_loopw [5, 6] (fun lv iv wr => ∃ k : Nat, iv = .int .i64 (k : Int) ∧ k ≤ n ∧ wr.ownsRow w.heap.size 3 1 lv (kidsF ns i k).length (ints (natI (kidsF ns i k))) ∧ Fr No w wr) (fun _ iv _ => n - (intOf iv).toNat)
  case atStart => exact ⟨0, rfl, Nat.zero_le _, World.ownsRow_nil _ _ _ _, Fr.refl _ _⟩
  case round =>
    obtain ⟨k, rfl, hk, hown, hfr⟩ := hrel
    have hvs : ∃ A c, u5 = .slice A (kidsF ns i k).length c := by obtain ⟨A, c, e, _⟩ := Rd.of_own hown; exact ⟨A, c, e⟩
    obtain ⟨VA, vc, rfl⟩ := hvs
    have hvl := hown.lt
    have hsz := hfr.size
    have hkl := kidsF_len ns i k
    rcases Nat.lt_or_ge k n with hlt | hge
    · have hltI : (k : Int) < (n : Int) := by omega
      obtain ⟨ad, cs, rfl, ⟨X, Y, A1, n1, c1, rfl, hX, hY, hA1⟩, hc⟩ := (HR.out.no nod_ok hfr).at_ nod_ok (by omega) (i := k) (by omega)
      have x0 := hc 0 _ rfl
      obtain ⟨P, hP⟩ : ∃ P, ad.add (k * 4) = P := ⟨_, rfl⟩
      rw [Nat.add_zero, hP] at x0
      have hkn : k < ns.length := by omega
      have hsucc : kidsF ns i (k + 1) = kidsF ns i k ++ (if ns[k].parent = i then [k] else []) := by
        show kidsF ns i k ++ _ = _
        rw [List.getElem?_eq_getElem hkn]
        simp only [Option.map_some, Option.some.injEq]
      have HOWN := Lib.hid hown; have HFR := Lib.hid hfr; have HVL := Lib.hid hvl
      by_cases hp : ns[k].parent = i
      · rw [if_pos hp] at hsucc
        rw [hp] at x0
        have HS := Lib.hid hsucc
        clear hown hfr hvl hc hA1 hX hY hsucc hp
        go_wp2_with (at_builtin; go_must (refine apI_one' _ rfl (.tmp 30) (.tmp 32) rfl w.heap.size (.slice VA (kidsF ns i k).length vc) (kidsF ns i k).length (natI (kidsF ns i k)) rfl HOWN.out (k : Int) _ _ (by simp) rfl (by omega) (by omega) ?_; intro v' w' ho' hg' hv'))
        have hf2 : Fr No w w' := HFR.out.trans_new (((Fr.refl (fun j => (Value.slice VA (kidsF ns i k).length vc).ownBlock = some j) wr).alloc _).grown hg' (fun g e => .inl e)) (fun j e => .inr (HVL.out j e).1)
        go_roundw
        case rel =>
          refine ⟨k + 1, by go_num, hlt, ?_, hf2⟩
          rw [HS.out, List.length_append]
          simpa [natI] using ho'
        case measure => simp [intOf]; omega
      · rw [if_neg hp, List.append_nil] at hsucc
        have hne : (ns[k].parent == i) = false := beq_eq_false_iff_ne.2 hp
        have HS := Lib.hid hsucc
        clear hown hfr hvl hc hA1 hX hY hsucc hp
        go_wp2
        go_roundw
        case rel =>
          refine ⟨k + 1, by go_num, hlt, ?_, HFR.out⟩
          rw [HS.out]
          exact HOWN.out
        case measure => simp [intOf]; omega
    · have hke : k = n := by omega
      subst hke
      have HOWN := Lib.hid hown; have HFR := Lib.hid hfr
      clear hown hfr hvl
      go_wp2
      go_ret
      exact ⟨_, rfl, by rw [hlen]; exact HOWN.out, HFR.out⟩

/-! ### how deep -/
theorem chain_far (l : List Nod) (f : Nat) {k : Int} (h : (l.length : Int) ≤ k) : chainF l f k = [] := by
  obtain ⟨j, rfl⟩ := Int.eq_ofNat_of_zero_le (show 0 ≤ k by omega)
  exact chain_out (List.getElem?_eq_none (by omega)) f
theorem r_depth_any (ns : List Nod) (A : Option Addr) (n c : Nat) (i : Int) (N : Nat → Prop) (w : World) (h : RdI 4 NodI w N A n c ns) (hn : n ≤ 1000000000) :
    Calls Tryd.prog 23 #[.slice A n c, .int .i64 i] w fun e w' => e = .returned (.int .i64 ((chainF ns 34 i).length : Int)) ∧ w = w' := by
  have hlen := h.len nod_ok (by omega)
  have HR := Lib.hid h
  clear h
  go_enter Tryd.func23, Tryd.ntmps23
  go_wp2
  go_loop [5, 6] (fun mv kv => ∃ (m : Nat) (k : Int), mv = .int .i64 (m : Int) ∧ kv = .int .i64 k ∧ m ≤ 34 ∧ (chainF ns 34 i).length = m + (chainF ns (34 - m) k).length) (fun mv _ => 34 - (intOf mv).toNat)
  case atStart => exact ⟨0, i, rfl, rfl, by omega, by simp⟩
  case round =>
    obtain ⟨m, k, rfl, rfl, hm, hch⟩ := hrel
    by_cases h0 : k < 0
    · have h0' : ¬ k ≥ 0 := by omega
      rw [chain_neg _ _ h0, List.length_nil, Nat.add_zero] at hch
      have HC := Lib.hid hch
      clear hch h0
      go_wp2
      go_ret
      exact ⟨by rw [HC.out]; rfl, rfl⟩
    by_cases h1 : (n : Int) ≤ k
    · have h0' : k ≥ 0 := by omega
      have h1' : ¬ k < (n : Int) := by omega
      rw [chain_far ns (34 - m) (k := k) (by omega), List.length_nil, Nat.add_zero] at hch
      have HC := Lib.hid hch
      clear hch h0 h1
      go_wp2
      go_ret
      exact ⟨by rw [HC.out]; rfl, rfl⟩
    have h0' : k ≥ 0 := by omega
    have h1' : k < (n : Int) := by omega
    by_cases h2 : m = 34
    · subst h2
      have h2' : ¬ ((34 : Nat) : Int) ≤ 33 := by omega
      replace hch : (chainF ns 34 i).length = 34 := by simpa [chainF] using hch
      have HC := Lib.hid hch
      clear hch h0 h1
      go_wp2
      go_ret
      exact ⟨by rw [HC.out]; rfl, rfl⟩
    · have h2' : (m : Int) ≤ 33 := by omega
      obtain ⟨q, rfl⟩ := Int.eq_ofNat_of_zero_le h0'
      have hql : q < ns.length := by omega
      obtain ⟨ad, cs, rfl, ⟨X, Y, A1, n1, c1, rfl, hX, hY, hA1⟩, hc⟩ := HR.out.at_ nod_ok (by omega) (i := q) hql
      have x0 := hc 0 _ rfl
      obtain ⟨P, hP⟩ : ∃ P, ad.add (q * 4) = P := ⟨_, rfl⟩
      rw [Nat.add_zero, hP] at x0
      have hst := chain_at (33 - m) (List.getElem?_eq_getElem hql)
      rw [show 33 - m + 1 = 34 - m from by omega] at hst
      rw [hst, List.length_cons, show 33 - m = 34 - (m + 1) from by omega] at hch
      have HC := Lib.hid hch
      clear hch hst hc hX hY hA1 h0 h1 h2
      go_wp2
      go_round
      case rel => exact ⟨m + 1, ns[q].parent, by go_num, rfl, by omega, by rw [HC.out]; omega⟩
      case measure => simp [intOf]; omega

/-! ### is one still open? -/
def opnB (l : List Nod) (p k : Int) : Bool := if k < 0 then false else (chainL l k.toNat).contains p
theorem opn_step {l : List Nod} {q : Nat} {p : Int} (hv : Valid l q) (hq : q < l.length) (hne : (q : Int) ≠ p) : opnB l p (q : Int) = opnB l p (l[q]).parent := by
  obtain ⟨v1, v2⟩ := hv q _ (Nat.le_refl _) (List.getElem?_eq_getElem hq)
  have hb : (p == (q : Int)) = false := by rw [beq_eq_false_iff_ne]; exact fun e => hne e.symm
  unfold opnB
  rw [if_neg (by omega), Int.toNat_natCast]
  rcases Nat.eq_zero_or_pos q with h0 | h0
  · subst h0
    rw [if_pos (v1 rfl), chain_zero (List.getElem?_eq_getElem hq) (v1 rfl)]
    simpa using fun e : p = 0 => hne e.symm
  · obtain ⟨r, hr⟩ := Int.eq_ofNat_of_zero_le (v2 h0).1
    have := (v2 h0).2
    rw [if_neg (by omega), chain_succ hv (List.getElem?_eq_getElem hq) hr h0, List.contains_cons, hb, hr, Int.toNat_natCast, Bool.false_or]
theorem opn_here {l : List Nod} {q : Nat} (hq : q < l.length) : opnB l (q : Int) (q : Int) = true := by
  unfold opnB
  obtain ⟨t, ht⟩ := chain_head hq
  rw [if_neg (by omega), Int.toNat_natCast, ht]
  simp
theorem r_opens_any (ns : List Nod) (A : Option Addr) (n c : Nat) (p : Int) (last : Nat) (N : Nat → Prop) (w : World) (h : RdI 4 NodI w N A n c ns) (hn : n ≤ 1000000000) (hv : Valid ns last) (hl : last < n) :
    Calls Tryd.prog 19 #[.slice A n c, .int .i64 p, .int .i64 (last : Int)] w fun e w' => e = .returned (.bool ((chainL ns last).contains p)) ∧ w = w' := by
  have hlen := h.len nod_ok (by omega)
  have e0 : (chainL ns last).contains p = opnB ns p (last : Int) := by unfold opnB; rw [if_neg (by omega), Int.toNat_natCast]
  rw [e0]
  have HR := Lib.hid h; have HV := Lib.hid hv
  clear h e0 hv
  obtain ⟨V, hV⟩ : ∃ V, opnB ns p (last : Int) = V := ⟨_, rfl⟩
  rw [hV]
  have HV0 := Lib.hid hV
  clear hV
  go_enter Tryd.func19, Tryd.ntmps19
  go_wp2
  go_loop [7] (fun kv => ∃ k : Int, kv = .int .i64 k ∧ k ≤ (last : Int) ∧ opnB ns p k = V) (fun kv => (intOf kv + 1).toNat)
  case atStart => exact ⟨last, rfl, Int.le_refl _, HV0.out⟩
  case round =>
    obtain ⟨k, rfl, hk, hch⟩ := hrel
    by_cases h0 : k < 0
    · have h0' : ¬ k ≥ 0 := by omega
      have hf : V = false := by rw [← hch]; unfold opnB; rw [if_pos h0]
      subst hf
      clear hch h0 HV0
      go_wp2
      go_ret
      exact ⟨rfl, rfl⟩
    have h0' : k ≥ 0 := by omega
    obtain ⟨q, rfl⟩ := Int.eq_ofNat_of_zero_le h0'
    have hql : q < ns.length := by omega
    by_cases hp : (q : Int) = p
    · subst hp
      rw [opn_here hql] at hch
      subst hch
      clear h0 HV0
      go_wp2
      go_ret
      exact ⟨rfl, rfl⟩
    · have hpe : ((q : Int) == p) = false := beq_eq_false_iff_ne.2 hp
      have hvq := valid_le HV.out (show q ≤ last by omega)
      rw [opn_step hvq hql hp] at hch
      have hlt : (ns[q]).parent < (q : Int) := by
        obtain ⟨v1, v2⟩ := hvq q _ (Nat.le_refl _) (List.getElem?_eq_getElem hql)
        rcases Nat.eq_zero_or_pos q with h | h
        · have := v1 h; omega
        · exact (v2 h).2
      obtain ⟨ad, cs, rfl, ⟨X, Y, A1, n1, c1, rfl, hX, hY, hA1⟩, hc⟩ := HR.out.at_ nod_ok (by omega) (i := q) hql
      have x0 := hc 0 _ rfl
      obtain ⟨P, hP⟩ : ∃ P, ad.add (q * 4) = P := ⟨_, rfl⟩
      rw [Nat.add_zero, hP] at x0
      generalize ns[q].parent = r at *
      have hqn : (q : Int) < (n : Int) := by omega
      have HC := Lib.hid hch
      clear hch hc hX hY hA1 h0 hp hvq
      go_wp2
      go_round
      case rel => exact ⟨r, rfl, by omega, HC.out⟩
      case measure => simp [intOf]; omega
end Go.Proofs.YtlnjpocidfgloaaDoor
