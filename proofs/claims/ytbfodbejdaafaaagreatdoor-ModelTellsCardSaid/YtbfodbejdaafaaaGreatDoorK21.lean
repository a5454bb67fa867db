/- The texts Kids, RefKids, joined. -/
import Derived.Test.YtbfodbejdaafaaaGreatDoorK20
import Derived.Test.YtbfodbejdaafaaaGreatDoorK03
/- The places of the nodes of a parent: package tree's call. -/
namespace Go.Proofs.YtbfodbejdaafaaaGreatDoor
open Go.RowKit
set_option maxHeartbeats 400000
set_option linter.unusedVariables false

theorem apI_one' (w : World) {ops : Array Oper} {rest : List Oper} {o : Oper} {a : Act} {Q : Exit → Act → World → Prop} (hgd : Region.wanted o (yielded ops a.tmps) = true) (s x : Operand)
    (ho : o.op = .call { callee := .builtin .append, args := #[s, x], argTypes := #[59, 59] })
    (base : Nat) (v : Value) (n : Nat) (l : List Int) (hs : a.eval s = v) (hown : w.ownsRow base 3 1 v n (ints l)) (i : Int) (t : TypeId) (bk : Nat) (hbk : w.heap.size = bk)
    (hx : a.eval x = .slice (some ⟨bk, 0, none⟩) 1 1) (hb : n + 1 ≤ 17592186044416) (hbase : base ≤ w.heap.size)
    (h : ∀ v' w', w'.ownsRow base 3 1 v' (n + 1) (ints (l ++ [i])) → (w.alloc (.cells #[.int .i64 i] t)).grownBy w' v.ownBlock → (v'.ownBlock = v.ownBlock ∨ v'.ownBlock = some (w.heap.size + 1)) → wpList Tryz.prog ops Q rest (a.put o.dst v') w') :
    wpList Tryz.prog ops Q (o :: rest) a (w.alloc (.cells #[.int .i64 i] t)) := by
  subst hbk
  exact apI_one w hgd s x ho base v n l hs hown i t hx hb hbase h
/-- the places, as numbers -/
def natI (l : List Nat) : List Int := l.map (fun (k : Nat) => (k : Int))
theorem kids_any (ns : List Nod) (A : Option Addr) (n c : Nat) (i : Int) (N : Nat → Prop) (w : World) (h : RdI 4 NodI w N A n c ns) (hn : n ≤ 1000000000) :
    Calls Tryz.prog 64 #[.slice A n c, .int .i64 i] w fun e w' => ∃ v, e = .returned v ∧ w'.ownsRow w.heap.size 3 1 v (kidsL ns i).length (ints (natI (kidsL ns i))) ∧ Fr No w w' := by
  have hlen := h.len nod_ok (by omega)
  by_cases h1 : i < 0
  · have hk : kidsL ns i = [] := by unfold kidsL; rw [if_neg (by omega)]
    rw [hk]
    clear hk h
    go_enter Tryz.func64, Tryz.ntmps64
    go_wp2
    go_ret
    exact ⟨_, rfl, World.ownsRow_nil _ _ _ _, Fr.refl _ _⟩
  by_cases h2 : (n : Int) ≤ i
  · have hk : kidsL ns i = [] := by unfold kidsL; rw [if_neg (by omega)]
    rw [hk]
    clear hk h
    go_enter Tryz.func64, Tryz.ntmps64
    go_wp2
    go_ret
    exact ⟨_, rfl, World.ownsRow_nil _ _ _ _, Fr.refl _ _⟩
  have hk : kidsL ns i = kidsF ns i ns.length := by unfold kidsL; rw [if_pos (by omega)]
  rw [hk]
  have HR := Lib.hid h
  clear hk h
  go_enter Tryz.func64, Tryz.ntmps64
  go_wp2
  go_loopw [5, 18] (fun lv iv wr => ∃ k : Nat, iv = .int .i64 (k : Int) ∧ k ≤ n ∧ wr.ownsRow w.heap.size 3 1 lv (kidsF ns i k).length (ints (natI (kidsF ns i k))) ∧ Fr No w wr) (fun _ iv _ => n - (intOf iv).toNat)
  case atStart => exact ⟨0, rfl, Nat.zero_le _, World.ownsRow_nil _ _ _ _, Fr.refl _ _⟩
  case round =>
    obtain ⟨k, rfl, hk, hown, hfr⟩ := hrel
    have hvs : ∃ A c, u5 = .slice A (kidsF ns i k).length c := by obtain ⟨A, c, e, _⟩ := Rd.of_own hown; exact ⟨A, c, e⟩
    obtain ⟨VA, vc, rfl⟩ := hvs
    have hvl := hown.lt
    have hsz := hfr.size
    have hkl := kidsF_len ns i k
    rcases Nat.lt_or_ge k n with hlt | hge
    · have hltI : (k : Int) < (n : Int) := by omega
      obtain ⟨ad, cs, rfl, ⟨X, Y, A1, n1, c1, rfl, hX, hY, hA1⟩, hc⟩ := (HR.out.no nod_ok hfr).at_ nod_ok (by omega) (i := k) (by omega)
      have x0 := hc 0 _ rfl
      have x1 := hc 1 _ rfl
      have x2 := hc 2 _ rfl
      have x3 := hc 3 _ rfl
      rw [add_next ad] at x1 x2 x3
      obtain ⟨P, hP⟩ : ∃ P, ad.add (k * 4) = P := ⟨_, rfl⟩
      rw [Nat.add_zero, hP] at x0
      rw [hP] at x1 x2 x3
      have hkn : k < ns.length := by omega
      have hsucc : kidsF ns i (k + 1) = kidsF ns i k ++ (if ns[k].parent = i then [k] else []) := by
        show kidsF ns i k ++ _ = _
        rw [List.getElem?_eq_getElem hkn]
        simp only [Option.map_some, Option.some.injEq]
      have HOWN := Lib.hid hown; have HFR := Lib.hid hfr; have HVL := Lib.hid hvl
      by_cases hp : ns[k].parent = i
      · rw [if_pos hp] at hsucc
        rw [hp] at x0
        have HS := Lib.hid hsucc
        clear hown hfr hvl hc hA1 hX hY hsucc hp
        go_wp2_with (at_builtin; go_must (refine apI_one' _ rfl (.tmp 27) (.tmp 29) rfl w.heap.size (.slice VA (kidsF ns i k).length vc) (kidsF ns i k).length (natI (kidsF ns i k)) rfl (HOWN.out.alloc _) (k : Int) _ _ (by simp) rfl (by omega) (by simp; omega) ?_; intro v' w' ho' hg' hv'))
        have hf2 : Fr No w w' := HFR.out.trans_new ((((Fr.refl (fun j => (Value.slice VA (kidsF ns i k).length vc).ownBlock = some j) wr).alloc _).alloc _).grown hg' (fun g e => .inl e)) (fun j e => .inr (HVL.out j e).1)
        go_roundw
        case rel =>
          refine ⟨k + 1, by go_num, hlt, ?_, hf2⟩
          rw [HS.out, List.length_append]
          simpa [natI] using ho'
        case measure => simp [intOf]; omega
      · rw [if_neg hp, List.append_nil] at hsucc
        have hne : (ns[k].parent == i) = false := beq_eq_false_iff_ne.2 hp
        have HS := Lib.hid hsucc
        clear hown hfr hvl hc hA1 hX hY hsucc hp
        go_wp2
        go_roundw
        case rel =>
          refine ⟨k + 1, by go_num, hlt, ?_, HFR.out.alloc _⟩
          rw [HS.out]
          exact HOWN.out.alloc _
        case measure => simp [intOf]; omega
    · have hke : k = n := by omega
      subst hke
      have HOWN := Lib.hid hown; have HFR := Lib.hid hfr
      clear hown hfr hvl
      go_wp2
      go_ret
      exact ⟨_, rfl, by rw [hlen]; exact HOWN.out, HFR.out⟩
end Go.Proofs.YtbfodbejdaafaaaGreatDoor
/- The statements' own trees: the places of the nodes of a parent. -/
namespace Go.Proofs.YtbfodbejdaafaaaGreatDoor
open Go.RowKit
set_option maxHeartbeats 400000
set_option linter.unusedVariables false

theorem r_Kids_any (ns : List Nod) (A : Option Addr) (n c : Nat) (i : Int) (N : Nat → Prop) (w : World) (h : RdI 4 NodI w N A n c ns) (hn : n ≤ 1000000000) :
    Calls Tryz.prog 25 #[.slice A n c, .int .i64 i] w fun e w' => ∃ v, e = .returned v ∧ w'.ownsRow w.heap.size 3 1 v (kidsL ns i).length (ints (natI (kidsL ns i))) ∧ Fr No w w' := by
  have hlen := h.len nod_ok (by omega)
  by_cases h1 : i < 0
  · have hk : kidsL ns i = [] := by unfold kidsL; rw [if_neg (by omega)]
    rw [hk]
    have h1' : ¬ i ≥ 0 := by omega
    clear hk h
    go_enter Tryz.func25, Tryz.ntmps25
    go_wp2
    refine wp_loop_rounds 1 ?_
    rw [rounds_succ]
    rcases Nat.eq_zero_or_pos n with h0 | h0
    · subst h0
      go_wp2
      go_ret
      exact ⟨_, rfl, World.ownsRow_nil _ _ _ _, Fr.refl _ _⟩
    · go_wp2
      go_ret
      exact ⟨_, rfl, World.ownsRow_nil _ _ _ _, Fr.refl _ _⟩
  by_cases h2 : (n : Int) ≤ i
  · have hk : kidsL ns i = [] := by unfold kidsL; rw [if_neg (by omega)]
    rw [hk]
    have h1' : i ≥ 0 := by omega
    have h2' : ¬ i < (n : Int) := by omega
    clear hk h
    go_enter Tryz.func25, Tryz.ntmps25
    go_wp2
    refine wp_loop_rounds 1 ?_
    rw [rounds_succ]
    rcases Nat.eq_zero_or_pos n with h0 | h0
    · subst h0
      go_wp2
      go_ret
      exact ⟨_, rfl, World.ownsRow_nil _ _ _ _, Fr.refl _ _⟩
    · go_wp2
      go_ret
      exact ⟨_, rfl, World.ownsRow_nil _ _ _ _, Fr.refl _ _⟩
  have hk : kidsL ns i = kidsF ns i ns.length := by unfold kidsL; rw [if_pos (by omega)]
  rw [hk]
  have h1' : i ≥ 0 := by omega
  have h2' : i < (n : Int) := by omega
  have HR := Lib.hid h
  clear hk h h1 h2
  go_enter Tryz.func25, Tryz.ntmps25
  go_wp2
  go_loopw [5, 6] (fun lv iv wr => ∃ k : Nat, iv = .int .i64 (k : Int) ∧ k ≤ n ∧ wr.ownsRow w.heap.size 3 1 lv (kidsF ns i k).length (ints (natI (kidsF ns i k))) ∧ Fr No w wr) (fun _ iv _ => n - (intOf iv).toNat)
  case atStart => exact ⟨0, rfl, Nat.zero_le _, World.ownsRow_nil _ _ _ _, Fr.refl _ _⟩
  case round =>
    obtain ⟨k, rfl, hk, hown, hfr⟩ := hrel
    have hvs : ∃ A c, u5 = .slice A (kidsF ns i k).length c := by obtain ⟨A, c, e, _⟩ := Rd.of_own hown; exact ⟨A, c, e⟩
    obtain ⟨VA, vc, rfl⟩ := hvs
    have hvl := hown.lt
    have hsz := hfr.size
    have hkl := kidsF_len ns i k
    rcases Nat.lt_or_ge k n with hlt | hge
    · have hltI : (k : Int) < (n : Int) := by omega
      obtain ⟨ad, cs, rfl, ⟨X, Y, A1, n1, c1, rfl, hX, hY, hA1⟩, hc⟩ := (HR.out.no nod_ok hfr).at_ nod_ok (by omega) (i := k) (by omega)
      have x0 := hc 0 _ rfl
      obtain ⟨P, hP⟩ : ∃ P, ad.add (k * 4) = P := ⟨_, rfl⟩
      rw [Nat.add_zero, hP] at x0
      have hkn : k < ns.length := by omega
      have hsucc : kidsF ns i (k + 1) = kidsF ns i k ++ (if ns[k].parent = i then [k] else []) := by
        show kidsF ns i k ++ _ = _
        rw [List.getElem?_eq_getElem hkn]
        simp only [Option.map_some, Option.some.injEq]
      have HOWN := Lib.hid hown; have HFR := Lib.hid hfr; have HVL := Lib.hid hvl
      by_cases hp : ns[k].parent = i
      · rw [if_pos hp] at hsucc
        rw [hp] at x0
        have HS := Lib.hid hsucc
        clear hown hfr hvl hc hA1 hX hY hsucc hp
        go_wp2_with (at_builtin; go_must (refine apI_one' _ rfl (.tmp 30) (.tmp 32) rfl w.heap.size (.slice VA (kidsF ns i k).length vc) (kidsF ns i k).length (natI (kidsF ns i k)) rfl HOWN.out (k : Int) _ _ (by simp) rfl (by omega) (by omega) ?_; intro v' w' ho' hg' hv'))
        have hf2 : Fr No w w' := HFR.out.trans_new (((Fr.refl (fun j => (Value.slice VA (kidsF ns i k).length vc).ownBlock = some j) wr).alloc _).grown hg' (fun g e => .inl e)) (fun j e => .inr (HVL.out j e).1)
        go_roundw
        case rel =>
          refine ⟨k + 1, by go_num, hlt, ?_, hf2⟩
          rw [HS.out, List.length_append]
          simpa [natI] using ho'
        case measure => simp [intOf]; omega
      · rw [if_neg hp, List.append_nil] at hsucc
        have hne : (ns[k].parent == i) = false := beq_eq_false_iff_ne.2 hp
        have HS := Lib.hid hsucc
        clear hown hfr hvl hc hA1 hX hY hsucc hp
        go_wp2
        go_roundw
        case rel =>
          refine ⟨k + 1, by go_num, hlt, ?_, HFR.out⟩
          rw [HS.out]
          exact HOWN.out
        case measure => simp [intOf]; omega
    · have hke : k = n := by omega
      subst hke
      have HOWN := Lib.hid hown; have HFR := Lib.hid hfr
      clear hown hfr hvl
      go_wp2
      go_ret
      exact ⟨_, rfl, by rw [hlen]; exact HOWN.out, HFR.out⟩

/-! ### how deep -/
end Go.Proofs.YtbfodbejdaafaaaGreatDoor
