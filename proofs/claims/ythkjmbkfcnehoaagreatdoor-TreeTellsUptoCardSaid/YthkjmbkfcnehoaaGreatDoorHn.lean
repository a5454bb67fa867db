/- The texts HelpTok, HelpNod, Kids, joined. -/
import Derived.Test.YthkjmbkfcnehoaaGreatDoorIts
import Derived.Test.YthkjmbkfcnehoaaGreatDoorSm
import Derived.Lib.QuietBelow
/- The statements' own helpers: rows of attributes and of tokens that are alike, held against each other. -/
namespace Go.Proofs.YthkjmbkfcnehoaaGreatDoor
open Go.RowKit
set_option maxHeartbeats 1000000
set_option linter.unusedVariables false

theorem add_next (ad : Addr) (i j : Nat) : ad.add (i + (j + 1)) = ⟨(ad.add i).block, (ad.add i).off + (j + 1), none⟩ := by
  unfold Addr.add
  by_cases h : i = 0
  · subst h
    simp
  · simp [h]
    omega
theorem eqA_any (X Y X' Y' : ByteArray) (w : World) (h1 : X.data.toList = X'.data.toList) (h2 : Y.data.toList = Y'.data.toList) :
    Calls Tryz.prog 41 #[.agg #[.string X, .string Y], .agg #[.string X', .string Y']] w fun e w' => e = .returned (.bool true) ∧ Below w.heap.size w w' := by
  have e1 : X = X' := by cases X; cases X'; congr 1; exact Array.ext' h1
  have e2 : Y = Y' := by cases Y; cases Y'; congr 1; exact Array.ext' h2
  subst e1 e2
  clear h1 h2
  go_enter Tryz.func41, Tryz.ntmps41
  go_wp2
  go_ret
  exact ⟨rfl, (((Fr.refl No w).alloc _).alloc _).toBelow⟩
theorem sameA_any (A B : Option Addr) (n c d : Nat) (l : List (List UInt8 × List UInt8)) (N M : Nat → Prop) (w : World) (ha : RdI 2 AttrI w N A n c l) (hb : RdI 2 AttrI w M B n d l) :
    Calls Tryz.prog 40 #[.slice A n c, .slice B n d, .func (.func 41) #[] #[]] w fun e w' => e = .returned (.bool true) ∧ Fr No w w' := by
  have hn := ha.len attr_ok (by omega)
  have hm := ha.top
  go_enter Tryz.func40, Tryz.ntmps40
  go_wp2
  go_loopw [7] (fun v wr => ∃ k : Nat, k ≤ n ∧ v = .int .i64 (k : Int) ∧ Fr No w wr) (fun v _ => n - (intOf v).toNat)
  case atStart => exact ⟨0, by omega, rfl, Fr.refl _ _⟩
  case round =>
    obtain ⟨k, hk, rfl, hdr⟩ := hrel
    rcases Nat.lt_or_ge k n with hlt | hge
    · obtain ⟨ad, cs, rfl, ⟨X, Y, rfl, hX, hY⟩, hc⟩ := (ha.no attr_ok hdr).at_ attr_ok (by omega) (i := k) (by omega)
      obtain ⟨bd, ds, rfl, ⟨X', Y', rfl, hX', hY'⟩, hd⟩ := (hb.no attr_ok hdr).at_ attr_ok (by omega) (i := k) (by omega)
      have c0 := hc 0 _ rfl
      have c1 := hc 1 _ rfl
      have d0 := hd 0 _ rfl
      have d1 := hd 1 _ rfl
      rw [add_next ad] at c1
      rw [add_next bd] at d1
      obtain ⟨P, hP⟩ : ∃ P, ad.add (k * 2) = P := ⟨_, rfl⟩
      obtain ⟨Q, hQ⟩ : ∃ Q, bd.add (k * 2) = Q := ⟨_, rfl⟩
      rw [Nat.add_zero, hP] at c0
      rw [Nat.add_zero, hQ] at d0
      rw [hP] at c1
      rw [hQ] at d1
      have q0 := fun x os => cell_regrown c0 x os
      have q1 := fun x os => cell_regrown c1 x os
      have r0 := fun x os => cell_regrown d0 x os
      have r1 := fun x os => cell_regrown d1 x os
      have heq := fun u => eqA_any X Y X' Y' u (by rw [hX, hX']) (by rw [hY, hY'])
      have HEQ := Lib.hid heq
      clear hc hd heq c0 c1 d0 d1 hX hX' hY hY'
      go_wp2
      refine wp_region_quiet_below (by kernel_rfl) (by kernel_rfl) ?_
      repeat (quiet_step ((go_at_call 41; exact Calls.regrown_of (HEQ.out _))))
      refine wpQuiet_nil ?_
      intro w7 hw7r
      obtain ⟨⟨nr, osr⟩, hw7r⟩ := hw7r
      have hf7 : Fr No wr w7 := by rw [hw7r]; exact Fr.of_below (below_regrown wr nr osr)
      clear hw7r
      go_wp2
      go_roundw
      case rel => exact ⟨k + 1, by omega, by go_num, hdr.trans hf7⟩
      case measure => simp [intOf]; omega
    · obtain rfl : k = n := by omega
      go_wp2
      go_ret
      exact ⟨rfl, hdr⟩
theorem plainA_any (A B : Option Addr) (n c d : Nat) (l : List (List UInt8 × List UInt8)) (N M : Nat → Prop) (w : World) (ha : RdI 2 AttrI w N A n c l) (hb : RdI 2 AttrI w M B n d l) :
    Calls Tryz.prog 22 #[.slice A n c, .slice B n d] w fun e w' => e = .returned (.bool true) ∧ Fr No w w' := by
  go_enter Tryz.func22, Tryz.ntmps22
  go_wp2_with (go_at_call 40; refine (sameA_any _ _ _ _ _ _ _ _ _ ha hb).mono ?_; rintro e w' ⟨rfl, hdr⟩)
  go_ret
  exact ⟨rfl, hdr⟩
end Go.Proofs.YthkjmbkfcnehoaaGreatDoor
/- The statements' own helpers: rows of nodes that are alike, held against each other. -/
namespace Go.Proofs.YthkjmbkfcnehoaaGreatDoor
open Go.RowKit
set_option maxHeartbeats 1000000
set_option linter.unusedVariables false

theorem eqN_any (k : Int) (X Y X' Y' : ByteArray) (A B : Option Addr) (n c d : Nat) (l : List (List UInt8 × List UInt8)) (N M : Nat → Prop) (w : World) (h1 : X.data.toList = X'.data.toList) (h2 : Y.data.toList = Y'.data.toList) (ha : RdI 2 AttrI w N A n c l) (hb : RdI 2 AttrI w M B n d l) :
    Calls Tryz.prog 11 #[.agg #[.int .i64 k, .string X, .string Y, .slice A n c], .agg #[.int .i64 k, .string X', .string Y', .slice B n d]] w fun e w' => e = .returned (.bool true) ∧ Below w.heap.size w w' := by
  have e1 : X = X' := by cases X; cases X'; congr 1; exact Array.ext' h1
  have e2 : Y = Y' := by cases Y; cases Y'; congr 1; exact Array.ext' h2
  subst e1 e2
  have hp := fun u (hf : Fr No w u) => plainA_any A B n c d l N M u (ha.no attr_ok hf) (hb.no attr_ok hf)
  have HP := Lib.hid hp
  clear h1 h2 hp ha hb
  go_enter Tryz.func11, Tryz.ntmps11
  go_wp2_with (go_at_call 22; refine (HP.out _ (((Fr.refl No w).alloc _).alloc _)).mono ?_; rintro e w1 ⟨rfl, hf1⟩)
  go_ret
  exact ⟨rfl, ((((Fr.refl No w).alloc _).alloc _).trans hf1).toBelow⟩
theorem sameN_any (A B : Option Addr) (n c d : Nat) (l : List Nod) (N M : Nat → Prop) (w : World) (ha : RdI 4 NodI w N A n c l) (hb : RdI 4 NodI w M B n d l) :
    Calls Tryz.prog 10 #[.slice A n c, .slice B n d, .func (.func 11) #[] #[]] w fun e w' => e = .returned (.bool true) ∧ Fr No w w' := by
  have hn := ha.len nod_ok (by omega)
  have hm := ha.top
  go_enter Tryz.func10, Tryz.ntmps10
  go_wp2
  go_loopw [7] (fun v wr => ∃ k : Nat, k ≤ n ∧ v = .int .i64 (k : Int) ∧ Fr No w wr) (fun v _ => n - (intOf v).toNat)
  case atStart => exact ⟨0, by omega, rfl, Fr.refl _ _⟩
  case round =>
    obtain ⟨k, hk, rfl, hdr⟩ := hrel
    rcases Nat.lt_or_ge k n with hlt | hge
    · have hkl : k < l.length := by omega
      obtain ⟨ad, cs, rfl, ⟨X, Y, A1, n1, x1, rfl, hX, hY, hA1⟩, hc⟩ := (ha.no nod_ok hdr).at_ nod_ok (by omega) (i := k) hkl
      obtain ⟨bd, ds, rfl, ⟨X', Y', B1, m1, y1, rfl, hX', hY', hB1⟩, hd⟩ := (hb.no nod_ok hdr).at_ nod_ok (by omega) (i := k) hkl
      have e1 := hA1.len attr_ok (by omega)
      have e2 := hB1.len attr_ok (by omega)
      obtain rfl : m1 = n1 := by omega
      have c0 := hc 0 _ rfl; have c1 := hc 1 _ rfl; have c2 := hc 2 _ rfl; have c3 := hc 3 _ rfl
      have d0 := hd 0 _ rfl; have d1 := hd 1 _ rfl; have d2 := hd 2 _ rfl; have d3 := hd 3 _ rfl
      rw [add_next ad] at c1 c2 c3
      rw [add_next bd] at d1 d2 d3
      obtain ⟨P, hP⟩ : ∃ P, ad.add (k * 4) = P := ⟨_, rfl⟩
      obtain ⟨Q, hQ⟩ : ∃ Q, bd.add (k * 4) = Q := ⟨_, rfl⟩
      rw [Nat.add_zero, hP] at c0
      rw [Nat.add_zero, hQ] at d0
      rw [hP] at c1 c2 c3
      rw [hQ] at d1 d2 d3
      have heq := fun u (hf : Fr No wr u) => eqN_any l[k].parent X Y X' Y' A1 B1 m1 x1 y1 l[k].attrs N M u (by rw [hX, hX']) (by rw [hY, hY']) (hA1.no attr_ok hf) (hB1.no attr_ok hf)
      generalize l[k].parent = K at c0 d0 heq
      have HEQ := Lib.hid heq
      have q0 := fun x os => cell_regrown c0 x os; have q1 := fun x os => cell_regrown c1 x os; have q2 := fun x os => cell_regrown c2 x os; have q3 := fun x os => cell_regrown c3 x os
      have r0 := fun x os => cell_regrown d0 x os; have r1 := fun x os => cell_regrown d1 x os; have r2 := fun x os => cell_regrown d2 x os; have r3 := fun x os => cell_regrown d3 x os
      clear hc hd heq c0 c1 c2 c3 d0 d1 d2 d3 hX hX' hY hY' e1 e2 hA1 hB1
      go_wp2
      refine wp_region_quiet_below (by kernel_rfl) (by kernel_rfl) ?_
      repeat (quiet_step ((go_at_call 11; exact Calls.regrown_of (HEQ.out _ (Fr.of_below (below_regrown wr _ _))))))
      refine wpQuiet_nil ?_
      intro w7 hw7r
      obtain ⟨⟨nr, osr⟩, hw7r⟩ := hw7r
      have hf7 : Fr No wr w7 := by rw [hw7r]; exact Fr.of_below (below_regrown wr nr osr)
      clear hw7r
      go_wp2
      go_roundw
      case rel => exact ⟨k + 1, by omega, by go_num, hdr.trans hf7⟩
      case measure => simp [intOf]; omega
    · obtain rfl : k = n := by omega
      go_wp2
      go_ret
      exact ⟨rfl, hdr⟩
end Go.Proofs.YthkjmbkfcnehoaaGreatDoor
/- The places of the nodes of a parent: package tree's call. -/
namespace Go.Proofs.YthkjmbkfcnehoaaGreatDoor
open Go.RowKit
set_option maxHeartbeats 400000
set_option linter.unusedVariables false

theorem apI_one' (w : World) {ops : Array Oper} {rest : List Oper} {o : Oper} {a : Act} {Q : Exit → Act → World → Prop} (hgd : Region.wanted o (yielded ops a.tmps) = true) (s x : Operand)
    (ho : o.op = .call { callee := .builtin .append, args := #[s, x], argTypes := #[35, 35] })
    (base : Nat) (v : Value) (n : Nat) (l : List Int) (hs : a.eval s = v) (hown : w.ownsRow base 3 1 v n (ints l)) (i : Int) (t : TypeId) (bk : Nat) (hbk : w.heap.size = bk)
    (hx : a.eval x = .slice (some ⟨bk, 0, none⟩) 1 1) (hb : n + 1 ≤ 17592186044416) (hbase : base ≤ w.heap.size)
    (h : ∀ v' w', w'.ownsRow base 3 1 v' (n + 1) (ints (l ++ [i])) → (w.alloc (.cells #[.int .i64 i] t)).grownBy w' v.ownBlock → (v'.ownBlock = v.ownBlock ∨ v'.ownBlock = some (w.heap.size + 1)) → wpList Tryz.prog ops Q rest (a.put o.dst v') w') :
    wpList Tryz.prog ops Q (o :: rest) a (w.alloc (.cells #[.int .i64 i] t)) := by
  subst hbk
  exact apI_one w hgd s x ho base v n l hs hown i t hx hb hbase h
/-- the places, as numbers -/
def natI (l : List Nat) : List Int := l.map (fun (k : Nat) => (k : Int))
theorem kids_any (ns : List Nod) (A : Option Addr) (n c : Nat) (i : Int) (N : Nat → Prop) (w : World) (h : RdI 4 NodI w N A n c ns) (hn : n ≤ 1000000000) :
    Calls Tryz.prog 13 #[.slice A n c, .int .i64 i] w fun e w' => ∃ v, e = .returned v ∧ w'.ownsRow w.heap.size 3 1 v (kidsL ns i).length (ints (natI (kidsL ns i))) ∧ Fr No w w' := by
  have hlen := h.len nod_ok (by omega)
  by_cases h1 : i < 0
  · have hk : kidsL ns i = [] := by unfold kidsL; rw [if_neg (by omega)]
    rw [hk]
    clear hk h
    go_enter Tryz.func13, Tryz.ntmps13
    go_wp2
    go_ret
    exact ⟨_, rfl, World.ownsRow_nil _ _ _ _, Fr.refl _ _⟩
  by_cases h2 : (n : Int) ≤ i
  · have hk : kidsL ns i = [] := by unfold kidsL; rw [if_neg (by omega)]
    rw [hk]
    clear hk h
    go_enter Tryz.func13, Tryz.ntmps13
    go_wp2
    go_ret
    exact ⟨_, rfl, World.ownsRow_nil _ _ _ _, Fr.refl _ _⟩
  have hk : kidsL ns i = kidsF ns i ns.length := by unfold kidsL; rw [if_pos (by omega)]
  rw [hk]
  have HR := Lib.hid h
  clear hk h
  go_enter Tryz.func13, Tryz.ntmps13
  go_wp2
  go_loopw [5, 18] (fun lv iv wr => ∃ k : Nat, iv = .int .i64 (k : Int) ∧ k ≤ n ∧ wr.ownsRow w.heap.size 3 1 lv (kidsF ns i k).length (ints (natI (kidsF ns i k))) ∧ Fr No w wr) (fun _ iv _ => n - (intOf iv).toNat)
  case atStart => exact ⟨0, rfl, Nat.zero_le _, World.ownsRow_nil _ _ _ _, Fr.refl _ _⟩
  case round =>
    obtain ⟨k, rfl, hk, hown, hfr⟩ := hrel
    have hvs : ∃ A c, u5 = .slice A (kidsF ns i k).length c := by obtain ⟨A, c, e, _⟩ := Rd.of_own hown; exact ⟨A, c, e⟩
    obtain ⟨VA, vc, rfl⟩ := hvs
    have hvl := hown.lt
    have hsz := hfr.size
    have hkl := kidsF_len ns i k
    rcases Nat.lt_or_ge k n with hlt | hge
    · have hltI : (k : Int) < (n : Int) := by omega
      obtain ⟨ad, cs, rfl, ⟨X, Y, A1, n1, c1, rfl, hX, hY, hA1⟩, hc⟩ := (HR.out.no nod_ok hfr).at_ nod_ok (by omega) (i := k) (by omega)
      have x0 := hc 0 _ rfl
      have x1 := hc 1 _ rfl
      have x2 := hc 2 _ rfl
      have x3 := hc 3 _ rfl
      rw [add_next ad] at x1 x2 x3
      obtain ⟨P, hP⟩ : ∃ P, ad.add (k * 4) = P := ⟨_, rfl⟩
      rw [Nat.add_zero, hP] at x0
      rw [hP] at x1 x2 x3
      have hkn : k < ns.length := by omega
      have hsucc : kidsF ns i (k + 1) = kidsF ns i k ++ (if ns[k].parent = i then [k] else []) := by
        show kidsF ns i k ++ _ = _
        rw [List.getElem?_eq_getElem hkn]
        simp only [Option.map_some, Option.some.injEq]
      have HOWN := Lib.hid hown; have HFR := Lib.hid hfr; have HVL := Lib.hid hvl
      by_cases hp : ns[k].parent = i
      · rw [if_pos hp] at hsucc
        rw [hp] at x0
        have HS := Lib.hid hsucc
        clear hown hfr hvl hc hA1 hX hY hsucc hp
        go_wp2_with (at_builtin; go_must (refine apI_one' _ rfl (.tmp 27) (.tmp 29) rfl w.heap.size (.slice VA (kidsF ns i k).length vc) (kidsF ns i k).length (natI (kidsF ns i k)) rfl (HOWN.out.alloc _) (k : Int) _ _ (by simp) rfl (by omega) (by simp; omega) ?_; intro v' w' ho' hg' hv'))
        have hf2 : Fr No w w' := HFR.out.trans_new ((((Fr.refl (fun j => (Value.slice VA (kidsF ns i k).length vc).ownBlock = some j) wr).alloc _).alloc _).grown hg' (fun g e => .inl e)) (fun j e => .inr (HVL.out j e).1)
        go_roundw
        case rel =>
          refine ⟨k + 1, by go_num, hlt, ?_, hf2⟩
          rw [HS.out, List.length_append]
          simpa [natI] using ho'
        case measure => simp [intOf]; omega
      · rw [if_neg hp, List.append_nil] at hsucc
        have hne : (ns[k].parent == i) = false := beq_eq_false_iff_ne.2 hp
        have HS := Lib.hid hsucc
        clear hown hfr hvl hc hA1 hX hY hsucc hp
        go_wp2
        go_roundw
        case rel =>
          refine ⟨k + 1, by go_num, hlt, ?_, HFR.out.alloc _⟩
          rw [HS.out]
          exact HOWN.out.alloc _
        case measure => simp [intOf]; omega
    · have hke : k = n := by omega
      subst hke
      have HOWN := Lib.hid hown; have HFR := Lib.hid hfr
      clear hown hfr hvl
      go_wp2
      go_ret
      exact ⟨_, rfl, by rw [hlen]; exact HOWN.out, HFR.out⟩
end Go.Proofs.YthkjmbkfcnehoaaGreatDoor
