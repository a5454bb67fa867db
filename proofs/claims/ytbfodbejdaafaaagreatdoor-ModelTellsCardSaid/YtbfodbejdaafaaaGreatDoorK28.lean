/- The texts CanNam2, RefCan2, joined. -/
import Derived.Test.YtbfodbejdaafaaaGreatDoorK27
import Derived.Test.YtbfodbejdaafaaaGreatDoorK25
import Derived.Test.YtbfodbejdaafaaaGreatDoorK10
/- What package canon does: attributes that may be written, and are all different. -/
namespace Go.Proofs.YtbfodbejdaafaaaGreatDoor
open Go.RowKit Go.Maps Go.WideMaps
set_option maxHeartbeats 400000
set_option linter.unusedVariables false

/-- not longer than a thousand million -/
def AttrS (a : List UInt8 × List UInt8) : Prop := a.1.length ≤ 1000000000 ∧ a.2.length ≤ 1000000000
structure NodS (n : Nod) : Prop where
  name : n.name.length ≤ 1000000000
  text : n.text.length ≤ 1000000000
  many : n.attrs.length ≤ 1000000000
  attrs : ∀ a ∈ n.attrs, AttrS a
/-- not longer than what comes in may be -/
def AttrW (a : List UInt8 × List UInt8) : Prop := a.1.length ≤ 140737488355328 ∧ a.2.length ≤ 140737488355328
structure NodW (n : Nod) : Prop where
  name : n.name.length ≤ 140737488355328
  text : n.text.length ≤ 140737488355328
  many : n.attrs.length ≤ 140737488355328
  attrs : ∀ a ∈ n.attrs, AttrW a
theorem AttrS.wide {a : List UInt8 × List UInt8} (h : AttrS a) : AttrW a := by obtain ⟨h1, h2⟩ := h; exact ⟨by omega, by omega⟩
theorem NodS.wide {n : Nod} (h : NodS n) : NodW n := by
  have h1 := h.name
  have h2 := h.text
  have h3 := h.many
  exact ⟨by omega, by omega, by omega, fun a ha => (h.attrs a ha).wide⟩
theorem c_valued_any (X Y : ByteArray) (w : World) (hX : X.size ≤ 140737488355328) (hY : Y.size ≤ 140737488355328) (hT : Tabs w) :
    Calls Tryz.prog 61 #[.agg #[.string X, .string Y]] w fun e w' => e = .returned (.bool (attrB (X.data.toList, Y.data.toList))) ∧ Fr No w w' := by
  have hn := fun u => c_named_any X u (by omega)
  have hu := fun u (hu : Tabs u) => text_utf8_wide Y u (by omega) hu
  have e : attrB (X.data.toList, Y.data.toList) = (nameOk X.data.toList && utf8B Y.data.toList) := rfl
  rw [e]
  generalize nameOk X.data.toList = p at *
  generalize utf8B Y.data.toList = q at *
  have HN := Lib.hid hn; have HU := Lib.hid hu
  clear hn hu e hX hY
  go_enter Tryz.func61, Tryz.ntmps61
  cases p with
  | false =>
    go_wp2_with (go_at_call 58; refine (HN.out _).mono ?_; rintro e w1 ⟨rfl, hf1⟩)
    go_ret
    exact ⟨rfl, ((Fr.refl _ w).alloc _).trans hf1⟩
  | true =>
    go_wp2_with (first
      | (go_at_call 58; refine (HN.out _).mono ?_; rintro e w1 ⟨rfl, hf1⟩; have dx : w1.cell? ⟨w.heap.size, 1, none⟩ = some (.string Y) := ((Bk.new w _ _).no hf1).cell 1; have hT1 := (hT.alloc).fr hf1)
      | (go_at_call 59; refine (HU.out _ hT1).mono ?_; rintro e w2 ⟨rfl, hf2⟩))
    go_ret
    exact ⟨ret_bool (by simp), (((Fr.refl _ w).alloc _).trans hf1).trans hf2⟩

theorem all_take {α : Type} (p : α → Bool) (l : List α) (k : Nat) (h : k < l.length) : (l.take (k + 1)).all p = ((l.take k).all p && p l[k]) := by
  rw [List.take_succ_eq_append_getElem h, List.all_append]; simp
theorem all_at_false {α : Type} {p : α → Bool} {l : List α} {k : Nat} (h : k < l.length) (hp : p l[k] = false) : l.all p = false := by
  rw [List.all_eq_false]
  exact ⟨l[k], List.getElem_mem h, by rw [hp]; simp⟩
theorem c_every_attr (ls : List (List UInt8 × List UInt8)) (A : Option Addr) (n c : Nat) (N : Nat → Prop) (w : World) (h : RdI 2 AttrI w N A n c ls) (hs : ∀ a ∈ ls, AttrW a) (hn : n ≤ 140737488355328) (hT : Tabs w) :
    Calls Tryz.prog 60 #[.slice A n c, .func (.func 61) #[] #[]] w fun e w' => e = .returned (.bool (ls.all attrB)) ∧ Fr No w w' := by
  have hlen := h.len attr_ok (by omega)
  have HR := Lib.hid h; have HS := Lib.hid hs; have HT := Lib.hid hT
  clear h hs hT
  go_enter Tryz.func60, Tryz.ntmps60
  go_wp2
  go_loopw [9] (fun iv wr => ∃ k : Nat, iv = .int .i64 (k : Int) ∧ k ≤ n ∧ Fr No w wr ∧ (ls.take k).all attrB = true) (fun iv _ => n - (intOf iv).toNat)
  case atStart => exact ⟨0, rfl, Nat.zero_le _, Fr.refl _ _, rfl⟩
  case round =>
    obtain ⟨k, rfl, hk, hfr, hall⟩ := hrel
    rcases Nat.lt_or_ge k n with hlt | hge
    · have hltI : (k : Int) < (n : Int) := by omega
      have hkl : k < ls.length := by omega
      obtain ⟨ad, cs, rfl, ⟨X, Y, rfl, hX, hY⟩, hc⟩ := (HR.out.no attr_ok hfr).at_ attr_ok (by omega) (i := k) hkl
      have x0 := hc 0 _ rfl
      have x1 := hc 1 _ rfl
      rw [add_next ad] at x1
      obtain ⟨P, hP⟩ : ∃ P, ad.add (k * 2) = P := ⟨_, rfl⟩
      rw [Nat.add_zero, hP] at x0
      rw [hP] at x1
      obtain ⟨s1, s2⟩ := HS.out _ (List.getElem_mem hkl)
      have hcv := fun u (hu : Tabs u) => c_valued_any X Y u (by rw [← size_list, hX]; exact s1) (by rw [← size_list, hY]; exact s2) hu
      rw [show attrB (X.data.toList, Y.data.toList) = attrB ls[k] from by rw [hX, hY]] at hcv
      have htk := all_take attrB ls k hkl
      rw [hall, Bool.true_and] at htk
      have haf := all_at_false (p := attrB) hkl
      generalize attrB ls[k] = q at *
      have HV := Lib.hid hcv; have HFR := Lib.hid hfr; have HTK := Lib.hid htk; have HAF := Lib.hid haf
      clear hcv hfr htk haf hc hX hY s1 s2 hall
      cases q with
      | true =>
        go_wp2_with (go_at_call 61; refine (HV.out _ ((HT.out.fr HFR.out).alloc)).mono ?_; rintro e w1 ⟨rfl, hf1⟩)
        go_roundw
        case rel => exact ⟨k + 1, by go_num, hlt, (HFR.out.alloc _).trans hf1, HTK.out⟩
        case measure => simp [intOf]; omega
      | false =>
        go_wp2_with (go_at_call 61; refine (HV.out _ ((HT.out.fr HFR.out).alloc)).mono ?_; rintro e w1 ⟨rfl, hf1⟩)
        go_ret
        exact ⟨ret_bool (HAF.out (by trivial)).symm, (HFR.out.alloc _).trans hf1⟩
    · have hke : k = n := by omega
      subst hke
      have HFR := Lib.hid hfr; have HA := Lib.hid hall
      clear hfr hall
      go_wp2
      go_ret
      exact ⟨ret_bool (by rw [← HA.out, List.take_of_length_le (by omega)]), HFR.out⟩

/-! ### attributes of different names -/
theorem str_key (x : List UInt8) : WideAt.IsKeyLit (.string x) := trivial
theorem add_len : ∀ (xs : List (List UInt8)) (L : List Lit), ((xs.map Lit.string).foldl addKey L).length ≤ L.length + xs.length ∧ (((xs.map Lit.string).foldl addKey L).length = L.length + xs.length ↔ xs.Nodup ∧ ∀ x ∈ xs, Lit.string x ∉ L)
  | [], L => by simp
  | x :: r, L => by
    rw [List.map_cons, List.foldl_cons]
    have hany : (L.any (fun y => y.sameKey (.string x)) = true) ↔ Lit.string x ∈ L := by
      rw [List.any_eq_true]
      constructor
      · rintro ⟨y, hy, h⟩
        rw [WideAt.sameKey_eq h] at hy
        exact hy
      · intro h
        exact ⟨_, h, WideAt.sameKey_self (str_key x)⟩
    by_cases hx : Lit.string x ∈ L
    · rw [show addKey L (.string x) = L from by unfold addKey; rw [if_pos (hany.2 hx)]]
      have ih := add_len r L
      refine ⟨by rw [List.length_cons]; omega, ⟨fun h => ?_, fun h => ?_⟩⟩
      · rw [List.length_cons] at h; omega
      · exact absurd hx (h.2 x (by simp))
    · rw [show addKey L (.string x) = L ++ [.string x] from by unfold addKey; rw [if_neg (fun h => hx (hany.1 h))]]
      have ih := add_len r (L ++ [.string x])
      rw [List.length_append, List.length_singleton] at ih
      refine ⟨by rw [List.length_cons]; omega, ?_⟩
      rw [List.length_cons, show L.length + (r.length + 1) = L.length + 1 + r.length from by omega, ih.2, List.nodup_cons]
      constructor
      · rintro ⟨h1, h2⟩
        refine ⟨⟨fun h => ?_, h1⟩, fun y hy => ?_⟩
        · exact h2 x h (by simp)
        · rcases List.mem_cons.1 hy with rfl | hy
          · exact hx
          · exact fun h => h2 y hy (by simp [h])
      · rintro ⟨⟨h1, h2⟩, h3⟩
        refine ⟨h2, fun y hy h => ?_⟩
        rcases List.mem_append.1 h with h | h
        · exact h3 y (by simp [hy]) h
        · simp at h; subst h; exact h1 hy
def keysL (ls : List (List UInt8 × List UInt8)) (k : Nat) : List Lit := (ls.take k).map (fun a => Lit.string a.1)
theorem keys_next (ls : List (List UInt8 × List UInt8)) (k : Nat) (h : k < ls.length) : keysL ls (k + 1) = keysL ls k ++ [.string ls[k].1] := by
  unfold keysL
  rw [List.take_succ_eq_append_getElem h, List.map_append]
  rfl
theorem keys_size (ls : List (List UInt8 × List UInt8)) : Maps.size (setOf (H := Unit) (.agg []) (keysL ls ls.length)) ≤ ls.length ∧ ((Maps.size (setOf (H := Unit) (.agg []) (keysL ls ls.length)) == ls.length) = unlikeB ls) := by
  rw [size_setOf _ _ (by intro x hx; unfold keysL at hx; obtain ⟨a, _, rfl⟩ := List.mem_map.1 hx; exact str_key _)]
  have h := add_len (ls.map (·.1)) []
  have e : keysL ls ls.length = (ls.map (·.1)).map Lit.string := by
    unfold keysL
    rw [List.take_length, List.map_map]
    rfl
  rw [e]
  simp only [List.length_nil, Nat.zero_add, List.length_map, List.not_mem_nil, not_false_eq_true, implies_true, and_true] at h
  refine ⟨h.1, ?_⟩
  unfold unlikeB
  rw [Bool.eq_iff_iff, beq_iff_eq, decide_eq_true_iff]
  exact h.2
theorem law_str : Keyed Tryz.prog 9 := string_keyed Tryz.underlying9
theorem c_unlike_any (ls : List (List UInt8 × List UInt8)) (A : Option Addr) (n c : Nat) (N : Nat → Prop) (w : World) (h : RdI 2 AttrI w N A n c ls) (hs : ∀ a ∈ ls, AttrW a) (hn : n ≤ 140737488355328) :
    Calls Tryz.prog 62 #[.slice A n c] w fun e w' => e = .returned (.bool (unlikeB ls)) ∧ Fr No w w' := by
  have hlen := h.len attr_ok (by omega)
  have hmm := @run_makeMap Tryz.prog
  have hks := keys_size ls
  rw [hlen] at hks
  have HR := Lib.hid h; have HS := Lib.hid hs; have HKS := Lib.hid hks
  clear h hs hks
  go_enter Tryz.func62, Tryz.ntmps62
  go_wp2
  go_loopw [9] (fun iv wr => ∃ k : Nat, iv = .int .i64 (k : Int) ∧ k ≤ n ∧ Fr No w wr ∧ wr.ownsMap Tryz.prog 9 unitElem w.heap.size k (setOf (H := Unit) (.agg []) (keysL ls k))) (fun iv _ => n - (intOf iv).toNat)
  case atStart => exact ⟨0, rfl, Nat.zero_le _, (Fr.refl _ _).alloc _, World.ownsMap_made _ _ _ _⟩
  case round =>
    obtain ⟨k, rfl, hk, hfr, hown⟩ := hrel
    rcases Nat.lt_or_ge k n with hlt | hge
    · have hltI : (k : Int) < (n : Int) := by omega
      have hkl : k < ls.length := by omega
      obtain ⟨ad, cs, rfl, ⟨X, Y, rfl, hX, hY⟩, hc⟩ := (HR.out.no attr_ok hfr).at_ attr_ok (by omega) (i := k) hkl
      have x0 := hc 0 _ rfl
      have x1 := hc 1 _ rfl
      rw [add_next ad] at x1
      obtain ⟨P, hP⟩ : ∃ P, ad.add (k * 2) = P := ⟨_, rfl⟩
      rw [Nat.add_zero, hP] at x0
      rw [hP] at x1
      obtain ⟨s1, s2⟩ := HS.out _ (List.getElem_mem hkl)
      have hkey : keyOf Tryz.prog 9 (.string X) = some (.string ls[k].1) := by
        rw [← hX]
        exact keyOf_string_mk Tryz.underlying9 (by rw [← size_list, hX]; simp only [maxLen]; omega)
      have hnx := keys_next ls k hkl
      have hsz := hfr.size
      have HFR := Lib.hid hfr; have HOWN := Lib.hid hown; have HNX := Lib.hid hnx; have HKEY := Lib.hid hkey
      clear hfr hown hc hX hY s1 s2 hnx hkey
      go_wp2_with (first
        | (at_mapUpdate; refine wpList_mapUpdate_own _ rfl _ _ _ 116 rfl 9 117 law_str Tryz.underlying116 (unitElem (H := Unit)) w.heap.size k _ rfl (HOWN.out.alloc _) (by unfold maxLen; omega) _ _ _ rfl rfl HKEY.out _ [] unitElem_mk ?_; intro w1 hown1 hgrow1)
        | (at_len; refine wpList_len_own _ rfl _ 116 rfl 9 117 Tryz.underlying116 _ w.heap.size k _ rfl HOWN.out ?_)
        | go_in)
      go_roundw
      case rel =>
        refine ⟨k + 1, by go_num, hlt, (HFR.out.alloc _).grown hgrow1 (fun g e => .inr (by cases e; exact Nat.le_refl _)), ?_⟩
        rw [HNX.out, setOf_snoc]
        exact hown1
      case measure => simp [intOf]; omega
    · have hke : k = n := by omega
      subst hke
      have hsz := hown.size_le
      obtain ⟨hks1, hks2⟩ := HKS.out
      obtain ⟨M, hM⟩ : ∃ M, Maps.size (setOf (H := Unit) (.agg []) (keysL ls k)) = M := ⟨_, rfl⟩
      have hq : ((M : Int) == (k : Int)) = unlikeB ls := by
        rw [← hks2, hM, Bool.eq_iff_iff, beq_iff_eq, beq_iff_eq]
        omega
      have HFR := Lib.hid hfr; have HOWN := Lib.hid hown; have HM := Lib.hid hM
      clear hfr hown hks1 hks2 hM hsz
      go_wp2_with (first
        | (at_len; refine wpList_len_own _ rfl _ 116 rfl 9 117 Tryz.underlying116 _ w.heap.size k _ rfl HOWN.out ?_; rw [HM.out])
        | go_in)
      go_ret
      exact ⟨rfl, HFR.out⟩
end Go.Proofs.YtbfodbejdaafaaaGreatDoor
/- The statements' own attributes that may be. -/
namespace Go.Proofs.YtbfodbejdaafaaaGreatDoor
open Go.RowKit
set_option maxHeartbeats 400000
set_option linter.unusedVariables false

abbrev Ats := List (List UInt8 × List UInt8)
theorem names_at (a : Ats) (i : Nat) (h : i < a.length) : (a.map (·.1))[i]'(by simpa using h) = a[i].1 := by simp
theorem unlike_clash {a : Ats} {i k : Nat} (hi : i < a.length) (hk : k < i) (h : a[k].1 = a[i].1) : unlikeB a = false := by
  unfold unlikeB
  rw [decide_eq_false_iff_not]
  intro hd
  have h2 := List.pairwise_iff_getElem.1 hd k i (by simp; omega) (by simpa using hi) hk
  rw [List.getElem_map, List.getElem_map] at h2
  exact h2 h
theorem unlike_all {a : Ats} (h : ∀ i k, (hi : i < a.length) → (hk : k < i) → a[k].1 ≠ a[i].1) : unlikeB a = true := by
  unfold unlikeB
  rw [decide_eq_true_iff]
  refine List.pairwise_iff_getElem.2 ?_
  intro k i hk hi hlt
  rw [List.getElem_map, List.getElem_map]
  exact h i k (by simpa using hi) hlt
theorem r_attrs_any (a : Ats) (A : Option Addr) (n c : Nat) (N : Nat → Prop) (w : World) (h : RdI 2 AttrI w N A n c a) (hs : ∀ x ∈ a, AttrW x) (hn : n ≤ 140737488355328) :
    Calls Tryz.prog 42 #[.slice A n c] w fun e w' => e = .returned (.bool (attrsB a)) ∧ Fr No w w' := by
  have hlen := h.len attr_ok (by omega)
  have HR := Lib.hid h; have HS := Lib.hid hs
  clear h hs
  go_enter Tryz.func42, Tryz.ntmps42
  go_wp2
  go_loopw [3, 4] (fun iv kv wr => ∃ i : Nat, iv = .int .i64 (i : Int) ∧ i ≤ n ∧ Fr No w wr ∧ (a.take i).all attrB = true ∧ ∀ i' k, (hi : i' < a.length) → (hk : k < i') → i' < i → a[k].1 ≠ a[i'].1) (fun iv _ _ => n - (intOf iv).toNat)
  case atStart => exact ⟨0, rfl, Nat.zero_le _, Fr.refl _ _, rfl, fun _ _ _ _ h => by omega⟩
  case round =>
    obtain ⟨i, rfl, hi, hfr, hall, hne⟩ := hrel
    rcases Nat.lt_or_ge i n with hlt | hge
    · have hltI : (i : Int) < (n : Int) := by omega
      have hil : i < a.length := by omega
      obtain ⟨ad, cs, rfl, ⟨X, Y, rfl, hX, hY⟩, hc⟩ := (HR.out.no attr_ok hfr).at_ attr_ok (by omega) (i := i) hil
      have x0 := hc 0 _ rfl
      have x1 := hc 1 _ rfl
      rw [add_next ad] at x1
      obtain ⟨P, hP⟩ : ∃ P, ad.add (i * 2) = P := ⟨_, rfl⟩
      rw [Nat.add_zero, hP] at x0
      rw [hP] at x1
      obtain ⟨s1, s2⟩ := HS.out _ (List.getElem_mem hil)
      have hfr0 := hfr
      have HFR := Lib.hid hfr; have HNE := Lib.hid hne; have HALL := Lib.hid hall; have HX := Lib.hid hX; have HY := Lib.hid hY
      clear hfr hne hall hc hX hY
      go_wp2
      go_loopw [4] (fun kv wi => ∃ k : Nat, kv = .int .i64 (k : Int) ∧ k ≤ i ∧ Fr No w wi ∧ ∀ k', (hk : k' < k) → (h2 : k' < a.length) → a[k'].1 ≠ a[i].1) (fun kv _ => i - (intOf kv).toNat)
      case atStart => exact ⟨0, rfl, Nat.zero_le _, HFR.out, fun _ h => by omega⟩
      case round =>
        obtain ⟨k, rfl, hk, hfi, hin⟩ := hrel
        clear x0 x1 hfr0
        obtain ⟨ad2, cs2, e2, ⟨X2, Y2, rfl, hX2, hY2⟩, hc2⟩ := (HR.out.no attr_ok hfi).at_ attr_ok (by omega) (i := i) hil
        injection e2 with e2
        subst e2
        have x0 := hc2 0 _ rfl
        have x1 := hc2 1 _ rfl
        rw [add_next ad] at x1
        rw [Nat.add_zero, hP] at x0
        rw [hP] at x1
        replace x1 : wr.cell? ⟨P.block, P.off + 1, none⟩ = some (.string Y2) := x1
        rcases Nat.lt_or_ge k i with hki | hki
        · have hkiI : (k : Int) < (i : Int) := by omega
          have hkn : (k : Int) < (n : Int) := by omega
          have hkl : k < a.length := by omega
          obtain ⟨ad3, cs3, e3, ⟨X3, Y3, rfl, hX3, hY3⟩, hc3⟩ := (HR.out.no attr_ok hfi).at_ attr_ok (by omega) (i := k) hkl
          injection e3 with e3
          subst e3
          have z0 := hc3 0 _ rfl
          obtain ⟨P3, hP3⟩ : ∃ P3, ad.add (k * 2) = P3 := ⟨_, rfl⟩
          rw [Nat.add_zero, hP3] at z0
          by_cases hcl : a[k].1 = a[i].1
          · have hb : (X3.toList == X2.toList) = true := by rw [beq_iff_eq, ba_list, ba_list, hX3, hX2]; exact hcl
            have hat : attrsB a = false := by unfold attrsB; rw [unlike_clash hil hki hcl, Bool.and_false]
            have HAT := Lib.hid hat; have HFI := Lib.hid hfi
            clear hin hc2 hc3 hX2 hY2 hX3 hY3 hcl hat hfi
            go_wp2
            go_quiet (fail)
            go_wp2
            go_ret
            exact ⟨ret_bool HAT.out.symm, HFI.out.drewN _⟩
          · have hb : (X3.toList == X2.toList) = false := by rw [beq_eq_false_iff_ne, ba_list, ba_list, hX3, hX2]; exact hcl
            have hin2 : ∀ k', (hk : k' < k + 1) → (h2 : k' < a.length) → a[k'].1 ≠ a[i].1 := by
              intro k' hk' h2
              by_cases e : k' = k
              · subst e; exact hcl
              · exact hin k' (by omega) h2
            have HIN := Lib.hid hin2; have HFI := Lib.hid hfi
            clear hin hc2 hc3 hX2 hY2 hX3 hY3 hcl hin2 hfi
            go_wp2
            go_quiet (fail)
            go_wp2
            go_roundw
            case rel => exact ⟨k + 1, by go_num, hki, HFI.out.drewN _, HIN.out⟩
            case measure => simp [intOf]; omega
        · have hke : k = i := by omega
          subst hke
          have hne2 : ∀ i' k', (hi : i' < a.length) → (hk : k' < i') → i' < k + 1 → a[k'].1 ≠ a[i'].1 := by
            intro i' k' hi' hk' h3
            by_cases e : i' = k
            · subst e; exact hin k' hk' (by omega)
            · exact HNE.out i' k' hi' hk' (by omega)
          have hnm := fun u => r_Name_any X2 u (by rw [← size_list, hX2]; exact s1)
          have hut := fun u => ref_utf8_any Y2 u (by rw [← size_list, hY2]; omega)
          have htk := all_take attrB a k hil
          rw [HALL.out, Bool.true_and] at htk
          have haf := all_at_false (p := attrB) hil
          have hav : attrB a[k] = (nameOk X2.data.toList && utf8B Y2.data.toList) := by rw [hX2, hY2]; rfl
          rw [hav] at htk haf
          have hff : a.all attrB = false → attrsB a = false := fun h => by unfold attrsB; rw [h, Bool.false_and]
          generalize nameOk X2.data.toList = q1 at *
          generalize utf8B Y2.data.toList = q2 at *
          have HN := Lib.hid hnm; have HU := Lib.hid hut; have HTK := Lib.hid htk; have HAF := Lib.hid haf; have HFI := Lib.hid hfi; have HNE2 := Lib.hid hne2; have HFF := Lib.hid hff
          clear hnm hut htk haf hfi hne2 hff hav hin hc2 hX2 hY2
          cases q1 with
          | false =>
            go_wp2_with (go_at_call 41; refine (HN.out _).mono ?_; rintro e w2 ⟨rfl, hd2⟩)
            go_ret
            exact ⟨ret_bool (HFF.out (HAF.out rfl)).symm, HFI.out.dr hd2⟩
          | true =>
            cases q2 with
            | false =>
              go_wp2_with (first
                | (go_at_call 41; refine (HN.out _).mono ?_; rintro e w2 ⟨rfl, hd2⟩; have x1' : w2.cell? ⟨P.block, P.off + 1, none⟩ = some (.string Y2) := (hd2.cell _).trans x1)
                | (go_at_call 29; refine (HU.out _).mono ?_; rintro e w3 ⟨rfl, rfl⟩))
              go_ret
              exact ⟨ret_bool (HFF.out (HAF.out rfl)).symm, HFI.out.dr hd2⟩
            | true =>
              go_wp2_with (first
                | (go_at_call 41; refine (HN.out _).mono ?_; rintro e w2 ⟨rfl, hd2⟩; have x1' : w2.cell? ⟨P.block, P.off + 1, none⟩ = some (.string Y2) := (hd2.cell _).trans x1)
                | (go_at_call 29; refine (HU.out _).mono ?_; rintro e w3 ⟨rfl, rfl⟩))
              go_roundw
              case rel => exact ⟨k + 1, by go_num, hlt, HFI.out.dr hd2, HTK.out, HNE2.out⟩
              case measure => simp [intOf]; omega
    · have hie : i = n := by omega
      subst hie
      have hun : unlikeB a = true := unlike_all (fun i' k hi' hk => hne i' k hi' hk (by omega))
      have hat : attrsB a = true := by
        unfold attrsB
        rw [List.take_of_length_le (by omega)] at hall
        rw [hun, hall]
        rfl
      have HFR := Lib.hid hfr; have HAT := Lib.hid hat
      clear hfr hall hne hun hat
      go_wp2
      go_ret
      exact ⟨ret_bool HAT.out.symm, HFR.out⟩
end Go.Proofs.YtbfodbejdaafaaaGreatDoor
