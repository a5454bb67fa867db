/- The texts CanNam, CanNam2, CanNam3, joined. -/
import Derived.Test.YthkjmbkfcnehoaaGreatDoorCanM
import Derived.Test.YthkjmbkfcnehoaaGreatDoorTreeB
import Derived.Test.YthkjmbkfcnehoaaGreatDoorProgs
import Derived.Test.YthkjmbkfcnehoaaGreatDoorIts
import Derived.Test.YthkjmbkfcnehoaaGreatDoorHn
import Derived.Test.YthkjmbkfcnehoaaGreatDoorRefTokX
import Derived.Maps.OwnSet
/- What package canon does: names, values, attributes that are all different, all that a node has by itself. -/
namespace Go.Proofs.YthkjmbkfcnehoaaGreatDoor
open Go.RowKit Go.Maps Go.WideMaps
set_option maxHeartbeats 400000
set_option linter.unusedVariables false

def firstL : List UInt8 := [65, 66, 67, 68, 69, 70, 71, 72, 73, 74, 75, 76, 77, 78, 79, 80, 81, 82, 83, 84, 85, 86, 87, 88, 89, 90, 97, 98, 99, 100, 101, 102, 103, 104, 105, 106, 107, 108, 109, 110, 111, 112, 113, 114, 115, 116, 117, 118, 119, 120, 121, 122, 95]
def behindL : List UInt8 := [65, 66, 67, 68, 69, 70, 71, 72, 73, 74, 75, 76, 77, 78, 79, 80, 81, 82, 83, 84, 85, 86, 87, 88, 89, 90, 97, 98, 99, 100, 101, 102, 103].append [104, 105, 106, 107, 108, 109, 110, 111, 112, 113, 114, 115, 116, 117, 118, 119, 120, 121, 122, 95, 48, 49, 50, 51, 52, 53, 54, 55, 56, 57, 45, 46, 58]
theorem fi_all : (List.range 256).all (fun n => firstL.contains (UInt8.ofNat n) == isFi (UInt8.ofNat n)) = true := by kernel_rfl
theorem wi_all : (List.range 256).all (fun n => behindL.contains (UInt8.ofNat n) == isWi (UInt8.ofNat n)) = true := by kernel_rfl
theorem fi_eq (c : UInt8) : firstL.contains c = isFi c := by
  have := List.all_eq_true.1 fi_all c.toNat (List.mem_range.2 c.toNat_lt)
  rw [UInt8.ofNat_toNat] at this
  simpa using this
theorem wi_eq (c : UInt8) : behindL.contains c = isWi c := by
  have := List.all_eq_true.1 wi_all c.toNat (List.mem_range.2 c.toNat_lt)
  rw [UInt8.ofNat_toNat] at this
  simpa using this
theorem cn_low_all : behindL.all (fun b => decide (b.toNat < 128)) = true := by kernel_rfl
theorem c_index (c : UInt8) (w : World) : Calls Tryz.prog 94 #[.string ⟨#[65, 66, 67, 68, 69, 70, 71, 72, 73, 74, 75, 76, 77, 78, 79, 80, 81, 82, 83, 84, 85, 86, 87, 88, 89, 90, 97, 98, 99, 100, 101, 102, 103, 104, 105, 106, 107, 108, 109, 110, 111, 112, 113, 114, 115, 116, 117, 118, 119, 120, 121, 122, 95]⟩, .int .u8 (c.toNat : Int)] w fun e w' => ∃ K : Int, e = .returned (.int .i64 K) ∧ w = w' ∧ (isFi c = true → 0 ≤ K) ∧ (isFi c = false → K < 0) := by
  refine (Tryz.strings_IndexByte _ (c.toNat : Int) w).mono ?_
  rintro e w' ⟨rfl, rfl⟩
  refine ⟨_, rfl, rfl, ?_⟩
  rw [show ((c.toNat : Int).toNat).toUInt8 = c from by simp]
  have h := index_in c firstL
  rw [fi_eq] at h
  exact ⟨h.2, fun hf => Int.lt_of_not_ge (fun h0 => by rw [h.1 h0] at hf; cases hf)⟩
theorem c_trim (S : ByteArray) (w : World) (hs : S.size ≤ 1099511627776) : Calls Tryz.prog 49 #[.string S, .string ⟨behindL.toArray⟩] w fun e w' => ∃ R : ByteArray, e = .returned (.string R) ∧ Fr No w w' ∧ (R.toList == []) = S.data.toList.all isWi := by
  refine (Tryz.strings_Trim S ⟨behindL.toArray⟩ w (by omega) (by show behindL.length < _; decide) (ascii_of_all cn_low_all)).mono ?_
  rintro e w' ⟨rfl, hb⟩
  refine ⟨_, rfl, Fr.of_below hb, ?_⟩
  have h := trim_nil S.data.toList behindL
  rw [show (fun c => behindL.contains c) = isWi from funext wi_eq] at h
  rw [Bool.eq_iff_iff, ← h, beq_iff_eq]
  show (bstr (Lib.trimS S.data.toList behindL)).toList = [] ↔ _
  rw [bstr_toList]
set_option maxRecDepth 20000 in
theorem c_named_any (S : ByteArray) (w : World) (hs : S.size ≤ 1099511627776) : Calls Tryz.prog 64 #[.string S] w fun e w' => e = .returned (.bool (nameOk S.data.toList)) ∧ Fr No w w' := by
  cases hl : S.data.toList with
  | nil =>
    have hb : S.toList.isEmpty = true := by rw [ba_list, hl]; rfl
    clear hl
    go_enter Tryz.func64, Tryz.ntmps64
    go_wp2
    go_ret
    exact ⟨rfl, Fr.refl _ _⟩
  | cons c r =>
    have hb : S.toList.isEmpty = false := by rw [ba_list, hl]; rfl
    have hsz : 0 < S.size := by rw [sz_eq hl]; simp
    have hc : S[0] = c := by
      have : S[0] = S.data.toList[0]'(by rw [hl]; simp) := rfl
      rw [this]; simp [hl]
    have hn : nameOk (c :: r) = (isFi c && (c :: r).all isWi) := rfl
    rw [hn]
    have hix := fun u => c_index c u
    have htr := fun u => c_trim S u hs
    rw [hl] at htr
    have HIX := Lib.hid hix; have HTR := Lib.hid htr
    clear hix htr hn hl hs
    cases hf : isFi c with
    | false =>
      rw [hf] at HIX
      have HIX := Lib.hid HIX.out
      go_enter Tryz.func64, Tryz.ntmps64
      go_wp2_with (go_at_call 94; refine (HIX.out _).mono ?_; rintro e w' ⟨K, rfl, rfl, -, hK⟩; have hK := hK rfl)
      go_ret
      exact ⟨rfl, Fr.refl _ _⟩
    | true =>
      rw [hf] at HIX
      generalize (c :: r).all isWi = q at *
      go_enter Tryz.func64, Tryz.ntmps64
      go_wp2_with (first
        | (go_at_call 94; refine (HIX.out _).mono ?_; rintro e w' ⟨K, rfl, rfl, hK, -⟩; have hK := hK rfl)
        | (go_at_call 49; refine (HTR.out _).mono ?_; rintro e w1 ⟨R, rfl, hfr, hR⟩))
      go_ret
      exact ⟨ret_bool (by simp), hfr⟩
end Go.Proofs.YthkjmbkfcnehoaaGreatDoor
/- What package canon does: attributes that may be written, and are all different. -/
namespace Go.Proofs.YthkjmbkfcnehoaaGreatDoor
open Go.RowKit Go.Maps Go.WideMaps
set_option maxHeartbeats 400000
set_option linter.unusedVariables false

/-- not longer than a thousand million -/
def AttrS (a : List UInt8 × List UInt8) : Prop := a.1.length ≤ 1000000000 ∧ a.2.length ≤ 1000000000
structure NodS (n : Nod) : Prop where
  name : n.name.length ≤ 1000000000
  text : n.text.length ≤ 1000000000
  many : n.attrs.length ≤ 1000000000
  attrs : ∀ a ∈ n.attrs, AttrS a
theorem c_valued_any (X Y : ByteArray) (w : World) (hX : X.size ≤ 1000000000) (hY : Y.size ≤ 1000000000) (hT : Tabs w) :
    Calls Tryz.prog 66 #[.agg #[.string X, .string Y]] w fun e w' => e = .returned (.bool (attrB (X.data.toList, Y.data.toList))) ∧ Fr No w w' := by
  have hn := fun u => c_named_any X u (by omega)
  have hu := fun u (hu : Tabs u) => text_utf8_wide Y u (by omega) hu
  have e : attrB (X.data.toList, Y.data.toList) = (nameOk X.data.toList && utf8B Y.data.toList) := rfl
  rw [e]
  generalize nameOk X.data.toList = p at *
  generalize utf8B Y.data.toList = q at *
  have HN := Lib.hid hn; have HU := Lib.hid hu
  clear hn hu e hX hY
  go_enter Tryz.func66, Tryz.ntmps66
  cases p with
  | false =>
    go_wp2_with (go_at_call 64; refine (HN.out _).mono ?_; rintro e w1 ⟨rfl, hf1⟩)
    go_ret
    exact ⟨rfl, ((Fr.refl _ w).alloc _).trans hf1⟩
  | true =>
    go_wp2_with (first
      | (go_at_call 64; refine (HN.out _).mono ?_; rintro e w1 ⟨rfl, hf1⟩; have dx : w1.cell? ⟨w.heap.size, 1, none⟩ = some (.string Y) := ((Bk.new w _ _).no hf1).cell 1; have hT1 := (hT.alloc).fr hf1)
      | (go_at_call 34; refine (HU.out _ hT1).mono ?_; rintro e w2 ⟨rfl, hf2⟩))
    go_ret
    exact ⟨ret_bool (by simp), (((Fr.refl _ w).alloc _).trans hf1).trans hf2⟩

theorem all_take {α : Type} (p : α → Bool) (l : List α) (k : Nat) (h : k < l.length) : (l.take (k + 1)).all p = ((l.take k).all p && p l[k]) := by
  rw [List.take_succ_eq_append_getElem h, List.all_append]; simp
theorem all_at_false {α : Type} {p : α → Bool} {l : List α} {k : Nat} (h : k < l.length) (hp : p l[k] = false) : l.all p = false := by
  rw [List.all_eq_false]
  exact ⟨l[k], List.getElem_mem h, by rw [hp]; simp⟩
theorem c_every_attr (ls : List (List UInt8 × List UInt8)) (A : Option Addr) (n c : Nat) (N : Nat → Prop) (w : World) (h : RdI 2 AttrI w N A n c ls) (hs : ∀ a ∈ ls, AttrS a) (hn : n ≤ 1000000000) (hT : Tabs w) :
    Calls Tryz.prog 65 #[.slice A n c, .func (.func 66) #[] #[]] w fun e w' => e = .returned (.bool (ls.all attrB)) ∧ Fr No w w' := by
  have hlen := h.len attr_ok (by omega)
  have HR := Lib.hid h; have HS := Lib.hid hs; have HT := Lib.hid hT
  clear h hs hT
  go_enter Tryz.func65, Tryz.ntmps65
  go_wp2
  go_loopw [9] (fun iv wr => ∃ k : Nat, iv = .int .i64 (k : Int) ∧ k ≤ n ∧ Fr No w wr ∧ (ls.take k).all attrB = true) (fun iv _ => n - (intOf iv).toNat)
  case atStart => exact ⟨0, rfl, Nat.zero_le _, Fr.refl _ _, rfl⟩
  case round =>
    obtain ⟨k, rfl, hk, hfr, hall⟩ := hrel
    rcases Nat.lt_or_ge k n with hlt | hge
    · have hltI : (k : Int) < (n : Int) := by omega
      have hkl : k < ls.length := by omega
      obtain ⟨ad, cs, rfl, ⟨X, Y, rfl, hX, hY⟩, hc⟩ := (HR.out.no attr_ok hfr).at_ attr_ok (by omega) (i := k) hkl
      have x0 := hc 0 _ rfl
      have x1 := hc 1 _ rfl
      rw [add_next ad] at x1
      obtain ⟨P, hP⟩ : ∃ P, ad.add (k * 2) = P := ⟨_, rfl⟩
      rw [Nat.add_zero, hP] at x0
      rw [hP] at x1
      obtain ⟨s1, s2⟩ := HS.out _ (List.getElem_mem hkl)
      have hcv := fun u (hu : Tabs u) => c_valued_any X Y u (by rw [← size_list, hX]; exact s1) (by rw [← size_list, hY]; exact s2) hu
      rw [show attrB (X.data.toList, Y.data.toList) = attrB ls[k] from by rw [hX, hY]] at hcv
      have htk := all_take attrB ls k hkl
      rw [hall, Bool.true_and] at htk
      have haf := all_at_false (p := attrB) hkl
      generalize attrB ls[k] = q at *
      have HV := Lib.hid hcv; have HFR := Lib.hid hfr; have HTK := Lib.hid htk; have HAF := Lib.hid haf
      clear hcv hfr htk haf hc hX hY s1 s2 hall
      cases q with
      | true =>
        go_wp2_with (go_at_call 66; refine (HV.out _ ((HT.out.fr HFR.out).alloc)).mono ?_; rintro e w1 ⟨rfl, hf1⟩)
        go_roundw
        case rel => exact ⟨k + 1, by go_num, hlt, (HFR.out.alloc _).trans hf1, HTK.out⟩
        case measure => simp [intOf]; omega
      | false =>
        go_wp2_with (go_at_call 66; refine (HV.out _ ((HT.out.fr HFR.out).alloc)).mono ?_; rintro e w1 ⟨rfl, hf1⟩)
        go_ret
        exact ⟨ret_bool (HAF.out (by trivial)).symm, (HFR.out.alloc _).trans hf1⟩
    · have hke : k = n := by omega
      subst hke
      have HFR := Lib.hid hfr; have HA := Lib.hid hall
      clear hfr hall
      go_wp2
      go_ret
      exact ⟨ret_bool (by rw [← HA.out, List.take_of_length_le (by omega)]), HFR.out⟩

/-! ### attributes of different names -/
theorem str_key (x : List UInt8) : WideAt.IsKeyLit (.string x) := trivial
theorem add_len : ∀ (xs : List (List UInt8)) (L : List Lit), ((xs.map Lit.string).foldl addKey L).length ≤ L.length + xs.length ∧ (((xs.map Lit.string).foldl addKey L).length = L.length + xs.length ↔ xs.Nodup ∧ ∀ x ∈ xs, Lit.string x ∉ L)
  | [], L => by simp
  | x :: r, L => by
    rw [List.map_cons, List.foldl_cons]
    have hany : (L.any (fun y => y.sameKey (.string x)) = true) ↔ Lit.string x ∈ L := by
      rw [List.any_eq_true]
      constructor
      · rintro ⟨y, hy, h⟩
        rw [WideAt.sameKey_eq h] at hy
        exact hy
      · intro h
        exact ⟨_, h, WideAt.sameKey_self (str_key x)⟩
    by_cases hx : Lit.string x ∈ L
    · rw [show addKey L (.string x) = L from by unfold addKey; rw [if_pos (hany.2 hx)]]
      have ih := add_len r L
      refine ⟨by rw [List.length_cons]; omega, ⟨fun h => ?_, fun h => ?_⟩⟩
      · rw [List.length_cons] at h; omega
      · exact absurd hx (h.2 x (by simp))
    · rw [show addKey L (.string x) = L ++ [.string x] from by unfold addKey; rw [if_neg (fun h => hx (hany.1 h))]]
      have ih := add_len r (L ++ [.string x])
      rw [List.length_append, List.length_singleton] at ih
      refine ⟨by rw [List.length_cons]; omega, ?_⟩
      rw [List.length_cons, show L.length + (r.length + 1) = L.length + 1 + r.length from by omega, ih.2, List.nodup_cons]
      constructor
      · rintro ⟨h1, h2⟩
        refine ⟨⟨fun h => ?_, h1⟩, fun y hy => ?_⟩
        · exact h2 x h (by simp)
        · rcases List.mem_cons.1 hy with rfl | hy
          · exact hx
          · exact fun h => h2 y hy (by simp [h])
      · rintro ⟨⟨h1, h2⟩, h3⟩
        refine ⟨h2, fun y hy h => ?_⟩
        rcases List.mem_append.1 h with h | h
        · exact h3 y (by simp [hy]) h
        · simp at h; subst h; exact h1 hy
def keysL (ls : List (List UInt8 × List UInt8)) (k : Nat) : List Lit := (ls.take k).map (fun a => Lit.string a.1)
theorem keys_next (ls : List (List UInt8 × List UInt8)) (k : Nat) (h : k < ls.length) : keysL ls (k + 1) = keysL ls k ++ [.string ls[k].1] := by
  unfold keysL
  rw [List.take_succ_eq_append_getElem h, List.map_append]
  rfl
theorem keys_size (ls : List (List UInt8 × List UInt8)) : Maps.size (setOf (H := Unit) (.agg []) (keysL ls ls.length)) ≤ ls.length ∧ ((Maps.size (setOf (H := Unit) (.agg []) (keysL ls ls.length)) == ls.length) = unlikeB ls) := by
  rw [size_setOf _ _ (by intro x hx; unfold keysL at hx; obtain ⟨a, _, rfl⟩ := List.mem_map.1 hx; exact str_key _)]
  have h := add_len (ls.map (·.1)) []
  have e : keysL ls ls.length = (ls.map (·.1)).map Lit.string := by
    unfold keysL
    rw [List.take_length, List.map_map]
    rfl
  rw [e]
  simp only [List.length_nil, Nat.zero_add, List.length_map, List.not_mem_nil, not_false_eq_true, implies_true, and_true] at h
  refine ⟨h.1, ?_⟩
  unfold unlikeB
  rw [Bool.eq_iff_iff, beq_iff_eq, decide_eq_true_iff]
  exact h.2
theorem law_str : Keyed Tryz.prog 9 := string_keyed Tryz.underlying9
theorem c_unlike_any (ls : List (List UInt8 × List UInt8)) (A : Option Addr) (n c : Nat) (N : Nat → Prop) (w : World) (h : RdI 2 AttrI w N A n c ls) (hs : ∀ a ∈ ls, AttrS a) (hn : n ≤ 1000000000) :
    Calls Tryz.prog 67 #[.slice A n c] w fun e w' => e = .returned (.bool (unlikeB ls)) ∧ Fr No w w' := by
  have hlen := h.len attr_ok (by omega)
  have hmm := @run_makeMap Tryz.prog
  have hks := keys_size ls
  rw [hlen] at hks
  have HR := Lib.hid h; have HS := Lib.hid hs; have HKS := Lib.hid hks
  clear h hs hks
  go_enter Tryz.func67, Tryz.ntmps67
  go_wp2
  go_loopw [9] (fun iv wr => ∃ k : Nat, iv = .int .i64 (k : Int) ∧ k ≤ n ∧ Fr No w wr ∧ wr.ownsMap Tryz.prog 9 unitElem w.heap.size k (setOf (H := Unit) (.agg []) (keysL ls k))) (fun iv _ => n - (intOf iv).toNat)
  case atStart => exact ⟨0, rfl, Nat.zero_le _, (Fr.refl _ _).alloc _, World.ownsMap_made _ _ _ _⟩
  case round =>
    obtain ⟨k, rfl, hk, hfr, hown⟩ := hrel
    rcases Nat.lt_or_ge k n with hlt | hge
    · have hltI : (k : Int) < (n : Int) := by omega
      have hkl : k < ls.length := by omega
      obtain ⟨ad, cs, rfl, ⟨X, Y, rfl, hX, hY⟩, hc⟩ := (HR.out.no attr_ok hfr).at_ attr_ok (by omega) (i := k) hkl
      have x0 := hc 0 _ rfl
      have x1 := hc 1 _ rfl
      rw [add_next ad] at x1
      obtain ⟨P, hP⟩ : ∃ P, ad.add (k * 2) = P := ⟨_, rfl⟩
      rw [Nat.add_zero, hP] at x0
      rw [hP] at x1
      obtain ⟨s1, s2⟩ := HS.out _ (List.getElem_mem hkl)
      have hkey : keyOf Tryz.prog 9 (.string X) = some (.string ls[k].1) := by
        rw [← hX]
        exact keyOf_string_mk Tryz.underlying9 (by rw [← size_list, hX]; simp only [maxLen]; omega)
      have hnx := keys_next ls k hkl
      have hsz := hfr.size
      have HFR := Lib.hid hfr; have HOWN := Lib.hid hown; have HNX := Lib.hid hnx; have HKEY := Lib.hid hkey
      clear hfr hown hc hX hY s1 s2 hnx hkey
      go_wp2_with (first
        | (at_mapUpdate; refine wpList_mapUpdate_own _ rfl _ _ _ 137 rfl 9 138 law_str Tryz.underlying137 (unitElem (H := Unit)) w.heap.size k _ rfl (HOWN.out.alloc _) (by unfold maxLen; omega) _ _ _ rfl rfl HKEY.out _ [] unitElem_mk ?_; intro w1 hown1 hgrow1)
        | (at_len; refine wpList_len_own _ rfl _ 137 rfl 9 138 Tryz.underlying137 _ w.heap.size k _ rfl HOWN.out ?_)
        | go_in)
      go_roundw
      case rel =>
        refine ⟨k + 1, by go_num, hlt, (HFR.out.alloc _).grown hgrow1 (fun g e => .inr (by cases e; exact Nat.le_refl _)), ?_⟩
        rw [HNX.out, setOf_snoc]
        exact hown1
      case measure => simp [intOf]; omega
    · have hke : k = n := by omega
      subst hke
      have hsz := hown.size_le
      obtain ⟨hks1, hks2⟩ := HKS.out
      obtain ⟨M, hM⟩ : ∃ M, Maps.size (setOf (H := Unit) (.agg []) (keysL ls k)) = M := ⟨_, rfl⟩
      have hq : ((M : Int) == (k : Int)) = unlikeB ls := by
        rw [← hks2, hM, Bool.eq_iff_iff, beq_iff_eq, beq_iff_eq]
        omega
      have HFR := Lib.hid hfr; have HOWN := Lib.hid hown; have HM := Lib.hid hM
      clear hfr hown hks1 hks2 hM hsz
      go_wp2_with (first
        | (at_len; refine wpList_len_own _ rfl _ 137 rfl 9 138 Tryz.underlying137 _ w.heap.size k _ rfl HOWN.out ?_; rw [HM.out])
        | go_in)
      go_ret
      exact ⟨rfl, HFR.out⟩
end Go.Proofs.YthkjmbkfcnehoaaGreatDoor
/- What package canon does: all that a node has by itself, and each node of a row. -/
namespace Go.Proofs.YthkjmbkfcnehoaaGreatDoor
open Go.RowKit
set_option maxHeartbeats 400000
set_option linter.unusedVariables false

theorem c_sound_any (p : Int) (X Y : ByteArray) (A : Option Addr) (n c : Nat) (N : Nat → Prop) (w : World) (nd : Nod) (hX : X.data.toList = nd.name) (hY : Y.data.toList = nd.text) (h : RdI 2 AttrI w N A n c nd.attrs) (hs : NodS nd) (hT : Tabs w) :
    Calls Tryz.prog 44 #[.agg #[.int .i64 p, .string X, .string Y, .slice A n c]] w fun e w' => e = .returned (.bool (soundB nd)) ∧ Fr No w w' := by
  have hlen := h.len attr_ok (by omega)
  have hn := fun u => c_named_any X u (by rw [← size_list, hX]; have := hs.name; omega)
  have hu := fun u (hu : Tabs u) => text_utf8_wide Y u (by rw [← size_list, hY]; have := hs.text; omega) hu
  have hm : n ≤ 1000000000 := by have := hs.many; omega
  have he := fun u (hf : Fr No w u) (hu : Tabs u) => c_every_attr nd.attrs A n c N u (h.no attr_ok hf) hs.attrs hm hu
  have hq := fun u (hf : Fr No w u) => c_unlike_any nd.attrs A n c N u (h.no attr_ok hf) hs.attrs hm
  have e : soundB nd = (nameOk X.data.toList && (utf8B Y.data.toList && (nd.attrs.all attrB && unlikeB nd.attrs))) := by rw [hX, hY]; rfl
  rw [e]
  generalize nameOk X.data.toList = b1 at *
  generalize utf8B Y.data.toList = b2 at *
  generalize nd.attrs.all attrB = b3 at *
  generalize unlikeB nd.attrs = b4 at *
  have HN := Lib.hid hn; have HU := Lib.hid hu; have HE := Lib.hid he; have HQ := Lib.hid hq
  clear hn hu he hq e hX hY h hs hlen hm
  go_enter Tryz.func44, Tryz.ntmps44
  cases b1 with
  | false =>
    go_wp2_with (go_at_call 64; refine (HN.out _).mono ?_; rintro e w1 ⟨rfl, hf1⟩)
    go_ret
    exact ⟨rfl, ((Fr.refl _ w).alloc _).trans hf1⟩
  | true =>
    cases b2 with
    | false =>
      go_wp2_with (first
        | (go_at_call 64; refine (HN.out _).mono ?_; rintro e w1 ⟨rfl, hf1⟩; have B1 := (Bk.new w _ _).no hf1; have x2 : w1.cell? ⟨w.heap.size, 2, none⟩ = some (.string Y) := B1.cell 2; have F1 := ((Fr.refl No w).alloc _).trans hf1; have T1 := hT.fr F1)
        | (go_at_call 34; refine (HU.out _ T1).mono ?_; rintro e w2 ⟨rfl, hf2⟩; have F2 := F1.trans hf2))
      go_ret
      exact ⟨rfl, F2⟩
    | true =>
      cases b3 with
      | false =>
        go_wp2_with (first
          | (go_at_call 64; refine (HN.out _).mono ?_; rintro e w1 ⟨rfl, hf1⟩; have B1 := (Bk.new w _ _).no hf1; have x2 : w1.cell? ⟨w.heap.size, 2, none⟩ = some (.string Y) := B1.cell 2; have F1 := ((Fr.refl No w).alloc _).trans hf1; have T1 := hT.fr F1)
          | (go_at_call 34; refine (HU.out _ T1).mono ?_; rintro e w2 ⟨rfl, hf2⟩; have x3 : w2.cell? ⟨w.heap.size, 3, none⟩ = some (.slice A n c) := (B1.no hf2).cell 3; have F2 := F1.trans hf2; have T2 := hT.fr F2)
          | (go_at_call 65; refine (HE.out _ F2 T2).mono ?_; rintro e w3 ⟨rfl, hf3⟩; have F3 := F2.trans hf3))
        go_ret
        exact ⟨rfl, F3⟩
      | true =>
        go_wp2_with (first
          | (go_at_call 64; refine (HN.out _).mono ?_; rintro e w1 ⟨rfl, hf1⟩; have B1 := (Bk.new w _ _).no hf1; have x2 : w1.cell? ⟨w.heap.size, 2, none⟩ = some (.string Y) := B1.cell 2; have F1 := ((Fr.refl No w).alloc _).trans hf1; have T1 := hT.fr F1)
          | (go_at_call 34; refine (HU.out _ T1).mono ?_; rintro e w2 ⟨rfl, hf2⟩; have B2 := B1.no hf2; have x3 : w2.cell? ⟨w.heap.size, 3, none⟩ = some (.slice A n c) := B2.cell 3; have F2 := F1.trans hf2; have T2 := hT.fr F2)
          | (go_at_call 65; refine (HE.out _ F2 T2).mono ?_; rintro e w3 ⟨rfl, hf3⟩; have x4 : w3.cell? ⟨w.heap.size, 3, none⟩ = some (.slice A n c) := (B2.no hf3).cell 3; have F3 := F2.trans hf3)
          | (go_at_call 67; refine (HQ.out _ F3).mono ?_; rintro e w4 ⟨rfl, hf4⟩))
        go_ret
        exact ⟨ret_bool (by simp), F3.trans hf4⟩

theorem c_every_node (ls : List Nod) (A : Option Addr) (n c : Nat) (N : Nat → Prop) (w : World) (h : RdI 4 NodI w N A n c ls) (hs : ∀ a ∈ ls, NodS a) (hn : n ≤ 1000000000) (hT : Tabs w) :
    Calls Tryz.prog 43 #[.slice A n c, .func (.func 44) #[] #[]] w fun e w' => e = .returned (.bool (ls.all soundB)) ∧ Fr No w w' := by
  have hlen := h.len nod_ok (by omega)
  have HR := Lib.hid h; have HS := Lib.hid hs; have HT := Lib.hid hT
  clear h hs hT
  go_enter Tryz.func43, Tryz.ntmps43
  go_wp2
  go_loopw [9] (fun iv wr => ∃ k : Nat, iv = .int .i64 (k : Int) ∧ k ≤ n ∧ Fr No w wr ∧ (ls.take k).all soundB = true) (fun iv _ => n - (intOf iv).toNat)
  case atStart => exact ⟨0, rfl, Nat.zero_le _, Fr.refl _ _, rfl⟩
  case round =>
    obtain ⟨k, rfl, hk, hfr, hall⟩ := hrel
    rcases Nat.lt_or_ge k n with hlt | hge
    · have hltI : (k : Int) < (n : Int) := by omega
      have hkl : k < ls.length := by omega
      obtain ⟨ad, cs, rfl, ⟨X, Y, A1, n1, c1, rfl, hX, hY, hA1⟩, hc⟩ := (HR.out.no nod_ok hfr).at_ nod_ok (by omega) (i := k) hkl
      have x0 := hc 0 _ rfl
      have x1 := hc 1 _ rfl
      have x2 := hc 2 _ rfl
      have x3 := hc 3 _ rfl
      rw [add_next ad] at x1 x2 x3
      obtain ⟨P, hP⟩ : ∃ P, ad.add (k * 4) = P := ⟨_, rfl⟩
      rw [Nat.add_zero, hP] at x0
      rw [hP] at x1 x2 x3
      have hcv := fun u (hf : Fr No wr u) (hu : Tabs u) => c_sound_any ls[k].parent X Y A1 n1 c1 N u ls[k] hX hY (hA1.no attr_ok hf) (HS.out _ (List.getElem_mem hkl)) hu
      have htk := all_take soundB ls k hkl
      rw [hall, Bool.true_and] at htk
      have haf := all_at_false (p := soundB) hkl
      generalize soundB ls[k] = q at *
      have HV := Lib.hid hcv; have HFR := Lib.hid hfr; have HTK := Lib.hid htk; have HAF := Lib.hid haf
      clear hcv hfr htk haf hc hX hY hA1 hall
      cases q with
      | true =>
        go_wp2_with (go_at_call 44; refine (HV.out _ ((Fr.refl No wr).alloc _) ((HT.out.fr HFR.out).alloc)).mono ?_; rintro e w1 ⟨rfl, hf1⟩)
        go_roundw
        case rel => exact ⟨k + 1, by go_num, hlt, (HFR.out.alloc _).trans hf1, HTK.out⟩
        case measure => simp [intOf]; omega
      | false =>
        go_wp2_with (go_at_call 44; refine (HV.out _ ((Fr.refl No wr).alloc _) ((HT.out.fr HFR.out).alloc)).mono ?_; rintro e w1 ⟨rfl, hf1⟩)
        go_ret
        exact ⟨ret_bool (HAF.out (by trivial)).symm, (HFR.out.alloc _).trans hf1⟩
    · have hke : k = n := by omega
      subst hke
      have HFR := Lib.hid hfr; have HA := Lib.hid hall
      clear hfr hall
      go_wp2
      go_ret
      exact ⟨ret_bool (by rw [← HA.out, List.take_of_length_le (by omega)]), HFR.out⟩
end Go.Proofs.YthkjmbkfcnehoaaGreatDoor
