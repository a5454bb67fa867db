/- The texts RefCan1, Trim, CanNam, joined. -/
import Derived.Test.YtbfodbejdaafaaaGreatDoorK21
import Derived.Test.YtbfodbejdaafaaaGreatDoorK16
import Derived.Lib.SlTrimSet
import Derived.Lib.Bytealg
import Derived.Test.YtbfodbejdaafaaaGreatDoorK11
import Derived.Test.YtbfodbejdaafaaaGreatDoorK20
import Derived.Test.YtbfodbejdaafaaaGreatDoorK24
import Derived.Maps.OwnSet
/- The statements' own trees: the places of the nodes of a parent, how deep one stands, whether one is still open. -/
namespace Go.Proofs.YtbfodbejdaafaaaGreatDoor
open Go.RowKit
set_option maxHeartbeats 400000
set_option linter.unusedVariables false

theorem chain_far (l : List Nod) (f : Nat) {k : Int} (h : (l.length : Int) ≤ k) : chainF l f k = [] := by
  obtain ⟨j, rfl⟩ := Int.eq_ofNat_of_zero_le (show 0 ≤ k by omega)
  exact chain_out (List.getElem?_eq_none (by omega)) f
theorem r_depth_any (ns : List Nod) (A : Option Addr) (n c : Nat) (i : Int) (N : Nat → Prop) (w : World) (h : RdI 4 NodI w N A n c ns) (hn : n ≤ 1000000000) :
    Calls Tryz.prog 43 #[.slice A n c, .int .i64 i] w fun e w' => e = .returned (.int .i64 ((chainF ns 34 i).length : Int)) ∧ w = w' := by
  have hlen := h.len nod_ok (by omega)
  have HR := Lib.hid h
  clear h
  go_enter Tryz.func43, Tryz.ntmps43
  go_wp2
  go_loop [5, 6] (fun mv kv => ∃ (m : Nat) (k : Int), mv = .int .i64 (m : Int) ∧ kv = .int .i64 k ∧ m ≤ 34 ∧ (chainF ns 34 i).length = m + (chainF ns (34 - m) k).length) (fun mv _ => 34 - (intOf mv).toNat)
  case atStart => exact ⟨0, i, rfl, rfl, by omega, by simp⟩
  case round =>
    obtain ⟨m, k, rfl, rfl, hm, hch⟩ := hrel
    by_cases h0 : k < 0
    · have h0' : ¬ k ≥ 0 := by omega
      rw [chain_neg _ _ h0, List.length_nil, Nat.add_zero] at hch
      have HC := Lib.hid hch
      clear hch h0
      go_wp2
      go_ret
      exact ⟨by rw [HC.out]; rfl, rfl⟩
    by_cases h1 : (n : Int) ≤ k
    · have h0' : k ≥ 0 := by omega
      have h1' : ¬ k < (n : Int) := by omega
      rw [chain_far ns (34 - m) (k := k) (by omega), List.length_nil, Nat.add_zero] at hch
      have HC := Lib.hid hch
      clear hch h0 h1
      go_wp2
      go_ret
      exact ⟨by rw [HC.out]; rfl, rfl⟩
    have h0' : k ≥ 0 := by omega
    have h1' : k < (n : Int) := by omega
    by_cases h2 : m = 34
    · subst h2
      have h2' : ¬ ((34 : Nat) : Int) ≤ 33 := by omega
      replace hch : (chainF ns 34 i).length = 34 := by simpa [chainF] using hch
      have HC := Lib.hid hch
      clear hch h0 h1
      go_wp2
      go_ret
      exact ⟨by rw [HC.out]; rfl, rfl⟩
    · have h2' : (m : Int) ≤ 33 := by omega
      obtain ⟨q, rfl⟩ := Int.eq_ofNat_of_zero_le h0'
      have hql : q < ns.length := by omega
      obtain ⟨ad, cs, rfl, ⟨X, Y, A1, n1, c1, rfl, hX, hY, hA1⟩, hc⟩ := HR.out.at_ nod_ok (by omega) (i := q) hql
      have x0 := hc 0 _ rfl
      obtain ⟨P, hP⟩ : ∃ P, ad.add (q * 4) = P := ⟨_, rfl⟩
      rw [Nat.add_zero, hP] at x0
      have hst := chain_at (33 - m) (List.getElem?_eq_getElem hql)
      rw [show 33 - m + 1 = 34 - m from by omega] at hst
      rw [hst, List.length_cons, show 33 - m = 34 - (m + 1) from by omega] at hch
      have HC := Lib.hid hch
      clear hch hst hc hX hY hA1 h0 h1 h2
      go_wp2
      go_round
      case rel => exact ⟨m + 1, ns[q].parent, by go_num, rfl, by omega, by rw [HC.out]; omega⟩
      case measure => simp [intOf]; omega

/-! ### is one still open? -/
def opnB (l : List Nod) (p k : Int) : Bool := if k < 0 then false else (chainL l k.toNat).contains p
theorem opn_step {l : List Nod} {q : Nat} {p : Int} (hv : Valid l q) (hq : q < l.length) (hne : (q : Int) ≠ p) : opnB l p (q : Int) = opnB l p (l[q]).parent := by
  obtain ⟨v1, v2⟩ := hv q _ (Nat.le_refl _) (List.getElem?_eq_getElem hq)
  have hb : (p == (q : Int)) = false := by rw [beq_eq_false_iff_ne]; exact fun e => hne e.symm
  unfold opnB
  rw [if_neg (by omega), Int.toNat_natCast]
  rcases Nat.eq_zero_or_pos q with h0 | h0
  · subst h0
    rw [if_pos (v1 rfl), chain_zero (List.getElem?_eq_getElem hq) (v1 rfl)]
    simpa using fun e : p = 0 => hne e.symm
  · obtain ⟨r, hr⟩ := Int.eq_ofNat_of_zero_le (v2 h0).1
    have := (v2 h0).2
    rw [if_neg (by omega), chain_succ hv (List.getElem?_eq_getElem hq) hr h0, List.contains_cons, hb, hr, Int.toNat_natCast, Bool.false_or]
theorem opn_here {l : List Nod} {q : Nat} (hq : q < l.length) : opnB l (q : Int) (q : Int) = true := by
  unfold opnB
  obtain ⟨t, ht⟩ := chain_head hq
  rw [if_neg (by omega), Int.toNat_natCast, ht]
  simp
theorem r_opens_any (ns : List Nod) (A : Option Addr) (n c : Nat) (p : Int) (last : Nat) (N : Nat → Prop) (w : World) (h : RdI 4 NodI w N A n c ns) (hn : n ≤ 1000000000) (hv : Valid ns last) (hl : last < n) :
    Calls Tryz.prog 40 #[.slice A n c, .int .i64 p, .int .i64 (last : Int)] w fun e w' => e = .returned (.bool ((chainL ns last).contains p)) ∧ w = w' := by
  have hlen := h.len nod_ok (by omega)
  have e0 : (chainL ns last).contains p = opnB ns p (last : Int) := by unfold opnB; rw [if_neg (by omega), Int.toNat_natCast]
  rw [e0]
  have HR := Lib.hid h; have HV := Lib.hid hv
  clear h e0 hv
  obtain ⟨V, hV⟩ : ∃ V, opnB ns p (last : Int) = V := ⟨_, rfl⟩
  rw [hV]
  have HV0 := Lib.hid hV
  clear hV
  go_enter Tryz.func40, Tryz.ntmps40
  go_wp2
  go_loop [7] (fun kv => ∃ k : Int, kv = .int .i64 k ∧ k ≤ (last : Int) ∧ opnB ns p k = V) (fun kv => (intOf kv + 1).toNat)
  case atStart => exact ⟨last, rfl, Int.le_refl _, HV0.out⟩
  case round =>
    obtain ⟨k, rfl, hk, hch⟩ := hrel
    by_cases h0 : k < 0
    · have h0' : ¬ k ≥ 0 := by omega
      have hf : V = false := by rw [← hch]; unfold opnB; rw [if_pos h0]
      subst hf
      clear hch h0 HV0
      go_wp2
      go_ret
      exact ⟨rfl, rfl⟩
    have h0' : k ≥ 0 := by omega
    obtain ⟨q, rfl⟩ := Int.eq_ofNat_of_zero_le h0'
    have hql : q < ns.length := by omega
    by_cases hp : (q : Int) = p
    · subst hp
      rw [opn_here hql] at hch
      subst hch
      clear h0 HV0
      go_wp2
      go_ret
      exact ⟨rfl, rfl⟩
    · have hpe : ((q : Int) == p) = false := beq_eq_false_iff_ne.2 hp
      have hvq := valid_le HV.out (show q ≤ last by omega)
      rw [opn_step hvq hql hp] at hch
      have hlt : (ns[q]).parent < (q : Int) := by
        obtain ⟨v1, v2⟩ := hvq q _ (Nat.le_refl _) (List.getElem?_eq_getElem hql)
        rcases Nat.eq_zero_or_pos q with h | h
        · have := v1 h; omega
        · exact (v2 h).2
      obtain ⟨ad, cs, rfl, ⟨X, Y, A1, n1, c1, rfl, hX, hY, hA1⟩, hc⟩ := HR.out.at_ nod_ok (by omega) (i := q) hql
      have x0 := hc 0 _ rfl
      obtain ⟨P, hP⟩ : ∃ P, ad.add (q * 4) = P := ⟨_, rfl⟩
      rw [Nat.add_zero, hP] at x0
      generalize ns[q].parent = r at *
      have hqn : (q : Int) < (n : Int) := by omega
      have HC := Lib.hid hch
      clear hch hc hX hY hA1 h0 hp hvq
      go_wp2
      go_round
      case rel => exact ⟨r, rfl, by omega, HC.out⟩
      case measure => simp [intOf]; omega
end Go.Proofs.YtbfodbejdaafaaaGreatDoor
/- What strings.Trim leaves nothing of: plain functions on lists of bytes, no program. -/
namespace Go.Proofs.YtbfodbejdaafaaaGreatDoor
set_option linter.unusedVariables false

theorem drop_while_nil (q : UInt8 → Bool) : ∀ l : List UInt8, l.dropWhile q = [] ↔ l.all q = true
  | [] => by simp
  | c :: r => by
    rw [List.dropWhile_cons, List.all_cons]
    cases h : q c with
    | true => simpa using drop_while_nil q r
    | false => simp
theorem trim_nil (l cs : List UInt8) : (Lib.trimS l cs = []) ↔ l.all (fun c => cs.contains c) = true := by
  obtain ⟨q, hq⟩ : ∃ q : UInt8 → Bool, (fun c : UInt8 => cs.contains c) = q := ⟨_, rfl⟩
  unfold Lib.trimS Lib.trimLeftS Lib.trimRightS
  rw [hq, drop_while_nil]
  have hrev : l.all q = l.reverse.all q := by rw [List.all_reverse]
  constructor
  · intro h
    rw [List.all_reverse] at h
    rw [hrev, ← drop_while_nil]
    cases hd : l.reverse.dropWhile q with
    | nil => rfl
    | cons c r =>
      rw [hd, List.all_cons] at h
      have h2 := List.head?_dropWhile_not q l.reverse
      rw [hd] at h2
      simp only [List.head?_cons] at h2
      simp [h2] at h
  · intro h
    rw [hrev, ← drop_while_nil] at h
    rw [h]
    rfl
theorem index_in (c : UInt8) : ∀ l : List UInt8, (0 ≤ Lib.indexByte l c) ↔ l.contains c = true
  | [] => by simp [Lib.indexByte]
  | b :: l => by
    have ih := index_in c l
    have hg := Lib.indexByte_ge l c
    unfold Lib.indexByte
    rw [List.contains_cons]
    by_cases hb : b = c
    · subst hb; simp
    · have h1 : (b == c) = false := by simpa using hb
      have h2 : (c == b) = false := by simpa using fun e : c = b => hb e.symm
      rw [h1, h2, Bool.false_or, ← ih]
      simp only [Bool.false_eq_true, if_false]
      split
      · rename_i h
        have : Lib.indexByte l c = -1 := by simpa using h
        rw [this]
      · rename_i h
        have : ¬ Lib.indexByte l c = -1 := by simpa using h
        omega
end Go.Proofs.YtbfodbejdaafaaaGreatDoor
/- What package canon does: names, values, attributes that are all different, all that a node has by itself. -/
namespace Go.Proofs.YtbfodbejdaafaaaGreatDoor
open Go.RowKit Go.Maps Go.WideMaps
set_option maxHeartbeats 400000
set_option linter.unusedVariables false

def firstL : List UInt8 := [65, 66, 67, 68, 69, 70, 71, 72, 73, 74, 75, 76, 77, 78, 79, 80, 81, 82, 83, 84, 85, 86, 87, 88, 89, 90, 97, 98, 99, 100, 101, 102, 103, 104, 105, 106, 107, 108, 109, 110, 111, 112, 113, 114, 115, 116, 117, 118, 119, 120, 121, 122, 95]
def behindL : List UInt8 := [65, 66, 67, 68, 69, 70, 71, 72, 73, 74, 75, 76, 77, 78, 79, 80, 81, 82, 83, 84, 85, 86, 87, 88, 89, 90, 97, 98, 99, 100, 101, 102, 103].append [104, 105, 106, 107, 108, 109, 110, 111, 112, 113, 114, 115, 116, 117, 118, 119, 120, 121, 122, 95, 48, 49, 50, 51, 52, 53, 54, 55, 56, 57, 45, 46, 58]
theorem fi_all : (List.range 256).all (fun n => firstL.contains (UInt8.ofNat n) == isFi (UInt8.ofNat n)) = true := by kernel_rfl
theorem wi_all : (List.range 256).all (fun n => behindL.contains (UInt8.ofNat n) == isWi (UInt8.ofNat n)) = true := by kernel_rfl
theorem fi_eq (c : UInt8) : firstL.contains c = isFi c := by
  have := List.all_eq_true.1 fi_all c.toNat (List.mem_range.2 c.toNat_lt)
  rw [UInt8.ofNat_toNat] at this
  simpa using this
theorem wi_eq (c : UInt8) : behindL.contains c = isWi c := by
  have := List.all_eq_true.1 wi_all c.toNat (List.mem_range.2 c.toNat_lt)
  rw [UInt8.ofNat_toNat] at this
  simpa using this
theorem cn_low_all : behindL.all (fun b => decide (b.toNat < 128)) = true := by kernel_rfl
theorem c_index (c : UInt8) (w : World) : Calls Tryz.prog 78 #[.string ⟨#[65, 66, 67, 68, 69, 70, 71, 72, 73, 74, 75, 76, 77, 78, 79, 80, 81, 82, 83, 84, 85, 86, 87, 88, 89, 90, 97, 98, 99, 100, 101, 102, 103, 104, 105, 106, 107, 108, 109, 110, 111, 112, 113, 114, 115, 116, 117, 118, 119, 120, 121, 122, 95]⟩, .int .u8 (c.toNat : Int)] w fun e w' => ∃ K : Int, e = .returned (.int .i64 K) ∧ w = w' ∧ (isFi c = true → 0 ≤ K) ∧ (isFi c = false → K < 0) := by
  refine (Tryz.strings_IndexByte _ (c.toNat : Int) w).mono ?_
  rintro e w' ⟨rfl, rfl⟩
  refine ⟨_, rfl, rfl, ?_⟩
  rw [show ((c.toNat : Int).toNat).toUInt8 = c from by simp]
  have h := index_in c firstL
  rw [fi_eq] at h
  exact ⟨h.2, fun hf => Int.lt_of_not_ge (fun h0 => by rw [h.1 h0] at hf; cases hf)⟩
theorem c_trim (S : ByteArray) (w : World) (hs : S.size ≤ 140737488355328) : Calls Tryz.prog 67 #[.string S, .string ⟨behindL.toArray⟩] w fun e w' => ∃ R : ByteArray, e = .returned (.string R) ∧ Fr No w w' ∧ (R.toList == []) = S.data.toList.all isWi := by
  refine (Tryz.strings_Trim S ⟨behindL.toArray⟩ w (by omega) (by show behindL.length < _; decide) (ascii_of_all cn_low_all)).mono ?_
  rintro e w' ⟨rfl, hb⟩
  refine ⟨_, rfl, Fr.of_below hb, ?_⟩
  have h := trim_nil S.data.toList behindL
  rw [show (fun c => behindL.contains c) = isWi from funext wi_eq] at h
  rw [Bool.eq_iff_iff, ← h, beq_iff_eq]
  show (bstr (Lib.trimS S.data.toList behindL)).toList = [] ↔ _
  rw [bstr_toList]
set_option maxRecDepth 20000 in
theorem c_named_any (S : ByteArray) (w : World) (hs : S.size ≤ 140737488355328) : Calls Tryz.prog 58 #[.string S] w fun e w' => e = .returned (.bool (nameOk S.data.toList)) ∧ Fr No w w' := by
  cases hl : S.data.toList with
  | nil =>
    have hb : S.toList.isEmpty = true := by rw [ba_list, hl]; rfl
    clear hl
    go_enter Tryz.func58, Tryz.ntmps58
    go_wp2
    go_ret
    exact ⟨rfl, Fr.refl _ _⟩
  | cons c r =>
    have hb : S.toList.isEmpty = false := by rw [ba_list, hl]; rfl
    have hsz : 0 < S.size := by rw [sz_eq hl]; simp
    have hc : S[0] = c := by
      have : S[0] = S.data.toList[0]'(by rw [hl]; simp) := rfl
      rw [this]; simp [hl]
    have hn : nameOk (c :: r) = (isFi c && (c :: r).all isWi) := rfl
    rw [hn]
    have hix := fun u => c_index c u
    have htr := fun u => c_trim S u hs
    rw [hl] at htr
    have HIX := Lib.hid hix; have HTR := Lib.hid htr
    clear hix htr hn hl hs
    cases hf : isFi c with
    | false =>
      rw [hf] at HIX
      have HIX := Lib.hid HIX.out
      go_enter Tryz.func58, Tryz.ntmps58
      go_wp2_with (go_at_call 78; refine (HIX.out _).mono ?_; rintro e w' ⟨K, rfl, rfl, -, hK⟩; have hK := hK rfl)
      go_ret
      exact ⟨rfl, Fr.refl _ _⟩
    | true =>
      rw [hf] at HIX
      generalize (c :: r).all isWi = q at *
      go_enter Tryz.func58, Tryz.ntmps58
      go_wp2_with (first
        | (go_at_call 78; refine (HIX.out _).mono ?_; rintro e w' ⟨K, rfl, rfl, hK, -⟩; have hK := hK rfl)
        | (go_at_call 67; refine (HTR.out _).mono ?_; rintro e w1 ⟨R, rfl, hfr, hR⟩))
      go_ret
      exact ⟨ret_bool (by simp), hfr⟩
end Go.Proofs.YtbfodbejdaafaaaGreatDoor
