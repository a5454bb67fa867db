/- The texts Build, Bd, TokVal, TokVal2, joined. -/
import Derived.Test.YthkjmbkfcnehoaaGreatDoorShelf
import Derived.Test.YthkjmbkfcnehoaaGreatDoorSm
import Derived.Shelf.Strings.BuilderK
import Derived.Test.YthkjmbkfcnehoaaGreatDoorTokN
/- strings.Builder: copyCheck and WriteString, by the shelf's own proofs over this program's text. -/
namespace Go.Proofs.YthkjmbkfcnehoaaGreatDoor
open Go.RowKit
set_option linter.unusedVariables false

theorem sb_size : (Tryz.prog.info? 66).map (·.size) = some 2 := by kernel_rfl
theorem sb_lies : liesAt Tryz.prog Tryz.prog.depth 66 (2 / Tryz.prog.cellsOf 66) 0 66 1 = true := by kernel_rfl
theorem sb_byte : (Tryz.prog.info? 5).map (fun i => (i.zero, i.size, i.bytes)) = some (some (.int .u8 0), 1, 1) := by kernel_rfl

set_option maxHeartbeats 1000000 in
set_option maxRecDepth 100000 in
theorem sb_check_used (b : Nat) (w : World) (h0 : w.cell? ⟨b, 0, none⟩ = some (.pointer (some ⟨b, 0, none⟩))) :
    Calls Tryz.prog 95 #[.pointer (some ⟨b, 0, none⟩)] w fun e w' => e = .returned (.tuple #[]) ∧ w' = w := by
  obtain ⟨j, hj, _⟩ := Option.map_eq_some_iff.1 sb_size
  go_enter Tryz.func95, Tryz.ntmps95
  go_wp2
  rw [Lib.run_neq_ptr_same w _ Tryz.underlying63 hj]
  go_wp2
  go_end0
  exact ⟨rfl, rfl⟩

set_option maxHeartbeats 1000000 in
set_option maxRecDepth 100000 in
theorem sb_check_fresh (b : Nat) (w : World) (h0 : w.cell? ⟨b, 0, none⟩ = some (.pointer none)) (hsh : w.shape? b = some (66, 2)) (hfz : w.frozen? ⟨b, 0, none⟩ = false) :
    Calls Tryz.prog 95 #[.pointer (some ⟨b, 0, none⟩)] w fun e w' => e = .returned (.tuple #[]) ∧ w' = w.setCell ⟨b, 0, none⟩ (.pointer (some ⟨b, 0, none⟩)) := by
  obtain ⟨j, hj, hjs⟩ := Option.map_eq_some_iff.1 sb_size
  go_enter Tryz.func95, Tryz.ntmps95
  go_wp2
  rw [Lib.run_to_unsafe w ⟨b, 0, none⟩ Tryz.underlying63 Tryz.underlying149 hj (by rw [hjs]; decide) hsh (Nat.zero_lt_succ 1)]
  simp only [Result.andThen]
  rw [Oper.upon_value]
  go_wp2
  rw [run_callFunc_extern Tryz.func113 (by kernel_rfl) (by kernel_rfl) (by kernel_rfl) (e := Extern.AbiNoEscape.same) (by kernel_rfl)]
  rw [Lib.run_noEscape]
  simp only [Result.andThen]
  rw [Oper.upon_value]
  go_wp2
  rw [Lib.run_from_unsafe w ⟨b, 0, none⟩ Tryz.underlying149 Tryz.underlying63 hj hsh sb_lies]
  simp only [Result.andThen]
  rw [Oper.upon_value]
  go_wp2
  go_end0
  exact ⟨rfl, rfl⟩

theorem sb_check (B b : Nat) (bs : List Value) (w : World) (h : Lib.IsBuilderF 66 5 B b bs w) :
    Calls Tryz.prog 95 #[.pointer (some ⟨b, 0, none⟩)] w fun e w' => e = .returned (.tuple #[]) ∧ (Lib.BuilderAtF 66 5 B b (.pointer (some ⟨b, 0, none⟩)) bs w' ∧ Below B w w' ∧ Lib.OthersKept 5 (some b) w w') := by
  rcases h with h | h
  · refine (sb_check_fresh b w h.cell0 h.shape h.frozen0).mono ?_
    rintro e w' ⟨rfl, rfl⟩
    exact ⟨rfl, h.used _, (Below.refl B w).setCell (p := ⟨b, 0, none⟩) h.1 _, (Lib.OthersKept.refl _ _ w).setCell ⟨b, 0, none⟩ rfl _⟩
  · refine (sb_check_used b w h.cell0).mono ?_
    rintro e w' ⟨rfl, rfl⟩
    exact ⟨rfl, h, Below.refl B _, Lib.OthersKept.refl _ _ _⟩

set_option maxHeartbeats 2000000 in
set_option maxRecDepth 100000 in
theorem sb_write (B b : Nat) (bs : List Value) (s : ByteArray) (w : World) (h : Lib.IsBuilderF 66 5 B b bs w) (hlen : bs.length + s.size ≤ 140737488355328) (hBw : B ≤ w.heap.size) :
    Calls Tryz.prog 68 #[.pointer (some ⟨b, 0, none⟩), .string s] w fun e w' => e = .returned (.tuple #[.int .i64 s.size, .nilIface]) ∧ (Lib.BuilderAtF 66 5 B b (.pointer (some ⟨b, 0, none⟩)) (bs ++ Lib.strCells s) w' ∧ Below B w w' ∧ Lib.OthersKept 5 (some b) w w') := by
  obtain ⟨i0, hi, hz0, hz1, hz2⟩ := info_parts sb_byte
  go_enter Tryz.func68, Tryz.ntmps68
  go_wp2_with (go_at_call 95; refine (sb_check B b bs _ h).mono ?_)
  rintro e w1 ⟨rfl, h1, hb1, hk1⟩
  obtain ⟨hB, v, hbk, hown, hne⟩ := h1
  have c0 : w1.cell? ⟨b, 0, none⟩ = some (.pointer (some ⟨b, 0, none⟩)) := by rw [Lib.cell_of_heap hbk]; rfl
  have c1 : w1.cell? ⟨b, 1, none⟩ = some v := by rw [Lib.cell_of_heap hbk]; rfl
  go_wp2_with (at_builtin; refine Lib.wpList_append_own_stringF _ rfl _ _ 64 9 rfl B 5 i0 Tryz.underlying64 Tryz.underlying9 hi hz0 hz1 hz2 _ _ _ rfl hown s rfl ?c3 ?c4 ?c5 ?_)
  case c3 => unfold maxLen; omega
  case c4 => omega
  case c5 => have := hb1.size; omega
  intro v' w2 hown' hgrow _
  have hlt : b < w1.heap.size := by
    rcases Nat.lt_or_ge b w1.heap.size with h' | h'
    · exact h'
    · simp [Array.getElem?_eq_none h'] at hbk
  have hb2 : w2.heap[b]? = some (.cells #[.pointer (some ⟨b, 0, none⟩), v] 66 (0, 0)) := by
    rw [hgrow.block b hlt (fun e => hne e.symm)]
    exact hbk
  have d0 : w2.cell? ⟨b, 0, none⟩ = some (.pointer (some ⟨b, 0, none⟩)) := by rw [Lib.cell_of_heap hb2]; rfl
  have d1 : w2.cell? ⟨b, 1, none⟩ = some v := by rw [Lib.cell_of_heap hb2]; rfl
  have f1 : w2.frozen? ⟨b, 1, none⟩ = false := Lib.frozen_of_heap hb2 1
  obtain ⟨ao, n', cap, rfl⟩ : ∃ ao n' cap, v' = .slice ao n' cap := by
    rcases hown'.2 with ⟨hv, _⟩ | ⟨g, cap, cur, fz, hv, _⟩
    · exact ⟨_, _, _, hv⟩
    · exact ⟨_, _, _, hv⟩
  go_wp2
  go_ret2
  refine ⟨rfl, ?_, ?_, (hk1.grown hgrow (Lib.ownsRowF_kind hown)).setCell ⟨b, 1, none⟩ rfl _⟩
  · exact Lib.BuilderAtF.put (T := 66) (e := 5) hB hb2 (bs' := bs ++ Lib.strCells s) (by simpa [Lib.strCells_length] using hown') (by decide)
  · exact (hb1.grown hgrow (by have := hb1.size; omega) (fun k hk => (hown.lt k hk).1)).setCell (p := ⟨b, 1, none⟩) hB _
end Go.Proofs.YthkjmbkfcnehoaaGreatDoor
/- A strings.Builder of one's own. -/
namespace Go.Proofs.YthkjmbkfcnehoaaGreatDoor
open Go.RowKit
set_option maxHeartbeats 400000
set_option linter.unusedVariables false

/-! ### a builder of one's own -/
def Bd (w : World) (B b : Nat) (l : List UInt8) : Prop := Lib.IsBuilderF 66 5 B b (Lib.byteCells l) w
theorem Bd.no {a c : World} {B b : Nat} {l : List UInt8} (h : Bd a B b l) (hf : Fr No a c) : Bd c B b l := by
  have key : ∀ p, Lib.BuilderAtF 66 5 B b p (Lib.byteCells l) a → Lib.BuilderAtF 66 5 B b p (Lib.byteCells l) c := by
    rintro p ⟨h1, v, h2, h3, h4⟩
    exact ⟨h1, v, hf.heap h2 (fun x => x), h3.kept hf.grownNone (by by_cases e : v.ownBlock = none; exact .inl e; exact .inr e), h4⟩
  rcases h with h | h
  · exact .inl (key _ h)
  · exact .inr (key _ h)
theorem Bd.dr {a c : World} {B b : Nat} {l : List UInt8} (h : Bd a B b l) (hf : Dr a c) : Bd c B b l := h.no hf.fr
theorem Bd.new (w : World) : Bd (w.alloc (.cells #[.pointer none, .slice none 0 0] 66)) w.heap.size w.heap.size [] := Lib.IsBuilderF.of (Lib.fresh_isBuilder _ _ _)
theorem k_write (B b : Nat) (l : List UInt8) (s : ByteArray) (w : World) (h : Bd w B b l) (hl : l.length ≤ 1000000) (hs : s.size ≤ 1000000) (hB : B ≤ w.heap.size) :
    Calls Tryz.prog 68 #[.pointer (some ⟨b, 0, none⟩), .string s] w fun e w' => e = .returned (.tuple #[.int .i64 s.size, .nilIface]) ∧ Bd w' B b (l ++ s.data.toList) ∧ Below B w w' := by
  refine (sb_write B b _ s w h (by rw [Lib.byteCells_length]; omega) hB).mono ?_
  rintro e w' ⟨rfl, h1, h2, _⟩
  refine ⟨rfl, .inr ?_, h2⟩
  have e1 : Lib.byteCells l ++ Lib.strCells s = Lib.byteCells (l ++ s.data.toList) := by unfold Lib.byteCells Lib.strCells; rw [List.map_append]
  rw [← e1]
  exact h1
theorem k_string (B b : Nat) (l : List UInt8) (w : World) (h : Bd w B b l) (hB : B ≤ w.heap.size) :
    Calls Tryz.prog 27 #[.pointer (some ⟨b, 0, none⟩)] w fun e w' => e = .returned (.string (bstr l)) ∧ Below B w w' := by
  refine (Tryz.Builder_String_any_k B b l w h hB).mono ?_
  rintro e w' ⟨rfl, h1⟩
  exact ⟨rfl, h1.2.1⟩

end Go.Proofs.YthkjmbkfcnehoaaGreatDoor
/- What package token does: a character by its name; what a text tells. -/
namespace Go.Proofs.YthkjmbkfcnehoaaGreatDoor
open Go.RowKit
set_option maxHeartbeats 400000
set_option linter.unusedVariables false

/-! ### a character by its name -/
theorem k_cutp (S M : ByteArray) (w : World) :
    Calls Tryz.prog 79 #[.string S, .string M] w fun e w' => ∃ T : ByteArray, e = .returned (.tuple #[.string T, .bool (isP M.data.toList S.data.toList).isSome]) ∧ T.data.toList = (isP M.data.toList S.data.toList).getD S.data.toList ∧ w = w' := by
  refine (Tryz.strings_CutPrefix S M w).mono ?_
  rintro e w' ⟨rfl, rfl⟩
  have e1 : Lib.hasPrefix S.data.toList M.data.toList = (isP M.data.toList S.data.toList).isSome := by
    unfold Lib.hasPrefix isP; cases M.data.toList.isPrefixOf S.data.toList <;> rfl
  have e2 : Lib.trimPrefix S.data.toList M.data.toList = (isP M.data.toList S.data.toList).getD S.data.toList := by
    unfold Lib.trimPrefix Lib.hasPrefix isP; split <;> rfl
  rw [e1, e2]
  exact ⟨_, rfl, rfl, rfl⟩
/-- what an answer (text, yes) is, against what should be told -/
def Told (r : Option (List UInt8)) (e : Ending) : Prop := ∃ X : ByteArray, e = .returned (.tuple #[.string X, .bool r.isSome]) ∧ (r.isSome = true → some X.data.toList = r)
theorem Told.lit (l : List UInt8) : Told (some l) (.returned (.tuple #[.string (bstr l), .bool true])) := ⟨bstr l, rfl, fun _ => rfl⟩
theorem k_character (s : ByteArray) (hs : s.size ≤ 65536) (w : World) (hT : Tabs w) :
    Calls Tryz.prog 107 #[.string s] w fun e w' => Told (entV s.data.toList) e ∧ Fr No w w' := by
  obtain ⟨l, hl⟩ : ∃ l, s.data.toList = l := ⟨_, rfl⟩
  have hq : ∀ m : List UInt8, (s.toList == m) = decide (l = m) := fun m => by rw [ba_list, hl, Bool.eq_iff_iff]; simp
  have q0 := hq [108, 116]; have q1 := hq [103, 116]; have q2 := hq [97, 109, 112]; have q3 := hq [113, 117, 111, 116]; have q4 := hq [97, 112, 111, 115]
  clear hq
  rw [hl]
  by_cases h0 : l = [108, 116]
  · rw [decide_eq_true h0] at q0
    rw [h0]
    clear q1 q2 q3 q4 hl h0
    go_enter Tryz.func107, Tryz.ntmps107
    go_wp2
    go_ret2
    exact ⟨Told.lit [60], Fr.refl _ _⟩
  rw [decide_eq_false h0] at q0
  by_cases h1 : l = [103, 116]
  · rw [decide_eq_true h1] at q1
    rw [h1]
    clear q2 q3 q4 hl h0 h1
    go_enter Tryz.func107, Tryz.ntmps107
    go_wp2
    go_ret2
    exact ⟨Told.lit [62], Fr.refl _ _⟩
  rw [decide_eq_false h1] at q1
  by_cases h2 : l = [97, 109, 112]
  · rw [decide_eq_true h2] at q2
    rw [h2]
    clear q3 q4 hl h0 h1 h2
    go_enter Tryz.func107, Tryz.ntmps107
    go_wp2
    go_ret2
    exact ⟨Told.lit [38], Fr.refl _ _⟩
  rw [decide_eq_false h2] at q2
  by_cases h3 : l = [113, 117, 111, 116]
  · rw [decide_eq_true h3] at q3
    rw [h3]
    clear q4 hl h0 h1 h2 h3
    go_enter Tryz.func107, Tryz.ntmps107
    go_wp2
    go_ret2
    exact ⟨Told.lit [34], Fr.refl _ _⟩
  rw [decide_eq_false h3] at q3
  by_cases h4 : l = [97, 112, 111, 115]
  · rw [decide_eq_true h4] at q4
    rw [h4]
    clear hl h0 h1 h2 h3 h4
    go_enter Tryz.func107, Tryz.ntmps107
    go_wp2
    go_ret2
    exact ⟨Told.lit [39], Fr.refl _ _⟩
  rw [decide_eq_false h4] at q4
  have hE := entV_prog (s := l) (by
    intro j hj
    match j, hj with
    | 0, _ => exact h0
    | 1, _ => exact h1
    | 2, _ => exact h2
    | 3, _ => exact h3
    | 4, _ => exact h4)
  clear h0 h1 h2 h3 h4
  have hc1 := fun u => k_cutp s ⟨#[35, 120]⟩ u
  have hc2 := fun u => k_cutp s ⟨#[35]⟩ u
  have hsl := sz_eq hl
  cases hx : isP [35, 120] l with
  | some r =>
    rw [hl, show isP (⟨#[35, 120]⟩ : ByteArray).data.toList l = some r from hx] at hc1
    rw [hx] at hE
    have hlen := (isP_len hx).2
    have hn := fun (T : ByteArray) (hT2 : T.data.toList = r) u hu => k_numbered T 16 6 (.inr ⟨rfl, rfl⟩) (by rw [sz_eq hT2]; omega) u hu
    have hE : entV l = numQ 16 6 r := hE
    rw [hE]
    have HC1 := Lib.hid hc1; have HN := Lib.hid hn
    clear hc1 hc2 hn hE hl hx hsl
    go_enter Tryz.func107, Tryz.ntmps107
    go_wp2_with (first
      | (go_at_call 79; refine (HC1.out _).mono ?_; rintro e w' ⟨T, rfl, hT2, rfl⟩)
      | (go_at_call 120; refine (HN.out T hT2 _ hT).mono ?_; rintro e w2 ⟨⟨X, rfl, hX⟩, hf⟩; rw [show T.data.toList = r from hT2] at hX))
    go_ret2
    exact ⟨⟨X, rfl, hX⟩, hf⟩
  | none =>
    rw [hl, show isP (⟨#[35, 120]⟩ : ByteArray).data.toList l = none from hx] at hc1
    rw [hx] at hE
    cases hy : isP [35] l with
    | some r =>
      rw [hl, show isP (⟨#[35]⟩ : ByteArray).data.toList l = some r from hy] at hc2
      rw [hy] at hE
      have hlen := (isP_len hy).2
      have hn := fun (T : ByteArray) (hT2 : T.data.toList = r) u hu => k_numbered T 10 7 (.inl ⟨rfl, rfl⟩) (by rw [sz_eq hT2]; omega) u hu
      have hE : entV l = numQ 10 7 r := hE
      rw [hE]
      have HC1 := Lib.hid hc1; have HC2 := Lib.hid hc2; have HN := Lib.hid hn
      clear hc1 hc2 hn hE hl hx hsl hy
      have tok1 : True := trivial
      go_enter Tryz.func107, Tryz.ntmps107
      go_wp2_with (first
        | (go_at_call 79; clear tok1; refine (HC1.out _).mono ?_; rintro e w' ⟨T1, rfl, _, rfl⟩)
        | (go_at_call 79; refine (HC2.out _).mono ?_; rintro e w' ⟨T, rfl, hT2, rfl⟩)
        | (go_at_call 120; refine (HN.out T hT2 _ hT).mono ?_; rintro e w2 ⟨⟨X, rfl, hX⟩, hf⟩; rw [show T.data.toList = r from hT2] at hX))
      go_ret2
      exact ⟨⟨X, rfl, hX⟩, hf⟩
    | none =>
      rw [hl, show isP (⟨#[35]⟩ : ByteArray).data.toList l = none from hy] at hc2
      rw [hy] at hE
      have hE : entV l = none := hE
      rw [hE]
      have HC1 := Lib.hid hc1; have HC2 := Lib.hid hc2
      clear hc1 hc2 hE hl hx hsl hy
      have tok1 : True := trivial
      go_enter Tryz.func107, Tryz.ntmps107
      go_wp2_with (first
        | (go_at_call 79; clear tok1; refine (HC1.out _).mono ?_; rintro e w' ⟨T1, rfl, _, rfl⟩)
        | (go_at_call 79; refine (HC2.out _).mono ?_; rintro e w' ⟨T, rfl, _, rfl⟩))
      go_ret2
      exact ⟨⟨⟨#[]⟩, rfl, fun e => by cases e⟩, Fr.refl _ _⟩
end Go.Proofs.YthkjmbkfcnehoaaGreatDoor
/- What package token does: what a text tells. -/
namespace Go.Proofs.YthkjmbkfcnehoaaGreatDoor
open Go.RowKit
set_option maxHeartbeats 400000
set_option linter.unusedVariables false

theorem entV_len {s x : List UInt8} (h : entV s = some x) : x.length ≤ 4 := by
  have key : ∀ o : Option Nat, (match o with | none => none | some v => if charB v then some (encL (v : Int)) else none) = some x → x.length ≤ 4 := by
    intro o ho
    cases o with
    | none => cases ho
    | some v =>
      have ho : (if charB v then some (encL (v : Int)) else none) = some x := ho
      cases hc : charB v with
      | false => rw [hc] at ho; cases ho
      | true =>
        rw [hc, if_pos rfl] at ho
        injection ho with ho
        have hv : v ≤ 1114111 ∧ ¬ (55296 ≤ v ∧ v ≤ 57343) := by
          unfold charB at hc
          rw [decide_eq_true_iff] at hc
          omega
        have := (enc_size hv.1 hv.2).2.2.1
        rw [← ho]; exact this
  unfold entV at h
  split at h
  · injection h with h; rw [← h]; decide
  split at h
  · injection h with h; rw [← h]; decide
  split at h
  · injection h with h; rw [← h]; decide
  split at h
  · injection h with h; rw [← h]; decide
  split at h
  · injection h with h; rw [← h]; decide
  exact key _ h
/-- how a text goes on: its end, or a sign's name -/
theorem split_amp (l : List UInt8) : (∀ x ∈ l.takeWhile (upTo 38), x.toNat ≠ 38) := by
  intro x hx e
  have h1 := List.all_eq_true.1 (List.all_takeWhile (l := l) (p := upTo 38)) x hx
  unfold upTo at h1
  simp at h1
  exact h1 (UInt8.toNat_inj.1 e)
theorem split_semi (l : List UInt8) : (∀ x ∈ l.takeWhile (upTo 59), x.toNat ≠ 59) := by
  intro x hx e
  have h1 := List.all_eq_true.1 (List.all_takeWhile (l := l) (p := upTo 59)) x hx
  unfold upTo at h1
  simp at h1
  exact h1 (UInt8.toNat_inj.1 e)
theorem upTo_all {m : UInt8} {l : List UInt8} (h : l.dropWhile (upTo m) = []) : l.takeWhile (upTo m) = l := by
  have h1 := List.takeWhile_append_dropWhile (p := upTo m) (l := l)
  rw [h, List.append_nil] at h1
  exact h1
theorem upTo_cut {m c : UInt8} {l r : List UInt8} (h : l.dropWhile (upTo m) = c :: r) : l = l.takeWhile (upTo m) ++ m :: r := by
  have h1 := List.takeWhile_append_dropWhile (p := upTo m) (l := l)
  rw [h] at h1
  have hc : c = m := by
    have h2 := bg_drop (upTo m) l
    rw [h] at h2
    have h3 : upTo m c = false := h2
    unfold upTo at h3
    simpa using h3
  rw [hc] at h1
  exact h1.symm
/-- how long a text in a slot is -/
def strLen (v : Value) : Nat := match v with
  | .string S => S.size
  | _ => 0

set_option maxRecDepth 20000 in
theorem k_value (S : ByteArray) (hs : S.size ≤ 65536) (w : World) (hT : Tabs w) :
    Calls Tryz.prog 86 #[.string S] w fun e w' => ∃ V : ByteArray, e = .returned (.tuple #[.string V, .bool (valV S.data.toList).isSome]) ∧ V.data.toList = valB S.data.toList ∧ Fr No w w' := by
  obtain ⟨L, hL⟩ : ∃ L, S.data.toList = L := ⟨_, rfl⟩
  have hLs := sz_eq hL
  rw [hL]
  -- where it stands: A is ahead of the next sign, r what is left (none: no sign comes)
  have hcut : ∀ (T : ByteArray) (u : World), T.size ≤ 65536 → Calls Tryz.prog 106 #[.string T, .string ⟨#[38]⟩] u fun e w' => ∃ (X Y : ByteArray) (m : Bool), e = .returned (.tuple #[.string X, .string Y, .bool m]) ∧ (∀ x ∈ X.data.toList, x.toNat ≠ 38) ∧ (m = true → T.data.toList = X.data.toList ++ 38 :: Y.data.toList) ∧ (m = false → T.data.toList = X.data.toList) ∧ X.size + Y.size ≤ T.size ∧ Dr u w' := by
    intro T u hTs
    cases hd : T.data.toList.dropWhile (upTo 38) with
    | nil =>
      refine (k_cut_no T 38 u hd).mono ?_
      rintro e w' ⟨rfl, hdr⟩
      refine ⟨T, ⟨#[]⟩, false, rfl, ?_, (fun e => by cases e), fun _ => rfl, Nat.le_refl T.size, hdr⟩
      have := split_amp T.data.toList
      rw [upTo_all hd] at this
      exact this
    | cons c r =>
      refine (k_cut_yes T 38 c r u hTs hd).mono ?_
      rintro e w' ⟨X, Y, rfl, hX, hY, hdr⟩
      refine ⟨X, Y, true, rfl, by rw [hX]; exact split_amp _, (fun _ => by rw [hX, hY]; exact upTo_cut hd), (fun e => by cases e), ?_, hdr⟩
      have h2 := congrArg List.length (upTo_cut hd)
      rw [← hX, ← hY] at h2
      simp only [List.length_append, List.length_cons, size_list] at h2
      omega
  have hcut0 := fun u => hcut S u hs
  have HCUT := Lib.hid hcut; have HCUT0 := Lib.hid hcut0; have HL := Lib.hid hL
  clear hcut hcut0 hL
  have hb0 := Bd.new w
  have hF0 : Below w.heap.size w (w.alloc (.cells #[.pointer none, .slice none 0 0] 66)) := ((Fr.refl No w).alloc _).toBelow
  have HB0 := Lib.hid hb0; have HF0 := Lib.hid hF0
  clear hb0 hF0
  go_enter Tryz.func86, Tryz.ntmps86
  go_wp2_with (go_at_call 106; refine (HCUT0.out _).mono ?_; rintro e w1 ⟨X0, Y0, m0, rfl, hx0, hy0, hn0, hsz0, hd0⟩)
  have hb1 := HB0.out.dr hd0
  have hf1 : Below w.heap.size w w1 := HF0.out.trans (hd0.fr.toBelow.mono HF0.out.size)
  have HB1 := Lib.hid hb1; have HF1 := Lib.hid hf1; have HX0 := Lib.hid hx0; have HY0 := Lib.hid hy0; have HN0 := Lib.hid hn0; have HSZ0 := Lib.hid hsz0
  clear hb1 hf1 hd0 HB0 HF0 hx0 hy0 hn0 hsz0
  go_loopw [5, 6, 7] (fun va vr vm wr => ∃ (X Y : ByteArray) (m : Bool) (acc : List UInt8), va = .string X ∧ vr = .string Y ∧ vm = .bool m ∧ Bd wr w.heap.size w.heap.size acc ∧ Below w.heap.size w wr ∧ (∀ x ∈ X.data.toList, x.toNat ≠ 38) ∧
      (m = true → valV L = (valV (X.data.toList ++ 38 :: Y.data.toList)).map (acc ++ ·)) ∧ (m = false → valV L = (valV X.data.toList).map (acc ++ ·)) ∧ acc.length + 2 * (X.size + Y.size) ≤ 2 * S.size ∧ X.size + Y.size ≤ S.size) (fun va vr _ _ => strLen va + strLen vr)
  case atStart =>
    refine ⟨X0, Y0, m0, [], rfl, rfl, rfl, HB1.out, HF1.out, HX0.out, fun e => ?_, fun e => ?_, by have := HSZ0.out; simp; omega, HSZ0.out⟩
    · rw [← HY0.out e, HL.out]; simp
    · rw [← HN0.out e, HL.out]; simp
  case round =>
    obtain ⟨X, Y, m, acc, rfl, rfl, rfl, hb, hf, hx, hy, hn, ha, hz⟩ := hrel
    have hB : w.heap.size ≤ wr.heap.size := hf.size
    have hTr : Tabs wr := hT.below hf
    cases m with
    | false =>
      have hv := hn rfl
      rw [valV_all hx] at hv
      have hw1 := k_write _ _ acc X wr hb (by omega) (by omega) hB
      have hst := fun u hu hu2 => k_string w.heap.size w.heap.size (acc ++ X.data.toList) u hu hu2
      obtain ⟨V, hV⟩ : ∃ V, bstr (acc ++ X.data.toList) = V := ⟨_, rfl⟩
      have hVl : V.data.toList = acc ++ X.data.toList := by rw [← hV]; rfl
      rw [hV] at hst
      have hres : (valV L).isSome = true ∧ V.data.toList = valB L := ⟨by rw [hv]; rfl, by unfold valB; rw [hv, hVl]; rfl⟩
      generalize acc ++ X.data.toList = acc2 at hw1 hst
      have HW1 := Lib.hid hw1; have HST := Lib.hid hst; have HRES := Lib.hid hres; have HB := Lib.hid hB; have HF := Lib.hid hf
      clear hw1 hst hres hv hV hVl hx hy hn hb ha hz hf hB hLs
      go_wp2_with (first
        | (go_at_call 68; refine HW1.out.mono ?_; rintro e w2 ⟨rfl, hb2, hf2⟩)
        | (go_at_call 27; refine (HST.out _ hb2 (Nat.le_trans HB.out hf2.size)).mono ?_; rintro e w3 ⟨rfl, hf3⟩))
      go_ret2
      exact ⟨V, by rw [HRES.out.1]; rfl, HRES.out.2, Fr.of_below ((HF.out.trans hf2).trans hf3)⟩
    | true =>
      have hv := hy rfl
      rw [valV_cut hx, Option.map_map] at hv
      have hYs : Y.size ≤ 65536 := by omega
      cases hd : Y.data.toList.dropWhile (upTo 59) with
      | nil =>
        have hY59 : ∀ b ∈ Y.data.toList, b.toNat ≠ 59 := by
          have := split_semi Y.data.toList
          rw [upTo_all hd] at this
          exact this
        rw [valV_open hY59] at hv
        have hv : valV L = none := hv
        have hc := fun u => k_cut_no Y 59 u hd
        have hch := fun u hu => k_character Y hYs u hu
        have HC := Lib.hid hc; have HCH := Lib.hid hch; have HV := Lib.hid hv; have HF := Lib.hid hf; have HTR := Lib.hid hTr
        clear hc hch hv hY59 hx hy hn hb ha hz hd hYs hf hTr hB hLs
        go_wp2_with (first
          | (go_at_call 106; refine (HC.out _).mono ?_; rintro e w2 ⟨rfl, hd2⟩)
          | (go_at_call 107; refine (HCH.out _ (HTR.out.dr hd2)).mono ?_; rintro e w3 ⟨⟨C, rfl, _⟩, hf3⟩))
        go_ret2
        refine ⟨⟨#[]⟩, by rw [HV.out]; rfl, by unfold valB; rw [HV.out]; rfl, Fr.of_below (HF.out.trans ((hd2.fr.trans hf3).toBelow.mono HF.out.size))⟩
      | cons c R2 =>
        have hcutY := upTo_cut hd
        have hc := fun u => k_cut_yes Y 59 c R2 u hYs hd
        have hN59 := split_semi Y.data.toList
        generalize Y.data.toList.takeWhile (upTo 59) = N at hcutY hc hN59
        rw [hcutY, show 38 :: (N ++ 59 :: R2) = 38 :: N ++ (59 :: R2) from rfl, valV_ent hN59] at hv
        have hlenY : N.length + (R2.length + 1) = Y.size := by rw [← size_list, hcutY]; simp
        have hNs : N.length ≤ 65536 := by omega
        have hch := fun (T : ByteArray) (hT2 : T.data.toList = N) u hu => k_character T (by rw [sz_eq hT2]; exact hNs) u hu
        cases hen : entV N with
        | none =>
          rw [hen] at hv
          have hv : valV L = none := hv
          have hch2 : ∀ (T : ByteArray), T.data.toList = N → ∀ u, Tabs u → Calls Tryz.prog 107 #[.string T] u fun e w' => (∃ X : ByteArray, e = .returned (.tuple #[.string X, .bool false])) ∧ Fr No u w' := by
            intro T hT2 u hu
            refine (hch T hT2 u hu).mono ?_
            rw [hT2, hen]
            rintro e w' ⟨⟨C, rfl, _⟩, hf⟩
            exact ⟨⟨C, rfl⟩, hf⟩
          have HC := Lib.hid hc; have HCH := Lib.hid hch2; have HV := Lib.hid hv; have HF := Lib.hid hf; have HTR := Lib.hid hTr
          clear hc hch hch2 hv hx hy hn hb ha hz hd hYs hcutY hN59 hlenY hNs hen hf hTr hB hLs
          go_wp2_with (first
            | (go_at_call 106; refine (HC.out _).mono ?_; rintro e w2 ⟨T1, T2, rfl, hT1, hT2, hd2⟩)
            | (go_at_call 107; refine (HCH.out T1 hT1 _ (HTR.out.dr hd2)).mono ?_; rintro e w3 ⟨⟨C, rfl⟩, hf3⟩))
          go_ret2
          refine ⟨⟨#[]⟩, by rw [HV.out]; rfl, by unfold valB; rw [HV.out]; rfl, Fr.of_below (HF.out.trans ((hd2.fr.trans hf3).toBelow.mono HF.out.size))⟩
        | some x =>
          rw [hen] at hv
          have hx4 := entV_len hen
          have hN1 : 1 ≤ N.length := by
            cases N with
            | nil => exact absurd hen (by rw [show entV [] = none from rfl]; exact fun e => by cases e)
            | cons _ _ => simp
          have hv : valV L = (valV R2).map (fun z => acc ++ (X.data.toList ++ (x ++ z))) := by
            rw [hv]
            show ((valV R2).map _).map _ = _
            rw [Option.map_map]
            rfl
          have hch2 : ∀ (T : ByteArray), T.data.toList = N → ∀ u, Tabs u → Calls Tryz.prog 107 #[.string T] u fun e w' => (∃ C : ByteArray, e = .returned (.tuple #[.string C, .bool true]) ∧ C.data.toList = x) ∧ Fr No u w' := by
            intro T hT2 u hu
            refine (hch T hT2 u hu).mono ?_
            rw [hT2, hen]
            rintro e w' ⟨⟨C, rfl, hC⟩, hf⟩
            exact ⟨⟨C, rfl, Option.some.inj (hC rfl)⟩, hf⟩
          have hXl := size_list X
          have hw1 := fun u (hu : Bd u w.heap.size w.heap.size acc) (hu2 : w.heap.size ≤ u.heap.size) => k_write w.heap.size w.heap.size acc X u hu (by omega) (by omega) hu2
          have hw2 := fun (C : ByteArray) (hC : C.data.toList = x) u (hu : Bd u w.heap.size w.heap.size (acc ++ X.data.toList)) (hu2 : w.heap.size ≤ u.heap.size) => k_write w.heap.size w.heap.size (acc ++ X.data.toList) C u hu (by rw [List.length_append]; omega) (by rw [sz_eq hC]; omega) hu2
          have hR2 : ∀ T : ByteArray, T.data.toList = R2 → T.size ≤ 65536 := fun T hT2 => by rw [sz_eq hT2]; omega
          have hbnd : ∀ (X' Y' T : ByteArray), T.data.toList = R2 → X'.size + Y'.size ≤ T.size → (acc ++ X.data.toList ++ x).length + 2 * (X'.size + Y'.size) ≤ 2 * S.size ∧ X'.size + Y'.size ≤ S.size ∧ X'.size + Y'.size < X.size + Y.size := by
            intro X' Y' T hT2 h
            rw [sz_eq hT2] at h
            rw [List.length_append, List.length_append, hXl]
            omega
          have HC := Lib.hid hc; have HCH := Lib.hid hch2; have HV := Lib.hid hv; have HF := Lib.hid hf; have HTR := Lib.hid hTr; have HW1 := Lib.hid hw1; have HW2 := Lib.hid hw2; have HR2 := Lib.hid hR2; have HBND := Lib.hid hbnd; have HB := Lib.hid hb; have HBS := Lib.hid hB
          clear hc hch hch2 hv hx hy hn hb ha hz hd hYs hcutY hN59 hlenY hNs hen hf hTr hw1 hw2 hR2 hbnd hXl hx4 hB hLs hN1
          have tok1 : True := trivial
          have tok2 : True := trivial
          go_wp2_with (first
            | (go_at_call 106; clear tok1; refine (HC.out _).mono ?_; rintro e w2 ⟨T1, T2, rfl, hT1, hT2, hd2⟩)
            | (go_at_call 107; refine (HCH.out T1 hT1 _ (HTR.out.dr hd2)).mono ?_; rintro e w3 ⟨⟨C, rfl, hC⟩, hf3⟩; have hs3 := (hd2.fr (S := No)).size; have hs3b := hf3.size)
            | (go_at_call 68; clear tok2; refine (HW1.out _ ((HB.out.dr hd2).no hf3) (by have := HBS.out; omega)).mono ?_; rintro e w4 ⟨rfl, hb4, hf4⟩; have hs4 := hf4.size)
            | (go_at_call 68; refine (HW2.out C hC _ hb4 (by have := HBS.out; omega)).mono ?_; rintro e w5 ⟨rfl, hb5, hf5⟩; have hs5 := hf5.size)
            | (go_at_call 106; refine (HCUT.out T2 _ (HR2.out T2 hT2)).mono ?_; rintro e w6 ⟨X6, Y6, m6, rfl, hx6, hy6, hn6, hsz6, hd6⟩))
          have hF5 : Below w.heap.size w w5 := ((HF.out.trans ((hd2.fr.trans hf3).toBelow.mono HF.out.size)).trans hf4).trans hf5
          have hF6 : Below w.heap.size w w6 := hF5.trans (hd6.fr.toBelow.mono hF5.size)
          have hb6 := hb5.dr hd6
          rw [show C.data.toList = x from hC] at hb6
          obtain ⟨b1, b2, b3⟩ := HBND.out X6 Y6 T2 hT2 hsz6
          go_roundw
          case rel =>
            refine ⟨X6, Y6, m6, acc ++ X.data.toList ++ x, rfl, rfl, rfl, hb6, hF6, hx6, fun e => ?_, fun e => ?_, b1, b2⟩
            · rw [HV.out, ← hy6 e, hT2]
              congr 1
              funext z
              simp
            · rw [HV.out, ← hn6 e, hT2]
              congr 1
              funext z
              simp
          case measure => exact b3
end Go.Proofs.YthkjmbkfcnehoaaGreatDoor
