/- The texts Cursor, RefNum, CurNum, RefPut, Put, HelpInt, CurPut, RdCut, joined. -/
import Derived.Test.YthlgnmgjfgbffaaGreatDoorL02
import Derived.Test.YthlgnmgjfgbffaaGreatDoorL01
/- What package cursor does: contracts of its calls, for every cursor that New made (or none), every number of bytes, every list of bytes within a slice's length. -/
namespace Go.Proofs.YthlgnmgjfgbffaaGreatDoor
open Go.RowKit
set_option maxHeartbeats 400000
set_option linter.unusedVariables false
set_option maxRecDepth 20000

/-- a cursor at g: b is what it reads, k bytes were read; all that it has lies below block B -/
def Cur (w : World) (B g : Nat) (b : List UInt8) (k : Nat) : Prop :=
  ∃ A c, Bk w g 109 [.slice A b.length c, .int .i64 (k : Int)] ∧ Rd w A b.length c (u8s b) ∧ k ≤ b.length ∧ g < B ∧ B ≤ w.heap.size ∧ ∀ ad, A = some ad → ad.block ≠ g ∧ ad.block < B

section
variable {w w' : World} {B g : Nat} {b : List UInt8} {k : Nat}
theorem Cur.fr {S : Nat → Prop} (h : Cur w B g b k) (hf : Fr S w w') (hS : ∀ i, i < B → ¬ S i) : Cur w' B g b k := by
  obtain ⟨A, c, h1, h2, h3, h5, h6, h4⟩ := h
  exact ⟨A, c, h1.fr hf (hS g h5), h2.fr hf (fun ad e => hS _ (h4 ad e).2), h3, h5, Nat.le_trans h6 hf.size, h4⟩
theorem Cur.no (h : Cur w B g b k) (hf : Fr No w w') : Cur w' B g b k := h.fr hf (fun _ _ x => x)
theorem Cur.just {g' : Nat} (h : Cur w B g b k) (hf : Fr (Just g') w w') (hB : B ≤ g') : Cur w' B g b k := h.fr hf (fun i hi e => by have : i = g' := e; omega)
theorem Cur.dr (h : Cur w B g b k) (hf : Dr w w') : Cur w' B g b k := h.no hf.fr
theorem Cur.lt (h : Cur w B g b k) : g < w.heap.size := by
  obtain ⟨A, c, h1, _⟩ := h
  exact h1.lt
theorem Cur.bound (h : Cur w B g b k) : g < B ∧ B ≤ w.heap.size := by
  obtain ⟨A, c, _, _, _, h5, h6, _⟩ := h
  exact ⟨h5, h6⟩
theorem Cur.le (h : Cur w B g b k) : k ≤ b.length ∧ b.length ≤ 9223372036854775807 := by
  obtain ⟨A, c, _, h2, h3, _⟩ := h
  have := h2.max
  have := h2.cap
  simp only [maxLen] at *
  exact ⟨h3, by omega⟩
end

theorem new_any (A : Option Addr) (n c : Nat) (l : List UInt8) (w : World) (ha : Rd w A n c (u8s l)) (hn : n ≤ 140737488355328) :
    Calls Tryz.prog 41 #[.slice A n c] w fun e w' => ∃ g, e = .returned (.pointer (some ⟨g, 0, none⟩)) ∧ w.heap.size ≤ g ∧ Cur w' w'.heap.size g l 0 ∧ Fr No w w' := by
  have hl : l.length = n := by simpa using ha.len
  go_enter Tryz.func41, Tryz.ntmps41
  go_wp2_with (go_at_call 76; refine (clone_any _ _ _ _ _ ha hn).mono ?_; rintro e w1 ⟨v, rfl, ho, hf⟩; obtain ⟨V, d, rfl, hr, hb⟩ := Rd.of_own ho)
  go_ret
  subst hl
  exact ⟨w1.heap.size, rfl, hf.size, ⟨V, d, Bk.new w1 _ _, hr.no ((Fr.refl No w1).alloc _), by omega, by simp, Nat.le_refl _, fun ad e => ⟨by have := (hb ad e).2; omega, by have := (hb ad e).2; simp; omega⟩⟩, hf.alloc _⟩

theorem left_any {B : Nat} (g : Nat) (b : List UInt8) (k : Nat) (w : World) (h : Cur w B g b k) :
    Calls Tryz.prog 83 #[.pointer (some ⟨g, 0, none⟩)] w fun e w' => e = .returned (.int .i64 ((b.length : Int) - (k : Int))) ∧ Dr w w' := by
  obtain ⟨h5, h6⟩ := h.le
  obtain ⟨A, c, h1, h2, h3, hgB, hBw, h4⟩ := h
  have c0 := h1.cell 0
  have c1 := h1.cell 1
  simp only [List.getElem?_cons_zero, List.getElem?_cons_succ] at c0 c1
  go_enter Tryz.func83, Tryz.ntmps83
  go_wp2
  go_quiet (fail)
  go_wp2
  go_ret
  exact ⟨rfl, (Dr.refl _).drewN _⟩

theorem left_nil (w : World) : Calls Tryz.prog 83 #[.pointer none] w fun e w' => e = .returned (.int .i64 0) ∧ Dr w w' := by
  go_enter Tryz.func83, Tryz.ntmps83
  go_wp2
  go_ret
  exact ⟨rfl, Dr.refl _⟩

theorem at_any {B : Nat} (g : Nat) (b : List UInt8) (k : Nat) (w : World) (h : Cur w B g b k) :
    Calls Tryz.prog 129 #[.pointer (some ⟨g, 0, none⟩)] w fun e w' => e = .returned (.int .i64 (k : Int)) ∧ Dr w w' := by
  obtain ⟨A, c, h1, h2, h3, hgB, hBw, h4⟩ := h
  have c1 := h1.cell 1
  simp only [List.getElem?_cons_zero, List.getElem?_cons_succ] at c1
  go_enter Tryz.func129, Tryz.ntmps129
  go_wp2
  go_ret
  exact ⟨rfl, Dr.refl _⟩

theorem at_nil (w : World) : Calls Tryz.prog 129 #[.pointer none] w fun e w' => e = .returned (.int .i64 0) ∧ Dr w w' := by
  go_enter Tryz.func129, Tryz.ntmps129
  go_wp2
  go_ret
  exact ⟨rfl, Dr.refl _⟩

/-! ### next, narrow -/
theorem next_nil (n : Int) (w : World) : Calls Tryz.prog 123 #[.pointer none, .int .i64 n] w fun e w' => e = .returned (.tuple #[.slice none 0 0, .int .i64 2]) ∧ Dr w w' := by
  go_enter Tryz.func123, Tryz.ntmps123
  go_wp2
  go_ret2
  exact ⟨rfl, Dr.refl _⟩

theorem next_neg (g : Nat) (n : Int) (w : World) (hn : n < 0) : Calls Tryz.prog 123 #[.pointer (some ⟨g, 0, none⟩), .int .i64 n] w fun e w' => e = .returned (.tuple #[.slice none 0 0, .int .i64 1]) ∧ Dr w w' := by
  go_enter Tryz.func123, Tryz.ntmps123
  go_wp2
  go_ret2
  exact ⟨rfl, Dr.refl _⟩

theorem next_short {B : Nat} (g : Nat) (n : Int) (b : List UInt8) (k : Nat) (w : World) (h : Cur w B g b k) (hn : 0 ≤ n) (hs : (b.length : Int) - (k : Int) < n) :
    Calls Tryz.prog 123 #[.pointer (some ⟨g, 0, none⟩), .int .i64 n] w fun e w' => e = .returned (.tuple #[.slice none 0 0, .int .i64 3]) ∧ Dr w w' := by
  go_enter Tryz.func123, Tryz.ntmps123
  go_wp2_with (go_at_call 83; refine (left_any g b k _ h).mono ?_; rintro e w1 ⟨rfl, hd⟩)
  go_ret2
  exact ⟨rfl, hd⟩

theorem next_ok {B : Nat} (g : Nat) (m : Nat) (b : List UInt8) (k : Nat) (w : World) (h : Cur w B g b k) (hs : k + m ≤ b.length) :
    Calls Tryz.prog 123 #[.pointer (some ⟨g, 0, none⟩), .int .i64 (m : Int)] w fun e w' => ∃ V d, e = .returned (.tuple #[.slice V m d, .int .i64 0]) ∧
      Rd w' V m d (u8s ((b.drop k).take m)) ∧ Cur w' B g b (k + m) ∧ Fr (Just g) w w' := by
  obtain ⟨h5, h6⟩ := h.le
  have hcur := h
  obtain ⟨A, c, h1, h2, h3, hgB, hBw, h4⟩ := h
  have hlc := h2.cap
  have hcm : c ≤ 9223372036854775807 := by have := h2.max; simpa [maxLen] using this
  go_enter Tryz.func123, Tryz.ntmps123
  go_wp2_with (go_at_call 83; refine (left_any g b k _ hcur).mono ?_; rintro e w1 ⟨rfl, hd⟩)
  have h1' := h1.no hd.fr
  have c0 := h1'.cell 0
  have c1 := h1'.cell 1
  have f1 := h1'.frozen 1
  simp only [List.getElem?_cons_zero, List.getElem?_cons_succ] at c0 c1
  go_quiet (fail)
  go_wp2
  all_goals
    have hcut := (h2.no hd.fr).cut (k := k) (m := k + m) (by omega) (by omega)
    rw [u8s_cut] at hcut
    first | (have hck : c = k := by assumption
             rw [if_pos hck] at hcut) | (have hck : ¬ c = k := by assumption
                                         rw [if_neg hck] at hcut)
    have hF : Fr (Just g) w ((w1.drewN nq).setCell ⟨g, 1, none⟩ (.int .i64 ((k : Int) + (m : Int)))) := (hd.fr.drewN nq).setCell (p := ⟨g, 1, none⟩) (.inl (Just.at g)) _
    have hF1 : Fr (Just g) w1 ((w1.drewN nq).setCell ⟨g, 1, none⟩ (.int .i64 ((k : Int) + (m : Int)))) := ((Fr.refl _ w1).drewN nq).setCell (p := ⟨g, 1, none⟩) (.inl (Just.at g)) _
    have hb2 := (h1'.no ((Dr.refl w1).drewN nq).fr).set_ 1 (.int .i64 ((k : Int) + (m : Int)))
    go_ret2
    refine ⟨_, _, rfl, ?_, ⟨A, c, hb2, h2.fr hF (fun ad e => (h4 ad e).1), by omega, hgB, Nat.le_trans hBw hF.size, h4⟩, hF⟩
    refine Rd.fr (S := Just g) (w := w1) ?_ hF1 ?_
    · first | simpa using hcut | (have e : k + m - k = m := by omega
                                  rw [e] at hcut
                                  first | exact hcut | (have e2 : c - k = 0 := by omega
                                                        rw [e2] at hcut
                                                        exact hcut))
    · intro ad e
      first | exact (h4 ad e).1 | (obtain ⟨ad', rfl, rfl⟩ := Option.map_eq_some_iff.1 e; rw [blk_add]; exact (h4 ad' rfl).1)

/-! ### narrow: the width ahead of next -/
theorem narrow_nil (n : Int) (w : World) : Calls Tryz.prog 184 #[.pointer none, .int .i64 n] w fun e w' => e = .returned (.tuple #[.slice none 0 0, .int .i64 2]) ∧ Dr w w' := by
  go_enter Tryz.func184, Tryz.ntmps184
  go_wp2_with (go_at_call 123; refine (next_nil _ _).mono ?_; rintro e w1 ⟨rfl, hd⟩)
  go_ret2
  exact ⟨rfl, hd⟩

theorem narrow_arg (g : Nat) (n : Int) (w : World) (hn : n < 1 ∨ 8 < n) : Calls Tryz.prog 184 #[.pointer (some ⟨g, 0, none⟩), .int .i64 n] w fun e w' => e = .returned (.tuple #[.slice none 0 0, .int .i64 1]) ∧ Dr w w' := by
  rcases hn with hn | hn
  all_goals
    go_enter Tryz.func184, Tryz.ntmps184
    go_wp2
    go_ret2
    exact ⟨rfl, Dr.refl _⟩

theorem narrow_short {B : Nat} (g : Nat) (n : Int) (b : List UInt8) (k : Nat) (w : World) (h : Cur w B g b k) (hn : 1 ≤ n) (hn8 : n ≤ 8) (hs : (b.length : Int) - (k : Int) < n) :
    Calls Tryz.prog 184 #[.pointer (some ⟨g, 0, none⟩), .int .i64 n] w fun e w' => e = .returned (.tuple #[.slice none 0 0, .int .i64 3]) ∧ Dr w w' := by
  go_enter Tryz.func184, Tryz.ntmps184
  go_wp2_with (go_at_call 123; refine (next_short _ _ _ _ _ h (by omega) hs).mono ?_; rintro e w1 ⟨rfl, hd⟩)
  go_ret2
  exact ⟨rfl, hd⟩

theorem narrow_ok {B : Nat} (g : Nat) (m : Nat) (b : List UInt8) (k : Nat) (w : World) (h : Cur w B g b k) (h1 : 1 ≤ m) (h8 : m ≤ 8) (hs : k + m ≤ b.length) :
    Calls Tryz.prog 184 #[.pointer (some ⟨g, 0, none⟩), .int .i64 (m : Int)] w fun e w' => ∃ V d, e = .returned (.tuple #[.slice V m d, .int .i64 0]) ∧
      Rd w' V m d (u8s ((b.drop k).take m)) ∧ Cur w' B g b (k + m) ∧ Fr (Just g) w w' := by
  go_enter Tryz.func184, Tryz.ntmps184
  go_wp2_with (go_at_call 123; refine (next_ok _ _ _ _ _ h hs).mono ?_; rintro e w1 ⟨V, d, rfl, hr, hc, hf⟩)
  go_ret2
  exact ⟨V, d, rfl, hr, hc, hf⟩

/-! ### Take -/
theorem take_nil (n : Int) (w : World) : Calls Tryz.prog 130 #[.pointer none, .int .i64 n] w fun e w' => e = .returned (.tuple #[.slice none 0 0, .int .i64 2]) ∧ Dr w w' := by
  go_enter Tryz.func130, Tryz.ntmps130
  go_wp2_with (first | (go_at_call 123; refine (next_nil _ _).mono ?_; rintro e w1 ⟨rfl, hd⟩) | go_in)
  go_ret2
  exact ⟨rfl, hd⟩

theorem take_neg (g : Nat) (n : Int) (w : World) (hn : n < 0) : Calls Tryz.prog 130 #[.pointer (some ⟨g, 0, none⟩), .int .i64 n] w fun e w' => e = .returned (.tuple #[.slice none 0 0, .int .i64 1]) ∧ Dr w w' := by
  go_enter Tryz.func130, Tryz.ntmps130
  go_wp2_with (first | (go_at_call 123; refine (next_neg _ _ _ hn).mono ?_; rintro e w1 ⟨rfl, hd⟩) | go_in)
  go_ret2
  exact ⟨rfl, hd⟩

theorem take_short {B : Nat} (g : Nat) (n : Int) (b : List UInt8) (k : Nat) (w : World) (h : Cur w B g b k) (hn : 0 ≤ n) (hs : (b.length : Int) - (k : Int) < n) :
    Calls Tryz.prog 130 #[.pointer (some ⟨g, 0, none⟩), .int .i64 n] w fun e w' => e = .returned (.tuple #[.slice none 0 0, .int .i64 3]) ∧ Dr w w' := by
  go_enter Tryz.func130, Tryz.ntmps130
  go_wp2_with (first | (go_at_call 123; refine (next_short _ _ _ _ _ h hn hs).mono ?_; rintro e w1 ⟨rfl, hd⟩) | go_in)
  go_ret2
  exact ⟨rfl, hd⟩

theorem text_nil (n : Int) (w : World) : Calls Tryz.prog 77 #[.pointer none, .int .i64 n] w fun e w' => e = .returned (.tuple #[.string .empty, .int .i64 2]) ∧ Dr w w' := by
  go_enter Tryz.func77, Tryz.ntmps77
  go_wp2_with (first | (go_at_call 123; refine (next_nil _ _).mono ?_; rintro e w1 ⟨rfl, hd⟩) | go_in)
  go_ret2
  exact ⟨rfl, hd⟩

theorem text_neg (g : Nat) (n : Int) (w : World) (hn : n < 0) : Calls Tryz.prog 77 #[.pointer (some ⟨g, 0, none⟩), .int .i64 n] w fun e w' => e = .returned (.tuple #[.string .empty, .int .i64 1]) ∧ Dr w w' := by
  go_enter Tryz.func77, Tryz.ntmps77
  go_wp2_with (first | (go_at_call 123; refine (next_neg _ _ _ hn).mono ?_; rintro e w1 ⟨rfl, hd⟩) | go_in)
  go_ret2
  exact ⟨rfl, hd⟩

theorem text_short {B : Nat} (g : Nat) (n : Int) (b : List UInt8) (k : Nat) (w : World) (h : Cur w B g b k) (hn : 0 ≤ n) (hs : (b.length : Int) - (k : Int) < n) :
    Calls Tryz.prog 77 #[.pointer (some ⟨g, 0, none⟩), .int .i64 n] w fun e w' => e = .returned (.tuple #[.string .empty, .int .i64 3]) ∧ Dr w w' := by
  go_enter Tryz.func77, Tryz.ntmps77
  go_wp2_with (first | (go_at_call 123; refine (next_short _ _ _ _ _ h hn hs).mono ?_; rintro e w1 ⟨rfl, hd⟩) | go_in)
  go_ret2
  exact ⟨rfl, hd⟩

theorem number_nil (n : Int) (w : World) : Calls Tryz.prog 146 #[.pointer none, .int .i64 n] w fun e w' => e = .returned (.tuple #[.int .u64 0, .int .i64 2]) ∧ Dr w w' := by
  go_enter Tryz.func146, Tryz.ntmps146
  go_wp2_with (first | (go_at_call 184; refine (narrow_nil _ _).mono ?_; rintro e w1 ⟨rfl, hd⟩) | go_in)
  go_ret2
  exact ⟨rfl, hd⟩

theorem number_arg (g : Nat) (n : Int) (w : World) (hn : n < 1 ∨ 8 < n) : Calls Tryz.prog 146 #[.pointer (some ⟨g, 0, none⟩), .int .i64 n] w fun e w' => e = .returned (.tuple #[.int .u64 0, .int .i64 1]) ∧ Dr w w' := by
  go_enter Tryz.func146, Tryz.ntmps146
  go_wp2_with (first | (go_at_call 184; refine (narrow_arg _ _ _ hn).mono ?_; rintro e w1 ⟨rfl, hd⟩) | go_in)
  go_ret2
  exact ⟨rfl, hd⟩

theorem number_short {B : Nat} (g : Nat) (n : Int) (b : List UInt8) (k : Nat) (w : World) (h : Cur w B g b k) (hn : 1 ≤ n) (hn8 : n ≤ 8) (hs : (b.length : Int) - (k : Int) < n) :
    Calls Tryz.prog 146 #[.pointer (some ⟨g, 0, none⟩), .int .i64 n] w fun e w' => e = .returned (.tuple #[.int .u64 0, .int .i64 3]) ∧ Dr w w' := by
  go_enter Tryz.func146, Tryz.ntmps146
  go_wp2_with (first | (go_at_call 184; refine (narrow_short _ _ _ _ _ h hn hn8 hs).mono ?_; rintro e w1 ⟨rfl, hd⟩) | go_in)
  go_ret2
  exact ⟨rfl, hd⟩

theorem take_ok {B : Nat} (g : Nat) (m : Nat) (b : List UInt8) (k : Nat) (w : World) (h : Cur w B g b k) (hs : k + m ≤ b.length) (hb : b.length ≤ 140737488355328) :
    Calls Tryz.prog 130 #[.pointer (some ⟨g, 0, none⟩), .int .i64 (m : Int)] w fun e w' => ∃ v, e = .returned (.tuple #[v, .int .i64 0]) ∧
      w'.ownsRow w.heap.size 5 1 v m (u8s ((b.drop k).take m)) ∧ Cur w' B g b (k + m) ∧ Fr (Just g) w w' := by
  go_enter Tryz.func130, Tryz.ntmps130
  go_wp2_with (first | (go_at_call 123; refine (next_ok _ _ _ _ _ h hs).mono ?_; rintro e w1 ⟨V, d, rfl, hr, hc, hf⟩) | (go_at_call 76; refine (clone_any _ _ _ _ _ hr (by omega)).mono ?_; rintro e w2 ⟨v, rfl, ho, hf2⟩) | go_in)
  go_ret2
  have hsz := hf.size
  refine ⟨v, rfl, ?_, hc.no hf2, hf.trans hf2.no⟩
  obtain ⟨h1, h2⟩ := ho
  refine ⟨h1, ?_⟩
  rcases h2 with h2 | ⟨g', cap, cur, e, hg, r⟩
  · exact .inl h2
  · exact .inr ⟨g', cap, cur, e, by omega, r⟩

theorem cur_text_any (A : Option Addr) (n c : Nat) (l : List UInt8) (w : World) (ha : Rd w A n c (u8s l)) :
    Calls Tryz.prog 124 #[.slice A n c] w fun e w' => e = .returned (.string (bstr l)) ∧ w = w' := by
  have h1 := run_string (P := Tryz.prog) ha 22 5 Tryz.underlying22 Tryz.underlying5 9 Tryz.underlying9
  go_enter Tryz.func124, Tryz.ntmps124
  go_wp2
  go_ret
  exact ⟨rfl, rfl⟩

theorem text_ok {B : Nat} (g : Nat) (m : Nat) (b : List UInt8) (k : Nat) (w : World) (h : Cur w B g b k) (hs : k + m ≤ b.length) :
    Calls Tryz.prog 77 #[.pointer (some ⟨g, 0, none⟩), .int .i64 (m : Int)] w fun e w' => e = .returned (.tuple #[.string (bstr ((b.drop k).take m)), .int .i64 0]) ∧
      Cur w' B g b (k + m) ∧ Fr (Just g) w w' := by
  go_enter Tryz.func77, Tryz.ntmps77
  go_wp2_with (first | (go_at_call 123; refine (next_ok _ _ _ _ _ h hs).mono ?_; rintro e w1 ⟨V, d, rfl, hr, hc, hf⟩) | (go_at_call 124; refine (cur_text_any _ _ _ _ _ hr).mono ?_; rintro e w2 ⟨rfl, rfl⟩) | go_in)
  go_ret2
  exact ⟨rfl, hc, hf⟩

end Go.Proofs.YthlgnmgjfgbffaaGreatDoor
/- The statements' own reading of a number out of bytes: what it answers. -/
namespace Go.Proofs.YthlgnmgjfgbffaaGreatDoor
open Go.RowKit
set_option maxHeartbeats 400000
set_option linter.unusedVariables false
set_option maxRecDepth 20000

end Go.Proofs.YthlgnmgjfgbffaaGreatDoor
/- Bytes as a number: what package cursor and the statements' own answers make of them. -/
namespace Go.Proofs.YthlgnmgjfgbffaaGreatDoor
open Go.RowKit
set_option maxHeartbeats 400000
set_option linter.unusedVariables false
set_option maxRecDepth 20000

theorem cur_number_any (A : Option Addr) (n c : Nat) (l : List UInt8) (w : World) (ha : Rd w A n c (u8s l)) (hn : n ≤ 8) :
    Calls Tryz.prog 185 #[.slice A n c] w fun e w' => e = .returned (.int .u64 (beN l : Int)) ∧ Dr w w' := by
  have hl : l.length = n := by simpa using ha.len
  go_enter Tryz.func185, Tryz.ntmps185
  go_wp2
  go_loopw [3, 8] (fun v i wr => ∃ k : Nat, k ≤ n ∧ i = .int .i64 (k : Int) ∧ v = .int .u64 (beN (l.take k) : Int) ∧ Dr w wr) (fun _ i _ => n - (intOf i).toNat)
  case atStart => exact ⟨0, by omega, rfl, rfl, Dr.refl _⟩
  case round =>
    obtain ⟨k, hk, rfl, rfl, hdr⟩ := hrel
    rcases Nat.lt_or_ge k n with hlt | hge
    · obtain ⟨ad, u, rfl, hu, hc⟩ := (ha.dr hdr).at_ hlt
      rw [u8s_get l k (by omega)] at hu
      injection hu with hu
      subst hu
      have hx : l[k].toNat < 256 := l[k].toNat_lt
      have HS := Lib.hid (beN_step l k (by omega))
      have HO := Lib.hid (or_step (beN (l.take k)) l[k].toNat (beN_take_lt l k (by omega)) l[k].toNat_lt)
      go_wp2
      go_roundw
      case rel => exact ⟨k + 1, by omega, by go_num, by rw [HS.out, ← HO.out], hdr⟩
      case measure => simp [intOf]; omega
    · obtain rfl : k = n := by omega
      go_wp2
      go_ret
      exact ⟨by rw [← hl, List.take_length]; rfl, hdr⟩

theorem number_ok {B : Nat} (g : Nat) (m : Nat) (b : List UInt8) (k : Nat) (w : World) (h : Cur w B g b k) (h1 : 1 ≤ m) (h8 : m ≤ 8) (hs : k + m ≤ b.length) :
    Calls Tryz.prog 146 #[.pointer (some ⟨g, 0, none⟩), .int .i64 (m : Int)] w fun e w' => e = .returned (.tuple #[.int .u64 (beN ((b.drop k).take m) : Int), .int .i64 0]) ∧
      Cur w' B g b (k + m) ∧ Fr (Just g) w w' := by
  go_enter Tryz.func146, Tryz.ntmps146
  go_wp2_with (first | (go_at_call 184; refine (narrow_ok _ _ _ _ _ h h1 h8 hs).mono ?_; rintro e w1 ⟨V, d, rfl, hr, hc, hf⟩) | (go_at_call 185; refine (cur_number_any _ _ _ _ _ hr (by omega)).mono ?_; rintro e w2 ⟨rfl, hd⟩) | go_in)
  go_ret2
  exact ⟨rfl, hc.dr hd, hf.dr hd⟩
end Go.Proofs.YthlgnmgjfgbffaaGreatDoor
/- The statements' own laying of a number behind bytes: what it answers. -/
namespace Go.Proofs.YthlgnmgjfgbffaaGreatDoor
open Go.RowKit
set_option maxHeartbeats 400000
set_option linter.unusedVariables false
set_option maxRecDepth 20000

end Go.Proofs.YthlgnmgjfgbffaaGreatDoor
/- A number put behind bytes: what package cursor makes of it. -/
namespace Go.Proofs.YthlgnmgjfgbffaaGreatDoor
open Go.RowKit
set_option maxHeartbeats 400000
set_option linter.unusedVariables false
set_option maxRecDepth 20000

set_option maxHeartbeats 1600000 in
theorem put_any (A : Option Addr) (n c : Nat) (l : List UInt8) (v : Nat) (z : Int) (w : World) (ha : Rd w A n c (u8s l)) (hn : n ≤ 65536) (hv : v < 18446744073709551616) :
    Calls Tryz.prog 206 #[.slice A n c, .int .u64 (v : Int), .int .i64 z] w fun e w' => ∃ r, e = .returned r ∧ w'.ownsRow w.heap.size 5 1 r (n + held8 z) (u8s (l ++ low v (held8 z))) ∧ Fr No w w' := by
  have hl : l.length = n := by simpa using ha.len
  have hc := held8_cases z
  generalize held8 z = m at *
  have hm8 : m ≤ 8 := by omega
  rcases hc with ⟨h, h'⟩ | ⟨h, h', rfl⟩ | ⟨h, h', h3⟩
  all_goals
    go_enter Tryz.func206, Tryz.ntmps206
    go_wp2_with (first | (at_make; go_must (refine mk8 w rfl (.tmp 13) (.tmp 17) rfl .i64 .i64 _ _ n (n + m) rfl rfl rfl (by omega) (by omega) (by omega) ?_); intro w1 hb1 hf1 hs1) | ((with_reducible refine cp8 w1 rfl (.tmp 19) (.tmp 20) rfl w.heap.size n (n + m) (List.replicate (n + m) 0) rfl hb1 A c l rfl (ha.no hf1) (by simp) ?_); intro w2 hb2 hf2 hs2))
  all_goals
    have hf3 : Fr No w w2 := hf1.trans_new hf2 (fun i hi => .inr (by rw [show i = w.heap.size from hi]; exact Nat.le_refl _))
    have ho3 : w2.ownsRow w.heap.size 5 1 (.slice (some ⟨w.heap.size, 0, none⟩) n (n + m)) n (u8s l) := by
      have := hb2.own (base := w.heap.size) (n := n) (cap := n + m) (Nat.le_refl _) (by omega) (by simp only [maxLen]; omega) (by simp; omega)
      rwa [u8s_append, List.take_left' (by simpa using hl)] at this
    clear hb1 hf1 hs1 hb2 hf2 hs2
    go_loopw [7, 23] (fun r i wr => ∃ k : Nat, k ≤ m ∧ i = .int .i64 (k : Int) ∧ wr.ownsRow w.heap.size 5 1 r (n + k) (u8s (l ++ (low v m).take k)) ∧ Fr No w wr) (fun _ i _ => 8 - (intOf i).toNat)
    case atStart => exact ⟨0, by omega, rfl, by simpa using ho3, hf3⟩
    case round =>
      obtain ⟨k, hk, rfl, ho, hf⟩ := hrel
      rcases Nat.lt_or_ge k m with hlt | hge
      · first
        | (exfalso; omega)
        | (go_wp2_with (at_builtin; go_must (refine ap8_one wr rfl (.tmp 26) (.tmp 35) rfl w.heap.size u7 (n + k) _ rfl ho _ (lowB v m k) (by first | exact lowB_int v m k | (rw [show m = 8 from by omega]; exact lowB_int8 v k)) _ rfl (by omega) hf.size ?_); intro r2 w2 ho2 hg2 hr2)
           go_roundw
           case rel => exact ⟨k + 1, by omega, by go_num, by rw [low_snoc v _ k l hlt] at ho2; exact ho2, (hf.alloc _).grown hg2 (fun g e => .inr (ho.lt g e).1)⟩
           case measure => simp [intOf]; omega)
      · obtain rfl : k = _ := Nat.le_antisymm hk hge
        go_wp2
        go_ret
        exact ⟨u7, rfl, by rw [List.take_of_length_le (by simp)] at ho; exact ho, hf⟩
end Go.Proofs.YthlgnmgjfgbffaaGreatDoor
/- What the helpers of the statements do with numbers (a copy with room behind it, and whether it is as it was; two lists held against each other; one among some): contracts, for every list of numbers within a slice's length. -/
namespace Go.Proofs.YthlgnmgjfgbffaaGreatDoor
open Go.RowKit
set_option maxHeartbeats 400000
set_option linter.unusedVariables false
set_option maxRecDepth 20000

/-- numbers as cells -/
def ints (l : List Int) : List Value := l.map (Value.int .i64)
@[simp] theorem ints_length (l : List Int) : (ints l).length = l.length := by simp [ints]
theorem ints_get (l : List Int) (k : Nat) (h : k < l.length) : (ints l)[k]? = some (.int .i64 l[k]) := by simp [ints, h]
theorem ints_append (l m : List Int) : ints (l ++ m) = ints l ++ ints m := by simp [ints]
theorem ints_one (l : List Int) : ∀ u ∈ ints l, u.oneCell' = true := by
  intro u hu
  simp only [ints, List.mem_map] at hu
  obtain ⟨b, _, rfl⟩ := hu
  rfl
theorem info_int : (Tryz.prog.info? 3).map (fun i => (i.zero, i.size, i.bytes)) = some (some (.int .i64 0), 1, 8) := by kernel_rfl

theorem ownI_step (l : List Int) (f : Int) (k : Nat) (hk : k < 3) :
    (ints (l ++ List.replicate k f ++ List.replicate (3 - k) 0)).set (l.length + k) (.int .i64 f) = ints (l ++ List.replicate (k + 1) f ++ List.replicate (3 - (k + 1)) 0) := by
  obtain rfl | rfl | rfl : k = 0 ∨ k = 1 ∨ k = 2 := by omega
  all_goals simp [ints, List.replicate]

theorem ownI_get (l : List Int) (f : Int) (k : Nat) (hk : k < 3) :
    ∃ u, (ints (l ++ List.replicate k f ++ List.replicate (3 - k) 0))[l.length + k]? = some u := by
  rw [List.getElem?_eq_getElem (by simp; omega)]
  exact ⟨_, rfl⟩

/-- what Own made reads as what it was made of -/
theorem ownI_rd0 {w : World} {g n : Nat} {l : List Int} {f : Int} {t : TypeId} (hb : Bk w g t (ints (l ++ [f, f, f]))) (hl : (ints l).length = n) (hn : n ≤ 65536) : Rd w (some ⟨g, 0, none⟩) n (n + 3) (ints l) := by
  rw [ints_length] at hl
  have := hb.rd (n := n) (cap := n + 3) (by omega) (by simp only [maxLen]; omega) (by simp; omega)
  have e : (ints (l ++ [f, f, f])).take n = ints l := by
    rw [ints_append, List.take_left' (by simpa using hl)]
  rwa [e] at this
theorem ownI_rd {w w' : World} {g n : Nat} {l : List Int} {f : Int} {t : TypeId} (hb : Bk w g t (ints (l ++ [f, f, f]))) (hf : Fr No w w') (hl : (ints l).length = n) (hn : n ≤ 65536) : Rd w' (some ⟨g, 0, none⟩) n (n + 3) (ints l) :=
  ownI_rd0 (hb.no hf) hl hn

/-- append of numbers onto a row of the call's own -/
theorem apI (w : World) {ops : Array Oper} {rest : List Oper} {o : Oper} {a : Act} {Q : Exit → Act → World → Prop} (hgd : Region.wanted o (yielded ops a.tmps) = true) (s x : Operand)
    (ho : o.op = .call { callee := .builtin .append, args := #[s, x], argTypes := #[50, 50] })
    (base : Nat) (v : Value) (n : Nat) (l : List Int) (hs : a.eval s = v) (hown : w.ownsRow base 3 1 v n (ints l))
    (A : Option Addr) (m c : Nat) (k : List Int) (hx : a.eval x = .slice A m c) (hr : Rd w A m c (ints k)) (hb : n + m ≤ 17592186044416) (hbase : base ≤ w.heap.size)
    (h : ∀ v' w', w'.ownsRow base 3 1 v' (n + m) (ints (l ++ k)) → w.grownBy w' v.ownBlock → (v'.ownBlock = v.ownBlock ∨ v'.ownBlock = some w.heap.size) → wpList Tryz.prog ops Q rest (a.put o.dst v') w') :
    wpList Tryz.prog ops Q (o :: rest) a w := by
  obtain ⟨i, hi, hz, h1, h2⟩ := info_parts info_int
  refine wpList_append_rd w hgd s x 50 ho base 3 i (.int .i64 0) 8 Tryz.underlying50 hi hz h1 h2 rfl v n (ints l) hs hown A m c (ints k) hx hr (ints_one k) (by simp only [maxLen]; omega) (by omega) hbase ?_
  intro v' w' g1 g2 g3
  exact h v' w' (by rw [ints_append]; exact g1) g2 g3
/-- the same as one step of a region that draws its order ('go_region_law') -/
theorem stepI {ops : Array Oper} {o : Oper} {a : Act} {w : World} {K : Act → World → Prop} {Q : Exit → Act → World → Prop} {E : Prop} (hgd : Region.wanted o (yielded ops a.tmps) = true) (s x : Operand)
    (ho : o.op = .call { callee := .builtin .append, args := #[s, x], argTypes := #[50, 50] })
    (base : Nat) (v : Value) (n : Nat) (l : List Int) (hs : a.eval s = v) (hown : w.ownsRow base 3 1 v n (ints l))
    (A : Option Addr) (m c : Nat) (k : List Int) (hx : a.eval x = .slice A m c) (hr : Rd w A m c (ints k)) (hb : n + m ≤ 17592186044416) (hbase : base ≤ w.heap.size)
    (h : ∀ A' c' w', w'.ownsRow base 3 1 (.slice A' (n + m) c') (n + m) (ints (l ++ k)) → w.grownBy w' v.ownBlock → ((Value.slice A' (n + m) c').ownBlock = v.ownBlock ∨ (Value.slice A' (n + m) c').ownBlock = some w.heap.size) → K (a.put o.dst (.slice A' (n + m) c')) w') :
    if Region.wanted o (yielded ops a.tmps) = true then Oper.wp Tryz.prog o a w K Q else E := by
  rw [if_pos hgd]
  obtain ⟨i, hi, hz, h1, h2⟩ := info_parts info_int
  obtain ⟨v', w', hrun, g1, g2, g3⟩ := run_append_rd (P := Tryz.prog) w base 50 o.type 3 i (.int .i64 0) 8 Tryz.underlying50 hi hz h1 h2 rfl v n (ints l) hown A m c (ints k) hr (ints_one k) (by simp only [maxLen]; omega) (by omega) hbase
  unfold Oper.wp execOp
  simp only [ho, resolve, invoke, builtin, Sem.run_bind, Sem.run_pure, Result.andThen_ok, List.map_toArray, List.map_cons, List.map_nil, hs, hx, hrun]
  obtain ⟨A', c', rfl, -⟩ := Rd.of_own g1
  exact h A' c' w' (by rw [ints_append]; exact g1) g2 g3
/-- one number that was just laid in a block of its own -/
theorem Rd.oneI {w : World} (i : Int) (t : TypeId) : Rd (w.alloc (.cells #[.int .i64 i] t)) (some ⟨w.heap.size, 0, none⟩) 1 1 (ints [i]) :=
  (Bk.new w t #[.int .i64 i]).rd (n := 1) (cap := 1) (Nat.le_refl _) (by simp [maxLen]) (by simp)
theorem apI_one (w : World) {ops : Array Oper} {rest : List Oper} {o : Oper} {a : Act} {Q : Exit → Act → World → Prop} (hgd : Region.wanted o (yielded ops a.tmps) = true) (s x : Operand)
    (ho : o.op = .call { callee := .builtin .append, args := #[s, x], argTypes := #[50, 50] })
    (base : Nat) (v : Value) (n : Nat) (l : List Int) (hs : a.eval s = v) (hown : w.ownsRow base 3 1 v n (ints l)) (i : Int) (t : TypeId)
    (hx : a.eval x = .slice (some ⟨w.heap.size, 0, none⟩) 1 1) (hb : n + 1 ≤ 17592186044416) (hbase : base ≤ w.heap.size)
    (h : ∀ v' w', w'.ownsRow base 3 1 v' (n + 1) (ints (l ++ [i])) → (w.alloc (.cells #[.int .i64 i] t)).grownBy w' v.ownBlock → (v'.ownBlock = v.ownBlock ∨ v'.ownBlock = some (w.heap.size + 1)) → wpList Tryz.prog ops Q rest (a.put o.dst v') w') :
    wpList Tryz.prog ops Q (o :: rest) a (w.alloc (.cells #[.int .i64 i] t)) := by
  refine apI _ hgd s x ho base v n l hs (hown.alloc _) _ 1 1 [i] hx (Rd.oneI i t) hb (by simp; omega) ?_
  intro v' w' h1 h2 h3
  exact h v' w' h1 h2 (by simpa using h3)

/-- is it among these? -/
def hasI (l : List Int) (x : Int) : Bool := l.contains x
end Go.Proofs.YthlgnmgjfgbffaaGreatDoor
/- A number put behind bytes: what package cursor and the statements' own answers make of it. -/
/- Headers of bytes that are cut. No program. -/
namespace Go.Proofs.YthlgnmgjfgbffaaGreatDoor
open Go.RowKit
set_option linter.unusedVariables false

/-- the header of the rest behind so many elements -/
def cutA (A : Option Addr) (c k : Nat) : Option Addr := if c = k then A else A.map (·.add k)
theorem cutA_block {A : Option Addr} {c k : Nat} {ad : Addr} (h : cutA A c k = some ad) : ∃ ad', A = some ad' ∧ ad.block = ad'.block := by
  unfold cutA at h
  split at h
  · exact ⟨ad, h, rfl⟩
  · obtain ⟨ad', rfl, rfl⟩ := Option.map_eq_some_iff.1 h
    exact ⟨ad', rfl, blk_add _ _⟩
theorem rd_rest {w : World} {A : Option Addr} {n c k : Nat} {b : List UInt8} (h : Rd w A n c (u8s b)) (hk : k ≤ n) : Rd w (cutA A c k) (n - k) (c - k) (u8s (b.drop k)) := by
  have := h.cut (k := k) (m := n) hk (Nat.le_refl _)
  have hl : b.length = n := by simpa using h.len
  have e := u8s_cut b k (n - k)
  rw [show k + (n - k) = n by omega, List.take_of_length_le (l := List.drop k b) (by rw [List.length_drop]; omega)] at e
  rw [e] at this
  exact this
theorem rd_head {w : World} {A : Option Addr} {n c k : Nat} {b : List UInt8} (h : Rd w A n c (u8s b)) (hk : k ≤ n) : Rd w A k c (u8s (b.take k)) := by
  have h1 := h.len
  have h2 := h.cap
  refine ⟨by rw [u8s_length] at h1 ⊢; rw [List.length_take]; omega, by omega, h.max, h.nil, fun ad e j u hu => ?_⟩
  refine h.cells ad e j u ?_
  have e : u8s (b.take k) = (u8s b).take k := by simp [u8s, List.map_take]
  rw [e, List.getElem?_take] at hu
  split at hu
  · exact hu
  · cases hu
theorem rd_part {w : World} {A : Option Addr} {n c k m : Nat} {b : List UInt8} (h : Rd w A n c (u8s b)) (hk : k + m ≤ n) : Rd w (cutA A c k) m (c - k) (u8s ((b.drop k).take m)) :=
  rd_head (rd_rest h (by omega)) (by omega)
end Go.Proofs.YthlgnmgjfgbffaaGreatDoor
