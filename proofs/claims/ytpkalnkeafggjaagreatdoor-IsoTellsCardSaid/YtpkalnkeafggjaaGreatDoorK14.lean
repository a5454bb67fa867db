/- The texts Cursor, RefNum, joined. -/
import Derived.Test.YtpkalnkeafggjaaGreatDoorK13
import Derived.Test.YtpkalnkeafggjaaGreatDoorK10
/- What package cursor does: contracts of its calls, for every cursor that New made (or none), every number of bytes, every list of bytes within a slice's length. -/
namespace Go.Proofs.YtpkalnkeafggjaaGreatDoor
open Go.RowKit
set_option maxHeartbeats 400000
set_option linter.unusedVariables false
set_option maxRecDepth 20000

/-- a cursor at g: b is what it reads, k bytes were read; all that it has lies below block B -/
def Cur (w : World) (B g : Nat) (b : List UInt8) (k : Nat) : Prop :=
  ∃ A c, Bk w g 63 [.slice A b.length c, .int .i64 (k : Int)] ∧ Rd w A b.length c (u8s b) ∧ k ≤ b.length ∧ g < B ∧ B ≤ w.heap.size ∧ ∀ ad, A = some ad → ad.block ≠ g ∧ ad.block < B

section
variable {w w' : World} {B g : Nat} {b : List UInt8} {k : Nat}
theorem Cur.fr {S : Nat → Prop} (h : Cur w B g b k) (hf : Fr S w w') (hS : ∀ i, i < B → ¬ S i) : Cur w' B g b k := by
  obtain ⟨A, c, h1, h2, h3, h5, h6, h4⟩ := h
  exact ⟨A, c, h1.fr hf (hS g h5), h2.fr hf (fun ad e => hS _ (h4 ad e).2), h3, h5, Nat.le_trans h6 hf.size, h4⟩
theorem Cur.no (h : Cur w B g b k) (hf : Fr No w w') : Cur w' B g b k := h.fr hf (fun _ _ x => x)
theorem Cur.just {g' : Nat} (h : Cur w B g b k) (hf : Fr (Just g') w w') (hB : B ≤ g') : Cur w' B g b k := h.fr hf (fun i hi e => by have : i = g' := e; omega)
theorem Cur.dr (h : Cur w B g b k) (hf : Dr w w') : Cur w' B g b k := h.no hf.fr
theorem Cur.lt (h : Cur w B g b k) : g < w.heap.size := by
  obtain ⟨A, c, h1, _⟩ := h
  exact h1.lt
theorem Cur.bound (h : Cur w B g b k) : g < B ∧ B ≤ w.heap.size := by
  obtain ⟨A, c, _, _, _, h5, h6, _⟩ := h
  exact ⟨h5, h6⟩
theorem Cur.le (h : Cur w B g b k) : k ≤ b.length ∧ b.length ≤ 9223372036854775807 := by
  obtain ⟨A, c, _, h2, h3, _⟩ := h
  have := h2.max
  have := h2.cap
  simp only [maxLen] at *
  exact ⟨h3, by omega⟩
end

theorem new_any (A : Option Addr) (n c : Nat) (l : List UInt8) (w : World) (ha : Rd w A n c (u8s l)) (hn : n ≤ 140737488355328) :
    Calls Tryz.prog 15 #[.slice A n c] w fun e w' => ∃ g, e = .returned (.pointer (some ⟨g, 0, none⟩)) ∧ w.heap.size ≤ g ∧ Cur w' w'.heap.size g l 0 ∧ Fr No w w' := by
  have hl : l.length = n := by simpa using ha.len
  go_enter Tryz.func15, Tryz.ntmps15
  go_wp2_with (go_at_call 34; refine (clone_any _ _ _ _ _ ha hn).mono ?_; rintro e w1 ⟨v, rfl, ho, hf⟩; obtain ⟨V, d, rfl, hr, hb⟩ := Rd.of_own ho)
  go_ret
  subst hl
  exact ⟨w1.heap.size, rfl, hf.size, ⟨V, d, Bk.new w1 _ _, hr.no ((Fr.refl No w1).alloc _), by omega, by simp, Nat.le_refl _, fun ad e => ⟨by have := (hb ad e).2; omega, by have := (hb ad e).2; simp; omega⟩⟩, hf.alloc _⟩

theorem left_any {B : Nat} (g : Nat) (b : List UInt8) (k : Nat) (w : World) (h : Cur w B g b k) :
    Calls Tryz.prog 43 #[.pointer (some ⟨g, 0, none⟩)] w fun e w' => e = .returned (.int .i64 ((b.length : Int) - (k : Int))) ∧ Dr w w' := by
  obtain ⟨h5, h6⟩ := h.le
  obtain ⟨A, c, h1, h2, h3, hgB, hBw, h4⟩ := h
  have c0 := h1.cell 0
  have c1 := h1.cell 1
  simp only [List.getElem?_cons_zero, List.getElem?_cons_succ] at c0 c1
  go_enter Tryz.func43, Tryz.ntmps43
  go_wp2
  go_quiet (fail)
  go_wp2
  go_ret
  exact ⟨rfl, (Dr.refl _).drewN _⟩

theorem left_nil (w : World) : Calls Tryz.prog 43 #[.pointer none] w fun e w' => e = .returned (.int .i64 0) ∧ Dr w w' := by
  go_enter Tryz.func43, Tryz.ntmps43
  go_wp2
  go_ret
  exact ⟨rfl, Dr.refl _⟩

theorem at_any {B : Nat} (g : Nat) (b : List UInt8) (k : Nat) (w : World) (h : Cur w B g b k) :
    Calls Tryz.prog 65 #[.pointer (some ⟨g, 0, none⟩)] w fun e w' => e = .returned (.int .i64 (k : Int)) ∧ Dr w w' := by
  obtain ⟨A, c, h1, h2, h3, hgB, hBw, h4⟩ := h
  have c1 := h1.cell 1
  simp only [List.getElem?_cons_zero, List.getElem?_cons_succ] at c1
  go_enter Tryz.func65, Tryz.ntmps65
  go_wp2
  go_ret
  exact ⟨rfl, Dr.refl _⟩

theorem at_nil (w : World) : Calls Tryz.prog 65 #[.pointer none] w fun e w' => e = .returned (.int .i64 0) ∧ Dr w w' := by
  go_enter Tryz.func65, Tryz.ntmps65
  go_wp2
  go_ret
  exact ⟨rfl, Dr.refl _⟩

/-! ### next, narrow -/
theorem next_nil (n : Int) (w : World) : Calls Tryz.prog 57 #[.pointer none, .int .i64 n] w fun e w' => e = .returned (.tuple #[.slice none 0 0, .int .i64 2]) ∧ Dr w w' := by
  go_enter Tryz.func57, Tryz.ntmps57
  go_wp2
  go_ret2
  exact ⟨rfl, Dr.refl _⟩

theorem next_neg (g : Nat) (n : Int) (w : World) (hn : n < 0) : Calls Tryz.prog 57 #[.pointer (some ⟨g, 0, none⟩), .int .i64 n] w fun e w' => e = .returned (.tuple #[.slice none 0 0, .int .i64 1]) ∧ Dr w w' := by
  go_enter Tryz.func57, Tryz.ntmps57
  go_wp2
  go_ret2
  exact ⟨rfl, Dr.refl _⟩

theorem next_short {B : Nat} (g : Nat) (n : Int) (b : List UInt8) (k : Nat) (w : World) (h : Cur w B g b k) (hn : 0 ≤ n) (hs : (b.length : Int) - (k : Int) < n) :
    Calls Tryz.prog 57 #[.pointer (some ⟨g, 0, none⟩), .int .i64 n] w fun e w' => e = .returned (.tuple #[.slice none 0 0, .int .i64 3]) ∧ Dr w w' := by
  go_enter Tryz.func57, Tryz.ntmps57
  go_wp2_with (go_at_call 43; refine (left_any g b k _ h).mono ?_; rintro e w1 ⟨rfl, hd⟩)
  go_ret2
  exact ⟨rfl, hd⟩

theorem next_ok {B : Nat} (g : Nat) (m : Nat) (b : List UInt8) (k : Nat) (w : World) (h : Cur w B g b k) (hs : k + m ≤ b.length) :
    Calls Tryz.prog 57 #[.pointer (some ⟨g, 0, none⟩), .int .i64 (m : Int)] w fun e w' => ∃ V d, e = .returned (.tuple #[.slice V m d, .int .i64 0]) ∧
      Rd w' V m d (u8s ((b.drop k).take m)) ∧ Cur w' B g b (k + m) ∧ Fr (Just g) w w' := by
  obtain ⟨h5, h6⟩ := h.le
  have hcur := h
  obtain ⟨A, c, h1, h2, h3, hgB, hBw, h4⟩ := h
  have hlc := h2.cap
  have hcm : c ≤ 9223372036854775807 := by have := h2.max; simpa [maxLen] using this
  go_enter Tryz.func57, Tryz.ntmps57
  go_wp2_with (go_at_call 43; refine (left_any g b k _ hcur).mono ?_; rintro e w1 ⟨rfl, hd⟩)
  have h1' := h1.no hd.fr
  have c0 := h1'.cell 0
  have c1 := h1'.cell 1
  have f1 := h1'.frozen 1
  simp only [List.getElem?_cons_zero, List.getElem?_cons_succ] at c0 c1
  go_quiet (fail)
  go_wp2
  all_goals
    have hcut := (h2.no hd.fr).cut (k := k) (m := k + m) (by omega) (by omega)
    rw [u8s_cut] at hcut
    first | (have hck : c = k := by assumption
             rw [if_pos hck] at hcut) | (have hck : ¬ c = k := by assumption
                                         rw [if_neg hck] at hcut)
    have hF : Fr (Just g) w ((w1.drewN nq).setCell ⟨g, 1, none⟩ (.int .i64 ((k : Int) + (m : Int)))) := (hd.fr.drewN nq).setCell (p := ⟨g, 1, none⟩) (.inl (Just.at g)) _
    have hF1 : Fr (Just g) w1 ((w1.drewN nq).setCell ⟨g, 1, none⟩ (.int .i64 ((k : Int) + (m : Int)))) := ((Fr.refl _ w1).drewN nq).setCell (p := ⟨g, 1, none⟩) (.inl (Just.at g)) _
    have hb2 := (h1'.no ((Dr.refl w1).drewN nq).fr).set_ 1 (.int .i64 ((k : Int) + (m : Int)))
    go_ret2
    refine ⟨_, _, rfl, ?_, ⟨A, c, hb2, h2.fr hF (fun ad e => (h4 ad e).1), by omega, hgB, Nat.le_trans hBw hF.size, h4⟩, hF⟩
    refine Rd.fr (S := Just g) (w := w1) ?_ hF1 ?_
    · first | simpa using hcut | (have e : k + m - k = m := by omega
                                  rw [e] at hcut
                                  first | exact hcut | (have e2 : c - k = 0 := by omega
                                                        rw [e2] at hcut
                                                        exact hcut))
    · intro ad e
      first | exact (h4 ad e).1 | (obtain ⟨ad', rfl, rfl⟩ := Option.map_eq_some_iff.1 e; rw [blk_add]; exact (h4 ad' rfl).1)

/-! ### narrow: the width ahead of next -/
theorem narrow_nil (n : Int) (w : World) : Calls Tryz.prog 89 #[.pointer none, .int .i64 n] w fun e w' => e = .returned (.tuple #[.slice none 0 0, .int .i64 2]) ∧ Dr w w' := by
  go_enter Tryz.func89, Tryz.ntmps89
  go_wp2_with (go_at_call 57; refine (next_nil _ _).mono ?_; rintro e w1 ⟨rfl, hd⟩)
  go_ret2
  exact ⟨rfl, hd⟩

theorem narrow_arg (g : Nat) (n : Int) (w : World) (hn : n < 1 ∨ 8 < n) : Calls Tryz.prog 89 #[.pointer (some ⟨g, 0, none⟩), .int .i64 n] w fun e w' => e = .returned (.tuple #[.slice none 0 0, .int .i64 1]) ∧ Dr w w' := by
  rcases hn with hn | hn
  all_goals
    go_enter Tryz.func89, Tryz.ntmps89
    go_wp2
    go_ret2
    exact ⟨rfl, Dr.refl _⟩

theorem narrow_short {B : Nat} (g : Nat) (n : Int) (b : List UInt8) (k : Nat) (w : World) (h : Cur w B g b k) (hn : 1 ≤ n) (hn8 : n ≤ 8) (hs : (b.length : Int) - (k : Int) < n) :
    Calls Tryz.prog 89 #[.pointer (some ⟨g, 0, none⟩), .int .i64 n] w fun e w' => e = .returned (.tuple #[.slice none 0 0, .int .i64 3]) ∧ Dr w w' := by
  go_enter Tryz.func89, Tryz.ntmps89
  go_wp2_with (go_at_call 57; refine (next_short _ _ _ _ _ h (by omega) hs).mono ?_; rintro e w1 ⟨rfl, hd⟩)
  go_ret2
  exact ⟨rfl, hd⟩

theorem narrow_ok {B : Nat} (g : Nat) (m : Nat) (b : List UInt8) (k : Nat) (w : World) (h : Cur w B g b k) (h1 : 1 ≤ m) (h8 : m ≤ 8) (hs : k + m ≤ b.length) :
    Calls Tryz.prog 89 #[.pointer (some ⟨g, 0, none⟩), .int .i64 (m : Int)] w fun e w' => ∃ V d, e = .returned (.tuple #[.slice V m d, .int .i64 0]) ∧
      Rd w' V m d (u8s ((b.drop k).take m)) ∧ Cur w' B g b (k + m) ∧ Fr (Just g) w w' := by
  go_enter Tryz.func89, Tryz.ntmps89
  go_wp2_with (go_at_call 57; refine (next_ok _ _ _ _ _ h hs).mono ?_; rintro e w1 ⟨V, d, rfl, hr, hc, hf⟩)
  go_ret2
  exact ⟨V, d, rfl, hr, hc, hf⟩

/-! ### Take -/
theorem take_nil (n : Int) (w : World) : Calls Tryz.prog 66 #[.pointer none, .int .i64 n] w fun e w' => e = .returned (.tuple #[.slice none 0 0, .int .i64 2]) ∧ Dr w w' := by
  go_enter Tryz.func66, Tryz.ntmps66
  go_wp2_with (first | (go_at_call 57; refine (next_nil _ _).mono ?_; rintro e w1 ⟨rfl, hd⟩) | go_in)
  go_ret2
  exact ⟨rfl, hd⟩

theorem take_neg (g : Nat) (n : Int) (w : World) (hn : n < 0) : Calls Tryz.prog 66 #[.pointer (some ⟨g, 0, none⟩), .int .i64 n] w fun e w' => e = .returned (.tuple #[.slice none 0 0, .int .i64 1]) ∧ Dr w w' := by
  go_enter Tryz.func66, Tryz.ntmps66
  go_wp2_with (first | (go_at_call 57; refine (next_neg _ _ _ hn).mono ?_; rintro e w1 ⟨rfl, hd⟩) | go_in)
  go_ret2
  exact ⟨rfl, hd⟩

theorem take_short {B : Nat} (g : Nat) (n : Int) (b : List UInt8) (k : Nat) (w : World) (h : Cur w B g b k) (hn : 0 ≤ n) (hs : (b.length : Int) - (k : Int) < n) :
    Calls Tryz.prog 66 #[.pointer (some ⟨g, 0, none⟩), .int .i64 n] w fun e w' => e = .returned (.tuple #[.slice none 0 0, .int .i64 3]) ∧ Dr w w' := by
  go_enter Tryz.func66, Tryz.ntmps66
  go_wp2_with (first | (go_at_call 57; refine (next_short _ _ _ _ _ h hn hs).mono ?_; rintro e w1 ⟨rfl, hd⟩) | go_in)
  go_ret2
  exact ⟨rfl, hd⟩

theorem text_nil (n : Int) (w : World) : Calls Tryz.prog 35 #[.pointer none, .int .i64 n] w fun e w' => e = .returned (.tuple #[.string .empty, .int .i64 2]) ∧ Dr w w' := by
  go_enter Tryz.func35, Tryz.ntmps35
  go_wp2_with (first | (go_at_call 57; refine (next_nil _ _).mono ?_; rintro e w1 ⟨rfl, hd⟩) | go_in)
  go_ret2
  exact ⟨rfl, hd⟩

theorem text_neg (g : Nat) (n : Int) (w : World) (hn : n < 0) : Calls Tryz.prog 35 #[.pointer (some ⟨g, 0, none⟩), .int .i64 n] w fun e w' => e = .returned (.tuple #[.string .empty, .int .i64 1]) ∧ Dr w w' := by
  go_enter Tryz.func35, Tryz.ntmps35
  go_wp2_with (first | (go_at_call 57; refine (next_neg _ _ _ hn).mono ?_; rintro e w1 ⟨rfl, hd⟩) | go_in)
  go_ret2
  exact ⟨rfl, hd⟩

theorem text_short {B : Nat} (g : Nat) (n : Int) (b : List UInt8) (k : Nat) (w : World) (h : Cur w B g b k) (hn : 0 ≤ n) (hs : (b.length : Int) - (k : Int) < n) :
    Calls Tryz.prog 35 #[.pointer (some ⟨g, 0, none⟩), .int .i64 n] w fun e w' => e = .returned (.tuple #[.string .empty, .int .i64 3]) ∧ Dr w w' := by
  go_enter Tryz.func35, Tryz.ntmps35
  go_wp2_with (first | (go_at_call 57; refine (next_short _ _ _ _ _ h hn hs).mono ?_; rintro e w1 ⟨rfl, hd⟩) | go_in)
  go_ret2
  exact ⟨rfl, hd⟩

theorem number_nil (n : Int) (w : World) : Calls Tryz.prog 76 #[.pointer none, .int .i64 n] w fun e w' => e = .returned (.tuple #[.int .u64 0, .int .i64 2]) ∧ Dr w w' := by
  go_enter Tryz.func76, Tryz.ntmps76
  go_wp2_with (first | (go_at_call 89; refine (narrow_nil _ _).mono ?_; rintro e w1 ⟨rfl, hd⟩) | go_in)
  go_ret2
  exact ⟨rfl, hd⟩

theorem number_arg (g : Nat) (n : Int) (w : World) (hn : n < 1 ∨ 8 < n) : Calls Tryz.prog 76 #[.pointer (some ⟨g, 0, none⟩), .int .i64 n] w fun e w' => e = .returned (.tuple #[.int .u64 0, .int .i64 1]) ∧ Dr w w' := by
  go_enter Tryz.func76, Tryz.ntmps76
  go_wp2_with (first | (go_at_call 89; refine (narrow_arg _ _ _ hn).mono ?_; rintro e w1 ⟨rfl, hd⟩) | go_in)
  go_ret2
  exact ⟨rfl, hd⟩

theorem number_short {B : Nat} (g : Nat) (n : Int) (b : List UInt8) (k : Nat) (w : World) (h : Cur w B g b k) (hn : 1 ≤ n) (hn8 : n ≤ 8) (hs : (b.length : Int) - (k : Int) < n) :
    Calls Tryz.prog 76 #[.pointer (some ⟨g, 0, none⟩), .int .i64 n] w fun e w' => e = .returned (.tuple #[.int .u64 0, .int .i64 3]) ∧ Dr w w' := by
  go_enter Tryz.func76, Tryz.ntmps76
  go_wp2_with (first | (go_at_call 89; refine (narrow_short _ _ _ _ _ h hn hn8 hs).mono ?_; rintro e w1 ⟨rfl, hd⟩) | go_in)
  go_ret2
  exact ⟨rfl, hd⟩

theorem take_ok {B : Nat} (g : Nat) (m : Nat) (b : List UInt8) (k : Nat) (w : World) (h : Cur w B g b k) (hs : k + m ≤ b.length) (hb : b.length ≤ 140737488355328) :
    Calls Tryz.prog 66 #[.pointer (some ⟨g, 0, none⟩), .int .i64 (m : Int)] w fun e w' => ∃ v, e = .returned (.tuple #[v, .int .i64 0]) ∧
      w'.ownsRow w.heap.size 5 1 v m (u8s ((b.drop k).take m)) ∧ Cur w' B g b (k + m) ∧ Fr (Just g) w w' := by
  go_enter Tryz.func66, Tryz.ntmps66
  go_wp2_with (first | (go_at_call 57; refine (next_ok _ _ _ _ _ h hs).mono ?_; rintro e w1 ⟨V, d, rfl, hr, hc, hf⟩) | (go_at_call 34; refine (clone_any _ _ _ _ _ hr (by omega)).mono ?_; rintro e w2 ⟨v, rfl, ho, hf2⟩) | go_in)
  go_ret2
  have hsz := hf.size
  refine ⟨v, rfl, ?_, hc.no hf2, hf.trans hf2.no⟩
  obtain ⟨h1, h2⟩ := ho
  refine ⟨h1, ?_⟩
  rcases h2 with h2 | ⟨g', cap, cur, e, hg, r⟩
  · exact .inl h2
  · exact .inr ⟨g', cap, cur, e, by omega, r⟩

theorem cur_text_any (A : Option Addr) (n c : Nat) (l : List UInt8) (w : World) (ha : Rd w A n c (u8s l)) :
    Calls Tryz.prog 58 #[.slice A n c] w fun e w' => e = .returned (.string (bstr l)) ∧ w = w' := by
  have h1 := run_string (P := Tryz.prog) ha 22 5 Tryz.underlying22 Tryz.underlying5 9 Tryz.underlying9
  go_enter Tryz.func58, Tryz.ntmps58
  go_wp2
  go_ret
  exact ⟨rfl, rfl⟩

theorem text_ok {B : Nat} (g : Nat) (m : Nat) (b : List UInt8) (k : Nat) (w : World) (h : Cur w B g b k) (hs : k + m ≤ b.length) :
    Calls Tryz.prog 35 #[.pointer (some ⟨g, 0, none⟩), .int .i64 (m : Int)] w fun e w' => e = .returned (.tuple #[.string (bstr ((b.drop k).take m)), .int .i64 0]) ∧
      Cur w' B g b (k + m) ∧ Fr (Just g) w w' := by
  go_enter Tryz.func35, Tryz.ntmps35
  go_wp2_with (first | (go_at_call 57; refine (next_ok _ _ _ _ _ h hs).mono ?_; rintro e w1 ⟨V, d, rfl, hr, hc, hf⟩) | (go_at_call 58; refine (cur_text_any _ _ _ _ _ hr).mono ?_; rintro e w2 ⟨rfl, rfl⟩) | go_in)
  go_ret2
  exact ⟨rfl, hc, hf⟩

end Go.Proofs.YtpkalnkeafggjaaGreatDoor
/- The statements' own reading of a number out of bytes: what it answers. -/
namespace Go.Proofs.YtpkalnkeafggjaaGreatDoor
open Go.RowKit
set_option maxHeartbeats 400000
set_option linter.unusedVariables false
set_option maxRecDepth 20000

end Go.Proofs.YtpkalnkeafggjaaGreatDoor
