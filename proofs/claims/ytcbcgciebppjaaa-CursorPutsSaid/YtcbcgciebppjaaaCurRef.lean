/- The statements' own cursor: what it answers, for every list of bytes within a slice's length, every number of bytes. -/
import Derived.Test.YtcbcgciebppjaaaCurPut
namespace Go.Proofs.Ytcbcgciebppjaaa
open Go.RowKit
set_option maxHeartbeats 400000
set_option linter.unusedVariables false

/-- the statements' own cursor at g; what it reads lies below block D -/
def CurR (w : World) (D g : Nat) (b : List UInt8) (k : Nat) : Prop :=
  ∃ A c, Bk w g 30 [.slice A b.length c, .int .i64 (k : Int)] ∧ Rd w A b.length c (u8s b) ∧ k ≤ b.length ∧ D ≤ g ∧ ∀ ad, A = some ad → 0 < b.length → ad.block < D

/-- of no elements nothing is asked -/
theorem Rd.empty {w w' : World} {A : Option Addr} {c : Nat} (h : Rd w A 0 c []) : Rd w' A 0 c [] := ⟨rfl, h.cap, h.max, h.nil, fun _ _ _ _ hu => by simp at hu⟩

section
variable {w w' : World} {B g : Nat} {b : List UInt8} {k : Nat}
theorem Rd.fr' {S : Nat → Prop} {A : Option Addr} {c : Nat} (h : Rd w A b.length c (u8s b)) (hf : Fr S w w') (hS : ∀ ad, A = some ad → 0 < b.length → ¬ S ad.block) : Rd w' A b.length c (u8s b) := by
  rcases Nat.eq_zero_or_pos b.length with h0 | h0
  · obtain rfl : b = [] := List.eq_nil_of_length_eq_zero h0
    exact Rd.empty h
  · exact h.fr hf (fun ad e => hS ad e h0)
theorem CurR.fr {S : Nat → Prop} (h : CurR w B g b k) (hf : Fr S w w') (hg : ¬ S g) (hS : ∀ i, i < B → ¬ S i) : CurR w' B g b k := by
  obtain ⟨A, c, h1, h2, h3, h5, h4⟩ := h
  exact ⟨A, c, h1.fr hf hg, h2.fr' hf (fun ad e h0 => hS _ (h4 ad e h0)), h3, h5, h4⟩
theorem CurR.no (h : CurR w B g b k) (hf : Fr No w w') : CurR w' B g b k := h.fr hf (fun x => x) (fun _ _ x => x)
theorem CurR.just {g' : Nat} (h : CurR w B g b k) (hf : Fr (Just g') w w') (hg : g ≠ g') (hB : B ≤ g') : CurR w' B g b k := h.fr hf hg (fun i hi e => by have : i = g' := e; omega)
theorem CurR.dr (h : CurR w B g b k) (hf : Dr w w') : CurR w' B g b k := h.no hf.fr
theorem CurR.lt (h : CurR w B g b k) : g < w.heap.size := by
  obtain ⟨A, c, h1, _⟩ := h
  exact h1.lt
theorem CurR.le (h : CurR w B g b k) : k ≤ b.length ∧ b.length ≤ 9223372036854775807 := by
  obtain ⟨A, c, _, h2, h3, _⟩ := h
  have := h2.max
  have := h2.cap
  simp only [maxLen] at *
  exact ⟨h3, by omega⟩
end

theorem rtake_neg (g : Nat) (n : Int) (w : World) (hn : n < 0) : Calls Try.prog 11 #[.pointer (some ⟨g, 0, none⟩), .int .i64 n] w fun e w' => e = .returned (.tuple #[.slice none 0 0, .int .i64 1]) ∧ Dr w w' := by
  go_enter Try.func11, Try.ntmps11
  go_wp2
  go_ret2
  exact ⟨rfl, Dr.refl _⟩

theorem rtake_short {B : Nat} (g : Nat) (n : Int) (b : List UInt8) (k : Nat) (w : World) (h : CurR w B g b k) (hn : 0 ≤ n) (hs : (b.length : Int) - (k : Int) < n) :
    Calls Try.prog 11 #[.pointer (some ⟨g, 0, none⟩), .int .i64 n] w fun e w' => e = .returned (.tuple #[.slice none 0 0, .int .i64 3]) ∧ Dr w w' := by
  obtain ⟨h5, h6⟩ := h.le
  obtain ⟨A, c, h1, h2, h3, hgB, h4⟩ := h
  have c0 := h1.cell 0
  have c1 := h1.cell 1
  simp only [List.getElem?_cons_zero, List.getElem?_cons_succ] at c0 c1
  go_enter Try.func11, Try.ntmps11
  go_wp2
  go_quiet (fail)
  go_wp2
  go_ret2
  exact ⟨rfl, (Dr.refl _).drewN _⟩

theorem rtake_ok {B : Nat} (g : Nat) (m : Nat) (b : List UInt8) (k : Nat) (w : World) (h : CurR w B g b k) (hs : k + m ≤ b.length) (hb : b.length ≤ 140737488355328) :
    Calls Try.prog 11 #[.pointer (some ⟨g, 0, none⟩), .int .i64 (m : Int)] w fun e w' => ∃ v, e = .returned (.tuple #[v, .int .i64 0]) ∧
      w'.ownsRow w.heap.size 5 1 v m (u8s ((b.drop k).take m)) ∧ CurR w' B g b (k + m) ∧ Fr (Just g) w w' := by
  obtain ⟨h5, h6⟩ := h.le
  have hcur := h
  obtain ⟨A, c, h1, h2, h3, hgB, h4⟩ := h
  have hlc := h2.cap
  have hcm : c ≤ 9223372036854775807 := by have := h2.max; simpa [maxLen] using this
  have c0 := h1.cell 0
  have c1 := h1.cell 1
  have f1 := h1.frozen 1
  simp only [List.getElem?_cons_zero, List.getElem?_cons_succ] at c0 c1
  go_enter Try.func11, Try.ntmps11
  go_wp2
  go_quiet (fail)
  go_wp2
  go_name_world w3 hw3
  refine wp_region_reads 15 (by kernel_rfl) (by kernel_rfl) ?_
  intro w4 hd
  simp only [List.take_succ_cons, List.take_zero, List.drop_succ_cons, List.drop_zero]
  have hb3 : Bk w3 g 30 [.slice A b.length c, .int .i64 ((k : Int) + (m : Int))] := by
    rw [← hw3]
    exact (h1.no ((Dr.refl w).drewN nq).fr).set_ 1 _
  have hF : Fr (Just g) w w4 := by
    rw [← hw3] at hd
    exact (((Fr.refl _ w).drewN nq).setCell (p := ⟨g, 1, none⟩) (.inl (Just.at g)) _).dr hd
  have hb4 := hb3.no hd.fr
  have d0 := hb4.cell 0
  have d1 := hb4.cell 1
  simp only [List.getElem?_cons_zero, List.getElem?_cons_succ] at d0 d1
  clear hw3 c0 c1 f1 hb3 hd
  have e1 : IntKind.i64.wrap (k : Int) = (k : Int) := IntWalk.i64_in _ ⟨by omega, by omega⟩
  have e2 : ((k : Int) + (m : Int)).toNat = k + m := by omega
  have e3 : 0 ≤ (k : Int) + (m : Int) := by omega
  have e4 : (k : Int) + (m : Int) ≤ (c : Int) := by omega
  have e5 : (k : Int) ≤ max ((k : Int) + (m : Int)) 0 := by omega
  repeat still_step
  clear e1 e2 e3 e4 e5
  refine wpStill_nil ?_
  have hr4 := h2.fr' hF (fun ad e h0 x => by have := h4 ad e h0; rw [show ad.block = g from x] at this; omega)
  have hcut := hr4.cut (k := k) (m := k + m) (by omega) (by omega)
  rw [u8s_cut, Nat.add_sub_cancel_left] at hcut
  have hc4 : CurR w4 B g b (k + m) := ⟨A, c, by simpa using hb4, hr4, by omega, hgB, h4⟩
  go_wp2_with (at_builtin; go_must (refine ap8 w4 rfl (.const (.slice none 0 0)) (.tmp 43) rfl w.heap.size (.slice none 0 0) 0 [] rfl (World.ownsRow_nil _ _ _ _) _ m (c - k) _ rfl hcut (by omega) hF.size ?_); intro r1 w5 ho5 hg5 hr5)
  all_goals
    go_ret2
    refine ⟨r1, rfl, by simpa using ho5, ?_, ?_⟩
    · exact hc4.no ((Fr.refl No w4).grown hg5 (by simp [Value.ownBlock]))
    · exact hF.grown hg5 (by simp [Value.ownBlock])

/-! ### Number -/
theorem rnum_arg (g : Nat) (n : Int) (w : World) (hn : n < 1 ∨ 8 < n) : Calls Try.prog 13 #[.pointer (some ⟨g, 0, none⟩), .int .i64 n] w fun e w' => e = .returned (.tuple #[.int .u64 0, .int .i64 1]) ∧ Dr w w' := by
  rcases hn with hn | hn
  all_goals
    go_enter Try.func13, Try.ntmps13
    go_wp2
    go_ret2
    exact ⟨rfl, Dr.refl _⟩

theorem rnum_short {B : Nat} (g : Nat) (n : Int) (b : List UInt8) (k : Nat) (w : World) (h : CurR w B g b k) (hn : 1 ≤ n) (hn8 : n ≤ 8) (hs : (b.length : Int) - (k : Int) < n) :
    Calls Try.prog 13 #[.pointer (some ⟨g, 0, none⟩), .int .i64 n] w fun e w' => e = .returned (.tuple #[.int .u64 0, .int .i64 3]) ∧ Dr w w' := by
  go_enter Try.func13, Try.ntmps13
  go_wp2_with (go_at_call 11; refine (rtake_short _ _ _ _ _ h (by omega) hs).mono ?_; rintro e w1 ⟨rfl, hd⟩)
  go_ret2
  exact ⟨rfl, hd⟩

theorem rnum_ok {B : Nat} (g : Nat) (m : Nat) (b : List UInt8) (k : Nat) (w : World) (h : CurR w B g b k) (h1 : 1 ≤ m) (h8 : m ≤ 8) (hs : k + m ≤ b.length) (hb : b.length ≤ 140737488355328) :
    Calls Try.prog 13 #[.pointer (some ⟨g, 0, none⟩), .int .i64 (m : Int)] w fun e w' => e = .returned (.tuple #[.int .u64 (beN ((b.drop k).take m) : Int), .int .i64 0]) ∧ CurR w' B g b (k + m) ∧ Fr (Just g) w w' := by
  go_enter Try.func13, Try.ntmps13
  go_wp2_with (first | (go_at_call 11; refine (rtake_ok _ _ _ _ _ h hs hb).mono ?_; rintro e w1 ⟨v, rfl, ho, hc, hf⟩; obtain ⟨V, d, rfl, hr, _⟩ := Rd.of_own ho) | (go_at_call 28; refine (num_any _ _ _ 0 m _ _ hr (by omega) (by omega) (by omega)).mono ?_; rintro e w2 ⟨rfl, hd⟩))
  go_ret2
  refine ⟨?_, hc.dr hd, hf.dr hd⟩
  simp [List.take_take]
end Go.Proofs.Ytcbcgciebppjaaa
