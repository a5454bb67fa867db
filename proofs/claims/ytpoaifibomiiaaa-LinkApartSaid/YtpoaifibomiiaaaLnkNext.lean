/- What package link takes from a cursor: the next frame; slices.Concat. -/
import Derived.Test.YtpoaifibomiiaaaRefLnk
import Derived.Test.YtpoaifibomiiaaaCurNum
import Derived.Test.YtpoaifibomiiaaaPut
import Derived.Lib.AppendZeros
namespace Go.Proofs.Ytpoaifibomiiaaa
open Go.RowKit
set_option maxHeartbeats 400000
set_option linter.unusedVariables false

/-- a row of one's own, cut to its head of nothing -/
theorem own_zero {w : World} {base : Nat} {e : TypeId} {g n cap : Nat} {xs : List Value} (h : w.ownsRow base e 1 (.slice (some ⟨g, 0, none⟩) n cap) n xs) : w.ownsRow base e 1 (.slice (some ⟨g, 0, none⟩) 0 cap) 0 [] := by
  rcases h.2 with ⟨e1, _⟩ | ⟨g', cap', cur, e1, hb, hg, hn, hm, hc, ht⟩
  · cases e1
  · injection e1 with e1 e2 e3
    injection e1 with e1
    subst e3
    cases e1
    exact ⟨rfl, .inr ⟨g, cap, cur, rfl, hb, hg, Nat.zero_le _, hm, hc, by simp⟩⟩

theorem grow_any (n : Nat) (w : World) (hn : n ≤ 100000000) :
    Calls Try.prog 24 #[.slice none 0 0, .int .i64 (n : Int)] w fun e w' => ∃ v, e = .returned v ∧ w'.ownsRow w.heap.size 5 1 v 0 (u8s []) ∧ Fr No w w' := by
  rcases Nat.eq_zero_or_pos n with h0 | h0
  · have h0I : ¬ (0 : Int) < (n : Int) := by omega
    go_enter Try.func24, Try.ntmps24
    go_wp2
    go_ret
    exact ⟨_, rfl, World.ownsRow_nil _ _ _ _, Fr.refl _ _⟩
  · have h0I : (0 : Int) < (n : Int) := by omega
    obtain ⟨i, hi, hz, h1, h2⟩ := info_parts info_u8
    have hr := fun ty => Lib.run_append_nil_zeros (P := Try.prog) w 23 3 ty 5 i (.int .u8 0) .i64 .i64 Try.underlying23 Try.underlying3 hi hz n h0 (by omega) (by omega) (by rw [h2]; omega)
    have hge := grownCap_ge w n 0 5
    have hcm : grownCap w n 0 5 ≤ maxLen := grownCap_le_maxLen w n 0 5 (by simp only [maxLen]; omega)
    generalize grownCap w n 0 5 = cap at hr hge hcm
    have hcm' : cap ≤ 9223372036854775807 := by simpa [maxLen] using hcm
    have hne : ¬ cap = 0 := by omega
    generalize hw : w.drew.alloc (.cells (Builtin.zeroCells (Value.int .u8 0).cells n ++ Builtin.zeroCells (Value.int .u8 0).cells (cap - n)) 5) = w1 at hr
    have hf : Fr No w w1 := by rw [← hw]; exact ((Fr.refl No w).drew).alloc _
    have ho : w1.ownsRow w.heap.size 5 1 (.slice (some ⟨w.heap.size, 0, none⟩) 0 cap) 0 (u8s []) := by
      rw [← hw]
      exact ⟨rfl, .inr ⟨w.heap.size, cap, _, rfl, Nat.le_refl _, heap_alloc_new w.drew _, Nat.zero_le _, hcm, by simp [Builtin.zeroCells, Value.cells]; omega, by simp [u8s]⟩⟩
    go_enter Try.func24, Try.ntmps24
    go_wp2_with (at_builtin; refine Lib.wpList_append_run _ rfl _ _ _ _ rfl _ _ rfl rfl _ _ (hr _) ?_)
    go_ret
    exact ⟨_, rfl, ho, hf⟩

/-- how many bytes there are -/
def sumL : List (List UInt8) → Nat
  | [] => 0
  | x :: l => x.length + sumL l
theorem sumL_flat (l : List (List UInt8)) : l.flatten.length = sumL l := by
  induction l with
  | nil => rfl
  | cons x l ih => simp [sumL, ih]
theorem flat_snoc (l : List (List UInt8)) (k : Nat) (h : k < l.length) : (l.take (k + 1)).flatten = (l.take k).flatten ++ l[k] := by
  rw [List.take_succ_eq_append_getElem h, List.flatten_append]
  simp only [List.flatten_cons, List.flatten_nil, List.append_nil]
theorem flat_le (l : List (List UInt8)) (k : Nat) : (l.take k).flatten.length ≤ l.flatten.length := by
  have h : l.flatten = (l.take k).flatten ++ (l.drop k).flatten := by rw [← List.flatten_append, List.take_append_drop]
  rw [h, List.length_append]
  omega
theorem concat_any (N : Nat → Prop) (A : Option Addr) (n c : Nat) (ls : List (List UInt8)) (w : World) (ha : RdL w N A n c ls) (hn : n ≤ 1000000) (hs : ls.flatten.length ≤ 1000000) :
    Calls Try.prog 19 #[.slice A n c] w fun e w' => ∃ v, e = .returned v ∧ w'.ownsRow w.heap.size 5 1 v ls.flatten.length (u8s ls.flatten) ∧ Fr No w w' := by
  have hl := ha.len
  go_enter Try.func19, Try.ntmps19
  go_wp2
  go_loopw [3, 11] (fun z v wr => ∃ k : Nat, k ≤ n ∧ v = .int .i64 (k : Int) ∧ z = .int .i64 ((ls.take k).flatten.length : Int) ∧ Dr w wr) (fun _ v _ => n - (intOf v).toNat)
  case atStart => exact ⟨0, by omega, rfl, rfl, Dr.refl _⟩
  case round =>
    obtain ⟨k, hk, rfl, rfl, hdr⟩ := hrel
    have hle := flat_le ls k
    rcases Nat.lt_or_ge k n with hlt | hge
    · obtain ⟨ad, A1, n1, c1, rfl, hc1, hr1, -⟩ := (ha.dr hdr).at_ (i := k) (by omega)
      have hst := flat_snoc ls k (by omega)
      have hle2 := flat_le ls (k + 1)
      have h1 := hr1.len
      rw [u8s_length] at h1
      rw [hst, List.length_append, h1] at hle2
      have hst2 : ((ls.take (k + 1)).flatten.length : Int) = ((ls.take k).flatten.length : Int) + (n1 : Int) := by rw [hst, List.length_append, h1]; omega
      generalize (ls.take k).flatten.length = z at *
      have HST := Lib.hid hst2
      clear hst hst2 hr1
      go_wp2
      go_roundw
      case rel => exact ⟨k + 1, by omega, by go_num, by rw [HST.out], hdr⟩
      case measure => simp [intOf]; omega
    · have hkn : k = n := by omega
      subst k
      rw [List.take_of_length_le (by omega)]
      have HS := Lib.hid hs
      generalize hz : ls.flatten.length = z at *
      have hG := fun u => grow_any z u (by omega)
      have HG := Lib.hid hG
      clear hG
      go_wp2_with (go_at_call 24; refine (HG.out _).mono ?_; rintro e w2 ⟨v0, rfl, ho0, hf0⟩)
      have ho1 : w2.ownsRow w.heap.size 5 1 v0 0 (u8s []) := by rw [show w.heap.size = wr.heap.size from by rw [hdr.heap]]; exact ho0
      have hf1 : Fr No w w2 := hdr.fr.trans hf0
      clear ho0 hf0 HG
      go_loopw [6, 27] (fun z v wr => ∃ k : Nat, k ≤ n ∧ v = .int .i64 (k : Int) ∧ wr.ownsRow w.heap.size 5 1 z (ls.take k).flatten.length (u8s (ls.take k).flatten) ∧ Fr No w wr) (fun _ v _ => n - (intOf v).toNat)
      case atStart => exact ⟨0, by omega, rfl, ho1, hf1⟩
      case round =>
        clear ho1 hf1
        obtain ⟨k, hk, rfl, ho, hf⟩ := hrel
        have hle := flat_le ls k
        rcases Nat.lt_or_ge k n with hlt | hge
        · obtain ⟨ad, A1, n1, c1, rfl, hc1, hr1, -⟩ := (ha.no hf).at_ (i := k) (by omega)
          have hst := flat_snoc ls k (by omega)
          have hle2 := flat_le ls (k + 1)
          have h1 := hr1.len
          rw [u8s_length] at h1
          rw [hst, List.length_append, h1] at hle2
          have hst2 : (ls.take (k + 1)).flatten.length = (ls.take k).flatten.length + n1 := by rw [hst, List.length_append, h1]
          generalize (ls.take k).flatten = L at *
          have HST := Lib.hid hst; have HST2 := Lib.hid hst2
          clear hst hst2
          go_wp2_with (refine ap8 wr rfl _ _ rfl w.heap.size u6 L.length L rfl ho A1 n1 c1 ls[k] rfl hr1 (by omega) hf.size ?_; intro v3 w3 ho3 hg3 hv3)
          go_roundw
          case rel => exact ⟨k + 1, by omega, by go_num, by rw [HST2.out, HST.out]; exact ho3, hf.grown hg3 (fun g e => .inr (own_base ho e))⟩
          case measure => simp [intOf]; omega
        · have hkn : k = n := by omega
          subst k
          rw [List.take_of_length_le (by omega)] at ho
          rw [← hz]
          go_wp2
          go_ret
          exact ⟨u6, rfl, ho, hf⟩

/-! ### the next frame -/
def atc (g : Nat) (f : Nat) : Value := .func (.func f) #[.pointer (some ⟨g, 0, none⟩)] #[]
theorem next_none {B : Nat} (g : Nat) (b : List UInt8) (k : Nat) (w : World) (h : Cur w B g b k) (hs : b.length < k + 2) :
    Calls Try.prog 27 #[.func (.func 28) #[.pointer (some ⟨g, 0, none⟩)] #[], .func (.func 29) #[.pointer (some ⟨g, 0, none⟩)] #[]] w
      fun e w' => e = .returned (.tuple #[.slice none 0 0, .int .i64 3]) ∧ Dr w w' := by
  go_enter Try.func27, Try.ntmps27
  go_wp2_with (go_at_call 28; refine (number_short g 2 b k _ h (by omega) (by omega) (by omega)).mono ?_; rintro e w1 ⟨rfl, hd⟩)
  go_ret2
  exact ⟨rfl, hd⟩
theorem next_dead {B : Nat} (g : Nat) (b : List UInt8) (k : Nat) (w : World) (h : Cur w B g b k) (hs : k + 2 ≤ b.length) (hq : num2 (b.drop k) = 0 ∨ 4096 < num2 (b.drop k)) :
    Calls Try.prog 27 #[.func (.func 28) #[.pointer (some ⟨g, 0, none⟩)] #[], .func (.func 29) #[.pointer (some ⟨g, 0, none⟩)] #[]] w
      fun e w' => e = .returned (.tuple #[.slice none 0 0, .int .i64 4]) ∧ Fr (Just g) w w' := by
  have hN := number_ok (B := B) g 2 b k w h (by omega) (by omega) hs
  rw [show beN ((b.drop k).take 2) = num2 (b.drop k) from rfl] at hN
  generalize num2 (b.drop k) = q at hN hq
  have hdI : (q : Int) = 0 ∨ (¬ (q : Int) = 0 ∧ (4096 : Int) < (q : Int)) := by omega
  clear hq
  rcases hdI with hdI | ⟨hdI, hdI2⟩
  all_goals
    go_enter Try.func27, Try.ntmps27
    go_wp2_with (go_at_call 28; refine hN.mono ?_; rintro e w1 ⟨rfl, hc, hf⟩)
    go_ret2
    exact ⟨rfl, hf⟩
theorem next_wait {B : Nat} (g : Nat) (b : List UInt8) (k : Nat) (w : World) (h : Cur w B g b k) (hs : k + 2 ≤ b.length) (hq : ¬ (num2 (b.drop k) = 0 ∨ 4096 < num2 (b.drop k))) (hl : b.length < k + 2 + num2 (b.drop k)) :
    Calls Try.prog 27 #[.func (.func 28) #[.pointer (some ⟨g, 0, none⟩)] #[], .func (.func 29) #[.pointer (some ⟨g, 0, none⟩)] #[]] w
      fun e w' => e = .returned (.tuple #[.slice none 0 0, .int .i64 3]) ∧ Fr (Just g) w w' := by
  have hN := number_ok (B := B) g 2 b k w h (by omega) (by omega) hs
  rw [show beN ((b.drop k).take 2) = num2 (b.drop k) from rfl] at hN
  generalize num2 (b.drop k) = q at hN hq hl
  have h0 : ((q : Int) == 0) = false := by rw [beq_eq_false_iff_ne]; omega
  have h1 : ¬ (4096 : Int) < (q : Int) := by omega
  have hwr : IntKind.i64.wrap (q : Int) = (q : Int) := IntWalk.i64_in _ ⟨by omega, by omega⟩
  go_enter Try.func27, Try.ntmps27
  go_wp2_with (first | (go_at_call 28; refine hN.mono ?_; rintro e w1 ⟨rfl, hc, hf⟩) | (go_at_call 29; refine (take_short g _ b (k + 2) _ hc (by omega) (by omega)).mono ?_; rintro e w2 ⟨rfl, hd⟩))
  go_ret2
  exact ⟨rfl, hf.dr hd⟩
theorem next_frame {B : Nat} (g : Nat) (b : List UInt8) (k : Nat) (w : World) (h : Cur w B g b k) (hs : k + 2 ≤ b.length) (hq : ¬ (num2 (b.drop k) = 0 ∨ 4096 < num2 (b.drop k))) (hl : k + 2 + num2 (b.drop k) ≤ b.length) (hb : b.length ≤ 1000000) :
    Calls Try.prog 27 #[.func (.func 28) #[.pointer (some ⟨g, 0, none⟩)] #[], .func (.func 29) #[.pointer (some ⟨g, 0, none⟩)] #[]] w
      fun e w' => ∃ v, e = .returned (.tuple #[v, .int .i64 0]) ∧ w'.ownsRow w.heap.size 5 1 v (num2 (b.drop k)) (u8s (((b.drop k).drop 2).take (num2 (b.drop k)))) ∧ Cur w' B g b (k + 2 + num2 (b.drop k)) ∧ Fr (Just g) w w' := by
  have hN := number_ok (B := B) g 2 b k w h (by omega) (by omega) hs
  rw [show beN ((b.drop k).take 2) = num2 (b.drop k) from rfl] at hN
  generalize num2 (b.drop k) = q at hN hq hl
  have h0 : ((q : Int) == 0) = false := by rw [beq_eq_false_iff_ne]; omega
  have h1 : ¬ (4096 : Int) < (q : Int) := by omega
  have hwr : IntKind.i64.wrap (q : Int) = (q : Int) := IntWalk.i64_in _ ⟨by omega, by omega⟩
  rw [List.drop_drop]
  go_enter Try.func27, Try.ntmps27
  go_wp2_with (first | (go_at_call 28; refine hN.mono ?_; rintro e w1 ⟨rfl, hc, hf⟩) | (go_at_call 29; refine (take_ok g q b (k + 2) _ hc (by omega) (by omega)).mono ?_; rintro e w2 ⟨v, rfl, ho, hc2, hf2⟩))
  go_ret2
  exact ⟨v, rfl, own_low ho hf.size, hc2, hf.trans hf2⟩
end Go.Proofs.Ytpoaifibomiiaaa
