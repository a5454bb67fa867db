/- What the helpers of the statements do with numbers (a copy with room behind it, and whether it is as it was; two lists held against each other; one among some): contracts, for every list of numbers within a slice's length. -/
import Derived.Test.YtcjfikeephbceaaHelp0
namespace Go.Proofs.Ytcjfikeephbceaa
open Go.RowKit
set_option maxHeartbeats 400000
set_option linter.unusedVariables false

/-- numbers as cells -/
def ints (l : List Int) : List Value := l.map (Value.int .i64)
@[simp] theorem ints_length (l : List Int) : (ints l).length = l.length := by simp [ints]
theorem ints_get (l : List Int) (k : Nat) (h : k < l.length) : (ints l)[k]? = some (.int .i64 l[k]) := by simp [ints, h]
theorem ints_append (l m : List Int) : ints (l ++ m) = ints l ++ ints m := by simp [ints]
theorem ints_one (l : List Int) : ∀ u ∈ ints l, u.oneCell' = true := by
  intro u hu
  simp only [ints, List.mem_map] at hu
  obtain ⟨b, _, rfl⟩ := hu
  rfl
theorem info_int : (Try.prog.info? 3).map (fun i => (i.zero, i.size, i.bytes)) = some (some (.int .i64 0), 1, 8) := by kernel_rfl

theorem ownI_step (l : List Int) (f : Int) (k : Nat) (hk : k < 3) :
    (ints (l ++ List.replicate k f ++ List.replicate (3 - k) 0)).set (l.length + k) (.int .i64 f) = ints (l ++ List.replicate (k + 1) f ++ List.replicate (3 - (k + 1)) 0) := by
  obtain rfl | rfl | rfl : k = 0 ∨ k = 1 ∨ k = 2 := by omega
  all_goals simp [ints, List.replicate]

theorem ownI_get (l : List Int) (f : Int) (k : Nat) (hk : k < 3) :
    ∃ u, (ints (l ++ List.replicate k f ++ List.replicate (3 - k) 0))[l.length + k]? = some u := by
  rw [List.getElem?_eq_getElem (by simp; omega)]
  exact ⟨_, rfl⟩

/-- what Own made reads as what it was made of -/
theorem ownI_rd0 {w : World} {g n : Nat} {l : List Int} {f : Int} {t : TypeId} (hb : Bk w g t (ints (l ++ [f, f, f]))) (hl : (ints l).length = n) (hn : n ≤ 65536) : Rd w (some ⟨g, 0, none⟩) n (n + 3) (ints l) := by
  rw [ints_length] at hl
  have := hb.rd (n := n) (cap := n + 3) (by omega) (by simp only [maxLen]; omega) (by simp; omega)
  have e : (ints (l ++ [f, f, f])).take n = ints l := by
    rw [ints_append, List.take_left' (by simpa using hl)]
  rwa [e] at this
theorem ownI_rd {w w' : World} {g n : Nat} {l : List Int} {f : Int} {t : TypeId} (hb : Bk w g t (ints (l ++ [f, f, f]))) (hf : Fr No w w') (hl : (ints l).length = n) (hn : n ≤ 65536) : Rd w' (some ⟨g, 0, none⟩) n (n + 3) (ints l) :=
  ownI_rd0 (hb.no hf) hl hn

/-- comptoirhelp.Own of bytes: a copy with three bytes of room behind it, in a block of its own -/
theorem ownI_any (A : Option Addr) (n c : Nat) (l : List Int) (f : Int) (w : World) (ha : Rd w A n c (ints l)) (hn : n ≤ 65536) :
    Calls Try.prog 9 #[.slice A n c, .int .i64 f] w fun e w' => ∃ g, e = .returned (.slice (some ⟨g, 0, none⟩) n (n + 3)) ∧ w.heap.size ≤ g ∧
      Bk w' g 3 (ints (l ++ [f, f, f])) ∧ Fr No w w' := by
  obtain ⟨i, hi, hz, h1, h2⟩ := info_parts info_int
  have hmk := fun u : World => run_make_one (P := Try.prog) 22 3 i (.int .i64 0) Try.underlying22 hi hz h1 rfl .i64 .i64 0 ((n : Int) + 3) 0 (n + 3) rfl (by omega) (by omega) (by rw [h2]; omega) (by simp only [maxLen]; omega) u
  have HM := Lib.hid hmk
  clear hmk
  have hn' : l.length = n := by simpa using ha.len
  go_enter Try.func9, Try.ntmps9
  go_wp2_with (first | rw [HM.out] | (at_builtin; refine wpList_append_fit _ rfl (.tmp 12) (.tmp 13) 22 rfl 3 i Try.underlying22 hi h1 w.heap.size 0 (n + 3) _ rfl (Bk.new w _ _) A n c _ rfl (ha.no ((Fr.refl _ _).alloc _)) (ints_one l) (by omega) (by simp) ?_; intro w1 hb1 hf1 hs1))
  have hb2 : Bk w1 w.heap.size 3 (ints (l ++ List.replicate 0 f ++ List.replicate (3 - 0) 0)) := by
    have e : List.take 0 (Array.replicate (n + 3) (Value.int IntKind.i64 0)).toList ++ ints l ++ List.drop (0 + n) (Array.replicate (n + 3) (Value.int IntKind.i64 0)).toList = ints (l ++ List.replicate 0 f ++ List.replicate (3 - 0) 0) := by
      rw [Array.toList_replicate, Nat.zero_add, List.drop_replicate, Nat.add_sub_cancel_left]
      simp [ints]
    rw [e] at hb1
    exact hb1
  have hf2 : Fr No w w1 := ((Fr.refl No w).alloc _).trans_new hf1 (fun i hi => .inr (by rw [show i = w.heap.size from hi]; exact Nat.le_refl _))
  clear hb1 hf1 hs1 HM
  generalize hg : w.heap.size = g at *
  go_loopw [7] (fun v wr => ∃ k : Nat, k ≤ 3 ∧ v = .int .i64 ((n + k : Nat) : Int) ∧ Bk wr g 3 (ints (l ++ List.replicate k f ++ List.replicate (3 - k) 0)) ∧ Fr No w wr) (fun v _ => (n + 3) - (intOf v).toNat)
  case atStart => exact ⟨0, by omega, rfl, hb2, hf2⟩
  case round =>
    clear hb2 hf2
    obtain ⟨k, hk, rfl, hbk, hf⟩ := hrel
    rcases Nat.lt_or_ge k 3 with hlt | hge
    · obtain ⟨u, hu⟩ := ownI_get l f k hlt
      have hc : wr.cell? ⟨g, n + k, none⟩ = some u := by rw [← hn', hbk.cell]; exact hu
      have hfz := hbk.frozen (n + k)
      clear hu
      go_wp2
      go_roundw
      case rel => exact ⟨k + 1, by omega, by go_num, by rw [← ownI_step l f k hlt, hn']; exact hbk.set_ _ _, hf.setCell (.inr (by rw [hg]; exact Nat.le_refl _)) _⟩
      case measure => simp [intOf]; omega
    · obtain rfl : k = 3 := by omega
      go_wp2
      go_ret
      exact ⟨g, rfl, by omega, by simpa [List.replicate] using hbk, hf⟩

theorem eqI_any (x y : Int) (w : World) : Calls Try.prog 28 #[.int .i64 x, .int .i64 y] w fun e w' => e = .returned (.bool (x == y)) ∧ w = w' := by
  go_enter Try.func28, Try.ntmps28
  go_wp2
  go_ret
  exact ⟨rfl, rfl⟩

set_option maxHeartbeats 1000000 in
/-- comptoirhelp.Same of bytes that are alike, by what Plain hands on -/
theorem sameI_any (A B : Option Addr) (n c d : Nat) (l : List Int) (w : World) (ha : Rd w A n c (ints l)) (hb : Rd w B n d (ints l)) :
    Calls Try.prog 27 #[.slice A n c, .slice B n d, .func (.func 28) #[] #[]] w fun e w' => e = .returned (.bool true) ∧ Dr w w' := by
  have hn : l.length = n := by simpa using ha.len
  have hm : n ≤ 9223372036854775807 := by
    have := ha.max
    have := ha.cap
    simp only [maxLen] at *
    omega
  go_enter Try.func27, Try.ntmps27
  go_wp2
  go_loopw [7] (fun v wr => ∃ k : Nat, k ≤ n ∧ v = .int .i64 (k : Int) ∧ Dr w wr) (fun v _ => n - (intOf v).toNat)
  case atStart => exact ⟨0, by omega, rfl, Dr.refl _⟩
  case round =>
    obtain ⟨k, hk, rfl, hdr⟩ := hrel
    rcases Nat.lt_or_ge k n with hlt | hge
    · obtain ⟨ad, u, rfl, hu, hc⟩ := (ha.dr hdr).at_ hlt
      obtain ⟨bd, v, rfl, hv, hd⟩ := (hb.dr hdr).at_ hlt
      rw [ints_get l k (by omega)] at hu hv
      injection hu with hu; injection hv with hv
      subst hu hv
      have h9 : (l[k] == l[k]) = true := by simp
      go_wp2
      go_quiet ((go_at_call 28; exact quiet_same (eqI_any _ _ _)))
      go_wp2
      go_roundw
      case rel => exact ⟨k + 1, by omega, by go_num, hdr.drewN _⟩
      case measure => simp [intOf]; omega
    · obtain rfl : k = n := by omega
      go_wp2
      go_ret
      exact ⟨rfl, hdr⟩

theorem plainI_any (A B : Option Addr) (n c d : Nat) (l : List Int) (w : World) (ha : Rd w A n c (ints l)) (hb : Rd w B n d (ints l)) :
    Calls Try.prog 16 #[.slice A n c, .slice B n d] w fun e w' => e = .returned (.bool true) ∧ Dr w w' := by
  go_enter Try.func16, Try.ntmps16
  go_wp2_with (go_at_call 27; refine (sameI_any _ _ _ _ _ _ _ ha hb).mono ?_; rintro e w' ⟨rfl, hdr⟩)
  go_ret
  exact ⟨rfl, hdr⟩

/-- comptoirhelp.Kept of bytes: a copy that Own made, as it was -/
theorem keptI_any (A : Option Addr) (g n c : Nat) (l : List Int) (f : Int) (w : World) (ha : Rd w A n c (ints l)) (hb : Bk w g 3 (ints (l ++ [f, f, f]))) (hn : n ≤ 65536) :
    Calls Try.prog 17 #[.slice (some ⟨g, 0, none⟩) n (n + 3), .slice A n c, .int .i64 f] w fun e w' => e = .returned (.bool true) ∧ Dr w w' := by
  have hl : l.length = n := by simpa using ha.len
  have hr : Rd w (some ⟨g, 0, none⟩) n (n + 3) (ints l) := by
    have := hb.rd (n := n) (cap := n + 3) (by omega) (by simp only [maxLen]; omega) (by simp; omega)
    have e : (ints (l ++ [f, f, f])).take n = ints l := by
      rw [ints_append, List.take_left' (by simpa using hl)]
    rwa [e] at this
  go_enter Try.func17, Try.ntmps17
  go_wp2_with (go_at_call 16; refine (plainI_any _ _ _ _ _ _ _ hr ha).mono ?_; rintro e w1 ⟨rfl, hdr⟩)
  go_loopw [8] (fun v wr => ∃ k : Nat, k ≤ 3 ∧ v = .int .i64 ((n + k : Nat) : Int) ∧ Dr w wr) (fun v _ => (n + 3) - (intOf v).toNat)
  case atStart => exact ⟨0, by omega, rfl, hdr⟩
  case round =>
    obtain ⟨k, hk, rfl, hdr1⟩ := hrel
    rcases Nat.lt_or_ge k 3 with hlt | hge
    · have hc : wr.cell? ⟨g, n + k, none⟩ = some (.int .i64 f) := by
        rw [hdr1.cell, hb.cell, ints_get _ _ (by simp; omega)]
        obtain rfl | rfl | rfl : k = 0 ∨ k = 1 ∨ k = 2 := by omega
        all_goals simp [← hl]
      go_wp2
      go_roundw
      case rel => exact ⟨k + 1, by omega, by go_num, hdr1⟩
      case measure => simp [intOf]; omega
    · obtain rfl : k = 3 := by omega
      go_wp2
      go_ret
      exact ⟨rfl, hdr1⟩

/-- append of numbers onto a row of the call's own -/
theorem apI (w : World) {ops : Array Oper} {rest : List Oper} {o : Oper} {a : Act} {Q : Exit → Act → World → Prop} (hgd : Region.wanted o (yielded ops a.tmps) = true) (s x : Operand)
    (ho : o.op = .call { callee := .builtin .append, args := #[s, x], argTypes := #[22, 22] })
    (base : Nat) (v : Value) (n : Nat) (l : List Int) (hs : a.eval s = v) (hown : w.ownsRow base 3 1 v n (ints l))
    (A : Option Addr) (m c : Nat) (k : List Int) (hx : a.eval x = .slice A m c) (hr : Rd w A m c (ints k)) (hb : n + m ≤ 17592186044416) (hbase : base ≤ w.heap.size)
    (h : ∀ v' w', w'.ownsRow base 3 1 v' (n + m) (ints (l ++ k)) → w.grownBy w' v.ownBlock → (v'.ownBlock = v.ownBlock ∨ v'.ownBlock = some w.heap.size) → wpList Try.prog ops Q rest (a.put o.dst v') w') :
    wpList Try.prog ops Q (o :: rest) a w := by
  obtain ⟨i, hi, hz, h1, h2⟩ := info_parts info_int
  refine wpList_append_rd w hgd s x 22 ho base 3 i (.int .i64 0) 8 Try.underlying22 hi hz h1 h2 rfl v n (ints l) hs hown A m c (ints k) hx hr (ints_one k) (by simp only [maxLen]; omega) (by omega) hbase ?_
  intro v' w' g1 g2 g3
  exact h v' w' (by rw [ints_append]; exact g1) g2 g3
/-- one number that was just laid in a block of its own -/
theorem Rd.oneI {w : World} (i : Int) (t : TypeId) : Rd (w.alloc (.cells #[.int .i64 i] t)) (some ⟨w.heap.size, 0, none⟩) 1 1 (ints [i]) :=
  (Bk.new w t #[.int .i64 i]).rd (n := 1) (cap := 1) (Nat.le_refl _) (by simp [maxLen]) (by simp)
theorem apI_one (w : World) {ops : Array Oper} {rest : List Oper} {o : Oper} {a : Act} {Q : Exit → Act → World → Prop} (hgd : Region.wanted o (yielded ops a.tmps) = true) (s x : Operand)
    (ho : o.op = .call { callee := .builtin .append, args := #[s, x], argTypes := #[22, 22] })
    (base : Nat) (v : Value) (n : Nat) (l : List Int) (hs : a.eval s = v) (hown : w.ownsRow base 3 1 v n (ints l)) (i : Int) (t : TypeId)
    (hx : a.eval x = .slice (some ⟨w.heap.size, 0, none⟩) 1 1) (hb : n + 1 ≤ 17592186044416) (hbase : base ≤ w.heap.size)
    (h : ∀ v' w', w'.ownsRow base 3 1 v' (n + 1) (ints (l ++ [i])) → (w.alloc (.cells #[.int .i64 i] t)).grownBy w' v.ownBlock → (v'.ownBlock = v.ownBlock ∨ v'.ownBlock = some (w.heap.size + 1)) → wpList Try.prog ops Q rest (a.put o.dst v') w') :
    wpList Try.prog ops Q (o :: rest) a (w.alloc (.cells #[.int .i64 i] t)) := by
  refine apI _ hgd s x ho base v n l hs (hown.alloc _) _ 1 1 [i] hx (Rd.oneI i t) hb (by simp; omega) ?_
  intro v' w' h1 h2 h3
  exact h v' w' h1 h2 (by simpa using h3)

/-- is it among these? -/
def hasI (l : List Int) (x : Int) : Bool := l.contains x
/-- comptoirhelp.In of numbers -/
theorem in_any (A : Option Addr) (n c : Nat) (l : List Int) (x : Int) (w : World) (ha : Rd w A n c (ints l)) (hn : n ≤ 9223372036854775806) :
    Calls Try.prog 26 #[.slice A n c, .int .i64 x] w fun e w' => e = .returned (.bool (hasI l x)) ∧ w = w' := by
  have hl : l.length = n := by simpa using ha.len
  have HL := Lib.hid hl
  clear hl
  go_enter Try.func26, Try.ntmps26
  go_wp2
  go_loop [5] (fun i => ∃ k : Nat, k ≤ n ∧ i = .int .i64 (k : Int) ∧ (l.take k).contains x = false) (fun i => n - (intOf i).toNat)
  case atStart => exact ⟨0, Nat.zero_le _, rfl, rfl⟩
  case round =>
    obtain ⟨k, hk, rfl, hno⟩ := hrel
    have HNO := Lib.hid hno
    clear hno
    rcases Nat.lt_or_ge k n with hlt | hge
    · have hlk : k < l.length := by have := HL.out; omega
      obtain ⟨ad, u, rfl, hu, hc⟩ := ha.at_ hlt
      rw [ints_get l k hlk] at hu
      injection hu with hu
      subst hu
      have hts := List.take_succ_eq_append_getElem hlk
      have HTS := Lib.hid hts
      have hmem : l[k] ∈ l := List.getElem_mem _
      have HM := Lib.hid hmem
      generalize l[k] = y at hc HTS HM
      clear hts hmem
      by_cases hy : y = x
      · have hb : (y == x) = true := by simpa using hy
        have hres : hasI l x = true := by unfold hasI; rw [List.contains_iff_mem, ← hy]; exact HM.out
        have HRES := Lib.hid hres
        clear hy hres
        go_wp2
        go_ret
        exact ⟨by rw [HRES.out]; rfl, rfl⟩
      · have hb : (y == x) = false := by simpa using hy
        have hno2 : (l.take (k + 1)).contains x = false := by
          rw [HTS.out, List.contains_append, HNO.out, Bool.false_or]
          simp only [List.contains_cons, List.contains_nil, Bool.or_false, beq_eq_false_iff_ne]
          exact fun e => hy e.symm
        have HN2 := Lib.hid hno2
        clear hy hno2
        go_wp2
        go_round
        case rel => exact ⟨k + 1, by omega, by go_num, HN2.out⟩
        case measure => simp [intOf]; omega
    · obtain rfl : k = n := by omega
      have hres : hasI l x = false := by
        unfold hasI
        have h1 := HNO.out
        rwa [List.take_of_length_le (by have := HL.out; omega)] at h1
      have HRES := Lib.hid hres
      clear hres
      go_wp2
      go_ret
      exact ⟨by rw [HRES.out]; rfl, rfl⟩
end Go.Proofs.Ytcjfikeephbceaa
