/- The texts HelpInt, BmProg, joined. -/
import Derived.Test.YtpkalnkeafggjaaGreatDoorK03
import Derived.Test.YtpkalnkeafggjaaGreatDoorK11
import Derived.Test.YtpkalnkeafggjaaGreatDoorK08
/- What the helpers of the statements do with numbers (a copy with room behind it, and whether it is as it was; two lists held against each other; one among some): contracts, for every list of numbers within a slice's length. -/
namespace Go.Proofs.YtpkalnkeafggjaaGreatDoor
open Go.RowKit
set_option maxHeartbeats 400000
set_option linter.unusedVariables false
set_option maxRecDepth 20000

/-- numbers as cells -/
def ints (l : List Int) : List Value := l.map (Value.int .i64)
@[simp] theorem ints_length (l : List Int) : (ints l).length = l.length := by simp [ints]
theorem ints_get (l : List Int) (k : Nat) (h : k < l.length) : (ints l)[k]? = some (.int .i64 l[k]) := by simp [ints, h]
theorem ints_append (l m : List Int) : ints (l ++ m) = ints l ++ ints m := by simp [ints]
theorem ints_one (l : List Int) : ∀ u ∈ ints l, u.oneCell' = true := by
  intro u hu
  simp only [ints, List.mem_map] at hu
  obtain ⟨b, _, rfl⟩ := hu
  rfl
theorem info_int : (Tryz.prog.info? 3).map (fun i => (i.zero, i.size, i.bytes)) = some (some (.int .i64 0), 1, 8) := by kernel_rfl

theorem ownI_step (l : List Int) (f : Int) (k : Nat) (hk : k < 3) :
    (ints (l ++ List.replicate k f ++ List.replicate (3 - k) 0)).set (l.length + k) (.int .i64 f) = ints (l ++ List.replicate (k + 1) f ++ List.replicate (3 - (k + 1)) 0) := by
  obtain rfl | rfl | rfl : k = 0 ∨ k = 1 ∨ k = 2 := by omega
  all_goals simp [ints, List.replicate]

theorem ownI_get (l : List Int) (f : Int) (k : Nat) (hk : k < 3) :
    ∃ u, (ints (l ++ List.replicate k f ++ List.replicate (3 - k) 0))[l.length + k]? = some u := by
  rw [List.getElem?_eq_getElem (by simp; omega)]
  exact ⟨_, rfl⟩

/-- what Own made reads as what it was made of -/
theorem ownI_rd0 {w : World} {g n : Nat} {l : List Int} {f : Int} {t : TypeId} (hb : Bk w g t (ints (l ++ [f, f, f]))) (hl : (ints l).length = n) (hn : n ≤ 65536) : Rd w (some ⟨g, 0, none⟩) n (n + 3) (ints l) := by
  rw [ints_length] at hl
  have := hb.rd (n := n) (cap := n + 3) (by omega) (by simp only [maxLen]; omega) (by simp; omega)
  have e : (ints (l ++ [f, f, f])).take n = ints l := by
    rw [ints_append, List.take_left' (by simpa using hl)]
  rwa [e] at this
theorem ownI_rd {w w' : World} {g n : Nat} {l : List Int} {f : Int} {t : TypeId} (hb : Bk w g t (ints (l ++ [f, f, f]))) (hf : Fr No w w') (hl : (ints l).length = n) (hn : n ≤ 65536) : Rd w' (some ⟨g, 0, none⟩) n (n + 3) (ints l) :=
  ownI_rd0 (hb.no hf) hl hn

/-- append of numbers onto a row of the call's own -/
theorem apI (w : World) {ops : Array Oper} {rest : List Oper} {o : Oper} {a : Act} {Q : Exit → Act → World → Prop} (hgd : Region.wanted o (yielded ops a.tmps) = true) (s x : Operand)
    (ho : o.op = .call { callee := .builtin .append, args := #[s, x], argTypes := #[45, 45] })
    (base : Nat) (v : Value) (n : Nat) (l : List Int) (hs : a.eval s = v) (hown : w.ownsRow base 3 1 v n (ints l))
    (A : Option Addr) (m c : Nat) (k : List Int) (hx : a.eval x = .slice A m c) (hr : Rd w A m c (ints k)) (hb : n + m ≤ 17592186044416) (hbase : base ≤ w.heap.size)
    (h : ∀ v' w', w'.ownsRow base 3 1 v' (n + m) (ints (l ++ k)) → w.grownBy w' v.ownBlock → (v'.ownBlock = v.ownBlock ∨ v'.ownBlock = some w.heap.size) → wpList Tryz.prog ops Q rest (a.put o.dst v') w') :
    wpList Tryz.prog ops Q (o :: rest) a w := by
  obtain ⟨i, hi, hz, h1, h2⟩ := info_parts info_int
  refine wpList_append_rd w hgd s x 45 ho base 3 i (.int .i64 0) 8 Tryz.underlying45 hi hz h1 h2 rfl v n (ints l) hs hown A m c (ints k) hx hr (ints_one k) (by simp only [maxLen]; omega) (by omega) hbase ?_
  intro v' w' g1 g2 g3
  exact h v' w' (by rw [ints_append]; exact g1) g2 g3
/-- the same as one step of a region that draws its order ('go_region_law') -/
theorem stepI {ops : Array Oper} {o : Oper} {a : Act} {w : World} {K : Act → World → Prop} {Q : Exit → Act → World → Prop} {E : Prop} (hgd : Region.wanted o (yielded ops a.tmps) = true) (s x : Operand)
    (ho : o.op = .call { callee := .builtin .append, args := #[s, x], argTypes := #[45, 45] })
    (base : Nat) (v : Value) (n : Nat) (l : List Int) (hs : a.eval s = v) (hown : w.ownsRow base 3 1 v n (ints l))
    (A : Option Addr) (m c : Nat) (k : List Int) (hx : a.eval x = .slice A m c) (hr : Rd w A m c (ints k)) (hb : n + m ≤ 17592186044416) (hbase : base ≤ w.heap.size)
    (h : ∀ A' c' w', w'.ownsRow base 3 1 (.slice A' (n + m) c') (n + m) (ints (l ++ k)) → w.grownBy w' v.ownBlock → ((Value.slice A' (n + m) c').ownBlock = v.ownBlock ∨ (Value.slice A' (n + m) c').ownBlock = some w.heap.size) → K (a.put o.dst (.slice A' (n + m) c')) w') :
    if Region.wanted o (yielded ops a.tmps) = true then Oper.wp Tryz.prog o a w K Q else E := by
  rw [if_pos hgd]
  obtain ⟨i, hi, hz, h1, h2⟩ := info_parts info_int
  obtain ⟨v', w', hrun, g1, g2, g3⟩ := run_append_rd (P := Tryz.prog) w base 45 o.type 3 i (.int .i64 0) 8 Tryz.underlying45 hi hz h1 h2 rfl v n (ints l) hown A m c (ints k) hr (ints_one k) (by simp only [maxLen]; omega) (by omega) hbase
  unfold Oper.wp execOp
  simp only [ho, resolve, invoke, builtin, Sem.run_bind, Sem.run_pure, Result.andThen_ok, List.map_toArray, List.map_cons, List.map_nil, hs, hx, hrun]
  obtain ⟨A', c', rfl, -⟩ := Rd.of_own g1
  exact h A' c' w' (by rw [ints_append]; exact g1) g2 g3
/-- one number that was just laid in a block of its own -/
theorem Rd.oneI {w : World} (i : Int) (t : TypeId) : Rd (w.alloc (.cells #[.int .i64 i] t)) (some ⟨w.heap.size, 0, none⟩) 1 1 (ints [i]) :=
  (Bk.new w t #[.int .i64 i]).rd (n := 1) (cap := 1) (Nat.le_refl _) (by simp [maxLen]) (by simp)
theorem apI_one (w : World) {ops : Array Oper} {rest : List Oper} {o : Oper} {a : Act} {Q : Exit → Act → World → Prop} (hgd : Region.wanted o (yielded ops a.tmps) = true) (s x : Operand)
    (ho : o.op = .call { callee := .builtin .append, args := #[s, x], argTypes := #[45, 45] })
    (base : Nat) (v : Value) (n : Nat) (l : List Int) (hs : a.eval s = v) (hown : w.ownsRow base 3 1 v n (ints l)) (i : Int) (t : TypeId)
    (hx : a.eval x = .slice (some ⟨w.heap.size, 0, none⟩) 1 1) (hb : n + 1 ≤ 17592186044416) (hbase : base ≤ w.heap.size)
    (h : ∀ v' w', w'.ownsRow base 3 1 v' (n + 1) (ints (l ++ [i])) → (w.alloc (.cells #[.int .i64 i] t)).grownBy w' v.ownBlock → (v'.ownBlock = v.ownBlock ∨ v'.ownBlock = some (w.heap.size + 1)) → wpList Tryz.prog ops Q rest (a.put o.dst v') w') :
    wpList Tryz.prog ops Q (o :: rest) a (w.alloc (.cells #[.int .i64 i] t)) := by
  refine apI _ hgd s x ho base v n l hs (hown.alloc _) _ 1 1 [i] hx (Rd.oneI i t) hb (by simp; omega) ?_
  intro v' w' h1 h2 h3
  exact h v' w' h1 h2 (by simpa using h3)

/-- is it among these? -/
def hasI (l : List Int) (x : Int) : Bool := l.contains x
/-- comptoirhelp.In of numbers -/
theorem in_any (A : Option Addr) (n c : Nat) (l : List Int) (x : Int) (w : World) (ha : Rd w A n c (ints l)) (hn : n ≤ 9223372036854775806) :
    Calls Tryz.prog 44 #[.slice A n c, .int .i64 x] w fun e w' => e = .returned (.bool (hasI l x)) ∧ w = w' := by
  have hl : l.length = n := by simpa using ha.len
  have HL := Lib.hid hl
  clear hl
  go_enter Tryz.func44, Tryz.ntmps44
  go_wp2
  go_loop [5] (fun i => ∃ k : Nat, k ≤ n ∧ i = .int .i64 (k : Int) ∧ (l.take k).contains x = false) (fun i => n - (intOf i).toNat)
  case atStart => exact ⟨0, Nat.zero_le _, rfl, rfl⟩
  case round =>
    obtain ⟨k, hk, rfl, hno⟩ := hrel
    have HNO := Lib.hid hno
    clear hno
    rcases Nat.lt_or_ge k n with hlt | hge
    · have hlk : k < l.length := by have := HL.out; omega
      obtain ⟨ad, u, rfl, hu, hc⟩ := ha.at_ hlt
      rw [ints_get l k hlk] at hu
      injection hu with hu
      subst hu
      have hts := List.take_succ_eq_append_getElem hlk
      have HTS := Lib.hid hts
      have hmem : l[k] ∈ l := List.getElem_mem _
      have HM := Lib.hid hmem
      generalize l[k] = y at hc HTS HM
      clear hts hmem
      by_cases hy : y = x
      · have hb : (y == x) = true := by simpa using hy
        have hres : hasI l x = true := by unfold hasI; rw [List.contains_iff_mem, ← hy]; exact HM.out
        have HRES := Lib.hid hres
        clear hy hres
        go_wp2
        go_ret
        exact ⟨by rw [HRES.out]; rfl, rfl⟩
      · have hb : (y == x) = false := by simpa using hy
        have hno2 : (l.take (k + 1)).contains x = false := by
          rw [HTS.out, List.contains_append, HNO.out, Bool.false_or]
          simp only [List.contains_cons, List.contains_nil, Bool.or_false, beq_eq_false_iff_ne]
          exact fun e => hy e.symm
        have HN2 := Lib.hid hno2
        clear hy hno2
        go_wp2
        go_round
        case rel => exact ⟨k + 1, by omega, by go_num, HN2.out⟩
        case measure => simp [intOf]; omega
    · obtain rfl : k = n := by omega
      have hres : hasI l x = false := by
        unfold hasI
        have h1 := HNO.out
        rwa [List.take_of_length_le (by have := HL.out; omega)] at h1
      have HRES := Lib.hid hres
      clear hres
      go_wp2
      go_ret
      exact ⟨by rw [HRES.out]; rfl, rfl⟩
end Go.Proofs.YtpkalnkeafggjaaGreatDoor
/- What package bitmap does: contracts of its calls. -/
namespace Go.Proofs.YtpkalnkeafggjaaGreatDoor
open Go.RowKit
set_option maxHeartbeats 400000
set_option linter.unusedVariables false
set_option maxRecDepth 20000

/-- two halves as a value -/
def hvV (a b : Nat) : Value := .agg #[.int .u64 (a : Int), .int .u64 (b : Int)]

theorem place_any (n : Nat) (w : World) (h1 : 1 ≤ n) (h2 : n ≤ 128) :
    Calls Tryz.prog 77 #[.int .i64 (n : Int)] w fun e w' => w = w' ∧ ∃ U : Nat, U < 64 ∧ ((n ≤ 64 ∧ U = 64 - n ∧ e = .returned (.tuple #[.int .i64 0, .int .i64 (U : Int)])) ∨ (64 < n ∧ U = 128 - n ∧ e = .returned (.tuple #[.int .i64 1, .int .i64 (U : Int)]))) := by
  have e0 : (n : Int) - 1 = ((n - 1 : Nat) : Int) := by omega
  go_enter Tryz.func77, Tryz.ntmps77
  go_wp2
  go_ret2
  refine ⟨rfl, 63 - (n - 1) % 64, by omega, ?_⟩
  by_cases h : n ≤ 64
  · refine .inl ⟨h, by omega, ?_⟩
    show Ending.returned (.tuple #[.int .i64 _, .int .i64 _]) = _
    rw [show (((n - 1 : Nat) : Int) / 64) = 0 from by omega, show (63 - ((n - 1 : Nat) : Int) % 64) = ((63 - (n - 1) % 64 : Nat) : Int) from by omega]
  · refine .inr ⟨by omega, by omega, ?_⟩
    show Ending.returned (.tuple #[.int .i64 _, .int .i64 _]) = _
    rw [show (((n - 1 : Nat) : Int) / 64) = 1 from by omega, show (63 - ((n - 1 : Nat) : Int) % 64) = ((63 - (n - 1) % 64 : Nat) : Int) from by omega]

theorem has_any (a b n : Nat) (w : World) (ha : a < 18446744073709551616) (hb : b < 18446744073709551616) (h1 : 1 ≤ n) (h2 : n ≤ 128) :
    Calls Tryz.prog 62 #[hvV a b, .int .i64 (n : Int)] w fun e w' => e = .returned (.bool (hbit a b n)) ∧ Fr No w w' := by
  unfold hvV
  have b1 := one_bit a (64 - n) ha
  have b2 := one_bit b (128 - n) hb
  have B1 := Lib.hid b1; have B2 := Lib.hid b2
  clear b1 b2
  go_enter Tryz.func62, Tryz.ntmps62
  go_wp2_with (go_at_call 77; refine (place_any _ _ h1 h2).mono ?_; rintro e w' ⟨rfl, U, hU, (⟨hn, hUn, rfl⟩ | ⟨hn, hUn, rfl⟩)⟩)
  · go_ret
    refine ⟨ret_bool ?_, (Fr.refl No w).alloc _⟩
    unfold hbit
    rw [if_pos hn]
    exact B1.out
  · go_ret
    refine ⟨ret_bool ?_, (Fr.refl No w).alloc _⟩
    unfold hbit
    rw [if_neg (by omega)]
    exact B2.out

/-- what lies in a block of two halves -/
def hvL (a b : Nat) : List Value := [.int .u64 (a : Int), .int .u64 (b : Int)]

theorem set_any (g a b n : Nat) (w : World) (ha : a < 18446744073709551616) (hb2 : b < 18446744073709551616) (hb : Bk w g 98 (hvL a b)) (h1 : 1 ≤ n) (h2 : n ≤ 128) :
    Calls Tryz.prog 72 #[.pointer (some ⟨g, 0, none⟩), .int .i64 (n : Int)] w fun e w' => e = .returned (.tuple #[]) ∧ Fr (Just g) w w' ∧ Bk w' g 98 (hvL (setA a n) (setB b n)) := by
  go_enter Tryz.func72, Tryz.ntmps72
  go_wp2_with (go_at_call 77; refine (place_any _ _ h1 h2).mono ?_; rintro e w' ⟨rfl, U, hU, (⟨hn, hUn, rfl⟩ | ⟨hn, hUn, rfl⟩)⟩)
  all_goals
    refine wp_region_reads 10 (by kernel_rfl) (by kernel_rfl) ?_
    intro w4 hd
    simp only [List.take_succ_cons, List.take_zero, List.drop_succ_cons, List.drop_zero]
    have hb4 := hb.no hd.fr
    have c0 := hb4.cell 0
    have c1 := hb4.cell 1
    have f0 := hb4.frozen 0
    have f1 := hb4.frozen 1
    simp only [hvL, List.getElem?_cons_zero, List.getElem?_cons_succ] at c0 c1
    have HU := Lib.hid hUn
    clear hUn
    repeat still_step
    refine wpStill_nil ?_
    go_wp2
    go_end0
    refine ⟨rfl, hd.fr.setCell (.inl (Just.at g)) _, ?_⟩
  · have hs := hb4.set_ 0 (.int .u64 ((a ||| 2 ^ (64 - n) : Nat) : Int))
    rw [← or_u64 a (64 - n) ha (by omega)] at hs
    have e1 : setA a n = a ||| 2 ^ (64 - n) := by unfold setA; rw [if_pos hn]
    have e2 : setB b n = b := by unfold setB; rw [if_pos hn]
    rw [e1, e2]
    unfold hvL
    rw [← or_u64 a (64 - n) ha (by omega)]
    exact hs
  · have hs := hb4.set_ 1 (.int .u64 ((b ||| 2 ^ (128 - n) : Nat) : Int))
    rw [← or_u64 b (128 - n) hb2 (by omega)] at hs
    have e1 : setA a n = a := by unfold setA; rw [if_neg (by omega)]
    have e2 : setB b n = b ||| 2 ^ (128 - n) := by unfold setB; rw [if_neg (by omega)]
    rw [e1, e2]
    unfold hvL
    rw [← or_u64 b (128 - n) hb2 (by omega)]
    exact hs

theorem those_any (a b low high : Nat) (w : World) (ha : a < 18446744073709551616) (hb : b < 18446744073709551616) (h1 : 1 ≤ low) (h2 : low ≤ high) (h3 : high ≤ 128) :
    Calls Tryz.prog 64 #[.func (.func 62) #[hvV a b] #[], .int .i64 (low : Int), .int .i64 (high : Int)] w fun e w' => ∃ v, e = .returned v ∧
      w'.ownsRow w.heap.size 3 1 v (thoseK a b low (high + 1 - low)).length (ints (thoseK a b low (high + 1 - low))) ∧ Fr No w w' := by
  go_enter Tryz.func64, Tryz.ntmps64
  go_wp2
  go_loopw [7, 8] (fun v i wr => ∃ k : Nat, low + k ≤ high + 1 ∧ i = .int .i64 ((low + k : Nat) : Int) ∧ wr.ownsRow w.heap.size 3 1 v (thoseK a b low k).length (ints (thoseK a b low k)) ∧ Fr No w wr) (fun _ i _ => 130 - (intOf i).toNat)
  case atStart => exact ⟨0, by omega, rfl, World.ownsRow_nil _ _ _ _, Fr.refl _ _⟩
  case round =>
    obtain ⟨k, hk, rfl, ho, hf⟩ := hrel
    rcases Nat.lt_or_ge high (low + k) with hge | hlt
    · have e : high + 1 - low = k := by omega
      have E := Lib.hid e
      clear e
      go_wp2
      go_ret
      exact ⟨u7, rfl, by rw [E.out]; exact ho, hf⟩
    · have hlen := thoseK_len a b low k
      cases hh : hbit a b (low + k) with
      | true =>
        have hs := thoseK_yes a b low k hh
        have HS := Lib.hid hs
        have HH := Lib.hid hh
        clear hs hh
        go_wp2_with (first
          | (go_at_call 62; refine (has_any a b (low + k) _ ha hb (by omega) (by omega)).mono ?_; rw [HH.out]; rintro e w1 ⟨rfl, hf1⟩)
          | (at_builtin; go_must (refine apI_one w1 rfl (.tmp 18) (.tmp 20) rfl w.heap.size u7 _ _ rfl (hf1.own ho (fun _ _ x => x)) ((low + k : Nat) : Int) 3 rfl (by omega) (Nat.le_trans hf.size hf1.size) ?_); intro v2 w2 ho2 hg2 hr2))
        go_roundw
        case rel => exact ⟨k + 1, by omega, by go_num, by rw [HS.out, List.length_append]; exact ho2, ((hf.trans hf1).alloc _).grown hg2 (fun g e => .inr (ho.lt g e).1)⟩
        case measure => simp [intOf]; omega
      | false =>
        have hs := thoseK_no a b low k hh
        have HS := Lib.hid hs
        have HH := Lib.hid hh
        clear hs hh
        go_wp2_with (go_at_call 62; refine (has_any a b (low + k) _ ha hb (by omega) (by omega)).mono ?_; rw [HH.out]; rintro e w1 ⟨rfl, hf1⟩)
        go_roundw
        case rel => exact ⟨k + 1, by omega, by go_num, by rw [HS.out]; exact hf1.own ho (fun _ _ x => x), hf.trans hf1⟩
        case measure => simp [intOf]; omega
end Go.Proofs.YtpkalnkeafggjaaGreatDoor
