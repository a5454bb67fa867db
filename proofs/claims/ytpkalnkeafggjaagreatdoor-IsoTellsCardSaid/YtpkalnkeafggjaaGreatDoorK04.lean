/- The texts ElmItems, DigMath, joined. -/
import Derived.Test.YtpkalnkeafggjaaGreatDoorK03
import Derived.LoopTactic
import Derived.Lib.QuietBelow
import Derived.Test.YtpkalnkeafggjaaGreatDoorK01
import Derived.Lib.ItoaNum
/- Rows of data elements: append onto one's own, alike ones held against each other. -/
namespace Go.Proofs.YtpkalnkeafggjaaGreatDoor
open Go.RowKit
set_option maxHeartbeats 1000000
set_option linter.unusedVariables false
set_option maxRecDepth 20000

theorem info_elm : (Tryz.prog.info? 40).map (fun i => (i.zero, i.size, i.bytes)) = some (some (.agg #[.int .i64 0, .slice none 0 0]), 2, 32) := by kernel_rfl
theorem elmSize (a b : Value) : (Tryz.prog.info? 40).map (·.size) = some [a, b].length := by kernel_rfl
/-- one more element, just laid in a block of its own -/
theorem ap_elm1 (u : World) {ops : Array Oper} {rest : List Oper} {o : Oper} {a : Act} {Q : Exit → Act → World → Prop} (hgd : Region.wanted o (yielded ops a.tmps) = true) (s x : Operand)
    (ho : o.op = .call { callee := .builtin .append, args := #[s, x], argTypes := #[23, 23] })
    (base : Nat) (v : Value) (n : Nat) (ls : List (Int × List UInt8)) (N M : Nat → Prop) (hs : a.eval s = v) (hown : OwnI 2 TagI u base 40 N v n ls) (tg : Int × List UInt8) (cs : List Value) (htg : TagI u M cs tg) (t : TypeId)
    (bk : Nat) (hbk : u.heap.size = bk) (hx : a.eval x = .slice (some ⟨bk, 0, none⟩) 1 1) (hb : n + 1 ≤ 1000000000) (hbase : base ≤ u.heap.size)
    (hN : ∀ i, N i → v.ownBlock ≠ some i) (hM : ∀ i, M i → v.ownBlock ≠ some i)
    (h : ∀ v' w', OwnI 2 TagI w' base 40 (fun i => N i ∨ M i) v' (n + 1) (ls ++ [tg]) → (u.alloc (.cells cs.toArray t)).grownBy w' v.ownBlock → (v'.ownBlock = v.ownBlock ∨ v'.ownBlock = some (u.heap.size + 1)) → wpList Tryz.prog ops Q rest (a.put o.dst v') w') :
    wpList Tryz.prog ops Q (o :: rest) a (u.alloc (.cells cs.toArray t)) := by
  subst hbk
  obtain ⟨i, hi, hz, h1, h2⟩ := info_parts info_elm
  have hfa : Fr No u (u.alloc (.cells cs.toArray t)) := (Fr.refl No u).alloc _
  have ho1 : OwnI 2 TagI (u.alloc (.cells cs.toArray t)) base 40 (fun i => N i ∨ M i) v n ls := (hown.no tag_ok hfa).mono tag_ok (fun _ x => .inl x)
  have hcl := tag_ok.len htg
  refine apI2 _ tag_ok (by omega) hgd s x 23 ho base 40 i _ 32 Tryz.underlying23 hi hz h1 h2 rfl v n ls [tg] hs ho1 _ 1 1 hx cs (RdS.lit u cs t 1 (by simpa using hcl) (by simp [maxLen])) (ItemsF.single (tag_ok.mono (tag_ok.fr htg hfa (fun _ _ x => x)) (fun _ x => .inr x))) (by simp only [maxLen]; omega) (by omega) (by simp; omega) (fun i hi => by rcases hi with hi | hi; exact hN i hi; exact hM i hi) ?_
  intro v' w' g1 g2 g3
  exact h v' w' g1 g2 (by simpa using g3)
/-- elements' cells behind elements' cells, as one step of a region that draws its order -/
theorem stepE {ops : Array Oper} {o : Oper} {a : Act} {w : World} {K : Act → World → Prop} {Q : Exit → Act → World → Prop} {E : Prop} (hgd : Region.wanted o (yielded ops a.tmps) = true) (s x : Operand)
    (ho : o.op = .call { callee := .builtin .append, args := #[s, x], argTypes := #[23, 23] })
    (base : Nat) (v : Value) (n : Nat) (xs : List Value) (hs : a.eval s = v) (hown : w.ownsRow base 40 2 v n xs)
    (A : Option Addr) (m c : Nat) (news : List Value) (hx : a.eval x = .slice A m c) (hr : RdS w 2 A m c news) (h1 : ∀ u ∈ news, u.oneCell' = true) (hb : n + m ≤ 1000000) (hbase : base ≤ w.heap.size)
    (h : ∀ A' c' w', w'.ownsRow base 40 2 (.slice A' (n + m) c') (n + m) (xs ++ news) → w.grownBy w' v.ownBlock → ((Value.slice A' (n + m) c').ownBlock = v.ownBlock ∨ (Value.slice A' (n + m) c').ownBlock = some w.heap.size) → K (a.put o.dst (.slice A' (n + m) c')) w') :
    if Region.wanted o (yielded ops a.tmps) = true then Oper.wp Tryz.prog o a w K Q else E := by
  rw [if_pos hgd]
  obtain ⟨i, hi, hz, h2, h3⟩ := info_parts info_elm
  obtain ⟨v', w', hrun, g1, g2, g3⟩ := run_append_rdS (P := Tryz.prog) w base 23 o.type 40 i _ 2 32 Tryz.underlying23 hi hz h2 h3 rfl (by omega) v n xs hown A m c news hr h1 (by simp only [maxLen]; omega) (by omega) hbase
  unfold Oper.wp execOp
  simp only [ho, resolve, invoke, builtin, Sem.run_bind, Sem.run_pure, Result.andThen_ok, List.map_toArray, List.map_cons, List.map_nil, hs, hx, hrun]
  obtain ⟨A', c', rfl, -⟩ := RdS.of_own g1
  exact h A' c' w' g1 g2 g3
/-- one more element, just laid in a block of its own, as one step of a region that draws its order -/
theorem stepE1 (u W : World) {ops : Array Oper} {o : Oper} {a : Act} {K : Act → World → Prop} {Q : Exit → Act → World → Prop} {E : Prop} (hgd : Region.wanted o (yielded ops a.tmps) = true) (s x : Operand)
    (ho : o.op = .call { callee := .builtin .append, args := #[s, x], argTypes := #[23, 23] })
    (base : Nat) (v : Value) (n : Nat) (ls : List (Int × List UInt8)) (N M : Nat → Prop) (hs : a.eval s = v) (hown : OwnI 2 TagI u base 40 N v n ls) (tg : Int × List UInt8) (cs : List Value) (htg : TagI u M cs tg) (t : TypeId) (hW : Fr No (u.alloc (.cells cs.toArray t)) W) (hWz : W.heap.size = u.heap.size + 1)
    (bk : Nat) (hbk : u.heap.size = bk) (hx : a.eval x = .slice (some ⟨bk, 0, none⟩) 1 1) (hb : n + 1 ≤ 1000000) (hbase : base ≤ u.heap.size)
    (hN : ∀ i, N i → v.ownBlock ≠ some i) (hM : ∀ i, M i → v.ownBlock ≠ some i)
    (h : ∀ A' c' w', OwnI 2 TagI w' base 40 (fun i => N i ∨ M i) (.slice A' (n + 1) c') (n + 1) (ls ++ [tg]) → W.grownBy w' v.ownBlock → ((Value.slice A' (n + 1) c').ownBlock = v.ownBlock ∨ (Value.slice A' (n + 1) c').ownBlock = some (u.heap.size + 1)) → K (a.put o.dst (.slice A' (n + 1) c')) w') :
    if Region.wanted o (yielded ops a.tmps) = true then Oper.wp Tryz.prog o a W K Q else E := by
  subst hbk
  have hfa : Fr No u (u.alloc (.cells cs.toArray t)) := (Fr.refl No u).alloc _
  have hfW : Fr No u W := hfa.trans hW
  have ho1 : OwnI 2 TagI W base 40 (fun i => N i ∨ M i) v n ls := (hown.no tag_ok hfW).mono tag_ok (fun _ x => .inl x)
  have hcl := tag_ok.len htg
  obtain ⟨xs, hov, hxe⟩ := ho1.xs
  have hse : ItemsF TagI W (fun i => N i ∨ M i) cs [tg] := ItemsF.single (tag_ok.mono (tag_ok.fr htg hfW (fun _ _ x => x)) (fun _ x => .inr x))
  have hcs : RdS W 2 (some ⟨u.heap.size, 0, none⟩) 1 1 cs := (RdS.lit u cs t 1 (by simpa using hcl) (by simp [maxLen])).fr hW (fun _ _ x => x)
  refine stepE hgd s x ho base v n xs hs hov _ 1 1 cs hx hcs (tag_ok.one htg) hb (by omega) ?_
  intro A' c' w' g1 g2 g3
  have hf : Fr (fun k => v.ownBlock = some k) W w' := (Fr.refl _ _).grown g2 (fun g e => .inl e)
  refine h A' c' w' ⟨⟨xs ++ cs, g1, ItemsF.fr tag_ok (ItemsF.app hxe hse) hf (fun k hk e => ?_)⟩⟩ g2 (by rw [← hWz]; exact g3)
  rcases hk with hk | hk
  · exact hN k hk e
  · exact hM k hk e
theorem eqE_any (t : Int) (A B : Option Addr) (n c d : Nat) (l : List UInt8) (w : World) (ha : Rd w A n c (u8s l)) (hb : Rd w B n d (u8s l)) :
    Calls Tryz.prog 32 #[.agg #[.int .i64 t, .slice A n c], .agg #[.int .i64 t, .slice B n d]] w fun e w' => e = .returned (.bool true) ∧ Below w.heap.size w w' := by
  have hp := fun u (hf : Fr No w u) => bytes_any A B n c n d l l u (ha.no hf) (hb.no hf)
  rw [show (l == l) = true by simp] at hp
  have HP := Lib.hid hp
  clear hp ha hb
  go_enter Tryz.func32, Tryz.ntmps32
  go_wp2_with (go_at_call 13; refine (HP.out _ (((Fr.refl No w).alloc _).alloc _)).mono ?_; rintro e w1 ⟨rfl, rfl⟩)
  go_ret
  exact ⟨rfl, ((((Fr.refl No w).alloc _).alloc _)).toBelow⟩
theorem sameE_any (A B : Option Addr) (n c d : Nat) (l : List (Int × List UInt8)) (N M : Nat → Prop) (w : World) (ha : RdI 2 TagI w N A n c l) (hb : RdI 2 TagI w M B n d l) :
    Calls Tryz.prog 31 #[.slice A n c, .slice B n d, .func (.func 32) #[] #[]] w fun e w' => e = .returned (.bool true) ∧ Fr No w w' := by
  have hn := ha.len tag_ok (by omega)
  have hm := ha.top
  go_enter Tryz.func31, Tryz.ntmps31
  go_wp2
  go_loopw [7] (fun v wr => ∃ k : Nat, k ≤ n ∧ v = .int .i64 (k : Int) ∧ Fr No w wr) (fun v _ => n - (intOf v).toNat)
  case atStart => exact ⟨0, by omega, rfl, Fr.refl _ _⟩
  case round =>
    obtain ⟨k, hk, rfl, hdr⟩ := hrel
    rcases Nat.lt_or_ge k n with hlt | hge
    · have hkl : k < l.length := by omega
      obtain ⟨ad, cs, rfl, ⟨A1, n1, x1, rfl, hA1, -, -, -⟩, hc⟩ := (ha.no tag_ok hdr).at_ tag_ok (by omega) (i := k) hkl
      obtain ⟨bd, ds, rfl, ⟨B1, m1, y1, rfl, hB1, -, -, -⟩, hd⟩ := (hb.no tag_ok hdr).at_ tag_ok (by omega) (i := k) hkl
      have e1 := hA1.len
      have e2 := hB1.len
      rw [u8s_length] at e1 e2
      obtain rfl : m1 = n1 := by omega
      have c0 := hc 0 _ rfl; have c1 := hc 1 _ rfl
      have d0 := hd 0 _ rfl; have d1 := hd 1 _ rfl
      rw [tag_next ad] at c1
      rw [tag_next bd] at d1
      obtain ⟨P, hP⟩ : ∃ P, ad.add (k * 2) = P := ⟨_, rfl⟩
      obtain ⟨Q, hQ⟩ : ∃ Q, bd.add (k * 2) = Q := ⟨_, rfl⟩
      rw [Nat.add_zero, hP] at c0
      rw [Nat.add_zero, hQ] at d0
      rw [hP] at c1
      rw [hQ] at d1
      have heq := fun u (hf : Fr No wr u) => eqE_any l[k].1 A1 B1 m1 x1 y1 l[k].2 u (hA1.no hf) (hB1.no hf)
      generalize l[k].1 = K at c0 d0 heq
      have HEQ := Lib.hid heq
      have q0 := fun x os => cell_regrown c0 x os; have q1 := fun x os => cell_regrown c1 x os
      have r0 := fun x os => cell_regrown d0 x os; have r1 := fun x os => cell_regrown d1 x os
      clear hc hd heq c0 c1 d0 d1 e1 e2 hA1 hB1
      go_wp2
      refine wp_region_quiet_below (by kernel_rfl) (by kernel_rfl) ?_
      repeat (quiet_step ((go_at_call 32; exact Calls.regrown_of (HEQ.out _ (Fr.of_below (below_regrown wr _ _))))))
      refine wpQuiet_nil ?_
      intro w7 hw7r
      obtain ⟨⟨nr, osr⟩, hw7r⟩ := hw7r
      have hf7 : Fr No wr w7 := by rw [hw7r]; exact Fr.of_below (below_regrown wr nr osr)
      clear hw7r
      go_wp2
      go_roundw
      case rel => exact ⟨k + 1, by omega, by go_num, hdr.trans hf7⟩
      case measure => simp [intOf]; omega
    · obtain rfl : k = n := by omega
      go_wp2
      go_ret
      exact ⟨rfl, hdr⟩
end Go.Proofs.YtpkalnkeafggjaaGreatDoor
/- Digits of texts, halves of bytes, and signs, as plain functions on lists of bytes, and what follows of them: no program. -/
namespace Go.Proofs.YtpkalnkeafggjaaGreatDoor
set_option linter.unusedVariables false

/-- a digit -/
def isD (c : UInt8) : Bool := decide (48 ≤ c.toNat) && decide (c.toNat ≤ 57)
/-- a sign of sixteen -/
def isH (c : UInt8) : Bool := isD c || (decide (65 ≤ c.toNat) && decide (c.toNat ≤ 70))
/-- what a sign stands for -/
def half (c : UInt8) : UInt8 := if isD c then c - 48 else c - 65 + 10
/-- the sign of a half -/
def sg (x : UInt8) : UInt8 := if x.toNat ≤ 9 then 48 + x else 55 + x
/-- from low to top bytes, each a digit -/
def rightB (l : List UInt8) (low top : Int) : Bool := decide (low ≤ (l.length : Int)) && (decide ((l.length : Int) ≤ top) && l.all isD)
/-- the number that digits tell -/
def numV (l : List UInt8) : Nat := l.foldl (fun v c => 10 * v + (half c).toNat) 0
/-- a byte of two signs -/
def pr (a b : UInt8) : UInt8 := half a <<< 4 ||| half b
/-- a byte of every two signs -/
def pairL : List UInt8 → List UInt8
  | a :: b :: r => pr a b :: pairL r
  | _ => []
/-- a nought ahead, if their number is odd -/
def evenL (l : List UInt8) : List UInt8 := if l.length % 2 = 1 then 48 :: l else l
/-- two signs a byte -/
def hexL : List UInt8 → List UInt8
  | [] => []
  | x :: r => sg (x >>> 4) :: sg (x &&& 15) :: hexL r

theorem isD_true {c : UInt8} : isD c = true ↔ 48 ≤ c.toNat ∧ c.toNat ≤ 57 := by simp [isD]
theorem isD_mk {c : UInt8} (h1 : 48 ≤ c.toNat) (h2 : c.toNat ≤ 57) : isD c = true := isD_true.2 ⟨h1, h2⟩
theorem isD_false {c : UInt8} (h : c.toNat < 48 ∨ 57 < c.toNat) : isD c = false := by
  rw [Bool.eq_false_iff]
  intro e
  have := isD_true.1 e
  omega
theorem half_digit {c : UInt8} (h : isD c = true) : (half c).toNat = c.toNat - 48 := by
  have h1 := isD_true.1 h
  have h3 : (48 : UInt8) ≤ c := by rw [UInt8.le_iff_toNat_le]; exact h1.1
  unfold half
  rw [if_pos h, UInt8.toNat_sub_of_le _ _ h3]
  rfl

theorem pairL_length : ∀ l : List UInt8, (pairL l).length = l.length / 2
  | [] => rfl
  | [_] => by simp [pairL]
  | a :: b :: r => by
    simp only [pairL, List.length_cons, pairL_length r]
    omega
/-- one byte more -/
theorem pairL_snoc : ∀ (k : Nat) (l : List UInt8) (a b : UInt8), l[2 * k]? = some a → l[2 * k + 1]? = some b → pairL (l.take (2 * (k + 1))) = pairL (l.take (2 * k)) ++ [pr a b]
  | 0, x :: y :: r, a, b, h1, h2 => by
    simp only [Nat.mul_zero, List.getElem?_cons_zero, Nat.zero_add, List.getElem?_cons_succ, Option.some.injEq] at h1 h2
    subst h1 h2
    simp [pairL]
  | k + 1, x :: y :: r, a, b, h1, h2 => by
    rw [show 2 * (k + 1) = 2 * k + 1 + 1 from by omega] at h1 h2
    simp only [List.getElem?_cons_succ] at h1 h2
    have ih := pairL_snoc k r a b h1 h2
    rw [show 2 * (k + 1 + 1) = 2 * (k + 1) + 1 + 1 from by omega, show 2 * (k + 1) = 2 * k + 1 + 1 from by omega]
    rw [show 2 * (k + 1) = 2 * k + 1 + 1 from by omega] at ih
    simp only [List.take_succ_cons, pairL, List.cons_append, List.cons.injEq, true_and] at ih ⊢
    exact ih
  | k, [], a, b, h1, h2 => by simp at h1
  | k, [x], a, b, h1, h2 => by simp at h2
theorem hexL_length : ∀ l : List UInt8, (hexL l).length = 2 * l.length
  | [] => rfl
  | x :: r => by simp only [hexL, List.length_cons, hexL_length r]; omega
theorem hexL_append : ∀ l m : List UInt8, hexL (l ++ m) = hexL l ++ hexL m
  | [], m => rfl
  | x :: r, m => by simp [hexL, hexL_append r m]
theorem evenL_even (l : List UInt8) : (evenL l).length % 2 = 0 := by
  unfold evenL
  split
  · simp; omega
  · omega
theorem evenL_length (l : List UInt8) : (evenL l).length = 2 * ((l.length + 1) / 2) := by
  unfold evenL
  split
  · simp; omega
  · omega

/-! ### there and back -/
theorem byte_all (p : UInt8 → Bool) (h : ∀ i : Fin 256, p (UInt8.ofNat i.val) = true) (c : UInt8) : p c = true := by
  have := h ⟨c.toNat, c.toNat_lt⟩
  simpa using this
theorem pr_sg (x : UInt8) : pr (sg (x >>> 4)) (sg (x &&& 15)) = x := by
  have := byte_all (fun x => pr (sg (x >>> 4)) (sg (x &&& 15)) == x) (by decide +kernel) x
  simpa using this
theorem isH_sg (x : UInt8) : isH (sg (x >>> 4)) = true ∧ isH (sg (x &&& 15)) = true := by
  have := byte_all (fun x => isH (sg (x >>> 4)) && isH (sg (x &&& 15))) (by decide +kernel) x
  simpa using this
theorem pairL_hexL : ∀ l : List UInt8, pairL (hexL l) = l
  | [] => rfl
  | x :: r => by simp [hexL, pairL, pr_sg, pairL_hexL r]
theorem hexL_isH : ∀ l : List UInt8, (hexL l).all isH = true
  | [] => rfl
  | x :: r => by simp only [hexL, List.all_cons, isH_sg x, hexL_isH r, Bool.and_self]
theorem sg_pr_fin : ∀ i j : Fin 10, sg (pr (UInt8.ofNat (48 + i.val)) (UInt8.ofNat (48 + j.val)) >>> 4) = UInt8.ofNat (48 + i.val) ∧ sg (pr (UInt8.ofNat (48 + i.val)) (UInt8.ofNat (48 + j.val)) &&& 15) = UInt8.ofNat (48 + j.val) := by decide +kernel
theorem isD_form {c : UInt8} (h : isD c = true) : ∃ i : Fin 10, c = UInt8.ofNat (48 + i.val) := by
  have h1 := isD_true.1 h
  refine ⟨⟨c.toNat - 48, by omega⟩, ?_⟩
  apply UInt8.toNat_inj.1
  rw [UInt8.toNat_ofNat']
  simp only
  omega
theorem sg_pr {a b : UInt8} (ha : isD a = true) (hb : isD b = true) : sg (pr a b >>> 4) = a ∧ sg (pr a b &&& 15) = b := by
  obtain ⟨i, rfl⟩ := isD_form ha
  obtain ⟨j, rfl⟩ := isD_form hb
  exact sg_pr_fin i j
theorem hexL_pairL : ∀ l : List UInt8, l.length % 2 = 0 → l.all isD = true → hexL (pairL l) = l
  | [], _, _ => rfl
  | [_], h, _ => by simp at h
  | a :: b :: r, h, hd => by
    simp only [List.all_cons, Bool.and_eq_true] at hd
    simp only [pairL, hexL, sg_pr hd.1 hd.2.1, hexL_pairL r (by simp at h; omega) hd.2.2]
theorem evenL_all {l : List UInt8} (h : l.all isD = true) : (evenL l).all isD = true := by
  unfold evenL
  split
  · rw [List.all_cons, h]
    decide
  · exact h
end Go.Proofs.YtpkalnkeafggjaaGreatDoor
