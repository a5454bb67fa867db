/- The texts SimMath, Help0, Dig0, Tests, joined. -/
import Derived.Test.YtbfodbejdaafaaaGreatDoorK02
import Derived.Test.YtbfodbejdaafaaaGreatDoorK01
import Derived.Laws.BitsLemmas
import Derived.IntWalk
/- Times and amounts, and what a type lets, as plain functions on lists of bytes, and what follows of them: no program. -/
namespace Go.Proofs.YtbfodbejdaafaaaGreatDoor
set_option linter.unusedVariables false

/-- a year with a day more -/
def leapB (y : Nat) : Bool := if y % 100 = 0 then decide (y % 400 = 0) else decide (y % 4 = 0)
def daysN (y m : Nat) : Nat := if m = 4 ∨ m = 6 ∨ m = 9 ∨ m = 11 then 30 else if m = 2 then (if leapB y then 29 else 28) else 31
def datedB (y m d : Nat) : Bool := decide (1 ≤ m ∧ m ≤ 12 ∧ 1 ≤ d ∧ d ≤ daysN y m)
def cutN (l : List UInt8) (i j : Nat) : List UInt8 := (l.drop i).take (j - i)
def prt (l : List UInt8) (i j : Nat) : Nat := numV (cutN l i j)
/-- a time -/
def timeP (y m d h n s : Nat) : Bool := decide (0 < y) && (datedB y m d && (decide (h < 24) && (decide (n < 60) && decide (s < 60))))
def timeB (l : List UInt8) : Bool := rightB l 14 14 && timeP (prt l 0 4) (prt l 4 6) (prt l 6 8) (prt l 8 10) (prt l 10 12) (prt l 12 14)
/-- as it is shown -/
def shownL (l : List UInt8) : List UInt8 := cutN l 0 4 ++ [45] ++ cutN l 4 6 ++ [45] ++ cutN l 6 8 ++ [84] ++ cutN l 8 10 ++ [58] ++ cutN l 10 12 ++ [58] ++ cutN l 12 14
def timeTextR (l : List UInt8) : List UInt8 := if timeB l then shownL l else []
def timeTextE (l : List UInt8) : Int := if timeB l then 0 else 14
/-- without its marks -/
def hidL (l : List UInt8) : List UInt8 := cutN l 0 4 ++ cutN l 5 7 ++ cutN l 8 10 ++ cutN l 11 13 ++ cutN l 14 16 ++ cutN l 17 19
def timeOfB (l : List UInt8) : Bool := decide (l.length = 19) && (timeB (hidL l) && decide (shownL (hidL l) = l))
def timeOfR (l : List UInt8) : List UInt8 := if timeOfB l then hidL l else []
def timeOfE (l : List UInt8) : Int := if timeOfB l then 0 else 14
/-- the hundredth of an amount -/
def twoL (v : Nat) : List UInt8 := [UInt8.ofNat (48 + v / 10), UInt8.ofNat (48 + v % 10)]
def amtL (v : Nat) : List UInt8 := Lib.decDigits (v / 100) ++ [46] ++ twoL (v % 100)
def amtR (v : Nat) : List UInt8 := if v ≤ 999999999999 then amtL v else []
def amtE (v : Nat) : Int := if v ≤ 999999999999 then 0 else 4
def amtV (l : List UInt8) : Nat := numV (l.filter isD)
def amtB (l : List UInt8) : Bool := decide (amtV l ≤ 999999999999) && decide (amtL (amtV l) = l)
def amtOfR (l : List UInt8) : Nat := if amtB l then amtV l else 0
def amtOfE (l : List UInt8) : Int := if amtB l then 0 else 14
/-- a capital -/
def capC (c : UInt8) : Bool := decide (65 ≤ c.toNat) && decide (c.toNat ≤ 90)
def codeB (l : List UInt8) : Bool := decide (l.length = 4) && l.all capC

theorem cutN_len (l : List UInt8) (i j : Nat) (h : j ≤ l.length) : (cutN l i j).length = j - i := by
  unfold cutN; rw [List.length_take, List.length_drop]; omega
theorem cutN_all {l : List UInt8} {p : UInt8 → Bool} (h : l.all p = true) (i j : Nat) : (cutN l i j).all p = true := by
  rw [List.all_eq_true] at h ⊢
  exact fun x hx => h x (List.mem_of_mem_drop (List.mem_of_mem_take hx))
/-- digits, from one to eighteen: their number -/
theorem num_digits {l : List UInt8} (h : l.all isD = true) (h1 : 1 ≤ l.length) (h2 : l.length ≤ 18) : numR l = numV l ∧ numE l = 0 := by
  have hr : rightB l 1 18 = true := by
    unfold rightB
    rw [h, decide_eq_true (by omega), decide_eq_true (by omega)]
    rfl
  exact ⟨by unfold numR; rw [if_pos hr], by unfold numE; rw [if_pos hr]⟩
theorem prt_lt {l : List UInt8} (h : l.all isD = true) (i j : Nat) (hj : j ≤ l.length) (h4 : j - i ≤ 4) : prt l i j < 10000 := by
  have h1 := numV_le (cutN_all h i j)
  rw [cutN_len l i j hj] at h1
  have h2 : 10 ^ (j - i) ≤ 10 ^ 4 := Nat.pow_le_pow_right (by decide) h4
  unfold prt
  omega

theorem two_wide (v : Nat) (h : v < 100) : textR v 2 = twoL v ∧ textE v 2 = 0 := by
  by_cases h1 : v < 10
  · have e : Lib.decDigits v = [UInt8.ofNat (48 + v)] := Lib.decDigits_one h1
    have he : textE v 2 = 0 := by unfold textE; rw [e]; simp
    refine ⟨?_, he⟩
    unfold textR
    rw [if_pos he]
    unfold wide twoL
    rw [e, show v / 10 = 0 from by omega, show v % 10 = v from by omega]
    rfl
  · have e := Lib.decDigits_two h1 h
    have he : textE v 2 = 0 := by unfold textE; rw [e]; simp
    refine ⟨?_, he⟩
    unfold textR
    rw [if_pos he]
    unfold wide twoL
    rw [e]
    rfl
theorem twoL_all (v : Nat) (h : v < 100) : (twoL v).all isD = true := by
  unfold twoL
  simp only [List.all_cons, List.all_nil, Bool.and_true, Bool.and_eq_true]
  exact ⟨isD_mk (by rw [UInt8.toNat_ofNat']; omega) (by rw [UInt8.toNat_ofNat']; omega), isD_mk (by rw [UInt8.toNat_ofNat']; omega) (by rw [UInt8.toNat_ofNat']; omega)⟩
theorem numV_app : ∀ (l m : List UInt8), numV (l ++ m) = numV l * 10 ^ m.length + numV m := by
  intro l m
  have hr : ∀ k : List UInt8, numV (l ++ k.reverse) = numV l * 10 ^ k.length + numV k.reverse := by
    intro k
    induction k with
    | nil => simp [numV]
    | cons c k ih =>
      rw [List.reverse_cons, ← List.append_assoc, numV_snoc, numV_snoc, ih, List.length_cons, Nat.pow_succ]
      have : 10 * (numV l * 10 ^ k.length + numV k.reverse) = numV l * (10 ^ k.length * 10) + 10 * numV k.reverse := by
        rw [Nat.mul_add, ← Nat.mul_assoc (numV l), Nat.mul_comm 10 (numV l * _)]
      omega
  simpa using hr m.reverse
theorem numV_two (v : Nat) (h : v < 100) : numV (twoL v) = v := by
  have := (two_wide v h).1
  rw [← this]
  unfold textR
  rw [if_pos (two_wide v h).2]
  exact numV_wide _ _
theorem numV_dig (v : Nat) : numV (Lib.decDigits (v / 100) ++ twoL (v % 100)) = v := by
  rw [numV_app, numV_dec, numV_two _ (by omega)]
  show v / 100 * 10 ^ 2 + v % 100 = v
  omega
theorem filter_all {l : List UInt8} (h : l.all isD = true) : l.filter isD = l := by
  rw [List.filter_eq_self]
  exact fun x hx => List.all_eq_true.1 h x hx
theorem amtV_amtL (v : Nat) : amtV (amtL v) = v := by
  unfold amtV amtL
  rw [List.filter_append, List.filter_append, filter_all (dec_all _), filter_all (twoL_all _ (by omega))]
  have : [46].filter isD = [] := by decide
  rw [this, List.append_nil, numV_dig]
/-- an amount as text is what it is made of -/
theorem amt_is {l : List UInt8} {v : Nat} (h : amtL v = l) : amtV l = v := by rw [← h, amtV_amtL]
theorem dec_length (v : Nat) (h : v ≤ 999999999999) : 1 ≤ (Lib.decDigits (v / 100)).length ∧ (Lib.decDigits (v / 100)).length ≤ 10 := by
  rw [Lib.decDigits_length]
  refine ⟨Lib.nDigits_pos _, ?_⟩
  have key : ∀ (k u : Nat), u < 10 ^ (k + 1) → Lib.nDigits u ≤ k + 1 := by
    intro k
    induction k with
    | zero => intro u hu; rw [Lib.nDigits_small (by omega)]; omega
    | succ k ih =>
      intro u hu
      by_cases h1 : u < 10
      · rw [Lib.nDigits_small h1]; omega
      · rw [Lib.nDigits_big h1]
        have := ih (u / 10) (by rw [Nat.pow_succ] at hu; omega)
        omega
  exact key 9 _ (by show v / 100 < 10000000000; omega)
theorem amtL_length (v : Nat) (h : v ≤ 999999999999) : (amtL v).length = (Lib.decDigits (v / 100)).length + 3 := by
  unfold amtL twoL; simp
theorem dot_not {c : UInt8} (h : isD c = true) : c ≠ 46 := by
  rintro rfl
  revert h
  decide
theorem take_digits {l r : List UInt8} (h : l.all isD = true) : (l ++ [46] ++ r).takeWhile (fun c => decide (c ≠ 46)) = l ∧ (l ++ [46] ++ r).dropWhile (fun c => decide (c ≠ 46)) = 46 :: r := by
  induction l with
  | nil => simp
  | cons a l ih =>
    simp only [List.all_cons, Bool.and_eq_true] at h
    obtain ⟨i1, i2⟩ := ih h.2
    have ha : decide (a ≠ 46) = true := by simpa using dot_not h.1
    simp only [List.cons_append, List.takeWhile_cons, List.dropWhile_cons, ha, if_true]
    exact ⟨by rw [i1], i2⟩
/-- as the program finds it: what is ahead of the dot, and behind it, is a number; told, it is the same -/
theorem amt_prog (l a b : List UInt8) (ha : a = l.takeWhile (fun c => decide (c ≠ 46))) (hb : b = (l.dropWhile (fun c => decide (c ≠ 46))).drop 1) :
    (amtB l = true → numE (a ++ b) = 0 ∧ numR (a ++ b) = amtV l ∧ amtR (amtV l) = l ∧ amtE (amtV l) = 0) ∧
    (numE (a ++ b) = 0 → amtE (numR (a ++ b)) = 0 → amtR (numR (a ++ b)) = l → amtB l = true) := by
  constructor
  · intro h
    unfold amtB at h
    simp only [Bool.and_eq_true, decide_eq_true_eq] at h
    obtain ⟨h1, h2⟩ := h
    obtain ⟨d1, d2⟩ := dec_length _ h1
    obtain ⟨v, hv⟩ : ∃ v, v = amtV l := ⟨_, rfl⟩
    rw [← hv] at h1 h2 d1 d2 ⊢
    unfold amtL at h2
    obtain ⟨t1, t2⟩ := take_digits (r := twoL (v % 100)) (dec_all (v / 100))
    rw [h2] at t1 t2
    rw [t1] at ha
    rw [t2] at hb
    have hb : b = twoL (v % 100) := hb
    obtain ⟨n1, n2⟩ := num_digits (l := a ++ b) (by rw [ha, hb, List.all_append, dec_all, twoL_all _ (by omega)]; rfl) (by rw [ha, List.length_append]; omega) (by rw [ha, hb, List.length_append]; show _ + 2 ≤ 18; omega)
    refine ⟨n2, ?_, ?_, ?_⟩
    · rw [n1, ha, hb, numV_dig]
    · unfold amtR; rw [if_pos h1]; exact h2
    · unfold amtE; rw [if_pos h1]
  · intro h1 h2 h3
    have hle : numR (a ++ b) ≤ 999999999999 := by
      unfold amtE at h2
      by_cases h : numR (a ++ b) ≤ 999999999999
      · exact h
      · rw [if_neg h] at h2; cases h2
    unfold amtR at h3
    rw [if_pos hle] at h3
    have := amt_is h3
    unfold amtB
    rw [this, decide_eq_true hle, decide_eq_true h3]
    rfl
theorem amt_len {l : List UInt8} (h : amtB l = true) : 4 ≤ l.length ∧ l.length ≤ 13 := by
  unfold amtB at h
  simp only [Bool.and_eq_true, decide_eq_true_eq] at h
  have h1 := amtL_length _ h.1
  rw [h.2] at h1
  have := dec_length _ h.1
  omega
/-- as the statements' own answer finds it: three signs from the end -/
theorem amt_ref (l : List UInt8) (h3 : 3 ≤ l.length) :
    (amtB l = true → numE (l.take (l.length - 3) ++ l.drop (l.length - 3 + 1)) = 0 ∧ numR (l.take (l.length - 3) ++ l.drop (l.length - 3 + 1)) = amtV l ∧ amtR (amtV l) = l ∧ amtE (amtV l) = 0) ∧
    (amtE (numR (l.take (l.length - 3) ++ l.drop (l.length - 3 + 1))) = 0 → amtR (numR (l.take (l.length - 3) ++ l.drop (l.length - 3 + 1))) = l → amtB l = true) := by
  constructor
  · intro h
    obtain ⟨p1, p2, p3, p4⟩ := (amt_prog l _ _ rfl rfl).1 h
    unfold amtB at h
    simp only [Bool.and_eq_true, decide_eq_true_eq] at h
    have hl := amtL_length _ h.1
    have h2 := h.2
    rw [h2] at hl
    unfold amtL at h2
    obtain ⟨t1, t2⟩ := take_digits (r := twoL (amtV l % 100)) (dec_all (amtV l / 100))
    rw [h2] at t1 t2
    have key : ∀ (d r m : List UInt8), d ++ [46] ++ r = m → m.take d.length = d ∧ m.drop (d.length + 1) = r := by
      rintro d r m rfl
      rw [List.append_assoc]
      exact ⟨List.take_left, by rw [← List.drop_drop, List.drop_left]; rfl⟩
    obtain ⟨k1, k2⟩ := key _ _ _ h2
    have e1 : l.take (l.length - 3) = l.takeWhile (fun c => decide (c ≠ 46)) := by
      rw [t1, hl, Nat.add_sub_cancel]
      exact k1
    have e2 : l.drop (l.length - 3 + 1) = (l.dropWhile (fun c => decide (c ≠ 46))).drop 1 := by
      rw [t2, hl, Nat.add_sub_cancel]
      exact k2
    rw [e1, e2]
    exact ⟨p1, p2, p3, p4⟩
  · intro h2 h4
    generalize l.take (l.length - 3) ++ l.drop (l.length - 3 + 1) = X at h2 h4
    have hle : numR X ≤ 999999999999 := by
      unfold amtE at h2
      by_cases h : numR X ≤ 999999999999
      · exact h
      · rw [if_neg h] at h2; cases h2
    unfold amtR at h4
    rw [if_pos hle] at h4
    have := amt_is h4
    unfold amtB
    rw [this, decide_eq_true hle, decide_eq_true h4]
    rfl
end Go.Proofs.YtbfodbejdaafaaaGreatDoor
/- Append, copy and make of bytes, at the operation; two lists of bytes held against each other (the statements' own helper): contracts, for every list of bytes within a slice's length. -/
namespace Go.Proofs.YtbfodbejdaafaaaGreatDoor
open Go.RowKit
set_option maxHeartbeats 400000
set_option linter.unusedVariables false

theorem info_u8 : (Tryz.prog.info? 5).map (fun i => (i.zero, i.size, i.bytes)) = some (some (.int .u8 0), 1, 1) := by kernel_rfl

/-- append of bytes onto a row of the call's own -/
theorem ap8 (w : World) {ops : Array Oper} {rest : List Oper} {o : Oper} {a : Act} {Q : Exit → Act → World → Prop} (hgd : Region.wanted o (yielded ops a.tmps) = true) (s x : Operand)
    (ho : o.op = .call { callee := .builtin .append, args := #[s, x], argTypes := #[91, 91] })
    (base : Nat) (v : Value) (n : Nat) (l : List UInt8) (hs : a.eval s = v) (hown : w.ownsRow base 5 1 v n (u8s l))
    (A : Option Addr) (m c : Nat) (k : List UInt8) (hx : a.eval x = .slice A m c) (hr : Rd w A m c (u8s k)) (hb : n + m ≤ 140737488355328) (hbase : base ≤ w.heap.size)
    (h : ∀ v' w', w'.ownsRow base 5 1 v' (n + m) (u8s (l ++ k)) → w.grownBy w' v.ownBlock → (v'.ownBlock = v.ownBlock ∨ v'.ownBlock = some w.heap.size) → wpList Tryz.prog ops Q rest (a.put o.dst v') w') :
    wpList Tryz.prog ops Q (o :: rest) a w := by
  obtain ⟨i, hi, hz, h1, h2⟩ := info_parts info_u8
  refine wpList_append_rd w hgd s x 91 ho base 5 i (.int .u8 0) 1 Tryz.underlying91 hi hz h1 h2 rfl v n (u8s l) hs hown A m c (u8s k) hx hr (u8s_one k) (by simp only [maxLen]; omega) (by omega) hbase ?_
  intro v' w' g1 g2 g3
  exact h v' w' (by rw [u8s_append]; exact g1) g2 g3

/-- append of bytes onto a row of the call's own, as one step of a region that draws its order ('go_region_law') -/
theorem step8 {ops : Array Oper} {o : Oper} {a : Act} {w : World} {K : Act → World → Prop} {Q : Exit → Act → World → Prop} {E : Prop} (hgd : Region.wanted o (yielded ops a.tmps) = true) (s x : Operand)
    (ho : o.op = .call { callee := .builtin .append, args := #[s, x], argTypes := #[91, 91] })
    (base : Nat) (v : Value) (n : Nat) (l : List UInt8) (hs : a.eval s = v) (hown : w.ownsRow base 5 1 v n (u8s l))
    (A : Option Addr) (m c : Nat) (k : List UInt8) (hx : a.eval x = .slice A m c) (hr : Rd w A m c (u8s k)) (hb : n + m ≤ 140737488355328) (hbase : base ≤ w.heap.size)
    (h : ∀ v' w', w'.ownsRow base 5 1 v' (n + m) (u8s (l ++ k)) → w.grownBy w' v.ownBlock → (v'.ownBlock = v.ownBlock ∨ v'.ownBlock = some w.heap.size) → K (a.put o.dst v') w') :
    if Region.wanted o (yielded ops a.tmps) = true then Oper.wp Tryz.prog o a w K Q else E := by
  rw [if_pos hgd]
  obtain ⟨i, hi, hz, h1, h2⟩ := info_parts info_u8
  obtain ⟨v', w', hrun, g1, g2, g3⟩ := run_append_rd (P := Tryz.prog) w base 91 o.type 5 i (.int .u8 0) 1 Tryz.underlying91 hi hz h1 h2 rfl v n (u8s l) hown A m c (u8s k) hr (u8s_one k) (by simp only [maxLen]; omega) (by omega) hbase
  unfold Oper.wp execOp
  simp only [ho, resolve, invoke, builtin, Sem.run_bind, Sem.run_pure, Result.andThen_ok, List.map_toArray, List.map_cons, List.map_nil, hs, hx, hrun]
  exact h v' w' (by rw [u8s_append]; exact g1) g2 g3

/-- elements that were just laid in a block of their own -/
theorem Rd.lit (w : World) (cs : List Value) (t : TypeId) (n : Nat) (hn : cs.length = n) (hm : n ≤ maxLen) : Rd (w.alloc (.cells cs.toArray t)) (some ⟨w.heap.size, 0, none⟩) n n cs := by
  have := (Bk.new w t cs.toArray).rd (n := n) (cap := n) (Nat.le_refl _) hm (by simp; omega)
  simpa [← hn] using this

/-- one byte that was just laid in a block of its own -/
theorem Rd.one {w : World} {i : Int} {b : UInt8} (hi : i = (b.toNat : Int)) (t : TypeId) : Rd (w.alloc (.cells #[.int .u8 i] t)) (some ⟨w.heap.size, 0, none⟩) 1 1 (u8s [b]) := by
  have h := (Bk.new w t #[.int .u8 i]).rd (n := 1) (cap := 1) (Nat.le_refl _) (by simp [maxLen]) (by simp)
  rw [hi] at h ⊢
  exact h
theorem ap8_one (w : World) {ops : Array Oper} {rest : List Oper} {o : Oper} {a : Act} {Q : Exit → Act → World → Prop} (hgd : Region.wanted o (yielded ops a.tmps) = true) (s x : Operand)
    (ho : o.op = .call { callee := .builtin .append, args := #[s, x], argTypes := #[91, 91] })
    (base : Nat) (v : Value) (n : Nat) (l : List UInt8) (hs : a.eval s = v) (hown : w.ownsRow base 5 1 v n (u8s l)) (i : Int) (b : UInt8) (hi : i = (b.toNat : Int)) (t : TypeId)
    (hx : a.eval x = .slice (some ⟨w.heap.size, 0, none⟩) 1 1) (hb : n + 1 ≤ 140737488355328) (hbase : base ≤ w.heap.size)
    (h : ∀ v' w', w'.ownsRow base 5 1 v' (n + 1) (u8s (l ++ [b])) → (w.alloc (.cells #[.int .u8 i] t)).grownBy w' v.ownBlock → (v'.ownBlock = v.ownBlock ∨ v'.ownBlock = some (w.heap.size + 1)) → wpList Tryz.prog ops Q rest (a.put o.dst v') w') :
    wpList Tryz.prog ops Q (o :: rest) a (w.alloc (.cells #[.int .u8 i] t)) := by
  refine ap8 _ hgd s x ho base v n l hs (hown.alloc _) _ 1 1 [b] hx (Rd.one hi t) hb (by simp; omega) ?_
  intro v' w' h1 h2 h3
  exact h v' w' h1 h2 (by simpa using h3)

theorem Rd.none_ {w : World} {n c : Nat} {l : List UInt8} (h : Rd w none n c (u8s l)) : n = 0 ∧ c = 0 ∧ l = [] := by
  have h1 := h.nil rfl
  have h2 := h.cap
  have h3 := h.len
  rw [u8s_length] at h3
  exact ⟨by omega, h1, List.eq_nil_of_length_eq_zero (by omega)⟩

/-- make of bytes -/
theorem mk8 (w : World) {ops : Array Oper} {rest : List Oper} {o : Oper} {a : Act} {Q : Exit → Act → World → Prop} (hgd : Region.wanted o (yielded ops a.tmps) = true) (l c : Operand) (hop : o.op = .makeSlice 91 l c)
    (kl kc : IntKind) (L C : Int) (n m : Nat) (hl : a.eval l = .int kl L) (hc : a.eval c = .int kc C) (hL : L = n) (hC : C = m) (hnm : n ≤ m) (hb : m ≤ 281474976710656)
    (h : ∀ w', Bk w' w.heap.size 5 (u8s (List.replicate m 0)) → Fr No w w' → w'.heap.size = w.heap.size + 1 → wpList Tryz.prog ops Q rest (a.put o.dst (.slice (some ⟨w.heap.size, 0, none⟩) n m)) w') :
    wpList Tryz.prog ops Q (o :: rest) a w := by
  obtain ⟨i, hi, hz, h1, h2⟩ := info_parts info_u8
  refine wpList_make_bk w hgd l c 91 hop 5 i (.int .u8 0) Tryz.underlying91 hi hz h1 rfl kl kc L C n m hl hc hL hC hnm (by rw [h2]; omega) (by simp only [maxLen]; omega) ?_
  intro w' h1 h2 h3
  exact h w' (by simpa [u8s] using h1) h2 h3
/-- copy of bytes into the head of a block of bytes -/
theorem cp8 (w : World) {ops : Array Oper} {rest : List Oper} {o : Oper} {a : Act} {Q : Exit → Act → World → Prop} (hgd : Region.wanted o (yielded ops a.tmps) = true) (d s : Operand)
    (ho : o.op = .call { callee := .builtin .copy, args := #[d, s], argTypes := #[91, 91] })
    (g n cap : Nat) (k : List UInt8) (hd : a.eval d = .slice (some ⟨g, 0, none⟩) n cap) (hbk : Bk w g 5 (u8s k))
    (A : Option Addr) (c : Nat) (l : List UInt8) (hs : a.eval s = .slice A n c) (hr : Rd w A n c (u8s l)) (hlen : n ≤ k.length)
    (h : ∀ w', Bk w' g 5 (u8s (l ++ k.drop n)) → Fr (Just g) w w' → w'.heap.size = w.heap.size → wpList Tryz.prog ops Q rest (a.put o.dst (.int .i64 (n : Int))) w') :
    wpList Tryz.prog ops Q (o :: rest) a w := by
  obtain ⟨i, hi, hz, h1, h2⟩ := info_parts info_u8
  refine wpList_copy_fit w hgd d s 91 ho 5 i Tryz.underlying91 hi h1 g n cap (u8s k) hd hbk A c (u8s l) hs hr (u8s_one l) (by simpa using hlen) ?_
  intro w' h1 h2 h3
  exact h w' (by simpa [u8s] using h1) h2 h3

end Go.Proofs.YtbfodbejdaafaaaGreatDoor
/- Small words on what a call hands back: no program. -/
namespace Go.Proofs.YtbfodbejdaafaaaGreatDoor
theorem ret_bool {a b : Bool} (h : a = b) : Ending.returned (.bool a) = .returned (.bool b) := by rw [h]
theorem ret_u8 {a : Int} {b : UInt8} (h : a = (b.toNat : Int)) : Ending.returned (.int .u8 a) = .returned (.int .u8 (b.toNat : Int)) := by rw [h]
/-- a row of one's own, said of an elder world -/
theorem own_low {w : World} {base base' : Nat} {e : TypeId} {size : Nat} {v : Value} {n : Nat} {xs : List Value} (h : w.ownsRow base e size v n xs) (hb : base' ≤ base) : w.ownsRow base' e size v n xs := by
  refine ⟨h.1, ?_⟩
  rcases h.2 with h2 | ⟨g, cap, cur, e1, hg, r⟩
  · exact .inl h2
  · exact .inr ⟨g, cap, cur, e1, Nat.le_trans hb hg, r⟩
end Go.Proofs.YtbfodbejdaafaaaGreatDoor
/- Tests of bytes that are handed in as functions: no package's own. -/
namespace Go.Proofs.YtbfodbejdaafaaaGreatDoor
open Go.RowKit
set_option linter.unusedVariables false

theorem at_data (s : ByteArray) (k : Nat) (h : k < s.size) : s[k] = s.data.toList[k]'(by simpa using h) := rfl
theorem take_snoc (s : ByteArray) (k : Nat) (h : k < s.size) : s.data.toList.take (k + 1) = s.data.toList.take k ++ [s[k]] := by
  rw [List.take_succ_eq_append_getElem (by simpa using h)]; rfl

/-- each stands the test -/
def allB (l : List UInt8) (t : UInt8 → Bool) : Bool := l.all t
/-- what a test of signs answers -/
structure Tests (f : FuncId) (t : UInt8 → Bool) : Prop where
  enters : ∀ args w, (callFunc f args).run Tryz.prog w = .ok (.enter f args) w
  tells : ∀ (c : UInt8) (w : World), Calls Tryz.prog f #[.int .u8 (c.toNat : Int)] w fun e w' => e = .returned (.bool (t c)) ∧ w = w'
end Go.Proofs.YtbfodbejdaafaaaGreatDoor
