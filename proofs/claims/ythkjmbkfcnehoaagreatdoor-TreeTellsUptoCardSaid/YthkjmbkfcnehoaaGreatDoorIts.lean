/- The texts Items, TokItems, HelpInt, TreeItems, joined. -/
import Derived.Test.YthkjmbkfcnehoaaGreatDoorBase
import Derived.Test.YthkjmbkfcnehoaaGreatDoorTokMath
import Derived.Test.YthkjmbkfcnehoaaGreatDoorHelp0
import Derived.Test.YthkjmbkfcnehoaaGreatDoorTreeMath
/- Rows of things of several cells: what they hold, one's own that grow, append onto them. 'I w N cs a': the cells cs are the thing a; what it points to lies in blocks of such numbers (N). No program. -/
namespace Go.Proofs.YthkjmbkfcnehoaaGreatDoor
open Go.RowKit
set_option maxHeartbeats 400000
set_option linter.unusedVariables false

/-- the header (A, n, c) holds these cells, s an element -/
structure RdS (w : World) (s : Nat) (A : Option Addr) (n c : Nat) (xs : List Value) : Prop where
  len : xs.length = n * s
  cap : n ≤ c
  max : c ≤ maxLen
  nil : A = none → c = 0
  cells : ∀ ad, A = some ad → ∀ j u, xs[j]? = some u → w.cell? (ad.add j) = some u
variable {w w' : World} {N M S : Nat → Prop} {s : Nat}
theorem RdS.nil_ (w : World) (s : Nat) : RdS w s none 0 0 [] := ⟨by simp, Nat.le_refl _, Nat.zero_le _, fun _ => rfl, fun _ e => nomatch e⟩
theorem RdS.fr {A : Option Addr} {n c : Nat} {xs : List Value} (h : RdS w s A n c xs) (hf : Fr S w w') (hS : ∀ ad, A = some ad → ¬ S ad.block) : RdS w' s A n c xs :=
  ⟨h.len, h.cap, h.max, h.nil, fun ad e j u hu => hf.cell (h.cells ad e j u hu) (by rw [blk_add]; exact hS ad e)⟩
theorem RdS.fr0 {A : Option Addr} {n c : Nat} {xs : List Value} (h : RdS w s A n c xs) (hf : Fr S w w') (hS : ∀ ad, A = some ad → 0 < n → ¬ S ad.block) : RdS w' s A n c xs :=
  ⟨h.len, h.cap, h.max, h.nil, fun ad e j u hu => hf.cell (h.cells ad e j u hu) (by
    rw [blk_add]
    refine hS ad e ?_
    have h1 := (List.getElem?_eq_some_iff.1 hu).1
    rcases Nat.eq_zero_or_pos n with h0 | h0
    · rw [h.len, h0, Nat.zero_mul] at h1; omega
    · exact h0)⟩
theorem RdS.of_own {base : Nat} {e : TypeId} {v : Value} {n : Nat} {xs : List Value} (h : w.ownsRow base e s v n xs) : ∃ A c, v = .slice A n c ∧ RdS w s A n c xs ∧ (∀ ad, A = some ad → base ≤ ad.block ∧ ad.block < w.heap.size) := by
  rcases h.2 with ⟨rfl, rfl⟩ | ⟨g, cap, cur, rfl, hg, hh, hn, hm, hc, hx⟩
  · exact ⟨none, 0, rfl, ⟨h.1, Nat.le_refl _, Nat.zero_le _, fun _ => rfl, fun _ e => nomatch e⟩, fun _ e => nomatch e⟩
  · refine ⟨some ⟨g, 0, none⟩, cap, rfl, ⟨h.1, hn, hm, (fun e => nomatch e), fun ad e j u hu => ?_⟩, fun ad e => ?_⟩
    · injection e with e
      subst e
      have h1 : (⟨g, 0, none⟩ : Addr).add j = ⟨g, j, none⟩ := by unfold Addr.add; split <;> simp_all
      have h2 : cur[j]? = some u := by
        rw [← hx, List.getElem?_take] at hu
        split at hu
        · simpa using hu
        · cases hu
      rw [h1]
      simp [World.cell?, hh, h2]
    · injection e with e
      subst e
      exact ⟨hg, (Array.getElem?_eq_some_iff.1 hh).1⟩
theorem RdS.lt {A : Option Addr} {n c : Nat} {xs : List Value} (h : RdS w s A n c xs) (hn : 0 < n) (hs : 0 < s) : ∀ ad, A = some ad → ad.block < w.heap.size := by
  intro ad e
  have hl : 0 < xs.length := by rw [h.len]; exact Nat.mul_pos hn hs
  have hc := h.cells ad e 0 _ (List.getElem?_eq_getElem hl)
  rcases Nat.lt_or_ge ad.block w.heap.size with h1 | h1
  · exact h1
  · have h2 : (ad.add 0).block = ad.block := blk_add ad 0
    simp [World.cell?, h2, Array.getElem?_eq_none h1] at hc
/-- elements that were just laid in a block of their own -/
theorem RdS.lit (w : World) (cs : List Value) (t : TypeId) (n : Nat) (hn : cs.length = n * s) (hm : n ≤ maxLen) : RdS (w.alloc (.cells cs.toArray t)) s (some ⟨w.heap.size, 0, none⟩) n n cs :=
  ⟨hn, Nat.le_refl _, hm, (fun e => nomatch e), fun ad e j u hu => by
    injection e with e
    subst e
    have h1 : (⟨w.heap.size, 0, none⟩ : Addr).add j = ⟨w.heap.size, j, none⟩ := by unfold Addr.add; split <;> simp_all
    rw [h1, (Bk.new w t cs.toArray).cell j]
    simpa using hu⟩

/-! ### things -/
structure ItemOk {α : Type} (s : Nat) (I : World → (Nat → Prop) → List Value → α → Prop) : Prop where
  len : ∀ {w N cs a}, I w N cs a → cs.length = s
  one : ∀ {w N cs a}, I w N cs a → ∀ u ∈ cs, u.oneCell' = true
  fr : ∀ {w w' N S cs a}, I w N cs a → Fr S w w' → (∀ i, N i → ¬ S i) → I w' N cs a
  mono : ∀ {w N M cs a}, I w N cs a → (∀ i, N i → M i) → I w M cs a
variable {α : Type} {I : World → (Nat → Prop) → List Value → α → Prop}
def ItemsF (I : World → (Nat → Prop) → List Value → α → Prop) (w : World) (N : Nat → Prop) : List Value → List α → Prop
  | xs, [] => xs = []
  | xs, a :: ls => ∃ cs rest, xs = cs ++ rest ∧ I w N cs a ∧ ItemsF I w N rest ls
theorem ItemsF.fr (hI : ItemOk s I) : ∀ {ls : List α} {xs : List Value} (h : ItemsF I w N xs ls) (hf : Fr S w w') (hS : ∀ i, N i → ¬ S i), ItemsF I w' N xs ls
  | [], _, h, _, _ => h
  | _ :: _, _, ⟨cs, rest, e, h1, h2⟩, hf, hS => ⟨cs, rest, e, hI.fr h1 hf hS, ItemsF.fr hI h2 hf hS⟩
theorem ItemsF.mono (hI : ItemOk s I) : ∀ {ls : List α} {xs : List Value} (h : ItemsF I w N xs ls) (hM : ∀ i, N i → M i), ItemsF I w M xs ls
  | [], _, h, _ => h
  | _ :: _, _, ⟨cs, rest, e, h1, h2⟩, hM => ⟨cs, rest, e, hI.mono h1 hM, ItemsF.mono hI h2 hM⟩
theorem ItemsF.len (hI : ItemOk s I) : ∀ {ls : List α} {xs : List Value} (h : ItemsF I w N xs ls), xs.length = ls.length * s
  | [], _, h => by rw [show _ = [] from h]; simp
  | a :: ls, _, ⟨cs, rest, e, h1, h2⟩ => by
    rw [e, List.length_append, hI.len h1, ItemsF.len hI h2, List.length_cons, Nat.add_mul]
    omega
theorem ItemsF.one (hI : ItemOk s I) : ∀ {ls : List α} {xs : List Value} (h : ItemsF I w N xs ls), ∀ u ∈ xs, u.oneCell' = true
  | [], _, h, u, hu => by rw [show _ = [] from h] at hu; cases hu
  | a :: ls, _, ⟨cs, rest, e, h1, h2⟩, u, hu => by
    rw [e] at hu
    rcases List.mem_append.1 hu with hu | hu
    · exact hI.one h1 u hu
    · exact ItemsF.one hI h2 u hu
theorem ItemsF.app : ∀ {ls bs : List α} {xs ys : List Value} (h : ItemsF I w N xs ls) (k : ItemsF I w N ys bs), ItemsF I w N (xs ++ ys) (ls ++ bs)
  | [], bs, xs, ys, h, k => by rw [show xs = [] from h]; exact k
  | a :: ls, bs, _, ys, ⟨cs, rest, e, h1, h2⟩, k => ⟨cs, rest ++ ys, by rw [e, List.append_assoc], h1, ItemsF.app h2 k⟩
theorem ItemsF.single {cs : List Value} {a : α} (h : I w N cs a) : ItemsF I w N cs [a] := ⟨cs, [], by simp, h, rfl⟩
theorem ItemsF.at_ (hI : ItemOk s I) : ∀ {ls : List α} {xs : List Value} (h : ItemsF I w N xs ls) (i : Nat) (hi : i < ls.length), I w N ((xs.drop (i * s)).take s) (ls[i]'hi)
  | [], _, _, i, hi => by simp at hi
  | a :: ls, _, ⟨cs, rest, e, h1, h2⟩, 0, hi => by
    rw [e, Nat.zero_mul, List.drop_zero, List.take_left' (hI.len h1)]
    exact h1
  | a :: ls, _, ⟨cs, rest, e, h1, h2⟩, i + 1, hi => by
    have h := ItemsF.at_ hI h2 i (by simpa using hi)
    have e2 : (i + 1) * s = cs.length + i * s := by rw [hI.len h1, Nat.add_mul]; omega
    rw [e, e2, List.drop_append, List.drop_eq_nil_of_le (by omega), List.nil_append, Nat.add_sub_cancel_left]
    simpa using h
/-- a slice of things -/
structure RdI (s : Nat) (I : World → (Nat → Prop) → List Value → α → Prop) (w : World) (N : Nat → Prop) (A : Option Addr) (n c : Nat) (ls : List α) : Prop where
  xs : ∃ xs, RdS w s A n c xs ∧ ItemsF I w N xs ls
  blk : ∀ ad, A = some ad → 0 < n → N ad.block
variable {A : Option Addr} {n c : Nat} {ls bs : List α}
theorem RdI.nil_ (s : Nat) (I : World → (Nat → Prop) → List Value → α → Prop) (w : World) (N : Nat → Prop) : RdI s I w N none 0 0 [] := ⟨⟨[], RdS.nil_ w s, rfl⟩, fun _ e => nomatch e⟩
theorem RdI.fr (hI : ItemOk s I) (h : RdI s I w N A n c ls) (hf : Fr S w w') (hS : ∀ i, N i → ¬ S i) : RdI s I w' N A n c ls :=
  let ⟨xs, hr, he⟩ := h.xs
  ⟨⟨xs, hr.fr0 hf (fun ad e h0 => hS _ (h.blk ad e h0)), ItemsF.fr hI he hf hS⟩, h.blk⟩
theorem RdI.no (hI : ItemOk s I) (h : RdI s I w N A n c ls) (hf : Fr No w w') : RdI s I w' N A n c ls := h.fr hI hf (fun _ _ x => x)
theorem RdI.dr (hI : ItemOk s I) (h : RdI s I w N A n c ls) (hf : Dr w w') : RdI s I w' N A n c ls := h.no hI hf.fr
theorem RdI.mono (hI : ItemOk s I) (h : RdI s I w N A n c ls) (hM : ∀ i, N i → M i) : RdI s I w M A n c ls :=
  let ⟨xs, hr, he⟩ := h.xs
  ⟨⟨xs, hr, ItemsF.mono hI he hM⟩, fun ad e h0 => hM _ (h.blk ad e h0)⟩
theorem RdI.len (hI : ItemOk s I) (hs : 0 < s) (h : RdI s I w N A n c ls) : ls.length = n := by
  obtain ⟨xs, hr, he⟩ := h.xs
  have h1 := ItemsF.len hI he
  rw [hr.len] at h1
  exact (Nat.eq_of_mul_eq_mul_right hs h1).symm
theorem RdI.top (h : RdI s I w N A n c ls) : n ≤ 9223372036854775807 := by
  obtain ⟨xs, hr, _⟩ := h.xs
  have h1 := hr.cap
  have h2 := hr.max
  simp only [maxLen] at h2
  omega
/-- the cells of one of them -/
theorem RdI.at_ (hI : ItemOk s I) (hs : 0 < s) (h : RdI s I w N A n c ls) {i : Nat} (hi : i < ls.length) :
    ∃ ad cs, A = some ad ∧ I w N cs ls[i] ∧ ∀ j u, cs[j]? = some u → w.cell? (ad.add (i * s + j)) = some u := by
  have hn := h.len hI hs
  obtain ⟨xs, hr, he⟩ := h.xs
  have hat := ItemsF.at_ hI he i hi
  cases A with
  | none =>
    have := hr.nil rfl
    have := hr.cap
    omega
  | some ad =>
    refine ⟨ad, _, rfl, hat, fun j u hu => hr.cells ad rfl _ u ?_⟩
    rw [List.getElem?_take] at hu
    split at hu
    · rw [List.getElem?_drop] at hu
      exact hu
    · cases hu
/-- a row of things of one's own, growing -/
structure OwnI (s : Nat) (I : World → (Nat → Prop) → List Value → α → Prop) (w : World) (base : Nat) (e : TypeId) (N : Nat → Prop) (v : Value) (n : Nat) (ls : List α) : Prop where
  xs : ∃ xs, w.ownsRow base e s v n xs ∧ ItemsF I w N xs ls
variable {base : Nat} {e : TypeId} {v : Value}
theorem OwnI.nil_ (s : Nat) (I : World → (Nat → Prop) → List Value → α → Prop) (w : World) (base : Nat) (e : TypeId) (N : Nat → Prop) : OwnI s I w base e N (.slice none 0 0) 0 [] := ⟨⟨[], ⟨by simp, .inl ⟨rfl, rfl⟩⟩, rfl⟩⟩
theorem OwnI.rd (h : OwnI s I w base e N v n ls) (hN : ∀ i, base ≤ i → i < w.heap.size → N i) : ∃ A c, v = .slice A n c ∧ RdI s I w N A n c ls := by
  obtain ⟨xs, ho, he⟩ := h.xs
  obtain ⟨A, c, rfl, hr, hb⟩ := RdS.of_own ho
  exact ⟨A, c, rfl, ⟨xs, hr, he⟩, fun ad ea _ => hN _ (hb ad ea).1 (hb ad ea).2⟩
theorem OwnI.rd' (h : OwnI s I w base e N v n ls) (hN : ∀ i, v.ownBlock = some i → M i) (hI : ItemOk s I) (hM : ∀ i, N i → M i) : ∃ A c, v = .slice A n c ∧ RdI s I w M A n c ls := by
  obtain ⟨xs, ho, he⟩ := h.xs
  obtain ⟨A, c, rfl, hr, hb⟩ := RdS.of_own ho
  refine ⟨A, c, rfl, ⟨xs, hr, ItemsF.mono hI he hM⟩, fun ad ea _ => hN _ ?_⟩
  rcases ho.2 with ⟨h1, _⟩ | ⟨g, cap, cur, h1, _⟩
  · injection h1 with h1
    rw [h1] at ea
    cases ea
  · injection h1 with h1
    rw [h1] at ea ⊢
    injection ea with ea
    rw [← ea]
    rfl
theorem OwnI.fr (hI : ItemOk s I) (h : OwnI s I w base e N v n ls) (hf : Fr S w w') (hS : ∀ i, N i → ¬ S i) (hv : ∀ g, v.ownBlock = some g → ¬ S g) : OwnI s I w' base e N v n ls :=
  let ⟨xs, ho, he⟩ := h.xs
  ⟨⟨xs, hf.own ho hv, ItemsF.fr hI he hf hS⟩⟩
theorem OwnI.no (hI : ItemOk s I) (h : OwnI s I w base e N v n ls) (hf : Fr No w w') : OwnI s I w' base e N v n ls := h.fr hI hf (fun _ _ x => x) (fun _ _ x => x)
theorem OwnI.mono (hI : ItemOk s I) (h : OwnI s I w base e N v n ls) (hM : ∀ i, N i → M i) : OwnI s I w base e M v n ls :=
  let ⟨xs, ho, he⟩ := h.xs
  ⟨⟨xs, ho, ItemsF.mono hI he hM⟩⟩
theorem OwnI.low {b : Nat} (hI : ItemOk s I) (h : OwnI s I w base e N v n ls) (hb : b ≤ base) : OwnI s I w b e N v n ls := by
  obtain ⟨xs, ho, he⟩ := h.xs
  refine ⟨xs, ⟨ho.1, ?_⟩, he⟩
  rcases ho.2 with hn | ⟨g, cap, cur, e1, hg, r⟩
  · exact .inl hn
  · exact .inr ⟨g, cap, cur, e1, Nat.le_trans hb hg, r⟩
theorem OwnI.lt (h : OwnI s I w base e N v n ls) : ∀ i, v.ownBlock = some i → base ≤ i ∧ i < w.heap.size := by
  obtain ⟨xs, ho, _⟩ := h.xs
  exact fun i hi => ho.lt i hi

/-! ### append onto a row of things of one's own -/
section
variable {P : Program} (w : World)
theorem run_append_rdS (base : Nat) (t ty e : TypeId) (i : TypeInfo) (z : Value) (s bytes : Nat) (ht : P.underlying t = some (.slice e)) (hi : P.info? e = some i) (hz : i.zero = some z)
    (hsize : i.size = s) (hby : i.bytes = bytes) (hzs : z.cells.size = s) (hs : 0 < s)
    (v : Value) (n : Nat) (xs : List Value) (hown : w.ownsRow base e s v n xs)
    (A : Option Addr) (m c : Nat) (news : List Value) (hr : RdS w s A m c news) (h1 : ∀ u ∈ news, u.oneCell' = true)
    (h63 : n + m ≤ maxLen) (hbytes : (n + m) * bytes ≤ 140737488355328) (hbase : base ≤ w.heap.size) :
    ∃ v' w', (Builtin.append_ #[t, t] ty #[v, .slice A m c]).run P w = .ok v' w' ∧ w'.ownsRow base e s v' (n + m) (xs ++ news) ∧ w.grownBy w' v.ownBlock ∧
      (v'.ownBlock = v.ownBlock ∨ v'.ownBlock = some w.heap.size) := by
  cases A with
  | none =>
    have hc := hr.nil rfl
    have hn := hr.cap
    have hm : m = 0 := by omega
    subst hm hc
    have hn : news = [] := List.eq_nil_of_length_eq_zero (by have := hr.len; omega)
    subst hn
    refine ⟨v, w, ?_, by simpa using hown, World.grownBy.refl w _, .inl rfl⟩
    rcases hown.2 with ⟨rfl, rfl⟩ | ⟨g, cap, cur, rfl, _, _, hnc, _⟩
    · simp [Builtin.append_, run_underlying ht, sizeOf, typeInfo, hi, Builtin.lenOf, Builtin.firstCells]
    · simp [Builtin.append_, run_underlying ht, sizeOf, typeInfo, hi, Builtin.lenOf, Builtin.firstCells, hnc, storeCells]
  | some ad =>
    obtain ⟨v', w', hrun, h2, h3, _, h5⟩ := run_append_own_at (P := P) w base t ty e i z s bytes ht hi hz hsize hby hzs hs v n xs hown ad m c news hr.len (hr.cells ad rfl) h1 h63 hbytes hbase
    exact ⟨v', w', hrun, h2, h3, h5⟩
theorem wpList_append_rdS {ops : Array Oper} {rest : List Oper} {o : Oper} {a : Act} {Q : Exit → Act → World → Prop} (hgd : Region.wanted o (yielded ops a.tmps) = true) (sl x : Operand) (t : TypeId)
    (ho : o.op = .call { callee := .builtin .append, args := #[sl, x], argTypes := #[t, t] })
    (base : Nat) (e : TypeId) (i : TypeInfo) (z : Value) (s bytes : Nat) (ht : P.underlying t = some (.slice e)) (hi : P.info? e = some i) (hz : i.zero = some z)
    (hsize : i.size = s) (hby : i.bytes = bytes) (hzs : z.cells.size = s) (hs : 0 < s)
    (v : Value) (n : Nat) (xs : List Value) (hsl : a.eval sl = v) (hown : w.ownsRow base e s v n xs)
    (A : Option Addr) (m c : Nat) (news : List Value) (hx : a.eval x = .slice A m c) (hr : RdS w s A m c news) (h1 : ∀ u ∈ news, u.oneCell' = true)
    (h63 : n + m ≤ maxLen) (hbytes : (n + m) * bytes ≤ 140737488355328) (hbase : base ≤ w.heap.size)
    (h : ∀ v' w', w'.ownsRow base e s v' (n + m) (xs ++ news) → w.grownBy w' v.ownBlock → (v'.ownBlock = v.ownBlock ∨ v'.ownBlock = some w.heap.size) → wpList P ops Q rest (a.put o.dst v') w') :
    wpList P ops Q (o :: rest) a w := by
  refine wpList_go hgd fun K hK => ?_
  obtain ⟨v', w', hrun, h2, h3, h5⟩ := run_append_rdS (P := P) w base t o.type e i z s bytes ht hi hz hsize hby hzs hs v n xs hown A m c news hr h1 h63 hbytes hbase
  unfold Oper.wp execOp
  simp only [ho, resolve, invoke, builtin, Sem.run_bind, Sem.run_pure, Result.andThen_ok, List.map_toArray, List.map_cons, List.map_nil, hsl, hx, hrun]
  exact hK _ _ (h v' w' h2 h3 h5)
/-- things behind things -/
theorem apI' (hI : ItemOk s I) (hs : 0 < s) {ops : Array Oper} {rest : List Oper} {o : Oper} {a : Act} {Q : Exit → Act → World → Prop} (hgd : Region.wanted o (yielded ops a.tmps) = true) (sl x : Operand) (t : TypeId)
    (ho : o.op = .call { callee := .builtin .append, args := #[sl, x], argTypes := #[t, t] })
    (base : Nat) (e : TypeId) (i : TypeInfo) (z : Value) (bytes : Nat) (ht : P.underlying t = some (.slice e)) (hi : P.info? e = some i) (hz : i.zero = some z)
    (hsize : i.size = s) (hby : i.bytes = bytes) (hzs : z.cells.size = s)
    (v : Value) (n : Nat) (ls bs : List α) (hsl : a.eval sl = v) (hown : OwnI s I w base e N v n ls)
    (A : Option Addr) (m c : Nat) (hx : a.eval x = .slice A m c) (hr : RdI s I w N A m c bs)
    (h63 : n + m ≤ maxLen) (hbytes : (n + m) * bytes ≤ 140737488355328) (hbase : base ≤ w.heap.size) (hN : ∀ i, N i → v.ownBlock ≠ some i)
    (h : ∀ v' w', OwnI s I w' base e N v' (n + m) (ls ++ bs) → w.grownBy w' v.ownBlock → (v'.ownBlock = v.ownBlock ∨ v'.ownBlock = some w.heap.size) → wpList P ops Q rest (a.put o.dst v') w') :
    wpList P ops Q (o :: rest) a w := by
  obtain ⟨xs, hov, he⟩ := hown.xs
  obtain ⟨ys, hry, hye⟩ := hr.xs
  refine wpList_append_rdS w hgd sl x t ho base e i z s bytes ht hi hz hsize hby hzs hs v n xs hsl hov A m c ys hx hry (ItemsF.one hI hye) h63 hbytes hbase ?_
  intro v' w' g1 g2 g3
  have hf : Fr (fun k => v.ownBlock = some k) w w' := (Fr.refl _ w).grown g2 (fun g e => .inl e)
  exact h v' w' ⟨⟨xs ++ ys, g1, ItemsF.fr hI (ItemsF.app he hye) hf (fun k hk => hN k hk)⟩⟩ g2 g3
/-- things behind things, the new ones' cells known (where their row lies plays no part) -/
theorem apI2 (hI : ItemOk s I) (hs : 0 < s) {ops : Array Oper} {rest : List Oper} {o : Oper} {a : Act} {Q : Exit → Act → World → Prop} (hgd : Region.wanted o (yielded ops a.tmps) = true) (sl x : Operand) (t : TypeId)
    (ho : o.op = .call { callee := .builtin .append, args := #[sl, x], argTypes := #[t, t] })
    (base : Nat) (e : TypeId) (i : TypeInfo) (z : Value) (bytes : Nat) (ht : P.underlying t = some (.slice e)) (hi : P.info? e = some i) (hz : i.zero = some z)
    (hsize : i.size = s) (hby : i.bytes = bytes) (hzs : z.cells.size = s)
    (v : Value) (n : Nat) (ls bs : List α) (hsl : a.eval sl = v) (hown : OwnI s I w base e N v n ls)
    (A : Option Addr) (m c : Nat) (hx : a.eval x = .slice A m c) (ys : List Value) (hry : RdS w s A m c ys) (hye : ItemsF I w N ys bs)
    (h63 : n + m ≤ maxLen) (hbytes : (n + m) * bytes ≤ 140737488355328) (hbase : base ≤ w.heap.size) (hN : ∀ i, N i → v.ownBlock ≠ some i)
    (h : ∀ v' w', OwnI s I w' base e N v' (n + m) (ls ++ bs) → w.grownBy w' v.ownBlock → (v'.ownBlock = v.ownBlock ∨ v'.ownBlock = some w.heap.size) → wpList P ops Q rest (a.put o.dst v') w') :
    wpList P ops Q (o :: rest) a w := by
  obtain ⟨xs, hov, he⟩ := hown.xs
  refine wpList_append_rdS w hgd sl x t ho base e i z s bytes ht hi hz hsize hby hzs hs v n xs hsl hov A m c ys hx hry (ItemsF.one hI hye) h63 hbytes hbase ?_
  intro v' w' g1 g2 g3
  have hf : Fr (fun k => v.ownBlock = some k) w w' := (Fr.refl _ w).grown g2 (fun g e => .inl e)
  exact h v' w' ⟨⟨xs ++ ys, g1, ItemsF.fr hI (ItemsF.app he hye) hf (fun k hk => hN k hk)⟩⟩ g2 g3
end
end Go.Proofs.YthkjmbkfcnehoaaGreatDoor
/- Attributes and tokens as things in rows. -/
namespace Go.Proofs.YthkjmbkfcnehoaaGreatDoor
open Go.RowKit
set_option maxHeartbeats 400000
set_option linter.unusedVariables false

def AttrI (_ : World) (_ : Nat → Prop) (cs : List Value) (a : List UInt8 × List UInt8) : Prop := ∃ X Y : ByteArray, cs = [.string X, .string Y] ∧ X.data.toList = a.1 ∧ Y.data.toList = a.2
theorem attr_ok : ItemOk 2 AttrI where
  len := by rintro w N cs a ⟨X, Y, rfl, _, _⟩; rfl
  one := by
    rintro w N cs a ⟨X, Y, rfl, _, _⟩ u hu
    simp only [List.mem_cons, List.not_mem_nil, or_false] at hu
    rcases hu with rfl | rfl <;> rfl
  fr := fun h _ _ => h
  mono := fun h _ => h
theorem AttrI.any {w w' : World} {N M : Nat → Prop} {cs : List Value} {a : List UInt8 × List UInt8} (h : AttrI w N cs a) : AttrI w' M cs a := h
/-- a token's cells -/
def TokI (w : World) (N : Nat → Prop) (cs : List Value) (t : Tok) : Prop := ∃ (X Y : ByteArray) (A : Option Addr) (n c : Nat),
  cs = [.int .i64 t.kind, .string X, .string Y, .slice A n c, .bool t.empty] ∧ X.data.toList = t.name ∧ Y.data.toList = t.text ∧ RdI 2 AttrI w N A n c t.attrs
theorem tok_ok : ItemOk 5 TokI where
  len := by rintro w N cs a ⟨X, Y, A, n, c, rfl, _⟩; rfl
  one := by
    rintro w N cs a ⟨X, Y, A, n, c, rfl, _⟩ u hu
    simp only [List.mem_cons, List.not_mem_nil, or_false] at hu
    rcases hu with rfl | rfl | rfl | rfl | rfl <;> rfl
  fr := by
    rintro w w' N S cs a ⟨X, Y, A, n, c, e, h1, h2, h3⟩ hf hS
    exact ⟨X, Y, A, n, c, e, h1, h2, h3.fr attr_ok hf hS⟩
  mono := by
    rintro w N M cs a ⟨X, Y, A, n, c, e, h1, h2, h3⟩ hM
    exact ⟨X, Y, A, n, c, e, h1, h2, h3.mono attr_ok hM⟩
theorem info_attr : (Tryz.prog.info? 59).map (fun i => (i.zero, i.size, i.bytes)) = some (some (.agg #[.string ⟨#[]⟩, .string ⟨#[]⟩]), 2, 32) := by kernel_rfl
theorem info_tok : (Tryz.prog.info? 45).map (fun i => (i.zero, i.size, i.bytes)) = some (some (.agg #[.int .i64 0, .string ⟨#[]⟩, .string ⟨#[]⟩, .slice none 0 0, .bool false]), 5, 72) := by kernel_rfl
theorem attrs_any {w w' : World} {N M : Nat → Prop} : ∀ {ls : List (List UInt8 × List UInt8)} {xs : List Value} (h : ItemsF AttrI w N xs ls), ItemsF AttrI w' M xs ls
  | [], _, h => h
  | _ :: _, _, ⟨cs, rest, e, h1, h2⟩ => ⟨cs, rest, e, h1, attrs_any h2⟩
theorem own_attrs {w : World} {base : Nat} {e : TypeId} {N : Nat → Prop} {v : Value} {n : Nat} {ls : List (List UInt8 × List UInt8)} (h : OwnI 2 AttrI w base e N v n ls) (M : Nat → Prop) : OwnI 2 AttrI w base e M v n ls :=
  let ⟨xs, ho, he⟩ := h.xs
  ⟨⟨xs, ho, attrs_any he⟩⟩
/-- one more attribute, just laid in a block of its own -/
theorem ap_attr1 (u : World) {ops : Array Oper} {rest : List Oper} {o : Oper} {a : Act} {Q : Exit → Act → World → Prop} (hgd : Region.wanted o (yielded ops a.tmps) = true) (s x : Operand)
    (ho : o.op = .call { callee := .builtin .append, args := #[s, x], argTypes := #[30, 30] })
    (base : Nat) (v : Value) (n : Nat) (ls : List (List UInt8 × List UInt8)) (hs : a.eval s = v) (hown : OwnI 2 AttrI u base 59 No v n ls) (X Y : ByteArray) (at_ : List UInt8 × List UInt8) (hX : X.data.toList = at_.1) (hY : Y.data.toList = at_.2) (t : TypeId)
    (bk : Nat) (hbk : u.heap.size = bk) (hx : a.eval x = .slice (some ⟨bk, 0, none⟩) 1 1) (hb : n + 1 ≤ 4000000000) (hbase : base ≤ u.heap.size)
    (h : ∀ v' w', OwnI 2 AttrI w' base 59 No v' (n + 1) (ls ++ [at_]) → (u.alloc (.cells #[.string X, .string Y] t)).grownBy w' v.ownBlock → (v'.ownBlock = v.ownBlock ∨ v'.ownBlock = some (u.heap.size + 1)) → wpList Tryz.prog ops Q rest (a.put o.dst v') w') :
    wpList Tryz.prog ops Q (o :: rest) a (u.alloc (.cells #[.string X, .string Y] t)) := by
  subst hbk
  obtain ⟨i, hi, hz, h1, h2⟩ := info_parts info_attr
  have hlt := hown.lt
  have ho1 : OwnI 2 AttrI (u.alloc (.cells #[.string X, .string Y] t)) base 59 (fun i => i = u.heap.size) v n ls := own_attrs (hown.no attr_ok ((Fr.refl No u).alloc _)) _
  have hr : RdI 2 AttrI (u.alloc (.cells #[.string X, .string Y] t)) (fun i => i = u.heap.size) (some ⟨u.heap.size, 0, none⟩) 1 1 [at_] :=
    ⟨⟨[.string X, .string Y], RdS.lit u [.string X, .string Y] t 1 rfl (by simp [maxLen]), ItemsF.single ⟨X, Y, rfl, hX, hY⟩⟩, fun ad e _ => (congrArg Addr.block (Option.some.inj e)).symm⟩
  refine apI' _ attr_ok (by omega) hgd s x 30 ho base 59 i _ 32 Tryz.underlying30 hi hz h1 h2 rfl v n ls [at_] hs ho1 _ 1 1 hx hr (by simp only [maxLen]; omega) (by omega) (by simp; omega) (fun i hi e => by have := (hlt i e).2; omega) ?_
  intro v' w' g1 g2 g3
  exact h v' w' (own_attrs g1 No) g2 (by simpa using g3)
/-- one more token, just laid in a block of its own -/
theorem ap_tok1 (u : World) {ops : Array Oper} {rest : List Oper} {o : Oper} {a : Act} {Q : Exit → Act → World → Prop} (hgd : Region.wanted o (yielded ops a.tmps) = true) (s x : Operand)
    (ho : o.op = .call { callee := .builtin .append, args := #[s, x], argTypes := #[22, 22] })
    (base : Nat) (v : Value) (n : Nat) (ls : List Tok) (N M : Nat → Prop) (hs : a.eval s = v) (hown : OwnI 5 TokI u base 45 N v n ls) (tk : Tok) (cs : List Value) (htk : TokI u M cs tk) (t : TypeId)
    (bk : Nat) (hbk : u.heap.size = bk) (hx : a.eval x = .slice (some ⟨bk, 0, none⟩) 1 1) (hb : n + 1 ≤ 1000000000) (hbase : base ≤ u.heap.size)
    (hN : ∀ i, N i → v.ownBlock ≠ some i) (hM : ∀ i, M i → v.ownBlock ≠ some i)
    (h : ∀ v' w', OwnI 5 TokI w' base 45 (fun i => N i ∨ M i) v' (n + 1) (ls ++ [tk]) → (u.alloc (.cells cs.toArray t)).grownBy w' v.ownBlock → (v'.ownBlock = v.ownBlock ∨ v'.ownBlock = some (u.heap.size + 1)) → wpList Tryz.prog ops Q rest (a.put o.dst v') w') :
    wpList Tryz.prog ops Q (o :: rest) a (u.alloc (.cells cs.toArray t)) := by
  subst hbk
  obtain ⟨i, hi, hz, h1, h2⟩ := info_parts info_tok
  have hfa : Fr No u (u.alloc (.cells cs.toArray t)) := (Fr.refl No u).alloc _
  have ho1 : OwnI 5 TokI (u.alloc (.cells cs.toArray t)) base 45 (fun i => N i ∨ M i) v n ls := (hown.no tok_ok hfa).mono tok_ok (fun _ x => .inl x)
  have hcl := tok_ok.len htk
  refine apI2 _ tok_ok (by omega) hgd s x 22 ho base 45 i _ 72 Tryz.underlying22 hi hz h1 h2 rfl v n ls [tk] hs ho1 _ 1 1 hx cs (RdS.lit u cs t 1 (by simpa using hcl) (by simp [maxLen])) (ItemsF.single (tok_ok.mono (tok_ok.fr htk hfa (fun _ _ x => x)) (fun _ x => .inr x))) (by simp only [maxLen]; omega) (by omega) (by simp; omega) (fun i hi => by rcases hi with hi | hi; exact hN i hi; exact hM i hi) ?_
  intro v' w' g1 g2 g3
  exact h v' w' g1 g2 (by simpa using g3)
/-- tokens behind tokens -/
theorem ap_toks (w : World) {ops : Array Oper} {rest : List Oper} {o : Oper} {a : Act} {Q : Exit → Act → World → Prop} (hgd : Region.wanted o (yielded ops a.tmps) = true) (s x : Operand)
    (ho : o.op = .call { callee := .builtin .append, args := #[s, x], argTypes := #[22, 22] })
    (base : Nat) (v : Value) (n : Nat) (ls bs : List Tok) (N M : Nat → Prop) (hs : a.eval s = v) (hown : OwnI 5 TokI w base 45 N v n ls) (A : Option Addr) (m c : Nat) (hx : a.eval x = .slice A m c) (hr : RdI 5 TokI w M A m c bs)
    (hb : n + m ≤ 1000000000) (hbase : base ≤ w.heap.size) (hN : ∀ i, N i → v.ownBlock ≠ some i) (hM : ∀ i, M i → v.ownBlock ≠ some i)
    (h : ∀ v' w', OwnI 5 TokI w' base 45 (fun i => N i ∨ M i) v' (n + m) (ls ++ bs) → w.grownBy w' v.ownBlock → (v'.ownBlock = v.ownBlock ∨ v'.ownBlock = some w.heap.size) → wpList Tryz.prog ops Q rest (a.put o.dst v') w') :
    wpList Tryz.prog ops Q (o :: rest) a w := by
  obtain ⟨i, hi, hz, h1, h2⟩ := info_parts info_tok
  obtain ⟨ys, hry, hye⟩ := hr.xs
  exact apI2 w tok_ok (by omega) hgd s x 22 ho base 45 i _ 72 Tryz.underlying22 hi hz h1 h2 rfl v n ls bs hs (hown.mono tok_ok (fun _ x => .inl x)) A m c hx ys hry (ItemsF.mono tok_ok hye (fun _ x => .inr x)) (by simp only [maxLen]; omega) (by omega) hbase (fun i hi => by rcases hi with hi | hi; exact hN i hi; exact hM i hi) h
end Go.Proofs.YthkjmbkfcnehoaaGreatDoor
/- What the helpers of the statements do with numbers (a copy with room behind it, and whether it is as it was; two lists held against each other; one among some): contracts, for every list of numbers within a slice's length. -/
namespace Go.Proofs.YthkjmbkfcnehoaaGreatDoor
open Go.RowKit
set_option maxHeartbeats 400000
set_option linter.unusedVariables false

/-- numbers as cells -/
def ints (l : List Int) : List Value := l.map (Value.int .i64)
@[simp] theorem ints_length (l : List Int) : (ints l).length = l.length := by simp [ints]
theorem ints_get (l : List Int) (k : Nat) (h : k < l.length) : (ints l)[k]? = some (.int .i64 l[k]) := by simp [ints, h]
theorem ints_append (l m : List Int) : ints (l ++ m) = ints l ++ ints m := by simp [ints]
theorem ints_one (l : List Int) : ∀ u ∈ ints l, u.oneCell' = true := by
  intro u hu
  simp only [ints, List.mem_map] at hu
  obtain ⟨b, _, rfl⟩ := hu
  rfl
theorem info_int : (Tryz.prog.info? 3).map (fun i => (i.zero, i.size, i.bytes)) = some (some (.int .i64 0), 1, 8) := by kernel_rfl

theorem ownI_step (l : List Int) (f : Int) (k : Nat) (hk : k < 3) :
    (ints (l ++ List.replicate k f ++ List.replicate (3 - k) 0)).set (l.length + k) (.int .i64 f) = ints (l ++ List.replicate (k + 1) f ++ List.replicate (3 - (k + 1)) 0) := by
  obtain rfl | rfl | rfl : k = 0 ∨ k = 1 ∨ k = 2 := by omega
  all_goals simp [ints, List.replicate]

theorem ownI_get (l : List Int) (f : Int) (k : Nat) (hk : k < 3) :
    ∃ u, (ints (l ++ List.replicate k f ++ List.replicate (3 - k) 0))[l.length + k]? = some u := by
  rw [List.getElem?_eq_getElem (by simp; omega)]
  exact ⟨_, rfl⟩

/-- what Own made reads as what it was made of -/
theorem ownI_rd0 {w : World} {g n : Nat} {l : List Int} {f : Int} {t : TypeId} (hb : Bk w g t (ints (l ++ [f, f, f]))) (hl : (ints l).length = n) (hn : n ≤ 65536) : Rd w (some ⟨g, 0, none⟩) n (n + 3) (ints l) := by
  rw [ints_length] at hl
  have := hb.rd (n := n) (cap := n + 3) (by omega) (by simp only [maxLen]; omega) (by simp; omega)
  have e : (ints (l ++ [f, f, f])).take n = ints l := by
    rw [ints_append, List.take_left' (by simpa using hl)]
  rwa [e] at this
theorem ownI_rd {w w' : World} {g n : Nat} {l : List Int} {f : Int} {t : TypeId} (hb : Bk w g t (ints (l ++ [f, f, f]))) (hf : Fr No w w') (hl : (ints l).length = n) (hn : n ≤ 65536) : Rd w' (some ⟨g, 0, none⟩) n (n + 3) (ints l) :=
  ownI_rd0 (hb.no hf) hl hn

theorem eqI_any (x y : Int) (w : World) : Calls Tryz.prog 24 #[.int .i64 x, .int .i64 y] w fun e w' => e = .returned (.bool (x == y)) ∧ w = w' := by
  go_enter Tryz.func24, Tryz.ntmps24
  go_wp2
  go_ret
  exact ⟨rfl, rfl⟩

set_option maxHeartbeats 1000000 in
/-- comptoirhelp.Same of bytes that are alike, by what Plain hands on -/
theorem sameI_any (A B : Option Addr) (n c d : Nat) (l : List Int) (w : World) (ha : Rd w A n c (ints l)) (hb : Rd w B n d (ints l)) :
    Calls Tryz.prog 23 #[.slice A n c, .slice B n d, .func (.func 24) #[] #[]] w fun e w' => e = .returned (.bool true) ∧ Dr w w' := by
  have hn : l.length = n := by simpa using ha.len
  have hm : n ≤ 9223372036854775807 := by
    have := ha.max
    have := ha.cap
    simp only [maxLen] at *
    omega
  go_enter Tryz.func23, Tryz.ntmps23
  go_wp2
  go_loopw [7] (fun v wr => ∃ k : Nat, k ≤ n ∧ v = .int .i64 (k : Int) ∧ Dr w wr) (fun v _ => n - (intOf v).toNat)
  case atStart => exact ⟨0, by omega, rfl, Dr.refl _⟩
  case round =>
    obtain ⟨k, hk, rfl, hdr⟩ := hrel
    rcases Nat.lt_or_ge k n with hlt | hge
    · obtain ⟨ad, u, rfl, hu, hc⟩ := (ha.dr hdr).at_ hlt
      obtain ⟨bd, v, rfl, hv, hd⟩ := (hb.dr hdr).at_ hlt
      rw [ints_get l k (by omega)] at hu hv
      injection hu with hu; injection hv with hv
      subst hu hv
      have h9 : (l[k] == l[k]) = true := by simp
      go_wp2
      go_quiet ((go_at_call 24; exact quiet_same (eqI_any _ _ _)))
      go_wp2
      go_roundw
      case rel => exact ⟨k + 1, by omega, by go_num, hdr.drewN _⟩
      case measure => simp [intOf]; omega
    · obtain rfl : k = n := by omega
      go_wp2
      go_ret
      exact ⟨rfl, hdr⟩

theorem plainI_any (A B : Option Addr) (n c d : Nat) (l : List Int) (w : World) (ha : Rd w A n c (ints l)) (hb : Rd w B n d (ints l)) :
    Calls Tryz.prog 12 #[.slice A n c, .slice B n d] w fun e w' => e = .returned (.bool true) ∧ Dr w w' := by
  go_enter Tryz.func12, Tryz.ntmps12
  go_wp2_with (go_at_call 23; refine (sameI_any _ _ _ _ _ _ _ ha hb).mono ?_; rintro e w' ⟨rfl, hdr⟩)
  go_ret
  exact ⟨rfl, hdr⟩

/-- append of numbers onto a row of the call's own -/
theorem apI (w : World) {ops : Array Oper} {rest : List Oper} {o : Oper} {a : Act} {Q : Exit → Act → World → Prop} (hgd : Region.wanted o (yielded ops a.tmps) = true) (s x : Operand)
    (ho : o.op = .call { callee := .builtin .append, args := #[s, x], argTypes := #[35, 35] })
    (base : Nat) (v : Value) (n : Nat) (l : List Int) (hs : a.eval s = v) (hown : w.ownsRow base 3 1 v n (ints l))
    (A : Option Addr) (m c : Nat) (k : List Int) (hx : a.eval x = .slice A m c) (hr : Rd w A m c (ints k)) (hb : n + m ≤ 17592186044416) (hbase : base ≤ w.heap.size)
    (h : ∀ v' w', w'.ownsRow base 3 1 v' (n + m) (ints (l ++ k)) → w.grownBy w' v.ownBlock → (v'.ownBlock = v.ownBlock ∨ v'.ownBlock = some w.heap.size) → wpList Tryz.prog ops Q rest (a.put o.dst v') w') :
    wpList Tryz.prog ops Q (o :: rest) a w := by
  obtain ⟨i, hi, hz, h1, h2⟩ := info_parts info_int
  refine wpList_append_rd w hgd s x 35 ho base 3 i (.int .i64 0) 8 Tryz.underlying35 hi hz h1 h2 rfl v n (ints l) hs hown A m c (ints k) hx hr (ints_one k) (by simp only [maxLen]; omega) (by omega) hbase ?_
  intro v' w' g1 g2 g3
  exact h v' w' (by rw [ints_append]; exact g1) g2 g3
/-- the same as one step of a region that draws its order ('go_region_law') -/
theorem stepI {ops : Array Oper} {o : Oper} {a : Act} {w : World} {K : Act → World → Prop} {Q : Exit → Act → World → Prop} {E : Prop} (hgd : Region.wanted o (yielded ops a.tmps) = true) (s x : Operand)
    (ho : o.op = .call { callee := .builtin .append, args := #[s, x], argTypes := #[35, 35] })
    (base : Nat) (v : Value) (n : Nat) (l : List Int) (hs : a.eval s = v) (hown : w.ownsRow base 3 1 v n (ints l))
    (A : Option Addr) (m c : Nat) (k : List Int) (hx : a.eval x = .slice A m c) (hr : Rd w A m c (ints k)) (hb : n + m ≤ 17592186044416) (hbase : base ≤ w.heap.size)
    (h : ∀ A' c' w', w'.ownsRow base 3 1 (.slice A' (n + m) c') (n + m) (ints (l ++ k)) → w.grownBy w' v.ownBlock → ((Value.slice A' (n + m) c').ownBlock = v.ownBlock ∨ (Value.slice A' (n + m) c').ownBlock = some w.heap.size) → K (a.put o.dst (.slice A' (n + m) c')) w') :
    if Region.wanted o (yielded ops a.tmps) = true then Oper.wp Tryz.prog o a w K Q else E := by
  rw [if_pos hgd]
  obtain ⟨i, hi, hz, h1, h2⟩ := info_parts info_int
  obtain ⟨v', w', hrun, g1, g2, g3⟩ := run_append_rd (P := Tryz.prog) w base 35 o.type 3 i (.int .i64 0) 8 Tryz.underlying35 hi hz h1 h2 rfl v n (ints l) hown A m c (ints k) hr (ints_one k) (by simp only [maxLen]; omega) (by omega) hbase
  unfold Oper.wp execOp
  simp only [ho, resolve, invoke, builtin, Sem.run_bind, Sem.run_pure, Result.andThen_ok, List.map_toArray, List.map_cons, List.map_nil, hs, hx, hrun]
  obtain ⟨A', c', rfl, -⟩ := Rd.of_own g1
  exact h A' c' w' (by rw [ints_append]; exact g1) g2 g3
/-- one number that was just laid in a block of its own -/
theorem Rd.oneI {w : World} (i : Int) (t : TypeId) : Rd (w.alloc (.cells #[.int .i64 i] t)) (some ⟨w.heap.size, 0, none⟩) 1 1 (ints [i]) :=
  (Bk.new w t #[.int .i64 i]).rd (n := 1) (cap := 1) (Nat.le_refl _) (by simp [maxLen]) (by simp)
theorem apI_one (w : World) {ops : Array Oper} {rest : List Oper} {o : Oper} {a : Act} {Q : Exit → Act → World → Prop} (hgd : Region.wanted o (yielded ops a.tmps) = true) (s x : Operand)
    (ho : o.op = .call { callee := .builtin .append, args := #[s, x], argTypes := #[35, 35] })
    (base : Nat) (v : Value) (n : Nat) (l : List Int) (hs : a.eval s = v) (hown : w.ownsRow base 3 1 v n (ints l)) (i : Int) (t : TypeId)
    (hx : a.eval x = .slice (some ⟨w.heap.size, 0, none⟩) 1 1) (hb : n + 1 ≤ 17592186044416) (hbase : base ≤ w.heap.size)
    (h : ∀ v' w', w'.ownsRow base 3 1 v' (n + 1) (ints (l ++ [i])) → (w.alloc (.cells #[.int .i64 i] t)).grownBy w' v.ownBlock → (v'.ownBlock = v.ownBlock ∨ v'.ownBlock = some (w.heap.size + 1)) → wpList Tryz.prog ops Q rest (a.put o.dst v') w') :
    wpList Tryz.prog ops Q (o :: rest) a (w.alloc (.cells #[.int .i64 i] t)) := by
  refine apI _ hgd s x ho base v n l hs (hown.alloc _) _ 1 1 [i] hx (Rd.oneI i t) hb (by simp; omega) ?_
  intro v' w' h1 h2 h3
  exact h v' w' h1 h2 (by simpa using h3)

/-- is it among these? -/
def hasI (l : List Int) (x : Int) : Bool := l.contains x
end Go.Proofs.YthkjmbkfcnehoaaGreatDoor
/- Nodes as things in rows; a tree that grows, as it lies. -/
namespace Go.Proofs.YthkjmbkfcnehoaaGreatDoor
open Go.RowKit
set_option maxHeartbeats 400000
set_option linter.unusedVariables false

/-- a node's cells -/
def NodI (w : World) (N : Nat → Prop) (cs : List Value) (t : Nod) : Prop := ∃ (X Y : ByteArray) (A : Option Addr) (n c : Nat),
  cs = [.int .i64 t.parent, .string X, .string Y, .slice A n c] ∧ X.data.toList = t.name ∧ Y.data.toList = t.text ∧ RdI 2 AttrI w N A n c t.attrs
theorem nod_ok : ItemOk 4 NodI where
  len := by rintro w N cs a ⟨X, Y, A, n, c, rfl, _⟩; rfl
  one := by
    rintro w N cs a ⟨X, Y, A, n, c, rfl, _⟩ u hu
    simp only [List.mem_cons, List.not_mem_nil, or_false] at hu
    rcases hu with rfl | rfl | rfl | rfl <;> rfl
  fr := by
    rintro w w' N S cs a ⟨X, Y, A, n, c, e, h1, h2, h3⟩ hf hS
    exact ⟨X, Y, A, n, c, e, h1, h2, h3.fr attr_ok hf hS⟩
  mono := by
    rintro w N M cs a ⟨X, Y, A, n, c, e, h1, h2, h3⟩ hM
    exact ⟨X, Y, A, n, c, e, h1, h2, h3.mono attr_ok hM⟩
theorem info_node : (Tryz.prog.info? 32).map (fun i => (i.zero, i.size, i.bytes)) = some (some (.agg #[.int .i64 0, .string ⟨#[]⟩, .string ⟨#[]⟩, .slice none 0 0]), 4, 64) := by kernel_rfl
theorem info_str : (Tryz.prog.info? 9).map (fun i => (i.zero, i.size, i.bytes)) = some (some (.string ⟨#[]⟩), 1, 16) := by kernel_rfl
theorem info_bool : (Tryz.prog.info? 4).map (fun i => (i.zero, i.size, i.bytes)) = some (some (.bool false), 1, 1) := by kernel_rfl

def strs (l : List ByteArray) : List Value := l.map .string
def bls (l : List Bool) : List Value := l.map .bool
theorem strs_len (l : List ByteArray) : (strs l).length = l.length := by simp [strs]
theorem bls_len (l : List Bool) : (bls l).length = l.length := by simp [bls]

/-- whose blocks: none of two rows of one's own is the same, none is g's -/
structure Apart (g : Nat) (v1 v2 v3 v4 : Value) : Prop where
  g1 : v1.ownBlock ≠ some g
  g2 : v2.ownBlock ≠ some g
  g3 : v3.ownBlock ≠ some g
  g4 : v4.ownBlock ≠ some g
  h12 : ∀ i, v1.ownBlock = some i → v2.ownBlock ≠ some i
  h13 : ∀ i, v1.ownBlock = some i → v3.ownBlock ≠ some i
  h14 : ∀ i, v1.ownBlock = some i → v4.ownBlock ≠ some i
  h23 : ∀ i, v2.ownBlock = some i → v3.ownBlock ≠ some i
  h24 : ∀ i, v2.ownBlock = some i → v4.ownBlock ≠ some i
  h34 : ∀ i, v3.ownBlock = some i → v4.ownBlock ≠ some i
/-- blocks of what nodes point to -/
def Deep (w : World) (base g : Nat) (v1 v2 v3 v4 : Value) : Nat → Prop := fun i => base ≤ i ∧ i < w.heap.size ∧ i ≠ g ∧ v1.ownBlock ≠ some i ∧ v2.ownBlock ≠ some i ∧ v3.ownBlock ≠ some i ∧ v4.ownBlock ≠ some i
/-- a tree that grows, at block g, with its four rows -/
structure GrV (w : World) (base g : Nat) (v1 v2 v3 v4 : Value) (xs : List ByteArray) (G : Gro) : Prop where
  bk : Bk w g 54 [v1, v2, v3, v4]
  low : base ≤ g
  o1 : OwnI 4 NodI w base 32 (Deep w base g v1 v2 v3 v4) v1 G.l.length G.l
  o2 : w.ownsRow base 3 1 v2 G.opn.length (ints G.opn)
  ex : xs.map (fun x => x.data.toList) = G.txt
  o3 : w.ownsRow base 9 1 v3 xs.length (strs xs)
  o4 : w.ownsRow base 4 1 v4 G.ink.length (bls G.ink)
  ap : Apart g v1 v2 v3 v4
def GrT (w : World) (base g : Nat) (G : Gro) : Prop := ∃ v1 v2 v3 v4 xs, GrV w base g v1 v2 v3 v4 xs G
variable {w w' : World} {base g : Nat} {v1 v2 v3 v4 : Value} {xs : List ByteArray} {G : Gro}
theorem GrV.fr {S : Nat → Prop} (h : GrV w base g v1 v2 v3 v4 xs G) (hf : Fr S w w') (hS : ∀ i, base ≤ i → i < w.heap.size → ¬ S i) : GrV w' base g v1 v2 v3 v4 xs G where
  bk := h.bk.fr hf (hS g h.low h.bk.lt)
  low := h.low
  o1 := (h.o1.fr nod_ok hf (fun i hi => hS i hi.1 hi.2.1) (fun i e => hS i (h.o1.lt i e).1 (h.o1.lt i e).2)).mono nod_ok (fun i hi => ⟨hi.1, Nat.lt_of_lt_of_le hi.2.1 hf.size, hi.2.2⟩)
  o2 := hf.own h.o2 (fun i e => hS i (h.o2.lt i e).1 (h.o2.lt i e).2)
  ex := h.ex
  o3 := hf.own h.o3 (fun i e => hS i (h.o3.lt i e).1 (h.o3.lt i e).2)
  o4 := hf.own h.o4 (fun i e => hS i (h.o4.lt i e).1 (h.o4.lt i e).2)
  ap := h.ap
theorem GrV.no (h : GrV w base g v1 v2 v3 v4 xs G) (hf : Fr No w w') : GrV w' base g v1 v2 v3 v4 xs G := h.fr hf (fun _ _ _ x => x)

/-- another row in the place of one of the four -/
theorem fresh_ne {v v' : Value} {u : World} {i : Nat} (hv : v'.ownBlock = v.ownBlock ∨ ∀ i, v'.ownBlock = some i → u.heap.size ≤ i) (h : v.ownBlock ≠ some i) (hi : i < u.heap.size) : v'.ownBlock ≠ some i := by
  rcases hv with hv | hv
  · rw [hv]; exact h
  · intro e; have := hv i e; omega

theorem GrV.put1 {u w2 : World} {v1' : Value} (h : GrV u base g v1 v2 v3 v4 xs G) (hf : Fr (fun i => v1.ownBlock = some i) u w2) {l' : List Nod} (ho : OwnI 4 NodI w2 base 32 (Deep w2 base g v1' v2 v3 v4) v1' l'.length l') (hv : v1'.ownBlock = v1.ownBlock ∨ ∀ i, v1'.ownBlock = some i → u.heap.size ≤ i) :
    GrV (w2.setCell ⟨g, 0, none⟩ v1') base g v1' v2 v3 v4 xs { G with l := l' } := by
  have hs : Fr (Just g) w2 (w2.setCell ⟨g, 0, none⟩ v1') := (Fr.refl (Just g) w2).setCell (p := ⟨g, 0, none⟩) (.inl (Just.at g)) _
  have hgs : g < u.heap.size := h.bk.lt
  have hz := hf.size
  have hzz := hs.size
  have hb := (h.bk.fr hf h.ap.g1).set_ 0 v1'
  have l2 := h.o2.lt
  have l3 := h.o3.lt
  have l4 := h.o4.lt
  have hng : v1'.ownBlock ≠ some g := fresh_ne hv h.ap.g1 hgs
  exact ⟨hb, h.low, (ho.fr nod_ok hs (fun i hi e => hi.2.2.1 e) (fun i e e2 => hng (by rw [show g = i from e2.symm]; exact e))).mono nod_ok (fun i hi => ⟨hi.1, Nat.lt_of_lt_of_le hi.2.1 hzz, hi.2.2⟩), hs.own (hf.own h.o2 (fun i e e2 => h.ap.h12 i e2 e)) (fun i e e2 => h.ap.g2 (by rw [show g = i from e2.symm]; exact e)), h.ex, hs.own (hf.own h.o3 (fun i e e2 => h.ap.h13 i e2 e)) (fun i e e2 => h.ap.g3 (by rw [show g = i from e2.symm]; exact e)), hs.own (hf.own h.o4 (fun i e e2 => h.ap.h14 i e2 e)) (fun i e e2 => h.ap.g4 (by rw [show g = i from e2.symm]; exact e)), ⟨hng, h.ap.g2, h.ap.g3, h.ap.g4, (fun i e e2 => fresh_ne hv (fun e3 => h.ap.h12 i e3 e2) (l2 i e2).2 e), (fun i e e2 => fresh_ne hv (fun e3 => h.ap.h13 i e3 e2) (l3 i e2).2 e), (fun i e e2 => fresh_ne hv (fun e3 => h.ap.h14 i e3 e2) (l4 i e2).2 e), h.ap.h23, h.ap.h24, h.ap.h34⟩⟩

theorem GrV.put2 {u w2 : World} {v2' : Value} (h : GrV u base g v1 v2 v3 v4 xs G) (hf : Fr (fun i => v2.ownBlock = some i) u w2) {opn' : List Int} (ho : w2.ownsRow base 3 1 v2' opn'.length (ints opn')) (hv : v2'.ownBlock = v2.ownBlock ∨ ∀ i, v2'.ownBlock = some i → u.heap.size ≤ i) :
    GrV (w2.setCell ⟨g, 1, none⟩ v2') base g v1 v2' v3 v4 xs { G with opn := opn' } := by
  have hs : Fr (Just g) w2 (w2.setCell ⟨g, 1, none⟩ v2') := (Fr.refl (Just g) w2).setCell (p := ⟨g, 1, none⟩) (.inl (Just.at g)) _
  have hgs : g < u.heap.size := h.bk.lt
  have hz := hf.size
  have hzz := hs.size
  have hb := (h.bk.fr hf h.ap.g2).set_ 1 v2'
  have l1 := h.o1.lt
  have l3 := h.o3.lt
  have l4 := h.o4.lt
  have hng : v2'.ownBlock ≠ some g := fresh_ne hv h.ap.g2 hgs
  exact ⟨hb, h.low, ((h.o1.fr nod_ok hf (fun i hi e => hi.2.2.2.2.1 e) (fun i e e2 => h.ap.h12 i e e2)).fr nod_ok hs (fun i hi e => hi.2.2.1 e) (fun i e e2 => h.ap.g1 (by rw [show g = i from e2.symm]; exact e))).mono nod_ok (fun i hi => ⟨hi.1, by have := hi.2.1; omega, hi.2.2.1, hi.2.2.2.1, fresh_ne hv hi.2.2.2.2.1 hi.2.1, hi.2.2.2.2.2.1, hi.2.2.2.2.2.2⟩), hs.own ho (fun i e e2 => hng (by rw [show g = i from e2.symm]; exact e)), h.ex, hs.own (hf.own h.o3 (fun i e e2 => h.ap.h23 i e2 e)) (fun i e e2 => h.ap.g3 (by rw [show g = i from e2.symm]; exact e)), hs.own (hf.own h.o4 (fun i e e2 => h.ap.h24 i e2 e)) (fun i e e2 => h.ap.g4 (by rw [show g = i from e2.symm]; exact e)), ⟨h.ap.g1, hng, h.ap.g3, h.ap.g4, (fun i e => fresh_ne hv (h.ap.h12 i e) (l1 i e).2), h.ap.h13, h.ap.h14, (fun i e e2 => fresh_ne hv (fun e3 => h.ap.h23 i e3 e2) (l3 i e2).2 e), (fun i e e2 => fresh_ne hv (fun e3 => h.ap.h24 i e3 e2) (l4 i e2).2 e), h.ap.h34⟩⟩

theorem GrV.put3 {u w2 : World} {v3' : Value} (h : GrV u base g v1 v2 v3 v4 xs G) (hf : Fr (fun i => v3.ownBlock = some i) u w2) {xs' : List ByteArray} (ho : w2.ownsRow base 9 1 v3' xs'.length (strs xs')) (hv : v3'.ownBlock = v3.ownBlock ∨ ∀ i, v3'.ownBlock = some i → u.heap.size ≤ i) :
    GrV (w2.setCell ⟨g, 2, none⟩ v3') base g v1 v2 v3' v4 xs' { G with txt := xs'.map (fun x => x.data.toList) } := by
  have hs : Fr (Just g) w2 (w2.setCell ⟨g, 2, none⟩ v3') := (Fr.refl (Just g) w2).setCell (p := ⟨g, 2, none⟩) (.inl (Just.at g)) _
  have hgs : g < u.heap.size := h.bk.lt
  have hz := hf.size
  have hzz := hs.size
  have hb := (h.bk.fr hf h.ap.g3).set_ 2 v3'
  have l1 := h.o1.lt
  have l2 := h.o2.lt
  have l4 := h.o4.lt
  have hng : v3'.ownBlock ≠ some g := fresh_ne hv h.ap.g3 hgs
  exact ⟨hb, h.low, ((h.o1.fr nod_ok hf (fun i hi e => hi.2.2.2.2.2.1 e) (fun i e e2 => h.ap.h13 i e e2)).fr nod_ok hs (fun i hi e => hi.2.2.1 e) (fun i e e2 => h.ap.g1 (by rw [show g = i from e2.symm]; exact e))).mono nod_ok (fun i hi => ⟨hi.1, by have := hi.2.1; omega, hi.2.2.1, hi.2.2.2.1, hi.2.2.2.2.1, fresh_ne hv hi.2.2.2.2.2.1 hi.2.1, hi.2.2.2.2.2.2⟩), hs.own (hf.own h.o2 (fun i e e2 => h.ap.h23 i e e2)) (fun i e e2 => h.ap.g2 (by rw [show g = i from e2.symm]; exact e)), rfl, hs.own ho (fun i e e2 => hng (by rw [show g = i from e2.symm]; exact e)), hs.own (hf.own h.o4 (fun i e e2 => h.ap.h34 i e2 e)) (fun i e e2 => h.ap.g4 (by rw [show g = i from e2.symm]; exact e)), ⟨h.ap.g1, h.ap.g2, hng, h.ap.g4, h.ap.h12, (fun i e => fresh_ne hv (h.ap.h13 i e) (l1 i e).2), h.ap.h14, (fun i e => fresh_ne hv (h.ap.h23 i e) (l2 i e).2), h.ap.h24, (fun i e e2 => fresh_ne hv (fun e3 => h.ap.h34 i e3 e2) (l4 i e2).2 e)⟩⟩

theorem GrV.put4 {u w2 : World} {v4' : Value} (h : GrV u base g v1 v2 v3 v4 xs G) (hf : Fr (fun i => v4.ownBlock = some i) u w2) {ink' : List Bool} (ho : w2.ownsRow base 4 1 v4' ink'.length (bls ink')) (hv : v4'.ownBlock = v4.ownBlock ∨ ∀ i, v4'.ownBlock = some i → u.heap.size ≤ i) :
    GrV (w2.setCell ⟨g, 3, none⟩ v4') base g v1 v2 v3 v4' xs { G with ink := ink' } := by
  have hs : Fr (Just g) w2 (w2.setCell ⟨g, 3, none⟩ v4') := (Fr.refl (Just g) w2).setCell (p := ⟨g, 3, none⟩) (.inl (Just.at g)) _
  have hgs : g < u.heap.size := h.bk.lt
  have hz := hf.size
  have hzz := hs.size
  have hb := (h.bk.fr hf h.ap.g4).set_ 3 v4'
  have l1 := h.o1.lt
  have l2 := h.o2.lt
  have l3 := h.o3.lt
  have hng : v4'.ownBlock ≠ some g := fresh_ne hv h.ap.g4 hgs
  exact ⟨hb, h.low, ((h.o1.fr nod_ok hf (fun i hi e => hi.2.2.2.2.2.2 e) (fun i e e2 => h.ap.h14 i e e2)).fr nod_ok hs (fun i hi e => hi.2.2.1 e) (fun i e e2 => h.ap.g1 (by rw [show g = i from e2.symm]; exact e))).mono nod_ok (fun i hi => ⟨hi.1, by have := hi.2.1; omega, hi.2.2.1, hi.2.2.2.1, hi.2.2.2.2.1, hi.2.2.2.2.2.1, fresh_ne hv hi.2.2.2.2.2.2 hi.2.1⟩), hs.own (hf.own h.o2 (fun i e e2 => h.ap.h24 i e e2)) (fun i e e2 => h.ap.g2 (by rw [show g = i from e2.symm]; exact e)), h.ex, hs.own (hf.own h.o3 (fun i e e2 => h.ap.h34 i e e2)) (fun i e e2 => h.ap.g3 (by rw [show g = i from e2.symm]; exact e)), hs.own ho (fun i e e2 => hng (by rw [show g = i from e2.symm]; exact e)), ⟨h.ap.g1, h.ap.g2, h.ap.g3, hng, h.ap.h12, h.ap.h13, (fun i e => fresh_ne hv (h.ap.h14 i e) (l1 i e).2), h.ap.h23, (fun i e => fresh_ne hv (h.ap.h24 i e) (l2 i e).2), (fun i e => fresh_ne hv (h.ap.h34 i e) (l3 i e).2)⟩⟩

/-- into the row of texts, of inks -/
theorem GrV.at3 (h : GrV w base g v1 v2 v3 v4 xs G) {k : Nat} (hk : k < xs.length) : ∃ b3 c3, v3 = .slice (some ⟨b3, 0, none⟩) xs.length c3 ∧ w.cell? ⟨b3, k, none⟩ = some (.string xs[k]) ∧ w.frozen? ⟨b3, k, none⟩ = false := by
  obtain ⟨b3, c3, rfl, _, _, hc, hz, _⟩ := own_open h.o3 (by omega)
  exact ⟨b3, c3, rfl, hc k _ (by simp [strs, hk]), hz k⟩
theorem GrV.at4 (h : GrV w base g v1 v2 v3 v4 xs G) {k : Nat} (hk : k < G.ink.length) : ∃ b4 c4, v4 = .slice (some ⟨b4, 0, none⟩) G.ink.length c4 ∧ w.cell? ⟨b4, k, none⟩ = some (.bool G.ink[k]) ∧ w.frozen? ⟨b4, k, none⟩ = false := by
  obtain ⟨b4, c4, rfl, _, _, hc, hz, _⟩ := own_open h.o4 (by omega)
  exact ⟨b4, c4, rfl, hc k _ (by simp [bls, hk]), hz k⟩
theorem GrV.set3 {b3 c3 k : Nat} {Y : ByteArray} (h : GrV w base g v1 v2 (.slice (some ⟨b3, 0, none⟩) xs.length c3) v4 xs G) (hk : k < xs.length) :
    GrV (w.setCell ⟨b3, k, none⟩ (.string Y)) base g v1 v2 (.slice (some ⟨b3, 0, none⟩) xs.length c3) v4 (xs.set k Y) { G with txt := G.txt.set k Y.data.toList } := by
  have hs : Fr (Just b3) w (w.setCell ⟨b3, k, none⟩ (.string Y)) := (Fr.refl (Just b3) w).setCell (p := ⟨b3, k, none⟩) (.inl (Just.at b3)) _
  have e3 : (Value.slice (some ⟨b3, 0, none⟩) xs.length c3).ownBlock = some b3 := rfl
  have hg3 : ¬ g = b3 := fun e => h.ap.g3 (by rw [e3, e])
  have l1 : (xs.set k Y).length = xs.length := by simp
  refine ⟨h.bk.fr hs hg3, h.low, (h.o1.fr nod_ok hs (fun i hi e => hi.2.2.2.2.2.1 (by rw [e3, show i = b3 from e])) (fun i e e2 => h.ap.h13 i e (by rw [e3, show i = b3 from e2]))).mono nod_ok (fun i hi => ⟨hi.1, Nat.lt_of_lt_of_le hi.2.1 hs.size, hi.2.2⟩),
    hs.own h.o2 (fun i e e2 => h.ap.h23 i e (by rw [e3, show i = b3 from e2])), ?_, ?_, hs.own h.o4 (fun i e e2 => h.ap.h34 i (by rw [e3, show i = b3 from e2]) e), h.ap⟩
  · rw [List.map_set, h.ex]
  · have := own_set h.o3 hk (.string Y)
    rw [l1]
    rwa [show (strs xs).set k (.string Y) = strs (xs.set k Y) from by unfold strs; rw [List.map_set]] at this
theorem GrV.set4 {b4 c4 k : Nat} {y : Bool} (h : GrV w base g v1 v2 v3 (.slice (some ⟨b4, 0, none⟩) G.ink.length c4) xs G) (hk : k < G.ink.length) :
    GrV (w.setCell ⟨b4, k, none⟩ (.bool y)) base g v1 v2 v3 (.slice (some ⟨b4, 0, none⟩) G.ink.length c4) xs { G with ink := G.ink.set k y } := by
  have hs : Fr (Just b4) w (w.setCell ⟨b4, k, none⟩ (.bool y)) := (Fr.refl (Just b4) w).setCell (p := ⟨b4, k, none⟩) (.inl (Just.at b4)) _
  have e4 : (Value.slice (some ⟨b4, 0, none⟩) G.ink.length c4).ownBlock = some b4 := rfl
  have hg4 : ¬ g = b4 := fun e => h.ap.g4 (by rw [e4, e])
  have l1 : (G.ink.set k y).length = G.ink.length := by simp
  refine ⟨h.bk.fr hs hg4, h.low, (h.o1.fr nod_ok hs (fun i hi e => hi.2.2.2.2.2.2 (by rw [e4, show i = b4 from e])) (fun i e e2 => h.ap.h14 i e (by rw [e4, show i = b4 from e2]))).mono nod_ok (fun i hi => ⟨hi.1, Nat.lt_of_lt_of_le hi.2.1 hs.size, hi.2.2⟩),
    hs.own h.o2 (fun i e e2 => h.ap.h24 i e (by rw [e4, show i = b4 from e2])), h.ex, hs.own h.o3 (fun i e e2 => h.ap.h34 i e (by rw [e4, show i = b4 from e2])), ?_, h.ap⟩
  have := own_set h.o4 hk (.bool y)
  simp only [l1]
  rwa [show (bls G.ink).set k (.bool y) = bls (G.ink.set k y) from by unfold bls; rw [List.map_set]] at this

/-- attributes copied onto none, as one step of a region that draws its order ('go_region_law') -/
theorem stepAt {ops : Array Oper} {o : Oper} {a : Act} {w : World} {K : Act → World → Prop} {Q : Exit → Act → World → Prop} {E : Prop} (hgd : Region.wanted o (yielded ops a.tmps) = true) (s x : Operand)
    (ho : o.op = .call { callee := .builtin .append, args := #[s, x], argTypes := #[30, 30] }) (hs : a.eval s = .slice none 0 0)
    (A : Option Addr) (m c : Nat) (N : Nat → Prop) (bs : List (List UInt8 × List UInt8)) (hx : a.eval x = .slice A m c) (hr : RdI 2 AttrI w N A m c bs) (hb : m ≤ 4000000000)
    (h : ∀ A' c' w', RdI 2 AttrI w' (fun i => i = w.heap.size) A' m c' bs → Fr No w w' → K (a.put o.dst (.slice A' m c')) w') :
    if Region.wanted o (yielded ops a.tmps) = true then Oper.wp Tryz.prog o a w K Q else E := by
  rw [if_pos hgd]
  obtain ⟨i, hi, hz, h1, h2⟩ := info_parts info_attr
  obtain ⟨ys, hry, hye⟩ := hr.xs
  obtain ⟨v', w', hrun, g1, g2, g3⟩ := run_append_rdS (P := Tryz.prog) w w.heap.size 30 o.type 59 i _ 2 32 Tryz.underlying30 hi hz h1 h2 rfl (by omega) (.slice none 0 0) 0 [] ⟨by simp, .inl ⟨rfl, rfl⟩⟩ A m c ys hry (ItemsF.one attr_ok hye) (by simp only [maxLen]; omega) (by omega) (Nat.le_refl _)
  unfold Oper.wp execOp
  simp only [ho, resolve, invoke, builtin, Sem.run_bind, Sem.run_pure, Result.andThen_ok, List.map_toArray, List.map_cons, List.map_nil, hs, hx, hrun]
  rw [Nat.zero_add, List.nil_append] at g1
  obtain ⟨A', c', rfl, hrd, hbk⟩ := RdS.of_own g1
  refine h A' c' w' ⟨⟨ys, hrd, attrs_any hye⟩, fun ad e _ => ?_⟩ ((Fr.refl No w).grown g2 (by simp [Value.ownBlock]))
  subst e
  rcases g1.2 with ⟨e, _⟩ | ⟨b, cap, cur, e, hb0, hh, _⟩
  · exact nomatch (Value.slice.inj e).1
  · have e := Option.some.inj (Value.slice.inj e).1
    rcases g3 with g3 | g3
    · rw [e] at g3
      simp [Value.ownBlock] at g3
    · rw [e] at g3 ⊢
      simpa [Value.ownBlock] using g3
/-- one more node, as one step of a region that draws its order -/
theorem stepNd {ops : Array Oper} {o : Oper} {a : Act} {w : World} {K : Act → World → Prop} {Q : Exit → Act → World → Prop} {E : Prop} (hgd : Region.wanted o (yielded ops a.tmps) = true) (s x : Operand)
    (ho : o.op = .call { callee := .builtin .append, args := #[s, x], argTypes := #[23, 23] })
    (base : Nat) (v : Value) (n : Nat) (ls : List Nod) (N M : Nat → Prop) (hs : a.eval s = v) (hown : OwnI 4 NodI w base 32 N v n ls) (nd : Nod) (cs : List Value) (hnd : NodI w M cs nd)
    (ad : Addr) (hx : a.eval x = .slice (some ad) 1 1) (hrd : RdS w 4 (some ad) 1 1 cs) (hb : n + 1 ≤ 1000000000) (hbase : base ≤ w.heap.size)
    (hN : ∀ i, N i → v.ownBlock ≠ some i) (hM : ∀ i, M i → v.ownBlock ≠ some i)
    (h : ∀ A' c' w', OwnI 4 NodI w' base 32 (fun i => N i ∨ M i) (.slice A' (n + 1) c') (n + 1) (ls ++ [nd]) → Fr (fun i => v.ownBlock = some i) w w' → ((Value.slice A' (n + 1) c').ownBlock = v.ownBlock ∨ (Value.slice A' (n + 1) c').ownBlock = some w.heap.size) → K (a.put o.dst (.slice A' (n + 1) c')) w') :
    if Region.wanted o (yielded ops a.tmps) = true then Oper.wp Tryz.prog o a w K Q else E := by
  rw [if_pos hgd]
  obtain ⟨i, hi, hz, h1, h2⟩ := info_parts info_node
  obtain ⟨ys, hov, he⟩ := hown.xs
  obtain ⟨v', w', hrun, g1, g2, g3⟩ := run_append_rdS (P := Tryz.prog) w base 23 o.type 32 i _ 4 64 Tryz.underlying23 hi hz h1 h2 rfl (by omega) v n ys hov (some ad) 1 1 cs hrd (nod_ok.one hnd) (by simp only [maxLen]; omega) (by omega) hbase
  unfold Oper.wp execOp
  simp only [ho, resolve, invoke, builtin, Sem.run_bind, Sem.run_pure, Result.andThen_ok, List.map_toArray, List.map_cons, List.map_nil, hs, hx, hrun]
  have hf : Fr (fun k => v.ownBlock = some k) w w' := (Fr.refl _ w).grown g2 (fun g e => .inl e)
  obtain ⟨A', c', rfl, -, -⟩ := RdS.of_own g1
  exact h A' c' w' ⟨⟨ys ++ cs, g1, ItemsF.fr nod_ok (ItemsF.app (ItemsF.mono nod_ok he (fun _ x => .inl x)) (ItemsF.single (nod_ok.mono hnd (fun _ x => .inr x)))) hf (fun k hk => by rcases hk with hk | hk; exact hN k hk; exact hM k hk)⟩⟩ hf g3
end Go.Proofs.YthkjmbkfcnehoaaGreatDoor
