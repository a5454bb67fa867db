/- The texts Items, joined. -/
import Derived.Test.YtpkalnkeafggjaaGreatDoorK01
/- Rows of things of several cells: what they hold, one's own that grow, append onto them. 'I w N cs a': the cells cs are the thing a; what it points to lies in blocks of such numbers (N). No program. -/
namespace Go.Proofs.YtpkalnkeafggjaaGreatDoor
open Go.RowKit
set_option maxHeartbeats 400000
set_option linter.unusedVariables false

/-- the header (A, n, c) holds these cells, s an element -/
structure RdS (w : World) (s : Nat) (A : Option Addr) (n c : Nat) (xs : List Value) : Prop where
  len : xs.length = n * s
  cap : n ≤ c
  max : c ≤ maxLen
  nil : A = none → c = 0
  cells : ∀ ad, A = some ad → ∀ j u, xs[j]? = some u → w.cell? (ad.add j) = some u
variable {w w' : World} {N M S : Nat → Prop} {s : Nat}
theorem RdS.nil_ (w : World) (s : Nat) : RdS w s none 0 0 [] := ⟨by simp, Nat.le_refl _, Nat.zero_le _, fun _ => rfl, fun _ e => nomatch e⟩
theorem RdS.fr {A : Option Addr} {n c : Nat} {xs : List Value} (h : RdS w s A n c xs) (hf : Fr S w w') (hS : ∀ ad, A = some ad → ¬ S ad.block) : RdS w' s A n c xs :=
  ⟨h.len, h.cap, h.max, h.nil, fun ad e j u hu => hf.cell (h.cells ad e j u hu) (by rw [blk_add]; exact hS ad e)⟩
theorem RdS.fr0 {A : Option Addr} {n c : Nat} {xs : List Value} (h : RdS w s A n c xs) (hf : Fr S w w') (hS : ∀ ad, A = some ad → 0 < n → ¬ S ad.block) : RdS w' s A n c xs :=
  ⟨h.len, h.cap, h.max, h.nil, fun ad e j u hu => hf.cell (h.cells ad e j u hu) (by
    rw [blk_add]
    refine hS ad e ?_
    have h1 := (List.getElem?_eq_some_iff.1 hu).1
    rcases Nat.eq_zero_or_pos n with h0 | h0
    · rw [h.len, h0, Nat.zero_mul] at h1; omega
    · exact h0)⟩
theorem RdS.of_own {base : Nat} {e : TypeId} {v : Value} {n : Nat} {xs : List Value} (h : w.ownsRow base e s v n xs) : ∃ A c, v = .slice A n c ∧ RdS w s A n c xs ∧ (∀ ad, A = some ad → base ≤ ad.block ∧ ad.block < w.heap.size) := by
  rcases h.2 with ⟨rfl, rfl⟩ | ⟨g, cap, cur, rfl, hg, hh, hn, hm, hc, hx⟩
  · exact ⟨none, 0, rfl, ⟨h.1, Nat.le_refl _, Nat.zero_le _, fun _ => rfl, fun _ e => nomatch e⟩, fun _ e => nomatch e⟩
  · refine ⟨some ⟨g, 0, none⟩, cap, rfl, ⟨h.1, hn, hm, (fun e => nomatch e), fun ad e j u hu => ?_⟩, fun ad e => ?_⟩
    · injection e with e
      subst e
      have h1 : (⟨g, 0, none⟩ : Addr).add j = ⟨g, j, none⟩ := by unfold Addr.add; split <;> simp_all
      have h2 : cur[j]? = some u := by
        rw [← hx, List.getElem?_take] at hu
        split at hu
        · simpa using hu
        · cases hu
      rw [h1]
      simp [World.cell?, hh, h2]
    · injection e with e
      subst e
      exact ⟨hg, (Array.getElem?_eq_some_iff.1 hh).1⟩
theorem RdS.lt {A : Option Addr} {n c : Nat} {xs : List Value} (h : RdS w s A n c xs) (hn : 0 < n) (hs : 0 < s) : ∀ ad, A = some ad → ad.block < w.heap.size := by
  intro ad e
  have hl : 0 < xs.length := by rw [h.len]; exact Nat.mul_pos hn hs
  have hc := h.cells ad e 0 _ (List.getElem?_eq_getElem hl)
  rcases Nat.lt_or_ge ad.block w.heap.size with h1 | h1
  · exact h1
  · have h2 : (ad.add 0).block = ad.block := blk_add ad 0
    simp [World.cell?, h2, Array.getElem?_eq_none h1] at hc
/-- elements that were just laid in a block of their own -/
theorem RdS.lit (w : World) (cs : List Value) (t : TypeId) (n : Nat) (hn : cs.length = n * s) (hm : n ≤ maxLen) : RdS (w.alloc (.cells cs.toArray t)) s (some ⟨w.heap.size, 0, none⟩) n n cs :=
  ⟨hn, Nat.le_refl _, hm, (fun e => nomatch e), fun ad e j u hu => by
    injection e with e
    subst e
    have h1 : (⟨w.heap.size, 0, none⟩ : Addr).add j = ⟨w.heap.size, j, none⟩ := by unfold Addr.add; split <;> simp_all
    rw [h1, (Bk.new w t cs.toArray).cell j]
    simpa using hu⟩

/-! ### things -/
structure ItemOk {α : Type} (s : Nat) (I : World → (Nat → Prop) → List Value → α → Prop) : Prop where
  len : ∀ {w N cs a}, I w N cs a → cs.length = s
  one : ∀ {w N cs a}, I w N cs a → ∀ u ∈ cs, u.oneCell' = true
  fr : ∀ {w w' N S cs a}, I w N cs a → Fr S w w' → (∀ i, N i → ¬ S i) → I w' N cs a
  mono : ∀ {w N M cs a}, I w N cs a → (∀ i, N i → M i) → I w M cs a
variable {α : Type} {I : World → (Nat → Prop) → List Value → α → Prop}
def ItemsF (I : World → (Nat → Prop) → List Value → α → Prop) (w : World) (N : Nat → Prop) : List Value → List α → Prop
  | xs, [] => xs = []
  | xs, a :: ls => ∃ cs rest, xs = cs ++ rest ∧ I w N cs a ∧ ItemsF I w N rest ls
theorem ItemsF.fr (hI : ItemOk s I) : ∀ {ls : List α} {xs : List Value} (h : ItemsF I w N xs ls) (hf : Fr S w w') (hS : ∀ i, N i → ¬ S i), ItemsF I w' N xs ls
  | [], _, h, _, _ => h
  | _ :: _, _, ⟨cs, rest, e, h1, h2⟩, hf, hS => ⟨cs, rest, e, hI.fr h1 hf hS, ItemsF.fr hI h2 hf hS⟩
theorem ItemsF.mono (hI : ItemOk s I) : ∀ {ls : List α} {xs : List Value} (h : ItemsF I w N xs ls) (hM : ∀ i, N i → M i), ItemsF I w M xs ls
  | [], _, h, _ => h
  | _ :: _, _, ⟨cs, rest, e, h1, h2⟩, hM => ⟨cs, rest, e, hI.mono h1 hM, ItemsF.mono hI h2 hM⟩
theorem ItemsF.len (hI : ItemOk s I) : ∀ {ls : List α} {xs : List Value} (h : ItemsF I w N xs ls), xs.length = ls.length * s
  | [], _, h => by rw [show _ = [] from h]; simp
  | a :: ls, _, ⟨cs, rest, e, h1, h2⟩ => by
    rw [e, List.length_append, hI.len h1, ItemsF.len hI h2, List.length_cons, Nat.add_mul]
    omega
theorem ItemsF.one (hI : ItemOk s I) : ∀ {ls : List α} {xs : List Value} (h : ItemsF I w N xs ls), ∀ u ∈ xs, u.oneCell' = true
  | [], _, h, u, hu => by rw [show _ = [] from h] at hu; cases hu
  | a :: ls, _, ⟨cs, rest, e, h1, h2⟩, u, hu => by
    rw [e] at hu
    rcases List.mem_append.1 hu with hu | hu
    · exact hI.one h1 u hu
    · exact ItemsF.one hI h2 u hu
theorem ItemsF.app : ∀ {ls bs : List α} {xs ys : List Value} (h : ItemsF I w N xs ls) (k : ItemsF I w N ys bs), ItemsF I w N (xs ++ ys) (ls ++ bs)
  | [], bs, xs, ys, h, k => by rw [show xs = [] from h]; exact k
  | a :: ls, bs, _, ys, ⟨cs, rest, e, h1, h2⟩, k => ⟨cs, rest ++ ys, by rw [e, List.append_assoc], h1, ItemsF.app h2 k⟩
theorem ItemsF.single {cs : List Value} {a : α} (h : I w N cs a) : ItemsF I w N cs [a] := ⟨cs, [], by simp, h, rfl⟩
theorem ItemsF.at_ (hI : ItemOk s I) : ∀ {ls : List α} {xs : List Value} (h : ItemsF I w N xs ls) (i : Nat) (hi : i < ls.length), I w N ((xs.drop (i * s)).take s) (ls[i]'hi)
  | [], _, _, i, hi => by simp at hi
  | a :: ls, _, ⟨cs, rest, e, h1, h2⟩, 0, hi => by
    rw [e, Nat.zero_mul, List.drop_zero, List.take_left' (hI.len h1)]
    exact h1
  | a :: ls, _, ⟨cs, rest, e, h1, h2⟩, i + 1, hi => by
    have h := ItemsF.at_ hI h2 i (by simpa using hi)
    have e2 : (i + 1) * s = cs.length + i * s := by rw [hI.len h1, Nat.add_mul]; omega
    rw [e, e2, List.drop_append, List.drop_eq_nil_of_le (by omega), List.nil_append, Nat.add_sub_cancel_left]
    simpa using h
/-- a slice of things -/
structure RdI (s : Nat) (I : World → (Nat → Prop) → List Value → α → Prop) (w : World) (N : Nat → Prop) (A : Option Addr) (n c : Nat) (ls : List α) : Prop where
  xs : ∃ xs, RdS w s A n c xs ∧ ItemsF I w N xs ls
  blk : ∀ ad, A = some ad → 0 < n → N ad.block
variable {A : Option Addr} {n c : Nat} {ls bs : List α}
theorem RdI.nil_ (s : Nat) (I : World → (Nat → Prop) → List Value → α → Prop) (w : World) (N : Nat → Prop) : RdI s I w N none 0 0 [] := ⟨⟨[], RdS.nil_ w s, rfl⟩, fun _ e => nomatch e⟩
theorem RdI.fr (hI : ItemOk s I) (h : RdI s I w N A n c ls) (hf : Fr S w w') (hS : ∀ i, N i → ¬ S i) : RdI s I w' N A n c ls :=
  let ⟨xs, hr, he⟩ := h.xs
  ⟨⟨xs, hr.fr0 hf (fun ad e h0 => hS _ (h.blk ad e h0)), ItemsF.fr hI he hf hS⟩, h.blk⟩
theorem RdI.no (hI : ItemOk s I) (h : RdI s I w N A n c ls) (hf : Fr No w w') : RdI s I w' N A n c ls := h.fr hI hf (fun _ _ x => x)
theorem RdI.dr (hI : ItemOk s I) (h : RdI s I w N A n c ls) (hf : Dr w w') : RdI s I w' N A n c ls := h.no hI hf.fr
theorem RdI.mono (hI : ItemOk s I) (h : RdI s I w N A n c ls) (hM : ∀ i, N i → M i) : RdI s I w M A n c ls :=
  let ⟨xs, hr, he⟩ := h.xs
  ⟨⟨xs, hr, ItemsF.mono hI he hM⟩, fun ad e h0 => hM _ (h.blk ad e h0)⟩
theorem RdI.len (hI : ItemOk s I) (hs : 0 < s) (h : RdI s I w N A n c ls) : ls.length = n := by
  obtain ⟨xs, hr, he⟩ := h.xs
  have h1 := ItemsF.len hI he
  rw [hr.len] at h1
  exact (Nat.eq_of_mul_eq_mul_right hs h1).symm
theorem RdI.top (h : RdI s I w N A n c ls) : n ≤ 9223372036854775807 := by
  obtain ⟨xs, hr, _⟩ := h.xs
  have h1 := hr.cap
  have h2 := hr.max
  simp only [maxLen] at h2
  omega
/-- the cells of one of them -/
theorem RdI.at_ (hI : ItemOk s I) (hs : 0 < s) (h : RdI s I w N A n c ls) {i : Nat} (hi : i < ls.length) :
    ∃ ad cs, A = some ad ∧ I w N cs ls[i] ∧ ∀ j u, cs[j]? = some u → w.cell? (ad.add (i * s + j)) = some u := by
  have hn := h.len hI hs
  obtain ⟨xs, hr, he⟩ := h.xs
  have hat := ItemsF.at_ hI he i hi
  cases A with
  | none =>
    have := hr.nil rfl
    have := hr.cap
    omega
  | some ad =>
    refine ⟨ad, _, rfl, hat, fun j u hu => hr.cells ad rfl _ u ?_⟩
    rw [List.getElem?_take] at hu
    split at hu
    · rw [List.getElem?_drop] at hu
      exact hu
    · cases hu
/-- a row of things of one's own, growing -/
structure OwnI (s : Nat) (I : World → (Nat → Prop) → List Value → α → Prop) (w : World) (base : Nat) (e : TypeId) (N : Nat → Prop) (v : Value) (n : Nat) (ls : List α) : Prop where
  xs : ∃ xs, w.ownsRow base e s v n xs ∧ ItemsF I w N xs ls
variable {base : Nat} {e : TypeId} {v : Value}
theorem OwnI.nil_ (s : Nat) (I : World → (Nat → Prop) → List Value → α → Prop) (w : World) (base : Nat) (e : TypeId) (N : Nat → Prop) : OwnI s I w base e N (.slice none 0 0) 0 [] := ⟨⟨[], ⟨by simp, .inl ⟨rfl, rfl⟩⟩, rfl⟩⟩
theorem OwnI.rd (h : OwnI s I w base e N v n ls) (hN : ∀ i, base ≤ i → i < w.heap.size → N i) : ∃ A c, v = .slice A n c ∧ RdI s I w N A n c ls := by
  obtain ⟨xs, ho, he⟩ := h.xs
  obtain ⟨A, c, rfl, hr, hb⟩ := RdS.of_own ho
  exact ⟨A, c, rfl, ⟨xs, hr, he⟩, fun ad ea _ => hN _ (hb ad ea).1 (hb ad ea).2⟩
theorem OwnI.rd' (h : OwnI s I w base e N v n ls) (hN : ∀ i, v.ownBlock = some i → M i) (hI : ItemOk s I) (hM : ∀ i, N i → M i) : ∃ A c, v = .slice A n c ∧ RdI s I w M A n c ls := by
  obtain ⟨xs, ho, he⟩ := h.xs
  obtain ⟨A, c, rfl, hr, hb⟩ := RdS.of_own ho
  refine ⟨A, c, rfl, ⟨xs, hr, ItemsF.mono hI he hM⟩, fun ad ea _ => hN _ ?_⟩
  rcases ho.2 with ⟨h1, _⟩ | ⟨g, cap, cur, h1, _⟩
  · injection h1 with h1
    rw [h1] at ea
    cases ea
  · injection h1 with h1
    rw [h1] at ea ⊢
    injection ea with ea
    rw [← ea]
    rfl
theorem OwnI.fr (hI : ItemOk s I) (h : OwnI s I w base e N v n ls) (hf : Fr S w w') (hS : ∀ i, N i → ¬ S i) (hv : ∀ g, v.ownBlock = some g → ¬ S g) : OwnI s I w' base e N v n ls :=
  let ⟨xs, ho, he⟩ := h.xs
  ⟨⟨xs, hf.own ho hv, ItemsF.fr hI he hf hS⟩⟩
theorem OwnI.no (hI : ItemOk s I) (h : OwnI s I w base e N v n ls) (hf : Fr No w w') : OwnI s I w' base e N v n ls := h.fr hI hf (fun _ _ x => x) (fun _ _ x => x)
theorem OwnI.mono (hI : ItemOk s I) (h : OwnI s I w base e N v n ls) (hM : ∀ i, N i → M i) : OwnI s I w base e M v n ls :=
  let ⟨xs, ho, he⟩ := h.xs
  ⟨⟨xs, ho, ItemsF.mono hI he hM⟩⟩
theorem OwnI.low {b : Nat} (hI : ItemOk s I) (h : OwnI s I w base e N v n ls) (hb : b ≤ base) : OwnI s I w b e N v n ls := by
  obtain ⟨xs, ho, he⟩ := h.xs
  refine ⟨xs, ⟨ho.1, ?_⟩, he⟩
  rcases ho.2 with hn | ⟨g, cap, cur, e1, hg, r⟩
  · exact .inl hn
  · exact .inr ⟨g, cap, cur, e1, Nat.le_trans hb hg, r⟩
theorem OwnI.lt (h : OwnI s I w base e N v n ls) : ∀ i, v.ownBlock = some i → base ≤ i ∧ i < w.heap.size := by
  obtain ⟨xs, ho, _⟩ := h.xs
  exact fun i hi => ho.lt i hi

/-! ### append onto a row of things of one's own -/
section
variable {P : Program} (w : World)
theorem run_append_rdS (base : Nat) (t ty e : TypeId) (i : TypeInfo) (z : Value) (s bytes : Nat) (ht : P.underlying t = some (.slice e)) (hi : P.info? e = some i) (hz : i.zero = some z)
    (hsize : i.size = s) (hby : i.bytes = bytes) (hzs : z.cells.size = s) (hs : 0 < s)
    (v : Value) (n : Nat) (xs : List Value) (hown : w.ownsRow base e s v n xs)
    (A : Option Addr) (m c : Nat) (news : List Value) (hr : RdS w s A m c news) (h1 : ∀ u ∈ news, u.oneCell' = true)
    (h63 : n + m ≤ maxLen) (hbytes : (n + m) * bytes ≤ 140737488355328) (hbase : base ≤ w.heap.size) :
    ∃ v' w', (Builtin.append_ #[t, t] ty #[v, .slice A m c]).run P w = .ok v' w' ∧ w'.ownsRow base e s v' (n + m) (xs ++ news) ∧ w.grownBy w' v.ownBlock ∧
      (v'.ownBlock = v.ownBlock ∨ v'.ownBlock = some w.heap.size) := by
  cases A with
  | none =>
    have hc := hr.nil rfl
    have hn := hr.cap
    have hm : m = 0 := by omega
    subst hm hc
    have hn : news = [] := List.eq_nil_of_length_eq_zero (by have := hr.len; omega)
    subst hn
    refine ⟨v, w, ?_, by simpa using hown, World.grownBy.refl w _, .inl rfl⟩
    rcases hown.2 with ⟨rfl, rfl⟩ | ⟨g, cap, cur, rfl, _, _, hnc, _⟩
    · simp [Builtin.append_, run_underlying ht, sizeOf, typeInfo, hi, Builtin.lenOf, Builtin.firstCells]
    · simp [Builtin.append_, run_underlying ht, sizeOf, typeInfo, hi, Builtin.lenOf, Builtin.firstCells, hnc, storeCells]
  | some ad =>
    obtain ⟨v', w', hrun, h2, h3, _, h5⟩ := run_append_own_at (P := P) w base t ty e i z s bytes ht hi hz hsize hby hzs hs v n xs hown ad m c news hr.len (hr.cells ad rfl) h1 h63 hbytes hbase
    exact ⟨v', w', hrun, h2, h3, h5⟩
theorem wpList_append_rdS {ops : Array Oper} {rest : List Oper} {o : Oper} {a : Act} {Q : Exit → Act → World → Prop} (hgd : Region.wanted o (yielded ops a.tmps) = true) (sl x : Operand) (t : TypeId)
    (ho : o.op = .call { callee := .builtin .append, args := #[sl, x], argTypes := #[t, t] })
    (base : Nat) (e : TypeId) (i : TypeInfo) (z : Value) (s bytes : Nat) (ht : P.underlying t = some (.slice e)) (hi : P.info? e = some i) (hz : i.zero = some z)
    (hsize : i.size = s) (hby : i.bytes = bytes) (hzs : z.cells.size = s) (hs : 0 < s)
    (v : Value) (n : Nat) (xs : List Value) (hsl : a.eval sl = v) (hown : w.ownsRow base e s v n xs)
    (A : Option Addr) (m c : Nat) (news : List Value) (hx : a.eval x = .slice A m c) (hr : RdS w s A m c news) (h1 : ∀ u ∈ news, u.oneCell' = true)
    (h63 : n + m ≤ maxLen) (hbytes : (n + m) * bytes ≤ 140737488355328) (hbase : base ≤ w.heap.size)
    (h : ∀ v' w', w'.ownsRow base e s v' (n + m) (xs ++ news) → w.grownBy w' v.ownBlock → (v'.ownBlock = v.ownBlock ∨ v'.ownBlock = some w.heap.size) → wpList P ops Q rest (a.put o.dst v') w') :
    wpList P ops Q (o :: rest) a w := by
  refine wpList_go hgd fun K hK => ?_
  obtain ⟨v', w', hrun, h2, h3, h5⟩ := run_append_rdS (P := P) w base t o.type e i z s bytes ht hi hz hsize hby hzs hs v n xs hown A m c news hr h1 h63 hbytes hbase
  unfold Oper.wp execOp
  simp only [ho, resolve, invoke, builtin, Sem.run_bind, Sem.run_pure, Result.andThen_ok, List.map_toArray, List.map_cons, List.map_nil, hsl, hx, hrun]
  exact hK _ _ (h v' w' h2 h3 h5)
/-- things behind things -/
theorem apI' (hI : ItemOk s I) (hs : 0 < s) {ops : Array Oper} {rest : List Oper} {o : Oper} {a : Act} {Q : Exit → Act → World → Prop} (hgd : Region.wanted o (yielded ops a.tmps) = true) (sl x : Operand) (t : TypeId)
    (ho : o.op = .call { callee := .builtin .append, args := #[sl, x], argTypes := #[t, t] })
    (base : Nat) (e : TypeId) (i : TypeInfo) (z : Value) (bytes : Nat) (ht : P.underlying t = some (.slice e)) (hi : P.info? e = some i) (hz : i.zero = some z)
    (hsize : i.size = s) (hby : i.bytes = bytes) (hzs : z.cells.size = s)
    (v : Value) (n : Nat) (ls bs : List α) (hsl : a.eval sl = v) (hown : OwnI s I w base e N v n ls)
    (A : Option Addr) (m c : Nat) (hx : a.eval x = .slice A m c) (hr : RdI s I w N A m c bs)
    (h63 : n + m ≤ maxLen) (hbytes : (n + m) * bytes ≤ 140737488355328) (hbase : base ≤ w.heap.size) (hN : ∀ i, N i → v.ownBlock ≠ some i)
    (h : ∀ v' w', OwnI s I w' base e N v' (n + m) (ls ++ bs) → w.grownBy w' v.ownBlock → (v'.ownBlock = v.ownBlock ∨ v'.ownBlock = some w.heap.size) → wpList P ops Q rest (a.put o.dst v') w') :
    wpList P ops Q (o :: rest) a w := by
  obtain ⟨xs, hov, he⟩ := hown.xs
  obtain ⟨ys, hry, hye⟩ := hr.xs
  refine wpList_append_rdS w hgd sl x t ho base e i z s bytes ht hi hz hsize hby hzs hs v n xs hsl hov A m c ys hx hry (ItemsF.one hI hye) h63 hbytes hbase ?_
  intro v' w' g1 g2 g3
  have hf : Fr (fun k => v.ownBlock = some k) w w' := (Fr.refl _ w).grown g2 (fun g e => .inl e)
  exact h v' w' ⟨⟨xs ++ ys, g1, ItemsF.fr hI (ItemsF.app he hye) hf (fun k hk => hN k hk)⟩⟩ g2 g3
/-- things behind things, the new ones' cells known (where their row lies plays no part) -/
theorem apI2 (hI : ItemOk s I) (hs : 0 < s) {ops : Array Oper} {rest : List Oper} {o : Oper} {a : Act} {Q : Exit → Act → World → Prop} (hgd : Region.wanted o (yielded ops a.tmps) = true) (sl x : Operand) (t : TypeId)
    (ho : o.op = .call { callee := .builtin .append, args := #[sl, x], argTypes := #[t, t] })
    (base : Nat) (e : TypeId) (i : TypeInfo) (z : Value) (bytes : Nat) (ht : P.underlying t = some (.slice e)) (hi : P.info? e = some i) (hz : i.zero = some z)
    (hsize : i.size = s) (hby : i.bytes = bytes) (hzs : z.cells.size = s)
    (v : Value) (n : Nat) (ls bs : List α) (hsl : a.eval sl = v) (hown : OwnI s I w base e N v n ls)
    (A : Option Addr) (m c : Nat) (hx : a.eval x = .slice A m c) (ys : List Value) (hry : RdS w s A m c ys) (hye : ItemsF I w N ys bs)
    (h63 : n + m ≤ maxLen) (hbytes : (n + m) * bytes ≤ 140737488355328) (hbase : base ≤ w.heap.size) (hN : ∀ i, N i → v.ownBlock ≠ some i)
    (h : ∀ v' w', OwnI s I w' base e N v' (n + m) (ls ++ bs) → w.grownBy w' v.ownBlock → (v'.ownBlock = v.ownBlock ∨ v'.ownBlock = some w.heap.size) → wpList P ops Q rest (a.put o.dst v') w') :
    wpList P ops Q (o :: rest) a w := by
  obtain ⟨xs, hov, he⟩ := hown.xs
  refine wpList_append_rdS w hgd sl x t ho base e i z s bytes ht hi hz hsize hby hzs hs v n xs hsl hov A m c ys hx hry (ItemsF.one hI hye) h63 hbytes hbase ?_
  intro v' w' g1 g2 g3
  have hf : Fr (fun k => v.ownBlock = some k) w w' := (Fr.refl _ w).grown g2 (fun g e => .inl e)
  exact h v' w' ⟨⟨xs ++ ys, g1, ItemsF.fr hI (ItemsF.app he hye) hf (fun k hk => hN k hk)⟩⟩ g2 g3
end
end Go.Proofs.YtpkalnkeafggjaaGreatDoor
