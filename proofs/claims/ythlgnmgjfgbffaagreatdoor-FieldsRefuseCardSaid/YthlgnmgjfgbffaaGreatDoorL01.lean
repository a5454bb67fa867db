/- The texts Base, Items, Help0, joined. -/
import Derived.Test.YthlgnmgjfgbffaaGreatDoorRows
import Derived.WalkKit
import Derived.WalkSpells
import Derived.Handy
import Derived.ProofKit
import Derived.OpenShut
import Derived.Carry
import Derived.Lib.Hide
import Derived.Deep.Draws
import Derived.Deep.AppendLies
import Derived.Deep.QuietTactic
import Derived.BigQuiet
import Derived.Maps.AppendAt
import Derived.Laws.BytesArg
import Derived.Laws.CopyOwn
import Derived.StillTailTactics
import Derived.Lib.ItoaWalk
/- What slices of plain elements hold in a world, how that is kept, and how a law's last step is shut: plain lemmas over any program; no condition. -/
namespace Go.Proofs.YthlgnmgjfgbffaaGreatDoor
open Go.RowKit Go.ChangeShapes Go.WideShapes Go.ChangeAt
set_option linter.unusedVariables false

/-- only blocks of S that were there may have turned -/
structure Fr (S : Nat → Prop) (w w' : World) : Prop where
  os : w'.os = w.os
  tape : w'.tape = w.tape
  output : w'.output = w.output
  size : w.heap.size ≤ w'.heap.size
  block : ∀ k, k < w.heap.size → ¬ S k → w'.heap[k]? = w.heap[k]?

def No : Nat → Prop := fun _ => False
def Just (g : Nat) : Nat → Prop := fun k => k = g
theorem Just.at (g : Nat) : Just g g := rfl

section
variable {S T : Nat → Prop} {a b c w w' : World} {row : Option Nat}
theorem Fr.refl (S : Nat → Prop) (w : World) : Fr S w w := ⟨rfl, rfl, rfl, Nat.le_refl _, fun _ _ _ => rfl⟩
theorem Fr.trans (h : Fr S a b) (k : Fr S b c) : Fr S a c :=
  ⟨k.os.trans h.os, k.tape.trans h.tape, k.output.trans h.output, Nat.le_trans h.size k.size, fun i hi hn => (k.block i (Nat.lt_of_lt_of_le hi h.size) hn).trans (h.block i hi hn)⟩
/-- what is written is old and in S, or new -/
theorem Fr.trans_new (h : Fr S a b) (k : Fr T b c) (hT : ∀ i, T i → S i ∨ a.heap.size ≤ i) : Fr S a c :=
  ⟨k.os.trans h.os, k.tape.trans h.tape, k.output.trans h.output, Nat.le_trans h.size k.size, fun i hi hn => (k.block i (Nat.lt_of_lt_of_le hi h.size) (fun ht => by rcases hT i ht with x | x; exact hn x; omega)).trans (h.block i hi hn)⟩
theorem Fr.trans_just {g : Nat} (h : Fr No a b) (k : Fr (Just g) b c) (hg : a.heap.size ≤ g) : Fr No a c := h.trans_new k (fun i hi => .inr (by rw [show i = g from hi]; exact hg))
theorem Fr.mono (h : Fr S a b) (hT : ∀ i, S i → T i) : Fr T a b := ⟨h.os, h.tape, h.output, h.size, fun i hi hn => h.block i hi (fun x => hn (hT i x))⟩
theorem Fr.no (h : Fr No a b) : Fr S a b := h.mono (fun _ x => x.elim)
theorem Fr.drew (h : Fr S a b) : Fr S a b.drew := ⟨h.os, h.tape, h.output, h.size, h.block⟩
theorem Fr.drewN (h : Fr S a b) (n : Nat) : Fr S a (b.drewN n) := ⟨h.os, h.tape, h.output, h.size, h.block⟩
theorem Fr.alloc (h : Fr S a b) (o : Obj) : Fr S a (b.alloc o) :=
  ⟨h.os, h.tape, h.output, Nat.le_trans h.size (by simp), fun i hi hne => (Below.heap_alloc b o i (Nat.lt_of_lt_of_le hi h.size)).trans (h.block i hi hne)⟩
theorem Fr.setCell (h : Fr S a b) {p : Addr} (hp : S p.block ∨ a.heap.size ≤ p.block) (u : Value) : Fr S a (b.setCell p u) :=
  ⟨h.os, h.tape, h.output, by simpa [World.setCell] using h.size, fun i hi hne => (Below.heap_setCell b p u i (by
    rintro rfl
    rcases hp with hp | hp
    · exact hne hp
    · omega)).trans (h.block i hi hne)⟩
theorem Fr.grown (h : Fr S a b) (hg : b.grownBy c row) (hr : ∀ g, row = some g → S g ∨ a.heap.size ≤ g) : Fr S a c :=
  ⟨hg.os.trans h.os, hg.tape.trans h.tape, hg.output.trans h.output, Nat.le_trans h.size hg.size, fun i hi hne => (hg.block i (Nat.lt_of_lt_of_le hi h.size) (fun e => by
    rcases hr i e.symm with x | x
    · exact hne x
    · omega)).trans (h.block i hi hne)⟩
theorem Fr.below (h : Fr S a b) (hk : Below b.heap.size b c) : Fr S a c :=
  ⟨hk.os.trans h.os, hk.tape.trans h.tape, hk.output.trans h.output, Nat.le_trans h.size hk.size, fun i hi hne => (hk.block i (Nat.lt_of_lt_of_le hi h.size)).trans (h.block i hi hne)⟩
theorem Fr.of_below (h : Below a.heap.size a b) : Fr S a b := (Fr.refl S a).below h
theorem Fr.toBelow (h : Fr No a b) : Below a.heap.size a b := ⟨h.os, h.tape, h.output, h.size, fun k hk => h.block k hk (fun x => x)⟩
/-- of what was new nothing old is touched -/
theorem Fr.toBelow' (h : Fr S a b) (hS : ∀ i, S i → a.heap.size ≤ i) : Below a.heap.size a b := ⟨h.os, h.tape, h.output, h.size, fun k hk => h.block k hk (fun x => by have := hS k x; omega)⟩
theorem Fr.heap (h : Fr S a b) {k : Nat} {o : Obj} (ho : a.heap[k]? = some o) (hk : ¬ S k) : b.heap[k]? = some o :=
  (h.block k (Array.getElem?_eq_some_iff.1 ho).1 hk).trans ho
theorem Fr.cell (h : Fr S a b) {p : Addr} {u : Value} (hp : a.cell? p = some u) (hk : ¬ S p.block) : b.cell? p = some u :=
  (World.cell?_of_block (h.block p.block (World.block_lt_of_cell? a p hp) hk)).trans hp
theorem Fr.grownNone (h : Fr No a b) : a.grownBy b none := ⟨h.os, h.tape, h.output, h.size, fun k hk _ => h.block k hk (fun x => x)⟩
theorem Fr.own (h : Fr S a b) {base : Nat} {e : TypeId} {size : Nat} {v : Value} {n : Nat} {xs : List Value} (ho : a.ownsRow base e size v n xs) (hS : ∀ g, v.ownBlock = some g → ¬ S g) : b.ownsRow base e size v n xs := by
  refine ⟨ho.1, ?_⟩
  rcases ho.2 with hn | ⟨g, cap, cur, rfl, hb, hgg, rest⟩
  · exact .inl hn
  · exact .inr ⟨g, cap, cur, rfl, hb, h.heap hgg (hS g rfl), rest⟩
end

/-- nothing has turned but how many answers were drawn -/
def Dr (a b : World) : Prop := ∃ n, b = a.drewN n
theorem Dr.refl (a : World) : Dr a a := ⟨0, rfl⟩
theorem Dr.drewN {a b : World} (h : Dr a b) (n : Nat) : Dr a (b.drewN n) := by
  obtain ⟨m, rfl⟩ := h
  exact ⟨m + n, by rw [World.drewN_drewN]⟩
theorem Dr.drew {a b : World} (h : Dr a b) : Dr a b.drew := h.drewN 1
theorem Dr.trans {a b c : World} (h : Dr a b) (k : Dr b c) : Dr a c := by
  obtain ⟨m, rfl⟩ := k
  exact h.drewN m
theorem Dr.heap {a b : World} (h : Dr a b) : b.heap = a.heap := by
  obtain ⟨m, rfl⟩ := h
  rfl
theorem Dr.cell {a b : World} (h : Dr a b) (p : Addr) : b.cell? p = a.cell? p := by
  simp only [World.cell?, h.heap]
theorem Dr.frozen {a b : World} (h : Dr a b) (p : Addr) : b.frozen? p = a.frozen? p := by
  simp only [World.frozen?, h.heap]
theorem Fr.dr {S : Nat → Prop} {a b c : World} (h : Fr S a b) (k : Dr b c) : Fr S a c := by
  obtain ⟨m, rfl⟩ := k
  exact h.drewN m
theorem Dr.fr {S : Nat → Prop} {a b : World} (h : Dr a b) : Fr S a b := (Fr.refl S a).dr h
/-- for a region that draws: a callee that leaves the world alone, or draws -/
theorem quiet_same {P : Program} {f : FuncId} {args : Array Value} {w : World} {n : Nat} {v : Value}
    (h : Calls P f args (w.drewN n) fun e w' => e = .returned v ∧ w.drewN n = w') : Calls P f args (w.drewN n) fun e w'' => e = .returned v ∧ ∃ m, w'' = w.drewN m :=
  h.mono fun _ _ ⟨he, hm⟩ => ⟨he, n, hm.symm⟩
theorem quiet_dr {P : Program} {f : FuncId} {args : Array Value} {w : World} {n : Nat} {v : Value}
    (h : Calls P f args (w.drewN n) fun e w' => e = .returned v ∧ Dr (w.drewN n) w') : Calls P f args (w.drewN n) fun e w'' => e = .returned v ∧ ∃ m, w'' = w.drewN m :=
  h.mono fun _ _ ⟨he, m, hm⟩ => ⟨he, n + m, by rw [hm, World.drewN_drewN]⟩

/-- a region that draws its order: n operations that only read, then a tail in a forced order -/
theorem wp_region_reads {P : Program} {id : Nat} {Q : Exit → Act → World → Prop} {a : Act} {w : World} {l : List Oper} (n : Nat) (hm : P.follows .mixedOrders = true) (hB : Region.lexTailB .any l.toArray n = true)
    (h : ∀ w', Dr w w' → wpStill P l.toArray w' (fun a' => wpList P l.toArray Q (l.drop n) a' w') (l.take n) a) : (Code.region id l.toArray true).wp P Q a w :=
  wp_region_still_tail n hm hB (h w.drew (Dr.refl w).drew)

/-- a slice's header holds these one-cell elements -/
structure Rd (w : World) (A : Option Addr) (n c : Nat) (xs : List Value) : Prop where
  len : xs.length = n
  cap : n ≤ c
  max : c ≤ maxLen
  nil : A = none → c = 0
  cells : ∀ ad, A = some ad → ∀ j u, xs[j]? = some u → w.cell? (ad.add j) = some u

theorem blk_add (a : Addr) (n : Nat) : (a.add n).block = a.block := by unfold Addr.add; split <;> rfl
theorem add_add (a : Addr) (i j : Nat) : (a.add i).add j = a.add (i + j) := by
  unfold Addr.add
  by_cases hi : i = 0 <;> by_cases hj : j = 0 <;> simp [hi, hj, Nat.add_assoc]

section
variable {S : Nat → Prop} {w w' : World} {A : Option Addr} {n c : Nat} {xs : List Value}
theorem Rd.nil_ (w : World) : Rd w none 0 0 [] := ⟨rfl, Nat.le_refl _, Nat.zero_le _, (fun _ => rfl), (fun _ h => nomatch h)⟩
theorem Rd.fr (h : Rd w A n c xs) (hf : Fr S w w') (hS : ∀ ad, A = some ad → ¬ S ad.block) : Rd w' A n c xs :=
  ⟨h.len, h.cap, h.max, h.nil, fun ad e j u hu => hf.cell (h.cells ad e j u hu) (by rw [blk_add]; exact hS ad e)⟩
theorem Rd.no (h : Rd w A n c xs) (hf : Fr No w w') : Rd w' A n c xs := h.fr hf (fun _ _ x => x)
theorem Rd.dr (h : Rd w A n c xs) (hf : Dr w w') : Rd w' A n c xs := h.no hf.fr
/-- an element's cell -/
theorem Rd.at_ (h : Rd w A n c xs) {k : Nat} (hk : k < n) : ∃ ad u, A = some ad ∧ xs[k]? = some u ∧ w.cell? (ad.add k) = some u := by
  have hl : k < xs.length := by have := h.len; omega
  cases A with
  | none => have := h.nil rfl; have := h.cap; omega
  | some ad => exact ⟨ad, xs[k], rfl, List.getElem?_eq_getElem hl, h.cells ad rfl k _ (List.getElem?_eq_getElem hl)⟩
theorem Rd.lt (h : Rd w A n c xs) (hn : 0 < n) : ∀ ad, A = some ad → ad.block < w.heap.size := by
  intro ad e
  obtain ⟨ad', u, e', _, hc⟩ := h.at_ hn
  rw [e] at e'
  injection e' with e'
  subst e'
  have := World.block_lt_of_cell? _ _ hc
  rwa [blk_add] at this
theorem Rd.of_own {base : Nat} {e : TypeId} {v : Value} (h : w.ownsRow base e 1 v n xs) : ∃ A c, v = .slice A n c ∧ Rd w A n c xs ∧ (∀ ad, A = some ad → base ≤ ad.block ∧ ad.block < w.heap.size) := by
  have h1 := h.1
  rcases h.2 with ⟨rfl, rfl⟩ | ⟨g, cap, cur, rfl, hb, hg, hn, hm, hc, ht⟩
  · have : xs = [] := List.eq_nil_of_length_eq_zero (by simpa using h1)
    subst this
    exact ⟨none, 0, rfl, Rd.nil_ w, (fun _ e => nomatch e)⟩
  · refine ⟨some ⟨g, 0, none⟩, cap, rfl, ⟨by simpa using h1, hn, hm, (fun e => nomatch e), ?_⟩, ?_⟩
    · intro ad e j u hu
      injection e with e
      subst e
      exact h.cells (g := g) rfl j u hu
    · intro ad e
      injection e with e
      subst e
      exact ⟨hb, (Array.getElem?_eq_some_iff.1 hg).1⟩
theorem Rd.cut {k m : Nat} (h : Rd w A n c xs) (hk : k ≤ m) (hm : m ≤ n) :
    Rd w (if c = k then A else A.map (·.add k)) (m - k) (c - k) ((xs.take m).drop k) := by
  have h1 := h.len
  have h2 := h.cap
  have h3 := h.max
  refine ⟨by rw [List.length_drop, List.length_take]; omega, by omega, by omega, ?_, ?_⟩
  · intro e
    split at e
    · omega
    · rw [Option.map_eq_none_iff] at e
      have := h.nil e
      omega
  · intro ad e j u hu
    rw [List.getElem?_drop, List.getElem?_take] at hu
    split at hu
    · split at e
      · omega
      · obtain ⟨ad', rfl, rfl⟩ := Option.map_eq_some_iff.1 e
        rw [add_add]
        exact h.cells ad' rfl _ u hu
    · cases hu
end

/-- a value of a slice that holds these -/
def SlV (w : World) (v : Value) (xs : List Value) : Prop := ∃ A n c, v = .slice A n c ∧ Rd w A n c xs

def u8s (l : List UInt8) : List Value := l.map fun b => .int .u8 (b.toNat : Int)
@[simp] theorem u8s_length (l : List UInt8) : (u8s l).length = l.length := by simp [u8s]
theorem u8s_get (l : List UInt8) (k : Nat) (h : k < l.length) : (u8s l)[k]? = some (.int .u8 (l[k].toNat : Int)) := by
  simp [u8s, h]
theorem u8s_append (l m : List UInt8) : u8s (l ++ m) = u8s l ++ u8s m := by simp [u8s]
theorem u8s_one (l : List UInt8) : ∀ u ∈ u8s l, u.oneCell' = true := by
  intro u hu
  simp only [u8s, List.mem_map] at hu
  obtain ⟨b, _, rfl⟩ := hu
  rfl
theorem u8s_inj {l m : List UInt8} (h : u8s l = u8s m) : l = m := by
  induction l generalizing m with
  | nil => cases m with
    | nil => rfl
    | cons => simp [u8s] at h
  | cons a l ih => cases m with
    | nil => simp [u8s] at h
    | cons b m =>
      simp only [u8s, List.map_cons, List.cons.injEq, Value.int.injEq, true_and] at h
      have : a = b := UInt8.toNat_inj.1 (by omega)
      subst this
      rw [ih (m := m) (by simpa [u8s] using h.2)]

theorem u8s_cut (b : List UInt8) (k m : Nat) : ((u8s b).take (k + m)).drop k = u8s ((b.drop k).take m) := by
  simp only [u8s, ← List.map_take, ← List.map_drop]
  rw [List.drop_take, Nat.add_sub_cancel_left]

/-- a text of these bytes -/
def bstr (l : List UInt8) : ByteArray := ⟨l.toArray⟩
@[simp] theorem bstr_size (l : List UInt8) : (bstr l).size = l.length := by simp [bstr, ByteArray.size]
theorem bstr_inj {l m : List UInt8} (h : bstr l = bstr m) : l = m := by
  simp only [bstr, ByteArray.mk.injEq] at h
  simpa using congrArg Array.toList h

@[simp] theorem bstr_toList (l : List UInt8) : (bstr l).toList = l := by
  have : ∀ b : ByteArray, b.toList = b.data.toList := fun b => ByteArray.toList_eq b
  rw [this]; simp [bstr]

/-- string(b) -/
theorem run_string {P : Program} {w : World} {A : Option Addr} {n c : Nat} {l : List UInt8} (h : Rd w A n c (u8s l)) (src e : TypeId) (hs : P.underlying src = some (.slice e)) (he : P.underlying e = some (.int .u8))
    (dst : TypeId) (hd : P.underlying dst = some .string) : (convert src dst (.slice A n c)).run P w = .ok (.string (bstr l)) w := by
  have hl := h.len
  rw [u8s_length] at hl
  cases A with
  | none =>
    have hc := h.nil rfl
    have hn := h.cap
    have : l = [] := List.eq_nil_of_length_eq_zero (by omega)
    subst this
    exact run_convert_bytes_nil w src e hs he n c dst hd
  | some ad =>
    have hl2 : (loadCells ad n).run P w = .ok (u8s l).toArray w := by
      have := run_loadCells_list (P := P) w ad (u8s l) (fun j v hj => h.cells ad rfl j v hj)
      simpa [hl] using this
    have e1 : u8s l = (l.map fun b => (b.toNat : Int)).map (Value.int .u8) := by simp [u8s]
    rw [e1] at hl2
    rw [run_convert_bytes_string w src dst e _ n c hs he hd, run_bytesToString w _ n c _ hl2, foldl_push_bytes]
    simp only [bstr, ByteArray.empty, ByteArray.emptyWithCapacity, List.map_map]
    congr 3
    rw [show ((fun n : Int => UInt8.ofNat n.toNat) ∘ fun b : UInt8 => (b.toNat : Int)) = id from by funext b; simp]
    simp
    rfl

/-- an operation that is wanted: without a guard, or its guard as it must be -/
theorem wpList_go {P : Program} {ops : Array Oper} {rest : List Oper} {o : Oper} {a : Act} {w : World} {Q : Exit → Act → World → Prop} (hw : Region.wanted o (yielded ops a.tmps) = true)
    (h : ∀ K : Act → World → Prop, (∀ a w, wpList P ops Q rest a w → K a w) → o.wp P a w K Q) : wpList P ops Q (o :: rest) a w :=
  wpList_step fun K hK => by rw [if_pos hw]; exact h K hK

/-! ### append onto a row of one's own, whatever comes in -/
section
variable {P : Program} (w : World)
theorem run_append_rd (base : Nat) (t ty e : TypeId) (i : TypeInfo) (z : Value) (bytes : Nat) (ht : P.underlying t = some (.slice e)) (hi : P.info? e = some i) (hz : i.zero = some z)
    (hsize : i.size = 1) (hby : i.bytes = bytes) (hzs : z.cells.size = 1)
    (v : Value) (n : Nat) (xs : List Value) (hown : w.ownsRow base e 1 v n xs)
    (A : Option Addr) (m c : Nat) (news : List Value) (hr : Rd w A m c news) (h1 : ∀ u ∈ news, u.oneCell' = true)
    (h63 : n + m ≤ maxLen) (hbytes : (n + m) * bytes ≤ 140737488355328) (hbase : base ≤ w.heap.size) :
    ∃ v' w', (Builtin.append_ #[t, t] ty #[v, .slice A m c]).run P w = .ok v' w' ∧ w'.ownsRow base e 1 v' (n + m) (xs ++ news) ∧ w.grownBy w' v.ownBlock ∧
      (v'.ownBlock = v.ownBlock ∨ v'.ownBlock = some w.heap.size) := by
  cases A with
  | none =>
    have hc := hr.nil rfl
    have hn := hr.cap
    have hm : m = 0 := by omega
    subst hm hc
    have hn : news = [] := List.eq_nil_of_length_eq_zero (by simpa using hr.len)
    subst hn
    refine ⟨v, w, ?_, by simpa using hown, World.grownBy.refl w _, .inl rfl⟩
    rcases hown.2 with ⟨rfl, rfl⟩ | ⟨g, cap, cur, rfl, _, _, hnc, _⟩
    · simp [Builtin.append_, run_underlying ht, sizeOf, typeInfo, hi, Builtin.lenOf, Builtin.firstCells]
    · simp [Builtin.append_, run_underlying ht, sizeOf, typeInfo, hi, Builtin.lenOf, Builtin.firstCells, hnc, storeCells]
  | some ad =>
    obtain ⟨v', w', hrun, h2, h3, _, h5⟩ := run_append_own_at (P := P) w base t ty e i z 1 bytes ht hi hz hsize hby hzs (by omega) v n xs hown ad m c news (by rw [hr.len]; omega) (hr.cells ad rfl) h1 h63 hbytes hbase
    exact ⟨v', w', hrun, h2, h3, h5⟩

theorem wpList_append_rd {ops : Array Oper} {rest : List Oper} {o : Oper} {a : Act} {Q : Exit → Act → World → Prop} (hgd : Region.wanted o (yielded ops a.tmps) = true) (s x : Operand) (t : TypeId)
    (ho : o.op = .call { callee := .builtin .append, args := #[s, x], argTypes := #[t, t] })
    (base : Nat) (e : TypeId) (i : TypeInfo) (z : Value) (bytes : Nat) (ht : P.underlying t = some (.slice e)) (hi : P.info? e = some i) (hz : i.zero = some z)
    (hsize : i.size = 1) (hby : i.bytes = bytes) (hzs : z.cells.size = 1)
    (v : Value) (n : Nat) (xs : List Value) (hs : a.eval s = v) (hown : w.ownsRow base e 1 v n xs)
    (A : Option Addr) (m c : Nat) (news : List Value) (hx : a.eval x = .slice A m c) (hr : Rd w A m c news) (h1 : ∀ u ∈ news, u.oneCell' = true)
    (h63 : n + m ≤ maxLen) (hbytes : (n + m) * bytes ≤ 140737488355328) (hbase : base ≤ w.heap.size)
    (h : ∀ v' w', w'.ownsRow base e 1 v' (n + m) (xs ++ news) → w.grownBy w' v.ownBlock → (v'.ownBlock = v.ownBlock ∨ v'.ownBlock = some w.heap.size) → wpList P ops Q rest (a.put o.dst v') w') :
    wpList P ops Q (o :: rest) a w := by
  refine wpList_go hgd fun K hK => ?_
  obtain ⟨v', w', hrun, h2, h3, h5⟩ := run_append_rd (P := P) w base t o.type e i z bytes ht hi hz hsize hby hzs v n xs hown A m c news hr h1 h63 hbytes hbase
  unfold Oper.wp execOp
  simp only [ho, resolve, invoke, builtin, Sem.run_bind, Sem.run_pure, Result.andThen_ok, List.map_toArray, List.map_cons, List.map_nil, hs, hx, hrun]
  exact hK _ _ (h v' w' h2 h3 h5)
end

/-! ### blocks known whole -/
/-- block g is just these cells, none frozen -/
def Bk (w : World) (g : Nat) (t : TypeId) (cs : List Value) : Prop := w.heap[g]? = some (.cells cs.toArray t (0, 0))
section
variable {S : Nat → Prop} {w w' : World} {g : Nat} {t : TypeId} {cs : List Value}
theorem Bk.lt (h : Bk w g t cs) : g < w.heap.size := (Array.getElem?_eq_some_iff.1 h).1
theorem Bk.cell (h : Bk w g t cs) (i : Nat) : w.cell? ⟨g, i, none⟩ = cs[i]? := by
  unfold Bk at h
  simp [World.cell?, h]
theorem Bk.frozen (h : Bk w g t cs) (i : Nat) : w.frozen? ⟨g, i, none⟩ = false := by
  unfold Bk at h
  simp [World.frozen?, h]
theorem Bk.new (w : World) (t : TypeId) (cs : Array Value) : Bk (w.alloc (.cells cs t)) w.heap.size t cs.toList := heap_alloc_new w _
theorem Bk.fr (h : Bk w g t cs) (hf : Fr S w w') (hS : ¬ S g) : Bk w' g t cs := hf.heap h hS
theorem Bk.no (h : Bk w g t cs) (hf : Fr No w w') : Bk w' g t cs := h.fr hf (fun x => x)
theorem Bk.set_ (h : Bk w g t cs) (i : Nat) (u : Value) : Bk (w.setCell ⟨g, i, none⟩ u) g t (cs.set i u) := by
  unfold Bk at h ⊢
  simp [World.setCell, Array.getElem?_modify, h]
theorem Bk.row (h : Bk w g t cs) (new : List Value) : Bk (w.setRow g new.toArray) g t new := setRow_heap w g _ _ t _ h
theorem Bk.own (h : Bk w g t cs) {base n cap : Nat} (hb : base ≤ g) (hn : n ≤ cap) (hm : cap ≤ maxLen) (hl : cs.length = cap) : w.ownsRow base t 1 (.slice (some ⟨g, 0, none⟩) n cap) n (cs.take n) :=
  ⟨by rw [List.length_take]; omega, .inr ⟨g, cap, cs.toArray, rfl, hb, h, hn, hm, by simpa using hl, by simp⟩⟩
theorem Bk.rd (h : Bk w g t cs) {n cap : Nat} (hn : n ≤ cap) (hm : cap ≤ maxLen) (hl : n ≤ cs.length) : Rd w (some ⟨g, 0, none⟩) n cap (cs.take n) := by
  refine ⟨by rw [List.length_take]; omega, hn, hm, (fun e => nomatch e), ?_⟩
  intro ad e j u hu
  injection e with e
  subst e
  have : (⟨g, 0, none⟩ : Addr).add j = ⟨g, j, none⟩ := by unfold Addr.add; split <;> simp_all
  rw [this, h.cell]
  rw [List.getElem?_take] at hu
  split at hu
  · exact hu
  · cases hu
theorem Fr.row {a : World} (h : Fr S a w) (hg : S g ∨ a.heap.size ≤ g) (cs : Array Value) : Fr S a (w.setRow g cs) :=
  ⟨h.os, h.tape, h.output, by simpa using h.size, fun k hk hne => (setRow_other w g k cs (by
    rintro rfl
    rcases hg with x | x
    · exact hne x
    · omega)).trans (h.block k hk hne)⟩
end

section
variable {P : Program} (w : World)
/-- append within the room of a block known whole -/
theorem wpList_append_fit {ops : Array Oper} {rest : List Oper} {o : Oper} {a : Act} {Q : Exit → Act → World → Prop} (hgd : Region.wanted o (yielded ops a.tmps) = true) (s x : Operand) (t : TypeId)
    (ho : o.op = .call { callee := .builtin .append, args := #[s, x], argTypes := #[t, t] })
    (e : TypeId) (i : TypeInfo) (ht : P.underlying t = some (.slice e)) (hi : P.info? e = some i) (hsize : i.size = 1)
    (g n cap : Nat) (cs : List Value) (hs : a.eval s = .slice (some ⟨g, 0, none⟩) n cap) (hbk : Bk w g e cs)
    (A : Option Addr) (m c : Nat) (news : List Value) (hx : a.eval x = .slice A m c) (hr : Rd w A m c news) (h1 : ∀ u ∈ news, u.oneCell' = true)
    (hcap : n + m ≤ cap) (hlen : cs.length = cap)
    (h : ∀ w', Bk w' g e (cs.take n ++ news ++ cs.drop (n + m)) → Fr (Just g) w w' → w'.heap.size = w.heap.size → wpList P ops Q rest (a.put o.dst (.slice (some ⟨g, 0, none⟩) (n + m) cap)) w') :
    wpList P ops Q (o :: rest) a w := by
  refine wpList_go hgd fun K hK => ?_
  have hrun : ∃ w', (Builtin.append_ #[t, t] o.type #[.slice (some ⟨g, 0, none⟩) n cap, .slice A m c]).run P w = .ok (.slice (some ⟨g, 0, none⟩) (n + m) cap) w' ∧ Bk w' g e (cs.take n ++ news ++ cs.drop (n + m)) ∧ Fr (Just g) w w' ∧ w'.heap.size = w.heap.size := by
    cases A with
    | none =>
      have hc := hr.nil rfl
      have hn := hr.cap
      have hm : m = 0 := by omega
      subst hm hc
      have hn : news = [] := List.eq_nil_of_length_eq_zero (by simpa using hr.len)
      subst hn
      refine ⟨w, ?_, by simpa using hbk, Fr.refl _ _, rfl⟩
      simp [Builtin.append_, run_underlying ht, sizeOf, typeInfo, hi, Builtin.lenOf, Builtin.firstCells, storeCells]
      intro hlt
      omega
    | some ad =>
      have hl := hr.len
      have hr1 := run_append_room (P := P) w t o.type e i ht hi g n cap cs.toArray hbk ad m c news (by rw [hsize]; omega) (hr.cells ad rfl) h1 hcap (by rw [hsize]; simp; omega)
      rw [hsize, Nat.mul_one, hl] at hr1
      exact ⟨_, hr1, hbk.row _, (Fr.refl (Just g) w).row (g := g) (.inl (Just.at g)) _, by simp⟩
  obtain ⟨w', hrun, h2, h3, h4⟩ := hrun
  unfold Oper.wp execOp
  simp only [ho, resolve, invoke, builtin, Sem.run_bind, Sem.run_pure, Result.andThen_ok, List.map_toArray, List.map_cons, List.map_nil, hs, hx, hrun]
  exact hK _ _ (h w' h2 h3 h4)

/-- copy of as many cells as there are into the head of a block known whole -/
theorem wpList_copy_fit {ops : Array Oper} {rest : List Oper} {o : Oper} {a : Act} {Q : Exit → Act → World → Prop} (hgd : Region.wanted o (yielded ops a.tmps) = true) (d s : Operand) (t : TypeId)
    (ho : o.op = .call { callee := .builtin .copy, args := #[d, s], argTypes := #[t, t] })
    (e : TypeId) (i : TypeInfo) (ht : P.underlying t = some (.slice e)) (hi : P.info? e = some i) (hsize : i.size = 1)
    (g n cap : Nat) (cs : List Value) (hd : a.eval d = .slice (some ⟨g, 0, none⟩) n cap) (hbk : Bk w g e cs)
    (A : Option Addr) (c : Nat) (news : List Value) (hs : a.eval s = .slice A n c) (hr : Rd w A n c news) (h1 : ∀ u ∈ news, u.oneCell' = true)
    (hlen : n ≤ cs.length)
    (h : ∀ w', Bk w' g e (news ++ cs.drop n) → Fr (Just g) w w' → w'.heap.size = w.heap.size → wpList P ops Q rest (a.put o.dst (.int .i64 (n : Int))) w') :
    wpList P ops Q (o :: rest) a w := by
  refine wpList_go hgd fun K hK => ?_
  have hl := hr.len
  have hrun : ∃ w', (Builtin.copy_ #[t, t] o.type #[.slice (some ⟨g, 0, none⟩) n cap, .slice A n c]).run P w = .ok (goInt n) w' ∧ Bk w' g e (news ++ cs.drop n) ∧ Fr (Just g) w w' ∧ w'.heap.size = w.heap.size := by
    cases A with
    | none =>
      have hc := hr.nil rfl
      have hn := hr.cap
      have hm : n = 0 := by omega
      subst hm hc
      have hn : news = [] := List.eq_nil_of_length_eq_zero (by omega)
      subst hn
      refine ⟨w, ?_, by simpa using hbk, Fr.refl _ _, rfl⟩
      exact run_copy_nil P w t t o.type e ⟨g, 0, none⟩ 0 cap ht (by simp [hi])
    | some ad =>
      have hr1 := run_copy_row (P := P) w t t o.type e g 0 n cap ad n c cs.toArray e news ht (by simp [hi, hsize]) hbk (by rw [hl]; exact (Nat.min_self n).symm) (hr.cells ad rfl) (by simp; omega) h1
      rw [hl] at hr1
      have e0 : List.take 0 cs.toArray.toList ++ news ++ List.drop (0 + n) cs.toArray.toList = news ++ cs.drop n := by simp
      rw [e0] at hr1
      exact ⟨_, hr1, hbk.row _, (Fr.refl (Just g) w).row (g := g) (.inl (Just.at g)) _, by simp⟩
  obtain ⟨w', hrun, h2, h3, h4⟩ := hrun
  unfold Oper.wp execOp
  simp only [ho, resolve, invoke, builtin, Sem.run_bind, Sem.run_pure, Result.andThen_ok, List.map_toArray, List.map_cons, List.map_nil, hd, hs, hrun]
  exact hK _ _ (h w' h2 h3 h4)

theorem madeCells_one (z : Value) (n : Nat) : madeCells #[z] n = (List.replicate n z).toArray := by
  apply Array.ext'
  rw [toList_madeCells_one]

/-- make of one-cell elements, any length and room: a run, for every world -/
theorem run_make_one (t e : TypeId) (i : TypeInfo) (z : Value) (ht : P.underlying t = some (.slice e)) (hi : P.info? e = some i) (hz : i.zero = some z) (hsize : i.size = 1) (hzc : z.cells = #[z])
    (kl kc : IntKind) (l c : Int) (n m : Nat) (hl : l = n) (hc : c = m) (hnm : n ≤ m) (hb : i.bytes * m ≤ 281474976710656) (hm : m ≤ maxLen) (w : World) :
    (Instr.makeSlice t (.int kl l) (.int kc c)).run P w = .ok (.slice (some ⟨w.heap.size, 0, none⟩) n m) (w.alloc (.cells (List.replicate m z).toArray e)) := by
  subst hl hc
  have hb' : (i.bytes : Int) * (m : Int) ≤ 281474976710656 := by
    have h : ((i.bytes * m : Nat) : Int) ≤ 281474976710656 := by omega
    rwa [Int.natCast_mul] at h
  have hr := run_make (P := P) w t e i z ht hi hz kl kc n m (by omega) (by omega) hb' (by simp only [maxLen] at hm; omega)
  simp only [Int.toNat_natCast, hsize, Nat.mul_one, hzc] at hr
  rw [madeCells_one] at hr
  exact hr
/-- make of one-cell elements, at the operation: the new block is known whole -/
theorem wpList_make_bk {ops : Array Oper} {rest : List Oper} {o : Oper} {a : Act} {Q : Exit → Act → World → Prop} (hgd : Region.wanted o (yielded ops a.tmps) = true) (l c : Operand) (t : TypeId) (hop : o.op = .makeSlice t l c)
    (e : TypeId) (i : TypeInfo) (z : Value) (ht : P.underlying t = some (.slice e)) (hi : P.info? e = some i) (hz : i.zero = some z) (hsize : i.size = 1) (hzc : z.cells = #[z])
    (kl kc : IntKind) (L C : Int) (n m : Nat) (hl : a.eval l = .int kl L) (hc : a.eval c = .int kc C) (hL : L = n) (hC : C = m) (hnm : n ≤ m) (hb : i.bytes * m ≤ 281474976710656) (hm : m ≤ maxLen)
    (h : ∀ w', Bk w' w.heap.size e (List.replicate m z) → Fr No w w' → w'.heap.size = w.heap.size + 1 → wpList P ops Q rest (a.put o.dst (.slice (some ⟨w.heap.size, 0, none⟩) n m)) w') :
    wpList P ops Q (o :: rest) a w := by
  refine wpList_go hgd fun K hK => ?_
  have hrun := run_make_one (P := P) t e i z ht hi hz hsize hzc kl kc L C n m hL hC hnm hb hm w
  unfold Oper.wp
  simp only [execOp, hop, hl, hc, hrun, Result.andThen, Sem.run_bind, Sem.run_pure]
  exact hK _ _ (h _ (Bk.new w _ _) ((Fr.refl _ w).alloc _) (by simp))
end

/-- a row of one's own, opened: its cells, and what a store into it makes -/
theorem own_open {w : World} {base : Nat} {e : TypeId} {v : Value} {n : Nat} {xs : List Value} (h : w.ownsRow base e 1 v n xs) (hn : 0 < n) :
    ∃ g cap, v = .slice (some ⟨g, 0, none⟩) n cap ∧ base ≤ g ∧ n ≤ cap ∧ (∀ i u, xs[i]? = some u → w.cell? ⟨g, i, none⟩ = some u) ∧ (∀ i, w.frozen? ⟨g, i, none⟩ = false) ∧
      ∀ i u, i < n → (w.setCell ⟨g, i, none⟩ u).ownsRow base e 1 (.slice (some ⟨g, 0, none⟩) n cap) n (xs.set i u) := by
  have h1 := h.1
  rcases h.2 with ⟨rfl, rfl⟩ | ⟨g, cap, cur, rfl, hb, hg, hnc, hm, hc, ht⟩
  · simp at h1
    omega
  · have hbk : Bk w g e cur.toList := hg
    refine ⟨g, cap, rfl, hb, hnc, fun i u hu => h.cells (g := g) rfl i u hu ▸ by rw [show (⟨g, 0, none⟩ : Addr).add i = ⟨g, i, none⟩ from by unfold Addr.add; split <;> simp_all], fun i => hbk.frozen i, fun i u hi => ⟨by rw [List.length_set]; exact h1, .inr ⟨g, cap, (cur.toList.set i u).toArray, rfl, hb, hbk.set_ i u, hnc, hm, by simpa using hc, ?_⟩⟩⟩
    rw [← ht]
    simp [List.take_set]

section
variable {w : World} {base : Nat} {e : TypeId} {g n cap : Nat} {xs : List Value}
theorem own_set (h : w.ownsRow base e 1 (.slice (some ⟨g, 0, none⟩) n cap) n xs) {i : Nat} (hi : i < n) (u : Value) : (w.setCell ⟨g, i, none⟩ u).ownsRow base e 1 (.slice (some ⟨g, 0, none⟩) n cap) n (xs.set i u) := by
  obtain ⟨g', cap', he, _, _, _, _, hs⟩ := own_open h (by omega)
  injection he with h1 h2 h3
  injection h1 with h1
  injection h1 with h1
  subst h1 h3
  exact hs i u hi
theorem own_cell (h : w.ownsRow base e 1 (.slice (some ⟨g, 0, none⟩) n cap) n xs) {i : Nat} {u : Value} (hu : xs[i]? = some u) : w.cell? ⟨g, i, none⟩ = some u := by
  have hi : i < n := by
    have := (List.getElem?_eq_some_iff.1 hu).1
    have := h.1
    omega
  obtain ⟨g', cap', he, _, _, hc, _, _⟩ := own_open h (by omega)
  injection he with h1 h2 h3
  injection h1 with h1
  injection h1 with h1
  subst h1 h3
  exact hc i u hu
theorem own_free (h : w.ownsRow base e 1 (.slice (some ⟨g, 0, none⟩) n cap) n xs) (hn : 0 < n) (i : Nat) : w.frozen? ⟨g, i, none⟩ = false := by
  obtain ⟨g', cap', he, _, _, _, hf, _⟩ := own_open h hn
  injection he with h1 h2 h3
  injection h1 with h1
  injection h1 with h1
  subst h1 h3
  exact hf i
end

/-! ### what comes in -/
theorem wf_u64 {x : Int} (h : (Lit.int .u64 x).wf = true) : ∃ v : Nat, x = (v : Int) ∧ v < 18446744073709551616 := by
  simp [Lit.wf, IntKind.min, IntKind.max, IntKind.signed, IntKind.bits] at h
  obtain ⟨n, rfl⟩ := Int.eq_ofNat_of_zero_le (show 0 ≤ x by omega)
  exact ⟨n, rfl, by omega⟩
theorem wf_i64 {x : Int} (h : (Lit.int .i64 x).wf = true) : -9223372036854775808 ≤ x ∧ x ≤ 9223372036854775807 := by
  simp [Lit.wf, IntKind.min, IntKind.max, IntKind.signed, IntKind.bits] at h
  omega
theorem wf_u8 {x : Int} (h : (Lit.int .u8 x).wf = true) : ∃ b : UInt8, x = (b.toNat : Int) := by
  simp [Lit.wf, IntKind.min, IntKind.max, IntKind.signed, IntKind.bits] at h
  obtain ⟨n, rfl⟩ := Int.eq_ofNat_of_zero_le (show 0 ≤ x by omega)
  refine ⟨UInt8.ofNat n, ?_⟩
  rw [UInt8.toNat_ofNat', Nat.mod_eq_of_lt (by omega)]

/-- a list of integers that came in: its values, well formed -/
theorem open_rd {H : Type} {enc : TypeId × Value → H} {P : Program} {W : World} {b0 : Nat} {t e : TypeId} {k : IntKind} {v : Value} {d : DataW H} {p : List MemPlace}
    (ht : P.underlying t = some (.slice e)) (he : P.underlying e = some (.int k)) (hc : P.cellsOf e = 1)
    (hval : Value.okWide P W .any b0 t v) (h : DataW.Trod enc P W 0 (fun _ => true) true t v d p) :
    ∃ (A : Option Addr) (n c : Nat) (zs : List Int), v = .slice A n c ∧ Rd W A n c (zs.map (Value.int k)) ∧ ∀ z ∈ zs, (Lit.int k z).wf = true := by
  obtain ⟨a0, len, cap, rfl⟩ := okWide_slice ht hval
  obtain ⟨fuel, hf⟩ := h
  rcases open_ints ht he hc hf with ⟨hcs, _⟩ | ⟨a, len', cap', zs, hcs, _, hl, hm, hz, _, hcell, hw⟩
  · simp [Value.cells] at hcs
    obtain ⟨rfl, rfl, rfl⟩ := hcs
    exact ⟨none, 0, 0, [], rfl, Rd.nil_ W, by simp⟩
  · simp [Value.cells] at hcs
    obtain ⟨rfl, rfl, rfl⟩ := hcs
    simp only [if_true] at hz
    refine ⟨some a, len, cap, zs.take len, rfl, ⟨by simp; omega, hl, hm, (fun e => nomatch e), ?_⟩, fun z hz' => hw z (List.mem_of_mem_take hz')⟩
    intro ad e j u hu
    injection e with e
    subst e
    rw [List.getElem?_map, Option.map_eq_some_iff] at hu
    obtain ⟨z, hz1, rfl⟩ := hu
    rw [List.getElem?_take] at hz1
    split at hz1
    · have hj := (List.getElem?_eq_some_iff.1 hz1).1
      rw [hcell j hj, List.getD, hz1]
      rfl
    · cases hz1

theorem u8s_of {zs : List Int} (h : ∀ z ∈ zs, (Lit.int .u8 z).wf = true) : ∃ l, zs.map (Value.int .u8) = u8s l := by
  induction zs with
  | nil => exact ⟨[], rfl⟩
  | cons z zs ih =>
    obtain ⟨b, rfl⟩ := wf_u8 (h z (by simp))
    obtain ⟨l, hl⟩ := ih (fun z hz => h z (by simp [hz]))
    exact ⟨b :: l, by simp [u8s] at hl ⊢; exact hl⟩
/-- a list of bytes that came in -/
theorem open_u8s {H : Type} {enc : TypeId × Value → H} {P : Program} {W : World} {b0 : Nat} {t e : TypeId} {v : Value} {d : DataW H} {p : List MemPlace}
    (ht : P.underlying t = some (.slice e)) (he : P.underlying e = some (.int .u8)) (hc : P.cellsOf e = 1)
    (hval : Value.okWide P W .any b0 t v) (h : DataW.Trod enc P W 0 (fun _ => true) true t v d p) : ∃ A n c l, v = .slice A n c ∧ Rd W A n c (u8s l) := by
  obtain ⟨A, n, c, zs, e1, hr, hw⟩ := open_rd ht he hc hval h
  obtain ⟨l, hl⟩ := u8s_of hw
  exact ⟨A, n, c, l, e1, hl ▸ hr⟩

/-! ### the law's last step: true came out, and of what was there nothing has turned -/
section
variable {H : Type} {enc : TypeId × Value → H} {P : Program}
/-- all arguments read behind the call as they did -/
theorem trodAll_stays (hl : laidOutB P = true) {W W' : World} (hb : Below W.heap.size W W') (sp : Nat → Bool) :
    ∀ {ts : List TypeId} (_ : ∀ t ∈ ts, P.readableRec t = true ∧ t < P.types.size) {vs : List Value} {ds : List (DataW H)} {ps : List MemPlace},
      DataW.TrodAll enc P W 0 (fun _ => true) true ts vs ds ps → (∀ p ∈ ps, p.block < W.heap.size) → (∀ p ∈ ps, sp p.block = true) → DataW.TrodAll enc P W' 0 sp true ts vs ds ps := by
  intro ts
  induction ts with
  | nil =>
    intro _ vs ds ps h _ _
    obtain ⟨rfl, rfl, rfl⟩ := trodAll_nil h
    exact trodAll_mk0
  | cons t ts ih =>
    intro hts vs ds ps h hlt hsp
    obtain ⟨v, vs', d, ds', p, q, rfl, rfl, rfl, h0, hr⟩ := trodAll_cons h
    obtain ⟨r1, r2⟩ := hts t (by simp)
    exact trodAll_cons_mk (WideElems.Trod_stays hl r1 r2 h0 (fun x hx => hb.same (hlt x (by simp [hx]))) (fun x hx => hsp x (by simp [hx])))
      (ih (fun t ht => hts t (by simp [ht])) hr (fun x hx => hlt x (by simp [hx])) (fun x hx => hsp x (by simp [hx])))

/-- WHAT A LAW'S ROW ASKS BEHIND THE CALL, from: it returned true, and below the old heap's end nothing has turned. -/
theorem law_post {f : Func} {s : ChangeSpec} {W W' : World} {args : Array Value} {ds gs : List (DataW H)} {before : List MemPlace} {tb : TypeId}
    (hl : laidOutB P = true) (hts : f.params.toList.all (fun t => P.readableRec t && decide (t < P.types.size)) = true)
    (hrt : f.resultTypes = #[tb]) (htb : P.underlying tb = some .bool) (hv : s.vars = [])
    (hW : DataW.Whole enc P f.params.toList s.vars false W args.toList ds gs before)
    (hfn : s.fn H (ds ++ gs) = { results := [.lit (.bool true)], args := ds }) (hb : Below W.heap.size W W') :
    s.post enc P f false true false false W args (.bool true) W' := by
  have hlt : ∀ p ∈ before, p.block < W.heap.size := fun p hp => hW.lt p hp
  obtain ⟨p, q, hA, hV, rfl, hz, hn⟩ := id hW
  obtain ⟨rfl, rfl⟩ : gs = [] ∧ q = [] := by rw [hv] at hV; exact trodVars_none hV
  have hts' : ∀ t ∈ f.params.toList, P.readableRec t = true ∧ t < P.types.size := fun t ht => by
    have := List.all_eq_true.1 hts t ht
    simpa using this
  rw [List.append_nil] at hlt hz
  have hargs := trodAll_stays hl hb (fun b => decide (b < W.heap.size)) hts' hA hlt (fun x hx => by simpa using hlt x hx)
  refine ⟨ds, [], p ++ [], [], p, [], hW, ?_, by rw [hfn]; exact hargs, by rw [hfn, hv]; exact rfl, World.keptBut_mono (fun x hx => ⟨hx, .inr (.inl (by simpa using hx))⟩) (hb.frame (· ∈ p ++ [])), fun hag => nomatch hag⟩
  rw [hrt, hfn]
  exact trodAll_cons_mk (shut_bool htb _) trodAll_mk0
end
end Go.Proofs.YthlgnmgjfgbffaaGreatDoor
/- Rows of things of several cells: what they hold, one's own that grow, append onto them. 'I w N cs a': the cells cs are the thing a; what it points to lies in blocks of such numbers (N). No program. -/
namespace Go.Proofs.YthlgnmgjfgbffaaGreatDoor
open Go.RowKit
set_option maxHeartbeats 400000
set_option linter.unusedVariables false

/-- the header (A, n, c) holds these cells, s an element -/
structure RdS (w : World) (s : Nat) (A : Option Addr) (n c : Nat) (xs : List Value) : Prop where
  len : xs.length = n * s
  cap : n ≤ c
  max : c ≤ maxLen
  nil : A = none → c = 0
  cells : ∀ ad, A = some ad → ∀ j u, xs[j]? = some u → w.cell? (ad.add j) = some u
variable {w w' : World} {N M S : Nat → Prop} {s : Nat}
theorem RdS.nil_ (w : World) (s : Nat) : RdS w s none 0 0 [] := ⟨by simp, Nat.le_refl _, Nat.zero_le _, fun _ => rfl, fun _ e => nomatch e⟩
theorem RdS.fr {A : Option Addr} {n c : Nat} {xs : List Value} (h : RdS w s A n c xs) (hf : Fr S w w') (hS : ∀ ad, A = some ad → ¬ S ad.block) : RdS w' s A n c xs :=
  ⟨h.len, h.cap, h.max, h.nil, fun ad e j u hu => hf.cell (h.cells ad e j u hu) (by rw [blk_add]; exact hS ad e)⟩
theorem RdS.fr0 {A : Option Addr} {n c : Nat} {xs : List Value} (h : RdS w s A n c xs) (hf : Fr S w w') (hS : ∀ ad, A = some ad → 0 < n → ¬ S ad.block) : RdS w' s A n c xs :=
  ⟨h.len, h.cap, h.max, h.nil, fun ad e j u hu => hf.cell (h.cells ad e j u hu) (by
    rw [blk_add]
    refine hS ad e ?_
    have h1 := (List.getElem?_eq_some_iff.1 hu).1
    rcases Nat.eq_zero_or_pos n with h0 | h0
    · rw [h.len, h0, Nat.zero_mul] at h1; omega
    · exact h0)⟩
theorem RdS.of_own {base : Nat} {e : TypeId} {v : Value} {n : Nat} {xs : List Value} (h : w.ownsRow base e s v n xs) : ∃ A c, v = .slice A n c ∧ RdS w s A n c xs ∧ (∀ ad, A = some ad → base ≤ ad.block ∧ ad.block < w.heap.size) := by
  rcases h.2 with ⟨rfl, rfl⟩ | ⟨g, cap, cur, rfl, hg, hh, hn, hm, hc, hx⟩
  · exact ⟨none, 0, rfl, ⟨h.1, Nat.le_refl _, Nat.zero_le _, fun _ => rfl, fun _ e => nomatch e⟩, fun _ e => nomatch e⟩
  · refine ⟨some ⟨g, 0, none⟩, cap, rfl, ⟨h.1, hn, hm, (fun e => nomatch e), fun ad e j u hu => ?_⟩, fun ad e => ?_⟩
    · injection e with e
      subst e
      have h1 : (⟨g, 0, none⟩ : Addr).add j = ⟨g, j, none⟩ := by unfold Addr.add; split <;> simp_all
      have h2 : cur[j]? = some u := by
        rw [← hx, List.getElem?_take] at hu
        split at hu
        · simpa using hu
        · cases hu
      rw [h1]
      simp [World.cell?, hh, h2]
    · injection e with e
      subst e
      exact ⟨hg, (Array.getElem?_eq_some_iff.1 hh).1⟩
theorem RdS.lt {A : Option Addr} {n c : Nat} {xs : List Value} (h : RdS w s A n c xs) (hn : 0 < n) (hs : 0 < s) : ∀ ad, A = some ad → ad.block < w.heap.size := by
  intro ad e
  have hl : 0 < xs.length := by rw [h.len]; exact Nat.mul_pos hn hs
  have hc := h.cells ad e 0 _ (List.getElem?_eq_getElem hl)
  rcases Nat.lt_or_ge ad.block w.heap.size with h1 | h1
  · exact h1
  · have h2 : (ad.add 0).block = ad.block := blk_add ad 0
    simp [World.cell?, h2, Array.getElem?_eq_none h1] at hc
/-- elements that were just laid in a block of their own -/
theorem RdS.lit (w : World) (cs : List Value) (t : TypeId) (n : Nat) (hn : cs.length = n * s) (hm : n ≤ maxLen) : RdS (w.alloc (.cells cs.toArray t)) s (some ⟨w.heap.size, 0, none⟩) n n cs :=
  ⟨hn, Nat.le_refl _, hm, (fun e => nomatch e), fun ad e j u hu => by
    injection e with e
    subst e
    have h1 : (⟨w.heap.size, 0, none⟩ : Addr).add j = ⟨w.heap.size, j, none⟩ := by unfold Addr.add; split <;> simp_all
    rw [h1, (Bk.new w t cs.toArray).cell j]
    simpa using hu⟩

/-! ### things -/
structure ItemOk {α : Type} (s : Nat) (I : World → (Nat → Prop) → List Value → α → Prop) : Prop where
  len : ∀ {w N cs a}, I w N cs a → cs.length = s
  one : ∀ {w N cs a}, I w N cs a → ∀ u ∈ cs, u.oneCell' = true
  fr : ∀ {w w' N S cs a}, I w N cs a → Fr S w w' → (∀ i, N i → ¬ S i) → I w' N cs a
  mono : ∀ {w N M cs a}, I w N cs a → (∀ i, N i → M i) → I w M cs a
variable {α : Type} {I : World → (Nat → Prop) → List Value → α → Prop}
def ItemsF (I : World → (Nat → Prop) → List Value → α → Prop) (w : World) (N : Nat → Prop) : List Value → List α → Prop
  | xs, [] => xs = []
  | xs, a :: ls => ∃ cs rest, xs = cs ++ rest ∧ I w N cs a ∧ ItemsF I w N rest ls
theorem ItemsF.fr (hI : ItemOk s I) : ∀ {ls : List α} {xs : List Value} (h : ItemsF I w N xs ls) (hf : Fr S w w') (hS : ∀ i, N i → ¬ S i), ItemsF I w' N xs ls
  | [], _, h, _, _ => h
  | _ :: _, _, ⟨cs, rest, e, h1, h2⟩, hf, hS => ⟨cs, rest, e, hI.fr h1 hf hS, ItemsF.fr hI h2 hf hS⟩
theorem ItemsF.mono (hI : ItemOk s I) : ∀ {ls : List α} {xs : List Value} (h : ItemsF I w N xs ls) (hM : ∀ i, N i → M i), ItemsF I w M xs ls
  | [], _, h, _ => h
  | _ :: _, _, ⟨cs, rest, e, h1, h2⟩, hM => ⟨cs, rest, e, hI.mono h1 hM, ItemsF.mono hI h2 hM⟩
theorem ItemsF.len (hI : ItemOk s I) : ∀ {ls : List α} {xs : List Value} (h : ItemsF I w N xs ls), xs.length = ls.length * s
  | [], _, h => by rw [show _ = [] from h]; simp
  | a :: ls, _, ⟨cs, rest, e, h1, h2⟩ => by
    rw [e, List.length_append, hI.len h1, ItemsF.len hI h2, List.length_cons, Nat.add_mul]
    omega
theorem ItemsF.one (hI : ItemOk s I) : ∀ {ls : List α} {xs : List Value} (h : ItemsF I w N xs ls), ∀ u ∈ xs, u.oneCell' = true
  | [], _, h, u, hu => by rw [show _ = [] from h] at hu; cases hu
  | a :: ls, _, ⟨cs, rest, e, h1, h2⟩, u, hu => by
    rw [e] at hu
    rcases List.mem_append.1 hu with hu | hu
    · exact hI.one h1 u hu
    · exact ItemsF.one hI h2 u hu
theorem ItemsF.app : ∀ {ls bs : List α} {xs ys : List Value} (h : ItemsF I w N xs ls) (k : ItemsF I w N ys bs), ItemsF I w N (xs ++ ys) (ls ++ bs)
  | [], bs, xs, ys, h, k => by rw [show xs = [] from h]; exact k
  | a :: ls, bs, _, ys, ⟨cs, rest, e, h1, h2⟩, k => ⟨cs, rest ++ ys, by rw [e, List.append_assoc], h1, ItemsF.app h2 k⟩
theorem ItemsF.single {cs : List Value} {a : α} (h : I w N cs a) : ItemsF I w N cs [a] := ⟨cs, [], by simp, h, rfl⟩
theorem ItemsF.at_ (hI : ItemOk s I) : ∀ {ls : List α} {xs : List Value} (h : ItemsF I w N xs ls) (i : Nat) (hi : i < ls.length), I w N ((xs.drop (i * s)).take s) (ls[i]'hi)
  | [], _, _, i, hi => by simp at hi
  | a :: ls, _, ⟨cs, rest, e, h1, h2⟩, 0, hi => by
    rw [e, Nat.zero_mul, List.drop_zero, List.take_left' (hI.len h1)]
    exact h1
  | a :: ls, _, ⟨cs, rest, e, h1, h2⟩, i + 1, hi => by
    have h := ItemsF.at_ hI h2 i (by simpa using hi)
    have e2 : (i + 1) * s = cs.length + i * s := by rw [hI.len h1, Nat.add_mul]; omega
    rw [e, e2, List.drop_append, List.drop_eq_nil_of_le (by omega), List.nil_append, Nat.add_sub_cancel_left]
    simpa using h
/-- a slice of things -/
structure RdI (s : Nat) (I : World → (Nat → Prop) → List Value → α → Prop) (w : World) (N : Nat → Prop) (A : Option Addr) (n c : Nat) (ls : List α) : Prop where
  xs : ∃ xs, RdS w s A n c xs ∧ ItemsF I w N xs ls
  blk : ∀ ad, A = some ad → 0 < n → N ad.block
variable {A : Option Addr} {n c : Nat} {ls bs : List α}
theorem RdI.nil_ (s : Nat) (I : World → (Nat → Prop) → List Value → α → Prop) (w : World) (N : Nat → Prop) : RdI s I w N none 0 0 [] := ⟨⟨[], RdS.nil_ w s, rfl⟩, fun _ e => nomatch e⟩
theorem RdI.fr (hI : ItemOk s I) (h : RdI s I w N A n c ls) (hf : Fr S w w') (hS : ∀ i, N i → ¬ S i) : RdI s I w' N A n c ls :=
  let ⟨xs, hr, he⟩ := h.xs
  ⟨⟨xs, hr.fr0 hf (fun ad e h0 => hS _ (h.blk ad e h0)), ItemsF.fr hI he hf hS⟩, h.blk⟩
theorem RdI.no (hI : ItemOk s I) (h : RdI s I w N A n c ls) (hf : Fr No w w') : RdI s I w' N A n c ls := h.fr hI hf (fun _ _ x => x)
theorem RdI.dr (hI : ItemOk s I) (h : RdI s I w N A n c ls) (hf : Dr w w') : RdI s I w' N A n c ls := h.no hI hf.fr
theorem RdI.mono (hI : ItemOk s I) (h : RdI s I w N A n c ls) (hM : ∀ i, N i → M i) : RdI s I w M A n c ls :=
  let ⟨xs, hr, he⟩ := h.xs
  ⟨⟨xs, hr, ItemsF.mono hI he hM⟩, fun ad e h0 => hM _ (h.blk ad e h0)⟩
theorem RdI.len (hI : ItemOk s I) (hs : 0 < s) (h : RdI s I w N A n c ls) : ls.length = n := by
  obtain ⟨xs, hr, he⟩ := h.xs
  have h1 := ItemsF.len hI he
  rw [hr.len] at h1
  exact (Nat.eq_of_mul_eq_mul_right hs h1).symm
theorem RdI.top (h : RdI s I w N A n c ls) : n ≤ 9223372036854775807 := by
  obtain ⟨xs, hr, _⟩ := h.xs
  have h1 := hr.cap
  have h2 := hr.max
  simp only [maxLen] at h2
  omega
/-- the cells of one of them -/
theorem RdI.at_ (hI : ItemOk s I) (hs : 0 < s) (h : RdI s I w N A n c ls) {i : Nat} (hi : i < ls.length) :
    ∃ ad cs, A = some ad ∧ I w N cs ls[i] ∧ ∀ j u, cs[j]? = some u → w.cell? (ad.add (i * s + j)) = some u := by
  have hn := h.len hI hs
  obtain ⟨xs, hr, he⟩ := h.xs
  have hat := ItemsF.at_ hI he i hi
  cases A with
  | none =>
    have := hr.nil rfl
    have := hr.cap
    omega
  | some ad =>
    refine ⟨ad, _, rfl, hat, fun j u hu => hr.cells ad rfl _ u ?_⟩
    rw [List.getElem?_take] at hu
    split at hu
    · rw [List.getElem?_drop] at hu
      exact hu
    · cases hu
/-- a row of things of one's own, growing -/
structure OwnI (s : Nat) (I : World → (Nat → Prop) → List Value → α → Prop) (w : World) (base : Nat) (e : TypeId) (N : Nat → Prop) (v : Value) (n : Nat) (ls : List α) : Prop where
  xs : ∃ xs, w.ownsRow base e s v n xs ∧ ItemsF I w N xs ls
variable {base : Nat} {e : TypeId} {v : Value}
theorem OwnI.nil_ (s : Nat) (I : World → (Nat → Prop) → List Value → α → Prop) (w : World) (base : Nat) (e : TypeId) (N : Nat → Prop) : OwnI s I w base e N (.slice none 0 0) 0 [] := ⟨⟨[], ⟨by simp, .inl ⟨rfl, rfl⟩⟩, rfl⟩⟩
theorem OwnI.rd (h : OwnI s I w base e N v n ls) (hN : ∀ i, base ≤ i → i < w.heap.size → N i) : ∃ A c, v = .slice A n c ∧ RdI s I w N A n c ls := by
  obtain ⟨xs, ho, he⟩ := h.xs
  obtain ⟨A, c, rfl, hr, hb⟩ := RdS.of_own ho
  exact ⟨A, c, rfl, ⟨xs, hr, he⟩, fun ad ea _ => hN _ (hb ad ea).1 (hb ad ea).2⟩
theorem OwnI.rd' (h : OwnI s I w base e N v n ls) (hN : ∀ i, v.ownBlock = some i → M i) (hI : ItemOk s I) (hM : ∀ i, N i → M i) : ∃ A c, v = .slice A n c ∧ RdI s I w M A n c ls := by
  obtain ⟨xs, ho, he⟩ := h.xs
  obtain ⟨A, c, rfl, hr, hb⟩ := RdS.of_own ho
  refine ⟨A, c, rfl, ⟨xs, hr, ItemsF.mono hI he hM⟩, fun ad ea _ => hN _ ?_⟩
  rcases ho.2 with ⟨h1, _⟩ | ⟨g, cap, cur, h1, _⟩
  · injection h1 with h1
    rw [h1] at ea
    cases ea
  · injection h1 with h1
    rw [h1] at ea ⊢
    injection ea with ea
    rw [← ea]
    rfl
theorem OwnI.fr (hI : ItemOk s I) (h : OwnI s I w base e N v n ls) (hf : Fr S w w') (hS : ∀ i, N i → ¬ S i) (hv : ∀ g, v.ownBlock = some g → ¬ S g) : OwnI s I w' base e N v n ls :=
  let ⟨xs, ho, he⟩ := h.xs
  ⟨⟨xs, hf.own ho hv, ItemsF.fr hI he hf hS⟩⟩
theorem OwnI.no (hI : ItemOk s I) (h : OwnI s I w base e N v n ls) (hf : Fr No w w') : OwnI s I w' base e N v n ls := h.fr hI hf (fun _ _ x => x) (fun _ _ x => x)
theorem OwnI.mono (hI : ItemOk s I) (h : OwnI s I w base e N v n ls) (hM : ∀ i, N i → M i) : OwnI s I w base e M v n ls :=
  let ⟨xs, ho, he⟩ := h.xs
  ⟨⟨xs, ho, ItemsF.mono hI he hM⟩⟩
theorem OwnI.low {b : Nat} (hI : ItemOk s I) (h : OwnI s I w base e N v n ls) (hb : b ≤ base) : OwnI s I w b e N v n ls := by
  obtain ⟨xs, ho, he⟩ := h.xs
  refine ⟨xs, ⟨ho.1, ?_⟩, he⟩
  rcases ho.2 with hn | ⟨g, cap, cur, e1, hg, r⟩
  · exact .inl hn
  · exact .inr ⟨g, cap, cur, e1, Nat.le_trans hb hg, r⟩
theorem OwnI.lt (h : OwnI s I w base e N v n ls) : ∀ i, v.ownBlock = some i → base ≤ i ∧ i < w.heap.size := by
  obtain ⟨xs, ho, _⟩ := h.xs
  exact fun i hi => ho.lt i hi

/-! ### append onto a row of things of one's own -/
section
variable {P : Program} (w : World)
theorem run_append_rdS (base : Nat) (t ty e : TypeId) (i : TypeInfo) (z : Value) (s bytes : Nat) (ht : P.underlying t = some (.slice e)) (hi : P.info? e = some i) (hz : i.zero = some z)
    (hsize : i.size = s) (hby : i.bytes = bytes) (hzs : z.cells.size = s) (hs : 0 < s)
    (v : Value) (n : Nat) (xs : List Value) (hown : w.ownsRow base e s v n xs)
    (A : Option Addr) (m c : Nat) (news : List Value) (hr : RdS w s A m c news) (h1 : ∀ u ∈ news, u.oneCell' = true)
    (h63 : n + m ≤ maxLen) (hbytes : (n + m) * bytes ≤ 140737488355328) (hbase : base ≤ w.heap.size) :
    ∃ v' w', (Builtin.append_ #[t, t] ty #[v, .slice A m c]).run P w = .ok v' w' ∧ w'.ownsRow base e s v' (n + m) (xs ++ news) ∧ w.grownBy w' v.ownBlock ∧
      (v'.ownBlock = v.ownBlock ∨ v'.ownBlock = some w.heap.size) := by
  cases A with
  | none =>
    have hc := hr.nil rfl
    have hn := hr.cap
    have hm : m = 0 := by omega
    subst hm hc
    have hn : news = [] := List.eq_nil_of_length_eq_zero (by have := hr.len; omega)
    subst hn
    refine ⟨v, w, ?_, by simpa using hown, World.grownBy.refl w _, .inl rfl⟩
    rcases hown.2 with ⟨rfl, rfl⟩ | ⟨g, cap, cur, rfl, _, _, hnc, _⟩
    · simp [Builtin.append_, run_underlying ht, sizeOf, typeInfo, hi, Builtin.lenOf, Builtin.firstCells]
    · simp [Builtin.append_, run_underlying ht, sizeOf, typeInfo, hi, Builtin.lenOf, Builtin.firstCells, hnc, storeCells]
  | some ad =>
    obtain ⟨v', w', hrun, h2, h3, _, h5⟩ := run_append_own_at (P := P) w base t ty e i z s bytes ht hi hz hsize hby hzs hs v n xs hown ad m c news hr.len (hr.cells ad rfl) h1 h63 hbytes hbase
    exact ⟨v', w', hrun, h2, h3, h5⟩
theorem wpList_append_rdS {ops : Array Oper} {rest : List Oper} {o : Oper} {a : Act} {Q : Exit → Act → World → Prop} (hgd : Region.wanted o (yielded ops a.tmps) = true) (sl x : Operand) (t : TypeId)
    (ho : o.op = .call { callee := .builtin .append, args := #[sl, x], argTypes := #[t, t] })
    (base : Nat) (e : TypeId) (i : TypeInfo) (z : Value) (s bytes : Nat) (ht : P.underlying t = some (.slice e)) (hi : P.info? e = some i) (hz : i.zero = some z)
    (hsize : i.size = s) (hby : i.bytes = bytes) (hzs : z.cells.size = s) (hs : 0 < s)
    (v : Value) (n : Nat) (xs : List Value) (hsl : a.eval sl = v) (hown : w.ownsRow base e s v n xs)
    (A : Option Addr) (m c : Nat) (news : List Value) (hx : a.eval x = .slice A m c) (hr : RdS w s A m c news) (h1 : ∀ u ∈ news, u.oneCell' = true)
    (h63 : n + m ≤ maxLen) (hbytes : (n + m) * bytes ≤ 140737488355328) (hbase : base ≤ w.heap.size)
    (h : ∀ v' w', w'.ownsRow base e s v' (n + m) (xs ++ news) → w.grownBy w' v.ownBlock → (v'.ownBlock = v.ownBlock ∨ v'.ownBlock = some w.heap.size) → wpList P ops Q rest (a.put o.dst v') w') :
    wpList P ops Q (o :: rest) a w := by
  refine wpList_go hgd fun K hK => ?_
  obtain ⟨v', w', hrun, h2, h3, h5⟩ := run_append_rdS (P := P) w base t o.type e i z s bytes ht hi hz hsize hby hzs hs v n xs hown A m c news hr h1 h63 hbytes hbase
  unfold Oper.wp execOp
  simp only [ho, resolve, invoke, builtin, Sem.run_bind, Sem.run_pure, Result.andThen_ok, List.map_toArray, List.map_cons, List.map_nil, hsl, hx, hrun]
  exact hK _ _ (h v' w' h2 h3 h5)
/-- things behind things -/
theorem apI' (hI : ItemOk s I) (hs : 0 < s) {ops : Array Oper} {rest : List Oper} {o : Oper} {a : Act} {Q : Exit → Act → World → Prop} (hgd : Region.wanted o (yielded ops a.tmps) = true) (sl x : Operand) (t : TypeId)
    (ho : o.op = .call { callee := .builtin .append, args := #[sl, x], argTypes := #[t, t] })
    (base : Nat) (e : TypeId) (i : TypeInfo) (z : Value) (bytes : Nat) (ht : P.underlying t = some (.slice e)) (hi : P.info? e = some i) (hz : i.zero = some z)
    (hsize : i.size = s) (hby : i.bytes = bytes) (hzs : z.cells.size = s)
    (v : Value) (n : Nat) (ls bs : List α) (hsl : a.eval sl = v) (hown : OwnI s I w base e N v n ls)
    (A : Option Addr) (m c : Nat) (hx : a.eval x = .slice A m c) (hr : RdI s I w N A m c bs)
    (h63 : n + m ≤ maxLen) (hbytes : (n + m) * bytes ≤ 140737488355328) (hbase : base ≤ w.heap.size) (hN : ∀ i, N i → v.ownBlock ≠ some i)
    (h : ∀ v' w', OwnI s I w' base e N v' (n + m) (ls ++ bs) → w.grownBy w' v.ownBlock → (v'.ownBlock = v.ownBlock ∨ v'.ownBlock = some w.heap.size) → wpList P ops Q rest (a.put o.dst v') w') :
    wpList P ops Q (o :: rest) a w := by
  obtain ⟨xs, hov, he⟩ := hown.xs
  obtain ⟨ys, hry, hye⟩ := hr.xs
  refine wpList_append_rdS w hgd sl x t ho base e i z s bytes ht hi hz hsize hby hzs hs v n xs hsl hov A m c ys hx hry (ItemsF.one hI hye) h63 hbytes hbase ?_
  intro v' w' g1 g2 g3
  have hf : Fr (fun k => v.ownBlock = some k) w w' := (Fr.refl _ w).grown g2 (fun g e => .inl e)
  exact h v' w' ⟨⟨xs ++ ys, g1, ItemsF.fr hI (ItemsF.app he hye) hf (fun k hk => hN k hk)⟩⟩ g2 g3
/-- things behind things, the new ones' cells known (where their row lies plays no part) -/
theorem apI2 (hI : ItemOk s I) (hs : 0 < s) {ops : Array Oper} {rest : List Oper} {o : Oper} {a : Act} {Q : Exit → Act → World → Prop} (hgd : Region.wanted o (yielded ops a.tmps) = true) (sl x : Operand) (t : TypeId)
    (ho : o.op = .call { callee := .builtin .append, args := #[sl, x], argTypes := #[t, t] })
    (base : Nat) (e : TypeId) (i : TypeInfo) (z : Value) (bytes : Nat) (ht : P.underlying t = some (.slice e)) (hi : P.info? e = some i) (hz : i.zero = some z)
    (hsize : i.size = s) (hby : i.bytes = bytes) (hzs : z.cells.size = s)
    (v : Value) (n : Nat) (ls bs : List α) (hsl : a.eval sl = v) (hown : OwnI s I w base e N v n ls)
    (A : Option Addr) (m c : Nat) (hx : a.eval x = .slice A m c) (ys : List Value) (hry : RdS w s A m c ys) (hye : ItemsF I w N ys bs)
    (h63 : n + m ≤ maxLen) (hbytes : (n + m) * bytes ≤ 140737488355328) (hbase : base ≤ w.heap.size) (hN : ∀ i, N i → v.ownBlock ≠ some i)
    (h : ∀ v' w', OwnI s I w' base e N v' (n + m) (ls ++ bs) → w.grownBy w' v.ownBlock → (v'.ownBlock = v.ownBlock ∨ v'.ownBlock = some w.heap.size) → wpList P ops Q rest (a.put o.dst v') w') :
    wpList P ops Q (o :: rest) a w := by
  obtain ⟨xs, hov, he⟩ := hown.xs
  refine wpList_append_rdS w hgd sl x t ho base e i z s bytes ht hi hz hsize hby hzs hs v n xs hsl hov A m c ys hx hry (ItemsF.one hI hye) h63 hbytes hbase ?_
  intro v' w' g1 g2 g3
  have hf : Fr (fun k => v.ownBlock = some k) w w' := (Fr.refl _ w).grown g2 (fun g e => .inl e)
  exact h v' w' ⟨⟨xs ++ ys, g1, ItemsF.fr hI (ItemsF.app he hye) hf (fun k hk => hN k hk)⟩⟩ g2 g3
end
end Go.Proofs.YthlgnmgjfgbffaaGreatDoor
/- Append, copy and make of bytes, at the operation; two lists of bytes held against each other (the statements' own helper): contracts, for every list of bytes within a slice's length. -/
namespace Go.Proofs.YthlgnmgjfgbffaaGreatDoor
open Go.RowKit
set_option maxHeartbeats 400000
set_option linter.unusedVariables false
set_option maxRecDepth 20000

theorem info_u8 : (Tryz.prog.info? 5).map (fun i => (i.zero, i.size, i.bytes)) = some (some (.int .u8 0), 1, 1) := by kernel_rfl

/-- append of bytes onto a row of the call's own -/
theorem ap8 (w : World) {ops : Array Oper} {rest : List Oper} {o : Oper} {a : Act} {Q : Exit → Act → World → Prop} (hgd : Region.wanted o (yielded ops a.tmps) = true) (s x : Operand)
    (ho : o.op = .call { callee := .builtin .append, args := #[s, x], argTypes := #[22, 22] })
    (base : Nat) (v : Value) (n : Nat) (l : List UInt8) (hs : a.eval s = v) (hown : w.ownsRow base 5 1 v n (u8s l))
    (A : Option Addr) (m c : Nat) (k : List UInt8) (hx : a.eval x = .slice A m c) (hr : Rd w A m c (u8s k)) (hb : n + m ≤ 140737488355328) (hbase : base ≤ w.heap.size)
    (h : ∀ v' w', w'.ownsRow base 5 1 v' (n + m) (u8s (l ++ k)) → w.grownBy w' v.ownBlock → (v'.ownBlock = v.ownBlock ∨ v'.ownBlock = some w.heap.size) → wpList Tryz.prog ops Q rest (a.put o.dst v') w') :
    wpList Tryz.prog ops Q (o :: rest) a w := by
  obtain ⟨i, hi, hz, h1, h2⟩ := info_parts info_u8
  refine wpList_append_rd w hgd s x 22 ho base 5 i (.int .u8 0) 1 Tryz.underlying22 hi hz h1 h2 rfl v n (u8s l) hs hown A m c (u8s k) hx hr (u8s_one k) (by simp only [maxLen]; omega) (by omega) hbase ?_
  intro v' w' g1 g2 g3
  exact h v' w' (by rw [u8s_append]; exact g1) g2 g3

/-- append of bytes onto a row of the call's own, as one step of a region that draws its order ('go_region_law') -/
theorem step8 {ops : Array Oper} {o : Oper} {a : Act} {w : World} {K : Act → World → Prop} {Q : Exit → Act → World → Prop} {E : Prop} (hgd : Region.wanted o (yielded ops a.tmps) = true) (s x : Operand)
    (ho : o.op = .call { callee := .builtin .append, args := #[s, x], argTypes := #[22, 22] })
    (base : Nat) (v : Value) (n : Nat) (l : List UInt8) (hs : a.eval s = v) (hown : w.ownsRow base 5 1 v n (u8s l))
    (A : Option Addr) (m c : Nat) (k : List UInt8) (hx : a.eval x = .slice A m c) (hr : Rd w A m c (u8s k)) (hb : n + m ≤ 140737488355328) (hbase : base ≤ w.heap.size)
    (h : ∀ v' w', w'.ownsRow base 5 1 v' (n + m) (u8s (l ++ k)) → w.grownBy w' v.ownBlock → (v'.ownBlock = v.ownBlock ∨ v'.ownBlock = some w.heap.size) → K (a.put o.dst v') w') :
    if Region.wanted o (yielded ops a.tmps) = true then Oper.wp Tryz.prog o a w K Q else E := by
  rw [if_pos hgd]
  obtain ⟨i, hi, hz, h1, h2⟩ := info_parts info_u8
  obtain ⟨v', w', hrun, g1, g2, g3⟩ := run_append_rd (P := Tryz.prog) w base 22 o.type 5 i (.int .u8 0) 1 Tryz.underlying22 hi hz h1 h2 rfl v n (u8s l) hown A m c (u8s k) hr (u8s_one k) (by simp only [maxLen]; omega) (by omega) hbase
  unfold Oper.wp execOp
  simp only [ho, resolve, invoke, builtin, Sem.run_bind, Sem.run_pure, Result.andThen_ok, List.map_toArray, List.map_cons, List.map_nil, hs, hx, hrun]
  exact h v' w' (by rw [u8s_append]; exact g1) g2 g3

/-- elements that were just laid in a block of their own -/
theorem Rd.lit (w : World) (cs : List Value) (t : TypeId) (n : Nat) (hn : cs.length = n) (hm : n ≤ maxLen) : Rd (w.alloc (.cells cs.toArray t)) (some ⟨w.heap.size, 0, none⟩) n n cs := by
  have := (Bk.new w t cs.toArray).rd (n := n) (cap := n) (Nat.le_refl _) hm (by simp; omega)
  simpa [← hn] using this

/-- one byte that was just laid in a block of its own -/
theorem Rd.one {w : World} {i : Int} {b : UInt8} (hi : i = (b.toNat : Int)) (t : TypeId) : Rd (w.alloc (.cells #[.int .u8 i] t)) (some ⟨w.heap.size, 0, none⟩) 1 1 (u8s [b]) := by
  have h := (Bk.new w t #[.int .u8 i]).rd (n := 1) (cap := 1) (Nat.le_refl _) (by simp [maxLen]) (by simp)
  rw [hi] at h ⊢
  exact h
theorem ap8_one (w : World) {ops : Array Oper} {rest : List Oper} {o : Oper} {a : Act} {Q : Exit → Act → World → Prop} (hgd : Region.wanted o (yielded ops a.tmps) = true) (s x : Operand)
    (ho : o.op = .call { callee := .builtin .append, args := #[s, x], argTypes := #[22, 22] })
    (base : Nat) (v : Value) (n : Nat) (l : List UInt8) (hs : a.eval s = v) (hown : w.ownsRow base 5 1 v n (u8s l)) (i : Int) (b : UInt8) (hi : i = (b.toNat : Int)) (t : TypeId)
    (hx : a.eval x = .slice (some ⟨w.heap.size, 0, none⟩) 1 1) (hb : n + 1 ≤ 140737488355328) (hbase : base ≤ w.heap.size)
    (h : ∀ v' w', w'.ownsRow base 5 1 v' (n + 1) (u8s (l ++ [b])) → (w.alloc (.cells #[.int .u8 i] t)).grownBy w' v.ownBlock → (v'.ownBlock = v.ownBlock ∨ v'.ownBlock = some (w.heap.size + 1)) → wpList Tryz.prog ops Q rest (a.put o.dst v') w') :
    wpList Tryz.prog ops Q (o :: rest) a (w.alloc (.cells #[.int .u8 i] t)) := by
  refine ap8 _ hgd s x ho base v n l hs (hown.alloc _) _ 1 1 [b] hx (Rd.one hi t) hb (by simp; omega) ?_
  intro v' w' h1 h2 h3
  exact h v' w' h1 h2 (by simpa using h3)

theorem Rd.none_ {w : World} {n c : Nat} {l : List UInt8} (h : Rd w none n c (u8s l)) : n = 0 ∧ c = 0 ∧ l = [] := by
  have h1 := h.nil rfl
  have h2 := h.cap
  have h3 := h.len
  rw [u8s_length] at h3
  exact ⟨by omega, h1, List.eq_nil_of_length_eq_zero (by omega)⟩

/-- make of bytes -/
theorem mk8 (w : World) {ops : Array Oper} {rest : List Oper} {o : Oper} {a : Act} {Q : Exit → Act → World → Prop} (hgd : Region.wanted o (yielded ops a.tmps) = true) (l c : Operand) (hop : o.op = .makeSlice 22 l c)
    (kl kc : IntKind) (L C : Int) (n m : Nat) (hl : a.eval l = .int kl L) (hc : a.eval c = .int kc C) (hL : L = n) (hC : C = m) (hnm : n ≤ m) (hb : m ≤ 281474976710656)
    (h : ∀ w', Bk w' w.heap.size 5 (u8s (List.replicate m 0)) → Fr No w w' → w'.heap.size = w.heap.size + 1 → wpList Tryz.prog ops Q rest (a.put o.dst (.slice (some ⟨w.heap.size, 0, none⟩) n m)) w') :
    wpList Tryz.prog ops Q (o :: rest) a w := by
  obtain ⟨i, hi, hz, h1, h2⟩ := info_parts info_u8
  refine wpList_make_bk w hgd l c 22 hop 5 i (.int .u8 0) Tryz.underlying22 hi hz h1 rfl kl kc L C n m hl hc hL hC hnm (by rw [h2]; omega) (by simp only [maxLen]; omega) ?_
  intro w' h1 h2 h3
  exact h w' (by simpa [u8s] using h1) h2 h3
/-- copy of bytes into the head of a block of bytes -/
theorem cp8 (w : World) {ops : Array Oper} {rest : List Oper} {o : Oper} {a : Act} {Q : Exit → Act → World → Prop} (hgd : Region.wanted o (yielded ops a.tmps) = true) (d s : Operand)
    (ho : o.op = .call { callee := .builtin .copy, args := #[d, s], argTypes := #[22, 22] })
    (g n cap : Nat) (k : List UInt8) (hd : a.eval d = .slice (some ⟨g, 0, none⟩) n cap) (hbk : Bk w g 5 (u8s k))
    (A : Option Addr) (c : Nat) (l : List UInt8) (hs : a.eval s = .slice A n c) (hr : Rd w A n c (u8s l)) (hlen : n ≤ k.length)
    (h : ∀ w', Bk w' g 5 (u8s (l ++ k.drop n)) → Fr (Just g) w w' → w'.heap.size = w.heap.size → wpList Tryz.prog ops Q rest (a.put o.dst (.int .i64 (n : Int))) w') :
    wpList Tryz.prog ops Q (o :: rest) a w := by
  obtain ⟨i, hi, hz, h1, h2⟩ := info_parts info_u8
  refine wpList_copy_fit w hgd d s 22 ho 5 i Tryz.underlying22 hi h1 g n cap (u8s k) hd hbk A c (u8s l) hs hr (u8s_one l) (by simpa using hlen) ?_
  intro w' h1 h2 h3
  exact h w' (by simpa [u8s] using h1) h2 h3

/-- comptoirhelp.Bytes -/
theorem bytes_any (A B : Option Addr) (n c m d : Nat) (l k : List UInt8) (w : World) (ha : Rd w A n c (u8s l)) (hb : Rd w B m d (u8s k)) :
    Calls Tryz.prog 71 #[.slice A n c, .slice B m d] w fun e w' => e = .returned (.bool (l == k)) ∧ w = w' := by
  have h1 := run_string (P := Tryz.prog) ha 22 5 Tryz.underlying22 Tryz.underlying5 9 Tryz.underlying9
  have h2 := run_string (P := Tryz.prog) hb 22 5 Tryz.underlying22 Tryz.underlying5 9 Tryz.underlying9
  go_enter Tryz.func71, Tryz.ntmps71
  go_wp2
  go_ret
  exact ⟨rfl, rfl⟩

end Go.Proofs.YthlgnmgjfgbffaaGreatDoor
