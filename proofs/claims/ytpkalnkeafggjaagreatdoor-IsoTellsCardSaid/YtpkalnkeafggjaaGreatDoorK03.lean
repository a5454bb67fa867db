/- The texts Help0, Msg, MsgItems, joined. -/
import Derived.Test.YtpkalnkeafggjaaGreatDoorK01
import Derived.Test.YtpkalnkeafggjaaGreatDoorK02
/- Append, copy and make of bytes, at the operation; two lists of bytes held against each other (the statements' own helper): contracts, for every list of bytes within a slice's length. -/
namespace Go.Proofs.YtpkalnkeafggjaaGreatDoor
open Go.RowKit
set_option maxHeartbeats 400000
set_option linter.unusedVariables false
set_option maxRecDepth 20000

theorem info_u8 : (Tryz.prog.info? 5).map (fun i => (i.zero, i.size, i.bytes)) = some (some (.int .u8 0), 1, 1) := by kernel_rfl

/-- append of bytes onto a row of the call's own -/
theorem ap8 (w : World) {ops : Array Oper} {rest : List Oper} {o : Oper} {a : Act} {Q : Exit → Act → World → Prop} (hgd : Region.wanted o (yielded ops a.tmps) = true) (s x : Operand)
    (ho : o.op = .call { callee := .builtin .append, args := #[s, x], argTypes := #[22, 22] })
    (base : Nat) (v : Value) (n : Nat) (l : List UInt8) (hs : a.eval s = v) (hown : w.ownsRow base 5 1 v n (u8s l))
    (A : Option Addr) (m c : Nat) (k : List UInt8) (hx : a.eval x = .slice A m c) (hr : Rd w A m c (u8s k)) (hb : n + m ≤ 140737488355328) (hbase : base ≤ w.heap.size)
    (h : ∀ v' w', w'.ownsRow base 5 1 v' (n + m) (u8s (l ++ k)) → w.grownBy w' v.ownBlock → (v'.ownBlock = v.ownBlock ∨ v'.ownBlock = some w.heap.size) → wpList Tryz.prog ops Q rest (a.put o.dst v') w') :
    wpList Tryz.prog ops Q (o :: rest) a w := by
  obtain ⟨i, hi, hz, h1, h2⟩ := info_parts info_u8
  refine wpList_append_rd w hgd s x 22 ho base 5 i (.int .u8 0) 1 Tryz.underlying22 hi hz h1 h2 rfl v n (u8s l) hs hown A m c (u8s k) hx hr (u8s_one k) (by simp only [maxLen]; omega) (by omega) hbase ?_
  intro v' w' g1 g2 g3
  exact h v' w' (by rw [u8s_append]; exact g1) g2 g3

/-- append of bytes onto a row of the call's own, as one step of a region that draws its order ('go_region_law') -/
theorem step8 {ops : Array Oper} {o : Oper} {a : Act} {w : World} {K : Act → World → Prop} {Q : Exit → Act → World → Prop} {E : Prop} (hgd : Region.wanted o (yielded ops a.tmps) = true) (s x : Operand)
    (ho : o.op = .call { callee := .builtin .append, args := #[s, x], argTypes := #[22, 22] })
    (base : Nat) (v : Value) (n : Nat) (l : List UInt8) (hs : a.eval s = v) (hown : w.ownsRow base 5 1 v n (u8s l))
    (A : Option Addr) (m c : Nat) (k : List UInt8) (hx : a.eval x = .slice A m c) (hr : Rd w A m c (u8s k)) (hb : n + m ≤ 140737488355328) (hbase : base ≤ w.heap.size)
    (h : ∀ v' w', w'.ownsRow base 5 1 v' (n + m) (u8s (l ++ k)) → w.grownBy w' v.ownBlock → (v'.ownBlock = v.ownBlock ∨ v'.ownBlock = some w.heap.size) → K (a.put o.dst v') w') :
    if Region.wanted o (yielded ops a.tmps) = true then Oper.wp Tryz.prog o a w K Q else E := by
  rw [if_pos hgd]
  obtain ⟨i, hi, hz, h1, h2⟩ := info_parts info_u8
  obtain ⟨v', w', hrun, g1, g2, g3⟩ := run_append_rd (P := Tryz.prog) w base 22 o.type 5 i (.int .u8 0) 1 Tryz.underlying22 hi hz h1 h2 rfl v n (u8s l) hown A m c (u8s k) hr (u8s_one k) (by simp only [maxLen]; omega) (by omega) hbase
  unfold Oper.wp execOp
  simp only [ho, resolve, invoke, builtin, Sem.run_bind, Sem.run_pure, Result.andThen_ok, List.map_toArray, List.map_cons, List.map_nil, hs, hx, hrun]
  exact h v' w' (by rw [u8s_append]; exact g1) g2 g3

/-- elements that were just laid in a block of their own -/
theorem Rd.lit (w : World) (cs : List Value) (t : TypeId) (n : Nat) (hn : cs.length = n) (hm : n ≤ maxLen) : Rd (w.alloc (.cells cs.toArray t)) (some ⟨w.heap.size, 0, none⟩) n n cs := by
  have := (Bk.new w t cs.toArray).rd (n := n) (cap := n) (Nat.le_refl _) hm (by simp; omega)
  simpa [← hn] using this

/-- one byte that was just laid in a block of its own -/
theorem Rd.one {w : World} {i : Int} {b : UInt8} (hi : i = (b.toNat : Int)) (t : TypeId) : Rd (w.alloc (.cells #[.int .u8 i] t)) (some ⟨w.heap.size, 0, none⟩) 1 1 (u8s [b]) := by
  have h := (Bk.new w t #[.int .u8 i]).rd (n := 1) (cap := 1) (Nat.le_refl _) (by simp [maxLen]) (by simp)
  rw [hi] at h ⊢
  exact h
theorem ap8_one (w : World) {ops : Array Oper} {rest : List Oper} {o : Oper} {a : Act} {Q : Exit → Act → World → Prop} (hgd : Region.wanted o (yielded ops a.tmps) = true) (s x : Operand)
    (ho : o.op = .call { callee := .builtin .append, args := #[s, x], argTypes := #[22, 22] })
    (base : Nat) (v : Value) (n : Nat) (l : List UInt8) (hs : a.eval s = v) (hown : w.ownsRow base 5 1 v n (u8s l)) (i : Int) (b : UInt8) (hi : i = (b.toNat : Int)) (t : TypeId)
    (hx : a.eval x = .slice (some ⟨w.heap.size, 0, none⟩) 1 1) (hb : n + 1 ≤ 140737488355328) (hbase : base ≤ w.heap.size)
    (h : ∀ v' w', w'.ownsRow base 5 1 v' (n + 1) (u8s (l ++ [b])) → (w.alloc (.cells #[.int .u8 i] t)).grownBy w' v.ownBlock → (v'.ownBlock = v.ownBlock ∨ v'.ownBlock = some (w.heap.size + 1)) → wpList Tryz.prog ops Q rest (a.put o.dst v') w') :
    wpList Tryz.prog ops Q (o :: rest) a (w.alloc (.cells #[.int .u8 i] t)) := by
  refine ap8 _ hgd s x ho base v n l hs (hown.alloc _) _ 1 1 [b] hx (Rd.one hi t) hb (by simp; omega) ?_
  intro v' w' h1 h2 h3
  exact h v' w' h1 h2 (by simpa using h3)

theorem Rd.none_ {w : World} {n c : Nat} {l : List UInt8} (h : Rd w none n c (u8s l)) : n = 0 ∧ c = 0 ∧ l = [] := by
  have h1 := h.nil rfl
  have h2 := h.cap
  have h3 := h.len
  rw [u8s_length] at h3
  exact ⟨by omega, h1, List.eq_nil_of_length_eq_zero (by omega)⟩

/-- make of bytes -/
theorem mk8 (w : World) {ops : Array Oper} {rest : List Oper} {o : Oper} {a : Act} {Q : Exit → Act → World → Prop} (hgd : Region.wanted o (yielded ops a.tmps) = true) (l c : Operand) (hop : o.op = .makeSlice 22 l c)
    (kl kc : IntKind) (L C : Int) (n m : Nat) (hl : a.eval l = .int kl L) (hc : a.eval c = .int kc C) (hL : L = n) (hC : C = m) (hnm : n ≤ m) (hb : m ≤ 281474976710656)
    (h : ∀ w', Bk w' w.heap.size 5 (u8s (List.replicate m 0)) → Fr No w w' → w'.heap.size = w.heap.size + 1 → wpList Tryz.prog ops Q rest (a.put o.dst (.slice (some ⟨w.heap.size, 0, none⟩) n m)) w') :
    wpList Tryz.prog ops Q (o :: rest) a w := by
  obtain ⟨i, hi, hz, h1, h2⟩ := info_parts info_u8
  refine wpList_make_bk w hgd l c 22 hop 5 i (.int .u8 0) Tryz.underlying22 hi hz h1 rfl kl kc L C n m hl hc hL hC hnm (by rw [h2]; omega) (by simp only [maxLen]; omega) ?_
  intro w' h1 h2 h3
  exact h w' (by simpa [u8s] using h1) h2 h3
/-- copy of bytes into the head of a block of bytes -/
theorem cp8 (w : World) {ops : Array Oper} {rest : List Oper} {o : Oper} {a : Act} {Q : Exit → Act → World → Prop} (hgd : Region.wanted o (yielded ops a.tmps) = true) (d s : Operand)
    (ho : o.op = .call { callee := .builtin .copy, args := #[d, s], argTypes := #[22, 22] })
    (g n cap : Nat) (k : List UInt8) (hd : a.eval d = .slice (some ⟨g, 0, none⟩) n cap) (hbk : Bk w g 5 (u8s k))
    (A : Option Addr) (c : Nat) (l : List UInt8) (hs : a.eval s = .slice A n c) (hr : Rd w A n c (u8s l)) (hlen : n ≤ k.length)
    (h : ∀ w', Bk w' g 5 (u8s (l ++ k.drop n)) → Fr (Just g) w w' → w'.heap.size = w.heap.size → wpList Tryz.prog ops Q rest (a.put o.dst (.int .i64 (n : Int))) w') :
    wpList Tryz.prog ops Q (o :: rest) a w := by
  obtain ⟨i, hi, hz, h1, h2⟩ := info_parts info_u8
  refine wpList_copy_fit w hgd d s 22 ho 5 i Tryz.underlying22 hi h1 g n cap (u8s k) hd hbk A c (u8s l) hs hr (u8s_one l) (by simpa using hlen) ?_
  intro w' h1 h2 h3
  exact h w' (by simpa [u8s] using h1) h2 h3

/-- comptoirhelp.Bytes -/
theorem bytes_any (A B : Option Addr) (n c m d : Nat) (l k : List UInt8) (w : World) (ha : Rd w A n c (u8s l)) (hb : Rd w B m d (u8s k)) :
    Calls Tryz.prog 13 #[.slice A n c, .slice B m d] w fun e w' => e = .returned (.bool (l == k)) ∧ w = w' := by
  have h1 := run_string (P := Tryz.prog) ha 22 5 Tryz.underlying22 Tryz.underlying5 9 Tryz.underlying9
  have h2 := run_string (P := Tryz.prog) hb 22 5 Tryz.underlying22 Tryz.underlying5 9 Tryz.underlying9
  go_enter Tryz.func13, Tryz.ntmps13
  go_wp2
  go_ret
  exact ⟨rfl, rfl⟩

end Go.Proofs.YtpkalnkeafggjaaGreatDoor
/- A message's cells. -/
namespace Go.Proofs.YtpkalnkeafggjaaGreatDoor
set_option linter.unusedVariables false

/-- a message, as its cells have it -/
structure MsgC where
  kind : Int
  stan : Int
  time : ByteArray
  acq : ByteArray
  pan : ByteArray
  cur : ByteArray
  amount : Int
  rrn : ByteArray
  mer : ByteArray
  ter : ByteArray
  app : ByteArray
  entry : Int
  act : ByteArray
  rea : ByteArray
  ostan : Int
  otime : ByteArray
  tA : Option Addr
  tn : Nat
  tc : Nat
  key : ByteArray
  note : ByteArray
  eA : Option Addr
  en : Nat
  ec : Nat
  oA : Option Addr
  on : Nat
  oc : Nat
def MsgC.cells (m : MsgC) : List Value := [.int .i64 m.kind, .int .i64 m.stan, .string m.time, .string m.acq, .string m.pan, .string m.cur, .int .u64 m.amount, .string m.rrn, .string m.mer, .string m.ter, .string m.app, .int .i64 m.entry, .string m.act, .string m.rea, .int .i64 m.ostan, .string m.otime, .slice m.tA m.tn m.tc, .string m.key, .string m.note, .slice m.eA m.en m.ec, .slice m.oA m.on m.oc]
def MsgC.val (m : MsgC) : Value := .agg #[.int .i64 m.kind, .int .i64 m.stan, .string m.time, .string m.acq, .string m.pan, .string m.cur, .int .u64 m.amount, .string m.rrn, .string m.mer, .string m.ter, .string m.app, .int .i64 m.entry, .string m.act, .string m.rea, .int .i64 m.ostan, .string m.otime, .slice m.tA m.tn m.tc, .string m.key, .string m.note, .slice m.eA m.en m.ec, .slice m.oA m.on m.oc]
/-- what is there: Pan, Currency, Rrn, Merchant, Terminal, Approval, Entry, Action, Reason, Origin, Tags -/
def MsgC.there (m : MsgC) : List Bool := [!(m.pan.toList == []), !(m.cur.toList == []), !(m.rrn.toList == []), !(m.mer.toList == []), !(m.ter.toList == []), !(m.app.toList == []), m.entry != 0, !(m.act.toList == []), !(m.rea.toList == []), !(m.otime.toList == []), decide (0 < m.tn)]
/-- an amount without a currency, or a number of another exchange without its time -/
def MsgC.bad (m : MsgC) : Bool := ((m.cur.toList == []) && (m.amount != 0)) || ((m.otime.toList == []) && (m.ostan != 0))
end Go.Proofs.YtpkalnkeafggjaaGreatDoor
/- A message's lists: tags, elements (a number and bytes), pairs (two texts). -/
namespace Go.Proofs.YtpkalnkeafggjaaGreatDoor
open Go.RowKit
set_option maxHeartbeats 400000
set_option linter.unusedVariables false

def big : Nat := 140737488355328
theorem rd_fr0 {w w' : World} {S : Nat → Prop} {A : Option Addr} {n c : Nat} {xs : List Value} (h : Rd w A n c xs) (hf : Fr S w w') (hS : ∀ ad, A = some ad → 0 < n → ¬ S ad.block) : Rd w' A n c xs :=
  ⟨h.len, h.cap, h.max, h.nil, fun ad e j u hu => hf.cell (h.cells ad e j u hu) (by
    rw [blk_add]
    refine hS ad e ?_
    have h1 := (List.getElem?_eq_some_iff.1 hu).1
    rw [h.len] at h1
    omega)⟩
def TagI (w : World) (N : Nat → Prop) (cs : List Value) (a : Int × List UInt8) : Prop :=
  ∃ (A : Option Addr) (n c : Nat), cs = [.int .i64 a.1, .slice A n c] ∧ Rd w A n c (u8s a.2) ∧ (∀ ad, A = some ad → 0 < n → N ad.block) ∧ (Lit.int .i64 a.1).wf = true ∧ n ≤ 9223372036854775807
theorem tag_ok : ItemOk 2 TagI where
  len := by rintro w N cs a ⟨A, n, c, rfl, _⟩; rfl
  one := by
    rintro w N cs a ⟨A, n, c, rfl, _⟩ u hu
    simp only [List.mem_cons, List.not_mem_nil, or_false] at hu
    rcases hu with rfl | rfl <;> rfl
  fr := by
    rintro w w' N S cs a ⟨A, n, c, rfl, h1, h2, h3⟩ hf hS
    exact ⟨A, n, c, rfl, rd_fr0 h1 hf (fun ad e h0 => hS _ (h2 ad e h0)), h2, h3⟩
  mono := by
    rintro w N M cs a ⟨A, n, c, rfl, h1, h2, h3⟩ hM
    exact ⟨A, n, c, rfl, h1, fun ad e h0 => hM _ (h2 ad e h0), h3⟩
def PairI (_ : World) (_ : Nat → Prop) (cs : List Value) (a : ByteArray × ByteArray) : Prop := cs = [.string a.1, .string a.2] ∧ a.1.size ≤ 140737488355328 ∧ a.2.size ≤ 140737488355328
theorem pair_ok : ItemOk 2 PairI where
  len := by rintro w N cs a ⟨rfl, _⟩; rfl
  one := by
    rintro w N cs a ⟨rfl, _⟩ u hu
    simp only [List.mem_cons, List.not_mem_nil, or_false] at hu
    rcases hu with rfl | rfl <;> rfl
  fr := fun h _ _ => h
  mono := fun h _ => h
/-- a message that was read whole: its texts' sizes, its numbers, its lists -/
structure MsgR (w : World) (N : Nat → Prop) (m : MsgC) (tl : List (Int × List UInt8)) (el : List (ByteArray × ByteArray)) (ol : List (Int × List UInt8)) : Prop where
  kind : (Lit.int .i64 m.kind).wf = true
  stan : (Lit.int .i64 m.stan).wf = true
  amount : (Lit.int .u64 m.amount).wf = true
  entry : (Lit.int .i64 m.entry).wf = true
  ostan : (Lit.int .i64 m.ostan).wf = true
  time : m.time.size ≤ 140737488355328
  acq : m.acq.size ≤ 140737488355328
  pan : m.pan.size ≤ 140737488355328
  cur : m.cur.size ≤ 140737488355328
  rrn : m.rrn.size ≤ 140737488355328
  mer : m.mer.size ≤ 140737488355328
  ter : m.ter.size ≤ 140737488355328
  app : m.app.size ≤ 140737488355328
  act : m.act.size ≤ 140737488355328
  rea : m.rea.size ≤ 140737488355328
  otime : m.otime.size ≤ 140737488355328
  key : m.key.size ≤ 140737488355328
  note : m.note.size ≤ 140737488355328
  tags : RdI 2 TagI w N m.tA m.tn m.tc tl
  extra : RdI 2 PairI w N m.eA m.en m.ec el
  other : RdI 2 TagI w N m.oA m.on m.oc ol
  tn : m.tn ≤ 140737488355328
  en : m.en ≤ 140737488355328
  on : m.on ≤ 140737488355328
theorem MsgR.fr {w w' : World} {N S : Nat → Prop} {m : MsgC} {tl : List (Int × List UInt8)} {el : List (ByteArray × ByteArray)} {ol : List (Int × List UInt8)} (h : MsgR w N m tl el ol) (hf : Fr S w w') (hS : ∀ i, N i → ¬ S i) : MsgR w' N m tl el ol :=
  { h with tags := h.tags.fr tag_ok hf hS, extra := h.extra.fr pair_ok hf hS, other := h.other.fr tag_ok hf hS }
theorem MsgR.no {w w' : World} {N : Nat → Prop} {m : MsgC} {tl : List (Int × List UInt8)} {el : List (ByteArray × ByteArray)} {ol : List (Int × List UInt8)} (h : MsgR w N m tl el ol) (hf : Fr No w w') : MsgR w' N m tl el ol := h.fr hf (fun _ _ x => x)
theorem tag_next (ad : Addr) (i j : Nat) : ad.add (i + (j + 1)) = ⟨(ad.add i).block, (ad.add i).off + (j + 1), none⟩ := by
  unfold Addr.add
  by_cases h : i = 0
  · subst h
    simp
  · simp [h]
    omega
/-- the cells of an element of two -/
theorem two_cells {α : Type} {I : World → (Nat → Prop) → List Value → α → Prop} {w : World} {N : Nat → Prop} {A : Option Addr} {n c : Nat} {ls : List α} (hI : ItemOk 2 I) (h : RdI 2 I w N A n c ls) {k : Nat} (hk : k < n) :
    ∃ ad cs a, A = some ad ∧ I w N cs a ∧ ls[k]? = some a ∧ (∀ u, cs[0]? = some u → w.cell? (ad.add (k * 2)) = some u) ∧ (∀ u, cs[1]? = some u → w.cell? ⟨(ad.add (k * 2)).block, (ad.add (k * 2)).off + 1, none⟩ = some u) := by
  have hl := h.len hI (by omega)
  obtain ⟨ad, cs, rfl, hi, hc⟩ := h.at_ hI (by omega) (i := k) (by omega)
  exact ⟨ad, cs, _, rfl, hi, List.getElem?_eq_getElem (by omega), fun u hu => by have := hc 0 u hu; rwa [Nat.add_zero] at this, fun u hu => by rw [← tag_next ad (k * 2) 0]; exact hc 1 u hu⟩
end Go.Proofs.YtpkalnkeafggjaaGreatDoor
