/- A message's lists: tags, elements (a number and bytes), pairs (two texts). -/
import Derived.Test.YtijlekikmkeihaaDoorItems
import Derived.Test.YtijlekikmkeihaaDoorHelp0
import Derived.Test.YtijlekikmkeihaaDoorMsg
namespace Go.Proofs.YtijlekikmkeihaaDoor
open Go.RowKit
set_option maxHeartbeats 400000
set_option linter.unusedVariables false

def big : Nat := 140737488355328
theorem rd_fr0 {w w' : World} {S : Nat → Prop} {A : Option Addr} {n c : Nat} {xs : List Value} (h : Rd w A n c xs) (hf : Fr S w w') (hS : ∀ ad, A = some ad → 0 < n → ¬ S ad.block) : Rd w' A n c xs :=
  ⟨h.len, h.cap, h.max, h.nil, fun ad e j u hu => hf.cell (h.cells ad e j u hu) (by
    rw [blk_add]
    refine hS ad e ?_
    have h1 := (List.getElem?_eq_some_iff.1 hu).1
    rw [h.len] at h1
    omega)⟩
def TagI (w : World) (N : Nat → Prop) (cs : List Value) (a : Int × List UInt8) : Prop :=
  ∃ (A : Option Addr) (n c : Nat), cs = [.int .i64 a.1, .slice A n c] ∧ Rd w A n c (u8s a.2) ∧ (∀ ad, A = some ad → 0 < n → N ad.block) ∧ (Lit.int .i64 a.1).wf = true ∧ n ≤ 9223372036854775807
theorem tag_ok : ItemOk 2 TagI where
  len := by rintro w N cs a ⟨A, n, c, rfl, _⟩; rfl
  one := by
    rintro w N cs a ⟨A, n, c, rfl, _⟩ u hu
    simp only [List.mem_cons, List.not_mem_nil, or_false] at hu
    rcases hu with rfl | rfl <;> rfl
  fr := by
    rintro w w' N S cs a ⟨A, n, c, rfl, h1, h2, h3⟩ hf hS
    exact ⟨A, n, c, rfl, rd_fr0 h1 hf (fun ad e h0 => hS _ (h2 ad e h0)), h2, h3⟩
  mono := by
    rintro w N M cs a ⟨A, n, c, rfl, h1, h2, h3⟩ hM
    exact ⟨A, n, c, rfl, h1, fun ad e h0 => hM _ (h2 ad e h0), h3⟩
def PairI (_ : World) (_ : Nat → Prop) (cs : List Value) (a : ByteArray × ByteArray) : Prop := cs = [.string a.1, .string a.2] ∧ a.1.size ≤ 140737488355328 ∧ a.2.size ≤ 140737488355328
theorem pair_ok : ItemOk 2 PairI where
  len := by rintro w N cs a ⟨rfl, _⟩; rfl
  one := by
    rintro w N cs a ⟨rfl, _⟩ u hu
    simp only [List.mem_cons, List.not_mem_nil, or_false] at hu
    rcases hu with rfl | rfl <;> rfl
  fr := fun h _ _ => h
  mono := fun h _ => h
/-- a message that was read whole: its texts' sizes, its numbers, its lists -/
structure MsgR (w : World) (N : Nat → Prop) (m : MsgC) (tl : List (Int × List UInt8)) (el : List (ByteArray × ByteArray)) (ol : List (Int × List UInt8)) : Prop where
  kind : (Lit.int .i64 m.kind).wf = true
  stan : (Lit.int .i64 m.stan).wf = true
  amount : (Lit.int .u64 m.amount).wf = true
  entry : (Lit.int .i64 m.entry).wf = true
  ostan : (Lit.int .i64 m.ostan).wf = true
  time : m.time.size ≤ 140737488355328
  acq : m.acq.size ≤ 140737488355328
  pan : m.pan.size ≤ 140737488355328
  cur : m.cur.size ≤ 140737488355328
  rrn : m.rrn.size ≤ 140737488355328
  mer : m.mer.size ≤ 140737488355328
  ter : m.ter.size ≤ 140737488355328
  app : m.app.size ≤ 140737488355328
  act : m.act.size ≤ 140737488355328
  rea : m.rea.size ≤ 140737488355328
  otime : m.otime.size ≤ 140737488355328
  key : m.key.size ≤ 140737488355328
  note : m.note.size ≤ 140737488355328
  tags : RdI 2 TagI w N m.tA m.tn m.tc tl
  extra : RdI 2 PairI w N m.eA m.en m.ec el
  other : RdI 2 TagI w N m.oA m.on m.oc ol
  tn : m.tn ≤ 140737488355328
  en : m.en ≤ 140737488355328
  on : m.on ≤ 140737488355328
theorem MsgR.fr {w w' : World} {N S : Nat → Prop} {m : MsgC} {tl : List (Int × List UInt8)} {el : List (ByteArray × ByteArray)} {ol : List (Int × List UInt8)} (h : MsgR w N m tl el ol) (hf : Fr S w w') (hS : ∀ i, N i → ¬ S i) : MsgR w' N m tl el ol :=
  { h with tags := h.tags.fr tag_ok hf hS, extra := h.extra.fr pair_ok hf hS, other := h.other.fr tag_ok hf hS }
theorem MsgR.no {w w' : World} {N : Nat → Prop} {m : MsgC} {tl : List (Int × List UInt8)} {el : List (ByteArray × ByteArray)} {ol : List (Int × List UInt8)} (h : MsgR w N m tl el ol) (hf : Fr No w w') : MsgR w' N m tl el ol := h.fr hf (fun _ _ x => x)
end Go.Proofs.YtijlekikmkeihaaDoor
