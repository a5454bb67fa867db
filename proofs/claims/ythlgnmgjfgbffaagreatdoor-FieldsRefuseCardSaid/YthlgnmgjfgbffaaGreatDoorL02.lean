/- The texts Msg, MsgItems, TxtMath, TlvMath, KinDev, CodDev, HelpStr, Help, Clone, BeMath, joined. -/
import Derived.Test.YthlgnmgjfgbffaaGreatDoorL01
/- A message's cells. -/
namespace Go.Proofs.YthlgnmgjfgbffaaGreatDoor
set_option linter.unusedVariables false

/-- a message, as its cells have it -/
structure MsgC where
  kind : Int
  stan : Int
  time : ByteArray
  acq : ByteArray
  pan : ByteArray
  cur : ByteArray
  amount : Int
  rrn : ByteArray
  mer : ByteArray
  ter : ByteArray
  app : ByteArray
  entry : Int
  act : ByteArray
  rea : ByteArray
  ostan : Int
  otime : ByteArray
  tA : Option Addr
  tn : Nat
  tc : Nat
  key : ByteArray
  note : ByteArray
  eA : Option Addr
  en : Nat
  ec : Nat
  oA : Option Addr
  on : Nat
  oc : Nat
def MsgC.cells (m : MsgC) : List Value := [.int .i64 m.kind, .int .i64 m.stan, .string m.time, .string m.acq, .string m.pan, .string m.cur, .int .u64 m.amount, .string m.rrn, .string m.mer, .string m.ter, .string m.app, .int .i64 m.entry, .string m.act, .string m.rea, .int .i64 m.ostan, .string m.otime, .slice m.tA m.tn m.tc, .string m.key, .string m.note, .slice m.eA m.en m.ec, .slice m.oA m.on m.oc]
def MsgC.val (m : MsgC) : Value := .agg #[.int .i64 m.kind, .int .i64 m.stan, .string m.time, .string m.acq, .string m.pan, .string m.cur, .int .u64 m.amount, .string m.rrn, .string m.mer, .string m.ter, .string m.app, .int .i64 m.entry, .string m.act, .string m.rea, .int .i64 m.ostan, .string m.otime, .slice m.tA m.tn m.tc, .string m.key, .string m.note, .slice m.eA m.en m.ec, .slice m.oA m.on m.oc]
/-- what is there: Pan, Currency, Rrn, Merchant, Terminal, Approval, Entry, Action, Reason, Origin, Tags -/
def MsgC.there (m : MsgC) : List Bool := [!(m.pan.toList == []), !(m.cur.toList == []), !(m.rrn.toList == []), !(m.mer.toList == []), !(m.ter.toList == []), !(m.app.toList == []), m.entry != 0, !(m.act.toList == []), !(m.rea.toList == []), !(m.otime.toList == []), decide (0 < m.tn)]
/-- an amount without a currency, or a number of another exchange without its time -/
def MsgC.bad (m : MsgC) : Bool := ((m.cur.toList == []) && (m.amount != 0)) || ((m.otime.toList == []) && (m.ostan != 0))
end Go.Proofs.YthlgnmgjfgbffaaGreatDoor
/- A message's lists: tags, elements (a number and bytes), pairs (two texts). -/
namespace Go.Proofs.YthlgnmgjfgbffaaGreatDoor
open Go.RowKit
set_option maxHeartbeats 400000
set_option linter.unusedVariables false

def big : Nat := 140737488355328
theorem rd_fr0 {w w' : World} {S : Nat → Prop} {A : Option Addr} {n c : Nat} {xs : List Value} (h : Rd w A n c xs) (hf : Fr S w w') (hS : ∀ ad, A = some ad → 0 < n → ¬ S ad.block) : Rd w' A n c xs :=
  ⟨h.len, h.cap, h.max, h.nil, fun ad e j u hu => hf.cell (h.cells ad e j u hu) (by
    rw [blk_add]
    refine hS ad e ?_
    have h1 := (List.getElem?_eq_some_iff.1 hu).1
    rw [h.len] at h1
    omega)⟩
def TagI (w : World) (N : Nat → Prop) (cs : List Value) (a : Int × List UInt8) : Prop :=
  ∃ (A : Option Addr) (n c : Nat), cs = [.int .i64 a.1, .slice A n c] ∧ Rd w A n c (u8s a.2) ∧ (∀ ad, A = some ad → 0 < n → N ad.block) ∧ (Lit.int .i64 a.1).wf = true ∧ n ≤ 9223372036854775807
theorem tag_ok : ItemOk 2 TagI where
  len := by rintro w N cs a ⟨A, n, c, rfl, _⟩; rfl
  one := by
    rintro w N cs a ⟨A, n, c, rfl, _⟩ u hu
    simp only [List.mem_cons, List.not_mem_nil, or_false] at hu
    rcases hu with rfl | rfl <;> rfl
  fr := by
    rintro w w' N S cs a ⟨A, n, c, rfl, h1, h2, h3⟩ hf hS
    exact ⟨A, n, c, rfl, rd_fr0 h1 hf (fun ad e h0 => hS _ (h2 ad e h0)), h2, h3⟩
  mono := by
    rintro w N M cs a ⟨A, n, c, rfl, h1, h2, h3⟩ hM
    exact ⟨A, n, c, rfl, h1, fun ad e h0 => hM _ (h2 ad e h0), h3⟩
def PairI (_ : World) (_ : Nat → Prop) (cs : List Value) (a : ByteArray × ByteArray) : Prop := cs = [.string a.1, .string a.2] ∧ a.1.size ≤ 140737488355328 ∧ a.2.size ≤ 140737488355328
theorem pair_ok : ItemOk 2 PairI where
  len := by rintro w N cs a ⟨rfl, _⟩; rfl
  one := by
    rintro w N cs a ⟨rfl, _⟩ u hu
    simp only [List.mem_cons, List.not_mem_nil, or_false] at hu
    rcases hu with rfl | rfl <;> rfl
  fr := fun h _ _ => h
  mono := fun h _ => h
/-- a message that was read whole: its texts' sizes, its numbers, its lists -/
structure MsgR (w : World) (N : Nat → Prop) (m : MsgC) (tl : List (Int × List UInt8)) (el : List (ByteArray × ByteArray)) (ol : List (Int × List UInt8)) : Prop where
  kind : (Lit.int .i64 m.kind).wf = true
  stan : (Lit.int .i64 m.stan).wf = true
  amount : (Lit.int .u64 m.amount).wf = true
  entry : (Lit.int .i64 m.entry).wf = true
  ostan : (Lit.int .i64 m.ostan).wf = true
  time : m.time.size ≤ 140737488355328
  acq : m.acq.size ≤ 140737488355328
  pan : m.pan.size ≤ 140737488355328
  cur : m.cur.size ≤ 140737488355328
  rrn : m.rrn.size ≤ 140737488355328
  mer : m.mer.size ≤ 140737488355328
  ter : m.ter.size ≤ 140737488355328
  app : m.app.size ≤ 140737488355328
  act : m.act.size ≤ 140737488355328
  rea : m.rea.size ≤ 140737488355328
  otime : m.otime.size ≤ 140737488355328
  key : m.key.size ≤ 140737488355328
  note : m.note.size ≤ 140737488355328
  tags : RdI 2 TagI w N m.tA m.tn m.tc tl
  extra : RdI 2 PairI w N m.eA m.en m.ec el
  other : RdI 2 TagI w N m.oA m.on m.oc ol
  tn : m.tn ≤ 140737488355328
  en : m.en ≤ 140737488355328
  on : m.on ≤ 140737488355328
theorem MsgR.fr {w w' : World} {N S : Nat → Prop} {m : MsgC} {tl : List (Int × List UInt8)} {el : List (ByteArray × ByteArray)} {ol : List (Int × List UInt8)} (h : MsgR w N m tl el ol) (hf : Fr S w w') (hS : ∀ i, N i → ¬ S i) : MsgR w' N m tl el ol :=
  { h with tags := h.tags.fr tag_ok hf hS, extra := h.extra.fr pair_ok hf hS, other := h.other.fr tag_ok hf hS }
theorem MsgR.no {w w' : World} {N : Nat → Prop} {m : MsgC} {tl : List (Int × List UInt8)} {el : List (ByteArray × ByteArray)} {ol : List (Int × List UInt8)} (h : MsgR w N m tl el ol) (hf : Fr No w w') : MsgR w' N m tl el ol := h.fr hf (fun _ _ x => x)
theorem tag_next (ad : Addr) (i j : Nat) : ad.add (i + (j + 1)) = ⟨(ad.add i).block, (ad.add i).off + (j + 1), none⟩ := by
  unfold Addr.add
  by_cases h : i = 0
  · subst h
    simp
  · simp [h]
    omega
/-- the cells of an element of two -/
theorem two_cells {α : Type} {I : World → (Nat → Prop) → List Value → α → Prop} {w : World} {N : Nat → Prop} {A : Option Addr} {n c : Nat} {ls : List α} (hI : ItemOk 2 I) (h : RdI 2 I w N A n c ls) {k : Nat} (hk : k < n) :
    ∃ ad cs a, A = some ad ∧ I w N cs a ∧ ls[k]? = some a ∧ (∀ u, cs[0]? = some u → w.cell? (ad.add (k * 2)) = some u) ∧ (∀ u, cs[1]? = some u → w.cell? ⟨(ad.add (k * 2)).block, (ad.add (k * 2)).off + 1, none⟩ = some u) := by
  have hl := h.len hI (by omega)
  obtain ⟨ad, cs, rfl, hi, hc⟩ := h.at_ hI (by omega) (i := k) (by omega)
  exact ⟨ad, cs, _, rfl, hi, List.getElem?_eq_getElem (by omega), fun u hu => by have := hc 0 u hu; rwa [Nat.add_zero] at this, fun u hu => by rw [← tag_next ad (k * 2) 0]; exact hc 1 u hu⟩
end Go.Proofs.YthlgnmgjfgbffaaGreatDoor
/- Texts as rows of characters of one to four bytes: plain functions on lists of bytes, no program. -/
namespace Go.Proofs.YthlgnmgjfgbffaaGreatDoor
set_option linter.unusedVariables false

/-- may the character stand in a text? -/
def charB (c : Nat) : Bool := decide (c = 9 ∨ c = 10 ∨ c = 13 ∨ (32 ≤ c ∧ c < 55296) ∨ (57343 < c ∧ c < 65534) ∨ (65535 < c ∧ c ≤ 1114111))
/-- does the byte carry a character on? -/
def contB (b : UInt8) : Bool := decide (128 ≤ b.toNat ∧ b.toNat < 192)
/-- what a first byte says: how many bytes, the least number, its own bits -/
def lead (x : Nat) : Option (Nat × Nat × Nat) :=
  if x < 128 then some (1, 0, x) else if 192 ≤ x ∧ x < 224 then some (2, 128, x % 32) else if 224 ≤ x ∧ x < 240 then some (3, 2048, x % 16) else if 240 ≤ x ∧ x < 248 then some (4, 65536, x % 8) else none
/-- k bytes that carry on -/
def tlB : Nat → List UInt8 → Nat → Option Nat
  | 0, _, c => some c
  | k + 1, b :: r, c => if contB b then tlB k r (c * 64 + b.toNat % 64) else none
  | _ + 1, [], _ => none
/-- n, if the number may be; else 0 -/
def finB (v : Option Nat) (n least : Nat) : Nat := match v with
  | none => 0
  | some v => if v < least then 0 else if charB v then n else 0
def sizeC (p : Option (Nat × Nat × Nat)) (r : List UInt8) : Nat := match p with
  | none => 0
  | some (n, least, c) => finB (tlB (n - 1) r c) n least
/-- how many bytes the first character has; 0: none that may be -/
def sizeB : List UInt8 → Nat
  | [] => 0
  | b :: r => sizeC (lead b.toNat) r
theorem sizeB_cons (b : UInt8) (r : List UInt8) : sizeB (b :: r) = sizeC (lead b.toNat) r := rfl
theorem sizeC_none (r : List UInt8) : sizeC none r = 0 := rfl
theorem sizeC_some (n least c : Nat) (r : List UInt8) : sizeC (some (n, least, c)) r = finB (tlB (n - 1) r c) n least := rfl
theorem finB_none (n least : Nat) : finB none n least = 0 := rfl
theorem finB_some (v n least : Nat) : finB (some v) n least = if v < least then 0 else if charB v then n else 0 := rfl
/-- how many characters; none: no text -/
def cntF : Nat → List UInt8 → Option Nat
  | _, [] => some 0
  | 0, _ :: _ => none
  | f + 1, b :: r => if sizeB (b :: r) = 0 then none else (cntF f ((b :: r).drop (sizeB (b :: r)))).map (· + 1)
def cnt (l : List UInt8) : Option Nat := cntF l.length l

theorem lead_some {x n least c : Nat} (h : lead x = some (n, least, c)) : 1 ≤ n ∧ n ≤ 4 ∧ ((n = 1 ∧ x < 128) ∨ (2 ≤ n ∧ 192 ≤ x)) := by
  unfold lead at h
  split at h
  · simp at h; omega
  · split at h
    · simp at h; omega
    · split at h
      · simp at h; omega
      · split at h
        · simp at h; omega
        · cases h
theorem tlB_len : ∀ (k : Nat) (r : List UInt8) (c v : Nat), tlB k r c = some v → k ≤ r.length
  | 0, _, _, _, _ => Nat.zero_le _
  | k + 1, [], _, _, h => by simp [tlB] at h
  | k + 1, b :: r, c, v, h => by
    unfold tlB at h
    split at h
    · have := tlB_len k r _ v h
      simp
      omega
    · cases h
theorem tlB_append : ∀ (k : Nat) (r m : List UInt8) (c : Nat), k ≤ r.length → tlB k (r ++ m) c = tlB k r c
  | 0, _, _, _, _ => by simp [tlB]
  | k + 1, [], _, _, h => by simp at h
  | k + 1, b :: r, m, c, h => by
    simp only [List.cons_append, tlB]
    rw [tlB_append k r m _ (by simpa using h)]
theorem sizeB_pos {l : List UInt8} (h : sizeB l ≠ 0) : sizeB l ≤ l.length ∧ sizeB l ≤ 4 ∧ l ≠ [] := by
  cases l with
  | nil => simp [sizeB] at h
  | cons b r =>
    rw [sizeB_cons] at h ⊢
    cases hl : lead b.toNat with
    | none => rw [hl] at h; simp [sizeC_none] at h
    | some p =>
      obtain ⟨n, least, c⟩ := p
      rw [hl, sizeC_some] at h
      rw [sizeC_some]
      obtain ⟨h1, h2, _⟩ := lead_some hl
      cases ht : tlB (n - 1) r c with
      | none => rw [ht] at h; simp [finB_none] at h
      | some v =>
        rw [finB_some]
        have := tlB_len _ _ _ _ ht
        split
        · simp
        · split
          · simp; omega
          · simp
theorem sizeB_append {l : List UInt8} (h : sizeB l ≠ 0) (m : List UInt8) : sizeB (l ++ m) = sizeB l := by
  cases l with
  | nil => simp [sizeB] at h
  | cons b r =>
    rw [List.cons_append]
    rw [sizeB_cons] at h
    rw [sizeB_cons, sizeB_cons]
    cases hl : lead b.toNat with
    | none => rw [hl] at h; simp [sizeC_none] at h
    | some p =>
      obtain ⟨n, least, c⟩ := p
      rw [hl, sizeC_some] at h
      rw [sizeC_some, sizeC_some]
      cases ht : tlB (n - 1) r c with
      | none => rw [ht] at h; simp [finB_none] at h
      | some v => rw [tlB_append _ _ _ _ (tlB_len _ _ _ _ ht), ht]
theorem cntF_enough : ∀ (f : Nat) (l : List UInt8), l.length ≤ f → cntF f l = cnt l := by
  have key : ∀ (f g : Nat) (l : List UInt8), l.length ≤ f → l.length ≤ g → cntF f l = cntF g l := by
    intro f
    induction f with
    | zero =>
      intro g l h1 h2
      have : l = [] := List.eq_nil_of_length_eq_zero (by omega)
      subst this
      cases g <;> rfl
    | succ f ih =>
      intro g l h1 h2
      cases l with
      | nil => cases g <;> rfl
      | cons b r =>
        cases g with
        | zero => simp at h2
        | succ g =>
          simp only [cntF]
          split
          · rfl
          · rename_i hs
            have := sizeB_pos hs
            rw [ih g _ (by rw [List.length_drop]; simp at h1 ⊢; omega) (by rw [List.length_drop]; simp at h2 ⊢; omega)]
  intro f l h
  exact key f l.length l h (Nat.le_refl _)
theorem cnt_nil : cnt [] = some 0 := rfl
theorem cnt_step {l : List UInt8} (h : l ≠ []) : cnt l = if sizeB l = 0 then none else (cnt (l.drop (sizeB l))).map (· + 1) := by
  cases l with
  | nil => exact absurd rfl h
  | cons b r =>
    unfold cnt
    rw [List.length_cons]
    simp only [cntF]
    split
    · rfl
    · rename_i hs
      have := sizeB_pos hs
      rw [cntF_enough _ _ (by rw [List.length_drop, List.length_cons]; omega)]
      rfl
/-- two texts, one behind the other -/
theorem cnt_append : ∀ (n : Nat) (a : List UInt8), a.length ≤ n → ∀ (x : Nat) (b : List UInt8), cnt a = some x → cnt (a ++ b) = (cnt b).map (x + ·) := by
  intro n
  induction n with
  | zero =>
    intro a h x b hx
    have : a = [] := List.eq_nil_of_length_eq_zero (by omega)
    subst this
    rw [cnt_nil] at hx
    injection hx with hx
    subst hx
    cases h : cnt b <;> simp [h]
  | succ n ih =>
    intro a h x b hx
    cases a with
    | nil =>
      rw [cnt_nil] at hx
      injection hx with hx
      subst hx
      cases h : cnt b <;> simp [h]
    | cons c r =>
      rw [cnt_step (by simp)] at hx
      split at hx
      · cases hx
      · rename_i hs
        obtain ⟨h1, _, _⟩ := sizeB_pos hs
        obtain ⟨y, hy, rfl⟩ := Option.map_eq_some_iff.1 hx
        have hne : (c :: r) ++ b ≠ [] := by simp
        rw [cnt_step hne, sizeB_append hs, if_neg hs, List.drop_append_of_le_length h1, ih _ (by rw [List.length_drop]; simp at h ⊢; omega) y b hy]
        cases cnt b <;> simp
        omega
theorem cnt_app {a b : List UInt8} {x : Nat} (h : cnt a = some x) : cnt (a ++ b) = (cnt b).map (x + ·) := cnt_append _ a (Nat.le_refl _) x b h
theorem cnt_le : ∀ (n : Nat) (a : List UInt8), a.length ≤ n → ∀ x, cnt a = some x → x ≤ a.length := by
  intro n
  induction n with
  | zero =>
    intro a h x hx
    have : a = [] := List.eq_nil_of_length_eq_zero (by omega)
    subst this
    rw [cnt_nil] at hx
    injection hx with hx
    omega
  | succ n ih =>
    intro a h x hx
    cases a with
    | nil =>
      rw [cnt_nil] at hx
      injection hx with hx
      omega
    | cons c r =>
      rw [cnt_step (by simp)] at hx
      split at hx
      · cases hx
      · rename_i hs
        obtain ⟨h1, _, _⟩ := sizeB_pos hs
        obtain ⟨y, hy, rfl⟩ := Option.map_eq_some_iff.1 hx
        have := ih _ (by rw [List.length_drop]; simp at h ⊢; omega) y hy
        rw [List.length_drop] at this
        simp at h1 this ⊢
        omega
/-- a byte that begins no character that goes on with x -/
theorem size_bad (d : UInt8) (r : List UInt8) (h : 128 ≤ d.toNat) : sizeB (d :: 120 :: r) = 0 := by
  rw [sizeB_cons]
  cases hl : lead d.toNat with
  | none => rfl
  | some p =>
    obtain ⟨n, least, c⟩ := p
    obtain ⟨h1, h2, h3⟩ := lead_some hl
    obtain ⟨k, hk⟩ : ∃ k, n - 1 = k + 1 := ⟨n - 2, by omega⟩
    rw [sizeC_some, hk]
    rfl
theorem cnt_bad {a : List UInt8} {x : Nat} (ha : cnt a = some x) (d : UInt8) (b : List UInt8) (h : 128 ≤ d.toNat) : cnt (a ++ (d :: 120 :: b)) = none := by
  rw [cnt_app ha, cnt_step (by simp), if_pos (size_bad d b h)]
  rfl
/-- one byte alone -/
theorem size_one (d : UInt8) : sizeB [d] = if d.toNat < 128 ∧ charB d.toNat = true then 1 else 0 := by
  rw [sizeB_cons]
  by_cases h : d.toNat < 128
  · have hl : lead d.toNat = some (1, 0, d.toNat) := by unfold lead; rw [if_pos h]
    rw [hl, sizeC_some]
    show finB (some d.toNat) 1 0 = _
    rw [finB_some, if_neg (by omega)]
    cases charB d.toNat <;> simp [h]
  · rw [if_neg (fun x => h x.1)]
    cases hl : lead d.toNat with
    | none => rfl
    | some p =>
      obtain ⟨n, least, c⟩ := p
      obtain ⟨h1, h2, h3⟩ := lead_some hl
      obtain ⟨k, hk⟩ : ∃ k, n - 1 = k + 1 := ⟨n - 2, by omega⟩
      rw [sizeC_some, hk]
      rfl
theorem cnt_one (d : UInt8) : cnt [d] = if d.toNat < 128 ∧ charB d.toNat = true then some 1 else none := by
  rw [cnt_step (by simp), size_one]
  split
  · rfl
  · rfl

/-! ### what is asked of texts -/
def utf8B (l : List UInt8) : Bool := (cnt l).isSome
def runesN (l : List UInt8) : Nat := (cnt l).getD 0
def lowest (l : List UInt8) : Bool := l.all fun b => decide (32 ≤ b.toNat)
def plainB (l : List UInt8) (low top : Int) : Bool :=
  lowest l && (utf8B l && (decide (low ≤ (runesN l : Int)) && (decide ((runesN l : Int) ≤ top) && (decide (l = []) || (decide (l.getD 0 0 ≠ 32) && decide (l.getD (l.length - 1) 0 ≠ 32))))))
def ansC (b : UInt8) : Bool := decide (32 ≤ b.toNat ∧ b.toNat ≤ 126)
def ansB (l : List UInt8) (top : Int) : Bool := (l.all ansC) && (decide (1 ≤ (l.length : Int)) && decide ((l.length : Int) ≤ top))
def alnC (b : UInt8) : Bool := decide ((48 ≤ b.toNat ∧ b.toNat ≤ 57) ∨ (65 ≤ b.toNat ∧ b.toNat ≤ 90) ∨ (97 ≤ b.toNat ∧ b.toNat ≤ 122))
def alnB (l : List UInt8) (low top : Int) : Bool := (l.all alnC) && (decide (low ≤ (l.length : Int)) && decide ((l.length : Int) ≤ top))
end Go.Proofs.YthlgnmgjfgbffaaGreatDoor
/- Tags and their data as bytes, both ways: plain functions on lists, no program. -/
namespace Go.Proofs.YthlgnmgjfgbffaaGreatDoor
set_option linter.unusedVariables false

/-- how many bytes a tag has; 0: it is none -/
def tgN (t : Int) : Nat := if 0 < t ∧ t < 255 ∧ t % 32 ≠ 31 then 1 else if 255 < t ∧ t / 256 < 255 ∧ (t / 256) % 32 = 31 ∧ t % 256 < 128 then 2 else 0
theorem tgN_le (t : Int) : tgN t ≤ 2 ∧ (tgN t ≠ 0 → 0 < t ∧ t < 65536) := by
  unfold tgN
  split
  · exact ⟨by omega, fun _ => by omega⟩
  · split
    · exact ⟨by omega, fun _ => by omega⟩
    · exact ⟨by omega, fun h => absurd rfl h⟩
abbrev TagL := Int × List UInt8
def tagB (t : Int) : List UInt8 := if tgN t = 1 then [UInt8.ofNat t.toNat] else if tgN t = 2 then [UInt8.ofNat (t.toNat / 256), UInt8.ofNat t.toNat] else []
def lenB (n : Nat) : List UInt8 := if n < 128 then [UInt8.ofNat n] else [129, UInt8.ofNat n]
def wr1T (a : TagL) : List UInt8 := tagB a.1 ++ (lenB a.2.length ++ a.2)
def wrT : List TagL → List UInt8
  | [] => []
  | a :: l => wr1T a ++ wrT l
/-- why tags can't be written, some being there already -/
def wrF : List TagL → List TagL → Int
  | _, [] => 0
  | p, a :: l => if tgN a.1 = 0 ∨ p.any (fun x => x.1 == a.1) = true then 18 else if 255 < a.2.length then 17 else wrF (p ++ [a]) l
def wrE (l : List TagL) : Int := if 20 < l.length then 4 else wrF [] l
def wrL (l : List TagL) : List UInt8 := if wrE l = 0 then wrT l else []

/-- a tag at the beginning, and what is behind it; none: it is cut -/
def tagP : List UInt8 → Option (Int × List UInt8)
  | [] => none
  | b :: r => if b.toNat % 32 = 31 ∧ b.toNat ≠ 255 then (match r with
    | [] => none
    | c :: q => some (((b.toNat * 256 + c.toNat : Nat) : Int), q)) else some ((b.toNat : Int), r)
/-- a length at the beginning: an error, or how many, and what is behind it -/
def lenP : List UInt8 → Int × Nat × List UInt8
  | [] => (3, 0, [])
  | n :: q => if n.toNat < 128 then (0, n.toNat, q) else if n.toNat ≠ 129 then (17, 0, []) else match q with
    | [] => (3, 0, [])
    | m :: s => if m.toNat < 128 then (17, 0, []) else (0, m.toNat, s)
/-- tags of bytes, some being there already -/
def parF : Nat → List TagL → List UInt8 → Int × List TagL
  | _, p, [] => (0, p)
  | 0, _, _ :: _ => (4, [])
  | f + 1, p, b :: r => if 20 ≤ p.length then (4, []) else match tagP (b :: r) with
    | none => (3, [])
    | some (t, q) => if tgN t = 0 ∨ p.any (fun x => x.1 == t) = true then (18, []) else
      if (lenP q).1 ≠ 0 then ((lenP q).1, []) else
      if (lenP q).2.2.length < (lenP q).2.1 then (3, []) else parF f (p ++ [(t, (lenP q).2.2.take (lenP q).2.1)]) ((lenP q).2.2.drop (lenP q).2.1)
def parA (b : List UInt8) : Int × List TagL := parF b.length [] b
def tlvE (b : List UInt8) : Int := (parA b).1
def tlvL (b : List UInt8) : List TagL := (parA b).2

theorem u8_self (x : UInt8) : UInt8.ofNat x.toNat = x := by simp
theorem u8_natV {n : Nat} (h : n < 256) : (UInt8.ofNat n).toNat = n := by rw [UInt8.toNat_ofNat']; omega
theorem tagP_cons (b : UInt8) (r : List UInt8) : tagP (b :: r) = if b.toNat % 32 = 31 ∧ b.toNat ≠ 255 then (match r with
    | [] => none
    | c :: q => some (((b.toNat * 256 + c.toNat : Nat) : Int), q)) else some ((b.toNat : Int), r) := rfl
theorem lenP_cons (n : UInt8) (q : List UInt8) : lenP (n :: q) = ((if n.toNat < 128 then (0, n.toNat, q) else if n.toNat ≠ 129 then (17, 0, []) else match q with
    | [] => (3, 0, [])
    | m :: s => if m.toNat < 128 then (17, 0, []) else (0, m.toNat, s)) : Int × Nat × List UInt8) := rfl
theorem parF_cons (f : Nat) (p : List TagL) (b : UInt8) (r : List UInt8) : parF (f + 1) p (b :: r) = if 20 ≤ p.length then (4, []) else match tagP (b :: r) with
    | none => (3, [])
    | some (t, q) => if tgN t = 0 ∨ p.any (fun x => x.1 == t) = true then (18, []) else
      if (lenP q).1 ≠ 0 then ((lenP q).1, []) else
      if (lenP q).2.2.length < (lenP q).2.1 then (3, []) else parF f (p ++ [(t, (lenP q).2.2.take (lenP q).2.1)]) ((lenP q).2.2.drop (lenP q).2.1) := rfl
theorem parF_nil (f : Nat) (p : List TagL) : parF f p [] = (0, p) := by cases f <;> rfl
theorem tagP_less {l q : List UInt8} {t : Int} (h : tagP l = some (t, q)) : q.length < l.length := by
  cases l with
  | nil => cases h
  | cons b r =>
    rw [tagP_cons] at h
    split at h
    · cases r with
      | nil => cases h
      | cons c s =>
        simp only [Option.some.injEq, Prod.mk.injEq] at h
        rw [← h.2]; simp; omega
    · simp only [Option.some.injEq, Prod.mk.injEq] at h
      rw [← h.2]; simp
theorem lenP_less (l : List UInt8) : (lenP l).2.2.length ≤ l.length := by
  cases l with
  | nil => simp [lenP]
  | cons n q =>
    rw [lenP_cons]
    split
    · simp
    split
    · simp
    cases q with
    | nil => simp
    | cons m s =>
      simp only
      split
      · simp
      · simp; omega
/-- fuel that is enough is enough -/
theorem parF_fuel : ∀ (f g : Nat) (p : List TagL) (l : List UInt8), l.length ≤ f → l.length ≤ g → parF f p l = parF g p l
  | f, g, p, [], _, _ => by rw [parF_nil, parF_nil]
  | 0, _, _, _ :: _, h, _ => by simp at h
  | _, 0, _, _ :: _, _, h => by simp at h
  | f + 1, g + 1, p, b :: r, hf, hg => by
    rw [parF_cons, parF_cons]
    split
    · rfl
    split
    · rfl
    rename_i t q ht
    have h1 := tagP_less ht
    have h2 := lenP_less q
    split
    · rfl
    split
    · rfl
    split
    · rfl
    simp only [List.length_cons] at hf hg h1
    exact parF_fuel f g _ _ (by rw [List.length_drop]; omega) (by rw [List.length_drop]; omega)

/-! ### written, and parsed -/
theorem tagB_parse (t : Int) (h : tgN t ≠ 0) (q : List UInt8) : tagP (tagB t ++ q) = some (t, q) ∧ (tagB t).length = tgN t := by
  have hle := tgN_le t
  have h0 := hle.2 h
  unfold tagB
  rcases (show tgN t = 1 ∨ tgN t = 2 by omega) with h1 | h1
  · rw [if_pos h1, h1]
    unfold tgN at h1
    split at h1
    · rename_i hc
      have e : (UInt8.ofNat t.toNat).toNat = t.toNat := u8_natV (by omega)
      refine ⟨?_, rfl⟩
      simp only [List.singleton_append, tagP, e]
      rw [if_neg (by omega)]
      congr 2
      omega
    · split at h1 <;> cases h1
  · rw [if_neg (by omega), if_pos h1, h1]
    unfold tgN at h1
    split at h1
    · cases h1
    · split at h1
      · rename_i hc
        have e1 : (UInt8.ofNat (t.toNat / 256)).toNat = t.toNat / 256 := u8_natV (by omega)
        have e2 : (UInt8.ofNat t.toNat).toNat = t.toNat % 256 := by rw [UInt8.toNat_ofNat']
        refine ⟨?_, rfl⟩
        simp only [List.cons_append, List.nil_append, tagP, e1, e2]
        rw [if_pos (by omega)]
        congr 2
        omega
      · cases h1
theorem lenB_parse (n : Nat) (h : n ≤ 255) (q : List UInt8) : lenP (lenB n ++ q) = (0, n, q) := by
  unfold lenB
  split
  · have e : (UInt8.ofNat n).toNat = n := u8_natV (by omega)
    simp only [List.singleton_append, lenP, e]
    rw [if_pos (by omega)]
  · have e : (UInt8.ofNat n).toNat = n := u8_natV (by omega)
    have e2 : (129 : UInt8).toNat = 129 := rfl
    simp only [List.cons_append, List.nil_append, lenP, e, e2]
    rw [if_neg (by omega), if_neg (by omega), if_neg (by omega)]
theorem wr1_ne (a : TagL) (h : tgN a.1 ≠ 0) (q : List UInt8) : ∃ b r, wr1T a ++ q = b :: r := by
  have h1 := (tagB_parse a.1 h []).2
  cases hb : wr1T a ++ q with
  | nil =>
    have h2 := congrArg List.length hb
    unfold wr1T at h2
    simp only [List.length_append, List.length_nil] at h2
    omega
  | cons b r => exact ⟨b, r, rfl⟩
/-- a tag that is written is parsed, whatever is behind it -/
theorem par_one (f : Nat) (p : List TagL) (a : TagL) (q : List UInt8) (hp : p.length < 20) (ht : tgN a.1 ≠ 0) (hk : p.any (fun x => x.1 == a.1) = false) (hn : a.2.length ≤ 255) :
    parF (f + 1) p (wr1T a ++ q) = parF f (p ++ [a]) q := by
  obtain ⟨b, r, hb⟩ := wr1_ne a ht q
  have h1 := (tagB_parse a.1 ht (lenB a.2.length ++ (a.2 ++ q))).1
  have h2 := lenB_parse a.2.length hn (a.2 ++ q)
  have e : wr1T a ++ q = tagB a.1 ++ (lenB a.2.length ++ (a.2 ++ q)) := by unfold wr1T; simp
  rw [← e, hb] at h1
  rw [hb, parF_cons, if_neg (by omega), h1]
  simp only [h2]
  rw [if_neg (by rw [hk]; simp [ht]), if_neg (by simp), if_neg (by simp), List.take_left' rfl, List.drop_left' rfl]
theorem wrF_ok {p : List TagL} {a : TagL} {l : List TagL} (h : wrF p (a :: l) = 0) : tgN a.1 ≠ 0 ∧ p.any (fun x => x.1 == a.1) = false ∧ a.2.length ≤ 255 ∧ wrF (p ++ [a]) l = 0 := by
  unfold wrF at h
  split at h
  · cases h
  rename_i h1
  split at h
  · cases h
  rename_i h2
  refine ⟨fun e => h1 (.inl e), ?_, by omega, h⟩
  cases hh : p.any (fun x => x.1 == a.1) with
  | false => rfl
  | true => exact absurd (.inr hh) h1
theorem par_wr : ∀ (l p : List TagL) (f : Nat), wrF p l = 0 → p.length + l.length ≤ 20 → (wrT l).length ≤ f → parF f p (wrT l) = (0, p ++ l)
  | [], p, f, _, _, _ => by rw [List.append_nil]; exact parF_nil f p
  | a :: l, p, f, h, hl, hf => by
    obtain ⟨h1, h2, h3, h4⟩ := wrF_ok h
    obtain ⟨b, r, hb⟩ := wr1_ne a h1 (wrT l)
    simp only [List.length_cons] at hl
    have hlen : (wrT (a :: l)).length = (wr1T a).length + (wrT l).length := by simp [wrT]
    have hpos : 0 < (wr1T a).length := by
      have := (tagB_parse a.1 h1 []).2
      unfold wr1T
      simp
      omega
    cases f with
    | zero => omega
    | succ f =>
      show parF (f + 1) p (wr1T a ++ wrT l) = _
      rw [par_one f p a (wrT l) (by omega) h1 h2 h3, par_wr l (p ++ [a]) f h4 (by simp; omega) (by omega)]
      simp
theorem wrE_ok {l : List TagL} (h : wrE l = 0) : l.length ≤ 20 ∧ wrF [] l = 0 := by
  unfold wrE at h
  split at h
  · cases h
  · exact ⟨by omega, h⟩
/-- what is written is parsed -/
theorem tlv_there {l : List TagL} (h : wrE l = 0) : tlvE (wrT l) = 0 ∧ tlvL (wrT l) = l := by
  obtain ⟨h1, h2⟩ := wrE_ok h
  have := par_wr l [] (wrT l).length h2 (by simpa using h1) (Nat.le_refl _)
  unfold tlvE tlvL parA
  rw [this]
  exact ⟨rfl, rfl⟩

/-! ### parsed, and written -/
theorem tagP_back {l q : List UInt8} {t : Int} (h : tagP l = some (t, q)) (ht : tgN t ≠ 0) : l = tagB t ++ q := by
  cases l with
  | nil => cases h
  | cons b r =>
    have hb := b.toNat_lt
    rw [tagP_cons] at h
    split at h
    · rename_i hc
      cases r with
      | nil => cases h
      | cons c s =>
        have hcl := c.toNat_lt
        simp only [Option.some.injEq, Prod.mk.injEq] at h
        obtain ⟨rfl, rfl⟩ := h
        have h2 : tgN ((b.toNat * 256 + c.toNat : Nat) : Int) = 2 := by
          unfold tgN at ht ⊢
          rw [if_neg (by omega)] at ht ⊢
          split
          · rfl
          · rename_i hh; rw [if_neg hh] at ht; exact absurd rfl ht
        unfold tagB
        rw [if_neg (by omega), if_pos h2, Int.toNat_natCast, show (b.toNat * 256 + c.toNat) / 256 = b.toNat by omega, u8_self]
        have e2 : UInt8.ofNat (b.toNat * 256 + c.toNat) = c := by
          apply UInt8.toNat_inj.1
          rw [UInt8.toNat_ofNat']
          omega
        rw [e2]
        rfl
    · rename_i hc
      simp only [Option.some.injEq, Prod.mk.injEq] at h
      obtain ⟨rfl, rfl⟩ := h
      have h2 : tgN (b.toNat : Int) = 1 := by
        unfold tgN at ht ⊢
        split
        · rfl
        · rename_i hh; rw [if_neg hh, if_neg (by omega)] at ht; exact absurd rfl ht
      unfold tagB
      rw [if_pos h2, Int.toNat_natCast, u8_self]
      rfl
theorem lenP_back {l : List UInt8} (h : (lenP l).1 = 0) : l = lenB (lenP l).2.1 ++ (lenP l).2.2 ∧ (lenP l).2.1 ≤ 255 := by
  cases l with
  | nil => cases h
  | cons n q =>
    have hn := n.toNat_lt
    rw [lenP_cons] at h ⊢
    split
    · rename_i h1
      refine ⟨?_, by simp only; omega⟩
      simp only [lenB]
      rw [if_pos h1, u8_self]
      rfl
    · rename_i h1
      rw [if_neg h1] at h
      split
      · rename_i h2; rw [if_pos h2] at h; cases h
      · rename_i h2
        rw [if_neg h2] at h
        cases q with
        | nil => cases h
        | cons m s =>
          have hm := m.toNat_lt
          simp only at h ⊢
          split
          · rename_i h3; rw [if_pos h3] at h; cases h
          · rename_i h3
            refine ⟨?_, by simp only; omega⟩
            simp only [lenB]
            rw [if_neg h3, u8_self]
            have : n = 129 := UInt8.toNat_inj.1 (by rw [show (129 : UInt8).toNat = 129 from rfl]; omega)
            rw [this]
            rfl
theorem par_back : ∀ (f : Nat) (p : List TagL) (b : List UInt8) (L : List TagL), parF f p b = (0, L) → ∃ l, L = p ++ l ∧ b = wrT l ∧ wrF p l = 0 ∧ (l = [] ∨ L.length ≤ 20)
  | f, p, [], L, h => by
    rw [parF_nil] at h
    injection h with _ h
    exact ⟨[], by simp [h], rfl, rfl, .inl rfl⟩
  | 0, _, _ :: _, _, h => by cases h
  | f + 1, p, b :: r, L, h => by
    rw [parF_cons] at h
    split at h
    · cases h
    rename_i h20
    split at h
    · cases h
    rename_i t q ht
    split at h
    · cases h
    rename_i h1
    split at h
    · rename_i h2; injection h with h _; exact absurd h h2
    rename_i h2
    split at h
    · cases h
    rename_i h3
    have h2 : (lenP q).1 = 0 := by omega
    have ht0 : tgN t ≠ 0 := fun e => h1 (.inl e)
    obtain ⟨e1, e2⟩ := lenP_back h2
    obtain ⟨l, hl, hb, hw, hz⟩ := par_back f _ _ L h
    have hlt : ((lenP q).2.2.take (lenP q).2.1).length = (lenP q).2.1 := by rw [List.length_take]; omega
    refine ⟨(t, (lenP q).2.2.take (lenP q).2.1) :: l, by rw [hl]; simp, ?_, ?_, ?_⟩
    · rw [tagP_back ht ht0]
      show _ = wr1T _ ++ wrT l
      rw [← hb]
      unfold wr1T
      simp only [hlt]
      rw [List.append_assoc, List.append_assoc, List.take_append_drop, ← e1]
    · show (if tgN t = 0 ∨ p.any (fun x => x.1 == t) = true then (18 : Int) else if 255 < ((lenP q).2.2.take (lenP q).2.1).length then 17 else wrF (p ++ [(t, (lenP q).2.2.take (lenP q).2.1)]) l) = 0
      rw [if_neg h1, if_neg (by omega), hw]
    · right
      rcases hz with rfl | hz
      · rw [hl]; simp; omega
      · exact hz
/-- what is parsed is written as it was -/
theorem tlv_back {b : List UInt8} (h : tlvE b = 0) : wrE (tlvL b) = 0 ∧ wrT (tlvL b) = b := by
  unfold tlvE at h
  unfold tlvL
  obtain ⟨l, hl, hb, hw, hz⟩ := par_back b.length [] b (parA b).2 (by show parA b = _; rw [← h])
  rw [List.nil_append] at hl
  rw [hl]
  refine ⟨?_, hb.symm⟩
  unfold wrE
  rw [if_neg (by rcases hz with rfl | hz; simp; rw [hl] at hz; omega), hw]

/-! ### cut -/
theorem par_cut1 (f : Nat) (p : List TagL) (a : TagL) (hp : p.length < 20) (ht : tgN a.1 ≠ 0) (hk : p.any (fun x => x.1 == a.1) = false) (hn : a.2.length ≤ 255) (k : Nat) (h0 : 0 < k) (hlt : k < (wr1T a).length) (hf : k ≤ f + 1) :
    (parF (f + 1) p ((wr1T a).take k)).1 = 3 := by
  have h2 := (tagB_parse a.1 ht []).2
  have hle := (tgN_le a.1).1
  -- the tag's bytes
  by_cases hkt : k < (tagB a.1).length
  · -- one of two
    have hk1 : k = 1 := by omega
    have ht2 : tgN a.1 = 2 := by omega
    subst hk1
    have e : (wr1T a).take 1 = [UInt8.ofNat (a.1.toNat / 256)] := by
      unfold wr1T tagB
      rw [if_neg (by omega), if_pos ht2]
      rfl
    rw [e, parF_cons, if_neg (by omega)]
    have hc : 255 < a.1 ∧ a.1 / 256 < 255 ∧ (a.1 / 256) % 32 = 31 ∧ a.1 % 256 < 128 := by
      unfold tgN at ht2
      split at ht2
      · cases ht2
      · split at ht2
        · assumption
        · cases ht2
    have e1 : (UInt8.ofNat (a.1.toNat / 256)).toNat = a.1.toNat / 256 := u8_natV (by omega)
    have e3 : tagP [UInt8.ofNat (a.1.toNat / 256)] = none := by
      rw [tagP_cons, if_pos (by rw [e1]; omega)]
    rw [e3]
  · have e : (wr1T a).take k = tagB a.1 ++ ((lenB a.2.length ++ a.2).take (k - (tagB a.1).length)) := by
      unfold wr1T
      rw [List.take_append, List.take_of_length_le (by omega)]
    have h1 := (tagB_parse a.1 ht ((lenB a.2.length ++ a.2).take (k - (tagB a.1).length))).1
    rw [← e] at h1
    have hne : ∃ b r, (wr1T a).take k = b :: r := by
      cases hb : (wr1T a).take k with
      | nil => have h := congrArg List.length hb; rw [List.length_take, List.length_nil] at h; omega
      | cons b r => exact ⟨b, r, rfl⟩
    obtain ⟨b, r, hb⟩ := hne
    rw [hb] at h1 ⊢
    rw [parF_cons, if_neg (by omega), h1]
    simp only
    rw [if_neg (by rw [hk]; simp [ht])]
    have hwl : (wr1T a).length = (tagB a.1).length + ((lenB a.2.length).length + a.2.length) := by unfold wr1T; simp
    by_cases hkl : k - (tagB a.1).length < (lenB a.2.length).length
    · -- within the length
      have e3 : (lenP ((lenB a.2.length ++ a.2).take (k - (tagB a.1).length))).1 = 3 := by
        rw [List.take_append_of_le_length (by omega)]
        unfold lenB at hkl ⊢
        split
        · rename_i hs
          rw [if_pos hs] at hkl
          simp only [List.length_singleton] at hkl
          rw [show k - (tagB a.1).length = 0 by omega]
          rfl
        · rename_i hs
          rw [if_neg hs] at hkl
          simp only [List.length_cons, List.length_nil] at hkl
          rcases (show k - (tagB a.1).length = 0 ∨ k - (tagB a.1).length = 1 by omega) with h | h
          · rw [h]; rfl
          · rw [h]; rfl
      rw [if_pos (by rw [e3]; decide)]
      exact e3
    · have e3 : (lenB a.2.length ++ a.2).take (k - (tagB a.1).length) = lenB a.2.length ++ a.2.take (k - (tagB a.1).length - (lenB a.2.length).length) := by
        rw [List.take_append, List.take_of_length_le (by omega)]
      have e4 := lenB_parse a.2.length hn (a.2.take (k - (tagB a.1).length - (lenB a.2.length).length))
      rw [e3, e4]
      simp only
      rw [if_neg (by simp), if_pos (by rw [List.length_take]; omega)]
theorem par_cut : ∀ (l p : List TagL) (f k : Nat), wrF p l = 0 → p.length + l.length ≤ 20 → k < (wrT l).length → k ≤ f →
    (parF f p ((wrT l).take k)).1 = 3 ∨ (parF f p ((wrT l).take k)).1 = 0 ∧ (parF f p ((wrT l).take k)).2.length < p.length + l.length
  | [], p, f, k, _, _, hk, _ => by simp [wrT] at hk
  | a :: l, p, f, k, h, hl, hk, hf => by
    obtain ⟨h1, h2, h3, h4⟩ := wrF_ok h
    simp only [List.length_cons] at hl ⊢
    rcases Nat.eq_zero_or_pos k with h0 | h0
    · subst h0
      right
      rw [List.take_zero, parF_nil]
      exact ⟨rfl, by simp only; omega⟩
    have hlen : (wrT (a :: l)).length = (wr1T a).length + (wrT l).length := by simp [wrT]
    cases f with
    | zero => omega
    | succ f =>
      by_cases hlt : k < (wr1T a).length
      · left
        have e : (wrT (a :: l)).take k = (wr1T a).take k := by show (wr1T a ++ wrT l).take k = _; rw [List.take_append_of_le_length (by omega)]
        rw [e]
        exact par_cut1 f p a (by omega) h1 h2 h3 k h0 hlt hf
      · have e : (wrT (a :: l)).take k = wr1T a ++ (wrT l).take (k - (wr1T a).length) := by
          show (wr1T a ++ wrT l).take k = _
          rw [List.take_append, List.take_of_length_le (by omega)]
        have hpos : 0 < (wr1T a).length := by
          have := (tagB_parse a.1 h1 []).2
          unfold wr1T
          simp
          omega
        rw [e, par_one f p a _ (by omega) h1 h2 h3]
        have ih := par_cut l (p ++ [a]) f (k - (wr1T a).length) h4 (by simp; omega) (by omega) (by omega)
        rw [List.length_append, List.length_singleton] at ih
        rcases ih with ih | ⟨ih1, ih2⟩
        · exact .inl ih
        · exact .inr ⟨ih1, by omega⟩
/-- cut within it is too short, or has fewer tags -/
theorem tlv_cut {l : List TagL} (h : wrE l = 0) {k : Nat} (hk : k < (wrT l).length) : tlvE ((wrT l).take k) = 3 ∨ tlvE ((wrT l).take k) = 0 ∧ (tlvL ((wrT l).take k)).length < l.length := by
  obtain ⟨h1, h2⟩ := wrE_ok h
  have := par_cut l [] ((wrT l).take k).length k h2 (by simpa using h1) hk (by rw [List.length_take]; omega)
  rw [List.length_nil, Nat.zero_add] at this
  exact this
end Go.Proofs.YthlgnmgjfgbffaaGreatDoor
/- Package kinds' table, as it is laid. No program. -/
namespace Go.Proofs.YthlgnmgjfgbffaaGreatDoor
set_option linter.unusedVariables false

/-- a row of the table: kind, code, number, what it must have, what it may have -/
structure DRow where
  kind : Int
  code : ByteArray
  mti : ByteArray
  must : Nat
  may : Nat
def DRow.cells (r : DRow) : List Value := [.int .i64 r.kind, .string r.code, .string r.mti, .int .u16 (r.must : Int), .int .u16 (r.may : Int)]
def DRow.val (r : DRow) : Value := .agg #[.int .i64 r.kind, .string r.code, .string r.mti, .int .u16 (r.must : Int), .int .u16 (r.may : Int)]
def devT : List DRow := [⟨1, ⟨#[65, 85, 84, 81]⟩, ⟨#[50, 49, 48, 48]⟩, 27, 1092⟩, ⟨2, ⟨#[65, 85, 84, 80]⟩, ⟨#[50, 49, 49, 48]⟩, 128, 1063⟩, ⟨3, ⟨#[67, 77, 80, 86]⟩, ⟨#[50, 50, 50, 48]⟩, 27, 740⟩, ⟨4, ⟨#[67, 77, 80, 75]⟩, ⟨#[50, 50, 51, 48]⟩, 128, 4⟩, ⟨5, ⟨#[82, 86, 82, 65]⟩, ⟨#[50, 52, 50, 48]⟩, 771, 28⟩, ⟨6, ⟨#[82, 86, 82, 82]⟩, ⟨#[50, 52, 51, 48]⟩, 128, 4⟩, ⟨7, ⟨#[82, 67, 76, 81]⟩, ⟨#[50, 53, 50, 48]⟩, 2, 0⟩, ⟨8, ⟨#[82, 67, 76, 80]⟩, ⟨#[50, 53, 51, 48]⟩, 128, 2⟩, ⟨9, ⟨#[68, 71, 78, 81]⟩, ⟨#[50, 56, 48, 48]⟩, 0, 0⟩, ⟨10, ⟨#[68, 71, 78, 80]⟩, ⟨#[50, 56, 49, 48]⟩, 128, 0⟩, ⟨11, ⟨#[82, 74, 67, 84]⟩, ⟨#[50, 54, 52, 52]⟩, 256, 0⟩]
def dNone : DRow := ⟨0, ⟨#[]⟩, ⟨#[]⟩, 0, 0⟩
def dRow (k : Nat) : DRow := devT.getD k dNone
def devV : List Value := devT.flatMap DRow.cells
/-- the first row from k on, of n, of which that is so -/
def dFirstF (p : Nat → Bool) : Nat → Nat → DRow
  | _, 0 => dNone
  | k, n + 1 => if p k then dRow k else dFirstF p (k + 1) n
def dFirst (p : Nat → Bool) : DRow := dFirstF p 0 11
theorem dFirstF_at (p : Nat → Bool) : ∀ (n k j : Nat), j < n → (∀ i, i < j → p (k + i) = false) → p (k + j) = true → dFirstF p k n = dRow (k + j)
  | 0, _, _, h, _, _ => by omega
  | n + 1, k, 0, _, _, h => by rw [dFirstF, if_pos (by simpa using h)]; rfl
  | n + 1, k, j + 1, hj, h0, h => by
    have h1 := h0 0 (by omega)
    rw [Nat.add_zero] at h1
    rw [dFirstF, h1, if_neg (by decide), dFirstF_at p n (k + 1) j (by omega) (fun i hi => by have := h0 (i + 1) (by omega); rw [show k + 1 + i = k + (i + 1) by omega]; exact this) (by rw [show k + 1 + j = k + (j + 1) by omega]; exact h)]
    congr 1
    omega
theorem dFirstF_none (p : Nat → Bool) : ∀ (n k : Nat), (∀ i, i < n → p (k + i) = false) → dFirstF p k n = dNone
  | 0, _, _ => rfl
  | n + 1, k, h => by
    have h1 := h 0 (by omega)
    rw [Nat.add_zero] at h1
    rw [dFirstF, h1, if_neg (by decide)]
    exact dFirstF_none p n (k + 1) (fun i hi => by have := h (i + 1) (by omega); rw [show k + 1 + i = k + (i + 1) by omega]; exact this)
theorem dFirst_at {p : Nat → Bool} {k : Nat} (hk : k < 11) (h0 : ∀ j, j < k → p j = false) (h : p k = true) : dFirst p = dRow k := by
  have := dFirstF_at p 11 0 k hk (fun i hi => by rw [Nat.zero_add]; exact h0 i hi) (by rw [Nat.zero_add]; exact h)
  rwa [Nat.zero_add] at this
theorem dFirst_none {p : Nat → Bool} (h0 : ∀ j, j < 11 → p j = false) : dFirst p = dNone := dFirstF_none p 11 0 (fun i hi => by rw [Nat.zero_add]; exact h0 i hi)
end Go.Proofs.YthlgnmgjfgbffaaGreatDoor
/- Package codes' table, as it is laid. No program. -/
namespace Go.Proofs.YthlgnmgjfgbffaaGreatDoor
set_option linter.unusedVariables false

/-- a row of the table: action, status, reason -/
structure ERow where
  action : ByteArray
  status : ByteArray
  reason : ByteArray
def ERow.cells (r : ERow) : List Value := [.string r.action, .string r.status, .string r.reason]
def ERow.val (r : ERow) : Value := .agg #[.string r.action, .string r.status, .string r.reason]
def codE : List ERow := [⟨⟨#[48, 48, 48]⟩, ⟨#[65, 80, 80, 82]⟩, ⟨#[78, 79, 82, 77]⟩⟩, ⟨⟨#[48, 48, 49]⟩, ⟨#[65, 80, 80, 82]⟩, ⟨#[73, 68, 69, 78]⟩⟩, ⟨⟨#[48, 48, 50]⟩, ⟨#[80, 65, 82, 84]⟩, ⟨#[78, 79, 82, 77]⟩⟩, ⟨⟨#[49, 48, 48]⟩, ⟨#[68, 69, 67, 76]⟩, ⟨#[78, 79, 82, 77]⟩⟩, ⟨⟨#[49, 48, 49]⟩, ⟨#[68, 69, 67, 76]⟩, ⟨#[69, 88, 80, 68]⟩⟩, ⟨⟨#[49, 48, 50]⟩, ⟨#[68, 69, 67, 76]⟩, ⟨#[70, 82, 65, 85]⟩⟩, ⟨⟨#[49, 48, 52]⟩, ⟨#[68, 69, 67, 76]⟩, ⟨#[82, 69, 83, 84]⟩⟩, ⟨⟨#[49, 48, 57]⟩, ⟨#[68, 69, 67, 76]⟩, ⟨#[77, 82, 67, 72]⟩⟩, ⟨⟨#[49, 49, 48]⟩, ⟨#[68, 69, 67, 76]⟩, ⟨#[65, 77, 78, 84]⟩⟩, ⟨⟨#[49, 49, 54]⟩, ⟨#[68, 69, 67, 76]⟩, ⟨#[73, 78, 83, 70]⟩⟩, ⟨⟨#[49, 49, 55]⟩, ⟨#[68, 69, 67, 76]⟩, ⟨#[80, 73, 78, 86]⟩⟩, ⟨⟨#[49, 49, 56]⟩, ⟨#[68, 69, 67, 76]⟩, ⟨#[78, 79, 67, 68]⟩⟩, ⟨⟨#[49, 50, 49]⟩, ⟨#[68, 69, 67, 76]⟩, ⟨#[76, 73, 77, 84]⟩⟩, ⟨⟨#[50, 48, 48]⟩, ⟨#[80, 73, 67, 75]⟩, ⟨#[78, 79, 82, 77]⟩⟩, ⟨⟨#[52, 48, 48]⟩, ⟨#[82, 86, 83, 76]⟩, ⟨#[78, 79, 82, 77]⟩⟩, ⟨⟨#[53, 48, 48]⟩, ⟨#[82, 69, 67, 78]⟩, ⟨#[78, 79, 82, 77]⟩⟩, ⟨⟨#[56, 48, 48]⟩, ⟨#[78, 69, 84, 87]⟩, ⟨#[78, 79, 82, 77]⟩⟩, ⟨⟨#[57, 48, 52]⟩, ⟨#[84, 69, 67, 72]⟩, ⟨#[70, 79, 82, 77]⟩⟩, ⟨⟨#[57, 48, 55]⟩, ⟨#[84, 69, 67, 72]⟩, ⟨#[73, 83, 83, 82]⟩⟩, ⟨⟨#[57, 48, 57]⟩, ⟨#[84, 69, 67, 72]⟩, ⟨#[66, 85, 83, 89]⟩⟩, ⟨⟨#[57, 49, 49]⟩, ⟨#[84, 69, 67, 72]⟩, ⟨#[84, 73, 77, 79]⟩⟩, ⟨⟨#[57, 49, 50]⟩, ⟨#[84, 69, 67, 72]⟩, ⟨#[68, 79, 87, 78]⟩⟩]
def eNone : ERow := ⟨⟨#[]⟩, ⟨#[]⟩, ⟨#[]⟩⟩
def eRow (k : Nat) : ERow := codE.getD k eNone
def codV : List Value := codE.flatMap ERow.cells
/-- the first row from k on, of n, of which that is so, and whether there is one -/
def eFirstF (p : Nat → Bool) : Nat → Nat → ERow × Bool
  | _, 0 => (eNone, false)
  | k, n + 1 => if p k then (eRow k, true) else eFirstF p (k + 1) n
def eFirst (p : Nat → Bool) : ERow × Bool := eFirstF p 0 22
theorem eFirstF_at (p : Nat → Bool) : ∀ (n k j : Nat), j < n → (∀ i, i < j → p (k + i) = false) → p (k + j) = true → eFirstF p k n = (eRow (k + j), true)
  | 0, _, _, h, _, _ => by omega
  | n + 1, k, 0, _, _, h => by rw [eFirstF, if_pos (by simpa using h)]; rfl
  | n + 1, k, j + 1, hj, h0, h => by
    have h1 := h0 0 (by omega)
    rw [Nat.add_zero] at h1
    rw [eFirstF, h1, if_neg (by decide), eFirstF_at p n (k + 1) j (by omega) (fun i hi => by have := h0 (i + 1) (by omega); rw [show k + 1 + i = k + (i + 1) by omega]; exact this) (by rw [show k + 1 + j = k + (j + 1) by omega]; exact h)]
    rw [show k + 1 + j = k + (j + 1) by omega]
theorem eFirstF_none (p : Nat → Bool) : ∀ (n k : Nat), (∀ i, i < n → p (k + i) = false) → eFirstF p k n = (eNone, false)
  | 0, _, _ => rfl
  | n + 1, k, h => by
    have h1 := h 0 (by omega)
    rw [Nat.add_zero] at h1
    rw [eFirstF, h1, if_neg (by decide)]
    exact eFirstF_none p n (k + 1) (fun i hi => by have := h (i + 1) (by omega); rw [show k + 1 + i = k + (i + 1) by omega]; exact this)
theorem eFirst_at {p : Nat → Bool} {k : Nat} (hk : k < 22) (h0 : ∀ j, j < k → p j = false) (h : p k = true) : eFirst p = (eRow k, true) := by
  have := eFirstF_at p 22 0 k hk (fun i hi => by rw [Nat.zero_add]; exact h0 i hi) (by rw [Nat.zero_add]; exact h)
  rwa [Nat.zero_add] at this
theorem eFirst_none {p : Nat → Bool} (h0 : ∀ j, j < 22 → p j = false) : eFirst p = (eNone, false) := eFirstF_none p 22 0 (fun i hi => by rw [Nat.zero_add]; exact h0 i hi)
end Go.Proofs.YthlgnmgjfgbffaaGreatDoor
/- Rows of strings, and what the helpers of the statements do with them. -/
namespace Go.Proofs.YthlgnmgjfgbffaaGreatDoor
open Go.RowKit
set_option maxHeartbeats 400000
set_option linter.unusedVariables false

/-- strings as cells -/
def strsK (l : List ByteArray) : List Value := l.map Value.string
@[simp] theorem strs_length (l : List ByteArray) : (strsK l).length = l.length := by simp [strsK]
theorem strs_get (l : List ByteArray) (k : Nat) (h : k < l.length) : (strsK l)[k]? = some (.string l[k]) := by simp [strsK, h]
theorem strs_append (l m : List ByteArray) : strsK (l ++ m) = strsK l ++ strsK m := by simp [strsK]
theorem strs_one (l : List ByteArray) : ∀ u ∈ strsK l, u.oneCell' = true := by
  intro u hu
  simp only [strsK, List.mem_map] at hu
  obtain ⟨b, _, rfl⟩ := hu
  rfl
theorem info_strK : (Tryz.prog.info? 9).map (fun i => (i.zero, i.size, i.bytes)) = some (some (.string ⟨#[]⟩), 1, 16) := by kernel_rfl
theorem Rd.lits {w : World} (l : List ByteArray) (t : TypeId) (n : Nat) (hn : l.length = n) (hm : n ≤ maxLen) : Rd (w.alloc (.cells (strsK l).toArray t)) (some ⟨w.heap.size, 0, none⟩) n n (strsK l) := by
  have h := (Bk.new w t (strsK l).toArray).rd (n := n) (cap := n) (Nat.le_refl _) hm (by simp [hn])
  rw [List.take_of_length_le (by simp [hn])] at h
  simpa using h
theorem Rd.oneS {w : World} (s : ByteArray) (t : TypeId) : Rd (w.alloc (.cells #[.string s] t)) (some ⟨w.heap.size, 0, none⟩) 1 1 (strsK [s]) := Rd.lits [s] t 1 rfl (by simp [maxLen])
end Go.Proofs.YthlgnmgjfgbffaaGreatDoor
/- What the helpers of the statements do (a copy with room behind it, and whether it is as it was): contracts, for every list of bytes within a slice's length. -/
namespace Go.Proofs.YthlgnmgjfgbffaaGreatDoor
open Go.RowKit
set_option maxHeartbeats 400000
set_option linter.unusedVariables false
set_option maxRecDepth 20000

theorem own_step (l : List UInt8) (f : UInt8) (k : Nat) (hk : k < 3) :
    (u8s (l ++ List.replicate k f ++ List.replicate (3 - k) 0)).set (l.length + k) (.int .u8 (f.toNat : Int)) = u8s (l ++ List.replicate (k + 1) f ++ List.replicate (3 - (k + 1)) 0) := by
  obtain rfl | rfl | rfl : k = 0 ∨ k = 1 ∨ k = 2 := by omega
  all_goals simp [u8s, List.replicate]

theorem own_get (l : List UInt8) (f : UInt8) (k : Nat) (hk : k < 3) :
    ∃ u, (u8s (l ++ List.replicate k f ++ List.replicate (3 - k) 0))[l.length + k]? = some u := by
  rw [List.getElem?_eq_getElem (by simp; omega)]
  exact ⟨_, rfl⟩

/-- what Own made reads as what it was made of -/
theorem own_rd0 {w : World} {g n : Nat} {l : List UInt8} {f : UInt8} {t : TypeId} (hb : Bk w g t (u8s (l ++ [f, f, f]))) (hl : (u8s l).length = n) (hn : n ≤ 65536) : Rd w (some ⟨g, 0, none⟩) n (n + 3) (u8s l) := by
  rw [u8s_length] at hl
  have := hb.rd (n := n) (cap := n + 3) (by omega) (by simp only [maxLen]; omega) (by simp; omega)
  have e : (u8s (l ++ [f, f, f])).take n = u8s l := by
    rw [u8s_append, List.take_left' (by simpa using hl)]
  rwa [e] at this
theorem own_rd {w w' : World} {g n : Nat} {l : List UInt8} {f : UInt8} {t : TypeId} (hb : Bk w g t (u8s (l ++ [f, f, f]))) (hf : Fr No w w') (hl : (u8s l).length = n) (hn : n ≤ 65536) : Rd w' (some ⟨g, 0, none⟩) n (n + 3) (u8s l) :=
  own_rd0 (hb.no hf) hl hn

end Go.Proofs.YthlgnmgjfgbffaaGreatDoor
/- bytes.Clone: its contract, for every list of bytes within a slice's length. -/
namespace Go.Proofs.YthlgnmgjfgbffaaGreatDoor
open Go.RowKit
set_option maxHeartbeats 400000
set_option linter.unusedVariables false
set_option maxRecDepth 20000

/-- bytes.Clone -/
theorem clone_any (A : Option Addr) (n c : Nat) (l : List UInt8) (w : World) (ha : Rd w A n c (u8s l)) (hn : n ≤ 140737488355328) :
    Calls Tryz.prog 76 #[.slice A n c] w fun e w' => ∃ v, e = .returned v ∧ w'.ownsRow w.heap.size 5 1 v n (u8s l) ∧ Fr No w w' := by
  cases A with
  | none =>
    obtain ⟨rfl, rfl, rfl⟩ := ha.none_
    have hnil : ∀ w : World, (binOp .eql 22 (.slice none 0 0) (.slice none 0 0)).run Tryz.prog w = .ok (.bool true) w := fun w => Lib.run_eql_slice_nil w _ _ none 0 0 0 0 Tryz.underlying22
    go_enter Tryz.func76, Tryz.ntmps76
    go_wp2
    go_ret
    exact ⟨_, rfl, World.ownsRow_nil _ _ _ _, Fr.refl _ _⟩
  | some ad =>
    have hnil : ∀ w : World, (binOp .eql 22 (.slice (some ad) n c) (.slice none 0 0)).run Tryz.prog w = .ok (.bool false) w := fun w => Lib.run_eql_slice_nil w _ _ (some ad) n c 0 0 Tryz.underlying22
    go_enter Tryz.func76, Tryz.ntmps76
    go_wp2_with (at_builtin; refine ap8 _ rfl (.tmp 5) (.tmp 6) rfl w.heap.size (.slice (some ⟨w.heap.size, 0, none⟩) 0 0) 0 [] rfl (World.ownsRow_made w #[] 0 (Nat.le_refl _) (by simp [maxLen]) rfl) (some ad) n c l rfl (ha.no ((Fr.refl _ _).alloc _)) (by omega) (by simp) ?_; intro v w1 h1 h2 h3)
    go_ret
    exact ⟨v, rfl, by simpa using h1, ((Fr.refl No w).alloc _).grown h2 (by simp [Value.ownBlock])⟩
end Go.Proofs.YthlgnmgjfgbffaaGreatDoor
/- Bytes as a number, the highest first, and a number's lowest bytes: plain functions, no program. -/
namespace Go.Proofs.YthlgnmgjfgbffaaGreatDoor
open Go.RowKit
set_option maxHeartbeats 400000
set_option linter.unusedVariables false

/-- bytes as a number, the highest first -/
def beN (l : List UInt8) : Nat := l.foldl (fun v x => v * 256 + x.toNat) 0

theorem beN_snoc (l : List UInt8) (x : UInt8) : beN (l ++ [x]) = beN l * 256 + x.toNat := by simp [beN]
theorem beN_lt (l : List UInt8) : beN l < 256 ^ l.length := by
  suffices h : ∀ (m : List UInt8), beN m.reverse < 256 ^ m.length by
    have := h l.reverse
    simpa using this
  intro m
  induction m with
  | nil => simp [beN]
  | cons x m ih =>
    rw [List.reverse_cons, beN_snoc, List.length_cons, Nat.pow_succ]
    have := x.toNat_lt
    omega

theorem or_step (B x : Nat) (hB : B < 72057594037927936) (hx : x < 256) : bits .or .u64 (IntKind.u64.wrap ((B : Int) * 256)) (x : Int) = ((B * 256 + x : Nat) : Int) := by
  have e : IntKind.u64.wrap ((B : Int) * 256) = ((B * 256 : Nat) : Int) := by
    rw [IntWalk.u64_in _ ⟨by omega, by omega⟩]
    omega
  rw [e, bits_or_u64_nat _ _ (by omega) (by omega)]
  congr 1
  have := Nat.two_pow_add_eq_or_of_lt (i := 8) (b := x) (by omega) B
  rw [show B * 256 = 2 ^ 8 * B from by omega, this]

theorem beN_take_lt (l : List UInt8) (k : Nat) (hk : k < 8) : beN (l.take k) < 72057594037927936 := by
  have h := beN_lt (l.take k)
  have h1 : (l.take k).length ≤ 7 := by rw [List.length_take]; omega
  have h2 : 256 ^ (l.take k).length ≤ 256 ^ 7 := Nat.pow_le_pow_right (by omega) h1
  have h3 : (256 : Nat) ^ 7 = 72057594037927936 := by decide
  omega

theorem beN_step (l : List UInt8) (k : Nat) (hk : k < l.length) : beN (l.take (k + 1)) = beN (l.take k) * 256 + l[k].toNat := by
  rw [List.take_succ_eq_append_getElem hk, beN_snoc]

/-- the m lowest bytes of v, the highest first -/
def lowB (v : Nat) (m i : Nat) : UInt8 := UInt8.ofNat (v / 2 ^ (8 * (m - 1 - i)))
def low (v : Nat) (m : Nat) : List UInt8 := (List.range m).map (lowB v m)
theorem lowB_int (v m i : Nat) : (v : Int) / 2 ^ (8 * (m - 1 - i)) % 256 = ((lowB v m i).toNat : Int) := by
  unfold lowB
  rw [UInt8.toNat_ofNat']
  simp [Int.natCast_pow]
theorem lowB_int8 (v i : Nat) : (v : Int) / 2 ^ (8 * (7 - i)) % 256 = ((lowB v 8 i).toNat : Int) := lowB_int v 8 i
@[simp] theorem low_length (v m : Nat) : (low v m).length = m := by simp [low]
theorem low_snoc (v m k : Nat) (l : List UInt8) (h : k < m) : l ++ (low v m).take k ++ [lowB v m k] = l ++ (low v m).take (k + 1) := by
  rw [List.append_assoc, List.take_succ_eq_append_getElem (by simpa using h)]
  simp [low]

/-- held from 0 to 8 -/
def held8 (n : Int) : Nat := (max (min n 8) 0).toNat
theorem held8_cases (z : Int) : (z ≤ 0 ∧ held8 z ≤ 0) ∨ (0 < z ∧ z ≤ 8 ∧ z = (held8 z : Int)) ∨ (8 < z ∧ 8 ≤ held8 z ∧ held8 z ≤ 8) := by
  unfold held8
  omega
theorem low_succ' (v m : Nat) : low v (m + 1) = low (v / 256) m ++ [UInt8.ofNat v] := by
  unfold low
  rw [List.range_succ, List.map_append]
  congr 1
  · apply List.map_congr_left
    intro i hi
    have hi' : i < m := by simpa using hi
    unfold lowB
    rw [Nat.div_div_eq_div_mul]
    congr 2
    rw [show m + 1 - 1 - i = (m - 1 - i) + 1 from by omega, Nat.mul_add, Nat.pow_add]
    simp [Nat.mul_comm]
  · simp [lowB]
theorem beN_low' (m : Nat) : ∀ v : Nat, beN (low v m) = v % 256 ^ m := by
  induction m with
  | zero => intro v; simp [low, beN, Nat.mod_one]
  | succ m ih =>
    intro v
    rw [low_succ', beN_snoc, ih, UInt8.toNat_ofNat']
    have h := Nat.mod_mul (x := v) (a := 256) (b := 256 ^ m)
    have e : 256 ^ (m + 1) = 256 * 256 ^ m := by rw [Nat.pow_succ, Nat.mul_comm]
    rw [e, h]
    omega
end Go.Proofs.YthlgnmgjfgbffaaGreatDoor
