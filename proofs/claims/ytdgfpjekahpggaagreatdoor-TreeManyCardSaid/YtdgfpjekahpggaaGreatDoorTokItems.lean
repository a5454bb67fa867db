/- Attributes and tokens as things in rows. -/
import Derived.Test.YtdgfpjekahpggaaGreatDoorItems
import Derived.Test.YtdgfpjekahpggaaGreatDoorMathA
import Derived.Test.YtdgfpjekahpggaaGreatDoorHelp0
namespace Go.Proofs.YtdgfpjekahpggaaGreatDoor
open Go.RowKit
set_option maxHeartbeats 400000
set_option linter.unusedVariables false

def AttrI (_ : World) (_ : Nat → Prop) (cs : List Value) (a : List UInt8 × List UInt8) : Prop := ∃ X Y : ByteArray, cs = [.string X, .string Y] ∧ X.data.toList = a.1 ∧ Y.data.toList = a.2
theorem attr_ok : ItemOk 2 AttrI where
  len := by rintro w N cs a ⟨X, Y, rfl, _, _⟩; rfl
  one := by
    rintro w N cs a ⟨X, Y, rfl, _, _⟩ u hu
    simp only [List.mem_cons, List.not_mem_nil, or_false] at hu
    rcases hu with rfl | rfl <;> rfl
  fr := fun h _ _ => h
  mono := fun h _ => h
theorem AttrI.any {w w' : World} {N M : Nat → Prop} {cs : List Value} {a : List UInt8 × List UInt8} (h : AttrI w N cs a) : AttrI w' M cs a := h
/-- a token's cells -/
def TokI (w : World) (N : Nat → Prop) (cs : List Value) (t : Tok) : Prop := ∃ (X Y : ByteArray) (A : Option Addr) (n c : Nat),
  cs = [.int .i64 t.kind, .string X, .string Y, .slice A n c, .bool t.empty] ∧ X.data.toList = t.name ∧ Y.data.toList = t.text ∧ RdI 2 AttrI w N A n c t.attrs
theorem tok_ok : ItemOk 5 TokI where
  len := by rintro w N cs a ⟨X, Y, A, n, c, rfl, _⟩; rfl
  one := by
    rintro w N cs a ⟨X, Y, A, n, c, rfl, _⟩ u hu
    simp only [List.mem_cons, List.not_mem_nil, or_false] at hu
    rcases hu with rfl | rfl | rfl | rfl | rfl <;> rfl
  fr := by
    rintro w w' N S cs a ⟨X, Y, A, n, c, e, h1, h2, h3⟩ hf hS
    exact ⟨X, Y, A, n, c, e, h1, h2, h3.fr attr_ok hf hS⟩
  mono := by
    rintro w N M cs a ⟨X, Y, A, n, c, e, h1, h2, h3⟩ hM
    exact ⟨X, Y, A, n, c, e, h1, h2, h3.mono attr_ok hM⟩
theorem info_attr : (Tryz.prog.info? 60).map (fun i => (i.zero, i.size, i.bytes)) = some (some (.agg #[.string ⟨#[]⟩, .string ⟨#[]⟩]), 2, 32) := by kernel_rfl
theorem info_tok : (Tryz.prog.info? 43).map (fun i => (i.zero, i.size, i.bytes)) = some (some (.agg #[.int .i64 0, .string ⟨#[]⟩, .string ⟨#[]⟩, .slice none 0 0, .bool false]), 5, 72) := by kernel_rfl
theorem attrs_any {w w' : World} {N M : Nat → Prop} : ∀ {ls : List (List UInt8 × List UInt8)} {xs : List Value} (h : ItemsF AttrI w N xs ls), ItemsF AttrI w' M xs ls
  | [], _, h => h
  | _ :: _, _, ⟨cs, rest, e, h1, h2⟩ => ⟨cs, rest, e, h1, attrs_any h2⟩
theorem own_attrs {w : World} {base : Nat} {e : TypeId} {N : Nat → Prop} {v : Value} {n : Nat} {ls : List (List UInt8 × List UInt8)} (h : OwnI 2 AttrI w base e N v n ls) (M : Nat → Prop) : OwnI 2 AttrI w base e M v n ls :=
  let ⟨xs, ho, he⟩ := h.xs
  ⟨⟨xs, ho, attrs_any he⟩⟩
/-- one more attribute, just laid in a block of its own -/
theorem ap_attr1 (u : World) {ops : Array Oper} {rest : List Oper} {o : Oper} {a : Act} {Q : Exit → Act → World → Prop} (hgd : Region.wanted o (yielded ops a.tmps) = true) (s x : Operand)
    (ho : o.op = .call { callee := .builtin .append, args := #[s, x], argTypes := #[30, 30] })
    (base : Nat) (v : Value) (n : Nat) (ls : List (List UInt8 × List UInt8)) (hs : a.eval s = v) (hown : OwnI 2 AttrI u base 60 No v n ls) (X Y : ByteArray) (at_ : List UInt8 × List UInt8) (hX : X.data.toList = at_.1) (hY : Y.data.toList = at_.2) (t : TypeId)
    (bk : Nat) (hbk : u.heap.size = bk) (hx : a.eval x = .slice (some ⟨bk, 0, none⟩) 1 1) (hb : n + 1 ≤ 4000000000) (hbase : base ≤ u.heap.size)
    (h : ∀ v' w', OwnI 2 AttrI w' base 60 No v' (n + 1) (ls ++ [at_]) → (u.alloc (.cells #[.string X, .string Y] t)).grownBy w' v.ownBlock → (v'.ownBlock = v.ownBlock ∨ v'.ownBlock = some (u.heap.size + 1)) → wpList Tryz.prog ops Q rest (a.put o.dst v') w') :
    wpList Tryz.prog ops Q (o :: rest) a (u.alloc (.cells #[.string X, .string Y] t)) := by
  subst hbk
  obtain ⟨i, hi, hz, h1, h2⟩ := info_parts info_attr
  have hlt := hown.lt
  have ho1 : OwnI 2 AttrI (u.alloc (.cells #[.string X, .string Y] t)) base 60 (fun i => i = u.heap.size) v n ls := own_attrs (hown.no attr_ok ((Fr.refl No u).alloc _)) _
  have hr : RdI 2 AttrI (u.alloc (.cells #[.string X, .string Y] t)) (fun i => i = u.heap.size) (some ⟨u.heap.size, 0, none⟩) 1 1 [at_] :=
    ⟨⟨[.string X, .string Y], RdS.lit u [.string X, .string Y] t 1 rfl (by simp [maxLen]), ItemsF.single ⟨X, Y, rfl, hX, hY⟩⟩, fun ad e => (congrArg Addr.block (Option.some.inj e)).symm⟩
  refine apI' _ attr_ok (by omega) hgd s x 30 ho base 60 i _ 32 Tryz.underlying30 hi hz h1 h2 rfl v n ls [at_] hs ho1 _ 1 1 hx hr (by simp only [maxLen]; omega) (by omega) (by simp; omega) (fun i hi e => by have := (hlt i e).2; omega) ?_
  intro v' w' g1 g2 g3
  exact h v' w' (own_attrs g1 No) g2 (by simpa using g3)
/-- one more token, just laid in a block of its own -/
theorem ap_tok1 (u : World) {ops : Array Oper} {rest : List Oper} {o : Oper} {a : Act} {Q : Exit → Act → World → Prop} (hgd : Region.wanted o (yielded ops a.tmps) = true) (s x : Operand)
    (ho : o.op = .call { callee := .builtin .append, args := #[s, x], argTypes := #[22, 22] })
    (base : Nat) (v : Value) (n : Nat) (ls : List Tok) (N M : Nat → Prop) (hs : a.eval s = v) (hown : OwnI 5 TokI u base 43 N v n ls) (tk : Tok) (cs : List Value) (htk : TokI u M cs tk) (t : TypeId)
    (bk : Nat) (hbk : u.heap.size = bk) (hx : a.eval x = .slice (some ⟨bk, 0, none⟩) 1 1) (hb : n + 1 ≤ 1000000000) (hbase : base ≤ u.heap.size)
    (hN : ∀ i, N i → v.ownBlock ≠ some i) (hM : ∀ i, M i → v.ownBlock ≠ some i)
    (h : ∀ v' w', OwnI 5 TokI w' base 43 (fun i => N i ∨ M i) v' (n + 1) (ls ++ [tk]) → (u.alloc (.cells cs.toArray t)).grownBy w' v.ownBlock → (v'.ownBlock = v.ownBlock ∨ v'.ownBlock = some (u.heap.size + 1)) → wpList Tryz.prog ops Q rest (a.put o.dst v') w') :
    wpList Tryz.prog ops Q (o :: rest) a (u.alloc (.cells cs.toArray t)) := by
  subst hbk
  obtain ⟨i, hi, hz, h1, h2⟩ := info_parts info_tok
  have hfa : Fr No u (u.alloc (.cells cs.toArray t)) := (Fr.refl No u).alloc _
  have ho1 : OwnI 5 TokI (u.alloc (.cells cs.toArray t)) base 43 (fun i => N i ∨ M i) v n ls := (hown.no tok_ok hfa).mono tok_ok (fun _ x => .inl x)
  have hcl := tok_ok.len htk
  refine apI2 _ tok_ok (by omega) hgd s x 22 ho base 43 i _ 72 Tryz.underlying22 hi hz h1 h2 rfl v n ls [tk] hs ho1 _ 1 1 hx cs (RdS.lit u cs t 1 (by simpa using hcl) (by simp [maxLen])) (ItemsF.single (tok_ok.mono (tok_ok.fr htk hfa (fun _ _ x => x)) (fun _ x => .inr x))) (by simp only [maxLen]; omega) (by omega) (by simp; omega) (fun i hi => by rcases hi with hi | hi; exact hN i hi; exact hM i hi) ?_
  intro v' w' g1 g2 g3
  exact h v' w' g1 g2 (by simpa using g3)
/-- tokens behind tokens -/
theorem ap_toks (w : World) {ops : Array Oper} {rest : List Oper} {o : Oper} {a : Act} {Q : Exit → Act → World → Prop} (hgd : Region.wanted o (yielded ops a.tmps) = true) (s x : Operand)
    (ho : o.op = .call { callee := .builtin .append, args := #[s, x], argTypes := #[22, 22] })
    (base : Nat) (v : Value) (n : Nat) (ls bs : List Tok) (N M : Nat → Prop) (hs : a.eval s = v) (hown : OwnI 5 TokI w base 43 N v n ls) (A : Option Addr) (m c : Nat) (hx : a.eval x = .slice A m c) (hr : RdI 5 TokI w M A m c bs)
    (hb : n + m ≤ 1000000000) (hbase : base ≤ w.heap.size) (hN : ∀ i, N i → v.ownBlock ≠ some i) (hM : ∀ i, M i → v.ownBlock ≠ some i)
    (h : ∀ v' w', OwnI 5 TokI w' base 43 (fun i => N i ∨ M i) v' (n + m) (ls ++ bs) → w.grownBy w' v.ownBlock → (v'.ownBlock = v.ownBlock ∨ v'.ownBlock = some w.heap.size) → wpList Tryz.prog ops Q rest (a.put o.dst v') w') :
    wpList Tryz.prog ops Q (o :: rest) a w := by
  obtain ⟨i, hi, hz, h1, h2⟩ := info_parts info_tok
  obtain ⟨ys, hry, hye⟩ := hr.xs
  exact apI2 w tok_ok (by omega) hgd s x 22 ho base 43 i _ 72 Tryz.underlying22 hi hz h1 h2 rfl v n ls bs hs (hown.mono tok_ok (fun _ x => .inl x)) A m c hx ys hry (ItemsF.mono tok_ok hye (fun _ x => .inr x)) (by simp only [maxLen]; omega) (by omega) hbase (fun i hi => by rcases hi with hi | hi; exact hN i hi; exact hM i hi) h
end Go.Proofs.YtdgfpjekahpggaaGreatDoor
