/- The texts TokItems, HelpInt, joined. -/
import Derived.Test.YtbfodbejdaafaaaGreatDoorK17
import Derived.Test.YtbfodbejdaafaaaGreatDoorK13
import Derived.Test.YtbfodbejdaafaaaGreatDoorK03
/- Attributes and tokens as things in rows. -/
namespace Go.Proofs.YtbfodbejdaafaaaGreatDoor
open Go.RowKit
set_option maxHeartbeats 400000
set_option linter.unusedVariables false

def AttrI (_ : World) (_ : Nat → Prop) (cs : List Value) (a : List UInt8 × List UInt8) : Prop := ∃ X Y : ByteArray, cs = [.string X, .string Y] ∧ X.data.toList = a.1 ∧ Y.data.toList = a.2
theorem attr_ok : ItemOk 2 AttrI where
  len := by rintro w N cs a ⟨X, Y, rfl, _, _⟩; rfl
  one := by
    rintro w N cs a ⟨X, Y, rfl, _, _⟩ u hu
    simp only [List.mem_cons, List.not_mem_nil, or_false] at hu
    rcases hu with rfl | rfl <;> rfl
  fr := fun h _ _ => h
  mono := fun h _ => h
theorem AttrI.any {w w' : World} {N M : Nat → Prop} {cs : List Value} {a : List UInt8 × List UInt8} (h : AttrI w N cs a) : AttrI w' M cs a := h
/-- a token's cells -/
def TokI (w : World) (N : Nat → Prop) (cs : List Value) (t : Tok) : Prop := ∃ (X Y : ByteArray) (A : Option Addr) (n c : Nat),
  cs = [.int .i64 t.kind, .string X, .string Y, .slice A n c, .bool t.empty] ∧ X.data.toList = t.name ∧ Y.data.toList = t.text ∧ RdI 2 AttrI w N A n c t.attrs
theorem tok_ok : ItemOk 5 TokI where
  len := by rintro w N cs a ⟨X, Y, A, n, c, rfl, _⟩; rfl
  one := by
    rintro w N cs a ⟨X, Y, A, n, c, rfl, _⟩ u hu
    simp only [List.mem_cons, List.not_mem_nil, or_false] at hu
    rcases hu with rfl | rfl | rfl | rfl | rfl <;> rfl
  fr := by
    rintro w w' N S cs a ⟨X, Y, A, n, c, e, h1, h2, h3⟩ hf hS
    exact ⟨X, Y, A, n, c, e, h1, h2, h3.fr attr_ok hf hS⟩
  mono := by
    rintro w N M cs a ⟨X, Y, A, n, c, e, h1, h2, h3⟩ hM
    exact ⟨X, Y, A, n, c, e, h1, h2, h3.mono attr_ok hM⟩
theorem info_attr : (Tryz.prog.info? 56).map (fun i => (i.zero, i.size, i.bytes)) = some (some (.agg #[.string ⟨#[]⟩, .string ⟨#[]⟩]), 2, 32) := by kernel_rfl
theorem info_tok : (Tryz.prog.info? 68).map (fun i => (i.zero, i.size, i.bytes)) = some (some (.agg #[.int .i64 0, .string ⟨#[]⟩, .string ⟨#[]⟩, .slice none 0 0, .bool false]), 5, 72) := by kernel_rfl
theorem attrs_any {w w' : World} {N M : Nat → Prop} : ∀ {ls : List (List UInt8 × List UInt8)} {xs : List Value} (h : ItemsF AttrI w N xs ls), ItemsF AttrI w' M xs ls
  | [], _, h => h
  | _ :: _, _, ⟨cs, rest, e, h1, h2⟩ => ⟨cs, rest, e, h1, attrs_any h2⟩
theorem own_attrs {w : World} {base : Nat} {e : TypeId} {N : Nat → Prop} {v : Value} {n : Nat} {ls : List (List UInt8 × List UInt8)} (h : OwnI 2 AttrI w base e N v n ls) (M : Nat → Prop) : OwnI 2 AttrI w base e M v n ls :=
  let ⟨xs, ho, he⟩ := h.xs
  ⟨⟨xs, ho, attrs_any he⟩⟩
/-- one more attribute, just laid in a block of its own -/
theorem ap_attr1 (u : World) {ops : Array Oper} {rest : List Oper} {o : Oper} {a : Act} {Q : Exit → Act → World → Prop} (hgd : Region.wanted o (yielded ops a.tmps) = true) (s x : Operand)
    (ho : o.op = .call { callee := .builtin .append, args := #[s, x], argTypes := #[52, 52] })
    (base : Nat) (v : Value) (n : Nat) (ls : List (List UInt8 × List UInt8)) (hs : a.eval s = v) (hown : OwnI 2 AttrI u base 56 No v n ls) (X Y : ByteArray) (at_ : List UInt8 × List UInt8) (hX : X.data.toList = at_.1) (hY : Y.data.toList = at_.2) (t : TypeId)
    (bk : Nat) (hbk : u.heap.size = bk) (hx : a.eval x = .slice (some ⟨bk, 0, none⟩) 1 1) (hb : n + 1 ≤ 4000000000) (hbase : base ≤ u.heap.size)
    (h : ∀ v' w', OwnI 2 AttrI w' base 56 No v' (n + 1) (ls ++ [at_]) → (u.alloc (.cells #[.string X, .string Y] t)).grownBy w' v.ownBlock → (v'.ownBlock = v.ownBlock ∨ v'.ownBlock = some (u.heap.size + 1)) → wpList Tryz.prog ops Q rest (a.put o.dst v') w') :
    wpList Tryz.prog ops Q (o :: rest) a (u.alloc (.cells #[.string X, .string Y] t)) := by
  subst hbk
  obtain ⟨i, hi, hz, h1, h2⟩ := info_parts info_attr
  have hlt := hown.lt
  have ho1 : OwnI 2 AttrI (u.alloc (.cells #[.string X, .string Y] t)) base 56 (fun i => i = u.heap.size) v n ls := own_attrs (hown.no attr_ok ((Fr.refl No u).alloc _)) _
  have hr : RdI 2 AttrI (u.alloc (.cells #[.string X, .string Y] t)) (fun i => i = u.heap.size) (some ⟨u.heap.size, 0, none⟩) 1 1 [at_] :=
    ⟨⟨[.string X, .string Y], RdS.lit u [.string X, .string Y] t 1 rfl (by simp [maxLen]), ItemsF.single ⟨X, Y, rfl, hX, hY⟩⟩, fun ad e _ => (congrArg Addr.block (Option.some.inj e)).symm⟩
  refine apI' _ attr_ok (by omega) hgd s x 52 ho base 56 i _ 32 Tryz.underlying52 hi hz h1 h2 rfl v n ls [at_] hs ho1 _ 1 1 hx hr (by simp only [maxLen]; omega) (by omega) (by simp; omega) (fun i hi e => by have := (hlt i e).2; omega) ?_
  intro v' w' g1 g2 g3
  exact h v' w' (own_attrs g1 No) g2 (by simpa using g3)
/-- one more token, just laid in a block of its own -/
theorem ap_tok1 (u : World) {ops : Array Oper} {rest : List Oper} {o : Oper} {a : Act} {Q : Exit → Act → World → Prop} (hgd : Region.wanted o (yielded ops a.tmps) = true) (s x : Operand)
    (ho : o.op = .call { callee := .builtin .append, args := #[s, x], argTypes := #[39, 39] })
    (base : Nat) (v : Value) (n : Nat) (ls : List Tok) (N M : Nat → Prop) (hs : a.eval s = v) (hown : OwnI 5 TokI u base 68 N v n ls) (tk : Tok) (cs : List Value) (htk : TokI u M cs tk) (t : TypeId)
    (bk : Nat) (hbk : u.heap.size = bk) (hx : a.eval x = .slice (some ⟨bk, 0, none⟩) 1 1) (hb : n + 1 ≤ 1000000000) (hbase : base ≤ u.heap.size)
    (hN : ∀ i, N i → v.ownBlock ≠ some i) (hM : ∀ i, M i → v.ownBlock ≠ some i)
    (h : ∀ v' w', OwnI 5 TokI w' base 68 (fun i => N i ∨ M i) v' (n + 1) (ls ++ [tk]) → (u.alloc (.cells cs.toArray t)).grownBy w' v.ownBlock → (v'.ownBlock = v.ownBlock ∨ v'.ownBlock = some (u.heap.size + 1)) → wpList Tryz.prog ops Q rest (a.put o.dst v') w') :
    wpList Tryz.prog ops Q (o :: rest) a (u.alloc (.cells cs.toArray t)) := by
  subst hbk
  obtain ⟨i, hi, hz, h1, h2⟩ := info_parts info_tok
  have hfa : Fr No u (u.alloc (.cells cs.toArray t)) := (Fr.refl No u).alloc _
  have ho1 : OwnI 5 TokI (u.alloc (.cells cs.toArray t)) base 68 (fun i => N i ∨ M i) v n ls := (hown.no tok_ok hfa).mono tok_ok (fun _ x => .inl x)
  have hcl := tok_ok.len htk
  refine apI2 _ tok_ok (by omega) hgd s x 39 ho base 68 i _ 72 Tryz.underlying39 hi hz h1 h2 rfl v n ls [tk] hs ho1 _ 1 1 hx cs (RdS.lit u cs t 1 (by simpa using hcl) (by simp [maxLen])) (ItemsF.single (tok_ok.mono (tok_ok.fr htk hfa (fun _ _ x => x)) (fun _ x => .inr x))) (by simp only [maxLen]; omega) (by omega) (by simp; omega) (fun i hi => by rcases hi with hi | hi; exact hN i hi; exact hM i hi) ?_
  intro v' w' g1 g2 g3
  exact h v' w' g1 g2 (by simpa using g3)
/-- tokens behind tokens -/
theorem ap_toks (w : World) {ops : Array Oper} {rest : List Oper} {o : Oper} {a : Act} {Q : Exit → Act → World → Prop} (hgd : Region.wanted o (yielded ops a.tmps) = true) (s x : Operand)
    (ho : o.op = .call { callee := .builtin .append, args := #[s, x], argTypes := #[39, 39] })
    (base : Nat) (v : Value) (n : Nat) (ls bs : List Tok) (N M : Nat → Prop) (hs : a.eval s = v) (hown : OwnI 5 TokI w base 68 N v n ls) (A : Option Addr) (m c : Nat) (hx : a.eval x = .slice A m c) (hr : RdI 5 TokI w M A m c bs)
    (hb : n + m ≤ 1000000000) (hbase : base ≤ w.heap.size) (hN : ∀ i, N i → v.ownBlock ≠ some i) (hM : ∀ i, M i → v.ownBlock ≠ some i)
    (h : ∀ v' w', OwnI 5 TokI w' base 68 (fun i => N i ∨ M i) v' (n + m) (ls ++ bs) → w.grownBy w' v.ownBlock → (v'.ownBlock = v.ownBlock ∨ v'.ownBlock = some w.heap.size) → wpList Tryz.prog ops Q rest (a.put o.dst v') w') :
    wpList Tryz.prog ops Q (o :: rest) a w := by
  obtain ⟨i, hi, hz, h1, h2⟩ := info_parts info_tok
  obtain ⟨ys, hry, hye⟩ := hr.xs
  exact apI2 w tok_ok (by omega) hgd s x 39 ho base 68 i _ 72 Tryz.underlying39 hi hz h1 h2 rfl v n ls bs hs (hown.mono tok_ok (fun _ x => .inl x)) A m c hx ys hry (ItemsF.mono tok_ok hye (fun _ x => .inr x)) (by simp only [maxLen]; omega) (by omega) hbase (fun i hi => by rcases hi with hi | hi; exact hN i hi; exact hM i hi) h
theorem toks_rd' {w : World} {base n : Nat} {e : TypeId} {v : Value} {l : List Tok} (h : OwnI 5 TokI w base e (fun i => base ≤ i ∧ i < w.heap.size) v n l) : ∃ A c, v = .slice A n c ∧ RdI 5 TokI w (fun i => base ≤ i ∧ i < w.heap.size) A n c l :=
  h.rd (fun i h1 h2 => ⟨h1, h2⟩)
end Go.Proofs.YtbfodbejdaafaaaGreatDoor
/- What the helpers of the statements do with numbers (a copy with room behind it, and whether it is as it was; two lists held against each other; one among some): contracts, for every list of numbers within a slice's length. -/
namespace Go.Proofs.YtbfodbejdaafaaaGreatDoor
open Go.RowKit
set_option maxHeartbeats 400000
set_option linter.unusedVariables false

/-- numbers as cells -/
def ints (l : List Int) : List Value := l.map (Value.int .i64)
@[simp] theorem ints_length (l : List Int) : (ints l).length = l.length := by simp [ints]
theorem ints_get (l : List Int) (k : Nat) (h : k < l.length) : (ints l)[k]? = some (.int .i64 l[k]) := by simp [ints, h]
theorem ints_append (l m : List Int) : ints (l ++ m) = ints l ++ ints m := by simp [ints]
theorem ints_one (l : List Int) : ∀ u ∈ ints l, u.oneCell' = true := by
  intro u hu
  simp only [ints, List.mem_map] at hu
  obtain ⟨b, _, rfl⟩ := hu
  rfl
theorem info_int : (Tryz.prog.info? 3).map (fun i => (i.zero, i.size, i.bytes)) = some (some (.int .i64 0), 1, 8) := by kernel_rfl

theorem ownI_step (l : List Int) (f : Int) (k : Nat) (hk : k < 3) :
    (ints (l ++ List.replicate k f ++ List.replicate (3 - k) 0)).set (l.length + k) (.int .i64 f) = ints (l ++ List.replicate (k + 1) f ++ List.replicate (3 - (k + 1)) 0) := by
  obtain rfl | rfl | rfl : k = 0 ∨ k = 1 ∨ k = 2 := by omega
  all_goals simp [ints, List.replicate]

theorem ownI_get (l : List Int) (f : Int) (k : Nat) (hk : k < 3) :
    ∃ u, (ints (l ++ List.replicate k f ++ List.replicate (3 - k) 0))[l.length + k]? = some u := by
  rw [List.getElem?_eq_getElem (by simp; omega)]
  exact ⟨_, rfl⟩

/-- what Own made reads as what it was made of -/
theorem ownI_rd0 {w : World} {g n : Nat} {l : List Int} {f : Int} {t : TypeId} (hb : Bk w g t (ints (l ++ [f, f, f]))) (hl : (ints l).length = n) (hn : n ≤ 65536) : Rd w (some ⟨g, 0, none⟩) n (n + 3) (ints l) := by
  rw [ints_length] at hl
  have := hb.rd (n := n) (cap := n + 3) (by omega) (by simp only [maxLen]; omega) (by simp; omega)
  have e : (ints (l ++ [f, f, f])).take n = ints l := by
    rw [ints_append, List.take_left' (by simpa using hl)]
  rwa [e] at this
theorem ownI_rd {w w' : World} {g n : Nat} {l : List Int} {f : Int} {t : TypeId} (hb : Bk w g t (ints (l ++ [f, f, f]))) (hf : Fr No w w') (hl : (ints l).length = n) (hn : n ≤ 65536) : Rd w' (some ⟨g, 0, none⟩) n (n + 3) (ints l) :=
  ownI_rd0 (hb.no hf) hl hn

/-- append of numbers onto a row of the call's own -/
theorem apI (w : World) {ops : Array Oper} {rest : List Oper} {o : Oper} {a : Act} {Q : Exit → Act → World → Prop} (hgd : Region.wanted o (yielded ops a.tmps) = true) (s x : Operand)
    (ho : o.op = .call { callee := .builtin .append, args := #[s, x], argTypes := #[59, 59] })
    (base : Nat) (v : Value) (n : Nat) (l : List Int) (hs : a.eval s = v) (hown : w.ownsRow base 3 1 v n (ints l))
    (A : Option Addr) (m c : Nat) (k : List Int) (hx : a.eval x = .slice A m c) (hr : Rd w A m c (ints k)) (hb : n + m ≤ 17592186044416) (hbase : base ≤ w.heap.size)
    (h : ∀ v' w', w'.ownsRow base 3 1 v' (n + m) (ints (l ++ k)) → w.grownBy w' v.ownBlock → (v'.ownBlock = v.ownBlock ∨ v'.ownBlock = some w.heap.size) → wpList Tryz.prog ops Q rest (a.put o.dst v') w') :
    wpList Tryz.prog ops Q (o :: rest) a w := by
  obtain ⟨i, hi, hz, h1, h2⟩ := info_parts info_int
  refine wpList_append_rd w hgd s x 59 ho base 3 i (.int .i64 0) 8 Tryz.underlying59 hi hz h1 h2 rfl v n (ints l) hs hown A m c (ints k) hx hr (ints_one k) (by simp only [maxLen]; omega) (by omega) hbase ?_
  intro v' w' g1 g2 g3
  exact h v' w' (by rw [ints_append]; exact g1) g2 g3
/-- the same as one step of a region that draws its order ('go_region_law') -/
theorem stepI {ops : Array Oper} {o : Oper} {a : Act} {w : World} {K : Act → World → Prop} {Q : Exit → Act → World → Prop} {E : Prop} (hgd : Region.wanted o (yielded ops a.tmps) = true) (s x : Operand)
    (ho : o.op = .call { callee := .builtin .append, args := #[s, x], argTypes := #[59, 59] })
    (base : Nat) (v : Value) (n : Nat) (l : List Int) (hs : a.eval s = v) (hown : w.ownsRow base 3 1 v n (ints l))
    (A : Option Addr) (m c : Nat) (k : List Int) (hx : a.eval x = .slice A m c) (hr : Rd w A m c (ints k)) (hb : n + m ≤ 17592186044416) (hbase : base ≤ w.heap.size)
    (h : ∀ A' c' w', w'.ownsRow base 3 1 (.slice A' (n + m) c') (n + m) (ints (l ++ k)) → w.grownBy w' v.ownBlock → ((Value.slice A' (n + m) c').ownBlock = v.ownBlock ∨ (Value.slice A' (n + m) c').ownBlock = some w.heap.size) → K (a.put o.dst (.slice A' (n + m) c')) w') :
    if Region.wanted o (yielded ops a.tmps) = true then Oper.wp Tryz.prog o a w K Q else E := by
  rw [if_pos hgd]
  obtain ⟨i, hi, hz, h1, h2⟩ := info_parts info_int
  obtain ⟨v', w', hrun, g1, g2, g3⟩ := run_append_rd (P := Tryz.prog) w base 59 o.type 3 i (.int .i64 0) 8 Tryz.underlying59 hi hz h1 h2 rfl v n (ints l) hown A m c (ints k) hr (ints_one k) (by simp only [maxLen]; omega) (by omega) hbase
  unfold Oper.wp execOp
  simp only [ho, resolve, invoke, builtin, Sem.run_bind, Sem.run_pure, Result.andThen_ok, List.map_toArray, List.map_cons, List.map_nil, hs, hx, hrun]
  obtain ⟨A', c', rfl, -⟩ := Rd.of_own g1
  exact h A' c' w' (by rw [ints_append]; exact g1) g2 g3
/-- one number that was just laid in a block of its own -/
theorem Rd.oneI {w : World} (i : Int) (t : TypeId) : Rd (w.alloc (.cells #[.int .i64 i] t)) (some ⟨w.heap.size, 0, none⟩) 1 1 (ints [i]) :=
  (Bk.new w t #[.int .i64 i]).rd (n := 1) (cap := 1) (Nat.le_refl _) (by simp [maxLen]) (by simp)
theorem apI_one (w : World) {ops : Array Oper} {rest : List Oper} {o : Oper} {a : Act} {Q : Exit → Act → World → Prop} (hgd : Region.wanted o (yielded ops a.tmps) = true) (s x : Operand)
    (ho : o.op = .call { callee := .builtin .append, args := #[s, x], argTypes := #[59, 59] })
    (base : Nat) (v : Value) (n : Nat) (l : List Int) (hs : a.eval s = v) (hown : w.ownsRow base 3 1 v n (ints l)) (i : Int) (t : TypeId)
    (hx : a.eval x = .slice (some ⟨w.heap.size, 0, none⟩) 1 1) (hb : n + 1 ≤ 17592186044416) (hbase : base ≤ w.heap.size)
    (h : ∀ v' w', w'.ownsRow base 3 1 v' (n + 1) (ints (l ++ [i])) → (w.alloc (.cells #[.int .i64 i] t)).grownBy w' v.ownBlock → (v'.ownBlock = v.ownBlock ∨ v'.ownBlock = some (w.heap.size + 1)) → wpList Tryz.prog ops Q rest (a.put o.dst v') w') :
    wpList Tryz.prog ops Q (o :: rest) a (w.alloc (.cells #[.int .i64 i] t)) := by
  refine apI _ hgd s x ho base v n l hs (hown.alloc _) _ 1 1 [i] hx (Rd.oneI i t) hb (by simp; omega) ?_
  intro v' w' h1 h2 h3
  exact h v' w' h1 h2 (by simpa using h3)

/-- is it among these? -/
def hasI (l : List Int) (x : Int) : Bool := l.contains x
end Go.Proofs.YtbfodbejdaafaaaGreatDoor
