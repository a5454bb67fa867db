/- Rows of tags: one more tag, tags behind tags. -/
import Derived.Test.YtbfodbejdaafaaaPlayTagS
namespace Go.Proofs.Ytbfodbejdaafaaa
open Go.RowKit
set_option maxHeartbeats 1000000
set_option linter.unusedVariables false

/-- one more tag, just laid in a block of its own -/
theorem ap_tag1 (u : World) {ops : Array Oper} {rest : List Oper} {o : Oper} {a : Act} {Q : Exit → Act → World → Prop} (hgd : Region.wanted o (yielded ops a.tmps) = true) (s x : Operand)
    (ho : o.op = .call { callee := .builtin .append, args := #[s, x], argTypes := #[23, 23] })
    (base : Nat) (v : Value) (n : Nat) (ls : List (Int × List UInt8)) (N M : Nat → Prop) (hs : a.eval s = v) (hown : OwnI 2 TagI u base 33 N v n ls) (tg : Int × List UInt8) (cs : List Value) (htg : TagI u M cs tg) (t : TypeId)
    (bk : Nat) (hbk : u.heap.size = bk) (hx : a.eval x = .slice (some ⟨bk, 0, none⟩) 1 1) (hb : n + 1 ≤ 1000000000) (hbase : base ≤ u.heap.size)
    (hN : ∀ i, N i → v.ownBlock ≠ some i) (hM : ∀ i, M i → v.ownBlock ≠ some i)
    (h : ∀ v' w', OwnI 2 TagI w' base 33 (fun i => N i ∨ M i) v' (n + 1) (ls ++ [tg]) → (u.alloc (.cells cs.toArray t)).grownBy w' v.ownBlock → (v'.ownBlock = v.ownBlock ∨ v'.ownBlock = some (u.heap.size + 1)) → wpList Try.prog ops Q rest (a.put o.dst v') w') :
    wpList Try.prog ops Q (o :: rest) a (u.alloc (.cells cs.toArray t)) := by
  subst hbk
  obtain ⟨i, hi, hz, h1, h2⟩ := info_parts info_tag
  have hfa : Fr No u (u.alloc (.cells cs.toArray t)) := (Fr.refl No u).alloc _
  have ho1 : OwnI 2 TagI (u.alloc (.cells cs.toArray t)) base 33 (fun i => N i ∨ M i) v n ls := (hown.no tag_ok hfa).mono tag_ok (fun _ x => .inl x)
  have hcl := tag_ok.len htg
  refine apI2 _ tag_ok (by omega) hgd s x 23 ho base 33 i _ 32 Try.underlying23 hi hz h1 h2 rfl v n ls [tg] hs ho1 _ 1 1 hx cs (RdS.lit u cs t 1 (by simpa using hcl) (by simp [maxLen])) (ItemsF.single (tag_ok.mono (tag_ok.fr htg hfa (fun _ _ x => x)) (fun _ x => .inr x))) (by simp only [maxLen]; omega) (by omega) (by simp; omega) (fun i hi => by rcases hi with hi | hi; exact hN i hi; exact hM i hi) ?_
  intro v' w' g1 g2 g3
  exact h v' w' g1 g2 (by simpa using g3)
/-- tags behind tags -/
theorem ap_tags (w : World) {ops : Array Oper} {rest : List Oper} {o : Oper} {a : Act} {Q : Exit → Act → World → Prop} (hgd : Region.wanted o (yielded ops a.tmps) = true) (s x : Operand)
    (ho : o.op = .call { callee := .builtin .append, args := #[s, x], argTypes := #[23, 23] })
    (base : Nat) (v : Value) (n : Nat) (ls bs : List (Int × List UInt8)) (N M : Nat → Prop) (hs : a.eval s = v) (hown : OwnI 2 TagI w base 33 N v n ls) (A : Option Addr) (m c : Nat) (hx : a.eval x = .slice A m c) (hr : RdI 2 TagI w M A m c bs)
    (hb : n + m ≤ 1000000000) (hbase : base ≤ w.heap.size) (hN : ∀ i, N i → v.ownBlock ≠ some i) (hM : ∀ i, M i → v.ownBlock ≠ some i)
    (h : ∀ v' w', OwnI 2 TagI w' base 33 (fun i => N i ∨ M i) v' (n + m) (ls ++ bs) → w.grownBy w' v.ownBlock → (v'.ownBlock = v.ownBlock ∨ v'.ownBlock = some w.heap.size) → wpList Try.prog ops Q rest (a.put o.dst v') w') :
    wpList Try.prog ops Q (o :: rest) a w := by
  obtain ⟨i, hi, hz, h1, h2⟩ := info_parts info_tag
  obtain ⟨ys, hry, hye⟩ := hr.xs
  exact apI2 w tag_ok (by omega) hgd s x 23 ho base 33 i _ 32 Try.underlying23 hi hz h1 h2 rfl v n ls bs hs (hown.mono tag_ok (fun _ x => .inl x)) A m c hx ys hry (ItemsF.mono tag_ok hye (fun _ x => .inr x)) (by simp only [maxLen]; omega) (by omega) hbase (fun i hi => by rcases hi with hi | hi; exact hN i hi; exact hM i hi) h
end Go.Proofs.Ytbfodbejdaafaaa
