/- The texts RefCod, RefKin, RefKin2, RefKin3, RefTag, RefTlv1, PlayTagS, TagItems, joined. -/
import Derived.Test.YthlgnmgjfgbffaaGreatDoorL07
import Derived.Test.YthlgnmgjfgbffaaGreatDoorL02
import Derived.BigQuiet
import Derived.LoopTactic
import Derived.Test.YthlgnmgjfgbffaaGreatDoorL01
/- The statements' own codes: contracts. -/
namespace Go.Proofs.YthlgnmgjfgbffaaGreatDoor
open Go.RowKit
set_option maxHeartbeats 400000
set_option linter.unusedVariables false

theorem tabS_len : tabS.length = 22 := rfl
theorem tabS_get (k : Nat) (h : k < tabS.length) : tabS[k] = tabAt k := by
  unfold tabAt
  rw [List.getD_eq_getElem?_getD, List.getElem?_eq_getElem h]
  rfl
/-- a cell of the table -/
theorem tab_cell {w : World} {A : Option Addr} (h : Rd w A 22 22 (strsK tabS)) {k : Nat} (hk : k < 22) : ∃ ad, A = some ad ∧ w.cell? (ad.add k) = some (.string (tabAt k)) := by
  obtain ⟨ad, u, rfl, hu, hc⟩ := h.at_ hk
  rw [strs_get tabS k (by rw [tabS_len]; exact hk), tabS_get] at hu
  injection hu with hu
  subst hu
  exact ⟨ad, rfl, hc⟩
theorem yB_eq (S : ByteArray) : yB S = ((wS S).toList == [65, 80, 80, 82] || (wS S).toList == [80, 65, 82, 84]) := by rw [s_list]; rfl
theorem acts_take (k : Nat) (hk : k < 22) (X : ByteArray) (hX : X.data.toList = (cRow k).1) : actsL.take (k + 1) = actsL.take k ++ [X] := by
  rw [List.take_succ_eq_append_getElem (by rw [actsL_len]; exact hk)]
  congr 2
  unfold actsL
  rw [List.getElem_map, ← cRow_at k (by rw [codT_len]; exact hk)]
  exact s_eq hX.symm
end Go.Proofs.YthlgnmgjfgbffaaGreatDoor
/- The statements' own kinds: contracts. -/
namespace Go.Proofs.YthlgnmgjfgbffaaGreatDoor
open Go.RowKit
set_option maxHeartbeats 400000
set_option linter.unusedVariables false

/-- a row's cells -/
def rowV (r : KRow) : List Value := [.string r.code, .string r.mti, .string r.must, .string r.may]
def rowsV : List Value := kinT.flatMap rowV
theorem rowsV_get {k : Nat} (hk : k < 12) : rowsV[k * 4]? = some (.string (kRow k).code) ∧ rowsV[k * 4 + 1]? = some (.string (kRow k).mti) ∧ rowsV[k * 4 + 2]? = some (.string (kRow k).must) ∧ rowsV[k * 4 + 3]? = some (.string (kRow k).may) := by
  have h : k = 0 ∨ k = 1 ∨ k = 2 ∨ k = 3 ∨ k = 4 ∨ k = 5 ∨ k = 6 ∨ k = 7 ∨ k = 8 ∨ k = 9 ∨ k = 10 ∨ k = 11 := by omega
  rcases h with rfl | rfl | rfl | rfl | rfl | rfl | rfl | rfl | rfl | rfl | rfl | rfl <;> exact ⟨rfl, rfl, rfl, rfl⟩
theorem k_add (ad : Addr) (i j : Nat) : ad.add (i + (j + 1)) = ⟨(ad.add i).block, (ad.add i).off + (j + 1), none⟩ := by
  unfold Addr.add
  by_cases h : i = 0
  · subst h
    simp
  · simp [h]
    omega
/-- the cells of a row of the table -/
theorem row_cells {w : World} {ad : Addr} (h : RdS w 4 (some ad) 12 12 rowsV) {k : Nat} (hk : k < 12) :
    w.cell? (ad.add (k * 4)) = some (.string (kRow k).code) ∧ w.cell? ⟨(ad.add (k * 4)).block, (ad.add (k * 4)).off + 1, none⟩ = some (.string (kRow k).mti) ∧
    w.cell? ⟨(ad.add (k * 4)).block, (ad.add (k * 4)).off + 2, none⟩ = some (.string (kRow k).must) ∧ w.cell? ⟨(ad.add (k * 4)).block, (ad.add (k * 4)).off + 3, none⟩ = some (.string (kRow k).may) := by
  obtain ⟨g0, g1, g2, g3⟩ := rowsV_get hk
  exact ⟨h.cells ad rfl _ _ g0, by rw [← k_add ad (k * 4) 0]; exact h.cells ad rfl _ _ g1, by rw [← k_add ad (k * 4) 1]; exact h.cells ad rfl _ _ g2, by rw [← k_add ad (k * 4) 2]; exact h.cells ad rfl _ _ g3⟩
/-- four cells, written one behind the other -/
def put4 (w : World) (g : Nat) (a b c d : Value) : World := (((w.setCell ⟨g, 0, none⟩ a).setCell ⟨g, 1, none⟩ b).setCell ⟨g, 2, none⟩ c).setCell ⟨g, 3, none⟩ d
theorem put4_cells {w : World} {g : Nat} {t : TypeId} {a' b' c' d' : Value} (h : Bk w g t [a', b', c', d']) (a b c d : Value) :
    (w.setCell ⟨g, 0, none⟩ a).cell? ⟨g, 0, none⟩ = some a ∧ ((w.setCell ⟨g, 0, none⟩ a).setCell ⟨g, 1, none⟩ b).cell? ⟨g, 1, none⟩ = some b ∧ (((w.setCell ⟨g, 0, none⟩ a).setCell ⟨g, 1, none⟩ b).setCell ⟨g, 2, none⟩ c).cell? ⟨g, 2, none⟩ = some c ∧
    ((((w.setCell ⟨g, 0, none⟩ a).setCell ⟨g, 1, none⟩ b).setCell ⟨g, 2, none⟩ c).setCell ⟨g, 3, none⟩ d).cell? ⟨g, 3, none⟩ = some d :=
  ⟨(h.set_ 0 a).cell 0, ((h.set_ 0 a).set_ 1 b).cell 1, (((h.set_ 0 a).set_ 1 b).set_ 2 c).cell 2, ((((h.set_ 0 a).set_ 1 b).set_ 2 c).set_ 3 d).cell 3⟩
theorem cells4 {w : World} {g : Nat} {t : TypeId} {a b c d : Value} (h : Bk w g t [a, b, c, d]) :
    w.cell? ⟨g, 0, none⟩ = some a ∧ w.cell? ⟨g, 1, none⟩ = some b ∧ w.cell? ⟨g, 2, none⟩ = some c ∧ w.cell? ⟨g, 3, none⟩ = some d ∧
    w.frozen? ⟨g, 0, none⟩ = false ∧ w.frozen? ⟨g, 1, none⟩ = false ∧ w.frozen? ⟨g, 2, none⟩ = false ∧ w.frozen? ⟨g, 3, none⟩ = false :=
  ⟨h.cell 0, h.cell 1, h.cell 2, h.cell 3, h.frozen 0, h.frozen 1, h.frozen 2, h.frozen 3⟩
theorem put4_fr {S : Nat → Prop} {w0 w : World} {g : Nat} (h : Fr S w0 w) (hg : S g ∨ w0.heap.size ≤ g) (a b c d : Value) : Fr S w0 (put4 w g a b c d) :=
  (((h.setCell hg a).setCell hg b).setCell hg c).setCell hg d
def rowA (r : KRow) : Value := .agg #[.string r.code, .string r.mti, .string r.must, .string r.may]
end Go.Proofs.YthlgnmgjfgbffaaGreatDoor
/- The statements' own kinds: words, answers. -/
namespace Go.Proofs.YthlgnmgjfgbffaaGreatDoor
open Go.RowKit
set_option maxHeartbeats 400000
set_option linter.unusedVariables false

end Go.Proofs.YthlgnmgjfgbffaaGreatDoor
/- The statements' own kinds: whether a message has what it must, and may. -/
namespace Go.Proofs.YthlgnmgjfgbffaaGreatDoor
open Go.RowKit
set_option maxHeartbeats 400000
set_option linter.unusedVariables false

theorem s_at (S : ByteArray) (k : Nat) (h : k < S.size) : S[k] = S.data.toList[k]'(by simpa using h) := rfl
theorem hasF_step (th : List Bool) (k : Nat) (b : Bool) (c : UInt8) (hb : th[k]? = some b) (hc : lettersL[k]? = some c) : hasF th (k + 1) = hasF th k ++ (if b then [c] else []) := by
  rw [hasF, hb, hc]; rfl
theorem letter_at {k : Nat} (hk : k < 11) : ∃ (X : ByteArray) (c : UInt8), (⟨#[80, 67, 82, 77, 84, 65, 69, 68, 78, 79, 71]⟩ : ByteArray).extract k (k + 1) = X ∧ X.data.toList = [c] ∧ lettersL[k]? = some c := by
  have h : k = 0 ∨ k = 1 ∨ k = 2 ∨ k = 3 ∨ k = 4 ∨ k = 5 ∨ k = 6 ∨ k = 7 ∨ k = 8 ∨ k = 9 ∨ k = 10 := by omega
  rcases h with rfl | rfl | rfl | rfl | rfl | rfl | rfl | rfl | rfl | rfl | rfl <;> exact ⟨_, _, rfl, rfl, rfl⟩
end Go.Proofs.YthlgnmgjfgbffaaGreatDoor
/- The statements' own tags: whether one is a tag, whether it was there already. -/
namespace Go.Proofs.YthlgnmgjfgbffaaGreatDoor
open Go.RowKit
set_option maxHeartbeats 1000000
set_option linter.unusedVariables false

theorem and_i64b (i : Nat) (hi : i ≤ 40) (x : Int) (h0 : 0 ≤ x) (h1 : x < 1099511627776) : bits .and .i64 x (2 ^ i - 1) = x % 2 ^ i :=
  bits_mask .i64 40 (by decide) (fun n a b => by rw [IntKind.wrap_i64]; have : (2 : Int) ^ 40 = 1099511627776 := by decide
                                                 omega) i hi x h0 (by have : (2 : Int) ^ 40 = 1099511627776 := by decide
                                                                      omega)
theorem RdI.take2 {w : World} {N : Nat → Prop} {A : Option Addr} {n c : Nat} {ls : List (Int × List UInt8)} (h : RdI 2 TagI w N A n c ls) {i : Nat} (hi : i ≤ n) : RdI 2 TagI w N A i c (ls.take i) := by
  have hl := h.len tag_ok (by omega)
  obtain ⟨xs, hr, he⟩ := h.xs
  refine ⟨⟨xs.take (i * 2), ⟨by rw [List.length_take, hr.len]; omega, by have := hr.cap; omega, hr.max, hr.nil, fun ad e j u hu => hr.cells ad e j u ?_⟩, ?_⟩, fun ad e h0 => h.blk ad e (by omega)⟩
  · rw [List.getElem?_take] at hu
    split at hu
    · exact hu
    · cases hu
  · have key : ∀ (ls : List (Int × List UInt8)) (xs : List Value) (i : Nat), ItemsF TagI w N xs ls → ItemsF TagI w N (xs.take (i * 2)) (ls.take i) := by
      intro ls
      induction ls with
      | nil => intro xs i h; rw [show xs = [] from h]; simp [ItemsF]
      | cons a ls ih =>
        intro xs i h
        cases i with
        | zero => simp [ItemsF]
        | succ i =>
          obtain ⟨cs, rest, e, h1, h2⟩ := h
          refine ⟨cs, rest.take (i * 2), ?_, h1, ih rest i h2⟩
          have hcl := tag_ok.len h1
          rw [e, show (i + 1) * 2 = cs.length + i * 2 by omega, List.take_append, List.take_of_length_le (by omega), Nat.add_sub_cancel_left]
    exact key ls xs i he
end Go.Proofs.YthlgnmgjfgbffaaGreatDoor
/- The statements' own tags: a tag's length, whether one is a tag, whether it was there already. -/
namespace Go.Proofs.YthlgnmgjfgbffaaGreatDoor
open Go.RowKit
set_option maxHeartbeats 1000000
set_option linter.unusedVariables false

/-- how many bytes a length has -/
def lenH : List UInt8 → Nat
  | [] => 0
  | n :: q => if n.toNat < 128 then 1 else if n.toNat ≠ 129 then 0 else match q with
    | [] => 0
    | m :: s => if m.toNat < 128 then 0 else 2
theorem lenH_cons (n : UInt8) (q : List UInt8) : lenH (n :: q) = if n.toNat < 128 then 1 else if n.toNat ≠ 129 then 0 else match q with
    | [] => 0
    | m :: s => if m.toNat < 128 then 0 else 2 := rfl
theorem lenH_rest {l : List UInt8} (h : (lenP l).1 = 0) : (lenP l).2.2 = l.drop (lenH l) ∧ lenH l ≤ l.length ∧ 1 ≤ lenH l ∧ lenH l ≤ 2 := by
  cases l with
  | nil => cases h
  | cons n q =>
    rw [lenP_cons] at h ⊢
    rw [lenH_cons]
    by_cases h1 : n.toNat < 128
    · simp only [if_pos h1]
      simp
    · simp only [if_neg h1] at h ⊢
      by_cases h2 : n.toNat ≠ 129
      · rw [if_pos h2] at h; cases h
      · simp only [if_neg h2] at h ⊢
        cases q with
        | nil => cases h
        | cons m s =>
          simp only at h ⊢
          by_cases h3 : m.toNat < 128
          · rw [if_pos h3] at h; cases h
          · simp only [if_neg h3]
            simp
theorem lenP_count (l : List UInt8) : (lenP l).2.1 ≤ 255 := by
  cases l with
  | nil => simp [lenP]
  | cons n q =>
    have := n.toNat_lt
    rw [lenP_cons]
    split
    · simp only; omega
    split
    · simp
    cases q with
    | nil => simp
    | cons m s =>
      have := m.toNat_lt
      simp only
      split
      · simp
      · simp only; omega
theorem drop_two (b : List UInt8) (k : Nat) (h : k < b.length) : b.drop k = b[k] :: b.drop (k + 1) := List.drop_eq_getElem_cons h
theorem u8c (x : UInt8) : (x.toNat : Int) < 256 ∧ 0 ≤ (x.toNat : Int) := by have := x.toNat_lt; omega
end Go.Proofs.YthlgnmgjfgbffaaGreatDoor
/- Rows of tags: append onto one's own, as one step of a region that draws its order. -/
namespace Go.Proofs.YthlgnmgjfgbffaaGreatDoor
open Go.RowKit
set_option maxHeartbeats 1000000
set_option linter.unusedVariables false

theorem rd_headT {w : World} {A : Option Addr} {n c m : Nat} {l : List UInt8} (h : Rd w A n c (u8s l)) (hm : m ≤ n) : Rd w A m c (u8s (l.take m)) := by
  have hl : l.length = n := by simpa using h.len
  refine ⟨by simp; omega, by have := h.cap; omega, h.max, h.nil, fun ad e j u hu => h.cells ad e j u ?_⟩
  unfold u8s at hu ⊢
  rw [List.map_take, List.getElem?_take] at hu
  split at hu
  · exact hu
  · cases hu
theorem Bk.dr' {w w' : World} {g : Nat} {t : TypeId} {cs : List Value} (h : Bk w g t cs) (k : Dr w w') : Bk w' g t cs := h.no k.fr
theorem Bk.grow' {w w' : World} {g : Nat} {t : TypeId} {cs : List Value} {row : Option Nat} (h : Bk w g t cs) (k : w.grownBy w' row) (hr : row = none) : Bk w' g t cs := h.no ((Fr.refl No w).grown k (fun g e => by rw [hr] at e; cases e))
theorem own_slice {E : Option Addr} {e ce : Nat} {g : Nat} (h : (Value.slice E e ce).ownBlock = (Value.slice none 0 0).ownBlock ∨ (Value.slice E e ce).ownBlock = some g) : ∀ ad, E = some ad → ad.block = g := by
  intro ad h2
  subst h2
  rcases h with h | h
  · simp [Value.ownBlock] at h
  · simpa [Value.ownBlock] using h
theorem info_tag : (Tryz.prog.info? 68).map (fun i => (i.zero, i.size, i.bytes)) = some (some (.agg #[.int .i64 0, .slice none 0 0]), 2, 32) := by kernel_rfl
theorem tagSize (a b : Value) : (Tryz.prog.info? 68).map (·.size) = some [a, b].length := by kernel_rfl
/-- tags' cells behind tags' cells, as one step of a region that draws its order -/
theorem stepT {ops : Array Oper} {o : Oper} {a : Act} {w : World} {K : Act → World → Prop} {Q : Exit → Act → World → Prop} {E : Prop} (hgd : Region.wanted o (yielded ops a.tmps) = true) (s x : Operand)
    (ho : o.op = .call { callee := .builtin .append, args := #[s, x], argTypes := #[35, 35] })
    (base : Nat) (v : Value) (n : Nat) (xs : List Value) (hs : a.eval s = v) (hown : w.ownsRow base 68 2 v n xs)
    (A : Option Addr) (m c : Nat) (news : List Value) (hx : a.eval x = .slice A m c) (hr : RdS w 2 A m c news) (h1 : ∀ u ∈ news, u.oneCell' = true) (hb : n + m ≤ 1000000) (hbase : base ≤ w.heap.size)
    (h : ∀ A' c' w', w'.ownsRow base 68 2 (.slice A' (n + m) c') (n + m) (xs ++ news) → w.grownBy w' v.ownBlock → ((Value.slice A' (n + m) c').ownBlock = v.ownBlock ∨ (Value.slice A' (n + m) c').ownBlock = some w.heap.size) → K (a.put o.dst (.slice A' (n + m) c')) w') :
    if Region.wanted o (yielded ops a.tmps) = true then Oper.wp Tryz.prog o a w K Q else E := by
  rw [if_pos hgd]
  obtain ⟨i, hi, hz, h2, h3⟩ := info_parts info_tag
  obtain ⟨v', w', hrun, g1, g2, g3⟩ := run_append_rdS (P := Tryz.prog) w base 35 o.type 68 i _ 2 32 Tryz.underlying35 hi hz h2 h3 rfl (by omega) v n xs hown A m c news hr h1 (by simp only [maxLen]; omega) (by omega) hbase
  unfold Oper.wp execOp
  simp only [ho, resolve, invoke, builtin, Sem.run_bind, Sem.run_pure, Result.andThen_ok, List.map_toArray, List.map_cons, List.map_nil, hs, hx, hrun]
  obtain ⟨A', c', rfl, -⟩ := RdS.of_own g1
  exact h A' c' w' g1 g2 g3
theorem rdi_of_own {w : World} {base n c : Nat} {A : Option Addr} {N : Nat → Prop} {xs : List Value} {ls : List (Int × List UInt8)} (h : w.ownsRow base 68 2 (.slice A n c) n xs) (hi : ItemsF TagI w N xs ls) : RdI 2 TagI w (fun _ => True) A n c ls := by
  obtain ⟨A', c', e, hr, _⟩ := RdS.of_own h
  injection e with e1 _ e2
  subst e1 e2
  exact ⟨⟨xs, hr, ItemsF.mono tag_ok hi (fun _ _ => trivial)⟩, fun _ _ _ => trivial⟩
theorem items_more {w0 w : World} {D : Nat → Prop} {xs : List Value} {os : List (Int × List UInt8)} {q : Int} {E : Option Addr} {e ce : Nat} {l : List UInt8} (hf : Fr No w0 w) (hi : ItemsF TagI w0 D xs os) (hr : Rd w0 E e ce (u8s l)) (hq : (Lit.int .i64 q).wf = true) (he : e ≤ 30) :
    ItemsF TagI w (fun _ => True) (xs ++ [.int .i64 q, .slice E e ce]) (os ++ [(q, l)]) :=
  ItemsF.app (ItemsF.mono tag_ok (ItemsF.fr tag_ok hi hf (fun _ _ x => x)) (fun _ _ => trivial)) (ItemsF.single ⟨E, e, ce, rfl, hr.no hf, fun _ _ _ => trivial, hq, by omega⟩)
end Go.Proofs.YthlgnmgjfgbffaaGreatDoor
/- Rows of tags: one more tag, tags behind tags. -/
namespace Go.Proofs.YthlgnmgjfgbffaaGreatDoor
open Go.RowKit
set_option maxHeartbeats 1000000
set_option linter.unusedVariables false

/-- one more tag, just laid in a block of its own -/
theorem ap_tag1 (u : World) {ops : Array Oper} {rest : List Oper} {o : Oper} {a : Act} {Q : Exit → Act → World → Prop} (hgd : Region.wanted o (yielded ops a.tmps) = true) (s x : Operand)
    (ho : o.op = .call { callee := .builtin .append, args := #[s, x], argTypes := #[35, 35] })
    (base : Nat) (v : Value) (n : Nat) (ls : List (Int × List UInt8)) (N M : Nat → Prop) (hs : a.eval s = v) (hown : OwnI 2 TagI u base 68 N v n ls) (tg : Int × List UInt8) (cs : List Value) (htg : TagI u M cs tg) (t : TypeId)
    (bk : Nat) (hbk : u.heap.size = bk) (hx : a.eval x = .slice (some ⟨bk, 0, none⟩) 1 1) (hb : n + 1 ≤ 1000000000) (hbase : base ≤ u.heap.size)
    (hN : ∀ i, N i → v.ownBlock ≠ some i) (hM : ∀ i, M i → v.ownBlock ≠ some i)
    (h : ∀ v' w', OwnI 2 TagI w' base 68 (fun i => N i ∨ M i) v' (n + 1) (ls ++ [tg]) → (u.alloc (.cells cs.toArray t)).grownBy w' v.ownBlock → (v'.ownBlock = v.ownBlock ∨ v'.ownBlock = some (u.heap.size + 1)) → wpList Tryz.prog ops Q rest (a.put o.dst v') w') :
    wpList Tryz.prog ops Q (o :: rest) a (u.alloc (.cells cs.toArray t)) := by
  subst hbk
  obtain ⟨i, hi, hz, h1, h2⟩ := info_parts info_tag
  have hfa : Fr No u (u.alloc (.cells cs.toArray t)) := (Fr.refl No u).alloc _
  have ho1 : OwnI 2 TagI (u.alloc (.cells cs.toArray t)) base 68 (fun i => N i ∨ M i) v n ls := (hown.no tag_ok hfa).mono tag_ok (fun _ x => .inl x)
  have hcl := tag_ok.len htg
  refine apI2 _ tag_ok (by omega) hgd s x 35 ho base 68 i _ 32 Tryz.underlying35 hi hz h1 h2 rfl v n ls [tg] hs ho1 _ 1 1 hx cs (RdS.lit u cs t 1 (by simpa using hcl) (by simp [maxLen])) (ItemsF.single (tag_ok.mono (tag_ok.fr htg hfa (fun _ _ x => x)) (fun _ x => .inr x))) (by simp only [maxLen]; omega) (by omega) (by simp; omega) (fun i hi => by rcases hi with hi | hi; exact hN i hi; exact hM i hi) ?_
  intro v' w' g1 g2 g3
  exact h v' w' g1 g2 (by simpa using g3)
/-- tags behind tags -/
theorem ap_tags (w : World) {ops : Array Oper} {rest : List Oper} {o : Oper} {a : Act} {Q : Exit → Act → World → Prop} (hgd : Region.wanted o (yielded ops a.tmps) = true) (s x : Operand)
    (ho : o.op = .call { callee := .builtin .append, args := #[s, x], argTypes := #[35, 35] })
    (base : Nat) (v : Value) (n : Nat) (ls bs : List (Int × List UInt8)) (N M : Nat → Prop) (hs : a.eval s = v) (hown : OwnI 2 TagI w base 68 N v n ls) (A : Option Addr) (m c : Nat) (hx : a.eval x = .slice A m c) (hr : RdI 2 TagI w M A m c bs)
    (hb : n + m ≤ 1000000000) (hbase : base ≤ w.heap.size) (hN : ∀ i, N i → v.ownBlock ≠ some i) (hM : ∀ i, M i → v.ownBlock ≠ some i)
    (h : ∀ v' w', OwnI 2 TagI w' base 68 (fun i => N i ∨ M i) v' (n + m) (ls ++ bs) → w.grownBy w' v.ownBlock → (v'.ownBlock = v.ownBlock ∨ v'.ownBlock = some w.heap.size) → wpList Tryz.prog ops Q rest (a.put o.dst v') w') :
    wpList Tryz.prog ops Q (o :: rest) a w := by
  obtain ⟨i, hi, hz, h1, h2⟩ := info_parts info_tag
  obtain ⟨ys, hry, hye⟩ := hr.xs
  exact apI2 w tag_ok (by omega) hgd s x 35 ho base 68 i _ 32 Tryz.underlying35 hi hz h1 h2 rfl v n ls bs hs (hown.mono tag_ok (fun _ x => .inl x)) A m c hx ys hry (ItemsF.mono tag_ok hye (fun _ x => .inr x)) (by simp only [maxLen]; omega) (by omega) hbase (fun i hi => by rcases hi with hi | hi; exact hN i hi; exact hM i hi) h
end Go.Proofs.YthlgnmgjfgbffaaGreatDoor
