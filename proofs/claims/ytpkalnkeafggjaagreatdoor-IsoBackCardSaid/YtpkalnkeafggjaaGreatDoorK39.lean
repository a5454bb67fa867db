/- The texts EleAwake, IsoAwake, TagOpen, ChildOpen, ElemOpen, joined. -/
import Derived.Test.YtpkalnkeafggjaaGreatDoorK30
import Derived.Test.YtpkalnkeafggjaaGreatDoorK23
import Derived.Test.YtpkalnkeafggjaaGreatDoorK38
import Derived.Lib.SlBytesConst
import Derived.Test.YtpkalnkeafggjaaGreatDoorK27
import Derived.Test.YtpkalnkeafggjaaGreatDoorK33
import Derived.Test.YtpkalnkeafggjaaGreatDoorK03
import Derived.Deep.Grids
import Derived.Test.YtpkalnkeafggjaaGreatDoorK01
/- What shows that package element does something. -/
namespace Go.Proofs.YtpkalnkeafggjaaGreatDoor
open Go.RowKit
set_option maxHeartbeats 2000000
set_option linter.unusedVariables false
set_option maxRecDepth 20000

theorem rd_mark (w : World) (cs : List Value) (t : TypeId) (fz : Nat × Nat) (n : Nat) (hn : cs.length = n) (hm : n ≤ maxLen) : Rd (w.alloc (.cells cs.toArray t fz)) (some ⟨w.heap.size, 0, none⟩) n n cs := by
  refine ⟨hn, Nat.le_refl _, hm, (fun e => nomatch e), ?_⟩
  intro ad e j u hu
  injection e with e
  subst e
  rw [show (⟨w.heap.size, 0, none⟩ : Addr).add j = ⟨w.heap.size, j, none⟩ from by unfold Addr.add; split <;> simp_all]
  have h := heap_alloc_new w (.cells cs.toArray t fz)
  generalize w.alloc (.cells cs.toArray t fz) = w2 at h ⊢
  generalize w.heap.size = s at h ⊢
  simp [World.cell?, h, hu]

theorem el_w2 : wrtEl 2 [49, 50] = [48, 50, 49, 50] ∧ chkEl 2 [49, 50] = 0 := by decide +kernel
theorem el_r2 : reL 2 [48, 50, 49, 50, 122] = [49, 50] ∧ reN 2 [48, 50, 49, 50, 122] = 4 ∧ reE 2 [48, 50, 49, 50, 122] = 0 := by decide +kernel
theorem el_s60 : (elGet 60).spare = true := by decide +kernel
theorem str_fact {w : World} {A : Option Addr} {m c : Nat} {d : List UInt8} (hr : Rd w A m c (u8s d)) (hd : d.length ≤ 9223372036854775807) : ∃ S : ByteArray, (∀ u, Fr No w u → (convert 22 9 (.slice A m c)).run Tryz.prog u = .ok (.string S) u) ∧ (S.toList == d) = true ∧ S.size ≤ 9223372036854775807 ∧ S.size = d.length :=
  ⟨bstr d, fun u hf => rd_str (hr.no hf), by rw [bstr_toList]; exact beq_self_eq_true d, by rw [bstr_size]; exact hd, bstr_size d⟩
end Go.Proofs.YtpkalnkeafggjaaGreatDoor
/- What shows that package iso does something. -/
namespace Go.Proofs.YtpkalnkeafggjaaGreatDoor
open Go.RowKit
set_option maxHeartbeats 2000000
set_option linter.unusedVariables false
set_option maxRecDepth 20000

theorem is_w : pacE [50, 49, 48, 48] [(2, [49, 50])] = 0 ∧ pacR [50, 49, 48, 48] [(2, [49, 50])] = [50, 49, 48, 48, 64, 0, 0, 0, 0, 0, 0, 0, 48, 50, 49, 50] := by decide +kernel
theorem is_r : parI [50, 49, 48, 48, 64, 0, 0, 0, 0, 0, 0, 0, 48, 50, 49, 50] = (0, [50, 49, 48, 48], [(2, [49, 50])]) := by decide +kernel
/-- one element that was just laid -/
theorem elm_one (u : World) (q : Int) (D : Option Addr) (dl dc : Nat) (d : List UInt8) (t : TypeId) (hr : Rd u D dl dc (u8s d)) (hq : (Lit.int .i64 q).wf = true) : RdI 2 TagI (u.alloc (.cells #[.int .i64 q, .slice D dl dc] t)) (fun i => i < (u.alloc (.cells #[.int .i64 q, .slice D dl dc] t)).heap.size) (some ⟨u.heap.size, 0, none⟩) 1 1 [(q, d)] := by
  have hal : Fr No u (u.alloc (.cells #[.int .i64 q, .slice D dl dc] t)) := (Fr.refl No u).alloc _
  have hz : (u.alloc (.cells #[.int .i64 q, .slice D dl dc] t)).heap.size = u.heap.size + 1 := by simp
  refine ⟨⟨_, RdS.lit u [.int .i64 q, .slice D dl dc] t 1 rfl (by simp [maxLen]), ItemsF.single ⟨D, dl, dc, rfl, hr.no hal, fun ad e h0 => by have := hr.lt h0 ad e; omega, hq, ?_⟩⟩, fun ad e h0 => ?_⟩
  · have h1 := hr.cap
    have h2 := hr.max
    simp only [maxLen] at h2
    omega
  · injection e with e
    subst e
    show u.heap.size < _
    omega
attribute [local irreducible] yielded in
theorem awake_iso (w : World) (hT : Tabs w := by repeat' first | with_reducible assumption | with_reducible apply Tabs.drew | with_reducible apply Tabs.drewN | with_reducible apply Tabs.alloc | refine Tabs.fr ?_ (by with_reducible assumption)) :
    Calls Tryz.prog 6 #[] w fun e w' => e = .returned (.bool true) ∧ Fr No w w' := by
  have r2 : Rd (w.alloc (.cells #[.int .u8 49, .int .u8 50] 5 (2, 3))) (some ⟨w.heap.size, 0, none⟩) 2 2 (u8s [49, 50]) := rd_mark w (u8s [49, 50]) _ _ 2 rfl (by simp [maxLen])
  have hr := elm_one (w.alloc (.cells #[.int .u8 49, .int .u8 50] 5 (2, 3))) 2 _ 2 2 [49, 50] 40 r2 (by decide)
  have hz : (w.alloc (.cells #[.int .u8 49, .int .u8 50] 5 (2, 3))).heap.size = w.heap.size + 1 := by simp
  have F0 := Lib.hid (((Fr.refl No w).alloc (.cells #[.int .u8 49, .int .u8 50] 5 (2, 3))).alloc (.cells #[.int .i64 2, .slice (some ⟨w.heap.size, 0, none⟩) 2 2] 40))
  have W := iso_pack_any ⟨#[50, 49, 48, 48]⟩ _ 1 1 _ _ hr (by omega) (by decide) (hT.fr F0.out)
  rw [hz] at W
  unfold PacTo at W
  rw [is_w.1, is_w.2] at W
  have P := Lib.hid (fun (u : World) (A : Option Addr) (c : Nat) (hf : Fr No w u) (hr : Rd u A 16 c (u8s [50, 49, 48, 48, 64, 0, 0, 0, 0, 0, 0, 0, 48, 50, 49, 50])) => by
    have h := iso_parse_any A c [50, 49, 48, 48, 64, 0, 0, 0, 0, 0, 0, 0, 48, 50, 49, 50] u hr (hT.fr hf)
    rw [is_r] at h
    exact h)
  have W := Lib.hid W
  have kc := fun (w : World) (C : Array Value) (n c : Nat) => Lib.run_convert_bytes_const (P := Tryz.prog) w 22 5 C n c Tryz.underlying22 Tryz.underlying5
  obtain ⟨S, hS⟩ : ∃ S, bstr [50, 49, 48, 48] = S := ⟨_, rfl⟩
  have hq : (S.toList == [50, 49, 48, 48]) = true := by rw [← hS, bstr_toList]; exact beq_self_eq_true _
  have hsz : S.size ≤ 9223372036854775807 := by rw [← hS, bstr_size]; decide
  have HS := Lib.hid hS
  clear r2 hr hz hT hS
  go_enter Tryz.func6, Tryz.ntmps6
  go_wp2_with (first
    | (go_at_call 10; refine (W.out).mono ?_; rintro e w1 ⟨v, rfl, ho, f1⟩; obtain ⟨V, vc, rfl, hr1, -⟩ := ownM_rd ho; replace hr1 : Rd w1 V 16 vc (u8s [50, 49, 48, 48, 64, 0, 0, 0, 0, 0, 0, 0, 48, 50, 49, 50]) := hr1; have R1 := Lib.hid hr1; have F1 := Lib.hid (F0.out.trans f1); clear ho hr1 f1)
    | (go_at_call 8; refine (P.out _ _ _ F1.out R1.out).mono ?_; rintro e w2 ⟨va, rfl, ho, f2⟩; obtain ⟨V2, vc2, rfl, -⟩ := OwnI.rd' ho (M := fun _ => True) (fun _ _ => trivial) tag_ok (fun _ _ => trivial); dsimp only [List.length_cons, List.length_nil]; rw [HS.out]; have F2 := Lib.hid (F1.out.trans f2); clear ho f2))
  go_ret
  exact ⟨rfl, F2.out.alloc _⟩
end Go.Proofs.YtpkalnkeafggjaaGreatDoor
/- A list of tags that comes in (their data of any length). -/
namespace Go.Proofs.YtpkalnkeafggjaaGreatDoor
open Go.RowKit Go.WideShapes Go.ChangeShapes
set_option maxHeartbeats 400000
set_option linter.unusedVariables false

theorem tg_add (a : Addr) (i j : Nat) : (a.add i).add j = a.add (i + j) := add_add a i j
section
variable {H : Type} {enc : TypeId × Value → H} {P : Program} {W : World} {sp : Nat → Bool}
theorem tg_ints {t e : TypeId} {k : IntKind} {fuel : Nat} {cs : List Value} {x : DataW H × List MemPlace}
    (ht : P.underlying t = some (.slice e)) (he : P.underlying e = some (.int k)) (hc : P.cellsOf e = 1) (hf : DataW.trod enc P W 0 (fun _ => true) true fuel t cs = some x) :
    ∃ (A : Option Addr) (n c : Nat) (zs : List Int), cs = [.slice A n c] ∧ Rd W A n c (zs.map (Value.int k)) ∧ ∀ z ∈ zs, (Lit.int k z).wf = true := by
  rcases open_ints ht he hc hf with ⟨hcs, _⟩ | ⟨a, len', cap', zs, hcs, _, hl, hm, hz, _, hcell, hw⟩
  · exact ⟨none, 0, 0, [], hcs, Rd.nil_ W, by simp⟩
  · simp only [if_true] at hz
    refine ⟨some a, len', cap', zs.take len', hcs, ⟨by simp; omega, hl, hm, (fun e => nomatch e), ?_⟩, fun z hz' => hw z (List.mem_of_mem_take hz')⟩
    intro ad e j u hu
    injection e with e
    subst e
    rw [List.getElem?_map, Option.map_eq_some_iff] at hu
    obtain ⟨z, hz1, rfl⟩ := hu
    rw [List.getElem?_take] at hz1
    split at hz1
    · have hj := (List.getElem?_eq_some_iff.1 hz1).1
      rw [hcell j hj, List.getD, hz1]
      rfl
    · cases hz1
theorem tg_u8s {t e : TypeId} {fuel : Nat} {cs : List Value} {x : DataW H × List MemPlace}
    (ht : P.underlying t = some (.slice e)) (he : P.underlying e = some (.int .u8)) (hc : P.cellsOf e = 1) (hf : DataW.trod enc P W 0 (fun _ => true) true fuel t cs = some x) :
    ∃ (A : Option Addr) (n c : Nat) (l : List UInt8), cs = [.slice A n c] ∧ Rd W A n c (u8s l) := by
  obtain ⟨A, n, c, zs, e1, hr, hw⟩ := tg_ints ht he hc hf
  obtain ⟨l, hl⟩ := u8s_of hw
  exact ⟨A, n, c, l, e1, hl ▸ hr⟩
/-- a slice of things that came in: each reads as a thing -/
theorem open_things {α : Type} {I : World → (Nat → Prop) → List Value → α → Prop} {s : Nat} {N : Nat → Prop} {t e : TypeId} {fuel : Nat} {cs : List Value} {x : DataW H × List MemPlace}
    (ht : P.underlying t = some (.slice e)) (hc : P.cellsOf e = s) (hs : 0 < s) (hN : ∀ i, i < W.heap.size → N i)
    (hel : ∀ (m : Nat) (zs : List Value) (y : DataW H × List MemPlace), DataW.trod enc P W 0 sp true m e zs = some y → ∃ a, I W N zs a)
    (h : DataW.trod enc P W 0 sp true fuel t cs = some x) :
    ∃ (A : Option Addr) (n c : Nat) (ls : List α), cs = [.slice A n c] ∧ RdI s I W N A n c ls := by
  rcases DataW.trod_slice ht h with ⟨rfl, rfl⟩ | ⟨a, len, cap, elems, rest, m, _, rfl, rfl, _, hl, hm, hle, hat, _, _⟩
  · exact ⟨none, 0, 0, [], rfl, RdI.nil_ s I W N⟩
  · rw [hc] at hat
    have key : ∀ k, k ≤ len → ∃ (xs : List Value) (ls : List α), xs.length = k * s ∧ ItemsF I W N xs ls ∧ (∀ j u, xs[j]? = some u → W.cell? (a.add j) = some u) := by
      intro k
      induction k with
      | zero => exact fun _ => ⟨[], [], by simp, rfl, by simp⟩
      | succ k ih =>
        intro hk
        obtain ⟨xs, ls, h1, h2, h3⟩ := ih (by omega)
        have hk2 := hat k (by omega)
        rw [List.getElem?_eq_getElem (by omega), Option.bind_eq_some_iff] at hk2
        obtain ⟨zs, hz1, hz2⟩ := hk2
        obtain ⟨_, hzl, hza⟩ := World.cells?_some hz1
        obtain ⟨b, hb1⟩ := hel m zs _ hz2
        refine ⟨xs ++ zs, ls ++ [b], by rw [List.length_append, h1, hzl, Nat.add_mul]; omega, ItemsF.app h2 (ItemsF.single hb1), ?_⟩
        intro j u hu
        rw [List.getElem?_append] at hu
        split at hu
        · exact h3 j u hu
        · rename_i hj
          rw [h1] at hu hj
          have hjl := (List.getElem?_eq_some_iff.1 hu).1
          have := hza (j - k * s) (by omega)
          rw [tg_add, show k * s + (j - k * s) = j from by omega] at this
          rw [this, hu]
    obtain ⟨xs, ls, h1, h2, h3⟩ := key len (Nat.le_refl _)
    refine ⟨some a, len, cap, ls, rfl, ⟨xs, ⟨h1, hl, hm, (fun e => nomatch e), fun ad e j u hu => by injection e with e; subst e; exact h3 j u hu⟩, h2⟩, fun ad e h0 => ?_⟩
    injection e with e
    subst e
    refine hN _ ?_
    have h5 : 0 < xs.length := by rw [h1]; exact Nat.mul_pos h0 hs
    have := World.block_lt_of_cell? _ _ (h3 0 _ (List.getElem?_eq_getElem h5))
    rwa [blk_add] at this
end
section
variable {H : Type} {enc : TypeId × Value → H} {W : World}
theorem tg_cint : Tryz.prog.cellsOf 3 = 1 := by kernel_rfl
theorem tg_cbs : Tryz.prog.cellsOf 22 = 1 := by kernel_rfl
theorem tg_cu8 : Tryz.prog.cellsOf 5 = 1 := by kernel_rfl
end
end Go.Proofs.YtpkalnkeafggjaaGreatDoor
/- An api.Child that comes in: its six cells. -/
namespace Go.Proofs.YtpkalnkeafggjaaGreatDoor
open Go.RowKit Go.WideShapes Go.ChangeShapes
set_option linter.unusedVariables false

theorem ch_int {P : Program} {w : World} {r : Reach} {base : Nat} {t : TypeId} {v : Value} {k : IntKind} (ht : P.underlying t = some (.int k)) (h : Cell.okWide P w r base t v) : ∃ n, v = .int k n ∧ (Lit.int k n).wf = true := by
  simp only [Cell.okWide, ht] at h
  cases v <;> simp_all [Cell.ok, IntKind.has, Lit.wf]
theorem ch_string {P : Program} {w : World} {r : Reach} {base : Nat} {t : TypeId} {v : Value} (ht : P.underlying t = some .string) (h : Cell.okWide P w r base t v) : ∃ s, v = .string s := by
  simp only [Cell.okWide, ht] at h
  cases v <;> simp_all [Cell.ok]
theorem ch_array {α : Type} {cs : Array α} (h : cs.size = 6) : ∃ c0 c1 c2 c3 c4 c5, cs = #[c0, c1, c2, c3, c4, c5] := by
  obtain ⟨l⟩ := cs
  match l, h with
  | [c0, c1, c2, c3, c4, c5], _ => exact ⟨c0, c1, c2, c3, c4, c5, rfl⟩
end Go.Proofs.YtpkalnkeafggjaaGreatDoor
/- One data element that comes in (its data of any length). -/
namespace Go.Proofs.YtpkalnkeafggjaaGreatDoor
open Go.RowKit Go.WideShapes Go.ChangeShapes
set_option maxHeartbeats 400000
set_option linter.unusedVariables false

theorem elm_types : Tryz.prog.cellTypes Tryz.prog.depth 40 = some [3, 22] := by kernel_rfl
theorem elm_cells : Tryz.prog.cellsOf 40 = 2 := by kernel_rfl
theorem elm_array {α : Type} {cs : Array α} (h : cs.size = 2) : ∃ c0 c1, cs = #[c0, c1] := by
  obtain ⟨l⟩ := cs
  match l, h with
  | [c0, c1], _ => exact ⟨c0, c1, rfl⟩
theorem elm_slice {P : Program} {w : World} {r : Reach} {base : Nat} {t e : TypeId} {v : Value} (ht : P.underlying t = some (.slice e)) (h : Cell.okWide P w r base t v) : ∃ A n c, v = .slice A n c := by
  simp only [Cell.okWide, ht] at h
  cases v <;> simp_all [Cell.ok]
section
variable {H : Type} {enc : TypeId × Value → H} {W : World}
set_option maxRecDepth 20000 in
theorem open_elem {v : Value} {d : DataW H} {p : List MemPlace} {b0 : Nat} (hv : Value.okWide Tryz.prog W .any b0 40 v) (h : DataW.Trod enc Tryz.prog W 0 (fun _ => true) true 40 v d p) :
    ∃ (no : Int) (A : Option Addr) (n c : Nat) (l : List UInt8), v = .agg #[.int .i64 no, .slice A n c] ∧ Rd W A n c (u8s l) ∧ (Lit.int .i64 no).wf = true := by
  unfold Value.okWide at hv
  rw [Tryz.underlying40] at hv
  obtain ⟨cs, rfl, hsz, ts, hts, _, hall⟩ := hv
  obtain rfl := Option.some.inj (hts.symm.trans elm_types)
  obtain ⟨c0, c1, rfl⟩ := elm_array (hsz.trans elm_cells)
  obtain ⟨u0, e0, q0⟩ := hall 0 c0 rfl
  cases e0
  obtain ⟨x0, rfl, _⟩ := ch_int Tryz.underlying3 q0
  obtain ⟨u1, e1, q1⟩ := hall 1 c1 rfl
  cases e1
  obtain ⟨A1, n1, k1, rfl⟩ := elm_slice Tryz.underlying22 q1
  obtain ⟨fuel, hf⟩ := h
  have hcs : (Value.agg #[Value.int .i64 x0, Value.slice A1 n1 k1]).cells.toList = [Value.int .i64 x0, Value.slice A1 n1 k1] := rfl
  rw [hcs] at hf
  obtain ⟨y0, y1, n, hyy, hl, f0, f1⟩ := trod_struct2 Tryz.underlying40 hf
  obtain ⟨p0, e0, _, hw⟩ := DataW.trod_int Tryz.underlying3 f0
  obtain ⟨A, k, c, l, e1, hr⟩ := tg_u8s Tryz.underlying22 Tryz.underlying5 (show Tryz.prog.cellsOf 5 = 1 by kernel_rfl) f1
  simp only [show Tryz.prog.cellsOf 3 = 1 from by kernel_rfl, show Tryz.prog.cellsOf 22 = 1 from by kernel_rfl, List.drop_zero, List.drop_succ_cons, List.take_succ_cons, List.take_zero, List.cons.injEq, and_true, Value.int.injEq, Value.slice.injEq, true_and] at e0 e1
  obtain ⟨rfl, rfl, rfl⟩ := e1
  subst e0
  exact ⟨_, _, _, _, l, rfl, hr, hw⟩
end
end Go.Proofs.YtpkalnkeafggjaaGreatDoor
