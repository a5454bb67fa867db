/- Rows of rows of bytes ([][]byte): what they hold, append onto them, and that they are held against each other. -/
import Derived.Test.YtpoaifibomiiaaaHelp0
import Derived.Test.YtpoaifibomiiaaaDig0
namespace Go.Proofs.Ytpoaifibomiiaaa
open Go.RowKit
set_option maxHeartbeats 400000
set_option linter.unusedVariables false

/-- a value of a slice that holds these bytes, in a block of such a number -/
def SlN (w : World) (N : Nat → Prop) (v : Value) (l : List UInt8) : Prop := ∃ A n c, v = .slice A n c ∧ Rd w A n c (u8s l) ∧ ∀ ad, A = some ad → N ad.block
def Els (w : World) (N : Nat → Prop) : List Value → List (List UInt8) → Prop
  | [], [] => True
  | v :: vs, l :: ls => SlN w N v l ∧ Els w N vs ls
  | _, _ => False
variable {w w' : World} {N M S : Nat → Prop} {vs us : List Value} {ls ms : List (List UInt8)}
theorem SlN.fr {v : Value} {l : List UInt8} (h : SlN w N v l) (hf : Fr S w w') (hS : ∀ i, N i → ¬ S i) : SlN w' N v l :=
  let ⟨A, n, c, e, hr, hN⟩ := h
  ⟨A, n, c, e, hr.fr hf (fun ad ea => hS _ (hN ad ea)), hN⟩
theorem SlN.mono {v : Value} {l : List UInt8} (h : SlN w N v l) (hM : ∀ i, N i → M i) : SlN w M v l :=
  let ⟨A, n, c, e, hr, hN⟩ := h
  ⟨A, n, c, e, hr, fun ad ea => hM _ (hN ad ea)⟩
theorem Els.fr : ∀ {vs : List Value} {ls : List (List UInt8)} (h : Els w N vs ls) (hf : Fr S w w') (hS : ∀ i, N i → ¬ S i), Els w' N vs ls
  | [], [], _, _, _ => trivial
  | _ :: _, _ :: _, h, hf, hS => ⟨h.1.fr hf hS, Els.fr h.2 hf hS⟩
  | [], _ :: _, h, _, _ => h.elim
  | _ :: _, [], h, _, _ => h.elim
theorem Els.mono : ∀ {vs : List Value} {ls : List (List UInt8)} (h : Els w N vs ls) (hM : ∀ i, N i → M i), Els w M vs ls
  | [], [], _, _ => trivial
  | _ :: _, _ :: _, h, hM => ⟨h.1.mono hM, Els.mono h.2 hM⟩
  | [], _ :: _, h, _ => h.elim
  | _ :: _, [], h, _ => h.elim
theorem Els.len : ∀ {vs : List Value} {ls : List (List UInt8)} (h : Els w N vs ls), vs.length = ls.length
  | [], [], _ => rfl
  | _ :: _, _ :: _, h => by simp [Els.len h.2]
  | [], _ :: _, h => h.elim
  | _ :: _, [], h => h.elim
theorem Els.app : ∀ {vs us : List Value} {ls ms : List (List UInt8)} (h : Els w N vs ls) (k : Els w N us ms), Els w N (vs ++ us) (ls ++ ms)
  | [], us, [], ms, _, k => k
  | _ :: _, us, _ :: _, ms, h, k => ⟨h.1, Els.app h.2 k⟩
  | [], _, _ :: _, _, h, _ => h.elim
  | _ :: _, _, [], _, h, _ => h.elim
theorem Els.at_ : ∀ {vs : List Value} {ls : List (List UInt8)} (h : Els w N vs ls) (i : Nat) (hi : i < ls.length), ∃ v, vs[i]? = some v ∧ SlN w N v (ls[i]'hi)
  | [], [], _, i, hi => by simp at hi
  | v :: vs, l :: ls, h, 0, hi => ⟨v, rfl, h.1⟩
  | v :: vs, l :: ls, h, i + 1, hi => by
    obtain ⟨u, hu, hs⟩ := Els.at_ h.2 i (by simpa using hi)
    exact ⟨u, by simpa using hu, by simpa using hs⟩
  | [], _ :: _, h, _, _ => h.elim
  | _ :: _, [], h, _, _ => h.elim
theorem Els.one : ∀ {vs : List Value} {ls : List (List UInt8)} (h : Els w N vs ls), ∀ u ∈ vs, u.oneCell' = true
  | [], [], _, u, hu => by cases hu
  | v :: vs, l :: ls, h, u, hu => by
    rcases List.mem_cons.1 hu with rfl | hu
    · obtain ⟨A, n, c, rfl, _⟩ := h.1
      rfl
    · exact Els.one h.2 u hu
  | [], _ :: _, h, _, _ => h.elim
  | _ :: _, [], h, _, _ => h.elim
/-- a slice of slices -/
structure RdL (w : World) (N : Nat → Prop) (A : Option Addr) (n c : Nat) (ls : List (List UInt8)) : Prop where
  vs : ∃ vs, Rd w A n c vs ∧ Els w N vs ls
  blk : ∀ ad, A = some ad → N ad.block
theorem RdL.nil_ (w : World) (N : Nat → Prop) : RdL w N none 0 0 [] := ⟨⟨[], Rd.nil_ w, trivial⟩, fun _ e => nomatch e⟩
theorem RdL.fr {A : Option Addr} {n c : Nat} (h : RdL w N A n c ls) (hf : Fr S w w') (hS : ∀ i, N i → ¬ S i) : RdL w' N A n c ls :=
  let ⟨vs, hr, he⟩ := h.vs
  ⟨⟨vs, hr.fr hf (fun ad ea => hS _ (h.blk ad ea)), he.fr hf hS⟩, h.blk⟩
theorem RdL.no {A : Option Addr} {n c : Nat} (h : RdL w N A n c ls) (hf : Fr No w w') : RdL w' N A n c ls := h.fr hf (fun _ _ x => x)
theorem RdL.dr {A : Option Addr} {n c : Nat} (h : RdL w N A n c ls) (hf : Dr w w') : RdL w' N A n c ls := h.no hf.fr
theorem RdL.mono {A : Option Addr} {n c : Nat} (h : RdL w N A n c ls) (hM : ∀ i, N i → M i) : RdL w M A n c ls :=
  let ⟨vs, hr, he⟩ := h.vs
  ⟨⟨vs, hr, he.mono hM⟩, fun ad ea => hM _ (h.blk ad ea)⟩
theorem RdL.len {A : Option Addr} {n c : Nat} (h : RdL w N A n c ls) : ls.length = n :=
  let ⟨vs, hr, he⟩ := h.vs
  by rw [← he.len]; exact hr.len
theorem RdL.at_ {A : Option Addr} {n c : Nat} (h : RdL w N A n c ls) {i : Nat} (hi : i < ls.length) :
    ∃ ad B m d, A = some ad ∧ w.cell? (ad.add i) = some (.slice B m d) ∧ Rd w B m d (u8s ls[i]) ∧ ∀ bd, B = some bd → N bd.block := by
  obtain ⟨vs, hr, he⟩ := h.vs
  obtain ⟨v, hv, B, m, d, rfl, hb, hN⟩ := he.at_ i hi
  obtain ⟨ad, u, rfl, hu, hc⟩ := hr.at_ (k := i) (by rw [← hr.len, he.len]; exact hi)
  rw [hv] at hu
  injection hu with hu
  subst hu
  exact ⟨ad, B, m, d, rfl, hc, hb, hN⟩

/-- a row of rows of one's own, growing -/
structure OwnL (w : World) (base : Nat) (N : Nat → Prop) (v : Value) (n : Nat) (ls : List (List UInt8)) : Prop where
  vs : ∃ vs, w.ownsRow base 23 1 v n vs ∧ Els w N vs ls
theorem OwnL.nil_ (w : World) (base : Nat) (N : Nat → Prop) : OwnL w base N (.slice none 0 0) 0 [] := ⟨⟨[], ⟨rfl, .inl ⟨rfl, rfl⟩⟩, trivial⟩⟩
theorem OwnL.rd {base : Nat} {v : Value} {n : Nat} (h : OwnL w base N v n ls) (hN : ∀ i, base ≤ i → i < w.heap.size → N i) : ∃ A c, v = .slice A n c ∧ RdL w N A n c ls := by
  obtain ⟨vs, ho, he⟩ := h.vs
  obtain ⟨A, c, rfl, hr, hb⟩ := Rd.of_own ho
  exact ⟨A, c, rfl, ⟨vs, hr, he⟩, fun ad ea => hN _ (hb ad ea).1 (hb ad ea).2⟩
theorem OwnL.len {base : Nat} {v : Value} {n : Nat} (h : OwnL w base N v n ls) : ls.length = n := by
  obtain ⟨vs, ho, he⟩ := h.vs
  obtain ⟨A, c, rfl, hr, hb⟩ := Rd.of_own ho
  rw [← he.len]; exact hr.len
theorem OwnL.fr {base : Nat} {v : Value} {n : Nat} (h : OwnL w base N v n ls) (hf : Fr S w w') (hS : ∀ i, N i → ¬ S i) (hv : ∀ g, v.ownBlock = some g → ¬ S g) : OwnL w' base N v n ls :=
  let ⟨vs, ho, he⟩ := h.vs
  ⟨⟨vs, hf.own ho hv, he.fr hf hS⟩⟩
theorem OwnL.no {base : Nat} {v : Value} {n : Nat} (h : OwnL w base N v n ls) (hf : Fr No w w') : OwnL w' base N v n ls := h.fr hf (fun _ _ x => x) (fun _ _ x => x)
theorem OwnL.mono {base : Nat} {v : Value} {n : Nat} (h : OwnL w base N v n ls) (hM : ∀ i, N i → M i) : OwnL w base M v n ls :=
  let ⟨vs, ho, he⟩ := h.vs
  ⟨⟨vs, ho, he.mono hM⟩⟩

theorem info_sl8 : (Try.prog.info? 23).map (fun i => (i.zero, i.size, i.bytes)) = some (some (.slice none 0 0), 1, 24) := by kernel_rfl
/-- append of rows onto a row of rows of the call's own -/
theorem apL (w : World) {ops : Array Oper} {rest : List Oper} {o : Oper} {a : Act} {Q : Exit → Act → World → Prop} (hgd : Region.wanted o (yielded ops a.tmps) = true) (s x : Operand)
    (ho : o.op = .call { callee := .builtin .append, args := #[s, x], argTypes := #[22, 22] })
    (base : Nat) (N : Nat → Prop) (v : Value) (n : Nat) (ls : List (List UInt8)) (hs : a.eval s = v) (hown : OwnL w base N v n ls)
    (A : Option Addr) (m c : Nat) (ms : List (List UInt8)) (hx : a.eval x = .slice A m c) (hr : RdL w N A m c ms) (hb : n + m ≤ 1000000000000) (hbase : base ≤ w.heap.size)
    (hN : ∀ i, N i → v.ownBlock ≠ some i)
    (h : ∀ v' w', OwnL w' base N v' (n + m) (ls ++ ms) → w.grownBy w' v.ownBlock → (v'.ownBlock = v.ownBlock ∨ v'.ownBlock = some w.heap.size) → wpList Try.prog ops Q rest (a.put o.dst v') w') :
    wpList Try.prog ops Q (o :: rest) a w := by
  obtain ⟨i, hi, hz, h1, h2⟩ := info_parts info_sl8
  obtain ⟨vs, hov, he⟩ := hown.vs
  obtain ⟨us, hru, hue⟩ := hr.vs
  refine wpList_append_rd w hgd s x 22 ho base 23 i (.slice none 0 0) 24 Try.underlying22 hi hz h1 h2 rfl v n vs hs hov A m c us hx hru hue.one (by simp only [maxLen]; omega) (by omega) hbase ?_
  intro v' w' g1 g2 g3
  have hf : Fr (fun k => v.ownBlock = some k) w w' := (Fr.refl _ w).grown g2 (fun g e => .inl e)
  exact h v' w' ⟨⟨vs ++ us, g1, (he.app hue).fr hf (fun k hk => hN k hk)⟩⟩ g2 g3

theorem same_rows_any (A B : Option Addr) (n c m d : Nat) (N M : Nat → Prop) (ls ms : List (List UInt8)) (w : World) (ha : RdL w N A n c ls) (hb : RdL w M B m d ms) (hn : n ≤ 9223372036854775807) :
    Calls Try.prog 15 #[.slice A n c, .slice B m d, .func (.func 11) #[] #[]] w fun e w' => e = .returned (.bool (ls == ms)) ∧ Dr w w' := by
  have hl := ha.len
  have hm := hb.len
  by_cases hnm : n = m
  · go_enter Try.func15, Try.ntmps15
    have hnmI : (n : Int) = (m : Int) := by omega
    subst hnm
    go_wp2
    go_loopw [7] (fun v wr => ∃ k : Nat, k ≤ n ∧ v = .int .i64 (k : Int) ∧ Dr w wr ∧ ls.take k = ms.take k) (fun v _ => n - (intOf v).toNat)
    case atStart => exact ⟨0, by omega, rfl, Dr.refl _, rfl⟩
    case round =>
      obtain ⟨k, hk, rfl, hdr, htk⟩ := hrel
      rcases Nat.lt_or_ge k n with hlt | hge
      · obtain ⟨ad, A1, n1, c1, rfl, hc1, hr1, -⟩ := (ha.dr hdr).at_ (i := k) (by omega)
        obtain ⟨bd, B1, m1, d1, rfl, hc2, hr2, -⟩ := (hb.dr hdr).at_ (i := k) (by omega)
        have hst1 : ls.take (k + 1) = ls.take k ++ [ls[k]] := List.take_succ_eq_append_getElem (by omega)
        have hst2 : ms.take (k + 1) = ms.take k ++ [ms[k]] := List.take_succ_eq_append_getElem (by omega)
        generalize ls[k] = x at hr1 hst1
        generalize ms[k] = y at hr2 hst2
        have HT := Lib.hid htk; have H1 := Lib.hid hst1; have H2 := Lib.hid hst2; have HL := Lib.hid hl; have HM := Lib.hid hm
        clear htk hst1 hst2 hl hm
        cases hxy : (x == y) with
        | true =>
          have hq := fun u => bytes_any A1 B1 n1 c1 m1 d1 x y u
          rw [hxy] at hq
          have HQ := Lib.hid hq; have HX := Lib.hid hxy
          clear hq hxy
          go_wp2
          go_quiet ((go_at_call 11; exact quiet_same (HQ.out _ (by exact hr1.dr ⟨_, rfl⟩) (by exact hr2.dr ⟨_, rfl⟩))))
          go_wp2
          go_roundw
          case rel => exact ⟨k + 1, by omega, by go_num, hdr.drewN _, by rw [H1.out, H2.out, HT.out, eq_of_beq HX.out]⟩
          case measure => simp [intOf]; omega
        | false =>
          have hq := fun u => bytes_any A1 B1 n1 c1 m1 d1 x y u
          rw [hxy] at hq
          have HQ := Lib.hid hq; have HX := Lib.hid hxy
          clear hq hxy
          go_wp2
          go_quiet ((go_at_call 11; exact quiet_same (HQ.out _ (by exact hr1.dr ⟨_, rfl⟩) (by exact hr2.dr ⟨_, rfl⟩))))
          go_wp2
          go_ret
          refine ⟨ret_bool ?_, hdr.drewN _⟩
          symm
          rw [beq_eq_false_iff_ne]
          intro e
          have e2 : ls.take (k + 1) = ms.take (k + 1) := by rw [e]
          rw [H1.out, H2.out] at e2
          have e3 := List.append_inj_right' e2 rfl
          injection e3 with e3
          rw [e3] at HX
          have := HX.out
          simp at this
      · obtain rfl : k = n := by omega
        have heq : ls = ms := by
          rw [List.take_of_length_le (by omega), List.take_of_length_le (by omega)] at htk
          exact htk
        have HE := Lib.hid heq
        clear heq htk hl hm
        go_wp2
        go_ret
        refine ⟨ret_bool ?_, hdr⟩
        rw [HE.out]
        simp
  · have hne : (ls == ms) = false := by
      rw [beq_eq_false_iff_ne]
      intro e
      rw [e] at hl
      omega
    rw [hne]
    have hnmI : ¬ (n : Int) = (m : Int) := by omega
    go_enter Try.func15, Try.ntmps15
    go_wp2
    go_ret
    exact ⟨rfl, Dr.refl _⟩
end Go.Proofs.Ytpoaifibomiiaaa
