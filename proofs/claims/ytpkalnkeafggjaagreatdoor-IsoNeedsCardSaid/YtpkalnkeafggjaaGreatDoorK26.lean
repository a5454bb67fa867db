/- The texts IsoP3, QuietBelow, joined. -/
import Derived.Test.YtpkalnkeafggjaaGreatDoorK25
import Derived.Test.YtpkalnkeafggjaaGreatDoorK01
import Derived.Lib.QuietBelow
import Derived.Deep.MidRow
/- Package iso: the reader: all the elements; Parse. -/
namespace Go.Proofs.YtpkalnkeafggjaaGreatDoor
open Go.RowKit
set_option maxHeartbeats 1000000
set_option linter.unusedVariables false
set_option maxRecDepth 20000

/-! ### the elements, as far as they were read -/
theorem els_norm (ns : List Int) (b : List UInt8) (h : (elsF ns b).1 ≠ 0) : elsF ns b = ((elsF ns b).1, [], 0) := by
  cases ns with
  | nil => exact absurd rfl h
  | cons n ns =>
    unfold elsF at h ⊢
    split
    · rfl
    · rename_i h1
      rw [if_neg h1] at h
      split
      · rfl
      · rename_i h2
        rw [if_neg h2] at h
        exact absurd rfl h
def elsQ (es : List El) (q : Nat) (r : Int × List El × Nat) : Int × List El × Nat := if r.1 ≠ 0 then (r.1, [], 0) else (0, es ++ r.2.1, q + r.2.2)
theorem els_start (ns : List Int) (b : List UInt8) : elsF ns b = elsQ [] 0 (elsF ns b) := by
  unfold elsQ
  by_cases h : (elsF ns b).1 ≠ 0
  · rw [if_pos h]; exact els_norm ns b h
  · rw [if_neg h, List.nil_append, Nat.zero_add]
    have h := Decidable.not_not.1 h
    rw [← h]
theorem els_next {r : Int × List El × Nat} {ns : List Int} {i : Nat} {x : List UInt8} {n : Int} {es : List El} {q : Nat} (h : r = elsQ es q (elsF (ns.drop i) x)) (hi : ns[i]? = some n) (he : reE n x = 0) :
    r = elsQ (es ++ [(n, reL n x)]) (q + reN n x) (elsF (ns.drop (i + 1)) (x.drop (reN n x))) := by
  have hil : i < ns.length := (List.getElem?_eq_some_iff.1 hi).1
  have hin : ns[i] = n := (List.getElem?_eq_some_iff.1 hi).2
  rw [h, List.drop_eq_getElem_cons hil, hin]
  generalize ns.drop (i + 1) = t
  have hu : elsF (n :: t) x = if (elsF t (x.drop (reN n x))).1 ≠ 0 then ((elsF t (x.drop (reN n x))).1, [], 0) else (0, (n, reL n x) :: (elsF t (x.drop (reN n x))).2.1, reN n x + (elsF t (x.drop (reN n x))).2.2) := by
    conv => lhs; unfold elsF
    rw [if_neg (by rw [he]; decide)]
  rw [hu]
  generalize elsF t (x.drop (reN n x)) = T
  unfold elsQ
  by_cases h2 : T.1 ≠ 0
  · rw [if_pos h2, if_pos h2, if_pos h2]
  · rw [if_neg h2, if_neg h2, if_neg (by simp), List.append_assoc, Nat.add_assoc]
    rfl
theorem els_fail {r : Int × List El × Nat} {ns : List Int} {i : Nat} {x : List UInt8} {n : Int} {es : List El} {q : Nat} (h : r = elsQ es q (elsF (ns.drop i) x)) (hi : ns[i]? = some n) (he : reE n x ≠ 0) : r.1 = reE n x := by
  have hil : i < ns.length := (List.getElem?_eq_some_iff.1 hi).1
  have hin : ns[i] = n := (List.getElem?_eq_some_iff.1 hi).2
  rw [h, List.drop_eq_getElem_cons hil, hin]
  unfold elsQ elsF
  rw [if_pos he, if_pos he]
theorem els_done {r : Int × List El × Nat} {ns : List Int} {i : Nat} {x : List UInt8} {es : List El} {q : Nat} (h : r = elsQ es q (elsF (ns.drop i) x)) (hi : ns.length ≤ i) : r = (0, es, q) := by
  rw [h, List.drop_eq_nil_of_le hi]
  unfold elsQ elsF
  rw [if_neg (by decide), List.append_nil, Nat.add_zero]

/-! ### one call for each number -/
theorem each_int (L : Option Addr) (n c : Nat) (ns : List Int) (w : World) (F : FuncId) (x : Value) (R : Nat → World → Prop) (Q : Int → World → Prop) (hlen : ns.length = n) (htop : n ≤ 9223372036854775807) (h0 : R 0 w) (hR : ∀ k u, R k u → Rd u L n c (ints ns))
    (hen : ∀ args w, (callFunc F args).run Tryz.prog w = .ok (.enter F args) w)
    (hs : ∀ k v, ns[k]? = some v → ∀ u, R k u → Calls Tryz.prog F #[x, .int .i64 v] u (SWTo (R (k + 1)) Q)) :
    Calls Tryz.prog 41 #[.slice L n c, .func (.func F) #[x] #[]] w (SWTo (R n) Q) := by
  have HR := Lib.hid hR; have HS := Lib.hid hs; have H0 := Lib.hid h0; have HL := Lib.hid hlen
  clear hR hs h0 hlen
  go_enter Tryz.func41, Tryz.ntmps41
  go_wp2
  go_loopw [10] (fun v wr => ∃ k : Nat, k ≤ n ∧ v = .int .i64 (k : Int) ∧ R k wr) (fun v _ => n - (intOf v).toNat)
  case atStart => exact ⟨0, by omega, rfl, H0.out⟩
  case round =>
    obtain ⟨k, hk, rfl, hr⟩ := hrel
    have HRK := Lib.hid hr
    clear hr
    rcases Nat.lt_or_ge k n with hkn | hge
    · obtain ⟨v, hv⟩ : ∃ v, ns[k]? = some v := ⟨_, List.getElem?_eq_getElem (by rw [HL.out]; exact hkn)⟩
      have hrd := HR.out k wr HRK.out
      obtain ⟨ad, u, rfl, hu, hc⟩ := hrd.at_ hkn
      obtain rfl : u = .int .i64 v := by
        have h2 : (ints ns)[k]? = some (.int .i64 v) := by simp [ints, hv]
        rw [h2] at hu
        injection hu with hu
        exact hu.symm
      clear hu
      have hkI : (k : Int) < (n : Int) := by omega
      have HC := Lib.hid (HS.out k v hv wr HRK.out)
      clear hrd hv
      go_upto_region 5 with ((with_reducible refine (HC.out).mono ?_); rintro e w1 ⟨E, rfl, hE⟩; have HE := Lib.hid hE; clear hE)
      by_cases hE : E = 0
      · subst hE
        have hr2 : R (k + 1) w1 := by
          rcases HE.out with ⟨_, h⟩ | ⟨h, _⟩
          · exact h
          · exact absurd rfl h
        have HR2 := Lib.hid hr2
        clear hr2 hc
        go_wp2_with fail
        go_roundw
        case rel => exact ⟨k + 1, by omega, by go_num, HR2.out⟩
        case measure => simp [intOf]; omega
      · have hEb := st_ne0 hE
        have HNE := Lib.hid hE
        clear hE hc
        go_wp2_with fail
        go_ret
        refine ⟨E, rfl, .inr ⟨HNE.out, ?_⟩⟩
        rcases HE.out with ⟨h, _⟩ | ⟨_, h⟩
        · exact absurd h HNE.out
        · exact h
    · obtain rfl : k = n := by omega
      go_wp2
      go_ret
      exact ⟨0, rfl, .inl ⟨rfl, HRK.out⟩⟩
theorem mapN_le (x : List UInt8) : mapN x = 8 ∨ mapN x = 16 := by unfold mapN; split <;> simp
theorem parL_num {x : List UInt8} {v : Int} (h : v ∈ parL x) : 2 ≤ v ∧ v ≤ 128 := by
  unfold parL at h
  split at h
  · have := (setOf_mem x (mapN x) (by rcases mapN_le x with h | h <;> omega) v).1 h
    rcases mapN_le x with h | h <;> omega
  · cases h
/-- numbers that int holds -/
theorem num_wf {v : Int} (h : 0 ≤ v ∧ v ≤ 1000) : (Lit.int .i64 v).wf = true := by simp [Lit.wf, IntKind.min, IntKind.max, IntKind.signed, IntKind.bits]; omega
theorem parL_len (x : List UInt8) : (parL x).length ≤ 127 := by
  unfold parL
  split
  · unfold setOf
    have h1 := List.length_filter_le (fun n : Int => bitAt x (n.toNat - 1)) ((List.range (8 * mapN x - 1)).map fun (k : Nat) => ((k : Int) + 2))
    rw [List.length_map, List.length_range] at h1
    rcases mapN_le x with h | h <;> omega
  · exact Nat.zero_le _
def ElsR (w : World) (g G : Nat) (A : Option Addr) (c : Nat) (b : List UInt8) (p : Nat) (mt : ByteArray) (vl : Value) (ns : List Int) (i : Nat) (u : World) : Prop :=
  Fr (IsoB G g) w u ∧ ∃ (es : List El) (q : Nat) (va : Value), Rs u g G A c b (p + q) mt va vl ∧ OwnE u w.heap.size va es ∧ es.length = i ∧ elsF ns (b.drop p) = elsQ es q (elsF (ns.drop i) (b.drop (p + q)))
def ElsO (w : World) (g G : Nat) (b : List UInt8) (p : Nat) (ns : List Int) (E : Int) (u : World) : Prop := Fr (IsoB G g) w u ∧ (elsF ns (b.drop p)).1 = E
theorem iso_elements {w : World} {g G : Nat} {A : Option Addr} {c : Nat} {b : List UInt8} {p : Nat} {mt : ByteArray} {L : Option Addr} {n cl : Nat} {ns : List Int} (h : Rs w g G A c b p mt (.slice none 0 0) (.slice L n cl)) (hr : Rd w L n cl (ints ns)) (hL : ∀ ad, L = some ad → 0 < n → g < ad.block) (hn : n ≤ 200)
    (hwf : ∀ v ∈ ns, 0 ≤ v ∧ v ≤ 1000) (hb : b.length ≤ 4096) (hT : ∀ u, Fr (IsoB G g) w u → Tabs u) :
    Calls Tryz.prog 20 #[.pointer (some ⟨g, 0, none⟩)] w (SWTo (ElsR w g G A c b p mt (.slice L n cl) ns n) (ElsO w g G b p ns)) := by
  have hlen : ns.length = n := by simpa [ints] using hr.len
  have hgl := h.lt
  have HE := Lib.hid (each_int L n cl ns w 42 (.pointer (some ⟨g, 0, none⟩)) (fun i u => i ≤ n ∧ ElsR w g G A c b p mt (.slice L n cl) ns i u) (ElsO w g G b p ns) hlen (by omega)
    ⟨Nat.zero_le _, Fr.refl _ _, [], 0, _, h, OwnE.nil_ _ _, rfl, els_start _ _⟩
    (fun i u hu => rd_far hr hu.2.1 (fun h0 ad e x => by have := hL ad e h0; rcases x with x | x <;> omega))
    (fun args w => rfl)
    (fun i v hv u hu => by
      obtain ⟨hin, hf, es, q, va, hrs, ho, hel, hinv⟩ := hu
      refine (iso_element (n := v) hrs ho hgl.2 hf.size (by omega) (num_wf (hwf v (List.mem_of_getElem? hv))) hb (hT u hf)).mono ?_
      rintro e u2 ⟨rfl, hf2, hok⟩
      have hf3 : Fr (IsoB G g) w u2 := hf.trans_new hf2 (fun j hj => by
        rcases hj with hj | hj
        · exact .inl hj
        · exact .inr (ho.lt j hj).1)
      refine ⟨_, rfl, ?_⟩
      by_cases hE : reE v (b.drop (p + q)) = 0
      · obtain ⟨va', hrs2, ho2, hv2⟩ := hok hE
        refine .inl ⟨hE, ?_, hf3, es ++ [(v, reL v (b.drop (p + q)))], q + reN v (b.drop (p + q)), va', ?_, ho2, by simp; omega, ?_⟩
        · have := (List.getElem?_eq_some_iff.1 hv).1; omega
        · rw [← Nat.add_assoc]; exact hrs2
        · have := els_next hinv hv hE
          rw [List.drop_drop, Nat.add_assoc] at this
          exact this
      · exact .inr ⟨hE, hf3, els_fail hinv hv hE⟩))
  have c4 := h.cells.2.2.2.2.1
  clear h hr hL hn hwf hb hT hlen hgl
  go_enter Tryz.func20, Tryz.ntmps20
  go_wp2_with (go_at_call 41; refine (HE.out).mono ?_; rintro e w1 ⟨E, rfl, hE⟩; have HR := Lib.hid hE; clear hE)
  go_ret
  refine ⟨E, rfl, ?_⟩
  rcases HR.out with ⟨h1, _, h2⟩ | h
  · exact .inl ⟨h1, h2⟩
  · exact .inr h
end Go.Proofs.YtpkalnkeafggjaaGreatDoor
/- Regions that draw their order, only read, and hold calls that lay new blocks: small words. -/
namespace Go.Proofs.YtpkalnkeafggjaaGreatDoor
open Go.RowKit
set_option linter.unusedVariables false

/-- a load of many cells, at a step of a region that draws and only reads -/
theorem quiet_load {P : Program} {ops : Array Oper} {C : World → Prop} {Q : Act → Prop} {o : Oper} {rest : List Oper} {a : Act} (ty : TypeId) (x : Operand) (ho : o.op = .load ty x) (hw : Region.wanted o (yielded ops a.tmps) = true)
    (b : Nat) (hx : a.eval x = .pointer (some ⟨b, 0, none⟩)) (cs : List Value) (d : TypeDesc) (hC : ∀ w, C w → w.rangeAt b 0 cs)
    (hu : P.underlying ty = some d) (hd : d.isRow = true) (hi : (P.info? ty).map (·.size) = some cs.length)
    (h : wpQuiet P ops C Q rest (a.put o.dst (.agg cs.toArray))) : wpQuiet P ops C Q (o :: rest) a := by
  unfold wpQuiet
  rw [if_pos hw]
  refine ⟨_, fun w hw' => ?_, h⟩
  unfold Oper.quietAt execOp
  simp only [ho, hx, Instr.loadAt, Instr.sureAddr, Sem.run_bind, Sem.run_pure, Result.andThen_ok, run_loadVar_mid w b 0 ty cs d (hC w hw') hu hd hi]
  exact ⟨rfl, rfl⟩
theorem below_of {P : Program} {f : FuncId} {args : Array Value} {v : Value} {w : World} (h : Calls P f args w fun e w' => e = .returned v ∧ Fr No w w') : Calls P f args w fun e w' => e = .returned v ∧ Below w.heap.size w w' :=
  h.mono fun _ _ ⟨e, f⟩ => ⟨e, f.toBelow⟩
theorem below_same {P : Program} {f : FuncId} {args : Array Value} {v : Value} {w : World} (h : Calls P f args w fun e w' => e = .returned v ∧ w = w') : Calls P f args w fun e w' => e = .returned v ∧ Below w.heap.size w w' :=
  h.mono fun _ _ ⟨e, f⟩ => ⟨e, f ▸ (Fr.refl No w).toBelow⟩
theorem below_dr {P : Program} {f : FuncId} {args : Array Value} {v : Value} {w : World} (h : Calls P f args w fun e w' => e = .returned v ∧ Dr w w') : Calls P f args w fun e w' => e = .returned v ∧ Below w.heap.size w w' :=
  h.mono fun _ _ ⟨e, f⟩ => ⟨e, f.fr.toBelow⟩
theorem fr_regrown (W : World) (d : Nat) (os : Array Obj) : Fr No W (Go.Sort.grow (redrawn W d) os) := Fr.of_below (below_regrown W d os)
end Go.Proofs.YtpkalnkeafggjaaGreatDoor
