/- The texts FldHd, joined. -/
import Derived.Test.YthlgnmgjfgbffaaGreatDoorL38
import Derived.Test.YthlgnmgjfgbffaaGreatDoorL48
import Derived.Test.YthlgnmgjfgbffaaGreatDoorL45
import Derived.Lib.SlBytesConst
/- FieldsHeads: the walk. -/
namespace Go.Proofs.YthlgnmgjfgbffaaGreatDoor
open Go.RowKit
set_option maxHeartbeats 4000000
set_option linter.unusedVariables false
set_option maxRecDepth 20000

theorem fumod (x : Int) (m : Nat) (h0 : 0 < m) (h1 : m < 18446744073709551616) : ∃ q : Nat, q < m ∧ (IntKind.u64.wrap x).tmod (m : Int) = (q : Int) := by
  rw [IntKind.wrap_u64]
  have hb : 0 ≤ x % 18446744073709551616 := by omega
  rw [Int.tmod_eq_emod_of_nonneg hb]
  refine ⟨((x % 18446744073709551616) % (m : Int)).toNat, ?_, ?_⟩
  · have := Int.emod_lt_of_pos (x % 18446744073709551616) (b := (m : Int)) (by omega)
    have := Int.emod_nonneg (x % 18446744073709551616) (b := (m : Int)) (by omega)
    omega
  · have := Int.emod_nonneg (x % 18446744073709551616) (b := (m : Int)) (by omega)
    omega
/-- what digits of a number less than such a power are -/
theorem dig_text {v k : Nat} (hk : k ≤ 17) (h : v < 10 ^ (k + 1)) : (textR v ((k + 1 : Nat) : Int)).length = k + 1 ∧ (textR v ((k + 1 : Nat) : Int)).all isD = true ∧ numV (textR v ((k + 1 : Nat) : Int)) = v := ⟨(dig_num hk h).2.1, (dig_num hk h).2.2, (dig_num hk h).1⟩
def hdE (s : List UInt8) (there : Bool) : List El := if there = true then [(11, s), (12, nowB), (32, [52, 50])] else [(11, s), (12, nowB)]
theorem hd_pac {t s : List UInt8} (ht : t.length = 4 ∧ t.all isD = true) (hs : s.length = 6 ∧ s.all isD = true) (there : Bool) : pacE t (hdE s there) = 0 := by
  have h1 : rightB t 4 4 = true := by unfold rightB; rw [ht.1, ht.2]; decide
  have h := pac_head (m := nowB) (a := [52, 50]) h1 hs (by decide +kernel) (by decide +kernel)
  cases there with
  | true => exact h.1
  | false => exact h.2
theorem hd_par {t s : List UInt8} (ht : t.length = 4 ∧ t.all isD = true) (hs : s.length = 6 ∧ s.all isD = true) (there : Bool) : parI (pacR t (hdE s there)) = (0, t, hdE s there) := by
  have h := hd_pac ht hs there
  have e : pacR t (hdE s there) = wrtI t (hdE s there) := by unfold pacR; rw [if_pos h]
  rw [e]
  exact iso_back h
theorem hd_cut {t s : List UInt8} (ht : t.length = 4 ∧ t.all isD = true) (hs : s.length = 6 ∧ s.all isD = true) (there : Bool) : 4 ≤ (pacR t (hdE s there)).length ∧ (parI ((pacR t (hdE s there)).take ((pacR t (hdE s there)).length - 1))).2.2 = [] := by
  have h := hd_pac ht hs there
  have e : pacR t (hdE s there) = wrtI t (hdE s there) := by unfold pacR; rw [if_pos h]
  rw [e]
  have hl : 4 ≤ (wrtI t (hdE s there)).length := by
    unfold wrtI
    simp only [List.length_append]
    have := ht.1
    omega
  refine ⟨hl, (pari_err ?_).2⟩
  rw [iso_cut h _ (by omega)]
  decide
theorem hed_none : hedB (fldT []) = false := by
  unfold hedB exchB
  simp only [bstr_toList]
  decide +kernel
theorem hd_B {s : List UInt8} (hs : s.length = 6) : hedB (fldT (hdE s true)) = true ∧ hedB (fldT (hdE s false)) = false := by
  have h11 : fldT (hdE s true) 11 = s := rfl
  have h12 : fldT (hdE s true) 12 = nowB := rfl
  have h32 : fldT (hdE s true) 32 = [52, 50] := rfl
  have g32 : fldT (hdE s false) 32 = [] := rfl
  have hne : (s == []) = false := by cases s with | nil => cases hs | cons _ _ => rfl
  refine ⟨?_, ?_⟩
  · unfold hedB exchB
    rw [h11, h12, h32]
    simp only [bstr_toList]
    rw [hne]
    decide +kernel
  · unfold hedB exchB
    rw [g32]
    simp only [bstr_toList]
    simp
/-- what the statement's own message of it is -/
def hdM (q : Nat) : MsgC := { mz with stan := (q : Int), time := bstr nowB, acq := bstr [52, 50] }
theorem hd_M {s : List UInt8} {q : Nat} (hs : s.length = 6 ∧ s.all isD = true) (hq : numV s = q) : hedM (fldT (hdE s true)) = hdM q := by
  unfold hedM
  rw [(hd_B hs.1).1, if_pos rfl]
  have h11 : fldT (hdE s true) 11 = s := rfl
  have hn : numR s = q := by
    unfold numR rightB
    rw [hs.1, hs.2, ← hq]
    rfl
  unfold hedC hdM
  rw [h11, hn]
  rfl
theorem fld_mark (w : World) (cs : List Value) (t : TypeId) (fz : Nat × Nat) (n : Nat) (hn : cs.length = n) (hm : n ≤ maxLen) : Rd (w.alloc (.cells cs.toArray t fz)) (some ⟨w.heap.size, 0, none⟩) n n cs := by
  refine ⟨hn, Nat.le_refl _, hm, (fun e => nomatch e), ?_⟩
  intro ad e j u hu
  injection e with e
  subst e
  rw [show (⟨w.heap.size, 0, none⟩ : Addr).add j = ⟨w.heap.size, j, none⟩ from by unfold Addr.add; split <;> simp_all]
  have h := heap_alloc_new w (.cells cs.toArray t fz)
  generalize w.alloc (.cells cs.toArray t fz) = w2 at h ⊢
  generalize w.heap.size = s at h ⊢
  simp [World.cell?, h, hu]

/-- two, or three, elements in a row that is known whole -/
theorem fld_row3 {u : World} {rb : Nat} {t : TypeId} {q1 q2 q3 : Int} {A1 A2 A3 : Option Addr} {n1 n2 n3 c1 c2 c3 : Nat} {l1 l2 l3 : List UInt8} (h : Bk u rb t [.int .i64 q1, .slice A1 n1 c1, .int .i64 q2, .slice A2 n2 c2, .int .i64 q3, .slice A3 n3 c3])
    (h1 : Rd u A1 n1 c1 (u8s l1)) (h2 : Rd u A2 n2 c2 (u8s l2)) (h3 : Rd u A3 n3 c3 (u8s l3)) (w1 : (Lit.int .i64 q1).wf = true) (w2 : (Lit.int .i64 q2).wf = true) (w3 : (Lit.int .i64 q3).wf = true) :
    RdI 2 TagI u (fun i => i < u.heap.size) (some ⟨rb, 0, none⟩) 3 3 [(q1, l1), (q2, l2), (q3, l3)] ∧ RdI 2 TagI u (fun i => i < u.heap.size) (some ⟨rb, 0, none⟩) 2 3 [(q1, l1), (q2, l2)] := by
  have lt63 : ∀ {A : Option Addr} {n c : Nat} {l : List UInt8}, Rd u A n c (u8s l) → n ≤ 9223372036854775807 := fun h => rd_len63 h
  refine ⟨⟨⟨[.int .i64 q1, .slice A1 n1 c1, .int .i64 q2, .slice A2 n2 c2, .int .i64 q3, .slice A3 n3 c3], ⟨rfl, Nat.le_refl _, by simp [maxLen], (fun e => nomatch e), fun ad e j v hv => ?_⟩,
    [.int .i64 q1, .slice A1 n1 c1], [.int .i64 q2, .slice A2 n2 c2, .int .i64 q3, .slice A3 n3 c3], rfl, ⟨A1, n1, c1, rfl, h1, fun ad e h0 => h1.lt h0 ad e, w1, lt63 h1⟩,
    [.int .i64 q2, .slice A2 n2 c2], [.int .i64 q3, .slice A3 n3 c3], rfl, ⟨A2, n2, c2, rfl, h2, fun ad e h0 => h2.lt h0 ad e, w2, lt63 h2⟩,
    [.int .i64 q3, .slice A3 n3 c3], [], rfl, ⟨A3, n3, c3, rfl, h3, fun ad e h0 => h3.lt h0 ad e, w3, lt63 h3⟩, rfl⟩, fun ad e h0 => ?_⟩,
    ⟨⟨[.int .i64 q1, .slice A1 n1 c1, .int .i64 q2, .slice A2 n2 c2], ⟨rfl, by decide, by simp [maxLen], (fun e => nomatch e), fun ad e j v hv => ?_⟩,
    [.int .i64 q1, .slice A1 n1 c1], [.int .i64 q2, .slice A2 n2 c2], rfl, ⟨A1, n1, c1, rfl, h1, fun ad e h0 => h1.lt h0 ad e, w1, lt63 h1⟩,
    [.int .i64 q2, .slice A2 n2 c2], [], rfl, ⟨A2, n2, c2, rfl, h2, fun ad e h0 => h2.lt h0 ad e, w2, lt63 h2⟩, rfl⟩, fun ad e h0 => ?_⟩⟩
  · injection e with e
    subst e
    rw [addr_at, h.cell j]
    exact hv
  · injection e with e
    subst e
    exact h.lt
  · injection e with e
    subst e
    have hj : j < 4 := (List.getElem?_eq_some_iff.1 hv).1
    rw [addr_at, h.cell j]
    have : j = 0 ∨ j = 1 ∨ j = 2 ∨ j = 3 := by omega
    rcases this with rfl | rfl | rfl | rfl <;> exact hv
  · injection e with e
    subst e
    exact h.lt
theorem fld_row2n {u : World} {rb b1 b2 : Nat} {t : TypeId} {q1 q2 q3 : Int} {A3 : Option Addr} {n1 n2 n3 c1 c2 c3 : Nat} {l1 l2 : List UInt8} (h : Bk u rb t [.int .i64 q1, .slice (some ⟨b1, 0, none⟩) n1 c1, .int .i64 q2, .slice (some ⟨b2, 0, none⟩) n2 c2, .int .i64 q3, .slice A3 n3 c3])
    (h1 : Rd u (some ⟨b1, 0, none⟩) n1 c1 (u8s l1)) (h2 : Rd u (some ⟨b2, 0, none⟩) n2 c2 (u8s l2)) (w1 : (Lit.int .i64 q1).wf = true) (w2 : (Lit.int .i64 q2).wf = true) (hb1 : b1 < u.heap.size ∧ b1 ≠ rb + 1) (hb2 : b2 < u.heap.size ∧ b2 ≠ rb + 1) :
    RdI 2 TagI u (fun i => i < u.heap.size ∧ i ≠ rb + 1) (some ⟨rb, 0, none⟩) 2 3 [(q1, l1), (q2, l2)] := by
  refine ⟨⟨[.int .i64 q1, .slice (some ⟨b1, 0, none⟩) n1 c1, .int .i64 q2, .slice (some ⟨b2, 0, none⟩) n2 c2], ⟨rfl, by decide, by simp [maxLen], (fun e => nomatch e), fun ad e j v hv => ?_⟩,
    [.int .i64 q1, .slice (some ⟨b1, 0, none⟩) n1 c1], [.int .i64 q2, .slice (some ⟨b2, 0, none⟩) n2 c2], rfl, ⟨some ⟨b1, 0, none⟩, n1, c1, rfl, h1, (fun ad e _ => by injection e with e; subst e; exact hb1), w1, rd_len63 h1⟩,
    [.int .i64 q2, .slice (some ⟨b2, 0, none⟩) n2 c2], [], rfl, ⟨some ⟨b2, 0, none⟩, n2, c2, rfl, h2, (fun ad e _ => by injection e with e; subst e; exact hb2), w2, rd_len63 h2⟩, rfl⟩, fun ad e h0 => ?_⟩
  · injection e with e
    subst e
    have hj : j < 4 := (List.getElem?_eq_some_iff.1 hv).1
    rw [addr_at, h.cell j]
    have : j = 0 ∨ j = 1 ∨ j = 2 ∨ j = 3 := by omega
    rcases this with rfl | rfl | rfl | rfl <;> exact hv
  · injection e with e
    subst e
    exact ⟨h.lt, Nat.ne_of_lt (Nat.lt_succ_self _)⟩
/-- three elements, and a message of them, are laid -/
theorem hd_start (w : World) (b1 n c : Nat) (Tt : ByteArray) (W : World) (hW : ((((w.alloc (.cells #[.int .u8 50, .int .u8 48, .int .u8 50, .int .u8 54, .int .u8 48, .int .u8 49, .int .u8 48, .int .u8 49, .int .u8 49, .int .u8 50, .int .u8 48, .int .u8 48, .int .u8 48, .int .u8 48] 5 (14, 15))).alloc (.cells #[.int .u8 52, .int .u8 50] 5 (2, 3))).alloc (.cells #[.int .i64 11, .slice (some ⟨b1, 0, none⟩) n c, .int .i64 12, .slice (some ⟨w.heap.size, 0, none⟩) 14 14, .int .i64 32, .slice (some ⟨w.heap.size + 1, 0, none⟩) 2 2] 24)).alloc (.cells #[.string Tt, .slice (some ⟨w.heap.size + 1 + 1, 0, none⟩) 3 3] 27)) = W) :
    Fr No w W ∧ Bk W (w.heap.size + 1 + 1) 24 [.int .i64 11, .slice (some ⟨b1, 0, none⟩) n c, .int .i64 12, .slice (some ⟨w.heap.size, 0, none⟩) 14 14, .int .i64 32, .slice (some ⟨w.heap.size + 1, 0, none⟩) 2 2] ∧ Bk W (w.heap.size + 1 + 1 + 1) 27 [.string Tt, .slice (some ⟨w.heap.size + 1 + 1, 0, none⟩) 3 3] ∧ Rd W (some ⟨w.heap.size, 0, none⟩) 14 14 (u8s nowB) ∧ Rd W (some ⟨w.heap.size + 1, 0, none⟩) 2 2 (u8s [52, 50]) := by
  have r1 := fld_mark w (u8s nowB) 5 (14, 15) 14 rfl (by simp [maxLen])
  have z1 : (w.alloc (.cells (u8s nowB).toArray 5 (14, 15))).heap.size = w.heap.size + 1 := by simp
  have r2 := fld_mark (w.alloc (.cells (u8s nowB).toArray 5 (14, 15))) (u8s [52, 50]) 5 (2, 3) 2 rfl (by simp [maxLen])
  rw [z1] at r2
  have z2 : ((w.alloc (.cells (u8s nowB).toArray 5 (14, 15))).alloc (.cells (u8s [52, 50]).toArray 5 (2, 3))).heap.size = w.heap.size + 1 + 1 := by simp
  have k3 := Bk.new ((w.alloc (.cells (u8s nowB).toArray 5 (14, 15))).alloc (.cells (u8s [52, 50]).toArray 5 (2, 3))) 24 #[.int .i64 11, .slice (some ⟨b1, 0, none⟩) n c, .int .i64 12, .slice (some ⟨w.heap.size, 0, none⟩) 14 14, .int .i64 32, .slice (some ⟨w.heap.size + 1, 0, none⟩) 2 2]
  rw [z2] at k3
  have z3 : (((w.alloc (.cells (u8s nowB).toArray 5 (14, 15))).alloc (.cells (u8s [52, 50]).toArray 5 (2, 3))).alloc (.cells #[.int .i64 11, .slice (some ⟨b1, 0, none⟩) n c, .int .i64 12, .slice (some ⟨w.heap.size, 0, none⟩) 14 14, .int .i64 32, .slice (some ⟨w.heap.size + 1, 0, none⟩) 2 2] 24)).heap.size = w.heap.size + 1 + 1 + 1 := by simp
  have k4 := Bk.new (((w.alloc (.cells (u8s nowB).toArray 5 (14, 15))).alloc (.cells (u8s [52, 50]).toArray 5 (2, 3))).alloc (.cells #[.int .i64 11, .slice (some ⟨b1, 0, none⟩) n c, .int .i64 12, .slice (some ⟨w.heap.size, 0, none⟩) 14 14, .int .i64 32, .slice (some ⟨w.heap.size + 1, 0, none⟩) 2 2] 24)) 27 #[.string Tt, .slice (some ⟨w.heap.size + 1 + 1, 0, none⟩) 3 3]
  rw [z3] at k4
  have f : ∀ (u : World) ob, Fr No u (u.alloc ob) := fun u ob => (Fr.refl No u).alloc ob
  rw [← hW]
  exact ⟨(((f w _).trans (f _ _)).trans (f _ _)).trans (f _ _), k3.no (f _ _), k4, ((r1.no (f _ _)).no (f _ _)).no (f _ _), (r2.no (f _ _)).no (f _ _)⟩
theorem headsfld_walk {x y : Int} {there : Bool} (w : World) (hT : Tabs w) (hx : (Lit.int .i64 x).wf = true) (hy : (Lit.int .i64 y).wf = true) :
    Calls Tryz.prog 4 #[.int .i64 x, .int .i64 y, .bool there] w fun e w' => e = .returned (.bool true) ∧ Fr No w w' := by
  obtain ⟨x0, x1⟩ := wf_i64 hx
  obtain ⟨y0, y1⟩ := wf_i64 hy
  obtain ⟨q, hq, hqe⟩ := fumod x 1000000 (by decide) (by decide)
  obtain ⟨r, hr, hre⟩ := fumod y 10000 (by decide) (by decide)
  have hq2 : (IntKind.u64.wrap x).tmod 1000000 = (q : Int) := hqe
  have hr2 : (IntKind.u64.wrap y).tmod 10000 = (r : Int) := hre
  have hqI : (q : Int) < 1000000 := by omega
  have hrI : (r : Int) < 10000 := by omega
  clear hqe hre
  obtain ⟨s1, s2, s3⟩ := dig_text (v := q) (k := 5) (by decide) (by simpa using hq)
  obtain ⟨t1, t2, t3⟩ := dig_text (v := r) (k := 3) (by decide) (by simpa using hr)
  have HD1 := Lib.hid (fun u => ref_digits q 6 u (by omega))
  have HD2 := Lib.hid (fun u => ref_digits r 4 u (by omega))
  have e6 : textR q ((5 + 1 : Nat) : Int) = textR q 6 := rfl
  have e4 : textR r ((3 + 1 : Nat) : Int) = textR r 4 := rfl
  rw [e6] at s1 s2 s3
  rw [e4] at t1 t2 t3
  generalize textR q 6 = s at *
  generalize textR r 4 = t at *
  generalize textE q 6 = E6 at *
  generalize textE r 4 = E4 at *
  have HSL := Lib.hid (show s.length = 6 ∧ s.all isD = true from ⟨s1, s2⟩)
  have HTL := Lib.hid (show t.length = 4 ∧ t.all isD = true from ⟨t1, t2⟩)
  have HSN := Lib.hid s3
  clear e6 e4 s1 s2 s3 t1 t2 t3 hq hr
  obtain ⟨S, hS⟩ : ∃ S, bstr s = S := ⟨_, rfl⟩
  obtain ⟨Tt, hTt⟩ : ∃ Tt, bstr t = Tt := ⟨_, rfl⟩
  rw [hS] at HD1
  rw [hTt] at HD2
  have HSS := Lib.hid hS; have HTT := Lib.hid hTt
  clear hS hTt
  have HT := Lib.hid hT
  clear hT hx hy
  have kc : ∀ (u : World) (C : Array Value) (n c g : Nat), u.heap.size = g → (convert 22 22 (.slice (some ⟨g, 0, none⟩) n c)).run Tryz.prog (u.alloc (.cells C 5)) = .ok (.slice (some ⟨g, 0, none⟩) n c) (u.alloc (.cells C 5 (C.size, C.size + 1))) := fun u C n c g hg => by
    subst hg
    exact Lib.run_convert_bytes_const (P := Tryz.prog) u 22 5 C n c Tryz.underlying22 Tryz.underlying5
  go_enter Tryz.func4, Tryz.ntmps4
  have tok := True.intro
  go_upto_region 4 with (first
    | (go_at_call 8; clear tok; refine (HD1.out _).mono ?_; rintro e w1 ⟨rfl, f1⟩; have F1 := Lib.hid f1; clear f1)
    | (go_at_call 8; refine (HD2.out _).mono ?_; rintro e w2 ⟨rfl, f2⟩; have F2 := Lib.hid (F1.out.trans f2); clear f2))
  obtain ⟨b1, hb1⟩ : ∃ b1, w2.heap.size = b1 := ⟨_, rfl⟩
  go_upto_region 5 with (refine convM w2 rfl (.tmp 36) rfl s (congrArg Value.string HSS.out.symm) (by rw [HSL.out.1]; decide) ?_; intro cc w3 ho3 f3 z3; obtain ⟨V3, c3, e3, hr3, -⟩ := ownM_rd ho3; injection e3 with e31 _ e32; subst e31 e32; have R3 := Lib.hid hr3; have F3 := Lib.hid (F2.out.trans f3); have Z3 := Lib.hid z3; clear ho3 hr3 f3 z3)
  generalize hW : ((((w3.alloc (.cells #[.int .u8 50, .int .u8 48, .int .u8 50, .int .u8 54, .int .u8 48, .int .u8 49, .int .u8 48, .int .u8 49, .int .u8 49, .int .u8 50, .int .u8 48, .int .u8 48, .int .u8 48, .int .u8 48] 5 (14, 15))).alloc (.cells #[.int .u8 52, .int .u8 50] 5 (2, 3))).alloc (.cells #[.int .i64 11, .slice (some ⟨b1, 0, none⟩) s.length cc, .int .i64 12, .slice (some ⟨w3.heap.size, 0, none⟩) 14 14, .int .i64 32, .slice (some ⟨w3.heap.size + 1, 0, none⟩) 2 2] 24)).alloc (.cells #[.string Tt, .slice (some ⟨w3.heap.size + 1 + 1, 0, none⟩) 3 3] 27)) = W
  obtain ⟨fW, k3, k4, r14, r2⟩ := hd_start w3 b1 s.length cc Tt W hW
  clear hW kc
  have hW4 : Fr No w W := F3.out.trans fW
  have rs := R3.out.no fW
  rw [hb1] at rs
  obtain ⟨row3, row2⟩ := fld_row3 k3 rs r14 r2 (by decide) (by decide) (by decide)
  have HTb : Tt.data.toList = t := by rw [← HTT.out]; rfl
  have HTz : Tt.size ≤ maxLen := by rw [← HTT.out, bstr_size, HTL.out.1]; decide
  obtain ⟨rb, hrb⟩ : ∃ rb, w3.heap.size + 1 + 1 = rb := ⟨_, rfl⟩
  have hz3 := Z3.out
  rw [hrb] at k3 k4 row3 row2 ⊢
  have HRB := Lib.hid (show w.heap.size ≤ rb by have h1 := F3.out.size; omega)
  have AW := Lib.hid (fun u (hu : Fr No w u) => awake_fld u (HT.out.fr hu))
  have HW4 := Lib.hid hW4
  have K4 := Lib.hid k4
  have ROW3 := Lib.hid row3
  have ROW2N := Lib.hid (fld_row2n k3 rs r14 (by decide) (by decide) ⟨by have h1 := k3.lt; have h2 := Z3.out; omega, by have h2 := Z3.out; omega⟩ ⟨by have h1 := k3.lt; omega, by omega⟩)
  have HHd := Lib.hid (fun u A n c (l : List UInt8) (hn : l.length = n) (hu : Fr No w u) (hr : Rd u A n c (u8s l)) => (by subst hn; exact f_head_any A c l u hr (HT.out.fr hu) : Calls Tryz.prog 9 #[.slice A n c] u (HedTo l u)))
  unfold HedTo at HHd
  clear fW k3 k4 r14 r2 rs row3 row2 hrb hW4 hz3 R3 F3 Z3 F2 F1 HD1 HD2 HSS x0 x1 y0 y1
  have m0 : W.cell? ⟨rb + 1, 0, none⟩ = some (.string Tt) := K4.out.cell 0
  have m1 : W.cell? ⟨rb + 1, 1, none⟩ = some (.slice (some ⟨rb, 0, none⟩) 3 3) := K4.out.cell 1
  have z1 := K4.out.frozen 1
  cases there
  · have hrw : Fr No w (W.setCell ⟨rb + 1, 1, none⟩ (.slice (some ⟨rb, 0, none⟩) 2 3)) := HW4.out.setCell (.inr (by have := HRB.out; show w.heap.size ≤ rb + 1; omega)) _
    have fj : Fr (Just (rb + 1)) W (W.setCell ⟨rb + 1, 1, none⟩ (.slice (some ⟨rb, 0, none⟩) 2 3)) := just_set W (rb + 1) 1 _
    have hrow : RdI 2 TagI (W.setCell ⟨rb + 1, 1, none⟩ (.slice (some ⟨rb, 0, none⟩) 2 3)) (fun i => i < (W.setCell ⟨rb + 1, 1, none⟩ (.slice (some ⟨rb, 0, none⟩) 2 3)).heap.size) (some ⟨rb, 0, none⟩) 2 3 [(11, s), (12, nowB)] := by
      have h := ROW2N.out
      exact (h.fr tag_ok fj (fun i hi e => hi.2 e)).mono tag_ok (fun i hi => by have h1 := hi.1; simpa using h1)
    have n0 : (W.setCell ⟨rb + 1, 1, none⟩ (.slice (some ⟨rb, 0, none⟩) 2 3)).cell? ⟨rb + 1, 0, none⟩ = some (.string Tt) := K4.out.after 1 0 (by decide) rfl _
    have n1 : (W.setCell ⟨rb + 1, 1, none⟩ (.slice (some ⟨rb, 0, none⟩) 2 3)).cell? ⟨rb + 1, 1, none⟩ = some (.slice (some ⟨rb, 0, none⟩) 2 3) := ((K4.out.set_ 1 (.slice (some ⟨rb, 0, none⟩) 2 3)).cell 1).trans rfl
    go_upto_region 7 with fail
    generalize W.setCell ⟨rb + 1, 1, none⟩ (.slice (some ⟨rb, 0, none⟩) 2 3) = U at *
    have HW4 := Lib.hid hrw
    have HPK := Lib.hid (r_PackIso Tt _ 2 3 _ U hrow (by decide) HTz)
    unfold PacTo at HPK
    rw [HTb] at HPK
    clear m0 m1 z1 hrw fj hrow
    have hcut := hd_cut HTL.out HSL.out false
    have hpar := hd_par HTL.out HSL.out false
    have hpac := hd_pac HTL.out HSL.out false
    have he3 : hdE s false = [(11, s), (12, nowB)] := rfl
    rw [← he3] at HPK
    rw [hpac] at HPK
    generalize hB : pacR t (hdE s false) = B at *
    obtain ⟨k, hk1⟩ : ∃ k, B.length - 1 = k := ⟨_, rfl⟩
    obtain ⟨n, hk⟩ : ∃ n, B.length = n := ⟨_, rfl⟩
    have hkp : (0 : Int) < (k : Int) := by have := hcut.1; omega
    have hnk : (n : Int) - 1 = (k : Int) := by have := hcut.1; omega
    have hkn : (k : Int) ≤ (n : Int) := by omega
    have hkn2 : k ≤ n := by omega
    have hBk : min k B.length = k := by omega
    rw [hk1] at hcut
    have hHB := (hd_B HSL.out.1).2
    have hHM : hedM (fldT (hdE s false)) = mz := by unfold hedM; rw [hHB]; rfl
    have HH1 := Lib.hid (fun u A c (hu : Fr No w u) (hr : Rd u A n c (u8s B)) => (HHd.out u A n c B hk hu hr))
    have HH2 := Lib.hid (fun u A c (hu : Fr No w u) (hr : Rd u A k c (u8s (B.take k))) => (HHd.out u A k c (B.take k) (by rw [List.length_take]; exact hBk) hu hr))
    rw [hpar] at HH1
    dsimp only at HH1
    rw [hHM, hHB] at HH1
    rw [hcut.2, hed_none] at HH2
    have hHM0 : hedM (fldT []) = mz := by unfold hedM; rw [hed_none]; rfl
    rw [hHM0] at HH2
    have HK := Lib.hid hk
    have HKN := Lib.hid hkn2
    clear hcut hpar hpac he3 hB hk hk1 hHM hHB hHM0 HHd hkn2 hBk
    have tokA := True.intro
    have tokB := True.intro
    go_wp2_with (first
      | (go_at_call 5; refine (HPK.out).mono ?_; rintro e w6 ⟨v, rfl, ho6, f6⟩; obtain ⟨V, vc, rfl, hr6, -⟩ := ownM_rd ho6; rw [HK.out] at hr6 ⊢; have R6 := Lib.hid hr6; have hcv : (n : Int) ≤ (vc : Int) := (by have := hr6.cap; omega); have hcm : (vc : Int) ≤ 9223372036854775807 := (by have := hr6.max; simp only [maxLen] at this; omega); have hkc : (k : Int) ≤ (vc : Int) := (by omega); have F6 := Lib.hid (HW4.out.trans f6); clear ho6 hr6 f6)
      | (go_at_call 9; clear tokA; refine (HH1.out _ _ _ F6.out R6.out).mono ?_; rintro e w7 ⟨f7, rfl⟩; have F7 := Lib.hid (F6.out.trans f7); have R7 := Lib.hid (R6.out.no f7); clear f7)
      | (clear tokB; refine wpList_store_bk rfl 38 _ _ rfl w7.heap.size rfl mz.cells mz.cells rfl (Bk.new w7 38 mz.cells.toArray) rfl (msgSizeF _) (msg_oneF _) ?_; intro w8 b8 f8 s8; have B8 := Lib.hid b8; have F78 := Lib.hid (((Fr.refl No w7).alloc (.cells mz.cells.toArray 38)).trans_just f8 (Nat.le_refl _)); clear b8 f8 s8; have F8 := Lib.hid (F7.out.trans F78.out); have R8 := Lib.hid (R7.out.no F78.out))
      | (go_at_call 9; refine (HH2.out _ _ _ F8.out (rd_head R8.out HKN.out)).mono ?_; rintro e w9 ⟨f9, rfl⟩; have F9 := Lib.hid (F8.out.trans f9); have B9 := Lib.hid (B8.out.no f9); clear f9)
      | (refine wpList_store_bk rfl 38 _ _ rfl w9.heap.size rfl mz.cells mz.cells rfl (Bk.new w9 38 mz.cells.toArray) rfl (msgSizeF _) (msg_oneF _) ?_; intro w10 b10 f10 s10; have F910 := Lib.hid (((Fr.refl No w9).alloc (.cells mz.cells.toArray 38)).trans_just f10 (Nat.le_refl _)); clear b10 f10 s10; have F10 := Lib.hid (F9.out.trans F910.out); have B10 := Lib.hid (B9.out.no F910.out))
      | (go_at_call 7; refine (AW.out _ F10.out).mono ?_; rintro e w11 ⟨rfl, f11⟩; have F11 := Lib.hid (F10.out.trans f11); have B11 := Lib.hid (B10.out.no f11); clear f11))
    go_ret
    exact ⟨rfl, F11.out⟩
  · have HPK := Lib.hid (r_PackIso Tt _ 3 3 _ W ROW3.out (by decide) HTz)
    unfold PacTo at HPK
    rw [HTb] at HPK
    have hcut := hd_cut HTL.out HSL.out true
    have hpar := hd_par HTL.out HSL.out true
    have hpac := hd_pac HTL.out HSL.out true
    have he3 : hdE s true = [(11, s), (12, nowB), (32, [52, 50])] := rfl
    rw [← he3] at HPK
    rw [hpac] at HPK
    generalize hB : pacR t (hdE s true) = B at *
    obtain ⟨k, hk1⟩ : ∃ k, B.length - 1 = k := ⟨_, rfl⟩
    obtain ⟨n, hk⟩ : ∃ n, B.length = n := ⟨_, rfl⟩
    have hkp : (0 : Int) < (k : Int) := by have := hcut.1; omega
    have hnk : (n : Int) - 1 = (k : Int) := by have := hcut.1; omega
    have hkn : (k : Int) ≤ (n : Int) := by omega
    have hkn2 : k ≤ n := by omega
    have hBk : min k B.length = k := by omega
    rw [hk1] at hcut
    have hHM : hedM (fldT (hdE s true)) = hdM q := hd_M HSL.out HSN.out
    have hHB := (hd_B HSL.out.1).1
    have HH1 := Lib.hid (fun u A c (hu : Fr No w u) (hr : Rd u A n c (u8s B)) => (HHd.out u A n c B hk hu hr))
    have HH2 := Lib.hid (fun u A c (hu : Fr No w u) (hr : Rd u A k c (u8s (B.take k))) => (HHd.out u A k c (B.take k) (by rw [List.length_take]; exact hBk) hu hr))
    rw [hpar] at HH1
    dsimp only at HH1
    rw [hHM, hHB] at HH1
    rw [hcut.2, hed_none] at HH2
    have hHM0 : hedM (fldT []) = mz := by unfold hedM; rw [hed_none]; rfl
    rw [hHM0] at HH2
    have HK := Lib.hid hk
    have HKN := Lib.hid hkn2
    clear hcut hpar hpac he3 hB hk hk1 hHM hHB hHM0 HHd hkn2 hBk
    have tokA := True.intro
    have tokB := True.intro
    go_wp2_with (first
      | (go_at_call 5; refine (HPK.out).mono ?_; rintro e w6 ⟨v, rfl, ho6, f6⟩; obtain ⟨V, vc, rfl, hr6, -⟩ := ownM_rd ho6; rw [HK.out] at hr6 ⊢; have R6 := Lib.hid hr6; have hcv : (n : Int) ≤ (vc : Int) := (by have := hr6.cap; omega); have hcm : (vc : Int) ≤ 9223372036854775807 := (by have := hr6.max; simp only [maxLen] at this; omega); have hkc : (k : Int) ≤ (vc : Int) := (by omega); have F6 := Lib.hid (HW4.out.trans f6); clear ho6 hr6 f6)
      | (go_at_call 9; clear tokA; refine (HH1.out _ _ _ F6.out R6.out).mono ?_; rintro e w7 ⟨f7, rfl⟩; have F7 := Lib.hid (F6.out.trans f7); have R7 := Lib.hid (R6.out.no f7); clear f7)
      | (clear tokB; refine wpList_store_bk rfl 38 _ _ rfl w7.heap.size rfl mz.cells (hdM q).cells rfl (Bk.new w7 38 mz.cells.toArray) rfl (msgSizeF _) (msg_oneF _) ?_; intro w8 b8 f8 s8; have B8 := Lib.hid b8; have F78 := Lib.hid (((Fr.refl No w7).alloc (.cells mz.cells.toArray 38)).trans_just f8 (Nat.le_refl _)); clear b8 f8 s8; have F8 := Lib.hid (F7.out.trans F78.out); have R8 := Lib.hid (R7.out.no F78.out))
      | (go_at_call 9; refine (HH2.out _ _ _ F8.out (rd_head R8.out HKN.out)).mono ?_; rintro e w9 ⟨f9, rfl⟩; have F9 := Lib.hid (F8.out.trans f9); have B9 := Lib.hid (B8.out.no f9); clear f9)
      | (refine wpList_store_bk rfl 38 _ _ rfl w9.heap.size rfl mz.cells mz.cells rfl (Bk.new w9 38 mz.cells.toArray) rfl (msgSizeF _) (msg_oneF _) ?_; intro w10 b10 f10 s10; have F910 := Lib.hid (((Fr.refl No w9).alloc (.cells mz.cells.toArray 38)).trans_just f10 (Nat.le_refl _)); clear b10 f10 s10; have F10 := Lib.hid (F9.out.trans F910.out); have B10 := Lib.hid (B9.out.no F910.out))
      | (go_at_call 7; refine (AW.out _ F10.out).mono ?_; rintro e w11 ⟨rfl, f11⟩; have F11 := Lib.hid (F10.out.trans f11); have B11 := Lib.hid (B10.out.no f11); clear f11)
      | (refine wpList_load_bk rfl 38 _ rfl w7.heap.size rfl (hdM q).cells _ B11.out (Tryz.underlying38) rfl (msgSizeF _) ?_)
      | (go_at_call 10; refine (sameMsg_any (m := hdM q) (tA2 := none) (eA2 := none) (oA2 := none) (tc2 := 0) (ec2 := 0) (oc2 := 0) (tg := []) (os := []) (N := fun _ => True) (M := fun _ => True) w11 rfl (RdI.nil_ _ _ _ _) (RdI.nil_ _ _ _ _) (RdI.nil_ _ _ _ _) (RdI.nil_ _ _ _ _)).mono ?_; rintro e w12 ⟨rfl, f12⟩; have F12 := Lib.hid (F11.out.trans f12); clear f12))
    go_ret
    exact ⟨rfl, F12.out⟩
end Go.Proofs.YthlgnmgjfgbffaaGreatDoor
