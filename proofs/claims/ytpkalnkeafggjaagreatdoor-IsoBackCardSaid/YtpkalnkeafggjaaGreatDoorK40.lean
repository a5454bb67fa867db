/- The texts IsoHelp, joined. -/
import Derived.Test.YtpkalnkeafggjaaGreatDoorK04
import Derived.Test.YtpkalnkeafggjaaGreatDoorK39
/- Messages of data elements: alike ones held against each other; one that comes in. -/
namespace Go.Proofs.YtpkalnkeafggjaaGreatDoor
open Go.RowKit Go.WideShapes Go.ChangeShapes
set_option maxHeartbeats 1000000
set_option linter.unusedVariables false
set_option maxRecDepth 20000

theorem sameIso_any (S : ByteArray) (A B : Option Addr) (n c d : Nat) (l : List (Int × List UInt8)) (N M : Nat → Prop) (w : World) (ha : RdI 2 TagI w N A n c l) (hb : RdI 2 TagI w M B n d l) (hz : S.size ≤ 9223372036854775807) :
    Calls Tryz.prog 12 #[.agg #[.string S, .slice A n c], .agg #[.string S, .slice B n d]] w fun e w' => e = .returned (.bool true) ∧ Fr No w w' := by
  have hq : (S.toList == S.toList) = true := beq_self_eq_true _
  have HS := Lib.hid (fun u (hf : Fr No w u) => sameE_any A B n c d l N M u (ha.no tag_ok hf) (hb.no tag_ok hf))
  have HF := Lib.hid ((((Fr.refl No w).alloc (.cells #[.string S, .slice A n c] 25))).alloc (.cells #[.string S, .slice B n d] 25))
  clear ha hb
  go_enter Tryz.func12, Tryz.ntmps12
  go_wp2_with (go_at_call 31; refine (HS.out _ HF.out).mono ?_; rintro e w1 ⟨rfl, f1⟩; have F1 := Lib.hid (HF.out.trans f1); clear f1)
  go_ret
  exact ⟨rfl, F1.out⟩
section
variable {H : Type} {enc : TypeId × Value → H} {W : World}
theorem iso_types : Tryz.prog.cellTypes Tryz.prog.depth 25 = some [9, 23] := by kernel_rfl
theorem iso_cells : Tryz.prog.cellsOf 25 = 2 := by kernel_rfl
theorem iso_cstr : Tryz.prog.cellsOf 9 = 1 := by kernel_rfl
theorem iso_cels : Tryz.prog.cellsOf 23 = 1 := by kernel_rfl
set_option maxRecDepth 20000 in
theorem elm_of {m : Nat} {zs : List Value} {y : DataW H × List MemPlace} (h : DataW.trod enc Tryz.prog W 0 (fun _ => true) true m 40 zs = some y) : ∃ a, TagI W (fun i => i < W.heap.size) zs a := by
  obtain ⟨x0, x1, n, rfl, hl, f0, f1⟩ := trod_struct2 Tryz.underlying40 h
  rw [show Tryz.prog.cellsOf 40 = 2 from by kernel_rfl] at hl
  match zs, hl with
  | [z0, z1], _ =>
    obtain ⟨p, e0, e0', hw⟩ := DataW.trod_int Tryz.underlying3 f0
    obtain ⟨A, k, c, l, e1, hr⟩ := tg_u8s Tryz.underlying22 Tryz.underlying5 tg_cu8 f1
    simp only [tg_cint, tg_cbs, List.drop_zero, List.drop_succ_cons, List.take_succ_cons, List.take_zero, List.cons.injEq, and_true] at e0 e1
    subst e0 e1
    refine ⟨(p, l), A, k, c, rfl, hr, fun ad e h0 => hr.lt h0 ad e, ?_, ?_⟩
    · exact hw
    · have h1 := hr.cap
      have h2 := hr.max
      simp only [maxLen] at h2
      omega
set_option maxRecDepth 20000 in
/-- a message that came in -/
theorem open_iso {v : Value} {d : DataW H} {p : List MemPlace} {b0 : Nat} (hv : Value.okWide Tryz.prog W .any b0 25 v) (h : DataW.Trod enc Tryz.prog W 0 (fun _ => true) true 25 v d p) :
    ∃ (S : ByteArray) (A : Option Addr) (n c : Nat) (es : List (Int × List UInt8)), v = .agg #[.string S, .slice A n c] ∧ RdI 2 TagI W (fun i => i < W.heap.size) A n c es ∧ S.size ≤ maxLen := by
  unfold Value.okWide at hv
  rw [Tryz.underlying25] at hv
  obtain ⟨cs, rfl, hsz, ts, hts, _, hall⟩ := hv
  obtain rfl := Option.some.inj (hts.symm.trans iso_types)
  obtain ⟨c0, c1, rfl⟩ := elm_array (hsz.trans iso_cells)
  obtain ⟨u0, e0, q0⟩ := hall 0 c0 rfl
  cases e0
  obtain ⟨x0, rfl⟩ := ch_string Tryz.underlying9 q0
  obtain ⟨u1, e1, q1⟩ := hall 1 c1 rfl
  cases e1
  obtain ⟨A1, n1, k1, rfl⟩ := elm_slice Tryz.underlying23 q1
  obtain ⟨fuel, hf⟩ := h
  have hcs : (Value.agg #[Value.string x0, Value.slice A1 n1 k1]).cells.toList = [Value.string x0, Value.slice A1 n1 k1] := rfl
  rw [hcs] at hf
  obtain ⟨y0, y1, n, hyy, hl, f0, f1⟩ := trod_struct2 Tryz.underlying25 hf
  simp only [iso_cstr, iso_cels, List.drop_zero, List.drop_succ_cons, List.take_succ_cons, List.take_zero] at f0 f1
  obtain ⟨s, e0, hs⟩ := DataW.trod_string Tryz.underlying9 f0
  obtain ⟨A, k, c, ls, e1, hr⟩ := open_things (I := TagI) (s := 2) (N := fun i => i < W.heap.size) Tryz.underlying23 (by kernel_rfl) (by omega) (fun _ hi => hi) (fun _ _ _ => elm_of) f1
  simp only [List.cons.injEq, and_true, Value.string.injEq, Value.slice.injEq] at e0 e1
  obtain ⟨rfl, rfl, rfl⟩ := e1
  subst e0
  exact ⟨_, _, _, _, ls, rfl, hr, by have := hs; simp_all⟩
end
end Go.Proofs.YtpkalnkeafggjaaGreatDoor
