/- SimpleTimesBack: the walk. -/
import Derived.Test.YthnjnaiajohfiaaDoorSimFix
import Derived.Test.YthnjnaiajohfiaaDoorMarked
import Derived.Deep.CutRange
namespace Go.Proofs.YthnjnaiajohfiaaDoor
open Go.RowKit
set_option maxHeartbeats 4000000
set_option linter.unusedVariables false

def dayZ : List Int := [50, 48, 50, 54, 45, 48, 50, 45, 50, 56, 84, 50, 51, 58, 53, 57, 58, 53, 56]
theorem day_cells : dayZ.map (Value.int .u8) = u8s day1 := by rfl
theorem u8s_set (l : List UInt8) (i : Nat) (c : UInt8) : (u8s l).set i (.int .u8 (c.toNat : Int)) = u8s (l.set i c) := by
  unfold u8s
  rw [List.map_set]
theorem day_get {i : Nat} (h : i < 19) : (u8s day1)[i]? = some (.int .u8 ((day1.getD i 0).toNat : Int)) := by
  have hl : i < day1.length := h
  rw [u8s_get day1 i hl]
  congr 2
  simp [List.getD, hl]

set_option maxRecDepth 100000 in
theorem simTimesBack_walk {z : Int} {c : UInt8} (w : World) (hT : Tabs w) (hz : (Lit.int .i64 z).wf = true) :
    Calls Tryd.prog 3 #[.int .i64 z, .int .u8 (c.toNat : Int)] w fun e w' => e = .returned (.bool true) ∧ Fr No w w' := by
  obtain ⟨i, hi, ei⟩ := umod z 19 (by omega) (by omega)
  simp only [Int.cast_ofNat_Int] at ei
  have kc := fun (w : World) (C : Array Value) (n c : Nat) => Lib.run_convert_bytes_const (P := Tryd.prog) w 22 5 C n c Tryd.underlying22 Tryd.underlying5
  have tokT : True := trivial
  have i1 : (i : Int) < 19 := by omega
  go_enter Tryd.func3, Tryd.ntmps3
  go_upto_region 2 with (clear tokT; refine wpList_buildFlat rfl 22 5 19 _ rfl .u8 dayZ Tryd.underlying22 (by kernel_rfl) (by kernel_rfl) rfl (by decide) (by decide) (by rfl) ?_)
  have hb : BkF (w.alloc (.cells (dayZ.map (Value.int .u8)).toArray 5 (dayZ.length, dayZ.length + 1))) w.heap.size 5 (u8s day1) dayZ.length := by
    rw [← day_cells]; exact BkF.new w _ _ _
  have hf : Fr No w (w.alloc (.cells (dayZ.map (Value.int .u8)).toArray 5 (dayZ.length, dayZ.length + 1))) := (Fr.refl No w).alloc _
  generalize w.alloc (.cells (dayZ.map (Value.int .u8)).toArray 5 (dayZ.length, dayZ.length + 1)) = w1 at hb hf ⊢
  have c0 : w1.cell? ⟨w.heap.size, i, none⟩ = some (.int .u8 ((day1.getD i 0).toNat : Int)) := by rw [hb.cell i]; exact day_get hi
  have z0 := hb.frozen i (show i < 19 from hi)
  have h2 := hb.set_ i (.int .u8 (c.toNat : Int))
  rw [u8s_set] at h2
  have f2 : Fr No w (w1.setCell ⟨w.heap.size, i, none⟩ (.int .u8 (c.toNat : Int))) := hf.setCell (.inr (Nat.le_refl _)) _
  have hT2 := hT.fr f2
  obtain ⟨w2, hw2⟩ : ∃ w2, w1.setCell ⟨w.heap.size, i, none⟩ (.int .u8 (c.toNat : Int)) = w2 := ⟨_, rfl⟩
  rw [hw2] at h2 f2 hT2
  have hln : (u8s (day1.set i c)).length = 19 := by simp; rfl
  have rdd : Rd w2 (some ⟨w.heap.size, 0, none⟩) 19 19 (u8s (day1.set i c)) := by
    have := h2.rd (n := 19) (cap := 19) (Nat.le_refl _) (by simp [maxLen]) (by rw [hln]; exact Nat.le_refl _)
    rwa [List.take_of_length_le (by rw [hln]; exact Nat.le_refl _)] at this
  have hstr := fun (W : World) (h : Fr No w2 W) => run_string (P := Tryd.prog) (rdd.no h) 22 5 Tryd.underlying22 Tryd.underlying5 9 Tryd.underlying9
  have st0 := hstr w2 (Fr.refl No w2)
  have hSl : (bstr (day1.set i c)).data.toList = day1.set i c := bstr_data _
  generalize bstr (day1.set i c) = S at hstr st0 hSl
  have hSs : S.size ≤ maxLen := by rw [← s_size, hSl]; simp [maxLen]; decide
  have HSTR := Lib.hid hstr; have HF2 := Lib.hid f2
  clear hb hf h2 f2 hln rdd hstr
  by_cases hc : c = day1.getD i 0
  · have hD : S.data.toList = day1 := by rw [hSl, hc]; exact day1_same hi
    obtain ⟨T, hTl⟩ : ∃ T : ByteArray, T.data.toList = [50, 48, 50, 54, 48, 50, 50, 56, 50, 51, 53, 57, 53, 56] := ⟨⟨#[50, 48, 50, 54, 48, 50, 50, 56, 50, 51, 53, 57, 53, 56]⟩, rfl⟩
    have a1 := fun u => fix_timeof S T u hSs (by rw [hD, hTl]; unfold timeOfR; rw [if_pos day1_is.1]; exact day1_is.2.symm)
    rw [hD, show timeOfE day1 = 0 from by unfold timeOfE; rw [if_pos day1_is.1]] at a1
    have hq : T.toList = [50, 48, 50, 54, 48, 50, 50, 56, 50, 51, 53, 57, 53, 56] := by rw [s_list, hTl]
    have hcc : ((c.toNat : Int) == ((day1.getD i 0).toNat : Int)) = true := by rw [hc]; simp
    have A1 := Lib.hid a1
    generalize ((day1.getD i 0).toNat : Int) = B at c0 hcc
    clear a1 hD hTl hSs hSl hc hi
    go_wp2_with (first
      | (go_at_call 4; (with_reducible refine (A1.out _).mono ?_); rintro e w3 ⟨rfl, d3⟩)
      | (go_at_call 5; refine (sim_awake _ (hT2.dr d3)).mono ?_; rintro e wa ⟨rfl, fa⟩))
    go_ret
    exact ⟨rfl, (HF2.out.dr d3).trans fa⟩
  · have hcc : ((c.toNat : Int) == ((day1.getD i 0).toNat : Int)) = false := by
      rw [beq_eq_false_iff_ne]
      intro h
      exact hc (UInt8.toNat_inj.1 (by omega))
    cases ho : timeOfB (day1.set i c) with
    | false =>
      obtain ⟨T, hTl⟩ : ∃ T : ByteArray, T.data.toList = [] := ⟨⟨#[]⟩, rfl⟩
      have a1 := fun u => fix_timeof S T u hSs (by rw [hSl, hTl]; unfold timeOfR; rw [ho]; rfl)
      rw [hSl, show timeOfE (day1.set i c) = 14 from by unfold timeOfE; rw [ho]; rfl] at a1
      have hq : T.toList = [] := by rw [s_list, hTl]
      have A1 := Lib.hid a1
      generalize ((day1.getD i 0).toNat : Int) = B at c0 hcc
      clear a1 hTl hSs hSl hc hi ho
      go_wp2_with (first
        | (go_at_call 4; (with_reducible refine (A1.out _).mono ?_); rintro e w3 ⟨rfl, d3⟩)
        | (go_at_call 5; refine (sim_awake _ (hT2.dr d3)).mono ?_; rintro e wa ⟨rfl, fa⟩))
      go_ret
      exact ⟨rfl, (HF2.out.dr d3).trans fa⟩
    | true =>
      obtain ⟨o1, o2⟩ := timeOf_is ho
      have hdig := isD_true.1 (day1_other hi c hc ho)
      obtain ⟨T, hTl⟩ : ∃ T : ByteArray, T.data.toList = hidL (day1.set i c) := ⟨⟨(hidL (day1.set i c)).toArray⟩, by simp⟩
      have a1 := fun u => fix_timeof S T u hSs (by rw [hSl, hTl]; unfold timeOfR; rw [if_pos ho])
      rw [hSl, show timeOfE (day1.set i c) = 0 from by unfold timeOfE; rw [if_pos ho]] at a1
      have a2 := fun u => fix_timetext T S u (by rw [← s_size, hTl, (timeB_len o1).1]; decide) (by rw [hSl, hTl]; unfold timeTextR; rw [if_pos o1, o2])
      rw [hTl, show timeTextE (hidL (day1.set i c)) = 0 from by unfold timeTextE; rw [if_pos o1]] at a2
      have hd1 : (48 : Int) ≤ (c.toNat : Int) := by omega
      have hd2 : (c.toNat : Int) ≤ 57 := by omega
      have A1 := Lib.hid a1; have A2 := Lib.hid a2
      generalize ((day1.getD i 0).toNat : Int) = B at c0 hcc
      clear a1 a2 hTl hSs hSl hc hi ho o1 o2 hdig
      go_wp2_with (first
        | (go_at_call 4; (with_reducible refine (A1.out _).mono ?_); rintro e w3 ⟨rfl, d3⟩)
        | (go_at_call 6; (with_reducible refine (A2.out _).mono ?_); rintro e w4 ⟨rfl, d4⟩)
        | (go_at_call 5; refine (sim_awake _ ((hT2.dr d3).dr d4)).mono ?_; rintro e wa ⟨rfl, fa⟩; (have st5 := HSTR.out _ (((d3.trans d4).fr).trans fa))))
      go_ret
      exact ⟨rfl, ((HF2.out.dr d3).dr d4).trans fa⟩
end Go.Proofs.YthnjnaiajohfiaaDoor
