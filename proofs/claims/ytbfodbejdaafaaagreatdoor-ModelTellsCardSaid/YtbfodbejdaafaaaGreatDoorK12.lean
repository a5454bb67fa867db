/- The texts SimChk, joined. -/
import Derived.Test.YtbfodbejdaafaaaGreatDoorK05
import Derived.Test.YtbfodbejdaafaaaGreatDoorK07
import Derived.Test.YtbfodbejdaafaaaGreatDoorK11
import Derived.Deep.MidRow
/- Package simple: what a type lets: contracts of its calls. -/
namespace Go.Proofs.YtbfodbejdaafaaaGreatDoor
open Go.RowKit
set_option maxHeartbeats 1000000
set_option linter.unusedVariables false

section
variable {nm : ByteArray} {mn mx ty low top : Int}
theorem s_number (s : ByteArray) (w : World) (hS6 : s.size ≤ 140737488355328) (hT : Tabs w := by repeat' first | with_reducible assumption | with_reducible apply Tabs.drew | with_reducible apply Tabs.drewN | with_reducible apply Tabs.alloc | refine Tabs.fr ?_ (by with_reducible assumption)) :
    Calls Tryz.prog 97 #[.agg #[.string nm, .int .i64 mn, .int .i64 mx, .int .i64 ty, .int .i64 low, .int .i64 top], .string s] w fun e w' => e = .returned (.bool (rightB s.data.toList low top)) ∧ Fr No w w' := by
  have hb0 := Bk.new w 119 #[.string nm, .int .i64 mn, .int .i64 mx, .int .i64 ty, .int .i64 low, .int .i64 top]
  have b3 := hb0.cell 3
  have b4 := hb0.cell 4
  have b5 := hb0.cell 5
  have hfa : Fr No w (w.alloc (.cells #[.string nm, .int .i64 mn, .int .i64 mx, .int .i64 ty, .int .i64 low, .int .i64 top] 119)) := (Fr.refl No w).alloc _
  have HFA := Lib.hid hfa
  clear hfa
  have hsm : s.size ≤ maxLen := by unfold maxLen; omega
  have hc := fun u (hT : Tabs u) => right_any s low top u hsm
  generalize rightB s.data.toList low top = R at hc ⊢
  have HC := Lib.hid hc
  clear hc hb0
  go_enter Tryz.func97, Tryz.ntmps97
  go_wp2_with (go_at_call 112; refine (HC.out _ (by repeat' first | with_reducible assumption | with_reducible apply Tabs.drew | with_reducible apply Tabs.drewN | with_reducible apply Tabs.alloc | refine Tabs.fr ?_ (by with_reducible assumption))).mono ?_; rintro e w' ⟨rfl, rfl⟩)
  go_ret
  exact ⟨rfl, HFA.out⟩
theorem s_text (s : ByteArray) (w : World) (hS6 : s.size ≤ 140737488355328) (hT : Tabs w := by repeat' first | with_reducible assumption | with_reducible apply Tabs.drew | with_reducible apply Tabs.drewN | with_reducible apply Tabs.alloc | refine Tabs.fr ?_ (by with_reducible assumption)) :
    Calls Tryz.prog 98 #[.agg #[.string nm, .int .i64 mn, .int .i64 mx, .int .i64 ty, .int .i64 low, .int .i64 top], .string s] w fun e w' => e = .returned (.bool (plainB s.data.toList low top)) ∧ Fr No w w' := by
  have hb0 := Bk.new w 119 #[.string nm, .int .i64 mn, .int .i64 mx, .int .i64 ty, .int .i64 low, .int .i64 top]
  have b3 := hb0.cell 3
  have b4 := hb0.cell 4
  have b5 := hb0.cell 5
  have hfa : Fr No w (w.alloc (.cells #[.string nm, .int .i64 mn, .int .i64 mx, .int .i64 ty, .int .i64 low, .int .i64 top] 119)) := (Fr.refl No w).alloc _
  have HFA := Lib.hid hfa
  clear hfa
  have hsm : s.size ≤ maxLen := by unfold maxLen; omega
  have hc := fun u (hT : Tabs u) => text_plain_any s low top u hS6
  generalize plainB s.data.toList low top = R at hc ⊢
  have HC := Lib.hid hc
  clear hc hb0
  go_enter Tryz.func98, Tryz.ntmps98
  go_wp2_with (go_at_call 113; refine (HC.out _ (by repeat' first | with_reducible assumption | with_reducible apply Tabs.drew | with_reducible apply Tabs.drewN | with_reducible apply Tabs.alloc | refine Tabs.fr ?_ (by with_reducible assumption))).mono ?_; rintro e w' ⟨rfl, hf⟩)
  go_ret
  exact ⟨rfl, HFA.out.trans hf⟩
theorem s_alnum (s : ByteArray) (w : World) (hS6 : s.size ≤ 140737488355328) (hT : Tabs w := by repeat' first | with_reducible assumption | with_reducible apply Tabs.drew | with_reducible apply Tabs.drewN | with_reducible apply Tabs.alloc | refine Tabs.fr ?_ (by with_reducible assumption)) :
    Calls Tryz.prog 102 #[.agg #[.string nm, .int .i64 mn, .int .i64 mx, .int .i64 ty, .int .i64 low, .int .i64 top], .string s] w fun e w' => e = .returned (.bool (alnB s.data.toList low top)) ∧ Fr No w w' := by
  have hb0 := Bk.new w 119 #[.string nm, .int .i64 mn, .int .i64 mx, .int .i64 ty, .int .i64 low, .int .i64 top]
  have b3 := hb0.cell 3
  have b4 := hb0.cell 4
  have b5 := hb0.cell 5
  have hfa : Fr No w (w.alloc (.cells #[.string nm, .int .i64 mn, .int .i64 mx, .int .i64 ty, .int .i64 low, .int .i64 top] 119)) := (Fr.refl No w).alloc _
  have HFA := Lib.hid hfa
  clear hfa
  have hsm : s.size ≤ maxLen := by unfold maxLen; omega
  have hc := fun u (hT : Tabs u) => text_aln_any s low top u hS6
  generalize alnB s.data.toList low top = R at hc ⊢
  have HC := Lib.hid hc
  clear hc hb0
  go_enter Tryz.func102, Tryz.ntmps102
  go_wp2_with (go_at_call 116; refine (HC.out _ (by repeat' first | with_reducible assumption | with_reducible apply Tabs.drew | with_reducible apply Tabs.drewN | with_reducible apply Tabs.alloc | refine Tabs.fr ?_ (by with_reducible assumption))).mono ?_; rintro e w' ⟨rfl, hf⟩)
  go_ret
  exact ⟨rfl, HFA.out.trans hf⟩
theorem s_time (s : ByteArray) (w : World) (hS6 : s.size ≤ 140737488355328) (hT : Tabs w := by repeat' first | with_reducible assumption | with_reducible apply Tabs.drew | with_reducible apply Tabs.drewN | with_reducible apply Tabs.alloc | refine Tabs.fr ?_ (by with_reducible assumption)) :
    Calls Tryz.prog 100 #[.agg #[.string nm, .int .i64 mn, .int .i64 mx, .int .i64 ty, .int .i64 low, .int .i64 top], .string s] w fun e w' => e = .returned (.bool (decide (timeOfE s.data.toList = 0))) ∧ Fr No w w' := by
  have hb0 := Bk.new w 119 #[.string nm, .int .i64 mn, .int .i64 mx, .int .i64 ty, .int .i64 low, .int .i64 top]
  have b3 := hb0.cell 3
  have b4 := hb0.cell 4
  have b5 := hb0.cell 5
  have hfa : Fr No w (w.alloc (.cells #[.string nm, .int .i64 mn, .int .i64 mx, .int .i64 ty, .int .i64 low, .int .i64 top] 119)) := (Fr.refl No w).alloc _
  have HFA := Lib.hid hfa
  clear hfa
  have hsm : s.size ≤ maxLen := by unfold maxLen; omega
  have hc := fun u (hT : Tabs u) => s_timeof_any s u hsm
  generalize timeOfE s.data.toList = R at hc ⊢
  have HC := Lib.hid hc
  clear hc hb0
  go_enter Tryz.func100, Tryz.ntmps100
  go_wp2_with (go_at_call 114; refine (HC.out _ (by repeat' first | with_reducible assumption | with_reducible apply Tabs.drew | with_reducible apply Tabs.drewN | with_reducible apply Tabs.alloc | refine Tabs.fr ?_ (by with_reducible assumption))).mono ?_; rintro e w' ⟨T, rfl, hT3, hd⟩; clear hT3)
  go_ret
  exact ⟨ret_bool (by rw [Bool.eq_iff_iff]; simp), HFA.out.dr hd⟩
theorem s_amount (s : ByteArray) (w : World) (hS6 : s.size ≤ 140737488355328) (hT : Tabs w := by repeat' first | with_reducible assumption | with_reducible apply Tabs.drew | with_reducible apply Tabs.drewN | with_reducible apply Tabs.alloc | refine Tabs.fr ?_ (by with_reducible assumption)) :
    Calls Tryz.prog 101 #[.agg #[.string nm, .int .i64 mn, .int .i64 mx, .int .i64 ty, .int .i64 low, .int .i64 top], .string s] w fun e w' => e = .returned (.bool (decide (amtOfE s.data.toList = 0))) ∧ Fr No w w' := by
  have hb0 := Bk.new w 119 #[.string nm, .int .i64 mn, .int .i64 mx, .int .i64 ty, .int .i64 low, .int .i64 top]
  have b3 := hb0.cell 3
  have b4 := hb0.cell 4
  have b5 := hb0.cell 5
  have hfa : Fr No w (w.alloc (.cells #[.string nm, .int .i64 mn, .int .i64 mx, .int .i64 ty, .int .i64 low, .int .i64 top] 119)) := (Fr.refl No w).alloc _
  have HFA := Lib.hid hfa
  clear hfa
  have hsm : s.size ≤ maxLen := by unfold maxLen; omega
  have hc := fun u (hT : Tabs u) => s_amtof_any s u hS6
  generalize amtOfE s.data.toList = R at hc ⊢
  have HC := Lib.hid hc
  clear hc hb0
  go_enter Tryz.func101, Tryz.ntmps101
  go_wp2_with (go_at_call 115; refine (HC.out _ (by repeat' first | with_reducible assumption | with_reducible apply Tabs.drew | with_reducible apply Tabs.drewN | with_reducible apply Tabs.alloc | refine Tabs.fr ?_ (by with_reducible assumption))).mono ?_; rintro e w' ⟨rfl, hf⟩)
  go_ret
  exact ⟨ret_bool (by rw [Bool.eq_iff_iff]; simp), HFA.out.trans hf⟩
theorem s_hex (s : ByteArray) (w : World) (hS6 : s.size ≤ 140737488355328) (hT : Tabs w := by repeat' first | with_reducible assumption | with_reducible apply Tabs.drew | with_reducible apply Tabs.drewN | with_reducible apply Tabs.alloc | refine Tabs.fr ?_ (by with_reducible assumption)) :
    Calls Tryz.prog 103 #[.agg #[.string nm, .int .i64 mn, .int .i64 mx, .int .i64 ty, .int .i64 low, .int .i64 top], .string s] w fun e w' => e = .returned (.bool (decide (unhexE s.data.toList = 0) && (decide (low ≤ (s.data.toList.length : Int)) && decide ((s.data.toList.length : Int) ≤ top)))) ∧ Fr No w w' := by
  have hb0 := Bk.new w 119 #[.string nm, .int .i64 mn, .int .i64 mx, .int .i64 ty, .int .i64 low, .int .i64 top]
  have b3 := hb0.cell 3
  have b4 := hb0.cell 4
  have b5 := hb0.cell 5
  have hfa : Fr No w (w.alloc (.cells #[.string nm, .int .i64 mn, .int .i64 mx, .int .i64 ty, .int .i64 low, .int .i64 top] 119)) := (Fr.refl No w).alloc _
  have HFA := Lib.hid hfa
  clear hfa
  have hsm : s.size ≤ maxLen := by unfold maxLen; omega
  have hc := fun u => unhex_any s u (by omega)
  rw [s_size]
  have hE : unhexE s.data.toList = 0 ∨ unhexE s.data.toList = 5 := by unfold unhexE; split <;> simp
  generalize unhexE s.data.toList = R at hc hE ⊢
  have HC := Lib.hid hc
  clear hc hb0
  have b4 : (w.alloc (.cells #[.string nm, .int .i64 mn, .int .i64 mx, .int .i64 ty, .int .i64 low, .int .i64 top] 119)).cell? ⟨w.heap.size, 4, none⟩ = some (.int .i64 low) := b4
  have b5 : (w.alloc (.cells #[.string nm, .int .i64 mn, .int .i64 mx, .int .i64 ty, .int .i64 low, .int .i64 top] 119)).cell? ⟨w.heap.size, 5, none⟩ = some (.int .i64 top) := b5
  rcases hE with rfl | rfl
  · go_enter Tryz.func103, Tryz.ntmps103
    go_wp2_with (go_at_call 117; refine (HC.out _).mono ?_; rintro e w' ⟨v, rfl, hO, hf⟩; (have c4 := hf.cell b4 (fun x => x)); (have c5 := hf.cell b5 (fun x => x)))
    all_goals
      go_ret
      refine ⟨ret_bool ?_, HFA.out.trans hf⟩
      rw [Bool.eq_iff_iff]; simp; try omega
  · go_enter Tryz.func103, Tryz.ntmps103
    go_wp2_with (go_at_call 117; refine (HC.out _).mono ?_; rintro e w' ⟨v, rfl, hO, hf⟩)
    all_goals
      go_ret
      refine ⟨ret_bool ?_, HFA.out.trans hf⟩
      simp
theorem s_code (s : ByteArray) (w : World) (hS6 : s.size ≤ 140737488355328) (hT : Tabs w := by repeat' first | with_reducible assumption | with_reducible apply Tabs.drew | with_reducible apply Tabs.drewN | with_reducible apply Tabs.alloc | refine Tabs.fr ?_ (by with_reducible assumption)) :
    Calls Tryz.prog 99 #[.agg #[.string nm, .int .i64 mn, .int .i64 mx, .int .i64 ty, .int .i64 low, .int .i64 top], .string s] w fun e w' => e = .returned (.bool (codeB s.data.toList)) ∧ Fr No w w' := by
  have hb0 := Bk.new w 119 #[.string nm, .int .i64 mn, .int .i64 mx, .int .i64 ty, .int .i64 low, .int .i64 top]
  have b3 := hb0.cell 3
  have b4 := hb0.cell 4
  have b5 := hb0.cell 5
  have hfa : Fr No w (w.alloc (.cells #[.string nm, .int .i64 mn, .int .i64 mx, .int .i64 ty, .int .i64 low, .int .i64 top] 119)) := (Fr.refl No w).alloc _
  have HFA := Lib.hid hfa
  clear hfa
  have hsm : s.size ≤ maxLen := by unfold maxLen; omega
  have htr := fun u => trim_caps s u hS6
  unfold codeB
  rw [s_size]
  generalize s.data.toList.all capC = R at htr ⊢
  have HC := Lib.hid htr
  clear htr hb0
  go_enter Tryz.func99, Tryz.ntmps99
  go_wp2_with (go_at_call 67; refine (HC.out _).mono ?_; rintro e w' ⟨S, rfl, hq, hf⟩; cases R)
  all_goals
    go_ret
    refine ⟨ret_bool ?_, by first | exact HFA.out.trans hf | exact HFA.out⟩
    rw [Bool.eq_iff_iff]; simp; try omega
theorem s_none (s : ByteArray) (w : World) (hS6 : s.size ≤ 140737488355328) (hT : Tabs w := by repeat' first | with_reducible assumption | with_reducible apply Tabs.drew | with_reducible apply Tabs.drewN | with_reducible apply Tabs.alloc | refine Tabs.fr ?_ (by with_reducible assumption)) :
    Calls Tryz.prog 104 #[.agg #[.string nm, .int .i64 mn, .int .i64 mx, .int .i64 ty, .int .i64 low, .int .i64 top], .string s] w fun e w' => e = .returned (.bool (false)) ∧ Fr No w w' := by
  have hb0 := Bk.new w 119 #[.string nm, .int .i64 mn, .int .i64 mx, .int .i64 ty, .int .i64 low, .int .i64 top]
  have b3 := hb0.cell 3
  have b4 := hb0.cell 4
  have b5 := hb0.cell 5
  have hfa : Fr No w (w.alloc (.cells #[.string nm, .int .i64 mn, .int .i64 mx, .int .i64 ty, .int .i64 low, .int .i64 top] 119)) := (Fr.refl No w).alloc _
  have HFA := Lib.hid hfa
  clear hfa
  have hsm : s.size ≤ maxLen := by unfold maxLen; omega
  clear hb0
  go_enter Tryz.func104, Tryz.ntmps104
  go_wp2
  go_ret
  exact ⟨rfl, HFA.out⟩

/-- the method of a type -/
def chkF (ty : Int) : FuncId := if ty == 1 then 97 else if ty == 2 then 98 else if ty == 3 then 99 else if ty == 4 then 100 else if ty == 5 then 101 else if ty == 6 then 102 else if ty == 7 then 103 else 104
theorem s_which (w : World) : Calls Tryz.prog 81 #[.agg #[.string nm, .int .i64 mn, .int .i64 mx, .int .i64 ty, .int .i64 low, .int .i64 top]] w fun e w' => e = .returned (.func (.func (chkF ty)) #[.agg #[.string nm, .int .i64 mn, .int .i64 mx, .int .i64 ty, .int .i64 low, .int .i64 top]] #[]) ∧ Fr No w w' := by
  have hb0 := Bk.new w 119 #[.string nm, .int .i64 mn, .int .i64 mx, .int .i64 ty, .int .i64 low, .int .i64 top]
  have b3 := hb0.cell 3
  have b4 := hb0.cell 4
  have b5 := hb0.cell 5
  have hfa : Fr No w (w.alloc (.cells #[.string nm, .int .i64 mn, .int .i64 mx, .int .i64 ty, .int .i64 low, .int .i64 top] 119)) := (Fr.refl No w).alloc _
  have HFA := Lib.hid hfa
  clear hfa
  have b0 := hb0.cell 0
  have b1 := hb0.cell 1
  have b2 := hb0.cell 2
  clear hb0
  generalize hF : chkF ty = F
  unfold chkF at hF
  have HF := Lib.hid hF
  clear hF
  go_enter Tryz.func81, Tryz.ntmps81
  go_wp2
  all_goals
    go_ret
    refine ⟨?_, HFA.out⟩
    have hF := HF.out
    clear b0 b1 b2 b3 b4 b5
    simp only [*, Bool.false_eq_true, if_true, if_false] at hF
    subst hF
    rfl
/-- what a type lets -/
def chkB (ty low top : Int) (l : List UInt8) : Bool := if ty == 1 then rightB l low top else if ty == 2 then plainB l low top else if ty == 3 then codeB l else if ty == 4 then decide (timeOfE l = 0) else if ty == 5 then decide (amtOfE l = 0) else if ty == 6 then alnB l low top
  else if ty == 7 then (decide (unhexE l = 0) && (decide (low ≤ (l.length : Int)) && decide ((l.length : Int) ≤ top))) else false
def chkE (ty low top : Int) (l : List UInt8) : Int := if chkB ty low top l then 0 else 14
theorem s_meth (s : ByteArray) (w : World) (hS6 : s.size ≤ 140737488355328) (hT : Tabs w) :
    Calls Tryz.prog (chkF ty) #[.agg #[.string nm, .int .i64 mn, .int .i64 mx, .int .i64 ty, .int .i64 low, .int .i64 top], .string s] w fun e w' => e = .returned (.bool (chkB ty low top s.data.toList)) ∧ Fr No w w' := by
  unfold chkF chkB
  split
  · exact s_number s w hS6 hT
  split
  · exact s_text s w hS6 hT
  split
  · exact s_code s w hS6 hT
  split
  · exact s_time s w hS6 hT
  split
  · exact s_amount s w hS6 hT
  split
  · exact s_alnum s w hS6 hT
  split
  · exact s_hex s w hS6 hT
  exact s_none s w hS6 hT
theorem chkF_enters : ∀ args w, (callFunc (chkF ty) args).run Tryz.prog w = .ok (.enter (chkF ty) args) w := by
  intro args w
  unfold chkF
  repeat' split
  all_goals kernel_rfl
theorem s_check_any (s : ByteArray) (w : World) (hS6 : s.size ≤ 140737488355328) (hT : Tabs w := by repeat' first | with_reducible assumption | with_reducible apply Tabs.drew | with_reducible apply Tabs.drewN | with_reducible apply Tabs.alloc | refine Tabs.fr ?_ (by with_reducible assumption)) :
    Calls Tryz.prog 65 #[.agg #[.string nm, .int .i64 mn, .int .i64 mx, .int .i64 ty, .int .i64 low, .int .i64 top], .string s] w fun e w' => e = .returned (.int .i64 (chkE ty low top s.data.toList)) ∧ Fr No w w' := by
  have hb0 := Bk.new w 32 #[.string nm, .int .i64 mn, .int .i64 mx, .int .i64 ty, .int .i64 low, .int .i64 top]
  have b3 := hb0.cell 3
  have b4 := hb0.cell 4
  have b5 := hb0.cell 5
  have hfa : Fr No w (w.alloc (.cells #[.string nm, .int .i64 mn, .int .i64 mx, .int .i64 ty, .int .i64 low, .int .i64 top] 32)) := (Fr.refl No w).alloc _
  have HFA := Lib.hid hfa
  clear hfa
  have b0 := hb0.cell 0
  have b1 := hb0.cell 1
  have b2 := hb0.cell 2
  clear hb0
  have hwh := fun u => s_which (nm := nm) (mn := mn) (mx := mx) (ty := ty) (low := low) (top := top) u
  have hen := chkF_enters (ty := ty)
  have hme := fun u (h : Tabs u) => s_meth (nm := nm) (mn := mn) (mx := mx) (ty := ty) (low := low) (top := top) s u hS6 h
  unfold chkE
  generalize chkF ty = F at hwh hen hme
  generalize chkB ty low top s.data.toList = R at hme ⊢
  have HW := Lib.hid hwh; have HM := Lib.hid hme
  clear hwh hme
  go_enter Tryz.func65, Tryz.ntmps65
  go_wp2_with (first
    | (go_at_call 81; refine (HW.out _).mono ?_; rintro e w1 ⟨rfl, hf1⟩)
    | (refine (HM.out _ (hT.fr (HFA.out.trans hf1))).mono ?_; rintro e w2 ⟨rfl, hf2⟩; cases R))
  all_goals
    go_ret
    exact ⟨rfl, (HFA.out.trans hf1).trans hf2⟩
end
end Go.Proofs.YtbfodbejdaafaaaGreatDoor
