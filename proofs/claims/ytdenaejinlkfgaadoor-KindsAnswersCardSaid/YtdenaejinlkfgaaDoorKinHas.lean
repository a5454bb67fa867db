/- Package kinds: what a message has: contracts. -/
import Derived.Test.YtdenaejinlkfgaaDoorKinProg
import Derived.Test.YtdenaejinlkfgaaDoorQuietBelow
namespace Go.Proofs.YtdenaejinlkfgaaDoor
open Go.RowKit
set_option maxHeartbeats 400000
set_option linter.unusedVariables false

theorem beq_nil_ie (l : List UInt8) : (l == []) = l.isEmpty := by cases l <;> rfl
theorem kmsgSize (m : MsgC) : (Tryd.prog.info? 59).map (·.size) = some m.cells.length := by kernel_rfl

set_option maxRecDepth 20000 in
theorem k_pan (m : MsgC) (w : World) : Calls Tryd.prog 61 #[m.val] w fun e w' => e = .returned (.bool (!(m.pan.toList == []))) ∧ Fr No w w' := by
  have hfa := (Fr.refl No w).alloc (.cells m.cells.toArray 59)
  unfold MsgC.cells at hfa
  have HFA := Lib.hid hfa
  clear hfa
  unfold MsgC.val
  go_enter Tryd.func61, Tryd.ntmps61
  go_wp2
  go_ret
  exact ⟨ret_bool (by rw [beq_nil_ie]), HFA.out⟩
set_option maxRecDepth 20000 in
theorem k_currency (m : MsgC) (w : World) : Calls Tryd.prog 50 #[m.val] w fun e w' => e = .returned (.bool (!(m.cur.toList == []))) ∧ Fr No w w' := by
  have hfa := (Fr.refl No w).alloc (.cells m.cells.toArray 59)
  unfold MsgC.cells at hfa
  have HFA := Lib.hid hfa
  clear hfa
  unfold MsgC.val
  go_enter Tryd.func50, Tryd.ntmps50
  go_wp2
  go_ret
  exact ⟨ret_bool (by rw [beq_nil_ie]), HFA.out⟩
set_option maxRecDepth 20000 in
theorem k_rrn (m : MsgC) (w : World) : Calls Tryd.prog 62 #[m.val] w fun e w' => e = .returned (.bool (!(m.rrn.toList == []))) ∧ Fr No w w' := by
  have hfa := (Fr.refl No w).alloc (.cells m.cells.toArray 59)
  unfold MsgC.cells at hfa
  have HFA := Lib.hid hfa
  clear hfa
  unfold MsgC.val
  go_enter Tryd.func62, Tryd.ntmps62
  go_wp2
  go_ret
  exact ⟨ret_bool (by rw [beq_nil_ie]), HFA.out⟩
set_option maxRecDepth 20000 in
theorem k_merchant (m : MsgC) (w : World) : Calls Tryd.prog 63 #[m.val] w fun e w' => e = .returned (.bool (!(m.mer.toList == []))) ∧ Fr No w w' := by
  have hfa := (Fr.refl No w).alloc (.cells m.cells.toArray 59)
  unfold MsgC.cells at hfa
  have HFA := Lib.hid hfa
  clear hfa
  unfold MsgC.val
  go_enter Tryd.func63, Tryd.ntmps63
  go_wp2
  go_ret
  exact ⟨ret_bool (by rw [beq_nil_ie]), HFA.out⟩
set_option maxRecDepth 20000 in
theorem k_terminal (m : MsgC) (w : World) : Calls Tryd.prog 64 #[m.val] w fun e w' => e = .returned (.bool (!(m.ter.toList == []))) ∧ Fr No w w' := by
  have hfa := (Fr.refl No w).alloc (.cells m.cells.toArray 59)
  unfold MsgC.cells at hfa
  have HFA := Lib.hid hfa
  clear hfa
  unfold MsgC.val
  go_enter Tryd.func64, Tryd.ntmps64
  go_wp2
  go_ret
  exact ⟨ret_bool (by rw [beq_nil_ie]), HFA.out⟩
set_option maxRecDepth 20000 in
theorem k_approval (m : MsgC) (w : World) : Calls Tryd.prog 65 #[m.val] w fun e w' => e = .returned (.bool (!(m.app.toList == []))) ∧ Fr No w w' := by
  have hfa := (Fr.refl No w).alloc (.cells m.cells.toArray 59)
  unfold MsgC.cells at hfa
  have HFA := Lib.hid hfa
  clear hfa
  unfold MsgC.val
  go_enter Tryd.func65, Tryd.ntmps65
  go_wp2
  go_ret
  exact ⟨ret_bool (by rw [beq_nil_ie]), HFA.out⟩
set_option maxRecDepth 20000 in
theorem k_entry (m : MsgC) (w : World) : Calls Tryd.prog 66 #[m.val] w fun e w' => e = .returned (.bool (m.entry != 0)) ∧ Fr No w w' := by
  have hfa := (Fr.refl No w).alloc (.cells m.cells.toArray 59)
  unfold MsgC.cells at hfa
  have HFA := Lib.hid hfa
  clear hfa
  unfold MsgC.val
  go_enter Tryd.func66, Tryd.ntmps66
  go_wp2
  go_ret
  exact ⟨rfl, HFA.out⟩
set_option maxRecDepth 20000 in
theorem k_action (m : MsgC) (w : World) : Calls Tryd.prog 67 #[m.val] w fun e w' => e = .returned (.bool (!(m.act.toList == []))) ∧ Fr No w w' := by
  have hfa := (Fr.refl No w).alloc (.cells m.cells.toArray 59)
  unfold MsgC.cells at hfa
  have HFA := Lib.hid hfa
  clear hfa
  unfold MsgC.val
  go_enter Tryd.func67, Tryd.ntmps67
  go_wp2
  go_ret
  exact ⟨ret_bool (by rw [beq_nil_ie]), HFA.out⟩
set_option maxRecDepth 20000 in
theorem k_reason (m : MsgC) (w : World) : Calls Tryd.prog 68 #[m.val] w fun e w' => e = .returned (.bool (!(m.rea.toList == []))) ∧ Fr No w w' := by
  have hfa := (Fr.refl No w).alloc (.cells m.cells.toArray 59)
  unfold MsgC.cells at hfa
  have HFA := Lib.hid hfa
  clear hfa
  unfold MsgC.val
  go_enter Tryd.func68, Tryd.ntmps68
  go_wp2
  go_ret
  exact ⟨ret_bool (by rw [beq_nil_ie]), HFA.out⟩
set_option maxRecDepth 20000 in
theorem k_origin (m : MsgC) (w : World) : Calls Tryd.prog 51 #[m.val] w fun e w' => e = .returned (.bool (!(m.otime.toList == []))) ∧ Fr No w w' := by
  have hfa := (Fr.refl No w).alloc (.cells m.cells.toArray 59)
  unfold MsgC.cells at hfa
  have HFA := Lib.hid hfa
  clear hfa
  unfold MsgC.val
  go_enter Tryd.func51, Tryd.ntmps51
  go_wp2
  go_ret
  exact ⟨ret_bool (by rw [beq_nil_ie]), HFA.out⟩
set_option maxRecDepth 20000 in
theorem k_tags (m : MsgC) (w : World) : Calls Tryd.prog 69 #[m.val] w fun e w' => e = .returned (.bool (decide (0 < m.tn))) ∧ Fr No w w' := by
  have hfa := (Fr.refl No w).alloc (.cells m.cells.toArray 59)
  unfold MsgC.cells at hfa
  have HFA := Lib.hid hfa
  clear hfa
  unfold MsgC.val
  go_enter Tryd.func69, Tryd.ntmps69
  go_wp2
  go_ret
  exact ⟨ret_bool (by rw [decide_eq_decide]), HFA.out⟩
/-- the questions' functions, in their order -/
def askF (k : Nat) : FuncId := ([61, 50, 62, 63, 64, 65, 66, 67, 68, 51, 69] : List Nat).getD k 0
theorem askF_enters (k : Nat) (hk : k < 11) : ∀ args w, (callFunc (askF k) args).run Tryd.prog w = .ok (.enter (askF k) args) w := by
  intro args w
  have h : k = 0 ∨ k = 1 ∨ k = 2 ∨ k = 3 ∨ k = 4 ∨ k = 5 ∨ k = 6 ∨ k = 7 ∨ k = 8 ∨ k = 9 ∨ k = 10 := by omega
  rcases h with rfl | rfl | rfl | rfl | rfl | rfl | rfl | rfl | rfl | rfl | rfl <;> (show _ = _; unfold askF; kernel_rfl)
theorem askF_tells (m : MsgC) (k : Nat) (hk : k < 11) (w : World) : Calls Tryd.prog (askF k) #[m.val] w fun e w' => e = .returned (.bool ((m.there[k]?).getD false)) ∧ Fr No w w' := by
  have h : k = 0 ∨ k = 1 ∨ k = 2 ∨ k = 3 ∨ k = 4 ∨ k = 5 ∨ k = 6 ∨ k = 7 ∨ k = 8 ∨ k = 9 ∨ k = 10 := by omega
  rcases h with rfl | rfl | rfl | rfl | rfl | rfl | rfl | rfl | rfl | rfl | rfl
  · exact k_pan m w
  · exact k_currency m w
  · exact k_rrn m w
  · exact k_merchant m w
  · exact k_terminal m w
  · exact k_approval m w
  · exact k_entry m w
  · exact k_action m w
  · exact k_reason m w
  · exact k_origin m w
  · exact k_tags m w
/-- the questions' cells -/
def askV : List Value := [.int .u16 1, .func (.func (askF 0)) #[] #[], .int .u16 2, .func (.func (askF 1)) #[] #[], .int .u16 4, .func (.func (askF 2)) #[] #[], .int .u16 8, .func (.func (askF 3)) #[] #[], .int .u16 16, .func (.func (askF 4)) #[] #[], .int .u16 32, .func (.func (askF 5)) #[] #[], .int .u16 64, .func (.func (askF 6)) #[] #[], .int .u16 128, .func (.func (askF 7)) #[] #[], .int .u16 256, .func (.func (askF 8)) #[] #[], .int .u16 512, .func (.func (askF 9)) #[] #[], .int .u16 1024, .func (.func (askF 10)) #[] #[]]
theorem askV_get {k : Nat} (hk : k < 11) : askV[k * 2]? = some (.int .u16 ((2 ^ k : Nat) : Int)) ∧ askV[k * 2 + 1]? = some (.func (.func (askF k)) #[] #[]) := by
  have h : k = 0 ∨ k = 1 ∨ k = 2 ∨ k = 3 ∨ k = 4 ∨ k = 5 ∨ k = 6 ∨ k = 7 ∨ k = 8 ∨ k = 9 ∨ k = 10 := by omega
  rcases h with rfl | rfl | rfl | rfl | rfl | rfl | rfl | rfl | rfl | rfl | rfl <;> exact ⟨rfl, rfl⟩
set_option maxRecDepth 20000 in
theorem k_questions (w : World) : Calls Tryd.prog 49 #[] w fun e w' => ∃ A, e = .returned (.slice (some A) 11 11) ∧ RdS w' 2 (some A) 11 11 askV ∧ Fr No w w' := by
  go_enter Tryd.func49, Tryd.ntmps49
  go_wp2
  go_ret
  exact ⟨_, rfl, RdS.lit w askV _ 11 rfl (by simp [maxLen]), (Fr.refl No w).alloc _⟩
/-- a question's cells -/
theorem ask_cells {w : World} {ad : Addr} (h : RdS w 2 (some ad) 11 11 askV) {k : Nat} (hk : k < 11) :
    w.cell? (ad.add (k * 2)) = some (.int .u16 ((2 ^ k : Nat) : Int)) ∧ w.cell? ⟨(ad.add (k * 2)).block, (ad.add (k * 2)).off + 1, none⟩ = some (.func (.func (askF k)) #[] #[]) := by
  obtain ⟨g0, g1⟩ := askV_get hk
  exact ⟨h.cells ad rfl _ _ g0, by rw [← k_add ad (k * 2) 0]; exact h.cells ad rfl _ _ g1⟩
set_option maxRecDepth 20000 in
theorem k_has (m : MsgC) (w : World) : Calls Tryd.prog 34 #[m.val] w fun e w' => e = .returned (.int .u16 (maskN m.there 11 : Int)) ∧ Fr No w w' := by
  have hask := fun k hk u => askF_tells m k hk u
  have hb0 : Bk (w.alloc (.cells m.cells.toArray 59)) w.heap.size 59 m.cells := Bk.new w _ _
  have hfa : Fr No w (w.alloc (.cells m.cells.toArray 59)) := (Fr.refl No w).alloc _
  generalize m.there = th at hask ⊢
  unfold MsgC.val at hask ⊢
  unfold MsgC.cells at hfa
  have HASK := Lib.hid hask; have HB0 := Lib.hid hb0; have HFA := Lib.hid hfa
  clear hask hb0 hfa
  go_enter Tryd.func34, Tryd.ntmps34
  go_wp2_with (go_at_call 49; refine (k_questions _).mono ?_; rintro e w1 ⟨ad, rfl, hq, f1⟩)
  have hbm := HB0.out.no f1
  have HQ := Lib.hid hq; have HF1 := Lib.hid (HFA.out.trans f1); have HBM := Lib.hid hbm
  clear hq f1 hbm HB0
  go_loopw [3, 8] (fun ov v wr => ∃ k : Nat, k ≤ 11 ∧ v = .int .i64 (k : Int) ∧ ov = .int .u16 (maskN th k : Int) ∧ Fr No w1 wr) (fun _ v _ => 11 - (intOf v).toNat)
  case atStart => exact ⟨0, by omega, rfl, rfl, Fr.refl _ _⟩
  case round =>
    obtain ⟨k, hk, rfl, rfl, hfr⟩ := hrel
    have HFR := Lib.hid hfr
    clear hfr
    rcases Nat.lt_or_ge k 11 with hkn | hge
    · obtain ⟨c0, c1⟩ := ask_cells (w := wr) ⟨HQ.out.len, HQ.out.cap, HQ.out.max, HQ.out.nil, fun a e j u hu => HFR.out.cell (HQ.out.cells a e j u hu) (fun x => x)⟩ hkn
      have hen := askF_enters k hkn
      have hte := fun u => HASK.out k hkn u
      have hstep : maskN th (k + 1) = if (th[k]?).getD false then maskN th k ||| 2 ^ k else maskN th k := rfl
      have hml := maskN_lt th k
      have hp2 : 2 ^ k ≤ 2 ^ 10 := Nat.pow_le_pow_right (by decide) (by omega)
      obtain ⟨p2, hp⟩ : ∃ p, 2 ^ k = p := ⟨_, rfl⟩
      rw [hp] at c0 hstep hml hp2
      obtain ⟨mk, hmk⟩ : ∃ x, maskN th k = x := ⟨_, rfl⟩
      rw [hmk] at hstep hml ⊢
      have hor := or_u16 mk p2 (by omega) (by omega)
      generalize (th[k]?).getD false = b at hte hstep
      generalize askF k = F at c1 hen hte
      obtain ⟨P, hP⟩ : ∃ P, ad.add (k * 2) = P := ⟨_, rfl⟩
      rw [hP] at c0 c1
      have hbq : Bk (wr.alloc (.cells #[.int .u16 (p2 : Int), .func (.func F) #[] #[]] 86)) wr.heap.size 86 [.int .u16 (p2 : Int), .func (.func F) #[] #[]] := Bk.new wr _ _
      have hbm := (HBM.out.no HFR.out).no ((Fr.refl No wr).alloc (.cells #[.int .u16 (p2 : Int), .func (.func F) #[] #[]] 86))
      have HFQ := Lib.hid ((Fr.refl No wr).alloc (.cells #[.int .u16 (p2 : Int), .func (.func F) #[] #[]] 86))
      have HRG := Lib.hid hbm.range
      have hsf : ∀ (a : Addr) (u : World) (m : Mode), (store a (.func (.func F) #[] #[]) m).run Tryd.prog u = stored Tryd.prog u a (.func (.func F) #[] #[]) m := fun a u m => run_store Tryd.prog u a _ m rfl
      have HTE := Lib.hid hte; have HST := Lib.hid hstep; have HBQ := Lib.hid hbq
      clear hte hstep hbq hbm hp hmk hml hp2
      cases b with
      | _ =>
        go_wp2_with (first
          | (refine wpList_load_mid rfl 59 _ rfl w.heap.size 0 rfl m.cells _ HRG.out (Tryd.underlying59) rfl (kmsgSize m) ?_; clear HRG)
          | (refine (HTE.out _).mono ?_; rintro e w2 ⟨rfl, f2⟩; have B2 := HBQ.out.no f2; have d0 := B2.cell 0; have HF2 := Lib.hid (HFR.out.trans (HFQ.out.trans f2)); clear f2 B2))
        go_roundw
        case rel => exact ⟨k + 1, by omega, by go_num, by rw [HST.out]; rfl, HF2.out⟩
        case measure => simp [intOf]; omega
    · obtain rfl : k = 11 := by omega
      go_wp2
      go_ret
      exact ⟨rfl, HF1.out.trans HFR.out⟩
end Go.Proofs.YtdenaejinlkfgaaDoor
