/- The texts KinHas, KinWhole, KinFits, joined. -/
import Derived.Test.YthlgnmgjfgbffaaGreatDoorL19
import Derived.Test.YthlgnmgjfgbffaaGreatDoorL21
/- Package kinds: what a message has: contracts. -/
namespace Go.Proofs.YthlgnmgjfgbffaaGreatDoor
open Go.RowKit
set_option maxHeartbeats 400000
set_option linter.unusedVariables false

theorem beq_nil_ie (l : List UInt8) : (l == []) = l.isEmpty := by cases l <;> rfl
theorem kmsgSize (m : MsgC) : (Tryz.prog.info? 151).map (·.size) = some m.cells.length := by kernel_rfl

set_option maxRecDepth 20000 in
theorem k_pan (m : MsgC) (w : World) : Calls Tryz.prog 187 #[m.val] w fun e w' => e = .returned (.bool (!(m.pan.toList == []))) ∧ Fr No w w' := by
  have hfa := (Fr.refl No w).alloc (.cells m.cells.toArray 151)
  unfold MsgC.cells at hfa
  have HFA := Lib.hid hfa
  clear hfa
  unfold MsgC.val
  go_enter Tryz.func187, Tryz.ntmps187
  go_wp2
  go_ret
  exact ⟨ret_bool (by rw [beq_nil_ie]), HFA.out⟩
set_option maxRecDepth 20000 in
theorem k_currency (m : MsgC) (w : World) : Calls Tryz.prog 152 #[m.val] w fun e w' => e = .returned (.bool (!(m.cur.toList == []))) ∧ Fr No w w' := by
  have hfa := (Fr.refl No w).alloc (.cells m.cells.toArray 151)
  unfold MsgC.cells at hfa
  have HFA := Lib.hid hfa
  clear hfa
  unfold MsgC.val
  go_enter Tryz.func152, Tryz.ntmps152
  go_wp2
  go_ret
  exact ⟨ret_bool (by rw [beq_nil_ie]), HFA.out⟩
set_option maxRecDepth 20000 in
theorem k_rrn (m : MsgC) (w : World) : Calls Tryz.prog 188 #[m.val] w fun e w' => e = .returned (.bool (!(m.rrn.toList == []))) ∧ Fr No w w' := by
  have hfa := (Fr.refl No w).alloc (.cells m.cells.toArray 151)
  unfold MsgC.cells at hfa
  have HFA := Lib.hid hfa
  clear hfa
  unfold MsgC.val
  go_enter Tryz.func188, Tryz.ntmps188
  go_wp2
  go_ret
  exact ⟨ret_bool (by rw [beq_nil_ie]), HFA.out⟩
set_option maxRecDepth 20000 in
theorem k_merchant (m : MsgC) (w : World) : Calls Tryz.prog 189 #[m.val] w fun e w' => e = .returned (.bool (!(m.mer.toList == []))) ∧ Fr No w w' := by
  have hfa := (Fr.refl No w).alloc (.cells m.cells.toArray 151)
  unfold MsgC.cells at hfa
  have HFA := Lib.hid hfa
  clear hfa
  unfold MsgC.val
  go_enter Tryz.func189, Tryz.ntmps189
  go_wp2
  go_ret
  exact ⟨ret_bool (by rw [beq_nil_ie]), HFA.out⟩
set_option maxRecDepth 20000 in
theorem k_terminal (m : MsgC) (w : World) : Calls Tryz.prog 190 #[m.val] w fun e w' => e = .returned (.bool (!(m.ter.toList == []))) ∧ Fr No w w' := by
  have hfa := (Fr.refl No w).alloc (.cells m.cells.toArray 151)
  unfold MsgC.cells at hfa
  have HFA := Lib.hid hfa
  clear hfa
  unfold MsgC.val
  go_enter Tryz.func190, Tryz.ntmps190
  go_wp2
  go_ret
  exact ⟨ret_bool (by rw [beq_nil_ie]), HFA.out⟩
set_option maxRecDepth 20000 in
theorem k_approval (m : MsgC) (w : World) : Calls Tryz.prog 191 #[m.val] w fun e w' => e = .returned (.bool (!(m.app.toList == []))) ∧ Fr No w w' := by
  have hfa := (Fr.refl No w).alloc (.cells m.cells.toArray 151)
  unfold MsgC.cells at hfa
  have HFA := Lib.hid hfa
  clear hfa
  unfold MsgC.val
  go_enter Tryz.func191, Tryz.ntmps191
  go_wp2
  go_ret
  exact ⟨ret_bool (by rw [beq_nil_ie]), HFA.out⟩
set_option maxRecDepth 20000 in
theorem k_entry (m : MsgC) (w : World) : Calls Tryz.prog 192 #[m.val] w fun e w' => e = .returned (.bool (m.entry != 0)) ∧ Fr No w w' := by
  have hfa := (Fr.refl No w).alloc (.cells m.cells.toArray 151)
  unfold MsgC.cells at hfa
  have HFA := Lib.hid hfa
  clear hfa
  unfold MsgC.val
  go_enter Tryz.func192, Tryz.ntmps192
  go_wp2
  go_ret
  exact ⟨rfl, HFA.out⟩
set_option maxRecDepth 20000 in
theorem k_action (m : MsgC) (w : World) : Calls Tryz.prog 193 #[m.val] w fun e w' => e = .returned (.bool (!(m.act.toList == []))) ∧ Fr No w w' := by
  have hfa := (Fr.refl No w).alloc (.cells m.cells.toArray 151)
  unfold MsgC.cells at hfa
  have HFA := Lib.hid hfa
  clear hfa
  unfold MsgC.val
  go_enter Tryz.func193, Tryz.ntmps193
  go_wp2
  go_ret
  exact ⟨ret_bool (by rw [beq_nil_ie]), HFA.out⟩
set_option maxRecDepth 20000 in
theorem k_reason (m : MsgC) (w : World) : Calls Tryz.prog 194 #[m.val] w fun e w' => e = .returned (.bool (!(m.rea.toList == []))) ∧ Fr No w w' := by
  have hfa := (Fr.refl No w).alloc (.cells m.cells.toArray 151)
  unfold MsgC.cells at hfa
  have HFA := Lib.hid hfa
  clear hfa
  unfold MsgC.val
  go_enter Tryz.func194, Tryz.ntmps194
  go_wp2
  go_ret
  exact ⟨ret_bool (by rw [beq_nil_ie]), HFA.out⟩
set_option maxRecDepth 20000 in
theorem k_origin (m : MsgC) (w : World) : Calls Tryz.prog 153 #[m.val] w fun e w' => e = .returned (.bool (!(m.otime.toList == []))) ∧ Fr No w w' := by
  have hfa := (Fr.refl No w).alloc (.cells m.cells.toArray 151)
  unfold MsgC.cells at hfa
  have HFA := Lib.hid hfa
  clear hfa
  unfold MsgC.val
  go_enter Tryz.func153, Tryz.ntmps153
  go_wp2
  go_ret
  exact ⟨ret_bool (by rw [beq_nil_ie]), HFA.out⟩
set_option maxRecDepth 20000 in
theorem k_tags (m : MsgC) (w : World) : Calls Tryz.prog 195 #[m.val] w fun e w' => e = .returned (.bool (decide (0 < m.tn))) ∧ Fr No w w' := by
  have hfa := (Fr.refl No w).alloc (.cells m.cells.toArray 151)
  unfold MsgC.cells at hfa
  have HFA := Lib.hid hfa
  clear hfa
  unfold MsgC.val
  go_enter Tryz.func195, Tryz.ntmps195
  go_wp2
  go_ret
  exact ⟨ret_bool (by rw [decide_eq_decide]), HFA.out⟩
/-- the questions' functions, in their order -/
def askF (k : Nat) : FuncId := ([187, 152, 188, 189, 190, 191, 192, 193, 194, 153, 195] : List Nat).getD k 0
theorem askF_enters (k : Nat) (hk : k < 11) : ∀ args w, (callFunc (askF k) args).run Tryz.prog w = .ok (.enter (askF k) args) w := by
  intro args w
  have h : k = 0 ∨ k = 1 ∨ k = 2 ∨ k = 3 ∨ k = 4 ∨ k = 5 ∨ k = 6 ∨ k = 7 ∨ k = 8 ∨ k = 9 ∨ k = 10 := by omega
  rcases h with rfl | rfl | rfl | rfl | rfl | rfl | rfl | rfl | rfl | rfl | rfl <;> (show _ = _; unfold askF; kernel_rfl)
theorem askF_tells (m : MsgC) (k : Nat) (hk : k < 11) (w : World) : Calls Tryz.prog (askF k) #[m.val] w fun e w' => e = .returned (.bool ((m.there[k]?).getD false)) ∧ Fr No w w' := by
  have h : k = 0 ∨ k = 1 ∨ k = 2 ∨ k = 3 ∨ k = 4 ∨ k = 5 ∨ k = 6 ∨ k = 7 ∨ k = 8 ∨ k = 9 ∨ k = 10 := by omega
  rcases h with rfl | rfl | rfl | rfl | rfl | rfl | rfl | rfl | rfl | rfl | rfl
  · exact k_pan m w
  · exact k_currency m w
  · exact k_rrn m w
  · exact k_merchant m w
  · exact k_terminal m w
  · exact k_approval m w
  · exact k_entry m w
  · exact k_action m w
  · exact k_reason m w
  · exact k_origin m w
  · exact k_tags m w
/-- the questions' cells -/
def askV : List Value := [.int .u16 1, .func (.func (askF 0)) #[] #[], .int .u16 2, .func (.func (askF 1)) #[] #[], .int .u16 4, .func (.func (askF 2)) #[] #[], .int .u16 8, .func (.func (askF 3)) #[] #[], .int .u16 16, .func (.func (askF 4)) #[] #[], .int .u16 32, .func (.func (askF 5)) #[] #[], .int .u16 64, .func (.func (askF 6)) #[] #[], .int .u16 128, .func (.func (askF 7)) #[] #[], .int .u16 256, .func (.func (askF 8)) #[] #[], .int .u16 512, .func (.func (askF 9)) #[] #[], .int .u16 1024, .func (.func (askF 10)) #[] #[]]
theorem askV_get {k : Nat} (hk : k < 11) : askV[k * 2]? = some (.int .u16 ((2 ^ k : Nat) : Int)) ∧ askV[k * 2 + 1]? = some (.func (.func (askF k)) #[] #[]) := by
  have h : k = 0 ∨ k = 1 ∨ k = 2 ∨ k = 3 ∨ k = 4 ∨ k = 5 ∨ k = 6 ∨ k = 7 ∨ k = 8 ∨ k = 9 ∨ k = 10 := by omega
  rcases h with rfl | rfl | rfl | rfl | rfl | rfl | rfl | rfl | rfl | rfl | rfl <;> exact ⟨rfl, rfl⟩
set_option maxRecDepth 20000 in
theorem k_questions (w : World) : Calls Tryz.prog 151 #[] w fun e w' => ∃ A, e = .returned (.slice (some A) 11 11) ∧ RdS w' 2 (some A) 11 11 askV ∧ Fr No w w' := by
  go_enter Tryz.func151, Tryz.ntmps151
  go_wp2
  go_ret
  exact ⟨_, rfl, RdS.lit w askV _ 11 rfl (by simp [maxLen]), (Fr.refl No w).alloc _⟩
/-- a question's cells -/
theorem ask_cells {w : World} {ad : Addr} (h : RdS w 2 (some ad) 11 11 askV) {k : Nat} (hk : k < 11) :
    w.cell? (ad.add (k * 2)) = some (.int .u16 ((2 ^ k : Nat) : Int)) ∧ w.cell? ⟨(ad.add (k * 2)).block, (ad.add (k * 2)).off + 1, none⟩ = some (.func (.func (askF k)) #[] #[]) := by
  obtain ⟨g0, g1⟩ := askV_get hk
  exact ⟨h.cells ad rfl _ _ g0, by rw [← k_add ad (k * 2) 0]; exact h.cells ad rfl _ _ g1⟩
set_option maxRecDepth 20000 in
theorem k_has (m : MsgC) (w : World) : Calls Tryz.prog 106 #[m.val] w fun e w' => e = .returned (.int .u16 (maskN m.there 11 : Int)) ∧ Fr No w w' := by
  have hask := fun k hk u => askF_tells m k hk u
  have hb0 : Bk (w.alloc (.cells m.cells.toArray 151)) w.heap.size 151 m.cells := Bk.new w _ _
  have hfa : Fr No w (w.alloc (.cells m.cells.toArray 151)) := (Fr.refl No w).alloc _
  generalize m.there = th at hask ⊢
  unfold MsgC.val at hask ⊢
  unfold MsgC.cells at hfa
  have HASK := Lib.hid hask; have HB0 := Lib.hid hb0; have HFA := Lib.hid hfa
  clear hask hb0 hfa
  go_enter Tryz.func106, Tryz.ntmps106
  go_wp2_with (go_at_call 151; refine (k_questions _).mono ?_; rintro e w1 ⟨ad, rfl, hq, f1⟩)
  have hbm := HB0.out.no f1
  have HQ := Lib.hid hq; have HF1 := Lib.hid (HFA.out.trans f1); have HBM := Lib.hid hbm
  clear hq f1 hbm HB0
  go_loopw [3, 8] (fun ov v wr => ∃ k : Nat, k ≤ 11 ∧ v = .int .i64 (k : Int) ∧ ov = .int .u16 (maskN th k : Int) ∧ Fr No w1 wr) (fun _ v _ => 11 - (intOf v).toNat)
  case atStart => exact ⟨0, by omega, rfl, rfl, Fr.refl _ _⟩
  case round =>
    obtain ⟨k, hk, rfl, rfl, hfr⟩ := hrel
    have HFR := Lib.hid hfr
    clear hfr
    rcases Nat.lt_or_ge k 11 with hkn | hge
    · obtain ⟨c0, c1⟩ := ask_cells (w := wr) ⟨HQ.out.len, HQ.out.cap, HQ.out.max, HQ.out.nil, fun a e j u hu => HFR.out.cell (HQ.out.cells a e j u hu) (fun x => x)⟩ hkn
      have hen := askF_enters k hkn
      have hte := fun u => HASK.out k hkn u
      have hstep : maskN th (k + 1) = if (th[k]?).getD false then maskN th k ||| 2 ^ k else maskN th k := rfl
      have hml := maskN_lt th k
      have hp2 : 2 ^ k ≤ 2 ^ 10 := Nat.pow_le_pow_right (by decide) (by omega)
      obtain ⟨p2, hp⟩ : ∃ p, 2 ^ k = p := ⟨_, rfl⟩
      rw [hp] at c0 hstep hml hp2
      obtain ⟨mk, hmk⟩ : ∃ x, maskN th k = x := ⟨_, rfl⟩
      rw [hmk] at hstep hml ⊢
      have hor := or_u16 mk p2 (by omega) (by omega)
      generalize (th[k]?).getD false = b at hte hstep
      generalize askF k = F at c1 hen hte
      obtain ⟨P, hP⟩ : ∃ P, ad.add (k * 2) = P := ⟨_, rfl⟩
      rw [hP] at c0 c1
      have hbq : Bk (wr.alloc (.cells #[.int .u16 (p2 : Int), .func (.func F) #[] #[]] 205)) wr.heap.size 205 [.int .u16 (p2 : Int), .func (.func F) #[] #[]] := Bk.new wr _ _
      have hbm := (HBM.out.no HFR.out).no ((Fr.refl No wr).alloc (.cells #[.int .u16 (p2 : Int), .func (.func F) #[] #[]] 205))
      have HFQ := Lib.hid ((Fr.refl No wr).alloc (.cells #[.int .u16 (p2 : Int), .func (.func F) #[] #[]] 205))
      have HRG := Lib.hid hbm.range
      have hsf : ∀ (a : Addr) (u : World) (m : Mode), (store a (.func (.func F) #[] #[]) m).run Tryz.prog u = stored Tryz.prog u a (.func (.func F) #[] #[]) m := fun a u m => run_store Tryz.prog u a _ m rfl
      have HTE := Lib.hid hte; have HST := Lib.hid hstep; have HBQ := Lib.hid hbq
      clear hte hstep hbq hbm hp hmk hml hp2
      cases b with
      | _ =>
        go_wp2_with (first
          | (refine wpList_load_mid rfl 151 _ rfl w.heap.size 0 rfl m.cells _ HRG.out (Tryz.underlying151) rfl (kmsgSize m) ?_; clear HRG)
          | (refine (HTE.out _).mono ?_; rintro e w2 ⟨rfl, f2⟩; have B2 := HBQ.out.no f2; have d0 := B2.cell 0; have HF2 := Lib.hid (HFR.out.trans (HFQ.out.trans f2)); clear f2 B2))
        go_roundw
        case rel => exact ⟨k + 1, by omega, by go_num, by rw [HST.out]; rfl, HF2.out⟩
        case measure => simp [intOf]; omega
    · obtain rfl : k = 11 := by omega
      go_wp2
      go_ret
      exact ⟨rfl, HF1.out.trans HFR.out⟩
end Go.Proofs.YthlgnmgjfgbffaaGreatDoor
/- Package kinds: whether a message has what it must, and may: contracts. -/
namespace Go.Proofs.YthlgnmgjfgbffaaGreatDoor
open Go.RowKit
set_option maxHeartbeats 1000000
set_option linter.unusedVariables false

theorem k_lets (r : DRow) (h : Nat) (hm : r.must < 2048) (ha : r.may < 2048) (hh : h < 2048) (w : World) : Calls Tryz.prog 105 #[r.val, .int .u16 (h : Int)] w fun e w' => e = .returned (.bool (letsB r h)) ∧ Fr No w w' := by
  obtain ⟨rk, rc, rm, ru, ra⟩ := r
  simp only at hm ha
  unfold DRow.val letsB
  simp only
  have hor := or_u16 ru ra (by omega) (by omega)
  have hj : ru ||| ra < 65536 := Nat.or_lt_two_pow (n := 16) (by omega) (by omega)
  have hand := and_u16 h ru (by omega) (by omega)
  have hnot := not_u16 h (ru ||| ra)
  have hw := without_lt h (ru ||| ra)
  have hx : h &&& ru < 65536 := Nat.and_lt_two_pow (n := 16) h (by omega)
  generalize without h (ru ||| ra) = Z at hnot hw ⊢
  generalize ru ||| ra = Y at hor hnot hj
  generalize h &&& ru = X at hand hx ⊢
  have hb1 : ((X : Int) == (ru : Int)) = (X == ru) := by rw [Bool.eq_iff_iff, beq_iff_eq, beq_iff_eq]; omega
  have hb2 : ((Z : Int) == 0) = (Z == 0) := by rw [Bool.eq_iff_iff, beq_iff_eq, beq_iff_eq]; omega
  generalize (X == ru) = b1 at hb1 ⊢
  generalize (Z == 0) = b2 at hb2 ⊢
  have HFA := Lib.hid ((Fr.refl No w).alloc (.cells #[.int .i64 rk, .string rc, .string rm, .int .u16 (ru : Int), .int .u16 (ra : Int)] 128))
  go_enter Tryz.func105, Tryz.ntmps105
  cases b1 <;> cases b2
  all_goals
    go_wp2
    go_ret
    exact ⟨rfl, HFA.out⟩
set_option maxHeartbeats 4000000 in
set_option maxRecDepth 20000 in
theorem k_whole (m : MsgC) (w : World) : Calls Tryz.prog 107 #[m.val] w fun e w' => e = .returned (.bool (!m.bad)) ∧ Fr No w w' := by
  have hc := fun u => k_currency m u
  have ho := fun u => k_origin m u
  have hb0 : Bk (w.alloc (.cells m.cells.toArray 151)) w.heap.size 151 m.cells := Bk.new w _ _
  have hfa : Fr No w (w.alloc (.cells m.cells.toArray 151)) := (Fr.refl No w).alloc _
  unfold MsgC.bad
  obtain ⟨p1, e1⟩ : ∃ p, (m.cur.toList == []) = p := ⟨_, rfl⟩
  obtain ⟨p2, e2⟩ : ∃ p, (m.amount != 0) = p := ⟨_, rfl⟩
  obtain ⟨p3, e3⟩ : ∃ p, (m.otime.toList == []) = p := ⟨_, rfl⟩
  obtain ⟨p4, e4⟩ : ∃ p, (m.ostan != 0) = p := ⟨_, rfl⟩
  have e2' : (m.amount == 0) = !p2 := by rw [← e2]; simp [bne]
  have e4' : (m.ostan == 0) = !p4 := by rw [← e4]; simp [bne]
  rw [e1, e2, e3, e4]
  rw [e1] at hc
  rw [e3] at ho
  unfold MsgC.val at hc ho ⊢
  unfold MsgC.cells at hfa
  have HC := Lib.hid hc; have HO := Lib.hid ho; have HB0 := Lib.hid hb0; have HFA := Lib.hid hfa
  have HRG := Lib.hid hb0.range
  have t1 : True := trivial
  have t2 : True := trivial
  clear hc ho hb0 hfa e1 e2 e3 e4
  go_enter Tryz.func107, Tryz.ntmps107
  have hfin : (p1 = true ∧ p2 = true) ∨ (p1 = false ∧ p3 = false) ∨ (p1 = false ∧ p3 = true ∧ p4 = false) ∨ (p1 = false ∧ p3 = true ∧ p4 = true) ∨ ((p1 = true ∧ p2 = false) ∧ p3 = false) ∨ ((p1 = true ∧ p2 = false) ∧ p3 = true ∧ p4 = false) ∨ ((p1 = true ∧ p2 = false) ∧ p3 = true ∧ p4 = true) := by
    cases p1 <;> cases p2 <;> cases p3 <;> cases p4 <;> simp
  rcases hfin with ⟨rfl, rfl⟩ | ⟨rfl, rfl⟩ | ⟨rfl, rfl, rfl⟩ | ⟨rfl, rfl, rfl⟩ | ⟨⟨rfl, rfl⟩, rfl⟩ | ⟨⟨rfl, rfl⟩, rfl, rfl⟩ | ⟨⟨rfl, rfl⟩, rfl, rfl⟩
  all_goals
    go_wp2_with (first
      | (clear t1; refine wpList_load_bk rfl 151 _ rfl w.heap.size rfl m.cells _ HB0.out (Tryz.underlying151) rfl (kmsgSize m) ?_)
      | (clear t2; refine wpList_load_bk rfl 151 _ rfl w.heap.size rfl m.cells _ HB1.out (Tryz.underlying151) rfl (kmsgSize m) ?_)
      | (go_at_call 152; refine (HC.out _).mono ?_; rintro e w1 ⟨rfl, f1⟩; have B1 := HB0.out.no f1; have d6 : w1.cell? ⟨w.heap.size, 6, none⟩ = some (.int .u64 m.amount) := B1.cell 6; have d14 : w1.cell? ⟨w.heap.size, 14, none⟩ = some (.int .i64 m.ostan) := B1.cell 14; have HF1 := Lib.hid f1; have HB1 := Lib.hid B1; clear f1 B1)
      | (go_at_call 153; refine (HO.out _).mono ?_; rintro e w2 ⟨rfl, f2⟩; have B2 := HB1.out.no f2; have d14' : w2.cell? ⟨w.heap.size, 14, none⟩ = some (.int .i64 m.ostan) := B2.cell 14; have HF2 := Lib.hid f2; clear f2 B2))
    go_ret
    first | exact ⟨ret_bool (by simp), (HFA.out.trans HF1.out).trans HF2.out⟩ | exact ⟨ret_bool (by simp), HFA.out.trans HF1.out⟩
end Go.Proofs.YthlgnmgjfgbffaaGreatDoor
/- Package kinds: whether a message has what it must, and may: contracts. -/
namespace Go.Proofs.YthlgnmgjfgbffaaGreatDoor
open Go.RowKit
set_option maxHeartbeats 1000000
set_option linter.unusedVariables false

theorem msg_one (m : MsgC) : m.cells.toArray.all (·.oneCell') = true := by simp [MsgC.cells, Value.oneCell']
def m0 : List Value := [.int .i64 0, .int .i64 0, .string ⟨#[]⟩, .string ⟨#[]⟩, .string ⟨#[]⟩, .string ⟨#[]⟩, .int .u64 0, .string ⟨#[]⟩, .string ⟨#[]⟩, .string ⟨#[]⟩, .string ⟨#[]⟩, .int .i64 0, .string ⟨#[]⟩, .string ⟨#[]⟩, .int .i64 0, .string ⟨#[]⟩, .slice none 0 0, .string ⟨#[]⟩, .string ⟨#[]⟩, .slice none 0 0, .slice none 0 0]
/-- whether a message has what it must -/
def fitsM (m : MsgC) : Int := fitsR (rowOf m.kind) (hasL m.there) m.bad
set_option maxHeartbeats 4000000 in
set_option maxRecDepth 20000 in
theorem kinds_fits_any (m : MsgC) (hk0 : -9223372036854775808 ≤ m.kind) (hk1 : m.kind ≤ 9223372036854775807) (w : World) (hT : Tabs w := by repeat' first | with_reducible assumption | with_reducible apply Tabs.drew | with_reducible apply Tabs.drewN | with_reducible apply Tabs.alloc | refine Tabs.fr ?_ (by with_reducible assumption)) :
    Calls Tryz.prog 58 #[m.val] w fun e w' => e = .returned (.int .i64 (fitsM m)) ∧ Fr No w w' := by
  have hfi := fun u (h : Tabs u) => k_first _ _ _ (k_num_tests m.kind) u h
  have hsm : (dFirst (pNum m.kind)).must < 2048 ∧ (dFirst (pNum m.kind)).may < 2048 := by
    by_cases h : 1 ≤ m.kind ∧ m.kind < 12
    · obtain ⟨i, hi, _, he⟩ := (first_num m.kind).1 h
      rw [he]
      exact ⟨(dev_row hi).2.2.2.1, (dev_row hi).2.2.2.2⟩
    · rw [(first_num m.kind).2 h]
      exact ⟨by decide, by decide⟩
  have hres : fitsM m = if (dFirst (pNum m.kind)).kind = 0 then 15 else if !letsB (dFirst (pNum m.kind)) (maskN m.there 11) || m.bad then 19 else 0 := by unfold fitsM; exact fits_dev m.there m.bad m.kind
  generalize fitsM m = res at hres ⊢
  generalize dFirst (pNum m.kind) = r at hfi hsm hres
  have hha := fun u => below_of (k_has m u)
  have hml := maskN_lt m.there 11
  have hle := fun u => below_of (k_lets r (maskN m.there 11) hsm.1 hsm.2 hml u)
  have hwh := fun u => below_of (k_whole m u)
  generalize maskN m.there 11 = H at hha hle hres hml
  generalize letsB r H = lb at hle hres
  generalize m.bad = bad at hwh hres
  obtain ⟨rk, rc, rm, ru, ra⟩ := r
  have hb0 : Bk (w.alloc (.cells m.cells.toArray 38)) w.heap.size 38 m.cells := Bk.new w _ _
  have hfa : Fr No w (w.alloc (.cells m.cells.toArray 38)) := (Fr.refl No w).alloc _
  have hT1 : Tabs (w.alloc (.cells m.cells.toArray 38)) := hT.alloc
  unfold DRow.val at hfi hle
  simp only at hres
  unfold MsgC.val at hha hwh ⊢
  have hfi2 := hfi _ hT1
  unfold MsgC.cells at hfi2 hfa
  have HFI := Lib.hid hfi2; have HHA := Lib.hid hha; have HLE := Lib.hid hle; have HWH := Lib.hid hwh; have HRES := Lib.hid hres; have HB0 := Lib.hid hb0; have HFA := Lib.hid hfa
  clear hfi hfi2 hha hle hwh hres hb0 hfa hT hT1 hsm hml hk0 hk1
  cases hz : (rk == 0) with
  | true =>
    have hre : res = 15 := by rw [HRES.out, if_pos (by simpa using hz)]
    have HRE := Lib.hid hre
    clear hre
    go_enter Tryz.func58, Tryz.ntmps58
    go_wp2_with (go_at_call 86; refine HFI.out.mono ?_; rintro e w1 ⟨rfl, f1⟩; have HF1 := Lib.hid f1; clear f1)
    go_ret
    exact ⟨by rw [HRE.out]; rfl, (HFA.out.trans HF1.out).alloc _⟩
  | false =>
    have hre : res = if !lb || bad then 19 else 0 := by rw [HRES.out, if_neg (by simpa using hz)]
    have HRE := Lib.hid hre
    have t1 : True := trivial
    clear hre
    go_enter Tryz.func58, Tryz.ntmps58
    go_wp2_with (first
      | (go_at_call 86; refine HFI.out.mono ?_; rintro e w1 ⟨rfl, f1⟩; have HF1 := Lib.hid f1; have B1 := ((HB0.out.no f1).no ((Fr.refl No w1).alloc (.cells #[.int .i64 rk, .string rc, .string rm, .int .u16 (ru : Int), .int .u16 (ra : Int)] 128))); have BZ := Lib.hid (Bk.new (w1.alloc (.cells #[.int .i64 rk, .string rc, .string rm, .int .u16 (ru : Int), .int .u16 (ra : Int)] 128)) 151 m0.toArray); clear f1)
      | (clear t1; refine wpList_load_bk rfl 38 _ rfl w.heap.size rfl m.cells _ B1 (Tryz.underlying38) rfl (msgSize m) ?_; clear B1)
      | (refine wpList_store_bk rfl 151 _ _ rfl (w1.heap.size + 1) rfl m0 m.cells rfl (by simpa [m0] using BZ.out) rfl (kmsgSize m) (msg_one m) ?_; intro W bm f2 s2; have BM := Lib.hid bm; have HF2 := Lib.hid f2; clear bm f2 s2))
    have hbr : Bk W w1.heap.size 128 [.int .i64 rk, .string rc, .string rm, .int .u16 (ru : Int), .int .u16 (ra : Int)] :=
      ((Bk.new w1 _ _).no ((Fr.refl No _).alloc _)).fr HF2.out (by unfold Just; omega)
    have hbm := BM.out
    have hfw : Fr No w W := (((HFA.out.trans HF1.out).alloc _).alloc _).trans_just HF2.out (by have := (HFA.out.trans HF1.out).size; omega)
    have HFW := Lib.hid hfw
    have HQ1 := Lib.hid (show ∀ w' : World, (∃ p : Regrown, w' = Go.Sort.grow (redrawn W p.d) p.os) → w'.rangeAt w1.heap.size 0 [.int .i64 rk, .string rc, .string rm, .int .u16 (ru : Int), .int .u16 (ra : Int)] from fun w' ⟨p, hp⟩ => by
      rw [hp]; exact (hbr.no (fr_regrown W p.d p.os)).range)
    have HQ2 := Lib.hid (show ∀ w' : World, (∃ p : Regrown, w' = Go.Sort.grow (redrawn W p.d) p.os) → w'.rangeAt (w1.heap.size + 1) 0 m.cells from fun w' ⟨p, hp⟩ => by
      rw [hp]; exact (hbm.no (fr_regrown W p.d p.os)).range)
    clear hbr hbm hfw BM HF2 BZ HF1
    generalize w1.heap.size = g1 at HQ1 HQ2 ⊢
    have hre2 : ∀ q, (!lb || bad) = q → res = if q then 19 else 0 := fun q hq => by rw [HRE.out, hq]
    have HRE2 := Lib.hid hre2
    clear hre2 HRE HRES
    cases lb <;> cases bad
    all_goals
      refine wp_region_quiet_below (by kernel_rfl) (by kernel_rfl) ?_
      repeat (first
        | (refine quiet_load 128 _ rfl (by rfl) g1 (by rfl) _ _ HQ1.out (Tryz.underlying128) rfl (rowSize _ _ _ _ _) ?_)
        | (refine quiet_load 151 _ rfl (by rfl) (g1 + 1) (by rfl) m.cells _ HQ2.out (Tryz.underlying151) rfl (kmsgSize m) ?_)
        | quiet_step ((first
          | (go_at_call 106; exact Calls.regrown_of (HHA.out _))
          | (go_at_call 105; exact Calls.regrown_of (HLE.out _))
          | (go_at_call 107; exact Calls.regrown_of (HWH.out _)))))
      refine wpQuiet_nil ?_
      intro w7 hw7r
      obtain ⟨⟨nr, osr⟩, hw7r⟩ := hw7r
      have hf7 : Fr No W w7 := by rw [hw7r]; exact fr_regrown W nr osr
      clear hw7r
      go_wp2
      go_ret
      exact ⟨by rw [HRE2.out _ rfl]; rfl, HFW.out.trans hf7⟩
end Go.Proofs.YthlgnmgjfgbffaaGreatDoor
