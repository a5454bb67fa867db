/- The texts PlayFits, KinAmt, LawKinAmt, joined. -/
import Derived.Test.YtdfehdjpbmkaoaaDoorPlayMsg
import Derived.Test.YtdfehdjpbmkaoaaDoorKinA
import Derived.Test.YtdfehdjpbmkaoaaDoorPlaySmall
import Derived.Deep.RegionHeld2
import Derived.Deep.CutRange
import Derived.Test.YtdfehdjpbmkaoaaDoorTie
import Derived.Test.YtdfehdjpbmkaoaaDoorCards
import Derived.Test.YtdfehdjpbmkaoaaDoorMsgIn
import Derived.ChangeSame
import Derived.ChangeVars
import Derived.JoinedOf
import Derived.RowKit
import Derived.RowKitTokens
import Derived.LaidLaws
import Derived.LaidHandle
import Derived.Stop.Joined
import Derived.SevenTiedAt
import Derived.Lib.LaidTab
import Derived.Lay
import Derived.MakeChecks
/- A message that the statements make: it has what it must, and nothing that it may not. No program. -/
namespace Go.Proofs.YtdfehdjpbmkaoaaDoor
open Go.RowKit
set_option maxHeartbeats 1000000
set_option linter.unusedVariables false

theorem upd_fld {α : Type} {p : MsgC → α} {b : Bool} {f : MsgC → MsgC} {o : MsgC} (h : ∀ o, p (f o) = p o) : p (upd b f o) = p o := by
  cases b with
  | false => rfl
  | true => exact h o
theorem upd_own {α : Type} {p : MsgC → α} {b : Bool} {f : MsgC → MsgC} {o : MsgC} {v : α} (h : ∀ o, p (f o) = v) : p (upd b f o) = if b then v else p o := by
  cases b with
  | false => rfl
  | true => exact h o
theorem part_there {b : Bool} {V E : ByteArray} (hV : (V.toList == []) = false) (hE : (E.toList == []) = true) : (!((if b = true then V else E).toList == [])) = b := by
  cases b with
  | false => rw [if_neg (by simp), hE]; rfl
  | true => rw [if_pos rfl, hV]; rfl
theorem bs_ne {l : List UInt8} (h : l ≠ []) : ((bstr l).toList == []) = false := by
  rw [s_list, beq_eq_false_iff_ne]
  exact h
theorem dig_ne (s : List UInt8) (low top : Nat) (h : 0 < low) : digL s low top ≠ [] := by
  intro e
  have h1 := fillF_len 55 low (pickF (fun _ x => isD x) top [] s)
  have h2 : digL s low top = fillF 55 low (pickF (fun _ x => isD x) top [] s) := rfl
  rw [← h2, e] at h1
  simp at h1
  omega
theorem aln_ne (s : List UInt8) (n : Nat) (h : 0 < n) : alnL s n ≠ [] := by
  intro e
  have h1 := fillF_len 90 n (pickF (fun _ x => alnC x) n [] s)
  have h2 : alnL s n = fillF 90 n (pickF (fun _ x => alnC x) n [] s) := rfl
  rw [← h2, e] at h1
  simp at h1
  omega
theorem now_ne (s : List UInt8) : nowTL s ≠ [] := by
  unfold nowTL
  by_cases h : timeB s = true
  · rw [if_pos h]
    intro e
    rw [e] at h
    exact absurd h (by decide)
  · rw [if_neg h]
    decide
theorem act_ne (m : MsgC) : ((actP m).toList == []) = false := by
  unfold actP
  by_cases h : wK m.act = true
  · rw [if_pos h, s_list, beq_eq_false_iff_ne]
    intro e
    unfold wK at h
    rw [e] at h
    exact absurd h (by decide)
  · rw [if_neg h]
    have hlt : actN m < 22 := (modN_lt _ 22 (by omega) (by omega)).1
    have hall : (List.range 22).all (fun k => decide (((actsL.getD k ⟨#[]⟩).toList == []) = false)) = true := by decide +kernel
    exact of_decide_eq_true (List.all_eq_true.1 hall _ (List.mem_range.2 hlt))
theorem ent_ne (m : MsgC) : (((modN m.entry 999 : Int) + 1) != 0) = true := by
  rw [bne_iff_ne]
  omega
section
variable (r : KRow) (m : MsgC) (A : Option Addr) (k c : Nat)
theorem made_kind : (gM r m A k c (chainM r m (msg0 m))).kind = ((kindN m + 1 : Nat) : Int) := by
  unfold chainM
  unfold gM
  refine Eq.trans (upd_fld (p := MsgC.kind) (fun _ => rfl)) ?_
  unfold mO
  refine Eq.trans (upd_fld (p := MsgC.kind) (fun _ => rfl)) ?_
  unfold mN
  refine Eq.trans (upd_fld (p := MsgC.kind) (fun _ => rfl)) ?_
  unfold mD
  refine Eq.trans (upd_fld (p := MsgC.kind) (fun _ => rfl)) ?_
  unfold mE
  refine Eq.trans (upd_fld (p := MsgC.kind) (fun _ => rfl)) ?_
  unfold mA
  refine Eq.trans (upd_fld (p := MsgC.kind) (fun _ => rfl)) ?_
  unfold mT
  refine Eq.trans (upd_fld (p := MsgC.kind) (fun _ => rfl)) ?_
  unfold mM
  refine Eq.trans (upd_fld (p := MsgC.kind) (fun _ => rfl)) ?_
  unfold mR
  refine Eq.trans (upd_fld (p := MsgC.kind) (fun _ => rfl)) ?_
  unfold mC
  refine Eq.trans (upd_fld (p := MsgC.kind) (fun _ => rfl)) ?_
  unfold mP
  refine Eq.trans (upd_fld (p := MsgC.kind) (fun _ => rfl)) ?_
  rfl
theorem made_pan : (gM r m A k c (chainM r m (msg0 m))).pan = if wantB r 80 (!m.pan.toList.isEmpty) = true then bstr (digL m.pan.data.toList 12 19) else (⟨#[]⟩ : ByteArray) := by
  unfold chainM
  unfold gM
  refine Eq.trans (upd_fld (p := MsgC.pan) (fun _ => rfl)) ?_
  unfold mO
  refine Eq.trans (upd_fld (p := MsgC.pan) (fun _ => rfl)) ?_
  unfold mN
  refine Eq.trans (upd_fld (p := MsgC.pan) (fun _ => rfl)) ?_
  unfold mD
  refine Eq.trans (upd_fld (p := MsgC.pan) (fun _ => rfl)) ?_
  unfold mE
  refine Eq.trans (upd_fld (p := MsgC.pan) (fun _ => rfl)) ?_
  unfold mA
  refine Eq.trans (upd_fld (p := MsgC.pan) (fun _ => rfl)) ?_
  unfold mT
  refine Eq.trans (upd_fld (p := MsgC.pan) (fun _ => rfl)) ?_
  unfold mM
  refine Eq.trans (upd_fld (p := MsgC.pan) (fun _ => rfl)) ?_
  unfold mR
  refine Eq.trans (upd_fld (p := MsgC.pan) (fun _ => rfl)) ?_
  unfold mC
  refine Eq.trans (upd_fld (p := MsgC.pan) (fun _ => rfl)) ?_
  unfold mP
  refine Eq.trans (upd_own (p := MsgC.pan) (fun _ => rfl)) ?_
  refine congrArg (fun z => if _ = true then _ else z) ?_
  rfl
theorem made_cur : (gM r m A k c (chainM r m (msg0 m))).cur = if wantB r 67 (!m.cur.toList.isEmpty) = true then bstr (digL m.cur.data.toList 3 3) else (⟨#[]⟩ : ByteArray) := by
  unfold chainM
  unfold gM
  refine Eq.trans (upd_fld (p := MsgC.cur) (fun _ => rfl)) ?_
  unfold mO
  refine Eq.trans (upd_fld (p := MsgC.cur) (fun _ => rfl)) ?_
  unfold mN
  refine Eq.trans (upd_fld (p := MsgC.cur) (fun _ => rfl)) ?_
  unfold mD
  refine Eq.trans (upd_fld (p := MsgC.cur) (fun _ => rfl)) ?_
  unfold mE
  refine Eq.trans (upd_fld (p := MsgC.cur) (fun _ => rfl)) ?_
  unfold mA
  refine Eq.trans (upd_fld (p := MsgC.cur) (fun _ => rfl)) ?_
  unfold mT
  refine Eq.trans (upd_fld (p := MsgC.cur) (fun _ => rfl)) ?_
  unfold mM
  refine Eq.trans (upd_fld (p := MsgC.cur) (fun _ => rfl)) ?_
  unfold mR
  refine Eq.trans (upd_fld (p := MsgC.cur) (fun _ => rfl)) ?_
  unfold mC
  refine Eq.trans (upd_own (p := MsgC.cur) (fun _ => rfl)) ?_
  refine congrArg (fun z => if _ = true then _ else z) ?_
  unfold mP
  refine Eq.trans (upd_fld (p := MsgC.cur) (fun _ => rfl)) ?_
  rfl
theorem made_amount : (gM r m A k c (chainM r m (msg0 m))).amount = if wantB r 67 (!m.cur.toList.isEmpty) = true then m.amount.tmod 1000000000000 else (0 : Int) := by
  unfold chainM
  unfold gM
  refine Eq.trans (upd_fld (p := MsgC.amount) (fun _ => rfl)) ?_
  unfold mO
  refine Eq.trans (upd_fld (p := MsgC.amount) (fun _ => rfl)) ?_
  unfold mN
  refine Eq.trans (upd_fld (p := MsgC.amount) (fun _ => rfl)) ?_
  unfold mD
  refine Eq.trans (upd_fld (p := MsgC.amount) (fun _ => rfl)) ?_
  unfold mE
  refine Eq.trans (upd_fld (p := MsgC.amount) (fun _ => rfl)) ?_
  unfold mA
  refine Eq.trans (upd_fld (p := MsgC.amount) (fun _ => rfl)) ?_
  unfold mT
  refine Eq.trans (upd_fld (p := MsgC.amount) (fun _ => rfl)) ?_
  unfold mM
  refine Eq.trans (upd_fld (p := MsgC.amount) (fun _ => rfl)) ?_
  unfold mR
  refine Eq.trans (upd_fld (p := MsgC.amount) (fun _ => rfl)) ?_
  unfold mC
  refine Eq.trans (upd_own (p := MsgC.amount) (fun _ => rfl)) ?_
  refine congrArg (fun z => if _ = true then _ else z) ?_
  unfold mP
  refine Eq.trans (upd_fld (p := MsgC.amount) (fun _ => rfl)) ?_
  rfl
theorem made_rrn : (gM r m A k c (chainM r m (msg0 m))).rrn = if wantB r 82 (!m.rrn.toList.isEmpty) = true then bstr (alnL m.rrn.data.toList 12) else (⟨#[]⟩ : ByteArray) := by
  unfold chainM
  unfold gM
  refine Eq.trans (upd_fld (p := MsgC.rrn) (fun _ => rfl)) ?_
  unfold mO
  refine Eq.trans (upd_fld (p := MsgC.rrn) (fun _ => rfl)) ?_
  unfold mN
  refine Eq.trans (upd_fld (p := MsgC.rrn) (fun _ => rfl)) ?_
  unfold mD
  refine Eq.trans (upd_fld (p := MsgC.rrn) (fun _ => rfl)) ?_
  unfold mE
  refine Eq.trans (upd_fld (p := MsgC.rrn) (fun _ => rfl)) ?_
  unfold mA
  refine Eq.trans (upd_fld (p := MsgC.rrn) (fun _ => rfl)) ?_
  unfold mT
  refine Eq.trans (upd_fld (p := MsgC.rrn) (fun _ => rfl)) ?_
  unfold mM
  refine Eq.trans (upd_fld (p := MsgC.rrn) (fun _ => rfl)) ?_
  unfold mR
  refine Eq.trans (upd_own (p := MsgC.rrn) (fun _ => rfl)) ?_
  refine congrArg (fun z => if _ = true then _ else z) ?_
  unfold mC
  refine Eq.trans (upd_fld (p := MsgC.rrn) (fun _ => rfl)) ?_
  unfold mP
  refine Eq.trans (upd_fld (p := MsgC.rrn) (fun _ => rfl)) ?_
  rfl
theorem made_mer : (gM r m A k c (chainM r m (msg0 m))).mer = if wantB r 77 (!m.mer.toList.isEmpty) = true then bstr (txtL m.mer.data.toList 35 0) else (⟨#[]⟩ : ByteArray) := by
  unfold chainM
  unfold gM
  refine Eq.trans (upd_fld (p := MsgC.mer) (fun _ => rfl)) ?_
  unfold mO
  refine Eq.trans (upd_fld (p := MsgC.mer) (fun _ => rfl)) ?_
  unfold mN
  refine Eq.trans (upd_fld (p := MsgC.mer) (fun _ => rfl)) ?_
  unfold mD
  refine Eq.trans (upd_fld (p := MsgC.mer) (fun _ => rfl)) ?_
  unfold mE
  refine Eq.trans (upd_fld (p := MsgC.mer) (fun _ => rfl)) ?_
  unfold mA
  refine Eq.trans (upd_fld (p := MsgC.mer) (fun _ => rfl)) ?_
  unfold mT
  refine Eq.trans (upd_fld (p := MsgC.mer) (fun _ => rfl)) ?_
  unfold mM
  refine Eq.trans (upd_own (p := MsgC.mer) (fun _ => rfl)) ?_
  refine congrArg (fun z => if _ = true then _ else z) ?_
  unfold mR
  refine Eq.trans (upd_fld (p := MsgC.mer) (fun _ => rfl)) ?_
  unfold mC
  refine Eq.trans (upd_fld (p := MsgC.mer) (fun _ => rfl)) ?_
  unfold mP
  refine Eq.trans (upd_fld (p := MsgC.mer) (fun _ => rfl)) ?_
  rfl
theorem made_ter : (gM r m A k c (chainM r m (msg0 m))).ter = if wantB r 84 (!m.ter.toList.isEmpty) = true then bstr (txtL m.ter.data.toList 35 0) else (⟨#[]⟩ : ByteArray) := by
  unfold chainM
  unfold gM
  refine Eq.trans (upd_fld (p := MsgC.ter) (fun _ => rfl)) ?_
  unfold mO
  refine Eq.trans (upd_fld (p := MsgC.ter) (fun _ => rfl)) ?_
  unfold mN
  refine Eq.trans (upd_fld (p := MsgC.ter) (fun _ => rfl)) ?_
  unfold mD
  refine Eq.trans (upd_fld (p := MsgC.ter) (fun _ => rfl)) ?_
  unfold mE
  refine Eq.trans (upd_fld (p := MsgC.ter) (fun _ => rfl)) ?_
  unfold mA
  refine Eq.trans (upd_fld (p := MsgC.ter) (fun _ => rfl)) ?_
  unfold mT
  refine Eq.trans (upd_own (p := MsgC.ter) (fun _ => rfl)) ?_
  refine congrArg (fun z => if _ = true then _ else z) ?_
  unfold mM
  refine Eq.trans (upd_fld (p := MsgC.ter) (fun _ => rfl)) ?_
  unfold mR
  refine Eq.trans (upd_fld (p := MsgC.ter) (fun _ => rfl)) ?_
  unfold mC
  refine Eq.trans (upd_fld (p := MsgC.ter) (fun _ => rfl)) ?_
  unfold mP
  refine Eq.trans (upd_fld (p := MsgC.ter) (fun _ => rfl)) ?_
  rfl
theorem made_app : (gM r m A k c (chainM r m (msg0 m))).app = if wantB r 65 (!m.app.toList.isEmpty) = true then bstr (alnL m.app.data.toList 6) else (⟨#[]⟩ : ByteArray) := by
  unfold chainM
  unfold gM
  refine Eq.trans (upd_fld (p := MsgC.app) (fun _ => rfl)) ?_
  unfold mO
  refine Eq.trans (upd_fld (p := MsgC.app) (fun _ => rfl)) ?_
  unfold mN
  refine Eq.trans (upd_fld (p := MsgC.app) (fun _ => rfl)) ?_
  unfold mD
  refine Eq.trans (upd_fld (p := MsgC.app) (fun _ => rfl)) ?_
  unfold mE
  refine Eq.trans (upd_fld (p := MsgC.app) (fun _ => rfl)) ?_
  unfold mA
  refine Eq.trans (upd_own (p := MsgC.app) (fun _ => rfl)) ?_
  refine congrArg (fun z => if _ = true then _ else z) ?_
  unfold mT
  refine Eq.trans (upd_fld (p := MsgC.app) (fun _ => rfl)) ?_
  unfold mM
  refine Eq.trans (upd_fld (p := MsgC.app) (fun _ => rfl)) ?_
  unfold mR
  refine Eq.trans (upd_fld (p := MsgC.app) (fun _ => rfl)) ?_
  unfold mC
  refine Eq.trans (upd_fld (p := MsgC.app) (fun _ => rfl)) ?_
  unfold mP
  refine Eq.trans (upd_fld (p := MsgC.app) (fun _ => rfl)) ?_
  rfl
theorem made_entry : (gM r m A k c (chainM r m (msg0 m))).entry = if wantB r 69 (m.entry != 0) = true then (modN m.entry 999 : Int) + 1 else (0 : Int) := by
  unfold chainM
  unfold gM
  refine Eq.trans (upd_fld (p := MsgC.entry) (fun _ => rfl)) ?_
  unfold mO
  refine Eq.trans (upd_fld (p := MsgC.entry) (fun _ => rfl)) ?_
  unfold mN
  refine Eq.trans (upd_fld (p := MsgC.entry) (fun _ => rfl)) ?_
  unfold mD
  refine Eq.trans (upd_fld (p := MsgC.entry) (fun _ => rfl)) ?_
  unfold mE
  refine Eq.trans (upd_own (p := MsgC.entry) (fun _ => rfl)) ?_
  refine congrArg (fun z => if _ = true then _ else z) ?_
  unfold mA
  refine Eq.trans (upd_fld (p := MsgC.entry) (fun _ => rfl)) ?_
  unfold mT
  refine Eq.trans (upd_fld (p := MsgC.entry) (fun _ => rfl)) ?_
  unfold mM
  refine Eq.trans (upd_fld (p := MsgC.entry) (fun _ => rfl)) ?_
  unfold mR
  refine Eq.trans (upd_fld (p := MsgC.entry) (fun _ => rfl)) ?_
  unfold mC
  refine Eq.trans (upd_fld (p := MsgC.entry) (fun _ => rfl)) ?_
  unfold mP
  refine Eq.trans (upd_fld (p := MsgC.entry) (fun _ => rfl)) ?_
  rfl
theorem made_act : (gM r m A k c (chainM r m (msg0 m))).act = if wantB r 68 (!m.act.toList.isEmpty) = true then actP m else (⟨#[]⟩ : ByteArray) := by
  unfold chainM
  unfold gM
  refine Eq.trans (upd_fld (p := MsgC.act) (fun _ => rfl)) ?_
  unfold mO
  refine Eq.trans (upd_fld (p := MsgC.act) (fun _ => rfl)) ?_
  unfold mN
  refine Eq.trans (upd_fld (p := MsgC.act) (fun _ => rfl)) ?_
  unfold mD
  refine Eq.trans (upd_own (p := MsgC.act) (fun _ => rfl)) ?_
  refine congrArg (fun z => if _ = true then _ else z) ?_
  unfold mE
  refine Eq.trans (upd_fld (p := MsgC.act) (fun _ => rfl)) ?_
  unfold mA
  refine Eq.trans (upd_fld (p := MsgC.act) (fun _ => rfl)) ?_
  unfold mT
  refine Eq.trans (upd_fld (p := MsgC.act) (fun _ => rfl)) ?_
  unfold mM
  refine Eq.trans (upd_fld (p := MsgC.act) (fun _ => rfl)) ?_
  unfold mR
  refine Eq.trans (upd_fld (p := MsgC.act) (fun _ => rfl)) ?_
  unfold mC
  refine Eq.trans (upd_fld (p := MsgC.act) (fun _ => rfl)) ?_
  unfold mP
  refine Eq.trans (upd_fld (p := MsgC.act) (fun _ => rfl)) ?_
  rfl
theorem made_rea : (gM r m A k c (chainM r m (msg0 m))).rea = if wantB r 78 (!m.rea.toList.isEmpty) = true then bstr (digL m.rea.data.toList 4 4) else (⟨#[]⟩ : ByteArray) := by
  unfold chainM
  unfold gM
  refine Eq.trans (upd_fld (p := MsgC.rea) (fun _ => rfl)) ?_
  unfold mO
  refine Eq.trans (upd_fld (p := MsgC.rea) (fun _ => rfl)) ?_
  unfold mN
  refine Eq.trans (upd_own (p := MsgC.rea) (fun _ => rfl)) ?_
  refine congrArg (fun z => if _ = true then _ else z) ?_
  unfold mD
  refine Eq.trans (upd_fld (p := MsgC.rea) (fun _ => rfl)) ?_
  unfold mE
  refine Eq.trans (upd_fld (p := MsgC.rea) (fun _ => rfl)) ?_
  unfold mA
  refine Eq.trans (upd_fld (p := MsgC.rea) (fun _ => rfl)) ?_
  unfold mT
  refine Eq.trans (upd_fld (p := MsgC.rea) (fun _ => rfl)) ?_
  unfold mM
  refine Eq.trans (upd_fld (p := MsgC.rea) (fun _ => rfl)) ?_
  unfold mR
  refine Eq.trans (upd_fld (p := MsgC.rea) (fun _ => rfl)) ?_
  unfold mC
  refine Eq.trans (upd_fld (p := MsgC.rea) (fun _ => rfl)) ?_
  unfold mP
  refine Eq.trans (upd_fld (p := MsgC.rea) (fun _ => rfl)) ?_
  rfl
theorem made_ostan : (gM r m A k c (chainM r m (msg0 m))).ostan = if wantB r 79 (!m.otime.toList.isEmpty) = true then (modN m.ostan 1000000 : Int) else (0 : Int) := by
  unfold chainM
  unfold gM
  refine Eq.trans (upd_fld (p := MsgC.ostan) (fun _ => rfl)) ?_
  unfold mO
  refine Eq.trans (upd_own (p := MsgC.ostan) (fun _ => rfl)) ?_
  refine congrArg (fun z => if _ = true then _ else z) ?_
  unfold mN
  refine Eq.trans (upd_fld (p := MsgC.ostan) (fun _ => rfl)) ?_
  unfold mD
  refine Eq.trans (upd_fld (p := MsgC.ostan) (fun _ => rfl)) ?_
  unfold mE
  refine Eq.trans (upd_fld (p := MsgC.ostan) (fun _ => rfl)) ?_
  unfold mA
  refine Eq.trans (upd_fld (p := MsgC.ostan) (fun _ => rfl)) ?_
  unfold mT
  refine Eq.trans (upd_fld (p := MsgC.ostan) (fun _ => rfl)) ?_
  unfold mM
  refine Eq.trans (upd_fld (p := MsgC.ostan) (fun _ => rfl)) ?_
  unfold mR
  refine Eq.trans (upd_fld (p := MsgC.ostan) (fun _ => rfl)) ?_
  unfold mC
  refine Eq.trans (upd_fld (p := MsgC.ostan) (fun _ => rfl)) ?_
  unfold mP
  refine Eq.trans (upd_fld (p := MsgC.ostan) (fun _ => rfl)) ?_
  rfl
theorem made_otime : (gM r m A k c (chainM r m (msg0 m))).otime = if wantB r 79 (!m.otime.toList.isEmpty) = true then bstr (nowTL m.otime.data.toList) else (⟨#[]⟩ : ByteArray) := by
  unfold chainM
  unfold gM
  refine Eq.trans (upd_fld (p := MsgC.otime) (fun _ => rfl)) ?_
  unfold mO
  refine Eq.trans (upd_own (p := MsgC.otime) (fun _ => rfl)) ?_
  refine congrArg (fun z => if _ = true then _ else z) ?_
  unfold mN
  refine Eq.trans (upd_fld (p := MsgC.otime) (fun _ => rfl)) ?_
  unfold mD
  refine Eq.trans (upd_fld (p := MsgC.otime) (fun _ => rfl)) ?_
  unfold mE
  refine Eq.trans (upd_fld (p := MsgC.otime) (fun _ => rfl)) ?_
  unfold mA
  refine Eq.trans (upd_fld (p := MsgC.otime) (fun _ => rfl)) ?_
  unfold mT
  refine Eq.trans (upd_fld (p := MsgC.otime) (fun _ => rfl)) ?_
  unfold mM
  refine Eq.trans (upd_fld (p := MsgC.otime) (fun _ => rfl)) ?_
  unfold mR
  refine Eq.trans (upd_fld (p := MsgC.otime) (fun _ => rfl)) ?_
  unfold mC
  refine Eq.trans (upd_fld (p := MsgC.otime) (fun _ => rfl)) ?_
  unfold mP
  refine Eq.trans (upd_fld (p := MsgC.otime) (fun _ => rfl)) ?_
  rfl
theorem made_tn : (gM r m A k c (chainM r m (msg0 m))).tn = if wantG r m = true then k else 0 := by
  unfold chainM
  unfold gM
  refine Eq.trans (upd_own (p := MsgC.tn) (fun _ => rfl)) ?_
  refine congrArg (fun z => if _ = true then _ else z) ?_
  unfold mO
  refine Eq.trans (upd_fld (p := MsgC.tn) (fun _ => rfl)) ?_
  unfold mN
  refine Eq.trans (upd_fld (p := MsgC.tn) (fun _ => rfl)) ?_
  unfold mD
  refine Eq.trans (upd_fld (p := MsgC.tn) (fun _ => rfl)) ?_
  unfold mE
  refine Eq.trans (upd_fld (p := MsgC.tn) (fun _ => rfl)) ?_
  unfold mA
  refine Eq.trans (upd_fld (p := MsgC.tn) (fun _ => rfl)) ?_
  unfold mT
  refine Eq.trans (upd_fld (p := MsgC.tn) (fun _ => rfl)) ?_
  unfold mM
  refine Eq.trans (upd_fld (p := MsgC.tn) (fun _ => rfl)) ?_
  unfold mR
  refine Eq.trans (upd_fld (p := MsgC.tn) (fun _ => rfl)) ?_
  unfold mC
  refine Eq.trans (upd_fld (p := MsgC.tn) (fun _ => rfl)) ?_
  unfold mP
  refine Eq.trans (upd_fld (p := MsgC.tn) (fun _ => rfl)) ?_
  rfl
theorem made_there (hk : wantG r m = true → 1 ≤ k) : (gM r m A k c (chainM r m (msg0 m))).there = [wantB r 80 (!m.pan.toList.isEmpty), wantB r 67 (!m.cur.toList.isEmpty), wantB r 82 (!m.rrn.toList.isEmpty), wantB r 77 (!m.mer.toList.isEmpty), wantB r 84 (!m.ter.toList.isEmpty), wantB r 65 (!m.app.toList.isEmpty), wantB r 69 (m.entry != 0), wantB r 68 (!m.act.toList.isEmpty), wantB r 78 (!m.rea.toList.isEmpty), wantB r 79 (!m.otime.toList.isEmpty), wantG r m] := by
  unfold MsgC.there
  rw [made_pan, made_cur, made_rrn, made_mer, made_ter, made_app, made_entry, made_act, made_rea, made_otime, made_tn]
  have h0 : ((⟨#[]⟩ : ByteArray).toList == []) = true := by rw [s_list]; rfl
  rw [part_there (bs_ne (dig_ne _ 12 19 (by omega))) h0, part_there (bs_ne (dig_ne _ 3 3 (by omega))) h0, part_there (bs_ne (aln_ne _ 12 (by omega))) h0, part_there (bs_ne (txtL_ne _ _ _)) h0, part_there (bs_ne (txtL_ne _ _ _)) h0, part_there (bs_ne (aln_ne _ 6 (by omega))) h0, part_there (act_ne m) h0, part_there (bs_ne (dig_ne _ 4 4 (by omega))) h0, part_there (bs_ne (now_ne _)) h0]
  have h1 : ((if (wantB r 69 (m.entry != 0)) = true then (modN m.entry 999 : Int) + 1 else 0) != 0) = wantB r 69 (m.entry != 0) := by
    by_cases h : (wantB r 69 (m.entry != 0)) = true
    · rw [if_pos h, h]; exact ent_ne m
    · rw [if_neg h, Bool.eq_false_iff.2 h]; rfl
  have h2 : decide (0 < (if wantG r m = true then k else 0)) = wantG r m := by
    by_cases h : wantG r m = true
    · rw [if_pos h, h]; exact decide_eq_true (hk h)
    · rw [if_neg h, Bool.eq_false_iff.2 h]; rfl
  rw [h1, h2]
theorem made_bad : (gM r m A k c (chainM r m (msg0 m))).bad = false := by
  unfold MsgC.bad
  rw [made_cur, made_amount, made_otime, made_ostan]
  have h1 : (((if (wantB r 67 (!m.cur.toList.isEmpty)) = true then bstr (digL m.cur.data.toList 3 3) else (⟨#[]⟩ : ByteArray)).toList == []) && ((if (wantB r 67 (!m.cur.toList.isEmpty)) = true then m.amount.tmod 1000000000000 else 0) != 0)) = false := by
    by_cases h : (wantB r 67 (!m.cur.toList.isEmpty)) = true
    · rw [if_pos h, if_pos h, bs_ne (dig_ne _ 3 3 (by omega))]; rfl
    · rw [if_neg h, if_neg h]; simp
  have h2 : (((if (wantB r 79 (!m.otime.toList.isEmpty)) = true then bstr (nowTL m.otime.data.toList) else (⟨#[]⟩ : ByteArray)).toList == []) && ((if (wantB r 79 (!m.otime.toList.isEmpty)) = true then (modN m.ostan 1000000 : Int) else 0) != 0)) = false := by
    by_cases h : (wantB r 79 (!m.otime.toList.isEmpty)) = true
    · rw [if_pos h, if_pos h, bs_ne (now_ne _)]; rfl
    · rw [if_neg h, if_neg h]; simp
  rw [h1, h2]
  rfl
end
/-- the letters of what is there -/
theorem hasP_mem (th : List Bool) : ∀ k c, c ∈ hasF th k ↔ ∃ i, i < k ∧ (th[i]?).getD false = true ∧ (lettersL[i]?).getD 0 = c
  | 0, c => by simp [hasF]
  | k + 1, c => by
    unfold hasF
    rw [List.mem_append, hasP_mem th k c]
    constructor
    · rintro (⟨i, hi, h1, h2⟩ | h)
      · exact ⟨i, by omega, h1, h2⟩
      · split at h
        · rename_i ht
          rw [List.mem_singleton] at h
          exact ⟨k, by omega, ht, h.symm⟩
        · cases h
    · rintro ⟨i, hi, h1, h2⟩
      rcases Nat.lt_or_ge i k with h | h
      · exact .inl ⟨i, h, h1, h2⟩
      · obtain rfl : i = k := by omega
        right
        rw [if_pos h1, h2]
        simp
theorem inL_mem {l : List UInt8} {c : UInt8} : inL l c = true ↔ c ∈ l := by
  unfold inL
  rw [List.any_eq_true]
  constructor
  · rintro ⟨x, hx, e⟩
    rw [beq_iff_eq] at e
    exact e ▸ hx
  · intro h
    exact ⟨c, h, beq_self_eq_true c⟩
/-- each letter of a row is one of the eleven -/
theorem row_letters {n : Nat} (h : n < 12) : ∀ c, c ∈ (kRow n).must.data.toList → ∃ i, i < 11 ∧ (lettersL[i]?).getD 0 = c := by
  have hall : (List.range 12).all (fun n => (kRow n).must.data.toList.all (fun c => (List.range 11).any (fun i => (lettersL[i]?).getD 0 == c))) = true := by decide +kernel
  intro c hc
  have h1 := List.all_eq_true.1 (List.all_eq_true.1 hall n (List.mem_range.2 h)) c hc
  obtain ⟨i, hi, e⟩ := List.any_eq_true.1 h1
  exact ⟨i, List.mem_range.1 hi, by simpa using e⟩
theorem fits_wants {n : Nat} (h1 : 1 ≤ n) (h2 : n < 12) (th : List Bool) (ths : Nat → Bool) (ht : ∀ i, i < 11 → (th[i]?).getD false = wantB (kRow n) ((lettersL[i]?).getD 0) (ths i)) : fitsR (kRow n) (hasL th) false = 0 := by
  have hc : ¬ (kRow n).code.data.toList = [] := by
    have hall : (List.range 12).all (fun n => n == 0 || decide (¬ (kRow n).code.data.toList = [])) = true := by decide +kernel
    have h := List.all_eq_true.1 hall n (List.mem_range.2 h2)
    simpa [show n ≠ 0 by omega] using h
  unfold fitsR
  rw [if_neg hc]
  have hm : (kRow n).must.data.toList.all (fun c => inL (hasL th) c) = true := by
    rw [List.all_eq_true]
    intro c hcm
    obtain ⟨i, hi, e⟩ := row_letters h2 c hcm
    rw [inL_mem]
    refine (hasP_mem th 11 c).2 ⟨i, hi, ?_, e⟩
    rw [ht i hi, e]
    unfold wantB
    rw [inL_mem.2 hcm]
    rfl
  have hy : (hasL th).all (fun c => inL ((kRow n).must.data.toList ++ (kRow n).may.data.toList) c) = true := by
    rw [List.all_eq_true]
    intro c hcm
    obtain ⟨i, hi, h3, e⟩ := (hasP_mem th 11 c).1 hcm
    rw [ht i hi, e] at h3
    rw [inL_mem, List.mem_append]
    unfold wantB at h3
    rw [Bool.or_eq_true, Bool.and_eq_true] at h3
    rcases h3 with h3 | ⟨_, h3⟩
    · exact .inl (inL_mem.1 h3)
    · exact .inr (inL_mem.1 h3)
  rw [hm, hy]
  rfl
/-- whether each is there -/
def thsM (m : MsgC) : List Bool := [!m.pan.toList.isEmpty, !m.cur.toList.isEmpty, !m.rrn.toList.isEmpty, !m.mer.toList.isEmpty, !m.ter.toList.isEmpty, !m.app.toList.isEmpty, m.entry != 0, !m.act.toList.isEmpty, !m.rea.toList.isEmpty, !m.otime.toList.isEmpty, decide (0 < m.tn)]
/-- a message that is made fits -/
theorem made_fits (m : MsgC) (A : Option Addr) (k c : Nat) (hk : wantG (kRow (kindN m + 1)) m = true → 1 ≤ k) : fitsM (gM (kRow (kindN m + 1)) m A k c (chainM (kRow (kindN m + 1)) m (msg0 m))) = 0 := by
  have hlt := kindN_lt m
  unfold fitsM
  rw [made_bad, made_there _ _ _ _ _ hk, made_kind]
  rw [show rowOf ((kindN m + 1 : Nat) : Int) = kRow (kindN m + 1) by unfold rowOf; rw [if_pos (by omega), Int.toNat_natCast]]
  refine fits_wants (by omega) (by omega) _ (fun i => ((thsM m)[i]?).getD false) ?_
  intro i hi
  have h : i = 0 ∨ i = 1 ∨ i = 2 ∨ i = 3 ∨ i = 4 ∨ i = 5 ∨ i = 6 ∨ i = 7 ∨ i = 8 ∨ i = 9 ∨ i = 10 := by omega
  rcases h with rfl | rfl | rfl | rfl | rfl | rfl | rfl | rfl | rfl | rfl | rfl <;> rfl
end Go.Proofs.YtdfehdjpbmkaoaaDoor
/- KindsAmounts: the walk. -/
namespace Go.Proofs.YtdfehdjpbmkaoaaDoor
open Go.RowKit
set_option maxHeartbeats 4000000
set_option linter.unusedVariables false
set_option linter.unusedSimpArgs false

/-- a message that was made, with what plays no part as it came in -/
def mix (o m : MsgC) : MsgC := { o with time := m.time, acq := m.acq, note := m.note, eA := m.eA, en := m.en, ec := m.ec, key := m.key }
theorem mix_fits (o m : MsgC) : fitsM (mix o m) = fitsM o := rfl
theorem core_fits {o o' : MsgC} (h : Core o o') : fitsM o' = fitsM o := by obtain ⟨_, _, _, _, _, _, _, _, rfl⟩ := h; rfl
theorem core_kind {o o' : MsgC} (h : Core o o') : o'.kind = o.kind := by obtain ⟨_, _, _, _, _, _, _, _, rfl⟩ := h; rfl
theorem yields_load {P : Program} {w : World} (o : Oper) (a : Act) (ty : TypeId) (x : Operand) (ho : o.op = .load ty x) (b : Nat) (hx : a.eval x = .pointer (some ⟨b, 0, none⟩)) (cs : List Value) (d : TypeDesc) (hc : w.rangeAt b 0 cs)
    (hu : P.underlying ty = some d) (hd : d.isRow = true) (hi : (P.info? ty).map (·.size) = some cs.length) : (execOp a.eval o).run P w = .ok (.value (.agg cs.toArray)) w := by
  unfold execOp
  simp only [ho, hx, Instr.loadAt, Instr.sureAddr, Sem.run_bind, Sem.run_pure, Result.andThen_ok, run_loadVar_mid w b 0 ty cs d hc hu hd hi]
theorem bad_fits {m : MsgC} (h : (rowOf m.kind).code.data.toList ≠ []) (hb : m.bad = true) : fitsM m = 19 := by
  unfold fitsM fitsR
  rw [if_neg h, hb]
  split
  · rfl
  · split
    · rfl
    · rfl
theorem fits_code {m : MsgC} (h : fitsM m = 0) : (rowOf m.kind).code.data.toList ≠ [] := by
  intro e
  unfold fitsM fitsR at h
  rw [if_pos e] at h
  cases h
set_option maxRecDepth 20000 in
theorem amounts_walk {N : Nat → Prop} {m : MsgC} {tl : List (Int × List UInt8)} {el : List (ByteArray × ByteArray)} {ol : List (Int × List UInt8)} {amount : Nat} {stan : Int} (w : World) (hT : Tabs w) (hm : MsgR w N m tl el ol) (hN : ∀ i, N i → i < w.heap.size) :
    Calls Tryd.prog 4 #[m.val, .int .u64 (amount : Int), .int .i64 stan] w fun e w' => e = .returned (.bool true) ∧ Fr No w w' := by
  have hb0 : Bk (w.alloc (.cells m.cells.toArray 29)) w.heap.size 29 m.cells := Bk.new w _ _
  have hfa : Fr No w (w.alloc (.cells m.cells.toArray 29)) := (Fr.refl No w).alloc _
  obtain ⟨W, hW⟩ : ∃ W, w.alloc (.cells m.cells.toArray 29) = W := ⟨_, rfl⟩
  rw [hW] at hb0 hfa
  have hT1 : Tabs W := hT.fr hfa
  have hmW := hm.no hfa
  have hNW : ∀ i, N i → i < W.heap.size := fun i hi => Nat.lt_of_lt_of_le (hN i hi) hfa.size
  have HS := Lib.hid (p_small W hmW)
  have HB0 := Lib.hid hb0; have HFA := Lib.hid hfa; have HMW := Lib.hid hmW; have HNW := Lib.hid hNW
  unfold MsgC.val
  unfold MsgC.cells at hW
  clear hb0 hfa hmW hNW hm hN
  go_enter Tryd.func4, Tryd.ntmps4
  go_upto_if 12 with (first
    | (refine wpList_load_bk rfl 29 _ rfl w.heap.size rfl m.cells _ HB0.out (Tryd.underlying29) rfl (msgSize m) ?_)
    | (go_at_call 5; refine (HS.out).mono ?_; rintro e w1 ⟨sb, rfl, hf1⟩; have HF1 := Lib.hid hf1; have hT2 : Tabs w1 := hT1.fr hf1; have HB1 := Lib.hid (HB0.out.no hf1); clear hf1))
  clear hT1
  cases sb with
  | false =>
    go_wp2_with (go_at_call 6; refine (kin_awake _).mono ?_; rintro e w2 ⟨rfl, hf2⟩)
    go_ret
    exact ⟨rfl, HFA.out.trans (HF1.out.trans hf2)⟩
  | true =>
    have hmsg := p_message_xml w1 (HMW.out.no HF1.out) (fun i hi => Nat.lt_of_lt_of_le (HNW.out i hi) HF1.out.size)
    have HMSG := Lib.hid hmsg
    clear hmsg
    go_upto_region 4 with (first
      | (refine wpList_load_bk rfl 29 _ rfl w.heap.size rfl m.cells _ HB1.out (Tryd.underlying29) rfl (msgSize m) ?_)
      | (go_at_call 7; refine (HMSG.out).mono ?_; rintro e w3 ⟨TA, tk, tc, tls, o7, rfl, hcore, htags, hf3⟩; have HF3 := Lib.hid hf3; have hT3 : Tabs w3 := hT2.fr hf3; have HB3 := Lib.hid (HB1.out.no hf3); have HCO := Lib.hid hcore; have HTG := Lib.hid htags; clear hf3 hcore htags)
      | (refine wpList_store_bk rfl 29 _ _ rfl w3.heap.size rfl m0c o7.cells rfl (Bk.new w3 29 m0c.toArray) rfl (msgSize o7) (msg_one2 o7) ?_; intro w4 b4 f4 s4; have BX4 := Lib.hid b4; have F4 := Lib.hid f4; clear b4 f4))
    obtain ⟨gx, hgx⟩ : ∃ gx, w3.heap.size = gx := ⟨_, rfl⟩
    have hwgx : w.heap.size < gx := by
      have h1 := HB3.out.lt
      omega
    have hal : Fr No w3 (w3.alloc (.cells m0c.toArray 29)) := (Fr.refl No w3).alloc _
    have hfw3 : Fr No w w3 := HFA.out.trans (HF1.out.trans HF3.out)
    have hf34 : Fr (Just gx) w3 w4 := by rw [← hgx]; exact hal.no.trans F4.out
    have hbx : Bk w4 gx 29 o7.cells := by rw [← hgx]; exact BX4.out
    have hbm : Bk w4 w.heap.size 29 m.cells := HB3.out.fr hf34 (fun e => by have e : w.heap.size = gx := e; omega)
    have hfw4 : Fr No w w4 := hfw3.trans_just hf34 (by omega)
    have HX := Lib.hid hbx; have HM4 := Lib.hid hbm; have FW4 := Lib.hid hfw4; have HGX := Lib.hid hwgx
    clear hal hfw3 hf34 hbx hbm hfw4 hwgx BX4 F4 s4 HB3 HB1 HB0 HMSG hT2 hT3 HS HF3 HF1 hW
    rw [hgx]
    clear hgx
    have z2 := HX.out.frozen 2
    have z3 := HX.out.frozen 3
    have z17 := HX.out.frozen 17
    have z18 := HX.out.frozen 18
    have z19 := HX.out.frozen 19
    have x2 : w4.cell? ⟨gx, 2, none⟩ = some (.string o7.time) := HX.out.cell 2
    have x3 : w4.cell? ⟨gx, 3, none⟩ = some (.string o7.acq) := HX.out.cell 3
    have x17 : w4.cell? ⟨gx, 17, none⟩ = some (.string o7.key) := HX.out.cell 17
    have x18 : w4.cell? ⟨gx, 18, none⟩ = some (.string o7.note) := HX.out.cell 18
    have x19 : w4.cell? ⟨gx, 19, none⟩ = some (.slice o7.eA o7.en o7.ec) := HX.out.cell 19
    have hgs : ¬ Just gx w.heap.size := fun e => by have e : w.heap.size = gx := e; have := HGX.out; omega
    have HGS := Lib.hid hgs
    clear hgs
    simp only [Act.put]
    go_cut [] from 16 to 30 (fun wx => Bk wx gx 29 (mix o7 m).cells ∧ Fr (Just gx) w4 wx)
    case first =>
      refine wp_region_held_drew (S := fun w' => Bk w' w.heap.size 29 m.cells ∧ Fr (Just gx) w4 w') (by kernel_rfl) (by exact ⟨HM4.out.no (Dr.refl _).drew.fr, (Dr.refl w4).drew.fr⟩) (fun hHeld => ?_)
      refine wpAnyH_take (i := 0) (v := ?va4x1) rfl (by kernel_rfl) (by kernel_rfl) (by kernel_rfl) (fun _ _ _ h => h) (Or.inl ⟨by rfl, ?hy4x1⟩) (by assumption) ?rest4x1
      case hy4x1 => (intro uw hSw; have e2 : uw.cell? ⟨w.heap.size, 2, none⟩ = some (.string m.time) := hSw.1.cell 2; have e3 : uw.cell? ⟨w.heap.size, 3, none⟩ = some (.string m.acq) := hSw.1.cell 3; have e17 : uw.cell? ⟨w.heap.size, 17, none⟩ = some (.string m.key) := hSw.1.cell 17; have e18 : uw.cell? ⟨w.heap.size, 18, none⟩ = some (.string m.note) := hSw.1.cell 18; have e19 : uw.cell? ⟨w.heap.size, 19, none⟩ = some (.slice m.eA m.en m.ec) := hSw.1.cell 19; clear hSw; go_simp; all_goals with_reducible rfl)
      try simp only [Act.put, List.setIfInBounds_toArray, List.set_cons_zero, List.set_cons_succ, List.getElem_toArray, List.getElem_cons_zero, List.getElem_cons_succ]
      refine wpAnyH_take (i := 1) (v := ?va4x2) rfl (by kernel_rfl) (by kernel_rfl) (by kernel_rfl) (fun _ _ _ h => h) (Or.inl ⟨by rfl, ?hy4x2⟩) (by assumption) ?rest4x2
      case hy4x2 => (intro uw hSw; have e2 : uw.cell? ⟨w.heap.size, 2, none⟩ = some (.string m.time) := hSw.1.cell 2; have e3 : uw.cell? ⟨w.heap.size, 3, none⟩ = some (.string m.acq) := hSw.1.cell 3; have e17 : uw.cell? ⟨w.heap.size, 17, none⟩ = some (.string m.key) := hSw.1.cell 17; have e18 : uw.cell? ⟨w.heap.size, 18, none⟩ = some (.string m.note) := hSw.1.cell 18; have e19 : uw.cell? ⟨w.heap.size, 19, none⟩ = some (.slice m.eA m.en m.ec) := hSw.1.cell 19; clear hSw; go_simp; all_goals with_reducible rfl)
      try simp only [Act.put, List.setIfInBounds_toArray, List.set_cons_zero, List.set_cons_succ, List.getElem_toArray, List.getElem_cons_zero, List.getElem_cons_succ]
      refine wpAnyH_take (i := 2) (v := ?va4x3) rfl (by kernel_rfl) (by kernel_rfl) (by kernel_rfl) (fun _ _ _ h => h) (Or.inl ⟨by rfl, ?hy4x3⟩) (by assumption) ?rest4x3
      case hy4x3 => (intro uw hSw; have e2 : uw.cell? ⟨w.heap.size, 2, none⟩ = some (.string m.time) := hSw.1.cell 2; have e3 : uw.cell? ⟨w.heap.size, 3, none⟩ = some (.string m.acq) := hSw.1.cell 3; have e17 : uw.cell? ⟨w.heap.size, 17, none⟩ = some (.string m.key) := hSw.1.cell 17; have e18 : uw.cell? ⟨w.heap.size, 18, none⟩ = some (.string m.note) := hSw.1.cell 18; have e19 : uw.cell? ⟨w.heap.size, 19, none⟩ = some (.slice m.eA m.en m.ec) := hSw.1.cell 19; clear hSw; go_simp; all_goals with_reducible rfl)
      try simp only [Act.put, List.setIfInBounds_toArray, List.set_cons_zero, List.set_cons_succ, List.getElem_toArray, List.getElem_cons_zero, List.getElem_cons_succ]
      refine wpAnyH_take (i := 3) (v := ?va4x4) rfl (by kernel_rfl) (by kernel_rfl) (by kernel_rfl) (fun _ _ _ h => h) (Or.inl ⟨by rfl, ?hy4x4⟩) (by assumption) ?rest4x4
      case hy4x4 => (intro uw hSw; have e2 : uw.cell? ⟨w.heap.size, 2, none⟩ = some (.string m.time) := hSw.1.cell 2; have e3 : uw.cell? ⟨w.heap.size, 3, none⟩ = some (.string m.acq) := hSw.1.cell 3; have e17 : uw.cell? ⟨w.heap.size, 17, none⟩ = some (.string m.key) := hSw.1.cell 17; have e18 : uw.cell? ⟨w.heap.size, 18, none⟩ = some (.string m.note) := hSw.1.cell 18; have e19 : uw.cell? ⟨w.heap.size, 19, none⟩ = some (.slice m.eA m.en m.ec) := hSw.1.cell 19; clear hSw; go_simp; all_goals with_reducible rfl)
      try simp only [Act.put, List.setIfInBounds_toArray, List.set_cons_zero, List.set_cons_succ, List.getElem_toArray, List.getElem_cons_zero, List.getElem_cons_succ]
      refine wpAnyH_take (i := 4) (v := ?va4x5) rfl (by kernel_rfl) (by kernel_rfl) (by kernel_rfl) (fun _ _ _ h => h) (Or.inl ⟨by rfl, ?hy4x5⟩) (by assumption) ?rest4x5
      case hy4x5 => (intro uw hSw; have e2 : uw.cell? ⟨w.heap.size, 2, none⟩ = some (.string m.time) := hSw.1.cell 2; have e3 : uw.cell? ⟨w.heap.size, 3, none⟩ = some (.string m.acq) := hSw.1.cell 3; have e17 : uw.cell? ⟨w.heap.size, 17, none⟩ = some (.string m.key) := hSw.1.cell 17; have e18 : uw.cell? ⟨w.heap.size, 18, none⟩ = some (.string m.note) := hSw.1.cell 18; have e19 : uw.cell? ⟨w.heap.size, 19, none⟩ = some (.slice m.eA m.en m.ec) := hSw.1.cell 19; clear hSw; go_simp; all_goals with_reducible rfl)
      try simp only [Act.put, List.setIfInBounds_toArray, List.set_cons_zero, List.set_cons_succ, List.getElem_toArray, List.getElem_cons_zero, List.getElem_cons_succ]
      refine wpAnyH_take (i := 5) (v := ?va4x6) rfl (by kernel_rfl) (by kernel_rfl) (by kernel_rfl) (fun _ _ _ h => h) (Or.inl ⟨by rfl, ?hy4x6⟩) (by assumption) ?rest4x6
      case hy4x6 => (intro uw hSw; have e2 : uw.cell? ⟨w.heap.size, 2, none⟩ = some (.string m.time) := hSw.1.cell 2; have e3 : uw.cell? ⟨w.heap.size, 3, none⟩ = some (.string m.acq) := hSw.1.cell 3; have e17 : uw.cell? ⟨w.heap.size, 17, none⟩ = some (.string m.key) := hSw.1.cell 17; have e18 : uw.cell? ⟨w.heap.size, 18, none⟩ = some (.string m.note) := hSw.1.cell 18; have e19 : uw.cell? ⟨w.heap.size, 19, none⟩ = some (.slice m.eA m.en m.ec) := hSw.1.cell 19; clear hSw; go_simp; all_goals with_reducible rfl)
      try simp only [Act.put, List.setIfInBounds_toArray, List.set_cons_zero, List.set_cons_succ, List.getElem_toArray, List.getElem_cons_zero, List.getElem_cons_succ]
      refine wpAnyH_take (i := 6) (v := ?va4x7) rfl (by kernel_rfl) (by kernel_rfl) (by kernel_rfl) (fun _ _ _ h => h) (Or.inl ⟨by rfl, ?hy4x7⟩) (by assumption) ?rest4x7
      case hy4x7 => (intro uw hSw; have e2 : uw.cell? ⟨w.heap.size, 2, none⟩ = some (.string m.time) := hSw.1.cell 2; have e3 : uw.cell? ⟨w.heap.size, 3, none⟩ = some (.string m.acq) := hSw.1.cell 3; have e17 : uw.cell? ⟨w.heap.size, 17, none⟩ = some (.string m.key) := hSw.1.cell 17; have e18 : uw.cell? ⟨w.heap.size, 18, none⟩ = some (.string m.note) := hSw.1.cell 18; have e19 : uw.cell? ⟨w.heap.size, 19, none⟩ = some (.slice m.eA m.en m.ec) := hSw.1.cell 19; clear hSw; go_simp; all_goals with_reducible rfl)
      try simp only [Act.put, List.setIfInBounds_toArray, List.set_cons_zero, List.set_cons_succ, List.getElem_toArray, List.getElem_cons_zero, List.getElem_cons_succ]
      refine wpAnyH_take (i := 7) (v := ?va4x8) rfl (by kernel_rfl) (by kernel_rfl) (by kernel_rfl) (fun _ _ _ h => h) (Or.inl ⟨by rfl, ?hy4x8⟩) (by assumption) ?rest4x8
      case hy4x8 => (intro uw hSw; have e2 : uw.cell? ⟨w.heap.size, 2, none⟩ = some (.string m.time) := hSw.1.cell 2; have e3 : uw.cell? ⟨w.heap.size, 3, none⟩ = some (.string m.acq) := hSw.1.cell 3; have e17 : uw.cell? ⟨w.heap.size, 17, none⟩ = some (.string m.key) := hSw.1.cell 17; have e18 : uw.cell? ⟨w.heap.size, 18, none⟩ = some (.string m.note) := hSw.1.cell 18; have e19 : uw.cell? ⟨w.heap.size, 19, none⟩ = some (.slice m.eA m.en m.ec) := hSw.1.cell 19; clear hSw; go_simp; all_goals with_reducible rfl)
      try simp only [Act.put, List.setIfInBounds_toArray, List.set_cons_zero, List.set_cons_succ, List.getElem_toArray, List.getElem_cons_zero, List.getElem_cons_succ]
      refine wpAnyH_take (i := 8) (v := ?va4x9) rfl (by kernel_rfl) (by kernel_rfl) (by kernel_rfl) (fun _ _ _ h => h) (Or.inl ⟨by rfl, ?hy4x9⟩) (by assumption) ?rest4x9
      case hy4x9 => (intro uw hSw; have e2 : uw.cell? ⟨w.heap.size, 2, none⟩ = some (.string m.time) := hSw.1.cell 2; have e3 : uw.cell? ⟨w.heap.size, 3, none⟩ = some (.string m.acq) := hSw.1.cell 3; have e17 : uw.cell? ⟨w.heap.size, 17, none⟩ = some (.string m.key) := hSw.1.cell 17; have e18 : uw.cell? ⟨w.heap.size, 18, none⟩ = some (.string m.note) := hSw.1.cell 18; have e19 : uw.cell? ⟨w.heap.size, 19, none⟩ = some (.slice m.eA m.en m.ec) := hSw.1.cell 19; clear hSw; go_simp; all_goals with_reducible rfl)
      try simp only [Act.put, List.setIfInBounds_toArray, List.set_cons_zero, List.set_cons_succ, List.getElem_toArray, List.getElem_cons_zero, List.getElem_cons_succ]
      refine wpAnyH_take (i := 9) (v := ?va4x10) rfl (by kernel_rfl) (by kernel_rfl) (by kernel_rfl) (fun _ _ _ h => h) (Or.inl ⟨by rfl, ?hy4x10⟩) (by assumption) ?rest4x10
      case hy4x10 => (intro uw hSw; have e2 : uw.cell? ⟨w.heap.size, 2, none⟩ = some (.string m.time) := hSw.1.cell 2; have e3 : uw.cell? ⟨w.heap.size, 3, none⟩ = some (.string m.acq) := hSw.1.cell 3; have e17 : uw.cell? ⟨w.heap.size, 17, none⟩ = some (.string m.key) := hSw.1.cell 17; have e18 : uw.cell? ⟨w.heap.size, 18, none⟩ = some (.string m.note) := hSw.1.cell 18; have e19 : uw.cell? ⟨w.heap.size, 19, none⟩ = some (.slice m.eA m.en m.ec) := hSw.1.cell 19; clear hSw; go_simp; all_goals with_reducible rfl)
      try simp only [Act.put, List.setIfInBounds_toArray, List.set_cons_zero, List.set_cons_succ, List.getElem_toArray, List.getElem_cons_zero, List.getElem_cons_succ]
      refine wpAnyH_take (i := 10) (v := ?va4x11) rfl (by kernel_rfl) (by kernel_rfl) (by kernel_rfl) (fun _ _ _ h => h) (Or.inl ⟨by rfl, ?hy4x11⟩) (by assumption) ?rest4x11
      case hy4x11 => (intro uw hSw; have e2 : uw.cell? ⟨w.heap.size, 2, none⟩ = some (.string m.time) := hSw.1.cell 2; have e3 : uw.cell? ⟨w.heap.size, 3, none⟩ = some (.string m.acq) := hSw.1.cell 3; have e17 : uw.cell? ⟨w.heap.size, 17, none⟩ = some (.string m.key) := hSw.1.cell 17; have e18 : uw.cell? ⟨w.heap.size, 18, none⟩ = some (.string m.note) := hSw.1.cell 18; have e19 : uw.cell? ⟨w.heap.size, 19, none⟩ = some (.slice m.eA m.en m.ec) := hSw.1.cell 19; clear hSw; go_simp; all_goals with_reducible rfl)
      try simp only [Act.put, List.setIfInBounds_toArray, List.set_cons_zero, List.set_cons_succ, List.getElem_toArray, List.getElem_cons_zero, List.getElem_cons_succ]
      refine wpAnyH_ready (rs := [11]) (by kernel_rfl) (by simp) ?_
      refine AllReadyH.cons rfl (fun K hK => ?_) AllReadyH.nil
      go_simp
      refine hK.out _ _ (by exact ⟨hHeld.1.fr ((Fr.refl (Just gx) _).setCell (p := ⟨gx, 2, none⟩) (.inl (Just.at _)) _) HGS.out, hHeld.2.setCell (p := ⟨gx, 2, none⟩) (.inl (Just.at _)) _⟩) (fun hHeld2 => ?_)
      clear hK K hHeld
      have hHeld := hHeld2
      clear hHeld2
      try simp only [Act.put, List.setIfInBounds_toArray, List.set_cons_zero, List.set_cons_succ, List.getElem_toArray, List.getElem_cons_zero, List.getElem_cons_succ]
      refine wpAnyH_take (i := 12) (v := ?va4x12) rfl (by kernel_rfl) (by kernel_rfl) (by kernel_rfl) (fun _ _ _ h => h) (Or.inl ⟨by rfl, ?hy4x12⟩) (by assumption) ?rest4x12
      case hy4x12 => (intro uw hSw; have e2 : uw.cell? ⟨w.heap.size, 2, none⟩ = some (.string m.time) := hSw.1.cell 2; have e3 : uw.cell? ⟨w.heap.size, 3, none⟩ = some (.string m.acq) := hSw.1.cell 3; have e17 : uw.cell? ⟨w.heap.size, 17, none⟩ = some (.string m.key) := hSw.1.cell 17; have e18 : uw.cell? ⟨w.heap.size, 18, none⟩ = some (.string m.note) := hSw.1.cell 18; have e19 : uw.cell? ⟨w.heap.size, 19, none⟩ = some (.slice m.eA m.en m.ec) := hSw.1.cell 19; clear hSw; go_simp; all_goals with_reducible rfl)
      try simp only [Act.put, List.setIfInBounds_toArray, List.set_cons_zero, List.set_cons_succ, List.getElem_toArray, List.getElem_cons_zero, List.getElem_cons_succ]
      refine wpAnyH_ready (rs := [13]) (by kernel_rfl) (by simp) ?_
      refine AllReadyH.cons rfl (fun K hK => ?_) AllReadyH.nil
      go_simp
      refine hK.out _ _ (by exact ⟨hHeld.1.fr ((Fr.refl (Just gx) _).setCell (p := ⟨gx, 3, none⟩) (.inl (Just.at _)) _) HGS.out, hHeld.2.setCell (p := ⟨gx, 3, none⟩) (.inl (Just.at _)) _⟩) (fun hHeld2 => ?_)
      clear hK K hHeld
      have hHeld := hHeld2
      clear hHeld2
      try simp only [Act.put, List.setIfInBounds_toArray, List.set_cons_zero, List.set_cons_succ, List.getElem_toArray, List.getElem_cons_zero, List.getElem_cons_succ]
      refine wpAnyH_take (i := 14) (v := ?va4x13) rfl (by kernel_rfl) (by kernel_rfl) (by kernel_rfl) (fun _ _ _ h => h) (Or.inl ⟨by rfl, ?hy4x13⟩) (by assumption) ?rest4x13
      case hy4x13 => (intro uw hSw; have e2 : uw.cell? ⟨w.heap.size, 2, none⟩ = some (.string m.time) := hSw.1.cell 2; have e3 : uw.cell? ⟨w.heap.size, 3, none⟩ = some (.string m.acq) := hSw.1.cell 3; have e17 : uw.cell? ⟨w.heap.size, 17, none⟩ = some (.string m.key) := hSw.1.cell 17; have e18 : uw.cell? ⟨w.heap.size, 18, none⟩ = some (.string m.note) := hSw.1.cell 18; have e19 : uw.cell? ⟨w.heap.size, 19, none⟩ = some (.slice m.eA m.en m.ec) := hSw.1.cell 19; clear hSw; go_simp; all_goals with_reducible rfl)
      try simp only [Act.put, List.setIfInBounds_toArray, List.set_cons_zero, List.set_cons_succ, List.getElem_toArray, List.getElem_cons_zero, List.getElem_cons_succ]
      refine wpAnyH_ready (rs := [15]) (by kernel_rfl) (by simp) ?_
      refine AllReadyH.cons rfl (fun K hK => ?_) AllReadyH.nil
      go_simp
      refine hK.out _ _ (by exact ⟨hHeld.1.fr ((Fr.refl (Just gx) _).setCell (p := ⟨gx, 18, none⟩) (.inl (Just.at _)) _) HGS.out, hHeld.2.setCell (p := ⟨gx, 18, none⟩) (.inl (Just.at _)) _⟩) (fun hHeld2 => ?_)
      clear hK K hHeld
      have hHeld := hHeld2
      clear hHeld2
      try simp only [Act.put, List.setIfInBounds_toArray, List.set_cons_zero, List.set_cons_succ, List.getElem_toArray, List.getElem_cons_zero, List.getElem_cons_succ]
      refine wpAnyH_take (i := 16) (v := ?va4x14) rfl (by kernel_rfl) (by kernel_rfl) (by kernel_rfl) (fun _ _ _ h => h) (Or.inl ⟨by rfl, ?hy4x14⟩) (by assumption) ?rest4x14
      case hy4x14 => (intro uw hSw; have e2 : uw.cell? ⟨w.heap.size, 2, none⟩ = some (.string m.time) := hSw.1.cell 2; have e3 : uw.cell? ⟨w.heap.size, 3, none⟩ = some (.string m.acq) := hSw.1.cell 3; have e17 : uw.cell? ⟨w.heap.size, 17, none⟩ = some (.string m.key) := hSw.1.cell 17; have e18 : uw.cell? ⟨w.heap.size, 18, none⟩ = some (.string m.note) := hSw.1.cell 18; have e19 : uw.cell? ⟨w.heap.size, 19, none⟩ = some (.slice m.eA m.en m.ec) := hSw.1.cell 19; clear hSw; go_simp; all_goals with_reducible rfl)
      try simp only [Act.put, List.setIfInBounds_toArray, List.set_cons_zero, List.set_cons_succ, List.getElem_toArray, List.getElem_cons_zero, List.getElem_cons_succ]
      refine wpAnyH_ready (rs := [17]) (by kernel_rfl) (by simp) ?_
      refine AllReadyH.cons rfl (fun K hK => ?_) AllReadyH.nil
      go_simp
      refine hK.out _ _ (by exact ⟨hHeld.1.fr ((Fr.refl (Just gx) _).setCell (p := ⟨gx, 19, none⟩) (.inl (Just.at _)) _) HGS.out, hHeld.2.setCell (p := ⟨gx, 19, none⟩) (.inl (Just.at _)) _⟩) (fun hHeld2 => ?_)
      clear hK K hHeld
      have hHeld := hHeld2
      clear hHeld2
      try simp only [Act.put, List.setIfInBounds_toArray, List.set_cons_zero, List.set_cons_succ, List.getElem_toArray, List.getElem_cons_zero, List.getElem_cons_succ]
      refine wpAnyH_take (i := 18) (v := ?va4x15) rfl (by kernel_rfl) (by kernel_rfl) (by kernel_rfl) (fun _ _ _ h => h) (Or.inl ⟨by rfl, ?hy4x15⟩) (by assumption) ?rest4x15
      case hy4x15 => (intro uw hSw; have e2 : uw.cell? ⟨w.heap.size, 2, none⟩ = some (.string m.time) := hSw.1.cell 2; have e3 : uw.cell? ⟨w.heap.size, 3, none⟩ = some (.string m.acq) := hSw.1.cell 3; have e17 : uw.cell? ⟨w.heap.size, 17, none⟩ = some (.string m.key) := hSw.1.cell 17; have e18 : uw.cell? ⟨w.heap.size, 18, none⟩ = some (.string m.note) := hSw.1.cell 18; have e19 : uw.cell? ⟨w.heap.size, 19, none⟩ = some (.slice m.eA m.en m.ec) := hSw.1.cell 19; clear hSw; go_simp; all_goals with_reducible rfl)
      try simp only [Act.put, List.setIfInBounds_toArray, List.set_cons_zero, List.set_cons_succ, List.getElem_toArray, List.getElem_cons_zero, List.getElem_cons_succ]
      refine wpAnyH_ready (rs := [19]) (by kernel_rfl) (by simp) ?_
      refine AllReadyH.cons rfl (fun K hK => ?_) AllReadyH.nil
      go_simp
      refine hK.out _ _ (by exact ⟨hHeld.1.fr ((Fr.refl (Just gx) _).setCell (p := ⟨gx, 17, none⟩) (.inl (Just.at _)) _) HGS.out, hHeld.2.setCell (p := ⟨gx, 17, none⟩) (.inl (Just.at _)) _⟩) (fun hHeld2 => ?_)
      clear hK K hHeld
      have hHeld := hHeld2
      clear hHeld2
      try simp only [Act.put, List.setIfInBounds_toArray, List.set_cons_zero, List.set_cons_succ, List.getElem_toArray, List.getElem_cons_zero, List.getElem_cons_succ]
      refine wpAnyH_done (by kernel_rfl) ?_ _
      go_wp2_with fail
      go_meet
      exact ⟨(((((HX.out.set_ 2 _).set_ 3 _).set_ 18 _).set_ 19 _).set_ 17 _).no (Dr.refl _).drew.fr, hHeld.2⟩
    case rest =>
      obtain ⟨hx5, hf5⟩ := hcut
      have hfit : fitsM (mix o7 m) = 0 := by rw [mix_fits, core_fits HCO.out]; exact made_fits m TA tk tc (fun h => (HTG.out h).1)
      have hkd : (mix o7 m).kind = ((kindN m + 1 : Nat) : Int) := by
        show o7.kind = _
        rw [core_kind HCO.out, made_kind]
      have hklt := kindN_lt m
      have hk0 : -9223372036854775808 ≤ (mix o7 m).kind := by rw [hkd]; omega
      have hk1 : (mix o7 m).kind ≤ 9223372036854775807 := by rw [hkd]; omega
      obtain ⟨X, hXe⟩ : ∃ X, mix o7 m = X := ⟨_, rfl⟩
      rw [hXe] at hx5 hfit hk0 hk1
      have hfw5 : Fr No w wc := FW4.out.trans_just hf5 (by have := HGX.out; omega)
      have hT5 : Tabs wc := hT.fr hfw5
      have HX5 := Lib.hid hx5; have FW5 := Lib.hid hfw5; have HFIT := Lib.hid hfit; have HK := Lib.hid (And.intro hk0 hk1)
      have hft := fun u (h : Tabs u) => kinds_fits_any X hk0 hk1 u
      rw [hfit] at hft
      have HFT := Lib.hid hft
      clear hx5 hf5 hfit hkd hklt hk0 hk1 hXe hfw5 hft HX HM4 FW4 HCO HTG z2 z3 z17 z18 z19 x2 x3 x17 x18 x19
      go_upto_region 7 with (first
        | (go_at_call 6; refine (kin_awake _).mono ?_; rintro e w6 ⟨rfl, hf6⟩; have hT6 : Tabs w6 := hT5.fr hf6; have HX6 := Lib.hid (HX5.out.no hf6); have FW6 := Lib.hid (FW5.out.trans hf6); clear hf6)
        | (refine wpList_load_bk rfl 29 _ rfl gx rfl X.cells _ HX6.out (Tryd.underlying29) rfl (msgSize X) ?_)
        | (go_at_call 9; refine (HFT.out _ hT6).mono ?_; rintro e w7 ⟨rfl, hf7⟩; have HX7 := Lib.hid (HX6.out.no hf7); have FW7 := Lib.hid (FW6.out.trans hf7); clear hf7))
      clear hT5 hT6 HX5 HX6
      go_cut [8, 9] from 38 to 39 (fun v8 v9 wx => ∃ g8 g9 : Nat, v8 = .pointer (some ⟨g8, 0, none⟩) ∧ v9 = .pointer (some ⟨g9, 0, none⟩) ∧ g8 ≠ g9 ∧ Bk wx g8 29 X.cells ∧ Bk wx g9 29 X.cells ∧ Fr No w7 wx ∧ w7.heap.size ≤ g8 ∧ w7.heap.size ≤ g9)
      case first =>
        refine wp_region_held_drew (S := fun w' => Bk w' gx 29 X.cells ∧ Fr No w7 w') (by kernel_rfl) (by exact ⟨HX7.out.no (Dr.refl _).drew.fr, (Dr.refl w7).drew.fr⟩) (fun hHeld => ?_)
        refine wpAnyH_take (i := 0) (v := ?va7x1) rfl (by kernel_rfl) (by kernel_rfl) (by kernel_rfl) (fun _ _ _ h => h) (Or.inl ⟨by rfl, ?hy7x1⟩) (by assumption) ?rest7x1
        case hy7x1 => (intro uw hSw; refine yields_load _ _ 29 (.tmp 7) ?_ gx ?_ X.cells _ (range21 hSw.1) Tryd.underlying29 rfl (msgSize X); all_goals rfl)
        try simp only [Act.put, List.setIfInBounds_toArray, List.set_cons_zero, List.set_cons_succ, List.getElem_toArray, List.getElem_cons_zero, List.getElem_cons_succ]
        refine wpAnyH_take (i := 1) (v := ?va7x2) rfl (by kernel_rfl) (by kernel_rfl) (by kernel_rfl) (fun _ _ _ h => h) (Or.inl ⟨by rfl, ?hy7x2⟩) (by assumption) ?rest7x2
        case hy7x2 => (intro uw hSw; refine yields_load _ _ 29 (.tmp 7) ?_ gx ?_ X.cells _ (range21 hSw.1) Tryd.underlying29 rfl (msgSize X); all_goals rfl)
        try simp only [Act.put, List.setIfInBounds_toArray, List.set_cons_zero, List.set_cons_succ, List.getElem_toArray, List.getElem_cons_zero, List.getElem_cons_succ]
        refine wpAnyH_ready (rs := [2, 3]) (by kernel_rfl) (by simp) ?_
        refine AllReadyH.cons rfl (fun K hK => ?_) (AllReadyH.cons rfl (fun K hK => ?_) AllReadyH.nil)
        · refine stepA rfl rfl ?_
          intro g8 w8a hb8 hf8 hg8 hl8
          first | (have HNE := Lib.hid (show g8 ≠ g9 from fun e => by have := HB9.out.lt; omega); have HB9n := Lib.hid (HB9.out.no hf8); clear HB9; have HB9 := HB9n; clear HB9n) | skip
          have HB8 := Lib.hid hb8
          have HG8 := Lib.hid (Nat.le_trans hHeld.2.size hg8)
          refine hK.out _ _ (by exact ⟨hHeld.1.no hf8, hHeld.2.trans hf8⟩) (fun hHeld2 => ?_)
          clear hK K hHeld
          have hHeld := hHeld2
          clear hHeld2
          try simp only [Act.put, List.setIfInBounds_toArray, List.set_cons_zero, List.set_cons_succ, List.getElem_toArray, List.getElem_cons_zero, List.getElem_cons_succ]
          refine wpAnyH_ready (rs := [3]) (by kernel_rfl) (by simp) ?_
          refine AllReadyH.cons rfl (fun K hK => ?_) AllReadyH.nil
          refine stepA rfl rfl ?_
          intro g9 w9a hb9 hf9 hg9 hl9
          first | (have HNE := Lib.hid (show g8 ≠ g9 from fun e => by have := HB8.out.lt; omega); have HB8n := Lib.hid (HB8.out.no hf9); clear HB8; have HB8 := HB8n; clear HB8n) | skip
          have HB9 := Lib.hid hb9
          have HG9 := Lib.hid (Nat.le_trans hHeld.2.size hg9)
          refine hK.out _ _ (by exact ⟨hHeld.1.no hf9, hHeld.2.trans hf9⟩) (fun hHeld2 => ?_)
          clear hK K hHeld
          have hHeld := hHeld2
          clear hHeld2
          try simp only [Act.put, List.setIfInBounds_toArray, List.set_cons_zero, List.set_cons_succ, List.getElem_toArray, List.getElem_cons_zero, List.getElem_cons_succ]
          refine wpAnyH_ready (rs := [4]) (by kernel_rfl) (by simp) ?_
          refine AllReadyH.cons rfl (fun K hK => ?_) AllReadyH.nil
          refine stepS rfl 29 (.tmp 8) (.tmp 38) rfl g8 rfl m0c X.cells rfl HB8.out rfl (msgSize X) (msg_one2 X) ?_
          intro w8b c8 f8 s8
          have HC8 := Lib.hid c8
          have HB9n := Lib.hid (HB9.out.fr f8 (fun e => HNE.out (show g9 = g8 from e).symm)); clear HB9; have HB9 := HB9n; clear HB9n
          refine hK.out _ _ (by exact ⟨hHeld.1.fr f8 (fun e => by have e : gx = g8 := e; have := HG8.out; have := HX7.out.lt; omega), hHeld.2.trans_just f8 HG8.out⟩) (fun hHeld2 => ?_)
          clear hK K hHeld
          have hHeld := hHeld2
          clear hHeld2
          try simp only [Act.put, List.setIfInBounds_toArray, List.set_cons_zero, List.set_cons_succ, List.getElem_toArray, List.getElem_cons_zero, List.getElem_cons_succ]
          refine wpAnyH_ready (rs := [5]) (by kernel_rfl) (by simp) ?_
          refine AllReadyH.cons rfl (fun K hK => ?_) AllReadyH.nil
          refine stepS rfl 29 (.tmp 9) (.tmp 39) rfl g9 rfl m0c X.cells rfl HB9.out rfl (msgSize X) (msg_one2 X) ?_
          intro w9b c9 f9 s9
          have HC9 := Lib.hid c9
          have HC8n := Lib.hid (HC8.out.fr f9 (fun e => HNE.out (show g8 = g9 from e))); clear HC8; have HC8 := HC8n; clear HC8n
          refine hK.out _ _ (by exact ⟨hHeld.1.fr f9 (fun e => by have e : gx = g9 := e; have := HG9.out; have := HX7.out.lt; omega), hHeld.2.trans_just f9 HG9.out⟩) (fun hHeld2 => ?_)
          clear hK K hHeld
          have hHeld := hHeld2
          clear hHeld2
          try simp only [Act.put, List.setIfInBounds_toArray, List.set_cons_zero, List.set_cons_succ, List.getElem_toArray, List.getElem_cons_zero, List.getElem_cons_succ]
          refine wpAnyH_done (by kernel_rfl) ?_ _
          go_wp2_with fail
          go_meet
          exact ⟨g8, g9, rfl, rfl, HNE.out, HC8.out, HC9.out, hHeld.2, HG8.out, HG9.out⟩
        · refine stepA rfl rfl ?_
          intro g9 w9a hb9 hf9 hg9 hl9
          first | (have HNE := Lib.hid (show g8 ≠ g9 from fun e => by have := HB8.out.lt; omega); have HB8n := Lib.hid (HB8.out.no hf9); clear HB8; have HB8 := HB8n; clear HB8n) | skip
          have HB9 := Lib.hid hb9
          have HG9 := Lib.hid (Nat.le_trans hHeld.2.size hg9)
          refine hK.out _ _ (by exact ⟨hHeld.1.no hf9, hHeld.2.trans hf9⟩) (fun hHeld2 => ?_)
          clear hK K hHeld
          have hHeld := hHeld2
          clear hHeld2
          try simp only [Act.put, List.setIfInBounds_toArray, List.set_cons_zero, List.set_cons_succ, List.getElem_toArray, List.getElem_cons_zero, List.getElem_cons_succ]
          refine wpAnyH_ready (rs := [2]) (by kernel_rfl) (by simp) ?_
          refine AllReadyH.cons rfl (fun K hK => ?_) AllReadyH.nil
          refine stepA rfl rfl ?_
          intro g8 w8a hb8 hf8 hg8 hl8
          first | (have HNE := Lib.hid (show g8 ≠ g9 from fun e => by have := HB9.out.lt; omega); have HB9n := Lib.hid (HB9.out.no hf8); clear HB9; have HB9 := HB9n; clear HB9n) | skip
          have HB8 := Lib.hid hb8
          have HG8 := Lib.hid (Nat.le_trans hHeld.2.size hg8)
          refine hK.out _ _ (by exact ⟨hHeld.1.no hf8, hHeld.2.trans hf8⟩) (fun hHeld2 => ?_)
          clear hK K hHeld
          have hHeld := hHeld2
          clear hHeld2
          try simp only [Act.put, List.setIfInBounds_toArray, List.set_cons_zero, List.set_cons_succ, List.getElem_toArray, List.getElem_cons_zero, List.getElem_cons_succ]
          refine wpAnyH_ready (rs := [4]) (by kernel_rfl) (by simp) ?_
          refine AllReadyH.cons rfl (fun K hK => ?_) AllReadyH.nil
          refine stepS rfl 29 (.tmp 8) (.tmp 38) rfl g8 rfl m0c X.cells rfl HB8.out rfl (msgSize X) (msg_one2 X) ?_
          intro w8b c8 f8 s8
          have HC8 := Lib.hid c8
          have HB9n := Lib.hid (HB9.out.fr f8 (fun e => HNE.out (show g9 = g8 from e).symm)); clear HB9; have HB9 := HB9n; clear HB9n
          refine hK.out _ _ (by exact ⟨hHeld.1.fr f8 (fun e => by have e : gx = g8 := e; have := HG8.out; have := HX7.out.lt; omega), hHeld.2.trans_just f8 HG8.out⟩) (fun hHeld2 => ?_)
          clear hK K hHeld
          have hHeld := hHeld2
          clear hHeld2
          try simp only [Act.put, List.setIfInBounds_toArray, List.set_cons_zero, List.set_cons_succ, List.getElem_toArray, List.getElem_cons_zero, List.getElem_cons_succ]
          refine wpAnyH_ready (rs := [5]) (by kernel_rfl) (by simp) ?_
          refine AllReadyH.cons rfl (fun K hK => ?_) AllReadyH.nil
          refine stepS rfl 29 (.tmp 9) (.tmp 39) rfl g9 rfl m0c X.cells rfl HB9.out rfl (msgSize X) (msg_one2 X) ?_
          intro w9b c9 f9 s9
          have HC9 := Lib.hid c9
          have HC8n := Lib.hid (HC8.out.fr f9 (fun e => HNE.out (show g8 = g9 from e))); clear HC8; have HC8 := HC8n; clear HC8n
          refine hK.out _ _ (by exact ⟨hHeld.1.fr f9 (fun e => by have e : gx = g9 := e; have := HG9.out; have := HX7.out.lt; omega), hHeld.2.trans_just f9 HG9.out⟩) (fun hHeld2 => ?_)
          clear hK K hHeld
          have hHeld := hHeld2
          clear hHeld2
          try simp only [Act.put, List.setIfInBounds_toArray, List.set_cons_zero, List.set_cons_succ, List.getElem_toArray, List.getElem_cons_zero, List.getElem_cons_succ]
          refine wpAnyH_done (by kernel_rfl) ?_ _
          go_wp2_with fail
          go_meet
          exact ⟨g8, g9, rfl, rfl, HNE.out, HC8.out, HC9.out, hHeld.2, HG8.out, HG9.out⟩
      case rest =>
        obtain ⟨g8, g9, rfl, rfl, hne, b8, b9, hf8, hg8, hg9⟩ := hcut
        have z85 := b8.frozen 5
        have z86 := b8.frozen 6
        have z94 := b9.frozen 14
        have z95 := b9.frozen 15
        have x85 : wc.cell? ⟨g8, 5, none⟩ = some (.string X.cur) := b8.cell 5
        have x86 : wc.cell? ⟨g8, 6, none⟩ = some (.int .u64 X.amount) := b8.cell 6
        have x94 : wc.cell? ⟨g9, 14, none⟩ = some (.int .i64 X.ostan) := b9.cell 14
        have x95 : wc.cell? ⟨g9, 15, none⟩ = some (.string X.otime) := b9.cell 15
        have hne2 : ¬ g9 = g8 := fun e => hne e.symm
        go_upto_region 10 with fail
        obtain ⟨W10, hW10⟩ : ∃ W10, (((wc.setCell ⟨g8, 5, none⟩ (.string ⟨#[]⟩)).setCell ⟨g8, 6, none⟩ (.int .u64 (amount : Int))).setCell ⟨g9, 14, none⟩ (.int .i64 stan)).setCell ⟨g9, 15, none⟩ (.string ⟨#[]⟩) = W10 := ⟨_, rfl⟩
        rw [hW10]
        obtain ⟨Y, hY⟩ : ∃ Y : MsgC, { X with cur := ⟨#[]⟩, amount := (amount : Int) } = Y := ⟨_, rfl⟩
        obtain ⟨Z, hZ⟩ : ∃ Z : MsgC, { X with ostan := stan, otime := ⟨#[]⟩ } = Z := ⟨_, rfl⟩
        have hbY : Bk W10 g8 29 Y.cells := by
          rw [← hW10, ← hY]
          exact (((b8.set_ 5 _).set_ 6 _).fr ((Fr.refl (Just g9) _).setCell (p := ⟨g9, 14, none⟩) (.inl (Just.at _)) _) (fun e => hne e)).fr ((Fr.refl (Just g9) _).setCell (p := ⟨g9, 15, none⟩) (.inl (Just.at _)) _) (fun e => hne e)
        have hbZ : Bk W10 g9 29 Z.cells := by
          rw [← hW10, ← hZ]
          exact (((b9.fr ((Fr.refl (Just g8) _).setCell (p := ⟨g8, 5, none⟩) (.inl (Just.at _)) _) (fun e => hne2 e)).fr ((Fr.refl (Just g8) _).setCell (p := ⟨g8, 6, none⟩) (.inl (Just.at _)) _) (fun e => hne2 e)).set_ 14 _).set_ 15 _
        have hf10 : Fr No w W10 := by
          have hs := FW7.out.size
          rw [← hW10]
          exact ((((FW7.out.trans hf8).setCell (p := ⟨g8, 5, none⟩) (.inr (by show w.heap.size ≤ g8; omega)) _).setCell (p := ⟨g8, 6, none⟩) (.inr (by show w.heap.size ≤ g8; omega)) _).setCell (p := ⟨g9, 14, none⟩) (.inr (by show w.heap.size ≤ g9; omega)) _).setCell (p := ⟨g9, 15, none⟩) (.inr (by show w.heap.size ≤ g9; omega)) _
        have hT10 : Tabs W10 := hT.fr hf10
        have hcode := fits_code HFIT.out
        have hkY : Y.kind = X.kind := by rw [← hY]
        have hkZ : Z.kind = X.kind := by rw [← hZ]
        have hYb : amount ≠ 0 → fitsM Y = 19 := fun h => bad_fits (by rw [hkY]; exact hcode) (by
          rw [← hY]
          show (((⟨#[]⟩ : ByteArray).toList == []) && ((amount : Int) != 0) || _) = true
          rw [show ((⟨#[]⟩ : ByteArray).toList == []) = true by rw [s_list]; rfl, show ((amount : Int) != 0) = true by rw [bne_iff_ne]; omega]
          rfl)
        have hZb : stan ≠ 0 → fitsM Z = 19 := fun h => bad_fits (by rw [hkZ]; exact hcode) (by
          rw [← hZ]
          show (_ || ((⟨#[]⟩ : ByteArray).toList == []) && (stan != 0)) = true
          rw [show ((⟨#[]⟩ : ByteArray).toList == []) = true by rw [s_list]; rfl, show (stan != 0) = true by rw [bne_iff_ne]; exact h]
          simp)
        have a1 := fun u (h : Tabs u) => below_of (kinds_fits_any Y (by rw [hkY]; exact HK.out.1) (by rw [hkY]; exact HK.out.2) u)
        have a2 := fun u => below_of (r_Fits Y (by rw [hkY]; exact HK.out.1) (by rw [hkY]; exact HK.out.2) u)
        have a3 := fun u (h : Tabs u) => below_of (kinds_fits_any Z (by rw [hkZ]; exact HK.out.1) (by rw [hkZ]; exact HK.out.2) u)
        have a4 := fun u => below_of (r_Fits Z (by rw [hkZ]; exact HK.out.1) (by rw [hkZ]; exact HK.out.2) u)
        rw [show fitsR (rowOf Y.kind) (hasL Y.there) Y.bad = fitsM Y from rfl] at a2
        rw [show fitsR (rowOf Z.kind) (hasL Z.there) Z.bad = fitsM Z from rfl] at a4
        obtain ⟨FY, hFY⟩ : ∃ FY, fitsM Y = FY := ⟨_, rfl⟩
        obtain ⟨FZ, hFZ⟩ : ∃ FZ, fitsM Z = FZ := ⟨_, rfl⟩
        rw [hFY] at a1 a2 hYb
        rw [hFZ] at a3 a4 hZb
        unfold MsgC.val at a1 a2 a3 a4
        have HQ8 := Lib.hid (show ∀ w' : World, (∃ p : Regrown, w' = Go.Sort.grow (redrawn W10 p.d) p.os) → w'.rangeAt g8 0 Y.cells from fun w' ⟨p, hp⟩ => by
          rw [hp]; exact range21 (hbY.no (Fr.of_below (below_regrown W10 p.d p.os))))
        have HQ9 := Lib.hid (show ∀ w' : World, (∃ p : Regrown, w' = Go.Sort.grow (redrawn W10 p.d) p.os) → w'.rangeAt g9 0 Z.cells from fun w' ⟨p, hp⟩ => by
          rw [hp]; exact range21 (hbZ.no (Fr.of_below (below_regrown W10 p.d p.os))))
        have A1 := Lib.hid a1; have A2 := Lib.hid a2; have A3 := Lib.hid a3; have A4 := Lib.hid a4; have F10 := Lib.hid hf10; have HYB := Lib.hid hYb; have HZB := Lib.hid hZb
        clear a1 a2 a3 a4 hf10 hYb hZb hbY hbZ hcode hkY hkZ hY hZ hFY hFZ hW10 b8 b9 hf8 hg8 hg9 z85 z86 z94 z95 x85 x86 x94 x95 hT
        have hcases : (((amount : Int) == 0) = true ∨ ((amount : Int) == 0) = false ∧ FY = 19) ∧ ((stan == 0) = true ∨ (stan == 0) = false ∧ FZ = 19) := by
          constructor
          · by_cases h : amount = 0
            · left; rw [beq_iff_eq]; omega
            · right; exact ⟨by rw [beq_eq_false_iff_ne]; omega, HYB.out h⟩
          · by_cases h : stan = 0
            · left; rw [beq_iff_eq]; exact h
            · right; exact ⟨by rw [beq_eq_false_iff_ne]; exact h, HZB.out h⟩
        obtain ⟨hc1, hc2⟩ := hcases
        rcases hc1 with c1 | ⟨c1, rfl⟩
        · rcases hc2 with c2 | ⟨c2, rfl⟩
          · refine wp_region_quiet_below (by kernel_rfl) (by kernel_rfl) ?_
            repeat (first
              | (refine quiet_load 29 _ rfl (by rfl) g8 (by rfl) Y.cells _ HQ8.out (Tryd.underlying29) rfl (msgSize Y) ?_)
              | (refine quiet_load 29 _ rfl (by rfl) g9 (by rfl) Z.cells _ HQ9.out (Tryd.underlying29) rfl (msgSize Z) ?_)
              | quiet_step (fail))
            quiet_step ((go_at_call 9; exact Calls.regrown_of (A1.out _ (hT10.fr (fr_regrown _ _ _)))))
            repeat (first
              | (refine quiet_load 29 _ rfl (by rfl) g8 (by rfl) Y.cells _ HQ8.out (Tryd.underlying29) rfl (msgSize Y) ?_)
              | (refine quiet_load 29 _ rfl (by rfl) g9 (by rfl) Z.cells _ HQ9.out (Tryd.underlying29) rfl (msgSize Z) ?_)
              | quiet_step (fail))
            quiet_step ((go_at_call 12; exact Calls.regrown_of (A2.out _)))
            repeat (first
              | (refine quiet_load 29 _ rfl (by rfl) g8 (by rfl) Y.cells _ HQ8.out (Tryd.underlying29) rfl (msgSize Y) ?_)
              | (refine quiet_load 29 _ rfl (by rfl) g9 (by rfl) Z.cells _ HQ9.out (Tryd.underlying29) rfl (msgSize Z) ?_)
              | quiet_step (fail))
            quiet_step ((go_at_call 9; exact Calls.regrown_of (A3.out _ (hT10.fr (fr_regrown _ _ _)))))
            repeat (first
              | (refine quiet_load 29 _ rfl (by rfl) g8 (by rfl) Y.cells _ HQ8.out (Tryd.underlying29) rfl (msgSize Y) ?_)
              | (refine quiet_load 29 _ rfl (by rfl) g9 (by rfl) Z.cells _ HQ9.out (Tryd.underlying29) rfl (msgSize Z) ?_)
              | quiet_step (fail))
            quiet_step ((go_at_call 12; exact Calls.regrown_of (A4.out _)))
            repeat (first
              | (refine quiet_load 29 _ rfl (by rfl) g8 (by rfl) Y.cells _ HQ8.out (Tryd.underlying29) rfl (msgSize Y) ?_)
              | (refine quiet_load 29 _ rfl (by rfl) g9 (by rfl) Z.cells _ HQ9.out (Tryd.underlying29) rfl (msgSize Z) ?_)
              | quiet_step (fail))
            refine wpQuiet_nil ?_
            intro w11 hw11r
            obtain ⟨⟨nr, osr⟩, hw11r⟩ := hw11r
            have hf11 : Fr No W10 w11 := by rw [hw11r]; exact Fr.of_below (below_regrown W10 nr osr)
            clear hw11r
            go_wp2_with fail
            go_ret
            exact ⟨rfl, F10.out.trans hf11⟩
          · refine wp_region_quiet_below (by kernel_rfl) (by kernel_rfl) ?_
            repeat (first
              | (refine quiet_load 29 _ rfl (by rfl) g8 (by rfl) Y.cells _ HQ8.out (Tryd.underlying29) rfl (msgSize Y) ?_)
              | (refine quiet_load 29 _ rfl (by rfl) g9 (by rfl) Z.cells _ HQ9.out (Tryd.underlying29) rfl (msgSize Z) ?_)
              | quiet_step (fail))
            quiet_step ((go_at_call 9; exact Calls.regrown_of (A1.out _ (hT10.fr (fr_regrown _ _ _)))))
            repeat (first
              | (refine quiet_load 29 _ rfl (by rfl) g8 (by rfl) Y.cells _ HQ8.out (Tryd.underlying29) rfl (msgSize Y) ?_)
              | (refine quiet_load 29 _ rfl (by rfl) g9 (by rfl) Z.cells _ HQ9.out (Tryd.underlying29) rfl (msgSize Z) ?_)
              | quiet_step (fail))
            quiet_step ((go_at_call 12; exact Calls.regrown_of (A2.out _)))
            repeat (first
              | (refine quiet_load 29 _ rfl (by rfl) g8 (by rfl) Y.cells _ HQ8.out (Tryd.underlying29) rfl (msgSize Y) ?_)
              | (refine quiet_load 29 _ rfl (by rfl) g9 (by rfl) Z.cells _ HQ9.out (Tryd.underlying29) rfl (msgSize Z) ?_)
              | quiet_step (fail))
            quiet_step ((go_at_call 9; exact Calls.regrown_of (A3.out _ (hT10.fr (fr_regrown _ _ _)))))
            repeat (first
              | (refine quiet_load 29 _ rfl (by rfl) g8 (by rfl) Y.cells _ HQ8.out (Tryd.underlying29) rfl (msgSize Y) ?_)
              | (refine quiet_load 29 _ rfl (by rfl) g9 (by rfl) Z.cells _ HQ9.out (Tryd.underlying29) rfl (msgSize Z) ?_)
              | quiet_step (fail))
            quiet_step ((go_at_call 12; exact Calls.regrown_of (A4.out _)))
            repeat (first
              | (refine quiet_load 29 _ rfl (by rfl) g8 (by rfl) Y.cells _ HQ8.out (Tryd.underlying29) rfl (msgSize Y) ?_)
              | (refine quiet_load 29 _ rfl (by rfl) g9 (by rfl) Z.cells _ HQ9.out (Tryd.underlying29) rfl (msgSize Z) ?_)
              | quiet_step (fail))
            quiet_step ((go_at_call 9; exact Calls.regrown_of (A3.out _ (hT10.fr (fr_regrown _ _ _)))))
            repeat (first
              | (refine quiet_load 29 _ rfl (by rfl) g8 (by rfl) Y.cells _ HQ8.out (Tryd.underlying29) rfl (msgSize Y) ?_)
              | (refine quiet_load 29 _ rfl (by rfl) g9 (by rfl) Z.cells _ HQ9.out (Tryd.underlying29) rfl (msgSize Z) ?_)
              | quiet_step (fail))
            refine wpQuiet_nil ?_
            intro w11 hw11r
            obtain ⟨⟨nr, osr⟩, hw11r⟩ := hw11r
            have hf11 : Fr No W10 w11 := by rw [hw11r]; exact Fr.of_below (below_regrown W10 nr osr)
            clear hw11r
            go_wp2_with fail
            go_ret
            exact ⟨rfl, F10.out.trans hf11⟩
        · rcases hc2 with c2 | ⟨c2, rfl⟩
          · refine wp_region_quiet_below (by kernel_rfl) (by kernel_rfl) ?_
            repeat (first
              | (refine quiet_load 29 _ rfl (by rfl) g8 (by rfl) Y.cells _ HQ8.out (Tryd.underlying29) rfl (msgSize Y) ?_)
              | (refine quiet_load 29 _ rfl (by rfl) g9 (by rfl) Z.cells _ HQ9.out (Tryd.underlying29) rfl (msgSize Z) ?_)
              | quiet_step (fail))
            quiet_step ((go_at_call 9; exact Calls.regrown_of (A1.out _ (hT10.fr (fr_regrown _ _ _)))))
            repeat (first
              | (refine quiet_load 29 _ rfl (by rfl) g8 (by rfl) Y.cells _ HQ8.out (Tryd.underlying29) rfl (msgSize Y) ?_)
              | (refine quiet_load 29 _ rfl (by rfl) g9 (by rfl) Z.cells _ HQ9.out (Tryd.underlying29) rfl (msgSize Z) ?_)
              | quiet_step (fail))
            quiet_step ((go_at_call 12; exact Calls.regrown_of (A2.out _)))
            repeat (first
              | (refine quiet_load 29 _ rfl (by rfl) g8 (by rfl) Y.cells _ HQ8.out (Tryd.underlying29) rfl (msgSize Y) ?_)
              | (refine quiet_load 29 _ rfl (by rfl) g9 (by rfl) Z.cells _ HQ9.out (Tryd.underlying29) rfl (msgSize Z) ?_)
              | quiet_step (fail))
            quiet_step ((go_at_call 9; exact Calls.regrown_of (A3.out _ (hT10.fr (fr_regrown _ _ _)))))
            repeat (first
              | (refine quiet_load 29 _ rfl (by rfl) g8 (by rfl) Y.cells _ HQ8.out (Tryd.underlying29) rfl (msgSize Y) ?_)
              | (refine quiet_load 29 _ rfl (by rfl) g9 (by rfl) Z.cells _ HQ9.out (Tryd.underlying29) rfl (msgSize Z) ?_)
              | quiet_step (fail))
            quiet_step ((go_at_call 12; exact Calls.regrown_of (A4.out _)))
            repeat (first
              | (refine quiet_load 29 _ rfl (by rfl) g8 (by rfl) Y.cells _ HQ8.out (Tryd.underlying29) rfl (msgSize Y) ?_)
              | (refine quiet_load 29 _ rfl (by rfl) g9 (by rfl) Z.cells _ HQ9.out (Tryd.underlying29) rfl (msgSize Z) ?_)
              | quiet_step (fail))
            quiet_step ((go_at_call 9; exact Calls.regrown_of (A1.out _ (hT10.fr (fr_regrown _ _ _)))))
            repeat (first
              | (refine quiet_load 29 _ rfl (by rfl) g8 (by rfl) Y.cells _ HQ8.out (Tryd.underlying29) rfl (msgSize Y) ?_)
              | (refine quiet_load 29 _ rfl (by rfl) g9 (by rfl) Z.cells _ HQ9.out (Tryd.underlying29) rfl (msgSize Z) ?_)
              | quiet_step (fail))
            refine wpQuiet_nil ?_
            intro w11 hw11r
            obtain ⟨⟨nr, osr⟩, hw11r⟩ := hw11r
            have hf11 : Fr No W10 w11 := by rw [hw11r]; exact Fr.of_below (below_regrown W10 nr osr)
            clear hw11r
            go_wp2_with fail
            go_ret
            exact ⟨rfl, F10.out.trans hf11⟩
          · refine wp_region_quiet_below (by kernel_rfl) (by kernel_rfl) ?_
            repeat (first
              | (refine quiet_load 29 _ rfl (by rfl) g8 (by rfl) Y.cells _ HQ8.out (Tryd.underlying29) rfl (msgSize Y) ?_)
              | (refine quiet_load 29 _ rfl (by rfl) g9 (by rfl) Z.cells _ HQ9.out (Tryd.underlying29) rfl (msgSize Z) ?_)
              | quiet_step (fail))
            quiet_step ((go_at_call 9; exact Calls.regrown_of (A1.out _ (hT10.fr (fr_regrown _ _ _)))))
            repeat (first
              | (refine quiet_load 29 _ rfl (by rfl) g8 (by rfl) Y.cells _ HQ8.out (Tryd.underlying29) rfl (msgSize Y) ?_)
              | (refine quiet_load 29 _ rfl (by rfl) g9 (by rfl) Z.cells _ HQ9.out (Tryd.underlying29) rfl (msgSize Z) ?_)
              | quiet_step (fail))
            quiet_step ((go_at_call 12; exact Calls.regrown_of (A2.out _)))
            repeat (first
              | (refine quiet_load 29 _ rfl (by rfl) g8 (by rfl) Y.cells _ HQ8.out (Tryd.underlying29) rfl (msgSize Y) ?_)
              | (refine quiet_load 29 _ rfl (by rfl) g9 (by rfl) Z.cells _ HQ9.out (Tryd.underlying29) rfl (msgSize Z) ?_)
              | quiet_step (fail))
            quiet_step ((go_at_call 9; exact Calls.regrown_of (A3.out _ (hT10.fr (fr_regrown _ _ _)))))
            repeat (first
              | (refine quiet_load 29 _ rfl (by rfl) g8 (by rfl) Y.cells _ HQ8.out (Tryd.underlying29) rfl (msgSize Y) ?_)
              | (refine quiet_load 29 _ rfl (by rfl) g9 (by rfl) Z.cells _ HQ9.out (Tryd.underlying29) rfl (msgSize Z) ?_)
              | quiet_step (fail))
            quiet_step ((go_at_call 12; exact Calls.regrown_of (A4.out _)))
            repeat (first
              | (refine quiet_load 29 _ rfl (by rfl) g8 (by rfl) Y.cells _ HQ8.out (Tryd.underlying29) rfl (msgSize Y) ?_)
              | (refine quiet_load 29 _ rfl (by rfl) g9 (by rfl) Z.cells _ HQ9.out (Tryd.underlying29) rfl (msgSize Z) ?_)
              | quiet_step (fail))
            quiet_step ((go_at_call 9; exact Calls.regrown_of (A1.out _ (hT10.fr (fr_regrown _ _ _)))))
            repeat (first
              | (refine quiet_load 29 _ rfl (by rfl) g8 (by rfl) Y.cells _ HQ8.out (Tryd.underlying29) rfl (msgSize Y) ?_)
              | (refine quiet_load 29 _ rfl (by rfl) g9 (by rfl) Z.cells _ HQ9.out (Tryd.underlying29) rfl (msgSize Z) ?_)
              | quiet_step (fail))
            quiet_step ((go_at_call 9; exact Calls.regrown_of (A3.out _ (hT10.fr (fr_regrown _ _ _)))))
            repeat (first
              | (refine quiet_load 29 _ rfl (by rfl) g8 (by rfl) Y.cells _ HQ8.out (Tryd.underlying29) rfl (msgSize Y) ?_)
              | (refine quiet_load 29 _ rfl (by rfl) g9 (by rfl) Z.cells _ HQ9.out (Tryd.underlying29) rfl (msgSize Z) ?_)
              | quiet_step (fail))
            refine wpQuiet_nil ?_
            intro w11 hw11r
            obtain ⟨⟨nr, osr⟩, hw11r⟩ := hw11r
            have hf11 : Fr No W10 w11 := by rw [hw11r]; exact Fr.of_below (below_regrown W10 nr osr)
            clear hw11r
            go_wp2_with fail
            go_ret
            exact ⟨rfl, F10.out.trans hf11⟩
end Go.Proofs.YtdfehdjpbmkaoaaDoor
/- KindsAmounts (P11.2): whatever the message, the amount and the number, a message that is made fits, whatever its time, its acquirer, and what one side alone says; an amount without a currency, and a number of another exchange without its time, are not let. Condition: the program's table of kinds, which the row lists, reads as the program's text lays it (the card ties it). -/
namespace Go.Proofs.YtdfehdjpbmkaoaaDoor
open Go.RowKit Go.ChangeShapes Go.WideShapes Go.ChangeAt
set_option linter.unusedVariables false

theorem own_knob : ownKnob Tryd.prog.godebug = none := by kernel_rfl
theorem laid_out : laidOutB Tryd.prog = true := by kernel_rfl

theorem dev_same : (Rows.laid_comptoir_kinds_table : DataW Unit) = devData := by kernel_rfl
theorem laid_tail {P : Program} {W : World} {x : String × DataW Unit} {l : List (String × DataW Unit)} (h : laidMet P (x :: l) W) : laidMet P l W := by
  obtain ⟨ps, ⟨g, t, cs, fuel, p, q, _, _, _, _, hr, rfl⟩, hd, hc⟩ := h
  exact ⟨q, hr, (List.nodup_append.1 hd).2.1, fun b off hm => hc b off (List.mem_append_right _ hm)⟩

set_option maxRecDepth 100000 in
theorem lifted (os : Os) (started : os.Started) (H : Type) (enc : TypeId × Value → H) :
    ReturnsInHanded {} Tryd.checked os 4 .any (fun w args => (Rows.kindsAmountsSpec.pre enc Tryd.prog Tryd.f4 [] false w args ∧ laidMetH Tryd.prog Rows.kindsAmountsRow.laid w) ∧ sizedMet enc Tryd.prog Tryd.f4 (OpenSpec.ofChange Rows.kindsAmountsSpec) false w args)
      (Rows.kindsAmountsSpec.post enc Tryd.prog Tryd.f4 false true false false) := by
  refine returnsInHanded_of_change_and (C := Tryd.checked) (X := fun w _ => laidMetH Tryd.prog Rows.kindsAmountsRow.laid w) (fun _ _ _ hh h => h.of_heap hh) own_knob started (by kernel_rfl) Tryd.func4
    (ChangeSpec.witness_shaped (enc := enc) (C := Tryd.checked) (os := os) (X := fun w _ => laidMetH Tryd.prog Rows.kindsAmountsRow.laid w) false (World.laidAll Tryd.prog os Rows.kindsAmountsRow.laid) #[(kMsg 0).val, .int .u64 0, .int .i64 0] 8 (World.laidAll_os _ _ _)
      (World.shaped_of_ZipB (by kernel_rfl) (by kernel_rfl)) (by kernel_rfl) (by kernel_rfl) (by kernel_rfl)
      (by rw [MakeChecks.laidMetH_plain _ _ _ (by kernel_rfl)]; exact laidMet_laidAll _ (by kernel_rfl) (by kernel_rfl))) ?_
  intro W base args ds gs before hval hW _ hSz hL0 _
  have hL : laidMet Tryd.prog Rows.kindsAmountsRow.laid W := hL0
  obtain ⟨p, q, hA0, hV, hbf, hfz, hnd⟩ := id hW
  obtain ⟨rfl, rfl⟩ := trodVars_none hV
  have hA : DataW.TrodAll enc Tryd.prog W 0 (fun _ => true) true Tryd.f4.params.toList args.toList ds p := hA0
  rw [Tryd.params4] at hA hval
  have hKin := kin_reads (Lib.laidMet.reads hL (d := devData) (by rw [← dev_same]; simp [Rows.kindsAmountsRow]))
  have hTabs : Tabs W := ⟨hKin.1, hKin.2⟩
  obtain ⟨v0, v1, v2, d0, d1, d2, p0, p1, p2, rfl, rfl, rfl, h0, h1, h2⟩ := trodAll_three hA
  have hz0 := each_w _ _ _ hSz 0 29 d0 (by kernel_rfl) rfl
  obtain ⟨m0, tl0, el0, ol0, rfl, hr0⟩ := open_msgR (hval 0 29 v0 rfl rfl) h0 hz0
  obtain ⟨z1, rfl, rfl, rfl, w1⟩ := open_int Tryd.underlying22 (hval 1 22 v1 rfl rfl) h1
  obtain ⟨z1, rfl, wb1⟩ := wf_u64 w1
  obtain ⟨z2, rfl, rfl, rfl, w2⟩ := open_int Tryd.underlying3 (hval 2 3 v2 rfl rfl) h2
  refine ((fun w hT hm hN _ _ => amounts_walk w hT hm hN) W hTabs hr0 (fun _ hi => hi) wb1 w2).mono fun e W' ⟨he, hf⟩ => ?_
  exact ⟨_, he, law_post (tb := 4) laid_out (by kernel_rfl) rfl Tryd.underlying4 rfl hW rfl hf.toBelow⟩

theorem row_holds : Rows.KindsAmountsSaid :=
  OpenClaim.holds_of_wide 4 Tryd.f4 rfl rfl rfl rfl rfl rfl rfl ⟨rfl, rfl, rfl, rfl, rfl⟩ rfl rfl rfl rfl rfl (by kernel_rfl) Tryd.func4 (by kernel_rfl)
    (of_decide_eq_true (by kernel_rfl)) (by unfold Func.isWrapper; first | (rw [if_pos (by decide +kernel)]; kernel_rfl) | (rw [if_neg (by decide +kernel)]; exact ⟨rfl, rfl⟩))
    (fun os started H enc _ => lifted os started H enc)

theorem proved : Rows.KindsAmountsCardSaid :=
  Claim7.holds_tied_plain_at .later [] Rows.kindsAmountsCard.laidKinds true Rows.kindsAmountsCard.stood.harness Rows.kindsAmountsCard.stood.looks
    row_holds (fun _ h => by cases h) (by kernel_rfl) (fun _ h => by cases h) kindsAmounts_row_tie rfl ⟨rfl, rfl⟩ (by kernel_rfl) rfl
    (fun f fn hf hfn => by
      obtain rfl : f = 4 := Option.some.inj ((show Tryd.prog.funcNamed Rows.kindsAmountsRow.func = some 4 by kernel_rfl).symm.trans hf) |>.symm
      obtain rfl : fn = Tryd.f4 := (Option.some.inj (Tryd.func4.symm.trans hfn)).symm
      exact ⟨by kernel_rfl, fun j t ht => by
        have h := List.all_eq_true.1 (show (Tryd.f4.params.toList.all fun t => !Tryd.prog.wantsStandIn t) = true by kernel_rfl) t (by rw [← Array.getElem?_toList] at ht; exact List.mem_of_getElem? ht)
        have h2 : Tryd.prog.wantsStandIn t = false := by simpa using h
        exact h2⟩)
    (by kernel_rfl)
end Go.Proofs.YtdfehdjpbmkaoaaDoor
