/- The texts CodFirst, CodProg, KinFirst, KinProg, joined. -/
import Derived.Test.YthlgnmgjfgbffaaGreatDoorL15
import Derived.Test.YthlgnmgjfgbffaaGreatDoorL18
import Derived.Test.YthlgnmgjfgbffaaGreatDoorL14
import Derived.LoopTactic
import Derived.Test.YthlgnmgjfgbffaaGreatDoorL20
import Derived.Test.YthlgnmgjfgbffaaGreatDoorL08
/- Package codes: the first row that stands a test. -/
namespace Go.Proofs.YthlgnmgjfgbffaaGreatDoor
open Go.RowKit
set_option maxHeartbeats 400000
set_option linter.unusedVariables false

theorem cod_size : (Tryz.prog.info? 195).map (·.size) = some codV.length := by kernel_rfl
theorem cod_index (k : Nat) (hk : k < 22) : ∀ w : World, (Instr.index 195 (.agg codV.toArray) (.int .i64 (k : Int))).run Tryz.prog w = .ok (eRow k).val w := by
  intro w
  have h : k = 0 ∨ k = 1 ∨ k = 2 ∨ k = 3 ∨ k = 4 ∨ k = 5 ∨ k = 6 ∨ k = 7 ∨ k = 8 ∨ k = 9 ∨ k = 10 ∨ k = 11 ∨ k = 12 ∨ k = 13 ∨ k = 14 ∨ k = 15 ∨ k = 16 ∨ k = 17 ∨ k = 18 ∨ k = 19 ∨ k = 20 ∨ k = 21 := by omega
  rcases h with rfl | rfl | rfl | rfl | rfl | rfl | rfl | rfl | rfl | rfl | rfl | rfl | rfl | rfl | rfl | rfl | rfl | rfl | rfl | rfl | rfl | rfl <;> (show _ = _; kernel_rfl)
theorem crow_size (a b c : Value) : (Tryz.prog.info? 141).map (·.size) = some [a, b, c].length := by kernel_rfl
theorem ccells {w : World} {g : Nat} {t : TypeId} {a b c : Value} (h : Bk w g t [a, b, c]) :
    w.cell? ⟨g, 0, none⟩ = some a ∧ w.cell? ⟨g, 1, none⟩ = some b ∧ w.cell? ⟨g, 2, none⟩ = some c ∧
    w.frozen? ⟨g, 0, none⟩ = false ∧ w.frozen? ⟨g, 1, none⟩ = false ∧ w.frozen? ⟨g, 2, none⟩ = false :=
  ⟨h.cell 0, h.cell 1, h.cell 2, h.frozen 0, h.frozen 1, h.frozen 2⟩
/-- three cells, written one behind the other -/
def cput (w : World) (g : Nat) (a b c : Value) : World := ((w.setCell ⟨g, 0, none⟩ a).setCell ⟨g, 1, none⟩ b).setCell ⟨g, 2, none⟩ c
theorem cput_cells {w : World} {g : Nat} {t : TypeId} {a' b' c' : Value} (h : Bk w g t [a', b', c']) (a b c : Value) :
    (w.setCell ⟨g, 0, none⟩ a).cell? ⟨g, 0, none⟩ = some a ∧ ((w.setCell ⟨g, 0, none⟩ a).setCell ⟨g, 1, none⟩ b).cell? ⟨g, 1, none⟩ = some b ∧ (((w.setCell ⟨g, 0, none⟩ a).setCell ⟨g, 1, none⟩ b).setCell ⟨g, 2, none⟩ c).cell? ⟨g, 2, none⟩ = some c :=
  ⟨(h.set_ 0 a).cell 0, ((h.set_ 0 a).set_ 1 b).cell 1, (((h.set_ 0 a).set_ 1 b).set_ 2 c).cell 2⟩
theorem cput_fr {S : Nat → Prop} {w0 w : World} {g : Nat} (h : Fr S w0 w) (hg : S g ∨ w0.heap.size ≤ g) (a b c : Value) : Fr S w0 (cput w g a b c) :=
  ((h.setCell hg a).setCell hg b).setCell hg c
/-- what a test of rows answers -/
structure CodTests (F : FuncId) (x : Value) (p : Nat → Bool) : Prop where
  enters : ∀ args w, (callFunc F args).run Tryz.prog w = .ok (.enter F args) w
  tells : ∀ (k : Nat) (w : World), k < 22 → Calls Tryz.prog F #[x, (eRow k).val] w fun e w' => e = .returned (.bool (p k)) ∧ Fr No w w'
set_option maxRecDepth 20000 in
theorem cod_firstR (F : FuncId) (x : Value) (p : Nat → Bool) (ht : CodTests F x p) (w : World) (hT : Tabs w := by repeat' first | with_reducible assumption | with_reducible apply Tabs.drew | with_reducible apply Tabs.drewN | with_reducible apply Tabs.alloc | refine Tabs.fr ?_ (by with_reducible assumption)) :
    Calls Tryz.prog 97 #[.func (.func F) #[x] #[]] w fun e w' => e = .returned (.tuple #[(eFirst p).1.val, .bool (eFirst p).2]) ∧ Fr No w w' := by
  have hb0 : Bk (w.alloc (.cells #[.string ⟨#[]⟩, .string ⟨#[]⟩, .string ⟨#[]⟩] 141)) w.heap.size 141 [.string ⟨#[]⟩, .string ⟨#[]⟩, .string ⟨#[]⟩] := Bk.new w _ _
  have hfa : Fr No w (w.alloc (.cells #[.string ⟨#[]⟩, .string ⟨#[]⟩, .string ⟨#[]⟩] 141)) := (Fr.refl No w).alloc _
  have HRG := Lib.hid (hT.alloc (o := .cells #[.string ⟨#[]⟩, .string ⟨#[]⟩, .string ⟨#[]⟩] 141)).ct
  have HB0 := Lib.hid hb0; have HFA := Lib.hid hfa
  have hen := ht.enters
  clear hb0 hfa hT
  go_enter Tryz.func97, Tryz.ntmps97
  go_wp2_with (first
    | (refine wpList_load_mid rfl 195 _ rfl 1 0 rfl codV _ HRG.out (Tryz.underlying195) rfl cod_size ?_; clear HRG))
  have HEN := Lib.hid hen; have HT := Lib.hid ht.tells
  clear ht
  go_loopw [7] (fun v wr => ∃ k : Nat, k ≤ 22 ∧ v = .int .i64 (k : Int) ∧ (∀ j, j < k → p j = false) ∧ Fr No (w.alloc (.cells #[.string ⟨#[]⟩, .string ⟨#[]⟩, .string ⟨#[]⟩] 141)) wr) (fun v _ => 22 - (intOf v).toNat)
  case atStart => exact ⟨0, by omega, rfl, fun j hj => by omega, Fr.refl _ _⟩
  case round =>
    obtain ⟨k, hk, rfl, hall, hfr⟩ := hrel
    have HALL := Lib.hid hall; have HFR := Lib.hid hfr
    clear hall hfr
    rcases Nat.lt_or_ge k 22 with hkn | hge
    · have hix := cod_index k hkn
      have htl := fun u => HT.out k u hkn
      obtain ⟨⟨ra, rs, rr⟩, hr⟩ : ∃ r, eRow k = r := ⟨_, rfl⟩
      rw [hr] at hix htl
      unfold ERow.val at hix htl
      have HR := Lib.hid hr; have HTL := Lib.hid htl
      have hb1 : Bk (wr.alloc (.cells #[.string ra, .string rs, .string rr] 141)) wr.heap.size 141 [.string ra, .string rs, .string rr] := Bk.new wr _ _
      have HB1 := Lib.hid hb1
      have HFA2 := Lib.hid ((Fr.refl No wr).alloc (.cells #[.string ra, .string rs, .string rr] 141))
      clear hr htl hb1
      cases hp : p k with
      | true =>
        rw [hp] at HTL
        have HP := Lib.hid hp
        have he : eFirst p = (⟨ra, rs, rr⟩, true) := by rw [eFirst_at hkn HALL.out hp, HR.out]
        have HE := Lib.hid he
        clear hp he
        go_wp2_with (first
          | (refine (HTL.out _).mono ?_; rintro e w2 ⟨rfl, f2⟩; have B2 := HB1.out.no f2; have HF2 := Lib.hid (HFR.out.trans (HFA2.out.trans f2)); have B3 := HB0.out.no HF2.out; obtain ⟨b0, b1, b2, z0, z1, z2⟩ := ccells B3; have B3H := Lib.hid B3; clear f2 B3)
          | (refine wpList_load_bk rfl 141 _ rfl wr.heap.size rfl _ _ B2 (Tryz.underlying141) rfl (crow_size _ _ _) ?_; clear B2))
        obtain ⟨q0, q1, q2⟩ := cput_cells B3H.out (.string ra) (.string rs) (.string rr)
        refine bodyPost_ret (v := .tuple #[.agg #[.string ra, .string rs, .string rr], .bool true]) (by simp [results, Tryz.results97, go_sem, q0, q1, q2]) rfl ?_
        exact ⟨by rw [HE.out]; rfl, cput_fr (HFA.out.trans HF2.out) (.inr (Nat.le_refl _)) _ _ _⟩
      | false =>
        rw [hp] at HTL
        have HP := Lib.hid hp
        clear hp
        go_wp2_with (first
          | (refine (HTL.out _).mono ?_; rintro e w2 ⟨rfl, f2⟩; have HF2 := Lib.hid (HFR.out.trans (HFA2.out.trans f2)); clear f2))
        go_roundw
        case rel => exact ⟨k + 1, by omega, by go_num, fun j hj => by
          by_cases hjk : j = k
          · subst hjk; exact HP.out
          · exact HALL.out j (by omega), HF2.out⟩
        case measure => simp [intOf]; omega
    · obtain rfl : k = 22 := by omega
      have he : eFirst p = (⟨⟨#[]⟩, ⟨#[]⟩, ⟨#[]⟩⟩, false) := by rw [eFirst_none HALL.out]; rfl
      have HE := Lib.hid he
      have B3 := HB0.out.no HFR.out
      obtain ⟨b0, b1, b2, z0, z1, z2⟩ := ccells B3
      have B3H := Lib.hid B3
      clear he B3
      go_wp2
      obtain ⟨q0, q1, q2⟩ := cput_cells B3H.out (.string ⟨#[]⟩) (.string ⟨#[]⟩) (.string ⟨#[]⟩)
      refine bodyPost_ret (v := .tuple #[.agg #[.string ⟨#[]⟩, .string ⟨#[]⟩, .string ⟨#[]⟩], .bool false]) (by simp [results, Tryz.results97, go_sem, q0, q1, q2]) rfl ?_
      exact ⟨by rw [HE.out]; rfl, cput_fr (HFA.out.trans HFR.out) (.inr (Nat.le_refl _)) _ _ _⟩
/-- the rows as the plain words have them -/
theorem eRow_at {k : Nat} (hk : k < 22) : eRow k = ⟨bstr (cRow k).1, bstr (cRow k).2.1, bstr (cRow k).2.2⟩ := by
  have h : k = 0 ∨ k = 1 ∨ k = 2 ∨ k = 3 ∨ k = 4 ∨ k = 5 ∨ k = 6 ∨ k = 7 ∨ k = 8 ∨ k = 9 ∨ k = 10 ∨ k = 11 ∨ k = 12 ∨ k = 13 ∨ k = 14 ∨ k = 15 ∨ k = 16 ∨ k = 17 ∨ k = 18 ∨ k = 19 ∨ k = 20 ∨ k = 21 := by omega
  rcases h with rfl | rfl | rfl | rfl | rfl | rfl | rfl | rfl | rfl | rfl | rfl | rfl | rfl | rfl | rfl | rfl | rfl | rfl | rfl | rfl | rfl | rfl <;> rfl
theorem cod_least (p : Nat → Bool) : ∀ n : Nat, (∀ j, j < n → p j = false) ∨ ∃ k, k < n ∧ (∀ j, j < k → p j = false) ∧ p k = true
  | 0 => .inl fun j hj => by omega
  | n + 1 => by
    rcases cod_least p n with h | ⟨k, hk, h0, h1⟩
    · cases hp : p n with
      | true => exact .inr ⟨n, by omega, h, hp⟩
      | false =>
        refine .inl fun j hj => ?_
        rcases Nat.lt_or_ge j n with hlt | hge
        · exact h j hlt
        · obtain rfl : j = n := by omega
          exact hp
    · exact .inr ⟨k, by omega, h0, h1⟩
theorem eFirst_of (p : Nat → Bool) (q : List UInt8 × List UInt8 × List UInt8 → Bool) (h : ∀ k, k < 22 → p k = q (cRow k)) :
    eFirst p = (⟨bstr (fstC (firstC q)), bstr (staC (firstC q)), bstr (reaC (firstC q))⟩, (firstC q).isSome) := by
  rcases cod_least p 22 with h0 | ⟨k, hk, h0, h1⟩
  · rw [eFirst_none h0, first_none q (fun j hj => by rw [← h j hj]; exact h0 j hj)]
    rfl
  · rw [eFirst_at hk h0 h1, first_some q k hk (fun j hj => by rw [← h j (by omega)]; exact h0 j hj) (by rw [← h k hk]; exact h1), eRow_at hk]
    rfl
end Go.Proofs.YthlgnmgjfgbffaaGreatDoor
/- What package codes does: contracts of its calls. -/
namespace Go.Proofs.YthlgnmgjfgbffaaGreatDoor
open Go.RowKit
set_option maxHeartbeats 400000
set_option linter.unusedVariables false

def pAct (S : ByteArray) (k : Nat) : Bool := (eRow k).action.toList == S.toList
def pWrd (S T : ByteArray) (k : Nat) : Bool := (eRow k).status.toList == S.toList && (eRow k).reason.toList == T.toList
theorem cod_num_of (S : ByteArray) (k : Nat) (w : World) (hk : k < 22) : Calls Tryz.prog 98 #[.string S, (eRow k).val] w fun e w' => e = .returned (.bool (pAct S k)) ∧ Fr No w w' := by
  have hp : pAct S k = ((eRow k).action.toList == S.toList) := rfl
  obtain ⟨⟨ra, rs, rr⟩, hr⟩ : ∃ r, eRow k = r := ⟨_, rfl⟩
  rw [hr] at hp ⊢
  rw [hp]
  unfold ERow.val
  have hfa := Lib.hid ((Fr.refl No w).alloc (.cells #[.string ra, .string rs, .string rr] 141))
  clear hp hr
  go_enter Tryz.func98, Tryz.ntmps98
  go_wp2
  go_ret
  exact ⟨rfl, hfa.out⟩
theorem cod_num_tests (S : ByteArray) : CodTests 98 (.string S) (pAct S) := ⟨fun _ _ => by kernel_rfl, fun k w hk => cod_num_of S k w hk⟩
theorem bstr_beq (l : List UInt8) (S : ByteArray) : ((bstr l).toList == S.toList) = (l == S.data.toList) := by rw [bstr_toList, s_list]
theorem act_first (S : ByteArray) : (eFirst (pAct S)).1.status = wS S ∧ (eFirst (pAct S)).1.reason = wR S ∧ (eFirst (pAct S)).2 = wK S := by
  rw [eFirst_of (pAct S) (fun r => r.1 == S.data.toList) (fun k hk => by unfold pAct; rw [eRow_at hk]; exact bstr_beq _ _)]
  exact ⟨rfl, rfl, rfl⟩
theorem wrd_first (S T : ByteArray) : (eFirst (pWrd S T)).1.action = aA S T ∧ (eFirst (pWrd S T)).2 = aK S T := by
  rw [eFirst_of (pWrd S T) (fun r => r.2.1 == S.data.toList && r.2.2 == T.data.toList) (fun k hk => by unfold pWrd; rw [eRow_at hk]; dsimp only; rw [bstr_beq, bstr_beq])]
  exact ⟨rfl, rfl⟩
theorem codes_known_any (S : ByteArray) (w : World) (hT : Tabs w := by repeat' first | with_reducible assumption | with_reducible apply Tabs.drew | with_reducible apply Tabs.drewN | with_reducible apply Tabs.alloc | refine Tabs.fr ?_ (by with_reducible assumption)) : Calls Tryz.prog 56 #[.string S] w fun e w' => e = .returned (.bool (wK S)) ∧ Fr No w w' := by
  have hf := cod_firstR _ _ _ (cod_num_tests S) w
  obtain ⟨h1, h2, h3⟩ := act_first S
  obtain ⟨⟨⟨ra, rs, rr⟩, ok⟩, hr⟩ : ∃ r, eFirst (pAct S) = r := ⟨_, rfl⟩
  rw [hr] at hf h3
  dsimp only at h3
  rw [← h3]
  unfold ERow.val at hf
  have HF := Lib.hid hf
  clear hf h1 h2 h3 hr
  go_enter Tryz.func56, Tryz.ntmps56
  go_wp2_with (go_at_call 97; refine HF.out.mono ?_; rintro e w1 ⟨rfl, f1⟩)
  go_ret
  exact ⟨rfl, f1.alloc _⟩
end Go.Proofs.YthlgnmgjfgbffaaGreatDoor
/- Package kinds: the first row that stands a test. -/
namespace Go.Proofs.YthlgnmgjfgbffaaGreatDoor
open Go.RowKit
set_option maxHeartbeats 400000
set_option linter.unusedVariables false

theorem devSize : (Tryz.prog.info? 180).map (·.size) = some devV.length := by kernel_rfl
theorem dev_index (k : Nat) (hk : k < 11) : ∀ w : World, (Instr.index 180 (.agg devV.toArray) (.int .i64 (k : Int))).run Tryz.prog w = .ok (dRow k).val w := by
  intro w
  have h : k = 0 ∨ k = 1 ∨ k = 2 ∨ k = 3 ∨ k = 4 ∨ k = 5 ∨ k = 6 ∨ k = 7 ∨ k = 8 ∨ k = 9 ∨ k = 10 := by omega
  rcases h with rfl | rfl | rfl | rfl | rfl | rfl | rfl | rfl | rfl | rfl | rfl <;> (show _ = _; kernel_rfl)
theorem rowSize (a b c d e : Value) : (Tryz.prog.info? 128).map (·.size) = some [a, b, c, d, e].length := by kernel_rfl
theorem cells5 {w : World} {g : Nat} {t : TypeId} {a b c d e : Value} (h : Bk w g t [a, b, c, d, e]) :
    w.cell? ⟨g, 0, none⟩ = some a ∧ w.cell? ⟨g, 1, none⟩ = some b ∧ w.cell? ⟨g, 2, none⟩ = some c ∧ w.cell? ⟨g, 3, none⟩ = some d ∧ w.cell? ⟨g, 4, none⟩ = some e ∧
    w.frozen? ⟨g, 0, none⟩ = false ∧ w.frozen? ⟨g, 1, none⟩ = false ∧ w.frozen? ⟨g, 2, none⟩ = false ∧ w.frozen? ⟨g, 3, none⟩ = false ∧ w.frozen? ⟨g, 4, none⟩ = false :=
  ⟨h.cell 0, h.cell 1, h.cell 2, h.cell 3, h.cell 4, h.frozen 0, h.frozen 1, h.frozen 2, h.frozen 3, h.frozen 4⟩
/-- five cells, written one behind the other -/
def put5 (w : World) (g : Nat) (a b c d e : Value) : World := ((((w.setCell ⟨g, 0, none⟩ a).setCell ⟨g, 1, none⟩ b).setCell ⟨g, 2, none⟩ c).setCell ⟨g, 3, none⟩ d).setCell ⟨g, 4, none⟩ e
theorem put5_cells {w : World} {g : Nat} {t : TypeId} {a' b' c' d' e' : Value} (h : Bk w g t [a', b', c', d', e']) (a b c d e : Value) :
    (w.setCell ⟨g, 0, none⟩ a).cell? ⟨g, 0, none⟩ = some a ∧ ((w.setCell ⟨g, 0, none⟩ a).setCell ⟨g, 1, none⟩ b).cell? ⟨g, 1, none⟩ = some b ∧ (((w.setCell ⟨g, 0, none⟩ a).setCell ⟨g, 1, none⟩ b).setCell ⟨g, 2, none⟩ c).cell? ⟨g, 2, none⟩ = some c ∧
    ((((w.setCell ⟨g, 0, none⟩ a).setCell ⟨g, 1, none⟩ b).setCell ⟨g, 2, none⟩ c).setCell ⟨g, 3, none⟩ d).cell? ⟨g, 3, none⟩ = some d ∧
    (((((w.setCell ⟨g, 0, none⟩ a).setCell ⟨g, 1, none⟩ b).setCell ⟨g, 2, none⟩ c).setCell ⟨g, 3, none⟩ d).setCell ⟨g, 4, none⟩ e).cell? ⟨g, 4, none⟩ = some e :=
  ⟨(h.set_ 0 a).cell 0, ((h.set_ 0 a).set_ 1 b).cell 1, (((h.set_ 0 a).set_ 1 b).set_ 2 c).cell 2, ((((h.set_ 0 a).set_ 1 b).set_ 2 c).set_ 3 d).cell 3, (((((h.set_ 0 a).set_ 1 b).set_ 2 c).set_ 3 d).set_ 4 e).cell 4⟩
theorem put5_fr {S : Nat → Prop} {w0 w : World} {g : Nat} (h : Fr S w0 w) (hg : S g ∨ w0.heap.size ≤ g) (a b c d e : Value) : Fr S w0 (put5 w g a b c d e) :=
  ((((h.setCell hg a).setCell hg b).setCell hg c).setCell hg d).setCell hg e
/-- what a test of rows answers -/
structure RowTests (F : FuncId) (x : Value) (p : Nat → Bool) : Prop where
  enters : ∀ args w, (callFunc F args).run Tryz.prog w = .ok (.enter F args) w
  tells : ∀ (k : Nat) (w : World), k < 11 → Calls Tryz.prog F #[x, (dRow k).val] w fun e w' => e = .returned (.bool (p k)) ∧ Fr No w w'
set_option maxRecDepth 20000 in
theorem k_first (F : FuncId) (x : Value) (p : Nat → Bool) (ht : RowTests F x p) (w : World) (hT : Tabs w := by repeat' first | with_reducible assumption | with_reducible apply Tabs.drew | with_reducible apply Tabs.drewN | with_reducible apply Tabs.alloc | refine Tabs.fr ?_ (by with_reducible assumption)) :
    Calls Tryz.prog 86 #[.func (.func F) #[x] #[]] w fun e w' => e = .returned (dFirst p).val ∧ Fr No w w' := by
  have hb0 : Bk (w.alloc (.cells #[.int .i64 0, .string ⟨#[]⟩, .string ⟨#[]⟩, .int .u16 0, .int .u16 0] 128)) w.heap.size 128 [.int .i64 0, .string ⟨#[]⟩, .string ⟨#[]⟩, .int .u16 0, .int .u16 0] := Bk.new w _ _
  have hfa : Fr No w (w.alloc (.cells #[.int .i64 0, .string ⟨#[]⟩, .string ⟨#[]⟩, .int .u16 0, .int .u16 0] 128)) := (Fr.refl No w).alloc _
  have HRG := Lib.hid (hT.alloc (o := .cells #[.int .i64 0, .string ⟨#[]⟩, .string ⟨#[]⟩, .int .u16 0, .int .u16 0] 128)).kt
  have HB0 := Lib.hid hb0; have HFA := Lib.hid hfa
  have hen := ht.enters
  clear hb0 hfa hT
  go_enter Tryz.func86, Tryz.ntmps86
  go_wp2_with (first
    | (refine wpList_load_mid rfl 180 _ rfl 0 0 rfl devV _ HRG.out (Tryz.underlying180) rfl devSize ?_; clear HRG))
  have HEN := Lib.hid hen; have HT := Lib.hid ht.tells
  clear ht
  go_loopw [6] (fun v wr => ∃ k : Nat, k ≤ 11 ∧ v = .int .i64 (k : Int) ∧ (∀ j, j < k → p j = false) ∧ Fr No (w.alloc (.cells #[.int .i64 0, .string ⟨#[]⟩, .string ⟨#[]⟩, .int .u16 0, .int .u16 0] 128)) wr) (fun v _ => 11 - (intOf v).toNat)
  case atStart => exact ⟨0, by omega, rfl, fun j hj => by omega, Fr.refl _ _⟩
  case round =>
    obtain ⟨k, hk, rfl, hall, hfr⟩ := hrel
    have HALL := Lib.hid hall; have HFR := Lib.hid hfr
    clear hall hfr
    rcases Nat.lt_or_ge k 11 with hkn | hge
    · have hix := dev_index k hkn
      have htl := fun u => HT.out k u hkn
      obtain ⟨⟨rk, rc, rm, ru, ra⟩, hr⟩ : ∃ r, dRow k = r := ⟨_, rfl⟩
      rw [hr] at hix htl
      unfold DRow.val at hix htl
      have HR := Lib.hid hr; have HTL := Lib.hid htl
      have hb1 : Bk (wr.alloc (.cells #[.int .i64 rk, .string rc, .string rm, .int .u16 (ru : Int), .int .u16 (ra : Int)] 128)) wr.heap.size 128 [.int .i64 rk, .string rc, .string rm, .int .u16 (ru : Int), .int .u16 (ra : Int)] := Bk.new wr _ _
      have HB1 := Lib.hid hb1
      have HFA2 := Lib.hid ((Fr.refl No wr).alloc (.cells #[.int .i64 rk, .string rc, .string rm, .int .u16 (ru : Int), .int .u16 (ra : Int)] 128))
      clear hr htl hb1
      cases hp : p k with
      | true =>
        rw [hp] at HTL
        have HP := Lib.hid hp
        have he : (dFirst p).val = .agg #[.int .i64 rk, .string rc, .string rm, .int .u16 (ru : Int), .int .u16 (ra : Int)] := by rw [dFirst_at hkn HALL.out hp, HR.out]; rfl
        have HE := Lib.hid he
        clear hp he
        go_wp2_with (first
          | (refine (HTL.out _).mono ?_; rintro e w2 ⟨rfl, f2⟩; have B2 := HB1.out.no f2; have HF2 := Lib.hid (HFR.out.trans (HFA2.out.trans f2)); have B3 := HB0.out.no HF2.out; obtain ⟨b0, b1, b2, b3, b4, z0, z1, z2, z3, z4⟩ := cells5 B3; have B3H := Lib.hid B3; clear f2 B3)
          | (refine wpList_load_bk rfl 128 _ rfl wr.heap.size rfl _ _ B2 (Tryz.underlying128) rfl (rowSize _ _ _ _ _) ?_; clear B2))
        obtain ⟨q0, q1, q2, q3, q4⟩ := put5_cells B3H.out (.int .i64 rk) (.string rc) (.string rm) (.int .u16 (ru : Int)) (.int .u16 (ra : Int))
        refine bodyPost_ret (v := .agg #[.int .i64 rk, .string rc, .string rm, .int .u16 (ru : Int), .int .u16 (ra : Int)]) (by simp [results, Tryz.results86, go_sem, q0, q1, q2, q3, q4]) rfl ?_
        exact ⟨by rw [HE.out], put5_fr (HFA.out.trans HF2.out) (.inr (Nat.le_refl _)) _ _ _ _ _⟩
      | false =>
        rw [hp] at HTL
        have HP := Lib.hid hp
        clear hp
        go_wp2_with (first
          | (refine (HTL.out _).mono ?_; rintro e w2 ⟨rfl, f2⟩; have HF2 := Lib.hid (HFR.out.trans (HFA2.out.trans f2)); clear f2))
        go_roundw
        case rel => exact ⟨k + 1, by omega, by go_num, fun j hj => by
          by_cases hjk : j = k
          · subst hjk; exact HP.out
          · exact HALL.out j (by omega), HF2.out⟩
        case measure => simp [intOf]; omega
    · obtain rfl : k = 11 := by omega
      have he : (dFirst p).val = .agg #[.int .i64 0, .string ⟨#[]⟩, .string ⟨#[]⟩, .int .u16 0, .int .u16 0] := by rw [dFirst_none HALL.out]; rfl
      have HE := Lib.hid he
      have B3 := HB0.out.no HFR.out
      obtain ⟨b0, b1, b2, b3, b4, z0, z1, z2, z3, z4⟩ := cells5 B3
      have B3H := Lib.hid B3
      clear he B3
      go_wp2
      obtain ⟨q0, q1, q2, q3, q4⟩ := put5_cells B3H.out (.int .i64 0) (.string ⟨#[]⟩) (.string ⟨#[]⟩) (.int .u16 0) (.int .u16 0)
      refine bodyPost_ret (v := .agg #[.int .i64 0, .string ⟨#[]⟩, .string ⟨#[]⟩, .int .u16 0, .int .u16 0]) (by simp [results, Tryz.results86, go_sem, q0, q1, q2, q3, q4]) rfl ?_
      exact ⟨by rw [HE.out], put5_fr (HFA.out.trans HFR.out) (.inr (Nat.le_refl _)) _ _ _ _ _⟩
end Go.Proofs.YthlgnmgjfgbffaaGreatDoor
/- What package kinds does: contracts of its calls. -/
namespace Go.Proofs.YthlgnmgjfgbffaaGreatDoor
open Go.RowKit
set_option maxHeartbeats 400000
set_option linter.unusedVariables false

theorem k_num_of (K : Int) (k : Nat) (w : World) (hk : k < 11) : Calls Tryz.prog 104 #[.int .i64 K, (dRow k).val] w fun e w' => e = .returned (.bool (pNum K k)) ∧ Fr No w w' := by
  have hp : pNum K k = ((dRow k).kind == K) := rfl
  obtain ⟨⟨rk, rc, rm, ru, ra⟩, hr⟩ : ∃ r, dRow k = r := ⟨_, rfl⟩
  rw [hr] at hp ⊢
  rw [hp]
  unfold DRow.val
  have hfa := Lib.hid ((Fr.refl No w).alloc (.cells #[.int .i64 rk, .string rc, .string rm, .int .u16 (ru : Int), .int .u16 (ra : Int)] 128))
  clear hp hr
  go_enter Tryz.func104, Tryz.ntmps104
  go_wp2
  go_ret
  exact ⟨rfl, hfa.out⟩
theorem k_num_tests (K : Int) : RowTests 104 (.int .i64 K) (pNum K) := ⟨fun _ _ => by kernel_rfl, fun k w hk => k_num_of K k w hk⟩
theorem k_mti_of (S : ByteArray) (k : Nat) (w : World) (hk : k < 11) : Calls Tryz.prog 87 #[.string S, (dRow k).val] w fun e w' => e = .returned (.bool (pMti S k)) ∧ Fr No w w' := by
  have hp : pMti S k = ((dRow k).mti.toList == S.toList) := (s_beq _ _).symm
  obtain ⟨⟨rk, rc, rm, ru, ra⟩, hr⟩ : ∃ r, dRow k = r := ⟨_, rfl⟩
  rw [hr] at hp ⊢
  rw [hp]
  unfold DRow.val
  have hfa := Lib.hid ((Fr.refl No w).alloc (.cells #[.int .i64 rk, .string rc, .string rm, .int .u16 (ru : Int), .int .u16 (ra : Int)] 128))
  clear hp hr
  go_enter Tryz.func87, Tryz.ntmps87
  go_wp2
  go_ret
  exact ⟨rfl, hfa.out⟩
theorem k_mti_tests (S : ByteArray) : RowTests 87 (.string S) (pMti S) := ⟨fun _ _ => by kernel_rfl, fun k w hk => k_mti_of S k w hk⟩
theorem kinds_mti_any (k : Int) (hk0 : -9223372036854775808 ≤ k) (hk1 : k ≤ 9223372036854775807) (w : World) (hT : Tabs w := by repeat' first | with_reducible assumption | with_reducible apply Tabs.drew | with_reducible apply Tabs.drewN | with_reducible apply Tabs.alloc | refine Tabs.fr ?_ (by with_reducible assumption)) : Calls Tryz.prog 69 #[.int .i64 k] w fun e w' => e = .returned (.string (mtB k)) ∧ Fr No w w' := by
  have hf := k_first _ _ _ (k_num_tests k) w
  have he := (first_words k).2
  obtain ⟨r, hr⟩ : ∃ r, dFirst (pNum k) = r := ⟨_, rfl⟩
  rw [hr] at hf he
  rw [← he]
  obtain ⟨rk, rc, rm, ru, ra⟩ := r
  unfold DRow.val at hf
  have hfd : ∀ w : World, (Instr.field 128 (.agg #[.int .i64 rk, .string rc, .string rm, .int .u16 (ru : Int), .int .u16 (ra : Int)]) 2).run Tryz.prog w = .ok (.string rm) w := fun _ => by kernel_rfl
  have HF := Lib.hid hf
  clear hf he hr
  go_enter Tryz.func69, Tryz.ntmps69
  go_wp2_with (go_at_call 86; refine HF.out.mono ?_; rintro e w1 ⟨rfl, f1⟩)
  go_ret
  exact ⟨rfl, f1⟩
theorem kinds_ofmti_any (S : ByteArray) (w : World) (hT : Tabs w := by repeat' first | with_reducible assumption | with_reducible apply Tabs.drew | with_reducible apply Tabs.drewN | with_reducible apply Tabs.alloc | refine Tabs.fr ?_ (by with_reducible assumption)) : Calls Tryz.prog 48 #[.string S] w fun e w' => e = .returned (.int .i64 (ofMti S)) ∧ Fr No w w' := by
  have hf := k_first _ _ _ (k_mti_tests S) w
  have he := first_mti S
  obtain ⟨r, hr⟩ : ∃ r, dFirst (pMti S) = r := ⟨_, rfl⟩
  rw [hr] at hf he
  rw [← he]
  obtain ⟨rk, rc, rm, ru, ra⟩ := r
  unfold DRow.val at hf
  have hfd : ∀ w : World, (Instr.field 128 (.agg #[.int .i64 rk, .string rc, .string rm, .int .u16 (ru : Int), .int .u16 (ra : Int)]) 0).run Tryz.prog w = .ok (.int .i64 rk) w := fun _ => by kernel_rfl
  have HF := Lib.hid hf
  clear hf he hr
  go_enter Tryz.func48, Tryz.ntmps48
  go_wp2_with (go_at_call 86; refine HF.out.mono ?_; rintro e w1 ⟨rfl, f1⟩)
  go_ret
  exact ⟨rfl, f1⟩
end Go.Proofs.YthlgnmgjfgbffaaGreatDoor
