/- Package codes: the first row that stands a test. -/
import Derived.Test.YthkjmbkfcnehoaaDoorTabs
import Derived.Test.YthkjmbkfcnehoaaDoorRefCod
import Derived.Test.YthkjmbkfcnehoaaDoorWhole
import Derived.LoopTactic
namespace Go.Proofs.YthkjmbkfcnehoaaDoor
open Go.RowKit
set_option maxHeartbeats 400000
set_option linter.unusedVariables false

theorem cod_size : (Tryd.prog.info? 46).map (·.size) = some codV.length := by kernel_rfl
theorem cod_index (k : Nat) (hk : k < 22) : ∀ w : World, (Instr.index 46 (.agg codV.toArray) (.int .i64 (k : Int))).run Tryd.prog w = .ok (eRow k).val w := by
  intro w
  have h : k = 0 ∨ k = 1 ∨ k = 2 ∨ k = 3 ∨ k = 4 ∨ k = 5 ∨ k = 6 ∨ k = 7 ∨ k = 8 ∨ k = 9 ∨ k = 10 ∨ k = 11 ∨ k = 12 ∨ k = 13 ∨ k = 14 ∨ k = 15 ∨ k = 16 ∨ k = 17 ∨ k = 18 ∨ k = 19 ∨ k = 20 ∨ k = 21 := by omega
  rcases h with rfl | rfl | rfl | rfl | rfl | rfl | rfl | rfl | rfl | rfl | rfl | rfl | rfl | rfl | rfl | rfl | rfl | rfl | rfl | rfl | rfl | rfl <;> (show _ = _; kernel_rfl)
theorem crow_size (a b c : Value) : (Tryd.prog.info? 37).map (·.size) = some [a, b, c].length := by kernel_rfl
theorem ccells {w : World} {g : Nat} {t : TypeId} {a b c : Value} (h : Bk w g t [a, b, c]) :
    w.cell? ⟨g, 0, none⟩ = some a ∧ w.cell? ⟨g, 1, none⟩ = some b ∧ w.cell? ⟨g, 2, none⟩ = some c ∧
    w.frozen? ⟨g, 0, none⟩ = false ∧ w.frozen? ⟨g, 1, none⟩ = false ∧ w.frozen? ⟨g, 2, none⟩ = false :=
  ⟨h.cell 0, h.cell 1, h.cell 2, h.frozen 0, h.frozen 1, h.frozen 2⟩
/-- three cells, written one behind the other -/
def cput (w : World) (g : Nat) (a b c : Value) : World := ((w.setCell ⟨g, 0, none⟩ a).setCell ⟨g, 1, none⟩ b).setCell ⟨g, 2, none⟩ c
theorem cput_cells {w : World} {g : Nat} {t : TypeId} {a' b' c' : Value} (h : Bk w g t [a', b', c']) (a b c : Value) :
    (w.setCell ⟨g, 0, none⟩ a).cell? ⟨g, 0, none⟩ = some a ∧ ((w.setCell ⟨g, 0, none⟩ a).setCell ⟨g, 1, none⟩ b).cell? ⟨g, 1, none⟩ = some b ∧ (((w.setCell ⟨g, 0, none⟩ a).setCell ⟨g, 1, none⟩ b).setCell ⟨g, 2, none⟩ c).cell? ⟨g, 2, none⟩ = some c :=
  ⟨(h.set_ 0 a).cell 0, ((h.set_ 0 a).set_ 1 b).cell 1, (((h.set_ 0 a).set_ 1 b).set_ 2 c).cell 2⟩
theorem cput_fr {S : Nat → Prop} {w0 w : World} {g : Nat} (h : Fr S w0 w) (hg : S g ∨ w0.heap.size ≤ g) (a b c : Value) : Fr S w0 (cput w g a b c) :=
  ((h.setCell hg a).setCell hg b).setCell hg c
/-- what a test of rows answers -/
structure CodTests (F : FuncId) (x : Value) (p : Nat → Bool) : Prop where
  enters : ∀ args w, (callFunc F args).run Tryd.prog w = .ok (.enter F args) w
  tells : ∀ (k : Nat) (w : World), k < 22 → Calls Tryd.prog F #[x, (eRow k).val] w fun e w' => e = .returned (.bool (p k)) ∧ Fr No w w'
set_option maxRecDepth 20000 in
theorem cod_first (F : FuncId) (x : Value) (p : Nat → Bool) (ht : CodTests F x p) (w : World) (hT : Tabs w := by repeat' first | with_reducible assumption | with_reducible apply Tabs.drew | with_reducible apply Tabs.drewN | with_reducible apply Tabs.alloc | refine Tabs.fr ?_ (by with_reducible assumption)) :
    Calls Tryd.prog 18 #[.func (.func F) #[x] #[]] w fun e w' => e = .returned (.tuple #[(eFirst p).1.val, .bool (eFirst p).2]) ∧ Fr No w w' := by
  have hb0 : Bk (w.alloc (.cells #[.string ⟨#[]⟩, .string ⟨#[]⟩, .string ⟨#[]⟩] 37)) w.heap.size 37 [.string ⟨#[]⟩, .string ⟨#[]⟩, .string ⟨#[]⟩] := Bk.new w _ _
  have hfa : Fr No w (w.alloc (.cells #[.string ⟨#[]⟩, .string ⟨#[]⟩, .string ⟨#[]⟩] 37)) := (Fr.refl No w).alloc _
  have HRG := Lib.hid (hT.alloc (o := .cells #[.string ⟨#[]⟩, .string ⟨#[]⟩, .string ⟨#[]⟩] 37)).ct
  have HB0 := Lib.hid hb0; have HFA := Lib.hid hfa
  have hen := ht.enters
  clear hb0 hfa hT
  go_enter Tryd.func18, Tryd.ntmps18
  go_wp2_with (first
    | (refine wpList_load_mid rfl 46 _ rfl 0 0 rfl codV _ HRG.out (Tryd.underlying46) rfl cod_size ?_; clear HRG))
  have HEN := Lib.hid hen; have HT := Lib.hid ht.tells
  clear ht
  go_loopw [7] (fun v wr => ∃ k : Nat, k ≤ 22 ∧ v = .int .i64 (k : Int) ∧ (∀ j, j < k → p j = false) ∧ Fr No (w.alloc (.cells #[.string ⟨#[]⟩, .string ⟨#[]⟩, .string ⟨#[]⟩] 37)) wr) (fun v _ => 22 - (intOf v).toNat)
  case atStart => exact ⟨0, by omega, rfl, fun j hj => by omega, Fr.refl _ _⟩
  case round =>
    obtain ⟨k, hk, rfl, hall, hfr⟩ := hrel
    have HALL := Lib.hid hall; have HFR := Lib.hid hfr
    clear hall hfr
    rcases Nat.lt_or_ge k 22 with hkn | hge
    · have hix := cod_index k hkn
      have htl := fun u => HT.out k u hkn
      obtain ⟨⟨ra, rs, rr⟩, hr⟩ : ∃ r, eRow k = r := ⟨_, rfl⟩
      rw [hr] at hix htl
      unfold ERow.val at hix htl
      have HR := Lib.hid hr; have HTL := Lib.hid htl
      have hb1 : Bk (wr.alloc (.cells #[.string ra, .string rs, .string rr] 37)) wr.heap.size 37 [.string ra, .string rs, .string rr] := Bk.new wr _ _
      have HB1 := Lib.hid hb1
      have HFA2 := Lib.hid ((Fr.refl No wr).alloc (.cells #[.string ra, .string rs, .string rr] 37))
      clear hr htl hb1
      cases hp : p k with
      | true =>
        rw [hp] at HTL
        have HP := Lib.hid hp
        have he : eFirst p = (⟨ra, rs, rr⟩, true) := by rw [eFirst_at hkn HALL.out hp, HR.out]
        have HE := Lib.hid he
        clear hp he
        go_wp2_with (first
          | (refine (HTL.out _).mono ?_; rintro e w2 ⟨rfl, f2⟩; have B2 := HB1.out.no f2; have HF2 := Lib.hid (HFR.out.trans (HFA2.out.trans f2)); have B3 := HB0.out.no HF2.out; obtain ⟨b0, b1, b2, z0, z1, z2⟩ := ccells B3; have B3H := Lib.hid B3; clear f2 B3)
          | (refine wpList_load_bk rfl 37 _ rfl wr.heap.size rfl _ _ B2 (Tryd.underlying37) rfl (crow_size _ _ _) ?_; clear B2))
        obtain ⟨q0, q1, q2⟩ := cput_cells B3H.out (.string ra) (.string rs) (.string rr)
        refine bodyPost_ret (v := .tuple #[.agg #[.string ra, .string rs, .string rr], .bool true]) (by simp [results, Tryd.results18, go_sem, q0, q1, q2]) rfl ?_
        exact ⟨by rw [HE.out]; rfl, cput_fr (HFA.out.trans HF2.out) (.inr (Nat.le_refl _)) _ _ _⟩
      | false =>
        rw [hp] at HTL
        have HP := Lib.hid hp
        clear hp
        go_wp2_with (first
          | (refine (HTL.out _).mono ?_; rintro e w2 ⟨rfl, f2⟩; have HF2 := Lib.hid (HFR.out.trans (HFA2.out.trans f2)); clear f2))
        go_roundw
        case rel => exact ⟨k + 1, by omega, by go_num, fun j hj => by
          by_cases hjk : j = k
          · subst hjk; exact HP.out
          · exact HALL.out j (by omega), HF2.out⟩
        case measure => simp [intOf]; omega
    · obtain rfl : k = 22 := by omega
      have he : eFirst p = (⟨⟨#[]⟩, ⟨#[]⟩, ⟨#[]⟩⟩, false) := by rw [eFirst_none HALL.out]; rfl
      have HE := Lib.hid he
      have B3 := HB0.out.no HFR.out
      obtain ⟨b0, b1, b2, z0, z1, z2⟩ := ccells B3
      have B3H := Lib.hid B3
      clear he B3
      go_wp2
      obtain ⟨q0, q1, q2⟩ := cput_cells B3H.out (.string ⟨#[]⟩) (.string ⟨#[]⟩) (.string ⟨#[]⟩)
      refine bodyPost_ret (v := .tuple #[.agg #[.string ⟨#[]⟩, .string ⟨#[]⟩, .string ⟨#[]⟩], .bool false]) (by simp [results, Tryd.results18, go_sem, q0, q1, q2]) rfl ?_
      exact ⟨by rw [HE.out]; rfl, cput_fr (HFA.out.trans HFR.out) (.inr (Nat.le_refl _)) _ _ _⟩
/-- the rows as the plain words have them -/
theorem eRow_at {k : Nat} (hk : k < 22) : eRow k = ⟨bstr (cRow k).1, bstr (cRow k).2.1, bstr (cRow k).2.2⟩ := by
  have h : k = 0 ∨ k = 1 ∨ k = 2 ∨ k = 3 ∨ k = 4 ∨ k = 5 ∨ k = 6 ∨ k = 7 ∨ k = 8 ∨ k = 9 ∨ k = 10 ∨ k = 11 ∨ k = 12 ∨ k = 13 ∨ k = 14 ∨ k = 15 ∨ k = 16 ∨ k = 17 ∨ k = 18 ∨ k = 19 ∨ k = 20 ∨ k = 21 := by omega
  rcases h with rfl | rfl | rfl | rfl | rfl | rfl | rfl | rfl | rfl | rfl | rfl | rfl | rfl | rfl | rfl | rfl | rfl | rfl | rfl | rfl | rfl | rfl <;> rfl
theorem cod_least (p : Nat → Bool) : ∀ n : Nat, (∀ j, j < n → p j = false) ∨ ∃ k, k < n ∧ (∀ j, j < k → p j = false) ∧ p k = true
  | 0 => .inl fun j hj => by omega
  | n + 1 => by
    rcases cod_least p n with h | ⟨k, hk, h0, h1⟩
    · cases hp : p n with
      | true => exact .inr ⟨n, by omega, h, hp⟩
      | false =>
        refine .inl fun j hj => ?_
        rcases Nat.lt_or_ge j n with hlt | hge
        · exact h j hlt
        · obtain rfl : j = n := by omega
          exact hp
    · exact .inr ⟨k, by omega, h0, h1⟩
theorem eFirst_of (p : Nat → Bool) (q : List UInt8 × List UInt8 × List UInt8 → Bool) (h : ∀ k, k < 22 → p k = q (cRow k)) :
    eFirst p = (⟨bstr (fstC (firstC q)), bstr (staC (firstC q)), bstr (reaC (firstC q))⟩, (firstC q).isSome) := by
  rcases cod_least p 22 with h0 | ⟨k, hk, h0, h1⟩
  · rw [eFirst_none h0, first_none q (fun j hj => by rw [← h j hj]; exact h0 j hj)]
    rfl
  · rw [eFirst_at hk h0 h1, first_some q k hk (fun j hj => by rw [← h j (by omega)]; exact h0 j hj) (by rw [← h k hk]; exact h1), eRow_at hk]
    rfl
end Go.Proofs.YthkjmbkfcnehoaaDoor
