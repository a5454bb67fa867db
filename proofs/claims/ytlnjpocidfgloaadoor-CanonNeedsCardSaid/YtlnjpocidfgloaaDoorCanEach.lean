/- What package canon's writer does: nodes, one behind the other, each with what stands in it. -/
import Derived.Test.YtlnjpocidfgloaaDoorCanPut
import Derived.Test.YtlnjpocidfgloaaDoorCanM
import Derived.Test.YtlnjpocidfgloaaDoorKids
namespace Go.Proofs.YtlnjpocidfgloaaDoor
open Go.RowKit
set_option maxHeartbeats 400000
set_option linter.unusedVariables false

/-- what a node's writing leaves, for all that are small enough -/
def NodeCon (F : Fo) (B g : Nat) (A : Option Addr) (n c : Nat) (N : Nat → Prop) (m : Nat) : Prop :=
  ∀ (nm t : List UInt8) (a : List (List UInt8 × List UInt8)) (k r : Fo) (pp : Int) (b : Nat), At F (-1) 0 (.cons nm t a k r) pp b → 1 + k.size ≤ m → ∀ (w : World) (p v : Value) (l : List UInt8),
    WrV w B g (.slice A n c) p v l → RdI 4 NodI w N A n c (F.flat (-1) 0) → l.length + (wr1 nm t a k).length ≤ 1000000000000 →
    Calls Tryd.prog 13 #[.pointer (some ⟨g, 0, none⟩), .int .i64 (b : Int)] w fun e w' => e = .returned (.tuple #[]) ∧ Went B g (.slice A n c) v (l ++ wr1 nm t a k) w w'
variable {F : Fo} {B g : Nat} {A : Option Addr} {n c : Nat} {N : Nat → Prop} {m : Nat} {w : World} {p v : Value} {l : List UInt8}
theorem WrV.below {V : Value} (h : WrV w B g V p v l) {i : Nat} (hi : i < B) : ¬ (i = g ∨ v.ownBlock = some i) := by
  rintro (rfl | e)
  · have := h.low; omega
  · have := (h.own.lt i e).1; omega
theorem drop_one {α : Type} {L : List α} {j : Nat} {x : α} {r : List α} (h : L.drop j = x :: r) : L[j]? = some x ∧ L.drop (j + 1) = r := by
  have h1 : (L.drop j)[0]? = some x := by rw [h]; rfl
  rw [List.getElem?_drop] at h1
  refine ⟨by simpa using h1, ?_⟩
  rw [← List.drop_drop, h]
  rfl
theorem c_each_any (hcon : NodeCon F B g A n c N m) (hN : ∀ i, N i → i < B) (f : Fo) (pp : Int) (b0 : Nat) (hat : At F (-1) 0 f pp b0) (hm : f.size ≤ m) (h : WrV w B g (.slice A n c) p v l) (hR : RdI 4 NodI w N A n c (F.flat (-1) 0))
    (KA : Option Addr) (kn kc : Nat) (hr : Rd w KA kn kc (ints (natI (f.tops b0)))) (hA : ∀ ad, KA = some ad → ¬ (ad.block = g ∨ v.ownBlock = some ad.block)) (hlen : l.length + f.wr.length ≤ 1000000000000) :
    Calls Tryd.prog 27 #[.slice KA kn kc, .func (.func 13) #[.pointer (some ⟨g, 0, none⟩)] #[]] w fun e w' => e = .returned (.tuple #[]) ∧ Went B g (.slice A n c) v (l ++ f.wr) w w' := by
  have hn : (natI (f.tops b0)).length = kn := by have := hr.len; rw [ints_length] at this; exact this
  have hnm : kn ≤ 9223372036854775807 := by have := hr.cap; have := hr.max; simp only [maxLen] at this; omega
  have hent : ∀ args u, (callFunc 13 args).run Tryd.prog u = .ok (.enter 13 args) u := fun _ _ => by kernel_rfl
  have hbl : ∀ i, N i → ¬ (i = g ∨ v.ownBlock = some i) := fun i hi => h.below (hN i hi)
  have hw0 := Went.refl h
  obtain ⟨T, hT⟩ : ∃ T, natI (f.tops b0) = T := ⟨_, rfl⟩
  rw [hT] at hr hn
  have HR := Lib.hid hr; have HA := Lib.hid hA; have HN := Lib.hid hR; have HB := Lib.hid hbl; have HW0 := Lib.hid hw0; have HC := Lib.hid hcon; have HAT := Lib.hid hat; have HT := Lib.hid hT
  clear hr hA hR hbl h hw0 hcon hat hN hT
  go_enter Tryd.func27, Tryd.ntmps27
  go_wp2
  go_loopw [8] (fun iv wr => ∃ (j : Nat) (f' : Fo) (p' : Int) (b' : Nat) (out : List UInt8), iv = .int .i64 (j : Int) ∧ j ≤ kn ∧ T.drop j = natI (f'.tops b') ∧ At F (-1) 0 f' p' b' ∧ f'.size ≤ m ∧ Went B g (.slice A n c) v (l ++ out) w wr ∧ out ++ f'.wr = f.wr) (fun iv _ => kn - (intOf iv).toNat)
  case atStart => exact ⟨0, f, pp, b0, [], rfl, Nat.zero_le _, by rw [List.drop_zero, HT.out], HAT.out, hm, by simpa using HW0.out, rfl⟩
  case round =>
    obtain ⟨j, f', p', b', out, rfl, hj, hdr, hat', hm', hwt, hout⟩ := hrel
    obtain ⟨p1, v1, h1, hf1, hv1⟩ := hwt
    rcases Nat.lt_or_ge j kn with hlt | hge
    · have hltI : (j : Int) < (kn : Int) := by omega
      have hjl : j < T.length := by omega
      obtain ⟨ad, u, rfl, hu, hc⟩ := (HR.out.fr hf1 HA.out).at_ hlt
      rw [ints_get T j hjl] at hu
      injection hu with hu
      subst hu
      cases f' with
      | nil =>
        have := congrArg List.length hdr
        simp [Fo.tops, natI] at this
        omega
      | cons nm t a k r =>
        have hdr2 : T.drop j = (b' : Int) :: natI (r.tops (b' + 1 + k.size)) := hdr
        obtain ⟨e1, e2⟩ := drop_one hdr2
        have e3 : T[j] = (b' : Int) := by rw [List.getElem?_eq_getElem hjl] at e1; injection e1
        rw [e3] at hc
        rw [Fo.wr_one, ← List.append_assoc] at hout
        have hlo : (l ++ out).length + (wr1 nm t a k).length ≤ 1000000000000 := by
          have := congrArg List.length hout
          simp only [List.length_append] at this ⊢
          omega
        have hsz : 1 + k.size ≤ m := by simp only [Fo.size] at hm'; omega
        have hcal := HC.out nm t a k r p' b' hat' hsz wr p1 v1 (l ++ out) h1 (HN.out.fr nod_ok hf1 HB.out) hlo
        rw [List.append_assoc] at hcal
        have hrest := At.rest hat'
        have hms : r.size ≤ m := by simp only [Fo.size] at hm'; omega
        have HCAL := Lib.hid hcal; have HF := Lib.hid hf1; have HV := Lib.hid hv1; have HRE := Lib.hid hrest; have HO := Lib.hid hout; have HD := Lib.hid e2
        clear hcal hf1 hv1 hrest hout e2 e1 e3 hdr hdr2 hat' h1 hm' hlo
        go_wp2_with (go_at_call 13; refine HCAL.out.mono ?_; rintro e w2 ⟨rfl, hw2⟩)
        go_roundw
        case rel => exact ⟨j + 1, r, p', b' + 1 + k.size, out ++ wr1 nm t a k, by go_num, hlt, HD.out, HRE.out, hms, Went.step HF.out HV.out hw2, HO.out⟩
        case measure => simp [intOf]; omega
    · have hke : j = kn := by omega
      subst hke
      have hnil : f'.wr = [] := by
        rw [List.drop_eq_nil_of_le (by omega)] at hdr
        cases f' with
        | nil => rfl
        | cons => simp [Fo.tops, natI] at hdr
      rw [hnil, List.append_nil] at hout
      have hW : Went B g (.slice A n c) v (l ++ f.wr) w wr := ⟨p1, v1, by rw [hout] at h1; exact h1, hf1, hv1⟩
      have HW := Lib.hid hW
      clear h1 hf1 hv1 hW hdr hat' hout hnil
      go_wp2
      go_end0
      exact ⟨rfl, HW.out⟩
end Go.Proofs.YtlnjpocidfgloaaDoor
