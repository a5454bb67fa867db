/- The texts EleProg, RdCut, joined. -/
import Derived.Test.YtpkalnkeafggjaaGreatDoorK21
import Derived.BigQuiet
import Derived.Test.YtpkalnkeafggjaaGreatDoorK01
/- Package element: Check. -/
namespace Go.Proofs.YtpkalnkeafggjaaGreatDoor
open Go.RowKit
set_option maxHeartbeats 400000
set_option linter.unusedVariables false
set_option maxRecDepth 20000

theorem pt_fits {w : World} {g : Nat} {t : TypeId} {tl : List Value} {no : Int} {D : Value} {r : FRow} {n : Nat} (h : Pt w g t tl no D r (n : Int)) :
    Calls Tryz.prog 81 #[.pointer (some ⟨g, 0, none⟩)] w fun e w' => e = .returned (.int .i64 (if fitB r n = true then 0 else 17)) ∧ Dr w w' := by
  obtain ⟨-, -, -, -, c4, c5, c6, -⟩ := h.cells
  clear h
  have HU := Lib.hid (fun b u => unless_any b 17 u)
  by_cases h0 : r.dig = 0
  · have e0 : ((r.dig : Int) == 0) = true := by rw [beq_iff_eq]; omega
    have e : fitB r n = (decide ((r.top : Int) ≤ (n : Int)) && decide ((n : Int) ≤ (r.top : Int))) := by
      unfold fitB; rw [if_pos h0]; congr 1 <;> rw [Bool.eq_iff_iff] <;> simp
    rw [e]
    clear e h0
    generalize (r.dig : Int) = DD at *
    generalize (r.top : Int) = T at *
    cases h1 : decide (T ≤ (n : Int)) <;> cases h2 : decide ((n : Int) ≤ T)
    all_goals
      go_enter Tryz.func81, Tryz.ntmps81
      go_wp2
      go_quiet ((go_at_call 36; exact quiet_same (HU.out _ _)))
      go_wp2
      go_ret
      exact ⟨rfl, (Dr.refl _).drewN _⟩
  · have e0 : ((r.dig : Int) == 0) = false := by rw [beq_eq_false_iff_ne]; omega
    have e : fitB r n = (decide ((1 : Int) ≤ (n : Int)) && decide ((n : Int) ≤ (r.top : Int))) := by
      unfold fitB; rw [if_neg h0]; congr 1 <;> rw [Bool.eq_iff_iff] <;> simp <;> omega
    rw [e]
    clear e h0
    generalize (r.dig : Int) = DD at *
    generalize (r.top : Int) = T at *
    cases h1 : decide ((1 : Int) ≤ (n : Int)) <;> cases h2 : decide ((n : Int) ≤ T)
    all_goals
      go_enter Tryz.func81, Tryz.ntmps81
      go_wp2
      go_quiet ((go_at_call 36; exact quiet_same (HU.out _ _)))
      go_wp2
      go_ret
      exact ⟨rfl, (Dr.refl _).drewN _⟩
set_option maxRecDepth 20000 in
theorem pt_typed {w : World} {g : Nat} {t : TypeId} {tl : List Value} {no : Int} {A : Option Addr} {m c : Nat} {d : List UInt8} {r : FRow} {n : Int} (h : Pt w g t tl no (.slice A m c) r n) (hk : r.kind = 1 ∨ r.kind = 2 ∨ r.kind = 3 ∨ r.kind = 4)
    (hr : Rd w A m c (u8s d)) (h1 : 1 ≤ m) (h2 : m ≤ 140737488355328) :
    Calls Tryz.prog 83 #[.pointer (some ⟨g, 0, none⟩)] w fun e w' => e = .returned (.int .i64 (if typB r.kind d = true then 0 else 14)) ∧ Fr No w w' := by
  obtain ⟨-, c1, -, c3, -⟩ := h.cells
  obtain ⟨F, hF, ht⟩ := test_of hk
  have hl : d.length = m := by simpa using hr.len
  have htl := fun u => hF.tells (bstr d) u (by rw [bstr_size]; omega) (by rw [bstr_size]; omega)
  have hstr : (convert 22 127 (.slice A m c)).run Tryz.prog w = .ok (.string (bstr d)) w := run_string hr 22 5 Tryz.underlying22 Tryz.underlying5 127 Tryz.underlying127
  have hb : (bstr d).data.toList = d := by simp [bstr]
  have hz : (bstr d).size ≤ 9223372036854775807 := by rw [bstr_size]; omega
  rw [hb] at htl
  generalize bstr d = S at *
  generalize typB r.kind d = K at *
  generalize r.kind = KK at *
  have HU := Lib.hid (fun u => unless_any K 14 u)
  have HT := Lib.hid ht; have HTL := Lib.hid htl
  have hen : ∀ args u, (callFunc F args).run Tryz.prog u = .ok (.enter F args) u := hF.enters
  clear h hF ht htl hr hl h1 h2 hk hb
  go_enter Tryz.func83, Tryz.ntmps83
  go_wp2_with (first
    | (go_at_call 94; refine (HT.out _).mono ?_; rintro e w1 ⟨rfl, rfl⟩)
    | (go_at_call 36; refine (HU.out _).mono ?_; rintro e w2 ⟨rfl, rfl⟩)
    | ((with_reducible refine (HTL.out _).mono ?_); rintro e w1 ⟨rfl, f1⟩; have F1 := Lib.hid f1; clear f1))
  all_goals
    go_ret
    exact ⟨rfl, F1.out⟩
theorem rd_far {w w' : World} {A : Option Addr} {m c : Nat} {xs : List Value} {S : Nat → Prop} (h : Rd w A m c xs) (hf : Fr S w w') (hS : 0 < m → ∀ ad, A = some ad → ¬ S ad.block) : Rd w' A m c xs := by
  refine ⟨h.len, h.cap, h.max, h.nil, fun ad e j u hu => hf.cell (h.cells ad e j u hu) ?_⟩
  rw [blk_add]
  have hj := (List.getElem?_eq_some_iff.1 hu).1
  have := h.len
  exact hS (by omega) ad e

/-! ### the three steps of a part that is there -/
abbrev threeV (g : Nat) : List Value := [.func (.func 79) #[.pointer (some ⟨g, 0, none⟩)] #[], .func (.func 81) #[.pointer (some ⟨g, 0, none⟩)] #[], .func (.func 83) #[.pointer (some ⟨g, 0, none⟩)] #[]]
def CkR (w0 : World) (g : Nat) (t : TypeId) (tl : List Value) (no : Int) (D : Value) (d : List UInt8) : Nat → World → Prop
  | 0, u => Fr (Just g) w0 u ∧ ∃ r, Pt u g t tl no D r (d.length : Int)
  | 1, u => Fr (Just g) w0 u ∧ ∃ r, elFind no = some r ∧ Pt u g t tl no D r (d.length : Int)
  | 2, u => Fr (Just g) w0 u ∧ ∃ r, elFind no = some r ∧ Pt u g t tl no D r (d.length : Int) ∧ fitB r d.length = true
  | _, u => Fr (Just g) w0 u ∧ ∃ r, elFind no = some r ∧ Pt u g t tl no D r (d.length : Int) ∧ chkEl no d = 0
def CkQ (w0 : World) (g : Nat) (no : Int) (d : List UInt8) (E : Int) (u : World) : Prop := Fr (Just g) w0 u ∧ chkEl no d = E
theorem ckR_fr {w0 u : World} {g : Nat} {t : TypeId} {tl : List Value} {no : Int} {D : Value} {d : List UInt8} {i : Nat} (h : CkR w0 g t tl no D d i u) : Fr (Just g) w0 u := by
  match i, h with
  | 0, h => exact h.1
  | 1, h => exact h.1
  | 2, h => exact h.1
  | _ + 3, h => exact h.1
theorem elGet_some {no : Int} {r : FRow} (h : elFind no = some r) : elGet no = r := by unfold elGet; rw [h]; rfl
theorem chkEl_some {no : Int} {r : FRow} (h : elFind no = some r) (d : List UInt8) : chkEl no d = chkR r d := by unfold chkEl; rw [h]
theorem three_steps {w0 : World} {g : Nat} {t : TypeId} {tl : List Value} {no : Int} {A : Option Addr} {c : Nat} {d : List UInt8} (hr : Rd w0 A d.length c (u8s d)) (hA : 0 < d.length → ∀ ad, A = some ad → ad.block ≠ g) (hd : d.length ≤ 9223372036854775807) (hT : ∀ u, Fr (Just g) w0 u → Tabs u) (i : Nat) (hi : i < 3) :
    ∃ F x, (threeV g)[i]? = some (.func (.func F) #[x] #[]) ∧ (∀ args w, (callFunc F args).run Tryz.prog w = .ok (.enter F args) w) ∧ ∀ u, CkR w0 g t tl no (.slice A d.length c) d i u → Calls Tryz.prog F #[x] u (SWTo (CkR w0 g t tl no (.slice A d.length c) d (i + 1)) (CkQ w0 g no d)) := by
  have h3 : i = 0 ∨ i = 1 ∨ i = 2 := by omega
  rcases h3 with rfl | rfl | rfl
  · refine ⟨_, _, rfl, fun args w => rfl, ?_⟩
    rintro u ⟨hf, r, hp⟩
    refine (pt_known hp (hT u hf)).mono ?_
    rintro e u' ⟨rfl, hp2, hf2⟩
    cases hs : elFind no with
    | none => exact ⟨16, rfl, .inr ⟨by decide, hf.trans hf2, by unfold chkEl; rw [hs]⟩⟩
    | some q =>
      rw [elGet_some hs] at hp2
      exact ⟨0, rfl, .inl ⟨rfl, hf.trans hf2, q, hs, hp2⟩⟩
  · refine ⟨_, _, rfl, fun args w => rfl, ?_⟩
    rintro u ⟨hf, r, hs, hp⟩
    refine (pt_fits hp).mono ?_
    rintro e u' ⟨rfl, hf2⟩
    cases hb : fitB r d.length with
    | true => exact ⟨0, rfl, .inl ⟨rfl, hf.dr hf2, r, hs, hp.still hf2.fr, hb⟩⟩
    | false => exact ⟨17, rfl, .inr ⟨by decide, hf.dr hf2, by rw [chkEl_some hs]; unfold chkR; rw [if_pos hb]⟩⟩
  · refine ⟨_, _, rfl, fun args w => rfl, ?_⟩
    rintro u ⟨hf, r, hs, hp, hb⟩
    have hm := (elFind_some hs).1
    have hr2 := rd_far hr hf (fun h0 ad e => hA h0 ad e)
    refine (pt_typed hp (el_row hm).2.2.2.2.1 hr2 (fit_bounds hm hb).1 (by have := (fit_bounds hm hb).2.2.1; omega)).mono ?_
    rintro e u' ⟨rfl, hf2⟩
    cases hk : typB r.kind d with
    | true => exact ⟨0, rfl, .inl ⟨rfl, hf.trans hf2.no, r, hs, hp.still hf2, by rw [chkEl_some hs]; unfold chkR; rw [hb, hk]; rfl⟩⟩
    | false => exact ⟨14, rfl, .inr ⟨by decide, hf.trans hf2.no, by rw [chkEl_some hs]; unfold chkR; rw [hb, hk]; rfl⟩⟩
theorem addr_at (g i : Nat) : (⟨g, 0, none⟩ : Addr).add i = ⟨g, i, none⟩ := by unfold Addr.add; split <;> simp_all
theorem three_walk {w : World} {g : Nat} {t : TypeId} {tl : List Value} {no : Int} {A : Option Addr} {c : Nat} {d : List UInt8} {r : FRow} (h : Pt w g t tl no (.slice A d.length c) r (d.length : Int)) (hr : Rd w A d.length c (u8s d)) (hA : 0 < d.length → ∀ ad, A = some ad → ad.block ≠ g) (hd : d.length ≤ 9223372036854775807) (hT : ∀ u, Fr (Just g) w u → Tabs u) (ty : TypeId) :
    Calls Tryz.prog 16 #[.slice (some ⟨w.heap.size, 0, none⟩) 3 3] (w.alloc (.cells (threeV g).toArray ty))
      (SWTo (CkR (w.alloc (.cells (threeV g).toArray ty)) g t tl no (.slice A d.length c) d 3) (CkQ (w.alloc (.cells (threeV g).toArray ty)) g no d)) := by
  have hfa : Fr No w (w.alloc (.cells (threeV g).toArray ty)) := (Fr.refl No w).alloc _
  have hbk := Bk.new w ty (threeV g).toArray
  have hgl := h.lt
  refine t_walk (some ⟨w.heap.size, 0, none⟩) 3 3 (threeV g) _ _ _ rfl (Nat.le_refl _) (by omega) (fun e => nomatch e) ⟨Fr.refl _ _, r, h.still hfa⟩ ?_ (fun i hi => three_steps (hr.no hfa) hA hd (fun u hu => hT u (hfa.no.trans hu)) i hi)
  intro i u hu ad e j v hv
  injection e with e
  subst e
  have h1 := (hbk.fr (ckR_fr hu) (fun x => by have : w.heap.size = g := x; omega)).cell j
  rw [addr_at, h1]
  exact hv
theorem pt_check {w : World} {g : Nat} {t : TypeId} {tl : List Value} {no : Int} {A : Option Addr} {c : Nat} {d : List UInt8} {r : FRow} (h : Pt w g t tl no (.slice A d.length c) r (d.length : Int)) (hr : Rd w A d.length c (u8s d)) (hA : 0 < d.length → ∀ ad, A = some ad → ad.block ≠ g) (hd : d.length ≤ 9223372036854775807) (hT : ∀ u, Fr (Just g) w u → Tabs u) :
    Calls Tryz.prog 86 #[.pointer (some ⟨g, 0, none⟩)] w fun e w' => e = .returned (.int .i64 (chkEl no d)) ∧ Fr (Just g) w w' ∧ (chkEl no d = 0 → Pt w' g t tl no (.slice A d.length c) (elGet no) (d.length : Int)) := by
  have HW := Lib.hid (three_walk h hr hA hd hT 49)
  have hfa := Lib.hid (((Fr.refl No w).alloc (.cells (threeV g).toArray 49)).no (S := Just g))
  clear h hr hA hd hT
  go_enter Tryz.func86, Tryz.ntmps86
  go_wp2_with (go_at_call 16; refine (HW.out).mono ?_; rintro e w1 ⟨E, rfl, hE⟩; have HE := Lib.hid hE; clear hE)
  go_ret
  rcases HE.out with ⟨rfl, hf, q, hs, hp, hc⟩ | ⟨_, hf, hc⟩
  · exact ⟨by rw [hc]; rfl, hfa.out.trans hf, fun _ => by rw [elGet_some hs]; exact hp⟩
  · exact ⟨by rw [hc]; rfl, hfa.out.trans hf, fun h0 => by rename_i hne; rw [hc] at h0; exact absurd h0 hne⟩
end Go.Proofs.YtpkalnkeafggjaaGreatDoor
/- Headers of bytes that are cut. No program. -/
namespace Go.Proofs.YtpkalnkeafggjaaGreatDoor
open Go.RowKit
set_option linter.unusedVariables false

/-- the header of the rest behind so many elements -/
def cutA (A : Option Addr) (c k : Nat) : Option Addr := if c = k then A else A.map (·.add k)
theorem cutA_block {A : Option Addr} {c k : Nat} {ad : Addr} (h : cutA A c k = some ad) : ∃ ad', A = some ad' ∧ ad.block = ad'.block := by
  unfold cutA at h
  split at h
  · exact ⟨ad, h, rfl⟩
  · obtain ⟨ad', rfl, rfl⟩ := Option.map_eq_some_iff.1 h
    exact ⟨ad', rfl, blk_add _ _⟩
theorem rd_rest {w : World} {A : Option Addr} {n c k : Nat} {b : List UInt8} (h : Rd w A n c (u8s b)) (hk : k ≤ n) : Rd w (cutA A c k) (n - k) (c - k) (u8s (b.drop k)) := by
  have := h.cut (k := k) (m := n) hk (Nat.le_refl _)
  have hl : b.length = n := by simpa using h.len
  have e := u8s_cut b k (n - k)
  rw [show k + (n - k) = n by omega, List.take_of_length_le (l := List.drop k b) (by rw [List.length_drop]; omega)] at e
  rw [e] at this
  exact this
theorem rd_head {w : World} {A : Option Addr} {n c k : Nat} {b : List UInt8} (h : Rd w A n c (u8s b)) (hk : k ≤ n) : Rd w A k c (u8s (b.take k)) := by
  have h1 := h.len
  have h2 := h.cap
  refine ⟨by rw [u8s_length] at h1 ⊢; rw [List.length_take]; omega, by omega, h.max, h.nil, fun ad e j u hu => ?_⟩
  refine h.cells ad e j u ?_
  have e : u8s (b.take k) = (u8s b).take k := by simp [u8s, List.map_take]
  rw [e, List.getElem?_take] at hu
  split at hu
  · exact hu
  · cases hu
theorem rd_part {w : World} {A : Option Addr} {n c k m : Nat} {b : List UInt8} (h : Rd w A n c (u8s b)) (hk : k + m ≤ n) : Rd w (cutA A c k) m (c - k) (u8s ((b.drop k).take m)) :=
  rd_head (rd_rest h (by omega)) (by omega)
end Go.Proofs.YtpkalnkeafggjaaGreatDoor
