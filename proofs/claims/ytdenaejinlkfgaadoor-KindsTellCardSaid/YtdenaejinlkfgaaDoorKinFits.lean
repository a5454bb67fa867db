/- Package kinds: whether a message has what it must, and may: contracts. -/
import Derived.Test.YtdenaejinlkfgaaDoorKinWhole
namespace Go.Proofs.YtdenaejinlkfgaaDoor
open Go.RowKit
set_option maxHeartbeats 1000000
set_option linter.unusedVariables false

theorem msg_one (m : MsgC) : m.cells.toArray.all (·.oneCell') = true := by simp [MsgC.cells, Value.oneCell']
def m0 : List Value := [.int .i64 0, .int .i64 0, .string ⟨#[]⟩, .string ⟨#[]⟩, .string ⟨#[]⟩, .string ⟨#[]⟩, .int .u64 0, .string ⟨#[]⟩, .string ⟨#[]⟩, .string ⟨#[]⟩, .string ⟨#[]⟩, .int .i64 0, .string ⟨#[]⟩, .string ⟨#[]⟩, .int .i64 0, .string ⟨#[]⟩, .slice none 0 0, .string ⟨#[]⟩, .string ⟨#[]⟩, .slice none 0 0, .slice none 0 0]
/-- whether a message has what it must -/
def fitsM (m : MsgC) : Int := fitsR (rowOf m.kind) (hasL m.there) m.bad
set_option maxHeartbeats 4000000 in
set_option maxRecDepth 20000 in
theorem kinds_fits_any (m : MsgC) (hk0 : -9223372036854775808 ≤ m.kind) (hk1 : m.kind ≤ 9223372036854775807) (w : World) (hT : Tabs w := by repeat' first | with_reducible assumption | with_reducible apply Tabs.drew | with_reducible apply Tabs.drewN | with_reducible apply Tabs.alloc | refine Tabs.fr ?_ (by with_reducible assumption)) :
    Calls Tryd.prog 21 #[m.val] w fun e w' => e = .returned (.int .i64 (fitsM m)) ∧ Fr No w w' := by
  have hfi := fun u (h : Tabs u) => k_first _ _ _ (k_num_tests m.kind) u h
  have hsm : (dFirst (pNum m.kind)).must < 2048 ∧ (dFirst (pNum m.kind)).may < 2048 := by
    by_cases h : 1 ≤ m.kind ∧ m.kind < 12
    · obtain ⟨i, hi, _, he⟩ := (first_num m.kind).1 h
      rw [he]
      exact ⟨(dev_row hi).2.2.2.1, (dev_row hi).2.2.2.2⟩
    · rw [(first_num m.kind).2 h]
      exact ⟨by decide, by decide⟩
  have hres : fitsM m = if (dFirst (pNum m.kind)).kind = 0 then 15 else if !letsB (dFirst (pNum m.kind)) (maskN m.there 11) || m.bad then 19 else 0 := by unfold fitsM; exact fits_dev m.there m.bad m.kind
  generalize fitsM m = res at hres ⊢
  generalize dFirst (pNum m.kind) = r at hfi hsm hres
  have hha := fun u => below_of (k_has m u)
  have hml := maskN_lt m.there 11
  have hle := fun u => below_of (k_lets r (maskN m.there 11) hsm.1 hsm.2 hml u)
  have hwh := fun u => below_of (k_whole m u)
  generalize maskN m.there 11 = H at hha hle hres hml
  generalize letsB r H = lb at hle hres
  generalize m.bad = bad at hwh hres
  obtain ⟨rk, rc, rm, ru, ra⟩ := r
  have hb0 : Bk (w.alloc (.cells m.cells.toArray 29)) w.heap.size 29 m.cells := Bk.new w _ _
  have hfa : Fr No w (w.alloc (.cells m.cells.toArray 29)) := (Fr.refl No w).alloc _
  have hT1 : Tabs (w.alloc (.cells m.cells.toArray 29)) := hT.alloc
  unfold DRow.val at hfi hle
  simp only at hres
  unfold MsgC.val at hha hwh ⊢
  have hfi2 := hfi _ hT1
  unfold MsgC.cells at hfi2 hfa
  have HFI := Lib.hid hfi2; have HHA := Lib.hid hha; have HLE := Lib.hid hle; have HWH := Lib.hid hwh; have HRES := Lib.hid hres; have HB0 := Lib.hid hb0; have HFA := Lib.hid hfa
  clear hfi hfi2 hha hle hwh hres hb0 hfa hT hT1 hsm hml hk0 hk1
  cases hz : (rk == 0) with
  | true =>
    have hre : res = 15 := by rw [HRES.out, if_pos (by simpa using hz)]
    have HRE := Lib.hid hre
    clear hre
    go_enter Tryd.func21, Tryd.ntmps21
    go_wp2_with (go_at_call 28; refine HFI.out.mono ?_; rintro e w1 ⟨rfl, f1⟩; have HF1 := Lib.hid f1; clear f1)
    go_ret
    exact ⟨by rw [HRE.out]; rfl, (HFA.out.trans HF1.out).alloc _⟩
  | false =>
    have hre : res = if !lb || bad then 19 else 0 := by rw [HRES.out, if_neg (by simpa using hz)]
    have HRE := Lib.hid hre
    have t1 : True := trivial
    clear hre
    go_enter Tryd.func21, Tryd.ntmps21
    go_wp2_with (first
      | (go_at_call 28; refine HFI.out.mono ?_; rintro e w1 ⟨rfl, f1⟩; have HF1 := Lib.hid f1; have B1 := ((HB0.out.no f1).no ((Fr.refl No w1).alloc (.cells #[.int .i64 rk, .string rc, .string rm, .int .u16 (ru : Int), .int .u16 (ra : Int)] 52))); have BZ := Lib.hid (Bk.new (w1.alloc (.cells #[.int .i64 rk, .string rc, .string rm, .int .u16 (ru : Int), .int .u16 (ra : Int)] 52)) 59 m0.toArray); clear f1)
      | (clear t1; refine wpList_load_bk rfl 29 _ rfl w.heap.size rfl m.cells _ B1 (Tryd.underlying29) rfl (msgSize m) ?_; clear B1)
      | (refine wpList_store_bk rfl 59 _ _ rfl (w1.heap.size + 1) rfl m0 m.cells rfl (by simpa [m0] using BZ.out) rfl (kmsgSize m) (msg_one m) ?_; intro W bm f2 s2; have BM := Lib.hid bm; have HF2 := Lib.hid f2; clear bm f2 s2))
    have hbr : Bk W w1.heap.size 52 [.int .i64 rk, .string rc, .string rm, .int .u16 (ru : Int), .int .u16 (ra : Int)] :=
      ((Bk.new w1 _ _).no ((Fr.refl No _).alloc _)).fr HF2.out (by unfold Just; omega)
    have hbm := BM.out
    have hfw : Fr No w W := (((HFA.out.trans HF1.out).alloc _).alloc _).trans_just HF2.out (by have := (HFA.out.trans HF1.out).size; omega)
    have HFW := Lib.hid hfw
    have HQ1 := Lib.hid (show ∀ w' : World, (∃ p : Regrown, w' = Go.Sort.grow (redrawn W p.d) p.os) → w'.rangeAt w1.heap.size 0 [.int .i64 rk, .string rc, .string rm, .int .u16 (ru : Int), .int .u16 (ra : Int)] from fun w' ⟨p, hp⟩ => by
      rw [hp]; exact (hbr.no (fr_regrown W p.d p.os)).range)
    have HQ2 := Lib.hid (show ∀ w' : World, (∃ p : Regrown, w' = Go.Sort.grow (redrawn W p.d) p.os) → w'.rangeAt (w1.heap.size + 1) 0 m.cells from fun w' ⟨p, hp⟩ => by
      rw [hp]; exact (hbm.no (fr_regrown W p.d p.os)).range)
    clear hbr hbm hfw BM HF2 BZ HF1
    generalize w1.heap.size = g1 at HQ1 HQ2 ⊢
    have hre2 : ∀ q, (!lb || bad) = q → res = if q then 19 else 0 := fun q hq => by rw [HRE.out, hq]
    have HRE2 := Lib.hid hre2
    clear hre2 HRE HRES
    cases lb <;> cases bad
    all_goals
      refine wp_region_quiet_below (by kernel_rfl) (by kernel_rfl) ?_
      repeat (first
        | (refine quiet_load 52 _ rfl (by rfl) g1 (by rfl) _ _ HQ1.out (Tryd.underlying52) rfl (rowSize _ _ _ _ _) ?_)
        | (refine quiet_load 59 _ rfl (by rfl) (g1 + 1) (by rfl) m.cells _ HQ2.out (Tryd.underlying59) rfl (kmsgSize m) ?_)
        | quiet_step ((first
          | (go_at_call 34; exact Calls.regrown_of (HHA.out _))
          | (go_at_call 33; exact Calls.regrown_of (HLE.out _))
          | (go_at_call 35; exact Calls.regrown_of (HWH.out _)))))
      refine wpQuiet_nil ?_
      intro w7 hw7r
      obtain ⟨⟨nr, osr⟩, hw7r⟩ := hw7r
      have hf7 : Fr No W w7 := by rw [hw7r]; exact fr_regrown W nr osr
      clear hw7r
      go_wp2
      go_ret
      exact ⟨by rw [HRE2.out _ rfl]; rfl, HFW.out.trans hf7⟩
end Go.Proofs.YtdenaejinlkfgaaDoor
