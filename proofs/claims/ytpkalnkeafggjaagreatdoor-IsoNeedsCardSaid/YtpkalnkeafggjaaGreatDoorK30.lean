/- The texts EleWrite, joined. -/
import Derived.Test.YtpkalnkeafggjaaGreatDoorK22
import Derived.Test.YtpkalnkeafggjaaGreatDoorK28
import Derived.Test.YtpkalnkeafggjaaGreatDoorK03
import Derived.Test.YtpkalnkeafggjaaGreatDoorK26
import Derived.Test.YtpkalnkeafggjaaGreatDoorK29
import Derived.Deep.RegionLaw
/- Package element: Check and Write. -/
namespace Go.Proofs.YtpkalnkeafggjaaGreatDoor
open Go.RowKit
set_option maxHeartbeats 400000
set_option linter.unusedVariables false
set_option maxRecDepth 20000

theorem part_size (a b c d e f g : Value) : (Tryz.prog.info? 115).map (·.size) = some [a, b, c, d, e, f, g].length := by kernel_rfl
theorem part_of (no : Int) (A : Option Addr) (m c : Nat) (w : World) :
    Calls Tryz.prog 85 #[.agg #[.int .i64 no, .slice A m c]] w fun e w' => e = .returned (.agg #[.int .i64 no, .slice A m c, .int .i64 0, .int .i64 0, .int .i64 0, .int .i64 0, .int .i64 (m : Int)]) ∧ Fr No w w' := by
  go_enter Tryz.func85, Tryz.ntmps85
  go_wp2
  refine bodyPost_ret (results_bk (t := 115) (g := w.heap.size + 1) (cs := [.int .i64 no, .slice A m c, .int .i64 0, .int .i64 0, .int .i64 0, .int .i64 0, .int .i64 (m : Int)]) (Tryz.results85) (by rfl) (by
    have h := Bk.new (w.alloc (.cells #[.int .i64 no, .slice A m c] 40)) 115 #[.int .i64 no, .slice A m c, .int .i64 0, .int .i64 0, .int .i64 0, .int .i64 0, .int .i64 (m : Int)]
    simpa using h) Tryz.underlying115 rfl (part_size _ _ _ _ _ _ _)) rfl ?_
  exact ⟨rfl, ((Fr.refl No w).alloc _).alloc _⟩
set_option maxRecDepth 20000 in
/-- the length's digits -/
theorem pt_ahead {w : World} {g : Nat} {t : TypeId} {tl : List Value} {no : Int} {D : Value} {r : FRow} {n : Nat} (h : Pt w g t tl no D r (n : Int)) (hn : n < 9223372036854775808) (hT : Tab w) :
    Calls Tryz.prog 87 #[.pointer (some ⟨g, 0, none⟩)] w fun e w' => ∃ v, e = .returned v ∧ OwnM w' w.heap.size v (headEl r n) ∧ Fr No w w' := by
  obtain ⟨-, -, -, -, c4, -, c6, -⟩ := h.cells
  have ht := fun u (hu : Fr No w u) => text_any n (r.dig : Int) u (by omega) (tab_no hT hu)
  have hw : IntKind.u64.wrap (n : Int) = (n : Int) := IntWalk.u64_in _ ⟨by omega, by omega⟩
  have he : textR n (r.dig : Int) = headEl r n := rfl
  rw [he] at ht
  have hz : (headEl r n).length ≤ 140737488355328 := by
    unfold headEl
    rcases text_cases n (r.dig : Int) with ⟨_, _, h1⟩ | ⟨_, _, h1⟩ | ⟨_, _, _, _, h1⟩ | ⟨m, h1, h2, h3, _, h5⟩
    · rw [h1]; simp
    · rw [h1]; simp
    · rw [h1]; simp
    · rw [h5, wide_length]; omega
  generalize textE n (r.dig : Int) = E at *
  generalize headEl r n = L at *
  generalize (r.dig : Int) = DD at *
  have HT := Lib.hid ht; have HZ := Lib.hid hz
  clear h ht he hz hT hn
  go_enter Tryz.func87, Tryz.ntmps87
  go_wp2
  have g4 := cell_regrown c4
  have g6 := cell_regrown c6
  refine wp_region_quiet_below (by kernel_rfl) (by kernel_rfl) ?_
  repeat (first
    | quiet_step ((first
      | (go_at_call 95; exact Calls.regrown_of (below_of (HT.out _ (fr_regrown _ _ _)))))))
  refine wpQuiet_nil ?_
  intro w9 hw9r
  obtain ⟨⟨nr, osr⟩, hw9r⟩ := hw9r
  have F9 := Lib.hid (show Fr No w w9 by rw [hw9r]; exact fr_regrown w nr osr)
  clear hw9r g4 g6
  obtain ⟨cc, w10, hcv, ho, f10, hz10⟩ := conv_own (P := Tryz.prog) w9 9 22 5 L Tryz.underlying9 Tryz.underlying22 Tryz.underlying5 (by simp only [maxLen]; have := HZ.out; omega)
  have HO := Lib.hid ho; have F10 := Lib.hid f10
  clear ho f10
  go_wp2
  go_ret
  exact ⟨_, rfl, ownM_low HO.out F9.out.size, F9.out.trans F10.out⟩
/-- what Write answers -/
def WrtTo (l : List UInt8) (E : Int) (w : World) (e : Ending) (w' : World) : Prop := ∃ v, e = .returned (.tuple #[v, .int .i64 E]) ∧ OwnM w' w.heap.size v l ∧ Fr No w w'
theorem wrt_no {no : Int} {d : List UInt8} (h : chkEl no d ≠ 0) (w : World) {w' : World} (hf : Fr No w w') : WrtTo (wrtEl no d) (chkEl no d) w (.returned (.tuple #[.slice none 0 0, .int .i64 (chkEl no d)])) w' := by
  have : wrtEl no d = [] := by unfold wrtEl; rw [if_neg h]
  rw [this]
  exact ⟨_, rfl, ⟨rfl, .inl ⟨rfl, rfl⟩⟩, hf⟩
theorem head_small {no : Int} {d : List UInt8} (h : chkEl no d = 0) : (headEl (elGet no) d.length).length ≤ 4 ∧ d.length ≤ 999 ∧ wrtEl no d = headEl (elGet no) d.length ++ d := by
  obtain ⟨r, hr, hm, hc, hw, hl, h0⟩ := wrt_ok h
  have h1 := (chkR_ok hc).1
  rw [elGet_some hr]
  have := head_len hm h1
  have := el_row hm
  have := fit_bounds hm h1
  exact ⟨by omega, by omega, hw⟩
theorem el_write_any (no : Int) (A : Option Addr) (c : Nat) (d : List UInt8) (w : World) (hr : Rd w A d.length c (u8s d)) (hd : d.length ≤ 9223372036854775807) (hT : Tabs w := by repeat' first | with_reducible assumption | with_reducible apply Tabs.drew | with_reducible apply Tabs.drewN | with_reducible apply Tabs.alloc | refine Tabs.fr ?_ (by with_reducible assumption)) :
    Calls Tryz.prog 74 #[.agg #[.int .i64 no, .slice A d.length c]] w (WrtTo (wrtEl no d) (chkEl no d) w) := by
  have HP := Lib.hid (fun u => part_of no A d.length c u)
  have HC := Lib.hid (fun (w1 : World) (hf : Fr No w w1) => by
    have hf2 : Fr No w (w1.alloc (.cells #[.int .i64 no, .slice A d.length c, .int .i64 0, .int .i64 0, .int .i64 0, .int .i64 0, .int .i64 (d.length : Int)] 115)) := hf.alloc _
    exact pt_check (g := w1.heap.size) (tl := []) (r := elNone) (Bk.new w1 115 #[.int .i64 no, .slice A d.length c, .int .i64 0, .int .i64 0, .int .i64 0, .int .i64 0, .int .i64 (d.length : Int)]) (hr.no hf2) (fun h0 ad e x => by have := (hr.lt h0) ad e; have := hf.size; omega) hd (fun u hu => hT.fr (hf2.trans_just hu hf.size)))
  have HTEN := Lib.hid (fun u (hf : Fr No w u) => (hT.fr hf).ten)
  have HRD := Lib.hid hr
  clear hr hT
  by_cases hE : chkEl no d = 0
  · have HE := Lib.hid hE
    have HS := Lib.hid (head_small hE)
    rw [hE] at HC ⊢
    obtain ⟨m, hm⟩ : ∃ m, d.length = m := ⟨_, rfl⟩
    have HDL := Lib.hid hm
    rw [hm] at HP HC HRD hd ⊢
    clear hm hE
    go_enter Tryz.func74, Tryz.ntmps74
    go_wp2_with (first
      | (go_at_call 85; refine (HP.out _).mono ?_; rintro e w1 ⟨rfl, f1⟩; have F1 := Lib.hid (((Fr.refl No w).alloc (.cells #[.int .i64 no, .slice A m c] 40)).trans f1); clear f1)
      | (go_at_call 86; (refine (HC.out _ F1.out).mono ?_; rintro e w2 ⟨rfl, f2, hp2⟩; have F2 := Lib.hid ((F1.out.alloc (.cells #[.int .i64 no, .slice A m c, .int .i64 0, .int .i64 0, .int .i64 0, .int .i64 0, .int .i64 (m : Int)] 115)).trans_just f2 F1.out.size); have P2 := Lib.hid (hp2 trivial); clear f2 hp2)))
    have c1 := P2.out.cells.2.1
    have HA := Lib.hid (fun u (hu : Fr No w2 u) => pt_ahead (P2.out.still hu) (by have := HS.out.2.1; have := HDL.out; omega) (HTEN.out u (F2.out.trans hu)))
    obtain ⟨L, hL⟩ : ∃ L, headEl (elGet no) m = L := ⟨_, rfl⟩
    rw [hL] at HA
    have HL := Lib.hid hL
    have hs := HS.out
    rw [HDL.out, hL] at hs
    have HS2 := Lib.hid hs
    clear hL hs HS HC HP
    go_region_law (first
      | (go_simp; go_at_call 87; refine (HA.out _ (Fr.refl No w2).drew).mono ?_; rintro e w3 ⟨v, rfl, ho3, f3⟩; have HO3 := Lib.hid ho3; have F23 := Lib.hid (((Fr.refl No w2).drew).trans f3); have c13 := F23.out.cell c1 (fun x => x); obtain ⟨V, vc, rfl, -⟩ := ownM_rd ho3; clear ho3 f3)
      | (refine stepM rfl (.tmp 12) (.tmp 15) rfl w2.drew.heap.size _ L (by rfl) HO3.out A m c d (by rfl) (HRD.out.no (F2.out.trans F23.out)) (by have := HS2.out; omega) F23.out.size ?_; intro v4 w4 o4 g4 q4; have F4 := Lib.hid (F23.out.grown g4 (fun g e => .inr (ownM_lt HO3.out g e).1)); have O4 := Lib.hid o4; clear o4 g4 q4))
    all_goals
      go_wp2_with fail
      go_ret2
      exact ⟨_, rfl, by rw [HS2.out.2.2]; exact ownM_low O4.out F2.out.size, F2.out.trans F4.out⟩
  · have hEb : (chkEl no d != 0) = true := by rw [bne_iff_ne]; exact hE
    have HW := Lib.hid (fun w' (hf : Fr No w w') => wrt_no hE w hf)
    obtain ⟨E, hEE⟩ : ∃ E, chkEl no d = E := ⟨_, rfl⟩
    rw [hEE] at HC HW hEb ⊢
    generalize wrtEl no d = WL at *
    generalize d.length = m at *
    clear hE hEE
    go_enter Tryz.func74, Tryz.ntmps74
    go_wp2_with (first
      | (go_at_call 85; refine (HP.out _).mono ?_; rintro e w1 ⟨rfl, f1⟩; have F1 := Lib.hid (((Fr.refl No w).alloc (.cells #[.int .i64 no, .slice A m c] 40)).trans f1); clear f1)
      | (go_at_call 86; refine (HC.out _ F1.out).mono ?_; rintro e w2 ⟨rfl, f2, -⟩; have F2 := Lib.hid ((F1.out.alloc (.cells #[.int .i64 no, .slice A m c, .int .i64 0, .int .i64 0, .int .i64 0, .int .i64 0, .int .i64 (m : Int)] 115)).trans_just f2 F1.out.size); clear f2))
    go_ret2
    exact HW.out _ F2.out
end Go.Proofs.YtpkalnkeafggjaaGreatDoor
