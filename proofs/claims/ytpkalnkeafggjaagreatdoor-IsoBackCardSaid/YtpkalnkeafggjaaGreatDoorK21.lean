/- The texts Steps, ElePart, joined. -/
import Derived.Test.YtpkalnkeafggjaaGreatDoorK01
import Derived.LoopTactic
import Derived.Deep.CutRange
import Derived.Test.YtpkalnkeafggjaaGreatDoorK19
import Derived.Test.YtpkalnkeafggjaaGreatDoorK20
import Derived.Test.YtpkalnkeafggjaaGreatDoorK10
/- Package steps: steps, one behind the other. -/
namespace Go.Proofs.YtpkalnkeafggjaaGreatDoor
open Go.RowKit
set_option maxHeartbeats 1000000
set_option linter.unusedVariables false
set_option maxRecDepth 20000

theorem st_ne0 {x : Int} (h : x ≠ 0) : (x != 0) = true := by rw [bne_iff_ne]; exact h
/-- what a step must answer -/
def SWTo (R : World → Prop) (Q : Int → World → Prop) (e : Ending) (w' : World) : Prop := ∃ E : Int, e = .returned (.int .i64 E) ∧ ((E = 0 ∧ R w') ∨ (E ≠ 0 ∧ Q E w'))
/-- steps, one behind the other: of what R says each hands on what the next one wants -/
theorem t_walk (A : Option Addr) (n c : Nat) (fs : List Value) (w : World) (R : Nat → World → Prop) (Q : Int → World → Prop) (hlen : fs.length = n) (hcn : n ≤ c) (hn : n ≤ 1000) (hA : A = none → n = 0) (h0 : R 0 w) (hR : ∀ k u, R k u → ∀ ad, A = some ad → ∀ j v, fs[j]? = some v → u.cell? (ad.add j) = some v)
    (hs : ∀ k, k < n → ∃ F x, fs[k]? = some (.func (.func F) #[x] #[]) ∧ (∀ args w, (callFunc F args).run Tryz.prog w = .ok (.enter F args) w) ∧ ∀ u, R k u → Calls Tryz.prog F #[x] u (SWTo (R (k + 1)) Q)) :
    Calls Tryz.prog 16 #[.slice A n c] w (SWTo (R n) Q) := by
  have HR := Lib.hid hR; have HS := Lib.hid hs; have H0 := Lib.hid h0
  clear hR hs h0
  go_enter Tryz.func16, Tryz.ntmps16
  go_wp2
  go_loopw [8] (fun v wr => ∃ k : Nat, k ≤ n ∧ v = .int .i64 (k : Int) ∧ R k wr) (fun v _ => n - (intOf v).toNat)
  case atStart => exact ⟨0, by omega, rfl, H0.out⟩
  case round =>
    obtain ⟨k, hk, rfl, hr⟩ := hrel
    have HRK := Lib.hid hr
    clear hr
    rcases Nat.lt_or_ge k n with hkn | hge
    · obtain ⟨F, x, hf, hen, hcall⟩ := HS.out k hkn
      cases A with
      | none => have := hA rfl; omega
      | some ad =>
        have hc := HR.out k wr HRK.out ad rfl k _ hf
        have hkI : (k : Int) < (n : Int) := by omega
        have HC := Lib.hid (hcall wr HRK.out)
        clear hcall hf
        go_upto_region 5 with ((with_reducible refine (HC.out).mono ?_); rintro e w1 ⟨E, rfl, hE⟩; have HE := Lib.hid hE; clear hE)
        by_cases hE : E = 0
        · subst hE
          have hr2 : R (k + 1) w1 := by
            rcases HE.out with ⟨_, h⟩ | ⟨h, _⟩
            · exact h
            · exact absurd rfl h
          have HR2 := Lib.hid hr2
          clear hr2 hen hc
          go_wp2_with fail
          go_roundw
          case rel => exact ⟨k + 1, by omega, by go_num, HR2.out⟩
          case measure => simp [intOf]; omega
        · have hEb := st_ne0 hE
          have HNE := Lib.hid hE
          clear hE hen hc
          go_wp2_with fail
          go_ret
          refine ⟨E, rfl, .inr ⟨HNE.out, ?_⟩⟩
          rcases HE.out with ⟨h, _⟩ | ⟨_, h⟩
          · exact absurd h HNE.out
          · exact h
    · obtain rfl : k = n := by omega
      go_wp2
      go_ret
      exact ⟨0, rfl, .inl ⟨rfl, HRK.out⟩⟩
theorem unless_any (b : Bool) (e : Int) (w : World) : Calls Tryz.prog 36 #[.bool b, .int .i64 e] w fun x w' => x = .returned (.int .i64 (if b = true then 0 else e)) ∧ w = w' := by
  cases b with
  | true =>
    rw [if_pos rfl]
    go_enter Tryz.func36, Tryz.ntmps36
    go_wp2
    go_ret
    exact ⟨rfl, rfl⟩
  | false =>
    rw [if_neg (by decide)]
    go_enter Tryz.func36, Tryz.ntmps36
    go_wp2
    go_ret
    exact ⟨rfl, rfl⟩
end Go.Proofs.YtpkalnkeafggjaaGreatDoor
/- Package element: a part under way: its format, its length, its kind. -/
namespace Go.Proofs.YtpkalnkeafggjaaGreatDoor
open Go.RowKit
set_option maxHeartbeats 400000
set_option linter.unusedVariables false
set_option maxRecDepth 20000

/-! ### a format; a spare one -/
def FRow.fmt (r : FRow) : Value := .agg #[.int .i64 r.no, .int .i64 r.kind, .int .i64 (r.dig : Int), .int .i64 (r.top : Int)]
theorem el_of_any (no : Int) (w : World) (hT : Tabs w := by repeat' first | with_reducible assumption | with_reducible apply Tabs.drew | with_reducible apply Tabs.drewN | with_reducible apply Tabs.alloc | refine Tabs.fr ?_ (by with_reducible assumption)) :
    Calls Tryz.prog 91 #[.int .i64 no] w fun e w' => e = .returned (.tuple #[(elGet no).fmt, .bool (elFind no).isSome]) ∧ Fr No w w' := by
  have HF := fun u (hf : Fr No w u) => ele_find no u (hT.fr hf)
  obtain ⟨⟨rn, rk, rd, rt, rs⟩, hr⟩ : ∃ r, elGet no = r := ⟨_, rfl⟩
  rw [hr] at HF ⊢
  unfold FRow.val at HF
  unfold FRow.fmt
  dsimp only at HF ⊢
  generalize (rd : Int) = D at *
  generalize (rt : Int) = T at *
  generalize (elFind no).isSome = K at *
  have HF := Lib.hid HF
  have hb0 : Bk (w.alloc (.cells #[.int .i64 0, .int .i64 0, .int .i64 0, .int .i64 0] 77)) w.heap.size 77 [.int .i64 0, .int .i64 0, .int .i64 0, .int .i64 0] := Bk.new w _ _
  have hfa : Fr No w (w.alloc (.cells #[.int .i64 0, .int .i64 0, .int .i64 0, .int .i64 0] 77)) := (Fr.refl No w).alloc _
  have HB0 := Lib.hid hb0; have HFA := Lib.hid hfa
  clear hb0 hfa hr hT
  go_enter Tryz.func91, Tryz.ntmps91
  go_wp2_with (go_at_call 96; refine (HF.out _ HFA.out).mono ?_; rintro e w1 ⟨rfl, f1⟩; have B1 := Bk.new w1 129 #[.int .i64 rn, .int .i64 rk, .int .i64 D, .int .i64 T, .bool rs]; have HF2 := Lib.hid ((HFA.out.trans f1).alloc (.cells #[.int .i64 rn, .int .i64 rk, .int .i64 D, .int .i64 T, .bool rs] 129)); have B3 := HB0.out.no (f1.alloc (.cells #[.int .i64 rn, .int .i64 rk, .int .i64 D, .int .i64 T, .bool rs] 129)); have c0 := B1.cell 0; have c1 := B1.cell 1; have c2 := B1.cell 2; have c3 := B1.cell 3; have z0 := B3.frozen 0; have z1 := B3.frozen 1; have z2 := B3.frozen 2; have z3 := B3.frozen 3; have d0 := B3.cell 0; have d1 := B3.cell 1; have d2 := B3.cell 2; have d3 := B3.cell 3; have B3H := Lib.hid B3; clear B1 B3 f1)
  have e0 := (B3H.out.set_ 0 (.int .i64 rn)).cell 0
  have e1 := ((B3H.out.set_ 0 (.int .i64 rn)).set_ 1 (.int .i64 rk)).cell 1
  have e2 := (((B3H.out.set_ 0 (.int .i64 rn)).set_ 1 (.int .i64 rk)).set_ 2 (.int .i64 D)).cell 2
  have e3 := ((((B3H.out.set_ 0 (.int .i64 rn)).set_ 1 (.int .i64 rk)).set_ 2 (.int .i64 D)).set_ 3 (.int .i64 T)).cell 3
  refine bodyPost_ret (v := .tuple #[.agg #[.int .i64 rn, .int .i64 rk, .int .i64 D, .int .i64 T], .bool K]) (by simp [results, Tryz.results91, go_sem, e0, e1, e2, e3]) rfl ?_
  exact ⟨rfl, (((HF2.out.setCell (.inr (Nat.le_refl _)) _).setCell (.inr (Nat.le_refl _)) _).setCell (.inr (Nat.le_refl _)) _).setCell (.inr (Nat.le_refl _)) _⟩
/-! ### data held against a kind -/
theorem right_ok {s : ByteArray} (h : 1 ≤ s.size) : rightB s.data.toList 1 (s.size : Int) = s.data.toList.all isD := by
  have hl : s.data.toList.length = s.size := by simp
  unfold rightB
  rw [hl, decide_eq_true (by omega), decide_eq_true (by omega)]
  rfl
theorem ans_ok {s : ByteArray} (h : 1 ≤ s.size) : ansB s.data.toList (s.size : Int) = s.data.toList.all ansC := by
  have hl : s.data.toList.length = s.size := by simp
  unfold ansB
  rw [hl, decide_eq_true (by omega), decide_eq_true (by omega)]
  simp
theorem aln_ok {s : ByteArray} (h : 1 ≤ s.size) : alnB s.data.toList 1 (s.size : Int) = s.data.toList.all alnC := by
  have hl : s.data.toList.length = s.size := by simp
  unfold alnB
  rw [hl, decide_eq_true (by omega), decide_eq_true (by omega)]
  simp
/-- a test of data -/
structure ValT (F : FuncId) (p : List UInt8 → Bool) : Prop where
  enters : ∀ args w, (callFunc F args).run Tryz.prog w = .ok (.enter F args) w
  tells : ∀ (s : ByteArray) (w : World), 1 ≤ s.size → s.size ≤ 140737488355328 → Calls Tryz.prog F #[.string s] w fun e w' => e = .returned (.bool (p s.data.toList)) ∧ Fr No w w'
theorem val_number : ValT 98 (fun d => d.all isD) := ⟨fun _ _ => by kernel_rfl, fun s w h1 h2 => by
  have HR := Lib.hid (fun u => right_any s 1 (s.size : Int) u (by simp only [maxLen]; omega))
  rw [right_ok h1] at HR
  generalize s.data.toList.all isD = b at *
  go_enter Tryz.func98, Tryz.ntmps98
  go_wp2_with (go_at_call 37; refine (HR.out _).mono ?_; rintro e w1 ⟨rfl, rfl⟩)
  go_ret
  exact ⟨rfl, Fr.refl _ _⟩⟩
theorem val_alnum : ValT 99 (fun d => d.all alnC) := ⟨fun _ _ => by kernel_rfl, fun s w h1 h2 => by
  have HR := Lib.hid (fun u => text_aln_any s 1 (s.size : Int) u h2)
  rw [aln_ok h1] at HR
  generalize s.data.toList.all alnC = b at *
  go_enter Tryz.func99, Tryz.ntmps99
  go_wp2_with (go_at_call 104; refine (HR.out _).mono ?_; rintro e w1 ⟨rfl, f1⟩)
  go_ret
  exact ⟨rfl, f1⟩⟩
theorem val_printed : ValT 100 (fun d => d.all ansC) := ⟨fun _ _ => by kernel_rfl, fun s w h1 h2 => by
  have HR := Lib.hid (fun u => text_ans_any s (s.size : Int) u h2)
  rw [ans_ok h1] at HR
  generalize s.data.toList.all ansC = b at *
  go_enter Tryz.func100, Tryz.ntmps100
  go_wp2_with (go_at_call 105; refine (HR.out _).mono ?_; rintro e w1 ⟨rfl, f1⟩)
  go_ret
  exact ⟨rfl, f1⟩⟩
theorem val_anything : ValT 101 (fun d => true) := ⟨fun _ _ => by kernel_rfl, fun s w h1 h2 => by
  go_enter Tryz.func101, Tryz.ntmps101
  go_wp2
  go_ret
  exact ⟨rfl, Fr.refl _ _⟩⟩
theorem test_of {kind : Int} (hk : kind = 1 ∨ kind = 2 ∨ kind = 3 ∨ kind = 4) : ∃ F, ValT F (typB kind) ∧ ∀ w, Calls Tryz.prog 94 #[.int .i64 kind] w fun e w' => e = .returned (.func (.func F) #[] #[]) ∧ w = w' := by
  rcases hk with rfl | rfl | rfl | rfl
  · refine ⟨_, val_number, fun w => ?_⟩
    go_enter Tryz.func94, Tryz.ntmps94
    go_wp2
    go_ret
    exact ⟨rfl, rfl⟩
  · refine ⟨_, val_alnum, fun w => ?_⟩
    go_enter Tryz.func94, Tryz.ntmps94
    go_wp2
    go_ret
    exact ⟨rfl, rfl⟩
  · refine ⟨_, val_printed, fun w => ?_⟩
    go_enter Tryz.func94, Tryz.ntmps94
    go_wp2
    go_ret
    exact ⟨rfl, rfl⟩
  · refine ⟨_, val_anything, fun w => ?_⟩
    go_enter Tryz.func94, Tryz.ntmps94
    go_wp2
    go_ret
    exact ⟨rfl, rfl⟩

/-! ### a part -/
/-- a part at block g, whatever stands behind it -/
def Pt (w : World) (g : Nat) (t : TypeId) (tl : List Value) (no : Int) (D : Value) (r : FRow) (n : Int) : Prop :=
  Bk w g t ([.int .i64 no, D, .int .i64 r.no, .int .i64 r.kind, .int .i64 (r.dig : Int), .int .i64 (r.top : Int), .int .i64 n] ++ tl)
section
variable {w w' : World} {g : Nat} {t : TypeId} {tl : List Value} {no : Int} {D : Value} {r : FRow} {n : Int}
theorem Pt.fr {S : Nat → Prop} (h : Pt w g t tl no D r n) (hf : Fr S w w') (hS : ¬ S g) : Pt w' g t tl no D r n := Bk.fr h hf hS
theorem Pt.still (h : Pt w g t tl no D r n) (hf : Fr No w w') : Pt w' g t tl no D r n := h.fr hf (fun x => x)
theorem Pt.cells (h : Pt w g t tl no D r n) : w.cell? ⟨g, 0, none⟩ = some (.int .i64 no) ∧ w.cell? ⟨g, 1, none⟩ = some D ∧ w.cell? ⟨g, 2, none⟩ = some (.int .i64 r.no) ∧ w.cell? ⟨g, 3, none⟩ = some (.int .i64 r.kind) ∧
    w.cell? ⟨g, 4, none⟩ = some (.int .i64 (r.dig : Int)) ∧ w.cell? ⟨g, 5, none⟩ = some (.int .i64 (r.top : Int)) ∧ w.cell? ⟨g, 6, none⟩ = some (.int .i64 n) ∧ ∀ i, w.frozen? ⟨g, i, none⟩ = false :=
  ⟨Bk.cell h 0, Bk.cell h 1, Bk.cell h 2, Bk.cell h 3, Bk.cell h 4, Bk.cell h 5, Bk.cell h 6, fun i => Bk.frozen h i⟩
theorem Pt.lt (h : Pt w g t tl no D r n) : g < w.heap.size := Bk.lt h
theorem Pt.setD (h : Pt w g t tl no D r n) (v : Value) : Pt (w.setCell ⟨g, 1, none⟩ v) g t tl no v r n := Bk.set_ h 1 v
theorem Pt.setN (h : Pt w g t tl no D r n) (k : Int) : Pt (w.setCell ⟨g, 6, none⟩ (.int .i64 k)) g t tl no D r k := Bk.set_ h 6 (.int .i64 k)
theorem Pt.setR {v : Value} (h : Pt w g t [v] no D r n) (u : Value) : Pt (w.setCell ⟨g, 7, none⟩ u) g t [u] no D r n := Bk.set_ h 7 u
theorem Pt.setF (h : Pt w g t tl no D r n) (q : FRow) : Pt ((((w.setCell ⟨g, 2, none⟩ (.int .i64 q.no)).setCell ⟨g, 3, none⟩ (.int .i64 q.kind)).setCell ⟨g, 4, none⟩ (.int .i64 (q.dig : Int))).setCell ⟨g, 5, none⟩ (.int .i64 (q.top : Int))) g t tl no D q n :=
  (((Bk.set_ h 2 _).set_ 3 _).set_ 4 _).set_ 5 _
end
theorem pt_frF {w W : World} {g : Nat} (h : Fr (Just g) w W) (a b c d : Int) : Fr (Just g) w ((((W.setCell ⟨g, 2, none⟩ (.int .i64 a)).setCell ⟨g, 3, none⟩ (.int .i64 b)).setCell ⟨g, 4, none⟩ (.int .i64 c)).setCell ⟨g, 5, none⟩ (.int .i64 d)) :=
  (((h.setCell (p := ⟨g, 2, none⟩) (.inl (Just.at g)) _).setCell (p := ⟨g, 3, none⟩) (.inl (Just.at g)) _).setCell (p := ⟨g, 4, none⟩) (.inl (Just.at g)) _).setCell (p := ⟨g, 5, none⟩) (.inl (Just.at g)) _
/-- the answer of a step that looks for the format -/
theorem pt_known {w : World} {g : Nat} {t : TypeId} {tl : List Value} {no : Int} {D : Value} {r : FRow} {n : Int} (h : Pt w g t tl no D r n) (hT : Tabs w) :
    Calls Tryz.prog 79 #[.pointer (some ⟨g, 0, none⟩)] w fun e w' => e = .returned (.int .i64 (if (elFind no).isSome = true then 0 else 16)) ∧ Pt w' g t tl no D (elGet no) n ∧ Fr (Just g) w w' := by
  have HO := el_of_any no w hT
  obtain ⟨c0, -⟩ := h.cells
  have H := Lib.hid h
  obtain ⟨⟨rn, rk, rd, rt, rs⟩, hr⟩ : ∃ r, elGet no = r := ⟨_, rfl⟩
  rw [hr] at HO ⊢
  unfold FRow.fmt at HO
  dsimp only at HO
  obtain ⟨DD, hDD⟩ : ∃ D : Int, (rd : Int) = D := ⟨_, rfl⟩
  obtain ⟨T, hTT⟩ : ∃ T : Int, (rt : Int) = T := ⟨_, rfl⟩
  rw [hDD, hTT] at HO
  generalize (elFind no).isSome = K at *
  have HO := Lib.hid HO; have HD := Lib.hid hDD; have HTT := Lib.hid hTT
  have HU := Lib.hid (fun u => unless_any K 16 u)
  clear h hr hDD hTT hT
  go_enter Tryz.func79, Tryz.ntmps79
  go_wp2_with (first
    | (go_at_call 91; refine HO.out.mono ?_; rintro e w1 ⟨rfl, f1⟩; have HF1 := Lib.hid (f1.alloc (.cells #[.int .i64 rn, .int .i64 rk, .int .i64 DD, .int .i64 T] 77)); have B1 := Bk.new w1 77 #[.int .i64 rn, .int .i64 rk, .int .i64 DD, .int .i64 T]; have b0 := B1.cell 0; have b1 := B1.cell 1; have b2 := B1.cell 2; have b3 := B1.cell 3; have H1 := Lib.hid (H.out.still HF1.out); obtain ⟨-, -, d2, d3, d4, d5, -, z⟩ := H1.out.cells; have z2 := z 2; have z3 := z 3; have z4 := z 4; have z5 := z 5; clear B1 z f1)
    | (go_at_call 36; refine (HU.out _).mono ?_; rintro e w2 ⟨rfl, rfl⟩))
  all_goals
    go_ret
    have hf : Fr (Just g) w _ := HF1.out.no
    have hf2 := pt_frF hf rn rk DD T
    have hp := H1.out.setF ⟨rn, rk, rd, rt, rs⟩
    dsimp only at hp
    rw [HD.out, HTT.out] at hp
    exact ⟨rfl, hp, hf2⟩
end Go.Proofs.YtpkalnkeafggjaaGreatDoor
