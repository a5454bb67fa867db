/- The texts ElePart, EleProg, joined. -/
import Derived.Test.YthlgnmgjfgbffaaGreatDoorL27
import Derived.Test.YthlgnmgjfgbffaaGreatDoorL11
import Derived.Test.YthlgnmgjfgbffaaGreatDoorL07
import Derived.Test.YthlgnmgjfgbffaaGreatDoorL13
import Derived.BigQuiet
/- Package element: a part under way: its format, its length, its kind. -/
namespace Go.Proofs.YthlgnmgjfgbffaaGreatDoor
open Go.RowKit
set_option maxHeartbeats 400000
set_option linter.unusedVariables false
set_option maxRecDepth 20000

/-! ### a format; a spare one -/
def FRow.fmt (r : FRow) : Value := .agg #[.int .i64 r.no, .int .i64 r.kind, .int .i64 (r.dig : Int), .int .i64 (r.top : Int)]
theorem el_of_any (no : Int) (w : World) (hT : Tabs w := by repeat' first | with_reducible assumption | with_reducible apply Tabs.drew | with_reducible apply Tabs.drewN | with_reducible apply Tabs.alloc | refine Tabs.fr ?_ (by with_reducible assumption)) :
    Calls Tryz.prog 219 #[.int .i64 no] w fun e w' => e = .returned (.tuple #[(elGet no).fmt, .bool (elFind no).isSome]) ∧ Fr No w w' := by
  have HF := fun u (hf : Fr No w u) => ele_find no u (hT.fr hf)
  obtain ⟨⟨rn, rk, rd, rt, rs⟩, hr⟩ : ∃ r, elGet no = r := ⟨_, rfl⟩
  rw [hr] at HF ⊢
  unfold FRow.val at HF
  unfold FRow.fmt
  dsimp only at HF ⊢
  generalize (rd : Int) = D at *
  generalize (rt : Int) = T at *
  generalize (elFind no).isSome = K at *
  have HF := Lib.hid HF
  have hb0 : Bk (w.alloc (.cells #[.int .i64 0, .int .i64 0, .int .i64 0, .int .i64 0] 77)) w.heap.size 77 [.int .i64 0, .int .i64 0, .int .i64 0, .int .i64 0] := Bk.new w _ _
  have hfa : Fr No w (w.alloc (.cells #[.int .i64 0, .int .i64 0, .int .i64 0, .int .i64 0] 77)) := (Fr.refl No w).alloc _
  have HB0 := Lib.hid hb0; have HFA := Lib.hid hfa
  clear hb0 hfa hr hT
  go_enter Tryz.func219, Tryz.ntmps219
  go_wp2_with (go_at_call 132; refine (HF.out _ HFA.out).mono ?_; rintro e w1 ⟨rfl, f1⟩; have B1 := Bk.new w1 177 #[.int .i64 rn, .int .i64 rk, .int .i64 D, .int .i64 T, .bool rs]; have HF2 := Lib.hid ((HFA.out.trans f1).alloc (.cells #[.int .i64 rn, .int .i64 rk, .int .i64 D, .int .i64 T, .bool rs] 177)); have B3 := HB0.out.no (f1.alloc (.cells #[.int .i64 rn, .int .i64 rk, .int .i64 D, .int .i64 T, .bool rs] 177)); have c0 := B1.cell 0; have c1 := B1.cell 1; have c2 := B1.cell 2; have c3 := B1.cell 3; have z0 := B3.frozen 0; have z1 := B3.frozen 1; have z2 := B3.frozen 2; have z3 := B3.frozen 3; have d0 := B3.cell 0; have d1 := B3.cell 1; have d2 := B3.cell 2; have d3 := B3.cell 3; have B3H := Lib.hid B3; clear B1 B3 f1)
  have e0 := (B3H.out.set_ 0 (.int .i64 rn)).cell 0
  have e1 := ((B3H.out.set_ 0 (.int .i64 rn)).set_ 1 (.int .i64 rk)).cell 1
  have e2 := (((B3H.out.set_ 0 (.int .i64 rn)).set_ 1 (.int .i64 rk)).set_ 2 (.int .i64 D)).cell 2
  have e3 := ((((B3H.out.set_ 0 (.int .i64 rn)).set_ 1 (.int .i64 rk)).set_ 2 (.int .i64 D)).set_ 3 (.int .i64 T)).cell 3
  refine bodyPost_ret (v := .tuple #[.agg #[.int .i64 rn, .int .i64 rk, .int .i64 D, .int .i64 T], .bool K]) (by simp [results, Tryz.results219, go_sem, e0, e1, e2, e3]) rfl ?_
  exact ⟨rfl, (((HF2.out.setCell (.inr (Nat.le_refl _)) _).setCell (.inr (Nat.le_refl _)) _).setCell (.inr (Nat.le_refl _)) _).setCell (.inr (Nat.le_refl _)) _⟩
theorem el_spare_any (no : Int) (w : World) (hT : Tabs w := by repeat' first | with_reducible assumption | with_reducible apply Tabs.drew | with_reducible apply Tabs.drewN | with_reducible apply Tabs.alloc | refine Tabs.fr ?_ (by with_reducible assumption)) :
    Calls Tryz.prog 84 #[.int .i64 no] w fun e w' => e = .returned (.bool (elGet no).spare) ∧ Fr No w w' := by
  have HF := ele_find no w hT
  obtain ⟨⟨rn, rk, rd, rt, rs⟩, hr⟩ : ∃ r, elGet no = r := ⟨_, rfl⟩
  rw [hr] at HF ⊢
  unfold FRow.val at HF
  dsimp only at HF ⊢
  generalize (rd : Int) = D at *
  generalize (rt : Int) = T at *
  have HF := Lib.hid HF
  clear hr hT
  go_enter Tryz.func84, Tryz.ntmps84
  go_wp2_with (go_at_call 132; refine HF.out.mono ?_; rintro e w1 ⟨rfl, f1⟩; have B1 := Bk.new w1 177 #[.int .i64 rn, .int .i64 rk, .int .i64 D, .int .i64 T, .bool rs]; have c4 := B1.cell 4; clear B1)
  go_ret
  exact ⟨rfl, f1.alloc _⟩

/-! ### data held against a kind -/
theorem right_ok {s : ByteArray} (h : 1 ≤ s.size) : rightB s.data.toList 1 (s.size : Int) = s.data.toList.all isD := by
  have hl : s.data.toList.length = s.size := by simp
  unfold rightB
  rw [hl, decide_eq_true (by omega), decide_eq_true (by omega)]
  rfl
theorem ans_ok {s : ByteArray} (h : 1 ≤ s.size) : ansB s.data.toList (s.size : Int) = s.data.toList.all ansC := by
  have hl : s.data.toList.length = s.size := by simp
  unfold ansB
  rw [hl, decide_eq_true (by omega), decide_eq_true (by omega)]
  simp
theorem aln_ok {s : ByteArray} (h : 1 ≤ s.size) : alnB s.data.toList 1 (s.size : Int) = s.data.toList.all alnC := by
  have hl : s.data.toList.length = s.size := by simp
  unfold alnB
  rw [hl, decide_eq_true (by omega), decide_eq_true (by omega)]
  simp
/-- a test of data -/
structure ValT (F : FuncId) (p : List UInt8 → Bool) : Prop where
  enters : ∀ args w, (callFunc F args).run Tryz.prog w = .ok (.enter F args) w
  tells : ∀ (s : ByteArray) (w : World), 1 ≤ s.size → s.size ≤ 140737488355328 → Calls Tryz.prog F #[.string s] w fun e w' => e = .returned (.bool (p s.data.toList)) ∧ Fr No w w'
theorem val_number : ValT 242 (fun d => d.all isD) := ⟨fun _ _ => by kernel_rfl, fun s w h1 h2 => by
  have HR := Lib.hid (fun u => right_any s 1 (s.size : Int) u (by simp only [maxLen]; omega))
  rw [right_ok h1] at HR
  generalize s.data.toList.all isD = b at *
  go_enter Tryz.func242, Tryz.ntmps242
  go_wp2_with (go_at_call 55; refine (HR.out _).mono ?_; rintro e w1 ⟨rfl, rfl⟩)
  go_ret
  exact ⟨rfl, Fr.refl _ _⟩⟩
theorem val_alnum : ValT 243 (fun d => d.all alnC) := ⟨fun _ _ => by kernel_rfl, fun s w h1 h2 => by
  have HR := Lib.hid (fun u => text_aln_any s 1 (s.size : Int) u h2)
  rw [aln_ok h1] at HR
  generalize s.data.toList.all alnC = b at *
  go_enter Tryz.func243, Tryz.ntmps243
  go_wp2_with (go_at_call 258; refine (HR.out _).mono ?_; rintro e w1 ⟨rfl, f1⟩)
  go_ret
  exact ⟨rfl, f1⟩⟩
theorem val_printed : ValT 244 (fun d => d.all ansC) := ⟨fun _ _ => by kernel_rfl, fun s w h1 h2 => by
  have HR := Lib.hid (fun u => text_ans_any s (s.size : Int) u h2)
  rw [ans_ok h1] at HR
  generalize s.data.toList.all ansC = b at *
  go_enter Tryz.func244, Tryz.ntmps244
  go_wp2_with (go_at_call 156; refine (HR.out _).mono ?_; rintro e w1 ⟨rfl, f1⟩)
  go_ret
  exact ⟨rfl, f1⟩⟩
theorem val_anything : ValT 245 (fun d => true) := ⟨fun _ _ => by kernel_rfl, fun s w h1 h2 => by
  go_enter Tryz.func245, Tryz.ntmps245
  go_wp2
  go_ret
  exact ⟨rfl, Fr.refl _ _⟩⟩
theorem test_of {kind : Int} (hk : kind = 1 ∨ kind = 2 ∨ kind = 3 ∨ kind = 4) : ∃ F, ValT F (typB kind) ∧ ∀ w, Calls Tryz.prog 221 #[.int .i64 kind] w fun e w' => e = .returned (.func (.func F) #[] #[]) ∧ w = w' := by
  rcases hk with rfl | rfl | rfl | rfl
  · refine ⟨_, val_number, fun w => ?_⟩
    go_enter Tryz.func221, Tryz.ntmps221
    go_wp2
    go_ret
    exact ⟨rfl, rfl⟩
  · refine ⟨_, val_alnum, fun w => ?_⟩
    go_enter Tryz.func221, Tryz.ntmps221
    go_wp2
    go_ret
    exact ⟨rfl, rfl⟩
  · refine ⟨_, val_printed, fun w => ?_⟩
    go_enter Tryz.func221, Tryz.ntmps221
    go_wp2
    go_ret
    exact ⟨rfl, rfl⟩
  · refine ⟨_, val_anything, fun w => ?_⟩
    go_enter Tryz.func221, Tryz.ntmps221
    go_wp2
    go_ret
    exact ⟨rfl, rfl⟩

/-! ### a part -/
/-- a part at block g, whatever stands behind it -/
def Pt (w : World) (g : Nat) (t : TypeId) (tl : List Value) (no : Int) (D : Value) (r : FRow) (n : Int) : Prop :=
  Bk w g t ([.int .i64 no, D, .int .i64 r.no, .int .i64 r.kind, .int .i64 (r.dig : Int), .int .i64 (r.top : Int), .int .i64 n] ++ tl)
section
variable {w w' : World} {g : Nat} {t : TypeId} {tl : List Value} {no : Int} {D : Value} {r : FRow} {n : Int}
theorem Pt.fr {S : Nat → Prop} (h : Pt w g t tl no D r n) (hf : Fr S w w') (hS : ¬ S g) : Pt w' g t tl no D r n := Bk.fr h hf hS
theorem Pt.still (h : Pt w g t tl no D r n) (hf : Fr No w w') : Pt w' g t tl no D r n := h.fr hf (fun x => x)
theorem Pt.cells (h : Pt w g t tl no D r n) : w.cell? ⟨g, 0, none⟩ = some (.int .i64 no) ∧ w.cell? ⟨g, 1, none⟩ = some D ∧ w.cell? ⟨g, 2, none⟩ = some (.int .i64 r.no) ∧ w.cell? ⟨g, 3, none⟩ = some (.int .i64 r.kind) ∧
    w.cell? ⟨g, 4, none⟩ = some (.int .i64 (r.dig : Int)) ∧ w.cell? ⟨g, 5, none⟩ = some (.int .i64 (r.top : Int)) ∧ w.cell? ⟨g, 6, none⟩ = some (.int .i64 n) ∧ ∀ i, w.frozen? ⟨g, i, none⟩ = false :=
  ⟨Bk.cell h 0, Bk.cell h 1, Bk.cell h 2, Bk.cell h 3, Bk.cell h 4, Bk.cell h 5, Bk.cell h 6, fun i => Bk.frozen h i⟩
theorem Pt.lt (h : Pt w g t tl no D r n) : g < w.heap.size := Bk.lt h
theorem Pt.setD (h : Pt w g t tl no D r n) (v : Value) : Pt (w.setCell ⟨g, 1, none⟩ v) g t tl no v r n := Bk.set_ h 1 v
theorem Pt.setN (h : Pt w g t tl no D r n) (k : Int) : Pt (w.setCell ⟨g, 6, none⟩ (.int .i64 k)) g t tl no D r k := Bk.set_ h 6 (.int .i64 k)
theorem Pt.setR {v : Value} (h : Pt w g t [v] no D r n) (u : Value) : Pt (w.setCell ⟨g, 7, none⟩ u) g t [u] no D r n := Bk.set_ h 7 u
theorem Pt.setF (h : Pt w g t tl no D r n) (q : FRow) : Pt ((((w.setCell ⟨g, 2, none⟩ (.int .i64 q.no)).setCell ⟨g, 3, none⟩ (.int .i64 q.kind)).setCell ⟨g, 4, none⟩ (.int .i64 (q.dig : Int))).setCell ⟨g, 5, none⟩ (.int .i64 (q.top : Int))) g t tl no D q n :=
  (((Bk.set_ h 2 _).set_ 3 _).set_ 4 _).set_ 5 _
end
theorem pt_frF {w W : World} {g : Nat} (h : Fr (Just g) w W) (a b c d : Int) : Fr (Just g) w ((((W.setCell ⟨g, 2, none⟩ (.int .i64 a)).setCell ⟨g, 3, none⟩ (.int .i64 b)).setCell ⟨g, 4, none⟩ (.int .i64 c)).setCell ⟨g, 5, none⟩ (.int .i64 d)) :=
  (((h.setCell (p := ⟨g, 2, none⟩) (.inl (Just.at g)) _).setCell (p := ⟨g, 3, none⟩) (.inl (Just.at g)) _).setCell (p := ⟨g, 4, none⟩) (.inl (Just.at g)) _).setCell (p := ⟨g, 5, none⟩) (.inl (Just.at g)) _
/-- the answer of a step that looks for the format -/
theorem pt_known {w : World} {g : Nat} {t : TypeId} {tl : List Value} {no : Int} {D : Value} {r : FRow} {n : Int} (h : Pt w g t tl no D r n) (hT : Tabs w) :
    Calls Tryz.prog 169 #[.pointer (some ⟨g, 0, none⟩)] w fun e w' => e = .returned (.int .i64 (if (elFind no).isSome = true then 0 else 16)) ∧ Pt w' g t tl no D (elGet no) n ∧ Fr (Just g) w w' := by
  have HO := el_of_any no w hT
  obtain ⟨c0, -⟩ := h.cells
  have H := Lib.hid h
  obtain ⟨⟨rn, rk, rd, rt, rs⟩, hr⟩ : ∃ r, elGet no = r := ⟨_, rfl⟩
  rw [hr] at HO ⊢
  unfold FRow.fmt at HO
  dsimp only at HO
  obtain ⟨DD, hDD⟩ : ∃ D : Int, (rd : Int) = D := ⟨_, rfl⟩
  obtain ⟨T, hTT⟩ : ∃ T : Int, (rt : Int) = T := ⟨_, rfl⟩
  rw [hDD, hTT] at HO
  generalize (elFind no).isSome = K at *
  have HO := Lib.hid HO; have HD := Lib.hid hDD; have HTT := Lib.hid hTT
  have HU := Lib.hid (fun u => unless_any K 16 u)
  clear h hr hDD hTT hT
  go_enter Tryz.func169, Tryz.ntmps169
  go_wp2_with (first
    | (go_at_call 219; refine HO.out.mono ?_; rintro e w1 ⟨rfl, f1⟩; have HF1 := Lib.hid (f1.alloc (.cells #[.int .i64 rn, .int .i64 rk, .int .i64 DD, .int .i64 T] 77)); have B1 := Bk.new w1 77 #[.int .i64 rn, .int .i64 rk, .int .i64 DD, .int .i64 T]; have b0 := B1.cell 0; have b1 := B1.cell 1; have b2 := B1.cell 2; have b3 := B1.cell 3; have H1 := Lib.hid (H.out.still HF1.out); obtain ⟨-, -, d2, d3, d4, d5, -, z⟩ := H1.out.cells; have z2 := z 2; have z3 := z 3; have z4 := z 4; have z5 := z 5; clear B1 z f1)
    | (go_at_call 49; refine (HU.out _).mono ?_; rintro e w2 ⟨rfl, rfl⟩))
  all_goals
    go_ret
    have hf : Fr (Just g) w _ := HF1.out.no
    have hf2 := pt_frF hf rn rk DD T
    have hp := H1.out.setF ⟨rn, rk, rd, rt, rs⟩
    dsimp only at hp
    rw [HD.out, HTT.out] at hp
    exact ⟨rfl, hp, hf2⟩
end Go.Proofs.YthlgnmgjfgbffaaGreatDoor
/- Package element: Check. -/
namespace Go.Proofs.YthlgnmgjfgbffaaGreatDoor
open Go.RowKit
set_option maxHeartbeats 400000
set_option linter.unusedVariables false
set_option maxRecDepth 20000

theorem pt_fits {w : World} {g : Nat} {t : TypeId} {tl : List Value} {no : Int} {D : Value} {r : FRow} {n : Nat} (h : Pt w g t tl no D r (n : Int)) :
    Calls Tryz.prog 171 #[.pointer (some ⟨g, 0, none⟩)] w fun e w' => e = .returned (.int .i64 (if fitB r n = true then 0 else 17)) ∧ Dr w w' := by
  obtain ⟨-, -, -, -, c4, c5, c6, -⟩ := h.cells
  clear h
  have HU := Lib.hid (fun b u => unless_any b 17 u)
  by_cases h0 : r.dig = 0
  · have e0 : ((r.dig : Int) == 0) = true := by rw [beq_iff_eq]; omega
    have e : fitB r n = (decide ((r.top : Int) ≤ (n : Int)) && decide ((n : Int) ≤ (r.top : Int))) := by
      unfold fitB; rw [if_pos h0]; congr 1 <;> rw [Bool.eq_iff_iff] <;> simp
    rw [e]
    clear e h0
    generalize (r.dig : Int) = DD at *
    generalize (r.top : Int) = T at *
    cases h1 : decide (T ≤ (n : Int)) <;> cases h2 : decide ((n : Int) ≤ T)
    all_goals
      go_enter Tryz.func171, Tryz.ntmps171
      go_wp2
      go_quiet ((go_at_call 49; exact quiet_same (HU.out _ _)))
      go_wp2
      go_ret
      exact ⟨rfl, (Dr.refl _).drewN _⟩
  · have e0 : ((r.dig : Int) == 0) = false := by rw [beq_eq_false_iff_ne]; omega
    have e : fitB r n = (decide ((1 : Int) ≤ (n : Int)) && decide ((n : Int) ≤ (r.top : Int))) := by
      unfold fitB; rw [if_neg h0]; congr 1 <;> rw [Bool.eq_iff_iff] <;> simp <;> omega
    rw [e]
    clear e h0
    generalize (r.dig : Int) = DD at *
    generalize (r.top : Int) = T at *
    cases h1 : decide ((1 : Int) ≤ (n : Int)) <;> cases h2 : decide ((n : Int) ≤ T)
    all_goals
      go_enter Tryz.func171, Tryz.ntmps171
      go_wp2
      go_quiet ((go_at_call 49; exact quiet_same (HU.out _ _)))
      go_wp2
      go_ret
      exact ⟨rfl, (Dr.refl _).drewN _⟩
set_option maxRecDepth 20000 in
theorem pt_typed {w : World} {g : Nat} {t : TypeId} {tl : List Value} {no : Int} {A : Option Addr} {m c : Nat} {d : List UInt8} {r : FRow} {n : Int} (h : Pt w g t tl no (.slice A m c) r n) (hk : r.kind = 1 ∨ r.kind = 2 ∨ r.kind = 3 ∨ r.kind = 4)
    (hr : Rd w A m c (u8s d)) (h1 : 1 ≤ m) (h2 : m ≤ 140737488355328) :
    Calls Tryz.prog 173 #[.pointer (some ⟨g, 0, none⟩)] w fun e w' => e = .returned (.int .i64 (if typB r.kind d = true then 0 else 14)) ∧ Fr No w w' := by
  obtain ⟨-, c1, -, c3, -⟩ := h.cells
  obtain ⟨F, hF, ht⟩ := test_of hk
  have hl : d.length = m := by simpa using hr.len
  have htl := fun u => hF.tells (bstr d) u (by rw [bstr_size]; omega) (by rw [bstr_size]; omega)
  have hstr : (convert 22 263 (.slice A m c)).run Tryz.prog w = .ok (.string (bstr d)) w := run_string hr 22 5 Tryz.underlying22 Tryz.underlying5 263 Tryz.underlying263
  have hb : (bstr d).data.toList = d := by simp [bstr]
  have hz : (bstr d).size ≤ 9223372036854775807 := by rw [bstr_size]; omega
  rw [hb] at htl
  generalize bstr d = S at *
  generalize typB r.kind d = K at *
  generalize r.kind = KK at *
  have HU := Lib.hid (fun u => unless_any K 14 u)
  have HT := Lib.hid ht; have HTL := Lib.hid htl
  have hen : ∀ args u, (callFunc F args).run Tryz.prog u = .ok (.enter F args) u := hF.enters
  clear h hF ht htl hr hl h1 h2 hk hb
  go_enter Tryz.func173, Tryz.ntmps173
  go_wp2_with (first
    | (go_at_call 221; refine (HT.out _).mono ?_; rintro e w1 ⟨rfl, rfl⟩)
    | (go_at_call 49; refine (HU.out _).mono ?_; rintro e w2 ⟨rfl, rfl⟩)
    | ((with_reducible refine (HTL.out _).mono ?_); rintro e w1 ⟨rfl, f1⟩; have F1 := Lib.hid f1; clear f1))
  all_goals
    go_ret
    exact ⟨rfl, F1.out⟩
theorem rd_far {w w' : World} {A : Option Addr} {m c : Nat} {xs : List Value} {S : Nat → Prop} (h : Rd w A m c xs) (hf : Fr S w w') (hS : 0 < m → ∀ ad, A = some ad → ¬ S ad.block) : Rd w' A m c xs := by
  refine ⟨h.len, h.cap, h.max, h.nil, fun ad e j u hu => hf.cell (h.cells ad e j u hu) ?_⟩
  rw [blk_add]
  have hj := (List.getElem?_eq_some_iff.1 hu).1
  have := h.len
  exact hS (by omega) ad e

/-! ### the three steps of a part that is there -/
abbrev threeV (g : Nat) : List Value := [.func (.func 169) #[.pointer (some ⟨g, 0, none⟩)] #[], .func (.func 171) #[.pointer (some ⟨g, 0, none⟩)] #[], .func (.func 173) #[.pointer (some ⟨g, 0, none⟩)] #[]]
def CkR (w0 : World) (g : Nat) (t : TypeId) (tl : List Value) (no : Int) (D : Value) (d : List UInt8) : Nat → World → Prop
  | 0, u => Fr (Just g) w0 u ∧ ∃ r, Pt u g t tl no D r (d.length : Int)
  | 1, u => Fr (Just g) w0 u ∧ ∃ r, elFind no = some r ∧ Pt u g t tl no D r (d.length : Int)
  | 2, u => Fr (Just g) w0 u ∧ ∃ r, elFind no = some r ∧ Pt u g t tl no D r (d.length : Int) ∧ fitB r d.length = true
  | _, u => Fr (Just g) w0 u ∧ ∃ r, elFind no = some r ∧ Pt u g t tl no D r (d.length : Int) ∧ chkEl no d = 0
def CkQ (w0 : World) (g : Nat) (no : Int) (d : List UInt8) (E : Int) (u : World) : Prop := Fr (Just g) w0 u ∧ chkEl no d = E
theorem ckR_fr {w0 u : World} {g : Nat} {t : TypeId} {tl : List Value} {no : Int} {D : Value} {d : List UInt8} {i : Nat} (h : CkR w0 g t tl no D d i u) : Fr (Just g) w0 u := by
  match i, h with
  | 0, h => exact h.1
  | 1, h => exact h.1
  | 2, h => exact h.1
  | _ + 3, h => exact h.1
theorem elGet_some {no : Int} {r : FRow} (h : elFind no = some r) : elGet no = r := by unfold elGet; rw [h]; rfl
theorem chkEl_some {no : Int} {r : FRow} (h : elFind no = some r) (d : List UInt8) : chkEl no d = chkR r d := by unfold chkEl; rw [h]
theorem three_steps {w0 : World} {g : Nat} {t : TypeId} {tl : List Value} {no : Int} {A : Option Addr} {c : Nat} {d : List UInt8} (hr : Rd w0 A d.length c (u8s d)) (hA : 0 < d.length → ∀ ad, A = some ad → ad.block ≠ g) (hd : d.length ≤ 9223372036854775807) (hT : ∀ u, Fr (Just g) w0 u → Tabs u) (i : Nat) (hi : i < 3) :
    ∃ F x, (threeV g)[i]? = some (.func (.func F) #[x] #[]) ∧ (∀ args w, (callFunc F args).run Tryz.prog w = .ok (.enter F args) w) ∧ ∀ u, CkR w0 g t tl no (.slice A d.length c) d i u → Calls Tryz.prog F #[x] u (SWTo (CkR w0 g t tl no (.slice A d.length c) d (i + 1)) (CkQ w0 g no d)) := by
  have h3 : i = 0 ∨ i = 1 ∨ i = 2 := by omega
  rcases h3 with rfl | rfl | rfl
  · refine ⟨_, _, rfl, fun args w => rfl, ?_⟩
    rintro u ⟨hf, r, hp⟩
    refine (pt_known hp (hT u hf)).mono ?_
    rintro e u' ⟨rfl, hp2, hf2⟩
    cases hs : elFind no with
    | none => exact ⟨16, rfl, .inr ⟨by decide, hf.trans hf2, by unfold chkEl; rw [hs]⟩⟩
    | some q =>
      rw [elGet_some hs] at hp2
      exact ⟨0, rfl, .inl ⟨rfl, hf.trans hf2, q, hs, hp2⟩⟩
  · refine ⟨_, _, rfl, fun args w => rfl, ?_⟩
    rintro u ⟨hf, r, hs, hp⟩
    refine (pt_fits hp).mono ?_
    rintro e u' ⟨rfl, hf2⟩
    cases hb : fitB r d.length with
    | true => exact ⟨0, rfl, .inl ⟨rfl, hf.dr hf2, r, hs, hp.still hf2.fr, hb⟩⟩
    | false => exact ⟨17, rfl, .inr ⟨by decide, hf.dr hf2, by rw [chkEl_some hs]; unfold chkR; rw [if_pos hb]⟩⟩
  · refine ⟨_, _, rfl, fun args w => rfl, ?_⟩
    rintro u ⟨hf, r, hs, hp, hb⟩
    have hm := (elFind_some hs).1
    have hr2 := rd_far hr hf (fun h0 ad e => hA h0 ad e)
    refine (pt_typed hp (el_row hm).2.2.2.2.1 hr2 (fit_bounds hm hb).1 (by have := (fit_bounds hm hb).2.2.1; omega)).mono ?_
    rintro e u' ⟨rfl, hf2⟩
    cases hk : typB r.kind d with
    | true => exact ⟨0, rfl, .inl ⟨rfl, hf.trans hf2.no, r, hs, hp.still hf2, by rw [chkEl_some hs]; unfold chkR; rw [hb, hk]; rfl⟩⟩
    | false => exact ⟨14, rfl, .inr ⟨by decide, hf.trans hf2.no, by rw [chkEl_some hs]; unfold chkR; rw [hb, hk]; rfl⟩⟩
theorem addr_at (g i : Nat) : (⟨g, 0, none⟩ : Addr).add i = ⟨g, i, none⟩ := by unfold Addr.add; split <;> simp_all
theorem three_walk {w : World} {g : Nat} {t : TypeId} {tl : List Value} {no : Int} {A : Option Addr} {c : Nat} {d : List UInt8} {r : FRow} (h : Pt w g t tl no (.slice A d.length c) r (d.length : Int)) (hr : Rd w A d.length c (u8s d)) (hA : 0 < d.length → ∀ ad, A = some ad → ad.block ≠ g) (hd : d.length ≤ 9223372036854775807) (hT : ∀ u, Fr (Just g) w u → Tabs u) (ty : TypeId) :
    Calls Tryz.prog 16 #[.slice (some ⟨w.heap.size, 0, none⟩) 3 3] (w.alloc (.cells (threeV g).toArray ty))
      (SWTo (CkR (w.alloc (.cells (threeV g).toArray ty)) g t tl no (.slice A d.length c) d 3) (CkQ (w.alloc (.cells (threeV g).toArray ty)) g no d)) := by
  have hfa : Fr No w (w.alloc (.cells (threeV g).toArray ty)) := (Fr.refl No w).alloc _
  have hbk := Bk.new w ty (threeV g).toArray
  have hgl := h.lt
  refine t_walk (some ⟨w.heap.size, 0, none⟩) 3 3 (threeV g) _ _ _ rfl (Nat.le_refl _) (by omega) (fun e => nomatch e) ⟨Fr.refl _ _, r, h.still hfa⟩ ?_ (fun i hi => three_steps (hr.no hfa) hA hd (fun u hu => hT u (hfa.no.trans hu)) i hi)
  intro i u hu ad e j v hv
  injection e with e
  subst e
  have h1 := (hbk.fr (ckR_fr hu) (fun x => by have : w.heap.size = g := x; omega)).cell j
  rw [addr_at, h1]
  exact hv
theorem pt_check {w : World} {g : Nat} {t : TypeId} {tl : List Value} {no : Int} {A : Option Addr} {c : Nat} {d : List UInt8} {r : FRow} (h : Pt w g t tl no (.slice A d.length c) r (d.length : Int)) (hr : Rd w A d.length c (u8s d)) (hA : 0 < d.length → ∀ ad, A = some ad → ad.block ≠ g) (hd : d.length ≤ 9223372036854775807) (hT : ∀ u, Fr (Just g) w u → Tabs u) :
    Calls Tryz.prog 235 #[.pointer (some ⟨g, 0, none⟩)] w fun e w' => e = .returned (.int .i64 (chkEl no d)) ∧ Fr (Just g) w w' ∧ (chkEl no d = 0 → Pt w' g t tl no (.slice A d.length c) (elGet no) (d.length : Int)) := by
  have HW := Lib.hid (three_walk h hr hA hd hT 58)
  have hfa := Lib.hid (((Fr.refl No w).alloc (.cells (threeV g).toArray 58)).no (S := Just g))
  clear h hr hA hd hT
  go_enter Tryz.func235, Tryz.ntmps235
  go_wp2_with (go_at_call 16; refine (HW.out).mono ?_; rintro e w1 ⟨E, rfl, hE⟩; have HE := Lib.hid hE; clear hE)
  go_ret
  rcases HE.out with ⟨rfl, hf, q, hs, hp, hc⟩ | ⟨_, hf, hc⟩
  · exact ⟨by rw [hc]; rfl, hfa.out.trans hf, fun _ => by rw [elGet_some hs]; exact hp⟩
  · exact ⟨by rw [hc]; rfl, hfa.out.trans hf, fun h0 => by rename_i hne; rw [hc] at h0; exact absurd h0 hne⟩
end Go.Proofs.YthlgnmgjfgbffaaGreatDoor
