/- SimpleChecks: the walk. -/
import Derived.Test.YthnjnaiajohfiaaGreatDoorSimFix
import Derived.Deep.CutRange
namespace Go.Proofs.YthnjnaiajohfiaaGreatDoor
open Go.RowKit
set_option maxHeartbeats 4000000
set_option linter.unusedVariables false

theorem sev_hexE (n : Nat) : unhexE (sevL n) = if n % 2 = 0 then 0 else 5 := by
  unfold unhexE unhexB
  rw [sev_all isH (by decide)]
  simp [sevL]
/-- what a type lets of so many sevens -/
def sevB (ty low top : Int) (n : Nat) : Bool :=
  if ty == 1 then (decide (low ≤ (n : Int)) && decide ((n : Int) ≤ top)) else if ty == 2 then (decide (low ≤ (n : Int)) && decide ((n : Int) ≤ top)) else if ty == 6 then (decide (low ≤ (n : Int)) && decide ((n : Int) ≤ top))
  else if ty == 7 then (decide (n % 2 = 0) && (decide (low ≤ (n : Int)) && decide ((n : Int) ≤ top))) else false
theorem sev_short (n : Nat) : timeOfB (sevL n) = false ∧ amtB (sevL n) = false := by
  constructor
  · rw [← Bool.not_eq_true]
    intro h
    obtain ⟨_, h2⟩ := timeOf_is h
    unfold timeOfB at h
    rw [Bool.and_eq_true, decide_eq_true_eq] at h
    have h3 : (45 : UInt8) ∈ sevL n := by rw [← h2]; unfold shownL; simp
    have := List.eq_of_mem_replicate h3
    revert this
    decide
  · apply amtB_not
    intro h
    have h3 : (46 : UInt8) ∈ sevL n := by rw [← h]; unfold amtL; simp
    have := List.eq_of_mem_replicate h3
    revert this
    decide
theorem sev_chk (ty low top : Int) (n : Nat) : chkB ty low top (sevL n) = sevB ty low top n := by
  have hl : ((sevL n).length : Int) = n := by simp [sevL]
  unfold chkB sevB
  rw [sev_right, sev_plain, sev_code, sev_aln, sev_hexE, hl]
  have h4 : decide (timeOfE (sevL n) = 0) = false := by unfold timeOfE; rw [(sev_short n).1]; rfl
  have h5 : decide (amtOfE (sevL n) = 0) = false := by unfold amtOfE; rw [(sev_short n).2]; rfl
  rw [h4, h5]
  by_cases h1 : (ty == 1) = true
  · rw [if_pos h1, if_pos h1]
  rw [if_neg h1, if_neg h1]
  by_cases h2 : (ty == 2) = true
  · rw [if_pos h2, if_pos h2]
  rw [if_neg h2, if_neg h2]
  have hd : decide ((if n % 2 = 0 then (0 : Int) else 5) = 0) = decide (n % 2 = 0) := by split <;> simp_all
  rw [hd]
  by_cases h3 : (ty == 3) = true
  · rw [if_pos h3]; simp at h3; subst h3; rfl
  rw [if_neg h3]
  by_cases h4 : (ty == 4) = true
  · rw [if_pos h4]; simp at h4; subst h4; rfl
  rw [if_neg h4]
  by_cases h5 : (ty == 5) = true
  · rw [if_pos h5]; simp at h5; subst h5; rfl
  rw [if_neg h5]

/-- one question: at a kind, of so many sevens -/
theorem ask_any (k low top : Int) (n : Nat) (S : ByteArray) (b1 b2 b3 : Nat) (w : World) (hn : n ≤ 65536) (hS : S.data.toList = sevL n) (c1 : w.cell? ⟨b1, 0, none⟩ = some (.int .i64 low)) (c2 : w.cell? ⟨b2, 0, none⟩ = some (.int .i64 top)) (c3 : w.cell? ⟨b3, 0, none⟩ = some (.string S)) (h : Tabs w) :
    Calls Tryz.prog 23 #[.int .i64 k, .pointer (some ⟨b1, 0, none⟩), .pointer (some ⟨b2, 0, none⟩), .pointer (some ⟨b3, 0, none⟩)] w fun e w' => e = .returned (.bool (sevB k low top n)) ∧ Fr No w w' := by
  have hc := fun u (h : Tabs u) => s_check_any (nm := ⟨#[]⟩) (mn := 0) (mx := 0) (ty := k) (low := low) (top := top) S u (by rw [← s_size, hS]; simp [sevL]; exact hn) h
  rw [hS] at hc
  unfold chkE at hc
  rw [sev_chk] at hc
  generalize sevB k low top n = R at hc ⊢
  have HC := Lib.hid hc
  clear hc
  cases R with
  | _ =>
    go_enter Tryz.func23, Tryz.ntmps23
    go_wp2_with (go_at_call 18; refine (HC.out _ h).mono ?_; rintro e w1 ⟨rfl, hf1⟩)
    go_ret
    exact ⟨rfl, hf1⟩

theorem sev_more (k : Nat) : bstr (sevL k) ++ ({ data := #[55] } : ByteArray) = bstr (sevL (k + 1)) := by
  apply s_eq
  rw [s_app, bstr_data, bstr_data]
  unfold sevL
  rw [List.replicate_succ']
set_option maxRecDepth 100000 in
theorem simChecks_walk {low top n : Int} (w : World) (hT : Tabs w) (hl : (Lit.int .i64 low).wf = true) (ht : (Lit.int .i64 top).wf = true) (hn : (Lit.int .i64 n).wf = true) :
    Calls Tryz.prog 6 #[.int .i64 low, .int .i64 top, .int .i64 n] w fun e w' => e = .returned (.bool true) ∧ Fr No w w' := by
  obtain ⟨L, hL, eL⟩ := umod low 20 (by omega) (by omega)
  obtain ⟨T, hT2, eT⟩ := umod top 20 (by omega) (by omega)
  obtain ⟨N, hN, eN⟩ := umod n 24 (by omega) (by omega)
  simp only [Int.cast_ofNat_Int] at eL eT eN
  have k1 : Bk ((w.alloc (.cells #[.int .i64 low] 3)).alloc (.cells #[.int .i64 top] 3)) w.heap.size 3 [.int .i64 low] := (Bk.new w _ _).no ((Fr.refl No _).alloc _)
  have k2 : Bk ((w.alloc (.cells #[.int .i64 low] 3)).alloc (.cells #[.int .i64 top] 3)) (w.heap.size + 1) 3 [.int .i64 top] := by have := Bk.new (w.alloc (.cells #[.int .i64 low] 3)) 3 #[.int .i64 top]; simpa using this
  have k3 : Fr No w ((w.alloc (.cells #[.int .i64 low] 3)).alloc (.cells #[.int .i64 top] 3)) := ((Fr.refl No w).alloc _).alloc _
  have k4 : ((w.alloc (.cells #[.int .i64 low] 3)).alloc (.cells #[.int .i64 top] 3)).heap.size = w.heap.size + 2 := by simp
  obtain ⟨W, hW⟩ : ∃ W, (w.alloc (.cells #[.int .i64 low] 3)).alloc (.cells #[.int .i64 top] 3) = W := ⟨_, rfl⟩
  rw [hW] at k1 k2 k3 k4
  have K1 := Lib.hid k1; have K2 := Lib.hid k2; have K3 := Lib.hid k3; have K4 := Lib.hid k4
  have e1 : W.cell? ⟨w.heap.size, 0, none⟩ = some (.int .i64 low) := k1.cell 0
  have e2 : W.cell? ⟨w.heap.size + 1, 0, none⟩ = some (.int .i64 top) := k2.cell 0
  have z1 := k1.frozen 0
  have z2 := k2.frozen 0
  clear k1 k2 k3 k4
  have f1 : Fr No w (W.setCell ⟨w.heap.size, 0, none⟩ (.int .i64 (L : Int))) := K3.out.setCell (.inr (Nat.le_refl _)) _
  have f2 := f1.setCell (p := ⟨w.heap.size + 1, 0, none⟩) (.inr (Nat.le_succ _)) (.int .i64 (T : Int))
  have s1 : Bk (W.setCell ⟨w.heap.size, 0, none⟩ (.int .i64 (L : Int))) w.heap.size 3 [.int .i64 (L : Int)] := K1.out.set_ 0 _
  have s2 := K2.out.fr ((Fr.refl (Just w.heap.size) W).setCell (p := ⟨w.heap.size, 0, none⟩) (.inl (Just.at _)) (.int .i64 (L : Int))) (fun h => by have h : w.heap.size + 1 = w.heap.size := h; omega)
  have s3 : Bk ((W.setCell ⟨w.heap.size, 0, none⟩ (.int .i64 (L : Int))).setCell ⟨w.heap.size + 1, 0, none⟩ (.int .i64 (T : Int))) (w.heap.size + 1) 3 [.int .i64 (T : Int)] := s2.set_ 0 _
  have s4 := s1.fr ((Fr.refl (Just (w.heap.size + 1)) _).setCell (p := ⟨w.heap.size + 1, 0, none⟩) (.inl (Just.at _)) (.int .i64 (T : Int))) (fun h => by have h : w.heap.size = w.heap.size + 1 := h; omega)
  have hsz : ((W.setCell ⟨w.heap.size, 0, none⟩ (.int .i64 (L : Int))).setCell ⟨w.heap.size + 1, 0, none⟩ (.int .i64 (T : Int))).heap.size = W.heap.size := by simp [World.setCell]
  have j3 := Bk.new ((W.setCell ⟨w.heap.size, 0, none⟩ (.int .i64 (L : Int))).setCell ⟨w.heap.size + 1, 0, none⟩ (.int .i64 (T : Int))) 9 #[.string ⟨#[]⟩]
  rw [hsz] at j3
  have J1 := Lib.hid ((s4.no ((Fr.refl No _).alloc (.cells #[.string ⟨#[]⟩] 9))).no (Dr.refl _).drew.fr)
  have J2 := Lib.hid ((s3.no ((Fr.refl No _).alloc (.cells #[.string ⟨#[]⟩] 9))).no (Dr.refl _).drew.fr)
  have J3 := Lib.hid (j3.no (Dr.refl _).drew.fr)
  have JF := Lib.hid ((f2.alloc (.cells #[.string ⟨#[]⟩] 9)).drew)
  have hG : w.heap.size + 2 = W.heap.size := K4.out.symm
  have HG := Lib.hid hG
  clear f1 f2 s1 s2 s3 s4 hsz j3 hG
  go_enter Tryz.func6, Tryz.ntmps6
  go_wp2
  go_region
  go_wp2
  clear e1 e2 z1 z2
  go_loopw [8] (fun i wr => ∃ k : Nat, k ≤ N ∧ i = .int .i64 (k : Int) ∧ Bk wr w.heap.size 3 [.int .i64 (L : Int)] ∧ Bk wr (w.heap.size + 1) 3 [.int .i64 (T : Int)] ∧ Bk wr W.heap.size 9 [.string (bstr (sevL k))] ∧ Fr No w wr) (fun i _ => N - (intOf i).toNat)
  case atStart => exact ⟨0, Nat.zero_le _, rfl, J1.out, J2.out, J3.out, JF.out⟩
  case round =>
    obtain ⟨k, hk, rfl, k1, k2, k3, hf⟩ := hrel
    have K5 := Lib.hid k1; have K6 := Lib.hid k2; have K7 := Lib.hid k3; have KF := Lib.hid hf
    have hSz : (bstr (sevL k)).size ≤ 24 := by rw [bstr_size]; simp [sevL]; omega
    have c3 : wr.cell? ⟨W.heap.size, 0, none⟩ = some (.string (bstr (sevL k))) := k3.cell 0
    have z3 := k3.frozen 0
    rcases Nat.lt_or_ge k N with hlt | hge
    · have hmore := sev_more k
      clear k1 k2 k3 hf
      generalize bstr (sevL k) = S at *
      have HM := Lib.hid hmore
      clear hmore
      go_wp2
      go_roundw
      case rel =>
        have hG := HG.out
        have fS := fun (v : Value) => (Fr.refl (Just W.heap.size) wr).setCell (p := ⟨W.heap.size, 0, none⟩) (.inl (Just.at _)) v
        refine ⟨k + 1, by omega, by go_num, K5.out.fr (fS _) (fun h => ?_), K6.out.fr (fS _) (fun h => ?_), ?_, KF.out.trans_just (fS _) (by omega)⟩
        · have h : w.heap.size = W.heap.size := h; omega
        · have h : w.heap.size + 1 = W.heap.size := h; omega
        · rw [← HM.out]; exact K7.out.set_ 0 _
      case measure => simp [intOf]; omega
    · obtain rfl : k = N := by omega
      clear hk hge
      have hb : ∃ b, (decide ((L : Int) ≤ (k : Int)) && decide ((k : Int) ≤ (T : Int))) = b := ⟨_, rfl⟩
      obtain ⟨b, hb⟩ := hb
      obtain ⟨ev, hev⟩ : ∃ ev, decide (k % 2 = 0) = ev := ⟨_, rfl⟩
      have hSl : (bstr (sevL k)).data.toList = sevL k := bstr_data _
      generalize bstr (sevL k) = S at *
      have c1 : wr.cell? ⟨w.heap.size, 0, none⟩ = some (.int .i64 (L : Int)) := k1.cell 0
      have c2 : wr.cell? ⟨w.heap.size + 1, 0, none⟩ = some (.int .i64 (T : Int)) := k2.cell 0
      have hTw := hT.fr hf
      have q1 : sevB 1 (L : Int) (T : Int) k = (b) := by unfold sevB; simp only [hb, hev]; cases b <;> cases ev <;> rfl
      have a1 := fun u (h : Fr No wr u) => ask_any 1 (L : Int) (T : Int) k S w.heap.size (w.heap.size + 1) W.heap.size u (by omega) hSl (h.cell c1 (fun x => x)) (h.cell c2 (fun x => x)) (h.cell c3 (fun x => x)) (hTw.fr h)
      rw [q1] at a1
      have A1 := Lib.hid a1
      clear q1 a1
      have q2 : sevB 2 (L : Int) (T : Int) k = (b) := by unfold sevB; simp only [hb, hev]; cases b <;> cases ev <;> rfl
      have a2 := fun u (h : Fr No wr u) => ask_any 2 (L : Int) (T : Int) k S w.heap.size (w.heap.size + 1) W.heap.size u (by omega) hSl (h.cell c1 (fun x => x)) (h.cell c2 (fun x => x)) (h.cell c3 (fun x => x)) (hTw.fr h)
      rw [q2] at a2
      have A2 := Lib.hid a2
      clear q2 a2
      have q6 : sevB 6 (L : Int) (T : Int) k = (b) := by unfold sevB; simp only [hb, hev]; cases b <;> cases ev <;> rfl
      have a6 := fun u (h : Fr No wr u) => ask_any 6 (L : Int) (T : Int) k S w.heap.size (w.heap.size + 1) W.heap.size u (by omega) hSl (h.cell c1 (fun x => x)) (h.cell c2 (fun x => x)) (h.cell c3 (fun x => x)) (hTw.fr h)
      rw [q6] at a6
      have A6 := Lib.hid a6
      clear q6 a6
      have q7 : sevB 7 (L : Int) (T : Int) k = (b && ev) := by unfold sevB; simp only [hb, hev]; cases b <;> cases ev <;> rfl
      have a7 := fun u (h : Fr No wr u) => ask_any 7 (L : Int) (T : Int) k S w.heap.size (w.heap.size + 1) W.heap.size u (by omega) hSl (h.cell c1 (fun x => x)) (h.cell c2 (fun x => x)) (h.cell c3 (fun x => x)) (hTw.fr h)
      rw [q7] at a7
      have A7 := Lib.hid a7
      clear q7 a7
      have q3 : sevB 3 (L : Int) (T : Int) k = (false) := by unfold sevB; simp only [hb, hev]; cases b <;> cases ev <;> rfl
      have a3 := fun u (h : Fr No wr u) => ask_any 3 (L : Int) (T : Int) k S w.heap.size (w.heap.size + 1) W.heap.size u (by omega) hSl (h.cell c1 (fun x => x)) (h.cell c2 (fun x => x)) (h.cell c3 (fun x => x)) (hTw.fr h)
      rw [q3] at a3
      have A3 := Lib.hid a3
      clear q3 a3
      have q8 : sevB 8 (L : Int) (T : Int) k = (false) := by unfold sevB; simp only [hb, hev]; cases b <;> cases ev <;> rfl
      have a8 := fun u (h : Fr No wr u) => ask_any 8 (L : Int) (T : Int) k S w.heap.size (w.heap.size + 1) W.heap.size u (by omega) hSl (h.cell c1 (fun x => x)) (h.cell c2 (fun x => x)) (h.cell c3 (fun x => x)) (hTw.fr h)
      rw [q8] at a8
      have A8 := Lib.hid a8
      clear q8 a8
      have q0 : sevB 0 (L : Int) (T : Int) k = (false) := by unfold sevB; simp only [hb, hev]; cases b <;> cases ev <;> rfl
      have a0 := fun u (h : Fr No wr u) => ask_any 0 (L : Int) (T : Int) k S w.heap.size (w.heap.size + 1) W.heap.size u (by omega) hSl (h.cell c1 (fun x => x)) (h.cell c2 (fun x => x)) (h.cell c3 (fun x => x)) (hTw.fr h)
      rw [q0] at a0
      have A0 := Lib.hid a0
      clear q0 a0
      have q99 : sevB 99 (L : Int) (T : Int) k = (false) := by unfold sevB; simp only [hb, hev]; cases b <;> cases ev <;> rfl
      have a99 := fun u (h : Fr No wr u) => ask_any 99 (L : Int) (T : Int) k S w.heap.size (w.heap.size + 1) W.heap.size u (by omega) hSl (h.cell c1 (fun x => x)) (h.cell c2 (fun x => x)) (h.cell c3 (fun x => x)) (hTw.fr h)
      rw [q99] at a99
      have A99 := Lib.hid a99
      clear q99 a99
      have heven : ((k : Int).tmod 2 == 0) = ev := by rw [← hev, Int.tmod_eq_emod_of_nonneg (by omega), Bool.eq_iff_iff]; simp; omega
      have heven2 : ((k : Int) % 2 == 0) = ev := by rw [← hev, Bool.eq_iff_iff]; simp; omega
      have g1 : (L : Int) ≤ (k : Int) ∧ (k : Int) ≤ (T : Int) ∧ b = true ∨ (L : Int) ≤ (k : Int) ∧ ¬ (k : Int) ≤ (T : Int) ∧ b = false ∨ ¬ (L : Int) ≤ (k : Int) ∧ b = false := by
        rw [← hb]
        by_cases h1 : (L : Int) ≤ (k : Int) <;> by_cases h2 : (k : Int) ≤ (T : Int) <;> simp [h1, h2]
      have HTW := Lib.hid hTw; have HF := Lib.hid hf
      clear k1 k2 k3 hf hb hev hSl hTw
      rcases g1 with ⟨g1, g2, rfl⟩ | ⟨g1, g2, rfl⟩ | ⟨g1, rfl⟩
      all_goals cases ev
      all_goals
        go_wp2_with (first
          | (go_at_call 7; refine (sim_awake _ HTW.out).mono ?_; rintro e w0 ⟨rfl, y0⟩)
          | ((with_reducible refine (A1.out _ y0).mono ?_); rintro e w1x ⟨rfl, x1⟩; (have y1 := y0.trans x1); clear x1)
          | ((with_reducible refine (A2.out _ y1).mono ?_); rintro e w2x ⟨rfl, x2⟩; (have y2 := y1.trans x2); clear x2)
          | ((with_reducible refine (A6.out _ y2).mono ?_); rintro e w6x ⟨rfl, x6⟩; (have y6 := y2.trans x6); clear x6)
          | ((with_reducible refine (A7.out _ y6).mono ?_); rintro e w7x ⟨rfl, x7⟩; (have y7 := y6.trans x7); clear x7)
          | ((with_reducible refine (A3.out _ y7).mono ?_); rintro e w3x ⟨rfl, x3⟩; (have y3 := y7.trans x3); clear x3)
          | ((with_reducible refine (A8.out _ y3).mono ?_); rintro e w8x ⟨rfl, x8⟩; (have y8 := y3.trans x8); clear x8)
          | ((with_reducible refine (A0.out _ y8).mono ?_); rintro e w0x ⟨rfl, x0⟩; (have y0 := y8.trans x0); clear x0)
          | ((with_reducible refine (A99.out _ y0).mono ?_); rintro e w99x ⟨rfl, x99⟩; (have y99 := y0.trans x99); clear x99))
        go_ret
        exact ⟨rfl, HF.out.trans y99⟩
end Go.Proofs.YthnjnaiajohfiaaGreatDoor
