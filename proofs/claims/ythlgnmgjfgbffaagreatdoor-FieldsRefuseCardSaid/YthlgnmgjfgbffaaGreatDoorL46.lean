/- The texts RefEle1, RefEle2, joined. -/
import Derived.Test.YthlgnmgjfgbffaaGreatDoorL06
import Derived.Test.YthlgnmgjfgbffaaGreatDoorL14
import Derived.Test.YthlgnmgjfgbffaaGreatDoorL07
import Derived.Test.YthlgnmgjfgbffaaGreatDoorL45
import Derived.Great.CaseRows
import Derived.Great.BuildSlice
import Derived.LoopTactic
import Derived.Deep.CutRange
/- The statements' own formats of data elements: contracts. -/
namespace Go.Proofs.YthlgnmgjfgbffaaGreatDoor
open Go.RowKit
set_option maxHeartbeats 1000000
set_option linter.unusedVariables false
set_option maxRecDepth 20000

def FRow.fmtR (r : FRow) : Value := .agg #[.int .i64 r.no, .int .i64 r.kind, .int .i64 (r.dig : Int), .int .i64 (r.top : Int)]
def FRow.fcells (r : FRow) : List Value := [.int .i64 r.no, .int .i64 r.kind, .int .i64 (r.dig : Int), .int .i64 (r.top : Int)]
def fmtV : List Value := elT.flatMap FRow.fcells
theorem fmtSize : (Tryz.prog.info? 77).map (·.size) = some 4 := by kernel_rfl
theorem fmtZero : ((Tryz.prog.info? 77).bind (·.zero)).isSome = true := by kernel_rfl
theorem r_form (a b c d : Int) (w : World) : Calls Tryz.prog 121 #[.int .i64 a, .int .i64 b, .int .i64 c, .int .i64 d] w fun en w' => en = .returned (.agg #[.int .i64 a, .int .i64 b, .int .i64 c, .int .i64 d]) ∧ Fr No w w' := by
  have hfa := (Fr.refl No w).alloc (.cells #[.int .i64 a, .int .i64 b, .int .i64 c, .int .i64 d] 77)
  have HFA := Lib.hid hfa
  clear hfa
  go_enter Tryz.func121, Tryz.ntmps121
  go_wp2
  exact bodyPost_ret (v := .agg #[.int .i64 a, .int .i64 b, .int .i64 c, .int .i64 d]) (results_bk (g := w.heap.size) (cs := [.int .i64 a, .int .i64 b, .int .i64 c, .int .i64 d]) Tryz.results121 rfl (Bk.new w _ _) Tryz.underlying77 rfl fmtSize) rfl ⟨rfl, HFA.out⟩
set_option maxRecDepth 20000 in
theorem r_formats (w : World) : Calls Tryz.prog 75 #[] w fun e w' => ∃ g, e = .returned (.slice (some ⟨g, 0, none⟩) 24 24) ∧ Bk w' g 77 fmtV ∧ w.heap.size ≤ g ∧ Fr No w w' := by
  have HK := Lib.hid r_form
  have HF := Lib.hid (Fr.refl No w)
  go_enter Tryz.func75, Tryz.ntmps75
  go_wp2_with (first
    | (go_at_call 121; refine (HK.out _ _ _ _ _).mono ?_; rintro e w1 ⟨rfl, hf1⟩; have HF := Lib.hid (HF.out.trans hf1); clear hf1)
    | (refine Great.wpList_buildRows rfl 105 77 _ 4 (elT.map FRow.fmtR) rfl (fun i => i + 1) _ rfl _ rfl Tryz.underlying105 fmtSize fmtZero (by omega) (by kernel_rfl) (by kernel_rfl) (by kernel_rfl) ?_ ?_ ?_
       · intro v hv; obtain ⟨c, _, rfl⟩ := List.mem_map.1 hv; rfl
       · intro i hi; have hi24 : i < 24 := hi; (have : i = 0 ∨ i = 1 ∨ i = 2 ∨ i = 3 ∨ i = 4 ∨ i = 5 ∨ i = 6 ∨ i = 7 ∨ i = 8 ∨ i = 9 ∨ i = 10 ∨ i = 11 ∨ i = 12 ∨ i = 13 ∨ i = 14 ∨ i = 15 ∨ i = 16 ∨ i = 17 ∨ i = 18 ∨ i = 19 ∨ i = 20 ∨ i = 21 ∨ i = 22 ∨ i = 23 := by omega); rcases this with rfl | rfl | rfl | rfl | rfl | rfl | rfl | rfl | rfl | rfl | rfl | rfl | rfl | rfl | rfl | rfl | rfl | rfl | rfl | rfl | rfl | rfl | rfl | rfl <;> rfl
       have hcc : ((elT.map FRow.fmtR).flatMap fun v => v.cells.toList) = fmtV := rfl
       rw [hcc]))
  go_ret
  exact ⟨_, rfl, Bk.new _ _ _, HF.out.size, HF.out.alloc _⟩
end Go.Proofs.YthlgnmgjfgbffaaGreatDoor
/- The statements' own elements: a format, a spare one, data held against a format. -/
namespace Go.Proofs.YthlgnmgjfgbffaaGreatDoor
open Go.RowKit
set_option maxHeartbeats 1000000
set_option linter.unusedVariables false
set_option maxRecDepth 20000

theorem ele_addr (g i : Nat) : (⟨g, 0, none⟩ : Addr).add i = ⟨g, i, none⟩ := by unfold Addr.add; split <;> simp_all
theorem fmtV_at {k : Nat} (hk : k < 24) : fmtV[k * 4]? = some (.int .i64 (elRow k).no) ∧ fmtV[k * 4 + 1]? = some (.int .i64 (elRow k).kind) ∧ fmtV[k * 4 + 2]? = some (.int .i64 ((elRow k).dig : Int)) ∧ fmtV[k * 4 + 3]? = some (.int .i64 ((elRow k).top : Int)) := by
  have h : k = 0 ∨ k = 1 ∨ k = 2 ∨ k = 3 ∨ k = 4 ∨ k = 5 ∨ k = 6 ∨ k = 7 ∨ k = 8 ∨ k = 9 ∨ k = 10 ∨ k = 11 ∨ k = 12 ∨ k = 13 ∨ k = 14 ∨ k = 15 ∨ k = 16 ∨ k = 17 ∨ k = 18 ∨ k = 19 ∨ k = 20 ∨ k = 21 ∨ k = 22 ∨ k = 23 := by omega
  rcases h with rfl | rfl | rfl | rfl | rfl | rfl | rfl | rfl | rfl | rfl | rfl | rfl | rfl | rfl | rfl | rfl | rfl | rfl | rfl | rfl | rfl | rfl | rfl | rfl <;> exact ⟨rfl, rfl, rfl, rfl⟩
theorem fmt_cells {w : World} {g : Nat} {t : TypeId} {a b c d : Value} (h : Bk w g t [a, b, c, d]) :
    w.cell? ⟨g, 0, none⟩ = some a ∧ w.cell? ⟨g, 1, none⟩ = some b ∧ w.cell? ⟨g, 2, none⟩ = some c ∧ w.cell? ⟨g, 3, none⟩ = some d ∧
    w.frozen? ⟨g, 0, none⟩ = false ∧ w.frozen? ⟨g, 1, none⟩ = false ∧ w.frozen? ⟨g, 2, none⟩ = false ∧ w.frozen? ⟨g, 3, none⟩ = false :=
  ⟨h.cell 0, h.cell 1, h.cell 2, h.cell 3, h.frozen 0, h.frozen 1, h.frozen 2, h.frozen 3⟩
def fput (w : World) (g : Nat) (a b c d : Value) : World := (((w.setCell ⟨g, 0, none⟩ a).setCell ⟨g, 1, none⟩ b).setCell ⟨g, 2, none⟩ c).setCell ⟨g, 3, none⟩ d
theorem fput_cells {w : World} {g : Nat} {t : TypeId} {a' b' c' d' : Value} (h : Bk w g t [a', b', c', d']) (a b c d : Value) :
    (w.setCell ⟨g, 0, none⟩ a).cell? ⟨g, 0, none⟩ = some a ∧ ((w.setCell ⟨g, 0, none⟩ a).setCell ⟨g, 1, none⟩ b).cell? ⟨g, 1, none⟩ = some b ∧ (((w.setCell ⟨g, 0, none⟩ a).setCell ⟨g, 1, none⟩ b).setCell ⟨g, 2, none⟩ c).cell? ⟨g, 2, none⟩ = some c ∧
    ((((w.setCell ⟨g, 0, none⟩ a).setCell ⟨g, 1, none⟩ b).setCell ⟨g, 2, none⟩ c).setCell ⟨g, 3, none⟩ d).cell? ⟨g, 3, none⟩ = some d :=
  ⟨(h.set_ 0 a).cell 0, ((h.set_ 0 a).set_ 1 b).cell 1, (((h.set_ 0 a).set_ 1 b).set_ 2 c).cell 2, ((((h.set_ 0 a).set_ 1 b).set_ 2 c).set_ 3 d).cell 3⟩
theorem fput_fr {S : Nat → Prop} {w0 w : World} {g : Nat} (h : Fr S w0 w) (hg : S g ∨ w0.heap.size ≤ g) (a b c d : Value) : Fr S w0 (fput w g a b c d) :=
  (((h.setCell hg a).setCell hg b).setCell hg c).setCell hg d
set_option maxRecDepth 20000 in
theorem r_Format (no : Int) (w : World) : Calls Tryz.prog 40 #[.int .i64 no] w fun e w' => e = .returned (.tuple #[(elGet no).fmtR, .bool (elFind no).isSome]) ∧ Fr No w w' := by
  have hb0 : Bk (w.alloc (.cells #[.int .i64 0, .int .i64 0, .int .i64 0, .int .i64 0] 77)) w.heap.size 77 [.int .i64 0, .int .i64 0, .int .i64 0, .int .i64 0] := Bk.new w _ _
  have hfa : Fr No w (w.alloc (.cells #[.int .i64 0, .int .i64 0, .int .i64 0, .int .i64 0] 77)) := (Fr.refl No w).alloc _
  have HB0 := Lib.hid hb0; have HFA := Lib.hid hfa
  clear hb0 hfa
  go_enter Tryz.func40, Tryz.ntmps40
  go_wp2_with (go_at_call 75; refine (r_formats _).mono ?_; rintro e w1 ⟨g, rfl, hb1, hg1, f1⟩; have F1 := Lib.hid f1; have B1 := Lib.hid hb1; have BB := Lib.hid (HB0.out.no f1); have HF1 := Lib.hid (HFA.out.trans f1); clear hb1 hg1 f1)
  go_loopw [5] (fun v wr => ∃ k : Nat, k ≤ 24 ∧ v = .int .i64 (k : Int) ∧ (∀ j, j < k → (elRow j).no ≠ no) ∧ wr = w1) (fun v _ => 24 - (intOf v).toNat)
  case atStart => exact ⟨0, by omega, rfl, fun j hj => by omega, rfl⟩
  case round =>
    obtain ⟨k, hk, rfl, hall, rfl⟩ := hrel
    have HALL := Lib.hid hall
    clear hall
    rcases Nat.lt_or_ge k 24 with hkn | hge
    · obtain ⟨q0, q1, q2, q3⟩ := fmtV_at hkn
      have c0 := (B1.out.cell (k * 4)).trans q0
      have c1 := (B1.out.cell (k * 4 + 1)).trans q1
      have c2 := (B1.out.cell (k * 4 + 2)).trans q2
      have c3 := (B1.out.cell (k * 4 + 3)).trans q3
      have hP := ele_addr g (k * 4)
      have hkI : (k : Int) < 24 := by omega
      obtain ⟨⟨rn, rk, rd, rt, rs⟩, hr⟩ : ∃ r, elRow k = r := ⟨_, rfl⟩
      rw [hr] at c0 c1 c2 c3
      dsimp only at c0 c1 c2 c3
      obtain ⟨D, hD⟩ : ∃ D : Int, (rd : Int) = D := ⟨_, rfl⟩
      obtain ⟨T, hTT⟩ : ∃ T : Int, (rt : Int) = T := ⟨_, rfl⟩
      rw [hD] at c2
      rw [hTT] at c3
      have HR := Lib.hid hr; have HD := Lib.hid hD; have HTT := Lib.hid hTT
      obtain ⟨b0, b1, b2, b3, z0, z1, z2, z3⟩ := fmt_cells BB.out
      clear q0 q1 q2 q3 hr hD hTT
      by_cases hn : rn = no
      · have hnb : (rn == no) = true := beq_iff_eq.2 hn
        have he : elFind no = some ⟨rn, rk, rd, rt, rs⟩ := by rw [← HR.out]; exact elFind_at hkn (by rw [HR.out]; exact hn)
        have HE := Lib.hid he
        clear hn he
        go_wp2
        obtain ⟨y0, y1, y2, y3⟩ := fput_cells BB.out (.int .i64 rn) (.int .i64 rk) (.int .i64 D) (.int .i64 T)
        refine bodyPost_ret (v := .tuple #[.agg #[.int .i64 rn, .int .i64 rk, .int .i64 D, .int .i64 T], .bool true]) (by simp [results, Tryz.results40, go_sem, y0, y1, y2, y3]) rfl ?_
        exact ⟨by unfold elGet; rw [HE.out, ← HD.out, ← HTT.out]; rfl, fput_fr HF1.out (.inr (Nat.le_refl _)) _ _ _ _⟩
      · have hnb : (rn == no) = false := beq_eq_false_iff_ne.2 hn
        have HN := Lib.hid hn
        clear hn
        go_wp2_with fail
        go_roundw
        case rel => exact ⟨k + 1, by omega, by go_num, fun j hj => by
          by_cases hjk : j = k
          · subst hjk; rw [HR.out]; exact HN.out
          · exact HALL.out j (by omega), trivial⟩
        case measure => simp [intOf]; omega
    · obtain rfl : k = 24 := by omega
      have he : elFind no = none := elFind_none HALL.out
      have HE := Lib.hid he
      obtain ⟨b0, b1, b2, b3, z0, z1, z2, z3⟩ := fmt_cells BB.out
      clear he
      go_wp2
      obtain ⟨y0, y1, y2, y3⟩ := fput_cells BB.out (.int .i64 0) (.int .i64 0) (.int .i64 0) (.int .i64 0)
      refine bodyPost_ret (v := .tuple #[.agg #[.int .i64 0, .int .i64 0, .int .i64 0, .int .i64 0], .bool false]) (by simp [results, Tryz.results40, go_sem, y0, y1, y2, y3]) rfl ?_
      exact ⟨by unfold elGet; rw [HE.out]; rfl, fput_fr HF1.out (.inr (Nat.le_refl _)) _ _ _ _⟩
theorem spare_of (no : Int) : (elGet no).spare = (no == 43 || ((decide (60 ≤ no) && decide (no ≤ 63)) || (no == 102 || (no == 103 || no == 120)))) := by
  by_cases h : 0 ≤ no ∧ no ≤ 130
  · obtain ⟨n, rfl⟩ := Int.eq_ofNat_of_zero_le h.1
    have h1 : (List.range 131).all (fun n => decide ((elGet (n : Int)).spare = ((n : Int) == 43 || ((decide (60 ≤ (n : Int)) && decide ((n : Int) ≤ 63)) || ((n : Int) == 102 || ((n : Int) == 103 || (n : Int) == 120)))))) = true := by decide +kernel
    exact of_decide_eq_true (List.all_eq_true.1 h1 n (List.mem_range.2 (by omega)))
  · have hn : elFind no = none := by
      cases he : elFind no with
      | none => rfl
      | some r =>
        have h2 := elFind_some he
        have h3 := el_row h2.1
        omega
    have e1 : elGet no = elNone := by unfold elGet; rw [hn]; rfl
    rw [e1]
    have a1 : (no == 43) = false := by rw [beq_eq_false_iff_ne]; omega
    have a2 : (no == 102) = false := by rw [beq_eq_false_iff_ne]; omega
    have a3 : (no == 103) = false := by rw [beq_eq_false_iff_ne]; omega
    have a4 : (no == 120) = false := by rw [beq_eq_false_iff_ne]; omega
    have a5 : (decide (60 ≤ no) && decide (no ≤ 63)) = false := by
      rw [Bool.and_eq_false_iff, decide_eq_false_iff_not, decide_eq_false_iff_not]; omega
    rw [a1, a2, a3, a4, a5]
    rfl
/-- data held against a format -/
theorem rd_str {w : World} {A : Option Addr} {m c : Nat} {d : List UInt8} (hr : Rd w A m c (u8s d)) : (convert 22 9 (.slice A m c)).run Tryz.prog w = .ok (.string (bstr d)) w :=
  run_string hr 22 5 Tryz.underlying22 Tryz.underlying5 9 Tryz.underlying9
theorem right0 (d : List UInt8) : rightB d 0 (d.length : Int) = d.all isD := by
  unfold rightB
  rw [decide_eq_true (by omega), decide_eq_true (by omega)]
  rfl
theorem aln0 (d : List UInt8) : alnB d 0 (d.length : Int) = d.all alnC := by
  unfold alnB
  rw [decide_eq_true (by omega), decide_eq_true (by omega)]
  simp
theorem ans0 {d : List UInt8} (h : 1 ≤ d.length) : ansB d (d.length : Int) = d.all ansC := by
  unfold ansB
  rw [decide_eq_true (by omega), decide_eq_true (by omega)]
  simp
theorem r_typed {w : World} {r : FRow} {A : Option Addr} {c : Nat} {d : List UInt8} (hk : r.kind = 1 ∨ r.kind = 2 ∨ r.kind = 3 ∨ r.kind = 4) (hr : Rd w A d.length c (u8s d)) (hd : d.length ≤ 140737488355328) :
    Calls Tryz.prog 74 #[r.fmtR, .slice A d.length c] w fun e w' => e = .returned (.bool (typB r.kind d)) ∧ Fr No w w' := by
  have hb : (bstr d).data.toList = d := by simp [bstr]
  have hs : (bstr d).size = d.length := bstr_size d
  have hstr := fun u (hf : Fr No w u) => rd_str (hr.no hf)
  have q1 := fun u => ref_right (bstr d) 0 (d.length : Int) u (by rw [hs]; simp only [maxLen]; omega)
  have q2 := fun u => ref_aln_any (bstr d) 0 (d.length : Int) u (by rw [hs]; omega)
  have q3 := fun u => ref_ans_any (bstr d) (d.length : Int) u (by rw [hs]; omega)
  rw [hb, right0] at q1
  rw [hb, aln0] at q2
  rw [hb] at q3
  have hz : ((bstr d).size : Int) = (d.length : Int) := by rw [hs]
  have hz2 : (bstr d).size ≤ 9223372036854775807 := by rw [hs]; omega
  have hempty : ((bstr d).toList == []) = decide (d.length = 0) := by
    rw [bstr_toList, Bool.eq_iff_iff, beq_iff_eq, decide_eq_true_iff]
    exact List.length_eq_zero_iff.symm
  unfold FRow.fmtR
  obtain ⟨rn, rk, rd, rt, rs⟩ := r
  dsimp only at hk ⊢
  generalize (rd : Int) = DD at *
  generalize (rt : Int) = T at *
  have hal := (Fr.refl No w).alloc (.cells #[.int .i64 rn, .int .i64 rk, .int .i64 DD, .int .i64 T] 77)
  have HAL := Lib.hid hal
  have hstr2 := hstr _ hal
  obtain ⟨n, hn⟩ : ∃ n, d.length = n := ⟨_, rfl⟩
  have HN := Lib.hid hn
  rw [hn] at hs hz hempty q1 q2 q3 hstr2 hd ⊢
  have HT : Hid (typB rk d = if rk = 1 then d.all isD else if rk = 2 then d.all alnC else if rk = 3 then d.all ansC else true) := Lib.hid rfl
  have hans : n ≠ 0 → ansB d (n : Int) = d.all ansC := fun h => by rw [← hn]; exact ans0 (by omega)
  have hnil : n = 0 → d.all ansC = true := fun h => by rw [List.eq_nil_of_length_eq_zero (hn.trans h)]; rfl
  have HANS := Lib.hid hans; have HNIL := Lib.hid hnil
  generalize bstr d = S at *
  generalize d.all isD = K1 at *
  generalize d.all alnC = K2 at *
  generalize d.all ansC = K3 at *
  generalize ansB d (n : Int) = K4 at *
  have Q1 := Lib.hid q1; have Q2 := Lib.hid q2; have Q3 := Lib.hid q3
  rw [HT.out]
  clear hstr hr hal hb q1 q2 q3 hn HT hans hnil
  rcases hk with rfl | rfl | rfl | rfl
  · rw [if_pos rfl]
    go_enter Tryz.func74, Tryz.ntmps74
    go_wp2_with (go_at_call 11; refine (Q1.out _).mono ?_; rintro e w1 ⟨rfl, rfl⟩)
    go_ret
    exact ⟨rfl, HAL.out⟩
  · rw [if_neg (by decide), if_pos rfl]
    go_enter Tryz.func74, Tryz.ntmps74
    go_wp2_with (go_at_call 119; refine (Q2.out _).mono ?_; rintro e w1 ⟨rfl, rfl⟩)
    go_ret
    exact ⟨rfl, HAL.out⟩
  · rw [if_neg (by decide), if_neg (by decide), if_pos rfl]
    by_cases h0 : n = 0
    · rw [HNIL.out h0]
      rw [decide_eq_true h0] at hempty
      clear h0
      go_enter Tryz.func74, Tryz.ntmps74
      go_wp2
      go_ret
      exact ⟨rfl, HAL.out⟩
    · rw [← HANS.out h0]
      rw [decide_eq_false h0] at hempty
      clear h0
      go_enter Tryz.func74, Tryz.ntmps74
      go_wp2_with (go_at_call 120; refine (Q3.out _).mono ?_; rintro e w1 ⟨rfl, rfl⟩)
      go_ret
      exact ⟨rfl, HAL.out⟩
  · rw [if_neg (by decide), if_neg (by decide), if_neg (by decide)]
    go_enter Tryz.func74, Tryz.ntmps74
    go_wp2
    go_ret
    exact ⟨rfl, HAL.out⟩
end Go.Proofs.YthlgnmgjfgbffaaGreatDoor
