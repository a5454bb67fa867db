/- The texts RefEle5, joined. -/
import Derived.Test.YtpkalnkeafggjaaGreatDoorK37
import Derived.Test.YtpkalnkeafggjaaGreatDoorK26
import Derived.Test.YtpkalnkeafggjaaGreatDoorK22
/- The statements' own elements: Read. -/
namespace Go.Proofs.YtpkalnkeafggjaaGreatDoor
open Go.RowKit
set_option maxHeartbeats 1000000
set_option linter.unusedVariables false
set_option maxRecDepth 20000

/-- what the statements' own Read answers -/
def RReadTo (l : List UInt8) (n : Nat) (E : Int) (w : World) (e : Ending) (w' : World) : Prop := ∃ v, e = .returned (.tuple #[v, .int .i64 (n : Int), .int .i64 E]) ∧ w'.ownsRow w.heap.size 5 1 v l.length (u8s l) ∧ Fr No w w'
theorem rread_no {no : Int} {b : List UInt8} {E : Int} (h : rdEl no b = (E, [], 0)) (w : World) {w' : World} (hf : Fr No w w') : RReadTo (reL no b) (reN no b) (reE no b) w (.returned (.tuple #[.slice none 0 0, .int .i64 0, .int .i64 E])) w' := by
  have e1 : reE no b = E := by unfold reE; rw [h]
  have e2 : reL no b = [] := by unfold reL; rw [h]
  have e3 : reN no b = 0 := by unfold reN; rw [h]
  rw [e1, e2, e3]
  exact ⟨_, rfl, World.ownsRow_nil _ _ _ _, hf⟩
theorem numR_lt2 (l : List UInt8) : numR l < 1000000000000000000 := by
  unfold numR
  split
  · rename_i h
    obtain ⟨h1, h2, h3⟩ := rightB_len h
    have h4 := numV_le h3
    have h5 : (10 : Nat) ^ l.length ≤ 10 ^ 18 := Nat.pow_le_pow_right (by decide) (by omega)
    have : (10 : Nat) ^ 18 = 1000000000000000000 := by decide
    omega
  · decide
theorem rd_fix {r : FRow} {b : List UInt8} (h : r.dig = 0) : rdR r b = if b.length < r.top then (3, [], 0) else if typB r.kind (b.take r.top) = false then (14, [], 0) else (0, b.take r.top, r.top) := by
  have hs : sizEl r b = (0, r.top) := by unfold sizEl; rw [if_pos h]
  have hf : fitB r r.top = true := by rw [fitB_iff, if_pos h]; omega
  unfold rdR
  rw [hs, h]
  simp only [Nat.zero_add, List.drop_zero]
  rw [if_neg (by decide), if_neg (by rw [hf]; decide)]
theorem rd_num {r : FRow} {b : List UInt8} (h : r.dig ≠ 0) : rdR r b = if b.length < r.dig then (3, [], 0) else if numE (b.take r.dig) ≠ 0 then (numE (b.take r.dig), [], 0)
    else if numR (b.take r.dig) < 1 ∨ r.top < numR (b.take r.dig) then (17, [], 0) else if b.length < r.dig + numR (b.take r.dig) then (3, [], 0)
    else if typB r.kind ((b.drop r.dig).take (numR (b.take r.dig))) = false then (14, [], 0) else (0, (b.drop r.dig).take (numR (b.take r.dig)), r.dig + numR (b.take r.dig)) := by
  by_cases h1 : b.length < r.dig
  · have hs : sizEl r b = (3, 0) := by unfold sizEl; rw [if_neg h, if_pos h1]
    unfold rdR
    rw [hs, if_pos (by decide), if_pos h1]
  · have hs : sizEl r b = (numE (b.take r.dig), numR (b.take r.dig)) := by unfold sizEl; rw [if_neg h, if_neg h1]
    unfold rdR
    rw [hs, if_neg h1]
    dsimp only
    by_cases h2 : numE (b.take r.dig) ≠ 0
    · rw [if_pos h2, if_pos h2]
    · rw [if_neg h2, if_neg h2]
      by_cases h3 : numR (b.take r.dig) < 1 ∨ r.top < numR (b.take r.dig)
      · have hf : fitB r (numR (b.take r.dig)) = false := by
          rw [Bool.eq_false_iff]; intro hf
          have := fitB_iff.1 hf
          rw [if_neg h] at this
          omega
        rw [if_pos h3, if_pos hf]
      · have hf : fitB r (numR (b.take r.dig)) = true := by rw [fitB_iff, if_neg h]; omega
        rw [if_neg h3, if_neg (by rw [hf]; decide)]
set_option maxRecDepth 20000 in
theorem r_ReadElement (no : Int) (A : Option Addr) (c : Nat) (b : List UInt8) (w : World) (hr : Rd w A b.length c (u8s b)) :
    Calls Tryz.prog 24 #[.int .i64 no, .slice A b.length c] w (RReadTo (reL no b) (reN no b) (reE no b) w) := by
  have HF := Lib.hid (fun u => r_Format no u)
  have HNO := Lib.hid (fun E w' (h : rdEl no b = (E, [], 0)) (hf : Fr No w w') => rread_no h w hf)
  have hcap := hr.cap
  have hmax : c ≤ 9223372036854775807 := by have := hr.max; simpa [maxLen] using this
  have HR := Lib.hid hr
  cases hs : elFind no with
  | none =>
    have he : rdEl no b = (16, [], 0) := by unfold rdEl; rw [hs]
    have hg : elGet no = elNone := by unfold elGet; rw [hs]; rfl
    rw [hs, hg] at HF
    have HE := Lib.hid he
    unfold FRow.fmtR at HF
    clear he hg hs hr
    go_enter Tryz.func24, Tryz.ntmps24
    go_wp2_with (go_at_call 45; refine (HF.out _).mono ?_; rintro e w1 ⟨rfl, f1⟩; have F1 := Lib.hid f1; clear f1)
    go_ret3
    exact HNO.out _ _ HE.out (F1.out.alloc _)
  | some r =>
    have hm := (elFind_some hs).1
    have hrow := el_row hm
    rw [hs, rf_get hs] at HF
    have he : rdEl no b = rdR r b := by unfold rdEl; rw [hs]
    have HE := Lib.hid he; have HROW := Lib.hid hrow
    unfold FRow.fmtR at HF
    obtain ⟨m, hmm⟩ : ∃ m, b.length = m := ⟨_, rfl⟩
    have HM := Lib.hid hmm
    rw [hmm] at HR hcap ⊢
    obtain ⟨D, hD⟩ : ∃ D : Nat, r.dig = D := ⟨_, rfl⟩
    obtain ⟨T, hTT⟩ : ∃ T : Nat, r.top = T := ⟨_, rfl⟩
    have HD := Lib.hid hD; have HT := Lib.hid hTT
    rw [hD, hTT] at HF
    have hb4 : D ≤ 4 := by omega
    have hb9 : 1 ≤ T ∧ T ≤ 999 := by omega
    have hty := fun (A' : Option Addr) (c' : Nat) (d : List UInt8) (u : World) (h : Rd u A' d.length c' (u8s d)) (hd : d.length ≤ 140737488355328) => r_typed (r := r) hrow.2.2.2.2.1 h hd
    unfold FRow.fmtR at hty
    rw [hD, hTT] at hty
    obtain ⟨rn, hrn⟩ : ∃ x, r.no = x := ⟨_, rfl⟩
    obtain ⟨rk, hrk⟩ : ∃ x, r.kind = x := ⟨_, rfl⟩
    have HRK := Lib.hid hrk
    rw [hrn, hrk] at HF
    obtain ⟨DI, hDI⟩ : ∃ x : Int, (D : Int) = x := ⟨_, rfl⟩
    rw [hDI] at HF
    have HTY : Hid (∀ (A' : Option Addr) (n' c' : Nat) (d : List UInt8) (u : World), Rd u A' n' c' (u8s d) → d.length = n' → n' ≤ 140737488355328 → Calls Tryz.prog 47 #[.agg #[.int .i64 rn, .int .i64 rk, .int .i64 DI, .int .i64 (T : Int)], .slice A' n' c'] u fun e w' => e = .returned (.bool (typB rk d)) ∧ Fr No u w') := by
      refine Lib.hid (fun A' n' c' d u h hn hd => ?_)
      subst hn
      have := hty A' c' d u h hd
      rw [hrn, hrk, hDI] at this
      exact this
    clear hs hr he hrow hmm hD hTT hty hrn hrk hm
    by_cases h0 : D = 0
    · have hd0 : r.dig = 0 := by rw [HD.out]; exact h0
      have HFX := Lib.hid (rd_fix (r := r) (b := b) hd0)
      rw [HM.out, HT.out, HRK.out] at HFX
      obtain rfl : DI = 0 := by omega
      by_cases h1 : m < T
      · have h1I : (m : Int) < (T : Int) := by omega
        have hq : rdEl no b = (3, [], 0) := by rw [HE.out, HFX.out, if_pos h1]
        have HQ := Lib.hid hq
        clear hq h1 h0 hd0
        go_enter Tryz.func24, Tryz.ntmps24
        go_wp2_with (go_at_call 45; refine (HF.out _).mono ?_; rintro e w1 ⟨rfl, f1⟩; have F1 := Lib.hid (f1.alloc (.cells #[.int .i64 rn, .int .i64 rk, .int .i64 0, .int .i64 (T : Int)] 77)); have BFH := Lib.hid (Bk.new w1 77 #[.int .i64 rn, .int .i64 rk, .int .i64 0, .int .i64 (T : Int)]); have b2 := BFH.out.cell 2; have b3 := BFH.out.cell 3; clear f1)
        go_ret3
        exact HNO.out _ _ HQ.out F1.out
      · have hTM : (T : Int) ≤ (c : Int) := by omega
        have hTM2 : (T : Int) ≤ (m : Int) := by omega
        have HH := Lib.hid (rd_head (k := T) HR.out (by omega))
        have HHL := Lib.hid (show (b.take T).length = T by rw [List.length_take, HM.out]; omega)
        obtain ⟨K, hK⟩ : ∃ K, typB rk (b.take T) = K := ⟨_, rfl⟩
        have hty := fun u (hu : Fr No w u) => HTY.out A T c (b.take T) u (HH.out.no hu) HHL.out (by omega)
        rw [hK] at hty
        have HTYB := Lib.hid hty
        have HK := Lib.hid hK; have H1 := Lib.hid h1
        clear hty hK h1 h0 hd0
        go_enter Tryz.func24, Tryz.ntmps24
        go_wp2_with (go_at_call 45; refine (HF.out _).mono ?_; rintro e w1 ⟨rfl, f1⟩; have F1 := Lib.hid (f1.alloc (.cells #[.int .i64 rn, .int .i64 rk, .int .i64 0, .int .i64 (T : Int)] 77)); have BFH := Lib.hid (Bk.new w1 77 #[.int .i64 rn, .int .i64 rk, .int .i64 0, .int .i64 (T : Int)]); have b2 := BFH.out.cell 2; have b3 := BFH.out.cell 3; clear f1)
        go_name_world W hW
        rw [hW] at F1 BFH b2 b3
        clear hW
        have b0 := BFH.out.cell 0
        have b1 := BFH.out.cell 1
        have g0 := cell_regrown b0
        have g1 := cell_regrown b1
        have g2 := cell_regrown b2
        have g3 := cell_regrown b3
        refine wp_region_quiet_below (by kernel_rfl) (by kernel_rfl) ?_
        repeat (first
          | quiet_step ((go_at_call 47; exact Calls.regrown_of (below_of (HTYB.out _ (F1.out.trans (fr_regrown _ _ _)))))))
        refine wpQuiet_nil ?_
        intro w9 hw9r
        obtain ⟨⟨nr, osr⟩, hw9r⟩ := hw9r
        have hf9 : Fr No W w9 := by rw [hw9r]; exact fr_regrown W nr osr
        have F9 := Lib.hid (F1.out.trans hf9)
        have y2 := hf9.cell b2 (fun x => x)
        clear hw9r hf9 g0 g1 g2 g3 b0 b1 b2 b3
        cases K with
        | false =>
          go_wp2
          go_ret3
          exact HNO.out _ _ (by rw [HE.out, HFX.out, if_neg H1.out, if_pos HK.out]) F9.out
        | true =>
          go_wp2_with (at_builtin; go_must (refine ap8 w9 rfl _ (.tmp 73) rfl w.heap.size (.slice none 0 0) 0 [] rfl (World.ownsRow_nil _ _ _ _) _ _ _ (b.take T) rfl (HH.out.no F9.out) (by omega) F9.out.size ?_); intro v5 w5 o5 g5 q5; have O5 := Lib.hid o5; have F5 := Lib.hid (F9.out.grown g5 (fun g e => by simp [Value.ownBlock] at e)); clear o5 g5 q5)
          go_ret3
          have heq : rdEl no b = (0, (b.take T), T) := by rw [HE.out, HFX.out, if_neg H1.out, if_neg (by rw [HK.out]; decide)]
          have e1 : reE no b = 0 := by unfold reE; rw [heq]
          have e2 : reL no b = (b.take T) := by unfold reL; rw [heq]
          have e3 : reN no b = T := by unfold reN; rw [heq]
          rw [e1, e2, e3]
          exact ⟨v5, by first | rfl | simp, by rw [HHL.out]; have := O5.out; rwa [Nat.zero_add, List.nil_append] at this, F5.out⟩
    · have hd0 : r.dig ≠ 0 := by rw [HD.out]; exact h0
      have HFX := Lib.hid (rd_num (r := r) (b := b) hd0)
      rw [HM.out, HT.out, HRK.out, HD.out] at HFX
      have h0I : (0 : Int) < (D : Int) := by omega
      subst hDI
      by_cases h1 : m < D
      · have h1I : (m : Int) < (D : Int) := by omega
        have hq : rdEl no b = (3, [], 0) := by rw [HE.out, HFX.out, if_pos h1]
        have HQ := Lib.hid hq
        clear hq h1 h0 hd0
        go_enter Tryz.func24, Tryz.ntmps24
        go_wp2_with (go_at_call 45; refine (HF.out _).mono ?_; rintro e w1 ⟨rfl, f1⟩; have F1 := Lib.hid (f1.alloc (.cells #[.int .i64 rn, .int .i64 rk, .int .i64 (D : Int), .int .i64 (T : Int)] 77)); have BFH := Lib.hid (Bk.new w1 77 #[.int .i64 rn, .int .i64 rk, .int .i64 (D : Int), .int .i64 (T : Int)]); have b2 := BFH.out.cell 2; have b3 := BFH.out.cell 3; clear f1)
        go_ret3
        exact HNO.out _ _ HQ.out F1.out
      have h1I : (D : Int) ≤ (m : Int) := by omega
      have h1N : ¬ m < D := h1
      have h0N : 0 < D := by omega
      have h1C : (D : Int) ≤ (c : Int) := by omega
      have hh := rd_head (k := D) HR.out (by omega)
      have HSTR := Lib.hid (fun u (hu : Fr No w u) => rd_str (hh.no hu))
      have hbl : (bstr (b.take D)).data.toList = b.take D := by simp [bstr]
      have hnum := fun u => ref_number (bstr (b.take D)) u (by rw [bstr_size, List.length_take]; simp only [maxLen]; omega)
      rw [hbl] at hnum
      have hz : (bstr (b.take D)).size ≤ 9223372036854775807 := by rw [bstr_size, List.length_take]; omega
      have hnr : numR (b.take D) < 1000000000000000000 := numR_lt2 _
      have hw : IntKind.i64.wrap (numR (b.take D) : Int) = (numR (b.take D) : Int) := IntWalk.i64_in _ ⟨by omega, by omega⟩
      have hwT : IntKind.u64.wrap (T : Int) = (T : Int) := IntWalk.u64_in _ ⟨by omega, by omega⟩
      generalize bstr (b.take D) = S at *
      generalize numR (b.take D) = N at *
      generalize numE (b.take D) = E at *
      have HNUM := Lib.hid hnum; have H1 := Lib.hid h1
      clear hnum hbl hh h0 hd0 h1
      have NUMA : Hid (∀ u, Calls Tryz.prog 46 #[.string S] u fun e w' => e = .returned (.tuple #[.int .u64 (N : Int), .int .i64 E]) ∧ u = w') := Lib.hid HNUM.out
      by_cases hE : E ≠ 0
      · have hEb : (E != 0) = true := by rw [bne_iff_ne]; exact hE
        have hq : rdEl no b = (E, [], 0) := by rw [HE.out, HFX.out, if_neg H1.out, if_pos hE]
        have HQ := Lib.hid hq
        clear hq hE
        go_enter Tryz.func24, Tryz.ntmps24
        go_wp2_with (first
          | (go_at_call 45; refine (HF.out _).mono ?_; rintro e w1 ⟨rfl, f1⟩; have F1 := Lib.hid (f1.alloc (.cells #[.int .i64 rn, .int .i64 rk, .int .i64 (D : Int), .int .i64 (T : Int)] 77)); have BFH := Lib.hid (Bk.new w1 77 #[.int .i64 rn, .int .i64 rk, .int .i64 (D : Int), .int .i64 (T : Int)]); have b2 := BFH.out.cell 2; have b3 := BFH.out.cell 3; have hst1 := HSTR.out _ F1.out; clear f1)
          | (go_at_call 46; refine (NUMA.out _).mono ?_; rintro e w2 ⟨rfl, rfl⟩))
        go_ret3
        exact HNO.out _ _ HQ.out F1.out
      obtain rfl : E = 0 := by
        by_cases h : E = 0
        · exact h
        · exact absurd h hE
      by_cases hv : N < 1 ∨ T < N
      · have hq : rdEl no b = (17, [], 0) := by rw [HE.out, HFX.out, if_neg H1.out, if_neg (by decide), if_pos hv]
        have HQ := Lib.hid hq
        have hv2 : (decide ((N : Int) < 1) = true) ∨ (decide ((N : Int) < 1) = false ∧ T < N) := by
          by_cases h : N < 1
          · exact .inl (decide_eq_true (by omega))
          · exact .inr ⟨decide_eq_false (by omega), by omega⟩
        clear hq hE hv
        rcases hv2 with hv2 | ⟨hv2, hv3⟩
        all_goals
          go_enter Tryz.func24, Tryz.ntmps24
          go_wp2_with (first
            | (go_at_call 45; refine (HF.out _).mono ?_; rintro e w1 ⟨rfl, f1⟩; have F1 := Lib.hid (f1.alloc (.cells #[.int .i64 rn, .int .i64 rk, .int .i64 (D : Int), .int .i64 (T : Int)] 77)); have BFH := Lib.hid (Bk.new w1 77 #[.int .i64 rn, .int .i64 rk, .int .i64 (D : Int), .int .i64 (T : Int)]); have b2 := BFH.out.cell 2; have b3 := BFH.out.cell 3; have hst1 := HSTR.out _ F1.out; clear f1)
            | (go_at_call 46; refine (NUMA.out _).mono ?_; rintro e w2 ⟨rfl, rfl⟩))
          go_ret3
          exact HNO.out _ _ HQ.out F1.out
      have hv2 : decide ((N : Int) < 1) = false := decide_eq_false (by omega)
      have hv3 : ¬ T < N := by omega
      have HV := Lib.hid hv
      by_cases h2 : m < D + N
      · have h2I : (m : Int) < (D : Int) + (N : Int) := by omega
        have hq : rdEl no b = (3, [], 0) := by rw [HE.out, HFX.out, if_neg H1.out, if_neg (by decide), if_neg hv, if_pos h2]
        have HQ := Lib.hid hq
        clear hq hE hv h2
        go_enter Tryz.func24, Tryz.ntmps24
        go_wp2_with (first
          | (go_at_call 45; refine (HF.out _).mono ?_; rintro e w1 ⟨rfl, f1⟩; have F1 := Lib.hid (f1.alloc (.cells #[.int .i64 rn, .int .i64 rk, .int .i64 (D : Int), .int .i64 (T : Int)] 77)); have BFH := Lib.hid (Bk.new w1 77 #[.int .i64 rn, .int .i64 rk, .int .i64 (D : Int), .int .i64 (T : Int)]); have b2 := BFH.out.cell 2; have b3 := BFH.out.cell 3; have hst1 := HSTR.out _ F1.out; clear f1)
          | (go_at_call 46; refine (NUMA.out _).mono ?_; rintro e w2 ⟨rfl, rfl⟩))
        go_ret3
        exact HNO.out _ _ HQ.out F1.out
      · have h2I : (D : Int) + (N : Int) ≤ (m : Int) := by omega
        obtain ⟨M, hM⟩ : ∃ M, D + N = M := ⟨_, rfl⟩
        have h2M : (D : Int) + (N : Int) = (M : Int) := by omega
        have h2C : (M : Int) ≤ (c : Int) := by omega
        have h2D : (D : Int) ≤ (M : Int) := by omega
        have h2N : (M : Int) ≤ (m : Int) := by omega
        have hND : M - D = N := by omega
        have hcD : ¬ c = D := by omega
        have hh2 := rd_part (k := D) (m := N) HR.out (by omega)
        have hcut : cutA A c D = A.map (·.add D) := by unfold cutA; rw [if_neg hcD]
        rw [hcut] at hh2
        have HH := Lib.hid hh2
        have HHL := Lib.hid (show ((b.drop D).take N).length = N by rw [List.length_take, List.length_drop, HM.out]; omega)
        obtain ⟨K, hK⟩ : ∃ K, typB rk ((b.drop D).take N) = K := ⟨_, rfl⟩
        have hty := fun u (hu : Fr No w u) => HTY.out _ N _ ((b.drop D).take N) u (HH.out.no hu) HHL.out (by omega)
        rw [hK] at hty
        have HTYB := Lib.hid hty
        have HK := Lib.hid hK; have H2 := Lib.hid h2; have HMM := Lib.hid hM
        clear hty hK h2 hh2 hcut hE hv h2I hM
        go_enter Tryz.func24, Tryz.ntmps24
        go_wp2_with (first
          | (go_at_call 45; refine (HF.out _).mono ?_; rintro e w1 ⟨rfl, f1⟩; have F1 := Lib.hid (f1.alloc (.cells #[.int .i64 rn, .int .i64 rk, .int .i64 (D : Int), .int .i64 (T : Int)] 77)); have BFH := Lib.hid (Bk.new w1 77 #[.int .i64 rn, .int .i64 rk, .int .i64 (D : Int), .int .i64 (T : Int)]); have b2 := BFH.out.cell 2; have b3 := BFH.out.cell 3; have hst1 := HSTR.out _ F1.out; clear f1)
          | (go_at_call 46; refine (NUMA.out _).mono ?_; rintro e w2 ⟨rfl, rfl⟩))
        go_name_world W hW
        rw [hW] at F1 BFH b2 b3
        clear hW hst1
        have b0 := BFH.out.cell 0
        have b1 := BFH.out.cell 1
        have g0 := cell_regrown b0
        have g1 := cell_regrown b1
        have g2 := cell_regrown b2
        have g3 := cell_regrown b3
        refine wp_region_quiet_below (by kernel_rfl) (by kernel_rfl) ?_
        repeat (first
          | quiet_step ((go_at_call 47; exact Calls.regrown_of (below_of (HTYB.out _ (F1.out.trans (fr_regrown _ _ _)))))))
        refine wpQuiet_nil ?_
        intro w9 hw9r
        obtain ⟨⟨nr, osr⟩, hw9r⟩ := hw9r
        have hf9 : Fr No W w9 := by rw [hw9r]; exact fr_regrown W nr osr
        have F9 := Lib.hid (F1.out.trans hf9)
        have y2 := hf9.cell b2 (fun x => x)
        clear hw9r hf9 g0 g1 g2 g3 b0 b1 b2 b3
        cases K with
        | false =>
          go_wp2
          go_ret3
          exact HNO.out _ _ (by rw [HE.out, HFX.out, if_neg H1.out, if_neg (by decide), if_neg HV.out, if_neg H2.out, if_pos HK.out]) F9.out
        | true =>
          go_wp2_with (at_builtin; go_must (refine ap8 w9 rfl _ (.tmp 73) rfl w.heap.size (.slice none 0 0) 0 [] rfl (World.ownsRow_nil _ _ _ _) _ _ _ ((b.drop D).take N) rfl (HH.out.no F9.out) (by omega) F9.out.size ?_); intro v5 w5 o5 g5 q5; have O5 := Lib.hid o5; have F5 := Lib.hid (F9.out.grown g5 (fun g e => by simp [Value.ownBlock] at e)); clear o5 g5 q5)
          go_ret3
          have heq : rdEl no b = (0, ((b.drop D).take N), M) := by rw [HE.out, HFX.out, if_neg H1.out, if_neg (by decide), if_neg HV.out, if_neg H2.out, if_neg (by rw [HK.out]; decide), HMM.out]
          have e1 : reE no b = 0 := by unfold reE; rw [heq]
          have e2 : reL no b = ((b.drop D).take N) := by unfold reL; rw [heq]
          have e3 : reN no b = M := by unfold reN; rw [heq]
          rw [e1, e2, e3]
          exact ⟨v5, by first | rfl | simp, by rw [HHL.out]; have := O5.out; rwa [Nat.zero_add, List.nil_append] at this, F5.out⟩
end Go.Proofs.YtpkalnkeafggjaaGreatDoor
