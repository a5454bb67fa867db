/- ElementDigits: the walk, for any two numbers. -/
import Derived.Test.YtijlekikmkeihaaDoorEleDigM
namespace Go.Proofs.YtijlekikmkeihaaDoor
open Go.RowKit
set_option maxHeartbeats 1000000
set_option linter.unusedVariables false

theorem dig_nums {n0 p n : Nat} (h1 : n0 < 99) (h2 : p < 4) (h3 : n ≤ 100) : IntKind.i64.wrap (n0 : Int) = (n0 : Int) ∧ wrap64 (n0 : Int) = (n0 : Int) ∧ IntKind.i64.wrap (p : Int) = (p : Int) ∧ wrap64 (p : Int) = (p : Int) ∧ IntKind.u64.wrap (n : Int) = (n : Int) :=
  ⟨IntWalk.i64_in _ ⟨by omega, by omega⟩, IntWalk.wrap64_in _ ⟨by omega, by omega⟩, IntWalk.i64_in _ ⟨by omega, by omega⟩, IntWalk.wrap64_in _ ⟨by omega, by omega⟩, IntWalk.u64_in _ ⟨by omega, by omega⟩⟩
set_option maxRecDepth 20000 in
theorem eleDigits_walk {x y : Int} (w : World) (hT : Tabs w) (hx : (Lit.int .i64 x).wf = true) (hy : (Lit.int .i64 y).wf = true) :
    Calls Tryd.prog 8 #[.int .i64 x, .int .i64 y] w fun e w' => e = .returned (.bool true) ∧ Fr No w w' := by
  obtain ⟨n0, hn0, en⟩ := umod x 99 (by decide) (by decide)
  obtain ⟨p, hp, ep⟩ := umod y 4 (by decide) (by decide)
  obtain ⟨n, hn⟩ : ∃ n, n0 + 1 = n := ⟨_, rfl⟩
  have EN := Lib.hid (show (IntKind.u64.wrap x).tmod 99 = (n0 : Int) from en)
  have EP := Lib.hid (show (IntKind.u64.wrap y).tmod 4 = (p : Int) from ep)
  clear en ep
  have hn1 : 1 ≤ n := by omega
  have hn2 : n ≤ 100 := by omega
  have hsum : 1 + (n0 : Int) = (n : Int) := by omega
  have AW := Lib.hid (fun u (hu : Fr No w u) => awake_ele u (hT.fr hu))
  have hrl : (List.replicate n (122 : UInt8)).length = n := List.length_replicate
  have WR := fun (g : Nat) u (hu : Fr No w u) (h : Rd u (some ⟨g, 0, none⟩) n n (u8s (List.replicate n 122))) => by
    have h1 := el_write_any 60 (some ⟨g, 0, none⟩) n (List.replicate n 122) u (by rw [hrl]; exact h) (by omega) (hT.fr hu)
    rw [hrl, chk60 n hn1 hn2, wrt60 n hn1 hn2] at h1
    exact h1
  have RD : ∀ (no : Int) (b : List UInt8) (E : Int), rdEl no b = (E, [], 0) → ∀ (u : World) (A' : Option Addr) (n' c' : Nat), Fr No w u → Rd u A' n' c' (u8s b) → Calls Tryd.prog 12 #[.int .i64 no, .slice A' n' c'] u (ReadTo [] 0 E u) := fun no b E he u A' n' c' hu h => by
    have hl : b.length = n' := by simpa using h.len
    subst hl
    have h1 := el_read_any no A' c' b u h (hT.fr hu)
    have e1 : reE no b = E := by unfold reE; rw [he]
    have e2 : reL no b = [] := by unfold reL; rw [he]
    have e3 : reN no b = 0 := by unfold reN; rw [he]
    rw [e1, e2, e3] at h1
    exact h1
  have DG := fun u => ref_digits n 3 u (by omega)
  have hnone : ∀ no : Int, no = 3 ∨ no = 0 ∨ no = -1 ∨ no = 65 → ∀ b, rdEl no b = (16, [], 0) := fun no h b => by
    have : elFind no = none := by rcases h with rfl | rfl | rfl | rfl <;> decide +kernel
    unfold rdEl
    rw [this]
  have hL := bstr_append (textR n 3) (List.replicate n 122)
  have hz1 : (bstr (textR n 3)).size ≤ 1000 := by
    rw [bstr_size]
    rcases text_cases n 3 with ⟨_, _, h⟩ | ⟨_, _, h⟩ | ⟨_, _, _, _, h⟩ | ⟨m, h1, h2, h3, _, h5⟩
    · rw [h]; simp
    · rw [h]; simp
    · rw [h]; simp
    · rw [h5, wide_length]; omega
  have hz2 : (bstr (List.replicate n 122)).size ≤ 1000 := by rw [bstr_size, hrl]; omega
  have hLl : (textR n 3 ++ List.replicate n 122).length ≤ 2000 := by rw [List.length_append, hrl]; rw [bstr_size] at hz1; omega
  have r000 := RD 60 _ _ (rd60_000 (List.replicate n 122))
  have r0x1 := RD 60 _ _ (rd60_0x1 (List.replicate n 122))
  have r101 := RD 60 _ _ (rd60_101 (List.replicate n 122))
  have hla : ∀ a b c : UInt8, ([a, b, c] ++ List.replicate n (122 : UInt8)).length = n + 3 := fun a b c => by rw [List.length_append, hrl]; simp; omega
  unfold WrtTo at WR
  unfold ReadTo at r000 r0x1 r101 RD
  have DLR : Hid (∀ {u : World} {g : Nat}, Bk u g 5 (u8s (fillL 122 n n)) → Rd u (some ⟨g, 0, none⟩) n n (u8s (List.replicate n 122))) := Lib.hid (fun h => fill_rd h (by omega))
  generalize textR n 3 ++ List.replicate n 122 = l at *
  generalize List.replicate n (122 : UInt8) = DL at *
  generalize textE n 3 = TE at *
  have hSX := bstr_size DL
  generalize hSD : bstr (textR n 3) = SD at *
  obtain ⟨SX, hSXe⟩ : ∃ SX, bstr DL = SX := ⟨_, rfl⟩
  rw [hSXe] at hL hz2
  obtain ⟨nb⟩ : ∃ q : Int, True := ⟨0, trivial⟩
  obtain ⟨wn, wn2, wp, wp2, wu⟩ := dig_nums hn0 hp hn2
  have hx2 := wf_i64 hx
  have hy2 := wf_i64 hy
  have WR := Lib.hid WR; have RD := Lib.hid RD; have DG := Lib.hid DG; have R0 := Lib.hid r000; have R1 := Lib.hid r0x1; have R2 := Lib.hid r101; have HNN := Lib.hid hnone; have HLA := Lib.hid hla
  have HL := Lib.hid hL; have HSX := Lib.hid hSXe; have HLL := Lib.hid hLl
  have F0 := Lib.hid (Fr.refl No w)
  have kc := fun (w : World) (C : Array Value) (n c : Nat) => Lib.run_convert_bytes_const (P := Tryd.prog) w 22 5 C n c Tryd.underlying22 Tryd.underlying5
  clear hT r000 r0x1 r101 hnone hla hL hSXe hLl hSX hrl hSD nb hx hy
  have en := EN.out
  have ep := EP.out
  go_enter Tryd.func8, Tryd.ntmps8
  go_wp2_with (at_make; go_must (refine mk8 w rfl (.tmp 28) (.tmp 28) rfl .i64 .i64 _ _ n n rfl rfl rfl rfl (Nat.le_refl _) (Nat.le_trans hn2 (by decide)) ?_); intro w2 hb2 hf2 hs2; have F2 := Lib.hid hf2; have B2 := Lib.hid hb2; clear hb2 hf2 hs2)
  clear en
  obtain ⟨g, hg⟩ : ∃ g, w.heap.size = g := ⟨_, rfl⟩
  rw [hg] at B2 ⊢
  have HG := Lib.hid hg
  clear hg
  go_loopw [32] (fun i wr => ∃ k : Nat, k ≤ n ∧ i = .int .i64 (k : Int) ∧ Bk wr g 5 (u8s (fillL 122 n k)) ∧ Fr (Just g) w2 wr) (fun i _ => n - (intOf i).toNat)
  case atStart => exact ⟨0, Nat.zero_le _, rfl, by rw [fillL_zero]; exact B2.out, Fr.refl _ _⟩
  case round =>
    obtain ⟨k, hk, rfl, hb, hf⟩ := hrel
    have HB := Lib.hid hb; have HFR := Lib.hid hf
    rcases Nat.lt_or_ge k n with hlt | hge
    · have EPH := Lib.hid ep
      clear ep wn wn2 wp wp2 wu
      obtain ⟨u, hu⟩ : ∃ u, (u8s (fillL 122 n k))[k]? = some u := ⟨_, List.getElem?_eq_getElem (by rw [u8s_length, fillL_len _ _ _ hk]; exact hlt)⟩
      have hc : wr.cell? ⟨g, k, none⟩ = some u := by rw [hb.cell]; exact hu
      have hfz := hb.frozen k
      have HS := Lib.hid (fillL_set 122 n k hlt)
      clear hu hb hf
      go_wp2
      go_roundw
      case rel => exact ⟨k + 1, by omega, by go_num, by rw [← HS.out]; exact HB.out.set_ _ _, HFR.out.setCell (p := ⟨g, k, none⟩) (.inl (Just.at g)) _⟩
      case measure => simp [intOf]; omega
    · obtain rfl : k = n := Nat.le_antisymm hk hge
      have FF := Lib.hid (F2.out.trans_just hf (by rw [HG.out]; exact Nat.le_refl _))
      have RR := Lib.hid (DLR.out hb)
      clear hb hf HFR HB hge
      have hp4 : p = 0 ∨ p = 1 ∨ p = 2 ∨ p = 3 := by clear ep wn wn2 wp wp2; omega
      have HSM : Hid (([0, 0, 0] : List UInt8).length + k ≤ 140737488355328) := Lib.hid (by clear ep wn wn2 wp wp2 wu; simp; omega)
      rcases hp4 with rfl | rfl | rfl | rfl
      · replace ep : (IntKind.u64.wrap y).tmod 4 = 0 := ep
        clear wp wp2
        go_wp2_with (first
        | (go_at_call 14; refine (WR.out g _ FF.out RR.out).mono ?_; rintro e w5 ⟨v5, rfl, o5, f5⟩; obtain ⟨V5, k5, rfl, hr5, -⟩ := ownM_rd o5; have F5 := Lib.hid (FF.out.trans f5); have R5 := Lib.hid hr5; have D5 := Lib.hid (RR.out.no f5); clear o5 f5 hr5)
        | (go_at_call 22; refine (DG.out _).mono ?_; rintro e w6 ⟨rfl, f6⟩; have F6 := Lib.hid (F5.out.trans f6); have R6 := Lib.hid (R5.out.no f6); have D6 := Lib.hid (D5.out.no f6); clear f6)
        | (at_builtin; refine apM _ rfl (.tmp 53) (.tmp 54) rfl w6.heap.size _ [48, 48, 48] rfl (lit_ownM w6 [48, 48, 48] 3 rfl (by decide)) (some ⟨g, 0, none⟩) k k DL rfl (D6.out.no ((Fr.refl No w6).alloc _)) HSM.out (by simp) ?_; intro v7 w7 o7 g7 q7; have G7 := ((Fr.refl No w6).alloc (.cells (u8s [48, 48, 48]).toArray 5 (3, 4))).grown g7 (fun i e => .inr (Nat.le_of_eq (Option.some.inj (show some w6.heap.size = some i from e)))); have F7 := Lib.hid (F6.out.trans G7); have D7 := Lib.hid (D6.out.no G7); have R7 := Lib.hid (R6.out.no G7); obtain ⟨V7, k7, rfl, hr7, -⟩ := ownM_rd o7; rw [HLA.out] at hr7 ⊢; have X7 := Lib.hid hr7; clear o7 g7 q7 G7 hr7)
        | (go_at_call 12; (with_reducible refine (R0.out _ _ _ _ F7.out X7.out).mono ?_); rintro e w8 ⟨v8, rfl, o8, f8⟩; obtain ⟨V8, k8, rfl, -, -⟩ := Rd.of_own o8; have F8 := Lib.hid (F7.out.trans f8); have D8 := Lib.hid (D7.out.no f8); have R8 := Lib.hid (R7.out.no f8); clear o8 f8)
        | (at_builtin; refine apM _ rfl (.tmp 62) (.tmp 63) rfl w8.heap.size _ [48, 120, 49] rfl (lit_ownM w8 [48, 120, 49] 3 rfl (by decide)) (some ⟨g, 0, none⟩) k k DL rfl (D8.out.no ((Fr.refl No w8).alloc _)) HSM.out (by simp) ?_; intro v9 w9 o9 g9 q9; have G9 := ((Fr.refl No w8).alloc (.cells (u8s [48, 120, 49]).toArray 5 (3, 4))).grown g9 (fun i e => .inr (Nat.le_of_eq (Option.some.inj (show some w8.heap.size = some i from e)))); have F9 := Lib.hid (F8.out.trans G9); have D9 := Lib.hid (D8.out.no G9); have R9 := Lib.hid (R8.out.no G9); obtain ⟨V9, k9, rfl, hr9, -⟩ := ownM_rd o9; rw [HLA.out] at hr9 ⊢; have X9 := Lib.hid hr9; clear o9 g9 q9 G9 hr9)
        | (go_at_call 12; (with_reducible refine (R1.out _ _ _ _ F9.out X9.out).mono ?_); rintro e w10 ⟨v10, rfl, o10, f10⟩; obtain ⟨V10, k10, rfl, -, -⟩ := Rd.of_own o10; have F10 := Lib.hid (F9.out.trans f10); have D10 := Lib.hid (D9.out.no f10); have R10 := Lib.hid (R9.out.no f10); clear o10 f10)
        | (at_builtin; refine apM _ rfl (.tmp 71) (.tmp 72) rfl w10.heap.size _ [49, 48, 49] rfl (lit_ownM w10 [49, 48, 49] 3 rfl (by decide)) (some ⟨g, 0, none⟩) k k DL rfl (D10.out.no ((Fr.refl No w10).alloc _)) HSM.out (by simp) ?_; intro v11 w11 o11 g11 q11; have G11 := ((Fr.refl No w10).alloc (.cells (u8s [49, 48, 49]).toArray 5 (3, 4))).grown g11 (fun i e => .inr (Nat.le_of_eq (Option.some.inj (show some w10.heap.size = some i from e)))); have F11 := Lib.hid (F10.out.trans G11); have D11 := Lib.hid (D10.out.no G11); have R11 := Lib.hid (R10.out.no G11); obtain ⟨V11, k11, rfl, hr11, -⟩ := ownM_rd o11; rw [HLA.out] at hr11 ⊢; have X11 := Lib.hid hr11; clear o11 g11 q11 G11 hr11)
        | (go_at_call 12; (with_reducible refine (R2.out _ _ _ _ F11.out X11.out).mono ?_); rintro e w12 ⟨v12, rfl, o12, f12⟩; obtain ⟨V12, k12, rfl, -, -⟩ := Rd.of_own o12; have F12 := Lib.hid (F11.out.trans f12); have D12 := Lib.hid (D11.out.no f12); have R12 := Lib.hid (R11.out.no f12); clear o12 f12)
        | (go_at_call 12; (with_reducible refine (RD.out 3 l 16 (HNN.out 3 (by simp) l) _ _ _ _ (F12.out.alloc _) (R12.out.no ((Fr.refl No w12).alloc _))).mono ?_); rintro e w13 ⟨v13, rfl, o13, f13⟩; obtain ⟨V13, k13, rfl, -, -⟩ := Rd.of_own o13; have G13 := ((Fr.refl No w12).alloc (.cells #[.int .i64 3, .int .i64 0, .int .i64 (-1), .int .i64 65] 3)).trans f13; have F13 := Lib.hid (F12.out.trans G13); have D13 := Lib.hid (D12.out.no G13); have R13 := Lib.hid (R12.out.no G13); clear o13 f13 G13)
        | (go_at_call 9; refine (AW.out _ F13.out).mono ?_; rintro e w14 ⟨rfl, f14⟩; have F14 := Lib.hid (F13.out.trans f14); have c1 := rd_str (R13.out.no f14); have c2 := rd_str (D13.out.no f14); rw [HL.out] at c1; rw [HSX.out] at c2; clear f14))
        go_ret
        exact ⟨rfl, F14.out⟩
      · replace ep : (IntKind.u64.wrap y).tmod 4 = 1 := ep
        clear wp wp2
        go_wp2_with (first
        | (go_at_call 14; refine (WR.out g _ FF.out RR.out).mono ?_; rintro e w5 ⟨v5, rfl, o5, f5⟩; obtain ⟨V5, k5, rfl, hr5, -⟩ := ownM_rd o5; have F5 := Lib.hid (FF.out.trans f5); have R5 := Lib.hid hr5; have D5 := Lib.hid (RR.out.no f5); clear o5 f5 hr5)
        | (go_at_call 22; refine (DG.out _).mono ?_; rintro e w6 ⟨rfl, f6⟩; have F6 := Lib.hid (F5.out.trans f6); have R6 := Lib.hid (R5.out.no f6); have D6 := Lib.hid (D5.out.no f6); clear f6)
        | (at_builtin; refine apM _ rfl (.tmp 53) (.tmp 54) rfl w6.heap.size _ [48, 48, 48] rfl (lit_ownM w6 [48, 48, 48] 3 rfl (by decide)) (some ⟨g, 0, none⟩) k k DL rfl (D6.out.no ((Fr.refl No w6).alloc _)) HSM.out (by simp) ?_; intro v7 w7 o7 g7 q7; have G7 := ((Fr.refl No w6).alloc (.cells (u8s [48, 48, 48]).toArray 5 (3, 4))).grown g7 (fun i e => .inr (Nat.le_of_eq (Option.some.inj (show some w6.heap.size = some i from e)))); have F7 := Lib.hid (F6.out.trans G7); have D7 := Lib.hid (D6.out.no G7); have R7 := Lib.hid (R6.out.no G7); obtain ⟨V7, k7, rfl, hr7, -⟩ := ownM_rd o7; rw [HLA.out] at hr7 ⊢; have X7 := Lib.hid hr7; clear o7 g7 q7 G7 hr7)
        | (go_at_call 12; (with_reducible refine (R0.out _ _ _ _ F7.out X7.out).mono ?_); rintro e w8 ⟨v8, rfl, o8, f8⟩; obtain ⟨V8, k8, rfl, -, -⟩ := Rd.of_own o8; have F8 := Lib.hid (F7.out.trans f8); have D8 := Lib.hid (D7.out.no f8); have R8 := Lib.hid (R7.out.no f8); clear o8 f8)
        | (at_builtin; refine apM _ rfl (.tmp 62) (.tmp 63) rfl w8.heap.size _ [48, 120, 49] rfl (lit_ownM w8 [48, 120, 49] 3 rfl (by decide)) (some ⟨g, 0, none⟩) k k DL rfl (D8.out.no ((Fr.refl No w8).alloc _)) HSM.out (by simp) ?_; intro v9 w9 o9 g9 q9; have G9 := ((Fr.refl No w8).alloc (.cells (u8s [48, 120, 49]).toArray 5 (3, 4))).grown g9 (fun i e => .inr (Nat.le_of_eq (Option.some.inj (show some w8.heap.size = some i from e)))); have F9 := Lib.hid (F8.out.trans G9); have D9 := Lib.hid (D8.out.no G9); have R9 := Lib.hid (R8.out.no G9); obtain ⟨V9, k9, rfl, hr9, -⟩ := ownM_rd o9; rw [HLA.out] at hr9 ⊢; have X9 := Lib.hid hr9; clear o9 g9 q9 G9 hr9)
        | (go_at_call 12; (with_reducible refine (R1.out _ _ _ _ F9.out X9.out).mono ?_); rintro e w10 ⟨v10, rfl, o10, f10⟩; obtain ⟨V10, k10, rfl, -, -⟩ := Rd.of_own o10; have F10 := Lib.hid (F9.out.trans f10); have D10 := Lib.hid (D9.out.no f10); have R10 := Lib.hid (R9.out.no f10); clear o10 f10)
        | (at_builtin; refine apM _ rfl (.tmp 71) (.tmp 72) rfl w10.heap.size _ [49, 48, 49] rfl (lit_ownM w10 [49, 48, 49] 3 rfl (by decide)) (some ⟨g, 0, none⟩) k k DL rfl (D10.out.no ((Fr.refl No w10).alloc _)) HSM.out (by simp) ?_; intro v11 w11 o11 g11 q11; have G11 := ((Fr.refl No w10).alloc (.cells (u8s [49, 48, 49]).toArray 5 (3, 4))).grown g11 (fun i e => .inr (Nat.le_of_eq (Option.some.inj (show some w10.heap.size = some i from e)))); have F11 := Lib.hid (F10.out.trans G11); have D11 := Lib.hid (D10.out.no G11); have R11 := Lib.hid (R10.out.no G11); obtain ⟨V11, k11, rfl, hr11, -⟩ := ownM_rd o11; rw [HLA.out] at hr11 ⊢; have X11 := Lib.hid hr11; clear o11 g11 q11 G11 hr11)
        | (go_at_call 12; (with_reducible refine (R2.out _ _ _ _ F11.out X11.out).mono ?_); rintro e w12 ⟨v12, rfl, o12, f12⟩; obtain ⟨V12, k12, rfl, -, -⟩ := Rd.of_own o12; have F12 := Lib.hid (F11.out.trans f12); have D12 := Lib.hid (D11.out.no f12); have R12 := Lib.hid (R11.out.no f12); clear o12 f12)
        | (go_at_call 12; (with_reducible refine (RD.out 0 l 16 (HNN.out 0 (by simp) l) _ _ _ _ (F12.out.alloc _) (R12.out.no ((Fr.refl No w12).alloc _))).mono ?_); rintro e w13 ⟨v13, rfl, o13, f13⟩; obtain ⟨V13, k13, rfl, -, -⟩ := Rd.of_own o13; have G13 := ((Fr.refl No w12).alloc (.cells #[.int .i64 3, .int .i64 0, .int .i64 (-1), .int .i64 65] 3)).trans f13; have F13 := Lib.hid (F12.out.trans G13); have D13 := Lib.hid (D12.out.no G13); have R13 := Lib.hid (R12.out.no G13); clear o13 f13 G13)
        | (go_at_call 9; refine (AW.out _ F13.out).mono ?_; rintro e w14 ⟨rfl, f14⟩; have F14 := Lib.hid (F13.out.trans f14); have c1 := rd_str (R13.out.no f14); have c2 := rd_str (D13.out.no f14); rw [HL.out] at c1; rw [HSX.out] at c2; clear f14))
        go_ret
        exact ⟨rfl, F14.out⟩
      · replace ep : (IntKind.u64.wrap y).tmod 4 = 2 := ep
        clear wp wp2
        go_wp2_with (first
        | (go_at_call 14; refine (WR.out g _ FF.out RR.out).mono ?_; rintro e w5 ⟨v5, rfl, o5, f5⟩; obtain ⟨V5, k5, rfl, hr5, -⟩ := ownM_rd o5; have F5 := Lib.hid (FF.out.trans f5); have R5 := Lib.hid hr5; have D5 := Lib.hid (RR.out.no f5); clear o5 f5 hr5)
        | (go_at_call 22; refine (DG.out _).mono ?_; rintro e w6 ⟨rfl, f6⟩; have F6 := Lib.hid (F5.out.trans f6); have R6 := Lib.hid (R5.out.no f6); have D6 := Lib.hid (D5.out.no f6); clear f6)
        | (at_builtin; refine apM _ rfl (.tmp 53) (.tmp 54) rfl w6.heap.size _ [48, 48, 48] rfl (lit_ownM w6 [48, 48, 48] 3 rfl (by decide)) (some ⟨g, 0, none⟩) k k DL rfl (D6.out.no ((Fr.refl No w6).alloc _)) HSM.out (by simp) ?_; intro v7 w7 o7 g7 q7; have G7 := ((Fr.refl No w6).alloc (.cells (u8s [48, 48, 48]).toArray 5 (3, 4))).grown g7 (fun i e => .inr (Nat.le_of_eq (Option.some.inj (show some w6.heap.size = some i from e)))); have F7 := Lib.hid (F6.out.trans G7); have D7 := Lib.hid (D6.out.no G7); have R7 := Lib.hid (R6.out.no G7); obtain ⟨V7, k7, rfl, hr7, -⟩ := ownM_rd o7; rw [HLA.out] at hr7 ⊢; have X7 := Lib.hid hr7; clear o7 g7 q7 G7 hr7)
        | (go_at_call 12; (with_reducible refine (R0.out _ _ _ _ F7.out X7.out).mono ?_); rintro e w8 ⟨v8, rfl, o8, f8⟩; obtain ⟨V8, k8, rfl, -, -⟩ := Rd.of_own o8; have F8 := Lib.hid (F7.out.trans f8); have D8 := Lib.hid (D7.out.no f8); have R8 := Lib.hid (R7.out.no f8); clear o8 f8)
        | (at_builtin; refine apM _ rfl (.tmp 62) (.tmp 63) rfl w8.heap.size _ [48, 120, 49] rfl (lit_ownM w8 [48, 120, 49] 3 rfl (by decide)) (some ⟨g, 0, none⟩) k k DL rfl (D8.out.no ((Fr.refl No w8).alloc _)) HSM.out (by simp) ?_; intro v9 w9 o9 g9 q9; have G9 := ((Fr.refl No w8).alloc (.cells (u8s [48, 120, 49]).toArray 5 (3, 4))).grown g9 (fun i e => .inr (Nat.le_of_eq (Option.some.inj (show some w8.heap.size = some i from e)))); have F9 := Lib.hid (F8.out.trans G9); have D9 := Lib.hid (D8.out.no G9); have R9 := Lib.hid (R8.out.no G9); obtain ⟨V9, k9, rfl, hr9, -⟩ := ownM_rd o9; rw [HLA.out] at hr9 ⊢; have X9 := Lib.hid hr9; clear o9 g9 q9 G9 hr9)
        | (go_at_call 12; (with_reducible refine (R1.out _ _ _ _ F9.out X9.out).mono ?_); rintro e w10 ⟨v10, rfl, o10, f10⟩; obtain ⟨V10, k10, rfl, -, -⟩ := Rd.of_own o10; have F10 := Lib.hid (F9.out.trans f10); have D10 := Lib.hid (D9.out.no f10); have R10 := Lib.hid (R9.out.no f10); clear o10 f10)
        | (at_builtin; refine apM _ rfl (.tmp 71) (.tmp 72) rfl w10.heap.size _ [49, 48, 49] rfl (lit_ownM w10 [49, 48, 49] 3 rfl (by decide)) (some ⟨g, 0, none⟩) k k DL rfl (D10.out.no ((Fr.refl No w10).alloc _)) HSM.out (by simp) ?_; intro v11 w11 o11 g11 q11; have G11 := ((Fr.refl No w10).alloc (.cells (u8s [49, 48, 49]).toArray 5 (3, 4))).grown g11 (fun i e => .inr (Nat.le_of_eq (Option.some.inj (show some w10.heap.size = some i from e)))); have F11 := Lib.hid (F10.out.trans G11); have D11 := Lib.hid (D10.out.no G11); have R11 := Lib.hid (R10.out.no G11); obtain ⟨V11, k11, rfl, hr11, -⟩ := ownM_rd o11; rw [HLA.out] at hr11 ⊢; have X11 := Lib.hid hr11; clear o11 g11 q11 G11 hr11)
        | (go_at_call 12; (with_reducible refine (R2.out _ _ _ _ F11.out X11.out).mono ?_); rintro e w12 ⟨v12, rfl, o12, f12⟩; obtain ⟨V12, k12, rfl, -, -⟩ := Rd.of_own o12; have F12 := Lib.hid (F11.out.trans f12); have D12 := Lib.hid (D11.out.no f12); have R12 := Lib.hid (R11.out.no f12); clear o12 f12)
        | (go_at_call 12; (with_reducible refine (RD.out (-1) l 16 (HNN.out (-1) (by simp) l) _ _ _ _ (F12.out.alloc _) (R12.out.no ((Fr.refl No w12).alloc _))).mono ?_); rintro e w13 ⟨v13, rfl, o13, f13⟩; obtain ⟨V13, k13, rfl, -, -⟩ := Rd.of_own o13; have G13 := ((Fr.refl No w12).alloc (.cells #[.int .i64 3, .int .i64 0, .int .i64 (-1), .int .i64 65] 3)).trans f13; have F13 := Lib.hid (F12.out.trans G13); have D13 := Lib.hid (D12.out.no G13); have R13 := Lib.hid (R12.out.no G13); clear o13 f13 G13)
        | (go_at_call 9; refine (AW.out _ F13.out).mono ?_; rintro e w14 ⟨rfl, f14⟩; have F14 := Lib.hid (F13.out.trans f14); have c1 := rd_str (R13.out.no f14); have c2 := rd_str (D13.out.no f14); rw [HL.out] at c1; rw [HSX.out] at c2; clear f14))
        go_ret
        exact ⟨rfl, F14.out⟩
      · replace ep : (IntKind.u64.wrap y).tmod 4 = 3 := ep
        clear wp wp2
        go_wp2_with (first
        | (go_at_call 14; refine (WR.out g _ FF.out RR.out).mono ?_; rintro e w5 ⟨v5, rfl, o5, f5⟩; obtain ⟨V5, k5, rfl, hr5, -⟩ := ownM_rd o5; have F5 := Lib.hid (FF.out.trans f5); have R5 := Lib.hid hr5; have D5 := Lib.hid (RR.out.no f5); clear o5 f5 hr5)
        | (go_at_call 22; refine (DG.out _).mono ?_; rintro e w6 ⟨rfl, f6⟩; have F6 := Lib.hid (F5.out.trans f6); have R6 := Lib.hid (R5.out.no f6); have D6 := Lib.hid (D5.out.no f6); clear f6)
        | (at_builtin; refine apM _ rfl (.tmp 53) (.tmp 54) rfl w6.heap.size _ [48, 48, 48] rfl (lit_ownM w6 [48, 48, 48] 3 rfl (by decide)) (some ⟨g, 0, none⟩) k k DL rfl (D6.out.no ((Fr.refl No w6).alloc _)) HSM.out (by simp) ?_; intro v7 w7 o7 g7 q7; have G7 := ((Fr.refl No w6).alloc (.cells (u8s [48, 48, 48]).toArray 5 (3, 4))).grown g7 (fun i e => .inr (Nat.le_of_eq (Option.some.inj (show some w6.heap.size = some i from e)))); have F7 := Lib.hid (F6.out.trans G7); have D7 := Lib.hid (D6.out.no G7); have R7 := Lib.hid (R6.out.no G7); obtain ⟨V7, k7, rfl, hr7, -⟩ := ownM_rd o7; rw [HLA.out] at hr7 ⊢; have X7 := Lib.hid hr7; clear o7 g7 q7 G7 hr7)
        | (go_at_call 12; (with_reducible refine (R0.out _ _ _ _ F7.out X7.out).mono ?_); rintro e w8 ⟨v8, rfl, o8, f8⟩; obtain ⟨V8, k8, rfl, -, -⟩ := Rd.of_own o8; have F8 := Lib.hid (F7.out.trans f8); have D8 := Lib.hid (D7.out.no f8); have R8 := Lib.hid (R7.out.no f8); clear o8 f8)
        | (at_builtin; refine apM _ rfl (.tmp 62) (.tmp 63) rfl w8.heap.size _ [48, 120, 49] rfl (lit_ownM w8 [48, 120, 49] 3 rfl (by decide)) (some ⟨g, 0, none⟩) k k DL rfl (D8.out.no ((Fr.refl No w8).alloc _)) HSM.out (by simp) ?_; intro v9 w9 o9 g9 q9; have G9 := ((Fr.refl No w8).alloc (.cells (u8s [48, 120, 49]).toArray 5 (3, 4))).grown g9 (fun i e => .inr (Nat.le_of_eq (Option.some.inj (show some w8.heap.size = some i from e)))); have F9 := Lib.hid (F8.out.trans G9); have D9 := Lib.hid (D8.out.no G9); have R9 := Lib.hid (R8.out.no G9); obtain ⟨V9, k9, rfl, hr9, -⟩ := ownM_rd o9; rw [HLA.out] at hr9 ⊢; have X9 := Lib.hid hr9; clear o9 g9 q9 G9 hr9)
        | (go_at_call 12; (with_reducible refine (R1.out _ _ _ _ F9.out X9.out).mono ?_); rintro e w10 ⟨v10, rfl, o10, f10⟩; obtain ⟨V10, k10, rfl, -, -⟩ := Rd.of_own o10; have F10 := Lib.hid (F9.out.trans f10); have D10 := Lib.hid (D9.out.no f10); have R10 := Lib.hid (R9.out.no f10); clear o10 f10)
        | (at_builtin; refine apM _ rfl (.tmp 71) (.tmp 72) rfl w10.heap.size _ [49, 48, 49] rfl (lit_ownM w10 [49, 48, 49] 3 rfl (by decide)) (some ⟨g, 0, none⟩) k k DL rfl (D10.out.no ((Fr.refl No w10).alloc _)) HSM.out (by simp) ?_; intro v11 w11 o11 g11 q11; have G11 := ((Fr.refl No w10).alloc (.cells (u8s [49, 48, 49]).toArray 5 (3, 4))).grown g11 (fun i e => .inr (Nat.le_of_eq (Option.some.inj (show some w10.heap.size = some i from e)))); have F11 := Lib.hid (F10.out.trans G11); have D11 := Lib.hid (D10.out.no G11); have R11 := Lib.hid (R10.out.no G11); obtain ⟨V11, k11, rfl, hr11, -⟩ := ownM_rd o11; rw [HLA.out] at hr11 ⊢; have X11 := Lib.hid hr11; clear o11 g11 q11 G11 hr11)
        | (go_at_call 12; (with_reducible refine (R2.out _ _ _ _ F11.out X11.out).mono ?_); rintro e w12 ⟨v12, rfl, o12, f12⟩; obtain ⟨V12, k12, rfl, -, -⟩ := Rd.of_own o12; have F12 := Lib.hid (F11.out.trans f12); have D12 := Lib.hid (D11.out.no f12); have R12 := Lib.hid (R11.out.no f12); clear o12 f12)
        | (go_at_call 12; (with_reducible refine (RD.out 65 l 16 (HNN.out 65 (by simp) l) _ _ _ _ (F12.out.alloc _) (R12.out.no ((Fr.refl No w12).alloc _))).mono ?_); rintro e w13 ⟨v13, rfl, o13, f13⟩; obtain ⟨V13, k13, rfl, -, -⟩ := Rd.of_own o13; have G13 := ((Fr.refl No w12).alloc (.cells #[.int .i64 3, .int .i64 0, .int .i64 (-1), .int .i64 65] 3)).trans f13; have F13 := Lib.hid (F12.out.trans G13); have D13 := Lib.hid (D12.out.no G13); have R13 := Lib.hid (R12.out.no G13); clear o13 f13 G13)
        | (go_at_call 9; refine (AW.out _ F13.out).mono ?_; rintro e w14 ⟨rfl, f14⟩; have F14 := Lib.hid (F13.out.trans f14); have c1 := rd_str (R13.out.no f14); have c2 := rd_str (D13.out.no f14); rw [HL.out] at c1; rw [HSX.out] at c2; clear f14))
        go_ret
        exact ⟨rfl, F14.out⟩
end Go.Proofs.YtijlekikmkeihaaDoor
