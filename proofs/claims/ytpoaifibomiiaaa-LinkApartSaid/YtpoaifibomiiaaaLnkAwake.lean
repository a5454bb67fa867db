/- What shows that package link does something: it answers true. -/
import Derived.Test.YtpoaifibomiiaaaLnkProg
namespace Go.Proofs.Ytpoaifibomiiaaa
open Go.RowKit
set_option maxHeartbeats 1000000
set_option linter.unusedVariables false

set_option maxRecDepth 100000 in
theorem awake_any (w : World) : Calls Try.prog 8 #[] w fun e w' => e = .returned (.bool true) ∧ Fr No w w' := by
  have r3 : ∀ (u : World) (n : Nat), u.heap.size = n → Rd (u.alloc (.cells #[.int .u8 0, .int .u8 1, .int .u8 7] 5)) (some ⟨n, 0, none⟩) 3 3 (u8s [0, 1, 7]) := fun u n h => h ▸ Rd.lit u (u8s [0, 1, 7]) 5 3 rfl (by simp [maxLen])
  have r1 : ∀ (u : World) (n : Nat), u.heap.size = n → Rd (u.alloc (.cells #[.int .u8 7] 5)) (some ⟨n, 0, none⟩) 1 1 (u8s [7]) := fun u n h => h ▸ Rd.lit u (u8s [7]) 5 1 rfl (by simp [maxLen])
  have e1 : feedE (some []) [0, 1, 7] = 0 := by decide
  have e2 : feedF (some []) [0, 1, 7] = [[7]] := by decide
  have e3 : frmE [7] = 0 := by decide
  have e4 : frmL [7] = [0, 1, 7] := by decide
  have t1 : (([7] : List UInt8) == [7]) = true := by decide
  have t2 : (([0, 1, 7] : List UInt8) == [0, 1, 7]) = true := by decide
  have T1 := Lib.hid t1; have T2 := Lib.hid t2
  have hF := fun (u : World) p K A c (hA : ∀ ad : Addr, A = some ad → 0 < 3 → ¬ K ad.block) (h : Lnk u p K (some [])) (hb : Rd u A 3 c (u8s [0, 1, 7])) => link_feed_any A 3 c [0, 1, 7] u h hb (by omega) hA
  have hG := fun (u : World) A c (hb : Rd u A 1 c (u8s [7])) => link_frame_any A 1 c [7] u hb (by omega)
  rw [e1, e2] at hF
  rw [e3, e4] at hG
  have HF := Lib.hid hF; have HG := Lib.hid hG; have R1 := Lib.hid r1; have R3 := Lib.hid r3
  have tok1 : True := trivial
  clear t1 t2 e1 e2 e3 e4 hF hG r1 r3
  go_enter Try.func8, Try.ntmps8
  go_wp2_with (first
    | (go_at_call 7; refine (link_new_any _).mono ?_; rintro e w1 ⟨p, rfl, K, hl1, hK1, hf1⟩; obtain ⟨ad, rfl⟩ := hl1.ptr)
    | (go_at_call 13; refine (HF.out _ _ K _ _ (fun ad e _ x => by injection e with e; subst e; have := hl1.low _ x; exact absurd this (Nat.lt_irrefl _)) (hl1.no ((Fr.refl No _).alloc _)) (R3.out _ _ (by simp))).mono ?_; rintro e w2 ⟨B, m, d, rfl, K2, hL2, hl2, hf2, hk2⟩; obtain rfl : m = 1 := (by have := hL2.len; simpa using this.symm); obtain ⟨bd, E, m1, d1, rfl, hc2, hr2, -⟩ := hL2.at_ (i := 0) (by simp); obtain ⟨bd', hbd⟩ : ∃ bd', bd.add 0 = bd' := ⟨_, rfl⟩; rw [hbd] at hc2; rw [show u8s ([[(7 : UInt8)]][0]'(by simp)) = u8s [7] from rfl] at hr2)
    | (go_at_call 9; refine (HG.out _ _ _ (R1.out _ _ (by simp))).mono ?_; rintro e w3 ⟨C, m3, d3, rfl, hr3, hc3, hf3⟩; have hf23 : Fr No w2 w3 := ((Fr.refl No w2).alloc _).trans hf3; have hc23 := hf23.cell hc2 (fun x => x); have hr23 := hr2.no hf23)
    | (go_at_call 11; clear tok1; refine (bytes_any _ _ _ _ _ _ [7] [7] (w3.alloc _) (hr23.no ((Fr.refl No _).alloc _)) (R1.out _ _ (by simp))).mono ?_; rw [T1.out]; rintro e w' ⟨rfl, rfl⟩)
    | (go_at_call 11; refine (bytes_any _ _ _ _ _ _ [0, 1, 7] [0, 1, 7] _ (by exact hr3.no (((Fr.refl No _).alloc _).alloc _)) (R3.out _ _ (by simp))).mono ?_; rw [T2.out]; rintro e w' ⟨rfl, rfl⟩))
  go_ret
  refine ⟨rfl, ?_⟩
  have h2 : Fr No w w2 := (hf1.alloc _).trans_new hf2 (fun i hi => .inr (hK1 i hi))
  exact (((h2.trans hf23).alloc _).alloc _)
end Go.Proofs.Ytpoaifibomiiaaa
