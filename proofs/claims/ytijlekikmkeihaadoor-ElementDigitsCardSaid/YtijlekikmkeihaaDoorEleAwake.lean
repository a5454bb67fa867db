/- What shows that package element does something. -/
import Derived.Test.YtijlekikmkeihaaDoorEleWrite
import Derived.Test.YtijlekikmkeihaaDoorEleRead
import Derived.Test.YtijlekikmkeihaaDoorRefEle5
import Derived.Lib.SlBytesConst
namespace Go.Proofs.YtijlekikmkeihaaDoor
open Go.RowKit
set_option maxHeartbeats 2000000
set_option linter.unusedVariables false

theorem rd_mark (w : World) (cs : List Value) (t : TypeId) (fz : Nat × Nat) (n : Nat) (hn : cs.length = n) (hm : n ≤ maxLen) : Rd (w.alloc (.cells cs.toArray t fz)) (some ⟨w.heap.size, 0, none⟩) n n cs := by
  refine ⟨hn, Nat.le_refl _, hm, (fun e => nomatch e), ?_⟩
  intro ad e j u hu
  injection e with e
  subst e
  rw [show (⟨w.heap.size, 0, none⟩ : Addr).add j = ⟨w.heap.size, j, none⟩ from by unfold Addr.add; split <;> simp_all]
  have h := heap_alloc_new w (.cells cs.toArray t fz)
  generalize w.alloc (.cells cs.toArray t fz) = w2 at h ⊢
  generalize w.heap.size = s at h ⊢
  simp [World.cell?, h, hu]

theorem el_w2 : wrtEl 2 [49, 50] = [48, 50, 49, 50] ∧ chkEl 2 [49, 50] = 0 := by decide +kernel
theorem el_r2 : reL 2 [48, 50, 49, 50, 122] = [49, 50] ∧ reN 2 [48, 50, 49, 50, 122] = 4 ∧ reE 2 [48, 50, 49, 50, 122] = 0 := by decide +kernel
theorem el_s60 : (elGet 60).spare = true := by decide +kernel
theorem str_fact {w : World} {A : Option Addr} {m c : Nat} {d : List UInt8} (hr : Rd w A m c (u8s d)) (hd : d.length ≤ 9223372036854775807) : ∃ S : ByteArray, (∀ u, Fr No w u → (convert 22 9 (.slice A m c)).run Tryd.prog u = .ok (.string S) u) ∧ (S.toList == d) = true ∧ S.size ≤ 9223372036854775807 ∧ S.size = d.length :=
  ⟨bstr d, fun u hf => rd_str (hr.no hf), by rw [bstr_toList]; exact beq_self_eq_true d, by rw [bstr_size]; exact hd, bstr_size d⟩
set_option maxRecDepth 20000 in
attribute [local irreducible] yielded in
theorem awake_ele (w : World) (hT : Tabs w := by repeat' first | with_reducible assumption | with_reducible apply Tabs.drew | with_reducible apply Tabs.drewN | with_reducible apply Tabs.alloc | refine Tabs.fr ?_ (by with_reducible assumption)) :
    Calls Tryd.prog 9 #[] w fun e w' => e = .returned (.bool true) ∧ Fr No w w' := by
  have r2 : ∀ u : World, Rd (u.alloc (.cells #[.int .u8 49, .int .u8 50] 5 (2, 3))) (some ⟨u.heap.size, 0, none⟩) 2 2 (u8s [49, 50]) := fun u => rd_mark u (u8s [49, 50]) _ _ 2 rfl (by simp [maxLen])
  have r5 : ∀ u : World, Rd (u.alloc (.cells #[.int .u8 48, .int .u8 50, .int .u8 49, .int .u8 50, .int .u8 122] 5 (5, 6))) (some ⟨u.heap.size, 0, none⟩) 5 5 (u8s [48, 50, 49, 50, 122]) := fun u => rd_mark u (u8s [48, 50, 49, 50, 122]) _ _ 5 rfl (by simp [maxLen])
  have W := fun u (hu : Fr No w u) => el_write_any 2 _ 2 [49, 50] (u.alloc (.cells #[.int .u8 49, .int .u8 50] 5 (2, 3))) (r2 u) (by simp) ((hT.fr hu).alloc)
  have R := fun u (hu : Fr No w u) => el_read_any 2 _ 5 [48, 50, 49, 50, 122] (u.alloc (.cells #[.int .u8 48, .int .u8 50, .int .u8 49, .int .u8 50, .int .u8 122] 5 (5, 6))) (r5 u) ((hT.fr hu).alloc)
  have S := fun u (hu : Fr No w u) => el_spare_any 60 u (hT.fr hu)
  rw [el_w2.1, el_w2.2] at W
  rw [el_r2.1, el_r2.2.1, el_r2.2.2] at R
  rw [el_s60] at S
  have W := Lib.hid W; have R := Lib.hid R; have S := Lib.hid S
  have F0 := Lib.hid (Fr.refl No w)
  have kc := fun (w : World) (C : Array Value) (n c : Nat) => Lib.run_convert_bytes_const (P := Tryd.prog) w 22 5 C n c Tryd.underlying22 Tryd.underlying5
  clear r2 r5 hT
  go_enter Tryd.func9, Tryd.ntmps9
  go_wp2_with (first
    | (go_at_call 14; refine (W.out _ F0.out).mono ?_; rintro e w1 ⟨v, rfl, ho, f1⟩; obtain ⟨V, vc, rfl, hr1, -⟩ := ownM_rd ho; replace hr1 : Rd w1 V 4 vc (u8s [48, 50, 49, 50]) := hr1; obtain ⟨S1, hs1, hq1, hz1, -⟩ := str_fact hr1 (by simp); have HS1 := Lib.hid hs1; have F1 := Lib.hid ((F0.out.alloc _).trans f1); clear ho hr1 hs1 f1)
    | (go_at_call 12; refine (R.out _ F1.out).mono ?_; rintro e w2 ⟨v2, rfl, ho, f2⟩; obtain ⟨V2, vc2, rfl, hr2, -⟩ := Rd.of_own ho; replace hr2 : Rd w2 V2 2 vc2 (u8s [49, 50]) := hr2; obtain ⟨S2, hs2, hq2, hz2, -⟩ := str_fact hr2 (by simp); have F2 := Lib.hid ((F1.out.alloc _).trans f2); have c2 := hs2 w2 (Fr.refl No w2); have c1 := HS1.out w2 (((Fr.refl No w1).alloc _).trans f2); clear ho hr2 hs2 f2)
    | (go_at_call 16; refine (S.out _ F2.out).mono ?_; rintro e w3 ⟨rfl, f3⟩; have F3 := Lib.hid (F2.out.trans f3); clear f3))
  go_ret
  exact ⟨rfl, F3.out⟩
end Go.Proofs.YtijlekikmkeihaaDoor
