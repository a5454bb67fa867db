/- The texts IsoNeeds, joined. -/
import Derived.Test.YtpkalnkeafggjaaGreatDoorK46
/- IsoNeeds: the walk, for any number: nine messages of three elements each. -/
namespace Go.Proofs.YtpkalnkeafggjaaGreatDoor
open Go.RowKit
set_option maxHeartbeats 4000000
set_option linter.unusedVariables false
set_option maxRecDepth 20000

abbrev d12 : List UInt8 := [48, 48, 48, 48, 48, 48, 48, 48, 48, 53, 48, 48]
abbrev d6 : List UInt8 := [48, 48, 48, 48, 48, 55]
theorem nd0 : pacE [50, 49, 120, 48] [(4, d12), (11, d6), (102, [122])] = 5 ∧ (pacR [50, 49, 120, 48] [(4, d12), (11, d6), (102, [122])]).length = 0 := by decide +kernel
theorem nd1 : pacE [50, 49, 48] [(4, d12), (11, d6), (102, [122])] = 5 ∧ (pacR [50, 49, 48] [(4, d12), (11, d6), (102, [122])]).length = 0 := by decide +kernel
theorem nd2 : pacE [50, 49, 48, 48] [(11, d6), (4, d12), (102, [122])] = 1 ∧ (pacR [50, 49, 48, 48] [(11, d6), (4, d12), (102, [122])]).length = 0 := by decide +kernel
theorem nd3 : pacE [50, 49, 48, 48] [(4, d12), (4, d6), (102, [122])] = 1 ∧ (pacR [50, 49, 48, 48] [(4, d12), (4, d6), (102, [122])]).length = 0 := by decide +kernel
theorem nd4 : pacE [50, 49, 48, 48] [(4, d12), (5, d6), (102, [122])] = 16 ∧ (pacR [50, 49, 48, 48] [(4, d12), (5, d6), (102, [122])]).length = 0 := by decide +kernel
theorem nd5 : pacE [50, 49, 48, 48] [(4, d12), (11, [55]), (102, [122])] = 17 ∧ (pacR [50, 49, 48, 48] [(4, d12), (11, [55]), (102, [122])]).length = 0 := by decide +kernel
theorem nd6 : pacE [50, 49, 48, 48] [(4, d12), (11, [48, 48, 48, 48, 48, 120]), (102, [122])] = 14 ∧ (pacR [50, 49, 48, 48] [(4, d12), (11, [48, 48, 48, 48, 48, 120]), (102, [122])]).length = 0 := by decide +kernel
theorem nd7 : pacE [50, 49, 48, 48] [(4, d12), (11, d6), (129, [122])] = 1 ∧ (pacR [50, 49, 48, 48] [(4, d12), (11, d6), (129, [122])]).length = 0 := by decide +kernel
theorem nd8 : pacE [50, 49, 48, 48] [(4, d12), (11, d6), (102, [122])] = 0 ∧ (pacR [50, 49, 48, 48] [(4, d12), (11, d6), (102, [122])]).length = 41 := by decide +kernel
/-- three elements in a row that is known whole -/
theorem row3 {u : World} {rb : Nat} {t : TypeId} {q1 q2 q3 : Int} {A1 A2 A3 : Option Addr} {n1 n2 n3 c1 c2 c3 : Nat} {l1 l2 l3 : List UInt8} (h : Bk u rb t [.int .i64 q1, .slice A1 n1 c1, .int .i64 q2, .slice A2 n2 c2, .int .i64 q3, .slice A3 n3 c3])
    (h1 : Rd u A1 n1 c1 (u8s l1)) (h2 : Rd u A2 n2 c2 (u8s l2)) (h3 : Rd u A3 n3 c3 (u8s l3)) (w1 : (Lit.int .i64 q1).wf = true) (w2 : (Lit.int .i64 q2).wf = true) (w3 : (Lit.int .i64 q3).wf = true) :
    RdI 2 TagI u (fun i => i < u.heap.size) (some ⟨rb, 0, none⟩) 3 3 [(q1, l1), (q2, l2), (q3, l3)] := by
  have lt63 : ∀ {A : Option Addr} {n c : Nat} {l : List UInt8}, Rd u A n c (u8s l) → n ≤ 9223372036854775807 := fun h => rd_len63 h
  refine ⟨⟨[.int .i64 q1, .slice A1 n1 c1, .int .i64 q2, .slice A2 n2 c2, .int .i64 q3, .slice A3 n3 c3], ⟨rfl, Nat.le_refl _, by simp [maxLen], (fun e => nomatch e), fun ad e j v hv => ?_⟩,
    [.int .i64 q1, .slice A1 n1 c1], [.int .i64 q2, .slice A2 n2 c2, .int .i64 q3, .slice A3 n3 c3], rfl, ⟨A1, n1, c1, rfl, h1, fun ad e h0 => h1.lt h0 ad e, w1, lt63 h1⟩,
    [.int .i64 q2, .slice A2 n2 c2], [.int .i64 q3, .slice A3 n3 c3], rfl, ⟨A2, n2, c2, rfl, h2, fun ad e h0 => h2.lt h0 ad e, w2, lt63 h2⟩,
    [.int .i64 q3, .slice A3 n3 c3], [], rfl, ⟨A3, n3, c3, rfl, h3, fun ad e h0 => h3.lt h0 ad e, w3, lt63 h3⟩, rfl⟩, fun ad e h0 => ?_⟩
  · injection e with e
    subst e
    rw [addr_at, h.cell j]
    exact hv
  · injection e with e
    subst e
    exact h.lt
/-- what a message of three answers -/
theorem need_pack {u : World} {S : ByteArray} {t : List UInt8} {rb : Nat} {es : List El} {E : Int} {k : Nat} (hT : Tabs u) (he : RdI 2 TagI u (fun i => i < u.heap.size) (some ⟨rb, 0, none⟩) 3 3 es) (hS : S.data.toList = t) (hz : S.size ≤ maxLen) (hE : pacE t es = E ∧ (pacR t es).length = k) :
    Calls Tryz.prog 10 #[.agg #[.string S, .slice (some ⟨rb, 0, none⟩) 3 3]] u fun e w' => ∃ V c, e = .returned (.tuple #[.slice V k c, .int .i64 E]) ∧ Fr No u w' := by
  refine (iso_pack_any S _ 3 3 es u he (by omega) hz hT).mono ?_
  rintro e w' ⟨v, rfl, ho, hf⟩
  obtain ⟨V, c, rfl, -, -⟩ := ownM_rd ho
  rw [hS] at *
  rw [hE.1, hE.2]
  exact ⟨V, c, rfl, hf⟩
/-- three elements in a row at rb, a message behind it -/
structure NdS (w u : World) (rb : Nat) (S : ByteArray) (q1 q2 q3 : Int) (A1 A2 A3 : Option Addr) (n1 n2 n3 : Nat) (l1 l2 l3 : List UInt8) : Prop where
  fr : Fr No w u
  lo : w.heap.size ≤ rb
  bm : Bk u (rb + 1) 25 [.string S, .slice (some ⟨rb, 0, none⟩) 3 3]
  br : Bk u rb 40 [.int .i64 q1, .slice A1 n1 n1, .int .i64 q2, .slice A2 n2 n2, .int .i64 q3, .slice A3 n3 n3]
  r1 : Rd u A1 n1 n1 (u8s l1)
  r2 : Rd u A2 n2 n2 (u8s l2)
  r3 : Rd u A3 n3 n3 (u8s l3)
  f1 : ∀ ad, A1 = some ad → ad.block ≠ rb ∧ ad.block ≠ rb + 1
  f2 : ∀ ad, A2 = some ad → ad.block ≠ rb ∧ ad.block ≠ rb + 1
  f3 : ∀ ad, A3 = some ad → ad.block ≠ rb ∧ ad.block ≠ rb + 1
section
variable {w u : World} {rb : Nat} {S : ByteArray} {q1 q2 q3 : Int} {A1 A2 A3 : Option Addr} {n1 n2 n3 : Nat} {l1 l2 l3 : List UInt8}
theorem NdS.setS (h : NdS w u rb S q1 q2 q3 A1 A2 A3 n1 n2 n3 l1 l2 l3) (S' : ByteArray) : NdS w (u.setCell ⟨rb + 1, 0, none⟩ (.string S')) rb S' q1 q2 q3 A1 A2 A3 n1 n2 n3 l1 l2 l3 := by
  have hf : Fr (Just (rb + 1)) u (u.setCell ⟨rb + 1, 0, none⟩ (.string S')) := (Fr.refl (Just (rb + 1)) u).setCell (p := ⟨rb + 1, 0, none⟩) (.inl (Just.at _)) _
  have lo := h.lo
  exact ⟨h.fr.trans_just hf (by omega), h.lo, h.bm.set_ 0 _, h.br.fr hf (fun e => by have : rb = rb + 1 := e; omega), rd_far h.r1 hf (fun _ ad e x => (h.f1 ad e).2 x), rd_far h.r2 hf (fun _ ad e x => (h.f2 ad e).2 x), rd_far h.r3 hf (fun _ ad e x => (h.f3 ad e).2 x), h.f1, h.f2, h.f3⟩
theorem NdS.setR (h : NdS w u rb S q1 q2 q3 A1 A2 A3 n1 n2 n3 l1 l2 l3) (o : Nat) (v : Value) : Fr No w (u.setCell ⟨rb, o, none⟩ v) ∧ Bk (u.setCell ⟨rb, o, none⟩ v) (rb + 1) 25 [.string S, .slice (some ⟨rb, 0, none⟩) 3 3] ∧ (∀ {A : Option Addr} {n : Nat} {l : List UInt8}, Rd u A n n (u8s l) → (∀ ad, A = some ad → ad.block ≠ rb ∧ ad.block ≠ rb + 1) → Rd (u.setCell ⟨rb, o, none⟩ v) A n n (u8s l)) := by
  have hf : Fr (Just rb) u (u.setCell ⟨rb, o, none⟩ v) := (Fr.refl (Just rb) u).setCell (p := ⟨rb, o, none⟩) (.inl (Just.at _)) _
  have lo := h.lo
  exact ⟨h.fr.trans_just hf lo, h.bm.fr hf (fun e => by have : rb + 1 = rb := e; omega), fun hr hb => rd_far hr hf (fun _ ad e x => (hb ad e).1 x)⟩
theorem NdS.set2 (h : NdS w u rb S q1 q2 q3 A1 A2 A3 n1 n2 n3 l1 l2 l3) (q : Int) : NdS w (u.setCell ⟨rb, 2, none⟩ (.int .i64 q)) rb S q1 q q3 A1 A2 A3 n1 n2 n3 l1 l2 l3 :=
  have k := h.setR 2 (.int .i64 q)
  ⟨k.1, h.lo, k.2.1, h.br.set_ 2 _, k.2.2 h.r1 h.f1, k.2.2 h.r2 h.f2, k.2.2 h.r3 h.f3, h.f1, h.f2, h.f3⟩
theorem NdS.set0 (h : NdS w u rb S q1 q2 q3 A1 A2 A3 n1 n2 n3 l1 l2 l3) (q : Int) : NdS w (u.setCell ⟨rb, 0, none⟩ (.int .i64 q)) rb S q q2 q3 A1 A2 A3 n1 n2 n3 l1 l2 l3 :=
  have k := h.setR 0 (.int .i64 q)
  ⟨k.1, h.lo, k.2.1, h.br.set_ 0 _, k.2.2 h.r1 h.f1, k.2.2 h.r2 h.f2, k.2.2 h.r3 h.f3, h.f1, h.f2, h.f3⟩
theorem NdS.set4 (h : NdS w u rb S q1 q2 q3 A1 A2 A3 n1 n2 n3 l1 l2 l3) (q : Int) : NdS w (u.setCell ⟨rb, 4, none⟩ (.int .i64 q)) rb S q1 q2 q A1 A2 A3 n1 n2 n3 l1 l2 l3 :=
  have k := h.setR 4 (.int .i64 q)
  ⟨k.1, h.lo, k.2.1, h.br.set_ 4 _, k.2.2 h.r1 h.f1, k.2.2 h.r2 h.f2, k.2.2 h.r3 h.f3, h.f1, h.f2, h.f3⟩
theorem NdS.set3 (h : NdS w u rb S q1 q2 q3 A1 A2 A3 n1 n2 n3 l1 l2 l3) {A : Option Addr} {n : Nat} {l : List UInt8} (hr : Rd u A n n (u8s l)) (hb : ∀ ad, A = some ad → ad.block ≠ rb ∧ ad.block ≠ rb + 1) : NdS w (u.setCell ⟨rb, 3, none⟩ (.slice A n n)) rb S q1 q2 q3 A1 A A3 n1 n n3 l1 l l3 :=
  have k := h.setR 3 (.slice A n n)
  ⟨k.1, h.lo, k.2.1, h.br.set_ 3 _, k.2.2 h.r1 h.f1, k.2.2 hr hb, k.2.2 h.r3 h.f3, h.f1, hb, h.f3⟩
theorem NdS.set1 (h : NdS w u rb S q1 q2 q3 A1 A2 A3 n1 n2 n3 l1 l2 l3) {A : Option Addr} {n : Nat} {l : List UInt8} (hr : Rd u A n n (u8s l)) (hb : ∀ ad, A = some ad → ad.block ≠ rb ∧ ad.block ≠ rb + 1) : NdS w (u.setCell ⟨rb, 1, none⟩ (.slice A n n)) rb S q1 q2 q3 A A2 A3 n n2 n3 l l2 l3 :=
  have k := h.setR 1 (.slice A n n)
  ⟨k.1, h.lo, k.2.1, h.br.set_ 1 _, k.2.2 hr hb, k.2.2 h.r2 h.f2, k.2.2 h.r3 h.f3, hb, h.f2, h.f3⟩
theorem NdS.no {u' : World} (h : NdS w u rb S q1 q2 q3 A1 A2 A3 n1 n2 n3 l1 l2 l3) (hf : Fr No u u') : NdS w u' rb S q1 q2 q3 A1 A2 A3 n1 n2 n3 l1 l2 l3 :=
  ⟨h.fr.trans hf, h.lo, h.bm.no hf, h.br.no hf, h.r1.no hf, h.r2.no hf, h.r3.no hf, h.f1, h.f2, h.f3⟩
theorem NdS.pack (h : NdS w u rb S q1 q2 q3 A1 A2 A3 n1 n2 n3 l1 l2 l3) (hT : ∀ u, Fr No w u → Tabs u) {t : List UInt8} {E : Int} {k : Nat} (hS : S.data.toList = t) (hz : S.size ≤ maxLen) (hE : pacE t [(q1, l1), (q2, l2), (q3, l3)] = E ∧ (pacR t [(q1, l1), (q2, l2), (q3, l3)]).length = k)
    (w1 : (Lit.int .i64 q1).wf = true) (w2 : (Lit.int .i64 q2).wf = true) (w3 : (Lit.int .i64 q3).wf = true) :
    Calls Tryz.prog 10 #[.agg #[.string S, .slice (some ⟨rb, 0, none⟩) 3 3]] u fun e w' => ∃ V c, e = .returned (.tuple #[.slice V k c, .int .i64 E]) ∧ Fr No w w' := by
  refine (need_pack (hT u h.fr) (row3 h.br h.r1 h.r2 h.r3 w1 w2 w3) hS hz hE).mono ?_
  rintro e w' ⟨V, c, rfl, hf⟩
  exact ⟨V, c, rfl, h.fr.trans hf⟩
end
theorem nds_start (w : World) : NdS w (((((w.alloc (.cells #[.int .u8 48, .int .u8 48, .int .u8 48, .int .u8 48, .int .u8 48, .int .u8 48, .int .u8 48, .int .u8 48, .int .u8 48, .int .u8 53, .int .u8 48, .int .u8 48] 5 (12, 13))).alloc (.cells #[.int .u8 48, .int .u8 48, .int .u8 48, .int .u8 48, .int .u8 48, .int .u8 55] 5 (6, 7))).alloc (.cells #[.int .u8 122] 5 (1, 2))).alloc (.cells #[.int .i64 4, .slice (some ⟨w.heap.size, 0, none⟩) 12 12, .int .i64 11, .slice (some ⟨w.heap.size + 1, 0, none⟩) 6 6, .int .i64 102, .slice (some ⟨w.heap.size + 1 + 1, 0, none⟩) 1 1] 40)).alloc (.cells #[.string ⟨#[50, 49, 48, 48]⟩, .slice (some ⟨w.heap.size + 1 + 1 + 1, 0, none⟩) 3 3] 25)) (w.heap.size + 1 + 1 + 1) ⟨#[50, 49, 48, 48]⟩ 4 11 102 (some ⟨w.heap.size, 0, none⟩) (some ⟨w.heap.size + 1, 0, none⟩) (some ⟨w.heap.size + 1 + 1, 0, none⟩) 12 6 1 d12 d6 [122] := by
  have r1 : Rd (w.alloc (.cells #[.int .u8 48, .int .u8 48, .int .u8 48, .int .u8 48, .int .u8 48, .int .u8 48, .int .u8 48, .int .u8 48, .int .u8 48, .int .u8 53, .int .u8 48, .int .u8 48] 5 (12, 13))) (some ⟨w.heap.size, 0, none⟩) 12 12 (u8s d12) := rd_mark w (u8s d12) _ _ 12 rfl (by simp [maxLen])
  have z1 : (w.alloc (.cells #[.int .u8 48, .int .u8 48, .int .u8 48, .int .u8 48, .int .u8 48, .int .u8 48, .int .u8 48, .int .u8 48, .int .u8 48, .int .u8 53, .int .u8 48, .int .u8 48] 5 (12, 13))).heap.size = w.heap.size + 1 := by simp
  have r2 := rd_mark (w.alloc (.cells #[.int .u8 48, .int .u8 48, .int .u8 48, .int .u8 48, .int .u8 48, .int .u8 48, .int .u8 48, .int .u8 48, .int .u8 48, .int .u8 53, .int .u8 48, .int .u8 48] 5 (12, 13))) (u8s d6) 5 (6, 7) 6 rfl (by simp [maxLen])
  rw [z1] at r2
  have z2 : ((w.alloc (.cells #[.int .u8 48, .int .u8 48, .int .u8 48, .int .u8 48, .int .u8 48, .int .u8 48, .int .u8 48, .int .u8 48, .int .u8 48, .int .u8 53, .int .u8 48, .int .u8 48] 5 (12, 13))).alloc (.cells #[.int .u8 48, .int .u8 48, .int .u8 48, .int .u8 48, .int .u8 48, .int .u8 55] 5 (6, 7))).heap.size = w.heap.size + 1 + 1 := by simp
  have r3 := rd_mark ((w.alloc (.cells #[.int .u8 48, .int .u8 48, .int .u8 48, .int .u8 48, .int .u8 48, .int .u8 48, .int .u8 48, .int .u8 48, .int .u8 48, .int .u8 53, .int .u8 48, .int .u8 48] 5 (12, 13))).alloc (.cells #[.int .u8 48, .int .u8 48, .int .u8 48, .int .u8 48, .int .u8 48, .int .u8 55] 5 (6, 7))) (u8s [122]) 5 (1, 2) 1 rfl (by simp [maxLen])
  rw [z2] at r3
  have z3 : (((w.alloc (.cells #[.int .u8 48, .int .u8 48, .int .u8 48, .int .u8 48, .int .u8 48, .int .u8 48, .int .u8 48, .int .u8 48, .int .u8 48, .int .u8 53, .int .u8 48, .int .u8 48] 5 (12, 13))).alloc (.cells #[.int .u8 48, .int .u8 48, .int .u8 48, .int .u8 48, .int .u8 48, .int .u8 55] 5 (6, 7))).alloc (.cells #[.int .u8 122] 5 (1, 2))).heap.size = w.heap.size + 1 + 1 + 1 := by simp
  have b4 := Bk.new (((w.alloc (.cells #[.int .u8 48, .int .u8 48, .int .u8 48, .int .u8 48, .int .u8 48, .int .u8 48, .int .u8 48, .int .u8 48, .int .u8 48, .int .u8 53, .int .u8 48, .int .u8 48] 5 (12, 13))).alloc (.cells #[.int .u8 48, .int .u8 48, .int .u8 48, .int .u8 48, .int .u8 48, .int .u8 55] 5 (6, 7))).alloc (.cells #[.int .u8 122] 5 (1, 2))) 40 #[.int .i64 4, .slice (some ⟨w.heap.size, 0, none⟩) 12 12, .int .i64 11, .slice (some ⟨w.heap.size + 1, 0, none⟩) 6 6, .int .i64 102, .slice (some ⟨w.heap.size + 1 + 1, 0, none⟩) 1 1]
  rw [z3] at b4
  have z4 : ((((w.alloc (.cells #[.int .u8 48, .int .u8 48, .int .u8 48, .int .u8 48, .int .u8 48, .int .u8 48, .int .u8 48, .int .u8 48, .int .u8 48, .int .u8 53, .int .u8 48, .int .u8 48] 5 (12, 13))).alloc (.cells #[.int .u8 48, .int .u8 48, .int .u8 48, .int .u8 48, .int .u8 48, .int .u8 55] 5 (6, 7))).alloc (.cells #[.int .u8 122] 5 (1, 2))).alloc (.cells #[.int .i64 4, .slice (some ⟨w.heap.size, 0, none⟩) 12 12, .int .i64 11, .slice (some ⟨w.heap.size + 1, 0, none⟩) 6 6, .int .i64 102, .slice (some ⟨w.heap.size + 1 + 1, 0, none⟩) 1 1] 40)).heap.size = w.heap.size + 1 + 1 + 1 + 1 := by simp
  have b5 := Bk.new ((((w.alloc (.cells #[.int .u8 48, .int .u8 48, .int .u8 48, .int .u8 48, .int .u8 48, .int .u8 48, .int .u8 48, .int .u8 48, .int .u8 48, .int .u8 53, .int .u8 48, .int .u8 48] 5 (12, 13))).alloc (.cells #[.int .u8 48, .int .u8 48, .int .u8 48, .int .u8 48, .int .u8 48, .int .u8 55] 5 (6, 7))).alloc (.cells #[.int .u8 122] 5 (1, 2))).alloc (.cells #[.int .i64 4, .slice (some ⟨w.heap.size, 0, none⟩) 12 12, .int .i64 11, .slice (some ⟨w.heap.size + 1, 0, none⟩) 6 6, .int .i64 102, .slice (some ⟨w.heap.size + 1 + 1, 0, none⟩) 1 1] 40)) 25 #[.string ⟨#[50, 49, 48, 48]⟩, .slice (some ⟨w.heap.size + 1 + 1 + 1, 0, none⟩) 3 3]
  rw [z4] at b5
  have f2 : Fr No (w.alloc (.cells #[.int .u8 48, .int .u8 48, .int .u8 48, .int .u8 48, .int .u8 48, .int .u8 48, .int .u8 48, .int .u8 48, .int .u8 48, .int .u8 53, .int .u8 48, .int .u8 48] 5 (12, 13))) ((w.alloc (.cells #[.int .u8 48, .int .u8 48, .int .u8 48, .int .u8 48, .int .u8 48, .int .u8 48, .int .u8 48, .int .u8 48, .int .u8 48, .int .u8 53, .int .u8 48, .int .u8 48] 5 (12, 13))).alloc (.cells #[.int .u8 48, .int .u8 48, .int .u8 48, .int .u8 48, .int .u8 48, .int .u8 55] 5 (6, 7))) := (Fr.refl No _).alloc _
  have f3 : Fr No ((w.alloc (.cells #[.int .u8 48, .int .u8 48, .int .u8 48, .int .u8 48, .int .u8 48, .int .u8 48, .int .u8 48, .int .u8 48, .int .u8 48, .int .u8 53, .int .u8 48, .int .u8 48] 5 (12, 13))).alloc (.cells #[.int .u8 48, .int .u8 48, .int .u8 48, .int .u8 48, .int .u8 48, .int .u8 55] 5 (6, 7))) (((w.alloc (.cells #[.int .u8 48, .int .u8 48, .int .u8 48, .int .u8 48, .int .u8 48, .int .u8 48, .int .u8 48, .int .u8 48, .int .u8 48, .int .u8 53, .int .u8 48, .int .u8 48] 5 (12, 13))).alloc (.cells #[.int .u8 48, .int .u8 48, .int .u8 48, .int .u8 48, .int .u8 48, .int .u8 55] 5 (6, 7))).alloc (.cells #[.int .u8 122] 5 (1, 2))) := (Fr.refl No _).alloc _
  have f4 : Fr No (((w.alloc (.cells #[.int .u8 48, .int .u8 48, .int .u8 48, .int .u8 48, .int .u8 48, .int .u8 48, .int .u8 48, .int .u8 48, .int .u8 48, .int .u8 53, .int .u8 48, .int .u8 48] 5 (12, 13))).alloc (.cells #[.int .u8 48, .int .u8 48, .int .u8 48, .int .u8 48, .int .u8 48, .int .u8 55] 5 (6, 7))).alloc (.cells #[.int .u8 122] 5 (1, 2))) ((((w.alloc (.cells #[.int .u8 48, .int .u8 48, .int .u8 48, .int .u8 48, .int .u8 48, .int .u8 48, .int .u8 48, .int .u8 48, .int .u8 48, .int .u8 53, .int .u8 48, .int .u8 48] 5 (12, 13))).alloc (.cells #[.int .u8 48, .int .u8 48, .int .u8 48, .int .u8 48, .int .u8 48, .int .u8 55] 5 (6, 7))).alloc (.cells #[.int .u8 122] 5 (1, 2))).alloc (.cells #[.int .i64 4, .slice (some ⟨w.heap.size, 0, none⟩) 12 12, .int .i64 11, .slice (some ⟨w.heap.size + 1, 0, none⟩) 6 6, .int .i64 102, .slice (some ⟨w.heap.size + 1 + 1, 0, none⟩) 1 1] 40)) := (Fr.refl No _).alloc _
  have f5 : Fr No ((((w.alloc (.cells #[.int .u8 48, .int .u8 48, .int .u8 48, .int .u8 48, .int .u8 48, .int .u8 48, .int .u8 48, .int .u8 48, .int .u8 48, .int .u8 53, .int .u8 48, .int .u8 48] 5 (12, 13))).alloc (.cells #[.int .u8 48, .int .u8 48, .int .u8 48, .int .u8 48, .int .u8 48, .int .u8 55] 5 (6, 7))).alloc (.cells #[.int .u8 122] 5 (1, 2))).alloc (.cells #[.int .i64 4, .slice (some ⟨w.heap.size, 0, none⟩) 12 12, .int .i64 11, .slice (some ⟨w.heap.size + 1, 0, none⟩) 6 6, .int .i64 102, .slice (some ⟨w.heap.size + 1 + 1, 0, none⟩) 1 1] 40)) (((((w.alloc (.cells #[.int .u8 48, .int .u8 48, .int .u8 48, .int .u8 48, .int .u8 48, .int .u8 48, .int .u8 48, .int .u8 48, .int .u8 48, .int .u8 53, .int .u8 48, .int .u8 48] 5 (12, 13))).alloc (.cells #[.int .u8 48, .int .u8 48, .int .u8 48, .int .u8 48, .int .u8 48, .int .u8 55] 5 (6, 7))).alloc (.cells #[.int .u8 122] 5 (1, 2))).alloc (.cells #[.int .i64 4, .slice (some ⟨w.heap.size, 0, none⟩) 12 12, .int .i64 11, .slice (some ⟨w.heap.size + 1, 0, none⟩) 6 6, .int .i64 102, .slice (some ⟨w.heap.size + 1 + 1, 0, none⟩) 1 1] 40)).alloc (.cells #[.string ⟨#[50, 49, 48, 48]⟩, .slice (some ⟨w.heap.size + 1 + 1 + 1, 0, none⟩) 3 3] 25)) := (Fr.refl No _).alloc _
  have f1 : Fr No w (w.alloc (.cells #[.int .u8 48, .int .u8 48, .int .u8 48, .int .u8 48, .int .u8 48, .int .u8 48, .int .u8 48, .int .u8 48, .int .u8 48, .int .u8 53, .int .u8 48, .int .u8 48] 5 (12, 13))) := (Fr.refl No _).alloc _
  refine ⟨(((f1.trans f2).trans f3).trans f4).trans f5, by omega, b5, b4.no f5, (((r1.no f2).no f3).no f4).no f5, ((r2.no f3).no f4).no f5, (r3.no f4).no f5, fun ad e => ?_, fun ad e => ?_, fun ad e => ?_⟩
  all_goals
    injection e with e
    subst e
    simp
    try omega
attribute [local irreducible] yielded in
theorem isoNeeds_walk {what : Int} (w : World) (hT : Tabs w) (hw : (Lit.int .i64 what).wf = true) :
    Calls Tryz.prog 5 #[.int .i64 what] w fun e w' => e = .returned (.bool true) ∧ Fr No w w' := by
  have AW := Lib.hid (fun u (hu : Fr No w u) => awake_iso u (hT.fr hu))
  have HT := Lib.hid (fun u (hu : Fr No w u) => hT.fr hu)
  have hst := nds_start w
  obtain ⟨i, hi9, ei⟩ := umodI what 9 (by decide) (by decide)
  have kc : ∀ (u : World) (C : Array Value) (n c g : Nat), u.heap.size = g → (convert 22 22 (.slice (some ⟨g, 0, none⟩) n c)).run Tryz.prog (u.alloc (.cells C 5)) = .ok (.slice (some ⟨g, 0, none⟩) n c) (u.alloc (.cells C 5 (C.size, C.size + 1))) := fun u C n c g hg => by
    subst hg
    exact Lib.run_convert_bytes_const (P := Tryz.prog) u 22 5 C n c Tryz.underlying22 Tryz.underlying5
  clear hT
  have HST := Lib.hid hst
  clear hst
  have hi : i = 0 ∨ i = 1 ∨ i = 2 ∨ i = 3 ∨ i = 4 ∨ i = 5 ∨ i = 6 ∨ i = 7 ∨ i = 8 := by omega
  have HI := Lib.hid hi; have EI := Lib.hid ei
  clear hi ei hi9
  go_enter Tryz.func5, Tryz.ntmps5
  go_upto_region 3 with fail
  generalize hW : (((((w.alloc (.cells #[.int .u8 48, .int .u8 48, .int .u8 48, .int .u8 48, .int .u8 48, .int .u8 48, .int .u8 48, .int .u8 48, .int .u8 48, .int .u8 53, .int .u8 48, .int .u8 48] 5 (12, 13))).alloc (.cells #[.int .u8 48, .int .u8 48, .int .u8 48, .int .u8 48, .int .u8 48, .int .u8 55] 5 (6, 7))).alloc (.cells #[.int .u8 122] 5 (1, 2))).alloc (.cells #[.int .i64 4, .slice (some ⟨w.heap.size, 0, none⟩) 12 12, .int .i64 11, .slice (some ⟨w.heap.size + 1, 0, none⟩) 6 6, .int .i64 102, .slice (some ⟨w.heap.size + 1 + 1, 0, none⟩) 1 1] 40)).alloc (.cells #[.string ⟨#[50, 49, 48, 48]⟩, .slice (some ⟨w.heap.size + 1 + 1 + 1, 0, none⟩) 3 3] 25)) = W5 at HST ⊢
  obtain ⟨rb, hrb⟩ : ∃ rb, w.heap.size + 1 + 1 + 1 = rb := ⟨_, rfl⟩
  rw [hrb] at HST ⊢
  clear hW hrb
  have hst := HST.out
  obtain ⟨m0, m1⟩ := is_cells hst.bm
  have zm := Bk.frozen hst.bm 0
  have e0 := Bk.cell hst.br 0; have e1 := Bk.cell hst.br 1; have e2 := Bk.cell hst.br 2; have e3 := Bk.cell hst.br 3; have e4 := Bk.cell hst.br 4; have e5 := Bk.cell hst.br 5
  have y0 := Bk.frozen hst.br 0; have y1 := Bk.frozen hst.br 1; have y2 := Bk.frozen hst.br 2; have y3 := Bk.frozen hst.br 3; have y4 := Bk.frozen hst.br 4
  clear hst
  rcases HI.out with rfl | rfl | rfl | rfl | rfl | rfl | rfl | rfl | rfl
  · have ei : (IntKind.u64.wrap what).tmod 9 = 0 := EI.out
    go_upto_region 21 with fail
    have hn := HST.out.setS ⟨#[50, 49, 120, 48]⟩
    generalize W5.setCell ⟨rb + 1, 0, none⟩ (.string ⟨#[50, 49, 120, 48]⟩) = U at hn ⊢
    clear m0 m1 zm e0 e1 e2 e3 e4 e5 y0 y1 y2 y3 y4
    obtain ⟨m0, m1⟩ := is_cells hn.bm
    have PK := Lib.hid (hn.pack HT.out (t := [50, 49, 120, 48]) rfl (by decide) nd0 (by decide) (by decide) (by decide))
    clear hn ei
    go_wp2_with (first
      | (go_at_call 10; refine (PK.out).mono ?_; rintro e w6 ⟨V, c, rfl, f6⟩; have F6 := Lib.hid f6; clear f6)
      | (go_at_call 6; refine (AW.out _ F6.out).mono ?_; rintro e w7 ⟨rfl, f7⟩; have F7 := Lib.hid (F6.out.trans f7); clear f7))
    go_ret
    exact ⟨rfl, F7.out⟩
  · have ei : (IntKind.u64.wrap what).tmod 9 = 1 := EI.out
    go_upto_region 21 with fail
    have hn := HST.out.setS ⟨#[50, 49, 48]⟩
    generalize W5.setCell ⟨rb + 1, 0, none⟩ (.string ⟨#[50, 49, 48]⟩) = U at hn ⊢
    clear m0 m1 zm e0 e1 e2 e3 e4 e5 y0 y1 y2 y3 y4
    obtain ⟨m0, m1⟩ := is_cells hn.bm
    have PK := Lib.hid (hn.pack HT.out (t := [50, 49, 48]) rfl (by decide) nd1 (by decide) (by decide) (by decide))
    clear hn ei
    go_wp2_with (first
      | (go_at_call 10; refine (PK.out).mono ?_; rintro e w6 ⟨V, c, rfl, f6⟩; have F6 := Lib.hid f6; clear f6)
      | (go_at_call 6; refine (AW.out _ F6.out).mono ?_; rintro e w7 ⟨rfl, f7⟩; have F7 := Lib.hid (F6.out.trans f7); clear f7))
    go_ret
    exact ⟨rfl, F7.out⟩
  · have ei : (IntKind.u64.wrap what).tmod 9 = 2 := EI.out
    go_upto_region 10 with fail
    clear kc
    go_region
    have x0 := HST.out.set0 11
    have x1 := x0.set1 x0.r2 x0.f2
    have ra := (x0.setR 1 (.slice (some ⟨w.heap.size + 1, 0, none⟩) 6 6)).2.2 x0.r1 x0.f1
    have x2 := x1.set2 4
    have rb2 := (x1.setR 2 (.int .i64 4)).2.2 ra x0.f1
    have hn := (x2.set3 rb2 x0.f1).no ((Fr.refl No _).drew)
    clear x0 x1 ra x2 rb2
    go_upto_region 21 with fail
    generalize ((((W5.setCell ⟨rb, 0, none⟩ (.int .i64 11)).setCell ⟨rb, 1, none⟩ (.slice (some ⟨w.heap.size + 1, 0, none⟩) 6 6)).setCell ⟨rb, 2, none⟩ (.int .i64 4)).setCell ⟨rb, 3, none⟩ (.slice (some ⟨w.heap.size, 0, none⟩) 12 12)).drew = U at hn ⊢
    clear m0 m1 zm e0 e1 e2 e3 e4 e5 y0 y1 y2 y3 y4
    obtain ⟨m0, m1⟩ := is_cells hn.bm
    have PK := Lib.hid (hn.pack HT.out (t := [50, 49, 48, 48]) rfl (by decide) nd2 (by decide) (by decide) (by decide))
    clear hn ei
    go_wp2_with (first
      | (go_at_call 10; refine (PK.out).mono ?_; rintro e w6 ⟨V, c, rfl, f6⟩; have F6 := Lib.hid f6; clear f6)
      | (go_at_call 6; refine (AW.out _ F6.out).mono ?_; rintro e w7 ⟨rfl, f7⟩; have F7 := Lib.hid (F6.out.trans f7); clear f7))
    go_ret
    exact ⟨rfl, F7.out⟩
  · have ei : (IntKind.u64.wrap what).tmod 9 = 3 := EI.out
    go_upto_region 21 with fail
    have hn := HST.out.set2 4
    generalize W5.setCell ⟨rb, 2, none⟩ (.int .i64 4) = U at hn ⊢
    clear m0 m1 zm e0 e1 e2 e3 e4 e5 y0 y1 y2 y3 y4
    obtain ⟨m0, m1⟩ := is_cells hn.bm
    have PK := Lib.hid (hn.pack HT.out (t := [50, 49, 48, 48]) rfl (by decide) nd3 (by decide) (by decide) (by decide))
    clear hn ei
    go_wp2_with (first
      | (go_at_call 10; refine (PK.out).mono ?_; rintro e w6 ⟨V, c, rfl, f6⟩; have F6 := Lib.hid f6; clear f6)
      | (go_at_call 6; refine (AW.out _ F6.out).mono ?_; rintro e w7 ⟨rfl, f7⟩; have F7 := Lib.hid (F6.out.trans f7); clear f7))
    go_ret
    exact ⟨rfl, F7.out⟩
  · have ei : (IntKind.u64.wrap what).tmod 9 = 4 := EI.out
    go_upto_region 21 with fail
    have hn := HST.out.set2 5
    generalize W5.setCell ⟨rb, 2, none⟩ (.int .i64 5) = U at hn ⊢
    clear m0 m1 zm e0 e1 e2 e3 e4 e5 y0 y1 y2 y3 y4
    obtain ⟨m0, m1⟩ := is_cells hn.bm
    have PK := Lib.hid (hn.pack HT.out (t := [50, 49, 48, 48]) rfl (by decide) nd4 (by decide) (by decide) (by decide))
    clear hn ei
    go_wp2_with (first
      | (go_at_call 10; refine (PK.out).mono ?_; rintro e w6 ⟨V, c, rfl, f6⟩; have F6 := Lib.hid f6; clear f6)
      | (go_at_call 6; refine (AW.out _ F6.out).mono ?_; rintro e w7 ⟨rfl, f7⟩; have F7 := Lib.hid (F6.out.trans f7); clear f7))
    go_ret
    exact ⟨rfl, F7.out⟩
  · have ei : (IntKind.u64.wrap what).tmod 9 = 5 := EI.out
    have y3a := Bk.frozen (HST.out.br.no ((Fr.refl No W5).alloc (.cells #[.int .u8 55] 5 (1, 2)))) 3
    have e3a := Bk.cell (HST.out.br.no ((Fr.refl No W5).alloc (.cells #[.int .u8 55] 5 (1, 2)))) 3
    go_upto_region 21 with fail
    have hn := (HST.out.no (show Fr No W5 (W5.alloc (.cells #[.int .u8 55] 5 (1, 2))) from (Fr.refl No W5).alloc _)).set3 (show Rd (W5.alloc (.cells #[.int .u8 55] 5 (1, 2))) (some ⟨W5.heap.size, 0, none⟩) 1 1 (u8s [55]) from rd_mark W5 (u8s [55]) 5 (1, 2) 1 rfl (by simp [maxLen])) (fun ad e => by injection e with e; subst e; have := HST.out.bm.lt; exact ⟨by show W5.heap.size ≠ rb; omega, by show W5.heap.size ≠ rb + 1; omega⟩)
    generalize (W5.alloc (.cells #[.int .u8 55] 5 (1, 2))).setCell ⟨rb, 3, none⟩ (.slice (some ⟨W5.heap.size, 0, none⟩) 1 1) = U at hn ⊢
    clear m0 m1 zm e0 e1 e2 e3 e4 e5 y0 y1 y2 y3 y4
    clear y3a e3a
    obtain ⟨m0, m1⟩ := is_cells hn.bm
    have PK := Lib.hid (hn.pack HT.out (t := [50, 49, 48, 48]) rfl (by decide) nd5 (by decide) (by decide) (by decide))
    clear hn ei
    go_wp2_with (first
      | (go_at_call 10; refine (PK.out).mono ?_; rintro e w6 ⟨V, c, rfl, f6⟩; have F6 := Lib.hid f6; clear f6)
      | (go_at_call 6; refine (AW.out _ F6.out).mono ?_; rintro e w7 ⟨rfl, f7⟩; have F7 := Lib.hid (F6.out.trans f7); clear f7))
    go_ret
    exact ⟨rfl, F7.out⟩
  · have ei : (IntKind.u64.wrap what).tmod 9 = 6 := EI.out
    have y3a := Bk.frozen (HST.out.br.no ((Fr.refl No W5).alloc (.cells #[.int .u8 48, .int .u8 48, .int .u8 48, .int .u8 48, .int .u8 48, .int .u8 120] 5 (6, 7)))) 3
    have e3a := Bk.cell (HST.out.br.no ((Fr.refl No W5).alloc (.cells #[.int .u8 48, .int .u8 48, .int .u8 48, .int .u8 48, .int .u8 48, .int .u8 120] 5 (6, 7)))) 3
    go_upto_region 21 with fail
    have hn := (HST.out.no (show Fr No W5 (W5.alloc (.cells #[.int .u8 48, .int .u8 48, .int .u8 48, .int .u8 48, .int .u8 48, .int .u8 120] 5 (6, 7))) from (Fr.refl No W5).alloc _)).set3 (show Rd (W5.alloc (.cells #[.int .u8 48, .int .u8 48, .int .u8 48, .int .u8 48, .int .u8 48, .int .u8 120] 5 (6, 7))) (some ⟨W5.heap.size, 0, none⟩) 6 6 (u8s [48, 48, 48, 48, 48, 120]) from rd_mark W5 (u8s [48, 48, 48, 48, 48, 120]) 5 (6, 7) 6 rfl (by simp [maxLen])) (fun ad e => by injection e with e; subst e; have := HST.out.bm.lt; exact ⟨by show W5.heap.size ≠ rb; omega, by show W5.heap.size ≠ rb + 1; omega⟩)
    generalize (W5.alloc (.cells #[.int .u8 48, .int .u8 48, .int .u8 48, .int .u8 48, .int .u8 48, .int .u8 120] 5 (6, 7))).setCell ⟨rb, 3, none⟩ (.slice (some ⟨W5.heap.size, 0, none⟩) 6 6) = U at hn ⊢
    clear m0 m1 zm e0 e1 e2 e3 e4 e5 y0 y1 y2 y3 y4
    clear y3a e3a
    obtain ⟨m0, m1⟩ := is_cells hn.bm
    have PK := Lib.hid (hn.pack HT.out (t := [50, 49, 48, 48]) rfl (by decide) nd6 (by decide) (by decide) (by decide))
    clear hn ei
    go_wp2_with (first
      | (go_at_call 10; refine (PK.out).mono ?_; rintro e w6 ⟨V, c, rfl, f6⟩; have F6 := Lib.hid f6; clear f6)
      | (go_at_call 6; refine (AW.out _ F6.out).mono ?_; rintro e w7 ⟨rfl, f7⟩; have F7 := Lib.hid (F6.out.trans f7); clear f7))
    go_ret
    exact ⟨rfl, F7.out⟩
  · have ei : (IntKind.u64.wrap what).tmod 9 = 7 := EI.out
    go_upto_region 21 with fail
    have hn := HST.out.set4 129
    generalize W5.setCell ⟨rb, 4, none⟩ (.int .i64 129) = U at hn ⊢
    clear m0 m1 zm e0 e1 e2 e3 e4 e5 y0 y1 y2 y3 y4
    obtain ⟨m0, m1⟩ := is_cells hn.bm
    have PK := Lib.hid (hn.pack HT.out (t := [50, 49, 48, 48]) rfl (by decide) nd7 (by decide) (by decide) (by decide))
    clear hn ei
    go_wp2_with (first
      | (go_at_call 10; refine (PK.out).mono ?_; rintro e w6 ⟨V, c, rfl, f6⟩; have F6 := Lib.hid f6; clear f6)
      | (go_at_call 6; refine (AW.out _ F6.out).mono ?_; rintro e w7 ⟨rfl, f7⟩; have F7 := Lib.hid (F6.out.trans f7); clear f7))
    go_ret
    exact ⟨rfl, F7.out⟩
  · have ei : (IntKind.u64.wrap what).tmod 9 = 8 := EI.out
    go_upto_region 21 with fail
    have hn := HST.out
    have PK := Lib.hid (hn.pack HT.out (t := [50, 49, 48, 48]) rfl (by decide) nd8 (by decide) (by decide) (by decide))
    clear hn ei
    go_wp2_with (first
      | (go_at_call 10; refine (PK.out).mono ?_; rintro e w6 ⟨V, c, rfl, f6⟩; have F6 := Lib.hid f6; clear f6)
      | (go_at_call 6; refine (AW.out _ F6.out).mono ?_; rintro e w7 ⟨rfl, f7⟩; have F7 := Lib.hid (F6.out.trans f7); clear f7))
    go_ret
    exact ⟨rfl, F7.out⟩
end Go.Proofs.YtpkalnkeafggjaaGreatDoor
