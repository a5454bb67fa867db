/- The texts IsoP1, joined. -/
import Derived.Test.YtpkalnkeafggjaaGreatDoorK04
import Derived.Test.YtpkalnkeafggjaaGreatDoorK09
import Derived.Test.YtpkalnkeafggjaaGreatDoorK18
import Derived.Test.YtpkalnkeafggjaaGreatDoorK23
import Derived.Test.YtpkalnkeafggjaaGreatDoorK14
import Derived.Test.YtpkalnkeafggjaaGreatDoorK21
import Derived.BigQuiet
/- Package iso: the reader: what is left, going on behind what was read, the first two steps and the last one. -/
namespace Go.Proofs.YtpkalnkeafggjaaGreatDoor
open Go.RowKit
set_option maxHeartbeats 1000000
set_option linter.unusedVariables false
set_option maxRecDepth 20000

/-- a reader at block g, its cursor at G; b is what it reads (A, c: as it is), k bytes were taken -/
structure Rs (w : World) (g G : Nat) (A : Option Addr) (c : Nat) (b : List UInt8) (k : Nat) (mt : ByteArray) (va vl : Value) : Prop where
  bk : Bk w g 47 [.string mt, va, .pointer (some ⟨G, 0, none⟩), .slice A b.length c, vl]
  cur : Cur w g G b k
  rd : Rd w A b.length c (u8s b)
  blk : 0 < b.length → ∀ ad, A = some ad → ad.block < G
/-- the cursor's and the reader's own blocks -/
def IsoB (G g : Nat) : Nat → Prop := fun i => i = G ∨ i = g
section
variable {w w' : World} {g G : Nat} {A : Option Addr} {c : Nat} {b : List UInt8} {k k' : Nat} {mt : ByteArray} {va vl : Value}
theorem Rs.cells (h : Rs w g G A c b k mt va vl) :
    w.cell? ⟨g, 0, none⟩ = some (.string mt) ∧ w.cell? ⟨g, 1, none⟩ = some va ∧ w.cell? ⟨g, 2, none⟩ = some (.pointer (some ⟨G, 0, none⟩)) ∧ w.cell? ⟨g, 3, none⟩ = some (.slice A b.length c) ∧ w.cell? ⟨g, 4, none⟩ = some vl ∧
    (∀ i, w.frozen? ⟨g, i, none⟩ = false) := ⟨h.bk.cell 0, h.bk.cell 1, h.bk.cell 2, h.bk.cell 3, h.bk.cell 4, h.bk.frozen⟩
theorem Rs.lt (h : Rs w g G A c b k mt va vl) : G < g ∧ g < w.heap.size := ⟨h.cur.bound.1, h.bk.lt⟩
theorem Rs.far {S : Nat → Prop} (h : Rs w g G A c b k mt va vl) (hf : Fr S w w') (hS : ∀ i, i ≤ g → ¬ S i) : Rs w' g G A c b k mt va vl :=
  ⟨h.bk.fr hf (hS g (Nat.le_refl _)), h.cur.fr hf (fun i hi => hS i (Nat.le_of_lt hi)), rd_far h.rd hf (fun h0 ad e => hS _ (Nat.le_of_lt (Nat.lt_trans (h.blk h0 ad e) h.lt.1))), h.blk⟩
theorem Rs.no (h : Rs w g G A c b k mt va vl) (hf : Fr No w w') : Rs w' g G A c b k mt va vl := h.far hf (fun _ _ x => x)
theorem Rs.dr (h : Rs w g G A c b k mt va vl) (hf : Dr w w') : Rs w' g G A c b k mt va vl := h.no hf.fr
theorem Rs.step (h : Rs w g G A c b k mt va vl) (hf : Fr (Just G) w w') (hc : Cur w' g G b k') : Rs w' g G A c b k' mt va vl :=
  ⟨h.bk.fr hf (fun e => by have := h.lt.1; have : g = G := e; omega), hc, rd_far h.rd hf (fun h0 ad e x => by have := h.blk h0 ad e; have : ad.block = G := x; omega), h.blk⟩
theorem Rs.setJ (h : Rs w g G A c b k mt va vl) (o : Nat) (v : Value) : Cur (w.setCell ⟨g, o, none⟩ v) g G b k ∧ Rd (w.setCell ⟨g, o, none⟩ v) A b.length c (u8s b) :=
  ⟨h.cur.just ((Fr.refl (Just g) w).setCell (.inl (Just.at g)) _) (Nat.le_refl _), rd_far h.rd ((Fr.refl (Just g) w).setCell (.inl (Just.at g)) _) (fun h0 ad e x => by have := h.blk h0 ad e; have := h.lt.1; have : ad.block = g := x; omega)⟩
theorem Rs.setM (h : Rs w g G A c b k mt va vl) (s : ByteArray) : Rs (w.setCell ⟨g, 0, none⟩ (.string s)) g G A c b k s va vl := ⟨h.bk.set_ 0 _, (h.setJ 0 _).1, (h.setJ 0 _).2, h.blk⟩
theorem Rs.setA (h : Rs w g G A c b k mt va vl) (v : Value) : Rs (w.setCell ⟨g, 1, none⟩ v) g G A c b k mt v vl := ⟨h.bk.set_ 1 _, (h.setJ 1 _).1, (h.setJ 1 _).2, h.blk⟩
theorem Rs.setL (h : Rs w g G A c b k mt va vl) (v : Value) : Rs (w.setCell ⟨g, 4, none⟩ v) g G A c b k mt va v := ⟨h.bk.set_ 4 _, (h.setJ 4 _).1, (h.setJ 4 _).2, h.blk⟩
theorem isob_G (h : Fr (Just G) w w') : Fr (IsoB G g) w w' := h.mono (fun _ x => .inl x)
theorem isob_set (h : Fr (IsoB G g) w w') (o : Nat) (v : Value) : Fr (IsoB G g) w (w'.setCell ⟨g, o, none⟩ v) := h.setCell (.inl (.inr rfl)) v
theorem Rs.caps (h : Rs w g G A c b k mt va vl) : k ≤ b.length ∧ b.length ≤ c ∧ c ≤ 9223372036854775807 := by
  have h1 := h.cur.le.1
  have h2 := h.rd.cap
  have h3 := h.rd.max
  simp only [maxLen] at h3
  exact ⟨h1, h2, by omega⟩
/-- what is left -/
theorem iso_rest (h : Rs w g G A c b k mt va vl) :
    Calls Tryz.prog 39 #[.pointer (some ⟨g, 0, none⟩)] w fun e w' => e = .returned (.slice (cutA A c k) (b.length - k) (c - k)) ∧ Dr w w' := by
  obtain ⟨h1, h2, h3⟩ := h.caps
  obtain ⟨-, -, c2, c3, -, -⟩ := h.cells
  have HA := Lib.hid (fun u (hu : Dr w u) => at_any G b k u (h.cur.dr hu))
  obtain ⟨m, hm⟩ : ∃ m, b.length = m := ⟨_, rfl⟩
  rw [hm] at c3 h1 h2 ⊢
  clear h hm
  go_enter Tryz.func39, Tryz.ntmps39
  go_wp2
  go_quiet ((go_at_call 65; exact quiet_dr (HA.out _ (by first | assumption | exact (Dr.refl _).drewN _ | exact (Dr.refl _).drew | exact Dr.refl _))))
  go_wp2
  · go_ret
    have hc : cutA A k k = A := if_pos rfl
    exact ⟨by rw [hc]; rfl, (Dr.refl _).drewN _⟩
  · have hc : cutA A c k = A.map (·.add k) := if_neg (by assumption)
    go_ret
    exact ⟨by rw [hc]; rfl, (Dr.refl _).drewN _⟩
/-- going on fails if that failed -/
theorem iso_past_no (h : Rs w g G A c b k mt va vl) (n E : Int) (hE : E ≠ 0) :
    Calls Tryz.prog 40 #[.pointer (some ⟨g, 0, none⟩), .int .i64 n, .int .i64 E] w fun e w' => e = .returned (.int .i64 E) ∧ w = w' := by
  have hEb : (E == 0) = false := by rw [beq_eq_false_iff_ne]; exact hE
  clear h hE
  go_enter Tryz.func40, Tryz.ntmps40
  go_wp2
  go_ret
  exact ⟨rfl, rfl⟩
theorem iso_past (h : Rs w g G A c b k mt va vl) (m : Nat) (hs : k + m ≤ b.length) (hb : b.length ≤ 140737488355328) :
    Calls Tryz.prog 40 #[.pointer (some ⟨g, 0, none⟩), .int .i64 (m : Int), .int .i64 0] w fun e w' => e = .returned (.int .i64 0) ∧ Rs w' g G A c b (k + m) mt va vl ∧ Fr (Just G) w w' := by
  obtain ⟨-, -, c2, -, -, -⟩ := h.cells
  have HT := Lib.hid (take_ok G m b k w h.cur hs hb)
  have H := Lib.hid h
  clear h hs hb
  go_enter Tryz.func40, Tryz.ntmps40
  go_wp2_with (go_at_call 66; refine HT.out.mono ?_; rintro e w1 ⟨v, rfl, -, hc, hf⟩; have F1 := Lib.hid hf; have C1 := Lib.hid hc; clear hc hf)
  go_ret
  exact ⟨rfl, H.out.step F1.out C1.out, F1.out⟩
/-- the message type: too short, or read -/
theorem iso_begin_no (h : Rs w g G A c b 0 mt va vl) (hs : b.length < 4) :
    Calls Tryz.prog 17 #[.pointer (some ⟨g, 0, none⟩)] w fun e w' => e = .returned (.int .i64 3) ∧ Fr (Just g) w w' := by
  obtain ⟨c0, -, c2, -, -, cf⟩ := h.cells
  have z0 := cf 0
  have HT := Lib.hid (text_short G 4 b 0 w h.cur (by omega) (by omega))
  have H := Lib.hid h
  clear h hs cf
  go_enter Tryz.func17, Tryz.ntmps17
  go_wp2_with (go_at_call 35; refine HT.out.mono ?_; rintro e w1 ⟨rfl, hd⟩; have F1 := Lib.hid hd; have d0 := (Dr.fr (S := No) hd).cell c0 (fun x => x); have y0 := (H.out.dr hd).cells.2.2.2.2.2 0; clear hd)
  go_ret
  exact ⟨rfl, (Dr.fr (S := Just g) F1.out).setCell (.inl (Just.at g)) _⟩
theorem iso_begin (h : Rs w g G A c b 0 mt va vl) (hs : 4 ≤ b.length) :
    Calls Tryz.prog 17 #[.pointer (some ⟨g, 0, none⟩)] w fun e w' => e = .returned (.int .i64 0) ∧ Rs w' g G A c b 4 (bstr (b.take 4)) va vl ∧ Fr (IsoB G g) w w' := by
  obtain ⟨c0, -, c2, -, -, -⟩ := h.cells
  have ht := text_ok G 4 b 0 w h.cur (by omega)
  rw [List.drop_zero, Nat.zero_add] at ht
  obtain ⟨S, hS⟩ : ∃ S, bstr (b.take 4) = S := ⟨_, rfl⟩
  rw [hS] at ht ⊢
  have HT := Lib.hid ht
  have H := Lib.hid h
  clear h hs ht hS
  go_enter Tryz.func17, Tryz.ntmps17
  go_wp2_with (go_at_call 35; refine HT.out.mono ?_; rintro e w1 ⟨rfl, hc, hf⟩; have F1 := Lib.hid hf; have R1 := Lib.hid (H.out.step hf hc); have d0 := R1.out.cells.1; have y0 := R1.out.cells.2.2.2.2.2 0; clear hc hf)
  go_ret
  exact ⟨rfl, R1.out.setM _, isob_set (isob_G F1.out) _ _⟩
end
/-- whether the message type may be (the reader's and the writer's) -/
theorem iso_right {w : World} {g : Nat} {mt : ByteArray} (c0 : w.cell? ⟨g, 0, none⟩ = some (.string mt)) (hm : mt.size ≤ maxLen) :
    Calls Tryz.prog 18 #[.pointer (some ⟨g, 0, none⟩)] w fun e w' => e = .returned (.int .i64 (if rightB mt.data.toList 4 4 = true then 0 else 5)) ∧ w = w' := by
  have HR := Lib.hid (fun u => right_any mt 4 4 u hm)
  have HU1 := Lib.hid (fun u => unless_any true 5 u)
  have HU0 := Lib.hid (fun u => unless_any false 5 u)
  rw [if_pos rfl] at HU1
  rw [if_neg (by decide)] at HU0
  clear hm
  cases hR : rightB mt.data.toList 4 4
  all_goals
    rw [hR] at HR
    clear hR
    go_enter Tryz.func18, Tryz.ntmps18
    go_wp2_with (first
      | (go_at_call 37; refine (HR.out _).mono ?_; rintro e w1 ⟨rfl, rfl⟩)
      | (go_at_call 36; (with_reducible first | refine (HU1.out _).mono ?_ | refine (HU0.out _).mono ?_); rintro e w1 ⟨rfl, rfl⟩))
    go_ret
    exact ⟨rfl, rfl⟩
/-- whether all was read -/
theorem iso_end {w : World} {g G : Nat} {A : Option Addr} {c : Nat} {b : List UInt8} {k : Nat} {mt : ByteArray} {va vl : Value} (h : Rs w g G A c b k mt va vl) :
    Calls Tryz.prog 21 #[.pointer (some ⟨g, 0, none⟩)] w fun e w' => e = .returned (.int .i64 (if k = b.length then 0 else 17)) ∧ Dr w w' := by
  obtain ⟨-, -, c2, -, -, -⟩ := h.cells
  have hk := h.caps.1
  have hl := left_any G b k w h.cur
  have HU1 := Lib.hid (fun u => unless_any true 17 u)
  have HU0 := Lib.hid (fun u => unless_any false 17 u)
  rw [if_pos rfl] at HU1
  rw [if_neg (by decide)] at HU0
  obtain ⟨z, hz⟩ : ∃ z : Int, (b.length : Int) - (k : Int) = z := ⟨_, rfl⟩
  rw [hz] at hl
  by_cases e : k = b.length
  · obtain rfl : z = 0 := by omega
    rw [if_pos e]
    have HL := Lib.hid hl
    clear h hk hl hz e
    go_enter Tryz.func21, Tryz.ntmps21
    go_wp2_with (first
      | (go_at_call 43; refine (HL.out).mono ?_; rintro e w1 ⟨rfl, d1⟩; have D1 := Lib.hid d1; clear d1)
      | (go_at_call 36; refine (HU1.out _).mono ?_; rintro e w2 ⟨rfl, rfl⟩))
    go_ret
    exact ⟨rfl, D1.out⟩
  · have z0 : (z == 0) = false := by rw [beq_eq_false_iff_ne]; omega
    rw [if_neg e]
    have HL := Lib.hid hl
    clear h hk hl hz e
    go_enter Tryz.func21, Tryz.ntmps21
    go_wp2_with (first
      | (go_at_call 43; refine (HL.out).mono ?_; rintro e w1 ⟨rfl, d1⟩; have D1 := Lib.hid d1; clear d1)
      | (go_at_call 36; refine (HU0.out _).mono ?_; rintro e w2 ⟨rfl, rfl⟩))
    go_ret
    exact ⟨rfl, D1.out⟩
end Go.Proofs.YtpkalnkeafggjaaGreatDoor
