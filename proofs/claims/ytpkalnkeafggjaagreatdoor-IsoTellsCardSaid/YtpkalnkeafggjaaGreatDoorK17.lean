/- The texts BmProg3, joined. -/
import Derived.Test.YtpkalnkeafggjaaGreatDoorK16
/- What package bitmap does: contracts of its calls, Parse. -/
namespace Go.Proofs.YtpkalnkeafggjaaGreatDoor
open Go.RowKit
set_option maxHeartbeats 400000
set_option linter.unusedVariables false
set_option maxRecDepth 20000

/-- the head of what a slice holds -/
theorem Rd.head {w : World} {A : Option Addr} {n c : Nat} {l : List UInt8} (h : Rd w A n c (u8s l)) {m : Nat} (hm : m ≤ n) : Rd w A m c (u8s (l.take m)) := by
  have h1 := h.len
  rw [u8s_length] at h1
  refine ⟨by rw [u8s_length, List.length_take]; omega, Nat.le_trans hm h.cap, h.max, h.nil, fun ad e j u hu => h.cells ad e j u ?_⟩
  unfold u8s at hu ⊢
  rw [List.getElem?_map] at hu ⊢
  rw [List.getElem?_take] at hu
  split at hu
  · exact hu
  · cases hu

/-- a block of two halves, as cells -/
theorem hv_cells {w : World} {g : Nat} {t : TypeId} {a b : Int} (h : Bk w g t [.int .u64 a, .int .u64 b]) :
    w.cell? ⟨g, 0, none⟩ = some (.int .u64 a) ∧ w.cell? ⟨g, 1, none⟩ = some (.int .u64 b) ∧ w.frozen? ⟨g, 0, none⟩ = false ∧ w.frozen? ⟨g, 1, none⟩ = false :=
  ⟨h.cell 0, h.cell 1, h.frozen 0, h.frozen 1⟩
/-- written anew -/
theorem hv_put {w : World} {g : Nat} {t : TypeId} {a b : Int} (h : Bk w g t [.int .u64 a, .int .u64 b]) (c d : Int) :
    (w.setCell ⟨g, 0, none⟩ (.int .u64 c)).cell? ⟨g, 0, none⟩ = some (.int .u64 c) ∧ ((w.setCell ⟨g, 0, none⟩ (.int .u64 c)).setCell ⟨g, 1, none⟩ (.int .u64 d)).cell? ⟨g, 1, none⟩ = some (.int .u64 d) :=
  ⟨(h.set_ 0 (.int .u64 c)).cell 0, ((h.set_ 0 (.int .u64 c)).set_ 1 (.int .u64 d)).cell 1⟩
theorem Fr.hv {S : Nat → Prop} {a w : World} {g : Nat} (h : Fr S a w) (hg : a.heap.size ≤ g) (u v : Value) : Fr S a ((w.setCell ⟨g, 0, none⟩ u).setCell ⟨g, 1, none⟩ v) :=
  (h.setCell (.inr hg) _).setCell (.inr hg) _

theorem at_same {B : Nat} (g : Nat) (b : List UInt8) (k : Nat) (w : World) (h : Cur w B g b k) :
    Calls Tryz.prog 65 #[.pointer (some ⟨g, 0, none⟩)] w fun e w' => e = .returned (.int .i64 (k : Int)) ∧ w' = w := by
  obtain ⟨A, c, h1, h2, h3, hgB, hBw, h4⟩ := h
  have c1 := h1.cell 1
  simp only [List.getElem?_cons_zero, List.getElem?_cons_succ] at c1
  go_enter Tryz.func65, Tryz.ntmps65
  go_wp2
  go_ret
  exact ⟨rfl, rfl⟩

theorem read_facts {S : Nat → Prop} {w w1 w2 w3 w5 : World} {g X : Nat} (hbR : Bk (w.alloc (.cells #[.int .u64 0, .int .u64 0] 98)) w.heap.size 98 [.int .u64 0, .int .u64 0])
    (hf1 : Fr No (w.alloc (.cells #[.int .u64 0, .int .u64 0] 98)) w1) (hf2 : Fr (Just g) w1 w2) (hg : (w.alloc (.cells #[.int .u64 0, .int .u64 0] 98)).heap.size ≤ g)
    (hf3 : Fr No (w2.alloc (.cells #[.int .u64 (X : Int), .int .u64 0] 98)) w3) (hk : Fr S w3 w5) (hR : ¬ S w.heap.size) (hH : ¬ S w2.heap.size) (y : Int) :
    w5.cell? ⟨w2.heap.size, 1, none⟩ = some (.int .u64 0) ∧ w5.frozen? ⟨w2.heap.size, 1, none⟩ = false ∧
      Bk (w5.setCell ⟨w2.heap.size, 1, none⟩ (.int .u64 y)) w.heap.size 98 [.int .u64 0, .int .u64 0] ∧
      Bk (w5.setCell ⟨w2.heap.size, 1, none⟩ (.int .u64 y)) w2.heap.size 98 [.int .u64 (X : Int), .int .u64 y] ∧ w.heap.size < w2.heap.size ∧ w2.heap.size ≤ w5.heap.size := by
  have hH5 : Bk w5 w2.heap.size 98 [.int .u64 (X : Int), .int .u64 0] := ((Bk.new w2 _ _ : Bk (w2.alloc (.cells #[.int .u64 (X : Int), .int .u64 0] 98)) _ _ _).no hf3).fr hk hH
  have hne : w.heap.size < w2.heap.size := Nat.lt_of_lt_of_le (by simp) (Nat.le_trans hf1.size hf2.size)
  have hR5 := ((hbR.no ((hf1.trans_just hf2 hg).alloc _)).no hf3).fr hk hR
  refine ⟨hH5.cell 1, hH5.frozen 1, hR5.fr (S := Just w2.heap.size) ((Fr.refl _ w5).setCell (p := ⟨w2.heap.size, 1, none⟩) (.inl (Just.at _)) (.int .u64 y)) (fun e => ?_), hH5.set_ 1 (.int .u64 y), hne, Nat.le_of_lt hH5.lt⟩
  have e' : w.heap.size = w2.heap.size := e
  omega

theorem read_any (A : Option Addr) (n c : Nat) (b : List UInt8) (w : World) (ha : Rd w A n c (u8s b)) (hn : n ≤ 65536) :
    Calls Tryz.prog 61 #[.slice A n c] w fun e w' => Fr No w w' ∧
      ((∃ a d : Nat, e = .returned (.tuple #[hvV a d, .int .i64 0, .int .i64 3]) ∧ (b.length < 8 ∨ b.length < mapN b)) ∨
       (∃ a d : Nat, e = .returned (.tuple #[hvV a d, .int .i64 (mapN b : Int), .int .i64 0]) ∧ mapN b ≤ b.length ∧ Reads a d b (mapN b))) := by
  have hl : b.length = n := by simpa using ha.len
  have hcap := ha.cap
  have HL := Lib.hid hl
  clear hl
  have hbR : Bk (w.alloc (.cells #[.int .u64 0, .int .u64 0] 98)) w.heap.size 98 [.int .u64 0, .int .u64 0] := Bk.new w _ _
  have hf0 : Fr No w (w.alloc (.cells #[.int .u64 0, .int .u64 0] 98)) := (Fr.refl No w).alloc _
  rcases Nat.lt_or_ge n 8 with h8 | h8
  · go_enter Tryz.func61, Tryz.ntmps61
    go_wp2_with (first
      | (go_at_call 15; refine (new_any _ _ _ b _ (ha.no hf0) (by omega)).mono ?_; rintro e w1 ⟨g, rfl, hg, hc1, hf1⟩)
      | (go_at_call 76; refine (number_short g 8 b 0 _ hc1 (by omega) (by omega) (by have := HL.out; omega)).mono ?_; rintro e w2 ⟨rfl, hd2⟩; have hb2 := (hbR.no hf1).no hd2.fr; obtain ⟨q0, q1, q2, q3⟩ := hv_cells hb2))
    obtain ⟨p0, p1⟩ := hv_put hb2 0 0
    refine bodyPost_ret (v := .tuple #[hvV 0 0, .int .i64 0, .int .i64 3]) (by simp [results, Tryz.results61, go_sem, p0, p1, hvV]) rfl ?_
    exact ⟨((hf0.trans hf1).dr hd2).hv (Nat.le_refl _) _ _, .inl ⟨0, 0, rfl, .inl (by rw [HL.out]; exact h8)⟩⟩
  · obtain ⟨m, hm8, hmn, hmb, hm16⟩ : ∃ m : Nat, 8 ≤ m ∧ m ≤ n ∧ m ≤ 16 ∧ ((n ≤ 16 ∧ m = n) ∨ (16 < n ∧ m = 16)) := by
      rcases Nat.lt_or_ge 16 n with h | h
      · exact ⟨16, by omega, by omega, by omega, .inr ⟨h, rfl⟩⟩
      · exact ⟨n, by omega, by omega, by omega, .inl ⟨h, rfl⟩⟩
    have hl2 := HL.out
    obtain ⟨b', hb'⟩ : ∃ b', b' = b.take m := ⟨_, rfl⟩
    have hl' : b'.length = m := by rw [hb', List.length_take]; omega
    have hh := ha.head hmn
    rw [← hb'] at hh
    have t8 : b'.take 8 = b.take 8 := by rw [hb', List.take_take]; congr 1; omega
    have d8 : 16 ≤ m → (b'.drop 8).take 8 = (b.drop 8).take 8 := fun h => by rw [hb', show m = 16 from by omega, List.drop_take, List.take_take]; rfl
    have hr1 := reads_one b (by omega)
    have h81 : hbit (beN (b.take 8)) 0 1 = bitAt b 0 := hr1.2.2 1 (by omega) (by omega)
    have eX : beN ((b'.drop 0).take 8) = beN (b.take 8) := by rw [List.drop_zero, t8]
    have l1 := hr1.1
    have hr2 : 16 ≤ m → Reads (beN (b.take 8)) (beN ((b'.drop 8).take 8)) b 16 := fun h => by rw [d8 h]; exact reads_two b (by omega)
    have HR1 := Lib.hid hr1; have HR2 := Lib.hid hr2; have HX := Lib.hid eX; have HL' := Lib.hid hl'
    have hmm : min (n : Int) 16 = (m : Int) := by omega
    clear hl2 hr1 hr2 eX t8 d8 hb' hl'
    generalize beN (b.take 8) = X at *
    generalize hY : beN ((b'.drop 8).take 8) = Y at *
    have HY := Lib.hid hY
    clear hY
    cases hb0 : bitAt b 0 with
    | false =>
      have hm : mapN b = 8 := by unfold mapN; rw [if_neg (by rw [hb0]; simp)]
      have HM := Lib.hid hm
      rw [hb0] at h81
      have H81 := Lib.hid h81
      clear h81 hm hb0
      rcases hm16 with ⟨hn16, rfl⟩ | ⟨hn16, rfl⟩
      all_goals
        go_enter Tryz.func61, Tryz.ntmps61
        go_wp2_with (first
          | (go_at_call 15; refine (new_any _ _ _ b' _ (hh.no hf0) (by omega)).mono ?_; rintro e w1 ⟨g, rfl, hg, hc1, hf1⟩)
          | (go_at_call 76; refine (number_ok g 8 b' 0 _ hc1 (by omega) (by omega) (by have := HL'.out; omega)).mono ?_; rw [HX.out]; rintro e w2 ⟨rfl, hc2, hf2⟩; have hF2 : Fr No w w2 := (hf0.trans hf1).trans_just hf2 (by simp at hg; omega))
          | (go_at_call 62; refine (has_any X 0 1 _ l1 (by omega) (by omega) (by omega)).mono ?_; rw [H81.out]; rintro e w3 ⟨rfl, hf3⟩; have hF3 := (hF2.alloc _).trans hf3))
        refine wp_region_reads 3 (by kernel_rfl) (by kernel_rfl) ?_
        intro w4 hd4
        simp only [List.take_succ_cons, List.take_zero, List.drop_succ_cons, List.drop_zero]
        have hH4 : Bk w4 w2.heap.size 98 [.int .u64 (X : Int), .int .u64 0] := ((Bk.new w2 _ _ : Bk (w2.alloc (.cells #[.int .u64 (X : Int), .int .u64 0] 98)) _ _ _).no hf3).no hd4.fr
        obtain ⟨y0, y1, -, -⟩ := hv_cells hH4
        have hR4 := ((hbR.no ((hf1.trans_just hf2 hg).alloc _)).no hf3).no hd4.fr
        obtain ⟨q0, q1, q2, q3⟩ := hv_cells hR4
        have hC4 := ((hc2.no ((Fr.refl No w2).alloc _)).no hf3).dr hd4
        still_step
        still_step
        still_call (at_same g b' 8 _ hC4)
        refine wpStill_nil ?_
        go_wp2
        obtain ⟨p0, p1⟩ := hv_put hR4 (X : Int) 0
        refine bodyPost_ret (v := .tuple #[hvV X 0, .int .i64 8, .int .i64 0]) (by simp [results, Tryz.results61, go_sem, p0, p1, hvV]) rfl ?_
        exact ⟨(hF3.dr hd4).hv (Nat.le_refl _) _ _, .inr ⟨X, 0, by rw [HM.out]; rfl, by rw [HM.out, HL.out]; exact h8, by rw [HM.out]; exact HR1.out⟩⟩
    | true =>
      have hm : mapN b = 16 := by unfold mapN; rw [if_pos hb0]
      have HM := Lib.hid hm
      rw [hb0] at h81
      have H81 := Lib.hid h81
      clear h81 hm hb0
      rcases Nat.lt_or_ge n 16 with hn16 | hn16
      · obtain rfl : m = n := by omega
        have tok1 : True := trivial
        go_enter Tryz.func61, Tryz.ntmps61
        go_wp2_with (first
          | (go_at_call 15; refine (new_any _ _ _ b' _ (hh.no hf0) (by omega)).mono ?_; rintro e w1 ⟨g, rfl, hg, hc1, hf1⟩)
          | (go_at_call 76; clear tok1; refine (number_ok g 8 b' 0 _ hc1 (by omega) (by omega) (by have := HL'.out; omega)).mono ?_; rw [HX.out]; rintro e w2 ⟨rfl, hc2, hf2⟩; have hF2 : Fr No w w2 := (hf0.trans hf1).trans_just hf2 (by simp at hg; omega))
          | (go_at_call 62; refine (has_any X 0 1 _ l1 (by omega) (by omega) (by omega)).mono ?_; rw [H81.out]; rintro e w3 ⟨rfl, hf3⟩; have hF3 := (hF2.alloc _).trans hf3; have hC3 := ((hc2.no ((Fr.refl No w2).alloc _)).no hf3))
          | (go_at_call 76; refine (number_short g 8 b' 8 _ hC3 (by omega) (by omega) (by have := HL'.out; omega)).mono ?_; rintro e w5 ⟨rfl, hd5⟩; obtain ⟨y1, y3, hR6, hH6, hne, hle⟩ := read_facts hbR hf1 hf2 hg hf3 hd5.fr (S := No) (fun x => x) (fun x => x) 0; obtain ⟨q0, q1, q2, q3⟩ := hv_cells hR6))
        obtain ⟨p0, p1⟩ := hv_put hR6 0 0
        refine bodyPost_ret (v := .tuple #[hvV 0 0, .int .i64 0, .int .i64 3]) (by simp [results, Tryz.results61, go_sem, p0, p1, hvV]) rfl ?_
        exact ⟨((hF3.dr hd5).setCell (.inr (Nat.le_of_lt hne)) _).hv (Nat.le_refl _) _ _, .inl ⟨0, 0, rfl, .inr (by rw [HL.out, HM.out]; exact hn16)⟩⟩
      · obtain rfl : m = 16 := by omega
        have tok1 : True := trivial
        have hn3 : (n ≤ 16 ∧ 16 = n) ∨ (16 < n ∧ 16 = 16) := hm16
        clear hm16
        rcases hn3 with ⟨hn16, rfl⟩ | ⟨hn16, -⟩
        all_goals
          go_enter Tryz.func61, Tryz.ntmps61
          go_wp2_with (first
            | (go_at_call 15; refine (new_any _ _ _ b' _ (hh.no hf0) (by omega)).mono ?_; rintro e w1 ⟨g, rfl, hg, hc1, hf1⟩)
            | (go_at_call 76; clear tok1; refine (number_ok g 8 b' 0 _ hc1 (by omega) (by omega) (by have := HL'.out; omega)).mono ?_; rw [HX.out]; rintro e w2 ⟨rfl, hc2, hf2⟩; have hF2 : Fr No w w2 := (hf0.trans hf1).trans_just hf2 (by simp at hg; omega))
            | (go_at_call 62; refine (has_any X 0 1 _ l1 (by omega) (by omega) (by omega)).mono ?_; rw [H81.out]; rintro e w3 ⟨rfl, hf3⟩; have hF3 := (hF2.alloc _).trans hf3; have hC3 := ((hc2.no ((Fr.refl No w2).alloc _)).no hf3))
            | (go_at_call 76; refine (number_ok g 8 b' 8 _ hC3 (by omega) (by omega) (by have := HL'.out; omega)).mono ?_; rw [HY.out]; rintro e w5 ⟨rfl, hc5, hf5⟩; obtain ⟨y1, y3, hR6, hH6, hne, hle⟩ := read_facts hbR hf1 hf2 hg hf3 hf5 (fun e => by have e' : w.heap.size = g := e; simp at hg; omega) (fun e => by have e' : w2.heap.size = g := e; have := hc2.lt; omega) (Y : Int); obtain ⟨q0, q1, q2, q3⟩ := hv_cells hR6))
          refine wp_region_reads 3 (by kernel_rfl) (by kernel_rfl) ?_
          intro w7 hd7
          simp only [List.take_succ_cons, List.take_zero, List.drop_succ_cons, List.drop_zero]
          have hH7 := hH6.no hd7.fr
          obtain ⟨z0, z1, -, -⟩ := hv_cells hH7
          have hR7 := hR6.no hd7.fr
          clear q0 q1 q2 q3
          obtain ⟨q0, q1, q2, q3⟩ := hv_cells hR7
          have hC6 : Cur (w5.setCell ⟨w2.heap.size, 1, none⟩ (.int .u64 (Y : Int))) w1.heap.size g b' 16 := hc5.just (g' := w2.heap.size) ((Fr.refl _ w5).setCell (p := ⟨w2.heap.size, 1, none⟩) (.inl (Just.at _)) _) hf2.size
          have hC7 := hC6.dr hd7
          still_step
          still_step
          still_call (at_same g b' 16 _ hC7)
          refine wpStill_nil ?_
          go_wp2
          obtain ⟨p0, p1⟩ := hv_put hR7 (X : Int) (Y : Int)
          refine bodyPost_ret (v := .tuple #[hvV X Y, .int .i64 16, .int .i64 0]) (by simp [results, Tryz.results61, go_sem, p0, p1, hvV]) rfl ?_
          have hF5 : Fr No w w5 := hF3.trans_just hf5 (by simp at hg; omega)
          exact ⟨((hF5.setCell (p := ⟨w2.heap.size, 1, none⟩) (.inr (Nat.le_of_lt hne)) _).dr hd7).hv (Nat.le_refl _) _ _, .inr ⟨X, Y, by rw [HM.out]; rfl, by rw [HM.out, HL.out]; omega, by rw [HM.out]; exact HR2.out (by omega)⟩⟩
end Go.Proofs.YtpkalnkeafggjaaGreatDoor
