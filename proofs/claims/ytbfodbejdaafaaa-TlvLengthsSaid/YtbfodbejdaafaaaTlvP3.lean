/- Package tlv: the parser's steps: a tag, a length, the data. -/
import Derived.Test.YtbfodbejdaafaaaTlvP2
import Derived.Test.YtbfodbejdaafaaaCurNum
import Derived.Test.YtbfodbejdaafaaaRefTlv4
namespace Go.Proofs.Ytbfodbejdaafaaa
open Go.RowKit
set_option maxHeartbeats 1000000
set_option linter.unusedVariables false

/-- a parser at block g, its cursor at G -/
structure Ps (w : World) (g G : Nat) (b : List UInt8) (k : Nat) (va : Value) (t : Int) (vd : Value) (n : Nat) : Prop where
  bk : Bk w g 48 [va, .int .i64 t, vd, .pointer (some ⟨G, 0, none⟩), .int .i64 (n : Int)]
  cur : Cur w g G b k
/-- the cursor's and the parser's own blocks -/
def Two (G g : Nat) : Nat → Prop := fun i => i = G ∨ i = g
theorem Ps.cells {w : World} {g G : Nat} {b : List UInt8} {k : Nat} {va vd : Value} {t : Int} {n : Nat} (h : Ps w g G b k va t vd n) :
    w.cell? ⟨g, 0, none⟩ = some va ∧ w.cell? ⟨g, 1, none⟩ = some (.int .i64 t) ∧ w.cell? ⟨g, 2, none⟩ = some vd ∧ w.cell? ⟨g, 3, none⟩ = some (.pointer (some ⟨G, 0, none⟩)) ∧ w.cell? ⟨g, 4, none⟩ = some (.int .i64 (n : Int)) ∧
    (∀ i, w.frozen? ⟨g, i, none⟩ = false) := ⟨h.bk.cell 0, h.bk.cell 1, h.bk.cell 2, h.bk.cell 3, h.bk.cell 4, h.bk.frozen⟩
theorem Ps.step {w w' : World} {g G : Nat} {b : List UInt8} {k k' : Nat} {va vd : Value} {t : Int} {n : Nat} (h : Ps w g G b k va t vd n) (hf : Fr (Just G) w w') (hc : Cur w' g G b k') : Ps w' g G b k' va t vd n :=
  ⟨h.bk.fr hf (fun e => by have := h.cur.bound.1; have : g = G := e; omega), hc⟩
theorem Ps.no {w w' : World} {g G : Nat} {b : List UInt8} {k : Nat} {va vd : Value} {t : Int} {n : Nat} (h : Ps w g G b k va t vd n) (hf : Fr No w w') : Ps w' g G b k va t vd n :=
  ⟨h.bk.no hf, h.cur.no hf⟩
theorem Ps.setTag {w : World} {g G : Nat} {b : List UInt8} {k : Nat} {va vd : Value} {t : Int} {n : Nat} (h : Ps w g G b k va t vd n) (t' : Int) (vd' : Value) :
    Ps ((w.setCell ⟨g, 1, none⟩ (.int .i64 t')).setCell ⟨g, 2, none⟩ vd') g G b k va t' vd' n :=
  ⟨(h.bk.set_ 1 (.int .i64 t')).set_ 2 vd', h.cur.just (((Fr.refl (Just g) w).setCell (.inl (Just.at g)) _).setCell (.inl (Just.at g)) _) (Nat.le_refl _)⟩
theorem Ps.setN {w : World} {g G : Nat} {b : List UInt8} {k : Nat} {va vd : Value} {t : Int} {n : Nat} (h : Ps w g G b k va t vd n) (m : Nat) : Ps (w.setCell ⟨g, 4, none⟩ (.int .i64 (m : Int))) g G b k va t vd m :=
  ⟨h.bk.set_ 4 (.int .i64 (m : Int)), h.cur.just ((Fr.refl (Just g) w).setCell (.inl (Just.at g)) _) (Nat.le_refl _)⟩
theorem Ps.setD {w : World} {g G : Nat} {b : List UInt8} {k : Nat} {va vd : Value} {t : Int} {n : Nat} (h : Ps w g G b k va t vd n) (v : Value) : Ps (w.setCell ⟨g, 2, none⟩ v) g G b k va t v n :=
  ⟨h.bk.set_ 2 v, h.cur.just ((Fr.refl (Just g) w).setCell (.inl (Just.at g)) _) (Nat.le_refl _)⟩
theorem two_G {G g : Nat} {w w' : World} (h : Fr (Just G) w w') : Fr (Two G g) w w' := h.mono (fun _ x => .inl x)
theorem two_set {G g : Nat} {w w' : World} (h : Fr (Two G g) w w') (o : Nat) (v : Value) : Fr (Two G g) w (w'.setCell ⟨g, o, none⟩ v) := h.setCell (.inl (.inr rfl)) v
theorem be1 (b : List UInt8) (k : Nat) (hk : k < b.length) : beN ((b.drop k).take 1) = b[k].toNat := by
  rw [drop_two b k hk]
  show beN [b[k]] = _
  simp [beN]
/-- one byte as a number -/
theorem num1 {w : World} {g G : Nat} {b : List UInt8} {k : Nat} (h : Cur w g G b k) (hk : k < b.length) :
    Calls Try.prog 35 #[.pointer (some ⟨G, 0, none⟩), .int .i64 1] w fun e w' => e = .returned (.tuple #[.int .u64 (b[k].toNat : Int), .int .i64 0]) ∧ Cur w' g G b (k + 1) ∧ Fr (Just G) w w' := by
  have := number_ok G 1 b k w h (by omega) (by omega) (by omega)
  rw [be1 b k hk] at this
  exact this
theorem num0 {w : World} {g G : Nat} {b : List UInt8} {k : Nat} (h : Cur w g G b k) (hk : b.length ≤ k) :
    Calls Try.prog 35 #[.pointer (some ⟨G, 0, none⟩), .int .i64 1] w fun e w' => e = .returned (.tuple #[.int .u64 0, .int .i64 3]) ∧ Dr w w' :=
  number_short G 1 b k w h (by omega) (by omega) (by omega)
theorem i64_u8 (x : UInt8) : IntKind.i64.wrap (x.toNat : Int) = (x.toNat : Int) := IntWalk.i64_in _ ⟨by have := x.toNat_lt; omega, by have := x.toNat_lt; omega⟩
theorem i64_two (x y : UInt8) : IntKind.i64.wrap ((x.toNat * 256 + y.toNat : Nat) : Int) = ((x.toNat * 256 + y.toNat : Nat) : Int) := IntWalk.i64_in _ ⟨by have := x.toNat_lt; have := y.toNat_lt; omega, by have := x.toNat_lt; have := y.toNat_lt; omega⟩
theorem dec_tag (x : Nat) (hx : x < 256) : decide ((x : Int) < 255 ∧ (x : Int) % 32 = 31) = decide (x % 32 = 31 ∧ x ≠ 255) := by
  rw [Bool.eq_iff_iff, decide_eq_true_iff, decide_eq_true_iff]; omega

def TagEnd (w : World) (g G : Nat) (b : List UInt8) (k : Nat) (va : Value) (n : Nat) (e : Ending) (w' : World) : Prop :=
  ∃ E : Int, e = .returned (.int .i64 E) ∧ Fr (Two G g) w w' ∧ ((E = 3 ∧ tagP (b.drop k) = none) ∨
    (E = 0 ∧ ∃ (k2 : Nat) (tt : Int), k < k2 ∧ k2 ≤ b.length ∧ tagP (b.drop k) = some (tt, b.drop k2) ∧ 0 ≤ tt ∧ tt < 65536 ∧ Ps w' g G b k2 va tt (.slice none 0 0) n))
theorem t_tag {w : World} {g G : Nat} {b : List UInt8} {k : Nat} {va vd : Value} {t : Int} {n : Nat} (h : Ps w g G b k va t vd n) (hk : k < b.length) :
    Calls Try.prog 22 #[.pointer (some ⟨g, 0, none⟩)] w (TagEnd w g G b k va n) := by
  obtain ⟨c0, c1, c2, c3, c4, cf⟩ := h.cells
  have hx := num1 h.cur hk
  have hta := tagP_at b k hk
  obtain ⟨x, hxe⟩ : ∃ x : UInt8, b[k] = x := ⟨_, rfl⟩
  rw [hxe] at hx hta
  have hmo := fun u => t_more (x.toNat : Int) (Int.natCast_nonneg _) u
  rw [dec_tag _ (u8_lt x)] at hmo
  have hw1 := i64_u8 x
  have H := Lib.hid h; have HX := Lib.hid hx; have HTA := Lib.hid hta; have HK := Lib.hid hk
  clear h hx hta hxe c0 c1 c2 c4 cf
  by_cases hm : x.toNat % 32 = 31 ∧ x.toNat ≠ 255
  · rw [decide_eq_true hm] at hmo
    have HMO := Lib.hid hmo; have HM := Lib.hid hm
    clear hmo hm
    have tok1 := True.intro
    by_cases hk2 : b.length ≤ k + 1
    · have hz := fun u (hu : Cur u g G b (k + 1)) => num0 hu hk2
      have HZ := Lib.hid hz; have HK2 := Lib.hid hk2
      have hor := or_step x.toNat 0 (by have := u8_lt x; omega) (by omega)
      have hw2 : IntKind.i64.wrap ((x.toNat * 256 + 0 : Nat) : Int) = ((x.toNat * 256 + 0 : Nat) : Int) := IntWalk.i64_in _ ⟨by have := u8_lt x; omega, by have := u8_lt x; omega⟩
      obtain ⟨tt, htt⟩ : ∃ tt : Int, ((x.toNat * 256 + 0 : Nat) : Int) = tt := ⟨_, rfl⟩
      rw [htt] at hor hw2
      simp only [Int.cast_ofNat_Int] at hor
      clear hz hk2 htt
      go_enter Try.func22, Try.ntmps22
      go_wp2_with (first
        | (go_at_call 35; clear tok1; refine (HX.out).mono ?_; rintro e w1 ⟨rfl, hc1, hf1⟩; have tok2 := True.intro; have P1 := Lib.hid (H.out.step hf1 hc1); have F1 := Lib.hid hf1; have d3 := P1.out.cells.2.2.2.1; clear hf1 hc1)
        | (go_at_call 36; refine (HMO.out _).mono ?_; rintro e w2 ⟨rfl, rfl⟩)
        | (go_at_call 35; clear tok2; refine (HZ.out _ P1.out.cur).mono ?_; rintro e w2 ⟨rfl, hd2⟩; have P2 := Lib.hid (P1.out.no hd2.fr); have F2 := Lib.hid (F1.out.dr hd2); have e0 := P2.out.cells.1; have e1 := P2.out.cells.2.1; have e2 := P2.out.cells.2.2.1; have e5 := P2.out.cells.2.2.2.2.2 1; have e6 := P2.out.cells.2.2.2.2.2 2; clear hd2))
      go_ret
      refine ⟨3, rfl, two_set (two_set (two_G F2.out) _ _) _ _, .inl ⟨rfl, ?_⟩⟩
      rcases HTA.out with ⟨t1, t2, t3, t4⟩ | ⟨t1, t2⟩ | ⟨h1, t1, t2, t3⟩
      · exact t4
      · exact absurd HM.out t1
      · have := HK2.out; omega
    · have hk2 : k + 1 < b.length := by omega
      obtain ⟨y, hye⟩ : ∃ y : UInt8, b[k + 1] = y := ⟨_, rfl⟩
      have hz := fun u (hu : Cur u g G b (k + 1)) => num1 hu hk2
      rw [hye] at hz
      have htp : tagP (b.drop k) = some (((x.toNat * 256 + y.toNat : Nat) : Int), b.drop (k + 2)) := by
        rcases HTA.out with ⟨t1, t2, t3, t4⟩ | ⟨t1, t2⟩ | ⟨h1, t1, t2, t3⟩
        · omega
        · exact absurd HM.out t1
        · rw [hye] at t3; exact t3
      have HZ := Lib.hid hz; have HK2 := Lib.hid hk2
      have hor := or_step x.toNat y.toNat (by have := u8_lt x; omega) (u8_lt y)
      have hw2 := i64_two x y
      have h2 := two_num (u8_lt x) (u8_lt y)
      obtain ⟨tt, htt⟩ : ∃ tt : Int, ((x.toNat * 256 + y.toNat : Nat) : Int) = tt := ⟨_, rfl⟩
      rw [htt] at hor hw2 htp h2
      have HTP := Lib.hid htp; have H2 := Lib.hid h2
      clear hz hk2 htt hye htp h2
      go_enter Try.func22, Try.ntmps22
      go_wp2_with (first
        | (go_at_call 35; clear tok1; refine (HX.out).mono ?_; rintro e w1 ⟨rfl, hc1, hf1⟩; have tok2 := True.intro; have P1 := Lib.hid (H.out.step hf1 hc1); have F1 := Lib.hid hf1; have d3 := P1.out.cells.2.2.2.1; clear hf1 hc1)
        | (go_at_call 36; refine (HMO.out _).mono ?_; rintro e w2 ⟨rfl, rfl⟩)
        | (go_at_call 35; clear tok2; refine (HZ.out _ P1.out.cur).mono ?_; rintro e w2 ⟨rfl, hc2, hf2⟩; have P2 := Lib.hid (P1.out.step hf2 hc2); have F2 := Lib.hid (F1.out.trans hf2); have e0 := P2.out.cells.1; have e1 := P2.out.cells.2.1; have e2 := P2.out.cells.2.2.1; have e5 := P2.out.cells.2.2.2.2.2 1; have e6 := P2.out.cells.2.2.2.2.2 2; clear hc2 hf2))
      go_ret
      exact ⟨0, rfl, two_set (two_set (two_G F2.out) _ _) _ _, .inr ⟨rfl, k + 2, tt, by omega, HK2.out, HTP.out, H2.out.1, H2.out.2, P2.out.setTag _ _⟩⟩
  · rw [decide_eq_false hm] at hmo
    have HMO := Lib.hid hmo
    have htp : tagP (b.drop k) = some ((x.toNat : Int), b.drop (k + 1)) := by
      rcases HTA.out with ⟨t1, t2, t3, t4⟩ | ⟨t1, t2⟩ | ⟨h1, t1, t2, t3⟩
      · exact absurd ⟨t1, t2⟩ hm
      · exact t2
      · exact absurd ⟨t1, t2⟩ hm
    have HTP := Lib.hid htp; have H1 := Lib.hid (one_num (u8_lt x))
    clear hmo hm htp
    go_enter Try.func22, Try.ntmps22
    go_wp2_with (first
      | (go_at_call 35; refine (HX.out).mono ?_; rintro e w1 ⟨rfl, hc1, hf1⟩; have P1 := Lib.hid (H.out.step hf1 hc1); have F1 := Lib.hid hf1; have e0 := P1.out.cells.1; have e1 := P1.out.cells.2.1; have e2 := P1.out.cells.2.2.1; have e5 := P1.out.cells.2.2.2.2.2 1; have e6 := P1.out.cells.2.2.2.2.2 2; clear hf1 hc1)
      | (go_at_call 36; refine (HMO.out _).mono ?_; rintro e w2 ⟨rfl, rfl⟩))
    go_ret
    exact ⟨0, rfl, two_set (two_set (two_G F1.out) _ _) _ _, .inr ⟨rfl, k + 1, _, by omega, by have := HK.out; omega, HTP.out, H1.out.1, H1.out.2, P1.out.setTag _ _⟩⟩

def LenEnd (w : World) (g G : Nat) (b : List UInt8) (k : Nat) (va : Value) (t : Int) (vd : Value) (e : Ending) (w' : World) : Prop :=
  ∃ E : Int, e = .returned (.int .i64 E) ∧ Fr (Two G g) w w' ∧ E = (lenP (b.drop k)).1 ∧ (E = 0 → Ps w' g G b (k + lenH (b.drop k)) va t vd (lenP (b.drop k)).2.1)
set_option maxRecDepth 20000 in
theorem t_length {w : World} {g G : Nat} {b : List UInt8} {k : Nat} {va vd : Value} {t : Int} {n : Nat} (h : Ps w g G b k va t vd n) :
    Calls Try.prog 24 #[.pointer (some ⟨g, 0, none⟩)] w (LenEnd w g G b k va t vd) := by
  obtain ⟨c0, c1, c2, c3, c4, cf⟩ := h.cells
  have H := Lib.hid h
  clear c0 c1 c2 c4 cf
  by_cases hk : k < b.length
  · have hx := num1 h.cur hk
    have hdr := drop_two b k hk
    obtain ⟨x, hxe⟩ : ∃ x : UInt8, b[k] = x := ⟨_, rfl⟩
    rw [hxe] at hx hdr
    have hw1 := i64_u8 x
    have HX := Lib.hid hx; have HDR := Lib.hid hdr
    clear hx hxe h hdr
    by_cases h1 : x.toNat < 128
    · have e1 : lenP (b.drop k) = (0, x.toNat, b.drop (k + 1)) := by rw [HDR.out, lenP_cons, if_pos h1]
      have e2 : lenH (b.drop k) = 1 := by rw [HDR.out, lenH_cons, if_pos h1]
      have h1I : decide ((x.toNat : Int) < 128) = true := decide_eq_true (by omega)
      have h2I : ((x.toNat : Int) == 129) = false := by rw [beq_eq_false_iff_ne]; omega
      have E1 := Lib.hid e1; have E2 := Lib.hid e2
      clear e1 e2 h1
      go_enter Try.func24, Try.ntmps24
      go_wp2_with (go_at_call 35; refine (HX.out).mono ?_; rintro e w1 ⟨rfl, hc1, hf1⟩; have P1 := Lib.hid (H.out.step hf1 hc1); have F1 := Lib.hid hf1; have e4 := P1.out.cells.2.2.2.2.1; have e5 := P1.out.cells.2.2.2.2.2 4; clear hf1 hc1)
      go_ret
      refine ⟨0, rfl, two_set (two_G F1.out) _ _, by rw [E1.out], fun _ => ?_⟩
      rw [E1.out, E2.out]
      exact P1.out.setN _
    by_cases h2 : x.toNat ≠ 129
    · have e1 : lenP (b.drop k) = (17, 0, []) := by rw [HDR.out, lenP_cons, if_neg h1, if_pos h2]
      have h1I : decide ((x.toNat : Int) < 128) = false := decide_eq_false (by omega)
      have h2I : ((x.toNat : Int) == 129) = false := by rw [beq_eq_false_iff_ne]; omega
      have E1 := Lib.hid e1
      clear e1 h1 h2
      go_enter Try.func24, Try.ntmps24
      go_wp2_with (go_at_call 35; refine (HX.out).mono ?_; rintro e w1 ⟨rfl, hc1, hf1⟩; have F1 := Lib.hid hf1; clear hf1 hc1)
      go_ret
      exact ⟨17, rfl, two_G F1.out, by rw [E1.out], fun e => by cases e⟩
    have h1I : ¬ (x.toNat : Int) < 128 := by omega
    have h2I : ((x.toNat : Int) == 129) = true := by rw [beq_iff_eq]; omega
    have tok1 := True.intro
    by_cases hk2 : b.length ≤ k + 1
    · have e1 : lenP (b.drop k) = (3, 0, []) := by rw [HDR.out, lenP_cons, if_neg h1, if_neg h2, List.drop_eq_nil_of_le hk2]
      have HZ := Lib.hid (fun u (hu : Cur u g G b (k + 1)) => num0 hu hk2)
      have E1 := Lib.hid e1
      clear e1 h1 h2 hk2
      go_enter Try.func24, Try.ntmps24
      go_wp2_with (first
        | (go_at_call 35; clear tok1; refine (HX.out).mono ?_; rintro e w1 ⟨rfl, hc1, hf1⟩; have tok2 := True.intro; have P1 := Lib.hid (H.out.step hf1 hc1); have F1 := Lib.hid hf1; have d3 := P1.out.cells.2.2.2.1; clear hf1 hc1)
        | (go_at_call 35; clear tok2; refine (HZ.out _ P1.out.cur).mono ?_; rintro e w2 ⟨rfl, hd2⟩; have F2 := Lib.hid (F1.out.dr hd2); clear hd2))
      go_ret
      exact ⟨3, rfl, two_G F2.out, by rw [E1.out], fun e => by cases e⟩
    have hk3 : k + 1 < b.length := by omega
    have hz := fun u (hu : Cur u g G b (k + 1)) => num1 hu hk3
    have hdr2 := drop_two b (k + 1) hk3
    obtain ⟨y, hye⟩ : ∃ y : UInt8, b[k + 1] = y := ⟨_, rfl⟩
    rw [hye] at hz hdr2
    have hw2 := i64_u8 y
    have HZ := Lib.hid hz
    by_cases h3 : y.toNat < 128
    · have e1 : lenP (b.drop k) = (17, 0, []) := by rw [HDR.out, lenP_cons, if_neg h1, if_neg h2, hdr2]; simp only; rw [if_pos h3]
      have h3I : decide (128 ≤ (y.toNat : Int)) = false := decide_eq_false (by omega)
      have E1 := Lib.hid e1
      clear e1 h1 h2 hk2 hk3 hz hdr2 hye h3
      go_enter Try.func24, Try.ntmps24
      go_wp2_with (first
        | (go_at_call 35; clear tok1; refine (HX.out).mono ?_; rintro e w1 ⟨rfl, hc1, hf1⟩; have tok2 := True.intro; have P1 := Lib.hid (H.out.step hf1 hc1); have F1 := Lib.hid hf1; have d3 := P1.out.cells.2.2.2.1; clear hf1 hc1)
        | (go_at_call 35; clear tok2; refine (HZ.out _ P1.out.cur).mono ?_; rintro e w2 ⟨rfl, hc2, hf2⟩; have F2 := Lib.hid (F1.out.trans hf2); clear hc2 hf2))
      go_ret
      exact ⟨17, rfl, two_G F2.out, by rw [E1.out], fun e => by cases e⟩
    · have e1 : lenP (b.drop k) = (0, y.toNat, b.drop (k + 1 + 1)) := by rw [HDR.out, lenP_cons, if_neg h1, if_neg h2, hdr2]; simp only; rw [if_neg h3]
      have e2 : lenH (b.drop k) = 2 := by rw [HDR.out, lenH_cons, if_neg h1, if_neg h2, hdr2]; simp only; rw [if_neg h3]
      have h3I : decide (128 ≤ (y.toNat : Int)) = true := decide_eq_true (by omega)
      have E1 := Lib.hid e1; have E2 := Lib.hid e2
      clear e1 e2 h1 h2 hk2 hk3 hz hdr2 hye h3
      go_enter Try.func24, Try.ntmps24
      go_wp2_with (first
        | (go_at_call 35; clear tok1; refine (HX.out).mono ?_; rintro e w1 ⟨rfl, hc1, hf1⟩; have tok2 := True.intro; have P1 := Lib.hid (H.out.step hf1 hc1); have F1 := Lib.hid hf1; have d3 := P1.out.cells.2.2.2.1; clear hf1 hc1)
        | (go_at_call 35; clear tok2; refine (HZ.out _ P1.out.cur).mono ?_; rintro e w2 ⟨rfl, hc2, hf2⟩; have P2 := Lib.hid (P1.out.step hf2 hc2); have F2 := Lib.hid (F1.out.trans hf2); have e4 := P2.out.cells.2.2.2.2.1; have e5 := P2.out.cells.2.2.2.2.2 4; clear hc2 hf2))
      go_ret
      refine ⟨0, rfl, two_set (two_G F2.out) _ _, by rw [E1.out], fun _ => ?_⟩
      rw [E1.out, E2.out]
      exact P2.out.setN _
  · have hz := num0 h.cur (show b.length ≤ k by omega)
    have e1 : lenP (b.drop k) = (3, 0, []) := by rw [List.drop_eq_nil_of_le (by omega)]; rfl
    have HZ := Lib.hid hz; have E1 := Lib.hid e1
    clear h hz e1 hk
    go_enter Try.func24, Try.ntmps24
    go_wp2_with (go_at_call 35; refine (HZ.out).mono ?_; rintro e w1 ⟨rfl, hd⟩)
    go_ret
    exact ⟨3, rfl, hd.fr, by rw [E1.out], fun e => by cases e⟩
end Go.Proofs.Ytbfodbejdaafaaa
