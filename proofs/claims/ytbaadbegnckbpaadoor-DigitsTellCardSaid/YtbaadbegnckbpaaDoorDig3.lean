/- What package digits tells of bytes: two signs each, and so many digits: contracts of its calls. -/
import Derived.Test.YtbaadbegnckbpaaDoorDig2
import Derived.Deep.RegionLaw
namespace Go.Proofs.YtbaadbegnckbpaaDoor
open Go.RowKit
set_option maxHeartbeats 400000
set_option linter.unusedVariables false

abbrev signs16 : ByteArray := { data := #[48, 49, 50, 51, 52, 53, 54, 55, 56, 57, 65, 66, 67, 68, 69, 70] }
theorem sign_nat (i : Nat) (h : i < signs16.size) : signs16[i] = sg (UInt8.ofNat i) := by
  have h16 : i < 16 := h
  obtain rfl | rfl | rfl | rfl | rfl | rfl | rfl | rfl | rfl | rfl | rfl | rfl | rfl | rfl | rfl | rfl : i = 0 ∨ i = 1 ∨ i = 2 ∨ i = 3 ∨ i = 4 ∨ i = 5 ∨ i = 6 ∨ i = 7 ∨ i = 8 ∨ i = 9 ∨ i = 10 ∨ i = 11 ∨ i = 12 ∨ i = 13 ∨ i = 14 ∨ i = 15 := by omega
  all_goals rfl
theorem sign_at {i : Int} {x : UInt8} (hx : i = (x.toNat : Int)) (h : i.toNat < signs16.size) : signs16[i.toNat] = sg x := by
  subst hx
  rw [sign_nat]
  simp
theorem Rd.two {w : World} {i j x y : UInt8} (hi : i = x) (hj : j = y) (t : TypeId) : Rd ((w.alloc (.cells #[.int .u8 (i.toNat : Int), .int .u8 (j.toNat : Int)] t)).drew) (some ⟨w.heap.size, 0, none⟩) 2 2 (u8s [x, y]) := by
  subst hi hj
  exact (Rd.lit w (u8s [i, j]) t 2 rfl (by simp [maxLen])).dr (Dr.refl _).drew
theorem hi_lt (x : UInt8) : (x >>> 4).toNat < 16 := by
  have := byte_all (fun x => decide ((x >>> 4).toNat < 16)) (by decide +kernel) x
  simpa using this
theorem lo_lt (x : UInt8) : (x &&& 15).toNat < 16 := by
  have := byte_all (fun x => decide ((x &&& 15).toNat < 16)) (by decide +kernel) x
  simpa using this

theorem hexL_snoc (l : List UInt8) (k : Nat) (h : k < l.length) : hexL (l.take (k + 1)) = hexL (l.take k) ++ [sg (l[k] >>> 4), sg (l[k] &&& 15)] := by
  rw [List.take_succ_eq_append_getElem h, hexL_append]
  rfl

theorem hex_all (A : Option Addr) (n c : Nat) (l : List UInt8) (w : World) (ha : Rd w A n c (u8s l)) (hn : n ≤ 65536) :
    Calls Tryd.prog 20 #[.slice A n c] w fun e w' => e = .returned (.string (bstr (hexL l))) ∧ Fr No w w' := by
  have hl : l.length = n := by simpa using ha.len
  have hmk : ∀ (u : World), True := fun _ => trivial
  go_enter Tryd.func20, Tryd.ntmps20
  go_wp2_with (at_make; go_must (refine mk8 w rfl (.const (.int .i64 0)) (.tmp 8) rfl .i64 .i64 _ _ 0 (2 * n) rfl rfl rfl (by omega) (by omega) (by omega) ?_); intro w1 hb1 hf1 hs1)
  have ho1 := hb1.own (base := w.heap.size) (n := 0) (cap := 2 * n) (Nat.le_refl _) (Nat.zero_le _) (by simp only [maxLen]; omega) (by simp)
  clear hb1 hs1
  go_loopw [3, 12] (fun v i wr => ∃ k : Nat, k ≤ n ∧ i = .int .i64 (k : Int) ∧ wr.ownsRow w.heap.size 5 1 v (2 * k) (u8s (hexL (l.take k))) ∧ Fr No w wr) (fun _ i _ => n - (intOf i).toNat)
  case atStart => exact ⟨0, Nat.zero_le _, rfl, by simpa [hexL, u8s] using ho1, hf1⟩
  case round =>
    obtain ⟨k, hk, rfl, ho, hf⟩ := hrel
    rcases Nat.lt_or_ge k n with hlt | hge
    · obtain ⟨ad, u, rfl, hu, hc⟩ := (ha.no hf).at_ hlt
      rw [u8s_get l k (by omega)] at hu
      injection hu with hu
      subst hu
      go_wp2
      have e1 := shr4_u8 l[k]
      have e2 : bits BinOp.and IntKind.u8 (l[k].toNat : Int) 15 = ((l[k] &&& 15).toNat : Int) := and_u8 l[k] 15
      have b1 : (0 : Int) ≤ (l[k].toNat : Int) / 16 := by omega
      have b2 : (l[k].toNat : Int) / 16 < 16 := by have := l[k].toNat_lt; omega
      have b3 : (0 : Int) ≤ bits BinOp.and IntKind.u8 (l[k].toNat : Int) 15 := by rw [e2]; omega
      have b4 : bits BinOp.and IntKind.u8 (l[k].toNat : Int) 15 < 16 := by rw [e2]; have := lo_lt l[k]; omega
      have E1 := Lib.hid e1
      have E2 := Lib.hid e2
      clear e1 e2
      go_region_law (refine step8 rfl (.tmp 16) (.tmp 23) rfl w.heap.size u3 (2 * k) (hexL (l.take k)) (by rfl) ((ho.alloc _).drew) (some ⟨wr.heap.size, 0, none⟩) 2 2 [sg (l[k] >>> 4), sg (l[k] &&& 15)] (by rfl) (Rd.two (sign_at E1.out _) (sign_at E2.out _) _) (by omega) (by simp; have := hf.size; omega) ?_; intro v2 w2 ho2 hg2 hr2)
      all_goals
        have hx := hexL_snoc l k (by omega)
        have HX := Lib.hid hx
        clear hx
        go_wp2
        go_roundw
        case rel => exact ⟨k + 1, by omega, by go_num, by rw [HX.out]; exact ho2, ((hf.alloc _).drew).grown hg2 (fun g e => .inr (ho.lt g e).1)⟩
        case measure => simp [intOf]; omega
    · obtain rfl : k = n := by omega
      rw [List.take_of_length_le (by omega)] at ho
      obtain ⟨B, d, rfl, hrd, _⟩ := Rd.of_own ho
      have hst := run_string (P := Tryd.prog) hrd 23 5 Tryd.underlying23 Tryd.underlying5 9 Tryd.underlying9
      go_wp2
      go_ret
      exact ⟨rfl, hf⟩

/-- what UnBcd answers -/
def unbcdE (b : List UInt8) (n : Int) : Int :=
  if n < 0 ∨ (n ≠ 2 * (b.length : Int) ∧ n ≠ 2 * (b.length : Int) - 1) then 1
  else if allB (hexL b) isD = false ∨ (n < 2 * (b.length : Int) ∧ (hexL b)[0]? ≠ some 48) then 5 else 0
def unbcdR (b : List UInt8) (n : Int) : List UInt8 := if unbcdE b n = 0 then (hexL b).drop (2 * (b.length : Int) - n).toNat else []
theorem bstr_data (l : List UInt8) : (bstr l).data.toList = l := by simp [bstr]
theorem bstr_of (s : ByteArray) : bstr s.data.toList = s := by
  cases s
  rfl
theorem bstr_cut (s : ByteArray) (k : Nat) : s.extract k s.size = bstr (s.data.toList.drop k) := by
  apply ByteArray.ext
  rw [ByteArray.data_extract]
  show s.data.extract k s.data.size = (s.data.toList.drop k).toArray
  apply Array.ext'
  simp
  rw [List.take_of_length_le (by simp)]
theorem head_bytes (s : ByteArray) (h : 0 < s.size) : s.data.toList[0]? = some s[0] := List.getElem?_eq_getElem (by simpa using h)

theorem unbcd_any (A : Option Addr) (m c : Nat) (l : List UInt8) (n : Int) (w : World) (ha : Rd w A m c (u8s l)) (hm : m ≤ 65536) :
    Calls Tryd.prog 13 #[.slice A m c, .int .i64 n] w fun e w' => e = .returned (.tuple #[.string (bstr (unbcdR l n)), .int .i64 (unbcdE l n)]) ∧ Fr No w w' := by
  have hl : l.length = m := by simpa using ha.len
  by_cases harg : n < 0 ∨ (n ≠ 2 * (m : Int) ∧ n ≠ 2 * (m : Int) - 1)
  · have e2 : unbcdE l n = 1 := by unfold unbcdE; rw [hl, if_pos harg]
    have e1 : unbcdR l n = [] := by unfold unbcdR; rw [e2]; rfl
    rw [e1, e2]
    clear e1 e2 hl
    rcases harg with h | ⟨h1, h2⟩
    · go_enter Tryd.func13, Tryd.ntmps13
      go_wp2
      go_ret2
      exact ⟨rfl, Fr.refl _ _⟩
    · by_cases h0 : n < 0
      · go_enter Tryd.func13, Tryd.ntmps13
        go_wp2
        go_ret2
        exact ⟨rfl, Fr.refl _ _⟩
      · have q1 : (n == 2 * (m : Int)) = false := by simpa using h1
        have q2 : (n == 2 * (m : Int) - 1) = false := by simpa using h2
        have q3 : (n != 2 * (m : Int)) = true := by simpa using h1
        have q4 : (n != 2 * (m : Int) - 1) = true := by simpa using h2
        go_enter Tryd.func13, Tryd.ntmps13
        go_wp2
        go_ret2
        exact ⟨rfl, Fr.refl _ _⟩
  · have hsz : (bstr (hexL l)).size = 2 * m := by rw [bstr_size, hexL_length, hl]
    have hdt := bstr_data (hexL l)
    have hun : unbcdE l n = if allB (hexL l) isD = false ∨ (n < 2 * (m : Int) ∧ (hexL l)[0]? ≠ some 48) then 5 else 0 := by unfold unbcdE; rw [hl, if_neg harg]
    have hur : unbcdR l n = if unbcdE l n = 0 then (hexL l).drop (2 * (m : Int) - n).toNat else [] := by unfold unbcdR; rw [hl]
    have hhex := fun w ha => hex_all A m c l w ha hm
    have hmax : (bstr (hexL l)).size ≤ maxLen := by rw [hsz]; simp only [maxLen]; omega
    generalize bstr (hexL l) = s at hsz hdt hhex hmax
    rw [← hdt] at hun hur
    generalize unbcdE l n = E at hun hur ⊢
    generalize unbcdR l n = R at hur ⊢
    have HH := Lib.hid hhex
    clear hhex hdt
    have hn2 : n = 2 * (m : Int) ∨ (n = 2 * (m : Int) - 1 ∧ 1 ≤ m) := by omega
    rcases hn2 with rfl | ⟨rfl, hm1⟩
    · have hc0 : s.extract 0 s.size = bstr s.data.toList := bstr_cut s 0
      have HS := Lib.hid hsz
      have HC := Lib.hid hc0
      cases hd : allB s.data.toList isD with
      | false =>
        rw [if_pos (.inl hd)] at hun
        subst hun
        rw [if_neg (by decide)] at hur
        subst hur
        have HD := Lib.hid hd
        clear hd hc0 harg hsz
        go_enter Tryd.func13, Tryd.ntmps13
        go_wp2_with (first
          | (go_at_call 20; refine (HH.out _ ha).mono ?_; rintro e w1 ⟨rfl, hf⟩)
          | (go_at_call 27; refine (every_any _ _ tests_digit _ _ hmax).mono ?_; rw [HD.out]; rintro e w' ⟨rfl, rfl⟩))
        go_ret2
        exact ⟨rfl, hf⟩
      | true =>
        rw [hd, if_neg (by rintro (h | h); cases h; omega)] at hun
        subst hun
        rw [if_pos rfl, show (2 * (m : Int) - 2 * (m : Int)).toNat = 0 from by omega, List.drop_zero] at hur
        subst hur
        have HD := Lib.hid hd
        clear hd hc0 harg hsz
        go_enter Tryd.func13, Tryd.ntmps13
        go_wp2_with (first
          | (go_at_call 20; refine (HH.out _ ha).mono ?_; rintro e w1 ⟨rfl, hf⟩)
          | (go_at_call 27; refine (every_any _ _ tests_digit _ _ hmax).mono ?_; rw [HD.out]; rintro e w' ⟨rfl, rfl⟩))
        go_ret2
        exact ⟨by rw [bstr_of]; rfl, hf⟩
    · have h0 : 0 < s.size := by omega
      have hc0 : s.extract 1 s.size = bstr (s.data.toList.drop 1) := bstr_cut s 1
      have hhd := head_bytes s h0
      have hsi : (s.size : Int) = 2 * (m : Int) := by omega
      have hm1' : (1 : Int) ≤ (m : Int) := by omega
      have HS := Lib.hid hsz
      have HC := Lib.hid hc0
      cases hd : allB s.data.toList isD with
      | false =>
        rw [if_pos (.inl hd)] at hun
        subst hun
        rw [if_neg (by decide)] at hur
        subst hur
        have HD := Lib.hid hd
        clear hd hc0 harg hsz hhd hsi
        go_enter Tryd.func13, Tryd.ntmps13
        go_wp2_with (first
          | (go_at_call 20; refine (HH.out _ ha).mono ?_; rintro e w1 ⟨rfl, hf⟩)
          | (go_at_call 27; refine (every_any _ _ tests_digit _ _ hmax).mono ?_; rw [HD.out]; rintro e w' ⟨rfl, rfl⟩))
        go_ret2
        exact ⟨rfl, hf⟩
      | true =>
        rw [hd, hhd] at hun
        by_cases hz : s[0] = 48
        · rw [if_neg (by rintro (h | h); cases h; exact h.2 (by rw [hz]))] at hun
          subst hun
          rw [if_pos rfl, show (2 * (m : Int) - (2 * (m : Int) - 1)).toNat = 1 from by omega] at hur
          subst hur
          have HD := Lib.hid hd
          have hz2 : ((s[0].toNat : Int) == 48) = true := by rw [hz]; rfl
          have hz3 : ((s[0].toNat : Int) != 48) = false := by rw [hz]; rfl
          clear hd hc0 harg hsz hhd hsi hz
          go_enter Tryd.func13, Tryd.ntmps13
          go_wp2_with (first
            | (go_at_call 20; refine (HH.out _ ha).mono ?_; rintro e w1 ⟨rfl, hf⟩)
            | (go_at_call 27; refine (every_any _ _ tests_digit _ _ hmax).mono ?_; rw [HD.out]; rintro e w' ⟨rfl, rfl⟩))
          have hk : s.extract (2 * m - (2 * m - 1)) s.size = bstr (s.data.toList.drop 1) := by
            rw [show 2 * m - (2 * m - 1) = 1 from by omega]
            exact HC.out
          go_ret2
          exact ⟨by rw [← hk]; rfl, hf⟩
        · rw [if_pos (.inr ⟨by omega, fun h => hz (by simpa using h)⟩)] at hun
          subst hun
          rw [if_neg (by decide)] at hur
          subst hur
          have HD := Lib.hid hd
          have hz4 : ¬ s[0].toNat = 48 := fun h => hz (UInt8.toNat_inj.1 h)
          have hz2 : ((s[0].toNat : Int) == 48) = false := by simp; omega
          have hz3 : ((s[0].toNat : Int) != 48) = true := by simp; omega
          clear hd hc0 harg hsz hhd hsi hz hz4
          go_enter Tryd.func13, Tryd.ntmps13
          go_wp2_with (first
            | (go_at_call 20; refine (HH.out _ ha).mono ?_; rintro e w1 ⟨rfl, hf⟩)
            | (go_at_call 27; refine (every_any _ _ tests_digit _ _ hmax).mono ?_; rw [HD.out]; rintro e w' ⟨rfl, rfl⟩))
          go_ret2
          exact ⟨rfl, hf⟩
end Go.Proofs.YtbaadbegnckbpaaDoor
