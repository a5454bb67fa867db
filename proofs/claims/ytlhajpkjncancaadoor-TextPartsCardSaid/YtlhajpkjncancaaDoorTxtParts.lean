/- TextParts, TextPlain, TextBytes: the walks, for every texts, numbers, bytes. -/
import Derived.Test.YtlhajpkjncancaaDoorTxtAwake
import Derived.Test.YtlhajpkjncancaaDoorTxtMath2
import Derived.Test.YtlhajpkjncancaaDoorHelp0
namespace Go.Proofs.YtlhajpkjncancaaDoor
open Go.RowKit
set_option maxHeartbeats 1000000
set_option linter.unusedVariables false

theorem ba_app (a b : ByteArray) : (a ++ b).data.toList = a.data.toList ++ b.data.toList := by
  rw [ByteArray.data_append]
  simp
theorem ba_len (a : ByteArray) : a.data.toList.length = a.size := by simp
theorem runes_le (l : List UInt8) : runesN l ≤ l.length := by
  unfold runesN
  cases h : cnt l with
  | none => simp
  | some n => have := cnt_le _ l (Nat.le_refl _) n h; simpa using this

set_option maxRecDepth 100000 in
theorem parts_walk {s r : ByteArray} {c : UInt8} (w : World) (hT : Tabs w) (hs : s.size ≤ maxLen) (hr : r.size ≤ maxLen) :
    Calls Tryd.prog 5 #[.string s, .string r, .int .u8 (c.toNat : Int)] w fun e w' => e = .returned (.bool true) ∧ Fr No w w' := by
  rcases Nat.lt_or_ge 300 s.size with hn | hn
  · go_enter Tryd.func5, Tryd.ntmps5
    go_wp2_with (go_at_call 8; refine (awake_any _).mono ?_; rintro e w1 ⟨rfl, hf⟩)
    go_ret
    exact ⟨rfl, hf⟩
  rcases Nat.lt_or_ge 300 r.size with hm | hm
  · go_enter Tryd.func5, Tryd.ntmps5
    go_wp2_with (go_at_call 8; refine (awake_any _).mono ?_; rintro e w1 ⟨rfl, hf⟩)
    go_ret
    exact ⟨rfl, hf⟩
  have hs6 : s.size ≤ 65536 := by omega
  have hr6 : r.size ≤ 65536 := by omega
  have tok1 : True := trivial
  have tok2 : True := trivial
  have tok3 : True := trivial
  have tok4 : True := trivial
  obtain ⟨d, hd⟩ : ∃ d : UInt8, 128 + (c.toNat : Int) % 128 = (d.toNat : Int) := ⟨UInt8.ofNat (128 + c.toNat % 128), by rw [UInt8.toNat_ofNat']; omega⟩
  have hd128 : 128 ≤ d.toNat := by omega
  have hstr := fun u : World => run_string (P := Tryd.prog) (Rd.one (w := u) (b := d) rfl 5) 30 5 Tryd.underlying30 Tryd.underlying5 9 Tryd.underlying9
  have hBd : (bstr [d]).data.toList = [d] := rfl
  generalize bstr [d] = B at hstr hBd
  obtain ⟨S1, hS1⟩ : ∃ S1, s ++ r = S1 := ⟨_, rfl⟩
  obtain ⟨S2, hS2⟩ : ∃ S2, s ++ B = S2 := ⟨_, rfl⟩
  obtain ⟨S3, hS3⟩ : ∃ S3, S2 ++ ({ data := #[120] } : ByteArray) = S3 := ⟨_, rfl⟩
  obtain ⟨S4, hS4⟩ : ∃ S4, S3 ++ r = S4 := ⟨_, rfl⟩
  have l1 : S1.data.toList = s.data.toList ++ r.data.toList := by rw [← hS1, ba_app]
  have l4 : S4.data.toList = s.data.toList ++ (d :: 120 :: r.data.toList) := by
    rw [← hS4, ba_app, ← hS3, ba_app, ← hS2, ba_app, hBd]
    simp
  have z1 : S1.size ≤ 65536 := by
    have h := ba_len S1
    rw [l1, List.length_append, ba_len, ba_len] at h
    omega
  have z4 : S4.size ≤ 65536 := by
    have h := ba_len S4
    rw [l4, List.length_append, List.length_cons, List.length_cons, ba_len, ba_len] at h
    omega
  have zB : B.size ≤ 1 := by
    have h := ba_len B
    rw [hBd] at h
    simp at h
    omega
  have zS2 : S2.size ≤ 301 := by
    have h := ba_len S2
    rw [← hS2, ba_app, List.length_append, ba_len, ba_len] at h
    rw [← hS2]
    omega
  have zS3 : S3.size ≤ 302 := by
    have h := ba_len S3
    rw [← hS3, ba_app, List.length_append, ba_len] at h
    have h1 : ({ data := #[120] } : ByteArray).data.toList.length = 1 := rfl
    rw [h1] at h
    rw [← hS3]
    omega
  obtain ⟨n1, hn1⟩ : ∃ n1, runesN s.data.toList = n1 := ⟨_, rfl⟩
  obtain ⟨n2, hn2⟩ : ∃ n2, runesN r.data.toList = n2 := ⟨_, rfl⟩
  have b1 : (n1 : Int) ≤ 300 := by have := runes_le s.data.toList; rw [hn1, ba_len] at this; omega
  have b2 : (n2 : Int) ≤ 300 := by have := runes_le r.data.toList; rw [hn2, ba_len] at this; omega
  have HS6 := Lib.hid hs6; have HR6 := Lib.hid hr6; have Z1 := Lib.hid z1; have Z4 := Lib.hid z4; have HN1 := Lib.hid hn1; have HN2 := Lib.hid hn2
  have HBD := Lib.hid hBd; have HD := Lib.hid hd128
  cases h1 : utf8B s.data.toList with
  | true =>
    cases h2 : utf8B r.data.toList with
    | true =>
      obtain ⟨a1, a2⟩ := runes_app h1 h2
      have a3 : utf8B (s.data.toList ++ (d :: 120 :: r.data.toList)) = false := by
        obtain ⟨x, hx⟩ := Option.isSome_iff_exists.1 h1
        unfold utf8B
        rw [cnt_bad hx d _ hd128]
        rfl
      rw [← l1] at a1 a2
      rw [← l4] at a3
      rw [hn1, hn2] at a2
      have H1 := Lib.hid h1; have H2 := Lib.hid h2; have A1 := Lib.hid a1; have A2 := Lib.hid a2; have A3 := Lib.hid a3
      have tok5 : True := trivial
      clear h1 h2 hs6 hr6 hs hr a1 a2 a3 l1 l4 z1 z4 hn1 hn2 hBd hd128
      go_enter Tryd.func5, Tryd.ntmps5
      go_wp2_with (first
        | (go_at_call 8; refine (awake_any _).mono ?_; rintro e w0 ⟨rfl, hf0⟩)
        | (go_at_call 9; clear tok1; refine (text_utf8_any s _ HS6.out).mono ?_; rw [H1.out]; rintro e w1 ⟨rfl, hf1⟩)
        | (go_at_call 9; clear tok2; refine (text_utf8_any r _ HR6.out).mono ?_; rw [H2.out]; rintro e w2 ⟨rfl, hf2⟩)
        | (go_at_call 11; clear tok3; refine (text_runes_any s _ HS6.out).mono ?_; rw [HN1.out]; rintro e w3 ⟨rfl, hf3⟩)
        | (go_at_call 11; clear tok4; refine (text_runes_any r _ HR6.out).mono ?_; rw [HN2.out]; rintro e w4 ⟨rfl, hf4⟩)
        | (go_at_call 9; clear tok5; refine (text_utf8_any S1 _ Z1.out).mono ?_; rw [A1.out]; rintro e w5 ⟨rfl, hf5⟩)
        | (go_at_call 11; refine (text_runes_any S1 _ Z1.out).mono ?_; rw [A2.out]; rintro e w6 ⟨rfl, hf6⟩)
        | (go_at_call 9; refine (text_utf8_any S4 _ Z4.out).mono ?_; rw [A3.out]; rintro e w7 ⟨rfl, hf7⟩))
      go_ret
      exact ⟨rfl, (((((((hf1.trans hf2).alloc _).trans hf3).trans hf4).trans hf0).trans hf5).trans hf6).trans hf7⟩
    | false =>
      have H1 := Lib.hid h1; have H2 := Lib.hid h2
      clear h1 h2 hs6 hr6 hs hr l1 l4 z1 z4 hn1 hn2 hBd hd128
      go_enter Tryd.func5, Tryd.ntmps5
      go_wp2_with (first
        | (go_at_call 8; refine (awake_any _).mono ?_; rintro e w0 ⟨rfl, hf0⟩)
        | (go_at_call 9; clear tok1; refine (text_utf8_any s _ HS6.out).mono ?_; rw [H1.out]; rintro e w1 ⟨rfl, hf1⟩)
        | (go_at_call 9; clear tok2; refine (text_utf8_any r _ HR6.out).mono ?_; rw [H2.out]; rintro e w2 ⟨rfl, hf2⟩)
        | (go_at_call 11; clear tok3; refine (text_runes_any s _ HS6.out).mono ?_; rw [HN1.out]; rintro e w3 ⟨rfl, hf3⟩)
        | (go_at_call 11; clear tok4; refine (text_runes_any r _ HR6.out).mono ?_; rw [HN2.out]; rintro e w4 ⟨rfl, hf4⟩))
      go_ret
      exact ⟨rfl, ((((hf1.trans hf2).alloc _).trans hf3).trans hf4).trans hf0⟩
  | false =>
    have H1 := Lib.hid h1
    clear h1 hs6 hr6 hs hr l1 l4 z1 z4 hn1 hn2 hBd hd128
    go_enter Tryd.func5, Tryd.ntmps5
    go_wp2_with (first
      | (go_at_call 8; refine (awake_any _).mono ?_; rintro e w0 ⟨rfl, hf0⟩)
      | (go_at_call 9; clear tok1; refine (text_utf8_any s _ HS6.out).mono ?_; rw [H1.out]; rintro e w1 ⟨rfl, hf1⟩)
      | (go_at_call 11; clear tok3; refine (text_runes_any s _ HS6.out).mono ?_; rw [HN1.out]; rintro e w3 ⟨rfl, hf3⟩)
      | (go_at_call 11; clear tok4; refine (text_runes_any r _ HR6.out).mono ?_; rw [HN2.out]; rintro e w4 ⟨rfl, hf4⟩))
    go_ret
    exact ⟨rfl, (((hf1.alloc _).trans hf3).trans hf4).trans hf0⟩
end Go.Proofs.YtlhajpkjncancaaDoor
