/- Package tlv: the parser's data; steps, one behind the other. -/
import Derived.Test.YtbfodbejdaafaaaTlvP3
import Derived.LoopTactic
namespace Go.Proofs.Ytbfodbejdaafaaa
open Go.RowKit
set_option maxHeartbeats 1000000
set_option linter.unusedVariables false

theorem Ps.dr {w w' : World} {g G : Nat} {b : List UInt8} {k : Nat} {va vd : Value} {t : Int} {n : Nat} (h : Ps w g G b k va t vd n) (hf : Dr w w') : Ps w' g G b k va t vd n := h.no hf.fr
def DatEnd (w : World) (g G : Nat) (b : List UInt8) (k : Nat) (va : Value) (t : Int) (m : Nat) (e : Ending) (w' : World) : Prop :=
  ∃ E : Int, e = .returned (.int .i64 E) ∧ Fr (Two G g) w w' ∧ ((E = 3 ∧ b.length < k + m) ∨
    (E = 0 ∧ k + m ≤ b.length ∧ ∃ D c, Ps w' g G b (k + m) va t (.slice D m c) m ∧ Rd w' D m c (u8s ((b.drop k).take m)) ∧ ∀ ad, D = some ad → w.heap.size ≤ ad.block ∧ ad.block < w'.heap.size))
theorem dat_end {w w4 w5 : World} {g G : Nat} {b : List UInt8} {k : Nat} {va vd : Value} {t : Int} {m dc : Nat} {D : Option Addr} (h4 : Ps w4 g G b k va t vd m) (h5 : Ps w5 g G b (k + m) va t vd m) (hf : Fr (Two G g) w w5)
    (hr : Rd w5 D m dc (u8s ((b.drop k).take m))) (hb : ∀ ad, D = some ad → w4.heap.size ≤ ad.block ∧ ad.block < w5.heap.size) (hs : k + m ≤ b.length) (hz : w4.heap.size = w.heap.size := by rfl) :
    DatEnd w g G b k va t m (.returned (.int .i64 0)) (w5.setCell ⟨g, 2, none⟩ (.slice D m dc)) := by
  have hne : ∀ ad, D = some ad → ¬ Just g ad.block := fun ad e x => by
    have h1 := (hb ad e).1
    have h2 := h4.bk.lt
    have h3 : ad.block = g := x
    omega
  exact ⟨0, rfl, two_set hf _ _, .inr ⟨rfl, hs, D, dc, h5.setD _, hr.fr ((Fr.refl (Just g) w5).setCell (.inl (Just.at g)) _) hne, fun ad e => ⟨by have := (hb ad e).1; omega, by simpa using (hb ad e).2⟩⟩⟩
theorem t_data {w : World} {g G : Nat} {b : List UInt8} {k : Nat} {va vd : Value} {t : Int} {m : Nat} (h : Ps w g G b k va t vd m) (hb : b.length ≤ 140737488355328) :
    Calls Try.prog 25 #[.pointer (some ⟨g, 0, none⟩)] w (DatEnd w g G b k va t m) := by
  have H := Lib.hid h
  have hle := h.cur.le.1
  clear h
  have P4 := Lib.hid (H.out.dr (Dr.refl w).drew)
  have c3 := H.out.cells.2.2.2.1
  have c4 := H.out.cells.2.2.2.2.1
  by_cases hs : k + m ≤ b.length
  · have HT := Lib.hid (take_ok G m b k w.drew P4.out.cur hs hb)
    go_enter Try.func25, Try.ntmps25
    go_wp2
    go_region_with (go_at_call 40; refine (HT.out).mono ?_; rintro e w5 ⟨v, rfl, ho5, hc5, hf5⟩; obtain ⟨D, dc, rfl, hr5, hb5⟩ := Rd.of_own ho5; have P5 := Lib.hid (P4.out.step hf5 hc5); have F5 := Lib.hid ((Dr.fr (S := Two G g) (Dr.refl w).drew).trans (two_G hf5)); have d2 := P5.out.cells.2.2.1; have z2 := P5.out.cells.2.2.2.2.2 2; have R5 := Lib.hid hr5; have B5 := Lib.hid hb5; clear ho5 hc5 hf5 hr5 hb5)
    all_goals
      go_wp2_with fail
      go_ret
      exact dat_end P4.out P5.out F5.out R5.out B5.out hs
  · have hs2 : (b.length : Int) - (k : Int) < (m : Int) := by omega
    have HT := Lib.hid (take_short G (m : Int) b k w.drew P4.out.cur (Int.natCast_nonneg _) hs2)
    have HS := Lib.hid hs
    clear hs hs2
    go_enter Try.func25, Try.ntmps25
    go_wp2
    go_region_with (go_at_call 40; refine (HT.out).mono ?_; rintro e w5 ⟨rfl, hd5⟩; have P5 := Lib.hid (P4.out.dr hd5); have F5 := Lib.hid ((Dr.fr (S := Two G g) (Dr.refl w).drew).dr hd5); have d2 := P5.out.cells.2.2.1; have z2 := P5.out.cells.2.2.2.2.2 2; clear hd5)
    all_goals
      go_wp2_with fail
      go_ret
      exact ⟨3, rfl, two_set F5.out _ _, .inl ⟨rfl, by have := HS.out; omega⟩⟩

/-- what a step must answer -/
def StepTo (R : World → Prop) (Q : Int → World → Prop) (e : Ending) (w' : World) : Prop := ∃ E : Int, e = .returned (.int .i64 E) ∧ ((E = 0 ∧ R w') ∨ (E ≠ 0 ∧ Q E w'))
/-- steps, one behind the other: of what R says each hands on what the next one wants -/
theorem t_walk (A : Option Addr) (n c : Nat) (fs : List Value) (w : World) (R : Nat → World → Prop) (Q : Int → World → Prop) (hlen : fs.length = n) (hcn : n ≤ c) (hn : n ≤ 1000) (hA : A = none → n = 0) (h0 : R 0 w) (hR : ∀ k u, R k u → ∀ ad, A = some ad → ∀ j v, fs[j]? = some v → u.cell? (ad.add j) = some v)
    (hs : ∀ k, k < n → ∃ F x, fs[k]? = some (.func (.func F) #[x] #[]) ∧ (∀ args w, (callFunc F args).run Try.prog w = .ok (.enter F args) w) ∧ ∀ u, R k u → Calls Try.prog F #[x] u (StepTo (R (k + 1)) Q)) :
    Calls Try.prog 20 #[.slice A n c] w (StepTo (R n) Q) := by
  have HR := Lib.hid hR; have HS := Lib.hid hs; have H0 := Lib.hid h0
  clear hR hs h0
  go_enter Try.func20, Try.ntmps20
  go_wp2
  go_loopw [8] (fun v wr => ∃ k : Nat, k ≤ n ∧ v = .int .i64 (k : Int) ∧ R k wr) (fun v _ => n - (intOf v).toNat)
  case atStart => exact ⟨0, by omega, rfl, H0.out⟩
  case round =>
    obtain ⟨k, hk, rfl, hr⟩ := hrel
    have HRK := Lib.hid hr
    clear hr
    rcases Nat.lt_or_ge k n with hkn | hge
    · obtain ⟨F, x, hf, hen, hcall⟩ := HS.out k hkn
      cases A with
      | none => have := hA rfl; omega
      | some ad =>
        have hc := HR.out k wr HRK.out ad rfl k _ hf
        have hkI : (k : Int) < (n : Int) := by omega
        have HC := Lib.hid (hcall wr HRK.out)
        clear hcall hf
        go_upto_region 5 with (refine (HC.out).mono ?_; rintro e w1 ⟨E, rfl, hE⟩; have HE := Lib.hid hE; clear hE)
        by_cases hE : E = 0
        · subst hE
          have hr2 : R (k + 1) w1 := by
            rcases HE.out with ⟨_, h⟩ | ⟨h, _⟩
            · exact h
            · exact absurd rfl h
          have HR2 := Lib.hid hr2
          clear hr2 hen hc
          go_wp2_with fail
          go_roundw
          case rel => exact ⟨k + 1, by omega, by go_num, HR2.out⟩
          case measure => simp [intOf]; omega
        · have hEb := int_ne0 hE
          have HNE := Lib.hid hE
          clear hE hen hc
          go_wp2_with fail
          go_ret
          refine ⟨E, rfl, .inr ⟨HNE.out, ?_⟩⟩
          rcases HE.out with ⟨h, _⟩ | ⟨_, h⟩
          · exact absurd h HNE.out
          · exact h
    · obtain rfl : k = n := by omega
      go_wp2
      go_ret
      exact ⟨0, rfl, .inl ⟨rfl, HRK.out⟩⟩
end Go.Proofs.Ytbfodbejdaafaaa
