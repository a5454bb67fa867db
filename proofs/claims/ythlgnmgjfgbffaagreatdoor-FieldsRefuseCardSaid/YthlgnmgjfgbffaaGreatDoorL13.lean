/- The texts Steps, joined. -/
import Derived.Test.YthlgnmgjfgbffaaGreatDoorL01
import Derived.LoopTactic
import Derived.Deep.CutRange
/- Package steps: steps, one behind the other. -/
namespace Go.Proofs.YthlgnmgjfgbffaaGreatDoor
open Go.RowKit
set_option maxHeartbeats 1000000
set_option linter.unusedVariables false
set_option maxRecDepth 20000

theorem st_ne0 {x : Int} (h : x ≠ 0) : (x != 0) = true := by rw [bne_iff_ne]; exact h
/-- what a step must answer -/
def SWTo (R : World → Prop) (Q : Int → World → Prop) (e : Ending) (w' : World) : Prop := ∃ E : Int, e = .returned (.int .i64 E) ∧ ((E = 0 ∧ R w') ∨ (E ≠ 0 ∧ Q E w'))
/-- steps, one behind the other: of what R says each hands on what the next one wants -/
theorem t_walk (A : Option Addr) (n c : Nat) (fs : List Value) (w : World) (R : Nat → World → Prop) (Q : Int → World → Prop) (hlen : fs.length = n) (hcn : n ≤ c) (hn : n ≤ 1000) (hA : A = none → n = 0) (h0 : R 0 w) (hR : ∀ k u, R k u → ∀ ad, A = some ad → ∀ j v, fs[j]? = some v → u.cell? (ad.add j) = some v)
    (hs : ∀ k, k < n → ∃ F x, fs[k]? = some (.func (.func F) #[x] #[]) ∧ (∀ args w, (callFunc F args).run Tryz.prog w = .ok (.enter F args) w) ∧ ∀ u, R k u → Calls Tryz.prog F #[x] u (SWTo (R (k + 1)) Q)) :
    Calls Tryz.prog 16 #[.slice A n c] w (SWTo (R n) Q) := by
  have HR := Lib.hid hR; have HS := Lib.hid hs; have H0 := Lib.hid h0
  clear hR hs h0
  go_enter Tryz.func16, Tryz.ntmps16
  go_wp2
  go_loopw [8] (fun v wr => ∃ k : Nat, k ≤ n ∧ v = .int .i64 (k : Int) ∧ R k wr) (fun v _ => n - (intOf v).toNat)
  case atStart => exact ⟨0, by omega, rfl, H0.out⟩
  case round =>
    obtain ⟨k, hk, rfl, hr⟩ := hrel
    have HRK := Lib.hid hr
    clear hr
    rcases Nat.lt_or_ge k n with hkn | hge
    · obtain ⟨F, x, hf, hen, hcall⟩ := HS.out k hkn
      cases A with
      | none => have := hA rfl; omega
      | some ad =>
        have hc := HR.out k wr HRK.out ad rfl k _ hf
        have hkI : (k : Int) < (n : Int) := by omega
        have HC := Lib.hid (hcall wr HRK.out)
        clear hcall hf
        go_upto_region 5 with ((with_reducible refine (HC.out).mono ?_); rintro e w1 ⟨E, rfl, hE⟩; have HE := Lib.hid hE; clear hE)
        by_cases hE : E = 0
        · subst hE
          have hr2 : R (k + 1) w1 := by
            rcases HE.out with ⟨_, h⟩ | ⟨h, _⟩
            · exact h
            · exact absurd rfl h
          have HR2 := Lib.hid hr2
          clear hr2 hen hc
          go_wp2_with fail
          go_roundw
          case rel => exact ⟨k + 1, by omega, by go_num, HR2.out⟩
          case measure => simp [intOf]; omega
        · have hEb := st_ne0 hE
          have HNE := Lib.hid hE
          clear hE hen hc
          go_wp2_with fail
          go_ret
          refine ⟨E, rfl, .inr ⟨HNE.out, ?_⟩⟩
          rcases HE.out with ⟨h, _⟩ | ⟨_, h⟩
          · exact absurd h HNE.out
          · exact h
    · obtain rfl : k = n := by omega
      go_wp2
      go_ret
      exact ⟨0, rfl, .inl ⟨rfl, HRK.out⟩⟩
theorem unless_any (b : Bool) (e : Int) (w : World) : Calls Tryz.prog 49 #[.bool b, .int .i64 e] w fun x w' => x = .returned (.int .i64 (if b = true then 0 else e)) ∧ w = w' := by
  cases b with
  | true =>
    rw [if_pos rfl]
    go_enter Tryz.func49, Tryz.ntmps49
    go_wp2
    go_ret
    exact ⟨rfl, rfl⟩
  | false =>
    rw [if_neg (by decide)]
    go_enter Tryz.func49, Tryz.ntmps49
    go_wp2
    go_ret
    exact ⟨rfl, rfl⟩
end Go.Proofs.YthlgnmgjfgbffaaGreatDoor
