/- The statements' own seals: bytes with their sum behind, and whether bytes are such: what they answer. -/
import Derived.Test.YtdilgcdmmofamaaRefCrc
namespace Go.Proofs.Ytdilgcdmmofamaa
open Go.RowKit
set_option maxHeartbeats 400000
set_option linter.unusedVariables false

/-- bytes with their sum behind -/
def sealL (l : List UInt8) : List UInt8 := l ++ low (crcL l) 4
/-- what Open answers -/
def openE (l : List UInt8) : Int := if l.length < 4 then 3 else if beN (l.drop (l.length - 4)) = crcL (l.take (l.length - 4)) then 0 else 8
def openR (l : List UInt8) : List UInt8 := if openE l = 0 then l.take (l.length - 4) else []
theorem ref_seal (A : Option Addr) (n c : Nat) (l : List UInt8) (w : World) (ha : Rd w A n c (u8s l)) (hn : n ≤ 65536) :
    Calls Try.prog 14 #[.slice A n c] w fun e w' => ∃ r, e = .returned r ∧ w'.ownsRow w.heap.size 5 1 r (n + 4) (u8s (sealL l)) ∧ Fr No w w' := by
  have h4 : held8 4 = 4 := by decide
  have H4 := Lib.hid h4
  have hc := crcL_lt l
  have hp := fun (w : World) (h : Rd w A n c (u8s l)) => ref_put_any A n c l (crcL l) 4 w h hn (by omega)
  have hcr := ref_crc A n c l w ha (by omega)
  unfold sealL
  generalize crcL l = V at *
  have HP := Lib.hid hp; have HCR := Lib.hid hcr
  clear h4 hp hcr
  go_enter Try.func14, Try.ntmps14
  go_wp2_with (first
    | (go_at_call 11; refine HCR.out.mono ?_; rintro e w' ⟨rfl, rfl⟩)
    | (go_at_call 22; refine (HP.out _ ha).mono ?_; rw [H4.out]; rintro e w1 ⟨r, rfl, ho, hf⟩))
  go_ret
  exact ⟨r, rfl, ho, hf⟩

theorem Rd.head' {w : World} {A : Option Addr} {n c : Nat} {l : List UInt8} (h : Rd w A n c (u8s l)) {m : Nat} (hm : m ≤ n) : Rd w A m c (u8s (l.take m)) := by
  have h1 := h.len
  rw [u8s_length] at h1
  refine ⟨by rw [u8s_length, List.length_take]; omega, Nat.le_trans hm h.cap, h.max, h.nil, fun ad e j u hu => h.cells ad e j u ?_⟩
  unfold u8s at hu ⊢
  rw [List.getElem?_map] at hu ⊢
  rw [List.getElem?_take] at hu
  split at hu
  · exact hu
  · cases hu

theorem ref_unseal (A : Option Addr) (n c : Nat) (l : List UInt8) (w : World) (ha : Rd w A n c (u8s l)) (hn : n ≤ 65536) :
    Calls Try.prog 9 #[.slice A n c] w fun e w' => ∃ v, e = .returned (.tuple #[v, .int .i64 (openE l)]) ∧ w'.ownsRow w.heap.size 5 1 v (openR l).length (u8s (openR l)) ∧ Fr No w w' := by
  have hl : l.length = n := by simpa using ha.len
  have hcap := ha.cap
  rcases Nat.lt_or_ge n 4 with h4 | h4
  · have e1 : openE l = 3 := by unfold openE; rw [if_pos (by omega)]
    have e2 : openR l = [] := by unfold openR; rw [e1]; rfl
    have E1 := Lib.hid e1; have E2 := Lib.hid e2
    clear e1 e2 hl
    go_enter Try.func9, Try.ntmps9
    go_wp2
    go_ret2
    exact ⟨.slice none 0 0, by rw [E1.out]; rfl, by rw [E2.out]; exact World.ownsRow_nil _ _ _ _, Fr.refl _ _⟩
  · obtain ⟨m, rfl⟩ : ∃ m, n = m + 4 := ⟨n - 4, by omega⟩
    have hm : ((m + 4 : Nat) : Int) - 4 = (m : Int) := by omega
    go_enter Try.func9, Try.ntmps9
    have hhead := ha.head' (m := m) (by omega)
    have hlm : (l.take m).length = m := by rw [List.length_take]; omega
    have hd4 : (l.drop m).take 4 = l.drop m := List.take_of_length_le (by rw [List.length_drop]; omega)
    have hnum := fun u (h : Rd u A (m + 4) c (u8s l)) => num_any A (m + 4) c m 4 l u h (by omega) (by omega) (by omega)
    have hcrc := fun u (h : Rd u A m c (u8s (l.take m))) => ref_crc A m c (l.take m) u h (by omega)
    have hE : openE l = if beN (l.drop m) = crcL (l.take m) then 0 else 8 := by
      unfold openE
      rw [if_neg (by omega), hl, Nat.add_sub_cancel]
    have hR : openR l = if beN (l.drop m) = crcL (l.take m) then l.take m else [] := by
      unfold openR
      rw [hE, hl, Nat.add_sub_cancel]
      split <;> rfl
    rw [hd4] at hnum
    have hcl := crcL_lt (l.take m)
    generalize beN (l.drop m) = V at *
    generalize crcL (l.take m) = U at *
    have HNUM := Lib.hid hnum; have HCRC := Lib.hid hcrc
    by_cases hq : V = U
    · rw [if_pos hq] at hE hR
      have hqb : ((V : Int) != (U : Int)) = false := by rw [bne_eq_false_iff_eq, hq]
      have HE := Lib.hid hE; have HR := Lib.hid hR; have HLM := Lib.hid hlm
      clear hE hR hq hnum hcrc hl hd4 hlm
      go_wp2
      go_quiet ((first | (go_at_call 18; exact quiet_dr (HNUM.out _ (ha.dr ((Dr.refl _).drewN _)))) | (go_at_call 11; exact quiet_same (HCRC.out _ (hhead.dr ((Dr.refl _).drewN _))))))
      go_wp2_with (at_builtin; go_must (refine ap8 _ rfl (.const (.slice none 0 0)) (.tmp 21) rfl w.heap.size (.slice none 0 0) 0 [] rfl (World.ownsRow_nil _ _ _ _) A m c (l.take m) rfl (hhead.dr ((Dr.refl _).drewN _)) (by omega) (Nat.le_refl _) ?_); intro v1 w1 ho1 hg1 hr1)
      go_ret2
      refine ⟨v1, by rw [HE.out]; rfl, ?_, ((Fr.refl No w).drewN _).grown hg1 (by simp [Value.ownBlock])⟩
      rw [HR.out, HLM.out]
      simpa using ho1
    · rw [if_neg hq] at hE hR
      have hqb : ((V : Int) != (U : Int)) = true := by rw [bne_iff_ne]; omega
      have HE := Lib.hid hE; have HR := Lib.hid hR
      clear hE hR hq hnum hcrc hl hd4 hlm
      go_wp2
      go_quiet ((first | (go_at_call 18; exact quiet_dr (HNUM.out _ (ha.dr ((Dr.refl _).drewN _)))) | (go_at_call 11; exact quiet_same (HCRC.out _ (hhead.dr ((Dr.refl _).drewN _))))))
      go_wp2
      go_ret2
      exact ⟨.slice none 0 0, by rw [HE.out]; rfl, by rw [HR.out]; exact World.ownsRow_nil _ _ _ _, (Fr.refl No w).drewN _⟩
end Go.Proofs.Ytdilgcdmmofamaa
