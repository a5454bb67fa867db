/- The statements' own sums over bytes: what they answer. -/
import Derived.Test.YtdilgcdmmofamaaCrcMath
import Derived.Test.YtdilgcdmmofamaaRefNum
import Derived.Test.YtdilgcdmmofamaaRefPut
namespace Go.Proofs.Ytdilgcdmmofamaa
open Go.RowKit
set_option maxHeartbeats 400000
set_option linter.unusedVariables false

theorem xor_u32 (a b : Nat) (ha : a < 4294967296) (hb : b < 4294967296) : bits .xor .u32 (a : Int) (b : Int) = ((a ^^^ b : Nat) : Int) := by
  have hx : a ^^^ b < 2 ^ 32 := Nat.xor_lt_two_pow (by omega) (by omega)
  have h1 : (BitVec.ofInt 32 (a : Int)).toNat = a := by
    rw [BitVec.ofInt_natCast, BitVec.toNat_ofNat]; exact Nat.mod_eq_of_lt (by omega)
  have h2 : (BitVec.ofInt 32 (b : Int)).toNat = b := by
    rw [BitVec.ofInt_natCast, BitVec.toNat_ofNat]; exact Nat.mod_eq_of_lt (by omega)
  show IntKind.u32.wrap ((BitVec.ofInt 32 (a : Int) ^^^ BitVec.ofInt 32 (b : Int)).toNat : Int) = _
  rw [BitVec.toNat_xor, h1, h2, IntWalk.u32_in _ (by omega)]

theorem crcFrom_snoc (v : Nat) (l : List UInt8) (k : Nat) (h : k < l.length) : crcFrom v (l.take (k + 1)) = iter 8 (crcFrom v (l.take k) ^^^ l[k].toNat) := by
  rw [List.take_succ_eq_append_getElem h, crcFrom_append]
  rfl

theorem ref_crc (A : Option Addr) (n c : Nat) (l : List UInt8) (w : World) (ha : Rd w A n c (u8s l)) (hn : n ≤ 9223372036854775806) :
    Calls Try.prog 11 #[.slice A n c] w fun e w' => e = .returned (.int .u32 (crcL l : Int)) ∧ w = w' := by
  have hl : l.length = n := by simpa using ha.len
  have HL := Lib.hid hl
  clear hl
  go_enter Try.func11, Try.ntmps11
  go_wp2
  go_loop [3, 4] (fun v i => ∃ k : Nat, k ≤ n ∧ i = .int .i64 (k : Int) ∧ v = .int .u32 (crcFrom all32 (l.take k) : Int)) (fun _ i => n - (intOf i).toNat)
  case atStart => exact ⟨0, Nat.zero_le _, rfl, rfl⟩
  case round =>
    obtain ⟨k, hk, rfl, rfl⟩ := hrel
    have hv : crcFrom all32 (l.take k) < 4294967296 := crcFrom_lt _ (by decide)
    rcases Nat.lt_or_ge k n with hlt | hge
    · have hlk : k < l.length := by have := HL.out; omega
      obtain ⟨ad, u, rfl, hu, hc⟩ := ha.at_ hlt
      rw [u8s_get l k hlk] at hu
      injection hu with hu
      subst hu
      have hx := l[k].toNat_lt
      have hsn := crcFrom_snoc all32 l k hlk
      generalize crcFrom all32 (l.take k) = V at hv hsn
      have hxo := xor_u32 V l[k].toNat hv (by omega)
      have hU : V ^^^ l[k].toNat < 4294967296 := Nat.xor_lt_two_pow (n := 32) hv (by omega)
      generalize V ^^^ l[k].toNat = U at hxo hsn hU
      have HSN := Lib.hid hsn
      clear hsn
      go_wp2
      go_loop [3, 5] (fun v i => ∃ j : Nat, j ≤ 8 ∧ i = .int .i64 (j : Int) ∧ v = .int .u32 (iter j U : Int)) (fun _ i => 8 - (intOf i).toNat)
      case atStart => exact ⟨0, by omega, rfl, rfl⟩
      case round =>
        obtain ⟨j, hj, rfl, rfl⟩ := hrel
        have hv2 : iter j U < 4294967296 := iter_lt j hU
        rcases Nat.lt_or_ge j 8 with hlt2 | hge2
        · have hst := iter_snoc j U
          generalize iter j U = x at hv2 hst
          rcases Nat.mod_two_eq_zero_or_one x with hp | hp
          · have hpb : ((x : Int) % 2 == 1) = false := by rw [beq_eq_false_iff_ne]; omega
            have hres : ((crcT x : Nat) : Int) = (x : Int) / 2 := by unfold crcT; rw [if_neg (by omega)]; omega
            have HRES := Lib.hid hres
            have HST := Lib.hid hst
            clear hp hst hres
            go_wp2
            go_round
            case rel => exact ⟨j + 1, by omega, by go_num, by rw [HST.out, HRES.out]⟩
            case measure => simp [intOf]; omega
          · have hpb : ((x : Int) % 2 == 1) = true := by rw [beq_iff_eq]; omega
            have hres : bits .xor .u32 ((x : Int) / 2) 3988292384 = ((crcT x : Nat) : Int) := by
              unfold crcT
              rw [if_pos hp]
              have := xor_u32 (x / 2) poly (by omega) (by decide)
              rw [← this]
              congr 1
            have HRES := Lib.hid hres
            have HST := Lib.hid hst
            clear hp hst hres
            go_wp2
            go_round
            case rel => exact ⟨j + 1, by omega, by go_num, by rw [HST.out, ← HRES.out]⟩
            case measure => simp [intOf]; omega
        · obtain rfl : j = 8 := by omega
          go_wp2
          go_round
          case rel => exact ⟨k + 1, by omega, by go_num, by rw [HSN.out]⟩
          case measure => simp [intOf]; omega
    · obtain rfl : k = n := by omega
      have hfin : bits .xor .u32 ((crcFrom all32 (l.take k) : Nat) : Int) 4294967295 = ((crcL l : Nat) : Int) := by
        have := xor_u32 (crcFrom all32 (l.take k)) all32 hv (by decide)
        rw [show (4294967295 : Int) = (all32 : Int) from rfl, this, List.take_of_length_le (by have := HL.out; omega)]
        rfl
      have HFIN := Lib.hid hfin
      clear hfin
      go_wp2
      go_ret
      exact ⟨by rw [← HFIN.out]; rfl, rfl⟩
end Go.Proofs.Ytdilgcdmmofamaa
