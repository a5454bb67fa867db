/- What package crc does: contracts of its calls. -/
import Derived.Test.YtdilgcdmmofamaaBeMath2
import Derived.Test.YtdilgcdmmofamaaPut
import Derived.Test.YtdilgcdmmofamaaClone
import Derived.Test.YtdilgcdmmofamaaEqual
namespace Go.Proofs.Ytdilgcdmmofamaa
open Go.RowKit
set_option maxHeartbeats 400000
set_option linter.unusedVariables false

theorem and_one_u32 (v : Nat) (hv : v < 4294967296) : bits .and .u32 (v : Int) 1 = ((v % 2 : Nat) : Int) := by
  have h1 : (BitVec.ofInt 32 (v : Int)).toNat = v := by
    rw [BitVec.ofInt_natCast, BitVec.toNat_ofNat]; exact Nat.mod_eq_of_lt (by omega)
  show IntKind.u32.wrap ((BitVec.ofInt 32 (v : Int) &&& BitVec.ofInt 32 1).toNat : Int) = _
  rw [BitVec.toNat_and, h1, show (BitVec.ofInt 32 1).toNat = 1 from by decide, Nat.and_one_is_mod, IntWalk.u32_in _ (by omega)]

theorem half_any (v : Nat) (w : World) (hv : v < 4294967296) :
    Calls Try.prog 25 #[.int .u32 (v : Int)] w fun e w' => e = .returned (.int .u32 (crcT v : Int)) ∧ w = w' := by
  have ha := and_one_u32 v hv
  rcases Nat.mod_two_eq_zero_or_one v with hp | hp
  · have hpb : (bits .and .u32 (v : Int) 1 == 1) = false := by rw [ha, hp]; decide
    have hres : ((crcT v : Nat) : Int) = (v : Int) / 2 := by unfold crcT; rw [if_neg (by omega)]; omega
    have HRES := Lib.hid hres
    clear hp hres ha
    go_enter Try.func25, Try.ntmps25
    go_wp2
    go_ret
    exact ⟨by rw [HRES.out]; rfl, rfl⟩
  · have hpb : (bits .and .u32 (v : Int) 1 == 1) = true := by rw [ha, hp]; decide
    have hres : bits .xor .u32 ((v : Int) / 2) 3988292384 = ((crcT v : Nat) : Int) := by
      unfold crcT
      rw [if_pos hp]
      have := xor_u32 (v / 2) poly (by omega) (by decide)
      rw [← this]
      congr 1
    have HRES := Lib.hid hres
    clear hp hres ha
    go_enter Try.func25, Try.ntmps25
    go_wp2
    go_ret
    exact ⟨by rw [← HRES.out]; rfl, rfl⟩

theorem repeat_any (v : Nat) (w : World) (hv : v < 4294967296) :
    Calls Try.prog 24 #[.int .i64 8, .func (.func 25) #[] #[], .int .u32 (v : Int)] w fun e w' => e = .returned (.int .u32 (iter 8 v : Int)) ∧ w = w' := by
  go_enter Try.func24, Try.ntmps24
  go_wp2
  go_loop [2, 8] (fun r i => ∃ j : Nat, j ≤ 8 ∧ i = .int .i64 (j : Int) ∧ r = .int .u32 (iter j v : Int)) (fun _ i => 8 - (intOf i).toNat)
  case atStart => exact ⟨0, by omega, rfl, rfl⟩
  case round =>
    obtain ⟨j, hj, rfl, rfl⟩ := hrel
    have hv2 : iter j v < 4294967296 := iter_lt j hv
    rcases Nat.lt_or_ge j 8 with hlt | hge
    · have hst := iter_snoc j v
      generalize iter j v = x at hv2 hst
      have HST := Lib.hid hst
      clear hst
      go_wp2_with (go_at_call 25; refine (half_any x _ hv2).mono ?_; rintro e w' ⟨rfl, rfl⟩)
      go_round
      case rel => exact ⟨j + 1, by omega, by go_num, by rw [HST.out]⟩
      case measure => simp [intOf]; omega
    · obtain rfl : j = 8 := by omega
      go_wp2
      go_ret
      exact ⟨rfl, rfl⟩

/-- a sum under way, in its block -/
def smL (v : Nat) : List Value := [.int .u32 (v : Int)]

theorem take_any (g v : Nat) (x : UInt8) (w : World) (hv : v < 4294967296) (hb : Bk w g 38 (smL v)) :
    Calls Try.prog 20 #[.pointer (some ⟨g, 0, none⟩), .int .u8 (x.toNat : Int)] w fun e w' => e = .returned (.tuple #[]) ∧ Fr (Just g) w w' ∧ Bk w' g 38 (smL (crcB v x)) := by
  have hx := x.toNat_lt
  have hxo := xor_u32 v x.toNat hv (by omega)
  have hU : v ^^^ x.toNat < 4294967296 := Nat.xor_lt_two_pow (n := 32) hv (by omega)
  have c0 := hb.cell 0
  have f0 := hb.frozen 0
  simp only [smL, List.getElem?_cons_zero] at c0
  have hs := hb.set_ 0 (.int .u32 (crcB v x : Int))
  unfold crcB at hs ⊢
  generalize v ^^^ x.toNat = U at hxo hU hs ⊢
  generalize hR : iter 8 U = R at hs ⊢
  have HS := Lib.hid hs; have HR := Lib.hid hR
  clear hs hR
  go_enter Try.func20, Try.ntmps20
  go_wp2_with (go_at_call 24; refine (repeat_any U _ hU).mono ?_; rw [HR.out]; rintro e w' ⟨rfl, rfl⟩)
  go_end0
  exact ⟨rfl, (Fr.refl _ _).setCell (.inl (Just.at g)) _, HS.out⟩

theorem each_any (g v : Nat) (A : Option Addr) (n c : Nat) (l : List UInt8) (w : World) (hv : v < 4294967296) (hb : Bk w g 38 (smL v)) (ha : Rd w A n c (u8s l)) (hag : 0 < n → ∀ ad, A = some ad → ad.block ≠ g) :
    Calls Try.prog 19 #[.slice A n c, .func (.func 20) #[.pointer (some ⟨g, 0, none⟩)] #[]] w fun e w' => e = .returned (.tuple #[]) ∧ Fr (Just g) w w' ∧ Bk w' g 38 (smL (crcFrom v l)) := by
  have hl : l.length = n := by simpa using ha.len
  have HL := Lib.hid hl
  clear hl
  go_enter Try.func19, Try.ntmps19
  go_wp2
  go_loopw [8] (fun i wr => ∃ k : Nat, k ≤ n ∧ i = .int .i64 (k : Int) ∧ Fr (Just g) w wr ∧ Bk wr g 38 (smL (crcFrom v (l.take k)))) (fun i _ => n - (intOf i).toNat)
  case atStart => exact ⟨0, Nat.zero_le _, rfl, Fr.refl _ _, hb⟩
  case round =>
    obtain ⟨k, hk, rfl, hf, hbk⟩ := hrel
    have hvk : crcFrom v (l.take k) < 4294967296 := crcFrom_lt _ hv
    rcases Nat.lt_or_ge k n with hlt | hge
    · have hlk : k < l.length := by have := HL.out; omega
      have hak := ha.fr hf (fun ad e h => hag (by omega) ad e h)
      obtain ⟨ad, u, rfl, hu, hc⟩ := hak.at_ hlt
      rw [u8s_get l k hlk] at hu
      injection hu with hu
      subst hu
      have hsn : crcFrom v (l.take (k + 1)) = crcB (crcFrom v (l.take k)) l[k] := crcFrom_snoc v l k hlk
      have HSN := Lib.hid hsn
      have hmx : c ≤ 9223372036854775807 := hak.max
      have hcp := hak.cap
      clear hsn ha hak hag
      go_wp2_with (go_at_call 20; refine (take_any g _ l[k] _ hvk hbk).mono ?_; rintro e w1 ⟨rfl, hf1, hb1⟩)
      go_roundw
      case rel => exact ⟨k + 1, by omega, by go_num, hf.trans hf1, by rw [HSN.out]; exact hb1⟩
      case measure => simp [intOf]; omega
    · obtain rfl : k = n := by omega
      go_wp2
      go_end0
      exact ⟨rfl, hf, by rwa [List.take_of_length_le (by have := HL.out; omega)] at hbk⟩

theorem crc_of_any (A : Option Addr) (n c : Nat) (l : List UInt8) (w : World) (ha : Rd w A n c (u8s l)) (hn : n ≤ 65536) :
    Calls Try.prog 10 #[.slice A n c] w fun e w' => e = .returned (.int .u32 (crcL l : Int)) ∧ Fr No w w' := by
  have hx := xor_u32 (crcFrom all32 l) all32 (crcFrom_lt _ (by decide)) (by decide)
  have hx : bits .xor .u32 ((crcFrom all32 l : Nat) : Int) 4294967295 = (crcL l : Int) := by rw [show (4294967295 : Int) = (all32 : Int) from rfl, hx]; rfl
  have HX := Lib.hid hx
  have hlt := fun h => ha.lt (w := w) h
  clear hx
  go_enter Try.func10, Try.ntmps10
  go_wp2_with (go_at_call 19; refine (each_any w.heap.size all32 A n c l _ (by decide) (Bk.new w _ _) (ha.no ((Fr.refl _ _).alloc _)) (fun h ad e => Nat.ne_of_lt (hlt h ad e))).mono ?_; rintro e w1 ⟨rfl, hf1, hb1⟩; have c0 := hb1.cell 0; simp only [smL, List.getElem?_cons_zero] at c0)
  go_ret
  refine ⟨?_, ((Fr.refl No w).alloc _).trans_new hf1 (fun i hi => .inr (by rw [show i = w.heap.size from hi]; exact Nat.le_refl _))⟩
  rw [← HX.out]
  rfl

theorem crc_seal_any (A : Option Addr) (n c : Nat) (l : List UInt8) (w : World) (ha : Rd w A n c (u8s l)) (hn : n ≤ 65536) :
    Calls Try.prog 13 #[.slice A n c] w fun e w' => ∃ r, e = .returned r ∧ w'.ownsRow w.heap.size 5 1 r (n + 4) (u8s (sealL l)) ∧ Fr No w w' := by
  have h4 : held8 4 = 4 := by decide
  have H4 := Lib.hid h4
  have hc := crcL_lt l
  have hp := fun (w : World) (h : Rd w A n c (u8s l)) => put_any A n c l (crcL l) 4 w h hn (by omega)
  have hcr := crc_of_any A n c l w ha hn
  unfold sealL
  generalize crcL l = V at *
  have HP := Lib.hid hp; have HCR := Lib.hid hcr
  clear h4 hp hcr
  go_enter Try.func13, Try.ntmps13
  go_wp2_with (first
    | (go_at_call 10; refine HCR.out.mono ?_; rintro e w0 ⟨rfl, hf0⟩)
    | (go_at_call 21; refine (HP.out _ (ha.no hf0)).mono ?_; rw [H4.out]; rintro e w1 ⟨r, rfl, ho, hf⟩))
  go_ret
  exact ⟨r, rfl, own_base ho hf0.size, hf0.trans hf⟩

theorem low_beN_rev : ∀ l : List UInt8, low (beN l.reverse) l.length = l.reverse
  | [] => rfl
  | x :: l => by
    rw [List.reverse_cons, List.length_cons, low_succ', beN_snoc]
    have hx := x.toNat_lt
    rw [show (beN l.reverse * 256 + x.toNat) / 256 = beN l.reverse from by omega, low_beN_rev l]
    congr 2
    apply UInt8.toNat_inj.1
    rw [UInt8.toNat_ofNat']
    omega
theorem low_beN (l : List UInt8) : low (beN l) l.length = l := by
  have := low_beN_rev l.reverse
  simpa using this

theorem crc_open_any (A : Option Addr) (n c : Nat) (l : List UInt8) (w : World) (ha : Rd w A n c (u8s l)) (hn : n ≤ 65536) :
    Calls Try.prog 8 #[.slice A n c] w fun e w' => ∃ v, e = .returned (.tuple #[v, .int .i64 (openE l)]) ∧ w'.ownsRow w.heap.size 5 1 v (openR l).length (u8s (openR l)) ∧ Fr No w w' := by
  have hl : l.length = n := by simpa using ha.len
  have hcap := ha.cap
  rcases Nat.lt_or_ge n 4 with h4 | h4
  · have e1 : openE l = 3 := by unfold openE; rw [if_pos (by omega)]
    have e2 : openR l = [] := by unfold openR; rw [e1]; rfl
    have E1 := Lib.hid e1; have E2 := Lib.hid e2
    clear e1 e2 hl
    go_enter Try.func8, Try.ntmps8
    go_wp2
    go_ret2
    exact ⟨.slice none 0 0, by rw [E1.out]; rfl, by rw [E2.out]; exact World.ownsRow_nil _ _ _ _, Fr.refl _ _⟩
  · obtain ⟨m, rfl⟩ : ∃ m, n = m + 4 := ⟨n - 4, by omega⟩
    have hm : ((m + 4 : Nat) : Int) - 4 = (m : Int) := by omega
    have hhead := ha.head' (m := m) (by omega)
    have hlm : (l.take m).length = m := by rw [List.length_take]; omega
    have hld : (l.drop m).length = 4 := by rw [List.length_drop]; omega
    have hE : openE l = if beN (l.drop m) = crcL (l.take m) then 0 else 8 := by
      unfold openE
      rw [if_neg (by omega), hl, Nat.add_sub_cancel]
    have hR : openR l = if beN (l.drop m) = crcL (l.take m) then l.take m else [] := by
      unfold openR
      rw [hE, hl, Nat.add_sub_cancel]
      split <;> rfl
    have hq : (l == sealL (l.take m)) = decide (beN (l.drop m) = crcL (l.take m)) := by
      rw [Bool.eq_iff_iff, beq_iff_eq, decide_eq_true_iff]
      unfold sealL
      have hcl := crcL_lt (l.take m)
      generalize crcL (l.take m) = V at hcl
      have hs : l = l.take m ++ l.drop m := (List.take_append_drop m l).symm
      constructor
      · intro h
        rw [hs] at h
        simp only [List.take_append_drop] at h
        have h2 := List.append_cancel_left (hs.symm.trans h)
        rw [h2, beN_low' 4]
        omega
      · intro h
        have h2 := low_beN (l.drop m)
        rw [hld, h] at h2
        rw [h2]
        exact hs
    have hseal := crc_seal_any A m c (l.take m) w hhead (by omega)
    generalize sealL (l.take m) = z at hseal hq
    have hcl := fun u h => clone_any A m c (l.take m) u h (by omega)
    have HSEAL := Lib.hid hseal; have HQ := Lib.hid hq; have HCL := Lib.hid hcl
    by_cases hv : beN (l.drop m) = crcL (l.take m)
    · rw [if_pos hv] at hE hR
      rw [decide_eq_true hv] at hq
      have HQ := Lib.hid hq
      have HE := Lib.hid hE; have HR := Lib.hid hR; have HLM := Lib.hid hlm
      clear hE hR hv hq hseal hcl hl hlm hld
      go_enter Try.func8, Try.ntmps8
      go_wp2_with (first
        | (go_at_call 13; refine HSEAL.out.mono ?_; rintro e w1 ⟨r, rfl, ho1, hf1⟩; obtain ⟨V1, d1, rfl, hr1, _⟩ := Rd.of_own ho1)
        | (go_at_call 16; refine (equal_any _ _ _ _ _ _ _ _ _ (ha.no hf1) hr1).mono ?_; rw [HQ.out]; rintro e w2 ⟨rfl, rfl⟩)
        | (go_at_call 17; refine (HCL.out _ (hhead.no hf1)).mono ?_; rintro e w3 ⟨v, rfl, ho3, hf3⟩))
      go_ret2
      refine ⟨v, by rw [HE.out]; rfl, ?_, hf1.trans hf3⟩
      rw [HR.out, HLM.out]
      exact own_base ho3 hf1.size
    · rw [if_neg hv] at hE hR
      rw [decide_eq_false hv] at hq
      have HQ := Lib.hid hq
      have HE := Lib.hid hE; have HR := Lib.hid hR; have HLM := Lib.hid hlm
      clear hE hR hv hq hseal hcl hl hlm hld
      go_enter Try.func8, Try.ntmps8
      go_wp2_with (first
        | (go_at_call 13; refine HSEAL.out.mono ?_; rintro e w1 ⟨r, rfl, ho1, hf1⟩; obtain ⟨V1, d1, rfl, hr1, _⟩ := Rd.of_own ho1)
        | (go_at_call 16; refine (equal_any _ _ _ _ _ _ _ _ _ (ha.no hf1) hr1).mono ?_; rw [HQ.out]; rintro e w2 ⟨rfl, rfl⟩))
      go_ret2
      exact ⟨.slice none 0 0, by rw [HE.out]; rfl, by rw [HR.out]; exact World.ownsRow_nil _ _ _ _, hf1⟩
end Go.Proofs.Ytdilgcdmmofamaa
