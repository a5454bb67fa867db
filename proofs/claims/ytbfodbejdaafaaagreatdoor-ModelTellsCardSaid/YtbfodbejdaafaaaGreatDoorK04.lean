/- The texts Dig, Bits, Dig2, Str, joined. -/
import Derived.Test.YtbfodbejdaafaaaGreatDoorK02
import Derived.Test.YtbfodbejdaafaaaGreatDoorK03
import Derived.Test.YtbfodbejdaafaaaGreatDoorK01
import Derived.Laws.BitsLemmas
import Derived.IntWalk
/- What package digits does with texts, numbers, halves of bytes and signs: contracts of its calls. -/
namespace Go.Proofs.YtbfodbejdaafaaaGreatDoor
open Go.RowKit
set_option maxHeartbeats 400000
set_option linter.unusedVariables false

theorem digit_any (c : UInt8) (w : World) : Calls Tryz.prog 122 #[.int .u8 (c.toNat : Int)] w fun e w' => e = .returned (.bool (isD c)) ∧ w = w' := by
  go_enter Tryz.func122, Tryz.ntmps122
  go_wp2
  all_goals
    go_ret
    refine ⟨ret_bool ?_, rfl⟩
    unfold isD
    rw [Bool.eq_iff_iff]
    simp
    omega

theorem hex_any (c : UInt8) (w : World) : Calls Tryz.prog 134 #[.int .u8 (c.toNat : Int)] w fun e w' => e = .returned (.bool (isH c)) ∧ w = w' := by
  go_enter Tryz.func134, Tryz.ntmps134
  go_wp2_with (go_at_call 122; refine (digit_any _ _).mono ?_; rintro e w' ⟨rfl, rfl⟩)
  all_goals
    go_ret
    refine ⟨ret_bool ?_, rfl⟩
    unfold isH
    rw [Bool.eq_iff_iff]
    simp_all
    try omega

theorem half_any (c : UInt8) (w : World) : Calls Tryz.prog 144 #[.int .u8 (c.toNat : Int)] w fun e w' => e = .returned (.int .u8 ((half c).toNat : Int)) ∧ w = w' := by
  have h0 := c.toNat_lt
  by_cases hd : isD c = true
  · have hh := isD_true.1 hd
    have hv := half_digit hd
    have HV := Lib.hid hv
    clear hv
    go_enter Tryz.func144, Tryz.ntmps144
    go_wp2_with (go_at_call 122; refine (digit_any _ _).mono ?_; rintro e w' ⟨rfl, rfl⟩)
    go_ret
    exact ⟨ret_u8 (by rw [HV.out]; omega), rfl⟩
  · have hd : isD c = false := by simpa using hd
    have hv : ((half c).toNat : Int) = ((c.toNat : Int) - 65 + 10) % 256 := by
      unfold half
      rw [if_neg (by simp [hd])]
      simp only [UInt8.toNat_add, UInt8.toNat_sub]
      simp
      omega
    have HV := Lib.hid hv
    clear hv
    go_enter Tryz.func144, Tryz.ntmps144
    go_wp2_with (go_at_call 122; refine (digit_any _ _).mono ?_; rintro e w' ⟨rfl, rfl⟩)
    go_ret
    refine ⟨ret_u8 ?_, rfl⟩
    rw [HV.out]
    try omega

theorem every_any (f : FuncId) (t : UInt8 → Bool) (ht : Tests f t) (s : ByteArray) (w : World) (hs : s.size ≤ maxLen) :
    Calls Tryz.prog 121 #[.string s, .func (.func f) #[] #[]] w fun e w' => e = .returned (.bool (allB s.data.toList t)) ∧ w = w' := by
  unfold maxLen at hs
  go_enter Tryz.func121, Tryz.ntmps121
  go_wp2
  go_loop [8] (fun i => ∃ k : Nat, k ≤ s.size ∧ i = .int .i64 (k : Int) ∧ (s.data.toList.take k).all t = true) (fun i => s.size - (intOf i).toNat)
  case atStart => exact ⟨0, Nat.zero_le _, rfl, by simp⟩
  case round =>
    obtain ⟨k, hk, rfl, hall⟩ := hrel
    have HA := Lib.hid hall
    clear hall
    have h63 : (k : Int) + 1 ≤ 9223372036854775807 ∨ k = s.size := by omega
    by_cases hlt : k < s.size
    · have hts := take_snoc s k hlt
      have HT := Lib.hid hts
      clear hts
      have htc : ∀ w : World, Calls Tryz.prog f #[.int .u8 (s[k].toNat : Int)] w fun e w' => e = .returned (.bool (t s[k])) ∧ w = w' := fun w => ht.tells s[k] w
      have hen := ht.enters
      have HC := Lib.hid htc
      clear htc
      cases hb : t s[k] with
      | true =>
        have HB := Lib.hid hb
        clear hb
        go_wp2_with (refine (HC.out _).mono ?_; rw [HB.out]; rintro e w' ⟨rfl, rfl⟩)
        go_round
        case rel => exact ⟨k + 1, by omega, by go_num, by rw [HT.out, List.all_append, HA.out]; simp [HB.out]⟩
        case measure => simp [intOf]; omega
      | false =>
        have HB := Lib.hid hb
        clear hb
        go_wp2_with (refine (HC.out _).mono ?_; rw [HB.out]; rintro e w' ⟨rfl, rfl⟩)
        go_ret
        refine ⟨ret_bool ?_, rfl⟩
        symm
        unfold allB
        rw [← Bool.not_eq_true, List.all_eq_true]
        intro hx
        have := hx s[k] (by rw [at_data s k hlt]; exact List.getElem_mem _)
        rw [HB.out] at this
        cases this
    · obtain rfl : k = s.size := by omega
      go_wp2
      go_ret
      refine ⟨ret_bool ?_, rfl⟩
      have := HA.out
      rw [List.take_of_length_le (by simp)] at this
      exact this.symm

theorem tests_digit : Tests 122 isD := ⟨fun _ _ => by kernel_rfl, fun c w => digit_any c w⟩
theorem tests_hex : Tests 134 isH := ⟨fun _ _ => by kernel_rfl, fun c w => hex_any c w⟩

theorem right_any (s : ByteArray) (low top : Int) (w : World) (hs : s.size ≤ maxLen) :
    Calls Tryz.prog 112 #[.string s, .int .i64 low, .int .i64 top] w fun e w' => e = .returned (.bool (rightB s.data.toList low top)) ∧ w = w' := by
  have hl : s.data.toList.length = s.size := by simp
  by_cases h1 : low ≤ (s.size : Int)
  · by_cases h2 : (s.size : Int) ≤ top
    · have e : rightB s.data.toList low top = allB s.data.toList isD := by simp [rightB, allB, hl, h1, h2]
      have E := Lib.hid e
      clear e hl
      go_enter Tryz.func112, Tryz.ntmps112
      go_wp2_with (go_at_call 121; refine (every_any _ _ tests_digit _ _ hs).mono ?_; rintro e w' ⟨rfl, rfl⟩)
      go_ret
      exact ⟨ret_bool (by rw [E.out]), rfl⟩
    · have e : rightB s.data.toList low top = false := by simp [rightB, hl, h1, h2]
      have E := Lib.hid e
      clear e hl
      go_enter Tryz.func112, Tryz.ntmps112
      go_wp2
      go_ret
      exact ⟨ret_bool (by rw [E.out]), rfl⟩
  · have e : rightB s.data.toList low top = false := by simp [rightB, hl, h1]
    have E := Lib.hid e
    clear e hl
    go_enter Tryz.func112, Tryz.ntmps112
    go_wp2
    go_ret
    exact ⟨ret_bool (by rw [E.out]), rfl⟩
end Go.Proofs.YtbfodbejdaafaaaGreatDoor
/- Shifts and masks of bytes, as the walk spells them and as Lean has them: no program. -/
namespace Go.Proofs.YtbfodbejdaafaaaGreatDoor
set_option linter.unusedVariables false

theorem u8_wrap (n : Int) (h0 : 0 ≤ n) (h1 : n < 2 ^ 8) : IntKind.u8.wrap n = n := IntWalk.u8_in _ ⟨h0, by omega⟩
theorem or_u8 (x y : UInt8) : bits .or .u8 (x.toNat : Int) (y.toNat : Int) = ((x ||| y).toNat : Int) := by
  rw [(bits_nat .u8 8 (by decide) u8_wrap _ _ x.toNat_lt y.toNat_lt).2, UInt8.toNat_or]
theorem and_u8 (x y : UInt8) : bits .and .u8 (x.toNat : Int) (y.toNat : Int) = ((x &&& y).toNat : Int) := by
  rw [(bits_nat .u8 8 (by decide) u8_wrap _ _ x.toNat_lt y.toNat_lt).1, UInt8.toNat_and]
theorem wrap_u8 (n : Int) : IntKind.u8.wrap n = n % 256 := by
  simp [IntKind.wrap, IntKind.bits, IntKind.signed]
theorem shl4_u8 (x : UInt8) : IntKind.u8.wrap ((x.toNat : Int) * 16) = ((x <<< 4).toNat : Int) := by
  rw [wrap_u8, UInt8.toNat_shiftLeft]
  have h : x.toNat <<< ((4 : UInt8).toNat % 8) = x.toNat * 16 := by rw [Nat.shiftLeft_eq]; rfl
  rw [h]
  omega
theorem shr4_u8 (x : UInt8) : (x.toNat : Int) / 16 = ((x >>> 4).toNat : Int) := by
  rw [UInt8.toNat_shiftRight, Nat.shiftRight_eq_div_pow]
  have h : 2 ^ ((4 : UInt8).toNat % 8) = 16 := rfl
  rw [h]
  omega
/-- what 'int(uint(p) % b)' makes -/
theorem rem_nat (p b : Int) (hb : 0 < b) : ∃ m : Nat, (IntKind.u64.wrap p).tmod b = (m : Int) ∧ (m : Int) < b := by
  have hw : 0 ≤ IntKind.u64.wrap p := by rw [IntKind.wrap_u64]; omega
  rw [Int.tmod_eq_emod_of_nonneg hw]
  have h0 : 0 ≤ IntKind.u64.wrap p % b := Int.emod_nonneg _ (by omega)
  have h1 : IntKind.u64.wrap p % b < b := Int.emod_lt_of_pos _ hb
  obtain ⟨m, hm⟩ := Int.eq_ofNat_of_zero_le h0
  exact ⟨m, hm, by omega⟩

end Go.Proofs.YtbfodbejdaafaaaGreatDoor
/- What package digits makes of texts: a number, bytes of two signs each, signs of bytes: contracts of its calls. -/
namespace Go.Proofs.YtbfodbejdaafaaaGreatDoor
open Go.RowKit
set_option maxHeartbeats 400000
set_option linter.unusedVariables false

theorem number_any (s : ByteArray) (w : World) (hs : s.size ≤ maxLen) :
    Calls Tryz.prog 131 #[.string s] w fun e w' => e = .returned (.tuple #[.int .u64 (numR s.data.toList : Int), .int .i64 (numE s.data.toList)]) ∧ w = w' := by
  cases hr : rightB s.data.toList 1 18 with
  | false =>
    have e1 : numR s.data.toList = 0 := by simp [numR, hr]
    have e2 : numE s.data.toList = 5 := by simp [numE, hr]
    have E1 := Lib.hid e1
    have E2 := Lib.hid e2
    have HR := Lib.hid hr
    clear e1 e2 hr
    go_enter Tryz.func131, Tryz.ntmps131
    go_wp2_with (go_at_call 112; refine (right_any _ _ _ _ hs).mono ?_; rw [HR.out]; rintro e w' ⟨rfl, rfl⟩)
    go_ret2
    exact ⟨by rw [E1.out, E2.out]; rfl, rfl⟩
  | true =>
    have e1 : numR s.data.toList = numV s.data.toList := by simp [numR, hr]
    have e2 : numE s.data.toList = 0 := by simp [numE, hr]
    obtain ⟨h1, h2, h3⟩ := rightB_len hr
    have hsz : s.size ≤ 18 := by simp at h2; omega
    have E1 := Lib.hid e1
    have E2 := Lib.hid e2
    have HR := Lib.hid hr
    have HD := Lib.hid h3
    clear e1 e2 hr h1 h2 h3
    go_enter Tryz.func131, Tryz.ntmps131
    go_wp2_with (go_at_call 112; refine (right_any _ _ _ _ hs).mono ?_; rw [HR.out]; rintro e w' ⟨rfl, rfl⟩)
    go_loop [4, 11] (fun v i => ∃ k : Nat, k ≤ s.size ∧ i = .int .i64 (k : Int) ∧ v = .int .u64 (numV (s.data.toList.take k) : Int)) (fun _ i => s.size - (intOf i).toNat)
    case atStart => exact ⟨0, Nat.zero_le _, rfl, rfl⟩
    case round =>
      obtain ⟨k, hk, rfl, rfl⟩ := hrel
      by_cases hlt : k < s.size
      · have hts := take_snoc s k hlt
        have hn := numV_snoc (s.data.toList.take k) s[k]
        rw [← hts] at hn
        have hb := numV_le (dig_take HD.out k)
        have hb2 := pow_le_18 (k := k) (by omega)
        have hl : (s.data.toList.take k).length = k := by simp; omega
        rw [hl] at hb
        have hb3 : numV (s.data.toList.take k) ≤ 100000000000000000 := by omega
        have hh : (half s[k]).toNat < 256 := UInt8.toNat_lt _
        have HN := Lib.hid hn
        clear hn hts hb hb2 hl
        go_wp2_with (go_at_call 144; refine (half_any _ _).mono ?_; rintro e w' ⟨rfl, rfl⟩)
        go_round
        case rel => exact ⟨k + 1, by omega, by go_num, by rw [HN.out]; go_num⟩
        case measure => simp [intOf]; omega
      · obtain rfl : k = s.size := by omega
        go_wp2
        go_ret2
        exact ⟨by rw [E1.out, E2.out, List.take_of_length_le (by simp)]; rfl, rfl⟩

/-- as many bytes as there are pairs: the first k are those of the text, the others 0 -/
def pairRow (l : List UInt8) (n k : Nat) : List UInt8 := pairL (l.take (2 * k)) ++ List.replicate (n - k) 0
theorem pairRow_set (s : ByteArray) (n k : Nat) (hn : n = s.size / 2) (hk : k < n) (h1 : 2 * k < s.size) (h2 : 2 * k + 1 < s.size) :
    (u8s (pairRow s.data.toList n k)).set k (.int .u8 ((pr s[2 * k] s[2 * k + 1]).toNat : Int)) = u8s (pairRow s.data.toList n (k + 1)) := by
  have hp : (pairL (s.data.toList.take (2 * k))).length = k := by rw [pairL_length]; simp; omega
  unfold pairRow
  rw [pairL_snoc k s.data.toList s[2 * k] s[2 * k + 1] (List.getElem?_eq_getElem (by simpa using h1)) (List.getElem?_eq_getElem (by simpa using h2))]
  obtain ⟨m, hm⟩ : ∃ m, n - k = m + 1 := ⟨n - k - 1, by omega⟩
  rw [hm, show n - (k + 1) = m from by omega, List.replicate_succ]
  simp only [u8s, List.map_append, List.map_cons, List.map_nil, List.append_assoc]
  rw [List.set_append_right _ _ (by simp [hp])]
  simp [hp]

theorem pairL_even : ∀ l m : List UInt8, m.length ≤ 1 → l.length % 2 = 0 → pairL (l ++ m) = pairL l
  | [], [], _, _ => rfl
  | [], [x], _, _ => rfl
  | [], _ :: _ :: _, h, _ => by simp at h
  | [x], _, _, h => by simp at h
  | x :: y :: r, m, h, h2 => by
    simp only [List.cons_append, pairL, pairL_even r m h (by simp at h2; omega)]
theorem pairL_all (s : ByteArray) (n : Nat) (hn : n = s.size / 2) : pairL (s.data.toList.take (2 * n)) = pairL s.data.toList := by
  have h := pairL_even (s.data.toList.take (2 * n)) (s.data.toList.drop (2 * n)) (by simp; omega) (by simp; omega)
  rw [List.take_append_drop] at h
  exact h.symm
theorem pairRow_length (s : ByteArray) (n k : Nat) (hn : n = s.size / 2) (hk : k ≤ n) : (pairRow s.data.toList n k).length = n := by
  unfold pairRow
  rw [List.length_append, pairL_length]
  simp
  omega

theorem half_still (c : UInt8) (w : World) : Calls Tryz.prog 144 #[.int .u8 (c.toNat : Int)] w fun e w' => e = .returned (.int .u8 ((half c).toNat : Int)) ∧ w' = w := (half_any c w).mono fun _ _ h => ⟨h.1, h.2.symm⟩

set_option maxRecDepth 4000 in
theorem pairs_any (s : ByteArray) (w : World) (hs : s.size ≤ 140737488355328) :
    Calls Tryz.prog 135 #[.string s] w fun e w' => ∃ v, e = .returned v ∧ w'.ownsRow w.heap.size 5 1 v (s.size / 2) (u8s (pairL s.data.toList)) ∧ Fr No w w' := by
  obtain ⟨n, hn⟩ : ∃ n, n = s.size / 2 := ⟨_, rfl⟩
  rw [← hn]
  have hn2 : 2 * n ≤ s.size := by omega
  have hn3 : s.size < 2 * n + 2 := by omega
  have HN := Lib.hid hn
  go_enter Tryz.func135, Tryz.ntmps135
  go_wp2_with (at_make; go_must (refine mk8 w rfl (.tmp 7) (.tmp 7) rfl .i64 .i64 _ _ n n rfl rfl (by omega) (by omega) (by omega) (by omega) ?_); intro w1 hb1 hf1 hs1)
  clear hn
  generalize hg : w.heap.size = g at *
  go_loopw [11] (fun i wr => ∃ k : Nat, k ≤ n ∧ i = .int .i64 (k : Int) ∧ Bk wr g 5 (u8s (pairRow s.data.toList n k)) ∧ Fr No w wr) (fun i _ => n - (intOf i).toNat)
  case atStart => exact ⟨0, Nat.zero_le _, rfl, by simpa [pairRow, pairL] using hb1, hf1⟩
  case round =>
    obtain ⟨k, hk, rfl, hb, hf⟩ := hrel
    rcases Nat.lt_or_ge k n with hlt | hge
    · go_wp2
      have h2 : 2 * k < s.size := by omega
      have h3 : 2 * k + 1 < s.size := by omega
      refine wp_region_reads 16 (by kernel_rfl) (by kernel_rfl) ?_
      intro w4 hd
      simp only [List.take_succ_cons, List.take_zero, List.drop_succ_cons, List.drop_zero]
      have e1 : IntKind.i64.wrap (2 * (k : Int)) = 2 * (k : Int) := IntWalk.i64_in _ ⟨by omega, by omega⟩
      have e2 : (2 * (k : Int)).toNat = 2 * k := by omega
      have e3 : IntKind.i64.wrap (2 * (k : Int) + 1) = 2 * (k : Int) + 1 := IntWalk.i64_in _ ⟨by omega, by omega⟩
      have e4 : (2 * (k : Int) + 1).toNat = 2 * k + 1 := by omega
      have e5 : 2 * (k : Int) < (s.size : Int) := by omega
      have e6 : 2 * (k : Int) + 1 < (s.size : Int) := by omega
      have e7 : 0 ≤ 2 * (k : Int) := by omega
      have e8 : 0 ≤ 2 * (k : Int) + 1 := by omega
      repeat still_step
      still_call (half_still _ _)
      repeat still_step
      still_call (half_still _ _)
      repeat still_step
      have E1 := Lib.hid e1; have E2 := Lib.hid e2; have E3 := Lib.hid e3; have E4 := Lib.hid e4
      try clear e1
      try clear e2
      try clear e3
      try clear e4
      refine wpStill_nil ?_
      have hb4 := hb.no hd.fr
      have hf4 := hf.dr hd
      have hor : bits BinOp.or IntKind.u8 (↑(half s[2 * k]).toNat * 16 % 256) ↑(half s[2 * k + 1]).toNat = ((pr s[2 * k] s[2 * k + 1]).toNat : Int) := by
        rw [← wrap_u8, shl4_u8, or_u8]
        rfl
      have hps := pairRow_set s n k HN.out hlt h2 h3
      have HO := Lib.hid hor
      have HP := Lib.hid hps
      obtain ⟨u, hu⟩ : ∃ u, (u8s (pairRow s.data.toList n k))[k]? = some u := ⟨_, List.getElem?_eq_getElem (by rw [u8s_length, pairRow_length s n k HN.out hk]; exact hlt)⟩
      have hc : w4.cell? ⟨g, k, none⟩ = some u := by rw [hb4.cell]; exact hu
      have hfz := hb4.frozen k
      clear hor hps hu hd hb hf
      go_wp2
      go_roundw
      case rel => exact ⟨k + 1, by omega, by go_num, by rw [HO.out, ← HP.out]; exact hb4.set_ _ _, hf4.setCell (.inr (by rw [hg]; exact Nat.le_refl _)) _⟩
      case measure => simp [intOf]; omega
    · obtain rfl : k = n := by omega
      have hlen : (pairRow s.data.toList k k) = pairL s.data.toList := by
        unfold pairRow
        rw [Nat.sub_self, List.replicate_zero, List.append_nil]
        rw [pairL_all s k HN.out]
      have HL := Lib.hid hlen
      clear hlen
      have ho := hb.own (base := g) (n := k) (cap := k) (Nat.le_refl _) (Nat.le_refl _) (by simp only [maxLen]; omega) (by rw [u8s_length, pairRow_length s k k HN.out (Nat.le_refl _)])
      rw [List.take_of_length_le (by rw [u8s_length, pairRow_length s k k HN.out (Nat.le_refl _)]; exact Nat.le_refl _), HL.out] at ho
      have hk2 : s.size / 2 = k := HN.out.symm
      have HK := Lib.hid hk2
      clear hk2
      go_wp2
      go_ret
      exact ⟨_, rfl, by rw [HK.out, hg]; exact ho, hf⟩

theorem nought_data (s : ByteArray) : (({ data := #[48] } : ByteArray) ++ s).data.toList = 48 :: s.data.toList := by simp
theorem nought_size (s : ByteArray) : (({ data := #[48] } : ByteArray) ++ s).size = s.size + 1 := by
  rw [ByteArray.size_append]
  exact Nat.add_comm _ _

/-- what Bcd answers -/
def bcdR (l : List UInt8) : List UInt8 := if rightB l 0 100 then pairL (evenL l) else []
def bcdE (l : List UInt8) : Int := if rightB l 0 100 then 0 else 5

/-- what UnHex answers -/
def unhexB (l : List UInt8) : Bool := decide (l.length % 2 = 0) && l.all isH
def unhexR (l : List UInt8) : List UInt8 := if unhexB l then pairL l else []
def unhexE (l : List UInt8) : Int := if unhexB l then 0 else 5

theorem unhex_any (s : ByteArray) (w : World) (hs : s.size ≤ 140737488355328) :
    Calls Tryz.prog 117 #[.string s] w fun e w' => ∃ v, e = .returned (.tuple #[v, .int .i64 (unhexE s.data.toList)]) ∧ w'.ownsRow w.heap.size 5 1 v (unhexR s.data.toList).length (u8s (unhexR s.data.toList)) ∧ Fr No w w' := by
  have hm : s.size ≤ maxLen := by simp only [maxLen]; omega
  rcases Nat.mod_two_eq_zero_or_one s.size with hodd | hodd
  · have hodd2 : ((s.size : Int) % 2 == 1) = false := by simp; omega
    cases hr : s.data.toList.all isH with
    | false =>
      have hb : unhexB s.data.toList = false := by unfold unhexB; rw [hr]; simp
      have e1 : unhexR s.data.toList = [] := by simp [unhexR, hb]
      have e2 : unhexE s.data.toList = 5 := by simp [unhexE, hb]
      rw [e1, e2]
      have HR : Hid (allB s.data.toList isH = false) := Lib.hid hr
      clear e1 e2 hr hb hodd
      go_enter Tryz.func117, Tryz.ntmps117
      go_wp2_with (go_at_call 121; refine (every_any _ _ tests_hex _ _ hm).mono ?_; rw [HR.out]; rintro e w' ⟨rfl, rfl⟩)
      go_ret2
      exact ⟨_, rfl, World.ownsRow_nil _ _ _ _, Fr.refl _ _⟩
    | true =>
      have hb : unhexB s.data.toList = true := by unfold unhexB; rw [hr]; simp [hodd]
      have e1 : unhexR s.data.toList = pairL s.data.toList := by simp [unhexR, hb]
      have e2 : unhexE s.data.toList = 0 := by simp [unhexE, hb]
      have hlen : (pairL s.data.toList).length = s.size / 2 := by rw [pairL_length]; simp
      rw [e1, e2, hlen]
      have HR : Hid (allB s.data.toList isH = true) := Lib.hid hr
      clear e1 e2 hr hb hlen hodd
      go_enter Tryz.func117, Tryz.ntmps117
      go_wp2_with (first
        | (go_at_call 121; refine (every_any _ _ tests_hex _ _ hm).mono ?_; rw [HR.out]; rintro e w' ⟨rfl, rfl⟩)
        | (go_at_call 135; refine (pairs_any _ _ hs).mono ?_; rintro e w1 ⟨v, rfl, ho, hf⟩))
      go_ret2
      exact ⟨v, rfl, ho, hf⟩
  · have hodd2 : ((s.size : Int) % 2 == 1) = true := by simp; omega
    have hb : unhexB s.data.toList = false := by unfold unhexB; simp [hodd]
    have e1 : unhexR s.data.toList = [] := by simp [unhexR, hb]
    have e2 : unhexE s.data.toList = 5 := by simp [unhexE, hb]
    rw [e1, e2]
    clear e1 e2 hb hodd
    go_enter Tryz.func117, Tryz.ntmps117
    go_wp2
    go_ret2
    exact ⟨_, rfl, World.ownsRow_nil _ _ _ _, Fr.refl _ _⟩
end Go.Proofs.YtbfodbejdaafaaaGreatDoor
/- Small facts on strings as lists of bytes. No program. -/
namespace Go.Proofs.YtbfodbejdaafaaaGreatDoor
set_option linter.unusedVariables false

theorem s_list (S : ByteArray) : S.toList = S.data.toList := bstr_toList S.data.toList
theorem s_size (S : ByteArray) : S.data.toList.length = S.size := by simp
theorem s_ext (S : ByteArray) (i j : Nat) : (S.extract i j).data.toList = (S.data.toList.drop i).take (j - i) := by
  rw [ByteArray.data_extract, Array.toList_extract, List.extract_eq_take_drop]
theorem s_app (S T : ByteArray) : (S ++ T).data.toList = S.data.toList ++ T.data.toList := by
  rw [ByteArray.data_append, Array.toList_append]
theorem s_eq {S T : ByteArray} (h : S.data.toList = T.data.toList) : S = T := by
  cases S; cases T; congr 1; exact Array.ext' h
theorem s_beq (S T : ByteArray) : (S.toList == T.toList) = (S.data.toList == T.data.toList) := by rw [s_list, s_list]
/-- uint(x) % n as a number -/
theorem umod (x : Int) (n : Nat) (hn : 0 < n) (h64 : n < 18446744073709551616) : ∃ m : Nat, m < n ∧ (IntKind.u64.wrap x).tmod (n : Int) = (m : Int) := by
  have hu : 0 ≤ IntKind.u64.wrap x := by
    show 0 ≤ x % 18446744073709551616
    omega
  rw [Int.tmod_eq_emod_of_nonneg hu]
  generalize IntKind.u64.wrap x = U at hu
  have h2 := Int.emod_nonneg U (b := (n : Int)) (by omega)
  have h3 := Int.emod_lt_of_pos U (b := (n : Int)) (by omega)
  exact ⟨(U % (n : Int)).toNat, by omega, by omega⟩
end Go.Proofs.YtbfodbejdaafaaaGreatDoor
