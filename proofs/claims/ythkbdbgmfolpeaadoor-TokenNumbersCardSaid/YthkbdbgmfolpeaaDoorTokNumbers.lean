/- TokenNumbers: the walk, for every number. -/
import Derived.Test.YthkbdbgmfolpeaaDoorTokMath2
import Derived.Test.YthkbdbgmfolpeaaDoorTokAwake
import Derived.Test.YthkbdbgmfolpeaaDoorRefDigits
import Derived.Test.YthkbdbgmfolpeaaDoorTokTexts
import Derived.Test.YthkbdbgmfolpeaaDoorBits
namespace Go.Proofs.YthkbdbgmfolpeaaDoor
open Go.RowKit
set_option maxHeartbeats 400000
set_option linter.unusedVariables false

/-! ### a number's digits -/
theorem chrF_app (b : Nat) : ∀ (l m : List UInt8) (v : Nat), chrF b v (l ++ m) = (chrF b v l).bind fun u => chrF b u m
  | [], m, v => rfl
  | c :: l, m, v => by
    rw [List.cons_append, chrF_cons, chrF_cons]
    split
    · rfl
    · exact chrF_app b l m _
theorem dec_dig (d : Nat) (h : d < 10) : digV (UInt8.ofNat (48 + d)) = d := by
  unfold digV
  rw [UInt8.toNat_ofNat', if_pos (by omega)]
  omega
theorem dec_num (v : Nat) : chrF 10 0 (Lib.decDigits v) = some v := by
  induction v using Nat.strongRecOn with
  | _ v ih =>
    rw [Lib.decDigits]
    split
    · rename_i h
      rw [chrF_cons, dec_dig v h, if_neg (by omega), Nat.zero_mul, Nat.zero_add]
      rfl
    · rename_i h
      rw [chrF_app, ih (v / 10) (by omega)]
      show chrF 10 (v / 10) _ = _
      rw [chrF_cons, dec_dig (v % 10) (by omega), if_neg (by omega)]
      show some _ = some _
      congr 1
      omega
theorem dec_len : ∀ (k v : Nat), v < 10 ^ (k + 1) → 1 ≤ (Lib.decDigits v).length ∧ (Lib.decDigits v).length ≤ k + 1
  | 0, v, h => by
    rw [Lib.decDigits, dif_pos (by simpa using h)]
    simp
  | k + 1, v, h => by
    rw [Lib.decDigits]
    split
    · simp
    · have := dec_len k (v / 10) (by rw [Nat.pow_succ] at h; omega)
      rw [List.length_append]
      simp
      omega
/-- a sign that stands in a number -/
def numS (c : UInt8) : Bool := decide ((48 ≤ c.toNat ∧ c.toNat ≤ 57) ∨ (97 ≤ c.toNat ∧ c.toNat ≤ 102))
theorem dec_in (v : Nat) : ∀ x ∈ Lib.decDigits v, 48 ≤ x.toNat ∧ x.toNat ≤ 57 := by
  induction v using Nat.strongRecOn with
  | _ v ih =>
    intro x hx
    rw [Lib.decDigits] at hx
    split at hx
    · rename_i h
      rw [List.mem_singleton.1 hx, UInt8.toNat_ofNat']
      omega
    · rename_i h
      rcases List.mem_append.1 hx with hx | hx
      · exact ih (v / 10) (by omega) x hx
      · rw [List.mem_singleton.1 hx, UInt8.toNat_ofNat']
        omega
/-- a digit of sixteen -/
def hxB (d : Nat) : UInt8 := UInt8.ofNat (if d < 10 then 48 + d else 87 + d)
theorem hxB_nat (d : Nat) (h : d < 16) : (hxB d).toNat = if d < 10 then 48 + d else 87 + d := by
  unfold hxB
  rw [UInt8.toNat_ofNat']
  split <;> omega
theorem hx_dig (d : Nat) (h : d < 16) : digV (hxB d) = d := by
  have h1 := hxB_nat d h
  unfold digV
  by_cases h2 : d < 10
  · rw [if_pos h2] at h1
    rw [h1, if_pos (by omega)]
    omega
  · rw [if_neg h2] at h1
    rw [h1, if_neg (by omega), if_pos (by omega)]
    omega
def hexD (v : Nat) : List UInt8 := if h : v < 16 then [hxB v] else hexD (v / 16) ++ [hxB (v % 16)]
theorem hex_num (v : Nat) : chrF 16 0 (hexD v) = some v := by
  induction v using Nat.strongRecOn with
  | _ v ih =>
    rw [hexD]
    split
    · rename_i h
      rw [chrF_cons, hx_dig v h, if_neg (by omega), Nat.zero_mul, Nat.zero_add]
      rfl
    · rename_i h
      rw [chrF_app, ih (v / 16) (by omega)]
      show chrF 16 (v / 16) _ = _
      rw [chrF_cons, hx_dig (v % 16) (by omega), if_neg (by omega)]
      show some _ = some _
      congr 1
      omega
theorem hex_len : ∀ (k v : Nat), v < 16 ^ (k + 1) → 1 ≤ (hexD v).length ∧ (hexD v).length ≤ k + 1
  | 0, v, h => by
    rw [hexD, dif_pos (by simpa using h)]
    simp
  | k + 1, v, h => by
    rw [hexD]
    split
    · simp
    · have := hex_len k (v / 16) (by rw [Nat.pow_succ] at h; omega)
      rw [List.length_append]
      simp
      omega
theorem hex_in (v : Nat) : ∀ x ∈ hexD v, (48 ≤ x.toNat ∧ x.toNat ≤ 57) ∨ (97 ≤ x.toNat ∧ x.toNat ≤ 102) := by
  induction v using Nat.strongRecOn with
  | _ v ih =>
    intro x hx
    rw [hexD] at hx
    split at hx
    · rename_i h
      rw [List.mem_singleton.1 hx, hxB_nat v h]
      split <;> omega
    · rename_i h
      rcases List.mem_append.1 hx with hx | hx
      · exact ih (v / 16) (by omega) x hx
      · rw [List.mem_singleton.1 hx, hxB_nat _ (by omega)]
        split <;> omega
theorem utf8_plain : ∀ {l : List UInt8}, (∀ x ∈ l, 32 ≤ x.toNat ∧ x.toNat < 127) → utf8B l = true
  | [], _ => rfl
  | c :: l, h => by
    have hc := h c (by simp)
    have ih := utf8_plain (l := l) (fun x hx => h x (by simp [hx]))
    have h1 : utf8B [c] = true := by
      unfold utf8B
      rw [cnt_one, if_pos ⟨by omega, by unfold charB; rw [decide_eq_true_iff]; omega⟩]
      rfl
    exact (runes_app h1 ih).1
/-! ### a character by its number, as a piece -/
theorem ent_dec {s : List UInt8} (h : ∀ x ∈ s, 48 ≤ x.toNat ∧ x.toNat ≤ 57) (h0 : s ≠ []) : entV (35 :: s) = match chrV s 10 7 with | none => none | some v => if charB v then some (encL (v : Int)) else none := by
  have hn : entN (35 :: s) = chrV s 10 7 := by
    unfold entN
    cases s with
    | nil => exact absurd rfl h0
    | cons c r =>
      have hc := h c (by simp)
      rw [if_neg (by
        rintro ⟨_, e⟩
        injection e with _ e
        injection e with e _
        rw [e] at hc
        exact absurd hc (by decide)), if_pos ⟨by simp, rfl⟩]
      rfl
  rw [entV_num (fun j hj e => by
    have e2 := congrArg (fun l => l.getD 0 0) e
    have : ∀ j < 5, (nmL j).getD 0 0 ≠ 35 := by decide
    exact this j hj e2.symm), hn]
  rfl
theorem ent_hex {s : List UInt8} (h0 : s ≠ []) : entV (35 :: 120 :: s) = match chrV s 16 6 with | none => none | some v => if charB v then some (encL (v : Int)) else none := by
  have hn : entN (35 :: 120 :: s) = chrV s 16 6 := by
    unfold entN
    rw [if_pos ⟨by cases s with | nil => exact absurd rfl h0 | cons c r => simp, rfl⟩]
    rfl
  rw [entV_num (fun j hj e => by
    have e2 := congrArg (fun l => l.getD 0 0) e
    have : ∀ j < 5, (nmL j).getD 0 0 ≠ 35 := by decide
    exact this j hj e2.symm), hn]
  rfl
/-- a text of one character by its number -/
theorem num_toks {e : List UInt8} (h : ∀ x ∈ e, x.toNat ≠ 59 ∧ x.toNat ≠ 60 ∧ 32 ≤ x.toNat ∧ x.toNat < 127) (hl : e.length ≤ 100) :
    (entV e = none → tokE (38 :: e ++ [59]) = 9) ∧ (∀ x, entV e = some x → tokE (38 :: e ++ [59]) = 0 ∧ tokL (38 :: e ++ [59]) = [⟨3, [], x, [], false⟩]) := by
  have hlen : ¬ 4096 < (38 :: e ++ [59]).length := by simp; omega
  have hu : utf8B (38 :: e ++ [59]) = true := utf8_plain (fun x hx => by
    simp at hx
    rcases hx with rfl | hx | rfl
    · decide
    · exact ⟨(h x hx).2.2.1, (h x hx).2.2.2⟩
    · decide)
  have hp : isP prologL (38 :: e ++ [59]) = none := isP_ne (by decide)
  have hb : bodyL (38 :: e ++ [59]) = 38 :: e ++ [59] := by unfold bodyL; rw [hp]; rfl
  have ht : tokP (38 :: e ++ [59]) = (valV (38 :: e ++ [59])).map fun v => (⟨3, [], v, [], false⟩, []) := by
    have hw := tw_app (p := notLt) (a := 38 :: e ++ [59]) (b := []) (fun x hx => by
      unfold notLt
      rw [decide_eq_true_iff]
      simp at hx
      rcases hx with rfl | hx | rfl
      · decide
      · exact (h x hx).2.1
      · decide) (fun x q e => by cases e)
    rw [List.append_nil] at hw
    rw [tokP_text (show isP [60, 47] (38 :: e ++ [59]) = none from isP_ne (r := e ++ [59]) (by decide)) (show isP [60] (38 :: e ++ [59]) = none from isP_ne (r := e ++ [59]) (by decide)), hw.1, hw.2]
  have hv := valV_ent (e := e) (rest := []) (fun b hb => (h b hb).1)
  rw [valV_nil] at hv
  rw [hv] at ht
  constructor
  · intro he
    rw [he] at ht
    have h9 : toksV (38 :: e ++ [59]) = none := by
      rw [List.cons_append] at ht ⊢
      rw [toksV_cons, ht]
      rfl
    unfold tokE
    rw [if_neg hlen, hu, hb, h9]
    rfl
  · intro x he
    rw [he] at ht
    refine tok_answers (by omega) hu hp ?_
    rw [toks_step (by simp) ht, toksV_nil]
    simp
/-! ### the walk -/
/-- the sixteen digits -/
def sixteen : ByteArray := ⟨#[48, 49, 50, 51, 52, 53, 54, 55, 56, 57, 97, 98, 99, 100, 101, 102]⟩
theorem sixteen_at : ∀ r < 16, (sixteen.extract r (r + 1)).data.toList = [hxB r] := by decide
theorem numbers_math (n : Nat) (hn : n < 1200000) : (charB n = false → tokE ([38, 35] ++ Lib.decDigits n ++ [59]) = 9 ∧ tokE ([38, 35, 120] ++ hexD n ++ [59]) = 9) ∧
    (charB n = true → (tokE ([38, 35] ++ Lib.decDigits n ++ [59]) = 0 ∧ tokL ([38, 35] ++ Lib.decDigits n ++ [59]) = [⟨3, [], encL (n : Int), [], false⟩]) ∧ (tokE ([38, 35, 120] ++ hexD n ++ [59]) = 0 ∧ tokL ([38, 35, 120] ++ hexD n ++ [59]) = [⟨3, [], encL (n : Int), [], false⟩])) := by
  have d1 := dec_len 6 n (by omega)
  have h1 := hex_len 5 n (by omega)
  have d2 : chrV (Lib.decDigits n) 10 7 = some n := by unfold chrV; rw [if_neg (by omega), dec_num]
  have h2 : chrV (hexD n) 16 6 = some n := by unfold chrV; rw [if_neg (by omega), hex_num]
  have d3 := ent_dec (s := Lib.decDigits n) (dec_in n) (by intro e; rw [e] at d1; simp at d1)
  have h3 := ent_hex (s := hexD n) (by intro e; rw [e] at h1; simp at h1)
  rw [d2] at d3
  rw [h2] at h3
  have d4 := num_toks (e := 35 :: Lib.decDigits n) (fun x hx => by
    rcases List.mem_cons.1 hx with rfl | hx
    · decide
    · have := dec_in n x hx; omega) (by rw [List.length_cons]; omega)
  have h4 := num_toks (e := 35 :: 120 :: hexD n) (fun x hx => by
    rcases List.mem_cons.1 hx with rfl | hx
    · decide
    rcases List.mem_cons.1 hx with rfl | hx
    · decide
    · have := hex_in n x hx; omega) (by rw [List.length_cons, List.length_cons]; omega)
  constructor
  · intro hc
    simp only [hc] at d3 h3
    exact ⟨d4.1 d3, h4.1 h3⟩
  · intro hc
    simp only [hc] at d3 h3
    exact ⟨d4.2 _ d3, h4.2 _ h3⟩

theorem enc_eq (c : Int) : encL c = (Utf8.encode c).data.toList := rfl
/-- the text of the one token -/
theorem one_text {w : World} {N : Nat → Prop} {A : Option Addr} {n c : Nat} {x : List UInt8} (h : RdI 5 TokI w N A n c [⟨3, [], x, [], false⟩]) : ∃ ad, A = some ad ∧ w.cell? ⟨ad.block, ad.off + 2, none⟩ = some (.string (bstr x)) := by
  obtain ⟨ad, cs, rfl, ⟨X, Y, A1, n1, x1, rfl, hX, hY, hA1⟩, hc⟩ := h.at_ tok_ok (by omega) (i := 0) (by simp)
  have c2 := hc 2 _ rfl
  rw [add_next ad, Nat.zero_mul, add_zero] at c2
  have hY2 : Y = bstr x := by
    have : Y.data.toList = x := hY
    rw [← bstr_self Y, this]
  exact ⟨ad, rfl, by rw [c2, hY2]⟩
set_option maxHeartbeats 1000000 in
theorem numbers_walk {z : Int} (w : World) (hT : Tabs w) (hz : (Lit.int .i64 z).wf = true) : Calls Tryd.prog 4 #[.int .i64 z] w fun e w' => e = .returned (.bool true) ∧ Fr No w w' := by
  obtain ⟨n, hn, hn2⟩ := rem_nat z 1200000 (by omega)
  obtain ⟨hm1, hm2⟩ := numbers_math n (by omega)
  obtain ⟨E, hE⟩ : ∃ E, Utf8.encode (n : Int) = E := ⟨_, rfl⟩
  have hx : encL (n : Int) = E.data.toList := by rw [enc_eq, hE]
  rw [hx] at hm2
  have hdg := fun u => digits_any n u (by omega)
  obtain ⟨D, hD⟩ : ∃ D, bstr (Lib.decDigits n) = D := ⟨_, rfl⟩
  rw [hD] at hdg
  have hDl : D.data.toList = Lib.decDigits n := by rw [← hD]; rfl
  have HDG := Lib.hid hdg; have HDL := Lib.hid hDl; have HM1 := Lib.hid hm1; have HM2 := Lib.hid hm2
  clear hdg hDl hm1 hm2 hD hx
  go_enter Tryd.func4, Tryd.ntmps4
  go_wp2
  go_loop [3, 4] (fun hv iv => ∃ (v : Nat) (H : ByteArray), hv = .string H ∧ iv = .int .i64 (v : Int) ∧ v < 1200000 ∧ (H.data.toList = [] → hexD n = hexD v ++ H.data.toList) ∧ (0 < v → hexD n = hexD v ++ H.data.toList) ∧ (v = 0 → H.data.toList ≠ [] → hexD n = H.data.toList)) (fun hv iv => 2 * (intOf iv).toNat + (match hv with | .string H => if H.size = 0 then 1 else 0 | _ => 0))
  case atStart => exact ⟨n, ⟨#[]⟩, rfl, rfl, by omega, fun _ => by simp, fun _ => by simp, fun _ h => absurd rfl h⟩
  case round =>
    obtain ⟨v, H, rfl, rfl, hv, ha1, ha2, ha3⟩ := hrel
    by_cases hgo : 0 < v ∨ H.data.toList = []
    · have ha : hexD n = hexD v ++ H.data.toList := by rcases hgo with h | h; exact ha2 h; exact ha1 h
      have hHs : H.size ≤ 6 := by
        have h1 := congrArg List.length ha
        have h2 := hex_len 5 n (by omega)
        rw [List.length_append, size_list] at h1
        omega
      obtain ⟨q, hq⟩ : ∃ q, v / 16 = q := ⟨_, rfl⟩
      obtain ⟨r, hr⟩ : ∃ r, v % 16 = r := ⟨_, rfl⟩
      have hnx : (0 < q → hexD n = hexD q ++ ([hxB r] ++ H.data.toList)) ∧ (q = 0 → hexD n = [hxB r] ++ H.data.toList) := by
        constructor
        · intro h
          rw [ha, hexD, dif_neg (by omega), hq, hr, List.append_assoc]
        · intro h
          rw [ha, hexD, dif_pos (by omega), show v = r by omega]
      clear ha1 ha2 ha3
      by_cases hv0 : 0 < v
      · have hgt : (0 : Int) < (v : Int) := by omega
        clear hgo
        have hX := sixteen_at r (by omega)
        obtain ⟨X, hXX⟩ : ∃ X, sixteen.extract r (r + 1) = X := ⟨_, rfl⟩
        rw [hXX] at hX
        unfold sixteen at hXX
        have hXs : X.size = 1 := by rw [← size_list, hX]; rfl
        have e1 : (v : Int).tdiv 16 = (q : Int) := by rw [Int.tdiv_eq_ediv_of_nonneg (by omega)]; omega
        have e2 : (v : Int).tmod 16 = (r : Int) := by rw [Int.tmod_eq_emod_of_nonneg (by omega)]; omega
        have e3 : (v : Int) / 16 = (q : Int) := by omega
        have e4 : (v : Int) % 16 = (r : Int) := by omega
        have f1 : (0 : Int) ≤ (r : Int) + 1 ∧ (r : Int) + 1 ≤ 16 := by omega
        have f2 : (0 : Int) ≤ (r : Int) ∧ (r : Int) ≤ (r : Int) + 1 := by omega
        have HX := Lib.hid hX; have HQ := Lib.hid hq; have HR := Lib.hid hr; have HA := Lib.hid ha; have HNX := Lib.hid hnx
        clear hX hq hr ha hnx
        go_wp2
        go_round
        case rel =>
          have h1 := HQ.out
          have hz : (X ++ H).data.toList ≠ [] := by rw [app_list, HX.out]; simp
          exact ⟨q, X ++ H, rfl, by go_num, by omega, fun h => absurd h hz, fun hq0 => by rw [app_list, HX.out]; exact (HNX.out.1 hq0), fun hq0 _ => by rw [app_list, HX.out]; exact (HNX.out.2 hq0)⟩
        case measure =>
          have h1 := HQ.out
          show 2 * (intOf (.int .i64 _)).toNat + (if (X ++ H).size = 0 then 1 else 0) < 2 * (intOf (.int .i64 (v : Int))).toNat + _
          rw [if_neg (by rw [← size_list, app_list, HX.out]; simp)]
          simp [intOf]
          omega
      · have hvz : v = 0 := by omega
        have hHe : H.data.toList = [] := by rcases hgo with h | h; omega; exact h
        have hHb : (H.toList == []) = true := by rw [ba_list, hHe]; rfl
        have hH0 : H.size = 0 := by rw [← size_list, hHe]; rfl
        have hgt : ¬ (0 : Int) < (v : Int) := by omega
        clear hgo hHe
        subst hvz
        have hq0 : q = 0 := by omega
        have hr0 : r = 0 := by omega
        subst hq0 hr0
        have hX := sixteen_at 0 (by omega)
        obtain ⟨X, hXX⟩ : ∃ X, sixteen.extract 0 (0 + 1) = X := ⟨_, rfl⟩
        rw [hXX] at hX
        have hXX : (⟨#[48, 49, 50, 51, 52, 53, 54, 55, 56, 57, 97, 98, 99, 100, 101, 102]⟩ : ByteArray).extract 0 1 = X := hXX
        have hXs : X.size = 1 := by rw [← size_list, hX]; rfl
        have HX := Lib.hid hX; have HQ := Lib.hid hq; have HR := Lib.hid hr; have HA := Lib.hid ha; have HNX := Lib.hid hnx
        clear hX hq hr ha hnx
        go_wp2
        go_round
        case rel =>
          have h1 := HQ.out
          have hz : (X ++ H).data.toList ≠ [] := by rw [app_list, HX.out]; simp
          exact ⟨0, X ++ H, rfl, by go_num, by omega, fun h => absurd h hz, fun hq0 => by rw [app_list, HX.out]; exact (HNX.out.1 hq0), fun hq0 _ => by rw [app_list, HX.out]; exact (HNX.out.2 hq0)⟩
        case measure =>
          have h1 := HQ.out
          show 2 * (intOf (.int .i64 _)).toNat + (if (X ++ H).size = 0 then 1 else 0) < 2 * (intOf (.int .i64 _)).toNat + (if H.size = 0 then 1 else 0)
          rw [if_neg (by rw [← size_list, app_list, HX.out]; simp), if_pos hH0]
          simp [intOf]
    · have hvz : v = 0 := by omega
      have hHe : H.data.toList ≠ [] := fun h => hgo (.inr h)
      have hfull := ha3 hvz hHe
      have hHb : (H.toList == []) = false := by rw [ba_list, beq_eq_false_iff_ne]; exact hHe
      have hgt : ¬ (0 : Int) < (v : Int) := by omega
      subst hvz
      clear ha1 ha2 ha3 hgo hHe
      obtain ⟨T1, hT1⟩ : ∃ T1, (⟨#[38, 35]⟩ ++ D) ++ ⟨#[59]⟩ = T1 := ⟨_, rfl⟩
      obtain ⟨T2, hT2⟩ : ∃ T2, (⟨#[38, 35, 120]⟩ ++ H) ++ ⟨#[59]⟩ = T2 := ⟨_, rfl⟩
      have l1 : T1.data.toList = [38, 35] ++ Lib.decDigits n ++ [59] := by rw [← hT1, app_list, app_list, HDL.out]
      have l2 : T2.data.toList = [38, 35, 120] ++ hexD n ++ [59] := by rw [← hT2, app_list, app_list, hfull]
      have g1 := dec_len 6 n (by omega)
      have g2 := hex_len 5 n (by omega)
      have sD : D.size ≤ 7 := by rw [← size_list, HDL.out]; exact g1.2
      have sH : H.size ≤ 6 := by rw [← size_list, ← hfull]; exact g2.2
      have hp := fun u (hT : Tabs u) => tokens_any T1 u (by rw [← size_list, l1]; simp; omega)
      have hq := fun u (hT : Tabs u) => tokens_any T2 u (by rw [← size_list, l2]; simp; omega)
      rw [l1] at hp
      rw [l2] at hq
      have hch := fun u => ref_char_any n u
      clear l1 l2 g1 g2 hfull
      cases hc : charB n with
      | false =>
        obtain ⟨m1, m2⟩ := HM1.out hc
        rw [m1] at hp
        rw [m2] at hq
        rw [hc] at hch
        generalize tokL _ = ts at hp
        generalize tokL _ = us at hq
        have HP := Lib.hid hp; have HQ := Lib.hid hq; have HCH := Lib.hid hch
        clear hp hq hch m1 m2 hc
        have tok1 : True := trivial
        go_wp2_with (first
          | (go_at_call 11; refine (HDG.out _).mono ?_; rintro e w0 ⟨rfl, hf0⟩)
          | (go_at_call 9; clear tok1; refine (HP.out _ (by repeat' first | with_reducible assumption | with_reducible apply Tabs.drew | with_reducible apply Tabs.drewN | with_reducible apply Tabs.alloc | refine Tabs.fr ?_ (by with_reducible assumption) | refine Tabs.dr ?_ (by with_reducible assumption))).mono ?_; rintro e w1 ⟨v1, rfl, ho1, hf1⟩)
          | (go_at_call 9; refine (HQ.out _ (by repeat' first | with_reducible assumption | with_reducible apply Tabs.drew | with_reducible apply Tabs.drewN | with_reducible apply Tabs.alloc | refine Tabs.fr ?_ (by with_reducible assumption) | refine Tabs.dr ?_ (by with_reducible assumption))).mono ?_; rintro e w2 ⟨v2, rfl, ho2, hf2⟩)
          | (go_at_call 12; refine (HCH.out _).mono ?_; rintro e w3 ⟨rfl, rfl⟩)
          | (go_at_call 8; refine (awake_any _).mono ?_; rintro e w4 ⟨rfl, hf4⟩))
        go_ret
        exact ⟨rfl, ((hf0.trans hf1).trans hf2).trans hf4⟩
      | true =>
        obtain ⟨⟨m1, m2⟩, m3, m4⟩ := HM2.out hc
        rw [m1, m2] at hp
        rw [m3, m4] at hq
        rw [hc] at hch
        have HP := Lib.hid hp; have HQ := Lib.hid hq; have HCH := Lib.hid hch
        clear hp hq hch m1 m2 m3 m4 hc
        have tok1 : True := trivial
        go_wp2_with (first
          | (go_at_call 11; refine (HDG.out _).mono ?_; rintro e w0 ⟨rfl, hf0⟩)
          | (go_at_call 9; clear tok1; refine (HP.out _ (by repeat' first | with_reducible assumption | with_reducible apply Tabs.drew | with_reducible apply Tabs.drewN | with_reducible apply Tabs.alloc | refine Tabs.fr ?_ (by with_reducible assumption) | refine Tabs.dr ?_ (by with_reducible assumption))).mono ?_; rintro e w1 ⟨v1, rfl, ho1, hf1⟩; obtain ⟨A1, c1, rfl, hr1⟩ := toks_rd ho1)
          | (go_at_call 9; refine (HQ.out _ (by repeat' first | with_reducible assumption | with_reducible apply Tabs.drew | with_reducible apply Tabs.drewN | with_reducible apply Tabs.alloc | refine Tabs.fr ?_ (by with_reducible assumption) | refine Tabs.dr ?_ (by with_reducible assumption))).mono ?_; rintro e w2 ⟨v2, rfl, ho2, hf2⟩; obtain ⟨A2, c2, rfl, hr2⟩ := toks_rd ho2)
          | (go_at_call 12; refine (HCH.out _).mono ?_; rintro e w3 ⟨rfl, rfl⟩)
          | (go_at_call 8; refine (awake_any _).mono ?_; rintro e w4 ⟨rfl, hf4⟩)
          | (go_at_call 13; refine (sameT_any _ _ _ _ _ _ _ _ _ ((hr1.no tok_ok hf2).no tok_ok hf4) (hr2.no tok_ok hf4)).mono ?_; rintro e w5 ⟨rfl, hf5⟩; have hr5 := ((hr1.no tok_ok hf2).no tok_ok hf4).no tok_ok hf5; obtain ⟨ad, rfl, ct⟩ := one_text hr5))
        go_ret
        exact ⟨ret_bool (by rw [ba_list]; exact beq_self_eq_true _), ((((hf0.trans hf1).trans hf2).trans hf4).trans hf5)⟩
end Go.Proofs.YthkbdbgmfolpeaaDoor
