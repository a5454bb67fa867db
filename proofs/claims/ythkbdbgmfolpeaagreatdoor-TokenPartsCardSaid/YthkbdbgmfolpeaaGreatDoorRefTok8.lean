/- The statements' own tokens: a text's value. -/
import Derived.Test.YthkbdbgmfolpeaaGreatDoorRefTok7
namespace Go.Proofs.YthkbdbgmfolpeaaGreatDoor
open Go.RowKit
set_option maxHeartbeats 1000000
set_option linter.unusedVariables false

/-- a text's value as bytes; none: nothing -/
def valB (l : List UInt8) : List UInt8 := (valV l).getD []
theorem valV_open {r : List UInt8} (h : ∀ b ∈ r, b.toNat ≠ 59) : valV (38 :: r) = none := by
  unfold valV
  rw [List.length_cons, valF_amp]
  have : r.dropWhile (fun b => decide (b.toNat ≠ 59)) = [] := by
    induction r with
    | nil => rfl
    | cons c r ih =>
      rw [List.dropWhile_cons, if_pos (by simpa using h c (by simp))]
      exact ih (fun b hb => h b (by simp [hb]))
  rw [this]
theorem entV_small {s x : List UInt8} (h : entV s = some x) : x ≠ [] ∧ x.length ≤ 4 := by
  unfold entV at h
  split at h
  · injection h with h; subst h; simp
  split at h
  · injection h with h; subst h; simp
  split at h
  · injection h with h; subst h; simp
  split at h
  · injection h with h; subst h; simp
  split at h
  · injection h with h; subst h; simp
  simp only at h
  split at h
  · cases h
  · rename_i v _
    split at h
    · rename_i hc
      injection h with h
      subst h
      have hv : v ≤ 1114111 ∧ ¬ (55296 ≤ v ∧ v ≤ 57343) := by unfold charB at hc; simp at hc; omega
      have he := enc_size hv.1 hv.2
      constructor
      · intro e
        rw [e] at he
        simp at he
      · omega
    · cases h
theorem sdrop_cons (S : ByteArray) (k : Nat) (h : k < S.size) : S.data.toList.drop k = S[k] :: S.data.toList.drop (k + 1) := by
  rw [List.drop_eq_getElem_cons (by rw [size_list]; exact h)]
  rfl
theorem ext_list (S : ByteArray) (i j : Nat) : (S.extract i j).data.toList = (S.data.toList.drop i).take (j - i) := by
  rw [ByteArray.data_extract, Array.toList_extract, List.extract_eq_take_drop]
theorem app_list (S T : ByteArray) : (S ++ T).data.toList = S.data.toList ++ T.data.toList := by
  rw [ByteArray.data_append, Array.toList_append]

theorem r_value_any (S : ByteArray) (w : World) (hs : S.size ≤ 65536) :
    Calls Tryz.prog 28 #[.string S] w fun e w' => ∃ R : ByteArray, e = .returned (.tuple #[.string R, .bool (valV S.data.toList).isSome]) ∧ R.data.toList = valB S.data.toList ∧ Fr No w w' := by
  have hsl := size_list S
  have HSL := Lib.hid hsl
  clear hsl
  go_enter Tryz.func28, Tryz.ntmps28
  go_wp2
  go_loopw [4, 5] (fun ov iv wr => ∃ (k : Nat) (O : ByteArray), ov = .string O ∧ iv = .int .i64 (k : Int) ∧ k ≤ S.size ∧ O.size ≤ 4 * k ∧ valV S.data.toList = (valV (S.data.toList.drop k)).map (O.data.toList ++ ·) ∧ Fr No w wr) (fun _ iv _ => S.size - (intOf iv).toNat)
  case atStart => exact ⟨0, ⟨#[]⟩, rfl, rfl, by omega, by decide, by simp, Fr.refl _ _⟩
  case round =>
    obtain ⟨k, O, rfl, rfl, hk, hO, hval, hf⟩ := hrel
    have HV := Lib.hid hval
    clear hval
    by_cases hlt : k < S.size
    · have hltI : (k : Int) < (S.size : Int) := by omega
      have hdr := sdrop_cons S k hlt
      obtain ⟨x, hx⟩ : ∃ x, S[k] = x := ⟨_, rfl⟩
      rw [hx] at hdr
      have HDR := Lib.hid hdr
      clear hdr
      by_cases hx38 : x.toNat = 38
      · have hxb : ((x.toNat : Int) != 38) = false := by rw [hx38]; rfl
        have hx0 : x = 38 := UInt8.toNat_inj.1 hx38
        have HX0 := Lib.hid hx0
        clear hx0 hx38
        go_wp2
        go_loop [6] (fun ev => ∃ e : Nat, ev = .int .i64 (e : Int) ∧ k ≤ e ∧ e ≤ S.size ∧ ∀ j (hj : k ≤ j) (hje : j < e) (hl : j < S.size), S[j].toNat ≠ 59) (fun ev => S.size - (intOf ev).toNat)
        case atStart => exact ⟨k, rfl, by omega, by omega, fun j h1 h2 => by omega⟩
        case round =>
          obtain ⟨e, rfl, hke, hes, hall⟩ := hrel
          have HALL := Lib.hid hall
          clear hall
          by_cases hle : e < S.size
          · have hleI : (e : Int) < (S.size : Int) := by omega
            obtain ⟨y, hy⟩ : ∃ y, S[e] = y := ⟨_, rfl⟩
            by_cases hy59 : y.toNat = 59
            · have hyb : ((y.toNat : Int) != 59) = false := by rw [hy59]; rfl
              have hek : k < e := by
                rcases Nat.lt_or_ge k e with h | h
                · exact h
                · exfalso
                  have e1 : k = e := by omega
                  subst e1
                  rw [hx, HX0.out] at hy
                  rw [← hy] at hy59
                  exact absurd hy59 (by decide)
              have f1 : (0 : Int) ≤ (e : Int) ∧ (e : Int) ≤ (S.size : Int) := by omega
              have f2 : (0 : Int) ≤ (k : Int) + 1 ∧ (k : Int) + 1 ≤ (e : Int) := by omega
              have hne : ((e : Int) == (S.size : Int)) = false := by rw [beq_eq_false_iff_ne]; omega
              obtain ⟨T, hT⟩ : ∃ T, S.extract (k + 1) e = T := ⟨_, rfl⟩
              have hTl : T.data.toList = (S.data.toList.drop (k + 1)).take (e - (k + 1)) := by rw [← hT, ext_list]
              have hTs : T.size ≤ 65536 := by rw [← size_list, hTl, List.length_take]; omega
              have hno : ∀ b ∈ T.data.toList, b.toNat ≠ 59 := by
                intro b hb
                rw [hTl] at hb
                obtain ⟨j, hj, rfl⟩ := List.getElem_of_mem hb
                rw [List.length_take, List.length_drop, HSL.out] at hj
                rw [List.getElem_take, List.getElem_drop]
                exact HALL.out (k + 1 + j) (by omega) (by omega) (by omega)
              have hspl : S.data.toList.drop k = 38 :: T.data.toList ++ (59 :: S.data.toList.drop (e + 1)) := by
                have hy0 : y = 59 := UInt8.toNat_inj.1 hy59
                rw [HDR.out, HX0.out, hTl, List.cons_append]
                congr 1
                have h1 := List.take_append_drop (e - (k + 1)) (S.data.toList.drop (k + 1))
                rw [List.drop_drop, show k + 1 + (e - (k + 1)) = e by omega, sdrop_cons S e hle, hy, hy0] at h1
                exact h1.symm
              have hvk := HV.out
              rw [hspl, valV_ent hno] at hvk
              have hent := fun u => r_entity_any T u hTs
              cases hE : entV T.data.toList with
              | none =>
                rw [hE] at hent hvk
                have h1 : (valV S.data.toList).isSome = false := by rw [hvk]; rfl
                have h2 : valB S.data.toList = [] := by unfold valB; rw [hvk]; rfl
                have H1 := Lib.hid h1; have H2 := Lib.hid h2; have HENT := Lib.hid hent
                clear h1 h2 hvk hent hE hspl hno hTl hTs hy59
                go_wp2_with (go_at_call 48; refine (HENT.out _).mono ?_; rintro e1 w2 ⟨R, rfl, hR, hf2⟩; have hRc : (R.toList == []) = true := by rw [ba_list, hR]; rfl)
                go_ret2
                exact ⟨⟨#[]⟩, by rw [H1.out]; rfl, by rw [H2.out], hf.trans hf2⟩
              | some z =>
                rw [hE] at hent hvk
                obtain ⟨hz0, hz4⟩ := entV_small hE
                have HVK := Lib.hid hvk; have HENT := Lib.hid hent; have HZ0 := Lib.hid hz0; have HZ4 := Lib.hid hz4
                clear hvk hent hE hspl hno hTl hTs hy59 hz0 hz4
                go_wp2_with (go_at_call 48; refine (HENT.out _).mono ?_; rintro e1 w2 ⟨R, rfl, hR, hf2⟩; have hRc : (R.toList == []) = false := (by rw [ba_list, hR, beq_eq_false_iff_ne]; exact HZ0.out); have hRs : R.size ≤ 4 := (by rw [← size_list, hR]; exact HZ4.out))
                go_roundw
                case rel => exact ⟨e + 1, O ++ R, rfl, by go_num, by omega, by rw [← size_list, app_list, hR]; have h1 := size_list O; have h2 := HZ4.out; simp; omega, by
                  rw [HVK.out, app_list, hR, Option.map_map]
                  congr 1
                  funext q
                  simp, hf.trans hf2⟩
                case measure => simp [intOf]; omega
            · have hyb : ((y.toNat : Int) != 59) = true := by rw [bne_iff_ne]; omega
              go_wp2
              go_round
              case rel => exact ⟨e + 1, by go_num, by omega, by omega, fun j h1 h2 hl => by
                by_cases hje : j = e
                · subst hje; rw [hy]; exact hy59
                · exact HALL.out j h1 (by omega) hl⟩
              case measure => simp [intOf]; omega
          · obtain rfl : e = S.size := by omega
            have hltI2 : ¬ (S.size : Int) < (S.size : Int) := by omega
            have hno : ∀ b ∈ S.data.toList.drop (k + 1), b.toNat ≠ 59 := by
              intro b hb
              obtain ⟨j, hj, rfl⟩ := List.getElem_of_mem hb
              rw [List.length_drop, HSL.out] at hj
              rw [List.getElem_drop]
              exact HALL.out (k + 1 + j) (by omega) (by omega) (by omega)
            have hvk := HV.out
            rw [HDR.out, HX0.out, valV_open hno] at hvk
            have h1 : (valV S.data.toList).isSome = false := by rw [hvk]; rfl
            have h2 : valB S.data.toList = [] := by unfold valB; rw [hvk]; rfl
            have H1 := Lib.hid h1; have H2 := Lib.hid h2
            clear h1 h2 hvk hno
            go_wp2
            go_ret2
            exact ⟨⟨#[]⟩, by rw [H1.out]; rfl, by rw [H2.out], hf⟩
      · have hxb : ((x.toNat : Int) != 38) = true := by rw [bne_iff_ne]; omega
        have f1 : (0 : Int) ≤ (k : Int) + 1 ∧ (k : Int) + 1 ≤ (S.size : Int) := by omega
        have f2 : (0 : Int) ≤ (k : Int) ∧ (k : Int) ≤ (k : Int) + 1 := by omega
        go_wp2
        go_roundw
        case rel => exact ⟨k + 1, O ++ S.extract k (k + 1), rfl, by go_num, by omega, by rw [← size_list, app_list, ext_list, HDR.out]; have := size_list O; simp; omega, by
          rw [HV.out, HDR.out, valV_plain hx38, app_list, ext_list, HDR.out, Option.map_map]
          congr 1
          funext z
          simp, hf⟩
        case measure => simp [intOf]; omega
    · obtain rfl : k = S.size := by omega
      have hltI : ¬ (S.size : Int) < (S.size : Int) := by omega
      have hv : valV S.data.toList = some O.data.toList := by
        rw [HV.out, List.drop_eq_nil_of_le (by rw [HSL.out]; exact Nat.le_refl _), valV_nil]
        simp
      have h1 : (valV S.data.toList).isSome = true := by rw [hv]; rfl
      have h2 : valB S.data.toList = O.data.toList := by unfold valB; rw [hv]; rfl
      have H1 := Lib.hid h1; have H2 := Lib.hid h2
      clear h1 h2 hv
      go_wp2
      go_ret2
      exact ⟨O, by rw [H1.out]; rfl, H2.out.symm, hf⟩
end Go.Proofs.YthkbdbgmfolpeaaGreatDoor
