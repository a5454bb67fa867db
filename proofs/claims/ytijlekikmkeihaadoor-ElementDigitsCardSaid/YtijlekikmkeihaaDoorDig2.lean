/- What package digits makes of texts: a number, bytes of two signs each, signs of bytes: contracts of its calls. -/
import Derived.Test.YtijlekikmkeihaaDoorDig
import Derived.Test.YtijlekikmkeihaaDoorBits
import Derived.Test.YtijlekikmkeihaaDoorDigMath2
namespace Go.Proofs.YtijlekikmkeihaaDoor
open Go.RowKit
set_option maxHeartbeats 400000
set_option linter.unusedVariables false

theorem number_any (s : ByteArray) (w : World) (hs : s.size ≤ maxLen) :
    Calls Tryd.prog 41 #[.string s] w fun e w' => e = .returned (.tuple #[.int .u64 (numR s.data.toList : Int), .int .i64 (numE s.data.toList)]) ∧ w = w' := by
  cases hr : rightB s.data.toList 1 18 with
  | false =>
    have e1 : numR s.data.toList = 0 := by simp [numR, hr]
    have e2 : numE s.data.toList = 5 := by simp [numE, hr]
    have E1 := Lib.hid e1
    have E2 := Lib.hid e2
    have HR := Lib.hid hr
    clear e1 e2 hr
    go_enter Tryd.func41, Tryd.ntmps41
    go_wp2_with (go_at_call 47; refine (right_any _ _ _ _ hs).mono ?_; rw [HR.out]; rintro e w' ⟨rfl, rfl⟩)
    go_ret2
    exact ⟨by rw [E1.out, E2.out]; rfl, rfl⟩
  | true =>
    have e1 : numR s.data.toList = numV s.data.toList := by simp [numR, hr]
    have e2 : numE s.data.toList = 0 := by simp [numE, hr]
    obtain ⟨h1, h2, h3⟩ := rightB_len hr
    have hsz : s.size ≤ 18 := by simp at h2; omega
    have E1 := Lib.hid e1
    have E2 := Lib.hid e2
    have HR := Lib.hid hr
    have HD := Lib.hid h3
    clear e1 e2 hr h1 h2 h3
    go_enter Tryd.func41, Tryd.ntmps41
    go_wp2_with (go_at_call 47; refine (right_any _ _ _ _ hs).mono ?_; rw [HR.out]; rintro e w' ⟨rfl, rfl⟩)
    go_loop [4, 11] (fun v i => ∃ k : Nat, k ≤ s.size ∧ i = .int .i64 (k : Int) ∧ v = .int .u64 (numV (s.data.toList.take k) : Int)) (fun _ i => s.size - (intOf i).toNat)
    case atStart => exact ⟨0, Nat.zero_le _, rfl, rfl⟩
    case round =>
      obtain ⟨k, hk, rfl, rfl⟩ := hrel
      by_cases hlt : k < s.size
      · have hts := take_snoc s k hlt
        have hn := numV_snoc (s.data.toList.take k) s[k]
        rw [← hts] at hn
        have hb := numV_le (dig_take HD.out k)
        have hb2 := pow_le_18 (k := k) (by omega)
        have hl : (s.data.toList.take k).length = k := by simp; omega
        rw [hl] at hb
        have hb3 : numV (s.data.toList.take k) ≤ 100000000000000000 := by omega
        have hh : (half s[k]).toNat < 256 := UInt8.toNat_lt _
        have HN := Lib.hid hn
        clear hn hts hb hb2 hl
        go_wp2_with (go_at_call 48; refine (half_any _ _).mono ?_; rintro e w' ⟨rfl, rfl⟩)
        go_round
        case rel => exact ⟨k + 1, by omega, by go_num, by rw [HN.out]; go_num⟩
        case measure => simp [intOf]; omega
      · obtain rfl : k = s.size := by omega
        go_wp2
        go_ret2
        exact ⟨by rw [E1.out, E2.out, List.take_of_length_le (by simp)]; rfl, rfl⟩

/-- as many bytes as there are pairs: the first k are those of the text, the others 0 -/
def pairRow (l : List UInt8) (n k : Nat) : List UInt8 := pairL (l.take (2 * k)) ++ List.replicate (n - k) 0
theorem pairRow_set (s : ByteArray) (n k : Nat) (hn : n = s.size / 2) (hk : k < n) (h1 : 2 * k < s.size) (h2 : 2 * k + 1 < s.size) :
    (u8s (pairRow s.data.toList n k)).set k (.int .u8 ((pr s[2 * k] s[2 * k + 1]).toNat : Int)) = u8s (pairRow s.data.toList n (k + 1)) := by
  have hp : (pairL (s.data.toList.take (2 * k))).length = k := by rw [pairL_length]; simp; omega
  unfold pairRow
  rw [pairL_snoc k s.data.toList s[2 * k] s[2 * k + 1] (List.getElem?_eq_getElem (by simpa using h1)) (List.getElem?_eq_getElem (by simpa using h2))]
  obtain ⟨m, hm⟩ : ∃ m, n - k = m + 1 := ⟨n - k - 1, by omega⟩
  rw [hm, show n - (k + 1) = m from by omega, List.replicate_succ]
  simp only [u8s, List.map_append, List.map_cons, List.map_nil, List.append_assoc]
  rw [List.set_append_right _ _ (by simp [hp])]
  simp [hp]

theorem pairL_even : ∀ l m : List UInt8, m.length ≤ 1 → l.length % 2 = 0 → pairL (l ++ m) = pairL l
  | [], [], _, _ => rfl
  | [], [x], _, _ => rfl
  | [], _ :: _ :: _, h, _ => by simp at h
  | [x], _, _, h => by simp at h
  | x :: y :: r, m, h, h2 => by
    simp only [List.cons_append, pairL, pairL_even r m h (by simp at h2; omega)]
theorem pairL_all (s : ByteArray) (n : Nat) (hn : n = s.size / 2) : pairL (s.data.toList.take (2 * n)) = pairL s.data.toList := by
  have h := pairL_even (s.data.toList.take (2 * n)) (s.data.toList.drop (2 * n)) (by simp; omega) (by simp; omega)
  rw [List.take_append_drop] at h
  exact h.symm
theorem pairRow_length (s : ByteArray) (n k : Nat) (hn : n = s.size / 2) (hk : k ≤ n) : (pairRow s.data.toList n k).length = n := by
  unfold pairRow
  rw [List.length_append, pairL_length]
  simp
  omega

theorem half_still (c : UInt8) (w : World) : Calls Tryd.prog 48 #[.int .u8 (c.toNat : Int)] w fun e w' => e = .returned (.int .u8 ((half c).toNat : Int)) ∧ w' = w := (half_any c w).mono fun _ _ h => ⟨h.1, h.2.symm⟩

theorem nought_data (s : ByteArray) : (({ data := #[48] } : ByteArray) ++ s).data.toList = 48 :: s.data.toList := by simp
theorem nought_size (s : ByteArray) : (({ data := #[48] } : ByteArray) ++ s).size = s.size + 1 := by
  rw [ByteArray.size_append]
  exact Nat.add_comm _ _

/-- what Bcd answers -/
def bcdR (l : List UInt8) : List UInt8 := if rightB l 0 100 then pairL (evenL l) else []
def bcdE (l : List UInt8) : Int := if rightB l 0 100 then 0 else 5

/-- what UnHex answers -/
def unhexB (l : List UInt8) : Bool := decide (l.length % 2 = 0) && l.all isH
def unhexR (l : List UInt8) : List UInt8 := if unhexB l then pairL l else []
def unhexE (l : List UInt8) : Int := if unhexB l then 0 else 5

end Go.Proofs.YtijlekikmkeihaaDoor
