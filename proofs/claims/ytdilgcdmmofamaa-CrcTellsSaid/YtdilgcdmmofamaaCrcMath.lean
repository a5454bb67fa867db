/- Sums over bytes, as plain functions on numbers: what one bit, two bits, and four bytes do to a sum: no program. -/
import Derived.Test.YtdilgcdmmofamaaBase
namespace Go.Proofs.Ytdilgcdmmofamaa
set_option linter.unusedVariables false

/-- the number that is mixed in -/
def poly : Nat := 3988292384
/-- one of eight steps -/
def crcT (v : Nat) : Nat := if v % 2 = 1 then v / 2 ^^^ poly else v / 2
def iter (n : Nat) (v : Nat) : Nat := match n with | 0 => v | n + 1 => iter n (crcT v)
theorem iter_add : ∀ (a b v : Nat), iter (a + b) v = iter b (iter a v)
  | 0, b, v => by rw [Nat.zero_add]; rfl
  | a + 1, b, v => by rw [show a + 1 + b = (a + b) + 1 from by omega]; exact iter_add a b (crcT v)
theorem iter_snoc (a v : Nat) : iter (a + 1) v = crcT (iter a v) := iter_add a 1 v
/-- a byte -/
def crcB (v : Nat) (x : UInt8) : Nat := iter 8 (v ^^^ x.toNat)
def crcFrom (v : Nat) (l : List UInt8) : Nat := l.foldl crcB v
def all32 : Nat := 4294967295
/-- the sum -/
def crcL (l : List UInt8) : Nat := crcFrom all32 l ^^^ all32

/-! ### it is linear -/
theorem xor_half (a b : Nat) : (a ^^^ b) / 2 = a / 2 ^^^ b / 2 := by
  apply Nat.eq_of_testBit_eq
  intro i
  simp [Nat.testBit_div_two]
theorem xor_odd (a b : Nat) : (a ^^^ b) % 2 = (a + b) % 2 := by
  have h := @Nat.xor_mod_two_eq_one a b
  omega
theorem crcT_xor (a b : Nat) : crcT (a ^^^ b) = crcT a ^^^ crcT b := by
  unfold crcT
  rw [xor_half, xor_odd]
  rcases Nat.mod_two_eq_zero_or_one a with ha | ha <;> rcases Nat.mod_two_eq_zero_or_one b with hb | hb
  · rw [if_neg (by omega), if_neg (by omega), if_neg (by omega)]
  · rw [if_pos (by omega), if_neg (by omega), if_pos (by omega), Nat.xor_assoc]
  · rw [if_pos (by omega), if_pos (by omega), if_neg (by omega), Nat.xor_assoc, Nat.xor_assoc, Nat.xor_comm (b / 2)]
  · rw [if_neg (by omega), if_pos (by omega), if_pos (by omega), Nat.xor_assoc, Nat.xor_comm (b / 2), ← Nat.xor_assoc poly, Nat.xor_self, Nat.zero_xor]
theorem iter_xor : ∀ (n a b : Nat), iter n (a ^^^ b) = iter n a ^^^ iter n b
  | 0, a, b => rfl
  | n + 1, a, b => by
    show iter n (crcT (a ^^^ b)) = iter n (crcT a) ^^^ iter n (crcT b)
    rw [crcT_xor, iter_xor n]
theorem iter_zero : ∀ n, iter n 0 = 0
  | 0 => rfl
  | n + 1 => iter_zero n
theorem crcFrom_append (v : Nat) (l m : List UInt8) : crcFrom v (l ++ m) = crcFrom (crcFrom v l) m := by simp [crcFrom]
theorem crcFrom_split : ∀ (l : List UInt8) (v : Nat), crcFrom v l = iter (8 * l.length) v ^^^ crcFrom 0 l
  | [], v => by simp [crcFrom, iter]
  | x :: l, v => by
    have h1 := crcFrom_split l (crcB v x)
    have h2 := crcFrom_split l (crcB 0 x)
    show crcFrom (crcB v x) l = iter (8 * (l.length + 1)) v ^^^ crcFrom (crcB 0 x) l
    rw [h1, h2]
    unfold crcB
    rw [Nat.zero_xor, iter_xor, iter_xor, show 8 * (l.length + 1) = 8 + 8 * l.length from by omega, iter_add 8, Nat.xor_assoc]
/-- two rows of bytes, bit against bit -/
def xorL (l m : List UInt8) : List UInt8 := List.zipWith (· ^^^ ·) l m
theorem crcZ_xor : ∀ (l m : List UInt8), l.length = m.length → ∀ u v, crcFrom (u ^^^ v) (xorL l m) = crcFrom u l ^^^ crcFrom v m
  | [], [], _, u, v => rfl
  | x :: l, y :: m, h, u, v => by
    show crcFrom (crcB (u ^^^ v) (x ^^^ y)) (xorL l m) = crcFrom (crcB u x) l ^^^ crcFrom (crcB v y) m
    rw [← crcZ_xor l m (by simpa using h)]
    congr 1
    unfold crcB
    rw [← iter_xor, UInt8.toNat_xor]
    congr 1
    rw [Nat.xor_assoc, Nat.xor_assoc]
    congr 1
    rw [← Nat.xor_assoc, Nat.xor_comm v, Nat.xor_assoc]
  | [], _ :: _, h, _, _ => by simp at h
  | _ :: _, [], h, _, _ => by simp at h

/-! ### it forgets nothing -/
theorem crcT_lt {v : Nat} (h : v < 4294967296) : crcT v < 4294967296 := by
  unfold crcT
  split
  · exact Nat.xor_lt_two_pow (n := 32) (by omega) (by decide)
  · omega
theorem iter_lt : ∀ (n : Nat) {v : Nat}, v < 4294967296 → iter n v < 4294967296
  | 0, _, h => h
  | n + 1, _, h => iter_lt n (crcT_lt h)
theorem crcT_zero {v : Nat} (h : v < 4294967296) (h0 : crcT v = 0) : v = 0 := by
  unfold crcT at h0
  split at h0
  · exfalso
    have h1 : v / 2 = poly := by
      have := congrArg (· ^^^ poly) h0
      simpa [Nat.xor_assoc] using this
    unfold poly at h1
    omega
  · omega
theorem iter_zero_iff : ∀ (n : Nat) {v : Nat}, v < 4294967296 → iter n v = 0 → v = 0
  | 0, _, _, h => h
  | n + 1, v, hv, h => crcT_zero hv (iter_zero_iff n (crcT_lt hv) h)
theorem xor_eq_zero {a b : Nat} (h : a ^^^ b = 0) : a = b := by
  have := congrArg (· ^^^ b) h
  simpa [Nat.xor_assoc] using this
theorem iter_inj {n a b : Nat} (ha : a < 4294967296) (hb : b < 4294967296) (h : iter n a = iter n b) : a = b := by
  apply xor_eq_zero
  apply iter_zero_iff n (Nat.xor_lt_two_pow (n := 32) ha hb)
  rw [iter_xor, h, Nat.xor_self]
theorem crcB_lt {v : Nat} (h : v < 4294967296) (x : UInt8) : crcB v x < 4294967296 := iter_lt 8 (Nat.xor_lt_two_pow (n := 32) h (by have := x.toNat_lt; omega))
theorem crcFrom_lt : ∀ (l : List UInt8) {v : Nat}, v < 4294967296 → crcFrom v l < 4294967296
  | [], _, h => h
  | x :: l, _, h => crcFrom_lt l (crcB_lt h x)
theorem crcL_lt (l : List UInt8) : crcL l < 4294967296 := Nat.xor_lt_two_pow (n := 32) (crcFrom_lt l (by decide)) (by decide)

/-! ### one bit -/
def top32 : Nat := 2147483648
/-- of so many steps none leads back -/
def noBack : Nat → Nat → Bool
  | 0, _ => true
  | n + 1, v => if crcT v = top32 then false else noBack n (crcT v)
theorem noBack_iter : ∀ (n v m : Nat), noBack n v = true → 1 ≤ m → m ≤ n → iter m v ≠ top32
  | 0, _, _, _, h1, h2 => by omega
  | n + 1, v, m, h, h1, h2 => by
    unfold noBack at h
    split at h
    · cases h
    · rename_i hne
      obtain ⟨k, rfl⟩ : ∃ k, m = k + 1 := ⟨m - 1, by omega⟩
      show iter k (crcT v) ≠ top32
      rcases Nat.eq_zero_or_pos k with rfl | hk
      · exact hne
      · exact noBack_iter n (crcT v) k h hk (by omega)
theorem no_back : noBack 2600 top32 = true := by decide +kernel
theorem iter_apart {a b : Nat} (hab : a ≠ b) (ha : a ≤ 2600) (hb : b ≤ 2600) : iter a top32 ≠ iter b top32 := by
  intro h
  rcases Nat.lt_or_gt_of_ne hab with hlt | hlt
  · rw [show b = (b - a) + a from by omega, iter_add] at h
    exact noBack_iter 2600 top32 (b - a) no_back (by omega) (by omega) (iter_inj (by decide) (iter_lt _ (by decide)) h).symm
  · rw [show a = (a - b) + b from by omega, iter_add] at h
    exact noBack_iter 2600 top32 (a - b) no_back (by omega) (by omega) (iter_inj (iter_lt _ (by decide)) (by decide) h)
theorem iter_bit : ∀ (j : Nat), j ≤ 31 → iter j top32 = 2 ^ (31 - j)
  | 0, _ => rfl
  | j + 1, h => by
    rw [iter_snoc, iter_bit j (by omega)]
    unfold crcT
    rw [show 31 - j = (31 - (j + 1)) + 1 from by omega, Nat.pow_succ, if_neg (by omega), Nat.mul_div_cancel _ (by decide)]
end Go.Proofs.Ytdilgcdmmofamaa
