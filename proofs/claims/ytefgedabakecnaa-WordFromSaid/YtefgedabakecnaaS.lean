/- The document's numbers as bytes, as plain functions; plain facts on them. -/
import Derived.PlainAid
import Derived.Laws.Bits128
import Derived.Lib.EndianBits
import Derived.Lib.VarintBits
import Derived.Laws.BitsAllLaws
namespace Go.Proofs.Ytefgedabakecnaa
open Go.RowKit Go.PlainAid

/-- The number from place p on: what is wrong (0: nothing), the number, how many bytes; f: how many bytes more it may have, k: how many are read, n: what they make. -/
def numGo (s : ByteArray) : Nat → Nat → Nat → Int → Int × Int × Nat
  | 0, _, _, _ => (2, 0, 0)
  | f + 1, p, k, n =>
    if s.size ≤ p then (5, 0, 0)
    else if 2147483647 < n + bt s p % 128 * 128 ^ k ∨ (f = 0 ∧ 128 ≤ bt s p) then (2, 0, 0)
    else if bt s p = 0 ∧ 0 < k then (4, 0, 0)
    else if bt s p < 128 then (0, n + bt s p % 128 * 128 ^ k, k + 1)
    else numGo s f (p + 1) (k + 1) (n + bt s p % 128 * 128 ^ k)

def num (s : ByteArray) (p : Nat) : Int × Int × Nat := numGo s 5 p 0 0

/-- What Get answers: what is wrong, the number, the place behind. -/
def getR (s : ByteArray) (at_ : Int) : Int × Int × Int :=
  if at_ < 0 ∨ (s.size : Int) < at_ then (1, 0, 0)
  else if (num s at_.toNat).1 = 0 then (0, (num s at_.toNat).2.1, at_ + (num s at_.toNat).2.2) else ((num s at_.toNat).1, 0, 0)

theorem numGo_in (s : ByteArray) : ∀ (f p k : Nat) (m : Int), 0 ≤ m → (numGo s f p k m).1 = 0 →
    k < (numGo s f p k m).2.2 ∧ p + (numGo s f p k m).2.2 ≤ s.size + k ∧ (numGo s f p k m).2.2 ≤ k + f ∧ 0 ≤ (numGo s f p k m).2.1 ∧ (numGo s f p k m).2.1 ≤ 2147483647 := by
  intro f
  induction f with
  | zero => intro p k m _ h; simp [numGo] at h
  | succ f ih =>
    intro p k m hm
    have hb := bt_nonneg s p
    have hp : (0 : Int) ≤ bt s p % 128 * 128 ^ k := Int.mul_nonneg (by omega) (Int.pow_nonneg (by decide))
    simp only [numGo]
    split
    · intro h; simp at h
    · split
      · intro h; simp at h
      · split
        · intro h; simp at h
        · split
          · intro _; dsimp only; omega
          · intro h
            have := ih (p + 1) (k + 1) (m + bt s p % 128 * 128 ^ k) (by omega) h
            omega
theorem num_in (s : ByteArray) (p : Nat) (h : (num s p).1 = 0) : 0 < (num s p).2.2 ∧ p + (num s p).2.2 ≤ s.size ∧ (num s p).2.2 ≤ 5 ∧ 0 ≤ (num s p).2.1 ∧ (num s p).2.1 ≤ 2147483647 := by
  have := numGo_in s 5 p 0 0 (by omega) h
  unfold num; omega

theorem i64_or_low (i : Nat) (y x : Int) (hi : i ≤ 62) (hy₀ : 0 ≤ y) (hy : y < 2 ^ i) (hx₀ : 0 ≤ x) (hx : x % 2 ^ i = 0) (hx₁ : x < 4611686018427387904) : bits .or .i64 y x = y + x := by
  have hp : (2 : Int) ^ i ≤ 2 ^ 62 := by
    have := Nat.pow_le_pow_right (n := 2) (by omega) hi
    exact_mod_cast this
  refine bits_join_low .i64 63 (by decide) (fun n h0 h1 => ?_) i y x hy₀ hy (by omega) hx₀ hx (by omega)
  rw [IntKind.wrap_i64]; omega

theorem pow128 (k : Nat) (hk : k ≤ 4) : (2 : Int) ^ (7 * k) = 128 ^ k ∧ (1 : Int) ≤ 128 ^ k ∧ (128 : Int) ^ k ≤ 268435456 := by
  have : k = 0 ∨ k = 1 ∨ k = 2 ∨ k = 3 ∨ k = 4 := by omega
  rcases this with rfl | rfl | rfl | rfl | rfl <;> decide

/-- How the walk spells the number with one byte more. -/
theorem orIn (m b : Int) (k : Nat) (hk : k ≤ 4) (hm : 0 ≤ m) (hm1 : m < 128 ^ k) (hb : 0 ≤ b) (hb1 : b ≤ 255) :
    bits .or .i64 m (wrap64 (wrap64 (bits .and .u8 b 127) * 2 ^ (7 * k))) = m + b % 128 * 128 ^ k ∧ 0 ≤ m + b % 128 * 128 ^ k ∧ m + b % 128 * 128 ^ k < 128 ^ (k + 1) := by
  have : k = 0 ∨ k = 1 ∨ k = 2 ∨ k = 3 ∨ k = 4 := by omega
  rw [u8_and127 b hb (by omega)]
  have e : wrap64 (b % 128) = b % 128 := by rw [← i64_is, IntKind.wrap_i64]; omega
  rw [e]
  rcases this with rfl | rfl | rfl | rfl | rfl
  all_goals
    simp only [Nat.reduceMul, Nat.reduceAdd, Int.reducePow] at *
    rw [← i64_is, IntWalk.i64_in _ (by omega)]
  · rw [i64_or_low 0 _ _ (by omega) hm (by simpa using hm1) (by omega) (by simp) (by omega)]; omega
  · rw [i64_or_low 7 _ _ (by omega) hm (by simpa using hm1) (by omega) (by simp) (by omega)]; omega
  · rw [i64_or_low 14 _ _ (by omega) hm (by simpa using hm1) (by omega) (by simp) (by omega)]; omega
  · rw [i64_or_low 21 _ _ (by omega) hm (by simpa using hm1) (by omega) (by simp) (by omega)]; omega
  · rw [i64_or_low 28 _ _ (by omega) hm (by simpa using hm1) (by omega) (by simp) (by omega)]; omega

theorem and128_lo (b : Int) (hb : 0 ≤ b) (h : b < 128) : bits .and .u8 b 128 = 0 := by
  rw [u8_and b 128 hb (by omega) (by omega) (by omega)]
  have := nat_bit 7 b.toNat
  simp at this ⊢
  rw [this, Nat.div_eq_of_lt (by omega)]
theorem and128_hi (b : Int) (hb : b ≤ 255) (h : 128 ≤ b) : bits .and .u8 b 128 = 128 := by
  rw [u8_and b 128 (by omega) (by omega) (by omega) (by omega)]
  have := nat_bit 7 b.toNat
  simp at this ⊢
  rw [this]
  have : b.toNat / 128 = 1 := by omega
  rw [this]; decide
end Go.Proofs.Ytefgedabakecnaa
