/- Plain facts: numbers and their bytes. -/
import Derived.Test.YtefgedabakecnaaN
namespace Go.Proofs.Ytefgedabakecnaa
open Go.RowKit Go.PlainAid

/-- The bytes l stand in s from place p on. -/
def Has (s : ByteArray) (p : Nat) (l : List UInt8) : Prop := p + l.length ≤ s.size ∧ ∀ i, (h : i < l.length) → bt s (p + i) = (l[i].toNat : Int)
theorem Has.tail {s : ByteArray} {p : Nat} {b : UInt8} {l : List UInt8} (h : Has s p (b :: l)) : Has s (p + 1) l := by
  obtain ⟨h1, h2⟩ := h
  refine ⟨by simp at h1; omega, fun i hi => ?_⟩
  have := h2 (i + 1) (by simp; omega)
  simpa [Nat.add_assoc, Nat.add_comm 1 i] using this
theorem Has.head {s : ByteArray} {p : Nat} {b : UInt8} {l : List UInt8} (h : Has s p (b :: l)) : p < s.size ∧ bt s p = (b.toNat : Int) := by
  obtain ⟨h1, h2⟩ := h
  exact ⟨by simp at h1; omega, by have := h2 0 (by simp); simpa using this⟩
theorem Has.cons {s : ByteArray} {p : Nat} {b : UInt8} {l : List UInt8} (_h : p < s.size) (hb : bt s p = (b.toNat : Int)) (ht : Has s (p + 1) l) : Has s p (b :: l) := by
  obtain ⟨h1, h2⟩ := ht
  refine ⟨by simp; omega, fun i hi => ?_⟩
  cases i with
  | zero => simpa using hb
  | succ i => have := h2 i (by simpa using hi); simpa [Nat.add_assoc, Nat.add_comm 1 i] using this

theorem nat8 {m : Nat} (h : m < 256) : (UInt8.ofNat m).toNat = m := by simp [Nat.mod_eq_of_lt h]

/-- A number's bytes are got as the number. -/
theorem numGo_put (s : ByteArray) : ∀ (f n p k : Nat) (m : Nat), k + f = 4 → n < 128 ^ (f + 1) → (0 < n ∨ k = 0) → m + n * 128 ^ k ≤ 2147483647 → Has s p (putGo f n) →
    numGo s (f + 1) p k (m : Int) = (0, ((m + n * 128 ^ k : Nat) : Int), k + (putGo f n).length) := by
  intro f
  induction f with
  | zero =>
    intro n p k m hk hn hz hm hh
    obtain ⟨h1, h2⟩ := Has.head (l := []) hh
    have hn' : n < 128 := by simpa using hn
    have hk4 : k = 4 := by omega
    rw [nat8 (by omega)] at h2
    have e : (m : Int) + (n : Int) % 128 * 128 ^ k = ((m + n * 128 ^ k : Nat) : Int) := by
      rw [Int.emod_eq_of_lt (by omega) (by omega)]; simp
    rw [numGo, if_neg (by omega), h2, e, if_neg (by omega), if_neg (by omega), if_pos (by omega)]
    rfl
  | succ f ih =>
    intro n p k m hk hn hz hm hh
    have hpk : (0 : Nat) < 128 ^ k := Nat.pow_pos (by omega)
    by_cases h127 : 127 < n
    · rw [putGo, if_pos h127] at hh ⊢
      obtain ⟨h1, h2⟩ := hh.head
      rw [nat8 (by omega)] at h2
      have e : (m : Int) + ((n % 128 + 128 : Nat) : Int) % 128 * 128 ^ k = ((m + n % 128 * 128 ^ k : Nat) : Int) := by
        have : ((n % 128 + 128 : Nat) : Int) % 128 = ((n % 128 : Nat) : Int) := by omega
        rw [this]; simp
      have e2 : m + n % 128 * 128 ^ k + n / 128 * 128 ^ (k + 1) = m + n * 128 ^ k := by
        have := Nat.div_add_mod n 128
        rw [Nat.pow_succ, show n / 128 * (128 ^ k * 128) = (128 * (n / 128)) * 128 ^ k by rw [Nat.mul_comm (128 ^ k) 128, ← Nat.mul_assoc, Nat.mul_comm 128 (n / 128)], Nat.add_assoc, ← Nat.add_mul, Nat.add_comm (n % 128), this]
      have e3 : m + n % 128 * 128 ^ k ≤ 2147483647 := by omega
      rw [numGo, if_neg (by omega), h2, e, if_neg (by omega), if_neg (by omega), if_neg (by omega)]
      rw [ih (n / 128) (p + 1) (k + 1) (m + n % 128 * 128 ^ k) (by omega) (by rw [Nat.pow_succ] at hn; exact Nat.div_lt_of_lt_mul (by omega)) (by omega) (by omega) hh.tail, e2]
      simp only [List.length_cons]
      rw [show k + 1 + (putGo f (n / 128)).length = k + ((putGo f (n / 128)).length + 1) by omega]
    · rw [putGo, if_neg h127] at hh ⊢
      obtain ⟨h1, h2⟩ := hh.head
      rw [nat8 (by omega)] at h2
      have e : (m : Int) + (n : Int) % 128 * 128 ^ k = ((m + n * 128 ^ k : Nat) : Int) := by
        rw [Int.emod_eq_of_lt (by omega) (by omega)]; simp
      rw [numGo, if_neg (by omega), h2, e, if_neg (by omega), if_neg (by omega), if_pos (by omega)]
      rfl

theorem cutN_le (n : Int) : cutN n ≤ 2147483647 := by unfold cutN; omega
theorem cutN_int (n : Int) : (cutN n : Int) = max 0 (min n 2147483647) := by unfold cutN; omega
theorem num_put {s : ByteArray} {p : Nat} {n : Int} (h : Has s p (putB n)) : num s p = (0, (cutN n : Int), (putB n).length) := by
  have h1 := cutN_le n
  have := numGo_put s 4 (cutN n) p 0 0 (by omega) (by omega) (by omega) (by omega) h
  simpa [num, putB] using this

/-- What is got as a number is that number's bytes. -/
theorem numGo_has (s : ByteArray) : ∀ (f p k : Nat) (m : Int) (r : Int) (sz : Nat), k + f = 4 → numGo s (f + 1) p k m = (0, r, sz) →
    ∃ n : Nat, r = m + n * 128 ^ k ∧ sz = k + (putGo f n).length ∧ Has s p (putGo f n) ∧ n < 128 ^ (f + 1) ∧ (0 < n ∨ k = 0) := by
  intro f
  induction f with
  | zero =>
    intro p k m r sz hk h
    have b0 := bt_nonneg s p
    rw [numGo] at h
    split at h
    · simp at h
    · split at h
      · simp at h
      · split at h
        · simp at h
        · split at h
          · simp only [Prod.mk.injEq, true_and] at h
            obtain ⟨rfl, rfl⟩ := h
            have e : bt s p % 128 = bt s p := Int.emod_eq_of_lt (by omega) (by omega)
            refine ⟨(bt s p).toNat, by rw [e, Int.toNat_of_nonneg b0], rfl, Has.cons (by omega) (by rw [nat8 (by omega)]; omega) ⟨by simp; omega, fun i hi => by simp at hi⟩, by simp; omega, by omega⟩
          · rw [numGo] at h; simp at h
  | succ f ih =>
    intro p k m r sz hk h
    have b0 := bt_nonneg s p
    have b1 := bt_le s p
    rw [numGo] at h
    split at h
    · simp at h
    · split at h
      · simp at h
      · split at h
        · simp at h
        · split at h
          · simp only [Prod.mk.injEq, true_and] at h
            obtain ⟨rfl, rfl⟩ := h
            have e : bt s p % 128 = bt s p := Int.emod_eq_of_lt (by omega) (by omega)
            have h128 : 128 ≤ 128 ^ (f + 1 + 1) := by
              have : 0 < 128 ^ (f + 1) := Nat.pow_pos (by omega)
              rw [Nat.pow_succ]; omega
            refine ⟨(bt s p).toNat, by rw [e, Int.toNat_of_nonneg b0], by rw [putGo, if_neg (by omega)]; rfl, ?_, by omega, by omega⟩
            rw [putGo, if_neg (by omega)]
            exact Has.cons (by omega) (by rw [nat8 (by omega)]; omega) ⟨by simp; omega, fun i hi => by simp at hi⟩
          · obtain ⟨n, h1, h2, h3, h4, h5⟩ := ih _ _ _ _ _ (by omega) h
            have hn0 : 0 < n := by omega
            have hd : (128 * n + (bt s p - 128).toNat) / 128 = n := by omega
            have hm : (128 * n + (bt s p - 128).toNat) % 128 = (bt s p - 128).toNat := by omega
            have hput : putGo (f + 1) (128 * n + (bt s p - 128).toNat) = UInt8.ofNat ((bt s p - 128).toNat + 128) :: putGo f n := by
              rw [putGo, if_pos (by omega), hd, hm]
            refine ⟨128 * n + (bt s p - 128).toNat, ?_, by rw [hput, h2]; simp; omega, ?_, ?_, by omega⟩
            · rw [h1]
              have e : bt s p % 128 = bt s p - 128 := by omega
              have e2 : (((128 * n + (bt s p - 128).toNat : Nat)) : Int) = 128 * (n : Int) + (bt s p - 128) := by omega
              rw [e, e2, Int.pow_succ, Int.add_mul, Int.mul_assoc, Int.mul_comm 128 ((n : Int) * 128 ^ k), Int.mul_assoc]
              omega
            · rw [hput]
              exact Has.cons (by omega) (by rw [nat8 (by omega)]; omega) h3
            · rw [Nat.pow_succ]; omega

theorem num_has {s : ByteArray} {p : Nat} (h : (num s p).1 = 0) : Has s p (putB (num s p).2.1) ∧ (num s p).2.2 = (putB (num s p).2.1).length := by
  obtain ⟨g1, g2, g3, g4, g5⟩ := num_in s p h
  obtain ⟨n, h1, h2, h3, h4, h5⟩ := numGo_has s 4 p 0 0 (num s p).2.1 (num s p).2.2 (by omega) (by
    have : num s p = ((num s p).1, (num s p).2.1, (num s p).2.2) := rfl
    rw [h] at this; exact this)
  have hc : cutN (num s p).2.1 = n := by unfold cutN; simp at h1; omega
  unfold putB
  rw [hc]
  exact ⟨h3, by simpa using h2⟩
end Go.Proofs.Ytefgedabakecnaa
