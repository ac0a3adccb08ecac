/- Plain facts, more: lengths, short bytes, lists, places moved. -/
import Derived.Test.YtefgedabakecnaaQ
namespace Go.Proofs.Ytefgedabakecnaa
open Go.RowKit Go.PlainAid

/-! Lengths. -/
theorem putGo_length : ∀ (f n k : Nat), (k = 0 ∨ 128 ^ k ≤ n) → n < 128 ^ (k + 1) → k ≤ f → (putGo f n).length = k + 1 := by
  intro f
  induction f with
  | zero => intro n k _ _ hk; rw [show k = 0 from Nat.le_zero.1 hk]; rfl
  | succ f ih =>
    intro n k h1 h2 hk
    have hp : 0 < 128 ^ k := Nat.pow_pos (by omega)
    cases k with
    | zero => rw [putGo_last (by simp at h2; omega)]; rfl
    | succ k =>
      have h3 : 128 ^ (k + 1) ≤ n := by rcases h1 with h1 | h1; omega; exact h1
      have h4 : 128 ≤ 128 ^ (k + 1) := by
        have : 0 < 128 ^ k := Nat.pow_pos (by omega)
        rw [Nat.pow_succ]; omega
      rw [putGo, if_pos (by omega), List.length_cons, ih (n / 128) k (.inr ?_) ?_ (by omega)]
      · rw [Nat.pow_succ] at h3; exact (Nat.le_div_iff_mul_le (by omega)).2 h3
      · rw [Nat.pow_succ] at h2; exact Nat.div_lt_of_lt_mul (by omega)
theorem putGo_mono : ∀ (f a b : Nat), a ≤ b → (putGo f a).length ≤ (putGo f b).length := by
  intro f
  induction f with
  | zero => intro a b _; simp [putGo]
  | succ f ih =>
    intro a b h
    simp only [putGo]
    split <;> split
    · have := ih (a / 128) (b / 128) (Nat.div_le_div_right h); simp; omega
    · omega
    · simp
    · simp
theorem putB_mono {a b : Int} (h : a ≤ b) : (strB (putB a)).size ≤ (strB (putB b)).size := by
  rw [strB_size, strB_size]
  exact putGo_mono 4 _ _ (by unfold cutN; omega)
theorem putB_length {n : Int} {k : Nat} (h1 : k = 0 ∨ (128 : Int) ^ k ≤ max 0 (min n 2147483647)) (h2 : max 0 (min n 2147483647) < (128 : Int) ^ (k + 1)) (hk : k ≤ 4) : (strB (putB n)).size = k + 1 := by
  have hc := cutN_int n
  have e1 : ((128 ^ k : Nat) : Int) = (128 : Int) ^ k := by simp
  have e2 : ((128 ^ (k + 1) : Nat) : Int) = (128 : Int) ^ (k + 1) := by simp
  rw [strB_size]
  exact putGo_length 4 (cutN n) k (by omega) (by omega) hk
theorem putB_pos (n : Int) : 1 ≤ (strB (putB n)).size ∧ (strB (putB n)).size ≤ 5 := by
  rw [strB_size]
  refine ⟨?_, putB_len n⟩
  unfold putB
  rw [putGo]; split <;> simp

/-! Bytes that end too early. -/
theorem numGo_short (s : ByteArray) : ∀ (f n p k : Nat) (m : Nat), k + f = 4 → n < 128 ^ (f + 1) → m + n * 128 ^ k ≤ 2147483647 → Has s p (putGo f n).dropLast → s.size = p + (putGo f n).dropLast.length →
    numGo s (f + 1) p k (m : Int) = (5, 0, 0) := by
  intro f
  induction f with
  | zero =>
    intro n p k m _ _ _ _ hs
    simp [putGo] at hs
    rw [numGo, if_pos (by omega)]
  | succ f ih =>
    intro n p k m hk hn hm hh hs
    by_cases h127 : 127 < n
    · have hne : putGo f (n / 128) ≠ [] := by
        cases f with
        | zero => simp [putGo]
        | succ f => rw [putGo]; split <;> simp
      rw [putGo, if_pos h127, List.dropLast_cons_of_ne_nil hne] at hh hs
      obtain ⟨h1, h2⟩ := hh.head
      rw [nat8 (by omega)] at h2
      have e : (m : Int) + ((n % 128 + 128 : Nat) : Int) % 128 * 128 ^ k = ((m + n % 128 * 128 ^ k : Nat) : Int) := by
        have : ((n % 128 + 128 : Nat) : Int) % 128 = ((n % 128 : Nat) : Int) := by omega
        rw [this]; simp
      have e2 : m + n % 128 * 128 ^ k + n / 128 * 128 ^ (k + 1) = m + n * 128 ^ k := by
        have := Nat.div_add_mod n 128
        rw [Nat.pow_succ, show n / 128 * (128 ^ k * 128) = (128 * (n / 128)) * 128 ^ k by rw [Nat.mul_comm (128 ^ k) 128, ← Nat.mul_assoc, Nat.mul_comm 128 (n / 128)], Nat.add_assoc, ← Nat.add_mul, Nat.add_comm (n % 128), this]
      have e3 : m + n % 128 * 128 ^ k ≤ 2147483647 := by omega
      rw [numGo, if_neg (by omega), h2, e, if_neg (by omega), if_neg (by omega), if_neg (by omega)]
      exact ih (n / 128) (p + 1) (k + 1) (m + n % 128 * 128 ^ k) (by omega) (by rw [Nat.pow_succ] at hn; exact Nat.div_lt_of_lt_mul (by omega)) (by omega) hh.tail (by simp at hs; rw [hs]; simp; omega)
    · rw [putGo, if_neg h127] at hs
      simp at hs
      rw [numGo, if_pos (by omega)]
theorem num_short {s : ByteArray} {p : Nat} {n : Int} (h : Has s p (putB n).dropLast) (hs : s.size = p + (putB n).dropLast.length) : num s p = (5, 0, 0) := by
  have h1 := cutN_le n
  have := numGo_short s 4 (cutN n) p 0 0 (by omega) (by omega) (by omega) h hs
  simpa [num, putB] using this

theorem exists_strB (s : ByteArray) : ∃ l, s = strB l := ⟨s.data.toList, by simp [strB]⟩

theorem getR_put (A B : ByteArray) (n : Int) : getR (A ++ strB (putB n) ++ B) A.size = (0, max 0 (min n 2147483647), (A.size : Int) + (strB (putB n)).size) := by
  obtain ⟨a, rfl⟩ := exists_strB A
  obtain ⟨b, rfl⟩ := exists_strB B
  rw [strB_append, strB_append, strB_size a]
  have h := num_put (has_strB a (putB n) b)
  rw [getR_ok (by rw [strB_size]; simp) (by rw [h]), h, strB_size, ← cutN_int]
theorem getR_short (A : ByteArray) (n : Int) : getR (A ++ (strB (putB n)).extract 0 ((strB (putB n)).size - 1)) A.size = (5, 0, 0) := by
  obtain ⟨a, rfl⟩ := exists_strB A
  have e : (strB (putB n)).extract 0 ((strB (putB n)).size - 1) = strB (putB n).dropLast := by
    rw [strB_size]; ext1; simp [strB, List.dropLast_eq_take]
  rw [e, strB_append, strB_size a]
  have hh := has_strB a (putB n).dropLast []
  rw [List.append_nil] at hh
  have h := num_short (n := n) hh (by rw [strB_size]; simp)
  rw [getR_err (by rw [strB_size]; simp) (by rw [h]; decide), h]

/-! What is got is the number's bytes. -/
theorem has_extract {s : ByteArray} {p : Nat} {l : List UInt8} (h : Has s p l) : s.extract p (p + l.length) = strB l := by
  obtain ⟨b, rfl⟩ := exists_strB s
  obtain ⟨h1, h2⟩ := h
  rw [strB_size] at h1
  have : (b.drop p).take l.length = l := by
    apply List.ext_getElem
    · simp; omega
    · intro i g1 g2
      have := h2 i g2
      rw [bt_strB b (p + i) (by omega)] at this
      simp
      exact UInt8.toNat_inj.1 (by exact_mod_cast this)
  ext1
  simp [strB]
  exact this
theorem getR_has {s : ByteArray} {a : Int} (h : (getR s a).1 = 0) : s.extract a.toNat (getR s a).2.2.toNat = strB (putB (getR s a).2.1) := by
  obtain ⟨g0, g1, g2, g3, g4, g5⟩ := getR_in h
  obtain ⟨p, rfl⟩ := Int.eq_ofNat_of_zero_le g0
  have hp : p ≤ s.size := by omega
  obtain ⟨q1, q2⟩ := getR_num hp
  rw [h] at q1
  obtain ⟨q3, q4⟩ := q2 q1.symm
  obtain ⟨n1, n2⟩ := num_has q1.symm
  rw [q3, q4, Int.toNat_natCast, Int.toNat_natCast, n2]
  exact has_extract n1
end Go.Proofs.Ytefgedabakecnaa
