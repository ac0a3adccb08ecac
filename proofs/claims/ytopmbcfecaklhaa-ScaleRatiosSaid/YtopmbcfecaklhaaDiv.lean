/- Division of whole numbers as floats. -/
import Derived.Test.YtopmbcfecaklhaaH
namespace Go.Proofs.Ytopmbcfecaklhaa
open Ieee

/-- A by B, to the nearest whole number, of two the even one. -/
def rnd (A B : Nat) : Nat := A / B + (if B < 2 * (A % B) ∨ (B = 2 * (A % B) ∧ A / B % 2 = 1) then 1 else 0)

theorem rnd_ge (A B : Nat) : A / B ≤ rnd A B := by unfold rnd; omega
theorem rnd_le (A B : Nat) : rnd A B ≤ A / B + 1 := by unfold rnd; split <;> omega

theorem rnd_mono {A B A' B' : Nat} (hB : 0 < B) (hB' : 0 < B') (h : A * B' ≤ A' * B) : rnd A B ≤ rnd A' B' := by
  have d1 := Nat.div_add_mod A B
  have d2 := Nat.div_add_mod A' B'
  have r1 := Nat.mod_lt A hB
  have r2 := Nat.mod_lt A' hB'
  have hlo : A / B ≤ A' / B' := by
    rw [Nat.le_div_iff_mul_le hB']
    have h1 : A / B * B * B' ≤ A' * B := Nat.le_trans (Nat.mul_le_mul_right B' (Nat.div_mul_le_self A B)) h
    have h2 : A / B * B' * B ≤ A' * B := by rw [Nat.mul_right_comm]; exact h1
    exact Nat.le_of_mul_le_mul_right h2 hB
  rcases Nat.lt_or_eq_of_le hlo with g | g
  · have a := rnd_le A B
    have b := rnd_ge A' B'
    omega
  · -- the same whole: the rest decides
    have hr : (A % B) * B' ≤ (A' % B') * B := by
      have e1 : A * B' = (A' / B') * (B * B') + (A % B) * B' := by
        rw [← g]
        have : A * B' = (B * (A / B) + A % B) * B' := by rw [d1]
        rw [this, Nat.add_mul, Nat.mul_comm B (A / B), Nat.mul_assoc]
      have e2 : A' * B = (A' / B') * (B * B') + (A' % B') * B := by
        have : A' * B = (B' * (A' / B') + A' % B') * B := by rw [d2]
        rw [this, Nat.add_mul, Nat.mul_comm B' (A' / B'), Nat.mul_assoc, Nat.mul_comm B' B]
      omega
    unfold rnd
    rw [g]
    generalize A' / B' = t at *
    generalize A % B = r at *
    generalize A' % B' = r' at *
    by_cases c : B < 2 * r ∨ (B = 2 * r ∧ t % 2 = 1)
    · rw [if_pos c]
      have c' : B' < 2 * r' ∨ (B' = 2 * r' ∧ t % 2 = 1) := by
        rcases c with c | ⟨c1, c2⟩
        · left
          have h1 : B * B' < 2 * r * B' := Nat.mul_lt_mul_of_pos_right c hB'
          have h2 : 2 * r * B' ≤ 2 * r' * B := by rw [Nat.mul_assoc, Nat.mul_assoc]; exact Nat.mul_le_mul_left 2 hr
          have h3 : B' * B < 2 * r' * B := by rw [Nat.mul_comm B' B]; omega
          exact Nat.lt_of_mul_lt_mul_right h3
        · have h1 : B * B' ≤ 2 * r * B' := Nat.mul_le_mul_right B' (Nat.le_of_eq c1)
          have h2 : 2 * r * B' ≤ 2 * r' * B := by rw [Nat.mul_assoc, Nat.mul_assoc]; exact Nat.mul_le_mul_left 2 hr
          have h3 : B' * B ≤ 2 * r' * B := by rw [Nat.mul_comm B' B]; omega
          have h4 : B' ≤ 2 * r' := Nat.le_of_mul_le_mul_right h3 hB
          omega
      rw [if_pos c']; omega
    · rw [if_neg c]; omega

theorem rnd_exact {n t : Nat} (hn : 0 < n) : rnd (n * t) n = t := by
  unfold rnd
  rw [Nat.mul_div_cancel_left _ hn, Nat.mul_mod_right]
  rw [if_neg (by omega)]; omega

/-- A quotient's digits with one more that tells of a rest are rounded as the quotient itself. -/
theorem rnd_sticky {D n f : Nat} (hn : 0 < n) (hf : 0 < f) : rnd (2 * (D / n) + (D % n != 0).toNat) (4 * f) = rnd D (n * (2 * f)) := by
  have hr := Nat.mod_lt D hn
  have e1 : D / (n * (2 * f)) = D / n / (2 * f) := (Nat.div_div_eq_div_mul _ _ _).symm
  have e2 : D % (n * (2 * f)) = D % n + n * (D / n % (2 * f)) := Nat.mod_mul
  obtain ⟨s, hs⟩ : ∃ s, s = (D % n != 0).toNat := ⟨_, rfl⟩
  have hs2 : (s = 0 ∧ D % n = 0) ∨ (s = 1 ∧ 0 < D % n) := by
    rw [hs]
    by_cases h : D % n = 0
    · left; simp [h]
    · right; simp [h]; omega
  rw [← hs]
  unfold rnd
  rw [e1, e2]
  generalize D / n = q at *
  generalize D % n = r at *
  have d := Nat.div_add_mod q (2 * f)
  have hu := Nat.mod_lt q (show 0 < 2 * f by omega)
  have l1 : (2 * q + s) / (4 * f) = q / (2 * f) := by
    rw [show 4 * f = 2 * (2 * f) by omega, ← Nat.div_div_eq_div_mul]
    congr 1
    omega
  have l2 : (2 * q + s) % (4 * f) = 2 * (q % (2 * f)) + s := by
    have h1 := Nat.div_add_mod (2 * q + s) (4 * f)
    rw [l1] at h1
    have h2 : 4 * f * (q / (2 * f)) = 2 * (2 * f * (q / (2 * f))) := by
      rw [show 4 * f = 2 * (2 * f) by omega, Nat.mul_assoc]
    omega
  rw [l1, l2]
  generalize q / (2 * f) = t at *
  generalize q % (2 * f) = u at *
  have key : (4 * f < 2 * (2 * u + s) ∨ (4 * f = 2 * (2 * u + s) ∧ t % 2 = 1)) ↔ (n * (2 * f) < 2 * (r + n * u) ∨ (n * (2 * f) = 2 * (r + n * u) ∧ t % 2 = 1)) := by
    have e : n * (2 * f) = 2 * (n * f) := by rw [Nat.mul_left_comm]
    rw [e]
    rcases Nat.lt_trichotomy f u with g | g | g
    · have : n * f + n ≤ n * u := by
        have := Nat.mul_le_mul_left n (show f + 1 ≤ u from g)
        rw [Nat.mul_add, Nat.mul_one] at this; exact this
      constructor
      · intro _; left; omega
      · intro _; left; omega
    · subst g
      rcases hs2 with ⟨a, b⟩ | ⟨a, b⟩
      · subst a b
        constructor
        · rintro (h | h)
          · omega
          · right; omega
        · rintro (h | h)
          · omega
          · right; omega
      · constructor
        · intro _; left; omega
        · intro _; left; omega
    · have : n * u + n ≤ n * f := by
        have := Nat.mul_le_mul_left n (show u + 1 ≤ f from g)
        rw [Nat.mul_add, Nat.mul_one] at this; exact this
      constructor
      · rintro (h | h) <;> omega
      · rintro (h | h) <;> omega
  by_cases c : 4 * f < 2 * (2 * u + s) ∨ (4 * f = 2 * (2 * u + s) ∧ t % 2 = 1)
  · rw [if_pos c, if_pos (key.1 c)]
  · rw [if_neg c, if_neg (fun h => c (key.2 h))]

theorem rnd_scale {A B k : Nat} (hk : 0 < k) (hB : 0 < B) : rnd (A * k) (B * k) = rnd A B := by
  have hBk : 0 < B * k := Nat.mul_pos hB hk
  apply Nat.le_antisymm
  · exact rnd_mono hBk hB (by rw [Nat.mul_right_comm, Nat.mul_assoc]; exact Nat.le_refl _)
  · exact rnd_mono hB hBk (by rw [Nat.mul_right_comm, Nat.mul_assoc]; exact Nat.le_refl _)

theorem cut_rnd (neg : Bool) {n d : Nat} (h : d ≤ n.log2 + 2) : Toward.even.cut neg n d = rnd n (2 ^ d) := by
  unfold Toward.cut rnd
  simp only [Nat.shiftLeft_eq, Nat.one_mul]
  rw [Nat.min_eq_left h]
  congr 1
  generalize 2 ^ d = g
  generalize n % g = r
  generalize n / g = t
  by_cases c : g < 2 * r ∨ (g = 2 * r ∧ t % 2 = 1)
  · rw [if_pos c]
    have : (decide (g < 2 * r) || (g == 2 * r && t % 2 == 1)) = true := by
      rcases c with c | ⟨c1, c2⟩
      · simp [c]
      · simp [c1, c2]
    rw [this]; rfl
  · rw [if_neg c]
    have : (decide (g < 2 * r) || (g == 2 * r && t % 2 == 1)) = false := by
      simp only [not_or, not_and] at c
      simp only [Bool.or_eq_false_iff, decide_eq_false_iff_not, Bool.and_eq_false_iff, beq_eq_false_iff_ne]
      refine ⟨c.1, ?_⟩
      by_cases e : g = 2 * r
      · right; exact c.2 e
      · left; exact e
    rw [this]; rfl
end Go.Proofs.Ytopmbcfecaklhaa
