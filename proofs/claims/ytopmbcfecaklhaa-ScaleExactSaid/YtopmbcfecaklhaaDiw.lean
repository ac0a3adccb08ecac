/- The rung of a ratio. -/
import Derived.Test.YtopmbcfecaklhaaDiv
namespace Go.Proofs.Ytopmbcfecaklhaa
open Ieee

def nm (a : Nat) : Nat := a * 2 ^ (52 - a.log2)
def rq (a b : Nat) : Nat :=
  if nm b ≤ nm a then (a.log2 + 1022 - b.log2) * 4503599627370496 + rnd (nm a * 4503599627370496) (nm b)
  else (a.log2 + 1021 - b.log2) * 4503599627370496 + rnd (nm a * 9007199254740992) (nm b)

theorem nm_bounds {a : Nat} (h0 : 0 < a) (h : a < 9007199254740992) : a.log2 ≤ 52 ∧ 4503599627370496 ≤ nm a ∧ nm a < 9007199254740992 := log2_bounds h0 h

theorem log2_of {n k : Nat} (h1 : 2 ^ k ≤ n) (h2 : n < 2 ^ (k + 1)) : n.log2 = k := by
  have hn : n ≠ 0 := by have := Nat.two_pow_pos k; omega
  have a : k ≤ n.log2 := (Nat.le_log2 hn).2 h1
  have b : n.log2 < k + 1 := (Nat.log2_lt hn).2 h2
  omega

/-- The digits lie where they should. -/
theorem rnd_bounds {m n : Nat} (m1 : 4503599627370496 ≤ m) (m2 : m < 9007199254740992) (n1 : 4503599627370496 ≤ n) (n2 : n < 9007199254740992) :
    (n ≤ m → 4503599627370496 ≤ rnd (m * 4503599627370496) n ∧ rnd (m * 4503599627370496) n ≤ 9007199254740992) ∧ (m < n → 4503599627370496 ≤ rnd (m * 9007199254740992) n ∧ rnd (m * 9007199254740992) n ≤ 9007199254740992) := by
  constructor
  · intro h
    have a := rnd_ge (m * 4503599627370496) n
    have b := rnd_le (m * 4503599627370496) n
    have c : 4503599627370496 ≤ m * 4503599627370496 / n := (Nat.le_div_iff_mul_le (by omega)).2 (by omega)
    have d : m * 4503599627370496 / n < 9007199254740992 := (Nat.div_lt_iff_lt_mul (by omega)).2 (by omega)
    omega
  · intro h
    have a := rnd_ge (m * 9007199254740992) n
    have b := rnd_le (m * 9007199254740992) n
    have c : 4503599627370496 ≤ m * 9007199254740992 / n := (Nat.le_div_iff_mul_le (by omega)).2 (by omega)
    have d : m * 9007199254740992 / n < 9007199254740992 := (Nat.div_lt_iff_lt_mul (by omega)).2 (by omega)
    omega

theorem rq_bounds {a b : Nat} (a0 : 0 < a) (ha : a < 9007199254740992) (b0 : 0 < b) (hb : b < 9007199254740992) : rq a b < infR ∧ 0 < rq a b := by
  obtain ⟨l1, m1, m2⟩ := nm_bounds a0 ha
  obtain ⟨l2, n1, n2⟩ := nm_bounds b0 hb
  obtain ⟨r1, r2⟩ := rnd_bounds m1 m2 n1 n2
  unfold rq infR
  by_cases g : nm b ≤ nm a
  · rw [if_pos g]; have := r1 g; omega
  · rw [if_neg g]; have := r2 (by omega); omega

theorem near_quo (s : Bool) {m n : Nat} {e : Int} {c : Nat} (m1 : 4503599627370496 ≤ m) (m2 : m < 9007199254740992) (n1 : 4503599627370496 ≤ n) (n2 : n < 9007199254740992) (he : e = (c : Int) - 1022) (hc1 : 970 ≤ c) (hc2 : c ≤ 1074) :
    double.nearest s (2 * (m * 18014398509481984 / n) + (m * 18014398509481984 % n != 0).toNat) (e - 55) =
      double.word s (if n ≤ m then c * 4503599627370496 + rnd (m * 4503599627370496) n else (c - 1) * 4503599627370496 + rnd (m * 9007199254740992) n) := by
  obtain ⟨r1, r2⟩ := rnd_bounds m1 m2 n1 n2
  have hs : (m * 18014398509481984 % n != 0).toNat ≤ 1 := Bool.toNat_le _
  have q0 : 9007199254740992 ≤ m * 18014398509481984 / n := (Nat.le_div_iff_mul_le (by omega)).2 (by omega)
  unfold Format.nearest
  rw [if_neg (by omega), infR_eq, bin_eq, lp_eq, show (double.fractionBits : Int) = 52 from rfl]
  dsimp only
  by_cases g : n ≤ m
  · have q1 : 18014398509481984 ≤ m * 18014398509481984 / n := (Nat.le_div_iff_mul_le (by omega)).2 (by omega)
    have q2 : m * 18014398509481984 / n < 36028797018963968 := (Nat.div_lt_iff_lt_mul (by omega)).2 (by omega)
    have hl : (2 * (m * 18014398509481984 / n) + (m * 18014398509481984 % n != 0).toNat).log2 = 55 := log2_of (by omega) (by omega)
    have hcut := cut_rnd s (n := 2 * (m * 18014398509481984 / n) + (m * 18014398509481984 % n != 0).toNat) (d := 3) (by rw [hl]; omega)
    have hst := rnd_sticky (D := m * 18014398509481984) (n := n) (f := 2) (by omega) (by omega)
    have hsc := rnd_scale (A := m * 4503599627370496) (B := n) (k := 4) (by omega) (by omega)
    rw [hl]
    have e1 : max (e - 55 + ((55 : Nat) : Int) - 52) (-1074) = e - 52 := by omega
    rw [e1]
    have e2 : (e - 55 - (e - 52)).toNat = 0 := by omega
    have e3 : (e - 52 - (e - 55)).toNat = 3 := by omega
    have e4 : (e - 52 - -1074).toNat = c := by omega
    rw [e2, e3, e4, Nat.shiftLeft_zero, hcut]
    have e7 : m * 18014398509481984 = m * 4503599627370496 * 4 := by omega
    have e5 : rnd (2 * (m * 18014398509481984 / n) + (m * 18014398509481984 % n != 0).toNat) (2 ^ 3) = rnd (m * 4503599627370496) n := by
      rw [show (2 : Nat) ^ 3 = 4 * 2 from rfl, hst, e7, show n * (2 * 2) = n * 4 by omega]
      exact hsc
    have e6 : min (c * 4503599627370496 + rnd (m * 4503599627370496) n) infR = c * 4503599627370496 + rnd (m * 4503599627370496) n := by
      have := r1 g
      exact Nat.min_eq_left (by unfold infR; omega)
    rw [e5, if_pos g, e6]
  · have q2 : m * 18014398509481984 / n < 18014398509481984 := (Nat.div_lt_iff_lt_mul (by omega)).2 (by omega)
    have hl : (2 * (m * 18014398509481984 / n) + (m * 18014398509481984 % n != 0).toNat).log2 = 54 := log2_of (by omega) (by omega)
    have hcut := cut_rnd s (n := 2 * (m * 18014398509481984 / n) + (m * 18014398509481984 % n != 0).toNat) (d := 2) (by rw [hl]; omega)
    have hst := rnd_sticky (D := m * 18014398509481984) (n := n) (f := 1) (by omega) (by omega)
    have hsc := rnd_scale (A := m * 9007199254740992) (B := n) (k := 2) (by omega) (by omega)
    rw [hl]
    have e1 : max (e - 55 + ((54 : Nat) : Int) - 52) (-1074) = e - 53 := by omega
    rw [e1]
    have e2 : (e - 55 - (e - 53)).toNat = 0 := by omega
    have e3 : (e - 53 - (e - 55)).toNat = 2 := by omega
    have e4 : (e - 53 - -1074).toNat = c - 1 := by omega
    rw [e2, e3, e4, Nat.shiftLeft_zero, hcut]
    have e7 : m * 18014398509481984 = m * 9007199254740992 * 2 := by omega
    have e5 : rnd (2 * (m * 18014398509481984 / n) + (m * 18014398509481984 % n != 0).toNat) (2 ^ 2) = rnd (m * 9007199254740992) n := by
      rw [show (2 : Nat) ^ 2 = 4 * 1 from rfl, hst, e7, show n * (2 * 1) = n * 2 by omega]
      exact hsc
    have e6 : min ((c - 1) * 4503599627370496 + rnd (m * 9007199254740992) n) infR = (c - 1) * 4503599627370496 + rnd (m * 9007199254740992) n := by
      have := r2 (by omega)
      exact Nat.min_eq_left (by unfold infR; omega)
    rw [e5, if_neg g, e6]

theorem div_whole (s t : Bool) {a b : Nat} (a0 : 0 < a) (ha : a < 9007199254740992) (b0 : 0 < b) (hb : b < 9007199254740992) :
    double.div (double.word s (rw_ a)) (double.word t (rw_ b)) = some (double.word (s ^^ t) (rq a b)) := by
  obtain ⟨l1, m1, m2⟩ := nm_bounds a0 ha
  obtain ⟨l2, n1, n2⟩ := nm_bounds b0 hb
  unfold Format.div
  rw [read_whole s a0 ha, read_whole t b0 hb]
  have ea : a * 2 ^ (52 - a.log2) = nm a := rfl
  have eb : b * 2 ^ (52 - b.log2) = nm b := rfl
  rw [ea, eb]
  simp only [Datum.quotient]
  rw [if_neg (by omega)]
  have la : (nm a).log2 = 52 := log2_of m1 m2
  have lb : (nm b).log2 = 52 := log2_of n1 n2
  rw [la, lb, show double.fractionBits + 2 + 52 - 52 = 54 from rfl, Nat.shiftLeft_eq, show 2 ^ 54 = 18014398509481984 from rfl]
  have hq := near_quo (s ^^ t) (e := (a.log2 : Int) - b.log2) (c := a.log2 + 1022 - b.log2) m1 m2 n1 n2 (by omega) (by omega) (by omega)
  have ee : (a.log2 : Int) - 52 - ((b.log2 : Int) - 52) - ((54 : Nat) : Int) - 1 = (a.log2 : Int) - b.log2 - 55 := by omega
  rw [ee]
  simp only [Option.map_some, Format.write]
  rw [hq]
  unfold rq
  by_cases g : nm b ≤ nm a
  · rw [if_pos g, if_pos g]
  · rw [if_neg g, if_neg g, show a.log2 + 1022 - b.log2 - 1 = a.log2 + 1021 - b.log2 by omega]

/-- By a greater number it is no greater. -/
theorem rq_mono {a b c : Nat} (a0 : 0 < a) (ha : a < 9007199254740992) (b0 : 0 < b) (hbc : b ≤ c) (hc : c < 9007199254740992) : rq a c ≤ rq a b := by
  obtain ⟨l1, m1, m2⟩ := nm_bounds a0 ha
  obtain ⟨l2, n1, n2⟩ := nm_bounds b0 (show b < 9007199254740992 by omega)
  obtain ⟨l3, o1, o2⟩ := nm_bounds (show 0 < c by omega) hc
  obtain ⟨r1, r2⟩ := rnd_bounds m1 m2 n1 n2
  obtain ⟨s1, s2⟩ := rnd_bounds m1 m2 o1 o2
  have hl : b.log2 ≤ c.log2 := by
    rw [Nat.le_log2 (by omega)]
    exact Nat.le_trans (Nat.log2_self_le (by omega)) hbc
  have hsame : b.log2 = c.log2 → nm b ≤ nm c := by
    intro h
    unfold nm
    rw [h]
    exact Nat.mul_le_mul_right _ hbc
  unfold rq
  generalize nm a = m at *
  generalize nm b = n at *
  generalize nm c = o at *
  generalize a.log2 = la at *
  generalize b.log2 = lb at *
  generalize c.log2 = lc at *
  by_cases g1 : n ≤ m <;> by_cases g2 : o ≤ m
  · rw [if_pos g1, if_pos g2]
    have x1 := r1 g1
    have x2 := s1 g2
    by_cases h : lb = lc
    · have := rnd_mono (A := m * 4503599627370496) (B := o) (A' := m * 4503599627370496) (B' := n) (by omega) (by omega) (Nat.mul_le_mul_left _ (hsame h))
      omega
    · omega
  · rw [if_pos g1, if_neg g2]
    have x1 := r1 g1
    have x2 := s2 (by omega)
    omega
  · rw [if_neg g1, if_pos g2]
    have x1 := r2 (by omega)
    have x2 := s1 g2
    by_cases h : lb = lc
    · have := hsame h; omega
    · by_cases h2 : lc = lb + 1
      · have := rnd_mono (A := m * 4503599627370496) (B := o) (A' := m * 9007199254740992) (B' := n) (by omega) (by omega) (by
          rw [show 9007199254740992 = 4503599627370496 * 2 from rfl, ← Nat.mul_assoc, Nat.mul_assoc _ 2 o]
          exact Nat.mul_le_mul_left _ (by omega))
        omega
      · omega
  · rw [if_neg g1, if_neg g2]
    have x1 := r2 (by omega)
    have x2 := s2 (by omega)
    by_cases h : lb = lc
    · have := rnd_mono (A := m * 9007199254740992) (B := o) (A' := m * 9007199254740992) (B' := n) (by omega) (by omega) (Nat.mul_le_mul_left _ (hsame h))
      omega
    · omega

/-- A product by one of its factors is the other one. -/
theorem rq_exact {a b : Nat} (a0 : 0 < a) (b0 : 0 < b) (hab : a * b < 9007199254740992) : rq (a * b) b = rw_ a := by
  have hA : a ≤ a * b := Nat.le_mul_of_pos_right a b0
  have hB : b ≤ a * b := Nat.le_mul_of_pos_left b a0
  have ab0 : 0 < a * b := by omega
  obtain ⟨l0, k1, k2⟩ := nm_bounds a0 (show a < 9007199254740992 by omega)
  obtain ⟨l1, m1, m2⟩ := nm_bounds ab0 hab
  obtain ⟨l2, n1, n2⟩ := nm_bounds b0 (show b < 9007199254740992 by omega)
  obtain ⟨r1, r2⟩ := rnd_bounds m1 m2 n1 n2
  have lle : b.log2 ≤ (a * b).log2 := by
    rw [Nat.le_log2 (by omega)]
    exact Nat.le_trans (Nat.log2_self_le (by omega)) hB
  -- the exponent of what is between 2^52 and 2^53 is known
  have expo : ∀ k, 4503599627370496 ≤ a * 2 ^ k → a * 2 ^ k < 9007199254740992 → k = 52 - a.log2 := by
    intro k h1 h2
    have e : (a * 2 ^ k).log2 = a.log2 + k := by
      refine log2_of ?_ ?_
      · rw [Nat.pow_add]; exact Nat.mul_le_mul_right _ (Nat.log2_self_le (by omega))
      · rw [show a.log2 + k + 1 = (a.log2 + 1) + k by omega, Nat.pow_add]; exact Nat.mul_lt_mul_of_pos_right Nat.lt_log2_self (Nat.two_pow_pos k)
    have e2 : (a * 2 ^ k).log2 = 52 := log2_of h1 h2
    omega
  have split : ∀ j, nm (a * b) * 2 ^ j = nm b * (a * 2 ^ (j + b.log2 - (a * b).log2)) ∨ j + b.log2 < (a * b).log2 := by
    intro j
    by_cases h : j + b.log2 < (a * b).log2
    · exact .inr h
    · left
      unfold nm
      have e : 52 - (a * b).log2 + j = (52 - b.log2) + (j + b.log2 - (a * b).log2) := by omega
      rw [Nat.mul_assoc, ← Nat.pow_add, e, Nat.pow_add]
      generalize 2 ^ (52 - b.log2) = P
      generalize 2 ^ (j + b.log2 - (a * b).log2) = Q
      rw [Nat.mul_assoc a b, Nat.mul_left_comm a b, Nat.mul_left_comm a P Q, ← Nat.mul_assoc b P]
  unfold rq
  by_cases g : nm b ≤ nm (a * b)
  · rw [if_pos g]
    have x := r1 g
    rcases split 52 with h | h
    · have p52 : (2 : Nat) ^ 52 = 4503599627370496 := rfl
      rw [p52] at h
      rw [h, rnd_exact (by omega)] at x
      rw [h, rnd_exact (by omega)]
      have lt : a * 2 ^ (52 + b.log2 - (a * b).log2) < 9007199254740992 := by
        have h3 : nm b * (a * 2 ^ (52 + b.log2 - (a * b).log2)) < nm b * 9007199254740992 := by rw [← h]; omega
        exact Nat.lt_of_mul_lt_mul_left h3
      have hk := expo _ x.1 lt
      unfold rw_
      rw [hk]
      have e9 : (a * b).log2 + 1022 - b.log2 = a.log2 + 1022 := by
        clear h x lt split expo r1 r2 p52
        omega
      rw [e9]
    · omega
  · rw [if_neg g]
    have x := r2 (by omega)
    rcases split 53 with h | h
    · have p53 : (2 : Nat) ^ 53 = 9007199254740992 := rfl
      rw [p53] at h
      rw [h, rnd_exact (by omega)] at x
      rw [h, rnd_exact (by omega)]
      have lt : a * 2 ^ (53 + b.log2 - (a * b).log2) < 9007199254740992 := by
        have h3 : nm b * (a * 2 ^ (53 + b.log2 - (a * b).log2)) < nm b * 9007199254740992 := by rw [← h]; omega
        exact Nat.lt_of_mul_lt_mul_left h3
      have hk := expo _ x.1 lt
      unfold rw_
      rw [hk]
      have e9 : (a * b).log2 + 1021 - b.log2 = a.log2 + 1022 := by
        clear h x lt split expo r1 r2 p53
        omega
      rw [e9]
    · omega
end Go.Proofs.Ytopmbcfecaklhaa
