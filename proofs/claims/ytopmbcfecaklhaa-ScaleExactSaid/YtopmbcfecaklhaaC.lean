/- Whole numbers as floats, and floats without their fraction. -/
import Derived.Test.YtopmbcfecaklhaaB
namespace Go.Proofs.Ytopmbcfecaklhaa
open Ieee

/-- One, in units. -/
@[irreducible] def U : Nat := 2 ^ 1074
theorem U_def : U = 2 ^ 1074 := by unfold U; rfl
theorem U_pos : 0 < U := by rw [U_def]; exact Nat.two_pow_pos 1074

/-- The rung of a whole number above 0 and below 2^53. -/
def rw_ (a : Nat) : Nat := (a.log2 + 1022) * 4503599627370496 + a * 2 ^ (52 - a.log2)

theorem log2_bounds {a : Nat} (h0 : 0 < a) (h : a < 9007199254740992) : a.log2 ≤ 52 ∧ 4503599627370496 ≤ a * 2 ^ (52 - a.log2) ∧ a * 2 ^ (52 - a.log2) < 9007199254740992 := by
  have l1 : 2 ^ a.log2 ≤ a := Nat.log2_self_le (by omega)
  have l2 : a < 2 ^ (a.log2 + 1) := Nat.lt_log2_self
  have l3 : a.log2 ≤ 52 := by
    have : a.log2 < 53 := by
      rw [Nat.log2_lt (by omega)]
      exact h
    omega
  refine ⟨l3, ?_, ?_⟩
  · have := Nat.mul_le_mul_right (2 ^ (52 - a.log2)) l1
    rw [← Nat.pow_add, show a.log2 + (52 - a.log2) = 52 by omega] at this
    exact this
  · have := Nat.mul_lt_mul_of_pos_right l2 (Nat.two_pow_pos (52 - a.log2))
    rw [← Nat.pow_add, show a.log2 + 1 + (52 - a.log2) = 53 by omega] at this
    exact this

theorem nearest_whole (neg : Bool) {a : Nat} (h0 : 0 < a) (h : a < 9007199254740992) : double.nearest neg a 0 = double.word neg (rw_ a) ∧ rw_ a < infR := by
  obtain ⟨l1, l2, l3⟩ := log2_bounds h0 h
  have lt : rw_ a < infR := by unfold rw_ infR; omega
  refine ⟨?_, lt⟩
  unfold Format.nearest
  rw [if_neg (by omega), infR_eq, bin_eq, lp_eq, show (double.fractionBits : Int) = 52 from rfl]
  dsimp only
  have e1 : max (0 + (a.log2 : Int) - 52) (-1074) = (a.log2 : Int) - 52 := by omega
  rw [e1]
  have e2 : ((a.log2 : Int) - 52 - 0).toNat = 0 := by omega
  have e3 : (0 - ((a.log2 : Int) - 52)).toNat = 52 - a.log2 := by omega
  have e4 : ((a.log2 : Int) - 52 - -1074).toNat = a.log2 + 1022 := by omega
  rw [e2, e3, e4]
  have e5 : Toward.even.cut neg (a <<< (52 - a.log2)) 0 = a * 2 ^ (52 - a.log2) := by
    unfold Toward.cut
    simp [Nat.shiftLeft_eq, Nat.mod_one]
  rw [e5]
  have e6 : min ((a.log2 + 1022) * 4503599627370496 + a * 2 ^ (52 - a.log2)) infR = rw_ a := by
    unfold rw_ at lt ⊢
    exact Nat.min_eq_left (Nat.le_of_lt lt)
  rw [e6]

theorem word_parts {neg : Bool} {r : Nat} (h : r < 9223372036854775808) : sg (double.word neg r) = neg ∧ rg (double.word neg r) = r ∧ double.word neg r < 18446744073709551616 := by
  unfold Format.word
  rw [sw_eq]
  unfold sg rg
  cases neg
  · refine ⟨?_, ?_, ?_⟩
    · simp only [Bool.false_eq_true, if_false]
      rw [beq_eq_false_iff_ne]; omega
    · simp only [Bool.false_eq_true, if_false]; omega
    · simp only [Bool.false_eq_true, if_false]; omega
  · refine ⟨?_, ?_, ?_⟩
    · simp only [if_true]
      rw [beq_iff_eq]; omega
    · simp only [if_true]; omega
    · simp only [if_true]; omega

theorem rw_parts {a : Nat} (h0 : 0 < a) (h : a < 9007199254740992) : rw_ a / 4503599627370496 = a.log2 + 1023 ∧ rw_ a % 4503599627370496 = a * 2 ^ (52 - a.log2) - 4503599627370496 := by
  obtain ⟨l1, l2, l3⟩ := log2_bounds h0 h
  unfold rw_
  omega

theorem mg_rw {a : Nat} (h0 : 0 < a) (h : a < 9007199254740992) : mg (rw_ a) = a * U := by
  obtain ⟨l1, l2, l3⟩ := log2_bounds h0 h
  obtain ⟨p1, p2⟩ := rw_parts h0 h
  unfold mg
  rw [p1, p2, if_neg (by unfold rw_; omega), Nat.add_sub_cancel' l2, Nat.mul_assoc, ← Nat.pow_add, U_def, show 52 - a.log2 + (a.log2 + 1023 - 1) = 1074 by omega]

/-- A whole number's bits: what is read of them. -/
theorem read_whole (neg : Bool) {a : Nat} (h0 : 0 < a) (h : a < 9007199254740992) : double.read (double.word neg (rw_ a)) = .number neg (a * 2 ^ (52 - a.log2)) ((a.log2 : Int) - 52) := by
  obtain ⟨l1, l2, l3⟩ := log2_bounds h0 h
  obtain ⟨p1, p2⟩ := rw_parts h0 h
  obtain ⟨-, hlt⟩ := nearest_whole neg h0 h
  obtain ⟨w1, w2, -⟩ := word_parts (neg := neg) (r := rw_ a) (by unfold infR at hlt; omega)
  unfold sg at w1
  unfold rg at w2
  unfold Format.read
  rw [infR_eq, sw_eq, bin_eq, lp_eq]
  simp only [w1, w2]
  rw [if_neg (by unfold rw_; omega), if_pos hlt, p1, p2, Nat.add_sub_cancel' l2, show (-1074 : Int) + ((a.log2 + 1023 - 1 : Nat) : Int) = (a.log2 : Int) - 52 by omega]

/-- The bits of a whole number. -/
def bitsOf (n : Int) : Nat := floatOfInt .f64 n

theorem bitsOf_ne {n : Int} (h0 : n ≠ 0) (h : n.natAbs < 9007199254740992) : bitsOf n = double.word (decide (n < 0)) (rw_ n.natAbs) := by
  unfold bitsOf floatOfInt FloatKind.nearest FloatKind.encode
  exact (nearest_whole (decide (n < 0)) (by omega) h).1
theorem bitsOf_zero : bitsOf 0 = 0 := by decide +kernel

theorem V_bitsOf {n : Int} (h : n.natAbs < 9007199254740992) : V (bitsOf n) = n * U ∧ rg (bitsOf n) < infR ∧ bitsOf n < 18446744073709551616 := by
  by_cases h0 : n = 0
  · subst h0; rw [bitsOf_zero, Int.zero_mul]; decide +kernel
  · rw [bitsOf_ne h0 h]
    obtain ⟨-, hlt⟩ := nearest_whole (decide (n < 0)) (show 0 < n.natAbs by omega) h
    obtain ⟨w1, w2, w3⟩ := word_parts (neg := decide (n < 0)) (r := rw_ n.natAbs) (by unfold infR at hlt; omega)
    refine ⟨?_, by rw [w2]; exact hlt, w3⟩
    unfold V
    rw [w1, w2, mg_rw (by omega) h]
    by_cases g : n < 0
    · rw [decide_eq_true g, if_pos rfl, Int.natCast_mul]
      have : (n.natAbs : Int) = -n := by omega
      rw [this, Int.neg_mul, Int.neg_neg]
    · rw [decide_eq_false g, if_neg (by simp), Int.natCast_mul]
      have : (n.natAbs : Int) = n := by omega
      rw [this]

/-- Cut towards zero. -/
theorem toInt_fin {x : Nat} (h : rg x < infR) : (double.read x).toInt .zero = some (if sg x then -((mg (rg x) / U : Nat) : Int) else ((mg (rg x) / U : Nat) : Int)) := by
  obtain ⟨m, p, e1, e2, e3, -⟩ := read_fin h
  rw [e1]
  have hc : Toward.zero.cut (sg x) (m <<< p.toNat) (-p).toNat = mg (rg x) / U := by
    rw [U_def]
    unfold Toward.cut
    simp only [Nat.shiftLeft_eq, Nat.one_mul, Bool.toNat_false, Nat.add_zero]
    rw [← e3]
    by_cases hp : 0 ≤ p
    · have a1 : (-p).toNat = 0 := by omega
      have a2 : (p + 1074).toNat = p.toNat + 1074 := by omega
      rw [a1, a2, Nat.zero_min, Nat.pow_zero, Nat.div_one, Nat.pow_add, ← Nat.mul_assoc, Nat.mul_div_cancel _ (Nat.two_pow_pos 1074)]
    · have a1 : p.toNat = 0 := by omega
      have a2 : (p + 1074).toNat + (-p).toNat = 1074 := by omega
      rw [a1, Nat.pow_zero, Nat.mul_one]
      generalize hd : (-p).toNat = d at *
      generalize hk : (p + 1074).toNat = k at *
      have e : m * 2 ^ k / 2 ^ 1074 = m / 2 ^ d := by
        rw [← a2, Nat.pow_add, Nat.mul_comm m, Nat.mul_div_mul_left _ _ (Nat.two_pow_pos k)]
      rw [e]
      by_cases hm : d ≤ m.log2 + 2
      · rw [Nat.min_eq_left hm]
      · rw [Nat.min_eq_right (by omega)]
        have l2 : m < 2 ^ (m.log2 + 1) := Nat.lt_log2_self
        have q1 : m < 2 ^ (m.log2 + 2) := Nat.lt_of_lt_of_le l2 (Nat.pow_le_pow_right (by omega) (by omega))
        have q2 : m < 2 ^ d := Nat.lt_of_lt_of_le l2 (Nat.pow_le_pow_right (by omega) (by omega))
        rw [Nat.div_eq_of_lt q1, Nat.div_eq_of_lt q2]
  simp only [Datum.toInt, Datum.integral, hc, signed_mul, Nat.pow_zero, Nat.mul_one]

/-- What a size is: 0 of what is none. -/
def capB (x : Nat) : Nat := if rg x ≤ infR ∧ (U : Int) ≤ V x then (if 20 * (U : Int) ≤ V x then 20 else mg (rg x) / U) else 0

theorem V_pos {x : Nat} (h : 0 < V x) : sg x = false ∧ V x = mg (rg x) := by
  unfold V at *
  cases s : sg x
  · simp
  · rw [s] at h; simp only [if_true] at h; omega

theorem capB_ok {x : Nat} (h : rg x ≤ infR ∧ (U : Int) ≤ V x) : 1 ≤ capB x ∧ capB x ≤ 20 := by
  unfold capB
  rw [if_pos h]
  have hp := U_pos
  obtain ⟨-, hv⟩ := V_pos (show 0 < V x by omega)
  by_cases g : 20 * (U : Int) ≤ V x
  · rw [if_pos g]; omega
  · rw [if_neg g]
    rw [hv] at h g
    have : 1 * U ≤ mg (rg x) := by omega
    have a := (Nat.le_div_iff_mul_le (k := U) (x := 1) (y := mg (rg x)) (by omega)).2 this
    have b : mg (rg x) / U < 20 := (Nat.div_lt_iff_lt_mul (by omega)).2 (by omega)
    omega
/-- A size is at least k just if the number is. -/
theorem capB_ge {x : Nat} (h : rg x ≤ infR ∧ (U : Int) ≤ V x) (k : Nat) (hk : k ≤ 20) : k ≤ capB x ↔ (k : Int) * (U : Int) ≤ V x := by
  unfold capB
  rw [if_pos h]
  have hp := U_pos
  obtain ⟨-, hv⟩ := V_pos (show 0 < V x by omega)
  by_cases g : 20 * (U : Int) ≤ V x
  · rw [if_pos g]
    refine ⟨fun _ => ?_, fun _ => hk⟩
    have : (k : Int) * U ≤ 20 * U := Int.mul_le_mul_of_nonneg_right (by omega) (by omega)
    omega
  · rw [if_neg g, hv]
    rw [Nat.le_div_iff_mul_le (by omega), ← Int.natCast_mul]
    omega
theorem capB_mono {x y : Nat} (h : rg x ≤ infR ∧ (U : Int) ≤ V x) (hy : rg y ≤ infR) (hxy : V x ≤ V y) : capB x ≤ capB y := by
  obtain ⟨a, b⟩ := capB_ok h
  rw [capB_ge ⟨hy, by omega⟩ _ b]
  have := (capB_ge h _ b).1 (Nat.le_refl _)
  omega
end Go.Proofs.Ytopmbcfecaklhaa
