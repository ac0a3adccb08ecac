/- Numbers by their bits: sign, rung, and what they stand for, in units of 2^-1074. -/
import Derived.Laws.FloatArith
namespace Go.Proofs.Ytopmbcfecaklhaa
open Ieee

def rg (x : Nat) : Nat := x % 9223372036854775808
def sg (x : Nat) : Bool := x / 9223372036854775808 % 2 == 1
/-- The rung of infinity. -/
def infR : Nat := 9218868437227405312
def mg (r : Nat) : Nat := if r < 4503599627370496 then r else (4503599627370496 + r % 4503599627370496) * 2 ^ (r / 4503599627370496 - 1)
def V (x : Nat) : Int := if sg x then -(mg (rg x) : Int) else mg (rg x)

theorem infR_eq : double.infRung = infR := by decide
theorem sw_eq : double.signWeight = 9223372036854775808 := by decide
theorem bin_eq : double.binade = 4503599627370496 := by decide
theorem lp_eq : double.leastPlace = -1074 := by decide

theorem mg_lt {r r' : Nat} (h : r < r') : mg r < mg r' := by
  unfold mg
  by_cases h1 : r' < 4503599627370496
  · rw [if_pos (by omega), if_pos h1]; exact h
  · rw [if_neg h1]
    have p' : 0 < 2 ^ (r' / 4503599627370496 - 1) := Nat.two_pow_pos _
    by_cases h2 : r < 4503599627370496
    · rw [if_pos h2]
      have := Nat.le_mul_of_pos_right (4503599627370496 + r' % 4503599627370496) p'
      omega
    · rw [if_neg h2]
      have p : 0 < 2 ^ (r / 4503599627370496 - 1) := Nat.two_pow_pos _
      by_cases h3 : r / 4503599627370496 = r' / 4503599627370496
      · rw [h3]
        exact Nat.mul_lt_mul_of_pos_right (by omega) p'
      · have hle : r / 4503599627370496 ≤ r' / 4503599627370496 := Nat.div_le_div_right (by omega)
        have e : r' / 4503599627370496 - 1 = (r / 4503599627370496 - 1) + (r' / 4503599627370496 - r / 4503599627370496) := by omega
        rw [e, Nat.pow_add, Nat.mul_comm (2 ^ _) (2 ^ (_ - _)), ← Nat.mul_assoc]
        refine Nat.mul_lt_mul_of_pos_right ?_ p
        have q : 2 ≤ 2 ^ (r' / 4503599627370496 - r / 4503599627370496) := by
          have := Nat.pow_le_pow_right (n := 2) (by omega) (show 1 ≤ r' / 4503599627370496 - r / 4503599627370496 by omega)
          simpa using this
        have := Nat.mul_le_mul (show 4503599627370496 ≤ 4503599627370496 + r' % 4503599627370496 by omega) q
        omega

theorem mg_le {r r' : Nat} (h : r ≤ r') : mg r ≤ mg r' := by
  rcases Nat.lt_or_eq_of_le h with h | h
  · exact Nat.le_of_lt (mg_lt h)
  · rw [h]; exact Nat.le_refl _
theorem mg_zero : mg 0 = 0 := rfl
theorem mg_pos {r : Nat} (h : 0 < r) : 0 < mg r := by have := mg_lt h; rwa [mg_zero] at this
theorem mg_eq {r r' : Nat} : mg r = mg r' ↔ r = r' := by
  constructor
  · intro h
    rcases Nat.lt_trichotomy r r' with g | g | g
    · have := mg_lt g; omega
    · exact g
    · have := mg_lt g; omega
  · rintro rfl; rfl
theorem mg_lt_iff {r r' : Nat} : mg r < mg r' ↔ r < r' := by
  constructor
  · intro h
    rcases Nat.lt_or_ge r r' with g | g
    · exact g
    · have := mg_le g; omega
  · exact mg_lt

theorem read_nan {x : Nat} (h : infR < rg x) : double.read x = .nan (sg x) (rg x - infR) := by
  unfold Format.read
  rw [infR_eq, sw_eq, bin_eq, lp_eq]
  have e : rg x = x % 9223372036854775808 := rfl
  rw [← e]
  unfold infR at *
  simp only
  rw [if_neg (by omega), if_neg (by omega), if_neg (by omega)]
  rfl
theorem read_inf {x : Nat} (h : rg x = infR) : double.read x = .infinity (sg x) := by
  unfold Format.read
  rw [infR_eq, sw_eq, bin_eq, lp_eq]
  have e : rg x = x % 9223372036854775808 := rfl
  rw [← e]
  unfold infR at *
  simp only
  rw [if_neg (by omega), if_neg (by omega), if_pos (by omega)]
  rfl
theorem read_fin {x : Nat} (h : rg x < infR) : ∃ m p, double.read x = .number (sg x) m p ∧ -1074 ≤ p ∧ m * 2 ^ (p + 1074).toNat = mg (rg x) ∧ p < 972 ∧ m < 9007199254740992 := by
  unfold Format.read
  rw [infR_eq, sw_eq, bin_eq, lp_eq]
  have e : rg x = x % 9223372036854775808 := rfl
  rw [← e]
  unfold infR at *
  unfold mg
  simp only
  by_cases h1 : rg x < 4503599627370496
  · rw [if_pos h1, if_pos h1]
    exact ⟨_, _, rfl, by omega, by simp, by omega, by omega⟩
  · rw [if_neg h1, if_neg h1, if_pos h]
    refine ⟨_, _, rfl, by omega, ?_, by omega, by omega⟩
    congr 2
    omega

theorem cmp_mul (a b c : Int) (h : 0 < c) : compare (a * c) (b * c) = compare a b := by
  rcases Int.lt_trichotomy a b with g | g | g
  · rw [Int.compare_eq_lt.2 g, Int.compare_eq_lt.2 (Int.mul_lt_mul_of_pos_right g h)]
  · rw [g]; simp
  · rw [Int.compare_eq_gt.2 g, Int.compare_eq_gt.2 (Int.mul_lt_mul_of_pos_right g h)]

theorem signed_mul (s : Bool) (m k : Nat) : signed s m k = if s then -((m * 2 ^ k : Nat) : Int) else ((m * 2 ^ k : Nat) : Int) := by
  unfold signed; rw [Nat.shiftLeft_eq]

theorem signed_up (s : Bool) (m k n : Nat) : signed s m k * ((2 ^ n : Nat) : Int) = signed s m (k + n) := by
  rw [signed_mul, signed_mul, Nat.pow_add, ← Nat.mul_assoc]
  cases s
  · simp
  · simp [Int.neg_mul]

theorem order_number (s t : Bool) (m n : Nat) (i j : Int) (hi : -1074 ≤ i) (hj : -1074 ≤ j) :
    (Datum.number s m i).order (.number t n j) = some (compare (signed s m (i + 1074).toNat) (signed t n (j + 1074).toNat)) := by
  simp only [Datum.order]
  rw [← cmp_mul (signed s m (i - min i j).toNat) (signed t n (j - min i j).toNat) ((2 ^ (min i j + 1074).toNat : Nat) : Int) (by have := Nat.two_pow_pos (min i j + 1074).toNat; omega), signed_up, signed_up]
  congr 3 <;> congr 1 <;> omega

theorem V_inf {x : Nat} (h : rg x = infR) : V x = if sg x then -(mg infR : Int) else mg infR := by unfold V; rw [h]

/-- THE ORDER of two that are numbers (infinities too). -/
theorem order_num {x y : Nat} (hx : rg x ≤ infR) (hy : rg y ≤ infR) : double.order x y = some (compare (V x) (V y)) := by
  have big : 0 < mg infR := mg_pos (by decide)
  unfold Format.order
  rcases Nat.lt_or_eq_of_le hx with fx | fx
  · obtain ⟨m, p, e1, e2, e3, -⟩ := read_fin fx
    rcases Nat.lt_or_eq_of_le hy with fy | fy
    · obtain ⟨n, q, e4, e5, e6, -⟩ := read_fin fy
      rw [e1, e4, order_number _ _ _ _ _ _ e2 e5, signed_mul, signed_mul, e3, e6]
      rfl
    · rw [e1, read_inf fy]
      have := mg_lt fx
      unfold V
      rw [fy]
      simp only [Datum.order]
      cases sg y
      · simp only [Bool.false_eq_true, if_false]
        rw [Int.compare_eq_lt.2 (by split <;> omega)]
      · simp only [if_true]
        rw [Int.compare_eq_gt.2 (by split <;> omega)]
  · rcases Nat.lt_or_eq_of_le hy with fy | fy
    · obtain ⟨n, q, e4, e5, e6, -⟩ := read_fin fy
      rw [e4, read_inf fx]
      have := mg_lt fy
      unfold V
      rw [fx]
      simp only [Datum.order]
      cases sg x
      · simp only [Bool.false_eq_true, if_false]
        rw [Int.compare_eq_gt.2 (by split <;> omega)]
      · simp only [if_true]
        rw [Int.compare_eq_lt.2 (by split <;> omega)]
    · rw [read_inf fx, read_inf fy]
      unfold V
      rw [fx, fy]
      simp only [Datum.order]
      cases sg x <;> cases sg y <;> simp only [Bool.false_eq_true, if_false, if_true, Bool.toNat_true, Bool.toNat_false]
      · simp
      · rw [Int.compare_eq_gt.2 (by omega)]; rfl
      · rw [Int.compare_eq_lt.2 (by omega)]; rfl
      · simp

theorem order_nanl {x y : Nat} (hx : infR < rg x) : double.order x y = none := by
  unfold Format.order; rw [read_nan hx]; rfl
theorem order_nanr {x y : Nat} (hy : infR < rg y) : double.order x y = none := by
  unfold Format.order; rw [read_nan hy]
  cases double.read x <;> rfl

/-- The five comparisons, as the walk meets them. -/
theorem eql_num {x y : Nat} (hx : rg x ≤ infR) (hy : rg y ≤ infR) : (double.order x y == some .eq) = decide (V x = V y) := by
  rw [order_num hx hy]
  rcases Int.lt_trichotomy (V x) (V y) with g | g | g
  · rw [Int.compare_eq_lt.2 g, decide_eq_false (by omega)]; rfl
  · rw [Int.compare_eq_eq.2 g, decide_eq_true g]; rfl
  · rw [Int.compare_eq_gt.2 g, decide_eq_false (by omega)]; rfl
theorem lss_num {x y : Nat} (hx : rg x ≤ infR) (hy : rg y ≤ infR) : (double.order x y == some .lt) = decide (V x < V y) := by
  rw [order_num hx hy]
  rcases Int.lt_trichotomy (V x) (V y) with g | g | g
  · rw [Int.compare_eq_lt.2 g, decide_eq_true g]; rfl
  · rw [Int.compare_eq_eq.2 g, decide_eq_false (by omega)]; rfl
  · rw [Int.compare_eq_gt.2 g, decide_eq_false (by omega)]; rfl
theorem gtr_num {x y : Nat} (hx : rg x ≤ infR) (hy : rg y ≤ infR) : (double.order x y == some .gt) = decide (V y < V x) := by
  rw [order_num hx hy]
  rcases Int.lt_trichotomy (V x) (V y) with g | g | g
  · rw [Int.compare_eq_lt.2 g, decide_eq_false (by omega)]; rfl
  · rw [Int.compare_eq_eq.2 g, decide_eq_false (by omega)]; rfl
  · rw [Int.compare_eq_gt.2 g, decide_eq_true g]; rfl

/-- Words: sign and rung make the number. -/
theorem word_split {x : Nat} (h : x < 18446744073709551616) : x = (if sg x then 9223372036854775808 else 0) + rg x := by
  unfold sg rg
  by_cases g : x < 9223372036854775808
  · have : (x / 9223372036854775808 % 2 == 1) = false := by
      rw [beq_eq_false_iff_ne]; omega
    rw [this]; simp; omega
  · have : (x / 9223372036854775808 % 2 == 1) = true := by
      rw [beq_iff_eq]; omega
    rw [this]; simp; omega
theorem sg_iff {x : Nat} (h : x < 18446744073709551616) : sg x = decide (9223372036854775808 ≤ x) := by
  unfold sg
  by_cases g : x < 9223372036854775808
  · rw [decide_eq_false (by omega), beq_eq_false_iff_ne]; omega
  · rw [decide_eq_true (by omega), beq_iff_eq]; omega
theorem rg_lt (x : Nat) : rg x < 9223372036854775808 := Nat.mod_lt _ (by omega)

/-- How far behind a number stands in the order of all. -/
def hgt (x : Nat) : Nat := if sg x then 18446744073709551615 - x else x + 9223372036854775808

theorem V_hgt {x y : Nat} (hx : x < 18446744073709551616) (hy : y < 18446744073709551616) (h : V x < V y) : hgt x < hgt y := by
  have e1 := word_split hx
  have e2 := word_split hy
  have r1 := rg_lt x
  have r2 := rg_lt y
  unfold V at h
  unfold hgt
  cases s1 : sg x <;> cases s2 : sg y <;> simp only [s1, s2, if_true, if_false, Bool.false_eq_true] at h e1 e2 ⊢
  · have := mg_lt_iff.1 (show mg (rg x) < mg (rg y) by omega)
    omega
  · omega
  · omega
  · have := mg_lt_iff.1 (show mg (rg y) < mg (rg x) by omega)
    omega

theorem hgt_inj {x y : Nat} (hx : x < 18446744073709551616) (hy : y < 18446744073709551616) : hgt x = hgt y ↔ x = y := by
  constructor
  · intro h
    unfold hgt at h
    rw [sg_iff hx, sg_iff hy] at h
    by_cases g1 : 9223372036854775808 ≤ x <;> by_cases g2 : 9223372036854775808 ≤ y <;> simp [g1, g2] at h <;> omega
  · rintro rfl; rfl
end Go.Proofs.Ytopmbcfecaklhaa
