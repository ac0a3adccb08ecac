/- Ratios of whole numbers. -/
import Derived.Test.YtopmbcfecaklhaaDiw
import Derived.Test.YtopmbcfecaklhaaV
namespace Go.Proofs.Ytopmbcfecaklhaa
open Go.RowKit Go.PlainAid Go.Sort Go.Lib Ieee

theorem ratB_word {a b : Int} (a0 : a ≠ 0) (ha : a.natAbs < 9007199254740992) (b0 : b ≠ 0) (hb : b.natAbs < 9007199254740992) :
    ratB a b = double.word (decide (a < 0) ^^ decide (b < 0)) (rq a.natAbs b.natAbs) := by
  unfold ratB
  rw [if_neg (fun h => a0 h.1), bitsOf_ne a0 ha, bitsOf_ne b0 hb, div_whole _ _ (by omega) ha (by omega) hb]
  rfl

theorem ratB_null {b : Int} (b0 : b ≠ 0) (hb : b.natAbs < 9007199254740992) : rg (ratB 0 b) = 0 := by
  obtain ⟨l2, n1, n2⟩ := nm_bounds (show 0 < b.natAbs by omega) hb
  have e : double.div (bitsOf 0) (bitsOf b) = some (double.word (false ^^ decide (b < 0)) 0) := by
    rw [bitsOf_zero, bitsOf_ne b0 hb]
    unfold Format.div
    rw [read_whole _ (by omega) hb]
    have eb : b.natAbs * 2 ^ (52 - b.natAbs.log2) = nm b.natAbs := rfl
    have r0 : double.read 0 = .number false 0 (-1074) := by decide +kernel
    rw [eb, r0]
    simp only [Datum.quotient]
    rw [if_neg (by omega)]
    simp only [Option.map_some, Format.write, Nat.zero_shiftLeft, Nat.zero_div, Nat.zero_mod]
    rfl
  unfold ratB
  rw [if_neg (fun h => b0 h.2), e]
  exact (word_parts (r := 0) (by decide)).2.1

theorem V_of_rg {x : Nat} (h : rg x = 0) : V x = 0 := by
  unfold V; rw [h, mg_zero]; simp

theorem rat_self {x : Int} (x0 : x ≠ 0) (hx : x.natAbs < 9007199254740992) : ratB x x = 4607182418800017408 := by
  rw [ratB_word x0 hx x0 hx]
  obtain ⟨l, m1, m2⟩ := nm_bounds (show 0 < x.natAbs by omega) hx
  have e : rq x.natAbs x.natAbs = 4607182418800017408 := by
    unfold rq
    rw [if_pos (Nat.le_refl _), rnd_exact (by omega)]
    omega
  rw [e]
  simp [Format.word]

theorem rat_signs {x y : Int} (hx : x.natAbs < 9007199254740992) (y0 : y ≠ 0) (hy : y.natAbs < 9007199254740992) :
    ((FloatKind.format .f64).order (ratB x y) (ratB (-x) (-y)) == some .eq) = true := by
  rw [fmt_eq]
  by_cases x0 : x = 0
  · subst x0
    have h1 := ratB_null y0 hy
    have h2 := ratB_null (b := -y) (by omega) (by omega)
    rw [Int.neg_zero, eql_num (by rw [h1]; omega) (by rw [h2]; omega), V_of_rg h1, V_of_rg h2]
    simp
  · have e : ratB (-x) (-y) = ratB x y := by
      rw [ratB_word x0 hx y0 hy, ratB_word (by omega) (by omega) (by omega) (by omega), Int.natAbs_neg, Int.natAbs_neg]
      congr 1
      by_cases g1 : x < 0 <;> by_cases g2 : y < 0
      · rw [decide_eq_true g1, decide_eq_true g2, decide_eq_false (by omega), decide_eq_false (by omega)]; rfl
      · rw [decide_eq_true g1, decide_eq_false g2, decide_eq_false (by omega), decide_eq_true (by omega)]; rfl
      · rw [decide_eq_false g1, decide_eq_true g2, decide_eq_true (by omega), decide_eq_false (by omega)]; rfl
      · rw [decide_eq_false g1, decide_eq_false g2, decide_eq_true (by omega), decide_eq_true (by omega)]; rfl
    rw [e]
    obtain ⟨r1, r2⟩ := rq_bounds (show 0 < x.natAbs by omega) hx (show 0 < y.natAbs by omega) hy
    have hr : rg (ratB x y) ≤ infR := by
      rw [ratB_word x0 hx y0 hy, (word_parts (by unfold infR at r1; omega)).2.1]; omega
    rw [eql_num hr hr]
    simp

theorem rat_less {x y z : Int} (x0 : 0 < x) (hx : x.natAbs < 9007199254740992) (y0 : 0 < y) (hyz : y ≤ z) (hz : z.natAbs < 9007199254740992) :
    ((FloatKind.format .f64).order (ratB x z) (ratB x y) == some .gt) = false := by
  rw [fmt_eq, ratB_word (by omega) hx (by omega) hz, ratB_word (by omega) hx (by omega) (by omega), decide_eq_false (show ¬ x < 0 by omega), decide_eq_false (show ¬ y < 0 by omega), decide_eq_false (show ¬ z < 0 by omega)]
  obtain ⟨r1, -⟩ := rq_bounds (show 0 < x.natAbs by omega) hx (show 0 < z.natAbs by omega) hz
  obtain ⟨s1, -⟩ := rq_bounds (show 0 < x.natAbs by omega) hx (show 0 < y.natAbs by omega) (by omega)
  have hm := rq_mono (show 0 < x.natAbs by omega) hx (show 0 < y.natAbs by omega) (show y.natAbs ≤ z.natAbs by omega) hz
  obtain ⟨a1, a2, -⟩ := word_parts (neg := false ^^ false) (r := rq x.natAbs z.natAbs) (by unfold infR at r1; omega)
  obtain ⟨b1, b2, -⟩ := word_parts (neg := false ^^ false) (r := rq x.natAbs y.natAbs) (by unfold infR at s1; omega)
  rw [gtr_num (by rw [a2]; omega) (by rw [b2]; omega)]
  unfold V
  rw [a1, a2, b1, b2]
  have := mg_le hm
  simp only [Bool.xor_false, Bool.false_eq_true, if_false]
  exact decide_eq_false (by omega)

theorem rat_null {y : Int} (y0 : y ≠ 0) (hy : y.natAbs < 9007199254740992) : ((FloatKind.format .f64).order (ratB 0 y) 0 == some .eq) = true := by
  have h1 := ratB_null y0 hy
  rw [fmt_eq, eql_num (by rw [h1]; omega) (by decide), V_of_rg h1, zero_parts.1]
  rfl

theorem rat_exact {x y : Int} (x0 : x ≠ 0) (y0 : y ≠ 0) (h : (x * y).natAbs < 9007199254740992) : ratB (x * y) y = bitsOf x ∧ ratB x 1 = bitsOf x := by
  have hxy : x * y ≠ 0 := Int.mul_ne_zero x0 y0
  have ha : (x * y).natAbs = x.natAbs * y.natAbs := Int.natAbs_mul x y
  have hx : x.natAbs ≤ (x * y).natAbs := by rw [ha]; exact Nat.le_mul_of_pos_right _ (by omega)
  have hy : y.natAbs ≤ (x * y).natAbs := by rw [ha]; exact Nat.le_mul_of_pos_left _ (by omega)
  constructor
  · rw [ratB_word hxy h y0 (by omega), ha, rq_exact (by omega) (by omega) (by rw [← ha]; exact h), bitsOf_ne x0 (by omega)]
    congr 1
    by_cases g1 : x < 0 <;> by_cases g2 : y < 0
    · have : 0 < x * y := Int.mul_pos_of_neg_of_neg g1 g2
      rw [decide_eq_true g1, decide_eq_true g2, decide_eq_false (by omega)]; rfl
    · have : x * y < 0 := Int.mul_neg_of_neg_of_pos g1 (by omega)
      rw [decide_eq_true g1, decide_eq_false g2, decide_eq_true (by omega)]; rfl
    · have : x * y < 0 := Int.mul_neg_of_pos_of_neg (by omega) g2
      rw [decide_eq_false g1, decide_eq_true g2, decide_eq_true (by omega)]; rfl
    · have : 0 < x * y := Int.mul_pos (by omega) (by omega)
      rw [decide_eq_false g1, decide_eq_false g2, decide_eq_false (by omega)]; rfl
  · have e := rq_exact (a := x.natAbs) (b := 1) (by omega) (by omega) (by omega)
    rw [Nat.mul_one] at e
    rw [ratB_word x0 (by omega) (by omega) (by decide), show (1 : Int).natAbs = 1 from rfl, e, bitsOf_ne x0 (by omega)]
    simp
end Go.Proofs.Ytopmbcfecaklhaa
