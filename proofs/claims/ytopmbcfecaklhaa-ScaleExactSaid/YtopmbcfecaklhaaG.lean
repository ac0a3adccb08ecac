/- Sizes. -/
import Derived.Test.YtopmbcfecaklhaaF
namespace Go.Proofs.Ytopmbcfecaklhaa
open Go.RowKit Go.PlainAid Ieee

theorem bits_one : bitsOf 1 = 4607182418800017408 := by decide +kernel
theorem bits_20 : bitsOf 20 = 4626322717216342016 := by decide +kernel
theorem one_parts : V 4607182418800017408 = U ∧ rg 4607182418800017408 ≤ infR := by
  obtain ⟨a, b, -⟩ := V_bitsOf (n := 1) (by decide)
  rw [bits_one] at a b
  exact ⟨by rw [a, Int.one_mul], by omega⟩
theorem parts_20 : V 4626322717216342016 = 20 * U ∧ rg 4626322717216342016 < infR := by
  obtain ⟨a, b, -⟩ := V_bitsOf (n := 20) (by decide)
  rw [bits_20] at a b
  exact ⟨a, by omega⟩
theorem parts_20s : sg 4626322717216342016 = false := by decide +kernel

theorem lss_one {b : Nat} (h : rg b ≤ infR) : ((FloatKind.format .f64).order b 4607182418800017408 == some .lt) = decide (V b < U) := by
  rw [fmt_eq, lss_num h one_parts.2, one_parts.1]

theorem V_inj {x y : Nat} (hx : x < 18446744073709551616) (hy : y < 18446744073709551616) (h : V x = V y) (h0 : V x ≠ 0) : x = y := by
  have e1 := word_split hx
  have e2 := word_split hy
  unfold V at h h0
  rw [e1, e2]
  cases s1 : sg x <;> cases s2 : sg y <;> simp only [s1, s2, if_true, if_false, Bool.false_eq_true] at h h0 ⊢
  · rw [mg_eq.1 (show mg (rg x) = mg (rg y) by omega)]
  · omega
  · omega
  · rw [mg_eq.1 (show mg (rg x) = mg (rg y) by omega)]

/-- The lesser one of a number and 20. -/
def minB (b : Nat) : Nat := if V b < 20 * U then b else 4626322717216342016
theorem run_minB {b : Nat} (hb : b < 18446744073709551616) (h : rg b ≤ infR) (ts : Array TypeId) (t : TypeId) (P : Program) (w : World) :
    (Builtin.min_ ts t #[.float .f64 b, .float .f64 4626322717216342016]).run P w = .ok (.float .f64 (minB b)) w := by
  have e : (Builtin.min_ ts t #[.float .f64 b, .float .f64 4626322717216342016]).run P w = (Builtin.min2 (.float .f64 b) (.float .f64 4626322717216342016)).run P w := by
    simp [Builtin.min_]
  rw [e]
  have ho : (FloatKind.format .f64).order b 4626322717216342016 = some (compare (V b) (20 * U)) := by
    rw [fmt_eq, order_num h (by have := parts_20.2; omega), parts_20.1]
  unfold minB
  rcases Int.lt_trichotomy (V b) (20 * U) with g | g | g
  · rw [Int.compare_eq_lt.2 g] at ho
    rw [if_pos g]
    simp [Builtin.min2, ho]
  · have hp := U_pos
    have hx : b = 4626322717216342016 := V_inj hb (by decide) (by rw [parts_20.1]; exact g) (by omega)
    rw [Int.compare_eq_eq.2 g] at ho
    rw [if_neg (by omega)]
    subst hx
    simp [Builtin.min2, ho]
  · rw [Int.compare_eq_gt.2 g] at ho
    rw [if_neg (by omega)]
    simp [Builtin.min2, ho]

theorem minB_int {b : Nat} (h : rg b ≤ infR ∧ (U : Int) ≤ V b) : floatToIntVal .f64 (minB b) .i64 = some (capB b : Int) := by
  have hp := U_pos
  obtain ⟨s, hv⟩ := V_pos (show 0 < V b by omega)
  have hc := capB_ok h
  unfold capB at hc ⊢
  rw [if_pos h] at hc ⊢
  unfold minB floatToIntVal FloatKind.decode
  rw [fmt_eq]
  by_cases g : V b < 20 * U
  · rw [if_pos g]
    rw [if_neg (by omega)] at hc ⊢
    have hf : rg b < infR := by
      rcases Nat.lt_or_eq_of_le h.1 with q | q
      · exact q
      · exfalso
        have p := parts_20
        have := mg_lt (show rg 4626322717216342016 < rg b by rw [q]; exact p.2)
        have hv2 := (V_pos (x := 4626322717216342016) (by rw [p.1]; omega)).2
        rw [p.1] at hv2
        omega
    rw [toInt_fin hf, s]
    generalize mg (rg b) / U = q at *
    simp only [Bool.false_eq_true, if_false]
    rw [if_pos (by simp [IntKind.min, IntKind.max, IntKind.bits, IntKind.signed]; omega)]
  · rw [if_neg g]
    rw [if_pos (by omega)] at hc ⊢
    rw [toInt_fin parts_20.2, parts_20s]
    have hv2 := (V_pos (x := 4626322717216342016) (by rw [parts_20.1]; omega)).2
    rw [parts_20.1] at hv2
    have : mg (rg 4626322717216342016) / U = 20 := by
      have : mg (rg 4626322717216342016) = 20 * U := by omega
      rw [this, Nat.mul_div_cancel _ hp]
    rw [this]
    decide +kernel

def capE (b : Nat) : Int := if capB b = 0 then 1 else 0

set_option maxRecDepth 100000 in
theorem cap_any (b : Nat) (w : World) (hb : b < 18446744073709551616) :
    Calls Try.prog 11 #[.float .f64 b] w fun e w' => e = .returned (.tuple #[.int .i64 (capB b), .int .i64 (capE b)]) ∧ w = w' := by
  by_cases c1 : infR < rg b
  · have hn := isnan_at b true (decide_eq_true c1)
    have hc : capB b = 0 := by unfold capB; rw [if_neg (by omega)]
    have he : capE b = 1 := by unfold capE; rw [if_pos hc]
    rw [hc, he]
    clear hc he
    go_enter Try.func11, Try.ntmps11
    go_wp2_with fail
    refine (hn _).mono ?_
    rintro e w' ⟨rfl, rfl⟩
    go_wp2_with fail
    go_ret2
    exact ⟨rfl, rfl⟩
  · have hn := isnan_at b false (decide_eq_false c1)
    have hl := lss_one (b := b) (by omega)
    by_cases c2 : V b < U
    · rw [decide_eq_true c2] at hl
      have hc : capB b = 0 := by unfold capB; rw [if_neg (by omega)]
      have he : capE b = 1 := by unfold capE; rw [if_pos hc]
      rw [hc, he]
      clear hc he c2
      go_enter Try.func11, Try.ntmps11
      go_wp2_with fail
      refine (hn _).mono ?_
      rintro e w' ⟨rfl, rfl⟩
      go_wp2_with fail
      go_ret2
      exact ⟨rfl, rfl⟩
    · rw [decide_eq_false c2] at hl
      have hk : rg b ≤ infR ∧ (U : Int) ≤ V b := by omega
      have he : capE b = 0 := by unfold capE; rw [if_neg (by have := capB_ok hk; omega)]
      rw [he]
      have hm := fun ts t w => run_minB hb hk.1 ts t Try.prog w
      have hi := minB_int hk
      have hcv := fun w => run_convert_float_int (P := Try.prog) w 22 3 .f64 .i64 (minB b) (capB b) (by kernel_rfl) Try.underlying3 hi
      clear he hk c2 c1 hi
      generalize minB b = m at *
      generalize capB b = n at *
      go_enter Try.func11, Try.ntmps11
      go_wp2_with fail
      refine (hn _).mono ?_
      rintro e w' ⟨rfl, rfl⟩
      go_wp2_with fail
      go_ret2
      exact ⟨rfl, rfl⟩
end Go.Proofs.Ytopmbcfecaklhaa
