/- The leaves: math's own, and the order. -/
import Derived.Test.YtopmbcfecaklhaaC
import Derived.Test.YtopmbcfecaklhaaRows
import Derived.WalkKit
import Derived.WalkSpells
import Derived.WalkLawsBesides
import Derived.OneCell
import Derived.PlainAid
import Derived.Lib.Hide
namespace Go.Proofs.Ytopmbcfecaklhaa
open Go.RowKit Go.PlainAid Ieee

@[go_sem] theorem run_fbits (b : Nat) (w : World) : (callFunc 27 #[.float .f64 b]).run Try.prog w = .ok (.value (.int .u64 b)) w := by
  rw [run_callFunc_extern (e := Extern.MathFloatBits.float64bits) Try.func27 (by kernel_rfl) (by kernel_rfl) (by kernel_rfl) (by kernel_rfl)]
  rfl
@[go_sem] theorem run_ffrom (n : Int) (w : World) : (callFunc 25 #[.int .u64 n]).run Try.prog w = .ok (.value (.float .f64 n.toNat)) w := by
  rw [run_callFunc_extern (e := Extern.MathFloatBits.float64frombits) Try.func25 (by kernel_rfl) (by kernel_rfl) (by kernel_rfl) (by kernel_rfl)]
  rfl

theorem fmt_eq : FloatKind.format .f64 = double := rfl

theorem isnan_any (b : Nat) (w : World) :
    Calls Try.prog 28 #[.float .f64 b] w fun e w' => e = .returned (.bool (decide (infR < rg b))) ∧ w = w' := by
  have h : (double.order b b != some .eq) = decide (infR < rg b) := by
    by_cases g : infR < rg b
    · rw [order_nanl g, decide_eq_true g]; rfl
    · have := eql_num (x := b) (y := b) (by omega) (by omega)
      rw [decide_eq_false g, bne, this]; simp
  go_enter Try.func28, Try.ntmps28
  go_wp2
  rw [fmt_eq, h]
  go_ret
  exact ⟨rfl, rfl⟩

theorem and63 {b : Nat} (hb : b < 18446744073709551616) : bits .and .u64 (b : Int) 9223372036854775808 = if 9223372036854775808 ≤ b then 9223372036854775808 else 0 := by
  have := u64_and_nat b 9223372036854775808 hb (by decide)
  refine this.trans ?_
  have e : b &&& 2 ^ 63 = if 9223372036854775808 ≤ b then 2 ^ 63 else 0 := by
    apply Nat.eq_of_testBit_eq
    intro i
    rw [Nat.testBit_and]
    by_cases h : 63 = i
    · subst h
      by_cases g : 9223372036854775808 ≤ b
      · rw [if_pos g, Nat.testBit_of_two_pow_le_and_two_pow_add_one_gt (n := b) (i := 63) g hb]; simp
      · rw [if_neg g, Nat.testBit_lt_two_pow (i := 63) (Nat.lt_of_not_le g)]; simp
    · rw [Nat.testBit_two_pow_of_ne h]
      by_cases g : 9223372036854775808 ≤ b
      · rw [if_pos g, Nat.testBit_two_pow_of_ne h]; simp
      · rw [if_neg g]; simp
  refine (congrArg Int.ofNat e).trans ?_
  by_cases g : 9223372036854775808 ≤ b
  · rw [if_pos g, if_pos g]; rfl
  · rw [if_neg g, if_neg g]; rfl
theorem or63 {b : Nat} (hb : b < 9223372036854775808) : bits .or .u64 (b : Int) 9223372036854775808 = ((b + 9223372036854775808 : Nat) : Int) := by
  refine (u64_or_nat b 9223372036854775808 (by omega) (by decide)).trans ?_
  rw [Nat.or_comm, nat_join 63 _ _ (by decide) hb, Nat.add_comm]
theorem andNot63 {b : Nat} (hb : b < 18446744073709551616) : bits .andNot .u64 (b : Int) 9223372036854775808 = (rg b : Int) := by
  refine (u64_andNot_nat b 9223372036854775808 hb (by decide)).trans ?_
  have e : b &&& 2 ^ 63 - 1 = b % 2 ^ 63 := Nat.and_two_pow_sub_one_eq_mod b 63
  exact congrArg Int.ofNat e

theorem signbit_any (b : Nat) (w : World) (hb : b < 18446744073709551616) :
    Calls Try.prog 30 #[.float .f64 b] w fun e w' => e = .returned (.bool (sg b)) ∧ w = w' := by
  have h : decide (wrap64 (b : Int) < 0) = sg b := by
    rw [sg_iff hb]
    unfold wrap64
    congr 1
    simp only [eq_iff_iff]
    omega
  go_enter Try.func30, Try.ntmps30
  go_wp2
  go_ret
  exact ⟨rfl, rfl⟩

theorem abs_any (b : Nat) (w : World) (hb : b < 18446744073709551616) :
    Calls Try.prog 40 #[.float .f64 b] w fun e w' => e = .returned (.float .f64 (rg b)) ∧ w = w' := by
  go_enter Try.func40, Try.ntmps40
  go_wp2
  rw [andNot63 hb]
  go_ret
  exact ⟨rfl, rfl⟩

theorem height_any (b : Nat) (w : World) (hb : b < 18446744073709551616) :
    Calls Try.prog 32 #[.float .f64 b] w fun e w' => e = .returned (.int .u64 (hgt b)) ∧ w = w' := by
  have ha := and63 hb
  by_cases g : 9223372036854775808 ≤ b
  · rw [if_pos g] at ha
    have hn : (bits .and .u64 (b : Int) 9223372036854775808 != 0) = true := by rw [ha]; rfl
    have hh : ((hgt b : Nat) : Int) = bits .xor .u64 IntKind.u64.max (b : Int) := by
      unfold hgt; rw [sg_iff hb, decide_eq_true g, if_pos rfl]
      refine Eq.trans ?_ (u64_xor_nat 18446744073709551615 b (by decide) hb).symm
      have e : 18446744073709551615 ^^^ b = 18446744073709551615 - b := by
        have e1 : (2 ^ 64 - (b + 1)) = 2 ^ 64 - 1 ^^^ b := by
          apply Nat.eq_of_testBit_eq
          intro i
          rw [Nat.testBit_two_pow_sub_succ hb, Nat.testBit_xor, Nat.testBit_two_pow_sub_one]
          by_cases h : i < 64
          · simp [h]
          · have h2 : 2 ^ 64 ≤ 2 ^ i := Nat.pow_le_pow_right (by decide) (by omega)
            have h3 : b < 2 ^ i := Nat.lt_of_lt_of_le (show b < 2 ^ 64 from hb) h2
            rw [Nat.testBit_lt_two_pow h3]; simp [h]
        refine e1.symm.trans ?_
        show 18446744073709551616 - (b + 1) = _
        omega
      rw [e]
    rw [hh]
    clear ha hh
    go_enter Try.func32, Try.ntmps32
    go_wp2
    go_ret
    exact ⟨rfl, rfl⟩
  · rw [if_neg g] at ha
    have hn : (bits .and .u64 (b : Int) 9223372036854775808 != 0) = false := by rw [ha]; rfl
    have ho := or63 (b := b) (by omega)
    have hh : hgt b = b + 9223372036854775808 := by
      unfold hgt; rw [sg_iff hb, decide_eq_false g, if_neg (by simp)]
    rw [hh, ← ho]
    clear ha ho hh
    go_enter Try.func32, Try.ntmps32
    go_wp2
    go_ret
    exact ⟨rfl, rfl⟩

theorem less_any (a b : Nat) (w : World) (ha : a < 18446744073709551616) (hb : b < 18446744073709551616) :
    Calls Try.prog 19 #[.float .f64 a, .float .f64 b] w fun e w' => e = .returned (.bool (decide (hgt a < hgt b))) ∧ w = w' := by
  go_enter Try.func19, Try.ntmps19
  go_wp2_with fail
  refine (height_any a _ ha).mono ?_
  rintro e w' ⟨rfl, rfl⟩
  go_wp2_with fail
  refine (height_any b _ hb).mono ?_
  rintro e w' ⟨rfl, rfl⟩
  go_wp2_with fail
  go_ret
  exact ⟨by simp, rfl⟩

theorem neg63 {b : Nat} (hb : b < 18446744073709551616) : sg (Op.negFloat .f64 b) = !sg b ∧ rg (Op.negFloat .f64 b) = rg b ∧ Op.negFloat .f64 b < 18446744073709551616 := by
  have e0 : Op.negFloat .f64 b = b ^^^ 2 ^ 63 := rfl
  have e1 : (b ^^^ 2 ^ 63) % 2 ^ 63 = b % 2 ^ 63 := by
    rw [Nat.xor_mod_two_pow, Nat.mod_self, Nat.xor_zero]
  have e2 : (b ^^^ 2 ^ 63) / 2 ^ 63 = b / 2 ^ 63 ^^^ 1 := by
    rw [Nat.xor_div_two_pow, Nat.div_self (by decide)]
  have e3 : b ^^^ 2 ^ 63 < 2 ^ 64 := Nat.xor_lt_two_pow hb (by decide)
  rw [e0]
  refine ⟨?_, e1, e3⟩
  unfold sg
  have e4 : (b ^^^ 2 ^ 63) / 9223372036854775808 = b / 2 ^ 63 ^^^ 1 := e2
  rw [e4]
  have : b / 2 ^ 63 < 2 := by omega
  have e5 : b / 9223372036854775808 = b / 2 ^ 63 := rfl
  rw [e5]
  generalize b / 2 ^ 63 = q at *
  have : q = 0 ∨ q = 1 := by omega
  rcases this with rfl | rfl <;> rfl

@[go_sem] theorem unary_negf (b : Nat) : Op.unary .neg (.float .f64 b) = pure (.float .f64 (Op.negFloat .f64 b)) := rfl

theorem maxf_parts : rg 9218868437227405311 = infR - 1 ∧ sg 9218868437227405311 = false := by decide +kernel
/-- Beyond the greatest number: only infinity. -/
theorem beyond {b : Nat} : (double.order b 9218868437227405311 == some .gt) = decide (rg b = infR ∧ sg b = false) := by
  obtain ⟨m1, m2⟩ := maxf_parts
  by_cases g : infR < rg b
  · rw [order_nanl g, decide_eq_false (by omega)]; rfl
  · rw [gtr_num (by omega) (by rw [m1]; omega)]
    congr 1
    unfold V
    rw [m1, m2, if_neg (by simp)]
    cases s : sg b
    · simp only [Bool.false_eq_true, if_false, and_true]
      rw [Int.ofNat_lt, mg_lt_iff]
      simp only [eq_iff_iff]
      have : 0 < infR := by decide
      omega
    · simp only [if_true]
      simp only [eq_iff_iff]
      constructor
      · intro h; omega
      · intro h; simp at h

theorem isinf_minus (b : Nat) (w : World) (hb : b < 18446744073709551616) :
    Calls Try.prog 29 #[.float .f64 b, .int .i64 (-1)] w fun e w' => e = .returned (.bool (decide (rg b = infR ∧ sg b = true))) ∧ w = w' := by
  have h := @beyond (Op.negFloat .f64 b)
  obtain ⟨n1, n2, n3⟩ := neg63 hb
  rw [n1, n2] at h
  have e : decide (rg b = infR ∧ sg b = true) = decide (rg b = infR ∧ (!sg b) = false) := by simp
  rw [e, ← h]
  clear h e n1 n2 n3
  go_enter Try.func29, Try.ntmps29
  go_wp2
  go_ret
  exact ⟨rfl, rfl⟩
theorem isinf_plus (b : Nat) (w : World) :
    Calls Try.prog 29 #[.float .f64 b, .int .i64 1] w fun e w' => e = .returned (.bool (decide (rg b = infR ∧ sg b = false))) ∧ w = w' := by
  rw [← @beyond b]
  go_enter Try.func29, Try.ntmps29
  go_wp2
  go_ret
  exact ⟨rfl, rfl⟩

theorem inf_plus (w : World) :
    Calls Try.prog 26 #[.int .i64 1] w fun e w' => e = .returned (.float .f64 9218868437227405312) ∧ w = w' := by
  go_enter Try.func26, Try.ntmps26
  go_wp2
  go_ret
  exact ⟨rfl, rfl⟩
theorem inf_minus (w : World) :
    Calls Try.prog 26 #[.int .i64 (-1)] w fun e w' => e = .returned (.float .f64 18442240474082181120) ∧ w = w' := by
  go_enter Try.func26, Try.ntmps26
  go_wp2
  go_ret
  exact ⟨rfl, rfl⟩
theorem nan_any (w : World) :
    Calls Try.prog 31 #[] w fun e w' => e = .returned (.float .f64 9221120237041090561) ∧ w = w' := by
  go_enter Try.func31, Try.ntmps31
  go_wp2
  go_ret
  exact ⟨rfl, rfl⟩
theorem none_any (w : World) :
    Calls Try.prog 38 #[] w fun e w' => e = .returned (.float .f64 9221120237041090561) ∧ w = w' := by
  go_enter Try.func38, Try.ntmps38
  go_wp2
  go_ret
  exact ⟨rfl, rfl⟩
theorem minus_any (w : World) :
    Calls Try.prog 39 #[] w fun e w' => e = .returned (.float .f64 9223372036854775808) ∧ w = w' := by
  go_enter Try.func39, Try.ntmps39
  go_wp2
  go_ret
  exact ⟨rfl, rfl⟩
end Go.Proofs.Ytopmbcfecaklhaa
