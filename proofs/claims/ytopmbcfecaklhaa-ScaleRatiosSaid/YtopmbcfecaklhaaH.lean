/- The document's sizes; ratios. -/
import Derived.Test.YtopmbcfecaklhaaG
namespace Go.Proofs.Ytopmbcfecaklhaa
open Go.RowKit Go.PlainAid Ieee

/-- A whole number's bits: of any that an int may be. -/
theorem bitsOf_big {n : Int} (h : n.natAbs ≤ 9223372036854775808) : rg (bitsOf n) < infR ∧ bitsOf n < 18446744073709551616 ∧ sg (bitsOf n) = decide (n < 0) ∧ (rg (bitsOf n) = 0 ↔ n = 0) := by
  by_cases h0 : n = 0
  · subst h0; rw [bitsOf_zero]; decide +kernel
  · obtain ⟨neg, hneg⟩ : ∃ g, g = decide (n < 0) := ⟨_, rfl⟩
    have e : bitsOf n = double.nearest neg n.natAbs 0 := by rw [hneg]; rfl
    rw [e, ← hneg]
    generalize hA : n.natAbs = a at *
    have h1 : 0 < a := by omega
    have l1 : 2 ^ a.log2 ≤ a := Nat.log2_self_le (by omega)
    have l2 : a < 2 ^ (a.log2 + 1) := Nat.lt_log2_self
    have l3 : a.log2 < 64 := by
      rw [Nat.log2_lt (by omega)]
      exact Nat.lt_of_le_of_lt h (by decide)
    obtain ⟨k, hk, hlt⟩ : ∃ k, k ≤ 9007199254740992 ∧ double.nearest neg a 0 = double.word neg (min ((a.log2 + 1022) * 4503599627370496 + k) infR) := by
      unfold Format.nearest
      rw [if_neg (by omega), infR_eq, bin_eq, lp_eq, show (double.fractionBits : Int) = 52 from rfl]
      dsimp only
      have e1 : max (0 + (a.log2 : Int) - 52) (-1074) = (a.log2 : Int) - 52 := by omega
      rw [e1]
      have e4 : ((a.log2 : Int) - 52 - -1074).toNat = a.log2 + 1022 := by omega
      rw [e4]
      refine ⟨_, ?_, rfl⟩
      by_cases g : a.log2 ≤ 52
      · have e2 : ((a.log2 : Int) - 52 - 0).toNat = 0 := by omega
        have e3 : (0 - ((a.log2 : Int) - 52)).toNat = 52 - a.log2 := by omega
        rw [e2, e3]
        have e5 : Toward.even.cut neg (a <<< (52 - a.log2)) 0 = a * 2 ^ (52 - a.log2) := by
          unfold Toward.cut
          simp [Nat.shiftLeft_eq, Nat.mod_one]
        rw [e5]
        have := Nat.mul_lt_mul_of_pos_right l2 (Nat.two_pow_pos (52 - a.log2))
        rw [← Nat.pow_add, show a.log2 + 1 + (52 - a.log2) = 53 by omega] at this
        exact Nat.le_of_lt this
      · have e2 : ((a.log2 : Int) - 52 - 0).toNat = a.log2 - 52 := by omega
        have e3 : (0 - ((a.log2 : Int) - 52)).toNat = 0 := by omega
        rw [e2, e3]
        unfold Toward.cut
        simp only [Nat.shiftLeft_eq, Nat.one_mul, Nat.pow_zero, Nat.mul_one]
        rw [Nat.min_eq_left (by omega)]
        have : a / 2 ^ (a.log2 - 52) < 9007199254740992 := by
          rw [Nat.div_lt_iff_lt_mul (Nat.two_pow_pos _)]
          have e6 : 9007199254740992 * 2 ^ (a.log2 - 52) = 2 ^ (a.log2 + 1) := by
            rw [show 9007199254740992 = 2 ^ 53 from rfl, ← Nat.pow_add, show 53 + (a.log2 - 52) = a.log2 + 1 by omega]
          rw [e6]; exact l2
        refine Nat.le_trans (Nat.add_le_add_left (Bool.toNat_le _) _) ?_
        omega
    rw [hlt]
    have hr : min ((a.log2 + 1022) * 4503599627370496 + k) infR = (a.log2 + 1022) * 4503599627370496 + k := by
      unfold infR; omega
    rw [hr]
    obtain ⟨w1, w2, w3⟩ := word_parts (neg := neg) (r := (a.log2 + 1022) * 4503599627370496 + k) (by omega)
    rw [w1, w2]
    refine ⟨by unfold infR; omega, w3, rfl, ?_⟩
    constructor
    · intro h; omega
    · intro h; exact absurd h h0

theorem mg_zero_iff {r : Nat} : mg r = 0 ↔ r = 0 := by
  have := @mg_eq r 0
  rw [mg_zero] at this
  exact this

theorem div_some {a b : Int} (ha : a.natAbs ≤ 9223372036854775808) (hb : b.natAbs ≤ 9223372036854775808) (h : ¬ (a = 0 ∧ b = 0)) : ∃ r, double.div (bitsOf a) (bitsOf b) = some r := by
  obtain ⟨a1, a2, a3, a4⟩ := bitsOf_big ha
  obtain ⟨b1, b2, b3, b4⟩ := bitsOf_big hb
  obtain ⟨m, i, e1, -, e3, -⟩ := read_fin a1
  obtain ⟨n, j, f1, -, f3, -⟩ := read_fin b1
  unfold Format.div
  rw [e1, f1]
  simp only [Datum.quotient]
  by_cases n0 : n = 0
  · rw [if_pos n0]
    have bz : b = 0 := by
      rw [n0, Nat.zero_mul] at f3
      exact b4.1 (mg_zero_iff.1 f3.symm)
    by_cases m0 : m = 0
    · have az : a = 0 := by
        rw [m0, Nat.zero_mul] at e3
        exact a4.1 (mg_zero_iff.1 e3.symm)
      exact absurd ⟨az, bz⟩ h
    · rw [if_neg m0]; exact ⟨_, rfl⟩
  · rw [if_neg n0]; exact ⟨_, rfl⟩

/-- The ratio's bits. -/
def ratB (a b : Int) : Nat := if a = 0 ∧ b = 0 then 9221120237041090561 else (double.div (bitsOf a) (bitsOf b)).getD 0

theorem int_abs {a : Int} (h : (Lit.int .i64 a).wf = true) : a.natAbs ≤ 9223372036854775808 := by
  simp [Lit.wf, IntKind.min, IntKind.max, IntKind.bits, IntKind.signed] at h
  omega

theorem ratB_div {a b : Int} (ha : a.natAbs ≤ 9223372036854775808) (hb : b.natAbs ≤ 9223372036854775808) (h : ¬ (a = 0 ∧ b = 0)) : double.div (bitsOf a) (bitsOf b) = some (ratB a b) ∧ ratB a b < 18446744073709551616 := by
  obtain ⟨r, hr⟩ := div_some ha hb h
  unfold ratB
  rw [if_neg h, hr]
  exact ⟨rfl, double.div_lt hr⟩
theorem ratB_lt {a b : Int} (ha : a.natAbs ≤ 9223372036854775808) (hb : b.natAbs ≤ 9223372036854775808) : ratB a b < 18446744073709551616 := by
  by_cases h : a = 0 ∧ b = 0
  · unfold ratB; rw [if_pos h]; decide
  · exact (ratB_div ha hb h).2

theorem run_quoB (t : TypeId) (P : Program) (w : World) {a b : Int} (ha : a.natAbs ≤ 9223372036854775808) (hb : b.natAbs ≤ 9223372036854775808) (h : ¬ (a = 0 ∧ b = 0)) :
    (binOp .quo t (.float .f64 (floatOfInt .f64 a)) (.float .f64 (floatOfInt .f64 b))).run P w = .ok (.float .f64 (ratB a b)) w :=
  run_float_arith w .quo t .f64 _ _ _ (ratB_div ha hb h).1

set_option maxRecDepth 100000 in
theorem ratio_any (a b : Int) (w : World) (ha : a.natAbs ≤ 9223372036854775808) (hb : b.natAbs ≤ 9223372036854775808) :
    Calls Try.prog 17 #[.int .i64 a, .int .i64 b] w fun e w' => e = .returned (.float .f64 (ratB a b)) ∧ w = w' := by
  by_cases a0 : a = 0
  · by_cases b0 : b = 0
    · subst a0 b0
      have hr : ratB 0 0 = 9221120237041090561 := by unfold ratB; rw [if_pos ⟨rfl, rfl⟩]
      rw [hr]
      clear hr
      go_enter Try.func17, Try.ntmps17
      go_wp2_with fail
      refine (nan_any _).mono ?_
      rintro e w' ⟨rfl, rfl⟩
      go_wp2_with fail
      go_ret
      exact ⟨rfl, rfl⟩
    · have hq := fun w => run_quoB 22 Try.prog w ha hb (by omega)
      have hb' : (b == 0) = false := by rw [beq_eq_false_iff_ne]; exact b0
      subst a0
      generalize ratB 0 b = r at *
      go_enter Try.func17, Try.ntmps17
      go_wp2_with fail
      go_ret
      exact ⟨rfl, rfl⟩
  · have hq := fun w => run_quoB 22 Try.prog w ha hb (by omega)
    have ha' : (a == 0) = false := by rw [beq_eq_false_iff_ne]; exact a0
    generalize ratB a b = r at *
    go_enter Try.func17, Try.ntmps17
    go_wp2_with fail
    go_ret
    exact ⟨rfl, rfl⟩

/-- A number that is none, as the machine draws it. -/
theorem cut_nan (x y t : Nat) : infR < rg ((Question.nanBits .f64 x y).cut t) ∧ (Question.nanBits .f64 x y).cut t < 18446744073709551616 := by
  have e : (Question.nanBits .f64 x y).cut t = (t % 2) * 2 ^ 63 + 0x7ff0000000000000 + 1 + (t / 2) % (2 ^ 52 - 1) := rfl
  rw [e]
  unfold rg infR
  have h1 : t % 2 < 2 := Nat.mod_lt _ (by decide)
  have h2 : t / 2 % (2 ^ 52 - 1) < 2 ^ 52 - 1 := Nat.mod_lt _ (by decide)
  generalize t / 2 % (2 ^ 52 - 1) = q at *
  generalize t % 2 = s at *
  omega

theorem run_quo_nan (t : TypeId) (P : Program) (w : World) : ∃ c, infR < rg c ∧ c < 18446744073709551616 ∧
    (binOp .quo t (.float .f64 (floatOfInt .f64 0)) (.float .f64 (floatOfInt .f64 0))).run P w = .ok (.float .f64 c) w.drew := by
  have hd : (FloatKind.format .f64).div (floatOfInt .f64 0) (floatOfInt .f64 0) = none := by decide +kernel
  have hx := cut_nan (floatOfInt .f64 0) (floatOfInt .f64 0) (w.tape w.drawn (.nanBits .f64 (floatOfInt .f64 0) (floatOfInt .f64 0)))
  refine ⟨_, hx.1, hx.2, ?_⟩
  simp [binOp, Op.floatArith, hd, Question.forced]

set_option maxRecDepth 100000 in
theorem rratio_any (a b : Int) (w : World) (ha : a.natAbs ≤ 9223372036854775808) (hb : b.natAbs ≤ 9223372036854775808) :
    Calls Try.prog 18 #[.int .i64 a, .int .i64 b] w fun e w' => ∃ c, e = .returned (.float .f64 c) ∧ c < 18446744073709551616 ∧ (c = ratB a b ∨ (infR < rg c ∧ infR < rg (ratB a b))) ∧ ∃ n, w.drewN n = w' := by
  by_cases h : a = 0 ∧ b = 0
  · obtain ⟨rfl, rfl⟩ := h
    have hr : infR < rg (ratB 0 0) := by unfold ratB; rw [if_pos ⟨rfl, rfl⟩]; decide +kernel
    have Hr := Lib.hid hr
    obtain ⟨c, h1, h2, hq⟩ := run_quo_nan 22 Try.prog w
    have H1 := Lib.hid h1
    clear hr h1
    go_enter Try.func18, Try.ntmps18
    go_wp2_with fail
    go_ret
    exact ⟨c, rfl, h2, .inr ⟨H1.out, Hr.out⟩, 1, rfl⟩
  · have hq := fun w => run_quoB 22 Try.prog w ha hb h
    have hl := ratB_lt ha hb
    clear h
    generalize ratB a b = r at *
    go_enter Try.func18, Try.ntmps18
    go_wp2_with fail
    go_ret
    exact ⟨r, rfl, hl, .inl rfl, 0, rfl⟩
end Go.Proofs.Ytopmbcfecaklhaa
