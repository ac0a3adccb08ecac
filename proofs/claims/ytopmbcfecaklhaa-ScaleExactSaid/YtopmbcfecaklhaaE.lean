/- Kinds. -/
import Derived.Test.YtopmbcfecaklhaaD
namespace Go.Proofs.Ytopmbcfecaklhaa
open Go.RowKit Go.PlainAid Ieee

/-- The kind of a number's bits. -/
def kindB (b : Nat) : Int := if infR < rg b then 0 else if sg b then (if rg b = infR then 1 else if rg b = 0 then 3 else 2) else (if rg b = infR then 6 else if rg b = 0 then 4 else 5)

theorem isnan_at (b : Nat) (v : Bool) (h : decide (infR < rg b) = v) (w : World) :
    Calls Try.prog 28 #[.float .f64 b] w fun e w' => e = .returned (.bool v) ∧ w = w' := by
  rw [← h]; exact isnan_any b w
theorem minf_at (b : Nat) (v : Bool) (hb : b < 18446744073709551616) (h : decide (rg b = infR ∧ sg b = true) = v) (w : World) :
    Calls Try.prog 29 #[.float .f64 b, .int .i64 (-1)] w fun e w' => e = .returned (.bool v) ∧ w = w' := by
  rw [← h]; exact isinf_minus b w hb
theorem pinf_at (b : Nat) (v : Bool) (h : decide (rg b = infR ∧ sg b = false) = v) (w : World) :
    Calls Try.prog 29 #[.float .f64 b, .int .i64 1] w fun e w' => e = .returned (.bool v) ∧ w = w' := by
  rw [← h]; exact isinf_plus b w
theorem sign_at (b : Nat) (v : Bool) (hb : b < 18446744073709551616) (h : sg b = v) (w : World) :
    Calls Try.prog 30 #[.float .f64 b] w fun e w' => e = .returned (.bool v) ∧ w = w' := by
  rw [← h]; exact signbit_any b w hb

theorem zero_parts : V 0 = 0 ∧ rg 0 = 0 ∧ sg 0 = false := by decide +kernel
theorem lss_zero {b : Nat} (h : rg b ≤ infR) : ((FloatKind.format .f64).order b 0 == some .lt) = decide (0 < rg b ∧ sg b = true) := by
  rw [fmt_eq, lss_num h (by decide), zero_parts.1]
  congr 1
  unfold V
  cases s : sg b
  · simp
  · simp only [if_true, and_true, eq_iff_iff]
    have := @mg_lt_iff 0 (rg b)
    rw [mg_zero] at this
    omega
theorem gtr_zero {b : Nat} (h : rg b ≤ infR) : ((FloatKind.format .f64).order b 0 == some .gt) = decide (0 < rg b ∧ sg b = false) := by
  rw [fmt_eq, gtr_num h (by decide), zero_parts.1]
  congr 1
  unfold V
  have := @mg_lt_iff 0 (rg b)
  rw [mg_zero] at this
  cases s : sg b
  · simp only [Bool.false_eq_true, if_false, and_true, eq_iff_iff]
    omega
  · simp only [if_true, eq_iff_iff]
    constructor
    · intro h; omega
    · intro h; simp at h

set_option maxHeartbeats 1000000 in
theorem kind_any (b : Nat) (w : World) (hb : b < 18446744073709551616) :
    Calls Try.prog 14 #[.float .f64 b] w fun e w' => e = .returned (.int .i64 (kindB b)) ∧ w = w' := by
  have hn := isnan_at b
  have hm := fun v => minf_at b v hb
  have hp := pinf_at b
  have hs := fun v => sign_at b v hb
  have pos : 0 < infR := by decide
  by_cases c1 : infR < rg b
  · have hk : kindB b = 0 := by unfold kindB; rw [if_pos c1]
    rw [hk]
    replace hn := hn true (decide_eq_true c1)
    clear hm hp hs hk c1
    go_enter Try.func14, Try.ntmps14
    go_wp2_with fail
    refine (hn _).mono ?_
    rintro e w' ⟨rfl, rfl⟩
    go_wp2_with fail
    go_ret
    exact ⟨rfl, rfl⟩
  · replace hn := hn false (decide_eq_false c1)
    have hl := lss_zero (b := b) (by omega)
    have hg := gtr_zero (b := b) (by omega)
    have hk : kindB b = if sg b then (if rg b = infR then 1 else if rg b = 0 then 3 else 2) else (if rg b = infR then 6 else if rg b = 0 then 4 else 5) := by unfold kindB; rw [if_neg c1]
    rw [hk]
    clear hk c1
    cases s : sg b
    · rw [s] at hm hp hs hl hg
      replace hm := hm false (decide_eq_false (by simp))
      replace hs := hs false rfl
      rw [decide_eq_false (by simp)] at hl
      rw [if_neg (by simp)]
      by_cases c2 : rg b = infR
      · rw [if_pos c2]
        replace hp := hp true (decide_eq_true ⟨c2, rfl⟩)
        clear hg s c2 hs
        go_enter Try.func14, Try.ntmps14
        go_wp2_with fail
        refine (hn _).mono ?_
        rintro e w' ⟨rfl, rfl⟩
        go_wp2_with fail
        refine (hm _).mono ?_
        rintro e w' ⟨rfl, rfl⟩
        go_wp2_with fail
        refine (hp _).mono ?_
        rintro e w' ⟨rfl, rfl⟩
        go_wp2_with fail
        go_ret
        exact ⟨rfl, rfl⟩
      · rw [if_neg c2]
        replace hp := hp false (decide_eq_false (by simp [c2]))
        by_cases c3 : rg b = 0
        · rw [if_pos c3]
          rw [decide_eq_false (by omega)] at hg
          clear s c2 c3
          go_enter Try.func14, Try.ntmps14
          go_wp2_with fail
          refine (hn _).mono ?_
          rintro e w' ⟨rfl, rfl⟩
          go_wp2_with fail
          refine (hm _).mono ?_
          rintro e w' ⟨rfl, rfl⟩
          go_wp2_with fail
          refine (hp _).mono ?_
          rintro e w' ⟨rfl, rfl⟩
          go_wp2_with fail
          refine (hs _).mono ?_
          rintro e w' ⟨rfl, rfl⟩
          go_wp2_with fail
          go_ret
          exact ⟨rfl, rfl⟩
        · rw [if_neg c3]
          rw [decide_eq_true ⟨by omega, rfl⟩] at hg
          clear s c2 c3 hs
          go_enter Try.func14, Try.ntmps14
          go_wp2_with fail
          refine (hn _).mono ?_
          rintro e w' ⟨rfl, rfl⟩
          go_wp2_with fail
          refine (hm _).mono ?_
          rintro e w' ⟨rfl, rfl⟩
          go_wp2_with fail
          refine (hp _).mono ?_
          rintro e w' ⟨rfl, rfl⟩
          go_wp2_with fail
          go_ret
          exact ⟨rfl, rfl⟩
    · rw [s] at hm hp hs hl hg
      replace hp := hp false (decide_eq_false (by simp))
      replace hs := hs true rfl
      rw [decide_eq_false (by simp)] at hg
      rw [if_pos rfl]
      by_cases c2 : rg b = infR
      · rw [if_pos c2]
        replace hm := hm true (decide_eq_true ⟨c2, rfl⟩)
        clear hg hl s c2 hs hp
        go_enter Try.func14, Try.ntmps14
        go_wp2_with fail
        refine (hn _).mono ?_
        rintro e w' ⟨rfl, rfl⟩
        go_wp2_with fail
        refine (hm _).mono ?_
        rintro e w' ⟨rfl, rfl⟩
        go_wp2_with fail
        go_ret
        exact ⟨rfl, rfl⟩
      · rw [if_neg c2]
        replace hm := hm false (decide_eq_false (by simp [c2]))
        by_cases c3 : rg b = 0
        · rw [if_pos c3]
          rw [decide_eq_false (by omega)] at hl
          clear s c2 c3
          go_enter Try.func14, Try.ntmps14
          go_wp2_with fail
          refine (hn _).mono ?_
          rintro e w' ⟨rfl, rfl⟩
          go_wp2_with fail
          refine (hm _).mono ?_
          rintro e w' ⟨rfl, rfl⟩
          go_wp2_with fail
          refine (hp _).mono ?_
          rintro e w' ⟨rfl, rfl⟩
          go_wp2_with fail
          refine (hs _).mono ?_
          rintro e w' ⟨rfl, rfl⟩
          go_wp2_with fail
          go_ret
          exact ⟨rfl, rfl⟩
        · rw [if_neg c3]
          rw [decide_eq_true ⟨by omega, rfl⟩] at hl
          clear s c2 c3 hs hp hg
          go_enter Try.func14, Try.ntmps14
          go_wp2_with fail
          refine (hn _).mono ?_
          rintro e w' ⟨rfl, rfl⟩
          go_wp2_with fail
          refine (hm _).mono ?_
          rintro e w' ⟨rfl, rfl⟩
          go_wp2_with fail
          go_ret
          exact ⟨rfl, rfl⟩
end Go.Proofs.Ytopmbcfecaklhaa
