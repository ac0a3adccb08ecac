/- The document's kinds and order; sizes. -/
import Derived.Test.YtopmbcfecaklhaaE
import Derived.Deep.Cut
namespace Go.Proofs.Ytopmbcfecaklhaa
open Go.RowKit Go.PlainAid Ieee

set_option maxRecDepth 100000 in
theorem rless_any (a b : Nat) (w : World) (ha : a < 18446744073709551616) (hb : b < 18446744073709551616) :
    Calls Try.prog 20 #[.float .f64 a, .float .f64 b] w fun e w' => e = .returned (.bool (decide (hgt a < hgt b))) ∧ w = w' := by
  have hh : decide (hgt a < hgt b) = if 9223372036854775808 ≤ (a : Int) then (if 9223372036854775808 ≤ (b : Int) then decide ((b : Int) < a) else true) else (if 9223372036854775808 ≤ (b : Int) then false else decide ((a : Int) < b)) := by
    unfold hgt
    rw [sg_iff ha, sg_iff hb]
    by_cases g1 : 9223372036854775808 ≤ (a : Int) <;> by_cases g2 : 9223372036854775808 ≤ (b : Int)
    · rw [if_pos g1, if_pos g2, decide_eq_true (show 9223372036854775808 ≤ a by omega), decide_eq_true (show 9223372036854775808 ≤ b by omega), if_pos rfl, if_pos rfl]
      congr 1; simp only [eq_iff_iff]; omega
    · rw [if_pos g1, if_neg g2, decide_eq_true (show 9223372036854775808 ≤ a by omega), decide_eq_false (show ¬ 9223372036854775808 ≤ b by omega), if_pos rfl, if_neg (by simp)]
      exact decide_eq_true (by omega)
    · rw [if_neg g1, if_pos g2, decide_eq_false (show ¬ 9223372036854775808 ≤ a by omega), decide_eq_true (show 9223372036854775808 ≤ b by omega), if_neg (by simp), if_pos rfl]
      exact decide_eq_false (by omega)
    · rw [if_neg g1, if_neg g2, decide_eq_false (show ¬ 9223372036854775808 ≤ a by omega), decide_eq_false (show ¬ 9223372036854775808 ≤ b by omega), if_neg (by simp), if_neg (by simp)]
      congr 1; simp only [eq_iff_iff]; omega
  rw [hh]
  clear hh
  by_cases g1 : 9223372036854775808 ≤ (a : Int) <;> by_cases g2 : 9223372036854775808 ≤ (b : Int)
  · rw [if_pos g1, if_pos g2]
    go_enter Try.func20, Try.ntmps20
    go_wp2_with fail
    go_ret
    exact ⟨by simp, rfl⟩
  · rw [if_pos g1, if_neg g2]
    go_enter Try.func20, Try.ntmps20
    go_wp2_with fail
    go_ret
    exact ⟨rfl, rfl⟩
  · rw [if_neg g1, if_pos g2]
    go_enter Try.func20, Try.ntmps20
    go_wp2_with fail
    go_ret
    exact ⟨rfl, rfl⟩
  · rw [if_neg g1, if_neg g2]
    go_enter Try.func20, Try.ntmps20
    go_wp2_with fail
    go_ret
    exact ⟨by simp, rfl⟩

set_option maxRecDepth 100000 in
set_option maxHeartbeats 1000000 in
theorem rkind_any (b : Nat) (w : World) (hb : b < 18446744073709551616) :
    Calls Try.prog 15 #[.float .f64 b] w fun e w' => e = .returned (.int .i64 (kindB b)) ∧ w = w' := by
  have hk : kindB b = if (b : Int) / 4503599627370496 % 2048 = 2047 then (if (b : Int) % 4503599627370496 = 0 then (if 9223372036854775808 ≤ (b : Int) then 1 else 6) else 0) else if (b : Int) / 4503599627370496 % 2048 = 0 ∧ (b : Int) % 4503599627370496 = 0 then (if 9223372036854775808 ≤ (b : Int) then 3 else 4) else (if 9223372036854775808 ≤ (b : Int) then 2 else 5) := by
    unfold kindB rg infR
    rw [sg_iff hb]
    by_cases g : 9223372036854775808 ≤ (b : Int)
    · rw [decide_eq_true (show 9223372036854775808 ≤ b by omega)]
      simp only [if_pos g, if_true]
      by_cases c1 : (b : Int) / 4503599627370496 % 2048 = 2047
      · rw [if_pos c1]
        by_cases c2 : (b : Int) % 4503599627370496 = 0
        · rw [if_pos c2, if_neg (by omega), if_pos (by omega)]
        · rw [if_neg c2, if_pos (by omega)]
      · rw [if_neg c1, if_neg (by omega), if_neg (by omega)]
        by_cases c2 : (b : Int) / 4503599627370496 % 2048 = 0 ∧ (b : Int) % 4503599627370496 = 0
        · rw [if_pos c2, if_pos (by omega)]
        · rw [if_neg c2, if_neg (by omega)]
    · rw [decide_eq_false (show ¬ 9223372036854775808 ≤ b by omega)]
      simp only [if_neg g, Bool.false_eq_true, if_false]
      by_cases c1 : (b : Int) / 4503599627370496 % 2048 = 2047
      · rw [if_pos c1]
        by_cases c2 : (b : Int) % 4503599627370496 = 0
        · rw [if_pos c2, if_neg (by omega), if_pos (by omega)]
        · rw [if_neg c2, if_pos (by omega)]
      · rw [if_neg c1, if_neg (by omega), if_neg (by omega)]
        by_cases c2 : (b : Int) / 4503599627370496 % 2048 = 0 ∧ (b : Int) % 4503599627370496 = 0
        · rw [if_pos c2, if_pos (by omega)]
        · rw [if_neg c2, if_neg (by omega)]
  rw [hk]
  clear hk
  have hL0 : 0 ≤ (b : Int) % 4503599627370496 := by omega
  by_cases c1 : (b : Int) / 4503599627370496 % 2048 = 2047
  · rw [if_pos c1]
    by_cases c2 : (b : Int) % 4503599627370496 = 0
    · rw [if_pos c2]
      by_cases g : 9223372036854775808 ≤ (b : Int)
      · rw [if_pos g]
        go_enter Try.func15, Try.ntmps15
        go_wp2_with fail
        go_ret
        exact ⟨rfl, rfl⟩
      · rw [if_neg g]
        go_enter Try.func15, Try.ntmps15
        go_wp2_with fail
        go_ret
        exact ⟨rfl, rfl⟩
    · rw [if_neg c2]
      have c3 : 0 < (b : Int) % 4503599627370496 := by omega
      go_enter Try.func15, Try.ntmps15
      go_wp2_with fail
      go_ret
      exact ⟨rfl, rfl⟩
  · rw [if_neg c1]
    have c1' : ((b : Int) / 4503599627370496 % 2048 == 2047) = false := by rw [beq_eq_false_iff_ne]; exact c1
    by_cases c2 : (b : Int) / 4503599627370496 % 2048 = 0
    · by_cases c3 : (b : Int) % 4503599627370496 = 0
      · rw [if_pos ⟨c2, c3⟩]
        by_cases g : 9223372036854775808 ≤ (b : Int)
        · rw [if_pos g]
          go_enter Try.func15, Try.ntmps15
          go_wp2_with fail
          go_ret
          exact ⟨rfl, rfl⟩
        · rw [if_neg g]
          go_enter Try.func15, Try.ntmps15
          go_wp2_with fail
          go_ret
          exact ⟨rfl, rfl⟩
      · rw [if_neg (fun h => c3 h.2)]
        have c3' : ((b : Int) % 4503599627370496 == 0) = false := by rw [beq_eq_false_iff_ne]; exact c3
        by_cases g : 9223372036854775808 ≤ (b : Int)
        · rw [if_pos g]
          go_enter Try.func15, Try.ntmps15
          go_wp2_with fail
          go_ret
          exact ⟨rfl, rfl⟩
        · rw [if_neg g]
          go_enter Try.func15, Try.ntmps15
          go_wp2_with fail
          go_ret
          exact ⟨rfl, rfl⟩
    · rw [if_neg (fun h => c2 h.1)]
      have c2' : ((b : Int) / 4503599627370496 % 2048 == 0) = false := by rw [beq_eq_false_iff_ne]; exact c2
      by_cases g : 9223372036854775808 ≤ (b : Int)
      · rw [if_pos g]
        go_enter Try.func15, Try.ntmps15
        go_wp2_with fail
        go_ret
        exact ⟨rfl, rfl⟩
      · rw [if_neg g]
        go_enter Try.func15, Try.ntmps15
        go_wp2_with fail
        go_ret
        exact ⟨rfl, rfl⟩

/-- The same number, bit for bit, or both none. -/
def sameB (a b : Nat) : Bool := (kindB a == 0 && kindB b == 0) || a == b

set_option maxRecDepth 100000 in
theorem same_any (a b : Nat) (w : World) (ha : a < 18446744073709551616) (hb : b < 18446744073709551616) :
    Calls Try.prog 16 #[.float .f64 a, .float .f64 b] w fun e w' => e = .returned (.bool (sameB a b)) ∧ w = w' := by
  unfold sameB
  have e : ((a : Int) == (b : Int)) = (a == b) := by
    by_cases h : a = b
    · subst h; simp
    · rw [beq_eq_false_iff_ne.2 h, beq_eq_false_iff_ne]; omega
  have ka := rkind_any a w ha
  have kb := rkind_any b w hb
  generalize kindB a = x at *
  generalize kindB b = y at *
  by_cases c1 : x = 0
  · subst c1
    by_cases c2 : y = 0
    · subst c2
      go_enter Try.func16, Try.ntmps16
      go_wp2_with fail
      refine ka.mono ?_
      rintro e w' ⟨rfl, rfl⟩
      go_wp2_with fail
      refine kb.mono ?_
      rintro e w' ⟨rfl, rfl⟩
      go_wp2_with fail
      go_ret
      exact ⟨by simp, rfl⟩
    · have c2' : (y == 0) = false := by rw [beq_eq_false_iff_ne]; exact c2
      go_enter Try.func16, Try.ntmps16
      go_wp2_with fail
      refine ka.mono ?_
      rintro e w' ⟨rfl, rfl⟩
      go_wp2_with fail
      refine kb.mono ?_
      rintro e w' ⟨rfl, rfl⟩
      go_wp2_with fail
      go_ret
      exact ⟨by simp [c2'], rfl⟩
  · have c1' : (x == 0) = false := by rw [beq_eq_false_iff_ne]; exact c1
    go_enter Try.func16, Try.ntmps16
    go_wp2_with fail
    refine ka.mono ?_
    rintro e w' ⟨rfl, rfl⟩
    go_wp2_with fail
    go_ret
    exact ⟨by simp [c1'], rfl⟩
end Go.Proofs.Ytopmbcfecaklhaa
