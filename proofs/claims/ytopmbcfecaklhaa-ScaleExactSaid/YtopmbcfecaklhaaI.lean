/- The document's sizes. -/
import Derived.Test.YtopmbcfecaklhaaH
namespace Go.Proofs.Ytopmbcfecaklhaa
open Go.RowKit Go.PlainAid Ieee

theorem geq_num {x y : Nat} (hx : rg x ≤ infR) (hy : rg y ≤ infR) : ((FloatKind.format .f64).order x y == some .gt || (FloatKind.format .f64).order x y == some .eq) = decide (V y ≤ V x) := by
  rw [fmt_eq, gtr_num hx hy, eql_num hx hy]
  by_cases g : V y ≤ V x
  · rw [decide_eq_true g]
    by_cases g2 : V y < V x
    · rw [decide_eq_true g2]; rfl
    · rw [decide_eq_true (show V x = V y by omega)]; simp
  · rw [decide_eq_false g, decide_eq_false (by omega), decide_eq_false (by omega)]; rfl

theorem geq_at {b : Nat} (h : rg b ≤ infR ∧ (U : Int) ≤ V b) (k : Nat) (hk : k ≤ 20) :
    ((FloatKind.format .f64).order b (floatOfInt .f64 (k : Int)) == some .gt || (FloatKind.format .f64).order b (floatOfInt .f64 (k : Int)) == some .eq) = decide (k ≤ capB b) := by
  obtain ⟨v1, v2, -⟩ := V_bitsOf (n := (k : Int)) (by omega)
  have e := geq_num (x := b) (y := bitsOf (k : Int)) h.1 (by omega)
  rw [v1] at e
  refine e.trans ?_
  congr 1
  simp only [eq_iff_iff]
  exact (capB_ge h k hk).symm

/-- Kind and size. -/
theorem kind_cap {b : Nat} (_hb : b < 18446744073709551616) : (kindB b ≤ 4 ∧ capB b = 0) ∨ (kindB b = 5 ∧ rg b ≤ infR ∧ V b < U ∧ capB b = 0) ∨ ((kindB b = 5 ∨ kindB b = 6) ∧ rg b ≤ infR ∧ (U : Int) ≤ V b) := by
  have hp := U_pos
  unfold kindB
  by_cases c1 : infR < rg b
  · rw [if_pos c1]
    exact .inl ⟨by omega, by unfold capB; rw [if_neg (by omega)]⟩
  · rw [if_neg c1]
    cases s : sg b
    · rw [if_neg (by simp)]
      by_cases c2 : rg b = infR
      · rw [if_pos c2]
        refine .inr (.inr ⟨.inr rfl, by omega, ?_⟩)
        have h1 := parts_20
        have h2 := mg_lt (show rg 4626322717216342016 < rg b by rw [c2]; exact h1.2)
        have h3 := (V_pos (x := 4626322717216342016) (by rw [h1.1]; omega)).2
        unfold V
        rw [s, if_neg (by simp)]
        omega
      · rw [if_neg c2]
        by_cases c3 : rg b = 0
        · rw [if_pos c3]
          refine .inl ⟨by omega, ?_⟩
          have : V b = 0 := by unfold V; rw [s, c3]; rfl
          unfold capB; rw [if_neg (by omega)]
        · rw [if_neg c3]
          by_cases c4 : V b < U
          · exact .inr (.inl ⟨rfl, by omega, c4, by unfold capB; rw [if_neg (by omega)]⟩)
          · exact .inr (.inr ⟨.inl rfl, by omega, by omega⟩)
    · rw [if_pos rfl]
      have : V b ≤ 0 := by unfold V; rw [s]; simp only [if_true]; omega
      refine .inl ⟨by split <;> (try split) <;> omega, ?_⟩
      unfold capB; rw [if_neg (by omega)]

set_option maxRecDepth 100000 in
set_option maxHeartbeats 1000000 in
theorem rcap_any (b : Nat) (w : World) (hb : b < 18446744073709551616) :
    Calls Try.prog 12 #[.float .f64 b] w fun e w' => e = .returned (.tuple #[.int .i64 (capB b), .int .i64 (capE b)]) ∧ w = w' := by
  have hn := rkind_any b w hb
  rcases kind_cap hb with ⟨h1, h2⟩ | ⟨h1, h2, h3, h4⟩ | ⟨h1, h2⟩
  · have he : capE b = 1 := by unfold capE; rw [if_pos h2]
    rw [h2, he]
    clear h2 he
    generalize kindB b = k at *
    go_enter Try.func12, Try.ntmps12
    go_wp2_with fail
    refine hn.mono ?_
    rintro e w' ⟨rfl, rfl⟩
    go_wp2_with fail
    go_ret2
    exact ⟨rfl, rfl⟩
  · have he : capE b = 1 := by unfold capE; rw [if_pos h4]
    have hl := lss_one h2
    rw [decide_eq_true h3] at hl
    rw [h4, he]
    rw [h1] at hn
    clear h4 he h3 h2 h1
    go_enter Try.func12, Try.ntmps12
    go_wp2_with fail
    refine hn.mono ?_
    rintro e w' ⟨rfl, rfl⟩
    go_wp2_with fail
    go_ret2
    exact ⟨rfl, rfl⟩
  · have hc := capB_ok h2
    have he : capE b = 0 := by unfold capE; rw [if_neg (by omega)]
    have hl := lss_one h2.1
    rw [decide_eq_false (by omega)] at hl
    have hg := fun k h => geq_at h2 k h
    rw [he]
    have k1 : ¬ kindB b ≤ 4 := by omega
    clear he h2 h1
    generalize kindB b = k at *
    generalize capB b = n at *
    have Hg := Lib.hid hg
    clear hg
    go_enter Try.func12, Try.ntmps12
    go_wp2_with fail
    refine hn.mono ?_
    rintro e w' ⟨rfl, rfl⟩
    by_cases k5 : k = 5
    · go_wp2_with fail
      go_loopw [5] (fun i wr => ∃ j : Nat, i = .int .i64 j ∧ 1 ≤ j ∧ j ≤ n ∧ wr = w) (fun i _ => 30 - (intOf i).toNat)
      case atStart => exact ⟨1, rfl, by omega, by omega, rfl⟩
      case round =>
        obtain ⟨j, rfl, j1, j2, rfl⟩ := hrel
        by_cases hlt : j + 1 ≤ n
        · have h := Hg.out (j + 1) (by omega)
          rw [decide_eq_true hlt] at h
          rw [show ((j + 1 : Nat) : Int) = (j : Int) + 1 by omega] at h
          go_wp2_with fail
          go_roundw
          case rel => exact ⟨j + 1, by go_num, by omega, hlt, trivial⟩
          case measure => simp [intOf]; omega
        · obtain rfl : n = j := by omega
          by_cases h20 : n < 20
          · have h := Hg.out (n + 1) (by omega)
            rw [decide_eq_false hlt] at h
            rw [show ((n + 1 : Nat) : Int) = (n : Int) + 1 by omega] at h
            go_wp2_with fail
            go_ret2
            exact ⟨rfl, rfl⟩
          · go_wp2_with fail
            go_ret2
            exact ⟨rfl, rfl⟩
    · have k5' : (k == 5) = false := by rw [beq_eq_false_iff_ne]; exact k5
      go_wp2_with fail
      go_loopw [5] (fun i wr => ∃ j : Nat, i = .int .i64 j ∧ 1 ≤ j ∧ j ≤ n ∧ wr = w) (fun i _ => 30 - (intOf i).toNat)
      case atStart => exact ⟨1, rfl, by omega, by omega, rfl⟩
      case round =>
        obtain ⟨j, rfl, j1, j2, rfl⟩ := hrel
        by_cases hlt : j + 1 ≤ n
        · have h := Hg.out (j + 1) (by omega)
          rw [decide_eq_true hlt] at h
          rw [show ((j + 1 : Nat) : Int) = (j : Int) + 1 by omega] at h
          go_wp2_with fail
          go_roundw
          case rel => exact ⟨j + 1, by go_num, by omega, hlt, trivial⟩
          case measure => simp [intOf]; omega
        · obtain rfl : n = j := by omega
          by_cases h20 : n < 20
          · have h := Hg.out (n + 1) (by omega)
            rw [decide_eq_false hlt] at h
            rw [show ((n + 1 : Nat) : Int) = (n : Int) + 1 by omega] at h
            go_wp2_with fail
            go_ret2
            exact ⟨rfl, rfl⟩
          · go_wp2_with fail
            go_ret2
            exact ⟨rfl, rfl⟩
end Go.Proofs.Ytopmbcfecaklhaa
