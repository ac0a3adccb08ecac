/- The walk of ScaleRatios. -/
import Derived.Test.YtopmbcfecaklhaaRat

namespace Go.Proofs.Ytopmbcfecaklhaa
open Go.RowKit Go.PlainAid Go.Sort Go.Lib Ieee

theorem tmod_abs (a k : Int) (hk : 0 < k) : (a.tmod k).natAbs < k.natAbs := by
  rw [Int.natAbs_tmod]
  exact Nat.mod_lt _ (by omega)

set_option maxHeartbeats 4000000 in
set_option maxRecDepth 100000 in
theorem walkScaleRatios (a b c : Int) (w : World) (_wa : (Lit.int .i64 a).wf = true) (_wb : (Lit.int .i64 b).wf = true) (_wc : (Lit.int .i64 c).wf = true) :
    Calls Try.prog 7 #[.int .i64 a, .int .i64 b, .int .i64 c] w fun e w' => e = .returned (.bool true) ∧ Below w.heap.size w w' := by
  obtain ⟨x, hex⟩ : ∃ x, a.tmod 4503599627370496 = x := ⟨_, rfl⟩
  obtain ⟨y, hey⟩ : ∃ y, b.tmod 4503599627370496 = y := ⟨_, rfl⟩
  obtain ⟨z, hez⟩ : ∃ z, c.tmod 4503599627370496 = z := ⟨_, rfl⟩
  have bx : x.natAbs < 4503599627370496 := by rw [← hex]; exact tmod_abs a 4503599627370496 (by decide)
  have by_ : y.natAbs < 4503599627370496 := by rw [← hey]; exact tmod_abs b 4503599627370496 (by decide)
  have bz : z.natAbs < 4503599627370496 := by rw [← hez]; exact tmod_abs c 4503599627370496 (by decide)
  have o1 : ((FloatKind.format .f64).order 4607182418800017408 4607182418800017408 == some .eq) = true := by decide +kernel
  have o2 : ((FloatKind.format .f64).order 4607182418800017408 4607182418800017408 != some .eq) = false := by decide +kernel
  by_cases x0 : x = 0
  · subst x0
    by_cases y0 : y = 0
    · subst y0
      have Rxx := Lib.hid (fun w => ratio_at 0 0 9221120237041090561 (by decide) (by decide) (by decide +kernel) w)
      have Kn := Lib.hid (fun w => kind_at 9221120237041090561 0 (by decide) (by decide +kernel) w)
      go_enter Try.func7, Try.ntmps7
      go_wp2_with fail
      refine (Rxx.out _).mono ?_
      rintro e w' ⟨rfl, rfl⟩
      go_wp2_with fail
      refine (Kn.out _).mono ?_
      rintro e w' ⟨rfl, rfl⟩
      go_wp2_with fail
      refine (fixed_any _).mono ?_
      rintro e w1 ⟨rfl, hb1⟩
      have H := Lib.hid hb1
      clear hb1
      go_wp2_with fail
      go_ret
      exact ⟨rfl, H.out⟩
    · have Rxx := Lib.hid (fun w => ratio_at 0 0 9221120237041090561 (by decide) (by decide) (by decide +kernel) w)
      have Kn := Lib.hid (fun w => kind_at 9221120237041090561 0 (by decide) (by decide +kernel) w)
      have ny : (y != 0) = true := by rw [bne_iff_ne]; omega
      have ny' : (y == 0) = false := by rw [beq_eq_false_iff_ne]; omega
      have Rxy := Lib.hid (fun w => ratio_any 0 y w (by omega) (by omega))
      have Rnn := Lib.hid (fun w => ratio_any 0 (-y) w (by omega) (by omega))
      have q1 : ((FloatKind.format .f64).order (ratB 0 y) (ratB 0 (-y)) == some .eq) = true := by have := rat_signs (x := 0) (y := y) (by decide) (by omega) (by omega); rwa [Int.neg_zero] at this
      have R0y := Lib.hid (fun w => ratio_any 0 y w (by omega) (by omega))
      have q3 := rat_null (y := y) (by omega) (by omega)
      go_enter Try.func7, Try.ntmps7
      go_wp2_with fail
      refine (Rxx.out _).mono ?_
      rintro e w' ⟨rfl, rfl⟩
      go_wp2_with fail
      refine (Kn.out _).mono ?_
      rintro e w' ⟨rfl, rfl⟩
      go_wp2_with fail
      refine (Rxy.out _).mono ?_
      rintro e w' ⟨rfl, rfl⟩
      go_wp2_with fail
      refine (Rnn.out _).mono ?_
      rintro e w' ⟨rfl, rfl⟩
      go_wp2_with fail
      refine (R0y.out _).mono ?_
      rintro e w' ⟨rfl, rfl⟩
      go_wp2_with fail
      refine (fixed_any _).mono ?_
      rintro e w1 ⟨rfl, hb1⟩
      have H := Lib.hid hb1
      clear hb1
      go_wp2_with fail
      go_ret
      exact ⟨rfl, H.out⟩
  · by_cases xp : 0 < x
    · by_cases y0 : y = 0
      · subst y0
        have Rxx := Lib.hid (fun w => ratio_at x x _ (by omega) (by omega) (rat_self (by omega) (by omega)) w)
        have nx : (x != 0) = true := by rw [bne_iff_ne]; omega
        have nx' : (x == 0) = false := by rw [beq_eq_false_iff_ne]; omega
        go_enter Try.func7, Try.ntmps7
        go_wp2_with fail
        refine (Rxx.out _).mono ?_
        rintro e w' ⟨rfl, rfl⟩
        go_wp2_with fail
        refine (fixed_any _).mono ?_
        rintro e w1 ⟨rfl, hb1⟩
        have H := Lib.hid hb1
        clear hb1
        go_wp2_with fail
        go_ret
        exact ⟨rfl, H.out⟩
      · by_cases yp : 0 < y
        · by_cases zy : y ≤ z
          · have Rxx := Lib.hid (fun w => ratio_at x x _ (by omega) (by omega) (rat_self (by omega) (by omega)) w)
            have nx : (x != 0) = true := by rw [bne_iff_ne]; omega
            have nx' : (x == 0) = false := by rw [beq_eq_false_iff_ne]; omega
            have ny : (y != 0) = true := by rw [bne_iff_ne]; omega
            have ny' : (y == 0) = false := by rw [beq_eq_false_iff_ne]; omega
            have Rxy := Lib.hid (fun w => ratio_any x y w (by omega) (by omega))
            have Rnn := Lib.hid (fun w => ratio_any (-x) (-y) w (by omega) (by omega))
            have q1 := rat_signs (x := x) (y := y) (by omega) (by omega) (by omega)
            have R0y := Lib.hid (fun w => ratio_any 0 y w (by omega) (by omega))
            have q3 := rat_null (y := y) (by omega) (by omega)
            have Rxz := Lib.hid (fun w => ratio_any x z w (by omega) (by omega))
            have q2 := rat_less (x := x) (y := y) (z := z) (by omega) (by omega) (by omega) (by omega) (by omega)
            go_enter Try.func7, Try.ntmps7
            go_wp2_with fail
            refine (Rxx.out _).mono ?_
            rintro e w' ⟨rfl, rfl⟩
            go_wp2_with fail
            refine (Rxy.out _).mono ?_
            rintro e w' ⟨rfl, rfl⟩
            go_wp2_with fail
            refine (Rnn.out _).mono ?_
            rintro e w' ⟨rfl, rfl⟩
            go_wp2_with fail
            refine (Rxz.out _).mono ?_
            rintro e w' ⟨rfl, rfl⟩
            go_wp2_with fail
            refine (Rxy.out _).mono ?_
            rintro e w' ⟨rfl, rfl⟩
            go_wp2_with fail
            refine (R0y.out _).mono ?_
            rintro e w' ⟨rfl, rfl⟩
            go_wp2_with fail
            refine (fixed_any _).mono ?_
            rintro e w1 ⟨rfl, hb1⟩
            have H := Lib.hid hb1
            clear hb1
            go_wp2_with fail
            go_ret
            exact ⟨rfl, H.out⟩
          · have Rxx := Lib.hid (fun w => ratio_at x x _ (by omega) (by omega) (rat_self (by omega) (by omega)) w)
            have nx : (x != 0) = true := by rw [bne_iff_ne]; omega
            have nx' : (x == 0) = false := by rw [beq_eq_false_iff_ne]; omega
            have ny : (y != 0) = true := by rw [bne_iff_ne]; omega
            have ny' : (y == 0) = false := by rw [beq_eq_false_iff_ne]; omega
            have Rxy := Lib.hid (fun w => ratio_any x y w (by omega) (by omega))
            have Rnn := Lib.hid (fun w => ratio_any (-x) (-y) w (by omega) (by omega))
            have q1 := rat_signs (x := x) (y := y) (by omega) (by omega) (by omega)
            have R0y := Lib.hid (fun w => ratio_any 0 y w (by omega) (by omega))
            have q3 := rat_null (y := y) (by omega) (by omega)
            go_enter Try.func7, Try.ntmps7
            go_wp2_with fail
            refine (Rxx.out _).mono ?_
            rintro e w' ⟨rfl, rfl⟩
            go_wp2_with fail
            refine (Rxy.out _).mono ?_
            rintro e w' ⟨rfl, rfl⟩
            go_wp2_with fail
            refine (Rnn.out _).mono ?_
            rintro e w' ⟨rfl, rfl⟩
            go_wp2_with fail
            refine (R0y.out _).mono ?_
            rintro e w' ⟨rfl, rfl⟩
            go_wp2_with fail
            refine (fixed_any _).mono ?_
            rintro e w1 ⟨rfl, hb1⟩
            have H := Lib.hid hb1
            clear hb1
            go_wp2_with fail
            go_ret
            exact ⟨rfl, H.out⟩
        · have Rxx := Lib.hid (fun w => ratio_at x x _ (by omega) (by omega) (rat_self (by omega) (by omega)) w)
          have nx : (x != 0) = true := by rw [bne_iff_ne]; omega
          have nx' : (x == 0) = false := by rw [beq_eq_false_iff_ne]; omega
          have ny : (y != 0) = true := by rw [bne_iff_ne]; omega
          have ny' : (y == 0) = false := by rw [beq_eq_false_iff_ne]; omega
          have Rxy := Lib.hid (fun w => ratio_any x y w (by omega) (by omega))
          have Rnn := Lib.hid (fun w => ratio_any (-x) (-y) w (by omega) (by omega))
          have q1 := rat_signs (x := x) (y := y) (by omega) (by omega) (by omega)
          have R0y := Lib.hid (fun w => ratio_any 0 y w (by omega) (by omega))
          have q3 := rat_null (y := y) (by omega) (by omega)
          go_enter Try.func7, Try.ntmps7
          go_wp2_with fail
          refine (Rxx.out _).mono ?_
          rintro e w' ⟨rfl, rfl⟩
          go_wp2_with fail
          refine (Rxy.out _).mono ?_
          rintro e w' ⟨rfl, rfl⟩
          go_wp2_with fail
          refine (Rnn.out _).mono ?_
          rintro e w' ⟨rfl, rfl⟩
          go_wp2_with fail
          refine (R0y.out _).mono ?_
          rintro e w' ⟨rfl, rfl⟩
          go_wp2_with fail
          refine (fixed_any _).mono ?_
          rintro e w1 ⟨rfl, hb1⟩
          have H := Lib.hid hb1
          clear hb1
          go_wp2_with fail
          go_ret
          exact ⟨rfl, H.out⟩
    · by_cases y0 : y = 0
      · subst y0
        have Rxx := Lib.hid (fun w => ratio_at x x _ (by omega) (by omega) (rat_self (by omega) (by omega)) w)
        have nx : (x != 0) = true := by rw [bne_iff_ne]; omega
        have nx' : (x == 0) = false := by rw [beq_eq_false_iff_ne]; omega
        go_enter Try.func7, Try.ntmps7
        go_wp2_with fail
        refine (Rxx.out _).mono ?_
        rintro e w' ⟨rfl, rfl⟩
        go_wp2_with fail
        refine (fixed_any _).mono ?_
        rintro e w1 ⟨rfl, hb1⟩
        have H := Lib.hid hb1
        clear hb1
        go_wp2_with fail
        go_ret
        exact ⟨rfl, H.out⟩
      · have Rxx := Lib.hid (fun w => ratio_at x x _ (by omega) (by omega) (rat_self (by omega) (by omega)) w)
        have nx : (x != 0) = true := by rw [bne_iff_ne]; omega
        have nx' : (x == 0) = false := by rw [beq_eq_false_iff_ne]; omega
        have ny : (y != 0) = true := by rw [bne_iff_ne]; omega
        have ny' : (y == 0) = false := by rw [beq_eq_false_iff_ne]; omega
        have Rxy := Lib.hid (fun w => ratio_any x y w (by omega) (by omega))
        have Rnn := Lib.hid (fun w => ratio_any (-x) (-y) w (by omega) (by omega))
        have q1 := rat_signs (x := x) (y := y) (by omega) (by omega) (by omega)
        have R0y := Lib.hid (fun w => ratio_any 0 y w (by omega) (by omega))
        have q3 := rat_null (y := y) (by omega) (by omega)
        go_enter Try.func7, Try.ntmps7
        go_wp2_with fail
        refine (Rxx.out _).mono ?_
        rintro e w' ⟨rfl, rfl⟩
        go_wp2_with fail
        refine (Rxy.out _).mono ?_
        rintro e w' ⟨rfl, rfl⟩
        go_wp2_with fail
        refine (Rnn.out _).mono ?_
        rintro e w' ⟨rfl, rfl⟩
        go_wp2_with fail
        refine (R0y.out _).mono ?_
        rintro e w' ⟨rfl, rfl⟩
        go_wp2_with fail
        refine (fixed_any _).mono ?_
        rintro e w1 ⟨rfl, hb1⟩
        have H := Lib.hid hb1
        clear hb1
        go_wp2_with fail
        go_ret
        exact ⟨rfl, H.out⟩
end Go.Proofs.Ytopmbcfecaklhaa
