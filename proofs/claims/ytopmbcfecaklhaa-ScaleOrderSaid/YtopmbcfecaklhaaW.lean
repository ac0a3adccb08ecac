/- The walks of the laws: Turned, Order. -/
import Derived.Test.YtopmbcfecaklhaaV
namespace Go.Proofs.Ytopmbcfecaklhaa
open Go.RowKit Go.PlainAid Go.Sort Go.Lib Ieee

theorem nat_of_u64 {p : Int} (h : (Lit.int .u64 p).wf = true) : ∃ n : Nat, p = n ∧ n < 18446744073709551616 := by
  simp [Lit.wf, IntKind.min, IntKind.max, IntKind.bits, IntKind.signed] at h
  exact ⟨p.toNat, by omega, by omega⟩

theorem kind_flip {b : Nat} (hb : b < 18446744073709551616) : 0 ≤ kindB b ∧ kindB b ≤ 6 ∧ ((kindB b = 0 ∧ kindB (Op.negFloat .f64 b) = 0) ∨ (kindB b ≠ 0 ∧ kindB (Op.negFloat .f64 b) = 7 - kindB b)) := by
  obtain ⟨n1, n2, -⟩ := neg63 hb
  unfold kindB
  rw [n1, n2]
  by_cases c1 : infR < rg b
  · simp only [if_pos c1]; simp
  · simp only [if_neg c1]
    cases s : sg b
    · simp only [Bool.not_false, Bool.false_eq_true, if_false, if_true]
      split <;> (try split) <;> simp
    · simp only [Bool.not_true, Bool.false_eq_true, if_false, if_true]
      split <;> (try split) <;> simp

theorem xor63 {b : Nat} (hb : b < 18446744073709551616) : (bits .xor .u64 (b : Int) 9223372036854775808).toNat = Op.negFloat .f64 b := by
  rw [show (9223372036854775808 : Int) = ((9223372036854775808 : Nat) : Int) from rfl, u64_xor_nat b 9223372036854775808 hb (by decide), Int.toNat_natCast]
  rfl

set_option maxHeartbeats 4000000 in
set_option maxRecDepth 100000 in
theorem walkScaleTurned (p : Int) (w : World) (wp : (Lit.int .u64 p).wf = true) :
    Calls Try.prog 8 #[.int .u64 p] w fun e w' => e = .returned (.bool true) ∧ Below w.heap.size w w' := by
  obtain ⟨n, rfl, hn⟩ := nat_of_u64 wp
  clear wp
  have hx := xor63 hn
  have k1 := fun w => kind_any n w hn
  have k2 := fun w => kind_any (Op.negFloat .f64 n) w (neg63 hn).2.2
  obtain ⟨a0, a6, hk⟩ := kind_flip hn
  generalize kindB (Op.negFloat .f64 n) = y at *
  generalize kindB n = x at *
  generalize Op.negFloat .f64 n = m at *
  have K1 := Lib.hid k1
  have K2 := Lib.hid k2
  clear k1 k2
  rcases hk with ⟨rfl, rfl⟩ | ⟨h0, rfl⟩
  · go_enter Try.func8, Try.ntmps8
    go_wp2_with fail
    refine (K1.out _).mono ?_
    rintro e w' ⟨rfl, rfl⟩
    go_wp2_with fail
    refine (K2.out _).mono ?_
    rintro e w' ⟨rfl, rfl⟩
    go_wp2_with fail
    refine (fixed_any _).mono ?_
    rintro e w1 ⟨rfl, hb⟩
    have H := Lib.hid hb
    clear hb
    go_wp2_with fail
    go_ret
    exact ⟨rfl, H.out⟩
  · have e1 : (x == 0) = false := by rw [beq_eq_false_iff_ne]; exact h0
    have e2 : (7 - x == 0) = false := by rw [beq_eq_false_iff_ne]; omega
    have e3 : (x + (7 - x) == 7) = true := by rw [beq_iff_eq]; omega
    go_enter Try.func8, Try.ntmps8
    go_wp2_with fail
    refine (K1.out _).mono ?_
    rintro e w' ⟨rfl, rfl⟩
    go_wp2_with fail
    refine (K2.out _).mono ?_
    rintro e w' ⟨rfl, rfl⟩
    go_wp2_with fail
    refine (fixed_any _).mono ?_
    rintro e w1 ⟨rfl, hb⟩
    have H := Lib.hid hb
    clear hb
    go_wp2_with fail
    go_ret
    exact ⟨rfl, H.out⟩

theorem less_is (a b : Nat) (d : Bool) (h : decide (hgt a < hgt b) = d) (ha : a < 18446744073709551616) (hb : b < 18446744073709551616) (w : World) :
    Calls Try.prog 19 #[.float .f64 a, .float .f64 b] w fun e w' => e = .returned (.bool d) ∧ w = w' := less_at a b d ha hb h w

/-- What is less stands ahead. -/
theorem float_less {a b : Nat} (ha : a < 18446744073709551616) (hb : b < 18446744073709551616) (h : ((FloatKind.format .f64).order a b == some .lt) = true) : hgt a < hgt b := by
  rw [fmt_eq] at h
  by_cases c1 : infR < rg a
  · rw [order_nanl c1] at h; simp at h
  · by_cases c2 : infR < rg b
    · rw [order_nanr c2] at h; simp at h
    · rw [lss_num (by omega) (by omega), decide_eq_true_iff] at h
      exact V_hgt ha hb h

/-- No number against infinity. -/
theorem nan_inf {a : Nat} (ha : a < 18446744073709551616) (h : kindB a = 0) : decide (hgt a < hgt 9218868437227405312) = decide ((9223372036854775808 : Int) ≤ a) := by
  have c1 : infR < rg a := by
    unfold kindB at h
    by_cases c : infR < rg a
    · exact c
    · rw [if_neg c] at h
      split at h <;> (split at h <;> (try split at h) <;> omega)
  have e : hgt 9218868437227405312 = 18442240474082181120 := by decide +kernel
  rw [e]
  unfold hgt rg infR at *
  rw [sg_iff ha]
  by_cases g : 9223372036854775808 ≤ a
  · rw [decide_eq_true g, if_pos rfl, decide_eq_true (by omega), decide_eq_true (by omega)]
  · rw [decide_eq_false g, if_neg (by simp), decide_eq_false (by omega), decide_eq_false (by omega)]

set_option maxHeartbeats 8000000 in
set_option maxRecDepth 100000 in
theorem walkScaleOrder (p q r : Int) (w : World) (wp : (Lit.int .u64 p).wf = true) (wq : (Lit.int .u64 q).wf = true) (wr : (Lit.int .u64 r).wf = true) :
    Calls Try.prog 4 #[.int .u64 p, .int .u64 q, .int .u64 r] w fun e w' => e = .returned (.bool true) ∧ Below w.heap.size w w' := by
  obtain ⟨a, rfl, ha⟩ := nat_of_u64 wp
  obtain ⟨b, rfl, hb⟩ := nat_of_u64 wq
  obtain ⟨c, rfl, hc⟩ := nat_of_u64 wr
  clear wp wq wr
  have hf := @float_less a b ha hb
  have hn := @nan_inf a ha
  have hk := fun w => kind_any a w ha
  have hi := @hgt_inj a b ha hb
  have Hk := Lib.hid hk
  clear hk
  obtain ⟨F, hF⟩ : ∃ F, ((FloatKind.format .f64).order a b == some .lt) = F := ⟨_, rfl⟩
  rw [hF] at hf
  generalize kindB a = x at *
  by_cases hab : a = b
  · subst hab
    have L1 := Lib.hid (less_is a a false (by simp) ha ha)
    have F0 : F = false := by
      cases F
      · rfl
      · have := hf rfl; omega
    subst F0
    clear hf hi
    by_cases hx : x = 0
    · subst hx
      have hn := hn rfl
      by_cases g : (9223372036854775808 : Int) ≤ a
      · have L5 := Lib.hid (less_is a 9218868437227405312 true (by rw [hn]; exact decide_eq_true g) ha (by decide))
        clear hn
        go_enter Try.func4, Try.ntmps4
        go_wp2_with fail
        refine (L1.out _).mono ?_
        rintro e w' ⟨rfl, rfl⟩
        go_wp2_with fail
        refine (L1.out _).mono ?_
        rintro e w' ⟨rfl, rfl⟩
        go_wp2_with fail
        refine (L1.out _).mono ?_
        rintro e w' ⟨rfl, rfl⟩
        go_wp2_with fail
        refine (L1.out _).mono ?_
        rintro e w' ⟨rfl, rfl⟩
        go_wp2_with fail
        refine (Hk.out _).mono ?_
        rintro e w' ⟨rfl, rfl⟩
        go_wp2_with fail
        refine (inf_plus _).mono ?_
        rintro e w' ⟨rfl, rfl⟩
        go_wp2_with fail
        refine (L5.out _).mono ?_
        rintro e w' ⟨rfl, rfl⟩
        go_wp2_with fail
        refine (fixed_any _).mono ?_
        rintro e w1 ⟨rfl, hb1⟩
        have H := Lib.hid hb1
        clear hb1
        go_wp2_with fail
        go_ret
        exact ⟨rfl, H.out⟩
      · have L5 := Lib.hid (less_is a 9218868437227405312 false (by rw [hn]; exact decide_eq_false g) ha (by decide))
        clear hn
        go_enter Try.func4, Try.ntmps4
        go_wp2_with fail
        refine (L1.out _).mono ?_
        rintro e w' ⟨rfl, rfl⟩
        go_wp2_with fail
        refine (L1.out _).mono ?_
        rintro e w' ⟨rfl, rfl⟩
        go_wp2_with fail
        refine (L1.out _).mono ?_
        rintro e w' ⟨rfl, rfl⟩
        go_wp2_with fail
        refine (L1.out _).mono ?_
        rintro e w' ⟨rfl, rfl⟩
        go_wp2_with fail
        refine (Hk.out _).mono ?_
        rintro e w' ⟨rfl, rfl⟩
        go_wp2_with fail
        refine (inf_plus _).mono ?_
        rintro e w' ⟨rfl, rfl⟩
        go_wp2_with fail
        refine (L5.out _).mono ?_
        rintro e w' ⟨rfl, rfl⟩
        go_wp2_with fail
        refine (fixed_any _).mono ?_
        rintro e w1 ⟨rfl, hb1⟩
        have H := Lib.hid hb1
        clear hb1
        go_wp2_with fail
        go_ret
        exact ⟨by simp; omega, H.out⟩
    · have hx' : (x != 0) = true := by rw [bne_iff_ne]; exact hx
      clear hn
      go_enter Try.func4, Try.ntmps4
      go_wp2_with fail
      refine (L1.out _).mono ?_
      rintro e w' ⟨rfl, rfl⟩
      go_wp2_with fail
      refine (L1.out _).mono ?_
      rintro e w' ⟨rfl, rfl⟩
      go_wp2_with fail
      refine (L1.out _).mono ?_
      rintro e w' ⟨rfl, rfl⟩
      go_wp2_with fail
      refine (L1.out _).mono ?_
      rintro e w' ⟨rfl, rfl⟩
      go_wp2_with fail
      refine (Hk.out _).mono ?_
      rintro e w' ⟨rfl, rfl⟩
      go_wp2_with fail
      refine (fixed_any _).mono ?_
      rintro e w1 ⟨rfl, hb1⟩
      have H := Lib.hid hb1
      clear hb1
      go_wp2_with fail
      go_ret
      exact ⟨rfl, H.out⟩
  · have n1 : ((a : Int) != (b : Int)) = true := by rw [bne_iff_ne]; omega
    have n2 : ((a : Int) == (b : Int)) = false := by rw [beq_eq_false_iff_ne]; omega
    by_cases h1 : hgt a < hgt b
    · have L1 := Lib.hid (less_is a b true (decide_eq_true h1) ha hb)
      have L2 := Lib.hid (less_is b a false (decide_eq_false (by omega)) hb ha)
      clear hf
      by_cases h3 : hgt b < hgt c
      · have L3 := Lib.hid (less_is b c true (decide_eq_true h3) hb hc)
        have L4 := Lib.hid (less_is a c true (decide_eq_true (by omega)) ha hc)
        clear h3 h1 hi
        cases F
        · by_cases hx : x = 0
          · subst hx
            have hn := hn rfl
            by_cases g : (9223372036854775808 : Int) ≤ a
            · have L5 := Lib.hid (less_is a 9218868437227405312 true (by rw [hn]; exact decide_eq_true g) ha (by decide))
              clear hn
              go_enter Try.func4, Try.ntmps4
              go_wp2_with fail
              refine (L1.out _).mono ?_
              rintro e w' ⟨rfl, rfl⟩
              go_wp2_with fail
              refine (L2.out _).mono ?_
              rintro e w' ⟨rfl, rfl⟩
              go_wp2_with fail
              refine (L1.out _).mono ?_
              rintro e w' ⟨rfl, rfl⟩
              go_wp2_with fail
              refine (L3.out _).mono ?_
              rintro e w' ⟨rfl, rfl⟩
              go_wp2_with fail
              refine (L4.out _).mono ?_
              rintro e w' ⟨rfl, rfl⟩
              go_wp2_with fail
              refine (Hk.out _).mono ?_
              rintro e w' ⟨rfl, rfl⟩
              go_wp2_with fail
              refine (inf_plus _).mono ?_
              rintro e w' ⟨rfl, rfl⟩
              go_wp2_with fail
              refine (L5.out _).mono ?_
              rintro e w' ⟨rfl, rfl⟩
              go_wp2_with fail
              refine (fixed_any _).mono ?_
              rintro e w1 ⟨rfl, hb1⟩
              have H := Lib.hid hb1
              clear hb1
              go_wp2_with fail
              go_ret
              exact ⟨rfl, H.out⟩
            · have L5 := Lib.hid (less_is a 9218868437227405312 false (by rw [hn]; exact decide_eq_false g) ha (by decide))
              clear hn
              go_enter Try.func4, Try.ntmps4
              go_wp2_with fail
              refine (L1.out _).mono ?_
              rintro e w' ⟨rfl, rfl⟩
              go_wp2_with fail
              refine (L2.out _).mono ?_
              rintro e w' ⟨rfl, rfl⟩
              go_wp2_with fail
              refine (L1.out _).mono ?_
              rintro e w' ⟨rfl, rfl⟩
              go_wp2_with fail
              refine (L3.out _).mono ?_
              rintro e w' ⟨rfl, rfl⟩
              go_wp2_with fail
              refine (L4.out _).mono ?_
              rintro e w' ⟨rfl, rfl⟩
              go_wp2_with fail
              refine (Hk.out _).mono ?_
              rintro e w' ⟨rfl, rfl⟩
              go_wp2_with fail
              refine (inf_plus _).mono ?_
              rintro e w' ⟨rfl, rfl⟩
              go_wp2_with fail
              refine (L5.out _).mono ?_
              rintro e w' ⟨rfl, rfl⟩
              go_wp2_with fail
              refine (fixed_any _).mono ?_
              rintro e w1 ⟨rfl, hb1⟩
              have H := Lib.hid hb1
              clear hb1
              go_wp2_with fail
              go_ret
              exact ⟨by simp; omega, H.out⟩
          · have hx' : (x != 0) = true := by rw [bne_iff_ne]; exact hx
            clear hn
            go_enter Try.func4, Try.ntmps4
            go_wp2_with fail
            refine (L1.out _).mono ?_
            rintro e w' ⟨rfl, rfl⟩
            go_wp2_with fail
            refine (L2.out _).mono ?_
            rintro e w' ⟨rfl, rfl⟩
            go_wp2_with fail
            refine (L1.out _).mono ?_
            rintro e w' ⟨rfl, rfl⟩
            go_wp2_with fail
            refine (L3.out _).mono ?_
            rintro e w' ⟨rfl, rfl⟩
            go_wp2_with fail
            refine (L4.out _).mono ?_
            rintro e w' ⟨rfl, rfl⟩
            go_wp2_with fail
            refine (Hk.out _).mono ?_
            rintro e w' ⟨rfl, rfl⟩
            go_wp2_with fail
            refine (fixed_any _).mono ?_
            rintro e w1 ⟨rfl, hb1⟩
            have H := Lib.hid hb1
            clear hb1
            go_wp2_with fail
            go_ret
            exact ⟨rfl, H.out⟩
        · by_cases hx : x = 0
          · subst hx
            have hn := hn rfl
            by_cases g : (9223372036854775808 : Int) ≤ a
            · have L5 := Lib.hid (less_is a 9218868437227405312 true (by rw [hn]; exact decide_eq_true g) ha (by decide))
              clear hn
              go_enter Try.func4, Try.ntmps4
              go_wp2_with fail
              refine (L1.out _).mono ?_
              rintro e w' ⟨rfl, rfl⟩
              go_wp2_with fail
              refine (L2.out _).mono ?_
              rintro e w' ⟨rfl, rfl⟩
              go_wp2_with fail
              refine (L1.out _).mono ?_
              rintro e w' ⟨rfl, rfl⟩
              go_wp2_with fail
              refine (L3.out _).mono ?_
              rintro e w' ⟨rfl, rfl⟩
              go_wp2_with fail
              refine (L4.out _).mono ?_
              rintro e w' ⟨rfl, rfl⟩
              go_wp2_with fail
              refine (L1.out _).mono ?_
              rintro e w' ⟨rfl, rfl⟩
              go_wp2_with fail
              refine (Hk.out _).mono ?_
              rintro e w' ⟨rfl, rfl⟩
              go_wp2_with fail
              refine (inf_plus _).mono ?_
              rintro e w' ⟨rfl, rfl⟩
              go_wp2_with fail
              refine (L5.out _).mono ?_
              rintro e w' ⟨rfl, rfl⟩
              go_wp2_with fail
              refine (fixed_any _).mono ?_
              rintro e w1 ⟨rfl, hb1⟩
              have H := Lib.hid hb1
              clear hb1
              go_wp2_with fail
              go_ret
              exact ⟨rfl, H.out⟩
            · have L5 := Lib.hid (less_is a 9218868437227405312 false (by rw [hn]; exact decide_eq_false g) ha (by decide))
              clear hn
              go_enter Try.func4, Try.ntmps4
              go_wp2_with fail
              refine (L1.out _).mono ?_
              rintro e w' ⟨rfl, rfl⟩
              go_wp2_with fail
              refine (L2.out _).mono ?_
              rintro e w' ⟨rfl, rfl⟩
              go_wp2_with fail
              refine (L1.out _).mono ?_
              rintro e w' ⟨rfl, rfl⟩
              go_wp2_with fail
              refine (L3.out _).mono ?_
              rintro e w' ⟨rfl, rfl⟩
              go_wp2_with fail
              refine (L4.out _).mono ?_
              rintro e w' ⟨rfl, rfl⟩
              go_wp2_with fail
              refine (L1.out _).mono ?_
              rintro e w' ⟨rfl, rfl⟩
              go_wp2_with fail
              refine (Hk.out _).mono ?_
              rintro e w' ⟨rfl, rfl⟩
              go_wp2_with fail
              refine (inf_plus _).mono ?_
              rintro e w' ⟨rfl, rfl⟩
              go_wp2_with fail
              refine (L5.out _).mono ?_
              rintro e w' ⟨rfl, rfl⟩
              go_wp2_with fail
              refine (fixed_any _).mono ?_
              rintro e w1 ⟨rfl, hb1⟩
              have H := Lib.hid hb1
              clear hb1
              go_wp2_with fail
              go_ret
              exact ⟨by simp; omega, H.out⟩
          · have hx' : (x != 0) = true := by rw [bne_iff_ne]; exact hx
            clear hn
            go_enter Try.func4, Try.ntmps4
            go_wp2_with fail
            refine (L1.out _).mono ?_
            rintro e w' ⟨rfl, rfl⟩
            go_wp2_with fail
            refine (L2.out _).mono ?_
            rintro e w' ⟨rfl, rfl⟩
            go_wp2_with fail
            refine (L1.out _).mono ?_
            rintro e w' ⟨rfl, rfl⟩
            go_wp2_with fail
            refine (L3.out _).mono ?_
            rintro e w' ⟨rfl, rfl⟩
            go_wp2_with fail
            refine (L4.out _).mono ?_
            rintro e w' ⟨rfl, rfl⟩
            go_wp2_with fail
            refine (L1.out _).mono ?_
            rintro e w' ⟨rfl, rfl⟩
            go_wp2_with fail
            refine (Hk.out _).mono ?_
            rintro e w' ⟨rfl, rfl⟩
            go_wp2_with fail
            refine (fixed_any _).mono ?_
            rintro e w1 ⟨rfl, hb1⟩
            have H := Lib.hid hb1
            clear hb1
            go_wp2_with fail
            go_ret
            exact ⟨rfl, H.out⟩
      · have L3 := Lib.hid (less_is b c false (decide_eq_false h3) hb hc)
        clear h3 h1 hi
        cases F
        · by_cases hx : x = 0
          · subst hx
            have hn := hn rfl
            by_cases g : (9223372036854775808 : Int) ≤ a
            · have L5 := Lib.hid (less_is a 9218868437227405312 true (by rw [hn]; exact decide_eq_true g) ha (by decide))
              clear hn
              go_enter Try.func4, Try.ntmps4
              go_wp2_with fail
              refine (L1.out _).mono ?_
              rintro e w' ⟨rfl, rfl⟩
              go_wp2_with fail
              refine (L2.out _).mono ?_
              rintro e w' ⟨rfl, rfl⟩
              go_wp2_with fail
              refine (L1.out _).mono ?_
              rintro e w' ⟨rfl, rfl⟩
              go_wp2_with fail
              refine (L3.out _).mono ?_
              rintro e w' ⟨rfl, rfl⟩
              go_wp2_with fail
              refine (Hk.out _).mono ?_
              rintro e w' ⟨rfl, rfl⟩
              go_wp2_with fail
              refine (inf_plus _).mono ?_
              rintro e w' ⟨rfl, rfl⟩
              go_wp2_with fail
              refine (L5.out _).mono ?_
              rintro e w' ⟨rfl, rfl⟩
              go_wp2_with fail
              refine (fixed_any _).mono ?_
              rintro e w1 ⟨rfl, hb1⟩
              have H := Lib.hid hb1
              clear hb1
              go_wp2_with fail
              go_ret
              exact ⟨rfl, H.out⟩
            · have L5 := Lib.hid (less_is a 9218868437227405312 false (by rw [hn]; exact decide_eq_false g) ha (by decide))
              clear hn
              go_enter Try.func4, Try.ntmps4
              go_wp2_with fail
              refine (L1.out _).mono ?_
              rintro e w' ⟨rfl, rfl⟩
              go_wp2_with fail
              refine (L2.out _).mono ?_
              rintro e w' ⟨rfl, rfl⟩
              go_wp2_with fail
              refine (L1.out _).mono ?_
              rintro e w' ⟨rfl, rfl⟩
              go_wp2_with fail
              refine (L3.out _).mono ?_
              rintro e w' ⟨rfl, rfl⟩
              go_wp2_with fail
              refine (Hk.out _).mono ?_
              rintro e w' ⟨rfl, rfl⟩
              go_wp2_with fail
              refine (inf_plus _).mono ?_
              rintro e w' ⟨rfl, rfl⟩
              go_wp2_with fail
              refine (L5.out _).mono ?_
              rintro e w' ⟨rfl, rfl⟩
              go_wp2_with fail
              refine (fixed_any _).mono ?_
              rintro e w1 ⟨rfl, hb1⟩
              have H := Lib.hid hb1
              clear hb1
              go_wp2_with fail
              go_ret
              exact ⟨by simp; omega, H.out⟩
          · have hx' : (x != 0) = true := by rw [bne_iff_ne]; exact hx
            clear hn
            go_enter Try.func4, Try.ntmps4
            go_wp2_with fail
            refine (L1.out _).mono ?_
            rintro e w' ⟨rfl, rfl⟩
            go_wp2_with fail
            refine (L2.out _).mono ?_
            rintro e w' ⟨rfl, rfl⟩
            go_wp2_with fail
            refine (L1.out _).mono ?_
            rintro e w' ⟨rfl, rfl⟩
            go_wp2_with fail
            refine (L3.out _).mono ?_
            rintro e w' ⟨rfl, rfl⟩
            go_wp2_with fail
            refine (Hk.out _).mono ?_
            rintro e w' ⟨rfl, rfl⟩
            go_wp2_with fail
            refine (fixed_any _).mono ?_
            rintro e w1 ⟨rfl, hb1⟩
            have H := Lib.hid hb1
            clear hb1
            go_wp2_with fail
            go_ret
            exact ⟨rfl, H.out⟩
        · by_cases hx : x = 0
          · subst hx
            have hn := hn rfl
            by_cases g : (9223372036854775808 : Int) ≤ a
            · have L5 := Lib.hid (less_is a 9218868437227405312 true (by rw [hn]; exact decide_eq_true g) ha (by decide))
              clear hn
              go_enter Try.func4, Try.ntmps4
              go_wp2_with fail
              refine (L1.out _).mono ?_
              rintro e w' ⟨rfl, rfl⟩
              go_wp2_with fail
              refine (L2.out _).mono ?_
              rintro e w' ⟨rfl, rfl⟩
              go_wp2_with fail
              refine (L1.out _).mono ?_
              rintro e w' ⟨rfl, rfl⟩
              go_wp2_with fail
              refine (L3.out _).mono ?_
              rintro e w' ⟨rfl, rfl⟩
              go_wp2_with fail
              refine (L1.out _).mono ?_
              rintro e w' ⟨rfl, rfl⟩
              go_wp2_with fail
              refine (Hk.out _).mono ?_
              rintro e w' ⟨rfl, rfl⟩
              go_wp2_with fail
              refine (inf_plus _).mono ?_
              rintro e w' ⟨rfl, rfl⟩
              go_wp2_with fail
              refine (L5.out _).mono ?_
              rintro e w' ⟨rfl, rfl⟩
              go_wp2_with fail
              refine (fixed_any _).mono ?_
              rintro e w1 ⟨rfl, hb1⟩
              have H := Lib.hid hb1
              clear hb1
              go_wp2_with fail
              go_ret
              exact ⟨rfl, H.out⟩
            · have L5 := Lib.hid (less_is a 9218868437227405312 false (by rw [hn]; exact decide_eq_false g) ha (by decide))
              clear hn
              go_enter Try.func4, Try.ntmps4
              go_wp2_with fail
              refine (L1.out _).mono ?_
              rintro e w' ⟨rfl, rfl⟩
              go_wp2_with fail
              refine (L2.out _).mono ?_
              rintro e w' ⟨rfl, rfl⟩
              go_wp2_with fail
              refine (L1.out _).mono ?_
              rintro e w' ⟨rfl, rfl⟩
              go_wp2_with fail
              refine (L3.out _).mono ?_
              rintro e w' ⟨rfl, rfl⟩
              go_wp2_with fail
              refine (L1.out _).mono ?_
              rintro e w' ⟨rfl, rfl⟩
              go_wp2_with fail
              refine (Hk.out _).mono ?_
              rintro e w' ⟨rfl, rfl⟩
              go_wp2_with fail
              refine (inf_plus _).mono ?_
              rintro e w' ⟨rfl, rfl⟩
              go_wp2_with fail
              refine (L5.out _).mono ?_
              rintro e w' ⟨rfl, rfl⟩
              go_wp2_with fail
              refine (fixed_any _).mono ?_
              rintro e w1 ⟨rfl, hb1⟩
              have H := Lib.hid hb1
              clear hb1
              go_wp2_with fail
              go_ret
              exact ⟨by simp; omega, H.out⟩
          · have hx' : (x != 0) = true := by rw [bne_iff_ne]; exact hx
            clear hn
            go_enter Try.func4, Try.ntmps4
            go_wp2_with fail
            refine (L1.out _).mono ?_
            rintro e w' ⟨rfl, rfl⟩
            go_wp2_with fail
            refine (L2.out _).mono ?_
            rintro e w' ⟨rfl, rfl⟩
            go_wp2_with fail
            refine (L1.out _).mono ?_
            rintro e w' ⟨rfl, rfl⟩
            go_wp2_with fail
            refine (L3.out _).mono ?_
            rintro e w' ⟨rfl, rfl⟩
            go_wp2_with fail
            refine (L1.out _).mono ?_
            rintro e w' ⟨rfl, rfl⟩
            go_wp2_with fail
            refine (Hk.out _).mono ?_
            rintro e w' ⟨rfl, rfl⟩
            go_wp2_with fail
            refine (fixed_any _).mono ?_
            rintro e w1 ⟨rfl, hb1⟩
            have H := Lib.hid hb1
            clear hb1
            go_wp2_with fail
            go_ret
            exact ⟨rfl, H.out⟩
    · have h2 : hgt b < hgt a := by
        have : ¬ hgt a = hgt b := fun h => hab (hi.1 h)
        omega
      have L1 := Lib.hid (less_is a b false (decide_eq_false h1) ha hb)
      have L2 := Lib.hid (less_is b a true (decide_eq_true h2) hb ha)
      have F0 : F = false := by
        cases F
        · rfl
        · have := hf rfl; omega
      subst F0
      clear hf hi h1 h2
      by_cases hx : x = 0
      · subst hx
        have hn := hn rfl
        by_cases g : (9223372036854775808 : Int) ≤ a
        · have L5 := Lib.hid (less_is a 9218868437227405312 true (by rw [hn]; exact decide_eq_true g) ha (by decide))
          clear hn
          go_enter Try.func4, Try.ntmps4
          go_wp2_with fail
          refine (L1.out _).mono ?_
          rintro e w' ⟨rfl, rfl⟩
          go_wp2_with fail
          refine (L2.out _).mono ?_
          rintro e w' ⟨rfl, rfl⟩
          go_wp2_with fail
          refine (L1.out _).mono ?_
          rintro e w' ⟨rfl, rfl⟩
          go_wp2_with fail
          refine (Hk.out _).mono ?_
          rintro e w' ⟨rfl, rfl⟩
          go_wp2_with fail
          refine (inf_plus _).mono ?_
          rintro e w' ⟨rfl, rfl⟩
          go_wp2_with fail
          refine (L5.out _).mono ?_
          rintro e w' ⟨rfl, rfl⟩
          go_wp2_with fail
          refine (fixed_any _).mono ?_
          rintro e w1 ⟨rfl, hb1⟩
          have H := Lib.hid hb1
          clear hb1
          go_wp2_with fail
          go_ret
          exact ⟨rfl, H.out⟩
        · have L5 := Lib.hid (less_is a 9218868437227405312 false (by rw [hn]; exact decide_eq_false g) ha (by decide))
          clear hn
          go_enter Try.func4, Try.ntmps4
          go_wp2_with fail
          refine (L1.out _).mono ?_
          rintro e w' ⟨rfl, rfl⟩
          go_wp2_with fail
          refine (L2.out _).mono ?_
          rintro e w' ⟨rfl, rfl⟩
          go_wp2_with fail
          refine (L1.out _).mono ?_
          rintro e w' ⟨rfl, rfl⟩
          go_wp2_with fail
          refine (Hk.out _).mono ?_
          rintro e w' ⟨rfl, rfl⟩
          go_wp2_with fail
          refine (inf_plus _).mono ?_
          rintro e w' ⟨rfl, rfl⟩
          go_wp2_with fail
          refine (L5.out _).mono ?_
          rintro e w' ⟨rfl, rfl⟩
          go_wp2_with fail
          refine (fixed_any _).mono ?_
          rintro e w1 ⟨rfl, hb1⟩
          have H := Lib.hid hb1
          clear hb1
          go_wp2_with fail
          go_ret
          exact ⟨by simp; omega, H.out⟩
      · have hx' : (x != 0) = true := by rw [bne_iff_ne]; exact hx
        clear hn
        go_enter Try.func4, Try.ntmps4
        go_wp2_with fail
        refine (L1.out _).mono ?_
        rintro e w' ⟨rfl, rfl⟩
        go_wp2_with fail
        refine (L2.out _).mono ?_
        rintro e w' ⟨rfl, rfl⟩
        go_wp2_with fail
        refine (L1.out _).mono ?_
        rintro e w' ⟨rfl, rfl⟩
        go_wp2_with fail
        refine (Hk.out _).mono ?_
        rintro e w' ⟨rfl, rfl⟩
        go_wp2_with fail
        refine (fixed_any _).mono ?_
        rintro e w1 ⟨rfl, hb1⟩
        have H := Lib.hid hb1
        clear hb1
        go_wp2_with fail
        go_ret
        exact ⟨rfl, H.out⟩
end Go.Proofs.Ytopmbcfecaklhaa
