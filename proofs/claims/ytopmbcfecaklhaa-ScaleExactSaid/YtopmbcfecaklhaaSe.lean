/- The walk of ScaleExact. -/
import Derived.Test.YtopmbcfecaklhaaSr
import Derived.Test.YtopmbcfecaklhaaTells
namespace Go.Proofs.Ytopmbcfecaklhaa
open Go.RowKit Go.PlainAid Go.Sort Go.Lib Ieee

theorem and7 (x : Int) : bits .and .i64 x 7 = x % 8 := by
  show IntKind.i64.wrap (((BitVec.ofInt 64 x &&& BitVec.ofInt 64 7).toNat : Nat) : Int) = x % 8
  have e : (BitVec.ofInt 64 x &&& BitVec.ofInt 64 7).toNat = (x % 8).toNat := by
    rw [BitVec.toNat_and, BitVec.toNat_ofInt, BitVec.toNat_ofInt]
    have h7 : ((7 : Int) % ((2 ^ 64 : Nat) : Int)).toNat = 2 ^ 3 - 1 := by decide
    rw [h7, Nat.and_two_pow_sub_one_eq_mod]
    omega
  rw [e]
  have h : ((x % 8).toNat : Int) = x % 8 := by omega
  rw [h]
  have l : 0 ≤ x % 8 ∧ x % 8 < 8 := by omega
  generalize x % 8 = k at *
  rw [IntKind.wrap_i64]
  omega

theorem half_caps : ∀ k : Nat, k < 8 → ratB (2 * (k : Int) + 3) 2 < 18446744073709551616 ∧ capB (ratB (2 * (k : Int) + 3) 2) = k + 1 := by decide +kernel

theorem int_new (w : World) (x : Int) : IntsAt (w.alloc (.cells #[.int .i64 x] 3)) (.slice (some ⟨w.heap.size, 0, none⟩) 1 1) [x] := by
  refine .inr ⟨w.heap.size, 0, 1, 1, rfl, rfl, by omega, by simp, by omega, fun i hi => ?_⟩
  obtain rfl : i = 0 := by omega
  exact (World.cell?_alloc_at _ _ _ _ rfl).trans rfl

theorem mul_abs {x y : Int} (hx : x.natAbs < 67108864) (hy : y.natAbs < 67108864) : (x * y).natAbs < 4503599627370496 := by
  rw [Int.natAbs_mul]
  have h1 := Nat.mul_le_mul (show x.natAbs ≤ 67108863 by omega) (show y.natAbs ≤ 67108863 by omega)
  omega

set_option maxHeartbeats 400000 in
set_option maxRecDepth 100000 in
theorem walkScaleExact (a b : Int) (w : World) (_wa : (Lit.int .i32 a).wf = true) (_wb : (Lit.int .i32 b).wf = true) :
    Calls Try.prog 10 #[.int .i32 a, .int .i32 b] w fun e w' => e = .returned (.bool true) ∧ Below w.heap.size w w' := by
  obtain ⟨x, hex⟩ : ∃ x, (wrap64 a).tmod 67108864 = x := ⟨_, rfl⟩
  obtain ⟨y, hey⟩ : ∃ y, (wrap64 b).tmod 67108864 = y := ⟨_, rfl⟩
  have bx : x.natAbs < 67108864 := by rw [← hex]; exact tmod_abs _ 67108864 (by decide)
  have by_ : y.natAbs < 67108864 := by rw [← hey]; exact tmod_abs _ 67108864 (by decide)
  have h7 := and7 x
  obtain ⟨k, hk, hk8⟩ : ∃ k : Nat, x % 8 = k ∧ k < 8 := ⟨(x % 8).toNat, by omega, by omega⟩
  rw [hk] at h7
  clear hk
  obtain ⟨c1, c2⟩ := half_caps k hk8
  have R2 := Lib.hid (fun w => ratio_at (2 * (k : Int) + 3) 2 _ (by omega) (by decide) rfl w)
  have C2 := Lib.hid (fun w => cap_at (ratB (2 * (k : Int) + 3) 2) (k + 1) 0 c1 c2 (by rw [capE_zero (by omega)]) w)
  generalize ratB (2 * (k : Int) + 3) 2 = rr at *
  clear c1 c2
  by_cases y0 : y = 0
  · subst y0
    go_enter Try.func10, Try.ntmps10
    go_wp2_with fail
    refine (R2.out _).mono ?_
    rintro e w' ⟨rfl, rfl⟩
    go_wp2_with fail
    refine (C2.out _).mono ?_
    rintro e w' ⟨rfl, rfl⟩
    rw [show ((k + 1 : Nat) : Int) = (k : Int) + 1 by omega]
    have I1 := Lib.hid ((int_new w ((k : Int) + 1)).below ((Below.refl _ _).alloc (Nat.le_refl _) (.cells #[.int .i64 ((k : Int) + 1)] 3)))
    have i2 := int_new (w.alloc (.cells #[.int .i64 ((k : Int) + 1)] 3)) ((k : Int) + 1)
    rw [size_new] at i2
    have I2 := Lib.hid i2
    clear i2
    have H0 := Lib.hid (((Below.refl w.heap.size w).alloc (Nat.le_refl _) (.cells #[.int .i64 ((k : Int) + 1)] 3)).alloc (by simp) (.cells #[.int .i64 ((k : Int) + 1)] 3))
    go_wp2_with fail
    refine (rints_same _ _ [(k : Int) + 1] _ I1.out I2.out (by simp)).mono ?_
    rintro e w1 ⟨rfl, n, rfl⟩
    have H1 := Lib.hid (below_drewN H0.out n)
    go_wp2_with fail
    refine (fixed_any _).mono ?_
    rintro e w2 ⟨rfl, hb1⟩
    have H := Lib.hid (below_step H1.out.size H1.out hb1)
    clear hb1
    go_wp2_with fail
    go_ret
    exact ⟨rfl, H.out⟩
  · have ny : (y != 0) = true := by rw [bne_iff_ne]; omega
    by_cases x0 : x = 0
    · subst x0
      have Ra := Lib.hid (fun w => ratio_any 0 y w (by omega) (by omega))
      have Rb := Lib.hid (fun w => ratio_any 0 1 w (by omega) (by omega))
      have la := ratB_lt (a := 0) (b := y) (by omega) (by omega)
      have lb := ratB_lt (a := 0) (b := 1) (by omega) (by omega)
      have Sm := Lib.hid (fun w => same_any (ratB 0 y) (ratB 0 1) w la lb)
      generalize sameB (ratB 0 y) (ratB 0 1) = sb at *
      generalize ratB 0 y = r1 at *
      generalize ratB 0 1 = r2 at *
      cases sb
      · go_enter Try.func10, Try.ntmps10
        go_wp2_with fail
        refine (Ra.out _).mono ?_
        rintro e w' ⟨rfl, rfl⟩
        go_wp2_with fail
        refine (Rb.out _).mono ?_
        rintro e w' ⟨rfl, rfl⟩
        go_wp2_with fail
        refine (Sm.out _).mono ?_
        rintro e w' ⟨rfl, rfl⟩
        go_wp2_with fail
        refine (R2.out _).mono ?_
        rintro e w' ⟨rfl, rfl⟩
        go_wp2_with fail
        refine (C2.out _).mono ?_
        rintro e w' ⟨rfl, rfl⟩
        rw [show ((k + 1 : Nat) : Int) = (k : Int) + 1 by omega]
        have I1 := Lib.hid ((int_new w ((k : Int) + 1)).below ((Below.refl _ _).alloc (Nat.le_refl _) (.cells #[.int .i64 ((k : Int) + 1)] 3)))
        have i2 := int_new (w.alloc (.cells #[.int .i64 ((k : Int) + 1)] 3)) ((k : Int) + 1)
        rw [size_new] at i2
        have I2 := Lib.hid i2
        clear i2
        have H0 := Lib.hid (((Below.refl w.heap.size w).alloc (Nat.le_refl _) (.cells #[.int .i64 ((k : Int) + 1)] 3)).alloc (by simp) (.cells #[.int .i64 ((k : Int) + 1)] 3))
        go_wp2_with fail
        refine (rints_same _ _ [(k : Int) + 1] _ I1.out I2.out (by simp)).mono ?_
        rintro e w1 ⟨rfl, n, rfl⟩
        have H1 := Lib.hid (below_drewN H0.out n)
        go_wp2_with fail
        refine (fixed_any _).mono ?_
        rintro e w2 ⟨rfl, hb1⟩
        have H := Lib.hid (below_step H1.out.size H1.out hb1)
        clear hb1
        go_wp2_with fail
        go_ret
        exact ⟨rfl, H.out⟩
      · go_enter Try.func10, Try.ntmps10
        go_wp2_with fail
        refine (Ra.out _).mono ?_
        rintro e w' ⟨rfl, rfl⟩
        go_wp2_with fail
        refine (Rb.out _).mono ?_
        rintro e w' ⟨rfl, rfl⟩
        go_wp2_with fail
        refine (Sm.out _).mono ?_
        rintro e w' ⟨rfl, rfl⟩
        go_wp2_with fail
        refine (R2.out _).mono ?_
        rintro e w' ⟨rfl, rfl⟩
        go_wp2_with fail
        refine (C2.out _).mono ?_
        rintro e w' ⟨rfl, rfl⟩
        rw [show ((k + 1 : Nat) : Int) = (k : Int) + 1 by omega]
        have I1 := Lib.hid ((int_new w ((k : Int) + 1)).below ((Below.refl _ _).alloc (Nat.le_refl _) (.cells #[.int .i64 ((k : Int) + 1)] 3)))
        have i2 := int_new (w.alloc (.cells #[.int .i64 ((k : Int) + 1)] 3)) ((k : Int) + 1)
        rw [size_new] at i2
        have I2 := Lib.hid i2
        clear i2
        have H0 := Lib.hid (((Below.refl w.heap.size w).alloc (Nat.le_refl _) (.cells #[.int .i64 ((k : Int) + 1)] 3)).alloc (by simp) (.cells #[.int .i64 ((k : Int) + 1)] 3))
        go_wp2_with fail
        refine (rints_same _ _ [(k : Int) + 1] _ I1.out I2.out (by simp)).mono ?_
        rintro e w1 ⟨rfl, n, rfl⟩
        have H1 := Lib.hid (below_drewN H0.out n)
        go_wp2_with fail
        refine (fixed_any _).mono ?_
        rintro e w2 ⟨rfl, hb1⟩
        have H := Lib.hid (below_step H1.out.size H1.out hb1)
        clear hb1
        go_wp2_with fail
        go_ret
        exact ⟨rfl, H.out⟩
    · have nx : (x != 0) = true := by rw [bne_iff_ne]; omega
      have hp := mul_abs bx by_
      obtain ⟨e1, e2⟩ := rat_exact x0 y0 (by omega)
      have lx := (V_bitsOf (n := x) (by omega)).2.2
      have Ra := Lib.hid (fun w => ratio_at (x * y) y _ (by omega) (by omega) e1 w)
      have Rb := Lib.hid (fun w => ratio_at x 1 _ (by omega) (by omega) e2 w)
      have Sm := Lib.hid (fun w => same_at (bitsOf x) (bitsOf x) w lx lx (by unfold sameB; simp))
      have hw : wrap64 (x * y) = x * y := by unfold wrap64; omega
      clear e1 e2 lx
      generalize bitsOf x = bb at *
      go_enter Try.func10, Try.ntmps10
      go_wp2_with fail
      refine (Ra.out _).mono ?_
      rintro e w' ⟨rfl, rfl⟩
      go_wp2_with fail
      refine (Rb.out _).mono ?_
      rintro e w' ⟨rfl, rfl⟩
      go_wp2_with fail
      refine (Sm.out _).mono ?_
      rintro e w' ⟨rfl, rfl⟩
      go_wp2_with fail
      refine (R2.out _).mono ?_
      rintro e w' ⟨rfl, rfl⟩
      go_wp2_with fail
      refine (C2.out _).mono ?_
      rintro e w' ⟨rfl, rfl⟩
      rw [show ((k + 1 : Nat) : Int) = (k : Int) + 1 by omega]
      have I1 := Lib.hid ((int_new w ((k : Int) + 1)).below ((Below.refl _ _).alloc (Nat.le_refl _) (.cells #[.int .i64 ((k : Int) + 1)] 3)))
      have i2 := int_new (w.alloc (.cells #[.int .i64 ((k : Int) + 1)] 3)) ((k : Int) + 1)
      rw [size_new] at i2
      have I2 := Lib.hid i2
      clear i2
      have H0 := Lib.hid (((Below.refl w.heap.size w).alloc (Nat.le_refl _) (.cells #[.int .i64 ((k : Int) + 1)] 3)).alloc (by simp) (.cells #[.int .i64 ((k : Int) + 1)] 3))
      go_wp2_with fail
      refine (rints_same _ _ [(k : Int) + 1] _ I1.out I2.out (by simp)).mono ?_
      rintro e w1 ⟨rfl, n, rfl⟩
      have H1 := Lib.hid (below_drewN H0.out n)
      go_wp2_with fail
      refine (fixed_any _).mono ?_
      rintro e w2 ⟨rfl, hb1⟩
      have H := Lib.hid (below_step H1.out.size H1.out hb1)
      clear hb1
      go_wp2_with fail
      go_ret
      exact ⟨rfl, H.out⟩
end Go.Proofs.Ytopmbcfecaklhaa
