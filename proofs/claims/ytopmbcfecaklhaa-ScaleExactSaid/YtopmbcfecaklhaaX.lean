/- The walk of Caps. -/
import Derived.Test.YtopmbcfecaklhaaV
namespace Go.Proofs.Ytopmbcfecaklhaa
open Go.RowKit Go.PlainAid Go.Sort Go.Lib Ieee

def addB (k : Nat) : Nat := (double.add (bitsOf k) 4604930618986332160).getD 0
theorem small_caps : ∀ k : Nat, k < 20 → capB (bitsOf ((k + 1 : Nat) : Int)) = k + 1 ∧ bitsOf ((k + 1 : Nat) : Int) < 18446744073709551616 ∧ double.add (bitsOf ((k + 1 : Nat) : Int)) 4604930618986332160 = some (addB (k + 1)) ∧ capB (addB (k + 1)) = k + 1 ∧ addB (k + 1) < 18446744073709551616 := by decide +kernel

theorem leq_caps {a b : Nat} (h : ((FloatKind.format .f64).order a b == some .lt || (FloatKind.format .f64).order a b == some .eq) = true) (h0 : capB a ≠ 0) : capB b ≠ 0 ∧ capB a ≤ capB b := by
  rw [fmt_eq] at h
  have hk : rg a ≤ infR ∧ (U : Int) ≤ V a := by
    unfold capB at h0
    by_cases g : rg a ≤ infR ∧ (U : Int) ≤ V a
    · exact g
    · rw [if_neg g] at h0; omega
  by_cases c2 : infR < rg b
  · rw [order_nanr c2] at h; simp at h
  · rw [lss_num hk.1 (by omega), eql_num hk.1 (by omega)] at h
    have hv : V a ≤ V b := by
      simp at h
      omega
    have := capB_mono hk (by omega) hv
    have := (capB_ok hk).1
    omega

theorem capE_zero {b : Nat} (h : capB b ≠ 0) : capE b = 0 := by unfold capE; rw [if_neg h]
theorem capE_one {b : Nat} (h : capB b = 0) : capE b = 1 := by unfold capE; rw [if_pos h]
theorem capB_le (b : Nat) : capB b ≤ 20 := by
  unfold capB
  by_cases g : rg b ≤ infR ∧ (U : Int) ≤ V b
  · have := (capB_ok g).2
    unfold capB at this; exact this
  · rw [if_neg g]; omega

set_option maxHeartbeats 8000000 in
set_option maxRecDepth 100000 in
theorem walkScaleCaps (a b : Nat) (n : Int) (w : World) (wa : (Lit.float .f64 a).wf = true) (wb : (Lit.float .f64 b).wf = true) (wn : (Lit.int .u8 n).wf = true) :
    Calls Try.prog 6 #[.float .f64 a, .float .f64 b, .int .u8 n] w fun e w' => e = .returned (.bool true) ∧ Below w.heap.size w w' := by
  have ha : a < 18446744073709551616 := by simpa [Lit.wf] using wa
  have hb : b < 18446744073709551616 := by simpa [Lit.wf] using wb
  obtain ⟨m, rfl, hm⟩ : ∃ m : Nat, n = m ∧ m < 256 := by
    simp [Lit.wf, IntKind.min, IntKind.max, IntKind.bits, IntKind.signed] at wn
    exact ⟨n.toNat, by omega, by omega⟩
  clear wa wb wn
  have ca := Lib.hid (fun w => cap_any a w ha)
  have cb := Lib.hid (fun w => cap_any b w hb)
  have hle := @leq_caps a b
  have h20 := capB_le a
  obtain ⟨k, hk, hkk⟩ : ∃ k, k = m % 20 ∧ k < 20 := ⟨m % 20, rfl, by omega⟩
  have hr : (m : Int) % 20 = (k : Int) := by omega
  obtain ⟨c1, r, c2, hadd⟩ : (Hid (∀ w, Calls Try.prog 11 #[.float .f64 (floatOfInt .f64 ((k : Int) + 1))] w fun e' w' => e' = .returned (.tuple #[.int .i64 ((k : Int) + 1), .int .i64 0]) ∧ w = w')) ∧
      ∃ r, (Hid (∀ w, Calls Try.prog 11 #[.float .f64 r] w fun e' w' => e' = .returned (.tuple #[.int .i64 ((k : Int) + 1), .int .i64 0]) ∧ w = w')) ∧
      ∀ w, (binOp .add 22 (.float .f64 (floatOfInt .f64 ((k : Int) + 1))) (.float .f64 4604930618986332160)).run Try.prog w = .ok (.float .f64 r) w := by
    obtain ⟨s1, s2, s3, s4, s5⟩ := small_caps k hkk
    have e : ((k + 1 : Nat) : Int) = (k : Int) + 1 := by omega
    have c1 := fun w => cap_at _ (k + 1) 0 s2 s1 (by rw [capE_zero (by omega)]) w
    have c2 := fun w => cap_at _ (k + 1) 0 s5 s4 (by rw [capE_zero (by omega)]) w
    rw [e] at c1 c2 s3
    exact ⟨Lib.hid c1, _, Lib.hid c2, fun w => run_float_arith (P := Try.prog) w .add 22 .f64 _ _ _ (show floatBits .add .f64 (floatOfInt .f64 ((k : Int) + 1)) 4604930618986332160 = some (addB (k + 1)) from s3)⟩
  clear hk
  obtain ⟨Q, hQ⟩ : ∃ Q, ((FloatKind.format .f64).order a b == some .lt || (FloatKind.format .f64).order a b == some .eq) = Q := ⟨_, rfl⟩
  rw [hQ] at hle
  by_cases e0 : capB a = 0
  · have E := capE_one e0
    rw [e0, E, show ((0 : Nat) : Int) = 0 from rfl] at ca
    clear E hle e0 h20
    generalize capB b = y at *
    generalize capE b = z at *
    go_enter Try.func6, Try.ntmps6
    go_wp2_with fail
    refine (ca.out _).mono ?_
    rintro e w' ⟨rfl, rfl⟩
    go_wp2_with fail
    refine (cb.out _).mono ?_
    rintro e w' ⟨rfl, rfl⟩
    go_wp2_with fail
    refine (c1.out _).mono ?_
    rintro e w' ⟨rfl, rfl⟩
    go_wp2_with fail
    refine (c2.out _).mono ?_
    rintro e w' ⟨rfl, rfl⟩
    go_wp2_with fail
    refine (fixed_any _).mono ?_
    rintro e w1 ⟨rfl, hb1⟩
    have H := Lib.hid hb1
    clear hb1
    go_wp2_with fail
    go_ret
    exact ⟨by simp, H.out⟩
  · have E := capE_zero e0
    rw [E] at ca
    clear E
    cases Q
    · clear hle
      generalize capE b = z at *
      generalize capB a = x at *
      generalize capB b = y at *
      have x1 : ¬ (x : Int) < 1 := by omega
      have x2 : ¬ 20 < (x : Int) := by omega
      go_enter Try.func6, Try.ntmps6
      go_wp2_with fail
      refine (ca.out _).mono ?_
      rintro e w' ⟨rfl, rfl⟩
      go_wp2_with fail
      refine (cb.out _).mono ?_
      rintro e w' ⟨rfl, rfl⟩
      go_wp2_with fail
      refine (c1.out _).mono ?_
      rintro e w' ⟨rfl, rfl⟩
      go_wp2_with fail
      refine (c2.out _).mono ?_
      rintro e w' ⟨rfl, rfl⟩
      go_wp2_with fail
      refine (fixed_any _).mono ?_
      rintro e w1 ⟨rfl, hb1⟩
      have H := Lib.hid hb1
      clear hb1
      go_wp2_with fail
      go_ret
      exact ⟨by simp, H.out⟩
    · obtain ⟨y0, yx⟩ := hle rfl e0
      rw [capE_zero y0] at cb
      generalize capB a = x at *
      generalize capB b = y at *
      have x1 : ¬ (x : Int) < 1 := by omega
      have x2 : ¬ 20 < (x : Int) := by omega
      have x3 : ¬ (y : Int) < x := by omega
      go_enter Try.func6, Try.ntmps6
      go_wp2_with fail
      refine (ca.out _).mono ?_
      rintro e w' ⟨rfl, rfl⟩
      go_wp2_with fail
      refine (cb.out _).mono ?_
      rintro e w' ⟨rfl, rfl⟩
      go_wp2_with fail
      refine (c1.out _).mono ?_
      rintro e w' ⟨rfl, rfl⟩
      go_wp2_with fail
      refine (c2.out _).mono ?_
      rintro e w' ⟨rfl, rfl⟩
      go_wp2_with fail
      refine (fixed_any _).mono ?_
      rintro e w1 ⟨rfl, hb1⟩
      have H := Lib.hid hb1
      clear hb1
      go_wp2_with fail
      go_ret
      exact ⟨by simp, H.out⟩
end Go.Proofs.Ytopmbcfecaklhaa
