/- The fixed calls. -/
import Derived.Test.YtopmbcfecaklhaaU
namespace Go.Proofs.Ytopmbcfecaklhaa
open Go.RowKit Go.PlainAid Go.Sort Go.Lib

theorem cap_at (b : Nat) (k : Nat) (e : Int) (hb : b < 18446744073709551616) (h : capB b = k) (he : capE b = e) (w : World) :
    Calls Try.prog 11 #[.float .f64 b] w fun e' w' => e' = .returned (.tuple #[.int .i64 (k : Int), .int .i64 e]) ∧ w = w' := by
  rw [← h, ← he]; exact cap_any b w hb
theorem ratio_at (a b : Int) (r : Nat) (ha : a.natAbs ≤ 9223372036854775808) (hb : b.natAbs ≤ 9223372036854775808) (h : ratB a b = r) (w : World) :
    Calls Try.prog 17 #[.int .i64 a, .int .i64 b] w fun e w' => e = .returned (.float .f64 r) ∧ w = w' := by
  rw [← h]; exact ratio_any a b w ha hb
theorem kind_at (b : Nat) (k : Int) (hb : b < 18446744073709551616) (h : kindB b = k) (w : World) :
    Calls Try.prog 14 #[.float .f64 b] w fun e w' => e = .returned (.int .i64 k) ∧ w = w' := by
  rw [← h]; exact kind_any b w hb
theorem less_at (a b : Nat) (d : Bool) (ha : a < 18446744073709551616) (hb : b < 18446744073709551616) (h : decide (hgt a < hgt b) = d) (w : World) :
    Calls Try.prog 19 #[.float .f64 a, .float .f64 b] w fun e w' => e = .returned (.bool d) ∧ w = w' := by
  rw [← h]; exact less_any a b w ha hb

instance (xs : List Nat) (a b : Nat) : Decidable (Lex xs a b) := by unfold Lex; infer_instance
theorem rank_fixed : IsRank [4611686018427387904, 18442240474082181120, 0, 9223372036854775808] [1, 3, 2, 0] := by
  refine ⟨by decide, ?_⟩
  decide +kernel

theorem floats_new (w : World) : FloatsAt (w.alloc (.cells #[.float .f64 4611686018427387904, .float .f64 18442240474082181120, .float .f64 0, .float .f64 9223372036854775808] 22)) (.slice (some ⟨w.heap.size, 0, none⟩) 4 4) [4611686018427387904, 18442240474082181120, 0, 9223372036854775808] := by
  refine .inr ⟨w.heap.size, 0, 4, 4, rfl, rfl, by omega, by simp, by omega, fun i hi => ?_⟩
  have : i = 0 ∨ i = 1 ∨ i = 2 ∨ i = 3 := by omega
  rcases this with rfl | rfl | rfl | rfl <;> exact (World.cell?_alloc_at _ _ _ _ rfl).trans rfl
theorem ints_new (w : World) : IntsAt (w.alloc (.cells #[.int .i64 1, .int .i64 3, .int .i64 2, .int .i64 0] 3)) (.slice (some ⟨w.heap.size, 0, none⟩) 4 4) [1, 3, 2, 0] := by
  refine .inr ⟨w.heap.size, 0, 4, 4, rfl, rfl, by omega, by simp, by omega, fun i hi => ?_⟩
  have : i = 0 ∨ i = 1 ∨ i = 2 ∨ i = 3 := by omega
  rcases this with rfl | rfl | rfl | rfl <;> exact (World.cell?_alloc_at _ _ _ _ rfl).trans rfl

theorem intsAt_slice {w : World} {v : Value} {xs : List Int} (h : IntsAt w v xs) : ∃ a cap, v = .slice a xs.length cap := by
  rcases h with ⟨a, cap, rfl, rfl⟩ | ⟨b, off, len, cap, rfl, hl, -⟩
  · exact ⟨a, cap, rfl⟩
  · exact ⟨_, cap, by rw [hl]⟩

set_option maxHeartbeats 8000000 in
set_option maxRecDepth 100000 in
theorem fixed_any (w : World) :
    Calls Try.prog 24 #[] w fun e w' => e = .returned (.bool true) ∧ Below w.heap.size w w' := by
  have q1 : ((FloatKind.format .f64).order 4598175219545276416 4598175219545276416 == some .eq) = true := by decide +kernel
  go_enter Try.func24, Try.ntmps24
  simp only [List.append_eq, List.cons_append, List.nil_append]
  go_wp2_with fail
  refine (cap_at 4613712638259704627 2 0 (by decide) (by decide +kernel) (by decide +kernel) _).mono ?_
  rintro e w' ⟨rfl, rfl⟩
  go_wp2_with fail
  refine (cap_at 4602678819172646912 0 1 (by decide) (by decide +kernel) (by decide +kernel) _).mono ?_
  rintro e w' ⟨rfl, rfl⟩
  go_wp2_with fail
  refine (inf_plus _).mono ?_
  rintro e w' ⟨rfl, rfl⟩
  go_wp2_with fail
  refine (cap_at 9218868437227405312 20 0 (by decide) (by decide +kernel) (by decide +kernel) _).mono ?_
  rintro e w' ⟨rfl, rfl⟩
  go_wp2_with fail
  refine (none_any _).mono ?_
  rintro e w' ⟨rfl, rfl⟩
  go_wp2_with fail
  refine (cap_at 9221120237041090561 0 1 (by decide) (by decide +kernel) (by decide +kernel) _).mono ?_
  rintro e w' ⟨rfl, rfl⟩
  go_wp2_with fail
  refine (cap_at 4626463454704697344 20 0 (by decide) (by decide +kernel) (by decide +kernel) _).mono ?_
  rintro e w' ⟨rfl, rfl⟩
  go_wp2_with fail
  refine (cap_at 4607182418800017408 1 0 (by decide) (by decide +kernel) (by decide +kernel) _).mono ?_
  rintro e w' ⟨rfl, rfl⟩
  go_wp2_with fail
  refine (ratio_at (1) (4) 4598175219545276416 (by decide) (by decide) (by decide +kernel) _).mono ?_
  rintro e w' ⟨rfl, rfl⟩
  go_wp2_with fail
  refine (ratio_at (0) (0) 9221120237041090561 (by decide) (by decide) (by decide +kernel) _).mono ?_
  rintro e w' ⟨rfl, rfl⟩
  go_wp2_with fail
  refine (kind_at 9221120237041090561 0 (by decide) (by decide +kernel) _).mono ?_
  rintro e w' ⟨rfl, rfl⟩
  go_wp2_with fail
  refine (ratio_at (-3) (0) 18442240474082181120 (by decide) (by decide) (by decide +kernel) _).mono ?_
  rintro e w' ⟨rfl, rfl⟩
  go_wp2_with fail
  refine (kind_at 18442240474082181120 1 (by decide) (by decide +kernel) _).mono ?_
  rintro e w' ⟨rfl, rfl⟩
  go_wp2_with fail
  refine (ratio_at (3) (0) 9218868437227405312 (by decide) (by decide) (by decide +kernel) _).mono ?_
  rintro e w' ⟨rfl, rfl⟩
  go_wp2_with fail
  refine (kind_at 9218868437227405312 6 (by decide) (by decide +kernel) _).mono ?_
  rintro e w' ⟨rfl, rfl⟩
  go_wp2_with fail
  refine (none_any _).mono ?_
  rintro e w' ⟨rfl, rfl⟩
  go_wp2_with fail
  refine (kind_at 9221120237041090561 0 (by decide) (by decide +kernel) _).mono ?_
  rintro e w' ⟨rfl, rfl⟩
  go_wp2_with fail
  refine (minus_any _).mono ?_
  rintro e w' ⟨rfl, rfl⟩
  go_wp2_with fail
  refine (kind_at 9223372036854775808 3 (by decide) (by decide +kernel) _).mono ?_
  rintro e w' ⟨rfl, rfl⟩
  go_wp2_with fail
  refine (kind_at 0 4 (by decide) (by decide +kernel) _).mono ?_
  rintro e w' ⟨rfl, rfl⟩
  go_wp2_with fail
  refine (kind_at 13835058055282163712 2 (by decide) (by decide +kernel) _).mono ?_
  rintro e w' ⟨rfl, rfl⟩
  go_wp2_with fail
  refine (kind_at 4611686018427387904 5 (by decide) (by decide +kernel) _).mono ?_
  rintro e w' ⟨rfl, rfl⟩
  go_wp2_with fail
  refine (minus_any _).mono ?_
  rintro e w' ⟨rfl, rfl⟩
  go_wp2_with fail
  refine (less_at 9223372036854775808 0 true (by decide) (by decide) (by decide +kernel) _).mono ?_
  rintro e w' ⟨rfl, rfl⟩
  go_wp2_with fail
  refine (minus_any _).mono ?_
  rintro e w' ⟨rfl, rfl⟩
  go_wp2_with fail
  refine (less_at 0 9223372036854775808 false (by decide) (by decide) (by decide +kernel) _).mono ?_
  rintro e w' ⟨rfl, rfl⟩
  go_wp2_with fail
  refine (inf_plus _).mono ?_
  rintro e w' ⟨rfl, rfl⟩
  go_wp2_with fail
  refine (none_any _).mono ?_
  rintro e w' ⟨rfl, rfl⟩
  go_wp2_with fail
  refine (less_at 9218868437227405312 9221120237041090561 true (by decide) (by decide) (by decide +kernel) _).mono ?_
  rintro e w' ⟨rfl, rfl⟩
  go_wp2_with fail
  refine (inf_minus _).mono ?_
  rintro e w' ⟨rfl, rfl⟩
  go_wp2_with fail
  refine (minus_any _).mono ?_
  rintro e w' ⟨rfl, rfl⟩
  go_wp2_with fail
  refine (rank_any _ _ _ (floats_new w) (fun i => ?_) (by decide)).mono ?_
  · match i with
    | 0 | 1 | 2 | 3 => decide
    | i + 4 => simp
  rintro e w1 ⟨u, r, rfl, h1, h2, h3⟩
  obtain rfl := h1.unique rank_fixed
  obtain ⟨a, cp, rfl⟩ := intsAt_slice h2
  have H2 := Lib.hid h2
  have H3 := Lib.hid (below_step (by simp) ((Below.refl w.heap.size w).alloc (Nat.le_refl _) _) h3)
  clear h1 h2 h3
  go_wp2_with fail
  refine (rints_any _ _ [1, 3, 2, 0] [1, 3, 2, 0] _ (H2.out.below ((Below.refl _ _).alloc (Nat.le_refl _) _)) (ints_new _) (by decide) (by decide)).mono ?_
  rintro e w2 ⟨rfl, n, rfl⟩
  have H4 := Lib.hid (below_drewN (H3.out.alloc H3.out.size (.cells #[.int .i64 1, .int .i64 3, .int .i64 2, .int .i64 0] 3)) n)
  go_wp2_with fail
  go_ret
  exact ⟨by simp, H4.out⟩
end Go.Proofs.Ytopmbcfecaklhaa
