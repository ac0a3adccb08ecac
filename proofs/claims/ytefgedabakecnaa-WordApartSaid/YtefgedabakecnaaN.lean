/- The fixed calls. -/
import Derived.Test.YtefgedabakecnaaM
namespace Go.Proofs.Ytefgedabakecnaa
open Go.RowKit Go.PlainAid

theorem fx_a : getR ⟨#[120, 172, 2, 121]⟩ 1 = (0, 300, 3) := by decide +kernel
theorem fx_d : getR ⟨#[128, 0]⟩ 0 = (4, 0, 0) := by decide +kernel
theorem fx_e : getR ⟨#[128]⟩ 0 = (5, 0, 0) := by decide +kernel
theorem fx_f : getR ⟨#[255, 255, 255, 255, 8]⟩ 0 = (2, 0, 0) := by decide +kernel
theorem fx_g : getR ⟨#[255, 255, 255, 255, 135]⟩ 0 = (2, 0, 0) := by decide +kernel
theorem fx_h : getR ⟨#[255, 255, 255, 255, 7]⟩ 0 = (0, 2147483647, 5) := by decide +kernel
theorem fx_l : getR ⟨#[]⟩ 1 = (1, 0, 0) := by decide +kernel
theorem fx_m : allR ⟨#[5, 172, 2, 0]⟩ = (0, [5, 300, 0]) := by decide +kernel
theorem fx_o : takeR ⟨#[2, 97, 98, 99]⟩ 0 2 = (0, ⟨#[97, 98]⟩, 3) := by decide +kernel
theorem fx_r : takeR ⟨#[2, 97, 98, 99]⟩ 0 1 = (2, ⟨#[]⟩, 0) := by decide +kernel
theorem fx_s : takeR ⟨#[4, 97, 98, 99]⟩ 0 9 = (5, ⟨#[]⟩, 0) := by decide +kernel
theorem fx_5 : strB (putB 5) = ⟨#[5]⟩ := by decide +kernel
theorem fx_300 : strB (putB 300) = ⟨#[172, 2]⟩ := by decide +kernel
theorem fx_4 : strB (putB (-4)) = ⟨#[0]⟩ := by decide +kernel
theorem fx_31 : strB (putB 2147483648) = ⟨#[255, 255, 255, 255, 7]⟩ := by decide +kernel
theorem fx_t : strB (putB (ByteArray.size ⟨#[97, 98]⟩)) ++ ⟨#[97, 98]⟩ = ⟨#[2, 97, 98]⟩ := by decide +kernel

theorem get_at (s : ByteArray) (a : Int) (k n t : Int) (h : getR s a = (k, n, t)) (hs : s.size ≤ maxLen) (w : World) :
    Calls Try.prog 11 #[.string s, .int .i64 a] w fun e w' => e = .returned (.tuple #[.int .i64 n, .int .i64 t, .int .i64 k]) ∧ Below w.heap.size w w' := by
  have := get_any s a w hs
  rw [h] at this; exact this
theorem take_at (s : ByteArray) (a m : Int) (k : Int) (x : ByteArray) (t : Int) (h : takeR s a m = (k, x, t)) (hs : s.size ≤ 1000000) (w : World) :
    Calls Try.prog 15 #[.string s, .int .i64 a, .int .i64 m] w fun e w' => e = .returned (.tuple #[.string x, .int .i64 t, .int .i64 k]) ∧ Below w.heap.size w w' := by
  have := take_any s a m w hs
  rw [h] at this; exact this
theorem put_at (n : Int) (x : ByteArray) (h : strB (putB n) = x) (w : World) :
    Calls Try.prog 17 #[.int .i64 n] w fun e w' => e = .returned (.string x) ∧ Below w.heap.size w w' := by
  have := put_any n w
  rw [h] at this; exact this
theorem below_step {B : Nat} {w w1 w2 : World} (hB : B ≤ w1.heap.size) (h1 : Below B w w1) (h2 : Below w1.heap.size w1 w2) : Below B w w2 := h1.trans (h2.mono hB)

set_option maxHeartbeats 4000000 in
set_option maxRecDepth 100000 in
theorem fixed_any (w : World) :
    Calls Try.prog 24 #[] w fun e w' => e = .returned (.bool true) ∧ Below w.heap.size w w' := by
  go_enter Try.func24, Try.ntmps24
  go_wp2_with fail
  refine (get_at _ _ _ _ _ fx_a (by decide) _).mono ?_
  rintro e w1 ⟨rfl, hb1⟩
  have H1 := Lib.hid hb1
  have z1 := hb1.size
  clear hb1
  go_wp2_with fail
  refine (get_at _ _ _ _ _ fx_d (by decide) _).mono ?_
  rintro e w2 ⟨rfl, hb⟩
  have H2 := Lib.hid (below_step z1 H1.out hb)
  have z2 := H2.out.size
  clear hb H1 z1
  go_wp2_with fail
  refine (get_at _ _ _ _ _ fx_e (by decide) _).mono ?_
  rintro e w3 ⟨rfl, hb⟩
  have H3 := Lib.hid (below_step z2 H2.out hb)
  have z3 := H3.out.size
  clear hb H2 z2
  go_wp2_with fail
  refine (get_at _ _ _ _ _ fx_f (by decide) _).mono ?_
  rintro e w4 ⟨rfl, hb⟩
  have H4 := Lib.hid (below_step z3 H3.out hb)
  have z4 := H4.out.size
  clear hb H3 z3
  go_wp2_with fail
  refine (get_at _ _ _ _ _ fx_g (by decide) _).mono ?_
  rintro e w5 ⟨rfl, hb⟩
  have H5 := Lib.hid (below_step z4 H4.out hb)
  have z5 := H5.out.size
  clear hb H4 z4
  go_wp2_with fail
  refine (get_at _ _ _ _ _ fx_h (by decide) _).mono ?_
  rintro e w6 ⟨rfl, hb⟩
  have H6 := Lib.hid (below_step z5 H5.out hb)
  have z6 := H6.out.size
  clear hb H5 z5
  go_wp2_with fail
  refine (get_at _ _ _ _ _ fx_l (by decide) _).mono ?_
  rintro e w7 ⟨rfl, hb⟩
  have H7 := Lib.hid (below_step z6 H6.out hb)
  have z7 := H7.out.size
  clear hb H6 z6
  go_wp2_with fail
  refine (all_any _ _ (by decide)).mono ?_
  rintro e w8 ⟨v, rfl, hown, hb⟩
  rw [fx_m] at hown
  rw [fx_m]
  obtain ⟨ao, cap, rfl⟩ := owns_slice hown
  have hI := IntsAt.owns hown
  have hI2 := Lib.hid hI
  have H8 := Lib.hid (below_step z7 H7.out hb)
  have z8 := H8.out.size
  clear hb H7 z7 hI hown
  go_wp2_with fail
  refine (take_at _ _ _ _ _ _ fx_o (by decide) _).mono ?_
  rintro e w9 ⟨rfl, hb⟩
  have H9 := Lib.hid (below_step z8 H8.out hb)
  have z9 := H9.out.size
  have hI3 := Lib.hid (hI2.out.below hb)
  clear hb H8 z8 hI2
  go_wp2_with fail
  refine (take_at _ _ _ _ _ _ fx_r (by decide) _).mono ?_
  rintro e w10 ⟨rfl, hb⟩
  have H10 := Lib.hid (below_step z9 H9.out hb)
  have z10 := H10.out.size
  have hI4 := Lib.hid (hI3.out.below hb)
  clear hb H9 z9 hI3
  go_wp2_with fail
  refine (take_at _ _ _ _ _ _ fx_s (by decide) _).mono ?_
  rintro e w11 ⟨rfl, hb⟩
  have H11 := Lib.hid (below_step z10 H10.out hb)
  have z11 := H11.out.size
  have hI5 := Lib.hid (hI4.out.below hb)
  clear hb H10 z10 hI4
  go_wp2_with fail
  refine (put_at _ _ fx_5 _).mono ?_
  rintro e w12 ⟨rfl, hb⟩
  have H12 := Lib.hid (below_step z11 H11.out hb)
  have z12 := H12.out.size
  have hI6 := Lib.hid (hI5.out.below hb)
  clear hb H11 z11 hI5
  go_wp2_with fail
  refine (put_at _ _ fx_300 _).mono ?_
  rintro e w13 ⟨rfl, hb⟩
  have H13 := Lib.hid (below_step z12 H12.out hb)
  have z13 := H13.out.size
  have hI7 := Lib.hid (hI6.out.below hb)
  clear hb H12 z12 hI6
  go_wp2_with fail
  refine (put_at _ _ fx_4 _).mono ?_
  rintro e w14 ⟨rfl, hb⟩
  have H14 := Lib.hid (below_step z13 H13.out hb)
  have z14 := H14.out.size
  have hI8 := Lib.hid (hI7.out.below hb)
  clear hb H13 z13 hI7
  go_wp2_with fail
  refine (put_at _ _ fx_31 _).mono ?_
  rintro e w15 ⟨rfl, hb⟩
  have H15 := Lib.hid (below_step z14 H14.out hb)
  have z15 := H15.out.size
  have hI9 := Lib.hid (hI8.out.below hb)
  clear hb H14 z14 hI8
  go_wp2_with fail
  have hJ : IntsAt (w15.alloc (.cells #[.int .i64 5, .int .i64 300, .int .i64 0] 3)) (.slice (some ⟨w15.heap.size, 0, none⟩) 3 3) [5, 300, 0] := by
    refine .inr ⟨w15.heap.size, 0, 3, 3, rfl, rfl, by omega, by simp, by omega, ?_⟩
    intro i hi
    have : i = 0 ∨ i = 1 ∨ i = 2 := by omega
    rcases this with rfl | rfl | rfl <;> simp only [World.cell?, heap_alloc_new] <;> rfl
  refine (rints_any _ _ _ _ _ (hI9.out.below ((Below.refl _ _).alloc (Nat.le_refl _) _)) hJ (by decide) (by decide)).mono ?_
  rintro e w16 ⟨rfl, n, rfl⟩
  have H16 := Lib.hid ((H15.out.alloc z15 (.cells #[.int .i64 5, .int .i64 300, .int .i64 0] 3)).trans (below_drewN (Below.refl _ _) n))
  have hdec : decide (([5, 300, 0] : List Int) = [5, 300, 0]) = true := by decide
  go_wp2_with fail
  refine (text_any _ _ (by decide)).mono ?_
  rintro e w17 ⟨rfl, hb⟩
  rw [fx_t]
  have H17 := Lib.hid (below_step H16.out.size H16.out hb)
  go_wp2_with fail
  go_ret
  exact ⟨rfl, H17.out⟩
end Go.Proofs.Ytefgedabakecnaa
