/- ScaleTells: its walk. -/
import Derived.Test.YtopmbcfecaklhaaX
namespace Go.Proofs.Ytopmbcfecaklhaa
open Go.RowKit Go.PlainAid Go.Sort Go.Lib Ieee
attribute [local go_sem ↓] Go.wp_at_zero Go.wp_at_succ

theorem rints_same (v u : Value) (xs : List Int) (w : World) (hv : IntsAt w v xs) (hu : IntsAt w u xs) (h1 : xs.length ≤ 1000000) :
    Calls Try.prog 21 #[v, u] w fun e w' => e = .returned (.bool true) ∧ ∃ n, w.drewN n = w' := by
  have := rints_any v u xs xs w hv hu h1 h1
  rw [show decide (xs = xs) = true by simp] at this
  exact this
theorem same_at (a b : Nat) (w : World) (ha : a < 18446744073709551616) (hb : b < 18446744073709551616) (h : sameB a b = true) :
    Calls Try.prog 16 #[.float .f64 a, .float .f64 b] w fun e w' => e = .returned (.bool true) ∧ w = w' := by
  rw [← h]; exact same_any a b w ha hb
theorem same_or {a c : Nat} (h : c = a ∨ (infR < rg c ∧ infR < rg a)) : sameB a c = true := by
  unfold sameB
  rcases h with rfl | ⟨h1, h2⟩
  · simp
  · have e1 : kindB c = 0 := by unfold kindB; rw [if_pos h1]
    have e2 : kindB a = 0 := by unfold kindB; rw [if_pos h2]
    rw [e1, e2]; rfl
theorem below_any_drewN (w : World) (n : Nat) : Below w.heap.size w (w.drewN n) := below_drewN (Below.refl _ _) n

/-- What is carried through. -/
def SIn (w wr : World) (A B : Int) (vl : Value) (xs : List Nat) : Prop :=
  Below w.heap.size w wr ∧ w.heap.size < wr.heap.size ∧ wr.cell? ⟨w.heap.size, 0, none⟩ = some (.int .i64 A) ∧ wr.cell? ⟨w.heap.size, 1, none⟩ = some (.int .i64 B) ∧ FloatsAt wr vl xs
theorem SIn.step {w wr w' : World} {A B : Int} {vl : Value} {xs : List Nat} (h : SIn w wr A B vl xs) (hb : Below wr.heap.size wr w') : SIn w w' A B vl xs := by
  obtain ⟨h1, h2, h3, h4, h5⟩ := h
  exact ⟨h1.trans (hb.mono (by omega)), by have := hb.size; omega, (hb.cell (by exact h2)).trans h3, (hb.cell (by exact h2)).trans h4, h5.below hb⟩
theorem SIn.start {w w1 : World} {A B : Int} {v vl : Value} {xs : List Nat} {T : TypeId} (hb : Below (w.heap.size + 1) (w.alloc (.cells #[.int .i64 A, .int .i64 B, v] T)) w1) (hf : FloatsAt w1 vl xs) : SIn w w1 A B vl xs := by
  have hs := hb.size
  rw [size_new] at hs
  refine ⟨((Below.refl _ _).alloc (Nat.le_refl _) _).trans (hb.mono (by omega)), by omega, ?_, ?_, hf⟩
  · exact (hb.cell (by show w.heap.size < _; omega)).trans ((World.cell?_alloc_at _ _ _ 0 rfl).trans rfl)
  · exact (hb.cell (by show w.heap.size < _; omega)).trans ((World.cell?_alloc_at _ _ _ 1 rfl).trans rfl)

set_option maxHeartbeats 16000000 in
set_option maxRecDepth 100000 in
theorem walkScaleTells (a b : Nat) (A B : Int) (v : Value) (l : List Nat) (w : World) (wa : (Lit.float .f64 a).wf = true) (wb : (Lit.float .f64 b).wf = true)
    (wA : (Lit.int .i64 A).wf = true) (wB : (Lit.int .i64 B).wf = true) (hv : BitsAt w v l) (hl : ∀ i, l.getD i 0 < 18446744073709551616) :
    Calls Try.prog 3 #[.float .f64 a, .float .f64 b, .agg #[.int .i64 A, .int .i64 B, v]] w fun e w' => e = .returned (.bool true) ∧ Below w.heap.size w w' := by
  have ha : a < 18446744073709551616 := by simpa [Lit.wf] using wa
  have hb : b < 18446744073709551616 := by simpa [Lit.wf] using wb
  have hA := int_abs wA
  have hB := int_abs wB
  clear wa wb wA wB
  obtain ⟨xs, hxs⟩ : ∃ xs, xs = l.take 20 := ⟨_, rfl⟩
  have hx : ∀ i, xs.getD i 0 < 18446744073709551616 := fun i => by
    rw [hxs]; simp only [List.getD, List.getElem?_take]
    by_cases g : i < 20
    · rw [if_pos g]; exact hl i
    · rw [if_neg g]; simp
  have hn : xs.length ≤ 1000000 := by rw [hxs, List.length_take]; omega
  have HV := Lib.hid hv
  have Hxs := Lib.hid hxs
  clear hv hl hxs
  obtain ⟨vs, vn, vc, rfl⟩ : ∃ vs vn vc, v = .slice vs vn vc := by
    rcases HV.out with ⟨p, q, h, -⟩ | ⟨p, q, r, s, h, -⟩
    · exact ⟨_, _, _, h⟩
    · exact ⟨_, _, _, h⟩
  have g1 := Lib.hid (fun w => kind_any a w ha)
  have g2 := Lib.hid (fun w => rkind_any a w ha)
  have g3 := Lib.hid (fun w => cap_any a w ha)
  have g4 := Lib.hid (fun w => rcap_any a w ha)
  have g5 := Lib.hid (fun w => ratio_any A B w hA hB)
  have g6 := Lib.hid (fun w => rratio_any A B w hA hB)
  have hq := ratB_lt hA hB
  have g7 := Lib.hid (fun c w hc h => same_at (ratB A B) c w hq hc (same_or h))
  have g8 := Lib.hid (fun w => less_any a b w ha hb)
  have g9 := Lib.hid (fun w => rless_any a b w ha hb)
  have g10 := Lib.hid (fun vl w h => rank_any vl xs w h hx hn)
  have g11 := Lib.hid (fun vl w h => rrank_any vl xs w h hx hn)
  have hrn : ∀ r, IsRank xs r → (r.map Int.ofNat).length ≤ 1000000 := fun r h => by
    have := h.1.length_eq
    simp at this; simp; omega
  have Hrn := Lib.hid hrn
  clear hrn hx hn hA hB hq
  generalize kindB a = K at *
  generalize (capB a : Int) = C at *
  generalize capE a = E at *
  generalize decide (hgt a < hgt b) = D at *
  have d1 : (K == K) = true := by simp
  have d2 : (C == C) = true := by simp
  have d3 : (E == E) = true := by simp
  have d4 : (D == D) = true := by simp
  have HV0 := Lib.hid (HV.out.below ((Below.refl _ _).alloc (Nat.le_refl _) (.cells #[.int .i64 A, .int .i64 B, .slice vs vn vc] 25)))
  go_enter Try.func3, Try.ntmps3
  go_wp2_with fail
  refine (g3.out _).mono ?_
  rintro e w' ⟨rfl, rfl⟩
  go_wp2_with fail
  refine (g4.out _).mono ?_
  rintro e w' ⟨rfl, rfl⟩
  go_wp2_with fail
  refine (floats_any _ l _ HV0.out).mono ?_
  rintro e w1 ⟨vl, rfl, hf, hb1⟩
  rw [← Hxs.out] at hf
  rw [size_new] at hb1
  have T0 := Lib.hid (SIn.start hb1 hf)
  have c0 := T0.out.2.2.1
  have c1 := T0.out.2.2.2.1
  clear hf hb1
  go_wp2_with fail
  clear g3 g4 ha hb HV0 HV Hxs
  go_region_held3 (fun w' => w'.cell? ⟨w.heap.size, 0, none⟩ = some (.int .i64 A) ∧ w'.cell? ⟨w.heap.size, 1, none⟩ = some (.int .i64 B)) (go_keep)
    (first
      | (go_at_call 14; refine (g1.out _).mono ?_; rintro e w2 ⟨rfl, rfl⟩)
      | (go_at_call 15; refine (g2.out _).mono ?_; rintro e w3 ⟨rfl, rfl⟩)
      | (go_at_call 17; refine (g5.out _).mono ?_; rintro e w4 ⟨rfl, rfl⟩)
      | (go_at_call 18; refine (g6.out _).mono ?_; rintro e w5 ⟨c, rfl, hc1, hc2, n5, rfl⟩; have T5 := Lib.hid (T0.out.step (below_any_drewN w1 (1 + n5))); have c50 := T5.out.2.2.1; have c51 := T5.out.2.2.2.1)
      | (go_at_call 16; refine (g7.out _ _ hc1 hc2).mono ?_; rintro e w6 ⟨rfl, rfl⟩)
      | (go_at_call 19; refine (g8.out _).mono ?_; rintro e w7 ⟨rfl, rfl⟩)
      | (go_at_call 20; refine (g9.out _).mono ?_; rintro e w8 ⟨rfl, rfl⟩)
      | (go_at_call 22; refine (g10.out _ _ T5.out.2.2.2.2).mono ?_; rintro e w9 ⟨u, r, rfl, hr, hi, hb⟩; have T9 := Lib.hid (T5.out.step hb); have c90 := T9.out.2.2.1; have c91 := T9.out.2.2.2.1; have R9 := Lib.hid hr; have I9 := Lib.hid hi; clear hb hr hi)
      | (go_at_call 23; refine (g11.out _ _ T9.out.2.2.2.2).mono ?_; rintro e w10 ⟨u2, r2, rfl, hr, hi, hb⟩; have T10 := Lib.hid (T9.out.step hb); have c100 := T10.out.2.2.1; have c101 := T10.out.2.2.2.1; obtain rfl := hr.unique R9.out; have I10 := Lib.hid (I9.out.below hb); have J10 := Lib.hid hi; clear hb hr hi)
      | (go_at_call 21; refine (rints_same _ _ _ _ I10.out J10.out (Hrn.out _ R9.out)).mono ?_; rintro e w11 ⟨rfl, n, rfl⟩; have T11 := Lib.hid (T10.out.step (below_any_drewN _ n)); have c110 := T11.out.2.2.1; have c111 := T11.out.2.2.2.1)
      | (go_at_call 24; refine (fixed_any _).mono ?_; rintro e w12 ⟨rfl, hb⟩; have T12 := Lib.hid (T11.out.step hb); have c120 := T12.out.2.2.1; have c121 := T12.out.2.2.2.1; clear hb))
  go_wp2_with fail
  go_ret
  exact ⟨rfl, T12.out.1⟩
end Go.Proofs.Ytopmbcfecaklhaa
