/- Same of pieces: the program's, the document's. Written by gen_psame.py. -/
import Derived.Test.YtcopedhoepblpaaPkD
import Derived.BigQuiet
import Derived.Deep.CutRange
set_option linter.unusedSimpArgs false
set_option linter.unusedVariables false
set_option maxRecDepth 100000
namespace Go.Proofs.Ytcopedhoepblpaa
open Go.RowKit Go.PlainAid

def fnEqI : Value := .func (.func 38) #[] #[]
set_option maxHeartbeats 2000000 in
set_option maxRecDepth 100000 in
theorem eqIls_at (xs ys : List (List Int)) (r : Bool) (v1 v2 : Value) (w : World) (h1 : Has w v1 (dIls xs)) (h2 : Has w v2 (dIls ys)) (hn : xs.length ≤ 1000000) (hm : ∀ m ∈ xs, m.length ≤ 1000000) (hr : r = true ↔ xs = ys) :
    Calls Try.prog 41 #[v1, v2, fnEqI] w fun e w' => e = .returned (.bool r) ∧ Below w.heap.size w w' := by
  obtain ⟨a1, c1, ee⟩ := slice_of h1
  subst ee
  obtain ⟨a2, c2, ee⟩ := slice_of h2
  subst ee
  have H1 := Lib.hid h1
  have H2 := Lib.hid h2
  have HR := Lib.hid hr
  have HMM := Lib.hid hm
  unfold fnEqI
  by_cases hl : xs.length = ys.length
  · obtain ⟨n, hx⟩ : ∃ n, n = xs.length := ⟨_, rfl⟩
    have hy : n = ys.length := by rw [hx]; exact hl
    rw [← hx] at h1 hn ⊢
    rw [← hy] at h2 ⊢
    replace H1 := Lib.hid h1
    replace H2 := Lib.hid h2
    have HX := Lib.hid hx
    have HY := Lib.hid hy
    clear h1 h2 hr hl hx hy hm
    go_enter Try.func41, Try.ntmps41
    try simp only [List.append_eq, List.cons_append, List.nil_append]
    go_wp2_with fail
    go_loopw [17] (fun i wr => ∃ j : Nat, i = .int .i64 j ∧ j ≤ n ∧ xs.take j = ys.take j ∧ Below w.heap.size w wr) (fun i _ => n - (intOf i).toNat)
    case atStart => exact ⟨0, rfl, by omega, rfl, Below.refl _ _⟩
    case round =>
      obtain ⟨j, rfl, hj, heq, hb⟩ := hrel
      have BW := Lib.hid hb
      by_cases hlt : j < n
      · have hlt' : (j : Int) < n := by omega
        obtain ⟨x, hx⟩ := some_of_lt (l := xs) (i := j) (by rw [← HX.out]; exact hlt)
        obtain ⟨y, hy⟩ := some_of_lt (l := ys) (i := j) (by rw [← HY.out]; exact hlt)
        obtain ⟨b, o, ma, mc, e, _, e9, x1, hmx⟩ := ils_at (H1.out.later hb) hx
        clear e9
        subst e
        obtain ⟨b', o', ma', mc', e, _, e9, y1, hmy⟩ := ils_at (H2.out.later hb) hy
        clear e9
        subst e
        have GX := Lib.hid hx
        have GY := Lib.hid hy
        have EQ := Lib.hid heq
        have MX := Lib.hid hmx
        have MY := Lib.hid hmy
        obtain ⟨k1, hk1⟩ : ∃ k, k = x.length := ⟨_, rfl⟩
        obtain ⟨k2, hk2⟩ : ∃ k, k = y.length := ⟨_, rfl⟩
        rw [← hk1] at x1 hmx
        rw [← hk2] at y1 hmy
        replace MX := Lib.hid hmx
        replace MY := Lib.hid hmy
        obtain ⟨q, hq⟩ := bool_some (x = y)
        have HQ := Lib.hid hq
        clear hx hy heq hb hmx hmy hk1 hk2 hq
        go_wp2_with fail
        refine (eqInts_at x y q _ _ _ MX.out MY.out (HMM.out x (List.mem_of_getElem? GX.out)) HQ.out).mono ?_
        rintro e w5 ⟨rfl, hb⟩
        have BQ := Lib.hid (below_step' BW.out hb)
        clear hb
        cases q with
        | true =>
          go_wp2_with fail
          go_roundw
          case rel => exact ⟨j + 1, by go_num, by omega, take_next GX.out GY.out EQ.out (HQ.out.1 (by simp)), BQ.out⟩
          case measure => simp [intOf]; omega
        | false =>
          have hrf : r = false := by
            cases r with
            | false => rfl
            | true =>
              have e := HR.out.1 rfl
              have h := GX.out
              rw [e, GY.out] at h
              cases h
              have h := HQ.out.2 rfl; simp at h
          subst hrf
          go_wp2_with fail
          go_ret
          exact ⟨rfl, BQ.out⟩
      · obtain rfl : j = n := by omega
        have hj3 : ¬ (j : Int) < j := by omega
        have hrt : r = true := HR.out.2 (by
          have h := heq
          rw [List.take_of_length_le (by rw [HX.out]; exact Nat.le_refl _), List.take_of_length_le (by rw [HY.out]; exact Nat.le_refl _)] at h
          exact h)
        subst hrt
        clear heq hb
        go_wp2_with fail
        go_ret
        exact ⟨rfl, BW.out⟩
  · have hrf : r = false := by
      cases r with
      | false => rfl
      | true => exact absurd (congrArg List.length (hr.1 rfl)) hl
    subst hrf
    obtain ⟨n, hx⟩ : ∃ n, n = xs.length := ⟨_, rfl⟩
    obtain ⟨m, hy⟩ : ∃ n, n = ys.length := ⟨_, rfl⟩
    rw [← hx, ← hy] at hl ⊢
    have hl1 : ¬ (n : Int) = m := by omega
    have hl2 : ((n : Int) != m) = true := by simp; omega
    clear h1 h2 hr hx hy HR H1 H2 hn hm
    go_enter Try.func41, Try.ntmps41
    try simp only [List.append_eq, List.cons_append, List.nil_append]
    go_wp2_with fail
    go_ret
    exact ⟨rfl, Below.refl _ _⟩
set_option maxHeartbeats 4000000 in
theorem psame_at (p q : Pc) (r : Bool) (v1 v2 v3 u1 u2 u3 : Value) (w : World) (hp : HasL w [v1, v2, v3] p.d) (hq : HasL w [u1, u2, u3] q.d) (hs : SmallPc p) (hr : r = true ↔ p = q) :
    Calls Try.prog 17 #[pcv p v1 v2 v3, pcv q u1 u2 u3] w fun e w' => e = .returned (.bool r) ∧ Below w.heap.size w w' := by
  obtain ⟨a1, a2, a3, n1, n2, n3, e1, e2, e3, ee1, ee2, ee3⟩ := pc_slices hp
  subst ee1
  subst ee2
  subst ee3
  obtain ⟨b1, b2, b3, m1, m2, m3, f1, f2, f3, ee1, ee2, ee3⟩ := pc_slices hq
  subst ee1
  subst ee2
  subst ee3
  obtain ⟨c1, c2, c3⟩ := pc_has hp
  obtain ⟨d1, d2, d3⟩ := pc_has hq
  have C1 := Lib.hid c1
  have C2 := Lib.hid c2
  have C3 := Lib.hid c3
  have D1 := Lib.hid d1
  have D2 := Lib.hid d2
  have D3 := Lib.hid d3
  have N2 := Lib.hid (lls_len c2)
  have M2 := Lib.hid (lls_len d2)
  have N3 := Lib.hid (ils_len c3)
  have M3 := Lib.hid (ils_len d3)
  have HS := Lib.hid hs
  have HR := Lib.hid hr
  obtain ⟨x1, hx1⟩ := bool_some (p.sent = q.sent)
  obtain ⟨x2, hx2⟩ := bool_some (p.inn = q.inn)
  obtain ⟨x3, hx3⟩ := bool_some (p.out = q.out)
  have X1 := Lib.hid hx1
  have X2 := Lib.hid hx2
  have X3 := Lib.hid hx3
  obtain ⟨i0, hi0⟩ : ∃ m, m = p.node := ⟨_, rfl⟩
  obtain ⟨i1, hi1⟩ : ∃ m, m = p.state := ⟨_, rfl⟩
  obtain ⟨i2, hi2⟩ : ∃ m, m = p.steps := ⟨_, rfl⟩
  obtain ⟨j0, hj0⟩ : ∃ m, m = q.node := ⟨_, rfl⟩
  obtain ⟨j1, hj1⟩ : ∃ m, m = q.state := ⟨_, rfl⟩
  obtain ⟨j2, hj2⟩ : ∃ m, m = q.steps := ⟨_, rfl⟩
  unfold pcv
  rw [← hi0, ← hi1, ← hi2, ← hj0, ← hj1, ← hj2]
  have RR : Hid (r = true ↔ i0 = j0 ∧ i1 = j1 ∧ i2 = j2 ∧ p.sent = q.sent ∧ p.inn = q.inn ∧ p.out = q.out) := Lib.hid (by
    rw [hr, hi0, hi1, hi2, hj0, hj1, hj2]
    obtain ⟨s1, s2, s3, s4, s5, s6⟩ := p
    obtain ⟨t1, t2, t3, t4, t5, t6⟩ := q
    simp)
  clear hp hq c1 c2 c3 d1 d2 d3 hs hr hx1 hx2 hx3 hi0 hi1 hi2 hj0 hj1 hj2
  go_enter Try.func17, Try.ntmps17
  try simp only [List.append_eq, List.cons_append, List.nil_append]
  go_upto_region 1 with fail
  obtain ⟨y0, hy0⟩ : ∃ y, y = (w.alloc (.cells #[.int .i64 i0, .int .i64 i1, .int .i64 i2, .slice a1 n1 e1, .slice a2 n2 e2, .slice a3 n3 e3] 26)).alloc (.cells #[.int .i64 j0, .int .i64 j1, .int .i64 j2, .slice b1 m1 f1, .slice b2 m2 f2, .slice b3 m3 f3] 26) := ⟨_, rfl⟩
  have hb0 : Below w.heap.size w y0 := by rw [hy0]; exact below_step' (below_new _ _) (below_new _ _)
  have hx0 : BoxAt w.heap.size [.int .i64 i0, .int .i64 i1, .int .i64 i2, .slice a1 n1 e1, .slice a2 n2 e2, .slice a3 n3 e3] y0 := by rw [hy0]; exact (boxAt_new w [.int .i64 i0, .int .i64 i1, .int .i64 i2, .slice a1 n1 e1, .slice a2 n2 e2, .slice a3 n3 e3] _).below (below_new _ _)
  have hx1 : BoxAt (w.heap.size + 1) [.int .i64 j0, .int .i64 j1, .int .i64 j2, .slice b1 m1 f1, .slice b2 m2 f2, .slice b3 m3 f3] y0 := by
    have h := boxAt_new (w.alloc (.cells #[.int .i64 i0, .int .i64 i1, .int .i64 i2, .slice a1 n1 e1, .slice a2 n2 e2, .slice a3 n3 e3] 26)) [.int .i64 j0, .int .i64 j1, .int .i64 j2, .slice b1 m1 f1, .slice b2 m2 f2, .slice b3 m3 f3] 26
    rw [size_new] at h
    rw [hy0]; exact h
  have B0 := Lib.hid hb0
  have K0 := Lib.hid hx0
  have K1 := Lib.hid hx1
  rw [← hy0]
  obtain ⟨hw0, hhw⟩ : ∃ h, h = w.heap.size := ⟨_, rfl⟩
  rw [← hhw] at K0 K1 ⊢
  clear hy0 hb0 hx0 hx1 hhw
  have p0 := K0.out 0 _ rfl
  have q0 := K1.out 0 _ rfl
  have p1 := K0.out 1 _ rfl
  have q1 := K1.out 1 _ rfl
  have p2 := K0.out 2 _ rfl
  have q2 := K1.out 2 _ rfl
  have p3 := K0.out 3 _ rfl
  have q3 := K1.out 3 _ rfl
  by_cases h0 : i0 = j0
  · have g0 : (i0 == j0) = true := by simp [h0]
    have H0 := Lib.hid h0
    clear h0
    by_cases h1 : i1 = j1
    · have g1 : (i1 == j1) = true := by simp [h1]
      have H1 := Lib.hid h1
      clear h1
      by_cases h2 : i2 = j2
      · have g2 : (i2 == j2) = true := by simp [h2]
        have H2 := Lib.hid h2
        clear h2
        go_wp2_with fail
        refine (eqInts_at p.sent q.sent x1 _ _ _ (C1.out.later B0.out) (D1.out.later B0.out) HS.out.s X1.out).mono ?_
        rintro e w1 ⟨rfl, hb⟩
        have B1 := Lib.hid hb
        have BW1 := Lib.hid (below_step' B0.out hb)
        clear hb p0 q0 p1 q1 p2 q2 p3 q3
        have p4 := K0.out.below B1.out 4 _ rfl
        have q4 := K1.out.below B1.out 4 _ rfl
        cases x1 with
        | false =>
          obtain rfl : r = false := no_of RR.out (fun h => by have := X1.out.2 h.2.2.2.1; cases this)
          go_wp2_with fail
          go_ret
          exact ⟨rfl, BW1.out⟩
        | true =>
          go_wp2_with fail
          refine (eqLls_at p.inn q.inn x2 _ _ _ (C2.out.later BW1.out) (D2.out.later BW1.out) HS.out.i HS.out.im X2.out).mono ?_
          rintro e w2 ⟨rfl, hb⟩
          have B2 := Lib.hid (below_step' B1.out hb)
          have BW2 := Lib.hid (below_step' BW1.out hb)
          clear hb p4 q4
          have p5 := K0.out.below B2.out 5 _ rfl
          have q5 := K1.out.below B2.out 5 _ rfl
          cases x2 with
          | false =>
            obtain rfl : r = false := no_of RR.out (fun h => by have := X2.out.2 h.2.2.2.2.1; cases this)
            go_wp2_with fail
            go_ret
            exact ⟨rfl, BW2.out⟩
          | true =>
            go_wp2_with fail
            refine (eqIls_at p.out q.out x3 _ _ _ (C3.out.later BW2.out) (D3.out.later BW2.out) HS.out.o HS.out.om X3.out).mono ?_
            rintro e w3 ⟨rfl, hb⟩
            have BW3 := Lib.hid (below_step' BW2.out hb)
            clear hb p5 q5
            have hrx : r = x3 := by
              cases x3 with
              | true => exact RR.out.2 ⟨H0.out, H1.out, H2.out, X1.out.1 (by simp), X2.out.1 (by simp), X3.out.1 (by simp)⟩
              | false => exact no_of RR.out (fun h => by have := X3.out.2 h.2.2.2.2.2; cases this)
            subst hrx
            go_wp2_with fail
            go_ret
            exact ⟨rfl, BW3.out⟩
      · have g2 : (i2 == j2) = false := by simp [h2]
        obtain rfl : r = false := no_of RR.out (fun h => h2 h.2.2.1)
        clear h2
        go_wp2_with fail
        go_ret
        exact ⟨rfl, B0.out⟩
    · have g1 : (i1 == j1) = false := by simp [h1]
      obtain rfl : r = false := no_of RR.out (fun h => h1 h.2.1)
      clear h1
      go_wp2_with fail
      go_ret
      exact ⟨rfl, B0.out⟩
  · have g0 : (i0 == j0) = false := by simp [h0]
    obtain rfl : r = false := no_of RR.out (fun h => h0 h.1)
    clear h0
    go_wp2_with fail
    go_ret
    exact ⟨rfl, B0.out⟩
end Go.Proofs.Ytcopedhoepblpaa
