/- Right of a piece. -/
import Derived.Test.YtcopedhoepblpaaPkC
import Derived.Deep.CutRange
set_option linter.unusedSimpArgs false
set_option linter.unusedVariables false
set_option maxRecDepth 100000
namespace Go.Proofs.Ytcopedhoepblpaa
open Go.RowKit Go.PlainAid

/-- A piece as a value. -/
abbrev pcv (p : Pc) (v1 v2 v3 : Value) : Value := .agg #[.int .i64 p.node, .int .i64 p.state, .int .i64 p.steps, v1, v2, v3]
theorem pc_slices {w : World} {p : Pc} {v1 v2 v3 : Value} (h : HasL w [v1, v2, v3] p.d) : ∃ (a1 a2 a3 : Option Addr) (n1 n2 n3 e1 e2 e3 : Nat), v1 = .slice a1 n1 e1 ∧ v2 = .slice a2 n2 e2 ∧ v3 = .slice a3 n3 e3 := by
  obtain ⟨h1, h2, h3⟩ := pc_has h
  obtain ⟨a1, e1, rfl⟩ := slice_of h1
  obtain ⟨a2, e2, rfl⟩ := slice_of h2
  obtain ⟨a3, e3, rfl⟩ := slice_of h3
  exact ⟨_, _, _, _, _, _, _, _, _, rfl, rfl, rfl⟩
set_option maxHeartbeats 4000000 in
theorem right_at (p : Pc) (r : Bool) (v1 v2 v3 : Value) (w : World) (h : HasL w [v1, v2, v3] p.d) (hs : SmallPc p) (hr : r = okB p) :
    Calls Try.prog 15 #[pcv p v1 v2 v3] w fun e w' => e = .returned (.bool r) ∧ Below w.heap.size w w' := by
  obtain ⟨a1, a2, a3, n1, n2, n3, e1, e2, e3, ee1, ee2, ee3⟩ := pc_slices h
  subst ee1
  subst ee2
  subst ee3
  obtain ⟨c1, c2, c3⟩ := pc_has h
  have C1 := Lib.hid c1
  have C2 := Lib.hid c2
  have C3 := Lib.hid c3
  have HS := Lib.hid hs
  have HR := Lib.hid hr
  clear h c1 c2 c3 hs hr
  obtain ⟨m0, hm0⟩ : ∃ m, m = p.node := ⟨_, rfl⟩
  obtain ⟨m1, hm1⟩ : ∃ m, m = p.state := ⟨_, rfl⟩
  obtain ⟨m2, hm2⟩ : ∃ m, m = p.steps := ⟨_, rfl⟩
  unfold pcv
  rw [← hm0, ← hm1, ← hm2]
  have OK : Hid (r = (wi m0 0 5 && wi m1 0 7 && wi m2 0 2147483647 && sentsB p.sent && innB p.inn && outB p.out)) := Lib.hid (by rw [HR.out, hm0, hm1, hm2]; rfl)
  clear hm0 hm1 hm2
  go_enter Try.func15, Try.ntmps15
  try simp only [List.append_eq, List.cons_append, List.nil_append]
  go_upto_region 1 with fail
  obtain ⟨y0, hy0⟩ : ∃ y, y = w.alloc (.cells #[.int .i64 m0, .int .i64 m1, .int .i64 m2, .slice a1 n1 e1, .slice a2 n2 e2, .slice a3 n3 e3] 26) := ⟨_, rfl⟩
  have hb0 : Below w.heap.size w y0 := by rw [hy0]; exact below_new _ _
  have hx0 : BoxAt w.heap.size [.int .i64 m0, .int .i64 m1, .int .i64 m2, .slice a1 n1 e1, .slice a2 n2 e2, .slice a3 n3 e3] y0 := by rw [hy0]; exact boxAt_new w [.int .i64 m0, .int .i64 m1, .int .i64 m2, .slice a1 n1 e1, .slice a2 n2 e2, .slice a3 n3 e3] _
  have B0 := Lib.hid hb0
  have K0 := Lib.hid hx0
  rw [← hy0]
  clear hy0 hb0 hx0
  have p0 := K0.out 0 _ rfl
  have p1 := K0.out 1 _ rfl
  have p2 := K0.out 2 _ rfl
  have p3 := K0.out 3 _ rfl
  cases q0 : wi m0 0 5 with
  | false =>
    have Q0 := Lib.hid q0
    obtain rfl : r = false := by rw [OK.out, q0]; rfl
    clear q0
    go_wp2_with fail
    refine (within_at _ _ _ _).mono ?_
    rintro e w' ⟨rfl, rfl⟩
    rw [Q0.out]
    go_wp2_with fail
    go_ret
    exact ⟨rfl, B0.out⟩
  | true =>
    have Q0 := Lib.hid q0
    clear q0
    go_wp2_with fail
    refine (within_at _ _ _ _).mono ?_
    rintro e w' ⟨rfl, rfl⟩
    rw [Q0.out]
    cases q1 : wi m1 0 7 with
    | false =>
      have Q1 := Lib.hid q1
      obtain rfl : r = false := by rw [OK.out, q1, Q0.out]; rfl
      clear q1
      go_wp2_with fail
      refine (within_at _ _ _ _).mono ?_
      rintro e w' ⟨rfl, rfl⟩
      rw [Q1.out]
      go_wp2_with fail
      go_ret
      exact ⟨rfl, B0.out⟩
    | true =>
      have Q1 := Lib.hid q1
      clear q1
      go_wp2_with fail
      refine (within_at _ _ _ _).mono ?_
      rintro e w' ⟨rfl, rfl⟩
      rw [Q1.out]
      cases q2 : wi m2 0 2147483647 with
      | false =>
        have Q2 := Lib.hid q2
        obtain rfl : r = false := by rw [OK.out, q2, Q0.out, Q1.out]; rfl
        clear q2
        go_wp2_with fail
        refine (within_at _ _ _ _).mono ?_
        rintro e w' ⟨rfl, rfl⟩
        rw [Q2.out]
        go_wp2_with fail
        go_ret
        exact ⟨rfl, B0.out⟩
      | true =>
        have Q2 := Lib.hid q2
        clear q2
        go_wp2_with fail
        refine (within_at _ _ _ _).mono ?_
        rintro e w' ⟨rfl, rfl⟩
        rw [Q2.out]
        obtain ⟨q3, hq3⟩ : ∃ q, q = sentsB p.sent := ⟨_, rfl⟩
        have Q3 := Lib.hid hq3
        clear hq3
        go_wp2_with fail
        refine (arS_at p.sent _ 5 q3 _ (C1.out.later B0.out) HS.out.s Q3.out).mono ?_
        rintro e w1 ⟨rfl, hb⟩
        have B1 := Lib.hid hb
        have BW1 := Lib.hid (below_step' B0.out hb)
        clear hb p0 p1 p2 p3
        have p4 := K0.out.below B1.out 4 _ rfl
        cases q3 with
        | false =>
          obtain rfl : r = false := by rw [OK.out, Q0.out, Q1.out, Q2.out, ← Q3.out]; rfl
          go_wp2_with fail
          go_ret
          exact ⟨rfl, BW1.out⟩
        | true =>
          obtain ⟨q4, hq4⟩ : ∃ q, q = innB p.inn := ⟨_, rfl⟩
          have Q4 := Lib.hid hq4
          clear hq4
          go_wp2_with fail
          refine (arM_at p.inn _ 5 q4 _ (C2.out.later BW1.out) HS.out.i HS.out.im Q4.out).mono ?_
          rintro e w2 ⟨rfl, hb⟩
          have B2 := Lib.hid (below_step' B1.out hb)
          have BW2 := Lib.hid (below_step' BW1.out hb)
          clear hb p4
          have p5 := K0.out.below B2.out 5 _ rfl
          cases q4 with
          | false =>
            obtain rfl : r = false := by rw [OK.out, Q0.out, Q1.out, Q2.out, ← Q3.out, ← Q4.out]; rfl
            go_wp2_with fail
            go_ret
            exact ⟨rfl, BW2.out⟩
          | true =>
            obtain ⟨q5, hq5⟩ : ∃ q, q = outB p.out := ⟨_, rfl⟩
            have Q5 := Lib.hid hq5
            obtain rfl : r = q5 := by rw [OK.out, Q0.out, Q1.out, Q2.out, ← Q3.out, ← Q4.out, ← Q5.out]; rfl
            clear hq5
            go_wp2_with fail
            refine (arO_at p.out _ 5 r _ (C3.out.later BW2.out) HS.out.o HS.out.om Q5.out).mono ?_
            rintro e w3 ⟨rfl, hb⟩
            have BW3 := Lib.hid (below_step' BW2.out hb)
            clear hb p5
            go_wp2_with fail
            go_ret
            exact ⟨rfl, BW3.out⟩
end Go.Proofs.Ytcopedhoepblpaa
