/- Texts put together. -/
import Derived.Test.YtennbiajnkobnaaQ02
import Derived.Test.YtennbiajnkobnaaQ35
import Derived.Test.YtennbiajnkobnaaQ36
import Derived.Test.YtennbiajnkobnaaQ37
import Derived.Test.YtennbiajnkobnaaQ40
set_option linter.unusedSimpArgs false
set_option linter.unusedVariables false
namespace Go.Proofs.Ytennbiajnkobnaa
open Go.RowKit Go.PlainAid
theorem rints_at (xs ys : List Int) (r : Bool) (v u : Value) (w : World) (h1 : Has w v (dInts xs)) (h2 : Has w u (dInts ys)) (hn : xs.length ≤ 1000000) (hm : ys.length ≤ 1000000) (hr : r = true ↔ xs = ys) :
  Calls Try.prog 34 #[v, u] w fun e w' => e = .returned (.bool r) ∧ Below w.heap.size w w' := by
 refine (rints_any v u xs ys w h1.ints h2.ints hn hm).mono ?_
 rintro e w' ⟨rfl, n, rfl⟩
 refine ⟨?_, below_drewN (Below.refl _ w) n⟩
 have : decide (xs = ys) = r := by
  cases r with
  | true => simpa using hr.1 rfl
  | false => simp only [decide_eq_false_iff_not]; intro e; have := hr.2 e; cases this
 rw [this]
theorem no_of {r : Bool} {p : Prop} (hr : r = true ↔ p) (h : ¬ p) : r = false := by
 cases r with
 | false => rfl
 | true => exact absurd (hr.1 rfl) h
set_option maxHeartbeats 8000000 in
set_option maxRecDepth 100000 in
theorem rsame_at (c d : Cf) (r : Bool) (v1 v2 v3 u1 u2 u3 : Value) (w : World) (hc : HasL w [v1, v2, v3] c.d) (hd : HasL w [u1, u2, u3] d.d) (hs : SmallCf c) (hs' : SmallCf d) (hr : r = true ↔ c = d) :
  Calls Try.prog 16 #[.agg #[v1, v2, v3], .agg #[u1, u2, u3]] w fun e w' => e = .returned (.bool r) ∧ Below w.heap.size w w' := by
 obtain ⟨a1, a2, a3, n1, n2, n3, e1, e2, e3, ee1, ee2, ee3⟩ := cf_slices' hc
 subst ee1
 subst ee2
 subst ee3
 obtain ⟨b1, b2, b3, m1, m2, m3, f1, f2, f3, ee1, ee2, ee3⟩ := cf_slices' hd
 subst ee1
 subst ee2
 subst ee3
 obtain ⟨c1, c2, c3⟩ := cf_has hc
 obtain ⟨d1, d2, d3⟩ := cf_has hd
 obtain ⟨x1, hx1⟩ := bool_some (c.states = d.states)
 obtain ⟨x3, hx3⟩ := bool_some (c.sent = d.sent)
 have N2 := Lib.hid (lls_len c2)
 have M2 := Lib.hid (lls_len d2)
 have C1 := Lib.hid c1
 have C2 := Lib.hid c2
 have C3 := Lib.hid c3
 have D1 := Lib.hid d1
 have D2 := Lib.hid d2
 have D3 := Lib.hid d3
 have SC := Lib.hid hs
 have SD := Lib.hid hs'
 have hn2 : n2 ≤ 1000000 := by rw [N2.out]; exact hs.2.1
 have HR := Lib.hid hr
 have X1 := Lib.hid hx1
 have X3 := Lib.hid hx3
 clear hc hd hs hs' hr c1 c2 c3 d1 d2 d3 hx1 hx3
 go_enter Try.func16, Try.ntmps16
 try simp only [List.append_eq, List.cons_append, List.nil_append]
 go_upto_region 1 with fail
 obtain ⟨y0, hy0⟩ : ∃ y, y = (w.alloc (.cells #[.slice a1 n1 e1, .slice a2 n2 e2, .slice a3 n3 e3] 40)).alloc (.cells #[.slice b1 m1 f1, .slice b2 m2 f2, .slice b3 m3 f3] 40) := ⟨_, rfl⟩
 have hb0 : Below w.heap.size w y0 := by rw [hy0]; exact below_step' (below_new _ _) (below_new _ _)
 have hx0 : BoxAt w.heap.size [.slice a1 n1 e1, .slice a2 n2 e2, .slice a3 n3 e3] y0 := by rw [hy0]; exact (boxAt_new w [.slice a1 n1 e1, .slice a2 n2 e2, .slice a3 n3 e3] _).below (below_new _ _)
 have hx1 : BoxAt (w.heap.size + 1) [.slice b1 m1 f1, .slice b2 m2 f2, .slice b3 m3 f3] y0 := by
  have h := boxAt_new (w.alloc (.cells #[.slice a1 n1 e1, .slice a2 n2 e2, .slice a3 n3 e3] 40)) [.slice b1 m1 f1, .slice b2 m2 f2, .slice b3 m3 f3] 40
  rw [size_alloc] at h
  rw [hy0]; exact h
 have B0 := Lib.hid hb0
 have K0 := Lib.hid hx0
 have K1 := Lib.hid hx1
 rw [← hy0]
 obtain ⟨hw0, hhw⟩ : ∃ h, h = w.heap.size := ⟨_, rfl⟩
 rw [← hhw] at K0 K1 ⊢
 have HW := Lib.hid hhw
 clear hy0 hb0 hx0 hx1 hhw
 have p0 := K0.out 0 _ rfl
 have q0 := K1.out 0 _ rfl
 go_wp2_with fail
 refine (rints_at c.states d.states x1 _ _ _ (C1.out.later B0.out) (D1.out.later B0.out) SC.out.1 SD.out.1 X1.out).mono ?_
 rintro e w1 ⟨rfl, hb⟩
 have B1 := Lib.hid hb
 have BW1 := Lib.hid (below_step' B0.out hb)
 clear hb p0 q0
 cases x1 with
 | false =>
  obtain rfl : r = false := no_of HR.out (fun e => by have := X1.out.2 (congrArg Cf.states e); cases this)
  go_wp2_with fail
  go_ret
  exact ⟨rfl, BW1.out⟩
 | true =>
  have p2 := K0.out.below B1.out 2 _ rfl
  have q2 := K1.out.below B1.out 2 _ rfl
  go_wp2_with fail
  refine (rints_at c.sent d.sent x3 _ _ _ (C3.out.later BW1.out) (D3.out.later BW1.out) SC.out.2.2.1 SD.out.2.2.1 X3.out).mono ?_
  rintro e w2 ⟨rfl, hb⟩
  have B2 := Lib.hid (below_step' B1.out hb)
  have BW2 := Lib.hid (below_step' BW1.out hb)
  clear hb p2 q2
  cases x3 with
  | false =>
   obtain rfl : r = false := no_of HR.out (fun e => by have := X3.out.2 (congrArg Cf.sent e); cases this)
   go_wp2_with fail
   go_ret
   exact ⟨rfl, BW2.out⟩
  | true =>
   have p1 := K0.out.below B2.out 1 _ rfl
   have q1 := K1.out.below B2.out 1 _ rfl
   by_cases hl : n2 = m2
   ·have hl1 : ((n2 : Int) != (m2 : Int)) = false := by simp; omega
    have HLq := Lib.hid hl
    clear hl
    go_wp2_with fail
    obtain ⟨y2, hy2⟩ : ∃ y, y = w2 := ⟨_, rfl⟩
    rw [← hy2] at B2 BW2 ⊢
    clear hy2 p1 q1
    go_loopw [5] (fun i wr => ∃ j : Nat, i = .int .i64 j ∧ j ≤ n2 ∧ c.links.take j = d.links.take j ∧ Below y2.heap.size y2 wr) (fun i _ => n2 - (intOf i).toNat)
    case atStart => exact ⟨0, rfl, by omega, rfl, Below.refl _ _⟩
    case round =>
     obtain ⟨j, rfl, hj, heq, hb⟩ := hrel
     have BR := Lib.hid (below_step' B2.out hb)
     have BWR := Lib.hid (below_step' BW2.out hb)
     have p1 := K0.out.below BR.out 1 _ rfl
     by_cases hlt : j < n2
     ·have hlt' : (j : Int) < n2 := by omega
      obtain ⟨x, hx⟩ := some_of_lt (l := c.links) (i := j) (by rw [← N2.out]; exact hlt)
      obtain ⟨y, hy⟩ := some_of_lt (l := d.links) (i := j) (by rw [← M2.out, ← HLq.out]; exact hlt)
      obtain ⟨b, o, ma, mc, e, _, e9, z1, hmx⟩ := lls_at (C2.out.later BWR.out) hx
      clear e9
      subst e
      obtain ⟨b', o', ma', mc', e, _, e9, z2, hmy⟩ := lls_at (D2.out.later BWR.out) hy
      clear e9
      subst e
      have hltm : j < m2 := by rw [← HLq.out]; exact hlt
      have hltm' : (j : Int) < m2 := by omega
      have GX := Lib.hid hx
      have GY := Lib.hid hy
      have EQ := Lib.hid heq
      obtain ⟨k1, hk1⟩ : ∃ k, k = x.length := ⟨_, rfl⟩
      obtain ⟨k2, hk2⟩ : ∃ k, k = y.length := ⟨_, rfl⟩
      rw [← hk1] at z1 hmx
      rw [← hk2] at z2 hmy
      have MX := Lib.hid hmx
      have MY := Lib.hid hmy
      obtain ⟨q, hq⟩ := bool_some (x = y)
      have HQ := Lib.hid hq
      have q1 := K1.out.below BR.out 1 _ rfl
      have QS : Hid (∀ w', Below wr.heap.size wr w' → w'.cell? ⟨hw0, 1, none⟩ = some (.slice (some ⟨b, o, none⟩) n2 e2) ∧ w'.cell? ⟨hw0 + 1, 1, none⟩ = some (.slice (some ⟨b', o', none⟩) m2 f2) ∧ w'.cell? ⟨b, o + j, none⟩ = some (.slice ma k1 mc) ∧ w'.cell? ⟨b', o' + j, none⟩ = some (.slice ma' k2 mc')) := Lib.hid (fun w' hb => ⟨(hb.cell (World.block_lt_of_cell? wr _ p1)).trans p1, (hb.cell (World.block_lt_of_cell? wr _ q1)).trans q1, (hb.cell (World.block_lt_of_cell? wr _ z1)).trans z1, (hb.cell (World.block_lt_of_cell? wr _ z2)).trans z2⟩)
      clear hx hy heq hmx hmy hk1 hk2 hq z1 z2 q1
      go_wp2_with fail
      clear p1
      refine wp_region_held_drew (S := (fun w' => w'.cell? ⟨hw0, 1, none⟩ = some (.slice (some ⟨b, o, none⟩) n2 e2) ∧ w'.cell? ⟨hw0 + 1, 1, none⟩ = some (.slice (some ⟨b', o', none⟩) m2 f2) ∧ w'.cell? ⟨b, o + j, none⟩ = some (.slice ma k1 mc) ∧ w'.cell? ⟨b', o' + j, none⟩ = some (.slice ma' k2 mc'))) (by kernel_rfl) ?_ (fun hHeld => ?_)
      ·exact QS.out _ (below_drewN (Below.refl _ wr) 1)
      refine tq 0 ?_
      refine tq 1 ?_
      refine tq 2 ?_
      refine tq 3 ?_
      refine tq 4 ?_
      refine tq 5 ?_
      refine tq 6 ?_
      refine tq 7 ?_
      refine tq 8 ?_
      refine tq 9 ?_
      refine rd 10 fun K hK => ?_
      go_simp
      refine (rmsgs_at x y q _ _ _ (MX.out.later (below_drewN (Below.refl _ wr) 1)) (MY.out.later (below_drewN (Below.refl _ wr) 1)) (SC.out.2.2.2 x (List.mem_of_getElem? GX.out)) HQ.out).mono ?_
      rintro e w5 ⟨rfl, hb5⟩
      have B5 := Lib.hid (below_step' (below_drewN (Below.refl _ wr) 1) hb5)
      have BQ := Lib.hid (below_step' BWR.out B5.out)
      have BY := Lib.hid (below_step' hb B5.out)
      clear hb hb5
      go_wp2_with fail
      refine hK.out _ _ ?_ (fun hHeld => ?_)
      ·exact QS.out _ B5.out
      clear hK K
      refine tq 11 ?_
      refine wpAnyH_done (by kernel_rfl) ?_ _
      cases q with
      | true =>
       go_wp2_with fail
       go_roundw
       case rel => exact ⟨j + 1, by go_num, by omega, take_next GX.out GY.out EQ.out (HQ.out.1 (by simp)), BY.out⟩
       case measure => simp [intOf]; omega
      | false =>
       obtain rfl : r = false := no_of HR.out (fun e => by
        have h := GX.out
        rw [e, GY.out] at h
        cases h
        have h := HQ.out.2 rfl
        cases h)
       go_wp2_with fail
       go_ret
       exact ⟨rfl, BQ.out⟩
     ·obtain rfl : j = n2 := by omega
      have hj3 : ¬ (j : Int) < j := by omega
      have hrt : r = true := HR.out.2 (by
       have h := heq
       rw [List.take_of_length_le (by rw [← N2.out]; exact Nat.le_refl _), List.take_of_length_le (by rw [← M2.out, ← HLq.out]; exact Nat.le_refl _)] at h
       have h1 := X1.out.1 (by simp)
       have h3 := X3.out.1 (by simp)
       obtain ⟨p1, p2, p3⟩ := c
       obtain ⟨q1, q2, q3⟩ := d
       simp only at h h1 h3
       rw [h, h1, h3])
      subst hrt
      clear heq hb
      go_wp2_with fail
      go_ret
      exact ⟨rfl, BWR.out⟩
   ·have hl1 : ((n2 : Int) != (m2 : Int)) = true := by simp; omega
    obtain rfl : r = false := no_of HR.out (fun e => hl (by rw [N2.out, M2.out, e]))
    clear hl
    go_wp2_with fail
    go_ret
    exact ⟨rfl, BW2.out⟩
end Go.Proofs.Ytennbiajnkobnaa

set_option linter.unusedSimpArgs false
set_option linter.unusedVariables false
namespace Go.Proofs.Ytennbiajnkobnaa
open Go.RowKit Go.PlainAid
theorem run_eqStep (w : World) (a b c d e a' b' c' d' e' : Int) : (Op.equalIn 10000 80 (.agg #[.int .i64 a, .int .i64 b, .int .i64 c, .int .i64 d, .int .i64 e]) (.agg #[.int .i64 a', .int .i64 b', .int .i64 c', .int .i64 d', .int .i64 e'])).run Try.prog w = .ok (a == a' && b == b' && c == c' && d == d' && e == e') w := by
 rw [Op.equalIn]
 simp only [Sem.run_bind, run_underlying Try.underlying80, Result.andThen_ok]
 have p0 : ∀ a b c d e : Int, (part 3 #[.int .i64 a, .int .i64 b, .int .i64 c, .int .i64 d, .int .i64 e] 0).run Try.prog w = .ok (.int .i64 a) w := fun a b c d e => by simp [part, isAgg, run_underlying Try.underlying3]
 have p1 : ∀ a b c d e : Int, (part 3 #[.int .i64 a, .int .i64 b, .int .i64 c, .int .i64 d, .int .i64 e] 1).run Try.prog w = .ok (.int .i64 b) w := fun a b c d e => by simp [part, isAgg, run_underlying Try.underlying3]
 have p2 : ∀ a b c d e : Int, (part 3 #[.int .i64 a, .int .i64 b, .int .i64 c, .int .i64 d, .int .i64 e] 2).run Try.prog w = .ok (.int .i64 c) w := fun a b c d e => by simp [part, isAgg, run_underlying Try.underlying3]
 have p3 : ∀ a b c d e : Int, (part 3 #[.int .i64 a, .int .i64 b, .int .i64 c, .int .i64 d, .int .i64 e] 3).run Try.prog w = .ok (.int .i64 d) w := fun a b c d e => by simp [part, isAgg, run_underlying Try.underlying3]
 have p4 : ∀ a b c d e : Int, (part 3 #[.int .i64 a, .int .i64 b, .int .i64 c, .int .i64 d, .int .i64 e] 4).run Try.prog w = .ok (.int .i64 e) w := fun a b c d e => by simp [part, isAgg, run_underlying Try.underlying3]
 have pe : ∀ x y : Int, (Op.equalIn 9999 3 (.int .i64 x) (.int .i64 y)).run Try.prog w = .ok (x == y) w := fun x y => run_equalIn_int w 9998 _ .i64 .i64 x y Try.underlying3
 simp [List.forIn_cons, List.forIn_nil, Sem.run_bind, p0, p1, p2, p3, p4, pe, Result.andThen_ok]
 by_cases h1 : a = a' <;> by_cases h2 : b = b' <;> by_cases h3 : c = c' <;> by_cases h4 : d = d' <;> by_cases h5 : e = e' <;> simp [h1, h2, h3, h4, h5]
set_option maxHeartbeats 8000000 in
set_option maxRecDepth 100000 in
theorem rsteps_at (xs ys : List Sp) (r : Bool) (v1 v2 : Value) (w : World) (h1 : Has w v1 (dSteps xs)) (h2 : Has w v2 (dSteps ys)) (hn : xs.length ≤ 1000000) (hr : r = true ↔ xs = ys) :
  Calls Try.prog 27 #[v1, v2] w fun e w' => e = .returned (.bool r) ∧ Below w.heap.size w w' := by
 obtain ⟨a1, c1, ee⟩ := slice_of h1
 subst ee
 obtain ⟨a2, c2, ee⟩ := slice_of h2
 subst ee
 have H1 := Lib.hid h1
 have H2 := Lib.hid h2
 have HR := Lib.hid hr
 by_cases hl : xs.length = ys.length
 ·obtain ⟨n, hx⟩ : ∃ n, n = xs.length := ⟨_, rfl⟩
  have hy : n = ys.length := by rw [hx]; exact hl
  rw [← hx] at h1 hn ⊢
  rw [← hy] at h2 ⊢
  replace H1 := Lib.hid h1
  replace H2 := Lib.hid h2
  have HX := Lib.hid hx
  have HY := Lib.hid hy
  clear h1 h2 hr hl hx hy
  go_enter Try.func27, Try.ntmps27
  try simp only [List.append_eq, List.cons_append, List.nil_append]
  go_wp2_with fail
  go_loopw [5] (fun i wr => ∃ j : Nat, i = .int .i64 j ∧ j ≤ n ∧ xs.take j = ys.take j ∧ Below w.heap.size w wr) (fun i _ => n - (intOf i).toNat)
  case atStart => exact ⟨0, rfl, by omega, rfl, Below.refl _ _⟩
  case round =>
   obtain ⟨j, rfl, hj, heq, hb⟩ := hrel
   have BW := Lib.hid hb
   by_cases hlt : j < n
   ·have hlt' : (j : Int) < n := by omega
    obtain ⟨⟨x1, x2, x3, x4, x5⟩, hx⟩ := some_of_lt (l := xs) (i := j) (by rw [← HX.out]; exact hlt)
    obtain ⟨⟨y1, y2, y3, y4, y5⟩, hy⟩ := some_of_lt (l := ys) (i := j) (by rw [← HY.out]; exact hlt)
    obtain ⟨b, o, e, p1, p2, p3, p4, p5⟩ := steps_at (H1.out.later hb) hx
    subst e
    obtain ⟨b', o', e, q1, q2, q3, q4, q5⟩ := steps_at (H2.out.later hb) hy
    subst e
    simp only at p1 p2 p3 p4 p5 q1 q2 q3 q4 q5
    have GX := Lib.hid hx
    have GY := Lib.hid hy
    have EQ := Lib.hid heq
    clear hx hy heq hb
    obtain ⟨q, hq⟩ : ∃ q, q = (x1 == y1 && x2 == y2 && x3 == y3 && x4 == y4 && x5 == y5) := ⟨_, rfl⟩
    have HQ := Lib.hid hq
    have hE : ∀ w', (Op.equalIn 10000 80 (.agg #[.int .i64 x1, .int .i64 x2, .int .i64 x3, .int .i64 x4, .int .i64 x5]) (.agg #[.int .i64 y1, .int .i64 y2, .int .i64 y3, .int .i64 y4, .int .i64 y5])).run Try.prog w' = .ok q w' := fun w' => by rw [hq]; exact run_eqStep w' _ _ _ _ _ _ _ _ _ _
    clear hq
    cases q with
    | true =>
     go_wp2_with fail
     go_quiet (fail)
     have hbq : Below wr.heap.size wr (wr.drewN nq) := below_drewN (Below.refl _ wr) nq
     have BQ := Lib.hid (below_step' BW.out hbq)
     clear hbq
     go_wp2_with fail
     go_roundw
     case rel => exact ⟨j + 1, by go_num, by omega, take_next GX.out GY.out EQ.out (by have h := HQ.out; simp at h; obtain ⟨⟨⟨⟨h1, h2⟩, h3⟩, h4⟩, h5⟩ := h; simp [h1, h2, h3, h4, h5]), BQ.out⟩
     case measure => simp [intOf]; omega
    | false =>
     have hrf : r = false := by
      cases r with
      | false => rfl
      | true =>
       have e := HR.out.1 rfl
       have h := GX.out
       rw [e, GY.out] at h
       cases h
       have h := HQ.out
       simp at h
     subst hrf
     go_wp2_with fail
     go_quiet (fail)
     have hbq : Below wr.heap.size wr (wr.drewN nq) := below_drewN (Below.refl _ wr) nq
     have BQ := Lib.hid (below_step' BW.out hbq)
     clear hbq
     go_wp2_with fail
     go_ret
     exact ⟨rfl, BQ.out⟩
   ·obtain rfl : j = n := by omega
    have hj3 : ¬ (j : Int) < j := by omega
    have hrt : r = true := HR.out.2 (by
     have h := heq
     rw [List.take_of_length_le (by rw [HX.out]; exact Nat.le_refl _), List.take_of_length_le (by rw [HY.out]; exact Nat.le_refl _)] at h
     exact h)
    subst hrt
    clear heq hb
    go_wp2_with fail
    go_ret
    exact ⟨rfl, BW.out⟩
 ·have hrf : r = false := by
   cases r with
   | false => rfl
   | true => exact absurd (congrArg List.length (hr.1 rfl)) hl
  subst hrf
  obtain ⟨n, hx⟩ : ∃ n, n = xs.length := ⟨_, rfl⟩
  obtain ⟨m, hy⟩ : ∃ n, n = ys.length := ⟨_, rfl⟩
  rw [← hx, ← hy] at hl ⊢
  have hl1 : ¬ (n : Int) = m := by omega
  have hl2 : ((n : Int) != m) = true := by simp; omega
  clear h1 h2 hr hx hy HR H1 H2 hn
  go_enter Try.func27, Try.ntmps27
  try simp only [List.append_eq, List.cons_append, List.nil_append]
  go_wp2_with fail
  go_ret
  exact ⟨rfl, Below.refl _ _⟩
end Go.Proofs.Ytennbiajnkobnaa

