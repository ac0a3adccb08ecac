/- Texts put together. -/
import Derived.Test.YtennbiajnkobnaaQ34
import Derived.Test.YtennbiajnkobnaaQ36
set_option linter.unusedSimpArgs false
set_option linter.unusedVariables false
namespace Go.Proofs.Ytennbiajnkobnaa
open Go.RowKit Go.PlainAid
theorem cf_slices' {w : World} {c : Cf} {v1 v2 v3 : Value} (h : HasL w [v1, v2, v3] c.d) : ∃ (a1 a2 a3 : Option Addr) (n1 n2 n3 e1 e2 e3 : Nat), v1 = .slice a1 n1 e1 ∧ v2 = .slice a2 n2 e2 ∧ v3 = .slice a3 n3 e3 := by
 obtain ⟨h1, h2, h3⟩ := cf_has h
 obtain ⟨a1, e1, rfl⟩ := slice_of h1
 obtain ⟨a2, e2, rfl⟩ := slice_of h2
 obtain ⟨a3, e3, rfl⟩ := slice_of h3
 exact ⟨_, _, _, _, _, _, _, _, _, rfl, rfl, rfl⟩
set_option maxHeartbeats 8000000 in
set_option maxRecDepth 100000 in
theorem same_at (c d : Cf) (r : Bool) (v1 v2 v3 u1 u2 u3 : Value) (w : World) (hc : HasL w [v1, v2, v3] c.d) (hd : HasL w [u1, u2, u3] d.d) (hs : SmallCf c) (hr : r = true ↔ c = d) :
  Calls Try.prog 29 #[.agg #[v1, v2, v3], .agg #[u1, u2, u3]] w fun e w' => e = .returned (.bool r) ∧ Below w.heap.size w w' := by
 obtain ⟨a1, a2, a3, n1, n2, n3, e1, e2, e3, ee1, ee2, ee3⟩ := cf_slices' hc
 subst ee1
 subst ee2
 subst ee3
 obtain ⟨b1, b2, b3, m1, m2, m3, f1, f2, f3, ee1, ee2, ee3⟩ := cf_slices' hd
 subst ee1
 subst ee2
 subst ee3
 obtain ⟨c1, c2, c3⟩ := cf_has hc
 obtain ⟨d1, d2, d3⟩ := cf_has hd
 obtain ⟨x1, hx1⟩ := bool_some (c.states = d.states)
 obtain ⟨x2, hx2⟩ := bool_some (c.links = d.links)
 obtain ⟨x3, hx3⟩ := bool_some (c.sent = d.sent)
 have C1 := Lib.hid c1
 have C2 := Lib.hid c2
 have C3 := Lib.hid c3
 have D1 := Lib.hid d1
 have D2 := Lib.hid d2
 have D3 := Lib.hid d3
 have SC := Lib.hid hs
 have hrr : r = (x1 && x2 && x3) := by
  have : r = true ↔ (x1 && x2 && x3) = true := by
   rw [hr, Bool.and_eq_true, Bool.and_eq_true, hx1, hx2, hx3]
   obtain ⟨p1, p2, p3⟩ := c
   obtain ⟨q1, q2, q3⟩ := d
   simp [and_assoc]
  cases r <;> cases h : (x1 && x2 && x3) <;> simp_all
 have X1 := Lib.hid hx1
 have X2 := Lib.hid hx2
 have X3 := Lib.hid hx3
 have RR := Lib.hid hrr
 clear hc hd hs hr c1 c2 c3 d1 d2 d3 hx1 hx2 hx3 hrr
 go_enter Try.func29, Try.ntmps29
 try simp only [List.append_eq, List.cons_append, List.nil_append]
 go_upto_region 1 with fail
 obtain ⟨y0, hy0⟩ : ∃ y, y = (w.alloc (.cells #[.slice a1 n1 e1, .slice a2 n2 e2, .slice a3 n3 e3] 31)).alloc (.cells #[.slice b1 m1 f1, .slice b2 m2 f2, .slice b3 m3 f3] 31) := ⟨_, rfl⟩
 have hb0 : Below w.heap.size w y0 := by rw [hy0]; exact below_step' (below_new _ _) (below_new _ _)
 have hx0 : BoxAt w.heap.size [.slice a1 n1 e1, .slice a2 n2 e2, .slice a3 n3 e3] y0 := by rw [hy0]; exact (boxAt_new w [.slice a1 n1 e1, .slice a2 n2 e2, .slice a3 n3 e3] _).below (below_new _ _)
 have hx1 : BoxAt (w.heap.size + 1) [.slice b1 m1 f1, .slice b2 m2 f2, .slice b3 m3 f3] y0 := by
  have h := boxAt_new (w.alloc (.cells #[.slice a1 n1 e1, .slice a2 n2 e2, .slice a3 n3 e3] 31)) [.slice b1 m1 f1, .slice b2 m2 f2, .slice b3 m3 f3] 31
  rw [size_alloc] at h
  rw [hy0]; exact h
 have B0 := Lib.hid hb0
 have K0 := Lib.hid hx0
 have K1 := Lib.hid hx1
 rw [← hy0]
 clear hy0 hb0 hx0 hx1
 have p0 := K0.out 0 _ rfl
 have q0 := K1.out 0 _ rfl
 go_wp2_with fail
 refine (eqInts_at c.states d.states x1 _ _ _ (C1.out.later B0.out) (D1.out.later B0.out) SC.out.1 X1.out).mono ?_
 rintro e w1 ⟨rfl, hb⟩
 have B1 := Lib.hid hb
 have BW1 := Lib.hid (below_step' B0.out hb)
 clear hb p0 q0
 have p1 := K0.out.below B1.out 1 _ rfl
 have q1 := K1.out.below B1.out 1 _ rfl
 cases x1 with
 | false =>
  obtain rfl : r = false := RR.out
  go_wp2_with fail
  go_ret
  exact ⟨rfl, BW1.out⟩
 | true =>
  go_wp2_with fail
  refine (eqLls_at c.links d.links x2 _ _ _ (C2.out.later BW1.out) (D2.out.later BW1.out) SC.out.2.1 SC.out.2.2.2 X2.out).mono ?_
  rintro e w2 ⟨rfl, hb⟩
  have B2 := Lib.hid (below_step' B1.out hb)
  have BW2 := Lib.hid (below_step' BW1.out hb)
  clear hb p1 q1
  have p2 := K0.out.below B2.out 2 _ rfl
  have q2 := K1.out.below B2.out 2 _ rfl
  cases x2 with
  | false =>
   obtain rfl : r = false := RR.out
   go_wp2_with fail
   go_ret
   exact ⟨rfl, BW2.out⟩
  | true =>
   obtain rfl : r = x3 := by rw [RR.out]; simp
   go_wp2_with fail
   refine (eqInts_at c.sent d.sent r _ _ _ (C3.out.later BW2.out) (D3.out.later BW2.out) SC.out.2.2.1 X3.out).mono ?_
   rintro e w3 ⟨rfl, hb⟩
   have BW3 := Lib.hid (below_step' BW2.out hb)
   clear hb p2 q2
   go_wp2_with fail
   go_ret
   exact ⟨rfl, BW3.out⟩
end Go.Proofs.Ytennbiajnkobnaa

set_option linter.unusedSimpArgs false
set_option linter.unusedVariables false
namespace Go.Proofs.Ytennbiajnkobnaa
open Go.RowKit Go.PlainAid
set_option maxHeartbeats 8000000 in
theorem lref_at (v1 v2 v3 : Value) (w : World) (c : Cf) (hc : HasL w [v1, v2, v3] c.d) :
  Calls Try.prog 10 #[.agg #[v1, v2, v3]] w fun e w' => e = .returned (.agg #[v1, v2, v3]) ∧ Below w.heap.size w w' := by
 obtain ⟨a1, a2, a3, n1, n2, n3, e1, e2, e3, ee1, ee2, ee3⟩ := cf_slices' hc
 subst ee1
 subst ee2
 subst ee3
 clear hc
 go_enter Try.func10, Try.ntmps10
 go_wp2_with fail
 refine bodyPost_ret (v := .agg #[.slice a1 n1 e1, .slice a2 n2 e2, .slice a3 n3 e3]) (by simp [results, Try.results10, go_sem]) rfl ⟨rfl, ?_⟩
 go_grown
set_option maxHeartbeats 8000000 in
theorem lstep_at (s0 s1 s2 s3 s4 : Int) (w : World) :
  Calls Try.prog 48 #[.agg #[.int .i64 s0, .int .i64 s1, .int .i64 s2, .int .i64 s3, .int .i64 s4]] w fun e w' => e = .returned (.agg #[.int .i64 s0, .int .i64 s1, .int .i64 s2, .int .i64 s3, .int .i64 s4]) ∧ Below w.heap.size w w' := by
 go_enter Try.func48, Try.ntmps48
 go_wp2_with fail
 refine bodyPost_ret (v := .agg #[.int .i64 s0, .int .i64 s1, .int .i64 s2, .int .i64 s3, .int .i64 s4]) (by simp [results, Try.results48, go_sem]) rfl ⟨rfl, ?_⟩
 go_grown
theorem infoRStep : (Try.prog.info? 80).map (fun i => (i.zero, i.size, i.bytes)) = some (some (.agg #[.int .i64 0, .int .i64 0, .int .i64 0, .int .i64 0, .int .i64 0]), 5, 40) := by kernel_rfl
set_option maxHeartbeats 8000000 in
set_option maxRecDepth 100000 in
theorem lsteps_at (l : List Sp) (v : Value) (w : World) (h : Has w v (dSteps l)) (hn : l.length ≤ 1000000) :
  Calls Try.prog 28 #[v] w fun e w' => ∃ u, e = .returned u ∧ Has w' u (dSteps l) ∧ Below w.heap.size w w' := by
 obtain ⟨la, lc, ee⟩ := slice_of h
 subst ee
 obtain ⟨iN, hiN, hzN, hsN, hbN⟩ := info_parts infoRStep
 obtain ⟨n, hn2⟩ : ∃ n, n = l.length := ⟨_, rfl⟩
 have H := Lib.hid h
 rw [← hn2] at H hn ⊢
 have NN := Lib.hid hn2
 have O0 := Own.made (S := False) (P := All) (E := 80) (n := 5) (Below.refl w.heap.size w)
 rw [show w.heap.size + 1 = (w.alloc (.cells #[] 80)).heap.size by simp] at O0
 have B0 := Lib.hid (show Bld False All 80 5 w (w.alloc (.cells #[] 80)).heap.size (w.alloc (.cells #[] 80)) (.slice (some ⟨w.heap.size, 0, none⟩) 0 0) [] from ⟨O0, fun k hk => trivial⟩)
 clear h hn2 O0
 go_enter Try.func28, Try.ntmps28
 go_wp2_with fail
 go_loopw [3, 4] (fun q i wr => ∃ k : Nat, i = .int .i64 k ∧ k ≤ n ∧ Bld False All 80 5 w wr.heap.size wr q ((l.take k).map Sp.d)) (fun _ i _ => n - (intOf i).toNat)
 case atStart => exact ⟨0, rfl, by omega, by rw [List.take_zero]; exact B0.out⟩
 case round =>
  rename Value => q
  obtain ⟨k, rfl, hk, hB⟩ := hrel
  have BB := Lib.hid hB
  obtain ⟨qa, qc, hq⟩ := hB.own.slice
  rw [List.length_map, List.length_take, ← NN.out, Nat.min_eq_left hk] at hq
  subst hq
  by_cases hlt : k < n
  ·have hlt' : (k : Int) < n := by omega
   obtain ⟨s, hs⟩ := some_of_lt (l := l) (i := k) (by rw [← NN.out]; exact hlt)
   obtain ⟨b, o, e, x0, x1, x2, x3, x4⟩ := steps_at (H.out.later hB.own.bel) hs
   subst e
   have HS := Lib.hid hs
   obtain ⟨s0, s1, s2, s3, s4⟩ := s
   simp only at x0 x1 x2 x3 x4
   clear hB hs
   go_wp2_with fail
   refine (lstep_at s0 s1 s2 s3 s4 _).mono ?_
   rintro e w5 ⟨rfl, hb⟩
   have B5 := Lib.hid hb
   clear hb x0 x1 x2 x3 x4
   obtain ⟨wZ, hwZ⟩ : ∃ wZ, wZ = w5.alloc (.cells #[.int .i64 s0, .int .i64 s1, .int .i64 s2, .int .i64 s3, .int .i64 s4] 80) := ⟨_, rfl⟩
   have hbZ : Below w5.heap.size w5 wZ := by rw [hwZ]; exact below_new _ _
   have OZ := Lib.hid (BB.out.own.later (below_step' B5.out hbZ))
   have NZ := Lib.hid (show ∀ a, some (⟨w5.heap.size, 0, none⟩ : Addr) = some a → ∀ j u, [Value.int .i64 s0, .int .i64 s1, .int .i64 s2, .int .i64 s3, .int .i64 s4][j]? = some u → wZ.cell? (a.add j) = some u from by rw [hwZ]; exact news_new)
   have WZ := Lib.hid hwZ
   have SZ : wr.heap.size ≤ w5.heap.size := B5.out.size
   have BK := Lib.hid BB.out.own.blk
   clear hbZ hwZ
   go_wp2_with (at_builtin; go_loud (rw [← WZ.out]; refine appL rfl _ _ 78 80 iN (.agg #[.int .i64 0, .int .i64 0, .int .i64 0, .int .i64 0, .int .i64 0]) 5 40 rfl Try.underlying78 hiN hzN hsN hbN rfl (by decide) False All w wr.heap.size _ ((l.take k).map Sp.d) [Sp.d ⟨s0, s1, s2, s3, s4⟩] k 1 1 (k + 1) rfl OZ.out (by simp; rw [← NN.out]; omega) (some ⟨w5.heap.size, 0, none⟩) rfl [.int .i64 s0, .int .i64 s1, .int .i64 s2, .int .i64 s3, .int .i64 s4] NZ.out (fun e => by cases e) (by simp [Sp.d]) rfl (by rw [List.flatten_cons, List.flatten_nil, List.append_nil]; exact step_five ⟨s0, s1, s2, s3, s4⟩) rfl (by unfold maxLen; omega) (by omega) ?_))
   intro ao cv w13 hO13 hg13 hb13
   have hO13' : Own False All 80 5 w w13.heap.size w13 (.slice ao (k + 1) cv) ((l.take (k + 1)).map Sp.d) := by
    rw [List.take_add_one, HS.out]
    simpa using hO13
   have B13 := Lib.hid (Bld.of hO13' BB.out.inP hb13 trivial)
   clear hO13 hO13' hg13 hb13
   go_wp2_with fail
   go_roundw
   case rel => exact ⟨k + 1, by go_num, by omega, B13.out⟩
   case measure => simp [intOf]; omega
  ·obtain rfl : k = n := by omega
   have hk3 : ¬ (k : Int) < k := by omega
   have hH := hB.holds
   have hbel := hB.own.bel
   rw [List.take_of_length_le (by rw [← NN.out]; exact Nat.le_refl _)] at hH
   have HH := Lib.hid hH
   have BE := Lib.hid hbel
   clear hB hH hbel
   go_wp2_with fail
   go_ret
   exact ⟨_, rfl, HH.out, BE.out⟩
end Go.Proofs.Ytennbiajnkobnaa

