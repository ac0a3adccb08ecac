/- MarkAnew: the walk. Written by gen_mark1.py. -/
import Derived.Test.YtlhclnhdcenkhaaMkL
import Derived.Test.YtlhclnhdcenkhaaMkK
set_option linter.unusedSimpArgs false
set_option linter.unusedVariables false
set_option maxRecDepth 100000
namespace Go.Proofs.Ytlhclnhdcenkhaa
open Go.RowKit Go.PlainAid

set_option maxHeartbeats 8000000 in
theorem walkMarkAnew (l : Int) (v : Value) (L : List Opr) (at' : Int) (w : World) (h0 : 0 ≤ l) (h1 : l < 256) (h : Has w v (dOps L)) :
    Calls Try.prog 8 #[.int .u8 l, v, .int .i64 at'] w fun e w' => e = .returned (.bool true) ∧ Below w.heap.size w w' := by
  obtain ⟨l, rfl⟩ : ∃ n : Nat, l = n := ⟨l.toNat, by omega⟩
  have hl : l < 256 := by omega
  obtain ⟨N, hN⟩ : ∃ n, n = l % 6 := ⟨_, rfl⟩
  have hN5 : N ≤ 5 := by omega
  have HN := Lib.hid hN
  clear hN
  obtain ⟨va, vc, ee⟩ := slice_of h
  subst ee
  obtain ⟨k, hk⟩ : ∃ k, k = L.length := ⟨_, rfl⟩
  rw [← hk] at h ⊢
  have HK := Lib.hid hk
  clear hk h0 h1
  go_enter Try.func8, Try.ntmps8
  go_upto_region 1 with fail
  go_wp2_with fail
  refine (ends_at l 3 N w hl (by decide) HN.out).mono ?_
  rintro e w1 ⟨g1, g2, rfl, hG, hb⟩
  obtain ⟨g8, g9⟩ := hs_has hG
  obtain ⟨ga, gc, ee1⟩ := slice_of g8
  obtain ⟨gb, gd, ee2⟩ := slice_of g9
  subst ee1
  subst ee2
  have HG := Lib.hid hG
  have B1 := Lib.hid hb
  clear hG hb g8 g9
  rw [show (endsH N 3).inn.length = N from (ends_small N 3 (by omega)).2] at HG ⊢
  rw [show (endsH N 3).out.length = N from by unfold endsH; simp] at HG ⊢
  rw [show hsv (endsH N 3) (.slice ga N gc) (.slice gb N gd) = .agg #[.int .i64 1, .int .i64 2, .int .i64 3, .slice ga N gc, .slice gb N gd] from rfl]
  go_upto_region 2 with fail
  obtain ⟨bh, hbh⟩ : ∃ b, b = w1.heap.size := ⟨_, rfl⟩
  obtain ⟨y1, hy1⟩ : ∃ y, y = w1.alloc (.cells #[.int .i64 1, .int .i64 2, .int .i64 3, .slice ga N gc, .slice gb N gd] 26) := ⟨_, rfl⟩
  have hn1 : Below w1.heap.size w1 y1 := by rw [hy1]; exact below_new _ _
  have KH1 : Hid (BoxAt bh [.int .i64 1, .int .i64 2, .int .i64 3, .slice ga N gc, .slice gb N gd] y1) := Lib.hid (by rw [hbh, hy1]; exact boxAt_new w1 [.int .i64 1, .int .i64 2, .int .i64 3, .slice ga N gc, .slice gb N gd] _)
  have OH1 : Hid (Open8 bh y1) := Lib.hid (by rw [hbh, hy1]; exact Open8.new _ _ _)
  have BW1 := Lib.hid (below_step' B1.out hn1)
  have HG1 : Hid (HoldsL False (fun q => q ≠ bh) y1 [.slice ga N gc, .slice gb N gd] (endsH N 3).d) := Lib.hid ((HG.out.wide (P' := fun q => q ≠ bh) (fun q hq _ => by rw [hbh]; omega)).later hn1)
  have LH : Hid (w.heap.size ≤ bh) := Lib.hid (by rw [hbh]; exact B1.out.size)
  rw [← hy1, ← hbh]
  clear hy1 hbh hn1 HG B1
  have x0 := KH1.out 0 _ rfl
  have x1 := KH1.out 1 _ rfl
  have x2 := KH1.out 2 _ rfl
  have x3 := KH1.out 3 _ rfl
  have x4 := KH1.out 4 _ rfl
  go_wp2_with fail
  refine (begin_at (endsH N 3) 1 _ _ y1 HG1.out.weak (ends_small N 3 (by omega)).1 (by rw [(ends_small N 3 (by omega)).2]; omega)).mono ?_
  rintro e w2 ⟨v0, v1, v2, v3, rfl, hU, hb⟩
  obtain ⟨m0, hm0⟩ : ∃ m, m = beginM (endsH N 3) 1 := ⟨_, rfl⟩
  rw [← hm0] at hU ⊢
  have M0E := Lib.hid hm0
  clear hm0 x0 x1 x2 x3 x4
  obtain ⟨a0, a1, a2, a3, n0, n1, n2, n3, e0, e1, e2, e3, ff0, ff1, ff2, ff3⟩ := mk_slices hU.weak
  subst ff0
  subst ff1
  subst ff2
  subst ff3
  have HU := Lib.hid hU
  have BQ := Lib.hid hb
  clear hU hb
  unfold mkv
  go_upto_region 4 with fail
  obtain ⟨bm, hbm⟩ : ∃ b, b = w2.heap.size := ⟨_, rfl⟩
  obtain ⟨y2, hy2⟩ : ∃ y, y = w2.alloc (.cells #[.int .i64 m0.ep, .slice a0 n0 e0, .int .i64 m0.p.node, .int .i64 m0.p.state, .int .i64 m0.p.steps, .slice a1 n1 e1, .slice a2 n2 e2, .slice a3 n3 e3] 33) := ⟨_, rfl⟩
  have hn2 : Below w2.heap.size w2 y2 := by rw [hy2]; exact below_new _ _
  have Q2 := Lib.hid (below_step' BQ.out hn2)
  have LB : Hid (bh < y1.heap.size ∧ y1.heap.size ≤ bm ∧ bm ≠ bh ∧ w.heap.size ≤ bm ∧ w.heap.size ≤ bh) := Lib.hid (by have h1 := OH1.out.1; have h2 := BQ.out.size; have h3 := BW1.out.size; have h4 := LH.out; omega)
  have M0 : Hid (MIn bm bh m0 a0 a1 a2 a3 n0 n1 n2 n3 e0 e1 e2 e3 y2) := Lib.hid ⟨by rw [hbm, hy2]; exact boxAt_new w2 [.int .i64 m0.ep, .slice a0 n0 e0, .int .i64 m0.p.node, .int .i64 m0.p.state, .int .i64 m0.p.steps, .slice a1 n1 e1, .slice a2 n2 e2, .slice a3 n3 e3] _, by rw [hbm, hy2]; exact Open8.new _ _ _, (HU.out.loose.wide (P' := fun q => q ≠ bm ∧ q ≠ bh) (fun q hq (hp : y1.heap.size ≤ q) => by have h1 := LB.out; omega)).later hn2⟩
  have KH := Lib.hid (KH1.out.below Q2.out)
  have OH := Lib.hid (OH1.out.below Q2.out)
  have HG : Hid (HoldsL False (fun q => q ≠ bh ∧ q ≠ bm) y2 [.slice ga N gc, .slice gb N gd] (endsH N 3).d) := Lib.hid ((HG1.out.wide (P' := fun q => q ≠ bh ∧ q ≠ bm) (fun q hq hp => ⟨hp, by have h1 := LB.out; omega⟩)).later Q2.out)
  have B2 := Lib.hid (below_step' BW1.out Q2.out)
  rw [← hy2, ← hbm]
  clear hy2 hbm hn2 HU BQ KH1 OH1 HG1 Q2 BW1 LH
  have GD : Hid (Good N 0 m0) := Lib.hid (by rw [M0E.out]; exact Good.begin N 3)
  clear M0E
  have H0 := Lib.hid (h.later B2.out)
  go_wp2_with fail
  go_loopw [10] (fun i wr => ∃ (j : Nat) (m : Mk) (c0 c1 c2 c3 : Option Addr) (s0 s1 s2 s3 t0 t1 t2 t3 : Nat), i = .int .i64 j ∧ j ≤ k ∧ j ≤ 20 ∧ Good N j m ∧ MIn bm bh m c0 c1 c2 c3 s0 s1 s2 s3 t0 t1 t2 t3 wr ∧ Below w.heap.size w wr ∧ SameOn (fun q => q ≠ bm) y2 wr) (fun i _ => 20 - (intOf i).toNat)
  case atStart => exact ⟨0, m0, a0, a1, a2, a3, n0, n1, n2, n3, e0, e1, e2, e3, rfl, Nat.zero_le _, Nat.zero_le _, GD.out, M0.out, B2.out, SameOn.refl _ _⟩
  case round =>
    obtain ⟨j, m, c0, c1, c2, c3, s0, s1, s2, s3, t0, t1, t2, t3, rfl, hj, hj2, hg, hM, hb, hs⟩ := hrel
    obtain ⟨wr1, hw1⟩ : ∃ x, x = wr := ⟨_, rfl⟩
    subst hw1
    have GJ := Lib.hid hg
    have MJ := Lib.hid hM
    have BJ := Lib.hid hb
    have SJ := Lib.hid hs
    clear hg hM hb hs GD M0
    by_cases hlt : j < k
    · have hlt' : (j : Int) < k := by omega
      by_cases h20 : j < 20
      · have h20' : (j : Int) < 20 := by omega
        obtain ⟨o, ho⟩ := some_of_lt (l := L) (i := j) (by rw [← HK.out]; exact hlt)
        obtain ⟨b, of, ee, -, -, q2, q3, q4⟩ := ops_at h ho
        subst ee
        have NBb : Hid (b ≠ bm) := Lib.hid (by have h1 := World.block_lt_of_cell? w _ q2; simp at h1; have h2 := LB.out; omega)
        obtain ⟨pl, hpl⟩ : ∃ x, x = o.pl := ⟨_, rfl⟩
        obtain ⟨x1, hx1⟩ : ∃ x, x = o.x.1 := ⟨_, rfl⟩
        obtain ⟨x2, hx2⟩ : ∃ x, x = o.x.2 := ⟨_, rfl⟩
        rw [← hpl] at q2
        rw [← hx1] at q3
        rw [← hx2] at q4
        clear hpl hx1 hx2 ho
        have GX : Hid ((fun w' => w'.cell? ⟨b, of + j * 5 + 2, none⟩ = some (.int .i64 pl) ∧ w'.cell? ⟨b, of + j * 5 + 3, none⟩ = some (.int .i64 x1) ∧ w'.cell? ⟨b, of + j * 5 + 4, none⟩ = some (.int .i64 x2)) w) := Lib.hid ⟨q2, q3, q4⟩
        have QS : Hid (∀ w', Below w.heap.size w w' → (fun w' => w'.cell? ⟨b, of + j * 5 + 2, none⟩ = some (.int .i64 pl) ∧ w'.cell? ⟨b, of + j * 5 + 3, none⟩ = some (.int .i64 x1) ∧ w'.cell? ⟨b, of + j * 5 + 4, none⟩ = some (.int .i64 x2)) w') := Lib.hid (fun w' hb => ⟨(hb.cell (World.block_lt_of_cell? w _ GX.out.1)).trans GX.out.1, (hb.cell (World.block_lt_of_cell? w _ GX.out.2.1)).trans GX.out.2.1, (hb.cell (World.block_lt_of_cell? w _ GX.out.2.2)).trans GX.out.2.2⟩)
        clear q2 q3 q4
        go_wp2_with fail
        refine wp_region_held_drew (S := (fun w' => w'.cell? ⟨b, of + j * 5 + 2, none⟩ = some (.int .i64 pl) ∧ w'.cell? ⟨b, of + j * 5 + 3, none⟩ = some (.int .i64 x1) ∧ w'.cell? ⟨b, of + j * 5 + 4, none⟩ = some (.int .i64 x2))) (by kernel_rfl) ?_ (fun hHeld => ?_)
        · exact QS.out _ (below_step' BJ.out (below_drewN (Below.refl _ wr1) 1))
        obtain ⟨z0, hz0⟩ : ∃ y, y = wr1.drew := ⟨_, rfl⟩
        rw [← hz0] at hHeld ⊢
        have BZ : Hid (Below wr1.heap.size wr1 z0) := Lib.hid (by rw [hz0]; exact below_drewN (Below.refl _ wr1) 1)
        clear hz0
        have MZ := Lib.hid (MJ.out.below BZ.out)
        refine tq 1 ?_
        refine tq 2 ?_
        refine tq 6 ?_
        refine tq 7 ?_
        refine tq 3 ?_
        refine tq 8 ?_
        refine tq 4 ?_
        refine tq 9 ?_
        refine tq 5 ?_
        refine tq 10 ?_
        have cc0 := MZ.out.box 0 _ rfl
        have cc1 := MZ.out.box 1 _ rfl
        have cc2 := MZ.out.box 2 _ rfl
        have cc3 := MZ.out.box 3 _ rfl
        have cc4 := MZ.out.box 4 _ rfl
        have cc5 := MZ.out.box 5 _ rfl
        have cc6 := MZ.out.box 6 _ rfl
        have cc7 := MZ.out.box 7 _ rfl
        refine rd 0 fun K hK => ?_
        go_simp
        refine hK.out _ _ ?_ (fun hHeld => ?_)
        · exact QS.out _ (below_step' BJ.out BZ.out)
        clear hK K
        refine rd 11 fun K hK => ?_
        go_simp
        refine (app_at m pl (x1, x2) _ _ _ _ z0 MZ.out.dat.weak (GJ.out.small (by omega) (by omega)) (fun h => by rw [GJ.out.inn, ← GJ.out.op]; exact openB_lt h)).mono ?_
        rintro e z1 ⟨v0, v1, v2, v3, rfl, hU, hb⟩
        obtain ⟨mn, hmn⟩ : ∃ r, r = appM m pl (x1, x2) := ⟨_, rfl⟩
        rw [← hmn] at hU ⊢
        have GN : Hid (Good N (j + 1) mn) := Lib.hid (by rw [hmn]; exact GJ.out.app pl (x1, x2))
        clear hmn cc0 cc1 cc2 cc3 cc4 cc5 cc6 cc7
        obtain ⟨u0, u1, u2, u3, k0, k1, k2, k3, f0, f1, f2, f3, ff0, ff1, ff2, ff3⟩ := mk_slices hU.weak
        subst ff0
        subst ff1
        subst ff2
        subst ff3
        have MZ1 := Lib.hid (MZ.out.below hb)
        have DZ := Lib.hid (told_off (bm := bm) (bh := bh) hU MZ.out.opn.1 (Nat.lt_of_lt_of_le (Nat.lt_of_lt_of_le OH.out.1 SJ.out.1) BZ.out.size))
        have BZ1 := Lib.hid (below_step' BZ.out hb)
        clear hU hb
        unfold mkv
        go_wp2_with fail
        refine hK.out _ _ ?_ (fun hHeld => ?_)
        · exact QS.out _ (below_step' BJ.out BZ1.out)
        clear hK K
        have cc0 := MZ1.out.box 0 _ rfl
        have cc1 := MZ1.out.box 1 _ rfl
        have cc2 := MZ1.out.box 2 _ rfl
        have cc3 := MZ1.out.box 3 _ rfl
        have cc4 := MZ1.out.box 4 _ rfl
        have cc5 := MZ1.out.box 5 _ rfl
        have cc6 := MZ1.out.box 6 _ rfl
        have cc7 := MZ1.out.box 7 _ rfl
        have g0 := MZ1.out.opn.2 0
        have g1 := MZ1.out.opn.2 1
        have g2 := MZ1.out.opn.2 2
        have g3 := MZ1.out.opn.2 3
        have g4 := MZ1.out.opn.2 4
        have g5 := MZ1.out.opn.2 5
        have g6 := MZ1.out.opn.2 6
        have g7 := MZ1.out.opn.2 7
        have q2 := (QS.out _ (below_step' BJ.out BZ1.out))
        have SN9 : (fun w' => w'.cell? ⟨b, of + j * 5 + 2, none⟩ = some (.int .i64 pl) ∧ w'.cell? ⟨b, of + j * 5 + 3, none⟩ = some (.int .i64 x1) ∧ w'.cell? ⟨b, of + j * 5 + 4, none⟩ = some (.int .i64 x2)) (setN z1 bm 0 [.int .i64 mn.ep, .slice u0 k0 f0, .int .i64 mn.p.node, .int .i64 mn.p.state, .int .i64 mn.p.steps, .slice u1 k1 f1, .slice u2 k2 f2, .slice u3 k3 f3]) := ⟨setN_cell NBb.out q2.1, setN_cell NBb.out q2.2.1, setN_cell NBb.out q2.2.2⟩
        have SNH := Lib.hid SN9
        clear SN9 q2
        refine rd 12 fun K hK => ?_
        go_simp
        refine hK.out _ _ ?_ (fun hHeld => ?_)
        · exact SNH.out
        clear hK K
        refine wpAnyH_done (by kernel_rfl) ?_ _
        change Exit.inBlock _ _ Exit.normal _ (setN z1 bm 0 [.int .i64 mn.ep, .slice u0 k0 f0, .int .i64 mn.p.node, .int .i64 mn.p.state, .int .i64 mn.p.steps, .slice u1 k1 f1, .slice u2 k2 f2, .slice u3 k3 f3])
        have MN : Hid (MIn bm bh mn u0 u1 u2 u3 k0 k1 k2 k3 f0 f1 f2 f3 (setN z1 bm 0 [.int .i64 mn.ep, .slice u0 k0 f0, .int .i64 mn.p.node, .int .i64 mn.p.state, .int .i64 mn.p.steps, .slice u1 k1 f1, .slice u2 k2 f2, .slice u3 k3 f3])) := Lib.hid (MZ1.out.put DZ.out)
        have BN : Hid (Below w.heap.size w (setN z1 bm 0 [.int .i64 mn.ep, .slice u0 k0 f0, .int .i64 mn.p.node, .int .i64 mn.p.state, .int .i64 mn.p.steps, .slice u1 k1 f1, .slice u2 k2 f2, .slice u3 k3 f3])) := Lib.hid (setN_below (by have := LB.out; omega) [.int .i64 mn.ep, .slice u0 k0 f0, .int .i64 mn.p.node, .int .i64 mn.p.state, .int .i64 mn.p.steps, .slice u1 k1 f1, .slice u2 k2 f2, .slice u3 k3 f3] 0 z1 (below_step' BJ.out BZ1.out))
        have SN : Hid (SameOn (fun q => q ≠ bm) y2 (setN z1 bm 0 [.int .i64 mn.ep, .slice u0 k0 f0, .int .i64 mn.p.node, .int .i64 mn.p.state, .int .i64 mn.p.steps, .slice u1 k1 f1, .slice u2 k2 f2, .slice u3 k3 f3])) := Lib.hid (setN_same (P := fun q => q ≠ bm) (b := bm) (fun h => h rfl) [.int .i64 mn.ep, .slice u0 k0 f0, .int .i64 mn.p.node, .int .i64 mn.p.state, .int .i64 mn.p.steps, .slice u1 k1 f1, .slice u2 k2 f2, .slice u3 k3 f3] 0 z1 (SJ.out.trans (SameOn.of_below BZ1.out)))
        obtain ⟨wn, hwn⟩ : ∃ x, x = setN z1 bm 0 [.int .i64 mn.ep, .slice u0 k0 f0, .int .i64 mn.p.node, .int .i64 mn.p.state, .int .i64 mn.p.steps, .slice u1 k1 f1, .slice u2 k2 f2, .slice u3 k3 f3] := ⟨_, rfl⟩
        rw [← hwn] at MN BN SN ⊢
        clear hwn cc0 cc1 cc2 cc3 cc4 cc5 cc6 cc7 g0 g1 g2 g3 g4 g5 g6 g7 SNH hHeld MZ MZ1 DZ
        go_wp2_with fail
        go_roundw
        case rel => exact ⟨j + 1, mn, u0, u1, u2, u3, k0, k1, k2, k3, f0, f1, f2, f3, by go_num, by omega, by omega, GN.out, MN.out, BN.out, SN.out⟩
        case measure => simp [intOf]; omega
      · obtain rfl : j = 20 := by omega
        have h20' : ¬ ((20 : Nat) : Int) < 20 := by decide
        have h21' : ¬ (20 : Int) < 20 := by decide
        have KHr := Lib.hid (KH.out.same SJ.out (Ne.symm LB.out.2.2.1))
        have OHr := Lib.hid (OH.out.same SJ.out (Ne.symm LB.out.2.2.1))
        have x2 := KHr.out 2 _ rfl
        have gx2 := OHr.out.2 2
        go_upto_region 9 with fail
        change Code.wp _ _ _ _ (setN wr1 bh 2 [.int .i64 8])
        have KX : Hid (BoxAt bh [.int .i64 1, .int .i64 2, .int .i64 8, .slice ga N gc, .slice gb N gd] (setN wr1 bh 2 [.int .i64 8])) := Lib.hid (setN_box [.int .i64 8] 2 _ wr1 KHr.out (by simp))
        have MX := Lib.hid (MJ.out.far 2 [.int .i64 8] LB.out.2.2.1)
        have HX : Hid (HasL (setN wr1 bh 2 [.int .i64 8]) [.slice ga N gc, .slice gb N gd] (endsH N 8).d) := Lib.hid (((HG.out.same (SJ.out.sub (fun q h => h.2))).same (setN_same (P := fun q => q ≠ bh ∧ q ≠ bm) (b := bh) (fun h => h.1 rfl) [.int .i64 8] 2 wr1 (SameOn.refl _ _))).weak)
        have BX := Lib.hid (setN_below LB.out.2.2.2.2 [.int .i64 8] 2 wr1 BJ.out)
        obtain ⟨wx, hwx⟩ : ∃ x, x = setN wr1 bh 2 [.int .i64 8] := ⟨_, rfl⟩
        rw [← hwx] at KX MX HX BX ⊢
        clear hwx x2 gx2 KHr OHr KH OH MJ BJ SJ HG
        by_cases hat : inB at' N = false
        · skip
          have MC := marker_at m (endsH N 8) 2 at' _ _ _ _ _ _ wx MX.out.dat.weak HX.out (GJ.out.small (by omega) (by omega)) (ends_small N 8 (by omega)).1 (by rw [(ends_small N 8 (by omega)).2]; omega)
          rw [GJ.out.no 8 hat] at MC
          have MCH := Lib.hid (MC : Calls _ _ _ _ (MkTold2 m false wx))
          have HAT := Lib.hid hat
          clear MC hat
          have cc0 := MX.out.box 0 _ rfl
          have cc1 := MX.out.box 1 _ rfl
          have cc2 := MX.out.box 2 _ rfl
          have cc3 := MX.out.box 3 _ rfl
          have cc4 := MX.out.box 4 _ rfl
          have cc5 := MX.out.box 5 _ rfl
          have cc6 := MX.out.box 6 _ rfl
          have cc7 := MX.out.box 7 _ rfl
          have hh0 := KX.out 0 _ rfl
          have hh1 := KX.out 1 _ rfl
          have hh2 := KX.out 2 _ rfl
          have hh3 := KX.out 3 _ rfl
          have hh4 := KX.out 4 _ rfl
          go_wp2_with fail
          refine MCH.out.mono ?_
          rintro e w3 ⟨v0, v1, v2, v3, rfl, hU, hb⟩
          obtain ⟨u0, u1, u2, u3, k0, k1, k2, k3, f0, f1, f2, f3, ff0, ff1, ff2, ff3⟩ := mk_slices hU.weak
          subst ff0
          subst ff1
          subst ff2
          subst ff3
          have HU3 := Lib.hid hU.weak
          have B3 := Lib.hid hb
          clear hU hb cc0 cc1 cc2 cc3 cc4 cc5 cc6 cc7 hh0 hh1 hh2 hh3 hh4
          unfold mkv
          clear MCH
          go_upto_region 10 with fail
          obtain ⟨bx, hbx⟩ : ∃ b, b = w3.heap.size := ⟨_, rfl⟩
          obtain ⟨y3, hy3⟩ : ∃ y, y = w3.alloc (.cells #[.int .i64 m.ep, .slice u0 k0 f0, .int .i64 m.p.node, .int .i64 m.p.state, .int .i64 m.p.steps, .slice u1 k1 f1, .slice u2 k2 f2, .slice u3 k3 f3] 33) := ⟨_, rfl⟩
          have hn3 : Below w3.heap.size w3 y3 := by rw [hy3]; exact below_new _ _
          have KB : Hid (BoxAt bx [.int .i64 m.ep, .slice u0 k0 f0, .int .i64 m.p.node, .int .i64 m.p.state, .int .i64 m.p.steps, .slice u1 k1 f1, .slice u2 k2 f2, .slice u3 k3 f3] y3) := Lib.hid (by rw [hbx, hy3]; exact boxAt_new w3 [.int .i64 m.ep, .slice u0 k0 f0, .int .i64 m.p.node, .int .i64 m.p.state, .int .i64 m.p.steps, .slice u1 k1 f1, .slice u2 k2 f2, .slice u3 k3 f3] _)
          have DX := Lib.hid (HU3.out.later hn3)
          have MB := Lib.hid (MX.out.below (below_step' B3.out hn3))
          have BY := Lib.hid (below_step' BX.out (below_step' B3.out hn3))
          rw [← hy3, ← hbx]
          clear hy3 hbx hn3 HU3 MX B3 BX
          by_cases hneg : at' < 0
          · have hneg2 : at' < 0 := hneg
            have QX : Hid (∀ w', Below y3.heap.size y3 w' → (fun w' => w'.cell? ⟨bx, 0, none⟩ = some (.int .i64 m.ep) ∧ w'.cell? ⟨bx, 1, none⟩ = some (.slice u0 k0 f0) ∧ w'.cell? ⟨bx, 2, none⟩ = some (.int .i64 m.p.node) ∧ w'.cell? ⟨bx, 3, none⟩ = some (.int .i64 m.p.state) ∧ w'.cell? ⟨bx, 4, none⟩ = some (.int .i64 m.p.steps) ∧ w'.cell? ⟨bx, 5, none⟩ = some (.slice u1 k1 f1) ∧ w'.cell? ⟨bx, 6, none⟩ = some (.slice u2 k2 f2) ∧ w'.cell? ⟨bx, 7, none⟩ = some (.slice u3 k3 f3) ∧ w'.cell? ⟨bm, 0, none⟩ = some (.int .i64 m.ep) ∧ w'.cell? ⟨bm, 1, none⟩ = some (.slice c0 s0 t0) ∧ w'.cell? ⟨bm, 2, none⟩ = some (.int .i64 m.p.node) ∧ w'.cell? ⟨bm, 3, none⟩ = some (.int .i64 m.p.state) ∧ w'.cell? ⟨bm, 4, none⟩ = some (.int .i64 m.p.steps) ∧ w'.cell? ⟨bm, 5, none⟩ = some (.slice c1 s1 t1) ∧ w'.cell? ⟨bm, 6, none⟩ = some (.slice c2 s2 t2) ∧ w'.cell? ⟨bm, 7, none⟩ = some (.slice c3 s3 t3)) w') := Lib.hid (fun w' hb => ⟨KB.out.below hb 0 _ rfl, KB.out.below hb 1 _ rfl, KB.out.below hb 2 _ rfl, KB.out.below hb 3 _ rfl, KB.out.below hb 4 _ rfl, KB.out.below hb 5 _ rfl, KB.out.below hb 6 _ rfl, KB.out.below hb 7 _ rfl, MB.out.box.below hb 0 _ rfl, MB.out.box.below hb 1 _ rfl, MB.out.box.below hb 2 _ rfl, MB.out.box.below hb 3 _ rfl, MB.out.box.below hb 4 _ rfl, MB.out.box.below hb 5 _ rfl, MB.out.box.below hb 6 _ rfl, MB.out.box.below hb 7 _ rfl⟩)
            go_wp2_with fail
            refine wp_region_held_drew (S := (fun w' => w'.cell? ⟨bx, 0, none⟩ = some (.int .i64 m.ep) ∧ w'.cell? ⟨bx, 1, none⟩ = some (.slice u0 k0 f0) ∧ w'.cell? ⟨bx, 2, none⟩ = some (.int .i64 m.p.node) ∧ w'.cell? ⟨bx, 3, none⟩ = some (.int .i64 m.p.state) ∧ w'.cell? ⟨bx, 4, none⟩ = some (.int .i64 m.p.steps) ∧ w'.cell? ⟨bx, 5, none⟩ = some (.slice u1 k1 f1) ∧ w'.cell? ⟨bx, 6, none⟩ = some (.slice u2 k2 f2) ∧ w'.cell? ⟨bx, 7, none⟩ = some (.slice u3 k3 f3) ∧ w'.cell? ⟨bm, 0, none⟩ = some (.int .i64 m.ep) ∧ w'.cell? ⟨bm, 1, none⟩ = some (.slice c0 s0 t0) ∧ w'.cell? ⟨bm, 2, none⟩ = some (.int .i64 m.p.node) ∧ w'.cell? ⟨bm, 3, none⟩ = some (.int .i64 m.p.state) ∧ w'.cell? ⟨bm, 4, none⟩ = some (.int .i64 m.p.steps) ∧ w'.cell? ⟨bm, 5, none⟩ = some (.slice c1 s1 t1) ∧ w'.cell? ⟨bm, 6, none⟩ = some (.slice c2 s2 t2) ∧ w'.cell? ⟨bm, 7, none⟩ = some (.slice c3 s3 t3))) (by kernel_rfl) ?_ (fun hHeld => ?_)
            · exact QX.out _ (below_drewN (Below.refl _ y3) 1)
            obtain ⟨d0, hd0⟩ : ∃ y, y = y3.drew := ⟨_, rfl⟩
            rw [← hd0] at hHeld ⊢
            have E0 : Hid (Below y3.heap.size y3 d0) := Lib.hid (by rw [hd0]; exact below_drewN (Below.refl _ y3) 1)
            clear hd0
            refine tq 0 ?_
            refine tq 1 ?_
            refine tq 2 ?_
            refine tq 3 ?_
            refine tq 5 ?_
            refine rd 4 fun K hK => ?_
            go_simp
            refine (ref10_at m _ _ _ _ d0 ⟨_, _, _, _, _, _, _, _, _, _, _, _, rfl, rfl, rfl, rfl⟩).mono ?_
            rintro e d1 ⟨rfl, hb⟩
            have E1 := Lib.hid (below_step' E0.out hb)
            clear hb
            go_wp2_with fail
            refine hK.out _ _ ?_ (fun hHeld => ?_)
            · exact QX.out _ E1.out
            clear hK K
            refine rd 6 fun K hK => ?_
            go_simp
            refine (ref10_at m _ _ _ _ d1 ⟨_, _, _, _, _, _, _, _, _, _, _, _, rfl, rfl, rfl, rfl⟩).mono ?_
            rintro e d2 ⟨rfl, hb⟩
            have E2 := Lib.hid (below_step' E1.out hb)
            clear hb
            go_wp2_with fail
            refine hK.out _ _ ?_ (fun hHeld => ?_)
            · exact QX.out _ E2.out
            clear hK K
            refine rd 7 fun K hK => ?_
            go_simp
            refine (rsame10_at m m true _ _ _ _ _ _ _ _ d2 (DX.out.later E2.out) (MB.out.dat.weak.later E2.out) (GJ.out.small (by omega) (by omega)) (GJ.out.small (by omega) (by omega)) (by simp)).mono ?_
            rintro e d3 ⟨rfl, hb⟩
            have E3 := Lib.hid (below_step' E2.out hb)
            clear hb
            go_wp2_with fail
            refine hK.out _ _ ?_ (fun hHeld => ?_)
            · exact QX.out _ E3.out
            clear hK K
            refine tq 8 ?_
            refine tq 9 ?_
            refine rd 10 fun K hK => ?_
            go_simp
            refine (fixed10_any d3).mono ?_
            rintro e d4 ⟨rfl, hb⟩
            have E4 := Lib.hid (below_step' E3.out hb)
            clear hb
            go_wp2_with fail
            refine hK.out _ _ ?_ (fun hHeld => ?_)
            · exact QX.out _ E4.out
            clear hK K
            refine tq 11 ?_
            refine tq 12 ?_
            refine wpAnyH_done (by kernel_rfl) ?_ _
            clear hHeld
            go_wp2_with fail
            go_ret
            exact ⟨rfl, below_step' BY.out E4.out⟩
          · have hneg2 : ¬ at' < 0 := hneg
            have hge : (N : Int) ≤ at' := by
              have h := HAT.out
              simp [inB] at h
              omega
            have hge2 : ¬ at' < (N : Int) := by omega
            have QX : Hid (∀ w', Below y3.heap.size y3 w' → (fun w' => w'.cell? ⟨bx, 0, none⟩ = some (.int .i64 m.ep) ∧ w'.cell? ⟨bx, 1, none⟩ = some (.slice u0 k0 f0) ∧ w'.cell? ⟨bx, 2, none⟩ = some (.int .i64 m.p.node) ∧ w'.cell? ⟨bx, 3, none⟩ = some (.int .i64 m.p.state) ∧ w'.cell? ⟨bx, 4, none⟩ = some (.int .i64 m.p.steps) ∧ w'.cell? ⟨bx, 5, none⟩ = some (.slice u1 k1 f1) ∧ w'.cell? ⟨bx, 6, none⟩ = some (.slice u2 k2 f2) ∧ w'.cell? ⟨bx, 7, none⟩ = some (.slice u3 k3 f3) ∧ w'.cell? ⟨bm, 0, none⟩ = some (.int .i64 m.ep) ∧ w'.cell? ⟨bm, 1, none⟩ = some (.slice c0 s0 t0) ∧ w'.cell? ⟨bm, 2, none⟩ = some (.int .i64 m.p.node) ∧ w'.cell? ⟨bm, 3, none⟩ = some (.int .i64 m.p.state) ∧ w'.cell? ⟨bm, 4, none⟩ = some (.int .i64 m.p.steps) ∧ w'.cell? ⟨bm, 5, none⟩ = some (.slice c1 s1 t1) ∧ w'.cell? ⟨bm, 6, none⟩ = some (.slice c2 s2 t2) ∧ w'.cell? ⟨bm, 7, none⟩ = some (.slice c3 s3 t3)) w') := Lib.hid (fun w' hb => ⟨KB.out.below hb 0 _ rfl, KB.out.below hb 1 _ rfl, KB.out.below hb 2 _ rfl, KB.out.below hb 3 _ rfl, KB.out.below hb 4 _ rfl, KB.out.below hb 5 _ rfl, KB.out.below hb 6 _ rfl, KB.out.below hb 7 _ rfl, MB.out.box.below hb 0 _ rfl, MB.out.box.below hb 1 _ rfl, MB.out.box.below hb 2 _ rfl, MB.out.box.below hb 3 _ rfl, MB.out.box.below hb 4 _ rfl, MB.out.box.below hb 5 _ rfl, MB.out.box.below hb 6 _ rfl, MB.out.box.below hb 7 _ rfl⟩)
            go_wp2_with fail
            refine wp_region_held_drew (S := (fun w' => w'.cell? ⟨bx, 0, none⟩ = some (.int .i64 m.ep) ∧ w'.cell? ⟨bx, 1, none⟩ = some (.slice u0 k0 f0) ∧ w'.cell? ⟨bx, 2, none⟩ = some (.int .i64 m.p.node) ∧ w'.cell? ⟨bx, 3, none⟩ = some (.int .i64 m.p.state) ∧ w'.cell? ⟨bx, 4, none⟩ = some (.int .i64 m.p.steps) ∧ w'.cell? ⟨bx, 5, none⟩ = some (.slice u1 k1 f1) ∧ w'.cell? ⟨bx, 6, none⟩ = some (.slice u2 k2 f2) ∧ w'.cell? ⟨bx, 7, none⟩ = some (.slice u3 k3 f3) ∧ w'.cell? ⟨bm, 0, none⟩ = some (.int .i64 m.ep) ∧ w'.cell? ⟨bm, 1, none⟩ = some (.slice c0 s0 t0) ∧ w'.cell? ⟨bm, 2, none⟩ = some (.int .i64 m.p.node) ∧ w'.cell? ⟨bm, 3, none⟩ = some (.int .i64 m.p.state) ∧ w'.cell? ⟨bm, 4, none⟩ = some (.int .i64 m.p.steps) ∧ w'.cell? ⟨bm, 5, none⟩ = some (.slice c1 s1 t1) ∧ w'.cell? ⟨bm, 6, none⟩ = some (.slice c2 s2 t2) ∧ w'.cell? ⟨bm, 7, none⟩ = some (.slice c3 s3 t3))) (by kernel_rfl) ?_ (fun hHeld => ?_)
            · exact QX.out _ (below_drewN (Below.refl _ y3) 1)
            obtain ⟨d0, hd0⟩ : ∃ y, y = y3.drew := ⟨_, rfl⟩
            rw [← hd0] at hHeld ⊢
            have E0 : Hid (Below y3.heap.size y3 d0) := Lib.hid (by rw [hd0]; exact below_drewN (Below.refl _ y3) 1)
            clear hd0
            refine tq 0 ?_
            refine tq 1 ?_
            refine tq 2 ?_
            refine tq 3 ?_
            refine tq 5 ?_
            refine rd 4 fun K hK => ?_
            go_simp
            refine (ref10_at m _ _ _ _ d0 ⟨_, _, _, _, _, _, _, _, _, _, _, _, rfl, rfl, rfl, rfl⟩).mono ?_
            rintro e d1 ⟨rfl, hb⟩
            have E1 := Lib.hid (below_step' E0.out hb)
            clear hb
            go_wp2_with fail
            refine hK.out _ _ ?_ (fun hHeld => ?_)
            · exact QX.out _ E1.out
            clear hK K
            refine rd 6 fun K hK => ?_
            go_simp
            refine (ref10_at m _ _ _ _ d1 ⟨_, _, _, _, _, _, _, _, _, _, _, _, rfl, rfl, rfl, rfl⟩).mono ?_
            rintro e d2 ⟨rfl, hb⟩
            have E2 := Lib.hid (below_step' E1.out hb)
            clear hb
            go_wp2_with fail
            refine hK.out _ _ ?_ (fun hHeld => ?_)
            · exact QX.out _ E2.out
            clear hK K
            refine rd 7 fun K hK => ?_
            go_simp
            refine (rsame10_at m m true _ _ _ _ _ _ _ _ d2 (DX.out.later E2.out) (MB.out.dat.weak.later E2.out) (GJ.out.small (by omega) (by omega)) (GJ.out.small (by omega) (by omega)) (by simp)).mono ?_
            rintro e d3 ⟨rfl, hb⟩
            have E3 := Lib.hid (below_step' E2.out hb)
            clear hb
            go_wp2_with fail
            refine hK.out _ _ ?_ (fun hHeld => ?_)
            · exact QX.out _ E3.out
            clear hK K
            refine tq 8 ?_
            refine tq 9 ?_
            refine rd 10 fun K hK => ?_
            go_simp
            refine (fixed10_any d3).mono ?_
            rintro e d4 ⟨rfl, hb⟩
            have E4 := Lib.hid (below_step' E3.out hb)
            clear hb
            go_wp2_with fail
            refine hK.out _ _ ?_ (fun hHeld => ?_)
            · exact QX.out _ E4.out
            clear hK K
            refine tq 11 ?_
            refine tq 12 ?_
            refine wpAnyH_done (by kernel_rfl) ?_ _
            clear hHeld
            go_wp2_with fail
            go_ret
            exact ⟨rfl, below_step' BY.out E4.out⟩
        · have hat : 0 ≤ at' ∧ at' < N := by simpa [inB] using hat
          obtain ⟨p, rfl⟩ : ∃ p : Nat, at' = p := ⟨at'.toNat, by omega⟩
          have hpN : p < N := by omega
          have hv2 : ¬ (p : Int) < 0 := by omega
          have hv3 : (p : Int) < N := by omega
          have hv4 : ¬ (N : Int) ≤ p := by omega
          have MC := marker_at m (endsH N 8) 2 p _ _ _ _ _ _ wx MX.out.dat.weak HX.out (GJ.out.small (by omega) (by omega)) (ends_small N 8 (by omega)).1 (by rw [(ends_small N 8 (by omega)).2]; omega)
          rw [GJ.out.yes 8 (by simp [inB]; omega)] at MC
          have MCH := Lib.hid (MC : Calls _ _ _ _ (MkTold2 (closeM (beginM (endsH N 8) 2) p) true wx))
          clear MC hat
          have cc0 := MX.out.box 0 _ rfl
          have cc1 := MX.out.box 1 _ rfl
          have cc2 := MX.out.box 2 _ rfl
          have cc3 := MX.out.box 3 _ rfl
          have cc4 := MX.out.box 4 _ rfl
          have cc5 := MX.out.box 5 _ rfl
          have cc6 := MX.out.box 6 _ rfl
          have cc7 := MX.out.box 7 _ rfl
          have hh0 := KX.out 0 _ rfl
          have hh1 := KX.out 1 _ rfl
          have hh2 := KX.out 2 _ rfl
          have hh3 := KX.out 3 _ rfl
          have hh4 := KX.out 4 _ rfl
          go_wp2_with fail
          refine MCH.out.mono ?_
          rintro e w3 ⟨v0, v1, v2, v3, rfl, hU, hb⟩
          obtain ⟨u0, u1, u2, u3, k0, k1, k2, k3, f0, f1, f2, f3, ff0, ff1, ff2, ff3⟩ := mk_slices hU.weak
          subst ff0
          subst ff1
          subst ff2
          subst ff3
          have HU3 := Lib.hid hU.weak
          have B3 := Lib.hid hb
          clear hU hb cc0 cc1 cc2 cc3 cc4 cc5 cc6 cc7 hh0 hh1 hh2 hh3 hh4
          rw [show ∀ a b c d, mkv (closeM (beginM (endsH N 8) 2) p) a b c d = .agg #[.int .i64 2, a, .int .i64 1, .int .i64 2, .int .i64 8, b, c, d] from fun _ _ _ _ => rfl]
          clear MCH
          have l0 : N = k0 := ((bools_len (mk_has HU3.out).1).trans (by rw [anew_op]; simp)).symm
          have l2 : N = k2 := ((lls_len (pc_has (mk_has HU3.out).2).2.1).trans (by rw [anew_inn]; simp)).symm
          subst l0
          subst l2
          go_upto_region 10 with fail
          obtain ⟨bx, hbx⟩ : ∃ b, b = w3.heap.size := ⟨_, rfl⟩
          obtain ⟨y3, hy3⟩ : ∃ y, y = w3.alloc (.cells #[.int .i64 2, .slice u0 N f0, .int .i64 1, .int .i64 2, .int .i64 8, .slice u1 k1 f1, .slice u2 N f2, .slice u3 k3 f3] 33) := ⟨_, rfl⟩
          have hn3 : Below w3.heap.size w3 y3 := by rw [hy3]; exact below_new _ _
          have KB : Hid (BoxAt bx [.int .i64 2, .slice u0 N f0, .int .i64 1, .int .i64 2, .int .i64 8, .slice u1 k1 f1, .slice u2 N f2, .slice u3 k3 f3] y3) := Lib.hid (by rw [hbx, hy3]; exact boxAt_new w3 [.int .i64 2, .slice u0 N f0, .int .i64 1, .int .i64 2, .int .i64 8, .slice u1 k1 f1, .slice u2 N f2, .slice u3 k3 f3] _)
          have DX := Lib.hid (HU3.out.later hn3)
          have MB := Lib.hid (MX.out.below (below_step' B3.out hn3))
          have BY := Lib.hid (below_step' BX.out (below_step' B3.out hn3))
          rw [← hy3, ← hbx]
          clear hy3 hbx hn3 HU3 MX B3 BX
          have cc0 := KB.out 0 _ rfl
          have cc1 := KB.out 1 _ rfl
          have cc2 := KB.out 2 _ rfl
          have cc3 := KB.out 3 _ rfl
          have cc4 := KB.out 4 _ rfl
          have cc5 := KB.out 5 _ rfl
          have cc6 := KB.out 6 _ rfl
          have cc7 := KB.out 7 _ rfl
          go_wp2_with fail
          clear cc0 cc1 cc2 cc3 cc4 cc5 cc6 cc7
          go_loopw [13] (fun i wr => ∃ j : Nat, i = .int .i64 j ∧ j ≤ N ∧ Below y3.heap.size y3 wr) (fun i _ => N - (intOf i).toNat)
          case atStart => exact ⟨0, rfl, Nat.zero_le _, Below.refl _ _⟩
          case round =>
            obtain ⟨j, rfl, hj, hb⟩ := hrel
            obtain ⟨wr2, hw2⟩ : ∃ x, x = wr := ⟨_, rfl⟩
            subst hw2
            have BL := Lib.hid hb
            have c1 := KB.out.below hb 1 _ rfl
            have c6 := KB.out.below hb 6 _ rfl
            clear hb
            by_cases hlt : j < N
            · have hlt' : (j : Int) < N := by omega
              obtain ⟨ba, oa, e, xa⟩ := bl_at ((mk_has DX.out).1.later BL.out) (by rw [anew_op]; exact anew_get hlt)
              subst e
              obtain ⟨bb, ob, ma, mc, e, -, -, xb, -⟩ := lls_at ((pc_has (mk_has DX.out).2).2.1.later BL.out) (i := j) (m := []) (by rw [anew_inn]; simp [hlt])
              subst e
              by_cases hjp : j = p
              · have xa' : wr2.cell? ⟨ba, oa + j, none⟩ = some (.bool false) := by rw [xa]; simp [hjp]
                have hjp2 : ((j : Int) == (p : Int)) = true := by simp [hjp]
                clear xa hjp
                go_wp2_with fail
                go_roundw
                case rel => exact ⟨j + 1, by go_num, by omega, BL.out⟩
                case measure => simp [intOf]; omega
              · have xa' : wr2.cell? ⟨ba, oa + j, none⟩ = some (.bool true) := by rw [xa]; simp [hjp]
                have hjp2 : ((j : Int) == (p : Int)) = false := by simp; omega
                clear xa hjp
                go_wp2_with fail
                go_roundw
                case rel => exact ⟨j + 1, by go_num, by omega, BL.out⟩
                case measure => simp [intOf]; omega
            · obtain rfl : j = N := by omega
              have hj3 : ¬ (j : Int) < j := by omega
              have DN := Lib.hid (done_at (closeM (beginM (endsH j 8) 2) p) 2 _ _ _ _ wr2 (DX.out.later BL.out) (anew_small (by omega)))
              rw [anew_done hpN] at DN
              rw [show ∀ a b c d, mkv (closeM (beginM (endsH j 8) 2) p) a b c d = .agg #[.int .i64 2, a, .int .i64 1, .int .i64 2, .int .i64 8, b, c, d] from fun _ _ _ _ => rfl] at DN
              clear c1 c6
              have cc0 := (KB.out.below BL.out) 0 _ rfl
              have cc1 := (KB.out.below BL.out) 1 _ rfl
              have cc2 := (KB.out.below BL.out) 2 _ rfl
              have cc3 := (KB.out.below BL.out) 3 _ rfl
              have cc4 := (KB.out.below BL.out) 4 _ rfl
              have cc5 := (KB.out.below BL.out) 5 _ rfl
              have cc6 := (KB.out.below BL.out) 6 _ rfl
              have cc7 := (KB.out.below BL.out) 7 _ rfl
              by_cases h1 : j = 1
              · rw [show decide (j = 1) = true by simp [h1]] at DN
                have h1' : ((j : Int) == 1) = true := by simp; omega
                have H1 := Lib.hid h1
                clear h1
                go_wp2_with fail
                refine DN.out.mono ?_
                rintro e w4 ⟨rfl, hb⟩
                have B4 := Lib.hid (below_step' BL.out hb)
                clear hb cc0 cc1 cc2 cc3 cc4 cc5 cc6 cc7 DN
                go_wp2_with fail
                refine (fixed10_any w4).mono ?_
                rintro e w5 ⟨rfl, hb⟩
                have B5 := Lib.hid (below_step' B4.out hb)
                clear hb
                go_wp2_with fail
                go_ret
                exact ⟨rfl, below_step' BY.out B5.out⟩
              · rw [show decide (j = 1) = false by simp [h1]] at DN
                have h1' : ((j : Int) == 1) = false := by simp; omega
                clear h1
                go_wp2_with fail
                refine DN.out.mono ?_
                rintro e w4 ⟨rfl, hb⟩
                have B4 := Lib.hid (below_step' BL.out hb)
                clear hb cc0 cc1 cc2 cc3 cc4 cc5 cc6 cc7 DN
                go_wp2_with fail
                refine (fixed10_any w4).mono ?_
                rintro e w5 ⟨rfl, hb⟩
                have B5 := Lib.hid (below_step' B4.out hb)
                clear hb
                go_wp2_with fail
                go_ret
                exact ⟨rfl, below_step' BY.out B5.out⟩
    · obtain rfl : j = k := by omega
      have hj3 : ¬ (j : Int) < j := by omega
      have KHr := Lib.hid (KH.out.same SJ.out (Ne.symm LB.out.2.2.1))
      have OHr := Lib.hid (OH.out.same SJ.out (Ne.symm LB.out.2.2.1))
      have x2 := KHr.out 2 _ rfl
      have gx2 := OHr.out.2 2
      go_upto_region 9 with fail
      change Code.wp _ _ _ _ (setN wr1 bh 2 [.int .i64 8])
      have KX : Hid (BoxAt bh [.int .i64 1, .int .i64 2, .int .i64 8, .slice ga N gc, .slice gb N gd] (setN wr1 bh 2 [.int .i64 8])) := Lib.hid (setN_box [.int .i64 8] 2 _ wr1 KHr.out (by simp))
      have MX := Lib.hid (MJ.out.far 2 [.int .i64 8] LB.out.2.2.1)
      have HX : Hid (HasL (setN wr1 bh 2 [.int .i64 8]) [.slice ga N gc, .slice gb N gd] (endsH N 8).d) := Lib.hid (((HG.out.same (SJ.out.sub (fun q h => h.2))).same (setN_same (P := fun q => q ≠ bh ∧ q ≠ bm) (b := bh) (fun h => h.1 rfl) [.int .i64 8] 2 wr1 (SameOn.refl _ _))).weak)
      have BX := Lib.hid (setN_below LB.out.2.2.2.2 [.int .i64 8] 2 wr1 BJ.out)
      obtain ⟨wx, hwx⟩ : ∃ x, x = setN wr1 bh 2 [.int .i64 8] := ⟨_, rfl⟩
      rw [← hwx] at KX MX HX BX ⊢
      clear hwx x2 gx2 KHr OHr KH OH MJ BJ SJ HG
      by_cases hat : inB at' N = false
      · skip
        have MC := marker_at m (endsH N 8) 2 at' _ _ _ _ _ _ wx MX.out.dat.weak HX.out (GJ.out.small (by omega) (by omega)) (ends_small N 8 (by omega)).1 (by rw [(ends_small N 8 (by omega)).2]; omega)
        rw [GJ.out.no 8 hat] at MC
        have MCH := Lib.hid (MC : Calls _ _ _ _ (MkTold2 m false wx))
        have HAT := Lib.hid hat
        clear MC hat
        have cc0 := MX.out.box 0 _ rfl
        have cc1 := MX.out.box 1 _ rfl
        have cc2 := MX.out.box 2 _ rfl
        have cc3 := MX.out.box 3 _ rfl
        have cc4 := MX.out.box 4 _ rfl
        have cc5 := MX.out.box 5 _ rfl
        have cc6 := MX.out.box 6 _ rfl
        have cc7 := MX.out.box 7 _ rfl
        have hh0 := KX.out 0 _ rfl
        have hh1 := KX.out 1 _ rfl
        have hh2 := KX.out 2 _ rfl
        have hh3 := KX.out 3 _ rfl
        have hh4 := KX.out 4 _ rfl
        go_wp2_with fail
        refine MCH.out.mono ?_
        rintro e w3 ⟨v0, v1, v2, v3, rfl, hU, hb⟩
        obtain ⟨u0, u1, u2, u3, k0, k1, k2, k3, f0, f1, f2, f3, ff0, ff1, ff2, ff3⟩ := mk_slices hU.weak
        subst ff0
        subst ff1
        subst ff2
        subst ff3
        have HU3 := Lib.hid hU.weak
        have B3 := Lib.hid hb
        clear hU hb cc0 cc1 cc2 cc3 cc4 cc5 cc6 cc7 hh0 hh1 hh2 hh3 hh4
        unfold mkv
        clear MCH
        go_upto_region 10 with fail
        obtain ⟨bx, hbx⟩ : ∃ b, b = w3.heap.size := ⟨_, rfl⟩
        obtain ⟨y3, hy3⟩ : ∃ y, y = w3.alloc (.cells #[.int .i64 m.ep, .slice u0 k0 f0, .int .i64 m.p.node, .int .i64 m.p.state, .int .i64 m.p.steps, .slice u1 k1 f1, .slice u2 k2 f2, .slice u3 k3 f3] 33) := ⟨_, rfl⟩
        have hn3 : Below w3.heap.size w3 y3 := by rw [hy3]; exact below_new _ _
        have KB : Hid (BoxAt bx [.int .i64 m.ep, .slice u0 k0 f0, .int .i64 m.p.node, .int .i64 m.p.state, .int .i64 m.p.steps, .slice u1 k1 f1, .slice u2 k2 f2, .slice u3 k3 f3] y3) := Lib.hid (by rw [hbx, hy3]; exact boxAt_new w3 [.int .i64 m.ep, .slice u0 k0 f0, .int .i64 m.p.node, .int .i64 m.p.state, .int .i64 m.p.steps, .slice u1 k1 f1, .slice u2 k2 f2, .slice u3 k3 f3] _)
        have DX := Lib.hid (HU3.out.later hn3)
        have MB := Lib.hid (MX.out.below (below_step' B3.out hn3))
        have BY := Lib.hid (below_step' BX.out (below_step' B3.out hn3))
        rw [← hy3, ← hbx]
        clear hy3 hbx hn3 HU3 MX B3 BX
        by_cases hneg : at' < 0
        · have hneg2 : at' < 0 := hneg
          have QX : Hid (∀ w', Below y3.heap.size y3 w' → (fun w' => w'.cell? ⟨bx, 0, none⟩ = some (.int .i64 m.ep) ∧ w'.cell? ⟨bx, 1, none⟩ = some (.slice u0 k0 f0) ∧ w'.cell? ⟨bx, 2, none⟩ = some (.int .i64 m.p.node) ∧ w'.cell? ⟨bx, 3, none⟩ = some (.int .i64 m.p.state) ∧ w'.cell? ⟨bx, 4, none⟩ = some (.int .i64 m.p.steps) ∧ w'.cell? ⟨bx, 5, none⟩ = some (.slice u1 k1 f1) ∧ w'.cell? ⟨bx, 6, none⟩ = some (.slice u2 k2 f2) ∧ w'.cell? ⟨bx, 7, none⟩ = some (.slice u3 k3 f3) ∧ w'.cell? ⟨bm, 0, none⟩ = some (.int .i64 m.ep) ∧ w'.cell? ⟨bm, 1, none⟩ = some (.slice c0 s0 t0) ∧ w'.cell? ⟨bm, 2, none⟩ = some (.int .i64 m.p.node) ∧ w'.cell? ⟨bm, 3, none⟩ = some (.int .i64 m.p.state) ∧ w'.cell? ⟨bm, 4, none⟩ = some (.int .i64 m.p.steps) ∧ w'.cell? ⟨bm, 5, none⟩ = some (.slice c1 s1 t1) ∧ w'.cell? ⟨bm, 6, none⟩ = some (.slice c2 s2 t2) ∧ w'.cell? ⟨bm, 7, none⟩ = some (.slice c3 s3 t3)) w') := Lib.hid (fun w' hb => ⟨KB.out.below hb 0 _ rfl, KB.out.below hb 1 _ rfl, KB.out.below hb 2 _ rfl, KB.out.below hb 3 _ rfl, KB.out.below hb 4 _ rfl, KB.out.below hb 5 _ rfl, KB.out.below hb 6 _ rfl, KB.out.below hb 7 _ rfl, MB.out.box.below hb 0 _ rfl, MB.out.box.below hb 1 _ rfl, MB.out.box.below hb 2 _ rfl, MB.out.box.below hb 3 _ rfl, MB.out.box.below hb 4 _ rfl, MB.out.box.below hb 5 _ rfl, MB.out.box.below hb 6 _ rfl, MB.out.box.below hb 7 _ rfl⟩)
          go_wp2_with fail
          refine wp_region_held_drew (S := (fun w' => w'.cell? ⟨bx, 0, none⟩ = some (.int .i64 m.ep) ∧ w'.cell? ⟨bx, 1, none⟩ = some (.slice u0 k0 f0) ∧ w'.cell? ⟨bx, 2, none⟩ = some (.int .i64 m.p.node) ∧ w'.cell? ⟨bx, 3, none⟩ = some (.int .i64 m.p.state) ∧ w'.cell? ⟨bx, 4, none⟩ = some (.int .i64 m.p.steps) ∧ w'.cell? ⟨bx, 5, none⟩ = some (.slice u1 k1 f1) ∧ w'.cell? ⟨bx, 6, none⟩ = some (.slice u2 k2 f2) ∧ w'.cell? ⟨bx, 7, none⟩ = some (.slice u3 k3 f3) ∧ w'.cell? ⟨bm, 0, none⟩ = some (.int .i64 m.ep) ∧ w'.cell? ⟨bm, 1, none⟩ = some (.slice c0 s0 t0) ∧ w'.cell? ⟨bm, 2, none⟩ = some (.int .i64 m.p.node) ∧ w'.cell? ⟨bm, 3, none⟩ = some (.int .i64 m.p.state) ∧ w'.cell? ⟨bm, 4, none⟩ = some (.int .i64 m.p.steps) ∧ w'.cell? ⟨bm, 5, none⟩ = some (.slice c1 s1 t1) ∧ w'.cell? ⟨bm, 6, none⟩ = some (.slice c2 s2 t2) ∧ w'.cell? ⟨bm, 7, none⟩ = some (.slice c3 s3 t3))) (by kernel_rfl) ?_ (fun hHeld => ?_)
          · exact QX.out _ (below_drewN (Below.refl _ y3) 1)
          obtain ⟨d0, hd0⟩ : ∃ y, y = y3.drew := ⟨_, rfl⟩
          rw [← hd0] at hHeld ⊢
          have E0 : Hid (Below y3.heap.size y3 d0) := Lib.hid (by rw [hd0]; exact below_drewN (Below.refl _ y3) 1)
          clear hd0
          refine tq 0 ?_
          refine tq 1 ?_
          refine tq 2 ?_
          refine tq 3 ?_
          refine tq 5 ?_
          refine rd 4 fun K hK => ?_
          go_simp
          refine (ref10_at m _ _ _ _ d0 ⟨_, _, _, _, _, _, _, _, _, _, _, _, rfl, rfl, rfl, rfl⟩).mono ?_
          rintro e d1 ⟨rfl, hb⟩
          have E1 := Lib.hid (below_step' E0.out hb)
          clear hb
          go_wp2_with fail
          refine hK.out _ _ ?_ (fun hHeld => ?_)
          · exact QX.out _ E1.out
          clear hK K
          refine rd 6 fun K hK => ?_
          go_simp
          refine (ref10_at m _ _ _ _ d1 ⟨_, _, _, _, _, _, _, _, _, _, _, _, rfl, rfl, rfl, rfl⟩).mono ?_
          rintro e d2 ⟨rfl, hb⟩
          have E2 := Lib.hid (below_step' E1.out hb)
          clear hb
          go_wp2_with fail
          refine hK.out _ _ ?_ (fun hHeld => ?_)
          · exact QX.out _ E2.out
          clear hK K
          refine rd 7 fun K hK => ?_
          go_simp
          refine (rsame10_at m m true _ _ _ _ _ _ _ _ d2 (DX.out.later E2.out) (MB.out.dat.weak.later E2.out) (GJ.out.small (by omega) (by omega)) (GJ.out.small (by omega) (by omega)) (by simp)).mono ?_
          rintro e d3 ⟨rfl, hb⟩
          have E3 := Lib.hid (below_step' E2.out hb)
          clear hb
          go_wp2_with fail
          refine hK.out _ _ ?_ (fun hHeld => ?_)
          · exact QX.out _ E3.out
          clear hK K
          refine tq 8 ?_
          refine tq 9 ?_
          refine rd 10 fun K hK => ?_
          go_simp
          refine (fixed10_any d3).mono ?_
          rintro e d4 ⟨rfl, hb⟩
          have E4 := Lib.hid (below_step' E3.out hb)
          clear hb
          go_wp2_with fail
          refine hK.out _ _ ?_ (fun hHeld => ?_)
          · exact QX.out _ E4.out
          clear hK K
          refine tq 11 ?_
          refine tq 12 ?_
          refine wpAnyH_done (by kernel_rfl) ?_ _
          clear hHeld
          go_wp2_with fail
          go_ret
          exact ⟨rfl, below_step' BY.out E4.out⟩
        · have hneg2 : ¬ at' < 0 := hneg
          have hge : (N : Int) ≤ at' := by
            have h := HAT.out
            simp [inB] at h
            omega
          have hge2 : ¬ at' < (N : Int) := by omega
          have QX : Hid (∀ w', Below y3.heap.size y3 w' → (fun w' => w'.cell? ⟨bx, 0, none⟩ = some (.int .i64 m.ep) ∧ w'.cell? ⟨bx, 1, none⟩ = some (.slice u0 k0 f0) ∧ w'.cell? ⟨bx, 2, none⟩ = some (.int .i64 m.p.node) ∧ w'.cell? ⟨bx, 3, none⟩ = some (.int .i64 m.p.state) ∧ w'.cell? ⟨bx, 4, none⟩ = some (.int .i64 m.p.steps) ∧ w'.cell? ⟨bx, 5, none⟩ = some (.slice u1 k1 f1) ∧ w'.cell? ⟨bx, 6, none⟩ = some (.slice u2 k2 f2) ∧ w'.cell? ⟨bx, 7, none⟩ = some (.slice u3 k3 f3) ∧ w'.cell? ⟨bm, 0, none⟩ = some (.int .i64 m.ep) ∧ w'.cell? ⟨bm, 1, none⟩ = some (.slice c0 s0 t0) ∧ w'.cell? ⟨bm, 2, none⟩ = some (.int .i64 m.p.node) ∧ w'.cell? ⟨bm, 3, none⟩ = some (.int .i64 m.p.state) ∧ w'.cell? ⟨bm, 4, none⟩ = some (.int .i64 m.p.steps) ∧ w'.cell? ⟨bm, 5, none⟩ = some (.slice c1 s1 t1) ∧ w'.cell? ⟨bm, 6, none⟩ = some (.slice c2 s2 t2) ∧ w'.cell? ⟨bm, 7, none⟩ = some (.slice c3 s3 t3)) w') := Lib.hid (fun w' hb => ⟨KB.out.below hb 0 _ rfl, KB.out.below hb 1 _ rfl, KB.out.below hb 2 _ rfl, KB.out.below hb 3 _ rfl, KB.out.below hb 4 _ rfl, KB.out.below hb 5 _ rfl, KB.out.below hb 6 _ rfl, KB.out.below hb 7 _ rfl, MB.out.box.below hb 0 _ rfl, MB.out.box.below hb 1 _ rfl, MB.out.box.below hb 2 _ rfl, MB.out.box.below hb 3 _ rfl, MB.out.box.below hb 4 _ rfl, MB.out.box.below hb 5 _ rfl, MB.out.box.below hb 6 _ rfl, MB.out.box.below hb 7 _ rfl⟩)
          go_wp2_with fail
          refine wp_region_held_drew (S := (fun w' => w'.cell? ⟨bx, 0, none⟩ = some (.int .i64 m.ep) ∧ w'.cell? ⟨bx, 1, none⟩ = some (.slice u0 k0 f0) ∧ w'.cell? ⟨bx, 2, none⟩ = some (.int .i64 m.p.node) ∧ w'.cell? ⟨bx, 3, none⟩ = some (.int .i64 m.p.state) ∧ w'.cell? ⟨bx, 4, none⟩ = some (.int .i64 m.p.steps) ∧ w'.cell? ⟨bx, 5, none⟩ = some (.slice u1 k1 f1) ∧ w'.cell? ⟨bx, 6, none⟩ = some (.slice u2 k2 f2) ∧ w'.cell? ⟨bx, 7, none⟩ = some (.slice u3 k3 f3) ∧ w'.cell? ⟨bm, 0, none⟩ = some (.int .i64 m.ep) ∧ w'.cell? ⟨bm, 1, none⟩ = some (.slice c0 s0 t0) ∧ w'.cell? ⟨bm, 2, none⟩ = some (.int .i64 m.p.node) ∧ w'.cell? ⟨bm, 3, none⟩ = some (.int .i64 m.p.state) ∧ w'.cell? ⟨bm, 4, none⟩ = some (.int .i64 m.p.steps) ∧ w'.cell? ⟨bm, 5, none⟩ = some (.slice c1 s1 t1) ∧ w'.cell? ⟨bm, 6, none⟩ = some (.slice c2 s2 t2) ∧ w'.cell? ⟨bm, 7, none⟩ = some (.slice c3 s3 t3))) (by kernel_rfl) ?_ (fun hHeld => ?_)
          · exact QX.out _ (below_drewN (Below.refl _ y3) 1)
          obtain ⟨d0, hd0⟩ : ∃ y, y = y3.drew := ⟨_, rfl⟩
          rw [← hd0] at hHeld ⊢
          have E0 : Hid (Below y3.heap.size y3 d0) := Lib.hid (by rw [hd0]; exact below_drewN (Below.refl _ y3) 1)
          clear hd0
          refine tq 0 ?_
          refine tq 1 ?_
          refine tq 2 ?_
          refine tq 3 ?_
          refine tq 5 ?_
          refine rd 4 fun K hK => ?_
          go_simp
          refine (ref10_at m _ _ _ _ d0 ⟨_, _, _, _, _, _, _, _, _, _, _, _, rfl, rfl, rfl, rfl⟩).mono ?_
          rintro e d1 ⟨rfl, hb⟩
          have E1 := Lib.hid (below_step' E0.out hb)
          clear hb
          go_wp2_with fail
          refine hK.out _ _ ?_ (fun hHeld => ?_)
          · exact QX.out _ E1.out
          clear hK K
          refine rd 6 fun K hK => ?_
          go_simp
          refine (ref10_at m _ _ _ _ d1 ⟨_, _, _, _, _, _, _, _, _, _, _, _, rfl, rfl, rfl, rfl⟩).mono ?_
          rintro e d2 ⟨rfl, hb⟩
          have E2 := Lib.hid (below_step' E1.out hb)
          clear hb
          go_wp2_with fail
          refine hK.out _ _ ?_ (fun hHeld => ?_)
          · exact QX.out _ E2.out
          clear hK K
          refine rd 7 fun K hK => ?_
          go_simp
          refine (rsame10_at m m true _ _ _ _ _ _ _ _ d2 (DX.out.later E2.out) (MB.out.dat.weak.later E2.out) (GJ.out.small (by omega) (by omega)) (GJ.out.small (by omega) (by omega)) (by simp)).mono ?_
          rintro e d3 ⟨rfl, hb⟩
          have E3 := Lib.hid (below_step' E2.out hb)
          clear hb
          go_wp2_with fail
          refine hK.out _ _ ?_ (fun hHeld => ?_)
          · exact QX.out _ E3.out
          clear hK K
          refine tq 8 ?_
          refine tq 9 ?_
          refine rd 10 fun K hK => ?_
          go_simp
          refine (fixed10_any d3).mono ?_
          rintro e d4 ⟨rfl, hb⟩
          have E4 := Lib.hid (below_step' E3.out hb)
          clear hb
          go_wp2_with fail
          refine hK.out _ _ ?_ (fun hHeld => ?_)
          · exact QX.out _ E4.out
          clear hK K
          refine tq 11 ?_
          refine tq 12 ?_
          refine wpAnyH_done (by kernel_rfl) ?_ _
          clear hHeld
          go_wp2_with fail
          go_ret
          exact ⟨rfl, below_step' BY.out E4.out⟩
      · have hat : 0 ≤ at' ∧ at' < N := by simpa [inB] using hat
        obtain ⟨p, rfl⟩ : ∃ p : Nat, at' = p := ⟨at'.toNat, by omega⟩
        have hpN : p < N := by omega
        have hv2 : ¬ (p : Int) < 0 := by omega
        have hv3 : (p : Int) < N := by omega
        have hv4 : ¬ (N : Int) ≤ p := by omega
        have MC := marker_at m (endsH N 8) 2 p _ _ _ _ _ _ wx MX.out.dat.weak HX.out (GJ.out.small (by omega) (by omega)) (ends_small N 8 (by omega)).1 (by rw [(ends_small N 8 (by omega)).2]; omega)
        rw [GJ.out.yes 8 (by simp [inB]; omega)] at MC
        have MCH := Lib.hid (MC : Calls _ _ _ _ (MkTold2 (closeM (beginM (endsH N 8) 2) p) true wx))
        clear MC hat
        have cc0 := MX.out.box 0 _ rfl
        have cc1 := MX.out.box 1 _ rfl
        have cc2 := MX.out.box 2 _ rfl
        have cc3 := MX.out.box 3 _ rfl
        have cc4 := MX.out.box 4 _ rfl
        have cc5 := MX.out.box 5 _ rfl
        have cc6 := MX.out.box 6 _ rfl
        have cc7 := MX.out.box 7 _ rfl
        have hh0 := KX.out 0 _ rfl
        have hh1 := KX.out 1 _ rfl
        have hh2 := KX.out 2 _ rfl
        have hh3 := KX.out 3 _ rfl
        have hh4 := KX.out 4 _ rfl
        go_wp2_with fail
        refine MCH.out.mono ?_
        rintro e w3 ⟨v0, v1, v2, v3, rfl, hU, hb⟩
        obtain ⟨u0, u1, u2, u3, k0, k1, k2, k3, f0, f1, f2, f3, ff0, ff1, ff2, ff3⟩ := mk_slices hU.weak
        subst ff0
        subst ff1
        subst ff2
        subst ff3
        have HU3 := Lib.hid hU.weak
        have B3 := Lib.hid hb
        clear hU hb cc0 cc1 cc2 cc3 cc4 cc5 cc6 cc7 hh0 hh1 hh2 hh3 hh4
        rw [show ∀ a b c d, mkv (closeM (beginM (endsH N 8) 2) p) a b c d = .agg #[.int .i64 2, a, .int .i64 1, .int .i64 2, .int .i64 8, b, c, d] from fun _ _ _ _ => rfl]
        clear MCH
        have l0 : N = k0 := ((bools_len (mk_has HU3.out).1).trans (by rw [anew_op]; simp)).symm
        have l2 : N = k2 := ((lls_len (pc_has (mk_has HU3.out).2).2.1).trans (by rw [anew_inn]; simp)).symm
        subst l0
        subst l2
        go_upto_region 10 with fail
        obtain ⟨bx, hbx⟩ : ∃ b, b = w3.heap.size := ⟨_, rfl⟩
        obtain ⟨y3, hy3⟩ : ∃ y, y = w3.alloc (.cells #[.int .i64 2, .slice u0 N f0, .int .i64 1, .int .i64 2, .int .i64 8, .slice u1 k1 f1, .slice u2 N f2, .slice u3 k3 f3] 33) := ⟨_, rfl⟩
        have hn3 : Below w3.heap.size w3 y3 := by rw [hy3]; exact below_new _ _
        have KB : Hid (BoxAt bx [.int .i64 2, .slice u0 N f0, .int .i64 1, .int .i64 2, .int .i64 8, .slice u1 k1 f1, .slice u2 N f2, .slice u3 k3 f3] y3) := Lib.hid (by rw [hbx, hy3]; exact boxAt_new w3 [.int .i64 2, .slice u0 N f0, .int .i64 1, .int .i64 2, .int .i64 8, .slice u1 k1 f1, .slice u2 N f2, .slice u3 k3 f3] _)
        have DX := Lib.hid (HU3.out.later hn3)
        have MB := Lib.hid (MX.out.below (below_step' B3.out hn3))
        have BY := Lib.hid (below_step' BX.out (below_step' B3.out hn3))
        rw [← hy3, ← hbx]
        clear hy3 hbx hn3 HU3 MX B3 BX
        have cc0 := KB.out 0 _ rfl
        have cc1 := KB.out 1 _ rfl
        have cc2 := KB.out 2 _ rfl
        have cc3 := KB.out 3 _ rfl
        have cc4 := KB.out 4 _ rfl
        have cc5 := KB.out 5 _ rfl
        have cc6 := KB.out 6 _ rfl
        have cc7 := KB.out 7 _ rfl
        go_wp2_with fail
        clear cc0 cc1 cc2 cc3 cc4 cc5 cc6 cc7
        go_loopw [13] (fun i wr => ∃ j : Nat, i = .int .i64 j ∧ j ≤ N ∧ Below y3.heap.size y3 wr) (fun i _ => N - (intOf i).toNat)
        case atStart => exact ⟨0, rfl, Nat.zero_le _, Below.refl _ _⟩
        case round =>
          obtain ⟨j, rfl, hj, hb⟩ := hrel
          obtain ⟨wr2, hw2⟩ : ∃ x, x = wr := ⟨_, rfl⟩
          subst hw2
          have BL := Lib.hid hb
          have c1 := KB.out.below hb 1 _ rfl
          have c6 := KB.out.below hb 6 _ rfl
          clear hb
          by_cases hlt : j < N
          · have hlt' : (j : Int) < N := by omega
            obtain ⟨ba, oa, e, xa⟩ := bl_at ((mk_has DX.out).1.later BL.out) (by rw [anew_op]; exact anew_get hlt)
            subst e
            obtain ⟨bb, ob, ma, mc, e, -, -, xb, -⟩ := lls_at ((pc_has (mk_has DX.out).2).2.1.later BL.out) (i := j) (m := []) (by rw [anew_inn]; simp [hlt])
            subst e
            by_cases hjp : j = p
            · have xa' : wr2.cell? ⟨ba, oa + j, none⟩ = some (.bool false) := by rw [xa]; simp [hjp]
              have hjp2 : ((j : Int) == (p : Int)) = true := by simp [hjp]
              clear xa hjp
              go_wp2_with fail
              go_roundw
              case rel => exact ⟨j + 1, by go_num, by omega, BL.out⟩
              case measure => simp [intOf]; omega
            · have xa' : wr2.cell? ⟨ba, oa + j, none⟩ = some (.bool true) := by rw [xa]; simp [hjp]
              have hjp2 : ((j : Int) == (p : Int)) = false := by simp; omega
              clear xa hjp
              go_wp2_with fail
              go_roundw
              case rel => exact ⟨j + 1, by go_num, by omega, BL.out⟩
              case measure => simp [intOf]; omega
          · obtain rfl : j = N := by omega
            have hj3 : ¬ (j : Int) < j := by omega
            have DN := Lib.hid (done_at (closeM (beginM (endsH j 8) 2) p) 2 _ _ _ _ wr2 (DX.out.later BL.out) (anew_small (by omega)))
            rw [anew_done hpN] at DN
            rw [show ∀ a b c d, mkv (closeM (beginM (endsH j 8) 2) p) a b c d = .agg #[.int .i64 2, a, .int .i64 1, .int .i64 2, .int .i64 8, b, c, d] from fun _ _ _ _ => rfl] at DN
            clear c1 c6
            have cc0 := (KB.out.below BL.out) 0 _ rfl
            have cc1 := (KB.out.below BL.out) 1 _ rfl
            have cc2 := (KB.out.below BL.out) 2 _ rfl
            have cc3 := (KB.out.below BL.out) 3 _ rfl
            have cc4 := (KB.out.below BL.out) 4 _ rfl
            have cc5 := (KB.out.below BL.out) 5 _ rfl
            have cc6 := (KB.out.below BL.out) 6 _ rfl
            have cc7 := (KB.out.below BL.out) 7 _ rfl
            by_cases h1 : j = 1
            · rw [show decide (j = 1) = true by simp [h1]] at DN
              have h1' : ((j : Int) == 1) = true := by simp; omega
              have H1 := Lib.hid h1
              clear h1
              go_wp2_with fail
              refine DN.out.mono ?_
              rintro e w4 ⟨rfl, hb⟩
              have B4 := Lib.hid (below_step' BL.out hb)
              clear hb cc0 cc1 cc2 cc3 cc4 cc5 cc6 cc7 DN
              go_wp2_with fail
              refine (fixed10_any w4).mono ?_
              rintro e w5 ⟨rfl, hb⟩
              have B5 := Lib.hid (below_step' B4.out hb)
              clear hb
              go_wp2_with fail
              go_ret
              exact ⟨rfl, below_step' BY.out B5.out⟩
            · rw [show decide (j = 1) = false by simp [h1]] at DN
              have h1' : ((j : Int) == 1) = false := by simp; omega
              clear h1
              go_wp2_with fail
              refine DN.out.mono ?_
              rintro e w4 ⟨rfl, hb⟩
              have B4 := Lib.hid (below_step' BL.out hb)
              clear hb cc0 cc1 cc2 cc3 cc4 cc5 cc6 cc7 DN
              go_wp2_with fail
              refine (fixed10_any w4).mono ?_
              rintro e w5 ⟨rfl, hb⟩
              have B5 := Lib.hid (below_step' B4.out hb)
              clear hb
              go_wp2_with fail
              go_ret
              exact ⟨rfl, below_step' BY.out B5.out⟩
end Go.Proofs.Ytlhclnhdcenkhaa
