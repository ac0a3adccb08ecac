/- MarkEnds: the walk. Written by gen_mark1.py. -/
import Derived.Test.YtlhclnhdcenkhaaMkL
import Derived.Test.YtlhclnhdcenkhaaMkK
set_option linter.unusedSimpArgs false
set_option linter.unusedVariables false
set_option maxRecDepth 100000
namespace Go.Proofs.Ytlhclnhdcenkhaa
open Go.RowKit Go.PlainAid

set_option maxHeartbeats 8000000 in
theorem walkMarkEnds (l : Int) (v : Value) (L : List Opr) (w : World) (h0 : 0 ≤ l) (h1 : l < 256) (h : Has w v (dOps L)) :
    Calls Try.prog 5 #[.int .u8 l, v] w fun e w' => e = .returned (.bool true) ∧ Below w.heap.size w w' := by
  obtain ⟨l, rfl⟩ : ∃ n : Nat, l = n := ⟨l.toNat, by omega⟩
  have hl : l < 256 := by omega
  obtain ⟨N, hN⟩ : ∃ n, n = l % 6 := ⟨_, rfl⟩
  have hN5 : N ≤ 5 := by omega
  have HN := Lib.hid hN
  clear hN
  obtain ⟨va, vc, ee⟩ := slice_of h
  subst ee
  obtain ⟨k, hk⟩ : ∃ k, k = L.length := ⟨_, rfl⟩
  rw [← hk] at h ⊢
  have HK := Lib.hid hk
  clear hk h0 h1
  go_enter Try.func5, Try.ntmps5
  go_upto_region 1 with fail
  go_wp2_with fail
  refine (ends_at l 0 N w hl (by decide) HN.out).mono ?_
  rintro e w1 ⟨g1, g2, rfl, hG, hb⟩
  obtain ⟨g8, g9⟩ := hs_has hG
  obtain ⟨ga, gc, ee1⟩ := slice_of g8
  obtain ⟨gb, gd, ee2⟩ := slice_of g9
  subst ee1
  subst ee2
  have HG := Lib.hid hG
  have B1 := Lib.hid hb
  clear hG hb g8 g9
  rw [show (endsH N 0).inn.length = N from (ends_small N 0 (by omega)).2] at HG ⊢
  rw [show (endsH N 0).out.length = N from by unfold endsH; simp] at HG ⊢
  rw [show hsv (endsH N 0) (.slice ga N gc) (.slice gb N gd) = .agg #[.int .i64 1, .int .i64 2, .int .i64 0, .slice ga N gc, .slice gb N gd] from rfl]
  go_upto_region 2 with fail
  obtain ⟨bh, hbh⟩ : ∃ b, b = w1.heap.size := ⟨_, rfl⟩
  obtain ⟨y1, hy1⟩ : ∃ y, y = w1.alloc (.cells #[.int .i64 1, .int .i64 2, .int .i64 0, .slice ga N gc, .slice gb N gd] 26) := ⟨_, rfl⟩
  have hn1 : Below w1.heap.size w1 y1 := by rw [hy1]; exact below_new _ _
  have KH1 : Hid (BoxAt bh [.int .i64 1, .int .i64 2, .int .i64 0, .slice ga N gc, .slice gb N gd] y1) := Lib.hid (by rw [hbh, hy1]; exact boxAt_new w1 [.int .i64 1, .int .i64 2, .int .i64 0, .slice ga N gc, .slice gb N gd] _)
  have OH1 : Hid (Open8 bh y1) := Lib.hid (by rw [hbh, hy1]; exact Open8.new _ _ _)
  have BW1 := Lib.hid (below_step' B1.out hn1)
  have HG1 : Hid (HoldsL False (fun q => q ≠ bh) y1 [.slice ga N gc, .slice gb N gd] (endsH N 0).d) := Lib.hid ((HG.out.wide (P' := fun q => q ≠ bh) (fun q hq _ => by rw [hbh]; omega)).later hn1)
  have LH : Hid (w.heap.size ≤ bh) := Lib.hid (by rw [hbh]; exact B1.out.size)
  rw [← hy1, ← hbh]
  clear hy1 hbh hn1 HG B1
  have x0 := KH1.out 0 _ rfl
  have x1 := KH1.out 1 _ rfl
  have x2 := KH1.out 2 _ rfl
  have x3 := KH1.out 3 _ rfl
  have x4 := KH1.out 4 _ rfl
  go_wp2_with fail
  refine (begin_at (endsH N 0) 1 _ _ y1 HG1.out.weak (ends_small N 0 (by omega)).1 (by rw [(ends_small N 0 (by omega)).2]; omega)).mono ?_
  rintro e w2 ⟨v0, v1, v2, v3, rfl, hU, hb⟩
  obtain ⟨m0, hm0⟩ : ∃ m, m = beginM (endsH N 0) 1 := ⟨_, rfl⟩
  rw [← hm0] at hU ⊢
  have M0E := Lib.hid hm0
  clear hm0 x0 x1 x2 x3 x4
  obtain ⟨a0, a1, a2, a3, n0, n1, n2, n3, e0, e1, e2, e3, ff0, ff1, ff2, ff3⟩ := mk_slices hU.weak
  subst ff0
  subst ff1
  subst ff2
  subst ff3
  have HU := Lib.hid hU
  have BQ := Lib.hid hb
  clear hU hb
  unfold mkv
  go_upto_region 4 with fail
  obtain ⟨bm, hbm⟩ : ∃ b, b = w2.heap.size := ⟨_, rfl⟩
  obtain ⟨y2, hy2⟩ : ∃ y, y = w2.alloc (.cells #[.int .i64 m0.ep, .slice a0 n0 e0, .int .i64 m0.p.node, .int .i64 m0.p.state, .int .i64 m0.p.steps, .slice a1 n1 e1, .slice a2 n2 e2, .slice a3 n3 e3] 33) := ⟨_, rfl⟩
  have hn2 : Below w2.heap.size w2 y2 := by rw [hy2]; exact below_new _ _
  have Q2 := Lib.hid (below_step' BQ.out hn2)
  have LB : Hid (bh < y1.heap.size ∧ y1.heap.size ≤ bm ∧ bm ≠ bh ∧ w.heap.size ≤ bm ∧ w.heap.size ≤ bh) := Lib.hid (by have h1 := OH1.out.1; have h2 := BQ.out.size; have h3 := BW1.out.size; have h4 := LH.out; omega)
  have M0 : Hid (MIn bm bh m0 a0 a1 a2 a3 n0 n1 n2 n3 e0 e1 e2 e3 y2) := Lib.hid ⟨by rw [hbm, hy2]; exact boxAt_new w2 [.int .i64 m0.ep, .slice a0 n0 e0, .int .i64 m0.p.node, .int .i64 m0.p.state, .int .i64 m0.p.steps, .slice a1 n1 e1, .slice a2 n2 e2, .slice a3 n3 e3] _, by rw [hbm, hy2]; exact Open8.new _ _ _, (HU.out.loose.wide (P' := fun q => q ≠ bm ∧ q ≠ bh) (fun q hq (hp : y1.heap.size ≤ q) => by have h1 := LB.out; omega)).later hn2⟩
  have KH := Lib.hid (KH1.out.below Q2.out)
  have OH := Lib.hid (OH1.out.below Q2.out)
  have HG : Hid (HoldsL False (fun q => q ≠ bh ∧ q ≠ bm) y2 [.slice ga N gc, .slice gb N gd] (endsH N 0).d) := Lib.hid ((HG1.out.wide (P' := fun q => q ≠ bh ∧ q ≠ bm) (fun q hq hp => ⟨hp, by have h1 := LB.out; omega⟩)).later Q2.out)
  have B2 := Lib.hid (below_step' BW1.out Q2.out)
  rw [← hy2, ← hbm]
  clear hy2 hbm hn2 HU BQ KH1 OH1 HG1 Q2 BW1 LH
  have M1 : Hid (MIn bm bh (mE N 0) a0 a1 a2 a3 n0 n1 n2 n3 e0 e1 e2 e3 y2) := Lib.hid (by rw [← mE_zero, ← M0E.out]; exact M0.out)
  clear M0
  go_wp2_with fail
  go_loopw [8] (fun i wr => ∃ (j : Nat) (c0 c1 c2 c3 : Option Addr) (s0 s1 s2 s3 t0 t1 t2 t3 : Nat), i = .int .i64 j ∧ j ≤ N ∧ MIn bm bh (mE N j) c0 c1 c2 c3 s0 s1 s2 s3 t0 t1 t2 t3 wr ∧ Below w.heap.size w wr ∧ SameOn (fun q => q ≠ bm) y2 wr) (fun i _ => N - (intOf i).toNat)
  case atStart => exact ⟨0, a0, a1, a2, a3, n0, n1, n2, n3, e0, e1, e2, e3, rfl, Nat.zero_le _, M1.out, B2.out, SameOn.refl _ _⟩
  case round =>
    obtain ⟨j, c0, c1, c2, c3, s0, s1, s2, s3, t0, t1, t2, t3, rfl, hj, hM, hb, hs⟩ := hrel
    obtain ⟨wr1, hw1⟩ : ∃ x, x = wr := ⟨_, rfl⟩
    subst hw1
    have MJ := Lib.hid hM
    have BJ := Lib.hid hb
    have SJ := Lib.hid hs
    clear hM hb hs M1
    by_cases hlt : j < N
    · have hlt' : (j : Int) < N := by omega
      obtain ⟨mj, hmj⟩ : ∃ m, m = mE N j := ⟨_, rfl⟩
      obtain ⟨mn, hmn⟩ : ∃ m, m = mE N (j + 1) := ⟨_, rfl⟩
      have MC : Hid (markM mj (endsH N 0) 1 ((N : Int) - 1 - (j : Int)) = (mn, false)) := Lib.hid (by rw [hmj, hmn]; exact mE_next hlt 0)
      have SMJ : Hid (SmallMk mj) := Lib.hid (by rw [hmj]; exact mE_small (by omega) (by omega))
      rw [← hmj] at MJ
      have MNE := Lib.hid hmn
      clear hmj hmn
      have hw1 : IntKind.i64.wrap ((N : Int) - 1) = (N : Int) - 1 := IntWalk.i64_in _ (by omega)
      have hw2 : IntKind.i64.wrap ((N : Int) - 1 - (j : Int)) = (N : Int) - 1 - (j : Int) := IntWalk.i64_in _ (by omega)
      have KHr := Lib.hid (KH.out.same SJ.out (Ne.symm LB.out.2.2.1))
      have HGr : Hid (HasL wr1 [.slice ga N gc, .slice gb N gd] (endsH N 0).d) := Lib.hid (HG.out.same (SJ.out.sub (fun q h => h.2))).weak
      have cc0 := MJ.out.box 0 _ rfl
      have cc1 := MJ.out.box 1 _ rfl
      have cc2 := MJ.out.box 2 _ rfl
      have cc3 := MJ.out.box 3 _ rfl
      have cc4 := MJ.out.box 4 _ rfl
      have cc5 := MJ.out.box 5 _ rfl
      have cc6 := MJ.out.box 6 _ rfl
      have cc7 := MJ.out.box 7 _ rfl
      have hh0 := KHr.out 0 _ rfl
      have hh1 := KHr.out 1 _ rfl
      have hh2 := KHr.out 2 _ rfl
      have hh3 := KHr.out 3 _ rfl
      have hh4 := KHr.out 4 _ rfl
      have CM : Hid (Calls Try.prog 10 #[.agg #[.int .i64 mj.ep, .slice c0 s0 t0, .int .i64 mj.p.node, .int .i64 mj.p.state, .int .i64 mj.p.steps, .slice c1 s1 t1, .slice c2 s2 t2, .slice c3 s3 t3], .agg #[.int .i64 1, .int .i64 2, .int .i64 0, .slice ga N gc, .slice gb N gd], .int .i64 1, .int .i64 ((N : Int) - 1 - (j : Int))] wr1 (MkTold2 mn false wr1)) := Lib.hid (by
        have q := marker_at mj (endsH N 0) 1 ((N : Int) - 1 - (j : Int)) _ _ _ _ _ _ wr1 MJ.out.dat.weak HGr.out SMJ.out (ends_small N 0 (by omega)).1 (by rw [(ends_small N 0 (by omega)).2]; omega)
        rw [MC.out] at q
        exact q)
      go_wp2_with fail
      refine CM.out.mono ?_
      rintro e z1 ⟨v0, v1, v2, v3, rfl, hU, hb⟩
      obtain ⟨u0, u1, u2, u3, k0, k1, k2, k3, f0, f1, f2, f3, ff0, ff1, ff2, ff3⟩ := mk_slices hU.weak
      subst ff0
      subst ff1
      subst ff2
      subst ff3
      unfold mkv
      have DZ := Lib.hid (told_off (bm := bm) (bh := bh) hU MJ.out.opn.1 (Nat.lt_of_lt_of_le OH.out.1 SJ.out.1))
      have BZ1 := Lib.hid hb
      clear hU hb cc0 cc1 cc2 cc3 cc4 cc5 cc6 cc7 hh0 hh1 hh2 hh3 hh4
      go_upto_region 8 with fail
      obtain ⟨bx, hbx⟩ : ∃ b, b = z1.heap.size := ⟨_, rfl⟩
      obtain ⟨z2, hz2⟩ : ∃ y, y = z1.alloc (.cells #[.int .i64 mn.ep, .slice u0 k0 f0, .int .i64 mn.p.node, .int .i64 mn.p.state, .int .i64 mn.p.steps, .slice u1 k1 f1, .slice u2 k2 f2, .slice u3 k3 f3] 33) := ⟨_, rfl⟩
      have hn2 : Below z1.heap.size z1 z2 := by rw [hz2]; exact below_new _ _
      have KB : Hid (BoxAt bx [.int .i64 mn.ep, .slice u0 k0 f0, .int .i64 mn.p.node, .int .i64 mn.p.state, .int .i64 mn.p.steps, .slice u1 k1 f1, .slice u2 k2 f2, .slice u3 k3 f3] z2) := Lib.hid (by rw [hbx, hz2]; exact boxAt_new z1 [.int .i64 mn.ep, .slice u0 k0 f0, .int .i64 mn.p.node, .int .i64 mn.p.state, .int .i64 mn.p.steps, .slice u1 k1 f1, .slice u2 k2 f2, .slice u3 k3 f3] _)
      have BZ2 := Lib.hid (below_step' BZ1.out hn2)
      have DZ2 := Lib.hid (DZ.out.later hn2)
      have MZ2 := Lib.hid (MJ.out.below BZ2.out)
      rw [← hz2, ← hbx]
      clear hz2 hbx hn2
      have cc0 := KB.out 0 _ rfl
      have cc1 := KB.out 1 _ rfl
      have cc2 := KB.out 2 _ rfl
      have cc3 := KB.out 3 _ rfl
      have cc4 := KB.out 4 _ rfl
      have cc5 := KB.out 5 _ rfl
      have cc6 := KB.out 6 _ rfl
      have cc7 := KB.out 7 _ rfl
      have dd0 := MZ2.out.box 0 _ rfl
      have dd1 := MZ2.out.box 1 _ rfl
      have dd2 := MZ2.out.box 2 _ rfl
      have dd3 := MZ2.out.box 3 _ rfl
      have dd4 := MZ2.out.box 4 _ rfl
      have dd5 := MZ2.out.box 5 _ rfl
      have dd6 := MZ2.out.box 6 _ rfl
      have dd7 := MZ2.out.box 7 _ rfl
      have g0 := MZ2.out.opn.2 0
      have g1 := MZ2.out.opn.2 1
      have g2 := MZ2.out.opn.2 2
      have g3 := MZ2.out.opn.2 3
      have g4 := MZ2.out.opn.2 4
      have g5 := MZ2.out.opn.2 5
      have g6 := MZ2.out.opn.2 6
      have g7 := MZ2.out.opn.2 7
      go_upto_region 6 with fail
      change Code.wp _ _ _ _ (setN z2 bm 0 [.int .i64 mn.ep, .slice u0 k0 f0, .int .i64 mn.p.node, .int .i64 mn.p.state, .int .i64 mn.p.steps, .slice u1 k1 f1, .slice u2 k2 f2, .slice u3 k3 f3])
      have MN : Hid (MIn bm bh mn u0 u1 u2 u3 k0 k1 k2 k3 f0 f1 f2 f3 (setN z2 bm 0 [.int .i64 mn.ep, .slice u0 k0 f0, .int .i64 mn.p.node, .int .i64 mn.p.state, .int .i64 mn.p.steps, .slice u1 k1 f1, .slice u2 k2 f2, .slice u3 k3 f3])) := Lib.hid (MZ2.out.put DZ2.out)
      have BN : Hid (Below w.heap.size w (setN z2 bm 0 [.int .i64 mn.ep, .slice u0 k0 f0, .int .i64 mn.p.node, .int .i64 mn.p.state, .int .i64 mn.p.steps, .slice u1 k1 f1, .slice u2 k2 f2, .slice u3 k3 f3])) := Lib.hid (setN_below LB.out.2.2.2.1 [.int .i64 mn.ep, .slice u0 k0 f0, .int .i64 mn.p.node, .int .i64 mn.p.state, .int .i64 mn.p.steps, .slice u1 k1 f1, .slice u2 k2 f2, .slice u3 k3 f3] 0 z2 (below_step' BJ.out BZ2.out))
      have SN : Hid (SameOn (fun q => q ≠ bm) y2 (setN z2 bm 0 [.int .i64 mn.ep, .slice u0 k0 f0, .int .i64 mn.p.node, .int .i64 mn.p.state, .int .i64 mn.p.steps, .slice u1 k1 f1, .slice u2 k2 f2, .slice u3 k3 f3])) := Lib.hid (setN_same (P := fun q => q ≠ bm) (b := bm) (fun h => h rfl) [.int .i64 mn.ep, .slice u0 k0 f0, .int .i64 mn.p.node, .int .i64 mn.p.state, .int .i64 mn.p.steps, .slice u1 k1 f1, .slice u2 k2 f2, .slice u3 k3 f3] 0 z2 (SJ.out.trans (SameOn.of_below BZ2.out)))
      obtain ⟨wn, hwn⟩ : ∃ x, x = setN z2 bm 0 [.int .i64 mn.ep, .slice u0 k0 f0, .int .i64 mn.p.node, .int .i64 mn.p.state, .int .i64 mn.p.steps, .slice u1 k1 f1, .slice u2 k2 f2, .slice u3 k3 f3] := ⟨_, rfl⟩
      rw [← hwn] at MN BN SN ⊢
      clear hwn cc0 cc1 cc2 cc3 cc4 cc5 cc6 cc7 dd0 dd1 dd2 dd3 dd4 dd5 dd6 dd7 g0 g1 g2 g3 g4 g5 g6 g7 DZ DZ2 MZ2 BZ1 BZ2 KB
      go_wp2_with fail
      go_roundw
      case rel => exact ⟨j + 1, u0, u1, u2, u3, k0, k1, k2, k3, f0, f1, f2, f3, by go_num, by omega, by rw [← MNE.out]; exact MN.out, BN.out, SN.out⟩
      case measure => simp [intOf]; omega
    · obtain rfl : N = j := by omega
      have hj3 : ¬ (N : Int) < N := by omega
      obtain ⟨mz, hmz⟩ : ∃ m, m = mE N N := ⟨_, rfl⟩
      rw [← hmz] at MJ
      have SMZ : Hid (SmallMk mz) := Lib.hid (by rw [hmz]; exact mE_small (Nat.le_refl _) (by omega))
      have STAY : Hid (∀ x, markM mz (endsH N 0) 1 x = (mz, false)) := Lib.hid (fun x => by rw [hmz]; exact mE_stay N 0 x)
      have APP : Hid (∀ x y, appM mz x y = mz) := Lib.hid (fun x y => by rw [hmz]; exact mE_app N x y)
      have OPEN : Hid (∀ x, openB mz.op x = false) := Lib.hid (fun x => by rw [hmz]; exact mE_open N x)
      have NEW : Hid (0 < N → markM mz (endsH N 0) 2 0 = (closeM (beginM (endsH N 0) 2) ((0 : Nat) : Int), true)) := Lib.hid (fun h => by rw [hmz]; exact mE_new 0 h)
      have DN : Hid (Calls Try.prog 17 #[mkv mz (.slice c0 s0 t0) (.slice c1 s1 t1) (.slice c2 s2 t2) (.slice c3 s3 t3), .int .i64 1] wr1 fun e w' => e = .returned (.bool true) ∧ Below wr1.heap.size wr1 w') := Lib.hid (by
        have q := done_at mz 1 _ _ _ _ wr1 MJ.out.dat.weak SMZ.out
        rw [show doneM mz 1 = true by rw [hmz]; exact mE_done N] at q
        exact q)
      clear hmz
      unfold mkv at DN
      have cc0 := MJ.out.box 0 _ rfl
      have cc1 := MJ.out.box 1 _ rfl
      have cc2 := MJ.out.box 2 _ rfl
      have cc3 := MJ.out.box 3 _ rfl
      have cc4 := MJ.out.box 4 _ rfl
      have cc5 := MJ.out.box 5 _ rfl
      have cc6 := MJ.out.box 6 _ rfl
      have cc7 := MJ.out.box 7 _ rfl
      go_wp2_with fail
      refine DN.out.mono ?_
      rintro e z1 ⟨rfl, hb⟩
      have BZ1 := Lib.hid hb
      clear hb DN cc0 cc1 cc2 cc3 cc4 cc5 cc6 cc7
      have MZ1 := Lib.hid (MJ.out.below BZ1.out)
      have cc0 := MZ1.out.box 0 _ rfl
      have cc1 := MZ1.out.box 1 _ rfl
      have cc2 := MZ1.out.box 2 _ rfl
      have cc3 := MZ1.out.box 3 _ rfl
      have cc4 := MZ1.out.box 4 _ rfl
      have cc5 := MZ1.out.box 5 _ rfl
      have cc6 := MZ1.out.box 6 _ rfl
      have cc7 := MZ1.out.box 7 _ rfl
      go_wp2_with fail
      refine (ref10_at mz _ _ _ _ z1 ⟨_, _, _, _, _, _, _, _, _, _, _, _, rfl, rfl, rfl, rfl⟩).mono ?_
      rintro e z2 ⟨rfl, hb⟩
      have BZ2 := Lib.hid (below_step' BZ1.out hb)
      clear hb cc0 cc1 cc2 cc3 cc4 cc5 cc6 cc7
      unfold mkv
      go_upto_region 12 with fail
      obtain ⟨bw, hbw⟩ : ∃ b, b = z2.heap.size := ⟨_, rfl⟩
      obtain ⟨yw, hyw⟩ : ∃ y, y = z2.alloc (.cells #[.int .i64 mz.ep, .slice c0 s0 t0, .int .i64 mz.p.node, .int .i64 mz.p.state, .int .i64 mz.p.steps, .slice c1 s1 t1, .slice c2 s2 t2, .slice c3 s3 t3] 36) := ⟨_, rfl⟩
      have hnw : Below z2.heap.size z2 yw := by rw [hyw]; exact below_new _ _
      have KW0 : Hid (BoxAt bw [.int .i64 mz.ep, .slice c0 s0 t0, .int .i64 mz.p.node, .int .i64 mz.p.state, .int .i64 mz.p.steps, .slice c1 s1 t1, .slice c2 s2 t2, .slice c3 s3 t3] yw) := Lib.hid (by rw [hbw, hyw]; exact boxAt_new z2 [.int .i64 mz.ep, .slice c0 s0 t0, .int .i64 mz.p.node, .int .i64 mz.p.state, .int .i64 mz.p.steps, .slice c1 s1 t1, .slice c2 s2 t2, .slice c3 s3 t3] _)
      have BZ3 := Lib.hid (below_step' BZ2.out hnw)
      have NBW : Hid (bw ≠ bm) := Lib.hid (by have h1 := MJ.out.opn.1; have h2 := BZ2.out.size; omega)
      have MW := Lib.hid (MJ.out.below BZ3.out)
      have BW := Lib.hid (below_step' BJ.out BZ3.out)
      have SW := Lib.hid (SJ.out.trans (SameOn.of_below BZ3.out))
      have KH' := Lib.hid (KH.out.same SW.out (Ne.symm LB.out.2.2.1))
      have OH' := Lib.hid (OH.out.same SW.out (Ne.symm LB.out.2.2.1))
      have HG' := Lib.hid (HG.out.same (SW.out.sub (fun q h => h.2)))
      rw [← hyw, ← hbw]
      clear hyw hbw hnw KH OH HG MZ1 BZ1 BZ2 BZ3 MJ BJ SJ SW
      have KW := Lib.hid KW0.out
      have DW := Lib.hid MW.out.dat
      have KH := Lib.hid KH'.out
      have OH := Lib.hid OH'.out
      have HG := Lib.hid HG'.out
      clear KW0 KH' OH' HG' M0E
      obtain ⟨y2, hy2⟩ : ∃ y, y = yw := ⟨_, rfl⟩
      rw [← hy2] at KW DW KH OH HG MW BW ⊢
      clear hy2
      go_wp2_with fail
      go_loopw [12] (fun i wr => ∃ (j : Nat) (d0 d1 d2 d3 : Option Addr) (x0 x1 x2 x3 z0 z1 z2 z3 : Nat), i = .int .i64 j ∧ j ≤ k ∧ j ≤ 30 ∧ MIn bm bh mz d0 d1 d2 d3 x0 x1 x2 x3 z0 z1 z2 z3 wr ∧ Below w.heap.size w wr ∧ SameOn (fun q => q ≠ bm) y2 wr) (fun i _ => 30 - (intOf i).toNat)
      case atStart => exact ⟨0, c0, c1, c2, c3, s0, s1, s2, s3, t0, t1, t2, t3, rfl, Nat.zero_le _, Nat.zero_le _, MW.out, BW.out, SameOn.refl _ _⟩
      case round =>
        clear MW
        obtain ⟨a0, a1, a2, a3, n0, n1, n2, n3, e0, e1, e2, e3, KW, DW⟩ : ∃ (a0 a1 a2 a3 : Option Addr) (n0 n1 n2 n3 e0 e1 e2 e3 : Nat), Hid (BoxAt bw [.int .i64 mz.ep, .slice a0 n0 e0, .int .i64 mz.p.node, .int .i64 mz.p.state, .int .i64 mz.p.steps, .slice a1 n1 e1, .slice a2 n2 e2, .slice a3 n3 e3] y2) ∧ Hid (HoldsL False (fun q => q ≠ bm ∧ q ≠ bh) y2 [.slice a0 n0 e0, .slice a1 n1 e1, .slice a2 n2 e2, .slice a3 n3 e3] mz.d) := ⟨_, _, _, _, _, _, _, _, _, _, _, _, KW, DW⟩
        obtain ⟨j, c0, c1, c2, c3, s0, s1, s2, s3, t0, t1, t2, t3, rfl, hj, hj2, hM, hb, hs⟩ := hrel
        obtain ⟨wr1, hw1⟩ : ∃ x, x = wr := ⟨_, rfl⟩
        subst hw1
        have MJ := Lib.hid hM
        have BJ := Lib.hid hb
        have SJ := Lib.hid hs
        clear hM hb hs
        by_cases hlt : j < k
        · have hlt' : (j : Int) < k := by omega
          by_cases h20 : j < 30
          · have h20' : (j : Int) < 30 := by omega
            obtain ⟨o, ho⟩ := some_of_lt (l := L) (i := j) (by rw [← HK.out]; exact hlt)
            obtain ⟨b, of, ee, q0, -, q2, q3, q4⟩ := ops_at h ho
            subst ee
            have NBb : Hid (b ≠ bm) := Lib.hid (by have h1 := World.block_lt_of_cell? w _ q2; simp at h1; have h2 := LB.out; omega)
            obtain ⟨pl, hpl⟩ : ∃ x, x = o.pl := ⟨_, rfl⟩
            obtain ⟨x1, hx1⟩ : ∃ x, x = o.x.1 := ⟨_, rfl⟩
            obtain ⟨x2, hx2⟩ : ∃ x, x = o.x.2 := ⟨_, rfl⟩
            obtain ⟨bo, hbo⟩ : ∃ x, x = o.isM := ⟨_, rfl⟩
            rw [← hbo] at q0
            rw [← hpl] at q2
            rw [← hx1] at q3
            rw [← hx2] at q4
            clear hpl hx1 hx2 hbo ho
            cases bo with
            | true =>
              have KHr := Lib.hid (KH.out.same SJ.out (Ne.symm LB.out.2.2.1))
              have HGr : Hid (HasL wr1 [.slice ga N gc, .slice gb N gd] (endsH N 0).d) := Lib.hid (HG.out.same (SJ.out.sub (fun q h => h.2))).weak
              have GX : Hid (w.cell? ⟨b, of + j * 5 + 2, none⟩ = some (.int .i64 pl)) := Lib.hid q2
              have q0' := (BJ.out.cell (World.block_lt_of_cell? w _ q0)).trans q0
              clear q0 q2 q3 q4
              go_wp2_with fail
              clear q0'
              refine wp_region_held_drew (S := (fun w' => w'.cell? ⟨bm, 0, none⟩ = some (.int .i64 mz.ep) ∧ w'.cell? ⟨bm, 1, none⟩ = some (.slice c0 s0 t0) ∧ w'.cell? ⟨bm, 2, none⟩ = some (.int .i64 mz.p.node) ∧ w'.cell? ⟨bm, 3, none⟩ = some (.int .i64 mz.p.state) ∧ w'.cell? ⟨bm, 4, none⟩ = some (.int .i64 mz.p.steps) ∧ w'.cell? ⟨bm, 5, none⟩ = some (.slice c1 s1 t1) ∧ w'.cell? ⟨bm, 6, none⟩ = some (.slice c2 s2 t2) ∧ w'.cell? ⟨bm, 7, none⟩ = some (.slice c3 s3 t3) ∧ w'.cell? ⟨bh, 0, none⟩ = some (.int .i64 1) ∧ w'.cell? ⟨bh, 1, none⟩ = some (.int .i64 2) ∧ w'.cell? ⟨bh, 2, none⟩ = some (.int .i64 0) ∧ w'.cell? ⟨bh, 3, none⟩ = some (.slice ga N gc) ∧ w'.cell? ⟨bh, 4, none⟩ = some (.slice gb N gd) ∧ w'.cell? ⟨b, of + j * 5 + 2, none⟩ = some (.int .i64 pl))) (by kernel_rfl) ?_ (fun hHeld => ?_)
              · exact ⟨MJ.out.box.below (below_drewN (Below.refl _ wr1) 1) 0 _ rfl, MJ.out.box.below (below_drewN (Below.refl _ wr1) 1) 1 _ rfl, MJ.out.box.below (below_drewN (Below.refl _ wr1) 1) 2 _ rfl, MJ.out.box.below (below_drewN (Below.refl _ wr1) 1) 3 _ rfl, MJ.out.box.below (below_drewN (Below.refl _ wr1) 1) 4 _ rfl, MJ.out.box.below (below_drewN (Below.refl _ wr1) 1) 5 _ rfl, MJ.out.box.below (below_drewN (Below.refl _ wr1) 1) 6 _ rfl, MJ.out.box.below (below_drewN (Below.refl _ wr1) 1) 7 _ rfl, KHr.out.below (below_drewN (Below.refl _ wr1) 1) 0 _ rfl, KHr.out.below (below_drewN (Below.refl _ wr1) 1) 1 _ rfl, KHr.out.below (below_drewN (Below.refl _ wr1) 1) 2 _ rfl, KHr.out.below (below_drewN (Below.refl _ wr1) 1) 3 _ rfl, KHr.out.below (below_drewN (Below.refl _ wr1) 1) 4 _ rfl, ((below_step' BJ.out (below_drewN (Below.refl _ wr1) 1)).cell (World.block_lt_of_cell? w _ GX.out)).trans GX.out⟩
              obtain ⟨z0, hz0⟩ : ∃ y, y = wr1.drew := ⟨_, rfl⟩
              rw [← hz0] at hHeld ⊢
              have BZ : Hid (Below wr1.heap.size wr1 z0) := Lib.hid (by rw [hz0]; exact below_drewN (Below.refl _ wr1) 1)
              clear hz0
              have QX : Hid (∀ w', Below z0.heap.size z0 w' → (fun w' => w'.cell? ⟨bm, 0, none⟩ = some (.int .i64 mz.ep) ∧ w'.cell? ⟨bm, 1, none⟩ = some (.slice c0 s0 t0) ∧ w'.cell? ⟨bm, 2, none⟩ = some (.int .i64 mz.p.node) ∧ w'.cell? ⟨bm, 3, none⟩ = some (.int .i64 mz.p.state) ∧ w'.cell? ⟨bm, 4, none⟩ = some (.int .i64 mz.p.steps) ∧ w'.cell? ⟨bm, 5, none⟩ = some (.slice c1 s1 t1) ∧ w'.cell? ⟨bm, 6, none⟩ = some (.slice c2 s2 t2) ∧ w'.cell? ⟨bm, 7, none⟩ = some (.slice c3 s3 t3) ∧ w'.cell? ⟨bh, 0, none⟩ = some (.int .i64 1) ∧ w'.cell? ⟨bh, 1, none⟩ = some (.int .i64 2) ∧ w'.cell? ⟨bh, 2, none⟩ = some (.int .i64 0) ∧ w'.cell? ⟨bh, 3, none⟩ = some (.slice ga N gc) ∧ w'.cell? ⟨bh, 4, none⟩ = some (.slice gb N gd) ∧ w'.cell? ⟨b, of + j * 5 + 2, none⟩ = some (.int .i64 pl)) w') := Lib.hid (fun w' hb => ⟨MJ.out.box.below (below_step' BZ.out hb) 0 _ rfl, MJ.out.box.below (below_step' BZ.out hb) 1 _ rfl, MJ.out.box.below (below_step' BZ.out hb) 2 _ rfl, MJ.out.box.below (below_step' BZ.out hb) 3 _ rfl, MJ.out.box.below (below_step' BZ.out hb) 4 _ rfl, MJ.out.box.below (below_step' BZ.out hb) 5 _ rfl, MJ.out.box.below (below_step' BZ.out hb) 6 _ rfl, MJ.out.box.below (below_step' BZ.out hb) 7 _ rfl, KHr.out.below (below_step' BZ.out hb) 0 _ rfl, KHr.out.below (below_step' BZ.out hb) 1 _ rfl, KHr.out.below (below_step' BZ.out hb) 2 _ rfl, KHr.out.below (below_step' BZ.out hb) 3 _ rfl, KHr.out.below (below_step' BZ.out hb) 4 _ rfl, ((below_step' BJ.out (below_step' BZ.out hb)).cell (World.block_lt_of_cell? w _ GX.out)).trans GX.out⟩)
              have CM : Hid (∀ wx, Below z0.heap.size z0 wx → Calls Try.prog 10 #[.agg #[.int .i64 mz.ep, .slice c0 s0 t0, .int .i64 mz.p.node, .int .i64 mz.p.state, .int .i64 mz.p.steps, .slice c1 s1 t1, .slice c2 s2 t2, .slice c3 s3 t3], .agg #[.int .i64 1, .int .i64 2, .int .i64 0, .slice ga N gc, .slice gb N gd], .int .i64 1, .int .i64 pl] wx (MkTold2 mz false wx)) := Lib.hid (fun wx hb => by
                have q := marker_at mz (endsH N 0) 1 pl _ _ _ _ _ _ wx (MJ.out.dat.weak.later (below_step' BZ.out hb)) (HGr.out.later (below_step' BZ.out hb)) SMZ.out (ends_small N 0 (by omega)).1 (by rw [(ends_small N 0 (by omega)).2]; omega)
                rw [STAY.out] at q
                exact q)
              have SZ0 : Hid (bm < z0.heap.size ∧ bh < z0.heap.size ∧ b < z0.heap.size) := Lib.hid (by
                have h1 := MJ.out.opn.1
                have h2 := Nat.lt_of_lt_of_le OH.out.1 SJ.out.1
                have h3 := World.block_lt_of_cell? w _ GX.out
                simp at h3
                have h4 := BJ.out.size
                have h5 := BZ.out.size
                omega)
              refine tq 0 ?_
              refine tq 1 ?_
              refine tq 2 ?_
              refine tq 3 ?_
              refine tq 4 ?_
              refine tq 5 ?_
              refine tq 6 ?_
              refine wpAnyH_ready (rs := [7, 11]) (by kernel_rfl) (by simp) ?_
              refine AllReadyH.cons rfl (fun K hK => ?_) (AllReadyH.cons rfl (fun K hK => ?_) AllReadyH.nil)
              · skip
                go_simp
                refine (CM.out z0 (Below.refl _ z0)).mono ?_
                rintro e z1 ⟨v0, v1, v2, v3, rfl, hU, hb⟩
                obtain ⟨u0, u1, u2, u3, k0, k1, k2, k3, f0, f1, f2, f3, ff0, ff1, ff2, ff3⟩ := mk_slices hU.weak
                subst ff0
                subst ff1
                subst ff2
                subst ff3
                unfold mkv
                have HU1 := Lib.hid hU
                have BX1 := Lib.hid hb
                clear hU hb
                go_wp2_with fail
                refine hK.out _ _ ?_ (fun hHeld => ?_)
                · exact QX.out _ BX1.out
                clear hK K
                refine tq 8 ?_
                refine tq 9 ?_
                refine tq 10 ?_
                refine rd 11 fun K hK => ?_
                go_simp
                obtain ⟨bx, hbx⟩ : ∃ b, b = z1.heap.size := ⟨_, rfl⟩
                obtain ⟨wx, hwx⟩ : ∃ y, y = z1.alloc (.cells #[.int .i64 0, .slice none 0 0, .int .i64 0, .int .i64 0, .int .i64 0, .slice none 0 0, .slice none 0 0, .slice none 0 0] 33) := ⟨_, rfl⟩
                have hn : Below z1.heap.size z1 wx := by rw [hwx]; exact below_new _ _
                have KN : Hid (BoxAt bx [.int .i64 0, .slice none 0 0, .int .i64 0, .int .i64 0, .int .i64 0, .slice none 0 0, .slice none 0 0, .slice none 0 0] wx) := Lib.hid (by rw [hbx, hwx]; exact boxAt_new z1 [.int .i64 0, .slice none 0 0, .int .i64 0, .int .i64 0, .int .i64 0, .slice none 0 0, .slice none 0 0, .slice none 0 0] _)
                have ON : Hid (Open8 bx wx) := Lib.hid (by rw [hbx, hwx]; exact Open8.new _ _ _)
                have HU := Lib.hid ((HU1.out.loose.wide (P' := fun q => z0.heap.size ≤ q ∧ q ≠ bx) (fun q hq hp => ⟨hp, by omega⟩)).later hn)
                have XY : Hid (z0.heap.size ≤ bx) := Lib.hid (by rw [hbx]; exact BX1.out.size)
                have BX := Lib.hid (below_step' BX1.out hn)
                rw [← hwx, ← hbx]
                clear hwx hbx hn HU1 BX1
                refine hK.out _ _ ?_ (fun hHeld => ?_)
                · exact QX.out _ BX.out
                clear hK K
                have NE : Hid (bm ≠ bx ∧ bh ≠ bx ∧ b ≠ bx) := Lib.hid (by have h1 := SZ0.out; have h2 := XY.out; omega)
                have cc0 := KN.out 0 _ rfl
                have cc1 := KN.out 1 _ rfl
                have cc2 := KN.out 2 _ rfl
                have cc3 := KN.out 3 _ rfl
                have cc4 := KN.out 4 _ rfl
                have cc5 := KN.out 5 _ rfl
                have cc6 := KN.out 6 _ rfl
                have cc7 := KN.out 7 _ rfl
                have g0 := ON.out.2 0
                have g1 := ON.out.2 1
                have g2 := ON.out.2 2
                have g3 := ON.out.2 3
                have g4 := ON.out.2 4
                have g5 := ON.out.2 5
                have g6 := ON.out.2 6
                have g7 := ON.out.2 7
                have q9 := QX.out _ BX.out
                have SNH : Hid ((fun w' => w'.cell? ⟨bm, 0, none⟩ = some (.int .i64 mz.ep) ∧ w'.cell? ⟨bm, 1, none⟩ = some (.slice c0 s0 t0) ∧ w'.cell? ⟨bm, 2, none⟩ = some (.int .i64 mz.p.node) ∧ w'.cell? ⟨bm, 3, none⟩ = some (.int .i64 mz.p.state) ∧ w'.cell? ⟨bm, 4, none⟩ = some (.int .i64 mz.p.steps) ∧ w'.cell? ⟨bm, 5, none⟩ = some (.slice c1 s1 t1) ∧ w'.cell? ⟨bm, 6, none⟩ = some (.slice c2 s2 t2) ∧ w'.cell? ⟨bm, 7, none⟩ = some (.slice c3 s3 t3) ∧ w'.cell? ⟨bh, 0, none⟩ = some (.int .i64 1) ∧ w'.cell? ⟨bh, 1, none⟩ = some (.int .i64 2) ∧ w'.cell? ⟨bh, 2, none⟩ = some (.int .i64 0) ∧ w'.cell? ⟨bh, 3, none⟩ = some (.slice ga N gc) ∧ w'.cell? ⟨bh, 4, none⟩ = some (.slice gb N gd) ∧ w'.cell? ⟨b, of + j * 5 + 2, none⟩ = some (.int .i64 pl)) (setN wx bx 0 [.int .i64 mz.ep, .slice u0 k0 f0, .int .i64 mz.p.node, .int .i64 mz.p.state, .int .i64 mz.p.steps, .slice u1 k1 f1, .slice u2 k2 f2, .slice u3 k3 f3])) := Lib.hid ⟨setN_cell NE.out.1 (q9.1), setN_cell NE.out.1 (q9.2.1), setN_cell NE.out.1 (q9.2.2.1), setN_cell NE.out.1 (q9.2.2.2.1), setN_cell NE.out.1 (q9.2.2.2.2.1), setN_cell NE.out.1 (q9.2.2.2.2.2.1), setN_cell NE.out.1 (q9.2.2.2.2.2.2.1), setN_cell NE.out.1 (q9.2.2.2.2.2.2.2.1), setN_cell NE.out.2.1 (q9.2.2.2.2.2.2.2.2.1), setN_cell NE.out.2.1 (q9.2.2.2.2.2.2.2.2.2.1), setN_cell NE.out.2.1 (q9.2.2.2.2.2.2.2.2.2.2.1), setN_cell NE.out.2.1 (q9.2.2.2.2.2.2.2.2.2.2.2.1), setN_cell NE.out.2.1 (q9.2.2.2.2.2.2.2.2.2.2.2.2.1), setN_cell NE.out.2.2 (q9.2.2.2.2.2.2.2.2.2.2.2.2.2)⟩
                clear q9
                refine rd 12 fun K hK => ?_
                go_simp
                refine hK.out _ _ ?_ (fun hHeld => ?_)
                · exact SNH.out
                clear hK K
                refine tq 13 ?_
                refine wpAnyH_done (by kernel_rfl) ?_ _
                change Exit.then _ _ Exit.normal _ (setN wx bx 0 [.int .i64 mz.ep, .slice u0 k0 f0, .int .i64 mz.p.node, .int .i64 mz.p.state, .int .i64 mz.p.steps, .slice u1 k1 f1, .slice u2 k2 f2, .slice u3 k3 f3])
                have KB : Hid (BoxAt bx [.int .i64 mz.ep, .slice u0 k0 f0, .int .i64 mz.p.node, .int .i64 mz.p.state, .int .i64 mz.p.steps, .slice u1 k1 f1, .slice u2 k2 f2, .slice u3 k3 f3] (setN wx bx 0 [.int .i64 mz.ep, .slice u0 k0 f0, .int .i64 mz.p.node, .int .i64 mz.p.state, .int .i64 mz.p.steps, .slice u1 k1 f1, .slice u2 k2 f2, .slice u3 k3 f3])) := Lib.hid (setN_box [.int .i64 mz.ep, .slice u0 k0 f0, .int .i64 mz.p.node, .int .i64 mz.p.state, .int .i64 mz.p.steps, .slice u1 k1 f1, .slice u2 k2 f2, .slice u3 k3 f3] 0 _ wx KN.out (by simp))
                have MZ2 := Lib.hid (MJ.out.other (below_step' BZ.out BX.out) (Nat.le_trans BZ.out.size XY.out) 0 [.int .i64 mz.ep, .slice u0 k0 f0, .int .i64 mz.p.node, .int .i64 mz.p.state, .int .i64 mz.p.steps, .slice u1 k1 f1, .slice u2 k2 f2, .slice u3 k3 f3])
                have DZ2 : Hid (HoldsL False (fun q => q ≠ bm ∧ q ≠ bh) (setN wx bx 0 [.int .i64 mz.ep, .slice u0 k0 f0, .int .i64 mz.p.node, .int .i64 mz.p.state, .int .i64 mz.p.steps, .slice u1 k1 f1, .slice u2 k2 f2, .slice u3 k3 f3]) [.slice u0 k0 f0, .slice u1 k1 f1, .slice u2 k2 f2, .slice u3 k3 f3] mz.d) := Lib.hid ((HU.out.same (setN_same (P := fun q => z0.heap.size ≤ q ∧ q ≠ bx) (b := bx) (fun h => h.2 rfl) [.int .i64 mz.ep, .slice u0 k0 f0, .int .i64 mz.p.node, .int .i64 mz.p.state, .int .i64 mz.p.steps, .slice u1 k1 f1, .slice u2 k2 f2, .slice u3 k3 f3] 0 wx (SameOn.refl _ _))).wide (fun q _ (hq : z0.heap.size ≤ q ∧ q ≠ bx) => by have := SZ0.out; omega))
                have BN1 := Lib.hid (setN_below (Nat.le_trans BJ.out.size (Nat.le_trans BZ.out.size XY.out)) [.int .i64 mz.ep, .slice u0 k0 f0, .int .i64 mz.p.node, .int .i64 mz.p.state, .int .i64 mz.p.steps, .slice u1 k1 f1, .slice u2 k2 f2, .slice u3 k3 f3] 0 wx (below_step' BJ.out (below_step' BZ.out BX.out)))
                have SN1 : Hid (SameOn (fun q => q ≠ bm) y2 (setN wx bx 0 [.int .i64 mz.ep, .slice u0 k0 f0, .int .i64 mz.p.node, .int .i64 mz.p.state, .int .i64 mz.p.steps, .slice u1 k1 f1, .slice u2 k2 f2, .slice u3 k3 f3])) := Lib.hid ((SJ.out.trans (SameOn.of_below BZ.out)).trans ⟨by rw [setN_size]; exact BX.out.size, fun q _ hq => (setN_same (P := fun q => q < z0.heap.size) (b := bx) (fun h => Nat.not_lt.2 XY.out h) [.int .i64 mz.ep, .slice u0 k0 f0, .int .i64 mz.p.node, .int .i64 mz.p.state, .int .i64 mz.p.steps, .slice u1 k1 f1, .slice u2 k2 f2, .slice u3 k3 f3] 0 wx (SameOn.of_below BX.out)).2 q hq hq⟩)
                obtain ⟨z2, hz2⟩ : ∃ x, x = setN wx bx 0 [.int .i64 mz.ep, .slice u0 k0 f0, .int .i64 mz.p.node, .int .i64 mz.p.state, .int .i64 mz.p.steps, .slice u1 k1 f1, .slice u2 k2 f2, .slice u3 k3 f3] := ⟨_, rfl⟩
                rw [← hz2] at KB MZ2 DZ2 BN1 SN1 ⊢
                clear hz2 cc0 cc1 cc2 cc3 cc4 cc5 cc6 cc7 g0 g1 g2 g3 g4 g5 g6 g7 SNH hHeld
                have cc0 := KB.out 0 _ rfl
                have cc1 := KB.out 1 _ rfl
                have cc2 := KB.out 2 _ rfl
                have cc3 := KB.out 3 _ rfl
                have cc4 := KB.out 4 _ rfl
                have cc5 := KB.out 5 _ rfl
                have cc6 := KB.out 6 _ rfl
                have cc7 := KB.out 7 _ rfl
                have dd0 := MZ2.out.box 0 _ rfl
                have dd1 := MZ2.out.box 1 _ rfl
                have dd2 := MZ2.out.box 2 _ rfl
                have dd3 := MZ2.out.box 3 _ rfl
                have dd4 := MZ2.out.box 4 _ rfl
                have dd5 := MZ2.out.box 5 _ rfl
                have dd6 := MZ2.out.box 6 _ rfl
                have dd7 := MZ2.out.box 7 _ rfl
                have g0 := MZ2.out.opn.2 0
                have g1 := MZ2.out.opn.2 1
                have g2 := MZ2.out.opn.2 2
                have g3 := MZ2.out.opn.2 3
                have g4 := MZ2.out.opn.2 4
                have g5 := MZ2.out.opn.2 5
                have g6 := MZ2.out.opn.2 6
                have g7 := MZ2.out.opn.2 7
                go_upto_region 21 with fail
                change Code.wp _ _ _ _ (setN z2 bm 0 [.int .i64 mz.ep, .slice u0 k0 f0, .int .i64 mz.p.node, .int .i64 mz.p.state, .int .i64 mz.p.steps, .slice u1 k1 f1, .slice u2 k2 f2, .slice u3 k3 f3])
                have MN : Hid (MIn bm bh mz u0 u1 u2 u3 k0 k1 k2 k3 f0 f1 f2 f3 (setN z2 bm 0 [.int .i64 mz.ep, .slice u0 k0 f0, .int .i64 mz.p.node, .int .i64 mz.p.state, .int .i64 mz.p.steps, .slice u1 k1 f1, .slice u2 k2 f2, .slice u3 k3 f3])) := Lib.hid (MZ2.out.put DZ2.out)
                have BN : Hid (Below w.heap.size w (setN z2 bm 0 [.int .i64 mz.ep, .slice u0 k0 f0, .int .i64 mz.p.node, .int .i64 mz.p.state, .int .i64 mz.p.steps, .slice u1 k1 f1, .slice u2 k2 f2, .slice u3 k3 f3])) := Lib.hid (setN_below LB.out.2.2.2.1 [.int .i64 mz.ep, .slice u0 k0 f0, .int .i64 mz.p.node, .int .i64 mz.p.state, .int .i64 mz.p.steps, .slice u1 k1 f1, .slice u2 k2 f2, .slice u3 k3 f3] 0 z2 BN1.out)
                have SN : Hid (SameOn (fun q => q ≠ bm) y2 (setN z2 bm 0 [.int .i64 mz.ep, .slice u0 k0 f0, .int .i64 mz.p.node, .int .i64 mz.p.state, .int .i64 mz.p.steps, .slice u1 k1 f1, .slice u2 k2 f2, .slice u3 k3 f3])) := Lib.hid (setN_same (P := fun q => q ≠ bm) (b := bm) (fun h => h rfl) [.int .i64 mz.ep, .slice u0 k0 f0, .int .i64 mz.p.node, .int .i64 mz.p.state, .int .i64 mz.p.steps, .slice u1 k1 f1, .slice u2 k2 f2, .slice u3 k3 f3] 0 z2 SN1.out)
                obtain ⟨wn, hwn⟩ : ∃ x, x = setN z2 bm 0 [.int .i64 mz.ep, .slice u0 k0 f0, .int .i64 mz.p.node, .int .i64 mz.p.state, .int .i64 mz.p.steps, .slice u1 k1 f1, .slice u2 k2 f2, .slice u3 k3 f3] := ⟨_, rfl⟩
                rw [← hwn] at MN BN SN ⊢
                clear hwn cc0 cc1 cc2 cc3 cc4 cc5 cc6 cc7 dd0 dd1 dd2 dd3 dd4 dd5 dd6 dd7 g0 g1 g2 g3 g4 g5 g6 g7 DZ2 MZ2 KB BN1 SN1 KN ON HU BX XY NE
                have KWn := Lib.hid (KW.out.same SN.out NBW.out)
                have DWn : Hid (HasL wn [.slice a0 n0 e0, .slice a1 n1 e1, .slice a2 n2 e2, .slice a3 n3 e3] mz.d) := Lib.hid (DW.out.same (SN.out.sub (fun q h => h.1))).weak
                have QW : Hid (∀ w', Below wn.heap.size wn w' → (fun w' => w'.cell? ⟨bm, 0, none⟩ = some (.int .i64 mz.ep) ∧ w'.cell? ⟨bm, 1, none⟩ = some (.slice u0 k0 f0) ∧ w'.cell? ⟨bm, 2, none⟩ = some (.int .i64 mz.p.node) ∧ w'.cell? ⟨bm, 3, none⟩ = some (.int .i64 mz.p.state) ∧ w'.cell? ⟨bm, 4, none⟩ = some (.int .i64 mz.p.steps) ∧ w'.cell? ⟨bm, 5, none⟩ = some (.slice u1 k1 f1) ∧ w'.cell? ⟨bm, 6, none⟩ = some (.slice u2 k2 f2) ∧ w'.cell? ⟨bm, 7, none⟩ = some (.slice u3 k3 f3) ∧ w'.cell? ⟨bw, 0, none⟩ = some (.int .i64 mz.ep) ∧ w'.cell? ⟨bw, 1, none⟩ = some (.slice a0 n0 e0) ∧ w'.cell? ⟨bw, 2, none⟩ = some (.int .i64 mz.p.node) ∧ w'.cell? ⟨bw, 3, none⟩ = some (.int .i64 mz.p.state) ∧ w'.cell? ⟨bw, 4, none⟩ = some (.int .i64 mz.p.steps) ∧ w'.cell? ⟨bw, 5, none⟩ = some (.slice a1 n1 e1) ∧ w'.cell? ⟨bw, 6, none⟩ = some (.slice a2 n2 e2) ∧ w'.cell? ⟨bw, 7, none⟩ = some (.slice a3 n3 e3)) w') := Lib.hid (fun w' hb => ⟨MN.out.box.below hb 0 _ rfl, MN.out.box.below hb 1 _ rfl, MN.out.box.below hb 2 _ rfl, MN.out.box.below hb 3 _ rfl, MN.out.box.below hb 4 _ rfl, MN.out.box.below hb 5 _ rfl, MN.out.box.below hb 6 _ rfl, MN.out.box.below hb 7 _ rfl, KWn.out.below hb 0 _ rfl, KWn.out.below hb 1 _ rfl, KWn.out.below hb 2 _ rfl, KWn.out.below hb 3 _ rfl, KWn.out.below hb 4 _ rfl, KWn.out.below hb 5 _ rfl, KWn.out.below hb 6 _ rfl, KWn.out.below hb 7 _ rfl⟩)
                go_wp2_with fail
                refine wp_region_held_drew (S := (fun w' => w'.cell? ⟨bm, 0, none⟩ = some (.int .i64 mz.ep) ∧ w'.cell? ⟨bm, 1, none⟩ = some (.slice u0 k0 f0) ∧ w'.cell? ⟨bm, 2, none⟩ = some (.int .i64 mz.p.node) ∧ w'.cell? ⟨bm, 3, none⟩ = some (.int .i64 mz.p.state) ∧ w'.cell? ⟨bm, 4, none⟩ = some (.int .i64 mz.p.steps) ∧ w'.cell? ⟨bm, 5, none⟩ = some (.slice u1 k1 f1) ∧ w'.cell? ⟨bm, 6, none⟩ = some (.slice u2 k2 f2) ∧ w'.cell? ⟨bm, 7, none⟩ = some (.slice u3 k3 f3) ∧ w'.cell? ⟨bw, 0, none⟩ = some (.int .i64 mz.ep) ∧ w'.cell? ⟨bw, 1, none⟩ = some (.slice a0 n0 e0) ∧ w'.cell? ⟨bw, 2, none⟩ = some (.int .i64 mz.p.node) ∧ w'.cell? ⟨bw, 3, none⟩ = some (.int .i64 mz.p.state) ∧ w'.cell? ⟨bw, 4, none⟩ = some (.int .i64 mz.p.steps) ∧ w'.cell? ⟨bw, 5, none⟩ = some (.slice a1 n1 e1) ∧ w'.cell? ⟨bw, 6, none⟩ = some (.slice a2 n2 e2) ∧ w'.cell? ⟨bw, 7, none⟩ = some (.slice a3 n3 e3))) (by kernel_rfl) ?_ (fun hHeld => ?_)
                · exact QW.out _ (below_drewN (Below.refl _ wn) 1)
                obtain ⟨d0, hd0⟩ : ∃ y, y = wn.drew := ⟨_, rfl⟩
                rw [← hd0] at hHeld ⊢
                have E0 : Hid (Below wn.heap.size wn d0) := Lib.hid (by rw [hd0]; exact below_drewN (Below.refl _ wn) 1)
                clear hd0
                refine tq 0 ?_
                refine tq 2 ?_
                refine rd 1 fun K hK => ?_
                go_simp
                refine (ref10_at mz _ _ _ _ d0 ⟨_, _, _, _, _, _, _, _, _, _, _, _, rfl, rfl, rfl, rfl⟩).mono ?_
                rintro e d1 ⟨rfl, hb⟩
                have E1 := Lib.hid (below_step' E0.out hb)
                clear hb
                go_wp2_with fail
                refine hK.out _ _ ?_ (fun hHeld => ?_)
                · exact QW.out _ E1.out
                clear hK K
                refine rd 3 fun K hK => ?_
                go_simp
                refine (rsame10_at mz mz true _ _ _ _ _ _ _ _ d1 (MN.out.dat.weak.later E1.out) (DWn.out.later E1.out) SMZ.out SMZ.out (by simp)).mono ?_
                rintro e d2 ⟨rfl, hb⟩
                have E2 := Lib.hid (below_step' E1.out hb)
                clear hb
                go_wp2_with fail
                refine hK.out _ _ ?_ (fun hHeld => ?_)
                · exact QW.out _ E2.out
                clear hK K
                refine tq 4 ?_
                refine wpAnyH_done (by kernel_rfl) ?_ _
                clear hHeld
                go_wp2_with fail
                go_roundw
                case rel => exact ⟨j + 1, u0, u1, u2, u3, k0, k1, k2, k3, f0, f1, f2, f3, by go_num, by omega, by omega, MN.out.below E2.out, below_step' BN.out E2.out, SN.out.trans (SameOn.of_below E2.out)⟩
                case measure => simp [intOf]; omega
              · skip
                go_simp
                obtain ⟨bx, hbx⟩ : ∃ b, b = z0.heap.size := ⟨_, rfl⟩
                obtain ⟨y9, hy9⟩ : ∃ y, y = z0.alloc (.cells #[.int .i64 0, .slice none 0 0, .int .i64 0, .int .i64 0, .int .i64 0, .slice none 0 0, .slice none 0 0, .slice none 0 0] 33) := ⟨_, rfl⟩
                have hn : Below z0.heap.size z0 y9 := by rw [hy9]; exact below_new _ _
                have KN0 : Hid (BoxAt bx [.int .i64 0, .slice none 0 0, .int .i64 0, .int .i64 0, .int .i64 0, .slice none 0 0, .slice none 0 0, .slice none 0 0] y9) := Lib.hid (by rw [hbx, hy9]; exact boxAt_new z0 [.int .i64 0, .slice none 0 0, .int .i64 0, .int .i64 0, .int .i64 0, .slice none 0 0, .slice none 0 0, .slice none 0 0] _)
                have ON0 : Hid (Open8 bx y9) := Lib.hid (by rw [hbx, hy9]; exact Open8.new _ _ _)
                have XY : Hid (z0.heap.size ≤ bx) := Lib.hid (by rw [hbx]; exact Nat.le_refl _)
                have BX9 := Lib.hid hn
                rw [← hy9, ← hbx]
                clear hy9 hbx hn
                refine hK.out _ _ ?_ (fun hHeld => ?_)
                · exact QX.out _ BX9.out
                clear hK K
                refine rd 7 fun K hK => ?_
                go_simp
                refine (CM.out y9 BX9.out).mono ?_
                rintro e wx ⟨v0, v1, v2, v3, rfl, hU, hb⟩
                obtain ⟨u0, u1, u2, u3, k0, k1, k2, k3, f0, f1, f2, f3, ff0, ff1, ff2, ff3⟩ := mk_slices hU.weak
                subst ff0
                subst ff1
                subst ff2
                subst ff3
                unfold mkv
                have HU := Lib.hid (hU.loose.wide (P' := fun q => z0.heap.size ≤ q ∧ q ≠ bx) (fun q _ (hq : y9.heap.size ≤ q) => ⟨Nat.le_trans BX9.out.size hq, fun e => by subst e; exact Nat.lt_irrefl _ (Nat.lt_of_lt_of_le ON0.out.1 hq)⟩))
                have KN := Lib.hid (KN0.out.below hb)
                have ON := Lib.hid (ON0.out.below hb)
                have BX := Lib.hid (below_step' BX9.out hb)
                clear hU hb KN0 ON0 BX9
                go_wp2_with fail
                refine hK.out _ _ ?_ (fun hHeld => ?_)
                · exact QX.out _ BX.out
                clear hK K
                refine tq 8 ?_
                refine tq 9 ?_
                refine tq 10 ?_
                have NE : Hid (bm ≠ bx ∧ bh ≠ bx ∧ b ≠ bx) := Lib.hid (by have h1 := SZ0.out; have h2 := XY.out; omega)
                have cc0 := KN.out 0 _ rfl
                have cc1 := KN.out 1 _ rfl
                have cc2 := KN.out 2 _ rfl
                have cc3 := KN.out 3 _ rfl
                have cc4 := KN.out 4 _ rfl
                have cc5 := KN.out 5 _ rfl
                have cc6 := KN.out 6 _ rfl
                have cc7 := KN.out 7 _ rfl
                have g0 := ON.out.2 0
                have g1 := ON.out.2 1
                have g2 := ON.out.2 2
                have g3 := ON.out.2 3
                have g4 := ON.out.2 4
                have g5 := ON.out.2 5
                have g6 := ON.out.2 6
                have g7 := ON.out.2 7
                have q9 := QX.out _ BX.out
                have SNH : Hid ((fun w' => w'.cell? ⟨bm, 0, none⟩ = some (.int .i64 mz.ep) ∧ w'.cell? ⟨bm, 1, none⟩ = some (.slice c0 s0 t0) ∧ w'.cell? ⟨bm, 2, none⟩ = some (.int .i64 mz.p.node) ∧ w'.cell? ⟨bm, 3, none⟩ = some (.int .i64 mz.p.state) ∧ w'.cell? ⟨bm, 4, none⟩ = some (.int .i64 mz.p.steps) ∧ w'.cell? ⟨bm, 5, none⟩ = some (.slice c1 s1 t1) ∧ w'.cell? ⟨bm, 6, none⟩ = some (.slice c2 s2 t2) ∧ w'.cell? ⟨bm, 7, none⟩ = some (.slice c3 s3 t3) ∧ w'.cell? ⟨bh, 0, none⟩ = some (.int .i64 1) ∧ w'.cell? ⟨bh, 1, none⟩ = some (.int .i64 2) ∧ w'.cell? ⟨bh, 2, none⟩ = some (.int .i64 0) ∧ w'.cell? ⟨bh, 3, none⟩ = some (.slice ga N gc) ∧ w'.cell? ⟨bh, 4, none⟩ = some (.slice gb N gd) ∧ w'.cell? ⟨b, of + j * 5 + 2, none⟩ = some (.int .i64 pl)) (setN wx bx 0 [.int .i64 mz.ep, .slice u0 k0 f0, .int .i64 mz.p.node, .int .i64 mz.p.state, .int .i64 mz.p.steps, .slice u1 k1 f1, .slice u2 k2 f2, .slice u3 k3 f3])) := Lib.hid ⟨setN_cell NE.out.1 (q9.1), setN_cell NE.out.1 (q9.2.1), setN_cell NE.out.1 (q9.2.2.1), setN_cell NE.out.1 (q9.2.2.2.1), setN_cell NE.out.1 (q9.2.2.2.2.1), setN_cell NE.out.1 (q9.2.2.2.2.2.1), setN_cell NE.out.1 (q9.2.2.2.2.2.2.1), setN_cell NE.out.1 (q9.2.2.2.2.2.2.2.1), setN_cell NE.out.2.1 (q9.2.2.2.2.2.2.2.2.1), setN_cell NE.out.2.1 (q9.2.2.2.2.2.2.2.2.2.1), setN_cell NE.out.2.1 (q9.2.2.2.2.2.2.2.2.2.2.1), setN_cell NE.out.2.1 (q9.2.2.2.2.2.2.2.2.2.2.2.1), setN_cell NE.out.2.1 (q9.2.2.2.2.2.2.2.2.2.2.2.2.1), setN_cell NE.out.2.2 (q9.2.2.2.2.2.2.2.2.2.2.2.2.2)⟩
                clear q9
                refine rd 12 fun K hK => ?_
                go_simp
                refine hK.out _ _ ?_ (fun hHeld => ?_)
                · exact SNH.out
                clear hK K
                refine tq 13 ?_
                refine wpAnyH_done (by kernel_rfl) ?_ _
                change Exit.then _ _ Exit.normal _ (setN wx bx 0 [.int .i64 mz.ep, .slice u0 k0 f0, .int .i64 mz.p.node, .int .i64 mz.p.state, .int .i64 mz.p.steps, .slice u1 k1 f1, .slice u2 k2 f2, .slice u3 k3 f3])
                have KB : Hid (BoxAt bx [.int .i64 mz.ep, .slice u0 k0 f0, .int .i64 mz.p.node, .int .i64 mz.p.state, .int .i64 mz.p.steps, .slice u1 k1 f1, .slice u2 k2 f2, .slice u3 k3 f3] (setN wx bx 0 [.int .i64 mz.ep, .slice u0 k0 f0, .int .i64 mz.p.node, .int .i64 mz.p.state, .int .i64 mz.p.steps, .slice u1 k1 f1, .slice u2 k2 f2, .slice u3 k3 f3])) := Lib.hid (setN_box [.int .i64 mz.ep, .slice u0 k0 f0, .int .i64 mz.p.node, .int .i64 mz.p.state, .int .i64 mz.p.steps, .slice u1 k1 f1, .slice u2 k2 f2, .slice u3 k3 f3] 0 _ wx KN.out (by simp))
                have MZ2 := Lib.hid (MJ.out.other (below_step' BZ.out BX.out) (Nat.le_trans BZ.out.size XY.out) 0 [.int .i64 mz.ep, .slice u0 k0 f0, .int .i64 mz.p.node, .int .i64 mz.p.state, .int .i64 mz.p.steps, .slice u1 k1 f1, .slice u2 k2 f2, .slice u3 k3 f3])
                have DZ2 : Hid (HoldsL False (fun q => q ≠ bm ∧ q ≠ bh) (setN wx bx 0 [.int .i64 mz.ep, .slice u0 k0 f0, .int .i64 mz.p.node, .int .i64 mz.p.state, .int .i64 mz.p.steps, .slice u1 k1 f1, .slice u2 k2 f2, .slice u3 k3 f3]) [.slice u0 k0 f0, .slice u1 k1 f1, .slice u2 k2 f2, .slice u3 k3 f3] mz.d) := Lib.hid ((HU.out.same (setN_same (P := fun q => z0.heap.size ≤ q ∧ q ≠ bx) (b := bx) (fun h => h.2 rfl) [.int .i64 mz.ep, .slice u0 k0 f0, .int .i64 mz.p.node, .int .i64 mz.p.state, .int .i64 mz.p.steps, .slice u1 k1 f1, .slice u2 k2 f2, .slice u3 k3 f3] 0 wx (SameOn.refl _ _))).wide (fun q _ (hq : z0.heap.size ≤ q ∧ q ≠ bx) => by have := SZ0.out; omega))
                have BN1 := Lib.hid (setN_below (Nat.le_trans BJ.out.size (Nat.le_trans BZ.out.size XY.out)) [.int .i64 mz.ep, .slice u0 k0 f0, .int .i64 mz.p.node, .int .i64 mz.p.state, .int .i64 mz.p.steps, .slice u1 k1 f1, .slice u2 k2 f2, .slice u3 k3 f3] 0 wx (below_step' BJ.out (below_step' BZ.out BX.out)))
                have SN1 : Hid (SameOn (fun q => q ≠ bm) y2 (setN wx bx 0 [.int .i64 mz.ep, .slice u0 k0 f0, .int .i64 mz.p.node, .int .i64 mz.p.state, .int .i64 mz.p.steps, .slice u1 k1 f1, .slice u2 k2 f2, .slice u3 k3 f3])) := Lib.hid ((SJ.out.trans (SameOn.of_below BZ.out)).trans ⟨by rw [setN_size]; exact BX.out.size, fun q _ hq => (setN_same (P := fun q => q < z0.heap.size) (b := bx) (fun h => Nat.not_lt.2 XY.out h) [.int .i64 mz.ep, .slice u0 k0 f0, .int .i64 mz.p.node, .int .i64 mz.p.state, .int .i64 mz.p.steps, .slice u1 k1 f1, .slice u2 k2 f2, .slice u3 k3 f3] 0 wx (SameOn.of_below BX.out)).2 q hq hq⟩)
                obtain ⟨z2, hz2⟩ : ∃ x, x = setN wx bx 0 [.int .i64 mz.ep, .slice u0 k0 f0, .int .i64 mz.p.node, .int .i64 mz.p.state, .int .i64 mz.p.steps, .slice u1 k1 f1, .slice u2 k2 f2, .slice u3 k3 f3] := ⟨_, rfl⟩
                rw [← hz2] at KB MZ2 DZ2 BN1 SN1 ⊢
                clear hz2 cc0 cc1 cc2 cc3 cc4 cc5 cc6 cc7 g0 g1 g2 g3 g4 g5 g6 g7 SNH hHeld
                have cc0 := KB.out 0 _ rfl
                have cc1 := KB.out 1 _ rfl
                have cc2 := KB.out 2 _ rfl
                have cc3 := KB.out 3 _ rfl
                have cc4 := KB.out 4 _ rfl
                have cc5 := KB.out 5 _ rfl
                have cc6 := KB.out 6 _ rfl
                have cc7 := KB.out 7 _ rfl
                have dd0 := MZ2.out.box 0 _ rfl
                have dd1 := MZ2.out.box 1 _ rfl
                have dd2 := MZ2.out.box 2 _ rfl
                have dd3 := MZ2.out.box 3 _ rfl
                have dd4 := MZ2.out.box 4 _ rfl
                have dd5 := MZ2.out.box 5 _ rfl
                have dd6 := MZ2.out.box 6 _ rfl
                have dd7 := MZ2.out.box 7 _ rfl
                have g0 := MZ2.out.opn.2 0
                have g1 := MZ2.out.opn.2 1
                have g2 := MZ2.out.opn.2 2
                have g3 := MZ2.out.opn.2 3
                have g4 := MZ2.out.opn.2 4
                have g5 := MZ2.out.opn.2 5
                have g6 := MZ2.out.opn.2 6
                have g7 := MZ2.out.opn.2 7
                go_upto_region 21 with fail
                change Code.wp _ _ _ _ (setN z2 bm 0 [.int .i64 mz.ep, .slice u0 k0 f0, .int .i64 mz.p.node, .int .i64 mz.p.state, .int .i64 mz.p.steps, .slice u1 k1 f1, .slice u2 k2 f2, .slice u3 k3 f3])
                have MN : Hid (MIn bm bh mz u0 u1 u2 u3 k0 k1 k2 k3 f0 f1 f2 f3 (setN z2 bm 0 [.int .i64 mz.ep, .slice u0 k0 f0, .int .i64 mz.p.node, .int .i64 mz.p.state, .int .i64 mz.p.steps, .slice u1 k1 f1, .slice u2 k2 f2, .slice u3 k3 f3])) := Lib.hid (MZ2.out.put DZ2.out)
                have BN : Hid (Below w.heap.size w (setN z2 bm 0 [.int .i64 mz.ep, .slice u0 k0 f0, .int .i64 mz.p.node, .int .i64 mz.p.state, .int .i64 mz.p.steps, .slice u1 k1 f1, .slice u2 k2 f2, .slice u3 k3 f3])) := Lib.hid (setN_below LB.out.2.2.2.1 [.int .i64 mz.ep, .slice u0 k0 f0, .int .i64 mz.p.node, .int .i64 mz.p.state, .int .i64 mz.p.steps, .slice u1 k1 f1, .slice u2 k2 f2, .slice u3 k3 f3] 0 z2 BN1.out)
                have SN : Hid (SameOn (fun q => q ≠ bm) y2 (setN z2 bm 0 [.int .i64 mz.ep, .slice u0 k0 f0, .int .i64 mz.p.node, .int .i64 mz.p.state, .int .i64 mz.p.steps, .slice u1 k1 f1, .slice u2 k2 f2, .slice u3 k3 f3])) := Lib.hid (setN_same (P := fun q => q ≠ bm) (b := bm) (fun h => h rfl) [.int .i64 mz.ep, .slice u0 k0 f0, .int .i64 mz.p.node, .int .i64 mz.p.state, .int .i64 mz.p.steps, .slice u1 k1 f1, .slice u2 k2 f2, .slice u3 k3 f3] 0 z2 SN1.out)
                obtain ⟨wn, hwn⟩ : ∃ x, x = setN z2 bm 0 [.int .i64 mz.ep, .slice u0 k0 f0, .int .i64 mz.p.node, .int .i64 mz.p.state, .int .i64 mz.p.steps, .slice u1 k1 f1, .slice u2 k2 f2, .slice u3 k3 f3] := ⟨_, rfl⟩
                rw [← hwn] at MN BN SN ⊢
                clear hwn cc0 cc1 cc2 cc3 cc4 cc5 cc6 cc7 dd0 dd1 dd2 dd3 dd4 dd5 dd6 dd7 g0 g1 g2 g3 g4 g5 g6 g7 DZ2 MZ2 KB BN1 SN1 KN ON HU BX XY NE
                have KWn := Lib.hid (KW.out.same SN.out NBW.out)
                have DWn : Hid (HasL wn [.slice a0 n0 e0, .slice a1 n1 e1, .slice a2 n2 e2, .slice a3 n3 e3] mz.d) := Lib.hid (DW.out.same (SN.out.sub (fun q h => h.1))).weak
                have QW : Hid (∀ w', Below wn.heap.size wn w' → (fun w' => w'.cell? ⟨bm, 0, none⟩ = some (.int .i64 mz.ep) ∧ w'.cell? ⟨bm, 1, none⟩ = some (.slice u0 k0 f0) ∧ w'.cell? ⟨bm, 2, none⟩ = some (.int .i64 mz.p.node) ∧ w'.cell? ⟨bm, 3, none⟩ = some (.int .i64 mz.p.state) ∧ w'.cell? ⟨bm, 4, none⟩ = some (.int .i64 mz.p.steps) ∧ w'.cell? ⟨bm, 5, none⟩ = some (.slice u1 k1 f1) ∧ w'.cell? ⟨bm, 6, none⟩ = some (.slice u2 k2 f2) ∧ w'.cell? ⟨bm, 7, none⟩ = some (.slice u3 k3 f3) ∧ w'.cell? ⟨bw, 0, none⟩ = some (.int .i64 mz.ep) ∧ w'.cell? ⟨bw, 1, none⟩ = some (.slice a0 n0 e0) ∧ w'.cell? ⟨bw, 2, none⟩ = some (.int .i64 mz.p.node) ∧ w'.cell? ⟨bw, 3, none⟩ = some (.int .i64 mz.p.state) ∧ w'.cell? ⟨bw, 4, none⟩ = some (.int .i64 mz.p.steps) ∧ w'.cell? ⟨bw, 5, none⟩ = some (.slice a1 n1 e1) ∧ w'.cell? ⟨bw, 6, none⟩ = some (.slice a2 n2 e2) ∧ w'.cell? ⟨bw, 7, none⟩ = some (.slice a3 n3 e3)) w') := Lib.hid (fun w' hb => ⟨MN.out.box.below hb 0 _ rfl, MN.out.box.below hb 1 _ rfl, MN.out.box.below hb 2 _ rfl, MN.out.box.below hb 3 _ rfl, MN.out.box.below hb 4 _ rfl, MN.out.box.below hb 5 _ rfl, MN.out.box.below hb 6 _ rfl, MN.out.box.below hb 7 _ rfl, KWn.out.below hb 0 _ rfl, KWn.out.below hb 1 _ rfl, KWn.out.below hb 2 _ rfl, KWn.out.below hb 3 _ rfl, KWn.out.below hb 4 _ rfl, KWn.out.below hb 5 _ rfl, KWn.out.below hb 6 _ rfl, KWn.out.below hb 7 _ rfl⟩)
                go_wp2_with fail
                refine wp_region_held_drew (S := (fun w' => w'.cell? ⟨bm, 0, none⟩ = some (.int .i64 mz.ep) ∧ w'.cell? ⟨bm, 1, none⟩ = some (.slice u0 k0 f0) ∧ w'.cell? ⟨bm, 2, none⟩ = some (.int .i64 mz.p.node) ∧ w'.cell? ⟨bm, 3, none⟩ = some (.int .i64 mz.p.state) ∧ w'.cell? ⟨bm, 4, none⟩ = some (.int .i64 mz.p.steps) ∧ w'.cell? ⟨bm, 5, none⟩ = some (.slice u1 k1 f1) ∧ w'.cell? ⟨bm, 6, none⟩ = some (.slice u2 k2 f2) ∧ w'.cell? ⟨bm, 7, none⟩ = some (.slice u3 k3 f3) ∧ w'.cell? ⟨bw, 0, none⟩ = some (.int .i64 mz.ep) ∧ w'.cell? ⟨bw, 1, none⟩ = some (.slice a0 n0 e0) ∧ w'.cell? ⟨bw, 2, none⟩ = some (.int .i64 mz.p.node) ∧ w'.cell? ⟨bw, 3, none⟩ = some (.int .i64 mz.p.state) ∧ w'.cell? ⟨bw, 4, none⟩ = some (.int .i64 mz.p.steps) ∧ w'.cell? ⟨bw, 5, none⟩ = some (.slice a1 n1 e1) ∧ w'.cell? ⟨bw, 6, none⟩ = some (.slice a2 n2 e2) ∧ w'.cell? ⟨bw, 7, none⟩ = some (.slice a3 n3 e3))) (by kernel_rfl) ?_ (fun hHeld => ?_)
                · exact QW.out _ (below_drewN (Below.refl _ wn) 1)
                obtain ⟨d0, hd0⟩ : ∃ y, y = wn.drew := ⟨_, rfl⟩
                rw [← hd0] at hHeld ⊢
                have E0 : Hid (Below wn.heap.size wn d0) := Lib.hid (by rw [hd0]; exact below_drewN (Below.refl _ wn) 1)
                clear hd0
                refine tq 0 ?_
                refine tq 2 ?_
                refine rd 1 fun K hK => ?_
                go_simp
                refine (ref10_at mz _ _ _ _ d0 ⟨_, _, _, _, _, _, _, _, _, _, _, _, rfl, rfl, rfl, rfl⟩).mono ?_
                rintro e d1 ⟨rfl, hb⟩
                have E1 := Lib.hid (below_step' E0.out hb)
                clear hb
                go_wp2_with fail
                refine hK.out _ _ ?_ (fun hHeld => ?_)
                · exact QW.out _ E1.out
                clear hK K
                refine rd 3 fun K hK => ?_
                go_simp
                refine (rsame10_at mz mz true _ _ _ _ _ _ _ _ d1 (MN.out.dat.weak.later E1.out) (DWn.out.later E1.out) SMZ.out SMZ.out (by simp)).mono ?_
                rintro e d2 ⟨rfl, hb⟩
                have E2 := Lib.hid (below_step' E1.out hb)
                clear hb
                go_wp2_with fail
                refine hK.out _ _ ?_ (fun hHeld => ?_)
                · exact QW.out _ E2.out
                clear hK K
                refine tq 4 ?_
                refine wpAnyH_done (by kernel_rfl) ?_ _
                clear hHeld
                go_wp2_with fail
                go_roundw
                case rel => exact ⟨j + 1, u0, u1, u2, u3, k0, k1, k2, k3, f0, f1, f2, f3, by go_num, by omega, by omega, MN.out.below E2.out, below_step' BN.out E2.out, SN.out.trans (SameOn.of_below E2.out)⟩
                case measure => simp [intOf]; omega
            | false =>
              have q0' := (BJ.out.cell (World.block_lt_of_cell? w _ q0)).trans q0
              clear q0
              have GX : Hid ((fun w' => w'.cell? ⟨b, of + j * 5 + 2, none⟩ = some (.int .i64 pl) ∧ w'.cell? ⟨b, of + j * 5 + 3, none⟩ = some (.int .i64 x1) ∧ w'.cell? ⟨b, of + j * 5 + 4, none⟩ = some (.int .i64 x2)) w) := Lib.hid ⟨q2, q3, q4⟩
              have QS : Hid (∀ w', Below w.heap.size w w' → (fun w' => w'.cell? ⟨b, of + j * 5 + 2, none⟩ = some (.int .i64 pl) ∧ w'.cell? ⟨b, of + j * 5 + 3, none⟩ = some (.int .i64 x1) ∧ w'.cell? ⟨b, of + j * 5 + 4, none⟩ = some (.int .i64 x2)) w') := Lib.hid (fun w' hb => ⟨(hb.cell (World.block_lt_of_cell? w _ GX.out.1)).trans GX.out.1, (hb.cell (World.block_lt_of_cell? w _ GX.out.2.1)).trans GX.out.2.1, (hb.cell (World.block_lt_of_cell? w _ GX.out.2.2)).trans GX.out.2.2⟩)
              clear q2 q3 q4
              go_wp2_with fail
              clear q0'
              refine wp_region_held_drew (S := (fun w' => w'.cell? ⟨b, of + j * 5 + 2, none⟩ = some (.int .i64 pl) ∧ w'.cell? ⟨b, of + j * 5 + 3, none⟩ = some (.int .i64 x1) ∧ w'.cell? ⟨b, of + j * 5 + 4, none⟩ = some (.int .i64 x2))) (by kernel_rfl) ?_ (fun hHeld => ?_)
              · exact QS.out _ (below_step' BJ.out (below_drewN (Below.refl _ wr1) 1))
              obtain ⟨z0, hz0⟩ : ∃ y, y = wr1.drew := ⟨_, rfl⟩
              rw [← hz0] at hHeld ⊢
              have BZ : Hid (Below wr1.heap.size wr1 z0) := Lib.hid (by rw [hz0]; exact below_drewN (Below.refl _ wr1) 1)
              clear hz0
              have MZ := Lib.hid (MJ.out.below BZ.out)
              refine tq 1 ?_
              refine tq 2 ?_
              refine tq 6 ?_
              refine tq 7 ?_
              refine tq 3 ?_
              refine tq 8 ?_
              refine tq 4 ?_
              refine tq 9 ?_
              refine tq 5 ?_
              refine tq 10 ?_
              have cc0 := MZ.out.box 0 _ rfl
              have cc1 := MZ.out.box 1 _ rfl
              have cc2 := MZ.out.box 2 _ rfl
              have cc3 := MZ.out.box 3 _ rfl
              have cc4 := MZ.out.box 4 _ rfl
              have cc5 := MZ.out.box 5 _ rfl
              have cc6 := MZ.out.box 6 _ rfl
              have cc7 := MZ.out.box 7 _ rfl
              refine rd 0 fun K hK => ?_
              go_simp
              refine hK.out _ _ ?_ (fun hHeld => ?_)
              · exact QS.out _ (below_step' BJ.out BZ.out)
              clear hK K
              refine rd 11 fun K hK => ?_
              go_simp
              refine (app_at mz pl (x1, x2) _ _ _ _ z0 MZ.out.dat.weak SMZ.out (fun h => by rw [OPEN.out] at h; cases h)).mono ?_
              rintro e z1 ⟨v0, v1, v2, v3, rfl, hU, hb⟩
              rw [APP.out] at hU ⊢
              clear cc0 cc1 cc2 cc3 cc4 cc5 cc6 cc7
              obtain ⟨u0, u1, u2, u3, k0, k1, k2, k3, f0, f1, f2, f3, ff0, ff1, ff2, ff3⟩ := mk_slices hU.weak
              subst ff0
              subst ff1
              subst ff2
              subst ff3
              have MZ1 := Lib.hid (MZ.out.below hb)
              have DZ := Lib.hid (told_off (bm := bm) (bh := bh) hU MZ.out.opn.1 (Nat.lt_of_lt_of_le (Nat.lt_of_lt_of_le OH.out.1 SJ.out.1) BZ.out.size))
              have BZ1 := Lib.hid (below_step' BZ.out hb)
              clear hU hb
              unfold mkv
              go_wp2_with fail
              refine hK.out _ _ ?_ (fun hHeld => ?_)
              · exact QS.out _ (below_step' BJ.out BZ1.out)
              clear hK K
              have cc0 := MZ1.out.box 0 _ rfl
              have cc1 := MZ1.out.box 1 _ rfl
              have cc2 := MZ1.out.box 2 _ rfl
              have cc3 := MZ1.out.box 3 _ rfl
              have cc4 := MZ1.out.box 4 _ rfl
              have cc5 := MZ1.out.box 5 _ rfl
              have cc6 := MZ1.out.box 6 _ rfl
              have cc7 := MZ1.out.box 7 _ rfl
              have g0 := MZ1.out.opn.2 0
              have g1 := MZ1.out.opn.2 1
              have g2 := MZ1.out.opn.2 2
              have g3 := MZ1.out.opn.2 3
              have g4 := MZ1.out.opn.2 4
              have g5 := MZ1.out.opn.2 5
              have g6 := MZ1.out.opn.2 6
              have g7 := MZ1.out.opn.2 7
              have q2 := (QS.out _ (below_step' BJ.out BZ1.out))
              have SN9 : (fun w' => w'.cell? ⟨b, of + j * 5 + 2, none⟩ = some (.int .i64 pl) ∧ w'.cell? ⟨b, of + j * 5 + 3, none⟩ = some (.int .i64 x1) ∧ w'.cell? ⟨b, of + j * 5 + 4, none⟩ = some (.int .i64 x2)) (setN z1 bm 0 [.int .i64 mz.ep, .slice u0 k0 f0, .int .i64 mz.p.node, .int .i64 mz.p.state, .int .i64 mz.p.steps, .slice u1 k1 f1, .slice u2 k2 f2, .slice u3 k3 f3]) := ⟨setN_cell NBb.out q2.1, setN_cell NBb.out q2.2.1, setN_cell NBb.out q2.2.2⟩
              have SNH := Lib.hid SN9
              clear SN9 q2
              refine rd 12 fun K hK => ?_
              go_simp
              refine hK.out _ _ ?_ (fun hHeld => ?_)
              · exact SNH.out
              clear hK K
              refine wpAnyH_done (by kernel_rfl) ?_ _
              change Exit.then _ _ Exit.normal _ (setN z1 bm 0 [.int .i64 mz.ep, .slice u0 k0 f0, .int .i64 mz.p.node, .int .i64 mz.p.state, .int .i64 mz.p.steps, .slice u1 k1 f1, .slice u2 k2 f2, .slice u3 k3 f3])
              have MN : Hid (MIn bm bh mz u0 u1 u2 u3 k0 k1 k2 k3 f0 f1 f2 f3 (setN z1 bm 0 [.int .i64 mz.ep, .slice u0 k0 f0, .int .i64 mz.p.node, .int .i64 mz.p.state, .int .i64 mz.p.steps, .slice u1 k1 f1, .slice u2 k2 f2, .slice u3 k3 f3])) := Lib.hid (MZ1.out.put DZ.out)
              have BN : Hid (Below w.heap.size w (setN z1 bm 0 [.int .i64 mz.ep, .slice u0 k0 f0, .int .i64 mz.p.node, .int .i64 mz.p.state, .int .i64 mz.p.steps, .slice u1 k1 f1, .slice u2 k2 f2, .slice u3 k3 f3])) := Lib.hid (setN_below (by have := LB.out; omega) [.int .i64 mz.ep, .slice u0 k0 f0, .int .i64 mz.p.node, .int .i64 mz.p.state, .int .i64 mz.p.steps, .slice u1 k1 f1, .slice u2 k2 f2, .slice u3 k3 f3] 0 z1 (below_step' BJ.out BZ1.out))
              have SN : Hid (SameOn (fun q => q ≠ bm) y2 (setN z1 bm 0 [.int .i64 mz.ep, .slice u0 k0 f0, .int .i64 mz.p.node, .int .i64 mz.p.state, .int .i64 mz.p.steps, .slice u1 k1 f1, .slice u2 k2 f2, .slice u3 k3 f3])) := Lib.hid (setN_same (P := fun q => q ≠ bm) (b := bm) (fun h => h rfl) [.int .i64 mz.ep, .slice u0 k0 f0, .int .i64 mz.p.node, .int .i64 mz.p.state, .int .i64 mz.p.steps, .slice u1 k1 f1, .slice u2 k2 f2, .slice u3 k3 f3] 0 z1 (SJ.out.trans (SameOn.of_below BZ1.out)))
              obtain ⟨wn, hwn⟩ : ∃ x, x = setN z1 bm 0 [.int .i64 mz.ep, .slice u0 k0 f0, .int .i64 mz.p.node, .int .i64 mz.p.state, .int .i64 mz.p.steps, .slice u1 k1 f1, .slice u2 k2 f2, .slice u3 k3 f3] := ⟨_, rfl⟩
              rw [← hwn] at MN BN SN ⊢
              clear hwn cc0 cc1 cc2 cc3 cc4 cc5 cc6 cc7 g0 g1 g2 g3 g4 g5 g6 g7 SNH hHeld MZ MZ1 DZ
              have KWn := Lib.hid (KW.out.same SN.out NBW.out)
              have DWn : Hid (HasL wn [.slice a0 n0 e0, .slice a1 n1 e1, .slice a2 n2 e2, .slice a3 n3 e3] mz.d) := Lib.hid (DW.out.same (SN.out.sub (fun q h => h.1))).weak
              have QW : Hid (∀ w', Below wn.heap.size wn w' → (fun w' => w'.cell? ⟨bm, 0, none⟩ = some (.int .i64 mz.ep) ∧ w'.cell? ⟨bm, 1, none⟩ = some (.slice u0 k0 f0) ∧ w'.cell? ⟨bm, 2, none⟩ = some (.int .i64 mz.p.node) ∧ w'.cell? ⟨bm, 3, none⟩ = some (.int .i64 mz.p.state) ∧ w'.cell? ⟨bm, 4, none⟩ = some (.int .i64 mz.p.steps) ∧ w'.cell? ⟨bm, 5, none⟩ = some (.slice u1 k1 f1) ∧ w'.cell? ⟨bm, 6, none⟩ = some (.slice u2 k2 f2) ∧ w'.cell? ⟨bm, 7, none⟩ = some (.slice u3 k3 f3) ∧ w'.cell? ⟨bw, 0, none⟩ = some (.int .i64 mz.ep) ∧ w'.cell? ⟨bw, 1, none⟩ = some (.slice a0 n0 e0) ∧ w'.cell? ⟨bw, 2, none⟩ = some (.int .i64 mz.p.node) ∧ w'.cell? ⟨bw, 3, none⟩ = some (.int .i64 mz.p.state) ∧ w'.cell? ⟨bw, 4, none⟩ = some (.int .i64 mz.p.steps) ∧ w'.cell? ⟨bw, 5, none⟩ = some (.slice a1 n1 e1) ∧ w'.cell? ⟨bw, 6, none⟩ = some (.slice a2 n2 e2) ∧ w'.cell? ⟨bw, 7, none⟩ = some (.slice a3 n3 e3)) w') := Lib.hid (fun w' hb => ⟨MN.out.box.below hb 0 _ rfl, MN.out.box.below hb 1 _ rfl, MN.out.box.below hb 2 _ rfl, MN.out.box.below hb 3 _ rfl, MN.out.box.below hb 4 _ rfl, MN.out.box.below hb 5 _ rfl, MN.out.box.below hb 6 _ rfl, MN.out.box.below hb 7 _ rfl, KWn.out.below hb 0 _ rfl, KWn.out.below hb 1 _ rfl, KWn.out.below hb 2 _ rfl, KWn.out.below hb 3 _ rfl, KWn.out.below hb 4 _ rfl, KWn.out.below hb 5 _ rfl, KWn.out.below hb 6 _ rfl, KWn.out.below hb 7 _ rfl⟩)
              go_wp2_with fail
              refine wp_region_held_drew (S := (fun w' => w'.cell? ⟨bm, 0, none⟩ = some (.int .i64 mz.ep) ∧ w'.cell? ⟨bm, 1, none⟩ = some (.slice u0 k0 f0) ∧ w'.cell? ⟨bm, 2, none⟩ = some (.int .i64 mz.p.node) ∧ w'.cell? ⟨bm, 3, none⟩ = some (.int .i64 mz.p.state) ∧ w'.cell? ⟨bm, 4, none⟩ = some (.int .i64 mz.p.steps) ∧ w'.cell? ⟨bm, 5, none⟩ = some (.slice u1 k1 f1) ∧ w'.cell? ⟨bm, 6, none⟩ = some (.slice u2 k2 f2) ∧ w'.cell? ⟨bm, 7, none⟩ = some (.slice u3 k3 f3) ∧ w'.cell? ⟨bw, 0, none⟩ = some (.int .i64 mz.ep) ∧ w'.cell? ⟨bw, 1, none⟩ = some (.slice a0 n0 e0) ∧ w'.cell? ⟨bw, 2, none⟩ = some (.int .i64 mz.p.node) ∧ w'.cell? ⟨bw, 3, none⟩ = some (.int .i64 mz.p.state) ∧ w'.cell? ⟨bw, 4, none⟩ = some (.int .i64 mz.p.steps) ∧ w'.cell? ⟨bw, 5, none⟩ = some (.slice a1 n1 e1) ∧ w'.cell? ⟨bw, 6, none⟩ = some (.slice a2 n2 e2) ∧ w'.cell? ⟨bw, 7, none⟩ = some (.slice a3 n3 e3))) (by kernel_rfl) ?_ (fun hHeld => ?_)
              · exact QW.out _ (below_drewN (Below.refl _ wn) 1)
              obtain ⟨d0, hd0⟩ : ∃ y, y = wn.drew := ⟨_, rfl⟩
              rw [← hd0] at hHeld ⊢
              have E0 : Hid (Below wn.heap.size wn d0) := Lib.hid (by rw [hd0]; exact below_drewN (Below.refl _ wn) 1)
              clear hd0
              refine tq 0 ?_
              refine tq 2 ?_
              refine rd 1 fun K hK => ?_
              go_simp
              refine (ref10_at mz _ _ _ _ d0 ⟨_, _, _, _, _, _, _, _, _, _, _, _, rfl, rfl, rfl, rfl⟩).mono ?_
              rintro e d1 ⟨rfl, hb⟩
              have E1 := Lib.hid (below_step' E0.out hb)
              clear hb
              go_wp2_with fail
              refine hK.out _ _ ?_ (fun hHeld => ?_)
              · exact QW.out _ E1.out
              clear hK K
              refine rd 3 fun K hK => ?_
              go_simp
              refine (rsame10_at mz mz true _ _ _ _ _ _ _ _ d1 (MN.out.dat.weak.later E1.out) (DWn.out.later E1.out) SMZ.out SMZ.out (by simp)).mono ?_
              rintro e d2 ⟨rfl, hb⟩
              have E2 := Lib.hid (below_step' E1.out hb)
              clear hb
              go_wp2_with fail
              refine hK.out _ _ ?_ (fun hHeld => ?_)
              · exact QW.out _ E2.out
              clear hK K
              refine tq 4 ?_
              refine wpAnyH_done (by kernel_rfl) ?_ _
              clear hHeld
              go_wp2_with fail
              go_roundw
              case rel => exact ⟨j + 1, u0, u1, u2, u3, k0, k1, k2, k3, f0, f1, f2, f3, by go_num, by omega, by omega, MN.out.below E2.out, below_step' BN.out E2.out, SN.out.trans (SameOn.of_below E2.out)⟩
              case measure => simp [intOf]; omega
          · obtain rfl : j = 30 := by omega
            have h20' : ¬ ((30 : Nat) : Int) < 30 := by decide
            have h21' : ¬ (30 : Int) < 30 := by decide
            have KHr := Lib.hid (KH.out.same SJ.out (Ne.symm LB.out.2.2.1))
            have HGr : Hid (HasL wr1 [.slice ga N gc, .slice gb N gd] (endsH N 0).d) := Lib.hid (HG.out.same (SJ.out.sub (fun q h => h.2))).weak
            by_cases hz : N = 0
            · have hz' : ((N : Int) == 0) = true := by simp [hz]
              clear hz
              go_wp2_with fail
              refine (fixed10_any wr1).mono ?_
              rintro e d5 ⟨rfl, hb⟩
              have B5 := Lib.hid (below_step' BJ.out hb)
              clear hb
              go_wp2_with fail
              go_ret
              exact ⟨rfl, B5.out⟩
            · have hz' : ((N : Int) == 0) = false := by simp [hz]
              have hz2 : 0 < N := by omega
              have hww : IntKind.i64.wrap ((N : Int) - 1) = (N : Int) - 1 := IntWalk.i64_in _ (by omega)
              have MC := marker_at mz (endsH N 0) 2 0 _ _ _ _ _ _ wr1 MJ.out.dat.weak HGr.out SMZ.out (ends_small N 0 (by omega)).1 (by rw [(ends_small N 0 (by omega)).2]; omega)
              rw [NEW.out hz2] at MC
              have MCH := Lib.hid (MC : Calls _ _ _ _ (MkTold2 (closeM (beginM (endsH N 0) 2) ((0 : Nat) : Int)) true wr1))
              clear MC hz
              have cc0 := MJ.out.box 0 _ rfl
              have cc1 := MJ.out.box 1 _ rfl
              have cc2 := MJ.out.box 2 _ rfl
              have cc3 := MJ.out.box 3 _ rfl
              have cc4 := MJ.out.box 4 _ rfl
              have cc5 := MJ.out.box 5 _ rfl
              have cc6 := MJ.out.box 6 _ rfl
              have cc7 := MJ.out.box 7 _ rfl
              have hh0 := KHr.out 0 _ rfl
              have hh1 := KHr.out 1 _ rfl
              have hh2 := KHr.out 2 _ rfl
              have hh3 := KHr.out 3 _ rfl
              have hh4 := KHr.out 4 _ rfl
              go_wp2_with fail
              refine MCH.out.mono ?_
              rintro e w3 ⟨v0, v1, v2, v3, rfl, hU, hb⟩
              obtain ⟨u0, u1, u2, u3, k0, k1, k2, k3, f0, f1, f2, f3, ff0, ff1, ff2, ff3⟩ := mk_slices hU.weak
              subst ff0
              subst ff1
              subst ff2
              subst ff3
              have HU3 := Lib.hid hU.weak
              have B3 := Lib.hid hb
              clear hU hb cc0 cc1 cc2 cc3 cc4 cc5 cc6 cc7 hh0 hh1 hh2 hh3 hh4 MCH
              rw [show ∀ a b c d, mkv (closeM (beginM (endsH N 0) 2) ((0 : Nat) : Int)) a b c d = .agg #[.int .i64 2, a, .int .i64 1, .int .i64 2, .int .i64 0, b, c, d] from fun _ _ _ _ => rfl]
              go_upto_region 26 with fail
              obtain ⟨bx, hbx⟩ : ∃ b, b = w3.heap.size := ⟨_, rfl⟩
              obtain ⟨y3, hy3⟩ : ∃ y, y = w3.alloc (.cells #[.int .i64 2, .slice u0 k0 f0, .int .i64 1, .int .i64 2, .int .i64 0, .slice u1 k1 f1, .slice u2 k2 f2, .slice u3 k3 f3] 33) := ⟨_, rfl⟩
              have hn3 : Below w3.heap.size w3 y3 := by rw [hy3]; exact below_new _ _
              have KB : Hid (BoxAt bx [.int .i64 2, .slice u0 k0 f0, .int .i64 1, .int .i64 2, .int .i64 0, .slice u1 k1 f1, .slice u2 k2 f2, .slice u3 k3 f3] y3) := Lib.hid (by rw [hbx, hy3]; exact boxAt_new w3 [.int .i64 2, .slice u0 k0 f0, .int .i64 1, .int .i64 2, .int .i64 0, .slice u1 k1 f1, .slice u2 k2 f2, .slice u3 k3 f3] _)
              have DX := Lib.hid (HU3.out.later hn3)
              have KH3 := Lib.hid (KHr.out.below (below_step' B3.out hn3))
              have HG3 := Lib.hid (HGr.out.later (below_step' B3.out hn3))
              have BY := Lib.hid (below_step' BJ.out (below_step' B3.out hn3))
              rw [← hy3, ← hbx]
              clear hy3 hbx hn3 HU3 B3 KHr HGr MJ BJ SJ
              have MC := marker_at (closeM (beginM (endsH N 0) 2) ((0 : Nat) : Int)) (endsH N 0) 2 ((N : Int) - 1) _ _ _ _ _ _ y3 DX.out HG3.out (anew_small (by omega)) (ends_small N 0 (by omega)).1 (by rw [(ends_small N 0 (by omega)).2]; omega)
              rw [anew_again 0 0 hz2, show ∀ a b c d, mkv (closeM (beginM (endsH N 0) 2) ((0 : Nat) : Int)) a b c d = .agg #[.int .i64 2, a, .int .i64 1, .int .i64 2, .int .i64 0, b, c, d] from fun _ _ _ _ => rfl] at MC
              have MCH := Lib.hid (MC : Calls _ _ _ _ (MkTold2 (closeM (closeM (beginM (endsH N 0) 2) ((0 : Nat) : Int)) ((N : Int) - 1)) false y3))
              clear MC
              have cc0 := KB.out 0 _ rfl
              have cc1 := KB.out 1 _ rfl
              have cc2 := KB.out 2 _ rfl
              have cc3 := KB.out 3 _ rfl
              have cc4 := KB.out 4 _ rfl
              have cc5 := KB.out 5 _ rfl
              have cc6 := KB.out 6 _ rfl
              have cc7 := KB.out 7 _ rfl
              have hh0 := KH3.out 0 _ rfl
              have hh1 := KH3.out 1 _ rfl
              have hh2 := KH3.out 2 _ rfl
              have hh3 := KH3.out 3 _ rfl
              have hh4 := KH3.out 4 _ rfl
              go_wp2_with fail
              refine MCH.out.mono ?_
              rintro e w4 ⟨v0, v1, v2, v3, rfl, hU, hb⟩
              obtain ⟨r0, r1, r2, r3, i0, i1, i2, i3, o0, o1, o2, o3, ff0, ff1, ff2, ff3⟩ := mk_slices hU.weak
              subst ff0
              subst ff1
              subst ff2
              subst ff3
              have B4 := Lib.hid hb
              clear hU hb cc0 cc1 cc2 cc3 cc4 cc5 cc6 cc7 hh0 hh1 hh2 hh3 hh4 MCH
              rw [show ∀ a b c d, mkv (closeM (closeM (beginM (endsH N 0) 2) ((0 : Nat) : Int)) ((N : Int) - 1)) a b c d = .agg #[.int .i64 2, a, .int .i64 1, .int .i64 2, .int .i64 0, b, c, d] from fun _ _ _ _ => rfl]
              go_upto_region 27 with fail
              obtain ⟨d1, hd1⟩ : ∃ y, y = w4.alloc (.cells #[.int .i64 2, .slice r0 i0 o0, .int .i64 1, .int .i64 2, .int .i64 0, .slice r1 i1 o1, .slice r2 i2 o2, .slice r3 i3 o3] 33) := ⟨_, rfl⟩
              have hn1 : Below w4.heap.size w4 d1 := by rw [hd1]; exact below_new _ _
              have KB1 := Lib.hid (KB.out.below (below_step' B4.out hn1))
              have DX1 := Lib.hid (DX.out.later (below_step' B4.out hn1))
              have BY2 := Lib.hid (below_step' BY.out (below_step' B4.out hn1))
              rw [← hd1]
              clear hd1 hn1 B4 KH3 HG3 KB DX
              have DN := Lib.hid (done_at (closeM (beginM (endsH N 0) 2) ((0 : Nat) : Int)) 2 _ _ _ _ d1 DX1.out (anew_small (by omega)))
              rw [anew_done hz2, show ∀ a b c d, mkv (closeM (beginM (endsH N 0) 2) ((0 : Nat) : Int)) a b c d = .agg #[.int .i64 2, a, .int .i64 1, .int .i64 2, .int .i64 0, b, c, d] from fun _ _ _ _ => rfl] at DN
              have cc0 := KB1.out 0 _ rfl
              have cc1 := KB1.out 1 _ rfl
              have cc2 := KB1.out 2 _ rfl
              have cc3 := KB1.out 3 _ rfl
              have cc4 := KB1.out 4 _ rfl
              have cc5 := KB1.out 5 _ rfl
              have cc6 := KB1.out 6 _ rfl
              have cc7 := KB1.out 7 _ rfl
              by_cases h1 : N = 1
              · rw [show decide (N = 1) = true by simp [h1]] at DN
                have h1' : ((N : Int) == 1) = true := by simp; omega
                clear h1
                go_wp2_with fail
                refine DN.out.mono ?_
                rintro e d4 ⟨rfl, hb⟩
                have B4 := Lib.hid (below_step' BY2.out hb)
                clear hb cc0 cc1 cc2 cc3 cc4 cc5 cc6 cc7 DN
                go_wp2_with fail
                refine (fixed10_any d4).mono ?_
                rintro e d5 ⟨rfl, hb⟩
                have B5 := Lib.hid (below_step' B4.out hb)
                clear hb
                go_wp2_with fail
                go_ret
                exact ⟨rfl, B5.out⟩
              · rw [show decide (N = 1) = false by simp [h1]] at DN
                have h1' : ((N : Int) == 1) = false := by simp; omega
                clear h1
                go_wp2_with fail
                refine DN.out.mono ?_
                rintro e d4 ⟨rfl, hb⟩
                have B4 := Lib.hid (below_step' BY2.out hb)
                clear hb cc0 cc1 cc2 cc3 cc4 cc5 cc6 cc7 DN
                go_wp2_with fail
                refine (fixed10_any d4).mono ?_
                rintro e d5 ⟨rfl, hb⟩
                have B5 := Lib.hid (below_step' B4.out hb)
                clear hb
                go_wp2_with fail
                go_ret
                exact ⟨rfl, B5.out⟩
        · obtain rfl : j = k := by omega
          have hj3 : ¬ (j : Int) < j := by omega
          have KHr := Lib.hid (KH.out.same SJ.out (Ne.symm LB.out.2.2.1))
          have HGr : Hid (HasL wr1 [.slice ga N gc, .slice gb N gd] (endsH N 0).d) := Lib.hid (HG.out.same (SJ.out.sub (fun q h => h.2))).weak
          by_cases hz : N = 0
          · have hz' : ((N : Int) == 0) = true := by simp [hz]
            clear hz
            go_wp2_with fail
            refine (fixed10_any wr1).mono ?_
            rintro e d5 ⟨rfl, hb⟩
            have B5 := Lib.hid (below_step' BJ.out hb)
            clear hb
            go_wp2_with fail
            go_ret
            exact ⟨rfl, B5.out⟩
          · have hz' : ((N : Int) == 0) = false := by simp [hz]
            have hz2 : 0 < N := by omega
            have hww : IntKind.i64.wrap ((N : Int) - 1) = (N : Int) - 1 := IntWalk.i64_in _ (by omega)
            have MC := marker_at mz (endsH N 0) 2 0 _ _ _ _ _ _ wr1 MJ.out.dat.weak HGr.out SMZ.out (ends_small N 0 (by omega)).1 (by rw [(ends_small N 0 (by omega)).2]; omega)
            rw [NEW.out hz2] at MC
            have MCH := Lib.hid (MC : Calls _ _ _ _ (MkTold2 (closeM (beginM (endsH N 0) 2) ((0 : Nat) : Int)) true wr1))
            clear MC hz
            have cc0 := MJ.out.box 0 _ rfl
            have cc1 := MJ.out.box 1 _ rfl
            have cc2 := MJ.out.box 2 _ rfl
            have cc3 := MJ.out.box 3 _ rfl
            have cc4 := MJ.out.box 4 _ rfl
            have cc5 := MJ.out.box 5 _ rfl
            have cc6 := MJ.out.box 6 _ rfl
            have cc7 := MJ.out.box 7 _ rfl
            have hh0 := KHr.out 0 _ rfl
            have hh1 := KHr.out 1 _ rfl
            have hh2 := KHr.out 2 _ rfl
            have hh3 := KHr.out 3 _ rfl
            have hh4 := KHr.out 4 _ rfl
            go_wp2_with fail
            refine MCH.out.mono ?_
            rintro e w3 ⟨v0, v1, v2, v3, rfl, hU, hb⟩
            obtain ⟨u0, u1, u2, u3, k0, k1, k2, k3, f0, f1, f2, f3, ff0, ff1, ff2, ff3⟩ := mk_slices hU.weak
            subst ff0
            subst ff1
            subst ff2
            subst ff3
            have HU3 := Lib.hid hU.weak
            have B3 := Lib.hid hb
            clear hU hb cc0 cc1 cc2 cc3 cc4 cc5 cc6 cc7 hh0 hh1 hh2 hh3 hh4 MCH
            rw [show ∀ a b c d, mkv (closeM (beginM (endsH N 0) 2) ((0 : Nat) : Int)) a b c d = .agg #[.int .i64 2, a, .int .i64 1, .int .i64 2, .int .i64 0, b, c, d] from fun _ _ _ _ => rfl]
            go_upto_region 26 with fail
            obtain ⟨bx, hbx⟩ : ∃ b, b = w3.heap.size := ⟨_, rfl⟩
            obtain ⟨y3, hy3⟩ : ∃ y, y = w3.alloc (.cells #[.int .i64 2, .slice u0 k0 f0, .int .i64 1, .int .i64 2, .int .i64 0, .slice u1 k1 f1, .slice u2 k2 f2, .slice u3 k3 f3] 33) := ⟨_, rfl⟩
            have hn3 : Below w3.heap.size w3 y3 := by rw [hy3]; exact below_new _ _
            have KB : Hid (BoxAt bx [.int .i64 2, .slice u0 k0 f0, .int .i64 1, .int .i64 2, .int .i64 0, .slice u1 k1 f1, .slice u2 k2 f2, .slice u3 k3 f3] y3) := Lib.hid (by rw [hbx, hy3]; exact boxAt_new w3 [.int .i64 2, .slice u0 k0 f0, .int .i64 1, .int .i64 2, .int .i64 0, .slice u1 k1 f1, .slice u2 k2 f2, .slice u3 k3 f3] _)
            have DX := Lib.hid (HU3.out.later hn3)
            have KH3 := Lib.hid (KHr.out.below (below_step' B3.out hn3))
            have HG3 := Lib.hid (HGr.out.later (below_step' B3.out hn3))
            have BY := Lib.hid (below_step' BJ.out (below_step' B3.out hn3))
            rw [← hy3, ← hbx]
            clear hy3 hbx hn3 HU3 B3 KHr HGr MJ BJ SJ
            have MC := marker_at (closeM (beginM (endsH N 0) 2) ((0 : Nat) : Int)) (endsH N 0) 2 ((N : Int) - 1) _ _ _ _ _ _ y3 DX.out HG3.out (anew_small (by omega)) (ends_small N 0 (by omega)).1 (by rw [(ends_small N 0 (by omega)).2]; omega)
            rw [anew_again 0 0 hz2, show ∀ a b c d, mkv (closeM (beginM (endsH N 0) 2) ((0 : Nat) : Int)) a b c d = .agg #[.int .i64 2, a, .int .i64 1, .int .i64 2, .int .i64 0, b, c, d] from fun _ _ _ _ => rfl] at MC
            have MCH := Lib.hid (MC : Calls _ _ _ _ (MkTold2 (closeM (closeM (beginM (endsH N 0) 2) ((0 : Nat) : Int)) ((N : Int) - 1)) false y3))
            clear MC
            have cc0 := KB.out 0 _ rfl
            have cc1 := KB.out 1 _ rfl
            have cc2 := KB.out 2 _ rfl
            have cc3 := KB.out 3 _ rfl
            have cc4 := KB.out 4 _ rfl
            have cc5 := KB.out 5 _ rfl
            have cc6 := KB.out 6 _ rfl
            have cc7 := KB.out 7 _ rfl
            have hh0 := KH3.out 0 _ rfl
            have hh1 := KH3.out 1 _ rfl
            have hh2 := KH3.out 2 _ rfl
            have hh3 := KH3.out 3 _ rfl
            have hh4 := KH3.out 4 _ rfl
            go_wp2_with fail
            refine MCH.out.mono ?_
            rintro e w4 ⟨v0, v1, v2, v3, rfl, hU, hb⟩
            obtain ⟨r0, r1, r2, r3, i0, i1, i2, i3, o0, o1, o2, o3, ff0, ff1, ff2, ff3⟩ := mk_slices hU.weak
            subst ff0
            subst ff1
            subst ff2
            subst ff3
            have B4 := Lib.hid hb
            clear hU hb cc0 cc1 cc2 cc3 cc4 cc5 cc6 cc7 hh0 hh1 hh2 hh3 hh4 MCH
            rw [show ∀ a b c d, mkv (closeM (closeM (beginM (endsH N 0) 2) ((0 : Nat) : Int)) ((N : Int) - 1)) a b c d = .agg #[.int .i64 2, a, .int .i64 1, .int .i64 2, .int .i64 0, b, c, d] from fun _ _ _ _ => rfl]
            go_upto_region 27 with fail
            obtain ⟨d1, hd1⟩ : ∃ y, y = w4.alloc (.cells #[.int .i64 2, .slice r0 i0 o0, .int .i64 1, .int .i64 2, .int .i64 0, .slice r1 i1 o1, .slice r2 i2 o2, .slice r3 i3 o3] 33) := ⟨_, rfl⟩
            have hn1 : Below w4.heap.size w4 d1 := by rw [hd1]; exact below_new _ _
            have KB1 := Lib.hid (KB.out.below (below_step' B4.out hn1))
            have DX1 := Lib.hid (DX.out.later (below_step' B4.out hn1))
            have BY2 := Lib.hid (below_step' BY.out (below_step' B4.out hn1))
            rw [← hd1]
            clear hd1 hn1 B4 KH3 HG3 KB DX
            have DN := Lib.hid (done_at (closeM (beginM (endsH N 0) 2) ((0 : Nat) : Int)) 2 _ _ _ _ d1 DX1.out (anew_small (by omega)))
            rw [anew_done hz2, show ∀ a b c d, mkv (closeM (beginM (endsH N 0) 2) ((0 : Nat) : Int)) a b c d = .agg #[.int .i64 2, a, .int .i64 1, .int .i64 2, .int .i64 0, b, c, d] from fun _ _ _ _ => rfl] at DN
            have cc0 := KB1.out 0 _ rfl
            have cc1 := KB1.out 1 _ rfl
            have cc2 := KB1.out 2 _ rfl
            have cc3 := KB1.out 3 _ rfl
            have cc4 := KB1.out 4 _ rfl
            have cc5 := KB1.out 5 _ rfl
            have cc6 := KB1.out 6 _ rfl
            have cc7 := KB1.out 7 _ rfl
            by_cases h1 : N = 1
            · rw [show decide (N = 1) = true by simp [h1]] at DN
              have h1' : ((N : Int) == 1) = true := by simp; omega
              clear h1
              go_wp2_with fail
              refine DN.out.mono ?_
              rintro e d4 ⟨rfl, hb⟩
              have B4 := Lib.hid (below_step' BY2.out hb)
              clear hb cc0 cc1 cc2 cc3 cc4 cc5 cc6 cc7 DN
              go_wp2_with fail
              refine (fixed10_any d4).mono ?_
              rintro e d5 ⟨rfl, hb⟩
              have B5 := Lib.hid (below_step' B4.out hb)
              clear hb
              go_wp2_with fail
              go_ret
              exact ⟨rfl, B5.out⟩
            · rw [show decide (N = 1) = false by simp [h1]] at DN
              have h1' : ((N : Int) == 1) = false := by simp; omega
              clear h1
              go_wp2_with fail
              refine DN.out.mono ?_
              rintro e d4 ⟨rfl, hb⟩
              have B4 := Lib.hid (below_step' BY2.out hb)
              clear hb cc0 cc1 cc2 cc3 cc4 cc5 cc6 cc7 DN
              go_wp2_with fail
              refine (fixed10_any d4).mono ?_
              rintro e d5 ⟨rfl, hb⟩
              have B5 := Lib.hid (below_step' B4.out hb)
              clear hb
              go_wp2_with fail
              go_ret
              exact ⟨rfl, B5.out⟩
end Go.Proofs.Ytlhclnhdcenkhaa
