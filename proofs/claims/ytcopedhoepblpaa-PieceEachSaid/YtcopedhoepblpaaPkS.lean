/- PieceSides: the walk. Written by gen_psides.py. -/
import Derived.Test.YtcopedhoepblpaaPkR
import Derived.Test.YtcopedhoepblpaaPkQ
set_option linter.unusedSimpArgs false
set_option linter.unusedVariables false
set_option maxRecDepth 100000
namespace Go.Proofs.Ytcopedhoepblpaa
open Go.RowKit Go.PlainAid

theorem cutP_idem (p : Pc) : cutP (cutP p) = cutP p := by
  unfold cutP
  simp only [List.take_take, Nat.min_self, ← List.map_take, List.map_map]
  congr 1 <;> (refine List.map_congr_left (fun x _ => ?_); simp [Function.comp, List.take_take])
set_option maxHeartbeats 16000000 in
theorem walkPieceSides (p : Pc) (v1 v2 v3 : Value) (q : Pc) (u1 u2 u3 : Value) (w : World) (h : HasL w [v1, v2, v3] p.d) (h' : HasL w [u1, u2, u3] q.d) :
    Calls Try.prog 5 #[pcv p v1 v2 v3, pcv q u1 u2 u3] w fun e w' => e = .returned (.bool true) ∧ Below w.heap.size w w' := by
  have CT := fun y (hb : Below w.heap.size w y) => cut_at p v1 v2 v3 y (h.later hb)
  have CT' := fun y (hb : Below w.heap.size w y) => cut_at q u1 u2 u3 y (h'.later hb)
  obtain ⟨a1, a2, a3, n1, n2, n3, e1, e2, e3, ee1, ee2, ee3⟩ := pc_slices h
  subst ee1
  subst ee2
  subst ee3
  obtain ⟨o1, o2, o3, r1, r2, r3, t1, t2, t3, ee1, ee2, ee3⟩ := pc_slices h'
  subst ee1
  subst ee2
  subst ee3
  have HCTp := Lib.hid CT
  have HCTq := Lib.hid CT'
  clear h h' CT CT'
  obtain ⟨m0, hm0⟩ : ∃ m, m = p.node := ⟨_, rfl⟩
  obtain ⟨m1, hm1⟩ : ∃ m, m = p.state := ⟨_, rfl⟩
  obtain ⟨m2, hm2⟩ : ∃ m, m = p.steps := ⟨_, rfl⟩
  have PQp : Hid (∀ x y z, pcv (cutP p) x y z = .agg #[.int .i64 m0, .int .i64 m1, .int .i64 m2, x, y, z]) := Lib.hid (fun x y z => by rw [hm0, hm1, hm2]; rfl)
  have PVp : Hid (∀ x y z, pcv p x y z = .agg #[.int .i64 m0, .int .i64 m1, .int .i64 m2, x, y, z]) := Lib.hid (fun x y z => by rw [hm0, hm1, hm2])
  rw [PVp.out] at HCTp ⊢
  clear hm0 hm1 hm2
  obtain ⟨k0, hk0⟩ : ∃ m, m = q.node := ⟨_, rfl⟩
  obtain ⟨k1, hk1⟩ : ∃ m, m = q.state := ⟨_, rfl⟩
  obtain ⟨k2, hk2⟩ : ∃ m, m = q.steps := ⟨_, rfl⟩
  have PQq : Hid (∀ x y z, pcv (cutP q) x y z = .agg #[.int .i64 k0, .int .i64 k1, .int .i64 k2, x, y, z]) := Lib.hid (fun x y z => by rw [hk0, hk1, hk2]; rfl)
  have PVq : Hid (∀ x y z, pcv q x y z = .agg #[.int .i64 k0, .int .i64 k1, .int .i64 k2, x, y, z]) := Lib.hid (fun x y z => by rw [hk0, hk1, hk2])
  rw [PVq.out] at HCTq ⊢
  clear hk0 hk1 hk2
  go_enter Try.func5, Try.ntmps5
  try simp only [List.append_eq, List.cons_append, List.nil_append]
  go_upto_region 1 with fail
  obtain ⟨bp, hbp⟩ : ∃ b, b = w.heap.size := ⟨_, rfl⟩
  obtain ⟨bq, hbq⟩ : ∃ b, b = w.heap.size + 1 := ⟨_, rfl⟩
  obtain ⟨y0, hy0⟩ : ∃ y, y = (w.alloc (.cells #[.int .i64 m0, .int .i64 m1, .int .i64 m2, .slice a1 n1 e1, .slice a2 n2 e2, .slice a3 n3 e3] 26)).alloc (.cells #[.int .i64 k0, .int .i64 k1, .int .i64 k2, .slice o1 r1 t1, .slice o2 r2 t2, .slice o3 r3 t3] 26) := ⟨_, rfl⟩
  have hbq' : bq = (w.alloc (.cells #[.int .i64 m0, .int .i64 m1, .int .i64 m2, .slice a1 n1 e1, .slice a2 n2 e2, .slice a3 n3 e3] 26)).heap.size := by rw [hbq, size_new]
  have hxp : BoxAt bp [.int .i64 m0, .int .i64 m1, .int .i64 m2, .slice a1 n1 e1, .slice a2 n2 e2, .slice a3 n3 e3] y0 := by rw [hbp, hy0]; exact (boxAt_new w [.int .i64 m0, .int .i64 m1, .int .i64 m2, .slice a1 n1 e1, .slice a2 n2 e2, .slice a3 n3 e3] _).below (below_new _ _)
  have hxq : BoxAt bq [.int .i64 k0, .int .i64 k1, .int .i64 k2, .slice o1 r1 t1, .slice o2 r2 t2, .slice o3 r3 t3] y0 := by rw [hbq', hy0]; exact boxAt_new _ [.int .i64 k0, .int .i64 k1, .int .i64 k2, .slice o1 r1 t1, .slice o2 r2 t2, .slice o3 r3 t3] _
  have hfp : ∀ i, y0.frozen? ⟨bp, i, none⟩ = false := fun i => by
    rw [hbp, hy0]
    exact ((below_new (w.alloc (.cells #[.int .i64 m0, .int .i64 m1, .int .i64 m2, .slice a1 n1 e1, .slice a2 n2 e2, .slice a3 n3 e3] 26)) (.cells #[.int .i64 k0, .int .i64 k1, .int .i64 k2, .slice o1 r1 t1, .slice o2 r2 t2, .slice o3 r3 t3] 26)).frozen (p := ⟨w.heap.size, i, none⟩) (by rw [size_new]; exact Nat.lt_succ_self _)).trans (frozen_new w _ _ i)
  have hfq : ∀ i, y0.frozen? ⟨bq, i, none⟩ = false := fun i => by rw [hbq', hy0]; exact frozen_new _ _ _ i
  have hb0 : Below w.heap.size w y0 := by rw [hy0]; exact below_step' (below_new _ _) (below_new _ _)
  have hbl : bp < bq ∧ bq < y0.heap.size ∧ w.heap.size ≤ bp := by rw [hbp, hbq, hy0, size_new, size_new]; omega
  rw [← hy0, ← hbq, ← hbp]
  have B0 := Lib.hid hb0
  have KP0 := Lib.hid hxp
  have KQ0 := Lib.hid hxq
  have FP0 := Lib.hid hfp
  have FQ0 := Lib.hid hfq
  have BL := Lib.hid hbl
  clear hy0 hb0 hxp hxq hfp hfq hbl hbp hbq hbq'
  have p0 := KP0.out 0 _ rfl
  have p1 := KP0.out 1 _ rfl
  have p2 := KP0.out 2 _ rfl
  have p3 := KP0.out 3 _ rfl
  have p4 := KP0.out 4 _ rfl
  have p5 := KP0.out 5 _ rfl
  go_wp2_with fail
  refine (HCTp.out _ B0.out).mono ?_
  rintro e w1 ⟨v1, v2, v3, rfl, hC, hb⟩
  obtain ⟨b1, b2, b3, l1, l2, l3, f1, f2, f3, ee1, ee2, ee3⟩ := pc_slices hC.weak
  subst ee1
  subst ee2
  subst ee3
  rw [PQp.out]
  obtain ⟨pc, hpc⟩ : ∃ q, q = cutP p := ⟨_, rfl⟩
  have SPC : Hid (SmallPc pc) := Lib.hid (by rw [hpc]; exact cutP_small p)
  have PV : Hid (∀ x y z, pcv pc x y z = .agg #[.int .i64 m0, .int .i64 m1, .int .i64 m2, x, y, z]) := Lib.hid (by rw [hpc]; exact PQp.out)
  rw [← hpc] at hC
  have PCD := Lib.hid hpc
  have IDP : Hid (cutP pc = pc) := Lib.hid (by rw [hpc]; exact cutP_idem p)
  have B1 := Lib.hid hb
  have HC1 := Lib.hid hC
  clear hb hC hpc p0 p1 p2 p3 p4 p5 HCTp PQp
  have p0 := KP0.out.below B1.out 0 _ rfl
  have p1 := KP0.out.below B1.out 1 _ rfl
  have p2 := KP0.out.below B1.out 2 _ rfl
  have p3 := KP0.out.below B1.out 3 _ rfl
  have p4 := KP0.out.below B1.out 4 _ rfl
  have p5 := KP0.out.below B1.out 5 _ rfl
  have g0 : w1.frozen? ⟨bp, 0, none⟩ = false := (B1.out.frozen (p := ⟨bp, 0, none⟩) (Nat.lt_trans BL.out.1 BL.out.2.1)).trans (FP0.out 0)
  have g1 : w1.frozen? ⟨bp, 1, none⟩ = false := (B1.out.frozen (p := ⟨bp, 1, none⟩) (Nat.lt_trans BL.out.1 BL.out.2.1)).trans (FP0.out 1)
  have g2 : w1.frozen? ⟨bp, 2, none⟩ = false := (B1.out.frozen (p := ⟨bp, 2, none⟩) (Nat.lt_trans BL.out.1 BL.out.2.1)).trans (FP0.out 2)
  have g3 : w1.frozen? ⟨bp, 3, none⟩ = false := (B1.out.frozen (p := ⟨bp, 3, none⟩) (Nat.lt_trans BL.out.1 BL.out.2.1)).trans (FP0.out 3)
  have g4 : w1.frozen? ⟨bp, 4, none⟩ = false := (B1.out.frozen (p := ⟨bp, 4, none⟩) (Nat.lt_trans BL.out.1 BL.out.2.1)).trans (FP0.out 4)
  have g5 : w1.frozen? ⟨bp, 5, none⟩ = false := (B1.out.frozen (p := ⟨bp, 5, none⟩) (Nat.lt_trans BL.out.1 BL.out.2.1)).trans (FP0.out 5)
  go_upto_region 2 with fail
  obtain ⟨wp, hwp⟩ : ∃ x, x = set6 w1 bp (.int .i64 m0) (.int .i64 m1) (.int .i64 m2) (.slice b1 l1 f1) (.slice b2 l2 f2) (.slice b3 l3 f3) := ⟨_, rfl⟩
  have KP : Hid (BoxAt bp [.int .i64 m0, .int .i64 m1, .int .i64 m2, .slice b1 l1 f1, .slice b2 l2 f2, .slice b3 l3 f3] wp) := Lib.hid (by rw [hwp]; exact box_set6 (KP0.out.below B1.out))
  have KQ1 : Hid (BoxAt bq [.int .i64 k0, .int .i64 k1, .int .i64 k2, .slice o1 r1 t1, .slice o2 r2 t2, .slice o3 r3 t3] wp) := Lib.hid (by rw [hwp]; exact (KQ0.out.below B1.out).same (P := fun k => k ≠ bp) (set6_same (fun h => h rfl)) (fun e => by have := BL.out.1; omega))
  have FQ1 : Hid (∀ i, wp.frozen? ⟨bq, i, none⟩ = false) := Lib.hid (fun i => by rw [hwp]; unfold set6; simp only [World.frozen?_setCell]; exact (B1.out.frozen (p := ⟨bq, i, none⟩) BL.out.2.1).trans (FQ0.out i))
  have HP : Hid (HoldsL False (fun k => y0.heap.size ≤ k) wp [.slice b1 l1 f1, .slice b2 l2 f2, .slice b3 l3 f3] pc.d) := Lib.hid (by rw [hwp]; exact HC1.out.same (set6_same (fun (h : y0.heap.size ≤ bp) => by have := BL.out; omega)))
  have BP : Hid (Below w.heap.size w wp) := Lib.hid (by rw [hwp]; exact set6_below (below_step' B0.out B1.out) BL.out.2.2)
  have SZP : Hid (y0.heap.size ≤ wp.heap.size) := Lib.hid (by rw [hwp]; exact Nat.le_trans B1.out.size (set6_same (P := fun _ => False) (fun h => h)).1)
  rw [show ((((((w1.setCell ⟨bp, 0, none⟩ (.int .i64 m0)).setCell ⟨bp, 1, none⟩ (.int .i64 m1)).setCell ⟨bp, 2, none⟩ (.int .i64 m2)).setCell ⟨bp, 3, none⟩ (.slice b1 l1 f1)).setCell ⟨bp, 4, none⟩ (.slice b2 l2 f2)).setCell ⟨bp, 5, none⟩ (.slice b3 l3 f3)) = wp from hwp.symm]
  clear hwp p0 p1 p2 p3 p4 p5 g0 g1 g2 g3 g4 g5 B1 HC1 KP0 KQ0 FP0 FQ0
  have p0 := KQ1.out 0 _ rfl
  have p1 := KQ1.out 1 _ rfl
  have p2 := KQ1.out 2 _ rfl
  have p3 := KQ1.out 3 _ rfl
  have p4 := KQ1.out 4 _ rfl
  have p5 := KQ1.out 5 _ rfl
  go_wp2_with fail
  refine (HCTq.out _ BP.out).mono ?_
  rintro e w2 ⟨v1, v2, v3, rfl, hC, hb⟩
  obtain ⟨d1, d2, d3, x1, x2, x3, y1, y2, y3, ee1, ee2, ee3⟩ := pc_slices hC.weak
  subst ee1
  subst ee2
  subst ee3
  rw [PQq.out]
  obtain ⟨qc, hqc⟩ : ∃ x, x = cutP q := ⟨_, rfl⟩
  have SQC : Hid (SmallPc qc) := Lib.hid (by rw [hqc]; exact cutP_small q)
  have QV : Hid (∀ x y z, pcv qc x y z = .agg #[.int .i64 k0, .int .i64 k1, .int .i64 k2, x, y, z]) := Lib.hid (by rw [hqc]; exact PQq.out)
  rw [← hqc] at hC
  have B2 := Lib.hid hb
  have HC2 := Lib.hid hC
  clear hb hC hqc p0 p1 p2 p3 p4 p5 HCTq PQq
  have p0 := KQ1.out.below B2.out 0 _ rfl
  have p1 := KQ1.out.below B2.out 1 _ rfl
  have p2 := KQ1.out.below B2.out 2 _ rfl
  have p3 := KQ1.out.below B2.out 3 _ rfl
  have p4 := KQ1.out.below B2.out 4 _ rfl
  have p5 := KQ1.out.below B2.out 5 _ rfl
  have g0 : w2.frozen? ⟨bq, 0, none⟩ = false := (B2.out.frozen (p := ⟨bq, 0, none⟩) (Nat.lt_of_lt_of_le BL.out.2.1 SZP.out)).trans (FQ1.out 0)
  have g1 : w2.frozen? ⟨bq, 1, none⟩ = false := (B2.out.frozen (p := ⟨bq, 1, none⟩) (Nat.lt_of_lt_of_le BL.out.2.1 SZP.out)).trans (FQ1.out 1)
  have g2 : w2.frozen? ⟨bq, 2, none⟩ = false := (B2.out.frozen (p := ⟨bq, 2, none⟩) (Nat.lt_of_lt_of_le BL.out.2.1 SZP.out)).trans (FQ1.out 2)
  have g3 : w2.frozen? ⟨bq, 3, none⟩ = false := (B2.out.frozen (p := ⟨bq, 3, none⟩) (Nat.lt_of_lt_of_le BL.out.2.1 SZP.out)).trans (FQ1.out 3)
  have g4 : w2.frozen? ⟨bq, 4, none⟩ = false := (B2.out.frozen (p := ⟨bq, 4, none⟩) (Nat.lt_of_lt_of_le BL.out.2.1 SZP.out)).trans (FQ1.out 4)
  have g5 : w2.frozen? ⟨bq, 5, none⟩ = false := (B2.out.frozen (p := ⟨bq, 5, none⟩) (Nat.lt_of_lt_of_le BL.out.2.1 SZP.out)).trans (FQ1.out 5)
  go_upto_region 3 with fail
  obtain ⟨wc, hwc⟩ : ∃ x, x = set6 w2 bq (.int .i64 k0) (.int .i64 k1) (.int .i64 k2) (.slice d1 x1 y1) (.slice d2 x2 y2) (.slice d3 x3 y3) := ⟨_, rfl⟩
  have KQC : Hid (BoxAt bq [.int .i64 k0, .int .i64 k1, .int .i64 k2, .slice d1 x1 y1, .slice d2 x2 y2, .slice d3 x3 y3] wc) := Lib.hid (by rw [hwc]; exact box_set6 (KQ1.out.below B2.out))
  have KPC : Hid (BoxAt bp [.int .i64 m0, .int .i64 m1, .int .i64 m2, .slice b1 l1 f1, .slice b2 l2 f2, .slice b3 l3 f3] wc) := Lib.hid (by rw [hwc]; exact (KP.out.below B2.out).same (P := fun k => k ≠ bq) (set6_same (fun h => h rfl)) (fun e => by have := BL.out.1; omega))
  have HPC : Hid (HasL wc [.slice b1 l1 f1, .slice b2 l2 f2, .slice b3 l3 f3] pc.d) := Lib.hid (by rw [hwc]; exact ((HP.out.later B2.out).same (set6_same (fun (h : y0.heap.size ≤ bq) => by have := BL.out; omega))).weak)
  have HQC : Hid (HasL wc [.slice d1 x1 y1, .slice d2 x2 y2, .slice d3 x3 y3] qc.d) := Lib.hid (by rw [hwc]; exact (HC2.out.same (set6_same (fun (h : wp.heap.size ≤ bq) => by have := BL.out; have := SZP.out; omega))).weak)
  have BC : Hid (Below w.heap.size w wc) := Lib.hid (by rw [hwc]; exact set6_below (below_step' BP.out B2.out) (by have := BL.out; omega))
  rw [show ((((((w2.setCell ⟨bq, 0, none⟩ (.int .i64 k0)).setCell ⟨bq, 1, none⟩ (.int .i64 k1)).setCell ⟨bq, 2, none⟩ (.int .i64 k2)).setCell ⟨bq, 3, none⟩ (.slice d1 x1 y1)).setCell ⟨bq, 4, none⟩ (.slice d2 x2 y2)).setCell ⟨bq, 5, none⟩ (.slice d3 x3 y3)) = wc from hwc.symm]
  clear hwc p0 p1 p2 p3 p4 p5 g0 g1 g2 g3 g4 g5 B2 HC2 KQ1 FQ1 KP HP BP SZP B0
  have EP := Lib.hid (encode_at pc _ _ _ wc HPC.out SPC.out)
  have EQ := Lib.hid (fun y (hb : Below wc.heap.size wc y) => encode_at qc _ _ _ y (HQC.out.later hb) SQC.out)
  rw [PV.out] at EP
  rw [QV.out] at EQ
  have p0 := KPC.out.below (Below.refl _ wc) 0 _ rfl
  have p1 := KPC.out.below (Below.refl _ wc) 1 _ rfl
  have p2 := KPC.out.below (Below.refl _ wc) 2 _ rfl
  have p3 := KPC.out.below (Below.refl _ wc) 3 _ rfl
  have p4 := KPC.out.below (Below.refl _ wc) 4 _ rfl
  have p5 := KPC.out.below (Below.refl _ wc) 5 _ rfl
  go_wp2_with fail
  refine EP.out.mono ?_
  rintro e w3 ⟨rfl, hb⟩
  have B3 := Lib.hid hb
  clear hb EP p0 p1 p2 p3 p4 p5
  have q0 := KQC.out.below B3.out 0 _ rfl
  have q1 := KQC.out.below B3.out 1 _ rfl
  have q2 := KQC.out.below B3.out 2 _ rfl
  have q3 := KQC.out.below B3.out 3 _ rfl
  have q4 := KQC.out.below B3.out 4 _ rfl
  have q5 := KQC.out.below B3.out 5 _ rfl
  go_wp2_with fail
  refine (EQ.out _ B3.out).mono ?_
  rintro e w4 ⟨rfl, hb⟩
  have B4 := Lib.hid (below_step' B3.out hb)
  clear hb EQ q0 q1 q2 q3 q4 q5
  obtain ⟨s1, hs1⟩ : ∃ x, x = (encR pc).1 := ⟨_, rfl⟩
  obtain ⟨c1, hc1⟩ : ∃ x, x = (encR pc).2 := ⟨_, rfl⟩
  obtain ⟨s2, hs2⟩ : ∃ x, x = (encR qc).1 := ⟨_, rfl⟩
  obtain ⟨c2, hc2⟩ : ∃ x, x = (encR qc).2 := ⟨_, rfl⟩
  rw [← hs1, ← hc1, ← hs2, ← hc2]
  cases hok : okB pc with
  | false =>
    rw [enc_no hok] at hc1
    simp only at hc1
    subst hc1
    clear hs1 hs2 hc2 hok
    go_upto_region 5 with fail
    refine wp_region_held_drew (S := fun _ => True) (by kernel_rfl) trivial (fun hHeld => ?_)
    obtain ⟨y4, hy4⟩ : ∃ y, y = w4.drew := ⟨_, rfl⟩
    rw [← hy4]
    have BY4 : Hid (Below wc.heap.size wc y4) := Lib.hid (by rw [hy4]; exact below_drewN B4.out 1)
    clear hy4
    refine tq 0 ?_
    refine tq 1 ?_
    refine tq 2 ?_
    refine tq0 3 ?_
    refine tq0 4 ?_
    refine tq 5 ?_
    refine tq 6 ?_
    refine tq0 7 ?_
    refine tq0 8 ?_
    refine tq0 9 ?_
    refine tq0 10 ?_
    refine tq0 11 ?_
    refine tq0 12 ?_
    refine tq0 13 ?_
    refine tq0 14 ?_
    refine tq0 15 ?_
    refine tq 16 ?_
    refine wpAnyH_done (by kernel_rfl) ?_ _
    clear hHeld
    go_upto_region 7 with fail
    have OW := Lib.hid (fun y (hb : Below wc.heap.size wc y) => own_at pc _ _ _ y (HPC.out.later hb) SPC.out)
    have CU : Hid (∀ y, Below wc.heap.size wc y → Calls Try.prog 9 #[pcv pc (.slice b1 l1 f1) (.slice b2 l2 f2) (.slice b3 l3 f3)] y fun e w' => ∃ v1 v2 v3, e = .returned (pcv pc v1 v2 v3) ∧ HoldsL False (fun q => y.heap.size ≤ q) w' [v1, v2, v3] pc.d ∧ Below y.heap.size y w') := Lib.hid (fun y hb => by
      have h := cut_at pc _ _ _ y (HPC.out.later hb)
      unfold CutTold at h
      rwa [IDP.out] at h)
    rw [PV.out] at OW CU
    have MS : Hid (∀ wz, Below y4.heap.size y4 wz → (fun wz => wz.cell? ⟨bp, 0, none⟩ = some (.int .i64 m0) ∧ wz.cell? ⟨bp, 1, none⟩ = some (.int .i64 m1) ∧ wz.cell? ⟨bp, 2, none⟩ = some (.int .i64 m2) ∧ wz.cell? ⟨bp, 3, none⟩ = some (.slice b1 l1 f1) ∧ wz.cell? ⟨bp, 4, none⟩ = some (.slice b2 l2 f2) ∧ wz.cell? ⟨bp, 5, none⟩ = some (.slice b3 l3 f3)) wz) := Lib.hid (fun wz hb => by
      have h4 := below_step' BY4.out hb
      exact ⟨KPC.out.below h4 0 _ rfl, KPC.out.below h4 1 _ rfl, KPC.out.below h4 2 _ rfl, KPC.out.below h4 3 _ rfl, KPC.out.below h4 4 _ rfl, KPC.out.below h4 5 _ rfl⟩)
    refine wp_region_held_drew (S := (fun wz => wz.cell? ⟨bp, 0, none⟩ = some (.int .i64 m0) ∧ wz.cell? ⟨bp, 1, none⟩ = some (.int .i64 m1) ∧ wz.cell? ⟨bp, 2, none⟩ = some (.int .i64 m2) ∧ wz.cell? ⟨bp, 3, none⟩ = some (.slice b1 l1 f1) ∧ wz.cell? ⟨bp, 4, none⟩ = some (.slice b2 l2 f2) ∧ wz.cell? ⟨bp, 5, none⟩ = some (.slice b3 l3 f3))) (by kernel_rfl) ?_ (fun hHeld => ?_)
    · exact MS.out _ (below_drewN (Below.refl y4.heap.size y4) 1)
    obtain ⟨y7, hy7⟩ : ∃ y, y = y4.drew := ⟨_, rfl⟩
    rw [← hy7] at hHeld ⊢
    have BY7 : Hid (Below y4.heap.size y4 y7) := Lib.hid (by rw [hy7]; exact below_drewN (Below.refl y4.heap.size y4) 1)
    have BC7 := Lib.hid (below_step' BY4.out BY7.out)
    clear hy7
    refine tq 0 ?_
    refine tq 2 ?_
    refine wpAnyH_group (S := (fun wz => wz.cell? ⟨bp, 0, none⟩ = some (.int .i64 m0) ∧ wz.cell? ⟨bp, 1, none⟩ = some (.int .i64 m1) ∧ wz.cell? ⟨bp, 2, none⟩ = some (.int .i64 m2) ∧ wz.cell? ⟨bp, 3, none⟩ = some (.slice b1 l1 f1) ∧ wz.cell? ⟨bp, 4, none⟩ = some (.slice b2 l2 f2) ∧ wz.cell? ⟨bp, 5, none⟩ = some (.slice b3 l3 f3))) (n := 2) [1, 3, 4, 5] 6 (ph7 pc y7) (ps7 pc y7) (by kernel_rfl) (by kernel_rfl) (by kernel_rfl) (by kernel_rfl) (by kernel_rfl) (fun _ _ _ _ h hb => ph7_mono h hb) (fun _ _ _ _ _ _ h hb => ps7_mono h hb) ?step hHeld ?fin
    case step =>
      intro g hg o ho D vs a wx hD hgD hφ hψ hSx hbx hfr hdep K hK
      have BX := below_step' BC7.out hbx
      have hwz := hbx.size
      have SX : ∀ w', Below wx.heap.size wx w' → (fun wz => wz.cell? ⟨bp, 0, none⟩ = some (.int .i64 m0) ∧ wz.cell? ⟨bp, 1, none⟩ = some (.int .i64 m1) ∧ wz.cell? ⟨bp, 2, none⟩ = some (.int .i64 m2) ∧ wz.cell? ⟨bp, 3, none⟩ = some (.slice b1 l1 f1) ∧ wz.cell? ⟨bp, 4, none⟩ = some (.slice b2 l2 f2) ∧ wz.cell? ⟨bp, 5, none⟩ = some (.slice b3 l3 f3)) w' := fun w' hb => MS.out _ (below_step' (below_step' BY7.out hbx) hb)
      have PS : ∀ (g : Nat) (v : Value) (w' : World), In7 g pc (fun q => wx.heap.size ≤ q) v w' → Below wx.heap.size wx w' → ∀ h ∈ D, ps7 pc y7 g h v (vs h) w' := fun g v w' hv hb h hh =>
        ⟨wx.heap.size, hv, (In7.wide (P' := fun q => q < wx.heap.size) (hφ h hh) (fun q hq _ => hq)).later hb⟩
      simp only [List.mem_cons, List.not_mem_nil, or_false] at hg
      rcases hg with rfl | rfl | rfl | rfl
      · obtain rfl := Option.some.inj (show some _ = some o from ho)
        have t47 : a.tmps[47]? = _ := (hfr 47 (by decide)).trans rfl
        clear hψ hφ hdep hfr
        go_simp
        refine (OW.out _ BX).mono ?_
        rintro e w' ⟨ua, ub, uc, rfl, hU, hb⟩
        exact hK.out _ _ (SX _ hb) (in7_1.2 ⟨_, _, _, rfl, hU.wide (fun q _ (hq : wx.heap.size ≤ q) => Nat.le_trans hwz hq)⟩) (PS 1 _ _ (in7_1.2 ⟨_, _, _, rfl, hU⟩) hb) hb
      · obtain rfl := Option.some.inj (show some _ = some o from ho)
        have t49 : a.tmps[49]? = _ := (hfr 49 (by decide)).trans rfl
        clear hψ hφ hdep hfr
        go_simp
        refine (CU.out _ BX).mono ?_
        rintro e w' ⟨ua, ub, uc, rfl, hU, hb⟩
        exact hK.out _ _ (SX _ hb) (in7_3.2 ⟨_, _, _, rfl, hU.wide (fun q _ (hq : wx.heap.size ≤ q) => Nat.le_trans hwz hq)⟩) (PS 3 _ _ (in7_3.2 ⟨_, _, _, rfl, hU⟩) hb) hb
      · obtain rfl := Option.some.inj (show some _ = some o from ho)
        clear hψ hφ hdep hfr
        go_simp
        have hbn := below_new wx (.cells #[.int .i64 0, .int .i64 0, .int .i64 0, .slice none 0 0, .slice none 0 0, .slice none 0 0] 26)
        have hi : In7 4 pc (fun q => wx.heap.size ≤ q) (.pointer (some ⟨wx.heap.size, 0, none⟩)) (wx.alloc (.cells #[.int .i64 0, .int .i64 0, .int .i64 0, .slice none 0 0, .slice none 0 0, .slice none 0 0] 26)) := (in7_b (by decide) (by decide)).2 ⟨_, rfl, Nat.le_refl _, by simp, boxAt_new wx Z6 _, fun i => frozen_new wx _ _ i⟩
        exact hK.out _ _ (SX _ hbn) (hi.wide (fun q _ (hq : wx.heap.size ≤ q) => Nat.le_trans hwz hq)) (PS 4 _ _ hi hbn) hbn
      · obtain rfl := Option.some.inj (show some _ = some o from ho)
        clear hψ hφ hdep hfr
        go_simp
        have hbn := below_new wx (.cells #[.int .i64 0, .int .i64 0, .int .i64 0, .slice none 0 0, .slice none 0 0, .slice none 0 0] 26)
        have hi : In7 5 pc (fun q => wx.heap.size ≤ q) (.pointer (some ⟨wx.heap.size, 0, none⟩)) (wx.alloc (.cells #[.int .i64 0, .int .i64 0, .int .i64 0, .slice none 0 0, .slice none 0 0, .slice none 0 0] 26)) := (in7_b (by decide) (by decide)).2 ⟨_, rfl, Nat.le_refl _, by simp, boxAt_new wx Z6 _, fun i => frozen_new wx _ _ i⟩
        exact hK.out _ _ (SX _ hbn) (hi.wide (fun q _ (hq : wx.heap.size ≤ q) => Nat.le_trans hwz hq)) (PS 5 _ _ hi hbn) hbn
    case fin =>
      intro vs wx hSx hbx hφ hψ
      obtain ⟨PO, PC, b4, b5, u1, u2, u3, t1, t2, t3, g1, g3, g4, g5, hO, hC, pO, pC, hne, hbb, hkk, hz4, hz5⟩ := fin7 (hφ 1 (by simp)) (hφ 3 (by simp)) (hφ 4 (by simp)) (hφ 5 (by simp)) (hψ 1 (by simp) 3 (by simp) (by decide)) (hψ 1 (by simp) 4 (by simp) (by decide)) (hψ 1 (by simp) 5 (by simp) (by decide)) (hψ 3 (by simp) 4 (by simp) (by decide)) (hψ 3 (by simp) 5 (by simp) (by decide)) (hψ 4 (by simp) 5 (by simp) (by decide))
      obtain ⟨i1, i2, i3, j1, j2, j3, s1, s2, s3, ee1, ee2, ee3⟩ := pc_slices hO.weak
      subst ee1
      subst ee2
      subst ee3
      obtain ⟨o1, o2, o3, r1, r2, r3, q1, q2, q3, ee1, ee2, ee3⟩ := pc_slices hC.weak
      subst ee1
      subst ee2
      subst ee3
      change wpAnyH _ _ _ _ _ _ _ (((((_ : Act).put (some 48) (vs 1)).put (some 50) (vs 3)).put (some 9) (vs 4)).put (some 10) (vs 5)) _
      rw [g1, g3, g4, g5, PV.out, PV.out]
      try simp only [Act.put, List.getElem_toArray, List.getElem_cons_zero, List.getElem_cons_succ, List.setIfInBounds_toArray, List.set_cons_zero, List.set_cons_succ]
      have HO := Lib.hid hO
      have HC := Lib.hid hC
      have PO' := Lib.hid pO
      have PC' := Lib.hid pC
      have NE := Lib.hid hne
      have BB := Lib.hid hbb
      have K4 := Lib.hid hkk.1
      have K5 := Lib.hid hkk.2
      have Z4 := Lib.hid hz4
      have Z5 := Lib.hid hz5
      have BX := Lib.hid (below_step' BC7.out hbx)
      have MX := Lib.hid (MS.out _ (below_step' BY7.out hbx))
      have CL : Hid (bp < y7.heap.size) := Lib.hid (World.block_lt_of_cell? y7 _ (KPC.out.below BC7.out 0 _ rfl))
      have BYX := Lib.hid hbx
      clear hφ hψ hO hC pO pC hne hbb hkk hz4 hz5 g1 g3 g4 g5 hbx hSx
      refine rd 6 fun K hK => ?_
      have z0 : wx.cell? ⟨b4, 0, none⟩ = some (.int .i64 0) := K4.out 0 _ rfl
      have z1 : wx.cell? ⟨b4, 1, none⟩ = some (.int .i64 0) := K4.out 1 _ rfl
      have z2 : wx.cell? ⟨b4, 2, none⟩ = some (.int .i64 0) := K4.out 2 _ rfl
      have z3 : wx.cell? ⟨b4, 3, none⟩ = some (.slice none 0 0) := K4.out 3 _ rfl
      have z4 : wx.cell? ⟨b4, 4, none⟩ = some (.slice none 0 0) := K4.out 4 _ rfl
      have z5 : wx.cell? ⟨b4, 5, none⟩ = some (.slice none 0 0) := K4.out 5 _ rfl
      have x0 := Z4.out 0
      have x1 := Z4.out 1
      have x2 := Z4.out 2
      have x3 := Z4.out 3
      have x4 := Z4.out 4
      have x5 := Z4.out 5
      obtain ⟨w8, hw8⟩ : ∃ x, x = set6 wx b4 (.int .i64 m0) (.int .i64 m1) (.int .i64 m2) (.slice i1 j1 s1) (.slice i2 j2 s2) (.slice i3 j3 s3) := ⟨_, rfl⟩
      have YL : Hid (w.heap.size ≤ y7.heap.size) := Lib.hid (below_step' BC.out BC7.out).size
      have K8 : Hid (BoxAt b4 [.int .i64 m0, .int .i64 m1, .int .i64 m2, .slice i1 j1 s1, .slice i2 j2 s2, .slice i3 j3 s3] w8) := Lib.hid (by rw [hw8]; exact box_set6 K4.out)
      have K58 : Hid (BoxAt b5 Z6 w8) := Lib.hid (by rw [hw8]; exact K5.out.same (P := fun k => k ≠ b4) (set6_same (fun h => h rfl)) (fun e => NE.out e.symm))
      have Z58 : Hid (∀ i, w8.frozen? ⟨b5, i, none⟩ = false) := Lib.hid (fun i => by rw [hw8]; unfold set6; simp only [World.frozen?_setCell]; exact Z5.out i)
      have HO8 : Hid (HoldsL True PO w8 [.slice i1 j1 s1, .slice i2 j2 s2, .slice i3 j3 s3] pc.d) := Lib.hid (by rw [hw8]; exact HO.out.same (set6_same (fun h => (PO'.out b4 h).2.2.1 rfl)))
      have HC8 : Hid (HoldsL False PC w8 [.slice o1 r1 q1, .slice o2 r2 q2, .slice o3 r3 q3] pc.d) := Lib.hid (by rw [hw8]; exact HC.out.same (set6_same (fun h => (PC'.out b4 h).2.1 rfl)))
      have KP8 : Hid (BoxAt bp [.int .i64 m0, .int .i64 m1, .int .i64 m2, .slice b1 l1 f1, .slice b2 l2 f2, .slice b3 l3 f3] w8) := Lib.hid (by rw [hw8]; exact (KPC.out.below BX.out).same (P := fun k => k ≠ b4) (set6_same (fun h => h rfl)) (fun e => by have := CL.out; have := BB.out.1; omega))
      have HP8 : Hid (HoldsL False (fun k => k < y7.heap.size) w8 [.slice b1 l1 f1, .slice b2 l2 f2, .slice b3 l3 f3] pc.d) := Lib.hid (by
        rw [hw8]
        exact (((HPC.out.later BC7.out).wide (P' := fun k => k < y7.heap.size) (fun k hk _ => hk)).later BYX.out).same (set6_same (fun (h : b4 < y7.heap.size) => by have := BB.out.1; omega)))
      have BW8 : Hid (Below w.heap.size w w8) := Lib.hid (by rw [hw8]; exact set6_below (below_step' BC.out BX.out) (Nat.le_trans YL.out BB.out.1))
      go_simp
      rw [show ((((((wx.setCell ⟨b4, 0, none⟩ (.int .i64 m0)).setCell ⟨b4, 1, none⟩ (.int .i64 m1)).setCell ⟨b4, 2, none⟩ (.int .i64 m2)).setCell ⟨b4, 3, none⟩ (.slice i1 j1 s1)).setCell ⟨b4, 4, none⟩ (.slice i2 j2 s2)).setCell ⟨b4, 5, none⟩ (.slice i3 j3 s3)) = w8 from hw8.symm]
      clear hw8 z0 z1 z2 z3 z4 z5 x0 x1 x2 x3 x4 x5 K4 K5 Z4 Z5 HO HC BX BYX MX
      refine hK.out _ _ ?_ (fun hHeld => ?_)
      · exact ⟨KP8.out 0 _ rfl, KP8.out 1 _ rfl, KP8.out 2 _ rfl, KP8.out 3 _ rfl, KP8.out 4 _ rfl, KP8.out 5 _ rfl⟩
      clear hK K
      refine rd 7 fun K hK => ?_
      have z0 : w8.cell? ⟨b5, 0, none⟩ = some (.int .i64 0) := K58.out 0 _ rfl
      have z1 : w8.cell? ⟨b5, 1, none⟩ = some (.int .i64 0) := K58.out 1 _ rfl
      have z2 : w8.cell? ⟨b5, 2, none⟩ = some (.int .i64 0) := K58.out 2 _ rfl
      have z3 : w8.cell? ⟨b5, 3, none⟩ = some (.slice none 0 0) := K58.out 3 _ rfl
      have z4 : w8.cell? ⟨b5, 4, none⟩ = some (.slice none 0 0) := K58.out 4 _ rfl
      have z5 : w8.cell? ⟨b5, 5, none⟩ = some (.slice none 0 0) := K58.out 5 _ rfl
      have x0 := Z58.out 0
      have x1 := Z58.out 1
      have x2 := Z58.out 2
      have x3 := Z58.out 3
      have x4 := Z58.out 4
      have x5 := Z58.out 5
      obtain ⟨w9, hw9⟩ : ∃ x, x = set6 w8 b5 (.int .i64 m0) (.int .i64 m1) (.int .i64 m2) (.slice o1 r1 q1) (.slice o2 r2 q2) (.slice o3 r3 q3) := ⟨_, rfl⟩
      have KB : Hid (BoxAt b5 [.int .i64 m0, .int .i64 m1, .int .i64 m2, .slice o1 r1 q1, .slice o2 r2 q2, .slice o3 r3 q3] w9) := Lib.hid (by rw [hw9]; exact box_set6 K58.out)
      have KA : Hid (BoxAt b4 [.int .i64 m0, .int .i64 m1, .int .i64 m2, .slice i1 j1 s1, .slice i2 j2 s2, .slice i3 j3 s3] w9) := Lib.hid (by rw [hw9]; exact K8.out.same (P := fun k => k ≠ b5) (set6_same (fun h => h rfl)) NE.out)
      have HO9 : Hid (HoldsL True PO w9 [.slice i1 j1 s1, .slice i2 j2 s2, .slice i3 j3 s3] pc.d) := Lib.hid (by rw [hw9]; exact HO8.out.same (set6_same (fun h => (PO'.out b5 h).2.2.2 rfl)))
      have HC9 : Hid (HoldsL False PC w9 [.slice o1 r1 q1, .slice o2 r2 q2, .slice o3 r3 q3] pc.d) := Lib.hid (by rw [hw9]; exact HC8.out.same (set6_same (fun h => (PC'.out b5 h).2.2 rfl)))
      have KP9 : Hid (BoxAt bp [.int .i64 m0, .int .i64 m1, .int .i64 m2, .slice b1 l1 f1, .slice b2 l2 f2, .slice b3 l3 f3] w9) := Lib.hid (by rw [hw9]; exact KP8.out.same (P := fun k => k ≠ b5) (set6_same (fun h => h rfl)) (fun e => by have := CL.out; have := BB.out.2; omega))
      have HP9 : Hid (HoldsL False (fun k => k < y7.heap.size) w9 [.slice b1 l1 f1, .slice b2 l2 f2, .slice b3 l3 f3] pc.d) := Lib.hid (by
        rw [hw9]
        exact HP8.out.same (set6_same (fun (h : b5 < y7.heap.size) => by have := BB.out.2; omega)))
      have BW9 : Hid (Below w.heap.size w w9) := Lib.hid (by rw [hw9]; exact set6_below BW8.out (Nat.le_trans YL.out BB.out.2))
      go_simp
      rw [show ((((((w8.setCell ⟨b5, 0, none⟩ (.int .i64 m0)).setCell ⟨b5, 1, none⟩ (.int .i64 m1)).setCell ⟨b5, 2, none⟩ (.int .i64 m2)).setCell ⟨b5, 3, none⟩ (.slice o1 r1 q1)).setCell ⟨b5, 4, none⟩ (.slice o2 r2 q2)).setCell ⟨b5, 5, none⟩ (.slice o3 r3 q3)) = w9 from hw9.symm]
      clear hw9 z0 z1 z2 z3 z4 z5 x0 x1 x2 x3 x4 x5 K58 Z58 K8 HO8 HC8 HP8 BW8
      refine hK.out _ _ ?_ (fun hHeld => ?_)
      · exact ⟨KP9.out 0 _ rfl, KP9.out 1 _ rfl, KP9.out 2 _ rfl, KP9.out 3 _ rfl, KP9.out 4 _ rfl, KP9.out 5 _ rfl⟩
      clear hK K KP8 hHeld
      refine wpAnyH_done (by kernel_rfl) ?_ _
      obtain ⟨F1, F2, F3, hF, hd1, hd2, H1, H2, H3⟩ := holdsL3 (d1 := dInts pc.sent) (d2 := dLls pc.inn) (d3 := dIls pc.out) HO9.out
      have AP : Hid (Apart3 w.heap.size PO F1 F2 F3) := Lib.hid ⟨fun k h => Nat.le_trans YL.out (PO'.out k h).1, fun k h => (hF k h).1, hd1, hd2⟩
      have hl1 := ints_len H1
      have hl2 := lls_len H2
      have hl3 : j3 = pc.out.length := by have h := Holds.len H3; obtain ⟨_, _, e'⟩ := h; rw [List.length_map] at e'; cases e'; rfl
      have SD : Hid (SdI w w9 PO F1 F2 F3 (.slice i1 j1 s1) (.slice i2 j2 s2) (.slice i3 j3 s3) j1 j2 j3 w9) := Lib.hid ⟨BW9.out, SameOn.refl _ _, ⟨_, hl1.symm, H1⟩, ⟨_, hl2.symm, fun m hm => by
          rw [PCD.out] at hm
          obtain ⟨x, _, rfl⟩ := List.mem_map.1 hm
          exact List.length_take_le 20 x, H2⟩, ⟨_, hl3.symm, fun m hm => by
          rw [PCD.out] at hm
          obtain ⟨x, _, rfl⟩ := List.mem_map.1 hm
          exact List.length_take_le 20 x, H3⟩⟩
      have hj1 : j1 ≤ 1000000 := by rw [hl1]; exact SPC.out.s
      have hj2 : j2 ≤ 1000000 := by rw [hl2]; exact SPC.out.i
      have hj3 : j3 ≤ 1000000 := by rw [hl3]; exact SPC.out.o
      have N4 : Hid (¬ PO b4) := Lib.hid (fun h => (PO'.out b4 h).2.2.1 rfl)
      have N5 : Hid (¬ PO b5) := Lib.hid (fun h => (PO'.out b5 h).2.2.2 rfl)
      have NP : Hid (¬ PO bp) := Lib.hid (fun h => by have := (PO'.out bp h).1; have := CL.out; omega)
      clear hF hd1 hd2 H1 H2 H3 hl1 hl2 hl3 HO9
      go_wp2_with fail
      go_loopw [11] (fun i wr => ∃ k : Nat, i = .int .i64 k ∧ k ≤ j1 ∧ SdI w w9 PO F1 F2 F3 (.slice i1 j1 s1) (.slice i2 j2 s2) (.slice i3 j3 s3) j1 j2 j3 wr) (fun i _ => j1 - (intOf i).toNat)
      case atStart => exact ⟨0, rfl, by omega, SD.out⟩
      case round =>
        obtain ⟨k, rfl, hk, hr⟩ := hrel
        obtain ⟨wr1, hw1⟩ : ∃ x, x = wr := ⟨_, rfl⟩
        subst hw1
        have HR := Lib.hid hr
        have kc := (KA.out.same hr.same N4.out) 3 _ rfl
        clear SD
        by_cases hlt : k < j1
        · obtain ⟨g, x, e, en, hc, hf, hset⟩ := hr.set1 AP.out hlt
          have HS := Lib.hid (hset 99)
          subst e
          clear hset hr
          have hlt' : (k : Int) < j1 := by omega
          go_wp2_with fail
          go_roundw
          case rel => exact ⟨k + 1, by go_num, by omega, HS.out⟩
          case measure => simp [intOf]; omega
        · obtain rfl : j1 = k := by omega
          have hk3 : ¬ (j1 : Int) < j1 := by omega
          clear hr
          go_wp2_with fail
          clear kc hk3 hlt hk
          go_loopw [12] (fun i wr => ∃ k : Nat, i = .int .i64 k ∧ k ≤ j2 ∧ SdI w w9 PO F1 F2 F3 (.slice i1 j1 s1) (.slice i2 j2 s2) (.slice i3 j3 s3) j1 j2 j3 wr) (fun i _ => j2 - (intOf i).toNat)
          case atStart => exact ⟨0, rfl, by omega, HR.out⟩
          case round =>
            clear HR
            obtain ⟨k, rfl, hk, hr⟩ := hrel
            obtain ⟨wr2, hw2⟩ : ∃ x, x = wr := ⟨_, rfl⟩
            subst hw2
            have HR := Lib.hid hr
            have kc := (KA.out.same hr.same N4.out) 4 _ rfl
            by_cases hlt : k < j2
            · obtain ⟨g, mk, mc, ma, e, en, hc, h20⟩ := hr.open2 hlt
              subst e
              have HCL := Lib.hid hc
              clear hr
              have hlt' : (k : Int) < j2 := by omega
              go_wp2_with fail
              clear kc hc
              go_loopw [13] (fun i wr => ∃ t : Nat, i = .int .i64 t ∧ t ≤ mk ∧ SdI w w9 PO F1 F2 F3 (.slice i1 j1 s1) (.slice (some ⟨g, 0, none⟩) j2 s2) (.slice i3 j3 s3) j1 j2 j3 wr ∧ wr.cell? ⟨g, k, none⟩ = some (.slice ma mk mc)) (fun i _ => mk - (intOf i).toNat)
              case atStart => exact ⟨0, rfl, by omega, HR.out, HCL.out⟩
              case round =>
                clear HR HCL
                obtain ⟨t, rfl, ht, hr, hc⟩ := hrel
                obtain ⟨wr3, hw3⟩ : ∃ x, x = wr := ⟨_, rfl⟩
                subst hw3
                have HR := Lib.hid hr
                have kc := (KA.out.same hr.same N4.out) 4 _ rfl
                by_cases hlt2 : t < mk
                · obtain ⟨b, x, x', e, c1, c2, fz, hset⟩ := hr.set2 AP.out hlt hc hlt2
                  subst e
                  have HS := Lib.hid (hset 99 0)
                  clear hset hr
                  have hlt2' : (t : Int) < mk := by omega
                  go_wp2_with fail
                  go_roundw
                  case rel => exact ⟨t + 1, by go_num, by omega, HS.out.1, HS.out.2⟩
                  case measure => simp [intOf]; omega
                · obtain rfl : mk = t := by omega
                  have ht3 : ¬ (mk : Int) < mk := by omega
                  clear hr
                  go_wp2_with fail
                  go_roundw
                  case rel => exact ⟨k + 1, by go_num, by omega, HR.out⟩
                  case measure => simp [intOf]; omega
            · obtain rfl : j2 = k := by omega
              have hk3 : ¬ (j2 : Int) < j2 := by omega
              clear hr
              go_wp2_with fail
              clear kc
              go_loopw [14] (fun i wr => ∃ k : Nat, i = .int .i64 k ∧ k ≤ j3 ∧ SdI w w9 PO F1 F2 F3 (.slice i1 j1 s1) (.slice i2 j2 s2) (.slice i3 j3 s3) j1 j2 j3 wr) (fun i _ => j3 - (intOf i).toNat)
              case atStart => exact ⟨0, rfl, by omega, HR.out⟩
              case round =>
                clear HR
                obtain ⟨k, rfl, hk, hr⟩ := hrel
                obtain ⟨wr2, hw2⟩ : ∃ x, x = wr := ⟨_, rfl⟩
                subst hw2
                have HR := Lib.hid hr
                have kc := (KA.out.same hr.same N4.out) 5 _ rfl
                by_cases hlt : k < j3
                · obtain ⟨g, mk, mc, ma, e, en, hc, h20⟩ := hr.open3 hlt
                  subst e
                  have HCL := Lib.hid hc
                  clear hr
                  have hlt' : (k : Int) < j3 := by omega
                  go_wp2_with fail
                  clear kc hc
                  go_loopw [15] (fun i wr => ∃ t : Nat, i = .int .i64 t ∧ t ≤ mk ∧ SdI w w9 PO F1 F2 F3 (.slice i1 j1 s1) (.slice i2 j2 s2) (.slice (some ⟨g, 0, none⟩) j3 s3) j1 j2 j3 wr ∧ wr.cell? ⟨g, k, none⟩ = some (.slice ma mk mc)) (fun i _ => mk - (intOf i).toNat)
                  case atStart => exact ⟨0, rfl, by omega, HR.out, HCL.out⟩
                  case round =>
                    clear HR HCL
                    obtain ⟨t, rfl, ht, hr, hc⟩ := hrel
                    obtain ⟨wr3, hw3⟩ : ∃ x, x = wr := ⟨_, rfl⟩
                    subst hw3
                    have HR := Lib.hid hr
                    have kc := (KA.out.same hr.same N4.out) 5 _ rfl
                    by_cases hlt2 : t < mk
                    · obtain ⟨b, x, e, c1, fz, hset⟩ := hr.set3 AP.out hlt hc hlt2
                      subst e
                      have HS := Lib.hid (hset 99)
                      clear hset hr
                      have hlt2' : (t : Int) < mk := by omega
                      go_wp2_with fail
                      go_roundw
                      case rel => exact ⟨t + 1, by go_num, by omega, HS.out.1, HS.out.2⟩
                      case measure => simp [intOf]; omega
                    · obtain rfl : mk = t := by omega
                      have ht3 : ¬ (mk : Int) < mk := by omega
                      clear hr
                      go_wp2_with fail
                      go_roundw
                      case rel => exact ⟨k + 1, by go_num, by omega, HR.out⟩
                      case measure => simp [intOf]; omega
                · obtain rfl : j3 = k := by omega
                  have hk3 : ¬ (j3 : Int) < j3 := by omega
                  clear hr
                  go_wp2_with fail
                  have HPZ := Lib.hid (HP9.out.same (HR.out.same.sub (fun q (hq : q < y7.heap.size) hp => by have := (PO'.out q hp).1; omega)))
                  have HCZ := Lib.hid (HC9.out.same (HR.out.same.sub (fun q hq hp => (PO'.out q hp).2.1 hq)))
                  have KPZ := Lib.hid (KP9.out.same HR.out.same NP.out)
                  have KBZ := Lib.hid (KB.out.same HR.out.same N5.out)
                  have BWZ := Lib.hid HR.out.bel
                  obtain ⟨wz, hwz⟩ : ∃ x, x = wr2 := ⟨_, rfl⟩
                  rw [← hwz] at HPZ HCZ KPZ KBZ BWZ ⊢
                  clear hwz kc HR
                  have MZ : Hid (∀ y, Below wz.heap.size wz y → (fun wz => wz.cell? ⟨bp, 0, none⟩ = some (.int .i64 m0) ∧ wz.cell? ⟨bp, 1, none⟩ = some (.int .i64 m1) ∧ wz.cell? ⟨bp, 2, none⟩ = some (.int .i64 m2) ∧ wz.cell? ⟨bp, 3, none⟩ = some (.slice b1 l1 f1) ∧ wz.cell? ⟨bp, 4, none⟩ = some (.slice b2 l2 f2) ∧ wz.cell? ⟨bp, 5, none⟩ = some (.slice b3 l3 f3) ∧ wz.cell? ⟨b5, 0, none⟩ = some (.int .i64 m0) ∧ wz.cell? ⟨b5, 1, none⟩ = some (.int .i64 m1) ∧ wz.cell? ⟨b5, 2, none⟩ = some (.int .i64 m2) ∧ wz.cell? ⟨b5, 3, none⟩ = some (.slice o1 r1 q1) ∧ wz.cell? ⟨b5, 4, none⟩ = some (.slice o2 r2 q2) ∧ wz.cell? ⟨b5, 5, none⟩ = some (.slice o3 r3 q3)) y) := Lib.hid (fun y hb => ⟨KPZ.out.below hb 0 _ rfl, KPZ.out.below hb 1 _ rfl, KPZ.out.below hb 2 _ rfl, KPZ.out.below hb 3 _ rfl, KPZ.out.below hb 4 _ rfl, KPZ.out.below hb 5 _ rfl, KBZ.out.below hb 0 _ rfl, KBZ.out.below hb 1 _ rfl, KBZ.out.below hb 2 _ rfl, KBZ.out.below hb 3 _ rfl, KBZ.out.below hb 4 _ rfl, KBZ.out.below hb 5 _ rfl⟩)
                  have RP := Lib.hid (fun y => ref_at pc (.slice b1 l1 f1) (.slice b2 l2 f2) (.slice b3 l3 f3) y ⟨_, _, _, _, _, _, _, _, _, rfl, rfl, rfl⟩)
                  have RB := Lib.hid (fun y => ref_at pc (.slice o1 r1 q1) (.slice o2 r2 q2) (.slice o3 r3 q3) y ⟨_, _, _, _, _, _, _, _, _, rfl, rfl, rfl⟩)
                  have SM := Lib.hid (fun y (hb : Below wz.heap.size wz y) => rsame_at pc pc true _ _ _ _ _ _ y (HPZ.out.later hb).weak (HCZ.out.later hb).weak SPC.out SPC.out (by simp))
                  rw [PV.out] at RP RB
                  rw [PV.out, PV.out] at SM
                  refine wp_region_held_drew (S := (fun wz => wz.cell? ⟨bp, 0, none⟩ = some (.int .i64 m0) ∧ wz.cell? ⟨bp, 1, none⟩ = some (.int .i64 m1) ∧ wz.cell? ⟨bp, 2, none⟩ = some (.int .i64 m2) ∧ wz.cell? ⟨bp, 3, none⟩ = some (.slice b1 l1 f1) ∧ wz.cell? ⟨bp, 4, none⟩ = some (.slice b2 l2 f2) ∧ wz.cell? ⟨bp, 5, none⟩ = some (.slice b3 l3 f3) ∧ wz.cell? ⟨b5, 0, none⟩ = some (.int .i64 m0) ∧ wz.cell? ⟨b5, 1, none⟩ = some (.int .i64 m1) ∧ wz.cell? ⟨b5, 2, none⟩ = some (.int .i64 m2) ∧ wz.cell? ⟨b5, 3, none⟩ = some (.slice o1 r1 q1) ∧ wz.cell? ⟨b5, 4, none⟩ = some (.slice o2 r2 q2) ∧ wz.cell? ⟨b5, 5, none⟩ = some (.slice o3 r3 q3))) (by kernel_rfl) ?_ (fun hHeld => ?_)
                  · exact MZ.out _ (below_drewN (Below.refl wz.heap.size wz) 1)
                  obtain ⟨yz, hyz⟩ : ∃ y, y = wz.drew := ⟨_, rfl⟩
                  rw [← hyz] at hHeld ⊢
                  have C0 : Hid (Below wz.heap.size wz yz) := Lib.hid (by rw [hyz]; exact below_drewN (Below.refl wz.heap.size wz) 1)
                  clear hyz
                  refine tq 0 ?_
                  refine tq 2 ?_
                  refine rd 1 fun K hK => ?_
                  go_simp
                  refine (RP.out _).mono ?_
                  rintro e z1 ⟨rfl, hb⟩
                  have C1 := Lib.hid (below_step' C0.out hb)
                  clear hb
                  go_wp2_with fail
                  refine hK.out _ _ ?_ (fun hHeld => ?_)
                  · exact MZ.out _ C1.out
                  clear hK K
                  refine rd 3 fun K hK => ?_
                  go_simp
                  refine (RB.out _).mono ?_
                  rintro e z2 ⟨rfl, hb⟩
                  have C2 := Lib.hid (below_step' C1.out hb)
                  clear hb
                  go_wp2_with fail
                  refine hK.out _ _ ?_ (fun hHeld => ?_)
                  · exact MZ.out _ C2.out
                  clear hK K
                  refine rd 4 fun K hK => ?_
                  go_simp
                  refine (SM.out _ C2.out).mono ?_
                  rintro e z3 ⟨rfl, hb⟩
                  have C3 := Lib.hid (below_step' C2.out hb)
                  clear hb
                  go_wp2_with fail
                  refine hK.out _ _ ?_ (fun hHeld => ?_)
                  · exact MZ.out _ C3.out
                  clear hK K
                  refine tq 5 ?_
                  refine rd 6 fun K hK => ?_
                  go_simp
                  refine (fixed6_any _).mono ?_
                  rintro e z4 ⟨rfl, hb⟩
                  have C4 := Lib.hid (below_step' C3.out hb)
                  clear hb
                  go_wp2_with fail
                  refine hK.out _ _ ?_ (fun hHeld => ?_)
                  · exact MZ.out _ C4.out
                  clear hK K
                  refine tq 7 ?_
                  refine tq 8 ?_
                  refine wpAnyH_done (by kernel_rfl) ?_ _
                  go_wp2_with fail
                  go_ret
                  exact ⟨rfl, below_step' BWZ.out C4.out⟩
  | true =>
    rw [enc_ok hok] at hc1 hs1
    simp only at hc1 hs1
    subst hc1
    cases hok2 : okB qc with
    | false =>
      rw [enc_no hok2] at hc2
      simp only at hc2
      subst hc2
      clear hs1 hs2 hok hok2
      go_upto_region 5 with fail
      refine wp_region_held_drew (S := fun _ => True) (by kernel_rfl) trivial (fun hHeld => ?_)
      obtain ⟨y4, hy4⟩ : ∃ y, y = w4.drew := ⟨_, rfl⟩
      rw [← hy4]
      have BY4 : Hid (Below wc.heap.size wc y4) := Lib.hid (by rw [hy4]; exact below_drewN B4.out 1)
      clear hy4
      refine tq 0 ?_
      refine tq 1 ?_
      refine tq 2 ?_
      refine tq 3 ?_
      refine tq 4 ?_
      refine tq 5 ?_
      refine tq 6 ?_
      refine tq0 7 ?_
      refine tq0 8 ?_
      refine tq0 9 ?_
      refine tq0 10 ?_
      refine tq0 11 ?_
      refine tq0 12 ?_
      refine tq0 13 ?_
      refine tq0 14 ?_
      refine tq0 15 ?_
      refine tq 16 ?_
      refine wpAnyH_done (by kernel_rfl) ?_ _
      clear hHeld
      go_upto_region 7 with fail
      have OW := Lib.hid (fun y (hb : Below wc.heap.size wc y) => own_at pc _ _ _ y (HPC.out.later hb) SPC.out)
      have CU : Hid (∀ y, Below wc.heap.size wc y → Calls Try.prog 9 #[pcv pc (.slice b1 l1 f1) (.slice b2 l2 f2) (.slice b3 l3 f3)] y fun e w' => ∃ v1 v2 v3, e = .returned (pcv pc v1 v2 v3) ∧ HoldsL False (fun q => y.heap.size ≤ q) w' [v1, v2, v3] pc.d ∧ Below y.heap.size y w') := Lib.hid (fun y hb => by
        have h := cut_at pc _ _ _ y (HPC.out.later hb)
        unfold CutTold at h
        rwa [IDP.out] at h)
      rw [PV.out] at OW CU
      have MS : Hid (∀ wz, Below y4.heap.size y4 wz → (fun wz => wz.cell? ⟨bp, 0, none⟩ = some (.int .i64 m0) ∧ wz.cell? ⟨bp, 1, none⟩ = some (.int .i64 m1) ∧ wz.cell? ⟨bp, 2, none⟩ = some (.int .i64 m2) ∧ wz.cell? ⟨bp, 3, none⟩ = some (.slice b1 l1 f1) ∧ wz.cell? ⟨bp, 4, none⟩ = some (.slice b2 l2 f2) ∧ wz.cell? ⟨bp, 5, none⟩ = some (.slice b3 l3 f3)) wz) := Lib.hid (fun wz hb => by
        have h4 := below_step' BY4.out hb
        exact ⟨KPC.out.below h4 0 _ rfl, KPC.out.below h4 1 _ rfl, KPC.out.below h4 2 _ rfl, KPC.out.below h4 3 _ rfl, KPC.out.below h4 4 _ rfl, KPC.out.below h4 5 _ rfl⟩)
      refine wp_region_held_drew (S := (fun wz => wz.cell? ⟨bp, 0, none⟩ = some (.int .i64 m0) ∧ wz.cell? ⟨bp, 1, none⟩ = some (.int .i64 m1) ∧ wz.cell? ⟨bp, 2, none⟩ = some (.int .i64 m2) ∧ wz.cell? ⟨bp, 3, none⟩ = some (.slice b1 l1 f1) ∧ wz.cell? ⟨bp, 4, none⟩ = some (.slice b2 l2 f2) ∧ wz.cell? ⟨bp, 5, none⟩ = some (.slice b3 l3 f3))) (by kernel_rfl) ?_ (fun hHeld => ?_)
      · exact MS.out _ (below_drewN (Below.refl y4.heap.size y4) 1)
      obtain ⟨y7, hy7⟩ : ∃ y, y = y4.drew := ⟨_, rfl⟩
      rw [← hy7] at hHeld ⊢
      have BY7 : Hid (Below y4.heap.size y4 y7) := Lib.hid (by rw [hy7]; exact below_drewN (Below.refl y4.heap.size y4) 1)
      have BC7 := Lib.hid (below_step' BY4.out BY7.out)
      clear hy7
      refine tq 0 ?_
      refine tq 2 ?_
      refine wpAnyH_group (S := (fun wz => wz.cell? ⟨bp, 0, none⟩ = some (.int .i64 m0) ∧ wz.cell? ⟨bp, 1, none⟩ = some (.int .i64 m1) ∧ wz.cell? ⟨bp, 2, none⟩ = some (.int .i64 m2) ∧ wz.cell? ⟨bp, 3, none⟩ = some (.slice b1 l1 f1) ∧ wz.cell? ⟨bp, 4, none⟩ = some (.slice b2 l2 f2) ∧ wz.cell? ⟨bp, 5, none⟩ = some (.slice b3 l3 f3))) (n := 2) [1, 3, 4, 5] 6 (ph7 pc y7) (ps7 pc y7) (by kernel_rfl) (by kernel_rfl) (by kernel_rfl) (by kernel_rfl) (by kernel_rfl) (fun _ _ _ _ h hb => ph7_mono h hb) (fun _ _ _ _ _ _ h hb => ps7_mono h hb) ?step1 hHeld ?fin1
      case step1 =>
        intro g hg o ho D vs a wx hD hgD hφ hψ hSx hbx hfr hdep K hK
        have BX := below_step' BC7.out hbx
        have hwz := hbx.size
        have SX : ∀ w', Below wx.heap.size wx w' → (fun wz => wz.cell? ⟨bp, 0, none⟩ = some (.int .i64 m0) ∧ wz.cell? ⟨bp, 1, none⟩ = some (.int .i64 m1) ∧ wz.cell? ⟨bp, 2, none⟩ = some (.int .i64 m2) ∧ wz.cell? ⟨bp, 3, none⟩ = some (.slice b1 l1 f1) ∧ wz.cell? ⟨bp, 4, none⟩ = some (.slice b2 l2 f2) ∧ wz.cell? ⟨bp, 5, none⟩ = some (.slice b3 l3 f3)) w' := fun w' hb => MS.out _ (below_step' (below_step' BY7.out hbx) hb)
        have PS : ∀ (g : Nat) (v : Value) (w' : World), In7 g pc (fun q => wx.heap.size ≤ q) v w' → Below wx.heap.size wx w' → ∀ h ∈ D, ps7 pc y7 g h v (vs h) w' := fun g v w' hv hb h hh =>
          ⟨wx.heap.size, hv, (In7.wide (P' := fun q => q < wx.heap.size) (hφ h hh) (fun q hq _ => hq)).later hb⟩
        simp only [List.mem_cons, List.not_mem_nil, or_false] at hg
        rcases hg with rfl | rfl | rfl | rfl
        · obtain rfl := Option.some.inj (show some _ = some o from ho)
          have t47 : a.tmps[47]? = _ := (hfr 47 (by decide)).trans rfl
          clear hψ hφ hdep hfr
          go_simp
          refine (OW.out _ BX).mono ?_
          rintro e w' ⟨ua, ub, uc, rfl, hU, hb⟩
          exact hK.out _ _ (SX _ hb) (in7_1.2 ⟨_, _, _, rfl, hU.wide (fun q _ (hq : wx.heap.size ≤ q) => Nat.le_trans hwz hq)⟩) (PS 1 _ _ (in7_1.2 ⟨_, _, _, rfl, hU⟩) hb) hb
        · obtain rfl := Option.some.inj (show some _ = some o from ho)
          have t49 : a.tmps[49]? = _ := (hfr 49 (by decide)).trans rfl
          clear hψ hφ hdep hfr
          go_simp
          refine (CU.out _ BX).mono ?_
          rintro e w' ⟨ua, ub, uc, rfl, hU, hb⟩
          exact hK.out _ _ (SX _ hb) (in7_3.2 ⟨_, _, _, rfl, hU.wide (fun q _ (hq : wx.heap.size ≤ q) => Nat.le_trans hwz hq)⟩) (PS 3 _ _ (in7_3.2 ⟨_, _, _, rfl, hU⟩) hb) hb
        · obtain rfl := Option.some.inj (show some _ = some o from ho)
          clear hψ hφ hdep hfr
          go_simp
          have hbn := below_new wx (.cells #[.int .i64 0, .int .i64 0, .int .i64 0, .slice none 0 0, .slice none 0 0, .slice none 0 0] 26)
          have hi : In7 4 pc (fun q => wx.heap.size ≤ q) (.pointer (some ⟨wx.heap.size, 0, none⟩)) (wx.alloc (.cells #[.int .i64 0, .int .i64 0, .int .i64 0, .slice none 0 0, .slice none 0 0, .slice none 0 0] 26)) := (in7_b (by decide) (by decide)).2 ⟨_, rfl, Nat.le_refl _, by simp, boxAt_new wx Z6 _, fun i => frozen_new wx _ _ i⟩
          exact hK.out _ _ (SX _ hbn) (hi.wide (fun q _ (hq : wx.heap.size ≤ q) => Nat.le_trans hwz hq)) (PS 4 _ _ hi hbn) hbn
        · obtain rfl := Option.some.inj (show some _ = some o from ho)
          clear hψ hφ hdep hfr
          go_simp
          have hbn := below_new wx (.cells #[.int .i64 0, .int .i64 0, .int .i64 0, .slice none 0 0, .slice none 0 0, .slice none 0 0] 26)
          have hi : In7 5 pc (fun q => wx.heap.size ≤ q) (.pointer (some ⟨wx.heap.size, 0, none⟩)) (wx.alloc (.cells #[.int .i64 0, .int .i64 0, .int .i64 0, .slice none 0 0, .slice none 0 0, .slice none 0 0] 26)) := (in7_b (by decide) (by decide)).2 ⟨_, rfl, Nat.le_refl _, by simp, boxAt_new wx Z6 _, fun i => frozen_new wx _ _ i⟩
          exact hK.out _ _ (SX _ hbn) (hi.wide (fun q _ (hq : wx.heap.size ≤ q) => Nat.le_trans hwz hq)) (PS 5 _ _ hi hbn) hbn
      case fin1 =>
        intro vs wx hSx hbx hφ hψ
        obtain ⟨PO, PC, b4, b5, u1, u2, u3, t1, t2, t3, g1, g3, g4, g5, hO, hC, pO, pC, hne, hbb, hkk, hz4, hz5⟩ := fin7 (hφ 1 (by simp)) (hφ 3 (by simp)) (hφ 4 (by simp)) (hφ 5 (by simp)) (hψ 1 (by simp) 3 (by simp) (by decide)) (hψ 1 (by simp) 4 (by simp) (by decide)) (hψ 1 (by simp) 5 (by simp) (by decide)) (hψ 3 (by simp) 4 (by simp) (by decide)) (hψ 3 (by simp) 5 (by simp) (by decide)) (hψ 4 (by simp) 5 (by simp) (by decide))
        obtain ⟨i1, i2, i3, j1, j2, j3, s1, s2, s3, ee1, ee2, ee3⟩ := pc_slices hO.weak
        subst ee1
        subst ee2
        subst ee3
        obtain ⟨o1, o2, o3, r1, r2, r3, q1, q2, q3, ee1, ee2, ee3⟩ := pc_slices hC.weak
        subst ee1
        subst ee2
        subst ee3
        change wpAnyH _ _ _ _ _ _ _ (((((_ : Act).put (some 48) (vs 1)).put (some 50) (vs 3)).put (some 9) (vs 4)).put (some 10) (vs 5)) _
        rw [g1, g3, g4, g5, PV.out, PV.out]
        try simp only [Act.put, List.getElem_toArray, List.getElem_cons_zero, List.getElem_cons_succ, List.setIfInBounds_toArray, List.set_cons_zero, List.set_cons_succ]
        have HO := Lib.hid hO
        have HC := Lib.hid hC
        have PO' := Lib.hid pO
        have PC' := Lib.hid pC
        have NE := Lib.hid hne
        have BB := Lib.hid hbb
        have K4 := Lib.hid hkk.1
        have K5 := Lib.hid hkk.2
        have Z4 := Lib.hid hz4
        have Z5 := Lib.hid hz5
        have BX := Lib.hid (below_step' BC7.out hbx)
        have MX := Lib.hid (MS.out _ (below_step' BY7.out hbx))
        have CL : Hid (bp < y7.heap.size) := Lib.hid (World.block_lt_of_cell? y7 _ (KPC.out.below BC7.out 0 _ rfl))
        have BYX := Lib.hid hbx
        clear hφ hψ hO hC pO pC hne hbb hkk hz4 hz5 g1 g3 g4 g5 hbx hSx
        refine rd 6 fun K hK => ?_
        have z0 : wx.cell? ⟨b4, 0, none⟩ = some (.int .i64 0) := K4.out 0 _ rfl
        have z1 : wx.cell? ⟨b4, 1, none⟩ = some (.int .i64 0) := K4.out 1 _ rfl
        have z2 : wx.cell? ⟨b4, 2, none⟩ = some (.int .i64 0) := K4.out 2 _ rfl
        have z3 : wx.cell? ⟨b4, 3, none⟩ = some (.slice none 0 0) := K4.out 3 _ rfl
        have z4 : wx.cell? ⟨b4, 4, none⟩ = some (.slice none 0 0) := K4.out 4 _ rfl
        have z5 : wx.cell? ⟨b4, 5, none⟩ = some (.slice none 0 0) := K4.out 5 _ rfl
        have x0 := Z4.out 0
        have x1 := Z4.out 1
        have x2 := Z4.out 2
        have x3 := Z4.out 3
        have x4 := Z4.out 4
        have x5 := Z4.out 5
        obtain ⟨w8, hw8⟩ : ∃ x, x = set6 wx b4 (.int .i64 m0) (.int .i64 m1) (.int .i64 m2) (.slice i1 j1 s1) (.slice i2 j2 s2) (.slice i3 j3 s3) := ⟨_, rfl⟩
        have YL : Hid (w.heap.size ≤ y7.heap.size) := Lib.hid (below_step' BC.out BC7.out).size
        have K8 : Hid (BoxAt b4 [.int .i64 m0, .int .i64 m1, .int .i64 m2, .slice i1 j1 s1, .slice i2 j2 s2, .slice i3 j3 s3] w8) := Lib.hid (by rw [hw8]; exact box_set6 K4.out)
        have K58 : Hid (BoxAt b5 Z6 w8) := Lib.hid (by rw [hw8]; exact K5.out.same (P := fun k => k ≠ b4) (set6_same (fun h => h rfl)) (fun e => NE.out e.symm))
        have Z58 : Hid (∀ i, w8.frozen? ⟨b5, i, none⟩ = false) := Lib.hid (fun i => by rw [hw8]; unfold set6; simp only [World.frozen?_setCell]; exact Z5.out i)
        have HO8 : Hid (HoldsL True PO w8 [.slice i1 j1 s1, .slice i2 j2 s2, .slice i3 j3 s3] pc.d) := Lib.hid (by rw [hw8]; exact HO.out.same (set6_same (fun h => (PO'.out b4 h).2.2.1 rfl)))
        have HC8 : Hid (HoldsL False PC w8 [.slice o1 r1 q1, .slice o2 r2 q2, .slice o3 r3 q3] pc.d) := Lib.hid (by rw [hw8]; exact HC.out.same (set6_same (fun h => (PC'.out b4 h).2.1 rfl)))
        have KP8 : Hid (BoxAt bp [.int .i64 m0, .int .i64 m1, .int .i64 m2, .slice b1 l1 f1, .slice b2 l2 f2, .slice b3 l3 f3] w8) := Lib.hid (by rw [hw8]; exact (KPC.out.below BX.out).same (P := fun k => k ≠ b4) (set6_same (fun h => h rfl)) (fun e => by have := CL.out; have := BB.out.1; omega))
        have HP8 : Hid (HoldsL False (fun k => k < y7.heap.size) w8 [.slice b1 l1 f1, .slice b2 l2 f2, .slice b3 l3 f3] pc.d) := Lib.hid (by
          rw [hw8]
          exact (((HPC.out.later BC7.out).wide (P' := fun k => k < y7.heap.size) (fun k hk _ => hk)).later BYX.out).same (set6_same (fun (h : b4 < y7.heap.size) => by have := BB.out.1; omega)))
        have BW8 : Hid (Below w.heap.size w w8) := Lib.hid (by rw [hw8]; exact set6_below (below_step' BC.out BX.out) (Nat.le_trans YL.out BB.out.1))
        go_simp
        rw [show ((((((wx.setCell ⟨b4, 0, none⟩ (.int .i64 m0)).setCell ⟨b4, 1, none⟩ (.int .i64 m1)).setCell ⟨b4, 2, none⟩ (.int .i64 m2)).setCell ⟨b4, 3, none⟩ (.slice i1 j1 s1)).setCell ⟨b4, 4, none⟩ (.slice i2 j2 s2)).setCell ⟨b4, 5, none⟩ (.slice i3 j3 s3)) = w8 from hw8.symm]
        clear hw8 z0 z1 z2 z3 z4 z5 x0 x1 x2 x3 x4 x5 K4 K5 Z4 Z5 HO HC BX BYX MX
        refine hK.out _ _ ?_ (fun hHeld => ?_)
        · exact ⟨KP8.out 0 _ rfl, KP8.out 1 _ rfl, KP8.out 2 _ rfl, KP8.out 3 _ rfl, KP8.out 4 _ rfl, KP8.out 5 _ rfl⟩
        clear hK K
        refine rd 7 fun K hK => ?_
        have z0 : w8.cell? ⟨b5, 0, none⟩ = some (.int .i64 0) := K58.out 0 _ rfl
        have z1 : w8.cell? ⟨b5, 1, none⟩ = some (.int .i64 0) := K58.out 1 _ rfl
        have z2 : w8.cell? ⟨b5, 2, none⟩ = some (.int .i64 0) := K58.out 2 _ rfl
        have z3 : w8.cell? ⟨b5, 3, none⟩ = some (.slice none 0 0) := K58.out 3 _ rfl
        have z4 : w8.cell? ⟨b5, 4, none⟩ = some (.slice none 0 0) := K58.out 4 _ rfl
        have z5 : w8.cell? ⟨b5, 5, none⟩ = some (.slice none 0 0) := K58.out 5 _ rfl
        have x0 := Z58.out 0
        have x1 := Z58.out 1
        have x2 := Z58.out 2
        have x3 := Z58.out 3
        have x4 := Z58.out 4
        have x5 := Z58.out 5
        obtain ⟨w9, hw9⟩ : ∃ x, x = set6 w8 b5 (.int .i64 m0) (.int .i64 m1) (.int .i64 m2) (.slice o1 r1 q1) (.slice o2 r2 q2) (.slice o3 r3 q3) := ⟨_, rfl⟩
        have KB : Hid (BoxAt b5 [.int .i64 m0, .int .i64 m1, .int .i64 m2, .slice o1 r1 q1, .slice o2 r2 q2, .slice o3 r3 q3] w9) := Lib.hid (by rw [hw9]; exact box_set6 K58.out)
        have KA : Hid (BoxAt b4 [.int .i64 m0, .int .i64 m1, .int .i64 m2, .slice i1 j1 s1, .slice i2 j2 s2, .slice i3 j3 s3] w9) := Lib.hid (by rw [hw9]; exact K8.out.same (P := fun k => k ≠ b5) (set6_same (fun h => h rfl)) NE.out)
        have HO9 : Hid (HoldsL True PO w9 [.slice i1 j1 s1, .slice i2 j2 s2, .slice i3 j3 s3] pc.d) := Lib.hid (by rw [hw9]; exact HO8.out.same (set6_same (fun h => (PO'.out b5 h).2.2.2 rfl)))
        have HC9 : Hid (HoldsL False PC w9 [.slice o1 r1 q1, .slice o2 r2 q2, .slice o3 r3 q3] pc.d) := Lib.hid (by rw [hw9]; exact HC8.out.same (set6_same (fun h => (PC'.out b5 h).2.2 rfl)))
        have KP9 : Hid (BoxAt bp [.int .i64 m0, .int .i64 m1, .int .i64 m2, .slice b1 l1 f1, .slice b2 l2 f2, .slice b3 l3 f3] w9) := Lib.hid (by rw [hw9]; exact KP8.out.same (P := fun k => k ≠ b5) (set6_same (fun h => h rfl)) (fun e => by have := CL.out; have := BB.out.2; omega))
        have HP9 : Hid (HoldsL False (fun k => k < y7.heap.size) w9 [.slice b1 l1 f1, .slice b2 l2 f2, .slice b3 l3 f3] pc.d) := Lib.hid (by
          rw [hw9]
          exact HP8.out.same (set6_same (fun (h : b5 < y7.heap.size) => by have := BB.out.2; omega)))
        have BW9 : Hid (Below w.heap.size w w9) := Lib.hid (by rw [hw9]; exact set6_below BW8.out (Nat.le_trans YL.out BB.out.2))
        go_simp
        rw [show ((((((w8.setCell ⟨b5, 0, none⟩ (.int .i64 m0)).setCell ⟨b5, 1, none⟩ (.int .i64 m1)).setCell ⟨b5, 2, none⟩ (.int .i64 m2)).setCell ⟨b5, 3, none⟩ (.slice o1 r1 q1)).setCell ⟨b5, 4, none⟩ (.slice o2 r2 q2)).setCell ⟨b5, 5, none⟩ (.slice o3 r3 q3)) = w9 from hw9.symm]
        clear hw9 z0 z1 z2 z3 z4 z5 x0 x1 x2 x3 x4 x5 K58 Z58 K8 HO8 HC8 HP8 BW8
        refine hK.out _ _ ?_ (fun hHeld => ?_)
        · exact ⟨KP9.out 0 _ rfl, KP9.out 1 _ rfl, KP9.out 2 _ rfl, KP9.out 3 _ rfl, KP9.out 4 _ rfl, KP9.out 5 _ rfl⟩
        clear hK K KP8 hHeld
        refine wpAnyH_done (by kernel_rfl) ?_ _
        obtain ⟨F1, F2, F3, hF, hd1, hd2, H1, H2, H3⟩ := holdsL3 (d1 := dInts pc.sent) (d2 := dLls pc.inn) (d3 := dIls pc.out) HO9.out
        have AP : Hid (Apart3 w.heap.size PO F1 F2 F3) := Lib.hid ⟨fun k h => Nat.le_trans YL.out (PO'.out k h).1, fun k h => (hF k h).1, hd1, hd2⟩
        have hl1 := ints_len H1
        have hl2 := lls_len H2
        have hl3 : j3 = pc.out.length := by have h := Holds.len H3; obtain ⟨_, _, e'⟩ := h; rw [List.length_map] at e'; cases e'; rfl
        have SD : Hid (SdI w w9 PO F1 F2 F3 (.slice i1 j1 s1) (.slice i2 j2 s2) (.slice i3 j3 s3) j1 j2 j3 w9) := Lib.hid ⟨BW9.out, SameOn.refl _ _, ⟨_, hl1.symm, H1⟩, ⟨_, hl2.symm, fun m hm => by
            rw [PCD.out] at hm
            obtain ⟨x, _, rfl⟩ := List.mem_map.1 hm
            exact List.length_take_le 20 x, H2⟩, ⟨_, hl3.symm, fun m hm => by
            rw [PCD.out] at hm
            obtain ⟨x, _, rfl⟩ := List.mem_map.1 hm
            exact List.length_take_le 20 x, H3⟩⟩
        have hj1 : j1 ≤ 1000000 := by rw [hl1]; exact SPC.out.s
        have hj2 : j2 ≤ 1000000 := by rw [hl2]; exact SPC.out.i
        have hj3 : j3 ≤ 1000000 := by rw [hl3]; exact SPC.out.o
        have N4 : Hid (¬ PO b4) := Lib.hid (fun h => (PO'.out b4 h).2.2.1 rfl)
        have N5 : Hid (¬ PO b5) := Lib.hid (fun h => (PO'.out b5 h).2.2.2 rfl)
        have NP : Hid (¬ PO bp) := Lib.hid (fun h => by have := (PO'.out bp h).1; have := CL.out; omega)
        clear hF hd1 hd2 H1 H2 H3 hl1 hl2 hl3 HO9
        go_wp2_with fail
        go_loopw [11] (fun i wr => ∃ k : Nat, i = .int .i64 k ∧ k ≤ j1 ∧ SdI w w9 PO F1 F2 F3 (.slice i1 j1 s1) (.slice i2 j2 s2) (.slice i3 j3 s3) j1 j2 j3 wr) (fun i _ => j1 - (intOf i).toNat)
        case atStart => exact ⟨0, rfl, by omega, SD.out⟩
        case round =>
          obtain ⟨k, rfl, hk, hr⟩ := hrel
          obtain ⟨wr1, hw1⟩ : ∃ x, x = wr := ⟨_, rfl⟩
          subst hw1
          have HR := Lib.hid hr
          have kc := (KA.out.same hr.same N4.out) 3 _ rfl
          clear SD
          by_cases hlt : k < j1
          · obtain ⟨g, x, e, en, hc, hf, hset⟩ := hr.set1 AP.out hlt
            have HS := Lib.hid (hset 99)
            subst e
            clear hset hr
            have hlt' : (k : Int) < j1 := by omega
            go_wp2_with fail
            go_roundw
            case rel => exact ⟨k + 1, by go_num, by omega, HS.out⟩
            case measure => simp [intOf]; omega
          · obtain rfl : j1 = k := by omega
            have hk3 : ¬ (j1 : Int) < j1 := by omega
            clear hr
            go_wp2_with fail
            clear kc hk3 hlt hk
            go_loopw [12] (fun i wr => ∃ k : Nat, i = .int .i64 k ∧ k ≤ j2 ∧ SdI w w9 PO F1 F2 F3 (.slice i1 j1 s1) (.slice i2 j2 s2) (.slice i3 j3 s3) j1 j2 j3 wr) (fun i _ => j2 - (intOf i).toNat)
            case atStart => exact ⟨0, rfl, by omega, HR.out⟩
            case round =>
              clear HR
              obtain ⟨k, rfl, hk, hr⟩ := hrel
              obtain ⟨wr2, hw2⟩ : ∃ x, x = wr := ⟨_, rfl⟩
              subst hw2
              have HR := Lib.hid hr
              have kc := (KA.out.same hr.same N4.out) 4 _ rfl
              by_cases hlt : k < j2
              · obtain ⟨g, mk, mc, ma, e, en, hc, h20⟩ := hr.open2 hlt
                subst e
                have HCL := Lib.hid hc
                clear hr
                have hlt' : (k : Int) < j2 := by omega
                go_wp2_with fail
                clear kc hc
                go_loopw [13] (fun i wr => ∃ t : Nat, i = .int .i64 t ∧ t ≤ mk ∧ SdI w w9 PO F1 F2 F3 (.slice i1 j1 s1) (.slice (some ⟨g, 0, none⟩) j2 s2) (.slice i3 j3 s3) j1 j2 j3 wr ∧ wr.cell? ⟨g, k, none⟩ = some (.slice ma mk mc)) (fun i _ => mk - (intOf i).toNat)
                case atStart => exact ⟨0, rfl, by omega, HR.out, HCL.out⟩
                case round =>
                  clear HR HCL
                  obtain ⟨t, rfl, ht, hr, hc⟩ := hrel
                  obtain ⟨wr3, hw3⟩ : ∃ x, x = wr := ⟨_, rfl⟩
                  subst hw3
                  have HR := Lib.hid hr
                  have kc := (KA.out.same hr.same N4.out) 4 _ rfl
                  by_cases hlt2 : t < mk
                  · obtain ⟨b, x, x', e, c1, c2, fz, hset⟩ := hr.set2 AP.out hlt hc hlt2
                    subst e
                    have HS := Lib.hid (hset 99 0)
                    clear hset hr
                    have hlt2' : (t : Int) < mk := by omega
                    go_wp2_with fail
                    go_roundw
                    case rel => exact ⟨t + 1, by go_num, by omega, HS.out.1, HS.out.2⟩
                    case measure => simp [intOf]; omega
                  · obtain rfl : mk = t := by omega
                    have ht3 : ¬ (mk : Int) < mk := by omega
                    clear hr
                    go_wp2_with fail
                    go_roundw
                    case rel => exact ⟨k + 1, by go_num, by omega, HR.out⟩
                    case measure => simp [intOf]; omega
              · obtain rfl : j2 = k := by omega
                have hk3 : ¬ (j2 : Int) < j2 := by omega
                clear hr
                go_wp2_with fail
                clear kc
                go_loopw [14] (fun i wr => ∃ k : Nat, i = .int .i64 k ∧ k ≤ j3 ∧ SdI w w9 PO F1 F2 F3 (.slice i1 j1 s1) (.slice i2 j2 s2) (.slice i3 j3 s3) j1 j2 j3 wr) (fun i _ => j3 - (intOf i).toNat)
                case atStart => exact ⟨0, rfl, by omega, HR.out⟩
                case round =>
                  clear HR
                  obtain ⟨k, rfl, hk, hr⟩ := hrel
                  obtain ⟨wr2, hw2⟩ : ∃ x, x = wr := ⟨_, rfl⟩
                  subst hw2
                  have HR := Lib.hid hr
                  have kc := (KA.out.same hr.same N4.out) 5 _ rfl
                  by_cases hlt : k < j3
                  · obtain ⟨g, mk, mc, ma, e, en, hc, h20⟩ := hr.open3 hlt
                    subst e
                    have HCL := Lib.hid hc
                    clear hr
                    have hlt' : (k : Int) < j3 := by omega
                    go_wp2_with fail
                    clear kc hc
                    go_loopw [15] (fun i wr => ∃ t : Nat, i = .int .i64 t ∧ t ≤ mk ∧ SdI w w9 PO F1 F2 F3 (.slice i1 j1 s1) (.slice i2 j2 s2) (.slice (some ⟨g, 0, none⟩) j3 s3) j1 j2 j3 wr ∧ wr.cell? ⟨g, k, none⟩ = some (.slice ma mk mc)) (fun i _ => mk - (intOf i).toNat)
                    case atStart => exact ⟨0, rfl, by omega, HR.out, HCL.out⟩
                    case round =>
                      clear HR HCL
                      obtain ⟨t, rfl, ht, hr, hc⟩ := hrel
                      obtain ⟨wr3, hw3⟩ : ∃ x, x = wr := ⟨_, rfl⟩
                      subst hw3
                      have HR := Lib.hid hr
                      have kc := (KA.out.same hr.same N4.out) 5 _ rfl
                      by_cases hlt2 : t < mk
                      · obtain ⟨b, x, e, c1, fz, hset⟩ := hr.set3 AP.out hlt hc hlt2
                        subst e
                        have HS := Lib.hid (hset 99)
                        clear hset hr
                        have hlt2' : (t : Int) < mk := by omega
                        go_wp2_with fail
                        go_roundw
                        case rel => exact ⟨t + 1, by go_num, by omega, HS.out.1, HS.out.2⟩
                        case measure => simp [intOf]; omega
                      · obtain rfl : mk = t := by omega
                        have ht3 : ¬ (mk : Int) < mk := by omega
                        clear hr
                        go_wp2_with fail
                        go_roundw
                        case rel => exact ⟨k + 1, by go_num, by omega, HR.out⟩
                        case measure => simp [intOf]; omega
                  · obtain rfl : j3 = k := by omega
                    have hk3 : ¬ (j3 : Int) < j3 := by omega
                    clear hr
                    go_wp2_with fail
                    have HPZ := Lib.hid (HP9.out.same (HR.out.same.sub (fun q (hq : q < y7.heap.size) hp => by have := (PO'.out q hp).1; omega)))
                    have HCZ := Lib.hid (HC9.out.same (HR.out.same.sub (fun q hq hp => (PO'.out q hp).2.1 hq)))
                    have KPZ := Lib.hid (KP9.out.same HR.out.same NP.out)
                    have KBZ := Lib.hid (KB.out.same HR.out.same N5.out)
                    have BWZ := Lib.hid HR.out.bel
                    obtain ⟨wz, hwz⟩ : ∃ x, x = wr2 := ⟨_, rfl⟩
                    rw [← hwz] at HPZ HCZ KPZ KBZ BWZ ⊢
                    clear hwz kc HR
                    have MZ : Hid (∀ y, Below wz.heap.size wz y → (fun wz => wz.cell? ⟨bp, 0, none⟩ = some (.int .i64 m0) ∧ wz.cell? ⟨bp, 1, none⟩ = some (.int .i64 m1) ∧ wz.cell? ⟨bp, 2, none⟩ = some (.int .i64 m2) ∧ wz.cell? ⟨bp, 3, none⟩ = some (.slice b1 l1 f1) ∧ wz.cell? ⟨bp, 4, none⟩ = some (.slice b2 l2 f2) ∧ wz.cell? ⟨bp, 5, none⟩ = some (.slice b3 l3 f3) ∧ wz.cell? ⟨b5, 0, none⟩ = some (.int .i64 m0) ∧ wz.cell? ⟨b5, 1, none⟩ = some (.int .i64 m1) ∧ wz.cell? ⟨b5, 2, none⟩ = some (.int .i64 m2) ∧ wz.cell? ⟨b5, 3, none⟩ = some (.slice o1 r1 q1) ∧ wz.cell? ⟨b5, 4, none⟩ = some (.slice o2 r2 q2) ∧ wz.cell? ⟨b5, 5, none⟩ = some (.slice o3 r3 q3)) y) := Lib.hid (fun y hb => ⟨KPZ.out.below hb 0 _ rfl, KPZ.out.below hb 1 _ rfl, KPZ.out.below hb 2 _ rfl, KPZ.out.below hb 3 _ rfl, KPZ.out.below hb 4 _ rfl, KPZ.out.below hb 5 _ rfl, KBZ.out.below hb 0 _ rfl, KBZ.out.below hb 1 _ rfl, KBZ.out.below hb 2 _ rfl, KBZ.out.below hb 3 _ rfl, KBZ.out.below hb 4 _ rfl, KBZ.out.below hb 5 _ rfl⟩)
                    have RP := Lib.hid (fun y => ref_at pc (.slice b1 l1 f1) (.slice b2 l2 f2) (.slice b3 l3 f3) y ⟨_, _, _, _, _, _, _, _, _, rfl, rfl, rfl⟩)
                    have RB := Lib.hid (fun y => ref_at pc (.slice o1 r1 q1) (.slice o2 r2 q2) (.slice o3 r3 q3) y ⟨_, _, _, _, _, _, _, _, _, rfl, rfl, rfl⟩)
                    have SM := Lib.hid (fun y (hb : Below wz.heap.size wz y) => rsame_at pc pc true _ _ _ _ _ _ y (HPZ.out.later hb).weak (HCZ.out.later hb).weak SPC.out SPC.out (by simp))
                    rw [PV.out] at RP RB
                    rw [PV.out, PV.out] at SM
                    refine wp_region_held_drew (S := (fun wz => wz.cell? ⟨bp, 0, none⟩ = some (.int .i64 m0) ∧ wz.cell? ⟨bp, 1, none⟩ = some (.int .i64 m1) ∧ wz.cell? ⟨bp, 2, none⟩ = some (.int .i64 m2) ∧ wz.cell? ⟨bp, 3, none⟩ = some (.slice b1 l1 f1) ∧ wz.cell? ⟨bp, 4, none⟩ = some (.slice b2 l2 f2) ∧ wz.cell? ⟨bp, 5, none⟩ = some (.slice b3 l3 f3) ∧ wz.cell? ⟨b5, 0, none⟩ = some (.int .i64 m0) ∧ wz.cell? ⟨b5, 1, none⟩ = some (.int .i64 m1) ∧ wz.cell? ⟨b5, 2, none⟩ = some (.int .i64 m2) ∧ wz.cell? ⟨b5, 3, none⟩ = some (.slice o1 r1 q1) ∧ wz.cell? ⟨b5, 4, none⟩ = some (.slice o2 r2 q2) ∧ wz.cell? ⟨b5, 5, none⟩ = some (.slice o3 r3 q3))) (by kernel_rfl) ?_ (fun hHeld => ?_)
                    · exact MZ.out _ (below_drewN (Below.refl wz.heap.size wz) 1)
                    obtain ⟨yz, hyz⟩ : ∃ y, y = wz.drew := ⟨_, rfl⟩
                    rw [← hyz] at hHeld ⊢
                    have C0 : Hid (Below wz.heap.size wz yz) := Lib.hid (by rw [hyz]; exact below_drewN (Below.refl wz.heap.size wz) 1)
                    clear hyz
                    refine tq 0 ?_
                    refine tq 2 ?_
                    refine rd 1 fun K hK => ?_
                    go_simp
                    refine (RP.out _).mono ?_
                    rintro e z1 ⟨rfl, hb⟩
                    have C1 := Lib.hid (below_step' C0.out hb)
                    clear hb
                    go_wp2_with fail
                    refine hK.out _ _ ?_ (fun hHeld => ?_)
                    · exact MZ.out _ C1.out
                    clear hK K
                    refine rd 3 fun K hK => ?_
                    go_simp
                    refine (RB.out _).mono ?_
                    rintro e z2 ⟨rfl, hb⟩
                    have C2 := Lib.hid (below_step' C1.out hb)
                    clear hb
                    go_wp2_with fail
                    refine hK.out _ _ ?_ (fun hHeld => ?_)
                    · exact MZ.out _ C2.out
                    clear hK K
                    refine rd 4 fun K hK => ?_
                    go_simp
                    refine (SM.out _ C2.out).mono ?_
                    rintro e z3 ⟨rfl, hb⟩
                    have C3 := Lib.hid (below_step' C2.out hb)
                    clear hb
                    go_wp2_with fail
                    refine hK.out _ _ ?_ (fun hHeld => ?_)
                    · exact MZ.out _ C3.out
                    clear hK K
                    refine tq 5 ?_
                    refine rd 6 fun K hK => ?_
                    go_simp
                    refine (fixed6_any _).mono ?_
                    rintro e z4 ⟨rfl, hb⟩
                    have C4 := Lib.hid (below_step' C3.out hb)
                    clear hb
                    go_wp2_with fail
                    refine hK.out _ _ ?_ (fun hHeld => ?_)
                    · exact MZ.out _ C4.out
                    clear hK K
                    refine tq 7 ?_
                    refine tq 8 ?_
                    refine wpAnyH_done (by kernel_rfl) ?_ _
                    go_wp2_with fail
                    go_ret
                    exact ⟨rfl, below_step' BWZ.out C4.out⟩
    | true =>
      rw [enc_ok hok2] at hc2 hs2
      simp only at hc2 hs2
      subst hc2
      obtain ⟨r, hr1⟩ : ∃ r : Bool, (r = true ↔ pc = qc) := by
        by_cases h : pc = qc
        · exact ⟨true, by simp [h]⟩
        · exact ⟨false, by simp [h]⟩
      have hse : (s1.toList == s2.toList) = r := by
        rw [Bool.eq_iff_iff, hr1, beq_iff_eq, hs1, hs2, toList_data, toList_data, strB_data, strB_data]
        exact ⟨fun h => (nums_apart hok hok2 (rest := []) (by
          obtain ⟨rest, g1, g2⟩ := putsB_pre _ _ [] (nums_in hok) (nums_in hok2) (by rw [h, List.append_nil])
          have g3 := (nums_apart hok hok2 g1).2
          rw [g1, g3])).1, fun h => by rw [h]⟩
      have SM := Lib.hid (fun y (hb : Below wc.heap.size wc y) => rsame_at pc qc r _ _ _ _ _ _ y (HPC.out.later hb) (HQC.out.later hb) SPC.out SQC.out hr1)
      have RP := Lib.hid (fun y => ref_at pc (.slice b1 l1 f1) (.slice b2 l2 f2) (.slice b3 l3 f3) y ⟨_, _, _, _, _, _, _, _, _, rfl, rfl, rfl⟩)
      have RQ := Lib.hid (fun y => ref_at qc (.slice d1 x1 y1) (.slice d2 x2 y2) (.slice d3 x3 y3) y ⟨_, _, _, _, _, _, _, _, _, rfl, rfl, rfl⟩)
      rw [PV.out] at RP
      rw [QV.out] at RQ
      rw [PV.out, QV.out] at SM
      clear hs1 hs2 hok hok2 hr1
      have hrr : (!(r == r)) = false := by simp
      have MK : Hid (∀ wz, Below w4.heap.size w4 wz → (fun wz => wz.cell? ⟨bp, 0, none⟩ = some (.int .i64 m0) ∧ wz.cell? ⟨bp, 1, none⟩ = some (.int .i64 m1) ∧ wz.cell? ⟨bp, 2, none⟩ = some (.int .i64 m2) ∧ wz.cell? ⟨bp, 3, none⟩ = some (.slice b1 l1 f1) ∧ wz.cell? ⟨bp, 4, none⟩ = some (.slice b2 l2 f2) ∧ wz.cell? ⟨bp, 5, none⟩ = some (.slice b3 l3 f3) ∧ wz.cell? ⟨bq, 0, none⟩ = some (.int .i64 k0) ∧ wz.cell? ⟨bq, 1, none⟩ = some (.int .i64 k1) ∧ wz.cell? ⟨bq, 2, none⟩ = some (.int .i64 k2) ∧ wz.cell? ⟨bq, 3, none⟩ = some (.slice d1 x1 y1) ∧ wz.cell? ⟨bq, 4, none⟩ = some (.slice d2 x2 y2) ∧ wz.cell? ⟨bq, 5, none⟩ = some (.slice d3 x3 y3)) wz) := Lib.hid (fun wz hb => by
        have h4 := below_step' B4.out hb
        exact ⟨KPC.out.below h4 0 _ rfl, KPC.out.below h4 1 _ rfl, KPC.out.below h4 2 _ rfl, KPC.out.below h4 3 _ rfl, KPC.out.below h4 4 _ rfl, KPC.out.below h4 5 _ rfl, KQC.out.below h4 0 _ rfl, KQC.out.below h4 1 _ rfl, KQC.out.below h4 2 _ rfl, KQC.out.below h4 3 _ rfl, KQC.out.below h4 4 _ rfl, KQC.out.below h4 5 _ rfl⟩)
      go_upto_region 5 with fail
      refine wp_region_held_drew (S := (fun wz => wz.cell? ⟨bp, 0, none⟩ = some (.int .i64 m0) ∧ wz.cell? ⟨bp, 1, none⟩ = some (.int .i64 m1) ∧ wz.cell? ⟨bp, 2, none⟩ = some (.int .i64 m2) ∧ wz.cell? ⟨bp, 3, none⟩ = some (.slice b1 l1 f1) ∧ wz.cell? ⟨bp, 4, none⟩ = some (.slice b2 l2 f2) ∧ wz.cell? ⟨bp, 5, none⟩ = some (.slice b3 l3 f3) ∧ wz.cell? ⟨bq, 0, none⟩ = some (.int .i64 k0) ∧ wz.cell? ⟨bq, 1, none⟩ = some (.int .i64 k1) ∧ wz.cell? ⟨bq, 2, none⟩ = some (.int .i64 k2) ∧ wz.cell? ⟨bq, 3, none⟩ = some (.slice d1 x1 y1) ∧ wz.cell? ⟨bq, 4, none⟩ = some (.slice d2 x2 y2) ∧ wz.cell? ⟨bq, 5, none⟩ = some (.slice d3 x3 y3))) (by kernel_rfl) ?_ (fun hHeld => ?_)
      · exact MK.out _ (below_drewN (Below.refl w4.heap.size w4) 1)
      obtain ⟨y4, hy4⟩ : ∃ y, y = w4.drew := ⟨_, rfl⟩
      rw [← hy4] at hHeld ⊢
      have BY4 : Hid (Below w4.heap.size w4 y4) := Lib.hid (by rw [hy4]; exact below_drewN (Below.refl w4.heap.size w4) 1)
      clear hy4
      refine tq 0 ?_
      refine tq 1 ?_
      refine tq 2 ?_
      refine tq 3 ?_
      refine tq 4 ?_
      refine tq 5 ?_
      refine tq 6 ?_
      refine tq 7 ?_
      refine tq 8 ?_
      refine tq 9 ?_
      refine tq 10 ?_
      refine tq 12 ?_
      refine rd 11 fun K hK => ?_
      go_simp
      refine (RP.out _).mono ?_
      rintro e w5 ⟨rfl, hb⟩
      have B5 := Lib.hid (below_step' BY4.out hb)
      clear hb
      go_wp2_with fail
      refine hK.out _ _ ?_ (fun hHeld => ?_)
      · exact MK.out _ B5.out
      clear hK K
      refine rd 13 fun K hK => ?_
      go_simp
      refine (RQ.out _).mono ?_
      rintro e w6 ⟨rfl, hb⟩
      have B6 := Lib.hid (below_step' B5.out hb)
      clear hb
      go_wp2_with fail
      refine hK.out _ _ ?_ (fun hHeld => ?_)
      · exact MK.out _ B6.out
      clear hK K
      refine rd 14 fun K hK => ?_
      go_simp
      refine (SM.out _ (below_step' B4.out B6.out)).mono ?_
      rintro e w7 ⟨rfl, hb⟩
      have B7 := Lib.hid (below_step' B4.out (below_step' B6.out hb))
      have B47 := Lib.hid (below_step' B6.out hb)
      clear hb
      go_wp2_with fail
      refine hK.out _ _ ?_ (fun hHeld => ?_)
      · exact MK.out _ B47.out
      clear hK K
      refine tq 15 ?_
      refine tq 16 ?_
      refine wpAnyH_done (by kernel_rfl) ?_ _
      clear SM RP RQ MK hHeld
      go_upto_region 7 with fail
      have OW := Lib.hid (fun y (hb : Below wc.heap.size wc y) => own_at pc _ _ _ y (HPC.out.later hb) SPC.out)
      have CU : Hid (∀ y, Below wc.heap.size wc y → Calls Try.prog 9 #[pcv pc (.slice b1 l1 f1) (.slice b2 l2 f2) (.slice b3 l3 f3)] y fun e w' => ∃ v1 v2 v3, e = .returned (pcv pc v1 v2 v3) ∧ HoldsL False (fun q => y.heap.size ≤ q) w' [v1, v2, v3] pc.d ∧ Below y.heap.size y w') := Lib.hid (fun y hb => by
        have h := cut_at pc _ _ _ y (HPC.out.later hb)
        unfold CutTold at h
        rwa [IDP.out] at h)
      rw [PV.out] at OW CU
      have MS : Hid (∀ wz, Below w7.heap.size w7 wz → (fun wz => wz.cell? ⟨bp, 0, none⟩ = some (.int .i64 m0) ∧ wz.cell? ⟨bp, 1, none⟩ = some (.int .i64 m1) ∧ wz.cell? ⟨bp, 2, none⟩ = some (.int .i64 m2) ∧ wz.cell? ⟨bp, 3, none⟩ = some (.slice b1 l1 f1) ∧ wz.cell? ⟨bp, 4, none⟩ = some (.slice b2 l2 f2) ∧ wz.cell? ⟨bp, 5, none⟩ = some (.slice b3 l3 f3)) wz) := Lib.hid (fun wz hb => by
        have h4 := below_step' B7.out hb
        exact ⟨KPC.out.below h4 0 _ rfl, KPC.out.below h4 1 _ rfl, KPC.out.below h4 2 _ rfl, KPC.out.below h4 3 _ rfl, KPC.out.below h4 4 _ rfl, KPC.out.below h4 5 _ rfl⟩)
      refine wp_region_held_drew (S := (fun wz => wz.cell? ⟨bp, 0, none⟩ = some (.int .i64 m0) ∧ wz.cell? ⟨bp, 1, none⟩ = some (.int .i64 m1) ∧ wz.cell? ⟨bp, 2, none⟩ = some (.int .i64 m2) ∧ wz.cell? ⟨bp, 3, none⟩ = some (.slice b1 l1 f1) ∧ wz.cell? ⟨bp, 4, none⟩ = some (.slice b2 l2 f2) ∧ wz.cell? ⟨bp, 5, none⟩ = some (.slice b3 l3 f3))) (by kernel_rfl) ?_ (fun hHeld => ?_)
      · exact MS.out _ (below_drewN (Below.refl w7.heap.size w7) 1)
      obtain ⟨y7, hy7⟩ : ∃ y, y = w7.drew := ⟨_, rfl⟩
      rw [← hy7] at hHeld ⊢
      have BY7 : Hid (Below w7.heap.size w7 y7) := Lib.hid (by rw [hy7]; exact below_drewN (Below.refl w7.heap.size w7) 1)
      have BC7 := Lib.hid (below_step' B7.out BY7.out)
      clear hy7
      refine tq 0 ?_
      refine tq 2 ?_
      refine wpAnyH_group (S := (fun wz => wz.cell? ⟨bp, 0, none⟩ = some (.int .i64 m0) ∧ wz.cell? ⟨bp, 1, none⟩ = some (.int .i64 m1) ∧ wz.cell? ⟨bp, 2, none⟩ = some (.int .i64 m2) ∧ wz.cell? ⟨bp, 3, none⟩ = some (.slice b1 l1 f1) ∧ wz.cell? ⟨bp, 4, none⟩ = some (.slice b2 l2 f2) ∧ wz.cell? ⟨bp, 5, none⟩ = some (.slice b3 l3 f3))) (n := 2) [1, 3, 4, 5] 6 (ph7 pc y7) (ps7 pc y7) (by kernel_rfl) (by kernel_rfl) (by kernel_rfl) (by kernel_rfl) (by kernel_rfl) (fun _ _ _ _ h hb => ph7_mono h hb) (fun _ _ _ _ _ _ h hb => ps7_mono h hb) ?step2 hHeld ?fin2
      case step2 =>
        intro g hg o ho D vs a wx hD hgD hφ hψ hSx hbx hfr hdep K hK
        have BX := below_step' BC7.out hbx
        have hwz := hbx.size
        have SX : ∀ w', Below wx.heap.size wx w' → (fun wz => wz.cell? ⟨bp, 0, none⟩ = some (.int .i64 m0) ∧ wz.cell? ⟨bp, 1, none⟩ = some (.int .i64 m1) ∧ wz.cell? ⟨bp, 2, none⟩ = some (.int .i64 m2) ∧ wz.cell? ⟨bp, 3, none⟩ = some (.slice b1 l1 f1) ∧ wz.cell? ⟨bp, 4, none⟩ = some (.slice b2 l2 f2) ∧ wz.cell? ⟨bp, 5, none⟩ = some (.slice b3 l3 f3)) w' := fun w' hb => MS.out _ (below_step' (below_step' BY7.out hbx) hb)
        have PS : ∀ (g : Nat) (v : Value) (w' : World), In7 g pc (fun q => wx.heap.size ≤ q) v w' → Below wx.heap.size wx w' → ∀ h ∈ D, ps7 pc y7 g h v (vs h) w' := fun g v w' hv hb h hh =>
          ⟨wx.heap.size, hv, (In7.wide (P' := fun q => q < wx.heap.size) (hφ h hh) (fun q hq _ => hq)).later hb⟩
        simp only [List.mem_cons, List.not_mem_nil, or_false] at hg
        rcases hg with rfl | rfl | rfl | rfl
        · obtain rfl := Option.some.inj (show some _ = some o from ho)
          have t47 : a.tmps[47]? = _ := (hfr 47 (by decide)).trans rfl
          clear hψ hφ hdep hfr
          go_simp
          refine (OW.out _ BX).mono ?_
          rintro e w' ⟨ua, ub, uc, rfl, hU, hb⟩
          exact hK.out _ _ (SX _ hb) (in7_1.2 ⟨_, _, _, rfl, hU.wide (fun q _ (hq : wx.heap.size ≤ q) => Nat.le_trans hwz hq)⟩) (PS 1 _ _ (in7_1.2 ⟨_, _, _, rfl, hU⟩) hb) hb
        · obtain rfl := Option.some.inj (show some _ = some o from ho)
          have t49 : a.tmps[49]? = _ := (hfr 49 (by decide)).trans rfl
          clear hψ hφ hdep hfr
          go_simp
          refine (CU.out _ BX).mono ?_
          rintro e w' ⟨ua, ub, uc, rfl, hU, hb⟩
          exact hK.out _ _ (SX _ hb) (in7_3.2 ⟨_, _, _, rfl, hU.wide (fun q _ (hq : wx.heap.size ≤ q) => Nat.le_trans hwz hq)⟩) (PS 3 _ _ (in7_3.2 ⟨_, _, _, rfl, hU⟩) hb) hb
        · obtain rfl := Option.some.inj (show some _ = some o from ho)
          clear hψ hφ hdep hfr
          go_simp
          have hbn := below_new wx (.cells #[.int .i64 0, .int .i64 0, .int .i64 0, .slice none 0 0, .slice none 0 0, .slice none 0 0] 26)
          have hi : In7 4 pc (fun q => wx.heap.size ≤ q) (.pointer (some ⟨wx.heap.size, 0, none⟩)) (wx.alloc (.cells #[.int .i64 0, .int .i64 0, .int .i64 0, .slice none 0 0, .slice none 0 0, .slice none 0 0] 26)) := (in7_b (by decide) (by decide)).2 ⟨_, rfl, Nat.le_refl _, by simp, boxAt_new wx Z6 _, fun i => frozen_new wx _ _ i⟩
          exact hK.out _ _ (SX _ hbn) (hi.wide (fun q _ (hq : wx.heap.size ≤ q) => Nat.le_trans hwz hq)) (PS 4 _ _ hi hbn) hbn
        · obtain rfl := Option.some.inj (show some _ = some o from ho)
          clear hψ hφ hdep hfr
          go_simp
          have hbn := below_new wx (.cells #[.int .i64 0, .int .i64 0, .int .i64 0, .slice none 0 0, .slice none 0 0, .slice none 0 0] 26)
          have hi : In7 5 pc (fun q => wx.heap.size ≤ q) (.pointer (some ⟨wx.heap.size, 0, none⟩)) (wx.alloc (.cells #[.int .i64 0, .int .i64 0, .int .i64 0, .slice none 0 0, .slice none 0 0, .slice none 0 0] 26)) := (in7_b (by decide) (by decide)).2 ⟨_, rfl, Nat.le_refl _, by simp, boxAt_new wx Z6 _, fun i => frozen_new wx _ _ i⟩
          exact hK.out _ _ (SX _ hbn) (hi.wide (fun q _ (hq : wx.heap.size ≤ q) => Nat.le_trans hwz hq)) (PS 5 _ _ hi hbn) hbn
      case fin2 =>
        intro vs wx hSx hbx hφ hψ
        obtain ⟨PO, PC, b4, b5, u1, u2, u3, t1, t2, t3, g1, g3, g4, g5, hO, hC, pO, pC, hne, hbb, hkk, hz4, hz5⟩ := fin7 (hφ 1 (by simp)) (hφ 3 (by simp)) (hφ 4 (by simp)) (hφ 5 (by simp)) (hψ 1 (by simp) 3 (by simp) (by decide)) (hψ 1 (by simp) 4 (by simp) (by decide)) (hψ 1 (by simp) 5 (by simp) (by decide)) (hψ 3 (by simp) 4 (by simp) (by decide)) (hψ 3 (by simp) 5 (by simp) (by decide)) (hψ 4 (by simp) 5 (by simp) (by decide))
        obtain ⟨i1, i2, i3, j1, j2, j3, s1, s2, s3, ee1, ee2, ee3⟩ := pc_slices hO.weak
        subst ee1
        subst ee2
        subst ee3
        obtain ⟨o1, o2, o3, r1, r2, r3, q1, q2, q3, ee1, ee2, ee3⟩ := pc_slices hC.weak
        subst ee1
        subst ee2
        subst ee3
        change wpAnyH _ _ _ _ _ _ _ (((((_ : Act).put (some 48) (vs 1)).put (some 50) (vs 3)).put (some 9) (vs 4)).put (some 10) (vs 5)) _
        rw [g1, g3, g4, g5, PV.out, PV.out]
        try simp only [Act.put, List.getElem_toArray, List.getElem_cons_zero, List.getElem_cons_succ, List.setIfInBounds_toArray, List.set_cons_zero, List.set_cons_succ]
        have HO := Lib.hid hO
        have HC := Lib.hid hC
        have PO' := Lib.hid pO
        have PC' := Lib.hid pC
        have NE := Lib.hid hne
        have BB := Lib.hid hbb
        have K4 := Lib.hid hkk.1
        have K5 := Lib.hid hkk.2
        have Z4 := Lib.hid hz4
        have Z5 := Lib.hid hz5
        have BX := Lib.hid (below_step' BC7.out hbx)
        have MX := Lib.hid (MS.out _ (below_step' BY7.out hbx))
        have CL : Hid (bp < y7.heap.size) := Lib.hid (World.block_lt_of_cell? y7 _ (KPC.out.below BC7.out 0 _ rfl))
        have BYX := Lib.hid hbx
        clear hφ hψ hO hC pO pC hne hbb hkk hz4 hz5 g1 g3 g4 g5 hbx hSx
        refine rd 6 fun K hK => ?_
        have z0 : wx.cell? ⟨b4, 0, none⟩ = some (.int .i64 0) := K4.out 0 _ rfl
        have z1 : wx.cell? ⟨b4, 1, none⟩ = some (.int .i64 0) := K4.out 1 _ rfl
        have z2 : wx.cell? ⟨b4, 2, none⟩ = some (.int .i64 0) := K4.out 2 _ rfl
        have z3 : wx.cell? ⟨b4, 3, none⟩ = some (.slice none 0 0) := K4.out 3 _ rfl
        have z4 : wx.cell? ⟨b4, 4, none⟩ = some (.slice none 0 0) := K4.out 4 _ rfl
        have z5 : wx.cell? ⟨b4, 5, none⟩ = some (.slice none 0 0) := K4.out 5 _ rfl
        have x0 := Z4.out 0
        have x1 := Z4.out 1
        have x2 := Z4.out 2
        have x3 := Z4.out 3
        have x4 := Z4.out 4
        have x5 := Z4.out 5
        obtain ⟨w8, hw8⟩ : ∃ x, x = set6 wx b4 (.int .i64 m0) (.int .i64 m1) (.int .i64 m2) (.slice i1 j1 s1) (.slice i2 j2 s2) (.slice i3 j3 s3) := ⟨_, rfl⟩
        have YL : Hid (w.heap.size ≤ y7.heap.size) := Lib.hid (below_step' BC.out BC7.out).size
        have K8 : Hid (BoxAt b4 [.int .i64 m0, .int .i64 m1, .int .i64 m2, .slice i1 j1 s1, .slice i2 j2 s2, .slice i3 j3 s3] w8) := Lib.hid (by rw [hw8]; exact box_set6 K4.out)
        have K58 : Hid (BoxAt b5 Z6 w8) := Lib.hid (by rw [hw8]; exact K5.out.same (P := fun k => k ≠ b4) (set6_same (fun h => h rfl)) (fun e => NE.out e.symm))
        have Z58 : Hid (∀ i, w8.frozen? ⟨b5, i, none⟩ = false) := Lib.hid (fun i => by rw [hw8]; unfold set6; simp only [World.frozen?_setCell]; exact Z5.out i)
        have HO8 : Hid (HoldsL True PO w8 [.slice i1 j1 s1, .slice i2 j2 s2, .slice i3 j3 s3] pc.d) := Lib.hid (by rw [hw8]; exact HO.out.same (set6_same (fun h => (PO'.out b4 h).2.2.1 rfl)))
        have HC8 : Hid (HoldsL False PC w8 [.slice o1 r1 q1, .slice o2 r2 q2, .slice o3 r3 q3] pc.d) := Lib.hid (by rw [hw8]; exact HC.out.same (set6_same (fun h => (PC'.out b4 h).2.1 rfl)))
        have KP8 : Hid (BoxAt bp [.int .i64 m0, .int .i64 m1, .int .i64 m2, .slice b1 l1 f1, .slice b2 l2 f2, .slice b3 l3 f3] w8) := Lib.hid (by rw [hw8]; exact (KPC.out.below BX.out).same (P := fun k => k ≠ b4) (set6_same (fun h => h rfl)) (fun e => by have := CL.out; have := BB.out.1; omega))
        have HP8 : Hid (HoldsL False (fun k => k < y7.heap.size) w8 [.slice b1 l1 f1, .slice b2 l2 f2, .slice b3 l3 f3] pc.d) := Lib.hid (by
          rw [hw8]
          exact (((HPC.out.later BC7.out).wide (P' := fun k => k < y7.heap.size) (fun k hk _ => hk)).later BYX.out).same (set6_same (fun (h : b4 < y7.heap.size) => by have := BB.out.1; omega)))
        have BW8 : Hid (Below w.heap.size w w8) := Lib.hid (by rw [hw8]; exact set6_below (below_step' BC.out BX.out) (Nat.le_trans YL.out BB.out.1))
        go_simp
        rw [show ((((((wx.setCell ⟨b4, 0, none⟩ (.int .i64 m0)).setCell ⟨b4, 1, none⟩ (.int .i64 m1)).setCell ⟨b4, 2, none⟩ (.int .i64 m2)).setCell ⟨b4, 3, none⟩ (.slice i1 j1 s1)).setCell ⟨b4, 4, none⟩ (.slice i2 j2 s2)).setCell ⟨b4, 5, none⟩ (.slice i3 j3 s3)) = w8 from hw8.symm]
        clear hw8 z0 z1 z2 z3 z4 z5 x0 x1 x2 x3 x4 x5 K4 K5 Z4 Z5 HO HC BX BYX MX
        refine hK.out _ _ ?_ (fun hHeld => ?_)
        · exact ⟨KP8.out 0 _ rfl, KP8.out 1 _ rfl, KP8.out 2 _ rfl, KP8.out 3 _ rfl, KP8.out 4 _ rfl, KP8.out 5 _ rfl⟩
        clear hK K
        refine rd 7 fun K hK => ?_
        have z0 : w8.cell? ⟨b5, 0, none⟩ = some (.int .i64 0) := K58.out 0 _ rfl
        have z1 : w8.cell? ⟨b5, 1, none⟩ = some (.int .i64 0) := K58.out 1 _ rfl
        have z2 : w8.cell? ⟨b5, 2, none⟩ = some (.int .i64 0) := K58.out 2 _ rfl
        have z3 : w8.cell? ⟨b5, 3, none⟩ = some (.slice none 0 0) := K58.out 3 _ rfl
        have z4 : w8.cell? ⟨b5, 4, none⟩ = some (.slice none 0 0) := K58.out 4 _ rfl
        have z5 : w8.cell? ⟨b5, 5, none⟩ = some (.slice none 0 0) := K58.out 5 _ rfl
        have x0 := Z58.out 0
        have x1 := Z58.out 1
        have x2 := Z58.out 2
        have x3 := Z58.out 3
        have x4 := Z58.out 4
        have x5 := Z58.out 5
        obtain ⟨w9, hw9⟩ : ∃ x, x = set6 w8 b5 (.int .i64 m0) (.int .i64 m1) (.int .i64 m2) (.slice o1 r1 q1) (.slice o2 r2 q2) (.slice o3 r3 q3) := ⟨_, rfl⟩
        have KB : Hid (BoxAt b5 [.int .i64 m0, .int .i64 m1, .int .i64 m2, .slice o1 r1 q1, .slice o2 r2 q2, .slice o3 r3 q3] w9) := Lib.hid (by rw [hw9]; exact box_set6 K58.out)
        have KA : Hid (BoxAt b4 [.int .i64 m0, .int .i64 m1, .int .i64 m2, .slice i1 j1 s1, .slice i2 j2 s2, .slice i3 j3 s3] w9) := Lib.hid (by rw [hw9]; exact K8.out.same (P := fun k => k ≠ b5) (set6_same (fun h => h rfl)) NE.out)
        have HO9 : Hid (HoldsL True PO w9 [.slice i1 j1 s1, .slice i2 j2 s2, .slice i3 j3 s3] pc.d) := Lib.hid (by rw [hw9]; exact HO8.out.same (set6_same (fun h => (PO'.out b5 h).2.2.2 rfl)))
        have HC9 : Hid (HoldsL False PC w9 [.slice o1 r1 q1, .slice o2 r2 q2, .slice o3 r3 q3] pc.d) := Lib.hid (by rw [hw9]; exact HC8.out.same (set6_same (fun h => (PC'.out b5 h).2.2 rfl)))
        have KP9 : Hid (BoxAt bp [.int .i64 m0, .int .i64 m1, .int .i64 m2, .slice b1 l1 f1, .slice b2 l2 f2, .slice b3 l3 f3] w9) := Lib.hid (by rw [hw9]; exact KP8.out.same (P := fun k => k ≠ b5) (set6_same (fun h => h rfl)) (fun e => by have := CL.out; have := BB.out.2; omega))
        have HP9 : Hid (HoldsL False (fun k => k < y7.heap.size) w9 [.slice b1 l1 f1, .slice b2 l2 f2, .slice b3 l3 f3] pc.d) := Lib.hid (by
          rw [hw9]
          exact HP8.out.same (set6_same (fun (h : b5 < y7.heap.size) => by have := BB.out.2; omega)))
        have BW9 : Hid (Below w.heap.size w w9) := Lib.hid (by rw [hw9]; exact set6_below BW8.out (Nat.le_trans YL.out BB.out.2))
        go_simp
        rw [show ((((((w8.setCell ⟨b5, 0, none⟩ (.int .i64 m0)).setCell ⟨b5, 1, none⟩ (.int .i64 m1)).setCell ⟨b5, 2, none⟩ (.int .i64 m2)).setCell ⟨b5, 3, none⟩ (.slice o1 r1 q1)).setCell ⟨b5, 4, none⟩ (.slice o2 r2 q2)).setCell ⟨b5, 5, none⟩ (.slice o3 r3 q3)) = w9 from hw9.symm]
        clear hw9 z0 z1 z2 z3 z4 z5 x0 x1 x2 x3 x4 x5 K58 Z58 K8 HO8 HC8 HP8 BW8
        refine hK.out _ _ ?_ (fun hHeld => ?_)
        · exact ⟨KP9.out 0 _ rfl, KP9.out 1 _ rfl, KP9.out 2 _ rfl, KP9.out 3 _ rfl, KP9.out 4 _ rfl, KP9.out 5 _ rfl⟩
        clear hK K KP8 hHeld
        refine wpAnyH_done (by kernel_rfl) ?_ _
        obtain ⟨F1, F2, F3, hF, hd1, hd2, H1, H2, H3⟩ := holdsL3 (d1 := dInts pc.sent) (d2 := dLls pc.inn) (d3 := dIls pc.out) HO9.out
        have AP : Hid (Apart3 w.heap.size PO F1 F2 F3) := Lib.hid ⟨fun k h => Nat.le_trans YL.out (PO'.out k h).1, fun k h => (hF k h).1, hd1, hd2⟩
        have hl1 := ints_len H1
        have hl2 := lls_len H2
        have hl3 : j3 = pc.out.length := by have h := Holds.len H3; obtain ⟨_, _, e'⟩ := h; rw [List.length_map] at e'; cases e'; rfl
        have SD : Hid (SdI w w9 PO F1 F2 F3 (.slice i1 j1 s1) (.slice i2 j2 s2) (.slice i3 j3 s3) j1 j2 j3 w9) := Lib.hid ⟨BW9.out, SameOn.refl _ _, ⟨_, hl1.symm, H1⟩, ⟨_, hl2.symm, fun m hm => by
            rw [PCD.out] at hm
            obtain ⟨x, _, rfl⟩ := List.mem_map.1 hm
            exact List.length_take_le 20 x, H2⟩, ⟨_, hl3.symm, fun m hm => by
            rw [PCD.out] at hm
            obtain ⟨x, _, rfl⟩ := List.mem_map.1 hm
            exact List.length_take_le 20 x, H3⟩⟩
        have hj1 : j1 ≤ 1000000 := by rw [hl1]; exact SPC.out.s
        have hj2 : j2 ≤ 1000000 := by rw [hl2]; exact SPC.out.i
        have hj3 : j3 ≤ 1000000 := by rw [hl3]; exact SPC.out.o
        have N4 : Hid (¬ PO b4) := Lib.hid (fun h => (PO'.out b4 h).2.2.1 rfl)
        have N5 : Hid (¬ PO b5) := Lib.hid (fun h => (PO'.out b5 h).2.2.2 rfl)
        have NP : Hid (¬ PO bp) := Lib.hid (fun h => by have := (PO'.out bp h).1; have := CL.out; omega)
        clear hF hd1 hd2 H1 H2 H3 hl1 hl2 hl3 HO9
        go_wp2_with fail
        go_loopw [11] (fun i wr => ∃ k : Nat, i = .int .i64 k ∧ k ≤ j1 ∧ SdI w w9 PO F1 F2 F3 (.slice i1 j1 s1) (.slice i2 j2 s2) (.slice i3 j3 s3) j1 j2 j3 wr) (fun i _ => j1 - (intOf i).toNat)
        case atStart => exact ⟨0, rfl, by omega, SD.out⟩
        case round =>
          obtain ⟨k, rfl, hk, hr⟩ := hrel
          obtain ⟨wr1, hw1⟩ : ∃ x, x = wr := ⟨_, rfl⟩
          subst hw1
          have HR := Lib.hid hr
          have kc := (KA.out.same hr.same N4.out) 3 _ rfl
          clear SD
          by_cases hlt : k < j1
          · obtain ⟨g, x, e, en, hc, hf, hset⟩ := hr.set1 AP.out hlt
            have HS := Lib.hid (hset 99)
            subst e
            clear hset hr
            have hlt' : (k : Int) < j1 := by omega
            go_wp2_with fail
            go_roundw
            case rel => exact ⟨k + 1, by go_num, by omega, HS.out⟩
            case measure => simp [intOf]; omega
          · obtain rfl : j1 = k := by omega
            have hk3 : ¬ (j1 : Int) < j1 := by omega
            clear hr
            go_wp2_with fail
            clear kc hk3 hlt hk
            go_loopw [12] (fun i wr => ∃ k : Nat, i = .int .i64 k ∧ k ≤ j2 ∧ SdI w w9 PO F1 F2 F3 (.slice i1 j1 s1) (.slice i2 j2 s2) (.slice i3 j3 s3) j1 j2 j3 wr) (fun i _ => j2 - (intOf i).toNat)
            case atStart => exact ⟨0, rfl, by omega, HR.out⟩
            case round =>
              clear HR
              obtain ⟨k, rfl, hk, hr⟩ := hrel
              obtain ⟨wr2, hw2⟩ : ∃ x, x = wr := ⟨_, rfl⟩
              subst hw2
              have HR := Lib.hid hr
              have kc := (KA.out.same hr.same N4.out) 4 _ rfl
              by_cases hlt : k < j2
              · obtain ⟨g, mk, mc, ma, e, en, hc, h20⟩ := hr.open2 hlt
                subst e
                have HCL := Lib.hid hc
                clear hr
                have hlt' : (k : Int) < j2 := by omega
                go_wp2_with fail
                clear kc hc
                go_loopw [13] (fun i wr => ∃ t : Nat, i = .int .i64 t ∧ t ≤ mk ∧ SdI w w9 PO F1 F2 F3 (.slice i1 j1 s1) (.slice (some ⟨g, 0, none⟩) j2 s2) (.slice i3 j3 s3) j1 j2 j3 wr ∧ wr.cell? ⟨g, k, none⟩ = some (.slice ma mk mc)) (fun i _ => mk - (intOf i).toNat)
                case atStart => exact ⟨0, rfl, by omega, HR.out, HCL.out⟩
                case round =>
                  clear HR HCL
                  obtain ⟨t, rfl, ht, hr, hc⟩ := hrel
                  obtain ⟨wr3, hw3⟩ : ∃ x, x = wr := ⟨_, rfl⟩
                  subst hw3
                  have HR := Lib.hid hr
                  have kc := (KA.out.same hr.same N4.out) 4 _ rfl
                  by_cases hlt2 : t < mk
                  · obtain ⟨b, x, x', e, c1, c2, fz, hset⟩ := hr.set2 AP.out hlt hc hlt2
                    subst e
                    have HS := Lib.hid (hset 99 0)
                    clear hset hr
                    have hlt2' : (t : Int) < mk := by omega
                    go_wp2_with fail
                    go_roundw
                    case rel => exact ⟨t + 1, by go_num, by omega, HS.out.1, HS.out.2⟩
                    case measure => simp [intOf]; omega
                  · obtain rfl : mk = t := by omega
                    have ht3 : ¬ (mk : Int) < mk := by omega
                    clear hr
                    go_wp2_with fail
                    go_roundw
                    case rel => exact ⟨k + 1, by go_num, by omega, HR.out⟩
                    case measure => simp [intOf]; omega
              · obtain rfl : j2 = k := by omega
                have hk3 : ¬ (j2 : Int) < j2 := by omega
                clear hr
                go_wp2_with fail
                clear kc
                go_loopw [14] (fun i wr => ∃ k : Nat, i = .int .i64 k ∧ k ≤ j3 ∧ SdI w w9 PO F1 F2 F3 (.slice i1 j1 s1) (.slice i2 j2 s2) (.slice i3 j3 s3) j1 j2 j3 wr) (fun i _ => j3 - (intOf i).toNat)
                case atStart => exact ⟨0, rfl, by omega, HR.out⟩
                case round =>
                  clear HR
                  obtain ⟨k, rfl, hk, hr⟩ := hrel
                  obtain ⟨wr2, hw2⟩ : ∃ x, x = wr := ⟨_, rfl⟩
                  subst hw2
                  have HR := Lib.hid hr
                  have kc := (KA.out.same hr.same N4.out) 5 _ rfl
                  by_cases hlt : k < j3
                  · obtain ⟨g, mk, mc, ma, e, en, hc, h20⟩ := hr.open3 hlt
                    subst e
                    have HCL := Lib.hid hc
                    clear hr
                    have hlt' : (k : Int) < j3 := by omega
                    go_wp2_with fail
                    clear kc hc
                    go_loopw [15] (fun i wr => ∃ t : Nat, i = .int .i64 t ∧ t ≤ mk ∧ SdI w w9 PO F1 F2 F3 (.slice i1 j1 s1) (.slice i2 j2 s2) (.slice (some ⟨g, 0, none⟩) j3 s3) j1 j2 j3 wr ∧ wr.cell? ⟨g, k, none⟩ = some (.slice ma mk mc)) (fun i _ => mk - (intOf i).toNat)
                    case atStart => exact ⟨0, rfl, by omega, HR.out, HCL.out⟩
                    case round =>
                      clear HR HCL
                      obtain ⟨t, rfl, ht, hr, hc⟩ := hrel
                      obtain ⟨wr3, hw3⟩ : ∃ x, x = wr := ⟨_, rfl⟩
                      subst hw3
                      have HR := Lib.hid hr
                      have kc := (KA.out.same hr.same N4.out) 5 _ rfl
                      by_cases hlt2 : t < mk
                      · obtain ⟨b, x, e, c1, fz, hset⟩ := hr.set3 AP.out hlt hc hlt2
                        subst e
                        have HS := Lib.hid (hset 99)
                        clear hset hr
                        have hlt2' : (t : Int) < mk := by omega
                        go_wp2_with fail
                        go_roundw
                        case rel => exact ⟨t + 1, by go_num, by omega, HS.out.1, HS.out.2⟩
                        case measure => simp [intOf]; omega
                      · obtain rfl : mk = t := by omega
                        have ht3 : ¬ (mk : Int) < mk := by omega
                        clear hr
                        go_wp2_with fail
                        go_roundw
                        case rel => exact ⟨k + 1, by go_num, by omega, HR.out⟩
                        case measure => simp [intOf]; omega
                  · obtain rfl : j3 = k := by omega
                    have hk3 : ¬ (j3 : Int) < j3 := by omega
                    clear hr
                    go_wp2_with fail
                    have HPZ := Lib.hid (HP9.out.same (HR.out.same.sub (fun q (hq : q < y7.heap.size) hp => by have := (PO'.out q hp).1; omega)))
                    have HCZ := Lib.hid (HC9.out.same (HR.out.same.sub (fun q hq hp => (PO'.out q hp).2.1 hq)))
                    have KPZ := Lib.hid (KP9.out.same HR.out.same NP.out)
                    have KBZ := Lib.hid (KB.out.same HR.out.same N5.out)
                    have BWZ := Lib.hid HR.out.bel
                    obtain ⟨wz, hwz⟩ : ∃ x, x = wr2 := ⟨_, rfl⟩
                    rw [← hwz] at HPZ HCZ KPZ KBZ BWZ ⊢
                    clear hwz kc HR
                    have MZ : Hid (∀ y, Below wz.heap.size wz y → (fun wz => wz.cell? ⟨bp, 0, none⟩ = some (.int .i64 m0) ∧ wz.cell? ⟨bp, 1, none⟩ = some (.int .i64 m1) ∧ wz.cell? ⟨bp, 2, none⟩ = some (.int .i64 m2) ∧ wz.cell? ⟨bp, 3, none⟩ = some (.slice b1 l1 f1) ∧ wz.cell? ⟨bp, 4, none⟩ = some (.slice b2 l2 f2) ∧ wz.cell? ⟨bp, 5, none⟩ = some (.slice b3 l3 f3) ∧ wz.cell? ⟨b5, 0, none⟩ = some (.int .i64 m0) ∧ wz.cell? ⟨b5, 1, none⟩ = some (.int .i64 m1) ∧ wz.cell? ⟨b5, 2, none⟩ = some (.int .i64 m2) ∧ wz.cell? ⟨b5, 3, none⟩ = some (.slice o1 r1 q1) ∧ wz.cell? ⟨b5, 4, none⟩ = some (.slice o2 r2 q2) ∧ wz.cell? ⟨b5, 5, none⟩ = some (.slice o3 r3 q3)) y) := Lib.hid (fun y hb => ⟨KPZ.out.below hb 0 _ rfl, KPZ.out.below hb 1 _ rfl, KPZ.out.below hb 2 _ rfl, KPZ.out.below hb 3 _ rfl, KPZ.out.below hb 4 _ rfl, KPZ.out.below hb 5 _ rfl, KBZ.out.below hb 0 _ rfl, KBZ.out.below hb 1 _ rfl, KBZ.out.below hb 2 _ rfl, KBZ.out.below hb 3 _ rfl, KBZ.out.below hb 4 _ rfl, KBZ.out.below hb 5 _ rfl⟩)
                    have RP := Lib.hid (fun y => ref_at pc (.slice b1 l1 f1) (.slice b2 l2 f2) (.slice b3 l3 f3) y ⟨_, _, _, _, _, _, _, _, _, rfl, rfl, rfl⟩)
                    have RB := Lib.hid (fun y => ref_at pc (.slice o1 r1 q1) (.slice o2 r2 q2) (.slice o3 r3 q3) y ⟨_, _, _, _, _, _, _, _, _, rfl, rfl, rfl⟩)
                    have SM := Lib.hid (fun y (hb : Below wz.heap.size wz y) => rsame_at pc pc true _ _ _ _ _ _ y (HPZ.out.later hb).weak (HCZ.out.later hb).weak SPC.out SPC.out (by simp))
                    rw [PV.out] at RP RB
                    rw [PV.out, PV.out] at SM
                    refine wp_region_held_drew (S := (fun wz => wz.cell? ⟨bp, 0, none⟩ = some (.int .i64 m0) ∧ wz.cell? ⟨bp, 1, none⟩ = some (.int .i64 m1) ∧ wz.cell? ⟨bp, 2, none⟩ = some (.int .i64 m2) ∧ wz.cell? ⟨bp, 3, none⟩ = some (.slice b1 l1 f1) ∧ wz.cell? ⟨bp, 4, none⟩ = some (.slice b2 l2 f2) ∧ wz.cell? ⟨bp, 5, none⟩ = some (.slice b3 l3 f3) ∧ wz.cell? ⟨b5, 0, none⟩ = some (.int .i64 m0) ∧ wz.cell? ⟨b5, 1, none⟩ = some (.int .i64 m1) ∧ wz.cell? ⟨b5, 2, none⟩ = some (.int .i64 m2) ∧ wz.cell? ⟨b5, 3, none⟩ = some (.slice o1 r1 q1) ∧ wz.cell? ⟨b5, 4, none⟩ = some (.slice o2 r2 q2) ∧ wz.cell? ⟨b5, 5, none⟩ = some (.slice o3 r3 q3))) (by kernel_rfl) ?_ (fun hHeld => ?_)
                    · exact MZ.out _ (below_drewN (Below.refl wz.heap.size wz) 1)
                    obtain ⟨yz, hyz⟩ : ∃ y, y = wz.drew := ⟨_, rfl⟩
                    rw [← hyz] at hHeld ⊢
                    have C0 : Hid (Below wz.heap.size wz yz) := Lib.hid (by rw [hyz]; exact below_drewN (Below.refl wz.heap.size wz) 1)
                    clear hyz
                    refine tq 0 ?_
                    refine tq 2 ?_
                    refine rd 1 fun K hK => ?_
                    go_simp
                    refine (RP.out _).mono ?_
                    rintro e z1 ⟨rfl, hb⟩
                    have C1 := Lib.hid (below_step' C0.out hb)
                    clear hb
                    go_wp2_with fail
                    refine hK.out _ _ ?_ (fun hHeld => ?_)
                    · exact MZ.out _ C1.out
                    clear hK K
                    refine rd 3 fun K hK => ?_
                    go_simp
                    refine (RB.out _).mono ?_
                    rintro e z2 ⟨rfl, hb⟩
                    have C2 := Lib.hid (below_step' C1.out hb)
                    clear hb
                    go_wp2_with fail
                    refine hK.out _ _ ?_ (fun hHeld => ?_)
                    · exact MZ.out _ C2.out
                    clear hK K
                    refine rd 4 fun K hK => ?_
                    go_simp
                    refine (SM.out _ C2.out).mono ?_
                    rintro e z3 ⟨rfl, hb⟩
                    have C3 := Lib.hid (below_step' C2.out hb)
                    clear hb
                    go_wp2_with fail
                    refine hK.out _ _ ?_ (fun hHeld => ?_)
                    · exact MZ.out _ C3.out
                    clear hK K
                    refine tq 5 ?_
                    refine rd 6 fun K hK => ?_
                    go_simp
                    refine (fixed6_any _).mono ?_
                    rintro e z4 ⟨rfl, hb⟩
                    have C4 := Lib.hid (below_step' C3.out hb)
                    clear hb
                    go_wp2_with fail
                    refine hK.out _ _ ?_ (fun hHeld => ?_)
                    · exact MZ.out _ C4.out
                    clear hK K
                    refine tq 7 ?_
                    refine tq 8 ?_
                    refine wpAnyH_done (by kernel_rfl) ?_ _
                    go_wp2_with fail
                    go_ret
                    exact ⟨rfl, below_step' BWZ.out C4.out⟩
end Go.Proofs.Ytcopedhoepblpaa
