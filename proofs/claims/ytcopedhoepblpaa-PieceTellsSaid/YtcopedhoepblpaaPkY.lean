/- PieceTells: the walk. Written by gen_ptells.py. -/
import Derived.Test.YtcopedhoepblpaaPkX
import Derived.Test.YtcopedhoepblpaaPkP
import Derived.Test.YtcopedhoepblpaaPkN
import Derived.Test.YtcopedhoepblpaaPkS
set_option linter.unusedSimpArgs false
set_option linter.unusedVariables false
set_option maxRecDepth 100000
namespace Go.Proofs.Ytcopedhoepblpaa
open Go.RowKit Go.PlainAid

set_option maxHeartbeats 16000000 in
theorem walkPieceTells (p : Pc) (v1 v2 v3 : Value) (q : Pc) (u1 u2 u3 : Value) (s : ByteArray) (w : World) (h : HasL w [v1, v2, v3] p.d) (h' : HasL w [u1, u2, u3] q.d) (hs : s.size ≤ maxLen) :
    Calls Try.prog 3 #[pcv p v1 v2 v3, pcv q u1 u2 u3, .string s] w fun e w' => e = .returned (.bool true) ∧ Below w.heap.size w w' := by
  unfold maxLen at hs
  have CT := fun y (hb : Below w.heap.size w y) => cut_at p v1 v2 v3 y (h.later hb)
  have CT' := fun y (hb : Below w.heap.size w y) => cut_at q u1 u2 u3 y (h'.later hb)
  obtain ⟨a1, a2, a3, n1, n2, n3, e1, e2, e3, ee1, ee2, ee3⟩ := pc_slices h
  subst ee1
  subst ee2
  subst ee3
  obtain ⟨o1, o2, o3, r1, r2, r3, t1, t2, t3, ee1, ee2, ee3⟩ := pc_slices h'
  subst ee1
  subst ee2
  subst ee3
  have HCTp := Lib.hid CT
  have HCTq := Lib.hid CT'
  clear h h' CT CT'
  obtain ⟨m0, hm0⟩ : ∃ m, m = p.node := ⟨_, rfl⟩
  obtain ⟨m1, hm1⟩ : ∃ m, m = p.state := ⟨_, rfl⟩
  obtain ⟨m2, hm2⟩ : ∃ m, m = p.steps := ⟨_, rfl⟩
  have PQp : Hid (∀ x y z, pcv (cutP p) x y z = .agg #[.int .i64 m0, .int .i64 m1, .int .i64 m2, x, y, z]) := Lib.hid (fun x y z => by rw [hm0, hm1, hm2]; rfl)
  have PVp : Hid (∀ x y z, pcv p x y z = .agg #[.int .i64 m0, .int .i64 m1, .int .i64 m2, x, y, z]) := Lib.hid (fun x y z => by rw [hm0, hm1, hm2])
  rw [PVp.out] at HCTp ⊢
  clear hm0 hm1 hm2
  obtain ⟨k0, hk0⟩ : ∃ m, m = q.node := ⟨_, rfl⟩
  obtain ⟨k1, hk1⟩ : ∃ m, m = q.state := ⟨_, rfl⟩
  obtain ⟨k2, hk2⟩ : ∃ m, m = q.steps := ⟨_, rfl⟩
  have PQq : Hid (∀ x y z, pcv (cutP q) x y z = .agg #[.int .i64 k0, .int .i64 k1, .int .i64 k2, x, y, z]) := Lib.hid (fun x y z => by rw [hk0, hk1, hk2]; rfl)
  have PVq : Hid (∀ x y z, pcv q x y z = .agg #[.int .i64 k0, .int .i64 k1, .int .i64 k2, x, y, z]) := Lib.hid (fun x y z => by rw [hk0, hk1, hk2])
  rw [PVq.out] at HCTq ⊢
  clear hk0 hk1 hk2
  go_enter Try.func3, Try.ntmps3
  try simp only [List.append_eq, List.cons_append, List.nil_append]
  go_upto_region 1 with fail
  obtain ⟨bp, hbp⟩ : ∃ b, b = w.heap.size := ⟨_, rfl⟩
  obtain ⟨bq, hbq⟩ : ∃ b, b = w.heap.size + 1 := ⟨_, rfl⟩
  obtain ⟨y0, hy0⟩ : ∃ y, y = (w.alloc (.cells #[.int .i64 m0, .int .i64 m1, .int .i64 m2, .slice a1 n1 e1, .slice a2 n2 e2, .slice a3 n3 e3] 26)).alloc (.cells #[.int .i64 k0, .int .i64 k1, .int .i64 k2, .slice o1 r1 t1, .slice o2 r2 t2, .slice o3 r3 t3] 26) := ⟨_, rfl⟩
  have hbq' : bq = (w.alloc (.cells #[.int .i64 m0, .int .i64 m1, .int .i64 m2, .slice a1 n1 e1, .slice a2 n2 e2, .slice a3 n3 e3] 26)).heap.size := by rw [hbq, size_new]
  have hxp : BoxAt bp [.int .i64 m0, .int .i64 m1, .int .i64 m2, .slice a1 n1 e1, .slice a2 n2 e2, .slice a3 n3 e3] y0 := by rw [hbp, hy0]; exact (boxAt_new w [.int .i64 m0, .int .i64 m1, .int .i64 m2, .slice a1 n1 e1, .slice a2 n2 e2, .slice a3 n3 e3] _).below (below_new _ _)
  have hxq : BoxAt bq [.int .i64 k0, .int .i64 k1, .int .i64 k2, .slice o1 r1 t1, .slice o2 r2 t2, .slice o3 r3 t3] y0 := by rw [hbq', hy0]; exact boxAt_new _ [.int .i64 k0, .int .i64 k1, .int .i64 k2, .slice o1 r1 t1, .slice o2 r2 t2, .slice o3 r3 t3] _
  have hfp : ∀ i, y0.frozen? ⟨bp, i, none⟩ = false := fun i => by
    rw [hbp, hy0]
    exact ((below_new (w.alloc (.cells #[.int .i64 m0, .int .i64 m1, .int .i64 m2, .slice a1 n1 e1, .slice a2 n2 e2, .slice a3 n3 e3] 26)) (.cells #[.int .i64 k0, .int .i64 k1, .int .i64 k2, .slice o1 r1 t1, .slice o2 r2 t2, .slice o3 r3 t3] 26)).frozen (p := ⟨w.heap.size, i, none⟩) (by rw [size_new]; exact Nat.lt_succ_self _)).trans (frozen_new w _ _ i)
  have hfq : ∀ i, y0.frozen? ⟨bq, i, none⟩ = false := fun i => by rw [hbq', hy0]; exact frozen_new _ _ _ i
  have hb0 : Below w.heap.size w y0 := by rw [hy0]; exact below_step' (below_new _ _) (below_new _ _)
  have hbl : bp < bq ∧ bq < y0.heap.size ∧ w.heap.size ≤ bp := by rw [hbp, hbq, hy0, size_new, size_new]; omega
  rw [← hy0, ← hbq, ← hbp]
  have B0 := Lib.hid hb0
  have KP0 := Lib.hid hxp
  have KQ0 := Lib.hid hxq
  have FP0 := Lib.hid hfp
  have FQ0 := Lib.hid hfq
  have BL := Lib.hid hbl
  clear hy0 hb0 hxp hxq hfp hfq hbl hbp hbq hbq'
  have p0 := KP0.out 0 _ rfl
  have p1 := KP0.out 1 _ rfl
  have p2 := KP0.out 2 _ rfl
  have p3 := KP0.out 3 _ rfl
  have p4 := KP0.out 4 _ rfl
  have p5 := KP0.out 5 _ rfl
  go_wp2_with fail
  refine (HCTp.out _ B0.out).mono ?_
  rintro e w1 ⟨v1, v2, v3, rfl, hC, hb⟩
  obtain ⟨b1, b2, b3, l1, l2, l3, f1, f2, f3, ee1, ee2, ee3⟩ := pc_slices hC.weak
  subst ee1
  subst ee2
  subst ee3
  rw [PQp.out]
  obtain ⟨pc, hpc⟩ : ∃ q, q = cutP p := ⟨_, rfl⟩
  have SPC : Hid (SmallPc pc) := Lib.hid (by rw [hpc]; exact cutP_small p)
  have PV : Hid (∀ x y z, pcv pc x y z = .agg #[.int .i64 m0, .int .i64 m1, .int .i64 m2, x, y, z]) := Lib.hid (by rw [hpc]; exact PQp.out)
  rw [← hpc] at hC
  have PCD := Lib.hid hpc
  have IDP : Hid (cutP pc = pc) := Lib.hid (by rw [hpc]; exact cutP_idem p)
  have B1 := Lib.hid hb
  have HC1 := Lib.hid hC
  clear hb hC hpc p0 p1 p2 p3 p4 p5 HCTp PQp
  have p0 := KP0.out.below B1.out 0 _ rfl
  have p1 := KP0.out.below B1.out 1 _ rfl
  have p2 := KP0.out.below B1.out 2 _ rfl
  have p3 := KP0.out.below B1.out 3 _ rfl
  have p4 := KP0.out.below B1.out 4 _ rfl
  have p5 := KP0.out.below B1.out 5 _ rfl
  have g0 : w1.frozen? ⟨bp, 0, none⟩ = false := (B1.out.frozen (p := ⟨bp, 0, none⟩) (Nat.lt_trans BL.out.1 BL.out.2.1)).trans (FP0.out 0)
  have g1 : w1.frozen? ⟨bp, 1, none⟩ = false := (B1.out.frozen (p := ⟨bp, 1, none⟩) (Nat.lt_trans BL.out.1 BL.out.2.1)).trans (FP0.out 1)
  have g2 : w1.frozen? ⟨bp, 2, none⟩ = false := (B1.out.frozen (p := ⟨bp, 2, none⟩) (Nat.lt_trans BL.out.1 BL.out.2.1)).trans (FP0.out 2)
  have g3 : w1.frozen? ⟨bp, 3, none⟩ = false := (B1.out.frozen (p := ⟨bp, 3, none⟩) (Nat.lt_trans BL.out.1 BL.out.2.1)).trans (FP0.out 3)
  have g4 : w1.frozen? ⟨bp, 4, none⟩ = false := (B1.out.frozen (p := ⟨bp, 4, none⟩) (Nat.lt_trans BL.out.1 BL.out.2.1)).trans (FP0.out 4)
  have g5 : w1.frozen? ⟨bp, 5, none⟩ = false := (B1.out.frozen (p := ⟨bp, 5, none⟩) (Nat.lt_trans BL.out.1 BL.out.2.1)).trans (FP0.out 5)
  go_upto_region 2 with fail
  obtain ⟨wp, hwp⟩ : ∃ x, x = set6 w1 bp (.int .i64 m0) (.int .i64 m1) (.int .i64 m2) (.slice b1 l1 f1) (.slice b2 l2 f2) (.slice b3 l3 f3) := ⟨_, rfl⟩
  have KP : Hid (BoxAt bp [.int .i64 m0, .int .i64 m1, .int .i64 m2, .slice b1 l1 f1, .slice b2 l2 f2, .slice b3 l3 f3] wp) := Lib.hid (by rw [hwp]; exact box_set6 (KP0.out.below B1.out))
  have KQ1 : Hid (BoxAt bq [.int .i64 k0, .int .i64 k1, .int .i64 k2, .slice o1 r1 t1, .slice o2 r2 t2, .slice o3 r3 t3] wp) := Lib.hid (by rw [hwp]; exact (KQ0.out.below B1.out).same (P := fun k => k ≠ bp) (set6_same (fun h => h rfl)) (fun e => by have := BL.out.1; omega))
  have FQ1 : Hid (∀ i, wp.frozen? ⟨bq, i, none⟩ = false) := Lib.hid (fun i => by rw [hwp]; unfold set6; simp only [World.frozen?_setCell]; exact (B1.out.frozen (p := ⟨bq, i, none⟩) BL.out.2.1).trans (FQ0.out i))
  have HP : Hid (HoldsL False (fun k => y0.heap.size ≤ k) wp [.slice b1 l1 f1, .slice b2 l2 f2, .slice b3 l3 f3] pc.d) := Lib.hid (by rw [hwp]; exact HC1.out.same (set6_same (fun (h : y0.heap.size ≤ bp) => by have := BL.out; omega)))
  have BP : Hid (Below w.heap.size w wp) := Lib.hid (by rw [hwp]; exact set6_below (below_step' B0.out B1.out) BL.out.2.2)
  have SZP : Hid (y0.heap.size ≤ wp.heap.size) := Lib.hid (by rw [hwp]; exact Nat.le_trans B1.out.size (set6_same (P := fun _ => False) (fun h => h)).1)
  rw [show ((((((w1.setCell ⟨bp, 0, none⟩ (.int .i64 m0)).setCell ⟨bp, 1, none⟩ (.int .i64 m1)).setCell ⟨bp, 2, none⟩ (.int .i64 m2)).setCell ⟨bp, 3, none⟩ (.slice b1 l1 f1)).setCell ⟨bp, 4, none⟩ (.slice b2 l2 f2)).setCell ⟨bp, 5, none⟩ (.slice b3 l3 f3)) = wp from hwp.symm]
  clear hwp p0 p1 p2 p3 p4 p5 g0 g1 g2 g3 g4 g5 B1 HC1 KP0 KQ0 FP0 FQ0
  have p0 := KQ1.out 0 _ rfl
  have p1 := KQ1.out 1 _ rfl
  have p2 := KQ1.out 2 _ rfl
  have p3 := KQ1.out 3 _ rfl
  have p4 := KQ1.out 4 _ rfl
  have p5 := KQ1.out 5 _ rfl
  go_wp2_with fail
  refine (HCTq.out _ BP.out).mono ?_
  rintro e w2 ⟨v1, v2, v3, rfl, hC, hb⟩
  obtain ⟨d1, d2, d3, x1, x2, x3, y1, y2, y3, ee1, ee2, ee3⟩ := pc_slices hC.weak
  subst ee1
  subst ee2
  subst ee3
  rw [PQq.out]
  obtain ⟨qc, hqc⟩ : ∃ x, x = cutP q := ⟨_, rfl⟩
  have SQC : Hid (SmallPc qc) := Lib.hid (by rw [hqc]; exact cutP_small q)
  have QV : Hid (∀ x y z, pcv qc x y z = .agg #[.int .i64 k0, .int .i64 k1, .int .i64 k2, x, y, z]) := Lib.hid (by rw [hqc]; exact PQq.out)
  rw [← hqc] at hC
  have B2 := Lib.hid hb
  have HC2 := Lib.hid hC
  clear hb hC hqc p0 p1 p2 p3 p4 p5 HCTq PQq
  have p0 := KQ1.out.below B2.out 0 _ rfl
  have p1 := KQ1.out.below B2.out 1 _ rfl
  have p2 := KQ1.out.below B2.out 2 _ rfl
  have p3 := KQ1.out.below B2.out 3 _ rfl
  have p4 := KQ1.out.below B2.out 4 _ rfl
  have p5 := KQ1.out.below B2.out 5 _ rfl
  have g0 : w2.frozen? ⟨bq, 0, none⟩ = false := (B2.out.frozen (p := ⟨bq, 0, none⟩) (Nat.lt_of_lt_of_le BL.out.2.1 SZP.out)).trans (FQ1.out 0)
  have g1 : w2.frozen? ⟨bq, 1, none⟩ = false := (B2.out.frozen (p := ⟨bq, 1, none⟩) (Nat.lt_of_lt_of_le BL.out.2.1 SZP.out)).trans (FQ1.out 1)
  have g2 : w2.frozen? ⟨bq, 2, none⟩ = false := (B2.out.frozen (p := ⟨bq, 2, none⟩) (Nat.lt_of_lt_of_le BL.out.2.1 SZP.out)).trans (FQ1.out 2)
  have g3 : w2.frozen? ⟨bq, 3, none⟩ = false := (B2.out.frozen (p := ⟨bq, 3, none⟩) (Nat.lt_of_lt_of_le BL.out.2.1 SZP.out)).trans (FQ1.out 3)
  have g4 : w2.frozen? ⟨bq, 4, none⟩ = false := (B2.out.frozen (p := ⟨bq, 4, none⟩) (Nat.lt_of_lt_of_le BL.out.2.1 SZP.out)).trans (FQ1.out 4)
  have g5 : w2.frozen? ⟨bq, 5, none⟩ = false := (B2.out.frozen (p := ⟨bq, 5, none⟩) (Nat.lt_of_lt_of_le BL.out.2.1 SZP.out)).trans (FQ1.out 5)
  go_upto_region 3 with fail
  obtain ⟨wc, hwc⟩ : ∃ x, x = set6 w2 bq (.int .i64 k0) (.int .i64 k1) (.int .i64 k2) (.slice d1 x1 y1) (.slice d2 x2 y2) (.slice d3 x3 y3) := ⟨_, rfl⟩
  have KQC : Hid (BoxAt bq [.int .i64 k0, .int .i64 k1, .int .i64 k2, .slice d1 x1 y1, .slice d2 x2 y2, .slice d3 x3 y3] wc) := Lib.hid (by rw [hwc]; exact box_set6 (KQ1.out.below B2.out))
  have KPC : Hid (BoxAt bp [.int .i64 m0, .int .i64 m1, .int .i64 m2, .slice b1 l1 f1, .slice b2 l2 f2, .slice b3 l3 f3] wc) := Lib.hid (by rw [hwc]; exact (KP.out.below B2.out).same (P := fun k => k ≠ bq) (set6_same (fun h => h rfl)) (fun e => by have := BL.out.1; omega))
  have HPC : Hid (HasL wc [.slice b1 l1 f1, .slice b2 l2 f2, .slice b3 l3 f3] pc.d) := Lib.hid (by rw [hwc]; exact ((HP.out.later B2.out).same (set6_same (fun (h : y0.heap.size ≤ bq) => by have := BL.out; omega))).weak)
  have HQC : Hid (HasL wc [.slice d1 x1 y1, .slice d2 x2 y2, .slice d3 x3 y3] qc.d) := Lib.hid (by rw [hwc]; exact (HC2.out.same (set6_same (fun (h : wp.heap.size ≤ bq) => by have := BL.out; have := SZP.out; omega))).weak)
  have BC : Hid (Below w.heap.size w wc) := Lib.hid (by rw [hwc]; exact set6_below (below_step' BP.out B2.out) (by have := BL.out; omega))
  rw [show ((((((w2.setCell ⟨bq, 0, none⟩ (.int .i64 k0)).setCell ⟨bq, 1, none⟩ (.int .i64 k1)).setCell ⟨bq, 2, none⟩ (.int .i64 k2)).setCell ⟨bq, 3, none⟩ (.slice d1 x1 y1)).setCell ⟨bq, 4, none⟩ (.slice d2 x2 y2)).setCell ⟨bq, 5, none⟩ (.slice d3 x3 y3)) = wc from hwc.symm]
  clear hwc p0 p1 p2 p3 p4 p5 g0 g1 g2 g3 g4 g5 B2 HC2 KQ1 FQ1 KP HP BP SZP B0
  have hsz1 := cut_size300 s
  go_upto_region 4 with fail
  obtain ⟨s1, hs1⟩ : ∃ x, x = s.extract 0 (min (s.size : Int) 300).toNat := ⟨_, rfl⟩
  rw [← hs1] at hsz1 ⊢
  have SZ : Hid (s1.size ≤ 300) := Lib.hid hsz1
  clear hs1 hsz1
  obtain ⟨r, hr⟩ : ∃ r, r = okB pc := ⟨_, rfl⟩
  obtain ⟨es, hes⟩ : ∃ x, x = (encR pc).1 := ⟨_, rfl⟩
  obtain ⟨ee, hee⟩ : ∃ x, x = (encR pc).2 := ⟨_, rfl⟩
  have EP := Lib.hid (encode_at pc _ _ _ wc HPC.out SPC.out)
  have ER := Lib.hid (fun y (hb : Below wc.heap.size wc y) => rencode_at pc _ _ _ y (HPC.out.later hb) SPC.out)
  have RP := Lib.hid (fun y => ref_at pc (.slice b1 l1 f1) (.slice b2 l2 f2) (.slice b3 l3 f3) y ⟨_, _, _, _, _, _, _, _, _, rfl, rfl, rfl⟩)
  have RQ := Lib.hid (fun y => ref_at qc (.slice d1 x1 y1) (.slice d2 x2 y2) (.slice d3 x3 y3) y ⟨_, _, _, _, _, _, _, _, _, rfl, rfl, rfl⟩)
  rw [PV.out, ← hes, ← hee] at EP ER
  rw [PV.out] at RP
  rw [QV.out] at RQ
  have HR := Lib.hid hr
  clear hr hes hee
  have p0 := KPC.out.below (Below.refl _ wc) 0 _ rfl
  have p1 := KPC.out.below (Below.refl _ wc) 1 _ rfl
  have p2 := KPC.out.below (Below.refl _ wc) 2 _ rfl
  have p3 := KPC.out.below (Below.refl _ wc) 3 _ rfl
  have p4 := KPC.out.below (Below.refl _ wc) 4 _ rfl
  have p5 := KPC.out.below (Below.refl _ wc) 5 _ rfl
  go_wp2_with fail
  refine EP.out.mono ?_
  rintro e w2 ⟨rfl, hb⟩
  have B2 := Lib.hid hb
  clear hb p0 p1 p2 p3 p4 p5 EP
  have p0 := KPC.out.below B2.out 0 _ rfl
  have p1 := KPC.out.below B2.out 1 _ rfl
  have p2 := KPC.out.below B2.out 2 _ rfl
  have p3 := KPC.out.below B2.out 3 _ rfl
  have p4 := KPC.out.below B2.out 4 _ rfl
  have p5 := KPC.out.below B2.out 5 _ rfl
  go_wp2_with fail
  refine (RP.out _).mono ?_
  rintro e w3 ⟨rfl, hb⟩
  have B3 := Lib.hid (below_step' B2.out hb)
  clear hb p0 p1 p2 p3 p4 p5
  go_wp2_with fail
  refine (ER.out _ B3.out).mono ?_
  rintro e w4 ⟨rfl, hb⟩
  have B4 := Lib.hid (below_step' B3.out hb)
  clear hb ER
  go_wp2_with fail
  refine (decode_at s1 _ (by have := SZ.out; omega)).mono ?_
  rintro e w7 ⟨v1, v2, v3, rfl, hX, hb⟩
  obtain ⟨dr, hdr⟩ : ∃ d, d = decR s1 := ⟨_, rfl⟩
  rw [← hdr] at hX ⊢
  obtain ⟨c1, c2, c3, o1', o2', o3', q1, q2, q3, ee1, ee2, ee3⟩ := pc_slices hX.weak
  subst ee1
  subst ee2
  subst ee3
  obtain ⟨xp, hxp⟩ : ∃ x, x = dr.1 := ⟨_, rfl⟩
  obtain ⟨xe, hxe⟩ : ∃ x, x = dr.2 := ⟨_, rfl⟩
  have hsx : SmallPc xp := by
    rw [hxp, hdr]
    rcases decR_cases s1 with ⟨q, hq⟩ | hq
    · rw [hq]; exact small_of_ok (decR_ok.1 hq).1
    · rw [hq]; exact zero_small
  have SX := Lib.hid hsx
  rw [← hxp, ← hxe]
  rw [← hxp] at hX
  have B7 := Lib.hid (below_step' B4.out hb)
  obtain ⟨x0, hx0⟩ : ∃ m, m = xp.node := ⟨_, rfl⟩
  obtain ⟨x1', hx1⟩ : ∃ m, m = xp.state := ⟨_, rfl⟩
  obtain ⟨x2', hx2⟩ : ∃ m, m = xp.steps := ⟨_, rfl⟩
  have XV : Hid (∀ x y z, pcv xp x y z = .agg #[.int .i64 x0, .int .i64 x1', .int .i64 x2', x, y, z]) := Lib.hid (fun x y z => by rw [hx0, hx1, hx2])
  rw [XV.out]
  obtain ⟨bx, hbx⟩ : ∃ b, b = w7.heap.size := ⟨_, rfl⟩
  obtain ⟨w8, hw8⟩ : ∃ y, y = w7.alloc (.cells #[.int .i64 x0, .int .i64 x1', .int .i64 x2', .slice c1 o1' q1, .slice c2 o2' q2, .slice c3 o3' q3] 26) := ⟨_, rfl⟩
  have hb8 : Below w7.heap.size w7 w8 := by rw [hw8]; exact below_new _ _
  have KX : Hid (BoxAt bx [.int .i64 x0, .int .i64 x1', .int .i64 x2', .slice c1 o1' q1, .slice c2 o2' q2, .slice c3 o3' q3] w8) := Lib.hid (by rw [hbx, hw8]; exact boxAt_new w7 [.int .i64 x0, .int .i64 x1', .int .i64 x2', .slice c1 o1' q1, .slice c2 o2' q2, .slice c3 o3' q3] _)
  have HX : Hid (HasL w8 [.slice c1 o1' q1, .slice c2 o2' q2, .slice c3 o3' q3] xp.d) := Lib.hid ((hX.later hb8).weak)
  have B8 := Lib.hid (below_step' B7.out hb8)
  have W8 := Lib.hid hw8
  have BXH := Lib.hid hbx
  have HDR := Lib.hid hdr
  have HXP := Lib.hid hxp
  have HXE := Lib.hid hxe
  clear hX hb hb8 hw8 hbx hdr hxp hxe hx0 hx1 hx2 hsx
  go_upto_region 7 with fail
  rw [← W8.out, ← BXH.out]
  clear W8 BXH
  go_wp2_with fail
  refine (rdecode_at s1 w8 (by have := SZ.out; omega)).mono ?_
  rintro e w9 ⟨v1, v2, v3, rfl, hX, hb⟩
  rw [← HDR.out, ← HXP.out] at hX
  rw [← HDR.out, ← HXP.out, ← HXE.out]
  obtain ⟨g1, g2, g3, h1, h2, h3, i1, i2, i3, ee1, ee2, ee3⟩ := pc_slices hX
  subst ee1
  subst ee2
  subst ee3
  rw [XV.out]
  have B9 := Lib.hid (below_step' B8.out hb)
  obtain ⟨by', hby⟩ : ∃ b, b = w9.heap.size := ⟨_, rfl⟩
  obtain ⟨wz, hwz⟩ : ∃ y, y = w9.alloc (.cells #[.int .i64 x0, .int .i64 x1', .int .i64 x2', .slice g1 h1 i1, .slice g2 h2 i2, .slice g3 h3 i3] 32) := ⟨_, rfl⟩
  have hbz : Below w9.heap.size w9 wz := by rw [hwz]; exact below_new _ _
  have KY : Hid (BoxAt by' [.int .i64 x0, .int .i64 x1', .int .i64 x2', .slice g1 h1 i1, .slice g2 h2 i2, .slice g3 h3 i3] wz) := Lib.hid (by rw [hby, hwz]; exact boxAt_new w9 [.int .i64 x0, .int .i64 x1', .int .i64 x2', .slice g1 h1 i1, .slice g2 h2 i2, .slice g3 h3 i3] _)
  have HY : Hid (HasL wz [.slice g1 h1 i1, .slice g2 h2 i2, .slice g3 h3 i3] xp.d) := Lib.hid ((hX.later hbz).weak)
  have KXZ := Lib.hid (KX.out.below (below_step' hb hbz))
  have HXZ := Lib.hid (HX.out.later (below_step' hb hbz))
  have BZ := Lib.hid (below_step' B9.out hbz)
  have WZQ := Lib.hid hwz
  have BYH := Lib.hid hby
  clear hX hb hbz hwz hby KX HX HDR HXP HXE B8 B7 B4 B3 B2
  go_upto_region 8 with fail
  rw [← WZQ.out, ← BYH.out]
  clear WZQ BYH
  have MZ : Hid (∀ y, Below wz.heap.size wz y → (fun wz => (wz.cell? ⟨bp, 0, none⟩ = some (.int .i64 m0) ∧ wz.cell? ⟨bp, 1, none⟩ = some (.int .i64 m1) ∧ wz.cell? ⟨bp, 2, none⟩ = some (.int .i64 m2) ∧ wz.cell? ⟨bp, 3, none⟩ = some (.slice b1 l1 f1) ∧ wz.cell? ⟨bp, 4, none⟩ = some (.slice b2 l2 f2) ∧ wz.cell? ⟨bp, 5, none⟩ = some (.slice b3 l3 f3)) ∧ (wz.cell? ⟨bq, 0, none⟩ = some (.int .i64 k0) ∧ wz.cell? ⟨bq, 1, none⟩ = some (.int .i64 k1) ∧ wz.cell? ⟨bq, 2, none⟩ = some (.int .i64 k2) ∧ wz.cell? ⟨bq, 3, none⟩ = some (.slice d1 x1 y1) ∧ wz.cell? ⟨bq, 4, none⟩ = some (.slice d2 x2 y2) ∧ wz.cell? ⟨bq, 5, none⟩ = some (.slice d3 x3 y3)) ∧ (wz.cell? ⟨bx, 0, none⟩ = some (.int .i64 x0) ∧ wz.cell? ⟨bx, 1, none⟩ = some (.int .i64 x1') ∧ wz.cell? ⟨bx, 2, none⟩ = some (.int .i64 x2') ∧ wz.cell? ⟨bx, 3, none⟩ = some (.slice c1 o1' q1) ∧ wz.cell? ⟨bx, 4, none⟩ = some (.slice c2 o2' q2) ∧ wz.cell? ⟨bx, 5, none⟩ = some (.slice c3 o3' q3)) ∧ (wz.cell? ⟨by', 0, none⟩ = some (.int .i64 x0) ∧ wz.cell? ⟨by', 1, none⟩ = some (.int .i64 x1') ∧ wz.cell? ⟨by', 2, none⟩ = some (.int .i64 x2') ∧ wz.cell? ⟨by', 3, none⟩ = some (.slice g1 h1 i1) ∧ wz.cell? ⟨by', 4, none⟩ = some (.slice g2 h2 i2) ∧ wz.cell? ⟨by', 5, none⟩ = some (.slice g3 h3 i3))) y) := Lib.hid (fun y hb => by
    have hc := below_step' BZ.out hb
    exact ⟨⟨KPC.out.below hc 0 _ rfl, KPC.out.below hc 1 _ rfl, KPC.out.below hc 2 _ rfl, KPC.out.below hc 3 _ rfl, KPC.out.below hc 4 _ rfl, KPC.out.below hc 5 _ rfl⟩, ⟨KQC.out.below hc 0 _ rfl, KQC.out.below hc 1 _ rfl, KQC.out.below hc 2 _ rfl, KQC.out.below hc 3 _ rfl, KQC.out.below hc 4 _ rfl, KQC.out.below hc 5 _ rfl⟩, ⟨KXZ.out.below hb 0 _ rfl, KXZ.out.below hb 1 _ rfl, KXZ.out.below hb 2 _ rfl, KXZ.out.below hb 3 _ rfl, KXZ.out.below hb 4 _ rfl, KXZ.out.below hb 5 _ rfl⟩, ⟨KY.out.below hb 0 _ rfl, KY.out.below hb 1 _ rfl, KY.out.below hb 2 _ rfl, KY.out.below hb 3 _ rfl, KY.out.below hb 4 _ rfl, KY.out.below hb 5 _ rfl⟩⟩)
  have HPZ := Lib.hid (HPC.out.later BZ.out)
  have HQZ := Lib.hid (HQC.out.later BZ.out)
  obtain ⟨t, ht⟩ : ∃ t : Bool, t = true ↔ pc = qc := by
    by_cases h : pc = qc
    · exact ⟨true, by simp [h]⟩
    · exact ⟨false, by simp [h]⟩
  have HT := Lib.hid ht
  clear ht
  have hrr : (r == r) = true := by simp
  have htt : (t == t) = true := by simp
  have hss : (es.toList == es.toList) = true := by simp
  have hee : (ee == ee) = true := by simp
  have hxx : (xe == xe) = true := by simp
  have RT := Lib.hid (fun y (hb : Below wz.heap.size wz y) => right_at pc r _ _ _ y (HPZ.out.later hb) SPC.out HR.out)
  have RR := Lib.hid (fun y (hb : Below wz.heap.size wz y) => rright6_at pc r _ _ _ y (HPZ.out.later hb) SPC.out HR.out)
  have SM := Lib.hid (fun y (hb : Below wz.heap.size wz y) => psame_at pc qc t _ _ _ _ _ _ y (HPZ.out.later hb) (HQZ.out.later hb) SPC.out HT.out)
  have SR := Lib.hid (fun y (hb : Below wz.heap.size wz y) => rsame_at pc qc t _ _ _ _ _ _ y (HPZ.out.later hb) (HQZ.out.later hb) SPC.out SQC.out HT.out)
  have SX2 := Lib.hid (fun y (hb : Below wz.heap.size wz y) => rsame_at xp xp true _ _ _ _ _ _ y (HXZ.out.later hb) (HY.out.later hb) SX.out SX.out (by simp))
  have RX := Lib.hid (fun y => ref_at xp (.slice c1 o1' q1) (.slice c2 o2' q2) (.slice c3 o3' q3) y ⟨_, _, _, _, _, _, _, _, _, rfl, rfl, rfl⟩)
  have OW := Lib.hid (fun y (hb : Below wz.heap.size wz y) => own_at pc _ _ _ y (HPZ.out.later hb) SPC.out)
  rw [PV.out] at RT RR OW
  rw [PV.out, QV.out] at SM SR
  rw [XV.out] at RX
  rw [XV.out, XV.out] at SX2
  refine wp_region_held_drew (S := (fun wz => (wz.cell? ⟨bp, 0, none⟩ = some (.int .i64 m0) ∧ wz.cell? ⟨bp, 1, none⟩ = some (.int .i64 m1) ∧ wz.cell? ⟨bp, 2, none⟩ = some (.int .i64 m2) ∧ wz.cell? ⟨bp, 3, none⟩ = some (.slice b1 l1 f1) ∧ wz.cell? ⟨bp, 4, none⟩ = some (.slice b2 l2 f2) ∧ wz.cell? ⟨bp, 5, none⟩ = some (.slice b3 l3 f3)) ∧ (wz.cell? ⟨bq, 0, none⟩ = some (.int .i64 k0) ∧ wz.cell? ⟨bq, 1, none⟩ = some (.int .i64 k1) ∧ wz.cell? ⟨bq, 2, none⟩ = some (.int .i64 k2) ∧ wz.cell? ⟨bq, 3, none⟩ = some (.slice d1 x1 y1) ∧ wz.cell? ⟨bq, 4, none⟩ = some (.slice d2 x2 y2) ∧ wz.cell? ⟨bq, 5, none⟩ = some (.slice d3 x3 y3)) ∧ (wz.cell? ⟨bx, 0, none⟩ = some (.int .i64 x0) ∧ wz.cell? ⟨bx, 1, none⟩ = some (.int .i64 x1') ∧ wz.cell? ⟨bx, 2, none⟩ = some (.int .i64 x2') ∧ wz.cell? ⟨bx, 3, none⟩ = some (.slice c1 o1' q1) ∧ wz.cell? ⟨bx, 4, none⟩ = some (.slice c2 o2' q2) ∧ wz.cell? ⟨bx, 5, none⟩ = some (.slice c3 o3' q3)) ∧ (wz.cell? ⟨by', 0, none⟩ = some (.int .i64 x0) ∧ wz.cell? ⟨by', 1, none⟩ = some (.int .i64 x1') ∧ wz.cell? ⟨by', 2, none⟩ = some (.int .i64 x2') ∧ wz.cell? ⟨by', 3, none⟩ = some (.slice g1 h1 i1) ∧ wz.cell? ⟨by', 4, none⟩ = some (.slice g2 h2 i2) ∧ wz.cell? ⟨by', 5, none⟩ = some (.slice g3 h3 i3)))) (by kernel_rfl) ?_ (fun hHeld => ?_)
  · exact MZ.out _ (below_drewN (Below.refl wz.heap.size wz) 1)
  obtain ⟨yz, hyz⟩ : ∃ y, y = wz.drew := ⟨_, rfl⟩
  rw [← hyz] at hHeld ⊢
  have Z0 : Hid (Below wz.heap.size wz yz) := Lib.hid (by rw [hyz]; exact below_drewN (Below.refl wz.heap.size wz) 1)
  clear hyz
  refine tq 0 ?_
  refine tq 2 ?_
  refine rd 1 fun K hK => ?_
  go_simp
  refine (RT.out _ Z0.out).mono ?_
  rintro e z1 ⟨rfl, hb⟩
  have Z1 := Lib.hid (below_step' Z0.out hb)
  clear hb
  go_wp2_with fail
  refine hK.out _ _ ?_ (fun hHeld => ?_)
  · exact MZ.out _ Z1.out
  clear hK K
  refine rd 3 fun K hK => ?_
  go_simp
  refine (RP.out _).mono ?_
  rintro e z2 ⟨rfl, hb⟩
  have Z2 := Lib.hid (below_step' Z1.out hb)
  clear hb
  go_wp2_with fail
  refine hK.out _ _ ?_ (fun hHeld => ?_)
  · exact MZ.out _ Z2.out
  clear hK K
  refine rd 4 fun K hK => ?_
  go_simp
  refine (RR.out _ Z2.out).mono ?_
  rintro e z3 ⟨rfl, hb⟩
  have Z3 := Lib.hid (below_step' Z2.out hb)
  clear hb
  go_wp2_with fail
  refine hK.out _ _ ?_ (fun hHeld => ?_)
  · exact MZ.out _ Z3.out
  clear hK K
  refine tq 5 ?_
  refine tq 6 ?_
  refine tq 7 ?_
  refine tq 8 ?_
  refine tq 10 ?_
  refine tq 12 ?_
  refine rd 9 fun K hK => ?_
  go_simp
  refine (SM.out _ Z3.out).mono ?_
  rintro e z4 ⟨rfl, hb⟩
  have Z4 := Lib.hid (below_step' Z3.out hb)
  clear hb
  go_wp2_with fail
  refine hK.out _ _ ?_ (fun hHeld => ?_)
  · exact MZ.out _ Z4.out
  clear hK K
  refine rd 11 fun K hK => ?_
  go_simp
  refine (RP.out _).mono ?_
  rintro e z5 ⟨rfl, hb⟩
  have Z5 := Lib.hid (below_step' Z4.out hb)
  clear hb
  go_wp2_with fail
  refine hK.out _ _ ?_ (fun hHeld => ?_)
  · exact MZ.out _ Z5.out
  clear hK K
  refine rd 13 fun K hK => ?_
  go_simp
  refine (RQ.out _).mono ?_
  rintro e z6 ⟨rfl, hb⟩
  have Z6 := Lib.hid (below_step' Z5.out hb)
  clear hb
  go_wp2_with fail
  refine hK.out _ _ ?_ (fun hHeld => ?_)
  · exact MZ.out _ Z6.out
  clear hK K
  refine rd 14 fun K hK => ?_
  go_simp
  refine (SR.out _ Z6.out).mono ?_
  rintro e z7 ⟨rfl, hb⟩
  have Z7 := Lib.hid (below_step' Z6.out hb)
  clear hb
  go_wp2_with fail
  refine hK.out _ _ ?_ (fun hHeld => ?_)
  · exact MZ.out _ Z7.out
  clear hK K
  refine tq 15 ?_
  refine tq 16 ?_
  refine tq 17 ?_
  refine tq 18 ?_
  refine tq 19 ?_
  refine tq 20 ?_
  refine tq 21 ?_
  refine tq 22 ?_
  refine tq 23 ?_
  refine tq 24 ?_
  refine tq 25 ?_
  refine tq 26 ?_
  refine tq 27 ?_
  refine tq 28 ?_
  refine tq 30 ?_
  refine rd 29 fun K hK => ?_
  go_simp
  refine (RX.out _).mono ?_
  rintro e z8 ⟨rfl, hb⟩
  have Z8 := Lib.hid (below_step' Z7.out hb)
  clear hb
  go_wp2_with fail
  refine hK.out _ _ ?_ (fun hHeld => ?_)
  · exact MZ.out _ Z8.out
  clear hK K
  refine rd 31 fun K hK => ?_
  go_simp
  refine (SX2.out _ Z8.out).mono ?_
  rintro e z9 ⟨rfl, hb⟩
  have Z9 := Lib.hid (below_step' Z8.out hb)
  clear hb
  go_wp2_with fail
  refine hK.out _ _ ?_ (fun hHeld => ?_)
  · exact MZ.out _ Z9.out
  clear hK K
  refine tq 32 ?_
  refine tq 33 ?_
  refine tq 34 ?_
  refine tq 35 ?_
  refine tq 36 ?_
  refine tq 37 ?_
  refine tq 38 ?_
  refine tq 39 ?_
  refine tq 42 ?_
  refine rd 40 fun K hK => ?_
  go_simp
  refine (OW.out _ Z9.out).mono ?_
  rintro e z10 ⟨v1, v2, v3, rfl, hO, hb⟩
  have Z10 := Lib.hid (below_step' Z9.out hb)
  have HO := Lib.hid (HoldsL.weak hO)
  obtain ⟨g1', g2', g3', r1', r2', r3', t1', t2', t3', ee1, ee2, ee3⟩ := pc_slices HO.out
  subst ee1
  subst ee2
  subst ee3
  rw [PV.out]
  clear hO
  have RO := Lib.hid (fun y => ref_at pc (.slice g1' r1' t1') (.slice g2' r2' t2') (.slice g3' r3' t3') y ⟨_, _, _, _, _, _, _, _, _, rfl, rfl, rfl⟩)
  rw [PV.out] at RO
  clear hb
  go_wp2_with fail
  refine hK.out _ _ ?_ (fun hHeld => ?_)
  · exact MZ.out _ Z10.out
  clear hK K
  refine rd 41 fun K hK => ?_
  go_simp
  refine (RO.out _).mono ?_
  rintro e z11 ⟨rfl, hb⟩
  have Z11 := Lib.hid (below_step' Z10.out hb)
  have HO1 := Lib.hid (HO.out.later hb)
  clear hb
  go_wp2_with fail
  refine hK.out _ _ ?_ (fun hHeld => ?_)
  · exact MZ.out _ Z11.out
  clear hK K
  refine rd 43 fun K hK => ?_
  go_simp
  refine (RP.out _).mono ?_
  rintro e z12 ⟨rfl, hb⟩
  have Z12 := Lib.hid (below_step' Z11.out hb)
  have HO2 := Lib.hid (HO1.out.later hb)
  have SO := Lib.hid (rsame_at pc pc true _ _ _ _ _ _ z12 HO2.out (HPZ.out.later Z12.out) SPC.out SPC.out (by simp))
  rw [PV.out, PV.out] at SO
  clear hb
  go_wp2_with fail
  refine hK.out _ _ ?_ (fun hHeld => ?_)
  · exact MZ.out _ Z12.out
  clear hK K
  refine rd 44 fun K hK => ?_
  go_simp
  refine (SO.out).mono ?_
  rintro e z13 ⟨rfl, hb⟩
  have Z13 := Lib.hid (below_step' Z12.out hb)
  clear hb
  go_wp2_with fail
  refine hK.out _ _ ?_ (fun hHeld => ?_)
  · exact MZ.out _ Z13.out
  clear hK K
  refine tq 45 ?_
  refine tq 46 ?_
  refine rd 47 fun K hK => ?_
  go_simp
  refine (fixed6_any _).mono ?_
  rintro e z14 ⟨rfl, hb⟩
  have Z14 := Lib.hid (below_step' Z13.out hb)
  clear hb
  go_wp2_with fail
  refine hK.out _ _ ?_ (fun hHeld => ?_)
  · exact MZ.out _ Z14.out
  clear hK K
  refine tq 48 ?_
  refine tq 49 ?_
  refine wpAnyH_done (by kernel_rfl) ?_ _
  go_wp2_with fail
  go_ret
  exact ⟨rfl, below_step' (below_step' BC.out BZ.out) Z14.out⟩
end Go.Proofs.Ytcopedhoepblpaa
