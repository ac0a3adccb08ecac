/- PieceEach: the walk. Written by gen_peach.py. -/
import Derived.Test.YtcopedhoepblpaaPlA
import Derived.Test.YtcopedhoepblpaaPkN
import Derived.Test.YtcopedhoepblpaaPkQ
import Derived.Deep.CutRange
set_option linter.unusedSimpArgs false
set_option linter.unusedVariables false
set_option maxRecDepth 100000
namespace Go.Proofs.Ytcopedhoepblpaa
open Go.RowKit Go.PlainAid

set_option maxHeartbeats 16000000 in
theorem walkPieceEach (p : Pc) (v1 v2 v3 : Value) (a : Int) (w : World) (h : HasL w [v1, v2, v3] p.d) (ha0 : 0 ≤ a) (ha1 : a < 256) :
    Calls Try.prog 8 #[pcv p v1 v2 v3, .int .u8 a] w fun e w' => e = .returned (.bool true) ∧ Below w.heap.size w w' := by
  have CT := fun y (hb : Below w.heap.size w y) => cut_at p v1 v2 v3 y (h.later hb)
  obtain ⟨a1, a2, a3, n1, n2, n3, e1, e2, e3, ee1, ee2, ee3⟩ := pc_slices h
  subst ee1
  subst ee2
  subst ee3
  have HCT := Lib.hid CT
  clear h CT
  obtain ⟨m0, hm0⟩ : ∃ m, m = p.node := ⟨_, rfl⟩
  obtain ⟨m1, hm1⟩ : ∃ m, m = p.state := ⟨_, rfl⟩
  obtain ⟨m2, hm2⟩ : ∃ m, m = p.steps := ⟨_, rfl⟩
  have PQ : Hid (∀ x y z, pcv (cutP p) x y z = .agg #[.int .i64 m0, .int .i64 m1, .int .i64 m2, x, y, z]) := Lib.hid (fun x y z => by rw [hm0, hm1, hm2]; rfl)
  unfold pcv at HCT ⊢
  rw [← hm0, ← hm1, ← hm2] at HCT ⊢
  clear hm0 hm1 hm2
  go_enter Try.func8, Try.ntmps8
  try simp only [List.append_eq, List.cons_append, List.nil_append]
  go_upto_region 1 with fail
  obtain ⟨bc, hbc⟩ : ∃ b, b = w.heap.size := ⟨_, rfl⟩
  obtain ⟨y0, hy0⟩ : ∃ y, y = w.alloc (.cells #[.int .i64 m0, .int .i64 m1, .int .i64 m2, .slice a1 n1 e1, .slice a2 n2 e2, .slice a3 n3 e3] 26) := ⟨_, rfl⟩
  have hb0 : Below w.heap.size w y0 := by rw [hy0]; exact below_new _ _
  have hx0 : BoxAt bc [.int .i64 m0, .int .i64 m1, .int .i64 m2, .slice a1 n1 e1, .slice a2 n2 e2, .slice a3 n3 e3] y0 := by rw [hbc, hy0]; exact boxAt_new w [.int .i64 m0, .int .i64 m1, .int .i64 m2, .slice a1 n1 e1, .slice a2 n2 e2, .slice a3 n3 e3] _
  have hf0 : ∀ i, y0.frozen? ⟨bc, i, none⟩ = false := fun i => by rw [hbc, hy0]; exact frozen_new w _ _ i
  have hbl : bc < y0.heap.size ∧ w.heap.size ≤ bc := by rw [hbc, hy0, size_new]; omega
  rw [← hy0, ← hbc]
  have B0 := Lib.hid hb0
  have K0 := Lib.hid hx0
  have F0 := Lib.hid hf0
  have BL := Lib.hid hbl
  clear hy0 hb0 hx0 hf0 hbl hbc
  have p0 := K0.out 0 _ rfl
  have p1 := K0.out 1 _ rfl
  have p2 := K0.out 2 _ rfl
  have p3 := K0.out 3 _ rfl
  have p4 := K0.out 4 _ rfl
  have p5 := K0.out 5 _ rfl
  go_wp2_with fail
  refine (HCT.out _ B0.out).mono ?_
  rintro e w1 ⟨v1, v2, v3, rfl, hC, hb⟩
  obtain ⟨b1, b2, b3, l1, l2, l3, f1, f2, f3, ee1, ee2, ee3⟩ := pc_slices hC.weak
  subst ee1
  subst ee2
  subst ee3
  rw [PQ.out]
  obtain ⟨pc, hpc⟩ : ∃ q, q = cutP p := ⟨_, rfl⟩
  have SPC : Hid (SmallPc pc) := Lib.hid (by rw [hpc]; exact cutP_small p)
  have PV : Hid (∀ x y z, pcv pc x y z = .agg #[.int .i64 m0, .int .i64 m1, .int .i64 m2, x, y, z]) := Lib.hid (by rw [hpc]; exact PQ.out)
  rw [← hpc] at hC
  have PCD := Lib.hid hpc
  have B1 := Lib.hid hb
  have HC1 := Lib.hid hC
  clear hb hC hpc p0 p1 p2 p3 p4 p5 HCT PQ
  have p0 := K0.out.below B1.out 0 _ rfl
  have p1 := K0.out.below B1.out 1 _ rfl
  have p2 := K0.out.below B1.out 2 _ rfl
  have p3 := K0.out.below B1.out 3 _ rfl
  have p4 := K0.out.below B1.out 4 _ rfl
  have p5 := K0.out.below B1.out 5 _ rfl
  have g0 : w1.frozen? ⟨bc, 0, none⟩ = false := (B1.out.frozen (p := ⟨bc, 0, none⟩) BL.out.1).trans (F0.out 0)
  have g1 : w1.frozen? ⟨bc, 1, none⟩ = false := (B1.out.frozen (p := ⟨bc, 1, none⟩) BL.out.1).trans (F0.out 1)
  have g2 : w1.frozen? ⟨bc, 2, none⟩ = false := (B1.out.frozen (p := ⟨bc, 2, none⟩) BL.out.1).trans (F0.out 2)
  have g3 : w1.frozen? ⟨bc, 3, none⟩ = false := (B1.out.frozen (p := ⟨bc, 3, none⟩) BL.out.1).trans (F0.out 3)
  have g4 : w1.frozen? ⟨bc, 4, none⟩ = false := (B1.out.frozen (p := ⟨bc, 4, none⟩) BL.out.1).trans (F0.out 4)
  have g5 : w1.frozen? ⟨bc, 5, none⟩ = false := (B1.out.frozen (p := ⟨bc, 5, none⟩) BL.out.1).trans (F0.out 5)
  go_upto_region 2 with fail
  obtain ⟨wc, hwc⟩ : ∃ x, x = set6 w1 bc (.int .i64 m0) (.int .i64 m1) (.int .i64 m2) (.slice b1 l1 f1) (.slice b2 l2 f2) (.slice b3 l3 f3) := ⟨_, rfl⟩
  have KC : Hid (BoxAt bc [.int .i64 m0, .int .i64 m1, .int .i64 m2, .slice b1 l1 f1, .slice b2 l2 f2, .slice b3 l3 f3] wc) := Lib.hid (by rw [hwc]; exact box_set6 (K0.out.below B1.out))
  have HC : Hid (HasL wc [.slice b1 l1 f1, .slice b2 l2 f2, .slice b3 l3 f3] pc.d) := Lib.hid (by rw [hwc]; exact (HC1.out.same (set6_same (fun (h : y0.heap.size ≤ bc) => by have := BL.out.1; omega))).weak)
  have BC : Hid (Below w.heap.size w wc) := Lib.hid (by rw [hwc]; exact set6_below (below_step' B0.out B1.out) BL.out.2)
  rw [show ((((((w1.setCell ⟨bc, 0, none⟩ (.int .i64 m0)).setCell ⟨bc, 1, none⟩ (.int .i64 m1)).setCell ⟨bc, 2, none⟩ (.int .i64 m2)).setCell ⟨bc, 3, none⟩ (.slice b1 l1 f1)).setCell ⟨bc, 4, none⟩ (.slice b2 l2 f2)).setCell ⟨bc, 5, none⟩ (.slice b3 l3 f3)) = wc from hwc.symm]
  clear hwc p0 p1 p2 p3 p4 p5 g0 g1 g2 g3 g4 g5 B1 HC1 K0 F0
  obtain ⟨wC, hwC⟩ : ∃ x, x = wc := ⟨_, rfl⟩
  subst hwC
  have IDP : Hid (cutP pc = pc) := Lib.hid (by rw [PCD.out]; exact cutP_idem p)
  have RP := Lib.hid (fun y => ref_at pc (.slice b1 l1 f1) (.slice b2 l2 f2) (.slice b3 l3 f3) y ⟨_, _, _, _, _, _, _, _, _, rfl, rfl, rfl⟩)
  have RR := Lib.hid (fun (r : Bool) (hr : r = okB pc) y (hb : Below wC.heap.size wC y) => rright6_at pc r _ _ _ y (HC.out.later hb) SPC.out hr)
  have RT := Lib.hid (fun (r : Bool) (hr : r = okB pc) y (hb : Below wC.heap.size wC y) => right_at pc r _ _ _ y (HC.out.later hb) SPC.out hr)
  have CU : Hid (∀ y, Below wC.heap.size wC y → Calls Try.prog 9 #[pcv pc (.slice b1 l1 f1) (.slice b2 l2 f2) (.slice b3 l3 f3)] y fun e w' => ∃ v1 v2 v3, e = .returned (pcv pc v1 v2 v3) ∧ HoldsL False (fun q => y.heap.size ≤ q) w' [v1, v2, v3] pc.d ∧ Below y.heap.size y w') := Lib.hid (fun y hb => by
    have h := cut_at pc _ _ _ y (HC.out.later hb)
    unfold CutTold at h
    rwa [IDP.out] at h)
  rw [PV.out] at RP RR RT CU
  have p0 := KC.out.below (Below.refl _ wC) 0 _ rfl
  have p1 := KC.out.below (Below.refl _ wC) 1 _ rfl
  have p2 := KC.out.below (Below.refl _ wC) 2 _ rfl
  have p3 := KC.out.below (Below.refl _ wC) 3 _ rfl
  have p4 := KC.out.below (Below.refl _ wC) 4 _ rfl
  have p5 := KC.out.below (Below.refl _ wC) 5 _ rfl
  cases hok : okB pc with
  | false =>
    have OK := Lib.hid hok
    clear hok
    go_wp2_with fail
    refine (RP.out _).mono ?_
    rintro e w1 ⟨rfl, hb⟩
    have B1 := Lib.hid hb
    clear hb
    go_wp2_with fail
    refine (RR.out false OK.out.symm _ B1.out).mono ?_
    rintro e w2 ⟨rfl, hb⟩
    have B2 := Lib.hid (below_step' B1.out hb)
    clear hb p0 p1 p2 p3 p4 p5
    have p0 := KC.out.below B2.out 0 _ rfl
    have p1 := KC.out.below B2.out 1 _ rfl
    have p2 := KC.out.below B2.out 2 _ rfl
    have p3 := KC.out.below B2.out 3 _ rfl
    have p4 := KC.out.below B2.out 4 _ rfl
    have p5 := KC.out.below B2.out 5 _ rfl
    go_wp2_with fail
    refine (RT.out false OK.out.symm _ B2.out).mono ?_
    rintro e w3 ⟨rfl, hb⟩
    have B3 := Lib.hid (below_step' B2.out hb)
    clear hb p0 p1 p2 p3 p4 p5
    go_wp2_with fail
    refine (fixed6_any _).mono ?_
    rintro e w4 ⟨rfl, hb⟩
    have B4 := Lib.hid (below_step' B3.out hb)
    clear hb
    go_wp2_with fail
    go_ret
    exact ⟨rfl, below_step' BC.out B4.out⟩
  | true =>
    have OK := Lib.hid hok
    clear hok
    go_wp2_with fail
    refine (RP.out _).mono ?_
    rintro e w1 ⟨rfl, hb⟩
    have B1 := Lib.hid hb
    clear hb
    go_wp2_with fail
    refine (RR.out true OK.out.symm _ B1.out).mono ?_
    rintro e w2 ⟨rfl, hb⟩
    have B2 := Lib.hid (below_step' B1.out hb)
    clear hb p0 p1 p2 p3 p4 p5
    obtain ⟨iP, hiP, hzP, hsP, hbyP⟩ := info_parts infoPiece
    obtain ⟨i0, hi0, hz0, hs0, hby0⟩ := info_parts infoInt
    obtain ⟨iL, hiL, hzL, hsL, hbyL⟩ := info_parts infoMsgsI
    obtain ⟨iO, hiO, hzO, hsO, hbyO⟩ := info_parts infoIntsI
    obtain ⟨b0, hb0⟩ : ∃ b, b = w2.heap.size := ⟨_, rfl⟩
    obtain ⟨w3, hw3⟩ : ∃ x, x = w2.alloc (.cells #[] 26) := ⟨_, rfl⟩
    have E0 : Hid (Each wC pc m0 m1 m2 0 (.slice (some ⟨b0, 0, none⟩) 0 0) [] w3) := Lib.hid (by rw [hb0, hw3]; exact Each.nil B2.out)
    have CLT : Hid (bc < wC.heap.size) := Lib.hid (World.block_lt_of_cell? wC _ (KC.out 0 _ rfl))
    go_upto_region 5 with fail
    rw [← hw3, ← hb0]
    clear hw3 hb0
    go_wp2_with fail
    go_loopw [5, 6] (fun v i wr => ∃ (k : Nat) (xa : Option Addr) (xc : Nat) (us : List P3), v = .slice xa k xc ∧ i = .int .i64 k ∧ k ≤ 8 ∧ Each wC pc m0 m1 m2 k (.slice xa k xc) us wr) (fun _ i _ => 8 - (intOf i).toNat)
    case atStart => exact ⟨0, _, 0, [], rfl, rfl, by omega, E0.out⟩
    case round =>
      clear E0
      obtain ⟨k, xa, xc, us, rfl, rfl, hk, hE⟩ := hrel
      obtain ⟨wq, hw1⟩ : ∃ x, x = wr := ⟨_, rfl⟩
      subst hw1
      have HE := Lib.hid hE
      by_cases hlt : k < 8
      · have hl8 : (k : Int) < 8 := by omega
        clear hE
        have BQ : Hid (Below wC.heap.size wC wq) := Lib.hid HE.out.own.bel
        have LEN := Lib.hid HE.out.len
        have p0 := KC.out.below BQ.out 0 _ rfl
        have p1 := KC.out.below BQ.out 1 _ rfl
        have p2 := KC.out.below BQ.out 2 _ rfl
        have p3 := KC.out.below BQ.out 3 _ rfl
        have p4 := KC.out.below BQ.out 4 _ rfl
        have p5 := KC.out.below BQ.out 5 _ rfl
        go_wp2_with fail
        refine (CU.out _ BQ.out).mono ?_
        rintro e w4 ⟨s1, s2, s3, rfl, hU, hb⟩
        obtain ⟨c1, c2, c3, o1, o2, o3, q1, q2, q3, ee1, ee2, ee3⟩ := pc_slices hU.weak
        subst ee1
        subst ee2
        subst ee3
        rw [PV.out]
        have HU := Lib.hid hU
        have HB := Lib.hid hb
        have O4 := Lib.hid (HE.out.own.later (below_step' hb (below_new w4 (.cells #[.int .i64 m0, .int .i64 m1, .int .i64 m2, .slice c1 o1 q1, .slice c2 o2 q2, .slice c3 o3 q3] 26))))
        clear hU hb p0 p1 p2 p3 p4 p5
        go_wp2_with (at_builtin; refine appL rfl _ _ 55 26 iP (.agg #[.int .i64 0, .int .i64 0, .int .i64 0, .slice none 0 0, .slice none 0 0, .slice none 0 0]) 6 96 rfl Try.underlying55 hiP hzP hsP hbyP rfl (by decide) True All wC _ _ (us.map (at6 m0 m1 m2)) [at6 m0 m1 m2 (.slice c1 o1 q1, .slice c2 o2 q2, .slice c3 o3 q3)] k 1 1 (k + 1) rfl O4.out (by rw [List.length_map]; exact LEN.out) (some ⟨w4.heap.size, 0, none⟩) rfl [.int .i64 m0, .int .i64 m1, .int .i64 m2, .slice c1 o1 q1, .slice c2 o2 q2, .slice c3 o3 q3] news_new (fun e => by cases e) (by intro ds hds; rw [List.mem_singleton] at hds; subst hds; rfl) rfl ?c1 rfl (by unfold maxLen; omega) (by omega) ?_)
        case c1 => rw [List.flatten_cons, List.flatten_nil, List.append_nil]; exact holdsL_atoms _ (by intro c hc; simp only [List.mem_cons, List.not_mem_nil, or_false] at hc; rcases hc with rfl | rfl | rfl | rfl | rfl | rfl <;> rfl)
        intro ao cv w6 hO hg6 hb6
        have E6 := Lib.hid (HE.out.step (u := (.slice c1 o1 q1, .slice c2 o2 q2, .slice c3 o3 q3)) HB.out HU.out (below_new w4 _) hO hg6 (by rw [size_new]; exact hb6))
        clear hO hg6 hb6 O4 HU HB
        go_wp2_with fail
        go_roundw
        case rel => exact ⟨k + 1, ao, cv, us ++ [(.slice c1 o1 q1, .slice c2 o2 q2, .slice c3 o3 q3)], rfl, by go_num, by omega, E6.out⟩
        case measure => simp [intOf]; omega
      · obtain rfl : 8 = k := by omega
        have hl8 : ¬ (8 : Int) < 8 := by omega
        obtain ⟨g, cap, ee, hcap, hge, hR, hL⟩ := hE.rows
        simp only [Value.slice.injEq, true_and] at ee
        obtain ⟨rfl, rfl⟩ := ee
        have BQ : Hid (Below wC.heap.size wC wq) := Lib.hid HE.out.own.bel
        have GE := Lib.hid hge
        obtain ⟨F0, hF0⟩ : ∃ f, f = fC m0 m1 m2 us := ⟨_, rfl⟩
        rw [← hF0] at hR
        have F0Q := Lib.hid hF0
        have R0 := Lib.hid hR
        have HU : Hid (∀ i, i < 8 → HoldsL False (fun q => q ≠ g) wq [(nth us i).1, (nth us i).2.1, (nth us i).2.2] pc.d) := Lib.hid (fun i hi => (hL i hi).wide (fun q _ hq => hq.2))
        obtain ⟨k, hk1, hk2⟩ := at_of a 5 ha0 (by decide)
        have hkm : a.tmod 5 = (k : Int) := by simpa using hk1
        have hk5 : (k : Int) < 5 := by omega
        have hk0 : (0 : Int) ≤ k := by omega
        have NEB : Hid (bc ≠ g) := Lib.hid (fun e => by have := CLT.out; have := GE.out; omega)
        clear hE hge hF0 hR hL hk1 hk2 hk hlt HE
        go_upto_region 10 with fail
        clear hkm
        have c0 : wq.cell? ⟨g, 0, none⟩ = some (.int .i64 m0) := by
          have h := R0.out.cell 0 0 (by decide) (by decide)
          rw [F0Q.out] at h
          exact h
        have f0 := R0.out.frz 0
        go_upto_region 11 with fail
        obtain ⟨wa0, hwa⟩ : ∃ x, x = wq.setCell ⟨g, 0, none⟩ (.int .i64 (6 + (k : Int))) := ⟨_, rfl⟩
        rw [← hwa]
        obtain ⟨F1, hF⟩ : ∃ f, f = up F0 0 0 (.int .i64 (6 + (k : Int))) := ⟨_, rfl⟩
        have R1 : Hid (Rows8 g F1 wa0) := Lib.hid (by rw [hF, hwa]; exact R0.out.set 0 0 0 _ rfl (by decide) (by decide))
        have F1Q := Lib.hid hF
        have SA0 : Hid (SameOn (fun q => q ≠ g) wq wa0) := Lib.hid (by rw [hwa]; exact (SameOn.refl _ _).set _ _ (fun h => h rfl))
        have BQ0 : Hid (Below wC.heap.size wC wa0) := Lib.hid (by rw [hwa]; exact BQ.out.setCell GE.out _)
        have HU0 : Hid (∀ i, i < 8 → HoldsL False (fun q => q ≠ g) wa0 [(nth us i).1, (nth us i).2.1, (nth us i).2.2] pc.d) := Lib.hid (fun i hi => (HU.out i hi).same SA0.out)
        clear hwa hF c0 f0 R0 HU BQ SA0
        have c0 : wa0.cell? ⟨g, 7, none⟩ = some (.int .i64 m1) := by
          have h := R1.out.cell 1 1 (by decide) (by decide)
          rw [F1Q.out, F0Q.out] at h
          exact h
        have f0 := R1.out.frz 7
        go_upto_region 12 with fail
        obtain ⟨wa1, hwa⟩ : ∃ x, x = wa0.setCell ⟨g, 7, none⟩ (.int .i64 (8 + (k : Int))) := ⟨_, rfl⟩
        rw [← hwa]
        obtain ⟨F2, hF⟩ : ∃ f, f = up F1 1 1 (.int .i64 (8 + (k : Int))) := ⟨_, rfl⟩
        have R2 : Hid (Rows8 g F2 wa1) := Lib.hid (by rw [hF, hwa]; exact R1.out.set 1 1 7 _ rfl (by decide) (by decide))
        have F2Q := Lib.hid hF
        have SA1 : Hid (SameOn (fun q => q ≠ g) wa0 wa1) := Lib.hid (by rw [hwa]; exact (SameOn.refl _ _).set _ _ (fun h => h rfl))
        have BQ1 : Hid (Below wC.heap.size wC wa1) := Lib.hid (by rw [hwa]; exact BQ0.out.setCell GE.out _)
        have HU1 : Hid (∀ i, i < 8 → HoldsL False (fun q => q ≠ g) wa1 [(nth us i).1, (nth us i).2.1, (nth us i).2.2] pc.d) := Lib.hid (fun i hi => (HU0.out i hi).same SA1.out)
        clear hwa hF c0 f0 R1 HU0 BQ0 SA1
        have c0 : wa1.cell? ⟨g, 14, none⟩ = some (.int .i64 m2) := by
          have h := R2.out.cell 2 2 (by decide) (by decide)
          rw [F2Q.out, F1Q.out, F0Q.out] at h
          exact h
        have f0 := R2.out.frz 14
        go_upto_region 13 with fail
        obtain ⟨wa2, hwa⟩ : ∃ x, x = wa1.setCell ⟨g, 14, none⟩ (.int .i64 (-1 - (k : Int))) := ⟨_, rfl⟩
        rw [← hwa]
        obtain ⟨F3, hF⟩ : ∃ f, f = up F2 2 2 (.int .i64 (-1 - (k : Int))) := ⟨_, rfl⟩
        have R3 : Hid (Rows8 g F3 wa2) := Lib.hid (by rw [hF, hwa]; exact R2.out.set 2 2 14 _ rfl (by decide) (by decide))
        have F3Q := Lib.hid hF
        have SA2 : Hid (SameOn (fun q => q ≠ g) wa1 wa2) := Lib.hid (by rw [hwa]; exact (SameOn.refl _ _).set _ _ (fun h => h rfl))
        have BQ2 : Hid (Below wC.heap.size wC wa2) := Lib.hid (by rw [hwa]; exact BQ1.out.setCell GE.out _)
        have HU2 : Hid (∀ i, i < 8 → HoldsL False (fun q => q ≠ g) wa2 [(nth us i).1, (nth us i).2.1, (nth us i).2.2] pc.d) := Lib.hid (fun i hi => (HU1.out i hi).same SA2.out)
        clear hwa hF c0 f0 R2 HU1 BQ1 SA2
        have hc := (HU2.out 3 (by decide))
        obtain ⟨_, _, _, _, _, _, _, _, _, q1, q2, q3⟩ := pc_slices hc.weak
        obtain ⟨sa, sn, sc, hq⟩ : ∃ sa sn sc, (nth us 3).1 = .slice sa sn sc := ⟨_, _, _, q1⟩
        clear q1 q2 q3
        have hh := (hl_at hc).1
        rw [hq] at hh
        have hn : sn = pc.sent.length := by have h := Holds.len hh; obtain ⟨_, _, e'⟩ := h; rw [List.length_map] at e'; cases e'; rfl
        have hln : l1 = pc.sent.length := by have h := Holds.len (hl_at HC.out).1; obtain ⟨_, _, e'⟩ := h; rw [List.length_map] at e'; cases e'; rfl
        obtain ⟨t, ht⟩ : ∃ t, t = min l1 4 := ⟨_, rfl⟩
        have hm1 : (if 4 < (l1 : Int) then (4 : Int) else (l1 : Int)) = (t : Int) := by split <;> omega
        have hm2 : min (l1 : Int) 4 = (t : Int) := by omega
        have ht4 : t ≤ 4 := by omega
        have hcp := capOf hh
        have htc : t ≤ sc := by omega
        have HT : Hid (Holds False (fun q => q ≠ g ∧ q < wa2.heap.size) wa2 (.slice sa t sc) (.row 1 ((pc.sent.take 4).map (fun a => [dI a])))) := Lib.hid (by
          have h := Holds.take (m := t) hh (by rw [List.length_map]; omega)
          rw [← List.map_take, show pc.sent.take t = pc.sent.take 4 by
            rcases Nat.lt_or_ge pc.sent.length 4 with h4 | h4
            · rw [List.take_of_length_le (by omega), List.take_of_length_le (by omega)]
            · rw [show t = 4 by omega]] at h
          exact h.wide (fun q hq hp => ⟨hp, hq⟩))
        have c0 : wa2.cell? ⟨g, 21, none⟩ = some (.slice sa sn sc) := by
          have h := R3.out.cell 3 3 (by decide) (by decide)
          rw [F3Q.out, F2Q.out, F1Q.out, F0Q.out] at h
          rw [← hq]
          exact h
        have C0 := Lib.hid c0
        have F0F := Lib.hid (R3.out.frz 21)
        have GLT := Lib.hid R3.out.lt
        have SC : Hid (∀ y, Below wa2.heap.size wa2 y → (fun wz : World => wz.cell? ⟨bc, 3, none⟩ = some (.slice b1 l1 f1)) y) := Lib.hid (fun y hb => KC.out.below (below_step' BQ2.out hb) 3 _ rfl)
        have BCL : Hid (bc < wa2.heap.size) := Lib.hid (Nat.lt_of_lt_of_le CLT.out BQ2.out.size)
        clear hc hq hh hn hln ht hcp c0
        have hwr0 : IntKind.i64.wrap (501 + (k : Int)) = 501 + (k : Int) := IntWalk.i64_in _ (by omega)
        go_cut [] from 9 (fun wz => ∃ (va : Option Addr) (vn vc : Nat), Rows8 g (up F3 3 3 (.slice va vn vc)) wz ∧ Below wC.heap.size wC wz ∧ SameOn (fun q => q ≠ g) wa2 wz ∧ Holds False (fun q => q ≠ g) wz (.slice va vn vc) (dInts ((501 + (k : Int)) :: pc.sent.take 4)))
        case first =>
          refine wp_region_held_drew (S := (fun wz : World => wz.cell? ⟨bc, 3, none⟩ = some (.slice b1 l1 f1))) (by kernel_rfl) ?_ (fun hHeld => ?_)
          · exact SC.out _ (below_drewN (Below.refl wa2.heap.size wa2) 1)
          obtain ⟨y0, hy0⟩ : ∃ y, y = wa2.drew := ⟨_, rfl⟩
          rw [← hy0] at hHeld ⊢
          have Y0 : Hid (Below wa2.heap.size wa2 y0) := Lib.hid (by rw [hy0]; exact below_drewN (Below.refl wa2.heap.size wa2) 1)
          clear hy0
          refine tq 0 ?_
          refine tq 1 ?_
          refine tq 2 ?_
          refine tq 4 ?_
          refine tq 5 ?_
          refine tq 6 ?_
          refine tq 8 ?_
          refine tq 9 ?_
          refine tq 10 ?_
          refine tq 11 ?_
          refine wpAnyH_ready (rs := [3, 7]) (by kernel_rfl) (by simp) ?_
          refine AllReadyH.cons rfl (fun K hK => ?_) (AllReadyH.cons rfl (fun K hK => ?_) AllReadyH.nil)
          · go_simp
            refine hK.out _ _ ?_ (fun hHeld => ?_)
            · exact SC.out _ (below_step' Y0.out (below_new _ _))
            clear hK K
            try simp only [Act.put, List.getElem_toArray, List.getElem_cons_zero, List.getElem_cons_succ, List.setIfInBounds_toArray, List.set_cons_zero, List.set_cons_succ]
            obtain ⟨y1, hy⟩ : ∃ y, y = y0.alloc (.cells #[.int .i64 (501 + (k : Int))] 3) := ⟨_, rfl⟩
            have A1 := Lib.hid hy
            have Y1 : Hid (Below wa2.heap.size wa2 y1) := Lib.hid (by rw [hy]; exact below_step' Y0.out (below_new _ _))
            rw [← hy] at hHeld ⊢
            clear hy
            refine rd 7 fun K hK => ?_
            have kc : y1.cell? ⟨g, 21, none⟩ = some (.slice sa sn sc) := (Y1.out.cell (p := ⟨g, 21, none⟩) GLT.out).trans C0.out
            go_simp
            clear kc
            refine hK.out _ _ ?_ (fun hHeld => ?_)
            · exact SC.out _ Y1.out
            clear hK K
            try simp only [Act.put, List.getElem_toArray, List.getElem_cons_zero, List.getElem_cons_succ, List.setIfInBounds_toArray, List.set_cons_zero, List.set_cons_succ]
            refine tq 12 ?_
            have O1 : Hid (Own False (fun q => q ≠ g) 3 1 wC (y0.heap.size + 1) y1 (.slice (some ⟨y0.heap.size, 0, none⟩) 1 1) [[dI (501 + (k : Int))]]) := Lib.hid (by rw [A1.out]; exact Own.lit [.int .i64 (501 + (k : Int))] [[dI (501 + (k : Int))]] (below_step' BQ2.out Y0.out) (by unfold maxLen; omega) rfl (by intro ds hds; rw [List.mem_singleton] at hds; subst hds; rfl) (hl_int hl_nil))
            obtain ⟨hln2, hno, news, hnews, hhl⟩ := newsP (HT.out.later Y1.out) (by intro ds hds; obtain ⟨x, _, rfl⟩ := List.mem_map.1 hds; rfl)
            refine wpAnyH_ready (rs := [13]) (by kernel_rfl) (by simp) ?_
            refine AllReadyH.cons rfl (fun K hK => ?_) AllReadyH.nil
            refine appS rfl _ _ 22 3 i0 (.int .i64 0) 1 8 rfl Try.underlying22 hi0 hz0 hs0 hby0 rfl (by decide) False (fun q => q ≠ g) wC _ _ _ ((pc.sent.take 4).map (fun a => [dI a])) 1 t sc (1 + t) rfl O1.out rfl sa rfl news hnews hno (by intro ds hds; obtain ⟨x, _, rfl⟩ := List.mem_map.1 hds; rfl) hln2 (hhl.wide (fun q hq hp => ⟨hp.1, fun e => by have e2 : y0.heap.size = q := Option.some.inj e; have := Y0.out.size; have := hp.2; omega, fun s => s.elim⟩)) rfl (by unfold maxLen; omega) (by omega) ?_
            intro ao cv w6 hO hg6 hb6
            have SZY : wa2.heap.size ≤ y0.heap.size := Y0.out.size
            have BW6 : Hid (Below wa2.heap.size wa2 w6) := Lib.hid (Y1.out.grown hg6 Y1.out.size (fun q hq => by have e2 : y0.heap.size = q := Option.some.inj hq; omega))
            have HN : Hid (Holds False (fun q => q ≠ g) w6 (.slice ao (1 + t) cv) (dInts ((501 + (k : Int)) :: pc.sent.take 4))) := Lib.hid (hO.holds (fun q hq => by
              have hgl := GLT.out
              have hyl := Y1.out.size
              rcases hb6 with e | e
              · rw [e] at hq; have e2 : y0.heap.size = q := Option.some.inj hq; omega
              · rw [e] at hq; have e2 : y1.heap.size = q := Option.some.inj hq; omega))
            clear hO hg6 hb6 hhl hnews hno hln2 O1 SZY
            refine hK.out _ _ ?_ (fun hHeld => ?_)
            · exact SC.out _ BW6.out
            clear hK K
            try simp only [Act.put, List.getElem_toArray, List.getElem_cons_zero, List.getElem_cons_succ, List.setIfInBounds_toArray, List.set_cons_zero, List.set_cons_succ]
            refine tq 14 ?_
            refine tq 15 ?_
            refine rd 16 fun K hK => ?_
            have kc : w6.cell? ⟨g, 21, none⟩ = some (.slice sa sn sc) := (BW6.out.cell (p := ⟨g, 21, none⟩) GLT.out).trans C0.out
            have kf : w6.frozen? ⟨g, 21, none⟩ = false := (BW6.out.frozen (p := ⟨g, 21, none⟩) GLT.out).trans F0F.out
            go_simp
            clear kc kf
            refine hK.out _ _ ?_ (fun hHeld => ?_)
            · exact (World.cell?_setCell_other _ _ _ _ (by have := NEB.out; simp <;> omega)).trans (SC.out _ BW6.out)
            clear hK K
            try simp only [Act.put, List.getElem_toArray, List.getElem_cons_zero, List.getElem_cons_succ, List.setIfInBounds_toArray, List.set_cons_zero, List.set_cons_succ]
            refine wpAnyH_done (by kernel_rfl) ?_ _
            go_wp2_with fail
            go_meet
            case rel => exact ⟨ao, 1 + t, cv, (R3.out.below BW6.out).set 3 3 21 _ rfl (by decide) (by decide), (below_step' BQ2.out BW6.out).setCell GE.out _, (SameOn.of_below BW6.out).set _ _ (fun h => h rfl), HN.out.same ((SameOn.refl _ _).set _ _ (fun h => h rfl))⟩
          · have kc : y0.cell? ⟨g, 21, none⟩ = some (.slice sa sn sc) := (Y0.out.cell (p := ⟨g, 21, none⟩) GLT.out).trans C0.out
            go_simp
            clear kc
            refine hK.out _ _ ?_ (fun hHeld => ?_)
            · exact SC.out _ Y0.out
            clear hK K
            try simp only [Act.put, List.getElem_toArray, List.getElem_cons_zero, List.getElem_cons_succ, List.setIfInBounds_toArray, List.set_cons_zero, List.set_cons_succ]
            refine tq 12 ?_
            refine rd 3 fun K hK => ?_
            go_simp
            refine hK.out _ _ ?_ (fun hHeld => ?_)
            · exact SC.out _ (below_step' Y0.out (below_new _ _))
            clear hK K
            try simp only [Act.put, List.getElem_toArray, List.getElem_cons_zero, List.getElem_cons_succ, List.setIfInBounds_toArray, List.set_cons_zero, List.set_cons_succ]
            obtain ⟨y1, hy⟩ : ∃ y, y = y0.alloc (.cells #[.int .i64 (501 + (k : Int))] 3) := ⟨_, rfl⟩
            have A1 := Lib.hid hy
            have Y1 : Hid (Below wa2.heap.size wa2 y1) := Lib.hid (by rw [hy]; exact below_step' Y0.out (below_new _ _))
            rw [← hy] at hHeld ⊢
            clear hy
            have O1 : Hid (Own False (fun q => q ≠ g) 3 1 wC (y0.heap.size + 1) y1 (.slice (some ⟨y0.heap.size, 0, none⟩) 1 1) [[dI (501 + (k : Int))]]) := Lib.hid (by rw [A1.out]; exact Own.lit [.int .i64 (501 + (k : Int))] [[dI (501 + (k : Int))]] (below_step' BQ2.out Y0.out) (by unfold maxLen; omega) rfl (by intro ds hds; rw [List.mem_singleton] at hds; subst hds; rfl) (hl_int hl_nil))
            obtain ⟨hln2, hno, news, hnews, hhl⟩ := newsP (HT.out.later Y1.out) (by intro ds hds; obtain ⟨x, _, rfl⟩ := List.mem_map.1 hds; rfl)
            refine wpAnyH_ready (rs := [13]) (by kernel_rfl) (by simp) ?_
            refine AllReadyH.cons rfl (fun K hK => ?_) AllReadyH.nil
            refine appS rfl _ _ 22 3 i0 (.int .i64 0) 1 8 rfl Try.underlying22 hi0 hz0 hs0 hby0 rfl (by decide) False (fun q => q ≠ g) wC _ _ _ ((pc.sent.take 4).map (fun a => [dI a])) 1 t sc (1 + t) rfl O1.out rfl sa rfl news hnews hno (by intro ds hds; obtain ⟨x, _, rfl⟩ := List.mem_map.1 hds; rfl) hln2 (hhl.wide (fun q hq hp => ⟨hp.1, fun e => by have e2 : y0.heap.size = q := Option.some.inj e; have := Y0.out.size; have := hp.2; omega, fun s => s.elim⟩)) rfl (by unfold maxLen; omega) (by omega) ?_
            intro ao cv w6 hO hg6 hb6
            have SZY : wa2.heap.size ≤ y0.heap.size := Y0.out.size
            have BW6 : Hid (Below wa2.heap.size wa2 w6) := Lib.hid (Y1.out.grown hg6 Y1.out.size (fun q hq => by have e2 : y0.heap.size = q := Option.some.inj hq; omega))
            have HN : Hid (Holds False (fun q => q ≠ g) w6 (.slice ao (1 + t) cv) (dInts ((501 + (k : Int)) :: pc.sent.take 4))) := Lib.hid (hO.holds (fun q hq => by
              have hgl := GLT.out
              have hyl := Y1.out.size
              rcases hb6 with e | e
              · rw [e] at hq; have e2 : y0.heap.size = q := Option.some.inj hq; omega
              · rw [e] at hq; have e2 : y1.heap.size = q := Option.some.inj hq; omega))
            clear hO hg6 hb6 hhl hnews hno hln2 O1 SZY
            refine hK.out _ _ ?_ (fun hHeld => ?_)
            · exact SC.out _ BW6.out
            clear hK K
            try simp only [Act.put, List.getElem_toArray, List.getElem_cons_zero, List.getElem_cons_succ, List.setIfInBounds_toArray, List.set_cons_zero, List.set_cons_succ]
            refine tq 14 ?_
            refine tq 15 ?_
            refine rd 16 fun K hK => ?_
            have kc : w6.cell? ⟨g, 21, none⟩ = some (.slice sa sn sc) := (BW6.out.cell (p := ⟨g, 21, none⟩) GLT.out).trans C0.out
            have kf : w6.frozen? ⟨g, 21, none⟩ = false := (BW6.out.frozen (p := ⟨g, 21, none⟩) GLT.out).trans F0F.out
            go_simp
            clear kc kf
            refine hK.out _ _ ?_ (fun hHeld => ?_)
            · exact (World.cell?_setCell_other _ _ _ _ (by have := NEB.out; simp <;> omega)).trans (SC.out _ BW6.out)
            clear hK K
            try simp only [Act.put, List.getElem_toArray, List.getElem_cons_zero, List.getElem_cons_succ, List.setIfInBounds_toArray, List.set_cons_zero, List.set_cons_succ]
            refine wpAnyH_done (by kernel_rfl) ?_ _
            go_wp2_with fail
            go_meet
            case rel => exact ⟨ao, 1 + t, cv, (R3.out.below BW6.out).set 3 3 21 _ rfl (by decide) (by decide), (below_step' BQ2.out BW6.out).setCell GE.out _, (SameOn.of_below BW6.out).set _ _ (fun h => h rfl), HN.out.same ((SameOn.refl _ _).set _ _ (fun h => h rfl))⟩
        case rest =>
          obtain ⟨va3, vn3, vc3, hr, hb, hs, hn⟩ := hcut
          obtain ⟨wa3, hwa⟩ : ∃ x, x = wc := ⟨_, rfl⟩
          subst hwa
          obtain ⟨F4, hF⟩ : ∃ f, f = up F3 3 3 (.slice va3 vn3 vc3) := ⟨_, rfl⟩
          rw [← hF] at hr
          have F4Q := Lib.hid hF
          have R4 := Lib.hid hr
          have BQ3 := Lib.hid hb
          have N3 := Lib.hid hn
          have HU3 : Hid (∀ i, i < 8 → HoldsL False (fun q => q ≠ g) wa3 [(nth us i).1, (nth us i).2.1, (nth us i).2.2] pc.d) := Lib.hid (fun i hi => (HU2.out i hi).same hs)
          clear hwr0
          clear hr hb hs hn hF SC C0 F0F GLT HT BCL hm1 hm2 ht4 htc R3 HU2 BQ2
          go_upto_region 14 with fail
          have hc := (HU3.out 4 (by decide))
          obtain ⟨_, _, _, _, _, _, _, _, _, q1, q2, q3⟩ := pc_slices hc.weak
          obtain ⟨sa, sn, sc, hq⟩ : ∃ sa sn sc, (nth us 4).2.1 = .slice sa sn sc := ⟨_, _, _, q2⟩
          clear q1 q2 q3
          have hh := (hl_at hc).2.1
          rw [hq] at hh
          have hn : sn = pc.inn.length := by have h := Holds.len hh; obtain ⟨_, _, e'⟩ := h; rw [List.length_map] at e'; cases e'; rfl
          have hln : l2 = pc.inn.length := by have h := Holds.len (hl_at HC.out).2.1; obtain ⟨_, _, e'⟩ := h; rw [List.length_map] at e'; cases e'; rfl
          obtain ⟨t, ht⟩ : ∃ t, t = min l2 4 := ⟨_, rfl⟩
          have hm1 : (if 4 < (l2 : Int) then (4 : Int) else (l2 : Int)) = (t : Int) := by split <;> omega
          have hm2 : min (l2 : Int) 4 = (t : Int) := by omega
          have ht4 : t ≤ 4 := by omega
          have hcp := capOf hh
          have htc : t ≤ sc := by omega
          have HT : Hid (Holds False (fun q => q ≠ g ∧ q < wa3.heap.size) wa3 (.slice sa t sc) (.row 1 ((pc.inn.take 4).map (fun m => [dLinks m])))) := Lib.hid (by
            have h := Holds.take (m := t) hh (by rw [List.length_map]; omega)
            rw [← List.map_take, show pc.inn.take t = pc.inn.take 4 by
              rcases Nat.lt_or_ge pc.inn.length 4 with h4 | h4
              · rw [List.take_of_length_le (by omega), List.take_of_length_le (by omega)]
              · rw [show t = 4 by omega]] at h
            exact h.wide (fun q hq hp => ⟨hp, hq⟩))
          have c0 : wa3.cell? ⟨g, 28, none⟩ = some (.slice sa sn sc) := by
            have h := R4.out.cell 4 4 (by decide) (by decide)
            rw [F4Q.out, F3Q.out, F2Q.out, F1Q.out, F0Q.out] at h
            rw [← hq]
            exact h
          have C0 := Lib.hid c0
          have F0F := Lib.hid (R4.out.frz 28)
          have GLT := Lib.hid R4.out.lt
          have SC : Hid (∀ y, Below wa3.heap.size wa3 y → (fun wz : World => wz.cell? ⟨bc, 4, none⟩ = some (.slice b2 l2 f2)) y) := Lib.hid (fun y hb => KC.out.below (below_step' BQ3.out hb) 4 _ rfl)
          have BCL : Hid (bc < wa3.heap.size) := Lib.hid (Nat.lt_of_lt_of_le CLT.out BQ3.out.size)
          clear hc hq hh hn hln ht hcp c0
          have hwr0 : IntKind.i64.wrap (2 + (k : Int)) = 2 + (k : Int) := IntWalk.i64_in _ (by omega)
          have hwr1 : IntKind.i64.wrap (1 + (k : Int)) = 1 + (k : Int) := IntWalk.i64_in _ (by omega)
          go_cut [] from 9 (fun wz => ∃ (va : Option Addr) (vn vc : Nat), Rows8 g (up F4 4 4 (.slice va vn vc)) wz ∧ Below wC.heap.size wC wz ∧ SameOn (fun q => q ≠ g) wa3 wz ∧ Holds False (fun q => q ≠ g) wz (.slice va vn vc) (dLls ([(2 + (k : Int), 0), (1 + (k : Int), 0)] :: pc.inn.take 4)))
          case first =>
            refine wp_region_held_drew (S := (fun wz : World => wz.cell? ⟨bc, 4, none⟩ = some (.slice b2 l2 f2))) (by kernel_rfl) ?_ (fun hHeld => ?_)
            · exact SC.out _ (below_drewN (Below.refl wa3.heap.size wa3) 1)
            obtain ⟨y0, hy0⟩ : ∃ y, y = wa3.drew := ⟨_, rfl⟩
            rw [← hy0] at hHeld ⊢
            have Y0 : Hid (Below wa3.heap.size wa3 y0) := Lib.hid (by rw [hy0]; exact below_drewN (Below.refl wa3.heap.size wa3) 1)
            clear hy0
            refine tq 0 ?_
            refine tq 1 ?_
            refine tq 2 ?_
            refine tq 3 ?_
            refine tq 4 ?_
            refine tq 5 ?_
            refine tq 6 ?_
            refine tq 9 ?_
            refine tq 10 ?_
            refine tq 11 ?_
            refine tq 13 ?_
            refine tq 14 ?_
            refine tq 15 ?_
            refine tq 16 ?_
            refine wpAnyH_ready (rs := [7, 12]) (by kernel_rfl) (by simp) ?_
            refine AllReadyH.cons rfl (fun K hK => ?_) (AllReadyH.cons rfl (fun K hK => ?_) AllReadyH.nil)
            · go_simp
              refine hK.out _ _ ?_ (fun hHeld => ?_)
              · exact SC.out _ (below_step' Y0.out (below_new _ _))
              clear hK K
              try simp only [Act.put, List.getElem_toArray, List.getElem_cons_zero, List.getElem_cons_succ, List.setIfInBounds_toArray, List.set_cons_zero, List.set_cons_succ]
              obtain ⟨y1, hy⟩ : ∃ y, y = y0.alloc (.cells #[.int .i64 (2 + (k : Int)), .int .i64 0, .int .i64 (1 + (k : Int)), .int .i64 0] 47) := ⟨_, rfl⟩
              have A1 := Lib.hid hy
              have Y1 : Hid (Below wa3.heap.size wa3 y1) := Lib.hid (by rw [hy]; exact below_step' Y0.out (below_new _ _))
              rw [← hy] at hHeld ⊢
              clear hy
              refine wpAnyH_ready (rs := [8, 12]) (by kernel_rfl) (by simp) ?_
              refine AllReadyH.cons rfl (fun K hK => ?_) (AllReadyH.cons rfl (fun K hK => ?_) AllReadyH.nil)
              · go_simp
                refine hK.out _ _ ?_ (fun hHeld => ?_)
                · exact SC.out _ (below_step' Y1.out (below_new _ _))
                clear hK K
                try simp only [Act.put, List.getElem_toArray, List.getElem_cons_zero, List.getElem_cons_succ, List.setIfInBounds_toArray, List.set_cons_zero, List.set_cons_succ]
                obtain ⟨y2, hy⟩ : ∃ y, y = y1.alloc (.cells #[.slice (some ⟨y0.heap.size, 0, none⟩) 2 2] 45) := ⟨_, rfl⟩
                have A2 := Lib.hid hy
                have Y2 : Hid (Below wa3.heap.size wa3 y2) := Lib.hid (by rw [hy]; exact below_step' Y1.out (below_new _ _))
                rw [← hy] at hHeld ⊢
                clear hy
                refine rd 12 fun K hK => ?_
                have kc : y2.cell? ⟨g, 28, none⟩ = some (.slice sa sn sc) := (Y2.out.cell (p := ⟨g, 28, none⟩) GLT.out).trans C0.out
                go_simp
                clear kc
                refine hK.out _ _ ?_ (fun hHeld => ?_)
                · exact SC.out _ Y2.out
                clear hK K
                try simp only [Act.put, List.getElem_toArray, List.getElem_cons_zero, List.getElem_cons_succ, List.setIfInBounds_toArray, List.set_cons_zero, List.set_cons_succ]
                refine tq 17 ?_
                have I1 : Hid (Holds False (fun q => q ≠ g ∧ q < y1.heap.size) y1 (.slice (some ⟨y0.heap.size, 0, none⟩) 2 2) (dLinks [(2 + (k : Int), 0), (1 + (k : Int), 0)])) := Lib.hid (by
                  have h : Own False (fun q => q ≠ g) 47 2 wC (y0.heap.size + 1) y1 (.slice (some ⟨y0.heap.size, 0, none⟩) 2 2) [[dI (2 + (k : Int)), dI 0], [dI (1 + (k : Int)), dI 0]] := by
                    rw [A1.out]
                    exact Own.lit [.int .i64 (2 + (k : Int)), .int .i64 0, .int .i64 (1 + (k : Int)), .int .i64 0] [[dI (2 + (k : Int)), dI 0], [dI (1 + (k : Int)), dI 0]] (below_step' BQ3.out Y0.out) (by unfold maxLen; omega) rfl (by intro ds hds; simp only [List.mem_cons, List.not_mem_nil, or_false] at hds; rcases hds with rfl | rfl <;> rfl) (hl_int (hl_int (hl_int (hl_int (hl_nil)))))
                  exact (h.holds (fun q hq => by have e2 : y0.heap.size = q := Option.some.inj hq; have := GLT.out; have := Y0.out.size; omega)).wide (fun q hq hp => ⟨hp, hq⟩))
                have O1 : Hid (Own False (fun q => q ≠ g) 45 1 wC (y1.heap.size + 1) y2 (.slice (some ⟨y1.heap.size, 0, none⟩) 1 1) [[dLinks [(2 + (k : Int), 0), (1 + (k : Int), 0)]]]) := Lib.hid (by rw [A2.out]; exact Own.lit [.slice (some ⟨y0.heap.size, 0, none⟩) 2 2] [[dLinks [(2 + (k : Int), 0), (1 + (k : Int), 0)]]] (below_step' BQ3.out Y1.out) (by unfold maxLen; omega) rfl (by intro ds hds; rw [List.mem_singleton] at hds; subst hds; rfl) (hl_cons I1.out hl_nil))
                obtain ⟨hln2, hno, news, hnews, hhl⟩ := newsP (HT.out.later Y2.out) (by intro ds hds; obtain ⟨x, _, rfl⟩ := List.mem_map.1 hds; rfl)
                refine wpAnyH_ready (rs := [18]) (by kernel_rfl) (by simp) ?_
                refine AllReadyH.cons rfl (fun K hK => ?_) AllReadyH.nil
                refine appS rfl _ _ 23 45 iL (.slice none 0 0) 1 24 rfl Try.underlying23 hiL hzL hsL hbyL rfl (by decide) False (fun q => q ≠ g) wC _ _ _ ((pc.inn.take 4).map (fun m => [dLinks m])) 1 t sc (1 + t) rfl O1.out rfl sa rfl news hnews hno (by intro ds hds; obtain ⟨x, _, rfl⟩ := List.mem_map.1 hds; rfl) hln2 (hhl.wide (fun q hq hp => ⟨hp.1, fun e => by have e2 : y1.heap.size = q := Option.some.inj e; have := Y1.out.size; have := hp.2; omega, fun s => s.elim⟩)) rfl (by unfold maxLen; omega) (by omega) ?_
                intro ao cv w6 hO hg6 hb6
                have SZY : wa3.heap.size ≤ y1.heap.size := Y1.out.size
                have BW6 : Hid (Below wa3.heap.size wa3 w6) := Lib.hid (Y2.out.grown hg6 Y2.out.size (fun q hq => by have e2 : y1.heap.size = q := Option.some.inj hq; omega))
                have HN : Hid (Holds False (fun q => q ≠ g) w6 (.slice ao (1 + t) cv) (dLls ([(2 + (k : Int), 0), (1 + (k : Int), 0)] :: pc.inn.take 4))) := Lib.hid (hO.holds (fun q hq => by
                  have hgl := GLT.out
                  have hyl := Y2.out.size
                  rcases hb6 with e | e
                  · rw [e] at hq; have e2 : y1.heap.size = q := Option.some.inj hq; omega
                  · rw [e] at hq; have e2 : y2.heap.size = q := Option.some.inj hq; omega))
                clear hO hg6 hb6 hhl hnews hno hln2 O1 SZY
                refine hK.out _ _ ?_ (fun hHeld => ?_)
                · exact SC.out _ BW6.out
                clear hK K
                try simp only [Act.put, List.getElem_toArray, List.getElem_cons_zero, List.getElem_cons_succ, List.setIfInBounds_toArray, List.set_cons_zero, List.set_cons_succ]
                refine tq 19 ?_
                refine tq 20 ?_
                refine rd 21 fun K hK => ?_
                have kc : w6.cell? ⟨g, 28, none⟩ = some (.slice sa sn sc) := (BW6.out.cell (p := ⟨g, 28, none⟩) GLT.out).trans C0.out
                have kf : w6.frozen? ⟨g, 28, none⟩ = false := (BW6.out.frozen (p := ⟨g, 28, none⟩) GLT.out).trans F0F.out
                go_simp
                clear kc kf
                refine hK.out _ _ ?_ (fun hHeld => ?_)
                · exact (World.cell?_setCell_other _ _ _ _ (by have := NEB.out; simp <;> omega)).trans (SC.out _ BW6.out)
                clear hK K
                try simp only [Act.put, List.getElem_toArray, List.getElem_cons_zero, List.getElem_cons_succ, List.setIfInBounds_toArray, List.set_cons_zero, List.set_cons_succ]
                refine wpAnyH_done (by kernel_rfl) ?_ _
                go_wp2_with fail
                go_meet
                case rel => exact ⟨ao, 1 + t, cv, (R4.out.below BW6.out).set 4 4 28 _ rfl (by decide) (by decide), (below_step' BQ3.out BW6.out).setCell GE.out _, (SameOn.of_below BW6.out).set _ _ (fun h => h rfl), HN.out.same ((SameOn.refl _ _).set _ _ (fun h => h rfl))⟩
              · have kc : y1.cell? ⟨g, 28, none⟩ = some (.slice sa sn sc) := (Y1.out.cell (p := ⟨g, 28, none⟩) GLT.out).trans C0.out
                go_simp
                clear kc
                refine hK.out _ _ ?_ (fun hHeld => ?_)
                · exact SC.out _ Y1.out
                clear hK K
                try simp only [Act.put, List.getElem_toArray, List.getElem_cons_zero, List.getElem_cons_succ, List.setIfInBounds_toArray, List.set_cons_zero, List.set_cons_succ]
                refine tq 17 ?_
                refine rd 8 fun K hK => ?_
                go_simp
                refine hK.out _ _ ?_ (fun hHeld => ?_)
                · exact SC.out _ (below_step' Y1.out (below_new _ _))
                clear hK K
                try simp only [Act.put, List.getElem_toArray, List.getElem_cons_zero, List.getElem_cons_succ, List.setIfInBounds_toArray, List.set_cons_zero, List.set_cons_succ]
                obtain ⟨y2, hy⟩ : ∃ y, y = y1.alloc (.cells #[.slice (some ⟨y0.heap.size, 0, none⟩) 2 2] 45) := ⟨_, rfl⟩
                have A2 := Lib.hid hy
                have Y2 : Hid (Below wa3.heap.size wa3 y2) := Lib.hid (by rw [hy]; exact below_step' Y1.out (below_new _ _))
                rw [← hy] at hHeld ⊢
                clear hy
                have I1 : Hid (Holds False (fun q => q ≠ g ∧ q < y1.heap.size) y1 (.slice (some ⟨y0.heap.size, 0, none⟩) 2 2) (dLinks [(2 + (k : Int), 0), (1 + (k : Int), 0)])) := Lib.hid (by
                  have h : Own False (fun q => q ≠ g) 47 2 wC (y0.heap.size + 1) y1 (.slice (some ⟨y0.heap.size, 0, none⟩) 2 2) [[dI (2 + (k : Int)), dI 0], [dI (1 + (k : Int)), dI 0]] := by
                    rw [A1.out]
                    exact Own.lit [.int .i64 (2 + (k : Int)), .int .i64 0, .int .i64 (1 + (k : Int)), .int .i64 0] [[dI (2 + (k : Int)), dI 0], [dI (1 + (k : Int)), dI 0]] (below_step' BQ3.out Y0.out) (by unfold maxLen; omega) rfl (by intro ds hds; simp only [List.mem_cons, List.not_mem_nil, or_false] at hds; rcases hds with rfl | rfl <;> rfl) (hl_int (hl_int (hl_int (hl_int (hl_nil)))))
                  exact (h.holds (fun q hq => by have e2 : y0.heap.size = q := Option.some.inj hq; have := GLT.out; have := Y0.out.size; omega)).wide (fun q hq hp => ⟨hp, hq⟩))
                have O1 : Hid (Own False (fun q => q ≠ g) 45 1 wC (y1.heap.size + 1) y2 (.slice (some ⟨y1.heap.size, 0, none⟩) 1 1) [[dLinks [(2 + (k : Int), 0), (1 + (k : Int), 0)]]]) := Lib.hid (by rw [A2.out]; exact Own.lit [.slice (some ⟨y0.heap.size, 0, none⟩) 2 2] [[dLinks [(2 + (k : Int), 0), (1 + (k : Int), 0)]]] (below_step' BQ3.out Y1.out) (by unfold maxLen; omega) rfl (by intro ds hds; rw [List.mem_singleton] at hds; subst hds; rfl) (hl_cons I1.out hl_nil))
                obtain ⟨hln2, hno, news, hnews, hhl⟩ := newsP (HT.out.later Y2.out) (by intro ds hds; obtain ⟨x, _, rfl⟩ := List.mem_map.1 hds; rfl)
                refine wpAnyH_ready (rs := [18]) (by kernel_rfl) (by simp) ?_
                refine AllReadyH.cons rfl (fun K hK => ?_) AllReadyH.nil
                refine appS rfl _ _ 23 45 iL (.slice none 0 0) 1 24 rfl Try.underlying23 hiL hzL hsL hbyL rfl (by decide) False (fun q => q ≠ g) wC _ _ _ ((pc.inn.take 4).map (fun m => [dLinks m])) 1 t sc (1 + t) rfl O1.out rfl sa rfl news hnews hno (by intro ds hds; obtain ⟨x, _, rfl⟩ := List.mem_map.1 hds; rfl) hln2 (hhl.wide (fun q hq hp => ⟨hp.1, fun e => by have e2 : y1.heap.size = q := Option.some.inj e; have := Y1.out.size; have := hp.2; omega, fun s => s.elim⟩)) rfl (by unfold maxLen; omega) (by omega) ?_
                intro ao cv w6 hO hg6 hb6
                have SZY : wa3.heap.size ≤ y1.heap.size := Y1.out.size
                have BW6 : Hid (Below wa3.heap.size wa3 w6) := Lib.hid (Y2.out.grown hg6 Y2.out.size (fun q hq => by have e2 : y1.heap.size = q := Option.some.inj hq; omega))
                have HN : Hid (Holds False (fun q => q ≠ g) w6 (.slice ao (1 + t) cv) (dLls ([(2 + (k : Int), 0), (1 + (k : Int), 0)] :: pc.inn.take 4))) := Lib.hid (hO.holds (fun q hq => by
                  have hgl := GLT.out
                  have hyl := Y2.out.size
                  rcases hb6 with e | e
                  · rw [e] at hq; have e2 : y1.heap.size = q := Option.some.inj hq; omega
                  · rw [e] at hq; have e2 : y2.heap.size = q := Option.some.inj hq; omega))
                clear hO hg6 hb6 hhl hnews hno hln2 O1 SZY
                refine hK.out _ _ ?_ (fun hHeld => ?_)
                · exact SC.out _ BW6.out
                clear hK K
                try simp only [Act.put, List.getElem_toArray, List.getElem_cons_zero, List.getElem_cons_succ, List.setIfInBounds_toArray, List.set_cons_zero, List.set_cons_succ]
                refine tq 19 ?_
                refine tq 20 ?_
                refine rd 21 fun K hK => ?_
                have kc : w6.cell? ⟨g, 28, none⟩ = some (.slice sa sn sc) := (BW6.out.cell (p := ⟨g, 28, none⟩) GLT.out).trans C0.out
                have kf : w6.frozen? ⟨g, 28, none⟩ = false := (BW6.out.frozen (p := ⟨g, 28, none⟩) GLT.out).trans F0F.out
                go_simp
                clear kc kf
                refine hK.out _ _ ?_ (fun hHeld => ?_)
                · exact (World.cell?_setCell_other _ _ _ _ (by have := NEB.out; simp <;> omega)).trans (SC.out _ BW6.out)
                clear hK K
                try simp only [Act.put, List.getElem_toArray, List.getElem_cons_zero, List.getElem_cons_succ, List.setIfInBounds_toArray, List.set_cons_zero, List.set_cons_succ]
                refine wpAnyH_done (by kernel_rfl) ?_ _
                go_wp2_with fail
                go_meet
                case rel => exact ⟨ao, 1 + t, cv, (R4.out.below BW6.out).set 4 4 28 _ rfl (by decide) (by decide), (below_step' BQ3.out BW6.out).setCell GE.out _, (SameOn.of_below BW6.out).set _ _ (fun h => h rfl), HN.out.same ((SameOn.refl _ _).set _ _ (fun h => h rfl))⟩
            · have kc : y0.cell? ⟨g, 28, none⟩ = some (.slice sa sn sc) := (Y0.out.cell (p := ⟨g, 28, none⟩) GLT.out).trans C0.out
              go_simp
              clear kc
              refine hK.out _ _ ?_ (fun hHeld => ?_)
              · exact SC.out _ Y0.out
              clear hK K
              try simp only [Act.put, List.getElem_toArray, List.getElem_cons_zero, List.getElem_cons_succ, List.setIfInBounds_toArray, List.set_cons_zero, List.set_cons_succ]
              refine tq 17 ?_
              refine rd 7 fun K hK => ?_
              go_simp
              refine hK.out _ _ ?_ (fun hHeld => ?_)
              · exact SC.out _ (below_step' Y0.out (below_new _ _))
              clear hK K
              try simp only [Act.put, List.getElem_toArray, List.getElem_cons_zero, List.getElem_cons_succ, List.setIfInBounds_toArray, List.set_cons_zero, List.set_cons_succ]
              obtain ⟨y1, hy⟩ : ∃ y, y = y0.alloc (.cells #[.int .i64 (2 + (k : Int)), .int .i64 0, .int .i64 (1 + (k : Int)), .int .i64 0] 47) := ⟨_, rfl⟩
              have A1 := Lib.hid hy
              have Y1 : Hid (Below wa3.heap.size wa3 y1) := Lib.hid (by rw [hy]; exact below_step' Y0.out (below_new _ _))
              rw [← hy] at hHeld ⊢
              clear hy
              refine rd 8 fun K hK => ?_
              go_simp
              refine hK.out _ _ ?_ (fun hHeld => ?_)
              · exact SC.out _ (below_step' Y1.out (below_new _ _))
              clear hK K
              try simp only [Act.put, List.getElem_toArray, List.getElem_cons_zero, List.getElem_cons_succ, List.setIfInBounds_toArray, List.set_cons_zero, List.set_cons_succ]
              obtain ⟨y2, hy⟩ : ∃ y, y = y1.alloc (.cells #[.slice (some ⟨y0.heap.size, 0, none⟩) 2 2] 45) := ⟨_, rfl⟩
              have A2 := Lib.hid hy
              have Y2 : Hid (Below wa3.heap.size wa3 y2) := Lib.hid (by rw [hy]; exact below_step' Y1.out (below_new _ _))
              rw [← hy] at hHeld ⊢
              clear hy
              have I1 : Hid (Holds False (fun q => q ≠ g ∧ q < y1.heap.size) y1 (.slice (some ⟨y0.heap.size, 0, none⟩) 2 2) (dLinks [(2 + (k : Int), 0), (1 + (k : Int), 0)])) := Lib.hid (by
                have h : Own False (fun q => q ≠ g) 47 2 wC (y0.heap.size + 1) y1 (.slice (some ⟨y0.heap.size, 0, none⟩) 2 2) [[dI (2 + (k : Int)), dI 0], [dI (1 + (k : Int)), dI 0]] := by
                  rw [A1.out]
                  exact Own.lit [.int .i64 (2 + (k : Int)), .int .i64 0, .int .i64 (1 + (k : Int)), .int .i64 0] [[dI (2 + (k : Int)), dI 0], [dI (1 + (k : Int)), dI 0]] (below_step' BQ3.out Y0.out) (by unfold maxLen; omega) rfl (by intro ds hds; simp only [List.mem_cons, List.not_mem_nil, or_false] at hds; rcases hds with rfl | rfl <;> rfl) (hl_int (hl_int (hl_int (hl_int (hl_nil)))))
                exact (h.holds (fun q hq => by have e2 : y0.heap.size = q := Option.some.inj hq; have := GLT.out; have := Y0.out.size; omega)).wide (fun q hq hp => ⟨hp, hq⟩))
              have O1 : Hid (Own False (fun q => q ≠ g) 45 1 wC (y1.heap.size + 1) y2 (.slice (some ⟨y1.heap.size, 0, none⟩) 1 1) [[dLinks [(2 + (k : Int), 0), (1 + (k : Int), 0)]]]) := Lib.hid (by rw [A2.out]; exact Own.lit [.slice (some ⟨y0.heap.size, 0, none⟩) 2 2] [[dLinks [(2 + (k : Int), 0), (1 + (k : Int), 0)]]] (below_step' BQ3.out Y1.out) (by unfold maxLen; omega) rfl (by intro ds hds; rw [List.mem_singleton] at hds; subst hds; rfl) (hl_cons I1.out hl_nil))
              obtain ⟨hln2, hno, news, hnews, hhl⟩ := newsP (HT.out.later Y2.out) (by intro ds hds; obtain ⟨x, _, rfl⟩ := List.mem_map.1 hds; rfl)
              refine wpAnyH_ready (rs := [18]) (by kernel_rfl) (by simp) ?_
              refine AllReadyH.cons rfl (fun K hK => ?_) AllReadyH.nil
              refine appS rfl _ _ 23 45 iL (.slice none 0 0) 1 24 rfl Try.underlying23 hiL hzL hsL hbyL rfl (by decide) False (fun q => q ≠ g) wC _ _ _ ((pc.inn.take 4).map (fun m => [dLinks m])) 1 t sc (1 + t) rfl O1.out rfl sa rfl news hnews hno (by intro ds hds; obtain ⟨x, _, rfl⟩ := List.mem_map.1 hds; rfl) hln2 (hhl.wide (fun q hq hp => ⟨hp.1, fun e => by have e2 : y1.heap.size = q := Option.some.inj e; have := Y1.out.size; have := hp.2; omega, fun s => s.elim⟩)) rfl (by unfold maxLen; omega) (by omega) ?_
              intro ao cv w6 hO hg6 hb6
              have SZY : wa3.heap.size ≤ y1.heap.size := Y1.out.size
              have BW6 : Hid (Below wa3.heap.size wa3 w6) := Lib.hid (Y2.out.grown hg6 Y2.out.size (fun q hq => by have e2 : y1.heap.size = q := Option.some.inj hq; omega))
              have HN : Hid (Holds False (fun q => q ≠ g) w6 (.slice ao (1 + t) cv) (dLls ([(2 + (k : Int), 0), (1 + (k : Int), 0)] :: pc.inn.take 4))) := Lib.hid (hO.holds (fun q hq => by
                have hgl := GLT.out
                have hyl := Y2.out.size
                rcases hb6 with e | e
                · rw [e] at hq; have e2 : y1.heap.size = q := Option.some.inj hq; omega
                · rw [e] at hq; have e2 : y2.heap.size = q := Option.some.inj hq; omega))
              clear hO hg6 hb6 hhl hnews hno hln2 O1 SZY
              refine hK.out _ _ ?_ (fun hHeld => ?_)
              · exact SC.out _ BW6.out
              clear hK K
              try simp only [Act.put, List.getElem_toArray, List.getElem_cons_zero, List.getElem_cons_succ, List.setIfInBounds_toArray, List.set_cons_zero, List.set_cons_succ]
              refine tq 19 ?_
              refine tq 20 ?_
              refine rd 21 fun K hK => ?_
              have kc : w6.cell? ⟨g, 28, none⟩ = some (.slice sa sn sc) := (BW6.out.cell (p := ⟨g, 28, none⟩) GLT.out).trans C0.out
              have kf : w6.frozen? ⟨g, 28, none⟩ = false := (BW6.out.frozen (p := ⟨g, 28, none⟩) GLT.out).trans F0F.out
              go_simp
              clear kc kf
              refine hK.out _ _ ?_ (fun hHeld => ?_)
              · exact (World.cell?_setCell_other _ _ _ _ (by have := NEB.out; simp <;> omega)).trans (SC.out _ BW6.out)
              clear hK K
              try simp only [Act.put, List.getElem_toArray, List.getElem_cons_zero, List.getElem_cons_succ, List.setIfInBounds_toArray, List.set_cons_zero, List.set_cons_succ]
              refine wpAnyH_done (by kernel_rfl) ?_ _
              go_wp2_with fail
              go_meet
              case rel => exact ⟨ao, 1 + t, cv, (R4.out.below BW6.out).set 4 4 28 _ rfl (by decide) (by decide), (below_step' BQ3.out BW6.out).setCell GE.out _, (SameOn.of_below BW6.out).set _ _ (fun h => h rfl), HN.out.same ((SameOn.refl _ _).set _ _ (fun h => h rfl))⟩
          case rest =>
            obtain ⟨va4, vn4, vc4, hr, hb, hs, hn⟩ := hcut
            obtain ⟨wa4, hwa⟩ : ∃ x, x = wc := ⟨_, rfl⟩
            subst hwa
            obtain ⟨F5, hF⟩ : ∃ f, f = up F4 4 4 (.slice va4 vn4 vc4) := ⟨_, rfl⟩
            rw [← hF] at hr
            have F5Q := Lib.hid hF
            have R5 := Lib.hid hr
            have BQ4 := Lib.hid hb
            have N4 := Lib.hid hn
            have HU4 : Hid (∀ i, i < 8 → HoldsL False (fun q => q ≠ g) wa4 [(nth us i).1, (nth us i).2.1, (nth us i).2.2] pc.d) := Lib.hid (fun i hi => (HU3.out i hi).same hs)
            replace N3 := Lib.hid (N3.out.same hs)
            clear hwr0 hwr1
            clear hr hb hs hn hF SC C0 F0F GLT HT BCL hm1 hm2 ht4 htc R4 HU3 BQ3
            go_upto_region 15 with fail
            have hc := (HU4.out 5 (by decide))
            obtain ⟨_, _, _, _, _, _, _, _, _, q1, q2, q3⟩ := pc_slices hc.weak
            obtain ⟨sa, sn, sc, hq⟩ : ∃ sa sn sc, (nth us 5).2.2 = .slice sa sn sc := ⟨_, _, _, q3⟩
            clear q1 q2 q3
            have hh := (hl_at hc).2.2
            rw [hq] at hh
            have hn : sn = pc.out.length := by have h := Holds.len hh; obtain ⟨_, _, e'⟩ := h; rw [List.length_map] at e'; cases e'; rfl
            have hln : l3 = pc.out.length := by have h := Holds.len (hl_at HC.out).2.2; obtain ⟨_, _, e'⟩ := h; rw [List.length_map] at e'; cases e'; rfl
            obtain ⟨t, ht⟩ : ∃ t, t = min l3 4 := ⟨_, rfl⟩
            have hm1 : (if 4 < (l3 : Int) then (4 : Int) else (l3 : Int)) = (t : Int) := by split <;> omega
            have hm2 : min (l3 : Int) 4 = (t : Int) := by omega
            have ht4 : t ≤ 4 := by omega
            have hcp := capOf hh
            have htc : t ≤ sc := by omega
            have HT : Hid (Holds False (fun q => q ≠ g ∧ q < wa4.heap.size) wa4 (.slice sa t sc) (.row 1 ((pc.out.take 4).map (fun m => [dInts m])))) := Lib.hid (by
              have h := Holds.take (m := t) hh (by rw [List.length_map]; omega)
              rw [← List.map_take, show pc.out.take t = pc.out.take 4 by
                rcases Nat.lt_or_ge pc.out.length 4 with h4 | h4
                · rw [List.take_of_length_le (by omega), List.take_of_length_le (by omega)]
                · rw [show t = 4 by omega]] at h
              exact h.wide (fun q hq hp => ⟨hp, hq⟩))
            have c0 : wa4.cell? ⟨g, 35, none⟩ = some (.slice sa sn sc) := by
              have h := R5.out.cell 5 5 (by decide) (by decide)
              rw [F5Q.out, F4Q.out, F3Q.out, F2Q.out, F1Q.out, F0Q.out] at h
              rw [← hq]
              exact h
            have C0 := Lib.hid c0
            have F0F := Lib.hid (R5.out.frz 35)
            have GLT := Lib.hid R5.out.lt
            have SC : Hid (∀ y, Below wa4.heap.size wa4 y → (fun wz : World => wz.cell? ⟨bc, 5, none⟩ = some (.slice b3 l3 f3)) y) := Lib.hid (fun y hb => KC.out.below (below_step' BQ4.out hb) 5 _ rfl)
            have BCL : Hid (bc < wa4.heap.size) := Lib.hid (Nat.lt_of_lt_of_le CLT.out BQ4.out.size)
            clear hc hq hh hn hln ht hcp c0
            have hwr0 : IntKind.i64.wrap (4 + (k : Int)) = 4 + (k : Int) := IntWalk.i64_in _ (by omega)
            go_cut [] from 9 (fun wz => ∃ (va : Option Addr) (vn vc : Nat), Rows8 g (up F5 5 5 (.slice va vn vc)) wz ∧ Below wC.heap.size wC wz ∧ SameOn (fun q => q ≠ g) wa4 wz ∧ Holds False (fun q => q ≠ g) wz (.slice va vn vc) (dIls ([0, 4 + (k : Int)] :: pc.out.take 4)))
            case first =>
              refine wp_region_held_drew (S := (fun wz : World => wz.cell? ⟨bc, 5, none⟩ = some (.slice b3 l3 f3))) (by kernel_rfl) ?_ (fun hHeld => ?_)
              · exact SC.out _ (below_drewN (Below.refl wa4.heap.size wa4) 1)
              obtain ⟨y0, hy0⟩ : ∃ y, y = wa4.drew := ⟨_, rfl⟩
              rw [← hy0] at hHeld ⊢
              have Y0 : Hid (Below wa4.heap.size wa4 y0) := Lib.hid (by rw [hy0]; exact below_drewN (Below.refl wa4.heap.size wa4) 1)
              clear hy0
              refine tq 0 ?_
              refine tq 1 ?_
              refine tq 2 ?_
              refine tq 5 ?_
              refine tq 6 ?_
              refine tq 7 ?_
              refine tq 9 ?_
              refine tq 10 ?_
              refine tq 11 ?_
              refine tq 12 ?_
              refine wpAnyH_ready (rs := [3, 8]) (by kernel_rfl) (by simp) ?_
              refine AllReadyH.cons rfl (fun K hK => ?_) (AllReadyH.cons rfl (fun K hK => ?_) AllReadyH.nil)
              · go_simp
                refine hK.out _ _ ?_ (fun hHeld => ?_)
                · exact SC.out _ (below_step' Y0.out (below_new _ _))
                clear hK K
                try simp only [Act.put, List.getElem_toArray, List.getElem_cons_zero, List.getElem_cons_succ, List.setIfInBounds_toArray, List.set_cons_zero, List.set_cons_succ]
                obtain ⟨y1, hy⟩ : ∃ y, y = y0.alloc (.cells #[.int .i64 0, .int .i64 (4 + (k : Int))] 3) := ⟨_, rfl⟩
                have A1 := Lib.hid hy
                have Y1 : Hid (Below wa4.heap.size wa4 y1) := Lib.hid (by rw [hy]; exact below_step' Y0.out (below_new _ _))
                rw [← hy] at hHeld ⊢
                clear hy
                refine wpAnyH_ready (rs := [4, 8]) (by kernel_rfl) (by simp) ?_
                refine AllReadyH.cons rfl (fun K hK => ?_) (AllReadyH.cons rfl (fun K hK => ?_) AllReadyH.nil)
                · go_simp
                  refine hK.out _ _ ?_ (fun hHeld => ?_)
                  · exact SC.out _ (below_step' Y1.out (below_new _ _))
                  clear hK K
                  try simp only [Act.put, List.getElem_toArray, List.getElem_cons_zero, List.getElem_cons_succ, List.setIfInBounds_toArray, List.set_cons_zero, List.set_cons_succ]
                  obtain ⟨y2, hy⟩ : ∃ y, y = y1.alloc (.cells #[.slice (some ⟨y0.heap.size, 0, none⟩) 2 2] 22) := ⟨_, rfl⟩
                  have A2 := Lib.hid hy
                  have Y2 : Hid (Below wa4.heap.size wa4 y2) := Lib.hid (by rw [hy]; exact below_step' Y1.out (below_new _ _))
                  rw [← hy] at hHeld ⊢
                  clear hy
                  refine rd 8 fun K hK => ?_
                  have kc : y2.cell? ⟨g, 35, none⟩ = some (.slice sa sn sc) := (Y2.out.cell (p := ⟨g, 35, none⟩) GLT.out).trans C0.out
                  go_simp
                  clear kc
                  refine hK.out _ _ ?_ (fun hHeld => ?_)
                  · exact SC.out _ Y2.out
                  clear hK K
                  try simp only [Act.put, List.getElem_toArray, List.getElem_cons_zero, List.getElem_cons_succ, List.setIfInBounds_toArray, List.set_cons_zero, List.set_cons_succ]
                  refine tq 13 ?_
                  have I1 : Hid (Holds False (fun q => q ≠ g ∧ q < y1.heap.size) y1 (.slice (some ⟨y0.heap.size, 0, none⟩) 2 2) (dInts [0, 4 + (k : Int)])) := Lib.hid (by
                    have h : Own False (fun q => q ≠ g) 3 1 wC (y0.heap.size + 1) y1 (.slice (some ⟨y0.heap.size, 0, none⟩) 2 2) [[dI 0], [dI (4 + (k : Int))]] := by
                      rw [A1.out]
                      exact Own.lit [.int .i64 0, .int .i64 (4 + (k : Int))] [[dI 0], [dI (4 + (k : Int))]] (below_step' BQ4.out Y0.out) (by unfold maxLen; omega) rfl (by intro ds hds; simp only [List.mem_cons, List.not_mem_nil, or_false] at hds; rcases hds with rfl | rfl <;> rfl) (hl_int (hl_int (hl_nil)))
                    exact (h.holds (fun q hq => by have e2 : y0.heap.size = q := Option.some.inj hq; have := GLT.out; have := Y0.out.size; omega)).wide (fun q hq hp => ⟨hp, hq⟩))
                  have O1 : Hid (Own False (fun q => q ≠ g) 22 1 wC (y1.heap.size + 1) y2 (.slice (some ⟨y1.heap.size, 0, none⟩) 1 1) [[dInts [0, 4 + (k : Int)]]]) := Lib.hid (by rw [A2.out]; exact Own.lit [.slice (some ⟨y0.heap.size, 0, none⟩) 2 2] [[dInts [0, 4 + (k : Int)]]] (below_step' BQ4.out Y1.out) (by unfold maxLen; omega) rfl (by intro ds hds; rw [List.mem_singleton] at hds; subst hds; rfl) (hl_cons I1.out hl_nil))
                  obtain ⟨hln2, hno, news, hnews, hhl⟩ := newsP (HT.out.later Y2.out) (by intro ds hds; obtain ⟨x, _, rfl⟩ := List.mem_map.1 hds; rfl)
                  refine wpAnyH_ready (rs := [14]) (by kernel_rfl) (by simp) ?_
                  refine AllReadyH.cons rfl (fun K hK => ?_) AllReadyH.nil
                  refine appS rfl _ _ 24 22 iO (.slice none 0 0) 1 24 rfl Try.underlying24 hiO hzO hsO hbyO rfl (by decide) False (fun q => q ≠ g) wC _ _ _ ((pc.out.take 4).map (fun m => [dInts m])) 1 t sc (1 + t) rfl O1.out rfl sa rfl news hnews hno (by intro ds hds; obtain ⟨x, _, rfl⟩ := List.mem_map.1 hds; rfl) hln2 (hhl.wide (fun q hq hp => ⟨hp.1, fun e => by have e2 : y1.heap.size = q := Option.some.inj e; have := Y1.out.size; have := hp.2; omega, fun s => s.elim⟩)) rfl (by unfold maxLen; omega) (by omega) ?_
                  intro ao cv w6 hO hg6 hb6
                  have SZY : wa4.heap.size ≤ y1.heap.size := Y1.out.size
                  have BW6 : Hid (Below wa4.heap.size wa4 w6) := Lib.hid (Y2.out.grown hg6 Y2.out.size (fun q hq => by have e2 : y1.heap.size = q := Option.some.inj hq; omega))
                  have HN : Hid (Holds False (fun q => q ≠ g) w6 (.slice ao (1 + t) cv) (dIls ([0, 4 + (k : Int)] :: pc.out.take 4))) := Lib.hid (hO.holds (fun q hq => by
                    have hgl := GLT.out
                    have hyl := Y2.out.size
                    rcases hb6 with e | e
                    · rw [e] at hq; have e2 : y1.heap.size = q := Option.some.inj hq; omega
                    · rw [e] at hq; have e2 : y2.heap.size = q := Option.some.inj hq; omega))
                  clear hO hg6 hb6 hhl hnews hno hln2 O1 SZY
                  refine hK.out _ _ ?_ (fun hHeld => ?_)
                  · exact SC.out _ BW6.out
                  clear hK K
                  try simp only [Act.put, List.getElem_toArray, List.getElem_cons_zero, List.getElem_cons_succ, List.setIfInBounds_toArray, List.set_cons_zero, List.set_cons_succ]
                  refine tq 15 ?_
                  refine tq 16 ?_
                  refine rd 17 fun K hK => ?_
                  have kc : w6.cell? ⟨g, 35, none⟩ = some (.slice sa sn sc) := (BW6.out.cell (p := ⟨g, 35, none⟩) GLT.out).trans C0.out
                  have kf : w6.frozen? ⟨g, 35, none⟩ = false := (BW6.out.frozen (p := ⟨g, 35, none⟩) GLT.out).trans F0F.out
                  go_simp
                  clear kc kf
                  refine hK.out _ _ ?_ (fun hHeld => ?_)
                  · exact (World.cell?_setCell_other _ _ _ _ (by have := NEB.out; simp <;> omega)).trans (SC.out _ BW6.out)
                  clear hK K
                  try simp only [Act.put, List.getElem_toArray, List.getElem_cons_zero, List.getElem_cons_succ, List.setIfInBounds_toArray, List.set_cons_zero, List.set_cons_succ]
                  refine wpAnyH_done (by kernel_rfl) ?_ _
                  go_wp2_with fail
                  go_meet
                  case rel => exact ⟨ao, 1 + t, cv, (R5.out.below BW6.out).set 5 5 35 _ rfl (by decide) (by decide), (below_step' BQ4.out BW6.out).setCell GE.out _, (SameOn.of_below BW6.out).set _ _ (fun h => h rfl), HN.out.same ((SameOn.refl _ _).set _ _ (fun h => h rfl))⟩
                · have kc : y1.cell? ⟨g, 35, none⟩ = some (.slice sa sn sc) := (Y1.out.cell (p := ⟨g, 35, none⟩) GLT.out).trans C0.out
                  go_simp
                  clear kc
                  refine hK.out _ _ ?_ (fun hHeld => ?_)
                  · exact SC.out _ Y1.out
                  clear hK K
                  try simp only [Act.put, List.getElem_toArray, List.getElem_cons_zero, List.getElem_cons_succ, List.setIfInBounds_toArray, List.set_cons_zero, List.set_cons_succ]
                  refine tq 13 ?_
                  refine rd 4 fun K hK => ?_
                  go_simp
                  refine hK.out _ _ ?_ (fun hHeld => ?_)
                  · exact SC.out _ (below_step' Y1.out (below_new _ _))
                  clear hK K
                  try simp only [Act.put, List.getElem_toArray, List.getElem_cons_zero, List.getElem_cons_succ, List.setIfInBounds_toArray, List.set_cons_zero, List.set_cons_succ]
                  obtain ⟨y2, hy⟩ : ∃ y, y = y1.alloc (.cells #[.slice (some ⟨y0.heap.size, 0, none⟩) 2 2] 22) := ⟨_, rfl⟩
                  have A2 := Lib.hid hy
                  have Y2 : Hid (Below wa4.heap.size wa4 y2) := Lib.hid (by rw [hy]; exact below_step' Y1.out (below_new _ _))
                  rw [← hy] at hHeld ⊢
                  clear hy
                  have I1 : Hid (Holds False (fun q => q ≠ g ∧ q < y1.heap.size) y1 (.slice (some ⟨y0.heap.size, 0, none⟩) 2 2) (dInts [0, 4 + (k : Int)])) := Lib.hid (by
                    have h : Own False (fun q => q ≠ g) 3 1 wC (y0.heap.size + 1) y1 (.slice (some ⟨y0.heap.size, 0, none⟩) 2 2) [[dI 0], [dI (4 + (k : Int))]] := by
                      rw [A1.out]
                      exact Own.lit [.int .i64 0, .int .i64 (4 + (k : Int))] [[dI 0], [dI (4 + (k : Int))]] (below_step' BQ4.out Y0.out) (by unfold maxLen; omega) rfl (by intro ds hds; simp only [List.mem_cons, List.not_mem_nil, or_false] at hds; rcases hds with rfl | rfl <;> rfl) (hl_int (hl_int (hl_nil)))
                    exact (h.holds (fun q hq => by have e2 : y0.heap.size = q := Option.some.inj hq; have := GLT.out; have := Y0.out.size; omega)).wide (fun q hq hp => ⟨hp, hq⟩))
                  have O1 : Hid (Own False (fun q => q ≠ g) 22 1 wC (y1.heap.size + 1) y2 (.slice (some ⟨y1.heap.size, 0, none⟩) 1 1) [[dInts [0, 4 + (k : Int)]]]) := Lib.hid (by rw [A2.out]; exact Own.lit [.slice (some ⟨y0.heap.size, 0, none⟩) 2 2] [[dInts [0, 4 + (k : Int)]]] (below_step' BQ4.out Y1.out) (by unfold maxLen; omega) rfl (by intro ds hds; rw [List.mem_singleton] at hds; subst hds; rfl) (hl_cons I1.out hl_nil))
                  obtain ⟨hln2, hno, news, hnews, hhl⟩ := newsP (HT.out.later Y2.out) (by intro ds hds; obtain ⟨x, _, rfl⟩ := List.mem_map.1 hds; rfl)
                  refine wpAnyH_ready (rs := [14]) (by kernel_rfl) (by simp) ?_
                  refine AllReadyH.cons rfl (fun K hK => ?_) AllReadyH.nil
                  refine appS rfl _ _ 24 22 iO (.slice none 0 0) 1 24 rfl Try.underlying24 hiO hzO hsO hbyO rfl (by decide) False (fun q => q ≠ g) wC _ _ _ ((pc.out.take 4).map (fun m => [dInts m])) 1 t sc (1 + t) rfl O1.out rfl sa rfl news hnews hno (by intro ds hds; obtain ⟨x, _, rfl⟩ := List.mem_map.1 hds; rfl) hln2 (hhl.wide (fun q hq hp => ⟨hp.1, fun e => by have e2 : y1.heap.size = q := Option.some.inj e; have := Y1.out.size; have := hp.2; omega, fun s => s.elim⟩)) rfl (by unfold maxLen; omega) (by omega) ?_
                  intro ao cv w6 hO hg6 hb6
                  have SZY : wa4.heap.size ≤ y1.heap.size := Y1.out.size
                  have BW6 : Hid (Below wa4.heap.size wa4 w6) := Lib.hid (Y2.out.grown hg6 Y2.out.size (fun q hq => by have e2 : y1.heap.size = q := Option.some.inj hq; omega))
                  have HN : Hid (Holds False (fun q => q ≠ g) w6 (.slice ao (1 + t) cv) (dIls ([0, 4 + (k : Int)] :: pc.out.take 4))) := Lib.hid (hO.holds (fun q hq => by
                    have hgl := GLT.out
                    have hyl := Y2.out.size
                    rcases hb6 with e | e
                    · rw [e] at hq; have e2 : y1.heap.size = q := Option.some.inj hq; omega
                    · rw [e] at hq; have e2 : y2.heap.size = q := Option.some.inj hq; omega))
                  clear hO hg6 hb6 hhl hnews hno hln2 O1 SZY
                  refine hK.out _ _ ?_ (fun hHeld => ?_)
                  · exact SC.out _ BW6.out
                  clear hK K
                  try simp only [Act.put, List.getElem_toArray, List.getElem_cons_zero, List.getElem_cons_succ, List.setIfInBounds_toArray, List.set_cons_zero, List.set_cons_succ]
                  refine tq 15 ?_
                  refine tq 16 ?_
                  refine rd 17 fun K hK => ?_
                  have kc : w6.cell? ⟨g, 35, none⟩ = some (.slice sa sn sc) := (BW6.out.cell (p := ⟨g, 35, none⟩) GLT.out).trans C0.out
                  have kf : w6.frozen? ⟨g, 35, none⟩ = false := (BW6.out.frozen (p := ⟨g, 35, none⟩) GLT.out).trans F0F.out
                  go_simp
                  clear kc kf
                  refine hK.out _ _ ?_ (fun hHeld => ?_)
                  · exact (World.cell?_setCell_other _ _ _ _ (by have := NEB.out; simp <;> omega)).trans (SC.out _ BW6.out)
                  clear hK K
                  try simp only [Act.put, List.getElem_toArray, List.getElem_cons_zero, List.getElem_cons_succ, List.setIfInBounds_toArray, List.set_cons_zero, List.set_cons_succ]
                  refine wpAnyH_done (by kernel_rfl) ?_ _
                  go_wp2_with fail
                  go_meet
                  case rel => exact ⟨ao, 1 + t, cv, (R5.out.below BW6.out).set 5 5 35 _ rfl (by decide) (by decide), (below_step' BQ4.out BW6.out).setCell GE.out _, (SameOn.of_below BW6.out).set _ _ (fun h => h rfl), HN.out.same ((SameOn.refl _ _).set _ _ (fun h => h rfl))⟩
              · have kc : y0.cell? ⟨g, 35, none⟩ = some (.slice sa sn sc) := (Y0.out.cell (p := ⟨g, 35, none⟩) GLT.out).trans C0.out
                go_simp
                clear kc
                refine hK.out _ _ ?_ (fun hHeld => ?_)
                · exact SC.out _ Y0.out
                clear hK K
                try simp only [Act.put, List.getElem_toArray, List.getElem_cons_zero, List.getElem_cons_succ, List.setIfInBounds_toArray, List.set_cons_zero, List.set_cons_succ]
                refine tq 13 ?_
                refine rd 3 fun K hK => ?_
                go_simp
                refine hK.out _ _ ?_ (fun hHeld => ?_)
                · exact SC.out _ (below_step' Y0.out (below_new _ _))
                clear hK K
                try simp only [Act.put, List.getElem_toArray, List.getElem_cons_zero, List.getElem_cons_succ, List.setIfInBounds_toArray, List.set_cons_zero, List.set_cons_succ]
                obtain ⟨y1, hy⟩ : ∃ y, y = y0.alloc (.cells #[.int .i64 0, .int .i64 (4 + (k : Int))] 3) := ⟨_, rfl⟩
                have A1 := Lib.hid hy
                have Y1 : Hid (Below wa4.heap.size wa4 y1) := Lib.hid (by rw [hy]; exact below_step' Y0.out (below_new _ _))
                rw [← hy] at hHeld ⊢
                clear hy
                refine rd 4 fun K hK => ?_
                go_simp
                refine hK.out _ _ ?_ (fun hHeld => ?_)
                · exact SC.out _ (below_step' Y1.out (below_new _ _))
                clear hK K
                try simp only [Act.put, List.getElem_toArray, List.getElem_cons_zero, List.getElem_cons_succ, List.setIfInBounds_toArray, List.set_cons_zero, List.set_cons_succ]
                obtain ⟨y2, hy⟩ : ∃ y, y = y1.alloc (.cells #[.slice (some ⟨y0.heap.size, 0, none⟩) 2 2] 22) := ⟨_, rfl⟩
                have A2 := Lib.hid hy
                have Y2 : Hid (Below wa4.heap.size wa4 y2) := Lib.hid (by rw [hy]; exact below_step' Y1.out (below_new _ _))
                rw [← hy] at hHeld ⊢
                clear hy
                have I1 : Hid (Holds False (fun q => q ≠ g ∧ q < y1.heap.size) y1 (.slice (some ⟨y0.heap.size, 0, none⟩) 2 2) (dInts [0, 4 + (k : Int)])) := Lib.hid (by
                  have h : Own False (fun q => q ≠ g) 3 1 wC (y0.heap.size + 1) y1 (.slice (some ⟨y0.heap.size, 0, none⟩) 2 2) [[dI 0], [dI (4 + (k : Int))]] := by
                    rw [A1.out]
                    exact Own.lit [.int .i64 0, .int .i64 (4 + (k : Int))] [[dI 0], [dI (4 + (k : Int))]] (below_step' BQ4.out Y0.out) (by unfold maxLen; omega) rfl (by intro ds hds; simp only [List.mem_cons, List.not_mem_nil, or_false] at hds; rcases hds with rfl | rfl <;> rfl) (hl_int (hl_int (hl_nil)))
                  exact (h.holds (fun q hq => by have e2 : y0.heap.size = q := Option.some.inj hq; have := GLT.out; have := Y0.out.size; omega)).wide (fun q hq hp => ⟨hp, hq⟩))
                have O1 : Hid (Own False (fun q => q ≠ g) 22 1 wC (y1.heap.size + 1) y2 (.slice (some ⟨y1.heap.size, 0, none⟩) 1 1) [[dInts [0, 4 + (k : Int)]]]) := Lib.hid (by rw [A2.out]; exact Own.lit [.slice (some ⟨y0.heap.size, 0, none⟩) 2 2] [[dInts [0, 4 + (k : Int)]]] (below_step' BQ4.out Y1.out) (by unfold maxLen; omega) rfl (by intro ds hds; rw [List.mem_singleton] at hds; subst hds; rfl) (hl_cons I1.out hl_nil))
                obtain ⟨hln2, hno, news, hnews, hhl⟩ := newsP (HT.out.later Y2.out) (by intro ds hds; obtain ⟨x, _, rfl⟩ := List.mem_map.1 hds; rfl)
                refine wpAnyH_ready (rs := [14]) (by kernel_rfl) (by simp) ?_
                refine AllReadyH.cons rfl (fun K hK => ?_) AllReadyH.nil
                refine appS rfl _ _ 24 22 iO (.slice none 0 0) 1 24 rfl Try.underlying24 hiO hzO hsO hbyO rfl (by decide) False (fun q => q ≠ g) wC _ _ _ ((pc.out.take 4).map (fun m => [dInts m])) 1 t sc (1 + t) rfl O1.out rfl sa rfl news hnews hno (by intro ds hds; obtain ⟨x, _, rfl⟩ := List.mem_map.1 hds; rfl) hln2 (hhl.wide (fun q hq hp => ⟨hp.1, fun e => by have e2 : y1.heap.size = q := Option.some.inj e; have := Y1.out.size; have := hp.2; omega, fun s => s.elim⟩)) rfl (by unfold maxLen; omega) (by omega) ?_
                intro ao cv w6 hO hg6 hb6
                have SZY : wa4.heap.size ≤ y1.heap.size := Y1.out.size
                have BW6 : Hid (Below wa4.heap.size wa4 w6) := Lib.hid (Y2.out.grown hg6 Y2.out.size (fun q hq => by have e2 : y1.heap.size = q := Option.some.inj hq; omega))
                have HN : Hid (Holds False (fun q => q ≠ g) w6 (.slice ao (1 + t) cv) (dIls ([0, 4 + (k : Int)] :: pc.out.take 4))) := Lib.hid (hO.holds (fun q hq => by
                  have hgl := GLT.out
                  have hyl := Y2.out.size
                  rcases hb6 with e | e
                  · rw [e] at hq; have e2 : y1.heap.size = q := Option.some.inj hq; omega
                  · rw [e] at hq; have e2 : y2.heap.size = q := Option.some.inj hq; omega))
                clear hO hg6 hb6 hhl hnews hno hln2 O1 SZY
                refine hK.out _ _ ?_ (fun hHeld => ?_)
                · exact SC.out _ BW6.out
                clear hK K
                try simp only [Act.put, List.getElem_toArray, List.getElem_cons_zero, List.getElem_cons_succ, List.setIfInBounds_toArray, List.set_cons_zero, List.set_cons_succ]
                refine tq 15 ?_
                refine tq 16 ?_
                refine rd 17 fun K hK => ?_
                have kc : w6.cell? ⟨g, 35, none⟩ = some (.slice sa sn sc) := (BW6.out.cell (p := ⟨g, 35, none⟩) GLT.out).trans C0.out
                have kf : w6.frozen? ⟨g, 35, none⟩ = false := (BW6.out.frozen (p := ⟨g, 35, none⟩) GLT.out).trans F0F.out
                go_simp
                clear kc kf
                refine hK.out _ _ ?_ (fun hHeld => ?_)
                · exact (World.cell?_setCell_other _ _ _ _ (by have := NEB.out; simp <;> omega)).trans (SC.out _ BW6.out)
                clear hK K
                try simp only [Act.put, List.getElem_toArray, List.getElem_cons_zero, List.getElem_cons_succ, List.setIfInBounds_toArray, List.set_cons_zero, List.set_cons_succ]
                refine wpAnyH_done (by kernel_rfl) ?_ _
                go_wp2_with fail
                go_meet
                case rel => exact ⟨ao, 1 + t, cv, (R5.out.below BW6.out).set 5 5 35 _ rfl (by decide) (by decide), (below_step' BQ4.out BW6.out).setCell GE.out _, (SameOn.of_below BW6.out).set _ _ (fun h => h rfl), HN.out.same ((SameOn.refl _ _).set _ _ (fun h => h rfl))⟩
            case rest =>
              obtain ⟨va5, vn5, vc5, hr, hb, hs, hn⟩ := hcut
              obtain ⟨wa5, hwa⟩ : ∃ x, x = wc := ⟨_, rfl⟩
              subst hwa
              obtain ⟨F6, hF⟩ : ∃ f, f = up F5 5 5 (.slice va5 vn5 vc5) := ⟨_, rfl⟩
              rw [← hF] at hr
              have F6Q := Lib.hid hF
              have R6 := Lib.hid hr
              have BQ5 := Lib.hid hb
              have N5 := Lib.hid hn
              have HU5 : Hid (∀ i, i < 8 → HoldsL False (fun q => q ≠ g) wa5 [(nth us i).1, (nth us i).2.1, (nth us i).2.2] pc.d) := Lib.hid (fun i hi => (HU4.out i hi).same hs)
              replace N3 := Lib.hid (N3.out.same hs)
              replace N4 := Lib.hid (N4.out.same hs)
              clear hwr0
              clear hr hb hs hn hF SC C0 F0F GLT HT BCL hm1 hm2 ht4 htc R5 HU4 BQ4
              go_upto_region 16 with fail
              have c9 : wa5.cell? ⟨g, 39, none⟩ = some ((nth us 6).1) := by
                have h := R6.out.cell 6 3 (by decide) (by decide)
                rw [F6Q.out, F5Q.out, F4Q.out, F3Q.out, F2Q.out, F1Q.out, F0Q.out] at h
                exact h
              have c0 : ∀ o, (wa5.alloc o).cell? ⟨g, 39, none⟩ = some (nth us 6).1 := fun o => ((below_new wa5 o).cell (p := ⟨g, 39, none⟩) R6.out.lt).trans c9
              have f0 : ∀ o, (wa5.alloc o).frozen? ⟨g, 39, none⟩ = false := fun o => ((below_new wa5 o).frozen (p := ⟨g, 39, none⟩) R6.out.lt).trans (R6.out.frz 39)
              clear c9
              go_upto_region 17 with fail
              obtain ⟨b6, hb6⟩ : ∃ b, b = wa5.heap.size := ⟨_, rfl⟩
              obtain ⟨y6, hy6⟩ : ∃ y, y = wa5.alloc (.cells #[.int .i64 0, .int .i64 0, .int .i64 0, .int .i64 0, .int .i64 0, .int .i64 (k : Int)] 3) := ⟨_, rfl⟩
              have Y6 : Hid (Below wa5.heap.size wa5 y6) := Lib.hid (by rw [hy6]; exact below_new _ _)
              have N6 : Hid (Holds False (fun q => q ≠ g) y6 (.slice (some ⟨b6, 0, none⟩) 6 6) (dInts [0, 0, 0, 0, 0, (k : Int)])) := Lib.hid (by
                have h : Own False (fun q => q ≠ g) 3 1 wC (wa5.heap.size + 1) y6 (.slice (some ⟨b6, 0, none⟩) 6 6) ([0, 0, 0, 0, 0, (k : Int)].map fun a => [dI a]) := by
                  rw [hy6, hb6]
                  exact Own.lit [.int .i64 0, .int .i64 0, .int .i64 0, .int .i64 0, .int .i64 0, .int .i64 (k : Int)] _ BQ5.out (by unfold maxLen; omega) rfl (by intro ds hds; obtain ⟨x, _, rfl⟩ := List.mem_map.1 hds; rfl) (hl_int (hl_int (hl_int (hl_int (hl_int (hl_int hl_nil))))))
                exact h.holds (fun q hq => by have e2 : b6 = q := Option.some.inj hq; have := R6.out.lt; omega))
              rw [← hb6, ← hy6]
              clear c0 f0 hb6 hy6
              obtain ⟨wa6, hwa⟩ : ∃ x, x = y6.setCell ⟨g, 39, none⟩ (.slice (some ⟨b6, 0, none⟩) 6 6) := ⟨_, rfl⟩
              rw [← hwa]
              obtain ⟨F7, hF⟩ : ∃ f, f = up F6 6 3 (.slice (some ⟨b6, 0, none⟩) 6 6) := ⟨_, rfl⟩
              have R7 : Hid (Rows8 g F7 wa6) := Lib.hid (by rw [hF, hwa]; exact (R6.out.below Y6.out).set 6 3 39 _ rfl (by decide) (by decide))
              have F7Q := Lib.hid hF
              have S6 : Hid (SameOn (fun q => q ≠ g) wa5 wa6) := Lib.hid (by rw [hwa]; exact (SameOn.of_below Y6.out).set _ _ (fun h => h rfl))
              replace N6 := Lib.hid (show Holds False (fun q => q ≠ g) wa6 (.slice (some ⟨b6, 0, none⟩) 6 6) (dInts [0, 0, 0, 0, 0, (k : Int)]) from (by rw [hwa]; exact N6.out.same ((SameOn.refl _ _).set _ _ (fun h => h rfl))))
              have BQ6 : Hid (Below wC.heap.size wC wa6) := Lib.hid (by rw [hwa]; exact (below_step' BQ5.out Y6.out).setCell GE.out _)
              have HU6 : Hid (∀ i, i < 8 → HoldsL False (fun q => q ≠ g) wa6 [(nth us i).1, (nth us i).2.1, (nth us i).2.2] pc.d) := Lib.hid (fun i hi => (HU5.out i hi).same S6.out)
              replace N3 := Lib.hid (N3.out.same S6.out)
              replace N4 := Lib.hid (N4.out.same S6.out)
              replace N5 := Lib.hid (N5.out.same S6.out)
              clear hwa hF R6 HU5 BQ5 S6 Y6
              have hc := (HU6.out 7 (by decide))
              obtain ⟨_, _, _, _, _, _, _, _, _, q1, q2, q3⟩ := pc_slices hc.weak
              obtain ⟨sa, sn, sc, hq⟩ : ∃ sa sn sc, (nth us 7).2.1 = .slice sa sn sc := ⟨_, _, _, q2⟩
              clear q1 q2 q3
              have hh := (hl_at hc).2.1
              rw [hq] at hh
              have hn : sn = pc.inn.length := by have h := Holds.len hh; obtain ⟨_, _, e'⟩ := h; rw [List.length_map] at e'; cases e'; rfl
              have hln : l2 = pc.inn.length := by have h := Holds.len (hl_at HC.out).2.1; obtain ⟨_, _, e'⟩ := h; rw [List.length_map] at e'; cases e'; rfl
              obtain ⟨t, ht⟩ : ∃ t, t = min l2 4 := ⟨_, rfl⟩
              have hm1 : (if 4 < (l2 : Int) then (4 : Int) else (l2 : Int)) = (t : Int) := by split <;> omega
              have hm2 : min (l2 : Int) 4 = (t : Int) := by omega
              have ht4 : t ≤ 4 := by omega
              have hcp := capOf hh
              have htc : t ≤ sc := by omega
              have HT : Hid (Holds False (fun q => q ≠ g ∧ q < wa6.heap.size) wa6 (.slice sa t sc) (.row 1 ((pc.inn.take 4).map (fun m => [dLinks m])))) := Lib.hid (by
                have h := Holds.take (m := t) hh (by rw [List.length_map]; omega)
                rw [← List.map_take, show pc.inn.take t = pc.inn.take 4 by
                  rcases Nat.lt_or_ge pc.inn.length 4 with h4 | h4
                  · rw [List.take_of_length_le (by omega), List.take_of_length_le (by omega)]
                  · rw [show t = 4 by omega]] at h
                exact h.wide (fun q hq hp => ⟨hp, hq⟩))
              have c0 : wa6.cell? ⟨g, 46, none⟩ = some (.slice sa sn sc) := by
                have h := R7.out.cell 7 4 (by decide) (by decide)
                rw [F7Q.out, F6Q.out, F5Q.out, F4Q.out, F3Q.out, F2Q.out, F1Q.out, F0Q.out] at h
                rw [← hq]
                exact h
              have C0 := Lib.hid c0
              have F0F := Lib.hid (R7.out.frz 46)
              have GLT := Lib.hid R7.out.lt
              have SC : Hid (∀ y, Below wa6.heap.size wa6 y → (fun wz : World => wz.cell? ⟨bc, 4, none⟩ = some (.slice b2 l2 f2)) y) := Lib.hid (fun y hb => KC.out.below (below_step' BQ6.out hb) 4 _ rfl)
              have BCL : Hid (bc < wa6.heap.size) := Lib.hid (Nat.lt_of_lt_of_le CLT.out BQ6.out.size)
              clear hc hq hh hn hln ht hcp c0
              have hwr0 : IntKind.i64.wrap (-(k : Int)) = -(k : Int) := IntWalk.i64_in _ (by omega)
              go_cut [] from 9 (fun wz => ∃ (va : Option Addr) (vn vc : Nat), Rows8 g (up F7 7 4 (.slice va vn vc)) wz ∧ Below wC.heap.size wC wz ∧ SameOn (fun q => q ≠ g) wa6 wz ∧ Holds False (fun q => q ≠ g) wz (.slice va vn vc) (dLls ([(-(k : Int), 0)] :: pc.inn.take 4)))
              case first =>
                refine wp_region_held_drew (S := (fun wz : World => wz.cell? ⟨bc, 4, none⟩ = some (.slice b2 l2 f2))) (by kernel_rfl) ?_ (fun hHeld => ?_)
                · exact SC.out _ (below_drewN (Below.refl wa6.heap.size wa6) 1)
                obtain ⟨y0, hy0⟩ : ∃ y, y = wa6.drew := ⟨_, rfl⟩
                rw [← hy0] at hHeld ⊢
                have Y0 : Hid (Below wa6.heap.size wa6 y0) := Lib.hid (by rw [hy0]; exact below_drewN (Below.refl wa6.heap.size wa6) 1)
                clear hy0
                refine tq 0 ?_
                refine tq 1 ?_
                refine tq 2 ?_
                refine tq 3 ?_
                refine tq 6 ?_
                refine tq 7 ?_
                refine tq 8 ?_
                refine tq 10 ?_
                refine tq 11 ?_
                refine tq 12 ?_
                refine tq 13 ?_
                refine wpAnyH_ready (rs := [4, 9]) (by kernel_rfl) (by simp) ?_
                refine AllReadyH.cons rfl (fun K hK => ?_) (AllReadyH.cons rfl (fun K hK => ?_) AllReadyH.nil)
                · go_simp
                  refine hK.out _ _ ?_ (fun hHeld => ?_)
                  · exact SC.out _ (below_step' Y0.out (below_new _ _))
                  clear hK K
                  try simp only [Act.put, List.getElem_toArray, List.getElem_cons_zero, List.getElem_cons_succ, List.setIfInBounds_toArray, List.set_cons_zero, List.set_cons_succ]
                  obtain ⟨y1, hy⟩ : ∃ y, y = y0.alloc (.cells #[.int .i64 (-(k : Int)), .int .i64 0] 47) := ⟨_, rfl⟩
                  have A1 := Lib.hid hy
                  have Y1 : Hid (Below wa6.heap.size wa6 y1) := Lib.hid (by rw [hy]; exact below_step' Y0.out (below_new _ _))
                  rw [← hy] at hHeld ⊢
                  clear hy
                  refine wpAnyH_ready (rs := [5, 9]) (by kernel_rfl) (by simp) ?_
                  refine AllReadyH.cons rfl (fun K hK => ?_) (AllReadyH.cons rfl (fun K hK => ?_) AllReadyH.nil)
                  · go_simp
                    refine hK.out _ _ ?_ (fun hHeld => ?_)
                    · exact SC.out _ (below_step' Y1.out (below_new _ _))
                    clear hK K
                    try simp only [Act.put, List.getElem_toArray, List.getElem_cons_zero, List.getElem_cons_succ, List.setIfInBounds_toArray, List.set_cons_zero, List.set_cons_succ]
                    obtain ⟨y2, hy⟩ : ∃ y, y = y1.alloc (.cells #[.slice (some ⟨y0.heap.size, 0, none⟩) 1 1] 45) := ⟨_, rfl⟩
                    have A2 := Lib.hid hy
                    have Y2 : Hid (Below wa6.heap.size wa6 y2) := Lib.hid (by rw [hy]; exact below_step' Y1.out (below_new _ _))
                    rw [← hy] at hHeld ⊢
                    clear hy
                    refine rd 9 fun K hK => ?_
                    have kc : y2.cell? ⟨g, 46, none⟩ = some (.slice sa sn sc) := (Y2.out.cell (p := ⟨g, 46, none⟩) GLT.out).trans C0.out
                    go_simp
                    clear kc
                    refine hK.out _ _ ?_ (fun hHeld => ?_)
                    · exact SC.out _ Y2.out
                    clear hK K
                    try simp only [Act.put, List.getElem_toArray, List.getElem_cons_zero, List.getElem_cons_succ, List.setIfInBounds_toArray, List.set_cons_zero, List.set_cons_succ]
                    refine tq 14 ?_
                    have I1 : Hid (Holds False (fun q => q ≠ g ∧ q < y1.heap.size) y1 (.slice (some ⟨y0.heap.size, 0, none⟩) 1 1) (dLinks [(-(k : Int), 0)])) := Lib.hid (by
                      have h : Own False (fun q => q ≠ g) 47 2 wC (y0.heap.size + 1) y1 (.slice (some ⟨y0.heap.size, 0, none⟩) 1 1) [[dI (-(k : Int)), dI 0]] := by
                        rw [A1.out]
                        exact Own.lit [.int .i64 (-(k : Int)), .int .i64 0] [[dI (-(k : Int)), dI 0]] (below_step' BQ6.out Y0.out) (by unfold maxLen; omega) rfl (by intro ds hds; simp only [List.mem_cons, List.not_mem_nil, or_false] at hds; rcases hds with rfl <;> rfl) (hl_int (hl_int (hl_nil)))
                      exact (h.holds (fun q hq => by have e2 : y0.heap.size = q := Option.some.inj hq; have := GLT.out; have := Y0.out.size; omega)).wide (fun q hq hp => ⟨hp, hq⟩))
                    have O1 : Hid (Own False (fun q => q ≠ g) 45 1 wC (y1.heap.size + 1) y2 (.slice (some ⟨y1.heap.size, 0, none⟩) 1 1) [[dLinks [(-(k : Int), 0)]]]) := Lib.hid (by rw [A2.out]; exact Own.lit [.slice (some ⟨y0.heap.size, 0, none⟩) 1 1] [[dLinks [(-(k : Int), 0)]]] (below_step' BQ6.out Y1.out) (by unfold maxLen; omega) rfl (by intro ds hds; rw [List.mem_singleton] at hds; subst hds; rfl) (hl_cons I1.out hl_nil))
                    obtain ⟨hln2, hno, news, hnews, hhl⟩ := newsP (HT.out.later Y2.out) (by intro ds hds; obtain ⟨x, _, rfl⟩ := List.mem_map.1 hds; rfl)
                    refine wpAnyH_ready (rs := [15]) (by kernel_rfl) (by simp) ?_
                    refine AllReadyH.cons rfl (fun K hK => ?_) AllReadyH.nil
                    refine appS rfl _ _ 23 45 iL (.slice none 0 0) 1 24 rfl Try.underlying23 hiL hzL hsL hbyL rfl (by decide) False (fun q => q ≠ g) wC _ _ _ ((pc.inn.take 4).map (fun m => [dLinks m])) 1 t sc (1 + t) rfl O1.out rfl sa rfl news hnews hno (by intro ds hds; obtain ⟨x, _, rfl⟩ := List.mem_map.1 hds; rfl) hln2 (hhl.wide (fun q hq hp => ⟨hp.1, fun e => by have e2 : y1.heap.size = q := Option.some.inj e; have := Y1.out.size; have := hp.2; omega, fun s => s.elim⟩)) rfl (by unfold maxLen; omega) (by omega) ?_
                    intro ao cv w6 hO hg6 hb6
                    have SZY : wa6.heap.size ≤ y1.heap.size := Y1.out.size
                    have BW6 : Hid (Below wa6.heap.size wa6 w6) := Lib.hid (Y2.out.grown hg6 Y2.out.size (fun q hq => by have e2 : y1.heap.size = q := Option.some.inj hq; omega))
                    have HN : Hid (Holds False (fun q => q ≠ g) w6 (.slice ao (1 + t) cv) (dLls ([(-(k : Int), 0)] :: pc.inn.take 4))) := Lib.hid (hO.holds (fun q hq => by
                      have hgl := GLT.out
                      have hyl := Y2.out.size
                      rcases hb6 with e | e
                      · rw [e] at hq; have e2 : y1.heap.size = q := Option.some.inj hq; omega
                      · rw [e] at hq; have e2 : y2.heap.size = q := Option.some.inj hq; omega))
                    clear hO hg6 hb6 hhl hnews hno hln2 O1 SZY
                    refine hK.out _ _ ?_ (fun hHeld => ?_)
                    · exact SC.out _ BW6.out
                    clear hK K
                    try simp only [Act.put, List.getElem_toArray, List.getElem_cons_zero, List.getElem_cons_succ, List.setIfInBounds_toArray, List.set_cons_zero, List.set_cons_succ]
                    refine tq 16 ?_
                    refine tq 17 ?_
                    refine rd 18 fun K hK => ?_
                    have kc : w6.cell? ⟨g, 46, none⟩ = some (.slice sa sn sc) := (BW6.out.cell (p := ⟨g, 46, none⟩) GLT.out).trans C0.out
                    have kf : w6.frozen? ⟨g, 46, none⟩ = false := (BW6.out.frozen (p := ⟨g, 46, none⟩) GLT.out).trans F0F.out
                    go_simp
                    clear kc kf
                    refine hK.out _ _ ?_ (fun hHeld => ?_)
                    · exact (World.cell?_setCell_other _ _ _ _ (by have := NEB.out; simp <;> omega)).trans (SC.out _ BW6.out)
                    clear hK K
                    try simp only [Act.put, List.getElem_toArray, List.getElem_cons_zero, List.getElem_cons_succ, List.setIfInBounds_toArray, List.set_cons_zero, List.set_cons_succ]
                    refine wpAnyH_done (by kernel_rfl) ?_ _
                    go_wp2_with fail
                    go_meet
                    case rel => exact ⟨ao, 1 + t, cv, (R7.out.below BW6.out).set 7 4 46 _ rfl (by decide) (by decide), (below_step' BQ6.out BW6.out).setCell GE.out _, (SameOn.of_below BW6.out).set _ _ (fun h => h rfl), HN.out.same ((SameOn.refl _ _).set _ _ (fun h => h rfl))⟩
                  · have kc : y1.cell? ⟨g, 46, none⟩ = some (.slice sa sn sc) := (Y1.out.cell (p := ⟨g, 46, none⟩) GLT.out).trans C0.out
                    go_simp
                    clear kc
                    refine hK.out _ _ ?_ (fun hHeld => ?_)
                    · exact SC.out _ Y1.out
                    clear hK K
                    try simp only [Act.put, List.getElem_toArray, List.getElem_cons_zero, List.getElem_cons_succ, List.setIfInBounds_toArray, List.set_cons_zero, List.set_cons_succ]
                    refine tq 14 ?_
                    refine rd 5 fun K hK => ?_
                    go_simp
                    refine hK.out _ _ ?_ (fun hHeld => ?_)
                    · exact SC.out _ (below_step' Y1.out (below_new _ _))
                    clear hK K
                    try simp only [Act.put, List.getElem_toArray, List.getElem_cons_zero, List.getElem_cons_succ, List.setIfInBounds_toArray, List.set_cons_zero, List.set_cons_succ]
                    obtain ⟨y2, hy⟩ : ∃ y, y = y1.alloc (.cells #[.slice (some ⟨y0.heap.size, 0, none⟩) 1 1] 45) := ⟨_, rfl⟩
                    have A2 := Lib.hid hy
                    have Y2 : Hid (Below wa6.heap.size wa6 y2) := Lib.hid (by rw [hy]; exact below_step' Y1.out (below_new _ _))
                    rw [← hy] at hHeld ⊢
                    clear hy
                    have I1 : Hid (Holds False (fun q => q ≠ g ∧ q < y1.heap.size) y1 (.slice (some ⟨y0.heap.size, 0, none⟩) 1 1) (dLinks [(-(k : Int), 0)])) := Lib.hid (by
                      have h : Own False (fun q => q ≠ g) 47 2 wC (y0.heap.size + 1) y1 (.slice (some ⟨y0.heap.size, 0, none⟩) 1 1) [[dI (-(k : Int)), dI 0]] := by
                        rw [A1.out]
                        exact Own.lit [.int .i64 (-(k : Int)), .int .i64 0] [[dI (-(k : Int)), dI 0]] (below_step' BQ6.out Y0.out) (by unfold maxLen; omega) rfl (by intro ds hds; simp only [List.mem_cons, List.not_mem_nil, or_false] at hds; rcases hds with rfl <;> rfl) (hl_int (hl_int (hl_nil)))
                      exact (h.holds (fun q hq => by have e2 : y0.heap.size = q := Option.some.inj hq; have := GLT.out; have := Y0.out.size; omega)).wide (fun q hq hp => ⟨hp, hq⟩))
                    have O1 : Hid (Own False (fun q => q ≠ g) 45 1 wC (y1.heap.size + 1) y2 (.slice (some ⟨y1.heap.size, 0, none⟩) 1 1) [[dLinks [(-(k : Int), 0)]]]) := Lib.hid (by rw [A2.out]; exact Own.lit [.slice (some ⟨y0.heap.size, 0, none⟩) 1 1] [[dLinks [(-(k : Int), 0)]]] (below_step' BQ6.out Y1.out) (by unfold maxLen; omega) rfl (by intro ds hds; rw [List.mem_singleton] at hds; subst hds; rfl) (hl_cons I1.out hl_nil))
                    obtain ⟨hln2, hno, news, hnews, hhl⟩ := newsP (HT.out.later Y2.out) (by intro ds hds; obtain ⟨x, _, rfl⟩ := List.mem_map.1 hds; rfl)
                    refine wpAnyH_ready (rs := [15]) (by kernel_rfl) (by simp) ?_
                    refine AllReadyH.cons rfl (fun K hK => ?_) AllReadyH.nil
                    refine appS rfl _ _ 23 45 iL (.slice none 0 0) 1 24 rfl Try.underlying23 hiL hzL hsL hbyL rfl (by decide) False (fun q => q ≠ g) wC _ _ _ ((pc.inn.take 4).map (fun m => [dLinks m])) 1 t sc (1 + t) rfl O1.out rfl sa rfl news hnews hno (by intro ds hds; obtain ⟨x, _, rfl⟩ := List.mem_map.1 hds; rfl) hln2 (hhl.wide (fun q hq hp => ⟨hp.1, fun e => by have e2 : y1.heap.size = q := Option.some.inj e; have := Y1.out.size; have := hp.2; omega, fun s => s.elim⟩)) rfl (by unfold maxLen; omega) (by omega) ?_
                    intro ao cv w6 hO hg6 hb6
                    have SZY : wa6.heap.size ≤ y1.heap.size := Y1.out.size
                    have BW6 : Hid (Below wa6.heap.size wa6 w6) := Lib.hid (Y2.out.grown hg6 Y2.out.size (fun q hq => by have e2 : y1.heap.size = q := Option.some.inj hq; omega))
                    have HN : Hid (Holds False (fun q => q ≠ g) w6 (.slice ao (1 + t) cv) (dLls ([(-(k : Int), 0)] :: pc.inn.take 4))) := Lib.hid (hO.holds (fun q hq => by
                      have hgl := GLT.out
                      have hyl := Y2.out.size
                      rcases hb6 with e | e
                      · rw [e] at hq; have e2 : y1.heap.size = q := Option.some.inj hq; omega
                      · rw [e] at hq; have e2 : y2.heap.size = q := Option.some.inj hq; omega))
                    clear hO hg6 hb6 hhl hnews hno hln2 O1 SZY
                    refine hK.out _ _ ?_ (fun hHeld => ?_)
                    · exact SC.out _ BW6.out
                    clear hK K
                    try simp only [Act.put, List.getElem_toArray, List.getElem_cons_zero, List.getElem_cons_succ, List.setIfInBounds_toArray, List.set_cons_zero, List.set_cons_succ]
                    refine tq 16 ?_
                    refine tq 17 ?_
                    refine rd 18 fun K hK => ?_
                    have kc : w6.cell? ⟨g, 46, none⟩ = some (.slice sa sn sc) := (BW6.out.cell (p := ⟨g, 46, none⟩) GLT.out).trans C0.out
                    have kf : w6.frozen? ⟨g, 46, none⟩ = false := (BW6.out.frozen (p := ⟨g, 46, none⟩) GLT.out).trans F0F.out
                    go_simp
                    clear kc kf
                    refine hK.out _ _ ?_ (fun hHeld => ?_)
                    · exact (World.cell?_setCell_other _ _ _ _ (by have := NEB.out; simp <;> omega)).trans (SC.out _ BW6.out)
                    clear hK K
                    try simp only [Act.put, List.getElem_toArray, List.getElem_cons_zero, List.getElem_cons_succ, List.setIfInBounds_toArray, List.set_cons_zero, List.set_cons_succ]
                    refine wpAnyH_done (by kernel_rfl) ?_ _
                    go_wp2_with fail
                    go_meet
                    case rel => exact ⟨ao, 1 + t, cv, (R7.out.below BW6.out).set 7 4 46 _ rfl (by decide) (by decide), (below_step' BQ6.out BW6.out).setCell GE.out _, (SameOn.of_below BW6.out).set _ _ (fun h => h rfl), HN.out.same ((SameOn.refl _ _).set _ _ (fun h => h rfl))⟩
                · have kc : y0.cell? ⟨g, 46, none⟩ = some (.slice sa sn sc) := (Y0.out.cell (p := ⟨g, 46, none⟩) GLT.out).trans C0.out
                  go_simp
                  clear kc
                  refine hK.out _ _ ?_ (fun hHeld => ?_)
                  · exact SC.out _ Y0.out
                  clear hK K
                  try simp only [Act.put, List.getElem_toArray, List.getElem_cons_zero, List.getElem_cons_succ, List.setIfInBounds_toArray, List.set_cons_zero, List.set_cons_succ]
                  refine tq 14 ?_
                  refine rd 4 fun K hK => ?_
                  go_simp
                  refine hK.out _ _ ?_ (fun hHeld => ?_)
                  · exact SC.out _ (below_step' Y0.out (below_new _ _))
                  clear hK K
                  try simp only [Act.put, List.getElem_toArray, List.getElem_cons_zero, List.getElem_cons_succ, List.setIfInBounds_toArray, List.set_cons_zero, List.set_cons_succ]
                  obtain ⟨y1, hy⟩ : ∃ y, y = y0.alloc (.cells #[.int .i64 (-(k : Int)), .int .i64 0] 47) := ⟨_, rfl⟩
                  have A1 := Lib.hid hy
                  have Y1 : Hid (Below wa6.heap.size wa6 y1) := Lib.hid (by rw [hy]; exact below_step' Y0.out (below_new _ _))
                  rw [← hy] at hHeld ⊢
                  clear hy
                  refine rd 5 fun K hK => ?_
                  go_simp
                  refine hK.out _ _ ?_ (fun hHeld => ?_)
                  · exact SC.out _ (below_step' Y1.out (below_new _ _))
                  clear hK K
                  try simp only [Act.put, List.getElem_toArray, List.getElem_cons_zero, List.getElem_cons_succ, List.setIfInBounds_toArray, List.set_cons_zero, List.set_cons_succ]
                  obtain ⟨y2, hy⟩ : ∃ y, y = y1.alloc (.cells #[.slice (some ⟨y0.heap.size, 0, none⟩) 1 1] 45) := ⟨_, rfl⟩
                  have A2 := Lib.hid hy
                  have Y2 : Hid (Below wa6.heap.size wa6 y2) := Lib.hid (by rw [hy]; exact below_step' Y1.out (below_new _ _))
                  rw [← hy] at hHeld ⊢
                  clear hy
                  have I1 : Hid (Holds False (fun q => q ≠ g ∧ q < y1.heap.size) y1 (.slice (some ⟨y0.heap.size, 0, none⟩) 1 1) (dLinks [(-(k : Int), 0)])) := Lib.hid (by
                    have h : Own False (fun q => q ≠ g) 47 2 wC (y0.heap.size + 1) y1 (.slice (some ⟨y0.heap.size, 0, none⟩) 1 1) [[dI (-(k : Int)), dI 0]] := by
                      rw [A1.out]
                      exact Own.lit [.int .i64 (-(k : Int)), .int .i64 0] [[dI (-(k : Int)), dI 0]] (below_step' BQ6.out Y0.out) (by unfold maxLen; omega) rfl (by intro ds hds; simp only [List.mem_cons, List.not_mem_nil, or_false] at hds; rcases hds with rfl <;> rfl) (hl_int (hl_int (hl_nil)))
                    exact (h.holds (fun q hq => by have e2 : y0.heap.size = q := Option.some.inj hq; have := GLT.out; have := Y0.out.size; omega)).wide (fun q hq hp => ⟨hp, hq⟩))
                  have O1 : Hid (Own False (fun q => q ≠ g) 45 1 wC (y1.heap.size + 1) y2 (.slice (some ⟨y1.heap.size, 0, none⟩) 1 1) [[dLinks [(-(k : Int), 0)]]]) := Lib.hid (by rw [A2.out]; exact Own.lit [.slice (some ⟨y0.heap.size, 0, none⟩) 1 1] [[dLinks [(-(k : Int), 0)]]] (below_step' BQ6.out Y1.out) (by unfold maxLen; omega) rfl (by intro ds hds; rw [List.mem_singleton] at hds; subst hds; rfl) (hl_cons I1.out hl_nil))
                  obtain ⟨hln2, hno, news, hnews, hhl⟩ := newsP (HT.out.later Y2.out) (by intro ds hds; obtain ⟨x, _, rfl⟩ := List.mem_map.1 hds; rfl)
                  refine wpAnyH_ready (rs := [15]) (by kernel_rfl) (by simp) ?_
                  refine AllReadyH.cons rfl (fun K hK => ?_) AllReadyH.nil
                  refine appS rfl _ _ 23 45 iL (.slice none 0 0) 1 24 rfl Try.underlying23 hiL hzL hsL hbyL rfl (by decide) False (fun q => q ≠ g) wC _ _ _ ((pc.inn.take 4).map (fun m => [dLinks m])) 1 t sc (1 + t) rfl O1.out rfl sa rfl news hnews hno (by intro ds hds; obtain ⟨x, _, rfl⟩ := List.mem_map.1 hds; rfl) hln2 (hhl.wide (fun q hq hp => ⟨hp.1, fun e => by have e2 : y1.heap.size = q := Option.some.inj e; have := Y1.out.size; have := hp.2; omega, fun s => s.elim⟩)) rfl (by unfold maxLen; omega) (by omega) ?_
                  intro ao cv w6 hO hg6 hb6
                  have SZY : wa6.heap.size ≤ y1.heap.size := Y1.out.size
                  have BW6 : Hid (Below wa6.heap.size wa6 w6) := Lib.hid (Y2.out.grown hg6 Y2.out.size (fun q hq => by have e2 : y1.heap.size = q := Option.some.inj hq; omega))
                  have HN : Hid (Holds False (fun q => q ≠ g) w6 (.slice ao (1 + t) cv) (dLls ([(-(k : Int), 0)] :: pc.inn.take 4))) := Lib.hid (hO.holds (fun q hq => by
                    have hgl := GLT.out
                    have hyl := Y2.out.size
                    rcases hb6 with e | e
                    · rw [e] at hq; have e2 : y1.heap.size = q := Option.some.inj hq; omega
                    · rw [e] at hq; have e2 : y2.heap.size = q := Option.some.inj hq; omega))
                  clear hO hg6 hb6 hhl hnews hno hln2 O1 SZY
                  refine hK.out _ _ ?_ (fun hHeld => ?_)
                  · exact SC.out _ BW6.out
                  clear hK K
                  try simp only [Act.put, List.getElem_toArray, List.getElem_cons_zero, List.getElem_cons_succ, List.setIfInBounds_toArray, List.set_cons_zero, List.set_cons_succ]
                  refine tq 16 ?_
                  refine tq 17 ?_
                  refine rd 18 fun K hK => ?_
                  have kc : w6.cell? ⟨g, 46, none⟩ = some (.slice sa sn sc) := (BW6.out.cell (p := ⟨g, 46, none⟩) GLT.out).trans C0.out
                  have kf : w6.frozen? ⟨g, 46, none⟩ = false := (BW6.out.frozen (p := ⟨g, 46, none⟩) GLT.out).trans F0F.out
                  go_simp
                  clear kc kf
                  refine hK.out _ _ ?_ (fun hHeld => ?_)
                  · exact (World.cell?_setCell_other _ _ _ _ (by have := NEB.out; simp <;> omega)).trans (SC.out _ BW6.out)
                  clear hK K
                  try simp only [Act.put, List.getElem_toArray, List.getElem_cons_zero, List.getElem_cons_succ, List.setIfInBounds_toArray, List.set_cons_zero, List.set_cons_succ]
                  refine wpAnyH_done (by kernel_rfl) ?_ _
                  go_wp2_with fail
                  go_meet
                  case rel => exact ⟨ao, 1 + t, cv, (R7.out.below BW6.out).set 7 4 46 _ rfl (by decide) (by decide), (below_step' BQ6.out BW6.out).setCell GE.out _, (SameOn.of_below BW6.out).set _ _ (fun h => h rfl), HN.out.same ((SameOn.refl _ _).set _ _ (fun h => h rfl))⟩
              case rest =>
                obtain ⟨va7, vn7, vc7, hr, hb, hs, hn⟩ := hcut
                obtain ⟨wa7, hwa⟩ : ∃ x, x = wc := ⟨_, rfl⟩
                subst hwa
                obtain ⟨F8, hF⟩ : ∃ f, f = up F7 7 4 (.slice va7 vn7 vc7) := ⟨_, rfl⟩
                rw [← hF] at hr
                have F8Q := Lib.hid hF
                have R8 := Lib.hid hr
                have BQ7 := Lib.hid hb
                have N7 := Lib.hid hn
                have HU7 : Hid (∀ i, i < 8 → HoldsL False (fun q => q ≠ g) wa7 [(nth us i).1, (nth us i).2.1, (nth us i).2.2] pc.d) := Lib.hid (fun i hi => (HU6.out i hi).same hs)
                replace N3 := Lib.hid (N3.out.same hs)
                replace N4 := Lib.hid (N4.out.same hs)
                replace N5 := Lib.hid (N5.out.same hs)
                replace N6 := Lib.hid (N6.out.same hs)
                clear hwr0
                clear hr hb hs hn hF SC C0 F0F GLT HT BCL hm1 hm2 ht4 htc R7 HU6 BQ6
                have NO : Hid (∀ i, i < 8 → NoAt g i wa7) := Lib.hid (by
                  obtain ⟨hm0, hm1', hm2'⟩ : pc.node = m0 ∧ pc.state = m1 ∧ pc.steps = m2 := by have h := PV.out undef undef undef; simpa [pcv] using h
                  intro i hi
                  match i, hi with
                  | 0, _ =>
                    refine noAt_mk R8.out (by decide) { pc with node := 6 + (k : Int) } (nth us 0).1 (nth us 0).2.1 (nth us 0).2.2 (no_ok rfl (fun h => ?_)) ⟨SPC.out.s, SPC.out.i, SPC.out.o, SPC.out.im, SPC.out.om⟩ ((HU7.out 0 (by decide)).weak) (by rw [F8Q.out, F7Q.out, F6Q.out, F5Q.out, F4Q.out, F3Q.out, F2Q.out, F1Q.out, F0Q.out]; first | rfl | simp [up, fC, hm0, hm1', hm2']) (by rw [F8Q.out, F7Q.out, F6Q.out, F5Q.out, F4Q.out, F3Q.out, F2Q.out, F1Q.out, F0Q.out]; first | rfl | simp [up, fC, hm0, hm1', hm2']) (by rw [F8Q.out, F7Q.out, F6Q.out, F5Q.out, F4Q.out, F3Q.out, F2Q.out, F1Q.out, F0Q.out]; first | rfl | simp [up, fC, hm0, hm1', hm2']) (by rw [F8Q.out, F7Q.out, F6Q.out, F5Q.out, F4Q.out, F3Q.out, F2Q.out, F1Q.out, F0Q.out]; first | rfl | simp [up, fC, hm0, hm1', hm2']) (by rw [F8Q.out, F7Q.out, F6Q.out, F5Q.out, F4Q.out, F3Q.out, F2Q.out, F1Q.out, F0Q.out]; first | rfl | simp [up, fC, hm0, hm1', hm2']) (by rw [F8Q.out, F7Q.out, F6Q.out, F5Q.out, F4Q.out, F3Q.out, F2Q.out, F1Q.out, F0Q.out]; first | rfl | simp [up, fC, hm0, hm1', hm2'])
                    obtain ⟨h1, h2, h3, h4, h5, h6⟩ := okB_parts h; have : 6 + (k : Int) ≤ 5 := h1.2; omega
                  | 1, _ =>
                    refine noAt_mk R8.out (by decide) { pc with state := 8 + (k : Int) } (nth us 1).1 (nth us 1).2.1 (nth us 1).2.2 (no_ok rfl (fun h => ?_)) ⟨SPC.out.s, SPC.out.i, SPC.out.o, SPC.out.im, SPC.out.om⟩ ((HU7.out 1 (by decide)).weak) (by rw [F8Q.out, F7Q.out, F6Q.out, F5Q.out, F4Q.out, F3Q.out, F2Q.out, F1Q.out, F0Q.out]; first | rfl | simp [up, fC, hm0, hm1', hm2']) (by rw [F8Q.out, F7Q.out, F6Q.out, F5Q.out, F4Q.out, F3Q.out, F2Q.out, F1Q.out, F0Q.out]; first | rfl | simp [up, fC, hm0, hm1', hm2']) (by rw [F8Q.out, F7Q.out, F6Q.out, F5Q.out, F4Q.out, F3Q.out, F2Q.out, F1Q.out, F0Q.out]; first | rfl | simp [up, fC, hm0, hm1', hm2']) (by rw [F8Q.out, F7Q.out, F6Q.out, F5Q.out, F4Q.out, F3Q.out, F2Q.out, F1Q.out, F0Q.out]; first | rfl | simp [up, fC, hm0, hm1', hm2']) (by rw [F8Q.out, F7Q.out, F6Q.out, F5Q.out, F4Q.out, F3Q.out, F2Q.out, F1Q.out, F0Q.out]; first | rfl | simp [up, fC, hm0, hm1', hm2']) (by rw [F8Q.out, F7Q.out, F6Q.out, F5Q.out, F4Q.out, F3Q.out, F2Q.out, F1Q.out, F0Q.out]; first | rfl | simp [up, fC, hm0, hm1', hm2'])
                    obtain ⟨h1, h2, h3, h4, h5, h6⟩ := okB_parts h; have : 8 + (k : Int) ≤ 7 := h2.2; omega
                  | 2, _ =>
                    refine noAt_mk R8.out (by decide) { pc with steps := -1 - (k : Int) } (nth us 2).1 (nth us 2).2.1 (nth us 2).2.2 (no_ok rfl (fun h => ?_)) ⟨SPC.out.s, SPC.out.i, SPC.out.o, SPC.out.im, SPC.out.om⟩ ((HU7.out 2 (by decide)).weak) (by rw [F8Q.out, F7Q.out, F6Q.out, F5Q.out, F4Q.out, F3Q.out, F2Q.out, F1Q.out, F0Q.out]; first | rfl | simp [up, fC, hm0, hm1', hm2']) (by rw [F8Q.out, F7Q.out, F6Q.out, F5Q.out, F4Q.out, F3Q.out, F2Q.out, F1Q.out, F0Q.out]; first | rfl | simp [up, fC, hm0, hm1', hm2']) (by rw [F8Q.out, F7Q.out, F6Q.out, F5Q.out, F4Q.out, F3Q.out, F2Q.out, F1Q.out, F0Q.out]; first | rfl | simp [up, fC, hm0, hm1', hm2']) (by rw [F8Q.out, F7Q.out, F6Q.out, F5Q.out, F4Q.out, F3Q.out, F2Q.out, F1Q.out, F0Q.out]; first | rfl | simp [up, fC, hm0, hm1', hm2']) (by rw [F8Q.out, F7Q.out, F6Q.out, F5Q.out, F4Q.out, F3Q.out, F2Q.out, F1Q.out, F0Q.out]; first | rfl | simp [up, fC, hm0, hm1', hm2']) (by rw [F8Q.out, F7Q.out, F6Q.out, F5Q.out, F4Q.out, F3Q.out, F2Q.out, F1Q.out, F0Q.out]; first | rfl | simp [up, fC, hm0, hm1', hm2'])
                    obtain ⟨h1, h2, h3, h4, h5, h6⟩ := okB_parts h; have : 0 ≤ -1 - (k : Int) := h3.1; omega
                  | 3, _ =>
                    refine noAt_mk R8.out (by decide) { pc with sent := (501 + (k : Int)) :: pc.sent.take 4 } (.slice va3 vn3 vc3) (nth us 3).2.1 (nth us 3).2.2 (no_ok rfl (fun h => ?_)) ⟨by have := List.length_take_le 4 pc.sent; show ((501 + (k : Int)) :: pc.sent.take 4).length ≤ _; rw [List.length_cons]; omega, SPC.out.i, SPC.out.o, SPC.out.im, SPC.out.om⟩ (has_pc N3.out.weak (hl_at (HU7.out 3 (by decide))).2.1.weak (hl_at (HU7.out 3 (by decide))).2.2.weak) (by rw [F8Q.out, F7Q.out, F6Q.out, F5Q.out, F4Q.out, F3Q.out, F2Q.out, F1Q.out, F0Q.out]; first | rfl | simp [up, fC, hm0, hm1', hm2']) (by rw [F8Q.out, F7Q.out, F6Q.out, F5Q.out, F4Q.out, F3Q.out, F2Q.out, F1Q.out, F0Q.out]; first | rfl | simp [up, fC, hm0, hm1', hm2']) (by rw [F8Q.out, F7Q.out, F6Q.out, F5Q.out, F4Q.out, F3Q.out, F2Q.out, F1Q.out, F0Q.out]; first | rfl | simp [up, fC, hm0, hm1', hm2']) (by rw [F8Q.out, F7Q.out, F6Q.out, F5Q.out, F4Q.out, F3Q.out, F2Q.out, F1Q.out, F0Q.out]; first | rfl | simp [up, fC, hm0, hm1', hm2']) (by rw [F8Q.out, F7Q.out, F6Q.out, F5Q.out, F4Q.out, F3Q.out, F2Q.out, F1Q.out, F0Q.out]; first | rfl | simp [up, fC, hm0, hm1', hm2']) (by rw [F8Q.out, F7Q.out, F6Q.out, F5Q.out, F4Q.out, F3Q.out, F2Q.out, F1Q.out, F0Q.out]; first | rfl | simp [up, fC, hm0, hm1', hm2'])
                    obtain ⟨h1, h2, h3, h4, h5, h6⟩ := okB_parts h; have := (h4.2 (501 + (k : Int)) (List.mem_cons_self ..)).2; omega
                  | 4, _ =>
                    refine noAt_mk R8.out (by decide) { pc with inn := [(2 + (k : Int), 0), (1 + (k : Int), 0)] :: pc.inn.take 4 } (nth us 4).1 (.slice va4 vn4 vc4) (nth us 4).2.2 (no_ok rfl (fun h => ?_)) ⟨SPC.out.s, by have := List.length_take_le 4 pc.inn; show ([((2 : Int) + (k : Int), (0 : Int)), (1 + (k : Int), 0)] :: pc.inn.take 4).length ≤ _; rw [List.length_cons]; omega, SPC.out.o, fun m hm => (by rcases List.mem_cons.1 hm with rfl | hm; exact (by decide : 2 ≤ 1000000); exact SPC.out.im m (List.mem_of_mem_take hm)), SPC.out.om⟩ (has_pc (hl_at (HU7.out 4 (by decide))).1.weak N4.out.weak (hl_at (HU7.out 4 (by decide))).2.2.weak) (by rw [F8Q.out, F7Q.out, F6Q.out, F5Q.out, F4Q.out, F3Q.out, F2Q.out, F1Q.out, F0Q.out]; first | rfl | simp [up, fC, hm0, hm1', hm2']) (by rw [F8Q.out, F7Q.out, F6Q.out, F5Q.out, F4Q.out, F3Q.out, F2Q.out, F1Q.out, F0Q.out]; first | rfl | simp [up, fC, hm0, hm1', hm2']) (by rw [F8Q.out, F7Q.out, F6Q.out, F5Q.out, F4Q.out, F3Q.out, F2Q.out, F1Q.out, F0Q.out]; first | rfl | simp [up, fC, hm0, hm1', hm2']) (by rw [F8Q.out, F7Q.out, F6Q.out, F5Q.out, F4Q.out, F3Q.out, F2Q.out, F1Q.out, F0Q.out]; first | rfl | simp [up, fC, hm0, hm1', hm2']) (by rw [F8Q.out, F7Q.out, F6Q.out, F5Q.out, F4Q.out, F3Q.out, F2Q.out, F1Q.out, F0Q.out]; first | rfl | simp [up, fC, hm0, hm1', hm2']) (by rw [F8Q.out, F7Q.out, F6Q.out, F5Q.out, F4Q.out, F3Q.out, F2Q.out, F1Q.out, F0Q.out]; first | rfl | simp [up, fC, hm0, hm1', hm2'])
                    obtain ⟨h1, h2, h3, h4, h5, h6⟩ := okB_parts h; have := h5.2 [(2 + (k : Int), 0), (1 + (k : Int), 0)] (List.mem_cons_self ..); simp only [riseB, Bool.and_eq_true, wi_iff] at this; omega
                  | 5, _ =>
                    refine noAt_mk R8.out (by decide) { pc with out := [0, 4 + (k : Int)] :: pc.out.take 4 } (nth us 5).1 (nth us 5).2.1 (.slice va5 vn5 vc5) (no_ok rfl (fun h => ?_)) ⟨SPC.out.s, SPC.out.i, by have := List.length_take_le 4 pc.out; show ([(0 : Int), 4 + (k : Int)] :: pc.out.take 4).length ≤ _; rw [List.length_cons]; omega, SPC.out.im, fun m hm => (by rcases List.mem_cons.1 hm with rfl | hm; exact (by decide : 2 ≤ 1000000); exact SPC.out.om m (List.mem_of_mem_take hm))⟩ (has_pc (hl_at (HU7.out 5 (by decide))).1.weak (hl_at (HU7.out 5 (by decide))).2.1.weak N5.out.weak) (by rw [F8Q.out, F7Q.out, F6Q.out, F5Q.out, F4Q.out, F3Q.out, F2Q.out, F1Q.out, F0Q.out]; first | rfl | simp [up, fC, hm0, hm1', hm2']) (by rw [F8Q.out, F7Q.out, F6Q.out, F5Q.out, F4Q.out, F3Q.out, F2Q.out, F1Q.out, F0Q.out]; first | rfl | simp [up, fC, hm0, hm1', hm2']) (by rw [F8Q.out, F7Q.out, F6Q.out, F5Q.out, F4Q.out, F3Q.out, F2Q.out, F1Q.out, F0Q.out]; first | rfl | simp [up, fC, hm0, hm1', hm2']) (by rw [F8Q.out, F7Q.out, F6Q.out, F5Q.out, F4Q.out, F3Q.out, F2Q.out, F1Q.out, F0Q.out]; first | rfl | simp [up, fC, hm0, hm1', hm2']) (by rw [F8Q.out, F7Q.out, F6Q.out, F5Q.out, F4Q.out, F3Q.out, F2Q.out, F1Q.out, F0Q.out]; first | rfl | simp [up, fC, hm0, hm1', hm2']) (by rw [F8Q.out, F7Q.out, F6Q.out, F5Q.out, F4Q.out, F3Q.out, F2Q.out, F1Q.out, F0Q.out]; first | rfl | simp [up, fC, hm0, hm1', hm2'])
                    obtain ⟨h1, h2, h3, h4, h5, h6⟩ := okB_parts h; have := (h6.2 [0, 4 + (k : Int)] (List.mem_cons_self ..)).2 (4 + (k : Int)) (by simp); omega
                  | 6, _ =>
                    refine noAt_mk R8.out (by decide) { pc with sent := [0, 0, 0, 0, 0, (k : Int)] } (.slice (some ⟨b6, 0, none⟩) 6 6) (nth us 6).2.1 (nth us 6).2.2 (no_ok rfl (fun h => ?_)) ⟨(by decide : 6 ≤ 1000000), SPC.out.i, SPC.out.o, SPC.out.im, SPC.out.om⟩ (has_pc N6.out.weak (hl_at (HU7.out 6 (by decide))).2.1.weak (hl_at (HU7.out 6 (by decide))).2.2.weak) (by rw [F8Q.out, F7Q.out, F6Q.out, F5Q.out, F4Q.out, F3Q.out, F2Q.out, F1Q.out, F0Q.out]; first | rfl | simp [up, fC, hm0, hm1', hm2']) (by rw [F8Q.out, F7Q.out, F6Q.out, F5Q.out, F4Q.out, F3Q.out, F2Q.out, F1Q.out, F0Q.out]; first | rfl | simp [up, fC, hm0, hm1', hm2']) (by rw [F8Q.out, F7Q.out, F6Q.out, F5Q.out, F4Q.out, F3Q.out, F2Q.out, F1Q.out, F0Q.out]; first | rfl | simp [up, fC, hm0, hm1', hm2']) (by rw [F8Q.out, F7Q.out, F6Q.out, F5Q.out, F4Q.out, F3Q.out, F2Q.out, F1Q.out, F0Q.out]; first | rfl | simp [up, fC, hm0, hm1', hm2']) (by rw [F8Q.out, F7Q.out, F6Q.out, F5Q.out, F4Q.out, F3Q.out, F2Q.out, F1Q.out, F0Q.out]; first | rfl | simp [up, fC, hm0, hm1', hm2']) (by rw [F8Q.out, F7Q.out, F6Q.out, F5Q.out, F4Q.out, F3Q.out, F2Q.out, F1Q.out, F0Q.out]; first | rfl | simp [up, fC, hm0, hm1', hm2'])
                    obtain ⟨h1, h2, h3, h4, h5, h6⟩ := okB_parts h; have : 6 ≤ 5 := h4.1; omega
                  | 7, _ =>
                    refine noAt_mk R8.out (by decide) { pc with inn := [(-(k : Int), 0)] :: pc.inn.take 4 } (nth us 7).1 (.slice va7 vn7 vc7) (nth us 7).2.2 (no_ok rfl (fun h => ?_)) ⟨SPC.out.s, by have := List.length_take_le 4 pc.inn; show ([(-(k : Int), (0 : Int))] :: pc.inn.take 4).length ≤ _; rw [List.length_cons]; omega, SPC.out.o, fun m hm => (by rcases List.mem_cons.1 hm with rfl | hm; exact (by decide : 1 ≤ 1000000); exact SPC.out.im m (List.mem_of_mem_take hm)), SPC.out.om⟩ (has_pc (hl_at (HU7.out 7 (by decide))).1.weak N7.out.weak (hl_at (HU7.out 7 (by decide))).2.2.weak) (by rw [F8Q.out, F7Q.out, F6Q.out, F5Q.out, F4Q.out, F3Q.out, F2Q.out, F1Q.out, F0Q.out]; first | rfl | simp [up, fC, hm0, hm1', hm2']) (by rw [F8Q.out, F7Q.out, F6Q.out, F5Q.out, F4Q.out, F3Q.out, F2Q.out, F1Q.out, F0Q.out]; first | rfl | simp [up, fC, hm0, hm1', hm2']) (by rw [F8Q.out, F7Q.out, F6Q.out, F5Q.out, F4Q.out, F3Q.out, F2Q.out, F1Q.out, F0Q.out]; first | rfl | simp [up, fC, hm0, hm1', hm2']) (by rw [F8Q.out, F7Q.out, F6Q.out, F5Q.out, F4Q.out, F3Q.out, F2Q.out, F1Q.out, F0Q.out]; first | rfl | simp [up, fC, hm0, hm1', hm2']) (by rw [F8Q.out, F7Q.out, F6Q.out, F5Q.out, F4Q.out, F3Q.out, F2Q.out, F1Q.out, F0Q.out]; first | rfl | simp [up, fC, hm0, hm1', hm2']) (by rw [F8Q.out, F7Q.out, F6Q.out, F5Q.out, F4Q.out, F3Q.out, F2Q.out, F1Q.out, F0Q.out]; first | rfl | simp [up, fC, hm0, hm1', hm2'])
                    obtain ⟨h1, h2, h3, h4, h5, h6⟩ := okB_parts h; have := h5.2 [(-(k : Int), 0)] (List.mem_cons_self ..); simp only [riseB, Bool.and_eq_true, wi_iff] at this; omega)
                clear N3 N4 N5 N6 N7 HU7 R8
                obtain ⟨wf, hwf⟩ : ∃ x, x = wa7 := ⟨_, rfl⟩
                subst hwf
                go_wp2_with fail
                go_loopw [8] (fun i wr => ∃ j : Nat, i = .int .i64 j ∧ j ≤ 8 ∧ Below wf.heap.size wf wr) (fun i _ => 8 - (intOf i).toNat)
                case atStart => exact ⟨0, rfl, by omega, Below.refl _ _⟩
                case round =>
                  obtain ⟨j, rfl, hj, hb⟩ := hrel
                  obtain ⟨wv, hw1⟩ : ∃ x, x = wr := ⟨_, rfl⟩
                  subst hw1
                  have HB := Lib.hid hb
                  clear hb
                  by_cases hlt : j < 8
                  · have hl8 : (j : Int) < 8 := by omega
                    obtain ⟨q, v1, v2, v3, ho, hs, hq, c0, c1, c2, c3, c4, c5⟩ := (NO.out j hlt).below HB.out
                    obtain ⟨a1', a2', a3', n1', n2', n3', e1', e2', e3', ee1, ee2, ee3⟩ := pc_slices hq
                    subst ee1
                    subst ee2
                    subst ee3
                    have RT2 := Lib.hid (right_at q false _ _ _ wv hq hs ho.symm)
                    clear ho hs hq
                    go_wp2_with fail
                    refine RT2.out.mono ?_
                    rintro e w9 ⟨rfl, hb2⟩
                    have B9 := Lib.hid (below_step' HB.out hb2)
                    clear hb2 c0 c1 c2 c3 c4 c5 RT2
                    go_wp2_with fail
                    go_roundw
                    case rel => exact ⟨j + 1, by go_num, by omega, B9.out⟩
                    case measure => simp [intOf]; omega
                  · obtain rfl : 8 = j := by omega
                    have hl8 : ¬ (8 : Int) < 8 := by omega
                    have BV := Lib.hid (below_step' BQ7.out HB.out)
                    clear hj hlt
                    have p0 := KC.out.below BV.out 0 _ rfl
                    have p1 := KC.out.below BV.out 1 _ rfl
                    have p2 := KC.out.below BV.out 2 _ rfl
                    have p3 := KC.out.below BV.out 3 _ rfl
                    have p4 := KC.out.below BV.out 4 _ rfl
                    have p5 := KC.out.below BV.out 5 _ rfl
                    go_wp2_with fail
                    refine (RT.out true OK.out.symm _ BV.out).mono ?_
                    rintro e w9 ⟨rfl, hb2⟩
                    have B9 := Lib.hid (below_step' BV.out hb2)
                    clear hb2 p0 p1 p2 p3 p4 p5
                    go_wp2_with fail
                    refine (fixed6_any _).mono ?_
                    rintro e w10 ⟨rfl, hb2⟩
                    have B10 := Lib.hid (below_step' B9.out hb2)
                    clear hb2
                    go_wp2_with fail
                    go_ret
                    exact ⟨rfl, below_step' BC.out B10.out⟩
end Go.Proofs.Ytcopedhoepblpaa
