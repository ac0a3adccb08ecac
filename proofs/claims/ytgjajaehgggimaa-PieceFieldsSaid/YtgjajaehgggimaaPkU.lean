/- PieceFields: the walk. Written by gen_pfields.py. -/
import Derived.Test.YtgjajaehgggimaaPkP
import Derived.Test.YtgjajaehgggimaaPkT
set_option linter.unusedSimpArgs false
set_option linter.unusedVariables false
set_option maxRecDepth 100000
namespace Go.Proofs.Ytgjajaehgggimaa
open Go.RowKit Go.PlainAid

set_option maxHeartbeats 8000000 in
theorem walkPieceFields (p : Pc) (v1 v2 v3 : Value) (w : World) (h : HasL w [v1, v2, v3] p.d) :
    Calls Try.prog 6 #[pcv p v1 v2 v3] w fun e w' => e = .returned (.bool true) ∧ Below w.heap.size w w' := by
  have CT := fun y (hb : Below w.heap.size w y) => cut_at p v1 v2 v3 y (h.later hb)
  obtain ⟨a1, a2, a3, n1, n2, n3, e1, e2, e3, ee1, ee2, ee3⟩ := pc_slices h
  subst ee1
  subst ee2
  subst ee3
  have HCT := Lib.hid CT
  clear h CT
  obtain ⟨m0, hm0⟩ : ∃ m, m = p.node := ⟨_, rfl⟩
  obtain ⟨m1, hm1⟩ : ∃ m, m = p.state := ⟨_, rfl⟩
  obtain ⟨m2, hm2⟩ : ∃ m, m = p.steps := ⟨_, rfl⟩
  have PQ : Hid (∀ x y z, pcv (cutP p) x y z = .agg #[.int .i64 m0, .int .i64 m1, .int .i64 m2, x, y, z]) := Lib.hid (fun x y z => by rw [hm0, hm1, hm2]; rfl)
  unfold pcv at HCT ⊢
  rw [← hm0, ← hm1, ← hm2] at HCT ⊢
  clear hm0 hm1 hm2
  go_enter Try.func6, Try.ntmps6
  try simp only [List.append_eq, List.cons_append, List.nil_append]
  go_upto_region 1 with fail
  obtain ⟨bc, hbc⟩ : ∃ b, b = w.heap.size := ⟨_, rfl⟩
  obtain ⟨y0, hy0⟩ : ∃ y, y = w.alloc (.cells #[.int .i64 m0, .int .i64 m1, .int .i64 m2, .slice a1 n1 e1, .slice a2 n2 e2, .slice a3 n3 e3] 26) := ⟨_, rfl⟩
  have hb0 : Below w.heap.size w y0 := by rw [hy0]; exact below_new _ _
  have hx0 : BoxAt bc [.int .i64 m0, .int .i64 m1, .int .i64 m2, .slice a1 n1 e1, .slice a2 n2 e2, .slice a3 n3 e3] y0 := by rw [hbc, hy0]; exact boxAt_new w [.int .i64 m0, .int .i64 m1, .int .i64 m2, .slice a1 n1 e1, .slice a2 n2 e2, .slice a3 n3 e3] _
  have hf0 : ∀ i, y0.frozen? ⟨bc, i, none⟩ = false := fun i => by rw [hbc, hy0]; exact frozen_new w _ _ i
  have hbl : bc < y0.heap.size ∧ w.heap.size ≤ bc := by rw [hbc, hy0, size_new]; omega
  rw [← hy0, ← hbc]
  have B0 := Lib.hid hb0
  have K0 := Lib.hid hx0
  have F0 := Lib.hid hf0
  have BL := Lib.hid hbl
  clear hy0 hb0 hx0 hf0 hbl hbc
  have p0 := K0.out 0 _ rfl
  have p1 := K0.out 1 _ rfl
  have p2 := K0.out 2 _ rfl
  have p3 := K0.out 3 _ rfl
  have p4 := K0.out 4 _ rfl
  have p5 := K0.out 5 _ rfl
  go_wp2_with fail
  refine (HCT.out _ B0.out).mono ?_
  rintro e w1 ⟨v1, v2, v3, rfl, hC, hb⟩
  obtain ⟨b1, b2, b3, l1, l2, l3, f1, f2, f3, ee1, ee2, ee3⟩ := pc_slices hC.weak
  subst ee1
  subst ee2
  subst ee3
  rw [PQ.out]
  obtain ⟨pc, hpc⟩ : ∃ q, q = cutP p := ⟨_, rfl⟩
  have SPC : Hid (SmallPc pc) := Lib.hid (by rw [hpc]; exact cutP_small p)
  have PV : Hid (∀ x y z, pcv pc x y z = .agg #[.int .i64 m0, .int .i64 m1, .int .i64 m2, x, y, z]) := Lib.hid (by rw [hpc]; exact PQ.out)
  rw [← hpc] at hC
  have PCD := Lib.hid hpc
  have B1 := Lib.hid hb
  have HC1 := Lib.hid hC
  clear hb hC hpc p0 p1 p2 p3 p4 p5 HCT PQ
  have p0 := K0.out.below B1.out 0 _ rfl
  have p1 := K0.out.below B1.out 1 _ rfl
  have p2 := K0.out.below B1.out 2 _ rfl
  have p3 := K0.out.below B1.out 3 _ rfl
  have p4 := K0.out.below B1.out 4 _ rfl
  have p5 := K0.out.below B1.out 5 _ rfl
  have g0 : w1.frozen? ⟨bc, 0, none⟩ = false := (B1.out.frozen (p := ⟨bc, 0, none⟩) BL.out.1).trans (F0.out 0)
  have g1 : w1.frozen? ⟨bc, 1, none⟩ = false := (B1.out.frozen (p := ⟨bc, 1, none⟩) BL.out.1).trans (F0.out 1)
  have g2 : w1.frozen? ⟨bc, 2, none⟩ = false := (B1.out.frozen (p := ⟨bc, 2, none⟩) BL.out.1).trans (F0.out 2)
  have g3 : w1.frozen? ⟨bc, 3, none⟩ = false := (B1.out.frozen (p := ⟨bc, 3, none⟩) BL.out.1).trans (F0.out 3)
  have g4 : w1.frozen? ⟨bc, 4, none⟩ = false := (B1.out.frozen (p := ⟨bc, 4, none⟩) BL.out.1).trans (F0.out 4)
  have g5 : w1.frozen? ⟨bc, 5, none⟩ = false := (B1.out.frozen (p := ⟨bc, 5, none⟩) BL.out.1).trans (F0.out 5)
  go_upto_region 2 with fail
  obtain ⟨wc, hwc⟩ : ∃ x, x = set6 w1 bc (.int .i64 m0) (.int .i64 m1) (.int .i64 m2) (.slice b1 l1 f1) (.slice b2 l2 f2) (.slice b3 l3 f3) := ⟨_, rfl⟩
  have KC : Hid (BoxAt bc [.int .i64 m0, .int .i64 m1, .int .i64 m2, .slice b1 l1 f1, .slice b2 l2 f2, .slice b3 l3 f3] wc) := Lib.hid (by rw [hwc]; exact box_set6 (K0.out.below B1.out))
  have HC : Hid (HasL wc [.slice b1 l1 f1, .slice b2 l2 f2, .slice b3 l3 f3] pc.d) := Lib.hid (by rw [hwc]; exact (HC1.out.same (set6_same (fun (h : y0.heap.size ≤ bc) => by have := BL.out.1; omega))).weak)
  have BC : Hid (Below w.heap.size w wc) := Lib.hid (by rw [hwc]; exact set6_below (below_step' B0.out B1.out) BL.out.2)
  rw [show ((((((w1.setCell ⟨bc, 0, none⟩ (.int .i64 m0)).setCell ⟨bc, 1, none⟩ (.int .i64 m1)).setCell ⟨bc, 2, none⟩ (.int .i64 m2)).setCell ⟨bc, 3, none⟩ (.slice b1 l1 f1)).setCell ⟨bc, 4, none⟩ (.slice b2 l2 f2)).setCell ⟨bc, 5, none⟩ (.slice b3 l3 f3)) = wc from hwc.symm]
  clear hwc p0 p1 p2 p3 p4 p5 g0 g1 g2 g3 g4 g5 B1 HC1 K0 F0
  have p0 := KC.out.below (Below.refl _ wc) 0 _ rfl
  have p1 := KC.out.below (Below.refl _ wc) 1 _ rfl
  have p2 := KC.out.below (Below.refl _ wc) 2 _ rfl
  have p3 := KC.out.below (Below.refl _ wc) 3 _ rfl
  have p4 := KC.out.below (Below.refl _ wc) 4 _ rfl
  have p5 := KC.out.below (Below.refl _ wc) 5 _ rfl
  have ET := Lib.hid (encode_at pc _ _ _ wc HC.out SPC.out)
  have RT := Lib.hid (fun (r : Bool) (hr : r = okB pc) (y : World) (hb : Below wc.heap.size wc y) => right_at pc r _ _ _ y (HC.out.later hb) SPC.out hr)
  rw [PV.out] at ET RT
  cases hok : okB pc with
  | false =>
    rw [enc_no hok] at ET
    have OK := Lib.hid hok
    obtain ⟨er, her⟩ : ∃ x, x = strB [] := ⟨_, rfl⟩
    rw [← her] at ET
    have hel : (er.toList == []) = true := by rw [her, toList_data, strB_data]; rfl
    have hel2 : er.toList = [] := by rw [her, toList_data, strB_data]
    clear hok her
    go_wp2_with fail
    refine ET.out.mono ?_
    rintro e w2 ⟨rfl, hb⟩
    have B2 := Lib.hid hb
    clear hb p0 p1 p2 p3 p4 p5 ET
    have p0 := KC.out.below B2.out 0 _ rfl
    have p1 := KC.out.below B2.out 1 _ rfl
    have p2 := KC.out.below B2.out 2 _ rfl
    have p3 := KC.out.below B2.out 3 _ rfl
    have p4 := KC.out.below B2.out 4 _ rfl
    have p5 := KC.out.below B2.out 5 _ rfl
    go_wp2_with fail
    refine (RT.out false OK.out.symm _ B2.out).mono ?_
    rintro e w3 ⟨rfl, hb⟩
    have B3 := Lib.hid (below_step' B2.out hb)
    clear hb p0 p1 p2 p3 p4 p5 RT
    go_wp2_with fail
    refine (fixed6_any _).mono ?_
    rintro e w10 ⟨rfl, hb⟩
    have B10 := Lib.hid (below_step' B3.out hb)
    clear hb
    go_wp2_with fail
    go_ret
    exact ⟨rfl, below_step' BC.out B10.out⟩
  | true =>
    have EN := Lib.hid (enc_ok hok)
    have ESZ := Lib.hid (enc_size pc)
    have AN := Lib.hid (all_nums hok)
    have NL := Lib.hid (nums_len hok)
    rw [EN.out] at ET ESZ
    obtain ⟨er, her⟩ : ∃ x, x = strB (putsB (numsOf pc)) := ⟨_, rfl⟩
    rw [← her] at ET ESZ AN
    have OK := Lib.hid hok
    have hes : er.size ≤ 37605 := ESZ.out
    clear hok her EN RT
    go_wp2_with fail
    refine ET.out.mono ?_
    rintro e w2 ⟨rfl, hb⟩
    have B2 := Lib.hid hb
    clear hb p0 p1 p2 p3 p4 p5 ET
    go_wp2_with fail
    refine (rall_any er _ (by omega)).mono ?_
    rintro e w3 ⟨v, rfl, hO, hb⟩
    have hI := IntsAt.owns hO
    rw [AN.out] at hI ⊢
    simp only at hI ⊢
    have hsl := ints_len (pc_has HC.out).1
    have hnl : (numsOf pc).length = (numsOf pc).length := rfl
    have hg : (numsOf pc).getD 0 0 = m0 ∧ (numsOf pc).getD 1 0 = m1 ∧ (numsOf pc).getD 2 0 = m2 ∧ (numsOf pc).getD 3 0 = (l1 : Int) ∧ 6 ≤ (numsOf pc).length := by
      have e := PV.out (.slice none 0 0) (.slice none 0 0) (.slice none 0 0)
      unfold pcv at e
      simp only [Value.agg.injEq, Array.mk.injEq, List.cons.injEq, Value.int.injEq, true_and, and_true] at e
      rw [hsl, ← e.1, ← e.2.1, ← e.2.2]
      refine ⟨rfl, rfl, rfl, rfl, ?_⟩
      unfold numsOf intsN
      simp only [List.length_cons, List.length_append]
      omega
    rcases id hI with ⟨_, _, _, e0⟩ | ⟨lb, lo, ln, lc, rfl, hll, hl0, hlb, hlc, hcell⟩
    · exfalso
      have := hg.2.2.2.2
      rw [e0] at this
      simp at this
    have hz0 := hcell 0 (by have := hg.2.2.2.2; omega)
    have hz1 := hcell 1 (by have := hg.2.2.2.2; omega)
    have hz2 := hcell 2 (by have := hg.2.2.2.2; omega)
    have hz3 := hcell 3 (by have := hg.2.2.2.2; omega)
    rw [hg.1] at hz0
    rw [hg.2.1] at hz1
    rw [hg.2.2.1] at hz2
    rw [hg.2.2.2.1] at hz3
    rw [Nat.add_zero] at hz0
    have hl6 : 6 ≤ ln := by have := hg.2.2.2.2; omega
    have hln : ln ≤ 7521 := by have := NL.out; omega
    have B3 := Lib.hid (below_step' B2.out hb)
    have HI := Lib.hid hI
    have MS : Hid (∀ wz, Below w3.heap.size w3 wz → (fun wz => wz.cell? ⟨bc, 0, none⟩ = some (.int .i64 m0) ∧ wz.cell? ⟨bc, 1, none⟩ = some (.int .i64 m1) ∧ wz.cell? ⟨bc, 2, none⟩ = some (.int .i64 m2) ∧ wz.cell? ⟨bc, 3, none⟩ = some (.slice b1 l1 f1) ∧ wz.cell? ⟨bc, 4, none⟩ = some (.slice b2 l2 f2) ∧ wz.cell? ⟨bc, 5, none⟩ = some (.slice b3 l3 f3) ∧ wz.cell? ⟨lb, lo, none⟩ = some (.int .i64 m0) ∧ wz.cell? ⟨lb, lo + 1, none⟩ = some (.int .i64 m1) ∧ wz.cell? ⟨lb, lo + 2, none⟩ = some (.int .i64 m2) ∧ wz.cell? ⟨lb, lo + 3, none⟩ = some (.int .i64 (l1 : Int))) wz) := Lib.hid (fun wz hb => by
      have h4 := below_step' B3.out hb
      exact ⟨KC.out.below h4 0 _ rfl, KC.out.below h4 1 _ rfl, KC.out.below h4 2 _ rfl, KC.out.below h4 3 _ rfl, KC.out.below h4 4 _ rfl, KC.out.below h4 5 _ rfl, (hb.cell hlb).trans hz0, (hb.cell hlb).trans hz1, (hb.cell hlb).trans hz2, (hb.cell hlb).trans hz3⟩)
    have RP := Lib.hid (fun y => ref_at pc (.slice b1 l1 f1) (.slice b2 l2 f2) (.slice b3 l3 f3) y ⟨_, _, _, _, _, _, _, _, _, rfl, rfl, rfl⟩)
    have NU := Lib.hid (fun y (hb : Below wc.heap.size wc y) => rnums_at pc _ _ _ y (HC.out.later hb) OK.out)
    rw [PV.out] at RP NU
    clear hz0 hz1 hz2 hz3 hb hI hO hcell hg hnl hll hlb hsl
    have hl6' : (6 : Int) ≤ ln := by omega
    have hb0 : (0 : Int) < ln := by omega
    have hb1 : (1 : Int) < ln := by omega
    have hb2 : (2 : Int) < ln := by omega
    have hb3 : (3 : Int) < ln := by omega
    go_upto_region 6 with fail
    refine wp_region_held_drew (S := (fun wz => wz.cell? ⟨bc, 0, none⟩ = some (.int .i64 m0) ∧ wz.cell? ⟨bc, 1, none⟩ = some (.int .i64 m1) ∧ wz.cell? ⟨bc, 2, none⟩ = some (.int .i64 m2) ∧ wz.cell? ⟨bc, 3, none⟩ = some (.slice b1 l1 f1) ∧ wz.cell? ⟨bc, 4, none⟩ = some (.slice b2 l2 f2) ∧ wz.cell? ⟨bc, 5, none⟩ = some (.slice b3 l3 f3) ∧ wz.cell? ⟨lb, lo, none⟩ = some (.int .i64 m0) ∧ wz.cell? ⟨lb, lo + 1, none⟩ = some (.int .i64 m1) ∧ wz.cell? ⟨lb, lo + 2, none⟩ = some (.int .i64 m2) ∧ wz.cell? ⟨lb, lo + 3, none⟩ = some (.int .i64 (l1 : Int)))) (by kernel_rfl) ?_ (fun hHeld => ?_)
    · exact MS.out _ (below_drewN (Below.refl w3.heap.size w3) 1)
    obtain ⟨y3, hy3⟩ : ∃ y, y = w3.drew := ⟨_, rfl⟩
    rw [← hy3] at hHeld ⊢
    have C0 : Hid (Below w3.heap.size w3 y3) := Lib.hid (by rw [hy3]; exact below_drewN (Below.refl w3.heap.size w3) 1)
    clear hy3
    refine tq 0 ?_
    refine tq 1 ?_
    refine tq 2 ?_
    refine tq 3 ?_
    refine tq 4 ?_
    refine rd 5 fun K hK => ?_
    go_simp
    refine (RP.out _).mono ?_
    rintro e w4 ⟨rfl, hb⟩
    have C1 := Lib.hid (below_step' C0.out hb)
    clear hb
    go_wp2_with fail
    refine hK.out _ _ ?_ (fun hHeld => ?_)
    · exact MS.out _ C1.out
    clear hK K
    refine rd 6 fun K hK => ?_
    go_simp
    refine (NU.out _ (below_step' B3.out C1.out)).mono ?_
    rintro e w5 ⟨u, rfl, hU, hb⟩
    have C2 := Lib.hid (below_step' C1.out hb)
    have RI := rints_any _ u (numsOf pc) (numsOf pc) w5 (HI.out.below C2.out) hU.ints (by have := NL.out; omega) (by have := NL.out; omega)
    rw [decide_eq_true rfl] at RI
    have RI' := Lib.hid RI
    clear hb hU RI
    go_wp2_with fail
    refine hK.out _ _ ?_ (fun hHeld => ?_)
    · exact MS.out _ C2.out
    clear hK K
    refine rd 7 fun K hK => ?_
    go_simp
    refine RI'.out.mono ?_
    rintro e w6 ⟨rfl, n, rfl⟩
    obtain ⟨w6, hw6⟩ : ∃ x, x = w5.drewN n := ⟨_, rfl⟩
    have C3 : Hid (Below w3.heap.size w3 w6) := Lib.hid (by rw [hw6]; exact below_drewN C2.out n)
    rw [← hw6]
    clear hw6
    go_wp2_with fail
    refine hK.out _ _ ?_ (fun hHeld => ?_)
    · exact MS.out _ C3.out
    clear hK K
    refine tq 8 ?_
    refine tq 9 ?_
    refine tq 10 ?_
    refine tq 11 ?_
    refine tq 12 ?_
    refine tq 13 ?_
    refine tq 14 ?_
    refine tq 15 ?_
    refine tq 16 ?_
    refine tq 17 ?_
    refine tq 18 ?_
    refine tq 19 ?_
    refine tq 20 ?_
    refine tq 21 ?_
    refine tq 22 ?_
    refine tq 23 ?_
    refine tq 24 ?_
    refine tq 25 ?_
    refine tq 26 ?_
    refine tq 27 ?_
    refine tq 28 ?_
    refine tq 29 ?_
    refine tq 30 ?_
    refine tq 31 ?_
    refine tq 32 ?_
    refine tq 33 ?_
    refine tq 34 ?_
    refine tq 35 ?_
    refine tq 36 ?_
    refine tq 37 ?_
    refine tq 38 ?_
    refine tq 39 ?_
    refine tq 40 ?_
    refine tq 41 ?_
    refine tq 42 ?_
    refine tq 43 ?_
    refine tq 44 ?_
    refine tq 45 ?_
    refine tq 46 ?_
    refine tq 47 ?_
    refine rd 48 fun K hK => ?_
    go_simp
    refine (fixed6_any _).mono ?_
    rintro e w7 ⟨rfl, hb⟩
    have C4 := Lib.hid (below_step' C3.out hb)
    clear hb
    go_wp2_with fail
    refine hK.out _ _ ?_ (fun hHeld => ?_)
    · exact MS.out _ C4.out
    clear hK K
    refine tq 49 ?_
    refine tq 50 ?_
    refine wpAnyH_done (by kernel_rfl) ?_ _
    go_wp2_with fail
    go_ret
    exact ⟨rfl, below_step' BC.out (below_step' B3.out C4.out)⟩
end Go.Proofs.Ytgjajaehgggimaa
