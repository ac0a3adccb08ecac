/- PieceBack: the walk. Written by gen_pback.py. -/
import Derived.Test.YtcopedhoepblpaaPkO
import Derived.Deep.CutRange
set_option linter.unusedSimpArgs false
set_option linter.unusedVariables false
set_option maxRecDepth 100000
namespace Go.Proofs.Ytcopedhoepblpaa
open Go.RowKit Go.PlainAid

theorem cut_size300 (s : ByteArray) : (s.extract 0 (min (s.size : Int) 300).toNat).size ≤ 300 := by
  rw [ByteArray.size_extract]; omega
set_option maxHeartbeats 8000000 in
theorem walkPieceBack (p : Pc) (v1 v2 v3 : Value) (s : ByteArray) (w : World) (h : HasL w [v1, v2, v3] p.d) (hs : s.size ≤ maxLen) :
    Calls Try.prog 4 #[pcv p v1 v2 v3, .string s] w fun e w' => e = .returned (.bool true) ∧ Below w.heap.size w w' := by
  unfold maxLen at hs
  have CT := fun y (hb : Below w.heap.size w y) => cut_at p v1 v2 v3 y (h.later hb)
  obtain ⟨a1, a2, a3, n1, n2, n3, e1, e2, e3, ee1, ee2, ee3⟩ := pc_slices h
  subst ee1
  subst ee2
  subst ee3
  have HCT := Lib.hid CT
  clear h CT
  obtain ⟨m0, hm0⟩ : ∃ m, m = p.node := ⟨_, rfl⟩
  obtain ⟨m1, hm1⟩ : ∃ m, m = p.state := ⟨_, rfl⟩
  obtain ⟨m2, hm2⟩ : ∃ m, m = p.steps := ⟨_, rfl⟩
  have PQ : Hid (∀ x y z, pcv (cutP p) x y z = .agg #[.int .i64 m0, .int .i64 m1, .int .i64 m2, x, y, z]) := Lib.hid (fun x y z => by rw [hm0, hm1, hm2]; rfl)
  unfold pcv at HCT ⊢
  rw [← hm0, ← hm1, ← hm2] at HCT ⊢
  clear hm0 hm1 hm2
  go_enter Try.func4, Try.ntmps4
  try simp only [List.append_eq, List.cons_append, List.nil_append]
  go_upto_region 1 with fail
  obtain ⟨bc, hbc⟩ : ∃ b, b = w.heap.size := ⟨_, rfl⟩
  obtain ⟨y0, hy0⟩ : ∃ y, y = w.alloc (.cells #[.int .i64 m0, .int .i64 m1, .int .i64 m2, .slice a1 n1 e1, .slice a2 n2 e2, .slice a3 n3 e3] 26) := ⟨_, rfl⟩
  have hb0 : Below w.heap.size w y0 := by rw [hy0]; exact below_new _ _
  have hx0 : BoxAt bc [.int .i64 m0, .int .i64 m1, .int .i64 m2, .slice a1 n1 e1, .slice a2 n2 e2, .slice a3 n3 e3] y0 := by rw [hbc, hy0]; exact boxAt_new w [.int .i64 m0, .int .i64 m1, .int .i64 m2, .slice a1 n1 e1, .slice a2 n2 e2, .slice a3 n3 e3] _
  have hf0 : ∀ i, y0.frozen? ⟨bc, i, none⟩ = false := fun i => by rw [hbc, hy0]; exact frozen_new w _ _ i
  have hbl : bc < y0.heap.size ∧ w.heap.size ≤ bc := by rw [hbc, hy0, size_new]; omega
  rw [← hy0, ← hbc]
  have B0 := Lib.hid hb0
  have K0 := Lib.hid hx0
  have F0 := Lib.hid hf0
  have BL := Lib.hid hbl
  clear hy0 hb0 hx0 hf0 hbl hbc
  have p0 := K0.out 0 _ rfl
  have p1 := K0.out 1 _ rfl
  have p2 := K0.out 2 _ rfl
  have p3 := K0.out 3 _ rfl
  have p4 := K0.out 4 _ rfl
  have p5 := K0.out 5 _ rfl
  go_wp2_with fail
  refine (HCT.out _ B0.out).mono ?_
  rintro e w1 ⟨v1, v2, v3, rfl, hC, hb⟩
  obtain ⟨b1, b2, b3, l1, l2, l3, f1, f2, f3, ee1, ee2, ee3⟩ := pc_slices hC.weak
  subst ee1
  subst ee2
  subst ee3
  rw [PQ.out]
  obtain ⟨pc, hpc⟩ : ∃ q, q = cutP p := ⟨_, rfl⟩
  have SPC : Hid (SmallPc pc) := Lib.hid (by rw [hpc]; exact cutP_small p)
  have PV : Hid (∀ x y z, pcv pc x y z = .agg #[.int .i64 m0, .int .i64 m1, .int .i64 m2, x, y, z]) := Lib.hid (by rw [hpc]; exact PQ.out)
  rw [← hpc] at hC
  have PCD := Lib.hid hpc
  have B1 := Lib.hid hb
  have HC1 := Lib.hid hC
  clear hb hC hpc p0 p1 p2 p3 p4 p5 HCT PQ
  have p0 := K0.out.below B1.out 0 _ rfl
  have p1 := K0.out.below B1.out 1 _ rfl
  have p2 := K0.out.below B1.out 2 _ rfl
  have p3 := K0.out.below B1.out 3 _ rfl
  have p4 := K0.out.below B1.out 4 _ rfl
  have p5 := K0.out.below B1.out 5 _ rfl
  have g0 : w1.frozen? ⟨bc, 0, none⟩ = false := (B1.out.frozen (p := ⟨bc, 0, none⟩) BL.out.1).trans (F0.out 0)
  have g1 : w1.frozen? ⟨bc, 1, none⟩ = false := (B1.out.frozen (p := ⟨bc, 1, none⟩) BL.out.1).trans (F0.out 1)
  have g2 : w1.frozen? ⟨bc, 2, none⟩ = false := (B1.out.frozen (p := ⟨bc, 2, none⟩) BL.out.1).trans (F0.out 2)
  have g3 : w1.frozen? ⟨bc, 3, none⟩ = false := (B1.out.frozen (p := ⟨bc, 3, none⟩) BL.out.1).trans (F0.out 3)
  have g4 : w1.frozen? ⟨bc, 4, none⟩ = false := (B1.out.frozen (p := ⟨bc, 4, none⟩) BL.out.1).trans (F0.out 4)
  have g5 : w1.frozen? ⟨bc, 5, none⟩ = false := (B1.out.frozen (p := ⟨bc, 5, none⟩) BL.out.1).trans (F0.out 5)
  go_upto_region 2 with fail
  obtain ⟨wc, hwc⟩ : ∃ x, x = set6 w1 bc (.int .i64 m0) (.int .i64 m1) (.int .i64 m2) (.slice b1 l1 f1) (.slice b2 l2 f2) (.slice b3 l3 f3) := ⟨_, rfl⟩
  have KC : Hid (BoxAt bc [.int .i64 m0, .int .i64 m1, .int .i64 m2, .slice b1 l1 f1, .slice b2 l2 f2, .slice b3 l3 f3] wc) := Lib.hid (by rw [hwc]; exact box_set6 (K0.out.below B1.out))
  have HC : Hid (HasL wc [.slice b1 l1 f1, .slice b2 l2 f2, .slice b3 l3 f3] pc.d) := Lib.hid (by rw [hwc]; exact (HC1.out.same (set6_same (fun (h : y0.heap.size ≤ bc) => by have := BL.out.1; omega))).weak)
  have BC : Hid (Below w.heap.size w wc) := Lib.hid (by rw [hwc]; exact set6_below (below_step' B0.out B1.out) BL.out.2)
  rw [show ((((((w1.setCell ⟨bc, 0, none⟩ (.int .i64 m0)).setCell ⟨bc, 1, none⟩ (.int .i64 m1)).setCell ⟨bc, 2, none⟩ (.int .i64 m2)).setCell ⟨bc, 3, none⟩ (.slice b1 l1 f1)).setCell ⟨bc, 4, none⟩ (.slice b2 l2 f2)).setCell ⟨bc, 5, none⟩ (.slice b3 l3 f3)) = wc from hwc.symm]
  clear hwc p0 p1 p2 p3 p4 p5 g0 g1 g2 g3 g4 g5 B1 HC1 K0 F0
  go_upto_region 3 with fail
  have hsz1 := cut_size300 s
  obtain ⟨s1, hs1⟩ : ∃ x, x = s.extract 0 (min (s.size : Int) 300).toNat := ⟨_, rfl⟩
  rw [← hs1] at hsz1 ⊢
  have SZ : Hid (s1.size ≤ 37605) := Lib.hid (by omega)
  have hs1z : s1.size ≤ 300 := hsz1
  clear hs1 hsz1
  have p0 := KC.out.below (Below.refl _ wc) 0 _ rfl
  have p1 := KC.out.below (Below.refl _ wc) 1 _ rfl
  have p2 := KC.out.below (Below.refl _ wc) 2 _ rfl
  have p3 := KC.out.below (Below.refl _ wc) 3 _ rfl
  have p4 := KC.out.below (Below.refl _ wc) 4 _ rfl
  have p5 := KC.out.below (Below.refl _ wc) 5 _ rfl
  have ET := Lib.hid (encode_at pc _ _ _ wc HC.out SPC.out)
  have RT := Lib.hid (fun (r : Bool) (hr : r = okB pc) (y : World) (hb : Below wc.heap.size wc y) => right_at pc r _ _ _ y (HC.out.later hb) SPC.out hr)
  rw [PV.out] at ET RT
  cases hok : okB pc with
  | true =>
    have EN := Lib.hid (enc_ok hok)
    have ESZ := Lib.hid (enc_size pc)
    rw [EN.out] at ET ESZ
    obtain ⟨er, her⟩ : ∃ x, x = strB (putsB (numsOf pc)) := ⟨_, rfl⟩
    rw [← her] at ET ESZ
    have DC : Hid (decR er = (pc, 0)) := Lib.hid (decR_ok.2 ⟨hok, her.symm⟩)
    have OK := Lib.hid hok
    clear hok her EN
    go_wp2_with fail
    refine ET.out.mono ?_
    rintro e w2 ⟨rfl, hb⟩
    have B2 := Lib.hid hb
    clear hb p0 p1 p2 p3 p4 p5 ET
    have p0 := KC.out.below B2.out 0 _ rfl
    have p1 := KC.out.below B2.out 1 _ rfl
    have p2 := KC.out.below B2.out 2 _ rfl
    have p3 := KC.out.below B2.out 3 _ rfl
    have p4 := KC.out.below B2.out 4 _ rfl
    have p5 := KC.out.below B2.out 5 _ rfl
    go_wp2_with fail
    refine (RT.out true OK.out.symm _ B2.out).mono ?_
    rintro e w3 ⟨rfl, hb⟩
    have B3 := Lib.hid (below_step' B2.out hb)
    clear hb p0 p1 p2 p3 p4 p5 RT
    go_wp2_with fail
    refine (decode_at er _ ESZ.out).mono ?_
    rintro e w4 ⟨v1, v2, v3, rfl, hX, hb⟩
    rw [DC.out] at hX ⊢
    have B4 := Lib.hid (below_step' B3.out hb)
    obtain ⟨h1, h2, h3, i1, i2, i3, j1, j2, j3, ee1, ee2, ee3⟩ := pc_slices hX.weak
    subst ee1
    subst ee2
    subst ee3
    rw [PV.out]
    obtain ⟨bd, hbd⟩ : ∃ b, b = w4.heap.size := ⟨_, rfl⟩
    obtain ⟨w5, hw5⟩ : ∃ y, y = w4.alloc (.cells #[.int .i64 m0, .int .i64 m1, .int .i64 m2, .slice h1 i1 j1, .slice h2 i2 j2, .slice h3 i3 j3] 26) := ⟨_, rfl⟩
    have hb5 : Below w4.heap.size w4 w5 := by rw [hw5]; exact below_new _ _
    have KD : Hid (BoxAt bd [.int .i64 m0, .int .i64 m1, .int .i64 m2, .slice h1 i1 j1, .slice h2 i2 j2, .slice h3 i3 j3] w5) := Lib.hid (by rw [hbd, hw5]; exact boxAt_new w4 [.int .i64 m0, .int .i64 m1, .int .i64 m2, .slice h1 i1 j1, .slice h2 i2 j2, .slice h3 i3 j3] _)
    have HD : Hid (HasL w5 [.slice h1 i1 j1, .slice h2 i2 j2, .slice h3 i3 j3] pc.d) := Lib.hid ((hX.later hb5).weak)
    have B5 := Lib.hid (below_step' B4.out hb5)
    have W5 := Lib.hid hw5
    have BDH := Lib.hid hbd
    clear hX hb hb5 hw5 hbd
    go_upto_region 8 with fail
    rw [← W5.out, ← BDH.out]
    have SM := Lib.hid (psame_at pc pc true _ _ _ _ _ _ w5 HD.out (HC.out.later B5.out) SPC.out (by simp))
    rw [PV.out, PV.out] at SM
    have d0 := KD.out 0 _ rfl
    have d1 := KD.out 1 _ rfl
    have d2 := KD.out 2 _ rfl
    have d3 := KD.out 3 _ rfl
    have d4 := KD.out 4 _ rfl
    have d5 := KD.out 5 _ rfl
    have p0 := KC.out.below B5.out 0 _ rfl
    have p1 := KC.out.below B5.out 1 _ rfl
    have p2 := KC.out.below B5.out 2 _ rfl
    have p3 := KC.out.below B5.out 3 _ rfl
    have p4 := KC.out.below B5.out 4 _ rfl
    have p5 := KC.out.below B5.out 5 _ rfl
    go_wp2_with fail
    refine SM.out.mono ?_
    rintro e w6 ⟨rfl, hb⟩
    have B6 := Lib.hid (below_step' B5.out hb)
    clear hb p0 p1 p2 p3 p4 p5 d0 d1 d2 d3 d4 d5 SM
    go_wp2_with fail
    refine (decode_at s1 _ SZ.out).mono ?_
    rintro e w7 ⟨v1, v2, v3, rfl, hX, hb⟩
    obtain ⟨dr, hdr⟩ : ∃ d, d = decR s1 := ⟨_, rfl⟩
    rw [← hdr] at hX ⊢
    obtain ⟨c1, c2, c3, o1, o2, o3, q1, q2, q3, ee1, ee2, ee3⟩ := pc_slices hX.weak
    subst ee1
    subst ee2
    subst ee3
    obtain ⟨xp, hxp⟩ : ∃ x, x = dr.1 := ⟨_, rfl⟩
    obtain ⟨xe, hxe⟩ : ∃ x, x = dr.2 := ⟨_, rfl⟩
    rw [← hxp, ← hxe] 
    rw [← hxp] at hX
    have B7 := Lib.hid (below_step' B6.out hb)
    obtain ⟨x0, hx0⟩ : ∃ m, m = xp.node := ⟨_, rfl⟩
    obtain ⟨x1, hx1⟩ : ∃ m, m = xp.state := ⟨_, rfl⟩
    obtain ⟨x2, hx2⟩ : ∃ m, m = xp.steps := ⟨_, rfl⟩
    have XV : Hid (∀ x y z, pcv xp x y z = .agg #[.int .i64 x0, .int .i64 x1, .int .i64 x2, x, y, z]) := Lib.hid (fun x y z => by rw [hx0, hx1, hx2])
    rw [XV.out]
    obtain ⟨bx, hbx⟩ : ∃ b, b = w7.heap.size := ⟨_, rfl⟩
    obtain ⟨w8, hw8⟩ : ∃ y, y = w7.alloc (.cells #[.int .i64 x0, .int .i64 x1, .int .i64 x2, .slice c1 o1 q1, .slice c2 o2 q2, .slice c3 o3 q3] 26) := ⟨_, rfl⟩
    have hb8 : Below w7.heap.size w7 w8 := by rw [hw8]; exact below_new _ _
    have KX : Hid (BoxAt bx [.int .i64 x0, .int .i64 x1, .int .i64 x2, .slice c1 o1 q1, .slice c2 o2 q2, .slice c3 o3 q3] w8) := Lib.hid (by rw [hbx, hw8]; exact boxAt_new w7 [.int .i64 x0, .int .i64 x1, .int .i64 x2, .slice c1 o1 q1, .slice c2 o2 q2, .slice c3 o3 q3] _)
    have HX : Hid (HasL w8 [.slice c1 o1 q1, .slice c2 o2 q2, .slice c3 o3 q3] xp.d) := Lib.hid ((hX.later hb8).weak)
    have B8 := Lib.hid (below_step' B7.out hb8)
    have W8 := Lib.hid hw8
    have BXH := Lib.hid hbx
    have HDR := Lib.hid hdr
    have HXP := Lib.hid hxp
    have HXE := Lib.hid hxe
    clear hX hb hb8 hw8 hbx hdr hxp hxe hx0 hx1 hx2
    go_upto_region 11 with fail
    rw [← W8.out, ← BXH.out]
    by_cases hdc : ∃ q, decR s1 = (q, 0)
    · obtain ⟨q, hq⟩ := hdc
      obtain rfl : xp = q := by rw [HXP.out, HDR.out, hq]
      obtain rfl : xe = 0 := by rw [HXE.out, HDR.out, hq]
      obtain ⟨hqk, hqs⟩ := decR_ok.1 hq
      have EN := Lib.hid ((enc_ok hqk).trans (by rw [hqs]))
      have OKQ := Lib.hid hqk
      clear hq hqk hqs
      have p0 := KX.out 0 _ rfl
      have p1 := KX.out 1 _ rfl
      have p2 := KX.out 2 _ rfl
      have p3 := KX.out 3 _ rfl
      have p4 := KX.out 4 _ rfl
      have p5 := KX.out 5 _ rfl
      have ET := Lib.hid (encode_at xp _ _ _ w8 HX.out (small_of_ok OKQ.out))
      rw [XV.out, EN.out] at ET
      go_wp2_with fail
      refine ET.out.mono ?_
      rintro e w9 ⟨rfl, hb⟩
      have B9 := Lib.hid (below_step' B8.out hb)
      have B89 := Lib.hid hb
      clear hb p0 p1 p2 p3 p4 p5 ET
      have p0 := KX.out.below B89.out 0 _ rfl
      have p1 := KX.out.below B89.out 1 _ rfl
      have p2 := KX.out.below B89.out 2 _ rfl
      have p3 := KX.out.below B89.out 3 _ rfl
      have p4 := KX.out.below B89.out 4 _ rfl
      have p5 := KX.out.below B89.out 5 _ rfl
      have hse : (s1.toList == s1.toList) = true := by simp
      have RT := Lib.hid (right_at xp true _ _ _ w9 (HX.out.later B89.out) (small_of_ok OKQ.out) OKQ.out.symm)
      rw [XV.out] at RT
      go_wp2_with fail
      refine RT.out.mono ?_
      rintro e w10 ⟨rfl, hb⟩
      have B10 := Lib.hid (below_step' B9.out hb)
      clear hb p0 p1 p2 p3 p4 p5 RT
      go_wp2_with fail
      refine (fixed6_any _).mono ?_
      rintro e w11 ⟨rfl, hb⟩
      have B11 := Lib.hid (below_step' B10.out hb)
      clear hb
      go_wp2_with fail
      go_ret
      exact ⟨rfl, below_step' BC.out B11.out⟩
    · have hz := (decR_cases s1).resolve_left hdc
      obtain rfl : xp = Pc.zero := by rw [HXP.out, HDR.out, hz]
      obtain rfl : xe = 4 := by rw [HXE.out, HDR.out, hz]
      clear hdc hz
      have SM := Lib.hid (psame_at Pc.zero Pc.zero true _ _ _ _ _ _ w8 HX.out (nils All w8 Pc.zero rfl rfl rfl) zero_small (by simp))
      rw [XV.out, show pcv Pc.zero (.slice none 0 0) (.slice none 0 0) (.slice none 0 0) = .agg #[.int .i64 0, .int .i64 0, .int .i64 0, .slice none 0 0, .slice none 0 0, .slice none 0 0] from rfl] at SM
      have p0 := KX.out 0 _ rfl
      have p1 := KX.out 1 _ rfl
      have p2 := KX.out 2 _ rfl
      have p3 := KX.out 3 _ rfl
      have p4 := KX.out 4 _ rfl
      have p5 := KX.out 5 _ rfl
      go_wp2_with fail
      refine SM.out.mono ?_
      rintro e w9 ⟨rfl, hb⟩
      have B9 := Lib.hid (below_step' B8.out hb)
      clear hb p0 p1 p2 p3 p4 p5 SM
      go_wp2_with fail
      refine (fixed6_any _).mono ?_
      rintro e w10 ⟨rfl, hb⟩
      have B10 := Lib.hid (below_step' B9.out hb)
      clear hb
      go_wp2_with fail
      go_ret
      exact ⟨rfl, below_step' BC.out B10.out⟩
  | false =>
    rw [enc_no hok] at ET
    have OK := Lib.hid hok
    obtain ⟨er, her⟩ : ∃ x, x = strB [] := ⟨_, rfl⟩
    rw [← her] at ET
    have hel : (er.toList == []) = true := by rw [her, toList_data, strB_data]; rfl
    have hel2 : er.toList = [] := by rw [her, toList_data, strB_data]
    clear hok her
    go_wp2_with fail
    refine ET.out.mono ?_
    rintro e w2 ⟨rfl, hb⟩
    have B2 := Lib.hid hb
    clear hb p0 p1 p2 p3 p4 p5 ET
    have p0 := KC.out.below B2.out 0 _ rfl
    have p1 := KC.out.below B2.out 1 _ rfl
    have p2 := KC.out.below B2.out 2 _ rfl
    have p3 := KC.out.below B2.out 3 _ rfl
    have p4 := KC.out.below B2.out 4 _ rfl
    have p5 := KC.out.below B2.out 5 _ rfl
    go_wp2_with fail
    refine (RT.out false OK.out.symm _ B2.out).mono ?_
    rintro e w3 ⟨rfl, hb⟩
    have B3 := Lib.hid (below_step' B2.out hb)
    clear hb p0 p1 p2 p3 p4 p5 RT
    go_wp2_with fail
    refine (decode_at s1 _ SZ.out).mono ?_
    rintro e w7 ⟨v1, v2, v3, rfl, hX, hb⟩
    obtain ⟨dr, hdr⟩ : ∃ d, d = decR s1 := ⟨_, rfl⟩
    rw [← hdr] at hX ⊢
    obtain ⟨c1, c2, c3, o1, o2, o3, q1, q2, q3, ee1, ee2, ee3⟩ := pc_slices hX.weak
    subst ee1
    subst ee2
    subst ee3
    obtain ⟨xp, hxp⟩ : ∃ x, x = dr.1 := ⟨_, rfl⟩
    obtain ⟨xe, hxe⟩ : ∃ x, x = dr.2 := ⟨_, rfl⟩
    rw [← hxp, ← hxe] 
    rw [← hxp] at hX
    have B7 := Lib.hid (below_step' B3.out hb)
    obtain ⟨x0, hx0⟩ : ∃ m, m = xp.node := ⟨_, rfl⟩
    obtain ⟨x1, hx1⟩ : ∃ m, m = xp.state := ⟨_, rfl⟩
    obtain ⟨x2, hx2⟩ : ∃ m, m = xp.steps := ⟨_, rfl⟩
    have XV : Hid (∀ x y z, pcv xp x y z = .agg #[.int .i64 x0, .int .i64 x1, .int .i64 x2, x, y, z]) := Lib.hid (fun x y z => by rw [hx0, hx1, hx2])
    rw [XV.out]
    obtain ⟨bx, hbx⟩ : ∃ b, b = w7.heap.size := ⟨_, rfl⟩
    obtain ⟨w8, hw8⟩ : ∃ y, y = w7.alloc (.cells #[.int .i64 x0, .int .i64 x1, .int .i64 x2, .slice c1 o1 q1, .slice c2 o2 q2, .slice c3 o3 q3] 26) := ⟨_, rfl⟩
    have hb8 : Below w7.heap.size w7 w8 := by rw [hw8]; exact below_new _ _
    have KX : Hid (BoxAt bx [.int .i64 x0, .int .i64 x1, .int .i64 x2, .slice c1 o1 q1, .slice c2 o2 q2, .slice c3 o3 q3] w8) := Lib.hid (by rw [hbx, hw8]; exact boxAt_new w7 [.int .i64 x0, .int .i64 x1, .int .i64 x2, .slice c1 o1 q1, .slice c2 o2 q2, .slice c3 o3 q3] _)
    have HX : Hid (HasL w8 [.slice c1 o1 q1, .slice c2 o2 q2, .slice c3 o3 q3] xp.d) := Lib.hid ((hX.later hb8).weak)
    have B8 := Lib.hid (below_step' B7.out hb8)
    have W8 := Lib.hid hw8
    have BXH := Lib.hid hbx
    have HDR := Lib.hid hdr
    have HXP := Lib.hid hxp
    have HXE := Lib.hid hxe
    clear hX hb hb8 hw8 hbx hdr hxp hxe hx0 hx1 hx2
    go_upto_region 11 with fail
    rw [← W8.out, ← BXH.out]
    by_cases hdc : ∃ q, decR s1 = (q, 0)
    · obtain ⟨q, hq⟩ := hdc
      obtain rfl : xp = q := by rw [HXP.out, HDR.out, hq]
      obtain rfl : xe = 0 := by rw [HXE.out, HDR.out, hq]
      obtain ⟨hqk, hqs⟩ := decR_ok.1 hq
      have EN := Lib.hid ((enc_ok hqk).trans (by rw [hqs]))
      have OKQ := Lib.hid hqk
      clear hq hqk hqs
      have p0 := KX.out 0 _ rfl
      have p1 := KX.out 1 _ rfl
      have p2 := KX.out 2 _ rfl
      have p3 := KX.out 3 _ rfl
      have p4 := KX.out 4 _ rfl
      have p5 := KX.out 5 _ rfl
      have ET := Lib.hid (encode_at xp _ _ _ w8 HX.out (small_of_ok OKQ.out))
      rw [XV.out, EN.out] at ET
      go_wp2_with fail
      refine ET.out.mono ?_
      rintro e w9 ⟨rfl, hb⟩
      have B9 := Lib.hid (below_step' B8.out hb)
      have B89 := Lib.hid hb
      clear hb p0 p1 p2 p3 p4 p5 ET
      have p0 := KX.out.below B89.out 0 _ rfl
      have p1 := KX.out.below B89.out 1 _ rfl
      have p2 := KX.out.below B89.out 2 _ rfl
      have p3 := KX.out.below B89.out 3 _ rfl
      have p4 := KX.out.below B89.out 4 _ rfl
      have p5 := KX.out.below B89.out 5 _ rfl
      have hse : (s1.toList == s1.toList) = true := by simp
      have RT := Lib.hid (right_at xp true _ _ _ w9 (HX.out.later B89.out) (small_of_ok OKQ.out) OKQ.out.symm)
      rw [XV.out] at RT
      go_wp2_with fail
      refine RT.out.mono ?_
      rintro e w10 ⟨rfl, hb⟩
      have B10 := Lib.hid (below_step' B9.out hb)
      clear hb p0 p1 p2 p3 p4 p5 RT
      go_wp2_with fail
      refine (fixed6_any _).mono ?_
      rintro e w11 ⟨rfl, hb⟩
      have B11 := Lib.hid (below_step' B10.out hb)
      clear hb
      go_wp2_with fail
      go_ret
      exact ⟨rfl, below_step' BC.out B11.out⟩
    · have hz := (decR_cases s1).resolve_left hdc
      obtain rfl : xp = Pc.zero := by rw [HXP.out, HDR.out, hz]
      obtain rfl : xe = 4 := by rw [HXE.out, HDR.out, hz]
      clear hdc hz
      have SM := Lib.hid (psame_at Pc.zero Pc.zero true _ _ _ _ _ _ w8 HX.out (nils All w8 Pc.zero rfl rfl rfl) zero_small (by simp))
      rw [XV.out, show pcv Pc.zero (.slice none 0 0) (.slice none 0 0) (.slice none 0 0) = .agg #[.int .i64 0, .int .i64 0, .int .i64 0, .slice none 0 0, .slice none 0 0, .slice none 0 0] from rfl] at SM
      have p0 := KX.out 0 _ rfl
      have p1 := KX.out 1 _ rfl
      have p2 := KX.out 2 _ rfl
      have p3 := KX.out 3 _ rfl
      have p4 := KX.out 4 _ rfl
      have p5 := KX.out 5 _ rfl
      go_wp2_with fail
      refine SM.out.mono ?_
      rintro e w9 ⟨rfl, hb⟩
      have B9 := Lib.hid (below_step' B8.out hb)
      clear hb p0 p1 p2 p3 p4 p5 SM
      go_wp2_with fail
      refine (fixed6_any _).mono ?_
      rintro e w10 ⟨rfl, hb⟩
      have B10 := Lib.hid (below_step' B9.out hb)
      clear hb
      go_wp2_with fail
      go_ret
      exact ⟨rfl, below_step' BC.out B10.out⟩
end Go.Proofs.Ytcopedhoepblpaa
