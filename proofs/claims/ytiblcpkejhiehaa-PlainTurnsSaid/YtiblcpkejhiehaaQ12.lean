/- Texts put together. -/
import Derived.Test.YtiblcpkejhiehaaQ00
import Derived.Test.YtiblcpkejhiehaaQ05
import Derived.Test.YtiblcpkejhiehaaQ06
import Derived.Test.YtiblcpkejhiehaaQ07
import Derived.Test.YtiblcpkejhiehaaQ10
import Derived.Test.YtiblcpkejhiehaaQ11
import Derived.BigQuiet
set_option linter.unusedSimpArgs false
set_option linter.unusedVariables false
namespace Go.Proofs.Ytiblcpkejhiehaa
open Go.RowKit Go.PlainAid
set_option maxHeartbeats 8000000 in
set_option maxRecDepth 100000 in
theorem fixed5_any (w : World) : Calls Try.prog 14 #[] w fun e w' => e = .returned (.bool true) ∧ Below w.heap.size w w' := by
 go_enter Try.func14, Try.ntmps14
 try simp only [List.append_eq, List.cons_append, List.nil_append]
 go_wp2_with fail
 refine (two5_at _).mono ?_
 rintro e w1 ⟨ga, gc, ta, tc, rfl, hL, hT, hb⟩
 go_upto_region 4 with fail
 obtain ⟨y1, hy⟩ : ∃ y, y = (w1.alloc (.cells #[.int .i64 2, .slice ga 2 gc, .slice ta 2 tc, .bool false] 27)).alloc (.cells #[.int .i64 2, .slice ga 2 gc, .slice ta 2 tc, .bool true] 27) := ⟨_, rfl⟩
 have hl : Below w1.heap.size w1 y1 := by rw [hy]; exact below_step' (below_new _ _) (below_new _ _)
 have ka : BoxAt w1.heap.size [.int .i64 2, .slice ga 2 gc, .slice ta 2 tc, .bool false] y1 := by rw [hy]; exact (boxAt_new w1 [.int .i64 2, .slice ga 2 gc, .slice ta 2 tc, .bool false] _).below (below_new _ _)
 have kf : BoxAt (w1.heap.size + 1) [.int .i64 2, .slice ga 2 gc, .slice ta 2 tc, .bool true] y1 := by
  have h := boxAt_new (w1.alloc (.cells #[.int .i64 2, .slice ga 2 gc, .slice ta 2 tc, .bool false] 27)) [.int .i64 2, .slice ga 2 gc, .slice ta 2 tc, .bool true] 27
  rw [size_alloc] at h
  rw [hy]; exact h
 rw [← hy]
 obtain ⟨ba, hba⟩ : ∃ b, b = w1.heap.size := ⟨_, rfl⟩
 obtain ⟨bf, hbf⟩ : ∃ b, b = w1.heap.size + 1 := ⟨_, rfl⟩
 rw [← hba] at ka
 rw [← hbf] at kf
 rw [← hbf, ← hba]
 have KA := Lib.hid ka
 have KF := Lib.hid kf
 have LG := Lib.hid (hL.below hl)
 have HT := Lib.hid (hT.later hl)
 have BW := Lib.hid (below_step' hb hl)
 clear hL hT hb hl hy ka kf hba hbf
 have pA0 := KA.out 0 _ rfl
 have pA1 := KA.out 1 _ rfl
 have pA2 := KA.out 2 _ rfl
 have pA3 := KA.out 3 _ rfl
 go_wp2_with fail
 refine (start_at A5 _ _ _ LG.out HT.out (by decide) (by decide)).mono ?_
 rintro e zC ⟨u1, u2, u3, rfl, hC, hb⟩
 obtain ⟨a1C, a2C, a3C, n1C, n2C, n3C, e1C, e2C, e3C, ee1, ee2, ee3⟩ := cf_slices hC
 subst ee1
 subst ee2
 subst ee3
 clear pA0 pA1 pA2 pA3
 rw [c50_is] at hC
 go_upto_region 5 with fail
 obtain ⟨yC, hy⟩ : ∃ y, y = zC.alloc (.cells #[.slice a1C n1C e1C, .slice a2C n2C e2C, .slice a3C n3C e3C] 31) := ⟨_, rfl⟩
 have hl : Below y1.heap.size y1 yC := by rw [hy]; exact below_step' hb (below_new _ _)
 have hk : BoxAt zC.heap.size [.slice a1C n1C e1C, .slice a2C n2C e2C, .slice a3C n3C e3C] yC := by rw [hy]; exact boxAt_new zC [.slice a1C n1C e1C, .slice a2C n2C e2C, .slice a3C n3C e3C] _
 have hd := hC.weak.later (below_new zC (.cells #[.slice a1C n1C e1C, .slice a2C n2C e2C, .slice a3C n3C e3C] 31))
 rw [← hy] at hd ⊢
 obtain ⟨bC, hbn⟩ : ∃ b, b = zC.heap.size := ⟨_, rfl⟩
 rw [← hbn] at hk ⊢
 replace KA := Lib.hid (KA.out.below hl)
 replace KF := Lib.hid (KF.out.below hl)
 replace LG := Lib.hid (LG.out.below hl)
 replace HT := Lib.hid (HT.out.later hl)
 replace BW := Lib.hid (below_step' BW.out hl)
 have KC := Lib.hid hk
 have CC := Lib.hid hd
 clear hy hl hk hd hb hC hbn
 have pA0 := KA.out 0 _ rfl
 have pA1 := KA.out 1 _ rfl
 have pA2 := KA.out 2 _ rfl
 have pA3 := KA.out 3 _ rfl
 have pC0 := KC.out 0 _ rfl
 have pC1 := KC.out 1 _ rfl
 have pC2 := KC.out 2 _ rfl
 go_wp2_with fail
 refine (pright_at A5 C50 true _ _ _ _ _ _ LG.out HT.out CC.out wfF2 (by decide) t5Small (by simp [SmallCf, C50]) ⟨fun _ => c50OK, fun _ => rfl⟩).mono ?_
 rintro e zrC ⟨rfl, hb⟩
 clear pA0 pA1 pA2 pA3 pC0 pC1 pC2
 replace KA := Lib.hid (KA.out.below hb)
 replace KF := Lib.hid (KF.out.below hb)
 replace LG := Lib.hid (LG.out.below hb)
 replace HT := Lib.hid (HT.out.later hb)
 replace KC := Lib.hid (KC.out.below hb)
 replace CC := Lib.hid (CC.out.later hb)
 replace BW := Lib.hid (below_step' BW.out hb)
 clear hb
 have pA0 := KA.out 0 _ rfl
 have pA1 := KA.out 1 _ rfl
 have pA2 := KA.out 2 _ rfl
 have pA3 := KA.out 3 _ rfl
 have pC0 := KC.out 0 _ rfl
 have pC1 := KC.out 1 _ rfl
 have pC2 := KC.out 2 _ rfl
 go_wp2_with fail
 refine (apply_at A5 C50 0 0 0 0 0 c50OK t5Small (by simp [SmallCf, C50]) _ _ _ _ _ _ LG.out HT.out CC.out).mono ?_
 rintro e zD ⟨u1, u2, u3, rfl, hC, hb⟩
 obtain ⟨a1D, a2D, a3D, n1D, n2D, n3D, e1D, e2D, e3D, ee1, ee2, ee3⟩ := cf_slices hC
 subst ee1
 subst ee2
 subst ee3
 clear pA0 pA1 pA2 pA3 pC0 pC1 pC2
 rw [show applied A5 C50 ⟨0, 0, 0, 0, 0⟩ = D50 from by unfold applied; rw [if_pos e50_0]; exact d50_is] at hC
 rw [e50_0]
 go_upto_region 8 with fail
 obtain ⟨yD, hy⟩ : ∃ y, y = zD.alloc (.cells #[.slice a1D n1D e1D, .slice a2D n2D e2D, .slice a3D n3D e3D] 31) := ⟨_, rfl⟩
 have hl : Below zrC.heap.size zrC yD := by rw [hy]; exact below_step' hb (below_new _ _)
 have hk : BoxAt zD.heap.size [.slice a1D n1D e1D, .slice a2D n2D e2D, .slice a3D n3D e3D] yD := by rw [hy]; exact boxAt_new zD [.slice a1D n1D e1D, .slice a2D n2D e2D, .slice a3D n3D e3D] _
 have hd := hC.weak.later (below_new zD (.cells #[.slice a1D n1D e1D, .slice a2D n2D e2D, .slice a3D n3D e3D] 31))
 rw [← hy] at hd ⊢
 obtain ⟨bD, hbn⟩ : ∃ b, b = zD.heap.size := ⟨_, rfl⟩
 rw [← hbn] at hk ⊢
 replace KA := Lib.hid (KA.out.below hl)
 replace KF := Lib.hid (KF.out.below hl)
 replace LG := Lib.hid (LG.out.below hl)
 replace HT := Lib.hid (HT.out.later hl)
 replace KC := Lib.hid (KC.out.below hl)
 replace CC := Lib.hid (CC.out.later hl)
 replace BW := Lib.hid (below_step' BW.out hl)
 have KD := Lib.hid hk
 have CD := Lib.hid hd
 clear hy hl hk hd hb hC hbn
 have pA0 := KA.out 0 _ rfl
 have pA1 := KA.out 1 _ rfl
 have pA2 := KA.out 2 _ rfl
 have pA3 := KA.out 3 _ rfl
 have pC0 := KC.out 0 _ rfl
 have pC1 := KC.out 1 _ rfl
 have pC2 := KC.out 2 _ rfl
 go_wp2_with fail
 refine (apply_at A5 C50 0 1 0 0 0 c50OK t5Small (by simp [SmallCf, C50]) _ _ _ _ _ _ LG.out HT.out CC.out).mono ?_
 rintro e zg ⟨u1, u2, u3, rfl, hC, hb⟩
 obtain ⟨a1g, a2g, a3g, n1g, n2g, n3g, e1g, e2g, e3g, ee1, ee2, ee3⟩ := cf_slices hC
 subst ee1
 subst ee2
 subst ee3
 clear pA0 pA1 pA2 pA3 pC0 pC1 pC2
 rw [e50_1]
 go_upto_region 9 with fail
 obtain ⟨yg, hy⟩ : ∃ y, y = zg.alloc (.cells #[.slice a1g n1g e1g, .slice a2g n2g e2g, .slice a3g n3g e3g] 31) := ⟨_, rfl⟩
 have hl : Below yD.heap.size yD yg := by rw [hy]; exact below_step' hb (below_new _ _)
 have hk : BoxAt zg.heap.size [.slice a1g n1g e1g, .slice a2g n2g e2g, .slice a3g n3g e3g] yg := by rw [hy]; exact boxAt_new zg [.slice a1g n1g e1g, .slice a2g n2g e2g, .slice a3g n3g e3g] _
 have hd := hC.weak.later (below_new zg (.cells #[.slice a1g n1g e1g, .slice a2g n2g e2g, .slice a3g n3g e3g] 31))
 rw [← hy] at hd ⊢
 obtain ⟨bg, hbn⟩ : ∃ b, b = zg.heap.size := ⟨_, rfl⟩
 rw [← hbn] at hk ⊢
 replace KA := Lib.hid (KA.out.below hl)
 replace KF := Lib.hid (KF.out.below hl)
 replace LG := Lib.hid (LG.out.below hl)
 replace HT := Lib.hid (HT.out.later hl)
 replace KC := Lib.hid (KC.out.below hl)
 replace CC := Lib.hid (CC.out.later hl)
 replace KD := Lib.hid (KD.out.below hl)
 replace CD := Lib.hid (CD.out.later hl)
 replace BW := Lib.hid (below_step' BW.out hl)
 have Kg := Lib.hid hk
 have Cg := Lib.hid hd
 clear hy hl hk hd hb hC hbn
 have pA0 := KA.out 0 _ rfl
 have pA1 := KA.out 1 _ rfl
 have pA2 := KA.out 2 _ rfl
 have pA3 := KA.out 3 _ rfl
 have pC0 := KC.out 0 _ rfl
 have pC1 := KC.out 1 _ rfl
 have pC2 := KC.out 2 _ rfl
 go_wp2_with fail
 refine (apply_at A5 C50 0 0 1 0 0 c50OK t5Small (by simp [SmallCf, C50]) _ _ _ _ _ _ LG.out HT.out CC.out).mono ?_
 rintro e zh ⟨u1, u2, u3, rfl, hC, hb⟩
 obtain ⟨a1h, a2h, a3h, n1h, n2h, n3h, e1h, e2h, e3h, ee1, ee2, ee3⟩ := cf_slices hC
 subst ee1
 subst ee2
 subst ee3
 clear pA0 pA1 pA2 pA3 pC0 pC1 pC2
 rw [e50_2]
 go_upto_region 10 with fail
 obtain ⟨yh, hy⟩ : ∃ y, y = zh.alloc (.cells #[.slice a1h n1h e1h, .slice a2h n2h e2h, .slice a3h n3h e3h] 31) := ⟨_, rfl⟩
 have hl : Below yg.heap.size yg yh := by rw [hy]; exact below_step' hb (below_new _ _)
 have hk : BoxAt zh.heap.size [.slice a1h n1h e1h, .slice a2h n2h e2h, .slice a3h n3h e3h] yh := by rw [hy]; exact boxAt_new zh [.slice a1h n1h e1h, .slice a2h n2h e2h, .slice a3h n3h e3h] _
 have hd := hC.weak.later (below_new zh (.cells #[.slice a1h n1h e1h, .slice a2h n2h e2h, .slice a3h n3h e3h] 31))
 rw [← hy] at hd ⊢
 obtain ⟨bh, hbn⟩ : ∃ b, b = zh.heap.size := ⟨_, rfl⟩
 rw [← hbn] at hk ⊢
 replace KA := Lib.hid (KA.out.below hl)
 replace KF := Lib.hid (KF.out.below hl)
 replace LG := Lib.hid (LG.out.below hl)
 replace HT := Lib.hid (HT.out.later hl)
 replace KC := Lib.hid (KC.out.below hl)
 replace CC := Lib.hid (CC.out.later hl)
 replace KD := Lib.hid (KD.out.below hl)
 replace CD := Lib.hid (CD.out.later hl)
 replace Kg := Lib.hid (Kg.out.below hl)
 replace Cg := Lib.hid (Cg.out.later hl)
 replace BW := Lib.hid (below_step' BW.out hl)
 have Kh := Lib.hid hk
 have Ch := Lib.hid hd
 clear hy hl hk hd hb hC hbn
 have pA0 := KA.out 0 _ rfl
 have pA1 := KA.out 1 _ rfl
 have pA2 := KA.out 2 _ rfl
 have pA3 := KA.out 3 _ rfl
 have pC0 := KC.out 0 _ rfl
 have pC1 := KC.out 1 _ rfl
 have pC2 := KC.out 2 _ rfl
 go_wp2_with fail
 refine (apply_at A5 C50 0 2 0 0 0 c50OK t5Small (by simp [SmallCf, C50]) _ _ _ _ _ _ LG.out HT.out CC.out).mono ?_
 rintro e zi ⟨u1, u2, u3, rfl, hC, hb⟩
 obtain ⟨a1i, a2i, a3i, n1i, n2i, n3i, e1i, e2i, e3i, ee1, ee2, ee3⟩ := cf_slices hC
 subst ee1
 subst ee2
 subst ee3
 clear pA0 pA1 pA2 pA3 pC0 pC1 pC2
 rw [e50_3]
 go_upto_region 11 with fail
 obtain ⟨yi, hy⟩ : ∃ y, y = zi.alloc (.cells #[.slice a1i n1i e1i, .slice a2i n2i e2i, .slice a3i n3i e3i] 31) := ⟨_, rfl⟩
 have hl : Below yh.heap.size yh yi := by rw [hy]; exact below_step' hb (below_new _ _)
 have hk : BoxAt zi.heap.size [.slice a1i n1i e1i, .slice a2i n2i e2i, .slice a3i n3i e3i] yi := by rw [hy]; exact boxAt_new zi [.slice a1i n1i e1i, .slice a2i n2i e2i, .slice a3i n3i e3i] _
 have hd := hC.weak.later (below_new zi (.cells #[.slice a1i n1i e1i, .slice a2i n2i e2i, .slice a3i n3i e3i] 31))
 rw [← hy] at hd ⊢
 obtain ⟨bi, hbn⟩ : ∃ b, b = zi.heap.size := ⟨_, rfl⟩
 rw [← hbn] at hk ⊢
 replace KA := Lib.hid (KA.out.below hl)
 replace KF := Lib.hid (KF.out.below hl)
 replace LG := Lib.hid (LG.out.below hl)
 replace HT := Lib.hid (HT.out.later hl)
 replace KC := Lib.hid (KC.out.below hl)
 replace CC := Lib.hid (CC.out.later hl)
 replace KD := Lib.hid (KD.out.below hl)
 replace CD := Lib.hid (CD.out.later hl)
 replace Kg := Lib.hid (Kg.out.below hl)
 replace Cg := Lib.hid (Cg.out.later hl)
 replace Kh := Lib.hid (Kh.out.below hl)
 replace Ch := Lib.hid (Ch.out.later hl)
 replace BW := Lib.hid (below_step' BW.out hl)
 have Ki := Lib.hid hk
 have Ci := Lib.hid hd
 clear hy hl hk hd hb hC hbn
 have pA0 := KA.out 0 _ rfl
 have pA1 := KA.out 1 _ rfl
 have pA2 := KA.out 2 _ rfl
 have pA3 := KA.out 3 _ rfl
 have pD0 := KD.out 0 _ rfl
 have pD1 := KD.out 1 _ rfl
 have pD2 := KD.out 2 _ rfl
 go_wp2_with fail
 refine (pright_at A5 D50 true _ _ _ _ _ _ LG.out HT.out CD.out wfF2 (by decide) t5Small (by simp [SmallCf, D50]) ⟨fun _ => d50OK, fun _ => rfl⟩).mono ?_
 rintro e zrD ⟨rfl, hb⟩
 clear pA0 pA1 pA2 pA3 pD0 pD1 pD2
 replace KA := Lib.hid (KA.out.below hb)
 replace KF := Lib.hid (KF.out.below hb)
 replace LG := Lib.hid (LG.out.below hb)
 replace HT := Lib.hid (HT.out.later hb)
 replace KC := Lib.hid (KC.out.below hb)
 replace CC := Lib.hid (CC.out.later hb)
 replace KD := Lib.hid (KD.out.below hb)
 replace CD := Lib.hid (CD.out.later hb)
 replace Kg := Lib.hid (Kg.out.below hb)
 replace Cg := Lib.hid (Cg.out.later hb)
 replace Kh := Lib.hid (Kh.out.below hb)
 replace Ch := Lib.hid (Ch.out.later hb)
 replace Ki := Lib.hid (Ki.out.below hb)
 replace Ci := Lib.hid (Ci.out.later hb)
 replace BW := Lib.hid (below_step' BW.out hb)
 clear hb
 have pA0 := KA.out 0 _ rfl
 have pA1 := KA.out 1 _ rfl
 have pA2 := KA.out 2 _ rfl
 have pA3 := KA.out 3 _ rfl
 have pD0 := KD.out 0 _ rfl
 have pD1 := KD.out 1 _ rfl
 have pD2 := KD.out 2 _ rfl
 go_wp2_with fail
 refine (apply_at A5 D50 1 0 0 0 2 d50OK t5Small (by simp [SmallCf, D50]) _ _ _ _ _ _ LG.out HT.out CD.out).mono ?_
 rintro e zX ⟨u1, u2, u3, rfl, hC, hb⟩
 obtain ⟨a1X, a2X, a3X, n1X, n2X, n3X, e1X, e2X, e3X, ee1, ee2, ee3⟩ := cf_slices hC
 subst ee1
 subst ee2
 subst ee3
 clear pA0 pA1 pA2 pA3 pD0 pD1 pD2
 rw [show applied A5 D50 ⟨1, 0, 0, 0, 2⟩ = X50 from by unfold applied; rw [if_pos e50_4]; exact x50_is] at hC
 rw [e50_4]
 go_upto_region 14 with fail
 obtain ⟨yX, hy⟩ : ∃ y, y = zX.alloc (.cells #[.slice a1X n1X e1X, .slice a2X n2X e2X, .slice a3X n3X e3X] 31) := ⟨_, rfl⟩
 have hl : Below zrD.heap.size zrD yX := by rw [hy]; exact below_step' hb (below_new _ _)
 have hk : BoxAt zX.heap.size [.slice a1X n1X e1X, .slice a2X n2X e2X, .slice a3X n3X e3X] yX := by rw [hy]; exact boxAt_new zX [.slice a1X n1X e1X, .slice a2X n2X e2X, .slice a3X n3X e3X] _
 have hd := hC.weak.later (below_new zX (.cells #[.slice a1X n1X e1X, .slice a2X n2X e2X, .slice a3X n3X e3X] 31))
 rw [← hy] at hd ⊢
 obtain ⟨bX, hbn⟩ : ∃ b, b = zX.heap.size := ⟨_, rfl⟩
 rw [← hbn] at hk ⊢
 replace KA := Lib.hid (KA.out.below hl)
 replace KF := Lib.hid (KF.out.below hl)
 replace LG := Lib.hid (LG.out.below hl)
 replace HT := Lib.hid (HT.out.later hl)
 replace KC := Lib.hid (KC.out.below hl)
 replace CC := Lib.hid (CC.out.later hl)
 replace KD := Lib.hid (KD.out.below hl)
 replace CD := Lib.hid (CD.out.later hl)
 replace Kg := Lib.hid (Kg.out.below hl)
 replace Cg := Lib.hid (Cg.out.later hl)
 replace Kh := Lib.hid (Kh.out.below hl)
 replace Ch := Lib.hid (Ch.out.later hl)
 replace Ki := Lib.hid (Ki.out.below hl)
 replace Ci := Lib.hid (Ci.out.later hl)
 replace BW := Lib.hid (below_step' BW.out hl)
 have KX := Lib.hid hk
 have CX := Lib.hid hd
 clear hy hl hk hd hb hC hbn
 have pF0 := KF.out 0 _ rfl
 have pF1 := KF.out 1 _ rfl
 have pF2 := KF.out 2 _ rfl
 have pF3 := KF.out 3 _ rfl
 have pD0 := KD.out 0 _ rfl
 have pD1 := KD.out 1 _ rfl
 have pD2 := KD.out 2 _ rfl
 go_wp2_with fail
 refine (apply_at A5f D50 1 0 0 0 2 d50OKf t5Small (by simp [SmallCf, D50]) _ _ _ _ _ _ LG.out HT.out CD.out).mono ?_
 rintro e zk ⟨u1, u2, u3, rfl, hC, hb⟩
 obtain ⟨a1k, a2k, a3k, n1k, n2k, n3k, e1k, e2k, e3k, ee1, ee2, ee3⟩ := cf_slices hC
 subst ee1
 subst ee2
 subst ee3
 clear pF0 pF1 pF2 pF3 pD0 pD1 pD2
 rw [e50_5]
 go_upto_region 15 with fail
 obtain ⟨yk, hy⟩ : ∃ y, y = zk.alloc (.cells #[.slice a1k n1k e1k, .slice a2k n2k e2k, .slice a3k n3k e3k] 31) := ⟨_, rfl⟩
 have hl : Below yX.heap.size yX yk := by rw [hy]; exact below_step' hb (below_new _ _)
 have hk : BoxAt zk.heap.size [.slice a1k n1k e1k, .slice a2k n2k e2k, .slice a3k n3k e3k] yk := by rw [hy]; exact boxAt_new zk [.slice a1k n1k e1k, .slice a2k n2k e2k, .slice a3k n3k e3k] _
 have hd := hC.weak.later (below_new zk (.cells #[.slice a1k n1k e1k, .slice a2k n2k e2k, .slice a3k n3k e3k] 31))
 rw [← hy] at hd ⊢
 obtain ⟨bk, hbn⟩ : ∃ b, b = zk.heap.size := ⟨_, rfl⟩
 rw [← hbn] at hk ⊢
 replace KA := Lib.hid (KA.out.below hl)
 replace KF := Lib.hid (KF.out.below hl)
 replace LG := Lib.hid (LG.out.below hl)
 replace HT := Lib.hid (HT.out.later hl)
 replace KC := Lib.hid (KC.out.below hl)
 replace CC := Lib.hid (CC.out.later hl)
 replace KD := Lib.hid (KD.out.below hl)
 replace CD := Lib.hid (CD.out.later hl)
 replace Kg := Lib.hid (Kg.out.below hl)
 replace Cg := Lib.hid (Cg.out.later hl)
 replace Kh := Lib.hid (Kh.out.below hl)
 replace Ch := Lib.hid (Ch.out.later hl)
 replace Ki := Lib.hid (Ki.out.below hl)
 replace Ci := Lib.hid (Ci.out.later hl)
 replace KX := Lib.hid (KX.out.below hl)
 replace CX := Lib.hid (CX.out.later hl)
 replace BW := Lib.hid (below_step' BW.out hl)
 have Kk := Lib.hid hk
 have Ck := Lib.hid hd
 clear hy hl hk hd hb hC hbn
 have pF0 := KF.out 0 _ rfl
 have pF1 := KF.out 1 _ rfl
 have pF2 := KF.out 2 _ rfl
 have pF3 := KF.out 3 _ rfl
 have pC0 := KC.out 0 _ rfl
 have pC1 := KC.out 1 _ rfl
 have pC2 := KC.out 2 _ rfl
 go_wp2_with fail
 clear pF0 pF1 pF2 pF3 pC0 pC1 pC2
 obtain ⟨yS, hy⟩ : ∃ y, y = yk.alloc (.cells #[.int .i64 0, .int .i64 0, .int .i64 0, .int .i64 0, .int .i64 0, .int .i64 1, .int .i64 0, .int .i64 0, .int .i64 0, .int .i64 1, .int .i64 0, .int .i64 0, .int .i64 0, .int .i64 0, .int .i64 0] 50) := ⟨_, rfl⟩
 have hl : Below yk.heap.size yk yS := by rw [hy]; exact below_new _ _
 have hs : Has yS (.slice (some ⟨yk.heap.size, 0, none⟩) 3 3) (dSteps [⟨0, 0, 0, 0, 0⟩, ⟨1, 0, 0, 0, 1⟩, ⟨0, 0, 0, 0, 0⟩]) := by rw [hy]; exact has_new (w := yk) (vs := [.int .i64 0, .int .i64 0, .int .i64 0, .int .i64 0, .int .i64 0, .int .i64 1, .int .i64 0, .int .i64 0, .int .i64 0, .int .i64 1, .int .i64 0, .int .i64 0, .int .i64 0, .int .i64 0, .int .i64 0]) 50 (n := 5) (k := 3) (xs := ([⟨0, 0, 0, 0, 0⟩, ⟨1, 0, 0, 0, 1⟩, ⟨0, 0, 0, 0, 0⟩] : List Sp).map Sp.d) (by intro ds h; obtain ⟨_, _, rfl⟩ := List.mem_map.1 h; rfl) rfl (by decide) (by exact (hl_int (hl_int (hl_int (hl_int (hl_int (hl_int (hl_int (hl_int (hl_int (hl_int (hl_int (hl_int (hl_int (hl_int (hl_int hl_nil))))))))))))))))
 rw [← hy]
 replace KA := Lib.hid (KA.out.below hl)
 replace KF := Lib.hid (KF.out.below hl)
 replace LG := Lib.hid (LG.out.below hl)
 replace HT := Lib.hid (HT.out.later hl)
 replace KC := Lib.hid (KC.out.below hl)
 replace CC := Lib.hid (CC.out.later hl)
 replace KD := Lib.hid (KD.out.below hl)
 replace CD := Lib.hid (CD.out.later hl)
 replace Kg := Lib.hid (Kg.out.below hl)
 replace Cg := Lib.hid (Cg.out.later hl)
 replace Kh := Lib.hid (Kh.out.below hl)
 replace Ch := Lib.hid (Ch.out.later hl)
 replace Ki := Lib.hid (Ki.out.below hl)
 replace Ci := Lib.hid (Ci.out.later hl)
 replace KX := Lib.hid (KX.out.below hl)
 replace CX := Lib.hid (CX.out.later hl)
 replace Kk := Lib.hid (Kk.out.below hl)
 replace Ck := Lib.hid (Ck.out.later hl)
 replace BW := Lib.hid (below_step' BW.out hl)
 have HS := Lib.hid hs
 clear hl hs hy
 have e1 : ((runOf A5f C50 [⟨0, 0, 0, 0, 0⟩, ⟨1, 0, 0, 0, 1⟩, ⟨0, 0, 0, 0, 0⟩]).2.1 : Int) = 2 := by rw [y50_is]; rfl
 have e2 : (runOf A5f C50 [⟨0, 0, 0, 0, 0⟩, ⟨1, 0, 0, 0, 1⟩, ⟨0, 0, 0, 0, 0⟩]).2.2 = 8 := by rw [y50_is]
 refine (run_at A5f C50 [⟨0, 0, 0, 0, 0⟩, ⟨1, 0, 0, 0, 1⟩, ⟨0, 0, 0, 0, 0⟩] c50OKf t5Small (by simp [SmallCf, C50]) _ _ _ _ _ _ _ LG.out HT.out CC.out HS.out (by decide)).mono ?_
 rintro e zY ⟨u1, u2, u3, rfl, hC, hb⟩
 rw [e1, e2]
 rw [y50_is] at hC
 clear e1 e2 HS
 obtain ⟨a1Y, a2Y, a3Y, n1Y, n2Y, n3Y, e1Y, e2Y, e3Y, ee1, ee2, ee3⟩ := cf_slices hC
 subst ee1
 subst ee2
 subst ee3
 go_upto_region 16 with fail
 obtain ⟨yY, hy⟩ : ∃ y, y = zY.alloc (.cells #[.slice a1Y n1Y e1Y, .slice a2Y n2Y e2Y, .slice a3Y n3Y e3Y] 31) := ⟨_, rfl⟩
 have hl : Below yS.heap.size yS yY := by rw [hy]; exact below_step' hb (below_new _ _)
 have hk : BoxAt zY.heap.size [.slice a1Y n1Y e1Y, .slice a2Y n2Y e2Y, .slice a3Y n3Y e3Y] yY := by rw [hy]; exact boxAt_new zY [.slice a1Y n1Y e1Y, .slice a2Y n2Y e2Y, .slice a3Y n3Y e3Y] _
 have hd := hC.weak.later (below_new zY (.cells #[.slice a1Y n1Y e1Y, .slice a2Y n2Y e2Y, .slice a3Y n3Y e3Y] 31))
 rw [← hy] at hd ⊢
 obtain ⟨bY, hbn⟩ : ∃ b, b = zY.heap.size := ⟨_, rfl⟩
 rw [← hbn] at hk ⊢
 replace KA := Lib.hid (KA.out.below hl)
 replace KF := Lib.hid (KF.out.below hl)
 replace LG := Lib.hid (LG.out.below hl)
 replace HT := Lib.hid (HT.out.later hl)
 replace KC := Lib.hid (KC.out.below hl)
 replace CC := Lib.hid (CC.out.later hl)
 replace KD := Lib.hid (KD.out.below hl)
 replace CD := Lib.hid (CD.out.later hl)
 replace Kg := Lib.hid (Kg.out.below hl)
 replace Cg := Lib.hid (Cg.out.later hl)
 replace Kh := Lib.hid (Kh.out.below hl)
 replace Ch := Lib.hid (Ch.out.later hl)
 replace Ki := Lib.hid (Ki.out.below hl)
 replace Ci := Lib.hid (Ci.out.later hl)
 replace KX := Lib.hid (KX.out.below hl)
 replace CX := Lib.hid (CX.out.later hl)
 replace Kk := Lib.hid (Kk.out.below hl)
 replace Ck := Lib.hid (Ck.out.later hl)
 replace BW := Lib.hid (below_step' BW.out hl)
 have KY := Lib.hid hk
 have CY := Lib.hid hd
 clear hy hl hk hd hb hC hbn
 have pF0 := KF.out 0 _ rfl
 have pF1 := KF.out 1 _ rfl
 have pF2 := KF.out 2 _ rfl
 have pF3 := KF.out 3 _ rfl
 have pD0 := KD.out 0 _ rfl
 have pD1 := KD.out 1 _ rfl
 have pD2 := KD.out 2 _ rfl
 go_wp2_with fail
 refine (can_at A5f D50 d50OKf t5Small _ _ _ _ _ _ LG.out HT.out CD.out).mono ?_
 rintro e zZ ⟨u, rfl, hu, hb⟩
 rw [can50] at hu
 clear pF0 pF1 pF2 pF3 pD0 pD1 pD2
 obtain ⟨sa, sc, ee⟩ := slice_of hu
 subst ee
 replace KA := Lib.hid (KA.out.below hb)
 replace KF := Lib.hid (KF.out.below hb)
 replace LG := Lib.hid (LG.out.below hb)
 replace HT := Lib.hid (HT.out.later hb)
 replace KC := Lib.hid (KC.out.below hb)
 replace CC := Lib.hid (CC.out.later hb)
 replace KD := Lib.hid (KD.out.below hb)
 replace CD := Lib.hid (CD.out.later hb)
 replace Kg := Lib.hid (Kg.out.below hb)
 replace Cg := Lib.hid (Cg.out.later hb)
 replace Kh := Lib.hid (Kh.out.below hb)
 replace Ch := Lib.hid (Ch.out.later hb)
 replace Ki := Lib.hid (Ki.out.below hb)
 replace Ci := Lib.hid (Ci.out.later hb)
 replace KX := Lib.hid (KX.out.below hb)
 replace CX := Lib.hid (CX.out.later hb)
 replace Kk := Lib.hid (Kk.out.below hb)
 replace Ck := Lib.hid (Ck.out.later hb)
 replace KY := Lib.hid (KY.out.below hb)
 replace CY := Lib.hid (CY.out.later hb)
 replace BW := Lib.hid (below_step' BW.out hb)
 have HU := Lib.hid hu
 clear hu hb
 go_upto_region 17 with fail
 have pC0 := KC.out 0 _ rfl
 have pC1 := KC.out 1 _ rfl
 have pC2 := KC.out 2 _ rfl
 go_wp2_with fail
 refine (lref_at _ _ _ _ C50 CC.out).mono ?_
 rintro e v1 ⟨rfl, hb⟩
 clear pC0 pC1 pC2
 replace KA := Lib.hid (KA.out.below hb)
 replace KF := Lib.hid (KF.out.below hb)
 replace LG := Lib.hid (LG.out.below hb)
 replace HT := Lib.hid (HT.out.later hb)
 replace KC := Lib.hid (KC.out.below hb)
 replace CC := Lib.hid (CC.out.later hb)
 replace KD := Lib.hid (KD.out.below hb)
 replace CD := Lib.hid (CD.out.later hb)
 replace Kg := Lib.hid (Kg.out.below hb)
 replace Cg := Lib.hid (Cg.out.later hb)
 replace Kh := Lib.hid (Kh.out.below hb)
 replace Ch := Lib.hid (Ch.out.later hb)
 replace Ki := Lib.hid (Ki.out.below hb)
 replace Ci := Lib.hid (Ci.out.later hb)
 replace KX := Lib.hid (KX.out.below hb)
 replace CX := Lib.hid (CX.out.later hb)
 replace Kk := Lib.hid (Kk.out.below hb)
 replace Ck := Lib.hid (Ck.out.later hb)
 replace KY := Lib.hid (KY.out.below hb)
 replace CY := Lib.hid (CY.out.later hb)
 replace HU := Lib.hid (HU.out.later hb)
 replace BW := Lib.hid (below_step' BW.out hb)
 clear hb
 go_wp2_with fail
 obtain ⟨x0_0, hx0⟩ : ∃ x, x = v1.alloc (.cells #[.int .i64 0, .int .i64 0] 3) := ⟨_, rfl⟩
 have hl0 : Below v1.heap.size v1 x0_0 := by rw [hx0]; exact below_new _ _
 have s0 : x0_0.heap.size = v1.heap.size + 1 := by rw [hx0]; simp
 obtain ⟨x0_1, hx1⟩ : ∃ x, x = x0_0.alloc (.cells #[.slice none 0 0, .slice none 0 0] 51) := ⟨_, rfl⟩
 have hl1 : Below x0_0.heap.size x0_0 x0_1 := by rw [hx1]; exact below_new _ _
 have s1 : x0_1.heap.size = x0_0.heap.size + 1 := by rw [hx1]; simp
 obtain ⟨x0_2, hx2⟩ : ∃ x, x = x0_1.alloc (.cells #[.int .i64 0, .int .i64 0] 3) := ⟨_, rfl⟩
 have hl2 : Below x0_1.heap.size x0_1 x0_2 := by rw [hx2]; exact below_new _ _
 have s2 : x0_2.heap.size = x0_1.heap.size + 1 := by rw [hx2]; simp
 have h0_0 : Has x0_0 (.slice (some ⟨v1.heap.size, 0, none⟩) 2 2) (dInts [0, 0]) := by rw [hx0]; exact has_new (w := v1) (vs := [.int .i64 0, .int .i64 0]) 3 (n := 1) (k := 2) (xs := ([0, 0] : List Int).map fun a => [dI a]) (by intro ds h; obtain ⟨_, _, rfl⟩ := List.mem_map.1 h; rfl) rfl (by decide) (by exact (hl_int (hl_int hl_nil)))
 have h0_1 : Has x0_1 (.slice (some ⟨x0_0.heap.size, 0, none⟩) 2 2) (dLls [[], []]) := by rw [hx1]; exact has_new (w := x0_0) (vs := [.slice none 0 0, .slice none 0 0]) 51 (n := 1) (k := 2) (xs := ([[], []] : List Lks).map fun m => [dLinks m]) (by intro ds h; obtain ⟨_, _, rfl⟩ := List.mem_map.1 h; rfl) rfl (by decide) (by exact (hl_cons (.nil _ _ _ _ _) (hl_cons (.nil _ _ _ _ _) hl_nil)))
 have h0_2 : Has x0_2 (.slice (some ⟨x0_1.heap.size, 0, none⟩) 2 2) (dInts [0, 0]) := by rw [hx2]; exact has_new (w := x0_1) (vs := [.int .i64 0, .int .i64 0]) 3 (n := 1) (k := 2) (xs := ([0, 0] : List Int).map fun a => [dI a]) (by intro ds h; obtain ⟨_, _, rfl⟩ := List.mem_map.1 h; rfl) rfl (by decide) (by exact (hl_int (hl_int hl_nil)))
 rw [← hx0, ← hx1, ← hx2]
 have q0 := h0_0 |>.later hl1 |>.later hl2
 have q1 := h0_1 |>.later hl2
 rw [s0] at q1
 have q2 := h0_2
 rw [s1, s0] at q2
 have hla := (below_step' (below_step' hl0 hl1) hl2)
 have hlit : HasL x0_2 [.slice (some ⟨v1.heap.size, 0, none⟩) 2 2, .slice (some ⟨v1.heap.size + 1, 0, none⟩) 2 2, .slice (some ⟨v1.heap.size + 1 + 1, 0, none⟩) 2 2] C50.d := has_cf q0 q1 q2
 clear hx0 hl0 s0 hx1 hl1 s1 hx2 hl2 s2 h0_0 h0_1 h0_2 q0 q1 q2
 refine (rsame_at C50 C50 true _ _ _ _ _ _ _ (CC.out.later hla) hlit (by simp [SmallCf, C50]) (by simp [SmallCf, C50]) ⟨fun _ => rfl, fun _ => rfl⟩).mono ?_
 rintro e u1 ⟨rfl, hb⟩
 replace hb := below_step' hla hb
 clear hlit hla
 replace KA := Lib.hid (KA.out.below hb)
 replace KF := Lib.hid (KF.out.below hb)
 replace LG := Lib.hid (LG.out.below hb)
 replace HT := Lib.hid (HT.out.later hb)
 replace KC := Lib.hid (KC.out.below hb)
 replace CC := Lib.hid (CC.out.later hb)
 replace KD := Lib.hid (KD.out.below hb)
 replace CD := Lib.hid (CD.out.later hb)
 replace Kg := Lib.hid (Kg.out.below hb)
 replace Cg := Lib.hid (Cg.out.later hb)
 replace Kh := Lib.hid (Kh.out.below hb)
 replace Ch := Lib.hid (Ch.out.later hb)
 replace Ki := Lib.hid (Ki.out.below hb)
 replace Ci := Lib.hid (Ci.out.later hb)
 replace KX := Lib.hid (KX.out.below hb)
 replace CX := Lib.hid (CX.out.later hb)
 replace Kk := Lib.hid (Kk.out.below hb)
 replace Ck := Lib.hid (Ck.out.later hb)
 replace KY := Lib.hid (KY.out.below hb)
 replace CY := Lib.hid (CY.out.later hb)
 replace HU := Lib.hid (HU.out.later hb)
 replace BW := Lib.hid (below_step' BW.out hb)
 clear hb
 have pD0 := KD.out 0 _ rfl
 have pD1 := KD.out 1 _ rfl
 have pD2 := KD.out 2 _ rfl
 go_wp2_with fail
 refine (lref_at _ _ _ _ D50 CD.out).mono ?_
 rintro e v2 ⟨rfl, hb⟩
 clear pD0 pD1 pD2
 replace KA := Lib.hid (KA.out.below hb)
 replace KF := Lib.hid (KF.out.below hb)
 replace LG := Lib.hid (LG.out.below hb)
 replace HT := Lib.hid (HT.out.later hb)
 replace KC := Lib.hid (KC.out.below hb)
 replace CC := Lib.hid (CC.out.later hb)
 replace KD := Lib.hid (KD.out.below hb)
 replace CD := Lib.hid (CD.out.later hb)
 replace Kg := Lib.hid (Kg.out.below hb)
 replace Cg := Lib.hid (Cg.out.later hb)
 replace Kh := Lib.hid (Kh.out.below hb)
 replace Ch := Lib.hid (Ch.out.later hb)
 replace Ki := Lib.hid (Ki.out.below hb)
 replace Ci := Lib.hid (Ci.out.later hb)
 replace KX := Lib.hid (KX.out.below hb)
 replace CX := Lib.hid (CX.out.later hb)
 replace Kk := Lib.hid (Kk.out.below hb)
 replace Ck := Lib.hid (Ck.out.later hb)
 replace KY := Lib.hid (KY.out.below hb)
 replace CY := Lib.hid (CY.out.later hb)
 replace HU := Lib.hid (HU.out.later hb)
 replace BW := Lib.hid (below_step' BW.out hb)
 clear hb
 go_wp2_with fail
 obtain ⟨x1_0, hx0⟩ : ∃ x, x = v2.alloc (.cells #[.int .i64 1, .int .i64 0] 3) := ⟨_, rfl⟩
 have hl0 : Below v2.heap.size v2 x1_0 := by rw [hx0]; exact below_new _ _
 have s0 : x1_0.heap.size = v2.heap.size + 1 := by rw [hx0]; simp
 obtain ⟨x1_1, hx1⟩ : ∃ x, x = x1_0.alloc (.cells #[.int .i64 1, .int .i64 1, .int .i64 2, .int .i64 2] 63) := ⟨_, rfl⟩
 have hl1 : Below x1_0.heap.size x1_0 x1_1 := by rw [hx1]; exact below_new _ _
 have s1 : x1_1.heap.size = x1_0.heap.size + 1 := by rw [hx1]; simp
 obtain ⟨x1_2, hx2⟩ : ∃ x, x = x1_1.alloc (.cells #[.slice (some ⟨v2.heap.size + 1, 0, none⟩) 2 2, .slice none 0 0] 51) := ⟨_, rfl⟩
 have hl2 : Below x1_1.heap.size x1_1 x1_2 := by rw [hx2]; exact below_new _ _
 have s2 : x1_2.heap.size = x1_1.heap.size + 1 := by rw [hx2]; simp
 obtain ⟨x1_3, hx3⟩ : ∃ x, x = x1_2.alloc (.cells #[.int .i64 2, .int .i64 0] 3) := ⟨_, rfl⟩
 have hl3 : Below x1_2.heap.size x1_2 x1_3 := by rw [hx3]; exact below_new _ _
 have s3 : x1_3.heap.size = x1_2.heap.size + 1 := by rw [hx3]; simp
 have h1_0 : Has x1_0 (.slice (some ⟨v2.heap.size, 0, none⟩) 2 2) (dInts [1, 0]) := by rw [hx0]; exact has_new (w := v2) (vs := [.int .i64 1, .int .i64 0]) 3 (n := 1) (k := 2) (xs := ([1, 0] : List Int).map fun a => [dI a]) (by intro ds h; obtain ⟨_, _, rfl⟩ := List.mem_map.1 h; rfl) rfl (by decide) (by exact (hl_int (hl_int hl_nil)))
 have h1_1 : Has x1_1 (.slice (some ⟨x1_0.heap.size, 0, none⟩) 2 2) (dLinks [(1, 1), (2, 2)]) := by rw [hx1]; exact has_new (w := x1_0) (vs := [.int .i64 1, .int .i64 1, .int .i64 2, .int .i64 2]) 63 (n := 2) (k := 2) (xs := ([(1, 1), (2, 2)] : Lks).map fun p => [dI p.1, dI p.2]) (by intro ds h; obtain ⟨_, _, rfl⟩ := List.mem_map.1 h; rfl) rfl (by decide) (by exact (hl_int (hl_int (hl_int (hl_int hl_nil)))))
 have h1_2 : Has x1_2 (.slice (some ⟨x1_1.heap.size, 0, none⟩) 2 2) (dLls [[(1, 1), (2, 2)], []]) := by rw [hx2, ← s0]; exact has_new (w := x1_1) (vs := [.slice (some ⟨x1_0.heap.size, 0, none⟩) 2 2, .slice none 0 0]) 51 (n := 1) (k := 2) (xs := ([[(1, 1), (2, 2)], []] : List Lks).map fun m => [dLinks m]) (by intro ds h; obtain ⟨_, _, rfl⟩ := List.mem_map.1 h; rfl) rfl (by decide) (by exact (hl_cons h1_1 (hl_cons (.nil _ _ _ _ _) hl_nil)))
 have h1_3 : Has x1_3 (.slice (some ⟨x1_2.heap.size, 0, none⟩) 2 2) (dInts [2, 0]) := by rw [hx3]; exact has_new (w := x1_2) (vs := [.int .i64 2, .int .i64 0]) 3 (n := 1) (k := 2) (xs := ([2, 0] : List Int).map fun a => [dI a]) (by intro ds h; obtain ⟨_, _, rfl⟩ := List.mem_map.1 h; rfl) rfl (by decide) (by exact (hl_int (hl_int hl_nil)))
 rw [← hx0, ← hx1, ← hx2, ← hx3]
 have q0 := h1_0 |>.later hl1 |>.later hl2 |>.later hl3
 have q2 := h1_2 |>.later hl3
 rw [s1, s0] at q2
 have q3 := h1_3
 rw [s2, s1, s0] at q3
 have hla := (below_step' (below_step' (below_step' hl0 hl1) hl2) hl3)
 have hlit : HasL x1_3 [.slice (some ⟨v2.heap.size, 0, none⟩) 2 2, .slice (some ⟨v2.heap.size + 1 + 1, 0, none⟩) 2 2, .slice (some ⟨v2.heap.size + 1 + 1 + 1, 0, none⟩) 2 2] D50.d := has_cf q0 q2 q3
 clear hx0 hl0 s0 hx1 hl1 s1 hx2 hl2 s2 hx3 hl3 s3 h1_0 h1_1 h1_2 h1_3 q0 q2 q3
 refine (rsame_at D50 D50 true _ _ _ _ _ _ _ (CD.out.later hla) hlit (by simp [SmallCf, D50]) (by simp [SmallCf, D50]) ⟨fun _ => rfl, fun _ => rfl⟩).mono ?_
 rintro e u2 ⟨rfl, hb⟩
 replace hb := below_step' hla hb
 clear hlit hla
 replace KA := Lib.hid (KA.out.below hb)
 replace KF := Lib.hid (KF.out.below hb)
 replace LG := Lib.hid (LG.out.below hb)
 replace HT := Lib.hid (HT.out.later hb)
 replace KC := Lib.hid (KC.out.below hb)
 replace CC := Lib.hid (CC.out.later hb)
 replace KD := Lib.hid (KD.out.below hb)
 replace CD := Lib.hid (CD.out.later hb)
 replace Kg := Lib.hid (Kg.out.below hb)
 replace Cg := Lib.hid (Cg.out.later hb)
 replace Kh := Lib.hid (Kh.out.below hb)
 replace Ch := Lib.hid (Ch.out.later hb)
 replace Ki := Lib.hid (Ki.out.below hb)
 replace Ci := Lib.hid (Ci.out.later hb)
 replace KX := Lib.hid (KX.out.below hb)
 replace CX := Lib.hid (CX.out.later hb)
 replace Kk := Lib.hid (Kk.out.below hb)
 replace Ck := Lib.hid (Ck.out.later hb)
 replace KY := Lib.hid (KY.out.below hb)
 replace CY := Lib.hid (CY.out.later hb)
 replace HU := Lib.hid (HU.out.later hb)
 replace BW := Lib.hid (below_step' BW.out hb)
 clear hb
 have pX0 := KX.out 0 _ rfl
 have pX1 := KX.out 1 _ rfl
 have pX2 := KX.out 2 _ rfl
 go_wp2_with fail
 refine (lref_at _ _ _ _ X50 CX.out).mono ?_
 rintro e v3 ⟨rfl, hb⟩
 clear pX0 pX1 pX2
 replace KA := Lib.hid (KA.out.below hb)
 replace KF := Lib.hid (KF.out.below hb)
 replace LG := Lib.hid (LG.out.below hb)
 replace HT := Lib.hid (HT.out.later hb)
 replace KC := Lib.hid (KC.out.below hb)
 replace CC := Lib.hid (CC.out.later hb)
 replace KD := Lib.hid (KD.out.below hb)
 replace CD := Lib.hid (CD.out.later hb)
 replace Kg := Lib.hid (Kg.out.below hb)
 replace Cg := Lib.hid (Cg.out.later hb)
 replace Kh := Lib.hid (Kh.out.below hb)
 replace Ch := Lib.hid (Ch.out.later hb)
 replace Ki := Lib.hid (Ki.out.below hb)
 replace Ci := Lib.hid (Ci.out.later hb)
 replace KX := Lib.hid (KX.out.below hb)
 replace CX := Lib.hid (CX.out.later hb)
 replace Kk := Lib.hid (Kk.out.below hb)
 replace Ck := Lib.hid (Ck.out.later hb)
 replace KY := Lib.hid (KY.out.below hb)
 replace CY := Lib.hid (CY.out.later hb)
 replace HU := Lib.hid (HU.out.later hb)
 replace BW := Lib.hid (below_step' BW.out hb)
 clear hb
 go_wp2_with fail
 obtain ⟨x2_0, hx0⟩ : ∃ x, x = v3.alloc (.cells #[.int .i64 1, .int .i64 0] 3) := ⟨_, rfl⟩
 have hl0 : Below v3.heap.size v3 x2_0 := by rw [hx0]; exact below_new _ _
 have s0 : x2_0.heap.size = v3.heap.size + 1 := by rw [hx0]; simp
 obtain ⟨x2_1, hx1⟩ : ∃ x, x = x2_0.alloc (.cells #[.int .i64 1, .int .i64 1] 63) := ⟨_, rfl⟩
 have hl1 : Below x2_0.heap.size x2_0 x2_1 := by rw [hx1]; exact below_new _ _
 have s1 : x2_1.heap.size = x2_0.heap.size + 1 := by rw [hx1]; simp
 obtain ⟨x2_2, hx2⟩ : ∃ x, x = x2_1.alloc (.cells #[.slice (some ⟨v3.heap.size + 1, 0, none⟩) 1 1, .slice none 0 0] 51) := ⟨_, rfl⟩
 have hl2 : Below x2_1.heap.size x2_1 x2_2 := by rw [hx2]; exact below_new _ _
 have s2 : x2_2.heap.size = x2_1.heap.size + 1 := by rw [hx2]; simp
 obtain ⟨x2_3, hx3⟩ : ∃ x, x = x2_2.alloc (.cells #[.int .i64 2, .int .i64 0] 3) := ⟨_, rfl⟩
 have hl3 : Below x2_2.heap.size x2_2 x2_3 := by rw [hx3]; exact below_new _ _
 have s3 : x2_3.heap.size = x2_2.heap.size + 1 := by rw [hx3]; simp
 have h2_0 : Has x2_0 (.slice (some ⟨v3.heap.size, 0, none⟩) 2 2) (dInts [1, 0]) := by rw [hx0]; exact has_new (w := v3) (vs := [.int .i64 1, .int .i64 0]) 3 (n := 1) (k := 2) (xs := ([1, 0] : List Int).map fun a => [dI a]) (by intro ds h; obtain ⟨_, _, rfl⟩ := List.mem_map.1 h; rfl) rfl (by decide) (by exact (hl_int (hl_int hl_nil)))
 have h2_1 : Has x2_1 (.slice (some ⟨x2_0.heap.size, 0, none⟩) 1 1) (dLinks [(1, 1)]) := by rw [hx1]; exact has_new (w := x2_0) (vs := [.int .i64 1, .int .i64 1]) 63 (n := 2) (k := 1) (xs := ([(1, 1)] : Lks).map fun p => [dI p.1, dI p.2]) (by intro ds h; obtain ⟨_, _, rfl⟩ := List.mem_map.1 h; rfl) rfl (by decide) (by exact (hl_int (hl_int hl_nil)))
 have h2_2 : Has x2_2 (.slice (some ⟨x2_1.heap.size, 0, none⟩) 2 2) (dLls [[(1, 1)], []]) := by rw [hx2, ← s0]; exact has_new (w := x2_1) (vs := [.slice (some ⟨x2_0.heap.size, 0, none⟩) 1 1, .slice none 0 0]) 51 (n := 1) (k := 2) (xs := ([[(1, 1)], []] : List Lks).map fun m => [dLinks m]) (by intro ds h; obtain ⟨_, _, rfl⟩ := List.mem_map.1 h; rfl) rfl (by decide) (by exact (hl_cons h2_1 (hl_cons (.nil _ _ _ _ _) hl_nil)))
 have h2_3 : Has x2_3 (.slice (some ⟨x2_2.heap.size, 0, none⟩) 2 2) (dInts [2, 0]) := by rw [hx3]; exact has_new (w := x2_2) (vs := [.int .i64 2, .int .i64 0]) 3 (n := 1) (k := 2) (xs := ([2, 0] : List Int).map fun a => [dI a]) (by intro ds h; obtain ⟨_, _, rfl⟩ := List.mem_map.1 h; rfl) rfl (by decide) (by exact (hl_int (hl_int hl_nil)))
 rw [← hx0, ← hx1, ← hx2, ← hx3]
 have q0 := h2_0 |>.later hl1 |>.later hl2 |>.later hl3
 have q2 := h2_2 |>.later hl3
 rw [s1, s0] at q2
 have q3 := h2_3
 rw [s2, s1, s0] at q3
 have hla := (below_step' (below_step' (below_step' hl0 hl1) hl2) hl3)
 have hlit : HasL x2_3 [.slice (some ⟨v3.heap.size, 0, none⟩) 2 2, .slice (some ⟨v3.heap.size + 1 + 1, 0, none⟩) 2 2, .slice (some ⟨v3.heap.size + 1 + 1 + 1, 0, none⟩) 2 2] X50.d := has_cf q0 q2 q3
 clear hx0 hl0 s0 hx1 hl1 s1 hx2 hl2 s2 hx3 hl3 s3 h2_0 h2_1 h2_2 h2_3 q0 q2 q3
 refine (rsame_at X50 X50 true _ _ _ _ _ _ _ (CX.out.later hla) hlit (by simp [SmallCf, X50]) (by simp [SmallCf, X50]) ⟨fun _ => rfl, fun _ => rfl⟩).mono ?_
 rintro e u3 ⟨rfl, hb⟩
 replace hb := below_step' hla hb
 clear hlit hla
 replace KA := Lib.hid (KA.out.below hb)
 replace KF := Lib.hid (KF.out.below hb)
 replace LG := Lib.hid (LG.out.below hb)
 replace HT := Lib.hid (HT.out.later hb)
 replace KC := Lib.hid (KC.out.below hb)
 replace CC := Lib.hid (CC.out.later hb)
 replace KD := Lib.hid (KD.out.below hb)
 replace CD := Lib.hid (CD.out.later hb)
 replace Kg := Lib.hid (Kg.out.below hb)
 replace Cg := Lib.hid (Cg.out.later hb)
 replace Kh := Lib.hid (Kh.out.below hb)
 replace Ch := Lib.hid (Ch.out.later hb)
 replace Ki := Lib.hid (Ki.out.below hb)
 replace Ci := Lib.hid (Ci.out.later hb)
 replace KX := Lib.hid (KX.out.below hb)
 replace CX := Lib.hid (CX.out.later hb)
 replace Kk := Lib.hid (Kk.out.below hb)
 replace Ck := Lib.hid (Ck.out.later hb)
 replace KY := Lib.hid (KY.out.below hb)
 replace CY := Lib.hid (CY.out.later hb)
 replace HU := Lib.hid (HU.out.later hb)
 replace BW := Lib.hid (below_step' BW.out hb)
 clear hb
 have pY0 := KY.out 0 _ rfl
 have pY1 := KY.out 1 _ rfl
 have pY2 := KY.out 2 _ rfl
 go_wp2_with fail
 refine (lref_at _ _ _ _ Y50 CY.out).mono ?_
 rintro e v4 ⟨rfl, hb⟩
 clear pY0 pY1 pY2
 replace KA := Lib.hid (KA.out.below hb)
 replace KF := Lib.hid (KF.out.below hb)
 replace LG := Lib.hid (LG.out.below hb)
 replace HT := Lib.hid (HT.out.later hb)
 replace KC := Lib.hid (KC.out.below hb)
 replace CC := Lib.hid (CC.out.later hb)
 replace KD := Lib.hid (KD.out.below hb)
 replace CD := Lib.hid (CD.out.later hb)
 replace Kg := Lib.hid (Kg.out.below hb)
 replace Cg := Lib.hid (Cg.out.later hb)
 replace Kh := Lib.hid (Kh.out.below hb)
 replace Ch := Lib.hid (Ch.out.later hb)
 replace Ki := Lib.hid (Ki.out.below hb)
 replace Ci := Lib.hid (Ci.out.later hb)
 replace KX := Lib.hid (KX.out.below hb)
 replace CX := Lib.hid (CX.out.later hb)
 replace Kk := Lib.hid (Kk.out.below hb)
 replace Ck := Lib.hid (Ck.out.later hb)
 replace KY := Lib.hid (KY.out.below hb)
 replace CY := Lib.hid (CY.out.later hb)
 replace HU := Lib.hid (HU.out.later hb)
 replace BW := Lib.hid (below_step' BW.out hb)
 clear hb
 go_wp2_with fail
 obtain ⟨x3_0, hx0⟩ : ∃ x, x = v4.alloc (.cells #[.int .i64 1, .int .i64 1] 3) := ⟨_, rfl⟩
 have hl0 : Below v4.heap.size v4 x3_0 := by rw [hx0]; exact below_new _ _
 have s0 : x3_0.heap.size = v4.heap.size + 1 := by rw [hx0]; simp
 obtain ⟨x3_1, hx1⟩ : ∃ x, x = x3_0.alloc (.cells #[.int .i64 2, .int .i64 2] 63) := ⟨_, rfl⟩
 have hl1 : Below x3_0.heap.size x3_0 x3_1 := by rw [hx1]; exact below_new _ _
 have s1 : x3_1.heap.size = x3_0.heap.size + 1 := by rw [hx1]; simp
 obtain ⟨x3_2, hx2⟩ : ∃ x, x = x3_1.alloc (.cells #[.slice (some ⟨v4.heap.size + 1, 0, none⟩) 1 1, .slice none 0 0] 51) := ⟨_, rfl⟩
 have hl2 : Below x3_1.heap.size x3_1 x3_2 := by rw [hx2]; exact below_new _ _
 have s2 : x3_2.heap.size = x3_1.heap.size + 1 := by rw [hx2]; simp
 obtain ⟨x3_3, hx3⟩ : ∃ x, x = x3_2.alloc (.cells #[.int .i64 2, .int .i64 0] 3) := ⟨_, rfl⟩
 have hl3 : Below x3_2.heap.size x3_2 x3_3 := by rw [hx3]; exact below_new _ _
 have s3 : x3_3.heap.size = x3_2.heap.size + 1 := by rw [hx3]; simp
 have h3_0 : Has x3_0 (.slice (some ⟨v4.heap.size, 0, none⟩) 2 2) (dInts [1, 1]) := by rw [hx0]; exact has_new (w := v4) (vs := [.int .i64 1, .int .i64 1]) 3 (n := 1) (k := 2) (xs := ([1, 1] : List Int).map fun a => [dI a]) (by intro ds h; obtain ⟨_, _, rfl⟩ := List.mem_map.1 h; rfl) rfl (by decide) (by exact (hl_int (hl_int hl_nil)))
 have h3_1 : Has x3_1 (.slice (some ⟨x3_0.heap.size, 0, none⟩) 1 1) (dLinks [(2, 2)]) := by rw [hx1]; exact has_new (w := x3_0) (vs := [.int .i64 2, .int .i64 2]) 63 (n := 2) (k := 1) (xs := ([(2, 2)] : Lks).map fun p => [dI p.1, dI p.2]) (by intro ds h; obtain ⟨_, _, rfl⟩ := List.mem_map.1 h; rfl) rfl (by decide) (by exact (hl_int (hl_int hl_nil)))
 have h3_2 : Has x3_2 (.slice (some ⟨x3_1.heap.size, 0, none⟩) 2 2) (dLls [[(2, 2)], []]) := by rw [hx2, ← s0]; exact has_new (w := x3_1) (vs := [.slice (some ⟨x3_0.heap.size, 0, none⟩) 1 1, .slice none 0 0]) 51 (n := 1) (k := 2) (xs := ([[(2, 2)], []] : List Lks).map fun m => [dLinks m]) (by intro ds h; obtain ⟨_, _, rfl⟩ := List.mem_map.1 h; rfl) rfl (by decide) (by exact (hl_cons h3_1 (hl_cons (.nil _ _ _ _ _) hl_nil)))
 have h3_3 : Has x3_3 (.slice (some ⟨x3_2.heap.size, 0, none⟩) 2 2) (dInts [2, 0]) := by rw [hx3]; exact has_new (w := x3_2) (vs := [.int .i64 2, .int .i64 0]) 3 (n := 1) (k := 2) (xs := ([2, 0] : List Int).map fun a => [dI a]) (by intro ds h; obtain ⟨_, _, rfl⟩ := List.mem_map.1 h; rfl) rfl (by decide) (by exact (hl_int (hl_int hl_nil)))
 rw [← hx0, ← hx1, ← hx2, ← hx3]
 have q0 := h3_0 |>.later hl1 |>.later hl2 |>.later hl3
 have q2 := h3_2 |>.later hl3
 rw [s1, s0] at q2
 have q3 := h3_3
 rw [s2, s1, s0] at q3
 have hla := (below_step' (below_step' (below_step' hl0 hl1) hl2) hl3)
 have hlit : HasL x3_3 [.slice (some ⟨v4.heap.size, 0, none⟩) 2 2, .slice (some ⟨v4.heap.size + 1 + 1, 0, none⟩) 2 2, .slice (some ⟨v4.heap.size + 1 + 1 + 1, 0, none⟩) 2 2] Y50.d := has_cf q0 q2 q3
 clear hx0 hl0 s0 hx1 hl1 s1 hx2 hl2 s2 hx3 hl3 s3 h3_0 h3_1 h3_2 h3_3 q0 q2 q3
 refine (rsame_at Y50 Y50 true _ _ _ _ _ _ _ (CY.out.later hla) hlit (by simp [SmallCf, Y50]) (by simp [SmallCf, Y50]) ⟨fun _ => rfl, fun _ => rfl⟩).mono ?_
 rintro e u4 ⟨rfl, hb⟩
 replace hb := below_step' hla hb
 clear hlit hla
 replace KA := Lib.hid (KA.out.below hb)
 replace KF := Lib.hid (KF.out.below hb)
 replace LG := Lib.hid (LG.out.below hb)
 replace HT := Lib.hid (HT.out.later hb)
 replace KC := Lib.hid (KC.out.below hb)
 replace CC := Lib.hid (CC.out.later hb)
 replace KD := Lib.hid (KD.out.below hb)
 replace CD := Lib.hid (CD.out.later hb)
 replace Kg := Lib.hid (Kg.out.below hb)
 replace Cg := Lib.hid (Cg.out.later hb)
 replace Kh := Lib.hid (Kh.out.below hb)
 replace Ch := Lib.hid (Ch.out.later hb)
 replace Ki := Lib.hid (Ki.out.below hb)
 replace Ci := Lib.hid (Ci.out.later hb)
 replace KX := Lib.hid (KX.out.below hb)
 replace CX := Lib.hid (CX.out.later hb)
 replace Kk := Lib.hid (Kk.out.below hb)
 replace Ck := Lib.hid (Ck.out.later hb)
 replace KY := Lib.hid (KY.out.below hb)
 replace CY := Lib.hid (CY.out.later hb)
 replace HU := Lib.hid (HU.out.later hb)
 replace BW := Lib.hid (below_step' BW.out hb)
 clear hb
 go_wp2_with fail
 refine (lsteps_at [⟨1, 0, 0, 0, 1⟩] _ _ HU.out (by decide)).mono ?_
 rintro e v5 ⟨uS, rfl, hu, hb⟩
 replace KA := Lib.hid (KA.out.below hb)
 replace KF := Lib.hid (KF.out.below hb)
 replace LG := Lib.hid (LG.out.below hb)
 replace HT := Lib.hid (HT.out.later hb)
 replace KC := Lib.hid (KC.out.below hb)
 replace CC := Lib.hid (CC.out.later hb)
 replace KD := Lib.hid (KD.out.below hb)
 replace CD := Lib.hid (CD.out.later hb)
 replace Kg := Lib.hid (Kg.out.below hb)
 replace Cg := Lib.hid (Cg.out.later hb)
 replace Kh := Lib.hid (Kh.out.below hb)
 replace Ch := Lib.hid (Ch.out.later hb)
 replace Ki := Lib.hid (Ki.out.below hb)
 replace Ci := Lib.hid (Ci.out.later hb)
 replace KX := Lib.hid (KX.out.below hb)
 replace CX := Lib.hid (CX.out.later hb)
 replace Kk := Lib.hid (Kk.out.below hb)
 replace Ck := Lib.hid (Ck.out.later hb)
 replace KY := Lib.hid (KY.out.below hb)
 replace CY := Lib.hid (CY.out.later hb)
 replace HU := Lib.hid (HU.out.later hb)
 replace BW := Lib.hid (below_step' BW.out hb)
 have HV := Lib.hid hu
 clear hu hb
 go_wp2_with fail
 obtain ⟨x5, hx⟩ : ∃ x, x = v5.alloc (.cells #[.int .i64 1, .int .i64 0, .int .i64 0, .int .i64 0, .int .i64 1] 55) := ⟨_, rfl⟩
 have hl : Below v5.heap.size v5 x5 := by rw [hx]; exact below_new _ _
 have hs : Has x5 (.slice (some ⟨v5.heap.size, 0, none⟩) 1 1) (dSteps [⟨1, 0, 0, 0, 1⟩]) := by rw [hx]; exact has_new (w := v5) (vs := [.int .i64 1, .int .i64 0, .int .i64 0, .int .i64 0, .int .i64 1]) 55 (n := 5) (k := 1) (xs := ([⟨1, 0, 0, 0, 1⟩] : List Sp).map Sp.d) (by intro ds h; obtain ⟨_, _, rfl⟩ := List.mem_map.1 h; rfl) rfl (by decide) (by exact (hl_int (hl_int (hl_int (hl_int (hl_int hl_nil))))))
 rw [← hx]
 replace KA := Lib.hid (KA.out.below hl)
 replace KF := Lib.hid (KF.out.below hl)
 replace LG := Lib.hid (LG.out.below hl)
 replace HT := Lib.hid (HT.out.later hl)
 replace KC := Lib.hid (KC.out.below hl)
 replace CC := Lib.hid (CC.out.later hl)
 replace KD := Lib.hid (KD.out.below hl)
 replace CD := Lib.hid (CD.out.later hl)
 replace Kg := Lib.hid (Kg.out.below hl)
 replace Cg := Lib.hid (Cg.out.later hl)
 replace Kh := Lib.hid (Kh.out.below hl)
 replace Ch := Lib.hid (Ch.out.later hl)
 replace Ki := Lib.hid (Ki.out.below hl)
 replace Ci := Lib.hid (Ci.out.later hl)
 replace KX := Lib.hid (KX.out.below hl)
 replace CX := Lib.hid (CX.out.later hl)
 replace Kk := Lib.hid (Kk.out.below hl)
 replace Ck := Lib.hid (Ck.out.later hl)
 replace KY := Lib.hid (KY.out.below hl)
 replace CY := Lib.hid (CY.out.later hl)
 replace HU := Lib.hid (HU.out.later hl)
 replace HV := Lib.hid (HV.out.later hl)
 replace BW := Lib.hid (below_step' BW.out hl)
 clear hx hl
 refine (rsteps_at [⟨1, 0, 0, 0, 1⟩] [⟨1, 0, 0, 0, 1⟩] true _ _ _ HV.out hs (by decide) ⟨fun _ => rfl, fun _ => rfl⟩).mono ?_
 rintro e u5 ⟨rfl, hb⟩
 replace KA := Lib.hid (KA.out.below hb)
 replace KF := Lib.hid (KF.out.below hb)
 replace LG := Lib.hid (LG.out.below hb)
 replace HT := Lib.hid (HT.out.later hb)
 replace KC := Lib.hid (KC.out.below hb)
 replace CC := Lib.hid (CC.out.later hb)
 replace KD := Lib.hid (KD.out.below hb)
 replace CD := Lib.hid (CD.out.later hb)
 replace Kg := Lib.hid (Kg.out.below hb)
 replace Cg := Lib.hid (Cg.out.later hb)
 replace Kh := Lib.hid (Kh.out.below hb)
 replace Ch := Lib.hid (Ch.out.later hb)
 replace Ki := Lib.hid (Ki.out.below hb)
 replace Ci := Lib.hid (Ci.out.later hb)
 replace KX := Lib.hid (KX.out.below hb)
 replace CX := Lib.hid (CX.out.later hb)
 replace Kk := Lib.hid (Kk.out.below hb)
 replace Ck := Lib.hid (Ck.out.later hb)
 replace KY := Lib.hid (KY.out.below hb)
 replace CY := Lib.hid (CY.out.later hb)
 replace HU := Lib.hid (HU.out.later hb)
 replace HV := Lib.hid (HV.out.later hb)
 replace BW := Lib.hid (below_step' BW.out hb)
 clear hb hs
 have pA0 := KA.out 0 _ rfl
 have pA1 := KA.out 1 _ rfl
 have pA2 := KA.out 2 _ rfl
 have pA3 := KA.out 3 _ rfl
 have pD0 := KD.out 0 _ rfl
 have pD1 := KD.out 1 _ rfl
 have pD2 := KD.out 2 _ rfl
 go_wp2_with fail
 refine (can_at A5 D50 d50OK t5Small _ _ _ _ _ _ LG.out HT.out CD.out).mono ?_
 rintro e u6 ⟨u, rfl, hu, hb⟩
 clear pA0 pA1 pA2 pA3 pD0 pD1 pD2
 obtain ⟨sa6, sc6, ee⟩ := slice_of hu
 subst ee
 rw [can50']
 replace KA := Lib.hid (KA.out.below hb)
 replace KF := Lib.hid (KF.out.below hb)
 replace LG := Lib.hid (LG.out.below hb)
 replace HT := Lib.hid (HT.out.later hb)
 replace KC := Lib.hid (KC.out.below hb)
 replace CC := Lib.hid (CC.out.later hb)
 replace KD := Lib.hid (KD.out.below hb)
 replace CD := Lib.hid (CD.out.later hb)
 replace Kg := Lib.hid (Kg.out.below hb)
 replace Cg := Lib.hid (Cg.out.later hb)
 replace Kh := Lib.hid (Kh.out.below hb)
 replace Ch := Lib.hid (Ch.out.later hb)
 replace Ki := Lib.hid (Ki.out.below hb)
 replace Ci := Lib.hid (Ci.out.later hb)
 replace KX := Lib.hid (KX.out.below hb)
 replace CX := Lib.hid (CX.out.later hb)
 replace Kk := Lib.hid (Kk.out.below hb)
 replace Ck := Lib.hid (Ck.out.later hb)
 replace KY := Lib.hid (KY.out.below hb)
 replace CY := Lib.hid (CY.out.later hb)
 replace HU := Lib.hid (HU.out.later hb)
 replace HV := Lib.hid (HV.out.later hb)
 replace BW := Lib.hid (below_step' BW.out hb)
 clear hu hb
 have pC0 := KC.out 0 _ rfl
 have pC1 := KC.out 1 _ rfl
 have pC2 := KC.out 2 _ rfl
 go_wp2_with fail
 refine (same_at C50 C50 true _ _ _ _ _ _ _ CC.out CC.out (by simp [SmallCf, C50]) ⟨fun _ => rfl, fun _ => rfl⟩).mono ?_
 rintro e u7 ⟨rfl, hb⟩
 clear pC0 pC1 pC2
 replace KA := Lib.hid (KA.out.below hb)
 replace KF := Lib.hid (KF.out.below hb)
 replace LG := Lib.hid (LG.out.below hb)
 replace HT := Lib.hid (HT.out.later hb)
 replace KC := Lib.hid (KC.out.below hb)
 replace CC := Lib.hid (CC.out.later hb)
 replace KD := Lib.hid (KD.out.below hb)
 replace CD := Lib.hid (CD.out.later hb)
 replace Kg := Lib.hid (Kg.out.below hb)
 replace Cg := Lib.hid (Cg.out.later hb)
 replace Kh := Lib.hid (Kh.out.below hb)
 replace Ch := Lib.hid (Ch.out.later hb)
 replace Ki := Lib.hid (Ki.out.below hb)
 replace Ci := Lib.hid (Ci.out.later hb)
 replace KX := Lib.hid (KX.out.below hb)
 replace CX := Lib.hid (CX.out.later hb)
 replace Kk := Lib.hid (Kk.out.below hb)
 replace Ck := Lib.hid (Ck.out.later hb)
 replace KY := Lib.hid (KY.out.below hb)
 replace CY := Lib.hid (CY.out.later hb)
 replace HU := Lib.hid (HU.out.later hb)
 replace HV := Lib.hid (HV.out.later hb)
 replace BW := Lib.hid (below_step' BW.out hb)
 clear hb
 have pC0 := KC.out 0 _ rfl
 have pC1 := KC.out 1 _ rfl
 have pC2 := KC.out 2 _ rfl
 have pD0 := KD.out 0 _ rfl
 have pD1 := KD.out 1 _ rfl
 have pD2 := KD.out 2 _ rfl
 go_wp2_with fail
 refine (same_at C50 D50 false _ _ _ _ _ _ _ CC.out CD.out (by simp [SmallCf, C50]) ⟨fun h => (by cases h), fun h => absurd h (by simp [C50, D50])⟩).mono ?_
 rintro e u8 ⟨rfl, hb⟩
 clear pC0 pC1 pC2 pD0 pD1 pD2
 replace KA := Lib.hid (KA.out.below hb)
 replace KF := Lib.hid (KF.out.below hb)
 replace LG := Lib.hid (LG.out.below hb)
 replace HT := Lib.hid (HT.out.later hb)
 replace KC := Lib.hid (KC.out.below hb)
 replace CC := Lib.hid (CC.out.later hb)
 replace KD := Lib.hid (KD.out.below hb)
 replace CD := Lib.hid (CD.out.later hb)
 replace Kg := Lib.hid (Kg.out.below hb)
 replace Cg := Lib.hid (Cg.out.later hb)
 replace Kh := Lib.hid (Kh.out.below hb)
 replace Ch := Lib.hid (Ch.out.later hb)
 replace Ki := Lib.hid (Ki.out.below hb)
 replace Ci := Lib.hid (Ci.out.later hb)
 replace KX := Lib.hid (KX.out.below hb)
 replace CX := Lib.hid (CX.out.later hb)
 replace Kk := Lib.hid (Kk.out.below hb)
 replace Ck := Lib.hid (Ck.out.later hb)
 replace KY := Lib.hid (KY.out.below hb)
 replace CY := Lib.hid (CY.out.later hb)
 replace HU := Lib.hid (HU.out.later hb)
 replace HV := Lib.hid (HV.out.later hb)
 replace BW := Lib.hid (below_step' BW.out hb)
 clear hb
 go_wp2_with fail
 go_ret
 exact ⟨rfl, BW.out⟩
end Go.Proofs.Ytiblcpkejhiehaa

set_option linter.unusedSimpArgs false
set_option linter.unusedVariables false
namespace Go.Proofs.Ytiblcpkejhiehaa
open Go.RowKit Go.PlainAid
set_option maxHeartbeats 8000000 in
set_option maxRecDepth 100000 in
theorem lapp_at (N : Int) (L : Lks) (M : Tab) (ff : Bool) (vG vT : Value) (w : World) (hG : LinksAt w vG L) (hT : Has w vT (dTab M)) (hsm : SmallTab M) :
  Calls Try.prog 11 #[.agg #[.int .i64 N, vG, vT, .bool ff]] w fun e w' => ∃ uT, e = .returned (.agg #[.int .i64 N, vG, uT, .bool ff]) ∧ Has w' uT (dTab M) ∧ Below w.heap.size w w' := by
 obtain ⟨ga, gc, ee⟩ := slice_of (has_of_links hG)
 subst ee
 obtain ⟨ta, tc, ee⟩ := slice_of hT
 subst ee
 have HG := Lib.hid hG
 have HT := Lib.hid hT
 obtain ⟨gl, hgl⟩ : ∃ n, n = L.length := ⟨_, rfl⟩
 obtain ⟨tl, htl⟩ : ∃ n, n = M.length := ⟨_, rfl⟩
 rw [← hgl] at HG ⊢
 rw [← htl] at HT ⊢
 have GL := Lib.hid hgl
 have SM := Lib.hid hsm
 clear hsm
 have HTL := Lib.hid htl
 clear hG hT hgl htl
 go_enter Try.func11, Try.ntmps11
 try simp only [List.append_eq, List.cons_append, List.nil_append]
 go_upto_region 1 with fail
 obtain ⟨y0, hy0⟩ : ∃ y, y = (w.alloc (.cells #[.int .i64 N, .slice ga gl gc, .slice ta tl tc, .bool ff] 27)).alloc (.cells #[.int .i64 0, .slice none 0 0, .slice none 0 0, .bool false] 38) := ⟨_, rfl⟩
 have hb0 : Below w.heap.size w y0 := by rw [hy0]; exact below_step' (below_new _ _) (below_new _ _)
 have hx0 : BoxAt w.heap.size [.int .i64 N, .slice ga gl gc, .slice ta tl tc, .bool ff] y0 := by rw [hy0]; exact (boxAt_new w [.int .i64 N, .slice ga gl gc, .slice ta tl tc, .bool ff] _).below (below_new _ _)
 have hx1 : BoxAt (w.heap.size + 1) [.int .i64 0, .slice none 0 0, .slice none 0 0, .bool false] y0 := by
  have h := boxAt_new (w.alloc (.cells #[.int .i64 N, .slice ga gl gc, .slice ta tl tc, .bool ff] 27)) [.int .i64 0, .slice none 0 0, .slice none 0 0, .bool false] 38
  rw [size_alloc] at h
  rw [hy0]; exact h
 have ho1 : OpenRow y0 (w.heap.size + 1) 1 4 := by
  have h := heap_alloc_new (w.alloc (.cells #[.int .i64 N, .slice ga gl gc, .slice ta tl tc, .bool ff] 27)) (.cells #[.int .i64 0, .slice none 0 0, .slice none 0 0, .bool false] 38)
  rw [size_alloc] at h
  rw [hy0]; exact ⟨by decide, _, _, h, rfl⟩
 have Y0z : w.heap.size + 2 ≤ y0.heap.size := by rw [hy0]; simp
 have B0 := Lib.hid hb0
 have X0 := Lib.hid hx0
 have X1 := Lib.hid hx1
 have O1 := Lib.hid ho1
 rw [← hy0]
 obtain ⟨hw0, hhw⟩ : ∃ h, h = w.heap.size := ⟨_, rfl⟩
 rw [← hhw] at X0 X1 O1 Y0z ⊢
 have HW := Lib.hid hhw
 clear hy0 hb0 hx0 hx1 ho1 hhw
 have QS : Hid (∀ w', Below y0.heap.size y0 w' → w'.cell? ⟨hw0, 0, none⟩ = some (.int .i64 N) ∧ w'.cell? ⟨hw0, 1, none⟩ = some (.slice ga gl gc) ∧ w'.cell? ⟨hw0, 2, none⟩ = some (.slice ta tl tc) ∧ w'.cell? ⟨hw0, 3, none⟩ = some (.bool ff)) := Lib.hid (fun w' hb => ⟨X0.out.below hb 0 _ rfl, X0.out.below hb 1 _ rfl, X0.out.below hb 2 _ rfl, X0.out.below hb 3 _ rfl⟩)
 go_wp2_with fail
 refine wp_region_held_drew (S := (fun w' => w'.cell? ⟨hw0, 0, none⟩ = some (.int .i64 N) ∧ w'.cell? ⟨hw0, 1, none⟩ = some (.slice ga gl gc) ∧ w'.cell? ⟨hw0, 2, none⟩ = some (.slice ta tl tc) ∧ w'.cell? ⟨hw0, 3, none⟩ = some (.bool ff))) (by kernel_rfl) ?_ (fun hHeld => ?_)
 ·exact QS.out _ (below_drewN (Below.refl _ y0) 1)
 have BD := Lib.hid (show Below y0.heap.size y0 y0.drew from below_drewN (Below.refl _ y0) 1)
 obtain ⟨y1, hy1⟩ : ∃ y, y = y0.drew := ⟨_, rfl⟩
 rw [← hy1] at hHeld BD ⊢
 clear hy1
 refine tq 0 ?_
 refine tq 1 ?_
 refine tq 3 ?_
 refine tq 4 ?_
 refine tq 6 ?_
 refine tq 7 ?_
 refine rd 2 fun K hK => ?_
 go_simp
 refine (ref_any N _ L _ (HG.out.below (below_step' B0.out BD.out))).mono ?_
 rintro e w2 ⟨rfl, hb⟩
 simp only [gv]
 have B2 := Lib.hid (below_step' BD.out hb)
 clear hb
 go_wp2_with fail
 refine hK.out _ _ ?_ (fun hHeld => ?_)
 ·exact QS.out _ B2.out
 clear hK K
 try simp only [Act.put, List.getElem_toArray, List.getElem_cons_zero, List.getElem_cons_succ, List.setIfInBounds_toArray, List.set_cons_zero, List.set_cons_succ]
 refine rd 5 fun K hK => ?_
 go_simp
 refine (ref4_in M _ w _ HT.out (below_step' B0.out B2.out) SM.out).mono ?_
 rintro e w3 ⟨uT, rfl, hu, hb⟩
 obtain ⟨ua, uc, ee⟩ := slice_of hu.weak
 subst ee
 rw [← HTL.out] at hu ⊢
 have HU := Lib.hid hu
 have B3 := Lib.hid (below_step' B2.out hb)
 clear hu hb
 go_wp2_with fail
 refine hK.out _ _ ?_ (fun hHeld => ?_)
 ·exact QS.out _ B3.out
 clear hK K
 refine tq 8 ?_
 refine rd 9 fun K hK => ?_
 have hO := O1.out.same (SameOn.of_below (P := fun _ => True) B3.out) trivial (by omega)
 have f0 := hO.frozen 0
 have f1 := hO.frozen 1
 have f2 := hO.frozen 2
 have f3 := hO.frozen 3
 have hB := X1.out.below B3.out
 have k0 := hB 0 _ rfl
 have k1 := hB 1 _ rfl
 have k2 := hB 2 _ rfl
 have k3 := hB 3 _ rfl
 have hs9 := (X0.out.below B3.out)
 have HB := Lib.hid hB
 clear hO hB
 go_simp
 clear f0 f1 f2 f3 k0 k1 k2 k3
 obtain ⟨w9, hw9⟩ : ∃ x, x = (((w3.setCell ⟨hw0 + 1, 0, none⟩ (.int .i64 N)).setCell ⟨hw0 + 1, 1, none⟩ (.slice ga gl gc)).setCell ⟨hw0 + 1, 2, none⟩ (.slice ua tl uc)).setCell ⟨hw0 + 1, 3, none⟩ (.bool ff) := ⟨_, rfl⟩
 have h9 : BoxAt hw0 [.int .i64 N, .slice ga gl gc, .slice ta tl tc, .bool ff] w9 := by rw [hw9]; exact (hs9.set2 (by omega) 0 1 _ _).set2 (by omega) 2 3 _ _
 have hr9 : BoxAt (hw0 + 1) [.int .i64 N, (.slice ga gl gc), (.slice ua tl uc), .bool ff] w9 := by rw [hw9]; exact boxAt_set (j := 3) (u := .bool ff) (boxAt_set (j := 2) (u := (.slice ua tl uc)) (boxAt_set (j := 1) (u := (.slice ga gl gc)) (boxAt_set (j := 0) (u := .int .i64 N) HB.out)))
 have hb9 : Below w.heap.size w w9 := by
  rw [hw9]
  exact ((((below_step' B0.out B3.out).setCell (by rw [← HW.out]; show hw0 ≤ hw0 + 1; omega) _).setCell (by rw [← HW.out]; show hw0 ≤ hw0 + 1; omega) _).setCell (by rw [← HW.out]; show hw0 ≤ hw0 + 1; omega) _).setCell (by rw [← HW.out]; show hw0 ≤ hw0 + 1; omega) _
 have hu9 : Has w9 (.slice ua tl uc) (dTab M) := by
  rw [hw9]
  have hn : ∀ q : Nat, refP w w2 q → q ≠ hw0 + 1 := fun q h => by have h : q < w.heap.size ∨ w2.heap.size ≤ q := h; have := HW.out; have := B0.out.size; have := BD.out.size; have := B2.out.size; omega
  exact (HU.out.same (((((SameOn.refl _ w3).set ⟨hw0 + 1, 0, none⟩ (.int .i64 N) (fun h => hn _ h rfl)).set ⟨hw0 + 1, 1, none⟩ (.slice ga gl gc) (fun h => hn _ h rfl)).set ⟨hw0 + 1, 2, none⟩ (.slice ua tl uc) (fun h => hn _ h rfl)).set ⟨hw0 + 1, 3, none⟩ (.bool ff) (fun h => hn _ h rfl))).weak
 have H9 := Lib.hid h9
 have R0 := hr9 0 _ rfl
 have R1 := hr9 1 _ rfl
 have R2 := hr9 2 _ rfl
 have R3 := hr9 3 _ rfl
 have U9 := Lib.hid hu9
 have BB9 := Lib.hid hb9
 rw [← hw9]
 clear hw9 h9 hr9 hb9 hu9 hs9
 refine hK.out _ _ ?_ (fun hHeld => ?_)
 ·exact ⟨H9.out 0 _ rfl, H9.out 1 _ rfl, H9.out 2 _ rfl, H9.out 3 _ rfl⟩
 clear hK K
 try simp only [Act.put, List.getElem_toArray, List.getElem_cons_zero, List.getElem_cons_succ, List.setIfInBounds_toArray, List.set_cons_zero, List.set_cons_succ]
 refine wpAnyH_done (by kernel_rfl) ?_ _
 go_wp2_with fail
 refine bodyPost_ret (v := .agg #[.int .i64 N, (.slice ga gl gc), (.slice ua tl uc), .bool ff]) (by simp [results, Try.results11, go_sem, R0, R1, R2, R3]) rfl ?_
 exact ⟨_, rfl, U9.out, BB9.out⟩
theorem cut_at' (a : Option Addr) (cap : Nat) (L : Lks) (N : Int) (n m : Nat) (w : World) (hn : n = L.length) (hm : m = (L.take 40).length) (h : LinksAt w (.slice a n cap) L) :
  Calls Try.prog 25 #[gv N (.slice a n cap)] w fun e w' => e = .returned (gv N (.slice a m cap)) ∧ Below w.heap.size w w' := by
 subst hn hm
 exact cut_at a cap L N w h
set_option maxHeartbeats 8000000 in
set_option maxRecDepth 100000 in
theorem lcut_at (N : Int) (L : Lks) (M : Tab) (ff : Bool) (vG vT : Value) (w : World) (hG : LinksAt w vG L) (hT : Has w vT (dTab M)) :
  Calls Try.prog 8 #[.agg #[.int .i64 N, vG, vT, .bool ff]] w fun e w' => ∃ ga gc uT, vG = .slice ga L.length gc ∧ e = .returned (.agg #[.int .i64 N, .slice ga (L.take 40).length gc, uT, .bool ff]) ∧ Holds True (fresh w) w' uT (dTab (cutT M)) ∧ Below w.heap.size w w' := by
 obtain ⟨ga, gc, ee⟩ := slice_of (has_of_links hG)
 subst ee
 obtain ⟨ta, tc, ee⟩ := slice_of hT
 subst ee
 have HG := Lib.hid hG
 have HT := Lib.hid hT
 obtain ⟨gl, hgl⟩ : ∃ n, n = L.length := ⟨_, rfl⟩
 obtain ⟨tl, htl⟩ : ∃ n, n = M.length := ⟨_, rfl⟩
 rw [← hgl] at HG ⊢
 rw [← htl] at HT ⊢
 have GL := Lib.hid hgl
 obtain ⟨ml, hml⟩ : ∃ m, m = (L.take 40).length := ⟨_, rfl⟩
 have ML := Lib.hid hml
 clear hml
 have HTL := Lib.hid htl
 clear hG hT hgl htl
 go_enter Try.func8, Try.ntmps8
 try simp only [List.append_eq, List.cons_append, List.nil_append]
 go_upto_region 1 with fail
 obtain ⟨y0, hy0⟩ : ∃ y, y = (w.alloc (.cells #[.int .i64 N, .slice ga gl gc, .slice ta tl tc, .bool ff] 27)).alloc (.cells #[.int .i64 0, .slice none 0 0, .slice none 0 0, .bool false] 27) := ⟨_, rfl⟩
 have hb0 : Below w.heap.size w y0 := by rw [hy0]; exact below_step' (below_new _ _) (below_new _ _)
 have hx0 : BoxAt w.heap.size [.int .i64 N, .slice ga gl gc, .slice ta tl tc, .bool ff] y0 := by rw [hy0]; exact (boxAt_new w [.int .i64 N, .slice ga gl gc, .slice ta tl tc, .bool ff] _).below (below_new _ _)
 have hx1 : BoxAt (w.heap.size + 1) [.int .i64 0, .slice none 0 0, .slice none 0 0, .bool false] y0 := by
  have h := boxAt_new (w.alloc (.cells #[.int .i64 N, .slice ga gl gc, .slice ta tl tc, .bool ff] 27)) [.int .i64 0, .slice none 0 0, .slice none 0 0, .bool false] 27
  rw [size_alloc] at h
  rw [hy0]; exact h
 have ho1 : OpenRow y0 (w.heap.size + 1) 1 4 := by
  have h := heap_alloc_new (w.alloc (.cells #[.int .i64 N, .slice ga gl gc, .slice ta tl tc, .bool ff] 27)) (.cells #[.int .i64 0, .slice none 0 0, .slice none 0 0, .bool false] 27)
  rw [size_alloc] at h
  rw [hy0]; exact ⟨by decide, _, _, h, rfl⟩
 have Y0z : w.heap.size + 2 ≤ y0.heap.size := by rw [hy0]; simp
 have B0 := Lib.hid hb0
 have X0 := Lib.hid hx0
 have X1 := Lib.hid hx1
 have O1 := Lib.hid ho1
 rw [← hy0]
 obtain ⟨hw0, hhw⟩ : ∃ h, h = w.heap.size := ⟨_, rfl⟩
 rw [← hhw] at X0 X1 O1 Y0z ⊢
 have HW := Lib.hid hhw
 clear hy0 hb0 hx0 hx1 ho1 hhw
 have QS : Hid (∀ w', Below y0.heap.size y0 w' → w'.cell? ⟨hw0, 0, none⟩ = some (.int .i64 N) ∧ w'.cell? ⟨hw0, 1, none⟩ = some (.slice ga gl gc) ∧ w'.cell? ⟨hw0, 2, none⟩ = some (.slice ta tl tc) ∧ w'.cell? ⟨hw0, 3, none⟩ = some (.bool ff)) := Lib.hid (fun w' hb => ⟨X0.out.below hb 0 _ rfl, X0.out.below hb 1 _ rfl, X0.out.below hb 2 _ rfl, X0.out.below hb 3 _ rfl⟩)
 go_wp2_with fail
 refine wp_region_held_drew (S := (fun w' => w'.cell? ⟨hw0, 0, none⟩ = some (.int .i64 N) ∧ w'.cell? ⟨hw0, 1, none⟩ = some (.slice ga gl gc) ∧ w'.cell? ⟨hw0, 2, none⟩ = some (.slice ta tl tc) ∧ w'.cell? ⟨hw0, 3, none⟩ = some (.bool ff))) (by kernel_rfl) ?_ (fun hHeld => ?_)
 ·exact QS.out _ (below_drewN (Below.refl _ y0) 1)
 have BD := Lib.hid (show Below y0.heap.size y0 y0.drew from below_drewN (Below.refl _ y0) 1)
 obtain ⟨y1, hy1⟩ : ∃ y, y = y0.drew := ⟨_, rfl⟩
 rw [← hy1] at hHeld BD ⊢
 clear hy1
 refine tq 0 ?_
 refine tq 1 ?_
 refine tq 3 ?_
 refine tq 4 ?_
 refine tq 6 ?_
 refine tq 7 ?_
 refine rd 2 fun K hK => ?_
 go_simp
 refine (cut_at' ga gc L N gl ml _ GL.out ML.out (HG.out.below (below_step' B0.out BD.out))).mono ?_
 rintro e w2 ⟨rfl, hb⟩
 simp only [gv]
 have B2 := Lib.hid (below_step' BD.out hb)
 clear hb
 go_wp2_with fail
 refine hK.out _ _ ?_ (fun hHeld => ?_)
 ·exact QS.out _ B2.out
 clear hK K
 try simp only [Act.put, List.getElem_toArray, List.getElem_cons_zero, List.getElem_cons_succ, List.setIfInBounds_toArray, List.set_cons_zero, List.set_cons_succ]
 refine rd 5 fun K hK => ?_
 go_simp
 refine (cutT_at M _ _ (HT.out.later (below_step' B0.out B2.out))).mono ?_
 rintro e w3 ⟨uT, rfl, hu, hb⟩
 obtain ⟨ua, uc, ee⟩ := slice_of hu.weak
 subst ee
 obtain ⟨tl', htl'⟩ : ∃ n, n = (cutT M).length := ⟨_, rfl⟩
 rw [← htl'] at hu ⊢
 clear htl'
 have HU := Lib.hid hu
 have B3 := Lib.hid (below_step' B2.out hb)
 clear hu hb
 go_wp2_with fail
 refine hK.out _ _ ?_ (fun hHeld => ?_)
 ·exact QS.out _ B3.out
 clear hK K
 refine tq 8 ?_
 refine rd 9 fun K hK => ?_
 have hO := O1.out.same (SameOn.of_below (P := fun _ => True) B3.out) trivial (by omega)
 have f0 := hO.frozen 0
 have f1 := hO.frozen 1
 have f2 := hO.frozen 2
 have f3 := hO.frozen 3
 have hB := X1.out.below B3.out
 have k0 := hB 0 _ rfl
 have k1 := hB 1 _ rfl
 have k2 := hB 2 _ rfl
 have k3 := hB 3 _ rfl
 have hs9 := (X0.out.below B3.out)
 have HB := Lib.hid hB
 clear hO hB
 go_simp
 clear f0 f1 f2 f3 k0 k1 k2 k3
 obtain ⟨w9, hw9⟩ : ∃ x, x = (((w3.setCell ⟨hw0 + 1, 0, none⟩ (.int .i64 N)).setCell ⟨hw0 + 1, 1, none⟩ (.slice ga ml gc)).setCell ⟨hw0 + 1, 2, none⟩ (.slice ua tl' uc)).setCell ⟨hw0 + 1, 3, none⟩ (.bool ff) := ⟨_, rfl⟩
 have h9 : BoxAt hw0 [.int .i64 N, .slice ga gl gc, .slice ta tl tc, .bool ff] w9 := by rw [hw9]; exact (hs9.set2 (by omega) 0 1 _ _).set2 (by omega) 2 3 _ _
 have hr9 : BoxAt (hw0 + 1) [.int .i64 N, (.slice ga ml gc), (.slice ua tl' uc), .bool ff] w9 := by rw [hw9]; exact boxAt_set (j := 3) (u := .bool ff) (boxAt_set (j := 2) (u := (.slice ua tl' uc)) (boxAt_set (j := 1) (u := (.slice ga ml gc)) (boxAt_set (j := 0) (u := .int .i64 N) HB.out)))
 have hb9 : Below w.heap.size w w9 := by
  rw [hw9]
  exact ((((below_step' B0.out B3.out).setCell (by rw [← HW.out]; show hw0 ≤ hw0 + 1; omega) _).setCell (by rw [← HW.out]; show hw0 ≤ hw0 + 1; omega) _).setCell (by rw [← HW.out]; show hw0 ≤ hw0 + 1; omega) _).setCell (by rw [← HW.out]; show hw0 ≤ hw0 + 1; omega) _
 have hu9 : Holds True (fresh w) w9 (.slice ua tl' uc) (dTab (cutT M)) := by
  rw [hw9]
  have hn : ∀ q : Nat, fresh w2 q → q ≠ hw0 + 1 := fun q h => by have h : w2.heap.size ≤ q := h; have := HW.out; have := B0.out.size; have := BD.out.size; have := B2.out.size; omega
  exact (HU.out.same (((((SameOn.refl _ w3).set ⟨hw0 + 1, 0, none⟩ (.int .i64 N) (fun h => hn _ h rfl)).set ⟨hw0 + 1, 1, none⟩ (.slice ga ml gc) (fun h => hn _ h rfl)).set ⟨hw0 + 1, 2, none⟩ (.slice ua tl' uc) (fun h => hn _ h rfl)).set ⟨hw0 + 1, 3, none⟩ (.bool ff) (fun h => hn _ h rfl))).wide (P' := fresh w) (fun q _ h => by have h : w2.heap.size ≤ q := h; show w.heap.size ≤ q; have := B0.out.size; have := BD.out.size; have := B2.out.size; omega)
 have H9 := Lib.hid h9
 have R0 := hr9 0 _ rfl
 have R1 := hr9 1 _ rfl
 have R2 := hr9 2 _ rfl
 have R3 := hr9 3 _ rfl
 have U9 := Lib.hid hu9
 have BB9 := Lib.hid hb9
 rw [← hw9]
 clear hw9 h9 hr9 hb9 hu9 hs9
 refine hK.out _ _ ?_ (fun hHeld => ?_)
 ·exact ⟨H9.out 0 _ rfl, H9.out 1 _ rfl, H9.out 2 _ rfl, H9.out 3 _ rfl⟩
 clear hK K
 try simp only [Act.put, List.getElem_toArray, List.getElem_cons_zero, List.getElem_cons_succ, List.setIfInBounds_toArray, List.set_cons_zero, List.set_cons_succ]
 refine wpAnyH_done (by kernel_rfl) ?_ _
 go_wp2_with fail
 refine bodyPost_ret (v := .agg #[.int .i64 N, (.slice ga ml gc), (.slice ua tl' uc), .bool ff]) (by simp [results, Try.results8, go_sem, R0, R1, R2, R3]) rfl ?_
 exact ⟨ga, gc, _, by rw [GL.out], by rw [← ML.out], U9.out, BB9.out⟩
end Go.Proofs.Ytiblcpkejhiehaa

namespace Go.Proofs.Ytiblcpkejhiehaa
open Go.RowKit Go.PlainAid Go.ChangeShapes Go.WideShapes Go.Lib Go.Deep
section
variable {H : Type} {enc : TypeId × Value → H} {W : World} {n : Nat} {y : DataW H × List MemPlace}
set_option maxRecDepth 100000
theorem msgs_of_trod {v : Value} (hd : DataW.trod enc Try.prog W 0 (fun _ => true) true n 51 [v] = some y) : ∃ xs : Lks, Has W v (dLinks xs) :=
 row_of_trod Try.underlying51 (by kernel_rfl) (by omega) (fun m cs y h => by
  obtain ⟨y0, y1, k, -, hl, h0, h1⟩ := trod_struct2 Try.underlying63 h
  rw [show Try.prog.cellsOf 63 = 2 by kernel_rfl] at hl
  obtain ⟨a, ha, -, -⟩ := DataW.trod_int Try.underlying3 h0
  obtain ⟨b, hb, -, -⟩ := DataW.trod_int Try.underlying3 h1
  match cs, hl with
  | [c0, c1], _ =>
   rw [show Try.prog.cellsOf 3 = 1 by kernel_rfl] at ha hb
   simp at ha hb
   subst ha hb
   exact ⟨(a, b), .mk (has_int _ _ _ _) (.mk (has_int _ _ _ _) (hasL_nil _ _ _)), rfl⟩) hd
theorem lls_of_trod {v : Value} (hd : DataW.trod enc Try.prog W 0 (fun _ => true) true n 29 [v] = some y) : ∃ xs : List Lks, Has W v (dLls xs) :=
 row_of_trod Try.underlying29 (by kernel_rfl) (by omega) (fun m cs y h => by
  have hc : ∃ c0, cs = [c0] := by
   rcases open_slice Try.underlying51 h with ⟨h, _⟩ | ⟨a, len, cap, m, n', _, _, h, _⟩
   ·exact ⟨_, h⟩
   ·exact ⟨_, h⟩
  obtain ⟨c0, rfl⟩ := hc
  obtain ⟨xs, hx⟩ := msgs_of_trod h
  exact ⟨xs, .mk hx (hasL_nil _ _ _), rfl⟩) hd
theorem steps_of_trod {v : Value} (hd : DataW.trod enc Try.prog W 0 (fun _ => true) true n 44 [v] = some y) : ∃ xs : List Sp, Has W v (dSteps xs) :=
 row_of_trod Try.underlying44 (by kernel_rfl) (by omega) (fun m cs y h => by
  obtain ⟨xs, k, -, -, hl, hlen, hf⟩ := DataW.trod_struct Try.underlying50 h
  rw [show Try.prog.cellsOf 50 = 5 by kernel_rfl] at hl
  match cs, hl, xs, hlen with
  | [c0, c1, c2, c3, c4], _, [x0, x1, x2, x3, x4], _ =>
   have e1 : Try.prog.cellsOf 3 = 1 := by kernel_rfl
   have h0 := hf 0 _ rfl
   have h1 := hf 1 _ rfl
   have h2 := hf 2 _ rfl
   have h3 := hf 3 _ rfl
   have h4 := hf 4 _ rfl
   simp [e1] at h0 h1 h2 h3 h4
   obtain ⟨a0, ha0, -, -⟩ := DataW.trod_int Try.underlying3 h0
   obtain ⟨a1, ha1, -, -⟩ := DataW.trod_int Try.underlying3 h1
   obtain ⟨a2, ha2, -, -⟩ := DataW.trod_int Try.underlying3 h2
   obtain ⟨a3, ha3, -, -⟩ := DataW.trod_int Try.underlying3 h3
   obtain ⟨a4, ha4, -, -⟩ := DataW.trod_int Try.underlying3 h4
   simp at ha0 ha1 ha2 ha3 ha4
   subst ha0 ha1 ha2 ha3 ha4
   exact ⟨⟨a0, a1, a2, a3, a4⟩, .mk (has_int _ _ _ _) (.mk (has_int _ _ _ _) (.mk (has_int _ _ _ _) (.mk (has_int _ _ _ _) (.mk (has_int _ _ _ _) (hasL_nil _ _ _))))), rfl⟩) hd
end
set_option maxRecDepth 100000 in
theorem open_conf {H : Type} {enc : TypeId × Value → H} {W : World} {b0 : Nat} {v : Value} {d : DataW H} {ps : List MemPlace} (hval : Value.okWide Try.prog W .any b0 31 v) (hd : DataW.Trod enc Try.prog W 0 (fun _ => true) true 31 v d ps) :
  ∃ (v1 v2 v3 : Value) (c : Cf), v = .agg #[v1, v2, v3] ∧ HasL W [v1, v2, v3] c.d := by
 obtain ⟨v0, v1, v2, y0, y1, y2, n, rfl, -, -, t0, t1, t2⟩ := Go.Joins.open_agg3 Try.underlying31 (by kernel_rfl) (by kernel_rfl) hval hd
 obtain ⟨a, ha⟩ := ints_has_trod t0
 obtain ⟨b, hb⟩ := lls_of_trod t1
 obtain ⟨c, hc⟩ := ints_has_trod t2
 exact ⟨v0, v1, v2, ⟨a, b, c⟩, rfl, has_cf ha hb hc⟩
set_option maxRecDepth 100000 in
theorem open_app {H : Type} {enc : TypeId × Value → H} {W : World} {b0 : Nat} {v : Value} {d : DataW H} {ps : List MemPlace} (hval : Value.okWide Try.prog W .any b0 27 v) (hd : DataW.Trod enc Try.prog W 0 (fun _ => true) true 27 v d ps) :
  ∃ (N : Int) (u : Value) (L : Lks) (vT : Value) (M : Tab) (ff : Bool), v = .agg #[.int .i64 N, u, vT, .bool ff] ∧ LinksAt W u L ∧ (∀ p ∈ L, wfp p) ∧ Has W vT (dTab M) := by
 obtain ⟨cs, rfl, hsz⟩ := okWide_struct Try.underlying27 hval
 obtain ⟨c0, c1, c2, c3, rfl⟩ := Go.Joins.array4 (hsz.trans (by kernel_rfl))
 obtain ⟨fuel, hf⟩ := hd
 obtain ⟨y0, y1, y2, n, -, hl, h0, h1, h2⟩ := Go.Deep.trod_struct3 Try.underlying27 hf
 rw [show Try.prog.cellsOf 24 = 2 by kernel_rfl] at h0
 rw [show Try.prog.cellsOf 25 = 1 by kernel_rfl] at h1
 rw [show Try.prog.cellsOf 4 = 1 by kernel_rfl] at h2
 simp [Value.cells] at h0 h1 h2
 obtain ⟨z0, z1, k, -, hlg, g0, g1⟩ := trod_struct2 Try.underlying24 h0
 rw [show Try.prog.cellsOf 3 = 1 by kernel_rfl] at g0
 rw [show Try.prog.cellsOf 22 = 1 by kernel_rfl] at g1
 simp at g0 g1
 obtain ⟨a, ha, -, -⟩ := DataW.trod_int Try.underlying3 g0
 obtain ⟨L, hL, hW⟩ := links_of_trod g1
 obtain ⟨M, hM⟩ := tab_of_trod h1
 obtain ⟨ff, hff, -⟩ := DataW.trod_bool Try.underlying4 h2
 simp at ha hff
 subst ha hff
 exact ⟨a, c1, L, c2, M, ff, rfl, hL, hW, hM⟩
end Go.Proofs.Ytiblcpkejhiehaa

set_option linter.unusedSimpArgs false
set_option linter.unusedVariables false
namespace Go.Proofs.Ytiblcpkejhiehaa
open Go.RowKit Go.PlainAid
set_option maxHeartbeats 8000000 in
set_option maxRecDepth 100000 in
theorem rright5_at (A : Ap) (c : Cf) (r : Bool) (vG vT v1 v2 v3 : Value) (w : World) (hG : LinksAt w vG A.l) (hT : Has w vT (dTab A.t)) (hC : HasL w [v1, v2, v3] c.d) (hln : A.l.length ≤ 1000000) (hsm : SmallTab A.t) (hsc : SmallCf c) (hr : r = true ↔ CfOK A c) :
  Calls Try.prog 10 #[.agg #[.int .i64 A.n, vG, vT, .bool A.ff], .agg #[v1, v2, v3]] w fun e w' => e = .returned (.bool r) ∧ Below w.heap.size w w' := by
 obtain ⟨ga, gc, ee⟩ := slice_of (has_of_links hG)
 subst ee
 obtain ⟨ta, tc, ee⟩ := slice_of hT
 subst ee
 obtain ⟨c1, c2, c3⟩ := cf_has hC
 obtain ⟨a1, e1, ee⟩ := slice_of c1
 subst ee
 obtain ⟨a2, e2, ee⟩ := slice_of c2
 subst ee
 obtain ⟨a3, e3, ee⟩ := slice_of c3
 subst ee
 obtain ⟨tl, htl⟩ : ∃ n, n = A.t.length := ⟨_, rfl⟩
 obtain ⟨gl, hgl⟩ : ∃ n, n = A.l.length := ⟨_, rfl⟩
 obtain ⟨n1, hn1⟩ : ∃ n, n = c.states.length := ⟨_, rfl⟩
 obtain ⟨n2, hn2⟩ : ∃ n, n = c.links.length := ⟨_, rfl⟩
 obtain ⟨n3, hn3⟩ : ∃ n, n = c.sent.length := ⟨_, rfl⟩
 rw [← hgl] at hG ⊢
 rw [← htl] at hT ⊢
 rw [← hn1] at c1 ⊢
 rw [← hn2] at c2 ⊢
 rw [← hn3] at c3 ⊢
 have HG := Lib.hid hG
 have HT := Lib.hid hT
 have C1 := Lib.hid c1
 have C2 := Lib.hid c2
 have C3 := Lib.hid c3
 have HR := Lib.hid hr
 have SMT := Lib.hid hsm
 have SMC := Lib.hid hsc
 have N1 := Lib.hid hn1
 have N2 := Lib.hid hn2
 have N3 := Lib.hid hn3
 have GL := Lib.hid hgl
 have TL := Lib.hid htl
 obtain ⟨N, hN⟩ : ∃ N, N = A.n := ⟨_, rfl⟩
 rw [← hN]
 have NN := Lib.hid hN
 have hl1 : n1 ≤ 1000000 := by rw [hn1]; exact hsc.1
 have hl3 : n3 ≤ 1000000 := by rw [hn3]; exact hsc.2.2.1
 obtain ⟨tt, htt⟩ := bool_some (TabOK A.n A.l A.t)
 have TT := Lib.hid htt
 clear hG hT hC c1 c2 c3 hr hsm hsc hn1 hn2 hn3 hgl htl hN htt
 go_enter Try.func10, Try.ntmps10
 try simp only [List.append_eq, List.cons_append, List.nil_append]
 go_upto_region 1 with fail
 obtain ⟨y0, hy0⟩ : ∃ y, y = (w.alloc (.cells #[.int .i64 N, .slice ga gl gc, .slice ta tl tc, .bool A.ff] 38)).alloc (.cells #[.slice a1 n1 e1, .slice a2 n2 e2, .slice a3 n3 e3] 40) := ⟨_, rfl⟩
 have hb0 : Below w.heap.size w y0 := by rw [hy0]; exact below_step' (below_new _ _) (below_new _ _)
 have hx0 : BoxAt w.heap.size [.int .i64 N, .slice ga gl gc, .slice ta tl tc, .bool A.ff] y0 := by rw [hy0]; exact (boxAt_new w [.int .i64 N, .slice ga gl gc, .slice ta tl tc, .bool A.ff] _).below (below_new _ _)
 have hx1 : BoxAt (w.heap.size + 1) [.slice a1 n1 e1, .slice a2 n2 e2, .slice a3 n3 e3] y0 := by
  have h := boxAt_new (w.alloc (.cells #[.int .i64 N, .slice ga gl gc, .slice ta tl tc, .bool A.ff] 38)) [.slice a1 n1 e1, .slice a2 n2 e2, .slice a3 n3 e3] 40
  rw [size_alloc] at h
  rw [hy0]; exact h
 have B0 := Lib.hid hb0
 have K0 := Lib.hid hx0
 have K1 := Lib.hid hx1
 rw [← hy0]
 obtain ⟨bA, hbA⟩ : ∃ b, b = w.heap.size := ⟨_, rfl⟩
 obtain ⟨bC, hbC⟩ : ∃ b, b = w.heap.size + 1 := ⟨_, rfl⟩
 rw [← hbC] at K1 ⊢
 rw [← hbA] at K0
 have HBA := Lib.hid hbA
 clear hy0 hb0 hx0 hx1 hbC
 rw [← hbA]
 clear hbA
 have p0 := K0.out 0 _ rfl
 have p1 := K0.out 1 _ rfl
 have p2 := K0.out 2 _ rfl
 go_wp2_with fail
 refine (rright4_at N _ A.l A.t _ tt _ (HT.out.later B0.out) (HG.out.below B0.out) hln SMT.out (by rw [NN.out]; exact TT.out)).mono ?_
 rintro e w1 ⟨rfl, hb⟩
 have B1 := Lib.hid hb
 have BW1 := Lib.hid (below_step' B0.out hb)
 clear hb p0 p1 p2
 have p0 := K0.out.below B1.out 0 _ rfl
 have p1 := K0.out.below B1.out 1 _ rfl
 have q0 := K1.out.below B1.out 0 _ rfl
 have q1 := K1.out.below B1.out 1 _ rfl
 have q2 := K1.out.below B1.out 2 _ rfl
 cases tt with
 | false =>
  obtain rfl := not_ok HR.out (fun h => by have := TT.out.2 h.1; cases this)
  go_wp2_with fail
  go_ret
  exact ⟨rfl, BW1.out⟩
 | true =>
  have hTab : TabOK A.n A.l A.t := TT.out.1 rfl
  have HTab := Lib.hid hTab
  clear hTab
  by_cases g1 : (n1 : Int) = N
  ·have g1' : ((n1 : Int) != N) = false := by simpa using g1
   by_cases g2 : n2 = gl
   ·have g2' : ((n2 : Int) != (gl : Int)) = false := by simp; omega
    by_cases g3 : n3 = gl
    ·have g3' : ((n3 : Int) != (gl : Int)) = false := by simp; omega
     have G1 := Lib.hid g1
     have G2 := Lib.hid g2
     have G3 := Lib.hid g3
     have hnt : n1 = tl := by have := HTab.out.2.1; have := NN.out; have := TL.out; omega
     have HNT := Lib.hid hnt
     clear g1 g2 g3 hnt
     go_wp2_with fail
     clear p0 p1 q0 q1 q2
     obtain ⟨y1, hy1⟩ : ∃ y, y = w1 := ⟨_, rfl⟩
     rw [← hy1] at B1 BW1 ⊢
     clear hy1
     go_loopw [5] (fun i wr => ∃ j : Nat, i = .int .i64 j ∧ j ≤ n1 ∧ (∀ (n : Nat) (s : Int) (x : Nd), n < j → c.states[n]? = some s → A.t[n]? = some x → HasS x.states s) ∧ Below y0.heap.size y0 wr) (fun i _ => n1 - (intOf i).toNat)
     case atStart => exact ⟨0, rfl, by omega, fun n s x h => by omega, B1.out⟩
     case round =>
      obtain ⟨j, rfl, hj, hok, hb⟩ := hrel
      have BW := Lib.hid hb
      have OKS := Lib.hid hok
      have q0 := K1.out.below hb 0 _ rfl
      by_cases hlt : j < n1
      ·have hlt' : (j : Int) < n1 := by omega
       obtain ⟨s, hs⟩ := some_of_lt (l := c.states) (i := j) (by rw [← N1.out]; exact hlt)
       obtain ⟨x, hx⟩ := some_of_lt (l := A.t) (i := j) (by rw [← TL.out, ← HNT.out]; exact hlt)
       obtain ⟨sb, so, e, x1⟩ := num_at (C1.out.later (below_step' B0.out hb)) hs
       subst e
       obtain ⟨tb, tqo, tcap, vs, e, _, _, _, y1', hvs⟩ := nd_cells (HT.out.later (below_step' B0.out hb)) hx
       obtain ⟨va, vc, e2⟩ := slice_of hvs
       subst e2
       simp only [Value.slice.injEq] at e
       obtain ⟨e4, e5, e6⟩ := e
       clear e5 e6
       subst e4
       obtain ⟨xl, hxl⟩ : ∃ n, n = x.states.length := ⟨_, rfl⟩
       rw [← hxl] at y1'
       have XL := Lib.hid hxl
       have p2 := K0.out.below hb 2 _ rfl
       have htl2 : j < tl := by rw [← HNT.out]; exact hlt
       have htl3 : (j : Int) < tl := by omega
       have HS := Lib.hid hs
       have HX := Lib.hid hx
       clear hs hx hok hb hvs hxl
       by_cases h0 : s < 0
       ·have h0' : decide (s < 0) = true := by simpa using h0
        obtain rfl := not_ok HR.out (fun h => by have := (h.2.st j s x HS.out HX.out).1; omega)
        go_wp2_with fail
        go_quiet (fail)
        have BQ := Lib.hid (below_step' BW.out (below_drewN (Below.refl _ wr) nq))
        go_wp2_with fail
        go_ret
        exact ⟨rfl, below_step' B0.out BQ.out⟩
       ·have h0' : decide (s < 0) = false := by simpa using h0
        by_cases h1 : (xl : Int) ≤ s
        ·have h1' : decide ((xl : Int) ≤ s) = true := by simpa using h1
         obtain rfl := not_ok HR.out (fun h => by have h2 := (h.2.st j s x HS.out HX.out).2; have h2 : s < (x.states.length : Int) := h2; have := XL.out; omega)
         go_wp2_with fail
         go_quiet (fail)
         have BQ := Lib.hid (below_step' BW.out (below_drewN (Below.refl _ wr) nq))
         go_wp2_with fail
         go_ret
         exact ⟨rfl, below_step' B0.out BQ.out⟩
        ·have h1' : decide ((xl : Int) ≤ s) = false := by simpa using h1
         have HH : Hid (HasS x.states s) := Lib.hid ⟨by omega, by have := XL.out; show s < (x.states.length : Int); omega⟩
         go_wp2_with fail
         go_quiet (fail)
         have BQ := Lib.hid (below_step' BW.out (below_drewN (Below.refl _ wr) nq))
         go_wp2_with fail
         go_roundw
         case rel => exact ⟨j + 1, by go_num, by omega, fun n s' x' hn hs' hx' => by
          by_cases e : n = j
          ·subst e
           have a1 := HS.out
           have a2 := HX.out
           rw [hs'] at a1
           rw [hx'] at a2
           cases a1
           cases a2
           exact HH.out
          ·exact OKS.out n s' x' (by omega) hs' hx', BQ.out⟩
         case measure => simp [intOf]; omega
      ·obtain rfl : j = n1 := by omega
       have hj3 : ¬ (j : Int) < j := by omega
       obtain ⟨y2, hy2⟩ : ∃ y, y = wr := ⟨_, rfl⟩
       subst hy2
       clear hok hb
       go_wp2_with fail
       clear q0
       go_loopw [6] (fun i wr => ∃ k : Nat, i = .int .i64 k ∧ k ≤ n3 ∧ (∀ (n : Nat) (q : Int) (m : Lks), n < k → c.sent[n]? = some q → c.links[n]? = some m → LinkOK q m) ∧ Below y0.heap.size y0 wr) (fun i _ => n3 - (intOf i).toNat)
       case atStart => exact ⟨0, rfl, by omega, fun n s x h => by omega, BW.out⟩
       case round =>
        obtain ⟨k, rfl, hk, hok, hb⟩ := hrel
        have BX := Lib.hid hb
        have OKM := Lib.hid hok
        have q1 := K1.out.below hb 1 _ rfl
        by_cases hlt2 : k < n3
        ·have hlt3 : (k : Int) < n3 := by omega
         obtain ⟨q, hq⟩ := some_of_lt (l := c.sent) (i := k) (by rw [← N3.out]; exact hlt2)
         obtain ⟨m, hm⟩ := some_of_lt (l := c.links) (i := k) (by rw [← N2.out, G2.out, ← G3.out]; exact hlt2)
         obtain ⟨qb, qo, e, x1⟩ := num_at (C3.out.later (below_step' B0.out hb)) hq
         subst e
         obtain ⟨lb, lo, ma, mc, e, _, e9, y1', hmm⟩ := lls_at (C2.out.later (below_step' B0.out hb)) hm
         clear e9
         subst e
         obtain ⟨ml, hml⟩ : ∃ n, n = m.length := ⟨_, rfl⟩
         rw [← hml] at y1' hmm
         have ML := Lib.hid hml
         have hm6 : ml ≤ 1000000 := by rw [hml]; exact SMC.out.2.2.2 m (List.mem_of_getElem? hm)
         have q2 := K1.out.below hb 2 _ rfl
         have hk2 : k < n2 := by rw [G2.out, ← G3.out]; exact hlt2
         have hk3 : (k : Int) < n2 := by omega
         have HQ := Lib.hid hq
         have HM := Lib.hid hm
         have HMM := Lib.hid hmm
         have HY1 := Lib.hid y1'
         have HX1 := Lib.hid x1
         obtain ⟨rr, hrr⟩ := bool_some (MsgsOK 0 q m)
         have RR := Lib.hid hrr
         clear hq hm hok hb hmm hrr hml
         by_cases h0 : q < 0
         ·have h0' : decide (q < 0) = true := by simpa using h0
          obtain rfl := not_ok HR.out (fun h => by have := (h.2.ms k q m HQ.out HM.out).1; omega)
          go_wp2_with fail
          go_ret
          exact ⟨rfl, below_step' B0.out BX.out⟩
         ·have h0' : decide (q < 0) = false := by simpa using h0
          by_cases h1 : 500 < q
          ·have h1' : decide (500 < q) = true := by simpa using h1
           obtain rfl := not_ok HR.out (fun h => by have := (h.2.ms k q m HQ.out HM.out).2.1; omega)
           go_wp2_with fail
           go_ret
           exact ⟨rfl, below_step' B0.out BX.out⟩
          ·have h1' : decide (500 < q) = false := by simpa using h1
           have HQ5 : Hid (0 ≤ q ∧ q ≤ 500) := Lib.hid ⟨by omega, by omega⟩
           go_wp2_with fail
           obtain ⟨yk, hyk⟩ : ∃ y, y = wr := ⟨_, rfl⟩
           rw [← hyk] at BX HY1 HX1 HMM ⊢
           clear hyk x1 y1' q1 q2
           go_loopw [7, 8] (fun t i wr => ∃ (last : Int) (j : Nat), t = .int .i64 last ∧ i = .int .i64 j ∧ j ≤ ml ∧ (rr = true ↔ MsgsOK last q (m.drop j)) ∧ Below yk.heap.size yk wr) (fun _ i _ => ml - (intOf i).toNat)
           case atStart => exact ⟨0, 0, rfl, rfl, by omega, RR.out, Below.refl _ _⟩
           case round =>
            obtain ⟨last, j, rfl, rfl, hj, hok, hb⟩ := hrel
            have BM := Lib.hid hb
            have BX2 := Lib.hid (below_step' BX.out hb)
            have q1 := K1.out.below BX2.out 1 _ rfl
            have z1 := (hb.cell (World.block_lt_of_cell? yk _ HY1.out)).trans HY1.out
            by_cases hjl : j < ml
            ·have hjl' : (j : Int) < ml := by omega
             obtain ⟨⟨s, l⟩, hx⟩ := some_of_lt (l := m) (i := j) (by rw [← ML.out]; exact hjl)
             obtain ⟨b, o, e, x1, x2⟩ := msg_at (HMM.out.later hb) hx
             subst e
             simp only at x1 x2
             rw [drop_of hx] at hok
             have OK := Lib.hid hok
             clear hok hx hb
             go_upto_region 18 with fail
             obtain ⟨y9, hy9⟩ : ∃ y, y = wr.alloc (.cells #[.int .i64 s, .int .i64 l] 63) := ⟨_, rfl⟩
             have hb9 : Below wr.heap.size wr y9 := by rw [hy9]; exact below_new _ _
             have u0 : y9.cell? ⟨wr.heap.size, 0, none⟩ = some (.int .i64 s) := by rw [hy9]; exact World.cell?_alloc_at _ _ _ _ rfl
             have u1 : y9.cell? ⟨wr.heap.size, 1, none⟩ = some (.int .i64 l) := by rw [hy9]; exact World.cell?_alloc_at _ _ _ _ rfl
             rw [← hy9]
             obtain ⟨mb, hmb⟩ : ∃ b, b = wr.heap.size := ⟨_, rfl⟩
             rw [← hmb] at u0 u1 ⊢
             have q2 := K1.out.below (below_step' BX2.out hb9) 2 _ rfl
             have s1 := ((below_step' BM.out hb9).cell (World.block_lt_of_cell? yk _ HX1.out)).trans HX1.out
             have BM9 := Lib.hid (below_step' BM.out hb9)
             have BX9 := Lib.hid (below_step' BX2.out hb9)
             clear hy9 hb9 hmb q1 z1 x1 x2
             by_cases g1 : s ≤ last
             ·have hrf : rr = false := no_of OK.out (fun h => by have := h.1; omega)
              have g1' : decide (s ≤ last) = true := by simpa using g1
              obtain rfl := not_ok HR.out (fun h => by have := RR.out.2 (h.2.ms k q m HQ.out HM.out).2.2; rw [hrf] at this; cases this)
              clear hrf
              go_quiet (fail)
              have BQ := Lib.hid (below_step' BX9.out (below_drewN (Below.refl _ y9) nq))
              go_wp2_with fail
              go_ret
              exact ⟨rfl, below_step' B0.out BQ.out⟩
             ·have g1' : decide (s ≤ last) = false := by simpa using g1
              have G1 := Lib.hid g1
              clear g1
              by_cases g2 : q < s
              ·have hrf : rr = false := no_of OK.out (fun h => by have := h.2.1; have : s ≤ q := this; omega)
               have g2' : decide (q < s) = true := by simpa using g2
               obtain rfl := not_ok HR.out (fun h => by have := RR.out.2 (h.2.ms k q m HQ.out HM.out).2.2; rw [hrf] at this; cases this)
               clear hrf
               go_quiet (fail)
               have BQ := Lib.hid (below_step' BX9.out (below_drewN (Below.refl _ y9) nq))
               go_wp2_with fail
               go_ret
               exact ⟨rfl, below_step' B0.out BQ.out⟩
              ·have g2' : decide (q < s) = false := by simpa using g2
               have G2 := Lib.hid g2
               clear g2
               by_cases g3 : l < 0
               ·have hrf : rr = false := no_of OK.out (fun h => by have := h.2.2.1; have : 0 ≤ l := this; omega)
                have g3' : decide (l < 0) = true := by simpa using g3
                obtain rfl := not_ok HR.out (fun h => by have := RR.out.2 (h.2.ms k q m HQ.out HM.out).2.2; rw [hrf] at this; cases this)
                clear hrf
                go_quiet (fail)
                have BQ := Lib.hid (below_step' BX9.out (below_drewN (Below.refl _ y9) nq))
                go_wp2_with fail
                go_ret
                exact ⟨rfl, below_step' B0.out BQ.out⟩
               ·have g3' : decide (l < 0) = false := by simpa using g3
                have G3 := Lib.hid g3
                clear g3
                by_cases g4 : 3 < l
                ·have hrf : rr = false := no_of OK.out (fun h => by have := h.2.2.2.1; have : l < 4 := this; omega)
                 have g4' : decide (3 < l) = true := by simpa using g4
                 obtain rfl := not_ok HR.out (fun h => by have := RR.out.2 (h.2.ms k q m HQ.out HM.out).2.2; rw [hrf] at this; cases this)
                 clear hrf
                 go_quiet (fail)
                 have BQ := Lib.hid (below_step' BX9.out (below_drewN (Below.refl _ y9) nq))
                 go_wp2_with fail
                 go_ret
                 exact ⟨rfl, below_step' B0.out BQ.out⟩
                ·have g4' : decide (3 < l) = false := by simpa using g4
                 have G4 := Lib.hid g4
                 clear g4
                 go_quiet (fail)
                 have BQ := Lib.hid (below_step' BM9.out (below_drewN (Below.refl _ y9) nq))
                 go_wp2_with fail
                 go_roundw
                 case rel => exact ⟨s, j + 1, rfl, by go_num, by omega, OK.out.trans ⟨fun h => h.2.2.2.2, fun h => ⟨by have := G1.out; show last < s; omega, by have := G2.out; show s ≤ q; omega, by have := G3.out; show 0 ≤ l; omega, by have := G4.out; show l < 4; omega, h⟩⟩, BQ.out⟩
                 case measure => simp [intOf]; omega
            ·obtain rfl : ml = j := by omega
             have hj9 : ¬ (ml : Int) < ml := by omega
             have hrt : rr = true := hok.2 (by rw [List.drop_of_length_le (by rw [ML.out]; exact Nat.le_refl _)]; trivial)
             have HH : Hid (LinkOK q m) := Lib.hid ⟨HQ5.out.1, HQ5.out.2, RR.out.1 hrt⟩
             clear hok hrt hb
             go_wp2_with fail
             go_roundw
             case rel => exact ⟨k + 1, by go_num, by omega, fun n q' m' hn hq' hm' => by
              by_cases e : n = k
              ·subst e
               have a1 := HQ.out
               have a2 := HM.out
               rw [hq'] at a1
               rw [hm'] at a2
               cases a1
               cases a2
               exact HH.out
              ·exact OKM.out n q' m' (by omega) hq' hm', BX2.out⟩
             case measure => simp [intOf]; omega
        ·obtain rfl : k = n3 := by omega
         have hk3 : ¬ (k : Int) < k := by omega
         have hrt : r = true := HR.out.2 ⟨HTab.out, ⟨by rw [← N1.out, ← NN.out]; exact G1.out, by rw [← N2.out, ← GL.out]; exact G2.out, by rw [← N3.out, ← GL.out]; exact G3.out, fun n s x hs hx => OKS.out n s x (by have := lt_of_some hs; have := N1.out; omega) hs hx, fun n q m hq hm => OKM.out n q m (by have := lt_of_some hq; have := N3.out; omega) hq hm⟩⟩
         subst hrt
         have hn2 : n2 = k := by rw [G2.out, ← G3.out]
         have hk4 : ¬ (k : Int) < n2 := by omega
         clear hok hb
         go_wp2_with fail
         go_ret
         exact ⟨rfl, below_step' B0.out BX.out⟩
    ·have g3' : ((n3 : Int) != (gl : Int)) = true := by simp; omega
     obtain rfl := not_ok HR.out (fun h => g3 (by rw [N3.out, GL.out]; exact h.2.sent))
     clear g3
     go_wp2_with fail
     go_ret
     exact ⟨rfl, BW1.out⟩
   ·have g2' : ((n2 : Int) != (gl : Int)) = true := by simp; omega
    obtain rfl := not_ok HR.out (fun h => g2 (by rw [N2.out, GL.out]; exact h.2.links))
    clear g2
    go_wp2_with fail
    go_ret
    exact ⟨rfl, BW1.out⟩
  ·have g1' : ((n1 : Int) != N) = true := by simpa using g1
   obtain rfl := not_ok HR.out (fun h => g1 (by rw [N1.out, NN.out]; exact h.2.states))
   clear g1
   go_wp2_with fail
   go_ret
   exact ⟨rfl, BW1.out⟩
end Go.Proofs.Ytiblcpkejhiehaa

