/- Texts put together. -/
import Derived.Test.YtennbiajnkobnaaQ37
import Derived.Test.YtennbiajnkobnaaQ38
import Derived.Test.YtennbiajnkobnaaQ40
import Derived.Test.YtennbiajnkobnaaQ41
import Derived.Test.YtennbiajnkobnaaQ42
import Derived.Test.YtennbiajnkobnaaQ43
set_option linter.unusedSimpArgs false
set_option linter.unusedVariables false
namespace Go.Proofs.Ytennbiajnkobnaa
open Go.RowKit Go.PlainAid
set_option maxHeartbeats 8000000 in
set_option maxRecDepth 100000 in
theorem fixed5_any (w : World) : Calls Try.prog 12 #[] w fun e w' => e = .returned (.bool true) ∧ Below w.heap.size w w' := by
 go_enter Try.func12, Try.ntmps12
 try simp only [List.append_eq, List.cons_append, List.nil_append]
 go_wp2_with fail
 refine (two5_at _).mono ?_
 rintro e w1 ⟨ga, gc, ta, tc, rfl, hL, hT, hb⟩
 go_upto_region 4 with fail
 obtain ⟨y1, hy⟩ : ∃ y, y = (w1.alloc (.cells #[.int .i64 2, .slice ga 2 gc, .slice ta 2 tc, .bool false] 27)).alloc (.cells #[.int .i64 2, .slice ga 2 gc, .slice ta 2 tc, .bool true] 27) := ⟨_, rfl⟩
 have hl : Below w1.heap.size w1 y1 := by rw [hy]; exact below_step' (below_new _ _) (below_new _ _)
 have ka : BoxAt w1.heap.size [.int .i64 2, .slice ga 2 gc, .slice ta 2 tc, .bool false] y1 := by rw [hy]; exact (boxAt_new w1 [.int .i64 2, .slice ga 2 gc, .slice ta 2 tc, .bool false] _).below (below_new _ _)
 have kf : BoxAt (w1.heap.size + 1) [.int .i64 2, .slice ga 2 gc, .slice ta 2 tc, .bool true] y1 := by
  have h := boxAt_new (w1.alloc (.cells #[.int .i64 2, .slice ga 2 gc, .slice ta 2 tc, .bool false] 27)) [.int .i64 2, .slice ga 2 gc, .slice ta 2 tc, .bool true] 27
  rw [size_alloc] at h
  rw [hy]; exact h
 rw [← hy]
 obtain ⟨ba, hba⟩ : ∃ b, b = w1.heap.size := ⟨_, rfl⟩
 obtain ⟨bf, hbf⟩ : ∃ b, b = w1.heap.size + 1 := ⟨_, rfl⟩
 rw [← hba] at ka
 rw [← hbf] at kf
 rw [← hbf, ← hba]
 have KA := Lib.hid ka
 have KF := Lib.hid kf
 have LG := Lib.hid (hL.below hl)
 have HT := Lib.hid (hT.later hl)
 have BW := Lib.hid (below_step' hb hl)
 clear hL hT hb hl hy ka kf hba hbf
 have pA0 := KA.out 0 _ rfl
 have pA1 := KA.out 1 _ rfl
 have pA2 := KA.out 2 _ rfl
 have pA3 := KA.out 3 _ rfl
 go_wp2_with fail
 refine (start_at A5 _ _ _ LG.out HT.out (by decide) (by decide)).mono ?_
 rintro e zC ⟨u1, u2, u3, rfl, hC, hb⟩
 obtain ⟨a1C, a2C, a3C, n1C, n2C, n3C, e1C, e2C, e3C, ee1, ee2, ee3⟩ := cf_slices hC
 subst ee1
 subst ee2
 subst ee3
 clear pA0 pA1 pA2 pA3
 rw [c50_is] at hC
 go_upto_region 5 with fail
 obtain ⟨yC, hy⟩ : ∃ y, y = zC.alloc (.cells #[.slice a1C n1C e1C, .slice a2C n2C e2C, .slice a3C n3C e3C] 31) := ⟨_, rfl⟩
 have hl : Below y1.heap.size y1 yC := by rw [hy]; exact below_step' hb (below_new _ _)
 have hk : BoxAt zC.heap.size [.slice a1C n1C e1C, .slice a2C n2C e2C, .slice a3C n3C e3C] yC := by rw [hy]; exact boxAt_new zC [.slice a1C n1C e1C, .slice a2C n2C e2C, .slice a3C n3C e3C] _
 have hd := hC.weak.later (below_new zC (.cells #[.slice a1C n1C e1C, .slice a2C n2C e2C, .slice a3C n3C e3C] 31))
 rw [← hy] at hd ⊢
 obtain ⟨bC, hbn⟩ : ∃ b, b = zC.heap.size := ⟨_, rfl⟩
 rw [← hbn] at hk ⊢
 replace KA := Lib.hid (KA.out.below hl)
 replace KF := Lib.hid (KF.out.below hl)
 replace LG := Lib.hid (LG.out.below hl)
 replace HT := Lib.hid (HT.out.later hl)
 replace BW := Lib.hid (below_step' BW.out hl)
 have KC := Lib.hid hk
 have CC := Lib.hid hd
 clear hy hl hk hd hb hC hbn
 have pA0 := KA.out 0 _ rfl
 have pA1 := KA.out 1 _ rfl
 have pA2 := KA.out 2 _ rfl
 have pA3 := KA.out 3 _ rfl
 have pC0 := KC.out 0 _ rfl
 have pC1 := KC.out 1 _ rfl
 have pC2 := KC.out 2 _ rfl
 go_wp2_with fail
 refine (pright_at A5 C50 true _ _ _ _ _ _ LG.out HT.out CC.out wfF2 (by decide) t5Small (by simp [SmallCf, C50]) ⟨fun _ => c50OK, fun _ => rfl⟩).mono ?_
 rintro e zrC ⟨rfl, hb⟩
 clear pA0 pA1 pA2 pA3 pC0 pC1 pC2
 replace KA := Lib.hid (KA.out.below hb)
 replace KF := Lib.hid (KF.out.below hb)
 replace LG := Lib.hid (LG.out.below hb)
 replace HT := Lib.hid (HT.out.later hb)
 replace KC := Lib.hid (KC.out.below hb)
 replace CC := Lib.hid (CC.out.later hb)
 replace BW := Lib.hid (below_step' BW.out hb)
 clear hb
 have pA0 := KA.out 0 _ rfl
 have pA1 := KA.out 1 _ rfl
 have pA2 := KA.out 2 _ rfl
 have pA3 := KA.out 3 _ rfl
 have pC0 := KC.out 0 _ rfl
 have pC1 := KC.out 1 _ rfl
 have pC2 := KC.out 2 _ rfl
 go_wp2_with fail
 refine (apply_at A5 C50 0 0 0 0 0 c50OK t5Small (by simp [SmallCf, C50]) _ _ _ _ _ _ LG.out HT.out CC.out).mono ?_
 rintro e zD ⟨u1, u2, u3, rfl, hC, hb⟩
 obtain ⟨a1D, a2D, a3D, n1D, n2D, n3D, e1D, e2D, e3D, ee1, ee2, ee3⟩ := cf_slices hC
 subst ee1
 subst ee2
 subst ee3
 clear pA0 pA1 pA2 pA3 pC0 pC1 pC2
 rw [show applied A5 C50 ⟨0, 0, 0, 0, 0⟩ = D50 from by unfold applied; rw [if_pos e50_0]; exact d50_is] at hC
 rw [e50_0]
 go_upto_region 8 with fail
 obtain ⟨yD, hy⟩ : ∃ y, y = zD.alloc (.cells #[.slice a1D n1D e1D, .slice a2D n2D e2D, .slice a3D n3D e3D] 31) := ⟨_, rfl⟩
 have hl : Below zrC.heap.size zrC yD := by rw [hy]; exact below_step' hb (below_new _ _)
 have hk : BoxAt zD.heap.size [.slice a1D n1D e1D, .slice a2D n2D e2D, .slice a3D n3D e3D] yD := by rw [hy]; exact boxAt_new zD [.slice a1D n1D e1D, .slice a2D n2D e2D, .slice a3D n3D e3D] _
 have hd := hC.weak.later (below_new zD (.cells #[.slice a1D n1D e1D, .slice a2D n2D e2D, .slice a3D n3D e3D] 31))
 rw [← hy] at hd ⊢
 obtain ⟨bD, hbn⟩ : ∃ b, b = zD.heap.size := ⟨_, rfl⟩
 rw [← hbn] at hk ⊢
 replace KA := Lib.hid (KA.out.below hl)
 replace KF := Lib.hid (KF.out.below hl)
 replace LG := Lib.hid (LG.out.below hl)
 replace HT := Lib.hid (HT.out.later hl)
 replace KC := Lib.hid (KC.out.below hl)
 replace CC := Lib.hid (CC.out.later hl)
 replace BW := Lib.hid (below_step' BW.out hl)
 have KD := Lib.hid hk
 have CD := Lib.hid hd
 clear hy hl hk hd hb hC hbn
 have pA0 := KA.out 0 _ rfl
 have pA1 := KA.out 1 _ rfl
 have pA2 := KA.out 2 _ rfl
 have pA3 := KA.out 3 _ rfl
 have pC0 := KC.out 0 _ rfl
 have pC1 := KC.out 1 _ rfl
 have pC2 := KC.out 2 _ rfl
 go_wp2_with fail
 refine (apply_at A5 C50 0 1 0 0 0 c50OK t5Small (by simp [SmallCf, C50]) _ _ _ _ _ _ LG.out HT.out CC.out).mono ?_
 rintro e zg ⟨u1, u2, u3, rfl, hC, hb⟩
 obtain ⟨a1g, a2g, a3g, n1g, n2g, n3g, e1g, e2g, e3g, ee1, ee2, ee3⟩ := cf_slices hC
 subst ee1
 subst ee2
 subst ee3
 clear pA0 pA1 pA2 pA3 pC0 pC1 pC2
 rw [e50_1]
 go_upto_region 9 with fail
 obtain ⟨yg, hy⟩ : ∃ y, y = zg.alloc (.cells #[.slice a1g n1g e1g, .slice a2g n2g e2g, .slice a3g n3g e3g] 31) := ⟨_, rfl⟩
 have hl : Below yD.heap.size yD yg := by rw [hy]; exact below_step' hb (below_new _ _)
 have hk : BoxAt zg.heap.size [.slice a1g n1g e1g, .slice a2g n2g e2g, .slice a3g n3g e3g] yg := by rw [hy]; exact boxAt_new zg [.slice a1g n1g e1g, .slice a2g n2g e2g, .slice a3g n3g e3g] _
 have hd := hC.weak.later (below_new zg (.cells #[.slice a1g n1g e1g, .slice a2g n2g e2g, .slice a3g n3g e3g] 31))
 rw [← hy] at hd ⊢
 obtain ⟨bg, hbn⟩ : ∃ b, b = zg.heap.size := ⟨_, rfl⟩
 rw [← hbn] at hk ⊢
 replace KA := Lib.hid (KA.out.below hl)
 replace KF := Lib.hid (KF.out.below hl)
 replace LG := Lib.hid (LG.out.below hl)
 replace HT := Lib.hid (HT.out.later hl)
 replace KC := Lib.hid (KC.out.below hl)
 replace CC := Lib.hid (CC.out.later hl)
 replace KD := Lib.hid (KD.out.below hl)
 replace CD := Lib.hid (CD.out.later hl)
 replace BW := Lib.hid (below_step' BW.out hl)
 have Kg := Lib.hid hk
 have Cg := Lib.hid hd
 clear hy hl hk hd hb hC hbn
 have pA0 := KA.out 0 _ rfl
 have pA1 := KA.out 1 _ rfl
 have pA2 := KA.out 2 _ rfl
 have pA3 := KA.out 3 _ rfl
 have pC0 := KC.out 0 _ rfl
 have pC1 := KC.out 1 _ rfl
 have pC2 := KC.out 2 _ rfl
 go_wp2_with fail
 refine (apply_at A5 C50 0 0 1 0 0 c50OK t5Small (by simp [SmallCf, C50]) _ _ _ _ _ _ LG.out HT.out CC.out).mono ?_
 rintro e zh ⟨u1, u2, u3, rfl, hC, hb⟩
 obtain ⟨a1h, a2h, a3h, n1h, n2h, n3h, e1h, e2h, e3h, ee1, ee2, ee3⟩ := cf_slices hC
 subst ee1
 subst ee2
 subst ee3
 clear pA0 pA1 pA2 pA3 pC0 pC1 pC2
 rw [e50_2]
 go_upto_region 10 with fail
 obtain ⟨yh, hy⟩ : ∃ y, y = zh.alloc (.cells #[.slice a1h n1h e1h, .slice a2h n2h e2h, .slice a3h n3h e3h] 31) := ⟨_, rfl⟩
 have hl : Below yg.heap.size yg yh := by rw [hy]; exact below_step' hb (below_new _ _)
 have hk : BoxAt zh.heap.size [.slice a1h n1h e1h, .slice a2h n2h e2h, .slice a3h n3h e3h] yh := by rw [hy]; exact boxAt_new zh [.slice a1h n1h e1h, .slice a2h n2h e2h, .slice a3h n3h e3h] _
 have hd := hC.weak.later (below_new zh (.cells #[.slice a1h n1h e1h, .slice a2h n2h e2h, .slice a3h n3h e3h] 31))
 rw [← hy] at hd ⊢
 obtain ⟨bh, hbn⟩ : ∃ b, b = zh.heap.size := ⟨_, rfl⟩
 rw [← hbn] at hk ⊢
 replace KA := Lib.hid (KA.out.below hl)
 replace KF := Lib.hid (KF.out.below hl)
 replace LG := Lib.hid (LG.out.below hl)
 replace HT := Lib.hid (HT.out.later hl)
 replace KC := Lib.hid (KC.out.below hl)
 replace CC := Lib.hid (CC.out.later hl)
 replace KD := Lib.hid (KD.out.below hl)
 replace CD := Lib.hid (CD.out.later hl)
 replace Kg := Lib.hid (Kg.out.below hl)
 replace Cg := Lib.hid (Cg.out.later hl)
 replace BW := Lib.hid (below_step' BW.out hl)
 have Kh := Lib.hid hk
 have Ch := Lib.hid hd
 clear hy hl hk hd hb hC hbn
 have pA0 := KA.out 0 _ rfl
 have pA1 := KA.out 1 _ rfl
 have pA2 := KA.out 2 _ rfl
 have pA3 := KA.out 3 _ rfl
 have pC0 := KC.out 0 _ rfl
 have pC1 := KC.out 1 _ rfl
 have pC2 := KC.out 2 _ rfl
 go_wp2_with fail
 refine (apply_at A5 C50 0 2 0 0 0 c50OK t5Small (by simp [SmallCf, C50]) _ _ _ _ _ _ LG.out HT.out CC.out).mono ?_
 rintro e zi ⟨u1, u2, u3, rfl, hC, hb⟩
 obtain ⟨a1i, a2i, a3i, n1i, n2i, n3i, e1i, e2i, e3i, ee1, ee2, ee3⟩ := cf_slices hC
 subst ee1
 subst ee2
 subst ee3
 clear pA0 pA1 pA2 pA3 pC0 pC1 pC2
 rw [e50_3]
 go_upto_region 11 with fail
 obtain ⟨yi, hy⟩ : ∃ y, y = zi.alloc (.cells #[.slice a1i n1i e1i, .slice a2i n2i e2i, .slice a3i n3i e3i] 31) := ⟨_, rfl⟩
 have hl : Below yh.heap.size yh yi := by rw [hy]; exact below_step' hb (below_new _ _)
 have hk : BoxAt zi.heap.size [.slice a1i n1i e1i, .slice a2i n2i e2i, .slice a3i n3i e3i] yi := by rw [hy]; exact boxAt_new zi [.slice a1i n1i e1i, .slice a2i n2i e2i, .slice a3i n3i e3i] _
 have hd := hC.weak.later (below_new zi (.cells #[.slice a1i n1i e1i, .slice a2i n2i e2i, .slice a3i n3i e3i] 31))
 rw [← hy] at hd ⊢
 obtain ⟨bi, hbn⟩ : ∃ b, b = zi.heap.size := ⟨_, rfl⟩
 rw [← hbn] at hk ⊢
 replace KA := Lib.hid (KA.out.below hl)
 replace KF := Lib.hid (KF.out.below hl)
 replace LG := Lib.hid (LG.out.below hl)
 replace HT := Lib.hid (HT.out.later hl)
 replace KC := Lib.hid (KC.out.below hl)
 replace CC := Lib.hid (CC.out.later hl)
 replace KD := Lib.hid (KD.out.below hl)
 replace CD := Lib.hid (CD.out.later hl)
 replace Kg := Lib.hid (Kg.out.below hl)
 replace Cg := Lib.hid (Cg.out.later hl)
 replace Kh := Lib.hid (Kh.out.below hl)
 replace Ch := Lib.hid (Ch.out.later hl)
 replace BW := Lib.hid (below_step' BW.out hl)
 have Ki := Lib.hid hk
 have Ci := Lib.hid hd
 clear hy hl hk hd hb hC hbn
 have pA0 := KA.out 0 _ rfl
 have pA1 := KA.out 1 _ rfl
 have pA2 := KA.out 2 _ rfl
 have pA3 := KA.out 3 _ rfl
 have pD0 := KD.out 0 _ rfl
 have pD1 := KD.out 1 _ rfl
 have pD2 := KD.out 2 _ rfl
 go_wp2_with fail
 refine (pright_at A5 D50 true _ _ _ _ _ _ LG.out HT.out CD.out wfF2 (by decide) t5Small (by simp [SmallCf, D50]) ⟨fun _ => d50OK, fun _ => rfl⟩).mono ?_
 rintro e zrD ⟨rfl, hb⟩
 clear pA0 pA1 pA2 pA3 pD0 pD1 pD2
 replace KA := Lib.hid (KA.out.below hb)
 replace KF := Lib.hid (KF.out.below hb)
 replace LG := Lib.hid (LG.out.below hb)
 replace HT := Lib.hid (HT.out.later hb)
 replace KC := Lib.hid (KC.out.below hb)
 replace CC := Lib.hid (CC.out.later hb)
 replace KD := Lib.hid (KD.out.below hb)
 replace CD := Lib.hid (CD.out.later hb)
 replace Kg := Lib.hid (Kg.out.below hb)
 replace Cg := Lib.hid (Cg.out.later hb)
 replace Kh := Lib.hid (Kh.out.below hb)
 replace Ch := Lib.hid (Ch.out.later hb)
 replace Ki := Lib.hid (Ki.out.below hb)
 replace Ci := Lib.hid (Ci.out.later hb)
 replace BW := Lib.hid (below_step' BW.out hb)
 clear hb
 have pA0 := KA.out 0 _ rfl
 have pA1 := KA.out 1 _ rfl
 have pA2 := KA.out 2 _ rfl
 have pA3 := KA.out 3 _ rfl
 have pD0 := KD.out 0 _ rfl
 have pD1 := KD.out 1 _ rfl
 have pD2 := KD.out 2 _ rfl
 go_wp2_with fail
 refine (apply_at A5 D50 1 0 0 0 2 d50OK t5Small (by simp [SmallCf, D50]) _ _ _ _ _ _ LG.out HT.out CD.out).mono ?_
 rintro e zX ⟨u1, u2, u3, rfl, hC, hb⟩
 obtain ⟨a1X, a2X, a3X, n1X, n2X, n3X, e1X, e2X, e3X, ee1, ee2, ee3⟩ := cf_slices hC
 subst ee1
 subst ee2
 subst ee3
 clear pA0 pA1 pA2 pA3 pD0 pD1 pD2
 rw [show applied A5 D50 ⟨1, 0, 0, 0, 2⟩ = X50 from by unfold applied; rw [if_pos e50_4]; exact x50_is] at hC
 rw [e50_4]
 go_upto_region 14 with fail
 obtain ⟨yX, hy⟩ : ∃ y, y = zX.alloc (.cells #[.slice a1X n1X e1X, .slice a2X n2X e2X, .slice a3X n3X e3X] 31) := ⟨_, rfl⟩
 have hl : Below zrD.heap.size zrD yX := by rw [hy]; exact below_step' hb (below_new _ _)
 have hk : BoxAt zX.heap.size [.slice a1X n1X e1X, .slice a2X n2X e2X, .slice a3X n3X e3X] yX := by rw [hy]; exact boxAt_new zX [.slice a1X n1X e1X, .slice a2X n2X e2X, .slice a3X n3X e3X] _
 have hd := hC.weak.later (below_new zX (.cells #[.slice a1X n1X e1X, .slice a2X n2X e2X, .slice a3X n3X e3X] 31))
 rw [← hy] at hd ⊢
 obtain ⟨bX, hbn⟩ : ∃ b, b = zX.heap.size := ⟨_, rfl⟩
 rw [← hbn] at hk ⊢
 replace KA := Lib.hid (KA.out.below hl)
 replace KF := Lib.hid (KF.out.below hl)
 replace LG := Lib.hid (LG.out.below hl)
 replace HT := Lib.hid (HT.out.later hl)
 replace KC := Lib.hid (KC.out.below hl)
 replace CC := Lib.hid (CC.out.later hl)
 replace KD := Lib.hid (KD.out.below hl)
 replace CD := Lib.hid (CD.out.later hl)
 replace Kg := Lib.hid (Kg.out.below hl)
 replace Cg := Lib.hid (Cg.out.later hl)
 replace Kh := Lib.hid (Kh.out.below hl)
 replace Ch := Lib.hid (Ch.out.later hl)
 replace Ki := Lib.hid (Ki.out.below hl)
 replace Ci := Lib.hid (Ci.out.later hl)
 replace BW := Lib.hid (below_step' BW.out hl)
 have KX := Lib.hid hk
 have CX := Lib.hid hd
 clear hy hl hk hd hb hC hbn
 have pF0 := KF.out 0 _ rfl
 have pF1 := KF.out 1 _ rfl
 have pF2 := KF.out 2 _ rfl
 have pF3 := KF.out 3 _ rfl
 have pD0 := KD.out 0 _ rfl
 have pD1 := KD.out 1 _ rfl
 have pD2 := KD.out 2 _ rfl
 go_wp2_with fail
 refine (apply_at A5f D50 1 0 0 0 2 d50OKf t5Small (by simp [SmallCf, D50]) _ _ _ _ _ _ LG.out HT.out CD.out).mono ?_
 rintro e zk ⟨u1, u2, u3, rfl, hC, hb⟩
 obtain ⟨a1k, a2k, a3k, n1k, n2k, n3k, e1k, e2k, e3k, ee1, ee2, ee3⟩ := cf_slices hC
 subst ee1
 subst ee2
 subst ee3
 clear pF0 pF1 pF2 pF3 pD0 pD1 pD2
 rw [e50_5]
 go_upto_region 15 with fail
 obtain ⟨yk, hy⟩ : ∃ y, y = zk.alloc (.cells #[.slice a1k n1k e1k, .slice a2k n2k e2k, .slice a3k n3k e3k] 31) := ⟨_, rfl⟩
 have hl : Below yX.heap.size yX yk := by rw [hy]; exact below_step' hb (below_new _ _)
 have hk : BoxAt zk.heap.size [.slice a1k n1k e1k, .slice a2k n2k e2k, .slice a3k n3k e3k] yk := by rw [hy]; exact boxAt_new zk [.slice a1k n1k e1k, .slice a2k n2k e2k, .slice a3k n3k e3k] _
 have hd := hC.weak.later (below_new zk (.cells #[.slice a1k n1k e1k, .slice a2k n2k e2k, .slice a3k n3k e3k] 31))
 rw [← hy] at hd ⊢
 obtain ⟨bk, hbn⟩ : ∃ b, b = zk.heap.size := ⟨_, rfl⟩
 rw [← hbn] at hk ⊢
 replace KA := Lib.hid (KA.out.below hl)
 replace KF := Lib.hid (KF.out.below hl)
 replace LG := Lib.hid (LG.out.below hl)
 replace HT := Lib.hid (HT.out.later hl)
 replace KC := Lib.hid (KC.out.below hl)
 replace CC := Lib.hid (CC.out.later hl)
 replace KD := Lib.hid (KD.out.below hl)
 replace CD := Lib.hid (CD.out.later hl)
 replace Kg := Lib.hid (Kg.out.below hl)
 replace Cg := Lib.hid (Cg.out.later hl)
 replace Kh := Lib.hid (Kh.out.below hl)
 replace Ch := Lib.hid (Ch.out.later hl)
 replace Ki := Lib.hid (Ki.out.below hl)
 replace Ci := Lib.hid (Ci.out.later hl)
 replace KX := Lib.hid (KX.out.below hl)
 replace CX := Lib.hid (CX.out.later hl)
 replace BW := Lib.hid (below_step' BW.out hl)
 have Kk := Lib.hid hk
 have Ck := Lib.hid hd
 clear hy hl hk hd hb hC hbn
 have pF0 := KF.out 0 _ rfl
 have pF1 := KF.out 1 _ rfl
 have pF2 := KF.out 2 _ rfl
 have pF3 := KF.out 3 _ rfl
 have pC0 := KC.out 0 _ rfl
 have pC1 := KC.out 1 _ rfl
 have pC2 := KC.out 2 _ rfl
 go_wp2_with fail
 clear pF0 pF1 pF2 pF3 pC0 pC1 pC2
 obtain ⟨yS, hy⟩ : ∃ y, y = yk.alloc (.cells #[.int .i64 0, .int .i64 0, .int .i64 0, .int .i64 0, .int .i64 0, .int .i64 1, .int .i64 0, .int .i64 0, .int .i64 0, .int .i64 1, .int .i64 0, .int .i64 0, .int .i64 0, .int .i64 0, .int .i64 0] 50) := ⟨_, rfl⟩
 have hl : Below yk.heap.size yk yS := by rw [hy]; exact below_new _ _
 have hs : Has yS (.slice (some ⟨yk.heap.size, 0, none⟩) 3 3) (dSteps [⟨0, 0, 0, 0, 0⟩, ⟨1, 0, 0, 0, 1⟩, ⟨0, 0, 0, 0, 0⟩]) := by rw [hy]; exact has_new (w := yk) (vs := [.int .i64 0, .int .i64 0, .int .i64 0, .int .i64 0, .int .i64 0, .int .i64 1, .int .i64 0, .int .i64 0, .int .i64 0, .int .i64 1, .int .i64 0, .int .i64 0, .int .i64 0, .int .i64 0, .int .i64 0]) 50 (n := 5) (k := 3) (xs := ([⟨0, 0, 0, 0, 0⟩, ⟨1, 0, 0, 0, 1⟩, ⟨0, 0, 0, 0, 0⟩] : List Sp).map Sp.d) (by intro ds h; obtain ⟨_, _, rfl⟩ := List.mem_map.1 h; rfl) rfl (by decide) (by exact (hl_int (hl_int (hl_int (hl_int (hl_int (hl_int (hl_int (hl_int (hl_int (hl_int (hl_int (hl_int (hl_int (hl_int (hl_int hl_nil))))))))))))))))
 rw [← hy]
 replace KA := Lib.hid (KA.out.below hl)
 replace KF := Lib.hid (KF.out.below hl)
 replace LG := Lib.hid (LG.out.below hl)
 replace HT := Lib.hid (HT.out.later hl)
 replace KC := Lib.hid (KC.out.below hl)
 replace CC := Lib.hid (CC.out.later hl)
 replace KD := Lib.hid (KD.out.below hl)
 replace CD := Lib.hid (CD.out.later hl)
 replace Kg := Lib.hid (Kg.out.below hl)
 replace Cg := Lib.hid (Cg.out.later hl)
 replace Kh := Lib.hid (Kh.out.below hl)
 replace Ch := Lib.hid (Ch.out.later hl)
 replace Ki := Lib.hid (Ki.out.below hl)
 replace Ci := Lib.hid (Ci.out.later hl)
 replace KX := Lib.hid (KX.out.below hl)
 replace CX := Lib.hid (CX.out.later hl)
 replace Kk := Lib.hid (Kk.out.below hl)
 replace Ck := Lib.hid (Ck.out.later hl)
 replace BW := Lib.hid (below_step' BW.out hl)
 have HS := Lib.hid hs
 clear hl hs hy
 have e1 : ((runOf A5f C50 [⟨0, 0, 0, 0, 0⟩, ⟨1, 0, 0, 0, 1⟩, ⟨0, 0, 0, 0, 0⟩]).2.1 : Int) = 2 := by rw [y50_is]; rfl
 have e2 : (runOf A5f C50 [⟨0, 0, 0, 0, 0⟩, ⟨1, 0, 0, 0, 1⟩, ⟨0, 0, 0, 0, 0⟩]).2.2 = 8 := by rw [y50_is]
 refine (run_at A5f C50 [⟨0, 0, 0, 0, 0⟩, ⟨1, 0, 0, 0, 1⟩, ⟨0, 0, 0, 0, 0⟩] c50OKf t5Small (by simp [SmallCf, C50]) _ _ _ _ _ _ _ LG.out HT.out CC.out HS.out (by decide)).mono ?_
 rintro e zY ⟨u1, u2, u3, rfl, hC, hb⟩
 rw [e1, e2]
 rw [y50_is] at hC
 clear e1 e2 HS
 obtain ⟨a1Y, a2Y, a3Y, n1Y, n2Y, n3Y, e1Y, e2Y, e3Y, ee1, ee2, ee3⟩ := cf_slices hC
 subst ee1
 subst ee2
 subst ee3
 go_upto_region 16 with fail
 obtain ⟨yY, hy⟩ : ∃ y, y = zY.alloc (.cells #[.slice a1Y n1Y e1Y, .slice a2Y n2Y e2Y, .slice a3Y n3Y e3Y] 31) := ⟨_, rfl⟩
 have hl : Below yS.heap.size yS yY := by rw [hy]; exact below_step' hb (below_new _ _)
 have hk : BoxAt zY.heap.size [.slice a1Y n1Y e1Y, .slice a2Y n2Y e2Y, .slice a3Y n3Y e3Y] yY := by rw [hy]; exact boxAt_new zY [.slice a1Y n1Y e1Y, .slice a2Y n2Y e2Y, .slice a3Y n3Y e3Y] _
 have hd := hC.weak.later (below_new zY (.cells #[.slice a1Y n1Y e1Y, .slice a2Y n2Y e2Y, .slice a3Y n3Y e3Y] 31))
 rw [← hy] at hd ⊢
 obtain ⟨bY, hbn⟩ : ∃ b, b = zY.heap.size := ⟨_, rfl⟩
 rw [← hbn] at hk ⊢
 replace KA := Lib.hid (KA.out.below hl)
 replace KF := Lib.hid (KF.out.below hl)
 replace LG := Lib.hid (LG.out.below hl)
 replace HT := Lib.hid (HT.out.later hl)
 replace KC := Lib.hid (KC.out.below hl)
 replace CC := Lib.hid (CC.out.later hl)
 replace KD := Lib.hid (KD.out.below hl)
 replace CD := Lib.hid (CD.out.later hl)
 replace Kg := Lib.hid (Kg.out.below hl)
 replace Cg := Lib.hid (Cg.out.later hl)
 replace Kh := Lib.hid (Kh.out.below hl)
 replace Ch := Lib.hid (Ch.out.later hl)
 replace Ki := Lib.hid (Ki.out.below hl)
 replace Ci := Lib.hid (Ci.out.later hl)
 replace KX := Lib.hid (KX.out.below hl)
 replace CX := Lib.hid (CX.out.later hl)
 replace Kk := Lib.hid (Kk.out.below hl)
 replace Ck := Lib.hid (Ck.out.later hl)
 replace BW := Lib.hid (below_step' BW.out hl)
 have KY := Lib.hid hk
 have CY := Lib.hid hd
 clear hy hl hk hd hb hC hbn
 have pF0 := KF.out 0 _ rfl
 have pF1 := KF.out 1 _ rfl
 have pF2 := KF.out 2 _ rfl
 have pF3 := KF.out 3 _ rfl
 have pD0 := KD.out 0 _ rfl
 have pD1 := KD.out 1 _ rfl
 have pD2 := KD.out 2 _ rfl
 go_wp2_with fail
 refine (can_at A5f D50 d50OKf t5Small _ _ _ _ _ _ LG.out HT.out CD.out).mono ?_
 rintro e zZ ⟨u, rfl, hu, hb⟩
 rw [can50] at hu
 clear pF0 pF1 pF2 pF3 pD0 pD1 pD2
 obtain ⟨sa, sc, ee⟩ := slice_of hu
 subst ee
 replace KA := Lib.hid (KA.out.below hb)
 replace KF := Lib.hid (KF.out.below hb)
 replace LG := Lib.hid (LG.out.below hb)
 replace HT := Lib.hid (HT.out.later hb)
 replace KC := Lib.hid (KC.out.below hb)
 replace CC := Lib.hid (CC.out.later hb)
 replace KD := Lib.hid (KD.out.below hb)
 replace CD := Lib.hid (CD.out.later hb)
 replace Kg := Lib.hid (Kg.out.below hb)
 replace Cg := Lib.hid (Cg.out.later hb)
 replace Kh := Lib.hid (Kh.out.below hb)
 replace Ch := Lib.hid (Ch.out.later hb)
 replace Ki := Lib.hid (Ki.out.below hb)
 replace Ci := Lib.hid (Ci.out.later hb)
 replace KX := Lib.hid (KX.out.below hb)
 replace CX := Lib.hid (CX.out.later hb)
 replace Kk := Lib.hid (Kk.out.below hb)
 replace Ck := Lib.hid (Ck.out.later hb)
 replace KY := Lib.hid (KY.out.below hb)
 replace CY := Lib.hid (CY.out.later hb)
 replace BW := Lib.hid (below_step' BW.out hb)
 have HU := Lib.hid hu
 clear hu hb
 go_upto_region 17 with fail
 have pC0 := KC.out 0 _ rfl
 have pC1 := KC.out 1 _ rfl
 have pC2 := KC.out 2 _ rfl
 go_wp2_with fail
 refine (lref_at _ _ _ _ C50 CC.out).mono ?_
 rintro e v1 ⟨rfl, hb⟩
 clear pC0 pC1 pC2
 replace KA := Lib.hid (KA.out.below hb)
 replace KF := Lib.hid (KF.out.below hb)
 replace LG := Lib.hid (LG.out.below hb)
 replace HT := Lib.hid (HT.out.later hb)
 replace KC := Lib.hid (KC.out.below hb)
 replace CC := Lib.hid (CC.out.later hb)
 replace KD := Lib.hid (KD.out.below hb)
 replace CD := Lib.hid (CD.out.later hb)
 replace Kg := Lib.hid (Kg.out.below hb)
 replace Cg := Lib.hid (Cg.out.later hb)
 replace Kh := Lib.hid (Kh.out.below hb)
 replace Ch := Lib.hid (Ch.out.later hb)
 replace Ki := Lib.hid (Ki.out.below hb)
 replace Ci := Lib.hid (Ci.out.later hb)
 replace KX := Lib.hid (KX.out.below hb)
 replace CX := Lib.hid (CX.out.later hb)
 replace Kk := Lib.hid (Kk.out.below hb)
 replace Ck := Lib.hid (Ck.out.later hb)
 replace KY := Lib.hid (KY.out.below hb)
 replace CY := Lib.hid (CY.out.later hb)
 replace HU := Lib.hid (HU.out.later hb)
 replace BW := Lib.hid (below_step' BW.out hb)
 clear hb
 go_wp2_with fail
 obtain ⟨x0_0, hx0⟩ : ∃ x, x = v1.alloc (.cells #[.int .i64 0, .int .i64 0] 3) := ⟨_, rfl⟩
 have hl0 : Below v1.heap.size v1 x0_0 := by rw [hx0]; exact below_new _ _
 have s0 : x0_0.heap.size = v1.heap.size + 1 := by rw [hx0]; simp
 obtain ⟨x0_1, hx1⟩ : ∃ x, x = x0_0.alloc (.cells #[.slice none 0 0, .slice none 0 0] 51) := ⟨_, rfl⟩
 have hl1 : Below x0_0.heap.size x0_0 x0_1 := by rw [hx1]; exact below_new _ _
 have s1 : x0_1.heap.size = x0_0.heap.size + 1 := by rw [hx1]; simp
 obtain ⟨x0_2, hx2⟩ : ∃ x, x = x0_1.alloc (.cells #[.int .i64 0, .int .i64 0] 3) := ⟨_, rfl⟩
 have hl2 : Below x0_1.heap.size x0_1 x0_2 := by rw [hx2]; exact below_new _ _
 have s2 : x0_2.heap.size = x0_1.heap.size + 1 := by rw [hx2]; simp
 have h0_0 : Has x0_0 (.slice (some ⟨v1.heap.size, 0, none⟩) 2 2) (dInts [0, 0]) := by rw [hx0]; exact has_new (w := v1) (vs := [.int .i64 0, .int .i64 0]) 3 (n := 1) (k := 2) (xs := ([0, 0] : List Int).map fun a => [dI a]) (by intro ds h; obtain ⟨_, _, rfl⟩ := List.mem_map.1 h; rfl) rfl (by decide) (by exact (hl_int (hl_int hl_nil)))
 have h0_1 : Has x0_1 (.slice (some ⟨x0_0.heap.size, 0, none⟩) 2 2) (dLls [[], []]) := by rw [hx1]; exact has_new (w := x0_0) (vs := [.slice none 0 0, .slice none 0 0]) 51 (n := 1) (k := 2) (xs := ([[], []] : List Lks).map fun m => [dLinks m]) (by intro ds h; obtain ⟨_, _, rfl⟩ := List.mem_map.1 h; rfl) rfl (by decide) (by exact (hl_cons (.nil _ _ _ _ _) (hl_cons (.nil _ _ _ _ _) hl_nil)))
 have h0_2 : Has x0_2 (.slice (some ⟨x0_1.heap.size, 0, none⟩) 2 2) (dInts [0, 0]) := by rw [hx2]; exact has_new (w := x0_1) (vs := [.int .i64 0, .int .i64 0]) 3 (n := 1) (k := 2) (xs := ([0, 0] : List Int).map fun a => [dI a]) (by intro ds h; obtain ⟨_, _, rfl⟩ := List.mem_map.1 h; rfl) rfl (by decide) (by exact (hl_int (hl_int hl_nil)))
 rw [← hx0, ← hx1, ← hx2]
 have q0 := h0_0 |>.later hl1 |>.later hl2
 have q1 := h0_1 |>.later hl2
 rw [s0] at q1
 have q2 := h0_2
 rw [s1, s0] at q2
 have hla := (below_step' (below_step' hl0 hl1) hl2)
 have hlit : HasL x0_2 [.slice (some ⟨v1.heap.size, 0, none⟩) 2 2, .slice (some ⟨v1.heap.size + 1, 0, none⟩) 2 2, .slice (some ⟨v1.heap.size + 1 + 1, 0, none⟩) 2 2] C50.d := has_cf q0 q1 q2
 clear hx0 hl0 s0 hx1 hl1 s1 hx2 hl2 s2 h0_0 h0_1 h0_2 q0 q1 q2
 refine (rsame_at C50 C50 true _ _ _ _ _ _ _ (CC.out.later hla) hlit (by simp [SmallCf, C50]) (by simp [SmallCf, C50]) ⟨fun _ => rfl, fun _ => rfl⟩).mono ?_
 rintro e u1 ⟨rfl, hb⟩
 replace hb := below_step' hla hb
 clear hlit hla
 replace KA := Lib.hid (KA.out.below hb)
 replace KF := Lib.hid (KF.out.below hb)
 replace LG := Lib.hid (LG.out.below hb)
 replace HT := Lib.hid (HT.out.later hb)
 replace KC := Lib.hid (KC.out.below hb)
 replace CC := Lib.hid (CC.out.later hb)
 replace KD := Lib.hid (KD.out.below hb)
 replace CD := Lib.hid (CD.out.later hb)
 replace Kg := Lib.hid (Kg.out.below hb)
 replace Cg := Lib.hid (Cg.out.later hb)
 replace Kh := Lib.hid (Kh.out.below hb)
 replace Ch := Lib.hid (Ch.out.later hb)
 replace Ki := Lib.hid (Ki.out.below hb)
 replace Ci := Lib.hid (Ci.out.later hb)
 replace KX := Lib.hid (KX.out.below hb)
 replace CX := Lib.hid (CX.out.later hb)
 replace Kk := Lib.hid (Kk.out.below hb)
 replace Ck := Lib.hid (Ck.out.later hb)
 replace KY := Lib.hid (KY.out.below hb)
 replace CY := Lib.hid (CY.out.later hb)
 replace HU := Lib.hid (HU.out.later hb)
 replace BW := Lib.hid (below_step' BW.out hb)
 clear hb
 have pD0 := KD.out 0 _ rfl
 have pD1 := KD.out 1 _ rfl
 have pD2 := KD.out 2 _ rfl
 go_wp2_with fail
 refine (lref_at _ _ _ _ D50 CD.out).mono ?_
 rintro e v2 ⟨rfl, hb⟩
 clear pD0 pD1 pD2
 replace KA := Lib.hid (KA.out.below hb)
 replace KF := Lib.hid (KF.out.below hb)
 replace LG := Lib.hid (LG.out.below hb)
 replace HT := Lib.hid (HT.out.later hb)
 replace KC := Lib.hid (KC.out.below hb)
 replace CC := Lib.hid (CC.out.later hb)
 replace KD := Lib.hid (KD.out.below hb)
 replace CD := Lib.hid (CD.out.later hb)
 replace Kg := Lib.hid (Kg.out.below hb)
 replace Cg := Lib.hid (Cg.out.later hb)
 replace Kh := Lib.hid (Kh.out.below hb)
 replace Ch := Lib.hid (Ch.out.later hb)
 replace Ki := Lib.hid (Ki.out.below hb)
 replace Ci := Lib.hid (Ci.out.later hb)
 replace KX := Lib.hid (KX.out.below hb)
 replace CX := Lib.hid (CX.out.later hb)
 replace Kk := Lib.hid (Kk.out.below hb)
 replace Ck := Lib.hid (Ck.out.later hb)
 replace KY := Lib.hid (KY.out.below hb)
 replace CY := Lib.hid (CY.out.later hb)
 replace HU := Lib.hid (HU.out.later hb)
 replace BW := Lib.hid (below_step' BW.out hb)
 clear hb
 go_wp2_with fail
 obtain ⟨x1_0, hx0⟩ : ∃ x, x = v2.alloc (.cells #[.int .i64 1, .int .i64 0] 3) := ⟨_, rfl⟩
 have hl0 : Below v2.heap.size v2 x1_0 := by rw [hx0]; exact below_new _ _
 have s0 : x1_0.heap.size = v2.heap.size + 1 := by rw [hx0]; simp
 obtain ⟨x1_1, hx1⟩ : ∃ x, x = x1_0.alloc (.cells #[.int .i64 1, .int .i64 1, .int .i64 2, .int .i64 2] 56) := ⟨_, rfl⟩
 have hl1 : Below x1_0.heap.size x1_0 x1_1 := by rw [hx1]; exact below_new _ _
 have s1 : x1_1.heap.size = x1_0.heap.size + 1 := by rw [hx1]; simp
 obtain ⟨x1_2, hx2⟩ : ∃ x, x = x1_1.alloc (.cells #[.slice (some ⟨v2.heap.size + 1, 0, none⟩) 2 2, .slice none 0 0] 51) := ⟨_, rfl⟩
 have hl2 : Below x1_1.heap.size x1_1 x1_2 := by rw [hx2]; exact below_new _ _
 have s2 : x1_2.heap.size = x1_1.heap.size + 1 := by rw [hx2]; simp
 obtain ⟨x1_3, hx3⟩ : ∃ x, x = x1_2.alloc (.cells #[.int .i64 2, .int .i64 0] 3) := ⟨_, rfl⟩
 have hl3 : Below x1_2.heap.size x1_2 x1_3 := by rw [hx3]; exact below_new _ _
 have s3 : x1_3.heap.size = x1_2.heap.size + 1 := by rw [hx3]; simp
 have h1_0 : Has x1_0 (.slice (some ⟨v2.heap.size, 0, none⟩) 2 2) (dInts [1, 0]) := by rw [hx0]; exact has_new (w := v2) (vs := [.int .i64 1, .int .i64 0]) 3 (n := 1) (k := 2) (xs := ([1, 0] : List Int).map fun a => [dI a]) (by intro ds h; obtain ⟨_, _, rfl⟩ := List.mem_map.1 h; rfl) rfl (by decide) (by exact (hl_int (hl_int hl_nil)))
 have h1_1 : Has x1_1 (.slice (some ⟨x1_0.heap.size, 0, none⟩) 2 2) (dLinks [(1, 1), (2, 2)]) := by rw [hx1]; exact has_new (w := x1_0) (vs := [.int .i64 1, .int .i64 1, .int .i64 2, .int .i64 2]) 56 (n := 2) (k := 2) (xs := ([(1, 1), (2, 2)] : Lks).map fun p => [dI p.1, dI p.2]) (by intro ds h; obtain ⟨_, _, rfl⟩ := List.mem_map.1 h; rfl) rfl (by decide) (by exact (hl_int (hl_int (hl_int (hl_int hl_nil)))))
 have h1_2 : Has x1_2 (.slice (some ⟨x1_1.heap.size, 0, none⟩) 2 2) (dLls [[(1, 1), (2, 2)], []]) := by rw [hx2, ← s0]; exact has_new (w := x1_1) (vs := [.slice (some ⟨x1_0.heap.size, 0, none⟩) 2 2, .slice none 0 0]) 51 (n := 1) (k := 2) (xs := ([[(1, 1), (2, 2)], []] : List Lks).map fun m => [dLinks m]) (by intro ds h; obtain ⟨_, _, rfl⟩ := List.mem_map.1 h; rfl) rfl (by decide) (by exact (hl_cons h1_1 (hl_cons (.nil _ _ _ _ _) hl_nil)))
 have h1_3 : Has x1_3 (.slice (some ⟨x1_2.heap.size, 0, none⟩) 2 2) (dInts [2, 0]) := by rw [hx3]; exact has_new (w := x1_2) (vs := [.int .i64 2, .int .i64 0]) 3 (n := 1) (k := 2) (xs := ([2, 0] : List Int).map fun a => [dI a]) (by intro ds h; obtain ⟨_, _, rfl⟩ := List.mem_map.1 h; rfl) rfl (by decide) (by exact (hl_int (hl_int hl_nil)))
 rw [← hx0, ← hx1, ← hx2, ← hx3]
 have q0 := h1_0 |>.later hl1 |>.later hl2 |>.later hl3
 have q2 := h1_2 |>.later hl3
 rw [s1, s0] at q2
 have q3 := h1_3
 rw [s2, s1, s0] at q3
 have hla := (below_step' (below_step' (below_step' hl0 hl1) hl2) hl3)
 have hlit : HasL x1_3 [.slice (some ⟨v2.heap.size, 0, none⟩) 2 2, .slice (some ⟨v2.heap.size + 1 + 1, 0, none⟩) 2 2, .slice (some ⟨v2.heap.size + 1 + 1 + 1, 0, none⟩) 2 2] D50.d := has_cf q0 q2 q3
 clear hx0 hl0 s0 hx1 hl1 s1 hx2 hl2 s2 hx3 hl3 s3 h1_0 h1_1 h1_2 h1_3 q0 q2 q3
 refine (rsame_at D50 D50 true _ _ _ _ _ _ _ (CD.out.later hla) hlit (by simp [SmallCf, D50]) (by simp [SmallCf, D50]) ⟨fun _ => rfl, fun _ => rfl⟩).mono ?_
 rintro e u2 ⟨rfl, hb⟩
 replace hb := below_step' hla hb
 clear hlit hla
 replace KA := Lib.hid (KA.out.below hb)
 replace KF := Lib.hid (KF.out.below hb)
 replace LG := Lib.hid (LG.out.below hb)
 replace HT := Lib.hid (HT.out.later hb)
 replace KC := Lib.hid (KC.out.below hb)
 replace CC := Lib.hid (CC.out.later hb)
 replace KD := Lib.hid (KD.out.below hb)
 replace CD := Lib.hid (CD.out.later hb)
 replace Kg := Lib.hid (Kg.out.below hb)
 replace Cg := Lib.hid (Cg.out.later hb)
 replace Kh := Lib.hid (Kh.out.below hb)
 replace Ch := Lib.hid (Ch.out.later hb)
 replace Ki := Lib.hid (Ki.out.below hb)
 replace Ci := Lib.hid (Ci.out.later hb)
 replace KX := Lib.hid (KX.out.below hb)
 replace CX := Lib.hid (CX.out.later hb)
 replace Kk := Lib.hid (Kk.out.below hb)
 replace Ck := Lib.hid (Ck.out.later hb)
 replace KY := Lib.hid (KY.out.below hb)
 replace CY := Lib.hid (CY.out.later hb)
 replace HU := Lib.hid (HU.out.later hb)
 replace BW := Lib.hid (below_step' BW.out hb)
 clear hb
 have pX0 := KX.out 0 _ rfl
 have pX1 := KX.out 1 _ rfl
 have pX2 := KX.out 2 _ rfl
 go_wp2_with fail
 refine (lref_at _ _ _ _ X50 CX.out).mono ?_
 rintro e v3 ⟨rfl, hb⟩
 clear pX0 pX1 pX2
 replace KA := Lib.hid (KA.out.below hb)
 replace KF := Lib.hid (KF.out.below hb)
 replace LG := Lib.hid (LG.out.below hb)
 replace HT := Lib.hid (HT.out.later hb)
 replace KC := Lib.hid (KC.out.below hb)
 replace CC := Lib.hid (CC.out.later hb)
 replace KD := Lib.hid (KD.out.below hb)
 replace CD := Lib.hid (CD.out.later hb)
 replace Kg := Lib.hid (Kg.out.below hb)
 replace Cg := Lib.hid (Cg.out.later hb)
 replace Kh := Lib.hid (Kh.out.below hb)
 replace Ch := Lib.hid (Ch.out.later hb)
 replace Ki := Lib.hid (Ki.out.below hb)
 replace Ci := Lib.hid (Ci.out.later hb)
 replace KX := Lib.hid (KX.out.below hb)
 replace CX := Lib.hid (CX.out.later hb)
 replace Kk := Lib.hid (Kk.out.below hb)
 replace Ck := Lib.hid (Ck.out.later hb)
 replace KY := Lib.hid (KY.out.below hb)
 replace CY := Lib.hid (CY.out.later hb)
 replace HU := Lib.hid (HU.out.later hb)
 replace BW := Lib.hid (below_step' BW.out hb)
 clear hb
 go_wp2_with fail
 obtain ⟨x2_0, hx0⟩ : ∃ x, x = v3.alloc (.cells #[.int .i64 1, .int .i64 0] 3) := ⟨_, rfl⟩
 have hl0 : Below v3.heap.size v3 x2_0 := by rw [hx0]; exact below_new _ _
 have s0 : x2_0.heap.size = v3.heap.size + 1 := by rw [hx0]; simp
 obtain ⟨x2_1, hx1⟩ : ∃ x, x = x2_0.alloc (.cells #[.int .i64 1, .int .i64 1] 56) := ⟨_, rfl⟩
 have hl1 : Below x2_0.heap.size x2_0 x2_1 := by rw [hx1]; exact below_new _ _
 have s1 : x2_1.heap.size = x2_0.heap.size + 1 := by rw [hx1]; simp
 obtain ⟨x2_2, hx2⟩ : ∃ x, x = x2_1.alloc (.cells #[.slice (some ⟨v3.heap.size + 1, 0, none⟩) 1 1, .slice none 0 0] 51) := ⟨_, rfl⟩
 have hl2 : Below x2_1.heap.size x2_1 x2_2 := by rw [hx2]; exact below_new _ _
 have s2 : x2_2.heap.size = x2_1.heap.size + 1 := by rw [hx2]; simp
 obtain ⟨x2_3, hx3⟩ : ∃ x, x = x2_2.alloc (.cells #[.int .i64 2, .int .i64 0] 3) := ⟨_, rfl⟩
 have hl3 : Below x2_2.heap.size x2_2 x2_3 := by rw [hx3]; exact below_new _ _
 have s3 : x2_3.heap.size = x2_2.heap.size + 1 := by rw [hx3]; simp
 have h2_0 : Has x2_0 (.slice (some ⟨v3.heap.size, 0, none⟩) 2 2) (dInts [1, 0]) := by rw [hx0]; exact has_new (w := v3) (vs := [.int .i64 1, .int .i64 0]) 3 (n := 1) (k := 2) (xs := ([1, 0] : List Int).map fun a => [dI a]) (by intro ds h; obtain ⟨_, _, rfl⟩ := List.mem_map.1 h; rfl) rfl (by decide) (by exact (hl_int (hl_int hl_nil)))
 have h2_1 : Has x2_1 (.slice (some ⟨x2_0.heap.size, 0, none⟩) 1 1) (dLinks [(1, 1)]) := by rw [hx1]; exact has_new (w := x2_0) (vs := [.int .i64 1, .int .i64 1]) 56 (n := 2) (k := 1) (xs := ([(1, 1)] : Lks).map fun p => [dI p.1, dI p.2]) (by intro ds h; obtain ⟨_, _, rfl⟩ := List.mem_map.1 h; rfl) rfl (by decide) (by exact (hl_int (hl_int hl_nil)))
 have h2_2 : Has x2_2 (.slice (some ⟨x2_1.heap.size, 0, none⟩) 2 2) (dLls [[(1, 1)], []]) := by rw [hx2, ← s0]; exact has_new (w := x2_1) (vs := [.slice (some ⟨x2_0.heap.size, 0, none⟩) 1 1, .slice none 0 0]) 51 (n := 1) (k := 2) (xs := ([[(1, 1)], []] : List Lks).map fun m => [dLinks m]) (by intro ds h; obtain ⟨_, _, rfl⟩ := List.mem_map.1 h; rfl) rfl (by decide) (by exact (hl_cons h2_1 (hl_cons (.nil _ _ _ _ _) hl_nil)))
 have h2_3 : Has x2_3 (.slice (some ⟨x2_2.heap.size, 0, none⟩) 2 2) (dInts [2, 0]) := by rw [hx3]; exact has_new (w := x2_2) (vs := [.int .i64 2, .int .i64 0]) 3 (n := 1) (k := 2) (xs := ([2, 0] : List Int).map fun a => [dI a]) (by intro ds h; obtain ⟨_, _, rfl⟩ := List.mem_map.1 h; rfl) rfl (by decide) (by exact (hl_int (hl_int hl_nil)))
 rw [← hx0, ← hx1, ← hx2, ← hx3]
 have q0 := h2_0 |>.later hl1 |>.later hl2 |>.later hl3
 have q2 := h2_2 |>.later hl3
 rw [s1, s0] at q2
 have q3 := h2_3
 rw [s2, s1, s0] at q3
 have hla := (below_step' (below_step' (below_step' hl0 hl1) hl2) hl3)
 have hlit : HasL x2_3 [.slice (some ⟨v3.heap.size, 0, none⟩) 2 2, .slice (some ⟨v3.heap.size + 1 + 1, 0, none⟩) 2 2, .slice (some ⟨v3.heap.size + 1 + 1 + 1, 0, none⟩) 2 2] X50.d := has_cf q0 q2 q3
 clear hx0 hl0 s0 hx1 hl1 s1 hx2 hl2 s2 hx3 hl3 s3 h2_0 h2_1 h2_2 h2_3 q0 q2 q3
 refine (rsame_at X50 X50 true _ _ _ _ _ _ _ (CX.out.later hla) hlit (by simp [SmallCf, X50]) (by simp [SmallCf, X50]) ⟨fun _ => rfl, fun _ => rfl⟩).mono ?_
 rintro e u3 ⟨rfl, hb⟩
 replace hb := below_step' hla hb
 clear hlit hla
 replace KA := Lib.hid (KA.out.below hb)
 replace KF := Lib.hid (KF.out.below hb)
 replace LG := Lib.hid (LG.out.below hb)
 replace HT := Lib.hid (HT.out.later hb)
 replace KC := Lib.hid (KC.out.below hb)
 replace CC := Lib.hid (CC.out.later hb)
 replace KD := Lib.hid (KD.out.below hb)
 replace CD := Lib.hid (CD.out.later hb)
 replace Kg := Lib.hid (Kg.out.below hb)
 replace Cg := Lib.hid (Cg.out.later hb)
 replace Kh := Lib.hid (Kh.out.below hb)
 replace Ch := Lib.hid (Ch.out.later hb)
 replace Ki := Lib.hid (Ki.out.below hb)
 replace Ci := Lib.hid (Ci.out.later hb)
 replace KX := Lib.hid (KX.out.below hb)
 replace CX := Lib.hid (CX.out.later hb)
 replace Kk := Lib.hid (Kk.out.below hb)
 replace Ck := Lib.hid (Ck.out.later hb)
 replace KY := Lib.hid (KY.out.below hb)
 replace CY := Lib.hid (CY.out.later hb)
 replace HU := Lib.hid (HU.out.later hb)
 replace BW := Lib.hid (below_step' BW.out hb)
 clear hb
 have pY0 := KY.out 0 _ rfl
 have pY1 := KY.out 1 _ rfl
 have pY2 := KY.out 2 _ rfl
 go_wp2_with fail
 refine (lref_at _ _ _ _ Y50 CY.out).mono ?_
 rintro e v4 ⟨rfl, hb⟩
 clear pY0 pY1 pY2
 replace KA := Lib.hid (KA.out.below hb)
 replace KF := Lib.hid (KF.out.below hb)
 replace LG := Lib.hid (LG.out.below hb)
 replace HT := Lib.hid (HT.out.later hb)
 replace KC := Lib.hid (KC.out.below hb)
 replace CC := Lib.hid (CC.out.later hb)
 replace KD := Lib.hid (KD.out.below hb)
 replace CD := Lib.hid (CD.out.later hb)
 replace Kg := Lib.hid (Kg.out.below hb)
 replace Cg := Lib.hid (Cg.out.later hb)
 replace Kh := Lib.hid (Kh.out.below hb)
 replace Ch := Lib.hid (Ch.out.later hb)
 replace Ki := Lib.hid (Ki.out.below hb)
 replace Ci := Lib.hid (Ci.out.later hb)
 replace KX := Lib.hid (KX.out.below hb)
 replace CX := Lib.hid (CX.out.later hb)
 replace Kk := Lib.hid (Kk.out.below hb)
 replace Ck := Lib.hid (Ck.out.later hb)
 replace KY := Lib.hid (KY.out.below hb)
 replace CY := Lib.hid (CY.out.later hb)
 replace HU := Lib.hid (HU.out.later hb)
 replace BW := Lib.hid (below_step' BW.out hb)
 clear hb
 go_wp2_with fail
 obtain ⟨x3_0, hx0⟩ : ∃ x, x = v4.alloc (.cells #[.int .i64 1, .int .i64 1] 3) := ⟨_, rfl⟩
 have hl0 : Below v4.heap.size v4 x3_0 := by rw [hx0]; exact below_new _ _
 have s0 : x3_0.heap.size = v4.heap.size + 1 := by rw [hx0]; simp
 obtain ⟨x3_1, hx1⟩ : ∃ x, x = x3_0.alloc (.cells #[.int .i64 2, .int .i64 2] 56) := ⟨_, rfl⟩
 have hl1 : Below x3_0.heap.size x3_0 x3_1 := by rw [hx1]; exact below_new _ _
 have s1 : x3_1.heap.size = x3_0.heap.size + 1 := by rw [hx1]; simp
 obtain ⟨x3_2, hx2⟩ : ∃ x, x = x3_1.alloc (.cells #[.slice (some ⟨v4.heap.size + 1, 0, none⟩) 1 1, .slice none 0 0] 51) := ⟨_, rfl⟩
 have hl2 : Below x3_1.heap.size x3_1 x3_2 := by rw [hx2]; exact below_new _ _
 have s2 : x3_2.heap.size = x3_1.heap.size + 1 := by rw [hx2]; simp
 obtain ⟨x3_3, hx3⟩ : ∃ x, x = x3_2.alloc (.cells #[.int .i64 2, .int .i64 0] 3) := ⟨_, rfl⟩
 have hl3 : Below x3_2.heap.size x3_2 x3_3 := by rw [hx3]; exact below_new _ _
 have s3 : x3_3.heap.size = x3_2.heap.size + 1 := by rw [hx3]; simp
 have h3_0 : Has x3_0 (.slice (some ⟨v4.heap.size, 0, none⟩) 2 2) (dInts [1, 1]) := by rw [hx0]; exact has_new (w := v4) (vs := [.int .i64 1, .int .i64 1]) 3 (n := 1) (k := 2) (xs := ([1, 1] : List Int).map fun a => [dI a]) (by intro ds h; obtain ⟨_, _, rfl⟩ := List.mem_map.1 h; rfl) rfl (by decide) (by exact (hl_int (hl_int hl_nil)))
 have h3_1 : Has x3_1 (.slice (some ⟨x3_0.heap.size, 0, none⟩) 1 1) (dLinks [(2, 2)]) := by rw [hx1]; exact has_new (w := x3_0) (vs := [.int .i64 2, .int .i64 2]) 56 (n := 2) (k := 1) (xs := ([(2, 2)] : Lks).map fun p => [dI p.1, dI p.2]) (by intro ds h; obtain ⟨_, _, rfl⟩ := List.mem_map.1 h; rfl) rfl (by decide) (by exact (hl_int (hl_int hl_nil)))
 have h3_2 : Has x3_2 (.slice (some ⟨x3_1.heap.size, 0, none⟩) 2 2) (dLls [[(2, 2)], []]) := by rw [hx2, ← s0]; exact has_new (w := x3_1) (vs := [.slice (some ⟨x3_0.heap.size, 0, none⟩) 1 1, .slice none 0 0]) 51 (n := 1) (k := 2) (xs := ([[(2, 2)], []] : List Lks).map fun m => [dLinks m]) (by intro ds h; obtain ⟨_, _, rfl⟩ := List.mem_map.1 h; rfl) rfl (by decide) (by exact (hl_cons h3_1 (hl_cons (.nil _ _ _ _ _) hl_nil)))
 have h3_3 : Has x3_3 (.slice (some ⟨x3_2.heap.size, 0, none⟩) 2 2) (dInts [2, 0]) := by rw [hx3]; exact has_new (w := x3_2) (vs := [.int .i64 2, .int .i64 0]) 3 (n := 1) (k := 2) (xs := ([2, 0] : List Int).map fun a => [dI a]) (by intro ds h; obtain ⟨_, _, rfl⟩ := List.mem_map.1 h; rfl) rfl (by decide) (by exact (hl_int (hl_int hl_nil)))
 rw [← hx0, ← hx1, ← hx2, ← hx3]
 have q0 := h3_0 |>.later hl1 |>.later hl2 |>.later hl3
 have q2 := h3_2 |>.later hl3
 rw [s1, s0] at q2
 have q3 := h3_3
 rw [s2, s1, s0] at q3
 have hla := (below_step' (below_step' (below_step' hl0 hl1) hl2) hl3)
 have hlit : HasL x3_3 [.slice (some ⟨v4.heap.size, 0, none⟩) 2 2, .slice (some ⟨v4.heap.size + 1 + 1, 0, none⟩) 2 2, .slice (some ⟨v4.heap.size + 1 + 1 + 1, 0, none⟩) 2 2] Y50.d := has_cf q0 q2 q3
 clear hx0 hl0 s0 hx1 hl1 s1 hx2 hl2 s2 hx3 hl3 s3 h3_0 h3_1 h3_2 h3_3 q0 q2 q3
 refine (rsame_at Y50 Y50 true _ _ _ _ _ _ _ (CY.out.later hla) hlit (by simp [SmallCf, Y50]) (by simp [SmallCf, Y50]) ⟨fun _ => rfl, fun _ => rfl⟩).mono ?_
 rintro e u4 ⟨rfl, hb⟩
 replace hb := below_step' hla hb
 clear hlit hla
 replace KA := Lib.hid (KA.out.below hb)
 replace KF := Lib.hid (KF.out.below hb)
 replace LG := Lib.hid (LG.out.below hb)
 replace HT := Lib.hid (HT.out.later hb)
 replace KC := Lib.hid (KC.out.below hb)
 replace CC := Lib.hid (CC.out.later hb)
 replace KD := Lib.hid (KD.out.below hb)
 replace CD := Lib.hid (CD.out.later hb)
 replace Kg := Lib.hid (Kg.out.below hb)
 replace Cg := Lib.hid (Cg.out.later hb)
 replace Kh := Lib.hid (Kh.out.below hb)
 replace Ch := Lib.hid (Ch.out.later hb)
 replace Ki := Lib.hid (Ki.out.below hb)
 replace Ci := Lib.hid (Ci.out.later hb)
 replace KX := Lib.hid (KX.out.below hb)
 replace CX := Lib.hid (CX.out.later hb)
 replace Kk := Lib.hid (Kk.out.below hb)
 replace Ck := Lib.hid (Ck.out.later hb)
 replace KY := Lib.hid (KY.out.below hb)
 replace CY := Lib.hid (CY.out.later hb)
 replace HU := Lib.hid (HU.out.later hb)
 replace BW := Lib.hid (below_step' BW.out hb)
 clear hb
 go_wp2_with fail
 refine (lsteps_at [⟨1, 0, 0, 0, 1⟩] _ _ HU.out (by decide)).mono ?_
 rintro e v5 ⟨uS, rfl, hu, hb⟩
 replace KA := Lib.hid (KA.out.below hb)
 replace KF := Lib.hid (KF.out.below hb)
 replace LG := Lib.hid (LG.out.below hb)
 replace HT := Lib.hid (HT.out.later hb)
 replace KC := Lib.hid (KC.out.below hb)
 replace CC := Lib.hid (CC.out.later hb)
 replace KD := Lib.hid (KD.out.below hb)
 replace CD := Lib.hid (CD.out.later hb)
 replace Kg := Lib.hid (Kg.out.below hb)
 replace Cg := Lib.hid (Cg.out.later hb)
 replace Kh := Lib.hid (Kh.out.below hb)
 replace Ch := Lib.hid (Ch.out.later hb)
 replace Ki := Lib.hid (Ki.out.below hb)
 replace Ci := Lib.hid (Ci.out.later hb)
 replace KX := Lib.hid (KX.out.below hb)
 replace CX := Lib.hid (CX.out.later hb)
 replace Kk := Lib.hid (Kk.out.below hb)
 replace Ck := Lib.hid (Ck.out.later hb)
 replace KY := Lib.hid (KY.out.below hb)
 replace CY := Lib.hid (CY.out.later hb)
 replace HU := Lib.hid (HU.out.later hb)
 replace BW := Lib.hid (below_step' BW.out hb)
 have HV := Lib.hid hu
 clear hu hb
 go_wp2_with fail
 obtain ⟨x5, hx⟩ : ∃ x, x = v5.alloc (.cells #[.int .i64 1, .int .i64 0, .int .i64 0, .int .i64 0, .int .i64 1] 80) := ⟨_, rfl⟩
 have hl : Below v5.heap.size v5 x5 := by rw [hx]; exact below_new _ _
 have hs : Has x5 (.slice (some ⟨v5.heap.size, 0, none⟩) 1 1) (dSteps [⟨1, 0, 0, 0, 1⟩]) := by rw [hx]; exact has_new (w := v5) (vs := [.int .i64 1, .int .i64 0, .int .i64 0, .int .i64 0, .int .i64 1]) 80 (n := 5) (k := 1) (xs := ([⟨1, 0, 0, 0, 1⟩] : List Sp).map Sp.d) (by intro ds h; obtain ⟨_, _, rfl⟩ := List.mem_map.1 h; rfl) rfl (by decide) (by exact (hl_int (hl_int (hl_int (hl_int (hl_int hl_nil))))))
 rw [← hx]
 replace KA := Lib.hid (KA.out.below hl)
 replace KF := Lib.hid (KF.out.below hl)
 replace LG := Lib.hid (LG.out.below hl)
 replace HT := Lib.hid (HT.out.later hl)
 replace KC := Lib.hid (KC.out.below hl)
 replace CC := Lib.hid (CC.out.later hl)
 replace KD := Lib.hid (KD.out.below hl)
 replace CD := Lib.hid (CD.out.later hl)
 replace Kg := Lib.hid (Kg.out.below hl)
 replace Cg := Lib.hid (Cg.out.later hl)
 replace Kh := Lib.hid (Kh.out.below hl)
 replace Ch := Lib.hid (Ch.out.later hl)
 replace Ki := Lib.hid (Ki.out.below hl)
 replace Ci := Lib.hid (Ci.out.later hl)
 replace KX := Lib.hid (KX.out.below hl)
 replace CX := Lib.hid (CX.out.later hl)
 replace Kk := Lib.hid (Kk.out.below hl)
 replace Ck := Lib.hid (Ck.out.later hl)
 replace KY := Lib.hid (KY.out.below hl)
 replace CY := Lib.hid (CY.out.later hl)
 replace HU := Lib.hid (HU.out.later hl)
 replace HV := Lib.hid (HV.out.later hl)
 replace BW := Lib.hid (below_step' BW.out hl)
 clear hx hl
 refine (rsteps_at [⟨1, 0, 0, 0, 1⟩] [⟨1, 0, 0, 0, 1⟩] true _ _ _ HV.out hs (by decide) ⟨fun _ => rfl, fun _ => rfl⟩).mono ?_
 rintro e u5 ⟨rfl, hb⟩
 replace KA := Lib.hid (KA.out.below hb)
 replace KF := Lib.hid (KF.out.below hb)
 replace LG := Lib.hid (LG.out.below hb)
 replace HT := Lib.hid (HT.out.later hb)
 replace KC := Lib.hid (KC.out.below hb)
 replace CC := Lib.hid (CC.out.later hb)
 replace KD := Lib.hid (KD.out.below hb)
 replace CD := Lib.hid (CD.out.later hb)
 replace Kg := Lib.hid (Kg.out.below hb)
 replace Cg := Lib.hid (Cg.out.later hb)
 replace Kh := Lib.hid (Kh.out.below hb)
 replace Ch := Lib.hid (Ch.out.later hb)
 replace Ki := Lib.hid (Ki.out.below hb)
 replace Ci := Lib.hid (Ci.out.later hb)
 replace KX := Lib.hid (KX.out.below hb)
 replace CX := Lib.hid (CX.out.later hb)
 replace Kk := Lib.hid (Kk.out.below hb)
 replace Ck := Lib.hid (Ck.out.later hb)
 replace KY := Lib.hid (KY.out.below hb)
 replace CY := Lib.hid (CY.out.later hb)
 replace HU := Lib.hid (HU.out.later hb)
 replace HV := Lib.hid (HV.out.later hb)
 replace BW := Lib.hid (below_step' BW.out hb)
 clear hb hs
 have pA0 := KA.out 0 _ rfl
 have pA1 := KA.out 1 _ rfl
 have pA2 := KA.out 2 _ rfl
 have pA3 := KA.out 3 _ rfl
 have pD0 := KD.out 0 _ rfl
 have pD1 := KD.out 1 _ rfl
 have pD2 := KD.out 2 _ rfl
 go_wp2_with fail
 refine (can_at A5 D50 d50OK t5Small _ _ _ _ _ _ LG.out HT.out CD.out).mono ?_
 rintro e u6 ⟨u, rfl, hu, hb⟩
 clear pA0 pA1 pA2 pA3 pD0 pD1 pD2
 obtain ⟨sa6, sc6, ee⟩ := slice_of hu
 subst ee
 rw [can50']
 replace KA := Lib.hid (KA.out.below hb)
 replace KF := Lib.hid (KF.out.below hb)
 replace LG := Lib.hid (LG.out.below hb)
 replace HT := Lib.hid (HT.out.later hb)
 replace KC := Lib.hid (KC.out.below hb)
 replace CC := Lib.hid (CC.out.later hb)
 replace KD := Lib.hid (KD.out.below hb)
 replace CD := Lib.hid (CD.out.later hb)
 replace Kg := Lib.hid (Kg.out.below hb)
 replace Cg := Lib.hid (Cg.out.later hb)
 replace Kh := Lib.hid (Kh.out.below hb)
 replace Ch := Lib.hid (Ch.out.later hb)
 replace Ki := Lib.hid (Ki.out.below hb)
 replace Ci := Lib.hid (Ci.out.later hb)
 replace KX := Lib.hid (KX.out.below hb)
 replace CX := Lib.hid (CX.out.later hb)
 replace Kk := Lib.hid (Kk.out.below hb)
 replace Ck := Lib.hid (Ck.out.later hb)
 replace KY := Lib.hid (KY.out.below hb)
 replace CY := Lib.hid (CY.out.later hb)
 replace HU := Lib.hid (HU.out.later hb)
 replace HV := Lib.hid (HV.out.later hb)
 replace BW := Lib.hid (below_step' BW.out hb)
 clear hu hb
 have pC0 := KC.out 0 _ rfl
 have pC1 := KC.out 1 _ rfl
 have pC2 := KC.out 2 _ rfl
 go_wp2_with fail
 refine (same_at C50 C50 true _ _ _ _ _ _ _ CC.out CC.out (by simp [SmallCf, C50]) ⟨fun _ => rfl, fun _ => rfl⟩).mono ?_
 rintro e u7 ⟨rfl, hb⟩
 clear pC0 pC1 pC2
 replace KA := Lib.hid (KA.out.below hb)
 replace KF := Lib.hid (KF.out.below hb)
 replace LG := Lib.hid (LG.out.below hb)
 replace HT := Lib.hid (HT.out.later hb)
 replace KC := Lib.hid (KC.out.below hb)
 replace CC := Lib.hid (CC.out.later hb)
 replace KD := Lib.hid (KD.out.below hb)
 replace CD := Lib.hid (CD.out.later hb)
 replace Kg := Lib.hid (Kg.out.below hb)
 replace Cg := Lib.hid (Cg.out.later hb)
 replace Kh := Lib.hid (Kh.out.below hb)
 replace Ch := Lib.hid (Ch.out.later hb)
 replace Ki := Lib.hid (Ki.out.below hb)
 replace Ci := Lib.hid (Ci.out.later hb)
 replace KX := Lib.hid (KX.out.below hb)
 replace CX := Lib.hid (CX.out.later hb)
 replace Kk := Lib.hid (Kk.out.below hb)
 replace Ck := Lib.hid (Ck.out.later hb)
 replace KY := Lib.hid (KY.out.below hb)
 replace CY := Lib.hid (CY.out.later hb)
 replace HU := Lib.hid (HU.out.later hb)
 replace HV := Lib.hid (HV.out.later hb)
 replace BW := Lib.hid (below_step' BW.out hb)
 clear hb
 have pC0 := KC.out 0 _ rfl
 have pC1 := KC.out 1 _ rfl
 have pC2 := KC.out 2 _ rfl
 have pD0 := KD.out 0 _ rfl
 have pD1 := KD.out 1 _ rfl
 have pD2 := KD.out 2 _ rfl
 go_wp2_with fail
 refine (same_at C50 D50 false _ _ _ _ _ _ _ CC.out CD.out (by simp [SmallCf, C50]) ⟨fun h => (by cases h), fun h => absurd h (by simp [C50, D50])⟩).mono ?_
 rintro e u8 ⟨rfl, hb⟩
 clear pC0 pC1 pC2 pD0 pD1 pD2
 replace KA := Lib.hid (KA.out.below hb)
 replace KF := Lib.hid (KF.out.below hb)
 replace LG := Lib.hid (LG.out.below hb)
 replace HT := Lib.hid (HT.out.later hb)
 replace KC := Lib.hid (KC.out.below hb)
 replace CC := Lib.hid (CC.out.later hb)
 replace KD := Lib.hid (KD.out.below hb)
 replace CD := Lib.hid (CD.out.later hb)
 replace Kg := Lib.hid (Kg.out.below hb)
 replace Cg := Lib.hid (Cg.out.later hb)
 replace Kh := Lib.hid (Kh.out.below hb)
 replace Ch := Lib.hid (Ch.out.later hb)
 replace Ki := Lib.hid (Ki.out.below hb)
 replace Ci := Lib.hid (Ci.out.later hb)
 replace KX := Lib.hid (KX.out.below hb)
 replace CX := Lib.hid (CX.out.later hb)
 replace Kk := Lib.hid (Kk.out.below hb)
 replace Ck := Lib.hid (Ck.out.later hb)
 replace KY := Lib.hid (KY.out.below hb)
 replace CY := Lib.hid (CY.out.later hb)
 replace HU := Lib.hid (HU.out.later hb)
 replace HV := Lib.hid (HV.out.later hb)
 replace BW := Lib.hid (below_step' BW.out hb)
 clear hb
 go_wp2_with fail
 go_ret
 exact ⟨rfl, BW.out⟩
end Go.Proofs.Ytennbiajnkobnaa

