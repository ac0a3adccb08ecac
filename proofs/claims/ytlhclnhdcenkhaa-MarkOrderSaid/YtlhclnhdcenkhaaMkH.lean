/- Marks: Begin, Marker, App. Written by gen_mark1.py. -/
import Derived.Test.YtlhclnhdcenkhaaMkG
set_option linter.unusedSimpArgs false
set_option linter.unusedVariables false
set_option maxRecDepth 100000
namespace Go.Proofs.Ytlhclnhdcenkhaa
open Go.RowKit Go.PlainAid

set_option maxHeartbeats 8000000 in
theorem begin_at (h : Hs) (ep : Int) (v1 v2 : Value) (w : World) (g : HasL w [v1, v2] h.d) (hs : SmallHs h) (h6 : h.inn.length ≤ 6) : Calls Try.prog 19 #[hsv h v1 v2, .int .i64 ep] w (MkTold (beginM h ep) w) := by
  have PC := Lib.hid (fun (w' : World) (hb : Below w.heap.size w w') => hpiece_at h v1 v2 w' (g.later hb) hs)
  obtain ⟨g1, g2⟩ := hs_has g
  obtain ⟨a1, e1, ee1⟩ := slice_of g1
  obtain ⟨a2, e2, ee2⟩ := slice_of g2
  subst ee1
  subst ee2
  obtain ⟨n1, hn1⟩ : ∃ n, n = h.inn.length := ⟨_, rfl⟩
  obtain ⟨n2, hn2⟩ : ∃ n, n = h.out.length := ⟨_, rfl⟩
  obtain ⟨q0, hq0⟩ : ∃ e, e = h.node := ⟨_, rfl⟩
  obtain ⟨q1, hq1⟩ : ∃ e, e = h.state := ⟨_, rfl⟩
  obtain ⟨q2, hq2⟩ : ∃ e, e = h.steps := ⟨_, rfl⟩
  rw [← hn1] at h6 PC ⊢
  rw [← hn2] at PC ⊢
  have BO : Hid ((beginM h ep).op = List.replicate n1 true ∧ (beginM h ep).p = tellP h) := Lib.hid ⟨by rw [hn1]; rfl, rfl⟩
  have PQ : Hid (∀ x y z, pcv (tellP h) x y z = .agg #[.int .i64 q0, .int .i64 q1, .int .i64 q2, x, y, z]) := Lib.hid (fun x y z => by rw [hq0, hq1, hq2]; rfl)
  have MQ : Hid (∀ v x y z, mkv (beginM h ep) v x y z = .agg #[.int .i64 ep, v, .int .i64 q0, .int .i64 q1, .int .i64 q2, x, y, z]) := Lib.hid (fun v x y z => by rw [hq0, hq1, hq2]; rfl)
  unfold hsv at PC ⊢
  rw [← hq0, ← hq1, ← hq2] at PC ⊢
  clear g g1 g2 hs hn1 hn2 hq0 hq1 hq2
  go_enter Try.func19, Try.ntmps19
  go_upto_region 1 with fail
  obtain ⟨bh, hbh⟩ : ∃ b, b = w.heap.size := ⟨_, rfl⟩
  obtain ⟨br, hbr⟩ : ∃ b, b = w.heap.size + 1 := ⟨_, rfl⟩
  obtain ⟨y1, hy1⟩ : ∃ y, y = w.alloc (.cells #[.int .i64 q0, .int .i64 q1, .int .i64 q2, .slice a1 n1 e1, .slice a2 n2 e2] 26) := ⟨_, rfl⟩
  obtain ⟨y0, hy0⟩ : ∃ y, y = y1.alloc (.cells #[.int .i64 0, .slice none 0 0, .int .i64 0, .int .i64 0, .int .i64 0, .slice none 0 0, .slice none 0 0, .slice none 0 0] 33) := ⟨_, rfl⟩
  have z1 : y1.heap.size = br := by rw [hy1, size_new, hbr]
  have b1 : Below w.heap.size w y1 := by rw [hy1]; exact below_new _ _
  have b2 : Below y1.heap.size y1 y0 := by rw [hy0]; exact below_new _ _
  have KH : Hid (BoxAt bh [.int .i64 q0, .int .i64 q1, .int .i64 q2, .slice a1 n1 e1, .slice a2 n2 e2] y0) := Lib.hid (by rw [hbh]; exact BoxAt.below (by rw [hy1]; exact boxAt_new w [.int .i64 q0, .int .i64 q1, .int .i64 q2, .slice a1 n1 e1, .slice a2 n2 e2] _) b2)
  have K1 : Hid (BoxAt br [.int .i64 0, .slice none 0 0, .int .i64 0, .int .i64 0, .int .i64 0, .slice none 0 0, .slice none 0 0, .slice none 0 0] y0) := Lib.hid (by rw [← z1, hy0]; exact boxAt_new y1 [.int .i64 0, .slice none 0 0, .int .i64 0, .int .i64 0, .int .i64 0, .slice none 0 0, .slice none 0 0, .slice none 0 0] _)
  have O1 : Hid (Open8 br y0) := Lib.hid (by rw [← z1, hy0]; exact Open8.new _ _ _)
  have B0 := Lib.hid (below_step' b1 b2)
  have RR : Hid (w.heap.size ≤ br ∧ bh ≠ br) := Lib.hid (by omega)
  rw [← hy1, ← hy0, ← hbr, ← hbh]
  clear hy1 hy0 z1 b1 b2 hbh hbr
  have SS : Hid (∀ w', Below y0.heap.size y0 w' → (fun w' => w'.cell? ⟨bh, 0, none⟩ = some (.int .i64 q0) ∧ w'.cell? ⟨bh, 1, none⟩ = some (.int .i64 q1) ∧ w'.cell? ⟨bh, 2, none⟩ = some (.int .i64 q2) ∧ w'.cell? ⟨bh, 3, none⟩ = some (.slice a1 n1 e1) ∧ w'.cell? ⟨bh, 4, none⟩ = some (.slice a2 n2 e2)) w') := Lib.hid (fun w' hb => ⟨KH.out.below hb 0 _ rfl, KH.out.below hb 1 _ rfl, KH.out.below hb 2 _ rfl, KH.out.below hb 3 _ rfl, KH.out.below hb 4 _ rfl⟩)
  refine wp_region_held_drew (S := (fun w' => w'.cell? ⟨bh, 0, none⟩ = some (.int .i64 q0) ∧ w'.cell? ⟨bh, 1, none⟩ = some (.int .i64 q1) ∧ w'.cell? ⟨bh, 2, none⟩ = some (.int .i64 q2) ∧ w'.cell? ⟨bh, 3, none⟩ = some (.slice a1 n1 e1) ∧ w'.cell? ⟨bh, 4, none⟩ = some (.slice a2 n2 e2))) (by kernel_rfl) ?_ (fun hHeld => ?_)
  · exact SS.out _ (below_drewN (Below.refl _ y0) 1)
  obtain ⟨yb, hyb⟩ : ∃ y, y = y0.drew := ⟨_, rfl⟩
  rw [← hyb] at hHeld ⊢
  have BYb : Hid (Below y0.heap.size y0 yb) := Lib.hid (by rw [hyb]; exact below_drewN (Below.refl _ y0) 1)
  clear hyb
  refine tq 0 ?_
  refine tq 2 ?_
  refine tq 6 ?_
  refine tq 3 ?_
  refine tq 4 ?_
  refine rd 1 fun K hK => ?_
  go_simp
  obtain ⟨bt, hbt⟩ : ∃ b, b = yb.heap.size := ⟨_, rfl⟩
  obtain ⟨yt, hyt⟩ : ∃ y, y = yb.alloc (.cells #[.bool true] 4) := ⟨_, rfl⟩
  have BT : Hid (Below y0.heap.size y0 yt) := Lib.hid (by rw [hyt]; exact below_step' BYb.out (below_new _ _))
  have CT : Hid (yt.cell? ⟨bt, 0, none⟩ = some (.bool true)) := Lib.hid (by rw [hbt, hyt]; exact boxAt_new yb [.bool true] _ 0 _ rfl)
  rw [← hyt, ← hbt]
  clear hyt hbt
  refine hK.out _ _ ?_ (fun hHeld => ?_)
  · exact SS.out _ BT.out
  clear hK K
  refine rd 5 fun K hK => ?_
  go_simp
  refine (repB_at bt n1 yt h6 CT.out).mono ?_
  rintro e w1 ⟨u0, k0, f0, rfl, hU, hb⟩
  have U0 := Lib.hid hU
  have B1 := Lib.hid hb
  have BW1 := Lib.hid (below_step' BT.out hb)
  clear hU hb
  go_wp2_with fail
  refine hK.out _ _ ?_ (fun hHeld => ?_)
  · exact SS.out _ BW1.out
  clear hK K
  refine rd 7 fun K hK => ?_
  go_simp
  refine (PC.out _ (below_step' B0.out BW1.out)).mono ?_
  rintro e w2 ⟨v1, v2, v3, rfl, hU, hb⟩
  obtain ⟨u1, u2, u3, k1, k2, k3, f1, f2, f3, ee1, ee2, ee3⟩ := pc_slices hU.weak
  subst ee1
  subst ee2
  subst ee3
  have e9 : PC.out = PC.out := rfl
  have HL : Hid (HoldsL True (fun q => yt.heap.size ≤ q) w2 [.slice u0 k0 f0, .slice u1 k1 f1, .slice u2 k2 f2, .slice u3 k3 f3] (beginM h ep).d) := Lib.hid (by
    have e : (beginM h ep).d = [dBools (List.replicate n1 true)] ++ (tellP h).d := by unfold Mk.d; rw [BO.out.1, BO.out.2]; rfl
    rw [e]
    exact (((holdsL_one (U0.out.wide (P' := fun q => yt.heap.size ≤ q ∧ q < w1.heap.size) (fun q hq hq2 => ⟨hq2, hq⟩))).later hb).append hU (fun _ k a b => absurd a.2 (Nat.not_lt.2 b))).wide (P' := fun q => yt.heap.size ≤ q) (fun q _ h => h.elim (·.1) (fun h => Nat.le_trans B1.out.size h)))
  rw [PQ.out]
  have B2 := Lib.hid (below_step' BW1.out hb)
  clear hU hb e9 PC
  go_wp2_with fail
  refine hK.out _ _ ?_ (fun hHeld => ?_)
  · exact SS.out _ B2.out
  clear hK K
  refine tq 8 ?_
  have KR := Lib.hid (K1.out.below B2.out)
  have OR := Lib.hid (O1.out.below B2.out)
  have r0 := KR.out 0 _ rfl
  have r1 := KR.out 1 _ rfl
  have r2 := KR.out 2 _ rfl
  have r3 := KR.out 3 _ rfl
  have r4 := KR.out 4 _ rfl
  have r5 := KR.out 5 _ rfl
  have r6 := KR.out 6 _ rfl
  have r7 := KR.out 7 _ rfl
  have g0 := OR.out.2 0
  have g1 := OR.out.2 1
  have g2 := OR.out.2 2
  have g3 := OR.out.2 3
  have g4 := OR.out.2 4
  have g5 := OR.out.2 5
  have g6 := OR.out.2 6
  have g7 := OR.out.2 7
  have KHS : Hid (BoxAt bh [.int .i64 q0, .int .i64 q1, .int .i64 q2, .slice a1 n1 e1, .slice a2 n2 e2] (setN w2 br 0 [.int .i64 ep, .slice u0 k0 f0, .int .i64 q0, .int .i64 q1, .int .i64 q2, .slice u1 k1 f1, .slice u2 k2 f2, .slice u3 k3 f3])) := Lib.hid (setN_far RR.out.2 (KH.out.below B2.out))
  have HL2 := Lib.hid (HL.out.wide (P' := fun q => y0.heap.size ≤ q) (fun q _ hq => Nat.le_trans BT.out.size hq))
  refine rd 9 fun K hK => ?_
  go_simp
  refine hK.out _ _ ?_ (fun hHeld => ?_)
  · exact ⟨KHS.out 0 _ rfl, KHS.out 1 _ rfl, KHS.out 2 _ rfl, KHS.out 3 _ rfl, KHS.out 4 _ rfl⟩
  clear hK K
  refine wpAnyH_done (by kernel_rfl) ?_ _
  have BW2 := Lib.hid (below_step' B0.out B2.out)
  clear r0 r1 r2 r3 r4 r5 r6 r7 g0 g1 g2 g3 g4 g5 g6 g7 HL
  go_wp2_with fail
  change bodyPost _ _ _ Exit.ret _ (setN w2 br 0 [.int .i64 ep, .slice u0 k0 f0, .int .i64 q0, .int .i64 q1, .int .i64 q2, .slice u1 k1 f1, .slice u2 k2 f2, .slice u3 k3 f3])
  have HB : BoxAt br [.int .i64 ep, .slice u0 k0 f0, .int .i64 q0, .int .i64 q1, .int .i64 q2, .slice u1 k1 f1, .slice u2 k2 f2, .slice u3 k3 f3] (setN w2 br 0 [.int .i64 ep, .slice u0 k0 f0, .int .i64 q0, .int .i64 q1, .int .i64 q2, .slice u1 k1 f1, .slice u2 k2 f2, .slice u3 k3 f3]) := setN_box [.int .i64 ep, .slice u0 k0 f0, .int .i64 q0, .int .i64 q1, .int .i64 q2, .slice u1 k1 f1, .slice u2 k2 f2, .slice u3 k3 f3] 0 _ w2 KR.out (by simp)
  have HLf := (HL2.out.same (setN_same (P := fun q => y0.heap.size ≤ q) (b := br) (fun h => Nat.lt_irrefl _ (Nat.lt_of_lt_of_le O1.out.1 h)) [.int .i64 ep, .slice u0 k0 f0, .int .i64 q0, .int .i64 q1, .int .i64 q2, .slice u1 k1 f1, .slice u2 k2 f2, .slice u3 k3 f3] 0 w2 (SameOn.refl _ _))).wide (P' := fun q => w.heap.size ≤ q) (fun q _ h => Nat.le_trans B0.out.size h)
  have Bf := setN_below RR.out.1 [.int .i64 ep, .slice u0 k0 f0, .int .i64 q0, .int .i64 q1, .int .i64 q2, .slice u1 k1 f1, .slice u2 k2 f2, .slice u3 k3 f3] 0 w2 BW2.out
  exact bodyPost_ret (v := .agg #[.int .i64 ep, .slice u0 k0 f0, .int .i64 q0, .int .i64 q1, .int .i64 q2, .slice u1 k1 f1, .slice u2 k2 f2, .slice u3 k3 f3]) (by simp [results, Try.results19, go_sem, HB 0 _ rfl, HB 1 _ rfl, HB 2 _ rfl, HB 3 _ rfl, HB 4 _ rfl, HB 5 _ rfl, HB 6 _ rfl, HB 7 _ rfl]) rfl ⟨_, _, _, _, by rw [MQ.out], HLf, Bf⟩
set_option maxHeartbeats 8000000 in
theorem app_at (m : Mk) (at' : Int) (x : Int × Int) (v0 v1 v2 v3 : Value) (w : World) (h : HasL w [v0, v1, v2, v3] m.d) (hs : SmallMk m) (hi : openB m.op at' = true → at'.toNat < m.p.inn.length) :
    Calls Try.prog 13 #[mkv m v0 v1 v2 v3, .int .i64 at', .agg #[.int .i64 x.1, .int .i64 x.2]] w (MkTold (appM m at' x) w) := by
  have CH := Lib.hid (fun (w' : World) (hb : Below w.heap.size w w') (ba bx : Nat) (ha : w'.cell? ⟨ba, 0, none⟩ = some (.int .i64 at')) (hx0 : w'.cell? ⟨bx, 0, none⟩ = some (.int .i64 x.1)) (hx1 : w'.cell? ⟨bx, 1, none⟩ = some (.int .i64 x.2)) (ua : Option Addr) (un uc : Nat) (e : v0 = .slice ua un uc) => chA_at m v0 v1 v2 v3 at' ba bx x m.op ua un uc w' (h.later hb) hs (by rw [← e]; exact (mk_has h).1.later hb) ha hx0 hx1 hi)
  obtain ⟨a0, a1, a2, a3, n0, n1, n2, n3, e0, e1, e2, e3, ee0, ee1, ee2, ee3⟩ := mk_slices h
  subst ee0
  subst ee1
  subst ee2
  subst ee3
  obtain ⟨ep, hep⟩ : ∃ e, e = m.ep := ⟨_, rfl⟩
  obtain ⟨p0, hp0⟩ : ∃ e, e = m.p.node := ⟨_, rfl⟩
  obtain ⟨p1, hp1⟩ : ∃ e, e = m.p.state := ⟨_, rfl⟩
  obtain ⟨p2, hp2⟩ : ∃ e, e = m.p.steps := ⟨_, rfl⟩
  have MQ : Hid (∀ v x y z, mkv m v x y z = .agg #[.int .i64 ep, v, .int .i64 p0, .int .i64 p1, .int .i64 p2, x, y, z]) := Lib.hid (fun v x y z => by rw [hep, hp0, hp1, hp2])
  rw [MQ.out]
  obtain ⟨mr, hmr⟩ : ∃ r, r = appM m at' x := ⟨_, rfl⟩
  have MR : Hid (mr = if openB m.op at' then getM m at' x else m) := Lib.hid hmr
  have MN : Hid (∀ v x y z, mkv mr v x y z = .agg #[.int .i64 ep, v, .int .i64 p0, .int .i64 p1, .int .i64 p2, x, y, z]) := Lib.hid (fun v x y z => by rw [hmr, hep, hp0, hp1, hp2]; unfold appM; split <;> rfl)
  rw [← hmr]
  rw [show (if openB m.op at' = true then getM m at' x else m) = mr from hmr.symm] at CH
  rw [MQ.out] at CH
  obtain ⟨x1, x2⟩ := x
  clear h hs hi hep hp0 hp1 hp2 hmr MR
  go_enter Try.func13, Try.ntmps13
  go_upto_region 1 with fail
  obtain ⟨bm, hbm⟩ : ∃ b, b = w.heap.size := ⟨_, rfl⟩
  obtain ⟨ba, hba⟩ : ∃ b, b = w.heap.size + 1 := ⟨_, rfl⟩
  obtain ⟨bx, hbx⟩ : ∃ b, b = w.heap.size + 1 + 1 := ⟨_, rfl⟩
  obtain ⟨br, hbr⟩ : ∃ b, b = w.heap.size + 1 + 1 + 1 := ⟨_, rfl⟩
  obtain ⟨y1, hy1⟩ : ∃ y, y = w.alloc (.cells #[.int .i64 ep, .slice a0 n0 e0, .int .i64 p0, .int .i64 p1, .int .i64 p2, .slice a1 n1 e1, .slice a2 n2 e2, .slice a3 n3 e3] 33) := ⟨_, rfl⟩
  obtain ⟨y2, hy2⟩ : ∃ y, y = y1.alloc (.cells #[.int .i64 at'] 3) := ⟨_, rfl⟩
  obtain ⟨y3, hy3⟩ : ∃ y, y = y2.alloc (.cells #[.int .i64 x1, .int .i64 x2] 38) := ⟨_, rfl⟩
  obtain ⟨y0, hy0⟩ : ∃ y, y = y3.alloc (.cells #[.int .i64 0, .slice none 0 0, .int .i64 0, .int .i64 0, .int .i64 0, .slice none 0 0, .slice none 0 0, .slice none 0 0] 33) := ⟨_, rfl⟩
  have d0 : Below w.heap.size w y1 := by rw [hy1]; exact below_new _ _
  have z1 : y1.heap.size = ba := by rw [hy1, size_new, hba]
  have d1 : Below y1.heap.size y1 y2 := by rw [hy2]; exact below_new _ _
  have z2 : y2.heap.size = bx := by rw [hy2, size_new, z1, hbx, hba]
  have d2 : Below y2.heap.size y2 y3 := by rw [hy3]; exact below_new _ _
  have z3 : y3.heap.size = br := by rw [hy3, size_new, z2, hbr, hbx]
  have d3 : Below y3.heap.size y3 y0 := by rw [hy0]; exact below_new _ _
  have Km : Hid (BoxAt bm [.int .i64 ep, .slice a0 n0 e0, .int .i64 p0, .int .i64 p1, .int .i64 p2, .slice a1 n1 e1, .slice a2 n2 e2, .slice a3 n3 e3] y0) := Lib.hid (by rw [hbm]; exact BoxAt.below (by rw [hy1]; exact boxAt_new w [.int .i64 ep, .slice a0 n0 e0, .int .i64 p0, .int .i64 p1, .int .i64 p2, .slice a1 n1 e1, .slice a2 n2 e2, .slice a3 n3 e3] _) (below_step' (below_step' d1 d2) d3))
  have Om : Hid (Open8 bm y0) := Lib.hid (by rw [hbm]; exact Open8.below (by rw [hy1]; exact Open8.new _ _ _) (below_step' (below_step' d1 d2) d3))
  have Ka : Hid (BoxAt ba [.int .i64 at'] y0) := Lib.hid (by rw [← z1]; exact BoxAt.below (by rw [hy2]; exact boxAt_new y1 [.int .i64 at'] _) (below_step' d2 d3))
  have Oa : Hid (Open8 ba y0) := Lib.hid (by rw [← z1]; exact Open8.below (by rw [hy2]; exact Open8.new _ _ _) (below_step' d2 d3))
  have Kx : Hid (BoxAt bx [.int .i64 x1, .int .i64 x2] y0) := Lib.hid (by rw [← z2]; exact BoxAt.below (by rw [hy3]; exact boxAt_new y2 [.int .i64 x1, .int .i64 x2] _) d3)
  have Ox : Hid (Open8 bx y0) := Lib.hid (by rw [← z2]; exact Open8.below (by rw [hy3]; exact Open8.new _ _ _) d3)
  have Kr : Hid (BoxAt br [.int .i64 0, .slice none 0 0, .int .i64 0, .int .i64 0, .int .i64 0, .slice none 0 0, .slice none 0 0, .slice none 0 0] y0) := Lib.hid (by rw [← z3, hy0]; exact boxAt_new y3 [.int .i64 0, .slice none 0 0, .int .i64 0, .int .i64 0, .int .i64 0, .slice none 0 0, .slice none 0 0, .slice none 0 0] _)
  have Or : Hid (Open8 br y0) := Lib.hid (by rw [← z3, hy0]; exact Open8.new _ _ _)
  have B0 := Lib.hid (below_step' (below_step' (below_step' d0 d1) d2) d3)
  have RR : Hid (w.heap.size ≤ bm ∧ w.heap.size ≤ ba ∧ w.heap.size ≤ bx ∧ w.heap.size ≤ br ∧ bm ≠ ba ∧ bm ≠ bx ∧ bm ≠ br ∧ ba ≠ bx ∧ ba ≠ br ∧ bx ≠ br) := Lib.hid (by omega)
  rw [← hy1, ← hy2, ← hy3, ← hy0]
  simp only [← hbr]
  simp only [← hbx]
  simp only [← hba]
  simp only [← hbm]
  clear hy1 hy2 hy3 hy0 hbm hba hbx hbr d0 d1 d2 d3 z1 z2 z3
  have c0 := Km.out 0 _ rfl
  have c1 := Km.out 1 _ rfl
  have c2 := Km.out 2 _ rfl
  have c3 := Km.out 3 _ rfl
  have c4 := Km.out 4 _ rfl
  have c5 := Km.out 5 _ rfl
  have c6 := Km.out 6 _ rfl
  have c7 := Km.out 7 _ rfl
  have d0 := Ka.out 0 _ rfl
  have ex0 := Kx.out 0 _ rfl
  have ex1 := Kx.out 1 _ rfl
  have g0 := Om.out.2 0
  have g1 := Om.out.2 1
  have g2 := Om.out.2 2
  have g3 := Om.out.2 3
  have g4 := Om.out.2 4
  have g5 := Om.out.2 5
  have g6 := Om.out.2 6
  have g7 := Om.out.2 7
  go_wp2_with fail
  refine (CH.out _ B0.out ba bx d0 ex0 ex1 _ _ _ rfl).mono ?_
  rintro e w1 ⟨v0, v1, v2, v3, rfl, hU, hb⟩
  obtain ⟨u0, u1, u2, u3, k0, k1, k2, k3, f0, f1, f2, f3, ff0, ff1, ff2, ff3⟩ := mk_slices hU.weak
  subst ff0
  subst ff1
  subst ff2
  subst ff3
  rw [MN.out]
  have HU := Lib.hid hU
  have B1 := Lib.hid hb
  clear hU hb CH c0 c1 c2 c3 c4 c5 c6 c7 g0 g1 g2 g3 g4 g5 g6 g7 d0 ex0 ex1
  have KX := Lib.hid (Km.out.below B1.out)
  have OX := Lib.hid (Om.out.below B1.out)
  have KR := Lib.hid (Kr.out.below B1.out)
  have OR := Lib.hid (Or.out.below B1.out)
  have c0 := KX.out 0 _ rfl
  have c1 := KX.out 1 _ rfl
  have c2 := KX.out 2 _ rfl
  have c3 := KX.out 3 _ rfl
  have c4 := KX.out 4 _ rfl
  have c5 := KX.out 5 _ rfl
  have c6 := KX.out 6 _ rfl
  have c7 := KX.out 7 _ rfl
  have g0 := OX.out.2 0
  have g1 := OX.out.2 1
  have g2 := OX.out.2 2
  have g3 := OX.out.2 3
  have g4 := OX.out.2 4
  have g5 := OX.out.2 5
  have g6 := OX.out.2 6
  have g7 := OX.out.2 7
  go_upto_region 2 with fail
  change Code.wp _ _ _ _ (setN w1 bm 0 [.int .i64 ep, .slice u0 k0 f0, .int .i64 p0, .int .i64 p1, .int .i64 p2, .slice u1 k1 f1, .slice u2 k2 f2, .slice u3 k3 f3])
  have KX2 : Hid (BoxAt bm [.int .i64 ep, .slice u0 k0 f0, .int .i64 p0, .int .i64 p1, .int .i64 p2, .slice u1 k1 f1, .slice u2 k2 f2, .slice u3 k3 f3] (setN w1 bm 0 [.int .i64 ep, .slice u0 k0 f0, .int .i64 p0, .int .i64 p1, .int .i64 p2, .slice u1 k1 f1, .slice u2 k2 f2, .slice u3 k3 f3])) := Lib.hid (setN_box [.int .i64 ep, .slice u0 k0 f0, .int .i64 p0, .int .i64 p1, .int .i64 p2, .slice u1 k1 f1, .slice u2 k2 f2, .slice u3 k3 f3] 0 _ w1 KX.out (by simp))
  have NR : Hid (w.heap.size ≤ bm ∧ w.heap.size ≤ br ∧ bm ≠ br ∧ bm < y0.heap.size ∧ br < y0.heap.size) := Lib.hid (by have h1 := RR.out; have h2 := Om.out.1; have h3 := Or.out.1; omega)
  have KR2 : Hid (BoxAt br [.int .i64 0, .slice none 0 0, .int .i64 0, .int .i64 0, .int .i64 0, .slice none 0 0, .slice none 0 0, .slice none 0 0] (setN w1 bm 0 [.int .i64 ep, .slice u0 k0 f0, .int .i64 p0, .int .i64 p1, .int .i64 p2, .slice u1 k1 f1, .slice u2 k2 f2, .slice u3 k3 f3])) := Lib.hid (setN_far (Ne.symm NR.out.2.2.1) KR.out)
  have OR2 : Hid (Open8 br (setN w1 bm 0 [.int .i64 ep, .slice u0 k0 f0, .int .i64 p0, .int .i64 p1, .int .i64 p2, .slice u1 k1 f1, .slice u2 k2 f2, .slice u3 k3 f3])) := Lib.hid OR.out.set
  have HL2 := Lib.hid (HU.out.same (setN_same (P := fun q => y0.heap.size ≤ q) (b := bm) (fun h => Nat.lt_irrefl _ (Nat.lt_of_lt_of_le NR.out.2.2.2.1 h)) [.int .i64 ep, .slice u0 k0 f0, .int .i64 p0, .int .i64 p1, .int .i64 p2, .slice u1 k1 f1, .slice u2 k2 f2, .slice u3 k3 f3] 0 w1 (SameOn.refl _ _)))
  have B2 := Lib.hid (setN_below NR.out.1 [.int .i64 ep, .slice u0 k0 f0, .int .i64 p0, .int .i64 p1, .int .i64 p2, .slice u1 k1 f1, .slice u2 k2 f2, .slice u3 k3 f3] 0 w1 (below_step' B0.out B1.out))
  obtain ⟨w2, hw2⟩ : ∃ x, x = setN w1 bm 0 [.int .i64 ep, .slice u0 k0 f0, .int .i64 p0, .int .i64 p1, .int .i64 p2, .slice u1 k1 f1, .slice u2 k2 f2, .slice u3 k3 f3] := ⟨_, rfl⟩
  rw [← hw2] at KX2 KR2 OR2 HL2 B2 ⊢
  clear hw2 c0 c1 c2 c3 c4 c5 c6 c7 g0 g1 g2 g3 g4 g5 g6 g7 KX OX KR OR HU
  have c0 := KX2.out 0 _ rfl
  have c1 := KX2.out 1 _ rfl
  have c2 := KX2.out 2 _ rfl
  have c3 := KX2.out 3 _ rfl
  have c4 := KX2.out 4 _ rfl
  have c5 := KX2.out 5 _ rfl
  have c6 := KX2.out 6 _ rfl
  have c7 := KX2.out 7 _ rfl
  have r0 := KR2.out 0 _ rfl
  have r1 := KR2.out 1 _ rfl
  have r2 := KR2.out 2 _ rfl
  have r3 := KR2.out 3 _ rfl
  have r4 := KR2.out 4 _ rfl
  have r5 := KR2.out 5 _ rfl
  have r6 := KR2.out 6 _ rfl
  have r7 := KR2.out 7 _ rfl
  have g0 := OR2.out.2 0
  have g1 := OR2.out.2 1
  have g2 := OR2.out.2 2
  have g3 := OR2.out.2 3
  have g4 := OR2.out.2 4
  have g5 := OR2.out.2 5
  have g6 := OR2.out.2 6
  have g7 := OR2.out.2 7
  go_wp2_with fail
  change bodyPost _ _ _ Exit.ret _ (setN w2 br 0 [.int .i64 ep, .slice u0 k0 f0, .int .i64 p0, .int .i64 p1, .int .i64 p2, .slice u1 k1 f1, .slice u2 k2 f2, .slice u3 k3 f3])
  have HB : BoxAt br [.int .i64 ep, .slice u0 k0 f0, .int .i64 p0, .int .i64 p1, .int .i64 p2, .slice u1 k1 f1, .slice u2 k2 f2, .slice u3 k3 f3] (setN w2 br 0 [.int .i64 ep, .slice u0 k0 f0, .int .i64 p0, .int .i64 p1, .int .i64 p2, .slice u1 k1 f1, .slice u2 k2 f2, .slice u3 k3 f3]) := setN_box [.int .i64 ep, .slice u0 k0 f0, .int .i64 p0, .int .i64 p1, .int .i64 p2, .slice u1 k1 f1, .slice u2 k2 f2, .slice u3 k3 f3] 0 _ w2 KR2.out (by simp)
  have HLf := (HL2.out.same (setN_same (P := fun q => y0.heap.size ≤ q) (b := br) (fun h => Nat.lt_irrefl _ (Nat.lt_of_lt_of_le NR.out.2.2.2.2 h)) [.int .i64 ep, .slice u0 k0 f0, .int .i64 p0, .int .i64 p1, .int .i64 p2, .slice u1 k1 f1, .slice u2 k2 f2, .slice u3 k3 f3] 0 w2 (SameOn.refl _ _))).wide (P' := fun q => w.heap.size ≤ q) (fun q _ h => Nat.le_trans B0.out.size h)
  have Bf := setN_below NR.out.2.1 [.int .i64 ep, .slice u0 k0 f0, .int .i64 p0, .int .i64 p1, .int .i64 p2, .slice u1 k1 f1, .slice u2 k2 f2, .slice u3 k3 f3] 0 w2 B2.out
  exact bodyPost_ret (v := .agg #[.int .i64 ep, .slice u0 k0 f0, .int .i64 p0, .int .i64 p1, .int .i64 p2, .slice u1 k1 f1, .slice u2 k2 f2, .slice u3 k3 f3]) (by simp [results, Try.results13, go_sem, HB 0 _ rfl, HB 1 _ rfl, HB 2 _ rfl, HB 3 _ rfl, HB 4 _ rfl, HB 5 _ rfl, HB 6 _ rfl, HB 7 _ rfl]) rfl ⟨_, _, _, _, by rw [MN.out], HLf, Bf⟩
end Go.Proofs.Ytlhclnhdcenkhaa
