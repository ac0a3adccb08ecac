/- Texts put together. -/
import Derived.Test.YtennbiajnkobnaaQ12
import Derived.Test.YtennbiajnkobnaaQ21
import Derived.Test.YtennbiajnkobnaaQ36
import Derived.Test.YtennbiajnkobnaaQ38
import Derived.Test.YtennbiajnkobnaaQ47
import Derived.Test.YtennbiajnkobnaaQ48
import Derived.BigQuiet
import Derived.Deep.CutBlock
set_option linter.unusedSimpArgs false
set_option linter.unusedVariables false
namespace Go.Proofs.Ytennbiajnkobnaa
open Go.RowKit Go.PlainAid
theorem cutC_small (c : Cf) : SmallCf (cutC c) := by
 refine ⟨by simp [cutC]; omega, by simp [cutC]; omega, by simp [cutC]; omega, fun m hm => ?_⟩
 obtain ⟨m', _, rfl⟩ := List.mem_map.1 hm
 rw [List.length_take]; omega
def phiR (A : Ap) (vG : Value) (cs : Array Value) (g : Nat) (v : Value) (w : World) : Prop := if g = 1 then ∃ uT, v = .agg #[.int .i64 A.n, vG, uT, .bool A.ff] ∧ Has w uT (dTab A.t) else v = .agg cs
theorem phiR_mono {A : Ap} {vG : Value} {cs : Array Value} {g : Nat} {v : Value} {w w' : World} (h : phiR A vG cs g v w) (hb : Below w.heap.size w w') : phiR A vG cs g v w' := by
 unfold phiR at h ⊢
 split
 ·next e => rw [if_pos e] at h; obtain ⟨u, e, h⟩ := h; exact ⟨u, e, h.later hb⟩
 ·next e => rw [if_neg e] at h; exact h
set_option maxHeartbeats 8000000 in
set_option maxRecDepth 100000 in
theorem walkPlainOwn (N0 : Int) (u0 : Value) (L0 : Lks) (t0 : Value) (M0 : Tab) (ff : Bool) (v1 v2 v3 : Value) (c1 : Cf) (sa sb sd se sf : Int) (w : World) (wL : LinksAt w u0 L0) (wW0 : ∀ p ∈ L0, wfp p) (wT : Has w t0 (dTab M0)) (wC : HasL w [v1, v2, v3] c1.d) :
  Calls Try.prog 4 #[.agg #[.int .i64 N0, u0, t0, .bool ff], .agg #[v1, v2, v3], .agg #[.int .i64 sa, .int .i64 sb, .int .i64 sd, .int .i64 se, .int .i64 sf]] w fun e w' => e = .returned (.bool true) ∧ Below w.heap.size w w' := by
 obtain ⟨ga0, gc, ee⟩ := slice_of (has_of_links wL)
 subst ee
 obtain ⟨ta0, tc0, ee⟩ := slice_of wT
 subst ee
 obtain ⟨A, hA⟩ : ∃ A, A = Ap.mk N0 (L0.take 40) (cutT M0) ff := ⟨_, rfl⟩
 have hgl40 := take_le L0
 have hwf := wf_take wW0
 have hLC := linksAt_cut wL
 obtain ⟨gl0, hgl0⟩ : ∃ n, n = L0.length := ⟨_, rfl⟩
 obtain ⟨tl0, htl0⟩ : ∃ n, n = M0.length := ⟨_, rfl⟩
 obtain ⟨gl, hgl⟩ : ∃ n, n = (L0.take 40).length := ⟨_, rfl⟩
 rw [← hgl] at hgl40 hLC
 rw [← hgl0] at wL ⊢
 rw [← htl0] at wT ⊢
 have WL := Lib.hid wL
 have WT := Lib.hid wT
 have AE := Lib.hid hA
 have GL0 := Lib.hid hgl0
 have GLE := Lib.hid hgl
 have HLC := Lib.hid hLC
 have HWF := Lib.hid hwf
 have hAn : A.n = N0 := by rw [hA]
 have hAl : A.l = L0.take 40 := by rw [hA]
 have hAt : A.t = cutT M0 := by rw [hA]
 have hAf : A.ff = ff := by rw [hA]
 have AN := Lib.hid hAn
 have AL := Lib.hid hAl
 have AT := Lib.hid hAt
 have AF := Lib.hid hAf
 have SMT : Hid (SmallTab A.t) := Lib.hid (by rw [hAt]; exact cutT_small M0)
 have LN : Hid (A.l.length ≤ 40) := Lib.hid (by rw [hAl]; exact take_le L0)
 have WFA : Hid (∀ p ∈ A.l, wfp p) := Lib.hid (by rw [hAl]; exact hwf)
 clear wL wW0 wT hA hwf hgl0 htl0 hgl hLC hAn hAl hAt hAf
 obtain ⟨ua1, ua2, ua3, un1, un2, un3, ue1, ue2, ue3, ee1, ee2, ee3⟩ := cf_slices' wC
 subst ee1
 subst ee2
 subst ee3
 have WC := Lib.hid wC
 have SMC : Hid (SmallCf (cutC c1)) := Lib.hid (cutC_small c1)
 clear wC
 go_enter Try.func4, Try.ntmps4
 try simp only [List.append_eq, List.cons_append, List.nil_append]
 go_upto_region 1 with fail
 obtain ⟨y0, hy0⟩ : ∃ y, y = ((w.alloc (.cells #[.int .i64 N0, .slice ga0 gl0 gc, .slice ta0 tl0 tc0, .bool ff] 27)).alloc (.cells #[.slice ua1 un1 ue1, .slice ua2 un2 ue2, .slice ua3 un3 ue3] 31)).alloc (.cells #[.int .i64 sa, .int .i64 sb, .int .i64 sd, .int .i64 se, .int .i64 sf] 50) := ⟨_, rfl⟩
 obtain ⟨x1, hx1⟩ : ∃ y, y = w.alloc (.cells #[.int .i64 N0, .slice ga0 gl0 gc, .slice ta0 tl0 tc0, .bool ff] 27) := ⟨_, rfl⟩
 obtain ⟨x2, hx2⟩ : ∃ y, y = x1.alloc (.cells #[.slice ua1 un1 ue1, .slice ua2 un2 ue2, .slice ua3 un3 ue3] 31) := ⟨_, rfl⟩
 have s1 : x1.heap.size = w.heap.size + 1 := by rw [hx1]; simp
 have s2 : x2.heap.size = w.heap.size + 2 := by rw [hx2, World.size_alloc, s1]
 have b1 : Below w.heap.size w x1 := by rw [hx1]; exact below_new _ _
 have b2 : Below x1.heap.size x1 x2 := by rw [hx2]; exact below_new _ _
 have b3 : Below x2.heap.size x2 y0 := by rw [hy0, ← hx1, ← hx2]; exact below_new _ _
 have BA0 : Hid (Below w.heap.size w y0) := Lib.hid (below_step' (below_step' b1 b2) b3)
 have h1y := below_step' b2 b3
 have ka0 : BoxAt w.heap.size [.int .i64 N0, .slice ga0 gl0 gc, .slice ta0 tl0 tc0, .bool ff] y0 := by
  have h : BoxAt w.heap.size [.int .i64 N0, .slice ga0 gl0 gc, .slice ta0 tl0 tc0, .bool ff] x1 := by rw [hx1]; exact boxAt_new w [.int .i64 N0, .slice ga0 gl0 gc, .slice ta0 tl0 tc0, .bool ff] _
  exact h.below h1y
 have oa0 : OpenRow y0 w.heap.size 1 4 := by
  have h : OpenRow x1 w.heap.size 1 4 := by rw [hx1]; exact ⟨by decide, _, _, heap_alloc_new w _, rfl⟩
  exact h.same (SameOn.of_below (P := fun _ => True) h1y) trivial (by omega)
 have kc0 : BoxAt (w.heap.size + 1) [.slice ua1 un1 ue1, .slice ua2 un2 ue2, .slice ua3 un3 ue3] y0 := by
  have h : BoxAt x1.heap.size [.slice ua1 un1 ue1, .slice ua2 un2 ue2, .slice ua3 un3 ue3] x2 := by rw [hx2]; exact boxAt_new x1 [.slice ua1 un1 ue1, .slice ua2 un2 ue2, .slice ua3 un3 ue3] _
  rw [← s1]
  exact h.below b3
 have oc0 : OpenRow y0 (w.heap.size + 1) 1 3 := by
  have h : OpenRow x2 x1.heap.size 1 3 := by rw [hx2]; exact ⟨by decide, _, _, heap_alloc_new x1 _, rfl⟩
  rw [← s1]
  exact h.same (SameOn.of_below (P := fun _ => True) b3) trivial (by omega)
 have kn0 : BoxAt (w.heap.size + 2) [.int .i64 sa, .int .i64 sb, .int .i64 sd, .int .i64 se, .int .i64 sf] y0 := by
  rw [hy0, ← hx1, ← hx2, ← s2]
  exact boxAt_new x2 [.int .i64 sa, .int .i64 sb, .int .i64 sd, .int .i64 se, .int .i64 sf] _
 have sz : y0.heap.size = w.heap.size + 3 := by rw [hy0, ← hx1, ← hx2, World.size_alloc, s2]
 rw [← hy0]
 obtain ⟨ba, hba⟩ : ∃ b, b = w.heap.size := ⟨_, rfl⟩
 obtain ⟨bc, hbc⟩ : ∃ b, b = w.heap.size + 1 := ⟨_, rfl⟩
 obtain ⟨bn, hbn⟩ : ∃ b, b = w.heap.size + 2 := ⟨_, rfl⟩
 have za : ba < y0.heap.size ∧ w.heap.size ≤ ba := by omega
 have zc : bc < y0.heap.size ∧ w.heap.size ≤ bc ∧ bc ≠ ba ∧ bn < y0.heap.size ∧ bn ≠ ba ∧ bn ≠ bc := by omega
 rw [← hbn] at kn0 ⊢
 rw [← hbc] at kc0 oc0 ⊢
 rw [← hba] at ka0 oa0 ⊢
 have KA0 := Lib.hid ka0
 have OA0 := Lib.hid oa0
 have KC0 := Lib.hid kc0
 have OC0 := Lib.hid oc0
 have ZA := Lib.hid za
 have ZC := Lib.hid zc
 have KN0 := Lib.hid kn0
 clear kn0 hbn
 clear hy0 hx1 hx2 s1 s2 b1 b2 b3 h1y sz ka0 oa0 kc0 oc0 za zc hba hbc
 have p0 := KA0.out 0 _ rfl
 have p1 := KA0.out 1 _ rfl
 have p2 := KA0.out 2 _ rfl
 have p3 := KA0.out 3 _ rfl
 go_wp2_with fail
 clear p0 p1 p2 p3
 refine (lcut_at N0 L0 M0 ff _ _ _ (WL.out.below BA0.out) (WT.out.later BA0.out)).mono ?_
 rintro e z1 ⟨ga1, gc1, uT, he1, rfl, hT, hb⟩
 simp only [Value.slice.injEq] at he1
 obtain ⟨hga, hgx, hgc⟩ := he1
 clear hgx
 subst hga hgc
 rw [← GLE.out]
 obtain ⟨ta, tc, ee⟩ := slice_of hT.weak
 subst ee
 obtain ⟨tl, htl⟩ : ∃ n, n = (cutT M0).length := ⟨_, rfl⟩
 rw [← htl] at hT ⊢
 have TLE := Lib.hid htl
 have hO := OA0.out.same (SameOn.of_below (P := fun _ => True) hb) trivial ZA.out.1
 have hB := KA0.out.below hb
 have k0 := hB 0 _ rfl
 have k1 := hB 1 _ rfl
 have k2 := hB 2 _ rfl
 have k3 := hB 3 _ rfl
 have f0 := hO.frozen 0
 have f1 := hO.frozen 1
 have f2 := hO.frozen 2
 have f3 := hO.frozen 3
 have BZ := Lib.hid hb
 have HB := Lib.hid hB
 have HO := Lib.hid hO
 have HTZ := Lib.hid hT
 clear hb hB hO hT htl
 go_upto_region 2 with fail
 clear k0 k1 k2 k3 f0 f1 f2 f3
 obtain ⟨y1, hy⟩ : ∃ y, y = (((z1.setCell ⟨ba, 0, none⟩ (.int .i64 N0)).setCell ⟨ba, 1, none⟩ (.slice ga0 gl gc)).setCell ⟨ba, 2, none⟩ (.slice ta tl tc)).setCell ⟨ba, 3, none⟩ (.bool ff) := ⟨_, rfl⟩
 have ka : BoxAt ba [.int .i64 N0, .slice ga0 gl gc, .slice ta tl tc, .bool ff] y1 := by rw [hy]; exact boxAt_set (j := 3) (u := .bool ff) (boxAt_set (j := 2) (u := .slice ta tl tc) (boxAt_set (j := 1) (u := .slice ga0 gl gc) (boxAt_set (j := 0) (u := .int .i64 N0) HB.out)))
 have hbw : Below w.heap.size w y1 := by rw [hy]; exact ((((below_step' BA0.out BZ.out).setCell ZA.out.2 _).setCell ZA.out.2 _).setCell ZA.out.2 _).setCell ZA.out.2 _
 have ss : SameOn (fun q => q ≠ ba) z1 y1 := by rw [hy]; exact ((((SameOn.refl _ z1).set ⟨ba, 0, none⟩ _ (fun h => h rfl)).set ⟨ba, 1, none⟩ _ (fun h => h rfl)).set ⟨ba, 2, none⟩ _ (fun h => h rfl)).set ⟨ba, 3, none⟩ _ (fun h => h rfl)
 have ht : Has y1 (.slice ta tl tc) (dTab A.t) := by
  rw [AT.out]
  exact (HTZ.out.same (ss.sub (fun q (h : _ ≤ q) e => by subst e; have := ZA.out.1; omega))).weak
 have htf : Holds False (fresh y0) y1 (.slice ta tl tc) (dTab A.t) := by
  rw [AT.out]
  exact (HTZ.out.same (ss.sub (fun q (h : _ ≤ q) e => by subst e; have := ZA.out.1; omega))).loose
 have HTF := Lib.hid htf
 clear htf
 rw [← hy]
 have KA := Lib.hid ka
 have LG : Hid (LinksAt y1 (.slice ga0 gl gc) A.l) := Lib.hid (by rw [AL.out]; exact HLC.out.below hbw)
 have HT := Lib.hid ht
 have BW := Lib.hid hbw
 have SS := Lib.hid ss
 clear hy ka hbw ss ht HB HO HTZ KA0 OA0
 have kc1 := (KC0.out.below BZ.out).same SS.out ZC.out.2.2.1
 have hz1 := BZ.out.size
 have oc1 := (OC0.out.same (SameOn.of_below (P := fun _ => True) BZ.out) trivial ZC.out.1).same SS.out ZC.out.2.2.1 (Nat.lt_of_lt_of_le ZC.out.1 hz1)
 have kn1 := (KN0.out.below BZ.out).same SS.out ZC.out.2.2.2.2.1
 have KN := Lib.hid kn1
 clear kn1 KN0
 have hz2 := SS.out.1
 have zy : y0.heap.size ≤ y1.heap.size := by omega
 have ZY := Lib.hid zy
 have p0 := kc1 0 _ rfl
 have p1 := kc1 1 _ rfl
 have p2 := kc1 2 _ rfl
 have KC1 := Lib.hid kc1
 have OC1 := Lib.hid oc1
 clear kc1 oc1 hz1 hz2 zy KC0 OC0
 go_wp2_with fail
 clear p0 p1 p2
 refine (cutConf_at c1 _ _ _ _ (WC.out.later BW.out)).mono ?_
 rintro e z2 ⟨xa1, xa2, xa3, xn1, xn2, xn3, xe1, xe2, xe3, rfl, hC, hb⟩
 have hO := OC1.out.same (SameOn.of_below (P := fun _ => True) hb) trivial (Nat.lt_of_lt_of_le ZC.out.1 ZY.out)
 have hB := KC1.out.below hb
 have k0 := hB 0 _ rfl
 have k1 := hB 1 _ rfl
 have k2 := hB 2 _ rfl
 have f0 := hO.frozen 0
 have f1 := hO.frozen 1
 have f2 := hO.frozen 2
 have BZ2 := Lib.hid hb
 have HB := Lib.hid hB
 have HO := Lib.hid hO
 have HCZ := Lib.hid hC
 clear hb hB hO hC
 go_upto_region 3 with fail
 clear k0 k1 k2 f0 f1 f2
 obtain ⟨y2, hy⟩ : ∃ y, y = ((z2.setCell ⟨bc, 0, none⟩ (.slice xa1 xn1 xe1)).setCell ⟨bc, 1, none⟩ (.slice xa2 xn2 xe2)).setCell ⟨bc, 2, none⟩ (.slice xa3 xn3 xe3) := ⟨_, rfl⟩
 have kc2 : BoxAt bc [.slice xa1 xn1 xe1, .slice xa2 xn2 xe2, .slice xa3 xn3 xe3] y2 := by rw [hy]; exact boxAt_set (j := 2) (u := .slice xa3 xn3 xe3) (boxAt_set (j := 1) (u := .slice xa2 xn2 xe2) (boxAt_set (j := 0) (u := .slice xa1 xn1 xe1) HB.out))
 have ss2 : SameOn (fun q => q ≠ bc) z2 y2 := by rw [hy]; exact (((SameOn.refl _ z2).set ⟨bc, 0, none⟩ _ (fun h => h rfl)).set ⟨bc, 1, none⟩ _ (fun h => h rfl)).set ⟨bc, 2, none⟩ _ (fun h => h rfl)
 have hbw : Below w.heap.size w y2 := by rw [hy]; exact (((below_step' BW.out BZ2.out).setCell ZC.out.2.1 _).setCell ZC.out.2.1 _).setCell ZC.out.2.1 _
 have hc2 : HasL y2 [.slice xa1 xn1 xe1, .slice xa2 xn2 xe2, .slice xa3 xn3 xe3] (cutC c1).d := (HCZ.out.same (ss2.sub (fun q (h : _ ≤ q) e => by subst e; have := ZC.out.1; have := ZY.out; omega))).weak
 have ht2 : Has y2 (.slice ta tl tc) (dTab A.t) := ((HTF.out.later BZ2.out).same (ss2.sub (fun q (h : _ ≤ q) e => by subst e; have := ZC.out.1; omega))).weak
 have ka2 := (KA.out.below BZ2.out).same ss2 (fun h => ZC.out.2.2.1 h.symm)
 have lg2 : LinksAt y2 (.slice ga0 gl gc) A.l := by rw [AL.out]; exact HLC.out.below hbw
 have kn2 := (KN.out.below BZ2.out).same ss2 ZC.out.2.2.2.2.2
 replace KN := Lib.hid kn2
 clear kn2
 rw [← hy]
 clear hy KA LG HT BW HTF HCZ HB HO KC1 OC1 SS
 have KA := Lib.hid ka2
 have KC := Lib.hid kc2
 have LG := Lib.hid lg2
 have HT := Lib.hid ht2
 have HC := Lib.hid hc2
 have BW := Lib.hid hbw
 clear ka2 kc2 lg2 ht2 hc2 hbw ss2 BZ BZ2
 have hN0 : N0 = A.n := AN.out.symm
 have hF0 : ff = A.ff := AF.out.symm
 rw [hN0, hF0] at KA ⊢
 clear hN0 hF0
 obtain ⟨rr, hrr⟩ := bool_some (CfOK A (cutC c1))
 have RR := Lib.hid hrr
 clear hrr
 refine wp_region_held_drew (S := (fun w' => w'.cell? ⟨ba, 0, none⟩ = some (.int .i64 A.n) ∧ w'.cell? ⟨ba, 1, none⟩ = some (.slice ga0 gl gc) ∧ w'.cell? ⟨ba, 2, none⟩ = some (.slice ta tl tc) ∧ w'.cell? ⟨ba, 3, none⟩ = some (.bool A.ff) ∧ w'.cell? ⟨bc, 0, none⟩ = some (.slice xa1 xn1 xe1) ∧ w'.cell? ⟨bc, 1, none⟩ = some (.slice xa2 xn2 xe2) ∧ w'.cell? ⟨bc, 2, none⟩ = some (.slice xa3 xn3 xe3))) (by kernel_rfl) ?_ (fun hHeld => ?_)
 ·exact ⟨KA.out.below (below_drewN (Below.refl _ y2) 1) 0 _ rfl, KA.out.below (below_drewN (Below.refl _ y2) 1) 1 _ rfl, KA.out.below (below_drewN (Below.refl _ y2) 1) 2 _ rfl, KA.out.below (below_drewN (Below.refl _ y2) 1) 3 _ rfl, KC.out.below (below_drewN (Below.refl _ y2) 1) 0 _ rfl, KC.out.below (below_drewN (Below.refl _ y2) 1) 1 _ rfl, KC.out.below (below_drewN (Below.refl _ y2) 1) 2 _ rfl⟩
 obtain ⟨yb, hyb⟩ : ∃ y, y = y2.drew := ⟨_, rfl⟩
 rw [← hyb] at hHeld ⊢
 have BYb : Hid (Below y2.heap.size y2 yb) := Lib.hid (by rw [hyb]; exact below_drewN (Below.refl _ y2) 1)
 clear hyb
 refine tq 0 ?_
 refine tq 2 ?_
 refine wpAnyH_group (n := 2) [1, 3] 4 (phiR A (.slice ga0 gl gc) #[.slice xa1 xn1 xe1, .slice xa2 xn2 xe2, .slice xa3 xn3 xe3]) (fun _ _ _ _ _ => True) (by kernel_rfl) (by kernel_rfl) (by kernel_rfl) (by kernel_rfl) (by kernel_rfl) (fun _ _ _ _ h hb => phiR_mono h hb) (fun _ _ _ _ _ _ h _ => h) ?stepR hHeld ?finR
 case stepR =>
  intro g hg o ho D vs a wy hD hgD hφ hψ hSx hby hfr hdep K hK
  have BXY := below_step' BYb.out hby
  simp only [List.mem_cons, List.not_mem_nil, or_false] at hg
  rcases hg with rfl | rfl
  ·obtain rfl := Option.some.inj (show some _ = some o from ho)
   have t20 : a.tmps[23]? = _ := (hfr 23 (by decide)).trans rfl
   clear hψ hφ hdep hfr
   go_simp
   refine (lapp_at A.n A.l A.t A.ff _ _ _ (LG.out.below BXY) (HT.out.later BXY) SMT.out).mono ?_
   rintro e w' ⟨uT, rfl, hu, hb⟩
   go_wp2_with fail
   exact hK.out _ _ ⟨KA.out.below (below_step' BXY hb) 0 _ rfl, KA.out.below (below_step' BXY hb) 1 _ rfl, KA.out.below (below_step' BXY hb) 2 _ rfl, KA.out.below (below_step' BXY hb) 3 _ rfl, KC.out.below (below_step' BXY hb) 0 _ rfl, KC.out.below (below_step' BXY hb) 1 _ rfl, KC.out.below (below_step' BXY hb) 2 _ rfl⟩ (by unfold phiR; rw [if_pos rfl]; exact ⟨uT, rfl, hu⟩) (fun _ _ => trivial) hb
  ·obtain rfl := Option.some.inj (show some _ = some o from ho)
   have t22 : a.tmps[25]? = _ := (hfr 25 (by decide)).trans rfl
   clear hψ hφ hdep hfr
   go_simp
   refine (lref_at _ _ _ _ _ (HC.out.later BXY)).mono ?_
   rintro e w' ⟨rfl, hb⟩
   go_wp2_with fail
   exact hK.out _ _ ⟨KA.out.below (below_step' BXY hb) 0 _ rfl, KA.out.below (below_step' BXY hb) 1 _ rfl, KA.out.below (below_step' BXY hb) 2 _ rfl, KA.out.below (below_step' BXY hb) 3 _ rfl, KC.out.below (below_step' BXY hb) 0 _ rfl, KC.out.below (below_step' BXY hb) 1 _ rfl, KC.out.below (below_step' BXY hb) 2 _ rfl⟩ (by unfold phiR; rw [if_neg (by decide)]) (fun _ _ => trivial) hb
 case finR =>
  intro vs wy hSx hby hφ hψ
  have h1 := hφ 1 (by simp)
  have h3 := hφ 3 (by simp)
  unfold phiR at h1 h3
  rw [if_pos rfl] at h1
  rw [if_neg (by decide)] at h3
  obtain ⟨uT, e1, hu⟩ := h1
  change wpAnyH _ _ _ _ _ _ _ (((_ : Act).put (some 24) (vs 1)).put (some 26) (vs 3)) _
  rw [e1, h3]
  try simp only [Act.put, List.getElem_toArray, List.getElem_cons_zero, List.getElem_cons_succ, List.setIfInBounds_toArray, List.set_cons_zero, List.set_cons_succ]
  have BXY := Lib.hid (below_step' BYb.out hby)
  have UT := Lib.hid hu
  clear hψ hφ hby e1 h3 hu
  refine rd 4 fun K hK => ?_
  go_simp
  refine (rright5_at A (cutC c1) rr _ _ _ _ _ _ (LG.out.below BXY.out) UT.out (HC.out.later BXY.out) (Nat.le_trans LN.out (by decide)) SMT.out SMC.out RR.out).mono ?_
  rintro e y3 ⟨rfl, hb⟩
  have B3 := Lib.hid (below_step' BXY.out hb)
  clear hb
  go_wp2_with fail
  refine hK.out _ _ ?_ (fun hHeld => ?_)
  ·exact ⟨KA.out.below B3.out 0 _ rfl, KA.out.below B3.out 1 _ rfl, KA.out.below B3.out 2 _ rfl, KA.out.below B3.out 3 _ rfl, KC.out.below B3.out 0 _ rfl, KC.out.below B3.out 1 _ rfl, KC.out.below B3.out 2 _ rfl⟩
  clear hK K hSx UT BXY BYb
  try simp only [Act.put, List.getElem_toArray, List.getElem_cons_zero, List.getElem_cons_succ, List.setIfInBounds_toArray, List.set_cons_zero, List.set_cons_succ]
  refine tq 5 ?_
  refine wpAnyH_done (by kernel_rfl) ?_ _
  replace KA := Lib.hid (KA.out.below B3.out)
  replace KC := Lib.hid (KC.out.below B3.out)
  replace LG := Lib.hid (LG.out.below B3.out)
  replace HT := Lib.hid (HT.out.later B3.out)
  replace HC := Lib.hid (HC.out.later B3.out)
  replace BW := Lib.hid (below_step' BW.out B3.out)
  try replace KN := Lib.hid (KN.out.below B3.out)
  clear B3
  cases rr with
  | false =>
   have p0 := KA.out 0 _ rfl
   have p1 := KA.out 1 _ rfl
   have p2 := KA.out 2 _ rfl
   have p3 := KA.out 3 _ rfl
   have q0 := KC.out 0 _ rfl
   have q1 := KC.out 1 _ rfl
   have q2 := KC.out 2 _ rfl
   go_wp2_with fail
   clear p0 p1 p2 p3 q0 q1 q2
   refine (pright_at A (cutC c1) false _ _ _ _ _ _ LG.out HT.out HC.out WFA.out (Nat.le_trans LN.out (by decide)) SMT.out SMC.out RR.out).mono ?_
   rintro e y4 ⟨rfl, hb⟩
   replace BW := Lib.hid (below_step' BW.out hb)
   clear hb
   go_wp2_with fail
   refine (fixed5_any _).mono ?_
   rintro e y9 ⟨rfl, hb⟩
   replace BW := Lib.hid (below_step' BW.out hb)
   clear hb
   go_wp2_with fail
   go_ret
   exact ⟨rfl, BW.out⟩
  | true =>
   have HOK := Lib.hid (RR.out.1 rfl)
   have q0 := KC.out 0 _ rfl
   have q1 := KC.out 1 _ rfl
   have q2 := KC.out 2 _ rfl
   go_wp2_with fail
   clear q0 q1 q2
   refine (cutConf_at (cutC c1) _ _ _ _ HC.out).mono ?_
   rintro e z3 ⟨Wa1, Wa2, Wa3, Wn1, Wn2, Wn3, We1, We2, We3, rfl, hC2, hb⟩
   rw [cutC_idem] at hC2
   replace KA := Lib.hid (KA.out.below hb)
   replace KC := Lib.hid (KC.out.below hb)
   replace KN := Lib.hid (KN.out.below hb)
   replace LG := Lib.hid (LG.out.below hb)
   replace HT := Lib.hid (HT.out.later hb)
   replace HC := Lib.hid (HC.out.later hb)
   replace BW := Lib.hid (below_step' BW.out hb)
   have HW := Lib.hid hC2
   clear hb hC2
   go_wp2_with fail
   refine (lref_at _ _ _ _ (cutC c1) HW.out.weak).mono ?_
   rintro e z4 ⟨rfl, hb⟩
   replace KA := Lib.hid (KA.out.below hb)
   replace KC := Lib.hid (KC.out.below hb)
   replace KN := Lib.hid (KN.out.below hb)
   replace LG := Lib.hid (LG.out.below hb)
   replace HT := Lib.hid (HT.out.later hb)
   replace HC := Lib.hid (HC.out.later hb)
   replace HW := Lib.hid (HW.out.later hb)
   replace BW := Lib.hid (below_step' BW.out hb)
   clear hb
   go_upto_region 6 with fail
   obtain ⟨bw, hbw⟩ : ∃ b, b = z4.heap.size := ⟨_, rfl⟩
   obtain ⟨y4, hy⟩ : ∃ y, y = z4.alloc (.cells #[.slice Wa1 Wn1 We1, .slice Wa2 Wn2 We2, .slice Wa3 Wn3 We3] 40) := ⟨_, rfl⟩
   have hb : Below z4.heap.size z4 y4 := by rw [hy]; exact below_new _ _
   have KW : Hid (BoxAt bw [.slice Wa1 Wn1 We1, .slice Wa2 Wn2 We2, .slice Wa3 Wn3 We3] y4) := Lib.hid (by rw [hbw, hy]; exact boxAt_new z4 [.slice Wa1 Wn1 We1, .slice Wa2 Wn2 We2, .slice Wa3 Wn3 We3] _)
   replace KA := Lib.hid (KA.out.below hb)
   replace KC := Lib.hid (KC.out.below hb)
   replace KN := Lib.hid (KN.out.below hb)
   replace LG := Lib.hid (LG.out.below hb)
   replace HT := Lib.hid (HT.out.later hb)
   replace HC := Lib.hid (HC.out.later hb)
   replace HW := Lib.hid (HW.out.later hb)
   replace BW := Lib.hid (below_step' BW.out hb)
   have SZ4 : Hid (w.heap.size ≤ y4.heap.size) := Lib.hid BW.out.size
   have BWT : Hid (bw < y4.heap.size) := Lib.hid (World.block_lt_of_cell? y4 _ (KW.out 0 _ rfl))
   have BCT : Hid (bc < y4.heap.size) := Lib.hid (World.block_lt_of_cell? y4 _ (KC.out 0 _ rfl))
   replace HW := Lib.hid (HW.out.wide (P' := fun q => q < y4.heap.size) (fun q hq _ => hq))
   have HCP := Lib.hid (HC.out.wide (P' := fun q => q < y4.heap.size) (fun q hq _ => hq))
   rw [← hy, ← hbw]
   clear hy hbw hb
   have p0 := KA.out 0 _ rfl
   have p1 := KA.out 1 _ rfl
   have p2 := KA.out 2 _ rfl
   have p3 := KA.out 3 _ rfl
   have q0 := KC.out 0 _ rfl
   have q1 := KC.out 1 _ rfl
   have q2 := KC.out 2 _ rfl
   have g0 := KN.out 0 _ rfl
   have g1 := KN.out 1 _ rfl
   have g2 := KN.out 2 _ rfl
   have g3 := KN.out 3 _ rfl
   have g4 := KN.out 4 _ rfl
   go_wp2_with fail
   clear p0 p1 p2 p3 q0 q1 q2 g0 g1 g2 g3 g4
   refine (apply_at A (cutC c1) sa sb sd se sf HOK.out SMT.out SMC.out _ _ _ _ _ _ LG.out HT.out HC.out).mono ?_
   rintro e z5 ⟨u1, u2, u3, rfl, hR, hb⟩
   obtain ⟨cx, hcx⟩ : ∃ c, c = applied A (cutC c1) ⟨sa, sb, sd, se, sf⟩ := ⟨_, rfl⟩
   obtain ⟨ex, hex⟩ : ∃ c, c = errOf A (cutC c1) ⟨sa, sb, sd, se, sf⟩ := ⟨_, rfl⟩
   rw [← hcx] at hR
   rw [← hex]
   have SX : Hid (SmallCf cx) := Lib.hid (by rw [hcx]; exact applied_small HOK.out)
   clear hcx hex
   obtain ⟨Xa1, Xa2, Xa3, Xn1, Xn2, Xn3, Xe1, Xe2, Xe3, ee1, ee2, ee3⟩ := cf_slices hR
   subst ee1
   subst ee2
   subst ee3
   have HX : Hid (HoldsL True (fun q => y4.heap.size ≤ q ∧ q < z5.heap.size) z5 [.slice Xa1 Xn1 Xe1, .slice Xa2 Xn2 Xe2, .slice Xa3 Xn3 Xe3] cx.d) := Lib.hid (hR.wide (fun q hq hp => ⟨hp, hq⟩))
   replace KA := Lib.hid (KA.out.below hb)
   replace KC := Lib.hid (KC.out.below hb)
   replace KN := Lib.hid (KN.out.below hb)
   replace LG := Lib.hid (LG.out.below hb)
   replace HT := Lib.hid (HT.out.later hb)
   replace HC := Lib.hid (HC.out.later hb)
   replace KW := Lib.hid (KW.out.below hb)
   replace HW := Lib.hid (HW.out.later hb)
   replace HCP := Lib.hid (HCP.out.later hb)
   replace BW := Lib.hid (below_step' BW.out hb)
   have SZ45 : Hid (y4.heap.size ≤ z5.heap.size) := Lib.hid hb.size
   clear hb hR
   go_upto_region 7 with fail
   obtain ⟨bX, hbX⟩ : ∃ b, b = z5.heap.size := ⟨_, rfl⟩
   obtain ⟨y5, hy⟩ : ∃ y, y = z5.alloc (.cells #[.slice Xa1 Xn1 Xe1, .slice Xa2 Xn2 Xe2, .slice Xa3 Xn3 Xe3] 31) := ⟨_, rfl⟩
   have hb : Below z5.heap.size z5 y5 := by rw [hy]; exact below_new _ _
   have KX : Hid (BoxAt bX [.slice Xa1 Xn1 Xe1, .slice Xa2 Xn2 Xe2, .slice Xa3 Xn3 Xe3] y5) := Lib.hid (by rw [hbX, hy]; exact boxAt_new z5 [.slice Xa1 Xn1 Xe1, .slice Xa2 Xn2 Xe2, .slice Xa3 Xn3 Xe3] _)
   replace KA := Lib.hid (KA.out.below hb)
   replace KC := Lib.hid (KC.out.below hb)
   replace KN := Lib.hid (KN.out.below hb)
   replace LG := Lib.hid (LG.out.below hb)
   replace HT := Lib.hid (HT.out.later hb)
   replace HC := Lib.hid (HC.out.later hb)
   replace KW := Lib.hid (KW.out.below hb)
   replace HW := Lib.hid (HW.out.later hb)
   replace HCP := Lib.hid (HCP.out.later hb)
   replace HX := Lib.hid (HX.out.later hb)
   replace BW := Lib.hid (below_step' BW.out hb)
   have SZ5 : Hid (z5.heap.size ≤ y5.heap.size) := Lib.hid hb.size
   rw [← hy, ← hbX]
   clear hy hbX hb
   have p0 := KA.out 0 _ rfl
   have p1 := KA.out 1 _ rfl
   have p2 := KA.out 2 _ rfl
   have p3 := KA.out 3 _ rfl
   have q0 := KC.out 0 _ rfl
   have q1 := KC.out 1 _ rfl
   have q2 := KC.out 2 _ rfl
   have g0 := KN.out 0 _ rfl
   have g1 := KN.out 1 _ rfl
   have g2 := KN.out 2 _ rfl
   have g3 := KN.out 3 _ rfl
   have g4 := KN.out 4 _ rfl
   go_wp2_with fail
   clear p0 p1 p2 p3 q0 q1 q2 g0 g1 g2 g3 g4
   obtain ⟨y6, hy⟩ : ∃ y, y = y5.alloc (.cells #[.int .i64 sa, .int .i64 sb, .int .i64 sd, .int .i64 se, .int .i64 sf] 50) := ⟨_, rfl⟩
   have hb : Below y5.heap.size y5 y6 := by rw [hy]; exact below_new _ _
   have hs : Has y6 (.slice (some ⟨y5.heap.size, 0, none⟩) 1 1) (dSteps [⟨sa, sb, sd, se, sf⟩]) := by rw [hy]; exact has_new (w := y5) (vs := [.int .i64 sa, .int .i64 sb, .int .i64 sd, .int .i64 se, .int .i64 sf]) 50 (n := 5) (k := 1) (xs := ([⟨sa, sb, sd, se, sf⟩] : List Sp).map Sp.d) (by intro ds h; obtain ⟨_, _, rfl⟩ := List.mem_map.1 h; rfl) rfl (by decide) (by exact (hl_int (hl_int (hl_int (hl_int (hl_int hl_nil))))))
   rw [← hy]
   replace KA := Lib.hid (KA.out.below hb)
   replace KC := Lib.hid (KC.out.below hb)
   replace KN := Lib.hid (KN.out.below hb)
   replace LG := Lib.hid (LG.out.below hb)
   replace HT := Lib.hid (HT.out.later hb)
   replace HC := Lib.hid (HC.out.later hb)
   replace KW := Lib.hid (KW.out.below hb)
   replace HW := Lib.hid (HW.out.later hb)
   replace HCP := Lib.hid (HCP.out.later hb)
   replace KX := Lib.hid (KX.out.below hb)
   replace HX := Lib.hid (HX.out.later hb)
   replace BW := Lib.hid (below_step' BW.out hb)
   have SZ6 : Hid (y5.heap.size ≤ y6.heap.size) := Lib.hid hb.size
   have HSS := Lib.hid hs
   clear hs hy hb
   refine (run_at A (cutC c1) [⟨sa, sb, sd, se, sf⟩] HOK.out SMT.out SMC.out _ _ _ _ _ _ _ LG.out HT.out HC.out HSS.out (by simp)).mono ?_
   rintro e z7 ⟨u1, u2, u3, rfl, hR, hb⟩
   obtain ⟨rn, hrn⟩ : ∃ r, r = runOf A (cutC c1) [⟨sa, sb, sd, se, sf⟩] := ⟨_, rfl⟩
   have SY : Hid (SmallCf rn.1) := Lib.hid (by rw [hrn]; exact small_okO (runOf_ok HOK.out))
   rw [← hrn] at hR ⊢
   clear hrn HSS
   obtain ⟨cy, hcy⟩ : ∃ c, c = rn.1 := ⟨_, rfl⟩
   obtain ⟨m1, hm1⟩ : ∃ c, c = rn.2.1 := ⟨_, rfl⟩
   obtain ⟨m2, hm2⟩ : ∃ c, c = rn.2.2 := ⟨_, rfl⟩
   rw [← hm1, ← hm2]
   rw [← hcy] at hR SY
   clear hcy hm1 hm2
   obtain ⟨Ya1, Ya2, Ya3, Yn1, Yn2, Yn3, Ye1, Ye2, Ye3, ee1, ee2, ee3⟩ := cf_slices hR
   subst ee1
   subst ee2
   subst ee3
   have HY : Hid (HoldsL True (fun q => y6.heap.size ≤ q ∧ q < z7.heap.size) z7 [.slice Ya1 Yn1 Ye1, .slice Ya2 Yn2 Ye2, .slice Ya3 Yn3 Ye3] cy.d) := Lib.hid (hR.wide (fun q hq hp => ⟨hp, hq⟩))
   replace KA := Lib.hid (KA.out.below hb)
   replace KC := Lib.hid (KC.out.below hb)
   replace KN := Lib.hid (KN.out.below hb)
   replace LG := Lib.hid (LG.out.below hb)
   replace HT := Lib.hid (HT.out.later hb)
   replace HC := Lib.hid (HC.out.later hb)
   replace KW := Lib.hid (KW.out.below hb)
   replace HW := Lib.hid (HW.out.later hb)
   replace HCP := Lib.hid (HCP.out.later hb)
   replace KX := Lib.hid (KX.out.below hb)
   replace HX := Lib.hid (HX.out.later hb)
   replace BW := Lib.hid (below_step' BW.out hb)
   have SZ7 : Hid (y6.heap.size ≤ z7.heap.size) := Lib.hid hb.size
   clear hb hR
   go_upto_region 8 with fail
   obtain ⟨bY, hbY⟩ : ∃ b, b = z7.heap.size := ⟨_, rfl⟩
   obtain ⟨y7, hy⟩ : ∃ y, y = z7.alloc (.cells #[.slice Ya1 Yn1 Ye1, .slice Ya2 Yn2 Ye2, .slice Ya3 Yn3 Ye3] 31) := ⟨_, rfl⟩
   have hb : Below z7.heap.size z7 y7 := by rw [hy]; exact below_new _ _
   have KY : Hid (BoxAt bY [.slice Ya1 Yn1 Ye1, .slice Ya2 Yn2 Ye2, .slice Ya3 Yn3 Ye3] y7) := Lib.hid (by rw [hbY, hy]; exact boxAt_new z7 [.slice Ya1 Yn1 Ye1, .slice Ya2 Yn2 Ye2, .slice Ya3 Yn3 Ye3] _)
   replace KA := Lib.hid (KA.out.below hb)
   replace KC := Lib.hid (KC.out.below hb)
   replace KN := Lib.hid (KN.out.below hb)
   replace LG := Lib.hid (LG.out.below hb)
   replace HT := Lib.hid (HT.out.later hb)
   replace HC := Lib.hid (HC.out.later hb)
   replace KW := Lib.hid (KW.out.below hb)
   replace HW := Lib.hid (HW.out.later hb)
   replace HCP := Lib.hid (HCP.out.later hb)
   replace KX := Lib.hid (KX.out.below hb)
   replace HX := Lib.hid (HX.out.later hb)
   replace HY := Lib.hid (HY.out.later hb)
   replace BW := Lib.hid (below_step' BW.out hb)
   have SZ8 : Hid (z7.heap.size ≤ y7.heap.size) := Lib.hid hb.size
   rw [← hy, ← hbY]
   clear hy hbY hb
   have q0 := KX.out 0 _ rfl
   have q1 := KX.out 1 _ rfl
   have q2 := KX.out 2 _ rfl
   have p0 := KY.out 0 _ rfl
   have p1 := KY.out 1 _ rfl
   have p2 := KY.out 2 _ rfl
   go_upto_region 9 with fail
   clear q0 q1 q2 p0 p1 p2
   obtain ⟨bl, hbl⟩ : ∃ b, b = y7.heap.size := ⟨_, rfl⟩
   obtain ⟨y8, hy⟩ : ∃ y, y = y7.alloc (.cells #[.slice Xa1 Xn1 Xe1, .slice Xa2 Xn2 Xe2, .slice Xa3 Xn3 Xe3, .slice Ya1 Yn1 Ye1, .slice Ya2 Yn2 Ye2, .slice Ya3 Yn3 Ye3] 31) := ⟨_, rfl⟩
   have hb : Below y7.heap.size y7 y8 := by rw [hy]; exact below_new _ _
   have KL : Hid (BoxAt bl [.slice Xa1 Xn1 Xe1, .slice Xa2 Xn2 Xe2, .slice Xa3 Xn3 Xe3, .slice Ya1 Yn1 Ye1, .slice Ya2 Yn2 Ye2, .slice Ya3 Yn3 Ye3] y8) := Lib.hid (by rw [hbl, hy]; exact boxAt_new y7 [.slice Xa1 Xn1 Xe1, .slice Xa2 Xn2 Xe2, .slice Xa3 Xn3 Xe3, .slice Ya1 Yn1 Ye1, .slice Ya2 Yn2 Ye2, .slice Ya3 Yn3 Ye3] _)
   replace KA := Lib.hid (KA.out.below hb)
   replace KC := Lib.hid (KC.out.below hb)
   replace KN := Lib.hid (KN.out.below hb)
   replace LG := Lib.hid (LG.out.below hb)
   replace HT := Lib.hid (HT.out.later hb)
   replace HC := Lib.hid (HC.out.later hb)
   replace KW := Lib.hid (KW.out.below hb)
   replace HW := Lib.hid (HW.out.later hb)
   replace HCP := Lib.hid (HCP.out.later hb)
   replace HX := Lib.hid (HX.out.later hb)
   replace HY := Lib.hid (HY.out.later hb)
   replace BW := Lib.hid (below_step' BW.out hb)
   have BLG : Hid (z7.heap.size ≤ bl) := Lib.hid (by rw [hbl]; exact SZ8.out)
   rw [← hy, ← hbl]
   clear hy hbl hb KX KY KA KN LG HT
   obtain ⟨V, F, N, PO, hV, hN, hI, hAp, hNs, hPO⟩ := owI_mk BW.out HX.out HY.out SX.out SY.out SZ45.out (by have := SZ5.out; have := SZ6.out; omega) (by have := SZ45.out; have := SZ4.out; omega)
   have VQ := Lib.hid hV
   have NQ := Lib.hid hN
   have OI := Lib.hid hI
   have AP := Lib.hid hAp
   have NS := Lib.hid hNs
   have POQ := Lib.hid hPO
   clear hV hN hI hAp hNs hPO HX HY
   have NPO : Hid (∀ q, q < y4.heap.size → ¬ PO q) := Lib.hid (fun q hq hp => by have := POQ.out q hp; have := SZ45.out; have := SZ5.out; have := SZ6.out; omega)
   have NPL : Hid (¬ PO bl) := Lib.hid (fun hp => by have := POQ.out bl hp; have := BLG.out; have := SZ45.out; have := SZ5.out; have := SZ6.out; have := SZ7.out; omega)
   have NPC : Hid (¬ PO bc) := Lib.hid (NPO.out bc BCT.out)
   have NPW : Hid (¬ PO bw) := Lib.hid (NPO.out bw BWT.out)
   have BLT : Hid (bl < y8.heap.size) := Lib.hid (World.block_lt_of_cell? y8 _ (KL.out 0 _ rfl))
   have KV : Hid (∀ i j, i < 2 → j < 3 → y8.cell? ⟨bl, i * 3 + j, none⟩ = some (V i j)) := Lib.hid (fun i j hi hj => by
    rw [VQ.out]
    rcases two_cases hi with rfl | rfl <;> rcases three_cases hj with rfl | rfl | rfl
    ·exact KL.out 0 _ rfl
    ·exact KL.out 1 _ rfl
    ·exact KL.out 2 _ rfl
    ·exact KL.out 3 _ rfl
    ·exact KL.out 4 _ rfl
    ·exact KL.out 5 _ rfl)
   clear VQ POQ KL SX SY
   go_wp2_with fail
   go_loopw [14] (fun i wr => ∃ k : Nat, i = .int .i64 k ∧ k ≤ 2 ∧ OwI w y8 PO F V N wr) (fun i _ => 2 - (intOf i).toNat)
   case atStart => exact ⟨0, rfl, by omega, OI.out⟩
   case round =>
    clear OI
    obtain ⟨k, rfl, hk, hr⟩ := hrel
    obtain ⟨wv14, hw1⟩ : ∃ x, x = wr := ⟨_, rfl⟩
    subst hw1
    have HR := Lib.hid hr
    clear hr
    by_cases hlt : k < 2
    ·have hk2 : (k : Int) < 2 := by omega
     obtain ⟨a1, e1, hv⟩ := NQ.out k 0 hlt (by decide)
     obtain ⟨n1, hn⟩ : ∃ n, n = N k 0 := ⟨_, rfl⟩
     rw [← hn] at hv
     have V1 := Lib.hid hv
     have hb1 : n1 ≤ 1000000 := by rw [hn]; exact NS.out k 0 hlt (by decide)
     clear hv hn
     obtain ⟨a2, e2, hv⟩ := NQ.out k 1 hlt (by decide)
     obtain ⟨n2, hn⟩ : ∃ n, n = N k 1 := ⟨_, rfl⟩
     rw [← hn] at hv
     have V2 := Lib.hid hv
     have hb2 : n2 ≤ 1000000 := by rw [hn]; exact NS.out k 1 hlt (by decide)
     clear hv hn
     obtain ⟨a3, e3, hv⟩ := NQ.out k 2 hlt (by decide)
     obtain ⟨n3, hn⟩ : ∃ n, n = N k 2 := ⟨_, rfl⟩
     rw [← hn] at hv
     have V3 := Lib.hid hv
     have hb3 : n3 ≤ 1000000 := by rw [hn]; exact NS.out k 2 hlt (by decide)
     clear hv hn
     have CL : Hid (∀ wz, OwI w y8 PO F V N wz → wz.cell? ⟨bl, k * 3, none⟩ = some (.slice a1 n1 e1) ∧ wz.cell? ⟨bl, k * 3 + 1, none⟩ = some (.slice a2 n2 e2) ∧ wz.cell? ⟨bl, k * 3 + 2, none⟩ = some (.slice a3 n3 e3)) := Lib.hid (fun wz h => ⟨(h.same.cell (a := ⟨bl, k * 3, none⟩) NPL.out BLT.out).trans ((KV.out k 0 hlt (by decide)).trans (congrArg some V1.out)), (h.same.cell (a := ⟨bl, k * 3 + 1, none⟩) NPL.out BLT.out).trans ((KV.out k 1 hlt (by decide)).trans (congrArg some V2.out)), (h.same.cell (a := ⟨bl, k * 3 + 2, none⟩) NPL.out BLT.out).trans ((KV.out k 2 hlt (by decide)).trans (congrArg some V3.out))⟩)
     obtain ⟨c1', c2', c3'⟩ := CL.out _ HR.out
     go_wp2_with fail
     clear c1' c2' c3'
     go_loopw [15] (fun j wr => ∃ t : Nat, j = .int .i64 t ∧ t ≤ n1 ∧ OwI w y8 PO F V N wr) (fun j _ => n1 - (intOf j).toNat)
     case atStart => exact ⟨0, rfl, by omega, HR.out⟩
     case round =>
      obtain ⟨t, rfl, ht, hr⟩ := hrel
      obtain ⟨wv15, hw1⟩ : ∃ x, x = wr := ⟨_, rfl⟩
      subst hw1
      have HR15 := Lib.hid hr
      obtain ⟨c1', c2', c3'⟩ := CL.out _ hr
      by_cases htl : t < n1
      ·have htl' : (t : Int) < n1 := by omega
       obtain ⟨g, x, ee, hc, hf, hset⟩ := hr.set0 AP.out hlt V1.out htl
       subst ee
       have HS := Lib.hid (hset 99)
       clear hset hr
       go_wp2_with fail
       go_roundw
       case rel => exact ⟨t + 1, by go_num, by omega, HS.out⟩
       case measure => simp [intOf]; omega
      ·obtain rfl : n1 = t := by omega
       have htl' : ¬ (n1 : Int) < n1 := by omega
       clear hr ht htl c1' c2' c3'
       obtain ⟨c1', c2', c3'⟩ := CL.out _ HR15.out
       go_wp2_with fail
       clear c1' c2' c3'
       go_loopw [16] (fun j wr => ∃ t : Nat, j = .int .i64 t ∧ t ≤ n3 ∧ OwI w y8 PO F V N wr) (fun j _ => n3 - (intOf j).toNat)
       case atStart => exact ⟨0, rfl, by omega, HR15.out⟩
       case round =>
        obtain ⟨t, rfl, ht, hr⟩ := hrel
        obtain ⟨wv16, hw1⟩ : ∃ x, x = wr := ⟨_, rfl⟩
        subst hw1
        have HR16 := Lib.hid hr
        obtain ⟨c1', c2', c3'⟩ := CL.out _ hr
        by_cases htl : t < n3
        ·have htl' : (t : Int) < n3 := by omega
         obtain ⟨g, x, ee, hc, hf, hset⟩ := hr.set2 AP.out hlt V3.out htl
         subst ee
         have HS := Lib.hid (hset 99)
         clear hset hr
         go_wp2_with fail
         go_roundw
         case rel => exact ⟨t + 1, by go_num, by omega, HS.out⟩
         case measure => simp [intOf]; omega
        ·obtain rfl : n3 = t := by omega
         have htl' : ¬ (n3 : Int) < n3 := by omega
         clear hr ht htl c1' c2' c3'
         obtain ⟨c1', c2', c3'⟩ := CL.out _ HR16.out
         go_wp2_with fail
         clear c1' c2' c3'
         go_loopw [17] (fun j wr => ∃ t : Nat, j = .int .i64 t ∧ t ≤ n2 ∧ OwI w y8 PO F V N wr) (fun j _ => n2 - (intOf j).toNat)
         case atStart => exact ⟨0, rfl, by omega, HR16.out⟩
         case round =>
          obtain ⟨u, rfl, hu, hr⟩ := hrel
          obtain ⟨wv17, hw1⟩ : ∃ x, x = wr := ⟨_, rfl⟩
          subst hw1
          have HR17 := Lib.hid hr
          obtain ⟨c1', c2', c3'⟩ := CL.out _ hr
          by_cases hul : u < n2
          ·have hul' : (u : Int) < n2 := by omega
           obtain ⟨g, mk, mc, ma, ee, hcm, hmk⟩ := hr.open1 hlt V2.out hul
           subst ee
           have HCM := Lib.hid hcm
           clear hr
           go_wp2_with fail
           clear c1' c2' c3' hcm
           go_loopw [18] (fun j wr => ∃ z : Nat, j = .int .i64 z ∧ z ≤ mk ∧ OwI w y8 PO F V N wr ∧ wr.cell? ⟨g, u, none⟩ = some (.slice ma mk mc)) (fun j _ => mk - (intOf j).toNat)
           case atStart => exact ⟨0, rfl, by omega, HR17.out, HCM.out⟩
           case round =>
            obtain ⟨z, rfl, hz, hr, hcell⟩ := hrel
            obtain ⟨wv18, hw1⟩ : ∃ x, x = wr := ⟨_, rfl⟩
            subst hw1
            have HR18 := Lib.hid hr
            obtain ⟨c1', c2', c3'⟩ := CL.out _ hr
            by_cases hzl : z < mk
            ·have hzl' : (z : Int) < mk := by omega
             obtain ⟨b, x, x', ee, hx1, hx2, hfz, hset⟩ := hr.set1 AP.out hlt V2.out hul hcell hzl
             subst ee
             have HS := Lib.hid (hset 99 0)
             have f0 := hfz (z * 2)
             have f1 := hfz (z * 2 + 1)
             clear hset hr hfz
             go_wp2_with fail
             go_roundw
             case rel => exact ⟨z + 1, by go_num, by omega, (HS.out).1, (HS.out).2⟩
             case measure => simp [intOf]; omega
            ·obtain rfl : mk = z := by omega
             have hzl' : ¬ (mk : Int) < mk := by omega
             clear hr hz hzl
             go_wp2_with fail
             go_roundw
             case rel => exact ⟨u + 1, by go_num, by omega, HR18.out⟩
             case measure => simp [intOf]; omega
          ·obtain rfl : n2 = u := by omega
           have hul' : ¬ (n2 : Int) < n2 := by omega
           clear hr hu hul
           go_wp2_with fail
           go_roundw
           case rel => exact ⟨k + 1, by go_num, by omega, HR17.out⟩
           case measure => simp [intOf]; omega
    ·obtain rfl : 2 = k := by omega
     have hk2 : ¬ (2 : Int) < 2 := by omega
     clear hk hlt
     have KCZ := Lib.hid (KC.out.same HR.out.same NPC.out)
     have KWZ := Lib.hid (KW.out.same HR.out.same NPW.out)
     have HCZ := Lib.hid (HCP.out.same (HR.out.same.sub (fun q hq => NPO.out q hq)))
     have HWZ := Lib.hid (HW.out.same (HR.out.same.sub (fun q hq => NPO.out q hq)))
     have BWZ := Lib.hid HR.out.bel
     go_upto_region 27 with fail
     refine wp_region_held_drew (S := (fun w' => w'.cell? ⟨bc, 0, none⟩ = some (.slice xa1 xn1 xe1) ∧ w'.cell? ⟨bc, 1, none⟩ = some (.slice xa2 xn2 xe2) ∧ w'.cell? ⟨bc, 2, none⟩ = some (.slice xa3 xn3 xe3) ∧ w'.cell? ⟨bw, 0, none⟩ = some (.slice Wa1 Wn1 We1) ∧ w'.cell? ⟨bw, 1, none⟩ = some (.slice Wa2 Wn2 We2) ∧ w'.cell? ⟨bw, 2, none⟩ = some (.slice Wa3 Wn3 We3))) (by kernel_rfl) ?_ (fun hHeld => ?_)
     ·exact ⟨KCZ.out.below (below_drewN (Below.refl _ wv14) 1) 0 _ rfl, KCZ.out.below (below_drewN (Below.refl _ wv14) 1) 1 _ rfl, KCZ.out.below (below_drewN (Below.refl _ wv14) 1) 2 _ rfl, KWZ.out.below (below_drewN (Below.refl _ wv14) 1) 0 _ rfl, KWZ.out.below (below_drewN (Below.refl _ wv14) 1) 1 _ rfl, KWZ.out.below (below_drewN (Below.refl _ wv14) 1) 2 _ rfl⟩
     obtain ⟨yb, hyb⟩ : ∃ y, y = wv14.drew := ⟨_, rfl⟩
     rw [← hyb] at hHeld ⊢
     have BYb : Hid (Below wv14.heap.size wv14 yb) := Lib.hid (by rw [hyb]; exact below_drewN (Below.refl _ wv14) 1)
     clear hyb
     refine tq 0 ?_
     refine tq 2 ?_
     refine rd 1 fun K hK => ?_
     go_simp
     refine (lref_at _ _ _ _ (cutC c1) (HCZ.out.weak.later BYb.out)).mono ?_
     rintro e yl0 ⟨rfl, hb⟩
     replace BYb := Lib.hid (below_step' BYb.out hb)
     clear hb
     go_wp2_with fail
     refine hK.out _ _ ?_ (fun hHeld => ?_)
     ·exact ⟨KCZ.out.below BYb.out 0 _ rfl, KCZ.out.below BYb.out 1 _ rfl, KCZ.out.below BYb.out 2 _ rfl, KWZ.out.below BYb.out 0 _ rfl, KWZ.out.below BYb.out 1 _ rfl, KWZ.out.below BYb.out 2 _ rfl⟩
     clear hK K
     try simp only [Act.put, List.getElem_toArray, List.getElem_cons_zero, List.getElem_cons_succ, List.setIfInBounds_toArray, List.set_cons_zero, List.set_cons_succ]
     refine rd 3 fun K hK => ?_
     go_simp
     refine (rsame_at (cutC c1) (cutC c1) true _ _ _ _ _ _ _ (HCZ.out.weak.later BYb.out) (HWZ.out.weak.later BYb.out) SMC.out SMC.out ⟨fun _ => rfl, fun _ => rfl⟩).mono ?_
     rintro e yl1 ⟨rfl, hb⟩
     replace BYb := Lib.hid (below_step' BYb.out hb)
     clear hb
     go_wp2_with fail
     refine hK.out _ _ ?_ (fun hHeld => ?_)
     ·exact ⟨KCZ.out.below BYb.out 0 _ rfl, KCZ.out.below BYb.out 1 _ rfl, KCZ.out.below BYb.out 2 _ rfl, KWZ.out.below BYb.out 0 _ rfl, KWZ.out.below BYb.out 1 _ rfl, KWZ.out.below BYb.out 2 _ rfl⟩
     clear hK K
     try simp only [Act.put, List.getElem_toArray, List.getElem_cons_zero, List.getElem_cons_succ, List.setIfInBounds_toArray, List.set_cons_zero, List.set_cons_succ]
     refine tq 4 ?_
     refine rd 5 fun K hK => ?_
     go_simp
     refine (fixed5_any _).mono ?_
     rintro e yl2 ⟨rfl, hb⟩
     replace BYb := Lib.hid (below_step' BYb.out hb)
     clear hb
     go_wp2_with fail
     refine hK.out _ _ ?_ (fun hHeld => ?_)
     ·exact ⟨KCZ.out.below BYb.out 0 _ rfl, KCZ.out.below BYb.out 1 _ rfl, KCZ.out.below BYb.out 2 _ rfl, KWZ.out.below BYb.out 0 _ rfl, KWZ.out.below BYb.out 1 _ rfl, KWZ.out.below BYb.out 2 _ rfl⟩
     clear hK K
     try simp only [Act.put, List.getElem_toArray, List.getElem_cons_zero, List.getElem_cons_succ, List.setIfInBounds_toArray, List.set_cons_zero, List.set_cons_succ]
     refine tq 6 ?_
     refine tq 7 ?_
     refine wpAnyH_done (by kernel_rfl) ?_ _
     go_wp2_with fail
     go_ret
     exact ⟨rfl, below_step' BWZ.out BYb.out⟩
end Go.Proofs.Ytennbiajnkobnaa

