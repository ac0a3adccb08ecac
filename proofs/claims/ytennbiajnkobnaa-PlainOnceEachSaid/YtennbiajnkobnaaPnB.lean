/- PlainOnceEach, walked. Written by gen_peach5.py. -/
import Derived.Test.YtennbiajnkobnaaPnA
import Derived.BigQuiet
import Derived.Deep.CutBlock
set_option linter.unusedSimpArgs false
set_option linter.unusedVariables false
namespace Go.Proofs.Ytennbiajnkobnaa
open Go.RowKit Go.PlainAid

set_option maxHeartbeats 8000000 in
set_option maxRecDepth 100000 in
theorem walkPlainOnceEach (N0 : Int) (u0 : Value) (L0 : Lks) (t0 : Value) (M0 : Tab) (ff : Bool) (s0 : Value) (l0 : List Sp) (w : World) (wL : LinksAt w u0 L0) (wW0 : ∀ p ∈ L0, wfp p) (wT : Has w t0 (dTab M0)) (wS : Has w s0 (dSteps l0)) :
  Calls Try.prog 5 #[.agg #[.int .i64 N0, u0, t0, .bool ff], s0] w fun e w' => e = .returned (.bool true) ∧ Below w.heap.size w w' := by
 obtain ⟨ga0, gc, ee⟩ := slice_of (has_of_links wL)
 subst ee
 obtain ⟨ta0, tc0, ee⟩ := slice_of wT
 subst ee
 obtain ⟨A, hA⟩ : ∃ A, A = Ap.mk N0 (L0.take 40) (cutT M0) ff := ⟨_, rfl⟩
 have hgl40 := take_le L0
 have hwf := wf_take wW0
 have hLC := linksAt_cut wL
 obtain ⟨gl0, hgl0⟩ : ∃ n, n = L0.length := ⟨_, rfl⟩
 obtain ⟨tl0, htl0⟩ : ∃ n, n = M0.length := ⟨_, rfl⟩
 obtain ⟨gl, hgl⟩ : ∃ n, n = (L0.take 40).length := ⟨_, rfl⟩
 rw [← hgl] at hgl40 hLC
 rw [← hgl0] at wL ⊢
 rw [← htl0] at wT ⊢
 have WL := Lib.hid wL
 have WT := Lib.hid wT
 have AE := Lib.hid hA
 have GL0 := Lib.hid hgl0
 have GLE := Lib.hid hgl
 have HLC := Lib.hid hLC
 have HWF := Lib.hid hwf
 have hAn : A.n = N0 := by rw [hA]
 have hAl : A.l = L0.take 40 := by rw [hA]
 have hAt : A.t = cutT M0 := by rw [hA]
 have hAf : A.ff = ff := by rw [hA]
 have AN := Lib.hid hAn
 have AL := Lib.hid hAl
 have AT := Lib.hid hAt
 have AF := Lib.hid hAf
 have SMT : Hid (SmallTab A.t) := Lib.hid (by rw [hAt]; exact cutT_small M0)
 have LN : Hid (A.l.length ≤ 40) := Lib.hid (by rw [hAl]; exact take_le L0)
 have WFA : Hid (∀ p ∈ A.l, wfp p) := Lib.hid (by rw [hAl]; exact hwf)
 clear wL wW0 wT hA hwf hgl0 htl0 hgl hLC hAn hAl hAt hAf
 obtain ⟨sa, sc, ee⟩ := slice_of wS
 subst ee
 obtain ⟨n0, hn0⟩ : ∃ n, n = l0.length := ⟨_, rfl⟩
 rw [← hn0] at wS ⊢
 have HS := Lib.hid wS
 have NL := Lib.hid hn0
 clear wS hn0
 go_enter Try.func5, Try.ntmps5
 try simp only [List.append_eq, List.cons_append, List.nil_append]
 go_upto_region 1 with fail
 obtain ⟨y0, hy0⟩ : ∃ y, y = w.alloc (.cells #[.int .i64 N0, .slice ga0 gl0 gc, .slice ta0 tl0 tc0, .bool ff] 27) := ⟨_, rfl⟩
 have BA0 : Hid (Below w.heap.size w y0) := Lib.hid (by rw [hy0]; exact below_new _ _)
 have ka0 : BoxAt w.heap.size [.int .i64 N0, .slice ga0 gl0 gc, .slice ta0 tl0 tc0, .bool ff] y0 := by rw [hy0]; exact boxAt_new w [.int .i64 N0, .slice ga0 gl0 gc, .slice ta0 tl0 tc0, .bool ff] _
 have oa0 : OpenRow y0 w.heap.size 1 4 := by rw [hy0]; exact ⟨by decide, _, _, heap_alloc_new w _, rfl⟩
 have za : w.heap.size < y0.heap.size ∧ w.heap.size ≤ w.heap.size := by rw [hy0]; simp
 rw [← hy0]
 obtain ⟨ba, hba⟩ : ∃ b, b = w.heap.size := ⟨_, rfl⟩
 have za' : ba < y0.heap.size ∧ w.heap.size ≤ ba := by rw [hba]; exact za
 rw [← hba] at ka0 oa0 ⊢
 have KA0 := Lib.hid ka0
 have OA0 := Lib.hid oa0
 have ZA := Lib.hid za'
 clear hy0 ka0 oa0 za za' hba
 have p0 := KA0.out 0 _ rfl
 have p1 := KA0.out 1 _ rfl
 have p2 := KA0.out 2 _ rfl
 have p3 := KA0.out 3 _ rfl
 go_wp2_with fail
 clear p0 p1 p2 p3
 refine (lcut_at N0 L0 M0 ff _ _ _ (WL.out.below BA0.out) (WT.out.later BA0.out)).mono ?_
 rintro e z1 ⟨ga1, gc1, uT, he1, rfl, hT, hb⟩
 simp only [Value.slice.injEq] at he1
 obtain ⟨hga, hgx, hgc⟩ := he1
 clear hgx
 subst hga hgc
 rw [← GLE.out]
 obtain ⟨ta, tc, ee⟩ := slice_of hT.weak
 subst ee
 obtain ⟨tl, htl⟩ : ∃ n, n = (cutT M0).length := ⟨_, rfl⟩
 rw [← htl] at hT ⊢
 have TLE := Lib.hid htl
 have hO := OA0.out.same (SameOn.of_below (P := fun _ => True) hb) trivial ZA.out.1
 have hB := KA0.out.below hb
 have k0 := hB 0 _ rfl
 have k1 := hB 1 _ rfl
 have k2 := hB 2 _ rfl
 have k3 := hB 3 _ rfl
 have f0 := hO.frozen 0
 have f1 := hO.frozen 1
 have f2 := hO.frozen 2
 have f3 := hO.frozen 3
 have BZ := Lib.hid hb
 have HB := Lib.hid hB
 have HO := Lib.hid hO
 have HTZ := Lib.hid hT
 clear hb hB hO hT htl
 go_upto_region 2 with fail
 clear k0 k1 k2 k3 f0 f1 f2 f3
 obtain ⟨y1, hy⟩ : ∃ y, y = (((z1.setCell ⟨ba, 0, none⟩ (.int .i64 N0)).setCell ⟨ba, 1, none⟩ (.slice ga0 gl gc)).setCell ⟨ba, 2, none⟩ (.slice ta tl tc)).setCell ⟨ba, 3, none⟩ (.bool ff) := ⟨_, rfl⟩
 have ka : BoxAt ba [.int .i64 N0, .slice ga0 gl gc, .slice ta tl tc, .bool ff] y1 := by rw [hy]; exact boxAt_set (j := 3) (u := .bool ff) (boxAt_set (j := 2) (u := .slice ta tl tc) (boxAt_set (j := 1) (u := .slice ga0 gl gc) (boxAt_set (j := 0) (u := .int .i64 N0) HB.out)))
 have hbw : Below w.heap.size w y1 := by rw [hy]; exact ((((below_step' BA0.out BZ.out).setCell ZA.out.2 _).setCell ZA.out.2 _).setCell ZA.out.2 _).setCell ZA.out.2 _
 have ss : SameOn (fun q => q ≠ ba) z1 y1 := by rw [hy]; exact ((((SameOn.refl _ z1).set ⟨ba, 0, none⟩ _ (fun h => h rfl)).set ⟨ba, 1, none⟩ _ (fun h => h rfl)).set ⟨ba, 2, none⟩ _ (fun h => h rfl)).set ⟨ba, 3, none⟩ _ (fun h => h rfl)
 have ht : Has y1 (.slice ta tl tc) (dTab A.t) := by
  rw [AT.out]
  exact (HTZ.out.same (ss.sub (fun q (h : _ ≤ q) e => by subst e; have := ZA.out.1; omega))).weak
 rw [← hy]
 have KA := Lib.hid ka
 have LG : Hid (LinksAt y1 (.slice ga0 gl gc) A.l) := Lib.hid (by rw [AL.out]; exact HLC.out.below hbw)
 have HT := Lib.hid ht
 have BW := Lib.hid hbw
 have SS := Lib.hid ss
 clear hy ka hbw ss ht HB HO HTZ KA0 OA0
 have p0 := KA.out 0 _ rfl
 have p1 := KA.out 1 _ rfl
 have p2 := KA.out 2 _ rfl
 have p3 := KA.out 3 _ rfl
 go_wp2_with fail
 clear p0 p1 p2 p3
 refine (lapp_at N0 A.l A.t ff _ _ _ LG.out HT.out SMT.out).mono ?_
 rintro e z2 ⟨uT, rfl, hu, hb⟩
 obtain ⟨ua, uc, ee⟩ := slice_of hu
 subst ee
 obtain ⟨ul, hul⟩ : ∃ n, n = A.t.length := ⟨_, rfl⟩
 rw [← hul] at hu ⊢
 clear hul
 go_upto_region 3 with fail
 obtain ⟨y2, hy⟩ : ∃ y, y = z2.alloc (.cells #[.int .i64 N0, .slice ga0 gl gc, .slice ua ul uc, .bool ff] 38) := ⟨_, rfl⟩
 have hl2 : Below y1.heap.size y1 y2 := by rw [hy]; exact below_step' hb (below_new _ _)
 have kr : BoxAt z2.heap.size [.int .i64 N0, .slice ga0 gl gc, .slice ua ul uc, .bool ff] y2 := by rw [hy]; exact boxAt_new z2 [.int .i64 N0, .slice ga0 gl gc, .slice ua ul uc, .bool ff] _
 have hu2 : Has y2 (.slice ua ul uc) (dTab A.t) := by rw [hy]; exact hu.later (below_new _ _)
 rw [← hy]
 obtain ⟨br, hbr⟩ : ∃ b, b = z2.heap.size := ⟨_, rfl⟩
 rw [← hbr] at kr ⊢
 have KR := Lib.hid kr
 have UT := Lib.hid hu2
 replace KA := Lib.hid (KA.out.below hl2)
 replace LG := Lib.hid (LG.out.below hl2)
 replace HT := Lib.hid (HT.out.later hl2)
 replace BW := Lib.hid (below_step' BW.out hl2)
 clear hy hl2 kr hu2 hu hb hbr
 obtain ⟨tt, htt⟩ := bool_some (TabOK A.n A.l A.t)
 have TT := Lib.hid htt
 clear htt
 have p0 := KR.out 0 _ rfl
 have p1 := KR.out 1 _ rfl
 have p2 := KR.out 2 _ rfl
 go_wp2_with fail
 clear p0 p1 p2
 refine (rright4_at N0 _ A.l A.t _ tt _ UT.out LG.out (Nat.le_trans LN.out (by decide)) SMT.out (by rw [← AN.out]; exact TT.out)).mono ?_
 rintro e y3 ⟨rfl, hb⟩
 replace KA := Lib.hid (KA.out.below hb)
 replace LG := Lib.hid (LG.out.below hb)
 replace HT := Lib.hid (HT.out.later hb)
 replace BW := Lib.hid (below_step' BW.out hb)
 clear hb KR UT
 cases tt with
 | false =>
  go_wp2_with fail
  refine (fixed5_any _).mono ?_
  rintro e y4 ⟨rfl, hb⟩
  replace BW := Lib.hid (below_step' BW.out hb)
  clear hb
  go_wp2_with fail
  go_ret
  exact ⟨rfl, BW.out⟩
 | true =>
  have hTab := TT.out.1 rfl
  have HTab := Lib.hid hTab
  clear hTab
  have hN0 : N0 = A.n := AN.out.symm
  have hF0 : ff = A.ff := AF.out.symm
  rw [hN0, hF0] at KA ⊢
  clear hN0 hF0
  have hgA : gl = A.l.length := by rw [AL.out]; exact GLE.out
  have GLA := Lib.hid hgA
  have gl40 : gl ≤ 40 := by rw [hgA]; exact LN.out
  have hgl5 : gl ≤ 1000000 := by omega
  have hmk := make_lln gl hgl5
  clear hgA
  go_upto_region 5 with fail
  go_cut [6, 7] from 24 to 30 (fun sp sg wx => EachB A y3 gl sp sg wx)
  case first =>
   as_aux_lemma =>
    refine wp_region_held_drew (S := (fun w' => w'.cell? ⟨ba, 0, none⟩ = some (.int .i64 A.n) ∧ w'.cell? ⟨ba, 1, none⟩ = some (.slice ga0 gl gc) ∧ w'.cell? ⟨ba, 2, none⟩ = some (.slice ta tl tc) ∧ w'.cell? ⟨ba, 3, none⟩ = some (.bool A.ff))) (by kernel_rfl) ?_ (fun hHeld => ?_)
    ·exact ⟨KA.out.below (below_drewN (Below.refl _ y3) 1) 0 _ rfl, KA.out.below (below_drewN (Below.refl _ y3) 1) 1 _ rfl, KA.out.below (below_drewN (Below.refl _ y3) 1) 2 _ rfl, KA.out.below (below_drewN (Below.refl _ y3) 1) 3 _ rfl⟩
    obtain ⟨yb, hyb⟩ : ∃ y, y = y3.drew := ⟨_, rfl⟩
    rw [← hyb] at hHeld ⊢
    have HY : Hid (Below y3.heap.size y3 yb) := Lib.hid (by rw [hyb]; exact below_drewN (Below.refl _ y3) 1)
    have BBy := Lib.hid (Below.refl yb.heap.size yb)
    have szy : y3.heap.size ≤ yb.heap.size := HY.out.size
    clear hyb
    refine tq 0 ?_
    refine tq 2 ?_
    refine tq 3 ?_
    refine tq 4 ?_
    refine tq 5 ?_
    refine wpAnyH_ready (rs := [1, 6, 7]) (by kernel_rfl) (by simp) ?_
    refine AllReadyH.cons rfl (fun K hK => ?_) (AllReadyH.cons rfl (fun K hK => ?_) (AllReadyH.cons rfl (fun K hK => ?_) AllReadyH.nil))
    ·go_simp
     refine (start_at A _ _ _ (LG.out.below (below_step' HY.out BBy.out)) (HT.out.later (below_step' HY.out BBy.out)) (Nat.le_trans LN.out (by decide)) (by have := HTab.out.2.1; have := HTab.out.1.2.1; omega)).mono ?_
     rintro e wS ⟨u1, u2, u3, rfl, hC, hb⟩
     obtain ⟨c1, c2, c3, m1, m2, m3, d1, d2, d3, ee1, ee2, ee3⟩ := cf_slices hC
     subst ee1
     subst ee2
     subst ee3
     have RS := Lib.hid (HoldsL.loose (hC.wide (P' := fun q => yb.heap.size ≤ q ∧ q < wS.heap.size) (fun q hq hp => ⟨hp, hq⟩)))
     have GS := Lib.hid hb
     have BBS := Lib.hid (below_step' BBy.out hb)
     have SZS : yb.heap.size ≤ wS.heap.size := hb.size
     clear hC hb
     go_wp2_with fail
     refine hK.out _ _ ?_ (fun hHeld => ?_)
     ·exact ⟨KA.out.below (below_step' HY.out BBS.out) 0 _ rfl, KA.out.below (below_step' HY.out BBS.out) 1 _ rfl, KA.out.below (below_step' HY.out BBS.out) 2 _ rfl, KA.out.below (below_step' HY.out BBS.out) 3 _ rfl⟩
     clear hK K
     try simp only [Act.put, List.getElem_toArray, List.getElem_cons_zero, List.getElem_cons_succ, List.setIfInBounds_toArray, List.set_cons_zero, List.set_cons_succ]
     refine wpAnyH_ready (rs := [6, 7]) (by kernel_rfl) (by simp) ?_
     refine AllReadyH.cons rfl (fun K hK => ?_) (AllReadyH.cons rfl (fun K hK => ?_) AllReadyH.nil)
     ·go_simp
      obtain ⟨wM, hwM⟩ : ∃ x, x = wS.alloc (.cells (madeCells #[.slice none 0 0] gl) 28) := ⟨_, rfl⟩
      have RM := Lib.hid (show Holds True (fun q => q = wS.heap.size) wM (.slice (some ⟨wS.heap.size, 0, none⟩) gl gl) (dLln (List.replicate gl [])) from by rw [hwM]; exact made_lln gl hgl5 wS)
      have GM := Lib.hid (show Below wS.heap.size wS wM from by rw [hwM]; exact below_new _ _)
      have BBM := Lib.hid (below_step' BBS.out GM.out)
      have SZM : wS.heap.size + 1 ≤ wM.heap.size := by rw [hwM]; simp
      rw [← hwM]
      clear hwM
      refine hK.out _ _ ?_ (fun hHeld => ?_)
      ·exact ⟨KA.out.below (below_step' HY.out BBM.out) 0 _ rfl, KA.out.below (below_step' HY.out BBM.out) 1 _ rfl, KA.out.below (below_step' HY.out BBM.out) 2 _ rfl, KA.out.below (below_step' HY.out BBM.out) 3 _ rfl⟩
      clear hK K
      try simp only [Act.put, List.getElem_toArray, List.getElem_cons_zero, List.getElem_cons_succ, List.setIfInBounds_toArray, List.set_cons_zero, List.set_cons_succ]
      refine wpAnyH_ready (rs := [7]) (by kernel_rfl) (by simp) ?_
      refine AllReadyH.cons rfl (fun K hK => ?_) AllReadyH.nil
      go_simp
      obtain ⟨wX, hwX⟩ : ∃ x, x = wM.alloc (.cells #[.slice none 0 0, .slice none 0 0, .slice none 0 0] 31) := ⟨_, rfl⟩
      have BX := Lib.hid (show BoxAt wM.heap.size [.slice none 0 0, .slice none 0 0, .slice none 0 0] wX from by rw [hwX]; exact boxAt_new wM [.slice none 0 0, .slice none 0 0, .slice none 0 0] _)
      have OX : Hid (OpenRow wX wM.heap.size 1 3) := Lib.hid (by rw [hwX]; exact ⟨by decide, _, _, heap_alloc_new wM _, rfl⟩)
      have GX := Lib.hid (show Below wM.heap.size wM wX from by rw [hwX]; exact below_new _ _)
      have BBX := Lib.hid (below_step' BBM.out GX.out)
      have SZX : wM.heap.size + 1 ≤ wX.heap.size := by rw [hwX]; simp
      rw [← hwX]
      clear hwX
      refine hK.out _ _ ?_ (fun hHeld => ?_)
      ·exact ⟨KA.out.below (below_step' HY.out BBX.out) 0 _ rfl, KA.out.below (below_step' HY.out BBX.out) 1 _ rfl, KA.out.below (below_step' HY.out BBX.out) 2 _ rfl, KA.out.below (below_step' HY.out BBX.out) 3 _ rfl⟩
      clear hK K
      try simp only [Act.put, List.getElem_toArray, List.getElem_cons_zero, List.getElem_cons_succ, List.setIfInBounds_toArray, List.set_cons_zero, List.set_cons_succ]
      refine wpAnyH_ready (rs := [8]) (by kernel_rfl) (by simp) ?_
      refine AllReadyH.cons rfl (fun K hK => ?_) AllReadyH.nil
      have hO := OX.out.same (SameOn.of_below (P := fun _ => True) (Below.refl _ wX)) trivial (by omega)
      have hB := BX.out.below (Below.refl _ wX)
      have k0 := hB 0 _ rfl
      have k1 := hB 1 _ rfl
      have k2 := hB 2 _ rfl
      have f0 := hO.frozen 0
      have f1 := hO.frozen 1
      have f2 := hO.frozen 2
      have HO := Lib.hid hO
      have HB := Lib.hid hB
      clear hB hO
      go_simp
      clear k0 k1 k2 f0 f1 f2
      obtain ⟨wT, hwT⟩ : ∃ x, x = ((wX.setCell ⟨wM.heap.size, 0, none⟩ (.slice c1 m1 d1)).setCell ⟨wM.heap.size, 1, none⟩ (.slice c2 m2 d2)).setCell ⟨wM.heap.size, 2, none⟩ (.slice c3 m3 d3) := ⟨_, rfl⟩
      have ssT : SameOn (fun q => q ≠ wM.heap.size) wX wT := by rw [hwT]; exact (((SameOn.refl _ wX).set _ _ (fun h => h rfl)).set _ _ (fun h => h rfl)).set _ _ (fun h => h rfl)
      have TB : Hid (BoxAt wM.heap.size [.slice c1 m1 d1, .slice c2 m2 d2, .slice c3 m3 d3] wT) := Lib.hid (by rw [hwT]; exact boxAt_set (j := 2) (u := .slice c3 m3 d3) (boxAt_set (j := 1) (u := .slice c2 m2 d2) (boxAt_set (j := 0) (u := .slice c1 m1 d1) HB.out)))
      have TO : Hid (OpenRow wT wM.heap.size 1 3) := Lib.hid (by rw [hwT]; exact ((HO.out.set 0 _).set 1 _).set 2 _)
      have TS := Lib.hid ((RS.out.later (below_step' (below_step' (Below.refl _ wS) GM.out) GX.out)).same (ssT.sub (fun q (h : _ ∧ _) e => by omega)))
      have TM := Lib.hid ((RM.out.later (below_step' (Below.refl _ wM) GX.out)).same (ssT.sub (fun q (h : q = _) e => by omega)))
      have BBT : Hid (Below yb.heap.size yb wT) := Lib.hid (by rw [hwT]; exact ((BBX.out.setCell (by show yb.heap.size ≤ wM.heap.size; omega) _).setCell (by show yb.heap.size ≤ wM.heap.size; omega) _).setCell (by show yb.heap.size ≤ wM.heap.size; omega) _)
      have SZT : wX.heap.size ≤ wT.heap.size := ssT.1
      rw [← hwT]
      clear hwT ssT HO HB
      refine hK.out _ _ ?_ (fun hHeld => ?_)
      ·exact ⟨KA.out.below (below_step' HY.out BBT.out) 0 _ rfl, KA.out.below (below_step' HY.out BBT.out) 1 _ rfl, KA.out.below (below_step' HY.out BBT.out) 2 _ rfl, KA.out.below (below_step' HY.out BBT.out) 3 _ rfl⟩
      clear hK K
      try simp only [Act.put, List.getElem_toArray, List.getElem_cons_zero, List.getElem_cons_succ, List.setIfInBounds_toArray, List.set_cons_zero, List.set_cons_succ]
      refine tq 9 ?_
      refine wpAnyH_done (by kernel_rfl) ?_ _
      go_wp2_with fail
      go_meet
      exact eachB_mk (b0 := yb.heap.size) (b1 := wS.heap.size) HTab.out GLA.out (below_step' HY.out BBT.out) TB.out TO.out TS.out TM.out (by omega) (by omega) (by omega) (by omega) (by omega) (by omega)
     ·go_simp
      obtain ⟨wX, hwX⟩ : ∃ x, x = wS.alloc (.cells #[.slice none 0 0, .slice none 0 0, .slice none 0 0] 31) := ⟨_, rfl⟩
      have BX := Lib.hid (show BoxAt wS.heap.size [.slice none 0 0, .slice none 0 0, .slice none 0 0] wX from by rw [hwX]; exact boxAt_new wS [.slice none 0 0, .slice none 0 0, .slice none 0 0] _)
      have OX : Hid (OpenRow wX wS.heap.size 1 3) := Lib.hid (by rw [hwX]; exact ⟨by decide, _, _, heap_alloc_new wS _, rfl⟩)
      have GX := Lib.hid (show Below wS.heap.size wS wX from by rw [hwX]; exact below_new _ _)
      have BBX := Lib.hid (below_step' BBS.out GX.out)
      have SZX : wS.heap.size + 1 ≤ wX.heap.size := by rw [hwX]; simp
      rw [← hwX]
      clear hwX
      refine hK.out _ _ ?_ (fun hHeld => ?_)
      ·exact ⟨KA.out.below (below_step' HY.out BBX.out) 0 _ rfl, KA.out.below (below_step' HY.out BBX.out) 1 _ rfl, KA.out.below (below_step' HY.out BBX.out) 2 _ rfl, KA.out.below (below_step' HY.out BBX.out) 3 _ rfl⟩
      clear hK K
      try simp only [Act.put, List.getElem_toArray, List.getElem_cons_zero, List.getElem_cons_succ, List.setIfInBounds_toArray, List.set_cons_zero, List.set_cons_succ]
      refine wpAnyH_ready (rs := [6, 8]) (by kernel_rfl) (by simp) ?_
      refine AllReadyH.cons rfl (fun K hK => ?_) (AllReadyH.cons rfl (fun K hK => ?_) AllReadyH.nil)
      ·go_simp
       obtain ⟨wM, hwM⟩ : ∃ x, x = wX.alloc (.cells (madeCells #[.slice none 0 0] gl) 28) := ⟨_, rfl⟩
       have RM := Lib.hid (show Holds True (fun q => q = wX.heap.size) wM (.slice (some ⟨wX.heap.size, 0, none⟩) gl gl) (dLln (List.replicate gl [])) from by rw [hwM]; exact made_lln gl hgl5 wX)
       have GM := Lib.hid (show Below wX.heap.size wX wM from by rw [hwM]; exact below_new _ _)
       have BBM := Lib.hid (below_step' BBX.out GM.out)
       have SZM : wX.heap.size + 1 ≤ wM.heap.size := by rw [hwM]; simp
       rw [← hwM]
       clear hwM
       refine hK.out _ _ ?_ (fun hHeld => ?_)
       ·exact ⟨KA.out.below (below_step' HY.out BBM.out) 0 _ rfl, KA.out.below (below_step' HY.out BBM.out) 1 _ rfl, KA.out.below (below_step' HY.out BBM.out) 2 _ rfl, KA.out.below (below_step' HY.out BBM.out) 3 _ rfl⟩
       clear hK K
       try simp only [Act.put, List.getElem_toArray, List.getElem_cons_zero, List.getElem_cons_succ, List.setIfInBounds_toArray, List.set_cons_zero, List.set_cons_succ]
       refine wpAnyH_ready (rs := [8]) (by kernel_rfl) (by simp) ?_
       refine AllReadyH.cons rfl (fun K hK => ?_) AllReadyH.nil
       have hO := OX.out.same (SameOn.of_below (P := fun _ => True) (below_step' (Below.refl _ wX) GM.out)) trivial (by omega)
       have hB := BX.out.below (below_step' (Below.refl _ wX) GM.out)
       have k0 := hB 0 _ rfl
       have k1 := hB 1 _ rfl
       have k2 := hB 2 _ rfl
       have f0 := hO.frozen 0
       have f1 := hO.frozen 1
       have f2 := hO.frozen 2
       have HO := Lib.hid hO
       have HB := Lib.hid hB
       clear hB hO
       go_simp
       clear k0 k1 k2 f0 f1 f2
       obtain ⟨wT, hwT⟩ : ∃ x, x = ((wM.setCell ⟨wS.heap.size, 0, none⟩ (.slice c1 m1 d1)).setCell ⟨wS.heap.size, 1, none⟩ (.slice c2 m2 d2)).setCell ⟨wS.heap.size, 2, none⟩ (.slice c3 m3 d3) := ⟨_, rfl⟩
       have ssT : SameOn (fun q => q ≠ wS.heap.size) wM wT := by rw [hwT]; exact (((SameOn.refl _ wM).set _ _ (fun h => h rfl)).set _ _ (fun h => h rfl)).set _ _ (fun h => h rfl)
       have TB : Hid (BoxAt wS.heap.size [.slice c1 m1 d1, .slice c2 m2 d2, .slice c3 m3 d3] wT) := Lib.hid (by rw [hwT]; exact boxAt_set (j := 2) (u := .slice c3 m3 d3) (boxAt_set (j := 1) (u := .slice c2 m2 d2) (boxAt_set (j := 0) (u := .slice c1 m1 d1) HB.out)))
       have TO : Hid (OpenRow wT wS.heap.size 1 3) := Lib.hid (by rw [hwT]; exact ((HO.out.set 0 _).set 1 _).set 2 _)
       have TS := Lib.hid ((RS.out.later (below_step' (below_step' (Below.refl _ wS) GX.out) GM.out)).same (ssT.sub (fun q (h : _ ∧ _) e => by omega)))
       have TM := Lib.hid ((RM.out.later (Below.refl _ wM)).same (ssT.sub (fun q (h : q = _) e => by omega)))
       have BBT : Hid (Below yb.heap.size yb wT) := Lib.hid (by rw [hwT]; exact ((BBM.out.setCell (by show yb.heap.size ≤ wS.heap.size; omega) _).setCell (by show yb.heap.size ≤ wS.heap.size; omega) _).setCell (by show yb.heap.size ≤ wS.heap.size; omega) _)
       have SZT : wM.heap.size ≤ wT.heap.size := ssT.1
       rw [← hwT]
       clear hwT ssT HO HB
       refine hK.out _ _ ?_ (fun hHeld => ?_)
       ·exact ⟨KA.out.below (below_step' HY.out BBT.out) 0 _ rfl, KA.out.below (below_step' HY.out BBT.out) 1 _ rfl, KA.out.below (below_step' HY.out BBT.out) 2 _ rfl, KA.out.below (below_step' HY.out BBT.out) 3 _ rfl⟩
       clear hK K
       try simp only [Act.put, List.getElem_toArray, List.getElem_cons_zero, List.getElem_cons_succ, List.setIfInBounds_toArray, List.set_cons_zero, List.set_cons_succ]
       refine tq 9 ?_
       refine wpAnyH_done (by kernel_rfl) ?_ _
       go_wp2_with fail
       go_meet
       exact eachB_mk (b0 := yb.heap.size) (b1 := wS.heap.size) HTab.out GLA.out (below_step' HY.out BBT.out) TB.out TO.out TS.out TM.out (by omega) (by omega) (by omega) (by omega) (by omega) (by omega)
      ·have hO := OX.out.same (SameOn.of_below (P := fun _ => True) (Below.refl _ wX)) trivial (by omega)
       have hB := BX.out.below (Below.refl _ wX)
       have k0 := hB 0 _ rfl
       have k1 := hB 1 _ rfl
       have k2 := hB 2 _ rfl
       have f0 := hO.frozen 0
       have f1 := hO.frozen 1
       have f2 := hO.frozen 2
       have HO := Lib.hid hO
       have HB := Lib.hid hB
       clear hB hO
       go_simp
       clear k0 k1 k2 f0 f1 f2
       obtain ⟨wT, hwT⟩ : ∃ x, x = ((wX.setCell ⟨wS.heap.size, 0, none⟩ (.slice c1 m1 d1)).setCell ⟨wS.heap.size, 1, none⟩ (.slice c2 m2 d2)).setCell ⟨wS.heap.size, 2, none⟩ (.slice c3 m3 d3) := ⟨_, rfl⟩
       have ssT : SameOn (fun q => q ≠ wS.heap.size) wX wT := by rw [hwT]; exact (((SameOn.refl _ wX).set _ _ (fun h => h rfl)).set _ _ (fun h => h rfl)).set _ _ (fun h => h rfl)
       have TB : Hid (BoxAt wS.heap.size [.slice c1 m1 d1, .slice c2 m2 d2, .slice c3 m3 d3] wT) := Lib.hid (by rw [hwT]; exact boxAt_set (j := 2) (u := .slice c3 m3 d3) (boxAt_set (j := 1) (u := .slice c2 m2 d2) (boxAt_set (j := 0) (u := .slice c1 m1 d1) HB.out)))
       have TO : Hid (OpenRow wT wS.heap.size 1 3) := Lib.hid (by rw [hwT]; exact ((HO.out.set 0 _).set 1 _).set 2 _)
       have TS := Lib.hid ((RS.out.later (below_step' (Below.refl _ wS) GX.out)).same (ssT.sub (fun q (h : _ ∧ _) e => by omega)))
       have BBT : Hid (Below yb.heap.size yb wT) := Lib.hid (by rw [hwT]; exact ((BBX.out.setCell (by show yb.heap.size ≤ wS.heap.size; omega) _).setCell (by show yb.heap.size ≤ wS.heap.size; omega) _).setCell (by show yb.heap.size ≤ wS.heap.size; omega) _)
       have SZT : wX.heap.size ≤ wT.heap.size := ssT.1
       rw [← hwT]
       clear hwT ssT HO HB
       refine hK.out _ _ ?_ (fun hHeld => ?_)
       ·exact ⟨KA.out.below (below_step' HY.out BBT.out) 0 _ rfl, KA.out.below (below_step' HY.out BBT.out) 1 _ rfl, KA.out.below (below_step' HY.out BBT.out) 2 _ rfl, KA.out.below (below_step' HY.out BBT.out) 3 _ rfl⟩
       clear hK K
       try simp only [Act.put, List.getElem_toArray, List.getElem_cons_zero, List.getElem_cons_succ, List.setIfInBounds_toArray, List.set_cons_zero, List.set_cons_succ]
       refine wpAnyH_ready (rs := [6]) (by kernel_rfl) (by simp) ?_
       refine AllReadyH.cons rfl (fun K hK => ?_) AllReadyH.nil
       go_simp
       obtain ⟨wM, hwM⟩ : ∃ x, x = wT.alloc (.cells (madeCells #[.slice none 0 0] gl) 28) := ⟨_, rfl⟩
       have RM := Lib.hid (show Holds True (fun q => q = wT.heap.size) wM (.slice (some ⟨wT.heap.size, 0, none⟩) gl gl) (dLln (List.replicate gl [])) from by rw [hwM]; exact made_lln gl hgl5 wT)
       have GM := Lib.hid (show Below wT.heap.size wT wM from by rw [hwM]; exact below_new _ _)
       have BBM := Lib.hid (below_step' BBT.out GM.out)
       have SZM : wT.heap.size + 1 ≤ wM.heap.size := by rw [hwM]; simp
       rw [← hwM]
       clear hwM
       refine hK.out _ _ ?_ (fun hHeld => ?_)
       ·exact ⟨KA.out.below (below_step' HY.out BBM.out) 0 _ rfl, KA.out.below (below_step' HY.out BBM.out) 1 _ rfl, KA.out.below (below_step' HY.out BBM.out) 2 _ rfl, KA.out.below (below_step' HY.out BBM.out) 3 _ rfl⟩
       clear hK K
       try simp only [Act.put, List.getElem_toArray, List.getElem_cons_zero, List.getElem_cons_succ, List.setIfInBounds_toArray, List.set_cons_zero, List.set_cons_succ]
       refine tq 9 ?_
       refine wpAnyH_done (by kernel_rfl) ?_ _
       go_wp2_with fail
       go_meet
       exact eachB_mk (b0 := yb.heap.size) (b1 := wS.heap.size) HTab.out GLA.out (below_step' HY.out BBM.out) (TB.out.below GM.out) (TO.out.same (SameOn.of_below (P := fun _ => True) GM.out) trivial (by omega)) (TS.out.later GM.out) RM.out (by omega) (by omega) (by omega) (by omega) (by omega) (by omega)
    ·go_simp
     obtain ⟨wM, hwM⟩ : ∃ x, x = yb.alloc (.cells (madeCells #[.slice none 0 0] gl) 28) := ⟨_, rfl⟩
     have RM := Lib.hid (show Holds True (fun q => q = yb.heap.size) wM (.slice (some ⟨yb.heap.size, 0, none⟩) gl gl) (dLln (List.replicate gl [])) from by rw [hwM]; exact made_lln gl hgl5 yb)
     have GM := Lib.hid (show Below yb.heap.size yb wM from by rw [hwM]; exact below_new _ _)
     have BBM := Lib.hid (below_step' BBy.out GM.out)
     have SZM : yb.heap.size + 1 ≤ wM.heap.size := by rw [hwM]; simp
     rw [← hwM]
     clear hwM
     refine hK.out _ _ ?_ (fun hHeld => ?_)
     ·exact ⟨KA.out.below (below_step' HY.out BBM.out) 0 _ rfl, KA.out.below (below_step' HY.out BBM.out) 1 _ rfl, KA.out.below (below_step' HY.out BBM.out) 2 _ rfl, KA.out.below (below_step' HY.out BBM.out) 3 _ rfl⟩
     clear hK K
     try simp only [Act.put, List.getElem_toArray, List.getElem_cons_zero, List.getElem_cons_succ, List.setIfInBounds_toArray, List.set_cons_zero, List.set_cons_succ]
     refine wpAnyH_ready (rs := [1, 7]) (by kernel_rfl) (by simp) ?_
     refine AllReadyH.cons rfl (fun K hK => ?_) (AllReadyH.cons rfl (fun K hK => ?_) AllReadyH.nil)
     ·go_simp
      refine (start_at A _ _ _ (LG.out.below (below_step' HY.out BBM.out)) (HT.out.later (below_step' HY.out BBM.out)) (Nat.le_trans LN.out (by decide)) (by have := HTab.out.2.1; have := HTab.out.1.2.1; omega)).mono ?_
      rintro e wS ⟨u1, u2, u3, rfl, hC, hb⟩
      obtain ⟨c1, c2, c3, m1, m2, m3, d1, d2, d3, ee1, ee2, ee3⟩ := cf_slices hC
      subst ee1
      subst ee2
      subst ee3
      have RS := Lib.hid (HoldsL.loose (hC.wide (P' := fun q => wM.heap.size ≤ q ∧ q < wS.heap.size) (fun q hq hp => ⟨hp, hq⟩)))
      have GS := Lib.hid hb
      have BBS := Lib.hid (below_step' BBM.out hb)
      have SZS : wM.heap.size ≤ wS.heap.size := hb.size
      clear hC hb
      go_wp2_with fail
      refine hK.out _ _ ?_ (fun hHeld => ?_)
      ·exact ⟨KA.out.below (below_step' HY.out BBS.out) 0 _ rfl, KA.out.below (below_step' HY.out BBS.out) 1 _ rfl, KA.out.below (below_step' HY.out BBS.out) 2 _ rfl, KA.out.below (below_step' HY.out BBS.out) 3 _ rfl⟩
      clear hK K
      try simp only [Act.put, List.getElem_toArray, List.getElem_cons_zero, List.getElem_cons_succ, List.setIfInBounds_toArray, List.set_cons_zero, List.set_cons_succ]
      refine wpAnyH_ready (rs := [7]) (by kernel_rfl) (by simp) ?_
      refine AllReadyH.cons rfl (fun K hK => ?_) AllReadyH.nil
      go_simp
      obtain ⟨wX, hwX⟩ : ∃ x, x = wS.alloc (.cells #[.slice none 0 0, .slice none 0 0, .slice none 0 0] 31) := ⟨_, rfl⟩
      have BX := Lib.hid (show BoxAt wS.heap.size [.slice none 0 0, .slice none 0 0, .slice none 0 0] wX from by rw [hwX]; exact boxAt_new wS [.slice none 0 0, .slice none 0 0, .slice none 0 0] _)
      have OX : Hid (OpenRow wX wS.heap.size 1 3) := Lib.hid (by rw [hwX]; exact ⟨by decide, _, _, heap_alloc_new wS _, rfl⟩)
      have GX := Lib.hid (show Below wS.heap.size wS wX from by rw [hwX]; exact below_new _ _)
      have BBX := Lib.hid (below_step' BBS.out GX.out)
      have SZX : wS.heap.size + 1 ≤ wX.heap.size := by rw [hwX]; simp
      rw [← hwX]
      clear hwX
      refine hK.out _ _ ?_ (fun hHeld => ?_)
      ·exact ⟨KA.out.below (below_step' HY.out BBX.out) 0 _ rfl, KA.out.below (below_step' HY.out BBX.out) 1 _ rfl, KA.out.below (below_step' HY.out BBX.out) 2 _ rfl, KA.out.below (below_step' HY.out BBX.out) 3 _ rfl⟩
      clear hK K
      try simp only [Act.put, List.getElem_toArray, List.getElem_cons_zero, List.getElem_cons_succ, List.setIfInBounds_toArray, List.set_cons_zero, List.set_cons_succ]
      refine wpAnyH_ready (rs := [8]) (by kernel_rfl) (by simp) ?_
      refine AllReadyH.cons rfl (fun K hK => ?_) AllReadyH.nil
      have hO := OX.out.same (SameOn.of_below (P := fun _ => True) (Below.refl _ wX)) trivial (by omega)
      have hB := BX.out.below (Below.refl _ wX)
      have k0 := hB 0 _ rfl
      have k1 := hB 1 _ rfl
      have k2 := hB 2 _ rfl
      have f0 := hO.frozen 0
      have f1 := hO.frozen 1
      have f2 := hO.frozen 2
      have HO := Lib.hid hO
      have HB := Lib.hid hB
      clear hB hO
      go_simp
      clear k0 k1 k2 f0 f1 f2
      obtain ⟨wT, hwT⟩ : ∃ x, x = ((wX.setCell ⟨wS.heap.size, 0, none⟩ (.slice c1 m1 d1)).setCell ⟨wS.heap.size, 1, none⟩ (.slice c2 m2 d2)).setCell ⟨wS.heap.size, 2, none⟩ (.slice c3 m3 d3) := ⟨_, rfl⟩
      have ssT : SameOn (fun q => q ≠ wS.heap.size) wX wT := by rw [hwT]; exact (((SameOn.refl _ wX).set _ _ (fun h => h rfl)).set _ _ (fun h => h rfl)).set _ _ (fun h => h rfl)
      have TB : Hid (BoxAt wS.heap.size [.slice c1 m1 d1, .slice c2 m2 d2, .slice c3 m3 d3] wT) := Lib.hid (by rw [hwT]; exact boxAt_set (j := 2) (u := .slice c3 m3 d3) (boxAt_set (j := 1) (u := .slice c2 m2 d2) (boxAt_set (j := 0) (u := .slice c1 m1 d1) HB.out)))
      have TO : Hid (OpenRow wT wS.heap.size 1 3) := Lib.hid (by rw [hwT]; exact ((HO.out.set 0 _).set 1 _).set 2 _)
      have TS := Lib.hid ((RS.out.later (below_step' (Below.refl _ wS) GX.out)).same (ssT.sub (fun q (h : _ ∧ _) e => by omega)))
      have TM := Lib.hid ((RM.out.later (below_step' (below_step' (Below.refl _ wM) GS.out) GX.out)).same (ssT.sub (fun q (h : q = _) e => by omega)))
      have BBT : Hid (Below yb.heap.size yb wT) := Lib.hid (by rw [hwT]; exact ((BBX.out.setCell (by show yb.heap.size ≤ wS.heap.size; omega) _).setCell (by show yb.heap.size ≤ wS.heap.size; omega) _).setCell (by show yb.heap.size ≤ wS.heap.size; omega) _)
      have SZT : wX.heap.size ≤ wT.heap.size := ssT.1
      rw [← hwT]
      clear hwT ssT HO HB
      refine hK.out _ _ ?_ (fun hHeld => ?_)
      ·exact ⟨KA.out.below (below_step' HY.out BBT.out) 0 _ rfl, KA.out.below (below_step' HY.out BBT.out) 1 _ rfl, KA.out.below (below_step' HY.out BBT.out) 2 _ rfl, KA.out.below (below_step' HY.out BBT.out) 3 _ rfl⟩
      clear hK K
      try simp only [Act.put, List.getElem_toArray, List.getElem_cons_zero, List.getElem_cons_succ, List.setIfInBounds_toArray, List.set_cons_zero, List.set_cons_succ]
      refine tq 9 ?_
      refine wpAnyH_done (by kernel_rfl) ?_ _
      go_wp2_with fail
      go_meet
      exact eachB_mk (b0 := wM.heap.size) (b1 := wS.heap.size) HTab.out GLA.out (below_step' HY.out BBT.out) TB.out TO.out TS.out TM.out (by omega) (by omega) (by omega) (by omega) (by omega) (by omega)
     ·go_simp
      obtain ⟨wX, hwX⟩ : ∃ x, x = wM.alloc (.cells #[.slice none 0 0, .slice none 0 0, .slice none 0 0] 31) := ⟨_, rfl⟩
      have BX := Lib.hid (show BoxAt wM.heap.size [.slice none 0 0, .slice none 0 0, .slice none 0 0] wX from by rw [hwX]; exact boxAt_new wM [.slice none 0 0, .slice none 0 0, .slice none 0 0] _)
      have OX : Hid (OpenRow wX wM.heap.size 1 3) := Lib.hid (by rw [hwX]; exact ⟨by decide, _, _, heap_alloc_new wM _, rfl⟩)
      have GX := Lib.hid (show Below wM.heap.size wM wX from by rw [hwX]; exact below_new _ _)
      have BBX := Lib.hid (below_step' BBM.out GX.out)
      have SZX : wM.heap.size + 1 ≤ wX.heap.size := by rw [hwX]; simp
      rw [← hwX]
      clear hwX
      refine hK.out _ _ ?_ (fun hHeld => ?_)
      ·exact ⟨KA.out.below (below_step' HY.out BBX.out) 0 _ rfl, KA.out.below (below_step' HY.out BBX.out) 1 _ rfl, KA.out.below (below_step' HY.out BBX.out) 2 _ rfl, KA.out.below (below_step' HY.out BBX.out) 3 _ rfl⟩
      clear hK K
      try simp only [Act.put, List.getElem_toArray, List.getElem_cons_zero, List.getElem_cons_succ, List.setIfInBounds_toArray, List.set_cons_zero, List.set_cons_succ]
      refine wpAnyH_ready (rs := [1]) (by kernel_rfl) (by simp) ?_
      refine AllReadyH.cons rfl (fun K hK => ?_) AllReadyH.nil
      go_simp
      refine (start_at A _ _ _ (LG.out.below (below_step' HY.out BBX.out)) (HT.out.later (below_step' HY.out BBX.out)) (Nat.le_trans LN.out (by decide)) (by have := HTab.out.2.1; have := HTab.out.1.2.1; omega)).mono ?_
      rintro e wS ⟨u1, u2, u3, rfl, hC, hb⟩
      obtain ⟨c1, c2, c3, m1, m2, m3, d1, d2, d3, ee1, ee2, ee3⟩ := cf_slices hC
      subst ee1
      subst ee2
      subst ee3
      have RS := Lib.hid (HoldsL.loose (hC.wide (P' := fun q => wX.heap.size ≤ q ∧ q < wS.heap.size) (fun q hq hp => ⟨hp, hq⟩)))
      have GS := Lib.hid hb
      have BBS := Lib.hid (below_step' BBX.out hb)
      have SZS : wX.heap.size ≤ wS.heap.size := hb.size
      clear hC hb
      go_wp2_with fail
      refine hK.out _ _ ?_ (fun hHeld => ?_)
      ·exact ⟨KA.out.below (below_step' HY.out BBS.out) 0 _ rfl, KA.out.below (below_step' HY.out BBS.out) 1 _ rfl, KA.out.below (below_step' HY.out BBS.out) 2 _ rfl, KA.out.below (below_step' HY.out BBS.out) 3 _ rfl⟩
      clear hK K
      try simp only [Act.put, List.getElem_toArray, List.getElem_cons_zero, List.getElem_cons_succ, List.setIfInBounds_toArray, List.set_cons_zero, List.set_cons_succ]
      refine wpAnyH_ready (rs := [8]) (by kernel_rfl) (by simp) ?_
      refine AllReadyH.cons rfl (fun K hK => ?_) AllReadyH.nil
      have hO := OX.out.same (SameOn.of_below (P := fun _ => True) (below_step' (Below.refl _ wX) GS.out)) trivial (by omega)
      have hB := BX.out.below (below_step' (Below.refl _ wX) GS.out)
      have k0 := hB 0 _ rfl
      have k1 := hB 1 _ rfl
      have k2 := hB 2 _ rfl
      have f0 := hO.frozen 0
      have f1 := hO.frozen 1
      have f2 := hO.frozen 2
      have HO := Lib.hid hO
      have HB := Lib.hid hB
      clear hB hO
      go_simp
      clear k0 k1 k2 f0 f1 f2
      obtain ⟨wT, hwT⟩ : ∃ x, x = ((wS.setCell ⟨wM.heap.size, 0, none⟩ (.slice c1 m1 d1)).setCell ⟨wM.heap.size, 1, none⟩ (.slice c2 m2 d2)).setCell ⟨wM.heap.size, 2, none⟩ (.slice c3 m3 d3) := ⟨_, rfl⟩
      have ssT : SameOn (fun q => q ≠ wM.heap.size) wS wT := by rw [hwT]; exact (((SameOn.refl _ wS).set _ _ (fun h => h rfl)).set _ _ (fun h => h rfl)).set _ _ (fun h => h rfl)
      have TB : Hid (BoxAt wM.heap.size [.slice c1 m1 d1, .slice c2 m2 d2, .slice c3 m3 d3] wT) := Lib.hid (by rw [hwT]; exact boxAt_set (j := 2) (u := .slice c3 m3 d3) (boxAt_set (j := 1) (u := .slice c2 m2 d2) (boxAt_set (j := 0) (u := .slice c1 m1 d1) HB.out)))
      have TO : Hid (OpenRow wT wM.heap.size 1 3) := Lib.hid (by rw [hwT]; exact ((HO.out.set 0 _).set 1 _).set 2 _)
      have TS := Lib.hid ((RS.out.later (Below.refl _ wS)).same (ssT.sub (fun q (h : _ ∧ _) e => by omega)))
      have TM := Lib.hid ((RM.out.later (below_step' (below_step' (Below.refl _ wM) GX.out) GS.out)).same (ssT.sub (fun q (h : q = _) e => by omega)))
      have BBT : Hid (Below yb.heap.size yb wT) := Lib.hid (by rw [hwT]; exact ((BBS.out.setCell (by show yb.heap.size ≤ wM.heap.size; omega) _).setCell (by show yb.heap.size ≤ wM.heap.size; omega) _).setCell (by show yb.heap.size ≤ wM.heap.size; omega) _)
      have SZT : wS.heap.size ≤ wT.heap.size := ssT.1
      rw [← hwT]
      clear hwT ssT HO HB
      refine hK.out _ _ ?_ (fun hHeld => ?_)
      ·exact ⟨KA.out.below (below_step' HY.out BBT.out) 0 _ rfl, KA.out.below (below_step' HY.out BBT.out) 1 _ rfl, KA.out.below (below_step' HY.out BBT.out) 2 _ rfl, KA.out.below (below_step' HY.out BBT.out) 3 _ rfl⟩
      clear hK K
      try simp only [Act.put, List.getElem_toArray, List.getElem_cons_zero, List.getElem_cons_succ, List.setIfInBounds_toArray, List.set_cons_zero, List.set_cons_succ]
      refine tq 9 ?_
      refine wpAnyH_done (by kernel_rfl) ?_ _
      go_wp2_with fail
      go_meet
      exact eachB_mk (b0 := wX.heap.size) (b1 := wS.heap.size) HTab.out GLA.out (below_step' HY.out BBT.out) TB.out TO.out TS.out TM.out (by omega) (by omega) (by omega) (by omega) (by omega) (by omega)
    ·go_simp
     obtain ⟨wX, hwX⟩ : ∃ x, x = yb.alloc (.cells #[.slice none 0 0, .slice none 0 0, .slice none 0 0] 31) := ⟨_, rfl⟩
     have BX := Lib.hid (show BoxAt yb.heap.size [.slice none 0 0, .slice none 0 0, .slice none 0 0] wX from by rw [hwX]; exact boxAt_new yb [.slice none 0 0, .slice none 0 0, .slice none 0 0] _)
     have OX : Hid (OpenRow wX yb.heap.size 1 3) := Lib.hid (by rw [hwX]; exact ⟨by decide, _, _, heap_alloc_new yb _, rfl⟩)
     have GX := Lib.hid (show Below yb.heap.size yb wX from by rw [hwX]; exact below_new _ _)
     have BBX := Lib.hid (below_step' BBy.out GX.out)
     have SZX : yb.heap.size + 1 ≤ wX.heap.size := by rw [hwX]; simp
     rw [← hwX]
     clear hwX
     refine hK.out _ _ ?_ (fun hHeld => ?_)
     ·exact ⟨KA.out.below (below_step' HY.out BBX.out) 0 _ rfl, KA.out.below (below_step' HY.out BBX.out) 1 _ rfl, KA.out.below (below_step' HY.out BBX.out) 2 _ rfl, KA.out.below (below_step' HY.out BBX.out) 3 _ rfl⟩
     clear hK K
     try simp only [Act.put, List.getElem_toArray, List.getElem_cons_zero, List.getElem_cons_succ, List.setIfInBounds_toArray, List.set_cons_zero, List.set_cons_succ]
     refine wpAnyH_ready (rs := [1, 6]) (by kernel_rfl) (by simp) ?_
     refine AllReadyH.cons rfl (fun K hK => ?_) (AllReadyH.cons rfl (fun K hK => ?_) AllReadyH.nil)
     ·go_simp
      refine (start_at A _ _ _ (LG.out.below (below_step' HY.out BBX.out)) (HT.out.later (below_step' HY.out BBX.out)) (Nat.le_trans LN.out (by decide)) (by have := HTab.out.2.1; have := HTab.out.1.2.1; omega)).mono ?_
      rintro e wS ⟨u1, u2, u3, rfl, hC, hb⟩
      obtain ⟨c1, c2, c3, m1, m2, m3, d1, d2, d3, ee1, ee2, ee3⟩ := cf_slices hC
      subst ee1
      subst ee2
      subst ee3
      have RS := Lib.hid (HoldsL.loose (hC.wide (P' := fun q => wX.heap.size ≤ q ∧ q < wS.heap.size) (fun q hq hp => ⟨hp, hq⟩)))
      have GS := Lib.hid hb
      have BBS := Lib.hid (below_step' BBX.out hb)
      have SZS : wX.heap.size ≤ wS.heap.size := hb.size
      clear hC hb
      go_wp2_with fail
      refine hK.out _ _ ?_ (fun hHeld => ?_)
      ·exact ⟨KA.out.below (below_step' HY.out BBS.out) 0 _ rfl, KA.out.below (below_step' HY.out BBS.out) 1 _ rfl, KA.out.below (below_step' HY.out BBS.out) 2 _ rfl, KA.out.below (below_step' HY.out BBS.out) 3 _ rfl⟩
      clear hK K
      try simp only [Act.put, List.getElem_toArray, List.getElem_cons_zero, List.getElem_cons_succ, List.setIfInBounds_toArray, List.set_cons_zero, List.set_cons_succ]
      refine wpAnyH_ready (rs := [6, 8]) (by kernel_rfl) (by simp) ?_
      refine AllReadyH.cons rfl (fun K hK => ?_) (AllReadyH.cons rfl (fun K hK => ?_) AllReadyH.nil)
      ·go_simp
       obtain ⟨wM, hwM⟩ : ∃ x, x = wS.alloc (.cells (madeCells #[.slice none 0 0] gl) 28) := ⟨_, rfl⟩
       have RM := Lib.hid (show Holds True (fun q => q = wS.heap.size) wM (.slice (some ⟨wS.heap.size, 0, none⟩) gl gl) (dLln (List.replicate gl [])) from by rw [hwM]; exact made_lln gl hgl5 wS)
       have GM := Lib.hid (show Below wS.heap.size wS wM from by rw [hwM]; exact below_new _ _)
       have BBM := Lib.hid (below_step' BBS.out GM.out)
       have SZM : wS.heap.size + 1 ≤ wM.heap.size := by rw [hwM]; simp
       rw [← hwM]
       clear hwM
       refine hK.out _ _ ?_ (fun hHeld => ?_)
       ·exact ⟨KA.out.below (below_step' HY.out BBM.out) 0 _ rfl, KA.out.below (below_step' HY.out BBM.out) 1 _ rfl, KA.out.below (below_step' HY.out BBM.out) 2 _ rfl, KA.out.below (below_step' HY.out BBM.out) 3 _ rfl⟩
       clear hK K
       try simp only [Act.put, List.getElem_toArray, List.getElem_cons_zero, List.getElem_cons_succ, List.setIfInBounds_toArray, List.set_cons_zero, List.set_cons_succ]
       refine wpAnyH_ready (rs := [8]) (by kernel_rfl) (by simp) ?_
       refine AllReadyH.cons rfl (fun K hK => ?_) AllReadyH.nil
       have hO := OX.out.same (SameOn.of_below (P := fun _ => True) (below_step' (below_step' (Below.refl _ wX) GS.out) GM.out)) trivial (by omega)
       have hB := BX.out.below (below_step' (below_step' (Below.refl _ wX) GS.out) GM.out)
       have k0 := hB 0 _ rfl
       have k1 := hB 1 _ rfl
       have k2 := hB 2 _ rfl
       have f0 := hO.frozen 0
       have f1 := hO.frozen 1
       have f2 := hO.frozen 2
       have HO := Lib.hid hO
       have HB := Lib.hid hB
       clear hB hO
       go_simp
       clear k0 k1 k2 f0 f1 f2
       obtain ⟨wT, hwT⟩ : ∃ x, x = ((wM.setCell ⟨yb.heap.size, 0, none⟩ (.slice c1 m1 d1)).setCell ⟨yb.heap.size, 1, none⟩ (.slice c2 m2 d2)).setCell ⟨yb.heap.size, 2, none⟩ (.slice c3 m3 d3) := ⟨_, rfl⟩
       have ssT : SameOn (fun q => q ≠ yb.heap.size) wM wT := by rw [hwT]; exact (((SameOn.refl _ wM).set _ _ (fun h => h rfl)).set _ _ (fun h => h rfl)).set _ _ (fun h => h rfl)
       have TB : Hid (BoxAt yb.heap.size [.slice c1 m1 d1, .slice c2 m2 d2, .slice c3 m3 d3] wT) := Lib.hid (by rw [hwT]; exact boxAt_set (j := 2) (u := .slice c3 m3 d3) (boxAt_set (j := 1) (u := .slice c2 m2 d2) (boxAt_set (j := 0) (u := .slice c1 m1 d1) HB.out)))
       have TO : Hid (OpenRow wT yb.heap.size 1 3) := Lib.hid (by rw [hwT]; exact ((HO.out.set 0 _).set 1 _).set 2 _)
       have TS := Lib.hid ((RS.out.later (below_step' (Below.refl _ wS) GM.out)).same (ssT.sub (fun q (h : _ ∧ _) e => by omega)))
       have TM := Lib.hid ((RM.out.later (Below.refl _ wM)).same (ssT.sub (fun q (h : q = _) e => by omega)))
       have BBT : Hid (Below yb.heap.size yb wT) := Lib.hid (by rw [hwT]; exact ((BBM.out.setCell (by show yb.heap.size ≤ yb.heap.size; omega) _).setCell (by show yb.heap.size ≤ yb.heap.size; omega) _).setCell (by show yb.heap.size ≤ yb.heap.size; omega) _)
       have SZT : wM.heap.size ≤ wT.heap.size := ssT.1
       rw [← hwT]
       clear hwT ssT HO HB
       refine hK.out _ _ ?_ (fun hHeld => ?_)
       ·exact ⟨KA.out.below (below_step' HY.out BBT.out) 0 _ rfl, KA.out.below (below_step' HY.out BBT.out) 1 _ rfl, KA.out.below (below_step' HY.out BBT.out) 2 _ rfl, KA.out.below (below_step' HY.out BBT.out) 3 _ rfl⟩
       clear hK K
       try simp only [Act.put, List.getElem_toArray, List.getElem_cons_zero, List.getElem_cons_succ, List.setIfInBounds_toArray, List.set_cons_zero, List.set_cons_succ]
       refine tq 9 ?_
       refine wpAnyH_done (by kernel_rfl) ?_ _
       go_wp2_with fail
       go_meet
       exact eachB_mk (b0 := wX.heap.size) (b1 := wS.heap.size) HTab.out GLA.out (below_step' HY.out BBT.out) TB.out TO.out TS.out TM.out (by omega) (by omega) (by omega) (by omega) (by omega) (by omega)
      ·have hO := OX.out.same (SameOn.of_below (P := fun _ => True) (below_step' (Below.refl _ wX) GS.out)) trivial (by omega)
       have hB := BX.out.below (below_step' (Below.refl _ wX) GS.out)
       have k0 := hB 0 _ rfl
       have k1 := hB 1 _ rfl
       have k2 := hB 2 _ rfl
       have f0 := hO.frozen 0
       have f1 := hO.frozen 1
       have f2 := hO.frozen 2
       have HO := Lib.hid hO
       have HB := Lib.hid hB
       clear hB hO
       go_simp
       clear k0 k1 k2 f0 f1 f2
       obtain ⟨wT, hwT⟩ : ∃ x, x = ((wS.setCell ⟨yb.heap.size, 0, none⟩ (.slice c1 m1 d1)).setCell ⟨yb.heap.size, 1, none⟩ (.slice c2 m2 d2)).setCell ⟨yb.heap.size, 2, none⟩ (.slice c3 m3 d3) := ⟨_, rfl⟩
       have ssT : SameOn (fun q => q ≠ yb.heap.size) wS wT := by rw [hwT]; exact (((SameOn.refl _ wS).set _ _ (fun h => h rfl)).set _ _ (fun h => h rfl)).set _ _ (fun h => h rfl)
       have TB : Hid (BoxAt yb.heap.size [.slice c1 m1 d1, .slice c2 m2 d2, .slice c3 m3 d3] wT) := Lib.hid (by rw [hwT]; exact boxAt_set (j := 2) (u := .slice c3 m3 d3) (boxAt_set (j := 1) (u := .slice c2 m2 d2) (boxAt_set (j := 0) (u := .slice c1 m1 d1) HB.out)))
       have TO : Hid (OpenRow wT yb.heap.size 1 3) := Lib.hid (by rw [hwT]; exact ((HO.out.set 0 _).set 1 _).set 2 _)
       have TS := Lib.hid ((RS.out.later (Below.refl _ wS)).same (ssT.sub (fun q (h : _ ∧ _) e => by omega)))
       have BBT : Hid (Below yb.heap.size yb wT) := Lib.hid (by rw [hwT]; exact ((BBS.out.setCell (by show yb.heap.size ≤ yb.heap.size; omega) _).setCell (by show yb.heap.size ≤ yb.heap.size; omega) _).setCell (by show yb.heap.size ≤ yb.heap.size; omega) _)
       have SZT : wS.heap.size ≤ wT.heap.size := ssT.1
       rw [← hwT]
       clear hwT ssT HO HB
       refine hK.out _ _ ?_ (fun hHeld => ?_)
       ·exact ⟨KA.out.below (below_step' HY.out BBT.out) 0 _ rfl, KA.out.below (below_step' HY.out BBT.out) 1 _ rfl, KA.out.below (below_step' HY.out BBT.out) 2 _ rfl, KA.out.below (below_step' HY.out BBT.out) 3 _ rfl⟩
       clear hK K
       try simp only [Act.put, List.getElem_toArray, List.getElem_cons_zero, List.getElem_cons_succ, List.setIfInBounds_toArray, List.set_cons_zero, List.set_cons_succ]
       refine wpAnyH_ready (rs := [6]) (by kernel_rfl) (by simp) ?_
       refine AllReadyH.cons rfl (fun K hK => ?_) AllReadyH.nil
       go_simp
       obtain ⟨wM, hwM⟩ : ∃ x, x = wT.alloc (.cells (madeCells #[.slice none 0 0] gl) 28) := ⟨_, rfl⟩
       have RM := Lib.hid (show Holds True (fun q => q = wT.heap.size) wM (.slice (some ⟨wT.heap.size, 0, none⟩) gl gl) (dLln (List.replicate gl [])) from by rw [hwM]; exact made_lln gl hgl5 wT)
       have GM := Lib.hid (show Below wT.heap.size wT wM from by rw [hwM]; exact below_new _ _)
       have BBM := Lib.hid (below_step' BBT.out GM.out)
       have SZM : wT.heap.size + 1 ≤ wM.heap.size := by rw [hwM]; simp
       rw [← hwM]
       clear hwM
       refine hK.out _ _ ?_ (fun hHeld => ?_)
       ·exact ⟨KA.out.below (below_step' HY.out BBM.out) 0 _ rfl, KA.out.below (below_step' HY.out BBM.out) 1 _ rfl, KA.out.below (below_step' HY.out BBM.out) 2 _ rfl, KA.out.below (below_step' HY.out BBM.out) 3 _ rfl⟩
       clear hK K
       try simp only [Act.put, List.getElem_toArray, List.getElem_cons_zero, List.getElem_cons_succ, List.setIfInBounds_toArray, List.set_cons_zero, List.set_cons_succ]
       refine tq 9 ?_
       refine wpAnyH_done (by kernel_rfl) ?_ _
       go_wp2_with fail
       go_meet
       exact eachB_mk (b0 := wX.heap.size) (b1 := wS.heap.size) HTab.out GLA.out (below_step' HY.out BBM.out) (TB.out.below GM.out) (TO.out.same (SameOn.of_below (P := fun _ => True) GM.out) trivial (by omega)) (TS.out.later GM.out) RM.out (by omega) (by omega) (by omega) (by omega) (by omega) (by omega)
     ·go_simp
      obtain ⟨wM, hwM⟩ : ∃ x, x = wX.alloc (.cells (madeCells #[.slice none 0 0] gl) 28) := ⟨_, rfl⟩
      have RM := Lib.hid (show Holds True (fun q => q = wX.heap.size) wM (.slice (some ⟨wX.heap.size, 0, none⟩) gl gl) (dLln (List.replicate gl [])) from by rw [hwM]; exact made_lln gl hgl5 wX)
      have GM := Lib.hid (show Below wX.heap.size wX wM from by rw [hwM]; exact below_new _ _)
      have BBM := Lib.hid (below_step' BBX.out GM.out)
      have SZM : wX.heap.size + 1 ≤ wM.heap.size := by rw [hwM]; simp
      rw [← hwM]
      clear hwM
      refine hK.out _ _ ?_ (fun hHeld => ?_)
      ·exact ⟨KA.out.below (below_step' HY.out BBM.out) 0 _ rfl, KA.out.below (below_step' HY.out BBM.out) 1 _ rfl, KA.out.below (below_step' HY.out BBM.out) 2 _ rfl, KA.out.below (below_step' HY.out BBM.out) 3 _ rfl⟩
      clear hK K
      try simp only [Act.put, List.getElem_toArray, List.getElem_cons_zero, List.getElem_cons_succ, List.setIfInBounds_toArray, List.set_cons_zero, List.set_cons_succ]
      refine wpAnyH_ready (rs := [1]) (by kernel_rfl) (by simp) ?_
      refine AllReadyH.cons rfl (fun K hK => ?_) AllReadyH.nil
      go_simp
      refine (start_at A _ _ _ (LG.out.below (below_step' HY.out BBM.out)) (HT.out.later (below_step' HY.out BBM.out)) (Nat.le_trans LN.out (by decide)) (by have := HTab.out.2.1; have := HTab.out.1.2.1; omega)).mono ?_
      rintro e wS ⟨u1, u2, u3, rfl, hC, hb⟩
      obtain ⟨c1, c2, c3, m1, m2, m3, d1, d2, d3, ee1, ee2, ee3⟩ := cf_slices hC
      subst ee1
      subst ee2
      subst ee3
      have RS := Lib.hid (HoldsL.loose (hC.wide (P' := fun q => wM.heap.size ≤ q ∧ q < wS.heap.size) (fun q hq hp => ⟨hp, hq⟩)))
      have GS := Lib.hid hb
      have BBS := Lib.hid (below_step' BBM.out hb)
      have SZS : wM.heap.size ≤ wS.heap.size := hb.size
      clear hC hb
      go_wp2_with fail
      refine hK.out _ _ ?_ (fun hHeld => ?_)
      ·exact ⟨KA.out.below (below_step' HY.out BBS.out) 0 _ rfl, KA.out.below (below_step' HY.out BBS.out) 1 _ rfl, KA.out.below (below_step' HY.out BBS.out) 2 _ rfl, KA.out.below (below_step' HY.out BBS.out) 3 _ rfl⟩
      clear hK K
      try simp only [Act.put, List.getElem_toArray, List.getElem_cons_zero, List.getElem_cons_succ, List.setIfInBounds_toArray, List.set_cons_zero, List.set_cons_succ]
      refine wpAnyH_ready (rs := [8]) (by kernel_rfl) (by simp) ?_
      refine AllReadyH.cons rfl (fun K hK => ?_) AllReadyH.nil
      have hO := OX.out.same (SameOn.of_below (P := fun _ => True) (below_step' (below_step' (Below.refl _ wX) GM.out) GS.out)) trivial (by omega)
      have hB := BX.out.below (below_step' (below_step' (Below.refl _ wX) GM.out) GS.out)
      have k0 := hB 0 _ rfl
      have k1 := hB 1 _ rfl
      have k2 := hB 2 _ rfl
      have f0 := hO.frozen 0
      have f1 := hO.frozen 1
      have f2 := hO.frozen 2
      have HO := Lib.hid hO
      have HB := Lib.hid hB
      clear hB hO
      go_simp
      clear k0 k1 k2 f0 f1 f2
      obtain ⟨wT, hwT⟩ : ∃ x, x = ((wS.setCell ⟨yb.heap.size, 0, none⟩ (.slice c1 m1 d1)).setCell ⟨yb.heap.size, 1, none⟩ (.slice c2 m2 d2)).setCell ⟨yb.heap.size, 2, none⟩ (.slice c3 m3 d3) := ⟨_, rfl⟩
      have ssT : SameOn (fun q => q ≠ yb.heap.size) wS wT := by rw [hwT]; exact (((SameOn.refl _ wS).set _ _ (fun h => h rfl)).set _ _ (fun h => h rfl)).set _ _ (fun h => h rfl)
      have TB : Hid (BoxAt yb.heap.size [.slice c1 m1 d1, .slice c2 m2 d2, .slice c3 m3 d3] wT) := Lib.hid (by rw [hwT]; exact boxAt_set (j := 2) (u := .slice c3 m3 d3) (boxAt_set (j := 1) (u := .slice c2 m2 d2) (boxAt_set (j := 0) (u := .slice c1 m1 d1) HB.out)))
      have TO : Hid (OpenRow wT yb.heap.size 1 3) := Lib.hid (by rw [hwT]; exact ((HO.out.set 0 _).set 1 _).set 2 _)
      have TS := Lib.hid ((RS.out.later (Below.refl _ wS)).same (ssT.sub (fun q (h : _ ∧ _) e => by omega)))
      have TM := Lib.hid ((RM.out.later (below_step' (Below.refl _ wM) GS.out)).same (ssT.sub (fun q (h : q = _) e => by omega)))
      have BBT : Hid (Below yb.heap.size yb wT) := Lib.hid (by rw [hwT]; exact ((BBS.out.setCell (by show yb.heap.size ≤ yb.heap.size; omega) _).setCell (by show yb.heap.size ≤ yb.heap.size; omega) _).setCell (by show yb.heap.size ≤ yb.heap.size; omega) _)
      have SZT : wS.heap.size ≤ wT.heap.size := ssT.1
      rw [← hwT]
      clear hwT ssT HO HB
      refine hK.out _ _ ?_ (fun hHeld => ?_)
      ·exact ⟨KA.out.below (below_step' HY.out BBT.out) 0 _ rfl, KA.out.below (below_step' HY.out BBT.out) 1 _ rfl, KA.out.below (below_step' HY.out BBT.out) 2 _ rfl, KA.out.below (below_step' HY.out BBT.out) 3 _ rfl⟩
      clear hK K
      try simp only [Act.put, List.getElem_toArray, List.getElem_cons_zero, List.getElem_cons_succ, List.setIfInBounds_toArray, List.set_cons_zero, List.set_cons_succ]
      refine tq 9 ?_
      refine wpAnyH_done (by kernel_rfl) ?_ _
      go_wp2_with fail
      go_meet
      exact eachB_mk (b0 := wM.heap.size) (b1 := wS.heap.size) HTab.out GLA.out (below_step' HY.out BBT.out) TB.out TO.out TS.out TM.out (by omega) (by omega) (by omega) (by omega) (by omega) (by omega)
  case rest =>
   obtain ⟨pc, gb, ee1, ee2, hS⟩ := hcut
   subst ee1
   subst ee2
   obtain ⟨y4, hy⟩ : ∃ y, y = wc := ⟨_, rfl⟩
   rw [← hy] at hS ⊢
   have ES := Lib.hid hS
   clear hy hS
   have ZP : Hid (y3.heap.size ≤ pc) := Lib.hid (by obtain ⟨c, G, a1, a2, a3, n1, e1, e2, e3, PC, PG, h1, h2, h3⟩ := ES.out; exact h3.pcy)
   go_wp2_with fail
   go_loopw [8] (fun i wr => ∃ j : Nat, i = .int .i64 j ∧ j ≤ 40 ∧ EachS A y3 pc gb gl wr) (fun i _ => 41 - (intOf i).toNat)
   case atStart => exact ⟨0, rfl, by omega, ES.out⟩
   case round =>
    obtain ⟨k, rfl, hk40, hes⟩ := hrel
    obtain ⟨wv, hw1⟩ : ∃ x, x = wr := ⟨_, rfl⟩
    subst hw1
    have ER := Lib.hid hes
    clear ES hes
    obtain ⟨c, G, a1, a2, a3, n1, e1, e2, e3, PC, PG, hok, hgots, hem⟩ := ER.out
    have OKC := Lib.hid hok
    have GOT := Lib.hid hgots
    have EM := Lib.hid hem
    have BV : Hid (Below y3.heap.size y3 wv) := Lib.hid hem.bel
    have SMC : Hid (SmallCf c) := Lib.hid (small_okE hok)
    clear hok hgots hem
    have KAv := Lib.hid (KA.out.below BV.out)
    have LGv := Lib.hid (LG.out.below BV.out)
    have HTv := Lib.hid (HT.out.later BV.out)
    have KCv := Lib.hid EM.out.box
    have HCv : Hid (HasL wv [.slice a1 n1 e1, .slice a2 gl e2, .slice a3 gl e3] c.d) := Lib.hid EM.out.cf.weak
    by_cases hlt : k < n0 ∧ k < 40
    case pos =>
     obtain ⟨hln0, hl40⟩ := hlt
     have hln1 : (k : Int) < n0 := by omega
     have hl41 : (k : Int) < 40 := by omega
     obtain ⟨s, hs⟩ := some_of_lt (l := l0) (i := k) (by rw [← NL.out]; exact hln0)
     obtain ⟨lb, lo, ee, gg0, gg1, gg2, gg3, gg4⟩ := steps_at HS.out hs
     subst ee
     have hWV := below_step' BW.out BV.out
     have LBW : Hid (lb < w.heap.size) := Lib.hid (World.block_lt_of_cell? w _ gg0)
     have g0 := (hWV.cell (World.block_lt_of_cell? w _ gg0)).trans gg0
     have g1 := (hWV.cell (World.block_lt_of_cell? w _ gg1)).trans gg1
     have g2 := (hWV.cell (World.block_lt_of_cell? w _ gg2)).trans gg2
     have g3 := (hWV.cell (World.block_lt_of_cell? w _ gg3)).trans gg3
     have g4 := (hWV.cell (World.block_lt_of_cell? w _ gg4)).trans gg4
     clear gg0 gg1 gg2 gg3 gg4 hWV
     have QS : Hid (∀ w', Below wv.heap.size wv w' → (fun w' => w'.cell? ⟨ba, 0, none⟩ = some (.int .i64 A.n) ∧ w'.cell? ⟨ba, 1, none⟩ = some (.slice ga0 gl gc) ∧ w'.cell? ⟨ba, 2, none⟩ = some (.slice ta tl tc) ∧ w'.cell? ⟨ba, 3, none⟩ = some (.bool A.ff) ∧ w'.cell? ⟨pc, 0, none⟩ = some (.slice a1 n1 e1) ∧ w'.cell? ⟨pc, 1, none⟩ = some (.slice a2 gl e2) ∧ w'.cell? ⟨pc, 2, none⟩ = some (.slice a3 gl e3) ∧ w'.cell? ⟨lb, lo + k * 5, none⟩ = some (.int .i64 s.kind) ∧ w'.cell? ⟨lb, lo + k * 5 + 1, none⟩ = some (.int .i64 s.node) ∧ w'.cell? ⟨lb, lo + k * 5 + 2, none⟩ = some (.int .i64 s.k) ∧ w'.cell? ⟨lb, lo + k * 5 + 3, none⟩ = some (.int .i64 s.link) ∧ w'.cell? ⟨lb, lo + k * 5 + 4, none⟩ = some (.int .i64 s.seq)) w') := Lib.hid (fun w' hb => ⟨KAv.out.below hb 0 _ rfl, KAv.out.below hb 1 _ rfl, KAv.out.below hb 2 _ rfl, KAv.out.below hb 3 _ rfl, KCv.out.below hb 0 _ rfl, KCv.out.below hb 1 _ rfl, KCv.out.below hb 2 _ rfl, (hb.cell (World.block_lt_of_cell? wv _ g0)).trans g0, (hb.cell (World.block_lt_of_cell? wv _ g1)).trans g1, (hb.cell (World.block_lt_of_cell? wv _ g2)).trans g2, (hb.cell (World.block_lt_of_cell? wv _ g3)).trans g3, (hb.cell (World.block_lt_of_cell? wv _ g4)).trans g4⟩)
     have HSS := Lib.hid hs
     obtain ⟨er, her⟩ : ∃ e, e = errOf A c s := ⟨_, rfl⟩
     obtain ⟨d, hd⟩ : ∃ d, d = applied A c s := ⟨_, rfl⟩
     have ERQ := Lib.hid her
     have HD := Lib.hid hd
     clear hs her hd g0 g1 g2 g3 g4
     go_upto_region 9 with fail
     go_cut [9, 10] from 41 to 50 (fun sp se wx => AppBoxE d er wv sp se wx)
     case first =>
      as_aux_lemma =>
       refine wp_region_held_drew (S := (fun w' => w'.cell? ⟨ba, 0, none⟩ = some (.int .i64 A.n) ∧ w'.cell? ⟨ba, 1, none⟩ = some (.slice ga0 gl gc) ∧ w'.cell? ⟨ba, 2, none⟩ = some (.slice ta tl tc) ∧ w'.cell? ⟨ba, 3, none⟩ = some (.bool A.ff) ∧ w'.cell? ⟨pc, 0, none⟩ = some (.slice a1 n1 e1) ∧ w'.cell? ⟨pc, 1, none⟩ = some (.slice a2 gl e2) ∧ w'.cell? ⟨pc, 2, none⟩ = some (.slice a3 gl e3) ∧ w'.cell? ⟨lb, lo + k * 5, none⟩ = some (.int .i64 s.kind) ∧ w'.cell? ⟨lb, lo + k * 5 + 1, none⟩ = some (.int .i64 s.node) ∧ w'.cell? ⟨lb, lo + k * 5 + 2, none⟩ = some (.int .i64 s.k) ∧ w'.cell? ⟨lb, lo + k * 5 + 3, none⟩ = some (.int .i64 s.link) ∧ w'.cell? ⟨lb, lo + k * 5 + 4, none⟩ = some (.int .i64 s.seq))) (by kernel_rfl) ?_ (fun hHeld => ?_)
       ·exact QS.out _ (below_drewN (Below.refl _ wv) 1)
       obtain ⟨yb, hyb⟩ : ∃ y, y = wv.drew := ⟨_, rfl⟩
       rw [← hyb] at hHeld ⊢
       refine tq 0 ?_
       refine tq 1 ?_
       refine tq 2 ?_
       refine tq 3 ?_
       refine tq 4 ?_
       refine tq 5 ?_
       have BYb : Hid (Below wv.heap.size wv yb) := Lib.hid (by rw [hyb]; exact below_drewN (Below.refl _ wv) 1)
       clear hyb
       refine wpAnyH_ready (rs := [6, 10]) (by kernel_rfl) (by simp) ?_
       refine AllReadyH.cons rfl (fun K hK => ?_) (AllReadyH.cons rfl (fun K hK => ?_) AllReadyH.nil)
       ·go_simp
        refine (apply_at A c _ _ _ _ _ OKC.out SMT.out SMC.out _ _ _ _ _ _ (LGv.out.below BYb.out) (HTv.out.later BYb.out) (HCv.out.later BYb.out)).mono ?_
        rintro e xR ⟨u1, u2, u3, rfl, hR, hb⟩
        rw [show errOf A c ⟨s.kind, s.node, s.k, s.link, s.seq⟩ = er from ERQ.out.symm]
        rw [show applied A c ⟨s.kind, s.node, s.k, s.link, s.seq⟩ = d from HD.out.symm] at hR
        obtain ⟨r1, r2, r3, o1, o2, o3, q1, q2, q3, ee1, ee2, ee3⟩ := cf_slices hR
        subst ee1
        subst ee2
        subst ee3
        have HR := Lib.hid hR
        clear hR
        have BxR := Lib.hid hb
        have BYxR := Lib.hid (hb)
        clear hb
        go_wp2_with fail
        refine hK.out _ _ ?_ (fun hHeld => ?_)
        ·exact QS.out _ (below_step' BYb.out BYxR.out)
        clear hK K
        try simp only [Act.put, List.getElem_toArray, List.getElem_cons_zero, List.getElem_cons_succ, List.setIfInBounds_toArray, List.set_cons_zero, List.set_cons_succ]
        refine tq 7 ?_
        refine tq 8 ?_
        refine tq 9 ?_
        refine wpAnyH_ready (rs := [10]) (by kernel_rfl) (by simp) ?_
        refine AllReadyH.cons rfl (fun K hK => ?_) AllReadyH.nil
        obtain ⟨xRB, hx⟩ : ∃ x, x = xR.alloc (.cells #[.slice none 0 0, .slice none 0 0, .slice none 0 0] 31) := ⟨_, rfl⟩
        have hb : Below xR.heap.size xR xRB := by rw [hx]; exact below_new _ _
        have KB := Lib.hid (show BoxAt xR.heap.size [.slice none 0 0, .slice none 0 0, .slice none 0 0] xRB from by rw [hx]; exact boxAt_new xR [.slice none 0 0, .slice none 0 0, .slice none 0 0] _)
        have OB : Hid (OpenRow xRB xR.heap.size 1 3) := Lib.hid (by rw [hx]; exact ⟨by decide, _, _, heap_alloc_new xR _, rfl⟩)
        have PB : xR.heap.size < xRB.heap.size := by rw [hx]; simp
        obtain ⟨pb, hpb⟩ : ∃ p, p = xR.heap.size := ⟨_, rfl⟩
        go_simp
        rw [← hx]
        rw [← hpb] at KB OB PB ⊢
        have HPB := Lib.hid hpb
        clear hx hpb
        have BxRB := Lib.hid hb
        have BYxRB := Lib.hid (below_step' BYxR.out hb)
        clear hb
        refine hK.out _ _ ?_ (fun hHeld => ?_)
        ·exact QS.out _ (below_step' BYb.out BYxRB.out)
        clear hK K
        try simp only [Act.put, List.getElem_toArray, List.getElem_cons_zero, List.getElem_cons_succ, List.setIfInBounds_toArray, List.set_cons_zero, List.set_cons_succ]
        refine wpAnyH_ready (rs := [11]) (by kernel_rfl) (by simp) ?_
        refine AllReadyH.cons rfl (fun K hK => ?_) AllReadyH.nil
        have hO := OB.out.same (SameOn.of_below (P := fun _ => True) (Below.refl _ xRB)) trivial PB
        have hB := KB.out.below (Below.refl _ xRB)
        have zyb := BYb.out.size
        have hH : HoldsL False (fun q => wv.heap.size ≤ q ∧ q ≠ pb) xRB [.slice r1 o1 q1, .slice r2 o2 q2, .slice r3 o3 q3] d.d := (HR.out.loose.wide (P' := (fun q => wv.heap.size ≤ q ∧ q ≠ pb)) (fun q h hh => by have := HPB.out; have hh : yb.heap.size ≤ q := hh; exact ⟨by omega, by omega⟩)).later BxRB.out
        have k0 := hB 0 _ rfl
        have k1 := hB 1 _ rfl
        have k2 := hB 2 _ rfl
        have f0 := hO.frozen 0
        have f1 := hO.frozen 1
        have f2 := hO.frozen 2
        have HB := Lib.hid hB
        have HH := Lib.hid hH
        clear hO hB hH
        go_simp
        clear k0 k1 k2 f0 f1 f2
        obtain ⟨w9, hw9⟩ : ∃ x, x = ((xRB.setCell ⟨pb, 0, none⟩ (.slice r1 o1 q1)).setCell ⟨pb, 1, none⟩ (.slice r2 o2 q2)).setCell ⟨pb, 2, none⟩ (.slice r3 o3 q3) := ⟨_, rfl⟩
        have r9 : BoxAt pb [.slice r1 o1 q1, .slice r2 o2 q2, .slice r3 o3 q3] w9 := by rw [hw9]; exact boxAt_set (j := 2) (u := .slice r3 o3 q3) (boxAt_set (j := 1) (u := .slice r2 o2 q2) (boxAt_set (j := 0) (u := .slice r1 o1 q1) HB.out))
        have hpy : wv.heap.size ≤ pb := by have := HPB.out; have := BYb.out.size; have := BYxR.out.size; omega
        have b9 : Below wv.heap.size wv w9 := by rw [hw9]; exact ((((below_step' BYb.out BYxRB.out).setCell hpy _).setCell hpy _).setCell hpy _)
        have h9 : HoldsL False (fun q => wv.heap.size ≤ q ∧ q ≠ pb) w9 [.slice r1 o1 q1, .slice r2 o2 q2, .slice r3 o3 q3] d.d := by rw [hw9]; exact HH.out.same (((((SameOn.refl (fun q => q ≠ pb) xRB).set ⟨pb, 0, none⟩ _ (fun h => h rfl)).set ⟨pb, 1, none⟩ _ (fun h => h rfl)).set ⟨pb, 2, none⟩ _ (fun h => h rfl)).sub (fun q h => h.2))
        rw [← hw9]
        have R9 := Lib.hid r9
        have B9 := Lib.hid b9
        have H9 := Lib.hid h9
        have PY := Lib.hid hpy
        clear hw9 r9 b9 h9 hpy HB HH
        refine hK.out _ _ ?_ (fun hHeld => ?_)
        ·exact QS.out _ B9.out
        clear hK K
        try simp only [Act.put, List.getElem_toArray, List.getElem_cons_zero, List.getElem_cons_succ, List.setIfInBounds_toArray, List.set_cons_zero, List.set_cons_succ]
        refine tq 12 ?_
        refine wpAnyH_done (by kernel_rfl) ?_ _
        go_wp2_with fail
        go_meet
        exact ⟨pb, r1, r2, r3, o1, o2, o3, q1, q2, q3, rfl, rfl, R9.out, PY.out, H9.out, B9.out⟩
       ·obtain ⟨xB, hx⟩ : ∃ x, x = yb.alloc (.cells #[.slice none 0 0, .slice none 0 0, .slice none 0 0] 31) := ⟨_, rfl⟩
        have hb : Below yb.heap.size yb xB := by rw [hx]; exact below_new _ _
        have KB := Lib.hid (show BoxAt yb.heap.size [.slice none 0 0, .slice none 0 0, .slice none 0 0] xB from by rw [hx]; exact boxAt_new yb [.slice none 0 0, .slice none 0 0, .slice none 0 0] _)
        have OB : Hid (OpenRow xB yb.heap.size 1 3) := Lib.hid (by rw [hx]; exact ⟨by decide, _, _, heap_alloc_new yb _, rfl⟩)
        have PB : yb.heap.size < xB.heap.size := by rw [hx]; simp
        obtain ⟨pb, hpb⟩ : ∃ p, p = yb.heap.size := ⟨_, rfl⟩
        go_simp
        rw [← hx]
        rw [← hpb] at KB OB PB ⊢
        have HPB := Lib.hid hpb
        clear hx hpb
        have BxB := Lib.hid hb
        have BYxB := Lib.hid (hb)
        clear hb
        refine hK.out _ _ ?_ (fun hHeld => ?_)
        ·exact QS.out _ (below_step' BYb.out BYxB.out)
        clear hK K
        try simp only [Act.put, List.getElem_toArray, List.getElem_cons_zero, List.getElem_cons_succ, List.setIfInBounds_toArray, List.set_cons_zero, List.set_cons_succ]
        refine wpAnyH_ready (rs := [6]) (by kernel_rfl) (by simp) ?_
        refine AllReadyH.cons rfl (fun K hK => ?_) AllReadyH.nil
        go_simp
        refine (apply_at A c _ _ _ _ _ OKC.out SMT.out SMC.out _ _ _ _ _ _ (LGv.out.below (below_step' BYb.out BYxB.out)) (HTv.out.later (below_step' BYb.out BYxB.out)) (HCv.out.later (below_step' BYb.out BYxB.out))).mono ?_
        rintro e xBR ⟨u1, u2, u3, rfl, hR, hb⟩
        rw [show errOf A c ⟨s.kind, s.node, s.k, s.link, s.seq⟩ = er from ERQ.out.symm]
        rw [show applied A c ⟨s.kind, s.node, s.k, s.link, s.seq⟩ = d from HD.out.symm] at hR
        obtain ⟨r1, r2, r3, o1, o2, o3, q1, q2, q3, ee1, ee2, ee3⟩ := cf_slices hR
        subst ee1
        subst ee2
        subst ee3
        have HR := Lib.hid hR
        clear hR
        have BxBR := Lib.hid hb
        have BYxBR := Lib.hid (below_step' BYxB.out hb)
        clear hb
        go_wp2_with fail
        refine hK.out _ _ ?_ (fun hHeld => ?_)
        ·exact QS.out _ (below_step' BYb.out BYxBR.out)
        clear hK K
        try simp only [Act.put, List.getElem_toArray, List.getElem_cons_zero, List.getElem_cons_succ, List.setIfInBounds_toArray, List.set_cons_zero, List.set_cons_succ]
        refine tq 7 ?_
        refine tq 8 ?_
        refine tq 9 ?_
        refine wpAnyH_ready (rs := [11]) (by kernel_rfl) (by simp) ?_
        refine AllReadyH.cons rfl (fun K hK => ?_) AllReadyH.nil
        have hO := OB.out.same (SameOn.of_below (P := fun _ => True) BxBR.out) trivial PB
        have hB := KB.out.below BxBR.out
        have zyb := BYb.out.size
        have hz : wv.heap.size ≤ xB.heap.size := (below_step' BYb.out BYxB.out).size
        have hpb : pb < xB.heap.size := PB
        have hH : HoldsL False (fun q => wv.heap.size ≤ q ∧ q ≠ pb) xBR [.slice r1 o1 q1, .slice r2 o2 q2, .slice r3 o3 q3] d.d := HR.out.loose.wide (fun q _ h => by have h : xB.heap.size ≤ q := h; exact ⟨by omega, by omega⟩)
        have k0 := hB 0 _ rfl
        have k1 := hB 1 _ rfl
        have k2 := hB 2 _ rfl
        have f0 := hO.frozen 0
        have f1 := hO.frozen 1
        have f2 := hO.frozen 2
        have HB := Lib.hid hB
        have HH := Lib.hid hH
        clear hO hB hH
        go_simp
        clear k0 k1 k2 f0 f1 f2
        obtain ⟨w9, hw9⟩ : ∃ x, x = ((xBR.setCell ⟨pb, 0, none⟩ (.slice r1 o1 q1)).setCell ⟨pb, 1, none⟩ (.slice r2 o2 q2)).setCell ⟨pb, 2, none⟩ (.slice r3 o3 q3) := ⟨_, rfl⟩
        have r9 : BoxAt pb [.slice r1 o1 q1, .slice r2 o2 q2, .slice r3 o3 q3] w9 := by rw [hw9]; exact boxAt_set (j := 2) (u := .slice r3 o3 q3) (boxAt_set (j := 1) (u := .slice r2 o2 q2) (boxAt_set (j := 0) (u := .slice r1 o1 q1) HB.out))
        have hpy : wv.heap.size ≤ pb := by have := HPB.out; have := BYb.out.size; omega
        have b9 : Below wv.heap.size wv w9 := by rw [hw9]; exact ((((below_step' BYb.out BYxBR.out).setCell hpy _).setCell hpy _).setCell hpy _)
        have h9 : HoldsL False (fun q => wv.heap.size ≤ q ∧ q ≠ pb) w9 [.slice r1 o1 q1, .slice r2 o2 q2, .slice r3 o3 q3] d.d := by rw [hw9]; exact HH.out.same (((((SameOn.refl (fun q => q ≠ pb) xBR).set ⟨pb, 0, none⟩ _ (fun h => h rfl)).set ⟨pb, 1, none⟩ _ (fun h => h rfl)).set ⟨pb, 2, none⟩ _ (fun h => h rfl)).sub (fun q h => h.2))
        rw [← hw9]
        have R9 := Lib.hid r9
        have B9 := Lib.hid b9
        have H9 := Lib.hid h9
        have PY := Lib.hid hpy
        clear hw9 r9 b9 h9 hpy HB HH
        refine hK.out _ _ ?_ (fun hHeld => ?_)
        ·exact QS.out _ B9.out
        clear hK K
        try simp only [Act.put, List.getElem_toArray, List.getElem_cons_zero, List.getElem_cons_succ, List.setIfInBounds_toArray, List.set_cons_zero, List.set_cons_succ]
        refine tq 12 ?_
        refine wpAnyH_done (by kernel_rfl) ?_ _
        go_wp2_with fail
        go_meet
        exact ⟨pb, r1, r2, r3, o1, o2, o3, q1, q2, q3, rfl, rfl, R9.out, PY.out, H9.out, B9.out⟩
     case rest =>
      obtain ⟨p, f1, f2, f3, i1, i2, i3, j1, j2, j3, ee1, ee2, hk9, hpy, hh9, hb9⟩ := hcut
      subst ee1
      subst ee2
      obtain ⟨x, hx⟩ : ∃ y, y = wc := ⟨_, rfl⟩
      rw [← hx] at hk9 hh9 hb9 ⊢
      have KD := Lib.hid hk9
      have CD := Lib.hid hh9
      have BX := Lib.hid hb9
      have PY := Lib.hid hpy
      clear hx hk9 hh9 hb9 hpy
      by_cases he : er = 0
      case neg =>
       have he' : (er != 0) = true := by simpa using he
       clear he
       go_wp2_with fail
       go_roundw
       case rel => exact ⟨k + 1, by go_num, by omega, ER.out.later BX.out⟩
       case measure => simp [intOf]; omega
      case pos =>
       subst he
       have he' : ((0 : Int) != 0) = false := rfl
       have EZ : Hid (errOf A c s = 0) := Lib.hid ERQ.out.symm
       have OKD : Hid (CfOK A d) := Lib.hid (by rw [HD.out]; exact applied_ok OKC.out EZ.out)
       obtain ⟨hz1, hz2, hz3⟩ := cf_has CD.out.weak
       obtain ⟨_, _, ee⟩ := slice_of hz2
       have i2e : i2 = gl := by have h := OKD.out.2.links; have h2 := GLA.out; injection ee; omega
       clear ee
       obtain ⟨_, _, ee⟩ := slice_of hz3
       have i3e : i3 = gl := by have h := OKD.out.2.sent; have h2 := GLA.out; injection ee; omega
       clear ee hz1 hz2 hz3
       subst i2 i3
       have EMx := Lib.hid (EM.out.later BX.out)
       have QX := Lib.hid (QS.out x BX.out)
       have PDT : Hid (p < x.heap.size) := Lib.hid (World.block_lt_of_cell? x _ (KD.out 0 _ rfl))
       rcases err_kind EZ.out with ⟨hkd, hap⟩ | ⟨hkd, hed, hap⟩
       ·have hg0 : x.cell? ⟨lb, lo + k * 5, none⟩ = some (.int .i64 0) := by rw [← hkd]; exact QX.out.2.2.2.2.2.2.2.1
        have hg3 := QX.out.2.2.2.2.2.2.2.2.2.2.1
        clear hkd
        have GD : Hid (Gots A d G) := Lib.hid (by rw [HD.out, hap]; exact gots_pick OKC.out GOT.out s)
        clear hap
        have CD2 : Hid (HoldsL False (fun q => (wv.heap.size ≤ q ∧ q ≠ p) ∧ q < x.heap.size) x [.slice f1 i1 j1, .slice f2 gl j2, .slice f3 gl j3] d.d) := Lib.hid (CD.out.wide (fun q hq h => ⟨h, hq⟩))
        have z0 := EMx.out.box 0 _ rfl
        have z1 := EMx.out.box 1 _ rfl
        have z2 := EMx.out.box 2 _ rfl
        have f0z := EMx.out.opn.frozen 0
        have f1z := EMx.out.opn.frozen 1
        have f2z := EMx.out.opn.frozen 2
        have d0 := KD.out 0 _ rfl
        have d1 := KD.out 1 _ rfl
        have d2 := KD.out 2 _ rfl
        go_wp2_with fail
        go_roundw
        case rel => exact ⟨k + 1, by go_num, by omega, d, G, f1, f2, f3, i1, j1, j2, j3, _, _, OKD.out, GD.out, EMx.out.move CD2.out (fun q h => h.2) (fun h => by have := EM.out.pcl; have := h.1.1; omega) (fun q hq h => by have := (EM.out.low q hq).2; have := h.1.1; omega)⟩
        case measure => simp [intOf]; omega
       ·obtain ⟨l, q, g, hl, hll, hq, hg, hs1, hs2, hs3, hs4, hgd⟩ := gots_del OKC.out GOT.out hed
        have GD : Hid (Gots A d (G.set l (g ++ [s.seq]))) := Lib.hid (by rw [HD.out, hap]; exact hgd)
        clear hap hgd hed
        have hg0 : x.cell? ⟨lb, lo + k * 5, none⟩ = some (.int .i64 1) := by rw [← hkd]; exact QX.out.2.2.2.2.2.2.2.1
        have hg3 : x.cell? ⟨lb, lo + k * 5 + 3, none⟩ = some (.int .i64 l) := by rw [← hl]; exact QX.out.2.2.2.2.2.2.2.2.2.2.1
        have hg4 := QX.out.2.2.2.2.2.2.2.2.2.2.2
        obtain ⟨sq, hsq⟩ : ∃ n, n = s.seq := ⟨_, rfl⟩
        rw [← hsq] at hg4 hs1 hs2 hs3 hs4 GD
        clear hkd hl hsq
        have hlg : l < gl := by rw [GLA.out]; exact hll
        have hlg' : (l : Int) < gl := by omega
        have hlg2 : ¬ (gl : Int) ≤ l := by omega
        clear hll
        obtain ⟨Q, ra, rc, hgG, hcell, hopn, hgb, hPgb, hQP, hQg, hH, hF⟩ := EMx.out.push hg
        obtain ⟨q9, m9, hq9, hm9, hk9⟩ := cf_at OKC.out (i := l) (by rw [← GLA.out]; exact hlg)
        rw [hq] at hq9
        cases hq9
        have hgo := GOT.out.2 l q m9 g hq hm9 hg
        have hq5 := hk9.2.1
        have hmn := hgo.many
        obtain ⟨gn, hgn⟩ : ∃ n, n = g.length := ⟨_, rfl⟩
        rw [← hgn] at hcell hH hmn
        have hgn5 : gn ≤ 500 := by omega
        have GN := Lib.hid hgn
        have hs4' : A.ff = true → sq = (gn : Int) + 1 := by rw [hgn]; exact hs4
        clear hs4 hk9 hm9 hgo hq5 hmn hgG hgn
        obtain ⟨hc1, hc2, hc3⟩ := cf_has (HCv.out.later BX.out)
        obtain ⟨sb, so, ee, zq⟩ := int_at hc3 hq
        subst ee
        clear hc1 hc2 hc3
        have hz1 : ¬ sq < 1 := by omega
        have hz2 : ¬ q < sq := by omega
        have hr0 := QX.out.2.2.2.1
        have hr6 := QX.out.2.2.2.2.2.2.1
        have HH := Lib.hid hH
        have HF := Lib.hid hF
        have HQP := Lib.hid hQP
        have HCELL := Lib.hid hcell
        have HOPN := Lib.hid hopn
        have HS3 := Lib.hid hs3
        have HGG := Lib.hid hg
        have HQG := Lib.hid hQg
        have HPG := Lib.hid hPgb
        have HS4 := Lib.hid hs4'
        clear hH hF hQP hopn hs3 hg hQg hPgb hs4' hs1 hs2 hq
        go_upto_region 13 with fail
        have d0 : decide ((l : Int) < 0) = false := by simp
        have d1 : decide ((gl : Int) ≤ l) = false := by simp; omega
        have d2 : decide (gl ≤ l) = false := by simp; omega
        have d3 : decide (sq < 1) = false := by simp; omega
        have d4 : decide (q < sq) = false := by simp; omega
        have d5 : IntKind.i64.wrap ((gn : Int) + 1) = (gn : Int) + 1 := IntWalk.i64_in _ (by omega)
        obtain ⟨fb, hfb⟩ : ∃ b, b = A.ff := ⟨_, rfl⟩
        rw [← hfb] at hr0
        have HS5 := HS4.out
        rw [← hfb] at HS5
        clear hfb
        go_cut [129] from 64 to 128 (fun sp wx => sp = .bool false ∧ Below x.heap.size x wx)
        case first =>
         cases fb with
         | false =>
          clear HS5
          as_aux_lemma =>
           have QR : Hid (∀ w', Below x.heap.size x w' → (fun w' => w'.cell? ⟨ba, 3, none⟩ = some (.bool false) ∧ w'.cell? ⟨pc, 2, none⟩ = some (.slice (some ⟨sb, so, none⟩) gl e3) ∧ w'.cell? ⟨lb, lo + k * 5 + 4, none⟩ = some (.int .i64 sq) ∧ w'.cell? ⟨sb, so + l, none⟩ = some (.int .i64 q) ∧ w'.cell? ⟨gb, l, none⟩ = some (.slice ra gn rc)) w') := Lib.hid (fun w' hb => ⟨(hb.cell (World.block_lt_of_cell? x _ hr0)).trans hr0, (hb.cell (World.block_lt_of_cell? x _ hr6)).trans hr6, (hb.cell (World.block_lt_of_cell? x _ hg4)).trans hg4, (hb.cell (World.block_lt_of_cell? x _ zq)).trans zq, (hb.cell (World.block_lt_of_cell? x _ hcell)).trans hcell⟩)
           clear hr0 hr6 hg4 zq hcell
           refine wp_region_held_drew (S := (fun w' => w'.cell? ⟨ba, 3, none⟩ = some (.bool false) ∧ w'.cell? ⟨pc, 2, none⟩ = some (.slice (some ⟨sb, so, none⟩) gl e3) ∧ w'.cell? ⟨lb, lo + k * 5 + 4, none⟩ = some (.int .i64 sq) ∧ w'.cell? ⟨sb, so + l, none⟩ = some (.int .i64 q) ∧ w'.cell? ⟨gb, l, none⟩ = some (.slice ra gn rc))) (by kernel_rfl) ?_ (fun hHeld => ?_)
           ·exact QR.out _ (below_drewN (Below.refl _ x) 1)
           obtain ⟨yb, hyb⟩ : ∃ y, y = x.drew := ⟨_, rfl⟩
           rw [← hyb] at hHeld ⊢
           have BYb : Hid (Below x.heap.size x yb) := Lib.hid (by rw [hyb]; exact below_drewN (Below.refl _ x) 1)
           clear hyb
           refine tq 0 ?_
           refine tq 1 ?_
           refine tq 2 ?_
           refine tq 3 ?_
           refine tq 4 ?_
           refine tq 5 ?_
           refine tq 6 ?_
           refine tq 7 ?_
           refine tq 8 ?_
           refine tq 9 ?_
           refine tq 10 ?_
           refine tq 11 ?_
           refine tq 12 ?_
           refine tq 13 ?_
           refine tq 14 ?_
           refine tq 15 ?_
           refine tq 16 ?_
           refine tq 17 ?_
           refine tq 18 ?_
           refine tq 19 ?_
           refine tq 20 ?_
           refine tq 21 ?_
           refine tq 22 ?_
           refine tq 23 ?_
           refine tq 24 ?_
           refine tq 25 ?_
           refine tq 29 ?_
           refine tq 31 ?_
           refine tq 26 ?_
           refine tq 30 ?_
           refine tq 27 ?_
           refine tq 32 ?_
           refine tq 28 ?_
           refine tq 33 ?_
           refine tq 34 ?_
           refine tq 35 ?_
           refine tq 36 ?_
           refine tq 37 ?_
           refine tq 38 ?_
           refine tq 41 ?_
           refine tq 42 ?_
           refine tq 39 ?_
           refine tq 43 ?_
           refine tq 40 ?_
           refine tq 44 ?_
           refine tq 45 ?_
           refine wpAnyH_ready (rs := [46]) (by kernel_rfl) (by simp) ?_
           refine AllReadyH.cons rfl (fun K hK => ?_) AllReadyH.nil
           go_simp
           refine (rin_at _ g sq false _ (HH.out.weak.later BYb.out) (by rw [← GN.out]; omega) (by simp [HS3.out])).mono ?_
           rintro e yl0 ⟨rfl, hb⟩
           replace BYb := Lib.hid (below_step' BYb.out hb)
           clear hb
           go_wp2_with fail
           refine hK.out _ _ ?_ (fun hHeld => ?_)
           ·exact QR.out _ BYb.out
           clear hK K
           try simp only [Act.put, List.getElem_toArray, List.getElem_cons_zero, List.getElem_cons_succ, List.setIfInBounds_toArray, List.set_cons_zero, List.set_cons_succ]
           refine tq 47 ?_
           refine tq 48 ?_
           refine tq 49 ?_
           refine tq 50 ?_
           refine tq 51 ?_
           refine tq0 52 ?_
           refine tq0 53 ?_
           refine tq0 57 ?_
           refine tq0 58 ?_
           refine tq0 54 ?_
           refine tq0 59 ?_
           refine tq0 55 ?_
           refine tq0 60 ?_
           refine tq0 56 ?_
           refine tq0 61 ?_
           refine tq0 62 ?_
           refine tq0 63 ?_
           refine tq 64 ?_
           refine tq 65 ?_
           refine wpAnyH_done (by kernel_rfl) ?_ _
           go_wp2_with fail
           go_meet
           exact ⟨rfl, BYb.out⟩
         | true =>
          have hs9 := HS5 rfl
          have d6 : (sq != (gn : Int) + 1) = false := by rw [hs9]; simp
          clear HS5 hs9
          as_aux_lemma =>
           have QR : Hid (∀ w', Below x.heap.size x w' → (fun w' => w'.cell? ⟨ba, 3, none⟩ = some (.bool true) ∧ w'.cell? ⟨pc, 2, none⟩ = some (.slice (some ⟨sb, so, none⟩) gl e3) ∧ w'.cell? ⟨lb, lo + k * 5 + 4, none⟩ = some (.int .i64 sq) ∧ w'.cell? ⟨sb, so + l, none⟩ = some (.int .i64 q) ∧ w'.cell? ⟨gb, l, none⟩ = some (.slice ra gn rc)) w') := Lib.hid (fun w' hb => ⟨(hb.cell (World.block_lt_of_cell? x _ hr0)).trans hr0, (hb.cell (World.block_lt_of_cell? x _ hr6)).trans hr6, (hb.cell (World.block_lt_of_cell? x _ hg4)).trans hg4, (hb.cell (World.block_lt_of_cell? x _ zq)).trans zq, (hb.cell (World.block_lt_of_cell? x _ hcell)).trans hcell⟩)
           clear hr0 hr6 hg4 zq hcell
           refine wp_region_held_drew (S := (fun w' => w'.cell? ⟨ba, 3, none⟩ = some (.bool true) ∧ w'.cell? ⟨pc, 2, none⟩ = some (.slice (some ⟨sb, so, none⟩) gl e3) ∧ w'.cell? ⟨lb, lo + k * 5 + 4, none⟩ = some (.int .i64 sq) ∧ w'.cell? ⟨sb, so + l, none⟩ = some (.int .i64 q) ∧ w'.cell? ⟨gb, l, none⟩ = some (.slice ra gn rc))) (by kernel_rfl) ?_ (fun hHeld => ?_)
           ·exact QR.out _ (below_drewN (Below.refl _ x) 1)
           obtain ⟨yb, hyb⟩ : ∃ y, y = x.drew := ⟨_, rfl⟩
           rw [← hyb] at hHeld ⊢
           have BYb : Hid (Below x.heap.size x yb) := Lib.hid (by rw [hyb]; exact below_drewN (Below.refl _ x) 1)
           clear hyb
           refine tq 0 ?_
           refine tq 1 ?_
           refine tq 2 ?_
           refine tq 3 ?_
           refine tq 4 ?_
           refine tq 5 ?_
           refine tq 6 ?_
           refine tq 7 ?_
           refine tq 8 ?_
           refine tq 9 ?_
           refine tq 10 ?_
           refine tq 11 ?_
           refine tq 12 ?_
           refine tq 13 ?_
           refine tq 14 ?_
           refine tq 15 ?_
           refine tq 16 ?_
           refine tq 17 ?_
           refine tq 18 ?_
           refine tq 19 ?_
           refine tq 20 ?_
           refine tq 21 ?_
           refine tq 22 ?_
           refine tq 23 ?_
           refine tq 24 ?_
           refine tq 25 ?_
           refine tq 29 ?_
           refine tq 31 ?_
           refine tq 26 ?_
           refine tq 30 ?_
           refine tq 27 ?_
           refine tq 32 ?_
           refine tq 28 ?_
           refine tq 33 ?_
           refine tq 34 ?_
           refine tq 35 ?_
           refine tq 36 ?_
           refine tq 37 ?_
           refine tq 38 ?_
           refine tq 41 ?_
           refine tq 42 ?_
           refine tq 39 ?_
           refine tq 43 ?_
           refine tq 40 ?_
           refine tq 44 ?_
           refine tq 45 ?_
           refine wpAnyH_ready (rs := [46]) (by kernel_rfl) (by simp) ?_
           refine AllReadyH.cons rfl (fun K hK => ?_) AllReadyH.nil
           go_simp
           refine (rin_at _ g sq false _ (HH.out.weak.later BYb.out) (by rw [← GN.out]; omega) (by simp [HS3.out])).mono ?_
           rintro e yl0 ⟨rfl, hb⟩
           replace BYb := Lib.hid (below_step' BYb.out hb)
           clear hb
           go_wp2_with fail
           refine hK.out _ _ ?_ (fun hHeld => ?_)
           ·exact QR.out _ BYb.out
           clear hK K
           try simp only [Act.put, List.getElem_toArray, List.getElem_cons_zero, List.getElem_cons_succ, List.setIfInBounds_toArray, List.set_cons_zero, List.set_cons_succ]
           refine tq 47 ?_
           refine tq 48 ?_
           refine tq 49 ?_
           refine tq 50 ?_
           refine tq 51 ?_
           refine tq 52 ?_
           refine tq 53 ?_
           refine tq 57 ?_
           refine tq 58 ?_
           refine tq 54 ?_
           refine tq 59 ?_
           refine tq 55 ?_
           refine tq 60 ?_
           refine tq 56 ?_
           refine tq 61 ?_
           refine tq 62 ?_
           refine tq 63 ?_
           refine tq 64 ?_
           refine tq 65 ?_
           refine wpAnyH_done (by kernel_rfl) ?_ _
           go_wp2_with fail
           go_meet
           exact ⟨rfl, BYb.out⟩
        case rest =>
         clear HS5 d0 d1 d2 d3 d4 d5 hr0 hr6 zq hz1 hz2 hlg2
         as_aux_lemma =>
          obtain ⟨ee, hb2⟩ := hcut
          subst ee
          obtain ⟨x2, hx2⟩ : ∃ y, y = wc := ⟨_, rfl⟩
          rw [← hx2] at hb2 ⊢
          have BX2 := Lib.hid hb2
          clear hx2 hb2
          go_upto_region 15 with fail
          obtain ⟨iq, hiq, hzq, hsq2, hbq2⟩ := info_parts infoI
          have NQL : Hid (¬ Q lb ∧ lb ≠ gb) := Lib.hid ⟨fun h => by have := (EMx.out.low lb (HQP.out lb h)).1; have := BW.out.size; have := LBW.out; omega, fun h => by have := (EMx.out.low gb HPG.out).1; have := BW.out.size; have := LBW.out; omega⟩
          have KS : Hid (∀ w', SameOn (fun q => ¬ Q q) x w' → (fun w' => w'.cell? ⟨lb, lo + k * 5 + 4, none⟩ = some (.int .i64 sq)) w') := Lib.hid (fun w' hs => (hs.cell (a := ⟨lb, lo + k * 5 + 4, none⟩) NQL.out.1 (World.block_lt_of_cell? x _ hg4)).trans hg4)
          have HCL : Hid ((∀ w', Below x.heap.size x w' → w'.cell? ⟨gb, l, none⟩ = some (.slice ra gn rc)) ∧ (∀ w', SameOn (fun q => ¬ Q q) x w' → w'.cell? ⟨gb, l, none⟩ = some (.slice ra gn rc) ∧ w'.frozen? ⟨gb, l, none⟩ = false)) := Lib.hid ⟨fun w' hb => (hb.cell (by exact hgb)).trans HCELL.out, fun w' hs => ⟨(hs.cell (a := ⟨gb, l, none⟩) HQG.out hgb).trans HCELL.out, (HOPN.out.same hs HQG.out hgb).frozen _⟩⟩
          clear hg4 hcell
          refine wp_region_held_drew (S := (fun w' => w'.cell? ⟨lb, lo + k * 5 + 4, none⟩ = some (.int .i64 sq))) (by kernel_rfl) ?_ (fun hHeld => ?_)
          ·exact KS.out _ (SameOn.of_below (below_drewN BX2.out 1))
          obtain ⟨yc, hyc⟩ : ∃ y, y = x2.drew := ⟨_, rfl⟩
          rw [← hyc] at hHeld ⊢
          have BC : Hid (Below x.heap.size x yc) := Lib.hid (by rw [hyc]; exact below_drewN BX2.out 1)
          clear hyc
          refine tq 0 ?_
          refine tq 1 ?_
          refine tq 2 ?_
          refine tq 3 ?_
          refine tq 6 ?_
          refine tq 7 ?_
          refine tq 4 ?_
          refine tq 8 ?_
          refine tq 9 ?_
          refine tq 10 ?_
          refine wpAnyH_ready (rs := [5, 11]) (by kernel_rfl) (by simp) ?_
          refine AllReadyH.cons rfl (fun K hK => ?_) (AllReadyH.cons rfl (fun K hK => ?_) AllReadyH.nil)
          ·have zc := HCL.out.1 _ BC.out
           go_simp
           clear zc
           refine hK.out _ _ ?_ (fun hHeld => ?_)
           ·exact KS.out _ (SameOn.of_below BC.out)
           clear hK K
           try simp only [Act.put, List.getElem_toArray, List.getElem_cons_zero, List.getElem_cons_succ, List.setIfInBounds_toArray, List.set_cons_zero, List.set_cons_succ]
           refine wpAnyH_ready (rs := [11]) (by kernel_rfl) (by simp) ?_
           refine AllReadyH.cons rfl (fun K hK => ?_) AllReadyH.nil
           go_simp
           obtain ⟨yn, hyn⟩ : ∃ x, x = yc.alloc (.cells #[.int .i64 sq] 3) := ⟨_, rfl⟩
           have NW : Hid (∀ a, some (⟨yc.heap.size, 0, none⟩ : Addr) = some a → ∀ j u, [Value.int .i64 sq][j]? = some u → yn.cell? (a.add j) = some u) := Lib.hid (by rw [hyn]; exact news_new (w := yc) (vs := [.int .i64 sq]))
           have BN : Hid (Below x.heap.size x yn) := Lib.hid (by rw [hyn]; exact below_step' BC.out (below_new _ _))
           rw [← hyn]
           clear hyn
           refine hK.out _ _ ?_ (fun hHeld => ?_)
           ·exact KS.out _ (SameOn.of_below BN.out)
           clear hK K
           try simp only [Act.put, List.getElem_toArray, List.getElem_cons_zero, List.getElem_cons_succ, List.setIfInBounds_toArray, List.set_cons_zero, List.set_cons_succ]
           refine wpAnyH_ready (rs := [12]) (by kernel_rfl) (by simp) ?_
           refine AllReadyH.cons rfl (fun K hK => ?_) AllReadyH.nil
           refine appSK (by rfl) _ _ 28 3 iq (.int .i64 0) 1 8 (by rfl) Try.underlying28 hiq hzq hsq2 hbq2 rfl (by decide) Q (fun _ => False) y3 (below_step' EMx.out.bel BN.out) (fun k hk => (EMx.out.low k (HQP.out k hk)).1) ra gn rc (g.map fun a => [dI a]) [[dI sq]] 1 1 (gn + 1) (by rfl) (HH.out.later BN.out) (some ⟨yc.heap.size, 0, none⟩) (by rfl) [.int .i64 sq] NW.out (fun h => by cases h) (by intro ds hds; simp at hds; subst hds; rfl) rfl (by rw [List.flatten_cons, List.flatten_nil, List.append_nil]; exact one_intL' _ _) (fun _ h => h.elim) rfl (by unfold maxLen; omega) (by omega) ?_
           intro ao cv w6 hA hS6' hB6'
           have HS6 : Hid (SameOn (fun q => ¬ Q q) x w6) := Lib.hid ((SameOn.of_below BN.out).trans hS6')
           have HA := Lib.hid hA
           have HB6 := Lib.hid hB6'
           clear hA hS6' hB6'
           refine hK.out _ _ ?_ (fun hHeld => ?_)
           ·exact KS.out _ HS6.out
           clear hK K
           try simp only [Act.put, List.getElem_toArray, List.getElem_cons_zero, List.getElem_cons_succ, List.setIfInBounds_toArray, List.set_cons_zero, List.set_cons_succ]
           refine tq 13 ?_
           refine wpAnyH_ready (rs := [14]) (by kernel_rfl) (by simp) ?_
           refine AllReadyH.cons rfl (fun K hK => ?_) AllReadyH.nil
           have zc := (HCL.out.2 _ HS6.out).1
           have fc := (HCL.out.2 _ HS6.out).2
           go_simp
           clear zc fc
           obtain ⟨w7, hw7⟩ : ∃ x, x = w6.setCell ⟨gb, l, none⟩ (.slice ao (gn + 1) cv) := ⟨_, rfl⟩
           have hnew : Holds True (fun q => (Q q ∨ q = yn.heap.size) ∧ q < w6.heap.size) w6 (.slice ao (gn + 1) cv) (dInts (g ++ [sq])) := by
            unfold dInts
            rw [List.map_append]
            exact HA.out.wide (fun k hk h => ⟨by
             rcases h with h | h | h
             ·exact .inl h
             ·exact h.elim
             ·exact .inr h, hk⟩)
           have EN : Hid (EachM y3 pc gb gl c (G.set l (g ++ [sq])) (.slice a1 n1 e1) (.slice a2 gl e2) (.slice (some ⟨sb, so, none⟩) gl e3) PC (fun q => PG q ∨ ((Q q ∨ q = yn.heap.size) ∧ q < w6.heap.size)) w7) := Lib.hid (by rw [hw7]; exact HF.out w6 _ _ _ HB6.out HS6.out hnew (fun q hq => ⟨hq.1.elim .inl (fun e => .inr (by have := BN.out.size; omega)), hq.2⟩))
           have SS7 : Hid (SameOn (fun q => ¬ PG q) x w7) := Lib.hid (by rw [hw7]; exact (HS6.out.sub (fun q hq h => hq (HQP.out q h))).set _ _ (fun hh => hh HPG.out))
           have K7 : Hid (w7.cell? ⟨lb, lo + k * 5 + 4, none⟩ = some (.int .i64 sq)) := Lib.hid (by rw [hw7]; exact set_far (.inl (fun e => NQL.out.2 e.symm)) (KS.out _ HS6.out))
           rw [← hw7]
           clear hw7 hnew
           refine hK.out _ _ ?_ (fun hHeld => ?_)
           ·exact K7.out
           clear hK K
           try simp only [Act.put, List.getElem_toArray, List.getElem_cons_zero, List.getElem_cons_succ, List.setIfInBounds_toArray, List.set_cons_zero, List.set_cons_succ]
           refine wpAnyH_done (by kernel_rfl) ?_ _
           clear hHeld
           have KD7 : Hid (BoxAt p [.slice f1 i1 j1, .slice f2 gl j2, .slice f3 gl j3] w7) := Lib.hid (KD.out.same SS7.out (fun h => by have := (EM.out.low p h).2; have := PY.out; omega))
           have CD7 : Hid (HoldsL False (fun q => (wv.heap.size ≤ q ∧ q ≠ p) ∧ q < x.heap.size) w7 [.slice f1 i1 j1, .slice f2 gl j2, .slice f3 gl j3] d.d) := Lib.hid ((CD.out.wide (P' := fun q => (wv.heap.size ≤ q ∧ q ≠ p) ∧ q < x.heap.size) (fun q hq h => ⟨h, hq⟩)).same (SS7.out.sub (fun q h hp => by have := (EM.out.low q hp).2; have := h.1.1; omega)))
           have z0 := EN.out.box 0 _ rfl
           have z1 := EN.out.box 1 _ rfl
           have z2 := EN.out.box 2 _ rfl
           have f0z := EN.out.opn.frozen 0
           have f1z := EN.out.opn.frozen 1
           have f2z := EN.out.opn.frozen 2
           have d0 := KD7.out 0 _ rfl
           have d1 := KD7.out 1 _ rfl
           have d2 := KD7.out 2 _ rfl
           go_wp2_with fail
           go_roundw
           case rel => exact ⟨k + 1, by go_num, by omega, d, G.set l (g ++ [sq]), f1, f2, f3, i1, j1, j2, j3, _, _, OKD.out, GD.out, EN.out.move CD7.out (fun q h => Nat.lt_of_lt_of_le h.2 SS7.out.1) (fun h => by have := EM.out.pcl; have := h.1.1; omega) (fun q hq h => by
            rcases hq with hq | hq
            ·have := (EM.out.low q hq).2; have := h.1.1; omega
            ·rcases hq.1 with hq' | hq'
             ·have := (EM.out.low q (HQP.out q hq')).2; have := h.1.1; omega
             ·have := BN.out.size; have := h.2; omega)⟩
           case measure => simp [intOf]; omega
          ·go_simp
           obtain ⟨yn, hyn⟩ : ∃ x, x = yc.alloc (.cells #[.int .i64 sq] 3) := ⟨_, rfl⟩
           have NW : Hid (∀ a, some (⟨yc.heap.size, 0, none⟩ : Addr) = some a → ∀ j u, [Value.int .i64 sq][j]? = some u → yn.cell? (a.add j) = some u) := Lib.hid (by rw [hyn]; exact news_new (w := yc) (vs := [.int .i64 sq]))
           have BN : Hid (Below x.heap.size x yn) := Lib.hid (by rw [hyn]; exact below_step' BC.out (below_new _ _))
           rw [← hyn]
           clear hyn
           refine hK.out _ _ ?_ (fun hHeld => ?_)
           ·exact KS.out _ (SameOn.of_below BN.out)
           clear hK K
           try simp only [Act.put, List.getElem_toArray, List.getElem_cons_zero, List.getElem_cons_succ, List.setIfInBounds_toArray, List.set_cons_zero, List.set_cons_succ]
           refine wpAnyH_ready (rs := [5]) (by kernel_rfl) (by simp) ?_
           refine AllReadyH.cons rfl (fun K hK => ?_) AllReadyH.nil
           have zc := HCL.out.1 _ BN.out
           go_simp
           clear zc
           refine hK.out _ _ ?_ (fun hHeld => ?_)
           ·exact KS.out _ (SameOn.of_below BN.out)
           clear hK K
           try simp only [Act.put, List.getElem_toArray, List.getElem_cons_zero, List.getElem_cons_succ, List.setIfInBounds_toArray, List.set_cons_zero, List.set_cons_succ]
           refine wpAnyH_ready (rs := [12]) (by kernel_rfl) (by simp) ?_
           refine AllReadyH.cons rfl (fun K hK => ?_) AllReadyH.nil
           refine appSK (by rfl) _ _ 28 3 iq (.int .i64 0) 1 8 (by rfl) Try.underlying28 hiq hzq hsq2 hbq2 rfl (by decide) Q (fun _ => False) y3 (below_step' EMx.out.bel BN.out) (fun k hk => (EMx.out.low k (HQP.out k hk)).1) ra gn rc (g.map fun a => [dI a]) [[dI sq]] 1 1 (gn + 1) (by rfl) (HH.out.later BN.out) (some ⟨yc.heap.size, 0, none⟩) (by rfl) [.int .i64 sq] NW.out (fun h => by cases h) (by intro ds hds; simp at hds; subst hds; rfl) rfl (by rw [List.flatten_cons, List.flatten_nil, List.append_nil]; exact one_intL' _ _) (fun _ h => h.elim) rfl (by unfold maxLen; omega) (by omega) ?_
           intro ao cv w6 hA hS6' hB6'
           have HS6 : Hid (SameOn (fun q => ¬ Q q) x w6) := Lib.hid ((SameOn.of_below BN.out).trans hS6')
           have HA := Lib.hid hA
           have HB6 := Lib.hid hB6'
           clear hA hS6' hB6'
           refine hK.out _ _ ?_ (fun hHeld => ?_)
           ·exact KS.out _ HS6.out
           clear hK K
           try simp only [Act.put, List.getElem_toArray, List.getElem_cons_zero, List.getElem_cons_succ, List.setIfInBounds_toArray, List.set_cons_zero, List.set_cons_succ]
           refine tq 13 ?_
           refine wpAnyH_ready (rs := [14]) (by kernel_rfl) (by simp) ?_
           refine AllReadyH.cons rfl (fun K hK => ?_) AllReadyH.nil
           have zc := (HCL.out.2 _ HS6.out).1
           have fc := (HCL.out.2 _ HS6.out).2
           go_simp
           clear zc fc
           obtain ⟨w7, hw7⟩ : ∃ x, x = w6.setCell ⟨gb, l, none⟩ (.slice ao (gn + 1) cv) := ⟨_, rfl⟩
           have hnew : Holds True (fun q => (Q q ∨ q = yn.heap.size) ∧ q < w6.heap.size) w6 (.slice ao (gn + 1) cv) (dInts (g ++ [sq])) := by
            unfold dInts
            rw [List.map_append]
            exact HA.out.wide (fun k hk h => ⟨by
             rcases h with h | h | h
             ·exact .inl h
             ·exact h.elim
             ·exact .inr h, hk⟩)
           have EN : Hid (EachM y3 pc gb gl c (G.set l (g ++ [sq])) (.slice a1 n1 e1) (.slice a2 gl e2) (.slice (some ⟨sb, so, none⟩) gl e3) PC (fun q => PG q ∨ ((Q q ∨ q = yn.heap.size) ∧ q < w6.heap.size)) w7) := Lib.hid (by rw [hw7]; exact HF.out w6 _ _ _ HB6.out HS6.out hnew (fun q hq => ⟨hq.1.elim .inl (fun e => .inr (by have := BN.out.size; omega)), hq.2⟩))
           have SS7 : Hid (SameOn (fun q => ¬ PG q) x w7) := Lib.hid (by rw [hw7]; exact (HS6.out.sub (fun q hq h => hq (HQP.out q h))).set _ _ (fun hh => hh HPG.out))
           have K7 : Hid (w7.cell? ⟨lb, lo + k * 5 + 4, none⟩ = some (.int .i64 sq)) := Lib.hid (by rw [hw7]; exact set_far (.inl (fun e => NQL.out.2 e.symm)) (KS.out _ HS6.out))
           rw [← hw7]
           clear hw7 hnew
           refine hK.out _ _ ?_ (fun hHeld => ?_)
           ·exact K7.out
           clear hK K
           try simp only [Act.put, List.getElem_toArray, List.getElem_cons_zero, List.getElem_cons_succ, List.setIfInBounds_toArray, List.set_cons_zero, List.set_cons_succ]
           refine wpAnyH_done (by kernel_rfl) ?_ _
           clear hHeld
           have KD7 : Hid (BoxAt p [.slice f1 i1 j1, .slice f2 gl j2, .slice f3 gl j3] w7) := Lib.hid (KD.out.same SS7.out (fun h => by have := (EM.out.low p h).2; have := PY.out; omega))
           have CD7 : Hid (HoldsL False (fun q => (wv.heap.size ≤ q ∧ q ≠ p) ∧ q < x.heap.size) w7 [.slice f1 i1 j1, .slice f2 gl j2, .slice f3 gl j3] d.d) := Lib.hid ((CD.out.wide (P' := fun q => (wv.heap.size ≤ q ∧ q ≠ p) ∧ q < x.heap.size) (fun q hq h => ⟨h, hq⟩)).same (SS7.out.sub (fun q h hp => by have := (EM.out.low q hp).2; have := h.1.1; omega)))
           have z0 := EN.out.box 0 _ rfl
           have z1 := EN.out.box 1 _ rfl
           have z2 := EN.out.box 2 _ rfl
           have f0z := EN.out.opn.frozen 0
           have f1z := EN.out.opn.frozen 1
           have f2z := EN.out.opn.frozen 2
           have d0 := KD7.out 0 _ rfl
           have d1 := KD7.out 1 _ rfl
           have d2 := KD7.out 2 _ rfl
           go_wp2_with fail
           go_roundw
           case rel => exact ⟨k + 1, by go_num, by omega, d, G.set l (g ++ [sq]), f1, f2, f3, i1, j1, j2, j3, _, _, OKD.out, GD.out, EN.out.move CD7.out (fun q h => Nat.lt_of_lt_of_le h.2 SS7.out.1) (fun h => by have := EM.out.pcl; have := h.1.1; omega) (fun q hq h => by
            rcases hq with hq | hq
            ·have := (EM.out.low q hq).2; have := h.1.1; omega
            ·rcases hq.1 with hq' | hq'
             ·have := (EM.out.low q (HQP.out q hq')).2; have := h.1.1; omega
             ·have := BN.out.size; have := h.2; omega)⟩
           case measure => simp [intOf]; omega
    case neg =>
     by_cases h1 : k < n0
     ·have h1' : (k : Int) < n0 := by omega
      have h2' : ¬ (k : Int) < 40 := by omega
      clear hlt h1
      as_aux_lemma =>
       go_wp2_with fail
       go_loopw [12] (fun i wr => ∃ j : Nat, i = .int .i64 j ∧ j ≤ gl ∧ Below wv.heap.size wv wr) (fun i _ => gl - (intOf i).toNat)
       case atStart => exact ⟨0, rfl, by omega, Below.refl _ _⟩
       case round =>
        obtain ⟨j, rfl, hj, hb⟩ := hrel
        have B2 := Lib.hid hb
        clear hb
        by_cases hjl : j < gl
        ·have hjl' : (j : Int) < gl := by omega
         obtain ⟨q, m, hq, hm, hk9⟩ := cf_at OKC.out (i := j) (by rw [← GLA.out]; exact hjl)
         obtain ⟨g, hg⟩ := some_of_lt (l := G) (i := j) (by rw [GOT.out.1, ← GLA.out]; exact hjl)
         have hgo := GOT.out.2 j q m g hq hm hg
         obtain ⟨Q, ra, rc, -, hcell, -⟩ := EM.out.push hg
         obtain ⟨hc1, hc2, hc3⟩ := cf_has HCv.out
         obtain ⟨cl, co, ca, cc, ee, -, -, z1, -⟩ := lls_at hc2 hm
         subst ee
         obtain ⟨sb, so, ee, z3⟩ := int_at hc3 hq
         subst ee
         clear hc1 hc2 hc3
         have hmn := hgo.many
         have hq5 := hk9.2.1
         obtain ⟨gn, hgn⟩ : ∃ n, n = g.length := ⟨_, rfl⟩
         obtain ⟨mn, hml⟩ : ∃ n, n = m.length := ⟨_, rfl⟩
         rw [← hgn] at hcell hmn
         rw [← hml] at z1 hmn
         have d1 : decide ((gl : Int) ≤ j) = false := by simp; omega
         have d2 : decide (gl ≤ j) = false := by simp; omega
         have d3 : IntKind.i64.wrap (q - (gn : Int)) = (mn : Int) := by rw [IntWalk.i64_in _ (by omega)]; omega
         have d4 : ((mn : Int) != (mn : Int)) = false := by simp
         have k1 := KCv.out 1 _ rfl
         have k2 := KCv.out 2 _ rfl
         have QX : Hid (∀ w', Below wv.heap.size wv w' → (fun w' => w'.cell? ⟨pc, 1, none⟩ = some (.slice (some ⟨cl, co, none⟩) gl e2) ∧ w'.cell? ⟨pc, 2, none⟩ = some (.slice (some ⟨sb, so, none⟩) gl e3) ∧ w'.cell? ⟨cl, co + j, none⟩ = some (.slice ca mn cc) ∧ w'.cell? ⟨sb, so + j, none⟩ = some (.int .i64 q) ∧ w'.cell? ⟨gb, j, none⟩ = some (.slice ra gn rc)) w') := Lib.hid (fun w' hb => ⟨(hb.cell (World.block_lt_of_cell? wv _ k1)).trans k1, (hb.cell (World.block_lt_of_cell? wv _ k2)).trans k2, (hb.cell (World.block_lt_of_cell? wv _ z1)).trans z1, (hb.cell (World.block_lt_of_cell? wv _ z3)).trans z3, (hb.cell (World.block_lt_of_cell? wv _ hcell)).trans hcell⟩)
         clear k1 k2 z1 z3 hcell hgo hmn hk9 hq5 hq hm hg hgn hml
         go_upto_region 20 with fail
         refine wp_region_held_drew (S := (fun w' => w'.cell? ⟨pc, 1, none⟩ = some (.slice (some ⟨cl, co, none⟩) gl e2) ∧ w'.cell? ⟨pc, 2, none⟩ = some (.slice (some ⟨sb, so, none⟩) gl e3) ∧ w'.cell? ⟨cl, co + j, none⟩ = some (.slice ca mn cc) ∧ w'.cell? ⟨sb, so + j, none⟩ = some (.int .i64 q) ∧ w'.cell? ⟨gb, j, none⟩ = some (.slice ra gn rc))) (by kernel_rfl) ?_ (fun hHeld => ?_)
         ·exact QX.out _ (below_drewN B2.out 1)
         obtain ⟨yf, hyf⟩ : ∃ y, y = wr.drew := ⟨_, rfl⟩
         rw [← hyf] at hHeld ⊢
         have BF : Hid (Below wv.heap.size wv yf) := Lib.hid (by rw [hyf]; exact below_drewN B2.out 1)
         clear hyf
         refine tq 0 ?_
         refine tq 1 ?_
         refine tq 2 ?_
         refine tq 3 ?_
         refine tq 4 ?_
         refine tq 5 ?_
         refine tq 6 ?_
         refine tq 7 ?_
         refine tq 8 ?_
         refine tq 9 ?_
         refine tq 10 ?_
         refine tq 11 ?_
         refine tq 12 ?_
         refine tq 13 ?_
         refine tq 15 ?_
         refine tq 18 ?_
         refine tq 19 ?_
         refine tq 24 ?_
         refine tq 26 ?_
         refine tq 14 ?_
         refine tq 20 ?_
         refine tq 25 ?_
         refine tq 16 ?_
         refine tq 21 ?_
         refine tq 27 ?_
         refine tq 17 ?_
         refine tq 22 ?_
         refine tq 28 ?_
         refine tq 23 ?_
         refine tq 29 ?_
         refine tq 30 ?_
         refine tq 31 ?_
         refine wpAnyH_done (by kernel_rfl) ?_ _
         clear hHeld
         go_wp2_with fail
         go_roundw
         case rel => exact ⟨j + 1, by go_num, by omega, BF.out⟩
         case measure => simp [intOf]; omega
        ·have hjl' : ¬ (j : Int) < gl := by omega
         replace BW := Lib.hid (below_step' (below_step' BW.out BV.out) B2.out)
         go_wp2_with fail
         refine (fixed5_any _).mono ?_
         rintro e y9 ⟨rfl, hb⟩
         replace BW := Lib.hid (below_step' BW.out hb)
         clear hb
         go_wp2_with fail
         go_ret
         exact ⟨rfl, BW.out⟩
     ·have h1' : ¬ (k : Int) < n0 := by omega
      clear hlt h1
      as_aux_lemma =>
       go_wp2_with fail
       go_loopw [12] (fun i wr => ∃ j : Nat, i = .int .i64 j ∧ j ≤ gl ∧ Below wv.heap.size wv wr) (fun i _ => gl - (intOf i).toNat)
       case atStart => exact ⟨0, rfl, by omega, Below.refl _ _⟩
       case round =>
        obtain ⟨j, rfl, hj, hb⟩ := hrel
        have B2 := Lib.hid hb
        clear hb
        by_cases hjl : j < gl
        ·have hjl' : (j : Int) < gl := by omega
         obtain ⟨q, m, hq, hm, hk9⟩ := cf_at OKC.out (i := j) (by rw [← GLA.out]; exact hjl)
         obtain ⟨g, hg⟩ := some_of_lt (l := G) (i := j) (by rw [GOT.out.1, ← GLA.out]; exact hjl)
         have hgo := GOT.out.2 j q m g hq hm hg
         obtain ⟨Q, ra, rc, -, hcell, -⟩ := EM.out.push hg
         obtain ⟨hc1, hc2, hc3⟩ := cf_has HCv.out
         obtain ⟨cl, co, ca, cc, ee, -, -, z1, -⟩ := lls_at hc2 hm
         subst ee
         obtain ⟨sb, so, ee, z3⟩ := int_at hc3 hq
         subst ee
         clear hc1 hc2 hc3
         have hmn := hgo.many
         have hq5 := hk9.2.1
         obtain ⟨gn, hgn⟩ : ∃ n, n = g.length := ⟨_, rfl⟩
         obtain ⟨mn, hml⟩ : ∃ n, n = m.length := ⟨_, rfl⟩
         rw [← hgn] at hcell hmn
         rw [← hml] at z1 hmn
         have d1 : decide ((gl : Int) ≤ j) = false := by simp; omega
         have d2 : decide (gl ≤ j) = false := by simp; omega
         have d3 : IntKind.i64.wrap (q - (gn : Int)) = (mn : Int) := by rw [IntWalk.i64_in _ (by omega)]; omega
         have d4 : ((mn : Int) != (mn : Int)) = false := by simp
         have k1 := KCv.out 1 _ rfl
         have k2 := KCv.out 2 _ rfl
         have QX : Hid (∀ w', Below wv.heap.size wv w' → (fun w' => w'.cell? ⟨pc, 1, none⟩ = some (.slice (some ⟨cl, co, none⟩) gl e2) ∧ w'.cell? ⟨pc, 2, none⟩ = some (.slice (some ⟨sb, so, none⟩) gl e3) ∧ w'.cell? ⟨cl, co + j, none⟩ = some (.slice ca mn cc) ∧ w'.cell? ⟨sb, so + j, none⟩ = some (.int .i64 q) ∧ w'.cell? ⟨gb, j, none⟩ = some (.slice ra gn rc)) w') := Lib.hid (fun w' hb => ⟨(hb.cell (World.block_lt_of_cell? wv _ k1)).trans k1, (hb.cell (World.block_lt_of_cell? wv _ k2)).trans k2, (hb.cell (World.block_lt_of_cell? wv _ z1)).trans z1, (hb.cell (World.block_lt_of_cell? wv _ z3)).trans z3, (hb.cell (World.block_lt_of_cell? wv _ hcell)).trans hcell⟩)
         clear k1 k2 z1 z3 hcell hgo hmn hk9 hq5 hq hm hg hgn hml
         go_upto_region 20 with fail
         refine wp_region_held_drew (S := (fun w' => w'.cell? ⟨pc, 1, none⟩ = some (.slice (some ⟨cl, co, none⟩) gl e2) ∧ w'.cell? ⟨pc, 2, none⟩ = some (.slice (some ⟨sb, so, none⟩) gl e3) ∧ w'.cell? ⟨cl, co + j, none⟩ = some (.slice ca mn cc) ∧ w'.cell? ⟨sb, so + j, none⟩ = some (.int .i64 q) ∧ w'.cell? ⟨gb, j, none⟩ = some (.slice ra gn rc))) (by kernel_rfl) ?_ (fun hHeld => ?_)
         ·exact QX.out _ (below_drewN B2.out 1)
         obtain ⟨yf, hyf⟩ : ∃ y, y = wr.drew := ⟨_, rfl⟩
         rw [← hyf] at hHeld ⊢
         have BF : Hid (Below wv.heap.size wv yf) := Lib.hid (by rw [hyf]; exact below_drewN B2.out 1)
         clear hyf
         refine tq 0 ?_
         refine tq 1 ?_
         refine tq 2 ?_
         refine tq 3 ?_
         refine tq 4 ?_
         refine tq 5 ?_
         refine tq 6 ?_
         refine tq 7 ?_
         refine tq 8 ?_
         refine tq 9 ?_
         refine tq 10 ?_
         refine tq 11 ?_
         refine tq 12 ?_
         refine tq 13 ?_
         refine tq 15 ?_
         refine tq 18 ?_
         refine tq 19 ?_
         refine tq 24 ?_
         refine tq 26 ?_
         refine tq 14 ?_
         refine tq 20 ?_
         refine tq 25 ?_
         refine tq 16 ?_
         refine tq 21 ?_
         refine tq 27 ?_
         refine tq 17 ?_
         refine tq 22 ?_
         refine tq 28 ?_
         refine tq 23 ?_
         refine tq 29 ?_
         refine tq 30 ?_
         refine tq 31 ?_
         refine wpAnyH_done (by kernel_rfl) ?_ _
         clear hHeld
         go_wp2_with fail
         go_roundw
         case rel => exact ⟨j + 1, by go_num, by omega, BF.out⟩
         case measure => simp [intOf]; omega
        ·have hjl' : ¬ (j : Int) < gl := by omega
         replace BW := Lib.hid (below_step' (below_step' BW.out BV.out) B2.out)
         go_wp2_with fail
         refine (fixed5_any _).mono ?_
         rintro e y9 ⟨rfl, hb⟩
         replace BW := Lib.hid (below_step' BW.out hb)
         clear hb
         go_wp2_with fail
         go_ret
         exact ⟨rfl, BW.out⟩
end Go.Proofs.Ytennbiajnkobnaa
