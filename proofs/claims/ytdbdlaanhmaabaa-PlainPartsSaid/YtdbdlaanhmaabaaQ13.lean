/- Texts put together. -/
import Derived.Test.YtdbdlaanhmaabaaQ00
import Derived.Test.YtdbdlaanhmaabaaQ05
import Derived.Test.YtdbdlaanhmaabaaQ12
import Derived.BigQuiet
set_option linter.unusedSimpArgs false
set_option linter.unusedVariables false
namespace Go.Proofs.Ytdbdlaanhmaabaa
open Go.RowKit Go.PlainAid
def RanBox (A : Ap) (c : Cf) (l : List Sp) (y : World) (sp sn se : Value) (wx : World) : Prop := ∃ (p : Nat) (a1 a2 a3 : Option Addr) (n1 n2 n3 e1 e2 e3 : Nat), sp = .pointer (some ⟨p, 0, none⟩) ∧ sn = .int .i64 (runOf A c l).2.1 ∧ se = .int .i64 (runOf A c l).2.2 ∧ BoxAt p [.slice a1 n1 e1, .slice a2 n2 e2, .slice a3 n3 e3] wx ∧ HasL wx [.slice a1 n1 e1, .slice a2 n2 e2, .slice a3 n3 e3] (runOf A c l).1.d ∧ Below y.heap.size y wx
theorem beq_dec {x : Int} {b : Bool} (h : b = decide (x = 0)) : (x == 0) = b := by rw [h]; by_cases e : x = 0 <;> simp [e]
theorem beq_len {x : Int} {b : Bool} {m n : Nat} (h : b = decide (x = 0)) (h' : x = 0 ↔ m = n) : ((m : Int) == (n : Int)) = b := by
 rw [h]
 by_cases e : x = 0
 ·have := h'.1 e; simp [e, this]
 ·have : m ≠ n := fun q => e (h'.2 q); simp [e]; omega
theorem small_ok {A : Ap} {c : Cf} (h : CfOK A c) : SmallCf c := by
 have h1 := h.1.1.2.2.1
 have h2 := h.1.1.2.1
 have h3 := h.2.states
 have h4 := h.2.links
 have h5 := h.2.sent
 refine ⟨by omega, by omega, by omega, fun m hm => ?_⟩
 obtain ⟨i, hi⟩ := List.mem_iff_getElem?.1 hm
 obtain ⟨q, m', _, hm', hk⟩ := cf_at h (i := i) (by have := lt_of_get hi; omega)
 rw [hi] at hm'
 cases hm'
 have := linkOK_len hk
 omega
set_option maxHeartbeats 8000000 in
set_option maxRecDepth 100000 in
theorem walkPlainParts (N0 : Int) (u0 : Value) (L0 : Lks) (t0 : Value) (M0 : Tab) (ff : Bool) (s0 : Value) (l0 : List Sp) (a2 : Int) (w : World) (wL : LinksAt w u0 L0) (wW0 : ∀ p ∈ L0, wfp p) (wT : Has w t0 (dTab M0)) (wS : Has w s0 (dSteps l0)) (h0 : 0 ≤ a2) (h1 : a2 < 256) :
  Calls Try.prog 7 #[.agg #[.int .i64 N0, u0, t0, .bool ff], s0, .int .u8 a2] w fun e w' => e = .returned (.bool true) ∧ Below w.heap.size w w' := by
 obtain ⟨ga0, gc, ee⟩ := slice_of (has_of_links wL)
 subst ee
 obtain ⟨ta0, tc0, ee⟩ := slice_of wT
 subst ee
 obtain ⟨A, hA⟩ : ∃ A, A = Ap.mk N0 (L0.take 40) (cutT M0) ff := ⟨_, rfl⟩
 have hgl40 := take_le L0
 have hwf := wf_take wW0
 have hLC := linksAt_cut wL
 obtain ⟨gl0, hgl0⟩ : ∃ n, n = L0.length := ⟨_, rfl⟩
 obtain ⟨tl0, htl0⟩ : ∃ n, n = M0.length := ⟨_, rfl⟩
 obtain ⟨gl, hgl⟩ : ∃ n, n = (L0.take 40).length := ⟨_, rfl⟩
 rw [← hgl] at hgl40 hLC
 rw [← hgl0] at wL ⊢
 rw [← htl0] at wT ⊢
 have WL := Lib.hid wL
 have WT := Lib.hid wT
 have AE := Lib.hid hA
 have GL0 := Lib.hid hgl0
 have GLE := Lib.hid hgl
 have HLC := Lib.hid hLC
 have HWF := Lib.hid hwf
 have hAn : A.n = N0 := by rw [hA]
 have hAl : A.l = L0.take 40 := by rw [hA]
 have hAt : A.t = cutT M0 := by rw [hA]
 have hAf : A.ff = ff := by rw [hA]
 have AN := Lib.hid hAn
 have AL := Lib.hid hAl
 have AT := Lib.hid hAt
 have AF := Lib.hid hAf
 have SMT : Hid (SmallTab A.t) := Lib.hid (by rw [hAt]; exact cutT_small M0)
 have LN : Hid (A.l.length ≤ 40) := Lib.hid (by rw [hAl]; exact take_le L0)
 have WFA : Hid (∀ p ∈ A.l, wfp p) := Lib.hid (by rw [hAl]; exact hwf)
 clear wL wW0 wT hA hwf hgl0 htl0 hgl hLC hAn hAl hAt hAf
 obtain ⟨sa, sc, ee⟩ := slice_of wS
 subst ee
 obtain ⟨n0, hn0⟩ : ∃ n, n = l0.length := ⟨_, rfl⟩
 rw [← hn0] at wS ⊢
 have hcap := capOf wS
 obtain ⟨l, hl⟩ : ∃ l, l = l0.take 40 := ⟨_, rfl⟩
 obtain ⟨n, hn⟩ : ∃ n, n = l.length := ⟨_, rfl⟩
 have hn40 : n ≤ 40 ∧ n ≤ n0 ∧ n = min n0 40 := by rw [hn, hl, List.length_take, ← hn0]; omega
 have hmin : (if 40 < (n0 : Int) then (40 : Int) else (n0 : Int)) = (n : Int) := by split <;> omega
 have hnc : n ≤ sc := by omega
 have hn40' := hn40.1
 have hS : Has w (.slice sa n sc) (dSteps l) := by
  have h := Holds.take (m := n) wS (by rw [List.length_map, ← hn0]; exact hn40.2.1)
  rw [← List.map_take] at h
  have e : l = l0.take n := by rw [hl, List.take_eq_take_min]; congr 1; rw [← hn0]; omega
  unfold dSteps
  rw [e]
  exact h
 have HS := Lib.hid hS
 have NL := Lib.hid hn
 clear wS hn0 hl hn hn40 hS hcap
 go_enter Try.func7, Try.ntmps7
 try simp only [List.append_eq, List.cons_append, List.nil_append]
 go_upto_region 1 with fail
 obtain ⟨y0, hy0⟩ : ∃ y, y = w.alloc (.cells #[.int .i64 N0, .slice ga0 gl0 gc, .slice ta0 tl0 tc0, .bool ff] 27) := ⟨_, rfl⟩
 have BA0 : Hid (Below w.heap.size w y0) := Lib.hid (by rw [hy0]; exact below_new _ _)
 have ka0 : BoxAt w.heap.size [.int .i64 N0, .slice ga0 gl0 gc, .slice ta0 tl0 tc0, .bool ff] y0 := by rw [hy0]; exact boxAt_new w [.int .i64 N0, .slice ga0 gl0 gc, .slice ta0 tl0 tc0, .bool ff] _
 have oa0 : OpenRow y0 w.heap.size 1 4 := by rw [hy0]; exact ⟨by decide, _, _, heap_alloc_new w _, rfl⟩
 have za : w.heap.size < y0.heap.size ∧ w.heap.size ≤ w.heap.size := by rw [hy0]; simp
 rw [← hy0]
 obtain ⟨ba, hba⟩ : ∃ b, b = w.heap.size := ⟨_, rfl⟩
 have za' : ba < y0.heap.size ∧ w.heap.size ≤ ba := by rw [hba]; exact za
 rw [← hba] at ka0 oa0 ⊢
 have KA0 := Lib.hid ka0
 have OA0 := Lib.hid oa0
 have ZA := Lib.hid za'
 clear hy0 ka0 oa0 za za' hba
 have p0 := KA0.out 0 _ rfl
 have p1 := KA0.out 1 _ rfl
 have p2 := KA0.out 2 _ rfl
 have p3 := KA0.out 3 _ rfl
 go_wp2_with fail
 clear p0 p1 p2 p3
 refine (lcut_at N0 L0 M0 ff _ _ _ (WL.out.below BA0.out) (WT.out.later BA0.out)).mono ?_
 rintro e z1 ⟨ga1, gc1, uT, he1, rfl, hT, hb⟩
 simp only [Value.slice.injEq] at he1
 obtain ⟨hga, hgx, hgc⟩ := he1
 clear hgx
 subst hga hgc
 rw [← GLE.out]
 obtain ⟨ta, tc, ee⟩ := slice_of hT.weak
 subst ee
 obtain ⟨tl, htl⟩ : ∃ n, n = (cutT M0).length := ⟨_, rfl⟩
 rw [← htl] at hT ⊢
 have TLE := Lib.hid htl
 have hO := OA0.out.same (SameOn.of_below (P := fun _ => True) hb) trivial ZA.out.1
 have hB := KA0.out.below hb
 have k0 := hB 0 _ rfl
 have k1 := hB 1 _ rfl
 have k2 := hB 2 _ rfl
 have k3 := hB 3 _ rfl
 have f0 := hO.frozen 0
 have f1 := hO.frozen 1
 have f2 := hO.frozen 2
 have f3 := hO.frozen 3
 have BZ := Lib.hid hb
 have HB := Lib.hid hB
 have HO := Lib.hid hO
 have HTZ := Lib.hid hT
 clear hb hB hO hT htl
 go_upto_region 2 with fail
 clear k0 k1 k2 k3 f0 f1 f2 f3
 obtain ⟨y1, hy⟩ : ∃ y, y = (((z1.setCell ⟨ba, 0, none⟩ (.int .i64 N0)).setCell ⟨ba, 1, none⟩ (.slice ga0 gl gc)).setCell ⟨ba, 2, none⟩ (.slice ta tl tc)).setCell ⟨ba, 3, none⟩ (.bool ff) := ⟨_, rfl⟩
 have ka : BoxAt ba [.int .i64 N0, .slice ga0 gl gc, .slice ta tl tc, .bool ff] y1 := by rw [hy]; exact boxAt_set (j := 3) (u := .bool ff) (boxAt_set (j := 2) (u := .slice ta tl tc) (boxAt_set (j := 1) (u := .slice ga0 gl gc) (boxAt_set (j := 0) (u := .int .i64 N0) HB.out)))
 have hbw : Below w.heap.size w y1 := by rw [hy]; exact ((((below_step' BA0.out BZ.out).setCell ZA.out.2 _).setCell ZA.out.2 _).setCell ZA.out.2 _).setCell ZA.out.2 _
 have ss : SameOn (fun q => q ≠ ba) z1 y1 := by rw [hy]; exact ((((SameOn.refl _ z1).set ⟨ba, 0, none⟩ _ (fun h => h rfl)).set ⟨ba, 1, none⟩ _ (fun h => h rfl)).set ⟨ba, 2, none⟩ _ (fun h => h rfl)).set ⟨ba, 3, none⟩ _ (fun h => h rfl)
 have ht : Has y1 (.slice ta tl tc) (dTab A.t) := by
  rw [AT.out]
  exact (HTZ.out.same (ss.sub (fun q (h : _ ≤ q) e => by subst e; have := ZA.out.1; omega))).weak
 rw [← hy]
 have KA := Lib.hid ka
 have LG : Hid (LinksAt y1 (.slice ga0 gl gc) A.l) := Lib.hid (by rw [AL.out]; exact HLC.out.below hbw)
 have HT := Lib.hid ht
 have BW := Lib.hid hbw
 have SS := Lib.hid ss
 clear hy ka hbw ss ht HB HO HTZ KA0 OA0
 go_upto_region 3 with fail
 have p0 := KA.out 0 _ rfl
 have p1 := KA.out 1 _ rfl
 have p2 := KA.out 2 _ rfl
 have p3 := KA.out 3 _ rfl
 go_wp2_with fail
 clear p0 p1 p2 p3
 refine (lapp_at N0 A.l A.t ff _ _ _ LG.out HT.out SMT.out).mono ?_
 rintro e z2 ⟨uT, rfl, hu, hb⟩
 obtain ⟨ua, uc, ee⟩ := slice_of hu
 subst ee
 obtain ⟨ul, hul⟩ : ∃ n, n = A.t.length := ⟨_, rfl⟩
 rw [← hul] at hu ⊢
 clear hul
 go_upto_region 4 with fail
 obtain ⟨y2, hy⟩ : ∃ y, y = z2.alloc (.cells #[.int .i64 N0, .slice ga0 gl gc, .slice ua ul uc, .bool ff] 38) := ⟨_, rfl⟩
 have hl2 : Below y1.heap.size y1 y2 := by rw [hy]; exact below_step' hb (below_new _ _)
 have kr : BoxAt z2.heap.size [.int .i64 N0, .slice ga0 gl gc, .slice ua ul uc, .bool ff] y2 := by rw [hy]; exact boxAt_new z2 [.int .i64 N0, .slice ga0 gl gc, .slice ua ul uc, .bool ff] _
 have hu2 : Has y2 (.slice ua ul uc) (dTab A.t) := by rw [hy]; exact hu.later (below_new _ _)
 rw [← hy]
 obtain ⟨br, hbr⟩ : ∃ b, b = z2.heap.size := ⟨_, rfl⟩
 rw [← hbr] at kr ⊢
 have KR := Lib.hid kr
 have UT := Lib.hid hu2
 replace KA := Lib.hid (KA.out.below hl2)
 replace LG := Lib.hid (LG.out.below hl2)
 replace HT := Lib.hid (HT.out.later hl2)
 replace BW := Lib.hid (below_step' BW.out hl2)
 clear hy hl2 kr hu2 hu hb hbr
 obtain ⟨tt, htt⟩ := bool_some (TabOK A.n A.l A.t)
 have TT := Lib.hid htt
 clear htt
 have p0 := KR.out 0 _ rfl
 have p1 := KR.out 1 _ rfl
 have p2 := KR.out 2 _ rfl
 go_wp2_with fail
 clear p0 p1 p2
 refine (rright4_at N0 _ A.l A.t _ tt _ UT.out LG.out (Nat.le_trans LN.out (by decide)) SMT.out (by rw [← AN.out]; exact TT.out)).mono ?_
 rintro e y3 ⟨rfl, hb⟩
 replace KA := Lib.hid (KA.out.below hb)
 replace LG := Lib.hid (LG.out.below hb)
 replace HT := Lib.hid (HT.out.later hb)
 replace BW := Lib.hid (below_step' BW.out hb)
 clear hb KR UT
 cases tt with
 | false =>
  go_wp2_with fail
  refine (fixed5_any _).mono ?_
  rintro e y4 ⟨rfl, hb⟩
  replace BW := Lib.hid (below_step' BW.out hb)
  clear hb
  go_wp2_with fail
  go_ret
  exact ⟨rfl, BW.out⟩
 | true =>
  have hTab := TT.out.1 rfl
  have HTab := Lib.hid hTab
  clear hTab
  obtain ⟨k, hk⟩ := Int.eq_ofNat_of_zero_le (show 0 ≤ a2 % ((n : Int) + 1) from Int.emod_nonneg _ (by omega))
  have hkn : k ≤ n := by have := Int.emod_lt_of_pos a2 (show (0 : Int) < (n : Int) + 1 by omega); omega
  go_upto_region 7 with fail
  have hN0 : N0 = A.n := AN.out.symm
  have hF0 : ff = A.ff := AF.out.symm
  rw [hN0, hF0] at KA ⊢
  rw [hk]
  clear hN0 hF0 hk
  have HS3 := Lib.hid (HS.out.later BW.out)
  have OK0 := Lib.hid (startOf_ok HTab.out)
  go_cut [9, 10, 11] from 43 to 51 (fun sp sn se wx => RanBox A (startOf A) l y3 sp sn se wx)
  case first =>
   refine wp_region_held_drew (S := (fun w' => w'.cell? ⟨ba, 0, none⟩ = some (.int .i64 A.n) ∧ w'.cell? ⟨ba, 1, none⟩ = some (.slice ga0 gl gc) ∧ w'.cell? ⟨ba, 2, none⟩ = some (.slice ta tl tc) ∧ w'.cell? ⟨ba, 3, none⟩ = some (.bool A.ff))) (by kernel_rfl) ?_ (fun hHeld => ?_)
   ·exact ⟨KA.out.below (below_drewN (Below.refl _ y3) 1) 0 _ rfl, KA.out.below (below_drewN (Below.refl _ y3) 1) 1 _ rfl, KA.out.below (below_drewN (Below.refl _ y3) 1) 2 _ rfl, KA.out.below (below_drewN (Below.refl _ y3) 1) 3 _ rfl⟩
   obtain ⟨yb, hyb⟩ : ∃ y, y = y3.drew := ⟨_, rfl⟩
   rw [← hyb] at hHeld ⊢
   refine tq 0 ?_
   refine tq 1 ?_
   refine tq 3 ?_
   have BYb : Hid (Below y3.heap.size y3 yb) := Lib.hid (by rw [hyb]; exact below_drewN (Below.refl _ y3) 1)
   clear hyb
   refine wpAnyH_ready (rs := [2, 9]) (by kernel_rfl) (by simp) ?_
   refine AllReadyH.cons rfl (fun K hK => ?_) (AllReadyH.cons rfl (fun K hK => ?_) AllReadyH.nil)
   ·go_simp
    refine (start_at A _ _ _ (LG.out.below BYb.out) (HT.out.later BYb.out) (Nat.le_trans LN.out (by decide)) (by have := HTab.out.2.1; have := HTab.out.1.2.1; omega)).mono ?_
    rintro e xS ⟨u1, u2, u3, rfl, hC, hb⟩
    obtain ⟨c1, c2, c3, m1, m2, m3, d1, d2, d3, ee1, ee2, ee3⟩ := cf_slices hC
    subst ee1
    subst ee2
    subst ee3
    have HC := Lib.hid hC.weak
    clear hC
    have BxS := Lib.hid hb
    have BYxS := Lib.hid (hb)
    clear hb
    go_wp2_with fail
    refine hK.out _ _ ?_ (fun hHeld => ?_)
    ·exact ⟨KA.out.below (below_step' BYb.out BYxS.out) 0 _ rfl, KA.out.below (below_step' BYb.out BYxS.out) 1 _ rfl, KA.out.below (below_step' BYb.out BYxS.out) 2 _ rfl, KA.out.below (below_step' BYb.out BYxS.out) 3 _ rfl⟩
    clear hK K
    try simp only [Act.put, List.getElem_toArray, List.getElem_cons_zero, List.getElem_cons_succ, List.setIfInBounds_toArray, List.set_cons_zero, List.set_cons_succ]
    refine wpAnyH_ready (rs := [4, 9]) (by kernel_rfl) (by simp) ?_
    refine AllReadyH.cons rfl (fun K hK => ?_) (AllReadyH.cons rfl (fun K hK => ?_) AllReadyH.nil)
    ·go_simp
     refine (run_at A (startOf A) l OK0.out SMT.out (small_ok OK0.out) _ _ _ _ _ _ _ (LG.out.below (below_step' BYb.out BYxS.out)) (HT.out.later (below_step' BYb.out BYxS.out)) (HC.out.later (Below.refl _ xS)) (HS3.out.later (below_step' BYb.out BYxS.out)) (by rw [← NL.out]; omega)).mono ?_
     rintro e xSR ⟨w1, w2, w3, rfl, hR, hb⟩
     obtain ⟨r1, r2, r3, o1, o2, o3, q1, q2, q3, ee1, ee2, ee3⟩ := cf_slices hR
     subst ee1
     subst ee2
     subst ee3
     have HR := Lib.hid hR
     clear hR
     have BxSR := Lib.hid hb
     have BYxSR := Lib.hid (below_step' BYxS.out hb)
     clear hb
     go_wp2_with fail
     refine hK.out _ _ ?_ (fun hHeld => ?_)
     ·exact ⟨KA.out.below (below_step' BYb.out BYxSR.out) 0 _ rfl, KA.out.below (below_step' BYb.out BYxSR.out) 1 _ rfl, KA.out.below (below_step' BYb.out BYxSR.out) 2 _ rfl, KA.out.below (below_step' BYb.out BYxSR.out) 3 _ rfl⟩
     clear hK K
     try simp only [Act.put, List.getElem_toArray, List.getElem_cons_zero, List.getElem_cons_succ, List.setIfInBounds_toArray, List.set_cons_zero, List.set_cons_succ]
     refine tq 5 ?_
     refine tq 6 ?_
     refine tq 7 ?_
     refine tq 8 ?_
     refine rd 9 fun K hK => ?_
     obtain ⟨xSRB, hx⟩ : ∃ x, x = xSR.alloc (.cells #[.slice none 0 0, .slice none 0 0, .slice none 0 0] 31) := ⟨_, rfl⟩
     have hb : Below xSR.heap.size xSR xSRB := by rw [hx]; exact below_new _ _
     have KB := Lib.hid (show BoxAt xSR.heap.size [.slice none 0 0, .slice none 0 0, .slice none 0 0] xSRB from by rw [hx]; exact boxAt_new xSR [.slice none 0 0, .slice none 0 0, .slice none 0 0] _)
     have OB : Hid (OpenRow xSRB xSR.heap.size 1 3) := Lib.hid (by rw [hx]; exact ⟨by decide, _, _, heap_alloc_new xSR _, rfl⟩)
     have PB : xSR.heap.size < xSRB.heap.size := by rw [hx]; simp
     obtain ⟨pb, hpb⟩ : ∃ p, p = xSR.heap.size := ⟨_, rfl⟩
     go_simp
     rw [← hx]
     rw [← hpb] at KB OB PB ⊢
     have HPB := Lib.hid hpb
     clear hx hpb
     have BxSRB := Lib.hid hb
     have BYxSRB := Lib.hid (below_step' BYxSR.out hb)
     clear hb
     refine hK.out _ _ ?_ (fun hHeld => ?_)
     ·exact ⟨KA.out.below (below_step' BYb.out BYxSRB.out) 0 _ rfl, KA.out.below (below_step' BYb.out BYxSRB.out) 1 _ rfl, KA.out.below (below_step' BYb.out BYxSRB.out) 2 _ rfl, KA.out.below (below_step' BYb.out BYxSRB.out) 3 _ rfl⟩
     clear hK K
     try simp only [Act.put, List.getElem_toArray, List.getElem_cons_zero, List.getElem_cons_succ, List.setIfInBounds_toArray, List.set_cons_zero, List.set_cons_succ]
     refine rd 10 fun K hK => ?_
     have hO := OB.out.same (SameOn.of_below (P := fun _ => True) (Below.refl _ xSRB)) trivial PB
     have hB := KB.out.below (Below.refl _ xSRB)
     have hH : HoldsL False (fun q => q ≠ pb) xSRB [.slice r1 o1 q1, .slice r2 o2 q2, .slice r3 o3 q3] (runOf A (startOf A) l).1.d := (HR.out.loose.wide (P' := fun q => q ≠ pb) (fun q h _ e => by have := HPB.out; omega)).later BxSRB.out
     have k0 := hB 0 _ rfl
     have k1 := hB 1 _ rfl
     have k2 := hB 2 _ rfl
     have f0 := hO.frozen 0
     have f1 := hO.frozen 1
     have f2 := hO.frozen 2
     have HB := Lib.hid hB
     have HH := Lib.hid hH
     clear hO hB hH
     go_simp
     clear k0 k1 k2 f0 f1 f2
     obtain ⟨w9, hw9⟩ : ∃ x, x = ((xSRB.setCell ⟨pb, 0, none⟩ (.slice r1 o1 q1)).setCell ⟨pb, 1, none⟩ (.slice r2 o2 q2)).setCell ⟨pb, 2, none⟩ (.slice r3 o3 q3) := ⟨_, rfl⟩
     have r9 : BoxAt pb [.slice r1 o1 q1, .slice r2 o2 q2, .slice r3 o3 q3] w9 := by rw [hw9]; exact boxAt_set (j := 2) (u := .slice r3 o3 q3) (boxAt_set (j := 1) (u := .slice r2 o2 q2) (boxAt_set (j := 0) (u := .slice r1 o1 q1) HB.out))
     have hpy : y3.heap.size ≤ pb := by have := HPB.out; have := BYb.out.size; have := BYxSR.out.size; omega
     have b9 : Below y3.heap.size y3 w9 := by rw [hw9]; exact ((((below_step' BYb.out BYxSRB.out).setCell hpy _).setCell hpy _).setCell hpy _)
     have h9 : HasL w9 [.slice r1 o1 q1, .slice r2 o2 q2, .slice r3 o3 q3] (runOf A (startOf A) l).1.d := by rw [hw9]; exact (HH.out.same ((((SameOn.refl _ xSRB).set ⟨pb, 0, none⟩ _ (fun h => h rfl)).set ⟨pb, 1, none⟩ _ (fun h => h rfl)).set ⟨pb, 2, none⟩ _ (fun h => h rfl))).weak
     rw [← hw9]
     have R9 := Lib.hid r9
     have B9 := Lib.hid b9
     have H9 := Lib.hid h9
     have PY := Lib.hid hpy
     clear hw9 r9 b9 h9 hpy HB HH
     refine hK.out _ _ ?_ (fun hHeld => ?_)
     ·exact ⟨KA.out.below B9.out 0 _ rfl, KA.out.below B9.out 1 _ rfl, KA.out.below B9.out 2 _ rfl, KA.out.below B9.out 3 _ rfl⟩
     clear hK K
     try simp only [Act.put, List.getElem_toArray, List.getElem_cons_zero, List.getElem_cons_succ, List.setIfInBounds_toArray, List.set_cons_zero, List.set_cons_succ]
     refine tq 11 ?_
     refine tq 12 ?_
     refine wpAnyH_done (by kernel_rfl) ?_ _
     go_wp2_with fail
     go_meet
     exact ⟨pb, r1, r2, r3, o1, o2, o3, q1, q2, q3, rfl, rfl, rfl, R9.out, H9.out, B9.out⟩
    ·obtain ⟨xSB, hx⟩ : ∃ x, x = xS.alloc (.cells #[.slice none 0 0, .slice none 0 0, .slice none 0 0] 31) := ⟨_, rfl⟩
     have hb : Below xS.heap.size xS xSB := by rw [hx]; exact below_new _ _
     have KB := Lib.hid (show BoxAt xS.heap.size [.slice none 0 0, .slice none 0 0, .slice none 0 0] xSB from by rw [hx]; exact boxAt_new xS [.slice none 0 0, .slice none 0 0, .slice none 0 0] _)
     have OB : Hid (OpenRow xSB xS.heap.size 1 3) := Lib.hid (by rw [hx]; exact ⟨by decide, _, _, heap_alloc_new xS _, rfl⟩)
     have PB : xS.heap.size < xSB.heap.size := by rw [hx]; simp
     obtain ⟨pb, hpb⟩ : ∃ p, p = xS.heap.size := ⟨_, rfl⟩
     go_simp
     rw [← hx]
     rw [← hpb] at KB OB PB ⊢
     have HPB := Lib.hid hpb
     clear hx hpb
     have BxSB := Lib.hid hb
     have BYxSB := Lib.hid (below_step' BYxS.out hb)
     clear hb
     refine hK.out _ _ ?_ (fun hHeld => ?_)
     ·exact ⟨KA.out.below (below_step' BYb.out BYxSB.out) 0 _ rfl, KA.out.below (below_step' BYb.out BYxSB.out) 1 _ rfl, KA.out.below (below_step' BYb.out BYxSB.out) 2 _ rfl, KA.out.below (below_step' BYb.out BYxSB.out) 3 _ rfl⟩
     clear hK K
     try simp only [Act.put, List.getElem_toArray, List.getElem_cons_zero, List.getElem_cons_succ, List.setIfInBounds_toArray, List.set_cons_zero, List.set_cons_succ]
     refine rd 4 fun K hK => ?_
     go_simp
     refine (run_at A (startOf A) l OK0.out SMT.out (small_ok OK0.out) _ _ _ _ _ _ _ (LG.out.below (below_step' BYb.out BYxSB.out)) (HT.out.later (below_step' BYb.out BYxSB.out)) (HC.out.later BxSB.out) (HS3.out.later (below_step' BYb.out BYxSB.out)) (by rw [← NL.out]; omega)).mono ?_
     rintro e xSBR ⟨w1, w2, w3, rfl, hR, hb⟩
     obtain ⟨r1, r2, r3, o1, o2, o3, q1, q2, q3, ee1, ee2, ee3⟩ := cf_slices hR
     subst ee1
     subst ee2
     subst ee3
     have HR := Lib.hid hR
     clear hR
     have BxSBR := Lib.hid hb
     have BYxSBR := Lib.hid (below_step' BYxSB.out hb)
     clear hb
     go_wp2_with fail
     refine hK.out _ _ ?_ (fun hHeld => ?_)
     ·exact ⟨KA.out.below (below_step' BYb.out BYxSBR.out) 0 _ rfl, KA.out.below (below_step' BYb.out BYxSBR.out) 1 _ rfl, KA.out.below (below_step' BYb.out BYxSBR.out) 2 _ rfl, KA.out.below (below_step' BYb.out BYxSBR.out) 3 _ rfl⟩
     clear hK K
     try simp only [Act.put, List.getElem_toArray, List.getElem_cons_zero, List.getElem_cons_succ, List.setIfInBounds_toArray, List.set_cons_zero, List.set_cons_succ]
     refine tq 5 ?_
     refine tq 6 ?_
     refine tq 7 ?_
     refine tq 8 ?_
     refine rd 10 fun K hK => ?_
     have hO := OB.out.same (SameOn.of_below (P := fun _ => True) BxSBR.out) trivial PB
     have hB := KB.out.below BxSBR.out
     have hz : xSB.heap.size ≤ xSB.heap.size := Nat.le_refl _
     have hH : HoldsL False (fun q => q ≠ pb) xSBR [.slice r1 o1 q1, .slice r2 o2 q2, .slice r3 o3 q3] (runOf A (startOf A) l).1.d := HR.out.loose.wide (fun q _ h e => by have h : xSB.heap.size ≤ q := h; omega)
     have k0 := hB 0 _ rfl
     have k1 := hB 1 _ rfl
     have k2 := hB 2 _ rfl
     have f0 := hO.frozen 0
     have f1 := hO.frozen 1
     have f2 := hO.frozen 2
     have HB := Lib.hid hB
     have HH := Lib.hid hH
     clear hO hB hH
     go_simp
     clear k0 k1 k2 f0 f1 f2
     obtain ⟨w9, hw9⟩ : ∃ x, x = ((xSBR.setCell ⟨pb, 0, none⟩ (.slice r1 o1 q1)).setCell ⟨pb, 1, none⟩ (.slice r2 o2 q2)).setCell ⟨pb, 2, none⟩ (.slice r3 o3 q3) := ⟨_, rfl⟩
     have r9 : BoxAt pb [.slice r1 o1 q1, .slice r2 o2 q2, .slice r3 o3 q3] w9 := by rw [hw9]; exact boxAt_set (j := 2) (u := .slice r3 o3 q3) (boxAt_set (j := 1) (u := .slice r2 o2 q2) (boxAt_set (j := 0) (u := .slice r1 o1 q1) HB.out))
     have hpy : y3.heap.size ≤ pb := by have := HPB.out; have := BYb.out.size; have := BYxS.out.size; omega
     have b9 : Below y3.heap.size y3 w9 := by rw [hw9]; exact ((((below_step' BYb.out BYxSBR.out).setCell hpy _).setCell hpy _).setCell hpy _)
     have h9 : HasL w9 [.slice r1 o1 q1, .slice r2 o2 q2, .slice r3 o3 q3] (runOf A (startOf A) l).1.d := by rw [hw9]; exact (HH.out.same ((((SameOn.refl _ xSBR).set ⟨pb, 0, none⟩ _ (fun h => h rfl)).set ⟨pb, 1, none⟩ _ (fun h => h rfl)).set ⟨pb, 2, none⟩ _ (fun h => h rfl))).weak
     rw [← hw9]
     have R9 := Lib.hid r9
     have B9 := Lib.hid b9
     have H9 := Lib.hid h9
     have PY := Lib.hid hpy
     clear hw9 r9 b9 h9 hpy HB HH
     refine hK.out _ _ ?_ (fun hHeld => ?_)
     ·exact ⟨KA.out.below B9.out 0 _ rfl, KA.out.below B9.out 1 _ rfl, KA.out.below B9.out 2 _ rfl, KA.out.below B9.out 3 _ rfl⟩
     clear hK K
     try simp only [Act.put, List.getElem_toArray, List.getElem_cons_zero, List.getElem_cons_succ, List.setIfInBounds_toArray, List.set_cons_zero, List.set_cons_succ]
     refine tq 11 ?_
     refine tq 12 ?_
     refine wpAnyH_done (by kernel_rfl) ?_ _
     go_wp2_with fail
     go_meet
     exact ⟨pb, r1, r2, r3, o1, o2, o3, q1, q2, q3, rfl, rfl, rfl, R9.out, H9.out, B9.out⟩
   ·obtain ⟨xB, hx⟩ : ∃ x, x = yb.alloc (.cells #[.slice none 0 0, .slice none 0 0, .slice none 0 0] 31) := ⟨_, rfl⟩
    have hb : Below yb.heap.size yb xB := by rw [hx]; exact below_new _ _
    have KB := Lib.hid (show BoxAt yb.heap.size [.slice none 0 0, .slice none 0 0, .slice none 0 0] xB from by rw [hx]; exact boxAt_new yb [.slice none 0 0, .slice none 0 0, .slice none 0 0] _)
    have OB : Hid (OpenRow xB yb.heap.size 1 3) := Lib.hid (by rw [hx]; exact ⟨by decide, _, _, heap_alloc_new yb _, rfl⟩)
    have PB : yb.heap.size < xB.heap.size := by rw [hx]; simp
    obtain ⟨pb, hpb⟩ : ∃ p, p = yb.heap.size := ⟨_, rfl⟩
    go_simp
    rw [← hx]
    rw [← hpb] at KB OB PB ⊢
    have HPB := Lib.hid hpb
    clear hx hpb
    have BxB := Lib.hid hb
    have BYxB := Lib.hid (hb)
    clear hb
    refine hK.out _ _ ?_ (fun hHeld => ?_)
    ·exact ⟨KA.out.below (below_step' BYb.out BYxB.out) 0 _ rfl, KA.out.below (below_step' BYb.out BYxB.out) 1 _ rfl, KA.out.below (below_step' BYb.out BYxB.out) 2 _ rfl, KA.out.below (below_step' BYb.out BYxB.out) 3 _ rfl⟩
    clear hK K
    try simp only [Act.put, List.getElem_toArray, List.getElem_cons_zero, List.getElem_cons_succ, List.setIfInBounds_toArray, List.set_cons_zero, List.set_cons_succ]
    refine rd 2 fun K hK => ?_
    go_simp
    refine (start_at A _ _ _ (LG.out.below (below_step' BYb.out BYxB.out)) (HT.out.later (below_step' BYb.out BYxB.out)) (Nat.le_trans LN.out (by decide)) (by have := HTab.out.2.1; have := HTab.out.1.2.1; omega)).mono ?_
    rintro e xBS ⟨u1, u2, u3, rfl, hC, hb⟩
    obtain ⟨c1, c2, c3, m1, m2, m3, d1, d2, d3, ee1, ee2, ee3⟩ := cf_slices hC
    subst ee1
    subst ee2
    subst ee3
    have HC := Lib.hid hC.weak
    clear hC
    have BxBS := Lib.hid hb
    have BYxBS := Lib.hid (below_step' BYxB.out hb)
    clear hb
    go_wp2_with fail
    refine hK.out _ _ ?_ (fun hHeld => ?_)
    ·exact ⟨KA.out.below (below_step' BYb.out BYxBS.out) 0 _ rfl, KA.out.below (below_step' BYb.out BYxBS.out) 1 _ rfl, KA.out.below (below_step' BYb.out BYxBS.out) 2 _ rfl, KA.out.below (below_step' BYb.out BYxBS.out) 3 _ rfl⟩
    clear hK K
    try simp only [Act.put, List.getElem_toArray, List.getElem_cons_zero, List.getElem_cons_succ, List.setIfInBounds_toArray, List.set_cons_zero, List.set_cons_succ]
    refine rd 4 fun K hK => ?_
    go_simp
    refine (run_at A (startOf A) l OK0.out SMT.out (small_ok OK0.out) _ _ _ _ _ _ _ (LG.out.below (below_step' BYb.out BYxBS.out)) (HT.out.later (below_step' BYb.out BYxBS.out)) (HC.out.later (Below.refl _ xBS)) (HS3.out.later (below_step' BYb.out BYxBS.out)) (by rw [← NL.out]; omega)).mono ?_
    rintro e xBSR ⟨w1, w2, w3, rfl, hR, hb⟩
    obtain ⟨r1, r2, r3, o1, o2, o3, q1, q2, q3, ee1, ee2, ee3⟩ := cf_slices hR
    subst ee1
    subst ee2
    subst ee3
    have HR := Lib.hid hR
    clear hR
    have BxBSR := Lib.hid hb
    have BYxBSR := Lib.hid (below_step' BYxBS.out hb)
    clear hb
    go_wp2_with fail
    refine hK.out _ _ ?_ (fun hHeld => ?_)
    ·exact ⟨KA.out.below (below_step' BYb.out BYxBSR.out) 0 _ rfl, KA.out.below (below_step' BYb.out BYxBSR.out) 1 _ rfl, KA.out.below (below_step' BYb.out BYxBSR.out) 2 _ rfl, KA.out.below (below_step' BYb.out BYxBSR.out) 3 _ rfl⟩
    clear hK K
    try simp only [Act.put, List.getElem_toArray, List.getElem_cons_zero, List.getElem_cons_succ, List.setIfInBounds_toArray, List.set_cons_zero, List.set_cons_succ]
    refine tq 5 ?_
    refine tq 6 ?_
    refine tq 7 ?_
    refine tq 8 ?_
    refine rd 10 fun K hK => ?_
    have hO := OB.out.same (SameOn.of_below (P := fun _ => True) (below_step' BxBS.out BxBSR.out)) trivial PB
    have hB := KB.out.below (below_step' BxBS.out BxBSR.out)
    have hz : xB.heap.size ≤ xBS.heap.size := (BxBS.out).size
    have hH : HoldsL False (fun q => q ≠ pb) xBSR [.slice r1 o1 q1, .slice r2 o2 q2, .slice r3 o3 q3] (runOf A (startOf A) l).1.d := HR.out.loose.wide (fun q _ h e => by have h : xBS.heap.size ≤ q := h; omega)
    have k0 := hB 0 _ rfl
    have k1 := hB 1 _ rfl
    have k2 := hB 2 _ rfl
    have f0 := hO.frozen 0
    have f1 := hO.frozen 1
    have f2 := hO.frozen 2
    have HB := Lib.hid hB
    have HH := Lib.hid hH
    clear hO hB hH
    go_simp
    clear k0 k1 k2 f0 f1 f2
    obtain ⟨w9, hw9⟩ : ∃ x, x = ((xBSR.setCell ⟨pb, 0, none⟩ (.slice r1 o1 q1)).setCell ⟨pb, 1, none⟩ (.slice r2 o2 q2)).setCell ⟨pb, 2, none⟩ (.slice r3 o3 q3) := ⟨_, rfl⟩
    have r9 : BoxAt pb [.slice r1 o1 q1, .slice r2 o2 q2, .slice r3 o3 q3] w9 := by rw [hw9]; exact boxAt_set (j := 2) (u := .slice r3 o3 q3) (boxAt_set (j := 1) (u := .slice r2 o2 q2) (boxAt_set (j := 0) (u := .slice r1 o1 q1) HB.out))
    have hpy : y3.heap.size ≤ pb := by have := HPB.out; have := BYb.out.size; omega
    have b9 : Below y3.heap.size y3 w9 := by rw [hw9]; exact ((((below_step' BYb.out BYxBSR.out).setCell hpy _).setCell hpy _).setCell hpy _)
    have h9 : HasL w9 [.slice r1 o1 q1, .slice r2 o2 q2, .slice r3 o3 q3] (runOf A (startOf A) l).1.d := by rw [hw9]; exact (HH.out.same ((((SameOn.refl _ xBSR).set ⟨pb, 0, none⟩ _ (fun h => h rfl)).set ⟨pb, 1, none⟩ _ (fun h => h rfl)).set ⟨pb, 2, none⟩ _ (fun h => h rfl))).weak
    rw [← hw9]
    have R9 := Lib.hid r9
    have B9 := Lib.hid b9
    have H9 := Lib.hid h9
    have PY := Lib.hid hpy
    clear hw9 r9 b9 h9 hpy HB HH
    refine hK.out _ _ ?_ (fun hHeld => ?_)
    ·exact ⟨KA.out.below B9.out 0 _ rfl, KA.out.below B9.out 1 _ rfl, KA.out.below B9.out 2 _ rfl, KA.out.below B9.out 3 _ rfl⟩
    clear hK K
    try simp only [Act.put, List.getElem_toArray, List.getElem_cons_zero, List.getElem_cons_succ, List.setIfInBounds_toArray, List.set_cons_zero, List.set_cons_succ]
    refine tq 11 ?_
    refine tq 12 ?_
    refine wpAnyH_done (by kernel_rfl) ?_ _
    go_wp2_with fail
    go_meet
    exact ⟨pb, r1, r2, r3, o1, o2, o3, q1, q2, q3, rfl, rfl, rfl, R9.out, H9.out, B9.out⟩
  case rest =>
   obtain ⟨bC, Ca1, Ca2, Ca3, Cn1, Cn2, Cn3, Ce1, Ce2, Ce3, ee1, ee2, ee3, hk, hh, hb⟩ := hcut
   subst ee1
   obtain ⟨NC, hN⟩ : ∃ q, q = (runOf A (startOf A) l).2.1 := ⟨_, rfl⟩
   obtain ⟨EC, hE⟩ : ∃ q, q = (runOf A (startOf A) l).2.2 := ⟨_, rfl⟩
   rw [← hN] at ee2
   rw [← hE] at ee3
   subst ee2
   subst ee3
   have NEC := Lib.hid hN
   have EEC := Lib.hid hE
   obtain ⟨y4, hy⟩ : ∃ y, y = wc := ⟨_, rfl⟩
   rw [← hy] at hk hh hb ⊢
   clear hy hN hE
   replace KA := Lib.hid (KA.out.below hb)
   replace LG := Lib.hid (LG.out.below hb)
   replace HT := Lib.hid (HT.out.later hb)
   replace BW := Lib.hid (below_step' BW.out hb)
   have KC := Lib.hid hk
   have CC := Lib.hid hh
   clear hk hh hb
   go_upto_region 8 with fail
   have HSk : Hid (Has y4 (.slice sa k sc) (dSteps (l.take k))) := Lib.hid (by
    have h := Holds.take (m := k) (HS.out.later BW.out) (by rw [List.length_map, ← NL.out]; exact hkn)
    rw [← List.map_take] at h
    exact h)
   have hksc : k ≤ sc := by omega
   have hksc' : (k : Int) ≤ sc := by omega
   go_cut [12, 13, 14] from 52 to 62 (fun sp sn se wx => RanBox A (startOf A) (l.take k) y4 sp sn se wx)
   case first =>
    refine wp_region_held_drew (S := (fun w' => w'.cell? ⟨ba, 0, none⟩ = some (.int .i64 A.n) ∧ w'.cell? ⟨ba, 1, none⟩ = some (.slice ga0 gl gc) ∧ w'.cell? ⟨ba, 2, none⟩ = some (.slice ta tl tc) ∧ w'.cell? ⟨ba, 3, none⟩ = some (.bool A.ff))) (by kernel_rfl) ?_ (fun hHeld => ?_)
    ·exact ⟨KA.out.below (below_drewN (Below.refl _ y4) 1) 0 _ rfl, KA.out.below (below_drewN (Below.refl _ y4) 1) 1 _ rfl, KA.out.below (below_drewN (Below.refl _ y4) 1) 2 _ rfl, KA.out.below (below_drewN (Below.refl _ y4) 1) 3 _ rfl⟩
    obtain ⟨yb, hyb⟩ : ∃ y, y = y4.drew := ⟨_, rfl⟩
    rw [← hyb] at hHeld ⊢
    refine tq 0 ?_
    refine tq 1 ?_
    refine tq 3 ?_
    refine tq 4 ?_
    refine tq 5 ?_
    have BYb : Hid (Below y4.heap.size y4 yb) := Lib.hid (by rw [hyb]; exact below_drewN (Below.refl _ y4) 1)
    clear hyb
    refine wpAnyH_ready (rs := [2, 11]) (by kernel_rfl) (by simp) ?_
    refine AllReadyH.cons rfl (fun K hK => ?_) (AllReadyH.cons rfl (fun K hK => ?_) AllReadyH.nil)
    ·go_simp
     refine (start_at A _ _ _ (LG.out.below BYb.out) (HT.out.later BYb.out) (Nat.le_trans LN.out (by decide)) (by have := HTab.out.2.1; have := HTab.out.1.2.1; omega)).mono ?_
     rintro e xS ⟨u1, u2, u3, rfl, hC, hb⟩
     obtain ⟨c1, c2, c3, m1, m2, m3, d1, d2, d3, ee1, ee2, ee3⟩ := cf_slices hC
     subst ee1
     subst ee2
     subst ee3
     have HC := Lib.hid hC.weak
     clear hC
     have BxS := Lib.hid hb
     have BYxS := Lib.hid (hb)
     clear hb
     go_wp2_with fail
     refine hK.out _ _ ?_ (fun hHeld => ?_)
     ·exact ⟨KA.out.below (below_step' BYb.out BYxS.out) 0 _ rfl, KA.out.below (below_step' BYb.out BYxS.out) 1 _ rfl, KA.out.below (below_step' BYb.out BYxS.out) 2 _ rfl, KA.out.below (below_step' BYb.out BYxS.out) 3 _ rfl⟩
     clear hK K
     try simp only [Act.put, List.getElem_toArray, List.getElem_cons_zero, List.getElem_cons_succ, List.setIfInBounds_toArray, List.set_cons_zero, List.set_cons_succ]
     refine wpAnyH_ready (rs := [6, 11]) (by kernel_rfl) (by simp) ?_
     refine AllReadyH.cons rfl (fun K hK => ?_) (AllReadyH.cons rfl (fun K hK => ?_) AllReadyH.nil)
     ·go_simp
      refine (run_at A (startOf A) (l.take k) OK0.out SMT.out (small_ok OK0.out) _ _ _ _ _ _ _ (LG.out.below (below_step' BYb.out BYxS.out)) (HT.out.later (below_step' BYb.out BYxS.out)) (HC.out.later (Below.refl _ xS)) (HSk.out.later (below_step' BYb.out BYxS.out)) (by rw [List.length_take]; omega)).mono ?_
      rintro e xSR ⟨w1, w2, w3, rfl, hR, hb⟩
      obtain ⟨r1, r2, r3, o1, o2, o3, q1, q2, q3, ee1, ee2, ee3⟩ := cf_slices hR
      subst ee1
      subst ee2
      subst ee3
      have HR := Lib.hid hR
      clear hR
      have BxSR := Lib.hid hb
      have BYxSR := Lib.hid (below_step' BYxS.out hb)
      clear hb
      go_wp2_with fail
      refine hK.out _ _ ?_ (fun hHeld => ?_)
      ·exact ⟨KA.out.below (below_step' BYb.out BYxSR.out) 0 _ rfl, KA.out.below (below_step' BYb.out BYxSR.out) 1 _ rfl, KA.out.below (below_step' BYb.out BYxSR.out) 2 _ rfl, KA.out.below (below_step' BYb.out BYxSR.out) 3 _ rfl⟩
      clear hK K
      try simp only [Act.put, List.getElem_toArray, List.getElem_cons_zero, List.getElem_cons_succ, List.setIfInBounds_toArray, List.set_cons_zero, List.set_cons_succ]
      refine tq 7 ?_
      refine tq 8 ?_
      refine tq 9 ?_
      refine tq 10 ?_
      refine rd 11 fun K hK => ?_
      obtain ⟨xSRB, hx⟩ : ∃ x, x = xSR.alloc (.cells #[.slice none 0 0, .slice none 0 0, .slice none 0 0] 31) := ⟨_, rfl⟩
      have hb : Below xSR.heap.size xSR xSRB := by rw [hx]; exact below_new _ _
      have KB := Lib.hid (show BoxAt xSR.heap.size [.slice none 0 0, .slice none 0 0, .slice none 0 0] xSRB from by rw [hx]; exact boxAt_new xSR [.slice none 0 0, .slice none 0 0, .slice none 0 0] _)
      have OB : Hid (OpenRow xSRB xSR.heap.size 1 3) := Lib.hid (by rw [hx]; exact ⟨by decide, _, _, heap_alloc_new xSR _, rfl⟩)
      have PB : xSR.heap.size < xSRB.heap.size := by rw [hx]; simp
      obtain ⟨pb, hpb⟩ : ∃ p, p = xSR.heap.size := ⟨_, rfl⟩
      go_simp
      rw [← hx]
      rw [← hpb] at KB OB PB ⊢
      have HPB := Lib.hid hpb
      clear hx hpb
      have BxSRB := Lib.hid hb
      have BYxSRB := Lib.hid (below_step' BYxSR.out hb)
      clear hb
      refine hK.out _ _ ?_ (fun hHeld => ?_)
      ·exact ⟨KA.out.below (below_step' BYb.out BYxSRB.out) 0 _ rfl, KA.out.below (below_step' BYb.out BYxSRB.out) 1 _ rfl, KA.out.below (below_step' BYb.out BYxSRB.out) 2 _ rfl, KA.out.below (below_step' BYb.out BYxSRB.out) 3 _ rfl⟩
      clear hK K
      try simp only [Act.put, List.getElem_toArray, List.getElem_cons_zero, List.getElem_cons_succ, List.setIfInBounds_toArray, List.set_cons_zero, List.set_cons_succ]
      refine rd 12 fun K hK => ?_
      have hO := OB.out.same (SameOn.of_below (P := fun _ => True) (Below.refl _ xSRB)) trivial PB
      have hB := KB.out.below (Below.refl _ xSRB)
      have hH : HoldsL False (fun q => q ≠ pb) xSRB [.slice r1 o1 q1, .slice r2 o2 q2, .slice r3 o3 q3] (runOf A (startOf A) (l.take k)).1.d := (HR.out.loose.wide (P' := fun q => q ≠ pb) (fun q h _ e => by have := HPB.out; omega)).later BxSRB.out
      have k0 := hB 0 _ rfl
      have k1 := hB 1 _ rfl
      have k2 := hB 2 _ rfl
      have f0 := hO.frozen 0
      have f1 := hO.frozen 1
      have f2 := hO.frozen 2
      have HB := Lib.hid hB
      have HH := Lib.hid hH
      clear hO hB hH
      go_simp
      clear k0 k1 k2 f0 f1 f2
      obtain ⟨w9, hw9⟩ : ∃ x, x = ((xSRB.setCell ⟨pb, 0, none⟩ (.slice r1 o1 q1)).setCell ⟨pb, 1, none⟩ (.slice r2 o2 q2)).setCell ⟨pb, 2, none⟩ (.slice r3 o3 q3) := ⟨_, rfl⟩
      have r9 : BoxAt pb [.slice r1 o1 q1, .slice r2 o2 q2, .slice r3 o3 q3] w9 := by rw [hw9]; exact boxAt_set (j := 2) (u := .slice r3 o3 q3) (boxAt_set (j := 1) (u := .slice r2 o2 q2) (boxAt_set (j := 0) (u := .slice r1 o1 q1) HB.out))
      have hpy : y4.heap.size ≤ pb := by have := HPB.out; have := BYb.out.size; have := BYxSR.out.size; omega
      have b9 : Below y4.heap.size y4 w9 := by rw [hw9]; exact ((((below_step' BYb.out BYxSRB.out).setCell hpy _).setCell hpy _).setCell hpy _)
      have h9 : HasL w9 [.slice r1 o1 q1, .slice r2 o2 q2, .slice r3 o3 q3] (runOf A (startOf A) (l.take k)).1.d := by rw [hw9]; exact (HH.out.same ((((SameOn.refl _ xSRB).set ⟨pb, 0, none⟩ _ (fun h => h rfl)).set ⟨pb, 1, none⟩ _ (fun h => h rfl)).set ⟨pb, 2, none⟩ _ (fun h => h rfl))).weak
      rw [← hw9]
      have R9 := Lib.hid r9
      have B9 := Lib.hid b9
      have H9 := Lib.hid h9
      have PY := Lib.hid hpy
      clear hw9 r9 b9 h9 hpy HB HH
      refine hK.out _ _ ?_ (fun hHeld => ?_)
      ·exact ⟨KA.out.below B9.out 0 _ rfl, KA.out.below B9.out 1 _ rfl, KA.out.below B9.out 2 _ rfl, KA.out.below B9.out 3 _ rfl⟩
      clear hK K
      try simp only [Act.put, List.getElem_toArray, List.getElem_cons_zero, List.getElem_cons_succ, List.setIfInBounds_toArray, List.set_cons_zero, List.set_cons_succ]
      refine tq 13 ?_
      refine tq 14 ?_
      refine wpAnyH_done (by kernel_rfl) ?_ _
      go_wp2_with fail
      go_meet
      exact ⟨pb, r1, r2, r3, o1, o2, o3, q1, q2, q3, rfl, rfl, rfl, R9.out, H9.out, B9.out⟩
     ·obtain ⟨xSB, hx⟩ : ∃ x, x = xS.alloc (.cells #[.slice none 0 0, .slice none 0 0, .slice none 0 0] 31) := ⟨_, rfl⟩
      have hb : Below xS.heap.size xS xSB := by rw [hx]; exact below_new _ _
      have KB := Lib.hid (show BoxAt xS.heap.size [.slice none 0 0, .slice none 0 0, .slice none 0 0] xSB from by rw [hx]; exact boxAt_new xS [.slice none 0 0, .slice none 0 0, .slice none 0 0] _)
      have OB : Hid (OpenRow xSB xS.heap.size 1 3) := Lib.hid (by rw [hx]; exact ⟨by decide, _, _, heap_alloc_new xS _, rfl⟩)
      have PB : xS.heap.size < xSB.heap.size := by rw [hx]; simp
      obtain ⟨pb, hpb⟩ : ∃ p, p = xS.heap.size := ⟨_, rfl⟩
      go_simp
      rw [← hx]
      rw [← hpb] at KB OB PB ⊢
      have HPB := Lib.hid hpb
      clear hx hpb
      have BxSB := Lib.hid hb
      have BYxSB := Lib.hid (below_step' BYxS.out hb)
      clear hb
      refine hK.out _ _ ?_ (fun hHeld => ?_)
      ·exact ⟨KA.out.below (below_step' BYb.out BYxSB.out) 0 _ rfl, KA.out.below (below_step' BYb.out BYxSB.out) 1 _ rfl, KA.out.below (below_step' BYb.out BYxSB.out) 2 _ rfl, KA.out.below (below_step' BYb.out BYxSB.out) 3 _ rfl⟩
      clear hK K
      try simp only [Act.put, List.getElem_toArray, List.getElem_cons_zero, List.getElem_cons_succ, List.setIfInBounds_toArray, List.set_cons_zero, List.set_cons_succ]
      refine rd 6 fun K hK => ?_
      go_simp
      refine (run_at A (startOf A) (l.take k) OK0.out SMT.out (small_ok OK0.out) _ _ _ _ _ _ _ (LG.out.below (below_step' BYb.out BYxSB.out)) (HT.out.later (below_step' BYb.out BYxSB.out)) (HC.out.later BxSB.out) (HSk.out.later (below_step' BYb.out BYxSB.out)) (by rw [List.length_take]; omega)).mono ?_
      rintro e xSBR ⟨w1, w2, w3, rfl, hR, hb⟩
      obtain ⟨r1, r2, r3, o1, o2, o3, q1, q2, q3, ee1, ee2, ee3⟩ := cf_slices hR
      subst ee1
      subst ee2
      subst ee3
      have HR := Lib.hid hR
      clear hR
      have BxSBR := Lib.hid hb
      have BYxSBR := Lib.hid (below_step' BYxSB.out hb)
      clear hb
      go_wp2_with fail
      refine hK.out _ _ ?_ (fun hHeld => ?_)
      ·exact ⟨KA.out.below (below_step' BYb.out BYxSBR.out) 0 _ rfl, KA.out.below (below_step' BYb.out BYxSBR.out) 1 _ rfl, KA.out.below (below_step' BYb.out BYxSBR.out) 2 _ rfl, KA.out.below (below_step' BYb.out BYxSBR.out) 3 _ rfl⟩
      clear hK K
      try simp only [Act.put, List.getElem_toArray, List.getElem_cons_zero, List.getElem_cons_succ, List.setIfInBounds_toArray, List.set_cons_zero, List.set_cons_succ]
      refine tq 7 ?_
      refine tq 8 ?_
      refine tq 9 ?_
      refine tq 10 ?_
      refine rd 12 fun K hK => ?_
      have hO := OB.out.same (SameOn.of_below (P := fun _ => True) BxSBR.out) trivial PB
      have hB := KB.out.below BxSBR.out
      have hz : xSB.heap.size ≤ xSB.heap.size := Nat.le_refl _
      have hH : HoldsL False (fun q => q ≠ pb) xSBR [.slice r1 o1 q1, .slice r2 o2 q2, .slice r3 o3 q3] (runOf A (startOf A) (l.take k)).1.d := HR.out.loose.wide (fun q _ h e => by have h : xSB.heap.size ≤ q := h; omega)
      have k0 := hB 0 _ rfl
      have k1 := hB 1 _ rfl
      have k2 := hB 2 _ rfl
      have f0 := hO.frozen 0
      have f1 := hO.frozen 1
      have f2 := hO.frozen 2
      have HB := Lib.hid hB
      have HH := Lib.hid hH
      clear hO hB hH
      go_simp
      clear k0 k1 k2 f0 f1 f2
      obtain ⟨w9, hw9⟩ : ∃ x, x = ((xSBR.setCell ⟨pb, 0, none⟩ (.slice r1 o1 q1)).setCell ⟨pb, 1, none⟩ (.slice r2 o2 q2)).setCell ⟨pb, 2, none⟩ (.slice r3 o3 q3) := ⟨_, rfl⟩
      have r9 : BoxAt pb [.slice r1 o1 q1, .slice r2 o2 q2, .slice r3 o3 q3] w9 := by rw [hw9]; exact boxAt_set (j := 2) (u := .slice r3 o3 q3) (boxAt_set (j := 1) (u := .slice r2 o2 q2) (boxAt_set (j := 0) (u := .slice r1 o1 q1) HB.out))
      have hpy : y4.heap.size ≤ pb := by have := HPB.out; have := BYb.out.size; have := BYxS.out.size; omega
      have b9 : Below y4.heap.size y4 w9 := by rw [hw9]; exact ((((below_step' BYb.out BYxSBR.out).setCell hpy _).setCell hpy _).setCell hpy _)
      have h9 : HasL w9 [.slice r1 o1 q1, .slice r2 o2 q2, .slice r3 o3 q3] (runOf A (startOf A) (l.take k)).1.d := by rw [hw9]; exact (HH.out.same ((((SameOn.refl _ xSBR).set ⟨pb, 0, none⟩ _ (fun h => h rfl)).set ⟨pb, 1, none⟩ _ (fun h => h rfl)).set ⟨pb, 2, none⟩ _ (fun h => h rfl))).weak
      rw [← hw9]
      have R9 := Lib.hid r9
      have B9 := Lib.hid b9
      have H9 := Lib.hid h9
      have PY := Lib.hid hpy
      clear hw9 r9 b9 h9 hpy HB HH
      refine hK.out _ _ ?_ (fun hHeld => ?_)
      ·exact ⟨KA.out.below B9.out 0 _ rfl, KA.out.below B9.out 1 _ rfl, KA.out.below B9.out 2 _ rfl, KA.out.below B9.out 3 _ rfl⟩
      clear hK K
      try simp only [Act.put, List.getElem_toArray, List.getElem_cons_zero, List.getElem_cons_succ, List.setIfInBounds_toArray, List.set_cons_zero, List.set_cons_succ]
      refine tq 13 ?_
      refine tq 14 ?_
      refine wpAnyH_done (by kernel_rfl) ?_ _
      go_wp2_with fail
      go_meet
      exact ⟨pb, r1, r2, r3, o1, o2, o3, q1, q2, q3, rfl, rfl, rfl, R9.out, H9.out, B9.out⟩
    ·obtain ⟨xB, hx⟩ : ∃ x, x = yb.alloc (.cells #[.slice none 0 0, .slice none 0 0, .slice none 0 0] 31) := ⟨_, rfl⟩
     have hb : Below yb.heap.size yb xB := by rw [hx]; exact below_new _ _
     have KB := Lib.hid (show BoxAt yb.heap.size [.slice none 0 0, .slice none 0 0, .slice none 0 0] xB from by rw [hx]; exact boxAt_new yb [.slice none 0 0, .slice none 0 0, .slice none 0 0] _)
     have OB : Hid (OpenRow xB yb.heap.size 1 3) := Lib.hid (by rw [hx]; exact ⟨by decide, _, _, heap_alloc_new yb _, rfl⟩)
     have PB : yb.heap.size < xB.heap.size := by rw [hx]; simp
     obtain ⟨pb, hpb⟩ : ∃ p, p = yb.heap.size := ⟨_, rfl⟩
     go_simp
     rw [← hx]
     rw [← hpb] at KB OB PB ⊢
     have HPB := Lib.hid hpb
     clear hx hpb
     have BxB := Lib.hid hb
     have BYxB := Lib.hid (hb)
     clear hb
     refine hK.out _ _ ?_ (fun hHeld => ?_)
     ·exact ⟨KA.out.below (below_step' BYb.out BYxB.out) 0 _ rfl, KA.out.below (below_step' BYb.out BYxB.out) 1 _ rfl, KA.out.below (below_step' BYb.out BYxB.out) 2 _ rfl, KA.out.below (below_step' BYb.out BYxB.out) 3 _ rfl⟩
     clear hK K
     try simp only [Act.put, List.getElem_toArray, List.getElem_cons_zero, List.getElem_cons_succ, List.setIfInBounds_toArray, List.set_cons_zero, List.set_cons_succ]
     refine rd 2 fun K hK => ?_
     go_simp
     refine (start_at A _ _ _ (LG.out.below (below_step' BYb.out BYxB.out)) (HT.out.later (below_step' BYb.out BYxB.out)) (Nat.le_trans LN.out (by decide)) (by have := HTab.out.2.1; have := HTab.out.1.2.1; omega)).mono ?_
     rintro e xBS ⟨u1, u2, u3, rfl, hC, hb⟩
     obtain ⟨c1, c2, c3, m1, m2, m3, d1, d2, d3, ee1, ee2, ee3⟩ := cf_slices hC
     subst ee1
     subst ee2
     subst ee3
     have HC := Lib.hid hC.weak
     clear hC
     have BxBS := Lib.hid hb
     have BYxBS := Lib.hid (below_step' BYxB.out hb)
     clear hb
     go_wp2_with fail
     refine hK.out _ _ ?_ (fun hHeld => ?_)
     ·exact ⟨KA.out.below (below_step' BYb.out BYxBS.out) 0 _ rfl, KA.out.below (below_step' BYb.out BYxBS.out) 1 _ rfl, KA.out.below (below_step' BYb.out BYxBS.out) 2 _ rfl, KA.out.below (below_step' BYb.out BYxBS.out) 3 _ rfl⟩
     clear hK K
     try simp only [Act.put, List.getElem_toArray, List.getElem_cons_zero, List.getElem_cons_succ, List.setIfInBounds_toArray, List.set_cons_zero, List.set_cons_succ]
     refine rd 6 fun K hK => ?_
     go_simp
     refine (run_at A (startOf A) (l.take k) OK0.out SMT.out (small_ok OK0.out) _ _ _ _ _ _ _ (LG.out.below (below_step' BYb.out BYxBS.out)) (HT.out.later (below_step' BYb.out BYxBS.out)) (HC.out.later (Below.refl _ xBS)) (HSk.out.later (below_step' BYb.out BYxBS.out)) (by rw [List.length_take]; omega)).mono ?_
     rintro e xBSR ⟨w1, w2, w3, rfl, hR, hb⟩
     obtain ⟨r1, r2, r3, o1, o2, o3, q1, q2, q3, ee1, ee2, ee3⟩ := cf_slices hR
     subst ee1
     subst ee2
     subst ee3
     have HR := Lib.hid hR
     clear hR
     have BxBSR := Lib.hid hb
     have BYxBSR := Lib.hid (below_step' BYxBS.out hb)
     clear hb
     go_wp2_with fail
     refine hK.out _ _ ?_ (fun hHeld => ?_)
     ·exact ⟨KA.out.below (below_step' BYb.out BYxBSR.out) 0 _ rfl, KA.out.below (below_step' BYb.out BYxBSR.out) 1 _ rfl, KA.out.below (below_step' BYb.out BYxBSR.out) 2 _ rfl, KA.out.below (below_step' BYb.out BYxBSR.out) 3 _ rfl⟩
     clear hK K
     try simp only [Act.put, List.getElem_toArray, List.getElem_cons_zero, List.getElem_cons_succ, List.setIfInBounds_toArray, List.set_cons_zero, List.set_cons_succ]
     refine tq 7 ?_
     refine tq 8 ?_
     refine tq 9 ?_
     refine tq 10 ?_
     refine rd 12 fun K hK => ?_
     have hO := OB.out.same (SameOn.of_below (P := fun _ => True) (below_step' BxBS.out BxBSR.out)) trivial PB
     have hB := KB.out.below (below_step' BxBS.out BxBSR.out)
     have hz : xB.heap.size ≤ xBS.heap.size := (BxBS.out).size
     have hH : HoldsL False (fun q => q ≠ pb) xBSR [.slice r1 o1 q1, .slice r2 o2 q2, .slice r3 o3 q3] (runOf A (startOf A) (l.take k)).1.d := HR.out.loose.wide (fun q _ h e => by have h : xBS.heap.size ≤ q := h; omega)
     have k0 := hB 0 _ rfl
     have k1 := hB 1 _ rfl
     have k2 := hB 2 _ rfl
     have f0 := hO.frozen 0
     have f1 := hO.frozen 1
     have f2 := hO.frozen 2
     have HB := Lib.hid hB
     have HH := Lib.hid hH
     clear hO hB hH
     go_simp
     clear k0 k1 k2 f0 f1 f2
     obtain ⟨w9, hw9⟩ : ∃ x, x = ((xBSR.setCell ⟨pb, 0, none⟩ (.slice r1 o1 q1)).setCell ⟨pb, 1, none⟩ (.slice r2 o2 q2)).setCell ⟨pb, 2, none⟩ (.slice r3 o3 q3) := ⟨_, rfl⟩
     have r9 : BoxAt pb [.slice r1 o1 q1, .slice r2 o2 q2, .slice r3 o3 q3] w9 := by rw [hw9]; exact boxAt_set (j := 2) (u := .slice r3 o3 q3) (boxAt_set (j := 1) (u := .slice r2 o2 q2) (boxAt_set (j := 0) (u := .slice r1 o1 q1) HB.out))
     have hpy : y4.heap.size ≤ pb := by have := HPB.out; have := BYb.out.size; omega
     have b9 : Below y4.heap.size y4 w9 := by rw [hw9]; exact ((((below_step' BYb.out BYxBSR.out).setCell hpy _).setCell hpy _).setCell hpy _)
     have h9 : HasL w9 [.slice r1 o1 q1, .slice r2 o2 q2, .slice r3 o3 q3] (runOf A (startOf A) (l.take k)).1.d := by rw [hw9]; exact (HH.out.same ((((SameOn.refl _ xBSR).set ⟨pb, 0, none⟩ _ (fun h => h rfl)).set ⟨pb, 1, none⟩ _ (fun h => h rfl)).set ⟨pb, 2, none⟩ _ (fun h => h rfl))).weak
     rw [← hw9]
     have R9 := Lib.hid r9
     have B9 := Lib.hid b9
     have H9 := Lib.hid h9
     have PY := Lib.hid hpy
     clear hw9 r9 b9 h9 hpy HB HH
     refine hK.out _ _ ?_ (fun hHeld => ?_)
     ·exact ⟨KA.out.below B9.out 0 _ rfl, KA.out.below B9.out 1 _ rfl, KA.out.below B9.out 2 _ rfl, KA.out.below B9.out 3 _ rfl⟩
     clear hK K
     try simp only [Act.put, List.getElem_toArray, List.getElem_cons_zero, List.getElem_cons_succ, List.setIfInBounds_toArray, List.set_cons_zero, List.set_cons_succ]
     refine tq 13 ?_
     refine tq 14 ?_
     refine wpAnyH_done (by kernel_rfl) ?_ _
     go_wp2_with fail
     go_meet
     exact ⟨pb, r1, r2, r3, o1, o2, o3, q1, q2, q3, rfl, rfl, rfl, R9.out, H9.out, B9.out⟩
   case rest =>
    obtain ⟨bD, Da1, Da2, Da3, Dn1, Dn2, Dn3, De1, De2, De3, ee1, ee2, ee3, hk, hh, hb⟩ := hcut
    subst ee1
    obtain ⟨ND, hN⟩ : ∃ q, q = (runOf A (startOf A) (l.take k)).2.1 := ⟨_, rfl⟩
    obtain ⟨ED, hE⟩ : ∃ q, q = (runOf A (startOf A) (l.take k)).2.2 := ⟨_, rfl⟩
    rw [← hN] at ee2
    rw [← hE] at ee3
    subst ee2
    subst ee3
    have NED := Lib.hid hN
    have EED := Lib.hid hE
    obtain ⟨y5, hy⟩ : ∃ y, y = wc := ⟨_, rfl⟩
    rw [← hy] at hk hh hb ⊢
    clear hy hN hE
    replace KA := Lib.hid (KA.out.below hb)
    replace LG := Lib.hid (LG.out.below hb)
    replace HT := Lib.hid (HT.out.later hb)
    replace KC := Lib.hid (KC.out.below hb)
    replace CC := Lib.hid (CC.out.later hb)
    replace BW := Lib.hid (below_step' BW.out hb)
    have KD := Lib.hid hk
    have CD := Lib.hid hh
    clear hk hh hb
    go_upto_region 9 with fail
    obtain ⟨rp1, rp2, rp3, rp4, rp5⟩ := run_parts (A := A) (l := l) (c := startOf A) k (by rw [← NL.out]; exact hkn)
    have rq := run_parts (A := A) (l := l.take k) (c := startOf A) 0 (Nat.zero_le _)
    have rq1 := rq.1
    have rq2 := rq.2.1
    rw [← NEC.out] at rp1 rp2 rp4 rp5
    rw [← EEC.out] at rp2 rp4
    rw [← EED.out] at rp3 rp4
    rw [← NL.out] at rp1 rp2
    rw [← NED.out] at rq1 rq2
    rw [← EED.out] at rq2
    have hlk : (l.take k).length = k := by rw [List.length_take, ← NL.out]; omega
    rw [hlk] at rq1 rq2
    obtain ⟨b1, hb1⟩ : ∃ b, b = decide (EC = 0) := ⟨_, rfl⟩
    obtain ⟨b2, hb2⟩ : ∃ b, b = decide (ED = 0) := ⟨_, rfl⟩
    have q1 : (EC == 0) = b1 := beq_dec hb1
    have q2 : ((NC : Int) == (n : Int)) = b1 := beq_len hb1 rp2
    have q3 : (ED == 0) = b2 := beq_dec hb2
    have q4 : ((ND : Int) == (k : Int)) = b2 := beq_len hb2 rq2
    have q5 : (b1 != b1) = false := by simp
    have q6 : (b2 != b2) = false := by simp
    have d1 : decide ((n : Int) < (NC : Int)) = false := by simp; omega
    have d2 : decide ((k : Int) < (ND : Int)) = false := by simp; omega
    have d3 : decide ((NC : Int) < 0) = false := by simp
    have d4 : decide ((ND : Int) < 0) = false := by simp
    have d5 : decide (n < NC) = false := by simp; omega
    have d6 : decide (k < ND) = false := by simp; omega
    have RP3 := Lib.hid rp3
    have RP4 := Lib.hid rp4
    have RP5 := Lib.hid rp5
    have RP1 := Lib.hid rp1
    have RP2 := Lib.hid rp2
    have RQ2 := Lib.hid rq2
    have HB2 := Lib.hid hb2
    clear rp1 rp2 rp3 rp4 rp5 rq rq1 rq2 hb1 hb2 hlk
    cases b2 with
    | false =>
     have hne : ¬ ED = 0 := by have := HB2.out; simpa using this.symm
     have e3 := RP3.out hne
     have q7 : (EC == ED) = true := by rw [EEC.out, EED.out, e3]; simp
     have q8 : ((NC : Int) == (ND : Int)) = true := by rw [NEC.out, NED.out, e3]; simp
     have E3 := Lib.hid e3
     clear hne e3
     go_upto_region 12 with fail
     refine wp_region_held_drew (S := (fun w' => w'.cell? ⟨bC, 0, none⟩ = some (.slice Ca1 Cn1 Ce1) ∧ w'.cell? ⟨bC, 1, none⟩ = some (.slice Ca2 Cn2 Ce2) ∧ w'.cell? ⟨bC, 2, none⟩ = some (.slice Ca3 Cn3 Ce3) ∧ w'.cell? ⟨bD, 0, none⟩ = some (.slice Da1 Dn1 De1) ∧ w'.cell? ⟨bD, 1, none⟩ = some (.slice Da2 Dn2 De2) ∧ w'.cell? ⟨bD, 2, none⟩ = some (.slice Da3 Dn3 De3))) (by kernel_rfl) ?_ (fun hHeld => ?_)
     ·exact ⟨KC.out.below (below_drewN (Below.refl _ y5) 1) 0 _ rfl, KC.out.below (below_drewN (Below.refl _ y5) 1) 1 _ rfl, KC.out.below (below_drewN (Below.refl _ y5) 1) 2 _ rfl, KD.out.below (below_drewN (Below.refl _ y5) 1) 0 _ rfl, KD.out.below (below_drewN (Below.refl _ y5) 1) 1 _ rfl, KD.out.below (below_drewN (Below.refl _ y5) 1) 2 _ rfl⟩
     obtain ⟨yb, hyb⟩ : ∃ y, y = y5.drew := ⟨_, rfl⟩
     rw [← hyb] at hHeld ⊢
     have BYb : Hid (Below y5.heap.size y5 yb) := Lib.hid (by rw [hyb]; exact below_drewN (Below.refl _ y5) 1)
     clear hyb
     refine tq 0 ?_
     refine tq 1 ?_
     refine tq 2 ?_
     refine tq 3 ?_
     refine tq 4 ?_
     refine tq 5 ?_
     refine tq 6 ?_
     refine tq 7 ?_
     refine tq 8 ?_
     refine tq 9 ?_
     refine tq 11 ?_
     refine rd 10 fun K hK => ?_
     go_simp
     refine (lref_at _ _ _ _ (runOf A (startOf A) l).1 (CC.out.later BYb.out)).mono ?_
     rintro e yl0 ⟨rfl, hb⟩
     replace BYb := Lib.hid (below_step' BYb.out hb)
     clear hb
     go_wp2_with fail
     refine hK.out _ _ ?_ (fun hHeld => ?_)
     ·exact ⟨KC.out.below BYb.out 0 _ rfl, KC.out.below BYb.out 1 _ rfl, KC.out.below BYb.out 2 _ rfl, KD.out.below BYb.out 0 _ rfl, KD.out.below BYb.out 1 _ rfl, KD.out.below BYb.out 2 _ rfl⟩
     clear hK K
     try simp only [Act.put, List.getElem_toArray, List.getElem_cons_zero, List.getElem_cons_succ, List.setIfInBounds_toArray, List.set_cons_zero, List.set_cons_succ]
     refine rd 12 fun K hK => ?_
     go_simp
     refine (lref_at _ _ _ _ (runOf A (startOf A) (l.take k)).1 (CD.out.later BYb.out)).mono ?_
     rintro e yl1 ⟨rfl, hb⟩
     replace BYb := Lib.hid (below_step' BYb.out hb)
     clear hb
     go_wp2_with fail
     refine hK.out _ _ ?_ (fun hHeld => ?_)
     ·exact ⟨KC.out.below BYb.out 0 _ rfl, KC.out.below BYb.out 1 _ rfl, KC.out.below BYb.out 2 _ rfl, KD.out.below BYb.out 0 _ rfl, KD.out.below BYb.out 1 _ rfl, KD.out.below BYb.out 2 _ rfl⟩
     clear hK K
     try simp only [Act.put, List.getElem_toArray, List.getElem_cons_zero, List.getElem_cons_succ, List.setIfInBounds_toArray, List.set_cons_zero, List.set_cons_succ]
     refine rd 13 fun K hK => ?_
     go_simp
     refine (rsame_at (runOf A (startOf A) l).1 (runOf A (startOf A) (l.take k)).1 true _ _ _ _ _ _ _ (CC.out.later BYb.out) (CD.out.later BYb.out) (small_ok (runOf_ok OK0.out)) (small_ok (runOf_ok OK0.out)) ⟨fun _ => by rw [E3.out], fun _ => rfl⟩).mono ?_
     rintro e yl2 ⟨rfl, hb⟩
     replace BYb := Lib.hid (below_step' BYb.out hb)
     clear hb
     go_wp2_with fail
     refine hK.out _ _ ?_ (fun hHeld => ?_)
     ·exact ⟨KC.out.below BYb.out 0 _ rfl, KC.out.below BYb.out 1 _ rfl, KC.out.below BYb.out 2 _ rfl, KD.out.below BYb.out 0 _ rfl, KD.out.below BYb.out 1 _ rfl, KD.out.below BYb.out 2 _ rfl⟩
     clear hK K
     try simp only [Act.put, List.getElem_toArray, List.getElem_cons_zero, List.getElem_cons_succ, List.setIfInBounds_toArray, List.set_cons_zero, List.set_cons_succ]
     refine tq 14 ?_
     refine tq 15 ?_
     refine rd 16 fun K hK => ?_
     go_simp
     refine (fixed5_any _).mono ?_
     rintro e yl3 ⟨rfl, hb⟩
     replace BYb := Lib.hid (below_step' BYb.out hb)
     clear hb
     go_wp2_with fail
     refine hK.out _ _ ?_ (fun hHeld => ?_)
     ·exact ⟨KC.out.below BYb.out 0 _ rfl, KC.out.below BYb.out 1 _ rfl, KC.out.below BYb.out 2 _ rfl, KD.out.below BYb.out 0 _ rfl, KD.out.below BYb.out 1 _ rfl, KD.out.below BYb.out 2 _ rfl⟩
     clear hK K
     try simp only [Act.put, List.getElem_toArray, List.getElem_cons_zero, List.getElem_cons_succ, List.setIfInBounds_toArray, List.set_cons_zero, List.set_cons_succ]
     refine tq 17 ?_
     refine tq 18 ?_
     refine wpAnyH_done (by kernel_rfl) ?_ _
     go_wp2_with fail
     go_ret
     exact ⟨rfl, below_step' BW.out BYb.out⟩
    | true =>
     go_upto_region 13 with fail
     have hED : ED = 0 := by have := HB2.out; simpa using this.symm
     have qn : (ED != 0) = false := by rw [hED]; rfl
     rw [qn]
     have HED := Lib.hid hED
     clear hED qn
     obtain ⟨sd, hsd⟩ : ∃ x, (if sc = k then sa else Option.map (fun x => x.add (k * 5)) sa) = x := ⟨_, rfl⟩
     have HSd : Hid (Has y5 (.slice sd (n - k) (sc - k)) (dSteps (l.drop k))) := Lib.hid (by
      have h := holds_drop (k := k) (HS.out.later BW.out) hkn
      rw [← List.map_drop, hsd] at h
      exact h)
     have OKD := Lib.hid (runOf_ok (l := l.take k) OK0.out)
     go_cut [15, 16, 17] from 117 to 126 (fun sp sn se wx => RanBox A (runOf A (startOf A) (l.take k)).1 (l.drop k) y5 sp sn se wx)
     case first =>
      refine wp_region_held_drew (S := (fun w' => w'.cell? ⟨ba, 0, none⟩ = some (.int .i64 A.n) ∧ w'.cell? ⟨ba, 1, none⟩ = some (.slice ga0 gl gc) ∧ w'.cell? ⟨ba, 2, none⟩ = some (.slice ta tl tc) ∧ w'.cell? ⟨ba, 3, none⟩ = some (.bool A.ff) ∧ w'.cell? ⟨bD, 0, none⟩ = some (.slice Da1 Dn1 De1) ∧ w'.cell? ⟨bD, 1, none⟩ = some (.slice Da2 Dn2 De2) ∧ w'.cell? ⟨bD, 2, none⟩ = some (.slice Da3 Dn3 De3))) (by kernel_rfl) ?_ (fun hHeld => ?_)
      ·exact ⟨KA.out.below (below_drewN (Below.refl _ y5) 1) 0 _ rfl, KA.out.below (below_drewN (Below.refl _ y5) 1) 1 _ rfl, KA.out.below (below_drewN (Below.refl _ y5) 1) 2 _ rfl, KA.out.below (below_drewN (Below.refl _ y5) 1) 3 _ rfl, KD.out.below (below_drewN (Below.refl _ y5) 1) 0 _ rfl, KD.out.below (below_drewN (Below.refl _ y5) 1) 1 _ rfl, KD.out.below (below_drewN (Below.refl _ y5) 1) 2 _ rfl⟩
      obtain ⟨yb, hyb⟩ : ∃ y, y = y5.drew := ⟨_, rfl⟩
      rw [← hyb] at hHeld ⊢
      refine tq 0 ?_
      refine tq 1 ?_
      refine tq 2 ?_
      refine tq 3 ?_
      refine tq 4 ?_
      have BYb : Hid (Below y5.heap.size y5 yb) := Lib.hid (by rw [hyb]; exact below_drewN (Below.refl _ y5) 1)
      clear hyb
      refine wpAnyH_ready (rs := [5, 10]) (by kernel_rfl) (by simp) ?_
      refine AllReadyH.cons rfl (fun K hK => ?_) (AllReadyH.cons rfl (fun K hK => ?_) AllReadyH.nil)
      ·go_simp
       refine (run_at A (runOf A (startOf A) (l.take k)).1 (l.drop k) OKD.out SMT.out (small_ok OKD.out) _ _ _ _ _ _ _ (LG.out.below BYb.out) (HT.out.later BYb.out) (CD.out.later BYb.out) (HSd.out.later BYb.out) (by rw [List.length_drop, ← NL.out]; omega)).mono ?_
       rintro e xR ⟨w1, w2, w3, rfl, hR, hb⟩
       obtain ⟨r1, r2, r3, o1, o2, o3, q1, q2, q3, ee1, ee2, ee3⟩ := cf_slices hR
       subst ee1
       subst ee2
       subst ee3
       have HR := Lib.hid hR
       clear hR
       have BxR := Lib.hid hb
       have BYxR := Lib.hid (hb)
       clear hb
       go_wp2_with fail
       refine hK.out _ _ ?_ (fun hHeld => ?_)
       ·exact ⟨KA.out.below (below_step' BYb.out BYxR.out) 0 _ rfl, KA.out.below (below_step' BYb.out BYxR.out) 1 _ rfl, KA.out.below (below_step' BYb.out BYxR.out) 2 _ rfl, KA.out.below (below_step' BYb.out BYxR.out) 3 _ rfl, KD.out.below (below_step' BYb.out BYxR.out) 0 _ rfl, KD.out.below (below_step' BYb.out BYxR.out) 1 _ rfl, KD.out.below (below_step' BYb.out BYxR.out) 2 _ rfl⟩
       clear hK K
       try simp only [Act.put, List.getElem_toArray, List.getElem_cons_zero, List.getElem_cons_succ, List.setIfInBounds_toArray, List.set_cons_zero, List.set_cons_succ]
       refine tq 6 ?_
       refine tq 7 ?_
       refine tq 8 ?_
       refine tq 9 ?_
       refine rd 10 fun K hK => ?_
       obtain ⟨xRB, hx⟩ : ∃ x, x = xR.alloc (.cells #[.slice none 0 0, .slice none 0 0, .slice none 0 0] 31) := ⟨_, rfl⟩
       have hb : Below xR.heap.size xR xRB := by rw [hx]; exact below_new _ _
       have KB := Lib.hid (show BoxAt xR.heap.size [.slice none 0 0, .slice none 0 0, .slice none 0 0] xRB from by rw [hx]; exact boxAt_new xR [.slice none 0 0, .slice none 0 0, .slice none 0 0] _)
       have OB : Hid (OpenRow xRB xR.heap.size 1 3) := Lib.hid (by rw [hx]; exact ⟨by decide, _, _, heap_alloc_new xR _, rfl⟩)
       have PB : xR.heap.size < xRB.heap.size := by rw [hx]; simp
       obtain ⟨pb, hpb⟩ : ∃ p, p = xR.heap.size := ⟨_, rfl⟩
       go_simp
       rw [← hx]
       rw [← hpb] at KB OB PB ⊢
       have HPB := Lib.hid hpb
       clear hx hpb
       have BxRB := Lib.hid hb
       have BYxRB := Lib.hid (below_step' BYxR.out hb)
       clear hb
       refine hK.out _ _ ?_ (fun hHeld => ?_)
       ·exact ⟨KA.out.below (below_step' BYb.out BYxRB.out) 0 _ rfl, KA.out.below (below_step' BYb.out BYxRB.out) 1 _ rfl, KA.out.below (below_step' BYb.out BYxRB.out) 2 _ rfl, KA.out.below (below_step' BYb.out BYxRB.out) 3 _ rfl, KD.out.below (below_step' BYb.out BYxRB.out) 0 _ rfl, KD.out.below (below_step' BYb.out BYxRB.out) 1 _ rfl, KD.out.below (below_step' BYb.out BYxRB.out) 2 _ rfl⟩
       clear hK K
       try simp only [Act.put, List.getElem_toArray, List.getElem_cons_zero, List.getElem_cons_succ, List.setIfInBounds_toArray, List.set_cons_zero, List.set_cons_succ]
       refine rd 11 fun K hK => ?_
       have hO := OB.out.same (SameOn.of_below (P := fun _ => True) (Below.refl _ xRB)) trivial PB
       have hB := KB.out.below (Below.refl _ xRB)
       have hH : HoldsL False (fun q => q ≠ pb) xRB [.slice r1 o1 q1, .slice r2 o2 q2, .slice r3 o3 q3] (runOf A (runOf A (startOf A) (l.take k)).1 (l.drop k)).1.d := (HR.out.loose.wide (P' := fun q => q ≠ pb) (fun q h _ e => by have := HPB.out; omega)).later BxRB.out
       have k0 := hB 0 _ rfl
       have k1 := hB 1 _ rfl
       have k2 := hB 2 _ rfl
       have f0 := hO.frozen 0
       have f1 := hO.frozen 1
       have f2 := hO.frozen 2
       have HB := Lib.hid hB
       have HH := Lib.hid hH
       clear hO hB hH
       go_simp
       clear k0 k1 k2 f0 f1 f2
       obtain ⟨w9, hw9⟩ : ∃ x, x = ((xRB.setCell ⟨pb, 0, none⟩ (.slice r1 o1 q1)).setCell ⟨pb, 1, none⟩ (.slice r2 o2 q2)).setCell ⟨pb, 2, none⟩ (.slice r3 o3 q3) := ⟨_, rfl⟩
       have r9 : BoxAt pb [.slice r1 o1 q1, .slice r2 o2 q2, .slice r3 o3 q3] w9 := by rw [hw9]; exact boxAt_set (j := 2) (u := .slice r3 o3 q3) (boxAt_set (j := 1) (u := .slice r2 o2 q2) (boxAt_set (j := 0) (u := .slice r1 o1 q1) HB.out))
       have hpy : y5.heap.size ≤ pb := by have := HPB.out; have := BYb.out.size; have := BYxR.out.size; omega
       have b9 : Below y5.heap.size y5 w9 := by rw [hw9]; exact ((((below_step' BYb.out BYxRB.out).setCell hpy _).setCell hpy _).setCell hpy _)
       have h9 : HasL w9 [.slice r1 o1 q1, .slice r2 o2 q2, .slice r3 o3 q3] (runOf A (runOf A (startOf A) (l.take k)).1 (l.drop k)).1.d := by rw [hw9]; exact (HH.out.same ((((SameOn.refl _ xRB).set ⟨pb, 0, none⟩ _ (fun h => h rfl)).set ⟨pb, 1, none⟩ _ (fun h => h rfl)).set ⟨pb, 2, none⟩ _ (fun h => h rfl))).weak
       rw [← hw9]
       have R9 := Lib.hid r9
       have B9 := Lib.hid b9
       have H9 := Lib.hid h9
       have PY := Lib.hid hpy
       clear hw9 r9 b9 h9 hpy HB HH
       refine hK.out _ _ ?_ (fun hHeld => ?_)
       ·exact ⟨KA.out.below B9.out 0 _ rfl, KA.out.below B9.out 1 _ rfl, KA.out.below B9.out 2 _ rfl, KA.out.below B9.out 3 _ rfl, KD.out.below B9.out 0 _ rfl, KD.out.below B9.out 1 _ rfl, KD.out.below B9.out 2 _ rfl⟩
       clear hK K
       try simp only [Act.put, List.getElem_toArray, List.getElem_cons_zero, List.getElem_cons_succ, List.setIfInBounds_toArray, List.set_cons_zero, List.set_cons_succ]
       refine tq 12 ?_
       refine tq 13 ?_
       refine wpAnyH_done (by kernel_rfl) ?_ _
       go_wp2_with fail
       go_meet
       exact ⟨pb, r1, r2, r3, o1, o2, o3, q1, q2, q3, rfl, rfl, rfl, R9.out, H9.out, B9.out⟩
      ·obtain ⟨xB, hx⟩ : ∃ x, x = yb.alloc (.cells #[.slice none 0 0, .slice none 0 0, .slice none 0 0] 31) := ⟨_, rfl⟩
       have hb : Below yb.heap.size yb xB := by rw [hx]; exact below_new _ _
       have KB := Lib.hid (show BoxAt yb.heap.size [.slice none 0 0, .slice none 0 0, .slice none 0 0] xB from by rw [hx]; exact boxAt_new yb [.slice none 0 0, .slice none 0 0, .slice none 0 0] _)
       have OB : Hid (OpenRow xB yb.heap.size 1 3) := Lib.hid (by rw [hx]; exact ⟨by decide, _, _, heap_alloc_new yb _, rfl⟩)
       have PB : yb.heap.size < xB.heap.size := by rw [hx]; simp
       obtain ⟨pb, hpb⟩ : ∃ p, p = yb.heap.size := ⟨_, rfl⟩
       go_simp
       rw [← hx]
       rw [← hpb] at KB OB PB ⊢
       have HPB := Lib.hid hpb
       clear hx hpb
       have BxB := Lib.hid hb
       have BYxB := Lib.hid (hb)
       clear hb
       refine hK.out _ _ ?_ (fun hHeld => ?_)
       ·exact ⟨KA.out.below (below_step' BYb.out BYxB.out) 0 _ rfl, KA.out.below (below_step' BYb.out BYxB.out) 1 _ rfl, KA.out.below (below_step' BYb.out BYxB.out) 2 _ rfl, KA.out.below (below_step' BYb.out BYxB.out) 3 _ rfl, KD.out.below (below_step' BYb.out BYxB.out) 0 _ rfl, KD.out.below (below_step' BYb.out BYxB.out) 1 _ rfl, KD.out.below (below_step' BYb.out BYxB.out) 2 _ rfl⟩
       clear hK K
       try simp only [Act.put, List.getElem_toArray, List.getElem_cons_zero, List.getElem_cons_succ, List.setIfInBounds_toArray, List.set_cons_zero, List.set_cons_succ]
       refine rd 5 fun K hK => ?_
       go_simp
       refine (run_at A (runOf A (startOf A) (l.take k)).1 (l.drop k) OKD.out SMT.out (small_ok OKD.out) _ _ _ _ _ _ _ (LG.out.below (below_step' BYb.out BYxB.out)) (HT.out.later (below_step' BYb.out BYxB.out)) (CD.out.later (below_step' BYb.out BYxB.out)) (HSd.out.later (below_step' BYb.out BYxB.out)) (by rw [List.length_drop, ← NL.out]; omega)).mono ?_
       rintro e xBR ⟨w1, w2, w3, rfl, hR, hb⟩
       obtain ⟨r1, r2, r3, o1, o2, o3, q1, q2, q3, ee1, ee2, ee3⟩ := cf_slices hR
       subst ee1
       subst ee2
       subst ee3
       have HR := Lib.hid hR
       clear hR
       have BxBR := Lib.hid hb
       have BYxBR := Lib.hid (below_step' BYxB.out hb)
       clear hb
       go_wp2_with fail
       refine hK.out _ _ ?_ (fun hHeld => ?_)
       ·exact ⟨KA.out.below (below_step' BYb.out BYxBR.out) 0 _ rfl, KA.out.below (below_step' BYb.out BYxBR.out) 1 _ rfl, KA.out.below (below_step' BYb.out BYxBR.out) 2 _ rfl, KA.out.below (below_step' BYb.out BYxBR.out) 3 _ rfl, KD.out.below (below_step' BYb.out BYxBR.out) 0 _ rfl, KD.out.below (below_step' BYb.out BYxBR.out) 1 _ rfl, KD.out.below (below_step' BYb.out BYxBR.out) 2 _ rfl⟩
       clear hK K
       try simp only [Act.put, List.getElem_toArray, List.getElem_cons_zero, List.getElem_cons_succ, List.setIfInBounds_toArray, List.set_cons_zero, List.set_cons_succ]
       refine tq 6 ?_
       refine tq 7 ?_
       refine tq 8 ?_
       refine tq 9 ?_
       refine rd 11 fun K hK => ?_
       have hO := OB.out.same (SameOn.of_below (P := fun _ => True) BxBR.out) trivial PB
       have hB := KB.out.below BxBR.out
       have hz : xB.heap.size ≤ xB.heap.size := Nat.le_refl _
       have hH : HoldsL False (fun q => q ≠ pb) xBR [.slice r1 o1 q1, .slice r2 o2 q2, .slice r3 o3 q3] (runOf A (runOf A (startOf A) (l.take k)).1 (l.drop k)).1.d := HR.out.loose.wide (fun q _ h e => by have h : xB.heap.size ≤ q := h; omega)
       have k0 := hB 0 _ rfl
       have k1 := hB 1 _ rfl
       have k2 := hB 2 _ rfl
       have f0 := hO.frozen 0
       have f1 := hO.frozen 1
       have f2 := hO.frozen 2
       have HB := Lib.hid hB
       have HH := Lib.hid hH
       clear hO hB hH
       go_simp
       clear k0 k1 k2 f0 f1 f2
       obtain ⟨w9, hw9⟩ : ∃ x, x = ((xBR.setCell ⟨pb, 0, none⟩ (.slice r1 o1 q1)).setCell ⟨pb, 1, none⟩ (.slice r2 o2 q2)).setCell ⟨pb, 2, none⟩ (.slice r3 o3 q3) := ⟨_, rfl⟩
       have r9 : BoxAt pb [.slice r1 o1 q1, .slice r2 o2 q2, .slice r3 o3 q3] w9 := by rw [hw9]; exact boxAt_set (j := 2) (u := .slice r3 o3 q3) (boxAt_set (j := 1) (u := .slice r2 o2 q2) (boxAt_set (j := 0) (u := .slice r1 o1 q1) HB.out))
       have hpy : y5.heap.size ≤ pb := by have := HPB.out; have := BYb.out.size; omega
       have b9 : Below y5.heap.size y5 w9 := by rw [hw9]; exact ((((below_step' BYb.out BYxBR.out).setCell hpy _).setCell hpy _).setCell hpy _)
       have h9 : HasL w9 [.slice r1 o1 q1, .slice r2 o2 q2, .slice r3 o3 q3] (runOf A (runOf A (startOf A) (l.take k)).1 (l.drop k)).1.d := by rw [hw9]; exact (HH.out.same ((((SameOn.refl _ xBR).set ⟨pb, 0, none⟩ _ (fun h => h rfl)).set ⟨pb, 1, none⟩ _ (fun h => h rfl)).set ⟨pb, 2, none⟩ _ (fun h => h rfl))).weak
       rw [← hw9]
       have R9 := Lib.hid r9
       have B9 := Lib.hid b9
       have H9 := Lib.hid h9
       have PY := Lib.hid hpy
       clear hw9 r9 b9 h9 hpy HB HH
       refine hK.out _ _ ?_ (fun hHeld => ?_)
       ·exact ⟨KA.out.below B9.out 0 _ rfl, KA.out.below B9.out 1 _ rfl, KA.out.below B9.out 2 _ rfl, KA.out.below B9.out 3 _ rfl, KD.out.below B9.out 0 _ rfl, KD.out.below B9.out 1 _ rfl, KD.out.below B9.out 2 _ rfl⟩
       clear hK K
       try simp only [Act.put, List.getElem_toArray, List.getElem_cons_zero, List.getElem_cons_succ, List.setIfInBounds_toArray, List.set_cons_zero, List.set_cons_succ]
       refine tq 12 ?_
       refine tq 13 ?_
       refine wpAnyH_done (by kernel_rfl) ?_ _
       go_wp2_with fail
       go_meet
       exact ⟨pb, r1, r2, r3, o1, o2, o3, q1, q2, q3, rfl, rfl, rfl, R9.out, H9.out, B9.out⟩
     case rest =>
      obtain ⟨bX, Xa1, Xa2, Xa3, Xn1, Xn2, Xn3, Xe1, Xe2, Xe3, ee1, ee2, ee3, hk, hh, hb⟩ := hcut
      subst ee1
      obtain ⟨NX, hN⟩ : ∃ q, q = (runOf A (runOf A (startOf A) (l.take k)).1 (l.drop k)).2.1 := ⟨_, rfl⟩
      obtain ⟨EX, hE⟩ : ∃ q, q = (runOf A (runOf A (startOf A) (l.take k)).1 (l.drop k)).2.2 := ⟨_, rfl⟩
      rw [← hN] at ee2
      rw [← hE] at ee3
      subst ee2
      subst ee3
      have NEX := Lib.hid hN
      have EEX := Lib.hid hE
      obtain ⟨y6, hy⟩ : ∃ y, y = wc := ⟨_, rfl⟩
      rw [← hy] at hk hh hb ⊢
      clear hy hN hE
      replace KA := Lib.hid (KA.out.below hb)
      replace LG := Lib.hid (LG.out.below hb)
      replace HT := Lib.hid (HT.out.later hb)
      replace KC := Lib.hid (KC.out.below hb)
      replace CC := Lib.hid (CC.out.later hb)
      replace KD := Lib.hid (KD.out.below hb)
      replace CD := Lib.hid (CD.out.later hb)
      replace BW := Lib.hid (below_step' BW.out hb)
      have KX := Lib.hid hk
      have CX := Lib.hid hh
      clear hk hh hb
      go_upto_region 14 with fail
      have HSn : Hid (Has y6 (.slice sa NC sc) (dSteps (l.take NC))) := Lib.hid (by
       have h := Holds.take (m := NC) (HS.out.later BW.out) (by rw [List.length_map, ← NL.out]; exact RP1.out)
       rw [← List.map_take] at h
       exact h)
      have hnsc : NC ≤ sc := Nat.le_trans RP1.out hnc
      have hnsc' : (NC : Int) ≤ sc := by omega
      go_cut [18, 19, 20] from 127 to 137 (fun sp sn se wx => RanBox A (startOf A) (l.take NC) y6 sp sn se wx)
      case first =>
       refine wp_region_held_drew (S := (fun w' => w'.cell? ⟨ba, 0, none⟩ = some (.int .i64 A.n) ∧ w'.cell? ⟨ba, 1, none⟩ = some (.slice ga0 gl gc) ∧ w'.cell? ⟨ba, 2, none⟩ = some (.slice ta tl tc) ∧ w'.cell? ⟨ba, 3, none⟩ = some (.bool A.ff))) (by kernel_rfl) ?_ (fun hHeld => ?_)
       ·exact ⟨KA.out.below (below_drewN (Below.refl _ y6) 1) 0 _ rfl, KA.out.below (below_drewN (Below.refl _ y6) 1) 1 _ rfl, KA.out.below (below_drewN (Below.refl _ y6) 1) 2 _ rfl, KA.out.below (below_drewN (Below.refl _ y6) 1) 3 _ rfl⟩
       obtain ⟨yb, hyb⟩ : ∃ y, y = y6.drew := ⟨_, rfl⟩
       rw [← hyb] at hHeld ⊢
       refine tq 0 ?_
       refine tq 1 ?_
       refine tq 3 ?_
       refine tq 4 ?_
       refine tq 5 ?_
       have BYb : Hid (Below y6.heap.size y6 yb) := Lib.hid (by rw [hyb]; exact below_drewN (Below.refl _ y6) 1)
       clear hyb
       refine wpAnyH_ready (rs := [2, 11]) (by kernel_rfl) (by simp) ?_
       refine AllReadyH.cons rfl (fun K hK => ?_) (AllReadyH.cons rfl (fun K hK => ?_) AllReadyH.nil)
       ·go_simp
        refine (start_at A _ _ _ (LG.out.below BYb.out) (HT.out.later BYb.out) (Nat.le_trans LN.out (by decide)) (by have := HTab.out.2.1; have := HTab.out.1.2.1; omega)).mono ?_
        rintro e xS ⟨u1, u2, u3, rfl, hC, hb⟩
        obtain ⟨c1, c2, c3, m1, m2, m3, d1, d2, d3, ee1, ee2, ee3⟩ := cf_slices hC
        subst ee1
        subst ee2
        subst ee3
        have HC := Lib.hid hC.weak
        clear hC
        have BxS := Lib.hid hb
        have BYxS := Lib.hid (hb)
        clear hb
        go_wp2_with fail
        refine hK.out _ _ ?_ (fun hHeld => ?_)
        ·exact ⟨KA.out.below (below_step' BYb.out BYxS.out) 0 _ rfl, KA.out.below (below_step' BYb.out BYxS.out) 1 _ rfl, KA.out.below (below_step' BYb.out BYxS.out) 2 _ rfl, KA.out.below (below_step' BYb.out BYxS.out) 3 _ rfl⟩
        clear hK K
        try simp only [Act.put, List.getElem_toArray, List.getElem_cons_zero, List.getElem_cons_succ, List.setIfInBounds_toArray, List.set_cons_zero, List.set_cons_succ]
        refine wpAnyH_ready (rs := [6, 11]) (by kernel_rfl) (by simp) ?_
        refine AllReadyH.cons rfl (fun K hK => ?_) (AllReadyH.cons rfl (fun K hK => ?_) AllReadyH.nil)
        ·go_simp
         refine (run_at A (startOf A) (l.take NC) OK0.out SMT.out (small_ok OK0.out) _ _ _ _ _ _ _ (LG.out.below (below_step' BYb.out BYxS.out)) (HT.out.later (below_step' BYb.out BYxS.out)) (HC.out.later (Below.refl _ xS)) (HSn.out.later (below_step' BYb.out BYxS.out)) (by rw [List.length_take]; have := RP1.out; omega)).mono ?_
         rintro e xSR ⟨w1, w2, w3, rfl, hR, hb⟩
         obtain ⟨r1, r2, r3, o1, o2, o3, q1, q2, q3, ee1, ee2, ee3⟩ := cf_slices hR
         subst ee1
         subst ee2
         subst ee3
         have HR := Lib.hid hR
         clear hR
         have BxSR := Lib.hid hb
         have BYxSR := Lib.hid (below_step' BYxS.out hb)
         clear hb
         go_wp2_with fail
         refine hK.out _ _ ?_ (fun hHeld => ?_)
         ·exact ⟨KA.out.below (below_step' BYb.out BYxSR.out) 0 _ rfl, KA.out.below (below_step' BYb.out BYxSR.out) 1 _ rfl, KA.out.below (below_step' BYb.out BYxSR.out) 2 _ rfl, KA.out.below (below_step' BYb.out BYxSR.out) 3 _ rfl⟩
         clear hK K
         try simp only [Act.put, List.getElem_toArray, List.getElem_cons_zero, List.getElem_cons_succ, List.setIfInBounds_toArray, List.set_cons_zero, List.set_cons_succ]
         refine tq 7 ?_
         refine tq 8 ?_
         refine tq 9 ?_
         refine tq 10 ?_
         refine rd 11 fun K hK => ?_
         obtain ⟨xSRB, hx⟩ : ∃ x, x = xSR.alloc (.cells #[.slice none 0 0, .slice none 0 0, .slice none 0 0] 31) := ⟨_, rfl⟩
         have hb : Below xSR.heap.size xSR xSRB := by rw [hx]; exact below_new _ _
         have KB := Lib.hid (show BoxAt xSR.heap.size [.slice none 0 0, .slice none 0 0, .slice none 0 0] xSRB from by rw [hx]; exact boxAt_new xSR [.slice none 0 0, .slice none 0 0, .slice none 0 0] _)
         have OB : Hid (OpenRow xSRB xSR.heap.size 1 3) := Lib.hid (by rw [hx]; exact ⟨by decide, _, _, heap_alloc_new xSR _, rfl⟩)
         have PB : xSR.heap.size < xSRB.heap.size := by rw [hx]; simp
         obtain ⟨pb, hpb⟩ : ∃ p, p = xSR.heap.size := ⟨_, rfl⟩
         go_simp
         rw [← hx]
         rw [← hpb] at KB OB PB ⊢
         have HPB := Lib.hid hpb
         clear hx hpb
         have BxSRB := Lib.hid hb
         have BYxSRB := Lib.hid (below_step' BYxSR.out hb)
         clear hb
         refine hK.out _ _ ?_ (fun hHeld => ?_)
         ·exact ⟨KA.out.below (below_step' BYb.out BYxSRB.out) 0 _ rfl, KA.out.below (below_step' BYb.out BYxSRB.out) 1 _ rfl, KA.out.below (below_step' BYb.out BYxSRB.out) 2 _ rfl, KA.out.below (below_step' BYb.out BYxSRB.out) 3 _ rfl⟩
         clear hK K
         try simp only [Act.put, List.getElem_toArray, List.getElem_cons_zero, List.getElem_cons_succ, List.setIfInBounds_toArray, List.set_cons_zero, List.set_cons_succ]
         refine rd 12 fun K hK => ?_
         have hO := OB.out.same (SameOn.of_below (P := fun _ => True) (Below.refl _ xSRB)) trivial PB
         have hB := KB.out.below (Below.refl _ xSRB)
         have hH : HoldsL False (fun q => q ≠ pb) xSRB [.slice r1 o1 q1, .slice r2 o2 q2, .slice r3 o3 q3] (runOf A (startOf A) (l.take NC)).1.d := (HR.out.loose.wide (P' := fun q => q ≠ pb) (fun q h _ e => by have := HPB.out; omega)).later BxSRB.out
         have k0 := hB 0 _ rfl
         have k1 := hB 1 _ rfl
         have k2 := hB 2 _ rfl
         have f0 := hO.frozen 0
         have f1 := hO.frozen 1
         have f2 := hO.frozen 2
         have HB := Lib.hid hB
         have HH := Lib.hid hH
         clear hO hB hH
         go_simp
         clear k0 k1 k2 f0 f1 f2
         obtain ⟨w9, hw9⟩ : ∃ x, x = ((xSRB.setCell ⟨pb, 0, none⟩ (.slice r1 o1 q1)).setCell ⟨pb, 1, none⟩ (.slice r2 o2 q2)).setCell ⟨pb, 2, none⟩ (.slice r3 o3 q3) := ⟨_, rfl⟩
         have r9 : BoxAt pb [.slice r1 o1 q1, .slice r2 o2 q2, .slice r3 o3 q3] w9 := by rw [hw9]; exact boxAt_set (j := 2) (u := .slice r3 o3 q3) (boxAt_set (j := 1) (u := .slice r2 o2 q2) (boxAt_set (j := 0) (u := .slice r1 o1 q1) HB.out))
         have hpy : y6.heap.size ≤ pb := by have := HPB.out; have := BYb.out.size; have := BYxSR.out.size; omega
         have b9 : Below y6.heap.size y6 w9 := by rw [hw9]; exact ((((below_step' BYb.out BYxSRB.out).setCell hpy _).setCell hpy _).setCell hpy _)
         have h9 : HasL w9 [.slice r1 o1 q1, .slice r2 o2 q2, .slice r3 o3 q3] (runOf A (startOf A) (l.take NC)).1.d := by rw [hw9]; exact (HH.out.same ((((SameOn.refl _ xSRB).set ⟨pb, 0, none⟩ _ (fun h => h rfl)).set ⟨pb, 1, none⟩ _ (fun h => h rfl)).set ⟨pb, 2, none⟩ _ (fun h => h rfl))).weak
         rw [← hw9]
         have R9 := Lib.hid r9
         have B9 := Lib.hid b9
         have H9 := Lib.hid h9
         have PY := Lib.hid hpy
         clear hw9 r9 b9 h9 hpy HB HH
         refine hK.out _ _ ?_ (fun hHeld => ?_)
         ·exact ⟨KA.out.below B9.out 0 _ rfl, KA.out.below B9.out 1 _ rfl, KA.out.below B9.out 2 _ rfl, KA.out.below B9.out 3 _ rfl⟩
         clear hK K
         try simp only [Act.put, List.getElem_toArray, List.getElem_cons_zero, List.getElem_cons_succ, List.setIfInBounds_toArray, List.set_cons_zero, List.set_cons_succ]
         refine tq 13 ?_
         refine tq 14 ?_
         refine wpAnyH_done (by kernel_rfl) ?_ _
         go_wp2_with fail
         go_meet
         exact ⟨pb, r1, r2, r3, o1, o2, o3, q1, q2, q3, rfl, rfl, rfl, R9.out, H9.out, B9.out⟩
        ·obtain ⟨xSB, hx⟩ : ∃ x, x = xS.alloc (.cells #[.slice none 0 0, .slice none 0 0, .slice none 0 0] 31) := ⟨_, rfl⟩
         have hb : Below xS.heap.size xS xSB := by rw [hx]; exact below_new _ _
         have KB := Lib.hid (show BoxAt xS.heap.size [.slice none 0 0, .slice none 0 0, .slice none 0 0] xSB from by rw [hx]; exact boxAt_new xS [.slice none 0 0, .slice none 0 0, .slice none 0 0] _)
         have OB : Hid (OpenRow xSB xS.heap.size 1 3) := Lib.hid (by rw [hx]; exact ⟨by decide, _, _, heap_alloc_new xS _, rfl⟩)
         have PB : xS.heap.size < xSB.heap.size := by rw [hx]; simp
         obtain ⟨pb, hpb⟩ : ∃ p, p = xS.heap.size := ⟨_, rfl⟩
         go_simp
         rw [← hx]
         rw [← hpb] at KB OB PB ⊢
         have HPB := Lib.hid hpb
         clear hx hpb
         have BxSB := Lib.hid hb
         have BYxSB := Lib.hid (below_step' BYxS.out hb)
         clear hb
         refine hK.out _ _ ?_ (fun hHeld => ?_)
         ·exact ⟨KA.out.below (below_step' BYb.out BYxSB.out) 0 _ rfl, KA.out.below (below_step' BYb.out BYxSB.out) 1 _ rfl, KA.out.below (below_step' BYb.out BYxSB.out) 2 _ rfl, KA.out.below (below_step' BYb.out BYxSB.out) 3 _ rfl⟩
         clear hK K
         try simp only [Act.put, List.getElem_toArray, List.getElem_cons_zero, List.getElem_cons_succ, List.setIfInBounds_toArray, List.set_cons_zero, List.set_cons_succ]
         refine rd 6 fun K hK => ?_
         go_simp
         refine (run_at A (startOf A) (l.take NC) OK0.out SMT.out (small_ok OK0.out) _ _ _ _ _ _ _ (LG.out.below (below_step' BYb.out BYxSB.out)) (HT.out.later (below_step' BYb.out BYxSB.out)) (HC.out.later BxSB.out) (HSn.out.later (below_step' BYb.out BYxSB.out)) (by rw [List.length_take]; have := RP1.out; omega)).mono ?_
         rintro e xSBR ⟨w1, w2, w3, rfl, hR, hb⟩
         obtain ⟨r1, r2, r3, o1, o2, o3, q1, q2, q3, ee1, ee2, ee3⟩ := cf_slices hR
         subst ee1
         subst ee2
         subst ee3
         have HR := Lib.hid hR
         clear hR
         have BxSBR := Lib.hid hb
         have BYxSBR := Lib.hid (below_step' BYxSB.out hb)
         clear hb
         go_wp2_with fail
         refine hK.out _ _ ?_ (fun hHeld => ?_)
         ·exact ⟨KA.out.below (below_step' BYb.out BYxSBR.out) 0 _ rfl, KA.out.below (below_step' BYb.out BYxSBR.out) 1 _ rfl, KA.out.below (below_step' BYb.out BYxSBR.out) 2 _ rfl, KA.out.below (below_step' BYb.out BYxSBR.out) 3 _ rfl⟩
         clear hK K
         try simp only [Act.put, List.getElem_toArray, List.getElem_cons_zero, List.getElem_cons_succ, List.setIfInBounds_toArray, List.set_cons_zero, List.set_cons_succ]
         refine tq 7 ?_
         refine tq 8 ?_
         refine tq 9 ?_
         refine tq 10 ?_
         refine rd 12 fun K hK => ?_
         have hO := OB.out.same (SameOn.of_below (P := fun _ => True) BxSBR.out) trivial PB
         have hB := KB.out.below BxSBR.out
         have hz : xSB.heap.size ≤ xSB.heap.size := Nat.le_refl _
         have hH : HoldsL False (fun q => q ≠ pb) xSBR [.slice r1 o1 q1, .slice r2 o2 q2, .slice r3 o3 q3] (runOf A (startOf A) (l.take NC)).1.d := HR.out.loose.wide (fun q _ h e => by have h : xSB.heap.size ≤ q := h; omega)
         have k0 := hB 0 _ rfl
         have k1 := hB 1 _ rfl
         have k2 := hB 2 _ rfl
         have f0 := hO.frozen 0
         have f1 := hO.frozen 1
         have f2 := hO.frozen 2
         have HB := Lib.hid hB
         have HH := Lib.hid hH
         clear hO hB hH
         go_simp
         clear k0 k1 k2 f0 f1 f2
         obtain ⟨w9, hw9⟩ : ∃ x, x = ((xSBR.setCell ⟨pb, 0, none⟩ (.slice r1 o1 q1)).setCell ⟨pb, 1, none⟩ (.slice r2 o2 q2)).setCell ⟨pb, 2, none⟩ (.slice r3 o3 q3) := ⟨_, rfl⟩
         have r9 : BoxAt pb [.slice r1 o1 q1, .slice r2 o2 q2, .slice r3 o3 q3] w9 := by rw [hw9]; exact boxAt_set (j := 2) (u := .slice r3 o3 q3) (boxAt_set (j := 1) (u := .slice r2 o2 q2) (boxAt_set (j := 0) (u := .slice r1 o1 q1) HB.out))
         have hpy : y6.heap.size ≤ pb := by have := HPB.out; have := BYb.out.size; have := BYxS.out.size; omega
         have b9 : Below y6.heap.size y6 w9 := by rw [hw9]; exact ((((below_step' BYb.out BYxSBR.out).setCell hpy _).setCell hpy _).setCell hpy _)
         have h9 : HasL w9 [.slice r1 o1 q1, .slice r2 o2 q2, .slice r3 o3 q3] (runOf A (startOf A) (l.take NC)).1.d := by rw [hw9]; exact (HH.out.same ((((SameOn.refl _ xSBR).set ⟨pb, 0, none⟩ _ (fun h => h rfl)).set ⟨pb, 1, none⟩ _ (fun h => h rfl)).set ⟨pb, 2, none⟩ _ (fun h => h rfl))).weak
         rw [← hw9]
         have R9 := Lib.hid r9
         have B9 := Lib.hid b9
         have H9 := Lib.hid h9
         have PY := Lib.hid hpy
         clear hw9 r9 b9 h9 hpy HB HH
         refine hK.out _ _ ?_ (fun hHeld => ?_)
         ·exact ⟨KA.out.below B9.out 0 _ rfl, KA.out.below B9.out 1 _ rfl, KA.out.below B9.out 2 _ rfl, KA.out.below B9.out 3 _ rfl⟩
         clear hK K
         try simp only [Act.put, List.getElem_toArray, List.getElem_cons_zero, List.getElem_cons_succ, List.setIfInBounds_toArray, List.set_cons_zero, List.set_cons_succ]
         refine tq 13 ?_
         refine tq 14 ?_
         refine wpAnyH_done (by kernel_rfl) ?_ _
         go_wp2_with fail
         go_meet
         exact ⟨pb, r1, r2, r3, o1, o2, o3, q1, q2, q3, rfl, rfl, rfl, R9.out, H9.out, B9.out⟩
       ·obtain ⟨xB, hx⟩ : ∃ x, x = yb.alloc (.cells #[.slice none 0 0, .slice none 0 0, .slice none 0 0] 31) := ⟨_, rfl⟩
        have hb : Below yb.heap.size yb xB := by rw [hx]; exact below_new _ _
        have KB := Lib.hid (show BoxAt yb.heap.size [.slice none 0 0, .slice none 0 0, .slice none 0 0] xB from by rw [hx]; exact boxAt_new yb [.slice none 0 0, .slice none 0 0, .slice none 0 0] _)
        have OB : Hid (OpenRow xB yb.heap.size 1 3) := Lib.hid (by rw [hx]; exact ⟨by decide, _, _, heap_alloc_new yb _, rfl⟩)
        have PB : yb.heap.size < xB.heap.size := by rw [hx]; simp
        obtain ⟨pb, hpb⟩ : ∃ p, p = yb.heap.size := ⟨_, rfl⟩
        go_simp
        rw [← hx]
        rw [← hpb] at KB OB PB ⊢
        have HPB := Lib.hid hpb
        clear hx hpb
        have BxB := Lib.hid hb
        have BYxB := Lib.hid (hb)
        clear hb
        refine hK.out _ _ ?_ (fun hHeld => ?_)
        ·exact ⟨KA.out.below (below_step' BYb.out BYxB.out) 0 _ rfl, KA.out.below (below_step' BYb.out BYxB.out) 1 _ rfl, KA.out.below (below_step' BYb.out BYxB.out) 2 _ rfl, KA.out.below (below_step' BYb.out BYxB.out) 3 _ rfl⟩
        clear hK K
        try simp only [Act.put, List.getElem_toArray, List.getElem_cons_zero, List.getElem_cons_succ, List.setIfInBounds_toArray, List.set_cons_zero, List.set_cons_succ]
        refine rd 2 fun K hK => ?_
        go_simp
        refine (start_at A _ _ _ (LG.out.below (below_step' BYb.out BYxB.out)) (HT.out.later (below_step' BYb.out BYxB.out)) (Nat.le_trans LN.out (by decide)) (by have := HTab.out.2.1; have := HTab.out.1.2.1; omega)).mono ?_
        rintro e xBS ⟨u1, u2, u3, rfl, hC, hb⟩
        obtain ⟨c1, c2, c3, m1, m2, m3, d1, d2, d3, ee1, ee2, ee3⟩ := cf_slices hC
        subst ee1
        subst ee2
        subst ee3
        have HC := Lib.hid hC.weak
        clear hC
        have BxBS := Lib.hid hb
        have BYxBS := Lib.hid (below_step' BYxB.out hb)
        clear hb
        go_wp2_with fail
        refine hK.out _ _ ?_ (fun hHeld => ?_)
        ·exact ⟨KA.out.below (below_step' BYb.out BYxBS.out) 0 _ rfl, KA.out.below (below_step' BYb.out BYxBS.out) 1 _ rfl, KA.out.below (below_step' BYb.out BYxBS.out) 2 _ rfl, KA.out.below (below_step' BYb.out BYxBS.out) 3 _ rfl⟩
        clear hK K
        try simp only [Act.put, List.getElem_toArray, List.getElem_cons_zero, List.getElem_cons_succ, List.setIfInBounds_toArray, List.set_cons_zero, List.set_cons_succ]
        refine rd 6 fun K hK => ?_
        go_simp
        refine (run_at A (startOf A) (l.take NC) OK0.out SMT.out (small_ok OK0.out) _ _ _ _ _ _ _ (LG.out.below (below_step' BYb.out BYxBS.out)) (HT.out.later (below_step' BYb.out BYxBS.out)) (HC.out.later (Below.refl _ xBS)) (HSn.out.later (below_step' BYb.out BYxBS.out)) (by rw [List.length_take]; have := RP1.out; omega)).mono ?_
        rintro e xBSR ⟨w1, w2, w3, rfl, hR, hb⟩
        obtain ⟨r1, r2, r3, o1, o2, o3, q1, q2, q3, ee1, ee2, ee3⟩ := cf_slices hR
        subst ee1
        subst ee2
        subst ee3
        have HR := Lib.hid hR
        clear hR
        have BxBSR := Lib.hid hb
        have BYxBSR := Lib.hid (below_step' BYxBS.out hb)
        clear hb
        go_wp2_with fail
        refine hK.out _ _ ?_ (fun hHeld => ?_)
        ·exact ⟨KA.out.below (below_step' BYb.out BYxBSR.out) 0 _ rfl, KA.out.below (below_step' BYb.out BYxBSR.out) 1 _ rfl, KA.out.below (below_step' BYb.out BYxBSR.out) 2 _ rfl, KA.out.below (below_step' BYb.out BYxBSR.out) 3 _ rfl⟩
        clear hK K
        try simp only [Act.put, List.getElem_toArray, List.getElem_cons_zero, List.getElem_cons_succ, List.setIfInBounds_toArray, List.set_cons_zero, List.set_cons_succ]
        refine tq 7 ?_
        refine tq 8 ?_
        refine tq 9 ?_
        refine tq 10 ?_
        refine rd 12 fun K hK => ?_
        have hO := OB.out.same (SameOn.of_below (P := fun _ => True) (below_step' BxBS.out BxBSR.out)) trivial PB
        have hB := KB.out.below (below_step' BxBS.out BxBSR.out)
        have hz : xB.heap.size ≤ xBS.heap.size := (BxBS.out).size
        have hH : HoldsL False (fun q => q ≠ pb) xBSR [.slice r1 o1 q1, .slice r2 o2 q2, .slice r3 o3 q3] (runOf A (startOf A) (l.take NC)).1.d := HR.out.loose.wide (fun q _ h e => by have h : xBS.heap.size ≤ q := h; omega)
        have k0 := hB 0 _ rfl
        have k1 := hB 1 _ rfl
        have k2 := hB 2 _ rfl
        have f0 := hO.frozen 0
        have f1 := hO.frozen 1
        have f2 := hO.frozen 2
        have HB := Lib.hid hB
        have HH := Lib.hid hH
        clear hO hB hH
        go_simp
        clear k0 k1 k2 f0 f1 f2
        obtain ⟨w9, hw9⟩ : ∃ x, x = ((xBSR.setCell ⟨pb, 0, none⟩ (.slice r1 o1 q1)).setCell ⟨pb, 1, none⟩ (.slice r2 o2 q2)).setCell ⟨pb, 2, none⟩ (.slice r3 o3 q3) := ⟨_, rfl⟩
        have r9 : BoxAt pb [.slice r1 o1 q1, .slice r2 o2 q2, .slice r3 o3 q3] w9 := by rw [hw9]; exact boxAt_set (j := 2) (u := .slice r3 o3 q3) (boxAt_set (j := 1) (u := .slice r2 o2 q2) (boxAt_set (j := 0) (u := .slice r1 o1 q1) HB.out))
        have hpy : y6.heap.size ≤ pb := by have := HPB.out; have := BYb.out.size; omega
        have b9 : Below y6.heap.size y6 w9 := by rw [hw9]; exact ((((below_step' BYb.out BYxBSR.out).setCell hpy _).setCell hpy _).setCell hpy _)
        have h9 : HasL w9 [.slice r1 o1 q1, .slice r2 o2 q2, .slice r3 o3 q3] (runOf A (startOf A) (l.take NC)).1.d := by rw [hw9]; exact (HH.out.same ((((SameOn.refl _ xBSR).set ⟨pb, 0, none⟩ _ (fun h => h rfl)).set ⟨pb, 1, none⟩ _ (fun h => h rfl)).set ⟨pb, 2, none⟩ _ (fun h => h rfl))).weak
        rw [← hw9]
        have R9 := Lib.hid r9
        have B9 := Lib.hid b9
        have H9 := Lib.hid h9
        have PY := Lib.hid hpy
        clear hw9 r9 b9 h9 hpy HB HH
        refine hK.out _ _ ?_ (fun hHeld => ?_)
        ·exact ⟨KA.out.below B9.out 0 _ rfl, KA.out.below B9.out 1 _ rfl, KA.out.below B9.out 2 _ rfl, KA.out.below B9.out 3 _ rfl⟩
        clear hK K
        try simp only [Act.put, List.getElem_toArray, List.getElem_cons_zero, List.getElem_cons_succ, List.setIfInBounds_toArray, List.set_cons_zero, List.set_cons_succ]
        refine tq 13 ?_
        refine tq 14 ?_
        refine wpAnyH_done (by kernel_rfl) ?_ _
        go_wp2_with fail
        go_meet
        exact ⟨pb, r1, r2, r3, o1, o2, o3, q1, q2, q3, rfl, rfl, rfl, R9.out, H9.out, B9.out⟩
      case rest =>
       obtain ⟨bY, Ya1, Ya2, Ya3, Yn1, Yn2, Yn3, Ye1, Ye2, Ye3, ee1, ee2, ee3, hk, hh, hb⟩ := hcut
       subst ee1
       obtain ⟨NY, hN⟩ : ∃ q, q = (runOf A (startOf A) (l.take NC)).2.1 := ⟨_, rfl⟩
       obtain ⟨EY, hE⟩ : ∃ q, q = (runOf A (startOf A) (l.take NC)).2.2 := ⟨_, rfl⟩
       rw [← hN] at ee2
       rw [← hE] at ee3
       subst ee2
       subst ee3
       have NEY := Lib.hid hN
       have EEY := Lib.hid hE
       obtain ⟨y7, hy⟩ : ∃ y, y = wc := ⟨_, rfl⟩
       rw [← hy] at hk hh hb ⊢
       clear hy hN hE
       replace KA := Lib.hid (KA.out.below hb)
       replace LG := Lib.hid (LG.out.below hb)
       replace HT := Lib.hid (HT.out.later hb)
       replace KC := Lib.hid (KC.out.below hb)
       replace CC := Lib.hid (CC.out.later hb)
       replace KD := Lib.hid (KD.out.below hb)
       replace CD := Lib.hid (CD.out.later hb)
       replace KX := Lib.hid (KX.out.below hb)
       replace CX := Lib.hid (CX.out.later hb)
       replace BW := Lib.hid (below_step' BW.out hb)
       have KY := Lib.hid hk
       have CY := Lib.hid hh
       clear hk hh hb
       go_upto_region 15 with fail
       obtain ⟨f1, f2, f3⟩ := RP4.out HED.out
       rw [← NEX.out] at f2
       rw [← EEX.out] at f3
       have f5 := RP5.out
       have f6 : NY = NC := by rw [NEY.out, f5]
       have f7 : EY = 0 := by rw [EEY.out, f5]
       have f8 : (runOf A (startOf A) (l.take NC)).1 = (runOf A (startOf A) l).1 := by rw [f5]
       have F1 := Lib.hid f1
       have F8 := Lib.hid f8
       have g1 : (EX == EC) = true := by rw [f3]; simp
       have g2 : (((k : Int) + (NX : Int)) == (NC : Int)) = true := by simp; omega
       have g3 : (EY == 0) = true := by rw [f7]; rfl
       have g4 : ((NY : Int) == (NC : Int)) = true := by rw [f6]; simp
       have hnc9 : NC ≤ 40 := Nat.le_trans RP1.out hn40'
       have hw : IntKind.i64.wrap ((k : Int) + (NX : Int)) = (k : Int) + (NX : Int) := IntWalk.i64_in _ (by omega)
       clear f1 f2 f3 f5 f6 f7 f8
       refine wp_region_held_drew (S := (fun w' => w'.cell? ⟨bX, 0, none⟩ = some (.slice Xa1 Xn1 Xe1) ∧ w'.cell? ⟨bX, 1, none⟩ = some (.slice Xa2 Xn2 Xe2) ∧ w'.cell? ⟨bX, 2, none⟩ = some (.slice Xa3 Xn3 Xe3) ∧ w'.cell? ⟨bC, 0, none⟩ = some (.slice Ca1 Cn1 Ce1) ∧ w'.cell? ⟨bC, 1, none⟩ = some (.slice Ca2 Cn2 Ce2) ∧ w'.cell? ⟨bC, 2, none⟩ = some (.slice Ca3 Cn3 Ce3) ∧ w'.cell? ⟨bY, 0, none⟩ = some (.slice Ya1 Yn1 Ye1) ∧ w'.cell? ⟨bY, 1, none⟩ = some (.slice Ya2 Yn2 Ye2) ∧ w'.cell? ⟨bY, 2, none⟩ = some (.slice Ya3 Yn3 Ye3))) (by kernel_rfl) ?_ (fun hHeld => ?_)
       ·exact ⟨KX.out.below (below_drewN (Below.refl _ y7) 1) 0 _ rfl, KX.out.below (below_drewN (Below.refl _ y7) 1) 1 _ rfl, KX.out.below (below_drewN (Below.refl _ y7) 1) 2 _ rfl, KC.out.below (below_drewN (Below.refl _ y7) 1) 0 _ rfl, KC.out.below (below_drewN (Below.refl _ y7) 1) 1 _ rfl, KC.out.below (below_drewN (Below.refl _ y7) 1) 2 _ rfl, KY.out.below (below_drewN (Below.refl _ y7) 1) 0 _ rfl, KY.out.below (below_drewN (Below.refl _ y7) 1) 1 _ rfl, KY.out.below (below_drewN (Below.refl _ y7) 1) 2 _ rfl⟩
       obtain ⟨yb, hyb⟩ : ∃ y, y = y7.drew := ⟨_, rfl⟩
       rw [← hyb] at hHeld ⊢
       have BYb : Hid (Below y7.heap.size y7 yb) := Lib.hid (by rw [hyb]; exact below_drewN (Below.refl _ y7) 1)
       clear hyb
       refine tq 0 ?_
       refine tq 1 ?_
       refine tq 2 ?_
       refine tq 3 ?_
       refine tq 4 ?_
       refine tq 5 ?_
       refine tq 6 ?_
       refine tq 7 ?_
       refine tq 8 ?_
       refine tq 9 ?_
       refine tq 10 ?_
       refine tq 11 ?_
       refine tq 13 ?_
       refine rd 12 fun K hK => ?_
       go_simp
       refine (lref_at _ _ _ _ (runOf A (runOf A (startOf A) (l.take k)).1 (l.drop k)).1 (CX.out.later BYb.out)).mono ?_
       rintro e yl0 ⟨rfl, hb⟩
       replace BYb := Lib.hid (below_step' BYb.out hb)
       clear hb
       go_wp2_with fail
       refine hK.out _ _ ?_ (fun hHeld => ?_)
       ·exact ⟨KX.out.below BYb.out 0 _ rfl, KX.out.below BYb.out 1 _ rfl, KX.out.below BYb.out 2 _ rfl, KC.out.below BYb.out 0 _ rfl, KC.out.below BYb.out 1 _ rfl, KC.out.below BYb.out 2 _ rfl, KY.out.below BYb.out 0 _ rfl, KY.out.below BYb.out 1 _ rfl, KY.out.below BYb.out 2 _ rfl⟩
       clear hK K
       try simp only [Act.put, List.getElem_toArray, List.getElem_cons_zero, List.getElem_cons_succ, List.setIfInBounds_toArray, List.set_cons_zero, List.set_cons_succ]
       refine rd 14 fun K hK => ?_
       go_simp
       refine (lref_at _ _ _ _ (runOf A (startOf A) l).1 (CC.out.later BYb.out)).mono ?_
       rintro e yl1 ⟨rfl, hb⟩
       replace BYb := Lib.hid (below_step' BYb.out hb)
       clear hb
       go_wp2_with fail
       refine hK.out _ _ ?_ (fun hHeld => ?_)
       ·exact ⟨KX.out.below BYb.out 0 _ rfl, KX.out.below BYb.out 1 _ rfl, KX.out.below BYb.out 2 _ rfl, KC.out.below BYb.out 0 _ rfl, KC.out.below BYb.out 1 _ rfl, KC.out.below BYb.out 2 _ rfl, KY.out.below BYb.out 0 _ rfl, KY.out.below BYb.out 1 _ rfl, KY.out.below BYb.out 2 _ rfl⟩
       clear hK K
       try simp only [Act.put, List.getElem_toArray, List.getElem_cons_zero, List.getElem_cons_succ, List.setIfInBounds_toArray, List.set_cons_zero, List.set_cons_succ]
       refine rd 15 fun K hK => ?_
       go_simp
       refine (rsame_at (runOf A (runOf A (startOf A) (l.take k)).1 (l.drop k)).1 (runOf A (startOf A) l).1 true _ _ _ _ _ _ _ (CX.out.later BYb.out) (CC.out.later BYb.out) (small_ok (runOf_ok OKD.out)) (small_ok (runOf_ok OK0.out)) ⟨fun _ => F1.out, fun _ => rfl⟩).mono ?_
       rintro e yl2 ⟨rfl, hb⟩
       replace BYb := Lib.hid (below_step' BYb.out hb)
       clear hb
       go_wp2_with fail
       refine hK.out _ _ ?_ (fun hHeld => ?_)
       ·exact ⟨KX.out.below BYb.out 0 _ rfl, KX.out.below BYb.out 1 _ rfl, KX.out.below BYb.out 2 _ rfl, KC.out.below BYb.out 0 _ rfl, KC.out.below BYb.out 1 _ rfl, KC.out.below BYb.out 2 _ rfl, KY.out.below BYb.out 0 _ rfl, KY.out.below BYb.out 1 _ rfl, KY.out.below BYb.out 2 _ rfl⟩
       clear hK K
       try simp only [Act.put, List.getElem_toArray, List.getElem_cons_zero, List.getElem_cons_succ, List.setIfInBounds_toArray, List.set_cons_zero, List.set_cons_succ]
       refine tq 16 ?_
       refine tq 17 ?_
       refine tq 18 ?_
       refine tq 19 ?_
       refine tq 20 ?_
       refine tq 21 ?_
       refine tq 22 ?_
       refine tq 23 ?_
       refine tq 24 ?_
       refine tq 25 ?_
       refine tq 26 ?_
       refine tq 27 ?_
       refine tq 29 ?_
       refine rd 28 fun K hK => ?_
       go_simp
       refine (lref_at _ _ _ _ (runOf A (startOf A) (l.take NC)).1 (CY.out.later BYb.out)).mono ?_
       rintro e yl3 ⟨rfl, hb⟩
       replace BYb := Lib.hid (below_step' BYb.out hb)
       clear hb
       go_wp2_with fail
       refine hK.out _ _ ?_ (fun hHeld => ?_)
       ·exact ⟨KX.out.below BYb.out 0 _ rfl, KX.out.below BYb.out 1 _ rfl, KX.out.below BYb.out 2 _ rfl, KC.out.below BYb.out 0 _ rfl, KC.out.below BYb.out 1 _ rfl, KC.out.below BYb.out 2 _ rfl, KY.out.below BYb.out 0 _ rfl, KY.out.below BYb.out 1 _ rfl, KY.out.below BYb.out 2 _ rfl⟩
       clear hK K
       try simp only [Act.put, List.getElem_toArray, List.getElem_cons_zero, List.getElem_cons_succ, List.setIfInBounds_toArray, List.set_cons_zero, List.set_cons_succ]
       refine rd 30 fun K hK => ?_
       go_simp
       refine (lref_at _ _ _ _ (runOf A (startOf A) l).1 (CC.out.later BYb.out)).mono ?_
       rintro e yl4 ⟨rfl, hb⟩
       replace BYb := Lib.hid (below_step' BYb.out hb)
       clear hb
       go_wp2_with fail
       refine hK.out _ _ ?_ (fun hHeld => ?_)
       ·exact ⟨KX.out.below BYb.out 0 _ rfl, KX.out.below BYb.out 1 _ rfl, KX.out.below BYb.out 2 _ rfl, KC.out.below BYb.out 0 _ rfl, KC.out.below BYb.out 1 _ rfl, KC.out.below BYb.out 2 _ rfl, KY.out.below BYb.out 0 _ rfl, KY.out.below BYb.out 1 _ rfl, KY.out.below BYb.out 2 _ rfl⟩
       clear hK K
       try simp only [Act.put, List.getElem_toArray, List.getElem_cons_zero, List.getElem_cons_succ, List.setIfInBounds_toArray, List.set_cons_zero, List.set_cons_succ]
       refine rd 31 fun K hK => ?_
       go_simp
       refine (rsame_at (runOf A (startOf A) (l.take NC)).1 (runOf A (startOf A) l).1 true _ _ _ _ _ _ _ (CY.out.later BYb.out) (CC.out.later BYb.out) (small_ok (runOf_ok OK0.out)) (small_ok (runOf_ok OK0.out)) ⟨fun _ => F8.out, fun _ => rfl⟩).mono ?_
       rintro e yl5 ⟨rfl, hb⟩
       replace BYb := Lib.hid (below_step' BYb.out hb)
       clear hb
       go_wp2_with fail
       refine hK.out _ _ ?_ (fun hHeld => ?_)
       ·exact ⟨KX.out.below BYb.out 0 _ rfl, KX.out.below BYb.out 1 _ rfl, KX.out.below BYb.out 2 _ rfl, KC.out.below BYb.out 0 _ rfl, KC.out.below BYb.out 1 _ rfl, KC.out.below BYb.out 2 _ rfl, KY.out.below BYb.out 0 _ rfl, KY.out.below BYb.out 1 _ rfl, KY.out.below BYb.out 2 _ rfl⟩
       clear hK K
       try simp only [Act.put, List.getElem_toArray, List.getElem_cons_zero, List.getElem_cons_succ, List.setIfInBounds_toArray, List.set_cons_zero, List.set_cons_succ]
       refine tq 32 ?_
       refine tq 33 ?_
       refine rd 34 fun K hK => ?_
       go_simp
       refine (fixed5_any _).mono ?_
       rintro e yl6 ⟨rfl, hb⟩
       replace BYb := Lib.hid (below_step' BYb.out hb)
       clear hb
       go_wp2_with fail
       refine hK.out _ _ ?_ (fun hHeld => ?_)
       ·exact ⟨KX.out.below BYb.out 0 _ rfl, KX.out.below BYb.out 1 _ rfl, KX.out.below BYb.out 2 _ rfl, KC.out.below BYb.out 0 _ rfl, KC.out.below BYb.out 1 _ rfl, KC.out.below BYb.out 2 _ rfl, KY.out.below BYb.out 0 _ rfl, KY.out.below BYb.out 1 _ rfl, KY.out.below BYb.out 2 _ rfl⟩
       clear hK K
       try simp only [Act.put, List.getElem_toArray, List.getElem_cons_zero, List.getElem_cons_succ, List.setIfInBounds_toArray, List.set_cons_zero, List.set_cons_succ]
       refine tq 35 ?_
       refine tq 36 ?_
       refine wpAnyH_done (by kernel_rfl) ?_ _
       go_wp2_with fail
       go_ret
       exact ⟨rfl, below_step' BW.out BYb.out⟩
end Go.Proofs.Ytdbdlaanhmaabaa

