/- Texts put together. -/
import Derived.Test.YtennbiajnkobnaaQ02
import Derived.Test.YtennbiajnkobnaaQ32
set_option linter.unusedSimpArgs false
set_option linter.unusedVariables false
namespace Go.Proofs.Ytennbiajnkobnaa
open Go.RowKit Go.PlainAid
theorem two_intL (w : World) (x y : Int) : HoldsL True (fun _ => False) w [.int .i64 x, .int .i64 y] [dI x, dI y] := by
 refine ⟨rfl, fun _ _ => False, fun _ _ h => h, fun _ _ _ _ h => h.elim, fun j c d hc hd => ?_⟩
 match j, hc, hd with
 | 0, hc, hd => simp at hc hd; subst hc hd; exact has_int _ _ _ _
 | 1, hc, hd => simp at hc hd; subst hc hd; exact has_int _ _ _ _
 | j + 2, hc, hd => simp at hc
theorem sendAll_cons (L : Lks) (n : Int) (m : Int × Int) (r : Lks) (c : List Lks × List Int) : sendAll L n (m :: r) c = sendAll L n r (send1 L n c m) := rfl
set_option maxHeartbeats 8000000 in
set_option maxRecDepth 100000 in
theorem pick_at (A : Ap) (c : Cf) (hOK : CfOK A c) (hsm : SmallTab A.t) (s0 s1 s2 s3 s4 : Int) (he : errPick A c ⟨s0, s1, s2, s3, s4⟩ = 0) (P : Nat → Prop) (b mb : Nat) (vG vT v1 v2 v3 : Value) (wb w : World) (h : SysW A c P b mb vG vT v1 v2 v3 wb w) :
  Calls Try.prog 53 #[.pointer (some ⟨b, 0, none⟩), .agg #[.int .i64 s0, .int .i64 s1, .int .i64 s2, .int .i64 s3, .int .i64 s4]] w fun e w' => Did (donePick A c ⟨s0, s1, s2, s3, s4⟩) P v1 v2 v3 wb w e w' := by
 obtain ⟨h0, h1, hmode, hisp, hbig⟩ := errPick_zero he
 simp only at h0 h1 hmode hisp hbig
 obtain ⟨node, kk, nd, hnode, hnd, hk, hkl, hst, hP⟩ := pick_facts hOK h0 h1
 subst hnode
 obtain ⟨p, hp⟩ : ∃ p, p = pickAt (stC A c node) s2 := ⟨_, rfl⟩
 rw [← hp] at hbig
 have hpk : p.sends.length ≤ 4 ∧ ∀ m ∈ p.sends, Goes A.l node m.1 m.2 := by
  obtain ⟨j, p', _, hp', hpa⟩ := pickAt_get hisp
  have hpp : p' = p := by rw [hp]; exact hpa.symm
  subst hpp
  have hse := hP.2.2.1.2.2 j p' hp'
  refine ⟨hse.2.1, fun m hm => ?_⟩
  obtain ⟨r, hr⟩ := List.mem_iff_getElem?.1 hm
  exact hse.2.2 r m hr
 have hdone : donePick A c ⟨s0, (node : Int), s2, s3, s4⟩ = ⟨c.states.set node p.next, (sendAll A.l node p.sends (c.links, c.sent)).1, (sendAll A.l node p.sends (c.links, c.sent)).2⟩ := by
  unfold donePick
  simp only [Int.toNat_natCast, ← hp]
 rw [hdone]
 obtain ⟨P1, P2, P3, c1, c2, c3, _, _, _, _⟩ := cf_openL h.cf
 obtain ⟨a1, e1, ee⟩ := slice_of c1.weak
 subst ee
 obtain ⟨a2, e2, ee⟩ := slice_of c2.weak
 subst ee
 obtain ⟨a3, e3, ee⟩ := slice_of c3.weak
 subst ee
 obtain ⟨ta, tc, ee⟩ := slice_of h.t
 subst ee
 obtain ⟨ga, gc, ee⟩ := slice_of (has_of_links h.g)
 subst ee
 obtain ⟨n1, hn1⟩ : ∃ n, n = c.states.length := ⟨_, rfl⟩
 obtain ⟨n2, hn2⟩ : ∃ n, n = c.links.length := ⟨_, rfl⟩
 obtain ⟨n3, hn3⟩ : ∃ n, n = c.sent.length := ⟨_, rfl⟩
 obtain ⟨tl, htl⟩ : ∃ n, n = A.t.length := ⟨_, rfl⟩
 obtain ⟨gl, hgl⟩ : ∃ n, n = A.l.length := ⟨_, rfl⟩
 have hT := h.t
 have hG := h.g
 rw [← htl] at hT
 rw [← hgl] at hG
 rw [← hn1, ← hn2, ← hn3, ← htl, ← hgl] at h
 rw [← hn1] at c1 ⊢
 rw [← hn2] at c2 ⊢
 rw [← hn3] at c3 ⊢
 obtain ⟨fin, hfin⟩ : ∃ f, f = sendAll A.l node p.sends (c.links, c.sent) := ⟨_, rfl⟩
 rw [← hfin]
 have hbl : b < w.heap.size := World.block_lt_of_cell? w _ (h.sys.box 2 _ rfl)
 have hln : A.l.length ≤ 1000000 := by have := hOK.1.1.2.2.1; omega
 have HLOW := Lib.hid (sent_low hOK)
 have HMS : Hid (∀ m ∈ c.links, m.length ≤ 500) := Lib.hid (fun m hm => by
  obtain ⟨i, hi⟩ := List.mem_iff_getElem?.1 hm
  obtain ⟨q, hq⟩ := some_of_lt (l := c.sent) (i := i) (by have := lt_of_some hi; have := hOK.2.links; have := hOK.2.sent; omega)
  have := linkOK_len (hOK.2.ms i q m hq hi)
  omega)
 have HT := Lib.hid hT
 have HG := Lib.hid hG
 have SW := Lib.hid h
 have C1 := Lib.hid c1
 have HIN := Lib.hid (And.intro h0 h1)
 have HISP := Lib.hid hisp
 have HBIG := Lib.hid hbig
 have HPP := Lib.hid hp
 have HPK := Lib.hid hpk
 have HFI := Lib.hid hfin.symm
 have N2 := Lib.hid hn2
 have N3 := Lib.hid hn3
 have GLL : Hid (gl = n2 ∧ gl = n3 ∧ gl = A.l.length) := Lib.hid ⟨by rw [hgl, hn2, hOK.2.links], by rw [hgl, hn3, hOK.2.sent], hgl⟩
 have SMT := Lib.hid hsm
 have HST := Lib.hid hst
 have htn1 : node < n1 := by rw [hn1]; exact lt_of_some hst
 have htn2 : (node : Int) < n1 := by omega
 clear h hOK hdone c1 c2 c3 h0 h1 hisp hbig hp hpk hfin hn1 hn2 hn3 htl hgl hT hG hsm hst hmode he hnd hk hkl hP
 go_enter Try.func53, Try.ntmps53
 try simp only [List.append_eq, List.cons_append, List.nil_append]
 go_upto_region 1 with fail
 obtain ⟨y0, hy0⟩ : ∃ y, y = w.alloc (.cells #[.int .i64 s0, .int .i64 node, .int .i64 s2, .int .i64 s3, .int .i64 s4] 50) := ⟨_, rfl⟩
 have hb0 : Below w.heap.size w y0 := by rw [hy0]; exact below_new _ _
 have hx0 : BoxAt w.heap.size [.int .i64 s0, .int .i64 node, .int .i64 s2, .int .i64 s3, .int .i64 s4] y0 := by rw [hy0]; exact boxAt_new w [.int .i64 s0, .int .i64 node, .int .i64 s2, .int .i64 s3, .int .i64 s4] _
 have hz0 : w.heap.size < y0.heap.size := by rw [hy0]; simp
 have B0 := Lib.hid hb0
 have X0 := Lib.hid hx0
 rw [← hy0]
 clear hy0 hb0 hx0
 have x0 := X0.out 0 _ rfl
 have x1 := X0.out 1 _ rfl
 have x2 := X0.out 2 _ rfl
 have x3 := X0.out 3 _ rfl
 have x4 := X0.out 4 _ rfl
 go_wp2_with fail
 refine (sysPicked_at A.t c.states s0 node s2 s3 s4 b mb A.n (.slice ga gl gc) A.ff ta a1 tl tc n1 e1 (.slice a2 n2 e2) (.slice a3 n3 e3) _ (SW.out.sys.below B0.out) (HT.out.later (below_step' SW.out.bel B0.out)) (C1.out.weak.later B0.out) SMT.out HIN.out.1 HIN.out.2).mono ?_
 rintro e w5 ⟨u, rfl, hu, hb⟩
 clear x0 x1 x2 x3 x4
 have hst2 : stAt A.t node (at0 c.states node) = stC A c node := rfl
 rw [hst2, ← HPP.out] at hu
 rw [hst2, ← HPP.out, HISP.out]
 obtain ⟨ua, uc, e⟩ := slice_of hu.weak
 subst e
 obtain ⟨ul, hul⟩ : ∃ n, n = p.sends.length := ⟨_, rfl⟩
 obtain ⟨pn, hpn⟩ : ∃ n, n = p.next := ⟨_, rfl⟩
 unfold pkv
 rw [← hul] at hu ⊢
 rw [← hpn]
 have hu4 : ul ≤ 4 := by rw [hul]; exact HPK.out.1
 have UL := Lib.hid hul
 have PN := Lib.hid hpn
 obtain ⟨y5, hy5⟩ : ∃ y, y = w5.alloc (.cells #[.int .i64 pn, .slice ua ul uc] 123) := ⟨_, rfl⟩
 have hb5 : Below w5.heap.size w5 y5 := by rw [hy5]; exact below_new _ _
 have XP := Lib.hid (show BoxAt w5.heap.size [.int .i64 pn, .slice ua ul uc] y5 from by rw [hy5]; exact boxAt_new w5 [.int .i64 pn, .slice ua ul uc] _)
 have HU := Lib.hid ((hu.wide (P' := fun q => w.heap.size ≤ q ∧ q < y5.heap.size) (fun q hq (h : y0.heap.size ≤ q) => ⟨by omega, Nat.lt_of_lt_of_le hq hb5.size⟩)).later hb5)
 have B5 := Lib.hid (below_step' (below_step' B0.out hb) hb5)
 have X5 := Lib.hid ((X0.out.below hb).below hb5)
 have hz5 : w.heap.size < y5.heap.size := by have := hb.size; have := hb5.size; omega
 have hz55 : w5.heap.size < y5.heap.size := by rw [hy5]; simp
 have hw5z : y0.heap.size ≤ w5.heap.size := hb.size
 have BW5 := Lib.hid (below_step' SW.out.bel B5.out)
 clear hu hb hb5 hul hpn hst2
 go_upto_region 2 with fail
 rw [← hy5]
 clear hy5
 have k1p := XP.out 1 _ rfl
 go_wp2_with fail
 clear k1p
 go_loopw [18] (fun i wr => ∃ (j : Nat) (LS : List Lks) (T : List Int) (P' : Nat → Prop), i = .int .i64 j ∧ j ≤ ul ∧ LS.length = n2 ∧ T.length = n3 ∧ sendAll A.l node (p.sends.drop j) (LS, T) = fin ∧ bigAt A.l node (p.sends.drop j) T = false ∧ (∀ (i : Nat) (x : Int), T[i]? = some x → 0 ≤ x ∧ x ≤ 500) ∧ (∀ m ∈ LS, m.length ≤ 500 + j) ∧ HoldsL True P' wr [.slice a1 n1 e1, .slice a2 n2 e2, .slice a3 n3 e3] (Cf.mk c.states LS T).d ∧ (∀ q, P' q → P q ∨ y5.heap.size ≤ q) ∧ SameOn (fun q => q < y5.heap.size ∧ ¬ P q) y5 wr ∧ Below wb.heap.size wb wr) (fun i _ => ul - (intOf i).toNat)
 case atStart => exact ⟨0, c.links, c.sent, P, rfl, by omega, N2.out.symm, N3.out.symm, HFI.out, HBIG.out, HLOW.out, fun m hm => by have := HMS.out m hm; omega, SW.out.cf.later B5.out, fun q h => .inl h, SameOn.refl _ _, BW5.out⟩
 case round =>
  obtain ⟨j, LS, T, P', rfl, hj, hLl, hTl, hfin, hbg, hlow, hms, hC, hP', hsm, hB⟩ := hrel
  by_cases hj2 : j < ul
  ·have hj2' : (j : Int) < ul := by omega
   obtain ⟨⟨tg, lt⟩, hm⟩ := some_of_lt (l := p.sends) (i := j) (by rw [← UL.out]; exact hj2)
   have hur := HU.out.same (hsm.sub (fun q (hq : w.heap.size ≤ q ∧ q < y5.heap.size) => ⟨hq.2, fun h => by have := SW.out.top q h; omega⟩))
   obtain ⟨ub, uo, e, m0, m1⟩ := msg_at hur.weak hm
   subst e
   rw [drop_of hm, bigAt_cons] at hbg
   rw [drop_of hm, sendAll_cons] at hfin
   have hg := HPK.out.2 (tg, lt) (List.mem_of_getElem? hm)
   rcases findL_cases A.l ((node : Int), tg) with ⟨li, hli, _, _, hle⟩ | ⟨hno, _⟩
   ·obtain ⟨tv, htv⟩ := some_of_lt (l := T) (i := li) (by have := GLL.out; omega)
    obtain ⟨mm, hmm⟩ := some_of_lt (l := LS) (i := li) (by have := GLL.out; omega)
    unfold send1 at hfin
    simp only [hle, Int.toNat_natCast, at0_of htv, atL_of hmm] at hbg hfin
    have hv := hlow li tv htv
    have hv0 := hv.1
    have hv5 := hv.2
    have hml := hms mm (List.mem_of_getElem? hmm)
    have h5 : ¬ 500 < tv + 1 := by
     intro h
     rw [decide_eq_true h, Bool.true_or] at hbg
     cases hbg
    rw [decide_eq_false h5, Bool.false_or] at hbg
    have hlil : li < n3 := by rw [← hTl]; exact lt_of_some htv
    have hlil2 : li < n2 := by rw [← hLl]; exact lt_of_some hmm
    have hlil3 : li < n3 ∧ li < n2 := ⟨hlil, hlil2⟩
    have HLE := Lib.hid hle
    have HTV := Lib.hid htv
    have HMM := Lib.hid hmm
    have HBG := Lib.hid hbg
    have HFN := Lib.hid hfin
    have HLW := Lib.hid hlow
    have HMSS := Lib.hid hms
    have HTL := Lib.hid hTl
    have HLL := Lib.hid hLl
    have HC := Lib.hid hC
    have HP' := Lib.hid hP'
    have HSM := Lib.hid hsm
    have BWr := Lib.hid hB
    have SYSr := Lib.hid ((SW.out.sys.below B5.out).same hsm ⟨by have := B5.out.size; omega, SW.out.nb⟩ ⟨by have := B5.out.size; have := (Array.getElem?_eq_some_iff.1 SW.out.sys.map).1; omega, SW.out.nm⟩)
    have NPw : ¬ P w.heap.size := fun h => Nat.lt_irrefl _ (SW.out.top _ h)
    have Xr := Lib.hid (X5.out.same hsm ⟨hz5, NPw⟩)
    have hzr : y5.heap.size ≤ wr.heap.size := hsm.1
    clear hbg hfin hlow hms hTl hLl hC hP' hsm hB hle htv hmm hv hm hg hli hur NPw hlil3
    go_upto_region 5 with fail
    obtain ⟨y8, hy8⟩ : ∃ y, y = wr.alloc (.cells #[.int .i64 tg, .int .i64 lt] 120) := ⟨_, rfl⟩
    have hb8 : Below wr.heap.size wr y8 := by rw [hy8]; exact below_new _ _
    have X8 := Lib.hid (show BoxAt wr.heap.size [.int .i64 tg, .int .i64 lt] y8 from by rw [hy8]; exact boxAt_new wr [.int .i64 tg, .int .i64 lt] _)
    have hz8 : wr.heap.size < y8.heap.size := by rw [hy8]; simp
    have BW8 := Lib.hid (below_step' BWr.out hb8)
    have B8 := Lib.hid hb8
    rw [← hy8]
    clear hy8 hb8 m0 m1
    have Q5 : Hid (∀ w', Below y8.heap.size y8 w' → w'.cell? ⟨b, 0, none⟩ = some (.int .i64 A.n) ∧ w'.cell? ⟨b, 1, none⟩ = some (.slice ga gl gc) ∧ w'.cell? ⟨w.heap.size, 1, none⟩ = some (.int .i64 node) ∧ w'.cell? ⟨wr.heap.size, 0, none⟩ = some (.int .i64 tg)) := Lib.hid (fun w' hb => by
     have hB := below_step' B8.out hb
     exact ⟨SYSr.out.box.below hB 0 _ rfl, SYSr.out.box.below hB 1 _ rfl, Xr.out.below hB 1 _ rfl, X8.out.below hb 0 _ rfl⟩)
    refine wp_region_held_drew (S := (fun w' => w'.cell? ⟨b, 0, none⟩ = some (.int .i64 A.n) ∧ w'.cell? ⟨b, 1, none⟩ = some (.slice ga gl gc) ∧ w'.cell? ⟨w.heap.size, 1, none⟩ = some (.int .i64 node) ∧ w'.cell? ⟨wr.heap.size, 0, none⟩ = some (.int .i64 tg))) (by kernel_rfl) ?_ (fun hHeld => ?_)
    ·exact Q5.out _ (below_drewN (Below.refl _ y8) 1)
    refine tq 0 ?_
    refine tq 1 ?_
    refine tq 2 ?_
    refine tq 3 ?_
    refine tq 4 ?_
    refine tq 5 ?_
    refine tq 6 ?_
    refine tq 7 ?_
    refine tq 8 ?_
    refine rd 9 fun K hK => ?_
    go_simp
    refine (find_at A.n node tg li _ A.l _ (HG.out.below (below_step' BW8.out (below_drewN (Below.refl _ y8) 1))) hln HLE.out).mono ?_
    rintro e w9 ⟨rfl, hb⟩
    have B9 := Lib.hid (below_step' (below_drewN (Below.refl _ y8) 1) hb)
    clear hb
    go_wp2_with fail
    refine hK.out _ _ ?_ (fun hHeld => ?_)
    ·exact Q5.out _ B9.out
    clear hK K
    try simp only [Act.put, List.getElem_toArray, List.getElem_cons_zero, List.getElem_cons_succ, List.setIfInBounds_toArray, List.set_cons_zero, List.set_cons_succ]
    refine tq 10 ?_
    refine wpAnyH_done (by kernel_rfl) ?_ _
    have hB9 := below_step' B8.out B9.out
    obtain ⟨P1, P2, P3, c1, c2, c3, p1, p2, p3, hd⟩ := cf_openL ((HC.out.wide (P' := fun q => P' q ∧ q < wr.heap.size) (fun q hq h => ⟨h, hq⟩)).later hB9)
    obtain ⟨d12, d13, d23⟩ := hd trivial
    obtain ⟨cb, e, hcb, hcbl, q0, f0, hset⟩ := c3.slot1 HTV.out
    subst e
    have k6 := SYSr.out.box.below hB9 6 _ rfl
    have hcbw : wb.heap.size ≤ cb := (HP'.out _ (p3 _ hcb).1).elim (SW.out.low _) (fun h => Nat.le_trans BW5.out.size h)
    have hcbr : cb < wr.heap.size := (p3 _ hcb).2
    have hcbb : cb ≠ b := fun e => (HP'.out _ (p3 _ hcb).1).elim (fun h => SW.out.nb (by rw [← e]; exact h)) (fun h => by have := B5.out.size; omega)
    have C3 := Lib.hid (hset (tv + 1))
    have C1 := Lib.hid (c1.same ((SameOn.refl P1 w9).set ⟨cb, li, none⟩ (.int .i64 (tv + 1)) (fun h => d13 _ h hcb)))
    have C2 := Lib.hid (c2.same ((SameOn.refl P2 w9).set ⟨cb, li, none⟩ (.int .i64 (tv + 1)) (fun h => d23 _ h hcb)))
    have PP := Lib.hid (And.intro p1 (And.intro p2 (And.intro p3 (And.intro d12 (And.intro d13 d23)))))
    have HCB := Lib.hid hcb
    have hwr1 : IntKind.i64.wrap (tv + 1) = tv + 1 := IntWalk.i64_in _ (by omega)
    clear c1 c2 c3 p1 p2 p3 hd d12 d13 d23 hset hcb
    go_upto_region 7 with fail
    obtain ⟨x7, hx7⟩ : ∃ x, x = w9.setCell ⟨cb, li, none⟩ (.int .i64 (tv + 1)) := ⟨_, rfl⟩
    have hq7 : x7.cell? ⟨cb, li, none⟩ = some (.int .i64 (tv + 1)) := by rw [hx7]; exact set_at q0
    have SN7 : Hid (SameOn (fun q => ¬ P' q) wr x7) := Lib.hid (by rw [hx7]; exact (SameOn.of_below hB9).set _ _ (fun h => h (PP.out.2.2.1 _ HCB.out).1))
    have SM7 : Hid (SameOn (fun q => q < y5.heap.size ∧ ¬ P q) y5 x7) := Lib.hid (by
     rw [hx7]
     exact (HSM.out.trans (SameOn.of_below hB9)).set _ _ (fun h => (HP'.out _ (PP.out.2.2.1 _ HCB.out).1).elim h.2 (fun h2 => by have h1 := h.1; have h1 : cb < y5.heap.size := h1; omega)))
    have BW7 : Hid (Below wb.heap.size wb x7) := Lib.hid (by rw [hx7]; exact (below_step' BWr.out hB9).setCell hcbw _)
    have XL7 : Hid (x7.cell? ⟨wr.heap.size, 1, none⟩ = some (.int .i64 lt)) := Lib.hid (by rw [hx7]; exact set_far (.inl (by show cb ≠ wr.heap.size; omega)) (X8.out.below B9.out 1 _ rfl))
    rw [← hx7] at C1 C2 C3 ⊢
    clear hx7
    have S57 := Lib.hid (SYSr.out.same SN7.out (fun h => (HP'.out _ h).elim SW.out.nb (fun h => by have := B5.out.size; omega)) (fun h => (HP'.out _ h).elim SW.out.nm (fun h => by have := (Array.getElem?_eq_some_iff.1 SW.out.sys.map).1; have := B5.out.size; omega)))
    obtain ⟨lb, Q, ma, mc, e, e9, hPl, hlbl, hcl, hOl, hQP, hQl, hHm, hF⟩ := lls_focus C2.out HMM.out
    clear e9
    subst e
    obtain ⟨ml, hml2⟩ : ∃ n, n = mm.length := ⟨_, rfl⟩
    rw [← hml2] at hcl hHm
    have ML := Lib.hid hml2
    have hml5 : ml ≤ 1000 := by omega
    have hlbr : lb < wr.heap.size := (PP.out.2.1 _ hPl).2
    have hbq : ¬ Q b := fun h => (HP'.out _ (PP.out.2.1 _ (hQP _ h)).1).elim SW.out.nb (fun h => by have := B5.out.size; omega)
    have hcq : ¬ Q cb := fun h => PP.out.2.2.2.2.2 _ (hQP _ h) HCB.out
    have hwq : ¬ Q wr.heap.size := fun h => by have := (PP.out.2.1 _ (hQP _ h)).2; omega
    have hb7 : b < x7.heap.size := World.block_lt_of_cell? x7 _ (S57.out.box 2 _ rfl)
    have hw7 : wr.heap.size < x7.heap.size := World.block_lt_of_cell? x7 _ XL7.out
    have hc7 : cb < x7.heap.size := World.block_lt_of_cell? x7 _ hq7
    have KS : Hid (∀ w', SameOn (fun q => ¬ Q q) x7 w' → w'.cell? ⟨b, 5, none⟩ = some (.slice (some ⟨lb, 0, none⟩) n2 e2) ∧ w'.cell? ⟨b, 6, none⟩ = some (.slice (some ⟨cb, 0, none⟩) n3 e3) ∧ w'.cell? ⟨cb, li, none⟩ = some (.int .i64 (tv + 1)) ∧ w'.cell? ⟨wr.heap.size, 1, none⟩ = some (.int .i64 lt)) := Lib.hid (fun w' hs => ⟨(hs.cell (a := ⟨b, 5, none⟩) hbq hb7).trans (S57.out.box 5 _ rfl), (hs.cell (a := ⟨b, 6, none⟩) hbq hb7).trans (S57.out.box 6 _ rfl), (hs.cell (a := ⟨cb, li, none⟩) hcq hc7).trans hq7, (hs.cell (a := ⟨wr.heap.size, 1, none⟩) hwq hw7).trans XL7.out⟩)
    have KQ : Hid (∀ w', Below x7.heap.size x7 w' → w'.cell? ⟨b, 5, none⟩ = some (.slice (some ⟨lb, 0, none⟩) n2 e2) ∧ w'.cell? ⟨b, 6, none⟩ = some (.slice (some ⟨cb, 0, none⟩) n3 e3) ∧ w'.cell? ⟨cb, li, none⟩ = some (.int .i64 (tv + 1)) ∧ w'.cell? ⟨wr.heap.size, 1, none⟩ = some (.int .i64 lt)) := Lib.hid (fun w' hb => KS.out w' (SameOn.of_below hb))
    have HCL : Hid ((∀ w', Below x7.heap.size x7 w' → w'.cell? ⟨lb, li, none⟩ = some (.slice ma ml mc)) ∧ (∀ w', SameOn (fun q => ¬ Q q) x7 w' → w'.cell? ⟨lb, li, none⟩ = some (.slice ma ml mc) ∧ w'.frozen? ⟨lb, li, none⟩ = false)) := Lib.hid ⟨fun w' hb => (hb.cell (by exact hlbl)).trans hcl, fun w' hs => ⟨(hs.cell (a := ⟨lb, li, none⟩) hQl hlbl).trans hcl, (hs.frozen (a := ⟨lb, li, none⟩) hQl hlbl).trans (hOl.frozen _)⟩⟩
    have NLB : Hid (lb ≠ b) := Lib.hid (fun e => (HP'.out _ (PP.out.2.1 _ hPl).1).elim (fun h => SW.out.nb (by rw [← e]; exact h)) (fun h => by have := B5.out.size; omega))
    have NLC : Hid (lb ≠ cb) := Lib.hid (fun e => PP.out.2.2.2.2.2 _ hPl (by rw [e]; exact HCB.out))
    have NLW : Hid (lb ≠ wr.heap.size) := Lib.hid (by omega)
    have HQw : Hid (∀ q, Q q → wb.heap.size ≤ q) := Lib.hid (fun q h => (HP'.out _ (PP.out.2.1 _ (hQP _ h)).1).elim (SW.out.low _) (fun h => Nat.le_trans BW5.out.size h))
    have hlbw : wb.heap.size ≤ lb := (HP'.out _ (PP.out.2.1 _ hPl).1).elim (SW.out.low _) (fun h => Nat.le_trans BW5.out.size h)
    obtain ⟨iq, hiq, hzq, hsq, hbq2⟩ := info_parts infoMsg
    have HHM := Lib.hid hHm
    have HFO := Lib.hid hF
    have HQP := Lib.hid hQP
    have HQL := Lib.hid hQl
    have HPL := Lib.hid hPl
    clear hF hHm hcl hOl hQP hQl hPl hbq hcq hwq q0 f0 hq7 k6 hml2 hml
    refine wp_region_held_drew (S := (fun w' => w'.cell? ⟨b, 5, none⟩ = some (.slice (some ⟨lb, 0, none⟩) n2 e2) ∧ w'.cell? ⟨b, 6, none⟩ = some (.slice (some ⟨cb, 0, none⟩) n3 e3) ∧ w'.cell? ⟨cb, li, none⟩ = some (.int .i64 (tv + 1)) ∧ w'.cell? ⟨wr.heap.size, 1, none⟩ = some (.int .i64 lt))) (by kernel_rfl) ?_ (fun hHeld => ?_)
    ·exact KQ.out _ (below_drewN (Below.refl _ x7) 1)
    refine tq 0 ?_
    refine tq 1 ?_
    refine tq 2 ?_
    refine tq 3 ?_
    refine tq 4 ?_
    refine tq 5 ?_
    refine tq 6 ?_
    refine tq 7 ?_
    refine tq 8 ?_
    refine tq 9 ?_
    refine tq 10 ?_
    refine tq 11 ?_
    refine tq 12 ?_
    refine tq 14 ?_
    refine tq 15 ?_
    refine tq 16 ?_
    refine tq 17 ?_
    refine tq 18 ?_
    refine tq 19 ?_
    refine tq 20 ?_
    refine tq 21 ?_
    refine tq 22 ?_
    refine tq 23 ?_
    refine tq 24 ?_
    refine wpAnyH_ready (rs := [13, 25]) (by kernel_rfl) (by simp) ?_
    refine AllReadyH.cons rfl (fun K hK => ?_) (AllReadyH.cons rfl (fun K hK => ?_) AllReadyH.nil)
    ·have z0 := HCL.out.1 _ (Below.refl _ x7)
     go_simp
     clear z0
     refine hK.out _ _ ?_ (fun hHeld => ?_)
     ·exact KQ.out _ (below_drewN (Below.refl _ x7) 1)
     clear hK K
     try simp only [Act.put, List.getElem_toArray, List.getElem_cons_zero, List.getElem_cons_succ, List.setIfInBounds_toArray, List.set_cons_zero, List.set_cons_succ]
     refine rd 25 fun K hK => ?_
     go_simp
     refine hK.out _ _ ?_ (fun hHeld => ?_)
     ·exact KQ.out _ (show Below x7.heap.size x7 (x7.alloc (.cells #[.int .i64 (tv + 1), .int .i64 lt] 56)).drew from below_drewN (below_new x7 _) 1)
     clear hK K
     try simp only [Act.put, List.getElem_toArray, List.getElem_cons_zero, List.getElem_cons_succ, List.setIfInBounds_toArray, List.set_cons_zero, List.set_cons_succ]
     refine rd 26 fun K hK => ?_
     refine appSK (by rfl) _ _ 51 56 iq (.agg #[.int .i64 0, .int .i64 0]) 2 16 (by rfl) Try.underlying51 hiq hzq hsq hbq2 rfl (by decide) Q (fun _ => False) wb (below_step' BW7.out (show Below x7.heap.size x7 (x7.alloc (.cells #[.int .i64 (tv + 1), .int .i64 lt] 56)).drew from below_drewN (below_new x7 _) 1)) HQw.out ma ml mc (mm.map fun p => [dI p.1, dI p.2]) [[dI (tv + 1), dI lt]] 1 1 (ml + 1) (by rfl) (HHM.out.later (show Below x7.heap.size x7 (x7.alloc (.cells #[.int .i64 (tv + 1), .int .i64 lt] 56)).drew from below_drewN (below_new x7 _) 1)) (some ⟨x7.heap.size, 0, none⟩) (by rfl) [.int .i64 (tv + 1), .int .i64 lt] (news_new (w := x7) (vs := [.int .i64 (tv + 1), .int .i64 lt])) (fun h => by cases h) (by intro ds hds; simp at hds; subst hds; rfl) rfl (by rw [List.flatten_cons, List.flatten_nil, List.append_nil]; exact two_intL _ _ _) (fun _ h => h.elim) rfl (by unfold maxLen; omega) (by omega) ?_
     intro ao cv w6 hA hS hB6
     have hS6 : SameOn (fun q => ¬ Q q) x7 w6 := (SameOn.of_below (show Below x7.heap.size x7 (x7.alloc (.cells #[.int .i64 (tv + 1), .int .i64 lt] 56)).drew from below_drewN (below_new x7 _) 1)).trans hS
     have HA := Lib.hid hA
     have HS6 := Lib.hid hS6
     have BW6 := Lib.hid hB6
     clear hA hS hS6 hB6
     have K6 := Lib.hid (KS.out _ HS6.out)
     refine hK.out _ _ ?_ (fun hHeld => ?_)
     ·exact K6.out
     clear hK K
     try simp only [Act.put, List.getElem_toArray, List.getElem_cons_zero, List.getElem_cons_succ, List.setIfInBounds_toArray, List.set_cons_zero, List.set_cons_succ]
     refine tq 27 ?_
     refine rd 28 fun K hK => ?_
     have z0 := (HCL.out.2 _ HS6.out).1
     have f0 := (HCL.out.2 _ HS6.out).2
     go_simp
     clear z0 f0
     refine hK.out _ _ ?_ (fun hHeld => ?_)
     ·exact ⟨set_far (.inl NLB.out) K6.out.1, set_far (.inl NLB.out) K6.out.2.1, set_far (.inl NLC.out) K6.out.2.2.1, set_far (.inl NLW.out) K6.out.2.2.2⟩
     clear hK K
     try simp only [Act.put, List.getElem_toArray, List.getElem_cons_zero, List.getElem_cons_succ, List.setIfInBounds_toArray, List.set_cons_zero, List.set_cons_succ]
     refine wpAnyH_done (by kernel_rfl) ?_ _
     have hnew : Holds True (fun k => Q k ∨ x7.heap.size ≤ k) w6 (.slice ao (ml + 1) cv) (dLinks (mm ++ [(tv + 1, lt)])) := by
      unfold dLinks
      rw [List.map_append]
      exact HA.out.wide (fun k _ h => by
       rcases h with h | h
       ·exact .inl h
       ·exact .inr (by first | omega | (simp at h; omega)))
     have hrow := HFO.out w6 _ _ (fun k => Q k ∨ x7.heap.size ≤ k) (HS6.out.sub (fun q hq => hq.2)) hnew (fun q hq => ⟨fun e => hq.elim (fun h => HQL.out (by rw [← e]; exact h)) (fun h => by omega), hq.elim .inl (fun h => .inr (fun h2 => by have := (PP.out.2.1 q h2).2; omega))⟩)
     have h1 := (C1.out.same (HS6.out.sub (fun q hq h => PP.out.2.2.2.1 q hq (HQP.out q h)))).same ((SameOn.refl P1 w6).set ⟨lb, li, none⟩ (.slice ao (ml + 1) cv) (fun h => PP.out.2.2.2.1 _ h HPL.out))
     have h3 := (C3.out.same (HS6.out.sub (fun q hq h => PP.out.2.2.2.2.2 q (HQP.out q h) hq))).same ((SameOn.refl P3 w6).set ⟨lb, li, none⟩ (.slice ao (ml + 1) cv) (fun h => PP.out.2.2.2.2.2 _ HPL.out h))
     have hcf := cf_mkL (P := fun q => P' q ∨ y5.heap.size ≤ q) (c := ⟨c.states, LS.set li (mm ++ [(tv + 1, lt)]), T.set li (tv + 1)⟩) h1 hrow h3 (fun q h => .inl (PP.out.1 q h).1) (fun q h => h.elim (fun h => .inl (PP.out.2.1 q h).1) (fun h => h.elim (fun h => .inl (PP.out.2.1 q (HQP.out q h)).1) (fun h => .inr (by omega)))) (fun q h => .inl (PP.out.2.2.1 q h).1) (fun q h h' => h'.elim (PP.out.2.2.2.1 q h) (fun h' => h'.elim (fun h' => PP.out.2.2.2.1 q h (HQP.out q h')) (fun h' => by have := (PP.out.1 q h).2; omega))) PP.out.2.2.2.2.1 (fun q h h' => h.elim (fun h => PP.out.2.2.2.2.2 q h h') (fun h => h.elim (fun h => PP.out.2.2.2.2.2 q (HQP.out q h) h') (fun h => by have := (PP.out.2.2.1 q h').2; omega)))
     have hsm2 : SameOn (fun q => q < y5.heap.size ∧ ¬ P q) y5 (w6.setCell ⟨lb, li, none⟩ (.slice ao (ml + 1) cv)) := (SM7.out.trans (HS6.out.sub (fun q hq h => (HP'.out _ (PP.out.2.1 _ (HQP.out _ h)).1).elim hq.2 (fun h2 => by have h1 : q < y5.heap.size := hq.1; omega)))).set _ _ (fun h => (HP'.out _ (PP.out.2.1 _ HPL.out).1).elim h.2 (fun h2 => by have h1 : lb < y5.heap.size := h.1; omega))
     have CF := Lib.hid hcf
     have SM2 := Lib.hid hsm2
     have BE2 := Lib.hid (Below.setCell (p := ⟨lb, li, none⟩) BW6.out hlbw (.slice ao (ml + 1) cv))
     clear hnew hrow h1 h3 hcf hsm2
     go_wp2_with fail
     go_roundw
     case rel => exact ⟨j + 1, LS.set li (mm ++ [(tv + 1, lt)]), T.set li (tv + 1), fun q => P' q ∨ y5.heap.size ≤ q, by go_num, by omega, by rw [List.length_set]; exact HLL.out, by rw [List.length_set]; exact HTL.out, HFN.out, HBG.out, fun i x hx => by
      rcases set_cases hx with ⟨rfl, rfl, _⟩ | ⟨_, hx⟩
      ·omega
      ·exact HLW.out i x hx, fun m hm => by
      rcases List.mem_or_eq_of_mem_set hm with hm | rfl
      ·have := HMSS.out m hm; omega
      ·have := HMSS.out mm (List.mem_of_getElem? HMM.out); simp; omega, CF.out, fun q h => h.elim (HP'.out q) .inr, SM2.out, BE2.out⟩
     case measure => simp [intOf]; omega
    ·go_simp
     refine hK.out _ _ ?_ (fun hHeld => ?_)
     ·exact KQ.out _ (show Below x7.heap.size x7 (x7.alloc (.cells #[.int .i64 (tv + 1), .int .i64 lt] 56)).drew from below_drewN (below_new x7 _) 1)
     clear hK K
     try simp only [Act.put, List.getElem_toArray, List.getElem_cons_zero, List.getElem_cons_succ, List.setIfInBounds_toArray, List.set_cons_zero, List.set_cons_succ]
     refine rd 13 fun K hK => ?_
     have z0 := HCL.out.1 _ (below_new x7 (.cells #[.int .i64 (tv + 1), .int .i64 lt] 56))
     go_simp
     clear z0
     refine hK.out _ _ ?_ (fun hHeld => ?_)
     ·exact KQ.out _ (show Below x7.heap.size x7 (x7.alloc (.cells #[.int .i64 (tv + 1), .int .i64 lt] 56)).drew from below_drewN (below_new x7 _) 1)
     clear hK K
     try simp only [Act.put, List.getElem_toArray, List.getElem_cons_zero, List.getElem_cons_succ, List.setIfInBounds_toArray, List.set_cons_zero, List.set_cons_succ]
     refine rd 26 fun K hK => ?_
     refine appSK (by rfl) _ _ 51 56 iq (.agg #[.int .i64 0, .int .i64 0]) 2 16 (by rfl) Try.underlying51 hiq hzq hsq hbq2 rfl (by decide) Q (fun _ => False) wb (below_step' BW7.out (show Below x7.heap.size x7 (x7.alloc (.cells #[.int .i64 (tv + 1), .int .i64 lt] 56)).drew from below_drewN (below_new x7 _) 1)) HQw.out ma ml mc (mm.map fun p => [dI p.1, dI p.2]) [[dI (tv + 1), dI lt]] 1 1 (ml + 1) (by rfl) (HHM.out.later (show Below x7.heap.size x7 (x7.alloc (.cells #[.int .i64 (tv + 1), .int .i64 lt] 56)).drew from below_drewN (below_new x7 _) 1)) (some ⟨x7.heap.size, 0, none⟩) (by rfl) [.int .i64 (tv + 1), .int .i64 lt] (news_new (w := x7) (vs := [.int .i64 (tv + 1), .int .i64 lt])) (fun h => by cases h) (by intro ds hds; simp at hds; subst hds; rfl) rfl (by rw [List.flatten_cons, List.flatten_nil, List.append_nil]; exact two_intL _ _ _) (fun _ h => h.elim) rfl (by unfold maxLen; omega) (by omega) ?_
     intro ao cv w6 hA hS hB6
     have hS6 : SameOn (fun q => ¬ Q q) x7 w6 := (SameOn.of_below (show Below x7.heap.size x7 (x7.alloc (.cells #[.int .i64 (tv + 1), .int .i64 lt] 56)).drew from below_drewN (below_new x7 _) 1)).trans hS
     have HA := Lib.hid hA
     have HS6 := Lib.hid hS6
     have BW6 := Lib.hid hB6
     clear hA hS hS6 hB6
     have K6 := Lib.hid (KS.out _ HS6.out)
     refine hK.out _ _ ?_ (fun hHeld => ?_)
     ·exact K6.out
     clear hK K
     try simp only [Act.put, List.getElem_toArray, List.getElem_cons_zero, List.getElem_cons_succ, List.setIfInBounds_toArray, List.set_cons_zero, List.set_cons_succ]
     refine tq 27 ?_
     refine rd 28 fun K hK => ?_
     have z0 := (HCL.out.2 _ HS6.out).1
     have f0 := (HCL.out.2 _ HS6.out).2
     go_simp
     clear z0 f0
     refine hK.out _ _ ?_ (fun hHeld => ?_)
     ·exact ⟨set_far (.inl NLB.out) K6.out.1, set_far (.inl NLB.out) K6.out.2.1, set_far (.inl NLC.out) K6.out.2.2.1, set_far (.inl NLW.out) K6.out.2.2.2⟩
     clear hK K
     try simp only [Act.put, List.getElem_toArray, List.getElem_cons_zero, List.getElem_cons_succ, List.setIfInBounds_toArray, List.set_cons_zero, List.set_cons_succ]
     refine wpAnyH_done (by kernel_rfl) ?_ _
     have hnew : Holds True (fun k => Q k ∨ x7.heap.size ≤ k) w6 (.slice ao (ml + 1) cv) (dLinks (mm ++ [(tv + 1, lt)])) := by
      unfold dLinks
      rw [List.map_append]
      exact HA.out.wide (fun k _ h => by
       rcases h with h | h
       ·exact .inl h
       ·exact .inr (by first | omega | (simp at h; omega)))
     have hrow := HFO.out w6 _ _ (fun k => Q k ∨ x7.heap.size ≤ k) (HS6.out.sub (fun q hq => hq.2)) hnew (fun q hq => ⟨fun e => hq.elim (fun h => HQL.out (by rw [← e]; exact h)) (fun h => by omega), hq.elim .inl (fun h => .inr (fun h2 => by have := (PP.out.2.1 q h2).2; omega))⟩)
     have h1 := (C1.out.same (HS6.out.sub (fun q hq h => PP.out.2.2.2.1 q hq (HQP.out q h)))).same ((SameOn.refl P1 w6).set ⟨lb, li, none⟩ (.slice ao (ml + 1) cv) (fun h => PP.out.2.2.2.1 _ h HPL.out))
     have h3 := (C3.out.same (HS6.out.sub (fun q hq h => PP.out.2.2.2.2.2 q (HQP.out q h) hq))).same ((SameOn.refl P3 w6).set ⟨lb, li, none⟩ (.slice ao (ml + 1) cv) (fun h => PP.out.2.2.2.2.2 _ HPL.out h))
     have hcf := cf_mkL (P := fun q => P' q ∨ y5.heap.size ≤ q) (c := ⟨c.states, LS.set li (mm ++ [(tv + 1, lt)]), T.set li (tv + 1)⟩) h1 hrow h3 (fun q h => .inl (PP.out.1 q h).1) (fun q h => h.elim (fun h => .inl (PP.out.2.1 q h).1) (fun h => h.elim (fun h => .inl (PP.out.2.1 q (HQP.out q h)).1) (fun h => .inr (by omega)))) (fun q h => .inl (PP.out.2.2.1 q h).1) (fun q h h' => h'.elim (PP.out.2.2.2.1 q h) (fun h' => h'.elim (fun h' => PP.out.2.2.2.1 q h (HQP.out q h')) (fun h' => by have := (PP.out.1 q h).2; omega))) PP.out.2.2.2.2.1 (fun q h h' => h.elim (fun h => PP.out.2.2.2.2.2 q h h') (fun h => h.elim (fun h => PP.out.2.2.2.2.2 q (HQP.out q h) h') (fun h => by have := (PP.out.2.2.1 q h').2; omega)))
     have hsm2 : SameOn (fun q => q < y5.heap.size ∧ ¬ P q) y5 (w6.setCell ⟨lb, li, none⟩ (.slice ao (ml + 1) cv)) := (SM7.out.trans (HS6.out.sub (fun q hq h => (HP'.out _ (PP.out.2.1 _ (HQP.out _ h)).1).elim hq.2 (fun h2 => by have h1 : q < y5.heap.size := hq.1; omega)))).set _ _ (fun h => (HP'.out _ (PP.out.2.1 _ HPL.out).1).elim h.2 (fun h2 => by have h1 : lb < y5.heap.size := h.1; omega))
     have CF := Lib.hid hcf
     have SM2 := Lib.hid hsm2
     have BE2 := Lib.hid (Below.setCell (p := ⟨lb, li, none⟩) BW6.out hlbw (.slice ao (ml + 1) cv))
     clear hnew hrow h1 h3 hcf hsm2
     go_wp2_with fail
     go_roundw
     case rel => exact ⟨j + 1, LS.set li (mm ++ [(tv + 1, lt)]), T.set li (tv + 1), fun q => P' q ∨ y5.heap.size ≤ q, by go_num, by omega, by rw [List.length_set]; exact HLL.out, by rw [List.length_set]; exact HTL.out, HFN.out, HBG.out, fun i x hx => by
      rcases set_cases hx with ⟨rfl, rfl, _⟩ | ⟨_, hx⟩
      ·omega
      ·exact HLW.out i x hx, fun m hm => by
      rcases List.mem_or_eq_of_mem_set hm with hm | rfl
      ·have := HMSS.out m hm; omega
      ·have := HMSS.out mm (List.mem_of_getElem? HMM.out); simp; omega, CF.out, fun q h => h.elim (HP'.out q) .inr, SM2.out, BE2.out⟩
     case measure => simp [intOf]; omega
   ·exact absurd hg.1 hno
  ·have hj3 : ¬ (j : Int) < ul := by omega
   have hpn9 := PN.out
   clear PN
   subst hpn9
   have hd0 : p.sends.drop j = [] := List.drop_of_length_le (by rw [← UL.out]; omega)
   rw [hd0] at hfin
   have hfin2 : (LS, T) = fin := hfin
   subst hfin2
   obtain ⟨P1, P2, P3, c1, c2, c3, p1, p2, p3, hd⟩ := cf_openL hC
   obtain ⟨d12, d13, d23⟩ := hd trivial
   obtain ⟨sb, e, hsb, hsbl, q0, f0, hset⟩ := c1.slot1 HST.out
   subst e
   have SYSr := Lib.hid ((SW.out.sys.below B5.out).same hsm ⟨by have := B5.out.size; omega, SW.out.nb⟩ ⟨by have := B5.out.size; have := (Array.getElem?_eq_some_iff.1 SW.out.sys.map).1; omega, SW.out.nm⟩)
   have NPw : ¬ P w.heap.size := fun h => Nat.lt_irrefl _ (SW.out.top _ h)
   have NP5 : ¬ P w5.heap.size := fun h => by have := SW.out.top _ h; omega
   have K9 := Lib.hid (show wr.cell? ⟨b, 4, none⟩ = some (.slice (some ⟨sb, 0, none⟩) n1 e1) ∧ wr.cell? ⟨w.heap.size, 1, none⟩ = some (.int .i64 node) ∧ wr.cell? ⟨w5.heap.size, 0, none⟩ = some (.int .i64 p.next) from ⟨SYSr.out.box 4 _ rfl, X5.out.same hsm ⟨hz5, NPw⟩ 1 _ rfl, XP.out.same hsm ⟨hz55, NP5⟩ 0 _ rfl⟩)
   have hsP : P sb ∨ y5.heap.size ≤ sb := hP' _ (p1 _ hsb)
   have NSB : Hid (sb ≠ b) := Lib.hid (fun e => hsP.elim (fun h => SW.out.nb (by rw [← e]; exact h)) (fun h => by have := B5.out.size; omega))
   have NSW : Hid (sb ≠ w.heap.size) := Lib.hid (fun e => hsP.elim (fun h => NPw (by rw [← e]; exact h)) (fun h => by omega))
   have NSP : Hid (sb ≠ w5.heap.size) := Lib.hid (fun e => hsP.elim (fun h => NP5 (by rw [← e]; exact h)) (fun h => by omega))
   have hsbw : wb.heap.size ≤ sb := hsP.elim (SW.out.low _) (fun h => Nat.le_trans BW5.out.size h)
   have hf9 := cf_mkL (P := P') (c := ⟨c.states.set node p.next, LS, T⟩) (hset p.next) (c2.same ((SameOn.refl P2 wr).set ⟨sb, node, none⟩ (.int .i64 p.next) (fun h => d12 _ hsb h))) (c3.same ((SameOn.refl P3 wr).set ⟨sb, node, none⟩ (.int .i64 p.next) (fun h => d13 _ hsb h))) p1 p2 p3 d12 d13 d23
   have hs9 : SameOn (fun q => ¬ P q) w (wr.setCell ⟨sb, node, none⟩ (.int .i64 p.next)) := by
    have h1 : SameOn (fun q => ¬ P q) w wr := ⟨Nat.le_trans B5.out.size hsm.1, fun q hq hlt => (hsm.2 q ⟨by have := B5.out.size; omega, hq⟩ (by have := B5.out.size; omega)).trans (B5.out.block q hlt)⟩
    refine ⟨by simpa using h1.1, fun q hq hlt => ?_⟩
    have hne : q ≠ sb := fun e => hsP.elim (fun h => hq (by rw [e]; exact h)) (fun h => by have := B5.out.size; omega)
    exact ((((SameOn.refl (fun q => q ≠ sb) wr).set ⟨sb, node, none⟩ (.int .i64 p.next) (fun h => h rfl)).2 q hne (Nat.lt_of_lt_of_le hlt h1.1)).trans (h1.2 q hq hlt))
   have hb9 := Below.setCell (p := ⟨sb, node, none⟩) hB hsbw (.int .i64 p.next)
   have HF9 := Lib.hid hf9
   have HS9 := Lib.hid hs9
   have HB9 := Lib.hid hb9
   have HPF : Hid (∀ q, P' q → P q ∨ w.heap.size ≤ q) := Lib.hid (fun q h => (hP' q h).elim .inl (fun h => .inr (by omega)))
   clear hf9 hs9 hb9 hfin hbg hlow hms hC hP' hsm hB c1 c2 c3 p1 p2 p3 hd d12 d13 d23 hset hsb hsP hd0 hLl hTl
   go_wp2_with fail
   refine wp_region_held_drew (S := (fun w' => w'.cell? ⟨b, 4, none⟩ = some (.slice (some ⟨sb, 0, none⟩) n1 e1) ∧ w'.cell? ⟨w.heap.size, 1, none⟩ = some (.int .i64 node) ∧ w'.cell? ⟨w5.heap.size, 0, none⟩ = some (.int .i64 p.next))) (by kernel_rfl) ?_ (fun hHeld => ?_)
   ·exact K9.out
   refine tq 0 ?_
   refine tq 1 ?_
   refine tq 2 ?_
   refine tq 3 ?_
   refine tq 4 ?_
   refine tq 5 ?_
   refine tq 6 ?_
   refine tq 7 ?_
   refine tq 8 ?_
   refine tq 9 ?_
   refine rd 10 fun K hK => ?_
   have z0 := q0
   have z1 := f0
   go_simp
   clear z0 z1
   refine hK.out _ _ ?_ (fun hHeld => ?_)
   ·exact ⟨set_far (.inl NSB.out) K9.out.1, set_far (.inl NSW.out) K9.out.2.1, set_far (.inl NSP.out) K9.out.2.2⟩
   clear hK K
   try simp only [Act.put, List.getElem_toArray, List.getElem_cons_zero, List.getElem_cons_succ, List.setIfInBounds_toArray, List.set_cons_zero, List.set_cons_succ]
   refine wpAnyH_done (by kernel_rfl) ?_ _
   go_wp2_with fail
   go_end0
   exact ⟨rfl, ⟨P', HF9.out.later (below_drewN (Below.refl _ _) 1), HPF.out⟩, HS9.out.drew, below_drewN HB9.out 1⟩
end Go.Proofs.Ytennbiajnkobnaa

