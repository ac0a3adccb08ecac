/- Texts put together. -/
import Derived.Test.YtennbiajnkobnaaQ02
import Derived.Test.YtennbiajnkobnaaQ31
set_option linter.unusedSimpArgs false
set_option linter.unusedVariables false
namespace Go.Proofs.Ytennbiajnkobnaa
open Go.RowKit Go.PlainAid
/-- What a deed leaves. -/
def Did (c' : Cf) (P : Nat → Prop) (v1 v2 v3 : Value) (wb w : World) (e : Ending) (w' : World) : Prop := e = .returned (.tuple #[]) ∧ (∃ P' : Nat → Prop, HoldsL True P' w' [v1, v2, v3] c'.d ∧ ∀ q, P' q → P q ∨ w.heap.size ≤ q) ∧ SameOn (fun q => ¬ P q) w w' ∧ Below wb.heap.size wb w'
/-- What the system is made of, to be written. -/
structure SysW (A : Ap) (c : Cf) (P : Nat → Prop) (b mb : Nat) (vG vT v1 v2 v3 : Value) (wb w : World) : Prop where
 sys : SysAt b mb A.n vG vT A.ff v1 v2 v3 w
 g : LinksAt wb vG A.l
 t : Has wb vT (dTab A.t)
 cf : HoldsL True P w [v1, v2, v3] c.d
 nb : ¬ P b
 nm : ¬ P mb
 low : ∀ q, P q → wb.heap.size ≤ q
 top : ∀ q, P q → q < w.heap.size
 bel : Below wb.heap.size wb w
set_option maxHeartbeats 8000000 in
set_option maxRecDepth 100000 in
theorem deliver_at (A : Ap) (c : Cf) (hOK : CfOK A c) (hsm : SmallTab A.t) (s0 s1 s2 s3 s4 : Int) (he : errDel A c ⟨s0, s1, s2, s3, s4⟩ = 0) (P : Nat → Prop) (b mb : Nat) (vG vT v1 v2 v3 : Value) (wb w : World) (h : SysW A c P b mb vG vT v1 v2 v3 wb w) :
  Calls Try.prog 55 #[.pointer (some ⟨b, 0, none⟩), .agg #[.int .i64 s0, .int .i64 s1, .int .i64 s2, .int .i64 s3, .int .i64 s4]] w fun e w' => Did (doneDel A c ⟨s0, s1, s2, s3, s4⟩) P v1 v2 v3 wb w e w' := by
 obtain ⟨li, i, m, x, hs3, hm, hat, hpl, hx, hxe, _⟩ := errDel_zero he
 simp only at hs3 hpl hxe hat
 subst hs3
 have hln : li < A.l.length := by have := lt_of_get hm; have := hOK.2.links; omega
 obtain ⟨tn, ks, nd, htn, hnd, hst, hkl⟩ := link_facts hOK hln
 obtain ⟨⟨fr, tn2⟩, hlk⟩ := some_of_lt hln
 have hlk2 : lk A.l li = (fr, tn2) := lk_of hlk
 rw [hlk2] at htn
 simp only at htn
 subst htn
 obtain ⟨lt, hlt⟩ : ∃ l, l = x.2 := ⟨_, rfl⟩
 obtain ⟨q, hqk⟩ : ∃ q : Int, q = (ks : Int) := ⟨_, rfl⟩
 rw [← hqk] at hst
 obtain ⟨q2, hq2⟩ : ∃ q2, q2 = takenAt A.t tn q fr lt := ⟨_, rfl⟩
 have hdone : doneDel A c ⟨s0, s1, s2, (li : Int), s4⟩ = ⟨c.states.set tn q2, c.links.set li (m.eraseIdx i), c.sent⟩ := by
  unfold doneDel
  simp only [hat, hpl, Option.getD_some, Int.toNat_natCast, hlk2, at0_of hst, lk_of hx, ← hlt, ← hq2]
 rw [hdone]
 obtain ⟨q9, hq9⟩ := some_of_lt (l := c.sent) (i := li) (by rw [hOK.2.sent]; exact hln)
 have hms := hOK.2.ms li q9 m hq9 hm
 have hml1 := linkOK_len hms
 have hil : i < m.length := lt_of_some hx
 have hOK' := hOK
 have hSys := h.sys
 obtain ⟨P1, P2, P3, c1, c2, c3, p1, p2, p3, hd⟩ := cf_openL h.cf
 obtain ⟨d12, d13, d23⟩ := hd trivial
 obtain ⟨a1, e1, ee⟩ := slice_of c1.weak
 subst ee
 obtain ⟨a2, e2, ee⟩ := slice_of c2.weak
 subst ee
 obtain ⟨n1, hn1⟩ : ∃ n, n = c.states.length := ⟨_, rfl⟩
 obtain ⟨n2, hn2⟩ : ∃ n, n = c.links.length := ⟨_, rfl⟩
 rw [← hn1] at c1 h ⊢
 rw [← hn2] at c2 h ⊢
 obtain ⟨sb, ee, hPs, hsbl, hsc, _, _⟩ := c1.slot1 hst
 subst ee
 obtain ⟨lb, Q, ma, mc, ee, e9, hPl, hlbl, hcl, hOl, hQP, hQl, hHm, hF⟩ := lls_focus c2 hm
 clear e9
 subst ee
 obtain ⟨ml, hml⟩ : ∃ n, n = m.length := ⟨_, rfl⟩
 obtain ⟨k1, hk1⟩ : ∃ k, m.length = k + 1 := ⟨m.length - 1, by omega⟩
 rw [← hml] at hcl hHm hil hk1
 obtain ⟨ta, tc, ee⟩ := slice_of h.t
 subst ee
 obtain ⟨ga, gc, ee⟩ := slice_of (has_of_links h.g)
 subst ee
 obtain ⟨tl, htl⟩ : ∃ n, n = A.t.length := ⟨_, rfl⟩
 obtain ⟨gl, hgl⟩ : ∃ n, n = A.l.length := ⟨_, rfl⟩
 rw [← htl, ← hgl] at h
 have hrow : ∃ g0, ma = some ⟨g0, 0, none⟩ ∧ Q g0 := by
  obtain ⟨g0, _, _, ee, hQ0, _⟩ := row_open hHm (by omega)
  exact ⟨g0, ee, hQ0⟩
 obtain ⟨g0, ee, hQg0⟩ := hrow
 subst ee
 obtain ⟨xq, lt0⟩ := x
 simp only at hlt hxe
 subst hlt
 obtain ⟨gb, go, ee, g1, g2⟩ := msg_at (has_of_links h.g) hlk
 subst ee
 have hgb : gb < wb.heap.size := World.block_lt_of_cell? wb _ g1
 have G1 := Lib.hid g1
 have G2 := Lib.hid g2
 have hbl : b < w.heap.size := World.block_lt_of_cell? w _ (hSys.box 2 _ rfl)
 have HT := Lib.hid h.t
 have HLO := Lib.hid h.low
 have HTOP := Lib.hid h.top
 have NPb := Lib.hid h.nb
 have NPm := Lib.hid h.nm
 have BW := Lib.hid h.bel
 have SYS := Lib.hid h.sys
 have C1 := Lib.hid c1
 have C3 := Lib.hid c3
 have HF := Lib.hid hF
 have HHM := Lib.hid hHm
 have HX := Lib.hid hx
 have HP1 := Lib.hid p1
 have HP2 := Lib.hid p2
 have HP3 := Lib.hid p3
 have D12 := Lib.hid d12
 have D13 := Lib.hid d13
 have D23 := Lib.hid d23
 have HQP := Lib.hid hQP
 have HQL := Lib.hid hQl
 have HPL := Lib.hid hPl
 have HPS := Lib.hid hPs
 have HQ0 := Lib.hid hQg0
 have HOw := Lib.hid hOl
 have HCw := Lib.hid hcl
 have HST := Lib.hid hst
 have HQ2 := Lib.hid hq2
 have SMT := Lib.hid hsm
 have HML := Lib.hid hml
 have HK1 : Hid (ml = k1 + 1) := Lib.hid hk1
 have HIL := Lib.hid hil
 have HPLC := Lib.hid hpl
 have RI := Lib.hid (rise_of hms.2.2)
 have hm5 : ml ≤ 1000000 := by omega
 have hil' : (i : Int) < ml := by omega
 have hil2 : i < ml := hil
 have hi5 : i ≤ 500 := by omega
 have hwr : IntKind.i64.wrap ((i : Int) + 1) = (i : Int) + 1 := IntWalk.i64_in _ (by omega)
 have hln2 : li < n2 := by rw [hn2]; exact lt_of_some hm
 have hln3 : (li : Int) < n2 := by omega
 have hgl2 : li < gl := by rw [hgl]; exact hln
 have hgl3 : (li : Int) < gl := by omega
 have htn1 : tn < n1 := by rw [hn1]; exact lt_of_some hst
 have htn2 : (tn : Int) < n1 := by omega
 clear h hSys hOK hOK' hdone hq9 hms hml1 c1 c2 c3 p1 p2 p3 hd d12 d13 d23 hF hHm hx hQP hQl hPl hPs hQg0 hOl hcl hst hq2 hsm hml hk1 hil hpl hm hat he hxe hlk hlk2 hnd hkl hn1 hn2 htl hgl hqk hsc g1 g2
 go_enter Try.func55, Try.ntmps55
 try simp only [List.append_eq, List.cons_append, List.nil_append]
 go_upto_region 1 with fail
 obtain ⟨y0, hy0⟩ : ∃ y, y = w.alloc (.cells #[.int .i64 s0, .int .i64 s1, .int .i64 s2, .int .i64 li, .int .i64 s4] 50) := ⟨_, rfl⟩
 have hb0 : Below w.heap.size w y0 := by rw [hy0]; exact below_new _ _
 have hx0 : BoxAt w.heap.size [.int .i64 s0, .int .i64 s1, .int .i64 s2, .int .i64 li, .int .i64 s4] y0 := by rw [hy0]; exact boxAt_new w [.int .i64 s0, .int .i64 s1, .int .i64 s2, .int .i64 li, .int .i64 s4] _
 have B0 := Lib.hid hb0
 have X0 := Lib.hid hx0
 have hw0 : w.heap.size < y0.heap.size := by rw [hy0]; simp
 rw [← hy0]
 clear hy0 hb0 hx0
 have p3 := X0.out 3 _ rfl
 have p5 := SYS.out.box.below B0.out 5 _ rfl
 have pc := (B0.out.cell (by exact hlbl)).trans HCw.out
 go_quiet (fail)
 obtain ⟨y1, hy1⟩ : ∃ y, y = y0.drewN nq := ⟨_, rfl⟩
 have BY := Lib.hid (show Below y0.heap.size y0 y1 from by rw [hy1]; exact below_drewN (Below.refl _ y0) nq)
 rw [← hy1]
 clear hy1 p3 p5 pc
 have p4 := X0.out.below BY.out 4 _ rfl
 go_wp2_with fail
 refine (place_in m s4 ml (some ⟨g0, 0, none⟩) mc _ ((HHM.out.weak.later B0.out).later BY.out) RI.out ⟨HML.out, hm5⟩).mono ?_
 rintro e w3 ⟨i', fb, rfl, _, hfb, hb⟩
 have hii : fb = true ∧ i = i' := by
  rw [HPLC.out] at hfb
  cases fb with
  | false => cases hfb
  | true => simp at hfb; exact ⟨rfl, hfb⟩
 obtain ⟨hf1, hi1⟩ := hii
 subst hf1
 subst hi1
 have B3 := Lib.hid (below_step' (below_step' B0.out BY.out) hb)
 have X3 := Lib.hid ((X0.out.below BY.out).below hb)
 obtain ⟨_, _, ee, x1, x2⟩ := msg_at (HHM.out.weak.later B3.out) HX.out
 simp only [Option.some.injEq, Addr.mk.injEq, and_true] at ee
 obtain ⟨rfl, rfl⟩ := ee
 rw [Nat.zero_add] at x1 x2
 clear hfb hb p4
 go_upto_region 4 with fail
 obtain ⟨y4, hy4⟩ : ∃ y, y = w3.alloc (.cells #[.int .i64 xq, .int .i64 lt] 56) := ⟨_, rfl⟩
 have hb4 : Below w3.heap.size w3 y4 := by rw [hy4]; exact below_new _ _
 have XM := Lib.hid (show BoxAt w3.heap.size [.int .i64 xq, .int .i64 lt] y4 from by rw [hy4]; exact boxAt_new w3 [.int .i64 xq, .int .i64 lt] _)
 have hz3 : w3.heap.size < y4.heap.size := by rw [hy4]; simp
 have B4 := Lib.hid (below_step' B3.out hb4)
 have X4 := Lib.hid (X3.out.below hb4)
 rw [← hy4]
 clear hy4 hb4 x1 x2
 have hz4 : w.heap.size ≤ w3.heap.size := B3.out.size
 have BW4 := Lib.hid (below_step' BW.out B4.out)
 have HBL4 : Hid (b < y4.heap.size) := Lib.hid (by omega)
 have HW4 : Hid (w.heap.size < y4.heap.size) := Lib.hid (by omega)
 have HLB4 : Hid (lb < y4.heap.size) := Lib.hid (by omega)
 have HPw : Hid (∀ q, P q → wb.heap.size ≤ q) := Lib.hid HLO.out
 have NPw : Hid (¬ P w.heap.size) := Lib.hid (fun h => Nat.lt_irrefl _ (HTOP.out _ h))
 have NBG : Hid (b ≠ g0) := Lib.hid (fun e => NPb.out (by rw [e]; exact HP2.out _ (HQP.out _ HQ0.out)))
 have NWG : Hid (w.heap.size ≠ g0) := Lib.hid (fun e => NPw.out (by rw [e]; exact HP2.out _ (HQP.out _ HQ0.out)))
 have NLB : Hid (lb ≠ b) := Lib.hid (fun e => NPb.out (by rw [← e]; exact HP2.out _ HPL.out))
 have NLW : Hid (lb ≠ w.heap.size) := Lib.hid (by omega)
 have HQM := Lib.hid (HHM.out.later B4.out)
 have HCL : Hid (y4.cell? ⟨lb, li, none⟩ = some (.slice (some ⟨g0, 0, none⟩) ml mc)) := Lib.hid ((B4.out.cell (by exact hlbl)).trans HCw.out)
 have HOL := Lib.hid (HOw.out.same (SameOn.of_below (P := fun _ => True) B4.out) trivial hlbl)
 have K5 : Hid (y4.cell? ⟨b, 5, none⟩ = some (.slice (some ⟨lb, 0, none⟩) n2 e2)) := Lib.hid (SYS.out.box.below B4.out 5 _ rfl)
 have K3 : Hid (y4.cell? ⟨w.heap.size, 3, none⟩ = some (.int .i64 li)) := Lib.hid (X4.out 3 _ rfl)
 refine wp_region_held_drew (S := (fun w' => w'.cell? ⟨b, 5, none⟩ = some (.slice (some ⟨lb, 0, none⟩) n2 e2) ∧ w'.cell? ⟨w.heap.size, 3, none⟩ = some (.int .i64 li))) (by kernel_rfl) ?_ (fun hHeld => ?_)
 ·exact ⟨K5.out, K3.out⟩
 refine tq 0 ?_
 refine tq 1 ?_
 refine tq 2 ?_
 refine tq 3 ?_
 refine tq 4 ?_
 refine tq 5 ?_
 refine tq 6 ?_
 refine tq 7 ?_
 refine tq 8 ?_
 refine tq 9 ?_
 refine tq 10 ?_
 refine rd 11 fun K hK => ?_
 go_simp
 refine (delete_at m i (some ⟨g0, 0, none⟩) ml mc _ (HQM.out.later (below_drewN (Below.refl _ y4) 1)) k1 HML.out HK1.out HIL.out (by omega)).mono ?_
 rintro e w5 ⟨g, hg, hQg, rfl, hD, hgr⟩
 simp only [Option.some.injEq, Addr.mk.injEq, and_true] at hg
 subst hg
 have HSD : Hid (SameOn (fun q => q ≠ g0) y4 w5) := Lib.hid ⟨hgr.size, fun b hb hlt => hgr.block b hlt (fun e => by cases e; exact hb rfl)⟩
 have BWD := Lib.hid ((below_drewN BW4.out 1).grown hgr (below_drewN BW4.out 1).size (fun k hk => by cases hk; exact HPw.out _ (HP2.out _ (HQP.out _ hQg))))
 have HDD := Lib.hid hD
 have HQG := Lib.hid hQg
 clear hD hQg hgr
 go_wp2_with fail
 refine hK.out _ _ ?_ (fun hHeld => ?_)
 ·exact ⟨(HSD.out.cell (a := ⟨b, 5, none⟩) NBG.out (by exact HBL4.out)).trans K5.out, (HSD.out.cell (a := ⟨w.heap.size, 3, none⟩) NWG.out (by exact HW4.out)).trans K3.out⟩
 clear hK K
 try simp only [Act.put, List.getElem_toArray, List.getElem_cons_zero, List.getElem_cons_succ, List.setIfInBounds_toArray, List.set_cons_zero, List.set_cons_succ]
 refine tq 12 ?_
 refine rd 13 fun K hK => ?_
 have hne : lb ≠ g0 := fun e => HQL.out (by rw [e]; exact HQG.out)
 have z0 : w5.cell? ⟨lb, li, none⟩ = some (.slice (some ⟨g0, 0, none⟩) ml mc) := (HSD.out.cell (a := ⟨lb, li, none⟩) hne (by exact HLB4.out)).trans HCL.out
 have f0 : w5.frozen? ⟨lb, li, none⟩ = false := (HSD.out.frozen (a := ⟨lb, li, none⟩) hne (by exact HLB4.out)).trans (HOL.out.frozen _)
 have HNE := Lib.hid hne
 clear hne
 have KD := Lib.hid (show (w5.cell? ⟨b, 5, none⟩ = some (.slice (some ⟨lb, 0, none⟩) n2 e2)) ∧ (w5.cell? ⟨w.heap.size, 3, none⟩ = some (.int .i64 li)) from ⟨(HSD.out.cell (a := ⟨b, 5, none⟩) NBG.out (by exact HBL4.out)).trans K5.out, (HSD.out.cell (a := ⟨w.heap.size, 3, none⟩) NWG.out (by exact HW4.out)).trans K3.out⟩)
 go_simp
 clear z0 f0
 refine hK.out _ _ ?_ (fun hHeld => ?_)
 ·exact ⟨set_far (.inl NLB.out) (KD.out.1), set_far (.inl NLW.out) (KD.out.2)⟩
 clear hK K
 try simp only [Act.put, List.getElem_toArray, List.getElem_cons_zero, List.getElem_cons_succ, List.setIfInBounds_toArray, List.set_cons_zero, List.set_cons_succ]
 refine wpAnyH_done (by kernel_rfl) ?_ _
 obtain ⟨y6, hy6⟩ : ∃ y, y = w5.setCell ⟨lb, li, none⟩ (.slice (some ⟨g0, 0, none⟩) k1 mc) := ⟨_, rfl⟩
 have SW5 : Hid (SameOn (fun q => q ≠ g0) w w5) := Lib.hid ((SameOn.of_below B4.out).trans HSD.out)
 have SW6 : Hid (SameOn (fun q => ¬ P2 q) w y6) := Lib.hid (by rw [hy6]; exact (SW5.out.sub (fun q hq e => hq (by rw [e]; exact HQP.out _ HQ0.out))).set _ _ (fun h => h HPL.out))
 have H2 := Lib.hid (show Holds True (fun q => P2 q ∨ Q q) y6 (.slice (some ⟨lb, 0, none⟩) n2 e2) (dLls (c.links.set li (m.eraseIdx i))) from by
  rw [hy6]
  exact HF.out w5 _ _ Q (SW5.out.sub (fun q hq e => hq.2 (by rw [e]; exact HQ0.out))) HDD.out (fun q hq => ⟨fun e => HQL.out (by rw [← e]; exact hq), .inl hq⟩))
 have H1 := Lib.hid (C1.out.same (SW6.out.sub (fun q hq => D12.out q hq)))
 have H3 := Lib.hid (C3.out.same (SW6.out.sub (fun q hq h => D23.out q h hq)))
 have BW6 : Hid (Below wb.heap.size wb y6) := Lib.hid (by rw [hy6]; exact BWD.out.setCell (HLO.out _ (HP2.out _ HPL.out)) _)
 have SYS6 := Lib.hid (SYS.out.same (SW6.out.sub (P' := fun q => ¬ P q) (fun q hq h => hq (HP2.out q h))) NPb.out NPm.out)
 have XM6 : Hid (BoxAt w3.heap.size [.int .i64 xq, .int .i64 lt] y6) := Lib.hid (by
  rw [hy6]
  intro j v e
  have hg : w3.heap.size ≠ g0 := fun e => by have := HTOP.out _ (HP2.out _ (HQP.out _ HQ0.out)); omega
  exact set_far (.inl (by show lb ≠ w3.heap.size; omega)) ((HSD.out.cell (a := ⟨w3.heap.size, j, none⟩) hg (by exact hz3)).trans (XM.out j v e)))
 have K63 : Hid (y6.cell? ⟨w.heap.size, 3, none⟩ = some (.int .i64 li)) := Lib.hid (by rw [hy6]; exact set_far (.inl (by show lb ≠ w.heap.size; omega)) KD.out.2)
 have hz6 : y4.heap.size ≤ y6.heap.size := by rw [hy6]; simp; exact HSD.out.1
 rw [← hy6]
 clear hy6
 have k1s := SYS6.out.box 1 _ rfl
 have k3s := K63.out
 have gg1 := (BW6.out.cell (by exact hgb)).trans G1.out
 have gg2 := (BW6.out.cell (by exact hgb)).trans G2.out
 go_wp2_with fail
 go_quiet (fail)
 obtain ⟨y7, hy7⟩ : ∃ y, y = y6.drewN nq := ⟨_, rfl⟩
 have B7 := Lib.hid (show Below y6.heap.size y6 y7 from by rw [hy7]; exact below_drewN (Below.refl _ y6) nq)
 rw [← hy7]
 clear hy7 k1s k3s gg1 gg2
 have HT7 := Lib.hid (HT.out.later (below_step' BW6.out B7.out))
 obtain ⟨sb', ee, _, hsb6, hsc6, hfz6, _⟩ := H1.out.slot1 HST.out
 simp only [Option.some.injEq, Addr.mk.injEq, and_true] at ee
 subst ee
 have HSC7 : Hid (∀ w', Below y7.heap.size y7 w' → w'.cell? ⟨sb, tn, none⟩ = some (.int .i64 q)) := Lib.hid (fun w' hb => ((below_step' B7.out hb).cell (by exact hsb6)).trans hsc6)
 have HFZ7 : Hid (∀ w', Below y7.heap.size y7 w' → w'.frozen? ⟨sb, tn, none⟩ = false) := Lib.hid (fun w' hb => (World.frozen?_of_block (a := ⟨sb, tn, none⟩) ((below_step' B7.out hb).block _ hsb6)).trans hfz6)
 have hsw : sb < w.heap.size := HTOP.out _ (HP1.out _ HPS.out)
 have HSB : Hid (sb ≠ b) := Lib.hid (fun e => NPb.out (by rw [← e]; exact HP1.out _ HPS.out))
 have HSM : Hid (sb ≠ w3.heap.size) := Lib.hid (by omega)
 clear hsc6 hfz6 hsb6
 obtain ⟨bm, hbm⟩ : ∃ n, n = w3.heap.size := ⟨_, rfl⟩
 have Q6 : Hid (∀ w', Below y7.heap.size y7 w' → w'.cell? ⟨b, 4, none⟩ = some (.slice (some ⟨sb, 0, none⟩) n1 e1) ∧ w'.cell? ⟨b, 2, none⟩ = some (.slice ta tl tc) ∧ w'.cell? ⟨w3.heap.size, 1, none⟩ = some (.int .i64 lt)) := Lib.hid (fun w' hb => ⟨SYS6.out.box.below (below_step' B7.out hb) 4 _ rfl, SYS6.out.box.below (below_step' B7.out hb) 2 _ rfl, XM6.out.below (below_step' B7.out hb) 1 _ rfl⟩)
 clear hbm bm
 go_wp2_with fail
 refine wp_region_held_drew (S := (fun w' => w'.cell? ⟨b, 4, none⟩ = some (.slice (some ⟨sb, 0, none⟩) n1 e1) ∧ w'.cell? ⟨b, 2, none⟩ = some (.slice ta tl tc) ∧ w'.cell? ⟨w3.heap.size, 1, none⟩ = some (.int .i64 lt))) (by kernel_rfl) ?_ (fun hHeld => ?_)
 ·exact Q6.out _ (below_drewN (Below.refl _ y7) 1)
 refine tq 0 ?_
 refine tq 1 ?_
 refine tq 2 ?_
 refine tq 3 ?_
 refine tq 4 ?_
 refine tq 5 ?_
 refine tq 6 ?_
 refine tq 7 ?_
 refine tq 8 ?_
 refine tq 9 ?_
 refine tq 10 ?_
 refine tq 11 ?_
 refine tq 12 ?_
 refine tq 13 ?_
 refine tq 14 ?_
 refine tq 15 ?_
 refine tq 16 ?_
 refine tq 17 ?_
 refine tq 18 ?_
 refine tq 20 ?_
 refine tq 21 ?_
 refine tq 22 ?_
 refine rd 19 fun K hK => ?_
 have z0 := HSC7.out _ (Below.refl _ y7)
 go_simp
 clear z0
 refine hK.out _ _ ?_ (fun hHeld => ?_)
 ·exact Q6.out _ (below_drewN (Below.refl _ y7) 1)
 clear hK K
 try simp only [Act.put, List.getElem_toArray, List.getElem_cons_zero, List.getElem_cons_succ, List.setIfInBounds_toArray, List.set_cons_zero, List.set_cons_succ]
 refine rd 23 fun K hK => ?_
 go_simp
 refine (taken_at A.t tn q fr lt _ _ (HT7.out.later (below_drewN (Below.refl _ y7) 1)) (smallSt_at SMT.out _ _).2.2.1).mono ?_
 rintro e w8 ⟨rfl, hb⟩
 rw [← HQ2.out]
 have B8 := Lib.hid (below_step' (below_drewN (Below.refl _ y7) 1) hb)
 clear hb
 go_wp2_with fail
 refine hK.out _ _ ?_ (fun hHeld => ?_)
 ·exact Q6.out _ B8.out
 clear hK K
 try simp only [Act.put, List.getElem_toArray, List.getElem_cons_zero, List.getElem_cons_succ, List.setIfInBounds_toArray, List.set_cons_zero, List.set_cons_succ]
 refine tq 24 ?_
 refine rd 25 fun K hK => ?_
 have z0 := HSC7.out _ B8.out
 have f0 : w8.frozen? ⟨sb, tn, none⟩ = false := HFZ7.out _ B8.out
 have KQ := Lib.hid (Q6.out _ B8.out)
 go_simp
 clear z0 f0
 refine hK.out _ _ ?_ (fun hHeld => ?_)
 ·exact ⟨set_far (.inl HSB.out) KQ.out.1, set_far (.inl HSB.out) KQ.out.2.1, set_far (.inl HSM.out) KQ.out.2.2⟩
 clear hK K
 try simp only [Act.put, List.getElem_toArray, List.getElem_cons_zero, List.getElem_cons_succ, List.setIfInBounds_toArray, List.set_cons_zero, List.set_cons_succ]
 refine wpAnyH_done (by kernel_rfl) ?_ _
 have H18 := H1.out.later (below_step' B7.out B8.out)
 have hS8 : SameOn (fun q => ¬ P2 q) w w8 := SW6.out.trans (SameOn.of_below (below_step' B7.out B8.out))
 obtain ⟨sb2, ee, hPs2, _, _, _, hset⟩ := H18.slot1 HST.out
 simp only [Option.some.injEq, Addr.mk.injEq, and_true] at ee
 subst ee
 have h1f := hset q2
 have hne12 : ∀ q, P2 q → q ≠ sb := fun q hq e => D12.out _ HPS.out (by rw [← e]; exact hq)
 have h2f := ((H2.out.later (below_step' B7.out B8.out)).same ((SameOn.refl (fun q => P2 q ∨ Q q) w8).set ⟨sb, tn, none⟩ (.int .i64 q2) (fun h => h.elim (fun h => hne12 _ h rfl) (fun h => hne12 _ (HQP.out _ h) rfl))))
 have h3f := ((H3.out.later (below_step' B7.out B8.out)).same ((SameOn.refl P3 w8).set ⟨sb, tn, none⟩ (.int .i64 q2) (fun h => D13.out _ HPS.out h)))
 have hfin := cf_mkL (P := P) (c := ⟨c.states.set tn q2, c.links.set li (m.eraseIdx i), c.sent⟩) h1f h2f h3f HP1.out (fun q h => h.elim (HP2.out q) (fun h => HP2.out q (HQP.out q h))) HP3.out (fun q h h' => h'.elim (D12.out q h) (fun h' => D12.out q h (HQP.out q h'))) D13.out (fun q h h' => h.elim (fun h => D23.out q h h') (fun h => D23.out q (HQP.out q h) h'))
 have hsame : SameOn (fun q => ¬ P q) w (w8.setCell ⟨sb, tn, none⟩ (.int .i64 q2)) := (hS8.sub (fun q hq h => hq (HP2.out q h))).set _ _ (fun h => h (HP1.out _ HPS.out))
 have hbel : Below wb.heap.size wb (w8.setCell ⟨sb, tn, none⟩ (.int .i64 q2)) := (below_step' (below_step' BW6.out B7.out) B8.out).setCell (HLO.out _ (HP1.out _ HPS.out)) _
 have HFIN := Lib.hid hfin
 have HSAM := Lib.hid hsame
 have HBEL := Lib.hid hbel
 clear H18 hS8 hset h1f hne12 h2f h3f hfin hsame hbel hPs2
 go_wp2_with fail
 go_end0
 exact ⟨rfl, ⟨P, HFIN.out, fun q h => .inl h⟩, HSAM.out, HBEL.out⟩
end Go.Proofs.Ytennbiajnkobnaa

