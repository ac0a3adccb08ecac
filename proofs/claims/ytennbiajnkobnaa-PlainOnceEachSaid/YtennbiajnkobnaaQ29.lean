/- Texts put together. -/
import Derived.Test.YtennbiajnkobnaaQ02
import Derived.Test.YtennbiajnkobnaaQ13
import Derived.Test.YtennbiajnkobnaaQ28
import Derived.BigQuiet
import Derived.BigRegion
namespace Go.Proofs.Ytennbiajnkobnaa
/-- What comes to a link's end. -/
def appOf (L : Lks) (n : Int) : Lks → List Int → Nat → Lks
 | [], _, _ => []
 | m :: r, S, j => (if j = (findL L (n, m.1)).toNat then [(at0 S (findL L (n, m.1)) + 1, m.2)] else []) ++ appOf L n r (S.set (findL L (n, m.1)).toNat (at0 S (findL L (n, m.1)) + 1)) j
def sentOf (L : Lks) (n : Int) : Lks → List Int → List Int
 | [], S => S
 | m :: r, S => sentOf L n r (S.set (findL L (n, m.1)).toNat (at0 S (findL L (n, m.1)) + 1))
theorem set_map_idx (ls : List Lks) (i : Nat) (x : Int × Int) : ls.set i (ls.getD i [] ++ [x]) = ls.mapIdx (fun j m => m ++ if j = i then [x] else []) := by
 apply List.ext_getElem?
 intro j
 rw [List.getElem?_mapIdx, List.getElem?_set]
 split
 ·next e =>
  subst e
  split
  ·next h => simp [List.getD, h]
  ·next h => simp at h; simp [h]
 ·next e =>
  have e' : ¬ j = i := fun h => e h.symm
  simp [e']
theorem sendAll_eq (L : Lks) (n : Int) (ms : Lks) : ∀ (ls : List Lks) (S : List Int), sendAll L n ms (ls, S) = (ls.mapIdx (fun j m => m ++ appOf L n ms S j), sentOf L n ms S) := by
 induction ms with
 | nil =>
  intro ls S
  have e : ls.mapIdx (fun _ m => m) = ls := by
   apply List.ext_getElem?
   intro j
   rw [List.getElem?_mapIdx]
   cases ls[j]? <;> rfl
  simp [sendAll, appOf, sentOf, e]
 | cons m r ih =>
  intro ls S
  show sendAll L n r (send1 L n (ls, S) m) = _
  unfold send1
  rw [ih]
  simp only [sentOf, Prod.mk.injEq, and_true]
  unfold atL
  rw [set_map_idx, List.mapIdx_mapIdx]
  congr 1
  funext j x
  simp [appOf, Function.comp]
theorem donePick_eq (A : Ap) (c : Cf) (s : Sp) : donePick A c s = ⟨c.states.set s.node.toNat (pickAt (stC A c s.node) s.k).next, c.links.mapIdx (fun j m => m ++ appOf A.l s.node (pickAt (stC A c s.node) s.k).sends c.sent j), sentOf A.l s.node (pickAt (stC A c s.node) s.k).sends c.sent⟩ := by
 unfold donePick; rw [sendAll_eq]
end Go.Proofs.Ytennbiajnkobnaa

set_option linter.unusedSimpArgs false
set_option linter.unusedVariables false
namespace Go.Proofs.Ytennbiajnkobnaa
open Go.RowKit Go.PlainAid
/-- What the system is made of, to read. -/
structure SysR (A : Ap) (c : Cf) (b mb : Nat) (vG vT v1 v2 v3 : Value) (w : World) : Prop where
 sys : SysAt b mb A.n vG vT A.ff v1 v2 v3 w
 g : LinksAt w vG A.l
 t : Has w vT (dTab A.t)
 s : Has w v1 (dInts c.states)
 l : Has w v2 (dLls c.links)
 q : Has w v3 (dInts c.sent)
theorem SysR.below {A : Ap} {c : Cf} {b mb : Nat} {vG vT v1 v2 v3 : Value} {w w' : World} (h : SysR A c b mb vG vT v1 v2 v3 w) (hb : Below w.heap.size w w') : SysR A c b mb vG vT v1 v2 v3 w' :=
 ⟨h.sys.below hb, h.g.below hb, h.t.later hb, h.s.later hb, h.l.later hb, h.q.later hb⟩
/-- What a call tells that says what is in the way. -/
def MayIs (e0 : Int) (w : World) (e : Ending) (w' : World) : Prop := e = .returned (.int .i64 e0) ∧ Below w.heap.size w w'
theorem sent_low {A : Ap} {c : Cf} (h : CfOK A c) : ∀ (i : Nat) (x : Int), c.sent[i]? = some x → 0 ≤ x ∧ x ≤ 500 := by
 intro i x hx
 obtain ⟨m, hm⟩ := get_of_lt (l := c.links) (i := i) (by have := lt_of_get hx; have := h.2.sent; have := h.2.links; omega)
 have := h.2.ms i x m hx hm
 exact ⟨this.1, this.2.1⟩
theorem slices_of {A : Ap} {c : Cf} {b mb : Nat} {vG vT v1 v2 v3 : Value} {w : World} (h : SysR A c b mb vG vT v1 v2 v3 w) : ∃ (ga ta a1 a2 a3 : Option Addr) (gc tc e1 e2 e3 : Nat), vG = .slice ga A.l.length gc ∧ vT = .slice ta A.t.length tc ∧ v1 = .slice a1 c.states.length e1 ∧ v2 = .slice a2 c.links.length e2 ∧ v3 = .slice a3 c.sent.length e3 := by
 obtain ⟨ga, gc, rfl⟩ := slice_of (has_of_links h.g)
 obtain ⟨ta, tc, rfl⟩ := slice_of h.t
 obtain ⟨a1, e1, rfl⟩ := slice_of h.s
 obtain ⟨a2, e2, rfl⟩ := slice_of h.l
 obtain ⟨a3, e3, rfl⟩ := slice_of h.q
 exact ⟨_, _, _, _, _, _, _, _, _, _, rfl, rfl, rfl, rfl, rfl⟩
theorem bigAt_cons (L : Lks) (n : Int) (m : Int × Int) (r : Lks) (S : List Int) : bigAt L n (m :: r) S = (decide (500 < at0 S (findL L (n, m.1)) + 1) || bigAt L n r (S.set (findL L (n, m.1)).toNat (at0 S (findL L (n, m.1)) + 1))) := rfl
set_option maxHeartbeats 8000000 in
set_option maxRecDepth 100000 in
theorem mayPick_at (A : Ap) (c : Cf) (hOK : CfOK A c) (hsm : SmallTab A.t) (s0 s1 s2 s3 s4 : Int) (b mb : Nat) (vG vT v1 v2 v3 : Value) (w : World) (h : SysR A c b mb vG vT v1 v2 v3 w) :
  Calls Try.prog 52 #[.pointer (some ⟨b, 0, none⟩), .agg #[.int .i64 s0, .int .i64 s1, .int .i64 s2, .int .i64 s3, .int .i64 s4]] w fun e w' => MayIs (errPick A c ⟨s0, s1, s2, s3, s4⟩) w e w' := by
 obtain ⟨ga, ta, a1, a2, a3, gc, tc, e1, e2, e3, rfl, rfl, rfl, rfl, rfl⟩ := slices_of h
 obtain ⟨N, hN⟩ : ∃ N, N = A.n := ⟨_, rfl⟩
 obtain ⟨L, hL⟩ : ∃ L, L = A.l := ⟨_, rfl⟩
 obtain ⟨M, hM⟩ : ∃ M, M = A.t := ⟨_, rfl⟩
 obtain ⟨gl, hgl⟩ : ∃ n, n = A.l.length := ⟨_, rfl⟩
 obtain ⟨tl, htl⟩ : ∃ n, n = A.t.length := ⟨_, rfl⟩
 obtain ⟨n1, hn1⟩ : ∃ n, n = c.states.length := ⟨_, rfl⟩
 obtain ⟨n2, hn2⟩ : ∃ n, n = c.links.length := ⟨_, rfl⟩
 obtain ⟨n3, hn3⟩ : ∃ n, n = c.sent.length := ⟨_, rfl⟩
 rw [← hgl, ← htl, ← hn1, ← hn2, ← hn3] at h
 obtain ⟨ep, hep⟩ : ∃ e, e = errPick A c ⟨s0, s1, s2, s3, s4⟩ := ⟨_, rfl⟩
 rw [← hep]
 have EP := Lib.hid hep
 have OK := Lib.hid hOK
 have SR := Lib.hid h
 have N1 := Lib.hid hn1
 have N3 := Lib.hid hn3
 have HNn := Lib.hid hN
 have HLl := Lib.hid hL
 have HMm := Lib.hid hM
 have GL := Lib.hid hgl
 have hbl : b < w.heap.size := World.block_lt_of_cell? w _ (h.sys.box 2 _ rfl)
 have hln : L.length ≤ 1000000 := by have := hOK.1.1.2.2.1; rw [hL]; omega
 clear hOK h hgl htl hn1 hn2 hn3 hep hN hL hM
 go_enter Try.func52, Try.ntmps52
 try simp only [List.append_eq, List.cons_append, List.nil_append]
 go_upto_region 1 with fail
 obtain ⟨y0, hy0⟩ : ∃ y, y = w.alloc (.cells #[.int .i64 s0, .int .i64 s1, .int .i64 s2, .int .i64 s3, .int .i64 s4] 50) := ⟨_, rfl⟩
 have hb0 : Below w.heap.size w y0 := by rw [hy0]; exact below_new _ _
 have hx0 : BoxAt w.heap.size [.int .i64 s0, .int .i64 s1, .int .i64 s2, .int .i64 s3, .int .i64 s4] y0 := by rw [hy0]; exact boxAt_new w [.int .i64 s0, .int .i64 s1, .int .i64 s2, .int .i64 s3, .int .i64 s4] _
 have B0 := Lib.hid hb0
 have X0 := Lib.hid hx0
 replace SR := Lib.hid (SR.out.below hb0)
 rw [← hy0]
 clear hy0 hb0 hx0
 have p1 := X0.out 1 _ rfl
 have p4 := SR.out.sys.box 4 _ rfl
 by_cases g1 : s1 < 0
 ·have g1' : decide (s1 < 0) = true := by simpa using g1
  have hr : ep = 1 := by rw [EP.out]; unfold errPick; rw [if_pos (.inl g1)]
  subst hr
  go_quiet (fail)
  go_wp2_with fail
  go_ret
  exact ⟨rfl, below_step' B0.out (below_drewN (Below.refl _ y0) nq)⟩
 ·have g1' : decide (s1 < 0) = false := by simpa using g1
  by_cases g2 : (n1 : Int) ≤ s1
  ·have g2' : decide ((n1 : Int) ≤ s1) = true := by simpa using g2
   have hr : ep = 1 := by rw [EP.out]; unfold errPick; rw [if_pos (.inr (by rw [← N1.out]; exact g2))]
   subst hr
   go_quiet (fail)
   go_wp2_with fail
   go_ret
   exact ⟨rfl, below_step' B0.out (below_drewN (Below.refl _ y0) nq)⟩
  ·have g2' : decide ((n1 : Int) ≤ s1) = false := by simpa using g2
   have hin : 0 ≤ s1 ∧ s1 < c.states.length := by have := N1.out; omega
   have hE : ep = if (stC A c s1).mode ≠ 1 then 8 else if isPick (stC A c s1) s2 = false then 3 else if bigAt A.l s1 (pickAt (stC A c s1) s2).sends c.sent then 2 else 0 := by
    rw [EP.out]; unfold errPick; rw [if_neg (by show ¬ (s1 < 0 ∨ (c.states.length : Int) ≤ s1); omega)]
   have EE := Lib.hid hE
   obtain ⟨node, k, x, hnode, hx, hk, hkl, hst, hP⟩ := pick_facts OK.out hin.1 hin.2
   have hq : stC A c s1 = stAt M node k := by unfold stC; rw [hk, HMm.out, hnode]
   subst hnode
   obtain ⟨q, hqk⟩ : ∃ q : Int, q = (k : Int) := ⟨_, rfl⟩
   rw [← hqk] at hst hq
   have HQ0 := Lib.hid (hk.trans hqk.symm)
   obtain ⟨sb, so, e, hc⟩ := num_at SR.out.s hst
   subst e
   have HC := Lib.hid hc
   have HSQ := Lib.hid hq
   have PL := Lib.hid hP
   have HIN := Lib.hid hin
   obtain ⟨md, hmd⟩ : ∃ m, m = (stAt M node q).mode := ⟨_, rfl⟩
   have MD := Lib.hid hmd.symm
   have hnl : node < n1 := by omega
   have hnl' : (node : Int) < n1 := by omega
   have HT := Lib.hid (show Has y0 (.slice ta tl tc) (dTab M) from by rw [HMm.out]; exact SR.out.t)
   have hsl : sb < y0.heap.size := World.block_lt_of_cell? y0 _ hc
   clear hE hx hk hkl hst hP hq hin hmd hc hqk
   go_quiet (fail)
   obtain ⟨y1, hy1⟩ : ∃ y, y = y0.drewN nq := ⟨_, rfl⟩
   have BY := Lib.hid (show Below y0.heap.size y0 y1 from by rw [hy1]; exact below_drewN (Below.refl _ y0) nq)
   rw [← hy1]
   clear hy1 p1 p4
   have Q3 : Hid (∀ w', Below y0.heap.size y0 w' → w'.cell? ⟨b, 2, none⟩ = some (.slice ta tl tc) ∧ w'.cell? ⟨b, 4, none⟩ = some (.slice (some ⟨sb, so, none⟩) n1 e1) ∧ w'.cell? ⟨w.heap.size, 1, none⟩ = some (.int .i64 node) ∧ w'.cell? ⟨sb, so + node, none⟩ = some (.int .i64 q)) := Lib.hid (fun w' hb => ⟨SR.out.sys.box.below hb 2 _ rfl, SR.out.sys.box.below hb 4 _ rfl, X0.out.below hb 1 _ rfl, (hb.cell (by exact hsl)).trans HC.out⟩)
   go_wp2_with fail
   refine wp_region_held_drew (S := (fun w' => w'.cell? ⟨b, 2, none⟩ = some (.slice ta tl tc) ∧ w'.cell? ⟨b, 4, none⟩ = some (.slice (some ⟨sb, so, none⟩) n1 e1) ∧ w'.cell? ⟨w.heap.size, 1, none⟩ = some (.int .i64 node) ∧ w'.cell? ⟨sb, so + node, none⟩ = some (.int .i64 q))) (by kernel_rfl) ?_ (fun hHeld => ?_)
   ·exact Q3.out _ (below_step' BY.out (below_drewN (Below.refl _ y1) 1))
   refine tq 0 ?_
   refine tq 1 ?_
   refine tq 2 ?_
   refine tq 3 ?_
   refine tq 4 ?_
   refine tq 5 ?_
   refine tq 6 ?_
   refine tq 7 ?_
   refine tq 8 ?_
   refine tq 9 ?_
   refine tq 10 ?_
   refine tq 11 ?_
   refine tq 12 ?_
   refine tq 13 ?_
   refine tq 14 ?_
   refine tq 15 ?_
   refine rd 16 fun K hK => ?_
   go_simp
   refine (mode_is M node q md _ _ (HT.out.later (below_step' BY.out (below_drewN (Below.refl _ y1) 1))) MD.out).mono ?_
   rintro e w3 ⟨rfl, hb⟩
   have B3 := Lib.hid (below_step' BY.out (below_step' (below_drewN (Below.refl _ y1) 1) hb))
   clear hb
   go_wp2_with fail
   refine hK.out _ _ ?_ (fun hHeld => ?_)
   ·exact Q3.out _ B3.out
   clear hK K
   try simp only [Act.put, List.getElem_toArray, List.getElem_cons_zero, List.getElem_cons_succ, List.setIfInBounds_toArray, List.set_cons_zero, List.set_cons_succ]
   refine tq 17 ?_
   refine wpAnyH_done (by kernel_rfl) ?_ _
   by_cases hm : md = 1
   ·subst hm
    have x0 := X0.out.below B3.out 0 _ rfl
    have x1 := X0.out.below B3.out 1 _ rfl
    have x2 := X0.out.below B3.out 2 _ rfl
    have x3 := X0.out.below B3.out 3 _ rfl
    have x4 := X0.out.below B3.out 4 _ rfl
    go_wp2_with fail
    refine (sysPicked_at A.t c.states s0 node s2 s3 s4 b mb A.n (.slice ga gl gc) A.ff ta (some ⟨sb, so, none⟩) tl tc n1 e1 (.slice a2 n2 e2) (.slice a3 n3 e3) _ (SR.out.sys.below B3.out) (SR.out.t.later B3.out) (SR.out.s.later B3.out) hsm HIN.out.1 HIN.out.2).mono ?_
    rintro e w5 ⟨u, rfl, hu, hb⟩
    clear x0 x1 x2 x3 x4
    obtain ⟨p, hp⟩ : ∃ p, p = pickAt (stC A c node) s2 := ⟨_, rfl⟩
    obtain ⟨pi, hpi⟩ : ∃ p, p = isPick (stC A c node) s2 := ⟨_, rfl⟩
    have hst2 : stAt A.t node (at0 c.states node) = stC A c node := rfl
    rw [hst2, ← hp] at hu
    rw [hst2, ← hp, ← hpi]
    obtain ⟨ua, uc, e⟩ := slice_of hu.weak
    subst e
    obtain ⟨ul, hul⟩ : ∃ n, n = p.sends.length := ⟨_, rfl⟩
    obtain ⟨pn, hpn⟩ : ∃ n, n = p.next := ⟨_, rfl⟩
    unfold pkv
    rw [← hul] at hu ⊢
    rw [← hpn]
    have B5 := Lib.hid (below_step' B3.out hb)
    have HU := Lib.hid hu.weak
    have UL := Lib.hid hul
    have PP := Lib.hid hp
    have PI := Lib.hid hpi
    clear hb hu hul hp hpi hst2 hpn
    have p6 : ∀ o, (w5.alloc o).cell? ⟨b, 6, none⟩ = some (.slice a3 n3 e3) := fun o => cell_more (SR.out.sys.box.below B5.out 6 _ rfl) o
    cases pi with
    | false =>
     have hr : ep = 3 := by rw [EE.out, HSQ.out, if_neg (by rw [MD.out]; simp), ← HSQ.out, if_pos PI.out.symm]
     subst hr
     go_wp2_with fail
     go_ret
     exact ⟨rfl, below_step' B0.out (below_step' B5.out (below_new _ _))⟩
    | true =>
     have hE2 : ep = if bigAt L node p.sends c.sent then 2 else 0 := by
      rw [EE.out, HSQ.out, if_neg (by rw [MD.out]; simp), ← HSQ.out, if_neg (by rw [← PI.out]; simp), ← PP.out, HLl.out]
     obtain ⟨big, hbig⟩ : ∃ x, x = bigAt L node p.sends c.sent := ⟨_, rfl⟩
     rw [← hbig] at hE2
     have E2 := Lib.hid hE2
     have BG := Lib.hid hbig.symm
     have hu4 : ul ≤ 4 := by
      obtain ⟨j, p', _, hp', hpa⟩ := pickAt_get PI.out.symm
      have hpp : p' = p := by rw [PP.out]; exact hpa.symm
      subst hpp
      rw [UL.out]
      exact (PL.out.2.2.1.2.2 j p' hp').2.1
     have hgoes : ∀ m ∈ p.sends, Goes L node m.1 m.2 := by
      obtain ⟨j, p', _, hp', hpa⟩ := pickAt_get PI.out.symm
      have hpp : p' = p := by rw [PP.out]; exact hpa.symm
      subst hpp
      have hse := (PL.out.2.2.1.2.2 j p' hp').2.2
      intro m hm
      obtain ⟨r, hr⟩ := List.mem_iff_getElem?.1 hm
      rw [HLl.out]
      exact hse r m hr
     have GO := Lib.hid hgoes
     clear hE2 hbig hgoes
     go_wp2_with fail
     refine (clone_ints _ c.sent _ (SR.out.q.later (below_step' B5.out (below_new _ _))) (by rw [OK.out.2.sent]; have := OK.out.1.1.2.2.1; omega)).mono ?_
     rintro e y7 ⟨u7, rfl, hu7, hb7⟩
     obtain ⟨ca, cc, e⟩ := slice_of hu7.weak
     subst e
     rw [← N3.out] at hu7 ⊢
     obtain ⟨y6, hy6⟩ : ∃ y, y = w5.alloc (.cells #[.int .i64 pn, .slice ua ul uc] 123) := ⟨_, rfl⟩
     have hx6 : BoxAt w5.heap.size [.int .i64 pn, .slice ua ul uc] y6 := by rw [hy6]; exact boxAt_new w5 [.int .i64 pn, .slice ua ul uc] _
     have hb56 : Below w5.heap.size w5 y6 := by rw [hy6]; exact below_new _ _
     rw [← hy6] at hu7 hb7
     have hq1 := hx6.below hb7 1 _ rfl
     have CL := Lib.hid (hu7.wide (P' := fun q => y6.heap.size ≤ q ∧ q < y7.heap.size) (fun q hq h => ⟨h, hq⟩))
     have B6 := Lib.hid (below_step' B5.out hb56)
     have B7 := Lib.hid hb7
     replace HU := Lib.hid ((HU.out.later hb56))
     clear p6 hu7 hb7 hy6 hb56 hx6
     go_wp2_with fail
     clear hq1
     go_loopw [60] (fun i wr => ∃ (j : Nat) (T : List Int), i = .int .i64 j ∧ j ≤ ul ∧ T.length = n3 ∧ bigAt L node (p.sends.drop j) T = big ∧ (∀ (i : Nat) (x : Int), T[i]? = some x → 0 ≤ x ∧ x ≤ 500) ∧ Holds True (fun q => y6.heap.size ≤ q ∧ q < y7.heap.size) wr (.slice ca n3 cc) (dInts T) ∧ Below y6.heap.size y6 wr) (fun i _ => ul - (intOf i).toNat)
     case atStart => exact ⟨0, c.sent, rfl, by omega, N3.out.symm, BG.out, sent_low OK.out, CL.out, B7.out⟩
     case round =>
      obtain ⟨j, T, rfl, hj, hTl, hbg, hlow, hH, hB⟩ := hrel
      have BZ := Lib.hid hB
      by_cases hj2 : j < ul
      ·have hj2' : (j : Int) < ul := by omega
       obtain ⟨⟨tg, lt⟩, hm⟩ := some_of_lt (l := p.sends) (i := j) (by rw [← UL.out]; exact hj2)
       obtain ⟨ub, uo, e, m0, m1⟩ := msg_at (HU.out.later hB) hm
       subst e
       rw [drop_of hm, bigAt_cons] at hbg
       have hg := GO.out (tg, lt) (List.mem_of_getElem? hm)
       rcases findL_cases L ((node : Int), tg) with ⟨li, hli, _, _, hle⟩ | ⟨hno, _⟩
       ·obtain ⟨tv, htv⟩ := some_of_lt (l := T) (i := li) (by rw [hTl, N3.out, OK.out.2.sent, ← HLl.out]; exact hli)
        simp only [hle, Int.toNat_natCast, at0_of htv] at hbg
        have hv := hlow li tv htv
        have hv0 := hv.1
        have hv5 := hv.2
        have HLE := Lib.hid hle
        have HTV := Lib.hid htv
        have HBG := Lib.hid hbg
        have HLW := Lib.hid hlow
        have HTL := Lib.hid hTl
        have HH := Lib.hid hH
        have hlil : li < n3 := by rw [← hTl]; exact lt_of_some htv
        clear hbg hlow hTl hH hB hle htv hv hm hg hli
        go_upto_region 12 with fail
        obtain ⟨y8, hy8⟩ : ∃ y, y = wr.alloc (.cells #[.int .i64 tg, .int .i64 lt] 120) := ⟨_, rfl⟩
        have hb8 : Below wr.heap.size wr y8 := by rw [hy8]; exact below_new _ _
        have hx8 : y8.cell? ⟨wr.heap.size, 0, none⟩ = some (.int .i64 tg) := by rw [hy8]; exact boxAt_new wr [.int .i64 tg, .int .i64 lt] _ 0 _ rfl
        have BZ8 := Lib.hid (below_step' BZ.out hb8)
        have B88 := Lib.hid hb8
        have X8 := Lib.hid hx8
        rw [← hy8]
        clear hy8 hb8 hx8 m0 m1
        have Q12 : Hid (∀ w', Below y8.heap.size y8 w' → w'.cell? ⟨b, 0, none⟩ = some (.int .i64 A.n) ∧ w'.cell? ⟨b, 1, none⟩ = some (.slice ga gl gc) ∧ w'.cell? ⟨w.heap.size, 1, none⟩ = some (.int .i64 node) ∧ w'.cell? ⟨wr.heap.size, 0, none⟩ = some (.int .i64 tg)) := Lib.hid (fun w' hb => by
         have hB := below_step' (below_step' B6.out BZ8.out) hb
         exact ⟨SR.out.sys.box.below hB 0 _ rfl, SR.out.sys.box.below hB 1 _ rfl, X0.out.below hB 1 _ rfl, (hb.cell (World.block_lt_of_cell? y8 _ X8.out)).trans X8.out⟩)
        refine wp_region_held_drew (S := (fun w' => w'.cell? ⟨b, 0, none⟩ = some (.int .i64 A.n) ∧ w'.cell? ⟨b, 1, none⟩ = some (.slice ga gl gc) ∧ w'.cell? ⟨w.heap.size, 1, none⟩ = some (.int .i64 node) ∧ w'.cell? ⟨wr.heap.size, 0, none⟩ = some (.int .i64 tg))) (by kernel_rfl) ?_ (fun hHeld => ?_)
        ·exact Q12.out _ (below_drewN (Below.refl _ y8) 1)
        refine tq 0 ?_
        refine tq 1 ?_
        refine tq 2 ?_
        refine tq 3 ?_
        refine tq 4 ?_
        refine tq 5 ?_
        refine tq 6 ?_
        refine tq 7 ?_
        refine tq 8 ?_
        refine rd 9 fun K hK => ?_
        go_simp
        refine (find_at A.n node tg li _ L _ (by rw [HLl.out]; exact SR.out.g.below (below_step' (below_step' B6.out BZ8.out) (below_drewN (Below.refl _ y8) 1))) hln HLE.out).mono ?_
        rintro e w8 ⟨rfl, hb⟩
        have B8 := Lib.hid (below_step' (below_drewN (Below.refl _ y8) 1) hb)
        clear hb
        go_wp2_with fail
        refine hK.out _ _ ?_ (fun hHeld => ?_)
        ·exact Q12.out _ B8.out
        clear hK K
        try simp only [Act.put, List.getElem_toArray, List.getElem_cons_zero, List.getElem_cons_succ, List.setIfInBounds_toArray, List.set_cons_zero, List.set_cons_succ]
        refine tq 10 ?_
        refine wpAnyH_done (by kernel_rfl) ?_ _
        have hB9 := below_step' B88.out B8.out
        obtain ⟨cb, e, hcb, _, q0, f0, hset⟩ := (HH.out.later hB9).slot1 HTV.out
        subst e
        have hcb6 : y6.heap.size ≤ cb := hcb.1
        have SET := Lib.hid (hset (tv + 1))
        have B9 := Lib.hid (below_step' BZ.out hB9)
        clear hset hB9 hcb
        by_cases h5 : 500 < tv + 1
        ·have h5' : decide (500 < tv + 1) = true := by simpa using h5
         have hr : ep = 2 := by
          have hb := HBG.out
          rw [h5', Bool.true_or] at hb
          rw [E2.out, ← hb]; rfl
         subst hr
         go_wp2_with fail
         go_ret
         exact ⟨rfl, below_step' B0.out (below_step' B6.out (B9.out.setCell hcb6 _))⟩
        ·have h5' : decide (500 < tv + 1) = false := by simpa using h5
         go_wp2_with fail
         go_roundw
         case rel => exact ⟨j + 1, T.set li (tv + 1), by go_num, by omega, by rw [List.length_set]; exact HTL.out, by
          have hb := HBG.out
          rw [h5', Bool.false_or] at hb
          exact hb, fun i x hx => by
          rcases set_cases hx with ⟨rfl, rfl, _⟩ | ⟨_, hx⟩
          ·omega
          ·exact HLW.out i x hx, SET.out, B9.out.setCell hcb6 _⟩
         case measure => simp [intOf]; omega
       ·exact absurd hg.1 hno
      ·have hj3 : ¬ (j : Int) < ul := by omega
       have hr : ep = 0 := by
        rw [List.drop_of_length_le (by rw [← UL.out]; omega)] at hbg
        rw [E2.out, ← hbg]; rfl
       subst hr
       clear hTl hbg hlow hH hB
       go_wp2_with fail
       go_ret
       exact ⟨rfl, below_step' B0.out (below_step' B6.out BZ.out)⟩
   ·have hm' : (md != 1) = true := by simpa using hm
    have hr : ep = 8 := by rw [EE.out, HSQ.out, if_pos (by rw [MD.out]; exact hm)]
    subst hr
    go_wp2_with fail
    go_ret
    exact ⟨rfl, below_step' B0.out B3.out⟩
end Go.Proofs.Ytennbiajnkobnaa

