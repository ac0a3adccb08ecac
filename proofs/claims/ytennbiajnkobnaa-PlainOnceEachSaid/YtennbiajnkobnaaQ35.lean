/- Texts put together. -/
import Derived.Test.YtennbiajnkobnaaQ02
import Derived.Test.YtennbiajnkobnaaQ33
import Derived.Test.YtennbiajnkobnaaQ34
set_option linter.unusedSimpArgs false
set_option linter.unusedVariables false
namespace Go.Proofs.Ytennbiajnkobnaa
open Go.RowKit Go.PlainAid
def Sp.d (s : Sp) : List D := [dI s.kind, dI s.node, dI s.k, dI s.link, dI s.seq]
def dSteps (l : List Sp) : D := .row 5 (l.map Sp.d)
theorem steps_at {w : World} {a : Option Addr} {k cap i : Nat} {l : List Sp} {s : Sp} (h : Has w (.slice a k cap) (dSteps l)) (hs : l[i]? = some s) :
  ∃ b o, a = some ⟨b, o, none⟩ ∧ w.cell? ⟨b, o + i * 5, none⟩ = some (.int .i64 s.kind) ∧ w.cell? ⟨b, o + i * 5 + 1, none⟩ = some (.int .i64 s.node) ∧ w.cell? ⟨b, o + i * 5 + 2, none⟩ = some (.int .i64 s.k) ∧ w.cell? ⟨b, o + i * 5 + 3, none⟩ = some (.int .i64 s.link) ∧ w.cell? ⟨b, o + i * 5 + 4, none⟩ = some (.int .i64 s.seq) := by
 obtain ⟨b, o, c, e, h1, h2, cs, hcs, hc⟩ := cells_of (f := Sp.d) h hs
 obtain ⟨v0, r, rfl, h0, hcs⟩ := hcs.cons
 obtain ⟨v1, r, rfl, h1', hcs⟩ := HasL.cons hcs
 obtain ⟨v2, r, rfl, h2', hcs⟩ := HasL.cons hcs
 obtain ⟨v3, r, rfl, h3', hcs⟩ := HasL.cons hcs
 obtain ⟨v4, r, rfl, h4', hcs⟩ := HasL.cons hcs
 obtain rfl := Holds.val h0
 obtain rfl := Holds.val h1'
 obtain rfl := Holds.val h2'
 obtain rfl := Holds.val h3'
 obtain rfl := Holds.val h4'
 simp only [Value.slice.injEq] at e
 exact ⟨b, o, e.1, hc 0 _ rfl, hc 1 _ rfl, hc 2 _ rfl, hc 3 _ rfl, hc 4 _ rfl⟩
theorem cf_slices {S : Prop} {P : Nat → Prop} {w : World} {c : Cf} {v1 v2 v3 : Value} (h : HoldsL S P w [v1, v2, v3] c.d) : ∃ (a1 a2 a3 : Option Addr) (n1 n2 n3 e1 e2 e3 : Nat), v1 = .slice a1 n1 e1 ∧ v2 = .slice a2 n2 e2 ∧ v3 = .slice a3 n3 e3 := by
 obtain ⟨P1, P2, P3, c1, c2, c3, _⟩ := cf_openL h
 obtain ⟨a1, e1, rfl⟩ := slice_of c1.weak
 obtain ⟨a2, e2, rfl⟩ := slice_of c2.weak
 obtain ⟨a3, e3, rfl⟩ := slice_of c3.weak
 exact ⟨_, _, _, _, _, _, _, _, _, rfl, rfl, rfl⟩
theorem runOf_drop {A : Ap} {c d : Cf} {l : List Sp} {j : Nat} {s : Sp} (hs : l[j]? = some s) (h : runOf A c l = ((runOf A d (l.drop j)).1, j + (runOf A d (l.drop j)).2.1, (runOf A d (l.drop j)).2.2)) (he : errOf A d s = 0) :
  runOf A c l = ((runOf A (doneOf A d s) (l.drop (j + 1))).1, (j + 1) + (runOf A (doneOf A d s) (l.drop (j + 1))).2.1, (runOf A (doneOf A d s) (l.drop (j + 1))).2.2) := by
 rw [h, drop_of hs, runOf, if_pos he]
 simp only [Prod.mk.injEq, true_and, and_true]
 omega
theorem runOf_stop {A : Ap} {c d : Cf} {l : List Sp} {j : Nat} {s : Sp} (hs : l[j]? = some s) (h : runOf A c l = ((runOf A d (l.drop j)).1, j + (runOf A d (l.drop j)).2.1, (runOf A d (l.drop j)).2.2)) (he : errOf A d s ≠ 0) :
  runOf A c l = (d, j, errOf A d s) := by
 rw [h, drop_of hs, runOf, if_neg he]
 rfl
theorem run_deed1 (w : World) (a b : Value) : (Instr.field 92 (.agg #[a, b]) 1).run Try.prog w = .ok b w := by
 have hu := Try.underlying92
 simp [Instr.field, run_underlying hu, asAgg, part, Result.andThen]
attribute [go_sem] run_deed1
theorem SysW.later' {A : Ap} {c : Cf} {P : Nat → Prop} {b mb : Nat} {vG vT v1 v2 v3 : Value} {wb w w' : World} (h : SysW A c P b mb vG vT v1 v2 v3 wb w) (hb : Below w.heap.size w w') : SysW A c P b mb vG vT v1 v2 v3 wb w' :=
 ⟨h.sys.below hb, h.g, h.t, h.cf.later hb, h.nb, h.nm, h.low, fun q hq => Nat.lt_of_lt_of_le (h.top q hq) hb.size, below_step' h.bel hb⟩
theorem SysW.toR {A : Ap} {c : Cf} {P : Nat → Prop} {b mb : Nat} {vG vT v1 v2 v3 : Value} {wb w : World} (h : SysW A c P b mb vG vT v1 v2 v3 wb w) : SysR A c b mb vG vT v1 v2 v3 w := by
 obtain ⟨h1, h2, h3⟩ := cf_has h.cf.weak
 exact ⟨h.sys, h.g.below h.bel, h.t.later h.bel, h1, h2, h3⟩
/-- What Run tells. -/
def Ran (A : Ap) (c : Cf) (l : List Sp) (w : World) (e : Ending) (w' : World) : Prop := ∃ u1 u2 u3, e = .returned (.tuple #[.agg #[u1, u2, u3], .int .i64 (runOf A c l).2.1, .int .i64 (runOf A c l).2.2]) ∧ HoldsL True (fresh w) w' [u1, u2, u3] (runOf A c l).1.d ∧ Below w.heap.size w w'
set_option maxHeartbeats 8000000 in
set_option maxRecDepth 100000 in
theorem run_at (A : Ap) (c : Cf) (l : List Sp) (hOK : CfOK A c) (hsm : SmallTab A.t) (hsc : SmallCf c) (vG vT v1 v2 v3 vS : Value) (w : World) (hG : LinksAt w vG A.l) (hT : Has w vT (dTab A.t)) (hC : HasL w [v1, v2, v3] c.d) (hS : Has w vS (dSteps l)) (hn : l.length ≤ 1000000) :
    Calls Try.prog 15 #[.agg #[.int .i64 A.n, vG, vT, .bool A.ff], .agg #[v1, v2, v3], vS] w fun e w' => Ran A c l w e w' := by
  obtain ⟨ga, gc, ee⟩ := slice_of (has_of_links hG)
  subst ee
  obtain ⟨ta, tc, ee⟩ := slice_of hT
  subst ee
  obtain ⟨sa, sc, ee⟩ := slice_of hS
  subst ee
  obtain ⟨a1, a2, a3, n1, n2, n3, e1, e2, e3, ee1, ee2, ee3⟩ := cf_slices hC
  subst ee1
  subst ee2
  subst ee3
  obtain ⟨tl, htl⟩ : ∃ n, n = A.t.length := ⟨_, rfl⟩
  obtain ⟨gl, hgl⟩ : ∃ n, n = A.l.length := ⟨_, rfl⟩
  obtain ⟨sl, hsl⟩ : ∃ n, n = l.length := ⟨_, rfl⟩
  obtain ⟨ff, hff⟩ : ∃ f, f = A.ff := ⟨_, rfl⟩
  rw [← hgl] at hG ⊢
  rw [← htl] at hT ⊢
  rw [← hsl] at hS hn ⊢
  rw [← hff]
  have HG := Lib.hid hG
  have HT := Lib.hid hT
  have HC := Lib.hid hC
  have HS := Lib.hid hS
  have OK := Lib.hid hOK
  have SMT := Lib.hid hsm
  have SMC := Lib.hid hsc
  have SL := Lib.hid hsl
  have FF := Lib.hid hff
  clear hG hT hC hS hOK hsm hsc hsl hff htl hgl
  go_enter Try.func15, Try.ntmps15
  try simp only [List.append_eq, List.cons_append, List.nil_append]
  go_upto_region 1 with fail
  obtain ⟨y0, hy0⟩ : ∃ y, y = ((w.alloc (.cells #[.int .i64 A.n, .slice ga gl gc, .slice ta tl tc, .bool ff] 27)).alloc (.cells #[.slice a1 n1 e1, .slice a2 n2 e2, .slice a3 n3 e3] 31)).alloc (.cells #[.slice none 0 0, .slice none 0 0, .slice none 0 0] 31) := ⟨_, rfl⟩
  have hb0 : Below w.heap.size w y0 := by rw [hy0]; exact below_step' (below_step' (below_new _ _) (below_new _ _)) (below_new _ _)
  have hx0 : BoxAt w.heap.size [.int .i64 A.n, .slice ga gl gc, .slice ta tl tc, .bool ff] y0 := by rw [hy0]; exact ((boxAt_new w [.int .i64 A.n, .slice ga gl gc, .slice ta tl tc, .bool ff] _).below (below_new _ _)).below (below_new _ _)
  have hx1 : BoxAt (w.heap.size + 1) [.slice a1 n1 e1, .slice a2 n2 e2, .slice a3 n3 e3] y0 := by
    have h := (boxAt_new (w.alloc (.cells #[.int .i64 A.n, .slice ga gl gc, .slice ta tl tc, .bool ff] 27)) [.slice a1 n1 e1, .slice a2 n2 e2, .slice a3 n3 e3] 31).below (below_new _ (.cells #[.slice none 0 0, .slice none 0 0, .slice none 0 0] 31))
    rw [size_alloc] at h
    rw [hy0]; exact h
  have hx2 : BoxAt (w.heap.size + 2) [.slice none 0 0, .slice none 0 0, .slice none 0 0] y0 := by
    have h := boxAt_new ((w.alloc (.cells #[.int .i64 A.n, .slice ga gl gc, .slice ta tl tc, .bool ff] 27)).alloc (.cells #[.slice a1 n1 e1, .slice a2 n2 e2, .slice a3 n3 e3] 31)) [.slice none 0 0, .slice none 0 0, .slice none 0 0] 31
    rw [size_alloc, size_alloc] at h
    rw [hy0]; exact h
  have ho2 : OpenRow y0 (w.heap.size + 2) 1 3 := by
    have h := heap_alloc_new ((w.alloc (.cells #[.int .i64 A.n, .slice ga gl gc, .slice ta tl tc, .bool ff] 27)).alloc (.cells #[.slice a1 n1 e1, .slice a2 n2 e2, .slice a3 n3 e3] 31)) (.cells #[.slice none 0 0, .slice none 0 0, .slice none 0 0] 31)
    rw [size_alloc, size_alloc] at h
    rw [hy0]; exact ⟨by decide, _, _, h, rfl⟩
  have hz0 : w.heap.size + 3 ≤ y0.heap.size := by rw [hy0]; simp
  have B0 := Lib.hid hb0
  have X0 := Lib.hid hx0
  have X1 := Lib.hid hx1
  have X2 := Lib.hid hx2
  have O2 := Lib.hid ho2
  rw [show w.heap.size + 1 + 1 = w.heap.size + 2 from rfl]
  rw [← hy0]
  clear hy0 hb0 hx0 hx1 hx2 ho2
  have Q1 : Hid (∀ w', Below y0.heap.size y0 w' → w'.cell? ⟨w.heap.size, 0, none⟩ = some (.int .i64 A.n) ∧ w'.cell? ⟨w.heap.size, 1, none⟩ = some (.slice ga gl gc) ∧ w'.cell? ⟨w.heap.size, 2, none⟩ = some (.slice ta tl tc) ∧ w'.cell? ⟨w.heap.size, 3, none⟩ = some (.bool ff) ∧ w'.cell? ⟨w.heap.size + 1, 0, none⟩ = some (.slice a1 n1 e1) ∧ w'.cell? ⟨w.heap.size + 1, 1, none⟩ = some (.slice a2 n2 e2) ∧ w'.cell? ⟨w.heap.size + 1, 2, none⟩ = some (.slice a3 n3 e3)) := Lib.hid (fun w' hb => ⟨X0.out.below hb 0 _ rfl, X0.out.below hb 1 _ rfl, X0.out.below hb 2 _ rfl, X0.out.below hb 3 _ rfl, X1.out.below hb 0 _ rfl, X1.out.below hb 1 _ rfl, X1.out.below hb 2 _ rfl⟩)
  refine wp_region_held_drew (S := (fun w' => w'.cell? ⟨w.heap.size, 0, none⟩ = some (.int .i64 A.n) ∧ w'.cell? ⟨w.heap.size, 1, none⟩ = some (.slice ga gl gc) ∧ w'.cell? ⟨w.heap.size, 2, none⟩ = some (.slice ta tl tc) ∧ w'.cell? ⟨w.heap.size, 3, none⟩ = some (.bool ff) ∧ w'.cell? ⟨w.heap.size + 1, 0, none⟩ = some (.slice a1 n1 e1) ∧ w'.cell? ⟨w.heap.size + 1, 1, none⟩ = some (.slice a2 n2 e2) ∧ w'.cell? ⟨w.heap.size + 1, 2, none⟩ = some (.slice a3 n3 e3))) (by kernel_rfl) ?_ (fun hHeld => ?_)
  · exact Q1.out _ (below_drewN (Below.refl _ y0) 1)
  refine tq 0 ?_
  refine tq 1 ?_
  refine rd 2 fun K hK => ?_
  go_simp
  refine (copied_at c _ _ _ _ (HC.out.later (below_step' B0.out (below_drewN (Below.refl _ y0) 1))) SMC.out).mono ?_
  rintro e w3 ⟨u1, u2, u3, rfl, hL, hb⟩
  obtain ⟨b1, b2, b3, m1, m2, m3, f1, f2, f3, ee1, ee2, ee3⟩ := cf_slices hL
  subst ee1
  subst ee2
  subst ee3
  have HL3 := Lib.hid hL
  have B3 := Lib.hid (below_step' (below_drewN (Below.refl _ y0) 1) hb)
  clear hL hb
  go_wp2_with fail
  refine hK.out _ _ ?_ (fun hHeld => ?_)
  · exact Q1.out _ B3.out
  clear hK K
  try simp only [Act.put, List.getElem_toArray, List.getElem_cons_zero, List.getElem_cons_succ, List.setIfInBounds_toArray, List.set_cons_zero, List.set_cons_succ]
  refine rd 3 fun K hK => ?_
  go_simp
  refine (systemIn_at A.n gl gc ga (.slice ta tl tc) ff b1 b2 b3 m1 m2 m3 f1 f2 f3 none _ ⟨_, _, _, rfl⟩).mono ?_
  rintro e w4 ⟨b, mb, rfl, hb1, hmb1, hne, hS, hb⟩
  have SY4 := Lib.hid hS
  have B4 := Lib.hid (below_step' B3.out hb)
  have B34 := Lib.hid hb
  clear hS hb
  go_wp2_with fail
  refine hK.out _ _ ?_ (fun hHeld => ?_)
  · exact Q1.out _ B4.out
  clear hK K
  try simp only [Act.put, List.getElem_toArray, List.getElem_cons_zero, List.getElem_cons_succ, List.setIfInBounds_toArray, List.set_cons_zero, List.set_cons_succ]
  refine tq 4 ?_
  refine wpAnyH_done (by kernel_rfl) ?_ _
  rw [FF.out] at SY4
  have hP0 : ∀ q, y0.heap.size ≤ q ∧ q < w3.heap.size → q < w4.heap.size := fun q h => Nat.lt_of_lt_of_le h.2 B34.out.size
  have SW0 := Lib.hid (show SysW A c (fun q => y0.heap.size ≤ q ∧ q < w3.heap.size) b mb (.slice ga gl gc) (.slice ta tl tc) (.slice b1 m1 f1) (.slice b2 m2 f2) (.slice b3 m3 f3) w w4 from ⟨SY4.out, HG.out, HT.out, (HL3.out.wide (fun q hq h => ⟨h, hq⟩)).later B34.out, fun h => by have := h.2; omega, fun h => by have := h.2; omega, fun q h => by have := h.1; omega, hP0, below_step' B0.out B4.out⟩)
  clear hP0
  go_wp2_with fail
  go_loopw [19] (fun i wr => ∃ (j : Nat) (d : Cf) (P' : Nat → Prop), i = .int .i64 j ∧ j ≤ sl ∧ CfOK A d ∧ runOf A c l = ((runOf A d (l.drop j)).1, j + (runOf A d (l.drop j)).2.1, (runOf A d (l.drop j)).2.2) ∧ SysW A d P' b mb (.slice ga gl gc) (.slice ta tl tc) (.slice b1 m1 f1) (.slice b2 m2 f2) (.slice b3 m3 f3) w wr ∧ (∀ q, P' q → y0.heap.size ≤ q) ∧ Below y0.heap.size y0 wr) (fun i _ => sl - (intOf i).toNat)
  case atStart => exact ⟨0, c, _, rfl, by omega, OK.out, by simp, SW0.out, fun q h => h.1, B4.out⟩
  case round =>
    obtain ⟨j, d, P', rfl, hj, hOKd, hrun, hSW, hPl, hB⟩ := hrel
    have hO := O2.out.same (SameOn.of_below (P := fun _ => True) hB) trivial (by omega)
    have BR := Lib.hid hB
    have SWj := Lib.hid hSW
    have OKd := Lib.hid hOKd
    have HO := Lib.hid hO
    have HPL := Lib.hid hPl
    have c4 := hSW.sys.box 4 _ rfl
    have c5 := hSW.sys.box 5 _ rfl
    have c6 := hSW.sys.box 6 _ rfl
    by_cases hj2 : j < sl
    · have hj2' : (j : Int) < sl := by omega
      obtain ⟨⟨s0, s1, s2, s3, s4⟩, hs⟩ := some_of_lt (l := l) (i := j) (by rw [← SL.out]; exact hj2)
      obtain ⟨sb, so, e, g0, g1, g2, g3, g4⟩ := steps_at (HS.out.later hSW.bel) hs
      subst e
      have HRUN := Lib.hid hrun
      have HSS := Lib.hid hs
      simp only at g0 g1 g2 g3 g4
      clear hO hB hSW hOKd hPl hrun hs c4 c5 c6
      go_wp2_with fail
      obtain ⟨y5, hy5⟩ : ∃ y, y = wr.alloc (.cells #[.int .i64 s0, .int .i64 s1, .int .i64 s2, .int .i64 s3, .int .i64 s4] 50) := ⟨_, rfl⟩
      have hb5 : Below wr.heap.size wr y5 := by rw [hy5]; exact below_new _ _
      have X5 := Lib.hid (show BoxAt wr.heap.size [.int .i64 s0, .int .i64 s1, .int .i64 s2, .int .i64 s3, .int .i64 s4] y5 from by rw [hy5]; exact boxAt_new wr [.int .i64 s0, .int .i64 s1, .int .i64 s2, .int .i64 s3, .int .i64 s4] _)
      have SWr := Lib.hid (SWj.out.later' hb5)
      have B55 := Lib.hid hb5
      rw [← hy5]
      clear hy5 hb5 g0 g1 g2 g3 g4
      refine (may_at A d OKd.out SMT.out s0 s1 s2 s3 s4 b mb _ _ _ _ _ _ SWr.out.toR).mono ?_
      rintro e w5 ⟨rfl, hb⟩
      have B5 := Lib.hid hb
      clear hb
      obtain ⟨ev, hev⟩ : ∃ e, e = errOf A d ⟨s0, s1, s2, s3, s4⟩ := ⟨_, rfl⟩
      rw [← hev]
      by_cases h0 : ev = 0
      · subst h0
        have hkind : (s0 = 0 ∧ errPick A d ⟨s0, s1, s2, s3, s4⟩ = 0) ∨ (s0 = 1 ∧ errDel A d ⟨s0, s1, s2, s3, s4⟩ = 0) := by
          unfold errOf at hev
          split at hev
          · next h => exact .inl ⟨h, hev.symm⟩
          · split at hev
            · next h => exact .inr ⟨h, hev.symm⟩
            · cases hev
        have hrun2 := runOf_drop HSS.out HRUN.out hev.symm
        have hdone := doneOf_ok OKd.out hev.symm
        have RUN2 := Lib.hid hrun2
        have DON := Lib.hid hdone
        clear hrun2 hdone hev
        have hbl : b < wr.heap.size := World.block_lt_of_cell? wr _ (SWj.out.sys.box 2 _ rfl)
        have Q8 : Hid (∀ w', Below w5.heap.size w5 w' → w'.cell? ⟨b, 7, none⟩ = some (.map (some mb)) ∧ w'.cell? ⟨wr.heap.size, 0, none⟩ = some (.int .i64 s0) ∧ w'.cell? ⟨wr.heap.size, 1, none⟩ = some (.int .i64 s1) ∧ w'.cell? ⟨wr.heap.size, 2, none⟩ = some (.int .i64 s2) ∧ w'.cell? ⟨wr.heap.size, 3, none⟩ = some (.int .i64 s3) ∧ w'.cell? ⟨wr.heap.size, 4, none⟩ = some (.int .i64 s4) ∧ w'.heap[mb]? = some deeds) := Lib.hid (fun w' hb => by
          have hB := below_step' B5.out hb
          exact ⟨SWr.out.sys.box.below hB 7 _ rfl, X5.out.below hB 0 _ rfl, X5.out.below hB 1 _ rfl, X5.out.below hB 2 _ rfl, X5.out.below hB 3 _ rfl, X5.out.below hB 4 _ rfl, (SWr.out.sys.below hB).map⟩)
        have hw5 : wr.heap.size < w5.heap.size := World.block_lt_of_cell? w5 _ (Q8.out w5 (Below.refl _ _)).2.1
        have hmb5 : mb < w5.heap.size := (Array.getElem?_eq_some_iff.1 (Q8.out w5 (Below.refl _ _)).2.2.2.2.2.2).1
        have K8 : Hid (∀ w', SameOn (fun q => ¬ P' q) (w5.drewN 1) w' → w'.cell? ⟨b, 7, none⟩ = some (.map (some mb)) ∧ w'.cell? ⟨wr.heap.size, 0, none⟩ = some (.int .i64 s0) ∧ w'.cell? ⟨wr.heap.size, 1, none⟩ = some (.int .i64 s1) ∧ w'.cell? ⟨wr.heap.size, 2, none⟩ = some (.int .i64 s2) ∧ w'.cell? ⟨wr.heap.size, 3, none⟩ = some (.int .i64 s3) ∧ w'.cell? ⟨wr.heap.size, 4, none⟩ = some (.int .i64 s4) ∧ w'.heap[mb]? = some deeds) := Lib.hid (fun w' hs => by
          have hw : ¬ P' wr.heap.size := fun h => Nat.lt_irrefl _ (SWj.out.top _ h)
          obtain ⟨k1, k2, k3, k4, k5, k6, k7⟩ := Q8.out w5 (Below.refl _ _)
          exact ⟨(hs.cell (a := ⟨b, 7, none⟩) SWj.out.nb (Nat.lt_trans hbl hw5)).trans k1, (hs.cell (a := ⟨wr.heap.size, 0, none⟩) hw hw5).trans k2, (hs.cell (a := ⟨wr.heap.size, 1, none⟩) hw hw5).trans k3, (hs.cell (a := ⟨wr.heap.size, 2, none⟩) hw hw5).trans k4, (hs.cell (a := ⟨wr.heap.size, 3, none⟩) hw hw5).trans k5, (hs.cell (a := ⟨wr.heap.size, 4, none⟩) hw hw5).trans k6, (hs.2 mb SWj.out.nm hmb5).trans k7⟩)
        have hEnd : ∀ (d' : Cf) (P2 : Nat → Prop) (w6 : World), d' = doneOf A d ⟨s0, s1, s2, s3, s4⟩ → HoldsL True P2 w6 [.slice b1 m1 f1, .slice b2 m2 f2, .slice b3 m3 f3] d'.d → (∀ q, P2 q → P' q ∨ (w5.drewN 1).heap.size ≤ q) → SameOn (fun q => ¬ P' q) (w5.drewN 1) w6 → Below w.heap.size w w6 →
            SysW A d' (fun q => P2 q ∧ q < w6.heap.size) b mb (.slice ga gl gc) (.slice ta tl tc) (.slice b1 m1 f1) (.slice b2 m2 f2) (.slice b3 m3 f3) w w6 ∧ (∀ q, P2 q ∧ q < w6.heap.size → y0.heap.size ≤ q) ∧ Below y0.heap.size y0 w6 := by
          intro d' P2 w6 hd' hC2 hP2 hs2 hb2
          have hy5 : y0.heap.size ≤ w5.heap.size := Nat.le_trans (Nat.le_trans BR.out.size B55.out.size) B5.out.size
          have hb5 : b < w5.heap.size := Nat.lt_trans hbl hw5
          refine ⟨⟨(SWr.out.sys.below B5.out).same (w := w5) ⟨hs2.1, hs2.2⟩ SWj.out.nb SWj.out.nm, HG.out, HT.out, hC2.wide (fun q hq h => ⟨h, hq⟩), fun h => (hP2 _ h.1).elim SWj.out.nb (fun h => by have h : w5.heap.size ≤ b := h; omega), fun h => (hP2 _ h.1).elim SWj.out.nm (fun h => by have h : w5.heap.size ≤ mb := h; omega), fun q h => (hP2 q h.1).elim (SWj.out.low q) (fun h => by have h : w5.heap.size ≤ q := h; omega), fun q h => h.2, hb2⟩, fun q h => (hP2 q h.1).elim (HPL.out q) (fun h => by have h : w5.heap.size ≤ q := h; omega), ?_⟩
          have h05 := below_step' (below_step' BR.out B55.out) B5.out
          exact ⟨(hb2.os).trans (B0.out.os.symm), (hb2.tape).trans (B0.out.tape.symm), (hb2.output).trans (B0.out.output.symm), Nat.le_trans hy5 hs2.1, fun k hk => (hs2.2 k (fun h => by have := HPL.out _ h; omega) (show k < w5.heap.size by omega)).trans (h05.block k hk)⟩
        have HEND := Lib.hid hEnd
        clear hEnd
        rcases hkind with ⟨hk, he0⟩ | ⟨hk, he0⟩
        · have LK : ∀ w' : World, w'.heap[mb]? = some deeds → (Instr.lookup 86 (.map (some mb)) (.int .i64 s0) false).run Try.prog w' = .ok (.agg #[.func (.func 52) #[] #[], .func (.func 53) #[] #[]]) w' := fun w' h => look_deed h s0 deedP (by unfold deedOf; rw [if_pos hk]) false
          have HE0 := Lib.hid he0
          have HDN : Hid (donePick A d ⟨s0, s1, s2, s3, s4⟩ = doneOf A d ⟨s0, s1, s2, s3, s4⟩) := Lib.hid (by unfold doneOf; rw [if_pos hk])
          clear he0 hk
          go_wp2_with fail
          refine wp_region_held_drew (S := (fun w' => w'.cell? ⟨b, 7, none⟩ = some (.map (some mb)) ∧ w'.cell? ⟨wr.heap.size, 0, none⟩ = some (.int .i64 s0) ∧ w'.cell? ⟨wr.heap.size, 1, none⟩ = some (.int .i64 s1) ∧ w'.cell? ⟨wr.heap.size, 2, none⟩ = some (.int .i64 s2) ∧ w'.cell? ⟨wr.heap.size, 3, none⟩ = some (.int .i64 s3) ∧ w'.cell? ⟨wr.heap.size, 4, none⟩ = some (.int .i64 s4) ∧ w'.heap[mb]? = some deeds)) (by kernel_rfl) ?_ (fun hHeld => ?_)
          · exact Q8.out _ (below_drewN (Below.refl _ w5) 1)
          refine tq 0 ?_
          refine tq 1 ?_
          refine tq 2 ?_
          refine tq 3 ?_
          refine tq 4 ?_
          refine tq 5 ?_
          refine tq 6 ?_
          refine tq 7 ?_
          refine tq 8 ?_
          refine tq 9 ?_
          refine rd 10 fun K hK => ?_
          go_simp
          refine (pick_at A d OKd.out SMT.out s0 s1 s2 s3 s4 HE0.out P' b mb (.slice ga gl gc) (.slice ta tl tc) (.slice b1 m1 f1) (.slice b2 m2 f2) (.slice b3 m3 f3) w _ (SWr.out.later' (below_step' B5.out (below_drewN (Below.refl _ w5) 1)))).mono ?_
          rintro e w6 ⟨rfl, ⟨P2, hC2, hP2⟩, hsm2, hb2⟩
          have HC2 := Lib.hid hC2
          have HP2 := Lib.hid hP2
          have HS2 := Lib.hid hsm2
          have HB2 := Lib.hid hb2
          clear hC2 hP2 hsm2 hb2
          go_wp2_with fail
          refine hK.out _ _ ?_ (fun hHeld => ?_)
          · exact K8.out w6 HS2.out
          clear hK K
          try simp only [Act.put, List.getElem_toArray, List.getElem_cons_zero, List.getElem_cons_succ, List.setIfInBounds_toArray, List.set_cons_zero, List.set_cons_succ]
          refine wpAnyH_done (by kernel_rfl) ?_ _
          obtain ⟨hn1, hn2, hn3⟩ := HEND.out _ P2 w6 HDN.out HC2.out HP2.out HS2.out HB2.out
          rw [HDN.out] at hn1
          have HN1 := Lib.hid hn1
          have HN2 := Lib.hid hn2
          have HN3 := Lib.hid hn3
          clear hn1 hn2 hn3
          go_wp2_with fail
          go_roundw
          case rel => exact ⟨j + 1, doneOf A d ⟨s0, s1, s2, s3, s4⟩, _, by go_num, by omega, DON.out, by have := RUN2.out; exact this, HN1.out, HN2.out, HN3.out⟩
          case measure => simp [intOf]; omega
        · have LK : ∀ w' : World, w'.heap[mb]? = some deeds → (Instr.lookup 86 (.map (some mb)) (.int .i64 s0) false).run Try.prog w' = .ok (.agg #[.func (.func 54) #[] #[], .func (.func 55) #[] #[]]) w' := fun w' h => look_deed h s0 deedD (by unfold deedOf; rw [hk]; rfl) false
          have HE0 := Lib.hid he0
          have HDN : Hid (doneDel A d ⟨s0, s1, s2, s3, s4⟩ = doneOf A d ⟨s0, s1, s2, s3, s4⟩) := Lib.hid (by unfold doneOf; rw [if_neg (by show ¬ s0 = 0; omega)])
          clear he0 hk
          go_wp2_with fail
          refine wp_region_held_drew (S := (fun w' => w'.cell? ⟨b, 7, none⟩ = some (.map (some mb)) ∧ w'.cell? ⟨wr.heap.size, 0, none⟩ = some (.int .i64 s0) ∧ w'.cell? ⟨wr.heap.size, 1, none⟩ = some (.int .i64 s1) ∧ w'.cell? ⟨wr.heap.size, 2, none⟩ = some (.int .i64 s2) ∧ w'.cell? ⟨wr.heap.size, 3, none⟩ = some (.int .i64 s3) ∧ w'.cell? ⟨wr.heap.size, 4, none⟩ = some (.int .i64 s4) ∧ w'.heap[mb]? = some deeds)) (by kernel_rfl) ?_ (fun hHeld => ?_)
          · exact Q8.out _ (below_drewN (Below.refl _ w5) 1)
          refine tq 0 ?_
          refine tq 1 ?_
          refine tq 2 ?_
          refine tq 3 ?_
          refine tq 4 ?_
          refine tq 5 ?_
          refine tq 6 ?_
          refine tq 7 ?_
          refine tq 8 ?_
          refine tq 9 ?_
          refine rd 10 fun K hK => ?_
          go_simp
          refine (deliver_at A d OKd.out SMT.out s0 s1 s2 s3 s4 HE0.out P' b mb (.slice ga gl gc) (.slice ta tl tc) (.slice b1 m1 f1) (.slice b2 m2 f2) (.slice b3 m3 f3) w _ (SWr.out.later' (below_step' B5.out (below_drewN (Below.refl _ w5) 1)))).mono ?_
          rintro e w6 ⟨rfl, ⟨P2, hC2, hP2⟩, hsm2, hb2⟩
          have HC2 := Lib.hid hC2
          have HP2 := Lib.hid hP2
          have HS2 := Lib.hid hsm2
          have HB2 := Lib.hid hb2
          clear hC2 hP2 hsm2 hb2
          go_wp2_with fail
          refine hK.out _ _ ?_ (fun hHeld => ?_)
          · exact K8.out w6 HS2.out
          clear hK K
          try simp only [Act.put, List.getElem_toArray, List.getElem_cons_zero, List.getElem_cons_succ, List.setIfInBounds_toArray, List.set_cons_zero, List.set_cons_succ]
          refine wpAnyH_done (by kernel_rfl) ?_ _
          obtain ⟨hn1, hn2, hn3⟩ := HEND.out _ P2 w6 HDN.out HC2.out HP2.out HS2.out HB2.out
          rw [HDN.out] at hn1
          have HN1 := Lib.hid hn1
          have HN2 := Lib.hid hn2
          have HN3 := Lib.hid hn3
          clear hn1 hn2 hn3
          go_wp2_with fail
          go_roundw
          case rel => exact ⟨j + 1, doneOf A d ⟨s0, s1, s2, s3, s4⟩, _, by go_num, by omega, DON.out, by have := RUN2.out; exact this, HN1.out, HN2.out, HN3.out⟩
          case measure => simp [intOf]; omega
      · have hne : (ev != 0) = true := by simpa using h0
        have hrun2 := runOf_stop HSS.out HRUN.out (by rw [← hev]; exact h0)
        rw [← hev] at hrun2
        have RUN2 := Lib.hid hrun2
        have h05 := below_step' (below_step' BR.out B55.out) B5.out
        have hO := O2.out.same (SameOn.of_below (P := fun _ => True) h05) trivial (by omega)
        have HOW := Lib.hid hO
        have z0 := X2.out.below h05 0 _ rfl
        have z1 := X2.out.below h05 1 _ rfl
        have z2 := X2.out.below h05 2 _ rfl
        have q0 := hO.frozen 0
        have q1 := hO.frozen 1
        have q2 := hO.frozen 2
        have c4 := SWr.out.sys.box.below B5.out 4 _ rfl
        have c5 := SWr.out.sys.box.below B5.out 5 _ rfl
        have c6 := SWr.out.sys.box.below B5.out 6 _ rfl
        have HCW := Lib.hid (SWr.out.cf.later B5.out)
        have HBW := Lib.hid (below_step' SWr.out.bel B5.out)
        have HEV := Lib.hid hev
        clear hrun2 h05 hO hev
        go_wp2_with fail
        obtain ⟨w9, hw9⟩ : ∃ x, x = ((w5.setCell ⟨w.heap.size + 2, 0, none⟩ (.slice b1 m1 f1)).setCell ⟨w.heap.size + 2, 1, none⟩ (.slice b2 m2 f2)).setCell ⟨w.heap.size + 2, 2, none⟩ (.slice b3 m3 f3) := ⟨_, rfl⟩
        have hB9 : BoxAt (w.heap.size + 2) [.slice b1 m1 f1, .slice b2 m2 f2, .slice b3 m3 f3] w9 := by rw [hw9]; exact box3_at HOW.out
        have hs9 : SameOn P' w5 w9 := by rw [hw9]; exact box3_same (fun h => by have := HPL.out _ h; omega)
        have hL9 : HoldsL True (fresh w) w9 [.slice b1 m1 f1, .slice b2 m2 f2, .slice b3 m3 f3] d.d := (HCW.out.same hs9).wide (fun q _ h => by have := HPL.out _ h; show w.heap.size ≤ q; omega)
        have hb9 : Below w.heap.size w w9 := by
          rw [hw9]
          exact ((HBW.out.setCell (by show w.heap.size ≤ w.heap.size + 2; omega) _).setCell (by show w.heap.size ≤ w.heap.size + 2; omega) _).setCell (by show w.heap.size ≤ w.heap.size + 2; omega) _
        have r0 := hB9 0 _ rfl
        have r1 := hB9 1 _ rfl
        have r2 := hB9 2 _ rfl
        rw [← hw9]
        refine bodyPost_ret (v := .tuple #[.agg #[.slice b1 m1 f1, .slice b2 m2 f2, .slice b3 m3 f3], .int .i64 j, .int .i64 ev]) (by simp [results, Try.results15, go_sem, r0, r1, r2]) rfl ?_
        exact ⟨_, _, _, by rw [RUN2.out], by rw [RUN2.out]; exact hL9, hb9⟩
    · obtain rfl : j = sl := by omega
      have hj3 : ¬ (j : Int) < j := by omega
      have hrun2 : runOf A c l = (d, j, 0) := by rw [hrun, List.drop_of_length_le (by rw [SL.out]; exact Nat.le_refl _)]; simp [runOf]
      have RUN2 := Lib.hid hrun2
      have HOW := Lib.hid hO
      have z0 := X2.out.below hB 0 _ rfl
      have z1 := X2.out.below hB 1 _ rfl
      have z2 := X2.out.below hB 2 _ rfl
      have q0 := hO.frozen 0
      have q1 := hO.frozen 1
      have q2 := hO.frozen 2
      have HCW := Lib.hid hSW.cf
      have HBW := Lib.hid hSW.bel
      clear hrun hrun2 hO hB hSW hOKd hPl
      go_wp2_with fail
      obtain ⟨w9, hw9⟩ : ∃ x, x = ((wr.setCell ⟨w.heap.size + 2, 0, none⟩ (.slice b1 m1 f1)).setCell ⟨w.heap.size + 2, 1, none⟩ (.slice b2 m2 f2)).setCell ⟨w.heap.size + 2, 2, none⟩ (.slice b3 m3 f3) := ⟨_, rfl⟩
      have hB9 : BoxAt (w.heap.size + 2) [.slice b1 m1 f1, .slice b2 m2 f2, .slice b3 m3 f3] w9 := by rw [hw9]; exact box3_at HOW.out
      have hs9 : SameOn P' wr w9 := by rw [hw9]; exact box3_same (fun h => by have := HPL.out _ h; omega)
      have hL9 : HoldsL True (fresh w) w9 [.slice b1 m1 f1, .slice b2 m2 f2, .slice b3 m3 f3] d.d := (HCW.out.same hs9).wide (fun q _ h => by have := HPL.out _ h; show w.heap.size ≤ q; omega)
      have hb9 : Below w.heap.size w w9 := by
        rw [hw9]
        exact ((HBW.out.setCell (by show w.heap.size ≤ w.heap.size + 2; omega) _).setCell (by show w.heap.size ≤ w.heap.size + 2; omega) _).setCell (by show w.heap.size ≤ w.heap.size + 2; omega) _
      have r0 := hB9 0 _ rfl
      have r1 := hB9 1 _ rfl
      have r2 := hB9 2 _ rfl
      rw [← hw9]
      refine bodyPost_ret (v := .tuple #[.agg #[.slice b1 m1 f1, .slice b2 m2 f2, .slice b3 m3 f3], .int .i64 j, .int .i64 0]) (by simp [results, Try.results15, go_sem, r0, r1, r2]) rfl ?_
      exact ⟨_, _, _, by rw [RUN2.out], by rw [RUN2.out]; exact hL9, hb9⟩
end Go.Proofs.Ytennbiajnkobnaa

