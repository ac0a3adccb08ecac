/- Texts put together. -/
import Derived.Test.YtennbiajnkobnaaQ27
import Derived.Test.YtennbiajnkobnaaQ35
import Derived.Test.YtennbiajnkobnaaQ37
set_option linter.unusedSimpArgs false
set_option linter.unusedVariables false
namespace Go.Proofs.Ytennbiajnkobnaa
open Go.RowKit Go.PlainAid
theorem one_step (w : World) (s : Sp) (T : TypeId) : Holds True (fun k => k = w.heap.size) (w.alloc (.cells #[.int .i64 s.kind, .int .i64 s.node, .int .i64 s.k, .int .i64 s.link, .int .i64 s.seq] T)) (.slice (some ⟨w.heap.size, 0, none⟩) 1 1) (dSteps [s]) :=
  holds_mk (Q := fun _ => False) (cells := [.int .i64 s.kind, .int .i64 s.node, .int .i64 s.k, .int .i64 s.link, .int .i64 s.seq]) rfl rfl (heap_alloc_new w _) (Nat.le_refl _) (by decide) rfl rfl (by intro ds h; obtain ⟨_, _, rfl⟩ := List.mem_map.1 h; rfl)
    (by refine ⟨rfl, fun _ _ => False, fun _ _ h => h.elim, fun _ _ _ _ h => h.elim, fun j c d hc hd => ?_⟩
        match j, hc, hd with
        | 0, hc, hd => simp [Sp.d] at hc hd; subst hc hd; exact has_int _ _ _ _
        | 1, hc, hd => simp [Sp.d] at hc hd; subst hc hd; exact has_int _ _ _ _
        | 2, hc, hd => simp [Sp.d] at hc hd; subst hc hd; exact has_int _ _ _ _
        | 3, hc, hd => simp [Sp.d] at hc hd; subst hc hd; exact has_int _ _ _ _
        | 4, hc, hd => simp [Sp.d] at hc hd; subst hc hd; exact has_int _ _ _ _
        | j + 5, hc, hd => simp at hc) (fun _ h => h.elim) (fun h => h)
/-- What Apply leaves: the configuration behind the step, or the zero one. -/
def applied (A : Ap) (c : Cf) (s : Sp) : Cf := if errOf A c s = 0 then doneOf A c s else Cf.zero
theorem run_one (A : Ap) (c : Cf) (s : Sp) : (runOf A c [s]).2.2 = errOf A c s ∧ (errOf A c s = 0 → (runOf A c [s]).1 = doneOf A c s) := by
 unfold runOf
 by_cases h : errOf A c s = 0
 ·rw [if_pos h]; exact ⟨h.symm, fun _ => rfl⟩
 ·rw [if_neg h]; exact ⟨rfl, fun e => absurd e h⟩
def Applied (A : Ap) (c : Cf) (s : Sp) (w : World) (e : Ending) (w' : World) : Prop := ∃ u1 u2 u3, e = .returned (.tuple #[.agg #[u1, u2, u3], .int .i64 (errOf A c s)]) ∧ HoldsL True (fresh w) w' [u1, u2, u3] (applied A c s).d ∧ Below w.heap.size w w'
theorem zero_cf (P : Nat → Prop) (w : World) : HoldsL True P w [.slice none 0 0, .slice none 0 0, .slice none 0 0] Cf.zero.d :=
 cf_mkL (P1 := fun _ => False) (P2 := fun _ => False) (P3 := fun _ => False) (c := Cf.zero) (.nil _ _ _ _ _) (.nil _ _ _ _ _) (.nil _ _ _ _ _) (fun _ h => h.elim) (fun _ h => h.elim) (fun _ h => h.elim) (fun _ h => h.elim) (fun _ h => h.elim) (fun _ h => h.elim)
set_option maxHeartbeats 8000000 in
set_option maxRecDepth 100000 in
theorem apply_at (A : Ap) (c : Cf) (s0 s1 s2 s3 s4 : Int) (hOK : CfOK A c) (hsm : SmallTab A.t) (hsc : SmallCf c) (vG vT v1 v2 v3 : Value) (w : World) (hG : LinksAt w vG A.l) (hT : Has w vT (dTab A.t)) (hC : HasL w [v1, v2, v3] c.d) :
  Calls Try.prog 14 #[.agg #[.int .i64 A.n, vG, vT, .bool A.ff], .agg #[v1, v2, v3], .agg #[.int .i64 s0, .int .i64 s1, .int .i64 s2, .int .i64 s3, .int .i64 s4]] w fun e w' => Applied A c ⟨s0, s1, s2, s3, s4⟩ w e w' := by
 obtain ⟨ga, gc, ee⟩ := slice_of (has_of_links hG)
 subst ee
 obtain ⟨ta, tc, ee⟩ := slice_of hT
 subst ee
 obtain ⟨a1, a2, a3, n1, n2, n3, e1, e2, e3, ee1, ee2, ee3⟩ := cf_slices hC
 subst ee1
 subst ee2
 subst ee3
 obtain ⟨tl, htl⟩ : ∃ n, n = A.t.length := ⟨_, rfl⟩
 obtain ⟨gl, hgl⟩ : ∃ n, n = A.l.length := ⟨_, rfl⟩
 rw [← hgl] at hG ⊢
 rw [← htl] at hT ⊢
 have HG := Lib.hid hG
 have HT := Lib.hid hT
 have HC := Lib.hid hC
 have OK := Lib.hid hOK
 have SMT := Lib.hid hsm
 have SMC := Lib.hid hsc
 clear hG hT hC hOK hsm hsc htl hgl
 obtain ⟨s, hs⟩ : ∃ s, s = Sp.mk s0 s1 s2 s3 s4 := ⟨_, rfl⟩
 go_enter Try.func14, Try.ntmps14
 try simp only [List.append_eq, List.cons_append, List.nil_append]
 clear hs s
 go_wp2_with fail
 obtain ⟨y4, hy4⟩ : ∃ y, y = (((w.alloc (.cells #[.int .i64 A.n, .slice ga gl gc, .slice ta tl tc, .bool A.ff] 27)).alloc (.cells #[.slice a1 n1 e1, .slice a2 n2 e2, .slice a3 n3 e3] 31)).alloc (.cells #[.int .i64 s0, .int .i64 s1, .int .i64 s2, .int .i64 s3, .int .i64 s4] 50)).alloc (.cells #[.slice none 0 0, .slice none 0 0, .slice none 0 0] 31) := ⟨_, rfl⟩
 have hb4 : Below w.heap.size w y4 := by rw [hy4]; exact below_step' (below_step' (below_step' (below_new _ _) (below_new _ _)) (below_new _ _)) (below_new _ _)
 have hx4 : BoxAt (w.heap.size + 1 + 1 + 1) [.slice none 0 0, .slice none 0 0, .slice none 0 0] y4 := by
  have h := boxAt_new (((w.alloc (.cells #[.int .i64 A.n, .slice ga gl gc, .slice ta tl tc, .bool A.ff] 27)).alloc (.cells #[.slice a1 n1 e1, .slice a2 n2 e2, .slice a3 n3 e3] 31)).alloc (.cells #[.int .i64 s0, .int .i64 s1, .int .i64 s2, .int .i64 s3, .int .i64 s4] 50)) [.slice none 0 0, .slice none 0 0, .slice none 0 0] 31
  rw [size_alloc, size_alloc, size_alloc] at h
  rw [hy4]; exact h
 have ho4 : OpenRow y4 (w.heap.size + 1 + 1 + 1) 1 3 := by
  have h := heap_alloc_new (((w.alloc (.cells #[.int .i64 A.n, .slice ga gl gc, .slice ta tl tc, .bool A.ff] 27)).alloc (.cells #[.slice a1 n1 e1, .slice a2 n2 e2, .slice a3 n3 e3] 31)).alloc (.cells #[.int .i64 s0, .int .i64 s1, .int .i64 s2, .int .i64 s3, .int .i64 s4] 50)) (.cells #[.slice none 0 0, .slice none 0 0, .slice none 0 0] 31)
  rw [size_alloc, size_alloc, size_alloc] at h
  rw [hy4]; exact ⟨by decide, _, _, h, rfl⟩
 have hz4 : y4.heap.size = w.heap.size + 1 + 1 + 1 + 1 := by rw [hy4]; simp
 obtain ⟨y5, hy5⟩ : ∃ y, y = y4.alloc (.cells #[.int .i64 s0, .int .i64 s1, .int .i64 s2, .int .i64 s3, .int .i64 s4] 50) := ⟨_, rfl⟩
 have hb45 : Below y4.heap.size y4 y5 := by rw [hy5]; exact below_new _ _
 have hst : Has y5 (.slice (some ⟨y4.heap.size, 0, none⟩) 1 1) (dSteps [⟨s0, s1, s2, s3, s4⟩]) := by rw [hy5]; exact (one_step y4 ⟨s0, s1, s2, s3, s4⟩ _).weak
 have hz43 : w.heap.size + 1 + 1 + 1 < y4.heap.size := by omega
 rw [hz4] at hst
 have B4 := Lib.hid hb4
 have B45 := Lib.hid hb45
 have X4 := Lib.hid hx4
 have O4 := Lib.hid ho4
 rw [← hy4, ← hy5]
 have B5 := Lib.hid (below_step' hb4 hb45)
 clear hy4 hy5 hb4 hb45 hx4 ho4 hz4
 refine (run_at A c [⟨s0, s1, s2, s3, s4⟩] OK.out SMT.out SMC.out _ _ _ _ _ _ _ (HG.out.below B5.out) (HT.out.later B5.out) (HC.out.later B5.out) hst (by simp)).mono ?_
 rintro e w6 ⟨u1, u2, u3, rfl, hL, hb⟩
 obtain ⟨b1, b2, b3, m1, m2, m3, f1, f2, f3, ee1, ee2, ee3⟩ := cf_slices hL
 subst ee1
 subst ee2
 subst ee3
 obtain ⟨hr1, hr2⟩ := run_one A c ⟨s0, s1, s2, s3, s4⟩
 rw [hr1]
 obtain ⟨ev, hev⟩ : ∃ e, e = errOf A c ⟨s0, s1, s2, s3, s4⟩ := ⟨_, rfl⟩
 rw [← hev]
 obtain ⟨rn, hrn⟩ : ∃ n, n = (runOf A c [⟨s0, s1, s2, s3, s4⟩]).2.1 := ⟨_, rfl⟩
 rw [← hrn]
 have h46 := below_step' B45.out hb
 have hO6 := O4.out.same (SameOn.of_below (P := fun _ => True) (below_step' h46 (below_new w6 (.cells #[.slice b1 m1 f1, .slice b2 m2 f2, .slice b3 m3 f3] 31)))) trivial hz43
 have hX6 := X4.out.below (below_step' h46 (below_new w6 (.cells #[.slice b1 m1 f1, .slice b2 m2 f2, .slice b3 m3 f3] 31)))
 have z0 := hX6 0 _ rfl
 have z1 := hX6 1 _ rfl
 have z2 := hX6 2 _ rfl
 have q0 := hO6.frozen 0
 have q1 := hO6.frozen 1
 have q2 := hO6.frozen 2
 have HOW := Lib.hid hO6
 have HL := Lib.hid (hL.later (below_new w6 (.cells #[.slice b1 m1 f1, .slice b2 m2 f2, .slice b3 m3 f3] 31)))
 have HBW := Lib.hid (below_step' (below_step' B5.out hb) (below_new w6 (.cells #[.slice b1 m1 f1, .slice b2 m2 f2, .slice b3 m3 f3] 31)))
 have HEV := Lib.hid hev
 have HR2 := Lib.hid hr2
 have hz5 : y4.heap.size ≤ y5.heap.size := B45.out.size
 clear hL hb hr1 hr2 hev hrn h46 hO6 hX6 hst
 by_cases h0 : ev = 0
 ·subst h0
  go_wp2_with fail
  obtain ⟨w9, hw9⟩ : ∃ x, x = (((w6.alloc (.cells #[.slice b1 m1 f1, .slice b2 m2 f2, .slice b3 m3 f3] 31)).setCell ⟨w.heap.size + 1 + 1 + 1, 0, none⟩ (.slice b1 m1 f1)).setCell ⟨w.heap.size + 1 + 1 + 1, 1, none⟩ (.slice b2 m2 f2)).setCell ⟨w.heap.size + 1 + 1 + 1, 2, none⟩ (.slice b3 m3 f3) := ⟨_, rfl⟩
  have hB9 : BoxAt (w.heap.size + 1 + 1 + 1) [.slice b1 m1 f1, .slice b2 m2 f2, .slice b3 m3 f3] w9 := by rw [hw9]; exact box3_at HOW.out
  have hb9 : Below w.heap.size w w9 := by
   rw [hw9]
   exact ((HBW.out.setCell (by show w.heap.size ≤ w.heap.size + 1 + 1 + 1; omega) _).setCell (by show w.heap.size ≤ w.heap.size + 1 + 1 + 1; omega) _).setCell (by show w.heap.size ≤ w.heap.size + 1 + 1 + 1; omega) _
  have hL9 : HoldsL True (fresh w) w9 [.slice b1 m1 f1, .slice b2 m2 f2, .slice b3 m3 f3] (applied A c ⟨s0, s1, s2, s3, s4⟩).d := by
   have ha : applied A c ⟨s0, s1, s2, s3, s4⟩ = (runOf A c [⟨s0, s1, s2, s3, s4⟩]).1 := by unfold applied; rw [if_pos HEV.out.symm, HR2.out HEV.out.symm]
   have hs9 : SameOn (fresh y5) (w6.alloc (.cells #[.slice b1 m1 f1, .slice b2 m2 f2, .slice b3 m3 f3] 31)) w9 := by rw [hw9]; exact box3_same (fun h => by have h : y5.heap.size ≤ w.heap.size + 1 + 1 + 1 := h; omega)
   rw [ha]
   exact (HL.out.same hs9).wide (fun q _ (h : y5.heap.size ≤ q) => by show w.heap.size ≤ q; omega)
  have r0 := hB9 0 _ rfl
  have r1 := hB9 1 _ rfl
  have r2 := hB9 2 _ rfl
  rw [← hw9]
  refine bodyPost_ret (v := .tuple #[.agg #[.slice b1 m1 f1, .slice b2 m2 f2, .slice b3 m3 f3], .int .i64 0]) (by simp [results, Try.results14, go_sem, r0, r1, r2]) rfl ?_
  exact ⟨_, _, _, by rw [← HEV.out], hL9, hb9⟩
 ·have hne : (ev != 0) = true := by simpa using h0
  go_wp2_with fail
  obtain ⟨w9, hw9⟩ : ∃ x, x = (((w6.alloc (.cells #[.slice b1 m1 f1, .slice b2 m2 f2, .slice b3 m3 f3] 31)).setCell ⟨w.heap.size + 1 + 1 + 1, 0, none⟩ (.slice none 0 0)).setCell ⟨w.heap.size + 1 + 1 + 1, 1, none⟩ (.slice none 0 0)).setCell ⟨w.heap.size + 1 + 1 + 1, 2, none⟩ (.slice none 0 0) := ⟨_, rfl⟩
  have hB9 : BoxAt (w.heap.size + 1 + 1 + 1) [.slice none 0 0, .slice none 0 0, .slice none 0 0] w9 := by rw [hw9]; exact box3_at HOW.out
  have hb9 : Below w.heap.size w w9 := by
   rw [hw9]
   exact ((HBW.out.setCell (by show w.heap.size ≤ w.heap.size + 1 + 1 + 1; omega) _).setCell (by show w.heap.size ≤ w.heap.size + 1 + 1 + 1; omega) _).setCell (by show w.heap.size ≤ w.heap.size + 1 + 1 + 1; omega) _
  have hL9 : HoldsL True (fresh w) w9 [.slice none 0 0, .slice none 0 0, .slice none 0 0] (applied A c ⟨s0, s1, s2, s3, s4⟩).d := by
   have ha : applied A c ⟨s0, s1, s2, s3, s4⟩ = Cf.zero := by unfold applied; rw [if_neg (by rw [← HEV.out]; exact h0)]
   rw [ha]
   exact zero_cf _ _
  have r0 := hB9 0 _ rfl
  have r1 := hB9 1 _ rfl
  have r2 := hB9 2 _ rfl
  rw [← hw9]
  refine bodyPost_ret (v := .tuple #[.agg #[.slice none 0 0, .slice none 0 0, .slice none 0 0], .int .i64 ev]) (by simp [results, Try.results14, go_sem, r0, r1, r2]) rfl ?_
  exact ⟨_, _, _, by rw [← HEV.out], hL9, hb9⟩
end Go.Proofs.Ytennbiajnkobnaa

set_option linter.unusedSimpArgs false
set_option linter.unusedVariables false
namespace Go.Proofs.Ytennbiajnkobnaa
open Go.RowKit Go.PlainAid
theorem not_ok {A : Ap} {c : Cf} {r : Bool} (hr : r = true ↔ CfOK A c) (h : ¬ CfOK A c) : r = false := by
 cases r with
 | false => rfl
 | true => exact absurd (hr.1 rfl) h
set_option maxHeartbeats 8000000 in
set_option maxRecDepth 100000 in
theorem pright_at (A : Ap) (c : Cf) (r : Bool) (vG vT v1 v2 v3 : Value) (w : World) (hG : LinksAt w vG A.l) (hT : Has w vT (dTab A.t)) (hC : HasL w [v1, v2, v3] c.d) (hW : ∀ p ∈ A.l, wfp p) (hln : A.l.length ≤ 1000000) (hsm : SmallTab A.t) (hsc : SmallCf c) (hr : r = true ↔ CfOK A c) :
  Calls Try.prog 11 #[.agg #[.int .i64 A.n, vG, vT, .bool A.ff], .agg #[v1, v2, v3]] w fun e w' => e = .returned (.bool r) ∧ Below w.heap.size w w' := by
 obtain ⟨ga, gc, ee⟩ := slice_of (has_of_links hG)
 subst ee
 obtain ⟨ta, tc, ee⟩ := slice_of hT
 subst ee
 obtain ⟨c1, c2, c3⟩ := cf_has hC
 obtain ⟨a1, e1, ee⟩ := slice_of c1
 subst ee
 obtain ⟨a2, e2, ee⟩ := slice_of c2
 subst ee
 obtain ⟨a3, e3, ee⟩ := slice_of c3
 subst ee
 obtain ⟨tl, htl⟩ : ∃ n, n = A.t.length := ⟨_, rfl⟩
 obtain ⟨gl, hgl⟩ : ∃ n, n = A.l.length := ⟨_, rfl⟩
 obtain ⟨n1, hn1⟩ : ∃ n, n = c.states.length := ⟨_, rfl⟩
 obtain ⟨n2, hn2⟩ : ∃ n, n = c.links.length := ⟨_, rfl⟩
 obtain ⟨n3, hn3⟩ : ∃ n, n = c.sent.length := ⟨_, rfl⟩
 rw [← hgl] at hG ⊢
 rw [← htl] at hT ⊢
 rw [← hn1] at c1 ⊢
 rw [← hn2] at c2 ⊢
 rw [← hn3] at c3 ⊢
 have HG := Lib.hid hG
 have HT := Lib.hid hT
 have C1 := Lib.hid c1
 have C2 := Lib.hid c2
 have C3 := Lib.hid c3
 have HR := Lib.hid hr
 have HWf := Lib.hid hW
 have SMT := Lib.hid hsm
 have SMC := Lib.hid hsc
 have N1 := Lib.hid hn1
 have N2 := Lib.hid hn2
 have N3 := Lib.hid hn3
 have GL := Lib.hid hgl
 have TL := Lib.hid htl
 obtain ⟨N, hN⟩ : ∃ N, N = A.n := ⟨_, rfl⟩
 rw [← hN]
 have NN := Lib.hid hN
 have hl1 : n1 ≤ 1000000 := by rw [hn1]; exact hsc.1
 have hl3 : n3 ≤ 1000000 := by rw [hn3]; exact hsc.2.2.1
 obtain ⟨tt, htt⟩ := bool_some (TabOK A.n A.l A.t)
 have TT := Lib.hid htt
 clear hG hT hC c1 c2 c3 hr hW hsm hsc hn1 hn2 hn3 hgl htl hN htt
 go_enter Try.func11, Try.ntmps11
 try simp only [List.append_eq, List.cons_append, List.nil_append]
 go_upto_region 1 with fail
 obtain ⟨y0, hy0⟩ : ∃ y, y = (w.alloc (.cells #[.int .i64 N, .slice ga gl gc, .slice ta tl tc, .bool A.ff] 27)).alloc (.cells #[.slice a1 n1 e1, .slice a2 n2 e2, .slice a3 n3 e3] 31) := ⟨_, rfl⟩
 have hb0 : Below w.heap.size w y0 := by rw [hy0]; exact below_step' (below_new _ _) (below_new _ _)
 have hx0 : BoxAt w.heap.size [.int .i64 N, .slice ga gl gc, .slice ta tl tc, .bool A.ff] y0 := by rw [hy0]; exact (boxAt_new w [.int .i64 N, .slice ga gl gc, .slice ta tl tc, .bool A.ff] _).below (below_new _ _)
 have hx1 : BoxAt (w.heap.size + 1) [.slice a1 n1 e1, .slice a2 n2 e2, .slice a3 n3 e3] y0 := by
  have h := boxAt_new (w.alloc (.cells #[.int .i64 N, .slice ga gl gc, .slice ta tl tc, .bool A.ff] 27)) [.slice a1 n1 e1, .slice a2 n2 e2, .slice a3 n3 e3] 31
  rw [size_alloc] at h
  rw [hy0]; exact h
 have B0 := Lib.hid hb0
 have K0 := Lib.hid hx0
 have K1 := Lib.hid hx1
 rw [← hy0]
 clear hy0 hb0 hx0 hx1
 have p0 := K0.out 0 _ rfl
 have p1 := K0.out 1 _ rfl
 have p2 := K0.out 2 _ rfl
 go_wp2_with fail
 refine (tright_at N _ A.l A.t _ tt _ (HT.out.later B0.out) (HG.out.below B0.out) HWf.out hln SMT.out (by rw [NN.out]; exact TT.out)).mono ?_
 rintro e w1 ⟨rfl, hb⟩
 have B1 := Lib.hid hb
 have BW1 := Lib.hid (below_step' B0.out hb)
 clear hb p0 p1 p2
 have p0 := K0.out.below B1.out 0 _ rfl
 have p1 := K0.out.below B1.out 1 _ rfl
 have p2 := K0.out.below B1.out 2 _ rfl
 have q0 := K1.out.below B1.out 0 _ rfl
 have q1 := K1.out.below B1.out 1 _ rfl
 have q2 := K1.out.below B1.out 2 _ rfl
 cases tt with
 | false =>
  obtain rfl := not_ok HR.out (fun h => by have := TT.out.2 h.1; cases this)
  go_wp2_with fail
  go_ret
  exact ⟨rfl, BW1.out⟩
 | true =>
  have hTab : TabOK A.n A.l A.t := TT.out.1 rfl
  have HTab := Lib.hid hTab
  clear hTab
  by_cases g1 : (n1 : Int) = N
  ·have g1' : ((n1 : Int) != N) = false := by simpa using g1
   by_cases g2 : n2 = gl
   ·have g2' : ((n2 : Int) != (gl : Int)) = false := by simp; omega
    by_cases g3 : n3 = gl
    ·have g3' : ((n3 : Int) != (gl : Int)) = false := by simp; omega
     have G1 := Lib.hid g1
     have G2 := Lib.hid g2
     have G3 := Lib.hid g3
     have hnt : n1 = tl := by have := HTab.out.2.1; have := NN.out; have := TL.out; omega
     have HNT := Lib.hid hnt
     clear g1 g2 g3 hnt
     go_wp2_with fail
     clear p0 p1 p2 q0 q1 q2
     go_loopw [47] (fun i wr => ∃ j : Nat, i = .int .i64 j ∧ j ≤ n1 ∧ (∀ (n : Nat) (s : Int) (x : Nd), n < j → c.states[n]? = some s → A.t[n]? = some x → HasS x.states s) ∧ Below y0.heap.size y0 wr) (fun i _ => n1 - (intOf i).toNat)
     case atStart => exact ⟨0, rfl, by omega, fun n s x h => by omega, B1.out⟩
     case round =>
      obtain ⟨j, rfl, hj, hok, hb⟩ := hrel
      have BW := Lib.hid hb
      have OKS := Lib.hid hok
      by_cases hlt : j < n1
      ·have hlt' : (j : Int) < n1 := by omega
       obtain ⟨s, hs⟩ := some_of_lt (l := c.states) (i := j) (by rw [← N1.out]; exact hlt)
       obtain ⟨x, hx⟩ := some_of_lt (l := A.t) (i := j) (by rw [← TL.out, ← HNT.out]; exact hlt)
       obtain ⟨sb, so, e, x1⟩ := num_at (C1.out.later (below_step' B0.out hb)) hs
       subst e
       obtain ⟨tb, tq, tcap, vs, e, _, _, _, y1, hvs⟩ := nd_cells (HT.out.later (below_step' B0.out hb)) hx
       obtain ⟨va, vc, e2⟩ := slice_of hvs
       subst e2
       simp only [Value.slice.injEq] at e
       obtain ⟨e4, _, _⟩ := e
       subst e4
       obtain ⟨xl, hxl⟩ : ∃ n, n = x.states.length := ⟨_, rfl⟩
       rw [← hxl] at y1
       have XL := Lib.hid hxl
       have p2 := K0.out.below hb 2 _ rfl
       have htl2 : j < tl := by rw [← HNT.out]; exact hlt
       have htl3 : (j : Int) < tl := by omega
       have HS := Lib.hid hs
       have HX := Lib.hid hx
       clear hs hx hok hb hvs hxl
       by_cases h0 : s < 0
       ·have h0' : decide (s < 0) = true := by simpa using h0
        obtain rfl := not_ok HR.out (fun h => by have := (h.2.st j s x HS.out HX.out).1; omega)
        go_wp2_with fail
        go_ret
        exact ⟨rfl, below_step' B0.out BW.out⟩
       ·have h0' : decide (s < 0) = false := by simpa using h0
        by_cases h1 : (xl : Int) ≤ s
        ·have h1' : decide ((xl : Int) ≤ s) = true := by simpa using h1
         obtain rfl := not_ok HR.out (fun h => by have h2 := (h.2.st j s x HS.out HX.out).2; have h2 : s < (x.states.length : Int) := h2; have := XL.out; omega)
         go_wp2_with fail
         go_ret
         exact ⟨rfl, below_step' B0.out BW.out⟩
        ·have h1' : decide ((xl : Int) ≤ s) = false := by simpa using h1
         have HH : Hid (HasS x.states s) := Lib.hid ⟨by omega, by have := XL.out; show s < (x.states.length : Int); omega⟩
         go_wp2_with fail
         go_roundw
         case rel => exact ⟨j + 1, by go_num, by omega, fun n s' x' hn hs' hx' => by
          by_cases e : n = j
          ·subst e
           have a1 := HS.out
           have a2 := HX.out
           rw [hs'] at a1
           rw [hx'] at a2
           cases a1
           cases a2
           exact HH.out
          ·exact OKS.out n s' x' (by omega) hs' hx', BW.out⟩
         case measure => simp [intOf]; omega
      ·obtain rfl : j = n1 := by omega
       have hj3 : ¬ (j : Int) < j := by omega
       have q2 := K1.out.below hb 2 _ rfl
       obtain ⟨y2, hy2⟩ : ∃ y, y = wr := ⟨_, rfl⟩
       subst hy2
       clear hok hb
       go_wp2_with fail
       clear q2
       go_loopw [69] (fun i wr => ∃ k : Nat, i = .int .i64 k ∧ k ≤ n3 ∧ (∀ (n : Nat) (q : Int) (m : Lks), n < k → c.sent[n]? = some q → c.links[n]? = some m → LinkOK q m) ∧ Below y0.heap.size y0 wr) (fun i _ => n3 - (intOf i).toNat)
       case atStart => exact ⟨0, rfl, by omega, fun n s x h => by omega, BW.out⟩
       case round =>
        obtain ⟨k, rfl, hk, hok, hb⟩ := hrel
        have BX := Lib.hid hb
        have OKM := Lib.hid hok
        by_cases hlt2 : k < n3
        ·have hlt3 : (k : Int) < n3 := by omega
         obtain ⟨q, hq⟩ := some_of_lt (l := c.sent) (i := k) (by rw [← N3.out]; exact hlt2)
         obtain ⟨m, hm⟩ := some_of_lt (l := c.links) (i := k) (by rw [← N2.out, G2.out, ← G3.out]; exact hlt2)
         obtain ⟨qb, qo, e, x1⟩ := num_at (C3.out.later (below_step' B0.out hb)) hq
         subst e
         obtain ⟨lb, lo, ma, mc, e, _, e9, y1, hmm⟩ := lls_at (C2.out.later (below_step' B0.out hb)) hm
         clear e9
         subst e
         have q1 := K1.out.below hb 1 _ rfl
         have hk2 : k < n2 := by rw [G2.out, ← G3.out]; exact hlt2
         have hk3 : (k : Int) < n2 := by omega
         have HQ := Lib.hid hq
         have HM := Lib.hid hm
         have HMM := Lib.hid hmm
         obtain ⟨rr, hrr⟩ := bool_some (MsgsOK 0 q m)
         have RR := Lib.hid hrr
         clear hq hm hok hb hmm hrr
         by_cases h0 : q < 0
         ·have h0' : decide (q < 0) = true := by simpa using h0
          obtain rfl := not_ok HR.out (fun h => by have := (h.2.ms k q m HQ.out HM.out).1; omega)
          go_wp2_with fail
          go_ret
          exact ⟨rfl, below_step' B0.out BX.out⟩
         ·have h0' : decide (q < 0) = false := by simpa using h0
          by_cases h1 : 500 < q
          ·have h1' : decide (500 < q) = true := by simpa using h1
           obtain rfl := not_ok HR.out (fun h => by have := (h.2.ms k q m HQ.out HM.out).2.1; omega)
           go_wp2_with fail
           go_ret
           exact ⟨rfl, below_step' B0.out BX.out⟩
          ·have h1' : decide (500 < q) = false := by simpa using h1
           go_wp2_with fail
           refine (mayBe_at m q rr ma mc _ HMM.out (SMC.out.2.2.2 m (List.mem_of_getElem? HM.out)) RR.out).mono ?_
           rintro e w5 ⟨rfl, hb⟩
           have BY := Lib.hid (below_step' BX.out hb)
           clear hb x1 y1 q1
           cases rr with
           | false =>
            obtain rfl := not_ok HR.out (fun h => by have := RR.out.2 (h.2.ms k q m HQ.out HM.out).2.2; cases this)
            go_wp2_with fail
            go_ret
            exact ⟨rfl, below_step' B0.out BY.out⟩
           | true =>
            have HH : Hid (LinkOK q m) := Lib.hid ⟨by omega, by omega, RR.out.1 (by simp)⟩
            go_wp2_with fail
            go_roundw
            case rel => exact ⟨k + 1, by go_num, by omega, fun n q' m' hn hq' hm' => by
             by_cases e : n = k
             ·subst e
              have a1 := HQ.out
              have a2 := HM.out
              rw [hq'] at a1
              rw [hm'] at a2
              cases a1
              cases a2
              exact HH.out
             ·exact OKM.out n q' m' (by omega) hq' hm', BY.out⟩
            case measure => simp [intOf]; omega
        ·obtain rfl : k = n3 := by omega
         have hk3 : ¬ (k : Int) < k := by omega
         have hrt : r = true := HR.out.2 ⟨HTab.out, ⟨by rw [← N1.out, ← NN.out]; exact G1.out, by rw [← N2.out, ← GL.out]; exact G2.out, by rw [← N3.out, ← GL.out]; exact G3.out, fun n s x hs hx => OKS.out n s x (by have := lt_of_some hs; have := N1.out; omega) hs hx, fun n q m hq hm => OKM.out n q m (by have := lt_of_some hq; have := N3.out; omega) hq hm⟩⟩
         subst hrt
         clear hok hb
         go_wp2_with fail
         go_ret
         exact ⟨rfl, below_step' B0.out BX.out⟩
    ·have g3' : ((n3 : Int) != (gl : Int)) = true := by simp; omega
     obtain rfl := not_ok HR.out (fun h => g3 (by rw [N3.out, GL.out]; exact h.2.sent))
     clear g3
     go_wp2_with fail
     go_ret
     exact ⟨rfl, BW1.out⟩
   ·have g2' : ((n2 : Int) != (gl : Int)) = true := by simp; omega
    obtain rfl := not_ok HR.out (fun h => g2 (by rw [N2.out, GL.out]; exact h.2.links))
    clear g2
    go_wp2_with fail
    go_ret
    exact ⟨rfl, BW1.out⟩
  ·have g1' : ((n1 : Int) != N) = true := by simpa using g1
   obtain rfl := not_ok HR.out (fun h => g1 (by rw [N1.out, NN.out]; exact h.2.states))
   clear g1
   go_wp2_with fail
   go_ret
   exact ⟨rfl, BW1.out⟩
end Go.Proofs.Ytennbiajnkobnaa

