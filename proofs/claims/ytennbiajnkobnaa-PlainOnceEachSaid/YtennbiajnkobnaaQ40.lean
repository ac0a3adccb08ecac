/- Texts put together. -/
import Derived.Test.YtennbiajnkobnaaQ30
import Derived.Test.YtennbiajnkobnaaQ34
import Derived.Test.YtennbiajnkobnaaQ36
import Derived.Test.YtennbiajnkobnaaQ39
set_option linter.unusedSimpArgs false
set_option linter.unusedVariables false
namespace Go.Proofs.Ytennbiajnkobnaa
open Go.RowKit Go.PlainAid
def okS (A : Ap) (c : Cf) (s : Sp) : Bool := decide (errOf A c s = 0)
def canN (A : Ap) (c : Cf) (n : Nat) : List Sp := (((List.range n).map fun n => (List.range 4).map fun k => pickS n k).flatten).filter (okS A c)
def canNK (A : Ap) (c : Cf) (n k : Nat) : List Sp := canN A c n ++ ((List.range k).map fun k => pickS n k).filter (okS A c)
def canL (A : Ap) (c : Cf) (l : Nat) : List Sp := canN A c c.states.length ++ (((List.range l).map fun l => (c.links.getD l []).map fun m => delS l m.1).flatten).filter (okS A c)
def canLJ (A : Ap) (c : Cf) (l j : Nat) : List Sp := canL A c l ++ (((c.links.getD l []).take j).map fun m => delS l m.1).filter (okS A c)
theorem canN_zero (A : Ap) (c : Cf) : canN A c 0 = [] := rfl
theorem canNK_zero (A : Ap) (c : Cf) (n : Nat) : canNK A c n 0 = canN A c n := by simp [canNK]
theorem canL_zero (A : Ap) (c : Cf) : canL A c 0 = canN A c c.states.length := by simp [canL]
theorem canLJ_zero (A : Ap) (c : Cf) (l : Nat) : canLJ A c l 0 = canL A c l := by simp [canLJ]
theorem canNK_next (A : Ap) (c : Cf) (n k : Nat) : canNK A c n (k + 1) = if errOf A c (pickS n k) = 0 then canNK A c n k ++ [pickS n k] else canNK A c n k := by
 unfold canNK
 rw [List.range_succ, List.map_append, List.filter_append, ← List.append_assoc]
 by_cases h : errOf A c (pickS n k) = 0
 ·rw [if_pos h]; simp [okS, h]
 ·rw [if_neg h]; simp [okS, h]
theorem canN_next (A : Ap) (c : Cf) (n : Nat) : canN A c (n + 1) = canNK A c n 4 := by
 unfold canNK canN
 rw [show List.range (n + 1) = List.range n ++ [n] from List.range_succ, List.map_append, List.flatten_append, List.filter_append]
 simp
theorem canLJ_next (A : Ap) (c : Cf) {l j : Nat} {x : Lks} {m : Int × Int} (hx : c.links[l]? = some x) (hm : x[j]? = some m) : canLJ A c l (j + 1) = if errOf A c (delS l m.1) = 0 then canLJ A c l j ++ [delS l m.1] else canLJ A c l j := by
 have hg : c.links.getD l [] = x := by simp [List.getD, hx]
 unfold canLJ
 rw [hg, List.take_add_one, hm, List.map_append, List.filter_append, ← List.append_assoc]
 by_cases h : errOf A c (delS l m.1) = 0
 ·rw [if_pos h]; simp [okS, h]
 ·rw [if_neg h]; simp [okS, h]
theorem canL_next (A : Ap) (c : Cf) {l : Nat} {x : Lks} (hx : c.links[l]? = some x) : canL A c (l + 1) = canLJ A c l x.length := by
 have hg : c.links.getD l [] = x := by simp [List.getD, hx]
 unfold canLJ canL
 rw [List.range_succ, List.map_append, List.flatten_append, List.filter_append, hg, List.take_length]
 simp [hx]
theorem canL_all (A : Ap) (c : Cf) : canL A c c.links.length = canOf A c := by
 unfold canL canOf tryOf canN
 rw [List.filter_append]
 rfl
theorem canNK_len (A : Ap) (c : Cf) (n k : Nat) : (canNK A c n k).length ≤ n * 4 + k := by
 unfold canNK canN
 rw [List.length_append]
 have h1 := List.length_filter_le (okS A c) (((List.range n).map fun n => (List.range 4).map fun k => pickS n k).flatten)
 have h2 := List.length_filter_le (okS A c) ((List.range k).map fun k => pickS n k)
 have h3 : (((List.range n).map fun n => (List.range 4).map fun k => pickS n k).flatten).length = n * 4 := by
  clear h1 h2
  induction n with
  | zero => rfl
  | succ n ih => rw [show List.range (n + 1) = List.range n ++ [n] from List.range_succ, List.map_append, List.flatten_append, List.length_append, ih]; simp; omega
 rw [List.length_map, List.length_range] at h2
 omega
theorem canLJ_len {A : Ap} {c : Cf} (h : ∀ x ∈ c.links, x.length ≤ 500) (l j : Nat) : (canLJ A c l j).length ≤ c.states.length * 4 + l * 500 + j := by
 unfold canLJ canL
 rw [List.length_append, List.length_append]
 have h0 := canNK_len A c c.states.length 0
 rw [canNK_zero] at h0
 have h1 := List.length_filter_le (okS A c) (((List.range l).map fun l => (c.links.getD l []).map fun m => delS l m.1).flatten)
 have h2 := List.length_filter_le (okS A c) (((c.links.getD l []).take j).map fun m => delS l m.1)
 have h3 : (((List.range l).map fun l => (c.links.getD l []).map fun m => delS l m.1).flatten).length ≤ l * 500 := by
  clear h1 h2 h0
  induction l with
  | zero => simp
  | succ l ih =>
   rw [List.range_succ, List.map_append, List.flatten_append, List.length_append]
   have : (c.links.getD l []).length ≤ 500 := by
    simp only [List.getD]
    cases hl : c.links[l]? with
    | none => simp
    | some x => exact h x (List.mem_of_getElem? hl)
   simp only [List.map_cons, List.map_nil, List.flatten_cons, List.flatten_nil, List.append_nil, List.length_map]
   omega
 rw [List.length_map, List.length_take] at h2
 omega
/-- What Can tells. -/
def Canned (A : Ap) (c : Cf) (w : World) (e : Ending) (w' : World) : Prop := ∃ u, e = .returned u ∧ Has w' u (dSteps (canOf A c)) ∧ Below w.heap.size w w'
set_option maxHeartbeats 8000000 in
set_option maxRecDepth 100000 in
theorem can_at (A : Ap) (c : Cf) (hOK : CfOK A c) (hsm : SmallTab A.t) (vG vT v1 v2 v3 : Value) (w : World) (hG : LinksAt w vG A.l) (hT : Has w vT (dTab A.t)) (hC : HasL w [v1, v2, v3] c.d) :
  Calls Try.prog 13 #[.agg #[.int .i64 A.n, vG, vT, .bool A.ff], .agg #[v1, v2, v3]] w fun e w' => Canned A c w e w' := by
 obtain ⟨ga, gc, ee⟩ := slice_of (has_of_links hG)
 subst ee
 obtain ⟨ta, tc, ee⟩ := slice_of hT
 subst ee
 obtain ⟨c1, c2, c3⟩ := cf_has hC
 obtain ⟨a1, e1, ee⟩ := slice_of c1
 subst ee
 obtain ⟨a2, e2, ee⟩ := slice_of c2
 subst ee
 obtain ⟨a3, e3, ee⟩ := slice_of c3
 subst ee
 obtain ⟨tl, htl⟩ : ∃ n, n = A.t.length := ⟨_, rfl⟩
 obtain ⟨gl, hgl⟩ : ∃ n, n = A.l.length := ⟨_, rfl⟩
 obtain ⟨n1, hn1⟩ : ∃ n, n = c.states.length := ⟨_, rfl⟩
 obtain ⟨n2, hn2⟩ : ∃ n, n = c.links.length := ⟨_, rfl⟩
 obtain ⟨n3, hn3⟩ : ∃ n, n = c.sent.length := ⟨_, rfl⟩
 rw [← hgl] at hG ⊢
 rw [← htl] at hT ⊢
 rw [← hn1] at c1 ⊢
 rw [← hn2] at c2 ⊢
 rw [← hn3] at c3 ⊢
 have HG := Lib.hid hG
 have HT := Lib.hid hT
 have C1 := Lib.hid c1
 have C2 := Lib.hid c2
 have C3 := Lib.hid c3
 have OK := Lib.hid hOK
 have SMT := Lib.hid hsm
 have N1 := Lib.hid hn1
 have N2 := Lib.hid hn2
 have hl1 : n1 ≤ 6 := by have a := hOK.2.states; have b := hOK.1.1.1; have d := hOK.1.1.2.1; omega
 have hl2 : n2 ≤ 30 := by have a := hOK.2.links; have b := hOK.1.1.2.2.1; omega
 have hL5 : ∀ x ∈ c.links, x.length ≤ 500 := fun x hx => by
  obtain ⟨i, hi⟩ := List.mem_iff_getElem?.1 hx
  obtain ⟨q, m, _, hm, hk⟩ := cf_at hOK (i := i) (by have := lt_of_get hi; have := hOK.2.links; omega)
  rw [hi] at hm
  cases hm
  have := linkOK_len hk
  omega
 have L5 := Lib.hid hL5
 have hmf : ∀ (fn : Fn) (first cap : Array Value) (w : World), (Instr.makeFunc fn first cap).run Try.prog w = .ok (.func fn first cap) w := fun _ _ _ _ => rfl
 clear hG hT hC c1 c2 c3 hOK hsm hn1 hn2 hn3 hgl htl hL5
 go_enter Try.func13, Try.ntmps13
 try simp only [List.append_eq, List.cons_append, List.nil_append]
 go_upto_region 1 with fail
 obtain ⟨y0, hy0⟩ : ∃ y, y = (w.alloc (.cells #[.int .i64 A.n, .slice ga gl gc, .slice ta tl tc, .bool A.ff] 27)).alloc (.cells #[.slice a1 n1 e1, .slice a2 n2 e2, .slice a3 n3 e3] 31) := ⟨_, rfl⟩
 have hb0 : Below w.heap.size w y0 := by rw [hy0]; exact below_step' (below_new _ _) (below_new _ _)
 have hx0 : BoxAt w.heap.size [.int .i64 A.n, .slice ga gl gc, .slice ta tl tc, .bool A.ff] y0 := by rw [hy0]; exact (boxAt_new w [.int .i64 A.n, .slice ga gl gc, .slice ta tl tc, .bool A.ff] _).below (below_new _ _)
 have hx1 : BoxAt (w.heap.size + 1) [.slice a1 n1 e1, .slice a2 n2 e2, .slice a3 n3 e3] y0 := by
  have h := boxAt_new (w.alloc (.cells #[.int .i64 A.n, .slice ga gl gc, .slice ta tl tc, .bool A.ff] 27)) [.slice a1 n1 e1, .slice a2 n2 e2, .slice a3 n3 e3] 31
  rw [size_alloc] at h
  rw [hy0]; exact h
 have B0 := Lib.hid hb0
 have K1 := Lib.hid hx1
 rw [← hy0]
 have p0 := hx0 0 _ rfl
 have p1 := hx0 1 _ rfl
 have p2 := hx0 2 _ rfl
 have p3 := hx0 3 _ rfl
 have q0 := hx1 0 _ rfl
 have q1 := hx1 1 _ rfl
 have q2 := hx1 2 _ rfl
 clear hy0 hb0 hx0 hx1
 go_wp2_with fail
 refine (systemIn_at A.n gl gc ga (.slice ta tl tc) A.ff a1 a2 a3 n1 n2 n3 e1 e2 e3 none _ ⟨_, _, _, rfl⟩).mono ?_
 rintro e w1 ⟨b, mb, rfl, hb1, hb2, hb3, hsy, hbe⟩
 have SY := Lib.hid hsy
 have BE := Lib.hid hbe
 have K1' := Lib.hid (K1.out.below hbe)
 clear hb1 hb2 hb3 hsy hbe p0 p1 p2 p3 q0 q1 q2 K1
 go_upto_region 4 with fail
 obtain ⟨wb, hwb⟩ : ∃ x, x = w1.alloc (.cells #[.pointer (some ⟨b, 0, none⟩)] 82) := ⟨_, rfl⟩
 have hbb : Below w1.heap.size w1 wb := by rw [hwb]; exact below_new _ _
 have hzb : wb.heap.size = w1.heap.size + 1 := by rw [hwb]; simp
 have hcx : wb.cell? ⟨w1.heap.size, 0, none⟩ = some (.pointer (some ⟨b, 0, none⟩)) := by rw [hwb]; exact World.cell?_alloc_at _ _ _ _ rfl
 rw [← hwb]
 obtain ⟨y2, hy2⟩ : ∃ x, x = wb.alloc (.cells #[.slice none 0 0] 44) := ⟨_, rfl⟩
 have hF0 : TryF wb (w1.heap.size + 1) (.slice none 0 0) [] y2 := by
  rw [hy2, ← hzb]
  exact ⟨World.cell?_alloc_at _ _ _ _ rfl, frozen_new _ _ _ _, ⟨Own.nil (below_new _ _), fun k hk => by simp [Value.ownBlock] at hk⟩, by simp, Nat.le_refl _⟩
 rw [← hy2]
 obtain ⟨lb, hlb⟩ : ∃ x, x = w1.heap.size + 1 := ⟨_, rfl⟩
 obtain ⟨xb, hxb⟩ : ∃ x, x = w1.heap.size := ⟨_, rfl⟩
 obtain ⟨cb, hcb⟩ : ∃ x, x = w.heap.size + 1 := ⟨_, rfl⟩
 have B0b := Lib.hid (below_step' (below_step' B0.out BE.out) hbb)
 have SR : Hid (SysR A c b mb (.slice ga gl gc) (.slice ta tl tc) (.slice a1 n1 e1) (.slice a2 n2 e2) (.slice a3 n3 e3) wb) := Lib.hid ⟨SY.out.below hbb, HG.out.below B0b.out, HT.out.later B0b.out, C1.out.later B0b.out, C2.out.later B0b.out, C3.out.later B0b.out⟩
 have KC := Lib.hid (K1'.out.below hbb)
 rw [← hlb] at hF0 ⊢
 rw [← hxb] at hcx ⊢
 rw [← hcb] at KC ⊢
 have F0 := Lib.hid hF0
 have CX := Lib.hid hcx
 clear hwb hbb hzb hcx hy2 hF0 hlb hxb hcb K1' SY BE
 have q0 := KC.out.below F0.out.bld.own.bel 0 _ rfl
 go_wp2_with fail
 clear q0
 go_loopw [21] (fun i wr => ∃ (n : Nat) (v : Value), i = .int .i64 n ∧ n ≤ n1 ∧ TryF wb lb v (canN A c n) wr) (fun i _ => n1 - (intOf i).toNat)
 case atStart => exact ⟨0, _, rfl, by omega, by rw [canN_zero]; exact F0.out⟩
 case round =>
  obtain ⟨n, v, rfl, hn, hF⟩ := hrel
  have FF := Lib.hid hF
  clear hF
  by_cases hlt : n < n1
  ·have hlt' : (n : Int) < n1 := by omega
   go_wp2_with fail
   go_loopw [24] (fun i wr => ∃ (k : Nat) (v : Value), i = .int .i64 k ∧ k ≤ 4 ∧ TryF wb lb v (canNK A c n k) wr) (fun i _ => 4 - (intOf i).toNat)
   case atStart => exact ⟨0, _, rfl, by omega, by rw [canNK_zero]; exact FF.out⟩
   case round =>
    obtain ⟨k, v, rfl, hk, hF⟩ := hrel
    have FK := Lib.hid hF
    clear hF
    by_cases hk4 : k < 4
    ·have hk4' : (k : Int) < 4 := by omega
     go_wp2_with fail
     refine (try_at A c OK.out SMT.out 0 n k 0 0 (canNK A c n k) (by have := canNK_len A c n k; omega) b mb xb lb _ _ _ _ _ v wb _ SR.out CX.out FK.out).mono ?_
     rintro e w5 ⟨rfl, v5, hF5⟩
     have F5 : Hid (TryF wb lb v5 (canNK A c n (k + 1)) w5) := Lib.hid (by rw [canNK_next]; exact hF5)
     clear hF5
     go_wp2_with fail
     go_roundw
     case rel => exact ⟨k + 1, v5, by go_num, by omega, F5.out⟩
     case measure => simp [intOf]; omega
    ·obtain rfl : k = 4 := by omega
     go_wp2_with fail
     go_roundw
     case rel => exact ⟨n + 1, v, by go_num, by omega, by rw [canN_next]; exact FK.out⟩
     case measure => simp [intOf]; omega
  ·obtain rfl : n = n1 := by omega
   have hj3 : ¬ (n : Int) < n := by omega
   have q1 := KC.out.below FF.out.bld.own.bel 1 _ rfl
   go_wp2_with fail
   clear q1
   go_loopw [37] (fun i wr => ∃ (l : Nat) (v : Value), i = .int .i64 l ∧ l ≤ n2 ∧ TryF wb lb v (canL A c l) wr) (fun i _ => n2 - (intOf i).toNat)
   case atStart => exact ⟨0, _, rfl, by omega, by rw [canL_zero, ← N1.out]; exact FF.out⟩
   case round =>
    obtain ⟨l, v, rfl, hl, hF⟩ := hrel
    have FL := Lib.hid hF
    clear hF FF
    by_cases hll : l < n2
    ·have hll' : (l : Int) < n2 := by omega
     obtain ⟨x, hx⟩ := some_of_lt (l := c.links) (i := l) (by rw [← N2.out]; exact hll)
     obtain ⟨lb2, lo, ma, mc, e, _, e9, y1, hmm⟩ := lls_at SR.out.l hx
     clear e9
     subst e
     obtain ⟨ml, hml⟩ : ∃ m, m = x.length := ⟨_, rfl⟩
     rw [← hml] at y1 hmm
     have ML := Lib.hid hml
     have HX := Lib.hid hx
     have MM := Lib.hid hmm
     have hm5 : ml ≤ 500 := by rw [hml]; exact L5.out x (List.mem_of_getElem? hx)
     replace y1 := (FL.out.bld.own.bel.cell (World.block_lt_of_cell? wb _ y1)).trans y1
     clear hml hx hmm
     go_wp2_with fail
     clear y1
     go_loopw [44] (fun i wr => ∃ (j : Nat) (v : Value), i = .int .i64 j ∧ j ≤ ml ∧ TryF wb lb v (canLJ A c l j) wr) (fun i _ => ml - (intOf i).toNat)
     case atStart => exact ⟨0, _, rfl, by omega, by rw [canLJ_zero]; exact FL.out⟩
     case round =>
      obtain ⟨j, v, rfl, hj, hF⟩ := hrel
      have FK := Lib.hid hF
      clear hF
      by_cases hjl : j < ml
      ·have hjl' : (j : Int) < ml := by omega
       obtain ⟨⟨q1, q2⟩, hm⟩ := some_of_lt (l := x) (i := j) (by rw [← ML.out]; exact hjl)
       obtain ⟨b', o', e, z1, z2⟩ := link_at (MM.out.later FK.out.bld.own.bel) hm
       subst e
       simp only at z1 z2
       have HM := Lib.hid hm
       have F1 : Hid (TryF wb lb v (canLJ A c l j) (wr.alloc (.cells #[.int .i64 q1, .int .i64 q2] 56))) := Lib.hid (Fld.below FK.out (below_new _ _))
       clear hm
       go_wp2_with fail
       refine (try_at A c OK.out SMT.out 1 0 0 l q1 (canLJ A c l j) (by have := canLJ_len (A := A) L5.out l j; have := N1.out; omega) b mb xb lb _ _ _ _ _ v wb _ SR.out CX.out F1.out).mono ?_
       rintro e w5 ⟨rfl, v5, hF5⟩
       have F5 : Hid (TryF wb lb v5 (canLJ A c l (j + 1)) w5) := Lib.hid (by rw [canLJ_next A c HX.out HM.out]; exact hF5)
       clear hF5 z1 z2
       go_wp2_with fail
       go_roundw
       case rel => exact ⟨j + 1, v5, by go_num, by omega, F5.out⟩
       case measure => simp [intOf]; omega
      ·obtain rfl : j = ml := by omega
       have hj9 : ¬ (j : Int) < j := by omega
       go_wp2_with fail
       go_roundw
       case rel => exact ⟨l + 1, v, by go_num, by omega, by rw [canL_next A c HX.out, ← ML.out]; exact FK.out⟩
       case measure => simp [intOf]; omega
    ·obtain rfl : l = n2 := by omega
     have hj9 : ¬ (l : Int) < l := by omega
     obtain ⟨va, vc, hv⟩ := FL.out.bld.own.slice
     obtain ⟨k9, hk9⟩ : ∃ k, k = ((canL A c l).map Sp.d).length := ⟨_, rfl⟩
     rw [← hk9] at hv
     clear hk9
     subst hv
     have c9 := FL.out.cell
     have hH : Has wr (.slice va k9 vc) (dSteps (canOf A c)) := by
      have := FL.out.bld.holds.weak
      rw [N2.out, canL_all] at this
      exact this
     have HH := Lib.hid hH
     have BE := Lib.hid (below_step' B0b.out FL.out.bld.own.bel)
     clear hH
     go_wp2_with fail
     go_ret
     exact ⟨_, rfl, HH.out, BE.out⟩
end Go.Proofs.Ytennbiajnkobnaa

set_option linter.unusedSimpArgs false
namespace Go.Proofs.Ytennbiajnkobnaa
open Go.RowKit Go.PlainAid
def A5 : Ap := ⟨2, F2, T5, false⟩
def A5f : Ap := ⟨2, F2, T5, true⟩
def C50 : Cf := ⟨[0, 0], [[], []], [0, 0]⟩
def D50 : Cf := ⟨[1, 0], [[(1, 1), (2, 2)], []], [2, 0]⟩
def X50 : Cf := ⟨[1, 0], [[(1, 1)], []], [2, 0]⟩
def Y50 : Cf := ⟨[1, 1], [[(2, 2)], []], [2, 0]⟩
theorem t5Small : SmallTab T5 := by
 refine ⟨by simp [T5], fun y hy => ?_⟩
 simp [T5] at hy
 rcases hy with rfl | rfl
 ·refine ⟨by simp, fun s hs => ?_⟩
  simp at hs
  rcases hs with rfl | rfl <;> simp [SmallSt]
 ·refine ⟨by simp, fun s hs => ?_⟩
  simp at hs
  rcases hs with rfl | rfl <;> simp [SmallSt]
theorem t5OK : TabOK 2 F2 T5 := by
 refine ⟨rightF2, rfl, fun n x hx => ?_⟩
 match n, hx with
 | 0, hx =>
  simp [T5] at hx; subst hx
  refine ⟨by simp, ⟨by simp, by simp⟩, fun t ht => ?_, fun t ht => ?_⟩
  ·simp at ht
   rcases ht with rfl | rfl
   ·refine ⟨⟨by decide, by decide⟩, ⟨by simp, fun i x h => by simp at h⟩, ⟨by simp, by simp, fun i p h => ?_⟩, fun i x h => by simp at h⟩
    match i, h with
    | 0, h =>
     simp at h; subst h
     refine ⟨⟨by simp, by simp⟩, by simp, fun j q hq => ?_⟩
     match j, hq with
     | 0, hq => simp at hq; subst hq; exact ⟨by decide, by decide, by decide⟩
     | 1, hq => simp at hq; subst hq; exact ⟨by decide, by decide, by decide⟩
     | j + 2, hq => simp at hq
    | i + 1, h => simp at h
   ·exact zeroOK _ _ _
  ·simp at ht
   rcases ht with rfl | rfl <;> (intro i u h; simp at h)
 | 1, hx =>
  simp [T5] at hx; subst hx
  refine ⟨by simp, ⟨by simp, by simp⟩, fun t ht => ?_, fun t ht => ?_⟩
  ·simp at ht
   rcases ht with rfl | rfl
   ·refine ⟨⟨by decide, by decide⟩, ⟨by simp, fun i x h => ?_⟩, ⟨by simp, by simp, fun i p h => by simp at h⟩, fun i u h => ?_⟩
    ·match i, h with
     | 0, h => simp at h; subst h; exact ⟨by decide, fun u h => by omega⟩
     | i + 1, h => simp at h
    ·match i, h with
     | 0, h => simp at h; subst h; exact ⟨⟨by decide, by decide, by decide⟩, ⟨by simp, by simp⟩, fun j u hj => by omega⟩
     | i + 1, h => simp at h
   ·exact zeroOK _ _ _
  ·simp at ht
   rcases ht with rfl | rfl
   ·intro i u h j y hy hne
    match i, h with
    | 0, h =>
     simp at h; subst h
     match j, hy with
     | 0, hy => simp at hy; subst hy; exact absurd rfl hne
     | j + 1, hy => simp at hy
    | i + 1, h => simp at h
   ·intro i u h; simp at h
 | n + 2, hx => simp [T5] at hx
theorem c50_is : startOf A5 = C50 := rfl
theorem c50OK : CfOK A5 C50 := startOf_ok (A := A5) t5OK
theorem e50_0 : errOf A5 C50 ⟨0, 0, 0, 0, 0⟩ = 0 := by decide
theorem d50_is : doneOf A5 C50 ⟨0, 0, 0, 0, 0⟩ = D50 := by rfl
theorem d50OK : CfOK A5 D50 := by rw [← d50_is]; exact doneOf_ok c50OK e50_0
theorem e50_1 : errOf A5 C50 ⟨0, 1, 0, 0, 0⟩ = 8 := by decide
theorem e50_2 : errOf A5 C50 ⟨0, 0, 1, 0, 0⟩ = 3 := by decide
theorem e50_3 : errOf A5 C50 ⟨0, 2, 0, 0, 0⟩ = 1 := by decide
theorem e50_4 : errOf A5 D50 ⟨1, 0, 0, 0, 2⟩ = 0 := by decide
theorem x50_is : doneOf A5 D50 ⟨1, 0, 0, 0, 2⟩ = X50 := by rfl
theorem e50_5 : errOf A5f D50 ⟨1, 0, 0, 0, 2⟩ = 3 := by decide
theorem y50_is : runOf A5f C50 [⟨0, 0, 0, 0, 0⟩, ⟨1, 0, 0, 0, 1⟩, ⟨0, 0, 0, 0, 0⟩] = (Y50, 2, 8) := by rfl
theorem can50 : canOf A5f D50 = [⟨1, 0, 0, 0, 1⟩] := by decide
theorem can50' : (canOf A5 D50).length = 2 := by decide
theorem c50OKf : CfOK A5f C50 := ⟨c50OK.1, c50OK.2.states, c50OK.2.links, c50OK.2.sent, c50OK.2.st, c50OK.2.ms⟩
theorem d50OKf : CfOK A5f D50 := ⟨d50OK.1, d50OK.2.states, d50OK.2.links, d50OK.2.sent, d50OK.2.st, d50OK.2.ms⟩
end Go.Proofs.Ytennbiajnkobnaa

set_option linter.unusedSimpArgs false
set_option linter.unusedVariables false
namespace Go.Proofs.Ytennbiajnkobnaa
open Go.RowKit Go.PlainAid
set_option maxHeartbeats 8000000 in
set_option maxRecDepth 100000 in
theorem rmsgs_at (xs ys : Lks) (r : Bool) (v1 v2 : Value) (w : World) (h1 : Has w v1 (dLinks xs)) (h2 : Has w v2 (dLinks ys)) (hn : xs.length ≤ 1000000) (hr : r = true ↔ xs = ys) :
  Calls Try.prog 35 #[v1, v2] w fun e w' => e = .returned (.bool r) ∧ Below w.heap.size w w' := by
 obtain ⟨a1, c1, ee⟩ := slice_of h1
 subst ee
 obtain ⟨a2, c2, ee⟩ := slice_of h2
 subst ee
 have H1 := Lib.hid h1
 have H2 := Lib.hid h2
 have HR := Lib.hid hr
 by_cases hl : xs.length = ys.length
 ·obtain ⟨n, hx⟩ : ∃ n, n = xs.length := ⟨_, rfl⟩
  have hy : n = ys.length := by rw [hx]; exact hl
  rw [← hx] at h1 hn ⊢
  rw [← hy] at h2 ⊢
  replace H1 := Lib.hid h1
  replace H2 := Lib.hid h2
  have HX := Lib.hid hx
  have HY := Lib.hid hy
  clear h1 h2 hr hl hx hy
  go_enter Try.func35, Try.ntmps35
  try simp only [List.append_eq, List.cons_append, List.nil_append]
  go_wp2_with fail
  go_loopw [5] (fun i wr => ∃ j : Nat, i = .int .i64 j ∧ j ≤ n ∧ xs.take j = ys.take j ∧ Below w.heap.size w wr) (fun i _ => n - (intOf i).toNat)
  case atStart => exact ⟨0, rfl, by omega, rfl, Below.refl _ _⟩
  case round =>
   obtain ⟨j, rfl, hj, heq, hb⟩ := hrel
   have BW := Lib.hid hb
   by_cases hlt : j < n
   ·have hlt' : (j : Int) < n := by omega
    obtain ⟨⟨x1, x2⟩, hx⟩ := some_of_lt (l := xs) (i := j) (by rw [← HX.out]; exact hlt)
    obtain ⟨⟨y1, y2⟩, hy⟩ := some_of_lt (l := ys) (i := j) (by rw [← HY.out]; exact hlt)
    obtain ⟨b, o, e, p1, p2⟩ := msg_at (H1.out.later hb) hx
    subst e
    obtain ⟨b', o', e, q1, q2⟩ := msg_at (H2.out.later hb) hy
    subst e
    simp only at p1 p2 q1 q2
    have GX := Lib.hid hx
    have GY := Lib.hid hy
    have EQ := Lib.hid heq
    clear hx hy heq hb
    by_cases hxy : x1 = y1 ∧ x2 = y2
    ·obtain ⟨rfl, rfl⟩ := hxy
     go_wp2_with fail
     go_quiet (fail)
     have hbq : Below wr.heap.size wr (wr.drewN nq) := below_drewN (Below.refl _ wr) nq
     have BQ := Lib.hid (below_step' BW.out hbq)
     clear hbq
     go_wp2_with fail
     go_roundw
     case rel => exact ⟨j + 1, by go_num, by omega, take_next GX.out GY.out EQ.out rfl, BQ.out⟩
     case measure => simp [intOf]; omega
    ·have hne : (x1 == y1 && x2 == y2) = false := by
      cases h1 : (x1 == y1 && x2 == y2) with
      | false => rfl
      | true => simp at h1; exact absurd h1 hxy
     have hrf : r = false := by
      cases r with
      | false => rfl
      | true =>
       have e := HR.out.1 rfl
       have h := GX.out
       rw [e, GY.out] at h
       cases h
       exact absurd ⟨rfl, rfl⟩ hxy
     subst hrf
     by_cases hx1 : x1 = y1
     ·subst hx1
      have hx2 : ¬ x2 = y2 := fun e => hxy ⟨rfl, e⟩
      have hx3 : (x2 == y2) = false := by simpa using hx2
      clear hxy hne
      go_wp2_with fail
      go_quiet (fail)
      have hbq : Below wr.heap.size wr (wr.drewN nq) := below_drewN (Below.refl _ wr) nq
      have BQ := Lib.hid (below_step' BW.out hbq)
      clear hbq
      go_wp2_with fail
      go_ret
      exact ⟨rfl, BQ.out⟩
     ·have hx3 : (x1 == y1) = false := by simpa using hx1
      clear hxy hne
      go_wp2_with fail
      go_quiet (fail)
      have hbq : Below wr.heap.size wr (wr.drewN nq) := below_drewN (Below.refl _ wr) nq
      have BQ := Lib.hid (below_step' BW.out hbq)
      clear hbq
      go_wp2_with fail
      go_ret
      exact ⟨rfl, BQ.out⟩
   ·obtain rfl : j = n := by omega
    have hj3 : ¬ (j : Int) < j := by omega
    have hrt : r = true := HR.out.2 (by
     have h := heq
     rw [List.take_of_length_le (by rw [HX.out]; exact Nat.le_refl _), List.take_of_length_le (by rw [HY.out]; exact Nat.le_refl _)] at h
     exact h)
    subst hrt
    clear heq hb
    go_wp2_with fail
    go_ret
    exact ⟨rfl, BW.out⟩
 ·have hrf : r = false := by
   cases r with
   | false => rfl
   | true => exact absurd (congrArg List.length (hr.1 rfl)) hl
  subst hrf
  obtain ⟨n, hx⟩ : ∃ n, n = xs.length := ⟨_, rfl⟩
  obtain ⟨m, hy⟩ : ∃ n, n = ys.length := ⟨_, rfl⟩
  rw [← hx, ← hy] at hl ⊢
  have hl1 : ¬ (n : Int) = m := by omega
  have hl2 : ((n : Int) != m) = true := by simp; omega
  clear h1 h2 hr hx hy HR H1 H2 hn
  go_enter Try.func35, Try.ntmps35
  try simp only [List.append_eq, List.cons_append, List.nil_append]
  go_wp2_with fail
  go_ret
  exact ⟨rfl, Below.refl _ _⟩
end Go.Proofs.Ytennbiajnkobnaa

