/- The document's Encode; its reader. Written by gen_rdecode.py. -/
import Derived.Test.YtcopedhoepblpaaPkV
import Derived.Test.YtcopedhoepblpaaPkT
import Derived.Test.YtcopedhoepblpaaPkK
import Derived.Test.YtcopedhoepblpaaPkM
import Derived.Deep.CutRange
import Derived.BigQuiet
set_option linter.unusedSimpArgs false
set_option linter.unusedVariables false
set_option maxRecDepth 100000
namespace Go.Proofs.Ytcopedhoepblpaa
open Go.RowKit Go.PlainAid
set_option maxHeartbeats 1000000 in
theorem rputs_at (xs : List Int) (v : Value) (w : World) (h : Has w v (dInts xs)) (hn : xs.length ≤ 1000000) :
    Calls Try.prog 26 #[v] w fun e w' => e = .returned (.string (strB (putsB xs))) ∧ Below w.heap.size w w' := by
  rcases h.ints with ⟨a, cap, rfl, rfl⟩ | ⟨b, off, len, cap, rfl, h1, h2, h3, h4, h5⟩
  · exact rputs_none a cap w
  · exact rputs_some b off len cap xs w h1 (by omega) h3 h5
set_option maxHeartbeats 4000000 in
theorem rencode_at (p : Pc) (v1 v2 v3 : Value) (w : World) (h : HasL w [v1, v2, v3] p.d) (hs : SmallPc p) :
    Calls Try.prog 11 #[pcv p v1 v2 v3] w fun e w' => e = .returned (.tuple #[.string (encR p).1, .int .i64 (encR p).2]) ∧ Below w.heap.size w w' := by
  have RT := fun (r : Bool) (hr : r = okB p) (y : World) (hb : Below w.heap.size w y) => rright6_at p r v1 v2 v3 y (h.later hb) hs hr
  have NT := fun (hok : okB p = true) (y : World) (hb : Below w.heap.size w y) => rnums_at p v1 v2 v3 y (h.later hb) hok
  obtain ⟨a1, a2, a3, n1, n2, n3, e1, e2, e3, ee1, ee2, ee3⟩ := pc_slices h
  subst ee1
  subst ee2
  subst ee3
  have HRT := Lib.hid RT
  have HNT := Lib.hid NT
  clear h hs RT NT
  obtain ⟨m0, hm0⟩ : ∃ m, m = p.node := ⟨_, rfl⟩
  obtain ⟨m1, hm1⟩ : ∃ m, m = p.state := ⟨_, rfl⟩
  obtain ⟨m2, hm2⟩ : ∃ m, m = p.steps := ⟨_, rfl⟩
  unfold pcv at HRT HNT ⊢
  rw [← hm0, ← hm1, ← hm2] at HRT HNT ⊢
  clear hm0 hm1 hm2
  cases hok : okB p with
  | false =>
    have HQ := Lib.hid hok
    have EN : encR p = (strB [], 4) := by unfold encR; rw [if_neg (by rw [hok]; simp)]
    have EN' := Lib.hid EN
    clear hok EN
    go_enter Try.func11, Try.ntmps11
    go_wp2_with fail
    refine (HRT.out false HQ.out.symm _ (below_new _ _)).mono ?_
    rintro e w1 ⟨rfl, hb⟩
    have B1 := Lib.hid (below_step' (below_new _ _) hb)
    clear hb
    go_wp2_with fail
    go_ret2
    exact ⟨by rw [EN'.out]; rfl, B1.out⟩
  | true =>
    have HQ := Lib.hid hok
    have EN : encR p = (strB (putsB (numsOf p)), 0) := by unfold encR; rw [if_pos hok]
    have EN' := Lib.hid EN
    clear hok EN
    go_enter Try.func11, Try.ntmps11
    go_upto_region 1 with fail
    obtain ⟨y0, hy0⟩ : ∃ y, y = w.alloc (.cells #[.int .i64 m0, .int .i64 m1, .int .i64 m2, .slice a1 n1 e1, .slice a2 n2 e2, .slice a3 n3 e3] 32) := ⟨_, rfl⟩
    have hb0 : Below w.heap.size w y0 := by rw [hy0]; exact below_new _ _
    have hx0 : BoxAt w.heap.size [.int .i64 m0, .int .i64 m1, .int .i64 m2, .slice a1 n1 e1, .slice a2 n2 e2, .slice a3 n3 e3] y0 := by rw [hy0]; exact boxAt_new w [.int .i64 m0, .int .i64 m1, .int .i64 m2, .slice a1 n1 e1, .slice a2 n2 e2, .slice a3 n3 e3] _
    have B0 := Lib.hid hb0
    have K0 := Lib.hid hx0
    rw [← hy0]
    clear hy0 hb0 hx0
    have p0 := K0.out 0 _ rfl
    have p1 := K0.out 1 _ rfl
    have p2 := K0.out 2 _ rfl
    have p3 := K0.out 3 _ rfl
    have p4 := K0.out 4 _ rfl
    have p5 := K0.out 5 _ rfl
    go_wp2_with fail
    refine (HRT.out true HQ.out.symm _ B0.out).mono ?_
    rintro e w1 ⟨rfl, hb⟩
    have BW1 := Lib.hid (below_step' B0.out hb)
    have B1 := Lib.hid hb
    clear hb p0 p1 p2 p3 p4 p5
    have p0 := K0.out.below B1.out 0 _ rfl
    have p1 := K0.out.below B1.out 1 _ rfl
    have p2 := K0.out.below B1.out 2 _ rfl
    have p3 := K0.out.below B1.out 3 _ rfl
    have p4 := K0.out.below B1.out 4 _ rfl
    have p5 := K0.out.below B1.out 5 _ rfl
    go_wp2_with fail
    refine (HNT.out HQ.out _ BW1.out).mono ?_
    rintro e w2 ⟨u, rfl, hu, hb⟩
    have BW2 := Lib.hid (below_step' BW1.out hb)
    have PT := Lib.hid (rputs_at _ _ _ hu (by have := flat_le7 HQ.out; omega))
    obtain ⟨ua, uc, e⟩ := slice_of hu
    subst e
    clear hb hu p0 p1 p2 p3 p4 p5
    go_wp2_with fail
    refine PT.out.mono ?_
    rintro e w3 ⟨rfl, hb⟩
    have BW3 := Lib.hid (below_step' BW2.out hb)
    clear hb
    go_wp2_with fail
    go_ret2
    exact ⟨by rw [EN'.out]; rfl, BW3.out⟩

/-- The document's reader: numbers l, of which r are left, at most B asked for. -/
structure RxAt (w0 : World) (RB : Nat) (l r : List Int) (B : Nat) (w : World) : Prop where
  bel : Below w0.heap.size w0 w
  ge : w0.heap.size ≤ RB
  ex : ∃ (t n : Nat) (a : Option Addr) (c : Nat), n = l.length ∧ t ≤ B ∧ r = l.drop t ∧ w.heap[RB]? = some (.cells #[.slice a n c, .int .i64 (t : Int)] 63 (0, 0)) ∧ Has w0 (.slice a n c) (dInts l)
theorem RxAt.grown {w0 w w' : World} {RB B : Nat} {l r : List Int} {row : Option Nat} (h : RxAt w0 RB l r B w) (hg : w.grownBy w' row) (h1 : row ≠ some RB) (h4 : ∀ k, row = some k → w0.heap.size ≤ k) : RxAt w0 RB l r B w' := by
  obtain ⟨b, g1, t, n, a, c, e1, e2, e3, e4, e5⟩ := h
  exact ⟨b.grown hg b.size h4, g1, t, n, a, c, e1, e2, e3, (hg.block _ (lt_of_block e4) (fun e => h1 e.symm)).trans e4, e5⟩
theorem RxAt.later {w0 w w' : World} {RB B : Nat} {l r : List Int} (h : RxAt w0 RB l r B w) (hb : Below w.heap.size w w') : RxAt w0 RB l r B w' := h.grown (grown_of_below hb none) (by simp) (fun _ e => by cases e)
theorem RxAt.set {w0 w : World} {RB B : Nat} {l r : List Int} (h : RxAt w0 RB l r B w) (b o : Nat) (u : Value) (h1 : b ≠ RB) (h4 : w0.heap.size ≤ b) : RxAt w0 RB l r B (w.setCell ⟨b, o, none⟩ u) :=
  h.grown (row := some b) ⟨rfl, rfl, rfl, by simp, fun k _ hk => Below.heap_setCell _ _ _ _ (fun e => hk (congrArg some e))⟩ (fun e => h1 (Option.some.inj e)) (fun k e => by cases e; exact h4)
theorem RxAt.lt {w0 w : World} {RB B : Nat} {l r : List Int} (h : RxAt w0 RB l r B w) : RB < w.heap.size := by obtain ⟨_, _, t, n, a, c, _, _, _, e4, _⟩ := h; exact lt_of_block e4
theorem RxAt.more {w0 w : World} {RB B B' : Nat} {l r : List Int} (h : RxAt w0 RB l r B w) (hb : B ≤ B') : RxAt w0 RB l r B' w := by
  obtain ⟨b, g1, t, n, a, c, e1, e2, e3⟩ := h
  exact ⟨b, g1, t, n, a, c, e1, Nat.le_trans e2 hb, e3⟩
theorem hd_drop' {l : List Int} {k : Nat} (h : l.length ≤ k) : hdI (l.drop k) = 0 ∧ (l.drop k).tail = l.drop (k + 1) := by
  rw [List.drop_of_length_le h, List.drop_of_length_le (by omega)]; exact ⟨rfl, rfl⟩
theorem cell_two {w : World} {b : Nat} {x y : Value} {T : TypeId} (h : w.heap[b]? = some (.cells #[x, y] T (0, 0))) : w.cell? ⟨b, 0, none⟩ = some x ∧ w.cell? ⟨b, 1, none⟩ = some y := by
  constructor <;> simp [World.cell?, h]
theorem free_two {w : World} {b : Nat} {x y : Value} {T : TypeId} (h : w.heap[b]? = some (.cells #[x, y] T (0, 0))) (i : Nat) : w.frozen? ⟨b, i, none⟩ = false := by
  simp [World.frozen?, h]
theorem two_setCell {w : World} {b : Nat} {x y u : Value} {T : TypeId} (h : w.heap[b]? = some (.cells #[x, y] T (0, 0))) : (w.setCell ⟨b, 1, none⟩ u).heap[b]? = some (.cells #[x, u] T (0, 0)) := by
  rw [heap_setCell_at h]; rfl
set_option maxHeartbeats 4000000 in
theorem rnext_at (w0 w : World) (RB B : Nat) (l r : List Int) (h : RxAt w0 RB l r B w) (hn : l.length ≤ 1000000) (hB : B ≤ 1000000) :
    Calls Try.prog 30 #[.pointer (some ⟨RB, 0, none⟩)] w fun e w' => e = .returned (.int .i64 (hdI r)) ∧ RxAt w0 RB l r.tail (B + 1) w' ∧ w.grownBy w' (some RB) := by
  have HN := Lib.hid h
  obtain ⟨b, g1, t, n, a, c, e1, e2, e3, e4, e5⟩ := h
  obtain ⟨q0, q1⟩ := cell_two e4
  have fz := free_two e4
  have E1 := Lib.hid e1
  have E3 := Lib.hid e3
  have E4 := Lib.hid e4
  have E5 := Lib.hid e5
  have BB := Lib.hid b
  have hnn : n ≤ 1000000 := by rw [e1]; exact hn
  have htt : t ≤ 1000000 := by omega
  have G1 := Lib.hid g1
  have E2 := Lib.hid e2
  obtain ⟨w1, hw1⟩ : ∃ x, x = w.setCell ⟨RB, 1, none⟩ (.int .i64 ((t : Int) + 1)) := ⟨_, rfl⟩
  have H1 : Hid (w1.heap[RB]? = some (.cells #[.slice a n c, .int .i64 ((t : Int) + 1)] 63 (0, 0))) := Lib.hid (by rw [hw1]; exact two_setCell e4)
  have BB1 : Hid (Below w0.heap.size w0 w1) := Lib.hid (by rw [hw1]; exact b.setCell g1 _)
  have NR : Hid (w.grownBy w1 (some RB)) := Lib.hid (by rw [hw1]; exact ⟨rfl, rfl, rfl, by simp, fun q _ hk => Below.heap_setCell _ _ _ _ (fun e => hk (congrArg some e))⟩)
  clear e1 e3 e4 e5 b g1 e2 hn
  go_enter Try.func30, Try.ntmps30
  go_upto_region 2 with fail
  rw [← hw1]
  clear hw1 q0 q1 fz
  have D1 := Lib.hid (cell_two H1.out)
  have q0 := D1.out.1
  have q1 := D1.out.2
  by_cases hlt : t < n
  · obtain ⟨x, hx⟩ := some_of_lt (l := l) (i := t) (by rw [← E1.out]; exact hlt)
    have HD := Lib.hid (hd_at hx)
    have HX := Lib.hid hx
    have hnl : ¬ (n : Int) < (t : Int) + 1 := by omega
    clear hx
    go_quiet (fail)
    obtain ⟨w2, hw2⟩ : ∃ x, x = w1.drewN nq := ⟨_, rfl⟩
    have B2 : Hid (Below w1.heap.size w1 w2) := Lib.hid (by rw [hw2]; exact below_drewN (Below.refl _ w1) nq)
    rw [← hw2]
    clear hw2 q0 q1 nq
    go_upto_region 4 with fail
    have hl1 : RB < w1.heap.size := lt_of_block H1.out
    have q0 := (B2.out.cell (p := ⟨RB, 0, none⟩) hl1).trans D1.out.1
    have q1 := (B2.out.cell (p := ⟨RB, 1, none⟩) hl1).trans D1.out.2
    obtain ⟨lb, lo, e, x1⟩ := num_at (E5.out.later (below_step' BB1.out B2.out)) HX.out
    subst e
    have hb0 : (0 : Int) ≤ (t : Int) := by omega
    have hb1 : (t : Int) < n := by omega
    have hs : (t : Int) + 1 - 1 = t := by omega
    have hsw : IntKind.i64.wrap ((t : Int) + 1 - 1) = (t : Int) := by rw [hs]; exact IntWalk.i64_in _ (by omega)
    go_quiet (fail)
    obtain ⟨w3, hw3⟩ : ∃ x, x = w2.drewN nq := ⟨_, rfl⟩
    have B3 : Hid (Below w2.heap.size w2 w3) := Lib.hid (by rw [hw3]; exact below_drewN (Below.refl _ w2) nq)
    rw [← hw3]
    clear hw3
    go_wp2_with fail
    go_ret
    have B13 := below_step' B2.out B3.out
    refine ⟨by rw [E3.out, HD.out.1]; rfl, ⟨below_step' BB1.out B13, G1.out, t + 1, n, _, c, E1.out, by have := E2.out; omega, by rw [E3.out, HD.out.2], ?_, E5.out⟩, near_below NR.out B13⟩
    rw [B13.block RB hl1]
    exact H1.out
  · have hlt' : (n : Int) < (t : Int) + 1 := by omega
    have HD := Lib.hid (hd_drop' (l := l) (k := t) (by rw [← E1.out]; omega))
    go_quiet (fail)
    obtain ⟨w2, hw2⟩ : ∃ x, x = w1.drewN nq := ⟨_, rfl⟩
    have B2 : Hid (Below w1.heap.size w1 w2) := Lib.hid (by rw [hw2]; exact below_drewN (Below.refl _ w1) nq)
    rw [← hw2]
    clear hw2 q0 q1 nq
    go_wp2_with fail
    go_ret
    have hl1 : RB < w1.heap.size := lt_of_block H1.out
    refine ⟨by rw [E3.out, HD.out.1]; rfl, ⟨below_step' BB1.out B2.out, G1.out, t + 1, n, _, c, E1.out, by have := E2.out; omega, by rw [E3.out, HD.out.2], ?_, E5.out⟩, near_below NR.out B2.out⟩
    rw [B2.out.block RB hl1]
    exact H1.out
end Go.Proofs.Ytcopedhoepblpaa
