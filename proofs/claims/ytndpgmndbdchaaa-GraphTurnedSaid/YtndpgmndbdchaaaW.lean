/- The fixed calls. -/
import Derived.Test.YtndpgmndbdchaaaV
namespace Go.Proofs.Ytndpgmndbdchaaa
open Go.RowKit Go.PlainAid

def F3 : Lks := [(0, 1), (0, 2), (1, 0), (1, 2), (2, 0), (2, 1)]
def Ln : Lks := [(0, 1), (1, 0), (1, 2), (2, 1)]
def On : Lks := [(0, 1)]
def F2 : Lks := [(0, 1), (1, 0)]
theorem full3 : fullL 3 3 = F3 := by decide
theorem full2 : fullL 2 2 = F2 := by decide
theorem full6 : (fullL 6 6).length = 30 := by decide +kernel

theorem rg_of {N : Int} {L : Lks} (h1 : L.Nodup) (h2 : ∀ p ∈ L, 0 ≤ p.1 ∧ p.1 < N ∧ 0 ≤ p.2 ∧ p.2 < N) (h3 : ∀ p ∈ L, p.1 ≠ p.2) (h4 : ∀ p ∈ L, (p.2, p.1) ∈ L) : RG N L := ⟨h1, h2, h3, h4⟩
theorem rgF3 : RG 3 F3 := rg_of (by decide) (by decide) (by decide) (by decide)
theorem rgLn : RG 3 Ln := rg_of (by decide) (by decide) (by decide) (by decide)
theorem rightF3 : RightG 3 F3 := by
  refine ⟨by omega, by omega, by decide, rgF3, fun y hy => ?_⟩
  have : y = 0 ∨ y = 1 ∨ y = 2 := by omega
  rcases this with rfl | rfl | rfl
  · exact ⟨0, rfl⟩
  · exact ⟨1, 0, rfl, by decide⟩
  · exact ⟨1, 0, rfl, by decide⟩
theorem rightLn : RightG 3 Ln := by
  refine ⟨by omega, by omega, by decide, rgLn, fun y hy => ?_⟩
  have : y = 0 ∨ y = 1 ∨ y = 2 := by omega
  rcases this with rfl | rfl | rfl
  · exact ⟨0, rfl⟩
  · exact ⟨1, 0, rfl, by decide⟩
  · exact ⟨2, 1, ⟨0, rfl, by decide⟩, by decide⟩
theorem noOn : ¬ RightG 2 On := fun h => absurd (h.2.2.2.1.sym (0, 1) (by decide)) (by decide)
theorem no0 : ¬ RightG 0 [] := fun h => absurd h.1 (by omega)
theorem no2 : ¬ RightG 2 [] := fun h => by
  obtain ⟨k, hk⟩ := h.2.2.2.2 1 (by omega)
  cases k with
  | zero => have e : (0 : Int) = ((1 : Nat) : Int) := hk; omega
  | succ k => obtain ⟨c, _, hm⟩ := hk; simp at hm
theorem right1 : RightG 1 [] := by
  refine ⟨by omega, by omega, by decide, rg_of (by decide) (by decide) (by decide) (by decide), fun y hy => ?_⟩
  obtain rfl : y = 0 := by omega
  exact ⟨0, rfl⟩
theorem distLn : IsDist 3 Ln ((0 : Nat) : Int) [0, 1, 2] := by
  refine isDist_of rfl rfl (by decide) (fun y hy => ?_)
  have : y = 0 ∨ y = 1 ∨ y = 2 := by omega
  rcases this with rfl | rfl | rfl
  · exact ⟨0, rfl, rfl⟩
  · exact ⟨1, rfl, 0, rfl, by decide⟩
  · exact ⟨2, rfl, 1, ⟨0, rfl, by decide⟩, by decide⟩

theorem links_new (w : World) (t : TypeId) (L : Lks) (h0 : 0 < L.length) : LinksAt (w.alloc (.cells (flat L).toArray t)) (.slice (some ⟨w.heap.size, 0, none⟩) L.length L.length) L := by
  refine .inr ⟨w.heap.size, 0, L.length, L.length, rfl, rfl, h0, by simp, Nat.le_refl _, fun i hi => ?_⟩
  have g := flat_get L i hi
  have hl := flat_length L
  refine ⟨?_, ?_⟩
  · rw [World.cell?_alloc_at _ _ _ _ (by simp <;> omega), Nat.zero_add]; simpa using g.1
  · rw [World.cell?_alloc_at _ _ _ _ (by simp <;> omega), Nat.zero_add]; simpa using g.2
theorem ints_new (w : World) (t : TypeId) (xs : List Int) (h0 : 0 < xs.length) : IntsAt (w.alloc (.cells (ivs xs).toArray t)) (.slice (some ⟨w.heap.size, 0, none⟩) xs.length xs.length) xs := by
  refine .inr ⟨w.heap.size, 0, xs.length, xs.length, rfl, rfl, h0, by simp, Nat.le_refl _, fun i hi => ?_⟩
  rw [World.cell?_alloc_at _ _ _ _ (by simp <;> omega), Nat.zero_add]
  simp [ivs, List.getD, hi]
theorem below_alloc (w : World) (o : Obj) : Below w.heap.size w (w.alloc o) := (Below.refl _ w).alloc (Nat.le_refl _) o

/-- The three graphs that are asked. -/
structure FAt (w : World) (h : Nat) (v1 v2 v3 : Value) (wr : World) : Prop where
  bel : Below w.heap.size w wr
  ge : w.heap.size ≤ wr.heap.size
  a0 : wr.cell? ⟨h, 0, none⟩ = some (.int .i64 3)
  a1 : wr.cell? ⟨h, 1, none⟩ = some v1
  b0 : wr.cell? ⟨h + 1 + 1, 0, none⟩ = some (.int .i64 3)
  b1 : wr.cell? ⟨h + 1 + 1, 1, none⟩ = some v2
  c0 : wr.cell? ⟨h + 1 + 1 + 1 + 1, 0, none⟩ = some (.int .i64 2)
  c1 : wr.cell? ⟨h + 1 + 1 + 1 + 1, 1, none⟩ = some v3
  l1 : LinksAt wr v1 F3
  l2 : LinksAt wr v2 Ln
  l3 : LinksAt wr v3 On
theorem FAt.below {w wr w' : World} {h : Nat} {v1 v2 v3 : Value} (f : FAt w h v1 v2 v3 wr) (hb : Below wr.heap.size wr w') : FAt w h v1 v2 v3 w' := by
  have h1 := World.block_lt_of_cell? wr _ f.a0
  have h2 := World.block_lt_of_cell? wr _ f.b0
  have h3 := World.block_lt_of_cell? wr _ f.c0
  exact ⟨below_step f.ge f.bel hb, Nat.le_trans f.ge hb.size, (hb.cell h1).trans f.a0, (hb.cell (by exact h1)).trans f.a1, (hb.cell h2).trans f.b0, (hb.cell (by exact h2)).trans f.b1,
    (hb.cell h3).trans f.c0, (hb.cell (by exact h3)).trans f.c1, f.l1.below hb, f.l2.below hb, f.l3.below hb⟩

theorem full_at (n : Int) (N : Nat) (w : World) (hN : (N : Int) = max 1 (min n 6)) :
    Calls Try.prog 15 #[.int .i64 n] w fun e w' => ∃ a c, e = .returned (gv N (.slice a (fullL N N).length c)) ∧ LinksAt w' (.slice a (fullL N N).length c) (fullL N N) ∧ Below w.heap.size w w' := by
  refine (full_any n (if n < 1 then 1 else n) N w rfl (by split <;> split <;> omega) (by omega)).mono ?_
  rintro e w' ⟨v, rfl, hL, hb⟩
  obtain ⟨a, c, rfl⟩ := hL.at
  exact ⟨a, c, rfl, hL, hb⟩
theorem rfull_at (n : Int) (N : Nat) (w : World) (hN : (N : Int) = max 1 (min n 6)) :
    Calls Try.prog 16 #[.int .i64 n] w fun e w' => ∃ a c, e = .returned (gv N (.slice a (fullL N N).length c)) ∧ LinksAt w' (.slice a (fullL N N).length c) (fullL N N) ∧ Below w.heap.size w w' := by
  refine (rfull_any n (if 6 < n then 6 else n) N w rfl (by split <;> split <;> omega) (by omega)).mono ?_
  rintro e w' ⟨v, rfl, hL, hb⟩
  obtain ⟨a, c, rfl⟩ := hL.at
  exact ⟨a, c, rfl, hL, hb⟩
theorem find_at (N x y q : Int) (v : Value) (L : Lks) (w : World) (h : LinksAt w v L) (hn : L.length ≤ 1000000) (hq : findL L (x, y) = q) :
    Calls Try.prog 23 #[gv N v, .int .i64 x, .int .i64 y] w fun e w' => e = .returned (.int .i64 q) ∧ Below w.heap.size w w' := by
  subst hq; exact find_any N x y v L w h hn
theorem back_at (N x q : Int) (v : Value) (L : Lks) (w : World) (h : LinksAt w v L) (hn : L.length ≤ 1000000) (hq : backL L x = q) :
    Calls Try.prog 25 #[gv N v, .int .i64 x] w fun e w' => e = .returned (.int .i64 q) ∧ Below w.heap.size w w' := by
  subst hq; exact back_any N x v L w h hn
theorem outs_at (N n : Int) (v : Value) (L : Lks) (O : List Int) (w : World) (h : LinksAt w v L) (hn : L.length ≤ 1000000) (hO : sel 0 L n = O) :
    Calls Try.prog 19 #[gv N v, .int .i64 n] w fun z w' => ∃ a c, z = .returned (.slice a O.length c) ∧ IntsAt w' (.slice a O.length c) O ∧ Below w.heap.size w w' := by
  refine (out_any N n v L w h hn).mono ?_
  rintro e w' ⟨u, rfl, hi, _, hb⟩
  rw [hO] at hi
  obtain ⟨a, c, rfl⟩ := intsAt_slice hi
  exact ⟨a, c, rfl, hi, hb⟩
theorem ins_at (N n : Int) (v : Value) (L : Lks) (O : List Int) (w : World) (h : LinksAt w v L) (hn : L.length ≤ 1000000) (hO : sel 1 L n = O) :
    Calls Try.prog 21 #[gv N v, .int .i64 n] w fun z w' => ∃ a c, z = .returned (.slice a O.length c) ∧ IntsAt w' (.slice a O.length c) O ∧ Below w.heap.size w w' := by
  refine (in_any N n v L w h hn).mono ?_
  rintro e w' ⟨u, rfl, hi, hb⟩
  rw [hO] at hi
  obtain ⟨a, c, rfl⟩ := intsAt_slice hi
  exact ⟨a, c, rfl, hi, hb⟩
theorem dists_at (N a : Nat) (v : Value) (L : Lks) (D : List Int) (w : World) (hL : LinksAt w v L) (hR : InR N L) (h1 : 1 ≤ N) (h6 : N ≤ 6) (ha : a < N) (hn : L.length ≤ 1000000) (hD : IsDist N L a D) :
    Calls Try.prog 27 #[gv N v, .int .i64 (a : Int)] w fun e w' => ∃ s c, e = .returned (.slice s D.length c) ∧ IntsAt w' (.slice s D.length c) D ∧ Below w.heap.size w w' := by
  refine (dist_at N a v L D w hL hR h1 h6 ha hn hD).mono ?_
  rintro e w' ⟨u, rfl, hi, hb⟩
  obtain ⟨s, c, rfl⟩ := intsAt_slice hi
  exact ⟨s, c, rfl, hi, hb⟩
theorem dist3_0 (v : Value) (w : World) (hL : LinksAt w v Ln) : Calls Try.prog 27 #[gv 3 v, .int .i64 0] w fun e w' => ∃ s c, e = .returned (.slice s 3 c) ∧ IntsAt w' (.slice s 3 c) [0, 1, 2] ∧ Below w.heap.size w w' :=
  dists_at 3 0 v Ln [0, 1, 2] w hL rgLn.in (by omega) (by omega) (by omega) (by decide) distLn

theorem run_field1 (w : World) (x y : Value) : (Instr.field 24 (.agg #[x, y]) 1).run Try.prog w = .ok y w := by
  have hu := Try.underlying24
  simp [Instr.field, run_underlying hu, asAgg, part, Result.andThen]
attribute [go_sem] run_field1

set_option maxHeartbeats 8000000 in
set_option maxRecDepth 100000 in
theorem fixed_any (w : World) :
    Calls Try.prog 17 #[] w fun e w' => e = .returned (.bool true) ∧ Below w.heap.size w w' := by
  go_enter Try.func17, Try.ntmps17
  simp only [List.append_eq, List.cons_append, List.nil_append]
  go_wp2_with fail
  refine (full_at 3 3 _ (by omega)).mono ?_
  rintro e w1 ⟨ag, cg, rfl, hL, hb1⟩
  rw [full3] at hL ⊢
  simp only [gv]
  obtain ⟨wA, hwA⟩ : ∃ wA, wA = (((((w1.alloc (.cells #[.int .i64 3, .slice ag F3.length cg] 24)).alloc (.cells #[.int .i64 0, .int .i64 1, .int .i64 1, .int .i64 0, .int .i64 1, .int .i64 2, .int .i64 2, .int .i64 1] 43)).alloc
        (.cells #[.int .i64 3, .slice (some ⟨w1.heap.size + 1, 0, none⟩) 4 4] 24)).alloc (.cells #[.int .i64 0, .int .i64 1] 43)).alloc (.cells #[.int .i64 2, .slice (some ⟨w1.heap.size + 1 + 1 + 1, 0, none⟩) 1 1] 24)) := ⟨_, rfl⟩
  have hA : FAt w w1.heap.size (.slice ag F3.length cg) (.slice (some ⟨w1.heap.size + 1, 0, none⟩) 4 4) (.slice (some ⟨w1.heap.size + 1 + 1 + 1, 0, none⟩) 1 1) wA := by
    rw [hwA]
    have e1 := below_alloc w1 (.cells #[.int .i64 3, .slice ag F3.length cg] 24)
    generalize hw2 : w1.alloc (.cells #[.int .i64 3, .slice ag F3.length cg] 24) = w2 at e1 ⊢
    have s2 : w2.heap.size = w1.heap.size + 1 := by rw [← hw2]; simp
    have a0 : w2.cell? ⟨w1.heap.size, 0, none⟩ = some (.int .i64 3) := by rw [← hw2]; exact World.cell?_alloc_at _ _ _ _ rfl
    have a1 : w2.cell? ⟨w1.heap.size, 1, none⟩ = some (.slice ag F3.length cg) := by rw [← hw2]; exact World.cell?_alloc_at _ _ _ _ rfl
    have l2 := links_new w2 43 Ln (by decide)
    rw [s2] at l2
    have e2 := below_alloc w2 (.cells (flat Ln).toArray 43)
    have s3 : (w2.alloc (.cells (flat Ln).toArray 43)).heap.size = w1.heap.size + 1 + 1 := by simp [s2]
    rw [show (#[.int .i64 0, .int .i64 1, .int .i64 1, .int .i64 0, .int .i64 1, .int .i64 2, .int .i64 2, .int .i64 1] : Array Value) = (flat Ln).toArray from rfl]
    generalize w2.alloc (.cells (flat Ln).toArray 43) = w3 at l2 e2 s3 ⊢
    have e3 := below_alloc w3 (.cells #[.int .i64 3, .slice (some ⟨w1.heap.size + 1, 0, none⟩) 4 4] 24)
    have b0 : (w3.alloc (.cells #[.int .i64 3, .slice (some ⟨w1.heap.size + 1, 0, none⟩) 4 4] 24)).cell? ⟨w1.heap.size + 1 + 1, 0, none⟩ = some (.int .i64 3) := by rw [← s3]; exact World.cell?_alloc_at _ _ _ _ rfl
    have b1 : (w3.alloc (.cells #[.int .i64 3, .slice (some ⟨w1.heap.size + 1, 0, none⟩) 4 4] 24)).cell? ⟨w1.heap.size + 1 + 1, 1, none⟩ = some (.slice (some ⟨w1.heap.size + 1, 0, none⟩) 4 4) := by rw [← s3]; exact World.cell?_alloc_at _ _ _ _ rfl
    have s4 : (w3.alloc (.cells #[.int .i64 3, .slice (some ⟨w1.heap.size + 1, 0, none⟩) 4 4] 24)).heap.size = w1.heap.size + 1 + 1 + 1 := by simp [s3]
    generalize w3.alloc (.cells #[.int .i64 3, .slice (some ⟨w1.heap.size + 1, 0, none⟩) 4 4] 24) = w4 at e3 b0 b1 s4 ⊢
    have l3 := links_new w4 43 On (by decide)
    rw [s4] at l3
    have e4 := below_alloc w4 (.cells (flat On).toArray 43)
    have s5 : (w4.alloc (.cells (flat On).toArray 43)).heap.size = w1.heap.size + 1 + 1 + 1 + 1 := by simp [s4]
    rw [show (#[.int .i64 0, .int .i64 1] : Array Value) = (flat On).toArray from rfl]
    generalize w4.alloc (.cells (flat On).toArray 43) = w5 at l3 e4 s5 ⊢
    have e5 := below_alloc w5 (.cells #[.int .i64 2, .slice (some ⟨w1.heap.size + 1 + 1 + 1, 0, none⟩) 1 1] 24)
    have c0 : (w5.alloc (.cells #[.int .i64 2, .slice (some ⟨w1.heap.size + 1 + 1 + 1, 0, none⟩) 1 1] 24)).cell? ⟨w1.heap.size + 1 + 1 + 1 + 1, 0, none⟩ = some (.int .i64 2) := by rw [← s5]; exact World.cell?_alloc_at _ _ _ _ rfl
    have c1 : (w5.alloc (.cells #[.int .i64 2, .slice (some ⟨w1.heap.size + 1 + 1 + 1, 0, none⟩) 1 1] 24)).cell? ⟨w1.heap.size + 1 + 1 + 1 + 1, 1, none⟩ = some (.slice (some ⟨w1.heap.size + 1 + 1 + 1, 0, none⟩) 1 1) := by rw [← s5]; exact World.cell?_alloc_at _ _ _ _ rfl
    generalize w5.alloc (.cells #[.int .i64 2, .slice (some ⟨w1.heap.size + 1 + 1 + 1, 0, none⟩) 1 1] 24) = w6 at e5 c0 c1 ⊢
    have hz := hb1.size
    have t12 : Below w1.heap.size w1 w3 := below_step (by omega) e1 e2
    have t13 : Below w1.heap.size w1 w4 := below_step (by omega) t12 e3
    have t14 : Below w1.heap.size w1 w5 := below_step (by omega) t13 e4
    have t15 : Below w1.heap.size w1 w6 := below_step (by omega) t14 e5
    have t46 : Below w4.heap.size w4 w6 := below_step (by omega) e4 e5
    have t36 : Below w3.heap.size w3 w6 := below_step (by omega) e3 t46
    have t26 : Below w2.heap.size w2 w6 := below_step (by omega) e2 t36
    exact ⟨below_step hz hb1 t15, Nat.le_trans hz t15.size, (t26.cell (by show w1.heap.size < _; omega)).trans a0, (t26.cell (by show w1.heap.size < _; omega)).trans a1,
      (t46.cell (by show w1.heap.size + 1 + 1 < _; omega)).trans b0, (t46.cell (by show w1.heap.size + 1 + 1 < _; omega)).trans b1, c0, c1, hL.below t15, l2.below t36, l3.below e5⟩
  have TA := Lib.hid hA
  clear hA hL hb1
  have T0 := TA
  clear TA
  go_wp2_with fail
  rw [← hwA]
  clear hwA
  generalize w1.heap.size = h at T0 ⊢
  refine (full_at 2 2 _ (by omega)).mono ?_
  rintro e x1 ⟨a2, c2, rfl, hL, hb⟩
  have T1 := Lib.hid (T0.out.below hb)
  have p1a := T1.out.a0
  have p1b := T1.out.a1
  have p1c := T1.out.b0
  have p1d := T1.out.b1
  have p1e := T1.out.c0
  have p1f := T1.out.c1
  rw [full2] at hL ⊢
  have L2 := Lib.hid hL
  clear hL
  clear hb
  simp only [gv]
  go_wp2_with fail
  refine (ref_slice 2 a2 F2.length c2 _).mono ?_
  rintro e x2 ⟨rfl, hb⟩
  have T2 := Lib.hid (T1.out.below hb)
  have p2a := T2.out.a0
  have p2b := T2.out.a1
  have p2c := T2.out.b0
  have p2d := T2.out.b1
  have p2e := T2.out.c0
  have p2f := T2.out.c1
  have L2 := Lib.hid (L2.out.below hb)
  clear hb
  clear p1a p1b p1c p1d p1e p1f
  simp only [gv]
  go_wp2_with fail
  have LN := Lib.hid (show LinksAt (x2.alloc (.cells #[.int .i64 0, .int .i64 1, .int .i64 1, .int .i64 0] 43)) (.slice (some ⟨x2.heap.size, 0, none⟩) 2 2) F2 from links_new x2 43 F2 (by decide))
  have L2 := Lib.hid (L2.out.below (below_alloc x2 (.cells #[.int .i64 0, .int .i64 1, .int .i64 1, .int .i64 0] 43)))
  have TG := Lib.hid (T2.out.below (below_alloc x2 (.cells #[.int .i64 0, .int .i64 1, .int .i64 1, .int .i64 0] 43)))
  refine (same_any 2 _ _ F2 _ L2.out LN.out (by decide)).mono ?_
  rintro e x3 ⟨rfl, hb⟩
  have T3 := Lib.hid (TG.out.below hb)
  have p3a := T3.out.a0
  have p3b := T3.out.a1
  have p3c := T3.out.b0
  have p3d := T3.out.b1
  have p3e := T3.out.c0
  have p3f := T3.out.c1
  clear L2 LN
  clear hb TG p2a p2b p2c p2d p2e p2f
  go_wp2_with fail
  refine (outs_at 3 1 _ F3 [2, 3] _ T3.out.l1 (by decide) (by decide)).mono ?_
  rintro e x4 ⟨ao, co, rfl, hI, hb⟩
  have T4 := Lib.hid (T3.out.below hb)
  have p4a := T4.out.a0
  have p4b := T4.out.a1
  have p4c := T4.out.b0
  have p4d := T4.out.b1
  have p4e := T4.out.c0
  have p4f := T4.out.c1
  have I1 := Lib.hid hI
  clear hI
  clear hb
  clear p3a p3b p3c p3d p3e p3f
  go_wp2_with fail
  have IN := Lib.hid (show IntsAt (x4.alloc (.cells #[.int .i64 2, .int .i64 3] 3)) (.slice (some ⟨x4.heap.size, 0, none⟩) 2 2) [2, 3] from ints_new x4 3 [2, 3] (by decide))
  have I1 := Lib.hid (I1.out.below (below_alloc x4 (.cells #[.int .i64 2, .int .i64 3] 3)))
  have TG := Lib.hid (T4.out.below (below_alloc x4 (.cells #[.int .i64 2, .int .i64 3] 3)))
  refine (rints_same _ _ [2, 3] _ I1.out IN.out (by decide)).mono ?_
  rintro e x5 ⟨rfl, hb⟩
  have T5 := Lib.hid (TG.out.below hb)
  have p5a := T5.out.a0
  have p5b := T5.out.a1
  have p5c := T5.out.b0
  have p5d := T5.out.b1
  have p5e := T5.out.c0
  have p5f := T5.out.c1
  clear I1 IN
  clear hb TG p4a p4b p4c p4d p4e p4f
  go_wp2_with fail
  refine (ins_at 3 1 _ F3 [0, 5] _ T5.out.l1 (by decide) (by decide)).mono ?_
  rintro e x6 ⟨ao, co, rfl, hI, hb⟩
  have T6 := Lib.hid (T5.out.below hb)
  have p6a := T6.out.a0
  have p6b := T6.out.a1
  have p6c := T6.out.b0
  have p6d := T6.out.b1
  have p6e := T6.out.c0
  have p6f := T6.out.c1
  have I1 := Lib.hid hI
  clear hI
  clear hb
  clear p5a p5b p5c p5d p5e p5f
  go_wp2_with fail
  have IN := Lib.hid (show IntsAt (x6.alloc (.cells #[.int .i64 0, .int .i64 5] 3)) (.slice (some ⟨x6.heap.size, 0, none⟩) 2 2) [0, 5] from ints_new x6 3 [0, 5] (by decide))
  have I1 := Lib.hid (I1.out.below (below_alloc x6 (.cells #[.int .i64 0, .int .i64 5] 3)))
  have TG := Lib.hid (T6.out.below (below_alloc x6 (.cells #[.int .i64 0, .int .i64 5] 3)))
  refine (rints_same _ _ [0, 5] _ I1.out IN.out (by decide)).mono ?_
  rintro e x7 ⟨rfl, hb⟩
  have T7 := Lib.hid (TG.out.below hb)
  have p7a := T7.out.a0
  have p7b := T7.out.a1
  have p7c := T7.out.b0
  have p7d := T7.out.b1
  have p7e := T7.out.c0
  have p7f := T7.out.c1
  clear I1 IN
  clear hb TG p6a p6b p6c p6d p6e p6f
  go_wp2_with fail
  refine (find_at 3 2 0 4 _ F3 _ T7.out.l1 (by decide) (by decide)).mono ?_
  rintro e x8 ⟨rfl, hb⟩
  have T8 := Lib.hid (T7.out.below hb)
  have p8a := T8.out.a0
  have p8b := T8.out.a1
  have p8c := T8.out.b0
  have p8d := T8.out.b1
  have p8e := T8.out.c0
  have p8f := T8.out.c1
  clear hb
  clear p7a p7b p7c p7d p7e p7f
  go_wp2_with fail
  refine (find_at 3 2 2 (-1) _ F3 _ T8.out.l1 (by decide) (by decide)).mono ?_
  rintro e x9 ⟨rfl, hb⟩
  have T9 := Lib.hid (T8.out.below hb)
  have p9a := T9.out.a0
  have p9b := T9.out.a1
  have p9c := T9.out.b0
  have p9d := T9.out.b1
  have p9e := T9.out.c0
  have p9f := T9.out.c1
  clear hb
  clear p8a p8b p8c p8d p8e p8f
  go_wp2_with fail
  refine (back_at 3 0 2 _ F3 _ T9.out.l1 (by decide) (by decide)).mono ?_
  rintro e x10 ⟨rfl, hb⟩
  have T10 := Lib.hid (T9.out.below hb)
  have p10a := T10.out.a0
  have p10b := T10.out.a1
  have p10c := T10.out.b0
  have p10d := T10.out.b1
  have p10e := T10.out.c0
  have p10f := T10.out.c1
  clear hb
  clear p9a p9b p9c p9d p9e p9f
  go_wp2_with fail
  refine (back_at 3 6 (-1) _ F3 _ T10.out.l1 (by decide) (by decide)).mono ?_
  rintro e x11 ⟨rfl, hb⟩
  have T11 := Lib.hid (T10.out.below hb)
  have p11a := T11.out.a0
  have p11b := T11.out.a1
  have p11c := T11.out.b0
  have p11d := T11.out.b1
  have p11e := T11.out.c0
  have p11f := T11.out.c1
  clear hb
  clear p10a p10b p10c p10d p10e p10f
  go_wp2_with fail
  refine (right_true 3 _ F3 _ T11.out.l1 (wfSmall (by decide)) rightF3).mono ?_
  rintro e x12 ⟨rfl, hb⟩
  have T12 := Lib.hid (T11.out.below hb)
  have p12a := T12.out.a0
  have p12b := T12.out.a1
  have p12c := T12.out.b0
  have p12d := T12.out.b1
  have p12e := T12.out.c0
  have p12f := T12.out.c1
  clear hb
  clear p11a p11b p11c p11d p11e p11f
  go_wp2_with fail
  refine (right_true 3 _ Ln _ T12.out.l2 (wfSmall (by decide)) rightLn).mono ?_
  rintro e x13 ⟨rfl, hb⟩
  have T13 := Lib.hid (T12.out.below hb)
  have p13a := T13.out.a0
  have p13b := T13.out.a1
  have p13c := T13.out.b0
  have p13d := T13.out.b1
  have p13e := T13.out.c0
  have p13f := T13.out.c1
  clear hb
  clear p12a p12b p12c p12d p12e p12f
  go_wp2_with fail
  refine (right_false 2 _ On _ T13.out.l3 (wfSmall (by decide)) noOn).mono ?_
  rintro e x14 ⟨rfl, hb⟩
  have T14 := Lib.hid (T13.out.below hb)
  have p14a := T14.out.a0
  have p14b := T14.out.a1
  have p14c := T14.out.b0
  have p14d := T14.out.b1
  have p14e := T14.out.c0
  have p14f := T14.out.c1
  clear hb
  clear p13a p13b p13c p13d p13e p13f
  go_wp2_with fail
  refine (right_false 0 _ [] _ (.inl ⟨none, 0, rfl, rfl⟩) (wfSmall (by decide)) no0).mono ?_
  rintro e x15 ⟨rfl, hb⟩
  have T15 := Lib.hid (T14.out.below hb)
  have p15a := T15.out.a0
  have p15b := T15.out.a1
  have p15c := T15.out.b0
  have p15d := T15.out.b1
  have p15e := T15.out.c0
  have p15f := T15.out.c1
  clear hb
  clear p14a p14b p14c p14d p14e p14f
  go_wp2_with fail
  refine (right_false 2 _ [] _ (.inl ⟨none, 0, rfl, rfl⟩) (wfSmall (by decide)) no2).mono ?_
  rintro e x16 ⟨rfl, hb⟩
  have T16 := Lib.hid (T15.out.below hb)
  have p16a := T16.out.a0
  have p16b := T16.out.a1
  have p16c := T16.out.b0
  have p16d := T16.out.b1
  have p16e := T16.out.c0
  have p16f := T16.out.c1
  clear hb
  clear p15a p15b p15c p15d p15e p15f
  go_wp2_with fail
  refine (right_true 1 _ [] _ (.inl ⟨none, 0, rfl, rfl⟩) (wfSmall (by decide)) right1).mono ?_
  rintro e x17 ⟨rfl, hb⟩
  have T17 := Lib.hid (T16.out.below hb)
  have p17a := T17.out.a0
  have p17b := T17.out.a1
  have p17c := T17.out.b0
  have p17d := T17.out.b1
  have p17e := T17.out.c0
  have p17f := T17.out.c1
  clear hb
  clear p16a p16b p16c p16d p16e p16f
  go_wp2_with fail
  refine (dist3_0 _ _ T17.out.l2).mono ?_
  rintro e x18 ⟨ao, co, rfl, hI, hb⟩
  have T18 := Lib.hid (T17.out.below hb)
  have p18a := T18.out.a0
  have p18b := T18.out.a1
  have p18c := T18.out.b0
  have p18d := T18.out.b1
  have p18e := T18.out.c0
  have p18f := T18.out.c1
  have I1 := Lib.hid hI
  clear hI
  clear hb
  clear p17a p17b p17c p17d p17e p17f
  go_wp2_with fail
  have IN := Lib.hid (show IntsAt (x18.alloc (.cells #[.int .i64 0, .int .i64 1, .int .i64 2] 3)) (.slice (some ⟨x18.heap.size, 0, none⟩) 3 3) [0, 1, 2] from ints_new x18 3 [0, 1, 2] (by decide))
  have I1 := Lib.hid (I1.out.below (below_alloc x18 (.cells #[.int .i64 0, .int .i64 1, .int .i64 2] 3)))
  have TG := Lib.hid (T18.out.below (below_alloc x18 (.cells #[.int .i64 0, .int .i64 1, .int .i64 2] 3)))
  refine (rints_same _ _ [0, 1, 2] _ I1.out IN.out (by decide)).mono ?_
  rintro e x19 ⟨rfl, hb⟩
  have T19 := Lib.hid (TG.out.below hb)
  have p19a := T19.out.a0
  have p19b := T19.out.a1
  have p19c := T19.out.b0
  have p19d := T19.out.b1
  have p19e := T19.out.c0
  have p19f := T19.out.c1
  clear I1 IN
  clear hb TG p18a p18b p18c p18d p18e p18f
  go_wp2_with fail
  refine (dist_no 3 3 _ _ (by omega)).mono ?_
  rintro e x20 ⟨rfl, hb⟩
  have T20 := Lib.hid (T19.out.below hb)
  have p20a := T20.out.a0
  have p20b := T20.out.a1
  have p20c := T20.out.b0
  have p20d := T20.out.b1
  have p20e := T20.out.c0
  have p20f := T20.out.c1
  clear hb
  clear p19a p19b p19c p19d p19e p19f
  go_wp2_with fail
  refine (full_at 9 6 _ (by omega)).mono ?_
  rintro e x21 ⟨a9, c9, rfl, _, hb⟩
  have T21 := Lib.hid (T20.out.below hb)
  have p21a := T21.out.a0
  have p21b := T21.out.a1
  have p21c := T21.out.b0
  have p21d := T21.out.b1
  have p21e := T21.out.c0
  have p21f := T21.out.c1
  rw [full6]
  clear hb
  clear p20a p20b p20c p20d p20e p20f
  simp only [gv]
  go_wp2_with fail
  go_ret
  exact ⟨rfl, T21.out.bel⟩
end Go.Proofs.Ytndpgmndbdchaaa
