/- The fixed calls. -/
import Derived.Test.YtegpdfocfohkcaaGrV
namespace Go.Proofs.Ytegpdfocfohkcaa
open Go.RowKit Go.PlainAid

def F3 : Lks := [(0, 1), (0, 2), (1, 0), (1, 2), (2, 0), (2, 1)]
def Ln : Lks := [(0, 1), (1, 0), (1, 2), (2, 1)]
def On : Lks := [(0, 1)]
def F2 : Lks := [(0, 1), (1, 0)]
theorem full3 : fullL 3 3 = F3 := by decide
theorem full2 : fullL 2 2 = F2 := by decide
theorem full6 : (fullL 6 6).length = 30 := by decide +kernel

theorem rg_of {N : Int} {L : Lks} (h1 : L.Nodup) (h2 : ∀ p ∈ L, 0 ≤ p.1 ∧ p.1 < N ∧ 0 ≤ p.2 ∧ p.2 < N) (h3 : ∀ p ∈ L, p.1 ≠ p.2) (h4 : ∀ p ∈ L, (p.2, p.1) ∈ L) : RG N L := ⟨h1, h2, h3, h4⟩
theorem rgF3 : RG 3 F3 := rg_of (by decide) (by decide) (by decide) (by decide)
theorem rgLn : RG 3 Ln := rg_of (by decide) (by decide) (by decide) (by decide)
theorem rightF3 : RightG 3 F3 := by
  refine ⟨by omega, by omega, by decide, rgF3, fun y hy => ?_⟩
  have : y = 0 ∨ y = 1 ∨ y = 2 := by omega
  rcases this with rfl | rfl | rfl
  · exact ⟨0, rfl⟩
  · exact ⟨1, 0, rfl, by decide⟩
  · exact ⟨1, 0, rfl, by decide⟩
theorem rightLn : RightG 3 Ln := by
  refine ⟨by omega, by omega, by decide, rgLn, fun y hy => ?_⟩
  have : y = 0 ∨ y = 1 ∨ y = 2 := by omega
  rcases this with rfl | rfl | rfl
  · exact ⟨0, rfl⟩
  · exact ⟨1, 0, rfl, by decide⟩
  · exact ⟨2, 1, ⟨0, rfl, by decide⟩, by decide⟩
theorem noOn : ¬ RightG 2 On := fun h => absurd (h.2.2.2.1.sym (0, 1) (by decide)) (by decide)
theorem no0 : ¬ RightG 0 [] := fun h => absurd h.1 (by omega)
theorem no2 : ¬ RightG 2 [] := fun h => by
  obtain ⟨k, hk⟩ := h.2.2.2.2 1 (by omega)
  cases k with
  | zero => have e : (0 : Int) = ((1 : Nat) : Int) := hk; omega
  | succ k => obtain ⟨c, _, hm⟩ := hk; simp at hm
theorem right1 : RightG 1 [] := by
  refine ⟨by omega, by omega, by decide, rg_of (by decide) (by decide) (by decide) (by decide), fun y hy => ?_⟩
  obtain rfl : y = 0 := by omega
  exact ⟨0, rfl⟩
theorem distLn : IsDist 3 Ln ((0 : Nat) : Int) [0, 1, 2] := by
  refine isDist_of rfl rfl (by decide) (fun y hy => ?_)
  have : y = 0 ∨ y = 1 ∨ y = 2 := by omega
  rcases this with rfl | rfl | rfl
  · exact ⟨0, rfl, rfl⟩
  · exact ⟨1, rfl, 0, rfl, by decide⟩
  · exact ⟨2, rfl, 1, ⟨0, rfl, by decide⟩, by decide⟩

theorem links_new (w : World) (t : TypeId) (L : Lks) (h0 : 0 < L.length) : LinksAt (w.alloc (.cells (flat L).toArray t)) (.slice (some ⟨w.heap.size, 0, none⟩) L.length L.length) L := by
  refine .inr ⟨w.heap.size, 0, L.length, L.length, rfl, rfl, h0, by simp, Nat.le_refl _, fun i hi => ?_⟩
  have g := flat_get L i hi
  have hl := flat_length L
  refine ⟨?_, ?_⟩
  · rw [World.cell?_alloc_at _ _ _ _ (by simp <;> omega), Nat.zero_add]; simpa using g.1
  · rw [World.cell?_alloc_at _ _ _ _ (by simp <;> omega), Nat.zero_add]; simpa using g.2
theorem ints_new (w : World) (t : TypeId) (xs : List Int) (h0 : 0 < xs.length) : IntsAt (w.alloc (.cells (ivs xs).toArray t)) (.slice (some ⟨w.heap.size, 0, none⟩) xs.length xs.length) xs := by
  refine .inr ⟨w.heap.size, 0, xs.length, xs.length, rfl, rfl, h0, by simp, Nat.le_refl _, fun i hi => ?_⟩
  rw [World.cell?_alloc_at _ _ _ _ (by simp <;> omega), Nat.zero_add]
  simp [ivs, List.getD, hi]
theorem below_alloc (w : World) (o : Obj) : Below w.heap.size w (w.alloc o) := (Below.refl _ w).alloc (Nat.le_refl _) o

/-- The three graphs that are asked. -/
structure FAt (w : World) (h : Nat) (v1 v2 v3 : Value) (wr : World) : Prop where
  bel : Below w.heap.size w wr
  ge : w.heap.size ≤ wr.heap.size
  a0 : wr.cell? ⟨h, 0, none⟩ = some (.int .i64 3)
  a1 : wr.cell? ⟨h, 1, none⟩ = some v1
  b0 : wr.cell? ⟨h + 1 + 1, 0, none⟩ = some (.int .i64 3)
  b1 : wr.cell? ⟨h + 1 + 1, 1, none⟩ = some v2
  c0 : wr.cell? ⟨h + 1 + 1 + 1 + 1, 0, none⟩ = some (.int .i64 2)
  c1 : wr.cell? ⟨h + 1 + 1 + 1 + 1, 1, none⟩ = some v3
  l1 : LinksAt wr v1 F3
  l2 : LinksAt wr v2 Ln
  l3 : LinksAt wr v3 On
theorem FAt.below {w wr w' : World} {h : Nat} {v1 v2 v3 : Value} (f : FAt w h v1 v2 v3 wr) (hb : Below wr.heap.size wr w') : FAt w h v1 v2 v3 w' := by
  have h1 := World.block_lt_of_cell? wr _ f.a0
  have h2 := World.block_lt_of_cell? wr _ f.b0
  have h3 := World.block_lt_of_cell? wr _ f.c0
  exact ⟨below_step f.ge f.bel hb, Nat.le_trans f.ge hb.size, (hb.cell h1).trans f.a0, (hb.cell (by exact h1)).trans f.a1, (hb.cell h2).trans f.b0, (hb.cell (by exact h2)).trans f.b1,
    (hb.cell h3).trans f.c0, (hb.cell (by exact h3)).trans f.c1, f.l1.below hb, f.l2.below hb, f.l3.below hb⟩

theorem full_at (n : Int) (N : Nat) (w : World) (hN : (N : Int) = max 1 (min n 6)) :
    Calls Try.prog 35 #[.int .i64 n] w fun e w' => ∃ a c, e = .returned (gv N (.slice a (fullL N N).length c)) ∧ LinksAt w' (.slice a (fullL N N).length c) (fullL N N) ∧ Below w.heap.size w w' := by
  refine (full_any n (if n < 1 then 1 else n) N w rfl (by split <;> split <;> omega) (by omega)).mono ?_
  rintro e w' ⟨v, rfl, hL, hb⟩
  obtain ⟨a, c, rfl⟩ := hL.at
  exact ⟨a, c, rfl, hL, hb⟩
theorem find_at (N x y q : Int) (v : Value) (L : Lks) (w : World) (h : LinksAt w v L) (hn : L.length ≤ 1000000) (hq : findL L (x, y) = q) :
    Calls Try.prog 45 #[gv N v, .int .i64 x, .int .i64 y] w fun e w' => e = .returned (.int .i64 q) ∧ Below w.heap.size w w' := by
  subst hq; exact find_any N x y v L w h hn
theorem outs_at (N n : Int) (v : Value) (L : Lks) (O : List Int) (w : World) (h : LinksAt w v L) (hn : L.length ≤ 1000000) (hO : sel 0 L n = O) :
    Calls Try.prog 59 #[gv N v, .int .i64 n] w fun z w' => ∃ a c, z = .returned (.slice a O.length c) ∧ IntsAt w' (.slice a O.length c) O ∧ Below w.heap.size w w' := by
  refine (out_any N n v L w h hn).mono ?_
  rintro e w' ⟨u, rfl, hi, _, hb⟩
  rw [hO] at hi
  obtain ⟨a, c, rfl⟩ := intsAt_slice hi
  exact ⟨a, c, rfl, hi, hb⟩
theorem dists_at (N a : Nat) (v : Value) (L : Lks) (D : List Int) (w : World) (hL : LinksAt w v L) (hR : InR N L) (h1 : 1 ≤ N) (h6 : N ≤ 6) (ha : a < N) (hn : L.length ≤ 1000000) (hD : IsDist N L a D) :
    Calls Try.prog 43 #[gv N v, .int .i64 (a : Int)] w fun e w' => ∃ s c, e = .returned (.slice s D.length c) ∧ IntsAt w' (.slice s D.length c) D ∧ Below w.heap.size w w' := by
  refine (dist_at N a v L D w hL hR h1 h6 ha hn hD).mono ?_
  rintro e w' ⟨u, rfl, hi, hb⟩
  obtain ⟨s, c, rfl⟩ := intsAt_slice hi
  exact ⟨s, c, rfl, hi, hb⟩
theorem dist3_0 (v : Value) (w : World) (hL : LinksAt w v Ln) : Calls Try.prog 43 #[gv 3 v, .int .i64 0] w fun e w' => ∃ s c, e = .returned (.slice s 3 c) ∧ IntsAt w' (.slice s 3 c) [0, 1, 2] ∧ Below w.heap.size w w' :=
  dists_at 3 0 v Ln [0, 1, 2] w hL rgLn.in (by omega) (by omega) (by omega) (by decide) distLn

theorem run_field1 (w : World) (x y : Value) : (Instr.field 25 (.agg #[x, y]) 1).run Try.prog w = .ok y w := by
  have hu := Try.underlying25
  simp [Instr.field, run_underlying hu, asAgg, part, Result.andThen]
attribute [go_sem] run_field1

end Go.Proofs.Ytegpdfocfohkcaa
