/- How far nodes are: both ways, step by step; a row of truth values. -/
import Derived.Test.YtndpgmndbdchaaaFa
namespace Go.Proofs.Ytndpgmndbdchaaa
open Go.RowKit Go.PlainAid

theorem dist_sym {N : Nat} {L : Lks} (hG : RightG N L) {a b : Nat} (ha : a < N) (hb : b < N) {D E : List Int} (hD : IsDist N L a D) (hE : IsDist N L b E) : D.getD b (-1) = E.getD a (-1) := by
  obtain ⟨j, h1, h2⟩ := dist_num hD hb (hG.2.2.2.2.all hG.2.2.2.1 (by omega) (by omega))
  obtain ⟨k, h3, h4⟩ := dist_num hE ha (hG.2.2.2.2.all hG.2.2.2.1 (by omega) (by omega))
  have := h2.eq (far_turn hG.2.2.2.1 h4)
  omega
theorem dist_step {N : Nat} {L : Lks} (hG : RightG N L) {a x y : Nat} (ha : a < N) (hx : x < N) (hy : y < N) {D : List Int} (hD : IsDist N L a D) (hm : ((x : Int), (y : Int)) ∈ L) : D.getD y (-1) ≤ D.getD x (-1) + 1 := by
  obtain ⟨j, h1, h2⟩ := dist_num hD hx (hG.2.2.2.2.all hG.2.2.2.1 (by omega) (by omega))
  obtain ⟨k, h3, h4⟩ := dist_num hD hy (hG.2.2.2.2.all hG.2.2.2.1 (by omega) (by omega))
  have hw := way_snoc h2.1 hm
  have : k ≤ j + 1 := by
    rcases Nat.lt_or_ge (j + 1) k with g | g
    · exact absurd hw (h4.2 _ g)
    · exact g
  omega
def dAt (D : List Int) (x : Int) : Int := D.getD x.toNat (-1)
theorem dist_near {N : Nat} {L : Lks} (hG : RightG N L) {a i : Nat} (ha : a < N) (hi : i < N) (hne : i ≠ a) {D : List Int} (hD : IsDist N L a D) :
    1 ≤ D.getD i (-1) ∧ ∃ m, m < L.length ∧ (lk L m).2 = (i : Int) ∧ dAt D (lk L m).1 = dAt D (lk L m).2 - 1 := by
  obtain ⟨k, h1, h2⟩ := dist_num hD hi (hG.2.2.2.2.all hG.2.2.2.1 (by omega) (by omega))
  obtain ⟨k, rfl⟩ : ∃ j, k = j + 1 := by
    cases k with
    | zero => have e : (a : Int) = i := h2.1; omega
    | succ k => exact ⟨k, rfl⟩
  obtain ⟨c, hc, hm⟩ := far_before h2
  have hr := way_in hG.2.2.2.1.in ha hc.1
  obtain ⟨x, rfl⟩ : ∃ x : Nat, c = (x : Int) := ⟨c.toNat, by omega⟩
  obtain ⟨j, h3, h4⟩ := dist_num hD (y := x) (by omega) ⟨_, hc.1⟩
  have := h4.eq hc
  obtain ⟨m, hml, he⟩ := mem_lk hm
  refine ⟨by omega, m, hml, by rw [he], ?_⟩
  rw [he]
  unfold dAt
  simp only [Int.toNat_natCast]
  omega

def bvs (B : List Bool) : List Value := B.map Value.bool
theorem bvs_get {B : List Bool} {y : Nat} (h : y < B.length) : (bvs B)[y]? = some (.bool (B.getD y false)) := by simp [bvs, List.getD, h]
/-- A row of truth values, made in a world, and what has become of it. -/
structure NAt (x wr : World) (B : List Bool) : Prop where
  bel : Below x.heap.size x wr
  near : wr.heap[x.heap.size]? = some (.cells (bvs B).toArray 4 (0, 0))
theorem NAt.lt {x wr : World} {B : List Bool} (h : NAt x wr B) : x.heap.size < wr.heap.size := lt_of_block h.near
theorem NAt.cell {x wr : World} {B : List Bool} (h : NAt x wr B) {y : Nat} (hy : y < B.length) : wr.cell? ⟨x.heap.size, y, none⟩ = some (.bool (B.getD y false)) :=
  (cell_of_row wr _ y _ _ (0, 0) h.near).trans (by simpa using bvs_get hy)
theorem NAt.free {x wr : World} {B : List Bool} (h : NAt x wr B) (y : Nat) : wr.frozen? ⟨x.heap.size, y, none⟩ = false := by simp [World.frozen?, h.near]
theorem NAt.below {x wr w' : World} {B : List Bool} (h : NAt x wr B) (hb : Below wr.heap.size wr w') : NAt x w' B :=
  ⟨below_step (Nat.le_of_lt h.lt) h.bel hb, (hb.block _ h.lt).trans h.near⟩
theorem NAt.set {x wr : World} {B : List Bool} (h : NAt x wr B) (z : Nat) (b : Bool) : NAt x (wr.setCell ⟨x.heap.size, z, none⟩ (.bool b)) (B.set z b) := by
  refine ⟨h.bel.setCell (by simp) _, ?_⟩
  rw [setCell_eq_setRow wr x.heap.size z _ _ (0, 0) _ h.near, setRow_heap wr x.heap.size _ _ _ _ h.near]
  congr 2
  apply Array.ext'
  simp [bvs, List.map_set]
theorem make_any (N : Nat) (h1 : 1 ≤ N) (h6 : N ≤ 6) : ∀ W : World, (Instr.makeSlice 44 (.int .i64 (N : Int)) (.int .i64 (N : Int))).run Try.prog W = .ok (.slice (some ⟨W.heap.size, 0, none⟩) N N) (W.alloc (.cells (bvs (List.replicate N false)).toArray 4)) := by
  match N, h1, h6 with
  | 1, _, _ => intro W; kernel_rfl
  | 2, _, _ => intro W; kernel_rfl
  | 3, _, _ => intro W; kernel_rfl
  | 4, _, _ => intro W; kernel_rfl
  | 5, _, _ => intro W; kernel_rfl
  | 6, _, _ => intro W; kernel_rfl
theorem NAt.new (x : World) (N : Nat) : NAt x (x.alloc (.cells (bvs (List.replicate N false)).toArray 4)) (List.replicate N false) := ⟨below_alloc _ _, heap_alloc_new x _⟩

/-- The nodes found near so far. -/
def NearTo (D : List Int) (L : Lks) (B : List Bool) (m : Nat) : Prop := ∀ l, l < m → dAt D (lk L l).1 = dAt D (lk L l).2 - 1 → B.getD (lk L l).2.toNat false = true
theorem getB_set {B : List Bool} {z y : Nat} {b : Bool} : (B.set z b).getD y false = if y = z ∧ z < B.length then b else B.getD y false := by
  simp only [List.getD, List.getElem?_set]
  by_cases h : z = y
  · subst h
    by_cases hl : z < B.length <;> simp [hl]
  · rw [if_neg h, if_neg (by omega)]
theorem NearTo.next {D : List Int} {L : Lks} {B : List Bool} {m : Nat} {b : Bool} (h : NearTo D L B m) (hl : (lk L m).2.toNat < B.length)
    (h1 : B.getD (lk L m).2.toNat false = true → b = true) (h2 : dAt D (lk L m).1 = dAt D (lk L m).2 - 1 → b = true) : NearTo D L (B.set (lk L m).2.toNat b) (m + 1) := by
  intro l hlm he
  rw [getB_set]
  split
  · next hz =>
    rcases Nat.lt_or_ge l m with g | g
    · exact h1 (hz.1 ▸ h l g he)
    · obtain rfl : l = m := by omega
      exact h2 he
  · next hz =>
    rcases Nat.lt_or_ge l m with g | g
    · exact h l g he
    · obtain rfl : l = m := by omega
      exact absurd ⟨rfl, hl⟩ hz
end Go.Proofs.Ytndpgmndbdchaaa
