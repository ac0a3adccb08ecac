/- Nodes out of numbers; laws of two boxes; ways. -/
import Derived.Test.YtndpgmndbdchaaaBa
namespace Go.Proofs.Ytndpgmndbdchaaa
open Go.RowKit Go.PlainAid

theorem and255 (x : Int) : 0 ≤ bits .and .i64 x 255 ∧ bits .and .i64 x 255 ≤ 255 := by
  have h : (BitVec.ofInt 64 x &&& BitVec.ofInt 64 255).toNat ≤ 255 := by
    rw [BitVec.toNat_and]
    exact Nat.le_trans Nat.and_le_right (by decide)
  show 0 ≤ IntKind.i64.wrap ((BitVec.ofInt 64 x &&& BitVec.ofInt 64 255).toNat : Int) ∧ IntKind.i64.wrap ((BitVec.ofInt 64 x &&& BitVec.ofInt 64 255).toNat : Int) ≤ 255
  rw [IntWalk.i64_in _ (by omega)]
  omega
/-- A node out of a number. -/
theorem node_of (x : Int) (N : Nat) (h : 1 ≤ N) : ∃ (m : Int) (a : Nat), bits .and .i64 x 255 = m ∧ m.tmod (N : Int) = (a : Int) ∧ a < N := by
  obtain ⟨h0, h1⟩ := and255 x
  refine ⟨_, ((bits .and .i64 x 255).tmod (N : Int)).toNat, rfl, ?_, ?_⟩
  · rw [Int.toNat_of_nonneg (Int.tmod_nonneg _ h0)]
  · have := Int.tmod_lt_of_pos (bits .and .i64 x 255) (show (0 : Int) < N by omega)
    have := Int.tmod_nonneg (N : Int) h0
    omega

/-- As KAt, with three numbers in a box besides. -/
structure K3At (w : World) (N : Int) (v : Value) (L : Lks) (p q s : Int) (wr : World) : Prop extends KAt w N v L wr where
  n0 : wr.cell? ⟨w.heap.size + 1, 0, none⟩ = some (.int .i64 p)
  n1 : wr.cell? ⟨w.heap.size + 1, 1, none⟩ = some (.int .i64 q)
  n2 : wr.cell? ⟨w.heap.size + 1, 2, none⟩ = some (.int .i64 s)
theorem K3At.below {w wr w' : World} {N : Int} {v : Value} {L : Lks} {p q s : Int} (h : K3At w N v L p q s wr) (hb : Below wr.heap.size wr w') : K3At w N v L p q s w' := by
  have h1 := World.block_lt_of_cell? wr _ h.n0
  exact ⟨h.toKAt.below hb, (hb.cell h1).trans h.n0, (hb.cell (by exact h1)).trans h.n1, (hb.cell (by exact h1)).trans h.n2⟩
theorem law_box3 {w w1 : World} {N : Int} {v v' : Value} {M : Lks} {T T3 : TypeId} {p q s : Int}
    (hb : Below ((w.alloc (.cells #[.int .i64 N, v] T)).alloc (.cells #[.int .i64 p, .int .i64 q, .int .i64 s] T3)).heap.size ((w.alloc (.cells #[.int .i64 N, v] T)).alloc (.cells #[.int .i64 p, .int .i64 q, .int .i64 s] T3)) w1) (hM : LinksAt w v' M) :
    Box w1 w.heap.size (.int .i64 N) v ∧ ∃ we, we = (w1.setCell ⟨w.heap.size, 0, none⟩ (.int .i64 N)).setCell ⟨w.heap.size, 1, none⟩ v' ∧ K3At w N v' M p q s we := by
  have e0 := (Below.refl _ w).alloc (Nat.le_refl _) (.cells #[.int .i64 N, v] T)
  have e1 := (Below.refl _ (w.alloc (.cells #[.int .i64 N, v] T))).alloc (Nat.le_refl _) (.cells #[.int .i64 p, .int .i64 q, .int .i64 s] T3)
  have h1 := ((Box.start w N v T).below e1).below hb
  have hbw : Below w.heap.size w w1 := below_step (by simp; omega) (below_step (by simp) e0 e1) hb
  have h2 := h1.fill (.int .i64 N) v'
  have h3 : Below w.heap.size w ((w1.setCell ⟨w.heap.size, 0, none⟩ (.int .i64 N)).setCell ⟨w.heap.size, 1, none⟩ v') := (hbw.setCell (by simp) _).setCell (by simp) _
  have c : ∀ (j : Nat) (u : Value), #[Value.int .i64 p, .int .i64 q, .int .i64 s][j]? = some u → ((w1.setCell ⟨w.heap.size, 0, none⟩ (.int .i64 N)).setCell ⟨w.heap.size, 1, none⟩ v').cell? ⟨w.heap.size + 1, j, none⟩ = some u := by
    intro j u hu
    rw [World.cell?_setCell_other _ _ _ _ (by simp), World.cell?_setCell_other _ _ _ _ (by simp)]
    rw [hb.cell (by simp)]
    exact (World.cell?_alloc_at (w := w.alloc (.cells #[.int .i64 N, v] T)) #[Value.int .i64 p, .int .i64 q, .int .i64 s] T3 _ j (size_alloc _ _).symm).trans hu
  exact ⟨h1, _, rfl, ⟨⟨h3, h2.1, h2.2.1, hM.below h3⟩, c 0 _ rfl, c 1 _ rfl, c 2 _ rfl⟩⟩

theorem distN_at (N a : Nat) (v : Value) (L : Lks) (D : List Int) (w : World) (hL : LinksAt w v L) (hR : InR N L) (h1 : 1 ≤ N) (h6 : N ≤ 6) (ha : a < N) (hn : L.length ≤ 1000000) (hD : IsDist N L a D) :
    Calls Try.prog 27 #[gv N v, .int .i64 (a : Int)] w fun e w' => ∃ g o c, e = .returned (.slice (some ⟨g, o, none⟩) N c) ∧ IntsAt w' (.slice (some ⟨g, o, none⟩) N c) D ∧ Below w.heap.size w w' := by
  refine (dist_at N a v L D w hL hR h1 h6 ha hn hD).mono ?_
  rintro e w' ⟨u, rfl, hi, hb⟩
  rcases id hi with ⟨s, c, rfl, hd⟩ | ⟨g, o, n, c, rfl, hl, _⟩
  · have := hD.1; rw [hd] at this; simp at this; omega
  · have : n = N := by rw [← hl]; exact hD.1
    subst this
    exact ⟨g, o, c, rfl, hi, hb⟩
theorem IntsAt.cell {w : World} {g o n c : Nat} {D : List Int} (h : IntsAt w (.slice (some ⟨g, o, none⟩) n c) D) (hl : D.length = n) {i : Nat} (hi : i < n) : w.cell? ⟨g, o + i, none⟩ = some (.int .i64 (D.getD i (-1))) := by
  rcases h with ⟨s, c', e, hd⟩ | ⟨g', o', n', c', e, hl', _, _, _, hc⟩
  · rw [hd] at hl; simp at hl; omega
  · simp only [Value.slice.injEq, Option.some.injEq, Addr.mk.injEq] at e
    obtain ⟨⟨rfl, rfl, _⟩, rfl, rfl⟩ := e
    rw [hc i hi]
    simp [List.getD, show i < D.length by omega]

/-- No way over a third node is shorter. -/
theorem dist_tri {N : Nat} {L : Lks} (hG : RightG N L) {a b c : Nat} (ha : a < N) (hb : b < N) (hc : c < N) {D E : List Int} (hD : IsDist N L a D) (hE : IsDist N L b E) :
    D.getD c (-1) ≤ D.getD b (-1) + E.getD c (-1) := by
  obtain ⟨j, h1, h2⟩ := dist_num hD hb (hG.2.2.2.2.all hG.2.2.2.1 (by omega) (by omega))
  obtain ⟨k, h3, h4⟩ := dist_num hE hc (hG.2.2.2.2.all hG.2.2.2.1 (by omega) (by omega))
  obtain ⟨m, h5, h6⟩ := dist_num hD hc (hG.2.2.2.2.all hG.2.2.2.1 (by omega) (by omega))
  have hw := way_trans h2.1 h4.1
  have : m ≤ j + k := by
    rcases Nat.lt_or_ge (j + k) m with g | g
    · exact absurd hw (h6.2 _ g)
    · exact g
  omega
theorem dist_nn {N : Nat} {L : Lks} (hG : RightG N L) {a b : Nat} (ha : a < N) (hb : b < N) {D : List Int} (hD : IsDist N L a D) : 0 ≤ D.getD b (-1) ∧ D.getD b (-1) < N := by
  obtain ⟨j, h1, h2⟩ := dist_num hD hb (hG.2.2.2.2.all hG.2.2.2.1 (by omega) (by omega))
  have := far_lt hG.2.2.2.1.in ha h2
  omega
theorem dist_self {N : Nat} {L : Lks} {a : Nat} (ha : a < N) {D : List Int} (hD : IsDist N L a D) : D.getD a (-1) = 0 := by
  obtain ⟨j, h1, h2⟩ := dist_num hD ha ⟨0, rfl⟩
  have : j = 0 := h2.eq ⟨rfl, fun k hk => by omega⟩
  omega
theorem dist_one {N : Nat} {L : Lks} (hG : RightG N L) {a b : Nat} (ha : a < N) (hb : b < N) {D : List Int} (hD : IsDist N L a D) : D.getD b (-1) = 1 ↔ ((a : Int), (b : Int)) ∈ L := by
  obtain ⟨j, h1, h2⟩ := dist_num hD hb (hG.2.2.2.2.all hG.2.2.2.1 (by omega) (by omega))
  constructor
  · intro h
    have : j = 1 := by omega
    subst this
    obtain ⟨c, hc, hm⟩ := h2.1
    have e : (a : Int) = c := hc
    rw [← e] at hm; exact hm
  · intro hm
    have hf : Far L 1 a b := ⟨⟨a, rfl, hm⟩, fun k hk hw => by
      obtain rfl : k = 0 := by omega
      have e : (a : Int) = b := hw
      exact hG.2.2.2.1.irr _ hm e⟩
    have := h2.eq hf
    omega
end Go.Proofs.Ytndpgmndbdchaaa
