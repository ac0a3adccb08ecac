/- Out and In, of both. -/
import Derived.Test.YtegpdfocfohkcaaGrE
namespace Go.Proofs.Ytegpdfocfohkcaa
open Go.RowKit Go.PlainAid

/-- A slice of integers in memory. -/
def IntsAt (w : World) (v : Value) (xs : List Int) : Prop :=
  (∃ a cap, v = .slice a 0 cap ∧ xs = []) ∨
  ∃ b off len cap, v = .slice (some ⟨b, off, none⟩) len cap ∧ xs.length = len ∧ 0 < len ∧ b < w.heap.size ∧ len ≤ cap ∧ ∀ i, i < len → w.cell? ⟨b, off + i, none⟩ = some (.int .i64 (xs.getD i 0))
theorem IntsAt.below {w w' : World} {v : Value} {xs : List Int} (h : IntsAt w v xs) (hb : Below w.heap.size w w') : IntsAt w' v xs := by
  rcases h with h | ⟨b, off, len, cap, h1, h2, h3, h4, h6, h5⟩
  · exact .inl h
  · exact .inr ⟨b, off, len, cap, h1, h2, h3, by have := hb.size; omega, h6, fun i hi => (hb.cell (by exact h4)).trans (h5 i hi)⟩
theorem IntsAt.owns {w : World} {base : Nat} {e : TypeId} {v : Value} {xs : List Int} (h : w.ownsRow base e 1 v xs.length (xs.map (Value.int .i64))) : IntsAt w v xs := by
  by_cases hx : xs.length = 0
  · obtain ⟨ao, cap, rfl⟩ := owns_slice h
    exact .inl ⟨ao, cap, by rw [hx], List.length_eq_zero_iff.1 hx⟩
  · have hc := fun g => h.cells (g := g)
    rcases h.2 with ⟨_, h0⟩ | ⟨g, cap, cur, rfl, _, hg, hle, _⟩
    · omega
    · refine .inr ⟨g, 0, xs.length, cap, rfl, rfl, by omega, lt_of_block hg, hle, fun i hi => ?_⟩
      have := hc g rfl i (.int .i64 (xs.getD i 0)) (by simp [List.getD, hi])
      have e : (⟨g, 0, none⟩ : Addr).add i = ⟨g, 0 + i, none⟩ := by unfold Addr.add; split <;> simp_all
      rw [e] at this; exact this

theorem cell_one_at (w : World) (t : TypeId) (g : Nat) (v : Value) (hg : g = w.heap.size) : ∀ j u, [v][j]? = some u → (w.alloc (.cells #[v] t)).cell? ((⟨g, 0, none⟩ : Addr).add j) = some u := by
  subst hg
  intro j u hu
  cases j with
  | zero =>
    simp at hu; subst hu
    exact World.cell?_alloc_at _ _ _ _ rfl
  | succ j => simp at hu
theorem size_alloc (w : World) (o : Obj) : (w.alloc o).heap.size = w.heap.size + 1 := by simp

theorem infoInt : (Try.prog.info? 3).map (fun i => (i.zero, i.size, i.bytes)) = some (some (.int .i64 0), 1, 8) := by kernel_rfl

/-- The places so far, in a row of the call's own. -/
def SelHead (p : Nat → Bool) (w : World) (k : Nat) (v : Value) (wr : World) : Prop :=
  wr.ownsRow w.heap.size 3 1 v (selL p k).length ((selL p k).map (Value.int .i64)) ∧ Below w.heap.size w wr
theorem SelHead.skip {p : Nat → Bool} {w wr w' : World} {k : Nat} {v : Value} (h : SelHead p w k v wr) (hp : p k = false) (hb : Below wr.heap.size wr w') (hw : w.heap.size ≤ wr.heap.size) : SelHead p w (k + 1) v w' := by
  unfold SelHead
  rw [selL_succ, hp]
  simp only [Bool.false_eq_true, if_false]
  refine ⟨?_, below_step hw h.2 hb⟩
  exact h.1.kept (row := none) ⟨hb.os, hb.tape, hb.output, hb.size, fun k hk _ => hb.block k hk⟩ (by cases hv : v.ownBlock <;> simp)
theorem SelHead.more {p : Nat → Bool} {w wr w' : World} {k : Nat} {v v' : Value} (h : SelHead p w k v wr) (hp : p k = true)
    (hown : w'.ownsRow w.heap.size 3 1 v' ((selL p k).length + 1) ((selL p k).map (Value.int .i64) ++ [.int .i64 (k : Int)])) (hb : Below w.heap.size wr w') : SelHead p w (k + 1) v' w' := by
  unfold SelHead
  rw [selL_succ, hp]
  simp only [if_true]
  refine ⟨?_, h.2.trans hb⟩
  rw [List.length_append, List.map_append]
  exact hown
theorem selL_le (p : Nat → Bool) (k : Nat) : (selL p k).length ≤ k := selL_length p k
end Go.Proofs.Ytegpdfocfohkcaa
