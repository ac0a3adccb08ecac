/- Back, of both. -/
import Derived.Test.YtegpdfocfohkcaaGrD
namespace Go.Proofs.Ytegpdfocfohkcaa
open Go.RowKit Go.PlainAid

theorem LinksAt.at {w : World} {v : Value} {L : Lks} (h : LinksAt w v L) : ∃ a cap, v = .slice a L.length cap := by
  rcases h with ⟨a, cap, rfl, rfl⟩ | ⟨b, off, len, cap, rfl, hl, -⟩
  · exact ⟨a, cap, rfl⟩
  · exact ⟨_, cap, by rw [hl]⟩

/-- A boxed graph. -/
theorem boxed (N : Int) (v : Value) (t : TypeId) (L : Lks) (w : World) (h : LinksAt w v L) :
    ∃ wb, wb = w.alloc (.cells #[.int .i64 N, v] t) ∧ Below w.heap.size w wb ∧ LinksAt wb v L ∧ wb.cell? ⟨w.heap.size, 0, none⟩ = some (.int .i64 N) ∧ wb.cell? ⟨w.heap.size, 1, none⟩ = some v ∧ w.heap.size < wb.heap.size := by
  have hb := (Below.refl w.heap.size w).alloc (Nat.le_refl _) (.cells #[.int .i64 N, v] t)
  exact ⟨_, rfl, hb, h.below hb, World.cell?_alloc_at _ _ _ _ rfl, World.cell?_alloc_at _ _ _ _ rfl, by simp⟩

end Go.Proofs.Ytegpdfocfohkcaa
