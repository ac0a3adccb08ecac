/- All links: what is known of them; a box made. -/
import Derived.Test.YtndpgmndbdchaaaZ
namespace Go.Proofs.Ytndpgmndbdchaaa
open Go.RowKit Go.PlainAid

set_option maxRecDepth 100000 in
theorem full_rg : ∀ N : Nat, N < 7 → (fullL N N).Nodup ∧ (∀ p ∈ fullL N N, 0 ≤ p.1 ∧ p.1 < N ∧ 0 ≤ p.2 ∧ p.2 < N) ∧ (∀ p ∈ fullL N N, p.1 ≠ p.2) ∧ (∀ p ∈ fullL N N, (p.2, p.1) ∈ fullL N N) := by decide +kernel
set_option maxRecDepth 100000 in
theorem full_num : ∀ N : Nat, N < 7 → (fullL N N).length = N * (N - 1) ∧ ∀ a : Nat, a < N → (sel 0 (fullL N N) (a : Int)).length = N - 1 ∧ (sel 1 (fullL N N) (a : Int)).length = N - 1 := by decide +kernel
theorem full_mem {N a b : Nat} (ha : a < N) (hb : b < N) (h : a ≠ b) : ((a : Int), (b : Int)) ∈ fullL N N := by
  unfold fullL rowL
  simp only [List.mem_flatMap, List.mem_range, List.mem_map, List.mem_filter]
  exact ⟨a, ha, b, ⟨hb, by simp; omega⟩, rfl⟩
theorem full_right {N : Nat} (h1 : 1 ≤ N) (h6 : N ≤ 6) : RightG N (fullL N N) := by
  have hr := full_rg N (by omega)
  have hn := (full_num N (by omega)).1
  have hle : N * (N - 1) ≤ 6 * 5 := Nat.mul_le_mul h6 (by omega)
  refine ⟨by omega, by omega, by omega, rg_of hr.1 hr.2.1 hr.2.2.1 hr.2.2.2, fun y hy => ?_⟩
  by_cases h0 : y = 0
  · subst h0; exact ⟨0, rfl⟩
  · exact ⟨1, 0, rfl, full_mem (a := 0) (b := y) (by omega) (by omega) (by omega)⟩
theorem new_k {w : World} {N : Int} {v : Value} {M : Lks} {T : TypeId} (h : LinksAt w v M) : KAt w N v M (w.alloc (.cells #[.int .i64 N, v] T)) :=
  ⟨below_alloc _ _, (Box.start w N v T).1, (Box.start w N v T).2.1, h.below (below_alloc _ _)⟩
end Go.Proofs.Ytndpgmndbdchaaa
