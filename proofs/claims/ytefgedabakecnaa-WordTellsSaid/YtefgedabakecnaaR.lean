/- Slices of integers, and pairs of them, as they come in. -/
import Derived.Test.YtefgedabakecnaaM
import Derived.OpenShut
import Derived.ChangeSlices
import Derived.WideKeyPair
import Derived.ProofKit
namespace Go.Proofs.Ytefgedabakecnaa
open Go.RowKit Go.PlainAid Go.ChangeShapes Go.WideShapes

theorem block_of_cell {w : World} {a : Addr} {u : Value} (h : w.cell? a = some u) : a.block < w.heap.size := by
  rcases Nat.lt_or_ge a.block w.heap.size with g | g
  · exact g
  · simp [World.cell?, Array.getElem?_eq_none g] at h

theorem open_intsAt {H : Type} {enc : TypeId × Value → H} {W : World} {b0 : Nat} {v : Value} {d : DataW H} {ps : List MemPlace} (hval : Value.okWide Try.prog W .any b0 22 v) (hd : DataW.Trod enc Try.prog W 0 (fun _ => true) true 22 v d ps) :
    ∃ xs, IntsAt W v xs := by
  obtain ⟨a, len, cap, rfl⟩ := okWide_slice Try.underlying22 hval
  obtain ⟨m, hm⟩ := hd
  rcases open_ints Try.underlying22 Try.underlying3 (by kernel_rfl) hm with ⟨h, _⟩ | ⟨a', len', cap', zs, h, _, hlc, _, hlen, _, hc, _⟩
  · simp [Value.cells] at h
    obtain ⟨rfl, rfl, rfl⟩ := h
    exact ⟨[], .inl ⟨none, 0, rfl, rfl⟩⟩
  · simp [Value.cells] at h
    obtain ⟨rfl, rfl, rfl⟩ := h
    simp at hlen
    by_cases h0 : len = 0
    · subst h0; exact ⟨[], .inl ⟨_, cap, rfl, rfl⟩⟩
    · obtain ⟨b, off, rfl, hcells⟩ := ints_at hc (by omega)
      refine ⟨zs.take len, .inr ⟨b, off, len, cap, rfl, by rw [List.length_take]; omega, by omega, ?_, hlc, fun i hi => ?_⟩⟩
      · have := hcells 0 (by omega)
        exact block_of_cell this
      · rw [hcells i (by omega)]
        simp only [List.getD, List.getElem?_take]
        rw [if_pos hi]
end Go.Proofs.Ytefgedabakecnaa
