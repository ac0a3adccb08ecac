/- Slices of bits, and Many, as they come in. -/
import Derived.Test.YtopmbcfecaklhaaU
import Derived.OpenShut
import Derived.ChangeSlices
import Derived.ProofKit
import Derived.Lib.SmallJoins
namespace Go.Proofs.Ytopmbcfecaklhaa
open Go.RowKit Go.PlainAid Go.ChangeShapes Go.WideShapes Go.Lib

theorem u64_nat {n : Int} (h : (Lit.int .u64 n).wf = true) : 0 ≤ n ∧ n < 18446744073709551616 := by
  simp [Lit.wf, IntKind.min, IntKind.max, IntKind.bits, IntKind.signed] at h
  omega

theorem bits_of_trod {H : Type} {enc : TypeId × Value → H} {W : World} {v : Value} {n : Nat} {y : DataW H × List MemPlace} (hd : DataW.trod enc Try.prog W 0 (fun _ => true) true n 23 [v] = some y) :
    ∃ xs, BitsAt W v xs ∧ ∀ i, xs.getD i 0 < 18446744073709551616 := by
  rcases open_ints Try.underlying23 Try.underlying39 (by kernel_rfl) hd with ⟨h, _⟩ | ⟨a', len', cap', zs, h, _, hlc, _, hlen, _, hc, hwf⟩
  · simp at h
    subst h
    exact ⟨[], .inl ⟨none, 0, rfl, rfl⟩, fun i => by simp⟩
  · simp at h
    subst h
    simp at hlen
    by_cases h0 : len' = 0
    · subst h0; exact ⟨[], .inl ⟨_, cap', rfl, rfl⟩, fun i => by simp⟩
    · obtain ⟨b, off, rfl, hcells⟩ := ints_at hc (by omega)
      have hget : ∀ i, i < len' → (((zs.take len').map Int.toNat).getD i 0 : Nat) = zs.getD i 0 := fun i hi => by
        have hz : i < zs.length := by omega
        have hm : zs.getD i 0 ∈ zs := by simp [List.getD, hz]
        have := u64_nat (hwf _ hm)
        have e : ((zs.take len').map Int.toNat).getD i 0 = (zs.getD i 0).toNat := by simp [List.getD, hi, hz]
        rw [e]; omega
      refine ⟨(zs.take len').map Int.toNat, .inr ⟨b, off, len', cap', rfl, by rw [List.length_map, List.length_take]; omega, by omega, ?_, hlc, fun i hi => ?_⟩, fun i => ?_⟩
      · have := hcells 0 (by omega)
        exact block_of_cell this
      · rw [hcells i (by omega), hget i hi]
      · by_cases hi : i < len'
        · have hz : i < zs.length := by omega
          have hm : zs.getD i 0 ∈ zs := by simp [List.getD, hz]
          have := u64_nat (hwf _ hm)
          have := hget i hi
          omega
        · have : ((zs.take len').map Int.toNat).length ≤ i := by rw [List.length_map, List.length_take]; omega
          simp only [List.getD, List.getElem?_eq_none this]; decide

theorem open_bitsAt {H : Type} {enc : TypeId × Value → H} {W : World} {b0 : Nat} {v : Value} {d : DataW H} {ps : List MemPlace} (hval : Value.okWide Try.prog W .any b0 23 v) (hd : DataW.Trod enc Try.prog W 0 (fun _ => true) true 23 v d ps) :
    ∃ xs, BitsAt W v xs ∧ ∀ i, xs.getD i 0 < 18446744073709551616 := by
  obtain ⟨a, len, cap, rfl⟩ := okWide_slice Try.underlying23 hval
  obtain ⟨m, hm⟩ := hd
  exact bits_of_trod hm

theorem open_many {H : Type} {enc : TypeId × Value → H} {W : World} {b0 : Nat} {v : Value} {d : DataW H} {ps : List MemPlace} (hval : Value.okWide Try.prog W .any b0 25 v) (hd : DataW.Trod enc Try.prog W 0 (fun _ => true) true 25 v d ps) :
    ∃ A B u xs, v = .agg #[.int .i64 A, .int .i64 B, u] ∧ (Lit.int .i64 A).wf = true ∧ (Lit.int .i64 B).wf = true ∧ BitsAt W u xs ∧ ∀ i, xs.getD i 0 < 18446744073709551616 := by
  obtain ⟨v0, v1, v2, y0, y1, y2, n, rfl, -, -, t0, t1, t2⟩ := Go.Joins.open_agg3 Try.underlying25 (by kernel_rfl) (by kernel_rfl) hval hd
  obtain ⟨A, hA, -, wA⟩ := DataW.trod_int Try.underlying3 t0
  obtain ⟨B, hB, -, wB⟩ := DataW.trod_int Try.underlying3 t1
  obtain ⟨xs, hx, hl⟩ := bits_of_trod t2
  simp at hA hB
  subst hA hB
  exact ⟨A, B, v2, xs, rfl, wA, wB, hx, hl⟩
end Go.Proofs.Ytopmbcfecaklhaa
