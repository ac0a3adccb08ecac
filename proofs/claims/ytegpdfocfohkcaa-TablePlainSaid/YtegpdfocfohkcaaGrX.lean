/- Graphs, and three integers, as they come in. -/
import Derived.Test.YtegpdfocfohkcaaGrW
import Derived.OpenShut
import Derived.ChangeSlices
import Derived.ProofKit
import Derived.Deep.Slices
import Derived.Deep.Fields
namespace Go.Proofs.Ytegpdfocfohkcaa
open Go.RowKit Go.PlainAid Go.ChangeShapes Go.WideShapes Go.Lib Go.Deep

set_option maxRecDepth 100000 in
theorem ints_of_array {H : Type} {enc : TypeId × Value → H} {W : World} {t : TypeId} {k n : Nat} {cs : List Value} {y : DataW H × List MemPlace} (hu : Try.prog.underlying t = some (.array k 3)) (hC : Try.prog.cellsOf t = k)
    (h : DataW.trod enc Try.prog W 0 (fun _ => true) true n t cs = some y) : cs.length = k ∧ ∀ i, i < k → ∃ a : Int, cs[i]? = some (.int .i64 a) ∧ (Lit.int .i64 a).wf = true := by
  obtain ⟨xs, m, _, _, hl, hxl, hi⟩ := DataW.trod_array hu h
  rw [hC] at hl
  refine ⟨hl, fun i hik => ?_⟩
  have h1 : Try.prog.cellsOf 3 = 1 := by kernel_rfl
  have := hi i hik
  rw [h1, Nat.mul_one] at this
  have hx : i < xs.length := by omega
  rw [List.getElem?_eq_getElem hx] at this
  obtain ⟨a, ha, _, wa⟩ := DataW.trod_int Try.underlying3 this
  refine ⟨a, ?_, wa⟩
  have hil : i < cs.length := by omega
  have e : List.take 1 (cs.drop i) = [cs[i]] := by rw [List.drop_eq_getElem_cons hil]; rfl
  rw [e] at ha
  rw [List.getElem?_eq_getElem hil]
  simpa using ha

set_option maxRecDepth 100000 in
theorem links_of_trod {H : Type} {enc : TypeId × Value → H} {W : World} {v : Value} {n : Nat} {y : DataW H × List MemPlace} (hd : DataW.trod enc Try.prog W 0 (fun _ => true) true n 23 [v] = some y) :
    ∃ L, LinksAt W v L ∧ ∀ p ∈ L, wfp p := by
  rcases open_slice Try.underlying23 hd with ⟨h, _⟩ | ⟨a, len, cap, m, n', D, Pl, h, _, hlc, _, hm, _, hi⟩
  · simp at h
    subst h
    exact ⟨[], .inl ⟨none, 0, rfl, rfl⟩, by simp⟩
  · simp at h hm
    subst h hm
    have h2 : Try.prog.cellsOf 96 = 2 := by kernel_rfl
    rw [h2] at hi
    by_cases h0 : len = 0
    · subst h0; exact ⟨[], .inl ⟨_, m, rfl, rfl⟩, by simp⟩
    · have hex : ∀ i : Nat, ∃ p : Int × Int, i < m → W.cell? (a.add (i * 2)) = some (.int .i64 p.1) ∧ W.cell? (a.add (i * 2 + 1)) = some (.int .i64 p.2) ∧ wfp p := by
        intro i
        by_cases him : i < m
        · obtain ⟨cs', hc, ht⟩ := hi i him
          obtain ⟨_, hcl, hat⟩ := World.cells?_some hc
          obtain ⟨_, hv⟩ := ints_of_array Try.underlying96 h2 ht
          obtain ⟨x, hx, wx⟩ := hv 0 (by omega)
          obtain ⟨z, hz, wz⟩ := hv 1 (by omega)
          refine ⟨(x, z), fun _ => ⟨?_, ?_, wx, wz⟩⟩
          · have := hat 0 (by omega)
            rw [hx, Go.Deep.add_add, Nat.add_zero] at this
            exact this
          · have := hat 1 (by omega)
            rw [hz, Go.Deep.add_add] at this
            exact this
        · exact ⟨(0, 0), fun h => absurd h him⟩
      obtain ⟨f, hf⟩ := Classical.axiomOfChoice hex
      obtain ⟨b, off, spot⟩ := a
      have hspot : spot = none := by simpa [Addr.add] using World.cell?_spot (hf 0 (by omega)).1
      subst hspot
      have hget : ∀ i, i < len → lk ((List.range len).map f) i = f i := fun i hil => by simp [lk, List.getD, hil]
      refine ⟨(List.range len).map f, .inr ⟨b, off, len, m, rfl, by simp, by omega, ?_, hlc, fun i hil => ?_⟩, ?_⟩
      · have := (hf 0 (by omega)).1
        have := World.block_lt_of_cell? W _ this
        simpa [Addr.add] using this
      · obtain ⟨q1, q2, _⟩ := hf i (by omega)
        rw [hget i hil]
        rw [Go.WideShapes.add_plain] at q1 q2
        exact ⟨q1, by rw [Nat.add_assoc]; exact q2⟩
      · intro p hp
        obtain ⟨i, hil, rfl⟩ := List.mem_map.1 hp
        exact (hf i (by simp at hil; omega)).2.2

set_option maxRecDepth 100000 in
theorem open_graph {H : Type} {enc : TypeId × Value → H} {W : World} {b0 : Nat} {v : Value} {d : DataW H} {ps : List MemPlace} (hval : Value.okWide Try.prog W .any b0 25 v) (hd : DataW.Trod enc Try.prog W 0 (fun _ => true) true 25 v d ps) :
    ∃ N u L, v = .agg #[.int .i64 N, u] ∧ LinksAt W u L ∧ ∀ p ∈ L, wfp p := by
  obtain ⟨v0, v1, y0, y1, n, rfl, -, -, t0, t1⟩ := Go.Joins.open_agg2 Try.underlying25 (by kernel_rfl) (by kernel_rfl) hval hd
  obtain ⟨A, hA, -, wA⟩ := DataW.trod_int Try.underlying3 t0
  obtain ⟨L, hL, hW⟩ := links_of_trod t1
  simp at hA
  subst hA
  exact ⟨A, v1, L, rfl, hL, hW⟩

set_option maxRecDepth 100000 in
theorem open_three {H : Type} {enc : TypeId × Value → H} {W : World} {b0 : Nat} {v : Value} {d : DataW H} {ps : List MemPlace} (hval : Value.okWide Try.prog W .any b0 54 v) (hd : DataW.Trod enc Try.prog W 0 (fun _ => true) true 54 v d ps) :
    ∃ a b c : Int, v = .agg #[.int .i64 a, .int .i64 b, .int .i64 c] ∧ (Lit.int .i64 a).wf = true ∧ (Lit.int .i64 b).wf = true ∧ (Lit.int .i64 c).wf = true := by
  have hu := Try.underlying54
  have h3 : Try.prog.cellsOf 54 = 3 := by kernel_rfl
  simp only [Value.okWide, hu] at hval
  obtain ⟨cs, rfl, h2, _⟩ := hval
  obtain ⟨n, hn⟩ := hd
  obtain ⟨hl, hv⟩ := ints_of_array hu h3 hn
  obtain ⟨a, ha, wa⟩ := hv 0 (by omega)
  obtain ⟨b, hb, wb⟩ := hv 1 (by omega)
  obtain ⟨c, hc, wc⟩ := hv 2 (by omega)
  obtain ⟨l⟩ := cs
  simp [Value.cells] at hl ha hb hc
  match l, hl with
  | [x, y, z], _ =>
    simp at ha hb hc
    subst ha hb hc
    exact ⟨a, b, c, rfl, wa, wb, wc⟩
end Go.Proofs.Ytegpdfocfohkcaa
