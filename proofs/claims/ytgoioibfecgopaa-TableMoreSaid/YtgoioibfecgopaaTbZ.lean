/- A course, and five numbers, as they come in. -/
import Derived.Test.YtgoioibfecgopaaTbX
namespace Go.Proofs.Ytgoioibfecgopaa
open Go.RowKit Go.PlainAid

set_option maxRecDepth 100000 in
theorem open_course {H : Type} {enc : TypeId × Value → H} {W : World} {b0 : Nat} {v : Value} {d : DataW H} {ps : List MemPlace} (hval : Value.okWide Try.prog W .any b0 28 v) (hd : DataW.Trod enc Try.prog W 0 (fun _ => true) true 28 v d ps) :
    ∃ (c0 c1 c2 : Int) (u : Value) (fs : List Int), v = .agg #[.int .i64 c0, .int .i64 c1, .int .i64 c2, u] ∧ Has W u (dInts fs) := by
  obtain ⟨v0, v1, v2, v3, y0, y1, y2, y3, n, rfl, -, -, t0, t1, t2, t3⟩ := Go.Joins.open_agg4 Try.underlying28 (by kernel_rfl) (by kernel_rfl) hval hd
  obtain ⟨A, hA, -, -⟩ := DataW.trod_int Try.underlying3 t0
  obtain ⟨B, hB, -, -⟩ := DataW.trod_int Try.underlying3 t1
  obtain ⟨C, hC, -, -⟩ := DataW.trod_int Try.underlying3 t2
  obtain ⟨fs, hF⟩ := ints_has_trod t3
  simp at hA hB hC
  subst hA hB hC
  exact ⟨A, B, C, v3, fs, rfl, hF⟩
set_option maxRecDepth 100000 in
theorem open_five {H : Type} {enc : TypeId × Value → H} {W : World} {b0 : Nat} {v : Value} {d : DataW H} {ps : List MemPlace} (hval : Value.okWide Try.prog W .any b0 63 v) (hd : DataW.Trod enc Try.prog W 0 (fun _ => true) true 63 v d ps) :
    ∃ a b c d e : Int, v = .agg #[.int .i64 a, .int .i64 b, .int .i64 c, .int .i64 d, .int .i64 e] := by
  have hu := Try.underlying63
  have h3 : Try.prog.cellsOf 63 = 5 := by kernel_rfl
  simp only [Value.okWide, hu] at hval
  obtain ⟨cs, rfl, h2, _⟩ := hval
  obtain ⟨n, hn⟩ := hd
  obtain ⟨hl, hv⟩ := ints_of_array hu h3 hn
  obtain ⟨a, ha, _⟩ := hv 0 (by omega)
  obtain ⟨b, hb, _⟩ := hv 1 (by omega)
  obtain ⟨c, hc, _⟩ := hv 2 (by omega)
  obtain ⟨d, hd, _⟩ := hv 3 (by omega)
  obtain ⟨e, he, _⟩ := hv 4 (by omega)
  obtain ⟨l⟩ := cs
  simp [Value.cells] at hl ha hb hc hd he
  match l, hl with
  | [x, y, z, p, q], _ =>
    simp at ha hb hc hd he
    subst ha hb hc hd he
    exact ⟨a, b, c, d, e, rfl⟩
end Go.Proofs.Ytgoioibfecgopaa
