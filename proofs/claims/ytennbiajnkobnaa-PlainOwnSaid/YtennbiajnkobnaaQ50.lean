/- Texts put together. -/
import Derived.Test.YtennbiajnkobnaaQ36
import Derived.Test.YtennbiajnkobnaaQ49
set_option linter.unusedSimpArgs false
set_option linter.unusedVariables false
set_option maxRecDepth 100000
namespace Go.Proofs.Ytennbiajnkobnaa
open Go.RowKit Go.PlainAid
section
open Go.ChangeShapes Go.WideShapes Go.Lib Go.Deep
theorem open_step {H : Type} {enc : TypeId × Value → H} {W : World} {b0 : Nat} {v : Value} {d : DataW H} {ps : List MemPlace} (hval : Value.okWide Try.prog W .any b0 50 v) (hd : DataW.Trod enc Try.prog W 0 (fun _ => true) true 50 v d ps) :
  ∃ a b c d e : Int, v = .agg #[.int .i64 a, .int .i64 b, .int .i64 c, .int .i64 d, .int .i64 e] := by
 obtain ⟨cs, rfl, hsz⟩ := okWide_struct Try.underlying50 hval
 obtain ⟨m, hm⟩ := hd
 obtain ⟨xs, k, -, -, hl, hlen, hf⟩ := DataW.trod_struct Try.underlying50 hm
 have hs5 : cs.size = 5 := hsz.trans (by kernel_rfl)
 obtain ⟨l, rfl⟩ : ∃ l : List Value, cs = l.toArray := ⟨cs.toList, by simp⟩
 have hl5 : l.length = 5 := by simpa using hs5
 match l, hl5, xs, hlen with
 | [c0, c1, c2, c3, c4], _, [x0, x1, x2, x3, x4], _ =>
  have e1 : Try.prog.cellsOf 3 = 1 := by kernel_rfl
  have h0 := hf 0 _ rfl
  have h1 := hf 1 _ rfl
  have h2 := hf 2 _ rfl
  have h3 := hf 3 _ rfl
  have h4 := hf 4 _ rfl
  simp [e1, Value.cells] at h0 h1 h2 h3 h4
  obtain ⟨a0, ha0, -, -⟩ := DataW.trod_int Try.underlying3 h0
  obtain ⟨a1, ha1, -, -⟩ := DataW.trod_int Try.underlying3 h1
  obtain ⟨a2, ha2, -, -⟩ := DataW.trod_int Try.underlying3 h2
  obtain ⟨a3, ha3, -, -⟩ := DataW.trod_int Try.underlying3 h3
  obtain ⟨a4, ha4, -, -⟩ := DataW.trod_int Try.underlying3 h4
  simp at ha0 ha1 ha2 ha3 ha4
  subst ha0 ha1 ha2 ha3 ha4
  exact ⟨a0, a1, a2, a3, a4, rfl⟩
end
end Go.Proofs.Ytennbiajnkobnaa

