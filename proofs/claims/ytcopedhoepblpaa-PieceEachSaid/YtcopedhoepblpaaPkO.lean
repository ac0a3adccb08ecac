/- Pieces as they come in; facts for the laws. Written by gen_pback.py. -/
import Derived.Test.YtcopedhoepblpaaPkN
set_option linter.unusedSimpArgs false
set_option linter.unusedVariables false
set_option maxRecDepth 100000
namespace Go.Proofs.Ytcopedhoepblpaa
open Go.RowKit Go.PlainAid

section
open Go.ChangeShapes Go.WideShapes Go.Lib Go.Deep
variable {H : Type} {enc : TypeId × Value → H} {W : World} {n : Nat} {y : DataW H × List MemPlace}
theorem ints_has_trod {v : Value} (hd : DataW.trod enc Try.prog W 0 (fun _ => true) true n 22 [v] = some y) : ∃ xs : List Int, Has W v (dInts xs) :=
  row_of_trod Try.underlying22 (by kernel_rfl) (by omega) (fun m cs y h => by
    obtain ⟨a, rfl, -, -⟩ := DataW.trod_int Try.underlying3 h
    exact ⟨a, .mk (has_int _ _ _ _) (hasL_nil _ _ _), rfl⟩) hd
theorem ils_of_trod {v : Value} (hd : DataW.trod enc Try.prog W 0 (fun _ => true) true n 24 [v] = some y) : ∃ xs : List (List Int), Has W v (dIls xs) :=
  row_of_trod Try.underlying24 (by kernel_rfl) (by omega) (fun m cs y h => by
    have hc : ∃ c0, cs = [c0] := by
      rcases open_slice Try.underlying22 h with ⟨h, _⟩ | ⟨a, len, cap, m, n', _, _, h, _⟩
      · exact ⟨_, h⟩
      · exact ⟨_, h⟩
    obtain ⟨c0, rfl⟩ := hc
    obtain ⟨xs, hx⟩ := ints_has_trod h
    exact ⟨xs, .mk hx (hasL_nil _ _ _), rfl⟩) hd
theorem open_piece {b0 : Nat} {v : Value} {d : DataW H} {ps : List MemPlace} (hval : Value.okWide Try.prog W .any b0 26 v) (hd : DataW.Trod enc Try.prog W 0 (fun _ => true) true 26 v d ps) :
    ∃ (p : Pc) (v1 v2 v3 : Value), v = pcv p v1 v2 v3 ∧ HasL W [v1, v2, v3] p.d := by
  obtain ⟨cs, rfl, hsz⟩ := okWide_struct Try.underlying26 hval
  obtain ⟨m, hm⟩ := hd
  obtain ⟨xs, k, -, -, hl, hlen, hf⟩ := DataW.trod_struct Try.underlying26 hm
  have hs6 : cs.size = 6 := hsz.trans (by kernel_rfl)
  obtain ⟨l, rfl⟩ : ∃ l : List Value, cs = l.toArray := ⟨cs.toList, by simp⟩
  have hl6 : l.length = 6 := by simpa using hs6
  match l, hl6, xs, hlen with
  | [c0, c1, c2, c3, c4, c5], _, [x0, x1, x2, x3, x4, x5], _ =>
    have e1 : Try.prog.cellsOf 3 = 1 := by kernel_rfl
    have e2 : Try.prog.cellsOf 22 = 1 := by kernel_rfl
    have e3 : Try.prog.cellsOf 23 = 1 := by kernel_rfl
    have e4 : Try.prog.cellsOf 24 = 1 := by kernel_rfl
    have h0 := hf 0 _ rfl
    have h1 := hf 1 _ rfl
    have h2 := hf 2 _ rfl
    have h3 := hf 3 _ rfl
    have h4 := hf 4 _ rfl
    have h5 := hf 5 _ rfl
    simp [e1, e2, e3, e4, Value.cells] at h0 h1 h2 h3 h4 h5
    obtain ⟨a0, ha0, -, -⟩ := DataW.trod_int Try.underlying3 h0
    obtain ⟨a1, ha1, -, -⟩ := DataW.trod_int Try.underlying3 h1
    obtain ⟨a2, ha2, -, -⟩ := DataW.trod_int Try.underlying3 h2
    obtain ⟨b3, hb3⟩ := ints_has_trod h3
    obtain ⟨b4, hb4⟩ := lls_of_trod h4
    obtain ⟨b5, hb5⟩ := ils_of_trod h5
    simp at ha0 ha1 ha2
    subst ha0 ha1 ha2
    exact ⟨⟨a0, a1, a2, b3, b4, b5⟩, c3, c4, c5, rfl, has_pc hb3 hb4 hb5⟩
end
theorem nums_len {p : Pc} (h : okB p = true) : (numsOf p).length ≤ 7521 := by
  obtain ⟨_, _, _, h4, h5, h6⟩ := okB_parts h
  have h1 := flat_le (f := msgsN) (c := 1001) p.inn (fun m hm => by have := riseB_len m 0 (h5.2 m hm) (by omega); have h2 := flat_le (f := pairN) (c := 2) m (fun x _ => Nat.le_refl 2); rw [msgsN_eq, List.length_cons]; omega)
  have h2 := flat_le (f := intsN) (c := 501) p.out (fun l hl => by have := (h6.2 l hl).1; unfold intsN; rw [List.length_cons]; omega)
  have h3 : p.inn.length * 1001 ≤ 5 * 1001 := Nat.mul_le_mul_right _ h5.1
  have h7 : p.out.length * 501 ≤ 5 * 501 := Nat.mul_le_mul_right _ h6.1
  simp only [numsOf, intsN, List.length_cons, List.length_append]
  have := h4.1
  omega
theorem enc_size (p : Pc) : (encR p).1.size ≤ 37605 := by
  unfold encR
  split
  · next h => have h1 := putsB_len (numsOf p); have h2 := nums_len h; rw [strB_size]; omega
  · decide
theorem enc_ok {p : Pc} (h : okB p = true) : encR p = (strB (putsB (numsOf p)), 0) := by unfold encR; rw [if_pos h]
theorem enc_no {p : Pc} (h : okB p = false) : encR p = (strB [], 4) := by unfold encR; rw [if_neg (by rw [h]; simp)]
theorem cutP_small (p : Pc) : SmallPc (cutP p) := by
  refine ⟨?_, ?_, ?_, fun m hm => ?_, fun m hm => ?_⟩
  · have := List.length_take_le 7 p.sent; show (p.sent.take 7).length ≤ _; omega
  · have := List.length_take_le 7 p.inn; show ((p.inn.take 7).map (·.take 20)).length ≤ _; rw [List.length_map]; omega
  · have := List.length_take_le 7 p.out; show ((p.out.take 7).map (·.take 20)).length ≤ _; rw [List.length_map]; omega
  · obtain ⟨x, _, rfl⟩ := List.mem_map.1 hm; have := List.length_take_le 20 x; show (x.take 20).length ≤ _; omega
  · obtain ⟨x, _, rfl⟩ := List.mem_map.1 hm; have := List.length_take_le 20 x; show (x.take 20).length ≤ _; omega
theorem zero_small : SmallPc Pc.zero := ⟨by decide, by decide, by decide, (by intro m hm; cases hm), (by intro m hm; cases hm)⟩
end Go.Proofs.Ytcopedhoepblpaa
