/- ScaleAgain: what its walk leans on. -/
import Derived.Test.YtopmbcfecaklhaaY
import Derived.Deep.AppendLies
namespace Go.Proofs.Ytopmbcfecaklhaa
open Go.RowKit Go.PlainAid Go.Sort Go.Lib

theorem map_range (xs : List Nat) : (List.range xs.length).map (fun i => xs.getD i 0) = xs := by
  apply List.ext_getElem
  · simp
  · intro i h1 h2
    have : i < xs.length := by simpa using h1
    simp [List.getD, this]
theorem rank_vals {xs r : List Nat} (h : IsRank xs r) : (r.map fun i => xs.getD i 0).Perm xs := by
  have := h.1.map (fun i => xs.getD i 0)
  rwa [map_range] at this
theorem rank_up {xs r : List Nat} (h : IsRank xs r) : (r.map fun i => xs.getD i 0).Pairwise (fun a b => hgt a ≤ hgt b) := by
  rw [List.pairwise_map]
  refine h.2.imp ?_
  intro a b hab
  unfold Lex at hab
  omega

/-- Numbers in the order of their rank have the rank of their places. -/
theorem again_sorted {xs r : List Nat} (h : IsRank xs r) : IsRank (r.map fun i => xs.getD i 0) (List.range xs.length) := by
  have hl : r.length = xs.length := by simpa using h.1.length_eq
  refine ⟨by simp [hl], ?_⟩
  rw [List.pairwise_iff_getElem]
  intro i j hi hj hij
  have hi' : i < xs.length := by simpa using hi
  have hj' : j < xs.length := by simpa using hj
  have hp := rank_pair h hij (by omega)
  simp only [List.getElem_range]
  have e : ∀ k, k < xs.length → (r.map fun i => xs.getD i 0).getD k 0 = xs.getD (r.getD k 0) 0 := fun k hk => by
    have : k < r.length := by omega
    simp [List.getD, this]
  unfold Lex at hp ⊢
  rw [e i hi', e j hj']
  omega

theorem getD_lt {xs : List Nat} (hx : ∀ i, xs.getD i 0 < 18446744073709551616) {a : Nat} (h : a ∈ xs) : a < 18446744073709551616 := by
  obtain ⟨i, hi, rfl⟩ := List.getElem_of_mem h
  have := hx i
  simpa [List.getD, hi] using this

/-- Turned round before, that of the same bits alone is another one. -/
theorem again_turned {xs r q : List Nat} (hx : ∀ i, xs.getD i 0 < 18446744073709551616) (h : IsRank xs r) (hq : IsRank xs.reverse q) {i : Nat} (hi : i < xs.length) :
    xs.reverse.getD (q.getD i 0) 0 = xs.getD (r.getD i 0) 0 := by
  have hl : r.length = xs.length := by simpa using h.1.length_eq
  have hlq : q.length = xs.length := by simpa using hq.1.length_eq
  have e : (q.map fun i => xs.reverse.getD i 0) = (r.map fun i => xs.getD i 0) := by
    refine List.Perm.eq_of_pairwise (le := fun a b => hgt a ≤ hgt b) ?_ (rank_up hq) (rank_up h) ((rank_vals hq).trans ((List.reverse_perm xs).trans (rank_vals h).symm))
    intro a b ha hb h1 h2
    have ha' := getD_lt hx (List.mem_reverse.1 ((rank_vals hq).mem_iff.1 ha))
    have hb' := getD_lt hx ((rank_vals h).mem_iff.1 hb)
    exact (hgt_inj ha' hb').1 (by omega)
  have h1 : (q.map fun i => xs.reverse.getD i 0).getD i 0 = xs.reverse.getD (q.getD i 0) 0 := by
    have : i < q.length := by omega
    simp [List.getD, this]
  have h2 : (r.map fun i => xs.getD i 0).getD i 0 = xs.getD (r.getD i 0) 0 := by
    have : i < r.length := by omega
    simp [List.getD, this]
  rw [← h1, ← h2, e]

/-- Two rows of floats of the call's own. -/
def TwoIn (w wr : World) (g c g2 c2 : Nat) (A B : List Nat) : Prop :=
  wr.ownsRow w.heap.size 22 1 (.slice (some ⟨g, 0, none⟩) A.length c) A.length (A.map (Value.float .f64)) ∧
  wr.ownsRow w.heap.size 22 1 (.slice (some ⟨g2, 0, none⟩) B.length c2) B.length (B.map (Value.float .f64)) ∧ g ≠ g2 ∧ Below w.heap.size w wr
theorem two_left {w wr w2 : World} {g c g2 c2 g' c' : Nat} {A B : List Nat} {x : Nat} {o : Obj} (h : TwoIn w wr g c g2 c2 A B)
    (hown : w2.ownsRow w.heap.size 22 1 (.slice (some ⟨g', 0, none⟩) (A.length + 1) c') (A.length + 1) (A.map (Value.float .f64) ++ [.float .f64 x]))
    (hg : (wr.alloc o).grownBy w2 (Value.ownBlock (.slice (some ⟨g, 0, none⟩) A.length c))) (hor : Value.ownBlock (.slice (some ⟨g, 0, none⟩) A.length c) = some g' ∨ g' = wr.heap.size + 1) :
    TwoIn w w2 g' c' g2 c2 (A ++ [x]) B := by
  obtain ⟨h1, h2, h3, h4⟩ := h
  have hb2 := (h2.lt g2 rfl).2
  have hsz := h4.size
  refine ⟨by simpa using hown, ?_, ?_, ?_⟩
  · exact (h2.alloc o).kept hg (.inr (by intro e; injection e with e; exact h3 e.symm))
  · rcases hor with e | e
    · injection e with e; rw [← e]; exact h3
    · omega
  · exact (h4.alloc hsz o).grown hg (by rw [size_new]; omega) (fun k hk => (h1.lt k hk).1)
theorem two_right {w wr w2 : World} {g c g2 c2 g' c' : Nat} {A B : List Nat} {x : Nat} {o : Obj} (h : TwoIn w wr g c g2 c2 A B)
    (hown : w2.ownsRow w.heap.size 22 1 (.slice (some ⟨g', 0, none⟩) (B.length + 1) c') (B.length + 1) (B.map (Value.float .f64) ++ [.float .f64 x]))
    (hg : (wr.alloc o).grownBy w2 (Value.ownBlock (.slice (some ⟨g2, 0, none⟩) B.length c2))) (hor : Value.ownBlock (.slice (some ⟨g2, 0, none⟩) B.length c2) = some g' ∨ g' = wr.heap.size + 1) :
    TwoIn w w2 g c g' c' A (B ++ [x]) := by
  obtain ⟨h1, h2, h3, h4⟩ := h
  have hb2 := (h1.lt g rfl).2
  have hsz := h4.size
  refine ⟨?_, by simpa using hown, ?_, ?_⟩
  · exact (h1.alloc o).kept hg (.inr (by intro e; injection e with e; exact h3 e))
  · rcases hor with e | e
    · injection e with e; rw [← e]; exact h3
    · omega
  · exact (h4.alloc hsz o).grown hg (by rw [size_new]; omega) (fun k hk => (h2.lt k hk).1)
theorem two_start (w : World) : TwoIn w ((w.alloc (.cells #[] 22)).alloc (.cells #[] 22)) w.heap.size 0 (w.heap.size + 1) 0 [] [] := by
  have b1 := (Below.refl w.heap.size w).alloc (Nat.le_refl _) (.cells #[] 22)
  refine ⟨(World.ownsRow_made w #[] 0 (Nat.le_refl _) (by omega) rfl).alloc _, ?_, by omega, b1.alloc (by simp) _⟩
  have := World.ownsRow_made (w.alloc (.cells #[] 22)) (base := w.heap.size) (e := 22) (size := 1) #[] 0 (by rw [size_new]; omega) (by omega) rfl
  rw [size_new] at this
  exact this
end Go.Proofs.Ytopmbcfecaklhaa
