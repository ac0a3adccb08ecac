/- What lies in memory while Dist runs. -/
import Derived.Test.YtegpdfocfohkcaaGrK
import Derived.Test.YtegpdfocfohkcaaGrL
import Derived.Deep.AppendLies
import Derived.Lib.SmallJoins
namespace Go.Proofs.Ytegpdfocfohkcaa
open Go.RowKit Go.PlainAid

def ivs (D : List Int) : List Value := D.map (Value.int .i64)
def nvs (Q : List Nat) : List Value := Q.map fun n : Nat => Value.int .i64 (n : Int)
theorem ivs_get {D : List Int} {y : Nat} (h : y < D.length) : (ivs D)[y]? = some (.int .i64 (D.getD y (-1))) := by simp [ivs, List.getD, h]
theorem nvs_get {Q : List Nat} {y : Nat} (h : y < Q.length) : (nvs Q)[y]? = some (.int .i64 ((Q.getD y 0 : Nat) : Int)) := by simp [nvs, List.getD, h]

structure DAt (w : World) (T : TypeId) (N : Int) (v : Value) (g : Nat) (wr : World) (D : List Int) : Prop where
  bel : Below w.heap.size w wr
  box : wr.heap[w.heap.size]? = some (.cells #[.int .i64 N, v] T (0, 0))
  dist : wr.heap[g]? = some (.cells (ivs D).toArray 3 (0, 0))
  gt : w.heap.size < g
theorem DAt.lt {w wr : World} {T : TypeId} {N : Int} {v : Value} {g : Nat} {D : List Int} (h : DAt w T N v g wr D) : g < wr.heap.size := lt_of_block h.dist
theorem DAt.size {w wr : World} {T : TypeId} {N : Int} {v : Value} {g : Nat} {D : List Int} (h : DAt w T N v g wr D) : w.heap.size < wr.heap.size := lt_of_block h.box
theorem DAt.box0 {w wr : World} {T : TypeId} {N : Int} {v : Value} {g : Nat} {D : List Int} (h : DAt w T N v g wr D) : wr.cell? ⟨w.heap.size, 0, none⟩ = some (.int .i64 N) := (cell_of_row wr _ 0 _ _ (0, 0) h.box).trans rfl
theorem DAt.box1 {w wr : World} {T : TypeId} {N : Int} {v : Value} {g : Nat} {D : List Int} (h : DAt w T N v g wr D) : wr.cell? ⟨w.heap.size, 1, none⟩ = some v := (cell_of_row wr _ 1 _ _ (0, 0) h.box).trans rfl
theorem DAt.cell {w wr : World} {T : TypeId} {N : Int} {v : Value} {g : Nat} {D : List Int} (h : DAt w T N v g wr D) {y : Nat} (hy : y < D.length) : wr.cell? ⟨g, y, none⟩ = some (.int .i64 (D.getD y (-1))) :=
  (cell_of_row wr _ y _ _ (0, 0) h.dist).trans (by simpa using ivs_get hy)
theorem DAt.free {w wr : World} {T : TypeId} {N : Int} {v : Value} {g : Nat} {D : List Int} (h : DAt w T N v g wr D) (y : Nat) : wr.frozen? ⟨g, y, none⟩ = false := by simp [World.frozen?, h.dist]
theorem DAt.grown {w wr w' : World} {T : TypeId} {N : Int} {v : Value} {g : Nat} {D : List Int} (h : DAt w T N v g wr D) {row : Option Nat} (hg : wr.grownBy w' row) (hr : ∀ k, row = some k → g < k) : DAt w T N v g w' D := by
  have hlt := h.lt
  have hsz := h.size
  have hgt := h.gt
  refine ⟨h.bel.grown hg (Nat.le_of_lt hsz) (fun k hk => by have := hr k hk; omega), ?_, ?_, hgt⟩
  · rw [hg.block _ hsz (fun e => by have := hr _ e.symm; omega)]; exact h.box
  · rw [hg.block _ hlt (fun e => by have := hr _ e.symm; omega)]; exact h.dist
theorem DAt.below {w wr w' : World} {T : TypeId} {N : Int} {v : Value} {g : Nat} {D : List Int} (h : DAt w T N v g wr D) (hb : Below wr.heap.size wr w') : DAt w T N v g w' D :=
  h.grown (row := none) ⟨hb.os, hb.tape, hb.output, hb.size, fun k hk _ => hb.block k hk⟩ (fun k hk => by cases hk)
theorem DAt.set {w wr : World} {T : TypeId} {N : Int} {v : Value} {g : Nat} {D : List Int} (h : DAt w T N v g wr D) (z : Nat) (x : Int) : DAt w T N v g (wr.setCell ⟨g, z, none⟩ (.int .i64 x)) (D.set z x) := by
  have hgt := h.gt
  refine ⟨h.bel.setCell (by simp; omega) _, ?_, ?_, hgt⟩
  · rw [Below.heap_setCell _ _ _ _ (by simp; omega)]; exact h.box
  · rw [setCell_eq_setRow wr g z _ _ (0, 0) _ h.dist, setRow_heap wr g _ _ _ _ h.dist]
    congr 2
    apply Array.ext'
    simp [ivs, List.map_set]

def QAt (g : Nat) (wr : World) (q : Value) (Q : List Nat) : Prop := wr.ownsRow (g + 1) 3 1 q Q.length (nvs Q)
theorem QAt.grown {g : Nat} {wr w' : World} {q : Value} {Q : List Nat} (h : QAt g wr q Q) (hb : Below wr.heap.size wr w') : QAt g w' q Q :=
  h.kept (row := none) ⟨hb.os, hb.tape, hb.output, hb.size, fun k hk _ => hb.block k hk⟩ (by cases hv : q.ownBlock <;> simp)
theorem QAt.set {g : Nat} {wr : World} {q : Value} {Q : List Nat} (h : QAt g wr q Q) (z : Nat) (u : Value) : QAt g (wr.setCell ⟨g, z, none⟩ u) q Q := ownsRow_setCell_below h (by simp) _
theorem QAt.one (g : Nat) (wr : World) (a : Nat) (hg : g < wr.heap.size) : QAt g (wr.alloc (.cells #[.int .i64 (a : Int)] 3)) (.slice (some ⟨wr.heap.size, 0, none⟩) 1 1) [a] :=
  ⟨rfl, .inr ⟨wr.heap.size, 1, _, rfl, by omega, heap_alloc_new wr _, Nat.le_refl _, by unfold maxLen; omega, rfl, by simp [nvs]⟩⟩
theorem QAt.form {g : Nat} {wr : World} {q : Value} {Q : List Nat} (h : QAt g wr q Q) (hp : 0 < Q.length) : ∃ b c, q = .slice (some ⟨b, 0, none⟩) Q.length c ∧ g < b ∧ b < wr.heap.size ∧ ∀ j, j < Q.length → wr.cell? ⟨b, j, none⟩ = some (.int .i64 ((Q.getD j 0 : Nat) : Int)) := by
  obtain ⟨b, c, rfl⟩ := Go.Joins.ownsRow_form h hp
  have hl := h.lt b rfl
  refine ⟨b, c, rfl, by omega, hl.2, fun j hj => ?_⟩
  have := h.cells (g := b) rfl j _ (nvs_get hj)
  have e : (⟨b, 0, none⟩ : Addr).add j = ⟨b, j, none⟩ := by unfold Addr.add; split <;> simp_all
  rw [e] at this; exact this

theorem DAt.ints {w wr : World} {T : TypeId} {N : Nat} {v : Value} {g : Nat} {D : List Int} (h : DAt w T N v g wr D) (hl : D.length = N) (h1 : 1 ≤ N) : IntsAt wr (.slice (some ⟨g, 0, none⟩) N N) D := by
  refine .inr ⟨g, 0, N, N, rfl, hl, h1, h.lt, Nat.le_refl _, fun i hi => ?_⟩
  rw [Nat.zero_add, h.cell (by omega)]
  simp [List.getD, show i < D.length by omega]

/-- The links that are gone through, apart from the queue and from what is told. -/
def OAt (g : Nat) (wr : World) (q u : Value) (O : List Int) : Prop :=
  (∃ a cap, u = .slice a 0 cap ∧ O = []) ∨
  ∃ b off len cap, u = .slice (some ⟨b, off, none⟩) len cap ∧ O.length = len ∧ 0 < len ∧ b < wr.heap.size ∧ b ≠ g ∧ q.ownBlock ≠ some b ∧ len ≤ cap ∧ ∀ i, i < len → wr.cell? ⟨b, off + i, none⟩ = some (.int .i64 (O.getD i 0))
theorem OAt.set {g : Nat} {wr : World} {q u : Value} {O : List Int} (h : OAt g wr q u O) (z : Nat) (x : Value) : OAt g (wr.setCell ⟨g, z, none⟩ x) q u O := by
  rcases h with h | ⟨b, off, len, cap, h1, h2, h3, h4, h5, h6, h7, h8⟩
  · exact .inl h
  · exact .inr ⟨b, off, len, cap, h1, h2, h3, by rw [World.size_setCell]; exact h4, h5, h6, h7, fun i hi => (World.cell?_setCell_other wr _ _ _ (by simp <;> omega)).trans (h8 i hi)⟩
theorem OAt.grown {g gq H : Nat} {wr w1 w' : World} {q u : Value} {O : List Int} {c n : Nat} (h : OAt g wr q u O) (hb : Below wr.heap.size wr w1) (hg : w1.grownBy w' q.ownBlock) (hq : q.ownBlock = some gq ∨ gq = H) (hH : wr.heap.size ≤ H) :
    OAt g w' (.slice (some ⟨gq, 0, none⟩) n c) u O := by
  rcases h with h | ⟨b, off, len, cap, h1, h2, h3, h4, h5, h6, h7, h8⟩
  · exact .inl h
  · refine .inr ⟨b, off, len, cap, h1, h2, h3, Nat.lt_of_lt_of_le h4 (Nat.le_trans hb.size hg.size), h5, ?_, h7, fun i hi => ?_⟩
    · intro e
      have e' : gq = b := by simpa [Value.ownBlock] using e
      rcases hq with hq | hq
      · exact h6 (by rw [hq, e'])
      · omega
    · exact hg.cell ((hb.cell (by exact h4)).trans (h8 i hi)) (fun e => h6 e.symm)
theorem OAt.start {g : Nat} {w0 wr : World} {q u : Value} {O : List Int} (h : IntsAt wr u O) (hf : ∀ k, u.ownBlock = some k → w0.heap.size ≤ k) (hg : g < w0.heap.size) (hq : ∀ k, q.ownBlock = some k → k < w0.heap.size) : OAt g wr q u O := by
  rcases h with h | ⟨b, off, len, cap, rfl, h2, h3, h4, h5, h6⟩
  · exact .inl h
  · have := hf b rfl
    exact .inr ⟨b, off, len, cap, rfl, h2, h3, h4, by omega, fun e => by have := hq _ e; omega, h5, h6⟩

theorem outs_get {L : Lks} {n : Int} {m : Nat} (h : m < (sel 0 L n).length) : ∃ l : Nat, (sel 0 L n).getD m 0 = (l : Int) ∧ l < L.length ∧ (lk L l).1 = n := by
  have hm : (sel 0 L n).getD m 0 ∈ sel 0 L n := by simp only [List.getD, List.getElem?_eq_getElem h, Option.getD_some]; exact List.getElem_mem h
  obtain ⟨i, h1, h2, h3⟩ := mem_selL.1 hm
  exact ⟨i, h3, h1, by simpa [sideOf] using h2⟩
theorem outs_all {L : Lks} {n z : Int} (h : (n, z) ∈ L) : ∃ m, m < (sel 0 L n).length ∧ (lk L ((sel 0 L n).getD m 0).toNat).2 = z := by
  obtain ⟨l, hl, he⟩ := mem_lk h
  have hm : (l : Int) ∈ sel 0 L n := mem_selL.2 ⟨l, hl, by simp [sideOf, he], rfl⟩
  obtain ⟨m, hml, hme⟩ := List.getElem_of_mem hm
  refine ⟨m, hml, ?_⟩
  have : (sel 0 L n).getD m 0 = (l : Int) := by simp [List.getD, hml, hme]
  rw [this, Int.toNat_natCast, he]
end Go.Proofs.Ytegpdfocfohkcaa
