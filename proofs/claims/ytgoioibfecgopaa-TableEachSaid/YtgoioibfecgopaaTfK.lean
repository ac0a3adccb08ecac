/- What a table that may be tells of a state. -/
import Derived.Test.YtgoioibfecgopaaTfA
namespace Go.Proofs.Ytgoioibfecgopaa
open Go.RowKit Go.PlainAid

theorem stAt_of {M : Tab} {n s : Nat} {x : Nd} {t : St} (hx : M[n]? = some x) (ht : x.states[s]? = some t) : stAt M n s = t := by
  unfold stAt; rw [plAt_of hx ht]
theorem smallSt_at {M : Tab} (h : SmallTab M) (n s : Int) : SmallSt (stAt M n s) := by
  rcases is_cases M n s with hn | ⟨n', s', x, t, rfl, rfl, hx, ht⟩
  · unfold stAt; rw [plAt_no hn]; simp [Pl.zero, St.zero, SmallSt]
  · rw [stAt_of hx ht]; exact (h.2 x (List.mem_of_getElem? hx)).2 t (List.mem_of_getElem? ht)
theorem place_ok {N : Int} {L : Lks} {M : Tab} (h : TabOK N L M) {n s : Nat} {x : Nd} (hx : M[n]? = some x) (hs : s < x.states.length) : PlaceOK L ⟨stAt M n s, n, x.states⟩ := by
  obtain ⟨t, ht⟩ := some_of_lt hs
  rw [stAt_of hx ht]
  exact (h.2.2 n x hx).2.2.1 t (List.mem_of_getElem? ht)
theorem taken_ok {N : Int} {L : Lks} {M : Tab} (h : TabOK N L M) {n s : Nat} {x : Nd} (hx : M[n]? = some x) (hs : s < x.states.length) (f c : Int) :
    ∃ s' : Nat, takenAt M n s f c = s' ∧ s' < x.states.length ∧ ((f, (n : Int)) ∉ L → s' = s) := by
  have hT := (place_ok h hx hs).2.2.2
  unfold takenAt
  have key : ∀ (l : List Tk), (∀ u ∈ l, u ∈ (stAt M n s).takes) → ∃ s' : Nat, takeFrom l s f c = s' ∧ s' < x.states.length ∧ ((f, (n : Int)) ∉ L → s' = s) := by
    intro l
    induction l with
    | nil => intro _; exact ⟨s, rfl, hs, fun _ => rfl⟩
    | cons u r ih =>
      intro hm
      unfold takeFrom
      split
      · next hu =>
        obtain ⟨j, hj⟩ := List.mem_iff_getElem?.1 (hm u (List.mem_cons_self ..))
        obtain ⟨hg, hh, _⟩ := hT j u hj
        obtain ⟨q, hq⟩ := Int.eq_ofNat_of_zero_le hh.1
        have hql : q < x.states.length := by have h1 := hh.2; have h1 : u.next < (x.states.length : Int) := h1; omega
        refine ⟨q, hq, hql, fun hno => ?_⟩
        have hg1 := hg.1
        rw [hu.1] at hg1
        exact absurd hg1 hno
      · exact ih (fun v hv => hm v (List.mem_cons_of_mem _ hv))
  exact key _ (fun u hu => hu)
/-- A node's states, by the table's address. -/
theorem nd_at {w : World} {b o len cap n : Nat} {M : Tab} {x : Nd} (h : Has w (.slice (some ⟨b, o, none⟩) len cap) (dTab M)) (hx : M[n]? = some x) : ∃ sa sc, w.cell? ⟨b, o + n * 2 + 1, none⟩ = some (.slice sa x.states.length sc) ∧ Has w (.slice sa x.states.length sc) (dStates x.states) := by
  obtain ⟨b', o', cap', vs, e, _, _, _, y1, hS⟩ := nd_cells h hx
  simp only [Value.slice.injEq, Option.some.injEq, Addr.mk.injEq] at e
  obtain ⟨⟨rfl, rfl, _⟩, _⟩ := e
  obtain ⟨sa, sc, rfl⟩ := slice_of hS
  exact ⟨sa, sc, y1, hS⟩
theorem link_at {w : World} {sa : Option Addr} {sl sc i : Nat} {l : Lks} {p : Int × Int} (h : Has w (.slice sa sl sc) (dLinks l)) (hx : l[i]? = some p) : ∃ b o, sa = some ⟨b, o, none⟩ ∧ w.cell? ⟨b, o + i * 2, none⟩ = some (.int .i64 p.1) ∧ w.cell? ⟨b, o + i * 2 + 1, none⟩ = some (.int .i64 p.2) := by
  obtain ⟨b', o', cap', e, _, _, y0, y1⟩ := link_cells h hx
  simp only [Value.slice.injEq] at e
  exact ⟨b', o', e.1, y0, y1⟩
theorem int_at {w : World} {sa : Option Addr} {sl sc i : Nat} {l : List Int} {p : Int} (h : Has w (.slice sa sl sc) (dInts l)) (hx : l[i]? = some p) : ∃ b o, sa = some ⟨b, o, none⟩ ∧ w.cell? ⟨b, o + i, none⟩ = some (.int .i64 p) := by
  obtain ⟨b', o', cap', e, _, y0⟩ := int_cells h hx
  simp only [Value.slice.injEq] at e
  exact ⟨b', o', e.1, y0⟩
end Go.Proofs.Ytgoioibfecgopaa
