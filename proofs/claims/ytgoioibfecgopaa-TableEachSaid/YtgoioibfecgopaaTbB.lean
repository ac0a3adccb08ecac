/- Tables in memory. -/
import Derived.Test.YtgoioibfecgopaaBa4
import Derived.Test.YtgoioibfecgopaaTbA
namespace Go.Proofs.Ytgoioibfecgopaa
open Go.RowKit Go.PlainAid

def Pk.d (p : Pk) : List D := [dI p.next, dLinks p.sends]
def Tk.d (t : Tk) : List D := [dI t.src, dI t.letter, dI t.next]
def dPicks (l : List Pk) : D := .row 2 (l.map Pk.d)
def dTakes (l : List Tk) : D := .row 3 (l.map Tk.d)
def St.d (s : St) : List D := [dI s.mode, dInts s.waits, dPicks s.picks, dTakes s.takes]
def dStates (l : List St) : D := .row 4 (l.map St.d)
def Nd.d (x : Nd) : List D := [dI x.start, dStates x.states]
def dTab (M : Tab) : D := .row 2 (M.map Nd.d)
def Pl.d (p : Pl) : List D := [dI p.st.mode, dInts p.st.waits, dPicks p.st.picks, dTakes p.st.takes, dI p.node, dStates p.all]
def dPls (l : List Pl) : D := .row 6 (l.map Pl.d)

theorem hasL_pk {w : World} {cs : List Value} {p : Pk} (h : HasL w cs p.d) : ∃ v, cs = [.int .i64 p.next, v] ∧ Has w v (dLinks p.sends) := by
  obtain ⟨c, r, rfl, h1, h⟩ := h.cons
  obtain ⟨c2, r, rfl, h2, h⟩ := HasL.cons h
  obtain rfl := HasL.nil h
  obtain rfl := Holds.val h1
  exact ⟨_, rfl, h2⟩
theorem hasL_tk {w : World} {cs : List Value} {t : Tk} (h : HasL w cs t.d) : cs = [.int .i64 t.src, .int .i64 t.letter, .int .i64 t.next] := by
  obtain ⟨c, r, rfl, h1, h⟩ := h.cons
  obtain ⟨c2, r, rfl, h2, h⟩ := HasL.cons h
  obtain ⟨c3, r, rfl, h3, h⟩ := HasL.cons h
  obtain rfl := HasL.nil h
  obtain rfl := Holds.val h1
  obtain rfl := Holds.val h2
  obtain rfl := Holds.val h3
  rfl
theorem hasL_st {w : World} {cs : List Value} {s : St} (h : HasL w cs s.d) : ∃ v1 v2 v3, cs = [.int .i64 s.mode, v1, v2, v3] ∧ Has w v1 (dInts s.waits) ∧ Has w v2 (dPicks s.picks) ∧ Has w v3 (dTakes s.takes) := by
  obtain ⟨c, r, rfl, h1, h⟩ := h.cons
  obtain ⟨c2, r, rfl, h2, h⟩ := HasL.cons h
  obtain ⟨c3, r, rfl, h3, h⟩ := HasL.cons h
  obtain ⟨c4, r, rfl, h4, h⟩ := HasL.cons h
  obtain rfl := HasL.nil h
  obtain rfl := Holds.val h1
  exact ⟨_, _, _, rfl, h2, h3, h4⟩
theorem hasL_nd {w : World} {cs : List Value} {x : Nd} (h : HasL w cs x.d) : ∃ v, cs = [.int .i64 x.start, v] ∧ Has w v (dStates x.states) := by
  obtain ⟨c, r, rfl, h1, h⟩ := h.cons
  obtain ⟨c2, r, rfl, h2, h⟩ := HasL.cons h
  obtain rfl := HasL.nil h
  obtain rfl := Holds.val h1
  exact ⟨_, rfl, h2⟩
theorem hasL_pl {w : World} {cs : List Value} {p : Pl} (h : HasL w cs p.d) : ∃ v1 v2 v3 v4, cs = [.int .i64 p.st.mode, v1, v2, v3, .int .i64 p.node, v4] ∧ Has w v1 (dInts p.st.waits) ∧ Has w v2 (dPicks p.st.picks) ∧ Has w v3 (dTakes p.st.takes) ∧ Has w v4 (dStates p.all) := by
  obtain ⟨c, r, rfl, h1, h⟩ := h.cons
  obtain ⟨c2, r, rfl, h2, h⟩ := HasL.cons h
  obtain ⟨c3, r, rfl, h3, h⟩ := HasL.cons h
  obtain ⟨c4, r, rfl, h4, h⟩ := HasL.cons h
  obtain ⟨c5, r, rfl, h5, h⟩ := HasL.cons h
  obtain ⟨c6, r, rfl, h6, h⟩ := HasL.cons h
  obtain rfl := HasL.nil h
  obtain rfl := Holds.val h1
  obtain rfl := Holds.val h5
  exact ⟨_, _, _, _, rfl, h2, h3, h4, h6⟩
theorem pl_hasL {w : World} {p : Pl} {v1 v2 v3 v4 : Value} (h1 : Has w v1 (dInts p.st.waits)) (h2 : Has w v2 (dPicks p.st.picks)) (h3 : Has w v3 (dTakes p.st.takes)) (h4 : Has w v4 (dStates p.all)) : HasL w [.int .i64 p.st.mode, v1, v2, v3, .int .i64 p.node, v4] p.d :=
  .mk (has_int _ _ _ _) (.mk h1 (.mk h2 (.mk h3 (.mk (has_int _ _ _ _) (.mk h4 (hasL_nil _ _ _))))))
theorem st_hasL {w : World} {s : St} {v1 v2 v3 : Value} (h1 : Has w v1 (dInts s.waits)) (h2 : Has w v2 (dPicks s.picks)) (h3 : Has w v3 (dTakes s.takes)) : HasL w [.int .i64 s.mode, v1, v2, v3] s.d :=
  .mk (has_int _ _ _ _) (.mk h1 (.mk h2 (.mk h3 (hasL_nil _ _ _))))

theorem slice_of {w : World} {v : Value} {n : Nat} {α : Type} {f : α → List D} {xs : List α} (h : Has w v (.row n (xs.map f))) : ∃ a c, v = .slice a xs.length c := by
  obtain ⟨a, c, rfl⟩ := Holds.len h
  exact ⟨a, c, by rw [List.length_map]⟩
/-- An element's cells, by name. -/
theorem cells_of {w : World} {v : Value} {n i : Nat} {α : Type} {f : α → List D} {xs : List α} {x : α} (h : Has w v (.row n (xs.map f))) (hx : xs[i]? = some x) :
    ∃ b off cap, v = .slice (some ⟨b, off, none⟩) xs.length cap ∧ b < w.heap.size ∧ xs.length ≤ cap ∧ ∃ cs, HasL w cs (f x) ∧ ∀ j c, cs[j]? = some c → w.cell? ⟨b, off + i * n + j, none⟩ = some c := by
  obtain ⟨b, off, cap, rfl, h1, h2, _, cs, h3, h4⟩ := Has.at (i := i) (ds := f x) h (by simp [hx])
  rw [List.length_map] at h2
  exact ⟨b, off, cap, by rw [List.length_map], h1, h2, cs, h3, h4⟩
theorem nd_cells {w : World} {v : Value} {M : Tab} {i : Nat} {x : Nd} (h : Has w v (dTab M)) (hx : M[i]? = some x) :
    ∃ b off cap vs, v = .slice (some ⟨b, off, none⟩) M.length cap ∧ b < w.heap.size ∧ M.length ≤ cap ∧ w.cell? ⟨b, off + i * 2, none⟩ = some (.int .i64 x.start) ∧ w.cell? ⟨b, off + i * 2 + 1, none⟩ = some vs ∧ Has w vs (dStates x.states) := by
  obtain ⟨b, off, cap, rfl, h1, h2, cs, h3, h4⟩ := cells_of h hx
  obtain ⟨v, rfl, h5⟩ := hasL_nd h3
  exact ⟨b, off, cap, v, rfl, h1, h2, h4 0 _ rfl, h4 1 _ rfl, h5⟩
theorem st_cells {w : World} {v : Value} {l : List St} {i : Nat} {s : St} (h : Has w v (dStates l)) (hx : l[i]? = some s) :
    ∃ b off cap v1 v2 v3, v = .slice (some ⟨b, off, none⟩) l.length cap ∧ b < w.heap.size ∧ l.length ≤ cap ∧ w.cell? ⟨b, off + i * 4, none⟩ = some (.int .i64 s.mode) ∧ w.cell? ⟨b, off + i * 4 + 1, none⟩ = some v1 ∧ w.cell? ⟨b, off + i * 4 + 2, none⟩ = some v2 ∧
      w.cell? ⟨b, off + i * 4 + 3, none⟩ = some v3 ∧ Has w v1 (dInts s.waits) ∧ Has w v2 (dPicks s.picks) ∧ Has w v3 (dTakes s.takes) := by
  obtain ⟨b, off, cap, rfl, h1, h2, cs, h3, h4⟩ := cells_of h hx
  obtain ⟨v1, v2, v3, rfl, h5, h6, h7⟩ := hasL_st h3
  exact ⟨b, off, cap, v1, v2, v3, rfl, h1, h2, h4 0 _ rfl, h4 1 _ rfl, h4 2 _ rfl, h4 3 _ rfl, h5, h6, h7⟩
theorem pk_cells {w : World} {v : Value} {l : List Pk} {i : Nat} {p : Pk} (h : Has w v (dPicks l)) (hx : l[i]? = some p) :
    ∃ b off cap v1, v = .slice (some ⟨b, off, none⟩) l.length cap ∧ b < w.heap.size ∧ l.length ≤ cap ∧ w.cell? ⟨b, off + i * 2, none⟩ = some (.int .i64 p.next) ∧ w.cell? ⟨b, off + i * 2 + 1, none⟩ = some v1 ∧ Has w v1 (dLinks p.sends) := by
  obtain ⟨b, off, cap, rfl, h1, h2, cs, h3, h4⟩ := cells_of h hx
  obtain ⟨v, rfl, h5⟩ := hasL_pk h3
  exact ⟨b, off, cap, v, rfl, h1, h2, h4 0 _ rfl, h4 1 _ rfl, h5⟩
theorem tk_cells {w : World} {v : Value} {l : List Tk} {i : Nat} {t : Tk} (h : Has w v (dTakes l)) (hx : l[i]? = some t) :
    ∃ b off cap, v = .slice (some ⟨b, off, none⟩) l.length cap ∧ b < w.heap.size ∧ l.length ≤ cap ∧ w.cell? ⟨b, off + i * 3, none⟩ = some (.int .i64 t.src) ∧ w.cell? ⟨b, off + i * 3 + 1, none⟩ = some (.int .i64 t.letter) ∧ w.cell? ⟨b, off + i * 3 + 2, none⟩ = some (.int .i64 t.next) := by
  obtain ⟨b, off, cap, rfl, h1, h2, cs, h3, h4⟩ := cells_of h hx
  obtain rfl := hasL_tk h3
  exact ⟨b, off, cap, rfl, h1, h2, h4 0 _ rfl, h4 1 _ rfl, h4 2 _ rfl⟩
theorem zero_pl (w : World) : HasL w [.int .i64 0, .slice none 0 0, .slice none 0 0, .slice none 0 0, .int .i64 0, .slice none 0 0] Pl.zero.d :=
  pl_hasL (p := Pl.zero) (.nil _ _ _ _ _) (.nil _ _ _ _ _) (.nil _ _ _ _ _) (.nil _ _ _ _ _)
end Go.Proofs.Ytgoioibfecgopaa
