/- Tables, and rows of truth values, as they come in. -/
import Derived.Test.YtgoioibfecgopaaTbC
import Derived.Test.YtgoioibfecgopaaBa3
import Derived.Lib.SmallJoins
namespace Go.Proofs.Ytgoioibfecgopaa
open Go.RowKit Go.PlainAid Go.ChangeShapes Go.WideShapes Go.Lib Go.Deep

set_option maxRecDepth 100000 in
theorem row_of_trod {H : Type} {enc : TypeId × Value → H} {W : World} {α : Type} {f : α → List D} {t e : TypeId} {k : Nat} (ht : Try.prog.underlying t = some (.slice e)) (hc : Try.prog.cellsOf e = k) (hk : 0 < k)
    (rd : ∀ (m : Nat) (cs : List Value) (y : DataW H × List MemPlace), DataW.trod enc Try.prog W 0 (fun _ => true) true m e cs = some y → ∃ x : α, HasL W cs (f x) ∧ (f x).length = k)
    {v : Value} {n : Nat} {y : DataW H × List MemPlace} (hd : DataW.trod enc Try.prog W 0 (fun _ => true) true n t [v] = some y) : ∃ xs : List α, Has W v (.row k (xs.map f)) := by
  rcases open_slice ht hd with ⟨h, _⟩ | ⟨a, len, cap, m, n', _, _, h, _, hlc, _, hm, _, hi⟩
  · simp at h
    subst h
    exact ⟨[], .nil _ _ _ _ _⟩
  · simp at h hm
    subst h hm
    rw [hc] at hi
    by_cases h0 : len = 0
    · subst h0; exact ⟨[], .nil _ _ _ _ _⟩
    · have hex : ∀ i : Nat, ∃ q : List Value × α, i < m → (∀ j, j < k → W.cell? (a.add (i * k + j)) = q.1[j]?) ∧ HasL W q.1 (f q.2) ∧ (f q.2).length = k := by
        intro i
        by_cases him : i < m
        · obtain ⟨cs', hcs, ht'⟩ := hi i him
          obtain ⟨_, hcl, hat⟩ := World.cells?_some hcs
          obtain ⟨x, hx, hl⟩ := rd _ _ _ ht'
          refine ⟨(cs', x), fun _ => ⟨fun j hj => ?_, hx, hl⟩⟩
          have := hat j hj
          rw [Go.Deep.add_add] at this
          exact this
        · obtain ⟨cs', hcs, ht'⟩ := hi 0 (by omega)
          obtain ⟨x, hx, hl⟩ := rd _ _ _ ht'
          exact ⟨(cs', x), fun h => absurd h him⟩
      obtain ⟨q, hq⟩ := Classical.axiomOfChoice hex
      obtain ⟨b, off, spot⟩ := a
      have hlen : ∀ i, i < m → (q i).1.length = k := fun i hi => by rw [(hq i hi).2.1.1]; exact (hq i hi).2.2
      have hsome : ∀ i j, i < m → j < k → ∃ c, (q i).1[j]? = some c ∧ W.cell? ((⟨b, off, spot⟩ : Addr).add (i * k + j)) = some c := fun i j hi hj => by
        obtain ⟨c, hc'⟩ := some_of_lt (l := (q i).1) (i := j) (by rw [hlen i hi]; exact hj)
        exact ⟨c, hc', by rw [(hq i hi).1 j hj]; exact hc'⟩
      have hspot : spot = none := by
        obtain ⟨c, _, hc'⟩ := hsome 0 0 (by omega) hk
        simpa [Addr.add] using World.cell?_spot hc'
      subst hspot
      refine ⟨(List.range len).map fun i => (q i).2, ?_⟩
      have e : len = (((List.range len).map fun i => (q i).2).map f).length := by simp
      have hget : ∀ (i : Nat) (ds : List D), (((List.range len).map fun i => (q i).2).map f)[i]? = some ds → i < len ∧ ds = f (q i).2 := fun i ds h => by
        have hil := lt_of_some h
        simp at hil
        refine ⟨hil, ?_⟩
        simp [List.getElem?_range hil] at h
        exact h.symm
      have := Holds.row (S := False) All W b off m k (((List.range len).map fun i => (q i).2).map f) (fun i j => (q i).1.getD j (.bool true)) (fun _ _ => All) (by omega) (by
          obtain ⟨c, _, hc'⟩ := hsome 0 0 (by omega) hk
          have := World.block_lt_of_cell? W _ hc'
          simpa [Addr.add] using this) (by omega) trivial (fun i ds h => by rw [(hget i ds h).2]; exact (hq i (by have := (hget i ds h).1; omega)).2.2)
        (fun i j hi hj => by
          rw [← e] at hi
          obtain ⟨c, h1, h2⟩ := hsome i j (by omega) hj
          rw [Go.WideShapes.add_plain] at h2
          rw [Nat.add_assoc, h2]
          simp [List.getD, h1])
        (fun i j ds d h1 h2 => by
          obtain ⟨hil, rfl⟩ := hget i ds h1
          obtain ⟨hl, fp, _, _, g⟩ := (hq i (by omega)).2.1
          have hj := lt_of_some h2
          obtain ⟨c, hc'⟩ := some_of_lt (l := (q i).1) (i := j) (by rw [hl]; exact hj)
          have := (g j c d hc' h2).weak
          simpa [List.getD, hc'] using this)
        (fun _ _ _ _ => trivial) (fun s => s.elim) (fun s => s.elim)
      rw [← e] at this
      exact this

section
variable {H : Type} {enc : TypeId × Value → H} {W : World} {n : Nat} {y : DataW H × List MemPlace}
set_option maxRecDepth 100000
theorem bools_of_trod {v : Value} (hd : DataW.trod enc Try.prog W 0 (fun _ => true) true n 65 [v] = some y) : ∃ xs : List Bool, Has W v (.row 1 (xs.map fun b => [dB b])) :=
  row_of_trod Try.underlying65 (by kernel_rfl) (by omega) (fun m cs y h => by
    obtain ⟨b, rfl, -⟩ := DataW.trod_bool Try.underlying4 h
    exact ⟨b, .mk (has_bool _ _ _ _) (hasL_nil _ _ _), rfl⟩) hd
theorem ints_has_trod {v : Value} (hd : DataW.trod enc Try.prog W 0 (fun _ => true) true n 26 [v] = some y) : ∃ xs : List Int, Has W v (dInts xs) :=
  row_of_trod Try.underlying26 (by kernel_rfl) (by omega) (fun m cs y h => by
    obtain ⟨a, rfl, -, -⟩ := DataW.trod_int Try.underlying3 h
    exact ⟨a, .mk (has_int _ _ _ _) (hasL_nil _ _ _), rfl⟩) hd
theorem sends_of_trod {v : Value} (hd : DataW.trod enc Try.prog W 0 (fun _ => true) true n 44 [v] = some y) : ∃ xs : Lks, Has W v (dLinks xs) :=
  row_of_trod Try.underlying44 (by kernel_rfl) (by omega) (fun m cs y h => by
    obtain ⟨y0, y1, k, -, hl, h0, h1⟩ := trod_struct2 Try.underlying53 h
    rw [show Try.prog.cellsOf 53 = 2 by kernel_rfl] at hl
    obtain ⟨a, ha, -, -⟩ := DataW.trod_int Try.underlying3 h0
    obtain ⟨b, hb, -, -⟩ := DataW.trod_int Try.underlying3 h1
    match cs, hl with
    | [c0, c1], _ =>
      rw [show Try.prog.cellsOf 3 = 1 by kernel_rfl] at ha hb
      simp at ha hb
      subst ha hb
      exact ⟨(a, b), .mk (has_int _ _ _ _) (.mk (has_int _ _ _ _) (hasL_nil _ _ _)), rfl⟩) hd
theorem picks_of_trod {v : Value} (hd : DataW.trod enc Try.prog W 0 (fun _ => true) true n 55 [v] = some y) : ∃ xs : List Pk, Has W v (dPicks xs) :=
  row_of_trod Try.underlying55 (by kernel_rfl) (by omega) (fun m cs y h => by
    obtain ⟨y0, y1, k, -, hl, h0, h1⟩ := trod_struct2 Try.underlying46 h
    rw [show Try.prog.cellsOf 46 = 2 by kernel_rfl] at hl
    obtain ⟨a, ha, -, -⟩ := DataW.trod_int Try.underlying3 h0
    match cs, hl with
    | [c0, c1], _ =>
      rw [show Try.prog.cellsOf 3 = 1 by kernel_rfl] at ha
      rw [show Try.prog.cellsOf 44 = 1 by kernel_rfl] at h1
      simp at ha h1
      subst ha
      obtain ⟨xs, hx⟩ := sends_of_trod h1
      exact ⟨⟨a, xs⟩, .mk (has_int _ _ _ _) (.mk hx (hasL_nil _ _ _)), rfl⟩) hd
theorem takes_of_trod {v : Value} (hd : DataW.trod enc Try.prog W 0 (fun _ => true) true n 56 [v] = some y) : ∃ xs : List Tk, Has W v (dTakes xs) :=
  row_of_trod Try.underlying56 (by kernel_rfl) (by omega) (fun m cs y h => by
    obtain ⟨y0, y1, y2, k, -, hl, h0, h1, h2⟩ := trod_struct3 Try.underlying60 h
    rw [show Try.prog.cellsOf 60 = 3 by kernel_rfl] at hl
    obtain ⟨a, ha, -, -⟩ := DataW.trod_int Try.underlying3 h0
    obtain ⟨b, hb, -, -⟩ := DataW.trod_int Try.underlying3 h1
    obtain ⟨c, hc, -, -⟩ := DataW.trod_int Try.underlying3 h2
    match cs, hl with
    | [c0, c1, c2], _ =>
      rw [show Try.prog.cellsOf 3 = 1 by kernel_rfl] at ha hb hc
      simp at ha hb hc
      subst ha hb hc
      exact ⟨⟨a, b, c⟩, .mk (has_int _ _ _ _) (.mk (has_int _ _ _ _) (.mk (has_int _ _ _ _) (hasL_nil _ _ _))), rfl⟩) hd
theorem states_of_trod {v : Value} (hd : DataW.trod enc Try.prog W 0 (fun _ => true) true n 38 [v] = some y) : ∃ xs : List St, Has W v (dStates xs) :=
  row_of_trod Try.underlying38 (by kernel_rfl) (by omega) (fun m cs y h => by
    obtain ⟨y0, y1, y2, y3, k, -, hl, h0, h1, h2, h3⟩ := Go.Joins.trod_struct4 Try.underlying58 h
    rw [show Try.prog.cellsOf 58 = 4 by kernel_rfl] at hl
    obtain ⟨a, ha, -, -⟩ := DataW.trod_int Try.underlying3 h0
    match cs, hl with
    | [c0, c1, c2, c3], _ =>
      rw [show Try.prog.cellsOf 3 = 1 by kernel_rfl] at ha
      rw [show Try.prog.cellsOf 26 = 1 by kernel_rfl] at h1
      rw [show Try.prog.cellsOf 55 = 1 by kernel_rfl] at h2
      rw [show Try.prog.cellsOf 56 = 1 by kernel_rfl] at h3
      simp at ha h1 h2 h3
      subst ha
      obtain ⟨ws, hw⟩ := ints_has_trod h1
      obtain ⟨ps, hp⟩ := picks_of_trod h2
      obtain ⟨ts, ht⟩ := takes_of_trod h3
      exact ⟨⟨a, ws, ps, ts⟩, st_hasL (s := ⟨a, ws, ps, ts⟩) hw hp ht, rfl⟩) hd
theorem tab_of_trod {v : Value} (hd : DataW.trod enc Try.prog W 0 (fun _ => true) true n 22 [v] = some y) : ∃ M : Tab, Has W v (dTab M) :=
  row_of_trod Try.underlying22 (by kernel_rfl) (by omega) (fun m cs y h => by
    obtain ⟨y0, y1, k, -, hl, h0, h1⟩ := trod_struct2 Try.underlying40 h
    rw [show Try.prog.cellsOf 40 = 2 by kernel_rfl] at hl
    obtain ⟨a, ha, -, -⟩ := DataW.trod_int Try.underlying3 h0
    match cs, hl with
    | [c0, c1], _ =>
      rw [show Try.prog.cellsOf 3 = 1 by kernel_rfl] at ha
      rw [show Try.prog.cellsOf 38 = 1 by kernel_rfl] at h1
      simp at ha h1
      subst ha
      obtain ⟨xs, hx⟩ := states_of_trod h1
      exact ⟨⟨a, xs⟩, .mk (has_int _ _ _ _) (.mk hx (hasL_nil _ _ _)), rfl⟩) hd
end
set_option maxRecDepth 100000 in
theorem open_bools {H : Type} {enc : TypeId × Value → H} {W : World} {b0 : Nat} {v : Value} {d : DataW H} {ps : List MemPlace} (hval : Value.okWide Try.prog W .any b0 65 v) (hd : DataW.Trod enc Try.prog W 0 (fun _ => true) true 65 v d ps) : ∃ xs : List Bool, Has W v (.row 1 (xs.map fun b => [dB b])) := by
  obtain ⟨a, len, cap, rfl⟩ := okWide_slice Try.underlying65 hval
  obtain ⟨m, hm⟩ := hd
  exact bools_of_trod (by simpa [Value.cells] using hm)
set_option maxRecDepth 100000 in
theorem open_table {H : Type} {enc : TypeId × Value → H} {W : World} {b0 : Nat} {v : Value} {d : DataW H} {ps : List MemPlace} (hval : Value.okWide Try.prog W .any b0 22 v) (hd : DataW.Trod enc Try.prog W 0 (fun _ => true) true 22 v d ps) : ∃ M : Tab, Has W v (dTab M) := by
  obtain ⟨a, len, cap, rfl⟩ := okWide_slice Try.underlying22 hval
  obtain ⟨m, hm⟩ := hd
  exact tab_of_trod (by simpa [Value.cells] using hm)
end Go.Proofs.Ytgoioibfecgopaa
