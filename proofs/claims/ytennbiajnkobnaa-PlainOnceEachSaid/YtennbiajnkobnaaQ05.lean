/- Texts put together. -/
import Derived.Test.YtennbiajnkobnaaQ01
import Derived.Test.YtennbiajnkobnaaQ02
import Derived.Test.YtennbiajnkobnaaQ04
import Derived.Lib.SmallJoins
import Derived.Handy
import Derived.WalkSpells
import Derived.WalkLawsBesides
namespace Go.Proofs.Ytennbiajnkobnaa
open Go.RowKit Go.PlainAid Go.ChangeShapes Go.WideShapes Go.Lib Go.Deep
set_option maxRecDepth 100000 in
theorem row_of_trod {H : Type} {enc : TypeId × Value → H} {W : World} {α : Type} {f : α → List D} {t e : TypeId} {k : Nat} (ht : Try.prog.underlying t = some (.slice e)) (hc : Try.prog.cellsOf e = k) (hk : 0 < k)
    (rd : ∀ (m : Nat) (cs : List Value) (y : DataW H × List MemPlace), DataW.trod enc Try.prog W 0 (fun _ => true) true m e cs = some y → ∃ x : α, HasL W cs (f x) ∧ (f x).length = k)
    {v : Value} {n : Nat} {y : DataW H × List MemPlace} (hd : DataW.trod enc Try.prog W 0 (fun _ => true) true n t [v] = some y) : ∃ xs : List α, Has W v (.row k (xs.map f)) := by
  rcases open_slice ht hd with ⟨h, _⟩ | ⟨a, len, cap, m, n', _, _, h, _, hlc, _, hm, _, hi⟩
  · simp at h
    subst h
    exact ⟨[], .nil _ _ _ _ _⟩
  · simp at h hm
    subst h hm
    rw [hc] at hi
    by_cases h0 : len = 0
    · subst h0; exact ⟨[], .nil _ _ _ _ _⟩
    · have hex : ∀ i : Nat, ∃ q : List Value × α, i < m → (∀ j, j < k → W.cell? (a.add (i * k + j)) = q.1[j]?) ∧ HasL W q.1 (f q.2) ∧ (f q.2).length = k := by
        intro i
        by_cases him : i < m
        · obtain ⟨cs', hcs, ht'⟩ := hi i him
          obtain ⟨_, hcl, hat⟩ := World.cells?_some hcs
          obtain ⟨x, hx, hl⟩ := rd _ _ _ ht'
          refine ⟨(cs', x), fun _ => ⟨fun j hj => ?_, hx, hl⟩⟩
          have := hat j hj
          rw [Go.Deep.add_add] at this
          exact this
        · obtain ⟨cs', hcs, ht'⟩ := hi 0 (by omega)
          obtain ⟨x, hx, hl⟩ := rd _ _ _ ht'
          exact ⟨(cs', x), fun h => absurd h him⟩
      obtain ⟨q, hq⟩ := Classical.axiomOfChoice hex
      obtain ⟨b, off, spot⟩ := a
      have hlen : ∀ i, i < m → (q i).1.length = k := fun i hi => by rw [(hq i hi).2.1.1]; exact (hq i hi).2.2
      have hsome : ∀ i j, i < m → j < k → ∃ c, (q i).1[j]? = some c ∧ W.cell? ((⟨b, off, spot⟩ : Addr).add (i * k + j)) = some c := fun i j hi hj => by
        obtain ⟨c, hc'⟩ := some_of_lt (l := (q i).1) (i := j) (by rw [hlen i hi]; exact hj)
        exact ⟨c, hc', by rw [(hq i hi).1 j hj]; exact hc'⟩
      have hspot : spot = none := by
        obtain ⟨c, _, hc'⟩ := hsome 0 0 (by omega) hk
        simpa [Addr.add] using World.cell?_spot hc'
      subst hspot
      refine ⟨(List.range len).map fun i => (q i).2, ?_⟩
      have e : len = (((List.range len).map fun i => (q i).2).map f).length := by simp
      have hget : ∀ (i : Nat) (ds : List D), (((List.range len).map fun i => (q i).2).map f)[i]? = some ds → i < len ∧ ds = f (q i).2 := fun i ds h => by
        have hil := lt_of_some h
        simp at hil
        refine ⟨hil, ?_⟩
        simp [List.getElem?_range hil] at h
        exact h.symm
      have := Holds.row (S := False) All W b off m k (((List.range len).map fun i => (q i).2).map f) (fun i j => (q i).1.getD j (.bool true)) (fun _ _ => All) (by omega) (by
          obtain ⟨c, _, hc'⟩ := hsome 0 0 (by omega) hk
          have := World.block_lt_of_cell? W _ hc'
          simpa [Addr.add] using this) (by omega) trivial (fun i ds h => by rw [(hget i ds h).2]; exact (hq i (by have := (hget i ds h).1; omega)).2.2)
        (fun i j hi hj => by
          rw [← e] at hi
          obtain ⟨c, h1, h2⟩ := hsome i j (by omega) hj
          rw [Go.WideShapes.add_plain] at h2
          rw [Nat.add_assoc, h2]
          simp [List.getD, h1])
        (fun i j ds d h1 h2 => by
          obtain ⟨hil, rfl⟩ := hget i ds h1
          obtain ⟨hl, fp, _, _, g⟩ := (hq i (by omega)).2.1
          have hj := lt_of_some h2
          obtain ⟨c, hc'⟩ := some_of_lt (l := (q i).1) (i := j) (by rw [hl]; exact hj)
          have := (g j c d hc' h2).weak
          simpa [List.getD, hc'] using this)
        (fun _ _ _ _ => trivial) (fun s => s.elim) (fun s => s.elim)
      rw [← e] at this
      exact this
section
variable {H : Type} {enc : TypeId × Value → H} {W : World} {n : Nat} {y : DataW H × List MemPlace}
set_option maxRecDepth 100000
theorem ints_has_trod {v : Value} (hd : DataW.trod enc Try.prog W 0 (fun _ => true) true n 28 [v] = some y) : ∃ xs : List Int, Has W v (dInts xs) :=
 row_of_trod Try.underlying28 (by kernel_rfl) (by omega) (fun m cs y h => by
  obtain ⟨a, rfl, -, -⟩ := DataW.trod_int Try.underlying3 h
  exact ⟨a, .mk (has_int _ _ _ _) (hasL_nil _ _ _), rfl⟩) hd
theorem sends_of_trod {v : Value} (hd : DataW.trod enc Try.prog W 0 (fun _ => true) true n 121 [v] = some y) : ∃ xs : Lks, Has W v (dLinks xs) :=
 row_of_trod Try.underlying121 (by kernel_rfl) (by omega) (fun m cs y h => by
  obtain ⟨y0, y1, k, -, hl, h0, h1⟩ := trod_struct2 Try.underlying120 h
  rw [show Try.prog.cellsOf 120 = 2 by kernel_rfl] at hl
  obtain ⟨a, ha, -, -⟩ := DataW.trod_int Try.underlying3 h0
  obtain ⟨b, hb, -, -⟩ := DataW.trod_int Try.underlying3 h1
  match cs, hl with
  | [c0, c1], _ =>
   rw [show Try.prog.cellsOf 3 = 1 by kernel_rfl] at ha hb
   simp at ha hb
   subst ha hb
   exact ⟨(a, b), .mk (has_int _ _ _ _) (.mk (has_int _ _ _ _) (hasL_nil _ _ _)), rfl⟩) hd
theorem picks_of_trod {v : Value} (hd : DataW.trod enc Try.prog W 0 (fun _ => true) true n 103 [v] = some y) : ∃ xs : List Pk, Has W v (dPicks xs) :=
 row_of_trod Try.underlying103 (by kernel_rfl) (by omega) (fun m cs y h => by
  obtain ⟨y0, y1, k, -, hl, h0, h1⟩ := trod_struct2 Try.underlying123 h
  rw [show Try.prog.cellsOf 123 = 2 by kernel_rfl] at hl
  obtain ⟨a, ha, -, -⟩ := DataW.trod_int Try.underlying3 h0
  match cs, hl with
  | [c0, c1], _ =>
   rw [show Try.prog.cellsOf 3 = 1 by kernel_rfl] at ha
   rw [show Try.prog.cellsOf 121 = 1 by kernel_rfl] at h1
   simp at ha h1
   subst ha
   obtain ⟨xs, hx⟩ := sends_of_trod h1
   exact ⟨⟨a, xs⟩, .mk (has_int _ _ _ _) (.mk hx (hasL_nil _ _ _)), rfl⟩) hd
theorem takes_of_trod {v : Value} (hd : DataW.trod enc Try.prog W 0 (fun _ => true) true n 104 [v] = some y) : ∃ xs : List Tk, Has W v (dTakes xs) :=
 row_of_trod Try.underlying104 (by kernel_rfl) (by omega) (fun m cs y h => by
  obtain ⟨y0, y1, y2, k, -, hl, h0, h1, h2⟩ := trod_struct3 Try.underlying125 h
  rw [show Try.prog.cellsOf 125 = 3 by kernel_rfl] at hl
  obtain ⟨a, ha, -, -⟩ := DataW.trod_int Try.underlying3 h0
  obtain ⟨b, hb, -, -⟩ := DataW.trod_int Try.underlying3 h1
  obtain ⟨c, hc, -, -⟩ := DataW.trod_int Try.underlying3 h2
  match cs, hl with
  | [c0, c1, c2], _ =>
   rw [show Try.prog.cellsOf 3 = 1 by kernel_rfl] at ha hb hc
   simp at ha hb hc
   subst ha hb hc
   exact ⟨⟨a, b, c⟩, .mk (has_int _ _ _ _) (.mk (has_int _ _ _ _) (.mk (has_int _ _ _ _) (hasL_nil _ _ _))), rfl⟩) hd
theorem states_of_trod {v : Value} (hd : DataW.trod enc Try.prog W 0 (fun _ => true) true n 72 [v] = some y) : ∃ xs : List St, Has W v (dStates xs) :=
 row_of_trod Try.underlying72 (by kernel_rfl) (by omega) (fun m cs y h => by
  obtain ⟨y0, y1, y2, y3, k, -, hl, h0, h1, h2, h3⟩ := Go.Joins.trod_struct4 Try.underlying106 h
  rw [show Try.prog.cellsOf 106 = 4 by kernel_rfl] at hl
  obtain ⟨a, ha, -, -⟩ := DataW.trod_int Try.underlying3 h0
  match cs, hl with
  | [c0, c1, c2, c3], _ =>
   rw [show Try.prog.cellsOf 3 = 1 by kernel_rfl] at ha
   rw [show Try.prog.cellsOf 28 = 1 by kernel_rfl] at h1
   rw [show Try.prog.cellsOf 103 = 1 by kernel_rfl] at h2
   rw [show Try.prog.cellsOf 104 = 1 by kernel_rfl] at h3
   simp at ha h1 h2 h3
   subst ha
   obtain ⟨ws, hw⟩ := ints_has_trod h1
   obtain ⟨ps, hp⟩ := picks_of_trod h2
   obtain ⟨ts, ht⟩ := takes_of_trod h3
   exact ⟨⟨a, ws, ps, ts⟩, st_hasL (s := ⟨a, ws, ps, ts⟩) hw hp ht, rfl⟩) hd
theorem tab_of_trod {v : Value} (hd : DataW.trod enc Try.prog W 0 (fun _ => true) true n 25 [v] = some y) : ∃ M : Tab, Has W v (dTab M) :=
 row_of_trod Try.underlying25 (by kernel_rfl) (by omega) (fun m cs y h => by
  obtain ⟨y0, y1, k, -, hl, h0, h1⟩ := trod_struct2 Try.underlying74 h
  rw [show Try.prog.cellsOf 74 = 2 by kernel_rfl] at hl
  obtain ⟨a, ha, -, -⟩ := DataW.trod_int Try.underlying3 h0
  match cs, hl with
  | [c0, c1], _ =>
   rw [show Try.prog.cellsOf 3 = 1 by kernel_rfl] at ha
   rw [show Try.prog.cellsOf 72 = 1 by kernel_rfl] at h1
   simp at ha h1
   subst ha
   obtain ⟨xs, hx⟩ := states_of_trod h1
   exact ⟨⟨a, xs⟩, .mk (has_int _ _ _ _) (.mk hx (hasL_nil _ _ _)), rfl⟩) hd
end
end Go.Proofs.Ytennbiajnkobnaa

namespace Go.Proofs.Ytennbiajnkobnaa
open Go.RowKit Go.PlainAid
def fresh (w : World) : Nat → Prop := fun k => w.heap.size ≤ k
theorem infoI : (Try.prog.info? 3).map (fun i => (i.zero, i.size, i.bytes)) = some (some (.int .i64 0), 1, 8) := by kernel_rfl
theorem infoSend : (Try.prog.info? 120).map (fun i => (i.zero, i.size, i.bytes)) = some (some (.agg #[.int .i64 0, .int .i64 0]), 2, 16) := by kernel_rfl
set_option maxRecDepth 100000 in
theorem clone_some (ad : Addr) (n cap : Nat) (xs : List Int) (w : World) (h : Has w (.slice (some ad) n cap) (dInts xs)) (hn : n ≤ 1000000) :
  Calls Try.prog 78 #[.slice (some ad) n cap] w fun e w' => ∃ u, e = .returned u ∧ Holds True (fresh w) w' u (dInts xs) ∧ Below w.heap.size w w' := by
 obtain ⟨i0, hi0, hz0, hz1, hz2⟩ := info_parts infoI
 have H := Lib.hid (Holds.later h (below_new w (.cells #[] 3)))
 have O := Lib.hid (Own.made (S := True) (P := fresh w) (E := 3) (n := 1) (Below.refl w.heap.size w))
 have hq := @Lib.run_eql_slice_nil Try.prog
 clear h
 go_enter Try.func78, Try.ntmps78
 go_wp2_with (at_builtin; refine app_rows rfl _ _ 28 3 i0 (.int .i64 0) 1 8 rfl Try.underlying28 hi0 hz0 hz1 hz2 rfl (by decide) True (fresh w) w _ _ [] _ 0 n cap n rfl O.out rfl (some ad) rfl H.out (flat_ints xs) (Nat.zero_add n) ?c1 ?c2 ?_)
 case c1 => unfold maxLen; omega
 case c2 => omega
 intro ao cv w' hO _
 have R := Lib.hid (show Holds True (fresh w) w' (.slice ao n cv) (dInts xs) from hO.holds fun k hk => (hO.ge k hk).1)
 have B := Lib.hid hO.bel
 clear hO
 go_wp2_with fail
 go_ret
 exact ⟨_, rfl, R.out, B.out⟩
set_option maxRecDepth 100000 in
theorem clone_none (n cap : Nat) (w : World) :
  Calls Try.prog 78 #[.slice none n cap] w fun e w' => e = .returned (.slice none 0 0) ∧ w = w' := by
 have hq := @Lib.run_eql_slice_nil Try.prog
 go_enter Try.func78, Try.ntmps78
 go_wp2_with fail
 go_ret
 exact ⟨rfl, rfl⟩
theorem clone_ints (v : Value) (xs : List Int) (w : World) (h : Has w v (dInts xs)) (hn : xs.length ≤ 1000000) :
  Calls Try.prog 78 #[v] w fun e w' => ∃ u, e = .returned u ∧ Holds True (fresh w) w' u (dInts xs) ∧ Below w.heap.size w w' := by
 obtain ⟨a, c, rfl⟩ := Holds.len h
 rw [List.length_map] at h ⊢
 cases a with
 | some ad => exact clone_some ad _ c xs w h hn
 | none =>
  refine (clone_none _ c w).mono ?_
  rintro e w' ⟨rfl, rfl⟩
  obtain rfl : xs = [] := by simpa using (Has.none h rfl).1
  exact ⟨_, rfl, .nil _ _ _ _ _, Below.refl _ _⟩
set_option maxRecDepth 100000 in
theorem cloneS_some (ad : Addr) (n cap : Nat) (xs : Lks) (w : World) (h : Has w (.slice (some ad) n cap) (dLinks xs)) (hn : n ≤ 1000000) :
  Calls Try.prog 94 #[.slice (some ad) n cap] w fun e w' => ∃ u, e = .returned u ∧ Holds True (fresh w) w' u (dLinks xs) ∧ Below w.heap.size w w' := by
 obtain ⟨i0, hi0, hz0, hz1, hz2⟩ := info_parts infoSend
 have H := Lib.hid (Holds.later h (below_new w (.cells #[] 120)))
 have O := Lib.hid (Own.made (S := True) (P := fresh w) (E := 120) (n := 2) (Below.refl w.heap.size w))
 have hq := @Lib.run_eql_slice_nil Try.prog
 clear h
 go_enter Try.func94, Try.ntmps94
 go_wp2_with (at_builtin; refine app_rows rfl _ _ 121 120 i0 (.agg #[.int .i64 0, .int .i64 0]) 2 16 rfl Try.underlying121 hi0 hz0 hz1 hz2 rfl (by decide) True (fresh w) w _ _ [] _ 0 n cap n rfl O.out rfl (some ad) rfl H.out (flat_links xs) (Nat.zero_add n) ?c1 ?c2 ?_)
 case c1 => unfold maxLen; omega
 case c2 => omega
 intro ao cv w' hO _
 have R := Lib.hid (show Holds True (fresh w) w' (.slice ao n cv) (dLinks xs) from hO.holds fun k hk => (hO.ge k hk).1)
 have B := Lib.hid hO.bel
 clear hO
 go_wp2_with fail
 go_ret
 exact ⟨_, rfl, R.out, B.out⟩
set_option maxRecDepth 100000 in
theorem cloneS_none (n cap : Nat) (w : World) :
  Calls Try.prog 94 #[.slice none n cap] w fun e w' => e = .returned (.slice none 0 0) ∧ w = w' := by
 have hq := @Lib.run_eql_slice_nil Try.prog
 go_enter Try.func94, Try.ntmps94
 go_wp2_with fail
 go_ret
 exact ⟨rfl, rfl⟩
theorem clone_sends (v : Value) (xs : Lks) (w : World) (h : Has w v (dLinks xs)) (hn : xs.length ≤ 1000000) :
  Calls Try.prog 94 #[v] w fun e w' => ∃ u, e = .returned u ∧ Holds True (fresh w) w' u (dLinks xs) ∧ Below w.heap.size w w' := by
 obtain ⟨a, c, rfl⟩ := Holds.len h
 rw [List.length_map] at h ⊢
 cases a with
 | some ad => exact cloneS_some ad _ c xs w h hn
 | none =>
  refine (cloneS_none _ c w).mono ?_
  rintro e w' ⟨rfl, rfl⟩
  obtain rfl : xs = [] := by simpa using (Has.none h rfl).1
  exact ⟨_, rfl, .nil _ _ _ _ _, Below.refl _ _⟩
end Go.Proofs.Ytennbiajnkobnaa

namespace Go.Proofs.Ytennbiajnkobnaa
open Go.RowKit Go.PlainAid
theorem run_pl0 (w : World) (a b c d e f : Value) : (Instr.field 145 (.agg #[a, b, c, d, e, f]) 0).run Try.prog w = .ok (.agg #[a, b, c, d]) w := by
 have hu := Try.underlying145
 have hs := Try.underlying106
 simp [Instr.field, run_underlying hu, run_underlying hs, asAgg, part, Result.andThen, isAgg]
 try kernel_rfl
theorem run_st0 (w : World) (a b c d : Value) : (Instr.field 106 (.agg #[a, b, c, d]) 0).run Try.prog w = .ok a w := by
 have hu := Try.underlying106
 simp [Instr.field, run_underlying hu, asAgg, part, Result.andThen]
theorem run_st1 (w : World) (a b c d : Value) : (Instr.field 106 (.agg #[a, b, c, d]) 1).run Try.prog w = .ok b w := by
 have hu := Try.underlying106
 simp [Instr.field, run_underlying hu, asAgg, part, Result.andThen]
theorem run_st3 (w : World) (a b c d : Value) : (Instr.field 106 (.agg #[a, b, c, d]) 3).run Try.prog w = .ok d w := by
 have hu := Try.underlying106
 simp [Instr.field, run_underlying hu, asAgg, part, Result.andThen]
attribute [go_sem] run_pl0 run_st0 run_st1 run_st3
theorem isPl_open {w : World} {p : Pl} {u : Value} (h : IsPl w p u) : ∃ a1 c1 a2 c2 a3 c3 a4 c4, u = .agg #[.int .i64 p.st.mode, .slice a1 p.st.waits.length c1, .slice a2 p.st.picks.length c2, .slice a3 p.st.takes.length c3, .int .i64 p.node, .slice a4 p.all.length c4] ∧
  Has w (.slice a1 p.st.waits.length c1) (dInts p.st.waits) ∧ Has w (.slice a2 p.st.picks.length c2) (dPicks p.st.picks) ∧ Has w (.slice a3 p.st.takes.length c3) (dTakes p.st.takes) ∧ Has w (.slice a4 p.all.length c4) (dStates p.all) := by
 obtain ⟨cs, rfl, hc⟩ := h
 obtain ⟨v1, v2, v3, v4, rfl, h1, h2, h3, h4⟩ := hasL_pl hc
 obtain ⟨a1, c1, rfl⟩ := slice_of h1
 obtain ⟨a2, c2, rfl⟩ := slice_of h2
 obtain ⟨a3, c3, rfl⟩ := slice_of h3
 obtain ⟨a4, c4, rfl⟩ := slice_of h4
 exact ⟨_, _, _, _, _, _, _, _, rfl, h1, h2, h3, h4⟩
theorem mode_at (M : Tab) (n s : Int) (v : Value) (w : World) (h : Has w v (dTab M)) :
  Calls Try.prog 76 #[v, .int .i64 n, .int .i64 s] w fun e w' => e = .returned (.int .i64 (stAt M n s).mode) ∧ Below w.heap.size w w' := by
 have H := Lib.hid h
 clear h
 go_enter Try.func76, Try.ntmps76
 go_wp2_with fail
 refine (placeOf_at M n s v _ H.out).mono ?_
 rintro e w' ⟨u, rfl, hu, hb⟩
 obtain ⟨a1, c1, a2, c2, a3, c3, a4, c4, rfl, _⟩ := isPl_open hu
 have B := Lib.hid hb
 clear hu hb
 go_wp2_with fail
 go_ret
 exact ⟨rfl, B.out⟩
theorem taken_loop (l : List Tk) (a : Option Addr) (cap : Nat) (w : World) (h : Has w (.slice a l.length cap) (dTakes l)) (hn : l.length ≤ 1000000) :
  (l = [] ∨ ∃ b off, a = some ⟨b, off, none⟩ ∧ b < w.heap.size ∧ ∀ i t, l[i]? = some t → w.cell? ⟨b, off + i * 3, none⟩ = some (.int .i64 t.src) ∧ w.cell? ⟨b, off + i * 3 + 1, none⟩ = some (.int .i64 t.letter) ∧ w.cell? ⟨b, off + i * 3 + 2, none⟩ = some (.int .i64 t.next)) := by
 by_cases h0 : l.length = 0
 ·exact .inl (List.length_eq_zero_iff.1 h0)
 ·obtain ⟨t, ht⟩ := some_of_lt (l := l) (i := 0) (by omega)
  obtain ⟨b, off, cap', e, hb, _, _, _, _⟩ := tk_cells h ht
  simp only [Value.slice.injEq] at e
  obtain ⟨rfl, _, rfl⟩ := e
  refine .inr ⟨b, off, rfl, hb, fun i t ht => ?_⟩
  obtain ⟨b', off', cap', e, _, _, h1, h2, h3⟩ := tk_cells h ht
  simp only [Value.slice.injEq, Option.some.injEq, Addr.mk.injEq] at e
  obtain ⟨⟨rfl, rfl, _⟩, _⟩ := e
  exact ⟨h1, h2, h3⟩
set_option maxHeartbeats 8000000 in
theorem taken_at (M : Tab) (n s f c : Int) (v : Value) (w : World) (h : Has w v (dTab M)) (hn : (stAt M n s).takes.length ≤ 1000000) :
  Calls Try.prog 81 #[v, .int .i64 n, .int .i64 s, .int .i64 f, .int .i64 c] w fun e w' => e = .returned (.int .i64 (takenAt M n s f c)) ∧ Below w.heap.size w w' := by
 have H := Lib.hid h
 have Hn := Lib.hid hn
 clear h hn
 go_enter Try.func81, Try.ntmps81
 go_wp2_with fail
 refine (placeOf_at M n s v _ H.out).mono ?_
 rintro e w1 ⟨u, rfl, hu, hb⟩
 obtain ⟨a1, c1, a2, c2, a3, c3, a4, c4, rfl, _, _, h3, _⟩ := isPl_open hu
 obtain ⟨l, hl⟩ : ∃ l, l = (plAt M n s).st.takes := ⟨_, rfl⟩
 have Hl := Lib.hid hl
 have hll : l.length ≤ 1000000 := by rw [hl]; exact Hn.out
 rw [← hl] at h3 ⊢
 have B := Lib.hid hb
 have C := Lib.hid (taken_loop l _ _ _ h3 hll)
 clear hu hb h3 hl
 go_wp2_with fail
 go_loopw [20] (fun i wr => ∃ k : Nat, i = .int .i64 k ∧ k ≤ l.length ∧ (∀ j u, j < k → l[j]? = some u → ¬ (u.src = f ∧ u.letter = c)) ∧ Below w1.heap.size w1 wr) (fun i _ => l.length - (intOf i).toNat)
 case atStart => exact ⟨0, rfl, by omega, fun j u hj => by omega, Below.refl _ _⟩
 case round =>
  obtain ⟨k, rfl, hk, hno, hbr⟩ := hrel
  have Hs := Lib.hid hno
  have R := Lib.hid hbr
  clear hno hbr
  by_cases hlt : k < l.length
  ·have hlt' : (k : Int) < l.length := by omega
   obtain ⟨t, ht⟩ := some_of_lt hlt
   have hC : ∃ b off, a3 = some ⟨b, off, none⟩ ∧ wr.cell? ⟨b, off + k * 3, none⟩ = some (.int .i64 t.src) ∧ wr.cell? ⟨b, off + k * 3 + 1, none⟩ = some (.int .i64 t.letter) ∧ wr.cell? ⟨b, off + k * 3 + 2, none⟩ = some (.int .i64 t.next) := by
    rcases C.out with rfl | ⟨b, off, rfl, hb, hc⟩
    ·simp at hlt
    ·obtain ⟨x, y, z⟩ := hc k t ht
     exact ⟨b, off, rfl, (R.out.cell (by exact hb)).trans x, (R.out.cell (by exact hb)).trans y, (R.out.cell (by exact hb)).trans z⟩
   obtain ⟨b, off, ha3, x1, x2, x3⟩ := hC
   subst ha3
   have Ht := Lib.hid ht
   obtain ⟨q1, q2, q3⟩ := t
   simp only at x1 x2 x3
   clear ht
   by_cases e1 : (q1 == f) = true
   ·by_cases e2 : (q2 == c) = true
    ·have E1 := Lib.hid e1
     have E2 := Lib.hid e2
     go_wp2_with fail
     go_ret
     refine ⟨?_, ?_⟩
     ·have g1 := E1.out
      have g2 := E2.out
      simp only [beq_iff_eq] at g1 g2
      rw [takenAt, stAt, ← Hl.out, takeFrom_hit k _ Ht.out g1 g2 Hs.out]; rfl
     ·have hB := B.out
      have hR := R.out
      have hz := hB.size
      have hz2 := hR.size
      exact (below_step hz hB hR).alloc (by omega) _
    ·have E2 := Lib.hid e2
     have e2' : (q2 == c) = false := by simpa using e2
     clear e2
     go_wp2_with fail
     go_roundw
     case rel =>
      refine ⟨k + 1, by go_num, by omega, fun j u hj hu => ?_, ?_⟩
      ·by_cases hjk : j < k
       ·exact Hs.out j u hjk hu
       ·obtain rfl : j = k := by omega
        rw [Ht.out] at hu
        cases hu
        rintro ⟨_, g⟩
        exact E2.out (by simpa using g)
      ·exact R.out.alloc R.out.size _
     case measure => simp [intOf]; omega
   ·have E1 := Lib.hid e1
    have e1' : (q1 == f) = false := by simpa using e1
    clear e1
    go_wp2_with fail
    go_roundw
    case rel =>
     refine ⟨k + 1, by go_num, by omega, fun j u hj hu => ?_, ?_⟩
     ·by_cases hjk : j < k
      ·exact Hs.out j u hjk hu
      ·obtain rfl : j = k := by omega
       rw [Ht.out] at hu
       cases hu
       rintro ⟨g, _⟩
       exact E1.out (by simpa using g)
     ·exact R.out.alloc R.out.size _
    case measure => simp [intOf]; omega
  ·have hlt' : ¬ (k : Int) < l.length := by omega
   go_wp2_with fail
   go_ret
   refine ⟨?_, below_step B.out.size B.out R.out⟩
   rw [takenAt, stAt, ← Hl.out, takeFrom_miss (fun j u hu => Hs.out j u (by have := lt_of_some hu; omega) hu)]; rfl
theorem pickAt_of {s : St} {k : Nat} {p : Pk} (h : s.picks[k]? = some p) : pickAt s k = p ∧ isPick s k = true := by
 have := lt_of_some h
 unfold pickAt isPick
 rw [if_pos ⟨by omega, by omega⟩]
 refine ⟨by simp [List.getD, h], by simp; omega⟩
theorem pickAt_no {s : St} {k : Int} (h : ¬ (0 ≤ k ∧ k < s.picks.length)) : pickAt s k = Pk.zero ∧ isPick s k = false := by
 unfold pickAt isPick
 rw [if_neg h]
 exact ⟨rfl, by simpa using h⟩
def pkv (p : Pk) (u : Value) (b : Bool) : Value := .tuple #[.agg #[.int .i64 p.next, u], .bool b]
set_option maxHeartbeats 8000000 in
theorem picked_no (M : Tab) (n s k : Int) (v : Value) (w : World) (h : Has w v (dTab M)) (hk : ¬ (0 ≤ k ∧ k < (stAt M n s).picks.length)) :
  Calls Try.prog 88 #[v, .int .i64 n, .int .i64 s, .int .i64 k] w fun e w' => e = .returned (pkv Pk.zero (.slice none 0 0) false) ∧ Below w.heap.size w w' := by
 have H := Lib.hid h
 have Hk := Lib.hid hk
 clear h hk
 go_enter Try.func88, Try.ntmps88
 go_wp2_with fail
 refine (placeOf_at M n s v _ ((H.out).later (below_new w _))).mono ?_
 rintro e w1 ⟨u, rfl, hu, hb⟩
 obtain ⟨a1, c1, a2, c2, a3, c3, a4, c4, rfl, _⟩ := isPl_open hu
 have B := Lib.hid ((below_new w _).trans (hb.mono (by simp)))
 have hz : w.heap.size + 1 ≤ w1.heap.size := by have := hb.size; simp at this; omega
 have s0 : w1.cell? ⟨w.heap.size, 0, none⟩ = some (.int .i64 0) := (hb.cell (by simp)).trans (by go_cell)
 have s1 : w1.cell? ⟨w.heap.size, 1, none⟩ = some (.slice none 0 0) := (hb.cell (by simp)).trans (by go_cell)
 have f0 : w1.frozen? ⟨w.heap.size, 0, none⟩ = false := (hb.frozen (by simp)).trans (by go_cell)
 have f1 : w1.frozen? ⟨w.heap.size, 1, none⟩ = false := (hb.frozen (by simp)).trans (by go_cell)
 have n0 : ∀ o, (w1.alloc o).cell? ⟨w.heap.size, 0, none⟩ = some (.int .i64 0) := fun o => ((below_new w1 o).cell (by show w.heap.size < _; omega)).trans s0
 have n1 : ∀ o, (w1.alloc o).cell? ⟨w.heap.size, 1, none⟩ = some (.slice none 0 0) := fun o => ((below_new w1 o).cell (by show w.heap.size < _; omega)).trans s1
 have m0 : ∀ o, (w1.alloc o).frozen? ⟨w.heap.size, 0, none⟩ = false := fun o => ((below_new w1 o).frozen (by show w.heap.size < _; omega)).trans f0
 have m1 : ∀ o, (w1.alloc o).frozen? ⟨w.heap.size, 1, none⟩ = false := fun o => ((below_new w1 o).frozen (by show w.heap.size < _; omega)).trans f1
 clear hu hb
 obtain ⟨pl, hpl⟩ : ∃ pl, pl = (plAt M n s).st.picks.length := ⟨_, rfl⟩
 have hk2 : ¬ (0 ≤ k ∧ k < pl) := by rw [hpl]; exact Hk.out
 rw [← hpl]
 clear hpl
 by_cases h0 : k < 0
 ·clear hk2
  go_wp2_with fail
  refine bodyPost_ret (v := pkv Pk.zero (.slice none 0 0) false) (by simp [pkv, Pk.zero, results, Try.results88, go_sem, n0, n1]) rfl ⟨rfl, ?_⟩
  have := B.out
  go_grown
 ·have h0' : 0 ≤ k := by omega
  have h1 : (pl : Int) ≤ k := by omega
  clear hk2
  go_wp2_with fail
  refine bodyPost_ret (v := pkv Pk.zero (.slice none 0 0) false) (by simp [pkv, Pk.zero, results, Try.results88, go_sem, n0, n1]) rfl ⟨rfl, ?_⟩
  have := B.out
  go_grown
end Go.Proofs.Ytennbiajnkobnaa

