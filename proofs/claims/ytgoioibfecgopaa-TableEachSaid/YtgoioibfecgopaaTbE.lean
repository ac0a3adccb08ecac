/- Mode, Waits, Picked, Taken. -/
import Derived.Test.YtgoioibfecgopaaTbC
import Derived.Test.YtgoioibfecgopaaTbD
namespace Go.Proofs.Ytgoioibfecgopaa
open Go.RowKit Go.PlainAid

theorem run_pl0 (w : World) (a b c d e f : Value) : (Instr.field 130 (.agg #[a, b, c, d, e, f]) 0).run Try.prog w = .ok (.agg #[a, b, c, d]) w := by
  have hu := Try.underlying130
  have hs := Try.underlying58
  simp [Instr.field, run_underlying hu, run_underlying hs, asAgg, part, Result.andThen, isAgg]
  try kernel_rfl
theorem run_st0 (w : World) (a b c d : Value) : (Instr.field 58 (.agg #[a, b, c, d]) 0).run Try.prog w = .ok a w := by
  have hu := Try.underlying58
  simp [Instr.field, run_underlying hu, asAgg, part, Result.andThen]
theorem run_st1 (w : World) (a b c d : Value) : (Instr.field 58 (.agg #[a, b, c, d]) 1).run Try.prog w = .ok b w := by
  have hu := Try.underlying58
  simp [Instr.field, run_underlying hu, asAgg, part, Result.andThen]
theorem run_st3 (w : World) (a b c d : Value) : (Instr.field 58 (.agg #[a, b, c, d]) 3).run Try.prog w = .ok d w := by
  have hu := Try.underlying58
  simp [Instr.field, run_underlying hu, asAgg, part, Result.andThen]
attribute [go_sem] run_pl0 run_st0 run_st1 run_st3

theorem isPl_open {w : World} {p : Pl} {u : Value} (h : IsPl w p u) : ∃ a1 c1 a2 c2 a3 c3 a4 c4, u = .agg #[.int .i64 p.st.mode, .slice a1 p.st.waits.length c1, .slice a2 p.st.picks.length c2, .slice a3 p.st.takes.length c3, .int .i64 p.node, .slice a4 p.all.length c4] ∧
    Has w (.slice a1 p.st.waits.length c1) (dInts p.st.waits) ∧ Has w (.slice a2 p.st.picks.length c2) (dPicks p.st.picks) ∧ Has w (.slice a3 p.st.takes.length c3) (dTakes p.st.takes) ∧ Has w (.slice a4 p.all.length c4) (dStates p.all) := by
  obtain ⟨cs, rfl, hc⟩ := h
  obtain ⟨v1, v2, v3, v4, rfl, h1, h2, h3, h4⟩ := hasL_pl hc
  obtain ⟨a1, c1, rfl⟩ := slice_of h1
  obtain ⟨a2, c2, rfl⟩ := slice_of h2
  obtain ⟨a3, c3, rfl⟩ := slice_of h3
  obtain ⟨a4, c4, rfl⟩ := slice_of h4
  exact ⟨_, _, _, _, _, _, _, _, rfl, h1, h2, h3, h4⟩

theorem mode_at (M : Tab) (n s : Int) (v : Value) (w : World) (h : Has w v (dTab M)) :
    Calls Try.prog 21 #[v, .int .i64 n, .int .i64 s] w fun e w' => e = .returned (.int .i64 (stAt M n s).mode) ∧ Below w.heap.size w w' := by
  have H := Lib.hid h
  clear h
  go_enter Try.func21, Try.ntmps21
  go_wp2_with fail
  refine (placeOf_at M n s v _ H.out).mono ?_
  rintro e w' ⟨u, rfl, hu, hb⟩
  obtain ⟨a1, c1, a2, c2, a3, c3, a4, c4, rfl, _⟩ := isPl_open hu
  have B := Lib.hid hb
  clear hu hb
  go_wp2_with fail
  go_ret
  exact ⟨rfl, B.out⟩

theorem waits_at (M : Tab) (n s : Int) (v : Value) (w : World) (h : Has w v (dTab M)) (hn : (stAt M n s).waits.length ≤ 1000000) :
    Calls Try.prog 20 #[v, .int .i64 n, .int .i64 s] w fun e w' => ∃ u, e = .returned u ∧ Holds True (fresh w) w' u (dInts (stAt M n s).waits) ∧ Below w.heap.size w w' := by
  have H := Lib.hid h
  have Hn := Lib.hid hn
  clear h hn
  go_enter Try.func20, Try.ntmps20
  go_wp2_with fail
  refine (placeOf_at M n s v _ H.out).mono ?_
  rintro e w' ⟨u, rfl, hu, hb⟩
  obtain ⟨a1, c1, a2, c2, a3, c3, a4, c4, rfl, h1, _⟩ := isPl_open hu
  have B := Lib.hid hb
  have H1 := Lib.hid h1
  clear hu hb h1
  go_wp2_with fail
  refine (clone_ints _ _ _ H1.out Hn.out).mono ?_
  rintro e w2 ⟨u, rfl, hu, hb⟩
  have B2 := Lib.hid hb
  have Hu := Lib.hid hu
  clear hu hb
  go_wp2_with fail
  go_ret
  exact ⟨_, rfl, Hu.out.wide (fun b _ h => Nat.le_trans B.out.size h), below_step B.out.size B.out B2.out⟩

theorem taken_loop (l : List Tk) (a : Option Addr) (cap : Nat) (w : World) (h : Has w (.slice a l.length cap) (dTakes l)) (hn : l.length ≤ 1000000) :
    (l = [] ∨ ∃ b off, a = some ⟨b, off, none⟩ ∧ b < w.heap.size ∧ ∀ i t, l[i]? = some t → w.cell? ⟨b, off + i * 3, none⟩ = some (.int .i64 t.src) ∧ w.cell? ⟨b, off + i * 3 + 1, none⟩ = some (.int .i64 t.letter) ∧ w.cell? ⟨b, off + i * 3 + 2, none⟩ = some (.int .i64 t.next)) := by
  by_cases h0 : l.length = 0
  · exact .inl (List.length_eq_zero_iff.1 h0)
  · obtain ⟨t, ht⟩ := some_of_lt (l := l) (i := 0) (by omega)
    obtain ⟨b, off, cap', e, hb, _, _, _, _⟩ := tk_cells h ht
    simp only [Value.slice.injEq] at e
    obtain ⟨rfl, _, rfl⟩ := e
    refine .inr ⟨b, off, rfl, hb, fun i t ht => ?_⟩
    obtain ⟨b', off', cap', e, _, _, h1, h2, h3⟩ := tk_cells h ht
    simp only [Value.slice.injEq, Option.some.injEq, Addr.mk.injEq] at e
    obtain ⟨⟨rfl, rfl, _⟩, _⟩ := e
    exact ⟨h1, h2, h3⟩

set_option maxHeartbeats 1000000 in
theorem taken_at (M : Tab) (n s f c : Int) (v : Value) (w : World) (h : Has w v (dTab M)) (hn : (stAt M n s).takes.length ≤ 1000000) :
    Calls Try.prog 22 #[v, .int .i64 n, .int .i64 s, .int .i64 f, .int .i64 c] w fun e w' => e = .returned (.int .i64 (takenAt M n s f c)) ∧ Below w.heap.size w w' := by
  have H := Lib.hid h
  have Hn := Lib.hid hn
  clear h hn
  go_enter Try.func22, Try.ntmps22
  go_wp2_with fail
  refine (placeOf_at M n s v _ H.out).mono ?_
  rintro e w1 ⟨u, rfl, hu, hb⟩
  obtain ⟨a1, c1, a2, c2, a3, c3, a4, c4, rfl, _, _, h3, _⟩ := isPl_open hu
  obtain ⟨l, hl⟩ : ∃ l, l = (plAt M n s).st.takes := ⟨_, rfl⟩
  have Hl := Lib.hid hl
  have hll : l.length ≤ 1000000 := by rw [hl]; exact Hn.out
  rw [← hl] at h3 ⊢
  have B := Lib.hid hb
  have C := Lib.hid (taken_loop l _ _ _ h3 hll)
  clear hu hb h3 hl
  go_wp2_with fail
  go_loopw [20] (fun i wr => ∃ k : Nat, i = .int .i64 k ∧ k ≤ l.length ∧ (∀ j u, j < k → l[j]? = some u → ¬ (u.src = f ∧ u.letter = c)) ∧ Below w1.heap.size w1 wr) (fun i _ => l.length - (intOf i).toNat)
  case atStart => exact ⟨0, rfl, by omega, fun j u hj => by omega, Below.refl _ _⟩
  case round =>
    obtain ⟨k, rfl, hk, hno, hbr⟩ := hrel
    have Hs := Lib.hid hno
    have R := Lib.hid hbr
    clear hno hbr
    by_cases hlt : k < l.length
    · have hlt' : (k : Int) < l.length := by omega
      obtain ⟨t, ht⟩ := some_of_lt hlt
      have hC : ∃ b off, a3 = some ⟨b, off, none⟩ ∧ wr.cell? ⟨b, off + k * 3, none⟩ = some (.int .i64 t.src) ∧ wr.cell? ⟨b, off + k * 3 + 1, none⟩ = some (.int .i64 t.letter) ∧ wr.cell? ⟨b, off + k * 3 + 2, none⟩ = some (.int .i64 t.next) := by
        rcases C.out with rfl | ⟨b, off, rfl, hb, hc⟩
        · simp at hlt
        · obtain ⟨x, y, z⟩ := hc k t ht
          exact ⟨b, off, rfl, (R.out.cell (by exact hb)).trans x, (R.out.cell (by exact hb)).trans y, (R.out.cell (by exact hb)).trans z⟩
      obtain ⟨b, off, ha3, x1, x2, x3⟩ := hC
      subst ha3
      have Ht := Lib.hid ht
      obtain ⟨q1, q2, q3⟩ := t
      simp only at x1 x2 x3
      clear ht
      by_cases e1 : (q1 == f) = true
      · by_cases e2 : (q2 == c) = true
        · have E1 := Lib.hid e1
          have E2 := Lib.hid e2
          go_wp2_with fail
          go_ret
          refine ⟨?_, ?_⟩
          · have g1 := E1.out
            have g2 := E2.out
            simp only [beq_iff_eq] at g1 g2
            rw [takenAt, stAt, ← Hl.out, takeFrom_hit k _ Ht.out g1 g2 Hs.out]; rfl
          · have hB := B.out
            have hR := R.out
            have hz := hB.size
            have hz2 := hR.size
            exact (below_step hz hB hR).alloc (by omega) _
        · have E2 := Lib.hid e2
          have e2' : (q2 == c) = false := by simpa using e2
          clear e2
          go_wp2_with fail
          go_roundw
          case rel =>
            refine ⟨k + 1, by go_num, by omega, fun j u hj hu => ?_, ?_⟩
            · by_cases hjk : j < k
              · exact Hs.out j u hjk hu
              · obtain rfl : j = k := by omega
                rw [Ht.out] at hu
                cases hu
                rintro ⟨_, g⟩
                exact E2.out (by simpa using g)
            · exact R.out.alloc R.out.size _
          case measure => simp [intOf]; omega
      · have E1 := Lib.hid e1
        have e1' : (q1 == f) = false := by simpa using e1
        clear e1
        go_wp2_with fail
        go_roundw
        case rel =>
          refine ⟨k + 1, by go_num, by omega, fun j u hj hu => ?_, ?_⟩
          · by_cases hjk : j < k
            · exact Hs.out j u hjk hu
            · obtain rfl : j = k := by omega
              rw [Ht.out] at hu
              cases hu
              rintro ⟨g, _⟩
              exact E1.out (by simpa using g)
          · exact R.out.alloc R.out.size _
        case measure => simp [intOf]; omega
    · have hlt' : ¬ (k : Int) < l.length := by omega
      go_wp2_with fail
      go_ret
      refine ⟨?_, below_step B.out.size B.out R.out⟩
      rw [takenAt, stAt, ← Hl.out, takeFrom_miss (fun j u hu => Hs.out j u (by have := lt_of_some hu; omega) hu)]; rfl

theorem pickAt_of {s : St} {k : Nat} {p : Pk} (h : s.picks[k]? = some p) : pickAt s k = p ∧ isPick s k = true := by
  have := lt_of_some h
  unfold pickAt isPick
  rw [if_pos ⟨by omega, by omega⟩]
  refine ⟨by simp [List.getD, h], by simp; omega⟩
theorem pickAt_no {s : St} {k : Int} (h : ¬ (0 ≤ k ∧ k < s.picks.length)) : pickAt s k = Pk.zero ∧ isPick s k = false := by
  unfold pickAt isPick
  rw [if_neg h]
  exact ⟨rfl, by simpa using h⟩

def pkv (p : Pk) (u : Value) (b : Bool) : Value := .tuple #[.agg #[.int .i64 p.next, u], .bool b]
set_option maxHeartbeats 1000000 in
theorem picked_no (M : Tab) (n s k : Int) (v : Value) (w : World) (h : Has w v (dTab M)) (hk : ¬ (0 ≤ k ∧ k < (stAt M n s).picks.length)) :
    Calls Try.prog 23 #[v, .int .i64 n, .int .i64 s, .int .i64 k] w fun e w' => e = .returned (pkv Pk.zero (.slice none 0 0) false) ∧ Below w.heap.size w w' := by
  have H := Lib.hid h
  have Hk := Lib.hid hk
  clear h hk
  go_enter Try.func23, Try.ntmps23
  go_wp2_with fail
  refine (placeOf_at M n s v _ ((H.out).later (below_new w _))).mono ?_
  rintro e w1 ⟨u, rfl, hu, hb⟩
  obtain ⟨a1, c1, a2, c2, a3, c3, a4, c4, rfl, _⟩ := isPl_open hu
  have B := Lib.hid ((below_new w _).trans (hb.mono (by simp)))
  have hz : w.heap.size + 1 ≤ w1.heap.size := by have := hb.size; simp at this; omega
  have s0 : w1.cell? ⟨w.heap.size, 0, none⟩ = some (.int .i64 0) := (hb.cell (by simp)).trans (by go_cell)
  have s1 : w1.cell? ⟨w.heap.size, 1, none⟩ = some (.slice none 0 0) := (hb.cell (by simp)).trans (by go_cell)
  have f0 : w1.frozen? ⟨w.heap.size, 0, none⟩ = false := (hb.frozen (by simp)).trans (by go_cell)
  have f1 : w1.frozen? ⟨w.heap.size, 1, none⟩ = false := (hb.frozen (by simp)).trans (by go_cell)
  have n0 : ∀ o, (w1.alloc o).cell? ⟨w.heap.size, 0, none⟩ = some (.int .i64 0) := fun o => ((below_new w1 o).cell (by show w.heap.size < _; omega)).trans s0
  have n1 : ∀ o, (w1.alloc o).cell? ⟨w.heap.size, 1, none⟩ = some (.slice none 0 0) := fun o => ((below_new w1 o).cell (by show w.heap.size < _; omega)).trans s1
  have m0 : ∀ o, (w1.alloc o).frozen? ⟨w.heap.size, 0, none⟩ = false := fun o => ((below_new w1 o).frozen (by show w.heap.size < _; omega)).trans f0
  have m1 : ∀ o, (w1.alloc o).frozen? ⟨w.heap.size, 1, none⟩ = false := fun o => ((below_new w1 o).frozen (by show w.heap.size < _; omega)).trans f1
  clear hu hb
  obtain ⟨pl, hpl⟩ : ∃ pl, pl = (plAt M n s).st.picks.length := ⟨_, rfl⟩
  have hk2 : ¬ (0 ≤ k ∧ k < pl) := by rw [hpl]; exact Hk.out
  rw [← hpl]
  clear hpl
  by_cases h0 : k < 0
  · clear hk2
    go_wp2_with fail
    refine bodyPost_ret (v := pkv Pk.zero (.slice none 0 0) false) (by simp [pkv, Pk.zero, results, Try.results23, go_sem, n0, n1]) rfl ⟨rfl, ?_⟩
    have := B.out
    go_grown
  · have h0' : 0 ≤ k := by omega
    have h1 : (pl : Int) ≤ k := by omega
    clear hk2
    go_wp2_with fail
    refine bodyPost_ret (v := pkv Pk.zero (.slice none 0 0) false) (by simp [pkv, Pk.zero, results, Try.results23, go_sem, n0, n1]) rfl ⟨rfl, ?_⟩
    have := B.out
    go_grown
end Go.Proofs.Ytgoioibfecgopaa
