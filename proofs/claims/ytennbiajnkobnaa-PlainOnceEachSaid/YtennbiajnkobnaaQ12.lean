/- Texts put together. -/
import Derived.Test.YtennbiajnkobnaaQ05
import Derived.Test.YtennbiajnkobnaaQ11
import Derived.Deep.RegionHeld3
namespace Go.Proofs.Ytennbiajnkobnaa
open Go.RowKit Go.PlainAid
theorem set_keep {w : World} {g h b o : Nat} {u u' x y z : Value} (hx : w.cell? ⟨h, 2, none⟩ = some x) (hy : w.cell? ⟨b, o, none⟩ = some y) (hz : w.cell? ⟨b, o + 1, none⟩ = some z) (h1 : g ≠ h) (h2 : b ≠ g) :
  ((w.setCell ⟨g, 0, none⟩ u).setCell ⟨g, 1, none⟩ u').cell? ⟨h, 2, none⟩ = some x ∧ ((w.setCell ⟨g, 0, none⟩ u).setCell ⟨g, 1, none⟩ u').cell? ⟨b, o, none⟩ = some y ∧ ((w.setCell ⟨g, 0, none⟩ u).setCell ⟨g, 1, none⟩ u').cell? ⟨b, o + 1, none⟩ = some z := by
 have key : ∀ (p : Addr) (v : Value), p.block ≠ g → w.cell? p = some v → ((w.setCell ⟨g, 0, none⟩ u).setCell ⟨g, 1, none⟩ u').cell? p = some v := fun p v hp h => by
  rw [World.cell?_setCell_other _ _ _ _ (by intro e; exact hp (by rw [← e])), World.cell?_setCell_other _ _ _ _ (by intro e; exact hp (by rw [← e]))]; exact h
 exact ⟨key _ _ (by simpa using fun e => h1 e.symm) hx, key _ _ (by simpa using h2) hy, key _ _ (by simpa using h2) hz⟩
set_option maxHeartbeats 8000000 in
set_option maxRecDepth 100000 in
theorem picked_yes (M : Tab) (n s : Int) (k : Nat) (p : Pk) (v : Value) (w : World) (h : Has w v (dTab M)) (hk : (stAt M n s).picks[k]? = some p) (hs : p.sends.length ≤ 1000000) :
  Calls Try.prog 88 #[v, .int .i64 n, .int .i64 s, .int .i64 k] w fun e w' => ∃ u, e = .returned (pkv p u true) ∧ Holds True (fresh w) w' u (dLinks p.sends) ∧ Below w.heap.size w w' := by
 have H := Lib.hid h
 have Hk := Lib.hid hk
 have Hs := Lib.hid hs
 clear h hk hs
 go_enter Try.func88, Try.ntmps88
 go_wp2_with fail
 refine (placeOf_in M n s v w _ H.out (below_new w _)).mono ?_
 rintro e w1 ⟨u, rfl, hu, hb⟩
 obtain ⟨a1, c1, a2, c2, a3, c3, a4, c4, rfl, h1, h2, h3, h4⟩ := isPl_open hu
 have B := Lib.hid ((below_new w _).trans (hb.mono (by simp)))
 have hz : w.heap.size + 1 ≤ w1.heap.size := by have := hb.size; simp at this; omega
 have s0 : w1.cell? ⟨w.heap.size, 0, none⟩ = some (.int .i64 0) := (hb.cell (by simp)).trans (by go_cell)
 have s1 : w1.cell? ⟨w.heap.size, 1, none⟩ = some (.slice none 0 0) := (hb.cell (by simp)).trans (by go_cell)
 have f0 : w1.frozen? ⟨w.heap.size, 0, none⟩ = false := (hb.frozen (by simp)).trans (by go_cell)
 have f1 : w1.frozen? ⟨w.heap.size, 1, none⟩ = false := (hb.frozen (by simp)).trans (by go_cell)
 obtain ⟨pl, hpl⟩ : ∃ pl, pl = (plAt M n s).st.picks.length := ⟨_, rfl⟩
 have hlt : k < pl := by rw [hpl]; exact lt_of_some Hk.out
 obtain ⟨b, off, cap, sv, e, hbl, _, x0, x1, hsv⟩ := pk_cells h2 Hk.out
 simp only [Value.slice.injEq] at e
 obtain ⟨rfl, _, rfl⟩ := e
 rw [← hpl]
 obtain ⟨sa, sc, rfl⟩ := slice_of hsv
 obtain ⟨pn, hpn⟩ : ∃ pn, pn = p.next := ⟨_, rfl⟩
 obtain ⟨ml, hml⟩ : ∃ ml, ml = p.sends.length := ⟨_, rfl⟩
 rw [← hpn] at x0
 rw [← hml] at x1 hsv
 obtain ⟨w2, hw2⟩ : ∃ w2, w2 = w1.alloc (.cells #[.int .i64 (plAt M n s).st.mode, .slice a1 (plAt M n s).st.waits.length c1, .slice (some ⟨b, off, none⟩) pl c2, .slice a3 (plAt M n s).st.takes.length c3, .int .i64 (plAt M n s).node, .slice a4 (plAt M n s).all.length c4] 145) := ⟨_, rfl⟩
 have g := below_new w1 (.cells #[.int .i64 (plAt M n s).st.mode, .slice a1 (plAt M n s).st.waits.length c1, .slice (some ⟨b, off, none⟩) pl c2, .slice a3 (plAt M n s).st.takes.length c3, .int .i64 (plAt M n s).node, .slice a4 (plAt M n s).all.length c4] 145)
 have y2 : w2.cell? ⟨w1.heap.size, 2, none⟩ = some (.slice (some ⟨b, off, none⟩) pl c2) := by rw [hw2]; go_cell
 have z2 : w2.heap.size = w1.heap.size + 1 := by rw [hw2]; simp
 rw [← hw2] at g
 have n0 := (g.cell (show w.heap.size < _ by omega)).trans s0
 have n1 := (g.cell (show w.heap.size < _ by omega)).trans s1
 have m0 := (g.frozen (show w.heap.size < _ by omega)).trans f0
 have m1 := (g.frozen (show w.heap.size < _ by omega)).trans f1
 have hB := B.out
 have y0 := (g.cell (by have := hB.size; show b < _; omega)).trans ((hB.cell (by exact hbl)).trans x0)
 have y1 := (g.cell (by have := hB.size; show b < _; omega)).trans ((hB.cell (by exact hbl)).trans x1)
 clear hB
 have hne : b ≠ w.heap.size := by omega
 have B2 := Lib.hid (below_step (Nat.le_of_succ_le hz) B.out g)
 have HV := Lib.hid (hsv.later B2.out)
 have Z2 := Lib.hid z2
 have PN := Lib.hid hpn
 have ML := Lib.hid hml
 have hw2' := hw2
 clear hu hb h1 h2 h3 h4 hpl s0 s1 f0 f1 x0 x1 g hsv z2 hpn hml hw2
 go_wp2_with fail
 rw [← hw2']
 clear hw2'
 go_region_held3 (fun w' => w'.cell? ⟨w1.heap.size, 2, none⟩ = some (.slice (some ⟨b, off, none⟩) pl c2) ∧ w'.cell? ⟨b, off + k * 2, none⟩ = some (.int .i64 pn) ∧ w'.cell? ⟨b, off + k * 2 + 1, none⟩ = some (.slice sa ml sc))
  (first | exact ⟨y2, y0, y1⟩ | exact ⟨q2, q0, q1⟩ | exact set_keep q2 q0 q1 (by omega) hne)
  (first | (go_at_call 94; refine (clone_sends _ p.sends _ (HV.out.later (below_drewN (Below.refl _ _) 1)) Hs.out).mono ?_; rintro e w3 ⟨u, rfl, hu, hb⟩; obtain ⟨ua, uc, rfl⟩ := Holds.len hu; rw [List.length_map] at hu ⊢; have q2 := (hb.cell (by have := Z2.out; simp; omega)).trans y2; have q0 := (hb.cell (by have := Z2.out; simp; omega)).trans y0; have q1 := (hb.cell (by have := Z2.out; simp; omega)).trans y1; have r0 := (hb.cell (show w.heap.size < _ by have := Z2.out; simp; omega)).trans n0; have r1 := (hb.cell (show w.heap.size < _ by have := Z2.out; simp; omega)).trans n1; have t0 := (hb.frozen (show w.heap.size < _ by have := Z2.out; simp; omega)).trans m0; have t1 := (hb.frozen (show w.heap.size < _ by have := Z2.out; simp; omega)).trans m1; have HU := Lib.hid hu; have B3 := Lib.hid hb; clear hu hb))
 have hb1 := B2.out
 have hb2 := B3.out
 have hb3 : Below w.heap.size w w3 := below_step hb1.size hb1 (((below_drewN (Below.refl _ w2) 1)).trans (hb2.mono (by simp)))
 have G := Lib.hid hb3
 have hu := HU.out
 clear hb1 hb2 hb3
 go_wp2_with fail
 refine bodyPost_ret (v := .tuple #[.agg #[.int .i64 pn, .slice ua p.sends.length uc], .bool true]) (by simp [results, Try.results88, go_sem, r0, r1]) rfl ⟨_, by rw [PN.out]; rfl, ?_, ?_⟩
 ·have h1 : w.heap.size < w2.heap.size := by have := Z2.out; omega
  refine (Holds.same hu (((SameOn.refl _ _).set _ _ ?_).set _ _ ?_)).wide ?_
  ·simp [fresh]; omega
  ·simp [fresh]; omega
  ·intro b _ hb
   simp [fresh] at hb ⊢
   omega
 ·have := G.out
  go_grown
end Go.Proofs.Ytennbiajnkobnaa

namespace Go.Proofs.Ytennbiajnkobnaa
open Go.RowKit Go.PlainAid
theorem stAt_of {M : Tab} {n s : Nat} {x : Nd} {t : St} (hx : M[n]? = some x) (ht : x.states[s]? = some t) : stAt M n s = t := by
 unfold stAt; rw [plAt_of hx ht]
theorem smallSt_at {M : Tab} (h : SmallTab M) (n s : Int) : SmallSt (stAt M n s) := by
 rcases is_cases M n s with hn | ⟨n', s', x, t, rfl, rfl, hx, ht⟩
 ·unfold stAt; rw [plAt_no hn]; simp [Pl.zero, St.zero, SmallSt]
 ·rw [stAt_of hx ht]; exact (h.2 x (List.mem_of_getElem? hx)).2 t (List.mem_of_getElem? ht)
theorem place_ok {N : Int} {L : Lks} {M : Tab} (h : TabOK N L M) {n s : Nat} {x : Nd} (hx : M[n]? = some x) (hs : s < x.states.length) : PlaceOK L ⟨stAt M n s, n, x.states⟩ := by
 obtain ⟨t, ht⟩ := some_of_lt hs
 rw [stAt_of hx ht]
 exact (h.2.2 n x hx).2.2.1 t (List.mem_of_getElem? ht)
theorem taken_ok {N : Int} {L : Lks} {M : Tab} (h : TabOK N L M) {n s : Nat} {x : Nd} (hx : M[n]? = some x) (hs : s < x.states.length) (f c : Int) :
  ∃ s' : Nat, takenAt M n s f c = s' ∧ s' < x.states.length ∧ ((f, (n : Int)) ∉ L → s' = s) := by
 have hT := (place_ok h hx hs).2.2.2
 unfold takenAt
 have key : ∀ (l : List Tk), (∀ u ∈ l, u ∈ (stAt M n s).takes) → ∃ s' : Nat, takeFrom l s f c = s' ∧ s' < x.states.length ∧ ((f, (n : Int)) ∉ L → s' = s) := by
  intro l
  induction l with
  | nil => intro _; exact ⟨s, rfl, hs, fun _ => rfl⟩
  | cons u r ih =>
   intro hm
   unfold takeFrom
   split
   ·next hu =>
    obtain ⟨j, hj⟩ := List.mem_iff_getElem?.1 (hm u (List.mem_cons_self ..))
    obtain ⟨hg, hh, _⟩ := hT j u hj
    obtain ⟨q, hq⟩ := Int.eq_ofNat_of_zero_le hh.1
    have hql : q < x.states.length := by have h1 := hh.2; have h1 : u.next < (x.states.length : Int) := h1; omega
    refine ⟨q, hq, hql, fun hno => ?_⟩
    have hg1 := hg.1
    rw [hu.1] at hg1
    exact absurd hg1 hno
   ·exact ih (fun v hv => hm v (List.mem_cons_of_mem _ hv))
 exact key _ (fun u hu => hu)
/-- A node's states, by the table's address. -/
theorem nd_at {w : World} {b o len cap n : Nat} {M : Tab} {x : Nd} (h : Has w (.slice (some ⟨b, o, none⟩) len cap) (dTab M)) (hx : M[n]? = some x) : ∃ sa sc, w.cell? ⟨b, o + n * 2 + 1, none⟩ = some (.slice sa x.states.length sc) ∧ Has w (.slice sa x.states.length sc) (dStates x.states) := by
 obtain ⟨b', o', cap', vs, e, _, _, _, y1, hS⟩ := nd_cells h hx
 simp only [Value.slice.injEq, Option.some.injEq, Addr.mk.injEq] at e
 obtain ⟨⟨rfl, rfl, _⟩, _⟩ := e
 obtain ⟨sa, sc, rfl⟩ := slice_of hS
 exact ⟨sa, sc, y1, hS⟩
theorem link_at {w : World} {sa : Option Addr} {sl sc i : Nat} {l : Lks} {p : Int × Int} (h : Has w (.slice sa sl sc) (dLinks l)) (hx : l[i]? = some p) : ∃ b o, sa = some ⟨b, o, none⟩ ∧ w.cell? ⟨b, o + i * 2, none⟩ = some (.int .i64 p.1) ∧ w.cell? ⟨b, o + i * 2 + 1, none⟩ = some (.int .i64 p.2) := by
 obtain ⟨b', o', cap', e, _, _, y0, y1⟩ := link_cells h hx
 simp only [Value.slice.injEq] at e
 exact ⟨b', o', e.1, y0, y1⟩
theorem int_at {w : World} {sa : Option Addr} {sl sc i : Nat} {l : List Int} {p : Int} (h : Has w (.slice sa sl sc) (dInts l)) (hx : l[i]? = some p) : ∃ b o, sa = some ⟨b, o, none⟩ ∧ w.cell? ⟨b, o + i, none⟩ = some (.int .i64 p) := by
 obtain ⟨b', o', cap', e, _, y0⟩ := int_cells h hx
 simp only [Value.slice.injEq] at e
 exact ⟨b', o', e.1, y0⟩
end Go.Proofs.Ytennbiajnkobnaa

