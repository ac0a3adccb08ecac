/- Texts put together. -/
import Derived.Test.YtennbiajnkobnaaQ37
import Derived.Test.YtennbiajnkobnaaQ40
import Derived.Test.YtennbiajnkobnaaQ44
import Derived.Test.YtennbiajnkobnaaQ45
import Derived.Test.YtennbiajnkobnaaQ46
set_option linter.unusedSimpArgs false
set_option linter.unusedVariables false
set_option maxRecDepth 100000
namespace Go.Proofs.Ytennbiajnkobnaa
open Go.RowKit Go.PlainAid
theorem row_addr {S : Prop} {P : Nat → Prop} {w : World} {a : Option Addr} {k cap n i : Nat} {xs : List (List D)} {ds : List D} (h : Holds S P w (.slice a k cap) (.row n xs)) (hx : xs[i]? = some ds) : ∃ b o, a = some ⟨b, o, none⟩ := by
 cases h with
 | nil => simp at hx
 | row => exact ⟨_, _, rfl⟩
/-- One list of lists, to be written in. -/
theorem row1_in {α : Type} (f : α → D) {P : Nat → Prop} {w : World} {a : Option Addr} {k cap i : Nat} {ls : List α} {m : α} (h : Holds True P w (.slice a k cap) (.row 1 (ls.map fun m => [f m]))) (hm : ls[i]? = some m) :
  ∃ (g : Nat) (Q : Nat → Prop) (c : Value), a = some ⟨g, 0, none⟩ ∧ P g ∧ g < w.heap.size ∧ w.cell? ⟨g, i, none⟩ = some c ∧ (∀ q, Q q → P q) ∧ ¬ Q g ∧ Holds True Q w c (f m) ∧
   ∀ (w2 : World) (m' : α), SameOn (fun q => ¬ Q q) w w2 → Holds True Q w2 c (f m') → Holds True P w2 (.slice a k cap) (.row 1 ((ls.set i m').map fun m => [f m])) := by
 have hi : (ls.map fun m => [f m])[i]? = some [f m] := by rw [List.getElem?_map, hm]; rfl
 obtain ⟨b, o, rfl⟩ := row_addr h hi
 obtain ⟨Q, cs, rfl, hP, hO, hb, hl, hc, hQP, hQb, hH, hF⟩ := h.elem hi
 have hH1 := hH
 obtain ⟨h1, fp, h2, h3, h4⟩ := hH
 match cs, h1 with
 | [c], _ =>
  have hc0 := hc 0 c rfl
  have hQ0 : Holds True Q w c (f m) := (h4 0 c (f m) rfl rfl).wide (fun q _ hq => h2 0 q hq)
  refine ⟨b, Q, c, rfl, hP, hb, by simpa using hc0, hQP, hQb, hQ0, fun w2 m' hs hn => ?_⟩
  have e : (ls.set i m').map (fun m => [f m]) = (ls.map fun m => [f m]).set i [f m'] := by rw [List.map_set]
  rw [e]
  have key := hF w2 [c] [f m'] Q (hs.sub (fun q hq => hq.2.2)) (hO.same hs hQb hb) rfl (fun j c' hj => (hs.cell (a := ⟨b, i * 1 + j, none⟩) hQb hb).trans (hc j c' hj)) (fun o c' _ ho => (hs.cell (a := ⟨b, o, none⟩) hQb hb).trans ho)
   ⟨rfl, fun j q => j = 0 ∧ Q q, fun _ _ h => h.2, fun _ j j' q h h' => h.1.trans h'.1.symm, fun j c' d hc' hd => ?_⟩ (fun q hq => ⟨fun e => hQb (e ▸ hq), .inl hq⟩)
  ·exact key.wide (fun q _ hq => hq.elim id (hQP q))
  ·match j, hc', hd with
   | 0, hc', hd => simp at hc' hd; subst hc' hd; exact hn.wide (fun q _ hq => ⟨rfl, hq⟩)
   | j + 1, hc', hd => simp at hc'
/-- Two configurations' lists, each in blocks of its own (F i j: list j of configuration i), and the rest, as it was. -/
structure OwI (w y : World) (PO : Nat → Prop) (F : Nat → Nat → Nat → Prop) (V : Nat → Nat → Value) (N : Nat → Nat → Nat) (wr : World) : Prop where
 bel : Below w.heap.size w wr
 same : SameOn (fun q => ¬ PO q) y wr
 h0 : ∀ i, i < 2 → ∃ xs : List Int, xs.length = N i 0 ∧ Holds True (F i 0) wr (V i 0) (dInts xs)
 h1 : ∀ i, i < 2 → ∃ ls : List Lks, ls.length = N i 1 ∧ (∀ m ∈ ls, m.length ≤ 1000000) ∧ Holds True (F i 1) wr (V i 1) (dLls ls)
 h2 : ∀ i, i < 2 → ∃ xs : List Int, xs.length = N i 2 ∧ Holds True (F i 2) wr (V i 2) (dInts xs)
structure OwAp (B : Nat) (PO : Nat → Prop) (F : Nat → Nat → Nat → Prop) : Prop where
 low : ∀ q, PO q → B ≤ q
 inn : ∀ i j q, i < 2 → j < 3 → F i j q → PO q
 one : ∀ i j i' j' q, i < 2 → j < 3 → i' < 2 → j' < 3 → F i j q → F i' j' q → i = i' ∧ j = j'
section
variable {w y wr : World} {PO : Nat → Prop} {F : Nat → Nat → Nat → Prop} {V : Nat → Nat → Value} {N : Nat → Nat → Nat} {a : Option Addr} {n e i k : Nat}
/-- A store in list j of configuration i leaves all others. -/
theorem OwI.rest (h : OwI w y PO F V N wr) (ap : OwAp w.heap.size PO F) {j b : Nat} (hi : i < 2) (hj : j < 3) (hb : F i j b) {w2 : World} (hs : ∀ P : Nat → Prop, ¬ P b → SameOn P wr w2) (hbel : Below w.heap.size w w2)
  (g0 : j = 0 → ∃ xs : List Int, xs.length = N i 0 ∧ Holds True (F i 0) w2 (V i 0) (dInts xs)) (g1 : j = 1 → ∃ ls : List Lks, ls.length = N i 1 ∧ (∀ m ∈ ls, m.length ≤ 1000000) ∧ Holds True (F i 1) w2 (V i 1) (dLls ls))
  (g2 : j = 2 → ∃ xs : List Int, xs.length = N i 2 ∧ Holds True (F i 2) w2 (V i 2) (dInts xs)) : OwI w y PO F V N w2 := by
 have no : ∀ i' j', i' < 2 → j' < 3 → ¬ (i = i' ∧ j = j') → SameOn (F i' j') wr w2 := fun i' j' hi' hj' hn => hs _ (fun hf => hn (ap.one i j i' j' b hi hj hi' hj' hb hf))
 refine ⟨hbel, h.same.trans (hs _ (fun hn => hn (ap.inn i j b hi hj hb))), fun i' hi' => ?_, fun i' hi' => ?_, fun i' hi' => ?_⟩
 ·by_cases hq : i = i' ∧ j = 0
  ·obtain ⟨rfl, rfl⟩ := hq; exact g0 rfl
  ·obtain ⟨xs, h1, h2⟩ := h.h0 i' hi'; exact ⟨xs, h1, h2.same (no i' 0 hi' (by decide) hq)⟩
 ·by_cases hq : i = i' ∧ j = 1
  ·obtain ⟨rfl, rfl⟩ := hq; exact g1 rfl
  ·obtain ⟨xs, h1, h2, h3⟩ := h.h1 i' hi'; exact ⟨xs, h1, h2, h3.same (no i' 1 hi' (by decide) hq)⟩
 ·by_cases hq : i = i' ∧ j = 2
  ·obtain ⟨rfl, rfl⟩ := hq; exact g2 rfl
  ·obtain ⟨xs, h1, h2⟩ := h.h2 i' hi'; exact ⟨xs, h1, h2.same (no i' 2 hi' (by decide) hq)⟩
theorem one_set (b o : Nat) (u : Value) : ∀ P : Nat → Prop, ¬ P b → SameOn P wr (wr.setCell ⟨b, o, none⟩ u) := fun P hP => (SameOn.refl _ _).set _ _ hP
theorem ints_n {P : Nat → Prop} {xs : List Int} (h : Holds True P wr (.slice a n e) (dInts xs)) : n = xs.length := by have h := Holds.len h; obtain ⟨_, _, e'⟩ := h; rw [List.length_map] at e'; cases e'; rfl
theorem lls_n {P : Nat → Prop} {xs : List Lks} (h : Holds True P wr (.slice a n e) (dLls xs)) : n = xs.length := by have h := Holds.len h; obtain ⟨_, _, e'⟩ := h; rw [List.length_map] at e'; cases e'; rfl
theorem OwI.set0 (h : OwI w y PO F V N wr) (ap : OwAp w.heap.size PO F) (hi : i < 2) (hv : V i 0 = .slice a n e) (hk : k < n) : ∃ (g : Nat) (x : Value), a = some ⟨g, 0, none⟩ ∧ wr.cell? ⟨g, k, none⟩ = some x ∧ wr.frozen? ⟨g, k, none⟩ = false ∧
  ∀ z, OwI w y PO F V N (wr.setCell ⟨g, k, none⟩ (.int .i64 z)) := by
 obtain ⟨xs, hl, H⟩ := h.h0 i hi
 rw [hv] at H
 have hn := ints_n H
 obtain ⟨x, hx⟩ := some_of_lt (l := xs) (i := k) (by omega)
 obtain ⟨g, rfl, hP, hgl, hc, hf, hset⟩ := H.slot1 hx
 exact ⟨g, _, rfl, hc, hf, fun z => h.rest ap hi (by decide) hP (one_set _ _ _) (h.bel.setCell (ap.low _ (ap.inn i 0 g hi (by decide) hP)) _) (fun _ => ⟨xs.set k z, by rw [List.length_set]; exact hl, by rw [hv]; exact hset z⟩) (fun e => by cases e) (fun e => by cases e)⟩
theorem OwI.set2 (h : OwI w y PO F V N wr) (ap : OwAp w.heap.size PO F) (hi : i < 2) (hv : V i 2 = .slice a n e) (hk : k < n) : ∃ (g : Nat) (x : Value), a = some ⟨g, 0, none⟩ ∧ wr.cell? ⟨g, k, none⟩ = some x ∧ wr.frozen? ⟨g, k, none⟩ = false ∧
  ∀ z, OwI w y PO F V N (wr.setCell ⟨g, k, none⟩ (.int .i64 z)) := by
 obtain ⟨xs, hl, H⟩ := h.h2 i hi
 rw [hv] at H
 have hn := ints_n H
 obtain ⟨x, hx⟩ := some_of_lt (l := xs) (i := k) (by omega)
 obtain ⟨g, rfl, hP, hgl, hc, hf, hset⟩ := H.slot1 hx
 exact ⟨g, _, rfl, hc, hf, fun z => h.rest ap hi (by decide) hP (one_set _ _ _) (h.bel.setCell (ap.low _ (ap.inn i 2 g hi (by decide) hP)) _) (fun e => by cases e) (fun e => by cases e) (fun _ => ⟨xs.set k z, by rw [List.length_set]; exact hl, by rw [hv]; exact hset z⟩)⟩
theorem OwI.open1 (h : OwI w y PO F V N wr) (hi : i < 2) (hv : V i 1 = .slice a n e) (hk : k < n) : ∃ (g mk mc : Nat) (ma : Option Addr), a = some ⟨g, 0, none⟩ ∧ wr.cell? ⟨g, k, none⟩ = some (.slice ma mk mc) ∧ mk ≤ 1000000 := by
 obtain ⟨ls, hl, hm, H⟩ := h.h1 i hi
 rw [hv] at H
 have hn := lls_n H
 obtain ⟨m, hmm⟩ := some_of_lt (l := ls) (i := k) (by omega)
 obtain ⟨g, Q, c, rfl, hP, hgl, hc, hQP, hQg, hH, hF⟩ := row1_in dLinks H hmm
 obtain ⟨ma, mc, rfl⟩ := slice_of hH.weak
 exact ⟨g, _, mc, ma, rfl, hc, hm m (List.mem_of_getElem? hmm)⟩
theorem OwI.set1 {g mk mc l : Nat} {ma : Option Addr} (h : OwI w y PO F V N wr) (ap : OwAp w.heap.size PO F) (hi : i < 2) (hv : V i 1 = .slice (some ⟨g, 0, none⟩) n e) (hk : k < n) (hcell : wr.cell? ⟨g, k, none⟩ = some (.slice ma mk mc)) (hl : l < mk) :
  ∃ (b : Nat) (x x' : Value), ma = some ⟨b, 0, none⟩ ∧ wr.cell? ⟨b, l * 2, none⟩ = some x ∧ wr.cell? ⟨b, l * 2 + 1, none⟩ = some x' ∧ (∀ o, wr.frozen? ⟨b, o, none⟩ = false) ∧
  ∀ z1 z2, OwI w y PO F V N ((wr.setCell ⟨b, l * 2, none⟩ (.int .i64 z1)).setCell ⟨b, l * 2 + 1, none⟩ (.int .i64 z2)) ∧ ((wr.setCell ⟨b, l * 2, none⟩ (.int .i64 z1)).setCell ⟨b, l * 2 + 1, none⟩ (.int .i64 z2)).cell? ⟨g, k, none⟩ = some (.slice ma mk mc) := by
 obtain ⟨ls, hll, hm, H⟩ := h.h1 i hi
 rw [hv] at H
 have hn := lls_n H
 obtain ⟨m, hmm⟩ := some_of_lt (l := ls) (i := k) (by omega)
 obtain ⟨g', Q, c, eg, hP, hgl, hc, hQP, hQg, hH, hF⟩ := row1_in dLinks H hmm
 simp only [Option.some.injEq, Addr.mk.injEq, true_and, and_true] at eg
 subst eg
 rw [hc] at hcell
 cases hcell
 have hml : mk = m.length := by have := Holds.len hH; obtain ⟨a', c', e'⟩ := this; rw [List.length_map] at e'; cases e'; rfl
 have hm20 := hm m (List.mem_of_getElem? hmm)
 obtain ⟨x, hx⟩ := some_of_lt (l := m) (i := l) (by omega)
 obtain ⟨b, rfl, hQb, hbl, hc1, hc2, hfz, hset⟩ := hH.slot2 hx
 have hb2 := hQP b hQb
 have hlo := ap.low _ (ap.inn i 1 b hi (by decide) hb2)
 have hgb : b ≠ g := fun e => hQg (e ▸ hQb)
 refine ⟨b, _, _, rfl, hc1, hc2, hfz, fun z1 z2 => ⟨h.rest ap hi (by decide) hb2 (fun P hP => ((SameOn.refl _ _).set _ _ hP).set _ _ hP) ((h.bel.setCell hlo _).setCell hlo _) (fun e => by cases e) (fun _ => ?_) (fun e => by cases e), ?_⟩⟩
 ·refine ⟨ls.set k (m.set l (z1, z2)), by rw [List.length_set]; exact hll, fun l' hl' => ?_, ?_⟩
  ·rcases List.mem_or_eq_of_mem_set hl' with h' | h'
   ·exact hm l' h'
   ·rw [h', List.length_set]; exact hm20
  ·rw [hv]
   exact hF _ _ (((SameOn.refl _ _).set _ _ (fun hh => hh hQb)).set _ _ (fun hh => hh hQb)) (hset z1 z2)
 ·exact (World.cell?_setCell_other _ _ _ _ (by simp <;> omega)).trans ((World.cell?_setCell_other _ _ _ _ (by simp <;> omega)).trans hc)
end
theorem cutC_idem (c : Cf) : cutC (cutC c) = cutC c := by
 unfold cutC
 simp only [List.take_take, Nat.min_self, ← List.map_take, List.map_map]
 congr 1 <;> (try rfl) <;> (refine List.map_congr_left (fun x _ => ?_); simp [Function.comp, List.take_take])
theorem small_okO {A : Ap} {c : Cf} (h : CfOK A c) : SmallCf c := by
 have h1 := h.1.1.2.2.1
 have h2 := h.1.1.2.1
 have h3 := h.2.states
 have h4 := h.2.links
 have h5 := h.2.sent
 refine ⟨by omega, by omega, by omega, fun m hm => ?_⟩
 obtain ⟨i, hi⟩ := List.mem_iff_getElem?.1 hm
 obtain ⟨q, m', _, hm', hk⟩ := cf_at h (i := i) (by have := lt_of_get hi; omega)
 rw [hi] at hm'
 cases hm'
 have := linkOK_len hk
 omega
theorem applied_small {A : Ap} {c : Cf} {s : Sp} (h : CfOK A c) : SmallCf (applied A c s) := by
 unfold applied
 split
 ·next e => exact small_okO (doneOf_ok h e)
 ·exact ⟨by decide, by decide, by decide, fun m hm => by cases hm⟩
def vOf (x1 x2 x3 y1 y2 y3 : Value) : Nat → Nat → Value := fun i j => match i, j with
 | 0, 0 => x1
 | 0, 1 => x2
 | 0, _ => x3
 | _, 0 => y1
 | _, 1 => y2
 | _, _ => y3
def fOf (x1 x2 x3 y1 y2 y3 : Nat → Prop) : Nat → Nat → Nat → Prop := fun i j => match i, j with
 | 0, 0 => x1
 | 0, 1 => x2
 | 0, _ => x3
 | _, 0 => y1
 | _, 1 => y2
 | _, _ => y3
theorem two_cases {i : Nat} (h : i < 2) : i = 0 ∨ i = 1 := by omega
theorem three_cases {i : Nat} (h : i < 3) : i = 0 ∨ i = 1 ∨ i = 2 := by omega
theorem owI_mk {w y : World} {cx cy : Cf} {x1 x2 x3 y1 y2 y3 : Value} {B0 B1 B2 B3 : Nat} (hb : Below w.heap.size w y) (hx : HoldsL True (fun q => B0 ≤ q ∧ q < B1) y [x1, x2, x3] cx.d) (hy : HoldsL True (fun q => B2 ≤ q ∧ q < B3) y [y1, y2, y3] cy.d) (sx : SmallCf cx) (sy : SmallCf cy) (h01 : B0 ≤ B1) (h12 : B1 ≤ B2) (h0 : w.heap.size ≤ B0) :
  ∃ (V : Nat → Nat → Value) (F : Nat → Nat → Nat → Prop) (N : Nat → Nat → Nat) (PO : Nat → Prop), V = vOf x1 x2 x3 y1 y2 y3 ∧ (∀ i j, i < 2 → j < 3 → ∃ a e, V i j = .slice a (N i j) e) ∧ OwI w y PO F V N y ∧ OwAp w.heap.size PO F ∧ (∀ i j, i < 2 → j < 3 → N i j ≤ 1000000) ∧ ∀ q, PO q → (B0 ≤ q ∧ q < B1) ∨ (B2 ≤ q ∧ q < B3) := by
 obtain ⟨P1, P2, P3, g1, g2, g3, i1, i2, i3, ap⟩ := cf_openL hx
 obtain ⟨Q1, Q2, Q3, k1, k2, k3, j1, j2, j3, aq⟩ := cf_openL hy
 obtain ⟨d1, d2, d3⟩ := ap trivial
 obtain ⟨f1, f2, f3⟩ := aq trivial
 have hin : ∀ i j q, i < 2 → j < 3 → fOf P1 P2 P3 Q1 Q2 Q3 i j q → (i = 0 ∧ B0 ≤ q ∧ q < B1) ∨ (i = 1 ∧ B2 ≤ q ∧ q < B3) := fun i j q hi hj hf => by
  rcases two_cases hi with rfl | rfl <;> rcases three_cases hj with rfl | rfl | rfl
  ·exact .inl ⟨rfl, i1 q hf⟩
  ·exact .inl ⟨rfl, i2 q hf⟩
  ·exact .inl ⟨rfl, i3 q hf⟩
  ·exact .inr ⟨rfl, j1 q hf⟩
  ·exact .inr ⟨rfl, j2 q hf⟩
  ·exact .inr ⟨rfl, j3 q hf⟩
 refine ⟨vOf x1 x2 x3 y1 y2 y3, fOf P1 P2 P3 Q1 Q2 Q3, fun i j => match i, j with
  | 0, 0 => cx.states.length
  | 0, 1 => cx.links.length
  | 0, _ => cx.sent.length
  | _, 0 => cy.states.length
  | _, 1 => cy.links.length
  | _, _ => cy.sent.length, fun q => ∃ i j, i < 2 ∧ j < 3 ∧ fOf P1 P2 P3 Q1 Q2 Q3 i j q, rfl, fun i j hi hj => ?_, ⟨hb, SameOn.refl _ _, fun i hi => ?_, fun i hi => ?_, fun i hi => ?_⟩, ⟨fun q hq => ?_, fun i j q hi hj h => ⟨i, j, hi, hj, h⟩, fun i j i' j' q hi hj hi' hj' h h' => ?_⟩, fun i j hi hj => ?_, fun q hq => ?_⟩
 ·rcases two_cases hi with rfl | rfl <;> rcases three_cases hj with rfl | rfl | rfl
  ·obtain ⟨a, e, h⟩ := Holds.len g1; rw [List.length_map] at h; exact ⟨a, e, h⟩
  ·obtain ⟨a, e, h⟩ := Holds.len g2; rw [List.length_map] at h; exact ⟨a, e, h⟩
  ·obtain ⟨a, e, h⟩ := Holds.len g3; rw [List.length_map] at h; exact ⟨a, e, h⟩
  ·obtain ⟨a, e, h⟩ := Holds.len k1; rw [List.length_map] at h; exact ⟨a, e, h⟩
  ·obtain ⟨a, e, h⟩ := Holds.len k2; rw [List.length_map] at h; exact ⟨a, e, h⟩
  ·obtain ⟨a, e, h⟩ := Holds.len k3; rw [List.length_map] at h; exact ⟨a, e, h⟩
 ·rcases two_cases hi with rfl | rfl
  ·exact ⟨_, rfl, g1⟩
  ·exact ⟨_, rfl, k1⟩
 ·rcases two_cases hi with rfl | rfl
  ·exact ⟨_, rfl, sx.2.2.2, g2⟩
  ·exact ⟨_, rfl, sy.2.2.2, k2⟩
 ·rcases two_cases hi with rfl | rfl
  ·exact ⟨_, rfl, g3⟩
  ·exact ⟨_, rfl, k3⟩
 ·obtain ⟨i, j, hi, hj, hf⟩ := hq
  rcases hin i j q hi hj hf with h | h <;> omega
 ·have a1 := hin i j q hi hj h
  have a2 := hin i' j' q hi' hj' h'
  have e : i = i' := by omega
  subst e
  refine ⟨rfl, ?_⟩
  rcases two_cases hi with rfl | rfl <;> rcases three_cases hj with rfl | rfl | rfl <;> rcases three_cases hj' with rfl | rfl | rfl <;> first | rfl | exact (d1 q h h').elim | exact (d1 q h' h).elim | exact (d2 q h h').elim | exact (d2 q h' h).elim | exact (d3 q h h').elim | exact (d3 q h' h).elim | exact (f1 q h h').elim | exact (f1 q h' h).elim | exact (f2 q h h').elim | exact (f2 q h' h).elim | exact (f3 q h h').elim | exact (f3 q h' h).elim
 ·rcases two_cases hi with rfl | rfl <;> rcases three_cases hj with rfl | rfl | rfl
  ·exact sx.1
  ·exact sx.2.1
  ·exact sx.2.2.1
  ·exact sy.1
  ·exact sy.2.1
  ·exact sy.2.2.1
 ·obtain ⟨i, j, hi, hj, hf⟩ := hq
  rcases hin i j q hi hj hf with h | h
  ·exact .inl h.2
  ·exact .inr h.2
end Go.Proofs.Ytennbiajnkobnaa

