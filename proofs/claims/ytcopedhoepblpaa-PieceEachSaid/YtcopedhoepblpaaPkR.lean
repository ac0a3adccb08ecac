/- A piece's own lists, written all over: what stays. Written by gen_psides.py. -/
import Derived.Test.YtcopedhoepblpaaPkP
set_option linter.unusedSimpArgs false
set_option linter.unusedVariables false
set_option maxRecDepth 100000
namespace Go.Proofs.Ytcopedhoepblpaa
open Go.RowKit Go.PlainAid

theorem row_addr {S : Prop} {P : Nat → Prop} {w : World} {a : Option Addr} {k cap n i : Nat} {xs : List (List D)} {ds : List D} (h : Holds S P w (.slice a k cap) (.row n xs)) (hx : xs[i]? = some ds) : ∃ b o, a = some ⟨b, o, none⟩ := by
  cases h with
  | nil => simp at hx
  | row => exact ⟨_, _, rfl⟩
/-- One list of lists, to be written in. -/
theorem row1_in {α : Type} (f : α → D) {P : Nat → Prop} {w : World} {a : Option Addr} {k cap i : Nat} {ls : List α} {m : α} (h : Holds True P w (.slice a k cap) (.row 1 (ls.map fun m => [f m]))) (hm : ls[i]? = some m) :
    ∃ (g : Nat) (Q : Nat → Prop) (c : Value), a = some ⟨g, 0, none⟩ ∧ P g ∧ g < w.heap.size ∧ w.cell? ⟨g, i, none⟩ = some c ∧ (∀ q, Q q → P q) ∧ ¬ Q g ∧ Holds True Q w c (f m) ∧
      ∀ (w2 : World) (m' : α), SameOn (fun q => ¬ Q q) w w2 → Holds True Q w2 c (f m') → Holds True P w2 (.slice a k cap) (.row 1 ((ls.set i m').map fun m => [f m])) := by
  have hi : (ls.map fun m => [f m])[i]? = some [f m] := by rw [List.getElem?_map, hm]; rfl
  obtain ⟨b, o, rfl⟩ := row_addr h hi
  obtain ⟨Q, cs, rfl, hP, hO, hb, hl, hc, hQP, hQb, hH, hF⟩ := h.elem hi
  have hH1 := hH
  obtain ⟨h1, fp, h2, h3, h4⟩ := hH
  match cs, h1 with
  | [c], _ =>
    have hc0 := hc 0 c rfl
    have hQ0 : Holds True Q w c (f m) := (h4 0 c (f m) rfl rfl).wide (fun q _ hq => h2 0 q hq)
    refine ⟨b, Q, c, rfl, hP, hb, by simpa using hc0, hQP, hQb, hQ0, fun w2 m' hs hn => ?_⟩
    have e : (ls.set i m').map (fun m => [f m]) = (ls.map fun m => [f m]).set i [f m'] := by rw [List.map_set]
    rw [e]
    have key := hF w2 [c] [f m'] Q (hs.sub (fun q hq => hq.2.2)) (hO.same hs hQb hb) rfl (fun j c' hj => (hs.cell (a := ⟨b, i * 1 + j, none⟩) hQb hb).trans (hc j c' hj)) (fun o c' _ ho => (hs.cell (a := ⟨b, o, none⟩) hQb hb).trans ho)
      ⟨rfl, fun j q => j = 0 ∧ Q q, fun _ _ h => h.2, fun _ j j' q h h' => h.1.trans h'.1.symm, fun j c' d hc' hd => ?_⟩ (fun q hq => ⟨fun e => hQb (e ▸ hq), .inl hq⟩)
    · exact key.wide (fun q _ hq => hq.elim id (hQP q))
    · match j, hc', hd with
      | 0, hc', hd => simp at hc' hd; subst hc' hd; exact hn.wide (fun q _ hq => ⟨rfl, hq⟩)
      | j + 1, hc', hd => simp at hc'
theorem holdsL3 {P : Nat → Prop} {w : World} {v1 v2 v3 : Value} {d1 d2 d3 : D} (h : HoldsL True P w [v1, v2, v3] [d1, d2, d3]) : ∃ F1 F2 F3 : Nat → Prop, (∀ q, F1 q ∨ F2 q ∨ F3 q → P q ∧ q < w.heap.size) ∧ (∀ q, F1 q → ¬ F2 q ∧ ¬ F3 q) ∧ (∀ q, F2 q → ¬ F3 q) ∧ Holds True F1 w v1 d1 ∧ Holds True F2 w v2 d2 ∧ Holds True F3 w v3 d3 := by
  obtain ⟨_, fp, h2, h3, h4⟩ := h
  refine ⟨fun q => fp 0 q ∧ q < w.heap.size, fun q => fp 1 q ∧ q < w.heap.size, fun q => fp 2 q ∧ q < w.heap.size, ?_, ?_, ?_, (h4 0 v1 d1 rfl rfl).wide (fun q hb hq => ⟨hq, hb⟩), (h4 1 v2 d2 rfl rfl).wide (fun q hb hq => ⟨hq, hb⟩), (h4 2 v3 d3 rfl rfl).wide (fun q hb hq => ⟨hq, hb⟩)⟩
  · rintro q (h | h | h)
    · exact ⟨h2 0 q h.1, h.2⟩
    · exact ⟨h2 1 q h.1, h.2⟩
    · exact ⟨h2 2 q h.1, h.2⟩
  · intro q h
    exact ⟨fun h' => by have := h3 trivial 0 1 q h.1 h'.1; omega, fun h' => by have := h3 trivial 0 2 q h.1 h'.1; omega⟩
  · intro q h h'
    have := h3 trivial 1 2 q h.1 h'.1
    omega
theorem HoldsL.inter {S : Prop} {P P' : Nat → Prop} {w : World} {cs : List Value} {ds : List D} (h : HoldsL S P w cs ds) (g : HoldsL S P' w cs ds) : HoldsL S (fun q => P q ∧ P' q) w cs ds := by
  obtain ⟨h1, fp, h2, h3, h4⟩ := h
  obtain ⟨g1, gp, g2, g3, g4⟩ := g
  exact ⟨h1, fun j k => fp j k ∧ gp j k, fun j k h => ⟨h2 j k h.1, g2 j k h.2⟩, fun s j j' k h h' => h3 s j j' k h.1 h'.1, fun j c d hc hd => (h4 j c d hc hd).inter (g4 j c d hc hd)⟩
def Z6 : List Value := [.int .i64 0, .int .i64 0, .int .i64 0, .slice none 0 0, .slice none 0 0, .slice none 0 0]
/-- What an operation made, in blocks of P: 1 a piece with lists of its own, 3 a piece, else a piece's box. -/
def In7 (g : Nat) (p : Pc) (P : Nat → Prop) (v : Value) (w : World) : Prop :=
  if g = 1 then ∃ u1 u2 u3, v = pcv p u1 u2 u3 ∧ HoldsL True P w [u1, u2, u3] p.d
  else if g = 3 then ∃ u1 u2 u3, v = pcv p u1 u2 u3 ∧ HoldsL False P w [u1, u2, u3] p.d
  else ∃ b, v = .pointer (some ⟨b, 0, none⟩) ∧ P b ∧ b < w.heap.size ∧ BoxAt b Z6 w ∧ ∀ i, w.frozen? ⟨b, i, none⟩ = false
theorem in7_1 {p : Pc} {P : Nat → Prop} {v : Value} {w : World} : In7 1 p P v w ↔ ∃ u1 u2 u3, v = pcv p u1 u2 u3 ∧ HoldsL True P w [u1, u2, u3] p.d := by unfold In7; rw [if_pos rfl]
theorem in7_3 {p : Pc} {P : Nat → Prop} {v : Value} {w : World} : In7 3 p P v w ↔ ∃ u1 u2 u3, v = pcv p u1 u2 u3 ∧ HoldsL False P w [u1, u2, u3] p.d := by unfold In7; rw [if_neg (by decide), if_pos rfl]
theorem in7_b {g : Nat} {p : Pc} {P : Nat → Prop} {v : Value} {w : World} (h1 : g ≠ 1) (h3 : g ≠ 3) : In7 g p P v w ↔ ∃ b, v = .pointer (some ⟨b, 0, none⟩) ∧ P b ∧ b < w.heap.size ∧ BoxAt b Z6 w ∧ ∀ i, w.frozen? ⟨b, i, none⟩ = false := by unfold In7; rw [if_neg h1, if_neg h3]
theorem In7.later {g : Nat} {p : Pc} {P : Nat → Prop} {v : Value} {w w' : World} (h : In7 g p P v w) (hb : Below w.heap.size w w') : In7 g p P v w' := by
  by_cases h1 : g = 1
  · subst h1; obtain ⟨a, b, c, e, h⟩ := in7_1.1 h; exact in7_1.2 ⟨a, b, c, e, h.later hb⟩
  by_cases h3 : g = 3
  · subst h3; obtain ⟨a, b, c, e, h⟩ := in7_3.1 h; exact in7_3.2 ⟨a, b, c, e, h.later hb⟩
  obtain ⟨b, e, hp, hl, hk, hf⟩ := (in7_b h1 h3).1 h
  exact (in7_b h1 h3).2 ⟨b, e, hp, Nat.lt_of_lt_of_le hl hb.size, hk.below hb, fun i => (hb.frozen (p := ⟨b, i, none⟩) hl).trans (hf i)⟩
theorem In7.wide {g : Nat} {p : Pc} {P P' : Nat → Prop} {v : Value} {w : World} (h : In7 g p P v w) (hs : ∀ q, q < w.heap.size → P q → P' q) : In7 g p P' v w := by
  by_cases h1 : g = 1
  · subst h1; obtain ⟨a, b, c, e, h⟩ := in7_1.1 h; exact in7_1.2 ⟨a, b, c, e, h.wide hs⟩
  by_cases h3 : g = 3
  · subst h3; obtain ⟨a, b, c, e, h⟩ := in7_3.1 h; exact in7_3.2 ⟨a, b, c, e, h.wide hs⟩
  obtain ⟨b, e, hp, hl, hk⟩ := (in7_b h1 h3).1 h
  exact (in7_b h1 h3).2 ⟨b, e, hs b hl hp, hl, hk⟩
theorem pcv_inj {p : Pc} {a b c a' b' c' : Value} (h : pcv p a b c = pcv p a' b' c') : a = a' ∧ b = b' ∧ c = c' := by
  unfold pcv at h
  simp only [Value.agg.injEq, Array.mk.injEq, List.cons.injEq, true_and, and_true] at h
  exact h
theorem In7.inter {g : Nat} {p : Pc} {P P' : Nat → Prop} {v : Value} {w : World} (h : In7 g p P v w) (h' : In7 g p P' v w) : In7 g p (fun q => P q ∧ P' q) v w := by
  by_cases h1 : g = 1
  · subst h1; obtain ⟨a, b, c, e, k⟩ := in7_1.1 h; obtain ⟨a', b', c', e', k'⟩ := in7_1.1 h'
    subst e; obtain ⟨rfl, rfl, rfl⟩ := pcv_inj e'; exact in7_1.2 ⟨_, _, _, rfl, HoldsL.inter k k'⟩
  by_cases h3 : g = 3
  · subst h3; obtain ⟨a, b, c, e, k⟩ := in7_3.1 h; obtain ⟨a', b', c', e', k'⟩ := in7_3.1 h'
    subst e; obtain ⟨rfl, rfl, rfl⟩ := pcv_inj e'; exact in7_3.2 ⟨_, _, _, rfl, HoldsL.inter k k'⟩
  obtain ⟨b, e, hp, hl, hk⟩ := (in7_b h1 h3).1 h
  obtain ⟨b', e', hp', hl', hk'⟩ := (in7_b h1 h3).1 h'
  subst e
  simp only [Value.pointer.injEq, Option.some.injEq, Addr.mk.injEq, and_true] at e'
  subst e'
  exact (in7_b h1 h3).2 ⟨b, rfl, ⟨hp, hp'⟩, hl, hk⟩
def ph7 (p : Pc) (y : World) (g : Nat) (v : Value) (w : World) : Prop := In7 g p (fun q => y.heap.size ≤ q) v w
/-- g came behind h. -/
def ps7 (p : Pc) (y : World) (g h : Nat) (v u : Value) (w : World) : Prop := ∃ c : Nat, In7 g p (fun q => c ≤ q) v w ∧ In7 h p (fun q => q < c) u w
theorem ph7_mono {p : Pc} {y : World} {g : Nat} {v : Value} {w w' : World} (h : ph7 p y g v w) (hb : Below w.heap.size w w') : ph7 p y g v w' := In7.later h hb
theorem ps7_mono {p : Pc} {y : World} {g h : Nat} {v u : Value} {w w' : World} (hh : ps7 p y g h v u w) (hb : Below w.heap.size w w') : ps7 p y g h v u w' := by
  obtain ⟨c, h1, h2⟩ := hh
  exact ⟨c, h1.later hb, h2.later hb⟩
theorem apart7 {p : Pc} {y : World} {g h : Nat} {v u : Value} {w : World} (hh : ps7 p y g h v u w ∨ ps7 p y h g u v w) : ∃ P Q : Nat → Prop, (∀ q, P q → ¬ Q q) ∧ In7 g p P v w ∧ In7 h p Q u w := by
  rcases hh with ⟨c, h1, h2⟩ | ⟨c, h1, h2⟩
  · exact ⟨_, _, fun q (hp : c ≤ q) (hq : q < c) => by omega, h1, h2⟩
  · exact ⟨_, _, fun q (hp : q < c) (hq : c ≤ q) => by omega, h2, h1⟩
theorem fin7 {p : Pc} {y : World} {v1 v3 v4 v5 : Value} {w : World} (f1 : ph7 p y 1 v1 w) (f3 : ph7 p y 3 v3 w) (f4 : ph7 p y 4 v4 w) (f5 : ph7 p y 5 v5 w) (h13 : ps7 p y 1 3 v1 v3 w ∨ ps7 p y 3 1 v3 v1 w) (h14 : ps7 p y 1 4 v1 v4 w ∨ ps7 p y 4 1 v4 v1 w)
    (h15 : ps7 p y 1 5 v1 v5 w ∨ ps7 p y 5 1 v5 v1 w) (h34 : ps7 p y 3 4 v3 v4 w ∨ ps7 p y 4 3 v4 v3 w) (h35 : ps7 p y 3 5 v3 v5 w ∨ ps7 p y 5 3 v5 v3 w) (h45 : ps7 p y 4 5 v4 v5 w ∨ ps7 p y 5 4 v5 v4 w) :
    ∃ (PO PC : Nat → Prop) (b4 b5 : Nat) (u1 u2 u3 t1 t2 t3 : Value), v1 = pcv p u1 u2 u3 ∧ v3 = pcv p t1 t2 t3 ∧ v4 = .pointer (some ⟨b4, 0, none⟩) ∧ v5 = .pointer (some ⟨b5, 0, none⟩) ∧ HoldsL True PO w [u1, u2, u3] p.d ∧ HoldsL False PC w [t1, t2, t3] p.d ∧
      (∀ q, PO q → y.heap.size ≤ q ∧ ¬ PC q ∧ q ≠ b4 ∧ q ≠ b5) ∧ (∀ q, PC q → y.heap.size ≤ q ∧ q ≠ b4 ∧ q ≠ b5) ∧ b4 ≠ b5 ∧ (y.heap.size ≤ b4 ∧ y.heap.size ≤ b5) ∧ (BoxAt b4 Z6 w ∧ BoxAt b5 Z6 w) ∧ (∀ i, w.frozen? ⟨b4, i, none⟩ = false) ∧ (∀ i, w.frozen? ⟨b5, i, none⟩ = false) := by
  obtain ⟨A1, A3, d1, x1, x3⟩ := apart7 h13
  obtain ⟨B1, B4, d2, y1, y4⟩ := apart7 h14
  obtain ⟨C1, C5, d3, z1, z5⟩ := apart7 h15
  obtain ⟨D3, D4, d4, k3, k4⟩ := apart7 h34
  obtain ⟨E3, E5, d5, l3, l5⟩ := apart7 h35
  obtain ⟨G4, G5, d6, m4, m5⟩ := apart7 h45
  obtain ⟨u1, u2, u3, e1, HO⟩ := in7_1.1 ((((In7.inter f1 x1).inter y1).inter z1))
  obtain ⟨t1, t2, t3, e3, HC⟩ := in7_3.1 ((((In7.inter f3 x3).inter k3).inter l3))
  obtain ⟨b4, e4, p4, l4, K4, Z4⟩ := (in7_b (by decide) (by decide)).1 ((((In7.inter f4 y4).inter k4).inter m4))
  obtain ⟨b5, e5, p5, _, K5, Z5⟩ := (in7_b (by decide) (by decide)).1 ((((In7.inter f5 z5).inter l5).inter m5))
  refine ⟨_, _, b4, b5, u1, u2, u3, t1, t2, t3, e1, e3, e4, e5, HO, HC, fun q hq => ⟨hq.1.1.1, fun hc => d1 q hq.1.1.2 hc.1.1.2, ?_, ?_⟩, fun q hq => ⟨hq.1.1.1, ?_, ?_⟩, ?_, ⟨p4.1.1.1, p5.1.1.1⟩, ⟨K4, K5⟩, Z4, Z5⟩
  · rintro rfl; exact d2 _ hq.1.2 p4.1.1.2
  · rintro rfl; exact d3 _ hq.2 p5.1.1.2
  · rintro rfl; exact d4 _ hq.1.2 p4.1.2
  · rintro rfl; exact d5 _ hq.2 p5.1.2
  · rintro rfl; exact d6 _ p4.2 p5.2
/-- Three parts, each in blocks of its own. -/
structure Apart3 (B0 : Nat) (PO F1 F2 F3 : Nat → Prop) : Prop where
  low : ∀ q, PO q → B0 ≤ q
  inn : ∀ q, F1 q ∨ F2 q ∨ F3 q → PO q
  d1 : ∀ q, F1 q → ¬ F2 q ∧ ¬ F3 q
  d2 : ∀ q, F2 q → ¬ F3 q
/-- A piece's own lists, however written, and the rest, as it was. -/
structure SdI (w wL : World) (PO F1 F2 F3 : Nat → Prop) (v1 v2 v3 : Value) (n1 n2 n3 : Nat) (wr : World) : Prop where
  bel : Below w.heap.size w wr
  same : SameOn (fun q => ¬ PO q) wL wr
  h1 : ∃ xs : List Int, xs.length = n1 ∧ Holds True F1 wr v1 (dInts xs)
  h2 : ∃ ls : List Lks, ls.length = n2 ∧ (∀ m ∈ ls, m.length ≤ 20) ∧ Holds True F2 wr v2 (dLls ls)
  h3 : ∃ ls : List (List Int), ls.length = n3 ∧ (∀ m ∈ ls, m.length ≤ 20) ∧ Holds True F3 wr v3 (dIls ls)
section
variable {w wL wr : World} {PO F1 F2 F3 : Nat → Prop} {v1 v2 v3 : Value} {a : Option Addr} {n1 n2 n3 n e i : Nat}
theorem SdI.set1 (h : SdI w wL PO F1 F2 F3 (.slice a n e) v2 v3 n1 n2 n3 wr) (ap : Apart3 w.heap.size PO F1 F2 F3) (hi : i < n1) : ∃ (g : Nat) (x : Value), a = some ⟨g, 0, none⟩ ∧ n = n1 ∧ wr.cell? ⟨g, i, none⟩ = some x ∧ wr.frozen? ⟨g, i, none⟩ = false ∧
    ∀ y, SdI w wL PO F1 F2 F3 (.slice a n e) v2 v3 n1 n2 n3 (wr.setCell ⟨g, i, none⟩ (.int .i64 y)) := by
  obtain ⟨xs, hl, H1⟩ := h.h1
  obtain ⟨x, hx⟩ := some_of_lt (l := xs) (i := i) (by omega)
  have hn := ints_len H1
  obtain ⟨g, rfl, hP, hgl, hc, hf, hset⟩ := H1.slot1 hx
  have hg := ap.inn g (.inl hP)
  have hd := ap.d1 g hP
  refine ⟨g, _, rfl, by omega, hc, hf, fun y => ⟨h.bel.setCell (ap.low _ hg) _, h.same.set _ _ (fun hh => hh hg), ⟨_, by rw [List.length_set]; exact hl, hset y⟩, ?_, ?_⟩⟩
  · obtain ⟨ls, h1, h2, h3⟩ := h.h2
    exact ⟨ls, h1, h2, h3.same ((SameOn.refl _ _).set _ _ hd.1)⟩
  · obtain ⟨ls, h1, h2, h3⟩ := h.h3
    exact ⟨ls, h1, h2, h3.same ((SameOn.refl _ _).set _ _ hd.2)⟩
theorem SdI.open2 (h : SdI w wL PO F1 F2 F3 v1 (.slice a n e) v3 n1 n2 n3 wr) (hi : i < n2) : ∃ (g mk mc : Nat) (ma : Option Addr), a = some ⟨g, 0, none⟩ ∧ n = n2 ∧ wr.cell? ⟨g, i, none⟩ = some (.slice ma mk mc) ∧ mk ≤ 20 := by
  obtain ⟨ls, hl, hm20, H2⟩ := h.h2
  obtain ⟨m, hm⟩ := some_of_lt (l := ls) (i := i) (by omega)
  have hn := lls_len H2
  obtain ⟨g, Q, c, rfl, hP, hgl, hc, hQP, hQg, hH, hF⟩ := row1_in dLinks H2 hm
  obtain ⟨ma, mc, rfl⟩ := slice_of hH.weak
  exact ⟨g, _, mc, ma, rfl, by omega, hc, hm20 m (List.mem_of_getElem? hm)⟩
theorem SdI.set2 {g mk mc k : Nat} {ma : Option Addr} (h : SdI w wL PO F1 F2 F3 v1 (.slice (some ⟨g, 0, none⟩) n e) v3 n1 n2 n3 wr) (ap : Apart3 w.heap.size PO F1 F2 F3) (hi : i < n2) (hcell : wr.cell? ⟨g, i, none⟩ = some (.slice ma mk mc)) (hk : k < mk) :
    ∃ (b : Nat) (x x' : Value), ma = some ⟨b, 0, none⟩ ∧ wr.cell? ⟨b, k * 2, none⟩ = some x ∧ wr.cell? ⟨b, k * 2 + 1, none⟩ = some x' ∧ (∀ o, wr.frozen? ⟨b, o, none⟩ = false) ∧
    ∀ y z, SdI w wL PO F1 F2 F3 v1 (.slice (some ⟨g, 0, none⟩) n e) v3 n1 n2 n3 ((wr.setCell ⟨b, k * 2, none⟩ (.int .i64 y)).setCell ⟨b, k * 2 + 1, none⟩ (.int .i64 z)) ∧ ((wr.setCell ⟨b, k * 2, none⟩ (.int .i64 y)).setCell ⟨b, k * 2 + 1, none⟩ (.int .i64 z)).cell? ⟨g, i, none⟩ = some (.slice ma mk mc) := by
  obtain ⟨ls, hl, hm20, H2⟩ := h.h2
  obtain ⟨m, hm⟩ := some_of_lt (l := ls) (i := i) (by omega)
  obtain ⟨g', Q, c, eg, hP, hgl, hc, hQP, hQg, hH, hF⟩ := row1_in dLinks H2 hm
  simp only [Option.some.injEq, Addr.mk.injEq, true_and, and_true] at eg
  subst eg
  rw [hc] at hcell
  cases hcell
  have hml : mk = m.length := by have := Holds.len hH; obtain ⟨a', c', e'⟩ := this; rw [List.length_map] at e'; cases e'; rfl
  have hmm := hm20 m (List.mem_of_getElem? hm)
  obtain ⟨x, hx⟩ := some_of_lt (l := m) (i := k) (by omega)
  obtain ⟨b, rfl, hQb, hbl, hc1, hc2, hfz, hset⟩ := hH.slot2 hx
  have hb2 := hQP b hQb
  have hg := ap.inn b (.inr (.inl hb2))
  have hgb : b ≠ g := fun e => hQg (e ▸ hQb)
  refine ⟨b, _, _, rfl, hc1, hc2, hfz, fun y z => ⟨⟨(h.bel.setCell (ap.low _ hg) _).setCell (ap.low _ hg) _, (h.same.set _ _ (fun hh => hh hg)).set _ _ (fun hh => hh hg), ?_, ?_, ?_⟩, ?_⟩⟩
  · obtain ⟨xs, h1, h3⟩ := h.h1
    exact ⟨xs, h1, h3.same (((SameOn.refl _ _).set _ _ (fun hh => (ap.d1 _ hh).1 hb2)).set _ _ (fun hh => (ap.d1 _ hh).1 hb2))⟩
  · refine ⟨ls.set i (m.set k (y, z)), by rw [List.length_set]; exact hl, fun l hl' => ?_, hF _ _ (((SameOn.refl _ _).set _ _ (fun hh => hh hQb)).set _ _ (fun hh => hh hQb)) (hset y z)⟩
    rcases List.mem_or_eq_of_mem_set hl' with h' | h'
    · exact hm20 l h'
    · rw [h', List.length_set]; exact hmm
  · obtain ⟨xs, h1, h2, h3⟩ := h.h3
    exact ⟨xs, h1, h2, h3.same (((SameOn.refl _ _).set _ _ (ap.d2 _ hb2)).set _ _ (ap.d2 _ hb2))⟩
  · exact (World.cell?_setCell_other _ _ _ _ (by simp <;> omega)).trans ((World.cell?_setCell_other _ _ _ _ (by simp <;> omega)).trans hc)
theorem SdI.open3 (h : SdI w wL PO F1 F2 F3 v1 v2 (.slice a n e) n1 n2 n3 wr) (hi : i < n3) : ∃ (g mk mc : Nat) (ma : Option Addr), a = some ⟨g, 0, none⟩ ∧ n = n3 ∧ wr.cell? ⟨g, i, none⟩ = some (.slice ma mk mc) ∧ mk ≤ 20 := by
  obtain ⟨ls, hl, hm20, H2⟩ := h.h3
  obtain ⟨m, hm⟩ := some_of_lt (l := ls) (i := i) (by omega)
  have hn : n = ls.length := by have := Holds.len H2; obtain ⟨a', c', e'⟩ := this; rw [List.length_map] at e'; cases e'; rfl
  obtain ⟨g, Q, c, rfl, hP, hgl, hc, hQP, hQg, hH, hF⟩ := row1_in dInts H2 hm
  have hc2 : ∃ ma mc, c = .slice ma m.length mc := by have := Holds.len hH; rwa [List.length_map] at this
  obtain ⟨ma, mc, rfl⟩ := hc2
  exact ⟨g, _, mc, ma, rfl, by omega, hc, hm20 m (List.mem_of_getElem? hm)⟩
theorem SdI.set3 {g mk mc k : Nat} {ma : Option Addr} (h : SdI w wL PO F1 F2 F3 v1 v2 (.slice (some ⟨g, 0, none⟩) n e) n1 n2 n3 wr) (ap : Apart3 w.heap.size PO F1 F2 F3) (hi : i < n3) (hcell : wr.cell? ⟨g, i, none⟩ = some (.slice ma mk mc)) (hk : k < mk) :
    ∃ (b : Nat) (x : Value), ma = some ⟨b, 0, none⟩ ∧ wr.cell? ⟨b, k, none⟩ = some x ∧ wr.frozen? ⟨b, k, none⟩ = false ∧
    ∀ y, SdI w wL PO F1 F2 F3 v1 v2 (.slice (some ⟨g, 0, none⟩) n e) n1 n2 n3 (wr.setCell ⟨b, k, none⟩ (.int .i64 y)) ∧ (wr.setCell ⟨b, k, none⟩ (.int .i64 y)).cell? ⟨g, i, none⟩ = some (.slice ma mk mc) := by
  obtain ⟨ls, hl, hm20, H2⟩ := h.h3
  obtain ⟨m, hm⟩ := some_of_lt (l := ls) (i := i) (by omega)
  obtain ⟨g', Q, c, eg, hP, hgl, hc, hQP, hQg, hH, hF⟩ := row1_in dInts H2 hm
  simp only [Option.some.injEq, Addr.mk.injEq, true_and, and_true] at eg
  subst eg
  rw [hc] at hcell
  cases hcell
  have hml := ints_len hH
  have hmm := hm20 m (List.mem_of_getElem? hm)
  obtain ⟨x, hx⟩ := some_of_lt (l := m) (i := k) (by omega)
  obtain ⟨b, rfl, hQb, hbl, hc1, hfz, hset⟩ := hH.slot1 hx
  have hb2 := hQP b hQb
  have hg := ap.inn b (.inr (.inr hb2))
  have hgb : b ≠ g := fun e => hQg (e ▸ hQb)
  refine ⟨b, _, rfl, hc1, hfz, fun y => ⟨⟨h.bel.setCell (ap.low _ hg) _, h.same.set _ _ (fun hh => hh hg), ?_, ?_, ?_⟩, ?_⟩⟩
  · obtain ⟨xs, h1, h3⟩ := h.h1
    exact ⟨xs, h1, h3.same ((SameOn.refl _ _).set _ _ (fun hh => (ap.d1 _ hh).2 hb2))⟩
  · obtain ⟨xs, h1, h2, h3⟩ := h.h2
    exact ⟨xs, h1, h2, h3.same ((SameOn.refl _ _).set _ _ (fun hh => ap.d2 _ hh hb2))⟩
  · refine ⟨ls.set i (m.set k y), by rw [List.length_set]; exact hl, fun l hl' => ?_, hF _ _ ((SameOn.refl _ _).set _ _ (fun hh => hh hQb)) (hset y)⟩
    rcases List.mem_or_eq_of_mem_set hl' with h' | h'
    · exact hm20 l h'
    · rw [h', List.length_set]; exact hmm
  · exact (World.cell?_setCell_other _ _ _ _ (by simp <;> omega)).trans hc
end
end Go.Proofs.Ytcopedhoepblpaa
