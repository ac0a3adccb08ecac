/- pieceOf; Decode. Written by gen_decode.py. -/
import Derived.Test.YtcopedhoepblpaaPkI
import Derived.Deep.CutRange
set_option linter.unusedSimpArgs false
set_option linter.unusedVariables false
set_option maxRecDepth 100000
namespace Go.Proofs.Ytcopedhoepblpaa
open Go.RowKit Go.PlainAid

set_option maxHeartbeats 1000000 in
theorem nfrom_at (v : Value) (w : World) (a : Option Addr) (n c : Nat) (hv : v = .slice a n c) :
    Calls Try.prog 55 #[v] w fun e w' => e = .returned (.func (.func 76) #[] #[.pointer (some ⟨w.heap.size + 1, 0, none⟩), .pointer (some ⟨w.heap.size, 0, none⟩)]) ∧ (w.alloc (.cells #[v] 22)).alloc (.cells #[.int .i64 0] 3) = w' := by
  subst hv
  have hmf : ∀ (fn : Fn) (first cap : Array Value) (w : World), (Instr.makeFunc fn first cap).run Try.prog w = .ok (.func fn first cap) w := fun _ _ _ _ => rfl
  go_enter Try.func55, Try.ntmps55
  go_wp2_with fail
  go_ret
  exact ⟨rfl, rfl⟩
/-- A piece that is being read, in its box; the result's box. -/
structure PO (w0 : World) (Ba Bl nb pb rb : Nat) (l r : List Int) (vs : List Value) (w : World) : Prop where
  nx : NxAt w0 Ba Bl nb l r w
  bp : BoxAt pb vs w
  fp : ∀ i, w.frozen? ⟨pb, i, none⟩ = false
  br : BoxAt rb [.int .i64 0, .int .i64 0, .int .i64 0, .slice none 0 0, .slice none 0 0, .slice none 0 0] w
  fr : ∀ i, w.frozen? ⟨rb, i, none⟩ = false
  pn : pb ≠ Ba ∧ pb ≠ Bl ∧ pb ≠ nb
  rn : rb ≠ Ba ∧ rb ≠ Bl ∧ rb ≠ nb ∧ rb ≠ pb
  pg : w0.heap.size ≤ pb ∧ pb < w.heap.size
  rg : w0.heap.size ≤ rb ∧ rb < w.heap.size
theorem PO.call {w0 w w' : World} {Ba Bl nb pb rb : Nat} {l r r' : List Int} {vs : List Value} (h : PO w0 Ba Bl nb pb rb l r vs w) (hN : NxAt w0 Ba Bl nb l r' w') (hg : w.grownBy w' (some Ba)) : PO w0 Ba Bl nb pb rb l r' vs w' :=
  ⟨hN, fun i v e => hg.cell (h.bp i v e) (fun e => h.pn.1 (Option.some.inj e)), fun i => (World.frozen?_of_block (w := w) (hg.block pb h.pg.2 (fun e => h.pn.1 (Option.some.inj e)))).trans (h.fp i),
    fun i v e => hg.cell (h.br i v e) (fun e => h.rn.1 (Option.some.inj e)), fun i => (World.frozen?_of_block (w := w) (hg.block rb h.rg.2 (fun e => h.rn.1 (Option.some.inj e)))).trans (h.fr i), h.pn, h.rn, ⟨h.pg.1, Nat.lt_of_lt_of_le h.pg.2 hg.size⟩, ⟨h.rg.1, Nat.lt_of_lt_of_le h.rg.2 hg.size⟩⟩
theorem PO.store {w0 w : World} {Ba Bl nb pb rb : Nat} {l r : List Int} {vs : List Value} (h : PO w0 Ba Bl nb pb rb l r vs w) (i : Nat) (u : Value) (hi : i < vs.length) : PO w0 Ba Bl nb pb rb l r (vs.set i u) (w.setCell ⟨pb, i, none⟩ u) := by
  refine ⟨h.nx.set pb i u h.pn.1 h.pn.2.1 h.pn.2.2 h.pg.1, fun j v e => ?_, fun j => by rw [World.frozen?_setCell]; exact h.fp j, fun j v e => set_far (.inl (Ne.symm h.rn.2.2.2)) (h.br j v e), fun j => by rw [World.frozen?_setCell]; exact h.fr j, h.pn, h.rn, ⟨h.pg.1, by simpa using h.pg.2⟩, ⟨h.rg.1, by simpa using h.rg.2⟩⟩
  rw [List.getElem?_set] at e
  split at e
  · next hj =>
    subst hj
    have e2 : u = v := by simpa [hi] using e
    subst e2
    exact set_at (h.bp i _ (List.getElem?_eq_getElem hi))
  · next hj => exact set_far (.inr hj) (h.bp j v e)
/-- Data of lists read, that nothing touches that is still written. -/
def Afar (B Ba pb rb : Nat) (w : World) (v : Value) (d : D) : Prop := Holds False (fun q => B ≤ q ∧ q ≠ Ba ∧ q ≠ pb ∧ q ≠ rb) w v d
theorem Afar.call {B Ba pb rb : Nat} {w w' : World} {v : Value} {d : D} (h : Afar B Ba pb rb w v d) (hg : w.grownBy w' (some Ba)) : Afar B Ba pb rb w' v d := h.same ⟨hg.size, fun k hk hlt => hg.block k hlt (fun e => hk.2.1 (Option.some.inj e))⟩
theorem Afar.storeP {B Ba pb rb : Nat} {w : World} {v : Value} {d : D} (h : Afar B Ba pb rb w v d) (i : Nat) (u : Value) : Afar B Ba pb rb (w.setCell ⟨pb, i, none⟩ u) v d := h.same ((SameOn.refl _ _).set _ _ (fun h => h.2.2.1 rfl))
theorem Afar.storeR {B Ba pb rb : Nat} {w : World} {v : Value} {d : D} (h : Afar B Ba pb rb w v d) (i : Nat) (u : Value) : Afar B Ba pb rb (w.setCell ⟨rb, i, none⟩ u) v d := h.same ((SameOn.refl _ _).set _ _ (fun h => h.2.2.2 rfl))
/-- Six cells written. -/
abbrev set6 (w : World) (b : Nat) (x0 x1 x2 x3 x4 x5 : Value) : World := (((((w.setCell ⟨b, 0, none⟩ x0).setCell ⟨b, 1, none⟩ x1).setCell ⟨b, 2, none⟩ x2).setCell ⟨b, 3, none⟩ x3).setCell ⟨b, 4, none⟩ x4).setCell ⟨b, 5, none⟩ x5
theorem set6_at {w : World} {b : Nat} {x0 x1 x2 x3 x4 x5 : Value} (h : ∀ i, i < 6 → ∃ u, w.cell? ⟨b, i, none⟩ = some u) : BoxAt b [x0, x1, x2, x3, x4, x5] (set6 w b x0 x1 x2 x3 x4 x5) := by
  obtain ⟨u0, g0⟩ := h 0 (by omega)
  obtain ⟨u1, g1⟩ := h 1 (by omega)
  obtain ⟨u2, g2⟩ := h 2 (by omega)
  obtain ⟨u3, g3⟩ := h 3 (by omega)
  obtain ⟨u4, g4⟩ := h 4 (by omega)
  obtain ⟨u5, g5⟩ := h 5 (by omega)
  intro i v e
  match i, e with
  | 0, e => simp at e; subst e; exact set_far (.inr (by simp)) (set_far (.inr (by simp)) (set_far (.inr (by simp)) (set_far (.inr (by simp)) (set_far (.inr (by simp)) (set_at g0)))))
  | 1, e => simp at e; subst e; exact set_far (.inr (by simp)) (set_far (.inr (by simp)) (set_far (.inr (by simp)) (set_far (.inr (by simp)) (set_at (set_far (.inr (by simp)) g1)))))
  | 2, e => simp at e; subst e; exact set_far (.inr (by simp)) (set_far (.inr (by simp)) (set_far (.inr (by simp)) (set_at (set_far (.inr (by simp)) (set_far (.inr (by simp)) g2)))))
  | 3, e => simp at e; subst e; exact set_far (.inr (by simp)) (set_far (.inr (by simp)) (set_at (set_far (.inr (by simp)) (set_far (.inr (by simp)) (set_far (.inr (by simp)) g3)))))
  | 4, e => simp at e; subst e; exact set_far (.inr (by simp)) (set_at (set_far (.inr (by simp)) (set_far (.inr (by simp)) (set_far (.inr (by simp)) (set_far (.inr (by simp)) g4)))))
  | 5, e => simp at e; subst e; exact set_at (set_far (.inr (by simp)) (set_far (.inr (by simp)) (set_far (.inr (by simp)) (set_far (.inr (by simp)) (set_far (.inr (by simp)) g5)))))
  | i + 6, e => simp at e
theorem set6_below {w0 w : World} {B b : Nat} {x0 x1 x2 x3 x4 x5 : Value} (h : Below B w0 w) (hb : B ≤ b) : Below B w0 (set6 w b x0 x1 x2 x3 x4 x5) := (((((h.setCell hb _).setCell hb _).setCell hb _).setCell hb _).setCell hb _).setCell hb _
theorem set6_same {P : Nat → Prop} {w : World} {b : Nat} {x0 x1 x2 x3 x4 x5 : Value} (h : ¬ P b) : SameOn P w (set6 w b x0 x1 x2 x3 x4 x5) := ((((((SameOn.refl _ _).set _ _ h).set _ _ h).set _ _ h).set _ _ h).set _ _ h).set _ _ h
def PoTold (l : List Int) (w : World) (e : Ending) (w' : World) : Prop := ∃ v1 v2 v3, e = .returned (pcv (rdPc l) v1 v2 v3) ∧ HoldsL False (fun q => w.heap.size ≤ q) w' [v1, v2, v3] (rdPc l).d ∧ Below w.heap.size w w'
set_option maxHeartbeats 8000000 in
theorem pieceOf_at (l : List Int) (v : Value) (w : World) (h : Has w v (dInts l)) (hn : l.length ≤ 1000000) : Calls Try.prog 29 #[v] w (PoTold l w) := by
  have hmf : ∀ (fn : Fn) (first cap : Array Value) (w : World), (Instr.makeFunc fn first cap).run Try.prog w = .ok (.func fn first cap) w := fun _ _ _ _ => rfl
  obtain ⟨va, vc, ee⟩ := slice_of h
  subst ee
  have H := Lib.hid h
  obtain ⟨n, hx⟩ : ∃ n, n = l.length := ⟨_, rfl⟩
  rw [← hx] at h H ⊢
  have HX := Lib.hid hx
  clear h hx
  obtain ⟨rb, hrb⟩ : ∃ b, b = w.heap.size := ⟨_, rfl⟩
  obtain ⟨Bl, hBl⟩ : ∃ b, b = w.heap.size + 1 := ⟨_, rfl⟩
  obtain ⟨Ba, hBa⟩ : ∃ b, b = w.heap.size + 1 + 1 := ⟨_, rfl⟩
  obtain ⟨nb, hnb⟩ : ∃ b, b = w.heap.size + 1 + 1 + 1 := ⟨_, rfl⟩
  obtain ⟨pb, hpb⟩ : ∃ b, b = w.heap.size + 1 + 1 + 1 + 1 := ⟨_, rfl⟩
  obtain ⟨w1, hw1⟩ : ∃ x, x = w.alloc (.cells #[.int .i64 0, .int .i64 0, .int .i64 0, .slice none 0 0, .slice none 0 0, .slice none 0 0] 26) := ⟨_, rfl⟩
  obtain ⟨w2, hw2⟩ : ∃ x, x = w1.alloc (.cells #[.slice va n vc] 22) := ⟨_, rfl⟩
  obtain ⟨w3, hw3⟩ : ∃ x, x = w2.alloc (.cells #[.int .i64 0] 3) := ⟨_, rfl⟩
  obtain ⟨w4, hw4⟩ : ∃ x, x = w3.alloc (.cells #[(.func (.func 76) #[] #[.pointer (some ⟨Ba, 0, none⟩), .pointer (some ⟨Bl, 0, none⟩)])] 64) := ⟨_, rfl⟩
  obtain ⟨w5, hw5⟩ : ∃ x, x = w4.alloc (.cells #[.int .i64 0, .int .i64 0, .int .i64 0, .slice none 0 0, .slice none 0 0, .slice none 0 0] 26) := ⟨_, rfl⟩
  have s1 : w1.heap.size = w.heap.size + 1 := by rw [hw1, size_new]
  have s2 : w2.heap.size = w.heap.size + 1 + 1 := by rw [hw2, size_new, s1]
  have s3 : w3.heap.size = w.heap.size + 1 + 1 + 1 := by rw [hw3, size_new, s2]
  have s4 : w4.heap.size = w.heap.size + 1 + 1 + 1 + 1 := by rw [hw4, size_new, s3]
  have s5 : w5.heap.size = w.heap.size + 1 + 1 + 1 + 1 + 1 := by rw [hw5, size_new, s4]
  have P0 : Hid (PO w Ba Bl nb pb rb l l [.int .i64 0, .int .i64 0, .int .i64 0, .slice none 0 0, .slice none 0 0, .slice none 0 0] w5) := Lib.hid (by
    have b1 : Below w.heap.size w w1 := by rw [hw1]; exact below_new _ _
    have b2 : Below w1.heap.size w1 w2 := by rw [hw2]; exact below_new _ _
    have b3 : Below w2.heap.size w2 w3 := by rw [hw3]; exact below_new _ _
    have b4 : Below w3.heap.size w3 w4 := by rw [hw4]; exact below_new _ _
    have b5 : Below w4.heap.size w4 w5 := by rw [hw5]; exact below_new _ _
    have k1 : BoxAt rb [.int .i64 0, .int .i64 0, .int .i64 0, .slice none 0 0, .slice none 0 0, .slice none 0 0] w1 := by rw [hrb, hw1]; exact boxAt_new w [.int .i64 0, .int .i64 0, .int .i64 0, .slice none 0 0, .slice none 0 0, .slice none 0 0] _
    have k5 : BoxAt pb [.int .i64 0, .int .i64 0, .int .i64 0, .slice none 0 0, .slice none 0 0, .slice none 0 0] w5 := by rw [hpb, ← s4, hw5]; exact boxAt_new w4 [.int .i64 0, .int .i64 0, .int .i64 0, .slice none 0 0, .slice none 0 0, .slice none 0 0] _
    have b15 : Below w1.heap.size w1 w5 := below_step' (below_step' (below_step' b2 b3) b4) b5
    have h2 : w2.heap[Bl]? = some (.cells #[.slice va n vc] 22 (0, 0)) := by rw [hBl, ← s1, hw2]; exact heap_alloc_new w1 _
    have h3 : w3.heap[Ba]? = some (.cells #[.int .i64 0] 3 (0, 0)) := by rw [hBa, ← s2, hw3]; exact heap_alloc_new w2 _
    have h4 : w4.heap[nb]? = some (.cells #[(.func (.func 76) #[] #[.pointer (some ⟨Ba, 0, none⟩), .pointer (some ⟨Bl, 0, none⟩)])] 64 (0, 0)) := by rw [hnb, ← s3, hw4]; exact heap_alloc_new w3 _
    refine ⟨⟨below_step' b1 b15, by omega, by omega, by omega, by omega, by omega, (b5.block _ (by omega)).trans h4, 0, n, va, vc, HX.out, by omega, rfl, ((below_step' b4 b5).block _ (by omega)).trans h3, ((below_step' (below_step' b3 b4) b5).block _ (by omega)).trans h2, H.out⟩,
      k5, fun i => ?_, k1.below b15, fun i => ?_, ⟨by omega, by omega, by omega⟩, ⟨by omega, by omega, by omega, by omega⟩, ⟨by omega, by omega⟩, ⟨by omega, by omega⟩⟩
    · rw [hpb, ← s4, hw5]; exact frozen_new w4 _ _ i
    · rw [World.frozen?_of_block (w := w1) (b15.block rb (by omega)), hrb, hw1]; exact frozen_new w _ _ i)
  have W1 := Lib.hid hw1
  have W2 := Lib.hid hw2
  have W3 := Lib.hid hw3
  have W4 := Lib.hid hw4
  have W5 := Lib.hid hw5
  have RB := Lib.hid hrb
  have BL := Lib.hid hBl
  have BA := Lib.hid hBa
  have NB := Lib.hid hnb
  have PB := Lib.hid hpb
  have S1 := Lib.hid s1
  have S2 := Lib.hid s2
  have S3' := Lib.hid s3
  have S4' := Lib.hid s4
  clear hw1 hw2 hw3 hw4 hw5 hrb hBl hBa hnb hpb s1 s2 s3 s4 s5
  go_enter Try.func29, Try.ntmps29
  go_upto_region 1 with fail
  rw [← W1.out]
  go_wp2_with fail
  refine (nfrom_at _ _ va n vc rfl).mono ?_
  rintro e w' ⟨rfl, rfl⟩
  rw [S1.out, ← BA.out, ← BL.out, ← W2.out, ← W3.out]
  go_upto_region 5 with fail
  simp only [S3'.out, S4'.out, size_new]
  simp only [← PB.out]
  simp only [← NB.out]
  simp only [← RB.out]
  simp only [← W4.out]
  simp only [← W5.out]
  have c0 := cell_of_one P0.out.nx.hN
  have z0 := P0.out.bp 0 _ rfl
  have f0 := P0.out.fp 0
  go_wp2_with fail
  refine (next_at w _ Ba Bl nb l l P0.out.nx hn).mono ?_
  rintro e w6 ⟨rfl, hN, hg⟩
  have Q0 := Lib.hid (P0.out.call hN hg)
  obtain ⟨x0, hx0⟩ : ∃ x, x = hdI l := ⟨_, rfl⟩
  have X0 := Lib.hid hx0
  rw [← hx0]
  clear hN hg hx0 c0 z0 f0
  have z0 := Q0.out.bp 0 _ rfl
  have f0 := Q0.out.fp 0
  go_upto_region 6 with fail
  have P1 := Lib.hid (Q0.out.store 0 (.int .i64 x0) (by simp))
  clear z0 f0
  obtain ⟨y1, hy⟩ : ∃ y, y = w6.setCell ⟨pb, 0, none⟩ (.int .i64 x0) := ⟨_, rfl⟩
  rw [← hy] at P1 ⊢
  clear hy
  have c1 := cell_of_one P1.out.nx.hN
  have z1 := P1.out.bp 1 _ rfl
  have f1 := P1.out.fp 1
  go_wp2_with fail
  refine (next_at w _ Ba Bl nb l l.tail P1.out.nx hn).mono ?_
  rintro e w7 ⟨rfl, hN, hg⟩
  have Q1 := Lib.hid (P1.out.call hN hg)
  obtain ⟨x1, hx1⟩ : ∃ x, x = hdI l.tail := ⟨_, rfl⟩
  have X1 := Lib.hid hx1
  rw [← hx1]
  clear hN hg hx1 c1 z1 f1
  have z1 := Q1.out.bp 1 _ rfl
  have f1 := Q1.out.fp 1
  go_upto_region 7 with fail
  have P2 := Lib.hid (Q1.out.store 1 (.int .i64 x1) (by simp))
  clear z1 f1
  obtain ⟨y2, hy⟩ : ∃ y, y = w7.setCell ⟨pb, 1, none⟩ (.int .i64 x1) := ⟨_, rfl⟩
  rw [← hy] at P2 ⊢
  clear hy
  have c2 := cell_of_one P2.out.nx.hN
  have z2 := P2.out.bp 2 _ rfl
  have f2 := P2.out.fp 2
  go_wp2_with fail
  refine (next_at w _ Ba Bl nb l l.tail.tail P2.out.nx hn).mono ?_
  rintro e w8 ⟨rfl, hN, hg⟩
  have Q2 := Lib.hid (P2.out.call hN hg)
  obtain ⟨x2, hx2⟩ : ∃ x, x = hdI l.tail.tail := ⟨_, rfl⟩
  have X2 := Lib.hid hx2
  rw [← hx2]
  clear hN hg hx2 c2 z2 f2
  have z2 := Q2.out.bp 2 _ rfl
  have f2 := Q2.out.fp 2
  go_upto_region 8 with fail
  have P3 := Lib.hid (Q2.out.store 2 (.int .i64 x2) (by simp))
  clear z2 f2
  obtain ⟨y3, hy⟩ : ∃ y, y = w8.setCell ⟨pb, 2, none⟩ (.int .i64 x2) := ⟨_, rfl⟩
  rw [← hy] at P3 ⊢
  clear hy
  have c3 := cell_of_one P3.out.nx.hN
  have z3 := P3.out.bp 3 _ rfl
  have f3 := P3.out.fp 3
  go_wp2_with fail
  refine (lfS_at w _ Ba Bl nb l l.tail.tail.tail P3.out.nx hn).mono ?_
  rintro e w9 ⟨a3, k3, e3, rfl, hH, hN, hg⟩
  have Q3 := Lib.hid (P3.out.call hN hg)
  have SA := Lib.hid (hH.wide (P' := fun q => w.heap.size ≤ q ∧ q ≠ Ba ∧ q ≠ pb ∧ q ≠ rb) (fun q _ hq => ⟨by have := P3.out.nx.bel.size; omega, by have := P3.out.nx.ltA; omega, by have := P3.out.pg.2; omega, by have := P3.out.rg.2; omega⟩))
  clear hH hN hg c3 z3 f3
  have z3 := Q3.out.bp 3 _ rfl
  have f3 := Q3.out.fp 3
  go_upto_region 9 with fail
  have P4 := Lib.hid (Q3.out.store 3 (.slice a3 k3 e3) (by simp))
  have S3 : Hid (Afar w.heap.size Ba pb rb (w9.setCell ⟨pb, 3, none⟩ (.slice a3 k3 e3)) (.slice a3 k3 e3) _) := Lib.hid (Afar.storeP SA.out 3 _)
  clear z3 f3 SA
  obtain ⟨y4, hy⟩ : ∃ y, y = w9.setCell ⟨pb, 3, none⟩ (.slice a3 k3 e3) := ⟨_, rfl⟩
  rw [← hy] at P4 S3  ⊢
  clear hy
  have c4 := cell_of_one P4.out.nx.hN
  have z4 := P4.out.bp 4 _ rfl
  have f4 := P4.out.fp 4
  go_wp2_with fail
  refine (lfL_at w _ Ba Bl nb l (rdS l).2 P4.out.nx hn).mono ?_
  rintro e w10 ⟨a4, k4, e4, rfl, hH, hN, hg⟩
  have Q4 := Lib.hid (P4.out.call hN hg)
  have SA := Lib.hid (hH.wide (P' := fun q => w.heap.size ≤ q ∧ q ≠ Ba ∧ q ≠ pb ∧ q ≠ rb) (fun q _ hq => ⟨by have := P4.out.nx.bel.size; omega, by have := P4.out.nx.ltA; omega, by have := P4.out.pg.2; omega, by have := P4.out.rg.2; omega⟩))
  have S34 := Lib.hid (S3.out.call hg)
  clear hH hN hg c4 z4 f4
  have z4 := Q4.out.bp 4 _ rfl
  have f4 := Q4.out.fp 4
  go_upto_region 10 with fail
  have P5 := Lib.hid (Q4.out.store 4 (.slice a4 k4 e4) (by simp))
  have S4 : Hid (Afar w.heap.size Ba pb rb (w10.setCell ⟨pb, 4, none⟩ (.slice a4 k4 e4)) (.slice a4 k4 e4) _) := Lib.hid (Afar.storeP SA.out 4 _)
  have T34 := Lib.hid (S34.out.storeP 4 (.slice a4 k4 e4))
  clear z4 f4 SA
  obtain ⟨y5, hy⟩ : ∃ y, y = w10.setCell ⟨pb, 4, none⟩ (.slice a4 k4 e4) := ⟨_, rfl⟩
  rw [← hy] at P5 S4 T34 ⊢
  clear hy
  clear S3 S34
  have S3 := Lib.hid T34.out
  clear T34
  have c5 := cell_of_one P5.out.nx.hN
  have z5 := P5.out.bp 5 _ rfl
  have f5 := P5.out.fp 5
  go_wp2_with fail
  refine (lfO_at w _ Ba Bl nb l (rdIn l).2 P5.out.nx hn).mono ?_
  rintro e w11 ⟨a5, k5, e5, rfl, hH, hN, hg⟩
  have Q5 := Lib.hid (P5.out.call hN hg)
  have SA := Lib.hid (hH.wide (P' := fun q => w.heap.size ≤ q ∧ q ≠ Ba ∧ q ≠ pb ∧ q ≠ rb) (fun q _ hq => ⟨by have := P5.out.nx.bel.size; omega, by have := P5.out.nx.ltA; omega, by have := P5.out.pg.2; omega, by have := P5.out.rg.2; omega⟩))
  have S35 := Lib.hid (S3.out.call hg)
  have S45 := Lib.hid (S4.out.call hg)
  clear hH hN hg c5 z5 f5
  have z5 := Q5.out.bp 5 _ rfl
  have f5 := Q5.out.fp 5
  go_upto_region 11 with fail
  have P6 := Lib.hid (Q5.out.store 5 (.slice a5 k5 e5) (by simp))
  have S5 : Hid (Afar w.heap.size Ba pb rb (w11.setCell ⟨pb, 5, none⟩ (.slice a5 k5 e5)) (.slice a5 k5 e5) _) := Lib.hid (Afar.storeP SA.out 5 _)
  have T35 := Lib.hid (S35.out.storeP 5 (.slice a5 k5 e5))
  have T45 := Lib.hid (S45.out.storeP 5 (.slice a5 k5 e5))
  clear z5 f5 SA
  obtain ⟨y6, hy⟩ : ∃ y, y = w11.setCell ⟨pb, 5, none⟩ (.slice a5 k5 e5) := ⟨_, rfl⟩
  rw [← hy] at P6 S5 T35 T45 ⊢
  clear hy
  clear S3 S35
  have S3 := Lib.hid T35.out
  clear T35
  clear S4 S45
  have S4 := Lib.hid T45.out
  clear T45

  have p0 := P6.out.bp 0 _ rfl
  have p1 := P6.out.bp 1 _ rfl
  have p2 := P6.out.bp 2 _ rfl
  have p3 := P6.out.bp 3 _ rfl
  have p4 := P6.out.bp 4 _ rfl
  have p5 := P6.out.bp 5 _ rfl
  have q0 := P6.out.br 0 _ rfl
  have q1 := P6.out.br 1 _ rfl
  have q2 := P6.out.br 2 _ rfl
  have q3 := P6.out.br 3 _ rfl
  have q4 := P6.out.br 4 _ rfl
  have q5 := P6.out.br 5 _ rfl
  have f0 := P6.out.fr 0
  have f1 := P6.out.fr 1
  have f2 := P6.out.fr 2
  have f3 := P6.out.fr 3
  have f4 := P6.out.fr 4
  have f5 := P6.out.fr 5
  have hrp := P6.out.rn.2.2.2
  go_wp2_with fail
  have HB := set6_at (w := y6) (b := rb) (x0 := .int .i64 x0) (x1 := .int .i64 x1) (x2 := .int .i64 x2) (x3 := .slice a3 k3 e3) (x4 := .slice a4 k4 e4) (x5 := .slice a5 k5 e5) (fun i hi => by
    match i, hi with
    | 0, _ => exact ⟨_, q0⟩
    | 1, _ => exact ⟨_, q1⟩
    | 2, _ => exact ⟨_, q2⟩
    | 3, _ => exact ⟨_, q3⟩
    | 4, _ => exact ⟨_, q4⟩
    | 5, _ => exact ⟨_, q5⟩)
  have d0 := HB 0 _ rfl
  have d1 := HB 1 _ rfl
  have d2 := HB 2 _ rfl
  have d3 := HB 3 _ rfl
  have d4 := HB 4 _ rfl
  have d5 := HB 5 _ rfl
  have RES : PoTold l w (.returned (.agg #[.int .i64 x0, .int .i64 x1, .int .i64 x2, .slice a3 k3 e3, .slice a4 k4 e4, .slice a5 k5 e5])) (set6 y6 rb (.int .i64 x0) (.int .i64 x1) (.int .i64 x2) (.slice a3 k3 e3) (.slice a4 k4 e4) (.slice a5 k5 e5)) := by
    refine ⟨_, _, _, by rw [X0.out, X1.out, X2.out]; rfl, hl_cons ?_ (hl_cons ?_ (hl_cons ?_ hl_nil)), set6_below P6.out.nx.bel P6.out.rg.1⟩
    · exact (S3.out.same (set6_same (fun h => h.2.2.2 rfl))).wide (fun q _ h => h.1)
    · exact (S4.out.same (set6_same (fun h => h.2.2.2 rfl))).wide (fun q _ h => h.1)
    · exact (S5.out.same (set6_same (fun h => h.2.2.2 rfl))).wide (fun q _ h => h.1)
  exact bodyPost_ret (v := .agg #[.int .i64 x0, .int .i64 x1, .int .i64 x2, .slice a3 k3 e3, .slice a4 k4 e4, .slice a5 k5 e5]) (by simp [results, Try.results29, go_sem, d0, d1, d2, d3, d4, d5]) rfl RES
end Go.Proofs.Ytcopedhoepblpaa
