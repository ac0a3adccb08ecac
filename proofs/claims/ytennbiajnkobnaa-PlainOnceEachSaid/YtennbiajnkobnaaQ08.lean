/- Texts put together. -/
import Derived.Test.YtennbiajnkobnaaQ02
import Derived.Test.YtennbiajnkobnaaQ03
import Derived.Test.YtennbiajnkobnaaQ07
set_option linter.unusedSimpArgs false
namespace Go.Proofs.Ytennbiajnkobnaa
open Go.RowKit Go.PlainAid
def TakeGood (L : Lks) (n : Int) (all : List St) (l : List Tk) (i : Nat) (t : Tk) : Prop := Goes L t.src n t.letter ∧ HasS all t.next ∧ ∀ (j : Nat) (u : Tk), j < i → l[j]? = some u → ¬ (u.src = t.src ∧ u.letter = t.letter)
def TakesOK (L : Lks) (n : Int) (all : List St) (l : List Tk) : Prop := ∀ (i : Nat) (t : Tk), l[i]? = some t → TakeGood L n all l i t
def Low (L : Lks) : Prop := ∀ x y : Int, (x, y) ∈ L → 0 ≤ x ∧ x < 6
/-- Whether a take of that node and letter lies ahead. -/
def seenB (l : List Tk) (k f c : Nat) : Bool := (l.take k).any fun u => decide (u.src = f ∧ u.letter = c)
theorem seenB_zero (l : List Tk) (f c : Nat) : seenB l 0 f c = false := by simp [seenB]
theorem seenB_succ {l : List Tk} {k : Nat} {t : Tk} (ht : l[k]? = some t) (f c : Nat) : seenB l (k + 1) f c = (seenB l k f c || decide (t.src = f ∧ t.letter = c)) := by
 unfold seenB
 rw [List.take_add_one, ht]
 simp [List.any_append]
theorem seenB_iff {l : List Tk} {k f c : Nat} : seenB l k f c = false ↔ ∀ (j : Nat) (u : Tk), j < k → l[j]? = some u → ¬ (u.src = f ∧ u.letter = c) := by
 unfold seenB
 rw [List.any_eq_false]
 constructor
 ·intro h j u hj hu
  have := h u (List.mem_iff_getElem?.2 ⟨j, by rw [List.getElem?_take, if_pos hj]; exact hu⟩)
  simpa using this
 ·intro h u hu
  obtain ⟨j, hj⟩ := List.mem_iff_getElem?.1 hu
  rw [List.getElem?_take] at hj
  split at hj
  ·have := h j u (by assumption) hj
   simpa using this
  ·cases hj
/-- The array 'seen'. -/
structure Seen (w : World) (b : Nat) (l : List Tk) (k : Nat) : Prop where
 lt : b < w.heap.size
 cells : ∀ f c : Nat, f < 6 → c < 4 → w.cell? ⟨b, f * 4 + c, none⟩ = some (.bool (seenB l k f c))
 open_ : ∀ f c : Nat, f < 6 → c < 4 → w.frozen? ⟨b, f * 4 + c, none⟩ = false
theorem Seen.below {w w' : World} {b : Nat} {l : List Tk} {k : Nat} (h : Seen w b l k) (hb : Below w.heap.size w w') : Seen w' b l k :=
 ⟨Nat.lt_of_lt_of_le h.lt hb.size, fun f c h1 h2 => (hb.cell (by exact h.lt)).trans (h.cells f c h1 h2), fun f c h1 h2 => (hb.frozen (by exact h.lt)).trans (h.open_ f c h1 h2)⟩
theorem Seen.set {w : World} {b : Nat} {l : List Tk} {k : Nat} (h : Seen w b l k) {t : Tk} (ht : l[k]? = some t) {f c : Nat} (hf : f < 6) (hc : c < 4) (h1 : t.src = f) (h2 : t.letter = c) : Seen (w.setCell ⟨b, f * 4 + c, none⟩ (.bool true)) b l (k + 1) := by
 refine ⟨by rw [World.size_setCell]; exact h.lt, fun f' c' hf' hc' => ?_, fun f' c' hf' hc' => by rw [World.frozen?_setCell]; exact h.open_ f' c' hf' hc'⟩
 rw [seenB_succ ht]
 by_cases he : f' = f ∧ c' = c
 ·obtain ⟨rfl, rfl⟩ := he
  rw [World.cell?_setCell_same w _ _ (h.cells f' c' hf hc)]
  simp [h1, h2]
 ·rw [World.cell?_setCell_other w _ _ _ (by intro e; injection e with _ e2 _; exact he (by omega)), h.cells f' c' hf' hc']
  have : ¬ (t.src = f' ∧ t.letter = c') := by rw [h1, h2]; intro e; exact he (by omega)
  simp [this]
structure TkAt (w : World) (b : Nat) (node : Int) (a3 : Option Addr) (c3 : Nat) (l : List Tk) (a4 : Option Addr) (n4 c4 : Nat) (L : Lks) (a : Nat) : Prop where
 f4 : w.cell? ⟨b, 4, none⟩ = some (.int .i64 node)
 f5 : w.cell? ⟨b, 5, none⟩ = some (.slice a4 n4 c4)
 ps : Has w (.slice a3 l.length c3) (dTakes l)
 ln : GoesAt w a L
theorem TkAt.below {w w' : World} {b : Nat} {node : Int} {a3 : Option Addr} {c3 : Nat} {l : List Tk} {a4 : Option Addr} {n4 c4 : Nat} {L : Lks} {a : Nat} (h : TkAt w b node a3 c3 l a4 n4 c4 L a) (hb : Below w.heap.size w w') : TkAt w' b node a3 c3 l a4 n4 c4 L a := by
 have := World.block_lt_of_cell? w _ h.f4
 exact ⟨(hb.cell (by exact this)).trans h.f4, (hb.cell (by exact this)).trans h.f5, h.ps.later hb, h.ln.below hb⟩
/-- What the region of one take reads. -/
structure TkS (bx ba wo j : Nat) (node : Int) (a4 : Option Addr) (n4 c4 : Nat) (q1 q2 q3 : Int) (sb : Bool) (L : Lks) (a : Nat) (w : World) : Prop where
 s : w.cell? ⟨bx, 4, none⟩ = some (.int .i64 node) ∧ w.cell? ⟨bx, 5, none⟩ = some (.slice a4 n4 c4) ∧ w.cell? ⟨wo, 0, none⟩ = some (.int .i64 q1) ∧ w.cell? ⟨wo, 1, none⟩ = some (.int .i64 q2) ∧ w.cell? ⟨wo, 2, none⟩ = some (.int .i64 q3) ∧ w.cell? ⟨ba, j, none⟩ = some (.bool sb)
 ln : GoesAt w a L
theorem TkS.below {bx ba wo j : Nat} {node : Int} {a4 : Option Addr} {n4 c4 : Nat} {q1 q2 q3 : Int} {sb : Bool} {L : Lks} {a : Nat} {w w' : World} (h : TkS bx ba wo j node a4 n4 c4 q1 q2 q3 sb L a w) (hb : Below w.heap.size w w') : TkS bx ba wo j node a4 n4 c4 q1 q2 q3 sb L a w' := by
 obtain ⟨⟨h1, h2, h3, h4, h5, h6⟩, h7⟩ := h
 have k := fun (p : Addr) (v : Value) (e : w.cell? p = some v) => (hb.cell (World.block_lt_of_cell? w _ e)).trans e
 exact ⟨⟨k _ _ h1, k _ _ h2, k _ _ h3, k _ _ h4, k _ _ h5, k _ _ h6⟩, h7.below hb⟩
theorem zeroCells (w : World) (T : TypeId) (f c : Nat) (hf : f < 6) (hc : c < 4) (vs : List Value) (hv : vs = List.replicate 24 (.bool false)) : (w.alloc (.cells ⟨vs⟩ T)).cell? ⟨w.heap.size, f * 4 + c, none⟩ = some (.bool false) ∧ (w.alloc (.cells ⟨vs⟩ T)).frozen? ⟨w.heap.size, f * 4 + c, none⟩ = false := by
 subst hv
 have h : f * 4 + c < 24 := by omega
 have hs : (⟨List.replicate 24 (Value.bool false)⟩ : Array Value)[f * 4 + c]? = some (.bool false) := by
  rw [List.getElem?_toArray, List.getElem?_replicate, if_pos h]
 exact ⟨(World.cell?_alloc_at _ _ _ _ rfl).trans hs, by rw [frozen?_alloc_cells]; simp [World.frozen?]⟩
set_option maxHeartbeats 8000000 in
set_option maxRecDepth 100000 in
theorem takesOK_loop (L : Lks) (node m : Int) (a3 : Option Addr) (c3 : Nat) (l : List Tk) (all : List St) (a4 : Option Addr) (c4 : Nat) (v1 v2 : Value) (a : Nat) (r : Bool) (w : World) (hln6 : l.length ≤ 1000000) (hx : Has w (.slice a3 l.length c3) (dTakes l))
  (hl : GoesAt w a L) (hn : L.length ≤ 1000000) (hlow : Low L) (hr : r = true ↔ TakesOK L node all l) :
  Calls Try.prog 73 #[.agg #[.int .i64 m, v1, v2, .slice a3 l.length c3, .int .i64 node, .slice a4 all.length c4], fnGoes a] w fun e w' => e = .returned (.bool r) ∧ Below w.heap.size w w' := by
 unfold fnGoes
 obtain ⟨ln, hln⟩ : ∃ ln, ln = l.length := ⟨_, rfl⟩
 obtain ⟨n4, hn4⟩ : ∃ n4, n4 = all.length := ⟨_, rfl⟩
 obtain ⟨w1, hw1⟩ : ∃ w1, w1 = w.alloc (.cells #[.int .i64 m, v1, v2, .slice a3 l.length c3, .int .i64 node, .slice a4 n4 c4] 145) := ⟨_, rfl⟩
 have g : Below w.heap.size w w1 := by rw [hw1]; exact below_new _ _
 have hA : TkAt w1 w.heap.size node a3 c3 l a4 n4 c4 L a := ⟨by rw [hw1]; exact World.cell?_alloc_at _ _ _ _ rfl, by rw [hw1]; exact World.cell?_alloc_at _ _ _ _ rfl, hx.later g, hl.below g⟩
 have d3 : w1.cell? ⟨w.heap.size, 3, none⟩ = some (.slice a3 l.length c3) := by rw [hw1]; exact World.cell?_alloc_at _ _ _ _ rfl
 have z1 : w1.heap.size = w.heap.size + 1 := by rw [hw1]; simp
 have Z1 := Lib.hid z1
 have A := Lib.hid hA
 have G := Lib.hid g
 have Hr := Lib.hid hr
 have Hn := Lib.hid hn
 have HLow := Lib.hid hlow
 rw [← hln] at d3 hln6 ⊢
 rw [← hn4]
 have Ln := Lib.hid hln
 have N4 := Lib.hid hn4
 obtain ⟨w2, hw2⟩ : ∃ w2, w2 = w1.alloc (.cells #[.bool false, .bool false, .bool false, .bool false, .bool false, .bool false, .bool false, .bool false, .bool false, .bool false, .bool false, .bool false, .bool false, .bool false, .bool false, .bool false, .bool false, .bool false, .bool false, .bool false, .bool false, .bool false, .bool false, .bool false] 163) := ⟨_, rfl⟩
 have S0 : Hid (Seen w2 (w.heap.size + 1) l 0) := Lib.hid (by rw [← z1, hw2]; exact ⟨by simp, fun f c hf hc => by rw [seenB_zero]; exact (zeroCells w1 _ f c hf hc _ (by rfl)).1, fun f c hf hc => (zeroCells w1 _ f c hf hc _ (by rfl)).2⟩)
 have g12 : Below w1.heap.size w1 w2 := by rw [hw2]; exact below_new _ _
 have G12 := Lib.hid g12
 have d3' := (g12.cell (by show w.heap.size < _; omega)).trans d3
 clear hx hl hr hn hA g hln hn4 hlow z1 d3 g12
 go_enter Try.func73, Try.ntmps73
 rw [← Ln.out] at hw1
 go_wp2_with fail
 rw [← hw1]
 try rw [← hw2]
 clear hw1 hw2
 go_wp2_with fail
 go_loopw [12] (fun i wr => ∃ k : Nat, i = .int .i64 k ∧ k ≤ ln ∧ (∀ j t, j < k → l[j]? = some t → TakeGood L node all l j t) ∧ Below w1.heap.size w1 wr ∧ Seen wr (w.heap.size + 1) l k) (fun i _ => ln - (intOf i).toNat)
 case atStart => exact ⟨0, rfl, by omega, fun j x hj => by omega, G12.out, S0.out⟩
 case round =>
  obtain ⟨k, rfl, hk, hno, hbr, hsn⟩ := hrel
  have Hs := Lib.hid hno
  have R := Lib.hid hbr
  have SN := Lib.hid hsn
  have hA2 := A.out.below hbr
  have A2 := Lib.hid hA2
  have BB := Lib.hid (below_step G.out.size G.out hbr)
  have Zr := Lib.hid hbr.size
  by_cases hlt : k < ln
  ·have hlt' : (k : Int) < ln := by omega
   obtain ⟨t, ht⟩ := some_of_lt (l := l) (i := k) (by rw [← Ln.out]; exact hlt)
   obtain ⟨b, off, cap, e, hb, _, x0, x1, x2⟩ := tk_cells hA2.ps ht
   simp only [Value.slice.injEq] at e
   obtain ⟨e, _, e2⟩ := e
   subst e e2
   have Ht := Lib.hid ht
   obtain ⟨q1, q2, q3⟩ := t
   simp only at x0 x1 x2
   have Bad : Hid (∀ P : Prop, (TakeGood L node all l k ⟨q1, q2, q3⟩ → P) → ¬ P → r = false) := Lib.hid (fun P h hP => bool_no Hr.out (fun g => hP (h (g k _ Ht.out))))
   obtain ⟨wc, hwc⟩ : ∃ wc, wc = wr.alloc (.cells #[.int .i64 q1, .int .i64 q2, .int .i64 q3] 125) := ⟨_, rfl⟩
   have hbc : Below wr.heap.size wr wc := by rw [hwc]; exact below_new _ _
   have hAc := hA2.below hbc
   have hSc := hsn.below hbc
   have y0 : wc.cell? ⟨wr.heap.size, 0, none⟩ = some (.int .i64 q1) := by rw [hwc]; exact World.cell?_alloc_at _ _ _ _ rfl
   have y1 : wc.cell? ⟨wr.heap.size, 1, none⟩ = some (.int .i64 q2) := by rw [hwc]; exact World.cell?_alloc_at _ _ _ _ rfl
   have y2 : wc.cell? ⟨wr.heap.size, 2, none⟩ = some (.int .i64 q3) := by rw [hwc]; exact World.cell?_alloc_at _ _ _ _ rfl
   have TB : Hid (Below wr.heap.size wr wc.drew) := Lib.hid (below_drewN hbc 1)
   have TS : Hid (wr.heap.size ≤ wc.drew.heap.size) := Lib.hid hbc.size
   by_cases hg : Goes L q1 node q2
   ·obtain ⟨f, hf⟩ := Int.eq_ofNat_of_zero_le (HLow.out q1 node hg.1).1
    obtain ⟨c, hc⟩ := Int.eq_ofNat_of_zero_le hg.2.1
    have hf6 : f < 6 := by have := (HLow.out q1 node hg.1).2; omega
    have hc4 : c < 4 := by have := hg.2.2; omega
    have hf6' : (f : Int) < 6 := by omega
    have hc4' : (c : Int) < 4 := by omega
    subst hf hc
    obtain ⟨sb, hsb⟩ : ∃ sb, sb = seenB l k f c := ⟨_, rfl⟩
    have hy := hSc.cells f c hf6 hc4
    rw [← hsb] at hy
    have T : Hid (TkS w.heap.size (w.heap.size + 1) wr.heap.size (f * 4 + c) node a4 n4 c4 f c q3 sb L a wc.drew) := Lib.hid (TkS.below ⟨⟨hAc.f4, hAc.f5, y0, y1, y2, hy⟩, hAc.ln⟩ (below_drewN (Below.refl _ wc) 1))
    have Hsb := Lib.hid hsb
    have SN3 := Lib.hid (hSc.below (below_drewN (Below.refl _ wc) 1))
    have Hg := Lib.hid hg
    clear hno hbr hsn hA2 ht hbc hAc hSc y0 y1 y2 hy hsb hg
    by_cases hs : HasS all q3
    ·have Ys := Lib.hid hs
     have y0 := hs.1
     have y1 := hs.2
     rw [← N4.out] at y1
     clear hs
     cases sb with
     | true =>
      have Hf := Lib.hid (Bad.out _ (fun h => h.2.2) (fun h => by have := (seenB_iff (f := f) (c := c)).2 h; rw [← Hsb.out] at this; cases this))
      go_wp2_with fail
      rw [← hwc]
      clear hwc
      refine wp_region_held_drew (S := (fun w' => w'.cell? ⟨w.heap.size, 4, none⟩ = some (.int .i64 node) ∧ w'.cell? ⟨w.heap.size, 5, none⟩ = some (.slice a4 n4 c4) ∧ w'.cell? ⟨wr.heap.size, 0, none⟩ = some (.int .i64 f) ∧ w'.cell? ⟨wr.heap.size, 1, none⟩ = some (.int .i64 c) ∧ w'.cell? ⟨wr.heap.size, 2, none⟩ = some (.int .i64 q3) ∧ w'.cell? ⟨w.heap.size + 1, (f * 4 + c), none⟩ = some (.bool true))) (by kernel_rfl) ?_ (fun hHeld => ?_)
      ·exact T.out.s
      refine tq 0 ?_
      refine tq 1 ?_
      refine tq 2 ?_
      refine tq 3 ?_
      refine tq 4 ?_
      refine tq 5 ?_
      refine tq 6 ?_
      refine rd 7 fun K hK => ?_
      go_simp
      refine (goes_yes a L f node c _ T.out.ln Hn.out Hg.out).mono ?_
      rintro e wn ⟨rfl, hbn⟩
      have T := Lib.hid (T.out.below hbn)
      have TB := Lib.hid (below_step (by exact TS.out) TB.out hbn)
      have TS := Lib.hid (Nat.le_trans TS.out hbn.size)
      clear hbn
      go_wp2_with fail
      refine hK.out _ _ ?_ (fun hHeld => ?_)
      ·exact T.out.s
      clear hK K
      try simp only [Act.put, List.getElem_toArray, List.getElem_cons_zero, List.getElem_cons_succ, List.setIfInBounds_toArray, List.set_cons_zero, List.set_cons_succ]
      refine tq 8 ?_
      refine tq 9 ?_
      refine tq 10 ?_
      refine tq 11 ?_
      refine tq 12 ?_
      refine tq 13 ?_
      refine rd 14 fun K hK => ?_
      go_simp
      refine (has_yes _ _ _ _ _ y0 y1).mono ?_
      rintro e wn ⟨rfl, rfl⟩
      go_wp2_with fail
      refine hK.out _ _ ?_ (fun hHeld => ?_)
      ·exact T.out.s
      clear hK K
      try simp only [Act.put, List.getElem_toArray, List.getElem_cons_zero, List.getElem_cons_succ, List.setIfInBounds_toArray, List.set_cons_zero, List.set_cons_succ]
      refine tq 15 ?_
      refine tq 16 ?_
      refine tq 17 ?_
      refine tq 18 ?_
      refine tq 19 ?_
      refine tq 20 ?_
      refine tq 21 ?_
      refine tq 22 ?_
      refine tq 23 ?_
      refine tq 24 ?_
      refine tq 25 ?_
      refine wpAnyH_done (by kernel_rfl) ?_ _
      go_wp2_with fail
      go_ret
      exact ⟨by rw [Hf.out]; rfl, below_step BB.out.size BB.out TB.out⟩
     | false =>
      go_wp2_with fail
      rw [← hwc]
      clear hwc
      refine wp_region_held_drew (S := (fun w' => w'.cell? ⟨w.heap.size, 4, none⟩ = some (.int .i64 node) ∧ w'.cell? ⟨w.heap.size, 5, none⟩ = some (.slice a4 n4 c4) ∧ w'.cell? ⟨wr.heap.size, 0, none⟩ = some (.int .i64 f) ∧ w'.cell? ⟨wr.heap.size, 1, none⟩ = some (.int .i64 c) ∧ w'.cell? ⟨wr.heap.size, 2, none⟩ = some (.int .i64 q3) ∧ w'.cell? ⟨w.heap.size + 1, (f * 4 + c), none⟩ = some (.bool false))) (by kernel_rfl) ?_ (fun hHeld => ?_)
      ·exact T.out.s
      refine tq 0 ?_
      refine tq 1 ?_
      refine tq 2 ?_
      refine tq 3 ?_
      refine tq 4 ?_
      refine tq 5 ?_
      refine tq 6 ?_
      refine rd 7 fun K hK => ?_
      go_simp
      refine (goes_yes a L f node c _ T.out.ln Hn.out Hg.out).mono ?_
      rintro e wn ⟨rfl, hbn⟩
      have T := Lib.hid (T.out.below hbn)
      have TB := Lib.hid (below_step (by exact TS.out) TB.out hbn)
      have TS := Lib.hid (Nat.le_trans TS.out hbn.size)
      have SN3 := Lib.hid (SN3.out.below hbn)
      clear hbn
      go_wp2_with fail
      refine hK.out _ _ ?_ (fun hHeld => ?_)
      ·exact T.out.s
      clear hK K
      try simp only [Act.put, List.getElem_toArray, List.getElem_cons_zero, List.getElem_cons_succ, List.setIfInBounds_toArray, List.set_cons_zero, List.set_cons_succ]
      refine tq 8 ?_
      refine tq 9 ?_
      refine tq 10 ?_
      refine tq 11 ?_
      refine tq 12 ?_
      refine tq 13 ?_
      refine rd 14 fun K hK => ?_
      go_simp
      refine (has_yes _ _ _ _ _ y0 y1).mono ?_
      rintro e wn ⟨rfl, rfl⟩
      go_wp2_with fail
      refine hK.out _ _ ?_ (fun hHeld => ?_)
      ·exact T.out.s
      clear hK K
      try simp only [Act.put, List.getElem_toArray, List.getElem_cons_zero, List.getElem_cons_succ, List.setIfInBounds_toArray, List.set_cons_zero, List.set_cons_succ]
      refine tq 15 ?_
      refine tq 16 ?_
      refine tq 17 ?_
      refine tq 18 ?_
      refine tq 19 ?_
      refine tq 20 ?_
      refine tq 21 ?_
      refine tq 22 ?_
      refine tq 23 ?_
      refine tq 24 ?_
      refine tq 25 ?_
      refine wpAnyH_done (by kernel_rfl) ?_ _
      go_wp2_with fail
      have Tz := T.out.s
      obtain ⟨_, _, s0, s1, _, s5⟩ := Tz
      have s6 := SN3.out.open_ f c hf6 hc4
      go_region
      go_wp2_with fail
      go_roundw
      case rel =>
       refine ⟨k + 1, by go_num, by omega, fun j y hj hy => ?_, ?_, ?_⟩
       ·by_cases hjk : j < k
        ·exact Hs.out j y hjk hy
        ·obtain rfl : j = k := by omega
         rw [Ht.out] at hy
         cases hy
         exact ⟨Hg.out, Ys.out, seenB_iff.1 Hsb.out.symm⟩
       ·exact below_drewN ((R.out.trans (TB.out.mono R.out.size)).setCell (by rw [Z1.out]; simp) _) 1
       ·exact (SN3.out.set Ht.out hf6 hc4 rfl rfl).below (below_drewN (Below.refl _ _) 1)
      case measure => simp [intOf]; omega
    ·have Hf := Lib.hid (Bad.out _ (fun h => h.2.1) hs)
     have Ns : Hid (¬ (0 ≤ q3 ∧ q3 < n4)) := Lib.hid (by rw [N4.out]; exact hs)
     clear hs
     go_wp2_with fail
     rw [← hwc]
     clear hwc
     refine wp_region_held_drew (S := (fun w' => w'.cell? ⟨w.heap.size, 4, none⟩ = some (.int .i64 node) ∧ w'.cell? ⟨w.heap.size, 5, none⟩ = some (.slice a4 n4 c4) ∧ w'.cell? ⟨wr.heap.size, 0, none⟩ = some (.int .i64 f) ∧ w'.cell? ⟨wr.heap.size, 1, none⟩ = some (.int .i64 c) ∧ w'.cell? ⟨wr.heap.size, 2, none⟩ = some (.int .i64 q3) ∧ w'.cell? ⟨w.heap.size + 1, (f * 4 + c), none⟩ = some (.bool sb))) (by kernel_rfl) ?_ (fun hHeld => ?_)
     ·exact T.out.s
     refine tq 0 ?_
     refine tq 1 ?_
     refine tq 2 ?_
     refine tq 3 ?_
     refine tq 4 ?_
     refine tq 5 ?_
     refine tq 6 ?_
     refine rd 7 fun K hK => ?_
     go_simp
     refine (goes_yes a L f node c _ T.out.ln Hn.out Hg.out).mono ?_
     rintro e wn ⟨rfl, hbn⟩
     have T := Lib.hid (T.out.below hbn)
     have TB := Lib.hid (below_step (by exact TS.out) TB.out hbn)
     have TS := Lib.hid (Nat.le_trans TS.out hbn.size)
     clear hbn
     go_wp2_with fail
     refine hK.out _ _ ?_ (fun hHeld => ?_)
     ·exact T.out.s
     clear hK K
     try simp only [Act.put, List.getElem_toArray, List.getElem_cons_zero, List.getElem_cons_succ, List.setIfInBounds_toArray, List.set_cons_zero, List.set_cons_succ]
     refine tq 8 ?_
     refine tq 9 ?_
     refine tq 10 ?_
     refine tq 11 ?_
     refine tq 12 ?_
     refine tq 13 ?_
     refine rd 14 fun K hK => ?_
     go_simp
     refine (has_no _ _ _ _ _ Ns.out).mono ?_
     rintro e wn ⟨rfl, rfl⟩
     go_wp2_with fail
     refine hK.out _ _ ?_ (fun hHeld => ?_)
     ·exact T.out.s
     clear hK K
     try simp only [Act.put, List.getElem_toArray, List.getElem_cons_zero, List.getElem_cons_succ, List.setIfInBounds_toArray, List.set_cons_zero, List.set_cons_succ]
     refine tq 15 ?_
     refine tq 16 ?_
     refine tq 17 ?_
     refine tq0 18 ?_
     refine tq0 19 ?_
     refine tq0 20 ?_
     refine tq0 21 ?_
     refine tq0 22 ?_
     refine tq0 23 ?_
     refine tq0 24 ?_
     refine tq 25 ?_
     refine wpAnyH_done (by kernel_rfl) ?_ _
     go_wp2_with fail
     go_ret
     exact ⟨by rw [Hf.out]; rfl, below_step BB.out.size BB.out TB.out⟩
   ·have T : Hid (TkS w.heap.size (w.heap.size + 1) wr.heap.size (0 * 4 + 0) node a4 n4 c4 q1 q2 q3 (seenB l k 0 0) L a wc.drew) := Lib.hid (TkS.below ⟨⟨hAc.f4, hAc.f5, y0, y1, y2, hSc.cells 0 0 (by omega) (by omega)⟩, hAc.ln⟩ (below_drewN (Below.refl _ wc) 1))
    have Hg := Lib.hid hg
    have Hf := Lib.hid (Bad.out _ (fun h => h.1) hg)
    clear hno hbr hsn hA2 ht hbc hAc hSc y0 y1 y2 hg
    go_wp2_with fail
    rw [← hwc]
    clear hwc
    refine wp_region_held_drew (S := (fun w' => w'.cell? ⟨w.heap.size, 4, none⟩ = some (.int .i64 node) ∧ w'.cell? ⟨w.heap.size, 5, none⟩ = some (.slice a4 n4 c4) ∧ w'.cell? ⟨wr.heap.size, 0, none⟩ = some (.int .i64 q1) ∧ w'.cell? ⟨wr.heap.size, 1, none⟩ = some (.int .i64 q2) ∧ w'.cell? ⟨wr.heap.size, 2, none⟩ = some (.int .i64 q3) ∧ w'.cell? ⟨w.heap.size + 1, (0 * 4 + 0), none⟩ = some (.bool (seenB l k 0 0)))) (by kernel_rfl) ?_ (fun hHeld => ?_)
    ·exact T.out.s
    refine tq 0 ?_
    refine tq 1 ?_
    refine tq 2 ?_
    refine tq 3 ?_
    refine tq 4 ?_
    refine tq 5 ?_
    refine tq 6 ?_
    refine rd 7 fun K hK => ?_
    go_simp
    refine (goes_no a L q1 node q2 _ T.out.ln Hn.out Hg.out).mono ?_
    rintro e wn ⟨rfl, hbn⟩
    have T := Lib.hid (T.out.below hbn)
    have TB := Lib.hid (below_step (by exact TS.out) TB.out hbn)
    have TS := Lib.hid (Nat.le_trans TS.out hbn.size)
    clear hbn
    go_wp2_with fail
    refine hK.out _ _ ?_ (fun hHeld => ?_)
    ·exact T.out.s
    clear hK K
    try simp only [Act.put, List.getElem_toArray, List.getElem_cons_zero, List.getElem_cons_succ, List.setIfInBounds_toArray, List.set_cons_zero, List.set_cons_succ]
    refine tq 8 ?_
    refine tq 9 ?_
    refine tq0 10 ?_
    refine tq0 11 ?_
    refine tq0 12 ?_
    refine tq0 13 ?_
    refine tq0 14 ?_
    refine tq0 15 ?_
    refine tq 16 ?_
    refine tq 17 ?_
    refine tq0 18 ?_
    refine tq0 19 ?_
    refine tq0 20 ?_
    refine tq0 21 ?_
    refine tq0 22 ?_
    refine tq0 23 ?_
    refine tq0 24 ?_
    refine tq 25 ?_
    refine wpAnyH_done (by kernel_rfl) ?_ _
    go_wp2_with fail
    go_ret
    exact ⟨by rw [Hf.out]; rfl, below_step BB.out.size BB.out TB.out⟩
  ·have hlt' : ¬ (k : Int) < ln := by omega
   have hf : r = true := bool_yes Hr.out (fun j x hx => Hs.out j x (by have := lt_of_some hx; rw [← Ln.out] at this; omega) hx)
   have Hf := Lib.hid hf
   clear hf hno hbr hsn hA2
   go_wp2_with fail
   go_ret
   exact ⟨by rw [Hf.out]; rfl, BB.out⟩
end Go.Proofs.Ytennbiajnkobnaa

