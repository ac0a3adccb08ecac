/- Texts put together. -/
import Derived.Test.YtennbiajnkobnaaQ09
namespace Go.Proofs.Ytennbiajnkobnaa
open Go.RowKit Go.PlainAid
def PlaceOK (L : Lks) (p : Pl) : Prop := (0 ≤ p.st.mode ∧ p.st.mode ≤ 2) ∧ WaitsOK L p.node p.st ∧ PicksOK L p.node p.all p.st ∧ TakesOK L p.node p.all p.st.takes
/-- Lists that are not long. -/
def SmallSt (s : St) : Prop := s.waits.length ≤ 1000000 ∧ s.picks.length ≤ 1000000 ∧ s.takes.length ≤ 1000000 ∧ ∀ p ∈ s.picks, p.sends.length ≤ 1000000
def SmallPl (p : Pl) : Prop := SmallSt p.st ∧ ∀ s ∈ p.all, SmallSt s
def dem (b c : Nat) : Value := .agg #[.func (.func 67) #[] #[], .func (.func 68) #[] #[.pointer (some ⟨b, 0, none⟩)], .func (.func 70) #[] #[.pointer (some ⟨c, 0, none⟩)], .func (.func 72) #[] #[.pointer (some ⟨c, 0, none⟩)], .func (.func 74) #[] #[]]
structure MetAt (w : World) (x b c : Nat) (L : Lks) (a1 : Option Addr) (c1 : Nat) (ps : List Pl) : Prop where
 d0 : w.cell? ⟨x, 0, none⟩ = some (.func (.func 67) #[] #[])
 d1 : w.cell? ⟨x, 1, none⟩ = some (.func (.func 68) #[] #[.pointer (some ⟨b, 0, none⟩)])
 d2 : w.cell? ⟨x, 2, none⟩ = some (.func (.func 70) #[] #[.pointer (some ⟨c, 0, none⟩)])
 d3 : w.cell? ⟨x, 3, none⟩ = some (.func (.func 72) #[] #[.pointer (some ⟨c, 0, none⟩)])
 d4 : w.cell? ⟨x, 4, none⟩ = some (.func (.func 74) #[] #[])
 dm : DemAt w b c L
 rows : Has w (.slice a1 ps.length c1) (dPls ps)
theorem MetAt.below {w w' : World} {x b c : Nat} {L : Lks} {a1 : Option Addr} {c1 : Nat} {ps : List Pl} (h : MetAt w x b c L a1 c1 ps) (hb : Below w.heap.size w w') : MetAt w' x b c L a1 c1 ps := by
 have k := fun (p : Addr) (v : Value) (e : w.cell? p = some v) => (hb.cell (World.block_lt_of_cell? w _ e)).trans e
 exact ⟨k _ _ h.d0, k _ _ h.d1, k _ _ h.d2, k _ _ h.d3, k _ _ h.d4, h.dm.below hb, h.rows.later hb⟩
/-- A place's box. -/
structure PBox (w : World) (x : Nat) (v0 v1 v2 v3 v4 v5 : Value) : Prop where
 y0 : w.cell? ⟨x, 0, none⟩ = some v0
 y1 : w.cell? ⟨x, 1, none⟩ = some v1
 y2 : w.cell? ⟨x, 2, none⟩ = some v2
 y3 : w.cell? ⟨x, 3, none⟩ = some v3
 y4 : w.cell? ⟨x, 4, none⟩ = some v4
 y5 : w.cell? ⟨x, 5, none⟩ = some v5
theorem PBox.below {w w' : World} {x : Nat} {v0 v1 v2 v3 v4 v5 : Value} (h : PBox w x v0 v1 v2 v3 v4 v5) (hb : Below w.heap.size w w') : PBox w' x v0 v1 v2 v3 v4 v5 := by
 have k := fun (p : Addr) (v : Value) (e : w.cell? p = some v) => (hb.cell (World.block_lt_of_cell? w _ e)).trans e
 exact ⟨k _ _ h.y0, k _ _ h.y1, k _ _ h.y2, k _ _ h.y3, k _ _ h.y4, k _ _ h.y5⟩
theorem PBox.new (w : World) (v0 v1 v2 v3 v4 v5 : Value) (T : TypeId) : PBox (w.alloc (.cells #[v0, v1, v2, v3, v4, v5] T)) w.heap.size v0 v1 v2 v3 v4 v5 :=
 ⟨World.cell?_alloc_at _ _ _ _ rfl, World.cell?_alloc_at _ _ _ _ rfl, World.cell?_alloc_at _ _ _ _ rfl, World.cell?_alloc_at _ _ _ _ rfl, World.cell?_alloc_at _ _ _ _ rfl, World.cell?_alloc_at _ _ _ _ rfl⟩
theorem pl_cells {w : World} {v : Value} {l : List Pl} {i : Nat} {p : Pl} (h : Has w v (dPls l)) (hx : l[i]? = some p) :
  ∃ b off cap a1 c1 a2 c2 a3 c3 a4 c4, v = .slice (some ⟨b, off, none⟩) l.length cap ∧ b < w.heap.size ∧ w.cell? ⟨b, off + i * 6, none⟩ = some (.int .i64 p.st.mode) ∧ w.cell? ⟨b, off + i * 6 + 1, none⟩ = some (.slice a1 p.st.waits.length c1) ∧ w.cell? ⟨b, off + i * 6 + 2, none⟩ = some (.slice a2 p.st.picks.length c2) ∧
   w.cell? ⟨b, off + i * 6 + 3, none⟩ = some (.slice a3 p.st.takes.length c3) ∧ w.cell? ⟨b, off + i * 6 + 4, none⟩ = some (.int .i64 p.node) ∧ w.cell? ⟨b, off + i * 6 + 5, none⟩ = some (.slice a4 p.all.length c4) ∧
   IsPl w p (.agg #[.int .i64 p.st.mode, .slice a1 p.st.waits.length c1, .slice a2 p.st.picks.length c2, .slice a3 p.st.takes.length c3, .int .i64 p.node, .slice a4 p.all.length c4]) := by
 obtain ⟨b, off, cap, rfl, h1, h2, cs, h3, h4⟩ := cells_of h hx
 obtain ⟨v1, v2, v3, v4, rfl, h5, h6, h7, h8⟩ := hasL_pl h3
 obtain ⟨a1, c1, rfl⟩ := slice_of h5
 obtain ⟨a2, c2, rfl⟩ := slice_of h6
 obtain ⟨a3, c3, rfl⟩ := slice_of h7
 obtain ⟨a4, c4, rfl⟩ := slice_of h8
 exact ⟨b, off, cap, _, _, _, _, _, _, _, _, rfl, h1, h4 0 _ rfl, h4 1 _ rfl, h4 2 _ rfl, h4 3 _ rfl, h4 4 _ rfl, h4 5 _ rfl, ⟨_, rfl, h3⟩⟩
set_option maxHeartbeats 8000000 in
set_option maxRecDepth 100000 in
theorem met_at (b c : Nat) (L : Lks) (v : Value) (ps : List Pl) (r : Bool) (w : World) (hd : DemAt w b c L) (hps : Has w v (dPls ps)) (hn : L.length ≤ 1000000) (hlow : Low L) (hp6 : ps.length ≤ 1000000) (hsm : ∀ p ∈ ps, SmallPl p)
  (hr : r = true ↔ (∀ p ∈ ps, PlaceOK L p) ∧ ∀ p ∈ ps, StaysOK p.all p.st) :
  Calls Try.prog 45 #[dem b c, v] w fun e w' => e = .returned (.bool r) ∧ Below w.heap.size w w' := by
 unfold dem
 obtain ⟨a1, c1, rfl⟩ := slice_of hps
 obtain ⟨ln, hln⟩ : ∃ ln, ln = ps.length := ⟨_, rfl⟩
 obtain ⟨w1, hw1⟩ : ∃ w1, w1 = w.alloc (.cells #[.func (.func 67) #[] #[], .func (.func 68) #[] #[.pointer (some ⟨b, 0, none⟩)], .func (.func 70) #[] #[.pointer (some ⟨c, 0, none⟩)], .func (.func 72) #[] #[.pointer (some ⟨c, 0, none⟩)], .func (.func 74) #[] #[]] 112) := ⟨_, rfl⟩
 have g : Below w.heap.size w w1 := by rw [hw1]; exact below_new _ _
 have hA : MetAt w1 w.heap.size b c L a1 c1 ps := by
  refine ⟨?_, ?_, ?_, ?_, ?_, hd.below g, hps.later g⟩ <;> (rw [hw1]; exact World.cell?_alloc_at _ _ _ _ rfl)
 have A := Lib.hid hA
 have G := Lib.hid g
 have Hr := Lib.hid hr
 have Hsm := Lib.hid hsm
 have Hn := Lib.hid hn
 have Hlow := Lib.hid hlow
 rw [← hln] at hp6 ⊢
 have Ln := Lib.hid hln
 clear hd hps hr hsm hn hlow hA g hln
 go_enter Try.func45, Try.ntmps45
 go_wp2_with fail
 rw [← hw1]
 clear hw1
 go_loopw [11] (fun i wr => ∃ k : Nat, i = .int .i64 k ∧ k ≤ ln ∧ (∀ i p, i < k → ps[i]? = some p → PlaceOK L p) ∧ Below w1.heap.size w1 wr) (fun i _ => ln - (intOf i).toNat)
 case atStart => exact ⟨0, rfl, by omega, fun j x hj => by omega, Below.refl _ _⟩
 case round =>
  obtain ⟨k, rfl, hk, hno, hbr⟩ := hrel
  have Hs := Lib.hid hno
  have R := Lib.hid hbr
  have hA2 := A.out.below hbr
  have BB := Lib.hid (below_step G.out.size G.out hbr)
  clear hno hbr
  by_cases hlt : k < ln
  ·have hlt' : (k : Int) < ln := by omega
   obtain ⟨p, hp⟩ := some_of_lt (l := ps) (i := k) (by rw [← Ln.out]; exact hlt)
   obtain ⟨bb, off, cap, b1, e1, b2, e2, b3, e3, b4, e4, e, hb, x0, x1, x2, x3, x4, x5, hI⟩ := pl_cells hA2.rows hp
   simp only [Value.slice.injEq] at e
   obtain ⟨e, _, e'⟩ := e
   subst e e'
   obtain ⟨n1, hn1⟩ : ∃ n1, n1 = p.st.waits.length := ⟨_, rfl⟩
   obtain ⟨n2, hn2⟩ : ∃ n2, n2 = p.st.picks.length := ⟨_, rfl⟩
   obtain ⟨n3, hn3⟩ : ∃ n3, n3 = p.st.takes.length := ⟨_, rfl⟩
   obtain ⟨n4, hn4⟩ : ∃ n4, n4 = p.all.length := ⟨_, rfl⟩
   obtain ⟨m, hm⟩ : ∃ m, m = p.st.mode := ⟨_, rfl⟩
   obtain ⟨nd, hnd⟩ : ∃ nd, nd = p.node := ⟨_, rfl⟩
   rw [← hn1, ← hn2, ← hn3, ← hn4, ← hm, ← hnd] at hI
   rw [← hn1] at x1
   rw [← hn2] at x2
   rw [← hn3] at x3
   rw [← hn4] at x5
   rw [← hm] at x0
   rw [← hnd] at x4
   obtain ⟨wx, hwx⟩ : ∃ wx, wx = wr.alloc (.cells #[.int .i64 m, .slice b1 n1 e1, .slice b2 n2 e2, .slice b3 n3 e3, .int .i64 nd, .slice b4 n4 e4] 145) := ⟨_, rfl⟩
   have hbx : Below wr.heap.size wr wx := by rw [hwx]; exact below_new _ _
   have hB : PBox wx wr.heap.size (.int .i64 m) (.slice b1 n1 e1) (.slice b2 n2 e2) (.slice b3 n3 e3) (.int .i64 nd) (.slice b4 n4 e4) := by rw [hwx]; exact PBox.new _ _ _ _ _ _ _ _
   have hA3 := hA2.below hbx
   have hS := Hsm.out p (List.mem_of_getElem? hp)
   have HS := Lib.hid hS
   have Hp := Lib.hid hp
   have I := Lib.hid (hI.later hbx)
   have M := Lib.hid hA3
   have PB := Lib.hid hB
   have B := Lib.hid (below_step R.out.size R.out hbx)
   have d0 := cell_more hA2.d0
   have Bad : Hid (∀ P : Prop, (PlaceOK L p → P) → ¬ P → r = false) := Lib.hid (fun P h hP => bool_no Hr.out (fun g => hP (h (g.1 p (List.mem_of_getElem? Hp.out)))))
   clear hA2 hp hI hn1 hn2 hn3 hn4 hm hnd hbx hB hA3 hS
   by_cases hc0 : (0 ≤ p.st.mode ∧ p.st.mode ≤ 2)
   ·have HC0 := Lib.hid hc0
    clear hc0
    go_wp2_with fail
    rw [← hwx]
    clear hwx
    refine (modeOK_at p _ true _ I.out ⟨fun _ => HC0.out, fun _ => rfl⟩).mono ?_
    rintro e wc0 ⟨rfl, hb3⟩
    have B := Lib.hid (below_step B.out.size B.out hb3)
    have I := Lib.hid (I.out.later hb3)
    have hM := M.out.below hb3
    have hP := PB.out.below hb3
    have M := Lib.hid hM
    have PB := Lib.hid hP
    have d1 := hM.d1
    have y0 := hP.y0
    have y1 := hP.y1
    have y2 := hP.y2
    have y3 := hP.y3
    have y4 := hP.y4
    have y5 := hP.y5
    clear hM hP hb3
    by_cases hc1 : WaitsOK L p.node p.st
    ·have HC1 := Lib.hid hc1
     clear hc1
     go_wp2_with fail
     refine (waitsC_at L p _ b c true _ I.out M.out.dm Hn.out HS.out.1.1 (by simp [HC1.out])).mono ?_
     rintro e wc1 ⟨rfl, hb3⟩
     have B := Lib.hid (below_step B.out.size B.out hb3)
     have I := Lib.hid (I.out.later hb3)
     have hM := M.out.below hb3
     have hP := PB.out.below hb3
     have M := Lib.hid hM
     have PB := Lib.hid hP
     have d2 := hM.d2
     have y0 := hP.y0
     have y1 := hP.y1
     have y2 := hP.y2
     have y3 := hP.y3
     have y4 := hP.y4
     have y5 := hP.y5
     clear hM hP hb3
     by_cases hc2 : PicksOK L p.node p.all p.st
     ·have HC2 := Lib.hid hc2
      clear hc2
      go_wp2_with fail
      refine (picksC_at L p _ b c true _ I.out M.out.dm Hn.out HS.out.1.2.1 (by simp [HC2.out])).mono ?_
      rintro e wc2 ⟨rfl, hb3⟩
      have B := Lib.hid (below_step B.out.size B.out hb3)
      have I := Lib.hid (I.out.later hb3)
      have hM := M.out.below hb3
      have hP := PB.out.below hb3
      have M := Lib.hid hM
      have PB := Lib.hid hP
      have d3 := hM.d3
      have y0 := hP.y0
      have y1 := hP.y1
      have y2 := hP.y2
      have y3 := hP.y3
      have y4 := hP.y4
      have y5 := hP.y5
      clear hM hP hb3
      by_cases hc3 : TakesOK L p.node p.all p.st.takes
      ·have HC3 := Lib.hid hc3
       clear hc3
       go_wp2_with fail
       refine (takesC_at L p _ b c true _ I.out M.out.dm Hn.out Hlow.out HS.out.1.2.2.1 (by simp [HC3.out])).mono ?_
       rintro e wc3 ⟨rfl, hb3⟩
       have B := Lib.hid (below_step B.out.size B.out hb3)
       have I := Lib.hid (I.out.later hb3)
       have hM := M.out.below hb3
       have hP := PB.out.below hb3
       have M := Lib.hid hM
       have PB := Lib.hid hP
       clear hM hP hb3
       go_wp2_with fail
       go_roundw
       case rel =>
        refine ⟨k + 1, by go_num, by omega, fun j y hj hy => ?_, B.out⟩
        by_cases hjk : j < k
        ·exact Hs.out j y hjk hy
        ·obtain rfl : j = k := by omega
         rw [Hp.out] at hy
         cases hy
         exact ⟨HC0.out, HC1.out, HC2.out, HC3.out⟩
       case measure => simp [intOf]; omega
      ·have HC3 := Lib.hid hc3
       have Hf := Lib.hid (Bad.out _ (fun g => g.2.2.2) hc3)
       clear hc3
       go_wp2_with fail
       refine (takesC_at L p _ b c false _ I.out M.out.dm Hn.out Hlow.out HS.out.1.2.2.1 (by simp [HC3.out])).mono ?_
       rintro e wc3 ⟨rfl, hb3⟩
       have B := Lib.hid (below_step B.out.size B.out hb3)
       clear hb3
       go_wp2_with fail
       go_ret
       exact ⟨by rw [Hf.out]; rfl, below_step G.out.size G.out B.out⟩
     ·have HC2 := Lib.hid hc2
      have Hf := Lib.hid (Bad.out _ (fun g => g.2.2.1) hc2)
      clear hc2
      go_wp2_with fail
      refine (picksC_at L p _ b c false _ I.out M.out.dm Hn.out HS.out.1.2.1 (by simp [HC2.out])).mono ?_
      rintro e wc2 ⟨rfl, hb3⟩
      have B := Lib.hid (below_step B.out.size B.out hb3)
      clear hb3
      go_wp2_with fail
      go_ret
      exact ⟨by rw [Hf.out]; rfl, below_step G.out.size G.out B.out⟩
    ·have HC1 := Lib.hid hc1
     have Hf := Lib.hid (Bad.out _ (fun g => g.2.1) hc1)
     clear hc1
     go_wp2_with fail
     refine (waitsC_at L p _ b c false _ I.out M.out.dm Hn.out HS.out.1.1 (by simp [HC1.out])).mono ?_
     rintro e wc1 ⟨rfl, hb3⟩
     have B := Lib.hid (below_step B.out.size B.out hb3)
     clear hb3
     go_wp2_with fail
     go_ret
     exact ⟨by rw [Hf.out]; rfl, below_step G.out.size G.out B.out⟩
   ·have HC0 := Lib.hid hc0
    have Hf := Lib.hid (Bad.out _ (fun g => g.1) hc0)
    clear hc0
    go_wp2_with fail
    rw [← hwx]
    clear hwx
    refine (modeOK_at p _ false _ I.out ⟨fun h => (by cases h), fun h => absurd h HC0.out⟩).mono ?_
    rintro e wc0 ⟨rfl, hb3⟩
    have B := Lib.hid (below_step B.out.size B.out hb3)
    clear hb3
    go_wp2_with fail
    go_ret
    exact ⟨by rw [Hf.out]; rfl, below_step G.out.size G.out B.out⟩
  ·have hlt' : ¬ (k : Int) < ln := by omega
   have hall : ∀ p ∈ ps, PlaceOK L p := fun p hp => by
    obtain ⟨i, hi⟩ := List.mem_iff_getElem?.1 hp
    exact Hs.out i p (by have := lt_of_some hi; rw [← Ln.out] at this; omega) hi
   obtain ⟨wo, hwo⟩ : ∃ wo, wo = wr := ⟨_, rfl⟩
   subst hwo
   have Hall := Lib.hid hall
   have A3 := Lib.hid hA2
   clear hall hA2
   go_wp2_with fail
   go_loopw [44] (fun i wq => ∃ k2 : Nat, i = .int .i64 k2 ∧ k2 ≤ ln ∧ (∀ i p, i < k2 → ps[i]? = some p → StaysOK p.all p.st) ∧ Below wo.heap.size wo wq) (fun i _ => ln - (intOf i).toNat)
   case atStart => exact ⟨0, rfl, by omega, fun j x hj => by omega, Below.refl _ _⟩
   case round =>
    obtain ⟨k2, rfl, hk2, hno2, hbr2⟩ := hrel
    have Hs2 := Lib.hid hno2
    have T := Lib.hid hbr2
    have hA2 := A3.out.below hbr2
    have BT := Lib.hid (below_step BB.out.size BB.out hbr2)
    clear hno2 hbr2
    by_cases hlt2 : k2 < ln
    ·have hlt2' : (k2 : Int) < ln := by omega
     obtain ⟨p, hp⟩ := some_of_lt (l := ps) (i := k2) (by rw [← Ln.out]; exact hlt2)
     obtain ⟨bb, off, cap, b1, e1, b2, e2, b3, e3, b4, e4, e, hb, x0, x1, x2, x3, x4, x5, hI⟩ := pl_cells hA2.rows hp
     simp only [Value.slice.injEq] at e
     obtain ⟨e, _, e'⟩ := e
     subst e e'
     obtain ⟨n1, hn1⟩ : ∃ n1, n1 = p.st.waits.length := ⟨_, rfl⟩
     obtain ⟨n2, hn2⟩ : ∃ n2, n2 = p.st.picks.length := ⟨_, rfl⟩
     obtain ⟨n3, hn3⟩ : ∃ n3, n3 = p.st.takes.length := ⟨_, rfl⟩
     obtain ⟨n4, hn4⟩ : ∃ n4, n4 = p.all.length := ⟨_, rfl⟩
     obtain ⟨m, hm⟩ : ∃ m, m = p.st.mode := ⟨_, rfl⟩
     obtain ⟨nd, hnd⟩ : ∃ nd, nd = p.node := ⟨_, rfl⟩
     rw [← hn1, ← hn2, ← hn3, ← hn4, ← hm, ← hnd] at hI
     rw [← hn1] at x1
     rw [← hn2] at x2
     rw [← hn3] at x3
     rw [← hn4] at x5
     rw [← hm] at x0
     rw [← hnd] at x4
     obtain ⟨wx, hwx⟩ : ∃ wx, wx = wr.alloc (.cells #[.int .i64 m, .slice b1 n1 e1, .slice b2 n2 e2, .slice b3 n3 e3, .int .i64 nd, .slice b4 n4 e4] 145) := ⟨_, rfl⟩
     have hbx : Below wr.heap.size wr wx := by rw [hwx]; exact below_new _ _
     have hB : PBox wx wr.heap.size (.int .i64 m) (.slice b1 n1 e1) (.slice b2 n2 e2) (.slice b3 n3 e3) (.int .i64 nd) (.slice b4 n4 e4) := by rw [hwx]; exact PBox.new _ _ _ _ _ _ _ _
     have hA3 := hA2.below hbx
     have hS := Hsm.out p (List.mem_of_getElem? hp)
     have HS := Lib.hid hS
     have Hp := Lib.hid hp
     have I := Lib.hid (hI.later hbx)
     have B := Lib.hid (below_step T.out.size T.out hbx)
     have PO := Lib.hid (Hall.out p (List.mem_of_getElem? hp))
     have d4 := cell_more hA2.d4
     have hnx : ∀ t ∈ p.st.takes, HasS p.all t.next := fun t ht => by
      obtain ⟨i, hi⟩ := List.mem_iff_getElem?.1 ht
      exact (PO.out.2.2.2 i t hi).2.1
     have Hnx := Lib.hid hnx
     clear hA2 hp hI hn1 hn2 hn3 hn4 hm hnd hbx hB hA3 hS hnx
     by_cases hst : StaysOK p.all p.st
     ·have Hst := Lib.hid hst
      clear hst
      go_wp2_with fail
      rw [← hwx]
      clear hwx
      refine (staysOK_at p _ true _ I.out HS.out.1.1 HS.out.1.2.2.1 (fun s hs => (HS.out.2 s hs).1) Hnx.out (by simp [Hst.out])).mono ?_
      rintro e w3 ⟨rfl, hb3⟩
      have B3 := Lib.hid (below_step B.out.size B.out hb3)
      clear hb3
      go_wp2_with fail
      go_roundw
      case rel =>
       refine ⟨k2 + 1, by go_num, by omega, fun j y hj hy => ?_, B3.out⟩
       by_cases hjk : j < k2
       ·exact Hs2.out j y hjk hy
       ·obtain rfl : j = k2 := by omega
        rw [Hp.out] at hy
        cases hy
        exact Hst.out
      case measure => simp [intOf]; omega
     ·have Hst := Lib.hid hst
      have hf := bool_no Hr.out (fun g => hst (g.2 p (List.mem_of_getElem? Hp.out)))
      have Hf := Lib.hid hf
      clear hst hf
      go_wp2_with fail
      rw [← hwx]
      clear hwx
      refine (staysOK_at p _ false _ I.out HS.out.1.1 HS.out.1.2.2.1 (fun s hs => (HS.out.2 s hs).1) Hnx.out (by simp [Hst.out])).mono ?_
      rintro e w3 ⟨rfl, hb3⟩
      have B3 := Lib.hid (below_step B.out.size B.out hb3)
      clear hb3
      go_wp2_with fail
      go_ret
      exact ⟨by rw [Hf.out]; rfl, below_step BB.out.size BB.out B3.out⟩
    ·have hlt2' : ¬ (k2 : Int) < ln := by omega
     have hf : r = true := bool_yes Hr.out ⟨Hall.out, fun p hp => by
      obtain ⟨i, hi⟩ := List.mem_iff_getElem?.1 hp
      exact Hs2.out i p (by have := lt_of_some hi; rw [← Ln.out] at this; omega) hi⟩
     have Hf := Lib.hid hf
     clear hf hA2
     go_wp2_with fail
     go_ret
     exact ⟨by rw [Hf.out]; rfl, BT.out⟩
end Go.Proofs.Ytennbiajnkobnaa

namespace Go.Proofs.Ytennbiajnkobnaa
open Go.RowKit Go.PlainAid
theorem run_store_fn (w : World) (a : Addr) (m : Mode) (fn : Fn) (first captured : Array Value) : (store a (.func fn first captured) m).run Try.prog w = stored Try.prog w a (.func fn first captured) m := run_store Try.prog w a _ m rfl
theorem run_store_nilFn (w : World) (a : Addr) (m : Mode) : (store a .nilFunc m).run Try.prog w = stored Try.prog w a .nilFunc m := run_store Try.prog w a _ m rfl
attribute [go_sem] run_store_fn run_store_nilFn
set_option maxHeartbeats 8000000 in
theorem demandsOver_at (N : Int) (v : Value) (L : Lks) (w : World) (h : LinksAt w v L) :
  Calls Try.prog 43 #[gv N v] w fun e w' => ∃ b c, e = .returned (dem b c) ∧ DemAt w' b c L ∧ Below w.heap.size w w' := by
 obtain ⟨a, cap, rfl⟩ := h.at
 have H := Lib.hid h
 clear h
 simp only [gv]
 go_enter Try.func43, Try.ntmps43
 go_wp2_with fail
 obtain ⟨wf, hwf⟩ : ∃ wf, wf = ((((w.alloc (.cells #[.int .i64 N, .slice a (List.length L) cap] 24)).alloc (.cells #[.func (.func 67) #[] #[], .func (.func 68) #[] #[.pointer (some ⟨w.heap.size + 1 + 1, 0, none⟩)], .func (.func 70) #[] #[.pointer (some ⟨w.heap.size + 1 + 1 + 1, 0, none⟩)], .func (.func 72) #[] #[.pointer (some ⟨w.heap.size + 1 + 1 + 1, 0, none⟩)], .func (.func 74) #[] #[]] 112)).alloc (.cells #[fnLinked w.heap.size] 142)).alloc (.cells #[fnGoes (w.heap.size + 1 + 1)] 143)) := ⟨_, rfl⟩
 have b0 : Below w.heap.size w wf := by rw [hwf]; go_grown
 have s0 : wf.cell? ⟨w.heap.size, 0, none⟩ = some (.int .i64 N) := by rw [hwf]; go_cell
 have s1 : wf.cell? ⟨w.heap.size, 1, none⟩ = some (.slice a (List.length L) cap) := by rw [hwf]; go_cell
 have t0 : wf.cell? ⟨w.heap.size + 1 + 1, 0, none⟩ = some (fnLinked w.heap.size) := by rw [hwf]; go_cell
 have t1 : wf.cell? ⟨w.heap.size + 1 + 1 + 1, 0, none⟩ = some (fnGoes (w.heap.size + 1 + 1)) := by rw [hwf]; go_cell
 have d0 : wf.cell? ⟨w.heap.size + 1, 0, none⟩ = some (.func (.func 67) #[] #[]) := by rw [hwf]; go_cell
 have d1 : wf.cell? ⟨w.heap.size + 1, 1, none⟩ = some (.func (.func 68) #[] #[.pointer (some ⟨w.heap.size + 1 + 1, 0, none⟩)]) := by rw [hwf]; go_cell
 have d2 : wf.cell? ⟨w.heap.size + 1, 2, none⟩ = some (.func (.func 70) #[] #[.pointer (some ⟨w.heap.size + 1 + 1 + 1, 0, none⟩)]) := by rw [hwf]; go_cell
 have d3 : wf.cell? ⟨w.heap.size + 1, 3, none⟩ = some (.func (.func 72) #[] #[.pointer (some ⟨w.heap.size + 1 + 1 + 1, 0, none⟩)]) := by rw [hwf]; go_cell
 have d4 : wf.cell? ⟨w.heap.size + 1, 4, none⟩ = some (.func (.func 74) #[] #[]) := by rw [hwf]; go_cell
 unfold fnLinked fnGoes at hwf
 rw [← hwf]
 clear hwf
 refine bodyPost_ret (v := dem (w.heap.size + 1 + 1) (w.heap.size + 1 + 1 + 1)) (by simp [dem, results, Try.results43, go_sem, d0, d1, d2, d3, d4]) rfl ⟨_, _, rfl, ⟨⟨_, t0, ⟨_, _, s0, s1, H.out.below b0⟩⟩, t1⟩, b0⟩
def plOf (x : Nd) (n : Nat) (k : Nat) : List Pl := (x.states.take k).map fun t => ⟨t, n, x.states⟩
theorem infoPl : (Try.prog.info? 145).map (fun i => (i.zero, i.size, i.bytes)) = some (some (.agg #[.int .i64 0, .slice none 0 0, .slice none 0 0, .slice none 0 0, .int .i64 0, .slice none 0 0]), 6, 112) := by kernel_rfl
theorem old_holdsL {lim : Nat} {w w' : World} {v : Value} {cs : List Value} {ds : List D} (h : HasL w cs ds) (hb : Below w.heap.size w w') (hv : ∀ k, v.ownBlock = some k → w.heap.size ≤ k) : HoldsL False (fun k => All k ∧ v.ownBlock ≠ some k ∧ (False → lim ≤ k)) w' cs ds :=
 (h.wide (fun b hb _ => ⟨trivial, fun e => by have := hv b e; omega, fun e => e.elim⟩)).later hb
theorem plOf_succ {x : Nd} {n k : Nat} {t : St} (ht : x.states[k]? = some t) : plOf x n (k + 1) = plOf x n k ++ [⟨t, n, x.states⟩] := by
 unfold plOf
 rw [List.take_add_one, ht]
 simp
theorem plOf_len {x : Nd} {n k : Nat} (h : k ≤ x.states.length) : (plOf x n k).length = k := by unfold plOf; simp; omega
set_option maxHeartbeats 8000000 in
set_option maxRecDepth 100000 in
theorem placesOf_at (M : Tab) (n : Nat) (x : Nd) (v : Value) (w : World) (h : Has w v (dTab M)) (hx : M[n]? = some x) (h6 : x.states.length ≤ 1000000) :
  Calls Try.prog 46 #[v, .int .i64 n] w fun e w' => ∃ u, e = .returned u ∧ Has w' u (dPls (plOf x n x.states.length)) ∧ Below w.heap.size w w' := by
 obtain ⟨i0, hi0, hz0, hz1, hz2⟩ := info_parts infoPl
 obtain ⟨b, off, cap, vs, rfl, hb, hcap, c0, c1, hS⟩ := nd_cells h hx
 obtain ⟨a4, c4, rfl⟩ := slice_of hS
 obtain ⟨ln, hln⟩ : ∃ ln, ln = x.states.length := ⟨_, rfl⟩
 obtain ⟨tl, htl⟩ : ∃ tl, tl = M.length := ⟨_, rfl⟩
 have hnt : n < tl := by rw [htl]; exact lt_of_some hx
 have hnt' : (n : Int) < tl := by omega
 have H := Lib.hid h
 have Hx := Lib.hid hx
 rw [← hln] at c1 h6 ⊢
 rw [← htl] at H ⊢
 have Ln := Lib.hid hln
 clear h hx hS hln htl hcap c0
 go_enter Try.func46, Try.ntmps46
 go_wp2_with fail
 go_loopw [5, 13] (fun q i wr => ∃ k : Nat, i = .int .i64 k ∧ k ≤ ln ∧ Own False All 145 6 w wr.heap.size wr q ((plOf x n k).map Pl.d)) (fun _ i _ => ln - (intOf i).toNat)
 case atStart => exact ⟨0, rfl, by omega, Own.nil (Below.refl _ _)⟩
 case round =>
  rename Value => q
  obtain ⟨k, rfl, hk, hO⟩ := hrel
  have O := Lib.hid hO
  have BB := Lib.hid hO.bel
  have hge := hO.ge
  obtain ⟨qa, qc, hqs⟩ := hO.slice
  rw [List.length_map, plOf_len (by rw [← Ln.out]; exact hk)] at hqs
  clear hO
  by_cases hlt : k < ln
  ·have hlt' : (k : Int) < ln := by omega
   obtain ⟨t, ht⟩ := some_of_lt (l := x.states) (i := k) (by rw [← Ln.out]; exact hlt)
   have Ht := Lib.hid ht
   have Hge := Lib.hid (fun k hk => (hge k hk).1)
   clear ht hge
   subst hqs
   go_wp2_with fail
   refine (placeOf_in M n k _ w _ H.out BB.out).mono ?_
   rintro e w2 ⟨u, rfl, hu, hb2⟩
   rw [plAt_of Hx.out Ht.out] at hu
   obtain ⟨cs, rfl, hcs⟩ := hu
   obtain ⟨v1, v2, v3, v4, rfl, _⟩ := hasL_pl hcs
   have C := Lib.hid hcs
   have B2 := Lib.hid hb2
   have O2 := Lib.hid (O.out.later hb2)
   have BW := Lib.hid (below_step BB.out.size BB.out hb2)
   have O3 := Lib.hid (O2.out.later (below_new w2 (.cells #[.int .i64 t.mode, v1, v2, v3, .int .i64 n, v4] 145)))
   clear hcs hb2
   go_wp2_with (at_builtin; go_loud (refine app_own rfl _ _ 116 145 i0 _ 6 112 rfl Try.underlying116 hi0 hz0 hz1 hz2 rfl (by decide) False All w _ _ _ [Pl.d ⟨t, n, x.states⟩] k 1 1 rfl O3.out ?c1 ⟨w2.heap.size, 0, none⟩ rfl [.int .i64 t.mode, v1, v2, v3, .int .i64 n, v4] ?c2 ?c3 rfl ?c4 ?c5 ?c6 ?_))
   case c1 => rw [List.length_map, plOf_len (by rw [← Ln.out]; omega)]
   case c2 =>
    intro j u hj
    rw [Go.WideShapes.add_plain, Nat.zero_add, World.cell?_alloc_at _ _ _ _ rfl]
    rw [List.getElem?_toArray]; exact hj
   case c3 => intro ds hds; simp at hds; rw [hds]; rfl
   case c4 =>
    have := old_holdsL (lim := wr.heap.size) (v := .slice qa k qc) C.out BW.out Hge.out
    rw [List.flatten_cons, List.flatten_nil, List.append_nil]
    exact HoldsL.later this (below_new _ _)
   case c5 => unfold maxLen; omega
   case c6 => omega
   intro ao cv w3 hO3 _
   have e3 : (plOf x n k).map Pl.d ++ [Pl.d ⟨t, n, x.states⟩] = (plOf x n (k + 1)).map Pl.d := by rw [plOf_succ Ht.out, List.map_append]; rfl
   rw [e3] at hO3
   have O4 := Lib.hid hO3
   clear hO3 e3
   go_wp2_with fail
   go_roundw
   case rel => exact ⟨k + 1, by go_num, by omega, O4.out⟩
   case measure => simp [intOf]; omega
  ·have hlt' : ¬ (k : Int) < ln := by omega
   obtain rfl : k = ln := by omega
   clear hge
   subst hqs
   go_wp2_with fail
   go_ret
   refine ⟨_, rfl, ?_, BB.out⟩
   have := O.out.holds (fun _ _ => trivial)
   rw [Ln.out] at this ⊢
   exact this
end Go.Proofs.Ytennbiajnkobnaa

