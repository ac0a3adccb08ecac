/- Texts put together. -/
import Derived.Test.YtennbiajnkobnaaQ06
namespace Go.Proofs.Ytennbiajnkobnaa
open Go.RowKit Go.PlainAid
def SendsEach (L : Lks) (n : Int) (ss : Lks) : Prop := ∀ (i : Nat) (q : Int × Int), ss[i]? = some q → Goes L n q.1 q.2
def PicksEach (L : Lks) (n : Int) (all : List St) (l : List Pk) : Prop := ∀ (i : Nat) (p : Pk), l[i]? = some p → HasS all p.next ∧ p.sends.length ≤ 4 ∧ SendsEach L n p.sends
def PicksOK (L : Lks) (n : Int) (all : List St) (s : St) : Prop := s.picks.length ≤ 4 ∧ (0 < s.picks.length → s.mode = 1) ∧ PicksEach L n all s.picks
theorem goes_yes (a : Nat) (L : Lks) (x y c : Int) (w : World) (h : GoesAt w a L) (hn : L.length ≤ 1000000) (hr : Goes L x y c) :
  Calls Try.prog 66 #[.int .i64 x, .int .i64 y, .int .i64 c, .pointer (some ⟨a, 0, none⟩)] w fun e w' => e = .returned (.bool true) ∧ Below w.heap.size w w' := goes_at a L x y c true w h hn (by simp [hr])
theorem goes_no (a : Nat) (L : Lks) (x y c : Int) (w : World) (h : GoesAt w a L) (hn : L.length ≤ 1000000) (hr : ¬ Goes L x y c) :
  Calls Try.prog 66 #[.int .i64 x, .int .i64 y, .int .i64 c, .pointer (some ⟨a, 0, none⟩)] w fun e w' => e = .returned (.bool false) ∧ Below w.heap.size w w' := goes_at a L x y c false w h hn (by simp [hr])
theorem link_cells {w : World} {v : Value} {l : Lks} {i : Nat} {p : Int × Int} (h : Has w v (dLinks l)) (hx : l[i]? = some p) :
  ∃ b off cap, v = .slice (some ⟨b, off, none⟩) l.length cap ∧ b < w.heap.size ∧ l.length ≤ cap ∧ w.cell? ⟨b, off + i * 2, none⟩ = some (.int .i64 p.1) ∧ w.cell? ⟨b, off + i * 2 + 1, none⟩ = some (.int .i64 p.2) := by
 obtain ⟨b, off, cap, rfl, h1, h2, cs, h3, h4⟩ := cells_of (f := fun p : Int × Int => [dI p.1, dI p.2]) h hx
 obtain ⟨c, r, rfl, g1, g⟩ := h3.cons
 obtain ⟨c2, r, rfl, g2, g⟩ := HasL.cons g
 obtain rfl := Holds.val g1
 obtain rfl := Holds.val g2
 exact ⟨b, off, cap, rfl, h1, h2, h4 0 _ rfl, h4 1 _ rfl⟩
theorem cell_more {w : World} {p : Addr} {v : Value} (h : w.cell? p = some v) (o : Obj) : (w.alloc o).cell? p = some v := ((below_new w o).cell (World.block_lt_of_cell? w _ h)).trans h
/-- What the walk of a place's picks needs of the memory. -/
structure PkAt (w : World) (b : Nat) (node : Int) (a2 : Option Addr) (c2 : Nat) (l : List Pk) (a4 : Option Addr) (n4 c4 : Nat) (L : Lks) (a : Nat) : Prop where
 f2 : w.cell? ⟨b, 2, none⟩ = some (.slice a2 l.length c2)
 f4 : w.cell? ⟨b, 4, none⟩ = some (.int .i64 node)
 f5 : w.cell? ⟨b, 5, none⟩ = some (.slice a4 n4 c4)
 ps : Has w (.slice a2 l.length c2) (dPicks l)
 ln : GoesAt w a L
theorem PkAt.below {w w' : World} {b : Nat} {node : Int} {a2 : Option Addr} {c2 : Nat} {l : List Pk} {a4 : Option Addr} {n4 c4 : Nat} {L : Lks} {a : Nat} (h : PkAt w b node a2 c2 l a4 n4 c4 L a) (hb : Below w.heap.size w w') : PkAt w' b node a2 c2 l a4 n4 c4 L a := by
 have := World.block_lt_of_cell? w _ h.f2
 exact ⟨(hb.cell (by exact this)).trans h.f2, (hb.cell (by exact this)).trans h.f4, (hb.cell (by exact this)).trans h.f5, h.ps.later hb, h.ln.below hb⟩
set_option maxHeartbeats 8000000 in
set_option maxRecDepth 100000 in
theorem picksOK_loop (L : Lks) (node m : Int) (a2 : Option Addr) (c2 : Nat) (l : List Pk) (all : List St) (a4 : Option Addr) (c4 : Nat) (v1 v3 : Value) (a : Nat) (r : Bool) (w : World) (hm : m = 1) (h0 : 0 < l.length) (h4 : l.length ≤ 4) (hx : Has w (.slice a2 l.length c2) (dPicks l))
  (hl : GoesAt w a L) (hn : L.length ≤ 1000000) (hr : r = true ↔ PicksEach L node all l) :
  Calls Try.prog 71 #[.agg #[.int .i64 m, v1, .slice a2 l.length c2, v3, .int .i64 node, .slice a4 all.length c4], fnGoes a] w fun e w' => e = .returned (.bool r) ∧ Below w.heap.size w w' := by
 subst hm
 unfold fnGoes
 obtain ⟨ln, hln⟩ : ∃ ln, ln = l.length := ⟨_, rfl⟩
 obtain ⟨n4, hn4⟩ : ∃ n4, n4 = all.length := ⟨_, rfl⟩
 obtain ⟨w1, hw1⟩ : ∃ w1, w1 = w.alloc (.cells #[.int .i64 1, v1, .slice a2 l.length c2, v3, .int .i64 node, .slice a4 n4 c4] 145) := ⟨_, rfl⟩
 have g : Below w.heap.size w w1 := by rw [hw1]; exact below_new _ _
 have hA : PkAt w1 w.heap.size node a2 c2 l a4 n4 c4 L a := ⟨by rw [hw1]; exact World.cell?_alloc_at _ _ _ _ rfl, by rw [hw1]; exact World.cell?_alloc_at _ _ _ _ rfl, by rw [hw1]; exact World.cell?_alloc_at _ _ _ _ rfl, hx.later g, hl.below g⟩
 have d2 := hA.f2
 have d0 : w1.cell? ⟨w.heap.size, 0, none⟩ = some (.int .i64 1) := by rw [hw1]; exact World.cell?_alloc_at _ _ _ _ rfl
 have A := Lib.hid hA
 have G := Lib.hid g
 have Hr := Lib.hid hr
 have Hn := Lib.hid hn
 rw [← hln] at d2 h0 h4 ⊢
 rw [← hn4]
 have Ln := Lib.hid hln
 have N4 := Lib.hid hn4
 have e4 : ¬ (4 : Int) < ln := by omega
 have e0 : (0 : Int) < ln := by omega
 have e4' : decide ((4 : Int) < ln) = false := by simp; omega
 clear hx hl hr hn hA g hln hn4
 go_enter Try.func71, Try.ntmps71
 try simp only [List.append_eq, List.cons_append, List.nil_append]
 rw [← Ln.out] at hw1
 go_wp2_with fail
 rw [← hw1]
 clear hw1
 go_loopw [31] (fun i wr => ∃ k : Nat, i = .int .i64 k ∧ k ≤ ln ∧ (∀ j p, j < k → l[j]? = some p → HasS all p.next ∧ p.sends.length ≤ 4 ∧ SendsEach L node p.sends) ∧ Below w1.heap.size w1 wr) (fun i _ => ln - (intOf i).toNat)
 case atStart => exact ⟨0, rfl, by omega, fun j x hj => by omega, Below.refl _ _⟩
 case round =>
  obtain ⟨k, rfl, hk, hno, hbr⟩ := hrel
  have Hs := Lib.hid hno
  have R := Lib.hid hbr
  have A2 := Lib.hid (A.out.below hbr)
  have BB := Lib.hid (below_step G.out.size G.out hbr)
  have q2 := A2.out.f2
  have q5 := cell_more A2.out.f5
  rw [← Ln.out] at q2
  clear hno hbr
  by_cases hlt : k < ln
  ·have hlt' : (k : Int) < ln := by omega
   obtain ⟨p, hp⟩ := some_of_lt (l := l) (i := k) (by rw [← Ln.out]; exact hlt)
   obtain ⟨b, off, cap, sv, e, hb, _, x0, x1, hsv⟩ := pk_cells A2.out.ps hp
   simp only [Value.slice.injEq] at e
   obtain ⟨e, _, e2⟩ := e
   subst e e2
   obtain ⟨sa, sc, rfl⟩ := slice_of hsv
   obtain ⟨sn, hsn⟩ : ∃ sn, sn = p.sends.length := ⟨_, rfl⟩
   obtain ⟨pn, hpn⟩ : ∃ pn, pn = p.next := ⟨_, rfl⟩
   rw [← hsn] at x1 hsv
   rw [← hpn] at x0
   have Sn := Lib.hid hsn
   have Pn := Lib.hid hpn
   have Hp := Lib.hid hp
   have HS := Lib.hid hsv
   have Bad : Hid (∀ P : Prop, (HasS all pn → sn ≤ 4 → SendsEach L node p.sends → P) → ¬ P → r = false) := Lib.hid (fun P h hP => bool_no Hr.out (fun g => hP (by rw [Pn.out, Sn.out] at h; exact h (g k p Hp.out).1 (g k p Hp.out).2.1 (g k p Hp.out).2.2)))
   clear hp hsv hsn hpn
   by_cases hs : HasS all pn
   ·have Ys := Lib.hid hs
    have y0 := hs.1
    have y1 := hs.2
    rw [← N4.out] at y1
    clear hs
    go_wp2_with fail
    refine (has_yes _ _ _ _ _ y0 y1).mono ?_
    rintro e w2 ⟨rfl, hw2⟩
    have B2 := Lib.hid (show Below wr.heap.size wr w2 by rw [← hw2]; go_grown)
    have z0 : w2.cell? ⟨wr.heap.size, 0, none⟩ = some (.int .i64 pn) := by rw [← hw2]; exact World.cell?_alloc_at _ _ _ _ rfl
    have z1 : w2.cell? ⟨wr.heap.size, 1, none⟩ = some (.slice sa sn sc) := by rw [← hw2]; exact World.cell?_alloc_at _ _ _ _ rfl
    have A3 := Lib.hid (A2.out.below B2.out)
    have R3 := Lib.hid (below_step R.out.size R.out B2.out)
    have HS2 := Lib.hid (HS.out.later B2.out)
    clear hw2
    by_cases hs4 : sn ≤ 4
    ·have u4 : ¬ (4 : Int) < sn := by omega
     have u4' : decide ((4 : Int) < sn) = false := by simp; omega
     go_wp2_with fail
     go_loopw [50] (fun i wq => ∃ k2 : Nat, i = .int .i64 k2 ∧ k2 ≤ sn ∧ (∀ j q, j < k2 → p.sends[j]? = some q → Goes L node q.1 q.2) ∧ Below w2.heap.size w2 wq) (fun i _ => sn - (intOf i).toNat)
     case atStart => exact ⟨0, rfl, by omega, fun j x hj => by omega, Below.refl _ _⟩
     case round =>
      obtain ⟨k2, rfl, hk2, hno2, hbr2⟩ := hrel
      have Hs2 := Lib.hid hno2
      have T := Lib.hid hbr2
      have A4 := Lib.hid (A3.out.below hbr2)
      have BT := Lib.hid (below_step R3.out.size R3.out hbr2)
      have w4 := cell_more A4.out.f4
      have HS3 := Lib.hid (HS2.out.later hbr2)
      clear hno2 hbr2
      by_cases hlt2 : k2 < sn
      ·have hlt2' : (k2 : Int) < sn := by omega
       obtain ⟨q, hq⟩ := some_of_lt (l := p.sends) (i := k2) (by rw [← Sn.out]; exact hlt2)
       have hh := HS3.out
       rw [Sn.out] at hh
       obtain ⟨b2, off2, cap2, e, hb2, _, t0, t1⟩ := link_cells hh hq
       simp only [Value.slice.injEq] at e
       obtain ⟨e, _, e2⟩ := e
       subst e e2
       have Hq := Lib.hid hq
       clear hh hq
       obtain ⟨q1, q2⟩ := q
       simp only at t0 t1
       by_cases hg : Goes L node q1 q2
       ·have Hg := Lib.hid hg
        clear hg
        go_wp2_with fail
        refine (goes_yes a L node q1 q2 _ (A4.out.ln.below (by go_grown)) Hn.out Hg.out).mono ?_
        rintro e w3 ⟨rfl, hb3⟩
        have B3 := Lib.hid (show Below w2.heap.size w2 w3 from below_step T.out.size T.out (Below.trans (by go_grown) (hb3.mono (by go_grown))))
        clear hb3
        go_wp2_with fail
        go_roundw
        case rel =>
         refine ⟨k2 + 1, by go_num, by omega, fun j y hj hy => ?_, B3.out⟩
         by_cases hjk : j < k2
         ·exact Hs2.out j y hjk hy
         ·obtain rfl : j = k2 := by omega
          rw [Hq.out] at hy
          cases hy
          exact Hg.out
        case measure => simp [intOf]; omega
       ·have hf := Bad.out _ (fun _ _ h => h k2 _ Hq.out) hg
        have Hf := Lib.hid hf
        have Hg := Lib.hid hg
        clear hg hf
        go_wp2_with fail
        refine (goes_no a L node q1 q2 _ (A4.out.ln.below (by go_grown)) Hn.out Hg.out).mono ?_
        rintro e w3 ⟨rfl, hb3⟩
        have B3 := Lib.hid (show Below w2.heap.size w2 w3 from below_step T.out.size T.out (Below.trans (by go_grown) (hb3.mono (by go_grown))))
        clear hb3
        go_wp2_with fail
        go_ret
        exact ⟨by rw [Hf.out]; rfl, below_step G.out.size G.out (below_step R3.out.size R3.out B3.out)⟩
      ·have hlt2' : ¬ (k2 : Int) < sn := by omega
       go_wp2_with fail
       go_roundw
       case rel =>
        refine ⟨k + 1, by go_num, by omega, fun j y hj hy => ?_, BT.out⟩
        by_cases hjk : j < k
        ·exact Hs.out j y hjk hy
        ·obtain rfl : j = k := by omega
         rw [Hp.out] at hy
         cases hy
         exact ⟨by rw [← Pn.out]; exact Ys.out, by rw [← Sn.out]; exact hs4, fun i q hq => Hs2.out i q (by have := lt_of_some hq; rw [← Sn.out] at this; omega) hq⟩
       case measure => simp [intOf]; omega
    ·have u4 : (4 : Int) < sn := by omega
     have u4' : decide ((4 : Int) < sn) = true := by simp; omega
     have Hf := Lib.hid (Bad.out _ (fun _ h _ => h) hs4)
     go_wp2_with fail
     go_ret
     exact ⟨by rw [Hf.out]; rfl, below_step G.out.size G.out R3.out⟩
   ·have Hf := Lib.hid (Bad.out _ (fun h _ _ => h) hs)
    have Ns : Hid (¬ (0 ≤ pn ∧ pn < n4)) := Lib.hid (by rw [N4.out]; exact hs)
    clear hs
    go_wp2_with fail
    refine (has_no _ _ _ _ _ Ns.out).mono ?_
    rintro e w2 ⟨rfl, hw2⟩
    have B2 := Lib.hid (show Below wr.heap.size wr w2 by rw [← hw2]; go_grown)
    clear hw2
    go_wp2_with fail
    go_ret
    exact ⟨by rw [Hf.out]; rfl, below_step BB.out.size BB.out B2.out⟩
  ·have hlt' : ¬ (k : Int) < ln := by omega
   have hf : r = true := bool_yes Hr.out (fun j x hx => Hs.out j x (by have := lt_of_some hx; rw [← Ln.out] at this; omega) hx)
   have Hf := Lib.hid hf
   clear hf
   go_wp2_with fail
   go_ret
   exact ⟨by rw [Hf.out]; rfl, BB.out⟩
end Go.Proofs.Ytennbiajnkobnaa

