/- Texts put together. -/
import Derived.Test.YtennbiajnkobnaaQ00
import Derived.Test.YtennbiajnkobnaaQ05
import Derived.Test.YtennbiajnkobnaaQ06
import Derived.Test.YtennbiajnkobnaaQ07
import Derived.Test.YtennbiajnkobnaaQ08
namespace Go.Proofs.Ytennbiajnkobnaa
open Go.RowKit Go.PlainAid
def stOf (all : List St) (s : Int) : St := all.getD s.toNat St.zero
def StaysOK (all : List St) (s : St) : Prop := ∀ (i : Nat) (t : Tk), s.takes[i]? = some t → ∀ (j : Nat) (x : Int), s.waits[j]? = some x → x ≠ t.src → x ∈ (stOf all t.next).waits
structure SbAt (w : World) (b : Nat) (a1 : Option Addr) (c1 : Nat) (ws : List Int) (a3 : Option Addr) (c3 : Nat) (l : List Tk) (a4 : Option Addr) (c4 : Nat) (all : List St) : Prop where
 f1 : w.cell? ⟨b, 1, none⟩ = some (.slice a1 ws.length c1)
 f5 : w.cell? ⟨b, 5, none⟩ = some (.slice a4 all.length c4)
 hw : Has w (.slice a1 ws.length c1) (dInts ws)
 ht : Has w (.slice a3 l.length c3) (dTakes l)
 hs : Has w (.slice a4 all.length c4) (dStates all)
theorem SbAt.below {w w' : World} {b : Nat} {a1 : Option Addr} {c1 : Nat} {ws : List Int} {a3 : Option Addr} {c3 : Nat} {l : List Tk} {a4 : Option Addr} {c4 : Nat} {all : List St} (h : SbAt w b a1 c1 ws a3 c3 l a4 c4 all) (hb : Below w.heap.size w w') : SbAt w' b a1 c1 ws a3 c3 l a4 c4 all := by
 have := World.block_lt_of_cell? w _ h.f1
 exact ⟨(hb.cell (by exact this)).trans h.f1, (hb.cell (by exact this)).trans h.f5, h.hw.later hb, h.ht.later hb, h.hs.later hb⟩
theorem int_cells {w : World} {v : Value} {l : List Int} {i : Nat} {x : Int} (h : Has w v (dInts l)) (hx : l[i]? = some x) :
  ∃ b off cap, v = .slice (some ⟨b, off, none⟩) l.length cap ∧ b < w.heap.size ∧ w.cell? ⟨b, off + i, none⟩ = some (.int .i64 x) := by
 obtain ⟨b, off, cap, rfl, h1, h2, cs, h3, h4⟩ := cells_of (f := fun a : Int => [dI a]) h hx
 obtain ⟨c, r, rfl, g1, g⟩ := h3.cons
 obtain rfl := Holds.val g1
 have := h4 0 _ rfl
 rw [Nat.mul_one, Nat.add_zero] at this
 exact ⟨b, off, cap, rfl, h1, this⟩
set_option maxHeartbeats 8000000 in
set_option maxRecDepth 100000 in
theorem staysOK_loop (m node : Int) (a1 : Option Addr) (c1 : Nat) (ws : List Int) (v2 : Value) (a3 : Option Addr) (c3 : Nat) (l : List Tk) (a4 : Option Addr) (c4 : Nat) (all : List St) (r : Bool) (w : World) (hl6 : l.length ≤ 1000000) (hw6 : ws.length ≤ 1000000)
  (hw : Has w (.slice a1 ws.length c1) (dInts ws)) (ht : Has w (.slice a3 l.length c3) (dTakes l)) (hs : Has w (.slice a4 all.length c4) (dStates all)) (hall : ∀ s ∈ all, s.waits.length ≤ 1000000) (hnx : ∀ t ∈ l, HasS all t.next)
  (hr : r = true ↔ ∀ (i : Nat) (t : Tk), l[i]? = some t → ∀ (j : Nat) (x : Int), ws[j]? = some x → x ≠ t.src → x ∈ (stOf all t.next).waits) :
  Calls Try.prog 74 #[.agg #[.int .i64 m, .slice a1 ws.length c1, v2, .slice a3 l.length c3, .int .i64 node, .slice a4 all.length c4]] w fun e w' => e = .returned (.bool r) ∧ Below w.heap.size w w' := by
 obtain ⟨ln, hln⟩ : ∃ ln, ln = l.length := ⟨_, rfl⟩
 obtain ⟨n4, hn4⟩ : ∃ n4, n4 = all.length := ⟨_, rfl⟩
 obtain ⟨n1, hn1⟩ : ∃ n1, n1 = ws.length := ⟨_, rfl⟩
 obtain ⟨w1, hw1⟩ : ∃ w1, w1 = w.alloc (.cells #[.int .i64 m, .slice a1 n1 c1, v2, .slice a3 ln c3, .int .i64 node, .slice a4 n4 c4] 145) := ⟨_, rfl⟩
 have g : Below w.heap.size w w1 := by rw [hw1]; exact below_new _ _
 have hA : SbAt w1 w.heap.size a1 c1 ws a3 c3 l a4 c4 all := ⟨by rw [hw1, hn1]; exact World.cell?_alloc_at _ _ _ _ rfl, by rw [hw1, hn4]; exact World.cell?_alloc_at _ _ _ _ rfl, hw.later g, ht.later g, hs.later g⟩
 have d3 : w1.cell? ⟨w.heap.size, 3, none⟩ = some (.slice a3 ln c3) := by rw [hw1]; exact World.cell?_alloc_at _ _ _ _ rfl
 have A := Lib.hid hA
 have G := Lib.hid g
 have Hr := Lib.hid hr
 have Hall := Lib.hid hall
 have Hnx := Lib.hid hnx
 rw [← hln] at hl6 ⊢
 rw [← hn1] at hw6 ⊢
 rw [← hn4]
 have Ln := Lib.hid hln
 have N4 := Lib.hid hn4
 have N1 := Lib.hid hn1
 clear hw ht hs hall hnx hr hA g hln hn4 hn1
 go_enter Try.func74, Try.ntmps74
 go_wp2_with fail
 rw [← hw1]
 clear hw1
 go_loopw [11] (fun i wr => ∃ k : Nat, i = .int .i64 k ∧ k ≤ ln ∧ (∀ i t, i < k → l[i]? = some t → ∀ (j : Nat) (x : Int), ws[j]? = some x → x ≠ t.src → x ∈ (stOf all t.next).waits) ∧ Below w1.heap.size w1 wr) (fun i _ => ln - (intOf i).toNat)
 case atStart => exact ⟨0, rfl, by omega, fun j x hj => by omega, Below.refl _ _⟩
 case round =>
  obtain ⟨k, rfl, hk, hno, hbr⟩ := hrel
  have Hs := Lib.hid hno
  have R := Lib.hid hbr
  have hA2 := A.out.below hbr
  have A2 := Lib.hid hA2
  have BB := Lib.hid (below_step G.out.size G.out hbr)
  have q1 := cell_more hA2.f1
  rw [← N1.out] at q1
  clear hno hbr
  by_cases hlt : k < ln
  ·have hlt' : (k : Int) < ln := by omega
   obtain ⟨t, ht⟩ := some_of_lt (l := l) (i := k) (by rw [← Ln.out]; exact hlt)
   obtain ⟨b, off, cap, e, hb, _, x0, x1, x2⟩ := tk_cells hA2.ht ht
   simp only [Value.slice.injEq] at e
   obtain ⟨e, _, e2⟩ := e
   subst e e2
   have Ht := Lib.hid ht
   have hnext := Hnx.out t (List.mem_of_getElem? ht)
   obtain ⟨t1, t2, t3⟩ := t
   simp only at x0 x1 x2 hnext
   obtain ⟨nx, hnx⟩ := Int.eq_ofNat_of_zero_le hnext.1
   subst hnx
   have hnl : nx < n4 := by rw [N4.out]; exact Int.ofNat_lt.1 hnext.2
   have hnl' : (nx : Int) < n4 := by omega
   obtain ⟨sx, hsx⟩ := some_of_lt (l := all) (i := nx) (by rw [← N4.out]; exact hnl)
   obtain ⟨wx, hwx⟩ : ∃ wx, wx = wr.alloc (.cells #[.int .i64 t1, .int .i64 t2, .int .i64 nx] 125) := ⟨_, rfl⟩
   have hbx : Below wr.heap.size wr wx := by rw [hwx]; exact below_new _ _
   have z0 : wx.cell? ⟨wr.heap.size, 0, none⟩ = some (.int .i64 t1) := by rw [hwx]; exact World.cell?_alloc_at _ _ _ _ rfl
   have z2 : wx.cell? ⟨wr.heap.size, 2, none⟩ = some (.int .i64 nx) := by rw [hwx]; exact World.cell?_alloc_at _ _ _ _ rfl
   have hSx : stOf all nx = sx := by unfold stOf; simp [List.getD, hsx]
   have hwsx := Hall.out sx (List.mem_of_getElem? hsx)
   have HSx := Lib.hid hSx
   have Hsx := Lib.hid hsx
   have Hwsx := Lib.hid hwsx
   have A3 := Lib.hid (hA2.below hbx)
   have R3 := Lib.hid (below_step R.out.size R.out hbx)
   have u1 := (hbx.cell (World.block_lt_of_cell? wr _ hA2.f1)).trans hA2.f1
   rw [← N1.out] at u1
   clear ht hnext hsx hbx hSx hwsx hA2
   go_wp2_with fail
   try rw [← hwx]
   clear hwx q1
   try go_wp2_with fail
   go_loopw [19] (fun i wq => ∃ k2 : Nat, i = .int .i64 k2 ∧ k2 ≤ n1 ∧ (∀ j x, j < k2 → ws[j]? = some x → x ≠ t1 → x ∈ sx.waits) ∧ Below wx.heap.size wx wq) (fun i _ => n1 - (intOf i).toNat)
   case atStart => exact ⟨0, rfl, by omega, fun j x hj => by omega, Below.refl _ _⟩
   case round =>
    obtain ⟨k2, rfl, hk2, hno2, hbr2⟩ := hrel
    have Hs2 := Lib.hid hno2
    have T := Lib.hid hbr2
    have hA4 := A3.out.below hbr2
    have BT := Lib.hid (below_step R3.out.size R3.out hbr2)
    have v0 := (hbr2.cell (World.block_lt_of_cell? wx _ z0)).trans z0
    have v2' := (hbr2.cell (World.block_lt_of_cell? wx _ z2)).trans z2
    have v5 := hA4.f5
    rw [← N4.out] at v5
    by_cases hlt2 : k2 < n1
    ·have hlt2' : (k2 : Int) < n1 := by omega
     obtain ⟨x, hx⟩ := some_of_lt (l := ws) (i := k2) (by rw [← N1.out]; exact hlt2)
     obtain ⟨b2, off2, cap2, e, hb2, y0⟩ := int_cells hA4.hw hx
     simp only [Value.slice.injEq] at e
     obtain ⟨e, _, e2⟩ := e
     subst e e2
     obtain ⟨b3, off3, cap3, p1, p2, p3, e, hb3, _, _, g1, _, _, gw, _⟩ := st_cells hA4.hs Hsx.out
     simp only [Value.slice.injEq] at e
     obtain ⟨e, _, e2⟩ := e
     subst e e2
     obtain ⟨sa, sc, rfl⟩ := slice_of gw
     obtain ⟨sn, hsn⟩ : ∃ sn, sn = sx.waits.length := ⟨_, rfl⟩
     rw [← hsn] at g1
     have Sn := Lib.hid hsn
     have Gw := Lib.hid (Has.ints gw)
     have Hx := Lib.hid hx
     clear gw hsn hx hno2 hbr2 hA4
     by_cases hxt : x = t1
     ·have hb1 : (x == t1) = true := by simpa using hxt
      have Hxt := Lib.hid hxt
      clear hxt
      go_wp2_with fail
      go_roundw
      case rel =>
       refine ⟨k2 + 1, by go_num, by omega, fun j y hj hy hne => ?_, T.out⟩
       by_cases hjk : j < k2
       ·exact Hs2.out j y hjk hy hne
       ·obtain rfl : j = k2 := by omega
        rw [Hx.out] at hy
        cases hy
        exact absurd Hxt.out hne
      case measure => simp [intOf]; omega
     ·have hb1 : (x == t1) = false := by simpa using hxt
      have Hxt := Lib.hid hxt
      clear hxt
      by_cases hin : x ∈ sx.waits
      ·have hd : decide (x ∈ sx.waits) = true := by simpa using hin
       have Hd := Lib.hid hd
       have Hin := Lib.hid hin
       clear hin hd
       go_wp2_with fail
       refine (contains_any _ sx.waits x _ (by rw [Sn.out]; exact Gw.out) Hwsx.out).mono ?_
       rw [Hd.out]
       rintro e w3 ⟨rfl, hb3'⟩
       have B3 := Lib.hid (show Below wx.heap.size wx w3 by rw [← hb3']; exact T.out)
       clear hb3'
       go_wp2_with fail
       go_roundw
       case rel =>
        refine ⟨k2 + 1, by go_num, by omega, fun j y hj hy hne => ?_, B3.out⟩
        by_cases hjk : j < k2
        ·exact Hs2.out j y hjk hy hne
        ·obtain rfl : j = k2 := by omega
         rw [Hx.out] at hy
         cases hy
         exact Hin.out
       case measure => simp [intOf]; omega
      ·have hd : decide (x ∈ sx.waits) = false := by simpa using hin
       have Hd := Lib.hid hd
       have hf := bool_no Hr.out (fun h => hin (by have := h k _ Ht.out k2 x Hx.out Hxt.out; rw [HSx.out] at this; exact this))
       have Hf := Lib.hid hf
       clear hin hd hf
       go_wp2_with fail
       refine (contains_any _ sx.waits x _ (by rw [Sn.out]; exact Gw.out) Hwsx.out).mono ?_
       rw [Hd.out]
       rintro e w3 ⟨rfl, hb3'⟩
       have B3 := Lib.hid (show Below wx.heap.size wx w3 by rw [← hb3']; exact T.out)
       clear hb3'
       go_wp2_with fail
       go_ret
       exact ⟨by rw [Hf.out]; rfl, below_step G.out.size G.out (below_step R3.out.size R3.out B3.out)⟩
    ·have hlt2' : ¬ (k2 : Int) < n1 := by omega
     clear hno2 hbr2 hA4
     go_wp2_with fail
     go_roundw
     case rel =>
      refine ⟨k + 1, by go_num, by omega, fun j y hj hy i x hx hne => ?_, BT.out⟩
      by_cases hjk : j < k
      ·exact Hs.out j y hjk hy i x hx hne
      ·obtain rfl : j = k := by omega
       rw [Ht.out] at hy
       cases hy
       rw [HSx.out]
       exact Hs2.out i x (by have := lt_of_some hx; rw [← N1.out] at this; omega) hx hne
     case measure => simp [intOf]; omega
  ·have hlt' : ¬ (k : Int) < ln := by omega
   have hf : r = true := bool_yes Hr.out (fun j x hx => Hs.out j x (by have := lt_of_some hx; rw [← Ln.out] at this; omega) hx)
   have Hf := Lib.hid hf
   clear hf hA2
   go_wp2_with fail
   go_ret
   exact ⟨by rw [Hf.out]; rfl, BB.out⟩
end Go.Proofs.Ytennbiajnkobnaa

namespace Go.Proofs.Ytennbiajnkobnaa
open Go.RowKit Go.PlainAid
theorem picksOK_short (m : Int) (v1 v3 : Value) (a2 : Option Addr) (n c2 : Nat) (node : Int) (v4 : Value) (a : Nat) (r : Bool) (w : World) (h : 4 < n ∨ n = 0 ∨ m ≠ 1) (hn : n ≤ 1000000) (hr : r = true ↔ n = 0) :
  Calls Try.prog 71 #[.agg #[.int .i64 m, v1, .slice a2 n c2, v3, .int .i64 node, v4], fnGoes a] w fun e w' => e = .returned (.bool r) ∧ Below w.heap.size w w' := by
 unfold fnGoes
 by_cases h0 : n = 0
 ·subst h0
  obtain rfl := bool_yes hr rfl
  clear hr h
  go_enter Try.func71, Try.ntmps71
  try simp only [List.append_eq, List.cons_append, List.nil_append]
  go_wp2_with fail
  refine wp_loop_rounds 1 ?_
  rw [rounds_succ]
  go_wp2_with fail
  go_ret
  exact ⟨rfl, by go_grown⟩
 ·obtain rfl := bool_no hr h0
  by_cases h4 : 4 < n
  ·have h4' : (4 : Int) < n := by omega
   have h4'' : decide ((4 : Int) < n) = true := by simp; omega
   clear hr h h0
   go_enter Try.func71, Try.ntmps71
   try simp only [List.append_eq, List.cons_append, List.nil_append]
   go_wp2_with fail
   go_ret
   exact ⟨rfl, by go_grown⟩
  ·have h4' : ¬ (4 : Int) < n := by omega
   have h4'' : decide ((4 : Int) < n) = false := by simp; omega
   have hm : m ≠ 1 := by omega
   have hm1 : (m == 1) = false := by simpa using hm
   have h1 : (0 : Int) < n := by omega
   have h2 : decide ((0 : Int) < n) = true := by simp; omega
   clear hr h h0 hm
   go_enter Try.func71, Try.ntmps71
   try simp only [List.append_eq, List.cons_append, List.nil_append]
   go_wp2_with fail
   go_ret
   exact ⟨rfl, by go_grown⟩
theorem picksOK_at (L : Lks) (p : Pl) (v : Value) (a : Nat) (r : Bool) (w : World) (h : IsPl w p v) (hl : GoesAt w a L) (hn : L.length ≤ 1000000) (hxn : p.st.picks.length ≤ 1000000) (hr : r = true ↔ PicksOK L p.node p.all p.st) :
  Calls Try.prog 71 #[v, fnGoes a] w fun e w' => e = .returned (.bool r) ∧ Below w.heap.size w w' := by
 obtain ⟨a1, c1, a2, c2, a3, c3, a4, c4, rfl, _, h2, _, _⟩ := isPl_open h
 by_cases hs : 4 < p.st.picks.length ∨ p.st.picks.length = 0 ∨ p.st.mode ≠ 1
 ·refine picksOK_short _ _ _ _ _ _ _ _ _ _ _ hs hxn (hr.trans ⟨fun g => ?_, fun g => ⟨by omega, by omega, fun i q hq => ?_⟩⟩)
  ·by_cases h0 : p.st.picks.length = 0
   ·exact h0
   ·have := g.1
    have := g.2.1 (by omega)
    omega
  ·have := lt_of_some hq; omega
 ·exact picksOK_loop L p.node p.st.mode a2 c2 p.st.picks p.all a4 c4 _ _ a r w (by omega) (by omega) (by omega) h2 hl hn (hr.trans ⟨fun g => g.2.2, fun g => ⟨by omega, fun _ => by omega, g⟩⟩)
theorem takesOK_at (L : Lks) (p : Pl) (v : Value) (a : Nat) (r : Bool) (w : World) (h : IsPl w p v) (hl : GoesAt w a L) (hn : L.length ≤ 1000000) (hlow : Low L) (hxn : p.st.takes.length ≤ 1000000) (hr : r = true ↔ TakesOK L p.node p.all p.st.takes) :
  Calls Try.prog 73 #[v, fnGoes a] w fun e w' => e = .returned (.bool r) ∧ Below w.heap.size w w' := by
 obtain ⟨a1, c1, a2, c2, a3, c3, a4, c4, rfl, _, _, h3, _⟩ := isPl_open h
 exact takesOK_loop L p.node p.st.mode a3 c3 p.st.takes p.all a4 c4 _ _ a r w hxn h3 hl hn hlow hr
theorem staysOK_at (p : Pl) (v : Value) (r : Bool) (w : World) (h : IsPl w p v) (hw6 : p.st.waits.length ≤ 1000000) (hxn : p.st.takes.length ≤ 1000000) (hall : ∀ s ∈ p.all, s.waits.length ≤ 1000000) (hnx : ∀ t ∈ p.st.takes, HasS p.all t.next) (hr : r = true ↔ StaysOK p.all p.st) :
  Calls Try.prog 74 #[v] w fun e w' => e = .returned (.bool r) ∧ Below w.heap.size w w' := by
 obtain ⟨a1, c1, a2, c2, a3, c3, a4, c4, rfl, h1, _, h3, h4⟩ := isPl_open h
 exact staysOK_loop _ _ a1 c1 p.st.waits _ a3 c3 p.st.takes a4 c4 p.all r w hxn hw6 h1 h3 h4 hall hnx hr
/-- The variables that the closures have captured. -/
structure DemAt (w : World) (b c : Nat) (L : Lks) : Prop where
 g : GoesAt w b L
 fc : w.cell? ⟨c, 0, none⟩ = some (fnGoes b)
theorem DemAt.below {w w' : World} {b c : Nat} {L : Lks} (h : DemAt w b c L) (hb : Below w.heap.size w w') : DemAt w' b c L :=
 ⟨h.g.below hb, (hb.cell (World.block_lt_of_cell? w _ h.fc)).trans h.fc⟩
theorem waitsC_at (L : Lks) (p : Pl) (v : Value) (b c : Nat) (r : Bool) (w : World) (h : IsPl w p v) (hd : DemAt w b c L) (hn : L.length ≤ 1000000) (hxn : p.st.waits.length ≤ 1000000) (hr : r = true ↔ WaitsOK L p.node p.st) :
  Calls Try.prog 68 #[v, .pointer (some ⟨b, 0, none⟩)] w fun e w' => e = .returned (.bool r) ∧ Below w.heap.size w w' := by
 obtain ⟨a, h1, hl⟩ := hd.g.ex
 have H := Lib.hid h
 have H1 := Lib.hid hl
 have Hr := Lib.hid hr
 have h2 := cell_more h1
 unfold fnLinked at h2
 obtain ⟨a1, c1, a2, c2, a3, c3, a4, c4, rfl, _⟩ := isPl_open h
 clear h hl hr h1 hd
 go_enter Try.func68, Try.ntmps68
 go_wp2_with fail
 refine (waitsOK_at L p _ a r _ (H.out.later (below_new _ _)) (H1.out.below (below_new _ _)) hn hxn Hr.out).mono ?_
 rintro e w' ⟨rfl, hb⟩
 have B := Lib.hid ((below_new w _).trans (hb.mono (by simp)))
 clear hb
 go_wp2_with fail
 go_ret
 exact ⟨rfl, B.out⟩
theorem picksC_at (L : Lks) (p : Pl) (v : Value) (b c : Nat) (r : Bool) (w : World) (h : IsPl w p v) (hd : DemAt w b c L) (hn : L.length ≤ 1000000) (hxn : p.st.picks.length ≤ 1000000) (hr : r = true ↔ PicksOK L p.node p.all p.st) :
  Calls Try.prog 70 #[v, .pointer (some ⟨c, 0, none⟩)] w fun e w' => e = .returned (.bool r) ∧ Below w.heap.size w w' := by
 have H := Lib.hid h
 have H1 := Lib.hid hd.g
 have Hr := Lib.hid hr
 have h2 := cell_more hd.fc
 unfold fnGoes at h2
 obtain ⟨a1, c1, a2, c2, a3, c3, a4, c4, rfl, _⟩ := isPl_open h
 clear h hr hd
 go_enter Try.func70, Try.ntmps70
 go_wp2_with fail
 refine (picksOK_at L p _ b r _ (H.out.later (below_new _ _)) (H1.out.below (below_new _ _)) hn hxn Hr.out).mono ?_
 rintro e w' ⟨rfl, hb⟩
 have B := Lib.hid ((below_new w _).trans (hb.mono (by simp)))
 clear hb
 go_wp2_with fail
 go_ret
 exact ⟨rfl, B.out⟩
theorem takesC_at (L : Lks) (p : Pl) (v : Value) (b c : Nat) (r : Bool) (w : World) (h : IsPl w p v) (hd : DemAt w b c L) (hn : L.length ≤ 1000000) (hlow : Low L) (hxn : p.st.takes.length ≤ 1000000) (hr : r = true ↔ TakesOK L p.node p.all p.st.takes) :
  Calls Try.prog 72 #[v, .pointer (some ⟨c, 0, none⟩)] w fun e w' => e = .returned (.bool r) ∧ Below w.heap.size w w' := by
 have H := Lib.hid h
 have H1 := Lib.hid hd.g
 have Hr := Lib.hid hr
 have Hlow := Lib.hid hlow
 have h2 := cell_more hd.fc
 unfold fnGoes at h2
 obtain ⟨a1, c1, a2, c2, a3, c3, a4, c4, rfl, _⟩ := isPl_open h
 clear h hr hd hlow
 go_enter Try.func72, Try.ntmps72
 go_wp2_with fail
 refine (takesOK_at L p _ b r _ (H.out.later (below_new _ _)) (H1.out.below (below_new _ _)) hn Hlow.out hxn Hr.out).mono ?_
 rintro e w' ⟨rfl, hb⟩
 have B := Lib.hid ((below_new w _).trans (hb.mono (by simp)))
 clear hb
 go_wp2_with fail
 go_ret
 exact ⟨rfl, B.out⟩
end Go.Proofs.Ytennbiajnkobnaa

