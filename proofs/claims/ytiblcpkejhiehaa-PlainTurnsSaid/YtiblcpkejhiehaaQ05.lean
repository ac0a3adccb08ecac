/- Texts put together. -/
import Derived.Test.YtiblcpkejhiehaaQ00
import Derived.Test.YtiblcpkejhiehaaQ01
import Derived.Test.YtiblcpkejhiehaaQ03
import Derived.Test.YtiblcpkejhiehaaQ04
import Derived.BigQuiet
import Derived.Deep.RegionHeldLaw
import Derived.Deep.DeepCutAuto
set_option linter.unusedSimpArgs false
namespace Go.Proofs.Ytiblcpkejhiehaa
open Go.RowKit Go.PlainAid
def DocTake (L : Lks) (n : Int) (all : List St) (ws : List Int) (l : List Tk) (i : Nat) (t : Tk) : Prop := TakeGood L n all l i t ∧ Kept ws (stOf all t.next) t.src
structure TqAt (w : World) (bx bn bg : Nat) (m : Int) (a1 : Option Addr) (n1 c1 : Nat) (a2 : Option Addr) (n2 c2 : Nat) (a3 : Option Addr) (n3 c3 : Nat) (a4 : Option Addr) (n4 c4 : Nat) (N : Int) (ga : Option Addr) (ll gc : Nat) (s : St) (all : List St) (L : Lks) : Prop where
 x0 : w.cell? ⟨bx, 0, none⟩ = some (.int .i64 m)
 x1 : w.cell? ⟨bx, 1, none⟩ = some (.slice a1 n1 c1)
 x2 : w.cell? ⟨bx, 2, none⟩ = some (.slice a2 n2 c2)
 x3 : w.cell? ⟨bx, 3, none⟩ = some (.slice a3 n3 c3)
 nn : w.cell? ⟨bn, 1, none⟩ = some (.slice a4 n4 c4)
 g0 : w.cell? ⟨bg, 0, none⟩ = some (.int .i64 N)
 g1 : w.cell? ⟨bg, 1, none⟩ = some (.slice ga ll gc)
 ht : Has w (.slice a3 n3 c3) (dTakes s.takes)
 st : IsSt w s (.agg #[.int .i64 m, .slice a1 n1 c1, .slice a2 n2 c2, .slice a3 n3 c3])
 hs : Has w (.slice a4 n4 c4) (dStates all)
 hl : LinksAt w (.slice ga ll gc) L
theorem TqAt.below {w w' : World} {bx bn bg : Nat} {m : Int} {a1 : Option Addr} {n1 c1 : Nat} {a2 : Option Addr} {n2 c2 : Nat} {a3 : Option Addr} {n3 c3 : Nat} {a4 : Option Addr} {n4 c4 : Nat} {N : Int} {ga : Option Addr} {ll gc : Nat} {s : St} {all : List St} {L : Lks}
  (h : TqAt w bx bn bg m a1 n1 c1 a2 n2 c2 a3 n3 c3 a4 n4 c4 N ga ll gc s all L) (hb : Below w.heap.size w w') : TqAt w' bx bn bg m a1 n1 c1 a2 n2 c2 a3 n3 c3 a4 n4 c4 N ga ll gc s all L := by
 have k := fun (p : Addr) (v : Value) (e : w.cell? p = some v) => (hb.cell (World.block_lt_of_cell? w _ e)).trans e
 exact ⟨k _ _ h.x0, k _ _ h.x1, k _ _ h.x2, k _ _ h.x3, k _ _ h.nn, k _ _ h.g0, k _ _ h.g1, h.ht.later hb, h.st.later hb, h.hs.later hb, h.hl.below hb⟩
/-- The take's box. -/
structure TBox (w : World) (x : Nat) (q1 q2 q3 : Int) : Prop where
 y0 : w.cell? ⟨x, 0, none⟩ = some (.int .i64 q1)
 y1 : w.cell? ⟨x, 1, none⟩ = some (.int .i64 q2)
 y2 : w.cell? ⟨x, 2, none⟩ = some (.int .i64 q3)
theorem TBox.below {w w' : World} {x : Nat} {q1 q2 q3 : Int} (h : TBox w x q1 q2 q3) (hb : Below w.heap.size w w') : TBox w' x q1 q2 q3 := by
 have k := fun (p : Addr) (v : Value) (e : w.cell? p = some v) => (hb.cell (World.block_lt_of_cell? w _ e)).trans e
 exact ⟨k _ _ h.y0, k _ _ h.y1, k _ _ h.y2⟩
set_option maxHeartbeats 40000000 in
set_option maxRecDepth 100000 in
theorem rtakes_loop (L : Lks) (n : Int) (s : St) (m : Int) (a1 : Option Addr) (n1 c1 : Nat) (a2 : Option Addr) (n2 c2 : Nat) (a3 : Option Addr) (c3 : Nat) (start : Int) (all : List St) (a4 : Option Addr) (c4 : Nat) (N : Int) (g : Value) (r : Bool) (w : World)
  (hst : IsSt w s (.agg #[.int .i64 m, .slice a1 n1 c1, .slice a2 n2 c2, .slice a3 s.takes.length c3])) (ht : Has w (.slice a3 s.takes.length c3) (dTakes s.takes)) (hs : Has w (.slice a4 all.length c4) (dStates all)) (hg : LinksAt w g L) (hn : L.length ≤ 1000000)
  (hl6 : s.takes.length ≤ 1000000) (hw6 : s.waits.length ≤ 1000000) (hall : ∀ s ∈ all, s.waits.length ≤ 1000000) (hr : r = true ↔ ∀ (i : Nat) (t : Tk), s.takes[i]? = some t → DocTake L n all s.waits s.takes i t) :
  Calls Try.prog 43 #[.agg #[.int .i64 m, .slice a1 n1 c1, .slice a2 n2 c2, .slice a3 s.takes.length c3], .int .i64 n, .agg #[.int .i64 start, .slice a4 all.length c4], .agg #[.int .i64 N, g]] w fun e w' => e = .returned (.bool r) ∧ Below w.heap.size w w' := by
 obtain ⟨ga, gc, rfl⟩ := hg.at
 obtain ⟨ln, hln⟩ : ∃ ln, ln = s.takes.length := ⟨_, rfl⟩
 obtain ⟨ll, hll⟩ : ∃ ll, ll = L.length := ⟨_, rfl⟩
 obtain ⟨n4, hn4⟩ : ∃ n4, n4 = all.length := ⟨_, rfl⟩
 rw [← hln] at hst ht hl6 ⊢
 rw [← hll] at hg ⊢
 rw [← hn4] at hs ⊢
 obtain ⟨w1, hw1⟩ : ∃ w1, w1 = ((w.alloc (.cells #[.int .i64 m, .slice a1 n1 c1, .slice a2 n2 c2, .slice a3 ln c3] 104)).alloc (.cells #[.int .i64 start, .slice a4 n4 c4] 75)).alloc (.cells #[.int .i64 N, .slice ga ll gc] 35) := ⟨_, rfl⟩
 have gb : Below w.heap.size w w1 := by rw [hw1]; go_grown
 have hA : TqAt w1 w.heap.size (w.heap.size + 1) (w.heap.size + 1 + 1) m a1 n1 c1 a2 n2 c2 a3 ln c3 a4 n4 c4 N ga ll gc s all L := by
  refine ⟨?_, ?_, ?_, ?_, ?_, ?_, ?_, ht.later gb, hst.later gb, hs.later gb, hg.below gb⟩ <;> (rw [hw1]; go_cell)
 have A := Lib.hid hA
 have G := Lib.hid gb
 have Hr := Lib.hid hr
 have Hn := Lib.hid hn
 have Hall := Lib.hid hall
 have Ln := Lib.hid hln
 have LL := Lib.hid hll
 have N4 := Lib.hid hn4
 have Hw6 := Lib.hid hw6
 clear hst ht hs hg hr hn hA gb hln hll hn4 hall hw6
 go_enter Try.func43, Try.ntmps43
 try simp only [List.append_eq, List.cons_append, List.nil_append]
 go_wp2_with fail
 rw [← hw1]
 clear hw1
 try go_wp2_with fail
 go_loopw [9] (fun i wr => ∃ k : Nat, i = .int .i64 k ∧ k ≤ ln ∧ (∀ j t, j < k → s.takes[j]? = some t → DocTake L n all s.waits s.takes j t) ∧ Below w1.heap.size w1 wr) (fun i _ => ln - (intOf i).toNat)
 case atStart => exact ⟨0, rfl, by omega, fun j x hj => by omega, Below.refl _ _⟩
 case round =>
  obtain ⟨k, rfl, hk, hno, hbr⟩ := hrel
  obtain ⟨wo, hwo⟩ : ∃ wo, wo = wr := ⟨_, rfl⟩
  subst hwo
  have Hs := Lib.hid hno
  have R := Lib.hid hbr
  have hA2 := A.out.below hbr
  have BB := Lib.hid (below_step G.out.size G.out hbr)
  have q3 := hA2.x3
  clear hno hbr
  by_cases hlt : k < ln
  ·have hlt' : (k : Int) < ln := by omega
   obtain ⟨t, htk⟩ := some_of_lt (l := s.takes) (i := k) (by rw [← Ln.out]; exact hlt)
   obtain ⟨b, off, cap, e, hb, _, x0, x1, x2⟩ := tk_cells hA2.ht htk
   rw [← Ln.out] at e
   simp only [Value.slice.injEq] at e
   obtain ⟨e, _, e2⟩ := e
   subst e e2
   have Ht := Lib.hid htk
   obtain ⟨q1, q2, q3'⟩ := t
   simp only at x0 x1 x2
   have Bad : Hid (∀ P : Prop, (DocTake L n all s.waits s.takes k ⟨q1, q2, q3'⟩ → P) → ¬ P → r = false) := Lib.hid (fun P h hP => bool_no Hr.out (fun g => hP (h (g k _ Ht.out))))
   obtain ⟨w2, hw2⟩ : ∃ w2, w2 = wo.alloc (.cells #[.int .i64 q1, .int .i64 q2, .int .i64 q3'] 141) := ⟨_, rfl⟩
   have hb2 : Below wo.heap.size wo w2 := by rw [hw2]; exact below_new _ _
   have hA3 := hA2.below hb2
   have hTB : TBox w2 wo.heap.size q1 q2 q3' := by refine ⟨?_, ?_, ?_⟩ <;> (rw [hw2]; exact World.cell?_alloc_at _ _ _ _ rfl)
   have T := Lib.hid (hA3.below (below_drewN (Below.refl _ w2) 1))
   have Y := Lib.hid (hTB.below (below_drewN (Below.refl _ w2) 1))
   have TB : Hid (Below wo.heap.size wo w2.drew) := Lib.hid (below_drewN hb2 1)
   have TS : Hid (wo.heap.size ≤ w2.drew.heap.size) := Lib.hid hb2.size
   obtain ⟨fq, hfq⟩ : ∃ fq, fq = findL L (q1, n) := ⟨_, rfl⟩
   have Hfq := Lib.hid hfq
   clear htk hb2 hA3 hTB hfq
   by_cases hm' : (q1, n) ∈ L
   ·have hq0 : ¬ fq < 0 := by rw [Hfq.out]; exact fun h => (findL_neg.1 h) hm'
    have hq0' : decide (fq < 0) = false := by simp; omega
    by_cases hc0 : q2 < 0
    ·have hc0' : decide (q2 < 0) = true := by simpa using hc0
     have Hf := Lib.hid (Bad.out _ (fun h => h.1.1.2.1) (by simp; omega))
     clear hm' hA2
     go_wp2_with fail
     rw [← hw2]
     clear hw2
     refine wp_region_held_drew (S := (fun w' => w'.cell? ⟨w.heap.size, 0, none⟩ = some (.int .i64 m) ∧ w'.cell? ⟨w.heap.size, 1, none⟩ = some (.slice a1 n1 c1) ∧ w'.cell? ⟨w.heap.size, 2, none⟩ = some (.slice a2 n2 c2) ∧ w'.cell? ⟨w.heap.size, 3, none⟩ = some (.slice (some ⟨b, off, none⟩) ln c3) ∧ w'.cell? ⟨w.heap.size + 1, 1, none⟩ = some (.slice a4 n4 c4) ∧ w'.cell? ⟨w.heap.size + 1 + 1, 0, none⟩ = some (.int .i64 N) ∧ w'.cell? ⟨w.heap.size + 1 + 1, 1, none⟩ = some (.slice ga ll gc) ∧ w'.cell? ⟨wo.heap.size, 0, none⟩ = some (.int .i64 q1) ∧ w'.cell? ⟨wo.heap.size, 1, none⟩ = some (.int .i64 q2) ∧ w'.cell? ⟨wo.heap.size, 2, none⟩ = some (.int .i64 q3'))) (by kernel_rfl) ?_ (fun hHeld => ?_)
     ·exact ⟨T.out.x0, T.out.x1, T.out.x2, T.out.x3, T.out.nn, T.out.g0, T.out.g1, Y.out.y0, Y.out.y1, Y.out.y2⟩
     refine tq 0 ?_
     refine tq 1 ?_
     refine tq 2 ?_
     refine tq 3 ?_
     refine rd 4 fun K hK => ?_
     go_simp
     refine (rfind_at N q1 n _ L fq _ T.out.hl Hn.out Hfq.out).mono ?_
     rintro e wn ⟨rfl, hbn⟩
     have T := Lib.hid (T.out.below hbn)
     have Y := Lib.hid (Y.out.below hbn)
     have TB := Lib.hid (below_step (by exact TS.out) TB.out hbn)
     have TS := Lib.hid (Nat.le_trans TS.out hbn.size)
     clear hbn
     go_wp2_with fail
     refine hK.out _ _ ?_ (fun hHeld => ?_)
     ·exact ⟨T.out.x0, T.out.x1, T.out.x2, T.out.x3, T.out.nn, T.out.g0, T.out.g1, Y.out.y0, Y.out.y1, Y.out.y2⟩
     clear hK K
     try simp only [Act.put, List.getElem_toArray, List.getElem_cons_zero, List.getElem_cons_succ, List.setIfInBounds_toArray, List.set_cons_zero, List.set_cons_succ]
     refine tq 5 ?_
     refine tq 6 ?_
     refine tq 7 ?_
     refine tq 8 ?_
     refine tq 9 ?_
     refine tq 10 ?_
     refine tq 11 ?_
     refine tq0 12 ?_
     refine tq0 13 ?_
     refine tq0 14 ?_
     refine tq 15 ?_
     refine tq 16 ?_
     refine tq0 17 ?_
     refine tq0 18 ?_
     refine tq0 19 ?_
     refine tq 20 ?_
     refine tq 21 ?_
     refine tq0 22 ?_
     refine tq0 23 ?_
     refine tq0 24 ?_
     refine tq0 25 ?_
     refine tq0 26 ?_
     refine tq0 27 ?_
     refine tq 28 ?_
     refine tq 29 ?_
     refine tq0 30 ?_
     refine tq0 31 ?_
     refine tq0 32 ?_
     refine tq0 33 ?_
     refine tq0 34 ?_
     refine tq0 35 ?_
     refine tq0 36 ?_
     refine tq0 37 ?_
     refine tq0 38 ?_
     refine tq0 39 ?_
     refine tq0 40 ?_
     refine tq 41 ?_
     refine wpAnyH_done (by kernel_rfl) ?_ _
     go_wp2_with fail
     go_ret
     exact ⟨by rw [Hf.out]; rfl, below_step BB.out.size BB.out TB.out⟩
    ·have hc0' : decide (q2 < 0) = false := by simpa using hc0
     by_cases hc3 : 3 < q2
     ·have hc3' : decide (3 < q2) = true := by simpa using hc3
      have Hf := Lib.hid (Bad.out _ (fun h => h.1.1.2.2) (by simp; omega))
      clear hm' hA2
      go_wp2_with fail
      rw [← hw2]
      clear hw2
      refine wp_region_held_drew (S := (fun w' => w'.cell? ⟨w.heap.size, 0, none⟩ = some (.int .i64 m) ∧ w'.cell? ⟨w.heap.size, 1, none⟩ = some (.slice a1 n1 c1) ∧ w'.cell? ⟨w.heap.size, 2, none⟩ = some (.slice a2 n2 c2) ∧ w'.cell? ⟨w.heap.size, 3, none⟩ = some (.slice (some ⟨b, off, none⟩) ln c3) ∧ w'.cell? ⟨w.heap.size + 1, 1, none⟩ = some (.slice a4 n4 c4) ∧ w'.cell? ⟨w.heap.size + 1 + 1, 0, none⟩ = some (.int .i64 N) ∧ w'.cell? ⟨w.heap.size + 1 + 1, 1, none⟩ = some (.slice ga ll gc) ∧ w'.cell? ⟨wo.heap.size, 0, none⟩ = some (.int .i64 q1) ∧ w'.cell? ⟨wo.heap.size, 1, none⟩ = some (.int .i64 q2) ∧ w'.cell? ⟨wo.heap.size, 2, none⟩ = some (.int .i64 q3'))) (by kernel_rfl) ?_ (fun hHeld => ?_)
      ·exact ⟨T.out.x0, T.out.x1, T.out.x2, T.out.x3, T.out.nn, T.out.g0, T.out.g1, Y.out.y0, Y.out.y1, Y.out.y2⟩
      refine tq 0 ?_
      refine tq 1 ?_
      refine tq 2 ?_
      refine tq 3 ?_
      refine rd 4 fun K hK => ?_
      go_simp
      refine (rfind_at N q1 n _ L fq _ T.out.hl Hn.out Hfq.out).mono ?_
      rintro e wn ⟨rfl, hbn⟩
      have T := Lib.hid (T.out.below hbn)
      have Y := Lib.hid (Y.out.below hbn)
      have TB := Lib.hid (below_step (by exact TS.out) TB.out hbn)
      have TS := Lib.hid (Nat.le_trans TS.out hbn.size)
      clear hbn
      go_wp2_with fail
      refine hK.out _ _ ?_ (fun hHeld => ?_)
      ·exact ⟨T.out.x0, T.out.x1, T.out.x2, T.out.x3, T.out.nn, T.out.g0, T.out.g1, Y.out.y0, Y.out.y1, Y.out.y2⟩
      clear hK K
      try simp only [Act.put, List.getElem_toArray, List.getElem_cons_zero, List.getElem_cons_succ, List.setIfInBounds_toArray, List.set_cons_zero, List.set_cons_succ]
      refine tq 5 ?_
      refine tq 6 ?_
      refine tq 7 ?_
      refine tq 8 ?_
      refine tq 9 ?_
      refine tq 10 ?_
      refine tq 11 ?_
      refine tq 12 ?_
      refine tq 13 ?_
      refine tq 14 ?_
      refine tq 15 ?_
      refine tq 16 ?_
      refine tq0 17 ?_
      refine tq0 18 ?_
      refine tq0 19 ?_
      refine tq 20 ?_
      refine tq 21 ?_
      refine tq0 22 ?_
      refine tq0 23 ?_
      refine tq0 24 ?_
      refine tq0 25 ?_
      refine tq0 26 ?_
      refine tq0 27 ?_
      refine tq 28 ?_
      refine tq 29 ?_
      refine tq0 30 ?_
      refine tq0 31 ?_
      refine tq0 32 ?_
      refine tq0 33 ?_
      refine tq0 34 ?_
      refine tq0 35 ?_
      refine tq0 36 ?_
      refine tq0 37 ?_
      refine tq0 38 ?_
      refine tq0 39 ?_
      refine tq0 40 ?_
      refine tq 41 ?_
      refine wpAnyH_done (by kernel_rfl) ?_ _
      go_wp2_with fail
      go_ret
      exact ⟨by rw [Hf.out]; rfl, below_step BB.out.size BB.out TB.out⟩
     ·have hc3' : decide (3 < q2) = false := by simpa using hc3
      have Hg : Hid (Goes L q1 n q2) := Lib.hid ⟨hm', by omega, by omega⟩
      clear hm'
      by_cases hs0 : q3' < 0
      ·have hs0' : decide (q3' < 0) = true := by simpa using hs0
       have Hf := Lib.hid (Bad.out _ (fun h => h.1.2.1.1) (by simp; omega))
       clear hA2
       go_wp2_with fail
       rw [← hw2]
       clear hw2
       refine wp_region_held_drew (S := (fun w' => w'.cell? ⟨w.heap.size, 0, none⟩ = some (.int .i64 m) ∧ w'.cell? ⟨w.heap.size, 1, none⟩ = some (.slice a1 n1 c1) ∧ w'.cell? ⟨w.heap.size, 2, none⟩ = some (.slice a2 n2 c2) ∧ w'.cell? ⟨w.heap.size, 3, none⟩ = some (.slice (some ⟨b, off, none⟩) ln c3) ∧ w'.cell? ⟨w.heap.size + 1, 1, none⟩ = some (.slice a4 n4 c4) ∧ w'.cell? ⟨w.heap.size + 1 + 1, 0, none⟩ = some (.int .i64 N) ∧ w'.cell? ⟨w.heap.size + 1 + 1, 1, none⟩ = some (.slice ga ll gc) ∧ w'.cell? ⟨wo.heap.size, 0, none⟩ = some (.int .i64 q1) ∧ w'.cell? ⟨wo.heap.size, 1, none⟩ = some (.int .i64 q2) ∧ w'.cell? ⟨wo.heap.size, 2, none⟩ = some (.int .i64 q3'))) (by kernel_rfl) ?_ (fun hHeld => ?_)
       ·exact ⟨T.out.x0, T.out.x1, T.out.x2, T.out.x3, T.out.nn, T.out.g0, T.out.g1, Y.out.y0, Y.out.y1, Y.out.y2⟩
       refine tq 0 ?_
       refine tq 1 ?_
       refine tq 2 ?_
       refine tq 3 ?_
       refine rd 4 fun K hK => ?_
       go_simp
       refine (rfind_at N q1 n _ L fq _ T.out.hl Hn.out Hfq.out).mono ?_
       rintro e wn ⟨rfl, hbn⟩
       have T := Lib.hid (T.out.below hbn)
       have Y := Lib.hid (Y.out.below hbn)
       have TB := Lib.hid (below_step (by exact TS.out) TB.out hbn)
       have TS := Lib.hid (Nat.le_trans TS.out hbn.size)
       clear hbn
       go_wp2_with fail
       refine hK.out _ _ ?_ (fun hHeld => ?_)
       ·exact ⟨T.out.x0, T.out.x1, T.out.x2, T.out.x3, T.out.nn, T.out.g0, T.out.g1, Y.out.y0, Y.out.y1, Y.out.y2⟩
       clear hK K
       try simp only [Act.put, List.getElem_toArray, List.getElem_cons_zero, List.getElem_cons_succ, List.setIfInBounds_toArray, List.set_cons_zero, List.set_cons_succ]
       refine tq 5 ?_
       refine tq 6 ?_
       refine tq 7 ?_
       refine tq 8 ?_
       refine tq 9 ?_
       refine tq 10 ?_
       refine tq 11 ?_
       refine tq 12 ?_
       refine tq 13 ?_
       refine tq 14 ?_
       refine tq 15 ?_
       refine tq 16 ?_
       refine tq 17 ?_
       refine tq 18 ?_
       refine tq 19 ?_
       refine tq 20 ?_
       refine tq 21 ?_
       refine tq0 22 ?_
       refine tq0 23 ?_
       refine tq0 24 ?_
       refine tq0 25 ?_
       refine tq0 26 ?_
       refine tq0 27 ?_
       refine tq 28 ?_
       refine tq 29 ?_
       refine tq0 30 ?_
       refine tq0 31 ?_
       refine tq0 32 ?_
       refine tq0 33 ?_
       refine tq0 34 ?_
       refine tq0 35 ?_
       refine tq0 36 ?_
       refine tq0 37 ?_
       refine tq0 38 ?_
       refine tq0 39 ?_
       refine tq0 40 ?_
       refine tq 41 ?_
       refine wpAnyH_done (by kernel_rfl) ?_ _
       go_wp2_with fail
       go_ret
       exact ⟨by rw [Hf.out]; rfl, below_step BB.out.size BB.out TB.out⟩
      ·have hs0' : decide (q3' < 0) = false := by simpa using hs0
       by_cases hs1 : (n4 : Int) ≤ q3'
       ·have hs1' : decide ((n4 : Int) ≤ q3') = true := by simpa using hs1
        have Hf := Lib.hid (Bad.out _ (fun h => h.1.2.1.2) (by rw [← N4.out]; simp; omega))
        clear hA2
        go_wp2_with fail
        rw [← hw2]
        clear hw2
        refine wp_region_held_drew (S := (fun w' => w'.cell? ⟨w.heap.size, 0, none⟩ = some (.int .i64 m) ∧ w'.cell? ⟨w.heap.size, 1, none⟩ = some (.slice a1 n1 c1) ∧ w'.cell? ⟨w.heap.size, 2, none⟩ = some (.slice a2 n2 c2) ∧ w'.cell? ⟨w.heap.size, 3, none⟩ = some (.slice (some ⟨b, off, none⟩) ln c3) ∧ w'.cell? ⟨w.heap.size + 1, 1, none⟩ = some (.slice a4 n4 c4) ∧ w'.cell? ⟨w.heap.size + 1 + 1, 0, none⟩ = some (.int .i64 N) ∧ w'.cell? ⟨w.heap.size + 1 + 1, 1, none⟩ = some (.slice ga ll gc) ∧ w'.cell? ⟨wo.heap.size, 0, none⟩ = some (.int .i64 q1) ∧ w'.cell? ⟨wo.heap.size, 1, none⟩ = some (.int .i64 q2) ∧ w'.cell? ⟨wo.heap.size, 2, none⟩ = some (.int .i64 q3'))) (by kernel_rfl) ?_ (fun hHeld => ?_)
        ·exact ⟨T.out.x0, T.out.x1, T.out.x2, T.out.x3, T.out.nn, T.out.g0, T.out.g1, Y.out.y0, Y.out.y1, Y.out.y2⟩
        refine tq 0 ?_
        refine tq 1 ?_
        refine tq 2 ?_
        refine tq 3 ?_
        refine rd 4 fun K hK => ?_
        go_simp
        refine (rfind_at N q1 n _ L fq _ T.out.hl Hn.out Hfq.out).mono ?_
        rintro e wn ⟨rfl, hbn⟩
        have T := Lib.hid (T.out.below hbn)
        have Y := Lib.hid (Y.out.below hbn)
        have TB := Lib.hid (below_step (by exact TS.out) TB.out hbn)
        have TS := Lib.hid (Nat.le_trans TS.out hbn.size)
        clear hbn
        go_wp2_with fail
        refine hK.out _ _ ?_ (fun hHeld => ?_)
        ·exact ⟨T.out.x0, T.out.x1, T.out.x2, T.out.x3, T.out.nn, T.out.g0, T.out.g1, Y.out.y0, Y.out.y1, Y.out.y2⟩
        clear hK K
        try simp only [Act.put, List.getElem_toArray, List.getElem_cons_zero, List.getElem_cons_succ, List.setIfInBounds_toArray, List.set_cons_zero, List.set_cons_succ]
        refine tq 5 ?_
        refine tq 6 ?_
        refine tq 7 ?_
        refine tq 8 ?_
        refine tq 9 ?_
        refine tq 10 ?_
        refine tq 11 ?_
        refine tq 12 ?_
        refine tq 13 ?_
        refine tq 14 ?_
        refine tq 15 ?_
        refine tq 16 ?_
        refine tq 17 ?_
        refine tq 18 ?_
        refine tq 19 ?_
        refine tq 20 ?_
        refine tq 21 ?_
        refine tq 22 ?_
        refine tq 23 ?_
        refine tq 24 ?_
        refine tq 25 ?_
        refine tq 26 ?_
        refine tq 27 ?_
        refine tq 28 ?_
        refine tq 29 ?_
        refine tq0 30 ?_
        refine tq0 31 ?_
        refine tq0 32 ?_
        refine tq0 33 ?_
        refine tq0 34 ?_
        refine tq0 35 ?_
        refine tq0 36 ?_
        refine tq0 37 ?_
        refine tq0 38 ?_
        refine tq0 39 ?_
        refine tq0 40 ?_
        refine tq 41 ?_
        refine wpAnyH_done (by kernel_rfl) ?_ _
        go_wp2_with fail
        go_ret
        exact ⟨by rw [Hf.out]; rfl, below_step BB.out.size BB.out TB.out⟩
       ·obtain ⟨nx, hnx⟩ := Int.eq_ofNat_of_zero_le (show 0 ≤ q3' by omega)
        subst hnx
        have hs1' : decide ((n4 : Int) ≤ (nx : Int)) = false := by simpa using hs1
        have hs2 : (nx : Int) < n4 := by omega
        have hs3 : nx < n4 := by omega
        have hs1n : decide (n4 ≤ nx) = false := by simp; omega
        obtain ⟨sto, hto⟩ := some_of_lt (l := all) (i := nx) (by rw [← N4.out]; exact hs3)
        obtain ⟨b4, o4, cap4, m', d1, k1, f1, d2, k2, f2, d3, k3, f3, e, hb4, hE, hX⟩ := ebox_of hA2.hs hto
        clear hX
        rw [← N4.out] at e
        simp only [Value.slice.injEq] at e
        obtain ⟨e, _, e2⟩ := e
        subst e e2
        have E := Lib.hid (hE.below (TB.out))
        have Ys : Hid (HasS all nx) := Lib.hid ⟨by omega, by rw [← N4.out]; omega⟩
        have Hto := Lib.hid hto
        have To : Hid (stOf all nx = sto) := Lib.hid (by unfold stOf; simp [List.getD, hto])
        have Ht6 := Lib.hid (Hall.out sto (List.mem_of_getElem? hto))
        clear hE hto hA2
        by_cases hkp : Kept s.waits sto q1
        ·have Hkp := Lib.hid hkp
         clear hkp
         go_wp2_with fail
         rw [← hw2]
         clear hw2
         refine wp_region_held_drew (S := (fun w' => w'.cell? ⟨w.heap.size, 0, none⟩ = some (.int .i64 m) ∧ w'.cell? ⟨w.heap.size, 1, none⟩ = some (.slice a1 n1 c1) ∧ w'.cell? ⟨w.heap.size, 2, none⟩ = some (.slice a2 n2 c2) ∧ w'.cell? ⟨w.heap.size, 3, none⟩ = some (.slice (some ⟨b, off, none⟩) ln c3) ∧ w'.cell? ⟨w.heap.size + 1, 1, none⟩ = some (.slice (some ⟨b4, o4, none⟩) n4 c4) ∧ w'.cell? ⟨w.heap.size + 1 + 1, 0, none⟩ = some (.int .i64 N) ∧ w'.cell? ⟨w.heap.size + 1 + 1, 1, none⟩ = some (.slice ga ll gc) ∧ w'.cell? ⟨wo.heap.size, 0, none⟩ = some (.int .i64 q1) ∧ w'.cell? ⟨wo.heap.size, 1, none⟩ = some (.int .i64 q2) ∧ w'.cell? ⟨wo.heap.size, 2, none⟩ = some (.int .i64 nx) ∧ w'.cell? ⟨b4, o4 + nx * 4, none⟩ = some (.int .i64 m') ∧ w'.cell? ⟨b4, o4 + nx * 4 + 1, none⟩ = some (.slice d1 k1 f1) ∧ w'.cell? ⟨b4, o4 + nx * 4 + 2, none⟩ = some (.slice d2 k2 f2) ∧ w'.cell? ⟨b4, o4 + nx * 4 + 3, none⟩ = some (.slice d3 k3 f3))) (by kernel_rfl) ?_ (fun hHeld => ?_)
         ·exact ⟨T.out.x0, T.out.x1, T.out.x2, T.out.x3, T.out.nn, T.out.g0, T.out.g1, Y.out.y0, Y.out.y1, Y.out.y2, E.out.e0, E.out.e1, E.out.e2, E.out.e3⟩
         refine tq 0 ?_
         refine tq 1 ?_
         refine tq 2 ?_
         refine tq 3 ?_
         refine rd 4 fun K hK => ?_
         go_simp
         refine (rfind_at N q1 n _ L fq _ T.out.hl Hn.out Hfq.out).mono ?_
         rintro e wn ⟨rfl, hbn⟩
         have T := Lib.hid (T.out.below hbn)
         have Y := Lib.hid (Y.out.below hbn)
         have TB := Lib.hid (below_step (by exact TS.out) TB.out hbn)
         have TS := Lib.hid (Nat.le_trans TS.out hbn.size)
         have E := Lib.hid (E.out.below hbn)
         clear hbn
         go_wp2_with fail
         refine hK.out _ _ ?_ (fun hHeld => ?_)
         ·exact ⟨T.out.x0, T.out.x1, T.out.x2, T.out.x3, T.out.nn, T.out.g0, T.out.g1, Y.out.y0, Y.out.y1, Y.out.y2, E.out.e0, E.out.e1, E.out.e2, E.out.e3⟩
         clear hK K
         try simp only [Act.put, List.getElem_toArray, List.getElem_cons_zero, List.getElem_cons_succ, List.setIfInBounds_toArray, List.set_cons_zero, List.set_cons_succ]
         refine tq 5 ?_
         refine tq 6 ?_
         refine tq 7 ?_
         refine tq 8 ?_
         refine tq 9 ?_
         refine tq 10 ?_
         refine tq 11 ?_
         refine tq 12 ?_
         refine tq 13 ?_
         refine tq 14 ?_
         refine tq 15 ?_
         refine tq 16 ?_
         refine tq 17 ?_
         refine tq 18 ?_
         refine tq 19 ?_
         refine tq 20 ?_
         refine tq 21 ?_
         refine tq 22 ?_
         refine tq 23 ?_
         refine tq 24 ?_
         refine tq 25 ?_
         refine tq 26 ?_
         refine tq 27 ?_
         refine tq 28 ?_
         refine tq 29 ?_
         refine tq 30 ?_
         refine tq 31 ?_
         refine tq 32 ?_
         refine tq 33 ?_
         refine tq 34 ?_
         refine tq 35 ?_
         refine tq 36 ?_
         refine tq 37 ?_
         refine tq 38 ?_
         refine rd 39 fun K hK => ?_
         go_simp
         refine (rkept_at s sto _ _ q1 true _ T.out.st E.out.st Hw6.out Ht6.out ⟨fun _ => Hkp.out, fun _ => rfl⟩).mono ?_
         rintro e wm ⟨rfl, hbn⟩
         have T := Lib.hid (T.out.below hbn)
         have Y := Lib.hid (Y.out.below hbn)
         have TB := Lib.hid (below_step (by exact TS.out) TB.out hbn)
         have TS := Lib.hid (Nat.le_trans TS.out hbn.size)
         have E := Lib.hid (E.out.below hbn)
         clear hbn
         go_wp2_with fail
         refine hK.out _ _ ?_ (fun hHeld => ?_)
         ·exact ⟨T.out.x0, T.out.x1, T.out.x2, T.out.x3, T.out.nn, T.out.g0, T.out.g1, Y.out.y0, Y.out.y1, Y.out.y2, E.out.e0, E.out.e1, E.out.e2, E.out.e3⟩
         clear hK K
         try simp only [Act.put, List.getElem_toArray, List.getElem_cons_zero, List.getElem_cons_succ, List.setIfInBounds_toArray, List.set_cons_zero, List.set_cons_succ]
         refine tq 40 ?_
         refine tq 41 ?_
         refine wpAnyH_done (by kernel_rfl) ?_ _
         have v3 := T.out.x3
         have v0 := Y.out.y0
         have v1 := Y.out.y1
         go_wp2_with fail
         go_loopw [11] (fun i wq => ∃ k2 : Nat, i = .int .i64 k2 ∧ k2 ≤ k ∧ (∀ (j : Nat) (u : Tk), j < k2 → s.takes[j]? = some u → ¬ (u.src = q1 ∧ u.letter = q2)) ∧ Below wm.heap.size wm wq) (fun i _ => k - (intOf i).toNat)
         case atStart => exact ⟨0, rfl, by omega, fun j x hj => by omega, Below.refl _ _⟩
         case round =>
          obtain ⟨kk, rfl, hk2, hno2, hbr2⟩ := hrel
          have Hs2 := Lib.hid hno2
          have T0 := Lib.hid hbr2
          have hT4 := T.out.below hbr2
          have hY4 := Y.out.below hbr2
          have v3' := hT4.x3
          have v0' := hY4.y0
          have v1' := hY4.y1
          have BT := Lib.hid (below_step TS.out TB.out hbr2)
          clear hno2 hbr2
          by_cases hlt2 : kk < k
          ·have hlt2' : (kk : Int) < k := by omega
           have hlt3 : (kk : Int) < ln := by omega
           have hlt4 : kk < ln := by omega
           obtain ⟨u, hu⟩ := some_of_lt (l := s.takes) (i := kk) (by rw [← Ln.out]; omega)
           obtain ⟨b', o', cap', e, _, _, p0, p1, _⟩ := tk_cells hT4.ht hu
           rw [← Ln.out] at e
           simp only [Value.slice.injEq, Option.some.injEq, Addr.mk.injEq] at e
           obtain ⟨⟨rfl, rfl, _⟩, _, rfl⟩ := e
           have Hu := Lib.hid hu
           obtain ⟨u1, u2, u3⟩ := u
           simp only at p0 p1
           clear hu hT4 hY4
           by_cases hy1 : u1 = q1
           ·have hy1' : (u1 == q1) = true := by simpa using hy1
            by_cases hy2 : u2 = q2
            ·have hy2' : (u2 == q2) = true := by simpa using hy2
             have Hf := Lib.hid (Bad.out _ (fun h => h.1.2.2 kk _ hlt2 Hu.out) (fun h => h ⟨hy1, hy2⟩))
             clear hy1 hy2
             go_wp2_with fail
             go_quiet (fail)
             go_wp2_with fail
             go_ret
             exact ⟨by rw [Hf.out]; rfl, below_drewN (below_step BB.out.size BB.out BT.out) _⟩
            ·have hy2' : (u2 == q2) = false := by simpa using hy2
             have Hne := Lib.hid hy2
             clear hy1 hy2
             go_wp2_with fail
             go_quiet (fail)
             go_wp2_with fail
             go_roundw
             case rel =>
              refine ⟨kk + 1, by go_num, by omega, fun j y hj hy => ?_, below_drewN T0.out _⟩
              by_cases hjk : j < kk
              ·exact Hs2.out j y hjk hy
              ·obtain rfl : j = kk := by omega
               rw [Hu.out] at hy
               cases hy
               exact fun h => Hne.out h.2
             case measure => simp [intOf]; omega
           ·have hy1' : (u1 == q1) = false := by simpa using hy1
            have Hne := Lib.hid hy1
            clear hy1
            go_wp2_with fail
            go_quiet (fail)
            go_wp2_with fail
            go_roundw
            case rel =>
             refine ⟨kk + 1, by go_num, by omega, fun j y hj hy => ?_, below_drewN T0.out _⟩
             by_cases hjk : j < kk
             ·exact Hs2.out j y hjk hy
             ·obtain rfl : j = kk := by omega
              rw [Hu.out] at hy
              cases hy
              exact fun h => Hne.out h.1
            case measure => simp [intOf]; omega
          ·have hlt2' : ¬ (kk : Int) < k := by omega
           obtain rfl : kk = k := by omega
           clear hT4 hY4
           go_wp2_with fail
           go_roundw
           case rel =>
            refine ⟨kk + 1, by go_num, by omega, fun j y hj hy => ?_, below_step R.out.size R.out BT.out⟩
            by_cases hjk : j < kk
            ·exact Hs.out j y hjk hy
            ·obtain rfl : j = kk := by omega
             rw [Ht.out] at hy
             cases hy
             exact ⟨⟨Hg.out, Ys.out, fun j' u hj' hu => Hs2.out j' u hj' hu⟩, by rw [show stOf all (nx : Int) = sto from To.out]; exact Hkp.out⟩
           case measure => simp [intOf]; omega
        ·have Hkp := Lib.hid hkp
         have Hf := Lib.hid (Bad.out _ (fun h => h.2) (by show ¬ Kept s.waits (stOf all (nx : Int)) q1; rw [To.out]; exact hkp))
         clear hkp
         go_wp2_with fail
         rw [← hw2]
         clear hw2
         refine wp_region_held_drew (S := (fun w' => w'.cell? ⟨w.heap.size, 0, none⟩ = some (.int .i64 m) ∧ w'.cell? ⟨w.heap.size, 1, none⟩ = some (.slice a1 n1 c1) ∧ w'.cell? ⟨w.heap.size, 2, none⟩ = some (.slice a2 n2 c2) ∧ w'.cell? ⟨w.heap.size, 3, none⟩ = some (.slice (some ⟨b, off, none⟩) ln c3) ∧ w'.cell? ⟨w.heap.size + 1, 1, none⟩ = some (.slice (some ⟨b4, o4, none⟩) n4 c4) ∧ w'.cell? ⟨w.heap.size + 1 + 1, 0, none⟩ = some (.int .i64 N) ∧ w'.cell? ⟨w.heap.size + 1 + 1, 1, none⟩ = some (.slice ga ll gc) ∧ w'.cell? ⟨wo.heap.size, 0, none⟩ = some (.int .i64 q1) ∧ w'.cell? ⟨wo.heap.size, 1, none⟩ = some (.int .i64 q2) ∧ w'.cell? ⟨wo.heap.size, 2, none⟩ = some (.int .i64 nx) ∧ w'.cell? ⟨b4, o4 + nx * 4, none⟩ = some (.int .i64 m') ∧ w'.cell? ⟨b4, o4 + nx * 4 + 1, none⟩ = some (.slice d1 k1 f1) ∧ w'.cell? ⟨b4, o4 + nx * 4 + 2, none⟩ = some (.slice d2 k2 f2) ∧ w'.cell? ⟨b4, o4 + nx * 4 + 3, none⟩ = some (.slice d3 k3 f3))) (by kernel_rfl) ?_ (fun hHeld => ?_)
         ·exact ⟨T.out.x0, T.out.x1, T.out.x2, T.out.x3, T.out.nn, T.out.g0, T.out.g1, Y.out.y0, Y.out.y1, Y.out.y2, E.out.e0, E.out.e1, E.out.e2, E.out.e3⟩
         refine tq 0 ?_
         refine tq 1 ?_
         refine tq 2 ?_
         refine tq 3 ?_
         refine rd 4 fun K hK => ?_
         go_simp
         refine (rfind_at N q1 n _ L fq _ T.out.hl Hn.out Hfq.out).mono ?_
         rintro e wn ⟨rfl, hbn⟩
         have T := Lib.hid (T.out.below hbn)
         have Y := Lib.hid (Y.out.below hbn)
         have TB := Lib.hid (below_step (by exact TS.out) TB.out hbn)
         have TS := Lib.hid (Nat.le_trans TS.out hbn.size)
         have E := Lib.hid (E.out.below hbn)
         clear hbn
         go_wp2_with fail
         refine hK.out _ _ ?_ (fun hHeld => ?_)
         ·exact ⟨T.out.x0, T.out.x1, T.out.x2, T.out.x3, T.out.nn, T.out.g0, T.out.g1, Y.out.y0, Y.out.y1, Y.out.y2, E.out.e0, E.out.e1, E.out.e2, E.out.e3⟩
         clear hK K
         try simp only [Act.put, List.getElem_toArray, List.getElem_cons_zero, List.getElem_cons_succ, List.setIfInBounds_toArray, List.set_cons_zero, List.set_cons_succ]
         refine tq 5 ?_
         refine tq 6 ?_
         refine tq 7 ?_
         refine tq 8 ?_
         refine tq 9 ?_
         refine tq 10 ?_
         refine tq 11 ?_
         refine tq 12 ?_
         refine tq 13 ?_
         refine tq 14 ?_
         refine tq 15 ?_
         refine tq 16 ?_
         refine tq 17 ?_
         refine tq 18 ?_
         refine tq 19 ?_
         refine tq 20 ?_
         refine tq 21 ?_
         refine tq 22 ?_
         refine tq 23 ?_
         refine tq 24 ?_
         refine tq 25 ?_
         refine tq 26 ?_
         refine tq 27 ?_
         refine tq 28 ?_
         refine tq 29 ?_
         refine tq 30 ?_
         refine tq 31 ?_
         refine tq 32 ?_
         refine tq 33 ?_
         refine tq 34 ?_
         refine tq 35 ?_
         refine tq 36 ?_
         refine tq 37 ?_
         refine tq 38 ?_
         refine rd 39 fun K hK => ?_
         go_simp
         refine (rkept_at s sto _ _ q1 false _ T.out.st E.out.st Hw6.out Ht6.out ⟨fun h => (by cases h), fun h => absurd h Hkp.out⟩).mono ?_
         rintro e wn ⟨rfl, hbn⟩
         have T := Lib.hid (T.out.below hbn)
         have Y := Lib.hid (Y.out.below hbn)
         have TB := Lib.hid (below_step (by exact TS.out) TB.out hbn)
         have TS := Lib.hid (Nat.le_trans TS.out hbn.size)
         have E := Lib.hid (E.out.below hbn)
         clear hbn
         go_wp2_with fail
         refine hK.out _ _ ?_ (fun hHeld => ?_)
         ·exact ⟨T.out.x0, T.out.x1, T.out.x2, T.out.x3, T.out.nn, T.out.g0, T.out.g1, Y.out.y0, Y.out.y1, Y.out.y2, E.out.e0, E.out.e1, E.out.e2, E.out.e3⟩
         clear hK K
         try simp only [Act.put, List.getElem_toArray, List.getElem_cons_zero, List.getElem_cons_succ, List.setIfInBounds_toArray, List.set_cons_zero, List.set_cons_succ]
         refine tq 40 ?_
         refine tq 41 ?_
         refine wpAnyH_done (by kernel_rfl) ?_ _
         go_wp2_with fail
         go_ret
         exact ⟨by rw [Hf.out]; rfl, below_step BB.out.size BB.out TB.out⟩
   ·have hq0 : fq < 0 := by rw [Hfq.out]; exact findL_neg.2 hm'
    have hq0' : decide (fq < 0) = true := by simp; omega
    have Hf := Lib.hid (Bad.out _ (fun h => h.1.1.1) hm')
    clear hm' hA2
    go_wp2_with fail
    rw [← hw2]
    clear hw2
    refine wp_region_held_drew (S := (fun w' => w'.cell? ⟨w.heap.size, 0, none⟩ = some (.int .i64 m) ∧ w'.cell? ⟨w.heap.size, 1, none⟩ = some (.slice a1 n1 c1) ∧ w'.cell? ⟨w.heap.size, 2, none⟩ = some (.slice a2 n2 c2) ∧ w'.cell? ⟨w.heap.size, 3, none⟩ = some (.slice (some ⟨b, off, none⟩) ln c3) ∧ w'.cell? ⟨w.heap.size + 1, 1, none⟩ = some (.slice a4 n4 c4) ∧ w'.cell? ⟨w.heap.size + 1 + 1, 0, none⟩ = some (.int .i64 N) ∧ w'.cell? ⟨w.heap.size + 1 + 1, 1, none⟩ = some (.slice ga ll gc) ∧ w'.cell? ⟨wo.heap.size, 0, none⟩ = some (.int .i64 q1) ∧ w'.cell? ⟨wo.heap.size, 1, none⟩ = some (.int .i64 q2) ∧ w'.cell? ⟨wo.heap.size, 2, none⟩ = some (.int .i64 q3'))) (by kernel_rfl) ?_ (fun hHeld => ?_)
    ·exact ⟨T.out.x0, T.out.x1, T.out.x2, T.out.x3, T.out.nn, T.out.g0, T.out.g1, Y.out.y0, Y.out.y1, Y.out.y2⟩
    refine tq 0 ?_
    refine tq 1 ?_
    refine tq 2 ?_
    refine tq 3 ?_
    refine rd 4 fun K hK => ?_
    go_simp
    refine (rfind_at N q1 n _ L fq _ T.out.hl Hn.out Hfq.out).mono ?_
    rintro e wn ⟨rfl, hbn⟩
    have T := Lib.hid (T.out.below hbn)
    have Y := Lib.hid (Y.out.below hbn)
    have TB := Lib.hid (below_step (by exact TS.out) TB.out hbn)
    have TS := Lib.hid (Nat.le_trans TS.out hbn.size)
    clear hbn
    go_wp2_with fail
    refine hK.out _ _ ?_ (fun hHeld => ?_)
    ·exact ⟨T.out.x0, T.out.x1, T.out.x2, T.out.x3, T.out.nn, T.out.g0, T.out.g1, Y.out.y0, Y.out.y1, Y.out.y2⟩
    clear hK K
    try simp only [Act.put, List.getElem_toArray, List.getElem_cons_zero, List.getElem_cons_succ, List.setIfInBounds_toArray, List.set_cons_zero, List.set_cons_succ]
    refine tq 5 ?_
    refine tq 6 ?_
    refine tq0 7 ?_
    refine tq0 8 ?_
    refine tq0 9 ?_
    refine tq 10 ?_
    refine tq 11 ?_
    refine tq0 12 ?_
    refine tq0 13 ?_
    refine tq0 14 ?_
    refine tq 15 ?_
    refine tq 16 ?_
    refine tq0 17 ?_
    refine tq0 18 ?_
    refine tq0 19 ?_
    refine tq 20 ?_
    refine tq 21 ?_
    refine tq0 22 ?_
    refine tq0 23 ?_
    refine tq0 24 ?_
    refine tq0 25 ?_
    refine tq0 26 ?_
    refine tq0 27 ?_
    refine tq 28 ?_
    refine tq 29 ?_
    refine tq0 30 ?_
    refine tq0 31 ?_
    refine tq0 32 ?_
    refine tq0 33 ?_
    refine tq0 34 ?_
    refine tq0 35 ?_
    refine tq0 36 ?_
    refine tq0 37 ?_
    refine tq0 38 ?_
    refine tq0 39 ?_
    refine tq0 40 ?_
    refine tq 41 ?_
    refine wpAnyH_done (by kernel_rfl) ?_ _
    go_wp2_with fail
    go_ret
    exact ⟨by rw [Hf.out]; rfl, below_step BB.out.size BB.out TB.out⟩
  ·have hlt' : ¬ (k : Int) < ln := by omega
   have hf : r = true := bool_yes Hr.out (fun j x hx => Hs.out j x (by have := lt_of_some hx; rw [← Ln.out] at this; omega) hx)
   have Hf := Lib.hid hf
   clear hf hA2
   go_wp2_with fail
   go_ret
   exact ⟨by rw [Hf.out]; rfl, BB.out⟩
theorem rtakes_at (L : Lks) (n : Int) (s : St) (x : Nd) (v u : Value) (N : Int) (g : Value) (r : Bool) (w : World) (q : Int) (hq : q = x.start) (h : IsSt w s v) (hu : HasL w [.int .i64 q, u] x.d) (hg : LinksAt w g L) (hn : L.length ≤ 1000000) (hsm : SmallSt s) (hall : ∀ s ∈ x.states, s.waits.length ≤ 1000000)
  (hr : r = true ↔ ∀ (i : Nat) (t : Tk), s.takes[i]? = some t → DocTake L n x.states s.waits s.takes i t) :
  Calls Try.prog 43 #[v, .int .i64 n, .agg #[.int .i64 q, u], gv N g] w fun e w' => e = .returned (.bool r) ∧ Below w.heap.size w w' := by
 subst hq
 have h' := h
 obtain ⟨a1, c1, a2, c2, a3, c3, rfl, h1, h2, h3⟩ := isSt_open h
 obtain ⟨u', e, h4⟩ := hasL_nd hu
 simp only [List.cons.injEq, and_true, true_and] at e
 subst e
 obtain ⟨a4, c4, rfl⟩ := slice_of h4
 exact rtakes_loop L n s _ a1 _ c1 a2 _ c2 a3 c3 _ x.states a4 c4 N g r w h' h3 h4 hg hn hsm.2.2.1 hsm.1 hall hr
end Go.Proofs.Ytiblcpkejhiehaa

set_option linter.unusedSimpArgs false
namespace Go.Proofs.Ytiblcpkejhiehaa
open Go.RowKit Go.PlainAid
def DocSt (L : Lks) (n : Int) (x : Nd) (t : St) : Prop := (0 ≤ t.mode ∧ t.mode ≤ 2) ∧ WaitsOK L n t ∧ PicksOK L n x.states t ∧ ∀ (i : Nat) (u : Tk), t.takes[i]? = some u → DocTake L n x.states t.waits t.takes i u
def DocNode (L : Lks) (n : Nat) (x : Nd) : Prop := x.states.length ≤ 8 ∧ HasS x.states x.start ∧ ∀ (i : Nat) (t : St), x.states[i]? = some t → DocSt L n x t
theorem docNode_iff (L : Lks) (n : Nat) (x : Nd) : DocNode L n x ↔ NodeOK L n x := by
 have mem : ∀ t, t ∈ x.states → ∃ i : Nat, x.states[i]? = some t := fun t h => List.mem_iff_getElem?.1 h
 constructor
 ·rintro ⟨h1, h2, h3⟩
  refine ⟨h1, h2, fun t ht => ?_, fun t ht => ?_⟩
  ·obtain ⟨i, hi⟩ := mem t ht
   obtain ⟨a, b, c, d⟩ := h3 i t hi
   exact ⟨a, b, c, fun i u hu => (d i u hu).1⟩
  ·obtain ⟨i, hi⟩ := mem t ht
   obtain ⟨a, b, c, d⟩ := h3 i t hi
   intro j u hu k y hy hne
   exact ((d j u hu).2 k y hy hne).2
 ·rintro ⟨h1, h2, h3, h4⟩
  refine ⟨h1, h2, fun i t hi => ?_⟩
  obtain ⟨a, b, c, d⟩ := h3 t (List.mem_of_getElem? hi)
  refine ⟨a, b, c, fun j u hu => ⟨d j u hu, fun k y hy hne => ?_⟩⟩
  have hin := h4 t (List.mem_of_getElem? hi) j u hu k y hy hne
  obtain ⟨e0, e1⟩ := (d j u hu).2.1
  obtain ⟨q, hq⟩ := Int.eq_ofNat_of_zero_le e0
  obtain ⟨z, hz⟩ := some_of_lt (l := x.states) (i := q) (by have e1 : u.next < (x.states.length : Int) := e1; omega)
  have ez : stOf x.states u.next = z := by unfold stOf; rw [hq]; simp [List.getD, hz]
  rw [ez] at hin ⊢
  exact ⟨(h3 z (List.mem_of_getElem? hz)).2.1.1.2 (List.length_pos_of_mem hin), hin⟩
structure RdAt (w : World) (bg : Nat) (v : Value) (M : Tab) (N : Int) (ga : Option Addr) (ll gc : Nat) (L : Lks) : Prop where
 g0 : w.cell? ⟨bg, 0, none⟩ = some (.int .i64 N)
 g1 : w.cell? ⟨bg, 1, none⟩ = some (.slice ga ll gc)
 tab : Has w v (dTab M)
 hl : LinksAt w (.slice ga ll gc) L
theorem RdAt.below {w w' : World} {bg : Nat} {v : Value} {M : Tab} {N : Int} {ga : Option Addr} {ll gc : Nat} {L : Lks} (h : RdAt w bg v M N ga ll gc L) (hb : Below w.heap.size w w') : RdAt w' bg v M N ga ll gc L := by
 have k := fun (p : Addr) (v : Value) (e : w.cell? p = some v) => (hb.cell (World.block_lt_of_cell? w _ e)).trans e
 exact ⟨k _ _ h.g0, k _ _ h.g1, h.tab.later hb, h.hl.below hb⟩
structure SBox (w : World) (x : Nat) (m : Int) (a1 : Option Addr) (n1 c1 : Nat) (a2 : Option Addr) (n2 c2 : Nat) (a3 : Option Addr) (n3 c3 : Nat) (s : St) : Prop where
 y0 : w.cell? ⟨x, 0, none⟩ = some (.int .i64 m)
 y1 : w.cell? ⟨x, 1, none⟩ = some (.slice a1 n1 c1)
 y2 : w.cell? ⟨x, 2, none⟩ = some (.slice a2 n2 c2)
 y3 : w.cell? ⟨x, 3, none⟩ = some (.slice a3 n3 c3)
 st : IsSt w s (.agg #[.int .i64 m, .slice a1 n1 c1, .slice a2 n2 c2, .slice a3 n3 c3])
theorem SBox.below {w w' : World} {x : Nat} {m : Int} {a1 : Option Addr} {n1 c1 : Nat} {a2 : Option Addr} {n2 c2 : Nat} {a3 : Option Addr} {n3 c3 : Nat} {s : St} (h : SBox w x m a1 n1 c1 a2 n2 c2 a3 n3 c3 s) (hb : Below w.heap.size w w') : SBox w' x m a1 n1 c1 a2 n2 c2 a3 n3 c3 s := by
 have k := fun (p : Addr) (v : Value) (e : w.cell? p = some v) => (hb.cell (World.block_lt_of_cell? w _ e)).trans e
 exact ⟨k _ _ h.y0, k _ _ h.y1, k _ _ h.y2, k _ _ h.y3, h.st.later hb⟩
/-- A node's two cells. -/
structure NBox (w : World) (b o : Nat) (q : Int) (a4 : Option Addr) (n4 c4 : Nat) (x : Nd) : Prop where
 z0 : w.cell? ⟨b, o, none⟩ = some (.int .i64 q)
 z1 : w.cell? ⟨b, o + 1, none⟩ = some (.slice a4 n4 c4)
 hx : HasL w [.int .i64 q, .slice a4 n4 c4] x.d
 hs : Has w (.slice a4 n4 c4) (dStates x.states)
theorem NBox.below {w w' : World} {b o : Nat} {q : Int} {a4 : Option Addr} {n4 c4 : Nat} {x : Nd} (h : NBox w b o q a4 n4 c4 x) (hb : Below w.heap.size w w') : NBox w' b o q a4 n4 c4 x := by
 have k := fun (p : Addr) (v : Value) (e : w.cell? p = some v) => (hb.cell (World.block_lt_of_cell? w _ e)).trans e
 exact ⟨k _ _ h.z0, k _ _ h.z1, h.hx.later hb, h.hs.later hb⟩
theorem nbox_of {w : World} {v : Value} {M : Tab} {i : Nat} {x : Nd} (h : Has w v (dTab M)) (hx : M[i]? = some x) :
  ∃ b off cap a4 c4, v = .slice (some ⟨b, off, none⟩) M.length cap ∧ b < w.heap.size ∧ NBox w b (off + i * 2) x.start a4 x.states.length c4 x := by
 obtain ⟨b, off, cap, rfl, h1, h2, cs, h3, h4⟩ := cells_of h hx
 obtain ⟨v1, rfl, h5⟩ := hasL_nd h3
 obtain ⟨a1, c1, rfl⟩ := slice_of h5
 exact ⟨b, off, cap, _, _, rfl, h1, ⟨h4 0 _ rfl, h4 1 _ rfl, h3, h5⟩⟩
theorem rright4_graph (N : Int) (g : Value) (L : Lks) (a : Option Addr) (len cap : Nat) (w : World) (hg : LinksAt w g L) (hN : ¬ RightG N L ∨ (RightG N L ∧ ¬ (len : Int) = N)) :
  Calls Try.prog 22 #[.slice a len cap, gv N g] w fun e w' => e = .returned (.bool false) ∧ Below w.heap.size w w' := by
 obtain ⟨ga, gc, rfl⟩ := hg.at
 have H := Lib.hid (hg.below (below_new w (.cells #[.int .i64 N, .slice ga L.length gc] 35)))
 rcases hN with hR | ⟨hR, hl⟩
 ·have HR := Lib.hid hR
  clear hg hR
  simp only [gv]
  go_enter Try.func22, Try.ntmps22
  try simp only [List.append_eq, List.cons_append, List.nil_append]
  go_wp2_with fail
  refine (rright_false N _ L _ H.out HR.out).mono ?_
  rintro e w' ⟨rfl, hb⟩
  have B := Lib.hid ((below_new w _).trans (hb.mono (by simp)))
  clear hb
  go_wp2_with fail
  go_ret
  exact ⟨rfl, B.out⟩
 ·have HR := Lib.hid hR
  have hl' : ((len : Int) == N) = false := by simpa using hl
  clear hg hR hl
  simp only [gv]
  go_enter Try.func22, Try.ntmps22
  try simp only [List.append_eq, List.cons_append, List.nil_append]
  go_wp2_with fail
  refine (rright_true N _ L _ H.out HR.out).mono ?_
  rintro e w' ⟨rfl, hb⟩
  have B := Lib.hid ((below_new w _).trans (hb.mono (by simp)))
  have s0 : w'.cell? ⟨w.heap.size, 0, none⟩ = some (.int .i64 N) := (hb.cell (by simp)).trans (World.cell?_alloc_at _ _ _ _ rfl)
  clear hb
  go_wp2_with fail
  go_ret
  exact ⟨rfl, B.out⟩
set_option maxHeartbeats 80000000 in
set_option maxRecDepth 100000 in
theorem rright4_loop (N : Nat) (g : Value) (L : Lks) (M : Tab) (a : Option Addr) (cap : Nat) (r : Bool) (w : World) (h : Has w (.slice a M.length cap) (dTab M)) (hg : LinksAt w g L) (hn : L.length ≤ 1000000) (hsm : SmallTab M) (hR : RightG N L) (hl : (M.length : Int) = (N : Int))
  (hr : r = true ↔ ∀ (n : Nat) (x : Nd), M[n]? = some x → DocNode L n x) :
  Calls Try.prog 22 #[.slice a M.length cap, gv N g] w fun e w' => e = .returned (.bool r) ∧ Below w.heap.size w w' := by
 obtain ⟨ga, gc, rfl⟩ := hg.at
 obtain ⟨ll, hll⟩ : ∃ ll, ll = L.length := ⟨_, rfl⟩
 rw [← hll] at hg
 have H := Lib.hid (hg.below (below_new w (.cells #[.int .i64 N, .slice ga ll gc] 35)))
 have HT := Lib.hid (h.later (below_new w (.cells #[.int .i64 N, .slice ga ll gc] 35)))
 have HR := Lib.hid hR
 have Hr := Lib.hid hr
 have Hn := Lib.hid hn
 have Hsm := Lib.hid hsm
 have hn6 : N ≤ 6 := by have := hR.2.1; omega
 have hlen : M.length = N := by omega
 rw [hlen] at HT ⊢
 rw [← hll]
 have Hlen := Lib.hid hlen
 clear h hg hR hr hn hsm hl hlen hll
 simp only [gv]
 go_enter Try.func22, Try.ntmps22
 try simp only [List.append_eq, List.cons_append, List.nil_append]
 go_wp2_with fail
 refine (rright_true N _ L _ H.out HR.out).mono ?_
 rintro e w1 ⟨rfl, hb⟩
 have B := Lib.hid ((below_new w _).trans (hb.mono (by simp)))
 have s0 : w1.cell? ⟨w.heap.size, 0, none⟩ = some (.int .i64 N) := (hb.cell (by simp)).trans (World.cell?_alloc_at _ _ _ _ rfl)
 have s1 : w1.cell? ⟨w.heap.size, 1, none⟩ = some (.slice ga ll gc) := (hb.cell (by simp)).trans (World.cell?_alloc_at _ _ _ _ rfl)
 have A := Lib.hid (show RdAt w1 w.heap.size (.slice a N cap) M N ga ll gc L from ⟨s0, s1, HT.out.later hb, H.out.below hb⟩)
 clear hb s1
 go_wp2_with fail
 go_loopw [5, 6] (fun i _ wr => ∃ k : Nat, i = .int .i64 k ∧ k ≤ N ∧ (∀ i x, i < k → M[i]? = some x → DocNode L i x) ∧ Below w1.heap.size w1 wr) (fun i _ _ => N - (intOf i).toNat)
 case atStart => exact ⟨0, rfl, by omega, fun j x hj => by omega, Below.refl _ _⟩
 case round =>
  obtain ⟨n, rfl, hk, hno, hbr⟩ := hrel
  have Hs := Lib.hid hno
  have R := Lib.hid hbr
  have hA2 := A.out.below hbr
  have A2 := Lib.hid hA2
  have BB := Lib.hid (below_step B.out.size B.out hbr)
  clear hno hbr
  by_cases hlt : n < N
  ·have hlt' : (n : Int) < N := by omega
   obtain ⟨x, hx⟩ := some_of_lt (l := M) (i := n) (by rw [Hlen.out]; exact hlt)
   obtain ⟨bb, off, cp, a4, c4, e, hb, hB⟩ := nbox_of hA2.tab hx
   rw [Hlen.out] at e
   simp only [Value.slice.injEq] at e
   obtain ⟨e, _, e'⟩ := e
   subst e e'
   obtain ⟨sn, hsn⟩ : ∃ sn, sn = x.states.length := ⟨_, rfl⟩
   obtain ⟨q, hq⟩ : ∃ q, q = x.start := ⟨_, rfl⟩
   rw [← hsn, ← hq] at hB
   have Hx := Lib.hid hx
   have Sn := Lib.hid hsn
   have Hq := Lib.hid hq
   have Hxs := Lib.hid (Hsm.out.2 x (List.mem_of_getElem? hx))
   have NB := Lib.hid hB
   have z0 := hB.z0
   have z1 := hB.z1
   have Bad : Hid (∀ P : Prop, (DocNode L n x → P) → ¬ P → r = false) := Lib.hid (fun P h hP => bool_no Hr.out (fun g => hP (h (g n x Hx.out))))
   clear hA2 hx hsn hq hB
   by_cases hc1 : sn < 1
   ·have hc1' : (sn : Int) < 1 := by omega
    have hc1'' : decide ((sn : Int) < 1) = true := by simp; omega
    have Hf := Lib.hid (Bad.out _ (fun h => h.2.1) (fun h => by have h0 := h.1; have h1 := h.2; rw [← Sn.out] at h1; omega))
    go_wp2_with fail
    go_ret
    exact ⟨by rw [Hf.out]; rfl, BB.out⟩
   ·have hc1' : ¬ (sn : Int) < 1 := by omega
    have hc1'' : decide ((sn : Int) < 1) = false := by simp; omega
    by_cases hc8 : 8 < sn
    ·have hc8' : (8 : Int) < sn := by omega
     have hc8'' : decide ((8 : Int) < sn) = true := by simp; omega
     have Hf := Lib.hid (Bad.out _ (fun h => h.1) (by rw [← Sn.out]; omega))
     go_wp2_with fail
     go_ret
     exact ⟨by rw [Hf.out]; rfl, BB.out⟩
    ·have hc8' : ¬ (8 : Int) < sn := by omega
     have hc8'' : decide ((8 : Int) < sn) = false := by simp; omega
     by_cases hs0 : q < 0
     ·have hs0' : decide (q < 0) = true := by simpa using hs0
      have Hf := Lib.hid (Bad.out _ (fun h => h.2.1.1) (by rw [← Hq.out]; omega))
      go_wp2_with fail
      go_ret
      exact ⟨by rw [Hf.out]; rfl, BB.out⟩
     ·have hs0' : decide (q < 0) = false := by simpa using hs0
      by_cases hs1 : (sn : Int) ≤ q
      ·have hs1' : decide ((sn : Int) ≤ q) = true := by simpa using hs1
       have Hf := Lib.hid (Bad.out _ (fun h => h.2.1.2) (by rw [← Hq.out, ← Sn.out]; omega))
       go_wp2_with fail
       go_ret
       exact ⟨by rw [Hf.out]; rfl, BB.out⟩
      ·have hs1' : decide ((sn : Int) ≤ q) = false := by simpa using hs1
       have Ys : Hid (HasS x.states x.start) := Lib.hid ⟨by rw [← Hq.out]; omega, by rw [← Hq.out, ← Sn.out]; omega⟩
       obtain ⟨wp, hwp⟩ : ∃ wp, wp = wr := ⟨_, rfl⟩
       subst hwp
       have Hc8 := Lib.hid hc8
       go_wp2_with fail
       go_loopw [7] (fun i wq => ∃ k : Nat, i = .int .i64 k ∧ k ≤ sn ∧ (∀ (i : Nat) (t : St), i < k → x.states[i]? = some t → DocSt L n x t) ∧ Below wp.heap.size wp wq) (fun i _ => sn - (intOf i).toNat)
       case atStart => exact ⟨0, rfl, by omega, fun j x hj => by omega, Below.refl _ _⟩
       case round =>
        obtain ⟨k, rfl, hk2, hno2, hbr2⟩ := hrel
        obtain ⟨wo, hwo⟩ : ∃ wo, wo = wr := ⟨_, rfl⟩
        subst hwo
        have Hs2 := Lib.hid hno2
        have T0 := Lib.hid hbr2
        have hN := NB.out.below hbr2
        have hA4 := A2.out.below hbr2
        have BT := Lib.hid (below_step BB.out.size BB.out hbr2)
        have v0 := hN.z0
        have v1 := hN.z1
        clear hno2 hbr2
        by_cases hlt2 : k < sn
        ·have hlt2' : (k : Int) < sn := by omega
         obtain ⟨t, ht⟩ := some_of_lt (l := x.states) (i := k) (by rw [← Sn.out]; exact hlt2)
         obtain ⟨b4, o4, cap4, m, a1, n1, c1, a2, n2, c2, a3, n3, c3, e, hb4, hE, hmm, hX⟩ := ebox_of hN.hs ht
         clear hX
         simp only [Value.slice.injEq] at e
         obtain ⟨e, e0, e2⟩ := e
         clear e0
         subst e e2
         have Ht := Lib.hid ht
         have Hmm := Lib.hid hmm
         have x0 := hE.e0
         have x1 := hE.e1
         have x2 := hE.e2
         have x3 := hE.e3
         obtain ⟨w2, hw2⟩ : ∃ w2, w2 = wo.alloc (.cells #[.int .i64 m, .slice a1 n1 c1, .slice a2 n2 c2, .slice a3 n3 c3] 104) := ⟨_, rfl⟩
         have hb2 : Below wo.heap.size wo w2 := by rw [hw2]; exact below_new _ _
         have hSB : SBox w2 wo.heap.size m a1 n1 c1 a2 n2 c2 a3 n3 c3 t := by
          refine ⟨?_, ?_, ?_, ?_, hE.st.later hb2⟩ <;> (rw [hw2]; exact World.cell?_alloc_at _ _ _ _ rfl)
         have hb3 := below_drewN (Below.refl w2.heap.size w2) 1
         have T := Lib.hid ((hA4.below hb2).below hb3)
         have Y := Lib.hid (hSB.below hb3)
         have Z := Lib.hid ((hN.below hb2).below hb3)
         have TB : Hid (Below wo.heap.size wo w2.drew) := Lib.hid (below_drewN hb2 1)
         have TS : Hid (wo.heap.size ≤ w2.drew.heap.size) := Lib.hid hb2.size
         have Bad2 : Hid (∀ P : Prop, (DocSt L n x t → P) → ¬ P → r = false) := Lib.hid (fun P h hP => Bad.out P (fun g => h (g.2.2 k t Ht.out)) hP)
         have Hts := Lib.hid (Hxs.out.2 t (List.mem_of_getElem? ht))
         have Hxw : Hid (∀ s ∈ x.states, s.waits.length ≤ 1000000) := Lib.hid (fun s hs => (Hxs.out.2 s hs).1)
         clear hE hN hA4 ht hmm hb2 hb3 hSB
         by_cases hm0 : m < 0
         ·have hm0' : decide (m < 0) = true := by simpa using hm0
          have Hf := Lib.hid (Bad2.out _ (fun h => h.1.1) (by rw [← Hmm.out]; omega))
          go_wp2_with fail
          rw [← hw2]
          clear hw2
          refine wp_region_held_drew (S := (fun w' => w'.cell? ⟨wo.heap.size, 0, none⟩ = some (.int .i64 m) ∧ w'.cell? ⟨wo.heap.size, 1, none⟩ = some (.slice a1 n1 c1) ∧ w'.cell? ⟨wo.heap.size, 2, none⟩ = some (.slice a2 n2 c2) ∧ w'.cell? ⟨wo.heap.size, 3, none⟩ = some (.slice a3 n3 c3) ∧ w'.cell? ⟨w.heap.size, 0, none⟩ = some (.int .i64 N) ∧ w'.cell? ⟨w.heap.size, 1, none⟩ = some (.slice ga ll gc) ∧ w'.cell? ⟨bb, off + n * 2, none⟩ = some (.int .i64 q) ∧ w'.cell? ⟨bb, off + n * 2 + 1, none⟩ = some (.slice (some ⟨b4, o4, none⟩) sn c4))) (by kernel_rfl) ?_ (fun hHeld => ?_)
          ·exact ⟨Y.out.y0, Y.out.y1, Y.out.y2, Y.out.y3, T.out.g0, T.out.g1, Z.out.z0, Z.out.z1⟩
          refine tq 0 ?_
          refine tq 1 ?_
          refine tq 2 ?_
          refine tq 3 ?_
          refine tq0 4 ?_
          refine tq0 5 ?_
          refine tq0 6 ?_
          refine tq 7 ?_
          refine tq 8 ?_
          refine tq0 9 ?_
          refine tq0 10 ?_
          refine tq0 11 ?_
          refine tq0 12 ?_
          refine tq0 13 ?_
          refine tq 14 ?_
          refine tq 15 ?_
          refine tq0 16 ?_
          refine tq0 17 ?_
          refine tq0 18 ?_
          refine tq0 19 ?_
          refine tq0 20 ?_
          refine tq0 21 ?_
          refine tq 22 ?_
          refine tq 23 ?_
          refine tq0 24 ?_
          refine tq0 25 ?_
          refine tq0 26 ?_
          refine tq0 27 ?_
          refine tq0 28 ?_
          refine tq0 29 ?_
          refine tq0 30 ?_
          refine tq0 31 ?_
          refine tq0 32 ?_
          refine tq 33 ?_
          refine wpAnyH_done (by kernel_rfl) ?_ _
          go_wp2_with fail
          go_ret
          exact ⟨by rw [Hf.out]; rfl, below_step BT.out.size BT.out TB.out⟩
         ·have hm0' : decide (m < 0) = false := by simpa using hm0
          by_cases hm2 : 2 < m
          ·have hm2' : decide (2 < m) = true := by simpa using hm2
           have Hf := Lib.hid (Bad2.out _ (fun h => h.1.2) (by rw [← Hmm.out]; omega))
           go_wp2_with fail
           rw [← hw2]
           clear hw2
           refine wp_region_held_drew (S := (fun w' => w'.cell? ⟨wo.heap.size, 0, none⟩ = some (.int .i64 m) ∧ w'.cell? ⟨wo.heap.size, 1, none⟩ = some (.slice a1 n1 c1) ∧ w'.cell? ⟨wo.heap.size, 2, none⟩ = some (.slice a2 n2 c2) ∧ w'.cell? ⟨wo.heap.size, 3, none⟩ = some (.slice a3 n3 c3) ∧ w'.cell? ⟨w.heap.size, 0, none⟩ = some (.int .i64 N) ∧ w'.cell? ⟨w.heap.size, 1, none⟩ = some (.slice ga ll gc) ∧ w'.cell? ⟨bb, off + n * 2, none⟩ = some (.int .i64 q) ∧ w'.cell? ⟨bb, off + n * 2 + 1, none⟩ = some (.slice (some ⟨b4, o4, none⟩) sn c4))) (by kernel_rfl) ?_ (fun hHeld => ?_)
           ·exact ⟨Y.out.y0, Y.out.y1, Y.out.y2, Y.out.y3, T.out.g0, T.out.g1, Z.out.z0, Z.out.z1⟩
           refine tq 0 ?_
           refine tq 1 ?_
           refine tq 2 ?_
           refine tq 3 ?_
           refine tq 4 ?_
           refine tq 5 ?_
           refine tq 6 ?_
           refine tq 7 ?_
           refine tq 8 ?_
           refine tq0 9 ?_
           refine tq0 10 ?_
           refine tq0 11 ?_
           refine tq0 12 ?_
           refine tq0 13 ?_
           refine tq 14 ?_
           refine tq 15 ?_
           refine tq0 16 ?_
           refine tq0 17 ?_
           refine tq0 18 ?_
           refine tq0 19 ?_
           refine tq0 20 ?_
           refine tq0 21 ?_
           refine tq 22 ?_
           refine tq 23 ?_
           refine tq0 24 ?_
           refine tq0 25 ?_
           refine tq0 26 ?_
           refine tq0 27 ?_
           refine tq0 28 ?_
           refine tq0 29 ?_
           refine tq0 30 ?_
           refine tq0 31 ?_
           refine tq0 32 ?_
           refine tq 33 ?_
           refine wpAnyH_done (by kernel_rfl) ?_ _
           go_wp2_with fail
           go_ret
           exact ⟨by rw [Hf.out]; rfl, below_step BT.out.size BT.out TB.out⟩
          ·have hm2' : decide (2 < m) = false := by simpa using hm2
           by_cases hw : WaitsOK L n t
           ·have HW := Lib.hid hw
            by_cases hp : PicksOK L n x.states t
            ·have HP := Lib.hid hp
             by_cases htk : ∀ (i : Nat) (u : Tk), t.takes[i]? = some u → DocTake L n x.states t.waits t.takes i u
             ·have HK := Lib.hid htk
              have Hm : Hid (0 ≤ t.mode ∧ t.mode ≤ 2) := Lib.hid ⟨by rw [← Hmm.out]; omega, by rw [← Hmm.out]; omega⟩
              clear hw hp htk
              go_wp2_with fail
              rw [← hw2]
              clear hw2
              refine wp_region_held_drew (S := (fun w' => w'.cell? ⟨wo.heap.size, 0, none⟩ = some (.int .i64 m) ∧ w'.cell? ⟨wo.heap.size, 1, none⟩ = some (.slice a1 n1 c1) ∧ w'.cell? ⟨wo.heap.size, 2, none⟩ = some (.slice a2 n2 c2) ∧ w'.cell? ⟨wo.heap.size, 3, none⟩ = some (.slice a3 n3 c3) ∧ w'.cell? ⟨w.heap.size, 0, none⟩ = some (.int .i64 N) ∧ w'.cell? ⟨w.heap.size, 1, none⟩ = some (.slice ga ll gc) ∧ w'.cell? ⟨bb, off + n * 2, none⟩ = some (.int .i64 q) ∧ w'.cell? ⟨bb, off + n * 2 + 1, none⟩ = some (.slice (some ⟨b4, o4, none⟩) sn c4))) (by kernel_rfl) ?_ (fun hHeld => ?_)
              ·exact ⟨Y.out.y0, Y.out.y1, Y.out.y2, Y.out.y3, T.out.g0, T.out.g1, Z.out.z0, Z.out.z1⟩
              refine tq 0 ?_
              refine tq 1 ?_
              refine tq 2 ?_
              refine tq 3 ?_
              refine tq 4 ?_
              refine tq 5 ?_
              refine tq 6 ?_
              refine tq 7 ?_
              refine tq 8 ?_
              refine tq 9 ?_
              refine tq 10 ?_
              refine tq 11 ?_
              refine rd 12 fun K hK => ?_
              go_simp
              refine (rwaits_at L n t _ N _ true _ Y.out.st T.out.hl Hn.out Hts.out.1 ⟨fun _ => HW.out, fun _ => rfl⟩).mono ?_
              rintro e wn ⟨rfl, hbn⟩
              have T := Lib.hid (T.out.below hbn)
              have Y := Lib.hid (Y.out.below hbn)
              have Z := Lib.hid (Z.out.below hbn)
              have TB := Lib.hid (below_step (by exact TS.out) TB.out hbn)
              have TS := Lib.hid (Nat.le_trans TS.out hbn.size)
              clear hbn
              go_wp2_with fail
              refine hK.out _ _ ?_ (fun hHeld => ?_)
              ·exact ⟨Y.out.y0, Y.out.y1, Y.out.y2, Y.out.y3, T.out.g0, T.out.g1, Z.out.z0, Z.out.z1⟩
              clear hK K
              try simp only [Act.put, List.getElem_toArray, List.getElem_cons_zero, List.getElem_cons_succ, List.setIfInBounds_toArray, List.set_cons_zero, List.set_cons_succ]
              refine tq 13 ?_
              refine tq 14 ?_
              refine tq 15 ?_
              refine tq 16 ?_
              refine tq 17 ?_
              refine tq 18 ?_
              refine tq 19 ?_
              refine rd 20 fun K hK => ?_
              go_simp
              refine (rpicks_at L n t x.states _ _ N _ true _ (by rw [Sn.out]) Y.out.st T.out.hl Hn.out ⟨fun _ => HP.out, fun _ => rfl⟩).mono ?_
              rintro e wn ⟨rfl, hbn⟩
              have T := Lib.hid (T.out.below hbn)
              have Y := Lib.hid (Y.out.below hbn)
              have Z := Lib.hid (Z.out.below hbn)
              have TB := Lib.hid (below_step (by exact TS.out) TB.out hbn)
              have TS := Lib.hid (Nat.le_trans TS.out hbn.size)
              clear hbn
              go_wp2_with fail
              refine hK.out _ _ ?_ (fun hHeld => ?_)
              ·exact ⟨Y.out.y0, Y.out.y1, Y.out.y2, Y.out.y3, T.out.g0, T.out.g1, Z.out.z0, Z.out.z1⟩
              clear hK K
              try simp only [Act.put, List.getElem_toArray, List.getElem_cons_zero, List.getElem_cons_succ, List.setIfInBounds_toArray, List.set_cons_zero, List.set_cons_succ]
              refine tq 21 ?_
              refine tq 22 ?_
              refine tq 23 ?_
              refine tq 24 ?_
              refine tq 25 ?_
              refine tq 26 ?_
              refine tq 27 ?_
              refine tq 28 ?_
              refine tq 29 ?_
              refine tq 30 ?_
              refine rd 31 fun K hK => ?_
              go_simp
              refine (rtakes_at L n t x _ _ N _ true _ q Hq.out Y.out.st Z.out.hx T.out.hl Hn.out Hts.out Hxw.out ⟨fun _ => HK.out, fun _ => rfl⟩).mono ?_
              rintro e wn ⟨rfl, hbn⟩
              have T := Lib.hid (T.out.below hbn)
              have Y := Lib.hid (Y.out.below hbn)
              have Z := Lib.hid (Z.out.below hbn)
              have TB := Lib.hid (below_step (by exact TS.out) TB.out hbn)
              have TS := Lib.hid (Nat.le_trans TS.out hbn.size)
              clear hbn
              go_wp2_with fail
              refine hK.out _ _ ?_ (fun hHeld => ?_)
              ·exact ⟨Y.out.y0, Y.out.y1, Y.out.y2, Y.out.y3, T.out.g0, T.out.g1, Z.out.z0, Z.out.z1⟩
              clear hK K
              try simp only [Act.put, List.getElem_toArray, List.getElem_cons_zero, List.getElem_cons_succ, List.setIfInBounds_toArray, List.set_cons_zero, List.set_cons_succ]
              refine tq 32 ?_
              refine tq 33 ?_
              refine wpAnyH_done (by kernel_rfl) ?_ _
              go_wp2_with fail
              go_roundw
              case rel =>
               refine ⟨k + 1, by go_num, by omega, fun j y hj hy => ?_, below_step T0.out.size T0.out TB.out⟩
               by_cases hjk : j < k
               ·exact Hs2.out j y hjk hy
               ·obtain rfl : j = k := by omega
                rw [Ht.out] at hy
                cases hy
                exact ⟨Hm.out, HW.out, HP.out, HK.out⟩
              case measure => simp [intOf]; omega
             ·have HK := Lib.hid htk
              have Hf := Lib.hid (Bad2.out _ (fun h => h.2.2.2) htk)
              clear hw hp htk
              go_wp2_with fail
              rw [← hw2]
              clear hw2
              refine wp_region_held_drew (S := (fun w' => w'.cell? ⟨wo.heap.size, 0, none⟩ = some (.int .i64 m) ∧ w'.cell? ⟨wo.heap.size, 1, none⟩ = some (.slice a1 n1 c1) ∧ w'.cell? ⟨wo.heap.size, 2, none⟩ = some (.slice a2 n2 c2) ∧ w'.cell? ⟨wo.heap.size, 3, none⟩ = some (.slice a3 n3 c3) ∧ w'.cell? ⟨w.heap.size, 0, none⟩ = some (.int .i64 N) ∧ w'.cell? ⟨w.heap.size, 1, none⟩ = some (.slice ga ll gc) ∧ w'.cell? ⟨bb, off + n * 2, none⟩ = some (.int .i64 q) ∧ w'.cell? ⟨bb, off + n * 2 + 1, none⟩ = some (.slice (some ⟨b4, o4, none⟩) sn c4))) (by kernel_rfl) ?_ (fun hHeld => ?_)
              ·exact ⟨Y.out.y0, Y.out.y1, Y.out.y2, Y.out.y3, T.out.g0, T.out.g1, Z.out.z0, Z.out.z1⟩
              refine tq 0 ?_
              refine tq 1 ?_
              refine tq 2 ?_
              refine tq 3 ?_
              refine tq 4 ?_
              refine tq 5 ?_
              refine tq 6 ?_
              refine tq 7 ?_
              refine tq 8 ?_
              refine tq 9 ?_
              refine tq 10 ?_
              refine tq 11 ?_
              refine rd 12 fun K hK => ?_
              go_simp
              refine (rwaits_at L n t _ N _ true _ Y.out.st T.out.hl Hn.out Hts.out.1 ⟨fun _ => HW.out, fun _ => rfl⟩).mono ?_
              rintro e wn ⟨rfl, hbn⟩
              have T := Lib.hid (T.out.below hbn)
              have Y := Lib.hid (Y.out.below hbn)
              have Z := Lib.hid (Z.out.below hbn)
              have TB := Lib.hid (below_step (by exact TS.out) TB.out hbn)
              have TS := Lib.hid (Nat.le_trans TS.out hbn.size)
              clear hbn
              go_wp2_with fail
              refine hK.out _ _ ?_ (fun hHeld => ?_)
              ·exact ⟨Y.out.y0, Y.out.y1, Y.out.y2, Y.out.y3, T.out.g0, T.out.g1, Z.out.z0, Z.out.z1⟩
              clear hK K
              try simp only [Act.put, List.getElem_toArray, List.getElem_cons_zero, List.getElem_cons_succ, List.setIfInBounds_toArray, List.set_cons_zero, List.set_cons_succ]
              refine tq 13 ?_
              refine tq 14 ?_
              refine tq 15 ?_
              refine tq 16 ?_
              refine tq 17 ?_
              refine tq 18 ?_
              refine tq 19 ?_
              refine rd 20 fun K hK => ?_
              go_simp
              refine (rpicks_at L n t x.states _ _ N _ true _ (by rw [Sn.out]) Y.out.st T.out.hl Hn.out ⟨fun _ => HP.out, fun _ => rfl⟩).mono ?_
              rintro e wn ⟨rfl, hbn⟩
              have T := Lib.hid (T.out.below hbn)
              have Y := Lib.hid (Y.out.below hbn)
              have Z := Lib.hid (Z.out.below hbn)
              have TB := Lib.hid (below_step (by exact TS.out) TB.out hbn)
              have TS := Lib.hid (Nat.le_trans TS.out hbn.size)
              clear hbn
              go_wp2_with fail
              refine hK.out _ _ ?_ (fun hHeld => ?_)
              ·exact ⟨Y.out.y0, Y.out.y1, Y.out.y2, Y.out.y3, T.out.g0, T.out.g1, Z.out.z0, Z.out.z1⟩
              clear hK K
              try simp only [Act.put, List.getElem_toArray, List.getElem_cons_zero, List.getElem_cons_succ, List.setIfInBounds_toArray, List.set_cons_zero, List.set_cons_succ]
              refine tq 21 ?_
              refine tq 22 ?_
              refine tq 23 ?_
              refine tq 24 ?_
              refine tq 25 ?_
              refine tq 26 ?_
              refine tq 27 ?_
              refine tq 28 ?_
              refine tq 29 ?_
              refine tq 30 ?_
              refine rd 31 fun K hK => ?_
              go_simp
              refine (rtakes_at L n t x _ _ N _ false _ q Hq.out Y.out.st Z.out.hx T.out.hl Hn.out Hts.out Hxw.out ⟨fun h => (by cases h), fun h => absurd h HK.out⟩).mono ?_
              rintro e wn ⟨rfl, hbn⟩
              have T := Lib.hid (T.out.below hbn)
              have Y := Lib.hid (Y.out.below hbn)
              have Z := Lib.hid (Z.out.below hbn)
              have TB := Lib.hid (below_step (by exact TS.out) TB.out hbn)
              have TS := Lib.hid (Nat.le_trans TS.out hbn.size)
              clear hbn
              go_wp2_with fail
              refine hK.out _ _ ?_ (fun hHeld => ?_)
              ·exact ⟨Y.out.y0, Y.out.y1, Y.out.y2, Y.out.y3, T.out.g0, T.out.g1, Z.out.z0, Z.out.z1⟩
              clear hK K
              try simp only [Act.put, List.getElem_toArray, List.getElem_cons_zero, List.getElem_cons_succ, List.setIfInBounds_toArray, List.set_cons_zero, List.set_cons_succ]
              refine tq 32 ?_
              refine tq 33 ?_
              refine wpAnyH_done (by kernel_rfl) ?_ _
              go_wp2_with fail
              go_ret
              exact ⟨by rw [Hf.out]; rfl, below_step BT.out.size BT.out TB.out⟩
            ·have HP := Lib.hid hp
             have Hf := Lib.hid (Bad2.out _ (fun h => h.2.2.1) hp)
             clear hw hp
             go_wp2_with fail
             rw [← hw2]
             clear hw2
             refine wp_region_held_drew (S := (fun w' => w'.cell? ⟨wo.heap.size, 0, none⟩ = some (.int .i64 m) ∧ w'.cell? ⟨wo.heap.size, 1, none⟩ = some (.slice a1 n1 c1) ∧ w'.cell? ⟨wo.heap.size, 2, none⟩ = some (.slice a2 n2 c2) ∧ w'.cell? ⟨wo.heap.size, 3, none⟩ = some (.slice a3 n3 c3) ∧ w'.cell? ⟨w.heap.size, 0, none⟩ = some (.int .i64 N) ∧ w'.cell? ⟨w.heap.size, 1, none⟩ = some (.slice ga ll gc) ∧ w'.cell? ⟨bb, off + n * 2, none⟩ = some (.int .i64 q) ∧ w'.cell? ⟨bb, off + n * 2 + 1, none⟩ = some (.slice (some ⟨b4, o4, none⟩) sn c4))) (by kernel_rfl) ?_ (fun hHeld => ?_)
             ·exact ⟨Y.out.y0, Y.out.y1, Y.out.y2, Y.out.y3, T.out.g0, T.out.g1, Z.out.z0, Z.out.z1⟩
             refine tq 0 ?_
             refine tq 1 ?_
             refine tq 2 ?_
             refine tq 3 ?_
             refine tq 4 ?_
             refine tq 5 ?_
             refine tq 6 ?_
             refine tq 7 ?_
             refine tq 8 ?_
             refine tq 9 ?_
             refine tq 10 ?_
             refine tq 11 ?_
             refine rd 12 fun K hK => ?_
             go_simp
             refine (rwaits_at L n t _ N _ true _ Y.out.st T.out.hl Hn.out Hts.out.1 ⟨fun _ => HW.out, fun _ => rfl⟩).mono ?_
             rintro e wn ⟨rfl, hbn⟩
             have T := Lib.hid (T.out.below hbn)
             have Y := Lib.hid (Y.out.below hbn)
             have Z := Lib.hid (Z.out.below hbn)
             have TB := Lib.hid (below_step (by exact TS.out) TB.out hbn)
             have TS := Lib.hid (Nat.le_trans TS.out hbn.size)
             clear hbn
             go_wp2_with fail
             refine hK.out _ _ ?_ (fun hHeld => ?_)
             ·exact ⟨Y.out.y0, Y.out.y1, Y.out.y2, Y.out.y3, T.out.g0, T.out.g1, Z.out.z0, Z.out.z1⟩
             clear hK K
             try simp only [Act.put, List.getElem_toArray, List.getElem_cons_zero, List.getElem_cons_succ, List.setIfInBounds_toArray, List.set_cons_zero, List.set_cons_succ]
             refine tq 13 ?_
             refine tq 14 ?_
             refine tq 15 ?_
             refine tq 16 ?_
             refine tq 17 ?_
             refine tq 18 ?_
             refine tq 19 ?_
             refine rd 20 fun K hK => ?_
             go_simp
             refine (rpicks_at L n t x.states _ _ N _ false _ (by rw [Sn.out]) Y.out.st T.out.hl Hn.out ⟨fun h => (by cases h), fun h => absurd h HP.out⟩).mono ?_
             rintro e wn ⟨rfl, hbn⟩
             have T := Lib.hid (T.out.below hbn)
             have Y := Lib.hid (Y.out.below hbn)
             have Z := Lib.hid (Z.out.below hbn)
             have TB := Lib.hid (below_step (by exact TS.out) TB.out hbn)
             have TS := Lib.hid (Nat.le_trans TS.out hbn.size)
             clear hbn
             go_wp2_with fail
             refine hK.out _ _ ?_ (fun hHeld => ?_)
             ·exact ⟨Y.out.y0, Y.out.y1, Y.out.y2, Y.out.y3, T.out.g0, T.out.g1, Z.out.z0, Z.out.z1⟩
             clear hK K
             try simp only [Act.put, List.getElem_toArray, List.getElem_cons_zero, List.getElem_cons_succ, List.setIfInBounds_toArray, List.set_cons_zero, List.set_cons_succ]
             refine tq 21 ?_
             refine tq 22 ?_
             refine tq 23 ?_
             refine tq0 24 ?_
             refine tq0 25 ?_
             refine tq0 26 ?_
             refine tq0 27 ?_
             refine tq0 28 ?_
             refine tq0 29 ?_
             refine tq0 30 ?_
             refine tq0 31 ?_
             refine tq0 32 ?_
             refine tq 33 ?_
             refine wpAnyH_done (by kernel_rfl) ?_ _
             go_wp2_with fail
             go_ret
             exact ⟨by rw [Hf.out]; rfl, below_step BT.out.size BT.out TB.out⟩
           ·have HW := Lib.hid hw
            have Hf := Lib.hid (Bad2.out _ (fun h => h.2.1) hw)
            clear hw
            go_wp2_with fail
            rw [← hw2]
            clear hw2
            refine wp_region_held_drew (S := (fun w' => w'.cell? ⟨wo.heap.size, 0, none⟩ = some (.int .i64 m) ∧ w'.cell? ⟨wo.heap.size, 1, none⟩ = some (.slice a1 n1 c1) ∧ w'.cell? ⟨wo.heap.size, 2, none⟩ = some (.slice a2 n2 c2) ∧ w'.cell? ⟨wo.heap.size, 3, none⟩ = some (.slice a3 n3 c3) ∧ w'.cell? ⟨w.heap.size, 0, none⟩ = some (.int .i64 N) ∧ w'.cell? ⟨w.heap.size, 1, none⟩ = some (.slice ga ll gc) ∧ w'.cell? ⟨bb, off + n * 2, none⟩ = some (.int .i64 q) ∧ w'.cell? ⟨bb, off + n * 2 + 1, none⟩ = some (.slice (some ⟨b4, o4, none⟩) sn c4))) (by kernel_rfl) ?_ (fun hHeld => ?_)
            ·exact ⟨Y.out.y0, Y.out.y1, Y.out.y2, Y.out.y3, T.out.g0, T.out.g1, Z.out.z0, Z.out.z1⟩
            refine tq 0 ?_
            refine tq 1 ?_
            refine tq 2 ?_
            refine tq 3 ?_
            refine tq 4 ?_
            refine tq 5 ?_
            refine tq 6 ?_
            refine tq 7 ?_
            refine tq 8 ?_
            refine tq 9 ?_
            refine tq 10 ?_
            refine tq 11 ?_
            refine rd 12 fun K hK => ?_
            go_simp
            refine (rwaits_at L n t _ N _ false _ Y.out.st T.out.hl Hn.out Hts.out.1 ⟨fun h => (by cases h), fun h => absurd h HW.out⟩).mono ?_
            rintro e wn ⟨rfl, hbn⟩
            have T := Lib.hid (T.out.below hbn)
            have Y := Lib.hid (Y.out.below hbn)
            have Z := Lib.hid (Z.out.below hbn)
            have TB := Lib.hid (below_step (by exact TS.out) TB.out hbn)
            have TS := Lib.hid (Nat.le_trans TS.out hbn.size)
            clear hbn
            go_wp2_with fail
            refine hK.out _ _ ?_ (fun hHeld => ?_)
            ·exact ⟨Y.out.y0, Y.out.y1, Y.out.y2, Y.out.y3, T.out.g0, T.out.g1, Z.out.z0, Z.out.z1⟩
            clear hK K
            try simp only [Act.put, List.getElem_toArray, List.getElem_cons_zero, List.getElem_cons_succ, List.setIfInBounds_toArray, List.set_cons_zero, List.set_cons_succ]
            refine tq 13 ?_
            refine tq 14 ?_
            refine tq 15 ?_
            refine tq0 16 ?_
            refine tq0 17 ?_
            refine tq0 18 ?_
            refine tq0 19 ?_
            refine tq0 20 ?_
            refine tq0 21 ?_
            refine tq 22 ?_
            refine tq 23 ?_
            refine tq0 24 ?_
            refine tq0 25 ?_
            refine tq0 26 ?_
            refine tq0 27 ?_
            refine tq0 28 ?_
            refine tq0 29 ?_
            refine tq0 30 ?_
            refine tq0 31 ?_
            refine tq0 32 ?_
            refine tq 33 ?_
            refine wpAnyH_done (by kernel_rfl) ?_ _
            go_wp2_with fail
            go_ret
            exact ⟨by rw [Hf.out]; rfl, below_step BT.out.size BT.out TB.out⟩
        ·have hlt2' : ¬ (k : Int) < sn := by omega
         clear hN hA4
         go_wp2_with fail
         go_roundw
         case rel =>
          refine ⟨n + 1, by go_num, by omega, fun j y hj hy => ?_, below_step R.out.size R.out T0.out⟩
          by_cases hjk : j < n
          ·exact Hs.out j y hjk hy
          ·obtain rfl : j = n := by omega
           rw [Hx.out] at hy
           cases hy
           exact ⟨by rw [← Sn.out]; omega, Ys.out, fun i t ht => Hs2.out i t (by have := lt_of_some ht; rw [← Sn.out] at this; omega) ht⟩
         case measure => simp [intOf]; omega
  ·have hlt' : ¬ (n : Int) < N := by omega
   have hf : r = true := bool_yes Hr.out (fun j x hx => Hs.out j x (by have := lt_of_some hx; rw [Hlen.out] at this; omega) hx)
   have Hf := Lib.hid hf
   clear hf hA2
   go_wp2_with fail
   go_ret
   exact ⟨by rw [Hf.out]; rfl, BB.out⟩
theorem rright4_at (N : Int) (g : Value) (L : Lks) (M : Tab) (v : Value) (r : Bool) (w : World) (h : Has w v (dTab M)) (hg : LinksAt w g L) (hn : L.length ≤ 1000000) (hsm : SmallTab M) (hr : r = true ↔ TabOK N L M) :
  Calls Try.prog 22 #[v, gv N g] w fun e w' => e = .returned (.bool r) ∧ Below w.heap.size w w' := by
 obtain ⟨a, cap, rfl⟩ := slice_of h
 by_cases hR : RightG N L
 ·by_cases hl : (M.length : Int) = N
  ·obtain ⟨N', rfl⟩ := Int.eq_ofNat_of_zero_le (show 0 ≤ N by omega)
   exact rright4_loop N' g L M a cap r w h hg hn hsm hR hl (hr.trans ⟨fun g n x hx => (docNode_iff L n x).2 (g.2.2 n x hx), fun g => ⟨hR, hl, fun n x hx => (docNode_iff L n x).1 (g n x hx)⟩⟩)
  ·rw [bool_no hr (fun g => hl g.2.1)]
   exact rright4_graph N g L a _ cap w hg (.inr ⟨hR, hl⟩)
 ·rw [bool_no hr (fun g => hR g.1)]
  exact rright4_graph N g L a _ cap w hg (.inl hR)
end Go.Proofs.Ytiblcpkejhiehaa

set_option linter.unusedSimpArgs false
namespace Go.Proofs.Ytiblcpkejhiehaa
open Go.RowKit Go.PlainAid
def cutP (p : Pk) : Pk := ⟨p.next, p.sends.take 10⟩
def cutS (s : St) : St := ⟨s.mode, s.waits.take 10, (s.picks.take 10).map cutP, s.takes.take 30⟩
theorem infoPk : (Try.prog.info? 128).map (fun i => (i.zero, i.size, i.bytes)) = some (some (.agg #[.int .i64 0, .slice none 0 0]), 2, 32) := by kernel_rfl
theorem infoTk : (Try.prog.info? 130).map (fun i => (i.zero, i.size, i.bytes)) = some (some (.agg #[.int .i64 0, .int .i64 0, .int .i64 0]), 3, 24) := by kernel_rfl
theorem SameOn.trans {P : Nat → Prop} {w w' w2 : World} (h : SameOn P w w') (h' : SameOn P w' w2) : SameOn P w w2 := ⟨Nat.le_trans h.1 h'.1, fun b p hb => (h'.2 b p (Nat.lt_of_lt_of_le hb h.1)).trans (h.2 b p hb)⟩
theorem SameOn.frozen {P : Nat → Prop} {w w' : World} {a : Addr} (h : SameOn P w w') (hp : P a.block) (hb : a.block < w.heap.size) : w'.frozen? a = w.frozen? a := World.frozen?_of_block (w := w) (h.2 _ hp hb)
/-- The copy's box, as it is made. -/
structure CutHead (w1 wx : World) (b3 : Nat) (m : Int) (v1 : Value) (ws : List Int) : Prop where
 ge : w1.heap.size ≤ b3
 lt : b3 < wx.heap.size
 bel : Below w1.heap.size w1 wx
 y0 : wx.cell? ⟨b3, 0, none⟩ = some (.int .i64 m)
 y1 : wx.cell? ⟨b3, 1, none⟩ = some v1
 y2 : wx.cell? ⟨b3, 2, none⟩ = some (.slice none 0 0)
 y3 : wx.cell? ⟨b3, 3, none⟩ = some (.slice none 0 0)
 z : ∀ i, wx.frozen? ⟨b3, i, none⟩ = false
 hw : Holds True (fun k => w1.heap.size ≤ k ∧ k < wx.heap.size ∧ k ≠ b3) wx v1 (dInts ws)
theorem cutHead_new {w1 w4 : World} {E T : TypeId} {lim : Nat} {v : Value} {ws : List Int} (h : Own True (fresh w1) E 1 w1 lim w4 v (ws.map fun a => [dI a])) (m : Int) : CutHead w1 (w4.alloc (.cells #[.int .i64 m, v, .slice none 0 0, .slice none 0 0] T)) w4.heap.size m v ws := by
 have hsz : w4.heap.size < (w4.alloc (.cells #[.int .i64 m, v, .slice none 0 0, .slice none 0 0] T)).heap.size := by simp
 refine ⟨h.bel.size, hsz, h.bel.alloc h.bel.size _, World.cell?_alloc_at _ _ _ _ rfl, World.cell?_alloc_at _ _ _ _ rfl, World.cell?_alloc_at _ _ _ _ rfl, World.cell?_alloc_at _ _ _ _ rfl, fun i => frozen_new _ _ _ _, ?_⟩
 refine ((h.flat (P' := fun k => w1.heap.size ≤ k ∧ k < w4.heap.size) (flat_ints ws) (fun k hk => h.ge k hk)).later (below_new _ _)).wide (fun b _ hb => ⟨hb.1, by omega, by omega⟩)
theorem cutHead_set {w1 w4 : World} {E : TypeId} {lim b3 : Nat} {v : Value} {ws : List Int} (h : Own True (fresh w1) E 1 w1 lim w4 v (ws.map fun a => [dI a])) (m : Int) (hge : w1.heap.size ≤ b3) (hne : v.ownBlock ≠ some b3) {u0 u1 u2 u3 : Value}
  (t0 : w4.cell? ⟨b3, 0, none⟩ = some u0) (t1 : w4.cell? ⟨b3, 1, none⟩ = some u1) (t2 : w4.cell? ⟨b3, 2, none⟩ = some u2) (t3 : w4.cell? ⟨b3, 3, none⟩ = some u3) (r : ∀ i, w4.frozen? ⟨b3, i, none⟩ = false) :
  CutHead w1 ((((w4.setCell ⟨b3, 0, none⟩ (.int .i64 m)).setCell ⟨b3, 1, none⟩ v).setCell ⟨b3, 2, none⟩ (.slice none 0 0)).setCell ⟨b3, 3, none⟩ (.slice none 0 0)) b3 m v ws := by
 have o : ∀ (w : World) (i j : Nat) (u x : Value), i ≠ j → w.cell? ⟨b3, j, none⟩ = some x → (w.setCell ⟨b3, i, none⟩ u).cell? ⟨b3, j, none⟩ = some x := fun w i j u x hne h => by rw [World.cell?_setCell_other _ _ _ _ (by simp [hne])]; exact h
 have hlt := World.block_lt_of_cell? w4 _ t0
 have e0 := World.cell?_setCell_same w4 _ (.int .i64 m) t0
 have e1 := World.cell?_setCell_same _ _ v (o w4 0 1 (.int .i64 m) _ (by omega) t1)
 have e2 := World.cell?_setCell_same _ _ (.slice none 0 0) (o _ 1 2 v _ (by omega) (o w4 0 2 (.int .i64 m) _ (by omega) t2))
 have e3 := World.cell?_setCell_same _ _ (.slice none 0 0) (o _ 2 3 (.slice none 0 0) _ (by omega) (o _ 1 3 v _ (by omega) (o w4 0 3 (.int .i64 m) _ (by omega) t3)))
 refine ⟨hge, by simp only [World.size_setCell]; exact hlt, (((h.bel.setCell hge _).setCell hge _).setCell hge _).setCell hge _, ?_, ?_, ?_, e3, fun i => by simp only [World.frozen?_setCell]; exact r i, ?_⟩
 ·exact o _ 3 0 _ _ (by omega) (o _ 2 0 _ _ (by omega) (o _ 1 0 _ _ (by omega) e0))
 ·exact o _ 3 1 _ _ (by omega) (o _ 2 1 _ _ (by omega) e1)
 ·exact o _ 3 2 _ _ (by omega) e2
 ·have hh := h.flat (P' := fun k => w1.heap.size ≤ k ∧ k < w4.heap.size ∧ k ≠ b3) (flat_ints ws) (fun k hk => ⟨(h.ge k hk).1, (h.ge k hk).2, fun e => hne (e ▸ hk)⟩)
  have hs : SameOn (fun k => w1.heap.size ≤ k ∧ k < w4.heap.size ∧ k ≠ b3) w4 ((((w4.setCell ⟨b3, 0, none⟩ (.int .i64 m)).setCell ⟨b3, 1, none⟩ v).setCell ⟨b3, 2, none⟩ (.slice none 0 0)).setCell ⟨b3, 3, none⟩ (.slice none 0 0)) :=
   ((((SameOn.refl _ _).set _ _ (fun h => h.2.2 rfl)).set _ _ (fun h => h.2.2 rfl)).set _ _ (fun h => h.2.2 rfl)).set _ _ (fun h => h.2.2 rfl)
  refine (hh.same hs).wide (fun b hb p => ⟨p.1, ?_, p.2.2⟩)
  simp only [World.size_setCell]; exact p.2.1
/-- While picks, then takes, are copied. -/
structure C1 (w1 wA : World) (b3 : Nat) (m : Int) (v1 v2 : Value) (ps : List Pk) (wr : World) : Prop where
 bel : Below w1.heap.size w1 wr
 low : SameOn (fun k => k < wA.heap.size ∧ k ≠ b3) wA wr
 y0 : wr.cell? ⟨b3, 0, none⟩ = some (.int .i64 m)
 y1 : wr.cell? ⟨b3, 1, none⟩ = some v1
 y3 : wr.cell? ⟨b3, 3, none⟩ = some (.slice none 0 0)
 z3 : wr.frozen? ⟨b3, 3, none⟩ = false
 f2 : Fld True (fun k => wA.heap.size ≤ k) 128 2 w1 wr b3 2 v2 (ps.map Pk.d)
structure C2 (w1 wB : World) (b3 : Nat) (m : Int) (v1 v2 v3 : Value) (ts : List Tk) (wr : World) : Prop where
 bel : Below w1.heap.size w1 wr
 low : SameOn (fun k => k < wB.heap.size ∧ k ≠ b3) wB wr
 y0 : wr.cell? ⟨b3, 0, none⟩ = some (.int .i64 m)
 y1 : wr.cell? ⟨b3, 1, none⟩ = some v1
 y2 : wr.cell? ⟨b3, 2, none⟩ = some v2
 f3 : Fld True (fun k => wB.heap.size ≤ k) 130 3 w1 wr b3 3 v3 (ts.map Tk.d)
theorem C1.start {w1 wA : World} {b3 : Nat} {m : Int} {v1 : Value} {ws : List Int} (h : CutHead w1 wA b3 m v1 ws) : C1 w1 wA b3 m v1 (.slice none 0 0) [] wA :=
 ⟨h.bel, SameOn.refl _ _, h.y0, h.y1, h.y3, h.z 3, ⟨h.y2, h.z 2, ⟨Own.nil h.bel, fun k hk => by simp [Value.ownBlock] at hk⟩, by have := h.lt; omega, h.ge⟩⟩
theorem C2.start {w1 wA wr : World} {b3 : Nat} {m : Int} {v1 v2 : Value} {ps : List Pk} (h : C1 w1 wA b3 m v1 v2 ps wr) (hb : b3 < wA.heap.size) : C2 w1 wr b3 m v1 v2 (.slice none 0 0) [] wr :=
 ⟨h.bel, SameOn.refl _ _, h.y0, h.y1, h.f2.cell, ⟨h.y3, h.z3, ⟨Own.nil h.bel, fun k hk => by simp [Value.ownBlock] at hk⟩, by have := h.low.1; omega, h.f2.ge⟩⟩
theorem C1.below {w1 wA w w' : World} {b3 : Nat} {m : Int} {v1 v2 : Value} {ps : List Pk} (h : C1 w1 wA b3 m v1 v2 ps w) (hb : Below w.heap.size w w') : C1 w1 wA b3 m v1 v2 ps w' := by
 have k := fun (p : Addr) (v : Value) (e : w.cell? p = some v) => (hb.cell (World.block_lt_of_cell? w _ e)).trans e
 exact ⟨below_step h.bel.size h.bel hb, h.low.trans ((SameOn.of_below hb).sub fun _ p => p), k _ _ h.y0, k _ _ h.y1, k _ _ h.y3, (hb.frozen (World.block_lt_of_cell? w _ h.y3)).trans h.z3, h.f2.below hb⟩
theorem C2.below {w1 wB w w' : World} {b3 : Nat} {m : Int} {v1 v2 v3 : Value} {ts : List Tk} (h : C2 w1 wB b3 m v1 v2 v3 ts w) (hb : Below w.heap.size w w') : C2 w1 wB b3 m v1 v2 v3 ts w' := by
 have k := fun (p : Addr) (v : Value) (e : w.cell? p = some v) => (hb.cell (World.block_lt_of_cell? w _ e)).trans e
 exact ⟨below_step h.bel.size h.bel hb, h.low.trans ((SameOn.of_below hb).sub fun _ p => p), k _ _ h.y0, k _ _ h.y1, k _ _ h.y2, h.f3.below hb⟩
theorem C1.push {w1 wA w w5 w6 : World} {b3 : Nat} {m : Int} {v1 v2 v2' : Value} {ps : List Pk} {p : Pk} (h : C1 w1 wA b3 m v1 v2 ps w) (hbA : b3 < wA.heap.size) (hb : Below w.heap.size w w5) (hO : Own True (fun k => wA.heap.size ≤ k) 128 2 w1 w6.heap.size w6 v2' (ps.map Pk.d ++ [p.d])) (hg : w5.grownBy w6 v2.ownBlock)
  (hv : v2'.ownBlock = v2.ownBlock ∨ v2'.ownBlock = some w5.heap.size) : C1 w1 wA b3 m v1 v2' (ps ++ [p]) (w6.setCell ⟨b3, 2, none⟩ v2') ∧ w6.cell? ⟨b3, 2, none⟩ = some v2 ∧ w6.frozen? ⟨b3, 2, none⟩ = false := by
 have h5 := h.below hb
 have hAw : wA.heap.size ≤ w5.heap.size := h5.low.1
 obtain ⟨a1, a2, a3, a4, a5, a6, a7⟩ := h.f2.push hb hO hg hv hAw
 have hlow := a5 (fun k => k < wA.heap.size ∧ k ≠ b3) (fun k hk => by omega) (fun hk => hk.2 rfl)
 have hb5 := World.block_lt_of_cell? w5 _ h5.y3
 refine ⟨⟨a4, h5.low.trans hlow, a6 _ _ h5.y0 (by simp; omega) (by simp), a6 _ _ h5.y1 (by simp; omega) (by simp), a6 _ _ h5.y3 (by simp; omega) (by simp), (a7 _ hb5 (by simp; omega)).trans h5.z3, ?_⟩, a2, a3⟩
 rw [List.map_append]; exact a1
theorem C2.push {w1 wB w w5 w6 : World} {b3 : Nat} {m : Int} {v1 v2 v3 v3' : Value} {ts : List Tk} {t : Tk} (h : C2 w1 wB b3 m v1 v2 v3 ts w) (hbB : b3 < wB.heap.size) (hb : Below w.heap.size w w5) (hO : Own True (fun k => wB.heap.size ≤ k) 130 3 w1 w6.heap.size w6 v3' (ts.map Tk.d ++ [t.d])) (hg : w5.grownBy w6 v3.ownBlock)
  (hv : v3'.ownBlock = v3.ownBlock ∨ v3'.ownBlock = some w5.heap.size) : C2 w1 wB b3 m v1 v2 v3' (ts ++ [t]) (w6.setCell ⟨b3, 3, none⟩ v3') ∧ w6.cell? ⟨b3, 3, none⟩ = some v3 ∧ w6.frozen? ⟨b3, 3, none⟩ = false := by
 have h5 := h.below hb
 have hAw : wB.heap.size ≤ w5.heap.size := h5.low.1
 obtain ⟨a1, a2, a3, a4, a5, a6, a7⟩ := h.f3.push hb hO hg hv hAw
 have hlow := a5 (fun k => k < wB.heap.size ∧ k ≠ b3) (fun k hk => by omega) (fun hk => hk.2 rfl)
 refine ⟨⟨a4, h5.low.trans hlow, a6 _ _ h5.y0 (by simp; omega) (by simp), a6 _ _ h5.y1 (by simp; omega) (by simp), a6 _ _ h5.y2 (by simp; omega) (by simp), ?_⟩, a2, a3⟩
 rw [List.map_append]; exact a1
end Go.Proofs.Ytiblcpkejhiehaa

