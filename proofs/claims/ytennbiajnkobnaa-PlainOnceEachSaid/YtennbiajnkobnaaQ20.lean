/- Texts put together. -/
import Derived.Test.YtennbiajnkobnaaQ02
import Derived.Test.YtennbiajnkobnaaQ10
import Derived.Test.YtennbiajnkobnaaQ18
import Derived.Test.YtennbiajnkobnaaQ19
import Derived.BigQuiet
set_option linter.unusedSimpArgs false
namespace Go.Proofs.Ytennbiajnkobnaa
open Go.RowKit Go.PlainAid
def DocTake (L : Lks) (n : Int) (all : List St) (ws : List Int) (l : List Tk) (i : Nat) (t : Tk) : Prop := TakeGood L n all l i t ∧ Kept ws (stOf all t.next) t.src
structure TqAt (w : World) (bx bn bg : Nat) (m : Int) (a1 : Option Addr) (n1 c1 : Nat) (a2 : Option Addr) (n2 c2 : Nat) (a3 : Option Addr) (n3 c3 : Nat) (a4 : Option Addr) (n4 c4 : Nat) (N : Int) (ga : Option Addr) (ll gc : Nat) (s : St) (all : List St) (L : Lks) : Prop where
 x0 : w.cell? ⟨bx, 0, none⟩ = some (.int .i64 m)
 x1 : w.cell? ⟨bx, 1, none⟩ = some (.slice a1 n1 c1)
 x2 : w.cell? ⟨bx, 2, none⟩ = some (.slice a2 n2 c2)
 x3 : w.cell? ⟨bx, 3, none⟩ = some (.slice a3 n3 c3)
 nn : w.cell? ⟨bn, 1, none⟩ = some (.slice a4 n4 c4)
 g0 : w.cell? ⟨bg, 0, none⟩ = some (.int .i64 N)
 g1 : w.cell? ⟨bg, 1, none⟩ = some (.slice ga ll gc)
 ht : Has w (.slice a3 n3 c3) (dTakes s.takes)
 st : IsSt w s (.agg #[.int .i64 m, .slice a1 n1 c1, .slice a2 n2 c2, .slice a3 n3 c3])
 hs : Has w (.slice a4 n4 c4) (dStates all)
 hl : LinksAt w (.slice ga ll gc) L
theorem TqAt.below {w w' : World} {bx bn bg : Nat} {m : Int} {a1 : Option Addr} {n1 c1 : Nat} {a2 : Option Addr} {n2 c2 : Nat} {a3 : Option Addr} {n3 c3 : Nat} {a4 : Option Addr} {n4 c4 : Nat} {N : Int} {ga : Option Addr} {ll gc : Nat} {s : St} {all : List St} {L : Lks}
  (h : TqAt w bx bn bg m a1 n1 c1 a2 n2 c2 a3 n3 c3 a4 n4 c4 N ga ll gc s all L) (hb : Below w.heap.size w w') : TqAt w' bx bn bg m a1 n1 c1 a2 n2 c2 a3 n3 c3 a4 n4 c4 N ga ll gc s all L := by
 have k := fun (p : Addr) (v : Value) (e : w.cell? p = some v) => (hb.cell (World.block_lt_of_cell? w _ e)).trans e
 exact ⟨k _ _ h.x0, k _ _ h.x1, k _ _ h.x2, k _ _ h.x3, k _ _ h.nn, k _ _ h.g0, k _ _ h.g1, h.ht.later hb, h.st.later hb, h.hs.later hb, h.hl.below hb⟩
/-- The take's box. -/
structure TBox (w : World) (x : Nat) (q1 q2 q3 : Int) : Prop where
 y0 : w.cell? ⟨x, 0, none⟩ = some (.int .i64 q1)
 y1 : w.cell? ⟨x, 1, none⟩ = some (.int .i64 q2)
 y2 : w.cell? ⟨x, 2, none⟩ = some (.int .i64 q3)
theorem TBox.below {w w' : World} {x : Nat} {q1 q2 q3 : Int} (h : TBox w x q1 q2 q3) (hb : Below w.heap.size w w') : TBox w' x q1 q2 q3 := by
 have k := fun (p : Addr) (v : Value) (e : w.cell? p = some v) => (hb.cell (World.block_lt_of_cell? w _ e)).trans e
 exact ⟨k _ _ h.y0, k _ _ h.y1, k _ _ h.y2⟩
set_option maxHeartbeats 40000000 in
set_option maxRecDepth 100000 in
theorem rtakes_loop (L : Lks) (n : Int) (s : St) (m : Int) (a1 : Option Addr) (n1 c1 : Nat) (a2 : Option Addr) (n2 c2 : Nat) (a3 : Option Addr) (c3 : Nat) (start : Int) (all : List St) (a4 : Option Addr) (c4 : Nat) (N : Int) (g : Value) (r : Bool) (w : World)
  (hst : IsSt w s (.agg #[.int .i64 m, .slice a1 n1 c1, .slice a2 n2 c2, .slice a3 s.takes.length c3])) (ht : Has w (.slice a3 s.takes.length c3) (dTakes s.takes)) (hs : Has w (.slice a4 all.length c4) (dStates all)) (hg : LinksAt w g L) (hn : L.length ≤ 1000000)
  (hl6 : s.takes.length ≤ 1000000) (hw6 : s.waits.length ≤ 1000000) (hall : ∀ s ∈ all, s.waits.length ≤ 1000000) (hr : r = true ↔ ∀ (i : Nat) (t : Tk), s.takes[i]? = some t → DocTake L n all s.waits s.takes i t) :
  Calls Try.prog 39 #[.agg #[.int .i64 m, .slice a1 n1 c1, .slice a2 n2 c2, .slice a3 s.takes.length c3], .int .i64 n, .agg #[.int .i64 start, .slice a4 all.length c4], .agg #[.int .i64 N, g]] w fun e w' => e = .returned (.bool r) ∧ Below w.heap.size w w' := by
 obtain ⟨ga, gc, rfl⟩ := hg.at
 obtain ⟨ln, hln⟩ : ∃ ln, ln = s.takes.length := ⟨_, rfl⟩
 obtain ⟨ll, hll⟩ : ∃ ll, ll = L.length := ⟨_, rfl⟩
 obtain ⟨n4, hn4⟩ : ∃ n4, n4 = all.length := ⟨_, rfl⟩
 rw [← hln] at hst ht hl6 ⊢
 rw [← hll] at hg ⊢
 rw [← hn4] at hs ⊢
 obtain ⟨w1, hw1⟩ : ∃ w1, w1 = ((w.alloc (.cells #[.int .i64 m, .slice a1 n1 c1, .slice a2 n2 c2, .slice a3 ln c3] 99)).alloc (.cells #[.int .i64 start, .slice a4 n4 c4] 68)).alloc (.cells #[.int .i64 N, .slice ga ll gc] 35) := ⟨_, rfl⟩
 have gb : Below w.heap.size w w1 := by rw [hw1]; go_grown
 have hA : TqAt w1 w.heap.size (w.heap.size + 1) (w.heap.size + 1 + 1) m a1 n1 c1 a2 n2 c2 a3 ln c3 a4 n4 c4 N ga ll gc s all L := by
  refine ⟨?_, ?_, ?_, ?_, ?_, ?_, ?_, ht.later gb, hst.later gb, hs.later gb, hg.below gb⟩ <;> (rw [hw1]; go_cell)
 have A := Lib.hid hA
 have G := Lib.hid gb
 have Hr := Lib.hid hr
 have Hn := Lib.hid hn
 have Hall := Lib.hid hall
 have Ln := Lib.hid hln
 have LL := Lib.hid hll
 have N4 := Lib.hid hn4
 have Hw6 := Lib.hid hw6
 clear hst ht hs hg hr hn hA gb hln hll hn4 hall hw6
 go_enter Try.func39, Try.ntmps39
 try simp only [List.append_eq, List.cons_append, List.nil_append]
 go_wp2_with fail
 rw [← hw1]
 clear hw1
 try go_wp2_with fail
 go_loopw [9] (fun i wr => ∃ k : Nat, i = .int .i64 k ∧ k ≤ ln ∧ (∀ j t, j < k → s.takes[j]? = some t → DocTake L n all s.waits s.takes j t) ∧ Below w1.heap.size w1 wr) (fun i _ => ln - (intOf i).toNat)
 case atStart => exact ⟨0, rfl, by omega, fun j x hj => by omega, Below.refl _ _⟩
 case round =>
  obtain ⟨k, rfl, hk, hno, hbr⟩ := hrel
  obtain ⟨wo, hwo⟩ : ∃ wo, wo = wr := ⟨_, rfl⟩
  subst hwo
  have Hs := Lib.hid hno
  have R := Lib.hid hbr
  have hA2 := A.out.below hbr
  have BB := Lib.hid (below_step G.out.size G.out hbr)
  have q3 := hA2.x3
  clear hno hbr
  by_cases hlt : k < ln
  ·have hlt' : (k : Int) < ln := by omega
   obtain ⟨t, htk⟩ := some_of_lt (l := s.takes) (i := k) (by rw [← Ln.out]; exact hlt)
   obtain ⟨b, off, cap, e, hb, _, x0, x1, x2⟩ := tk_cells hA2.ht htk
   rw [← Ln.out] at e
   simp only [Value.slice.injEq] at e
   obtain ⟨e, _, e2⟩ := e
   subst e e2
   have Ht := Lib.hid htk
   obtain ⟨q1, q2, q3'⟩ := t
   simp only at x0 x1 x2
   have Bad : Hid (∀ P : Prop, (DocTake L n all s.waits s.takes k ⟨q1, q2, q3'⟩ → P) → ¬ P → r = false) := Lib.hid (fun P h hP => bool_no Hr.out (fun g => hP (h (g k _ Ht.out))))
   obtain ⟨w2, hw2⟩ : ∃ w2, w2 = wo.alloc (.cells #[.int .i64 q1, .int .i64 q2, .int .i64 q3'] 138) := ⟨_, rfl⟩
   have hb2 : Below wo.heap.size wo w2 := by rw [hw2]; exact below_new _ _
   have hA3 := hA2.below hb2
   have hTB : TBox w2 wo.heap.size q1 q2 q3' := by refine ⟨?_, ?_, ?_⟩ <;> (rw [hw2]; exact World.cell?_alloc_at _ _ _ _ rfl)
   have T := Lib.hid (hA3.below (below_drewN (Below.refl _ w2) 1))
   have Y := Lib.hid (hTB.below (below_drewN (Below.refl _ w2) 1))
   have TB : Hid (Below wo.heap.size wo w2.drew) := Lib.hid (below_drewN hb2 1)
   have TS : Hid (wo.heap.size ≤ w2.drew.heap.size) := Lib.hid hb2.size
   obtain ⟨fq, hfq⟩ : ∃ fq, fq = findL L (q1, n) := ⟨_, rfl⟩
   have Hfq := Lib.hid hfq
   clear htk hb2 hA3 hTB hfq
   by_cases hm' : (q1, n) ∈ L
   ·have hq0 : ¬ fq < 0 := by rw [Hfq.out]; exact fun h => (findL_neg.1 h) hm'
    have hq0' : decide (fq < 0) = false := by simp; omega
    by_cases hc0 : q2 < 0
    ·have hc0' : decide (q2 < 0) = true := by simpa using hc0
     have Hf := Lib.hid (Bad.out _ (fun h => h.1.1.2.1) (by simp; omega))
     clear hm' hA2
     go_wp2_with fail
     rw [← hw2]
     clear hw2
     refine wp_region_held_drew (S := (fun w' => w'.cell? ⟨w.heap.size, 0, none⟩ = some (.int .i64 m) ∧ w'.cell? ⟨w.heap.size, 1, none⟩ = some (.slice a1 n1 c1) ∧ w'.cell? ⟨w.heap.size, 2, none⟩ = some (.slice a2 n2 c2) ∧ w'.cell? ⟨w.heap.size, 3, none⟩ = some (.slice (some ⟨b, off, none⟩) ln c3) ∧ w'.cell? ⟨w.heap.size + 1, 1, none⟩ = some (.slice a4 n4 c4) ∧ w'.cell? ⟨w.heap.size + 1 + 1, 0, none⟩ = some (.int .i64 N) ∧ w'.cell? ⟨w.heap.size + 1 + 1, 1, none⟩ = some (.slice ga ll gc) ∧ w'.cell? ⟨wo.heap.size, 0, none⟩ = some (.int .i64 q1) ∧ w'.cell? ⟨wo.heap.size, 1, none⟩ = some (.int .i64 q2) ∧ w'.cell? ⟨wo.heap.size, 2, none⟩ = some (.int .i64 q3'))) (by kernel_rfl) ?_ (fun hHeld => ?_)
     ·exact ⟨T.out.x0, T.out.x1, T.out.x2, T.out.x3, T.out.nn, T.out.g0, T.out.g1, Y.out.y0, Y.out.y1, Y.out.y2⟩
     refine tq 0 ?_
     refine tq 1 ?_
     refine tq 2 ?_
     refine tq 3 ?_
     refine rd 4 fun K hK => ?_
     go_simp
     refine (rfind_at N q1 n _ L fq _ T.out.hl Hn.out Hfq.out).mono ?_
     rintro e wn ⟨rfl, hbn⟩
     have T := Lib.hid (T.out.below hbn)
     have Y := Lib.hid (Y.out.below hbn)
     have TB := Lib.hid (below_step (by exact TS.out) TB.out hbn)
     have TS := Lib.hid (Nat.le_trans TS.out hbn.size)
     clear hbn
     go_wp2_with fail
     refine hK.out _ _ ?_ (fun hHeld => ?_)
     ·exact ⟨T.out.x0, T.out.x1, T.out.x2, T.out.x3, T.out.nn, T.out.g0, T.out.g1, Y.out.y0, Y.out.y1, Y.out.y2⟩
     clear hK K
     try simp only [Act.put, List.getElem_toArray, List.getElem_cons_zero, List.getElem_cons_succ, List.setIfInBounds_toArray, List.set_cons_zero, List.set_cons_succ]
     refine tq 5 ?_
     refine tq 6 ?_
     refine tq 7 ?_
     refine tq 8 ?_
     refine tq 9 ?_
     refine tq 10 ?_
     refine tq 11 ?_
     refine tq0 12 ?_
     refine tq0 13 ?_
     refine tq0 14 ?_
     refine tq 15 ?_
     refine tq 16 ?_
     refine tq0 17 ?_
     refine tq0 18 ?_
     refine tq0 19 ?_
     refine tq 20 ?_
     refine tq 21 ?_
     refine tq0 22 ?_
     refine tq0 23 ?_
     refine tq0 24 ?_
     refine tq0 25 ?_
     refine tq0 26 ?_
     refine tq0 27 ?_
     refine tq 28 ?_
     refine tq 29 ?_
     refine tq0 30 ?_
     refine tq0 31 ?_
     refine tq0 32 ?_
     refine tq0 33 ?_
     refine tq0 34 ?_
     refine tq0 35 ?_
     refine tq0 36 ?_
     refine tq0 37 ?_
     refine tq0 38 ?_
     refine tq0 39 ?_
     refine tq0 40 ?_
     refine tq 41 ?_
     refine wpAnyH_done (by kernel_rfl) ?_ _
     go_wp2_with fail
     go_ret
     exact ⟨by rw [Hf.out]; rfl, below_step BB.out.size BB.out TB.out⟩
    ·have hc0' : decide (q2 < 0) = false := by simpa using hc0
     by_cases hc3 : 3 < q2
     ·have hc3' : decide (3 < q2) = true := by simpa using hc3
      have Hf := Lib.hid (Bad.out _ (fun h => h.1.1.2.2) (by simp; omega))
      clear hm' hA2
      go_wp2_with fail
      rw [← hw2]
      clear hw2
      refine wp_region_held_drew (S := (fun w' => w'.cell? ⟨w.heap.size, 0, none⟩ = some (.int .i64 m) ∧ w'.cell? ⟨w.heap.size, 1, none⟩ = some (.slice a1 n1 c1) ∧ w'.cell? ⟨w.heap.size, 2, none⟩ = some (.slice a2 n2 c2) ∧ w'.cell? ⟨w.heap.size, 3, none⟩ = some (.slice (some ⟨b, off, none⟩) ln c3) ∧ w'.cell? ⟨w.heap.size + 1, 1, none⟩ = some (.slice a4 n4 c4) ∧ w'.cell? ⟨w.heap.size + 1 + 1, 0, none⟩ = some (.int .i64 N) ∧ w'.cell? ⟨w.heap.size + 1 + 1, 1, none⟩ = some (.slice ga ll gc) ∧ w'.cell? ⟨wo.heap.size, 0, none⟩ = some (.int .i64 q1) ∧ w'.cell? ⟨wo.heap.size, 1, none⟩ = some (.int .i64 q2) ∧ w'.cell? ⟨wo.heap.size, 2, none⟩ = some (.int .i64 q3'))) (by kernel_rfl) ?_ (fun hHeld => ?_)
      ·exact ⟨T.out.x0, T.out.x1, T.out.x2, T.out.x3, T.out.nn, T.out.g0, T.out.g1, Y.out.y0, Y.out.y1, Y.out.y2⟩
      refine tq 0 ?_
      refine tq 1 ?_
      refine tq 2 ?_
      refine tq 3 ?_
      refine rd 4 fun K hK => ?_
      go_simp
      refine (rfind_at N q1 n _ L fq _ T.out.hl Hn.out Hfq.out).mono ?_
      rintro e wn ⟨rfl, hbn⟩
      have T := Lib.hid (T.out.below hbn)
      have Y := Lib.hid (Y.out.below hbn)
      have TB := Lib.hid (below_step (by exact TS.out) TB.out hbn)
      have TS := Lib.hid (Nat.le_trans TS.out hbn.size)
      clear hbn
      go_wp2_with fail
      refine hK.out _ _ ?_ (fun hHeld => ?_)
      ·exact ⟨T.out.x0, T.out.x1, T.out.x2, T.out.x3, T.out.nn, T.out.g0, T.out.g1, Y.out.y0, Y.out.y1, Y.out.y2⟩
      clear hK K
      try simp only [Act.put, List.getElem_toArray, List.getElem_cons_zero, List.getElem_cons_succ, List.setIfInBounds_toArray, List.set_cons_zero, List.set_cons_succ]
      refine tq 5 ?_
      refine tq 6 ?_
      refine tq 7 ?_
      refine tq 8 ?_
      refine tq 9 ?_
      refine tq 10 ?_
      refine tq 11 ?_
      refine tq 12 ?_
      refine tq 13 ?_
      refine tq 14 ?_
      refine tq 15 ?_
      refine tq 16 ?_
      refine tq0 17 ?_
      refine tq0 18 ?_
      refine tq0 19 ?_
      refine tq 20 ?_
      refine tq 21 ?_
      refine tq0 22 ?_
      refine tq0 23 ?_
      refine tq0 24 ?_
      refine tq0 25 ?_
      refine tq0 26 ?_
      refine tq0 27 ?_
      refine tq 28 ?_
      refine tq 29 ?_
      refine tq0 30 ?_
      refine tq0 31 ?_
      refine tq0 32 ?_
      refine tq0 33 ?_
      refine tq0 34 ?_
      refine tq0 35 ?_
      refine tq0 36 ?_
      refine tq0 37 ?_
      refine tq0 38 ?_
      refine tq0 39 ?_
      refine tq0 40 ?_
      refine tq 41 ?_
      refine wpAnyH_done (by kernel_rfl) ?_ _
      go_wp2_with fail
      go_ret
      exact ⟨by rw [Hf.out]; rfl, below_step BB.out.size BB.out TB.out⟩
     ·have hc3' : decide (3 < q2) = false := by simpa using hc3
      have Hg : Hid (Goes L q1 n q2) := Lib.hid ⟨hm', by omega, by omega⟩
      clear hm'
      by_cases hs0 : q3' < 0
      ·have hs0' : decide (q3' < 0) = true := by simpa using hs0
       have Hf := Lib.hid (Bad.out _ (fun h => h.1.2.1.1) (by simp; omega))
       clear hA2
       go_wp2_with fail
       rw [← hw2]
       clear hw2
       refine wp_region_held_drew (S := (fun w' => w'.cell? ⟨w.heap.size, 0, none⟩ = some (.int .i64 m) ∧ w'.cell? ⟨w.heap.size, 1, none⟩ = some (.slice a1 n1 c1) ∧ w'.cell? ⟨w.heap.size, 2, none⟩ = some (.slice a2 n2 c2) ∧ w'.cell? ⟨w.heap.size, 3, none⟩ = some (.slice (some ⟨b, off, none⟩) ln c3) ∧ w'.cell? ⟨w.heap.size + 1, 1, none⟩ = some (.slice a4 n4 c4) ∧ w'.cell? ⟨w.heap.size + 1 + 1, 0, none⟩ = some (.int .i64 N) ∧ w'.cell? ⟨w.heap.size + 1 + 1, 1, none⟩ = some (.slice ga ll gc) ∧ w'.cell? ⟨wo.heap.size, 0, none⟩ = some (.int .i64 q1) ∧ w'.cell? ⟨wo.heap.size, 1, none⟩ = some (.int .i64 q2) ∧ w'.cell? ⟨wo.heap.size, 2, none⟩ = some (.int .i64 q3'))) (by kernel_rfl) ?_ (fun hHeld => ?_)
       ·exact ⟨T.out.x0, T.out.x1, T.out.x2, T.out.x3, T.out.nn, T.out.g0, T.out.g1, Y.out.y0, Y.out.y1, Y.out.y2⟩
       refine tq 0 ?_
       refine tq 1 ?_
       refine tq 2 ?_
       refine tq 3 ?_
       refine rd 4 fun K hK => ?_
       go_simp
       refine (rfind_at N q1 n _ L fq _ T.out.hl Hn.out Hfq.out).mono ?_
       rintro e wn ⟨rfl, hbn⟩
       have T := Lib.hid (T.out.below hbn)
       have Y := Lib.hid (Y.out.below hbn)
       have TB := Lib.hid (below_step (by exact TS.out) TB.out hbn)
       have TS := Lib.hid (Nat.le_trans TS.out hbn.size)
       clear hbn
       go_wp2_with fail
       refine hK.out _ _ ?_ (fun hHeld => ?_)
       ·exact ⟨T.out.x0, T.out.x1, T.out.x2, T.out.x3, T.out.nn, T.out.g0, T.out.g1, Y.out.y0, Y.out.y1, Y.out.y2⟩
       clear hK K
       try simp only [Act.put, List.getElem_toArray, List.getElem_cons_zero, List.getElem_cons_succ, List.setIfInBounds_toArray, List.set_cons_zero, List.set_cons_succ]
       refine tq 5 ?_
       refine tq 6 ?_
       refine tq 7 ?_
       refine tq 8 ?_
       refine tq 9 ?_
       refine tq 10 ?_
       refine tq 11 ?_
       refine tq 12 ?_
       refine tq 13 ?_
       refine tq 14 ?_
       refine tq 15 ?_
       refine tq 16 ?_
       refine tq 17 ?_
       refine tq 18 ?_
       refine tq 19 ?_
       refine tq 20 ?_
       refine tq 21 ?_
       refine tq0 22 ?_
       refine tq0 23 ?_
       refine tq0 24 ?_
       refine tq0 25 ?_
       refine tq0 26 ?_
       refine tq0 27 ?_
       refine tq 28 ?_
       refine tq 29 ?_
       refine tq0 30 ?_
       refine tq0 31 ?_
       refine tq0 32 ?_
       refine tq0 33 ?_
       refine tq0 34 ?_
       refine tq0 35 ?_
       refine tq0 36 ?_
       refine tq0 37 ?_
       refine tq0 38 ?_
       refine tq0 39 ?_
       refine tq0 40 ?_
       refine tq 41 ?_
       refine wpAnyH_done (by kernel_rfl) ?_ _
       go_wp2_with fail
       go_ret
       exact ⟨by rw [Hf.out]; rfl, below_step BB.out.size BB.out TB.out⟩
      ·have hs0' : decide (q3' < 0) = false := by simpa using hs0
       by_cases hs1 : (n4 : Int) ≤ q3'
       ·have hs1' : decide ((n4 : Int) ≤ q3') = true := by simpa using hs1
        have Hf := Lib.hid (Bad.out _ (fun h => h.1.2.1.2) (by rw [← N4.out]; simp; omega))
        clear hA2
        go_wp2_with fail
        rw [← hw2]
        clear hw2
        refine wp_region_held_drew (S := (fun w' => w'.cell? ⟨w.heap.size, 0, none⟩ = some (.int .i64 m) ∧ w'.cell? ⟨w.heap.size, 1, none⟩ = some (.slice a1 n1 c1) ∧ w'.cell? ⟨w.heap.size, 2, none⟩ = some (.slice a2 n2 c2) ∧ w'.cell? ⟨w.heap.size, 3, none⟩ = some (.slice (some ⟨b, off, none⟩) ln c3) ∧ w'.cell? ⟨w.heap.size + 1, 1, none⟩ = some (.slice a4 n4 c4) ∧ w'.cell? ⟨w.heap.size + 1 + 1, 0, none⟩ = some (.int .i64 N) ∧ w'.cell? ⟨w.heap.size + 1 + 1, 1, none⟩ = some (.slice ga ll gc) ∧ w'.cell? ⟨wo.heap.size, 0, none⟩ = some (.int .i64 q1) ∧ w'.cell? ⟨wo.heap.size, 1, none⟩ = some (.int .i64 q2) ∧ w'.cell? ⟨wo.heap.size, 2, none⟩ = some (.int .i64 q3'))) (by kernel_rfl) ?_ (fun hHeld => ?_)
        ·exact ⟨T.out.x0, T.out.x1, T.out.x2, T.out.x3, T.out.nn, T.out.g0, T.out.g1, Y.out.y0, Y.out.y1, Y.out.y2⟩
        refine tq 0 ?_
        refine tq 1 ?_
        refine tq 2 ?_
        refine tq 3 ?_
        refine rd 4 fun K hK => ?_
        go_simp
        refine (rfind_at N q1 n _ L fq _ T.out.hl Hn.out Hfq.out).mono ?_
        rintro e wn ⟨rfl, hbn⟩
        have T := Lib.hid (T.out.below hbn)
        have Y := Lib.hid (Y.out.below hbn)
        have TB := Lib.hid (below_step (by exact TS.out) TB.out hbn)
        have TS := Lib.hid (Nat.le_trans TS.out hbn.size)
        clear hbn
        go_wp2_with fail
        refine hK.out _ _ ?_ (fun hHeld => ?_)
        ·exact ⟨T.out.x0, T.out.x1, T.out.x2, T.out.x3, T.out.nn, T.out.g0, T.out.g1, Y.out.y0, Y.out.y1, Y.out.y2⟩
        clear hK K
        try simp only [Act.put, List.getElem_toArray, List.getElem_cons_zero, List.getElem_cons_succ, List.setIfInBounds_toArray, List.set_cons_zero, List.set_cons_succ]
        refine tq 5 ?_
        refine tq 6 ?_
        refine tq 7 ?_
        refine tq 8 ?_
        refine tq 9 ?_
        refine tq 10 ?_
        refine tq 11 ?_
        refine tq 12 ?_
        refine tq 13 ?_
        refine tq 14 ?_
        refine tq 15 ?_
        refine tq 16 ?_
        refine tq 17 ?_
        refine tq 18 ?_
        refine tq 19 ?_
        refine tq 20 ?_
        refine tq 21 ?_
        refine tq 22 ?_
        refine tq 23 ?_
        refine tq 24 ?_
        refine tq 25 ?_
        refine tq 26 ?_
        refine tq 27 ?_
        refine tq 28 ?_
        refine tq 29 ?_
        refine tq0 30 ?_
        refine tq0 31 ?_
        refine tq0 32 ?_
        refine tq0 33 ?_
        refine tq0 34 ?_
        refine tq0 35 ?_
        refine tq0 36 ?_
        refine tq0 37 ?_
        refine tq0 38 ?_
        refine tq0 39 ?_
        refine tq0 40 ?_
        refine tq 41 ?_
        refine wpAnyH_done (by kernel_rfl) ?_ _
        go_wp2_with fail
        go_ret
        exact ⟨by rw [Hf.out]; rfl, below_step BB.out.size BB.out TB.out⟩
       ·obtain ⟨nx, hnx⟩ := Int.eq_ofNat_of_zero_le (show 0 ≤ q3' by omega)
        subst hnx
        have hs1' : decide ((n4 : Int) ≤ (nx : Int)) = false := by simpa using hs1
        have hs2 : (nx : Int) < n4 := by omega
        have hs3 : nx < n4 := by omega
        have hs1n : decide (n4 ≤ nx) = false := by simp; omega
        obtain ⟨sto, hto⟩ := some_of_lt (l := all) (i := nx) (by rw [← N4.out]; exact hs3)
        obtain ⟨b4, o4, cap4, m', d1, k1, f1, d2, k2, f2, d3, k3, f3, e, hb4, hE, hX⟩ := ebox_of hA2.hs hto
        clear hX
        rw [← N4.out] at e
        simp only [Value.slice.injEq] at e
        obtain ⟨e, _, e2⟩ := e
        subst e e2
        have E := Lib.hid (hE.below (TB.out))
        have Ys : Hid (HasS all nx) := Lib.hid ⟨by omega, by rw [← N4.out]; omega⟩
        have Hto := Lib.hid hto
        have To : Hid (stOf all nx = sto) := Lib.hid (by unfold stOf; simp [List.getD, hto])
        have Ht6 := Lib.hid (Hall.out sto (List.mem_of_getElem? hto))
        clear hE hto hA2
        by_cases hkp : Kept s.waits sto q1
        ·have Hkp := Lib.hid hkp
         clear hkp
         go_wp2_with fail
         rw [← hw2]
         clear hw2
         refine wp_region_held_drew (S := (fun w' => w'.cell? ⟨w.heap.size, 0, none⟩ = some (.int .i64 m) ∧ w'.cell? ⟨w.heap.size, 1, none⟩ = some (.slice a1 n1 c1) ∧ w'.cell? ⟨w.heap.size, 2, none⟩ = some (.slice a2 n2 c2) ∧ w'.cell? ⟨w.heap.size, 3, none⟩ = some (.slice (some ⟨b, off, none⟩) ln c3) ∧ w'.cell? ⟨w.heap.size + 1, 1, none⟩ = some (.slice (some ⟨b4, o4, none⟩) n4 c4) ∧ w'.cell? ⟨w.heap.size + 1 + 1, 0, none⟩ = some (.int .i64 N) ∧ w'.cell? ⟨w.heap.size + 1 + 1, 1, none⟩ = some (.slice ga ll gc) ∧ w'.cell? ⟨wo.heap.size, 0, none⟩ = some (.int .i64 q1) ∧ w'.cell? ⟨wo.heap.size, 1, none⟩ = some (.int .i64 q2) ∧ w'.cell? ⟨wo.heap.size, 2, none⟩ = some (.int .i64 nx) ∧ w'.cell? ⟨b4, o4 + nx * 4, none⟩ = some (.int .i64 m') ∧ w'.cell? ⟨b4, o4 + nx * 4 + 1, none⟩ = some (.slice d1 k1 f1) ∧ w'.cell? ⟨b4, o4 + nx * 4 + 2, none⟩ = some (.slice d2 k2 f2) ∧ w'.cell? ⟨b4, o4 + nx * 4 + 3, none⟩ = some (.slice d3 k3 f3))) (by kernel_rfl) ?_ (fun hHeld => ?_)
         ·exact ⟨T.out.x0, T.out.x1, T.out.x2, T.out.x3, T.out.nn, T.out.g0, T.out.g1, Y.out.y0, Y.out.y1, Y.out.y2, E.out.e0, E.out.e1, E.out.e2, E.out.e3⟩
         refine tq 0 ?_
         refine tq 1 ?_
         refine tq 2 ?_
         refine tq 3 ?_
         refine rd 4 fun K hK => ?_
         go_simp
         refine (rfind_at N q1 n _ L fq _ T.out.hl Hn.out Hfq.out).mono ?_
         rintro e wn ⟨rfl, hbn⟩
         have T := Lib.hid (T.out.below hbn)
         have Y := Lib.hid (Y.out.below hbn)
         have TB := Lib.hid (below_step (by exact TS.out) TB.out hbn)
         have TS := Lib.hid (Nat.le_trans TS.out hbn.size)
         have E := Lib.hid (E.out.below hbn)
         clear hbn
         go_wp2_with fail
         refine hK.out _ _ ?_ (fun hHeld => ?_)
         ·exact ⟨T.out.x0, T.out.x1, T.out.x2, T.out.x3, T.out.nn, T.out.g0, T.out.g1, Y.out.y0, Y.out.y1, Y.out.y2, E.out.e0, E.out.e1, E.out.e2, E.out.e3⟩
         clear hK K
         try simp only [Act.put, List.getElem_toArray, List.getElem_cons_zero, List.getElem_cons_succ, List.setIfInBounds_toArray, List.set_cons_zero, List.set_cons_succ]
         refine tq 5 ?_
         refine tq 6 ?_
         refine tq 7 ?_
         refine tq 8 ?_
         refine tq 9 ?_
         refine tq 10 ?_
         refine tq 11 ?_
         refine tq 12 ?_
         refine tq 13 ?_
         refine tq 14 ?_
         refine tq 15 ?_
         refine tq 16 ?_
         refine tq 17 ?_
         refine tq 18 ?_
         refine tq 19 ?_
         refine tq 20 ?_
         refine tq 21 ?_
         refine tq 22 ?_
         refine tq 23 ?_
         refine tq 24 ?_
         refine tq 25 ?_
         refine tq 26 ?_
         refine tq 27 ?_
         refine tq 28 ?_
         refine tq 29 ?_
         refine tq 30 ?_
         refine tq 31 ?_
         refine tq 32 ?_
         refine tq 33 ?_
         refine tq 34 ?_
         refine tq 35 ?_
         refine tq 36 ?_
         refine tq 37 ?_
         refine tq 38 ?_
         refine rd 39 fun K hK => ?_
         go_simp
         refine (rkept_at s sto _ _ q1 true _ T.out.st E.out.st Hw6.out Ht6.out ⟨fun _ => Hkp.out, fun _ => rfl⟩).mono ?_
         rintro e wm ⟨rfl, hbn⟩
         have T := Lib.hid (T.out.below hbn)
         have Y := Lib.hid (Y.out.below hbn)
         have TB := Lib.hid (below_step (by exact TS.out) TB.out hbn)
         have TS := Lib.hid (Nat.le_trans TS.out hbn.size)
         have E := Lib.hid (E.out.below hbn)
         clear hbn
         go_wp2_with fail
         refine hK.out _ _ ?_ (fun hHeld => ?_)
         ·exact ⟨T.out.x0, T.out.x1, T.out.x2, T.out.x3, T.out.nn, T.out.g0, T.out.g1, Y.out.y0, Y.out.y1, Y.out.y2, E.out.e0, E.out.e1, E.out.e2, E.out.e3⟩
         clear hK K
         try simp only [Act.put, List.getElem_toArray, List.getElem_cons_zero, List.getElem_cons_succ, List.setIfInBounds_toArray, List.set_cons_zero, List.set_cons_succ]
         refine tq 40 ?_
         refine tq 41 ?_
         refine wpAnyH_done (by kernel_rfl) ?_ _
         have v3 := T.out.x3
         have v0 := Y.out.y0
         have v1 := Y.out.y1
         go_wp2_with fail
         go_loopw [11] (fun i wq => ∃ k2 : Nat, i = .int .i64 k2 ∧ k2 ≤ k ∧ (∀ (j : Nat) (u : Tk), j < k2 → s.takes[j]? = some u → ¬ (u.src = q1 ∧ u.letter = q2)) ∧ Below wm.heap.size wm wq) (fun i _ => k - (intOf i).toNat)
         case atStart => exact ⟨0, rfl, by omega, fun j x hj => by omega, Below.refl _ _⟩
         case round =>
          obtain ⟨kk, rfl, hk2, hno2, hbr2⟩ := hrel
          have Hs2 := Lib.hid hno2
          have T0 := Lib.hid hbr2
          have hT4 := T.out.below hbr2
          have hY4 := Y.out.below hbr2
          have v3' := hT4.x3
          have v0' := hY4.y0
          have v1' := hY4.y1
          have BT := Lib.hid (below_step TS.out TB.out hbr2)
          clear hno2 hbr2
          by_cases hlt2 : kk < k
          ·have hlt2' : (kk : Int) < k := by omega
           have hlt3 : (kk : Int) < ln := by omega
           have hlt4 : kk < ln := by omega
           obtain ⟨u, hu⟩ := some_of_lt (l := s.takes) (i := kk) (by rw [← Ln.out]; omega)
           obtain ⟨b', o', cap', e, _, _, p0, p1, _⟩ := tk_cells hT4.ht hu
           rw [← Ln.out] at e
           simp only [Value.slice.injEq, Option.some.injEq, Addr.mk.injEq] at e
           obtain ⟨⟨rfl, rfl, _⟩, _, rfl⟩ := e
           have Hu := Lib.hid hu
           obtain ⟨u1, u2, u3⟩ := u
           simp only at p0 p1
           clear hu hT4 hY4
           by_cases hy1 : u1 = q1
           ·have hy1' : (u1 == q1) = true := by simpa using hy1
            by_cases hy2 : u2 = q2
            ·have hy2' : (u2 == q2) = true := by simpa using hy2
             have Hf := Lib.hid (Bad.out _ (fun h => h.1.2.2 kk _ hlt2 Hu.out) (fun h => h ⟨hy1, hy2⟩))
             clear hy1 hy2
             go_wp2_with fail
             go_quiet (fail)
             go_wp2_with fail
             go_ret
             exact ⟨by rw [Hf.out]; rfl, below_drewN (below_step BB.out.size BB.out BT.out) _⟩
            ·have hy2' : (u2 == q2) = false := by simpa using hy2
             have Hne := Lib.hid hy2
             clear hy1 hy2
             go_wp2_with fail
             go_quiet (fail)
             go_wp2_with fail
             go_roundw
             case rel =>
              refine ⟨kk + 1, by go_num, by omega, fun j y hj hy => ?_, below_drewN T0.out _⟩
              by_cases hjk : j < kk
              ·exact Hs2.out j y hjk hy
              ·obtain rfl : j = kk := by omega
               rw [Hu.out] at hy
               cases hy
               exact fun h => Hne.out h.2
             case measure => simp [intOf]; omega
           ·have hy1' : (u1 == q1) = false := by simpa using hy1
            have Hne := Lib.hid hy1
            clear hy1
            go_wp2_with fail
            go_quiet (fail)
            go_wp2_with fail
            go_roundw
            case rel =>
             refine ⟨kk + 1, by go_num, by omega, fun j y hj hy => ?_, below_drewN T0.out _⟩
             by_cases hjk : j < kk
             ·exact Hs2.out j y hjk hy
             ·obtain rfl : j = kk := by omega
              rw [Hu.out] at hy
              cases hy
              exact fun h => Hne.out h.1
            case measure => simp [intOf]; omega
          ·have hlt2' : ¬ (kk : Int) < k := by omega
           obtain rfl : kk = k := by omega
           clear hT4 hY4
           go_wp2_with fail
           go_roundw
           case rel =>
            refine ⟨kk + 1, by go_num, by omega, fun j y hj hy => ?_, below_step R.out.size R.out BT.out⟩
            by_cases hjk : j < kk
            ·exact Hs.out j y hjk hy
            ·obtain rfl : j = kk := by omega
             rw [Ht.out] at hy
             cases hy
             exact ⟨⟨Hg.out, Ys.out, fun j' u hj' hu => Hs2.out j' u hj' hu⟩, by rw [show stOf all (nx : Int) = sto from To.out]; exact Hkp.out⟩
           case measure => simp [intOf]; omega
        ·have Hkp := Lib.hid hkp
         have Hf := Lib.hid (Bad.out _ (fun h => h.2) (by show ¬ Kept s.waits (stOf all (nx : Int)) q1; rw [To.out]; exact hkp))
         clear hkp
         go_wp2_with fail
         rw [← hw2]
         clear hw2
         refine wp_region_held_drew (S := (fun w' => w'.cell? ⟨w.heap.size, 0, none⟩ = some (.int .i64 m) ∧ w'.cell? ⟨w.heap.size, 1, none⟩ = some (.slice a1 n1 c1) ∧ w'.cell? ⟨w.heap.size, 2, none⟩ = some (.slice a2 n2 c2) ∧ w'.cell? ⟨w.heap.size, 3, none⟩ = some (.slice (some ⟨b, off, none⟩) ln c3) ∧ w'.cell? ⟨w.heap.size + 1, 1, none⟩ = some (.slice (some ⟨b4, o4, none⟩) n4 c4) ∧ w'.cell? ⟨w.heap.size + 1 + 1, 0, none⟩ = some (.int .i64 N) ∧ w'.cell? ⟨w.heap.size + 1 + 1, 1, none⟩ = some (.slice ga ll gc) ∧ w'.cell? ⟨wo.heap.size, 0, none⟩ = some (.int .i64 q1) ∧ w'.cell? ⟨wo.heap.size, 1, none⟩ = some (.int .i64 q2) ∧ w'.cell? ⟨wo.heap.size, 2, none⟩ = some (.int .i64 nx) ∧ w'.cell? ⟨b4, o4 + nx * 4, none⟩ = some (.int .i64 m') ∧ w'.cell? ⟨b4, o4 + nx * 4 + 1, none⟩ = some (.slice d1 k1 f1) ∧ w'.cell? ⟨b4, o4 + nx * 4 + 2, none⟩ = some (.slice d2 k2 f2) ∧ w'.cell? ⟨b4, o4 + nx * 4 + 3, none⟩ = some (.slice d3 k3 f3))) (by kernel_rfl) ?_ (fun hHeld => ?_)
         ·exact ⟨T.out.x0, T.out.x1, T.out.x2, T.out.x3, T.out.nn, T.out.g0, T.out.g1, Y.out.y0, Y.out.y1, Y.out.y2, E.out.e0, E.out.e1, E.out.e2, E.out.e3⟩
         refine tq 0 ?_
         refine tq 1 ?_
         refine tq 2 ?_
         refine tq 3 ?_
         refine rd 4 fun K hK => ?_
         go_simp
         refine (rfind_at N q1 n _ L fq _ T.out.hl Hn.out Hfq.out).mono ?_
         rintro e wn ⟨rfl, hbn⟩
         have T := Lib.hid (T.out.below hbn)
         have Y := Lib.hid (Y.out.below hbn)
         have TB := Lib.hid (below_step (by exact TS.out) TB.out hbn)
         have TS := Lib.hid (Nat.le_trans TS.out hbn.size)
         have E := Lib.hid (E.out.below hbn)
         clear hbn
         go_wp2_with fail
         refine hK.out _ _ ?_ (fun hHeld => ?_)
         ·exact ⟨T.out.x0, T.out.x1, T.out.x2, T.out.x3, T.out.nn, T.out.g0, T.out.g1, Y.out.y0, Y.out.y1, Y.out.y2, E.out.e0, E.out.e1, E.out.e2, E.out.e3⟩
         clear hK K
         try simp only [Act.put, List.getElem_toArray, List.getElem_cons_zero, List.getElem_cons_succ, List.setIfInBounds_toArray, List.set_cons_zero, List.set_cons_succ]
         refine tq 5 ?_
         refine tq 6 ?_
         refine tq 7 ?_
         refine tq 8 ?_
         refine tq 9 ?_
         refine tq 10 ?_
         refine tq 11 ?_
         refine tq 12 ?_
         refine tq 13 ?_
         refine tq 14 ?_
         refine tq 15 ?_
         refine tq 16 ?_
         refine tq 17 ?_
         refine tq 18 ?_
         refine tq 19 ?_
         refine tq 20 ?_
         refine tq 21 ?_
         refine tq 22 ?_
         refine tq 23 ?_
         refine tq 24 ?_
         refine tq 25 ?_
         refine tq 26 ?_
         refine tq 27 ?_
         refine tq 28 ?_
         refine tq 29 ?_
         refine tq 30 ?_
         refine tq 31 ?_
         refine tq 32 ?_
         refine tq 33 ?_
         refine tq 34 ?_
         refine tq 35 ?_
         refine tq 36 ?_
         refine tq 37 ?_
         refine tq 38 ?_
         refine rd 39 fun K hK => ?_
         go_simp
         refine (rkept_at s sto _ _ q1 false _ T.out.st E.out.st Hw6.out Ht6.out ⟨fun h => (by cases h), fun h => absurd h Hkp.out⟩).mono ?_
         rintro e wn ⟨rfl, hbn⟩
         have T := Lib.hid (T.out.below hbn)
         have Y := Lib.hid (Y.out.below hbn)
         have TB := Lib.hid (below_step (by exact TS.out) TB.out hbn)
         have TS := Lib.hid (Nat.le_trans TS.out hbn.size)
         have E := Lib.hid (E.out.below hbn)
         clear hbn
         go_wp2_with fail
         refine hK.out _ _ ?_ (fun hHeld => ?_)
         ·exact ⟨T.out.x0, T.out.x1, T.out.x2, T.out.x3, T.out.nn, T.out.g0, T.out.g1, Y.out.y0, Y.out.y1, Y.out.y2, E.out.e0, E.out.e1, E.out.e2, E.out.e3⟩
         clear hK K
         try simp only [Act.put, List.getElem_toArray, List.getElem_cons_zero, List.getElem_cons_succ, List.setIfInBounds_toArray, List.set_cons_zero, List.set_cons_succ]
         refine tq 40 ?_
         refine tq 41 ?_
         refine wpAnyH_done (by kernel_rfl) ?_ _
         go_wp2_with fail
         go_ret
         exact ⟨by rw [Hf.out]; rfl, below_step BB.out.size BB.out TB.out⟩
   ·have hq0 : fq < 0 := by rw [Hfq.out]; exact findL_neg.2 hm'
    have hq0' : decide (fq < 0) = true := by simp; omega
    have Hf := Lib.hid (Bad.out _ (fun h => h.1.1.1) hm')
    clear hm' hA2
    go_wp2_with fail
    rw [← hw2]
    clear hw2
    refine wp_region_held_drew (S := (fun w' => w'.cell? ⟨w.heap.size, 0, none⟩ = some (.int .i64 m) ∧ w'.cell? ⟨w.heap.size, 1, none⟩ = some (.slice a1 n1 c1) ∧ w'.cell? ⟨w.heap.size, 2, none⟩ = some (.slice a2 n2 c2) ∧ w'.cell? ⟨w.heap.size, 3, none⟩ = some (.slice (some ⟨b, off, none⟩) ln c3) ∧ w'.cell? ⟨w.heap.size + 1, 1, none⟩ = some (.slice a4 n4 c4) ∧ w'.cell? ⟨w.heap.size + 1 + 1, 0, none⟩ = some (.int .i64 N) ∧ w'.cell? ⟨w.heap.size + 1 + 1, 1, none⟩ = some (.slice ga ll gc) ∧ w'.cell? ⟨wo.heap.size, 0, none⟩ = some (.int .i64 q1) ∧ w'.cell? ⟨wo.heap.size, 1, none⟩ = some (.int .i64 q2) ∧ w'.cell? ⟨wo.heap.size, 2, none⟩ = some (.int .i64 q3'))) (by kernel_rfl) ?_ (fun hHeld => ?_)
    ·exact ⟨T.out.x0, T.out.x1, T.out.x2, T.out.x3, T.out.nn, T.out.g0, T.out.g1, Y.out.y0, Y.out.y1, Y.out.y2⟩
    refine tq 0 ?_
    refine tq 1 ?_
    refine tq 2 ?_
    refine tq 3 ?_
    refine rd 4 fun K hK => ?_
    go_simp
    refine (rfind_at N q1 n _ L fq _ T.out.hl Hn.out Hfq.out).mono ?_
    rintro e wn ⟨rfl, hbn⟩
    have T := Lib.hid (T.out.below hbn)
    have Y := Lib.hid (Y.out.below hbn)
    have TB := Lib.hid (below_step (by exact TS.out) TB.out hbn)
    have TS := Lib.hid (Nat.le_trans TS.out hbn.size)
    clear hbn
    go_wp2_with fail
    refine hK.out _ _ ?_ (fun hHeld => ?_)
    ·exact ⟨T.out.x0, T.out.x1, T.out.x2, T.out.x3, T.out.nn, T.out.g0, T.out.g1, Y.out.y0, Y.out.y1, Y.out.y2⟩
    clear hK K
    try simp only [Act.put, List.getElem_toArray, List.getElem_cons_zero, List.getElem_cons_succ, List.setIfInBounds_toArray, List.set_cons_zero, List.set_cons_succ]
    refine tq 5 ?_
    refine tq 6 ?_
    refine tq0 7 ?_
    refine tq0 8 ?_
    refine tq0 9 ?_
    refine tq 10 ?_
    refine tq 11 ?_
    refine tq0 12 ?_
    refine tq0 13 ?_
    refine tq0 14 ?_
    refine tq 15 ?_
    refine tq 16 ?_
    refine tq0 17 ?_
    refine tq0 18 ?_
    refine tq0 19 ?_
    refine tq 20 ?_
    refine tq 21 ?_
    refine tq0 22 ?_
    refine tq0 23 ?_
    refine tq0 24 ?_
    refine tq0 25 ?_
    refine tq0 26 ?_
    refine tq0 27 ?_
    refine tq 28 ?_
    refine tq 29 ?_
    refine tq0 30 ?_
    refine tq0 31 ?_
    refine tq0 32 ?_
    refine tq0 33 ?_
    refine tq0 34 ?_
    refine tq0 35 ?_
    refine tq0 36 ?_
    refine tq0 37 ?_
    refine tq0 38 ?_
    refine tq0 39 ?_
    refine tq0 40 ?_
    refine tq 41 ?_
    refine wpAnyH_done (by kernel_rfl) ?_ _
    go_wp2_with fail
    go_ret
    exact ⟨by rw [Hf.out]; rfl, below_step BB.out.size BB.out TB.out⟩
  ·have hlt' : ¬ (k : Int) < ln := by omega
   have hf : r = true := bool_yes Hr.out (fun j x hx => Hs.out j x (by have := lt_of_some hx; rw [← Ln.out] at this; omega) hx)
   have Hf := Lib.hid hf
   clear hf hA2
   go_wp2_with fail
   go_ret
   exact ⟨by rw [Hf.out]; rfl, BB.out⟩
theorem rtakes_at (L : Lks) (n : Int) (s : St) (x : Nd) (v u : Value) (N : Int) (g : Value) (r : Bool) (w : World) (q : Int) (hq : q = x.start) (h : IsSt w s v) (hu : HasL w [.int .i64 q, u] x.d) (hg : LinksAt w g L) (hn : L.length ≤ 1000000) (hsm : SmallSt s) (hall : ∀ s ∈ x.states, s.waits.length ≤ 1000000)
  (hr : r = true ↔ ∀ (i : Nat) (t : Tk), s.takes[i]? = some t → DocTake L n x.states s.waits s.takes i t) :
  Calls Try.prog 39 #[v, .int .i64 n, .agg #[.int .i64 q, u], gv N g] w fun e w' => e = .returned (.bool r) ∧ Below w.heap.size w w' := by
 subst hq
 have h' := h
 obtain ⟨a1, c1, a2, c2, a3, c3, rfl, h1, h2, h3⟩ := isSt_open h
 obtain ⟨u', e, h4⟩ := hasL_nd hu
 simp only [List.cons.injEq, and_true, true_and] at e
 subst e
 obtain ⟨a4, c4, rfl⟩ := slice_of h4
 exact rtakes_loop L n s _ a1 _ c1 a2 _ c2 a3 c3 _ x.states a4 c4 N g r w h' h3 h4 hg hn hsm.2.2.1 hsm.1 hall hr
end Go.Proofs.Ytennbiajnkobnaa

