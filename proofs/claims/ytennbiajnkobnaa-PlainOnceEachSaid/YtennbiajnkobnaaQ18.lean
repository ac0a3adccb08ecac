/- Texts put together. -/
import Derived.Test.YtennbiajnkobnaaQ02
import Derived.Test.YtennbiajnkobnaaQ17
set_option linter.unusedSimpArgs false
namespace Go.Proofs.Ytennbiajnkobnaa
open Go.RowKit Go.PlainAid
/-- Does a state wait for all that another one waits for, but for one node. -/
def Kept (ws : List Int) (sto : St) (but : Int) : Prop := ∀ (i : Nat) (x : Int), ws[i]? = some x → x ≠ but → sto.mode = 2 ∧ x ∈ sto.waits
structure KpS (b1 b2 : Nat) (b o k n1 c1 : Nat) (x m2 : Int) (a2 : Option Addr) (n2 c2 : Nat) (w : World) : Prop where
 s : w.cell? ⟨b1, 1, none⟩ = some (.slice (some ⟨b, o, none⟩) n1 c1) ∧ w.cell? ⟨b2, 0, none⟩ = some (.int .i64 m2) ∧ w.cell? ⟨b2, 1, none⟩ = some (.slice a2 n2 c2) ∧ w.cell? ⟨b, o + k, none⟩ = some (.int .i64 x)
theorem KpS.below {b1 b2 : Nat} {b o k n1 c1 : Nat} {x m2 : Int} {a2 : Option Addr} {n2 c2 : Nat} {w w' : World} (h : KpS b1 b2 b o k n1 c1 x m2 a2 n2 c2 w) (hb : Below w.heap.size w w') : KpS b1 b2 b o k n1 c1 x m2 a2 n2 c2 w' := by
 obtain ⟨h1, h2, h3, h4⟩ := h
 have k := fun (p : Addr) (v : Value) (e : w.cell? p = some v) => (hb.cell (World.block_lt_of_cell? w _ e)).trans e
 exact ⟨k _ _ h1, k _ _ h2, k _ _ h3, k _ _ h4⟩
set_option maxHeartbeats 8000000 in
set_option maxRecDepth 100000 in
theorem rkept_loop (m1 : Int) (a1 : Option Addr) (c1 : Nat) (ws : List Int) (v2 v3 : Value) (a2 : Option Addr) (c2 : Nat) (sto : St) (u2 u3 : Value) (but : Int) (r : Bool) (w : World) (hw : Has w (.slice a1 ws.length c1) (dInts ws)) (hto : Has w (.slice a2 sto.waits.length c2) (dInts sto.waits)) (hw6 : ws.length ≤ 1000000) (ht6 : sto.waits.length ≤ 1000000)
  (hr : r = true ↔ Kept ws sto but) :
  Calls Try.prog 60 #[.agg #[.int .i64 m1, .slice a1 ws.length c1, v2, v3], .agg #[.int .i64 sto.mode, .slice a2 sto.waits.length c2, u2, u3], .int .i64 but] w fun e w' => e = .returned (.bool r) ∧ Below w.heap.size w w' := by
 obtain ⟨n1, hn1⟩ : ∃ n1, n1 = ws.length := ⟨_, rfl⟩
 obtain ⟨n2, hn2⟩ : ∃ n2, n2 = sto.waits.length := ⟨_, rfl⟩
 obtain ⟨m2, hm2⟩ : ∃ m2, m2 = sto.mode := ⟨_, rfl⟩
 rw [← hn1] at hw hw6 ⊢
 rw [← hn2] at hto ht6 ⊢
 rw [← hm2]
 obtain ⟨w1, hw1⟩ : ∃ w1, w1 = (w.alloc (.cells #[.int .i64 m1, .slice a1 n1 c1, v2, v3] 99)).alloc (.cells #[.int .i64 m2, .slice a2 n2 c2, u2, u3] 99) := ⟨_, rfl⟩
 have gb : Below w.heap.size w w1 := by rw [hw1]; go_grown
 have e1 : w1.cell? ⟨w.heap.size, 1, none⟩ = some (.slice a1 n1 c1) := by rw [hw1]; go_cell
 have e2 : w1.cell? ⟨w.heap.size + 1, 0, none⟩ = some (.int .i64 m2) := by rw [hw1]; go_cell
 have e3 : w1.cell? ⟨w.heap.size + 1, 1, none⟩ = some (.slice a2 n2 c2) := by rw [hw1]; go_cell
 have E2 := Lib.hid e2
 have E3 := Lib.hid e3
 have E1 := Lib.hid e1
 have HW := Lib.hid (hw.later gb)
 have HT := Lib.hid (hto.later gb)
 have G := Lib.hid gb
 have Hr := Lib.hid hr
 have N1 := Lib.hid hn1
 have N2 := Lib.hid hn2
 have M2 := Lib.hid hm2
 clear hw hto hr gb hn1 hn2 hm2 e1 e2 e3
 go_enter Try.func60, Try.ntmps60
 go_wp2_with fail
 rw [← hw1]
 clear hw1
 try go_wp2_with fail
 go_loopw [7] (fun i wr => ∃ k : Nat, i = .int .i64 k ∧ k ≤ n1 ∧ (∀ j x, j < k → ws[j]? = some x → x ≠ but → sto.mode = 2 ∧ x ∈ sto.waits) ∧ Below w1.heap.size w1 wr) (fun i _ => n1 - (intOf i).toNat)
 case atStart => exact ⟨0, rfl, by omega, fun j x hj => by omega, Below.refl _ _⟩
 case round =>
  obtain ⟨k, rfl, hk, hno, hbr⟩ := hrel
  have Hs := Lib.hid hno
  have R := Lib.hid hbr
  have f1 := (hbr.cell (World.block_lt_of_cell? w1 _ E1.out)).trans E1.out
  have f2 := (hbr.cell (World.block_lt_of_cell? w1 _ E2.out)).trans E2.out
  have f3 := (hbr.cell (World.block_lt_of_cell? w1 _ E3.out)).trans E3.out
  have BB := Lib.hid (below_step G.out.size G.out hbr)
  by_cases hlt : k < n1
  ·have hlt' : (k : Int) < n1 := by omega
   obtain ⟨x, hx⟩ := some_of_lt (l := ws) (i := k) (by rw [← N1.out]; exact hlt)
   obtain ⟨b, o, cap, e, hb, y0⟩ := int_cells (HW.out.later hbr) hx
   rw [← N1.out] at e
   simp only [Value.slice.injEq] at e
   obtain ⟨e, _, e2⟩ := e
   subst e e2
   have Hx := Lib.hid hx
   have HT2 := Lib.hid (HT.out.later (hbr.trans ((below_drewN (Below.refl _ wr) 1).mono hbr.size)))
   have Bad : Hid (∀ P : Prop, ((x ≠ but → sto.mode = 2 ∧ x ∈ sto.waits) → P) → ¬ P → r = false) := Lib.hid (fun P h hP => bool_no Hr.out (fun g => hP (h (g k x Hx.out))))
   have T : Hid (KpS w.heap.size (w.heap.size + 1) b o k n1 c1 x m2 a2 n2 c2 wr.drew) := Lib.hid (KpS.below ⟨⟨f1, f2, f3, y0⟩⟩ (below_drewN (Below.refl _ wr) 1))
   have TB : Hid (Below wr.heap.size wr wr.drew) := Lib.hid (below_drewN (Below.refl _ _) 1)
   have TS : Hid (wr.heap.size ≤ wr.drew.heap.size) := Lib.hid (Nat.le_refl _)
   clear hno hbr hx f2 f3 y0
   by_cases hxb : x = but
   ·have hq : (x == but) = true := by simpa using hxb
    have hq' : (x != but) = false := by simpa using hxb
    have Hxb := Lib.hid hxb
    clear hxb
    go_wp2_with fail
    refine wp_region_held_drew (S := (fun w' => w'.cell? ⟨w.heap.size, 1, none⟩ = some (.slice (some ⟨b, o, none⟩) n1 c1) ∧ w'.cell? ⟨w.heap.size + 1, 0, none⟩ = some (.int .i64 m2) ∧ w'.cell? ⟨w.heap.size + 1, 1, none⟩ = some (.slice a2 n2 c2) ∧ w'.cell? ⟨b, o + k, none⟩ = some (.int .i64 x))) (by kernel_rfl) ?_ (fun hHeld => ?_)
    ·exact T.out.s
    refine tq 0 ?_
    refine tq 1 ?_
    refine tq 2 ?_
    refine tq 3 ?_
    refine tq 4 ?_
    refine tq 5 ?_
    refine tq 6 ?_
    refine tq 7 ?_
    refine tq0 8 ?_
    refine tq0 9 ?_
    refine tq0 10 ?_
    refine tq0 11 ?_
    refine tq0 12 ?_
    refine tq0 13 ?_
    refine tq0 14 ?_
    refine tq0 15 ?_
    refine tq0 16 ?_
    refine tq0 17 ?_
    refine tq0 18 ?_
    refine tq0 19 ?_
    refine tq0 20 ?_
    refine tq0 21 ?_
    refine tq 22 ?_
    refine wpAnyH_done (by kernel_rfl) ?_ _
    go_wp2_with fail
    go_roundw
    case rel =>
     refine ⟨k + 1, by go_num, by omega, fun j y hj hy hne => ?_, below_step R.out.size R.out TB.out⟩
     by_cases hjk : j < k
     ·exact Hs.out j y hjk hy hne
     ·obtain rfl : j = k := by omega
      rw [Hx.out] at hy
      cases hy
      exact absurd Hxb.out hne
    case measure => simp [intOf]; omega
   ·have hq : (x == but) = false := by simpa using hxb
    have hq' : (x != but) = true := by simpa using hxb
    have Hxb := Lib.hid hxb
    clear hxb
    by_cases hm : m2 = 2
    ·subst hm
     by_cases hin : x ∈ sto.waits
     ·have Hin := Lib.hid hin
      clear hin
      go_wp2_with fail
      refine wp_region_held_drew (S := (fun w' => w'.cell? ⟨w.heap.size, 1, none⟩ = some (.slice (some ⟨b, o, none⟩) n1 c1) ∧ w'.cell? ⟨w.heap.size + 1, 0, none⟩ = some (.int .i64 2) ∧ w'.cell? ⟨w.heap.size + 1, 1, none⟩ = some (.slice a2 n2 c2) ∧ w'.cell? ⟨b, o + k, none⟩ = some (.int .i64 x))) (by kernel_rfl) ?_ (fun hHeld => ?_)
      ·exact T.out.s
      refine tq 0 ?_
      refine tq 1 ?_
      refine tq 2 ?_
      refine tq 3 ?_
      refine tq 4 ?_
      refine tq 5 ?_
      refine tq 6 ?_
      refine tq 7 ?_
      refine tq 8 ?_
      refine tq 9 ?_
      refine tq 10 ?_
      refine tq 11 ?_
      refine tq 12 ?_
      refine tq 13 ?_
      refine tq 14 ?_
      refine tq 15 ?_
      refine tq 16 ?_
      refine tq 17 ?_
      refine tq 18 ?_
      refine rd 19 fun K hK => ?_
      go_simp
      refine (rin_yes _ sto.waits x _ HT2.out (by rw [← N2.out]; exact ht6) Hin.out).mono ?_
      rintro e wn ⟨rfl, hbn⟩
      have T := Lib.hid (T.out.below hbn)
      have TB := Lib.hid (below_step (by exact TS.out) TB.out hbn)
      have TS := Lib.hid (Nat.le_trans TS.out hbn.size)
      have HT2 := Lib.hid (HT2.out.later hbn)
      clear hbn
      go_wp2_with fail
      refine hK.out _ _ ?_ (fun hHeld => ?_)
      ·exact T.out.s
      clear hK K
      try simp only [Act.put, List.getElem_toArray, List.getElem_cons_zero, List.getElem_cons_succ, List.setIfInBounds_toArray, List.set_cons_zero, List.set_cons_succ]
      refine tq 20 ?_
      refine tq 21 ?_
      refine tq 22 ?_
      refine wpAnyH_done (by kernel_rfl) ?_ _
      go_wp2_with fail
      go_roundw
      case rel =>
       refine ⟨k + 1, by go_num, by omega, fun j y hj hy hne => ?_, below_step R.out.size R.out TB.out⟩
       by_cases hjk : j < k
       ·exact Hs.out j y hjk hy hne
       ·obtain rfl : j = k := by omega
        rw [Hx.out] at hy
        cases hy
        exact ⟨M2.out.symm, Hin.out⟩
      case measure => simp [intOf]; omega
     ·have Hin := Lib.hid hin
      have Hf := Lib.hid (Bad.out _ (fun h => (h Hxb.out).2) hin)
      clear hin
      go_wp2_with fail
      refine wp_region_held_drew (S := (fun w' => w'.cell? ⟨w.heap.size, 1, none⟩ = some (.slice (some ⟨b, o, none⟩) n1 c1) ∧ w'.cell? ⟨w.heap.size + 1, 0, none⟩ = some (.int .i64 2) ∧ w'.cell? ⟨w.heap.size + 1, 1, none⟩ = some (.slice a2 n2 c2) ∧ w'.cell? ⟨b, o + k, none⟩ = some (.int .i64 x))) (by kernel_rfl) ?_ (fun hHeld => ?_)
      ·exact T.out.s
      refine tq 0 ?_
      refine tq 1 ?_
      refine tq 2 ?_
      refine tq 3 ?_
      refine tq 4 ?_
      refine tq 5 ?_
      refine tq 6 ?_
      refine tq 7 ?_
      refine tq 8 ?_
      refine tq 9 ?_
      refine tq 10 ?_
      refine tq 11 ?_
      refine tq 12 ?_
      refine tq 13 ?_
      refine tq 14 ?_
      refine tq 15 ?_
      refine tq 16 ?_
      refine tq 17 ?_
      refine tq 18 ?_
      refine rd 19 fun K hK => ?_
      go_simp
      refine (rin_no _ sto.waits x _ HT2.out (by rw [← N2.out]; exact ht6) Hin.out).mono ?_
      rintro e wn ⟨rfl, hbn⟩
      have T := Lib.hid (T.out.below hbn)
      have TB := Lib.hid (below_step (by exact TS.out) TB.out hbn)
      have TS := Lib.hid (Nat.le_trans TS.out hbn.size)
      have HT2 := Lib.hid (HT2.out.later hbn)
      clear hbn
      go_wp2_with fail
      refine hK.out _ _ ?_ (fun hHeld => ?_)
      ·exact T.out.s
      clear hK K
      try simp only [Act.put, List.getElem_toArray, List.getElem_cons_zero, List.getElem_cons_succ, List.setIfInBounds_toArray, List.set_cons_zero, List.set_cons_succ]
      refine tq 20 ?_
      refine tq 21 ?_
      refine tq 22 ?_
      refine wpAnyH_done (by kernel_rfl) ?_ _
      go_wp2_with fail
      go_ret
      exact ⟨by rw [Hf.out]; rfl, below_step BB.out.size BB.out TB.out⟩
    ·have hm1 : (m2 == 2) = false := by simpa using hm
     have hm1' : (m2 != 2) = true := by simpa using hm
     have Hf := Lib.hid (Bad.out _ (fun h => (h Hxb.out).1) (by rw [← M2.out]; exact hm))
     clear hm
     go_wp2_with fail
     refine wp_region_held_drew (S := (fun w' => w'.cell? ⟨w.heap.size, 1, none⟩ = some (.slice (some ⟨b, o, none⟩) n1 c1) ∧ w'.cell? ⟨w.heap.size + 1, 0, none⟩ = some (.int .i64 m2) ∧ w'.cell? ⟨w.heap.size + 1, 1, none⟩ = some (.slice a2 n2 c2) ∧ w'.cell? ⟨b, o + k, none⟩ = some (.int .i64 x))) (by kernel_rfl) ?_ (fun hHeld => ?_)
     ·exact T.out.s
     refine tq 0 ?_
     refine tq 1 ?_
     refine tq 2 ?_
     refine tq 3 ?_
     refine tq 4 ?_
     refine tq 5 ?_
     refine tq 6 ?_
     refine tq 7 ?_
     refine tq 8 ?_
     refine tq 9 ?_
     refine tq 10 ?_
     refine tq 11 ?_
     refine tq0 12 ?_
     refine tq0 13 ?_
     refine tq0 14 ?_
     refine tq0 15 ?_
     refine tq0 16 ?_
     refine tq0 17 ?_
     refine tq0 18 ?_
     refine tq0 19 ?_
     refine tq0 20 ?_
     refine tq 21 ?_
     refine tq 22 ?_
     refine wpAnyH_done (by kernel_rfl) ?_ _
     go_wp2_with fail
     go_ret
     exact ⟨by rw [Hf.out]; rfl, below_step BB.out.size BB.out TB.out⟩
  ·have hlt' : ¬ (k : Int) < n1 := by omega
   have hf : r = true := bool_yes Hr.out (fun j x hx => Hs.out j x (by have := lt_of_some hx; rw [← N1.out] at this; omega) hx)
   have Hf := Lib.hid hf
   clear hf hno hbr
   go_wp2_with fail
   go_ret
   exact ⟨by rw [Hf.out]; rfl, BB.out⟩
theorem rkept_at (s sto : St) (v u : Value) (but : Int) (r : Bool) (w : World) (h : IsSt w s v) (h' : IsSt w sto u) (hw6 : s.waits.length ≤ 1000000) (ht6 : sto.waits.length ≤ 1000000) (hr : r = true ↔ Kept s.waits sto but) :
  Calls Try.prog 60 #[v, u, .int .i64 but] w fun e w' => e = .returned (.bool r) ∧ Below w.heap.size w w' := by
 obtain ⟨a1, c1, a2, c2, a3, c3, rfl, h1, _⟩ := isSt_open h
 obtain ⟨b1, e1, b2, e2, b3, e3, rfl, g1, _⟩ := isSt_open h'
 exact rkept_loop _ a1 c1 s.waits _ _ b1 e1 sto _ _ but r w h1 g1 hw6 ht6 hr
/-- What the walk of picks needs. -/
structure QkAt (w : World) (bx bg : Nat) (a2 : Option Addr) (c2 : Nat) (l : List Pk) (N : Int) (ga : Option Addr) (gc : Nat) (L : Lks) : Prop where
 f2 : w.cell? ⟨bx, 2, none⟩ = some (.slice a2 l.length c2)
 g0 : w.cell? ⟨bg, 0, none⟩ = some (.int .i64 N)
 g1 : w.cell? ⟨bg, 1, none⟩ = some (.slice ga L.length gc)
 hp : Has w (.slice a2 l.length c2) (dPicks l)
 hl : LinksAt w (.slice ga L.length gc) L
theorem QkAt.below {w w' : World} {bx bg : Nat} {a2 : Option Addr} {c2 : Nat} {l : List Pk} {N : Int} {ga : Option Addr} {gc : Nat} {L : Lks} (h : QkAt w bx bg a2 c2 l N ga gc L) (hb : Below w.heap.size w w') : QkAt w' bx bg a2 c2 l N ga gc L := by
 have k := fun (p : Addr) (v : Value) (e : w.cell? p = some v) => (hb.cell (World.block_lt_of_cell? w _ e)).trans e
 exact ⟨k _ _ h.f2, k _ _ h.g0, k _ _ h.g1, h.hp.later hb, h.hl.below hb⟩
structure QkS (bo bg b o k n1 c1 : Nat) (q1 q2 : Int) (N : Int) (ga : Option Addr) (ll gc : Nat) (L : Lks) (w : World) : Prop where
 s : w.cell? ⟨bo, 1, none⟩ = some (.slice (some ⟨b, o, none⟩) n1 c1) ∧ w.cell? ⟨bg, 0, none⟩ = some (.int .i64 N) ∧ w.cell? ⟨bg, 1, none⟩ = some (.slice ga ll gc) ∧ w.cell? ⟨b, o + k * 2, none⟩ = some (.int .i64 q1) ∧ w.cell? ⟨b, o + k * 2 + 1, none⟩ = some (.int .i64 q2)
 l : LinksAt w (.slice ga ll gc) L
theorem QkS.below {bo bg b o k n1 c1 : Nat} {q1 q2 : Int} {N : Int} {ga : Option Addr} {ll gc : Nat} {L : Lks} {w w' : World} (h : QkS bo bg b o k n1 c1 q1 q2 N ga ll gc L w) (hb : Below w.heap.size w w') : QkS bo bg b o k n1 c1 q1 q2 N ga ll gc L w' := by
 obtain ⟨⟨h1, h2, h3, h4, h5⟩, h6⟩ := h
 have k := fun (p : Addr) (v : Value) (e : w.cell? p = some v) => (hb.cell (World.block_lt_of_cell? w _ e)).trans e
 exact ⟨⟨k _ _ h1, k _ _ h2, k _ _ h3, k _ _ h4, k _ _ h5⟩, h6.below hb⟩
set_option maxHeartbeats 8000000 in
set_option maxRecDepth 100000 in
theorem rpicks_loop (L : Lks) (n m : Int) (v1 v3 : Value) (a2 : Option Addr) (c2 : Nat) (l : List Pk) (all : List St) (N : Int) (g : Value) (r : Bool) (w : World) (hp : Has w (.slice a2 l.length c2) (dPicks l)) (hg : LinksAt w g L) (hn : L.length ≤ 1000000) (h4 : l.length ≤ 4) (h0 : 0 < l.length) (hm : m = 1)
  (hr : r = true ↔ PicksEach L n all l) :
  Calls Try.prog 38 #[.agg #[.int .i64 m, v1, .slice a2 l.length c2, v3], .int .i64 n, .int .i64 all.length, .agg #[.int .i64 N, g]] w fun e w' => e = .returned (.bool r) ∧ Below w.heap.size w w' := by
 obtain ⟨ga, gc, rfl⟩ := hg.at
 obtain ⟨ln, hln⟩ : ∃ ln, ln = l.length := ⟨_, rfl⟩
 obtain ⟨ll, hll⟩ : ∃ ll, ll = L.length := ⟨_, rfl⟩
 obtain ⟨n4, hn4⟩ : ∃ n4, n4 = all.length := ⟨_, rfl⟩
 obtain ⟨w1, hw1⟩ : ∃ w1, w1 = (w.alloc (.cells #[.int .i64 m, v1, .slice a2 ln c2, v3] 99)).alloc (.cells #[.int .i64 N, .slice ga ll gc] 35) := ⟨_, rfl⟩
 have gb : Below w.heap.size w w1 := by rw [hw1]; go_grown
 have hA : QkAt w1 w.heap.size (w.heap.size + 1) a2 c2 l N ga gc L := by
  refine ⟨?_, ?_, ?_, hp.later gb, hg.below gb⟩
  ·rw [hw1, ← hln]; go_cell
  ·rw [hw1]; go_cell
  ·rw [hw1, ← hll]; go_cell
 have c0 : w1.cell? ⟨w.heap.size, 0, none⟩ = some (.int .i64 m) := by rw [hw1]; go_cell
 have f2' := hA.f2
 have A := Lib.hid hA
 have G := Lib.hid gb
 have Hr := Lib.hid hr
 have Hn := Lib.hid hn
 rw [← hln] at h4 h0 f2' ⊢
 subst hm
 have e0 : (0 : Int) < ln := by omega
 have e0' : decide ((0 : Int) < ln) = true := by simp; omega
 rw [← hll]
 rw [← hn4]
 have Ln := Lib.hid hln
 have LL := Lib.hid hll
 have N4 := Lib.hid hn4
 have e4 : ¬ (4 : Int) < ln := by omega
 have e4' : decide ((4 : Int) < ln) = false := by simp; omega
 clear hp hg hr hn hA gb hln hll hn4
 go_enter Try.func38, Try.ntmps38
 try simp only [List.append_eq, List.cons_append, List.nil_append]
 go_wp2_with fail
 rw [← hw1]
 clear hw1
 try go_wp2_with fail
 go_loopw [9] (fun i wr => ∃ k : Nat, i = .int .i64 k ∧ k ≤ ln ∧ (∀ j p, j < k → l[j]? = some p → HasS all p.next ∧ p.sends.length ≤ 4 ∧ SendsEach L n p.sends) ∧ Below w1.heap.size w1 wr) (fun i _ => ln - (intOf i).toNat)
 case atStart => exact ⟨0, rfl, by omega, fun j x hj => by omega, Below.refl _ _⟩
 case round =>
  obtain ⟨k, rfl, hk, hno, hbr⟩ := hrel
  obtain ⟨wo, hwo⟩ : ∃ wo, wo = wr := ⟨_, rfl⟩
  subst hwo
  have Hs := Lib.hid hno
  have R := Lib.hid hbr
  have hA2 := A.out.below hbr
  have A2 := Lib.hid hA2
  have BB := Lib.hid (below_step G.out.size G.out hbr)
  have q2 := hA2.f2
  rw [← Ln.out] at q2
  clear hno hbr
  by_cases hlt : k < ln
  ·have hlt' : (k : Int) < ln := by omega
   obtain ⟨p, hp⟩ := some_of_lt (l := l) (i := k) (by rw [← Ln.out]; exact hlt)
   obtain ⟨b, off, cap, sv, e, hb, _, x0, x1, hsv⟩ := pk_cells hA2.hp hp
   simp only [Value.slice.injEq] at e
   obtain ⟨e, _, e2⟩ := e
   subst e e2
   obtain ⟨sa, sc, rfl⟩ := slice_of hsv
   obtain ⟨sn, hsn⟩ : ∃ sn, sn = p.sends.length := ⟨_, rfl⟩
   obtain ⟨pn, hpn⟩ : ∃ pn, pn = p.next := ⟨_, rfl⟩
   rw [← hsn] at x1 hsv
   rw [← hpn] at x0
   have Sn := Lib.hid hsn
   have Pn := Lib.hid hpn
   have Hp := Lib.hid hp
   have Bad : Hid (∀ P : Prop, (HasS all pn → sn ≤ 4 → SendsEach L n p.sends → P) → ¬ P → r = false) := Lib.hid (fun P h hP => bool_no Hr.out (fun g => hP (by rw [Pn.out, Sn.out] at h; exact h (g k p Hp.out).1 (g k p Hp.out).2.1 (g k p Hp.out).2.2)))
   obtain ⟨w2, hw2⟩ : ∃ w2, w2 = wo.alloc (.cells #[.int .i64 pn, .slice sa sn sc] 136) := ⟨_, rfl⟩
   have hb2 : Below wo.heap.size wo w2 := by rw [hw2]; exact below_new _ _
   have z0 : w2.cell? ⟨wo.heap.size, 0, none⟩ = some (.int .i64 pn) := by rw [hw2]; exact World.cell?_alloc_at _ _ _ _ rfl
   have z1 : w2.cell? ⟨wo.heap.size, 1, none⟩ = some (.slice sa sn sc) := by rw [hw2]; exact World.cell?_alloc_at _ _ _ _ rfl
   have B2 := Lib.hid hb2
   have A3 := Lib.hid (hA2.below hb2)
   have R3 := Lib.hid (below_step R.out.size R.out hb2)
   have BB3 := Lib.hid (below_step BB.out.size BB.out hb2)
   have HS2 := Lib.hid (hsv.later hb2)
   have Z1 := Lib.hid z1
   clear hp hsv hsn hpn hA2 hb2
   by_cases hs0 : pn < 0
   ·have Hf := Lib.hid (Bad.out _ (fun h _ _ => h.1) (by omega))
    clear z0 z1
    go_wp2_with fail
    rw [← hw2]
    clear hw2
    try go_wp2_with fail
    go_ret
    exact ⟨by rw [Hf.out]; rfl, BB3.out⟩
   ·have hs0' : decide (pn < 0) = false := by simp; omega
    by_cases hs1 : (n4 : Int) ≤ pn
    ·have hs1' : decide ((n4 : Int) ≤ pn) = true := by simp; omega
     have Hf := Lib.hid (Bad.out _ (fun h _ _ => h.2) (by rw [← N4.out]; omega))
     clear z0 z1
     go_wp2_with fail
     rw [← hw2]
     clear hw2
     try go_wp2_with fail
     go_ret
     exact ⟨by rw [Hf.out]; rfl, BB3.out⟩
    ·have hs1' : decide ((n4 : Int) ≤ pn) = false := by simp; omega
     have Ys : Hid (HasS all pn) := Lib.hid ⟨by omega, by rw [← N4.out]; omega⟩
     by_cases hs4 : sn ≤ 4
     ·have u4 : ¬ (4 : Int) < sn := by omega
      have u4' : decide ((4 : Int) < sn) = false := by simp; omega
      clear z0 z1
      go_wp2_with fail
      rw [← hw2]
      clear hw2
      try go_wp2_with fail
      go_loopw [11] (fun i wq => ∃ k2 : Nat, i = .int .i64 k2 ∧ k2 ≤ sn ∧ (∀ j q, j < k2 → p.sends[j]? = some q → Goes L n q.1 q.2) ∧ Below w2.heap.size w2 wq) (fun i _ => sn - (intOf i).toNat)
      case atStart => exact ⟨0, rfl, by omega, fun j x hj => by omega, Below.refl _ _⟩
      case round =>
       obtain ⟨k2, rfl, hk2, hno2, hbr2⟩ := hrel
       have Hs2 := Lib.hid hno2
       have T0 := Lib.hid hbr2
       have hA4 := A3.out.below hbr2
       have BT := Lib.hid (below_step R3.out.size R3.out hbr2)
       have v1' := (hbr2.cell (World.block_lt_of_cell? w2 _ Z1.out)).trans Z1.out
       have HS3 := Lib.hid (HS2.out.later hbr2)
       clear hno2 hbr2
       by_cases hlt2 : k2 < sn
       ·have hlt2' : (k2 : Int) < sn := by omega
        obtain ⟨q, hq⟩ := some_of_lt (l := p.sends) (i := k2) (by rw [← Sn.out]; exact hlt2)
        have hh := HS3.out
        rw [Sn.out] at hh
        obtain ⟨b2, off2, cap2, e, hb2, _, t0, t1⟩ := link_cells hh hq
        simp only [Value.slice.injEq] at e
        obtain ⟨e, _, e2⟩ := e
        subst e e2
        have Hq := Lib.hid hq
        obtain ⟨q1, q2⟩ := q
        simp only at t0 t1
        obtain ⟨fq, hfq⟩ : ∃ fq, fq = findL L (n, q1) := ⟨_, rfl⟩
        have Hfq := Lib.hid hfq
        have g0 := hA4.g0
        have g1 := hA4.g1
        have gl := hA4.hl
        rw [← LL.out] at g1 gl
        have T : Hid (QkS wo.heap.size (w.heap.size + 1) b2 off2 k2 sn sc q1 q2 N ga ll gc L wr.drew) := Lib.hid (QkS.below ⟨⟨v1', g0, g1, t0, t1⟩, gl⟩ (below_drewN (Below.refl _ wr) 1))
        have TB : Hid (Below wr.heap.size wr wr.drew) := Lib.hid (below_drewN (Below.refl _ _) 1)
        have TS : Hid (wr.heap.size ≤ wr.drew.heap.size) := Lib.hid (Nat.le_refl _)
        clear hh hq hfq hA4 g0 g1 gl t0 t1
        by_cases hm' : (n, q1) ∈ L
        ·have hq0 : ¬ fq < 0 := by rw [Hfq.out]; exact fun h => (findL_neg.1 h) hm'
         have hq0' : decide (fq < 0) = false := by simp; omega
         by_cases hc0 : q2 < 0
         ·have hc0' : decide (q2 < 0) = true := by simpa using hc0
          have Hf := Lib.hid (Bad.out _ (fun _ _ h => h k2 _ Hq.out) (fun h => by have := h.2.1; simp at this; omega))
          clear hm'
          go_wp2_with fail
          refine wp_region_held_drew (S := (fun w' => w'.cell? ⟨wo.heap.size, 1, none⟩ = some (.slice (some ⟨b2, off2, none⟩) sn sc) ∧ w'.cell? ⟨w.heap.size + 1, 0, none⟩ = some (.int .i64 N) ∧ w'.cell? ⟨w.heap.size + 1, 1, none⟩ = some (.slice ga ll gc) ∧ w'.cell? ⟨b2, off2 + k2 * 2, none⟩ = some (.int .i64 q1) ∧ w'.cell? ⟨b2, off2 + k2 * 2 + 1, none⟩ = some (.int .i64 q2))) (by kernel_rfl) ?_ (fun hHeld => ?_)
          ·exact T.out.s
          refine tq 0 ?_
          refine tq 1 ?_
          refine tq 2 ?_
          refine tq 3 ?_
          refine tq 4 ?_
          refine tq 5 ?_
          refine tq 6 ?_
          refine tq 7 ?_
          refine rd 8 fun K hK => ?_
          go_simp
          refine (rfind_at N n q1 _ L fq _ T.out.l Hn.out Hfq.out).mono ?_
          rintro e wn ⟨rfl, hbn⟩
          have T := Lib.hid (T.out.below hbn)
          have TB := Lib.hid (below_step (by exact TS.out) TB.out hbn)
          have TS := Lib.hid (Nat.le_trans TS.out hbn.size)
          clear hbn
          go_wp2_with fail
          refine hK.out _ _ ?_ (fun hHeld => ?_)
          ·exact T.out.s
          clear hK K
          try simp only [Act.put, List.getElem_toArray, List.getElem_cons_zero, List.getElem_cons_succ, List.setIfInBounds_toArray, List.set_cons_zero, List.set_cons_succ]
          refine tq 9 ?_
          refine tq 10 ?_
          refine tq 11 ?_
          refine tq 12 ?_
          refine tq 13 ?_
          refine tq 14 ?_
          refine tq 15 ?_
          refine tq 16 ?_
          refine tq 17 ?_
          refine tq 18 ?_
          refine tq 19 ?_
          refine tq0 20 ?_
          refine tq0 21 ?_
          refine tq0 22 ?_
          refine tq0 23 ?_
          refine tq0 24 ?_
          refine tq0 25 ?_
          refine tq0 26 ?_
          refine tq 27 ?_
          refine wpAnyH_done (by kernel_rfl) ?_ _
          go_wp2_with fail
          go_ret
          exact ⟨by rw [Hf.out]; rfl, below_step G.out.size G.out (below_step BT.out.size BT.out TB.out)⟩
         ·have hc0' : decide (q2 < 0) = false := by simpa using hc0
          by_cases hc3 : 3 < q2
          ·have hc3' : decide (3 < q2) = true := by simpa using hc3
           have Hf := Lib.hid (Bad.out _ (fun _ _ h => h k2 _ Hq.out) (fun h => by have := h.2.2; simp at this; omega))
           clear hm'
           go_wp2_with fail
           refine wp_region_held_drew (S := (fun w' => w'.cell? ⟨wo.heap.size, 1, none⟩ = some (.slice (some ⟨b2, off2, none⟩) sn sc) ∧ w'.cell? ⟨w.heap.size + 1, 0, none⟩ = some (.int .i64 N) ∧ w'.cell? ⟨w.heap.size + 1, 1, none⟩ = some (.slice ga ll gc) ∧ w'.cell? ⟨b2, off2 + k2 * 2, none⟩ = some (.int .i64 q1) ∧ w'.cell? ⟨b2, off2 + k2 * 2 + 1, none⟩ = some (.int .i64 q2))) (by kernel_rfl) ?_ (fun hHeld => ?_)
           ·exact T.out.s
           refine tq 0 ?_
           refine tq 1 ?_
           refine tq 2 ?_
           refine tq 3 ?_
           refine tq 4 ?_
           refine tq 5 ?_
           refine tq 6 ?_
           refine tq 7 ?_
           refine rd 8 fun K hK => ?_
           go_simp
           refine (rfind_at N n q1 _ L fq _ T.out.l Hn.out Hfq.out).mono ?_
           rintro e wn ⟨rfl, hbn⟩
           have T := Lib.hid (T.out.below hbn)
           have TB := Lib.hid (below_step (by exact TS.out) TB.out hbn)
           have TS := Lib.hid (Nat.le_trans TS.out hbn.size)
           clear hbn
           go_wp2_with fail
           refine hK.out _ _ ?_ (fun hHeld => ?_)
           ·exact T.out.s
           clear hK K
           try simp only [Act.put, List.getElem_toArray, List.getElem_cons_zero, List.getElem_cons_succ, List.setIfInBounds_toArray, List.set_cons_zero, List.set_cons_succ]
           refine tq 9 ?_
           refine tq 10 ?_
           refine tq 11 ?_
           refine tq 12 ?_
           refine tq 13 ?_
           refine tq 14 ?_
           refine tq 15 ?_
           refine tq 16 ?_
           refine tq 17 ?_
           refine tq 18 ?_
           refine tq 19 ?_
           refine tq 20 ?_
           refine tq 21 ?_
           refine tq 22 ?_
           refine tq 23 ?_
           refine tq 24 ?_
           refine tq 25 ?_
           refine tq 26 ?_
           refine tq 27 ?_
           refine wpAnyH_done (by kernel_rfl) ?_ _
           go_wp2_with fail
           go_ret
           exact ⟨by rw [Hf.out]; rfl, below_step G.out.size G.out (below_step BT.out.size BT.out TB.out)⟩
          ·have hc3' : decide (3 < q2) = false := by simpa using hc3
           have Hg : Hid (Goes L n q1 q2) := Lib.hid ⟨hm', by omega, by omega⟩
           clear hm'
           go_wp2_with fail
           refine wp_region_held_drew (S := (fun w' => w'.cell? ⟨wo.heap.size, 1, none⟩ = some (.slice (some ⟨b2, off2, none⟩) sn sc) ∧ w'.cell? ⟨w.heap.size + 1, 0, none⟩ = some (.int .i64 N) ∧ w'.cell? ⟨w.heap.size + 1, 1, none⟩ = some (.slice ga ll gc) ∧ w'.cell? ⟨b2, off2 + k2 * 2, none⟩ = some (.int .i64 q1) ∧ w'.cell? ⟨b2, off2 + k2 * 2 + 1, none⟩ = some (.int .i64 q2))) (by kernel_rfl) ?_ (fun hHeld => ?_)
           ·exact T.out.s
           refine tq 0 ?_
           refine tq 1 ?_
           refine tq 2 ?_
           refine tq 3 ?_
           refine tq 4 ?_
           refine tq 5 ?_
           refine tq 6 ?_
           refine tq 7 ?_
           refine rd 8 fun K hK => ?_
           go_simp
           refine (rfind_at N n q1 _ L fq _ T.out.l Hn.out Hfq.out).mono ?_
           rintro e wn ⟨rfl, hbn⟩
           have T := Lib.hid (T.out.below hbn)
           have TB := Lib.hid (below_step (by exact TS.out) TB.out hbn)
           have TS := Lib.hid (Nat.le_trans TS.out hbn.size)
           clear hbn
           go_wp2_with fail
           refine hK.out _ _ ?_ (fun hHeld => ?_)
           ·exact T.out.s
           clear hK K
           try simp only [Act.put, List.getElem_toArray, List.getElem_cons_zero, List.getElem_cons_succ, List.setIfInBounds_toArray, List.set_cons_zero, List.set_cons_succ]
           refine tq 9 ?_
           refine tq 10 ?_
           refine tq 11 ?_
           refine tq 12 ?_
           refine tq 13 ?_
           refine tq 14 ?_
           refine tq 15 ?_
           refine tq 16 ?_
           refine tq 17 ?_
           refine tq 18 ?_
           refine tq 19 ?_
           refine tq 20 ?_
           refine tq 21 ?_
           refine tq 22 ?_
           refine tq 23 ?_
           refine tq 24 ?_
           refine tq 25 ?_
           refine tq 26 ?_
           refine tq 27 ?_
           refine wpAnyH_done (by kernel_rfl) ?_ _
           go_wp2_with fail
           go_roundw
           case rel =>
            refine ⟨k2 + 1, by go_num, by omega, fun j y hj hy => ?_, below_step T0.out.size T0.out TB.out⟩
            by_cases hjk : j < k2
            ·exact Hs2.out j y hjk hy
            ·obtain rfl : j = k2 := by omega
             rw [Hq.out] at hy
             cases hy
             exact Hg.out
           case measure => simp [intOf]; omega
        ·have hq0 : fq < 0 := by rw [Hfq.out]; exact findL_neg.2 hm'
         have hq0' : decide (fq < 0) = true := by simp; omega
         have Hf := Lib.hid (Bad.out _ (fun _ _ h => (h k2 _ Hq.out).1) hm')
         clear hm'
         go_wp2_with fail
         refine wp_region_held_drew (S := (fun w' => w'.cell? ⟨wo.heap.size, 1, none⟩ = some (.slice (some ⟨b2, off2, none⟩) sn sc) ∧ w'.cell? ⟨w.heap.size + 1, 0, none⟩ = some (.int .i64 N) ∧ w'.cell? ⟨w.heap.size + 1, 1, none⟩ = some (.slice ga ll gc) ∧ w'.cell? ⟨b2, off2 + k2 * 2, none⟩ = some (.int .i64 q1) ∧ w'.cell? ⟨b2, off2 + k2 * 2 + 1, none⟩ = some (.int .i64 q2))) (by kernel_rfl) ?_ (fun hHeld => ?_)
         ·exact T.out.s
         refine tq 0 ?_
         refine tq 1 ?_
         refine tq 2 ?_
         refine tq 3 ?_
         refine tq 4 ?_
         refine tq 5 ?_
         refine tq 6 ?_
         refine tq 7 ?_
         refine rd 8 fun K hK => ?_
         go_simp
         refine (rfind_at N n q1 _ L fq _ T.out.l Hn.out Hfq.out).mono ?_
         rintro e wn ⟨rfl, hbn⟩
         have T := Lib.hid (T.out.below hbn)
         have TB := Lib.hid (below_step (by exact TS.out) TB.out hbn)
         have TS := Lib.hid (Nat.le_trans TS.out hbn.size)
         clear hbn
         go_wp2_with fail
         refine hK.out _ _ ?_ (fun hHeld => ?_)
         ·exact T.out.s
         clear hK K
         try simp only [Act.put, List.getElem_toArray, List.getElem_cons_zero, List.getElem_cons_succ, List.setIfInBounds_toArray, List.set_cons_zero, List.set_cons_succ]
         refine tq 9 ?_
         refine tq 10 ?_
         refine tq0 11 ?_
         refine tq0 12 ?_
         refine tq0 13 ?_
         refine tq0 14 ?_
         refine tq0 15 ?_
         refine tq0 16 ?_
         refine tq0 17 ?_
         refine tq 18 ?_
         refine tq 19 ?_
         refine tq0 20 ?_
         refine tq0 21 ?_
         refine tq0 22 ?_
         refine tq0 23 ?_
         refine tq0 24 ?_
         refine tq0 25 ?_
         refine tq0 26 ?_
         refine tq 27 ?_
         refine wpAnyH_done (by kernel_rfl) ?_ _
         go_wp2_with fail
         go_ret
         exact ⟨by rw [Hf.out]; rfl, below_step G.out.size G.out (below_step BT.out.size BT.out TB.out)⟩
       ·have hlt2' : ¬ (k2 : Int) < sn := by omega
        clear hA4
        go_wp2_with fail
        go_roundw
        case rel =>
         refine ⟨k + 1, by go_num, by omega, fun j y hj hy => ?_, BT.out⟩
         by_cases hjk : j < k
         ·exact Hs.out j y hjk hy
         ·obtain rfl : j = k := by omega
          rw [Hp.out] at hy
          cases hy
          exact ⟨by rw [← Pn.out]; exact Ys.out, by rw [← Sn.out]; exact hs4, fun i q hq => Hs2.out i q (by have := lt_of_some hq; rw [← Sn.out] at this; omega) hq⟩
        case measure => simp [intOf]; omega
     ·have u4 : (4 : Int) < sn := by omega
      have u4' : decide ((4 : Int) < sn) = true := by simp; omega
      have Hf := Lib.hid (Bad.out _ (fun _ h _ => h) hs4)
      clear z0 z1
      go_wp2_with fail
      rw [← hw2]
      clear hw2
      try go_wp2_with fail
      go_ret
      exact ⟨by rw [Hf.out]; rfl, BB3.out⟩
  ·have hlt' : ¬ (k : Int) < ln := by omega
   have hf : r = true := bool_yes Hr.out (fun j x hx => Hs.out j x (by have := lt_of_some hx; rw [← Ln.out] at this; omega) hx)
   have Hf := Lib.hid hf
   clear hf hA2
   go_wp2_with fail
   go_ret
   exact ⟨by rw [Hf.out]; rfl, BB.out⟩
theorem rpicks_short (m n many : Int) (v1 v3 : Value) (a2 : Option Addr) (ln c2 : Nat) (N : Int) (g : Value) (w : World) (h : 4 < ln ∨ (0 < ln ∧ m ≠ 1)) :
    Calls Try.prog 38 #[.agg #[.int .i64 m, v1, .slice a2 ln c2, v3], .int .i64 n, .int .i64 many, .agg #[.int .i64 N, g]] w fun e w' => e = .returned (.bool false) ∧ Below w.heap.size w w' := by
  by_cases h4 : 4 < ln
  · have h4' : (4 : Int) < ln := by omega
    have h4'' : decide ((4 : Int) < ln) = true := by simp; omega
    clear h
    go_enter Try.func38, Try.ntmps38
    try simp only [List.append_eq, List.cons_append, List.nil_append]
    go_wp2_with fail
    go_ret
    exact ⟨rfl, by go_grown⟩
  · have h4' : ¬ (4 : Int) < ln := by omega
    have h4'' : decide ((4 : Int) < ln) = false := by simp; omega
    have h0 : (0 : Int) < ln := by omega
    have h0' : decide ((0 : Int) < ln) = true := by simp; omega
    have hm : (m == 1) = false := by have : m ≠ 1 := by omega
                                     simpa using this
    clear h
    go_enter Try.func38, Try.ntmps38
    try simp only [List.append_eq, List.cons_append, List.nil_append]
    go_wp2_with fail
    go_ret
    exact ⟨rfl, by go_grown⟩
theorem rpicks_none (m n many : Int) (v1 v3 : Value) (a2 : Option Addr) (c2 : Nat) (N : Int) (g : Value) (w : World) :
  Calls Try.prog 38 #[.agg #[.int .i64 m, v1, .slice a2 0 c2, v3], .int .i64 n, .int .i64 many, .agg #[.int .i64 N, g]] w fun e w' => e = .returned (.bool true) ∧ Below w.heap.size w w' := by
 go_enter Try.func38, Try.ntmps38
 try simp only [List.append_eq, List.cons_append, List.nil_append]
 go_wp2_with fail
 refine wp_loop_rounds 1 ?_
 rw [rounds_succ]
 go_wp2_with fail
 go_ret
 exact ⟨rfl, by go_grown⟩
theorem rpicks_at (L : Lks) (n : Int) (s : St) (all : List St) (many : Int) (v : Value) (N : Int) (g : Value) (r : Bool) (w : World) (hmany : many = all.length) (h : IsSt w s v) (hg : LinksAt w g L) (hn : L.length ≤ 1000000) (hr : r = true ↔ PicksOK L n all s) :
  Calls Try.prog 38 #[v, .int .i64 n, .int .i64 many, gv N g] w fun e w' => e = .returned (.bool r) ∧ Below w.heap.size w w' := by
 subst hmany
 obtain ⟨a1, c1, a2, c2, a3, c3, rfl, _, h2, _⟩ := isSt_open h
 by_cases h00 : s.picks.length = 0
 ·rw [bool_yes hr ⟨by omega, by omega, fun i p hp => by have := lt_of_some hp; omega⟩, h00]
  exact rpicks_none _ _ _ _ _ _ _ _ _ _
 by_cases hs : 4 < s.picks.length ∨ (0 < s.picks.length ∧ s.mode ≠ 1)
 ·rw [bool_no hr (fun g => by have := g.1; have := g.2.1; omega)]
  exact rpicks_short _ _ _ _ _ _ _ _ _ _ _ hs
 ·exact rpicks_loop L n s.mode _ _ a2 c2 s.picks all N g r w h2 hg hn (by omega) (by omega) (by omega) (hr.trans ⟨fun g => g.2.2, fun g => ⟨by omega, by omega, g⟩⟩)
end Go.Proofs.Ytennbiajnkobnaa

