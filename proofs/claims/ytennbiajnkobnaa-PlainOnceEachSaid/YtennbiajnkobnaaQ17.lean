/- Texts put together. -/
import Derived.Test.YtennbiajnkobnaaQ02
import Derived.Test.YtennbiajnkobnaaQ03
import Derived.Test.YtennbiajnkobnaaQ04
import Derived.Test.YtennbiajnkobnaaQ06
import Derived.Test.YtennbiajnkobnaaQ09
set_option linter.unusedSimpArgs false
namespace Go.Proofs.Ytennbiajnkobnaa
open Go.RowKit Go.PlainAid
def IsSt (w : World) (s : St) (v : Value) : Prop := ∃ cs, v = .agg ⟨cs⟩ ∧ HasL w cs s.d
theorem IsSt.later {w w' : World} {s : St} {v : Value} (h : IsSt w s v) (hb : Below w.heap.size w w') : IsSt w' s v := by
 obtain ⟨cs, rfl, hc⟩ := h
 exact ⟨cs, rfl, hc.later hb⟩
theorem isSt_open {w : World} {s : St} {u : Value} (h : IsSt w s u) : ∃ a1 c1 a2 c2 a3 c3, u = .agg #[.int .i64 s.mode, .slice a1 s.waits.length c1, .slice a2 s.picks.length c2, .slice a3 s.takes.length c3] ∧
  Has w (.slice a1 s.waits.length c1) (dInts s.waits) ∧ Has w (.slice a2 s.picks.length c2) (dPicks s.picks) ∧ Has w (.slice a3 s.takes.length c3) (dTakes s.takes) := by
 obtain ⟨cs, rfl, hc⟩ := h
 obtain ⟨v1, v2, v3, rfl, h1, h2, h3⟩ := hasL_st hc
 obtain ⟨a1, c1, rfl⟩ := slice_of h1
 obtain ⟨a2, c2, rfl⟩ := slice_of h2
 obtain ⟨a3, c3, rfl⟩ := slice_of h3
 exact ⟨_, _, _, _, _, _, rfl, h1, h2, h3⟩
set_option maxHeartbeats 8000000 in
theorem rin_at (v : Value) (xs : List Int) (x : Int) (r : Bool) (w : World) (h : Has w v (dInts xs)) (hn : xs.length ≤ 1000000) (hr : r = true ↔ x ∈ xs) :
  Calls Try.prog 19 #[v, .int .i64 x] w fun e w' => e = .returned (.bool r) ∧ Below w.heap.size w w' := by
 obtain ⟨a1, c1, rfl⟩ := Holds.len h
 rw [List.length_map] at h ⊢
 obtain ⟨n1, hn1⟩ : ∃ n1, n1 = xs.length := ⟨_, rfl⟩
 have H := Lib.hid h
 have Hr := Lib.hid hr
 rw [← hn1] at hn ⊢
 have N1 := Lib.hid hn1
 clear h hr hn1
 go_enter Try.func19, Try.ntmps19
 go_wp2_with fail
 go_loopw [5] (fun i wr => ∃ k : Nat, i = .int .i64 k ∧ k ≤ n1 ∧ (∀ j y, j < k → xs[j]? = some y → y ≠ x) ∧ Below w.heap.size w wr) (fun i _ => n1 - (intOf i).toNat)
 case atStart => exact ⟨0, rfl, by omega, fun j x hj => by omega, Below.refl _ _⟩
 case round =>
  obtain ⟨k, rfl, hk, hno, hbr⟩ := hrel
  have Hs := Lib.hid hno
  have R := Lib.hid hbr
  clear hno hbr
  by_cases hlt : k < n1
  ·have hlt' : (k : Int) < n1 := by omega
   obtain ⟨y, hy⟩ := some_of_lt (l := xs) (i := k) (by rw [← N1.out]; exact hlt)
   obtain ⟨b, o, cap, e, hb, y0⟩ := int_cells (H.out.later R.out) hy
   rw [← N1.out] at e
   simp only [Value.slice.injEq] at e
   obtain ⟨e, _, e2⟩ := e
   subst e e2
   have Hy := Lib.hid hy
   clear hy
   by_cases hxy : y = x
   ·have hq : (y == x) = true := by simpa using hxy
    have Hf := Lib.hid (bool_yes Hr.out (by rw [← hxy]; exact List.mem_of_getElem? Hy.out))
    clear hxy
    go_wp2_with fail
    go_ret
    exact ⟨by rw [Hf.out]; rfl, R.out⟩
   ·have hq : (y == x) = false := by simpa using hxy
    have Hxy := Lib.hid hxy
    clear hxy
    go_wp2_with fail
    go_roundw
    case rel =>
     refine ⟨k + 1, by go_num, by omega, fun j z hj hz => ?_, R.out⟩
     by_cases hjk : j < k
     ·exact Hs.out j z hjk hz
     ·obtain rfl : j = k := by omega
      rw [Hy.out] at hz
      cases hz
      exact Hxy.out
    case measure => simp [intOf]; omega
  ·have hlt' : ¬ (k : Int) < n1 := by omega
   have hf : r = false := bool_no Hr.out (fun hm => by
    obtain ⟨i, hi⟩ := List.mem_iff_getElem?.1 hm
    exact Hs.out i x (by have := lt_of_some hi; rw [← N1.out] at this; omega) hi rfl)
   have Hf := Lib.hid hf
   clear hf
   go_wp2_with fail
   go_ret
   exact ⟨by rw [Hf.out]; rfl, R.out⟩
theorem rin_yes (v : Value) (xs : List Int) (x : Int) (w : World) (h : Has w v (dInts xs)) (hn : xs.length ≤ 1000000) (hr : x ∈ xs) :
  Calls Try.prog 19 #[v, .int .i64 x] w fun e w' => e = .returned (.bool true) ∧ Below w.heap.size w w' := rin_at v xs x true w h hn (by simp [hr])
theorem rin_no (v : Value) (xs : List Int) (x : Int) (w : World) (h : Has w v (dInts xs)) (hn : xs.length ≤ 1000000) (hr : ¬ x ∈ xs) :
  Calls Try.prog 19 #[v, .int .i64 x] w fun e w' => e = .returned (.bool false) ∧ Below w.heap.size w w' := rin_at v xs x false w h hn (by simp [hr])
/-- What a state waits for lies in memory, with the graph's box. -/
structure WtAt (w : World) (bx bg : Nat) (a1 : Option Addr) (c1 : Nat) (ws : List Int) (N : Int) (ga : Option Addr) (gc : Nat) (L : Lks) : Prop where
 f1 : w.cell? ⟨bx, 1, none⟩ = some (.slice a1 ws.length c1)
 g0 : w.cell? ⟨bg, 0, none⟩ = some (.int .i64 N)
 g1 : w.cell? ⟨bg, 1, none⟩ = some (.slice ga L.length gc)
 hw : Has w (.slice a1 ws.length c1) (dInts ws)
 hl : LinksAt w (.slice ga L.length gc) L
theorem WtAt.below {w w' : World} {bx bg : Nat} {a1 : Option Addr} {c1 : Nat} {ws : List Int} {N : Int} {ga : Option Addr} {gc : Nat} {L : Lks} (h : WtAt w bx bg a1 c1 ws N ga gc L) (hb : Below w.heap.size w w') : WtAt w' bx bg a1 c1 ws N ga gc L := by
 have k := fun (p : Addr) (v : Value) (e : w.cell? p = some v) => (hb.cell (World.block_lt_of_cell? w _ e)).trans e
 exact ⟨k _ _ h.f1, k _ _ h.g0, k _ _ h.g1, h.hw.later hb, h.hl.below hb⟩
/-- What the region reads. -/
structure WtS (bx bg : Nat) (b o k : Nat) (n1 c1 : Nat) (x u : Int) (N : Int) (ga : Option Addr) (ll gc : Nat) (L : Lks) (w : World) : Prop where
 s : w.cell? ⟨bx, 1, none⟩ = some (.slice (some ⟨b, o, none⟩) n1 c1) ∧ w.cell? ⟨bg, 0, none⟩ = some (.int .i64 N) ∧ w.cell? ⟨bg, 1, none⟩ = some (.slice ga ll gc) ∧ w.cell? ⟨b, o + k, none⟩ = some (.int .i64 x) ∧ (0 < k → w.cell? ⟨b, o + (k - 1), none⟩ = some (.int .i64 u))
 l : LinksAt w (.slice ga ll gc) L
theorem WtS.below {bx bg : Nat} {b o k : Nat} {n1 c1 : Nat} {x u : Int} {N : Int} {ga : Option Addr} {ll gc : Nat} {L : Lks} {w w' : World} (h : WtS bx bg b o k n1 c1 x u N ga ll gc L w) (hb : Below w.heap.size w w') : WtS bx bg b o k n1 c1 x u N ga ll gc L w' := by
 obtain ⟨⟨h1, h2, h3, h4, h5⟩, h6⟩ := h
 have k := fun (p : Addr) (v : Value) (e : w.cell? p = some v) => (hb.cell (World.block_lt_of_cell? w _ e)).trans e
 exact ⟨⟨k _ _ h1, k _ _ h2, k _ _ h3, k _ _ h4, fun h => k _ _ (h5 h)⟩, h6.below hb⟩
theorem rwaits_other (m n : Int) (a1 : Option Addr) (n1 c1 : Nat) (v2 v3 : Value) (N : Int) (g : Value) (r : Bool) (w : World) (hm : m ≠ 2) (hr : r = true ↔ n1 = 0) :
  Calls Try.prog 37 #[.agg #[.int .i64 m, .slice a1 n1 c1, v2, v3], .int .i64 n, .agg #[.int .i64 N, g]] w fun e w' => e = .returned (.bool r) ∧ Below w.heap.size w w' := by
 have hm1 : (m == 2) = false := by simpa using hm
 by_cases h0 : n1 = 0
 ·subst h0
  obtain rfl := bool_yes hr rfl
  clear hr hm
  go_enter Try.func37, Try.ntmps37
  go_wp2_with fail
  go_ret
  exact ⟨rfl, by go_grown⟩
 ·obtain rfl := bool_no hr h0
  have h1 : ((n1 : Int) == 0) = false := by simpa using h0
  have h2 : (n1 == 0) = false := by simpa using h0
  clear hr hm
  go_enter Try.func37, Try.ntmps37
  go_wp2_with fail
  go_ret
  exact ⟨rfl, by go_grown⟩
set_option maxHeartbeats 8000000 in
set_option maxRecDepth 100000 in
theorem rwaits_loop (L : Lks) (n : Int) (a1 : Option Addr) (c1 : Nat) (ws : List Int) (v2 v3 : Value) (N : Int) (g : Value) (r : Bool) (w : World) (hw : Has w (.slice a1 ws.length c1) (dInts ws)) (hg : LinksAt w g L) (hn : L.length ≤ 1000000) (hw6 : ws.length ≤ 1000000)
  (hr : r = true ↔ (0 < ws.length ∧ WaitsEach L n ws)) :
  Calls Try.prog 37 #[.agg #[.int .i64 2, .slice a1 ws.length c1, v2, v3], .int .i64 n, .agg #[.int .i64 N, g]] w fun e w' => e = .returned (.bool r) ∧ Below w.heap.size w w' := by
 obtain ⟨ga, gc, rfl⟩ := hg.at
 obtain ⟨n1, hn1⟩ : ∃ n1, n1 = ws.length := ⟨_, rfl⟩
 obtain ⟨ll, hll⟩ : ∃ ll, ll = L.length := ⟨_, rfl⟩
 obtain ⟨w1, hw1⟩ : ∃ w1, w1 = (w.alloc (.cells #[.int .i64 2, .slice a1 n1 c1, v2, v3] 99)).alloc (.cells #[.int .i64 N, .slice ga ll gc] 35) := ⟨_, rfl⟩
 have gb : Below w.heap.size w w1 := by rw [hw1]; go_grown
 have hA : WtAt w1 w.heap.size (w.heap.size + 1) a1 c1 ws N ga gc L := by
  refine ⟨?_, ?_, ?_, hw.later gb, hg.below gb⟩
  ·rw [hw1, ← hn1]; go_cell
  ·rw [hw1]; go_cell
  ·rw [hw1, ← hll]; go_cell
 have c0 : w1.cell? ⟨w.heap.size, 0, none⟩ = some (.int .i64 2) := by rw [hw1]; go_cell
 have A := Lib.hid hA
 have G := Lib.hid gb
 have Hr := Lib.hid hr
 have Hn := Lib.hid hn
 rw [← hn1] at hw6 ⊢
 rw [← hll]
 have N1 := Lib.hid hn1
 have LL := Lib.hid hll
 clear hw hg hr hn hA gb hn1 hll
 go_enter Try.func37, Try.ntmps37
 go_wp2_with fail
 rw [← hw1]
 clear hw1
 try go_wp2_with fail
 go_loopw [7] (fun i wr => ∃ k : Nat, i = .int .i64 k ∧ k ≤ n1 ∧ (∀ j x, j < k → ws[j]? = some x → (x, n) ∈ L ∧ ∀ u : Int, 0 < j → ws[j - 1]? = some u → u < x) ∧ Below w1.heap.size w1 wr) (fun i _ => n1 - (intOf i).toNat)
 case atStart => exact ⟨0, rfl, by omega, fun j x hj => by omega, Below.refl _ _⟩
 case round =>
  obtain ⟨k, rfl, hk, hno, hbr⟩ := hrel
  have Hs := Lib.hid hno
  have R := Lib.hid hbr
  have hA2 := A.out.below hbr
  have f1 := hA2.f1
  rw [← N1.out] at f1
  have BB := Lib.hid (below_step G.out.size G.out hbr)
  clear hno hbr
  by_cases hlt : k < n1
  ·have hlt' : (k : Int) < n1 := by omega
   obtain ⟨x, hx⟩ := some_of_lt (l := ws) (i := k) (by rw [← N1.out]; exact hlt)
   obtain ⟨b, o, cap, e, hb, y0⟩ := int_cells hA2.hw hx
   simp only [Value.slice.injEq] at e
   obtain ⟨e, _, e2⟩ := e
   subst e e2
   have hu : ∃ u, (0 < k → ws[k - 1]? = some u ∧ wr.cell? ⟨b, o + (k - 1), none⟩ = some (.int .i64 u)) := by
    by_cases h0 : 0 < k
    ·obtain ⟨u, hu⟩ := some_of_lt (l := ws) (i := k - 1) (by rw [← N1.out]; omega)
     obtain ⟨b', o', cap', e, _, z0⟩ := int_cells hA2.hw hu
     simp only [Value.slice.injEq, Option.some.injEq, Addr.mk.injEq] at e
     obtain ⟨⟨rfl, rfl, _⟩, _, _⟩ := e
     exact ⟨u, fun _ => ⟨hu, z0⟩⟩
    ·exact ⟨0, fun h => absurd h h0⟩
   obtain ⟨u, hu⟩ := hu
   have HU := Lib.hid hu
   have Hx := Lib.hid hx
   have Bad : Hid (∀ P : Prop, ((x, n) ∈ L → (∀ u : Int, 0 < k → ws[k - 1]? = some u → u < x) → P) → ¬ P → r = false) := Lib.hid (fun P h hP => bool_no Hr.out (fun g => hP (h (g.2 k x Hx.out).1 (g.2 k x Hx.out).2)))
   have hLk := hA2.hl
   have q0 := hA2.g0
   have q1 := hA2.g1
   rw [← LL.out] at hLk q1
   have T : Hid (WtS w.heap.size (w.heap.size + 1) b o k n1 c1 x u N ga ll gc L wr.drew) := Lib.hid (WtS.below ⟨⟨f1, q0, q1, y0, fun h => (hu h).2⟩, hLk⟩ (below_drewN (Below.refl _ wr) 1))
   have TB : Hid (Below wr.heap.size wr wr.drew) := Lib.hid (below_drewN (Below.refl _ _) 1)
   have TS : Hid (wr.heap.size ≤ wr.drew.heap.size) := Lib.hid (Nat.le_refl _)
   clear hA2 hx hu hLk q0 q1 y0
   obtain ⟨q, hq⟩ : ∃ q, q = findL L (x, n) := ⟨_, rfl⟩
   have Hq := Lib.hid hq
   clear hq
   by_cases hm : (x, n) ∈ L
   ·have hq0 : ¬ q < 0 := by rw [Hq.out]; exact fun h => (findL_neg.1 h) hm
    have hq0' : decide (q < 0) = false := by simp; omega
    have Hm := Lib.hid hm
    clear hm
    by_cases hk0 : k = 0
    ·subst hk0
     have good : ∀ u : Int, 0 < 0 → ws[0 - 1]? = some u → u < x := fun u h => by omega
     have Good := Lib.hid good
     have Tk : Hid (∀ w', WtS w.heap.size (w.heap.size + 1) b o 0 n1 c1 x u N ga ll gc L w' → w'.cell? ⟨b, o, none⟩ = some (.int .i64 x)) := Lib.hid (fun w' h => by have := h.s.2.2.2.1; rw [Nat.add_zero] at this; exact this)
     clear good
     go_wp2_with fail
     refine wp_region_held_drew (S := (fun w' => w'.cell? ⟨w.heap.size, 1, none⟩ = some (.slice (some ⟨b, o, none⟩) n1 c1) ∧ w'.cell? ⟨w.heap.size + 1, 0, none⟩ = some (.int .i64 N) ∧ w'.cell? ⟨w.heap.size + 1, 1, none⟩ = some (.slice ga ll gc) ∧ w'.cell? ⟨b, o, none⟩ = some (.int .i64 x))) (by kernel_rfl) ?_ (fun hHeld => ?_)
     ·exact ⟨T.out.s.1, T.out.s.2.1, T.out.s.2.2.1, Tk.out _ T.out⟩
     refine tq 0 ?_
     refine tq 1 ?_
     refine tq 2 ?_
     refine tq 3 ?_
     refine tq 4 ?_
     refine tq 5 ?_
     refine tq 6 ?_
     refine rd 7 fun K hK => ?_
     go_simp
     refine (rfind_at N x n _ L q _ T.out.l Hn.out Hq.out).mono ?_
     rintro e wn ⟨rfl, hbn⟩
     have T := Lib.hid (T.out.below hbn)
     have TB := Lib.hid (below_step (by exact TS.out) TB.out hbn)
     have TS := Lib.hid (Nat.le_trans TS.out hbn.size)
     clear hbn
     go_wp2_with fail
     refine hK.out _ _ ?_ (fun hHeld => ?_)
     ·exact ⟨T.out.s.1, T.out.s.2.1, T.out.s.2.2.1, Tk.out _ T.out⟩
     clear hK K
     try simp only [Act.put, List.getElem_toArray, List.getElem_cons_zero, List.getElem_cons_succ, List.setIfInBounds_toArray, List.set_cons_zero, List.set_cons_succ]
     refine tq 8 ?_
     refine tq 9 ?_
     refine tq 10 ?_
     refine tq 11 ?_
     refine tq 12 ?_
     refine tq0 13 ?_
     refine tq0 14 ?_
     refine tq0 15 ?_
     refine tq0 16 ?_
     refine tq0 17 ?_
     refine tq0 18 ?_
     refine tq0 19 ?_
     refine tq0 20 ?_
     refine tq0 21 ?_
     refine tq0 22 ?_
     refine tq0 23 ?_
     refine tq0 24 ?_
     refine tq 25 ?_
     refine tq 26 ?_
     refine wpAnyH_done (by kernel_rfl) ?_ _
     go_wp2_with fail
     go_roundw
     case rel =>
      refine ⟨0 + 1, by go_num, by omega, fun j y hj hy => ?_, below_step R.out.size R.out TB.out⟩
      obtain rfl : j = 0 := by omega
      rw [Hx.out] at hy
      cases hy
      exact ⟨Hm.out, Good.out⟩
     case measure => simp [intOf]; omega
    ·have hk1 : (0 : Int) < k := by omega
     have hk2 : 0 < k := by omega
     have hk3 : decide ((0 : Int) < k) = true := by simp; omega
     have Hk2 := Lib.hid hk2
     have hwr : IntKind.i64.wrap ((k : Int) - 1) = ((k - 1 : Nat) : Int) := by
      rw [show ((k : Int) - 1) = ((k - 1 : Nat) : Int) by omega]
      exact IntWalk.i64_in _ (by omega)
     have hkl : ((k - 1 : Nat) : Int) < (n1 : Int) := by omega
     have hkl' : k - 1 < n1 := by omega
     by_cases hle : x ≤ u
     ·have hle' : decide (x ≤ u) = true := by simpa using hle
      have Hf := Lib.hid (Bad.out _ (fun _ h => h u Hk2.out (HU.out Hk2.out).1) (by omega))
      clear hle
      go_wp2_with fail
      refine wp_region_held_drew (S := (fun w' => w'.cell? ⟨w.heap.size, 1, none⟩ = some (.slice (some ⟨b, o, none⟩) n1 c1) ∧ w'.cell? ⟨w.heap.size + 1, 0, none⟩ = some (.int .i64 N) ∧ w'.cell? ⟨w.heap.size + 1, 1, none⟩ = some (.slice ga ll gc) ∧ w'.cell? ⟨b, o + k, none⟩ = some (.int .i64 x) ∧ w'.cell? ⟨b, o + (k - 1), none⟩ = some (.int .i64 u))) (by kernel_rfl) ?_ (fun hHeld => ?_)
      ·exact ⟨T.out.s.1, T.out.s.2.1, T.out.s.2.2.1, T.out.s.2.2.2.1, T.out.s.2.2.2.2 Hk2.out⟩
      refine tq 0 ?_
      refine tq 1 ?_
      refine tq 2 ?_
      refine tq 3 ?_
      refine tq 4 ?_
      refine tq 5 ?_
      refine tq 6 ?_
      refine rd 7 fun K hK => ?_
      go_simp
      refine (rfind_at N x n _ L q _ T.out.l Hn.out Hq.out).mono ?_
      rintro e wn ⟨rfl, hbn⟩
      have T := Lib.hid (T.out.below hbn)
      have TB := Lib.hid (below_step (by exact TS.out) TB.out hbn)
      have TS := Lib.hid (Nat.le_trans TS.out hbn.size)
      clear hbn
      go_wp2_with fail
      refine hK.out _ _ ?_ (fun hHeld => ?_)
      ·exact ⟨T.out.s.1, T.out.s.2.1, T.out.s.2.2.1, T.out.s.2.2.2.1, T.out.s.2.2.2.2 Hk2.out⟩
      clear hK K
      try simp only [Act.put, List.getElem_toArray, List.getElem_cons_zero, List.getElem_cons_succ, List.setIfInBounds_toArray, List.set_cons_zero, List.set_cons_succ]
      refine tq 8 ?_
      refine tq 9 ?_
      refine tq 10 ?_
      refine tq 11 ?_
      refine tq 12 ?_
      refine tq 13 ?_
      refine tq 14 ?_
      refine tq 15 ?_
      refine tq 16 ?_
      refine tq 17 ?_
      refine tq 18 ?_
      refine tq 19 ?_
      refine tq 20 ?_
      refine tq 21 ?_
      refine tq 22 ?_
      refine tq 23 ?_
      refine tq 24 ?_
      refine tq 25 ?_
      refine tq 26 ?_
      refine wpAnyH_done (by kernel_rfl) ?_ _
      go_wp2_with fail
      go_ret
      exact ⟨by rw [Hf.out]; rfl, below_step BB.out.size BB.out TB.out⟩
     ·have hle' : decide (x ≤ u) = false := by simpa using hle
      have hlu : u < x := by omega
      have Hlu := Lib.hid hlu
      clear hle hlu
      go_wp2_with fail
      refine wp_region_held_drew (S := (fun w' => w'.cell? ⟨w.heap.size, 1, none⟩ = some (.slice (some ⟨b, o, none⟩) n1 c1) ∧ w'.cell? ⟨w.heap.size + 1, 0, none⟩ = some (.int .i64 N) ∧ w'.cell? ⟨w.heap.size + 1, 1, none⟩ = some (.slice ga ll gc) ∧ w'.cell? ⟨b, o + k, none⟩ = some (.int .i64 x) ∧ w'.cell? ⟨b, o + (k - 1), none⟩ = some (.int .i64 u))) (by kernel_rfl) ?_ (fun hHeld => ?_)
      ·exact ⟨T.out.s.1, T.out.s.2.1, T.out.s.2.2.1, T.out.s.2.2.2.1, T.out.s.2.2.2.2 Hk2.out⟩
      refine tq 0 ?_
      refine tq 1 ?_
      refine tq 2 ?_
      refine tq 3 ?_
      refine tq 4 ?_
      refine tq 5 ?_
      refine tq 6 ?_
      refine rd 7 fun K hK => ?_
      go_simp
      refine (rfind_at N x n _ L q _ T.out.l Hn.out Hq.out).mono ?_
      rintro e wn ⟨rfl, hbn⟩
      have T := Lib.hid (T.out.below hbn)
      have TB := Lib.hid (below_step (by exact TS.out) TB.out hbn)
      have TS := Lib.hid (Nat.le_trans TS.out hbn.size)
      clear hbn
      go_wp2_with fail
      refine hK.out _ _ ?_ (fun hHeld => ?_)
      ·exact ⟨T.out.s.1, T.out.s.2.1, T.out.s.2.2.1, T.out.s.2.2.2.1, T.out.s.2.2.2.2 Hk2.out⟩
      clear hK K
      try simp only [Act.put, List.getElem_toArray, List.getElem_cons_zero, List.getElem_cons_succ, List.setIfInBounds_toArray, List.set_cons_zero, List.set_cons_succ]
      refine tq 8 ?_
      refine tq 9 ?_
      refine tq 10 ?_
      refine tq 11 ?_
      refine tq 12 ?_
      refine tq 13 ?_
      refine tq 14 ?_
      refine tq 15 ?_
      refine tq 16 ?_
      refine tq 17 ?_
      refine tq 18 ?_
      refine tq 19 ?_
      refine tq 20 ?_
      refine tq 21 ?_
      refine tq 22 ?_
      refine tq 23 ?_
      refine tq 24 ?_
      refine tq 25 ?_
      refine tq 26 ?_
      refine wpAnyH_done (by kernel_rfl) ?_ _
      go_wp2_with fail
      go_roundw
      case rel =>
       refine ⟨k + 1, by go_num, by omega, fun j y hj hy => ?_, below_step R.out.size R.out TB.out⟩
       by_cases hjk : j < k
       ·exact Hs.out j y hjk hy
       ·obtain rfl : j = k := by omega
        rw [Hx.out] at hy
        cases hy
        exact ⟨Hm.out, fun u' h0 hu' => by rw [(HU.out h0).1] at hu'; cases hu'; exact Hlu.out⟩
      case measure => simp [intOf]; omega
   ·have hq0 : q < 0 := by rw [Hq.out]; exact findL_neg.2 hm
    have hq0' : decide (q < 0) = true := by simp; omega
    have Hf := Lib.hid (Bad.out _ (fun h _ => h) hm)
    clear hm
    go_wp2_with fail
    refine wp_region_held_drew (S := (fun w' => w'.cell? ⟨w.heap.size, 1, none⟩ = some (.slice (some ⟨b, o, none⟩) n1 c1) ∧ w'.cell? ⟨w.heap.size + 1, 0, none⟩ = some (.int .i64 N) ∧ w'.cell? ⟨w.heap.size + 1, 1, none⟩ = some (.slice ga ll gc) ∧ w'.cell? ⟨b, o + k, none⟩ = some (.int .i64 x))) (by kernel_rfl) ?_ (fun hHeld => ?_)
    ·exact ⟨T.out.s.1, T.out.s.2.1, T.out.s.2.2.1, T.out.s.2.2.2.1⟩
    refine tq 0 ?_
    refine tq 1 ?_
    refine tq 2 ?_
    refine tq 3 ?_
    refine tq 4 ?_
    refine tq 5 ?_
    refine tq 6 ?_
    refine rd 7 fun K hK => ?_
    go_simp
    refine (rfind_at N x n _ L q _ T.out.l Hn.out Hq.out).mono ?_
    rintro e wn ⟨rfl, hbn⟩
    have T := Lib.hid (T.out.below hbn)
    have TB := Lib.hid (below_step (by exact TS.out) TB.out hbn)
    have TS := Lib.hid (Nat.le_trans TS.out hbn.size)
    clear hbn
    go_wp2_with fail
    refine hK.out _ _ ?_ (fun hHeld => ?_)
    ·exact ⟨T.out.s.1, T.out.s.2.1, T.out.s.2.2.1, T.out.s.2.2.2.1⟩
    clear hK K
    try simp only [Act.put, List.getElem_toArray, List.getElem_cons_zero, List.getElem_cons_succ, List.setIfInBounds_toArray, List.set_cons_zero, List.set_cons_succ]
    refine tq 8 ?_
    refine tq 9 ?_
    refine tq0 10 ?_
    refine tq0 11 ?_
    refine tq0 12 ?_
    refine tq0 13 ?_
    refine tq0 14 ?_
    refine tq0 15 ?_
    refine tq0 16 ?_
    refine tq0 17 ?_
    refine tq0 18 ?_
    refine tq0 19 ?_
    refine tq0 20 ?_
    refine tq0 21 ?_
    refine tq0 22 ?_
    refine tq0 23 ?_
    refine tq0 24 ?_
    refine tq0 25 ?_
    refine tq 26 ?_
    refine wpAnyH_done (by kernel_rfl) ?_ _
    go_wp2_with fail
    go_ret
    exact ⟨by rw [Hf.out]; rfl, below_step BB.out.size BB.out TB.out⟩
  ·have hlt' : ¬ (k : Int) < n1 := by omega
   obtain rfl : k = n1 := by omega
   by_cases h0 : k = 0
   ·subst h0
    have hf : r = false := bool_no Hr.out (fun h => by have := h.1; rw [← N1.out] at this; omega)
    have Hf := Lib.hid hf
    clear hf hA2
    go_wp2_with fail
    go_ret
    exact ⟨by rw [Hf.out]; rfl, BB.out⟩
   ·have hf : r = true := bool_yes Hr.out ⟨by rw [← N1.out]; omega, fun j x hx => Hs.out j x (by have := lt_of_some hx; rw [← N1.out] at this; omega) hx⟩
    have Hf := Lib.hid hf
    have h1 : (1 : Int) ≤ k := by omega
    have h1' : decide ((1 : Int) ≤ k) = true := by simp; omega
    have h2 : 1 ≤ k := by omega
    clear hf hA2
    go_wp2_with fail
    go_ret
    exact ⟨by rw [Hf.out]; first | rfl | simp [h1'], BB.out⟩
theorem rwaits_at (L : Lks) (n : Int) (s : St) (v : Value) (N : Int) (g : Value) (r : Bool) (w : World) (h : IsSt w s v) (hg : LinksAt w g L) (hn : L.length ≤ 1000000) (hw6 : s.waits.length ≤ 1000000) (hr : r = true ↔ WaitsOK L n s) :
  Calls Try.prog 37 #[v, .int .i64 n, gv N g] w fun e w' => e = .returned (.bool r) ∧ Below w.heap.size w w' := by
 obtain ⟨a1, c1, a2, c2, a3, c3, rfl, h1, _⟩ := isSt_open h
 by_cases hm : s.mode = 2
 ·have := rwaits_loop L n a1 c1 s.waits (.slice a2 s.picks.length c2) (.slice a3 s.takes.length c3) N g r w h1 hg hn hw6 (hr.trans ⟨fun g => ⟨g.1.1 hm, g.2⟩, fun g => ⟨⟨fun _ => g.1, fun _ => hm⟩, g.2⟩⟩)
  rw [hm]
  exact this
 ·refine rwaits_other _ _ _ _ _ _ _ _ _ _ _ hm (hr.trans ⟨fun g => ?_, fun g => ⟨⟨fun h => absurd h hm, fun h => by omega⟩, fun i x hx => ?_⟩⟩)
  ·by_cases h0 : s.waits.length = 0
   ·exact h0
   ·exact absurd (g.1.2 (by omega)) hm
  ·have := lt_of_some hx; omega
end Go.Proofs.Ytennbiajnkobnaa

