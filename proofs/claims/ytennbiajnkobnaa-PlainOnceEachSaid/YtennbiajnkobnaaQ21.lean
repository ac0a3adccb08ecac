/- Texts put together. -/
import Derived.Test.YtennbiajnkobnaaQ02
import Derived.Test.YtennbiajnkobnaaQ11
import Derived.Test.YtennbiajnkobnaaQ20
set_option linter.unusedSimpArgs false
namespace Go.Proofs.Ytennbiajnkobnaa
open Go.RowKit Go.PlainAid
def DocSt (L : Lks) (n : Int) (x : Nd) (t : St) : Prop := (0 ≤ t.mode ∧ t.mode ≤ 2) ∧ WaitsOK L n t ∧ PicksOK L n x.states t ∧ ∀ (i : Nat) (u : Tk), t.takes[i]? = some u → DocTake L n x.states t.waits t.takes i u
def DocNode (L : Lks) (n : Nat) (x : Nd) : Prop := x.states.length ≤ 8 ∧ HasS x.states x.start ∧ ∀ (i : Nat) (t : St), x.states[i]? = some t → DocSt L n x t
theorem docNode_iff (L : Lks) (n : Nat) (x : Nd) : DocNode L n x ↔ NodeOK L n x := by
 have mem : ∀ t, t ∈ x.states → ∃ i : Nat, x.states[i]? = some t := fun t h => List.mem_iff_getElem?.1 h
 constructor
 ·rintro ⟨h1, h2, h3⟩
  refine ⟨h1, h2, fun t ht => ?_, fun t ht => ?_⟩
  ·obtain ⟨i, hi⟩ := mem t ht
   obtain ⟨a, b, c, d⟩ := h3 i t hi
   exact ⟨a, b, c, fun i u hu => (d i u hu).1⟩
  ·obtain ⟨i, hi⟩ := mem t ht
   obtain ⟨a, b, c, d⟩ := h3 i t hi
   intro j u hu k y hy hne
   exact ((d j u hu).2 k y hy hne).2
 ·rintro ⟨h1, h2, h3, h4⟩
  refine ⟨h1, h2, fun i t hi => ?_⟩
  obtain ⟨a, b, c, d⟩ := h3 t (List.mem_of_getElem? hi)
  refine ⟨a, b, c, fun j u hu => ⟨d j u hu, fun k y hy hne => ?_⟩⟩
  have hin := h4 t (List.mem_of_getElem? hi) j u hu k y hy hne
  obtain ⟨e0, e1⟩ := (d j u hu).2.1
  obtain ⟨q, hq⟩ := Int.eq_ofNat_of_zero_le e0
  obtain ⟨z, hz⟩ := some_of_lt (l := x.states) (i := q) (by have e1 : u.next < (x.states.length : Int) := e1; omega)
  have ez : stOf x.states u.next = z := by unfold stOf; rw [hq]; simp [List.getD, hz]
  rw [ez] at hin ⊢
  exact ⟨(h3 z (List.mem_of_getElem? hz)).2.1.1.2 (List.length_pos_of_mem hin), hin⟩
structure RdAt (w : World) (bg : Nat) (v : Value) (M : Tab) (N : Int) (ga : Option Addr) (ll gc : Nat) (L : Lks) : Prop where
 g0 : w.cell? ⟨bg, 0, none⟩ = some (.int .i64 N)
 g1 : w.cell? ⟨bg, 1, none⟩ = some (.slice ga ll gc)
 tab : Has w v (dTab M)
 hl : LinksAt w (.slice ga ll gc) L
theorem RdAt.below {w w' : World} {bg : Nat} {v : Value} {M : Tab} {N : Int} {ga : Option Addr} {ll gc : Nat} {L : Lks} (h : RdAt w bg v M N ga ll gc L) (hb : Below w.heap.size w w') : RdAt w' bg v M N ga ll gc L := by
 have k := fun (p : Addr) (v : Value) (e : w.cell? p = some v) => (hb.cell (World.block_lt_of_cell? w _ e)).trans e
 exact ⟨k _ _ h.g0, k _ _ h.g1, h.tab.later hb, h.hl.below hb⟩
structure SBox (w : World) (x : Nat) (m : Int) (a1 : Option Addr) (n1 c1 : Nat) (a2 : Option Addr) (n2 c2 : Nat) (a3 : Option Addr) (n3 c3 : Nat) (s : St) : Prop where
 y0 : w.cell? ⟨x, 0, none⟩ = some (.int .i64 m)
 y1 : w.cell? ⟨x, 1, none⟩ = some (.slice a1 n1 c1)
 y2 : w.cell? ⟨x, 2, none⟩ = some (.slice a2 n2 c2)
 y3 : w.cell? ⟨x, 3, none⟩ = some (.slice a3 n3 c3)
 st : IsSt w s (.agg #[.int .i64 m, .slice a1 n1 c1, .slice a2 n2 c2, .slice a3 n3 c3])
theorem SBox.below {w w' : World} {x : Nat} {m : Int} {a1 : Option Addr} {n1 c1 : Nat} {a2 : Option Addr} {n2 c2 : Nat} {a3 : Option Addr} {n3 c3 : Nat} {s : St} (h : SBox w x m a1 n1 c1 a2 n2 c2 a3 n3 c3 s) (hb : Below w.heap.size w w') : SBox w' x m a1 n1 c1 a2 n2 c2 a3 n3 c3 s := by
 have k := fun (p : Addr) (v : Value) (e : w.cell? p = some v) => (hb.cell (World.block_lt_of_cell? w _ e)).trans e
 exact ⟨k _ _ h.y0, k _ _ h.y1, k _ _ h.y2, k _ _ h.y3, h.st.later hb⟩
/-- A node's two cells. -/
structure NBox (w : World) (b o : Nat) (q : Int) (a4 : Option Addr) (n4 c4 : Nat) (x : Nd) : Prop where
 z0 : w.cell? ⟨b, o, none⟩ = some (.int .i64 q)
 z1 : w.cell? ⟨b, o + 1, none⟩ = some (.slice a4 n4 c4)
 hx : HasL w [.int .i64 q, .slice a4 n4 c4] x.d
 hs : Has w (.slice a4 n4 c4) (dStates x.states)
theorem NBox.below {w w' : World} {b o : Nat} {q : Int} {a4 : Option Addr} {n4 c4 : Nat} {x : Nd} (h : NBox w b o q a4 n4 c4 x) (hb : Below w.heap.size w w') : NBox w' b o q a4 n4 c4 x := by
 have k := fun (p : Addr) (v : Value) (e : w.cell? p = some v) => (hb.cell (World.block_lt_of_cell? w _ e)).trans e
 exact ⟨k _ _ h.z0, k _ _ h.z1, h.hx.later hb, h.hs.later hb⟩
theorem nbox_of {w : World} {v : Value} {M : Tab} {i : Nat} {x : Nd} (h : Has w v (dTab M)) (hx : M[i]? = some x) :
  ∃ b off cap a4 c4, v = .slice (some ⟨b, off, none⟩) M.length cap ∧ b < w.heap.size ∧ NBox w b (off + i * 2) x.start a4 x.states.length c4 x := by
 obtain ⟨b, off, cap, rfl, h1, h2, cs, h3, h4⟩ := cells_of h hx
 obtain ⟨v1, rfl, h5⟩ := hasL_nd h3
 obtain ⟨a1, c1, rfl⟩ := slice_of h5
 exact ⟨b, off, cap, _, _, rfl, h1, ⟨h4 0 _ rfl, h4 1 _ rfl, h3, h5⟩⟩
theorem rright4_graph (N : Int) (g : Value) (L : Lks) (a : Option Addr) (len cap : Nat) (w : World) (hg : LinksAt w g L) (hN : ¬ RightG N L ∨ (RightG N L ∧ ¬ (len : Int) = N)) :
  Calls Try.prog 17 #[.slice a len cap, gv N g] w fun e w' => e = .returned (.bool false) ∧ Below w.heap.size w w' := by
 obtain ⟨ga, gc, rfl⟩ := hg.at
 have H := Lib.hid (hg.below (below_new w (.cells #[.int .i64 N, .slice ga L.length gc] 35)))
 rcases hN with hR | ⟨hR, hl⟩
 ·have HR := Lib.hid hR
  clear hg hR
  simp only [gv]
  go_enter Try.func17, Try.ntmps17
  try simp only [List.append_eq, List.cons_append, List.nil_append]
  go_wp2_with fail
  refine (rright_false N _ L _ H.out HR.out).mono ?_
  rintro e w' ⟨rfl, hb⟩
  have B := Lib.hid ((below_new w _).trans (hb.mono (by simp)))
  clear hb
  go_wp2_with fail
  go_ret
  exact ⟨rfl, B.out⟩
 ·have HR := Lib.hid hR
  have hl' : ((len : Int) == N) = false := by simpa using hl
  clear hg hR hl
  simp only [gv]
  go_enter Try.func17, Try.ntmps17
  try simp only [List.append_eq, List.cons_append, List.nil_append]
  go_wp2_with fail
  refine (rright_true N _ L _ H.out HR.out).mono ?_
  rintro e w' ⟨rfl, hb⟩
  have B := Lib.hid ((below_new w _).trans (hb.mono (by simp)))
  have s0 : w'.cell? ⟨w.heap.size, 0, none⟩ = some (.int .i64 N) := (hb.cell (by simp)).trans (World.cell?_alloc_at _ _ _ _ rfl)
  clear hb
  go_wp2_with fail
  go_ret
  exact ⟨rfl, B.out⟩
set_option maxHeartbeats 80000000 in
set_option maxRecDepth 100000 in
theorem rright4_loop (N : Nat) (g : Value) (L : Lks) (M : Tab) (a : Option Addr) (cap : Nat) (r : Bool) (w : World) (h : Has w (.slice a M.length cap) (dTab M)) (hg : LinksAt w g L) (hn : L.length ≤ 1000000) (hsm : SmallTab M) (hR : RightG N L) (hl : (M.length : Int) = (N : Int))
  (hr : r = true ↔ ∀ (n : Nat) (x : Nd), M[n]? = some x → DocNode L n x) :
  Calls Try.prog 17 #[.slice a M.length cap, gv N g] w fun e w' => e = .returned (.bool r) ∧ Below w.heap.size w w' := by
 obtain ⟨ga, gc, rfl⟩ := hg.at
 obtain ⟨ll, hll⟩ : ∃ ll, ll = L.length := ⟨_, rfl⟩
 rw [← hll] at hg
 have H := Lib.hid (hg.below (below_new w (.cells #[.int .i64 N, .slice ga ll gc] 35)))
 have HT := Lib.hid (h.later (below_new w (.cells #[.int .i64 N, .slice ga ll gc] 35)))
 have HR := Lib.hid hR
 have Hr := Lib.hid hr
 have Hn := Lib.hid hn
 have Hsm := Lib.hid hsm
 have hn6 : N ≤ 6 := by have := hR.2.1; omega
 have hlen : M.length = N := by omega
 rw [hlen] at HT ⊢
 rw [← hll]
 have Hlen := Lib.hid hlen
 clear h hg hR hr hn hsm hl hlen hll
 simp only [gv]
 go_enter Try.func17, Try.ntmps17
 try simp only [List.append_eq, List.cons_append, List.nil_append]
 go_wp2_with fail
 refine (rright_true N _ L _ H.out HR.out).mono ?_
 rintro e w1 ⟨rfl, hb⟩
 have B := Lib.hid ((below_new w _).trans (hb.mono (by simp)))
 have s0 : w1.cell? ⟨w.heap.size, 0, none⟩ = some (.int .i64 N) := (hb.cell (by simp)).trans (World.cell?_alloc_at _ _ _ _ rfl)
 have s1 : w1.cell? ⟨w.heap.size, 1, none⟩ = some (.slice ga ll gc) := (hb.cell (by simp)).trans (World.cell?_alloc_at _ _ _ _ rfl)
 have A := Lib.hid (show RdAt w1 w.heap.size (.slice a N cap) M N ga ll gc L from ⟨s0, s1, HT.out.later hb, H.out.below hb⟩)
 clear hb s1
 go_wp2_with fail
 go_loopw [5, 6] (fun i _ wr => ∃ k : Nat, i = .int .i64 k ∧ k ≤ N ∧ (∀ i x, i < k → M[i]? = some x → DocNode L i x) ∧ Below w1.heap.size w1 wr) (fun i _ _ => N - (intOf i).toNat)
 case atStart => exact ⟨0, rfl, by omega, fun j x hj => by omega, Below.refl _ _⟩
 case round =>
  obtain ⟨n, rfl, hk, hno, hbr⟩ := hrel
  have Hs := Lib.hid hno
  have R := Lib.hid hbr
  have hA2 := A.out.below hbr
  have A2 := Lib.hid hA2
  have BB := Lib.hid (below_step B.out.size B.out hbr)
  clear hno hbr
  by_cases hlt : n < N
  ·have hlt' : (n : Int) < N := by omega
   obtain ⟨x, hx⟩ := some_of_lt (l := M) (i := n) (by rw [Hlen.out]; exact hlt)
   obtain ⟨bb, off, cp, a4, c4, e, hb, hB⟩ := nbox_of hA2.tab hx
   rw [Hlen.out] at e
   simp only [Value.slice.injEq] at e
   obtain ⟨e, _, e'⟩ := e
   subst e e'
   obtain ⟨sn, hsn⟩ : ∃ sn, sn = x.states.length := ⟨_, rfl⟩
   obtain ⟨q, hq⟩ : ∃ q, q = x.start := ⟨_, rfl⟩
   rw [← hsn, ← hq] at hB
   have Hx := Lib.hid hx
   have Sn := Lib.hid hsn
   have Hq := Lib.hid hq
   have Hxs := Lib.hid (Hsm.out.2 x (List.mem_of_getElem? hx))
   have NB := Lib.hid hB
   have z0 := hB.z0
   have z1 := hB.z1
   have Bad : Hid (∀ P : Prop, (DocNode L n x → P) → ¬ P → r = false) := Lib.hid (fun P h hP => bool_no Hr.out (fun g => hP (h (g n x Hx.out))))
   clear hA2 hx hsn hq hB
   by_cases hc1 : sn < 1
   ·have hc1' : (sn : Int) < 1 := by omega
    have hc1'' : decide ((sn : Int) < 1) = true := by simp; omega
    have Hf := Lib.hid (Bad.out _ (fun h => h.2.1) (fun h => by have h0 := h.1; have h1 := h.2; rw [← Sn.out] at h1; omega))
    go_wp2_with fail
    go_ret
    exact ⟨by rw [Hf.out]; rfl, BB.out⟩
   ·have hc1' : ¬ (sn : Int) < 1 := by omega
    have hc1'' : decide ((sn : Int) < 1) = false := by simp; omega
    by_cases hc8 : 8 < sn
    ·have hc8' : (8 : Int) < sn := by omega
     have hc8'' : decide ((8 : Int) < sn) = true := by simp; omega
     have Hf := Lib.hid (Bad.out _ (fun h => h.1) (by rw [← Sn.out]; omega))
     go_wp2_with fail
     go_ret
     exact ⟨by rw [Hf.out]; rfl, BB.out⟩
    ·have hc8' : ¬ (8 : Int) < sn := by omega
     have hc8'' : decide ((8 : Int) < sn) = false := by simp; omega
     by_cases hs0 : q < 0
     ·have hs0' : decide (q < 0) = true := by simpa using hs0
      have Hf := Lib.hid (Bad.out _ (fun h => h.2.1.1) (by rw [← Hq.out]; omega))
      go_wp2_with fail
      go_ret
      exact ⟨by rw [Hf.out]; rfl, BB.out⟩
     ·have hs0' : decide (q < 0) = false := by simpa using hs0
      by_cases hs1 : (sn : Int) ≤ q
      ·have hs1' : decide ((sn : Int) ≤ q) = true := by simpa using hs1
       have Hf := Lib.hid (Bad.out _ (fun h => h.2.1.2) (by rw [← Hq.out, ← Sn.out]; omega))
       go_wp2_with fail
       go_ret
       exact ⟨by rw [Hf.out]; rfl, BB.out⟩
      ·have hs1' : decide ((sn : Int) ≤ q) = false := by simpa using hs1
       have Ys : Hid (HasS x.states x.start) := Lib.hid ⟨by rw [← Hq.out]; omega, by rw [← Hq.out, ← Sn.out]; omega⟩
       obtain ⟨wp, hwp⟩ : ∃ wp, wp = wr := ⟨_, rfl⟩
       subst hwp
       have Hc8 := Lib.hid hc8
       go_wp2_with fail
       go_loopw [7] (fun i wq => ∃ k : Nat, i = .int .i64 k ∧ k ≤ sn ∧ (∀ (i : Nat) (t : St), i < k → x.states[i]? = some t → DocSt L n x t) ∧ Below wp.heap.size wp wq) (fun i _ => sn - (intOf i).toNat)
       case atStart => exact ⟨0, rfl, by omega, fun j x hj => by omega, Below.refl _ _⟩
       case round =>
        obtain ⟨k, rfl, hk2, hno2, hbr2⟩ := hrel
        obtain ⟨wo, hwo⟩ : ∃ wo, wo = wr := ⟨_, rfl⟩
        subst hwo
        have Hs2 := Lib.hid hno2
        have T0 := Lib.hid hbr2
        have hN := NB.out.below hbr2
        have hA4 := A2.out.below hbr2
        have BT := Lib.hid (below_step BB.out.size BB.out hbr2)
        have v0 := hN.z0
        have v1 := hN.z1
        clear hno2 hbr2
        by_cases hlt2 : k < sn
        ·have hlt2' : (k : Int) < sn := by omega
         obtain ⟨t, ht⟩ := some_of_lt (l := x.states) (i := k) (by rw [← Sn.out]; exact hlt2)
         obtain ⟨b4, o4, cap4, m, a1, n1, c1, a2, n2, c2, a3, n3, c3, e, hb4, hE, hmm, hX⟩ := ebox_of hN.hs ht
         clear hX
         simp only [Value.slice.injEq] at e
         obtain ⟨e, e0, e2⟩ := e
         clear e0
         subst e e2
         have Ht := Lib.hid ht
         have Hmm := Lib.hid hmm
         have x0 := hE.e0
         have x1 := hE.e1
         have x2 := hE.e2
         have x3 := hE.e3
         obtain ⟨w2, hw2⟩ : ∃ w2, w2 = wo.alloc (.cells #[.int .i64 m, .slice a1 n1 c1, .slice a2 n2 c2, .slice a3 n3 c3] 99) := ⟨_, rfl⟩
         have hb2 : Below wo.heap.size wo w2 := by rw [hw2]; exact below_new _ _
         have hSB : SBox w2 wo.heap.size m a1 n1 c1 a2 n2 c2 a3 n3 c3 t := by
          refine ⟨?_, ?_, ?_, ?_, hE.st.later hb2⟩ <;> (rw [hw2]; exact World.cell?_alloc_at _ _ _ _ rfl)
         have hb3 := below_drewN (Below.refl w2.heap.size w2) 1
         have T := Lib.hid ((hA4.below hb2).below hb3)
         have Y := Lib.hid (hSB.below hb3)
         have Z := Lib.hid ((hN.below hb2).below hb3)
         have TB : Hid (Below wo.heap.size wo w2.drew) := Lib.hid (below_drewN hb2 1)
         have TS : Hid (wo.heap.size ≤ w2.drew.heap.size) := Lib.hid hb2.size
         have Bad2 : Hid (∀ P : Prop, (DocSt L n x t → P) → ¬ P → r = false) := Lib.hid (fun P h hP => Bad.out P (fun g => h (g.2.2 k t Ht.out)) hP)
         have Hts := Lib.hid (Hxs.out.2 t (List.mem_of_getElem? ht))
         have Hxw : Hid (∀ s ∈ x.states, s.waits.length ≤ 1000000) := Lib.hid (fun s hs => (Hxs.out.2 s hs).1)
         clear hE hN hA4 ht hmm hb2 hb3 hSB
         by_cases hm0 : m < 0
         ·have hm0' : decide (m < 0) = true := by simpa using hm0
          have Hf := Lib.hid (Bad2.out _ (fun h => h.1.1) (by rw [← Hmm.out]; omega))
          go_wp2_with fail
          rw [← hw2]
          clear hw2
          refine wp_region_held_drew (S := (fun w' => w'.cell? ⟨wo.heap.size, 0, none⟩ = some (.int .i64 m) ∧ w'.cell? ⟨wo.heap.size, 1, none⟩ = some (.slice a1 n1 c1) ∧ w'.cell? ⟨wo.heap.size, 2, none⟩ = some (.slice a2 n2 c2) ∧ w'.cell? ⟨wo.heap.size, 3, none⟩ = some (.slice a3 n3 c3) ∧ w'.cell? ⟨w.heap.size, 0, none⟩ = some (.int .i64 N) ∧ w'.cell? ⟨w.heap.size, 1, none⟩ = some (.slice ga ll gc) ∧ w'.cell? ⟨bb, off + n * 2, none⟩ = some (.int .i64 q) ∧ w'.cell? ⟨bb, off + n * 2 + 1, none⟩ = some (.slice (some ⟨b4, o4, none⟩) sn c4))) (by kernel_rfl) ?_ (fun hHeld => ?_)
          ·exact ⟨Y.out.y0, Y.out.y1, Y.out.y2, Y.out.y3, T.out.g0, T.out.g1, Z.out.z0, Z.out.z1⟩
          refine tq 0 ?_
          refine tq 1 ?_
          refine tq 2 ?_
          refine tq 3 ?_
          refine tq0 4 ?_
          refine tq0 5 ?_
          refine tq0 6 ?_
          refine tq 7 ?_
          refine tq 8 ?_
          refine tq0 9 ?_
          refine tq0 10 ?_
          refine tq0 11 ?_
          refine tq0 12 ?_
          refine tq0 13 ?_
          refine tq 14 ?_
          refine tq 15 ?_
          refine tq0 16 ?_
          refine tq0 17 ?_
          refine tq0 18 ?_
          refine tq0 19 ?_
          refine tq0 20 ?_
          refine tq0 21 ?_
          refine tq 22 ?_
          refine tq 23 ?_
          refine tq0 24 ?_
          refine tq0 25 ?_
          refine tq0 26 ?_
          refine tq0 27 ?_
          refine tq0 28 ?_
          refine tq0 29 ?_
          refine tq0 30 ?_
          refine tq0 31 ?_
          refine tq0 32 ?_
          refine tq 33 ?_
          refine wpAnyH_done (by kernel_rfl) ?_ _
          go_wp2_with fail
          go_ret
          exact ⟨by rw [Hf.out]; rfl, below_step BT.out.size BT.out TB.out⟩
         ·have hm0' : decide (m < 0) = false := by simpa using hm0
          by_cases hm2 : 2 < m
          ·have hm2' : decide (2 < m) = true := by simpa using hm2
           have Hf := Lib.hid (Bad2.out _ (fun h => h.1.2) (by rw [← Hmm.out]; omega))
           go_wp2_with fail
           rw [← hw2]
           clear hw2
           refine wp_region_held_drew (S := (fun w' => w'.cell? ⟨wo.heap.size, 0, none⟩ = some (.int .i64 m) ∧ w'.cell? ⟨wo.heap.size, 1, none⟩ = some (.slice a1 n1 c1) ∧ w'.cell? ⟨wo.heap.size, 2, none⟩ = some (.slice a2 n2 c2) ∧ w'.cell? ⟨wo.heap.size, 3, none⟩ = some (.slice a3 n3 c3) ∧ w'.cell? ⟨w.heap.size, 0, none⟩ = some (.int .i64 N) ∧ w'.cell? ⟨w.heap.size, 1, none⟩ = some (.slice ga ll gc) ∧ w'.cell? ⟨bb, off + n * 2, none⟩ = some (.int .i64 q) ∧ w'.cell? ⟨bb, off + n * 2 + 1, none⟩ = some (.slice (some ⟨b4, o4, none⟩) sn c4))) (by kernel_rfl) ?_ (fun hHeld => ?_)
           ·exact ⟨Y.out.y0, Y.out.y1, Y.out.y2, Y.out.y3, T.out.g0, T.out.g1, Z.out.z0, Z.out.z1⟩
           refine tq 0 ?_
           refine tq 1 ?_
           refine tq 2 ?_
           refine tq 3 ?_
           refine tq 4 ?_
           refine tq 5 ?_
           refine tq 6 ?_
           refine tq 7 ?_
           refine tq 8 ?_
           refine tq0 9 ?_
           refine tq0 10 ?_
           refine tq0 11 ?_
           refine tq0 12 ?_
           refine tq0 13 ?_
           refine tq 14 ?_
           refine tq 15 ?_
           refine tq0 16 ?_
           refine tq0 17 ?_
           refine tq0 18 ?_
           refine tq0 19 ?_
           refine tq0 20 ?_
           refine tq0 21 ?_
           refine tq 22 ?_
           refine tq 23 ?_
           refine tq0 24 ?_
           refine tq0 25 ?_
           refine tq0 26 ?_
           refine tq0 27 ?_
           refine tq0 28 ?_
           refine tq0 29 ?_
           refine tq0 30 ?_
           refine tq0 31 ?_
           refine tq0 32 ?_
           refine tq 33 ?_
           refine wpAnyH_done (by kernel_rfl) ?_ _
           go_wp2_with fail
           go_ret
           exact ⟨by rw [Hf.out]; rfl, below_step BT.out.size BT.out TB.out⟩
          ·have hm2' : decide (2 < m) = false := by simpa using hm2
           by_cases hw : WaitsOK L n t
           ·have HW := Lib.hid hw
            by_cases hp : PicksOK L n x.states t
            ·have HP := Lib.hid hp
             by_cases htk : ∀ (i : Nat) (u : Tk), t.takes[i]? = some u → DocTake L n x.states t.waits t.takes i u
             ·have HK := Lib.hid htk
              have Hm : Hid (0 ≤ t.mode ∧ t.mode ≤ 2) := Lib.hid ⟨by rw [← Hmm.out]; omega, by rw [← Hmm.out]; omega⟩
              clear hw hp htk
              go_wp2_with fail
              rw [← hw2]
              clear hw2
              refine wp_region_held_drew (S := (fun w' => w'.cell? ⟨wo.heap.size, 0, none⟩ = some (.int .i64 m) ∧ w'.cell? ⟨wo.heap.size, 1, none⟩ = some (.slice a1 n1 c1) ∧ w'.cell? ⟨wo.heap.size, 2, none⟩ = some (.slice a2 n2 c2) ∧ w'.cell? ⟨wo.heap.size, 3, none⟩ = some (.slice a3 n3 c3) ∧ w'.cell? ⟨w.heap.size, 0, none⟩ = some (.int .i64 N) ∧ w'.cell? ⟨w.heap.size, 1, none⟩ = some (.slice ga ll gc) ∧ w'.cell? ⟨bb, off + n * 2, none⟩ = some (.int .i64 q) ∧ w'.cell? ⟨bb, off + n * 2 + 1, none⟩ = some (.slice (some ⟨b4, o4, none⟩) sn c4))) (by kernel_rfl) ?_ (fun hHeld => ?_)
              ·exact ⟨Y.out.y0, Y.out.y1, Y.out.y2, Y.out.y3, T.out.g0, T.out.g1, Z.out.z0, Z.out.z1⟩
              refine tq 0 ?_
              refine tq 1 ?_
              refine tq 2 ?_
              refine tq 3 ?_
              refine tq 4 ?_
              refine tq 5 ?_
              refine tq 6 ?_
              refine tq 7 ?_
              refine tq 8 ?_
              refine tq 9 ?_
              refine tq 10 ?_
              refine tq 11 ?_
              refine rd 12 fun K hK => ?_
              go_simp
              refine (rwaits_at L n t _ N _ true _ Y.out.st T.out.hl Hn.out Hts.out.1 ⟨fun _ => HW.out, fun _ => rfl⟩).mono ?_
              rintro e wn ⟨rfl, hbn⟩
              have T := Lib.hid (T.out.below hbn)
              have Y := Lib.hid (Y.out.below hbn)
              have Z := Lib.hid (Z.out.below hbn)
              have TB := Lib.hid (below_step (by exact TS.out) TB.out hbn)
              have TS := Lib.hid (Nat.le_trans TS.out hbn.size)
              clear hbn
              go_wp2_with fail
              refine hK.out _ _ ?_ (fun hHeld => ?_)
              ·exact ⟨Y.out.y0, Y.out.y1, Y.out.y2, Y.out.y3, T.out.g0, T.out.g1, Z.out.z0, Z.out.z1⟩
              clear hK K
              try simp only [Act.put, List.getElem_toArray, List.getElem_cons_zero, List.getElem_cons_succ, List.setIfInBounds_toArray, List.set_cons_zero, List.set_cons_succ]
              refine tq 13 ?_
              refine tq 14 ?_
              refine tq 15 ?_
              refine tq 16 ?_
              refine tq 17 ?_
              refine tq 18 ?_
              refine tq 19 ?_
              refine rd 20 fun K hK => ?_
              go_simp
              refine (rpicks_at L n t x.states _ _ N _ true _ (by rw [Sn.out]) Y.out.st T.out.hl Hn.out ⟨fun _ => HP.out, fun _ => rfl⟩).mono ?_
              rintro e wn ⟨rfl, hbn⟩
              have T := Lib.hid (T.out.below hbn)
              have Y := Lib.hid (Y.out.below hbn)
              have Z := Lib.hid (Z.out.below hbn)
              have TB := Lib.hid (below_step (by exact TS.out) TB.out hbn)
              have TS := Lib.hid (Nat.le_trans TS.out hbn.size)
              clear hbn
              go_wp2_with fail
              refine hK.out _ _ ?_ (fun hHeld => ?_)
              ·exact ⟨Y.out.y0, Y.out.y1, Y.out.y2, Y.out.y3, T.out.g0, T.out.g1, Z.out.z0, Z.out.z1⟩
              clear hK K
              try simp only [Act.put, List.getElem_toArray, List.getElem_cons_zero, List.getElem_cons_succ, List.setIfInBounds_toArray, List.set_cons_zero, List.set_cons_succ]
              refine tq 21 ?_
              refine tq 22 ?_
              refine tq 23 ?_
              refine tq 24 ?_
              refine tq 25 ?_
              refine tq 26 ?_
              refine tq 27 ?_
              refine tq 28 ?_
              refine tq 29 ?_
              refine tq 30 ?_
              refine rd 31 fun K hK => ?_
              go_simp
              refine (rtakes_at L n t x _ _ N _ true _ q Hq.out Y.out.st Z.out.hx T.out.hl Hn.out Hts.out Hxw.out ⟨fun _ => HK.out, fun _ => rfl⟩).mono ?_
              rintro e wn ⟨rfl, hbn⟩
              have T := Lib.hid (T.out.below hbn)
              have Y := Lib.hid (Y.out.below hbn)
              have Z := Lib.hid (Z.out.below hbn)
              have TB := Lib.hid (below_step (by exact TS.out) TB.out hbn)
              have TS := Lib.hid (Nat.le_trans TS.out hbn.size)
              clear hbn
              go_wp2_with fail
              refine hK.out _ _ ?_ (fun hHeld => ?_)
              ·exact ⟨Y.out.y0, Y.out.y1, Y.out.y2, Y.out.y3, T.out.g0, T.out.g1, Z.out.z0, Z.out.z1⟩
              clear hK K
              try simp only [Act.put, List.getElem_toArray, List.getElem_cons_zero, List.getElem_cons_succ, List.setIfInBounds_toArray, List.set_cons_zero, List.set_cons_succ]
              refine tq 32 ?_
              refine tq 33 ?_
              refine wpAnyH_done (by kernel_rfl) ?_ _
              go_wp2_with fail
              go_roundw
              case rel =>
               refine ⟨k + 1, by go_num, by omega, fun j y hj hy => ?_, below_step T0.out.size T0.out TB.out⟩
               by_cases hjk : j < k
               ·exact Hs2.out j y hjk hy
               ·obtain rfl : j = k := by omega
                rw [Ht.out] at hy
                cases hy
                exact ⟨Hm.out, HW.out, HP.out, HK.out⟩
              case measure => simp [intOf]; omega
             ·have HK := Lib.hid htk
              have Hf := Lib.hid (Bad2.out _ (fun h => h.2.2.2) htk)
              clear hw hp htk
              go_wp2_with fail
              rw [← hw2]
              clear hw2
              refine wp_region_held_drew (S := (fun w' => w'.cell? ⟨wo.heap.size, 0, none⟩ = some (.int .i64 m) ∧ w'.cell? ⟨wo.heap.size, 1, none⟩ = some (.slice a1 n1 c1) ∧ w'.cell? ⟨wo.heap.size, 2, none⟩ = some (.slice a2 n2 c2) ∧ w'.cell? ⟨wo.heap.size, 3, none⟩ = some (.slice a3 n3 c3) ∧ w'.cell? ⟨w.heap.size, 0, none⟩ = some (.int .i64 N) ∧ w'.cell? ⟨w.heap.size, 1, none⟩ = some (.slice ga ll gc) ∧ w'.cell? ⟨bb, off + n * 2, none⟩ = some (.int .i64 q) ∧ w'.cell? ⟨bb, off + n * 2 + 1, none⟩ = some (.slice (some ⟨b4, o4, none⟩) sn c4))) (by kernel_rfl) ?_ (fun hHeld => ?_)
              ·exact ⟨Y.out.y0, Y.out.y1, Y.out.y2, Y.out.y3, T.out.g0, T.out.g1, Z.out.z0, Z.out.z1⟩
              refine tq 0 ?_
              refine tq 1 ?_
              refine tq 2 ?_
              refine tq 3 ?_
              refine tq 4 ?_
              refine tq 5 ?_
              refine tq 6 ?_
              refine tq 7 ?_
              refine tq 8 ?_
              refine tq 9 ?_
              refine tq 10 ?_
              refine tq 11 ?_
              refine rd 12 fun K hK => ?_
              go_simp
              refine (rwaits_at L n t _ N _ true _ Y.out.st T.out.hl Hn.out Hts.out.1 ⟨fun _ => HW.out, fun _ => rfl⟩).mono ?_
              rintro e wn ⟨rfl, hbn⟩
              have T := Lib.hid (T.out.below hbn)
              have Y := Lib.hid (Y.out.below hbn)
              have Z := Lib.hid (Z.out.below hbn)
              have TB := Lib.hid (below_step (by exact TS.out) TB.out hbn)
              have TS := Lib.hid (Nat.le_trans TS.out hbn.size)
              clear hbn
              go_wp2_with fail
              refine hK.out _ _ ?_ (fun hHeld => ?_)
              ·exact ⟨Y.out.y0, Y.out.y1, Y.out.y2, Y.out.y3, T.out.g0, T.out.g1, Z.out.z0, Z.out.z1⟩
              clear hK K
              try simp only [Act.put, List.getElem_toArray, List.getElem_cons_zero, List.getElem_cons_succ, List.setIfInBounds_toArray, List.set_cons_zero, List.set_cons_succ]
              refine tq 13 ?_
              refine tq 14 ?_
              refine tq 15 ?_
              refine tq 16 ?_
              refine tq 17 ?_
              refine tq 18 ?_
              refine tq 19 ?_
              refine rd 20 fun K hK => ?_
              go_simp
              refine (rpicks_at L n t x.states _ _ N _ true _ (by rw [Sn.out]) Y.out.st T.out.hl Hn.out ⟨fun _ => HP.out, fun _ => rfl⟩).mono ?_
              rintro e wn ⟨rfl, hbn⟩
              have T := Lib.hid (T.out.below hbn)
              have Y := Lib.hid (Y.out.below hbn)
              have Z := Lib.hid (Z.out.below hbn)
              have TB := Lib.hid (below_step (by exact TS.out) TB.out hbn)
              have TS := Lib.hid (Nat.le_trans TS.out hbn.size)
              clear hbn
              go_wp2_with fail
              refine hK.out _ _ ?_ (fun hHeld => ?_)
              ·exact ⟨Y.out.y0, Y.out.y1, Y.out.y2, Y.out.y3, T.out.g0, T.out.g1, Z.out.z0, Z.out.z1⟩
              clear hK K
              try simp only [Act.put, List.getElem_toArray, List.getElem_cons_zero, List.getElem_cons_succ, List.setIfInBounds_toArray, List.set_cons_zero, List.set_cons_succ]
              refine tq 21 ?_
              refine tq 22 ?_
              refine tq 23 ?_
              refine tq 24 ?_
              refine tq 25 ?_
              refine tq 26 ?_
              refine tq 27 ?_
              refine tq 28 ?_
              refine tq 29 ?_
              refine tq 30 ?_
              refine rd 31 fun K hK => ?_
              go_simp
              refine (rtakes_at L n t x _ _ N _ false _ q Hq.out Y.out.st Z.out.hx T.out.hl Hn.out Hts.out Hxw.out ⟨fun h => (by cases h), fun h => absurd h HK.out⟩).mono ?_
              rintro e wn ⟨rfl, hbn⟩
              have T := Lib.hid (T.out.below hbn)
              have Y := Lib.hid (Y.out.below hbn)
              have Z := Lib.hid (Z.out.below hbn)
              have TB := Lib.hid (below_step (by exact TS.out) TB.out hbn)
              have TS := Lib.hid (Nat.le_trans TS.out hbn.size)
              clear hbn
              go_wp2_with fail
              refine hK.out _ _ ?_ (fun hHeld => ?_)
              ·exact ⟨Y.out.y0, Y.out.y1, Y.out.y2, Y.out.y3, T.out.g0, T.out.g1, Z.out.z0, Z.out.z1⟩
              clear hK K
              try simp only [Act.put, List.getElem_toArray, List.getElem_cons_zero, List.getElem_cons_succ, List.setIfInBounds_toArray, List.set_cons_zero, List.set_cons_succ]
              refine tq 32 ?_
              refine tq 33 ?_
              refine wpAnyH_done (by kernel_rfl) ?_ _
              go_wp2_with fail
              go_ret
              exact ⟨by rw [Hf.out]; rfl, below_step BT.out.size BT.out TB.out⟩
            ·have HP := Lib.hid hp
             have Hf := Lib.hid (Bad2.out _ (fun h => h.2.2.1) hp)
             clear hw hp
             go_wp2_with fail
             rw [← hw2]
             clear hw2
             refine wp_region_held_drew (S := (fun w' => w'.cell? ⟨wo.heap.size, 0, none⟩ = some (.int .i64 m) ∧ w'.cell? ⟨wo.heap.size, 1, none⟩ = some (.slice a1 n1 c1) ∧ w'.cell? ⟨wo.heap.size, 2, none⟩ = some (.slice a2 n2 c2) ∧ w'.cell? ⟨wo.heap.size, 3, none⟩ = some (.slice a3 n3 c3) ∧ w'.cell? ⟨w.heap.size, 0, none⟩ = some (.int .i64 N) ∧ w'.cell? ⟨w.heap.size, 1, none⟩ = some (.slice ga ll gc) ∧ w'.cell? ⟨bb, off + n * 2, none⟩ = some (.int .i64 q) ∧ w'.cell? ⟨bb, off + n * 2 + 1, none⟩ = some (.slice (some ⟨b4, o4, none⟩) sn c4))) (by kernel_rfl) ?_ (fun hHeld => ?_)
             ·exact ⟨Y.out.y0, Y.out.y1, Y.out.y2, Y.out.y3, T.out.g0, T.out.g1, Z.out.z0, Z.out.z1⟩
             refine tq 0 ?_
             refine tq 1 ?_
             refine tq 2 ?_
             refine tq 3 ?_
             refine tq 4 ?_
             refine tq 5 ?_
             refine tq 6 ?_
             refine tq 7 ?_
             refine tq 8 ?_
             refine tq 9 ?_
             refine tq 10 ?_
             refine tq 11 ?_
             refine rd 12 fun K hK => ?_
             go_simp
             refine (rwaits_at L n t _ N _ true _ Y.out.st T.out.hl Hn.out Hts.out.1 ⟨fun _ => HW.out, fun _ => rfl⟩).mono ?_
             rintro e wn ⟨rfl, hbn⟩
             have T := Lib.hid (T.out.below hbn)
             have Y := Lib.hid (Y.out.below hbn)
             have Z := Lib.hid (Z.out.below hbn)
             have TB := Lib.hid (below_step (by exact TS.out) TB.out hbn)
             have TS := Lib.hid (Nat.le_trans TS.out hbn.size)
             clear hbn
             go_wp2_with fail
             refine hK.out _ _ ?_ (fun hHeld => ?_)
             ·exact ⟨Y.out.y0, Y.out.y1, Y.out.y2, Y.out.y3, T.out.g0, T.out.g1, Z.out.z0, Z.out.z1⟩
             clear hK K
             try simp only [Act.put, List.getElem_toArray, List.getElem_cons_zero, List.getElem_cons_succ, List.setIfInBounds_toArray, List.set_cons_zero, List.set_cons_succ]
             refine tq 13 ?_
             refine tq 14 ?_
             refine tq 15 ?_
             refine tq 16 ?_
             refine tq 17 ?_
             refine tq 18 ?_
             refine tq 19 ?_
             refine rd 20 fun K hK => ?_
             go_simp
             refine (rpicks_at L n t x.states _ _ N _ false _ (by rw [Sn.out]) Y.out.st T.out.hl Hn.out ⟨fun h => (by cases h), fun h => absurd h HP.out⟩).mono ?_
             rintro e wn ⟨rfl, hbn⟩
             have T := Lib.hid (T.out.below hbn)
             have Y := Lib.hid (Y.out.below hbn)
             have Z := Lib.hid (Z.out.below hbn)
             have TB := Lib.hid (below_step (by exact TS.out) TB.out hbn)
             have TS := Lib.hid (Nat.le_trans TS.out hbn.size)
             clear hbn
             go_wp2_with fail
             refine hK.out _ _ ?_ (fun hHeld => ?_)
             ·exact ⟨Y.out.y0, Y.out.y1, Y.out.y2, Y.out.y3, T.out.g0, T.out.g1, Z.out.z0, Z.out.z1⟩
             clear hK K
             try simp only [Act.put, List.getElem_toArray, List.getElem_cons_zero, List.getElem_cons_succ, List.setIfInBounds_toArray, List.set_cons_zero, List.set_cons_succ]
             refine tq 21 ?_
             refine tq 22 ?_
             refine tq 23 ?_
             refine tq0 24 ?_
             refine tq0 25 ?_
             refine tq0 26 ?_
             refine tq0 27 ?_
             refine tq0 28 ?_
             refine tq0 29 ?_
             refine tq0 30 ?_
             refine tq0 31 ?_
             refine tq0 32 ?_
             refine tq 33 ?_
             refine wpAnyH_done (by kernel_rfl) ?_ _
             go_wp2_with fail
             go_ret
             exact ⟨by rw [Hf.out]; rfl, below_step BT.out.size BT.out TB.out⟩
           ·have HW := Lib.hid hw
            have Hf := Lib.hid (Bad2.out _ (fun h => h.2.1) hw)
            clear hw
            go_wp2_with fail
            rw [← hw2]
            clear hw2
            refine wp_region_held_drew (S := (fun w' => w'.cell? ⟨wo.heap.size, 0, none⟩ = some (.int .i64 m) ∧ w'.cell? ⟨wo.heap.size, 1, none⟩ = some (.slice a1 n1 c1) ∧ w'.cell? ⟨wo.heap.size, 2, none⟩ = some (.slice a2 n2 c2) ∧ w'.cell? ⟨wo.heap.size, 3, none⟩ = some (.slice a3 n3 c3) ∧ w'.cell? ⟨w.heap.size, 0, none⟩ = some (.int .i64 N) ∧ w'.cell? ⟨w.heap.size, 1, none⟩ = some (.slice ga ll gc) ∧ w'.cell? ⟨bb, off + n * 2, none⟩ = some (.int .i64 q) ∧ w'.cell? ⟨bb, off + n * 2 + 1, none⟩ = some (.slice (some ⟨b4, o4, none⟩) sn c4))) (by kernel_rfl) ?_ (fun hHeld => ?_)
            ·exact ⟨Y.out.y0, Y.out.y1, Y.out.y2, Y.out.y3, T.out.g0, T.out.g1, Z.out.z0, Z.out.z1⟩
            refine tq 0 ?_
            refine tq 1 ?_
            refine tq 2 ?_
            refine tq 3 ?_
            refine tq 4 ?_
            refine tq 5 ?_
            refine tq 6 ?_
            refine tq 7 ?_
            refine tq 8 ?_
            refine tq 9 ?_
            refine tq 10 ?_
            refine tq 11 ?_
            refine rd 12 fun K hK => ?_
            go_simp
            refine (rwaits_at L n t _ N _ false _ Y.out.st T.out.hl Hn.out Hts.out.1 ⟨fun h => (by cases h), fun h => absurd h HW.out⟩).mono ?_
            rintro e wn ⟨rfl, hbn⟩
            have T := Lib.hid (T.out.below hbn)
            have Y := Lib.hid (Y.out.below hbn)
            have Z := Lib.hid (Z.out.below hbn)
            have TB := Lib.hid (below_step (by exact TS.out) TB.out hbn)
            have TS := Lib.hid (Nat.le_trans TS.out hbn.size)
            clear hbn
            go_wp2_with fail
            refine hK.out _ _ ?_ (fun hHeld => ?_)
            ·exact ⟨Y.out.y0, Y.out.y1, Y.out.y2, Y.out.y3, T.out.g0, T.out.g1, Z.out.z0, Z.out.z1⟩
            clear hK K
            try simp only [Act.put, List.getElem_toArray, List.getElem_cons_zero, List.getElem_cons_succ, List.setIfInBounds_toArray, List.set_cons_zero, List.set_cons_succ]
            refine tq 13 ?_
            refine tq 14 ?_
            refine tq 15 ?_
            refine tq0 16 ?_
            refine tq0 17 ?_
            refine tq0 18 ?_
            refine tq0 19 ?_
            refine tq0 20 ?_
            refine tq0 21 ?_
            refine tq 22 ?_
            refine tq 23 ?_
            refine tq0 24 ?_
            refine tq0 25 ?_
            refine tq0 26 ?_
            refine tq0 27 ?_
            refine tq0 28 ?_
            refine tq0 29 ?_
            refine tq0 30 ?_
            refine tq0 31 ?_
            refine tq0 32 ?_
            refine tq 33 ?_
            refine wpAnyH_done (by kernel_rfl) ?_ _
            go_wp2_with fail
            go_ret
            exact ⟨by rw [Hf.out]; rfl, below_step BT.out.size BT.out TB.out⟩
        ·have hlt2' : ¬ (k : Int) < sn := by omega
         clear hN hA4
         go_wp2_with fail
         go_roundw
         case rel =>
          refine ⟨n + 1, by go_num, by omega, fun j y hj hy => ?_, below_step R.out.size R.out T0.out⟩
          by_cases hjk : j < n
          ·exact Hs.out j y hjk hy
          ·obtain rfl : j = n := by omega
           rw [Hx.out] at hy
           cases hy
           exact ⟨by rw [← Sn.out]; omega, Ys.out, fun i t ht => Hs2.out i t (by have := lt_of_some ht; rw [← Sn.out] at this; omega) ht⟩
         case measure => simp [intOf]; omega
  ·have hlt' : ¬ (n : Int) < N := by omega
   have hf : r = true := bool_yes Hr.out (fun j x hx => Hs.out j x (by have := lt_of_some hx; rw [Hlen.out] at this; omega) hx)
   have Hf := Lib.hid hf
   clear hf hA2
   go_wp2_with fail
   go_ret
   exact ⟨by rw [Hf.out]; rfl, BB.out⟩
theorem rright4_at (N : Int) (g : Value) (L : Lks) (M : Tab) (v : Value) (r : Bool) (w : World) (h : Has w v (dTab M)) (hg : LinksAt w g L) (hn : L.length ≤ 1000000) (hsm : SmallTab M) (hr : r = true ↔ TabOK N L M) :
  Calls Try.prog 17 #[v, gv N g] w fun e w' => e = .returned (.bool r) ∧ Below w.heap.size w w' := by
 obtain ⟨a, cap, rfl⟩ := slice_of h
 by_cases hR : RightG N L
 ·by_cases hl : (M.length : Int) = N
  ·obtain ⟨N', rfl⟩ := Int.eq_ofNat_of_zero_le (show 0 ≤ N by omega)
   exact rright4_loop N' g L M a cap r w h hg hn hsm hR hl (hr.trans ⟨fun g n x hx => (docNode_iff L n x).2 (g.2.2 n x hx), fun g => ⟨hR, hl, fun n x hx => (docNode_iff L n x).1 (g n x hx)⟩⟩)
  ·rw [bool_no hr (fun g => hl g.2.1)]
   exact rright4_graph N g L a _ cap w hg (.inr ⟨hR, hl⟩)
 ·rw [bool_no hr (fun g => hR g.1)]
  exact rright4_graph N g L a _ cap w hg (.inl hR)
end Go.Proofs.Ytennbiajnkobnaa

