/- Texts put together. -/
import Derived.Test.YtennbiajnkobnaaQ02
import Derived.Test.YtennbiajnkobnaaQ04
import Derived.Test.YtennbiajnkobnaaQ10
set_option linter.unusedSimpArgs false
namespace Go.Proofs.Ytennbiajnkobnaa
open Go.RowKit Go.PlainAid
def NodeOK (L : Lks) (n : Nat) (x : Nd) : Prop := x.states.length ≤ 8 ∧ HasS x.states x.start ∧ (∀ t ∈ x.states, PlaceOK L ⟨t, n, x.states⟩) ∧ ∀ t ∈ x.states, StaysOK x.states t
def TabOK (N : Int) (L : Lks) (M : Tab) : Prop := RightG N L ∧ (M.length : Int) = N ∧ ∀ (n : Nat) (x : Nd), M[n]? = some x → NodeOK L n x
def SmallTab (M : Tab) : Prop := M.length ≤ 1000000 ∧ ∀ x ∈ M, x.states.length ≤ 1000000 ∧ ∀ s ∈ x.states, SmallSt s
theorem plOf_all {P : Pl → Prop} (x : Nd) (n : Nat) : (∀ p ∈ plOf x n x.states.length, P p) ↔ ∀ t ∈ x.states, P ⟨t, n, x.states⟩ := by
 unfold plOf
 rw [List.take_length]
 simp
theorem low_of {N : Int} {L : Lks} (h : RightG N L) : Low L := fun x y hm => by
 have := h.2.2.2.1.inr _ hm
 have h6 := h.2.1
 exact ⟨this.1, by have := this.2.1; simp at this; omega⟩
structure RtS (bd wo b c : Nat) (q : Int) (sa : Option Addr) (sn sc : Nat) (L : Lks) (v : Value) (M : Tab) (w : World) : Prop where
 s : w.cell? ⟨wo, 0, none⟩ = some (.int .i64 q) ∧ w.cell? ⟨wo, 1, none⟩ = some (.slice sa sn sc) ∧ w.cell? ⟨bd, 0, none⟩ = some (.func (.func 67) #[] #[]) ∧ w.cell? ⟨bd, 1, none⟩ = some (.func (.func 68) #[] #[.pointer (some ⟨b, 0, none⟩)]) ∧
  w.cell? ⟨bd, 2, none⟩ = some (.func (.func 70) #[] #[.pointer (some ⟨c, 0, none⟩)]) ∧ w.cell? ⟨bd, 3, none⟩ = some (.func (.func 72) #[] #[.pointer (some ⟨c, 0, none⟩)]) ∧ w.cell? ⟨bd, 4, none⟩ = some (.func (.func 74) #[] #[])
 dm : DemAt w b c L
 tab : Has w v (dTab M)
theorem RtS.below {bd wo b c : Nat} {q : Int} {sa : Option Addr} {sn sc : Nat} {L : Lks} {v : Value} {M : Tab} {w w' : World} (h : RtS bd wo b c q sa sn sc L v M w) (hb : Below w.heap.size w w') : RtS bd wo b c q sa sn sc L v M w' := by
 obtain ⟨⟨h1, h2, h3, h4, h5, h6, h7⟩, h8, h9⟩ := h
 have k := fun (p : Addr) (v : Value) (e : w.cell? p = some v) => (hb.cell (World.block_lt_of_cell? w _ e)).trans e
 exact ⟨⟨k _ _ h1, k _ _ h2, k _ _ h3, k _ _ h4, k _ _ h5, k _ _ h6, k _ _ h7⟩, h8.below hb, h9.later hb⟩
theorem tright_graph (N : Int) (g : Value) (L : Lks) (a : Option Addr) (len cap : Nat) (w : World) (hg : LinksAt w g L) (hW : ∀ p ∈ L, wfp p) (hN : ¬ RightG N L ∨ (RightG N L ∧ ¬ (len : Int) = N)) :
  Calls Try.prog 24 #[.slice a len cap, gv N g] w fun e w' => e = .returned (.bool false) ∧ Below w.heap.size w w' := by
 obtain ⟨ga, gc, rfl⟩ := hg.at
 have H := Lib.hid (hg.below (below_new w (.cells #[.int .i64 N, .slice ga L.length gc] 24)))
 have HW := Lib.hid hW
 rcases hN with hR | ⟨hR, hl⟩
 ·have HR := Lib.hid hR
  clear hg hW hR
  simp only [gv]
  go_enter Try.func24, Try.ntmps24
  go_wp2_with fail
  refine (right_false N _ L _ H.out HW.out HR.out).mono ?_
  rintro e w' ⟨rfl, hb⟩
  have B := Lib.hid ((below_new w _).trans (hb.mono (by simp)))
  clear hb
  go_wp2_with fail
  go_ret
  exact ⟨rfl, B.out⟩
 ·have HR := Lib.hid hR
  have hl' : ((len : Int) == N) = false := by simpa using hl
  clear hg hW hR hl
  simp only [gv]
  go_enter Try.func24, Try.ntmps24
  go_wp2_with fail
  refine (right_true N _ L _ H.out HW.out HR.out).mono ?_
  rintro e w' ⟨rfl, hb⟩
  have B := Lib.hid ((below_new w _).trans (hb.mono (by simp)))
  have s0 : w'.cell? ⟨w.heap.size, 0, none⟩ = some (.int .i64 N) := (hb.cell (by simp)).trans (World.cell?_alloc_at _ _ _ _ rfl)
  clear hb
  go_wp2_with fail
  go_ret
  exact ⟨rfl, B.out⟩
set_option maxHeartbeats 3000000 in
set_option maxRecDepth 100000 in
theorem tright_loop (N : Nat) (g : Value) (L : Lks) (M : Tab) (a : Option Addr) (cap : Nat) (r : Bool) (w : World) (h : Has w (.slice a M.length cap) (dTab M)) (hg : LinksAt w g L) (hW : ∀ p ∈ L, wfp p) (hn : L.length ≤ 1000000) (hsm : SmallTab M) (hR : RightG N L) (hl : (M.length : Int) = (N : Int))
  (hr : r = true ↔ ∀ (n : Nat) (x : Nd), M[n]? = some x → NodeOK L n x) :
  Calls Try.prog 24 #[.slice a M.length cap, gv N g] w fun e w' => e = .returned (.bool r) ∧ Below w.heap.size w w' := by
 obtain ⟨ga, gc, rfl⟩ := hg.at
 have H := Lib.hid (hg.below (below_new w (.cells #[.int .i64 N, .slice ga L.length gc] 24)))
 have HT := Lib.hid (h.later (below_new w (.cells #[.int .i64 N, .slice ga L.length gc] 24)))
 have HW := Lib.hid hW
 have HR := Lib.hid hR
 have Hr := Lib.hid hr
 have Hn := Lib.hid hn
 have Hsm := Lib.hid hsm
 have Hlow := Lib.hid (low_of hR)
 have hn6 : N ≤ 6 := by have := hR.2.1; omega
 have hlen : M.length = N := by omega
 rw [hlen] at HT ⊢
 have Hlen := Lib.hid hlen
 clear h hg hW hR hr hn hsm hl hlen
 simp only [gv]
 go_enter Try.func24, Try.ntmps24
 go_wp2_with fail
 refine (right_true N _ L _ H.out HW.out HR.out).mono ?_
 rintro e w1 ⟨rfl, hb⟩
 have B := Lib.hid ((below_new w _).trans (hb.mono (by simp)))
 have s0 : w1.cell? ⟨w.heap.size, 0, none⟩ = some (.int .i64 N) := (hb.cell (by simp)).trans (World.cell?_alloc_at _ _ _ _ rfl)
 have s1 : w1.cell? ⟨w.heap.size, 1, none⟩ = some (.slice ga L.length gc) := (hb.cell (by simp)).trans (World.cell?_alloc_at _ _ _ _ rfl)
 have H1 := Lib.hid (H.out.below hb)
 have HT1 := Lib.hid (HT.out.later hb)
 clear hb
 go_wp2_with fail
 refine (demandsOver_at N _ L _ H1.out).mono ?_
 rintro e wq ⟨b, c, rfl, hdm, hbq⟩
 obtain ⟨ws, hws⟩ : ∃ ws, ws = wq.alloc (.cells #[.func (.func 67) #[] #[], .func (.func 68) #[] #[.pointer (some ⟨b, 0, none⟩)], .func (.func 70) #[] #[.pointer (some ⟨c, 0, none⟩)], .func (.func 72) #[] #[.pointer (some ⟨c, 0, none⟩)], .func (.func 74) #[] #[]] 112) := ⟨_, rfl⟩
 have hbs : Below wq.heap.size wq ws := by rw [hws]; exact below_new _ _
 have hMA : MetAt ws wq.heap.size b c L none 0 [] := by
  refine ⟨?_, ?_, ?_, ?_, ?_, hdm.below hbs, .nil _ _ _ _ _⟩ <;> (rw [hws]; exact World.cell?_alloc_at _ _ _ _ rfl)
 have MA := Lib.hid hMA
 have HT2 := Lib.hid ((HT1.out.later hbq).later hbs)
 have G := Lib.hid (below_step (below_step B.out.size B.out hbq).size (below_step B.out.size B.out hbq) hbs)
 clear hdm hbq hbs hMA
 unfold dem
 go_wp2_with fail
 try rw [← hws]
 clear hws
 try go_wp2_with fail
 go_loopw [22] (fun i wr => ∃ k : Nat, i = .int .i64 k ∧ k ≤ N ∧ (∀ i x, i < k → M[i]? = some x → NodeOK L i x) ∧ Below ws.heap.size ws wr) (fun i _ => N - (intOf i).toNat)
 case atStart => exact ⟨0, rfl, by omega, fun j x hj => by omega, Below.refl _ _⟩
 case round =>
  obtain ⟨k, rfl, hk, hno, hbr⟩ := hrel
  have Hs := Lib.hid hno
  have R := Lib.hid hbr
  have hA2 := MA.out.below hbr
  have hT2 := HT2.out.later hbr
  have BB := Lib.hid (below_step G.out.size G.out hbr)
  clear hno hbr
  by_cases hlt : k < N
  ·have hlt' : (k : Int) < N := by omega
   obtain ⟨x, hx⟩ := some_of_lt (l := M) (i := k) (by rw [Hlen.out]; exact hlt)
   obtain ⟨bb, off, cp, sv, e, hb, _, x0, x1, hsv⟩ := nd_cells hT2 hx
   obtain ⟨sa, sc, rfl⟩ := slice_of hsv
   obtain ⟨sn, hsn⟩ : ∃ sn, sn = x.states.length := ⟨_, rfl⟩
   obtain ⟨q, hq⟩ : ∃ q, q = x.start := ⟨_, rfl⟩
   rw [← hsn] at x1 hsv
   rw [← hq] at x0
   rw [Hlen.out] at e
   simp only [Value.slice.injEq] at e
   obtain ⟨e, _, e'⟩ := e
   subst e e'
   have Hx := Lib.hid hx
   have Sn := Lib.hid hsn
   have Hq := Lib.hid hq
   have hxs := Hsm.out.2 x (List.mem_of_getElem? hx)
   have Hxs := Lib.hid hxs
   obtain ⟨wc, hwc⟩ : ∃ wc, wc = wr.alloc (.cells #[.int .i64 q, .slice sa sn sc] 74) := ⟨_, rfl⟩
   have hbc : Below wr.heap.size wr wc := by rw [hwc]; exact below_new _ _
   have hMc := hA2.below hbc
   have y0 : wc.cell? ⟨wr.heap.size, 0, none⟩ = some (.int .i64 q) := by rw [hwc]; exact World.cell?_alloc_at _ _ _ _ rfl
   have y1 : wc.cell? ⟨wr.heap.size, 1, none⟩ = some (.slice sa sn sc) := by rw [hwc]; exact World.cell?_alloc_at _ _ _ _ rfl
   have T : Hid (RtS wq.heap.size wr.heap.size b c q sa sn sc L (.slice (some ⟨bb, off, none⟩) N cap) M wc.drew) := Lib.hid (RtS.below ⟨⟨y0, y1, hMc.d0, hMc.d1, hMc.d2, hMc.d3, hMc.d4⟩, hMc.dm, hT2.later hbc⟩ (below_drewN (Below.refl _ wc) 1))
   have TB : Hid (Below wr.heap.size wr wc.drew) := Lib.hid (below_drewN hbc 1)
   have TS : Hid (wr.heap.size ≤ wc.drew.heap.size) := Lib.hid hbc.size
   have Bad : Hid (∀ P : Prop, (NodeOK L k x → P) → ¬ P → r = false) := Lib.hid (fun P h hP => bool_no Hr.out (fun g => hP (h (g k x Hx.out))))
   clear hA2 hT2 hx hsv hsn hq hxs hbc hMc y0 y1
   by_cases h8 : sn ≤ 8
   ·have h8' : ¬ (8 : Int) < sn := by omega
    have h8'' : decide ((8 : Int) < sn) = false := by simp; omega
    by_cases hs : HasS x.states q
    ·have Ys := Lib.hid hs
     have z0 := hs.1
     have z1 := hs.2
     rw [← Sn.out] at z1
     clear hs
     have h86 : x.states.length ≤ 1000000 := by rw [← Sn.out]; omega
     have H86 := Lib.hid h86
     have hsp : ∀ p ∈ plOf x k x.states.length, SmallPl p := (plOf_all x k).2 (fun t ht => ⟨Hxs.out.2 t ht, Hxs.out.2⟩)
     have Hsp := Lib.hid hsp
     clear h86 hsp
     by_cases hc : (∀ p ∈ plOf x k x.states.length, PlaceOK L p) ∧ ∀ p ∈ plOf x k x.states.length, StaysOK p.all p.st
     ·have HC := Lib.hid hc
      clear hc
      go_wp2_with fail
      rw [← hwc]
      clear hwc
      refine wp_region_held_drew (S := (fun w' => w'.cell? ⟨wr.heap.size, 0, none⟩ = some (.int .i64 q) ∧ w'.cell? ⟨wr.heap.size, 1, none⟩ = some (.slice sa sn sc) ∧ w'.cell? ⟨wq.heap.size, 0, none⟩ = some (.func (.func 67) #[] #[]) ∧ w'.cell? ⟨wq.heap.size, 1, none⟩ = some (.func (.func 68) #[] #[.pointer (some ⟨b, 0, none⟩)]) ∧ w'.cell? ⟨wq.heap.size, 2, none⟩ = some (.func (.func 70) #[] #[.pointer (some ⟨c, 0, none⟩)]) ∧ w'.cell? ⟨wq.heap.size, 3, none⟩ = some (.func (.func 72) #[] #[.pointer (some ⟨c, 0, none⟩)]) ∧ w'.cell? ⟨wq.heap.size, 4, none⟩ = some (.func (.func 74) #[] #[]))) (by kernel_rfl) ?_ (fun hHeld => ?_)
      ·exact T.out.s
      refine tq 0 ?_
      refine tq 1 ?_
      refine tq 2 ?_
      refine tq 3 ?_
      refine tq 4 ?_
      refine tq 5 ?_
      refine tq 6 ?_
      refine tq 7 ?_
      refine tq 8 ?_
      refine rd 9 fun K hK => ?_
      go_simp
      refine (has_yes _ _ _ _ _ z0 z1).mono ?_
      rintro e wn ⟨rfl, rfl⟩
      go_wp2_with fail
      refine hK.out _ _ ?_ (fun hHeld => ?_)
      ·exact T.out.s
      clear hK K
      try simp only [Act.put, List.getElem_toArray, List.getElem_cons_zero, List.getElem_cons_succ, List.setIfInBounds_toArray, List.set_cons_zero, List.set_cons_succ]
      refine tq 10 ?_
      refine tq 11 ?_
      refine tq 12 ?_
      refine tq 13 ?_
      refine tq 14 ?_
      refine tq 15 ?_
      refine rd 16 fun K hK => ?_
      go_simp
      refine (placesOf_at M k x _ _ T.out.tab Hx.out H86.out).mono ?_
      rintro e wn ⟨u, rfl, hu, hbn⟩
      have T := Lib.hid (T.out.below hbn)
      have TB := Lib.hid (below_step (by exact TS.out) TB.out hbn)
      have TS := Lib.hid (Nat.le_trans TS.out hbn.size)
      have HU := Lib.hid hu
      clear hu hbn
      go_wp2_with fail
      refine hK.out _ _ ?_ (fun hHeld => ?_)
      ·exact T.out.s
      clear hK K
      try simp only [Act.put, List.getElem_toArray, List.getElem_cons_zero, List.getElem_cons_succ, List.setIfInBounds_toArray, List.set_cons_zero, List.set_cons_succ]
      refine rd 17 fun K hK => ?_
      go_simp
      refine (met_at b c L u (plOf x k x.states.length) true _ T.out.dm HU.out Hn.out Hlow.out (by rw [plOf_len (Nat.le_refl _)]; exact H86.out) Hsp.out ⟨fun _ => HC.out, fun _ => rfl⟩).mono ?_
      rintro e wn ⟨rfl, hbn⟩
      have T := Lib.hid (T.out.below hbn)
      have TB := Lib.hid (below_step (by exact TS.out) TB.out hbn)
      have TS := Lib.hid (Nat.le_trans TS.out hbn.size)
      clear hbn
      go_wp2_with fail
      refine hK.out _ _ ?_ (fun hHeld => ?_)
      ·exact T.out.s
      clear hK K
      try simp only [Act.put, List.getElem_toArray, List.getElem_cons_zero, List.getElem_cons_succ, List.setIfInBounds_toArray, List.set_cons_zero, List.set_cons_succ]
      refine tq 18 ?_
      refine tq 19 ?_
      refine wpAnyH_done (by kernel_rfl) ?_ _
      go_wp2_with fail
      go_roundw
      case rel =>
       refine ⟨k + 1, by go_num, by omega, fun j y hj hy => ?_, below_step R.out.size R.out TB.out⟩
       by_cases hjk : j < k
       ·exact Hs.out j y hjk hy
       ·obtain rfl : j = k := by omega
        rw [Hx.out] at hy
        cases hy
        exact ⟨by rw [← Sn.out]; exact h8, by rw [← Hq.out]; exact Ys.out, (plOf_all x j).1 HC.out.1, fun t ht => (plOf_all (P := fun p => StaysOK p.all p.st) x j).1 HC.out.2 t ht⟩
      case measure => simp [intOf]; omega
     ·have HC := Lib.hid hc
      have Hf := Lib.hid (Bad.out _ (fun g => show (∀ p ∈ plOf x k x.states.length, PlaceOK L p) ∧ ∀ p ∈ plOf x k x.states.length, StaysOK p.all p.st from ⟨(plOf_all x k).2 g.2.2.1, (plOf_all (P := fun p => StaysOK p.all p.st) x k).2 g.2.2.2⟩) hc)
      clear hc
      go_wp2_with fail
      rw [← hwc]
      clear hwc
      refine wp_region_held_drew (S := (fun w' => w'.cell? ⟨wr.heap.size, 0, none⟩ = some (.int .i64 q) ∧ w'.cell? ⟨wr.heap.size, 1, none⟩ = some (.slice sa sn sc) ∧ w'.cell? ⟨wq.heap.size, 0, none⟩ = some (.func (.func 67) #[] #[]) ∧ w'.cell? ⟨wq.heap.size, 1, none⟩ = some (.func (.func 68) #[] #[.pointer (some ⟨b, 0, none⟩)]) ∧ w'.cell? ⟨wq.heap.size, 2, none⟩ = some (.func (.func 70) #[] #[.pointer (some ⟨c, 0, none⟩)]) ∧ w'.cell? ⟨wq.heap.size, 3, none⟩ = some (.func (.func 72) #[] #[.pointer (some ⟨c, 0, none⟩)]) ∧ w'.cell? ⟨wq.heap.size, 4, none⟩ = some (.func (.func 74) #[] #[]))) (by kernel_rfl) ?_ (fun hHeld => ?_)
      ·exact T.out.s
      refine tq 0 ?_
      refine tq 1 ?_
      refine tq 2 ?_
      refine tq 3 ?_
      refine tq 4 ?_
      refine tq 5 ?_
      refine tq 6 ?_
      refine tq 7 ?_
      refine tq 8 ?_
      refine rd 9 fun K hK => ?_
      go_simp
      refine (has_yes _ _ _ _ _ z0 z1).mono ?_
      rintro e wn ⟨rfl, rfl⟩
      go_wp2_with fail
      refine hK.out _ _ ?_ (fun hHeld => ?_)
      ·exact T.out.s
      clear hK K
      try simp only [Act.put, List.getElem_toArray, List.getElem_cons_zero, List.getElem_cons_succ, List.setIfInBounds_toArray, List.set_cons_zero, List.set_cons_succ]
      refine tq 10 ?_
      refine tq 11 ?_
      refine tq 12 ?_
      refine tq 13 ?_
      refine tq 14 ?_
      refine tq 15 ?_
      refine rd 16 fun K hK => ?_
      go_simp
      refine (placesOf_at M k x _ _ T.out.tab Hx.out H86.out).mono ?_
      rintro e wn ⟨u, rfl, hu, hbn⟩
      have T := Lib.hid (T.out.below hbn)
      have TB := Lib.hid (below_step (by exact TS.out) TB.out hbn)
      have TS := Lib.hid (Nat.le_trans TS.out hbn.size)
      have HU := Lib.hid hu
      clear hu hbn
      go_wp2_with fail
      refine hK.out _ _ ?_ (fun hHeld => ?_)
      ·exact T.out.s
      clear hK K
      try simp only [Act.put, List.getElem_toArray, List.getElem_cons_zero, List.getElem_cons_succ, List.setIfInBounds_toArray, List.set_cons_zero, List.set_cons_succ]
      refine rd 17 fun K hK => ?_
      go_simp
      refine (met_at b c L u (plOf x k x.states.length) false _ T.out.dm HU.out Hn.out Hlow.out (by rw [plOf_len (Nat.le_refl _)]; exact H86.out) Hsp.out ⟨fun h => (by cases h), fun h => absurd h HC.out⟩).mono ?_
      rintro e wn ⟨rfl, hbn⟩
      have T := Lib.hid (T.out.below hbn)
      have TB := Lib.hid (below_step (by exact TS.out) TB.out hbn)
      have TS := Lib.hid (Nat.le_trans TS.out hbn.size)
      clear hbn
      go_wp2_with fail
      refine hK.out _ _ ?_ (fun hHeld => ?_)
      ·exact T.out.s
      clear hK K
      try simp only [Act.put, List.getElem_toArray, List.getElem_cons_zero, List.getElem_cons_succ, List.setIfInBounds_toArray, List.set_cons_zero, List.set_cons_succ]
      refine tq 18 ?_
      refine tq 19 ?_
      refine wpAnyH_done (by kernel_rfl) ?_ _
      go_wp2_with fail
      go_ret
      exact ⟨by rw [Hf.out]; rfl, below_step BB.out.size BB.out TB.out⟩
    ·have Hf := Lib.hid (Bad.out _ (fun g => g.2.1) (by rw [← Hq.out]; exact hs))
     have Ns : Hid (¬ (0 ≤ q ∧ q < sn)) := Lib.hid (by rw [Sn.out]; exact hs)
     clear hs
     go_wp2_with fail
     rw [← hwc]
     clear hwc
     refine wp_region_held_drew (S := (fun w' => w'.cell? ⟨wr.heap.size, 0, none⟩ = some (.int .i64 q) ∧ w'.cell? ⟨wr.heap.size, 1, none⟩ = some (.slice sa sn sc) ∧ w'.cell? ⟨wq.heap.size, 0, none⟩ = some (.func (.func 67) #[] #[]) ∧ w'.cell? ⟨wq.heap.size, 1, none⟩ = some (.func (.func 68) #[] #[.pointer (some ⟨b, 0, none⟩)]) ∧ w'.cell? ⟨wq.heap.size, 2, none⟩ = some (.func (.func 70) #[] #[.pointer (some ⟨c, 0, none⟩)]) ∧ w'.cell? ⟨wq.heap.size, 3, none⟩ = some (.func (.func 72) #[] #[.pointer (some ⟨c, 0, none⟩)]) ∧ w'.cell? ⟨wq.heap.size, 4, none⟩ = some (.func (.func 74) #[] #[]))) (by kernel_rfl) ?_ (fun hHeld => ?_)
     ·exact T.out.s
     refine tq 0 ?_
     refine tq 1 ?_
     refine tq 2 ?_
     refine tq 3 ?_
     refine tq 4 ?_
     refine tq 5 ?_
     refine tq 6 ?_
     refine tq 7 ?_
     refine tq 8 ?_
     refine rd 9 fun K hK => ?_
     go_simp
     refine (has_no _ _ _ _ _ Ns.out).mono ?_
     rintro e wn ⟨rfl, rfl⟩
     go_wp2_with fail
     refine hK.out _ _ ?_ (fun hHeld => ?_)
     ·exact T.out.s
     clear hK K
     try simp only [Act.put, List.getElem_toArray, List.getElem_cons_zero, List.getElem_cons_succ, List.setIfInBounds_toArray, List.set_cons_zero, List.set_cons_succ]
     refine tq 10 ?_
     refine tq 11 ?_
     refine tq 12 ?_
     refine tq0 13 ?_
     refine tq0 14 ?_
     refine tq0 15 ?_
     refine tq0 16 ?_
     refine tq0 17 ?_
     refine tq0 18 ?_
     refine tq 19 ?_
     refine wpAnyH_done (by kernel_rfl) ?_ _
     go_wp2_with fail
     go_ret
     exact ⟨by rw [Hf.out]; rfl, below_step BB.out.size BB.out TB.out⟩
   ·have Hf := Lib.hid (Bad.out _ (fun g => g.1) (by rw [← Sn.out]; exact h8))
    have h8' : (8 : Int) < sn := by omega
    have h8'' : decide ((8 : Int) < sn) = true := by simp; omega
    clear h8
    go_wp2_with fail
    rw [← hwc]
    clear hwc
    refine wp_region_held_drew (S := (fun w' => w'.cell? ⟨wr.heap.size, 0, none⟩ = some (.int .i64 q) ∧ w'.cell? ⟨wr.heap.size, 1, none⟩ = some (.slice sa sn sc) ∧ w'.cell? ⟨wq.heap.size, 0, none⟩ = some (.func (.func 67) #[] #[]) ∧ w'.cell? ⟨wq.heap.size, 1, none⟩ = some (.func (.func 68) #[] #[.pointer (some ⟨b, 0, none⟩)]) ∧ w'.cell? ⟨wq.heap.size, 2, none⟩ = some (.func (.func 70) #[] #[.pointer (some ⟨c, 0, none⟩)]) ∧ w'.cell? ⟨wq.heap.size, 3, none⟩ = some (.func (.func 72) #[] #[.pointer (some ⟨c, 0, none⟩)]) ∧ w'.cell? ⟨wq.heap.size, 4, none⟩ = some (.func (.func 74) #[] #[]))) (by kernel_rfl) ?_ (fun hHeld => ?_)
    ·exact T.out.s
    refine tq 0 ?_
    refine tq 1 ?_
    refine tq 2 ?_
    refine tq 3 ?_
    refine tq 4 ?_
    refine tq0 5 ?_
    refine tq0 6 ?_
    refine tq0 7 ?_
    refine tq0 8 ?_
    refine tq0 9 ?_
    refine tq0 10 ?_
    refine tq 11 ?_
    refine tq 12 ?_
    refine tq0 13 ?_
    refine tq0 14 ?_
    refine tq0 15 ?_
    refine tq0 16 ?_
    refine tq0 17 ?_
    refine tq0 18 ?_
    refine tq 19 ?_
    refine wpAnyH_done (by kernel_rfl) ?_ _
    go_wp2_with fail
    go_ret
    exact ⟨by rw [Hf.out]; rfl, below_step BB.out.size BB.out TB.out⟩
  ·have hlt' : ¬ (k : Int) < N := by omega
   have hf : r = true := bool_yes Hr.out (fun j x hx => Hs.out j x (by have := lt_of_some hx; rw [Hlen.out] at this; omega) hx)
   have Hf := Lib.hid hf
   clear hf hA2 hT2
   go_wp2_with fail
   go_ret
   exact ⟨by rw [Hf.out]; rfl, BB.out⟩
theorem tright_at (N : Int) (g : Value) (L : Lks) (M : Tab) (v : Value) (r : Bool) (w : World) (h : Has w v (dTab M)) (hg : LinksAt w g L) (hW : ∀ p ∈ L, wfp p) (hn : L.length ≤ 1000000) (hsm : SmallTab M) (hr : r = true ↔ TabOK N L M) :
  Calls Try.prog 24 #[v, gv N g] w fun e w' => e = .returned (.bool r) ∧ Below w.heap.size w w' := by
 obtain ⟨a, cap, rfl⟩ := slice_of h
 by_cases hR : RightG N L
 ·by_cases hl : (M.length : Int) = N
  ·obtain ⟨N', rfl⟩ := Int.eq_ofNat_of_zero_le (show 0 ≤ N by omega)
   exact tright_loop N' g L M a cap r w h hg hW hn hsm hR hl (hr.trans ⟨fun g => g.2.2, fun g => ⟨hR, hl, g⟩⟩)
  ·rw [bool_no hr (fun g => hl g.2.1)]
   exact tright_graph N g L a _ cap w hg hW (.inr ⟨hR, hl⟩)
 ·rw [bool_no hr (fun g => hR g.1)]
  exact tright_graph N g L a _ cap w hg hW (.inl hR)
end Go.Proofs.Ytennbiajnkobnaa

