/- Texts put together. -/
import Derived.Test.YtiblcpkejhiehaaQ00
import Derived.Test.YtiblcpkejhiehaaQ02
import Derived.Test.YtiblcpkejhiehaaQ03
import Derived.Deep.RegionHeld3
namespace Go.Proofs.Ytiblcpkejhiehaa
open Go.RowKit Go.PlainAid
theorem run_store_fn (w : World) (a : Addr) (m : Mode) (fn : Fn) (first captured : Array Value) : (store a (.func fn first captured) m).run Try.prog w = stored Try.prog w a (.func fn first captured) m := run_store Try.prog w a _ m rfl
theorem run_store_nilFn (w : World) (a : Addr) (m : Mode) : (store a .nilFunc m).run Try.prog w = stored Try.prog w a .nilFunc m := run_store Try.prog w a _ m rfl
attribute [go_sem] run_store_fn run_store_nilFn
set_option maxHeartbeats 8000000 in
theorem demandsOver_at (N : Int) (v : Value) (L : Lks) (w : World) (h : LinksAt w v L) :
  Calls Try.prog 47 #[gv N v] w fun e w' => ∃ b c, e = .returned (dem b c) ∧ DemAt w' b c L ∧ Below w.heap.size w w' := by
 obtain ⟨a, cap, rfl⟩ := h.at
 have H := Lib.hid h
 clear h
 simp only [gv]
 go_enter Try.func47, Try.ntmps47
 go_wp2_with fail
 obtain ⟨wf, hwf⟩ : ∃ wf, wf = ((((w.alloc (.cells #[.int .i64 N, .slice a (List.length L) cap] 24)).alloc (.cells #[.func (.func 70) #[] #[], .func (.func 71) #[] #[.pointer (some ⟨w.heap.size + 1 + 1, 0, none⟩)], .func (.func 73) #[] #[.pointer (some ⟨w.heap.size + 1 + 1 + 1, 0, none⟩)], .func (.func 75) #[] #[.pointer (some ⟨w.heap.size + 1 + 1 + 1, 0, none⟩)], .func (.func 77) #[] #[]] 117)).alloc (.cells #[fnLinked w.heap.size] 145)).alloc (.cells #[fnGoes (w.heap.size + 1 + 1)] 146)) := ⟨_, rfl⟩
 have b0 : Below w.heap.size w wf := by rw [hwf]; go_grown
 have s0 : wf.cell? ⟨w.heap.size, 0, none⟩ = some (.int .i64 N) := by rw [hwf]; go_cell
 have s1 : wf.cell? ⟨w.heap.size, 1, none⟩ = some (.slice a (List.length L) cap) := by rw [hwf]; go_cell
 have t0 : wf.cell? ⟨w.heap.size + 1 + 1, 0, none⟩ = some (fnLinked w.heap.size) := by rw [hwf]; go_cell
 have t1 : wf.cell? ⟨w.heap.size + 1 + 1 + 1, 0, none⟩ = some (fnGoes (w.heap.size + 1 + 1)) := by rw [hwf]; go_cell
 have d0 : wf.cell? ⟨w.heap.size + 1, 0, none⟩ = some (.func (.func 70) #[] #[]) := by rw [hwf]; go_cell
 have d1 : wf.cell? ⟨w.heap.size + 1, 1, none⟩ = some (.func (.func 71) #[] #[.pointer (some ⟨w.heap.size + 1 + 1, 0, none⟩)]) := by rw [hwf]; go_cell
 have d2 : wf.cell? ⟨w.heap.size + 1, 2, none⟩ = some (.func (.func 73) #[] #[.pointer (some ⟨w.heap.size + 1 + 1 + 1, 0, none⟩)]) := by rw [hwf]; go_cell
 have d3 : wf.cell? ⟨w.heap.size + 1, 3, none⟩ = some (.func (.func 75) #[] #[.pointer (some ⟨w.heap.size + 1 + 1 + 1, 0, none⟩)]) := by rw [hwf]; go_cell
 have d4 : wf.cell? ⟨w.heap.size + 1, 4, none⟩ = some (.func (.func 77) #[] #[]) := by rw [hwf]; go_cell
 unfold fnLinked fnGoes at hwf
 rw [← hwf]
 clear hwf
 refine bodyPost_ret (v := dem (w.heap.size + 1 + 1) (w.heap.size + 1 + 1 + 1)) (by simp [dem, results, Try.results47, go_sem, d0, d1, d2, d3, d4]) rfl ⟨_, _, rfl, ⟨⟨_, t0, ⟨_, _, s0, s1, H.out.below b0⟩⟩, t1⟩, b0⟩
def plOf (x : Nd) (n : Nat) (k : Nat) : List Pl := (x.states.take k).map fun t => ⟨t, n, x.states⟩
theorem infoPl : (Try.prog.info? 148).map (fun i => (i.zero, i.size, i.bytes)) = some (some (.agg #[.int .i64 0, .slice none 0 0, .slice none 0 0, .slice none 0 0, .int .i64 0, .slice none 0 0]), 6, 112) := by kernel_rfl
theorem old_holdsL {lim : Nat} {w w' : World} {v : Value} {cs : List Value} {ds : List D} (h : HasL w cs ds) (hb : Below w.heap.size w w') (hv : ∀ k, v.ownBlock = some k → w.heap.size ≤ k) : HoldsL False (fun k => All k ∧ v.ownBlock ≠ some k ∧ (False → lim ≤ k)) w' cs ds :=
 (h.wide (fun b hb _ => ⟨trivial, fun e => by have := hv b e; omega, fun e => e.elim⟩)).later hb
theorem plOf_succ {x : Nd} {n k : Nat} {t : St} (ht : x.states[k]? = some t) : plOf x n (k + 1) = plOf x n k ++ [⟨t, n, x.states⟩] := by
 unfold plOf
 rw [List.take_add_one, ht]
 simp
theorem plOf_len {x : Nd} {n k : Nat} (h : k ≤ x.states.length) : (plOf x n k).length = k := by unfold plOf; simp; omega
set_option maxHeartbeats 8000000 in
set_option maxRecDepth 100000 in
theorem placesOf_at (M : Tab) (n : Nat) (x : Nd) (v : Value) (w : World) (h : Has w v (dTab M)) (hx : M[n]? = some x) (h6 : x.states.length ≤ 1000000) :
  Calls Try.prog 50 #[v, .int .i64 n] w fun e w' => ∃ u, e = .returned u ∧ Has w' u (dPls (plOf x n x.states.length)) ∧ Below w.heap.size w w' := by
 obtain ⟨i0, hi0, hz0, hz1, hz2⟩ := info_parts infoPl
 obtain ⟨b, off, cap, vs, rfl, hb, hcap, c0, c1, hS⟩ := nd_cells h hx
 obtain ⟨a4, c4, rfl⟩ := slice_of hS
 obtain ⟨ln, hln⟩ : ∃ ln, ln = x.states.length := ⟨_, rfl⟩
 obtain ⟨tl, htl⟩ : ∃ tl, tl = M.length := ⟨_, rfl⟩
 have hnt : n < tl := by rw [htl]; exact lt_of_some hx
 have hnt' : (n : Int) < tl := by omega
 have H := Lib.hid h
 have Hx := Lib.hid hx
 rw [← hln] at c1 h6 ⊢
 rw [← htl] at H ⊢
 have Ln := Lib.hid hln
 clear h hx hS hln htl hcap c0
 go_enter Try.func50, Try.ntmps50
 go_wp2_with fail
 go_loopw [5, 13] (fun q i wr => ∃ k : Nat, i = .int .i64 k ∧ k ≤ ln ∧ Own False All 148 6 w wr.heap.size wr q ((plOf x n k).map Pl.d)) (fun _ i _ => ln - (intOf i).toNat)
 case atStart => exact ⟨0, rfl, by omega, Own.nil (Below.refl _ _)⟩
 case round =>
  rename Value => q
  obtain ⟨k, rfl, hk, hO⟩ := hrel
  have O := Lib.hid hO
  have BB := Lib.hid hO.bel
  have hge := hO.ge
  obtain ⟨qa, qc, hqs⟩ := hO.slice
  rw [List.length_map, plOf_len (by rw [← Ln.out]; exact hk)] at hqs
  clear hO
  by_cases hlt : k < ln
  ·have hlt' : (k : Int) < ln := by omega
   obtain ⟨t, ht⟩ := some_of_lt (l := x.states) (i := k) (by rw [← Ln.out]; exact hlt)
   have Ht := Lib.hid ht
   have Hge := Lib.hid (fun k hk => (hge k hk).1)
   clear ht hge
   subst hqs
   go_wp2_with fail
   refine (placeOf_in M n k _ w _ H.out BB.out).mono ?_
   rintro e w2 ⟨u, rfl, hu, hb2⟩
   rw [plAt_of Hx.out Ht.out] at hu
   obtain ⟨cs, rfl, hcs⟩ := hu
   obtain ⟨v1, v2, v3, v4, rfl, _⟩ := hasL_pl hcs
   have C := Lib.hid hcs
   have B2 := Lib.hid hb2
   have O2 := Lib.hid (O.out.later hb2)
   have BW := Lib.hid (below_step BB.out.size BB.out hb2)
   have O3 := Lib.hid (O2.out.later (below_new w2 (.cells #[.int .i64 t.mode, v1, v2, v3, .int .i64 n, v4] 148)))
   clear hcs hb2
   go_wp2_with (at_builtin; go_loud (refine app_own rfl _ _ 121 148 i0 _ 6 112 rfl Try.underlying121 hi0 hz0 hz1 hz2 rfl (by decide) False All w _ _ _ [Pl.d ⟨t, n, x.states⟩] k 1 1 rfl O3.out ?c1 ⟨w2.heap.size, 0, none⟩ rfl [.int .i64 t.mode, v1, v2, v3, .int .i64 n, v4] ?c2 ?c3 rfl ?c4 ?c5 ?c6 ?_))
   case c1 => rw [List.length_map, plOf_len (by rw [← Ln.out]; omega)]
   case c2 =>
    intro j u hj
    rw [Go.WideShapes.add_plain, Nat.zero_add, World.cell?_alloc_at _ _ _ _ rfl]
    rw [List.getElem?_toArray]; exact hj
   case c3 => intro ds hds; simp at hds; rw [hds]; rfl
   case c4 =>
    have := old_holdsL (lim := wr.heap.size) (v := .slice qa k qc) C.out BW.out Hge.out
    rw [List.flatten_cons, List.flatten_nil, List.append_nil]
    exact HoldsL.later this (below_new _ _)
   case c5 => unfold maxLen; omega
   case c6 => omega
   intro ao cv w3 hO3 _
   have e3 : (plOf x n k).map Pl.d ++ [Pl.d ⟨t, n, x.states⟩] = (plOf x n (k + 1)).map Pl.d := by rw [plOf_succ Ht.out, List.map_append]; rfl
   rw [e3] at hO3
   have O4 := Lib.hid hO3
   clear hO3 e3
   go_wp2_with fail
   go_roundw
   case rel => exact ⟨k + 1, by go_num, by omega, O4.out⟩
   case measure => simp [intOf]; omega
  ·have hlt' : ¬ (k : Int) < ln := by omega
   obtain rfl : k = ln := by omega
   clear hge
   subst hqs
   go_wp2_with fail
   go_ret
   refine ⟨_, rfl, ?_, BB.out⟩
   have := O.out.holds (fun _ _ => trivial)
   rw [Ln.out] at this ⊢
   exact this
end Go.Proofs.Ytiblcpkejhiehaa

set_option linter.unusedSimpArgs false
namespace Go.Proofs.Ytiblcpkejhiehaa
open Go.RowKit Go.PlainAid
def NodeOK (L : Lks) (n : Nat) (x : Nd) : Prop := x.states.length ≤ 8 ∧ HasS x.states x.start ∧ (∀ t ∈ x.states, PlaceOK L ⟨t, n, x.states⟩) ∧ ∀ t ∈ x.states, StaysOK x.states t
def TabOK (N : Int) (L : Lks) (M : Tab) : Prop := RightG N L ∧ (M.length : Int) = N ∧ ∀ (n : Nat) (x : Nd), M[n]? = some x → NodeOK L n x
def SmallTab (M : Tab) : Prop := M.length ≤ 1000000 ∧ ∀ x ∈ M, x.states.length ≤ 1000000 ∧ ∀ s ∈ x.states, SmallSt s
theorem plOf_all {P : Pl → Prop} (x : Nd) (n : Nat) : (∀ p ∈ plOf x n x.states.length, P p) ↔ ∀ t ∈ x.states, P ⟨t, n, x.states⟩ := by
 unfold plOf
 rw [List.take_length]
 simp
theorem low_of {N : Int} {L : Lks} (h : RightG N L) : Low L := fun x y hm => by
 have := h.2.2.2.1.inr _ hm
 have h6 := h.2.1
 exact ⟨this.1, by have := this.2.1; simp at this; omega⟩
structure RtS (bd wo b c : Nat) (q : Int) (sa : Option Addr) (sn sc : Nat) (L : Lks) (v : Value) (M : Tab) (w : World) : Prop where
 s : w.cell? ⟨wo, 0, none⟩ = some (.int .i64 q) ∧ w.cell? ⟨wo, 1, none⟩ = some (.slice sa sn sc) ∧ w.cell? ⟨bd, 0, none⟩ = some (.func (.func 70) #[] #[]) ∧ w.cell? ⟨bd, 1, none⟩ = some (.func (.func 71) #[] #[.pointer (some ⟨b, 0, none⟩)]) ∧
  w.cell? ⟨bd, 2, none⟩ = some (.func (.func 73) #[] #[.pointer (some ⟨c, 0, none⟩)]) ∧ w.cell? ⟨bd, 3, none⟩ = some (.func (.func 75) #[] #[.pointer (some ⟨c, 0, none⟩)]) ∧ w.cell? ⟨bd, 4, none⟩ = some (.func (.func 77) #[] #[])
 dm : DemAt w b c L
 tab : Has w v (dTab M)
theorem RtS.below {bd wo b c : Nat} {q : Int} {sa : Option Addr} {sn sc : Nat} {L : Lks} {v : Value} {M : Tab} {w w' : World} (h : RtS bd wo b c q sa sn sc L v M w) (hb : Below w.heap.size w w') : RtS bd wo b c q sa sn sc L v M w' := by
 obtain ⟨⟨h1, h2, h3, h4, h5, h6, h7⟩, h8, h9⟩ := h
 have k := fun (p : Addr) (v : Value) (e : w.cell? p = some v) => (hb.cell (World.block_lt_of_cell? w _ e)).trans e
 exact ⟨⟨k _ _ h1, k _ _ h2, k _ _ h3, k _ _ h4, k _ _ h5, k _ _ h6, k _ _ h7⟩, h8.below hb, h9.later hb⟩
theorem tright_graph (N : Int) (g : Value) (L : Lks) (a : Option Addr) (len cap : Nat) (w : World) (hg : LinksAt w g L) (hW : ∀ p ∈ L, wfp p) (hN : ¬ RightG N L ∨ (RightG N L ∧ ¬ (len : Int) = N)) :
  Calls Try.prog 28 #[.slice a len cap, gv N g] w fun e w' => e = .returned (.bool false) ∧ Below w.heap.size w w' := by
 obtain ⟨ga, gc, rfl⟩ := hg.at
 have H := Lib.hid (hg.below (below_new w (.cells #[.int .i64 N, .slice ga L.length gc] 24)))
 have HW := Lib.hid hW
 rcases hN with hR | ⟨hR, hl⟩
 ·have HR := Lib.hid hR
  clear hg hW hR
  simp only [gv]
  go_enter Try.func28, Try.ntmps28
  go_wp2_with fail
  refine (right_false N _ L _ H.out HW.out HR.out).mono ?_
  rintro e w' ⟨rfl, hb⟩
  have B := Lib.hid ((below_new w _).trans (hb.mono (by simp)))
  clear hb
  go_wp2_with fail
  go_ret
  exact ⟨rfl, B.out⟩
 ·have HR := Lib.hid hR
  have hl' : ((len : Int) == N) = false := by simpa using hl
  clear hg hW hR hl
  simp only [gv]
  go_enter Try.func28, Try.ntmps28
  go_wp2_with fail
  refine (right_true N _ L _ H.out HW.out HR.out).mono ?_
  rintro e w' ⟨rfl, hb⟩
  have B := Lib.hid ((below_new w _).trans (hb.mono (by simp)))
  have s0 : w'.cell? ⟨w.heap.size, 0, none⟩ = some (.int .i64 N) := (hb.cell (by simp)).trans (World.cell?_alloc_at _ _ _ _ rfl)
  clear hb
  go_wp2_with fail
  go_ret
  exact ⟨rfl, B.out⟩
set_option maxHeartbeats 3000000 in
set_option maxRecDepth 100000 in
theorem tright_loop (N : Nat) (g : Value) (L : Lks) (M : Tab) (a : Option Addr) (cap : Nat) (r : Bool) (w : World) (h : Has w (.slice a M.length cap) (dTab M)) (hg : LinksAt w g L) (hW : ∀ p ∈ L, wfp p) (hn : L.length ≤ 1000000) (hsm : SmallTab M) (hR : RightG N L) (hl : (M.length : Int) = (N : Int))
  (hr : r = true ↔ ∀ (n : Nat) (x : Nd), M[n]? = some x → NodeOK L n x) :
  Calls Try.prog 28 #[.slice a M.length cap, gv N g] w fun e w' => e = .returned (.bool r) ∧ Below w.heap.size w w' := by
 obtain ⟨ga, gc, rfl⟩ := hg.at
 have H := Lib.hid (hg.below (below_new w (.cells #[.int .i64 N, .slice ga L.length gc] 24)))
 have HT := Lib.hid (h.later (below_new w (.cells #[.int .i64 N, .slice ga L.length gc] 24)))
 have HW := Lib.hid hW
 have HR := Lib.hid hR
 have Hr := Lib.hid hr
 have Hn := Lib.hid hn
 have Hsm := Lib.hid hsm
 have Hlow := Lib.hid (low_of hR)
 have hn6 : N ≤ 6 := by have := hR.2.1; omega
 have hlen : M.length = N := by omega
 rw [hlen] at HT ⊢
 have Hlen := Lib.hid hlen
 clear h hg hW hR hr hn hsm hl hlen
 simp only [gv]
 go_enter Try.func28, Try.ntmps28
 go_wp2_with fail
 refine (right_true N _ L _ H.out HW.out HR.out).mono ?_
 rintro e w1 ⟨rfl, hb⟩
 have B := Lib.hid ((below_new w _).trans (hb.mono (by simp)))
 have s0 : w1.cell? ⟨w.heap.size, 0, none⟩ = some (.int .i64 N) := (hb.cell (by simp)).trans (World.cell?_alloc_at _ _ _ _ rfl)
 have s1 : w1.cell? ⟨w.heap.size, 1, none⟩ = some (.slice ga L.length gc) := (hb.cell (by simp)).trans (World.cell?_alloc_at _ _ _ _ rfl)
 have H1 := Lib.hid (H.out.below hb)
 have HT1 := Lib.hid (HT.out.later hb)
 clear hb
 go_wp2_with fail
 refine (demandsOver_at N _ L _ H1.out).mono ?_
 rintro e wq ⟨b, c, rfl, hdm, hbq⟩
 obtain ⟨ws, hws⟩ : ∃ ws, ws = wq.alloc (.cells #[.func (.func 70) #[] #[], .func (.func 71) #[] #[.pointer (some ⟨b, 0, none⟩)], .func (.func 73) #[] #[.pointer (some ⟨c, 0, none⟩)], .func (.func 75) #[] #[.pointer (some ⟨c, 0, none⟩)], .func (.func 77) #[] #[]] 117) := ⟨_, rfl⟩
 have hbs : Below wq.heap.size wq ws := by rw [hws]; exact below_new _ _
 have hMA : MetAt ws wq.heap.size b c L none 0 [] := by
  refine ⟨?_, ?_, ?_, ?_, ?_, hdm.below hbs, .nil _ _ _ _ _⟩ <;> (rw [hws]; exact World.cell?_alloc_at _ _ _ _ rfl)
 have MA := Lib.hid hMA
 have HT2 := Lib.hid ((HT1.out.later hbq).later hbs)
 have G := Lib.hid (below_step (below_step B.out.size B.out hbq).size (below_step B.out.size B.out hbq) hbs)
 clear hdm hbq hbs hMA
 unfold dem
 go_wp2_with fail
 try rw [← hws]
 clear hws
 try go_wp2_with fail
 go_loopw [22] (fun i wr => ∃ k : Nat, i = .int .i64 k ∧ k ≤ N ∧ (∀ i x, i < k → M[i]? = some x → NodeOK L i x) ∧ Below ws.heap.size ws wr) (fun i _ => N - (intOf i).toNat)
 case atStart => exact ⟨0, rfl, by omega, fun j x hj => by omega, Below.refl _ _⟩
 case round =>
  obtain ⟨k, rfl, hk, hno, hbr⟩ := hrel
  have Hs := Lib.hid hno
  have R := Lib.hid hbr
  have hA2 := MA.out.below hbr
  have hT2 := HT2.out.later hbr
  have BB := Lib.hid (below_step G.out.size G.out hbr)
  clear hno hbr
  by_cases hlt : k < N
  ·have hlt' : (k : Int) < N := by omega
   obtain ⟨x, hx⟩ := some_of_lt (l := M) (i := k) (by rw [Hlen.out]; exact hlt)
   obtain ⟨bb, off, cp, sv, e, hb, _, x0, x1, hsv⟩ := nd_cells hT2 hx
   obtain ⟨sa, sc, rfl⟩ := slice_of hsv
   obtain ⟨sn, hsn⟩ : ∃ sn, sn = x.states.length := ⟨_, rfl⟩
   obtain ⟨q, hq⟩ : ∃ q, q = x.start := ⟨_, rfl⟩
   rw [← hsn] at x1 hsv
   rw [← hq] at x0
   rw [Hlen.out] at e
   simp only [Value.slice.injEq] at e
   obtain ⟨e, _, e'⟩ := e
   subst e e'
   have Hx := Lib.hid hx
   have Sn := Lib.hid hsn
   have Hq := Lib.hid hq
   have hxs := Hsm.out.2 x (List.mem_of_getElem? hx)
   have Hxs := Lib.hid hxs
   obtain ⟨wc, hwc⟩ : ∃ wc, wc = wr.alloc (.cells #[.int .i64 q, .slice sa sn sc] 80) := ⟨_, rfl⟩
   have hbc : Below wr.heap.size wr wc := by rw [hwc]; exact below_new _ _
   have hMc := hA2.below hbc
   have y0 : wc.cell? ⟨wr.heap.size, 0, none⟩ = some (.int .i64 q) := by rw [hwc]; exact World.cell?_alloc_at _ _ _ _ rfl
   have y1 : wc.cell? ⟨wr.heap.size, 1, none⟩ = some (.slice sa sn sc) := by rw [hwc]; exact World.cell?_alloc_at _ _ _ _ rfl
   have T : Hid (RtS wq.heap.size wr.heap.size b c q sa sn sc L (.slice (some ⟨bb, off, none⟩) N cap) M wc.drew) := Lib.hid (RtS.below ⟨⟨y0, y1, hMc.d0, hMc.d1, hMc.d2, hMc.d3, hMc.d4⟩, hMc.dm, hT2.later hbc⟩ (below_drewN (Below.refl _ wc) 1))
   have TB : Hid (Below wr.heap.size wr wc.drew) := Lib.hid (below_drewN hbc 1)
   have TS : Hid (wr.heap.size ≤ wc.drew.heap.size) := Lib.hid hbc.size
   have Bad : Hid (∀ P : Prop, (NodeOK L k x → P) → ¬ P → r = false) := Lib.hid (fun P h hP => bool_no Hr.out (fun g => hP (h (g k x Hx.out))))
   clear hA2 hT2 hx hsv hsn hq hxs hbc hMc y0 y1
   by_cases h8 : sn ≤ 8
   ·have h8' : ¬ (8 : Int) < sn := by omega
    have h8'' : decide ((8 : Int) < sn) = false := by simp; omega
    by_cases hs : HasS x.states q
    ·have Ys := Lib.hid hs
     have z0 := hs.1
     have z1 := hs.2
     rw [← Sn.out] at z1
     clear hs
     have h86 : x.states.length ≤ 1000000 := by rw [← Sn.out]; omega
     have H86 := Lib.hid h86
     have hsp : ∀ p ∈ plOf x k x.states.length, SmallPl p := (plOf_all x k).2 (fun t ht => ⟨Hxs.out.2 t ht, Hxs.out.2⟩)
     have Hsp := Lib.hid hsp
     clear h86 hsp
     by_cases hc : (∀ p ∈ plOf x k x.states.length, PlaceOK L p) ∧ ∀ p ∈ plOf x k x.states.length, StaysOK p.all p.st
     ·have HC := Lib.hid hc
      clear hc
      go_wp2_with fail
      rw [← hwc]
      clear hwc
      refine wp_region_held_drew (S := (fun w' => w'.cell? ⟨wr.heap.size, 0, none⟩ = some (.int .i64 q) ∧ w'.cell? ⟨wr.heap.size, 1, none⟩ = some (.slice sa sn sc) ∧ w'.cell? ⟨wq.heap.size, 0, none⟩ = some (.func (.func 70) #[] #[]) ∧ w'.cell? ⟨wq.heap.size, 1, none⟩ = some (.func (.func 71) #[] #[.pointer (some ⟨b, 0, none⟩)]) ∧ w'.cell? ⟨wq.heap.size, 2, none⟩ = some (.func (.func 73) #[] #[.pointer (some ⟨c, 0, none⟩)]) ∧ w'.cell? ⟨wq.heap.size, 3, none⟩ = some (.func (.func 75) #[] #[.pointer (some ⟨c, 0, none⟩)]) ∧ w'.cell? ⟨wq.heap.size, 4, none⟩ = some (.func (.func 77) #[] #[]))) (by kernel_rfl) ?_ (fun hHeld => ?_)
      ·exact T.out.s
      refine tq 0 ?_
      refine tq 1 ?_
      refine tq 2 ?_
      refine tq 3 ?_
      refine tq 4 ?_
      refine tq 5 ?_
      refine tq 6 ?_
      refine tq 7 ?_
      refine tq 8 ?_
      refine rd 9 fun K hK => ?_
      go_simp
      refine (has_yes _ _ _ _ _ z0 z1).mono ?_
      rintro e wn ⟨rfl, rfl⟩
      go_wp2_with fail
      refine hK.out _ _ ?_ (fun hHeld => ?_)
      ·exact T.out.s
      clear hK K
      try simp only [Act.put, List.getElem_toArray, List.getElem_cons_zero, List.getElem_cons_succ, List.setIfInBounds_toArray, List.set_cons_zero, List.set_cons_succ]
      refine tq 10 ?_
      refine tq 11 ?_
      refine tq 12 ?_
      refine tq 13 ?_
      refine tq 14 ?_
      refine tq 15 ?_
      refine rd 16 fun K hK => ?_
      go_simp
      refine (placesOf_at M k x _ _ T.out.tab Hx.out H86.out).mono ?_
      rintro e wn ⟨u, rfl, hu, hbn⟩
      have T := Lib.hid (T.out.below hbn)
      have TB := Lib.hid (below_step (by exact TS.out) TB.out hbn)
      have TS := Lib.hid (Nat.le_trans TS.out hbn.size)
      have HU := Lib.hid hu
      clear hu hbn
      go_wp2_with fail
      refine hK.out _ _ ?_ (fun hHeld => ?_)
      ·exact T.out.s
      clear hK K
      try simp only [Act.put, List.getElem_toArray, List.getElem_cons_zero, List.getElem_cons_succ, List.setIfInBounds_toArray, List.set_cons_zero, List.set_cons_succ]
      refine rd 17 fun K hK => ?_
      go_simp
      refine (met_at b c L u (plOf x k x.states.length) true _ T.out.dm HU.out Hn.out Hlow.out (by rw [plOf_len (Nat.le_refl _)]; exact H86.out) Hsp.out ⟨fun _ => HC.out, fun _ => rfl⟩).mono ?_
      rintro e wn ⟨rfl, hbn⟩
      have T := Lib.hid (T.out.below hbn)
      have TB := Lib.hid (below_step (by exact TS.out) TB.out hbn)
      have TS := Lib.hid (Nat.le_trans TS.out hbn.size)
      clear hbn
      go_wp2_with fail
      refine hK.out _ _ ?_ (fun hHeld => ?_)
      ·exact T.out.s
      clear hK K
      try simp only [Act.put, List.getElem_toArray, List.getElem_cons_zero, List.getElem_cons_succ, List.setIfInBounds_toArray, List.set_cons_zero, List.set_cons_succ]
      refine tq 18 ?_
      refine tq 19 ?_
      refine wpAnyH_done (by kernel_rfl) ?_ _
      go_wp2_with fail
      go_roundw
      case rel =>
       refine ⟨k + 1, by go_num, by omega, fun j y hj hy => ?_, below_step R.out.size R.out TB.out⟩
       by_cases hjk : j < k
       ·exact Hs.out j y hjk hy
       ·obtain rfl : j = k := by omega
        rw [Hx.out] at hy
        cases hy
        exact ⟨by rw [← Sn.out]; exact h8, by rw [← Hq.out]; exact Ys.out, (plOf_all x j).1 HC.out.1, fun t ht => (plOf_all (P := fun p => StaysOK p.all p.st) x j).1 HC.out.2 t ht⟩
      case measure => simp [intOf]; omega
     ·have HC := Lib.hid hc
      have Hf := Lib.hid (Bad.out _ (fun g => show (∀ p ∈ plOf x k x.states.length, PlaceOK L p) ∧ ∀ p ∈ plOf x k x.states.length, StaysOK p.all p.st from ⟨(plOf_all x k).2 g.2.2.1, (plOf_all (P := fun p => StaysOK p.all p.st) x k).2 g.2.2.2⟩) hc)
      clear hc
      go_wp2_with fail
      rw [← hwc]
      clear hwc
      refine wp_region_held_drew (S := (fun w' => w'.cell? ⟨wr.heap.size, 0, none⟩ = some (.int .i64 q) ∧ w'.cell? ⟨wr.heap.size, 1, none⟩ = some (.slice sa sn sc) ∧ w'.cell? ⟨wq.heap.size, 0, none⟩ = some (.func (.func 70) #[] #[]) ∧ w'.cell? ⟨wq.heap.size, 1, none⟩ = some (.func (.func 71) #[] #[.pointer (some ⟨b, 0, none⟩)]) ∧ w'.cell? ⟨wq.heap.size, 2, none⟩ = some (.func (.func 73) #[] #[.pointer (some ⟨c, 0, none⟩)]) ∧ w'.cell? ⟨wq.heap.size, 3, none⟩ = some (.func (.func 75) #[] #[.pointer (some ⟨c, 0, none⟩)]) ∧ w'.cell? ⟨wq.heap.size, 4, none⟩ = some (.func (.func 77) #[] #[]))) (by kernel_rfl) ?_ (fun hHeld => ?_)
      ·exact T.out.s
      refine tq 0 ?_
      refine tq 1 ?_
      refine tq 2 ?_
      refine tq 3 ?_
      refine tq 4 ?_
      refine tq 5 ?_
      refine tq 6 ?_
      refine tq 7 ?_
      refine tq 8 ?_
      refine rd 9 fun K hK => ?_
      go_simp
      refine (has_yes _ _ _ _ _ z0 z1).mono ?_
      rintro e wn ⟨rfl, rfl⟩
      go_wp2_with fail
      refine hK.out _ _ ?_ (fun hHeld => ?_)
      ·exact T.out.s
      clear hK K
      try simp only [Act.put, List.getElem_toArray, List.getElem_cons_zero, List.getElem_cons_succ, List.setIfInBounds_toArray, List.set_cons_zero, List.set_cons_succ]
      refine tq 10 ?_
      refine tq 11 ?_
      refine tq 12 ?_
      refine tq 13 ?_
      refine tq 14 ?_
      refine tq 15 ?_
      refine rd 16 fun K hK => ?_
      go_simp
      refine (placesOf_at M k x _ _ T.out.tab Hx.out H86.out).mono ?_
      rintro e wn ⟨u, rfl, hu, hbn⟩
      have T := Lib.hid (T.out.below hbn)
      have TB := Lib.hid (below_step (by exact TS.out) TB.out hbn)
      have TS := Lib.hid (Nat.le_trans TS.out hbn.size)
      have HU := Lib.hid hu
      clear hu hbn
      go_wp2_with fail
      refine hK.out _ _ ?_ (fun hHeld => ?_)
      ·exact T.out.s
      clear hK K
      try simp only [Act.put, List.getElem_toArray, List.getElem_cons_zero, List.getElem_cons_succ, List.setIfInBounds_toArray, List.set_cons_zero, List.set_cons_succ]
      refine rd 17 fun K hK => ?_
      go_simp
      refine (met_at b c L u (plOf x k x.states.length) false _ T.out.dm HU.out Hn.out Hlow.out (by rw [plOf_len (Nat.le_refl _)]; exact H86.out) Hsp.out ⟨fun h => (by cases h), fun h => absurd h HC.out⟩).mono ?_
      rintro e wn ⟨rfl, hbn⟩
      have T := Lib.hid (T.out.below hbn)
      have TB := Lib.hid (below_step (by exact TS.out) TB.out hbn)
      have TS := Lib.hid (Nat.le_trans TS.out hbn.size)
      clear hbn
      go_wp2_with fail
      refine hK.out _ _ ?_ (fun hHeld => ?_)
      ·exact T.out.s
      clear hK K
      try simp only [Act.put, List.getElem_toArray, List.getElem_cons_zero, List.getElem_cons_succ, List.setIfInBounds_toArray, List.set_cons_zero, List.set_cons_succ]
      refine tq 18 ?_
      refine tq 19 ?_
      refine wpAnyH_done (by kernel_rfl) ?_ _
      go_wp2_with fail
      go_ret
      exact ⟨by rw [Hf.out]; rfl, below_step BB.out.size BB.out TB.out⟩
    ·have Hf := Lib.hid (Bad.out _ (fun g => g.2.1) (by rw [← Hq.out]; exact hs))
     have Ns : Hid (¬ (0 ≤ q ∧ q < sn)) := Lib.hid (by rw [Sn.out]; exact hs)
     clear hs
     go_wp2_with fail
     rw [← hwc]
     clear hwc
     refine wp_region_held_drew (S := (fun w' => w'.cell? ⟨wr.heap.size, 0, none⟩ = some (.int .i64 q) ∧ w'.cell? ⟨wr.heap.size, 1, none⟩ = some (.slice sa sn sc) ∧ w'.cell? ⟨wq.heap.size, 0, none⟩ = some (.func (.func 70) #[] #[]) ∧ w'.cell? ⟨wq.heap.size, 1, none⟩ = some (.func (.func 71) #[] #[.pointer (some ⟨b, 0, none⟩)]) ∧ w'.cell? ⟨wq.heap.size, 2, none⟩ = some (.func (.func 73) #[] #[.pointer (some ⟨c, 0, none⟩)]) ∧ w'.cell? ⟨wq.heap.size, 3, none⟩ = some (.func (.func 75) #[] #[.pointer (some ⟨c, 0, none⟩)]) ∧ w'.cell? ⟨wq.heap.size, 4, none⟩ = some (.func (.func 77) #[] #[]))) (by kernel_rfl) ?_ (fun hHeld => ?_)
     ·exact T.out.s
     refine tq 0 ?_
     refine tq 1 ?_
     refine tq 2 ?_
     refine tq 3 ?_
     refine tq 4 ?_
     refine tq 5 ?_
     refine tq 6 ?_
     refine tq 7 ?_
     refine tq 8 ?_
     refine rd 9 fun K hK => ?_
     go_simp
     refine (has_no _ _ _ _ _ Ns.out).mono ?_
     rintro e wn ⟨rfl, rfl⟩
     go_wp2_with fail
     refine hK.out _ _ ?_ (fun hHeld => ?_)
     ·exact T.out.s
     clear hK K
     try simp only [Act.put, List.getElem_toArray, List.getElem_cons_zero, List.getElem_cons_succ, List.setIfInBounds_toArray, List.set_cons_zero, List.set_cons_succ]
     refine tq 10 ?_
     refine tq 11 ?_
     refine tq 12 ?_
     refine tq0 13 ?_
     refine tq0 14 ?_
     refine tq0 15 ?_
     refine tq0 16 ?_
     refine tq0 17 ?_
     refine tq0 18 ?_
     refine tq 19 ?_
     refine wpAnyH_done (by kernel_rfl) ?_ _
     go_wp2_with fail
     go_ret
     exact ⟨by rw [Hf.out]; rfl, below_step BB.out.size BB.out TB.out⟩
   ·have Hf := Lib.hid (Bad.out _ (fun g => g.1) (by rw [← Sn.out]; exact h8))
    have h8' : (8 : Int) < sn := by omega
    have h8'' : decide ((8 : Int) < sn) = true := by simp; omega
    clear h8
    go_wp2_with fail
    rw [← hwc]
    clear hwc
    refine wp_region_held_drew (S := (fun w' => w'.cell? ⟨wr.heap.size, 0, none⟩ = some (.int .i64 q) ∧ w'.cell? ⟨wr.heap.size, 1, none⟩ = some (.slice sa sn sc) ∧ w'.cell? ⟨wq.heap.size, 0, none⟩ = some (.func (.func 70) #[] #[]) ∧ w'.cell? ⟨wq.heap.size, 1, none⟩ = some (.func (.func 71) #[] #[.pointer (some ⟨b, 0, none⟩)]) ∧ w'.cell? ⟨wq.heap.size, 2, none⟩ = some (.func (.func 73) #[] #[.pointer (some ⟨c, 0, none⟩)]) ∧ w'.cell? ⟨wq.heap.size, 3, none⟩ = some (.func (.func 75) #[] #[.pointer (some ⟨c, 0, none⟩)]) ∧ w'.cell? ⟨wq.heap.size, 4, none⟩ = some (.func (.func 77) #[] #[]))) (by kernel_rfl) ?_ (fun hHeld => ?_)
    ·exact T.out.s
    refine tq 0 ?_
    refine tq 1 ?_
    refine tq 2 ?_
    refine tq 3 ?_
    refine tq 4 ?_
    refine tq0 5 ?_
    refine tq0 6 ?_
    refine tq0 7 ?_
    refine tq0 8 ?_
    refine tq0 9 ?_
    refine tq0 10 ?_
    refine tq 11 ?_
    refine tq 12 ?_
    refine tq0 13 ?_
    refine tq0 14 ?_
    refine tq0 15 ?_
    refine tq0 16 ?_
    refine tq0 17 ?_
    refine tq0 18 ?_
    refine tq 19 ?_
    refine wpAnyH_done (by kernel_rfl) ?_ _
    go_wp2_with fail
    go_ret
    exact ⟨by rw [Hf.out]; rfl, below_step BB.out.size BB.out TB.out⟩
  ·have hlt' : ¬ (k : Int) < N := by omega
   have hf : r = true := bool_yes Hr.out (fun j x hx => Hs.out j x (by have := lt_of_some hx; rw [Hlen.out] at this; omega) hx)
   have Hf := Lib.hid hf
   clear hf hA2 hT2
   go_wp2_with fail
   go_ret
   exact ⟨by rw [Hf.out]; rfl, BB.out⟩
theorem tright_at (N : Int) (g : Value) (L : Lks) (M : Tab) (v : Value) (r : Bool) (w : World) (h : Has w v (dTab M)) (hg : LinksAt w g L) (hW : ∀ p ∈ L, wfp p) (hn : L.length ≤ 1000000) (hsm : SmallTab M) (hr : r = true ↔ TabOK N L M) :
  Calls Try.prog 28 #[v, gv N g] w fun e w' => e = .returned (.bool r) ∧ Below w.heap.size w w' := by
 obtain ⟨a, cap, rfl⟩ := slice_of h
 by_cases hR : RightG N L
 ·by_cases hl : (M.length : Int) = N
  ·obtain ⟨N', rfl⟩ := Int.eq_ofNat_of_zero_le (show 0 ≤ N by omega)
   exact tright_loop N' g L M a cap r w h hg hW hn hsm hR hl (hr.trans ⟨fun g => g.2.2, fun g => ⟨hR, hl, g⟩⟩)
  ·rw [bool_no hr (fun g => hl g.2.1)]
   exact tright_graph N g L a _ cap w hg hW (.inr ⟨hR, hl⟩)
 ·rw [bool_no hr (fun g => hR g.1)]
  exact tright_graph N g L a _ cap w hg hW (.inl hR)
end Go.Proofs.Ytiblcpkejhiehaa

set_option linter.unusedSimpArgs false
namespace Go.Proofs.Ytiblcpkejhiehaa
open Go.RowKit Go.PlainAid
def zI : Value := .int .i64 0
def zS : Value := .slice none 0 0
def sl (b n : Nat) : Value := .slice (some ⟨b, 0, none⟩) n n
def twoCells (h : Nat) (m0 : Int) (wb : Nat) (x : Int) : List (Addr × Value) :=
  [(⟨h, 0, none⟩, .int .i64 1), (⟨h, 1, none⟩, .int .i64 1), (⟨h + 1, 0, none⟩, .int .i64 1), (⟨h + 1, 1, none⟩, sl h 1),
   (⟨h + 1 + 1, 0, none⟩, .int .i64 m0), (⟨h + 1 + 1, 1, none⟩, zS), (⟨h + 1 + 1, 2, none⟩, sl (h + 1) 1), (⟨h + 1 + 1, 3, none⟩, zS), (⟨h + 1 + 1, 4, none⟩, zI), (⟨h + 1 + 1, 5, none⟩, zS), (⟨h + 1 + 1, 6, none⟩, zS), (⟨h + 1 + 1, 7, none⟩, zS),
   (⟨wb, 0, none⟩, .int .i64 x), (⟨h + 1 + 1 + 1 + 1, 0, none⟩, .int .i64 0), (⟨h + 1 + 1 + 1 + 1, 1, none⟩, .int .i64 1), (⟨h + 1 + 1 + 1 + 1, 2, none⟩, .int .i64 1),
   (⟨h + 1 + 1 + 1 + 1 + 1, 0, none⟩, .int .i64 2), (⟨h + 1 + 1 + 1 + 1 + 1, 1, none⟩, sl wb 1), (⟨h + 1 + 1 + 1 + 1 + 1, 2, none⟩, zS), (⟨h + 1 + 1 + 1 + 1 + 1, 3, none⟩, sl (h + 1 + 1 + 1 + 1) 1), (⟨h + 1 + 1 + 1 + 1 + 1, 4, none⟩, zI), (⟨h + 1 + 1 + 1 + 1 + 1, 5, none⟩, zS), (⟨h + 1 + 1 + 1 + 1 + 1, 6, none⟩, zS), (⟨h + 1 + 1 + 1 + 1 + 1, 7, none⟩, zS),
   (⟨h + 1 + 1 + 1 + 1 + 1 + 1, 0, none⟩, .int .i64 0), (⟨h + 1 + 1 + 1 + 1 + 1 + 1, 1, none⟩, sl (h + 1 + 1) 2), (⟨h + 1 + 1 + 1 + 1 + 1 + 1, 2, none⟩, .int .i64 0), (⟨h + 1 + 1 + 1 + 1 + 1 + 1, 3, none⟩, sl (h + 1 + 1 + 1 + 1 + 1) 2)]
def TwoAt (w : World) (h : Nat) (m0 : Int) (wb : Nat) (x : Int) : Prop := ∀ p ∈ twoCells h m0 wb x, w.cell? p.1 = some p.2
theorem TwoAt.below {w w' : World} {h : Nat} {m0 : Int} {wb : Nat} {x : Int} (g : TwoAt w h m0 wb x) (hb : Below w.heap.size w w') : TwoAt w' h m0 wb x := fun p hp => (hb.cell (World.block_lt_of_cell? w _ (g p hp))).trans (g p hp)
theorem rightF2 : RightG 2 F2 := by
 refine ⟨by omega, by omega, by decide, rg_of (by decide) (by decide) (by decide) (by decide), fun y hy => ?_⟩
 have : y = 0 ∨ y = 1 := by omega
 rcases this with rfl | rfl
 ·exact ⟨0, rfl⟩
 ·exact ⟨1, 0, rfl, by decide⟩
theorem zeroOK (L : Lks) (n : Int) (all : List St) : PlaceOK L ⟨⟨0, [], [], []⟩, n, all⟩ :=
 ⟨⟨Int.le_refl _, by show (0 : Int) ≤ 2; decide⟩, ⟨by simp, fun i x h => by simp at h⟩, ⟨by simp, by simp, fun i x h => by simp at h⟩, fun i x h => by simp at h⟩
end Go.Proofs.Ytiblcpkejhiehaa

namespace Go.Proofs.Ytiblcpkejhiehaa
open Go.RowKit Go.PlainAid
theorem set_keep {w : World} {g h b o : Nat} {u u' x y z : Value} (hx : w.cell? ⟨h, 2, none⟩ = some x) (hy : w.cell? ⟨b, o, none⟩ = some y) (hz : w.cell? ⟨b, o + 1, none⟩ = some z) (h1 : g ≠ h) (h2 : b ≠ g) :
  ((w.setCell ⟨g, 0, none⟩ u).setCell ⟨g, 1, none⟩ u').cell? ⟨h, 2, none⟩ = some x ∧ ((w.setCell ⟨g, 0, none⟩ u).setCell ⟨g, 1, none⟩ u').cell? ⟨b, o, none⟩ = some y ∧ ((w.setCell ⟨g, 0, none⟩ u).setCell ⟨g, 1, none⟩ u').cell? ⟨b, o + 1, none⟩ = some z := by
 have key : ∀ (p : Addr) (v : Value), p.block ≠ g → w.cell? p = some v → ((w.setCell ⟨g, 0, none⟩ u).setCell ⟨g, 1, none⟩ u').cell? p = some v := fun p v hp h => by
  rw [World.cell?_setCell_other _ _ _ _ (by intro e; exact hp (by rw [← e])), World.cell?_setCell_other _ _ _ _ (by intro e; exact hp (by rw [← e]))]; exact h
 exact ⟨key _ _ (by simpa using fun e => h1 e.symm) hx, key _ _ (by simpa using h2) hy, key _ _ (by simpa using h2) hz⟩
set_option maxHeartbeats 8000000 in
set_option maxRecDepth 100000 in
theorem picked_yes (M : Tab) (n s : Int) (k : Nat) (p : Pk) (v : Value) (w : World) (h : Has w v (dTab M)) (hk : (stAt M n s).picks[k]? = some p) (hs : p.sends.length ≤ 1000000) :
  Calls Try.prog 91 #[v, .int .i64 n, .int .i64 s, .int .i64 k] w fun e w' => ∃ u, e = .returned (pkv p u true) ∧ Holds True (fresh w) w' u (dLinks p.sends) ∧ Below w.heap.size w w' := by
 have H := Lib.hid h
 have Hk := Lib.hid hk
 have Hs := Lib.hid hs
 clear h hk hs
 go_enter Try.func91, Try.ntmps91
 go_wp2_with fail
 refine (placeOf_in M n s v w _ H.out (below_new w _)).mono ?_
 rintro e w1 ⟨u, rfl, hu, hb⟩
 obtain ⟨a1, c1, a2, c2, a3, c3, a4, c4, rfl, h1, h2, h3, h4⟩ := isPl_open hu
 have B := Lib.hid ((below_new w _).trans (hb.mono (by simp)))
 have hz : w.heap.size + 1 ≤ w1.heap.size := by have := hb.size; simp at this; omega
 have s0 : w1.cell? ⟨w.heap.size, 0, none⟩ = some (.int .i64 0) := (hb.cell (by simp)).trans (by go_cell)
 have s1 : w1.cell? ⟨w.heap.size, 1, none⟩ = some (.slice none 0 0) := (hb.cell (by simp)).trans (by go_cell)
 have f0 : w1.frozen? ⟨w.heap.size, 0, none⟩ = false := (hb.frozen (by simp)).trans (by go_cell)
 have f1 : w1.frozen? ⟨w.heap.size, 1, none⟩ = false := (hb.frozen (by simp)).trans (by go_cell)
 obtain ⟨pl, hpl⟩ : ∃ pl, pl = (plAt M n s).st.picks.length := ⟨_, rfl⟩
 have hlt : k < pl := by rw [hpl]; exact lt_of_some Hk.out
 obtain ⟨b, off, cap, sv, e, hbl, _, x0, x1, hsv⟩ := pk_cells h2 Hk.out
 simp only [Value.slice.injEq] at e
 obtain ⟨rfl, _, rfl⟩ := e
 rw [← hpl]
 obtain ⟨sa, sc, rfl⟩ := slice_of hsv
 obtain ⟨pn, hpn⟩ : ∃ pn, pn = p.next := ⟨_, rfl⟩
 obtain ⟨ml, hml⟩ : ∃ ml, ml = p.sends.length := ⟨_, rfl⟩
 rw [← hpn] at x0
 rw [← hml] at x1 hsv
 obtain ⟨w2, hw2⟩ : ∃ w2, w2 = w1.alloc (.cells #[.int .i64 (plAt M n s).st.mode, .slice a1 (plAt M n s).st.waits.length c1, .slice (some ⟨b, off, none⟩) pl c2, .slice a3 (plAt M n s).st.takes.length c3, .int .i64 (plAt M n s).node, .slice a4 (plAt M n s).all.length c4] 148) := ⟨_, rfl⟩
 have g := below_new w1 (.cells #[.int .i64 (plAt M n s).st.mode, .slice a1 (plAt M n s).st.waits.length c1, .slice (some ⟨b, off, none⟩) pl c2, .slice a3 (plAt M n s).st.takes.length c3, .int .i64 (plAt M n s).node, .slice a4 (plAt M n s).all.length c4] 148)
 have y2 : w2.cell? ⟨w1.heap.size, 2, none⟩ = some (.slice (some ⟨b, off, none⟩) pl c2) := by rw [hw2]; go_cell
 have z2 : w2.heap.size = w1.heap.size + 1 := by rw [hw2]; simp
 rw [← hw2] at g
 have n0 := (g.cell (show w.heap.size < _ by omega)).trans s0
 have n1 := (g.cell (show w.heap.size < _ by omega)).trans s1
 have m0 := (g.frozen (show w.heap.size < _ by omega)).trans f0
 have m1 := (g.frozen (show w.heap.size < _ by omega)).trans f1
 have hB := B.out
 have y0 := (g.cell (by have := hB.size; show b < _; omega)).trans ((hB.cell (by exact hbl)).trans x0)
 have y1 := (g.cell (by have := hB.size; show b < _; omega)).trans ((hB.cell (by exact hbl)).trans x1)
 clear hB
 have hne : b ≠ w.heap.size := by omega
 have B2 := Lib.hid (below_step (Nat.le_of_succ_le hz) B.out g)
 have HV := Lib.hid (hsv.later B2.out)
 have Z2 := Lib.hid z2
 have PN := Lib.hid hpn
 have ML := Lib.hid hml
 have hw2' := hw2
 clear hu hb h1 h2 h3 h4 hpl s0 s1 f0 f1 x0 x1 g hsv z2 hpn hml hw2
 go_wp2_with fail
 rw [← hw2']
 clear hw2'
 go_region_held3 (fun w' => w'.cell? ⟨w1.heap.size, 2, none⟩ = some (.slice (some ⟨b, off, none⟩) pl c2) ∧ w'.cell? ⟨b, off + k * 2, none⟩ = some (.int .i64 pn) ∧ w'.cell? ⟨b, off + k * 2 + 1, none⟩ = some (.slice sa ml sc))
  (first | exact ⟨y2, y0, y1⟩ | exact ⟨q2, q0, q1⟩ | exact set_keep q2 q0 q1 (by omega) hne)
  (first | (go_at_call 97; refine (clone_sends _ p.sends _ (HV.out.later (below_drewN (Below.refl _ _) 1)) Hs.out).mono ?_; rintro e w3 ⟨u, rfl, hu, hb⟩; obtain ⟨ua, uc, rfl⟩ := Holds.len hu; rw [List.length_map] at hu ⊢; have q2 := (hb.cell (by have := Z2.out; simp; omega)).trans y2; have q0 := (hb.cell (by have := Z2.out; simp; omega)).trans y0; have q1 := (hb.cell (by have := Z2.out; simp; omega)).trans y1; have r0 := (hb.cell (show w.heap.size < _ by have := Z2.out; simp; omega)).trans n0; have r1 := (hb.cell (show w.heap.size < _ by have := Z2.out; simp; omega)).trans n1; have t0 := (hb.frozen (show w.heap.size < _ by have := Z2.out; simp; omega)).trans m0; have t1 := (hb.frozen (show w.heap.size < _ by have := Z2.out; simp; omega)).trans m1; have HU := Lib.hid hu; have B3 := Lib.hid hb; clear hu hb))
 have hb1 := B2.out
 have hb2 := B3.out
 have hb3 : Below w.heap.size w w3 := below_step hb1.size hb1 (((below_drewN (Below.refl _ w2) 1)).trans (hb2.mono (by simp)))
 have G := Lib.hid hb3
 have hu := HU.out
 clear hb1 hb2 hb3
 go_wp2_with fail
 refine bodyPost_ret (v := .tuple #[.agg #[.int .i64 pn, .slice ua p.sends.length uc], .bool true]) (by simp [results, Try.results91, go_sem, r0, r1]) rfl ⟨_, by rw [PN.out]; rfl, ?_, ?_⟩
 ·have h1 : w.heap.size < w2.heap.size := by have := Z2.out; omega
  refine (Holds.same hu (((SameOn.refl _ _).set _ _ ?_).set _ _ ?_)).wide ?_
  ·simp [fresh]; omega
  ·simp [fresh]; omega
  ·intro b _ hb
   simp [fresh] at hb ⊢
   omega
 ·have := G.out
  go_grown
end Go.Proofs.Ytiblcpkejhiehaa

set_option linter.unusedSimpArgs false
namespace Go.Proofs.Ytiblcpkejhiehaa
open Go.RowKit Go.PlainAid
theorem twoCells_block {h : Nat} {m0 : Int} {wb : Nat} {x : Int} : ∀ p ∈ twoCells h m0 wb x, (h ≤ p.1.block ∧ p.1.block ≤ h + 6) ∨ p.1.block = wb := by
 intro p hp
 simp only [twoCells, List.mem_cons, List.mem_nil_iff, or_false] at hp
 rcases hp with rfl | rfl | rfl | rfl | rfl | rfl | rfl | rfl | rfl | rfl | rfl | rfl | rfl | rfl | rfl | rfl | rfl | rfl | rfl | rfl | rfl | rfl | rfl | rfl | rfl | rfl | rfl | rfl <;> first | (left; constructor <;> simp <;> omega) | (right; rfl)
theorem TwoAt.far {w : World} {h : Nat} {m0 : Int} {wb : Nat} {x : Int} (g : TwoAt w h m0 wb x) (a : Addr) (u : Value) (h1 : a.block < h ∨ h + 6 < a.block) (h2 : wb ≠ a.block) : TwoAt (w.setCell a u) h m0 wb x := fun p hp => by
 rw [World.cell?_setCell_other _ _ _ _ (by intro e; have := twoCells_block p hp; rw [← e] at this; omega)]
 exact g p hp
structure FixAt (w0 : World) (h1 hb hi gb pb wb : Nat) (ga : Option Addr) (gc : Nat) (ua : Option Addr) (uc : Nat) (wr : World) : Prop where
 bel : Below w0.heap.size w0 wr
 t : TwoAt wr h1 1 (h1 + 1 + 1 + 1) 0
 b : TwoAt wr hb 1 wb 1
 i : TwoAt wr hi 0 (hi + 1 + 1 + 1) 0
 g0 : wr.cell? ⟨gb, 0, none⟩ = some (.int .i64 2)
 g1 : wr.cell? ⟨gb, 1, none⟩ = some (.slice ga 2 gc)
 gl : LinksAt wr (.slice ga 2 gc) F2
 p0 : wr.cell? ⟨pb, 0, none⟩ = some (.int .i64 1)
 p1 : wr.cell? ⟨pb, 1, none⟩ = some (.slice ua 1 uc)
theorem FixAt.below {w0 : World} {h1 hb hi gb pb wb : Nat} {ga : Option Addr} {gc : Nat} {ua : Option Addr} {uc : Nat} {w w' : World} (f : FixAt w0 h1 hb hi gb pb wb ga gc ua uc w) (hb' : Below w.heap.size w w') : FixAt w0 h1 hb hi gb pb wb ga gc ua uc w' := by
 have k := fun (p : Addr) (v : Value) (e : w.cell? p = some v) => (hb'.cell (World.block_lt_of_cell? w _ e)).trans e
 exact ⟨below_step f.bel.size f.bel hb', f.t.below hb', f.b.below hb', f.i.below hb', k _ _ f.g0, k _ _ f.g1, f.gl.below hb', k _ _ f.p0, k _ _ f.p1⟩
theorem wfF2 : ∀ p ∈ F2, wfp p := wfSmall (by decide)
theorem mode_is (M : Tab) (n s m : Int) (v : Value) (w : World) (h : Has w v (dTab M)) (hm : (stAt M n s).mode = m) :
  Calls Try.prog 79 #[v, .int .i64 n, .int .i64 s] w fun e w' => e = .returned (.int .i64 m) ∧ Below w.heap.size w w' := by subst hm; exact mode_at M n s v w h
end Go.Proofs.Ytiblcpkejhiehaa

set_option linter.unusedSimpArgs false
namespace Go.Proofs.Ytiblcpkejhiehaa
open Go.RowKit Go.PlainAid
def IsSt (w : World) (s : St) (v : Value) : Prop := ∃ cs, v = .agg ⟨cs⟩ ∧ HasL w cs s.d
theorem IsSt.later {w w' : World} {s : St} {v : Value} (h : IsSt w s v) (hb : Below w.heap.size w w') : IsSt w' s v := by
 obtain ⟨cs, rfl, hc⟩ := h
 exact ⟨cs, rfl, hc.later hb⟩
theorem isSt_open {w : World} {s : St} {u : Value} (h : IsSt w s u) : ∃ a1 c1 a2 c2 a3 c3, u = .agg #[.int .i64 s.mode, .slice a1 s.waits.length c1, .slice a2 s.picks.length c2, .slice a3 s.takes.length c3] ∧
  Has w (.slice a1 s.waits.length c1) (dInts s.waits) ∧ Has w (.slice a2 s.picks.length c2) (dPicks s.picks) ∧ Has w (.slice a3 s.takes.length c3) (dTakes s.takes) := by
 obtain ⟨cs, rfl, hc⟩ := h
 obtain ⟨v1, v2, v3, rfl, h1, h2, h3⟩ := hasL_st hc
 obtain ⟨a1, c1, rfl⟩ := slice_of h1
 obtain ⟨a2, c2, rfl⟩ := slice_of h2
 obtain ⟨a3, c3, rfl⟩ := slice_of h3
 exact ⟨_, _, _, _, _, _, rfl, h1, h2, h3⟩
set_option maxHeartbeats 8000000 in
theorem rin_at (v : Value) (xs : List Int) (x : Int) (r : Bool) (w : World) (h : Has w v (dInts xs)) (hn : xs.length ≤ 1000000) (hr : r = true ↔ x ∈ xs) :
  Calls Try.prog 24 #[v, .int .i64 x] w fun e w' => e = .returned (.bool r) ∧ Below w.heap.size w w' := by
 obtain ⟨a1, c1, rfl⟩ := Holds.len h
 rw [List.length_map] at h ⊢
 obtain ⟨n1, hn1⟩ : ∃ n1, n1 = xs.length := ⟨_, rfl⟩
 have H := Lib.hid h
 have Hr := Lib.hid hr
 rw [← hn1] at hn ⊢
 have N1 := Lib.hid hn1
 clear h hr hn1
 go_enter Try.func24, Try.ntmps24
 go_wp2_with fail
 go_loopw [5] (fun i wr => ∃ k : Nat, i = .int .i64 k ∧ k ≤ n1 ∧ (∀ j y, j < k → xs[j]? = some y → y ≠ x) ∧ Below w.heap.size w wr) (fun i _ => n1 - (intOf i).toNat)
 case atStart => exact ⟨0, rfl, by omega, fun j x hj => by omega, Below.refl _ _⟩
 case round =>
  obtain ⟨k, rfl, hk, hno, hbr⟩ := hrel
  have Hs := Lib.hid hno
  have R := Lib.hid hbr
  clear hno hbr
  by_cases hlt : k < n1
  ·have hlt' : (k : Int) < n1 := by omega
   obtain ⟨y, hy⟩ := some_of_lt (l := xs) (i := k) (by rw [← N1.out]; exact hlt)
   obtain ⟨b, o, cap, e, hb, y0⟩ := int_cells (H.out.later R.out) hy
   rw [← N1.out] at e
   simp only [Value.slice.injEq] at e
   obtain ⟨e, _, e2⟩ := e
   subst e e2
   have Hy := Lib.hid hy
   clear hy
   by_cases hxy : y = x
   ·have hq : (y == x) = true := by simpa using hxy
    have Hf := Lib.hid (bool_yes Hr.out (by rw [← hxy]; exact List.mem_of_getElem? Hy.out))
    clear hxy
    go_wp2_with fail
    go_ret
    exact ⟨by rw [Hf.out]; rfl, R.out⟩
   ·have hq : (y == x) = false := by simpa using hxy
    have Hxy := Lib.hid hxy
    clear hxy
    go_wp2_with fail
    go_roundw
    case rel =>
     refine ⟨k + 1, by go_num, by omega, fun j z hj hz => ?_, R.out⟩
     by_cases hjk : j < k
     ·exact Hs.out j z hjk hz
     ·obtain rfl : j = k := by omega
      rw [Hy.out] at hz
      cases hz
      exact Hxy.out
    case measure => simp [intOf]; omega
  ·have hlt' : ¬ (k : Int) < n1 := by omega
   have hf : r = false := bool_no Hr.out (fun hm => by
    obtain ⟨i, hi⟩ := List.mem_iff_getElem?.1 hm
    exact Hs.out i x (by have := lt_of_some hi; rw [← N1.out] at this; omega) hi rfl)
   have Hf := Lib.hid hf
   clear hf
   go_wp2_with fail
   go_ret
   exact ⟨by rw [Hf.out]; rfl, R.out⟩
theorem rin_yes (v : Value) (xs : List Int) (x : Int) (w : World) (h : Has w v (dInts xs)) (hn : xs.length ≤ 1000000) (hr : x ∈ xs) :
  Calls Try.prog 24 #[v, .int .i64 x] w fun e w' => e = .returned (.bool true) ∧ Below w.heap.size w w' := rin_at v xs x true w h hn (by simp [hr])
theorem rin_no (v : Value) (xs : List Int) (x : Int) (w : World) (h : Has w v (dInts xs)) (hn : xs.length ≤ 1000000) (hr : ¬ x ∈ xs) :
  Calls Try.prog 24 #[v, .int .i64 x] w fun e w' => e = .returned (.bool false) ∧ Below w.heap.size w w' := rin_at v xs x false w h hn (by simp [hr])
/-- What a state waits for lies in memory, with the graph's box. -/
structure WtAt (w : World) (bx bg : Nat) (a1 : Option Addr) (c1 : Nat) (ws : List Int) (N : Int) (ga : Option Addr) (gc : Nat) (L : Lks) : Prop where
 f1 : w.cell? ⟨bx, 1, none⟩ = some (.slice a1 ws.length c1)
 g0 : w.cell? ⟨bg, 0, none⟩ = some (.int .i64 N)
 g1 : w.cell? ⟨bg, 1, none⟩ = some (.slice ga L.length gc)
 hw : Has w (.slice a1 ws.length c1) (dInts ws)
 hl : LinksAt w (.slice ga L.length gc) L
theorem WtAt.below {w w' : World} {bx bg : Nat} {a1 : Option Addr} {c1 : Nat} {ws : List Int} {N : Int} {ga : Option Addr} {gc : Nat} {L : Lks} (h : WtAt w bx bg a1 c1 ws N ga gc L) (hb : Below w.heap.size w w') : WtAt w' bx bg a1 c1 ws N ga gc L := by
 have k := fun (p : Addr) (v : Value) (e : w.cell? p = some v) => (hb.cell (World.block_lt_of_cell? w _ e)).trans e
 exact ⟨k _ _ h.f1, k _ _ h.g0, k _ _ h.g1, h.hw.later hb, h.hl.below hb⟩
/-- What the region reads. -/
structure WtS (bx bg : Nat) (b o k : Nat) (n1 c1 : Nat) (x u : Int) (N : Int) (ga : Option Addr) (ll gc : Nat) (L : Lks) (w : World) : Prop where
 s : w.cell? ⟨bx, 1, none⟩ = some (.slice (some ⟨b, o, none⟩) n1 c1) ∧ w.cell? ⟨bg, 0, none⟩ = some (.int .i64 N) ∧ w.cell? ⟨bg, 1, none⟩ = some (.slice ga ll gc) ∧ w.cell? ⟨b, o + k, none⟩ = some (.int .i64 x) ∧ (0 < k → w.cell? ⟨b, o + (k - 1), none⟩ = some (.int .i64 u))
 l : LinksAt w (.slice ga ll gc) L
theorem WtS.below {bx bg : Nat} {b o k : Nat} {n1 c1 : Nat} {x u : Int} {N : Int} {ga : Option Addr} {ll gc : Nat} {L : Lks} {w w' : World} (h : WtS bx bg b o k n1 c1 x u N ga ll gc L w) (hb : Below w.heap.size w w') : WtS bx bg b o k n1 c1 x u N ga ll gc L w' := by
 obtain ⟨⟨h1, h2, h3, h4, h5⟩, h6⟩ := h
 have k := fun (p : Addr) (v : Value) (e : w.cell? p = some v) => (hb.cell (World.block_lt_of_cell? w _ e)).trans e
 exact ⟨⟨k _ _ h1, k _ _ h2, k _ _ h3, k _ _ h4, fun h => k _ _ (h5 h)⟩, h6.below hb⟩
theorem rwaits_other (m n : Int) (a1 : Option Addr) (n1 c1 : Nat) (v2 v3 : Value) (N : Int) (g : Value) (r : Bool) (w : World) (hm : m ≠ 2) (hr : r = true ↔ n1 = 0) :
  Calls Try.prog 41 #[.agg #[.int .i64 m, .slice a1 n1 c1, v2, v3], .int .i64 n, .agg #[.int .i64 N, g]] w fun e w' => e = .returned (.bool r) ∧ Below w.heap.size w w' := by
 have hm1 : (m == 2) = false := by simpa using hm
 by_cases h0 : n1 = 0
 ·subst h0
  obtain rfl := bool_yes hr rfl
  clear hr hm
  go_enter Try.func41, Try.ntmps41
  go_wp2_with fail
  go_ret
  exact ⟨rfl, by go_grown⟩
 ·obtain rfl := bool_no hr h0
  have h1 : ((n1 : Int) == 0) = false := by simpa using h0
  have h2 : (n1 == 0) = false := by simpa using h0
  clear hr hm
  go_enter Try.func41, Try.ntmps41
  go_wp2_with fail
  go_ret
  exact ⟨rfl, by go_grown⟩
set_option maxHeartbeats 8000000 in
set_option maxRecDepth 100000 in
theorem rwaits_loop (L : Lks) (n : Int) (a1 : Option Addr) (c1 : Nat) (ws : List Int) (v2 v3 : Value) (N : Int) (g : Value) (r : Bool) (w : World) (hw : Has w (.slice a1 ws.length c1) (dInts ws)) (hg : LinksAt w g L) (hn : L.length ≤ 1000000) (hw6 : ws.length ≤ 1000000)
  (hr : r = true ↔ (0 < ws.length ∧ WaitsEach L n ws)) :
  Calls Try.prog 41 #[.agg #[.int .i64 2, .slice a1 ws.length c1, v2, v3], .int .i64 n, .agg #[.int .i64 N, g]] w fun e w' => e = .returned (.bool r) ∧ Below w.heap.size w w' := by
 obtain ⟨ga, gc, rfl⟩ := hg.at
 obtain ⟨n1, hn1⟩ : ∃ n1, n1 = ws.length := ⟨_, rfl⟩
 obtain ⟨ll, hll⟩ : ∃ ll, ll = L.length := ⟨_, rfl⟩
 obtain ⟨w1, hw1⟩ : ∃ w1, w1 = (w.alloc (.cells #[.int .i64 2, .slice a1 n1 c1, v2, v3] 104)).alloc (.cells #[.int .i64 N, .slice ga ll gc] 35) := ⟨_, rfl⟩
 have gb : Below w.heap.size w w1 := by rw [hw1]; go_grown
 have hA : WtAt w1 w.heap.size (w.heap.size + 1) a1 c1 ws N ga gc L := by
  refine ⟨?_, ?_, ?_, hw.later gb, hg.below gb⟩
  ·rw [hw1, ← hn1]; go_cell
  ·rw [hw1]; go_cell
  ·rw [hw1, ← hll]; go_cell
 have c0 : w1.cell? ⟨w.heap.size, 0, none⟩ = some (.int .i64 2) := by rw [hw1]; go_cell
 have A := Lib.hid hA
 have G := Lib.hid gb
 have Hr := Lib.hid hr
 have Hn := Lib.hid hn
 rw [← hn1] at hw6 ⊢
 rw [← hll]
 have N1 := Lib.hid hn1
 have LL := Lib.hid hll
 clear hw hg hr hn hA gb hn1 hll
 go_enter Try.func41, Try.ntmps41
 go_wp2_with fail
 rw [← hw1]
 clear hw1
 try go_wp2_with fail
 go_loopw [7] (fun i wr => ∃ k : Nat, i = .int .i64 k ∧ k ≤ n1 ∧ (∀ j x, j < k → ws[j]? = some x → (x, n) ∈ L ∧ ∀ u : Int, 0 < j → ws[j - 1]? = some u → u < x) ∧ Below w1.heap.size w1 wr) (fun i _ => n1 - (intOf i).toNat)
 case atStart => exact ⟨0, rfl, by omega, fun j x hj => by omega, Below.refl _ _⟩
 case round =>
  obtain ⟨k, rfl, hk, hno, hbr⟩ := hrel
  have Hs := Lib.hid hno
  have R := Lib.hid hbr
  have hA2 := A.out.below hbr
  have f1 := hA2.f1
  rw [← N1.out] at f1
  have BB := Lib.hid (below_step G.out.size G.out hbr)
  clear hno hbr
  by_cases hlt : k < n1
  ·have hlt' : (k : Int) < n1 := by omega
   obtain ⟨x, hx⟩ := some_of_lt (l := ws) (i := k) (by rw [← N1.out]; exact hlt)
   obtain ⟨b, o, cap, e, hb, y0⟩ := int_cells hA2.hw hx
   simp only [Value.slice.injEq] at e
   obtain ⟨e, _, e2⟩ := e
   subst e e2
   have hu : ∃ u, (0 < k → ws[k - 1]? = some u ∧ wr.cell? ⟨b, o + (k - 1), none⟩ = some (.int .i64 u)) := by
    by_cases h0 : 0 < k
    ·obtain ⟨u, hu⟩ := some_of_lt (l := ws) (i := k - 1) (by rw [← N1.out]; omega)
     obtain ⟨b', o', cap', e, _, z0⟩ := int_cells hA2.hw hu
     simp only [Value.slice.injEq, Option.some.injEq, Addr.mk.injEq] at e
     obtain ⟨⟨rfl, rfl, _⟩, _, _⟩ := e
     exact ⟨u, fun _ => ⟨hu, z0⟩⟩
    ·exact ⟨0, fun h => absurd h h0⟩
   obtain ⟨u, hu⟩ := hu
   have HU := Lib.hid hu
   have Hx := Lib.hid hx
   have Bad : Hid (∀ P : Prop, ((x, n) ∈ L → (∀ u : Int, 0 < k → ws[k - 1]? = some u → u < x) → P) → ¬ P → r = false) := Lib.hid (fun P h hP => bool_no Hr.out (fun g => hP (h (g.2 k x Hx.out).1 (g.2 k x Hx.out).2)))
   have hLk := hA2.hl
   have q0 := hA2.g0
   have q1 := hA2.g1
   rw [← LL.out] at hLk q1
   have T : Hid (WtS w.heap.size (w.heap.size + 1) b o k n1 c1 x u N ga ll gc L wr.drew) := Lib.hid (WtS.below ⟨⟨f1, q0, q1, y0, fun h => (hu h).2⟩, hLk⟩ (below_drewN (Below.refl _ wr) 1))
   have TB : Hid (Below wr.heap.size wr wr.drew) := Lib.hid (below_drewN (Below.refl _ _) 1)
   have TS : Hid (wr.heap.size ≤ wr.drew.heap.size) := Lib.hid (Nat.le_refl _)
   clear hA2 hx hu hLk q0 q1 y0
   obtain ⟨q, hq⟩ : ∃ q, q = findL L (x, n) := ⟨_, rfl⟩
   have Hq := Lib.hid hq
   clear hq
   by_cases hm : (x, n) ∈ L
   ·have hq0 : ¬ q < 0 := by rw [Hq.out]; exact fun h => (findL_neg.1 h) hm
    have hq0' : decide (q < 0) = false := by simp; omega
    have Hm := Lib.hid hm
    clear hm
    by_cases hk0 : k = 0
    ·subst hk0
     have good : ∀ u : Int, 0 < 0 → ws[0 - 1]? = some u → u < x := fun u h => by omega
     have Good := Lib.hid good
     have Tk : Hid (∀ w', WtS w.heap.size (w.heap.size + 1) b o 0 n1 c1 x u N ga ll gc L w' → w'.cell? ⟨b, o, none⟩ = some (.int .i64 x)) := Lib.hid (fun w' h => by have := h.s.2.2.2.1; rw [Nat.add_zero] at this; exact this)
     clear good
     go_wp2_with fail
     refine wp_region_held_drew (S := (fun w' => w'.cell? ⟨w.heap.size, 1, none⟩ = some (.slice (some ⟨b, o, none⟩) n1 c1) ∧ w'.cell? ⟨w.heap.size + 1, 0, none⟩ = some (.int .i64 N) ∧ w'.cell? ⟨w.heap.size + 1, 1, none⟩ = some (.slice ga ll gc) ∧ w'.cell? ⟨b, o, none⟩ = some (.int .i64 x))) (by kernel_rfl) ?_ (fun hHeld => ?_)
     ·exact ⟨T.out.s.1, T.out.s.2.1, T.out.s.2.2.1, Tk.out _ T.out⟩
     refine tq 0 ?_
     refine tq 1 ?_
     refine tq 2 ?_
     refine tq 3 ?_
     refine tq 4 ?_
     refine tq 5 ?_
     refine tq 6 ?_
     refine rd 7 fun K hK => ?_
     go_simp
     refine (rfind_at N x n _ L q _ T.out.l Hn.out Hq.out).mono ?_
     rintro e wn ⟨rfl, hbn⟩
     have T := Lib.hid (T.out.below hbn)
     have TB := Lib.hid (below_step (by exact TS.out) TB.out hbn)
     have TS := Lib.hid (Nat.le_trans TS.out hbn.size)
     clear hbn
     go_wp2_with fail
     refine hK.out _ _ ?_ (fun hHeld => ?_)
     ·exact ⟨T.out.s.1, T.out.s.2.1, T.out.s.2.2.1, Tk.out _ T.out⟩
     clear hK K
     try simp only [Act.put, List.getElem_toArray, List.getElem_cons_zero, List.getElem_cons_succ, List.setIfInBounds_toArray, List.set_cons_zero, List.set_cons_succ]
     refine tq 8 ?_
     refine tq 9 ?_
     refine tq 10 ?_
     refine tq 11 ?_
     refine tq 12 ?_
     refine tq0 13 ?_
     refine tq0 14 ?_
     refine tq0 15 ?_
     refine tq0 16 ?_
     refine tq0 17 ?_
     refine tq0 18 ?_
     refine tq0 19 ?_
     refine tq0 20 ?_
     refine tq0 21 ?_
     refine tq0 22 ?_
     refine tq0 23 ?_
     refine tq0 24 ?_
     refine tq 25 ?_
     refine tq 26 ?_
     refine wpAnyH_done (by kernel_rfl) ?_ _
     go_wp2_with fail
     go_roundw
     case rel =>
      refine ⟨0 + 1, by go_num, by omega, fun j y hj hy => ?_, below_step R.out.size R.out TB.out⟩
      obtain rfl : j = 0 := by omega
      rw [Hx.out] at hy
      cases hy
      exact ⟨Hm.out, Good.out⟩
     case measure => simp [intOf]; omega
    ·have hk1 : (0 : Int) < k := by omega
     have hk2 : 0 < k := by omega
     have hk3 : decide ((0 : Int) < k) = true := by simp; omega
     have Hk2 := Lib.hid hk2
     have hwr : IntKind.i64.wrap ((k : Int) - 1) = ((k - 1 : Nat) : Int) := by
      rw [show ((k : Int) - 1) = ((k - 1 : Nat) : Int) by omega]
      exact IntWalk.i64_in _ (by omega)
     have hkl : ((k - 1 : Nat) : Int) < (n1 : Int) := by omega
     have hkl' : k - 1 < n1 := by omega
     by_cases hle : x ≤ u
     ·have hle' : decide (x ≤ u) = true := by simpa using hle
      have Hf := Lib.hid (Bad.out _ (fun _ h => h u Hk2.out (HU.out Hk2.out).1) (by omega))
      clear hle
      go_wp2_with fail
      refine wp_region_held_drew (S := (fun w' => w'.cell? ⟨w.heap.size, 1, none⟩ = some (.slice (some ⟨b, o, none⟩) n1 c1) ∧ w'.cell? ⟨w.heap.size + 1, 0, none⟩ = some (.int .i64 N) ∧ w'.cell? ⟨w.heap.size + 1, 1, none⟩ = some (.slice ga ll gc) ∧ w'.cell? ⟨b, o + k, none⟩ = some (.int .i64 x) ∧ w'.cell? ⟨b, o + (k - 1), none⟩ = some (.int .i64 u))) (by kernel_rfl) ?_ (fun hHeld => ?_)
      ·exact ⟨T.out.s.1, T.out.s.2.1, T.out.s.2.2.1, T.out.s.2.2.2.1, T.out.s.2.2.2.2 Hk2.out⟩
      refine tq 0 ?_
      refine tq 1 ?_
      refine tq 2 ?_
      refine tq 3 ?_
      refine tq 4 ?_
      refine tq 5 ?_
      refine tq 6 ?_
      refine rd 7 fun K hK => ?_
      go_simp
      refine (rfind_at N x n _ L q _ T.out.l Hn.out Hq.out).mono ?_
      rintro e wn ⟨rfl, hbn⟩
      have T := Lib.hid (T.out.below hbn)
      have TB := Lib.hid (below_step (by exact TS.out) TB.out hbn)
      have TS := Lib.hid (Nat.le_trans TS.out hbn.size)
      clear hbn
      go_wp2_with fail
      refine hK.out _ _ ?_ (fun hHeld => ?_)
      ·exact ⟨T.out.s.1, T.out.s.2.1, T.out.s.2.2.1, T.out.s.2.2.2.1, T.out.s.2.2.2.2 Hk2.out⟩
      clear hK K
      try simp only [Act.put, List.getElem_toArray, List.getElem_cons_zero, List.getElem_cons_succ, List.setIfInBounds_toArray, List.set_cons_zero, List.set_cons_succ]
      refine tq 8 ?_
      refine tq 9 ?_
      refine tq 10 ?_
      refine tq 11 ?_
      refine tq 12 ?_
      refine tq 13 ?_
      refine tq 14 ?_
      refine tq 15 ?_
      refine tq 16 ?_
      refine tq 17 ?_
      refine tq 18 ?_
      refine tq 19 ?_
      refine tq 20 ?_
      refine tq 21 ?_
      refine tq 22 ?_
      refine tq 23 ?_
      refine tq 24 ?_
      refine tq 25 ?_
      refine tq 26 ?_
      refine wpAnyH_done (by kernel_rfl) ?_ _
      go_wp2_with fail
      go_ret
      exact ⟨by rw [Hf.out]; rfl, below_step BB.out.size BB.out TB.out⟩
     ·have hle' : decide (x ≤ u) = false := by simpa using hle
      have hlu : u < x := by omega
      have Hlu := Lib.hid hlu
      clear hle hlu
      go_wp2_with fail
      refine wp_region_held_drew (S := (fun w' => w'.cell? ⟨w.heap.size, 1, none⟩ = some (.slice (some ⟨b, o, none⟩) n1 c1) ∧ w'.cell? ⟨w.heap.size + 1, 0, none⟩ = some (.int .i64 N) ∧ w'.cell? ⟨w.heap.size + 1, 1, none⟩ = some (.slice ga ll gc) ∧ w'.cell? ⟨b, o + k, none⟩ = some (.int .i64 x) ∧ w'.cell? ⟨b, o + (k - 1), none⟩ = some (.int .i64 u))) (by kernel_rfl) ?_ (fun hHeld => ?_)
      ·exact ⟨T.out.s.1, T.out.s.2.1, T.out.s.2.2.1, T.out.s.2.2.2.1, T.out.s.2.2.2.2 Hk2.out⟩
      refine tq 0 ?_
      refine tq 1 ?_
      refine tq 2 ?_
      refine tq 3 ?_
      refine tq 4 ?_
      refine tq 5 ?_
      refine tq 6 ?_
      refine rd 7 fun K hK => ?_
      go_simp
      refine (rfind_at N x n _ L q _ T.out.l Hn.out Hq.out).mono ?_
      rintro e wn ⟨rfl, hbn⟩
      have T := Lib.hid (T.out.below hbn)
      have TB := Lib.hid (below_step (by exact TS.out) TB.out hbn)
      have TS := Lib.hid (Nat.le_trans TS.out hbn.size)
      clear hbn
      go_wp2_with fail
      refine hK.out _ _ ?_ (fun hHeld => ?_)
      ·exact ⟨T.out.s.1, T.out.s.2.1, T.out.s.2.2.1, T.out.s.2.2.2.1, T.out.s.2.2.2.2 Hk2.out⟩
      clear hK K
      try simp only [Act.put, List.getElem_toArray, List.getElem_cons_zero, List.getElem_cons_succ, List.setIfInBounds_toArray, List.set_cons_zero, List.set_cons_succ]
      refine tq 8 ?_
      refine tq 9 ?_
      refine tq 10 ?_
      refine tq 11 ?_
      refine tq 12 ?_
      refine tq 13 ?_
      refine tq 14 ?_
      refine tq 15 ?_
      refine tq 16 ?_
      refine tq 17 ?_
      refine tq 18 ?_
      refine tq 19 ?_
      refine tq 20 ?_
      refine tq 21 ?_
      refine tq 22 ?_
      refine tq 23 ?_
      refine tq 24 ?_
      refine tq 25 ?_
      refine tq 26 ?_
      refine wpAnyH_done (by kernel_rfl) ?_ _
      go_wp2_with fail
      go_roundw
      case rel =>
       refine ⟨k + 1, by go_num, by omega, fun j y hj hy => ?_, below_step R.out.size R.out TB.out⟩
       by_cases hjk : j < k
       ·exact Hs.out j y hjk hy
       ·obtain rfl : j = k := by omega
        rw [Hx.out] at hy
        cases hy
        exact ⟨Hm.out, fun u' h0 hu' => by rw [(HU.out h0).1] at hu'; cases hu'; exact Hlu.out⟩
      case measure => simp [intOf]; omega
   ·have hq0 : q < 0 := by rw [Hq.out]; exact findL_neg.2 hm
    have hq0' : decide (q < 0) = true := by simp; omega
    have Hf := Lib.hid (Bad.out _ (fun h _ => h) hm)
    clear hm
    go_wp2_with fail
    refine wp_region_held_drew (S := (fun w' => w'.cell? ⟨w.heap.size, 1, none⟩ = some (.slice (some ⟨b, o, none⟩) n1 c1) ∧ w'.cell? ⟨w.heap.size + 1, 0, none⟩ = some (.int .i64 N) ∧ w'.cell? ⟨w.heap.size + 1, 1, none⟩ = some (.slice ga ll gc) ∧ w'.cell? ⟨b, o + k, none⟩ = some (.int .i64 x))) (by kernel_rfl) ?_ (fun hHeld => ?_)
    ·exact ⟨T.out.s.1, T.out.s.2.1, T.out.s.2.2.1, T.out.s.2.2.2.1⟩
    refine tq 0 ?_
    refine tq 1 ?_
    refine tq 2 ?_
    refine tq 3 ?_
    refine tq 4 ?_
    refine tq 5 ?_
    refine tq 6 ?_
    refine rd 7 fun K hK => ?_
    go_simp
    refine (rfind_at N x n _ L q _ T.out.l Hn.out Hq.out).mono ?_
    rintro e wn ⟨rfl, hbn⟩
    have T := Lib.hid (T.out.below hbn)
    have TB := Lib.hid (below_step (by exact TS.out) TB.out hbn)
    have TS := Lib.hid (Nat.le_trans TS.out hbn.size)
    clear hbn
    go_wp2_with fail
    refine hK.out _ _ ?_ (fun hHeld => ?_)
    ·exact ⟨T.out.s.1, T.out.s.2.1, T.out.s.2.2.1, T.out.s.2.2.2.1⟩
    clear hK K
    try simp only [Act.put, List.getElem_toArray, List.getElem_cons_zero, List.getElem_cons_succ, List.setIfInBounds_toArray, List.set_cons_zero, List.set_cons_succ]
    refine tq 8 ?_
    refine tq 9 ?_
    refine tq0 10 ?_
    refine tq0 11 ?_
    refine tq0 12 ?_
    refine tq0 13 ?_
    refine tq0 14 ?_
    refine tq0 15 ?_
    refine tq0 16 ?_
    refine tq0 17 ?_
    refine tq0 18 ?_
    refine tq0 19 ?_
    refine tq0 20 ?_
    refine tq0 21 ?_
    refine tq0 22 ?_
    refine tq0 23 ?_
    refine tq0 24 ?_
    refine tq0 25 ?_
    refine tq 26 ?_
    refine wpAnyH_done (by kernel_rfl) ?_ _
    go_wp2_with fail
    go_ret
    exact ⟨by rw [Hf.out]; rfl, below_step BB.out.size BB.out TB.out⟩
  ·have hlt' : ¬ (k : Int) < n1 := by omega
   obtain rfl : k = n1 := by omega
   by_cases h0 : k = 0
   ·subst h0
    have hf : r = false := bool_no Hr.out (fun h => by have := h.1; rw [← N1.out] at this; omega)
    have Hf := Lib.hid hf
    clear hf hA2
    go_wp2_with fail
    go_ret
    exact ⟨by rw [Hf.out]; rfl, BB.out⟩
   ·have hf : r = true := bool_yes Hr.out ⟨by rw [← N1.out]; omega, fun j x hx => Hs.out j x (by have := lt_of_some hx; rw [← N1.out] at this; omega) hx⟩
    have Hf := Lib.hid hf
    have h1 : (1 : Int) ≤ k := by omega
    have h1' : decide ((1 : Int) ≤ k) = true := by simp; omega
    have h2 : 1 ≤ k := by omega
    clear hf hA2
    go_wp2_with fail
    go_ret
    exact ⟨by rw [Hf.out]; first | rfl | simp [h1'], BB.out⟩
theorem rwaits_at (L : Lks) (n : Int) (s : St) (v : Value) (N : Int) (g : Value) (r : Bool) (w : World) (h : IsSt w s v) (hg : LinksAt w g L) (hn : L.length ≤ 1000000) (hw6 : s.waits.length ≤ 1000000) (hr : r = true ↔ WaitsOK L n s) :
  Calls Try.prog 41 #[v, .int .i64 n, gv N g] w fun e w' => e = .returned (.bool r) ∧ Below w.heap.size w w' := by
 obtain ⟨a1, c1, a2, c2, a3, c3, rfl, h1, _⟩ := isSt_open h
 by_cases hm : s.mode = 2
 ·have := rwaits_loop L n a1 c1 s.waits (.slice a2 s.picks.length c2) (.slice a3 s.takes.length c3) N g r w h1 hg hn hw6 (hr.trans ⟨fun g => ⟨g.1.1 hm, g.2⟩, fun g => ⟨⟨fun _ => g.1, fun _ => hm⟩, g.2⟩⟩)
  rw [hm]
  exact this
 ·refine rwaits_other _ _ _ _ _ _ _ _ _ _ _ hm (hr.trans ⟨fun g => ?_, fun g => ⟨⟨fun h => absurd h hm, fun h => by omega⟩, fun i x hx => ?_⟩⟩)
  ·by_cases h0 : s.waits.length = 0
   ·exact h0
   ·exact absurd (g.1.2 (by omega)) hm
  ·have := lt_of_some hx; omega
end Go.Proofs.Ytiblcpkejhiehaa

set_option linter.unusedSimpArgs false
namespace Go.Proofs.Ytiblcpkejhiehaa
open Go.RowKit Go.PlainAid
/-- Does a state wait for all that another one waits for, but for one node. -/
def Kept (ws : List Int) (sto : St) (but : Int) : Prop := ∀ (i : Nat) (x : Int), ws[i]? = some x → x ≠ but → sto.mode = 2 ∧ x ∈ sto.waits
structure KpS (b1 b2 : Nat) (b o k n1 c1 : Nat) (x m2 : Int) (a2 : Option Addr) (n2 c2 : Nat) (w : World) : Prop where
 s : w.cell? ⟨b1, 1, none⟩ = some (.slice (some ⟨b, o, none⟩) n1 c1) ∧ w.cell? ⟨b2, 0, none⟩ = some (.int .i64 m2) ∧ w.cell? ⟨b2, 1, none⟩ = some (.slice a2 n2 c2) ∧ w.cell? ⟨b, o + k, none⟩ = some (.int .i64 x)
theorem KpS.below {b1 b2 : Nat} {b o k n1 c1 : Nat} {x m2 : Int} {a2 : Option Addr} {n2 c2 : Nat} {w w' : World} (h : KpS b1 b2 b o k n1 c1 x m2 a2 n2 c2 w) (hb : Below w.heap.size w w') : KpS b1 b2 b o k n1 c1 x m2 a2 n2 c2 w' := by
 obtain ⟨h1, h2, h3, h4⟩ := h
 have k := fun (p : Addr) (v : Value) (e : w.cell? p = some v) => (hb.cell (World.block_lt_of_cell? w _ e)).trans e
 exact ⟨k _ _ h1, k _ _ h2, k _ _ h3, k _ _ h4⟩
set_option maxHeartbeats 8000000 in
set_option maxRecDepth 100000 in
theorem rkept_loop (m1 : Int) (a1 : Option Addr) (c1 : Nat) (ws : List Int) (v2 v3 : Value) (a2 : Option Addr) (c2 : Nat) (sto : St) (u2 u3 : Value) (but : Int) (r : Bool) (w : World) (hw : Has w (.slice a1 ws.length c1) (dInts ws)) (hto : Has w (.slice a2 sto.waits.length c2) (dInts sto.waits)) (hw6 : ws.length ≤ 1000000) (ht6 : sto.waits.length ≤ 1000000)
  (hr : r = true ↔ Kept ws sto but) :
  Calls Try.prog 63 #[.agg #[.int .i64 m1, .slice a1 ws.length c1, v2, v3], .agg #[.int .i64 sto.mode, .slice a2 sto.waits.length c2, u2, u3], .int .i64 but] w fun e w' => e = .returned (.bool r) ∧ Below w.heap.size w w' := by
 obtain ⟨n1, hn1⟩ : ∃ n1, n1 = ws.length := ⟨_, rfl⟩
 obtain ⟨n2, hn2⟩ : ∃ n2, n2 = sto.waits.length := ⟨_, rfl⟩
 obtain ⟨m2, hm2⟩ : ∃ m2, m2 = sto.mode := ⟨_, rfl⟩
 rw [← hn1] at hw hw6 ⊢
 rw [← hn2] at hto ht6 ⊢
 rw [← hm2]
 obtain ⟨w1, hw1⟩ : ∃ w1, w1 = (w.alloc (.cells #[.int .i64 m1, .slice a1 n1 c1, v2, v3] 104)).alloc (.cells #[.int .i64 m2, .slice a2 n2 c2, u2, u3] 104) := ⟨_, rfl⟩
 have gb : Below w.heap.size w w1 := by rw [hw1]; go_grown
 have e1 : w1.cell? ⟨w.heap.size, 1, none⟩ = some (.slice a1 n1 c1) := by rw [hw1]; go_cell
 have e2 : w1.cell? ⟨w.heap.size + 1, 0, none⟩ = some (.int .i64 m2) := by rw [hw1]; go_cell
 have e3 : w1.cell? ⟨w.heap.size + 1, 1, none⟩ = some (.slice a2 n2 c2) := by rw [hw1]; go_cell
 have E2 := Lib.hid e2
 have E3 := Lib.hid e3
 have E1 := Lib.hid e1
 have HW := Lib.hid (hw.later gb)
 have HT := Lib.hid (hto.later gb)
 have G := Lib.hid gb
 have Hr := Lib.hid hr
 have N1 := Lib.hid hn1
 have N2 := Lib.hid hn2
 have M2 := Lib.hid hm2
 clear hw hto hr gb hn1 hn2 hm2 e1 e2 e3
 go_enter Try.func63, Try.ntmps63
 go_wp2_with fail
 rw [← hw1]
 clear hw1
 try go_wp2_with fail
 go_loopw [7] (fun i wr => ∃ k : Nat, i = .int .i64 k ∧ k ≤ n1 ∧ (∀ j x, j < k → ws[j]? = some x → x ≠ but → sto.mode = 2 ∧ x ∈ sto.waits) ∧ Below w1.heap.size w1 wr) (fun i _ => n1 - (intOf i).toNat)
 case atStart => exact ⟨0, rfl, by omega, fun j x hj => by omega, Below.refl _ _⟩
 case round =>
  obtain ⟨k, rfl, hk, hno, hbr⟩ := hrel
  have Hs := Lib.hid hno
  have R := Lib.hid hbr
  have f1 := (hbr.cell (World.block_lt_of_cell? w1 _ E1.out)).trans E1.out
  have f2 := (hbr.cell (World.block_lt_of_cell? w1 _ E2.out)).trans E2.out
  have f3 := (hbr.cell (World.block_lt_of_cell? w1 _ E3.out)).trans E3.out
  have BB := Lib.hid (below_step G.out.size G.out hbr)
  by_cases hlt : k < n1
  ·have hlt' : (k : Int) < n1 := by omega
   obtain ⟨x, hx⟩ := some_of_lt (l := ws) (i := k) (by rw [← N1.out]; exact hlt)
   obtain ⟨b, o, cap, e, hb, y0⟩ := int_cells (HW.out.later hbr) hx
   rw [← N1.out] at e
   simp only [Value.slice.injEq] at e
   obtain ⟨e, _, e2⟩ := e
   subst e e2
   have Hx := Lib.hid hx
   have HT2 := Lib.hid (HT.out.later (hbr.trans ((below_drewN (Below.refl _ wr) 1).mono hbr.size)))
   have Bad : Hid (∀ P : Prop, ((x ≠ but → sto.mode = 2 ∧ x ∈ sto.waits) → P) → ¬ P → r = false) := Lib.hid (fun P h hP => bool_no Hr.out (fun g => hP (h (g k x Hx.out))))
   have T : Hid (KpS w.heap.size (w.heap.size + 1) b o k n1 c1 x m2 a2 n2 c2 wr.drew) := Lib.hid (KpS.below ⟨⟨f1, f2, f3, y0⟩⟩ (below_drewN (Below.refl _ wr) 1))
   have TB : Hid (Below wr.heap.size wr wr.drew) := Lib.hid (below_drewN (Below.refl _ _) 1)
   have TS : Hid (wr.heap.size ≤ wr.drew.heap.size) := Lib.hid (Nat.le_refl _)
   clear hno hbr hx f2 f3 y0
   by_cases hxb : x = but
   ·have hq : (x == but) = true := by simpa using hxb
    have hq' : (x != but) = false := by simpa using hxb
    have Hxb := Lib.hid hxb
    clear hxb
    go_wp2_with fail
    refine wp_region_held_drew (S := (fun w' => w'.cell? ⟨w.heap.size, 1, none⟩ = some (.slice (some ⟨b, o, none⟩) n1 c1) ∧ w'.cell? ⟨w.heap.size + 1, 0, none⟩ = some (.int .i64 m2) ∧ w'.cell? ⟨w.heap.size + 1, 1, none⟩ = some (.slice a2 n2 c2) ∧ w'.cell? ⟨b, o + k, none⟩ = some (.int .i64 x))) (by kernel_rfl) ?_ (fun hHeld => ?_)
    ·exact T.out.s
    refine tq 0 ?_
    refine tq 1 ?_
    refine tq 2 ?_
    refine tq 3 ?_
    refine tq 4 ?_
    refine tq 5 ?_
    refine tq 6 ?_
    refine tq 7 ?_
    refine tq0 8 ?_
    refine tq0 9 ?_
    refine tq0 10 ?_
    refine tq0 11 ?_
    refine tq0 12 ?_
    refine tq0 13 ?_
    refine tq0 14 ?_
    refine tq0 15 ?_
    refine tq0 16 ?_
    refine tq0 17 ?_
    refine tq0 18 ?_
    refine tq0 19 ?_
    refine tq0 20 ?_
    refine tq0 21 ?_
    refine tq 22 ?_
    refine wpAnyH_done (by kernel_rfl) ?_ _
    go_wp2_with fail
    go_roundw
    case rel =>
     refine ⟨k + 1, by go_num, by omega, fun j y hj hy hne => ?_, below_step R.out.size R.out TB.out⟩
     by_cases hjk : j < k
     ·exact Hs.out j y hjk hy hne
     ·obtain rfl : j = k := by omega
      rw [Hx.out] at hy
      cases hy
      exact absurd Hxb.out hne
    case measure => simp [intOf]; omega
   ·have hq : (x == but) = false := by simpa using hxb
    have hq' : (x != but) = true := by simpa using hxb
    have Hxb := Lib.hid hxb
    clear hxb
    by_cases hm : m2 = 2
    ·subst hm
     by_cases hin : x ∈ sto.waits
     ·have Hin := Lib.hid hin
      clear hin
      go_wp2_with fail
      refine wp_region_held_drew (S := (fun w' => w'.cell? ⟨w.heap.size, 1, none⟩ = some (.slice (some ⟨b, o, none⟩) n1 c1) ∧ w'.cell? ⟨w.heap.size + 1, 0, none⟩ = some (.int .i64 2) ∧ w'.cell? ⟨w.heap.size + 1, 1, none⟩ = some (.slice a2 n2 c2) ∧ w'.cell? ⟨b, o + k, none⟩ = some (.int .i64 x))) (by kernel_rfl) ?_ (fun hHeld => ?_)
      ·exact T.out.s
      refine tq 0 ?_
      refine tq 1 ?_
      refine tq 2 ?_
      refine tq 3 ?_
      refine tq 4 ?_
      refine tq 5 ?_
      refine tq 6 ?_
      refine tq 7 ?_
      refine tq 8 ?_
      refine tq 9 ?_
      refine tq 10 ?_
      refine tq 11 ?_
      refine tq 12 ?_
      refine tq 13 ?_
      refine tq 14 ?_
      refine tq 15 ?_
      refine tq 16 ?_
      refine tq 17 ?_
      refine tq 18 ?_
      refine rd 19 fun K hK => ?_
      go_simp
      refine (rin_yes _ sto.waits x _ HT2.out (by rw [← N2.out]; exact ht6) Hin.out).mono ?_
      rintro e wn ⟨rfl, hbn⟩
      have T := Lib.hid (T.out.below hbn)
      have TB := Lib.hid (below_step (by exact TS.out) TB.out hbn)
      have TS := Lib.hid (Nat.le_trans TS.out hbn.size)
      have HT2 := Lib.hid (HT2.out.later hbn)
      clear hbn
      go_wp2_with fail
      refine hK.out _ _ ?_ (fun hHeld => ?_)
      ·exact T.out.s
      clear hK K
      try simp only [Act.put, List.getElem_toArray, List.getElem_cons_zero, List.getElem_cons_succ, List.setIfInBounds_toArray, List.set_cons_zero, List.set_cons_succ]
      refine tq 20 ?_
      refine tq 21 ?_
      refine tq 22 ?_
      refine wpAnyH_done (by kernel_rfl) ?_ _
      go_wp2_with fail
      go_roundw
      case rel =>
       refine ⟨k + 1, by go_num, by omega, fun j y hj hy hne => ?_, below_step R.out.size R.out TB.out⟩
       by_cases hjk : j < k
       ·exact Hs.out j y hjk hy hne
       ·obtain rfl : j = k := by omega
        rw [Hx.out] at hy
        cases hy
        exact ⟨M2.out.symm, Hin.out⟩
      case measure => simp [intOf]; omega
     ·have Hin := Lib.hid hin
      have Hf := Lib.hid (Bad.out _ (fun h => (h Hxb.out).2) hin)
      clear hin
      go_wp2_with fail
      refine wp_region_held_drew (S := (fun w' => w'.cell? ⟨w.heap.size, 1, none⟩ = some (.slice (some ⟨b, o, none⟩) n1 c1) ∧ w'.cell? ⟨w.heap.size + 1, 0, none⟩ = some (.int .i64 2) ∧ w'.cell? ⟨w.heap.size + 1, 1, none⟩ = some (.slice a2 n2 c2) ∧ w'.cell? ⟨b, o + k, none⟩ = some (.int .i64 x))) (by kernel_rfl) ?_ (fun hHeld => ?_)
      ·exact T.out.s
      refine tq 0 ?_
      refine tq 1 ?_
      refine tq 2 ?_
      refine tq 3 ?_
      refine tq 4 ?_
      refine tq 5 ?_
      refine tq 6 ?_
      refine tq 7 ?_
      refine tq 8 ?_
      refine tq 9 ?_
      refine tq 10 ?_
      refine tq 11 ?_
      refine tq 12 ?_
      refine tq 13 ?_
      refine tq 14 ?_
      refine tq 15 ?_
      refine tq 16 ?_
      refine tq 17 ?_
      refine tq 18 ?_
      refine rd 19 fun K hK => ?_
      go_simp
      refine (rin_no _ sto.waits x _ HT2.out (by rw [← N2.out]; exact ht6) Hin.out).mono ?_
      rintro e wn ⟨rfl, hbn⟩
      have T := Lib.hid (T.out.below hbn)
      have TB := Lib.hid (below_step (by exact TS.out) TB.out hbn)
      have TS := Lib.hid (Nat.le_trans TS.out hbn.size)
      have HT2 := Lib.hid (HT2.out.later hbn)
      clear hbn
      go_wp2_with fail
      refine hK.out _ _ ?_ (fun hHeld => ?_)
      ·exact T.out.s
      clear hK K
      try simp only [Act.put, List.getElem_toArray, List.getElem_cons_zero, List.getElem_cons_succ, List.setIfInBounds_toArray, List.set_cons_zero, List.set_cons_succ]
      refine tq 20 ?_
      refine tq 21 ?_
      refine tq 22 ?_
      refine wpAnyH_done (by kernel_rfl) ?_ _
      go_wp2_with fail
      go_ret
      exact ⟨by rw [Hf.out]; rfl, below_step BB.out.size BB.out TB.out⟩
    ·have hm1 : (m2 == 2) = false := by simpa using hm
     have hm1' : (m2 != 2) = true := by simpa using hm
     have Hf := Lib.hid (Bad.out _ (fun h => (h Hxb.out).1) (by rw [← M2.out]; exact hm))
     clear hm
     go_wp2_with fail
     refine wp_region_held_drew (S := (fun w' => w'.cell? ⟨w.heap.size, 1, none⟩ = some (.slice (some ⟨b, o, none⟩) n1 c1) ∧ w'.cell? ⟨w.heap.size + 1, 0, none⟩ = some (.int .i64 m2) ∧ w'.cell? ⟨w.heap.size + 1, 1, none⟩ = some (.slice a2 n2 c2) ∧ w'.cell? ⟨b, o + k, none⟩ = some (.int .i64 x))) (by kernel_rfl) ?_ (fun hHeld => ?_)
     ·exact T.out.s
     refine tq 0 ?_
     refine tq 1 ?_
     refine tq 2 ?_
     refine tq 3 ?_
     refine tq 4 ?_
     refine tq 5 ?_
     refine tq 6 ?_
     refine tq 7 ?_
     refine tq 8 ?_
     refine tq 9 ?_
     refine tq 10 ?_
     refine tq 11 ?_
     refine tq0 12 ?_
     refine tq0 13 ?_
     refine tq0 14 ?_
     refine tq0 15 ?_
     refine tq0 16 ?_
     refine tq0 17 ?_
     refine tq0 18 ?_
     refine tq0 19 ?_
     refine tq0 20 ?_
     refine tq 21 ?_
     refine tq 22 ?_
     refine wpAnyH_done (by kernel_rfl) ?_ _
     go_wp2_with fail
     go_ret
     exact ⟨by rw [Hf.out]; rfl, below_step BB.out.size BB.out TB.out⟩
  ·have hlt' : ¬ (k : Int) < n1 := by omega
   have hf : r = true := bool_yes Hr.out (fun j x hx => Hs.out j x (by have := lt_of_some hx; rw [← N1.out] at this; omega) hx)
   have Hf := Lib.hid hf
   clear hf hno hbr
   go_wp2_with fail
   go_ret
   exact ⟨by rw [Hf.out]; rfl, BB.out⟩
theorem rkept_at (s sto : St) (v u : Value) (but : Int) (r : Bool) (w : World) (h : IsSt w s v) (h' : IsSt w sto u) (hw6 : s.waits.length ≤ 1000000) (ht6 : sto.waits.length ≤ 1000000) (hr : r = true ↔ Kept s.waits sto but) :
  Calls Try.prog 63 #[v, u, .int .i64 but] w fun e w' => e = .returned (.bool r) ∧ Below w.heap.size w w' := by
 obtain ⟨a1, c1, a2, c2, a3, c3, rfl, h1, _⟩ := isSt_open h
 obtain ⟨b1, e1, b2, e2, b3, e3, rfl, g1, _⟩ := isSt_open h'
 exact rkept_loop _ a1 c1 s.waits _ _ b1 e1 sto _ _ but r w h1 g1 hw6 ht6 hr
/-- What the walk of picks needs. -/
structure QkAt (w : World) (bx bg : Nat) (a2 : Option Addr) (c2 : Nat) (l : List Pk) (N : Int) (ga : Option Addr) (gc : Nat) (L : Lks) : Prop where
 f2 : w.cell? ⟨bx, 2, none⟩ = some (.slice a2 l.length c2)
 g0 : w.cell? ⟨bg, 0, none⟩ = some (.int .i64 N)
 g1 : w.cell? ⟨bg, 1, none⟩ = some (.slice ga L.length gc)
 hp : Has w (.slice a2 l.length c2) (dPicks l)
 hl : LinksAt w (.slice ga L.length gc) L
theorem QkAt.below {w w' : World} {bx bg : Nat} {a2 : Option Addr} {c2 : Nat} {l : List Pk} {N : Int} {ga : Option Addr} {gc : Nat} {L : Lks} (h : QkAt w bx bg a2 c2 l N ga gc L) (hb : Below w.heap.size w w') : QkAt w' bx bg a2 c2 l N ga gc L := by
 have k := fun (p : Addr) (v : Value) (e : w.cell? p = some v) => (hb.cell (World.block_lt_of_cell? w _ e)).trans e
 exact ⟨k _ _ h.f2, k _ _ h.g0, k _ _ h.g1, h.hp.later hb, h.hl.below hb⟩
structure QkS (bo bg b o k n1 c1 : Nat) (q1 q2 : Int) (N : Int) (ga : Option Addr) (ll gc : Nat) (L : Lks) (w : World) : Prop where
 s : w.cell? ⟨bo, 1, none⟩ = some (.slice (some ⟨b, o, none⟩) n1 c1) ∧ w.cell? ⟨bg, 0, none⟩ = some (.int .i64 N) ∧ w.cell? ⟨bg, 1, none⟩ = some (.slice ga ll gc) ∧ w.cell? ⟨b, o + k * 2, none⟩ = some (.int .i64 q1) ∧ w.cell? ⟨b, o + k * 2 + 1, none⟩ = some (.int .i64 q2)
 l : LinksAt w (.slice ga ll gc) L
theorem QkS.below {bo bg b o k n1 c1 : Nat} {q1 q2 : Int} {N : Int} {ga : Option Addr} {ll gc : Nat} {L : Lks} {w w' : World} (h : QkS bo bg b o k n1 c1 q1 q2 N ga ll gc L w) (hb : Below w.heap.size w w') : QkS bo bg b o k n1 c1 q1 q2 N ga ll gc L w' := by
 obtain ⟨⟨h1, h2, h3, h4, h5⟩, h6⟩ := h
 have k := fun (p : Addr) (v : Value) (e : w.cell? p = some v) => (hb.cell (World.block_lt_of_cell? w _ e)).trans e
 exact ⟨⟨k _ _ h1, k _ _ h2, k _ _ h3, k _ _ h4, k _ _ h5⟩, h6.below hb⟩
set_option maxHeartbeats 8000000 in
set_option maxRecDepth 100000 in
theorem rpicks_loop (L : Lks) (n m : Int) (v1 v3 : Value) (a2 : Option Addr) (c2 : Nat) (l : List Pk) (all : List St) (N : Int) (g : Value) (r : Bool) (w : World) (hp : Has w (.slice a2 l.length c2) (dPicks l)) (hg : LinksAt w g L) (hn : L.length ≤ 1000000) (h4 : l.length ≤ 4) (h0 : 0 < l.length) (hm : m = 1)
  (hr : r = true ↔ PicksEach L n all l) :
  Calls Try.prog 42 #[.agg #[.int .i64 m, v1, .slice a2 l.length c2, v3], .int .i64 n, .int .i64 all.length, .agg #[.int .i64 N, g]] w fun e w' => e = .returned (.bool r) ∧ Below w.heap.size w w' := by
 obtain ⟨ga, gc, rfl⟩ := hg.at
 obtain ⟨ln, hln⟩ : ∃ ln, ln = l.length := ⟨_, rfl⟩
 obtain ⟨ll, hll⟩ : ∃ ll, ll = L.length := ⟨_, rfl⟩
 obtain ⟨n4, hn4⟩ : ∃ n4, n4 = all.length := ⟨_, rfl⟩
 obtain ⟨w1, hw1⟩ : ∃ w1, w1 = (w.alloc (.cells #[.int .i64 m, v1, .slice a2 ln c2, v3] 104)).alloc (.cells #[.int .i64 N, .slice ga ll gc] 35) := ⟨_, rfl⟩
 have gb : Below w.heap.size w w1 := by rw [hw1]; go_grown
 have hA : QkAt w1 w.heap.size (w.heap.size + 1) a2 c2 l N ga gc L := by
  refine ⟨?_, ?_, ?_, hp.later gb, hg.below gb⟩
  ·rw [hw1, ← hln]; go_cell
  ·rw [hw1]; go_cell
  ·rw [hw1, ← hll]; go_cell
 have c0 : w1.cell? ⟨w.heap.size, 0, none⟩ = some (.int .i64 m) := by rw [hw1]; go_cell
 have f2' := hA.f2
 have A := Lib.hid hA
 have G := Lib.hid gb
 have Hr := Lib.hid hr
 have Hn := Lib.hid hn
 rw [← hln] at h4 h0 f2' ⊢
 subst hm
 have e0 : (0 : Int) < ln := by omega
 have e0' : decide ((0 : Int) < ln) = true := by simp; omega
 rw [← hll]
 rw [← hn4]
 have Ln := Lib.hid hln
 have LL := Lib.hid hll
 have N4 := Lib.hid hn4
 have e4 : ¬ (4 : Int) < ln := by omega
 have e4' : decide ((4 : Int) < ln) = false := by simp; omega
 clear hp hg hr hn hA gb hln hll hn4
 go_enter Try.func42, Try.ntmps42
 try simp only [List.append_eq, List.cons_append, List.nil_append]
 go_wp2_with fail
 rw [← hw1]
 clear hw1
 try go_wp2_with fail
 go_loopw [9] (fun i wr => ∃ k : Nat, i = .int .i64 k ∧ k ≤ ln ∧ (∀ j p, j < k → l[j]? = some p → HasS all p.next ∧ p.sends.length ≤ 4 ∧ SendsEach L n p.sends) ∧ Below w1.heap.size w1 wr) (fun i _ => ln - (intOf i).toNat)
 case atStart => exact ⟨0, rfl, by omega, fun j x hj => by omega, Below.refl _ _⟩
 case round =>
  obtain ⟨k, rfl, hk, hno, hbr⟩ := hrel
  obtain ⟨wo, hwo⟩ : ∃ wo, wo = wr := ⟨_, rfl⟩
  subst hwo
  have Hs := Lib.hid hno
  have R := Lib.hid hbr
  have hA2 := A.out.below hbr
  have A2 := Lib.hid hA2
  have BB := Lib.hid (below_step G.out.size G.out hbr)
  have q2 := hA2.f2
  rw [← Ln.out] at q2
  clear hno hbr
  by_cases hlt : k < ln
  ·have hlt' : (k : Int) < ln := by omega
   obtain ⟨p, hp⟩ := some_of_lt (l := l) (i := k) (by rw [← Ln.out]; exact hlt)
   obtain ⟨b, off, cap, sv, e, hb, _, x0, x1, hsv⟩ := pk_cells hA2.hp hp
   simp only [Value.slice.injEq] at e
   obtain ⟨e, _, e2⟩ := e
   subst e e2
   obtain ⟨sa, sc, rfl⟩ := slice_of hsv
   obtain ⟨sn, hsn⟩ : ∃ sn, sn = p.sends.length := ⟨_, rfl⟩
   obtain ⟨pn, hpn⟩ : ∃ pn, pn = p.next := ⟨_, rfl⟩
   rw [← hsn] at x1 hsv
   rw [← hpn] at x0
   have Sn := Lib.hid hsn
   have Pn := Lib.hid hpn
   have Hp := Lib.hid hp
   have Bad : Hid (∀ P : Prop, (HasS all pn → sn ≤ 4 → SendsEach L n p.sends → P) → ¬ P → r = false) := Lib.hid (fun P h hP => bool_no Hr.out (fun g => hP (by rw [Pn.out, Sn.out] at h; exact h (g k p Hp.out).1 (g k p Hp.out).2.1 (g k p Hp.out).2.2)))
   obtain ⟨w2, hw2⟩ : ∃ w2, w2 = wo.alloc (.cells #[.int .i64 pn, .slice sa sn sc] 139) := ⟨_, rfl⟩
   have hb2 : Below wo.heap.size wo w2 := by rw [hw2]; exact below_new _ _
   have z0 : w2.cell? ⟨wo.heap.size, 0, none⟩ = some (.int .i64 pn) := by rw [hw2]; exact World.cell?_alloc_at _ _ _ _ rfl
   have z1 : w2.cell? ⟨wo.heap.size, 1, none⟩ = some (.slice sa sn sc) := by rw [hw2]; exact World.cell?_alloc_at _ _ _ _ rfl
   have B2 := Lib.hid hb2
   have A3 := Lib.hid (hA2.below hb2)
   have R3 := Lib.hid (below_step R.out.size R.out hb2)
   have BB3 := Lib.hid (below_step BB.out.size BB.out hb2)
   have HS2 := Lib.hid (hsv.later hb2)
   have Z1 := Lib.hid z1
   clear hp hsv hsn hpn hA2 hb2
   by_cases hs0 : pn < 0
   ·have Hf := Lib.hid (Bad.out _ (fun h _ _ => h.1) (by omega))
    clear z0 z1
    go_wp2_with fail
    rw [← hw2]
    clear hw2
    try go_wp2_with fail
    go_ret
    exact ⟨by rw [Hf.out]; rfl, BB3.out⟩
   ·have hs0' : decide (pn < 0) = false := by simp; omega
    by_cases hs1 : (n4 : Int) ≤ pn
    ·have hs1' : decide ((n4 : Int) ≤ pn) = true := by simp; omega
     have Hf := Lib.hid (Bad.out _ (fun h _ _ => h.2) (by rw [← N4.out]; omega))
     clear z0 z1
     go_wp2_with fail
     rw [← hw2]
     clear hw2
     try go_wp2_with fail
     go_ret
     exact ⟨by rw [Hf.out]; rfl, BB3.out⟩
    ·have hs1' : decide ((n4 : Int) ≤ pn) = false := by simp; omega
     have Ys : Hid (HasS all pn) := Lib.hid ⟨by omega, by rw [← N4.out]; omega⟩
     by_cases hs4 : sn ≤ 4
     ·have u4 : ¬ (4 : Int) < sn := by omega
      have u4' : decide ((4 : Int) < sn) = false := by simp; omega
      clear z0 z1
      go_wp2_with fail
      rw [← hw2]
      clear hw2
      try go_wp2_with fail
      go_loopw [11] (fun i wq => ∃ k2 : Nat, i = .int .i64 k2 ∧ k2 ≤ sn ∧ (∀ j q, j < k2 → p.sends[j]? = some q → Goes L n q.1 q.2) ∧ Below w2.heap.size w2 wq) (fun i _ => sn - (intOf i).toNat)
      case atStart => exact ⟨0, rfl, by omega, fun j x hj => by omega, Below.refl _ _⟩
      case round =>
       obtain ⟨k2, rfl, hk2, hno2, hbr2⟩ := hrel
       have Hs2 := Lib.hid hno2
       have T0 := Lib.hid hbr2
       have hA4 := A3.out.below hbr2
       have BT := Lib.hid (below_step R3.out.size R3.out hbr2)
       have v1' := (hbr2.cell (World.block_lt_of_cell? w2 _ Z1.out)).trans Z1.out
       have HS3 := Lib.hid (HS2.out.later hbr2)
       clear hno2 hbr2
       by_cases hlt2 : k2 < sn
       ·have hlt2' : (k2 : Int) < sn := by omega
        obtain ⟨q, hq⟩ := some_of_lt (l := p.sends) (i := k2) (by rw [← Sn.out]; exact hlt2)
        have hh := HS3.out
        rw [Sn.out] at hh
        obtain ⟨b2, off2, cap2, e, hb2, _, t0, t1⟩ := link_cells hh hq
        simp only [Value.slice.injEq] at e
        obtain ⟨e, _, e2⟩ := e
        subst e e2
        have Hq := Lib.hid hq
        obtain ⟨q1, q2⟩ := q
        simp only at t0 t1
        obtain ⟨fq, hfq⟩ : ∃ fq, fq = findL L (n, q1) := ⟨_, rfl⟩
        have Hfq := Lib.hid hfq
        have g0 := hA4.g0
        have g1 := hA4.g1
        have gl := hA4.hl
        rw [← LL.out] at g1 gl
        have T : Hid (QkS wo.heap.size (w.heap.size + 1) b2 off2 k2 sn sc q1 q2 N ga ll gc L wr.drew) := Lib.hid (QkS.below ⟨⟨v1', g0, g1, t0, t1⟩, gl⟩ (below_drewN (Below.refl _ wr) 1))
        have TB : Hid (Below wr.heap.size wr wr.drew) := Lib.hid (below_drewN (Below.refl _ _) 1)
        have TS : Hid (wr.heap.size ≤ wr.drew.heap.size) := Lib.hid (Nat.le_refl _)
        clear hh hq hfq hA4 g0 g1 gl t0 t1
        by_cases hm' : (n, q1) ∈ L
        ·have hq0 : ¬ fq < 0 := by rw [Hfq.out]; exact fun h => (findL_neg.1 h) hm'
         have hq0' : decide (fq < 0) = false := by simp; omega
         by_cases hc0 : q2 < 0
         ·have hc0' : decide (q2 < 0) = true := by simpa using hc0
          have Hf := Lib.hid (Bad.out _ (fun _ _ h => h k2 _ Hq.out) (fun h => by have := h.2.1; simp at this; omega))
          clear hm'
          go_wp2_with fail
          refine wp_region_held_drew (S := (fun w' => w'.cell? ⟨wo.heap.size, 1, none⟩ = some (.slice (some ⟨b2, off2, none⟩) sn sc) ∧ w'.cell? ⟨w.heap.size + 1, 0, none⟩ = some (.int .i64 N) ∧ w'.cell? ⟨w.heap.size + 1, 1, none⟩ = some (.slice ga ll gc) ∧ w'.cell? ⟨b2, off2 + k2 * 2, none⟩ = some (.int .i64 q1) ∧ w'.cell? ⟨b2, off2 + k2 * 2 + 1, none⟩ = some (.int .i64 q2))) (by kernel_rfl) ?_ (fun hHeld => ?_)
          ·exact T.out.s
          refine tq 0 ?_
          refine tq 1 ?_
          refine tq 2 ?_
          refine tq 3 ?_
          refine tq 4 ?_
          refine tq 5 ?_
          refine tq 6 ?_
          refine tq 7 ?_
          refine rd 8 fun K hK => ?_
          go_simp
          refine (rfind_at N n q1 _ L fq _ T.out.l Hn.out Hfq.out).mono ?_
          rintro e wn ⟨rfl, hbn⟩
          have T := Lib.hid (T.out.below hbn)
          have TB := Lib.hid (below_step (by exact TS.out) TB.out hbn)
          have TS := Lib.hid (Nat.le_trans TS.out hbn.size)
          clear hbn
          go_wp2_with fail
          refine hK.out _ _ ?_ (fun hHeld => ?_)
          ·exact T.out.s
          clear hK K
          try simp only [Act.put, List.getElem_toArray, List.getElem_cons_zero, List.getElem_cons_succ, List.setIfInBounds_toArray, List.set_cons_zero, List.set_cons_succ]
          refine tq 9 ?_
          refine tq 10 ?_
          refine tq 11 ?_
          refine tq 12 ?_
          refine tq 13 ?_
          refine tq 14 ?_
          refine tq 15 ?_
          refine tq 16 ?_
          refine tq 17 ?_
          refine tq 18 ?_
          refine tq 19 ?_
          refine tq0 20 ?_
          refine tq0 21 ?_
          refine tq0 22 ?_
          refine tq0 23 ?_
          refine tq0 24 ?_
          refine tq0 25 ?_
          refine tq0 26 ?_
          refine tq 27 ?_
          refine wpAnyH_done (by kernel_rfl) ?_ _
          go_wp2_with fail
          go_ret
          exact ⟨by rw [Hf.out]; rfl, below_step G.out.size G.out (below_step BT.out.size BT.out TB.out)⟩
         ·have hc0' : decide (q2 < 0) = false := by simpa using hc0
          by_cases hc3 : 3 < q2
          ·have hc3' : decide (3 < q2) = true := by simpa using hc3
           have Hf := Lib.hid (Bad.out _ (fun _ _ h => h k2 _ Hq.out) (fun h => by have := h.2.2; simp at this; omega))
           clear hm'
           go_wp2_with fail
           refine wp_region_held_drew (S := (fun w' => w'.cell? ⟨wo.heap.size, 1, none⟩ = some (.slice (some ⟨b2, off2, none⟩) sn sc) ∧ w'.cell? ⟨w.heap.size + 1, 0, none⟩ = some (.int .i64 N) ∧ w'.cell? ⟨w.heap.size + 1, 1, none⟩ = some (.slice ga ll gc) ∧ w'.cell? ⟨b2, off2 + k2 * 2, none⟩ = some (.int .i64 q1) ∧ w'.cell? ⟨b2, off2 + k2 * 2 + 1, none⟩ = some (.int .i64 q2))) (by kernel_rfl) ?_ (fun hHeld => ?_)
           ·exact T.out.s
           refine tq 0 ?_
           refine tq 1 ?_
           refine tq 2 ?_
           refine tq 3 ?_
           refine tq 4 ?_
           refine tq 5 ?_
           refine tq 6 ?_
           refine tq 7 ?_
           refine rd 8 fun K hK => ?_
           go_simp
           refine (rfind_at N n q1 _ L fq _ T.out.l Hn.out Hfq.out).mono ?_
           rintro e wn ⟨rfl, hbn⟩
           have T := Lib.hid (T.out.below hbn)
           have TB := Lib.hid (below_step (by exact TS.out) TB.out hbn)
           have TS := Lib.hid (Nat.le_trans TS.out hbn.size)
           clear hbn
           go_wp2_with fail
           refine hK.out _ _ ?_ (fun hHeld => ?_)
           ·exact T.out.s
           clear hK K
           try simp only [Act.put, List.getElem_toArray, List.getElem_cons_zero, List.getElem_cons_succ, List.setIfInBounds_toArray, List.set_cons_zero, List.set_cons_succ]
           refine tq 9 ?_
           refine tq 10 ?_
           refine tq 11 ?_
           refine tq 12 ?_
           refine tq 13 ?_
           refine tq 14 ?_
           refine tq 15 ?_
           refine tq 16 ?_
           refine tq 17 ?_
           refine tq 18 ?_
           refine tq 19 ?_
           refine tq 20 ?_
           refine tq 21 ?_
           refine tq 22 ?_
           refine tq 23 ?_
           refine tq 24 ?_
           refine tq 25 ?_
           refine tq 26 ?_
           refine tq 27 ?_
           refine wpAnyH_done (by kernel_rfl) ?_ _
           go_wp2_with fail
           go_ret
           exact ⟨by rw [Hf.out]; rfl, below_step G.out.size G.out (below_step BT.out.size BT.out TB.out)⟩
          ·have hc3' : decide (3 < q2) = false := by simpa using hc3
           have Hg : Hid (Goes L n q1 q2) := Lib.hid ⟨hm', by omega, by omega⟩
           clear hm'
           go_wp2_with fail
           refine wp_region_held_drew (S := (fun w' => w'.cell? ⟨wo.heap.size, 1, none⟩ = some (.slice (some ⟨b2, off2, none⟩) sn sc) ∧ w'.cell? ⟨w.heap.size + 1, 0, none⟩ = some (.int .i64 N) ∧ w'.cell? ⟨w.heap.size + 1, 1, none⟩ = some (.slice ga ll gc) ∧ w'.cell? ⟨b2, off2 + k2 * 2, none⟩ = some (.int .i64 q1) ∧ w'.cell? ⟨b2, off2 + k2 * 2 + 1, none⟩ = some (.int .i64 q2))) (by kernel_rfl) ?_ (fun hHeld => ?_)
           ·exact T.out.s
           refine tq 0 ?_
           refine tq 1 ?_
           refine tq 2 ?_
           refine tq 3 ?_
           refine tq 4 ?_
           refine tq 5 ?_
           refine tq 6 ?_
           refine tq 7 ?_
           refine rd 8 fun K hK => ?_
           go_simp
           refine (rfind_at N n q1 _ L fq _ T.out.l Hn.out Hfq.out).mono ?_
           rintro e wn ⟨rfl, hbn⟩
           have T := Lib.hid (T.out.below hbn)
           have TB := Lib.hid (below_step (by exact TS.out) TB.out hbn)
           have TS := Lib.hid (Nat.le_trans TS.out hbn.size)
           clear hbn
           go_wp2_with fail
           refine hK.out _ _ ?_ (fun hHeld => ?_)
           ·exact T.out.s
           clear hK K
           try simp only [Act.put, List.getElem_toArray, List.getElem_cons_zero, List.getElem_cons_succ, List.setIfInBounds_toArray, List.set_cons_zero, List.set_cons_succ]
           refine tq 9 ?_
           refine tq 10 ?_
           refine tq 11 ?_
           refine tq 12 ?_
           refine tq 13 ?_
           refine tq 14 ?_
           refine tq 15 ?_
           refine tq 16 ?_
           refine tq 17 ?_
           refine tq 18 ?_
           refine tq 19 ?_
           refine tq 20 ?_
           refine tq 21 ?_
           refine tq 22 ?_
           refine tq 23 ?_
           refine tq 24 ?_
           refine tq 25 ?_
           refine tq 26 ?_
           refine tq 27 ?_
           refine wpAnyH_done (by kernel_rfl) ?_ _
           go_wp2_with fail
           go_roundw
           case rel =>
            refine ⟨k2 + 1, by go_num, by omega, fun j y hj hy => ?_, below_step T0.out.size T0.out TB.out⟩
            by_cases hjk : j < k2
            ·exact Hs2.out j y hjk hy
            ·obtain rfl : j = k2 := by omega
             rw [Hq.out] at hy
             cases hy
             exact Hg.out
           case measure => simp [intOf]; omega
        ·have hq0 : fq < 0 := by rw [Hfq.out]; exact findL_neg.2 hm'
         have hq0' : decide (fq < 0) = true := by simp; omega
         have Hf := Lib.hid (Bad.out _ (fun _ _ h => (h k2 _ Hq.out).1) hm')
         clear hm'
         go_wp2_with fail
         refine wp_region_held_drew (S := (fun w' => w'.cell? ⟨wo.heap.size, 1, none⟩ = some (.slice (some ⟨b2, off2, none⟩) sn sc) ∧ w'.cell? ⟨w.heap.size + 1, 0, none⟩ = some (.int .i64 N) ∧ w'.cell? ⟨w.heap.size + 1, 1, none⟩ = some (.slice ga ll gc) ∧ w'.cell? ⟨b2, off2 + k2 * 2, none⟩ = some (.int .i64 q1) ∧ w'.cell? ⟨b2, off2 + k2 * 2 + 1, none⟩ = some (.int .i64 q2))) (by kernel_rfl) ?_ (fun hHeld => ?_)
         ·exact T.out.s
         refine tq 0 ?_
         refine tq 1 ?_
         refine tq 2 ?_
         refine tq 3 ?_
         refine tq 4 ?_
         refine tq 5 ?_
         refine tq 6 ?_
         refine tq 7 ?_
         refine rd 8 fun K hK => ?_
         go_simp
         refine (rfind_at N n q1 _ L fq _ T.out.l Hn.out Hfq.out).mono ?_
         rintro e wn ⟨rfl, hbn⟩
         have T := Lib.hid (T.out.below hbn)
         have TB := Lib.hid (below_step (by exact TS.out) TB.out hbn)
         have TS := Lib.hid (Nat.le_trans TS.out hbn.size)
         clear hbn
         go_wp2_with fail
         refine hK.out _ _ ?_ (fun hHeld => ?_)
         ·exact T.out.s
         clear hK K
         try simp only [Act.put, List.getElem_toArray, List.getElem_cons_zero, List.getElem_cons_succ, List.setIfInBounds_toArray, List.set_cons_zero, List.set_cons_succ]
         refine tq 9 ?_
         refine tq 10 ?_
         refine tq0 11 ?_
         refine tq0 12 ?_
         refine tq0 13 ?_
         refine tq0 14 ?_
         refine tq0 15 ?_
         refine tq0 16 ?_
         refine tq0 17 ?_
         refine tq 18 ?_
         refine tq 19 ?_
         refine tq0 20 ?_
         refine tq0 21 ?_
         refine tq0 22 ?_
         refine tq0 23 ?_
         refine tq0 24 ?_
         refine tq0 25 ?_
         refine tq0 26 ?_
         refine tq 27 ?_
         refine wpAnyH_done (by kernel_rfl) ?_ _
         go_wp2_with fail
         go_ret
         exact ⟨by rw [Hf.out]; rfl, below_step G.out.size G.out (below_step BT.out.size BT.out TB.out)⟩
       ·have hlt2' : ¬ (k2 : Int) < sn := by omega
        clear hA4
        go_wp2_with fail
        go_roundw
        case rel =>
         refine ⟨k + 1, by go_num, by omega, fun j y hj hy => ?_, BT.out⟩
         by_cases hjk : j < k
         ·exact Hs.out j y hjk hy
         ·obtain rfl : j = k := by omega
          rw [Hp.out] at hy
          cases hy
          exact ⟨by rw [← Pn.out]; exact Ys.out, by rw [← Sn.out]; exact hs4, fun i q hq => Hs2.out i q (by have := lt_of_some hq; rw [← Sn.out] at this; omega) hq⟩
        case measure => simp [intOf]; omega
     ·have u4 : (4 : Int) < sn := by omega
      have u4' : decide ((4 : Int) < sn) = true := by simp; omega
      have Hf := Lib.hid (Bad.out _ (fun _ h _ => h) hs4)
      clear z0 z1
      go_wp2_with fail
      rw [← hw2]
      clear hw2
      try go_wp2_with fail
      go_ret
      exact ⟨by rw [Hf.out]; rfl, BB3.out⟩
  ·have hlt' : ¬ (k : Int) < ln := by omega
   have hf : r = true := bool_yes Hr.out (fun j x hx => Hs.out j x (by have := lt_of_some hx; rw [← Ln.out] at this; omega) hx)
   have Hf := Lib.hid hf
   clear hf hA2
   go_wp2_with fail
   go_ret
   exact ⟨by rw [Hf.out]; rfl, BB.out⟩
theorem rpicks_short (m n many : Int) (v1 v3 : Value) (a2 : Option Addr) (ln c2 : Nat) (N : Int) (g : Value) (w : World) (h : 4 < ln ∨ (0 < ln ∧ m ≠ 1)) :
    Calls Try.prog 42 #[.agg #[.int .i64 m, v1, .slice a2 ln c2, v3], .int .i64 n, .int .i64 many, .agg #[.int .i64 N, g]] w fun e w' => e = .returned (.bool false) ∧ Below w.heap.size w w' := by
  by_cases h4 : 4 < ln
  · have h4' : (4 : Int) < ln := by omega
    have h4'' : decide ((4 : Int) < ln) = true := by simp; omega
    clear h
    go_enter Try.func42, Try.ntmps42
    try simp only [List.append_eq, List.cons_append, List.nil_append]
    go_wp2_with fail
    go_ret
    exact ⟨rfl, by go_grown⟩
  · have h4' : ¬ (4 : Int) < ln := by omega
    have h4'' : decide ((4 : Int) < ln) = false := by simp; omega
    have h0 : (0 : Int) < ln := by omega
    have h0' : decide ((0 : Int) < ln) = true := by simp; omega
    have hm : (m == 1) = false := by have : m ≠ 1 := by omega
                                     simpa using this
    clear h
    go_enter Try.func42, Try.ntmps42
    try simp only [List.append_eq, List.cons_append, List.nil_append]
    go_wp2_with fail
    go_ret
    exact ⟨rfl, by go_grown⟩
theorem rpicks_none (m n many : Int) (v1 v3 : Value) (a2 : Option Addr) (c2 : Nat) (N : Int) (g : Value) (w : World) :
  Calls Try.prog 42 #[.agg #[.int .i64 m, v1, .slice a2 0 c2, v3], .int .i64 n, .int .i64 many, .agg #[.int .i64 N, g]] w fun e w' => e = .returned (.bool true) ∧ Below w.heap.size w w' := by
 go_enter Try.func42, Try.ntmps42
 try simp only [List.append_eq, List.cons_append, List.nil_append]
 go_wp2_with fail
 refine wp_loop_rounds 1 ?_
 rw [rounds_succ]
 go_wp2_with fail
 go_ret
 exact ⟨rfl, by go_grown⟩
theorem rpicks_at (L : Lks) (n : Int) (s : St) (all : List St) (many : Int) (v : Value) (N : Int) (g : Value) (r : Bool) (w : World) (hmany : many = all.length) (h : IsSt w s v) (hg : LinksAt w g L) (hn : L.length ≤ 1000000) (hr : r = true ↔ PicksOK L n all s) :
  Calls Try.prog 42 #[v, .int .i64 n, .int .i64 many, gv N g] w fun e w' => e = .returned (.bool r) ∧ Below w.heap.size w w' := by
 subst hmany
 obtain ⟨a1, c1, a2, c2, a3, c3, rfl, _, h2, _⟩ := isSt_open h
 by_cases h00 : s.picks.length = 0
 ·rw [bool_yes hr ⟨by omega, by omega, fun i p hp => by have := lt_of_some hp; omega⟩, h00]
  exact rpicks_none _ _ _ _ _ _ _ _ _ _
 by_cases hs : 4 < s.picks.length ∨ (0 < s.picks.length ∧ s.mode ≠ 1)
 ·rw [bool_no hr (fun g => by have := g.1; have := g.2.1; omega)]
  exact rpicks_short _ _ _ _ _ _ _ _ _ _ _ hs
 ·exact rpicks_loop L n s.mode _ _ a2 c2 s.picks all N g r w h2 hg hn (by omega) (by omega) (by omega) (hr.trans ⟨fun g => g.2.2, fun g => ⟨by omega, by omega, g⟩⟩)
end Go.Proofs.Ytiblcpkejhiehaa

namespace Go.Proofs.Ytiblcpkejhiehaa
open Go.RowKit Go.PlainAid
/-- A state that lies in a row. -/
structure EBox (w : World) (b o nx : Nat) (m : Int) (a1 : Option Addr) (n1 c1 : Nat) (a2 : Option Addr) (n2 c2 : Nat) (a3 : Option Addr) (n3 c3 : Nat) (s : St) : Prop where
 e0 : w.cell? ⟨b, o + nx * 4, none⟩ = some (.int .i64 m)
 e1 : w.cell? ⟨b, o + nx * 4 + 1, none⟩ = some (.slice a1 n1 c1)
 e2 : w.cell? ⟨b, o + nx * 4 + 2, none⟩ = some (.slice a2 n2 c2)
 e3 : w.cell? ⟨b, o + nx * 4 + 3, none⟩ = some (.slice a3 n3 c3)
 st : IsSt w s (.agg #[.int .i64 m, .slice a1 n1 c1, .slice a2 n2 c2, .slice a3 n3 c3])
theorem EBox.below {w w' : World} {b o nx : Nat} {m : Int} {a1 : Option Addr} {n1 c1 : Nat} {a2 : Option Addr} {n2 c2 : Nat} {a3 : Option Addr} {n3 c3 : Nat} {s : St} (h : EBox w b o nx m a1 n1 c1 a2 n2 c2 a3 n3 c3 s) (hb : Below w.heap.size w w') : EBox w' b o nx m a1 n1 c1 a2 n2 c2 a3 n3 c3 s := by
 have k := fun (p : Addr) (v : Value) (e : w.cell? p = some v) => (hb.cell (World.block_lt_of_cell? w _ e)).trans e
 exact ⟨k _ _ h.e0, k _ _ h.e1, k _ _ h.e2, k _ _ h.e3, h.st.later hb⟩
theorem ebox_of {w : World} {v : Value} {l : List St} {i : Nat} {s : St} (h : Has w v (dStates l)) (hx : l[i]? = some s) :
  ∃ b off cap m a1 n1 c1 a2 n2 c2 a3 n3 c3, v = .slice (some ⟨b, off, none⟩) l.length cap ∧ b < w.heap.size ∧ EBox w b off i m a1 n1 c1 a2 n2 c2 a3 n3 c3 s ∧ m = s.mode ∧ n1 = s.waits.length ∧ n2 = s.picks.length ∧ n3 = s.takes.length := by
 obtain ⟨b, off, cap, rfl, h1, h2, cs, h3, h4⟩ := cells_of h hx
 obtain ⟨v1, v2, v3, rfl, h5, h6, h7⟩ := hasL_st h3
 obtain ⟨a1, c1, rfl⟩ := slice_of h5
 obtain ⟨a2, c2, rfl⟩ := slice_of h6
 obtain ⟨a3, c3, rfl⟩ := slice_of h7
 exact ⟨b, off, cap, _, _, _, _, _, _, _, _, _, _, rfl, h1, ⟨h4 0 _ rfl, h4 1 _ rfl, h4 2 _ rfl, h4 3 _ rfl, ⟨_, rfl, h3⟩⟩, rfl, rfl, rfl, rfl⟩
end Go.Proofs.Ytiblcpkejhiehaa

