/- Texts put together. -/
import Derived.Test.YtennbiajnkobnaaQ02
import Derived.Test.YtennbiajnkobnaaQ19
import Derived.Test.YtennbiajnkobnaaQ23
set_option linter.unusedSimpArgs false
namespace Go.Proofs.Ytennbiajnkobnaa
open Go.RowKit Go.PlainAid
def cutN (x : Nd) : Nd := ⟨x.start, (x.states.take 10).map cutS⟩
def cutT (M : Tab) : Tab := (M.take 8).map cutN
theorem infoNd : (Try.prog.info? 74).map (fun i => (i.zero, i.size, i.bytes)) = some (some (.agg #[.int .i64 0, .slice none 0 0]), 2, 32) := by kernel_rfl
theorem infoState : (Try.prog.info? 106).map (fun i => (i.zero, i.size, i.bytes)) = some (some (.agg #[.int .i64 0, .slice none 0 0, .slice none 0 0, .slice none 0 0]), 4, 80) := by kernel_rfl
theorem nd_holdsL {P Q : Nat → Prop} {w : World} {x : Nd} {q : Int} (hq' : q = x.start) {v : Value} (h : Holds True Q w v (dStates x.states)) (hq : ∀ k, Q k → P k) : HoldsL True P w [.int .i64 q, v] x.d := by
 subst hq'
 refine holdsL_of (fun j k => j = 1 ∧ Q k) rfl (fun j c d hc hd => ?_) (fun i j k hij a b => by omega) (fun j k h => hq k h.2)
 match j, hc, hd with
 | 0, hc, hd => simp [Nd.d] at hc hd; subst hc hd; exact .atom _ _ _ rfl
 | 1, hc, hd => simp [Nd.d] at hc hd; subst hc hd; exact h.wide (fun b _ p => ⟨rfl, p⟩)
 | j + 2, hc, hd => simp at hc
/-- A node's box while its states are copied. -/
structure NdAt (wo : World) (q : Int) (v : Value) (ss : List St) (wr : World) : Prop where
 c0 : wr.cell? ⟨wo.heap.size, 0, none⟩ = some (.int .i64 q)
 f1 : Fld True (fun k => wo.heap.size < k) 106 4 wo wr wo.heap.size 1 v (ss.map St.d)
theorem NdAt.start (wo : World) (q : Int) : NdAt wo q (.slice none 0 0) [] (wo.alloc (.cells #[.int .i64 q, .slice none 0 0] 74)) :=
 ⟨World.cell?_alloc_at _ _ _ _ rfl, ⟨World.cell?_alloc_at _ _ _ _ rfl, frozen_new _ _ _ _, ⟨Own.nil (below_new _ _), fun k hk => by simp [Value.ownBlock] at hk⟩, by omega, Nat.le_refl _⟩⟩
theorem NdAt.below {wo : World} {q : Int} {v : Value} {ss : List St} {w w' : World} (h : NdAt wo q v ss w) (hb : Below w.heap.size w w') : NdAt wo q v ss w' :=
 ⟨(hb.cell (World.block_lt_of_cell? w _ h.c0)).trans h.c0, h.f1.below hb⟩
theorem NdAt.push {wo : World} {q : Int} {v v' : Value} {ss : List St} {s : St} {w w5 w6 : World} (h : NdAt wo q v ss w) (hb : Below w.heap.size w w5) (hO : Own True (fun k => wo.heap.size < k) 106 4 wo w6.heap.size w6 v' (ss.map St.d ++ [s.d]))
  (hg : w5.grownBy w6 v.ownBlock) (hv : v'.ownBlock = v.ownBlock ∨ v'.ownBlock = some w5.heap.size) : NdAt wo q v' (ss ++ [s]) (w6.setCell ⟨wo.heap.size, 1, none⟩ v') ∧ w6.cell? ⟨wo.heap.size, 1, none⟩ = some v ∧ w6.frozen? ⟨wo.heap.size, 1, none⟩ = false := by
 have h5 := h.below hb
 have hlt : wo.heap.size < w5.heap.size := World.block_lt_of_cell? w5 _ h5.c0
 obtain ⟨a1, a2, a3, a4, a5, a6, a7⟩ := h.f1.push hb hO hg hv hlt
 refine ⟨⟨a6 _ _ h5.c0 (by simp) (by simp), ?_⟩, a2, a3⟩
 rw [List.map_append]; exact a1
set_option maxHeartbeats 8000000 in
set_option maxRecDepth 100000 in
theorem cutT_at (M : Tab) (v : Value) (w : World) (h : Has w v (dTab M)) :
    Calls Try.prog 21 #[v] w fun e w' => ∃ u, e = .returned u ∧ Holds True (fresh w) w' u (dTab (cutT M)) ∧ Below w.heap.size w w' := by
  obtain ⟨ta, tc, rfl⟩ := slice_of h
  obtain ⟨iN, hiN, hzN, hsN, hbN⟩ := info_parts infoNd
  obtain ⟨iS, hiS, hzS, hsS, hbS⟩ := info_parts infoState
  obtain ⟨tl, htl⟩ : ∃ tl, tl = M.length := ⟨_, rfl⟩
  have H := Lib.hid h
  rw [← htl] at H ⊢
  have TL := Lib.hid htl
  have O0 := Own.made (S := True) (P := fresh w) (E := 74) (n := 2) (Below.refl w.heap.size w)
  rw [show w.heap.size + 1 = (w.alloc (.cells #[] 74)).heap.size by simp] at O0
  have B0 := Lib.hid (show Bld True (fresh w) 74 2 w (w.alloc (.cells #[] 74)).heap.size (w.alloc (.cells #[] 74)) (.slice (some ⟨w.heap.size, 0, none⟩) 0 0) [] from ⟨O0, fun k hk => by simp [Value.ownBlock] at hk; show w.heap.size ≤ k; omega⟩)
  clear h htl O0
  go_enter Try.func21, Try.ntmps21
  go_wp2_with fail
  go_loopw [3, 4] (fun q i wr => ∃ k : Nat, i = .int .i64 k ∧ k ≤ tl ∧ k ≤ 8 ∧ Bld True (fresh w) 74 2 w wr.heap.size wr q (((M.take k).map cutN).map Nd.d)) (fun _ i _ => 8 - (intOf i).toNat)
  case atStart => exact ⟨0, rfl, by omega, by omega, by rw [List.take_zero]; exact B0.out⟩
  case round =>
    rename Value => q
    obtain ⟨k, rfl, hk, hk8, hB⟩ := hrel
    have BB := Lib.hid hB
    have HT := H.out.later hB.own.bel
    obtain ⟨qa, qc, hq⟩ := hB.own.slice
    rw [List.length_map, List.length_map, List.length_take, ← TL.out, Nat.min_eq_left hk] at hq
    subst hq
    clear hB
    by_cases hlt : k < tl
    · have hlt' : (k : Int) < tl := by omega
      by_cases hl8 : k < 8
      · have hl8' : (k : Int) < 8 := by omega
        obtain ⟨wo, hwo⟩ : ∃ wo, wo = wr := ⟨_, rfl⟩
        subst hwo
        obtain ⟨x, hx⟩ := some_of_lt (l := M) (i := k) (by rw [← TL.out]; exact hlt)
        obtain ⟨tb, tqo, tcap, vs, e, htb, _, x0, x1, hS⟩ := nd_cells H.out hx
        rw [← TL.out] at e
        simp only [Value.slice.injEq] at e
        obtain ⟨e, _, e'⟩ := e
        subst e e'
        obtain ⟨sa, sc, rfl⟩ := slice_of hS
        obtain ⟨sn, hsn⟩ : ∃ sn, sn = x.states.length := ⟨_, rfl⟩
        obtain ⟨q0, hq0⟩ : ∃ q0, q0 = x.start := ⟨_, rfl⟩
        rw [← hsn] at x1 hS
        rw [← hq0] at x0
        have Sn := Lib.hid hsn
        have Q0 := Lib.hid hq0
        have Hx := Lib.hid hx
        have HS := Lib.hid hS
        have X1 := Lib.hid x1
        have y0 := (BB.out.own.bel.cell (by exact htb)).trans x0
        have N0 := Lib.hid (NdAt.start wo q0)
        have Hwz0 := Lib.hid BB.out.own.bel.size
        clear hx hS hsn hq0 x0 x1 HT
        go_wp2_with fail
        go_loopw [6] (fun i wr => ∃ (j : Nat) (v : Value), i = .int .i64 j ∧ j ≤ sn ∧ j ≤ 10 ∧ NdAt wo q0 v ((x.states.take j).map cutS) wr) (fun i _ => 10 - (intOf i).toNat)
        case atStart => exact ⟨0, _, rfl, by omega, by omega, by rw [List.take_zero]; exact N0.out⟩
        case round =>
          obtain ⟨j, v, rfl, hj, hj10, hN⟩ := hrel
          have NN := Lib.hid hN
          have hbw := hN.f1.bld.own.bel
          have BW := Lib.hid hbw
          have hbww := below_step BB.out.own.bel.size BB.out.own.bel hbw
          have BWW := Lib.hid hbww
          have z1 := (hbww.cell (by exact htb)).trans X1.out
          obtain ⟨va, vc, hv⟩ := hN.f1.bld.own.slice
          rw [List.length_map, List.length_map, List.length_take, ← Sn.out, Nat.min_eq_left hj] at hv
          subst hv
          have c0 := hN.c0
          have c1 := hN.f1.cell
          clear hN hbw hbww
          by_cases hlj : j < sn
          · have hlj' : (j : Int) < sn := by omega
            by_cases hl10 : j < 10
            · have hl10' : (j : Int) < 10 := by omega
              obtain ⟨s, hs⟩ := some_of_lt (l := x.states) (i := j) (by rw [← Sn.out]; exact hlj)
              obtain ⟨b4, o4, cap4, m, a1, n1, c1', a2, n2, c2', a3, n3, c3', e, hb4, hE, hX⟩ := ebox_of HS.out hs
              clear hX
              rw [← Sn.out] at e
              simp only [Value.slice.injEq] at e
              obtain ⟨e, _, e2⟩ := e
              subst e e2
              have E := Lib.hid (hE.below ((BWW.out).mono (Nat.le_refl _)))
              have Hs := Lib.hid hs
              have QS : Hid (∀ w', Below wr.heap.size wr w' → w'.cell? ⟨tb, tqo + k * 2 + 1, none⟩ = some (.slice (some ⟨b4, o4, none⟩) sn sc) ∧ w'.cell? ⟨b4, o4 + j * 4, none⟩ = some (.int .i64 m) ∧ w'.cell? ⟨b4, o4 + j * 4 + 1, none⟩ = some (.slice a1 n1 c1') ∧ w'.cell? ⟨b4, o4 + j * 4 + 2, none⟩ = some (.slice a2 n2 c2') ∧ w'.cell? ⟨b4, o4 + j * 4 + 3, none⟩ = some (.slice a3 n3 c3')) := Lib.hid (fun w' hb => ⟨(hb.cell (World.block_lt_of_cell? wr _ z1)).trans z1, (hb.cell (World.block_lt_of_cell? wr _ E.out.e0)).trans E.out.e0, (hb.cell (World.block_lt_of_cell? wr _ E.out.e1)).trans E.out.e1, (hb.cell (World.block_lt_of_cell? wr _ E.out.e2)).trans E.out.e2, (hb.cell (World.block_lt_of_cell? wr _ E.out.e3)).trans E.out.e3⟩)
              have QB : Hid (∀ w', Below wr.heap.size wr w' → w'.cell? ⟨wo.heap.size, 1, none⟩ = some (.slice va j vc)) := Lib.hid (fun w' hb => (hb.cell (World.block_lt_of_cell? wr _ c1)).trans c1)
              have Hb4 := Lib.hid hb4
              have Hwz := Lib.hid BB.out.own.bel.size
              clear hs hE
              go_wp2_with fail
              clear c1 z1 y0
              refine wp_region_held_drew (S := (fun w' => w'.cell? ⟨tb, tqo + k * 2 + 1, none⟩ = some (.slice (some ⟨b4, o4, none⟩) sn sc) ∧ w'.cell? ⟨b4, o4 + j * 4, none⟩ = some (.int .i64 m) ∧ w'.cell? ⟨b4, o4 + j * 4 + 1, none⟩ = some (.slice a1 n1 c1') ∧ w'.cell? ⟨b4, o4 + j * 4 + 2, none⟩ = some (.slice a2 n2 c2') ∧ w'.cell? ⟨b4, o4 + j * 4 + 3, none⟩ = some (.slice a3 n3 c3'))) (by kernel_rfl) ?_ (fun hHeld => ?_)
              · exact QS.out _ (by go_grown)
              refine tq 0 ?_
              refine tq 2 ?_
              refine tq 3 ?_
              refine tq 4 ?_
              refine tq 5 ?_
              refine tq 6 ?_
              refine tq 7 ?_
              refine tq 8 ?_
              refine tq 9 ?_
              refine wpAnyH_ready (rs := [1, 10]) (by kernel_rfl) (by simp) ?_
              refine AllReadyH.cons rfl (fun K hK => ?_) (AllReadyH.cons rfl (fun K hK => ?_) AllReadyH.nil)
              · have rr := QB.out wr.drew (show Below wr.heap.size wr wr.drew from below_drewN (Below.refl _ wr) 1)
                go_simp
                refine hK.out _ _ ?_ (fun hHeld => ?_)
                · exact QS.out _ (by go_grown)
                clear hK K
                try simp only [Act.put, List.getElem_toArray, List.getElem_cons_zero, List.getElem_cons_succ, List.setIfInBounds_toArray, List.set_cons_zero, List.set_cons_succ]
                refine rd 10 fun K hK => ?_
                go_simp
                refine (cutS_at s _ _ (E.out.st.later (below_drewN (Below.refl _ wr) 1))).mono ?_
                rintro e w4 ⟨cs, rfl, hcs, hb4'⟩
                obtain ⟨d0, d1, d2, d3, rfl⟩ : ∃ d0 d1 d2 d3, cs = [d0, d1, d2, d3] := by obtain ⟨hl, _⟩ := hcs; match cs, hl with | [x0, x1, x2, x3], _ => exact ⟨_, _, _, _, rfl⟩
                have HC := Lib.hid hcs
                have BN := Lib.hid (below_step (by simp) (below_drewN (Below.refl wr.heap.size wr) 1) hb4')
                clear hcs hb4'
                go_wp2_with fail
                refine hK.out _ _ ?_ (fun hHeld => ?_)
                · exact QS.out _ BN.out
                clear hK K
                try simp only [Act.put, List.getElem_toArray, List.getElem_cons_zero, List.getElem_cons_succ, List.setIfInBounds_toArray, List.set_cons_zero, List.set_cons_succ]
                refine rd 11 fun K hK => ?_
                go_simp
                refine hK.out _ _ ?_ (fun hHeld => ?_)
                · exact QS.out _ (by have := BN.out; have hz := this.size; go_grown)
                clear hK K
                try simp only [Act.put, List.getElem_toArray, List.getElem_cons_zero, List.getElem_cons_succ, List.setIfInBounds_toArray, List.set_cons_zero, List.set_cons_succ]
                refine rd 12 fun K hK => ?_
                obtain ⟨w5, hw5⟩ : ∃ w5, w5 = (w4.alloc (.cells #[d0, d1, d2, d3] 106)) := ⟨_, rfl⟩
                have hb45 : Below w4.heap.size w4 w5 := by rw [hw5]; exact below_new _ _
                have hx5 := below_step BN.out.size BN.out hb45
                have n5 : ∀ j0 u, [d0, d1, d2, d3][j0]? = some u → w5.cell? ((⟨w4.heap.size, 0, none⟩ : Addr).add j0) = some u := fun j0 u hj0 => by rw [hw5, Go.WideShapes.add_plain, Nat.zero_add, World.cell?_alloc_at _ _ _ _ rfl, List.getElem?_toArray]; exact hj0
                have HL5 := Lib.hid (show HoldsL True (fun kz => wo.heap.size < kz ∧ (Value.slice va j vc).ownBlock ≠ some kz ∧ (True → wr.heap.size ≤ kz)) w5 [d0, d1, d2, d3] (cutS s).d from (HC.out.later hb45).wide (fun kz _ hkz => by have h1 : wr.heap.size ≤ kz := hkz; have h2 : wo.heap.size < wr.heap.size := World.block_lt_of_cell? wr _ NN.out.c0; exact ⟨by omega, fun e => by have := NN.out.f1.bld.own.blk kz e; omega, fun _ => h1⟩))
                have N5 := Lib.hid n5
                have X5 := Lib.hid hx5
                rw [← hw5]
                clear hb45 hx5 n5 hw5
                refine appS (by rfl) _ _ 72 106 iS (.agg #[.int .i64 0, .slice none 0 0, .slice none 0 0, .slice none 0 0]) 4 80 (by rfl) Try.underlying72 hiS hzS hsS hbS rfl (by decide) True (fun kz => wo.heap.size < kz) wo wr.heap.size _ (((x.states.take j).map cutS).map St.d) [(cutS s).d] j 1 1 (j + 1) rfl (by exact (NN.out.f1.bld.own.later X5.out)) (by simp; rw [← Sn.out]; omega) (some ⟨w4.heap.size, 0, none⟩) (by rfl) [d0, d1, d2, d3] (fun a ha => by cases ha; exact N5.out) (fun e => by cases e) (by simp [St.d]) rfl (by rw [List.flatten_cons, List.flatten_nil, List.append_nil]; exact HL5.out) rfl (by unfold maxLen; omega) (by omega) ?_
                intro ao6 cv6 w6 hO6 hg6 hb6
                obtain ⟨hCN, hc6, hf6⟩ := NN.out.push X5.out hO6 hg6 hb6
                have CN := Lib.hid hCN
                have K6 : Hid (∀ (b i : Nat) (u : Value), b < w.heap.size → w5.cell? ⟨b, i, none⟩ = some u → w6.cell? ⟨b, i, none⟩ = some u) := Lib.hid (fun b i u hb hu => grown_at hg6 (fun e => by have := NN.out.f1.bld.inP _ e; have := Hwz.out; omega) hu)
                have v0 := K6.out _ _ _ htb (QS.out _ X5.out).1
                have v1 := K6.out _ _ _ Hb4.out (QS.out _ X5.out).2.1
                have v2 := K6.out _ _ _ Hb4.out (QS.out _ X5.out).2.2.1
                have v3 := K6.out _ _ _ Hb4.out (QS.out _ X5.out).2.2.2.1
                have v4 := K6.out _ _ _ Hb4.out (QS.out _ X5.out).2.2.2.2
                clear hO6 hg6 hb6 hCN
                refine hK.out _ _ ?_ (fun hHeld => ?_)
                · exact ⟨v0, v1, v2, v3, v4⟩
                clear hK K
                try simp only [Act.put, List.getElem_toArray, List.getElem_cons_zero, List.getElem_cons_succ, List.setIfInBounds_toArray, List.set_cons_zero, List.set_cons_succ]
                refine tq 13 ?_
                refine rd 14 fun K hK => ?_
                go_simp
                refine hK.out _ _ ?_ (fun hHeld => ?_)
                · exact ⟨by rw [World.cell?_setCell_other _ _ _ _ (by have := Hwz.out; have := Hb4.out; simp <;> omega)]; exact v0, by rw [World.cell?_setCell_other _ _ _ _ (by have := Hwz.out; have := Hb4.out; simp <;> omega)]; exact v1, by rw [World.cell?_setCell_other _ _ _ _ (by have := Hwz.out; have := Hb4.out; simp <;> omega)]; exact v2, by rw [World.cell?_setCell_other _ _ _ _ (by have := Hwz.out; have := Hb4.out; simp <;> omega)]; exact v3, by rw [World.cell?_setCell_other _ _ _ _ (by have := Hwz.out; have := Hb4.out; simp <;> omega)]; exact v4⟩
                clear hK K
                try simp only [Act.put, List.getElem_toArray, List.getElem_cons_zero, List.getElem_cons_succ, List.setIfInBounds_toArray, List.set_cons_zero, List.set_cons_succ]
                refine wpAnyH_done (by kernel_rfl) ?_ _
                go_wp2_with fail
                go_roundw
                case rel =>
                  refine ⟨j + 1, .slice ao6 (j + 1) cv6, by go_num, by omega, by omega, ?_⟩
                  rw [List.take_add_one, Hs.out]
                  simp only [Option.toList, List.map_append, List.map_cons, List.map_nil]
                  exact CN.out
                case measure => simp [intOf]; omega
              · go_simp
                refine (cutS_at s _ _ (E.out.st.later (below_drewN (Below.refl _ wr) 1))).mono ?_
                rintro e w4 ⟨cs, rfl, hcs, hb4'⟩
                obtain ⟨d0, d1, d2, d3, rfl⟩ : ∃ d0 d1 d2 d3, cs = [d0, d1, d2, d3] := by obtain ⟨hl, _⟩ := hcs; match cs, hl with | [x0, x1, x2, x3], _ => exact ⟨_, _, _, _, rfl⟩
                have HC := Lib.hid hcs
                have BN := Lib.hid (below_step (by simp) (below_drewN (Below.refl wr.heap.size wr) 1) hb4')
                clear hcs hb4'
                go_wp2_with fail
                refine hK.out _ _ ?_ (fun hHeld => ?_)
                · exact QS.out _ BN.out
                clear hK K
                try simp only [Act.put, List.getElem_toArray, List.getElem_cons_zero, List.getElem_cons_succ, List.setIfInBounds_toArray, List.set_cons_zero, List.set_cons_succ]
                refine wpAnyH_ready (rs := [1, 11]) (by kernel_rfl) (by simp) ?_
                refine AllReadyH.cons rfl (fun K hK => ?_) (AllReadyH.cons rfl (fun K hK => ?_) AllReadyH.nil)
                · have rr := QB.out w4 (show Below wr.heap.size wr w4 from BN.out)
                  go_simp
                  refine hK.out _ _ ?_ (fun hHeld => ?_)
                  · exact QS.out _ BN.out
                  clear hK K
                  try simp only [Act.put, List.getElem_toArray, List.getElem_cons_zero, List.getElem_cons_succ, List.setIfInBounds_toArray, List.set_cons_zero, List.set_cons_succ]
                  refine rd 11 fun K hK => ?_
                  go_simp
                  refine hK.out _ _ ?_ (fun hHeld => ?_)
                  · exact QS.out _ (by have := BN.out; have hz := this.size; go_grown)
                  clear hK K
                  try simp only [Act.put, List.getElem_toArray, List.getElem_cons_zero, List.getElem_cons_succ, List.setIfInBounds_toArray, List.set_cons_zero, List.set_cons_succ]
                  refine rd 12 fun K hK => ?_
                  obtain ⟨w5, hw5⟩ : ∃ w5, w5 = (w4.alloc (.cells #[d0, d1, d2, d3] 106)) := ⟨_, rfl⟩
                  have hb45 : Below w4.heap.size w4 w5 := by rw [hw5]; exact below_new _ _
                  have hx5 := below_step BN.out.size BN.out hb45
                  have n5 : ∀ j0 u, [d0, d1, d2, d3][j0]? = some u → w5.cell? ((⟨w4.heap.size, 0, none⟩ : Addr).add j0) = some u := fun j0 u hj0 => by rw [hw5, Go.WideShapes.add_plain, Nat.zero_add, World.cell?_alloc_at _ _ _ _ rfl, List.getElem?_toArray]; exact hj0
                  have HL5 := Lib.hid (show HoldsL True (fun kz => wo.heap.size < kz ∧ (Value.slice va j vc).ownBlock ≠ some kz ∧ (True → wr.heap.size ≤ kz)) w5 [d0, d1, d2, d3] (cutS s).d from (HC.out.later hb45).wide (fun kz _ hkz => by have h1 : wr.heap.size ≤ kz := hkz; have h2 : wo.heap.size < wr.heap.size := World.block_lt_of_cell? wr _ NN.out.c0; exact ⟨by omega, fun e => by have := NN.out.f1.bld.own.blk kz e; omega, fun _ => h1⟩))
                  have N5 := Lib.hid n5
                  have X5 := Lib.hid hx5
                  rw [← hw5]
                  clear hb45 hx5 n5 hw5
                  refine appS (by rfl) _ _ 72 106 iS (.agg #[.int .i64 0, .slice none 0 0, .slice none 0 0, .slice none 0 0]) 4 80 (by rfl) Try.underlying72 hiS hzS hsS hbS rfl (by decide) True (fun kz => wo.heap.size < kz) wo wr.heap.size _ (((x.states.take j).map cutS).map St.d) [(cutS s).d] j 1 1 (j + 1) rfl (by exact (NN.out.f1.bld.own.later X5.out)) (by simp; rw [← Sn.out]; omega) (some ⟨w4.heap.size, 0, none⟩) (by rfl) [d0, d1, d2, d3] (fun a ha => by cases ha; exact N5.out) (fun e => by cases e) (by simp [St.d]) rfl (by rw [List.flatten_cons, List.flatten_nil, List.append_nil]; exact HL5.out) rfl (by unfold maxLen; omega) (by omega) ?_
                  intro ao6 cv6 w6 hO6 hg6 hb6
                  obtain ⟨hCN, hc6, hf6⟩ := NN.out.push X5.out hO6 hg6 hb6
                  have CN := Lib.hid hCN
                  have K6 : Hid (∀ (b i : Nat) (u : Value), b < w.heap.size → w5.cell? ⟨b, i, none⟩ = some u → w6.cell? ⟨b, i, none⟩ = some u) := Lib.hid (fun b i u hb hu => grown_at hg6 (fun e => by have := NN.out.f1.bld.inP _ e; have := Hwz.out; omega) hu)
                  have v0 := K6.out _ _ _ htb (QS.out _ X5.out).1
                  have v1 := K6.out _ _ _ Hb4.out (QS.out _ X5.out).2.1
                  have v2 := K6.out _ _ _ Hb4.out (QS.out _ X5.out).2.2.1
                  have v3 := K6.out _ _ _ Hb4.out (QS.out _ X5.out).2.2.2.1
                  have v4 := K6.out _ _ _ Hb4.out (QS.out _ X5.out).2.2.2.2
                  clear hO6 hg6 hb6 hCN
                  refine hK.out _ _ ?_ (fun hHeld => ?_)
                  · exact ⟨v0, v1, v2, v3, v4⟩
                  clear hK K
                  try simp only [Act.put, List.getElem_toArray, List.getElem_cons_zero, List.getElem_cons_succ, List.setIfInBounds_toArray, List.set_cons_zero, List.set_cons_succ]
                  refine tq 13 ?_
                  refine rd 14 fun K hK => ?_
                  go_simp
                  refine hK.out _ _ ?_ (fun hHeld => ?_)
                  · exact ⟨by rw [World.cell?_setCell_other _ _ _ _ (by have := Hwz.out; have := Hb4.out; simp <;> omega)]; exact v0, by rw [World.cell?_setCell_other _ _ _ _ (by have := Hwz.out; have := Hb4.out; simp <;> omega)]; exact v1, by rw [World.cell?_setCell_other _ _ _ _ (by have := Hwz.out; have := Hb4.out; simp <;> omega)]; exact v2, by rw [World.cell?_setCell_other _ _ _ _ (by have := Hwz.out; have := Hb4.out; simp <;> omega)]; exact v3, by rw [World.cell?_setCell_other _ _ _ _ (by have := Hwz.out; have := Hb4.out; simp <;> omega)]; exact v4⟩
                  clear hK K
                  try simp only [Act.put, List.getElem_toArray, List.getElem_cons_zero, List.getElem_cons_succ, List.setIfInBounds_toArray, List.set_cons_zero, List.set_cons_succ]
                  refine wpAnyH_done (by kernel_rfl) ?_ _
                  go_wp2_with fail
                  go_roundw
                  case rel =>
                    refine ⟨j + 1, .slice ao6 (j + 1) cv6, by go_num, by omega, by omega, ?_⟩
                    rw [List.take_add_one, Hs.out]
                    simp only [Option.toList, List.map_append, List.map_cons, List.map_nil]
                    exact CN.out
                  case measure => simp [intOf]; omega
                · go_simp
                  refine hK.out _ _ ?_ (fun hHeld => ?_)
                  · exact QS.out _ (by have := BN.out; have hz := this.size; go_grown)
                  clear hK K
                  try simp only [Act.put, List.getElem_toArray, List.getElem_cons_zero, List.getElem_cons_succ, List.setIfInBounds_toArray, List.set_cons_zero, List.set_cons_succ]
                  refine rd 1 fun K hK => ?_
                  have rr := QB.out (w4.alloc (.cells #[d0, d1, d2, d3] 106)) (show Below wr.heap.size wr (w4.alloc (.cells #[d0, d1, d2, d3] 106)) from below_step BN.out.size BN.out (below_new w4 _))
                  go_simp
                  refine hK.out _ _ ?_ (fun hHeld => ?_)
                  · exact QS.out _ (by have := BN.out; have hz := this.size; go_grown)
                  clear hK K
                  try simp only [Act.put, List.getElem_toArray, List.getElem_cons_zero, List.getElem_cons_succ, List.setIfInBounds_toArray, List.set_cons_zero, List.set_cons_succ]
                  refine rd 12 fun K hK => ?_
                  obtain ⟨w5, hw5⟩ : ∃ w5, w5 = (w4.alloc (.cells #[d0, d1, d2, d3] 106)) := ⟨_, rfl⟩
                  have hb45 : Below w4.heap.size w4 w5 := by rw [hw5]; exact below_new _ _
                  have hx5 := below_step BN.out.size BN.out hb45
                  have n5 : ∀ j0 u, [d0, d1, d2, d3][j0]? = some u → w5.cell? ((⟨w4.heap.size, 0, none⟩ : Addr).add j0) = some u := fun j0 u hj0 => by rw [hw5, Go.WideShapes.add_plain, Nat.zero_add, World.cell?_alloc_at _ _ _ _ rfl, List.getElem?_toArray]; exact hj0
                  have HL5 := Lib.hid (show HoldsL True (fun kz => wo.heap.size < kz ∧ (Value.slice va j vc).ownBlock ≠ some kz ∧ (True → wr.heap.size ≤ kz)) w5 [d0, d1, d2, d3] (cutS s).d from (HC.out.later hb45).wide (fun kz _ hkz => by have h1 : wr.heap.size ≤ kz := hkz; have h2 : wo.heap.size < wr.heap.size := World.block_lt_of_cell? wr _ NN.out.c0; exact ⟨by omega, fun e => by have := NN.out.f1.bld.own.blk kz e; omega, fun _ => h1⟩))
                  have N5 := Lib.hid n5
                  have X5 := Lib.hid hx5
                  rw [← hw5]
                  clear hb45 hx5 n5 hw5
                  refine appS (by rfl) _ _ 72 106 iS (.agg #[.int .i64 0, .slice none 0 0, .slice none 0 0, .slice none 0 0]) 4 80 (by rfl) Try.underlying72 hiS hzS hsS hbS rfl (by decide) True (fun kz => wo.heap.size < kz) wo wr.heap.size _ (((x.states.take j).map cutS).map St.d) [(cutS s).d] j 1 1 (j + 1) rfl (by exact (NN.out.f1.bld.own.later X5.out)) (by simp; rw [← Sn.out]; omega) (some ⟨w4.heap.size, 0, none⟩) (by rfl) [d0, d1, d2, d3] (fun a ha => by cases ha; exact N5.out) (fun e => by cases e) (by simp [St.d]) rfl (by rw [List.flatten_cons, List.flatten_nil, List.append_nil]; exact HL5.out) rfl (by unfold maxLen; omega) (by omega) ?_
                  intro ao6 cv6 w6 hO6 hg6 hb6
                  obtain ⟨hCN, hc6, hf6⟩ := NN.out.push X5.out hO6 hg6 hb6
                  have CN := Lib.hid hCN
                  have K6 : Hid (∀ (b i : Nat) (u : Value), b < w.heap.size → w5.cell? ⟨b, i, none⟩ = some u → w6.cell? ⟨b, i, none⟩ = some u) := Lib.hid (fun b i u hb hu => grown_at hg6 (fun e => by have := NN.out.f1.bld.inP _ e; have := Hwz.out; omega) hu)
                  have v0 := K6.out _ _ _ htb (QS.out _ X5.out).1
                  have v1 := K6.out _ _ _ Hb4.out (QS.out _ X5.out).2.1
                  have v2 := K6.out _ _ _ Hb4.out (QS.out _ X5.out).2.2.1
                  have v3 := K6.out _ _ _ Hb4.out (QS.out _ X5.out).2.2.2.1
                  have v4 := K6.out _ _ _ Hb4.out (QS.out _ X5.out).2.2.2.2
                  clear hO6 hg6 hb6 hCN
                  refine hK.out _ _ ?_ (fun hHeld => ?_)
                  · exact ⟨v0, v1, v2, v3, v4⟩
                  clear hK K
                  try simp only [Act.put, List.getElem_toArray, List.getElem_cons_zero, List.getElem_cons_succ, List.setIfInBounds_toArray, List.set_cons_zero, List.set_cons_succ]
                  refine tq 13 ?_
                  refine rd 14 fun K hK => ?_
                  go_simp
                  refine hK.out _ _ ?_ (fun hHeld => ?_)
                  · exact ⟨by rw [World.cell?_setCell_other _ _ _ _ (by have := Hwz.out; have := Hb4.out; simp <;> omega)]; exact v0, by rw [World.cell?_setCell_other _ _ _ _ (by have := Hwz.out; have := Hb4.out; simp <;> omega)]; exact v1, by rw [World.cell?_setCell_other _ _ _ _ (by have := Hwz.out; have := Hb4.out; simp <;> omega)]; exact v2, by rw [World.cell?_setCell_other _ _ _ _ (by have := Hwz.out; have := Hb4.out; simp <;> omega)]; exact v3, by rw [World.cell?_setCell_other _ _ _ _ (by have := Hwz.out; have := Hb4.out; simp <;> omega)]; exact v4⟩
                  clear hK K
                  try simp only [Act.put, List.getElem_toArray, List.getElem_cons_zero, List.getElem_cons_succ, List.setIfInBounds_toArray, List.set_cons_zero, List.set_cons_succ]
                  refine wpAnyH_done (by kernel_rfl) ?_ _
                  go_wp2_with fail
                  go_roundw
                  case rel =>
                    refine ⟨j + 1, .slice ao6 (j + 1) cv6, by go_num, by omega, by omega, ?_⟩
                    rw [List.take_add_one, Hs.out]
                    simp only [Option.toList, List.map_append, List.map_cons, List.map_nil]
                    exact CN.out
                  case measure => simp [intOf]; omega
            · have hl10' : ¬ (j : Int) < 10 := by omega
              obtain rfl : j = 10 := by omega
              have EndS : Hid ((x.states.take 10).map cutS = (cutN x).states) := Lib.hid rfl
              have O9 := Lib.hid (BB.out.own.later BW.out)
              have HW9 := Lib.hid (NN.out.f1.bld.holds)
              obtain ⟨wZ, hwZ⟩ : ∃ wZ, wZ = wr.alloc (.cells #[.int .i64 q0, .slice va 10 vc] 74) := ⟨_, rfl⟩
              have hbZ : Below wr.heap.size wr wZ := by rw [hwZ]; exact below_new _ _
              have hZ := below_step BW.out.size BW.out hbZ
              have OZ := Lib.hid (BB.out.own.later hZ)
              have C1 := Lib.hid (show ∀ a0 : Addr, some (⟨wr.heap.size, 0, none⟩ : Addr) = some a0 → ∀ (j0 : Nat) (u : Value), [Value.int .i64 q0, .slice va 10 vc][j0]? = some u → wZ.cell? (a0.add j0) = some u from fun a0 ha j0 u hj0 => by
                cases ha
                rw [hwZ, Go.WideShapes.add_plain, Nat.zero_add, World.cell?_alloc_at _ _ _ _ rfl, List.getElem?_toArray]
                exact hj0)
              have hlw : wo.heap.size < wr.heap.size := World.block_lt_of_cell? wr _ c0
              have HLZ := Lib.hid (show HoldsL True (fun kz => fresh w kz ∧ (Value.slice qa k qc).ownBlock ≠ some kz ∧ (True → wo.heap.size ≤ kz)) wZ [.int .i64 q0, .slice va 10 vc] (cutN x).d from
                nd_holdsL (x := cutN x) Q0.out (by rw [← EndS.out]; exact HW9.out.later hbZ) (fun kz (hkz : wo.heap.size < kz) => ⟨by have := Hwz0.out; show w.heap.size ≤ kz; omega, fun e => by have := BB.out.own.blk kz e; omega, fun _ => by omega⟩))
              have WZ := Lib.hid hwZ
              have HZ := Lib.hid hZ
              clear hbZ hZ hlw hwZ
              go_wp2_with (at_builtin; go_loud (rw [← WZ.out]; refine appL rfl _ _ 25 74 iN (.agg #[.int .i64 0, .slice none 0 0]) 2 32 rfl Try.underlying25 hiN hzN hsN hbN rfl (by decide) True (fresh w) w wo.heap.size _ (((M.take k).map cutN).map Nd.d) [(cutN x).d] k 1 1 (k + 1) rfl OZ.out (by simp; rw [← TL.out]; omega) (some ⟨wr.heap.size, 0, none⟩) rfl [.int .i64 q0, .slice va 10 vc] C1.out (fun e => by cases e) (by simp [Nd.d]) rfl (by rw [List.flatten_cons, List.flatten_nil, List.append_nil]; exact HLZ.out) rfl (by unfold maxLen; omega) (by omega) ?_))
              intro ao cv w13 hO13 hg13 hb13
              have hO13' : Own True (fresh w) 74 2 w w13.heap.size w13 (.slice ao (k + 1) cv) (((M.take (k + 1)).map cutN).map Nd.d) := by
                rw [List.take_add_one, Hx.out]
                simpa using hO13
              have B13 := Lib.hid (Bld.of hO13' BB.out.inP hb13 (by have := HZ.out.size; have := Hwz0.out; show w.heap.size ≤ _; omega))
              clear hO13 hO13' hg13 hb13
              go_wp2_with fail
              go_roundw
              case rel => exact ⟨k + 1, by go_num, by omega, by omega, B13.out⟩
              case measure => simp [intOf]; omega
          · have hlj' : ¬ (j : Int) < sn := by omega
            have EndS : Hid ((x.states.take j).map cutS = (cutN x).states) := Lib.hid (by
              show _ = (x.states.take 10).map cutS
              rw [List.take_of_length_le (by rw [← Sn.out]; omega), List.take_of_length_le (by rw [← Sn.out]; omega)])
            have O9 := Lib.hid (BB.out.own.later BW.out)
            have HW9 := Lib.hid (NN.out.f1.bld.holds)
            obtain ⟨wZ, hwZ⟩ : ∃ wZ, wZ = wr.alloc (.cells #[.int .i64 q0, .slice va j vc] 74) := ⟨_, rfl⟩
            have hbZ : Below wr.heap.size wr wZ := by rw [hwZ]; exact below_new _ _
            have hZ := below_step BW.out.size BW.out hbZ
            have OZ := Lib.hid (BB.out.own.later hZ)
            have C1 := Lib.hid (show ∀ a0 : Addr, some (⟨wr.heap.size, 0, none⟩ : Addr) = some a0 → ∀ (j0 : Nat) (u : Value), [Value.int .i64 q0, .slice va j vc][j0]? = some u → wZ.cell? (a0.add j0) = some u from fun a0 ha j0 u hj0 => by
              cases ha
              rw [hwZ, Go.WideShapes.add_plain, Nat.zero_add, World.cell?_alloc_at _ _ _ _ rfl, List.getElem?_toArray]
              exact hj0)
            have hlw : wo.heap.size < wr.heap.size := World.block_lt_of_cell? wr _ c0
            have HLZ := Lib.hid (show HoldsL True (fun kz => fresh w kz ∧ (Value.slice qa k qc).ownBlock ≠ some kz ∧ (True → wo.heap.size ≤ kz)) wZ [.int .i64 q0, .slice va j vc] (cutN x).d from
              nd_holdsL (x := cutN x) Q0.out (by rw [← EndS.out]; exact HW9.out.later hbZ) (fun kz (hkz : wo.heap.size < kz) => ⟨by have := Hwz0.out; show w.heap.size ≤ kz; omega, fun e => by have := BB.out.own.blk kz e; omega, fun _ => by omega⟩))
            have WZ := Lib.hid hwZ
            have HZ := Lib.hid hZ
            clear hbZ hZ hlw hwZ
            go_wp2_with (at_builtin; go_loud (rw [← WZ.out]; refine appL rfl _ _ 25 74 iN (.agg #[.int .i64 0, .slice none 0 0]) 2 32 rfl Try.underlying25 hiN hzN hsN hbN rfl (by decide) True (fresh w) w wo.heap.size _ (((M.take k).map cutN).map Nd.d) [(cutN x).d] k 1 1 (k + 1) rfl OZ.out (by simp; rw [← TL.out]; omega) (some ⟨wr.heap.size, 0, none⟩) rfl [.int .i64 q0, .slice va j vc] C1.out (fun e => by cases e) (by simp [Nd.d]) rfl (by rw [List.flatten_cons, List.flatten_nil, List.append_nil]; exact HLZ.out) rfl (by unfold maxLen; omega) (by omega) ?_))
            intro ao cv w13 hO13 hg13 hb13
            have hO13' : Own True (fresh w) 74 2 w w13.heap.size w13 (.slice ao (k + 1) cv) (((M.take (k + 1)).map cutN).map Nd.d) := by
              rw [List.take_add_one, Hx.out]
              simpa using hO13
            have B13 := Lib.hid (Bld.of hO13' BB.out.inP hb13 (by have := HZ.out.size; have := Hwz0.out; show w.heap.size ≤ _; omega))
            clear hO13 hO13' hg13 hb13
            go_wp2_with fail
            go_roundw
            case rel => exact ⟨k + 1, by go_num, by omega, by omega, B13.out⟩
            case measure => simp [intOf]; omega
      · have hl8' : ¬ (k : Int) < 8 := by omega
        obtain rfl : k = 8 := by omega
        go_wp2_with fail
        go_ret
        exact ⟨_, rfl, BB.out.holds, BB.out.own.bel⟩
    · have hlt' : ¬ (k : Int) < tl := by omega
      have EndT : Hid ((M.take k).map cutN = cutT M) := Lib.hid (by
        unfold cutT
        rw [List.take_of_length_le (by rw [← TL.out]; omega), List.take_of_length_le (by rw [← TL.out]; omega)])
      go_wp2_with fail
      go_ret
      exact ⟨_, rfl, by have := BB.out.holds; rw [EndT.out] at this; have hl : k = (cutT M).length := by rw [← EndT.out, List.length_map, List.length_take, ← TL.out]; omega
                        exact this, BB.out.own.bel⟩
end Go.Proofs.Ytennbiajnkobnaa

