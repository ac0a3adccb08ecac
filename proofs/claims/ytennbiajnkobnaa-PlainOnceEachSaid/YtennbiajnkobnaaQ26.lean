/- Texts put together. -/
import Derived.Test.YtennbiajnkobnaaQ02
import Derived.Test.YtennbiajnkobnaaQ11
import Derived.Test.YtennbiajnkobnaaQ25
set_option linter.unusedSimpArgs false
namespace Go.Proofs.Ytennbiajnkobnaa
open Go.RowKit Go.PlainAid
theorem infoRNd : (Try.prog.info? 68).map (fun i => (i.zero, i.size, i.bytes)) = some (some (.agg #[.int .i64 0, .slice none 0 0]), 2, 32) := by kernel_rfl
theorem infoRState : (Try.prog.info? 99).map (fun i => (i.zero, i.size, i.bytes)) = some (some (.agg #[.int .i64 0, .slice none 0 0, .slice none 0 0, .slice none 0 0]), 4, 80) := by kernel_rfl
/-- A node's box while its states are copied. -/
structure RnAt (hw : Nat) (wo : World) (q : Int) (v : Value) (ss : List St) (wr : World) : Prop where
 c0 : wr.cell? ⟨wo.heap.size, 0, none⟩ = some (.int .i64 q)
 f1 : Fld False (fun k => k < hw ∨ wo.heap.size < k) 99 4 wo wr wo.heap.size 1 v (ss.map St.d)
 hle : hw ≤ wo.heap.size
theorem RnAt.start (hw : Nat) (wo : World) (q : Int) (hle : hw ≤ wo.heap.size) : RnAt hw wo q (.slice none 0 0) [] (wo.alloc (.cells #[.int .i64 q, .slice none 0 0] 68)) :=
 ⟨World.cell?_alloc_at _ _ _ _ rfl, ⟨World.cell?_alloc_at _ _ _ _ rfl, frozen_new _ _ _ _, ⟨Own.nil (below_new _ _), fun k hk => by simp [Value.ownBlock] at hk⟩, by omega, Nat.le_refl _⟩, hle⟩
theorem RnAt.below {hw : Nat} {wo : World} {q : Int} {v : Value} {ss : List St} {w w' : World} (h : RnAt hw wo q v ss w) (hb : Below w.heap.size w w') : RnAt hw wo q v ss w' :=
 ⟨(hb.cell (World.block_lt_of_cell? w _ h.c0)).trans h.c0, h.f1.below hb, h.hle⟩
theorem RnAt.push {hw : Nat} {wo : World} {q : Int} {v v' : Value} {ss : List St} {s : St} {w w5 w6 : World} (h : RnAt hw wo q v ss w) (hb : Below w.heap.size w w5) (hO : Own False (fun k => k < hw ∨ wo.heap.size < k) 99 4 wo w6.heap.size w6 v' (ss.map St.d ++ [s.d]))
  (hg : w5.grownBy w6 v.ownBlock) (hv : v'.ownBlock = v.ownBlock ∨ v'.ownBlock = some w5.heap.size) : RnAt hw wo q v' (ss ++ [s]) (w6.setCell ⟨wo.heap.size, 1, none⟩ v') ∧ w6.cell? ⟨wo.heap.size, 1, none⟩ = some v ∧ w6.frozen? ⟨wo.heap.size, 1, none⟩ = false := by
 have h5 := h.below hb
 have hlt : wo.heap.size < w5.heap.size := World.block_lt_of_cell? w5 _ h5.c0
 obtain ⟨a1, a2, a3, a4, a5, a6, a7⟩ := h.f1.push hb hO hg hv (.inr hlt)
 have hle := h.hle
 refine ⟨⟨a6 _ _ h5.c0 (by simp; omega) (by simp), ?_, h.hle⟩, a2, a3⟩
 rw [List.map_append]; exact a1
def refP (wb w : World) (k : Nat) : Prop := k < wb.heap.size ∨ w.heap.size ≤ k
set_option maxHeartbeats 8000000 in
set_option maxRecDepth 100000 in
theorem ref4_in (M : Tab) (v : Value) (wb w : World) (h0 : Has wb v (dTab M)) (hbw0 : Below wb.heap.size wb w) (hsm : SmallTab M) :
    Calls Try.prog 23 #[v] w fun e w' => ∃ u, e = .returned u ∧ Holds False (refP wb w) w' u (dTab M) ∧ Below w.heap.size w w' := by
  have h := h0.later hbw0
  have HBW := Lib.hid hbw0
  have Hwz1 := Lib.hid hbw0.size
  obtain ⟨ta, tc, rfl⟩ := slice_of h
  obtain ⟨iN, hiN, hzN, hsN, hbN⟩ := info_parts infoRNd
  obtain ⟨iS, hiS, hzS, hsS, hbS⟩ := info_parts infoRState
  obtain ⟨tl, htl⟩ : ∃ tl, tl = M.length := ⟨_, rfl⟩
  have H := Lib.hid h0
  rw [← htl] at H ⊢
  have TL := Lib.hid htl
  have HSM := Lib.hid hsm
  have htl6 : tl ≤ 1000000 := by rw [htl]; exact hsm.1
  have O0 := Own.made (S := False) (P := refP wb w) (E := 68) (n := 2) (Below.refl w.heap.size w)
  rw [show w.heap.size + 1 = (w.alloc (.cells #[] 68)).heap.size by simp] at O0
  have B0 := Lib.hid (show Bld False (refP wb w) 68 2 w (w.alloc (.cells #[] 68)).heap.size (w.alloc (.cells #[] 68)) (.slice (some ⟨w.heap.size, 0, none⟩) 0 0) [] from ⟨O0, fun k hk => by simp [Value.ownBlock] at hk; exact .inr (by omega)⟩)
  clear h htl O0 hsm
  go_enter Try.func23, Try.ntmps23
  go_wp2_with fail
  go_loopw [3, 4] (fun q i wr => ∃ k : Nat, i = .int .i64 k ∧ k ≤ tl ∧ Bld False (refP wb w) 68 2 w wr.heap.size wr q ((M.take k).map Nd.d)) (fun _ i _ => tl - (intOf i).toNat)
  case atStart => exact ⟨0, rfl, by omega, by rw [List.take_zero]; exact B0.out⟩
  case round =>
    rename Value => q
    obtain ⟨k, rfl, hk, hB⟩ := hrel
    have BB := Lib.hid hB
    have HT := H.out.later (below_step HBW.out.size HBW.out hB.own.bel)
    obtain ⟨qa, qc, hq⟩ := hB.own.slice
    rw [List.length_map, List.length_take, ← TL.out, Nat.min_eq_left hk] at hq
    subst hq
    clear hB
    by_cases hlt : k < tl
    · have hlt' : (k : Int) < tl := by omega
      · obtain ⟨wo, hwo⟩ : ∃ wo, wo = wr := ⟨_, rfl⟩
        subst hwo
        obtain ⟨x, hx⟩ := some_of_lt (l := M) (i := k) (by rw [← TL.out]; exact hlt)
        obtain ⟨tb, tqo, tcap, vs, e, htb, _, x0, x1, hS⟩ := nd_cells H.out hx
        rw [← TL.out] at e
        simp only [Value.slice.injEq] at e
        obtain ⟨e, _, e'⟩ := e
        subst e e'
        obtain ⟨sa, sc, rfl⟩ := slice_of hS
        obtain ⟨sn, hsn⟩ : ∃ sn, sn = x.states.length := ⟨_, rfl⟩
        obtain ⟨q0, hq0⟩ : ∃ q0, q0 = x.start := ⟨_, rfl⟩
        rw [← hsn] at x1 hS
        rw [← hq0] at x0
        have Sn := Lib.hid hsn
        have Q0 := Lib.hid hq0
        have Hx := Lib.hid hx
        have HS := Lib.hid hS
        have X1 := Lib.hid x1
        have y0 := ((below_step HBW.out.size HBW.out BB.out.own.bel).cell (by exact htb)).trans x0
        have N0 := Lib.hid (RnAt.start wb.heap.size wo q0 (Nat.le_trans Hwz1.out BB.out.own.bel.size))
        have hs6 : sn ≤ 1000000 := by rw [hsn]; exact (HSM.out.2 x (List.mem_of_getElem? hx)).1
        have HXS := Lib.hid (HSM.out.2 x (List.mem_of_getElem? hx)).2
        have Hwz0 := Lib.hid BB.out.own.bel.size
        clear hx hS hsn hq0 x0 x1 HT
        go_wp2_with fail
        go_loopw [6] (fun i wr => ∃ (j : Nat) (v : Value), i = .int .i64 j ∧ j ≤ sn ∧ RnAt wb.heap.size wo q0 v (x.states.take j) wr) (fun i _ => sn - (intOf i).toNat)
        case atStart => exact ⟨0, _, rfl, by omega, by rw [List.take_zero]; exact N0.out⟩
        case round =>
          obtain ⟨j, v, rfl, hj, hN⟩ := hrel
          have NN := Lib.hid hN
          have hbw := hN.f1.bld.own.bel
          have BW := Lib.hid hbw
          have hbww := below_step BB.out.own.bel.size BB.out.own.bel hbw
          have BWW := Lib.hid hbww
          have z1 := ((below_step HBW.out.size HBW.out hbww).cell (by exact htb)).trans X1.out
          obtain ⟨va, vc, hv⟩ := hN.f1.bld.own.slice
          rw [List.length_map, List.length_take, ← Sn.out, Nat.min_eq_left hj] at hv
          subst hv
          have c0 := hN.c0
          have c1 := hN.f1.cell
          clear hN hbw hbww
          by_cases hlj : j < sn
          · have hlj' : (j : Int) < sn := by omega
            · obtain ⟨s, hs⟩ := some_of_lt (l := x.states) (i := j) (by rw [← Sn.out]; exact hlj)
              obtain ⟨b4, o4, cap4, m, a1, n1, c1', a2, n2, c2', a3, n3, c3', e, hb4, hE, hX⟩ := ebox_of HS.out hs
              clear hX
              rw [← Sn.out] at e
              simp only [Value.slice.injEq] at e
              obtain ⟨e, _, e2⟩ := e
              subst e e2
              have E := Lib.hid (hE.below (below_step HBW.out.size HBW.out BWW.out))
              have Hs := Lib.hid hs
              have ES := Lib.hid hE.st
              have QS : Hid (∀ w', Below wr.heap.size wr w' → w'.cell? ⟨tb, tqo + k * 2 + 1, none⟩ = some (.slice (some ⟨b4, o4, none⟩) sn sc) ∧ w'.cell? ⟨b4, o4 + j * 4, none⟩ = some (.int .i64 m) ∧ w'.cell? ⟨b4, o4 + j * 4 + 1, none⟩ = some (.slice a1 n1 c1') ∧ w'.cell? ⟨b4, o4 + j * 4 + 2, none⟩ = some (.slice a2 n2 c2') ∧ w'.cell? ⟨b4, o4 + j * 4 + 3, none⟩ = some (.slice a3 n3 c3')) := Lib.hid (fun w' hb => ⟨(hb.cell (World.block_lt_of_cell? wr _ z1)).trans z1, (hb.cell (World.block_lt_of_cell? wr _ E.out.e0)).trans E.out.e0, (hb.cell (World.block_lt_of_cell? wr _ E.out.e1)).trans E.out.e1, (hb.cell (World.block_lt_of_cell? wr _ E.out.e2)).trans E.out.e2, (hb.cell (World.block_lt_of_cell? wr _ E.out.e3)).trans E.out.e3⟩)
              have QB : Hid (∀ w', Below wr.heap.size wr w' → w'.cell? ⟨wo.heap.size, 1, none⟩ = some (.slice va j vc)) := Lib.hid (fun w' hb => (hb.cell (World.block_lt_of_cell? wr _ c1)).trans c1)
              have Hb4 := Lib.hid hb4
              have Hwz := Lib.hid BB.out.own.bel.size
              clear hs hE
              go_wp2_with fail
              clear c1 z1 y0
              refine wp_region_held_drew (S := (fun w' => w'.cell? ⟨tb, tqo + k * 2 + 1, none⟩ = some (.slice (some ⟨b4, o4, none⟩) sn sc) ∧ w'.cell? ⟨b4, o4 + j * 4, none⟩ = some (.int .i64 m) ∧ w'.cell? ⟨b4, o4 + j * 4 + 1, none⟩ = some (.slice a1 n1 c1') ∧ w'.cell? ⟨b4, o4 + j * 4 + 2, none⟩ = some (.slice a2 n2 c2') ∧ w'.cell? ⟨b4, o4 + j * 4 + 3, none⟩ = some (.slice a3 n3 c3'))) (by kernel_rfl) ?_ (fun hHeld => ?_)
              · exact QS.out _ (by go_grown)
              refine tq 0 ?_
              refine tq 2 ?_
              refine tq 3 ?_
              refine tq 4 ?_
              refine tq 5 ?_
              refine tq 6 ?_
              refine tq 7 ?_
              refine tq 8 ?_
              refine tq 9 ?_
              refine wpAnyH_ready (rs := [1, 10]) (by kernel_rfl) (by simp) ?_
              refine AllReadyH.cons rfl (fun K hK => ?_) (AllReadyH.cons rfl (fun K hK => ?_) AllReadyH.nil)
              · have rr := QB.out wr.drew (show Below wr.heap.size wr wr.drew from below_drewN (Below.refl _ wr) 1)
                go_simp
                refine hK.out _ _ ?_ (fun hHeld => ?_)
                · exact QS.out _ (by go_grown)
                clear hK K
                try simp only [Act.put, List.getElem_toArray, List.getElem_cons_zero, List.getElem_cons_succ, List.setIfInBounds_toArray, List.set_cons_zero, List.set_cons_succ]
                refine rd 10 fun K hK => ?_
                go_simp
                refine (state_in s _ wb _ ES.out (below_drewN (below_step HBW.out.size HBW.out BWW.out) 1) (HXS.out s (List.mem_of_getElem? Hs.out))).mono ?_
                rintro e w4 ⟨cs, rfl, hcs, hb4'⟩
                obtain ⟨d0, d1, d2, d3, rfl⟩ : ∃ d0 d1 d2 d3, cs = [d0, d1, d2, d3] := by obtain ⟨hl, _⟩ := hcs; match cs, hl with | [x0, x1, x2, x3], _ => exact ⟨_, _, _, _, rfl⟩
                have HC := Lib.hid hcs
                have BN := Lib.hid (below_step (by simp) (below_drewN (Below.refl wr.heap.size wr) 1) hb4')
                clear hcs hb4'
                go_wp2_with fail
                refine hK.out _ _ ?_ (fun hHeld => ?_)
                · exact QS.out _ BN.out
                clear hK K
                try simp only [Act.put, List.getElem_toArray, List.getElem_cons_zero, List.getElem_cons_succ, List.setIfInBounds_toArray, List.set_cons_zero, List.set_cons_succ]
                refine rd 11 fun K hK => ?_
                go_simp
                refine hK.out _ _ ?_ (fun hHeld => ?_)
                · exact QS.out _ (by have := BN.out; have hz := this.size; go_grown)
                clear hK K
                try simp only [Act.put, List.getElem_toArray, List.getElem_cons_zero, List.getElem_cons_succ, List.setIfInBounds_toArray, List.set_cons_zero, List.set_cons_succ]
                refine rd 12 fun K hK => ?_
                obtain ⟨w5, hw5⟩ : ∃ w5, w5 = (w4.alloc (.cells #[d0, d1, d2, d3] 99)) := ⟨_, rfl⟩
                have hb45 : Below w4.heap.size w4 w5 := by rw [hw5]; exact below_new _ _
                have hx5 := below_step BN.out.size BN.out hb45
                have n5 : ∀ j0 u, [d0, d1, d2, d3][j0]? = some u → w5.cell? ((⟨w4.heap.size, 0, none⟩ : Addr).add j0) = some u := fun j0 u hj0 => by rw [hw5, Go.WideShapes.add_plain, Nat.zero_add, World.cell?_alloc_at _ _ _ _ rfl, List.getElem?_toArray]; exact hj0
                have HL5 := Lib.hid (show HoldsL False (fun kz => (kz < wb.heap.size ∨ wo.heap.size < kz) ∧ (Value.slice va j vc).ownBlock ≠ some kz ∧ (False → wr.heap.size ≤ kz)) w5 [d0, d1, d2, d3] s.d from (HC.out.later hb45).wide (fun kz _ hkz => by have h1 : kz < wb.heap.size ∨ wr.heap.size ≤ kz := hkz; have h2 : wo.heap.size < wr.heap.size := World.block_lt_of_cell? wr _ NN.out.c0; have h3 := NN.out.f1.bld.own.ge; exact ⟨by omega, fun e => by have h4 := NN.out.f1.bld.own.blk kz e; have h5 := (h3 kz e).1; have := Hwz.out; have := Hwz1.out; omega, fun f => f.elim⟩))
                have N5 := Lib.hid n5
                have X5 := Lib.hid hx5
                rw [← hw5]
                clear hb45 hx5 n5 hw5
                refine appS (by rfl) _ _ 66 99 iS (.agg #[.int .i64 0, .slice none 0 0, .slice none 0 0, .slice none 0 0]) 4 80 (by rfl) Try.underlying66 hiS hzS hsS hbS rfl (by decide) False (fun kz => kz < wb.heap.size ∨ wo.heap.size < kz) wo wr.heap.size _ ((x.states.take j).map St.d) [s.d] j 1 1 (j + 1) rfl (by exact (NN.out.f1.bld.own.later X5.out)) (by simp; rw [← Sn.out]; omega) (some ⟨w4.heap.size, 0, none⟩) (by rfl) [d0, d1, d2, d3] (fun a ha => by cases ha; exact N5.out) (fun e => by cases e) (by simp [St.d]) rfl (by rw [List.flatten_cons, List.flatten_nil, List.append_nil]; exact HL5.out) rfl (by unfold maxLen; omega) (by omega) ?_
                intro ao6 cv6 w6 hO6 hg6 hb6
                obtain ⟨hCN, hc6, hf6⟩ := NN.out.push X5.out hO6 hg6 hb6
                have CN := Lib.hid hCN
                have K6 : Hid (∀ (b i : Nat) (u : Value), b < w.heap.size → w5.cell? ⟨b, i, none⟩ = some u → w6.cell? ⟨b, i, none⟩ = some u) := Lib.hid (fun b i u hb hu => grown_at hg6 (fun e => by have := (NN.out.f1.bld.own.ge _ e).1; have := Hwz.out; have := Hwz1.out; omega) hu)
                have v0 := K6.out _ _ _ (by have := Hwz1.out; omega) (QS.out _ X5.out).1
                have v1 := K6.out _ _ _ (by have := Hwz1.out; have := Hb4.out; omega) (QS.out _ X5.out).2.1
                have v2 := K6.out _ _ _ (by have := Hwz1.out; have := Hb4.out; omega) (QS.out _ X5.out).2.2.1
                have v3 := K6.out _ _ _ (by have := Hwz1.out; have := Hb4.out; omega) (QS.out _ X5.out).2.2.2.1
                have v4 := K6.out _ _ _ (by have := Hwz1.out; have := Hb4.out; omega) (QS.out _ X5.out).2.2.2.2
                clear hO6 hg6 hb6 hCN
                refine hK.out _ _ ?_ (fun hHeld => ?_)
                · exact ⟨v0, v1, v2, v3, v4⟩
                clear hK K
                try simp only [Act.put, List.getElem_toArray, List.getElem_cons_zero, List.getElem_cons_succ, List.setIfInBounds_toArray, List.set_cons_zero, List.set_cons_succ]
                refine tq 13 ?_
                refine rd 14 fun K hK => ?_
                go_simp
                refine hK.out _ _ ?_ (fun hHeld => ?_)
                · exact ⟨by rw [World.cell?_setCell_other _ _ _ _ (by have := Hwz.out; have := Hwz1.out; have := Hb4.out; simp <;> omega)]; exact v0, by rw [World.cell?_setCell_other _ _ _ _ (by have := Hwz.out; have := Hwz1.out; have := Hb4.out; simp <;> omega)]; exact v1, by rw [World.cell?_setCell_other _ _ _ _ (by have := Hwz.out; have := Hwz1.out; have := Hb4.out; simp <;> omega)]; exact v2, by rw [World.cell?_setCell_other _ _ _ _ (by have := Hwz.out; have := Hwz1.out; have := Hb4.out; simp <;> omega)]; exact v3, by rw [World.cell?_setCell_other _ _ _ _ (by have := Hwz.out; have := Hwz1.out; have := Hb4.out; simp <;> omega)]; exact v4⟩
                clear hK K
                try simp only [Act.put, List.getElem_toArray, List.getElem_cons_zero, List.getElem_cons_succ, List.setIfInBounds_toArray, List.set_cons_zero, List.set_cons_succ]
                refine wpAnyH_done (by kernel_rfl) ?_ _
                go_wp2_with fail
                go_roundw
                case rel =>
                  refine ⟨j + 1, .slice ao6 (j + 1) cv6, by go_num, by omega, ?_⟩
                  rw [List.take_add_one, Hs.out]
                  exact CN.out
                case measure => simp [intOf]; omega
              · go_simp
                refine (state_in s _ wb _ ES.out (below_drewN (below_step HBW.out.size HBW.out BWW.out) 1) (HXS.out s (List.mem_of_getElem? Hs.out))).mono ?_
                rintro e w4 ⟨cs, rfl, hcs, hb4'⟩
                obtain ⟨d0, d1, d2, d3, rfl⟩ : ∃ d0 d1 d2 d3, cs = [d0, d1, d2, d3] := by obtain ⟨hl, _⟩ := hcs; match cs, hl with | [x0, x1, x2, x3], _ => exact ⟨_, _, _, _, rfl⟩
                have HC := Lib.hid hcs
                have BN := Lib.hid (below_step (by simp) (below_drewN (Below.refl wr.heap.size wr) 1) hb4')
                clear hcs hb4'
                go_wp2_with fail
                refine hK.out _ _ ?_ (fun hHeld => ?_)
                · exact QS.out _ BN.out
                clear hK K
                try simp only [Act.put, List.getElem_toArray, List.getElem_cons_zero, List.getElem_cons_succ, List.setIfInBounds_toArray, List.set_cons_zero, List.set_cons_succ]
                refine wpAnyH_ready (rs := [1, 11]) (by kernel_rfl) (by simp) ?_
                refine AllReadyH.cons rfl (fun K hK => ?_) (AllReadyH.cons rfl (fun K hK => ?_) AllReadyH.nil)
                · have rr := QB.out w4 (show Below wr.heap.size wr w4 from BN.out)
                  go_simp
                  refine hK.out _ _ ?_ (fun hHeld => ?_)
                  · exact QS.out _ BN.out
                  clear hK K
                  try simp only [Act.put, List.getElem_toArray, List.getElem_cons_zero, List.getElem_cons_succ, List.setIfInBounds_toArray, List.set_cons_zero, List.set_cons_succ]
                  refine rd 11 fun K hK => ?_
                  go_simp
                  refine hK.out _ _ ?_ (fun hHeld => ?_)
                  · exact QS.out _ (by have := BN.out; have hz := this.size; go_grown)
                  clear hK K
                  try simp only [Act.put, List.getElem_toArray, List.getElem_cons_zero, List.getElem_cons_succ, List.setIfInBounds_toArray, List.set_cons_zero, List.set_cons_succ]
                  refine rd 12 fun K hK => ?_
                  obtain ⟨w5, hw5⟩ : ∃ w5, w5 = (w4.alloc (.cells #[d0, d1, d2, d3] 99)) := ⟨_, rfl⟩
                  have hb45 : Below w4.heap.size w4 w5 := by rw [hw5]; exact below_new _ _
                  have hx5 := below_step BN.out.size BN.out hb45
                  have n5 : ∀ j0 u, [d0, d1, d2, d3][j0]? = some u → w5.cell? ((⟨w4.heap.size, 0, none⟩ : Addr).add j0) = some u := fun j0 u hj0 => by rw [hw5, Go.WideShapes.add_plain, Nat.zero_add, World.cell?_alloc_at _ _ _ _ rfl, List.getElem?_toArray]; exact hj0
                  have HL5 := Lib.hid (show HoldsL False (fun kz => (kz < wb.heap.size ∨ wo.heap.size < kz) ∧ (Value.slice va j vc).ownBlock ≠ some kz ∧ (False → wr.heap.size ≤ kz)) w5 [d0, d1, d2, d3] s.d from (HC.out.later hb45).wide (fun kz _ hkz => by have h1 : kz < wb.heap.size ∨ wr.heap.size ≤ kz := hkz; have h2 : wo.heap.size < wr.heap.size := World.block_lt_of_cell? wr _ NN.out.c0; have h3 := NN.out.f1.bld.own.ge; exact ⟨by omega, fun e => by have h4 := NN.out.f1.bld.own.blk kz e; have h5 := (h3 kz e).1; have := Hwz.out; have := Hwz1.out; omega, fun f => f.elim⟩))
                  have N5 := Lib.hid n5
                  have X5 := Lib.hid hx5
                  rw [← hw5]
                  clear hb45 hx5 n5 hw5
                  refine appS (by rfl) _ _ 66 99 iS (.agg #[.int .i64 0, .slice none 0 0, .slice none 0 0, .slice none 0 0]) 4 80 (by rfl) Try.underlying66 hiS hzS hsS hbS rfl (by decide) False (fun kz => kz < wb.heap.size ∨ wo.heap.size < kz) wo wr.heap.size _ ((x.states.take j).map St.d) [s.d] j 1 1 (j + 1) rfl (by exact (NN.out.f1.bld.own.later X5.out)) (by simp; rw [← Sn.out]; omega) (some ⟨w4.heap.size, 0, none⟩) (by rfl) [d0, d1, d2, d3] (fun a ha => by cases ha; exact N5.out) (fun e => by cases e) (by simp [St.d]) rfl (by rw [List.flatten_cons, List.flatten_nil, List.append_nil]; exact HL5.out) rfl (by unfold maxLen; omega) (by omega) ?_
                  intro ao6 cv6 w6 hO6 hg6 hb6
                  obtain ⟨hCN, hc6, hf6⟩ := NN.out.push X5.out hO6 hg6 hb6
                  have CN := Lib.hid hCN
                  have K6 : Hid (∀ (b i : Nat) (u : Value), b < w.heap.size → w5.cell? ⟨b, i, none⟩ = some u → w6.cell? ⟨b, i, none⟩ = some u) := Lib.hid (fun b i u hb hu => grown_at hg6 (fun e => by have := (NN.out.f1.bld.own.ge _ e).1; have := Hwz.out; have := Hwz1.out; omega) hu)
                  have v0 := K6.out _ _ _ (by have := Hwz1.out; omega) (QS.out _ X5.out).1
                  have v1 := K6.out _ _ _ (by have := Hwz1.out; have := Hb4.out; omega) (QS.out _ X5.out).2.1
                  have v2 := K6.out _ _ _ (by have := Hwz1.out; have := Hb4.out; omega) (QS.out _ X5.out).2.2.1
                  have v3 := K6.out _ _ _ (by have := Hwz1.out; have := Hb4.out; omega) (QS.out _ X5.out).2.2.2.1
                  have v4 := K6.out _ _ _ (by have := Hwz1.out; have := Hb4.out; omega) (QS.out _ X5.out).2.2.2.2
                  clear hO6 hg6 hb6 hCN
                  refine hK.out _ _ ?_ (fun hHeld => ?_)
                  · exact ⟨v0, v1, v2, v3, v4⟩
                  clear hK K
                  try simp only [Act.put, List.getElem_toArray, List.getElem_cons_zero, List.getElem_cons_succ, List.setIfInBounds_toArray, List.set_cons_zero, List.set_cons_succ]
                  refine tq 13 ?_
                  refine rd 14 fun K hK => ?_
                  go_simp
                  refine hK.out _ _ ?_ (fun hHeld => ?_)
                  · exact ⟨by rw [World.cell?_setCell_other _ _ _ _ (by have := Hwz.out; have := Hwz1.out; have := Hb4.out; simp <;> omega)]; exact v0, by rw [World.cell?_setCell_other _ _ _ _ (by have := Hwz.out; have := Hwz1.out; have := Hb4.out; simp <;> omega)]; exact v1, by rw [World.cell?_setCell_other _ _ _ _ (by have := Hwz.out; have := Hwz1.out; have := Hb4.out; simp <;> omega)]; exact v2, by rw [World.cell?_setCell_other _ _ _ _ (by have := Hwz.out; have := Hwz1.out; have := Hb4.out; simp <;> omega)]; exact v3, by rw [World.cell?_setCell_other _ _ _ _ (by have := Hwz.out; have := Hwz1.out; have := Hb4.out; simp <;> omega)]; exact v4⟩
                  clear hK K
                  try simp only [Act.put, List.getElem_toArray, List.getElem_cons_zero, List.getElem_cons_succ, List.setIfInBounds_toArray, List.set_cons_zero, List.set_cons_succ]
                  refine wpAnyH_done (by kernel_rfl) ?_ _
                  go_wp2_with fail
                  go_roundw
                  case rel =>
                    refine ⟨j + 1, .slice ao6 (j + 1) cv6, by go_num, by omega, ?_⟩
                    rw [List.take_add_one, Hs.out]
                    exact CN.out
                  case measure => simp [intOf]; omega
                · go_simp
                  refine hK.out _ _ ?_ (fun hHeld => ?_)
                  · exact QS.out _ (by have := BN.out; have hz := this.size; go_grown)
                  clear hK K
                  try simp only [Act.put, List.getElem_toArray, List.getElem_cons_zero, List.getElem_cons_succ, List.setIfInBounds_toArray, List.set_cons_zero, List.set_cons_succ]
                  refine rd 1 fun K hK => ?_
                  have rr := QB.out (w4.alloc (.cells #[d0, d1, d2, d3] 99)) (show Below wr.heap.size wr (w4.alloc (.cells #[d0, d1, d2, d3] 99)) from below_step BN.out.size BN.out (below_new w4 _))
                  go_simp
                  refine hK.out _ _ ?_ (fun hHeld => ?_)
                  · exact QS.out _ (by have := BN.out; have hz := this.size; go_grown)
                  clear hK K
                  try simp only [Act.put, List.getElem_toArray, List.getElem_cons_zero, List.getElem_cons_succ, List.setIfInBounds_toArray, List.set_cons_zero, List.set_cons_succ]
                  refine rd 12 fun K hK => ?_
                  obtain ⟨w5, hw5⟩ : ∃ w5, w5 = (w4.alloc (.cells #[d0, d1, d2, d3] 99)) := ⟨_, rfl⟩
                  have hb45 : Below w4.heap.size w4 w5 := by rw [hw5]; exact below_new _ _
                  have hx5 := below_step BN.out.size BN.out hb45
                  have n5 : ∀ j0 u, [d0, d1, d2, d3][j0]? = some u → w5.cell? ((⟨w4.heap.size, 0, none⟩ : Addr).add j0) = some u := fun j0 u hj0 => by rw [hw5, Go.WideShapes.add_plain, Nat.zero_add, World.cell?_alloc_at _ _ _ _ rfl, List.getElem?_toArray]; exact hj0
                  have HL5 := Lib.hid (show HoldsL False (fun kz => (kz < wb.heap.size ∨ wo.heap.size < kz) ∧ (Value.slice va j vc).ownBlock ≠ some kz ∧ (False → wr.heap.size ≤ kz)) w5 [d0, d1, d2, d3] s.d from (HC.out.later hb45).wide (fun kz _ hkz => by have h1 : kz < wb.heap.size ∨ wr.heap.size ≤ kz := hkz; have h2 : wo.heap.size < wr.heap.size := World.block_lt_of_cell? wr _ NN.out.c0; have h3 := NN.out.f1.bld.own.ge; exact ⟨by omega, fun e => by have h4 := NN.out.f1.bld.own.blk kz e; have h5 := (h3 kz e).1; have := Hwz.out; have := Hwz1.out; omega, fun f => f.elim⟩))
                  have N5 := Lib.hid n5
                  have X5 := Lib.hid hx5
                  rw [← hw5]
                  clear hb45 hx5 n5 hw5
                  refine appS (by rfl) _ _ 66 99 iS (.agg #[.int .i64 0, .slice none 0 0, .slice none 0 0, .slice none 0 0]) 4 80 (by rfl) Try.underlying66 hiS hzS hsS hbS rfl (by decide) False (fun kz => kz < wb.heap.size ∨ wo.heap.size < kz) wo wr.heap.size _ ((x.states.take j).map St.d) [s.d] j 1 1 (j + 1) rfl (by exact (NN.out.f1.bld.own.later X5.out)) (by simp; rw [← Sn.out]; omega) (some ⟨w4.heap.size, 0, none⟩) (by rfl) [d0, d1, d2, d3] (fun a ha => by cases ha; exact N5.out) (fun e => by cases e) (by simp [St.d]) rfl (by rw [List.flatten_cons, List.flatten_nil, List.append_nil]; exact HL5.out) rfl (by unfold maxLen; omega) (by omega) ?_
                  intro ao6 cv6 w6 hO6 hg6 hb6
                  obtain ⟨hCN, hc6, hf6⟩ := NN.out.push X5.out hO6 hg6 hb6
                  have CN := Lib.hid hCN
                  have K6 : Hid (∀ (b i : Nat) (u : Value), b < w.heap.size → w5.cell? ⟨b, i, none⟩ = some u → w6.cell? ⟨b, i, none⟩ = some u) := Lib.hid (fun b i u hb hu => grown_at hg6 (fun e => by have := (NN.out.f1.bld.own.ge _ e).1; have := Hwz.out; have := Hwz1.out; omega) hu)
                  have v0 := K6.out _ _ _ (by have := Hwz1.out; omega) (QS.out _ X5.out).1
                  have v1 := K6.out _ _ _ (by have := Hwz1.out; have := Hb4.out; omega) (QS.out _ X5.out).2.1
                  have v2 := K6.out _ _ _ (by have := Hwz1.out; have := Hb4.out; omega) (QS.out _ X5.out).2.2.1
                  have v3 := K6.out _ _ _ (by have := Hwz1.out; have := Hb4.out; omega) (QS.out _ X5.out).2.2.2.1
                  have v4 := K6.out _ _ _ (by have := Hwz1.out; have := Hb4.out; omega) (QS.out _ X5.out).2.2.2.2
                  clear hO6 hg6 hb6 hCN
                  refine hK.out _ _ ?_ (fun hHeld => ?_)
                  · exact ⟨v0, v1, v2, v3, v4⟩
                  clear hK K
                  try simp only [Act.put, List.getElem_toArray, List.getElem_cons_zero, List.getElem_cons_succ, List.setIfInBounds_toArray, List.set_cons_zero, List.set_cons_succ]
                  refine tq 13 ?_
                  refine rd 14 fun K hK => ?_
                  go_simp
                  refine hK.out _ _ ?_ (fun hHeld => ?_)
                  · exact ⟨by rw [World.cell?_setCell_other _ _ _ _ (by have := Hwz.out; have := Hwz1.out; have := Hb4.out; simp <;> omega)]; exact v0, by rw [World.cell?_setCell_other _ _ _ _ (by have := Hwz.out; have := Hwz1.out; have := Hb4.out; simp <;> omega)]; exact v1, by rw [World.cell?_setCell_other _ _ _ _ (by have := Hwz.out; have := Hwz1.out; have := Hb4.out; simp <;> omega)]; exact v2, by rw [World.cell?_setCell_other _ _ _ _ (by have := Hwz.out; have := Hwz1.out; have := Hb4.out; simp <;> omega)]; exact v3, by rw [World.cell?_setCell_other _ _ _ _ (by have := Hwz.out; have := Hwz1.out; have := Hb4.out; simp <;> omega)]; exact v4⟩
                  clear hK K
                  try simp only [Act.put, List.getElem_toArray, List.getElem_cons_zero, List.getElem_cons_succ, List.setIfInBounds_toArray, List.set_cons_zero, List.set_cons_succ]
                  refine wpAnyH_done (by kernel_rfl) ?_ _
                  go_wp2_with fail
                  go_roundw
                  case rel =>
                    refine ⟨j + 1, .slice ao6 (j + 1) cv6, by go_num, by omega, ?_⟩
                    rw [List.take_add_one, Hs.out]
                    exact CN.out
                  case measure => simp [intOf]; omega
          · have hlj' : ¬ (j : Int) < sn := by omega
            have EndS : Hid (x.states.take j = x.states) := Lib.hid (List.take_of_length_le (by rw [← Sn.out]; omega))
            have O9 := Lib.hid (BB.out.own.later BW.out)
            have HW9 := Lib.hid (NN.out.f1.bld.holds)
            obtain ⟨wZ, hwZ⟩ : ∃ wZ, wZ = wr.alloc (.cells #[.int .i64 q0, .slice va j vc] 68) := ⟨_, rfl⟩
            have hbZ : Below wr.heap.size wr wZ := by rw [hwZ]; exact below_new _ _
            have hZ := below_step BW.out.size BW.out hbZ
            have OZ := Lib.hid (BB.out.own.later hZ)
            have C1 := Lib.hid (show ∀ a0 : Addr, some (⟨wr.heap.size, 0, none⟩ : Addr) = some a0 → ∀ (j0 : Nat) (u : Value), [Value.int .i64 q0, .slice va j vc][j0]? = some u → wZ.cell? (a0.add j0) = some u from fun a0 ha j0 u hj0 => by
              cases ha
              rw [hwZ, Go.WideShapes.add_plain, Nat.zero_add, World.cell?_alloc_at _ _ _ _ rfl, List.getElem?_toArray]
              exact hj0)
            have hlw : wo.heap.size < wr.heap.size := World.block_lt_of_cell? wr _ c0
            have HLZ := Lib.hid (show HoldsL False (fun kz => refP wb w kz ∧ (Value.slice qa k qc).ownBlock ≠ some kz ∧ (False → wo.heap.size ≤ kz)) wZ [.int .i64 q0, .slice va j vc] x.d from by
              show HoldsL False _ wZ _ [dI x.start, dStates x.states]
              rw [← Q0.out]
              refine consF' (.atom _ _ _ rfl) (consF' ?_ (hasL_nil _ _ _))
              have := (HW9.out.later hbZ).wide (P' := fun kz => refP wb w kz ∧ (Value.slice qa k qc).ownBlock ≠ some kz ∧ (False → wo.heap.size ≤ kz)) (fun kz _ (hkz : kz < wb.heap.size ∨ wo.heap.size < kz) => ⟨(by have h4 : w.heap.size ≤ wo.heap.size := Hwz0.out; exact hkz.elim .inl (fun h => .inr (by omega))), fun e => by have h3 := Hwz1.out; have h1 := BB.out.own.blk kz e; have h2 := (BB.out.own.ge kz e).1; omega, fun f => f.elim⟩)
              rw [EndS.out] at this
              have hl : j = x.states.length := by rw [← Sn.out]; omega
              exact this)
            have WZ := Lib.hid hwZ
            have HZ := Lib.hid hZ
            clear hbZ hZ hlw hwZ
            go_wp2_with (at_builtin; go_loud (rw [← WZ.out]; refine appL rfl _ _ 36 68 iN (.agg #[.int .i64 0, .slice none 0 0]) 2 32 rfl Try.underlying36 hiN hzN hsN hbN rfl (by decide) False (refP wb w) w wo.heap.size _ ((M.take k).map Nd.d) [x.d] k 1 1 (k + 1) rfl OZ.out (by simp; rw [← TL.out]; omega) (some ⟨wr.heap.size, 0, none⟩) rfl [.int .i64 q0, .slice va j vc] C1.out (fun e => by cases e) (by simp [Nd.d]) rfl (by rw [List.flatten_cons, List.flatten_nil, List.append_nil]; exact HLZ.out) rfl (by unfold maxLen; omega) (by omega) ?_))
            intro ao cv w13 hO13 hg13 hb13
            have hO13' : Own False (refP wb w) 68 2 w w13.heap.size w13 (.slice ao (k + 1) cv) ((M.take (k + 1)).map Nd.d) := by
              rw [List.take_add_one, Hx.out]
              simpa using hO13
            have B13 := Lib.hid (Bld.of hO13' BB.out.inP hb13 (.inr (by have := HZ.out.size; have := Hwz0.out; omega)))
            clear hO13 hO13' hg13 hb13
            go_wp2_with fail
            go_roundw
            case rel => exact ⟨k + 1, by go_num, by omega, B13.out⟩
            case measure => simp [intOf]; omega
    · have hlt' : ¬ (k : Int) < tl := by omega
      have EndT : Hid (M.take k = M) := Lib.hid (List.take_of_length_le (by rw [← TL.out]; omega))
      go_wp2_with fail
      go_ret
      exact ⟨_, rfl, by have := BB.out.holds; rw [EndT.out] at this; have hl : k = M.length := by rw [← EndT.out, List.length_take, ← TL.out]; omega
                        exact this, BB.out.own.bel⟩
end Go.Proofs.Ytennbiajnkobnaa

