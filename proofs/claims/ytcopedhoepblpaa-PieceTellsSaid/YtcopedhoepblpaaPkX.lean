/- The document's Decode. Written by gen_rdecode3.py. -/
import Derived.Test.YtcopedhoepblpaaPkW
import Derived.Test.YtcopedhoepblpaaPkR
import Derived.Deep.CutBlock
set_option linter.unusedSimpArgs false
set_option linter.unusedVariables false
set_option maxRecDepth 100000
namespace Go.Proofs.Ytcopedhoepblpaa
open Go.RowKit Go.PlainAid
theorem grown_set (w : World) (b o : Nat) (u : Value) : w.grownBy (w.setCell ⟨b, o, none⟩ u) (some b) := ⟨rfl, rfl, rfl, by simp, fun q _ hk => Below.heap_setCell _ _ _ _ (fun e => hk (congrArg some e))⟩
theorem SameOn.grown {P : Nat → Prop} {w w1 w2 : World} {row : Option Nat} (h : SameOn P w w1) (hg : w1.grownBy w2 row) (hr : ∀ k, row = some k → ¬ (P k ∧ k < w.heap.size)) : SameOn P w w2 :=
  ⟨Nat.le_trans h.1 hg.size, fun b hP hb => (hg.block b (Nat.lt_of_lt_of_le hb h.1) (fun e => hr b e.symm ⟨hP, hb⟩)).trans (h.2 b hP hb)⟩
/-- The piece under way, and the answer's box. -/
structure DcB (RB bP bR : Nat) (us : List Value) (w : World) : Prop where
  box : BoxAt bP us w
  frz : ∀ i, w.frozen? ⟨bP, i, none⟩ = false
  res : BoxAt bR Z6 w
  rfz : ∀ i, w.frozen? ⟨bR, i, none⟩ = false
  lt : bP < w.heap.size ∧ bR < w.heap.size
  ne : bP ≠ RB ∧ bR ≠ RB ∧ bP ≠ bR
theorem BoxAt.grown {b : Nat} {us : List Value} {w w' : World} {row : Option Nat} (h : BoxAt b us w) (hl : b < w.heap.size) (hg : w.grownBy w' row) (hr : row ≠ some b) : BoxAt b us w' := fun i v e => (World.cell?_of_block (a := ⟨b, i, none⟩) (hg.block b hl (fun e => hr e.symm))).trans (h i v e)
theorem DcB.grown {RB bP bR : Nat} {us : List Value} {w w' : World} {row : Option Nat} (h : DcB RB bP bR us w) (hg : w.grownBy w' row) (h1 : row ≠ some bP) (h2 : row ≠ some bR) : DcB RB bP bR us w' :=
  ⟨h.box.grown h.lt.1 hg h1, fun i => (World.frozen?_of_block (a := ⟨bP, i, none⟩) (hg.block bP h.lt.1 (fun e => h1 e.symm))).trans (h.frz i), h.res.grown h.lt.2 hg h2, fun i => (World.frozen?_of_block (a := ⟨bR, i, none⟩) (hg.block bR h.lt.2 (fun e => h2 e.symm))).trans (h.rfz i),
    ⟨Nat.lt_of_lt_of_le h.lt.1 hg.size, Nat.lt_of_lt_of_le h.lt.2 hg.size⟩, h.ne⟩
theorem DcB.near {RB bP bR : Nat} {us : List Value} {w w' : World} (h : DcB RB bP bR us w) (hg : w.grownBy w' (some RB)) : DcB RB bP bR us w' := h.grown hg (fun e => h.ne.1 (Option.some.inj e).symm) (fun e => h.ne.2.1 (Option.some.inj e).symm)
theorem DcB.later {RB bP bR : Nat} {us : List Value} {w w' : World} (h : DcB RB bP bR us w) (hb : Below w.heap.size w w') : DcB RB bP bR us w' := h.grown (grown_of_below hb none) (by simp) (by simp)
theorem DcB.put {RB bP bR i : Nat} {us : List Value} {w : World} (h : DcB RB bP bR us w) (hi : i < us.length) (u : Value) : DcB RB bP bR (us.set i u) (w.setCell ⟨bP, i, none⟩ u) := by
  refine ⟨fun j v e => ?_, fun j => by rw [World.frozen?_setCell]; exact h.frz j, h.res.same (P := fun k => k ≠ bP) ((SameOn.refl _ _).set _ _ (fun hh => hh rfl)) (fun e => h.ne.2.2 e.symm), fun j => by rw [World.frozen?_setCell]; exact h.rfz j, by simpa using h.lt, h.ne⟩
  rw [List.getElem?_set] at e
  split at e
  · next hij =>
    subst hij
    cases e
    exact World.cell?_setCell_same w _ _ (h.box i _ (List.getElem?_eq_getElem hi))
  · next hij => exact (World.cell?_setCell_other w _ _ _ (by simp <;> omega)).trans (h.box j v e)
theorem keep_near {P : Nat → Prop} {w w' : World} {v : Value} {d : D} {RB bP bR : Nat} (h : Holds False P w v d) (hg : w.grownBy w' (some RB)) (hP : ∀ q, P q → q ≠ RB ∧ q ≠ bP ∧ q ≠ bR) : Holds False (fun q => q < w'.heap.size ∧ q ≠ RB ∧ q ≠ bP ∧ q ≠ bR) w' v d :=
  (h.same (w' := w') ⟨hg.size, fun b hb hlt => hg.block b hlt (fun e => (hP b hb).1 (Option.some.inj e))⟩).wide (fun q hq hp => ⟨hq, hP q hp⟩)
/-- What the document's Decode tells. -/
def RDecTold (r : Pc × Int) (w : World) (e : Ending) (w' : World) : Prop := ∃ v1 v2 v3, e = .returned (.tuple #[pcv r.1 v1 v2 v3, .int .i64 r.2]) ∧ HoldsL False All w' [v1, v2, v3] r.1.d ∧ Below w.heap.size w w'
set_option maxHeartbeats 16000000 in
theorem rdecode_at (s : ByteArray) (w : World) (hs : s.size ≤ 1000) : Calls Try.prog 14 #[.string s] w (RDecTold (decR s) w) := by
  obtain ⟨i0, hi0, hz0, hs0, hby0⟩ := info_parts infoInt
  obtain ⟨iM, hiM, hzM, hsM, hbyM⟩ := info_parts infoMsgI
  obtain ⟨iL, hiL, hzL, hsL, hbyL⟩ := info_parts infoMsgsI
  obtain ⟨iO, hiO, hzO, hsO, hbyO⟩ := info_parts infoIntsI
  go_enter Try.func14, Try.ntmps14
  go_upto_region 1 with fail
  obtain ⟨bR, hbR⟩ : ∃ b, b = w.heap.size := ⟨_, rfl⟩
  obtain ⟨y0, hy0⟩ : ∃ y, y = w.alloc (.cells #[.int .i64 0, .int .i64 0, .int .i64 0, .slice none 0 0, .slice none 0 0, .slice none 0 0] 32) := ⟨_, rfl⟩
  have B0 : Hid (Below w.heap.size w y0) := Lib.hid (by rw [hy0]; exact below_new _ _)
  have K0 : Hid (BoxAt bR Z6 y0) := Lib.hid (by rw [hbR, hy0]; exact boxAt_new w Z6 _)
  have F0 : Hid (∀ i, y0.frozen? ⟨bR, i, none⟩ = false) := Lib.hid (fun i => by rw [hbR, hy0]; exact frozen_new w _ _ i)
  have L0 : Hid (bR < y0.heap.size ∧ w.heap.size ≤ bR) := Lib.hid (by rw [hbR, hy0, size_new]; omega)
  rw [← hy0, ← hbR]
  clear hy0 hbR
  go_wp2_with fail
  refine (rall_any s _ (by omega)).mono ?_
  rintro e w1 ⟨v, rfl, hO, hb⟩
  have hI := has_of_ints (IntsAt.owns hO)
  have B1 := Lib.hid hb
  have K1 : Hid (BoxAt bR Z6 w1) := Lib.hid (K0.out.below hb)
  have F1 : Hid (∀ i, w1.frozen? ⟨bR, i, none⟩ = false) := Lib.hid (fun i => (hb.frozen (p := ⟨bR, i, none⟩) L0.out.1).trans (F0.out i))
  have hll := allR_len' s
  by_cases hz : (allR s).1 = 0
  · obtain ⟨l, hl⟩ : ∃ l, l = (allR s).2 := ⟨_, rfl⟩
    rw [← hl] at hI hll
    rw [hz]
    have LQ := Lib.hid hl
    have ZQ := Lib.hid hz
    obtain ⟨la, lc, e⟩ := slice_of (f := fun a => [dI a]) hI
    subst e
    obtain ⟨nl, hnl⟩ : ∃ n, n = l.length := ⟨_, rfl⟩
    rw [← hnl] at hI hll ⊢
    have NLQ := Lib.hid hnl
    have hz' : ((0 : Int) == 0) = true := rfl
    obtain ⟨RB, hRB⟩ : ∃ b, b = w1.heap.size := ⟨_, rfl⟩
    obtain ⟨w2, hw2⟩ : ∃ y, y = w1.alloc (.cells #[.slice la nl lc, .int .i64 0] 63) := ⟨_, rfl⟩
    have RX0 : Hid (RxAt w1 RB l l 0 w2) := Lib.hid (by rw [hw2, hRB]; exact ⟨below_new _ _, Nat.le_refl _, 0, nl, la, lc, hnl, Nat.le_refl _, rfl, heap_alloc_new w1 _, hI⟩)
    have B2 : Hid (Below w1.heap.size w1 w2) := Lib.hid (by rw [hw2]; exact below_new _ _)
    have hlw : bR < w1.heap.size := Nat.lt_of_lt_of_le L0.out.1 B1.out.size
    have RBL : Hid (bR < RB ∧ RB < w2.heap.size ∧ w1.heap.size ≤ RB) := Lib.hid (by rw [hw2, hRB, size_new]; omega)
    have K2 : Hid (BoxAt bR Z6 w2) := Lib.hid (K1.out.below B2.out)
    have F2 : Hid (∀ i, w2.frozen? ⟨bR, i, none⟩ = false) := Lib.hid (fun i => (B2.out.frozen (p := ⟨bR, i, none⟩) hlw).trans (F1.out i))
    have hln : l.length ≤ 1000000 := by omega
    have HLN := Lib.hid hln
    clear hI hO hb hl hz hnl K1 F1 K0 F0
    go_upto_region 5 with fail
    rw [← hw2, ← hRB]
    clear hw2 hRB hlw hz'
    obtain ⟨m0, hm0⟩ : ∃ m, m = hdI l := ⟨_, rfl⟩
    obtain ⟨m1, hm1⟩ : ∃ m, m = hdI l.tail := ⟨_, rfl⟩
    obtain ⟨m2, hm2⟩ : ∃ m, m = hdI l.tail.tail := ⟨_, rfl⟩
    have NX0 := Lib.hid (rnext_at w1 w2 RB 0 l l RX0.out hln (by omega))
    rw [← hm0] at NX0
    have M0 := Lib.hid hm0
    have M1 := Lib.hid hm1
    have M2 := Lib.hid hm2
    clear hm0 hm1 hm2 hln
    go_wp2_with fail
    refine NX0.out.mono ?_
    rintro e w3 ⟨rfl, h3, g3⟩
    have G3 := Lib.hid g3
    have NX1 := Lib.hid (rnext_at w1 w3 RB 1 l l.tail h3 HLN.out (by omega))
    rw [← M1.out] at NX1
    clear h3 g3 NX0
    go_wp2_with fail
    refine NX1.out.mono ?_
    rintro e w4 ⟨rfl, h4, g4⟩
    have G4 := Lib.hid (near_step G3.out g4 (fun k e => .inr (Option.some.inj e).symm))
    have NX2 := Lib.hid (rnext_at w1 w4 RB 2 l l.tail.tail h4 HLN.out (by omega))
    rw [← M2.out] at NX2
    clear h4 g4 NX1 G3
    go_wp2_with fail
    refine NX2.out.mono ?_
    rintro e w5 ⟨rfl, h5, g5⟩
    have G5 := Lib.hid (near_step G4.out g5 (fun k e => .inr (Option.some.inj e).symm))
    have RX5 := Lib.hid h5
    clear h5 g5 NX2 G4
    go_upto_region 6 with fail
    obtain ⟨bP, hbP⟩ : ∃ b, b = w5.heap.size := ⟨_, rfl⟩
    obtain ⟨w6, hw6⟩ : ∃ y, y = w5.alloc (.cells #[.int .i64 m0, .int .i64 m1, .int .i64 m2, .slice none 0 0, .slice none 0 0, .slice none 0 0] 32) := ⟨_, rfl⟩
    have B6 : Hid (Below w5.heap.size w5 w6) := Lib.hid (by rw [hw6]; exact below_new _ _)
    have hb25 := G5.out.size
    have hrw2 : bR < w2.heap.size := by have := RBL.out; omega
    have DC6 : Hid (DcB RB bP bR [.int .i64 m0, .int .i64 m1, .int .i64 m2, .slice none 0 0, .slice none 0 0, .slice none 0 0] w6) := Lib.hid (by
      have hne : (some RB : Option Nat) ≠ some bR := fun e => by have := Option.some.inj e; have := RBL.out; omega
      refine ⟨by rw [hbP, hw6]; exact boxAt_new w5 [.int .i64 m0, .int .i64 m1, .int .i64 m2, .slice none 0 0, .slice none 0 0, .slice none 0 0] _, fun i => by rw [hbP, hw6]; exact frozen_new _ _ _ i,
        (K2.out.grown hrw2 G5.out hne).below B6.out, fun i => (B6.out.frozen (p := ⟨bR, i, none⟩) (by show bR < _; omega)).trans ((World.frozen?_of_block (a := ⟨bR, i, none⟩) (G5.out.block bR hrw2 (fun e => hne e.symm))).trans (F2.out i)),
        by rw [hw6, size_new, hbP]; omega, by have := RBL.out; omega⟩)
    have RX6 := Lib.hid (RX5.out.later B6.out)
    rw [← hw6, ← hbP]
    have GE : Hid (w1.heap.size ≤ bP) := Lib.hid (by have := RBL.out; omega)
    clear hw6 hbP hb25 hrw2 K2 F2 RX5
    have BW6 : Hid (Below w.heap.size w w6) := Lib.hid (below_step' (below_step' B0.out B1.out) RX6.out.bel)
    obtain ⟨n0, hn0⟩ : ∃ m, m = hdI l.tail.tail.tail := ⟨_, rfl⟩
    have N0 := Lib.hid hn0
    have NX3 := Lib.hid (rnext_at w1 w6 RB 3 l l.tail.tail.tail RX6.out HLN.out (by omega))
    rw [← hn0] at NX3
    clear hn0 RX6
    go_wp2_with fail
    refine NX3.out.mono ?_
    rintro e w7 ⟨rfl, h7, g7⟩
    have RX7 := Lib.hid h7
    have DC7 := Lib.hid (DC6.out.near g7)
    clear h7 g7 NX3 DC6
    obtain ⟨r4, hr4⟩ : ∃ r, r = l.tail.tail.tail.tail := ⟨_, rfl⟩
    rw [← hr4] at RX7
    have R4 := Lib.hid hr4
    clear hr4
    have RXG : Hid (w1.heap.size ≤ RB ∧ bR < RB) := Lib.hid (by have := RBL.out; omega)
    have hb1 : RB < w7.heap.size ∧ bP < w7.heap.size ∧ w1.heap.size ≤ w7.heap.size := ⟨RX7.out.lt, DC7.out.lt.1, RX7.out.bel.size⟩
    have HB1 := Lib.hid hb1
    clear hb1
    go_upto_block 0 with fail
    go_cut [] from 20 (fun wz => ∃ (j : Nat) (acc rr : List Int) (va : Option Addr) (vc : Nat), j ≤ 5 ∧ rdS l = (acc, rr) ∧ Holds False (fun q => w7.heap.size ≤ q) wz (.slice va j vc) (.row 1 (acc.map dIx)) ∧ RxAt w1 RB l rr 9 wz ∧ DcB RB bP bR [.int .i64 m0, .int .i64 m1, .int .i64 m2, .slice va j vc, .slice none 0 0, .slice none 0 0] wz ∧ w7.heap.size ≤ wz.heap.size)
    case first =>
     go_upto_region 8 with fail
     obtain ⟨c1, hc1⟩ : ∃ c, c = cntI n0 5 := ⟨_, rfl⟩
     have C1 := Lib.hid hc1
     have hc1' : (c1 : Int) = max (min n0 5) 0 := by rw [hc1]; unfold cntI; split <;> omega
     clear hc1
     go_loopw [9] (fun i wr => ∃ (j : Nat) (acc rr : List Int) (va : Option Addr) (vc : Nat), i = .int .i64 j ∧ j ≤ c1 ∧ rdTimes rdN j r4 = (acc, rr) ∧ acc.length = j ∧ Bld False (fun q => w7.heap.size ≤ q) 3 1 w1 wr.heap.size wr (.slice va j vc) (acc.map dIx) ∧
       RxAt w1 RB l rr (4 + j) wr ∧ DcB RB bP bR [.int .i64 m0, .int .i64 m1, .int .i64 m2, .slice va j vc, .slice none 0 0, .slice none 0 0] wr ∧ w7.heap.size ≤ wr.heap.size) (fun i _ => c1 - (intOf i).toNat)
     case atStart => exact ⟨0, [], r4, none, 0, rfl, by omega, rfl, rfl, ⟨Own.nil RX7.out.bel, fun k hk => by simp [Value.ownBlock] at hk⟩, RX7.out, DC7.out, Nat.le_refl _⟩
     case round =>
       obtain ⟨j, acc, rr, va, vc, rfl, hj, hrd, hlen, hB, hR, hD, hsw⟩ := hrel
       obtain ⟨wr1, hw1⟩ : ∃ x, x = wr := ⟨_, rfl⟩
       subst hw1
       have RD := Lib.hid hrd
       have LEN := Lib.hid hlen
       have HB := Lib.hid hB
       have HR := Lib.hid hR
       have HD := Lib.hid hD
       have SZ1 := Lib.hid hsw
       clear RX7 DC7 hsw
       by_cases hlt : j < c1
       · have hA : (j : Int) < n0 := by omega
         have hA5 : (j : Int) < 5 := by omega
         have RN := Lib.hid (rd_next rdN j r4 hrd)
         have hj5 : j < 5 := by omega
         clear hrd hlen hB hR hD
         go_upto_region 10 with fail
         have NX := Lib.hid (fun y (h : RxAt w1 RB l rr (4 + j) y) => rnext_at w1 y RB (4 + j) l rr h HLN.out (by omega))
         obtain ⟨x, hx⟩ : ∃ x, x = hdI rr := ⟨_, rfl⟩
         have XQ : Hid (x = (rdN rr).1) := Lib.hid hx
         rw [← hx] at NX
         clear hx
         refine wp_region_held_drew (S := fun _ => True) (by kernel_rfl) trivial (fun hHeld => ?_)
         obtain ⟨y1, hy1⟩ : ∃ y, y = wr1.drew := ⟨_, rfl⟩
         rw [← hy1]
         have C0 : Hid (Below wr1.heap.size wr1 y1) := Lib.hid (by rw [hy1]; exact below_drewN (Below.refl wr1.heap.size wr1) 1)
         clear hy1
         refine tq 0 ?_
         refine tq 2 ?_
         refine wpAnyH_ready (rs := [1, 3]) (by kernel_rfl) (by simp) ?_
         refine AllReadyH.cons rfl (fun K hK => ?_) (AllReadyH.cons rfl (fun K hK => ?_) AllReadyH.nil)
         · have kc := (HD.out.later C0.out).box 3 _ rfl
           go_simp
           clear kc
           refine hK.out _ _ trivial (fun hHeld => ?_)
           clear hK K
           try simp only [Act.put, List.getElem_toArray, List.getElem_cons_zero, List.getElem_cons_succ, List.setIfInBounds_toArray, List.set_cons_zero, List.set_cons_succ]
           refine wpAnyH_ready (rs := [3]) (by kernel_rfl) (by simp) ?_
           refine AllReadyH.cons rfl (fun K hK => ?_) AllReadyH.nil
           go_simp
           refine (NX.out _ (HR.out.later C0.out)).mono ?_
           rintro e w2 ⟨rfl, h2, g2⟩
           have R2 := Lib.hid h2
           have G2 := Lib.hid g2
           clear h2 g2
           go_wp2_with fail
           refine hK.out _ _ trivial (fun hHeld => ?_)
           clear hK K
           try simp only [Act.put, List.getElem_toArray, List.getElem_cons_zero, List.getElem_cons_succ, List.setIfInBounds_toArray, List.set_cons_zero, List.set_cons_succ]
           refine wpAnyH_ready (rs := [4]) (by kernel_rfl) (by simp) ?_
           refine AllReadyH.cons rfl (fun K hK => ?_) AllReadyH.nil
           go_simp
           refine hK.out _ _ trivial (fun hHeld => ?_)
           clear hK K
           try simp only [Act.put, List.getElem_toArray, List.getElem_cons_zero, List.getElem_cons_succ, List.setIfInBounds_toArray, List.set_cons_zero, List.set_cons_succ]
           obtain ⟨wq, hwq⟩ : ∃ y, y = w2.alloc (.cells #[.int .i64 x] 3) := ⟨_, rfl⟩
           have BN : Hid (Below w2.heap.size w2 wq) := Lib.hid (by rw [hwq]; exact below_new _ _)
           have cx : wq.cell? ⟨w2.heap.size, 0, none⟩ = some (.int .i64 x) := by rw [hwq]; exact World.cell?_alloc_at _ _ _ _ rfl
           rw [← hwq]
           clear hwq
           have CX := Lib.hid cx
           have HB2 := Lib.hid ((((HB.out.later' C0.out).near G2.out RXG.out.1 (fun k (hk : w7.heap.size ≤ k) e => by have := HB1.out; omega))).later' BN.out)
           have D2 := Lib.hid (((HD.out.later C0.out).near G2.out).later BN.out)
           have R3 := Lib.hid (R2.out.later BN.out)
           have hsz : w7.heap.size ≤ wq.heap.size := by have := SZ1.out; have := C0.out.size; have := G2.out.size; have := BN.out.size; omega
           clear cx R2 G2
           refine wpAnyH_ready (rs := [5]) (by kernel_rfl) (by simp) ?_
           refine AllReadyH.cons rfl (fun K hK => ?_) AllReadyH.nil
           refine appS rfl _ _ 22 3 i0 (.int .i64 0) 1 8 rfl Try.underlying22 hi0 hz0 hs0 hby0 rfl (by decide) False (fun q => w7.heap.size ≤ q) w1 wq.heap.size _ (acc.map dIx) [dIx x] j 1 1 (j + 1) rfl HB2.out.own (by rw [List.length_map]; exact LEN.out) (some ⟨w2.heap.size, 0, none⟩) rfl [.int .i64 x] (fun a ha t u hu => by
             cases ha
             match t, hu with
             | 0, hu => cases hu; exact CX.out) (fun e => by cases e) (by intro ds hds; rw [List.mem_singleton] at hds; subst hds; rfl) rfl (by rw [List.flatten_cons, List.flatten_nil, List.append_nil]; exact hl_int hl_nil) rfl (by unfold maxLen; omega) (by omega) ?_
           intro ao cv w3 hO hg3 hb3
           have B3 := Lib.hid (Bld.of (w := wq) hO HB2.out.inP hb3 hsz)
           have INP : Hid (∀ k, (Value.slice va j vc).ownBlock = some k → w7.heap.size ≤ k) := Lib.hid HB2.out.inP
           have R4' := Lib.hid (R3.out.grown hg3 (fun e => by have := INP.out _ e; have := HB1.out; omega) (fun k e => by have := INP.out _ e; have := HB1.out; omega))
           have D3 := Lib.hid (D2.out.grown hg3 (fun e => by have := INP.out _ e; have := HB1.out; omega) (fun e => by have := INP.out _ e; have := HB1.out; have := RXG.out.2; omega))
           have SZ3 : Hid (w7.heap.size ≤ w3.heap.size) := Lib.hid (by have := hg3.size; omega)
           refine hK.out _ _ trivial (fun hHeld => ?_)
           clear hK K hO hg3 hb3 HB2 D2 R3 INP BN CX
           try simp only [Act.put, List.getElem_toArray, List.getElem_cons_zero, List.getElem_cons_succ, List.setIfInBounds_toArray, List.set_cons_zero, List.set_cons_succ]
           refine tq 6 ?_
           refine wpAnyH_ready (rs := [7]) (by kernel_rfl) (by simp) ?_
           refine AllReadyH.cons rfl (fun K hK => ?_) AllReadyH.nil
           have kc := D3.out.box 3 _ rfl
           have kf := D3.out.frz 3
           go_simp
           clear kc kf
           refine hK.out _ _ trivial (fun hHeld => ?_)
           clear hK K
           try simp only [Act.put, List.getElem_toArray, List.getElem_cons_zero, List.getElem_cons_succ, List.setIfInBounds_toArray, List.set_cons_zero, List.set_cons_succ]
           refine wpAnyH_done (by kernel_rfl) ?_ _
           have B5 := Lib.hid (B3.out.set ⟨bP, 3, none⟩ (.slice ao (j + 1) cv) (fun (h : w7.heap.size ≤ bP) => by have := HB1.out; omega) GE.out)
           have R5 := Lib.hid (R4'.out.set bP 3 (.slice ao (j + 1) cv) D3.out.ne.1 GE.out)
           have D5 := Lib.hid (D3.out.put (i := 3) (by simp) (.slice ao (j + 1) cv))
           have S5 : Hid (w7.heap.size ≤ (w3.setCell ⟨bP, 3, none⟩ (.slice ao (j + 1) cv)).heap.size) := Lib.hid (by simpa using SZ3.out)
           clear B3 R4' D3
           go_wp2_with fail
           go_roundw
           case rel => exact ⟨j + 1, acc ++ [(rdN rr).1], (rdN rr).2, ao, cv, by go_num, by omega, RN.out, by rw [List.length_append, LEN.out]; rfl, by rw [List.map_append]; simpa using XQ.out ▸ B5.out, R5.out, D5.out, S5.out⟩
           case measure => simp [intOf]; omega
         · go_simp
           refine (NX.out _ (HR.out.later C0.out)).mono ?_
           rintro e w2 ⟨rfl, h2, g2⟩
           have R2 := Lib.hid h2
           have G2 := Lib.hid g2
           clear h2 g2
           go_wp2_with fail
           refine hK.out _ _ trivial (fun hHeld => ?_)
           clear hK K
           try simp only [Act.put, List.getElem_toArray, List.getElem_cons_zero, List.getElem_cons_succ, List.setIfInBounds_toArray, List.set_cons_zero, List.set_cons_succ]
           refine wpAnyH_ready (rs := [1, 4]) (by kernel_rfl) (by simp) ?_
           refine AllReadyH.cons rfl (fun K hK => ?_) (AllReadyH.cons rfl (fun K hK => ?_) AllReadyH.nil)
           · have kc := ((HD.out.later C0.out).near G2.out).box 3 _ rfl
             go_simp
             clear kc
             refine hK.out _ _ trivial (fun hHeld => ?_)
             clear hK K
             try simp only [Act.put, List.getElem_toArray, List.getElem_cons_zero, List.getElem_cons_succ, List.setIfInBounds_toArray, List.set_cons_zero, List.set_cons_succ]
             refine wpAnyH_ready (rs := [4]) (by kernel_rfl) (by simp) ?_
             refine AllReadyH.cons rfl (fun K hK => ?_) AllReadyH.nil
             go_simp
             refine hK.out _ _ trivial (fun hHeld => ?_)
             clear hK K
             try simp only [Act.put, List.getElem_toArray, List.getElem_cons_zero, List.getElem_cons_succ, List.setIfInBounds_toArray, List.set_cons_zero, List.set_cons_succ]
             obtain ⟨wq, hwq⟩ : ∃ y, y = w2.alloc (.cells #[.int .i64 x] 3) := ⟨_, rfl⟩
             have BN : Hid (Below w2.heap.size w2 wq) := Lib.hid (by rw [hwq]; exact below_new _ _)
             have cx : wq.cell? ⟨w2.heap.size, 0, none⟩ = some (.int .i64 x) := by rw [hwq]; exact World.cell?_alloc_at _ _ _ _ rfl
             rw [← hwq]
             clear hwq
             have CX := Lib.hid cx
             have HB2 := Lib.hid ((((HB.out.later' C0.out).near G2.out RXG.out.1 (fun k (hk : w7.heap.size ≤ k) e => by have := HB1.out; omega))).later' BN.out)
             have D2 := Lib.hid (((HD.out.later C0.out).near G2.out).later BN.out)
             have R3 := Lib.hid (R2.out.later BN.out)
             have hsz : w7.heap.size ≤ wq.heap.size := by have := SZ1.out; have := C0.out.size; have := G2.out.size; have := BN.out.size; omega
             clear cx R2 G2
             refine wpAnyH_ready (rs := [5]) (by kernel_rfl) (by simp) ?_
             refine AllReadyH.cons rfl (fun K hK => ?_) AllReadyH.nil
             refine appS rfl _ _ 22 3 i0 (.int .i64 0) 1 8 rfl Try.underlying22 hi0 hz0 hs0 hby0 rfl (by decide) False (fun q => w7.heap.size ≤ q) w1 wq.heap.size _ (acc.map dIx) [dIx x] j 1 1 (j + 1) rfl HB2.out.own (by rw [List.length_map]; exact LEN.out) (some ⟨w2.heap.size, 0, none⟩) rfl [.int .i64 x] (fun a ha t u hu => by
               cases ha
               match t, hu with
               | 0, hu => cases hu; exact CX.out) (fun e => by cases e) (by intro ds hds; rw [List.mem_singleton] at hds; subst hds; rfl) rfl (by rw [List.flatten_cons, List.flatten_nil, List.append_nil]; exact hl_int hl_nil) rfl (by unfold maxLen; omega) (by omega) ?_
             intro ao cv w3 hO hg3 hb3
             have B3 := Lib.hid (Bld.of (w := wq) hO HB2.out.inP hb3 hsz)
             have INP : Hid (∀ k, (Value.slice va j vc).ownBlock = some k → w7.heap.size ≤ k) := Lib.hid HB2.out.inP
             have R4' := Lib.hid (R3.out.grown hg3 (fun e => by have := INP.out _ e; have := HB1.out; omega) (fun k e => by have := INP.out _ e; have := HB1.out; omega))
             have D3 := Lib.hid (D2.out.grown hg3 (fun e => by have := INP.out _ e; have := HB1.out; omega) (fun e => by have := INP.out _ e; have := HB1.out; have := RXG.out.2; omega))
             have SZ3 : Hid (w7.heap.size ≤ w3.heap.size) := Lib.hid (by have := hg3.size; omega)
             refine hK.out _ _ trivial (fun hHeld => ?_)
             clear hK K hO hg3 hb3 HB2 D2 R3 INP BN CX
             try simp only [Act.put, List.getElem_toArray, List.getElem_cons_zero, List.getElem_cons_succ, List.setIfInBounds_toArray, List.set_cons_zero, List.set_cons_succ]
             refine tq 6 ?_
             refine wpAnyH_ready (rs := [7]) (by kernel_rfl) (by simp) ?_
             refine AllReadyH.cons rfl (fun K hK => ?_) AllReadyH.nil
             have kc := D3.out.box 3 _ rfl
             have kf := D3.out.frz 3
             go_simp
             clear kc kf
             refine hK.out _ _ trivial (fun hHeld => ?_)
             clear hK K
             try simp only [Act.put, List.getElem_toArray, List.getElem_cons_zero, List.getElem_cons_succ, List.setIfInBounds_toArray, List.set_cons_zero, List.set_cons_succ]
             refine wpAnyH_done (by kernel_rfl) ?_ _
             have B5 := Lib.hid (B3.out.set ⟨bP, 3, none⟩ (.slice ao (j + 1) cv) (fun (h : w7.heap.size ≤ bP) => by have := HB1.out; omega) GE.out)
             have R5 := Lib.hid (R4'.out.set bP 3 (.slice ao (j + 1) cv) D3.out.ne.1 GE.out)
             have D5 := Lib.hid (D3.out.put (i := 3) (by simp) (.slice ao (j + 1) cv))
             have S5 : Hid (w7.heap.size ≤ (w3.setCell ⟨bP, 3, none⟩ (.slice ao (j + 1) cv)).heap.size) := Lib.hid (by simpa using SZ3.out)
             clear B3 R4' D3
             go_wp2_with fail
             go_roundw
             case rel => exact ⟨j + 1, acc ++ [(rdN rr).1], (rdN rr).2, ao, cv, by go_num, by omega, RN.out, by rw [List.length_append, LEN.out]; rfl, by rw [List.map_append]; simpa using XQ.out ▸ B5.out, R5.out, D5.out, S5.out⟩
             case measure => simp [intOf]; omega
           · go_simp
             refine hK.out _ _ trivial (fun hHeld => ?_)
             clear hK K
             try simp only [Act.put, List.getElem_toArray, List.getElem_cons_zero, List.getElem_cons_succ, List.setIfInBounds_toArray, List.set_cons_zero, List.set_cons_succ]
             refine wpAnyH_ready (rs := [1]) (by kernel_rfl) (by simp) ?_
             refine AllReadyH.cons rfl (fun K hK => ?_) AllReadyH.nil
             have kc := (((HD.out.later C0.out).near G2.out).later (below_new w2 (.cells #[.int .i64 x] 3))).box 3 _ rfl
             go_simp
             clear kc
             refine hK.out _ _ trivial (fun hHeld => ?_)
             clear hK K
             try simp only [Act.put, List.getElem_toArray, List.getElem_cons_zero, List.getElem_cons_succ, List.setIfInBounds_toArray, List.set_cons_zero, List.set_cons_succ]
             obtain ⟨wq, hwq⟩ : ∃ y, y = w2.alloc (.cells #[.int .i64 x] 3) := ⟨_, rfl⟩
             have BN : Hid (Below w2.heap.size w2 wq) := Lib.hid (by rw [hwq]; exact below_new _ _)
             have cx : wq.cell? ⟨w2.heap.size, 0, none⟩ = some (.int .i64 x) := by rw [hwq]; exact World.cell?_alloc_at _ _ _ _ rfl
             rw [← hwq]
             clear hwq
             have CX := Lib.hid cx
             have HB2 := Lib.hid ((((HB.out.later' C0.out).near G2.out RXG.out.1 (fun k (hk : w7.heap.size ≤ k) e => by have := HB1.out; omega))).later' BN.out)
             have D2 := Lib.hid (((HD.out.later C0.out).near G2.out).later BN.out)
             have R3 := Lib.hid (R2.out.later BN.out)
             have hsz : w7.heap.size ≤ wq.heap.size := by have := SZ1.out; have := C0.out.size; have := G2.out.size; have := BN.out.size; omega
             clear cx R2 G2
             refine wpAnyH_ready (rs := [5]) (by kernel_rfl) (by simp) ?_
             refine AllReadyH.cons rfl (fun K hK => ?_) AllReadyH.nil
             refine appS rfl _ _ 22 3 i0 (.int .i64 0) 1 8 rfl Try.underlying22 hi0 hz0 hs0 hby0 rfl (by decide) False (fun q => w7.heap.size ≤ q) w1 wq.heap.size _ (acc.map dIx) [dIx x] j 1 1 (j + 1) rfl HB2.out.own (by rw [List.length_map]; exact LEN.out) (some ⟨w2.heap.size, 0, none⟩) rfl [.int .i64 x] (fun a ha t u hu => by
               cases ha
               match t, hu with
               | 0, hu => cases hu; exact CX.out) (fun e => by cases e) (by intro ds hds; rw [List.mem_singleton] at hds; subst hds; rfl) rfl (by rw [List.flatten_cons, List.flatten_nil, List.append_nil]; exact hl_int hl_nil) rfl (by unfold maxLen; omega) (by omega) ?_
             intro ao cv w3 hO hg3 hb3
             have B3 := Lib.hid (Bld.of (w := wq) hO HB2.out.inP hb3 hsz)
             have INP : Hid (∀ k, (Value.slice va j vc).ownBlock = some k → w7.heap.size ≤ k) := Lib.hid HB2.out.inP
             have R4' := Lib.hid (R3.out.grown hg3 (fun e => by have := INP.out _ e; have := HB1.out; omega) (fun k e => by have := INP.out _ e; have := HB1.out; omega))
             have D3 := Lib.hid (D2.out.grown hg3 (fun e => by have := INP.out _ e; have := HB1.out; omega) (fun e => by have := INP.out _ e; have := HB1.out; have := RXG.out.2; omega))
             have SZ3 : Hid (w7.heap.size ≤ w3.heap.size) := Lib.hid (by have := hg3.size; omega)
             refine hK.out _ _ trivial (fun hHeld => ?_)
             clear hK K hO hg3 hb3 HB2 D2 R3 INP BN CX
             try simp only [Act.put, List.getElem_toArray, List.getElem_cons_zero, List.getElem_cons_succ, List.setIfInBounds_toArray, List.set_cons_zero, List.set_cons_succ]
             refine tq 6 ?_
             refine wpAnyH_ready (rs := [7]) (by kernel_rfl) (by simp) ?_
             refine AllReadyH.cons rfl (fun K hK => ?_) AllReadyH.nil
             have kc := D3.out.box 3 _ rfl
             have kf := D3.out.frz 3
             go_simp
             clear kc kf
             refine hK.out _ _ trivial (fun hHeld => ?_)
             clear hK K
             try simp only [Act.put, List.getElem_toArray, List.getElem_cons_zero, List.getElem_cons_succ, List.setIfInBounds_toArray, List.set_cons_zero, List.set_cons_succ]
             refine wpAnyH_done (by kernel_rfl) ?_ _
             have B5 := Lib.hid (B3.out.set ⟨bP, 3, none⟩ (.slice ao (j + 1) cv) (fun (h : w7.heap.size ≤ bP) => by have := HB1.out; omega) GE.out)
             have R5 := Lib.hid (R4'.out.set bP 3 (.slice ao (j + 1) cv) D3.out.ne.1 GE.out)
             have D5 := Lib.hid (D3.out.put (i := 3) (by simp) (.slice ao (j + 1) cv))
             have S5 : Hid (w7.heap.size ≤ (w3.setCell ⟨bP, 3, none⟩ (.slice ao (j + 1) cv)).heap.size) := Lib.hid (by simpa using SZ3.out)
             clear B3 R4' D3
             go_wp2_with fail
             go_roundw
             case rel => exact ⟨j + 1, acc ++ [(rdN rr).1], (rdN rr).2, ao, cv, by go_num, by omega, RN.out, by rw [List.length_append, LEN.out]; rfl, by rw [List.map_append]; simpa using XQ.out ▸ B5.out, R5.out, D5.out, S5.out⟩
             case measure => simp [intOf]; omega
       · have hgo' : ((j : Int) < n0 ∧ (j : Int) < 5) = False := by simp; omega
         have hjc : j = c1 := by omega
         have SQ : Hid (rdS l = (acc, rr)) := Lib.hid (by
           unfold rdS rdL
           rw [← N0.out, ← C1.out, ← hjc, ← R4.out]
           exact hrd)
         have S3 := Lib.hid (hB.own.holds hB.inP)
         have hj5 : j ≤ 5 := by omega
         clear hrd hlen hB hR hD hjc
         have MT : Hid (∃ (j : Nat) (acc rr : List Int) (va : Option Addr) (vc : Nat), j ≤ 5 ∧ rdS l = (acc, rr) ∧ Holds False (fun q => w7.heap.size ≤ q) wr1 (.slice va j vc) (.row 1 (acc.map dIx)) ∧ RxAt w1 RB l rr 9 wr1 ∧ DcB RB bP bR [.int .i64 m0, .int .i64 m1, .int .i64 m2, .slice va j vc, .slice none 0 0, .slice none 0 0] wr1 ∧ w7.heap.size ≤ wr1.heap.size) := Lib.hid ⟨j, acc, rr, va, vc, hj5, SQ.out, S3.out, HR.out.more (by omega), HD.out, SZ1.out⟩
         clear SQ S3 HR HD HB hj5
         by_cases hA : (j : Int) < n0
         · have hA5 : ¬ (j : Int) < 5 := by omega
           clear hgo'
           go_wp2_with fail
           go_meet
           case rel => exact MT.out
         · clear hgo'
           go_wp2_with fail
           go_meet
           case rel => exact MT.out
    case rest =>
      obtain ⟨j, acc, rr, va, vc, hj5, hsq, hs3, hR, hD, hsw⟩ := hcut
      obtain ⟨wr1, hw1⟩ : ∃ x, x = wc := ⟨_, rfl⟩
      subst hw1
      have SQ := Lib.hid hsq
      have S3 := Lib.hid hs3
      have HR := Lib.hid hR
      have HD := Lib.hid hD
      have SZ1 := Lib.hid hsw
      have HB := Lib.hid True.intro
      have NX := Lib.hid (rnext_at w1 wr1 RB 9 l rr HR.out HLN.out (by omega))
      obtain ⟨n1, hn1⟩ : ∃ m, m = hdI rr := ⟨_, rfl⟩
      rw [← hn1] at NX
      have N1 := Lib.hid hn1
      clear hn1 hsq hs3 hR hD hsw RX7 DC7
      go_wp2_with fail
      refine NX.out.mono ?_
      rintro e w8 ⟨rfl, h8, g8⟩
      have RX8 := Lib.hid h8
      have DC8 := Lib.hid (HD.out.near g8)
      have S8 : Hid (Holds False (fun q => q < w8.heap.size ∧ q ≠ RB ∧ q ≠ bP ∧ q ≠ bR) w8 (.slice va j vc) (.row 1 (acc.map dIx))) := Lib.hid (by
        have h1 := S3.out.wide (P' := fun q => w7.heap.size ≤ q ∧ q < wr1.heap.size) (fun q hq hp => ⟨hp, hq⟩)
        have h2 := h1.same (w' := w8) ⟨g8.size, fun b hb hlt => g8.block b hlt (fun e => by have := Option.some.inj e; have := HB1.out; have := hb.1; omega)⟩
        exact h2.wide (fun q hq hp => ⟨hq, by have := HB1.out; have := hp.1; omega, by have := HB1.out; have := hp.1; omega, by have := HB1.out; have := RXG.out; have := hp.1; omega⟩))
      clear h8 g8 NX HR HD HB S3
      have RX9 := Lib.hid (RX8.out.more (B' := 10) (by omega))
      obtain ⟨r5, hr5⟩ : ∃ r, r = rr.tail := ⟨_, rfl⟩
      rw [← hr5] at RX9
      have R5 := Lib.hid hr5
      clear hr5 RX8
      have HBm : Hid (RB < w8.heap.size ∧ bP < w8.heap.size ∧ w1.heap.size ≤ w8.heap.size ∧ bR < w8.heap.size) := Lib.hid ⟨RX9.out.lt, DC8.out.lt.1, RX9.out.bel.size, DC8.out.lt.2⟩
      go_upto_block 2 with fail
      go_cut [] from 20 (fun wz => ∃ (t : Nat) (acc : List (Lks)) (rr : List Int) (xa : Option Addr) (xc : Nat), t ≤ 5 ∧ rdIn l = (acc, rr) ∧ Holds False (fun q => w8.heap.size ≤ q) wz (.slice xa t xc) (.row 1 (acc.map dLx)) ∧
            RxAt w1 RB l rr (10 + 1001 * 5) wz ∧ DcB RB bP bR [.int .i64 m0, .int .i64 m1, .int .i64 m2, .slice va j vc, .slice xa t xc, .slice none 0 0] wz ∧ w8.heap.size ≤ wz.heap.size ∧ SameOn (fun q => q < w8.heap.size ∧ q ≠ RB ∧ q ≠ bP ∧ q ≠ bR) w8 wz)
      case first =>
       go_upto_region 13 with fail
       obtain ⟨cm, hc⟩ : ∃ c, c = cntI n1 5 := ⟨_, rfl⟩
       have Cm := Lib.hid hc
       have hcm : (cm : Int) = max (min n1 5) 0 := by rw [hc]; unfold cntI; split <;> omega
       clear hc
       go_loopw [10] (fun i wr => ∃ (t : Nat) (acc : List (Lks)) (rr : List Int) (xa : Option Addr) (xc : Nat), i = .int .i64 t ∧ t ≤ cm ∧ rdTimes rdMs t r5 = (acc, rr) ∧ acc.length = t ∧ Bld False (fun q => w8.heap.size ≤ q) 45 1 w1 wr.heap.size wr (.slice xa t xc) (acc.map dLx) ∧
         RxAt w1 RB l rr (10 + 1001 * t) wr ∧ DcB RB bP bR [.int .i64 m0, .int .i64 m1, .int .i64 m2, .slice va j vc, .slice xa t xc, .slice none 0 0] wr ∧ w8.heap.size ≤ wr.heap.size ∧ SameOn (fun q => q < w8.heap.size ∧ q ≠ RB ∧ q ≠ bP ∧ q ≠ bR) w8 wr) (fun i _ => cm - (intOf i).toNat)
       case atStart => exact ⟨0, [], r5, none, 0, rfl, by omega, rfl, rfl, ⟨Own.nil RX9.out.bel, fun k hk => by simp [Value.ownBlock] at hk⟩, RX9.out, DC8.out, Nat.le_refl _, SameOn.refl _ _⟩
       case round =>
         obtain ⟨jm, accm, rrm, vam, vcm, rfl, hj, hrd, hlen, hB, hR, hD, hsw, hso⟩ := hrel
         obtain ⟨wqm, hw1⟩ : ∃ x, x = wr := ⟨_, rfl⟩
         subst hw1
         have LENm := Lib.hid hlen
         have HBB := Lib.hid hB
         have HR := Lib.hid hR
         have HD := Lib.hid hD
         have SZm := Lib.hid hsw
         have SOm := Lib.hid hso
         clear RX9 DC8 hsw hso
         by_cases hlt : jm < cm
         · have hA : (jm : Int) < n1 := by omega
           have hA5 : (jm : Int) < 5 := by omega
           have RN := Lib.hid (rd_next rdMs jm r5 hrd)
           have hj5 : jm < 5 := by omega
           obtain ⟨k0, hk0⟩ : ∃ x, x = hdI rrm := ⟨_, rfl⟩
           have NX := Lib.hid (fun y (h : RxAt w1 RB l rrm (10 + 1001 * jm) y) => rnext_at w1 y RB _ l rrm h HLN.out (by omega))
           rw [← hk0] at NX
           have KQ := Lib.hid hk0
           clear hrd hlen hB hR hD hk0
           have BE := Lib.hid (below_new wqm (.cells #[] 47))
           obtain ⟨we, hwe⟩ : ∃ y, y = wqm.alloc (.cells #[] 47) := ⟨_, rfl⟩
           have OE : Hid (Bld False (fun q => wqm.heap.size ≤ q) 47 2 w1 we.heap.size we (.slice (some ⟨wqm.heap.size, 0, none⟩) 0 0) []) := Lib.hid ⟨by rw [hwe, size_new]; exact Own.made HR.out.bel, fun k hk => by simp [Value.ownBlock] at hk; omega⟩
           rw [← hwe] at BE
           go_wp2_with fail
           rw [← hwe]
           clear hwe
           refine (NX.out _ (HR.out.later BE.out)).mono ?_
           rintro e w3 ⟨rfl, h3, g3⟩
           have R3 := Lib.hid h3
           have G3 := Lib.hid (near_step (near_of_below (Ba := RB) BE.out) g3 (fun k e => .inr (Option.some.inj e).symm))
           have O3 := Lib.hid (OE.out.near g3 RXG.out.1 (fun k (hk : wqm.heap.size ≤ k) e => by have := HBm.out; have := SZm.out; omega))
           obtain ⟨xb, hxb⟩ : ∃ x : Option Addr, x = some ⟨wqm.heap.size, 0, none⟩ := ⟨_, rfl⟩
           rw [← hxb] at O3
           obtain ⟨ci, hci⟩ : ∃ c, c = cntI k0 500 := ⟨_, rfl⟩
           have CI := Lib.hid hci
           have hcii : (ci : Int) = max (min k0 500) 0 := by rw [hci]; unfold cntI; split <;> omega
           obtain ⟨ri, hri⟩ : ∃ r, r = rrm.tail := ⟨_, rfl⟩
           rw [← hri] at R3
           have RI := Lib.hid hri
           clear h3 g3 NX OE BE hci hri
           go_upto_region 17 with fail
           rw [← hxb]
           clear hxb
           go_loopw [11, 13] (fun v i wr => ∃ (t : Nat) (acc : List (Int × Int)) (rr : List Int) (xa : Option Addr) (xc : Nat), i = .int .i64 t ∧ v = .slice xa t xc ∧ t ≤ ci ∧ rdTimes rdM t ri = (acc, rr) ∧ acc.length = t ∧ Bld False (fun q => wqm.heap.size ≤ q) 47 2 w1 wr.heap.size wr (.slice xa t xc) (acc.map dMx) ∧
             RxAt w1 RB l rr (10 + 1001 * jm + 1 + 2 * t) wr ∧ wqm.grownBy wr (some RB)) (fun _ i _ => ci - (intOf i).toNat)
           case atStart => exact ⟨0, [], ri, xb, 0, rfl, rfl, by omega, rfl, rfl, O3.out, R3.out, G3.out⟩
           case round =>
             clear O3 R3 G3
             obtain ⟨t, ai, rx, xa, xc, rfl, rfl, ht, hrd, hlen, hB, hR, hG⟩ := hrel
             obtain ⟨wi, hw1⟩ : ∃ x, x = wr := ⟨_, rfl⟩
             subst hw1
             have LI := Lib.hid hlen
             have BI := Lib.hid hB
             have RR := Lib.hid hR
             have GI := Lib.hid hG
             by_cases hlt2 : t < ci
             · have hI : (t : Int) < k0 := by omega
               have hI5 : (t : Int) < 500 := by omega
               have ht5 : t < 500 := by omega
               have RNI := Lib.hid (rd_next rdM t ri hrd)
               clear hrd hlen hB hR hG
               have HP : Hid (∀ k, wqm.heap.size ≤ k → k ≠ RB) := Lib.hid (fun k hk e => by have := HBm.out; have := SZm.out; omega)
               obtain ⟨x, hx⟩ : ∃ x, x = hdI rx := ⟨_, rfl⟩
               have XQ := Lib.hid hx
               have NI := Lib.hid (rnext_at w1 wi RB _ l rx RR.out HLN.out (by omega))
               rw [← hx] at NI
               clear hx
               go_wp2_with fail
               refine NI.out.mono ?_
               rintro e w4 ⟨rfl, h4, g4⟩
               have R4a := Lib.hid h4
               have G4 := Lib.hid (near_step GI.out g4 (fun k e => .inr (Option.some.inj e).symm))
               have B4 := Lib.hid (BI.out.near g4 RXG.out.1 HP.out)
               clear h4 g4 NI RR GI BI
               obtain ⟨y, hy⟩ : ∃ x, x = hdI rx.tail := ⟨_, rfl⟩
               have YQ := Lib.hid hy
               have NI := Lib.hid (rnext_at w1 w4 RB _ l rx.tail R4a.out HLN.out (by omega))
               rw [← hy] at NI
               clear hy
               go_wp2_with fail
               refine NI.out.mono ?_
               rintro e w5 ⟨rfl, h5, g5⟩
               have R5a := Lib.hid h5
               have G5 := Lib.hid (near_step G4.out g5 (fun k e => .inr (Option.some.inj e).symm))
               have B5 := Lib.hid (B4.out.near g5 RXG.out.1 HP.out)
               clear h5 g5 NI R4a G4 B4
               have BN := Lib.hid (below_new w5 (.cells #[.int .i64 x, .int .i64 y] 47))
               have B7 := Lib.hid (B5.out.later' BN.out)
               have R7a := Lib.hid (R5a.out.later BN.out)
               have G7 := Lib.hid (near_step G5.out (grown_of_below BN.out none) (fun _ e => by cases e))
               have hsz : wqm.heap.size ≤ w5.heap.size := G5.out.size
               clear BN B5 R5a G5
               go_wp2_with (at_builtin; refine appL rfl _ _ 45 47 iM (.agg #[.int .i64 0, .int .i64 0]) 2 16 rfl Try.underlying45 hiM hzM hsM hbyM rfl (by decide) False (fun q => wqm.heap.size ≤ q) w1 (w5.alloc (.cells #[.int .i64 x, .int .i64 y] 47)).heap.size _ (ai.map dMx) [dMx (x, y)] t 1 1 (t + 1) rfl B7.out.own (by rw [List.length_map]; exact LI.out) (some ⟨w5.heap.size, 0, none⟩) rfl [.int .i64 x, .int .i64 y] news_new (fun e => by cases e) (by intro ds hds; rw [List.mem_singleton] at hds; subst hds; rfl) rfl ?c1 rfl (by unfold maxLen; omega) (by omega) ?_)
               case c1 => exact hl_int (hl_int hl_nil)
               intro ao cv w6 hO hg6 hb6
               have INP : Hid (∀ k, (Value.slice xa t xc).ownBlock = some k → wqm.heap.size ≤ k) := Lib.hid B7.out.inP
               have B8 := Lib.hid (Bld.of (w := w5.alloc (.cells #[.int .i64 x, .int .i64 y] 47)) hO B7.out.inP (by rw [size_new]; exact hb6) (by rw [size_new]; omega))
               have R8a := Lib.hid (R7a.out.grown hg6 (fun e => HP.out _ (INP.out _ e) rfl) (fun k e => by have := INP.out _ e; have := HBm.out; have := SZm.out; omega))
               have G8 := Lib.hid (near_step G7.out hg6 (fun k e => .inl (INP.out k e)))
               clear hO hg6 hb6 B7 R7a G7
               go_wp2_with fail
               go_roundw
               case rel => exact ⟨t + 1, ai ++ [(rdM rx).1], (rdM rx).2, ao, cv, by go_num, rfl, by omega, RNI.out, by rw [List.length_append, LI.out]; rfl, by rw [List.map_append]; exact (show (x, y) = (rdM rx).1 by rw [XQ.out, YQ.out]; rfl) ▸ B8.out, R8a.out.more (by omega), G8.out⟩
               case measure => simp [intOf]; omega
             · have htc : t = ci := by omega
               have MSQ : Hid (rdMs rrm = (ai, rx)) := Lib.hid (by
                 unfold rdMs rdL
                 rw [← KQ.out, ← CI.out, ← htc, ← RI.out]
                 exact hrd)
               have HI := Lib.hid (hB.own.holds hB.inP)
               clear hrd hlen hB hR hG htc
               by_cases hI : (t : Int) < k0
               · have hI5 : ¬ (t : Int) < 500 := by omega
                 have BN := Lib.hid (below_new wi (.cells #[.slice xa t xc] 45))
                 have O7 := Lib.hid ((HBB.out.near GI.out RXG.out.1 (fun k (hk : w8.heap.size ≤ k) e => by have := HBm.out; omega)).later' BN.out)
                 have D7 := Lib.hid ((HD.out.near GI.out).later BN.out)
                 have R7a := Lib.hid (RR.out.later BN.out)
                 have S7a := Lib.hid ((SOm.out.grown GI.out (fun k e => by have := Option.some.inj e; intro h; exact h.1.2.1 this.symm)).grown (grown_of_below BN.out none) (fun k e => by cases e))
                 have OWB : Hid (∀ k, (Value.slice vam jm vcm).ownBlock = some k → k < wqm.heap.size) := Lib.hid (fun k hk => (HBB.out.own.ge k hk).2)
                 have INP : Hid (∀ k, (Value.slice vam jm vcm).ownBlock = some k → w8.heap.size ≤ k) := Lib.hid HBB.out.inP
                 have hsz : wqm.heap.size ≤ wi.heap.size := GI.out.size
                 have kc := D7.out.box 4 _ rfl
                 have kc0 := (HD.out.near GI.out).box 4 _ rfl
                 go_wp2_with (at_builtin; refine appL rfl _ _ 23 45 iL (.slice none 0 0) 1 24 rfl Try.underlying23 hiL hzL hsL hbyL rfl (by decide) False (fun q => w8.heap.size ≤ q) w1 (wi.alloc (.cells #[.slice xa t xc] 45)).heap.size _ (accm.map dLx) [dLx ai] jm 1 1 (jm + 1) rfl O7.out.own (by rw [List.length_map]; exact LENm.out) (some ⟨wi.heap.size, 0, none⟩) rfl [.slice xa t xc] news_new (fun e => by cases e) (by intro ds hds; rw [List.mem_singleton] at hds; subst hds; rfl) rfl ?c1 rfl (by unfold maxLen; omega) (by omega) ?_)
                 case c1 => exact hl_cons ((HI.out.later BN.out).wide (fun q _ (hq : wqm.heap.size ≤ q) => ⟨by have := SZm.out; omega, fun e => by have := OWB.out q e; omega⟩)) hl_nil
                 intro ao cv w6 hO hg6 hb6
                 have B8 := Lib.hid (Bld.of (w := wi.alloc (.cells #[.slice xa t xc] 45)) hO O7.out.inP (by rw [size_new]; exact hb6) (by rw [size_new]; have := SZm.out; omega))
                 have R8a := Lib.hid (R7a.out.grown hg6 (fun e => by have := INP.out _ e; have := HBm.out; omega) (fun k e => by have := INP.out _ e; have := HBm.out; omega))
                 have D8 := Lib.hid (D7.out.grown hg6 (fun e => by have := INP.out _ e; have := HBm.out; omega) (fun e => by have := INP.out _ e; have := HBm.out; omega))
                 have S8a := Lib.hid (S7a.out.grown hg6 (fun k e h => by have := INP.out _ e; have := h.1.1; omega))
                 have SZ8 : Hid (w8.heap.size ≤ w6.heap.size) := Lib.hid (by have := hg6.size; rw [size_new] at this; have := SZm.out; omega)
                 have k8 := D8.out.box 4 _ rfl
                 have f8 := D8.out.frz 4
                 clear hO hg6 hb6 O7 D7 R7a S7a OWB INP BN kc kc0
                 go_wp2_with fail
                 have B9 := Lib.hid (B8.out.set ⟨bP, 4, none⟩ (.slice ao (jm + 1) cv) (fun (h : w8.heap.size ≤ bP) => by have := HBm.out; omega) GE.out)
                 have R9a := Lib.hid (R8a.out.set bP 4 (.slice ao (jm + 1) cv) D8.out.ne.1 GE.out)
                 have D9 := Lib.hid (D8.out.put (i := 4) (by simp) (.slice ao (jm + 1) cv))
                 have S9 := Lib.hid (S8a.out.set ⟨bP, 4, none⟩ (.slice ao (jm + 1) cv) (fun h => h.2.2.1 rfl))
                 clear B8 R8a D8 S8a k8 f8
                 go_roundw
                 case rel => exact ⟨jm + 1, accm ++ [(rdMs rrm).1], (rdMs rrm).2, ao, cv, by go_num, by omega, RN.out, by rw [List.length_append, LENm.out]; rfl, by rw [List.map_append, MSQ.out]; simpa using B9.out, by rw [MSQ.out]; exact R9a.out.more (by omega), D9.out, by simpa using SZ8.out, S9.out⟩
                 case measure => simp [intOf]; omega
               · have BN := Lib.hid (below_new wi (.cells #[.slice xa t xc] 45))
                 have O7 := Lib.hid ((HBB.out.near GI.out RXG.out.1 (fun k (hk : w8.heap.size ≤ k) e => by have := HBm.out; omega)).later' BN.out)
                 have D7 := Lib.hid ((HD.out.near GI.out).later BN.out)
                 have R7a := Lib.hid (RR.out.later BN.out)
                 have S7a := Lib.hid ((SOm.out.grown GI.out (fun k e => by have := Option.some.inj e; intro h; exact h.1.2.1 this.symm)).grown (grown_of_below BN.out none) (fun k e => by cases e))
                 have OWB : Hid (∀ k, (Value.slice vam jm vcm).ownBlock = some k → k < wqm.heap.size) := Lib.hid (fun k hk => (HBB.out.own.ge k hk).2)
                 have INP : Hid (∀ k, (Value.slice vam jm vcm).ownBlock = some k → w8.heap.size ≤ k) := Lib.hid HBB.out.inP
                 have hsz : wqm.heap.size ≤ wi.heap.size := GI.out.size
                 have kc := D7.out.box 4 _ rfl
                 have kc0 := (HD.out.near GI.out).box 4 _ rfl
                 go_wp2_with (at_builtin; refine appL rfl _ _ 23 45 iL (.slice none 0 0) 1 24 rfl Try.underlying23 hiL hzL hsL hbyL rfl (by decide) False (fun q => w8.heap.size ≤ q) w1 (wi.alloc (.cells #[.slice xa t xc] 45)).heap.size _ (accm.map dLx) [dLx ai] jm 1 1 (jm + 1) rfl O7.out.own (by rw [List.length_map]; exact LENm.out) (some ⟨wi.heap.size, 0, none⟩) rfl [.slice xa t xc] news_new (fun e => by cases e) (by intro ds hds; rw [List.mem_singleton] at hds; subst hds; rfl) rfl ?c1 rfl (by unfold maxLen; omega) (by omega) ?_)
                 case c1 => exact hl_cons ((HI.out.later BN.out).wide (fun q _ (hq : wqm.heap.size ≤ q) => ⟨by have := SZm.out; omega, fun e => by have := OWB.out q e; omega⟩)) hl_nil
                 intro ao cv w6 hO hg6 hb6
                 have B8 := Lib.hid (Bld.of (w := wi.alloc (.cells #[.slice xa t xc] 45)) hO O7.out.inP (by rw [size_new]; exact hb6) (by rw [size_new]; have := SZm.out; omega))
                 have R8a := Lib.hid (R7a.out.grown hg6 (fun e => by have := INP.out _ e; have := HBm.out; omega) (fun k e => by have := INP.out _ e; have := HBm.out; omega))
                 have D8 := Lib.hid (D7.out.grown hg6 (fun e => by have := INP.out _ e; have := HBm.out; omega) (fun e => by have := INP.out _ e; have := HBm.out; omega))
                 have S8a := Lib.hid (S7a.out.grown hg6 (fun k e h => by have := INP.out _ e; have := h.1.1; omega))
                 have SZ8 : Hid (w8.heap.size ≤ w6.heap.size) := Lib.hid (by have := hg6.size; rw [size_new] at this; have := SZm.out; omega)
                 have k8 := D8.out.box 4 _ rfl
                 have f8 := D8.out.frz 4
                 clear hO hg6 hb6 O7 D7 R7a S7a OWB INP BN kc kc0
                 go_wp2_with fail
                 have B9 := Lib.hid (B8.out.set ⟨bP, 4, none⟩ (.slice ao (jm + 1) cv) (fun (h : w8.heap.size ≤ bP) => by have := HBm.out; omega) GE.out)
                 have R9a := Lib.hid (R8a.out.set bP 4 (.slice ao (jm + 1) cv) D8.out.ne.1 GE.out)
                 have D9 := Lib.hid (D8.out.put (i := 4) (by simp) (.slice ao (jm + 1) cv))
                 have S9 := Lib.hid (S8a.out.set ⟨bP, 4, none⟩ (.slice ao (jm + 1) cv) (fun h => h.2.2.1 rfl))
                 clear B8 R8a D8 S8a k8 f8
                 go_roundw
                 case rel => exact ⟨jm + 1, accm ++ [(rdMs rrm).1], (rdMs rrm).2, ao, cv, by go_num, by omega, RN.out, by rw [List.length_append, LENm.out]; rfl, by rw [List.map_append, MSQ.out]; simpa using B9.out, by rw [MSQ.out]; exact R9a.out.more (by omega), D9.out, by simpa using SZ8.out, S9.out⟩
                 case measure => simp [intOf]; omega
         · have hjc : jm = cm := by omega
           have LQm : Hid (rdIn l = (accm, rrm)) := Lib.hid (by
             unfold rdIn rdL
             rw [SQ.out]
             show rdTimes rdMs (cntI (hdI rr) 5) rr.tail = _
             rw [← N1.out, ← Cm.out, ← hjc, ← R5.out]
             exact hrd)
           have Tm := Lib.hid (hB.own.holds hB.inP)
           clear hrd hlen hB hR hD hjc
           have hj5 : jm ≤ 5 := by omega
           have MT : Hid (∃ (t : Nat) (acc : List (Lks)) (rr : List Int) (xa : Option Addr) (xc : Nat), t ≤ 5 ∧ rdIn l = (acc, rr) ∧ Holds False (fun q => w8.heap.size ≤ q) wqm (.slice xa t xc) (.row 1 (acc.map dLx)) ∧
            RxAt w1 RB l rr (10 + 1001 * 5) wqm ∧ DcB RB bP bR [.int .i64 m0, .int .i64 m1, .int .i64 m2, .slice va j vc, .slice xa t xc, .slice none 0 0] wqm ∧ w8.heap.size ≤ wqm.heap.size ∧ SameOn (fun q => q < w8.heap.size ∧ q ≠ RB ∧ q ≠ bP ∧ q ≠ bR) w8 wqm) := Lib.hid ⟨jm, accm, rrm, vam, vcm, hj5, LQm.out, Tm.out, HR.out.more (by have : 1001 * jm ≤ 1001 * 5 := Nat.mul_le_mul_left _ hj5; omega), HD.out, SZm.out, SOm.out⟩
           clear LQm Tm HR HD HBB SZm SOm hj5
           by_cases hA : (jm : Int) < n1
           · have hA5 : ¬ (jm : Int) < 5 := by omega
             go_wp2_with fail
             go_meet
             case rel => exact MT.out
           · go_wp2_with fail
             go_meet
             case rel => exact MT.out
      case rest =>
        obtain ⟨jm, accm, rrm, vam, vcm, hj5, hlq, hT, hR, hD, hsw, hso⟩ := hcut
        obtain ⟨wqm, hw1⟩ : ∃ x, x = wc := ⟨_, rfl⟩
        subst hw1
        have LQm := Lib.hid hlq
        have Tm := Lib.hid hT
        have HR := Lib.hid hR
        have HD := Lib.hid hD
        have SZm := Lib.hid hsw
        have SOm := Lib.hid hso
        have HBB := Lib.hid True.intro
        clear hlq hT hR hD hsw hso RX9 DC8
        have NX := Lib.hid (rnext_at w1 wqm RB _ l rrm HR.out HLN.out (by omega))
        obtain ⟨n2, hn2⟩ : ∃ m, m = hdI rrm := ⟨_, rfl⟩
        rw [← hn2] at NX
        have N2 := Lib.hid hn2
        clear hn2
        go_wp2_with fail
        refine NX.out.mono ?_
        rintro e w9 ⟨rfl, h9, g9⟩
        have RX10 := Lib.hid (RxAt.more h9 (B' := 5020) (by omega))
        have DC9 := Lib.hid (HD.out.near g9)
        have S9 : Hid (Holds False (fun q => q < w9.heap.size ∧ q ≠ RB ∧ q ≠ bP ∧ q ≠ bR) w9 (.slice va j vc) (.row 1 (acc.map dIx))) := Lib.hid (keep_near (S8.out.same SOm.out) g9 (fun q hq => hq.2))
        have T9 : Hid (Holds False (fun q => q < w9.heap.size ∧ q ≠ RB ∧ q ≠ bP ∧ q ≠ bR) w9 (.slice vam jm vcm) (.row 1 (accm.map dLx))) := Lib.hid (keep_near Tm.out g9 (fun q (hq : w8.heap.size ≤ q) => ⟨by have := HBm.out; omega, by have := HBm.out; omega, by have := HBm.out; omega⟩))
        clear h9 g9 NX HR HD HBB Tm S8 SOm
        obtain ⟨r6, hr6⟩ : ∃ r, r = rrm.tail := ⟨_, rfl⟩
        rw [← hr6] at RX10
        have R6 := Lib.hid hr6
        clear hr6
        have HBo : Hid (RB < w9.heap.size ∧ bP < w9.heap.size ∧ w1.heap.size ≤ w9.heap.size ∧ bR < w9.heap.size) := Lib.hid ⟨RX10.out.lt, DC9.out.lt.1, RX10.out.bel.size, DC9.out.lt.2⟩
        go_upto_block 6 with fail
        go_cut [] from 20 (fun wz => ∃ (t : Nat) (acc : List (List Int)) (rr : List Int) (xa : Option Addr) (xc : Nat), t ≤ 5 ∧ rdOut l = (acc, rr) ∧ Holds False (fun q => w9.heap.size ≤ q) wz (.slice xa t xc) (.row 1 (acc.map dSx)) ∧
              RxAt w1 RB l rr (5020 + 501 * 5) wz ∧ DcB RB bP bR [.int .i64 m0, .int .i64 m1, .int .i64 m2, .slice va j vc, .slice vam jm vcm, .slice xa t xc] wz ∧ w9.heap.size ≤ wz.heap.size ∧ SameOn (fun q => q < w9.heap.size ∧ q ≠ RB ∧ q ≠ bP ∧ q ≠ bR) w9 wz)
        case first =>
         go_upto_region 23 with fail
         obtain ⟨co, hc⟩ : ∃ c, c = cntI n2 5 := ⟨_, rfl⟩
         have Co := Lib.hid hc
         have hco : (co : Int) = max (min n2 5) 0 := by rw [hc]; unfold cntI; split <;> omega
         clear hc
         go_loopw [14] (fun i wr => ∃ (t : Nat) (acc : List (List Int)) (rr : List Int) (xa : Option Addr) (xc : Nat), i = .int .i64 t ∧ t ≤ co ∧ rdTimes rdIs t r6 = (acc, rr) ∧ acc.length = t ∧ Bld False (fun q => w9.heap.size ≤ q) 22 1 w1 wr.heap.size wr (.slice xa t xc) (acc.map dSx) ∧
           RxAt w1 RB l rr (5020 + 501 * t) wr ∧ DcB RB bP bR [.int .i64 m0, .int .i64 m1, .int .i64 m2, .slice va j vc, .slice vam jm vcm, .slice xa t xc] wr ∧ w9.heap.size ≤ wr.heap.size ∧ SameOn (fun q => q < w9.heap.size ∧ q ≠ RB ∧ q ≠ bP ∧ q ≠ bR) w9 wr) (fun i _ => co - (intOf i).toNat)
         case atStart => exact ⟨0, [], r6, none, 0, rfl, by omega, rfl, rfl, ⟨Own.nil RX10.out.bel, fun k hk => by simp [Value.ownBlock] at hk⟩, RX10.out, DC9.out, Nat.le_refl _, SameOn.refl _ _⟩
         case round =>
           obtain ⟨jo, acco, rro, vao, vco, rfl, hj, hrd, hlen, hB, hR, hD, hsw, hso⟩ := hrel
           obtain ⟨wqo, hw1⟩ : ∃ x, x = wr := ⟨_, rfl⟩
           subst hw1
           have LENo := Lib.hid hlen
           have HBB := Lib.hid hB
           have HR := Lib.hid hR
           have HD := Lib.hid hD
           have SZo := Lib.hid hsw
           have SOo := Lib.hid hso
           clear RX10 DC9 hsw hso
           by_cases hlt : jo < co
           · have hA : (jo : Int) < n2 := by omega
             have hA5 : (jo : Int) < 5 := by omega
             have RN := Lib.hid (rd_next rdIs jo r6 hrd)
             have hj5 : jo < 5 := by omega
             obtain ⟨k0, hk0⟩ : ∃ x, x = hdI rro := ⟨_, rfl⟩
             have NX := Lib.hid (fun y (h : RxAt w1 RB l rro (5020 + 501 * jo) y) => rnext_at w1 y RB _ l rro h HLN.out (by omega))
             rw [← hk0] at NX
             have KQ := Lib.hid hk0
             clear hrd hlen hB hR hD hk0
             have BE := Lib.hid (below_new wqo (.cells #[] 3))
             obtain ⟨we, hwe⟩ : ∃ y, y = wqo.alloc (.cells #[] 3) := ⟨_, rfl⟩
             have OE : Hid (Bld False (fun q => wqo.heap.size ≤ q) 3 1 w1 we.heap.size we (.slice (some ⟨wqo.heap.size, 0, none⟩) 0 0) []) := Lib.hid ⟨by rw [hwe, size_new]; exact Own.made HR.out.bel, fun k hk => by simp [Value.ownBlock] at hk; omega⟩
             rw [← hwe] at BE
             go_wp2_with fail
             rw [← hwe]
             clear hwe
             refine (NX.out _ (HR.out.later BE.out)).mono ?_
             rintro e w3 ⟨rfl, h3, g3⟩
             have R3 := Lib.hid h3
             have G3 := Lib.hid (near_step (near_of_below (Ba := RB) BE.out) g3 (fun k e => .inr (Option.some.inj e).symm))
             have O3 := Lib.hid (OE.out.near g3 RXG.out.1 (fun k (hk : wqo.heap.size ≤ k) e => by have := HBo.out; have := SZo.out; omega))
             obtain ⟨xb, hxb⟩ : ∃ x : Option Addr, x = some ⟨wqo.heap.size, 0, none⟩ := ⟨_, rfl⟩
             rw [← hxb] at O3
             obtain ⟨ci, hci⟩ : ∃ c, c = cntI k0 500 := ⟨_, rfl⟩
             have CI := Lib.hid hci
             have hcii : (ci : Int) = max (min k0 500) 0 := by rw [hci]; unfold cntI; split <;> omega
             obtain ⟨ri, hri⟩ : ∃ r, r = rro.tail := ⟨_, rfl⟩
             rw [← hri] at R3
             have RI := Lib.hid hri
             clear h3 g3 NX OE BE hci hri
             go_upto_region 27 with fail
             rw [← hxb]
             clear hxb
             go_loopw [15, 17] (fun v i wr => ∃ (t : Nat) (acc : List (Int)) (rr : List Int) (xa : Option Addr) (xc : Nat), i = .int .i64 t ∧ v = .slice xa t xc ∧ t ≤ ci ∧ rdTimes rdN t ri = (acc, rr) ∧ acc.length = t ∧ Bld False (fun q => wqo.heap.size ≤ q) 3 1 w1 wr.heap.size wr (.slice xa t xc) (acc.map dIx) ∧
               RxAt w1 RB l rr (5020 + 501 * jo + 1 + 1 * t) wr ∧ wqo.grownBy wr (some RB)) (fun _ i _ => ci - (intOf i).toNat)
             case atStart => exact ⟨0, [], ri, xb, 0, rfl, rfl, by omega, rfl, rfl, O3.out, R3.out, G3.out⟩
             case round =>
               clear O3 R3 G3
               obtain ⟨t, ai, rx, xa, xc, rfl, rfl, ht, hrd, hlen, hB, hR, hG⟩ := hrel
               obtain ⟨wi, hw1⟩ : ∃ x, x = wr := ⟨_, rfl⟩
               subst hw1
               have LI := Lib.hid hlen
               have BI := Lib.hid hB
               have RR := Lib.hid hR
               have GI := Lib.hid hG
               by_cases hlt2 : t < ci
               · have hI : (t : Int) < k0 := by omega
                 have hI5 : (t : Int) < 500 := by omega
                 have ht5 : t < 500 := by omega
                 have RNI := Lib.hid (rd_next rdN t ri hrd)
                 clear hrd hlen hB hR hG
                 have HP : Hid (∀ k, wqo.heap.size ≤ k → k ≠ RB) := Lib.hid (fun k hk e => by have := HBo.out; have := SZo.out; omega)
                 obtain ⟨x, hx⟩ : ∃ x, x = hdI rx := ⟨_, rfl⟩
                 have XQ := Lib.hid hx
                 have NI := Lib.hid (rnext_at w1 wi RB _ l rx RR.out HLN.out (by omega))
                 rw [← hx] at NI
                 clear hx
                 go_wp2_with fail
                 refine NI.out.mono ?_
                 rintro e w4 ⟨rfl, h4, g4⟩
                 have R4a := Lib.hid h4
                 have G4 := Lib.hid (near_step GI.out g4 (fun k e => .inr (Option.some.inj e).symm))
                 have B4 := Lib.hid (BI.out.near g4 RXG.out.1 HP.out)
                 clear h4 g4 NI RR GI BI
                 have BN := Lib.hid (below_new w4 (.cells #[.int .i64 x] 3))
                 have B7 := Lib.hid (B4.out.later' BN.out)
                 have R7a := Lib.hid (R4a.out.later BN.out)
                 have G7 := Lib.hid (near_step G4.out (grown_of_below BN.out none) (fun _ e => by cases e))
                 have hsz : wqo.heap.size ≤ w4.heap.size := G4.out.size
                 clear BN B4 R4a G4
                 go_wp2_with (at_builtin; refine appL rfl _ _ 22 3 i0 (.int .i64 0) 1 8 rfl Try.underlying22 hi0 hz0 hs0 hby0 rfl (by decide) False (fun q => wqo.heap.size ≤ q) w1 (w4.alloc (.cells #[.int .i64 x] 3)).heap.size _ (ai.map dIx) [dIx x] t 1 1 (t + 1) rfl B7.out.own (by rw [List.length_map]; exact LI.out) (some ⟨w4.heap.size, 0, none⟩) rfl [.int .i64 x] news_new (fun e => by cases e) (by intro ds hds; rw [List.mem_singleton] at hds; subst hds; rfl) rfl ?c1 rfl (by unfold maxLen; omega) (by omega) ?_)
                 case c1 => exact hl_int hl_nil
                 intro ao cv w6 hO hg6 hb6
                 have INP : Hid (∀ k, (Value.slice xa t xc).ownBlock = some k → wqo.heap.size ≤ k) := Lib.hid B7.out.inP
                 have B8 := Lib.hid (Bld.of (w := w4.alloc (.cells #[.int .i64 x] 3)) hO B7.out.inP (by rw [size_new]; exact hb6) (by rw [size_new]; omega))
                 have R8a := Lib.hid (R7a.out.grown hg6 (fun e => HP.out _ (INP.out _ e) rfl) (fun k e => by have := INP.out _ e; have := HBo.out; have := SZo.out; omega))
                 have G8 := Lib.hid (near_step G7.out hg6 (fun k e => .inl (INP.out k e)))
                 clear hO hg6 hb6 B7 R7a G7
                 go_wp2_with fail
                 go_roundw
                 case rel => exact ⟨t + 1, ai ++ [(rdN rx).1], (rdN rx).2, ao, cv, by go_num, rfl, by omega, RNI.out, by rw [List.length_append, LI.out]; rfl, by rw [List.map_append]; exact (show x = (rdN rx).1 from XQ.out) ▸ B8.out, R8a.out.more (by omega), G8.out⟩
                 case measure => simp [intOf]; omega
               · have htc : t = ci := by omega
                 have MSQ : Hid (rdIs rro = (ai, rx)) := Lib.hid (by
                   unfold rdIs rdL
                   rw [← KQ.out, ← CI.out, ← htc, ← RI.out]
                   exact hrd)
                 have HI := Lib.hid (hB.own.holds hB.inP)
                 clear hrd hlen hB hR hG htc
                 by_cases hI : (t : Int) < k0
                 · have hI5 : ¬ (t : Int) < 500 := by omega
                   have BN := Lib.hid (below_new wi (.cells #[.slice xa t xc] 22))
                   have O7 := Lib.hid ((HBB.out.near GI.out RXG.out.1 (fun k (hk : w9.heap.size ≤ k) e => by have := HBo.out; omega)).later' BN.out)
                   have D7 := Lib.hid ((HD.out.near GI.out).later BN.out)
                   have R7a := Lib.hid (RR.out.later BN.out)
                   have S7a := Lib.hid ((SOo.out.grown GI.out (fun k e => by have := Option.some.inj e; intro h; exact h.1.2.1 this.symm)).grown (grown_of_below BN.out none) (fun k e => by cases e))
                   have OWB : Hid (∀ k, (Value.slice vao jo vco).ownBlock = some k → k < wqo.heap.size) := Lib.hid (fun k hk => (HBB.out.own.ge k hk).2)
                   have INP : Hid (∀ k, (Value.slice vao jo vco).ownBlock = some k → w9.heap.size ≤ k) := Lib.hid HBB.out.inP
                   have hsz : wqo.heap.size ≤ wi.heap.size := GI.out.size
                   have kc := D7.out.box 5 _ rfl
                   have kc0 := (HD.out.near GI.out).box 5 _ rfl
                   go_wp2_with (at_builtin; refine appL rfl _ _ 24 22 iO (.slice none 0 0) 1 24 rfl Try.underlying24 hiO hzO hsO hbyO rfl (by decide) False (fun q => w9.heap.size ≤ q) w1 (wi.alloc (.cells #[.slice xa t xc] 22)).heap.size _ (acco.map dSx) [dSx ai] jo 1 1 (jo + 1) rfl O7.out.own (by rw [List.length_map]; exact LENo.out) (some ⟨wi.heap.size, 0, none⟩) rfl [.slice xa t xc] news_new (fun e => by cases e) (by intro ds hds; rw [List.mem_singleton] at hds; subst hds; rfl) rfl ?c1 rfl (by unfold maxLen; omega) (by omega) ?_)
                   case c1 => exact hl_cons ((HI.out.later BN.out).wide (fun q _ (hq : wqo.heap.size ≤ q) => ⟨by have := SZo.out; omega, fun e => by have := OWB.out q e; omega⟩)) hl_nil
                   intro ao cv w6 hO hg6 hb6
                   have B8 := Lib.hid (Bld.of (w := wi.alloc (.cells #[.slice xa t xc] 22)) hO O7.out.inP (by rw [size_new]; exact hb6) (by rw [size_new]; have := SZo.out; omega))
                   have R8a := Lib.hid (R7a.out.grown hg6 (fun e => by have := INP.out _ e; have := HBo.out; omega) (fun k e => by have := INP.out _ e; have := HBo.out; omega))
                   have D8 := Lib.hid (D7.out.grown hg6 (fun e => by have := INP.out _ e; have := HBo.out; omega) (fun e => by have := INP.out _ e; have := HBo.out; omega))
                   have S8a := Lib.hid (S7a.out.grown hg6 (fun k e h => by have := INP.out _ e; have := h.1.1; omega))
                   have SZ8 : Hid (w9.heap.size ≤ w6.heap.size) := Lib.hid (by have := hg6.size; rw [size_new] at this; have := SZo.out; omega)
                   have k8 := D8.out.box 5 _ rfl
                   have f8 := D8.out.frz 5
                   clear hO hg6 hb6 O7 D7 R7a S7a OWB INP BN kc kc0
                   go_wp2_with fail
                   have B9 := Lib.hid (B8.out.set ⟨bP, 5, none⟩ (.slice ao (jo + 1) cv) (fun (h : w9.heap.size ≤ bP) => by have := HBo.out; omega) GE.out)
                   have R9a := Lib.hid (R8a.out.set bP 5 (.slice ao (jo + 1) cv) D8.out.ne.1 GE.out)
                   have D9 := Lib.hid (D8.out.put (i := 5) (by simp) (.slice ao (jo + 1) cv))
                   have S9 := Lib.hid (S8a.out.set ⟨bP, 5, none⟩ (.slice ao (jo + 1) cv) (fun h => h.2.2.1 rfl))
                   clear B8 R8a D8 S8a k8 f8
                   go_roundw
                   case rel => exact ⟨jo + 1, acco ++ [(rdIs rro).1], (rdIs rro).2, ao, cv, by go_num, by omega, RN.out, by rw [List.length_append, LENo.out]; rfl, by rw [List.map_append, MSQ.out]; simpa using B9.out, by rw [MSQ.out]; exact R9a.out.more (by omega), D9.out, by simpa using SZ8.out, S9.out⟩
                   case measure => simp [intOf]; omega
                 · have BN := Lib.hid (below_new wi (.cells #[.slice xa t xc] 22))
                   have O7 := Lib.hid ((HBB.out.near GI.out RXG.out.1 (fun k (hk : w9.heap.size ≤ k) e => by have := HBo.out; omega)).later' BN.out)
                   have D7 := Lib.hid ((HD.out.near GI.out).later BN.out)
                   have R7a := Lib.hid (RR.out.later BN.out)
                   have S7a := Lib.hid ((SOo.out.grown GI.out (fun k e => by have := Option.some.inj e; intro h; exact h.1.2.1 this.symm)).grown (grown_of_below BN.out none) (fun k e => by cases e))
                   have OWB : Hid (∀ k, (Value.slice vao jo vco).ownBlock = some k → k < wqo.heap.size) := Lib.hid (fun k hk => (HBB.out.own.ge k hk).2)
                   have INP : Hid (∀ k, (Value.slice vao jo vco).ownBlock = some k → w9.heap.size ≤ k) := Lib.hid HBB.out.inP
                   have hsz : wqo.heap.size ≤ wi.heap.size := GI.out.size
                   have kc := D7.out.box 5 _ rfl
                   have kc0 := (HD.out.near GI.out).box 5 _ rfl
                   go_wp2_with (at_builtin; refine appL rfl _ _ 24 22 iO (.slice none 0 0) 1 24 rfl Try.underlying24 hiO hzO hsO hbyO rfl (by decide) False (fun q => w9.heap.size ≤ q) w1 (wi.alloc (.cells #[.slice xa t xc] 22)).heap.size _ (acco.map dSx) [dSx ai] jo 1 1 (jo + 1) rfl O7.out.own (by rw [List.length_map]; exact LENo.out) (some ⟨wi.heap.size, 0, none⟩) rfl [.slice xa t xc] news_new (fun e => by cases e) (by intro ds hds; rw [List.mem_singleton] at hds; subst hds; rfl) rfl ?c1 rfl (by unfold maxLen; omega) (by omega) ?_)
                   case c1 => exact hl_cons ((HI.out.later BN.out).wide (fun q _ (hq : wqo.heap.size ≤ q) => ⟨by have := SZo.out; omega, fun e => by have := OWB.out q e; omega⟩)) hl_nil
                   intro ao cv w6 hO hg6 hb6
                   have B8 := Lib.hid (Bld.of (w := wi.alloc (.cells #[.slice xa t xc] 22)) hO O7.out.inP (by rw [size_new]; exact hb6) (by rw [size_new]; have := SZo.out; omega))
                   have R8a := Lib.hid (R7a.out.grown hg6 (fun e => by have := INP.out _ e; have := HBo.out; omega) (fun k e => by have := INP.out _ e; have := HBo.out; omega))
                   have D8 := Lib.hid (D7.out.grown hg6 (fun e => by have := INP.out _ e; have := HBo.out; omega) (fun e => by have := INP.out _ e; have := HBo.out; omega))
                   have S8a := Lib.hid (S7a.out.grown hg6 (fun k e h => by have := INP.out _ e; have := h.1.1; omega))
                   have SZ8 : Hid (w9.heap.size ≤ w6.heap.size) := Lib.hid (by have := hg6.size; rw [size_new] at this; have := SZo.out; omega)
                   have k8 := D8.out.box 5 _ rfl
                   have f8 := D8.out.frz 5
                   clear hO hg6 hb6 O7 D7 R7a S7a OWB INP BN kc kc0
                   go_wp2_with fail
                   have B9 := Lib.hid (B8.out.set ⟨bP, 5, none⟩ (.slice ao (jo + 1) cv) (fun (h : w9.heap.size ≤ bP) => by have := HBo.out; omega) GE.out)
                   have R9a := Lib.hid (R8a.out.set bP 5 (.slice ao (jo + 1) cv) D8.out.ne.1 GE.out)
                   have D9 := Lib.hid (D8.out.put (i := 5) (by simp) (.slice ao (jo + 1) cv))
                   have S9 := Lib.hid (S8a.out.set ⟨bP, 5, none⟩ (.slice ao (jo + 1) cv) (fun h => h.2.2.1 rfl))
                   clear B8 R8a D8 S8a k8 f8
                   go_roundw
                   case rel => exact ⟨jo + 1, acco ++ [(rdIs rro).1], (rdIs rro).2, ao, cv, by go_num, by omega, RN.out, by rw [List.length_append, LENo.out]; rfl, by rw [List.map_append, MSQ.out]; simpa using B9.out, by rw [MSQ.out]; exact R9a.out.more (by omega), D9.out, by simpa using SZ8.out, S9.out⟩
                   case measure => simp [intOf]; omega
           · have hjc : jo = co := by omega
             have LQo : Hid (rdOut l = (acco, rro)) := Lib.hid (by
               unfold rdOut rdL
               rw [LQm.out]
               show rdTimes rdIs (cntI (hdI rrm) 5) rrm.tail = _
               rw [← N2.out, ← Co.out, ← hjc, ← R6.out]
               exact hrd)
             have To := Lib.hid (hB.own.holds hB.inP)
             clear hrd hlen hB hR hD hjc
             have hj5 : jo ≤ 5 := by omega
             have MT : Hid (∃ (t : Nat) (acc : List (List Int)) (rr : List Int) (xa : Option Addr) (xc : Nat), t ≤ 5 ∧ rdOut l = (acc, rr) ∧ Holds False (fun q => w9.heap.size ≤ q) wqo (.slice xa t xc) (.row 1 (acc.map dSx)) ∧
              RxAt w1 RB l rr (5020 + 501 * 5) wqo ∧ DcB RB bP bR [.int .i64 m0, .int .i64 m1, .int .i64 m2, .slice va j vc, .slice vam jm vcm, .slice xa t xc] wqo ∧ w9.heap.size ≤ wqo.heap.size ∧ SameOn (fun q => q < w9.heap.size ∧ q ≠ RB ∧ q ≠ bP ∧ q ≠ bR) w9 wqo) := Lib.hid ⟨jo, acco, rro, vao, vco, hj5, LQo.out, To.out, HR.out.more (by have : 501 * jo ≤ 501 * 5 := Nat.mul_le_mul_left _ hj5; omega), HD.out, SZo.out, SOo.out⟩
             clear LQo To HR HD HBB SZo SOo hj5
             by_cases hA : (jo : Int) < n2
             · have hA5 : ¬ (jo : Int) < 5 := by omega
               go_wp2_with fail
               go_meet
               case rel => exact MT.out
             · go_wp2_with fail
               go_meet
               case rel => exact MT.out
        case rest =>
          obtain ⟨jo, acco, rro, vao, vco, hj5, hlq, hT, hR, hD, hsw, hso⟩ := hcut
          obtain ⟨wqo, hw1⟩ : ∃ x, x = wc := ⟨_, rfl⟩
          subst hw1
          have LQo := Lib.hid hlq
          have To := Lib.hid hT
          have HR := Lib.hid hR
          have HD := Lib.hid hD
          have SZo := Lib.hid hsw
          have SOo := Lib.hid hso
          have HBB := Lib.hid True.intro
          clear hlq hT hR hD hsw hso RX10 DC9
          have S10 : Hid (Holds False (fun q => q ≠ bR) wqo (.slice va j vc) (dInts acc)) := Lib.hid ((S9.out.same SOo.out).wide (fun q _ hq => hq.2.2.2))
          have T10 : Hid (Holds False (fun q => q ≠ bR) wqo (.slice vam jm vcm) (dLls accm)) := Lib.hid ((T9.out.same SOo.out).wide (fun q _ hq => hq.2.2.2))
          have U10 : Hid (Holds False (fun q => q ≠ bR) wqo (.slice vao jo vco) (dIls acco)) := Lib.hid (To.out.wide (fun q _ (hq : w9.heap.size ≤ q) => by have := HBo.out; omega))
          obtain ⟨p, hp⟩ : ∃ p, p = rdPc l := ⟨_, rfl⟩
          have PQ : Hid (p = ⟨m0, m1, m2, acc, accm, acco⟩) := Lib.hid (by rw [hp]; unfold rdPc; rw [SQ.out, LQm.out, LQo.out, M0.out, M1.out, M2.out])
          have PV : Hid (∀ x y z, pcv p x y z = .agg #[.int .i64 m0, .int .i64 m1, .int .i64 m2, x, y, z]) := Lib.hid (fun x y z => by rw [PQ.out])
          have SM : Hid (SmallPc p) := Lib.hid (by rw [hp]; exact small_rd l)
          have HLR : Hid (HoldsL False (fun q => q ≠ bR) wqo [.slice va j vc, .slice vam jm vcm, .slice vao jo vco] p.d) := Lib.hid (by rw [PQ.out]; exact hl_cons S10.out (hl_cons T10.out (hl_cons U10.out hl_nil)))
          have HL : Hid (HasL wqo [.slice va j vc, .slice vam jm vcm, .slice vao jo vco] p.d) := Lib.hid HLR.out.weak
          have DRQ : Hid (decR s = if okB p = true ∧ strB (putsB (numsOf p)) = s then (p, 0) else (Pc.zero, 4)) := Lib.hid (by
            unfold decR
            rw [← LQ.out, ← hp]
            by_cases hk : okB p = true ∧ strB (putsB (numsOf p)) = s
            · rw [if_pos hk, if_pos ⟨ZQ.out, hk⟩]
            · rw [if_neg hk, if_neg (fun h => hk h.2)])
          have ET := Lib.hid (rencode_at p _ _ _ wqo HL.out SM.out)
          rw [PV.out] at ET
          obtain ⟨et, het⟩ : ∃ x, x = (encR p).1 := ⟨_, rfl⟩
          obtain ⟨ee, hee⟩ : ∃ x, x = (encR p).2 := ⟨_, rfl⟩
          rw [← het, ← hee] at ET
          have ETQ := Lib.hid het
          have EEQ := Lib.hid hee
          clear het hee
          have BWq : Hid (Below w.heap.size w wqo) := Lib.hid (below_step' (below_step' B0.out B1.out) HR.out.bel)
          clear hp S10 T10 U10 S9 T9 To SOo SQ LQm LQo HR
          have k0 := HD.out.box 0 _ rfl
          have k1 := HD.out.box 1 _ rfl
          have k2 := HD.out.box 2 _ rfl
          have k3 := HD.out.box 3 _ rfl
          have k4 := HD.out.box 4 _ rfl
          have k5 := HD.out.box 5 _ rfl
          go_wp2_with fail
          refine ET.out.mono ?_
          rintro e w10 ⟨rfl, hb⟩
          have DC10 := Lib.hid (HD.out.later hb)
          have BWo : Hid (Below w.heap.size w w10) := Lib.hid (below_step' BWq.out hb)
          have HL10 : Hid (HoldsL False (fun q => q ≠ bR) w10 [.slice va j vc, .slice vam jm vcm, .slice vao jo vco] p.d) := Lib.hid (HLR.out.later hb)
          have KR : Hid (BoxAt bR Z6 w10) := Lib.hid DC10.out.res
          have FR : Hid (∀ i, w10.frozen? ⟨bR, i, none⟩ = false) := Lib.hid DC10.out.rfz
          clear hb ET HD BWq HL HLR k0 k1 k2 k3 k4 k5
          go_upto_region 32 with fail
          cases hok : okB p with
          | false =>
            have EN : encR p = (strB [], 4) := by unfold encR; rw [if_neg (by rw [hok]; simp)]
            have DN : Hid (decR s = (Pc.zero, 4)) := Lib.hid (by rw [DRQ.out, if_neg (fun h => by rw [hok] at h; cases h.1)])
            obtain rfl : ee = 4 := by rw [EEQ.out, EN]
            clear EN hok DRQ ETQ EEQ PQ PV
            have DN' : Hid (decR s = (Pc.zero, 4)) := DN
            have RZ : ∀ y, BoxAt bR Z6 y → Below w.heap.size w y → RDecTold (decR s) w (.returned (.tuple #[.agg #[.int .i64 0, .int .i64 0, .int .i64 0, .slice none 0 0, .slice none 0 0, .slice none 0 0], .int .i64 4])) y := fun y _ hb => by
              rw [DN'.out]
              exact ⟨_, _, _, rfl, (has_zero All y), hb⟩
            have k0 : w10.cell? ⟨bR, 0, none⟩ = some (.int .i64 0) := KR.out 0 _ rfl
            have f0 := FR.out 0
            have k1 : w10.cell? ⟨bR, 1, none⟩ = some (.int .i64 0) := KR.out 1 _ rfl
            have f1 := FR.out 1
            have k2 : w10.cell? ⟨bR, 2, none⟩ = some (.int .i64 0) := KR.out 2 _ rfl
            have f2 := FR.out 2
            have k3 : w10.cell? ⟨bR, 3, none⟩ = some (.slice none 0 0) := KR.out 3 _ rfl
            have f3 := FR.out 3
            have k4 : w10.cell? ⟨bR, 4, none⟩ = some (.slice none 0 0) := KR.out 4 _ rfl
            have f4 := FR.out 4
            have k5 : w10.cell? ⟨bR, 5, none⟩ = some (.slice none 0 0) := KR.out 5 _ rfl
            have f5 := FR.out 5
            obtain ⟨wz, hwz⟩ : ∃ x, x = set6 w10 bR (.int .i64 0) (.int .i64 0) (.int .i64 0) (.slice none 0 0) (.slice none 0 0) (.slice none 0 0) := ⟨_, rfl⟩
            have KZ : Hid (BoxAt bR Z6 wz) := Lib.hid (by rw [hwz]; exact box_set6 KR.out)
            have RR := Lib.hid (RZ wz KZ.out (by rw [hwz]; exact set6_below (BWo.out) L0.out.2))
            clear RZ
            go_upto_region 33 with fail
            repeat (first | go_values | go_skip | go_guarded | go_step | go_upon)
            rw [show (((((((w10.setCell ⟨bR, 0, none⟩ (.int .i64 0)).setCell ⟨bR, 1, none⟩ (.int .i64 0)).setCell ⟨bR, 2, none⟩ (.int .i64 0)).setCell ⟨bR, 3, none⟩ (.slice none 0 0)).setCell ⟨bR, 4, none⟩ (.slice none 0 0)).setCell ⟨bR, 5, none⟩ (.slice none 0 0))) = wz from hwz.symm]
            have d0 : wz.cell? ⟨bR, 0, none⟩ = some (.int .i64 0) := KZ.out 0 _ rfl
            have d1 : wz.cell? ⟨bR, 1, none⟩ = some (.int .i64 0) := KZ.out 1 _ rfl
            have d2 : wz.cell? ⟨bR, 2, none⟩ = some (.int .i64 0) := KZ.out 2 _ rfl
            have d3 : wz.cell? ⟨bR, 3, none⟩ = some (.slice none 0 0) := KZ.out 3 _ rfl
            have d4 : wz.cell? ⟨bR, 4, none⟩ = some (.slice none 0 0) := KZ.out 4 _ rfl
            have d5 : wz.cell? ⟨bR, 5, none⟩ = some (.slice none 0 0) := KZ.out 5 _ rfl
            exact bodyPost_ret (v := .tuple #[.agg #[.int .i64 0, .int .i64 0, .int .i64 0, .slice none 0 0, .slice none 0 0, .slice none 0 0], .int .i64 4]) (by simp [results, Try.results14, go_sem, d0, d1, d2, d3, d4, d5]) rfl RR.out
          | true =>
            have EN : encR p = (strB (putsB (numsOf p)), 0) := by unfold encR; rw [if_pos hok]
            obtain rfl : ee = 0 := by rw [EEQ.out, EN]
            obtain ⟨st, hst⟩ : ∃ x, x = et := ⟨_, rfl⟩
            rw [← hst]
            rw [show strB (putsB (numsOf p)) = st by rw [hst, ETQ.out, EN]] at DRQ
            have HOK := Lib.hid hok
            clear hst EN hok ETQ EEQ
            by_cases hss2 : st = s
            · have DN : Hid (decR s = (p, 0)) := Lib.hid (by rw [DRQ.out, if_pos ⟨HOK.out, hss2⟩])
              have hq : (st.toList == s.toList) = true := by rw [hss2]; simp
              have hq3 : (st.toList != s.toList) = false := by simp only [bne, hq]; rfl
              clear hss2 DRQ
              obtain ⟨wz, hwz⟩ : ∃ x, x = set6 w10 bR (.int .i64 m0) (.int .i64 m1) (.int .i64 m2) (.slice va j vc) (.slice vam jm vcm) (.slice vao jo vco) := ⟨_, rfl⟩
              have KZ : Hid (BoxAt bR [.int .i64 m0, .int .i64 m1, .int .i64 m2, .slice va j vc, .slice vam jm vcm, .slice vao jo vco] wz) := Lib.hid (by rw [hwz]; exact box_set6 KR.out)
              have RES : Hid (RDecTold (decR s) w (.returned (.tuple #[.agg #[.int .i64 m0, .int .i64 m1, .int .i64 m2, .slice va j vc, .slice vam jm vcm, .slice vao jo vco], .int .i64 0])) wz) := Lib.hid (by
                rw [DN.out]
                refine ⟨_, _, _, by rw [PV.out], ?_, by rw [hwz]; exact set6_below BWo.out L0.out.2⟩
                rw [hwz]
                exact (HL10.out.same (set6_same (fun h => h rfl))).weak)
              have k0 := DC10.out.box 0 _ rfl
              have k1 := DC10.out.box 1 _ rfl
              have k2 := DC10.out.box 2 _ rfl
              have k3 := DC10.out.box 3 _ rfl
              have k4 := DC10.out.box 4 _ rfl
              have k5 := DC10.out.box 5 _ rfl
              have q0 := KR.out 0 _ rfl
              have q1 := KR.out 1 _ rfl
              have q2 := KR.out 2 _ rfl
              have q3 := KR.out 3 _ rfl
              have q4 := KR.out 4 _ rfl
              have q5 := KR.out 5 _ rfl
              have f0 := FR.out 0
              have f1 := FR.out 1
              have f2 := FR.out 2
              have f3 := FR.out 3
              have f4 := FR.out 4
              have f5 := FR.out 5
              go_upto_region 34 with fail
              repeat (first | go_values | go_skip | go_guarded | go_step | go_upon)
              rw [show ((((((w10.setCell ⟨bR, 0, none⟩ (.int .i64 m0)).setCell ⟨bR, 1, none⟩ (.int .i64 m1)).setCell ⟨bR, 2, none⟩ (.int .i64 m2)).setCell ⟨bR, 3, none⟩ (.slice va j vc)).setCell ⟨bR, 4, none⟩ (.slice vam jm vcm)).setCell ⟨bR, 5, none⟩ (.slice vao jo vco)) = wz from hwz.symm]
              have d0 := KZ.out 0 _ rfl
              have d1 := KZ.out 1 _ rfl
              have d2 := KZ.out 2 _ rfl
              have d3 := KZ.out 3 _ rfl
              have d4 := KZ.out 4 _ rfl
              have d5 := KZ.out 5 _ rfl
              exact bodyPost_ret (v := .tuple #[.agg #[.int .i64 m0, .int .i64 m1, .int .i64 m2, .slice va j vc, .slice vam jm vcm, .slice vao jo vco], .int .i64 0]) (by simp [results, Try.results14, go_sem, d0, d1, d2, d3, d4, d5]) rfl RES.out
            · have DN : Hid (decR s = (Pc.zero, 4)) := Lib.hid (by rw [DRQ.out, if_neg (fun h => hss2 h.2)])
              have hq : (st.toList != s.toList) = true := by
                rw [bne_iff_ne]
                intro e
                apply hss2
                rw [ByteArray.toList_eq, ByteArray.toList_eq] at e
                exact ByteArray.ext (Array.toList_inj.1 e)
              have hq2 : ¬ st.toList = s.toList := bne_iff_ne.1 hq
              have hq3 : (st.toList == s.toList) = false := by simpa using hq2
              clear hss2 DRQ
              have DN' : Hid (decR s = (Pc.zero, 4)) := DN
              have RZ : ∀ y, BoxAt bR Z6 y → Below w.heap.size w y → RDecTold (decR s) w (.returned (.tuple #[.agg #[.int .i64 0, .int .i64 0, .int .i64 0, .slice none 0 0, .slice none 0 0, .slice none 0 0], .int .i64 4])) y := fun y _ hb => by
                rw [DN'.out]
                exact ⟨_, _, _, rfl, (has_zero All y), hb⟩
              have k0 : w10.cell? ⟨bR, 0, none⟩ = some (.int .i64 0) := KR.out 0 _ rfl
              have f0 := FR.out 0
              have k1 : w10.cell? ⟨bR, 1, none⟩ = some (.int .i64 0) := KR.out 1 _ rfl
              have f1 := FR.out 1
              have k2 : w10.cell? ⟨bR, 2, none⟩ = some (.int .i64 0) := KR.out 2 _ rfl
              have f2 := FR.out 2
              have k3 : w10.cell? ⟨bR, 3, none⟩ = some (.slice none 0 0) := KR.out 3 _ rfl
              have f3 := FR.out 3
              have k4 : w10.cell? ⟨bR, 4, none⟩ = some (.slice none 0 0) := KR.out 4 _ rfl
              have f4 := FR.out 4
              have k5 : w10.cell? ⟨bR, 5, none⟩ = some (.slice none 0 0) := KR.out 5 _ rfl
              have f5 := FR.out 5
              obtain ⟨wz, hwz⟩ : ∃ x, x = set6 w10 bR (.int .i64 0) (.int .i64 0) (.int .i64 0) (.slice none 0 0) (.slice none 0 0) (.slice none 0 0) := ⟨_, rfl⟩
              have KZ : Hid (BoxAt bR Z6 wz) := Lib.hid (by rw [hwz]; exact box_set6 KR.out)
              have RR := Lib.hid (RZ wz KZ.out (by rw [hwz]; exact set6_below (BWo.out) L0.out.2))
              clear RZ
              go_upto_region 33 with fail
              repeat (first | go_values | go_skip | go_guarded | go_step | go_upon)
              rw [show (((((((w10.setCell ⟨bR, 0, none⟩ (.int .i64 0)).setCell ⟨bR, 1, none⟩ (.int .i64 0)).setCell ⟨bR, 2, none⟩ (.int .i64 0)).setCell ⟨bR, 3, none⟩ (.slice none 0 0)).setCell ⟨bR, 4, none⟩ (.slice none 0 0)).setCell ⟨bR, 5, none⟩ (.slice none 0 0))) = wz from hwz.symm]
              have d0 : wz.cell? ⟨bR, 0, none⟩ = some (.int .i64 0) := KZ.out 0 _ rfl
              have d1 : wz.cell? ⟨bR, 1, none⟩ = some (.int .i64 0) := KZ.out 1 _ rfl
              have d2 : wz.cell? ⟨bR, 2, none⟩ = some (.int .i64 0) := KZ.out 2 _ rfl
              have d3 : wz.cell? ⟨bR, 3, none⟩ = some (.slice none 0 0) := KZ.out 3 _ rfl
              have d4 : wz.cell? ⟨bR, 4, none⟩ = some (.slice none 0 0) := KZ.out 4 _ rfl
              have d5 : wz.cell? ⟨bR, 5, none⟩ = some (.slice none 0 0) := KZ.out 5 _ rfl
              exact bodyPost_ret (v := .tuple #[.agg #[.int .i64 0, .int .i64 0, .int .i64 0, .slice none 0 0, .slice none 0 0, .slice none 0 0], .int .i64 4]) (by simp [results, Try.results14, go_sem, d0, d1, d2, d3, d4, d5]) rfl RR.out
  · have DN : Hid (decR s = (Pc.zero, 4)) := Lib.hid (by unfold decR; rw [if_neg (fun h => hz h.1)])
    have hz' : ((allR s).1 == 0) = false := by simpa using hz
    have hz'' : ((allR s).1 != 0) = true := by simpa using hz
    clear hI hO hb
    have RZ : ∀ y, BoxAt bR Z6 y → Below w.heap.size w y → RDecTold (decR s) w (.returned (.tuple #[.agg #[.int .i64 0, .int .i64 0, .int .i64 0, .slice none 0 0, .slice none 0 0, .slice none 0 0], .int .i64 4])) y := fun y _ hb => by
      rw [DN.out]
      exact ⟨_, _, _, rfl, (has_zero All y), hb⟩
    have k0 : w1.cell? ⟨bR, 0, none⟩ = some (.int .i64 0) := K1.out 0 _ rfl
    have f0 := F1.out 0
    have k1 : w1.cell? ⟨bR, 1, none⟩ = some (.int .i64 0) := K1.out 1 _ rfl
    have f1 := F1.out 1
    have k2 : w1.cell? ⟨bR, 2, none⟩ = some (.int .i64 0) := K1.out 2 _ rfl
    have f2 := F1.out 2
    have k3 : w1.cell? ⟨bR, 3, none⟩ = some (.slice none 0 0) := K1.out 3 _ rfl
    have f3 := F1.out 3
    have k4 : w1.cell? ⟨bR, 4, none⟩ = some (.slice none 0 0) := K1.out 4 _ rfl
    have f4 := F1.out 4
    have k5 : w1.cell? ⟨bR, 5, none⟩ = some (.slice none 0 0) := K1.out 5 _ rfl
    have f5 := F1.out 5
    obtain ⟨wz, hwz⟩ : ∃ x, x = set6 w1 bR (.int .i64 0) (.int .i64 0) (.int .i64 0) (.slice none 0 0) (.slice none 0 0) (.slice none 0 0) := ⟨_, rfl⟩
    have KZ : Hid (BoxAt bR Z6 wz) := Lib.hid (by rw [hwz]; exact box_set6 K1.out)
    have RR := Lib.hid (RZ wz KZ.out (by rw [hwz]; exact set6_below (below_step' B0.out B1.out) L0.out.2))
    clear RZ
    go_wp2_with fail
    rw [show (((((((w1.setCell ⟨bR, 0, none⟩ (.int .i64 0)).setCell ⟨bR, 1, none⟩ (.int .i64 0)).setCell ⟨bR, 2, none⟩ (.int .i64 0)).setCell ⟨bR, 3, none⟩ (.slice none 0 0)).setCell ⟨bR, 4, none⟩ (.slice none 0 0)).setCell ⟨bR, 5, none⟩ (.slice none 0 0))) = wz from hwz.symm]
    have d0 : wz.cell? ⟨bR, 0, none⟩ = some (.int .i64 0) := KZ.out 0 _ rfl
    have d1 : wz.cell? ⟨bR, 1, none⟩ = some (.int .i64 0) := KZ.out 1 _ rfl
    have d2 : wz.cell? ⟨bR, 2, none⟩ = some (.int .i64 0) := KZ.out 2 _ rfl
    have d3 : wz.cell? ⟨bR, 3, none⟩ = some (.slice none 0 0) := KZ.out 3 _ rfl
    have d4 : wz.cell? ⟨bR, 4, none⟩ = some (.slice none 0 0) := KZ.out 4 _ rfl
    have d5 : wz.cell? ⟨bR, 5, none⟩ = some (.slice none 0 0) := KZ.out 5 _ rfl
    exact bodyPost_ret (v := .tuple #[.agg #[.int .i64 0, .int .i64 0, .int .i64 0, .slice none 0 0, .slice none 0 0, .slice none 0 0], .int .i64 4]) (by simp [results, Try.results14, go_sem, d0, d1, d2, d3, d4, d5]) rfl RR.out
end Go.Proofs.Ytcopedhoepblpaa
