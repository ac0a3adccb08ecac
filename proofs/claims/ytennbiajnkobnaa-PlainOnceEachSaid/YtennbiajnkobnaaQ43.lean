/- Texts put together. -/
import Derived.Test.YtennbiajnkobnaaQ02
import Derived.Test.YtennbiajnkobnaaQ28
import Derived.Test.YtennbiajnkobnaaQ34
set_option linter.unusedSimpArgs false
set_option linter.unusedVariables false
namespace Go.Proofs.Ytennbiajnkobnaa
open Go.RowKit Go.PlainAid
theorem made_ints (n : Nat) (h : n ≤ 1000000) (w : World) : Holds True (fun q => q = w.heap.size) (w.alloc (.cells (madeCells #[.int .i64 0] n) 3)) (.slice (some ⟨w.heap.size, 0, none⟩) n n) (dInts (List.replicate n 0)) := by
 refine holds_mk (Q := fun _ => False) (cells := List.replicate n (.int .i64 0)) (by simp) rfl (heap_alloc_new w _) (Nat.le_refl _) (by unfold maxLen; omega) (by rw [size_madeCells, Nat.mul_one]) ?_ (by intro ds hd; obtain ⟨_, _, rfl⟩ := List.mem_map.1 hd; rfl) ?_ (fun _ h => h.elim) (fun h => h)
 ·rw [Nat.mul_one]
  apply List.ext_getElem
  ·simp [size_madeCells, madeCells]
  ·intro i h1 h2
   simp [madeCells, Nat.mod_one]
 ·refine ⟨?_, fun _ _ => False, fun _ _ h => h, fun _ _ _ _ h => h.elim, fun j c d hc hd => ?_⟩
  ·rw [flatten_len (n := 1) (by intro ds hd; obtain ⟨_, _, rfl⟩ := List.mem_map.1 hd; rfl)]; simp
  ·have hj := lt_of_some hc
   simp at hj
   rw [List.getElem?_replicate, if_pos hj] at hc
   cases hc
   have e := flatten_get (n := 1) (ys := (List.replicate n (0 : Int)).map fun m => [dI m]) (i := j) (j := 0) (ds := [dI 0]) (by intro ds hd; obtain ⟨_, _, rfl⟩ := List.mem_map.1 hd; rfl) (by rw [List.getElem?_map, List.getElem?_replicate, if_pos hj]; rfl) (by decide)
   rw [Nat.mul_one, Nat.add_zero, hd] at e
   simp at e
   subst e
   exact has_int _ _ _ _
theorem one_intL' (w : World) (x : Int) : HoldsL True (fun _ => False) w [.int .i64 x] [dI x] := by
 refine ⟨rfl, fun _ _ => False, fun _ _ h => h, fun _ _ _ _ h => h.elim, fun j c d hc hd => ?_⟩
 match j, hc, hd with
 | 0, hc, hd => simp at hc hd; subst hc hd; exact has_int _ _ _ _
 | j + 1, hc, hd => simp at hc
/-- What Start tells. -/
def Began (A : Ap) (w : World) (e : Ending) (w' : World) : Prop := ∃ u1 u2 u3, e = .returned (.agg #[u1, u2, u3]) ∧ HoldsL True (fresh w) w' [u1, u2, u3] (startOf A).d ∧ Below w.heap.size w w'
set_option maxHeartbeats 8000000 in
set_option maxRecDepth 100000 in
theorem start_at (A : Ap) (vG vT : Value) (w : World) (hG : LinksAt w vG A.l) (hT : Has w vT (dTab A.t)) (hgl : A.l.length ≤ 1000000) (htl : A.t.length ≤ 1000000) :
  Calls Try.prog 18 #[.agg #[.int .i64 A.n, vG, vT, .bool A.ff]] w fun e w' => Began A w e w' := by
 obtain ⟨ga, gc, ee⟩ := slice_of (has_of_links hG)
 subst ee
 obtain ⟨ta, tc, ee⟩ := slice_of hT
 subst ee
 obtain ⟨tl, htl2⟩ : ∃ n, n = A.t.length := ⟨_, rfl⟩
 obtain ⟨gl, hgl2⟩ : ∃ n, n = A.l.length := ⟨_, rfl⟩
 rw [← hgl2] at hgl ⊢
 rw [← htl2] at htl hT ⊢
 have hgl5 := hgl
 have HT := Lib.hid hT
 have GL := Lib.hid hgl2
 have TL := Lib.hid htl2
 have hmk := make_lls gl hgl
 have hmi := make_ints gl hgl
 clear hG hT hgl2 htl2 hgl
 go_enter Try.func18, Try.ntmps18
 try simp only [List.append_eq, List.cons_append, List.nil_append]
 go_upto_region 1 with fail
 obtain ⟨y0, hy0⟩ : ∃ y, y = (w.alloc (.cells #[.int .i64 A.n, .slice ga gl gc, .slice ta tl tc, .bool A.ff] 27)).alloc (.cells #[.slice none 0 0, .slice none 0 0, .slice none 0 0] 31) := ⟨_, rfl⟩
 have hb0 : Below w.heap.size w y0 := by rw [hy0]; exact below_step' (below_new _ _) (below_new _ _)
 have hx0 : BoxAt w.heap.size [.int .i64 A.n, .slice ga gl gc, .slice ta tl tc, .bool A.ff] y0 := by rw [hy0]; exact (boxAt_new w [.int .i64 A.n, .slice ga gl gc, .slice ta tl tc, .bool A.ff] _).below (below_new _ _)
 have hx1 : BoxAt (w.heap.size + 1) [.slice none 0 0, .slice none 0 0, .slice none 0 0] y0 := by
  have h := boxAt_new (w.alloc (.cells #[.int .i64 A.n, .slice ga gl gc, .slice ta tl tc, .bool A.ff] 27)) [.slice none 0 0, .slice none 0 0, .slice none 0 0] 31
  rw [size_alloc] at h
  rw [hy0]; exact h
 have ho1 : OpenRow y0 (w.heap.size + 1) 1 3 := by
  have h := heap_alloc_new (w.alloc (.cells #[.int .i64 A.n, .slice ga gl gc, .slice ta tl tc, .bool A.ff] 27)) (.cells #[.slice none 0 0, .slice none 0 0, .slice none 0 0] 31)
  rw [size_alloc] at h
  rw [hy0]; exact ⟨by decide, _, _, h, rfl⟩
 have X1 := Lib.hid hx1
 have O1 := Lib.hid ho1
 clear hx1 ho1
 have Y0z : Hid (w.heap.size + 2 ≤ y0.heap.size) := Lib.hid (by rw [hy0]; simp)
 have B0 := Lib.hid hb0
 have X0 := Lib.hid hx0
 rw [← hy0]
 clear hy0 hb0 hx0
 have QY : Hid (∀ w', Below y0.heap.size y0 w' → w'.cell? ⟨w.heap.size, 1, none⟩ = some (.slice ga gl gc)) := Lib.hid (fun w' hb => X0.out.below hb 1 _ rfl)
 go_cut [3] from 6 to 16 (fun s3 wx => CopR y0 ⟨[], List.replicate gl [], List.replicate gl 0⟩ 0 gl gl s3 wx)
 case first =>
  refine wp_region_held_drew (S := (fun w' => w'.cell? ⟨w.heap.size, 1, none⟩ = some (.slice ga gl gc))) (by kernel_rfl) ?_ (fun hHeld => ?_)
  ·exact QY.out _ (below_drewN (Below.refl _ y0) 1)
  obtain ⟨y1, hy1⟩ : ∃ y, y = y0.drew := ⟨_, rfl⟩
  have HY := Lib.hid (show Below y0.heap.size y0 y1 from by rw [hy1]; exact below_drewN (Below.refl _ y0) 1)
  have hsy : y0.heap.size = y1.heap.size := by rw [hy1]; rfl
  rw [← hy1] at hHeld ⊢
  clear hy1
  have HSZ := Lib.hid hsy
  have hsz : w.heap.size + 2 ≤ y1.heap.size := by rw [← hsy]; exact Y0z.out
  clear hsy
  have BBy := Lib.hid (Below.refl y1.heap.size y1)
  have QS : Hid (∀ w', Below y1.heap.size y1 w' → w'.cell? ⟨w.heap.size, 1, none⟩ = some (.slice ga gl gc)) := Lib.hid (fun w' hb => QY.out _ (below_step' HY.out hb))
  refine tq 0 ?_
  refine tq 1 ?_
  refine tq 2 ?_
  refine tq 3 ?_
  refine tq 5 ?_
  refine tq 6 ?_
  refine tq 7 ?_
  refine tq 8 ?_
  refine wpAnyH_ready (rs := [4, 9, 11]) (by kernel_rfl) (by simp) ?_
  refine AllReadyH.cons rfl (fun K hK => ?_) (AllReadyH.cons rfl (fun K hK => ?_) (AllReadyH.cons rfl (fun K hK => ?_) AllReadyH.nil))
  ·go_simp
   obtain ⟨wM, hwM⟩ : ∃ x, x = y1.alloc (.cells (madeCells #[.slice none 0 0] gl) 51) := ⟨_, rfl⟩
   have RM := Lib.hid (show Holds True (fun q => q = y1.heap.size) wM (.slice (some ⟨y1.heap.size, 0, none⟩) gl gl) (dLls (List.replicate gl [])) from by rw [hwM]; exact made_lls gl hgl5 y1)
   have GM := Lib.hid (show Below y1.heap.size y1 wM from by rw [hwM]; exact below_new _ _)
   have BBM := Lib.hid (below_step' BBy.out GM.out)
   have SZM : y1.heap.size + 1 ≤ wM.heap.size := by rw [hwM]; simp
   rw [← hwM]
   clear hwM
   refine hK.out _ _ ?_ (fun hHeld => ?_)
   ·exact QS.out _ BBM.out
   clear hK K
   try simp only [Act.put, List.getElem_toArray, List.getElem_cons_zero, List.getElem_cons_succ, List.setIfInBounds_toArray, List.set_cons_zero, List.set_cons_succ]
   refine wpAnyH_ready (rs := [9, 11]) (by kernel_rfl) (by simp) ?_
   refine AllReadyH.cons rfl (fun K hK => ?_) (AllReadyH.cons rfl (fun K hK => ?_) AllReadyH.nil)
   ·go_simp
    obtain ⟨wT, hwT⟩ : ∃ x, x = wM.alloc (.cells (madeCells #[.int .i64 0] gl) 3) := ⟨_, rfl⟩
    have RT := Lib.hid (show Holds True (fun q => q = wM.heap.size) wT (.slice (some ⟨wM.heap.size, 0, none⟩) gl gl) (dInts (List.replicate gl 0)) from by rw [hwT]; exact made_ints gl hgl5 wM)
    have GT := Lib.hid (show Below wM.heap.size wM wT from by rw [hwT]; exact below_new _ _)
    have BBT := Lib.hid (below_step' BBM.out GT.out)
    have SZT : wM.heap.size + 1 ≤ wT.heap.size := by rw [hwT]; simp
    rw [← hwT]
    clear hwT
    refine hK.out _ _ ?_ (fun hHeld => ?_)
    ·exact QS.out _ BBT.out
    clear hK K
    try simp only [Act.put, List.getElem_toArray, List.getElem_cons_zero, List.getElem_cons_succ, List.setIfInBounds_toArray, List.set_cons_zero, List.set_cons_succ]
    refine tq 10 ?_
    refine rd 11 fun K hK => ?_
    go_simp
    obtain ⟨wX, hwX⟩ : ∃ x, x = wT.alloc (.cells #[.slice none 0 0, .slice none 0 0, .slice none 0 0] 31) := ⟨_, rfl⟩
    have BX := Lib.hid (show BoxAt wT.heap.size [.slice none 0 0, .slice none 0 0, .slice none 0 0] wX from by rw [hwX]; exact boxAt_new wT [.slice none 0 0, .slice none 0 0, .slice none 0 0] _)
    have OX : Hid (OpenRow wX wT.heap.size 1 3) := Lib.hid (by rw [hwX]; exact ⟨by decide, _, _, heap_alloc_new wT _, rfl⟩)
    have GX := Lib.hid (show Below wT.heap.size wT wX from by rw [hwX]; exact below_new _ _)
    have BBX := Lib.hid (below_step' BBT.out GX.out)
    have SZX : wT.heap.size + 1 ≤ wX.heap.size := by rw [hwX]; simp
    rw [← hwX]
    clear hwX
    refine hK.out _ _ ?_ (fun hHeld => ?_)
    ·exact QS.out _ BBX.out
    clear hK K
    try simp only [Act.put, List.getElem_toArray, List.getElem_cons_zero, List.getElem_cons_succ, List.setIfInBounds_toArray, List.set_cons_zero, List.set_cons_succ]
    refine rd 12 fun K hK => ?_
    have hO := OX.out.same (SameOn.of_below (P := fun _ => True) (Below.refl _ wX)) trivial (by omega)
    have hB := BX.out.below (Below.refl _ wX)
    have k0 := hB 0 _ rfl
    have k1 := hB 1 _ rfl
    have k2 := hB 2 _ rfl
    have f0 := hO.frozen 0
    have f1 := hO.frozen 1
    have f2 := hO.frozen 2
    have HO := Lib.hid hO
    clear hB hO
    go_simp
    clear k0 k1 k2 f0 f1 f2
    refine hK.out _ _ ?_ (fun hHeld => ?_)
    ·exact (set_far3 (by have := BBy.out.size; show wT.heap.size ≠ w.heap.size; omega) (QS.out _ BBX.out))
    clear hK K
    try simp only [Act.put, List.getElem_toArray, List.getElem_cons_zero, List.getElem_cons_succ, List.setIfInBounds_toArray, List.set_cons_zero, List.set_cons_succ]
    refine wpAnyH_done (by kernel_rfl) ?_ _
    go_wp2_with fail
    go_meet
    exact copR_mk (c := ⟨[], List.replicate gl [], List.replicate gl 0⟩) (P1 := fun _ => False) (pb := wT.heap.size) HSZ.out (below_step' HY.out BBX.out) (by omega) HO.out (.nil _ _ _ _ _) (RM.out.later (below_step' (below_step' (Below.refl _ wM) GT.out) GX.out)) (RT.out.later (below_step' (Below.refl _ wT) GX.out)) (fun k a => a.elim) (fun k a => ⟨by omega, by omega⟩) (fun k a => ⟨by omega, by omega⟩) (fun k a b => a.elim) (fun k a b => a.elim) (fun k a b => by omega)
   ·go_simp
    obtain ⟨wX, hwX⟩ : ∃ x, x = wM.alloc (.cells #[.slice none 0 0, .slice none 0 0, .slice none 0 0] 31) := ⟨_, rfl⟩
    have BX := Lib.hid (show BoxAt wM.heap.size [.slice none 0 0, .slice none 0 0, .slice none 0 0] wX from by rw [hwX]; exact boxAt_new wM [.slice none 0 0, .slice none 0 0, .slice none 0 0] _)
    have OX : Hid (OpenRow wX wM.heap.size 1 3) := Lib.hid (by rw [hwX]; exact ⟨by decide, _, _, heap_alloc_new wM _, rfl⟩)
    have GX := Lib.hid (show Below wM.heap.size wM wX from by rw [hwX]; exact below_new _ _)
    have BBX := Lib.hid (below_step' BBM.out GX.out)
    have SZX : wM.heap.size + 1 ≤ wX.heap.size := by rw [hwX]; simp
    rw [← hwX]
    clear hwX
    refine hK.out _ _ ?_ (fun hHeld => ?_)
    ·exact QS.out _ BBX.out
    clear hK K
    try simp only [Act.put, List.getElem_toArray, List.getElem_cons_zero, List.getElem_cons_succ, List.setIfInBounds_toArray, List.set_cons_zero, List.set_cons_succ]
    refine rd 9 fun K hK => ?_
    go_simp
    obtain ⟨wT, hwT⟩ : ∃ x, x = wX.alloc (.cells (madeCells #[.int .i64 0] gl) 3) := ⟨_, rfl⟩
    have RT := Lib.hid (show Holds True (fun q => q = wX.heap.size) wT (.slice (some ⟨wX.heap.size, 0, none⟩) gl gl) (dInts (List.replicate gl 0)) from by rw [hwT]; exact made_ints gl hgl5 wX)
    have GT := Lib.hid (show Below wX.heap.size wX wT from by rw [hwT]; exact below_new _ _)
    have BBT := Lib.hid (below_step' BBX.out GT.out)
    have SZT : wX.heap.size + 1 ≤ wT.heap.size := by rw [hwT]; simp
    rw [← hwT]
    clear hwT
    refine hK.out _ _ ?_ (fun hHeld => ?_)
    ·exact QS.out _ BBT.out
    clear hK K
    try simp only [Act.put, List.getElem_toArray, List.getElem_cons_zero, List.getElem_cons_succ, List.setIfInBounds_toArray, List.set_cons_zero, List.set_cons_succ]
    refine tq 10 ?_
    refine rd 12 fun K hK => ?_
    have hO := OX.out.same (SameOn.of_below (P := fun _ => True) (below_step' (Below.refl _ wX) GT.out)) trivial (by omega)
    have hB := BX.out.below (below_step' (Below.refl _ wX) GT.out)
    have k0 := hB 0 _ rfl
    have k1 := hB 1 _ rfl
    have k2 := hB 2 _ rfl
    have f0 := hO.frozen 0
    have f1 := hO.frozen 1
    have f2 := hO.frozen 2
    have HO := Lib.hid hO
    clear hB hO
    go_simp
    clear k0 k1 k2 f0 f1 f2
    refine hK.out _ _ ?_ (fun hHeld => ?_)
    ·exact (set_far3 (by have := BBy.out.size; show wM.heap.size ≠ w.heap.size; omega) (QS.out _ BBT.out))
    clear hK K
    try simp only [Act.put, List.getElem_toArray, List.getElem_cons_zero, List.getElem_cons_succ, List.setIfInBounds_toArray, List.set_cons_zero, List.set_cons_succ]
    refine wpAnyH_done (by kernel_rfl) ?_ _
    go_wp2_with fail
    go_meet
    exact copR_mk (c := ⟨[], List.replicate gl [], List.replicate gl 0⟩) (P1 := fun _ => False) (pb := wM.heap.size) HSZ.out (below_step' HY.out BBT.out) (by omega) HO.out (.nil _ _ _ _ _) (RM.out.later (below_step' (below_step' (Below.refl _ wM) GX.out) GT.out)) (RT.out.later (Below.refl _ wT)) (fun k a => a.elim) (fun k a => ⟨by omega, by omega⟩) (fun k a => ⟨by omega, by omega⟩) (fun k a b => a.elim) (fun k a b => a.elim) (fun k a b => by omega)
  ·go_simp
   obtain ⟨wT, hwT⟩ : ∃ x, x = y1.alloc (.cells (madeCells #[.int .i64 0] gl) 3) := ⟨_, rfl⟩
   have RT := Lib.hid (show Holds True (fun q => q = y1.heap.size) wT (.slice (some ⟨y1.heap.size, 0, none⟩) gl gl) (dInts (List.replicate gl 0)) from by rw [hwT]; exact made_ints gl hgl5 y1)
   have GT := Lib.hid (show Below y1.heap.size y1 wT from by rw [hwT]; exact below_new _ _)
   have BBT := Lib.hid (below_step' BBy.out GT.out)
   have SZT : y1.heap.size + 1 ≤ wT.heap.size := by rw [hwT]; simp
   rw [← hwT]
   clear hwT
   refine hK.out _ _ ?_ (fun hHeld => ?_)
   ·exact QS.out _ BBT.out
   clear hK K
   try simp only [Act.put, List.getElem_toArray, List.getElem_cons_zero, List.getElem_cons_succ, List.setIfInBounds_toArray, List.set_cons_zero, List.set_cons_succ]
   refine wpAnyH_ready (rs := [4, 11]) (by kernel_rfl) (by simp) ?_
   refine AllReadyH.cons rfl (fun K hK => ?_) (AllReadyH.cons rfl (fun K hK => ?_) AllReadyH.nil)
   ·go_simp
    obtain ⟨wM, hwM⟩ : ∃ x, x = wT.alloc (.cells (madeCells #[.slice none 0 0] gl) 51) := ⟨_, rfl⟩
    have RM := Lib.hid (show Holds True (fun q => q = wT.heap.size) wM (.slice (some ⟨wT.heap.size, 0, none⟩) gl gl) (dLls (List.replicate gl [])) from by rw [hwM]; exact made_lls gl hgl5 wT)
    have GM := Lib.hid (show Below wT.heap.size wT wM from by rw [hwM]; exact below_new _ _)
    have BBM := Lib.hid (below_step' BBT.out GM.out)
    have SZM : wT.heap.size + 1 ≤ wM.heap.size := by rw [hwM]; simp
    rw [← hwM]
    clear hwM
    refine hK.out _ _ ?_ (fun hHeld => ?_)
    ·exact QS.out _ BBM.out
    clear hK K
    try simp only [Act.put, List.getElem_toArray, List.getElem_cons_zero, List.getElem_cons_succ, List.setIfInBounds_toArray, List.set_cons_zero, List.set_cons_succ]
    refine tq 10 ?_
    refine rd 11 fun K hK => ?_
    go_simp
    obtain ⟨wX, hwX⟩ : ∃ x, x = wM.alloc (.cells #[.slice none 0 0, .slice none 0 0, .slice none 0 0] 31) := ⟨_, rfl⟩
    have BX := Lib.hid (show BoxAt wM.heap.size [.slice none 0 0, .slice none 0 0, .slice none 0 0] wX from by rw [hwX]; exact boxAt_new wM [.slice none 0 0, .slice none 0 0, .slice none 0 0] _)
    have OX : Hid (OpenRow wX wM.heap.size 1 3) := Lib.hid (by rw [hwX]; exact ⟨by decide, _, _, heap_alloc_new wM _, rfl⟩)
    have GX := Lib.hid (show Below wM.heap.size wM wX from by rw [hwX]; exact below_new _ _)
    have BBX := Lib.hid (below_step' BBM.out GX.out)
    have SZX : wM.heap.size + 1 ≤ wX.heap.size := by rw [hwX]; simp
    rw [← hwX]
    clear hwX
    refine hK.out _ _ ?_ (fun hHeld => ?_)
    ·exact QS.out _ BBX.out
    clear hK K
    try simp only [Act.put, List.getElem_toArray, List.getElem_cons_zero, List.getElem_cons_succ, List.setIfInBounds_toArray, List.set_cons_zero, List.set_cons_succ]
    refine rd 12 fun K hK => ?_
    have hO := OX.out.same (SameOn.of_below (P := fun _ => True) (Below.refl _ wX)) trivial (by omega)
    have hB := BX.out.below (Below.refl _ wX)
    have k0 := hB 0 _ rfl
    have k1 := hB 1 _ rfl
    have k2 := hB 2 _ rfl
    have f0 := hO.frozen 0
    have f1 := hO.frozen 1
    have f2 := hO.frozen 2
    have HO := Lib.hid hO
    clear hB hO
    go_simp
    clear k0 k1 k2 f0 f1 f2
    refine hK.out _ _ ?_ (fun hHeld => ?_)
    ·exact (set_far3 (by have := BBy.out.size; show wM.heap.size ≠ w.heap.size; omega) (QS.out _ BBX.out))
    clear hK K
    try simp only [Act.put, List.getElem_toArray, List.getElem_cons_zero, List.getElem_cons_succ, List.setIfInBounds_toArray, List.set_cons_zero, List.set_cons_succ]
    refine wpAnyH_done (by kernel_rfl) ?_ _
    go_wp2_with fail
    go_meet
    exact copR_mk (c := ⟨[], List.replicate gl [], List.replicate gl 0⟩) (P1 := fun _ => False) (pb := wM.heap.size) HSZ.out (below_step' HY.out BBX.out) (by omega) HO.out (.nil _ _ _ _ _) (RM.out.later (below_step' (Below.refl _ wM) GX.out)) (RT.out.later (below_step' (below_step' (Below.refl _ wT) GM.out) GX.out)) (fun k a => a.elim) (fun k a => ⟨by omega, by omega⟩) (fun k a => ⟨by omega, by omega⟩) (fun k a b => a.elim) (fun k a b => a.elim) (fun k a b => by omega)
   ·go_simp
    obtain ⟨wX, hwX⟩ : ∃ x, x = wT.alloc (.cells #[.slice none 0 0, .slice none 0 0, .slice none 0 0] 31) := ⟨_, rfl⟩
    have BX := Lib.hid (show BoxAt wT.heap.size [.slice none 0 0, .slice none 0 0, .slice none 0 0] wX from by rw [hwX]; exact boxAt_new wT [.slice none 0 0, .slice none 0 0, .slice none 0 0] _)
    have OX : Hid (OpenRow wX wT.heap.size 1 3) := Lib.hid (by rw [hwX]; exact ⟨by decide, _, _, heap_alloc_new wT _, rfl⟩)
    have GX := Lib.hid (show Below wT.heap.size wT wX from by rw [hwX]; exact below_new _ _)
    have BBX := Lib.hid (below_step' BBT.out GX.out)
    have SZX : wT.heap.size + 1 ≤ wX.heap.size := by rw [hwX]; simp
    rw [← hwX]
    clear hwX
    refine hK.out _ _ ?_ (fun hHeld => ?_)
    ·exact QS.out _ BBX.out
    clear hK K
    try simp only [Act.put, List.getElem_toArray, List.getElem_cons_zero, List.getElem_cons_succ, List.setIfInBounds_toArray, List.set_cons_zero, List.set_cons_succ]
    refine rd 4 fun K hK => ?_
    go_simp
    obtain ⟨wM, hwM⟩ : ∃ x, x = wX.alloc (.cells (madeCells #[.slice none 0 0] gl) 51) := ⟨_, rfl⟩
    have RM := Lib.hid (show Holds True (fun q => q = wX.heap.size) wM (.slice (some ⟨wX.heap.size, 0, none⟩) gl gl) (dLls (List.replicate gl [])) from by rw [hwM]; exact made_lls gl hgl5 wX)
    have GM := Lib.hid (show Below wX.heap.size wX wM from by rw [hwM]; exact below_new _ _)
    have BBM := Lib.hid (below_step' BBX.out GM.out)
    have SZM : wX.heap.size + 1 ≤ wM.heap.size := by rw [hwM]; simp
    rw [← hwM]
    clear hwM
    refine hK.out _ _ ?_ (fun hHeld => ?_)
    ·exact QS.out _ BBM.out
    clear hK K
    try simp only [Act.put, List.getElem_toArray, List.getElem_cons_zero, List.getElem_cons_succ, List.setIfInBounds_toArray, List.set_cons_zero, List.set_cons_succ]
    refine tq 10 ?_
    refine rd 12 fun K hK => ?_
    have hO := OX.out.same (SameOn.of_below (P := fun _ => True) (below_step' (Below.refl _ wX) GM.out)) trivial (by omega)
    have hB := BX.out.below (below_step' (Below.refl _ wX) GM.out)
    have k0 := hB 0 _ rfl
    have k1 := hB 1 _ rfl
    have k2 := hB 2 _ rfl
    have f0 := hO.frozen 0
    have f1 := hO.frozen 1
    have f2 := hO.frozen 2
    have HO := Lib.hid hO
    clear hB hO
    go_simp
    clear k0 k1 k2 f0 f1 f2
    refine hK.out _ _ ?_ (fun hHeld => ?_)
    ·exact (set_far3 (by have := BBy.out.size; show wT.heap.size ≠ w.heap.size; omega) (QS.out _ BBM.out))
    clear hK K
    try simp only [Act.put, List.getElem_toArray, List.getElem_cons_zero, List.getElem_cons_succ, List.setIfInBounds_toArray, List.set_cons_zero, List.set_cons_succ]
    refine wpAnyH_done (by kernel_rfl) ?_ _
    go_wp2_with fail
    go_meet
    exact copR_mk (c := ⟨[], List.replicate gl [], List.replicate gl 0⟩) (P1 := fun _ => False) (pb := wT.heap.size) HSZ.out (below_step' HY.out BBM.out) (by omega) HO.out (.nil _ _ _ _ _) (RM.out.later (Below.refl _ wM)) (RT.out.later (below_step' (below_step' (Below.refl _ wT) GX.out) GM.out)) (fun k a => a.elim) (fun k a => ⟨by omega, by omega⟩) (fun k a => ⟨by omega, by omega⟩) (fun k a b => a.elim) (fun k a b => a.elim) (fun k a b => by omega)
  ·go_simp
   obtain ⟨wX, hwX⟩ : ∃ x, x = y1.alloc (.cells #[.slice none 0 0, .slice none 0 0, .slice none 0 0] 31) := ⟨_, rfl⟩
   have BX := Lib.hid (show BoxAt y1.heap.size [.slice none 0 0, .slice none 0 0, .slice none 0 0] wX from by rw [hwX]; exact boxAt_new y1 [.slice none 0 0, .slice none 0 0, .slice none 0 0] _)
   have OX : Hid (OpenRow wX y1.heap.size 1 3) := Lib.hid (by rw [hwX]; exact ⟨by decide, _, _, heap_alloc_new y1 _, rfl⟩)
   have GX := Lib.hid (show Below y1.heap.size y1 wX from by rw [hwX]; exact below_new _ _)
   have BBX := Lib.hid (below_step' BBy.out GX.out)
   have SZX : y1.heap.size + 1 ≤ wX.heap.size := by rw [hwX]; simp
   rw [← hwX]
   clear hwX
   refine hK.out _ _ ?_ (fun hHeld => ?_)
   ·exact QS.out _ BBX.out
   clear hK K
   try simp only [Act.put, List.getElem_toArray, List.getElem_cons_zero, List.getElem_cons_succ, List.setIfInBounds_toArray, List.set_cons_zero, List.set_cons_succ]
   refine wpAnyH_ready (rs := [4, 9]) (by kernel_rfl) (by simp) ?_
   refine AllReadyH.cons rfl (fun K hK => ?_) (AllReadyH.cons rfl (fun K hK => ?_) AllReadyH.nil)
   ·go_simp
    obtain ⟨wM, hwM⟩ : ∃ x, x = wX.alloc (.cells (madeCells #[.slice none 0 0] gl) 51) := ⟨_, rfl⟩
    have RM := Lib.hid (show Holds True (fun q => q = wX.heap.size) wM (.slice (some ⟨wX.heap.size, 0, none⟩) gl gl) (dLls (List.replicate gl [])) from by rw [hwM]; exact made_lls gl hgl5 wX)
    have GM := Lib.hid (show Below wX.heap.size wX wM from by rw [hwM]; exact below_new _ _)
    have BBM := Lib.hid (below_step' BBX.out GM.out)
    have SZM : wX.heap.size + 1 ≤ wM.heap.size := by rw [hwM]; simp
    rw [← hwM]
    clear hwM
    refine hK.out _ _ ?_ (fun hHeld => ?_)
    ·exact QS.out _ BBM.out
    clear hK K
    try simp only [Act.put, List.getElem_toArray, List.getElem_cons_zero, List.getElem_cons_succ, List.setIfInBounds_toArray, List.set_cons_zero, List.set_cons_succ]
    refine rd 9 fun K hK => ?_
    go_simp
    obtain ⟨wT, hwT⟩ : ∃ x, x = wM.alloc (.cells (madeCells #[.int .i64 0] gl) 3) := ⟨_, rfl⟩
    have RT := Lib.hid (show Holds True (fun q => q = wM.heap.size) wT (.slice (some ⟨wM.heap.size, 0, none⟩) gl gl) (dInts (List.replicate gl 0)) from by rw [hwT]; exact made_ints gl hgl5 wM)
    have GT := Lib.hid (show Below wM.heap.size wM wT from by rw [hwT]; exact below_new _ _)
    have BBT := Lib.hid (below_step' BBM.out GT.out)
    have SZT : wM.heap.size + 1 ≤ wT.heap.size := by rw [hwT]; simp
    rw [← hwT]
    clear hwT
    refine hK.out _ _ ?_ (fun hHeld => ?_)
    ·exact QS.out _ BBT.out
    clear hK K
    try simp only [Act.put, List.getElem_toArray, List.getElem_cons_zero, List.getElem_cons_succ, List.setIfInBounds_toArray, List.set_cons_zero, List.set_cons_succ]
    refine tq 10 ?_
    refine rd 12 fun K hK => ?_
    have hO := OX.out.same (SameOn.of_below (P := fun _ => True) (below_step' (below_step' (Below.refl _ wX) GM.out) GT.out)) trivial (by omega)
    have hB := BX.out.below (below_step' (below_step' (Below.refl _ wX) GM.out) GT.out)
    have k0 := hB 0 _ rfl
    have k1 := hB 1 _ rfl
    have k2 := hB 2 _ rfl
    have f0 := hO.frozen 0
    have f1 := hO.frozen 1
    have f2 := hO.frozen 2
    have HO := Lib.hid hO
    clear hB hO
    go_simp
    clear k0 k1 k2 f0 f1 f2
    refine hK.out _ _ ?_ (fun hHeld => ?_)
    ·exact (set_far3 (by have := BBy.out.size; show y1.heap.size ≠ w.heap.size; omega) (QS.out _ BBT.out))
    clear hK K
    try simp only [Act.put, List.getElem_toArray, List.getElem_cons_zero, List.getElem_cons_succ, List.setIfInBounds_toArray, List.set_cons_zero, List.set_cons_succ]
    refine wpAnyH_done (by kernel_rfl) ?_ _
    go_wp2_with fail
    go_meet
    exact copR_mk (c := ⟨[], List.replicate gl [], List.replicate gl 0⟩) (P1 := fun _ => False) (pb := y1.heap.size) HSZ.out (below_step' HY.out BBT.out) (by omega) HO.out (.nil _ _ _ _ _) (RM.out.later (below_step' (Below.refl _ wM) GT.out)) (RT.out.later (Below.refl _ wT)) (fun k a => a.elim) (fun k a => ⟨by omega, by omega⟩) (fun k a => ⟨by omega, by omega⟩) (fun k a b => a.elim) (fun k a b => a.elim) (fun k a b => by omega)
   ·go_simp
    obtain ⟨wT, hwT⟩ : ∃ x, x = wX.alloc (.cells (madeCells #[.int .i64 0] gl) 3) := ⟨_, rfl⟩
    have RT := Lib.hid (show Holds True (fun q => q = wX.heap.size) wT (.slice (some ⟨wX.heap.size, 0, none⟩) gl gl) (dInts (List.replicate gl 0)) from by rw [hwT]; exact made_ints gl hgl5 wX)
    have GT := Lib.hid (show Below wX.heap.size wX wT from by rw [hwT]; exact below_new _ _)
    have BBT := Lib.hid (below_step' BBX.out GT.out)
    have SZT : wX.heap.size + 1 ≤ wT.heap.size := by rw [hwT]; simp
    rw [← hwT]
    clear hwT
    refine hK.out _ _ ?_ (fun hHeld => ?_)
    ·exact QS.out _ BBT.out
    clear hK K
    try simp only [Act.put, List.getElem_toArray, List.getElem_cons_zero, List.getElem_cons_succ, List.setIfInBounds_toArray, List.set_cons_zero, List.set_cons_succ]
    refine rd 4 fun K hK => ?_
    go_simp
    obtain ⟨wM, hwM⟩ : ∃ x, x = wT.alloc (.cells (madeCells #[.slice none 0 0] gl) 51) := ⟨_, rfl⟩
    have RM := Lib.hid (show Holds True (fun q => q = wT.heap.size) wM (.slice (some ⟨wT.heap.size, 0, none⟩) gl gl) (dLls (List.replicate gl [])) from by rw [hwM]; exact made_lls gl hgl5 wT)
    have GM := Lib.hid (show Below wT.heap.size wT wM from by rw [hwM]; exact below_new _ _)
    have BBM := Lib.hid (below_step' BBT.out GM.out)
    have SZM : wT.heap.size + 1 ≤ wM.heap.size := by rw [hwM]; simp
    rw [← hwM]
    clear hwM
    refine hK.out _ _ ?_ (fun hHeld => ?_)
    ·exact QS.out _ BBM.out
    clear hK K
    try simp only [Act.put, List.getElem_toArray, List.getElem_cons_zero, List.getElem_cons_succ, List.setIfInBounds_toArray, List.set_cons_zero, List.set_cons_succ]
    refine tq 10 ?_
    refine rd 12 fun K hK => ?_
    have hO := OX.out.same (SameOn.of_below (P := fun _ => True) (below_step' (below_step' (Below.refl _ wX) GT.out) GM.out)) trivial (by omega)
    have hB := BX.out.below (below_step' (below_step' (Below.refl _ wX) GT.out) GM.out)
    have k0 := hB 0 _ rfl
    have k1 := hB 1 _ rfl
    have k2 := hB 2 _ rfl
    have f0 := hO.frozen 0
    have f1 := hO.frozen 1
    have f2 := hO.frozen 2
    have HO := Lib.hid hO
    clear hB hO
    go_simp
    clear k0 k1 k2 f0 f1 f2
    refine hK.out _ _ ?_ (fun hHeld => ?_)
    ·exact (set_far3 (by have := BBy.out.size; show y1.heap.size ≠ w.heap.size; omega) (QS.out _ BBM.out))
    clear hK K
    try simp only [Act.put, List.getElem_toArray, List.getElem_cons_zero, List.getElem_cons_succ, List.setIfInBounds_toArray, List.set_cons_zero, List.set_cons_succ]
    refine wpAnyH_done (by kernel_rfl) ?_ _
    go_wp2_with fail
    go_meet
    exact copR_mk (c := ⟨[], List.replicate gl [], List.replicate gl 0⟩) (P1 := fun _ => False) (pb := y1.heap.size) HSZ.out (below_step' HY.out BBM.out) (by omega) HO.out (.nil _ _ _ _ _) (RM.out.later (Below.refl _ wM)) (RT.out.later (below_step' (Below.refl _ wT) GM.out)) (fun k a => a.elim) (fun k a => ⟨by omega, by omega⟩) (fun k a => ⟨by omega, by omega⟩) (fun k a b => a.elim) (fun k a b => a.elim) (fun k a b => by omega)
 case rest =>
  obtain ⟨⟨pb, lb, aA, aN, cA, cN, rfl, hpb, hpx, hp, hop, hL⟩, hbel⟩ := hcut
  obtain ⟨y2, hy2⟩ : ∃ y, y = wc := ⟨_, rfl⟩
  subst hy2
  have k2 := X0.out.below hbel 2 _ rfl
  have HP2 := Lib.hid hp
  have HO2 := Lib.hid hop
  have HL2 := Lib.hid hL
  have BY2 := Lib.hid hbel
  obtain ⟨iq, hiq, hzq, hsq, hbq⟩ := info_parts infoInt
  clear hp hop hL hbel
  go_wp2_with fail
  clear k2
  go_loopw [20] (fun i wr => ∃ (j : Nat) (xa : Option Addr) (xc : Nat), i = .int .i64 j ∧ j ≤ tl ∧ BoxAt pb [.slice xa j xc, .slice (some ⟨lb, 0, none⟩) gl gl, .slice aN gl cN] wr ∧ OpenRow wr pb 1 3 ∧ HoldsL True (fun q => y0.heap.size ≤ q ∧ q ≠ pb) wr [.slice xa j xc, .slice (some ⟨lb, 0, none⟩) gl gl, .slice aN gl cN] (Cf.mk ((A.t.take j).map Nd.start) (List.replicate gl []) (List.replicate gl 0)).d ∧ Below y0.heap.size y0 wr) (fun i _ => tl - (intOf i).toNat)
  case atStart => exact ⟨0, aA, cA, rfl, by omega, HP2.out, HO2.out, HL2.out, BY2.out⟩
  case round =>
   obtain ⟨j, xa, xc, rfl, hj, hp1, hO1, hL1, hB1⟩ := hrel
   have BY := Lib.hid hB1
   by_cases hj2 : j < tl
   ·have hj2' : (j : Int) < tl := by omega
    obtain ⟨x, hx⟩ := some_of_lt (l := A.t) (i := j) (by rw [← TL.out]; exact hj2)
    obtain ⟨tb, tqo, tcap, vs, e, _, _, g0, g1, hvs⟩ := nd_cells (HT.out.later (below_step' B0.out hB1)) hx
    obtain ⟨va, vc, e2⟩ := slice_of hvs
    subst e2
    simp only [Value.slice.injEq] at e
    obtain ⟨e4, e5, e6⟩ := e
    subst e4
    clear e5 e6
    obtain ⟨xl, hxl⟩ : ∃ n, n = x.states.length := ⟨_, rfl⟩
    rw [← hxl] at g1
    obtain ⟨xs, hxs⟩ : ∃ n, n = x.start := ⟨_, rfl⟩
    rw [← hxs] at g0
    have XS := Lib.hid hxs
    obtain ⟨DS, hds⟩ : ∃ d, d = (A.t.take j).map Nd.start := ⟨_, rfl⟩
    rw [← hds] at hL1
    have DD := Lib.hid hds
    clear hds
    have HX := Lib.hid hx
    have pw : pb < wr.heap.size := World.block_lt_of_cell? wr _ (hp1 0 _ rfl)
    have yw : y0.heap.size ≤ wr.heap.size := hB1.size
    obtain ⟨P1, P2, P3, c1, c2, c3, q1, q2, q3, hd⟩ := cf_openL (hL1.wide (P' := fun q => y0.heap.size ≤ q ∧ q ≠ pb ∧ q < wr.heap.size) (fun q hq h => ⟨h.1, h.2, hq⟩))
    obtain ⟨d12, d13, d23⟩ := hd trivial
    have C1 := Lib.hid c1
    have C2 := Lib.hid c2
    have C3 := Lib.hid c3
    have QQ := Lib.hid (And.intro q1 (And.intro q2 (And.intro q3 (And.intro d12 (And.intro d13 d23)))))
    have HP1 := Lib.hid hp1
    have HO1 := Lib.hid hO1
    have z0 := hp1.below (below_new wr (.cells #[.int .i64 xs, .slice va xl vc] 74)) 0 _ rfl
    have HPw : Hid (∀ k, P1 k → y0.heap.size ≤ k) := Lib.hid (fun k h => (QQ.out.1 k h).1)
    clear hx hvs hxl hxs hp1 hO1 hL1 hB1 c1 c2 c3 q1 q2 q3 hd d12 d13 d23
    go_wp2_with (at_builtin; refine appLK rfl _ _ 28 3 iq (.int .i64 0) 1 8 rfl Try.underlying28 hiq hzq hsq hbq rfl (by decide) P1 (fun _ => False) y0 (below_step' BY.out (below_step' (below_new wr _) (below_new _ _))) HPw.out xa j xc (DS.map fun a => [dI a]) [[dI xs]] 1 1 (j + 1) rfl (C1.out.later (below_step' (below_new wr _) (below_new _ _))) (some ⟨wr.heap.size + 1, 0, none⟩) rfl [.int .i64 xs] (fun a ha j u hu => by cases ha; exact news_new (w := wr.alloc (.cells #[.int .i64 xs, .slice va xl vc] 74)) (vs := [.int .i64 xs]) (T := 3) _ (by rw [size_alloc]) j u hu) (fun h => by cases h) (by intro ds hds; simp at hds; subst hds; rfl) rfl (by rw [List.flatten_cons, List.flatten_nil, List.append_nil]; exact one_intL' _ _) (fun _ h => h.elim) rfl ?c1 ?c2 ?_)
    case c1 => unfold maxLen; omega
    case c2 => omega
    intro ao cv w6 hA hS hB6
    have hSx : SameOn (fun q => ¬ P1 q) wr w6 := (SameOn.of_below (below_step' (below_new wr (.cells #[.int .i64 xs, .slice va xl vc] 74)) (below_new _ (.cells #[.int .i64 xs] 3)))).trans hS
    have np : ¬ P1 pb := fun h => (QQ.out.1 _ h).2.1 rfl
    have hB6x := HP1.out.same hSx np
    have hO6 := HO1.out.same hSx np pw
    have c0 := hB6x 0 _ rfl
    have f0 := hO6.frozen 0
    have hnew : Holds True (fun q => P1 q ∨ wr.heap.size ≤ q) w6 (.slice ao (j + 1) cv) (dInts ((A.t.take (j + 1)).map Nd.start)) := by
     have e : (A.t.take (j + 1)).map Nd.start = DS ++ [xs] := by rw [List.take_add_one, HX.out, List.map_append, XS.out, DD.out]; rfl
     rw [e]
     unfold dInts
     rw [List.map_append]
     exact hA.wide (fun k _ h => by
      rcases h with h | h
      ·exact .inl h
      ·exact .inr (by first | omega | (simp at h; omega)))
    have hcf := cf_mkL (P := fun q => y0.heap.size ≤ q ∧ q ≠ pb) (c := ⟨(A.t.take (j + 1)).map Nd.start, List.replicate gl [], List.replicate gl 0⟩) hnew (C2.out.same (hSx.sub (fun q hq h => QQ.out.2.2.2.1 q h hq))) (C3.out.same (hSx.sub (fun q hq h => QQ.out.2.2.2.2.1 q h hq))) (fun q h => h.elim (fun h => ⟨(QQ.out.1 q h).1, (QQ.out.1 q h).2.1⟩) (fun h => ⟨by omega, by omega⟩)) (fun q h => ⟨(QQ.out.2.1 q h).1, (QQ.out.2.1 q h).2.1⟩) (fun q h => ⟨(QQ.out.2.2.1 q h).1, (QQ.out.2.2.1 q h).2.1⟩) (fun q h h' => h.elim (fun h => QQ.out.2.2.2.1 q h h') (fun h => by have := (QQ.out.2.1 q h').2.2; omega)) (fun q h h' => h.elim (fun h => QQ.out.2.2.2.2.1 q h h') (fun h => by have := (QQ.out.2.2.1 q h').2.2; omega)) QQ.out.2.2.2.2.2
    have hL6 := hcf.same ((SameOn.refl (fun q => y0.heap.size ≤ q ∧ q ≠ pb) w6).set ⟨pb, 0, none⟩ (.slice ao (j + 1) cv) (fun h => h.2 rfl))
    have hB7 : BoxAt pb [.slice ao (j + 1) cv, .slice (some ⟨lb, 0, none⟩) gl gl, .slice aN gl cN] (w6.setCell ⟨pb, 0, none⟩ (.slice ao (j + 1) cv)) := boxAt_set (j := 0) (u := .slice ao (j + 1) cv) hB6x
    have HL6 := Lib.hid hL6
    have HB7 := Lib.hid hB7
    have HO7 := Lib.hid (hO6.set 0 (.slice ao (j + 1) cv))
    have HB6 := Lib.hid (Below.setCell (p := ⟨pb, 0, none⟩) hB6 hpb (.slice ao (j + 1) cv))
    clear hA hS hB6 hSx hB6x hO6 hnew hcf hL6 hB7 np
    go_wp2_with fail
    go_roundw
    case rel => exact ⟨j + 1, ao, cv, by go_num, by omega, HB7.out, HO7.out, HL6.out, HB6.out⟩
    case measure => simp [intOf]; omega
   ·obtain rfl : j = tl := by omega
    have hj3 : ¬ (j : Int) < j := by omega
    have x0 := X1.out.below hB1 0 _ rfl
    have x1 := X1.out.below hB1 1 _ rfl
    have x2 := X1.out.below hB1 2 _ rfl
    have hO9 := O1.out.same (SameOn.of_below (P := fun _ => True) hB1) trivial (by have := Y0z.out; omega)
    have f0 := hO9.frozen 0
    have f1 := hO9.frozen 1
    have f2 := hO9.frozen 2
    have p0 := hp1 0 _ rfl
    have p1 := hp1 1 _ rfl
    have p2 := hp1 2 _ rfl
    have he : (⟨(A.t.take j).map Nd.start, List.replicate gl [], List.replicate gl 0⟩ : Cf) = startOf A := by
     have e1 : A.t.take j = A.t := List.take_of_length_le (by have := TL.out; omega)
     have e2 : List.replicate gl ([] : Lks) = A.l.map fun _ => [] := by rw [GL.out]; exact (List.map_const' ..).symm
     have e3 : List.replicate gl (0 : Int) = A.l.map fun _ => 0 := by rw [GL.out]; exact (List.map_const' ..).symm
     unfold startOf
     rw [e1, e2, e3]
    rw [he] at hL1
    have HL9 := Lib.hid hL1
    have HO9 := Lib.hid hO9
    clear hL1 hB1 hp1 hO1 hO9 he
    go_wp2_with fail
    obtain ⟨w9, hw9⟩ : ∃ x, x = ((wr.setCell ⟨w.heap.size + 1, 0, none⟩ (.slice xa j xc)).setCell ⟨w.heap.size + 1, 1, none⟩ (.slice (some ⟨lb, 0, none⟩) gl gl)).setCell ⟨w.heap.size + 1, 2, none⟩ (.slice aN gl cN) := ⟨_, rfl⟩
    have hB9 : BoxAt (w.heap.size + 1) [.slice xa j xc, .slice (some ⟨lb, 0, none⟩) gl gl, .slice aN gl cN] w9 := by rw [hw9]; exact box3_at HO9.out
    have hs9 : SameOn (fun q => y0.heap.size ≤ q ∧ q ≠ pb) wr w9 := by rw [hw9]; exact box3_same (fun h => by have h1 := h.1; have := Y0z.out; omega)
    have hL9 := (HL9.out.same hs9).wide (P' := fresh w) (fun q _ h => by have h1 := h.1; have := Y0z.out; show w.heap.size ≤ q; omega)
    have hb9 : Below w.heap.size w w9 := by
     rw [hw9]
     exact (((below_step' B0.out BY.out).setCell (by show w.heap.size ≤ w.heap.size + 1; omega) _).setCell (by show w.heap.size ≤ w.heap.size + 1; omega) _).setCell (by show w.heap.size ≤ w.heap.size + 1; omega) _
    have r0 := hB9 0 _ rfl
    have r1 := hB9 1 _ rfl
    have r2 := hB9 2 _ rfl
    rw [← hw9]
    refine bodyPost_ret (v := .agg #[.slice xa j xc, .slice (some ⟨lb, 0, none⟩) gl gl, .slice aN gl cN]) (by simp [results, Try.results18, go_sem, r0, r1, r2]) rfl ?_
    exact ⟨_, _, _, rfl, hL9, hb9⟩
end Go.Proofs.Ytennbiajnkobnaa

