/- Texts put together. -/
import Derived.Test.YtennbiajnkobnaaQ02
import Derived.Test.YtennbiajnkobnaaQ24
import Derived.Test.YtennbiajnkobnaaQ26
import Derived.Test.YtennbiajnkobnaaQ27
import Derived.Test.YtennbiajnkobnaaQ34
set_option linter.unusedSimpArgs false
set_option linter.unusedVariables false
namespace Go.Proofs.Ytennbiajnkobnaa
open Go.RowKit Go.PlainAid
set_option maxHeartbeats 8000000 in
set_option maxRecDepth 100000 in
theorem lapp_at (N : Int) (L : Lks) (M : Tab) (ff : Bool) (vG vT : Value) (w : World) (hG : LinksAt w vG L) (hT : Has w vT (dTab M)) (hsm : SmallTab M) :
  Calls Try.prog 9 #[.agg #[.int .i64 N, vG, vT, .bool ff]] w fun e w' => ∃ uT, e = .returned (.agg #[.int .i64 N, vG, uT, .bool ff]) ∧ Has w' uT (dTab M) ∧ Below w.heap.size w w' := by
 obtain ⟨ga, gc, ee⟩ := slice_of (has_of_links hG)
 subst ee
 obtain ⟨ta, tc, ee⟩ := slice_of hT
 subst ee
 have HG := Lib.hid hG
 have HT := Lib.hid hT
 obtain ⟨gl, hgl⟩ : ∃ n, n = L.length := ⟨_, rfl⟩
 obtain ⟨tl, htl⟩ : ∃ n, n = M.length := ⟨_, rfl⟩
 rw [← hgl] at HG ⊢
 rw [← htl] at HT ⊢
 have GL := Lib.hid hgl
 have SM := Lib.hid hsm
 clear hsm
 have HTL := Lib.hid htl
 clear hG hT hgl htl
 go_enter Try.func9, Try.ntmps9
 try simp only [List.append_eq, List.cons_append, List.nil_append]
 go_upto_region 1 with fail
 obtain ⟨y0, hy0⟩ : ∃ y, y = (w.alloc (.cells #[.int .i64 N, .slice ga gl gc, .slice ta tl tc, .bool ff] 27)).alloc (.cells #[.int .i64 0, .slice none 0 0, .slice none 0 0, .bool false] 38) := ⟨_, rfl⟩
 have hb0 : Below w.heap.size w y0 := by rw [hy0]; exact below_step' (below_new _ _) (below_new _ _)
 have hx0 : BoxAt w.heap.size [.int .i64 N, .slice ga gl gc, .slice ta tl tc, .bool ff] y0 := by rw [hy0]; exact (boxAt_new w [.int .i64 N, .slice ga gl gc, .slice ta tl tc, .bool ff] _).below (below_new _ _)
 have hx1 : BoxAt (w.heap.size + 1) [.int .i64 0, .slice none 0 0, .slice none 0 0, .bool false] y0 := by
  have h := boxAt_new (w.alloc (.cells #[.int .i64 N, .slice ga gl gc, .slice ta tl tc, .bool ff] 27)) [.int .i64 0, .slice none 0 0, .slice none 0 0, .bool false] 38
  rw [size_alloc] at h
  rw [hy0]; exact h
 have ho1 : OpenRow y0 (w.heap.size + 1) 1 4 := by
  have h := heap_alloc_new (w.alloc (.cells #[.int .i64 N, .slice ga gl gc, .slice ta tl tc, .bool ff] 27)) (.cells #[.int .i64 0, .slice none 0 0, .slice none 0 0, .bool false] 38)
  rw [size_alloc] at h
  rw [hy0]; exact ⟨by decide, _, _, h, rfl⟩
 have Y0z : w.heap.size + 2 ≤ y0.heap.size := by rw [hy0]; simp
 have B0 := Lib.hid hb0
 have X0 := Lib.hid hx0
 have X1 := Lib.hid hx1
 have O1 := Lib.hid ho1
 rw [← hy0]
 obtain ⟨hw0, hhw⟩ : ∃ h, h = w.heap.size := ⟨_, rfl⟩
 rw [← hhw] at X0 X1 O1 Y0z ⊢
 have HW := Lib.hid hhw
 clear hy0 hb0 hx0 hx1 ho1 hhw
 have QS : Hid (∀ w', Below y0.heap.size y0 w' → w'.cell? ⟨hw0, 0, none⟩ = some (.int .i64 N) ∧ w'.cell? ⟨hw0, 1, none⟩ = some (.slice ga gl gc) ∧ w'.cell? ⟨hw0, 2, none⟩ = some (.slice ta tl tc) ∧ w'.cell? ⟨hw0, 3, none⟩ = some (.bool ff)) := Lib.hid (fun w' hb => ⟨X0.out.below hb 0 _ rfl, X0.out.below hb 1 _ rfl, X0.out.below hb 2 _ rfl, X0.out.below hb 3 _ rfl⟩)
 go_wp2_with fail
 refine wp_region_held_drew (S := (fun w' => w'.cell? ⟨hw0, 0, none⟩ = some (.int .i64 N) ∧ w'.cell? ⟨hw0, 1, none⟩ = some (.slice ga gl gc) ∧ w'.cell? ⟨hw0, 2, none⟩ = some (.slice ta tl tc) ∧ w'.cell? ⟨hw0, 3, none⟩ = some (.bool ff))) (by kernel_rfl) ?_ (fun hHeld => ?_)
 ·exact QS.out _ (below_drewN (Below.refl _ y0) 1)
 have BD := Lib.hid (show Below y0.heap.size y0 y0.drew from below_drewN (Below.refl _ y0) 1)
 obtain ⟨y1, hy1⟩ : ∃ y, y = y0.drew := ⟨_, rfl⟩
 rw [← hy1] at hHeld BD ⊢
 clear hy1
 refine tq 0 ?_
 refine tq 1 ?_
 refine tq 3 ?_
 refine tq 4 ?_
 refine tq 6 ?_
 refine tq 7 ?_
 refine rd 2 fun K hK => ?_
 go_simp
 refine (ref_any N _ L _ (HG.out.below (below_step' B0.out BD.out))).mono ?_
 rintro e w2 ⟨rfl, hb⟩
 simp only [gv]
 have B2 := Lib.hid (below_step' BD.out hb)
 clear hb
 go_wp2_with fail
 refine hK.out _ _ ?_ (fun hHeld => ?_)
 ·exact QS.out _ B2.out
 clear hK K
 try simp only [Act.put, List.getElem_toArray, List.getElem_cons_zero, List.getElem_cons_succ, List.setIfInBounds_toArray, List.set_cons_zero, List.set_cons_succ]
 refine rd 5 fun K hK => ?_
 go_simp
 refine (ref4_in M _ w _ HT.out (below_step' B0.out B2.out) SM.out).mono ?_
 rintro e w3 ⟨uT, rfl, hu, hb⟩
 obtain ⟨ua, uc, ee⟩ := slice_of hu.weak
 subst ee
 rw [← HTL.out] at hu ⊢
 have HU := Lib.hid hu
 have B3 := Lib.hid (below_step' B2.out hb)
 clear hu hb
 go_wp2_with fail
 refine hK.out _ _ ?_ (fun hHeld => ?_)
 ·exact QS.out _ B3.out
 clear hK K
 refine tq 8 ?_
 refine rd 9 fun K hK => ?_
 have hO := O1.out.same (SameOn.of_below (P := fun _ => True) B3.out) trivial (by omega)
 have f0 := hO.frozen 0
 have f1 := hO.frozen 1
 have f2 := hO.frozen 2
 have f3 := hO.frozen 3
 have hB := X1.out.below B3.out
 have k0 := hB 0 _ rfl
 have k1 := hB 1 _ rfl
 have k2 := hB 2 _ rfl
 have k3 := hB 3 _ rfl
 have hs9 := (X0.out.below B3.out)
 have HB := Lib.hid hB
 clear hO hB
 go_simp
 clear f0 f1 f2 f3 k0 k1 k2 k3
 obtain ⟨w9, hw9⟩ : ∃ x, x = (((w3.setCell ⟨hw0 + 1, 0, none⟩ (.int .i64 N)).setCell ⟨hw0 + 1, 1, none⟩ (.slice ga gl gc)).setCell ⟨hw0 + 1, 2, none⟩ (.slice ua tl uc)).setCell ⟨hw0 + 1, 3, none⟩ (.bool ff) := ⟨_, rfl⟩
 have h9 : BoxAt hw0 [.int .i64 N, .slice ga gl gc, .slice ta tl tc, .bool ff] w9 := by rw [hw9]; exact (hs9.set2 (by omega) 0 1 _ _).set2 (by omega) 2 3 _ _
 have hr9 : BoxAt (hw0 + 1) [.int .i64 N, (.slice ga gl gc), (.slice ua tl uc), .bool ff] w9 := by rw [hw9]; exact boxAt_set (j := 3) (u := .bool ff) (boxAt_set (j := 2) (u := (.slice ua tl uc)) (boxAt_set (j := 1) (u := (.slice ga gl gc)) (boxAt_set (j := 0) (u := .int .i64 N) HB.out)))
 have hb9 : Below w.heap.size w w9 := by
  rw [hw9]
  exact ((((below_step' B0.out B3.out).setCell (by rw [← HW.out]; show hw0 ≤ hw0 + 1; omega) _).setCell (by rw [← HW.out]; show hw0 ≤ hw0 + 1; omega) _).setCell (by rw [← HW.out]; show hw0 ≤ hw0 + 1; omega) _).setCell (by rw [← HW.out]; show hw0 ≤ hw0 + 1; omega) _
 have hu9 : Has w9 (.slice ua tl uc) (dTab M) := by
  rw [hw9]
  have hn : ∀ q : Nat, refP w w2 q → q ≠ hw0 + 1 := fun q h => by have h : q < w.heap.size ∨ w2.heap.size ≤ q := h; have := HW.out; have := B0.out.size; have := BD.out.size; have := B2.out.size; omega
  exact (HU.out.same (((((SameOn.refl _ w3).set ⟨hw0 + 1, 0, none⟩ (.int .i64 N) (fun h => hn _ h rfl)).set ⟨hw0 + 1, 1, none⟩ (.slice ga gl gc) (fun h => hn _ h rfl)).set ⟨hw0 + 1, 2, none⟩ (.slice ua tl uc) (fun h => hn _ h rfl)).set ⟨hw0 + 1, 3, none⟩ (.bool ff) (fun h => hn _ h rfl))).weak
 have H9 := Lib.hid h9
 have R0 := hr9 0 _ rfl
 have R1 := hr9 1 _ rfl
 have R2 := hr9 2 _ rfl
 have R3 := hr9 3 _ rfl
 have U9 := Lib.hid hu9
 have BB9 := Lib.hid hb9
 rw [← hw9]
 clear hw9 h9 hr9 hb9 hu9 hs9
 refine hK.out _ _ ?_ (fun hHeld => ?_)
 ·exact ⟨H9.out 0 _ rfl, H9.out 1 _ rfl, H9.out 2 _ rfl, H9.out 3 _ rfl⟩
 clear hK K
 try simp only [Act.put, List.getElem_toArray, List.getElem_cons_zero, List.getElem_cons_succ, List.setIfInBounds_toArray, List.set_cons_zero, List.set_cons_succ]
 refine wpAnyH_done (by kernel_rfl) ?_ _
 go_wp2_with fail
 refine bodyPost_ret (v := .agg #[.int .i64 N, (.slice ga gl gc), (.slice ua tl uc), .bool ff]) (by simp [results, Try.results9, go_sem, R0, R1, R2, R3]) rfl ?_
 exact ⟨_, rfl, U9.out, BB9.out⟩
theorem cut_at' (a : Option Addr) (cap : Nat) (L : Lks) (N : Int) (n m : Nat) (w : World) (hn : n = L.length) (hm : m = (L.take 40).length) (h : LinksAt w (.slice a n cap) L) :
  Calls Try.prog 20 #[gv N (.slice a n cap)] w fun e w' => e = .returned (gv N (.slice a m cap)) ∧ Below w.heap.size w w' := by
 subst hn hm
 exact cut_at a cap L N w h
set_option maxHeartbeats 8000000 in
set_option maxRecDepth 100000 in
theorem lcut_at (N : Int) (L : Lks) (M : Tab) (ff : Bool) (vG vT : Value) (w : World) (hG : LinksAt w vG L) (hT : Has w vT (dTab M)) :
  Calls Try.prog 6 #[.agg #[.int .i64 N, vG, vT, .bool ff]] w fun e w' => ∃ ga gc uT, vG = .slice ga L.length gc ∧ e = .returned (.agg #[.int .i64 N, .slice ga (L.take 40).length gc, uT, .bool ff]) ∧ Holds True (fresh w) w' uT (dTab (cutT M)) ∧ Below w.heap.size w w' := by
 obtain ⟨ga, gc, ee⟩ := slice_of (has_of_links hG)
 subst ee
 obtain ⟨ta, tc, ee⟩ := slice_of hT
 subst ee
 have HG := Lib.hid hG
 have HT := Lib.hid hT
 obtain ⟨gl, hgl⟩ : ∃ n, n = L.length := ⟨_, rfl⟩
 obtain ⟨tl, htl⟩ : ∃ n, n = M.length := ⟨_, rfl⟩
 rw [← hgl] at HG ⊢
 rw [← htl] at HT ⊢
 have GL := Lib.hid hgl
 obtain ⟨ml, hml⟩ : ∃ m, m = (L.take 40).length := ⟨_, rfl⟩
 have ML := Lib.hid hml
 clear hml
 have HTL := Lib.hid htl
 clear hG hT hgl htl
 go_enter Try.func6, Try.ntmps6
 try simp only [List.append_eq, List.cons_append, List.nil_append]
 go_upto_region 1 with fail
 obtain ⟨y0, hy0⟩ : ∃ y, y = (w.alloc (.cells #[.int .i64 N, .slice ga gl gc, .slice ta tl tc, .bool ff] 27)).alloc (.cells #[.int .i64 0, .slice none 0 0, .slice none 0 0, .bool false] 27) := ⟨_, rfl⟩
 have hb0 : Below w.heap.size w y0 := by rw [hy0]; exact below_step' (below_new _ _) (below_new _ _)
 have hx0 : BoxAt w.heap.size [.int .i64 N, .slice ga gl gc, .slice ta tl tc, .bool ff] y0 := by rw [hy0]; exact (boxAt_new w [.int .i64 N, .slice ga gl gc, .slice ta tl tc, .bool ff] _).below (below_new _ _)
 have hx1 : BoxAt (w.heap.size + 1) [.int .i64 0, .slice none 0 0, .slice none 0 0, .bool false] y0 := by
  have h := boxAt_new (w.alloc (.cells #[.int .i64 N, .slice ga gl gc, .slice ta tl tc, .bool ff] 27)) [.int .i64 0, .slice none 0 0, .slice none 0 0, .bool false] 27
  rw [size_alloc] at h
  rw [hy0]; exact h
 have ho1 : OpenRow y0 (w.heap.size + 1) 1 4 := by
  have h := heap_alloc_new (w.alloc (.cells #[.int .i64 N, .slice ga gl gc, .slice ta tl tc, .bool ff] 27)) (.cells #[.int .i64 0, .slice none 0 0, .slice none 0 0, .bool false] 27)
  rw [size_alloc] at h
  rw [hy0]; exact ⟨by decide, _, _, h, rfl⟩
 have Y0z : w.heap.size + 2 ≤ y0.heap.size := by rw [hy0]; simp
 have B0 := Lib.hid hb0
 have X0 := Lib.hid hx0
 have X1 := Lib.hid hx1
 have O1 := Lib.hid ho1
 rw [← hy0]
 obtain ⟨hw0, hhw⟩ : ∃ h, h = w.heap.size := ⟨_, rfl⟩
 rw [← hhw] at X0 X1 O1 Y0z ⊢
 have HW := Lib.hid hhw
 clear hy0 hb0 hx0 hx1 ho1 hhw
 have QS : Hid (∀ w', Below y0.heap.size y0 w' → w'.cell? ⟨hw0, 0, none⟩ = some (.int .i64 N) ∧ w'.cell? ⟨hw0, 1, none⟩ = some (.slice ga gl gc) ∧ w'.cell? ⟨hw0, 2, none⟩ = some (.slice ta tl tc) ∧ w'.cell? ⟨hw0, 3, none⟩ = some (.bool ff)) := Lib.hid (fun w' hb => ⟨X0.out.below hb 0 _ rfl, X0.out.below hb 1 _ rfl, X0.out.below hb 2 _ rfl, X0.out.below hb 3 _ rfl⟩)
 go_wp2_with fail
 refine wp_region_held_drew (S := (fun w' => w'.cell? ⟨hw0, 0, none⟩ = some (.int .i64 N) ∧ w'.cell? ⟨hw0, 1, none⟩ = some (.slice ga gl gc) ∧ w'.cell? ⟨hw0, 2, none⟩ = some (.slice ta tl tc) ∧ w'.cell? ⟨hw0, 3, none⟩ = some (.bool ff))) (by kernel_rfl) ?_ (fun hHeld => ?_)
 ·exact QS.out _ (below_drewN (Below.refl _ y0) 1)
 have BD := Lib.hid (show Below y0.heap.size y0 y0.drew from below_drewN (Below.refl _ y0) 1)
 obtain ⟨y1, hy1⟩ : ∃ y, y = y0.drew := ⟨_, rfl⟩
 rw [← hy1] at hHeld BD ⊢
 clear hy1
 refine tq 0 ?_
 refine tq 1 ?_
 refine tq 3 ?_
 refine tq 4 ?_
 refine tq 6 ?_
 refine tq 7 ?_
 refine rd 2 fun K hK => ?_
 go_simp
 refine (cut_at' ga gc L N gl ml _ GL.out ML.out (HG.out.below (below_step' B0.out BD.out))).mono ?_
 rintro e w2 ⟨rfl, hb⟩
 simp only [gv]
 have B2 := Lib.hid (below_step' BD.out hb)
 clear hb
 go_wp2_with fail
 refine hK.out _ _ ?_ (fun hHeld => ?_)
 ·exact QS.out _ B2.out
 clear hK K
 try simp only [Act.put, List.getElem_toArray, List.getElem_cons_zero, List.getElem_cons_succ, List.setIfInBounds_toArray, List.set_cons_zero, List.set_cons_succ]
 refine rd 5 fun K hK => ?_
 go_simp
 refine (cutT_at M _ _ (HT.out.later (below_step' B0.out B2.out))).mono ?_
 rintro e w3 ⟨uT, rfl, hu, hb⟩
 obtain ⟨ua, uc, ee⟩ := slice_of hu.weak
 subst ee
 obtain ⟨tl', htl'⟩ : ∃ n, n = (cutT M).length := ⟨_, rfl⟩
 rw [← htl'] at hu ⊢
 clear htl'
 have HU := Lib.hid hu
 have B3 := Lib.hid (below_step' B2.out hb)
 clear hu hb
 go_wp2_with fail
 refine hK.out _ _ ?_ (fun hHeld => ?_)
 ·exact QS.out _ B3.out
 clear hK K
 refine tq 8 ?_
 refine rd 9 fun K hK => ?_
 have hO := O1.out.same (SameOn.of_below (P := fun _ => True) B3.out) trivial (by omega)
 have f0 := hO.frozen 0
 have f1 := hO.frozen 1
 have f2 := hO.frozen 2
 have f3 := hO.frozen 3
 have hB := X1.out.below B3.out
 have k0 := hB 0 _ rfl
 have k1 := hB 1 _ rfl
 have k2 := hB 2 _ rfl
 have k3 := hB 3 _ rfl
 have hs9 := (X0.out.below B3.out)
 have HB := Lib.hid hB
 clear hO hB
 go_simp
 clear f0 f1 f2 f3 k0 k1 k2 k3
 obtain ⟨w9, hw9⟩ : ∃ x, x = (((w3.setCell ⟨hw0 + 1, 0, none⟩ (.int .i64 N)).setCell ⟨hw0 + 1, 1, none⟩ (.slice ga ml gc)).setCell ⟨hw0 + 1, 2, none⟩ (.slice ua tl' uc)).setCell ⟨hw0 + 1, 3, none⟩ (.bool ff) := ⟨_, rfl⟩
 have h9 : BoxAt hw0 [.int .i64 N, .slice ga gl gc, .slice ta tl tc, .bool ff] w9 := by rw [hw9]; exact (hs9.set2 (by omega) 0 1 _ _).set2 (by omega) 2 3 _ _
 have hr9 : BoxAt (hw0 + 1) [.int .i64 N, (.slice ga ml gc), (.slice ua tl' uc), .bool ff] w9 := by rw [hw9]; exact boxAt_set (j := 3) (u := .bool ff) (boxAt_set (j := 2) (u := (.slice ua tl' uc)) (boxAt_set (j := 1) (u := (.slice ga ml gc)) (boxAt_set (j := 0) (u := .int .i64 N) HB.out)))
 have hb9 : Below w.heap.size w w9 := by
  rw [hw9]
  exact ((((below_step' B0.out B3.out).setCell (by rw [← HW.out]; show hw0 ≤ hw0 + 1; omega) _).setCell (by rw [← HW.out]; show hw0 ≤ hw0 + 1; omega) _).setCell (by rw [← HW.out]; show hw0 ≤ hw0 + 1; omega) _).setCell (by rw [← HW.out]; show hw0 ≤ hw0 + 1; omega) _
 have hu9 : Holds True (fresh w) w9 (.slice ua tl' uc) (dTab (cutT M)) := by
  rw [hw9]
  have hn : ∀ q : Nat, fresh w2 q → q ≠ hw0 + 1 := fun q h => by have h : w2.heap.size ≤ q := h; have := HW.out; have := B0.out.size; have := BD.out.size; have := B2.out.size; omega
  exact (HU.out.same (((((SameOn.refl _ w3).set ⟨hw0 + 1, 0, none⟩ (.int .i64 N) (fun h => hn _ h rfl)).set ⟨hw0 + 1, 1, none⟩ (.slice ga ml gc) (fun h => hn _ h rfl)).set ⟨hw0 + 1, 2, none⟩ (.slice ua tl' uc) (fun h => hn _ h rfl)).set ⟨hw0 + 1, 3, none⟩ (.bool ff) (fun h => hn _ h rfl))).wide (P' := fresh w) (fun q _ h => by have h : w2.heap.size ≤ q := h; show w.heap.size ≤ q; have := B0.out.size; have := BD.out.size; have := B2.out.size; omega)
 have H9 := Lib.hid h9
 have R0 := hr9 0 _ rfl
 have R1 := hr9 1 _ rfl
 have R2 := hr9 2 _ rfl
 have R3 := hr9 3 _ rfl
 have U9 := Lib.hid hu9
 have BB9 := Lib.hid hb9
 rw [← hw9]
 clear hw9 h9 hr9 hb9 hu9 hs9
 refine hK.out _ _ ?_ (fun hHeld => ?_)
 ·exact ⟨H9.out 0 _ rfl, H9.out 1 _ rfl, H9.out 2 _ rfl, H9.out 3 _ rfl⟩
 clear hK K
 try simp only [Act.put, List.getElem_toArray, List.getElem_cons_zero, List.getElem_cons_succ, List.setIfInBounds_toArray, List.set_cons_zero, List.set_cons_succ]
 refine wpAnyH_done (by kernel_rfl) ?_ _
 go_wp2_with fail
 refine bodyPost_ret (v := .agg #[.int .i64 N, (.slice ga ml gc), (.slice ua tl' uc), .bool ff]) (by simp [results, Try.results6, go_sem, R0, R1, R2, R3]) rfl ?_
 exact ⟨ga, gc, _, by rw [GL.out], by rw [← ML.out], U9.out, BB9.out⟩
end Go.Proofs.Ytennbiajnkobnaa

