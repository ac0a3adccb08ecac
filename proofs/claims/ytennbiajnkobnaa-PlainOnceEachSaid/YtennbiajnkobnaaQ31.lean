/- Texts put together. -/
import Derived.Test.YtennbiajnkobnaaQ02
import Derived.Test.YtennbiajnkobnaaQ30
set_option linter.unusedSimpArgs false
set_option linter.unusedVariables false
namespace Go.Proofs.Ytennbiajnkobnaa
open Go.RowKit Go.PlainAid
set_option maxHeartbeats 8000000 in
set_option maxRecDepth 100000 in
theorem may_at (A : Ap) (c : Cf) (hOK : CfOK A c) (hsm : SmallTab A.t) (s0 s1 s2 s3 s4 : Int) (b mb : Nat) (vG vT v1 v2 v3 : Value) (w : World) (h : SysR A c b mb vG vT v1 v2 v3 w) :
  Calls Try.prog 32 #[.pointer (some ⟨b, 0, none⟩), .agg #[.int .i64 s0, .int .i64 s1, .int .i64 s2, .int .i64 s3, .int .i64 s4]] w fun e w' => MayIs (errOf A c ⟨s0, s1, s2, s3, s4⟩) w e w' := by
 obtain ⟨ep, hep⟩ : ∃ e, e = errOf A c ⟨s0, s1, s2, s3, s4⟩ := ⟨_, rfl⟩
 rw [← hep]
 have EP := Lib.hid hep
 have OK := Lib.hid hOK
 have SM := Lib.hid hsm
 have SR := Lib.hid h
 have hbl : b < w.heap.size := World.block_lt_of_cell? w _ (h.sys.box 2 _ rfl)
 have hml : mb < w.heap.size := (Array.getElem?_eq_some_iff.1 h.sys.map).1
 clear hOK h hsm hep
 have hd : (∃ v1 v2, deedOf s0 = some (.agg #[.func v1 #[] #[], .func v2 #[] #[]])) ∨ deedOf s0 = none := by
  unfold deedOf
  split
  ·exact .inl ⟨_, _, rfl⟩
  ·split
   ·exact .inl ⟨_, _, rfl⟩
   ·exact .inr rfl
 rcases hd with ⟨f1, f2, hd⟩ | hd
 ·have LK : ∀ w' : World, w'.heap[mb]? = some deeds → (Instr.lookup 86 (.map (some mb)) (.int .i64 s0) true).run Try.prog w' = .ok (.tuple #[.agg #[.func f1 #[] #[], .func f2 #[] #[]], .bool true]) w' := fun w' h => look_deed h s0 _ hd true
  have HD := Lib.hid hd
  clear hd
  go_enter Try.func32, Try.ntmps32
  try simp only [List.append_eq, List.cons_append, List.nil_append]
  go_upto_region 1 with fail
  obtain ⟨y0, hy0⟩ : ∃ y, y = w.alloc (.cells #[.int .i64 s0, .int .i64 s1, .int .i64 s2, .int .i64 s3, .int .i64 s4] 50) := ⟨_, rfl⟩
  have hb0 : Below w.heap.size w y0 := by rw [hy0]; exact below_new _ _
  have hx0 : BoxAt w.heap.size [.int .i64 s0, .int .i64 s1, .int .i64 s2, .int .i64 s3, .int .i64 s4] y0 := by rw [hy0]; exact boxAt_new w [.int .i64 s0, .int .i64 s1, .int .i64 s2, .int .i64 s3, .int .i64 s4] _
  have B0 := Lib.hid hb0
  have X0 := Lib.hid hx0
  replace SR := Lib.hid (SR.out.below hb0)
  rw [← hy0]
  clear hy0 hb0 hx0
  have Q1 : Hid (∀ w', Below y0.heap.size y0 w' → w'.cell? ⟨b, 7, none⟩ = some (.map (some mb)) ∧ w'.cell? ⟨w.heap.size, 0, none⟩ = some (.int .i64 s0) ∧ w'.heap[mb]? = some deeds) := Lib.hid (fun w' hb => ⟨SR.out.sys.box.below hb 7 _ rfl, X0.out.below hb 0 _ rfl, (SR.out.sys.below hb).map⟩)
  refine wp_region_held_drew (S := (fun w' => w'.cell? ⟨b, 7, none⟩ = some (.map (some mb)) ∧ w'.cell? ⟨w.heap.size, 0, none⟩ = some (.int .i64 s0) ∧ w'.heap[mb]? = some deeds)) (by kernel_rfl) ?_ (fun hHeld => ?_)
  ·exact Q1.out _ (below_drewN (Below.refl _ y0) 1)
  refine tq 0 ?_
  refine tq 1 ?_
  refine tq 2 ?_
  refine tq 3 ?_
  refine tq 4 ?_
  refine tq 5 ?_
  refine tq 6 ?_
  refine tq 7 ?_
  refine tq 8 ?_
  refine tq 9 ?_
  refine rd 10 fun K hK => ?_
  go_simp
  refine hK.out _ _ ?_ (fun hHeld => ?_)
  ·exact Q1.out _ (by go_grown)
  clear hK K
  try simp only [Act.put, List.getElem_toArray, List.getElem_cons_zero, List.getElem_cons_succ, List.setIfInBounds_toArray, List.set_cons_zero, List.set_cons_succ]
  refine rd 11 fun K hK => ?_
  go_simp
  refine hK.out _ _ ?_ (fun hHeld => ?_)
  ·exact Q1.out _ (by go_grown)
  clear hK K
  try simp only [Act.put, List.getElem_toArray, List.getElem_cons_zero, List.getElem_cons_succ, List.setIfInBounds_toArray, List.set_cons_zero, List.set_cons_succ]
  refine tq 12 ?_
  refine wpAnyH_done (by kernel_rfl) ?_ _
  clear LK
  obtain ⟨y2, hy2⟩ : ∃ y, y = (y0.alloc (.cells #[.func f1 #[] #[], .func f2 #[] #[]] 92)).drew := ⟨_, rfl⟩
  have hb2 : Below y0.heap.size y0 y2 := by rw [hy2]; exact below_drewN (below_new _ _) 1
  have k0 : y2.cell? ⟨y0.heap.size, 0, none⟩ = some (.func f1 #[] #[]) := by rw [hy2]; exact boxAt_new y0 [.func f1 #[] #[], .func f2 #[] #[]] _ 0 _ rfl
  rw [← hy2]
  have B2 := Lib.hid hb2
  have x0 := X0.out.below hb2 0 _ rfl
  have x1 := X0.out.below hb2 1 _ rfl
  have x2 := X0.out.below hb2 2 _ rfl
  have x3 := X0.out.below hb2 3 _ rfl
  have x4 := X0.out.below hb2 4 _ rfl
  clear hy2 hb2
  have hs0 : s0 = 0 ∨ (s0 ≠ 0 ∧ s0 = 1) := by
   have h := HD.out
   unfold deedOf at h
   by_cases h0 : s0 = 0
   ·exact .inl h0
   ·rw [if_neg h0] at h
    by_cases h1 : s0 = 1
    ·exact .inr ⟨h0, h1⟩
    ·rw [if_neg h1] at h; cases h
  rcases hs0 with h0 | ⟨h0, h1⟩
  ·have hf : f1 = .func 52 := by
    have h := HD.out
    unfold deedOf at h
    rw [if_pos h0] at h
    unfold deedP at h
    simp only [Option.some.injEq, Value.agg.injEq, Array.mk.injEq, List.cons.injEq, Value.func.injEq, and_true] at h
    exact h.1.symm
   have hE : ep = errPick A c ⟨s0, s1, s2, s3, s4⟩ := by rw [EP.out]; unfold errOf; rw [if_pos h0]
   subst hf
   have EE := Lib.hid hE
   clear hE h0
   go_wp2_with fail
   refine (mayPick_at A c OK.out SM.out s0 s1 s2 s3 s4 b mb vG vT v1 v2 v3 _ (SR.out.below B2.out)).mono ?_
   rintro e w5 ⟨rfl, hb⟩
   rw [← EE.out]
   have B5 := Lib.hid hb
   clear hb x0 x1 x2 x3 x4 k0
   go_wp2_with fail
   go_ret
   exact ⟨rfl, below_step' B0.out (below_step' B2.out B5.out)⟩
  ·have hf : f1 = .func 54 := by
    have h := HD.out
    unfold deedOf at h
    rw [if_neg h0, if_pos h1] at h
    unfold deedD at h
    simp only [Option.some.injEq, Value.agg.injEq, Array.mk.injEq, List.cons.injEq, Value.func.injEq, and_true] at h
    exact h.1.symm
   have hE : ep = errDel A c ⟨s0, s1, s2, s3, s4⟩ := by rw [EP.out]; unfold errOf; rw [if_neg h0, if_pos h1]
   subst hf
   have EE := Lib.hid hE
   clear hE h0 h1
   go_wp2_with fail
   refine (mayDeliver_at A c OK.out s0 s1 s2 s3 s4 b mb vG vT v1 v2 v3 _ (SR.out.below B2.out)).mono ?_
   rintro e w5 ⟨rfl, hb⟩
   rw [← EE.out]
   have B5 := Lib.hid hb
   clear hb x0 x1 x2 x3 x4 k0
   go_wp2_with fail
   go_ret
   exact ⟨rfl, below_step' B0.out (below_step' B2.out B5.out)⟩
 ·have LK : ∀ w' : World, w'.heap[mb]? = some deeds → (Instr.lookup 86 (.map (some mb)) (.int .i64 s0) true).run Try.prog w' = .ok (.tuple #[.agg #[.nilFunc, .nilFunc], .bool false]) w' := fun w' h => look_none h s0 hd
  have hr : ep = 1 := by
   rw [EP.out]
   unfold errOf
   unfold deedOf at hd
   by_cases h0 : s0 = 0
   ·rw [if_pos h0] at hd; cases hd
   ·rw [if_neg h0] at hd
    by_cases h1 : s0 = 1
    ·rw [if_pos h1] at hd; cases hd
    ·rw [if_neg h0, if_neg h1]
  subst hr
  clear hd
  go_enter Try.func32, Try.ntmps32
  try simp only [List.append_eq, List.cons_append, List.nil_append]
  go_upto_region 1 with fail
  obtain ⟨y0, hy0⟩ : ∃ y, y = w.alloc (.cells #[.int .i64 s0, .int .i64 s1, .int .i64 s2, .int .i64 s3, .int .i64 s4] 50) := ⟨_, rfl⟩
  have hb0 : Below w.heap.size w y0 := by rw [hy0]; exact below_new _ _
  have hx0 : BoxAt w.heap.size [.int .i64 s0, .int .i64 s1, .int .i64 s2, .int .i64 s3, .int .i64 s4] y0 := by rw [hy0]; exact boxAt_new w [.int .i64 s0, .int .i64 s1, .int .i64 s2, .int .i64 s3, .int .i64 s4] _
  have B0 := Lib.hid hb0
  have X0 := Lib.hid hx0
  replace SR := Lib.hid (SR.out.below hb0)
  rw [← hy0]
  clear hy0 hb0 hx0
  have Q1 : Hid (∀ w', Below y0.heap.size y0 w' → w'.cell? ⟨b, 7, none⟩ = some (.map (some mb)) ∧ w'.cell? ⟨w.heap.size, 0, none⟩ = some (.int .i64 s0) ∧ w'.heap[mb]? = some deeds) := Lib.hid (fun w' hb => ⟨SR.out.sys.box.below hb 7 _ rfl, X0.out.below hb 0 _ rfl, (SR.out.sys.below hb).map⟩)
  refine wp_region_held_drew (S := (fun w' => w'.cell? ⟨b, 7, none⟩ = some (.map (some mb)) ∧ w'.cell? ⟨w.heap.size, 0, none⟩ = some (.int .i64 s0) ∧ w'.heap[mb]? = some deeds)) (by kernel_rfl) ?_ (fun hHeld => ?_)
  ·exact Q1.out _ (below_drewN (Below.refl _ y0) 1)
  refine tq 0 ?_
  refine tq 1 ?_
  refine tq 2 ?_
  refine tq 3 ?_
  refine tq 4 ?_
  refine tq 5 ?_
  refine tq 6 ?_
  refine tq 7 ?_
  refine tq 8 ?_
  refine tq 9 ?_
  refine rd 10 fun K hK => ?_
  go_simp
  refine hK.out _ _ ?_ (fun hHeld => ?_)
  ·exact Q1.out _ (by go_grown)
  clear hK K
  try simp only [Act.put, List.getElem_toArray, List.getElem_cons_zero, List.getElem_cons_succ, List.setIfInBounds_toArray, List.set_cons_zero, List.set_cons_succ]
  refine rd 11 fun K hK => ?_
  go_simp
  refine hK.out _ _ ?_ (fun hHeld => ?_)
  ·exact Q1.out _ (by go_grown)
  clear hK K
  try simp only [Act.put, List.getElem_toArray, List.getElem_cons_zero, List.getElem_cons_succ, List.setIfInBounds_toArray, List.set_cons_zero, List.set_cons_succ]
  refine tq 12 ?_
  refine wpAnyH_done (by kernel_rfl) ?_ _
  clear LK
  go_wp2_with fail
  go_ret
  exact ⟨rfl, below_step' B0.out (below_drewN (below_new _ _) 1)⟩
end Go.Proofs.Ytennbiajnkobnaa

