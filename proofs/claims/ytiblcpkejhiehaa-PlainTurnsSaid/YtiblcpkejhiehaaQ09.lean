/- Texts put together. -/
import Derived.Test.YtiblcpkejhiehaaQ00
import Derived.Test.YtiblcpkejhiehaaQ08
set_option linter.unusedSimpArgs false
set_option linter.unusedVariables false
namespace Go.Proofs.Ytiblcpkejhiehaa
open Go.RowKit Go.PlainAid
theorem rise_of {m : Lks} {a q : Int} (h : MsgsOK a q m) : Rise m := fun _ _ _ _ hij hx hy => msgsOK_lt h hij hx hy
theorem found_place {m : Lks} {q : Int} {i : Nat} {b : Bool} (hr : Rise m) (h1 : ∀ (k : Nat) (x : Int × Int), k < i → m[k]? = some x → x.1 < q) (h2 : ∀ (k : Nat) (x : Int × Int), i ≤ k → m[k]? = some x → q ≤ x.1) (h3 : b = true ↔ ∃ x, m[i]? = some x ∧ x.1 = q) : placeL m q = if b then some i else none := by
 cases b with
 | true =>
  obtain ⟨x, hx, he⟩ := h3.1 rfl
  exact placeL_of hx he (fun j y hj hy => by have := h1 j y hj hy; omega)
 | false =>
  show placeL m q = none
  rw [placeL_none]
  intro k x hx he
  rcases Nat.lt_trichotomy k i with hlt | heq | hgt
  ·have := h1 k x hlt hx; omega
  ·subst heq
   have := h3.2 ⟨x, hx, he⟩
   cases this
  ·obtain ⟨y, hy⟩ := some_of_lt (l := m) (i := i) (by have := lt_of_some hx; omega)
   have a1 := h2 i y (Nat.le_refl _) hy
   have a2 := hr i k y x hgt hy hx
   omega
/-- Where a message stands, as placeOf tells it. -/
def PlaceIs (m : Lks) (q : Int) (w : World) (e : Ending) (w' : World) : Prop := ∃ (i : Nat) (b : Bool), e = .returned (.tuple #[.int .i64 i, .bool b]) ∧ i ≤ m.length ∧ placeL m q = (if b then some i else none) ∧ Below w.heap.size w w'
theorem place_in (m : Lks) (q : Int) (ml : Nat) (a : Option Addr) (cap : Nat) (w : World) (h : Has w (.slice a ml cap) (dLinks m)) (hr : Rise m) (hn : ml = m.length ∧ ml ≤ 1000000) :
  Calls Try.prog 82 #[.slice a ml cap, .int .i64 q] w fun e w' => PlaceIs m q w e w' := by
 obtain ⟨hl, hn⟩ := hn
 subst hl
 refine (place_at m q a cap w h hr hn).mono ?_
 rintro e w' ⟨i, b, rfl, h1, h2, h3, h4, h5⟩
 exact ⟨i, b, rfl, h1, found_place hr h2 h3 h4, h5⟩
set_option maxHeartbeats 8000000 in
set_option maxRecDepth 100000 in
theorem mayDeliver_at (A : Ap) (c : Cf) (hOK : CfOK A c) (s0 s1 s2 s3 s4 : Int) (b mb : Nat) (vG vT v1 v2 v3 : Value) (w : World) (h : SysR A c b mb vG vT v1 v2 v3 w) :
  Calls Try.prog 57 #[.pointer (some ⟨b, 0, none⟩), .agg #[.int .i64 s0, .int .i64 s1, .int .i64 s2, .int .i64 s3, .int .i64 s4]] w fun e w' => MayIs (errDel A c ⟨s0, s1, s2, s3, s4⟩) w e w' := by
 obtain ⟨ga, ta, a1, a2, a3, gc, tc, e1, e2, e3, rfl, rfl, rfl, rfl, rfl⟩ := slices_of h
 obtain ⟨n2, hn2⟩ : ∃ n, n = c.links.length := ⟨_, rfl⟩
 rw [← hn2] at h
 obtain ⟨ep, hep⟩ : ∃ e, e = errDel A c ⟨s0, s1, s2, s3, s4⟩ := ⟨_, rfl⟩
 obtain ⟨ff, hff⟩ : ∃ f, f = A.ff := ⟨_, rfl⟩
 rw [← hep]
 have EP := Lib.hid hep
 have FF := Lib.hid hff
 have OK := Lib.hid hOK
 have SR := Lib.hid h
 have N2 := Lib.hid hn2
 have hbl : b < w.heap.size := World.block_lt_of_cell? w _ (h.sys.box 2 _ rfl)
 clear hOK h hn2 hep hff
 go_enter Try.func57, Try.ntmps57
 try simp only [List.append_eq, List.cons_append, List.nil_append]
 go_upto_region 1 with fail
 obtain ⟨y0, hy0⟩ : ∃ y, y = w.alloc (.cells #[.int .i64 s0, .int .i64 s1, .int .i64 s2, .int .i64 s3, .int .i64 s4] 50) := ⟨_, rfl⟩
 have hb0 : Below w.heap.size w y0 := by rw [hy0]; exact below_new _ _
 have hx0 : BoxAt w.heap.size [.int .i64 s0, .int .i64 s1, .int .i64 s2, .int .i64 s3, .int .i64 s4] y0 := by rw [hy0]; exact boxAt_new w [.int .i64 s0, .int .i64 s1, .int .i64 s2, .int .i64 s3, .int .i64 s4] _
 have B0 := Lib.hid hb0
 have X0 := Lib.hid hx0
 replace SR := Lib.hid (SR.out.below hb0)
 rw [← hy0]
 clear hy0 hb0 hx0
 have p3 := X0.out 3 _ rfl
 have p5 := SR.out.sys.box 5 _ rfl
 by_cases g1 : s3 < 0
 ·have g1' : decide (s3 < 0) = true := by simpa using g1
  have hr : ep = 1 := by rw [EP.out]; unfold errDel; rw [if_pos (.inl g1)]
  subst hr
  go_quiet (fail)
  go_wp2_with fail
  go_ret
  exact ⟨rfl, below_step' B0.out (below_drewN (Below.refl _ y0) nq)⟩
 ·have g1' : decide (s3 < 0) = false := by simpa using g1
  by_cases g2 : (n2 : Int) ≤ s3
  ·have g2' : decide ((n2 : Int) ≤ s3) = true := by simpa using g2
   have hr : ep = 1 := by rw [EP.out]; unfold errDel; rw [if_pos (.inr (by rw [← N2.out]; exact g2))]
   subst hr
   go_quiet (fail)
   go_wp2_with fail
   go_ret
   exact ⟨rfl, below_step' B0.out (below_drewN (Below.refl _ y0) nq)⟩
  ·have g2' : decide ((n2 : Int) ≤ s3) = false := by simpa using g2
   obtain ⟨li, hli⟩ := Int.eq_ofNat_of_zero_le (show 0 ≤ s3 by omega)
   subst hli
   have hln : li < n2 := by omega
   have hln' : (li : Int) < n2 := by omega
   obtain ⟨m, hm⟩ := some_of_lt (l := c.links) (i := li) (by rw [← N2.out]; exact hln)
   have hE : ep = if noDel A m s4 then 3 else 0 := by
    rw [EP.out]; unfold errDel
    rw [if_neg (by show ¬ ((li : Int) < 0 ∨ (c.links.length : Int) ≤ li); rw [← N2.out]; omega)]
    show (if noDel A (atL c.links (li : Int)) s4 then (3 : Int) else 0) = _
    rw [atL_of hm]
   have EE := Lib.hid hE
   obtain ⟨q9, hq9⟩ := some_of_lt (l := c.sent) (i := li) (by rw [OK.out.2.sent, ← OK.out.2.links, ← N2.out]; exact hln)
   have hms := OK.out.2.ms li q9 m hq9 hm
   have hml1 := linkOK_len hms
   obtain ⟨lb, lo, ma, mc, e, hlb, e9, hcm, hHm⟩ := lls_at SR.out.l hm
   subst e
   clear e9
   obtain ⟨ml, hml⟩ : ∃ n, n = m.length := ⟨_, rfl⟩
   rw [← hml] at hcm hHm
   have HMS := Lib.hid hHm
   have HML : Hid (ml = m.length ∧ ml ≤ 1000000) := Lib.hid ⟨hml, by omega⟩
   have RI := Lib.hid (rise_of hms.2.2)
   have HC := Lib.hid hcm
   clear hm hE hq9 hms hml1 hml hHm hcm
   go_quiet (fail)
   obtain ⟨y1, hy1⟩ : ∃ y, y = y0.drewN nq := ⟨_, rfl⟩
   have BY := Lib.hid (show Below y0.heap.size y0 y1 from by rw [hy1]; exact below_drewN (Below.refl _ y0) nq)
   rw [← hy1]
   clear hy1 p3 p5
   have Q3 : Hid (∀ w', Below y0.heap.size y0 w' → w'.cell? ⟨b, 5, none⟩ = some (.slice (some ⟨lb, lo, none⟩) n2 e2) ∧ w'.cell? ⟨w.heap.size, 3, none⟩ = some (.int .i64 li) ∧ w'.cell? ⟨w.heap.size, 4, none⟩ = some (.int .i64 s4) ∧ w'.cell? ⟨lb, lo + li, none⟩ = some (.slice ma ml mc)) := Lib.hid (fun w' hb => ⟨SR.out.sys.box.below hb 5 _ rfl, X0.out.below hb 3 _ rfl, X0.out.below hb 4 _ rfl, (hb.cell (by exact hlb)).trans HC.out⟩)
   go_wp2_with fail
   refine wp_region_held_drew (S := (fun w' => w'.cell? ⟨b, 5, none⟩ = some (.slice (some ⟨lb, lo, none⟩) n2 e2) ∧ w'.cell? ⟨w.heap.size, 3, none⟩ = some (.int .i64 li) ∧ w'.cell? ⟨w.heap.size, 4, none⟩ = some (.int .i64 s4) ∧ w'.cell? ⟨lb, lo + li, none⟩ = some (.slice ma ml mc))) (by kernel_rfl) ?_ (fun hHeld => ?_)
   ·exact Q3.out _ (below_step' BY.out (below_drewN (Below.refl _ y1) 1))
   refine tq 0 ?_
   refine tq 1 ?_
   refine tq 2 ?_
   refine tq 3 ?_
   refine tq 4 ?_
   refine tq 5 ?_
   refine tq 6 ?_
   refine tq 7 ?_
   refine tq 8 ?_
   refine tq 9 ?_
   refine tq 10 ?_
   refine rd 11 fun K hK => ?_
   go_simp
   refine (place_in m s4 ml ma mc _ (HMS.out.later (below_step' BY.out (below_drewN (Below.refl _ y1) 1))) RI.out HML.out).mono ?_
   rintro e w3 ⟨i, fb, rfl, hi, hfb, hb⟩
   have B3 := Lib.hid (below_step' BY.out (below_step' (below_drewN (Below.refl _ y1) 1) hb))
   have FI := Lib.hid hi
   have FB := Lib.hid hfb
   clear hb hi hfb
   go_wp2_with fail
   refine hK.out _ _ ?_ (fun hHeld => ?_)
   ·exact Q3.out _ B3.out
   clear hK K
   try simp only [Act.put, List.getElem_toArray, List.getElem_cons_zero, List.getElem_cons_succ, List.setIfInBounds_toArray, List.set_cons_zero, List.set_cons_succ]
   refine tq 12 ?_
   refine tq 13 ?_
   refine tq 14 ?_
   refine tq 15 ?_
   refine tq 16 ?_
   refine wpAnyH_done (by kernel_rfl) ?_ _
   have k3 : w3.cell? ⟨b, 3, none⟩ = some (.bool ff) := by rw [FF.out]; exact SR.out.sys.box.below B3.out 3 _ rfl
   cases fb with
   | false =>
    have hr : ep = 3 := by rw [EE.out]; unfold noDel; rw [FB.out]; rfl
    subst hr
    go_wp2_with fail
    go_ret
    exact ⟨rfl, below_step' B0.out B3.out⟩
   | true =>
    have hE2 : ep = if ff && decide (0 < i) then 3 else 0 := by rw [EE.out]; unfold noDel; rw [FB.out, FF.out]; rfl
    cases ff with
    | false =>
     have hr : ep = 0 := by rw [hE2]; rfl
     subst hr
     clear hE2
     go_wp2_with fail
     go_ret
     exact ⟨rfl, below_step' B0.out B3.out⟩
    | true =>
     by_cases h0 : 0 < i
     ·have h0' : decide ((0 : Int) < i) = true := by simpa using h0
      have hr : ep = 3 := by rw [hE2]; simp [h0]
      subst hr
      clear hE2
      go_wp2_with fail
      go_ret
      exact ⟨rfl, below_step' B0.out B3.out⟩
     ·have h0' : decide ((0 : Int) < i) = false := by simp; omega
      have hr : ep = 0 := by rw [hE2]; simp [h0]
      subst hr
      clear hE2
      go_wp2_with fail
      go_ret
      exact ⟨rfl, below_step' B0.out B3.out⟩
end Go.Proofs.Ytiblcpkejhiehaa

set_option linter.unusedSimpArgs false
set_option linter.unusedVariables false
namespace Go.Proofs.Ytiblcpkejhiehaa
open Go.RowKit Go.PlainAid
set_option maxHeartbeats 8000000 in
set_option maxRecDepth 100000 in
theorem may_at (A : Ap) (c : Cf) (hOK : CfOK A c) (hsm : SmallTab A.t) (s0 s1 s2 s3 s4 : Int) (b mb : Nat) (vG vT v1 v2 v3 : Value) (w : World) (h : SysR A c b mb vG vT v1 v2 v3 w) :
  Calls Try.prog 36 #[.pointer (some ⟨b, 0, none⟩), .agg #[.int .i64 s0, .int .i64 s1, .int .i64 s2, .int .i64 s3, .int .i64 s4]] w fun e w' => MayIs (errOf A c ⟨s0, s1, s2, s3, s4⟩) w e w' := by
 obtain ⟨ep, hep⟩ : ∃ e, e = errOf A c ⟨s0, s1, s2, s3, s4⟩ := ⟨_, rfl⟩
 rw [← hep]
 have EP := Lib.hid hep
 have OK := Lib.hid hOK
 have SM := Lib.hid hsm
 have SR := Lib.hid h
 have hbl : b < w.heap.size := World.block_lt_of_cell? w _ (h.sys.box 2 _ rfl)
 have hml : mb < w.heap.size := (Array.getElem?_eq_some_iff.1 h.sys.map).1
 clear hOK h hsm hep
 have hd : (∃ v1 v2, deedOf s0 = some (.agg #[.func v1 #[] #[], .func v2 #[] #[]])) ∨ deedOf s0 = none := by
  unfold deedOf
  split
  ·exact .inl ⟨_, _, rfl⟩
  ·split
   ·exact .inl ⟨_, _, rfl⟩
   ·exact .inr rfl
 rcases hd with ⟨f1, f2, hd⟩ | hd
 ·have LK : ∀ w' : World, w'.heap[mb]? = some deeds → (Instr.lookup 91 (.map (some mb)) (.int .i64 s0) true).run Try.prog w' = .ok (.tuple #[.agg #[.func f1 #[] #[], .func f2 #[] #[]], .bool true]) w' := fun w' h => look_deed h s0 _ hd true
  have HD := Lib.hid hd
  clear hd
  go_enter Try.func36, Try.ntmps36
  try simp only [List.append_eq, List.cons_append, List.nil_append]
  go_upto_region 1 with fail
  obtain ⟨y0, hy0⟩ : ∃ y, y = w.alloc (.cells #[.int .i64 s0, .int .i64 s1, .int .i64 s2, .int .i64 s3, .int .i64 s4] 50) := ⟨_, rfl⟩
  have hb0 : Below w.heap.size w y0 := by rw [hy0]; exact below_new _ _
  have hx0 : BoxAt w.heap.size [.int .i64 s0, .int .i64 s1, .int .i64 s2, .int .i64 s3, .int .i64 s4] y0 := by rw [hy0]; exact boxAt_new w [.int .i64 s0, .int .i64 s1, .int .i64 s2, .int .i64 s3, .int .i64 s4] _
  have B0 := Lib.hid hb0
  have X0 := Lib.hid hx0
  replace SR := Lib.hid (SR.out.below hb0)
  rw [← hy0]
  clear hy0 hb0 hx0
  have Q1 : Hid (∀ w', Below y0.heap.size y0 w' → w'.cell? ⟨b, 7, none⟩ = some (.map (some mb)) ∧ w'.cell? ⟨w.heap.size, 0, none⟩ = some (.int .i64 s0) ∧ w'.heap[mb]? = some deeds) := Lib.hid (fun w' hb => ⟨SR.out.sys.box.below hb 7 _ rfl, X0.out.below hb 0 _ rfl, (SR.out.sys.below hb).map⟩)
  refine wp_region_held_drew (S := (fun w' => w'.cell? ⟨b, 7, none⟩ = some (.map (some mb)) ∧ w'.cell? ⟨w.heap.size, 0, none⟩ = some (.int .i64 s0) ∧ w'.heap[mb]? = some deeds)) (by kernel_rfl) ?_ (fun hHeld => ?_)
  ·exact Q1.out _ (below_drewN (Below.refl _ y0) 1)
  refine tq 0 ?_
  refine tq 1 ?_
  refine tq 2 ?_
  refine tq 3 ?_
  refine tq 4 ?_
  refine tq 5 ?_
  refine tq 6 ?_
  refine tq 7 ?_
  refine tq 8 ?_
  refine tq 9 ?_
  refine rd 10 fun K hK => ?_
  go_simp
  refine hK.out _ _ ?_ (fun hHeld => ?_)
  ·exact Q1.out _ (by go_grown)
  clear hK K
  try simp only [Act.put, List.getElem_toArray, List.getElem_cons_zero, List.getElem_cons_succ, List.setIfInBounds_toArray, List.set_cons_zero, List.set_cons_succ]
  refine rd 11 fun K hK => ?_
  go_simp
  refine hK.out _ _ ?_ (fun hHeld => ?_)
  ·exact Q1.out _ (by go_grown)
  clear hK K
  try simp only [Act.put, List.getElem_toArray, List.getElem_cons_zero, List.getElem_cons_succ, List.setIfInBounds_toArray, List.set_cons_zero, List.set_cons_succ]
  refine tq 12 ?_
  refine wpAnyH_done (by kernel_rfl) ?_ _
  clear LK
  obtain ⟨y2, hy2⟩ : ∃ y, y = (y0.alloc (.cells #[.func f1 #[] #[], .func f2 #[] #[]] 97)).drew := ⟨_, rfl⟩
  have hb2 : Below y0.heap.size y0 y2 := by rw [hy2]; exact below_drewN (below_new _ _) 1
  have k0 : y2.cell? ⟨y0.heap.size, 0, none⟩ = some (.func f1 #[] #[]) := by rw [hy2]; exact boxAt_new y0 [.func f1 #[] #[], .func f2 #[] #[]] _ 0 _ rfl
  rw [← hy2]
  have B2 := Lib.hid hb2
  have x0 := X0.out.below hb2 0 _ rfl
  have x1 := X0.out.below hb2 1 _ rfl
  have x2 := X0.out.below hb2 2 _ rfl
  have x3 := X0.out.below hb2 3 _ rfl
  have x4 := X0.out.below hb2 4 _ rfl
  clear hy2 hb2
  have hs0 : s0 = 0 ∨ (s0 ≠ 0 ∧ s0 = 1) := by
   have h := HD.out
   unfold deedOf at h
   by_cases h0 : s0 = 0
   ·exact .inl h0
   ·rw [if_neg h0] at h
    by_cases h1 : s0 = 1
    ·exact .inr ⟨h0, h1⟩
    ·rw [if_neg h1] at h; cases h
  rcases hs0 with h0 | ⟨h0, h1⟩
  ·have hf : f1 = .func 55 := by
    have h := HD.out
    unfold deedOf at h
    rw [if_pos h0] at h
    unfold deedP at h
    simp only [Option.some.injEq, Value.agg.injEq, Array.mk.injEq, List.cons.injEq, Value.func.injEq, and_true] at h
    exact h.1.symm
   have hE : ep = errPick A c ⟨s0, s1, s2, s3, s4⟩ := by rw [EP.out]; unfold errOf; rw [if_pos h0]
   subst hf
   have EE := Lib.hid hE
   clear hE h0
   go_wp2_with fail
   refine (mayPick_at A c OK.out SM.out s0 s1 s2 s3 s4 b mb vG vT v1 v2 v3 _ (SR.out.below B2.out)).mono ?_
   rintro e w5 ⟨rfl, hb⟩
   rw [← EE.out]
   have B5 := Lib.hid hb
   clear hb x0 x1 x2 x3 x4 k0
   go_wp2_with fail
   go_ret
   exact ⟨rfl, below_step' B0.out (below_step' B2.out B5.out)⟩
  ·have hf : f1 = .func 57 := by
    have h := HD.out
    unfold deedOf at h
    rw [if_neg h0, if_pos h1] at h
    unfold deedD at h
    simp only [Option.some.injEq, Value.agg.injEq, Array.mk.injEq, List.cons.injEq, Value.func.injEq, and_true] at h
    exact h.1.symm
   have hE : ep = errDel A c ⟨s0, s1, s2, s3, s4⟩ := by rw [EP.out]; unfold errOf; rw [if_neg h0, if_pos h1]
   subst hf
   have EE := Lib.hid hE
   clear hE h0 h1
   go_wp2_with fail
   refine (mayDeliver_at A c OK.out s0 s1 s2 s3 s4 b mb vG vT v1 v2 v3 _ (SR.out.below B2.out)).mono ?_
   rintro e w5 ⟨rfl, hb⟩
   rw [← EE.out]
   have B5 := Lib.hid hb
   clear hb x0 x1 x2 x3 x4 k0
   go_wp2_with fail
   go_ret
   exact ⟨rfl, below_step' B0.out (below_step' B2.out B5.out)⟩
 ·have LK : ∀ w' : World, w'.heap[mb]? = some deeds → (Instr.lookup 91 (.map (some mb)) (.int .i64 s0) true).run Try.prog w' = .ok (.tuple #[.agg #[.nilFunc, .nilFunc], .bool false]) w' := fun w' h => look_none h s0 hd
  have hr : ep = 1 := by
   rw [EP.out]
   unfold errOf
   unfold deedOf at hd
   by_cases h0 : s0 = 0
   ·rw [if_pos h0] at hd; cases hd
   ·rw [if_neg h0] at hd
    by_cases h1 : s0 = 1
    ·rw [if_pos h1] at hd; cases hd
    ·rw [if_neg h0, if_neg h1]
  subst hr
  clear hd
  go_enter Try.func36, Try.ntmps36
  try simp only [List.append_eq, List.cons_append, List.nil_append]
  go_upto_region 1 with fail
  obtain ⟨y0, hy0⟩ : ∃ y, y = w.alloc (.cells #[.int .i64 s0, .int .i64 s1, .int .i64 s2, .int .i64 s3, .int .i64 s4] 50) := ⟨_, rfl⟩
  have hb0 : Below w.heap.size w y0 := by rw [hy0]; exact below_new _ _
  have hx0 : BoxAt w.heap.size [.int .i64 s0, .int .i64 s1, .int .i64 s2, .int .i64 s3, .int .i64 s4] y0 := by rw [hy0]; exact boxAt_new w [.int .i64 s0, .int .i64 s1, .int .i64 s2, .int .i64 s3, .int .i64 s4] _
  have B0 := Lib.hid hb0
  have X0 := Lib.hid hx0
  replace SR := Lib.hid (SR.out.below hb0)
  rw [← hy0]
  clear hy0 hb0 hx0
  have Q1 : Hid (∀ w', Below y0.heap.size y0 w' → w'.cell? ⟨b, 7, none⟩ = some (.map (some mb)) ∧ w'.cell? ⟨w.heap.size, 0, none⟩ = some (.int .i64 s0) ∧ w'.heap[mb]? = some deeds) := Lib.hid (fun w' hb => ⟨SR.out.sys.box.below hb 7 _ rfl, X0.out.below hb 0 _ rfl, (SR.out.sys.below hb).map⟩)
  refine wp_region_held_drew (S := (fun w' => w'.cell? ⟨b, 7, none⟩ = some (.map (some mb)) ∧ w'.cell? ⟨w.heap.size, 0, none⟩ = some (.int .i64 s0) ∧ w'.heap[mb]? = some deeds)) (by kernel_rfl) ?_ (fun hHeld => ?_)
  ·exact Q1.out _ (below_drewN (Below.refl _ y0) 1)
  refine tq 0 ?_
  refine tq 1 ?_
  refine tq 2 ?_
  refine tq 3 ?_
  refine tq 4 ?_
  refine tq 5 ?_
  refine tq 6 ?_
  refine tq 7 ?_
  refine tq 8 ?_
  refine tq 9 ?_
  refine rd 10 fun K hK => ?_
  go_simp
  refine hK.out _ _ ?_ (fun hHeld => ?_)
  ·exact Q1.out _ (by go_grown)
  clear hK K
  try simp only [Act.put, List.getElem_toArray, List.getElem_cons_zero, List.getElem_cons_succ, List.setIfInBounds_toArray, List.set_cons_zero, List.set_cons_succ]
  refine rd 11 fun K hK => ?_
  go_simp
  refine hK.out _ _ ?_ (fun hHeld => ?_)
  ·exact Q1.out _ (by go_grown)
  clear hK K
  try simp only [Act.put, List.getElem_toArray, List.getElem_cons_zero, List.getElem_cons_succ, List.setIfInBounds_toArray, List.set_cons_zero, List.set_cons_succ]
  refine tq 12 ?_
  refine wpAnyH_done (by kernel_rfl) ?_ _
  clear LK
  go_wp2_with fail
  go_ret
  exact ⟨rfl, below_step' B0.out (below_drewN (below_new _ _) 1)⟩
end Go.Proofs.Ytiblcpkejhiehaa

set_option linter.unusedSimpArgs false
set_option linter.unusedVariables false
namespace Go.Proofs.Ytiblcpkejhiehaa
open Go.RowKit Go.PlainAid
/-- What a deed leaves. -/
def Did (c' : Cf) (P : Nat → Prop) (v1 v2 v3 : Value) (wb w : World) (e : Ending) (w' : World) : Prop := e = .returned (.tuple #[]) ∧ (∃ P' : Nat → Prop, HoldsL True P' w' [v1, v2, v3] c'.d ∧ ∀ q, P' q → P q ∨ w.heap.size ≤ q) ∧ SameOn (fun q => ¬ P q) w w' ∧ Below wb.heap.size wb w'
/-- What the system is made of, to be written. -/
structure SysW (A : Ap) (c : Cf) (P : Nat → Prop) (b mb : Nat) (vG vT v1 v2 v3 : Value) (wb w : World) : Prop where
 sys : SysAt b mb A.n vG vT A.ff v1 v2 v3 w
 g : LinksAt wb vG A.l
 t : Has wb vT (dTab A.t)
 cf : HoldsL True P w [v1, v2, v3] c.d
 nb : ¬ P b
 nm : ¬ P mb
 low : ∀ q, P q → wb.heap.size ≤ q
 top : ∀ q, P q → q < w.heap.size
 bel : Below wb.heap.size wb w
set_option maxHeartbeats 8000000 in
set_option maxRecDepth 100000 in
theorem deliver_at (A : Ap) (c : Cf) (hOK : CfOK A c) (hsm : SmallTab A.t) (s0 s1 s2 s3 s4 : Int) (he : errDel A c ⟨s0, s1, s2, s3, s4⟩ = 0) (P : Nat → Prop) (b mb : Nat) (vG vT v1 v2 v3 : Value) (wb w : World) (h : SysW A c P b mb vG vT v1 v2 v3 wb w) :
  Calls Try.prog 58 #[.pointer (some ⟨b, 0, none⟩), .agg #[.int .i64 s0, .int .i64 s1, .int .i64 s2, .int .i64 s3, .int .i64 s4]] w fun e w' => Did (doneDel A c ⟨s0, s1, s2, s3, s4⟩) P v1 v2 v3 wb w e w' := by
 obtain ⟨li, i, m, x, hs3, hm, hat, hpl, hx, hxe, _⟩ := errDel_zero he
 simp only at hs3 hpl hxe hat
 subst hs3
 have hln : li < A.l.length := by have := lt_of_get hm; have := hOK.2.links; omega
 obtain ⟨tn, ks, nd, htn, hnd, hst, hkl⟩ := link_facts hOK hln
 obtain ⟨⟨fr, tn2⟩, hlk⟩ := some_of_lt hln
 have hlk2 : lk A.l li = (fr, tn2) := lk_of hlk
 rw [hlk2] at htn
 simp only at htn
 subst htn
 obtain ⟨lt, hlt⟩ : ∃ l, l = x.2 := ⟨_, rfl⟩
 obtain ⟨q, hqk⟩ : ∃ q : Int, q = (ks : Int) := ⟨_, rfl⟩
 rw [← hqk] at hst
 obtain ⟨q2, hq2⟩ : ∃ q2, q2 = takenAt A.t tn q fr lt := ⟨_, rfl⟩
 have hdone : doneDel A c ⟨s0, s1, s2, (li : Int), s4⟩ = ⟨c.states.set tn q2, c.links.set li (m.eraseIdx i), c.sent⟩ := by
  unfold doneDel
  simp only [hat, hpl, Option.getD_some, Int.toNat_natCast, hlk2, at0_of hst, lk_of hx, ← hlt, ← hq2]
 rw [hdone]
 obtain ⟨q9, hq9⟩ := some_of_lt (l := c.sent) (i := li) (by rw [hOK.2.sent]; exact hln)
 have hms := hOK.2.ms li q9 m hq9 hm
 have hml1 := linkOK_len hms
 have hil : i < m.length := lt_of_some hx
 have hOK' := hOK
 have hSys := h.sys
 obtain ⟨P1, P2, P3, c1, c2, c3, p1, p2, p3, hd⟩ := cf_openL h.cf
 obtain ⟨d12, d13, d23⟩ := hd trivial
 obtain ⟨a1, e1, ee⟩ := slice_of c1.weak
 subst ee
 obtain ⟨a2, e2, ee⟩ := slice_of c2.weak
 subst ee
 obtain ⟨n1, hn1⟩ : ∃ n, n = c.states.length := ⟨_, rfl⟩
 obtain ⟨n2, hn2⟩ : ∃ n, n = c.links.length := ⟨_, rfl⟩
 rw [← hn1] at c1 h ⊢
 rw [← hn2] at c2 h ⊢
 obtain ⟨sb, ee, hPs, hsbl, hsc, _, _⟩ := c1.slot1 hst
 subst ee
 obtain ⟨lb, Q, ma, mc, ee, e9, hPl, hlbl, hcl, hOl, hQP, hQl, hHm, hF⟩ := lls_focus c2 hm
 clear e9
 subst ee
 obtain ⟨ml, hml⟩ : ∃ n, n = m.length := ⟨_, rfl⟩
 obtain ⟨k1, hk1⟩ : ∃ k, m.length = k + 1 := ⟨m.length - 1, by omega⟩
 rw [← hml] at hcl hHm hil hk1
 obtain ⟨ta, tc, ee⟩ := slice_of h.t
 subst ee
 obtain ⟨ga, gc, ee⟩ := slice_of (has_of_links h.g)
 subst ee
 obtain ⟨tl, htl⟩ : ∃ n, n = A.t.length := ⟨_, rfl⟩
 obtain ⟨gl, hgl⟩ : ∃ n, n = A.l.length := ⟨_, rfl⟩
 rw [← htl, ← hgl] at h
 have hrow : ∃ g0, ma = some ⟨g0, 0, none⟩ ∧ Q g0 := by
  obtain ⟨g0, _, _, ee, hQ0, _⟩ := row_open hHm (by omega)
  exact ⟨g0, ee, hQ0⟩
 obtain ⟨g0, ee, hQg0⟩ := hrow
 subst ee
 obtain ⟨xq, lt0⟩ := x
 simp only at hlt hxe
 subst hlt
 obtain ⟨gb, go, ee, g1, g2⟩ := msg_at (has_of_links h.g) hlk
 subst ee
 have hgb : gb < wb.heap.size := World.block_lt_of_cell? wb _ g1
 have G1 := Lib.hid g1
 have G2 := Lib.hid g2
 have hbl : b < w.heap.size := World.block_lt_of_cell? w _ (hSys.box 2 _ rfl)
 have HT := Lib.hid h.t
 have HLO := Lib.hid h.low
 have HTOP := Lib.hid h.top
 have NPb := Lib.hid h.nb
 have NPm := Lib.hid h.nm
 have BW := Lib.hid h.bel
 have SYS := Lib.hid h.sys
 have C1 := Lib.hid c1
 have C3 := Lib.hid c3
 have HF := Lib.hid hF
 have HHM := Lib.hid hHm
 have HX := Lib.hid hx
 have HP1 := Lib.hid p1
 have HP2 := Lib.hid p2
 have HP3 := Lib.hid p3
 have D12 := Lib.hid d12
 have D13 := Lib.hid d13
 have D23 := Lib.hid d23
 have HQP := Lib.hid hQP
 have HQL := Lib.hid hQl
 have HPL := Lib.hid hPl
 have HPS := Lib.hid hPs
 have HQ0 := Lib.hid hQg0
 have HOw := Lib.hid hOl
 have HCw := Lib.hid hcl
 have HST := Lib.hid hst
 have HQ2 := Lib.hid hq2
 have SMT := Lib.hid hsm
 have HML := Lib.hid hml
 have HK1 : Hid (ml = k1 + 1) := Lib.hid hk1
 have HIL := Lib.hid hil
 have HPLC := Lib.hid hpl
 have RI := Lib.hid (rise_of hms.2.2)
 have hm5 : ml ≤ 1000000 := by omega
 have hil' : (i : Int) < ml := by omega
 have hil2 : i < ml := hil
 have hi5 : i ≤ 500 := by omega
 have hwr : IntKind.i64.wrap ((i : Int) + 1) = (i : Int) + 1 := IntWalk.i64_in _ (by omega)
 have hln2 : li < n2 := by rw [hn2]; exact lt_of_some hm
 have hln3 : (li : Int) < n2 := by omega
 have hgl2 : li < gl := by rw [hgl]; exact hln
 have hgl3 : (li : Int) < gl := by omega
 have htn1 : tn < n1 := by rw [hn1]; exact lt_of_some hst
 have htn2 : (tn : Int) < n1 := by omega
 clear h hSys hOK hOK' hdone hq9 hms hml1 c1 c2 c3 p1 p2 p3 hd d12 d13 d23 hF hHm hx hQP hQl hPl hPs hQg0 hOl hcl hst hq2 hsm hml hk1 hil hpl hm hat he hxe hlk hlk2 hnd hkl hn1 hn2 htl hgl hqk hsc g1 g2
 go_enter Try.func58, Try.ntmps58
 try simp only [List.append_eq, List.cons_append, List.nil_append]
 go_upto_region 1 with fail
 obtain ⟨y0, hy0⟩ : ∃ y, y = w.alloc (.cells #[.int .i64 s0, .int .i64 s1, .int .i64 s2, .int .i64 li, .int .i64 s4] 50) := ⟨_, rfl⟩
 have hb0 : Below w.heap.size w y0 := by rw [hy0]; exact below_new _ _
 have hx0 : BoxAt w.heap.size [.int .i64 s0, .int .i64 s1, .int .i64 s2, .int .i64 li, .int .i64 s4] y0 := by rw [hy0]; exact boxAt_new w [.int .i64 s0, .int .i64 s1, .int .i64 s2, .int .i64 li, .int .i64 s4] _
 have B0 := Lib.hid hb0
 have X0 := Lib.hid hx0
 have hw0 : w.heap.size < y0.heap.size := by rw [hy0]; simp
 rw [← hy0]
 clear hy0 hb0 hx0
 have p3 := X0.out 3 _ rfl
 have p5 := SYS.out.box.below B0.out 5 _ rfl
 have pc := (B0.out.cell (by exact hlbl)).trans HCw.out
 go_quiet (fail)
 obtain ⟨y1, hy1⟩ : ∃ y, y = y0.drewN nq := ⟨_, rfl⟩
 have BY := Lib.hid (show Below y0.heap.size y0 y1 from by rw [hy1]; exact below_drewN (Below.refl _ y0) nq)
 rw [← hy1]
 clear hy1 p3 p5 pc
 have p4 := X0.out.below BY.out 4 _ rfl
 go_wp2_with fail
 refine (place_in m s4 ml (some ⟨g0, 0, none⟩) mc _ ((HHM.out.weak.later B0.out).later BY.out) RI.out ⟨HML.out, hm5⟩).mono ?_
 rintro e w3 ⟨i', fb, rfl, _, hfb, hb⟩
 have hii : fb = true ∧ i = i' := by
  rw [HPLC.out] at hfb
  cases fb with
  | false => cases hfb
  | true => simp at hfb; exact ⟨rfl, hfb⟩
 obtain ⟨hf1, hi1⟩ := hii
 subst hf1
 subst hi1
 have B3 := Lib.hid (below_step' (below_step' B0.out BY.out) hb)
 have X3 := Lib.hid ((X0.out.below BY.out).below hb)
 obtain ⟨_, _, ee, x1, x2⟩ := msg_at (HHM.out.weak.later B3.out) HX.out
 simp only [Option.some.injEq, Addr.mk.injEq, and_true] at ee
 obtain ⟨rfl, rfl⟩ := ee
 rw [Nat.zero_add] at x1 x2
 clear hfb hb p4
 go_upto_region 4 with fail
 obtain ⟨y4, hy4⟩ : ∃ y, y = w3.alloc (.cells #[.int .i64 xq, .int .i64 lt] 63) := ⟨_, rfl⟩
 have hb4 : Below w3.heap.size w3 y4 := by rw [hy4]; exact below_new _ _
 have XM := Lib.hid (show BoxAt w3.heap.size [.int .i64 xq, .int .i64 lt] y4 from by rw [hy4]; exact boxAt_new w3 [.int .i64 xq, .int .i64 lt] _)
 have hz3 : w3.heap.size < y4.heap.size := by rw [hy4]; simp
 have B4 := Lib.hid (below_step' B3.out hb4)
 have X4 := Lib.hid (X3.out.below hb4)
 rw [← hy4]
 clear hy4 hb4 x1 x2
 have hz4 : w.heap.size ≤ w3.heap.size := B3.out.size
 have BW4 := Lib.hid (below_step' BW.out B4.out)
 have HBL4 : Hid (b < y4.heap.size) := Lib.hid (by omega)
 have HW4 : Hid (w.heap.size < y4.heap.size) := Lib.hid (by omega)
 have HLB4 : Hid (lb < y4.heap.size) := Lib.hid (by omega)
 have HPw : Hid (∀ q, P q → wb.heap.size ≤ q) := Lib.hid HLO.out
 have NPw : Hid (¬ P w.heap.size) := Lib.hid (fun h => Nat.lt_irrefl _ (HTOP.out _ h))
 have NBG : Hid (b ≠ g0) := Lib.hid (fun e => NPb.out (by rw [e]; exact HP2.out _ (HQP.out _ HQ0.out)))
 have NWG : Hid (w.heap.size ≠ g0) := Lib.hid (fun e => NPw.out (by rw [e]; exact HP2.out _ (HQP.out _ HQ0.out)))
 have NLB : Hid (lb ≠ b) := Lib.hid (fun e => NPb.out (by rw [← e]; exact HP2.out _ HPL.out))
 have NLW : Hid (lb ≠ w.heap.size) := Lib.hid (by omega)
 have HQM := Lib.hid (HHM.out.later B4.out)
 have HCL : Hid (y4.cell? ⟨lb, li, none⟩ = some (.slice (some ⟨g0, 0, none⟩) ml mc)) := Lib.hid ((B4.out.cell (by exact hlbl)).trans HCw.out)
 have HOL := Lib.hid (HOw.out.same (SameOn.of_below (P := fun _ => True) B4.out) trivial hlbl)
 have K5 : Hid (y4.cell? ⟨b, 5, none⟩ = some (.slice (some ⟨lb, 0, none⟩) n2 e2)) := Lib.hid (SYS.out.box.below B4.out 5 _ rfl)
 have K3 : Hid (y4.cell? ⟨w.heap.size, 3, none⟩ = some (.int .i64 li)) := Lib.hid (X4.out 3 _ rfl)
 refine wp_region_held_drew (S := (fun w' => w'.cell? ⟨b, 5, none⟩ = some (.slice (some ⟨lb, 0, none⟩) n2 e2) ∧ w'.cell? ⟨w.heap.size, 3, none⟩ = some (.int .i64 li))) (by kernel_rfl) ?_ (fun hHeld => ?_)
 ·exact ⟨K5.out, K3.out⟩
 refine tq 0 ?_
 refine tq 1 ?_
 refine tq 2 ?_
 refine tq 3 ?_
 refine tq 4 ?_
 refine tq 5 ?_
 refine tq 6 ?_
 refine tq 7 ?_
 refine tq 8 ?_
 refine tq 9 ?_
 refine tq 10 ?_
 refine rd 11 fun K hK => ?_
 go_simp
 refine (delete_at m i (some ⟨g0, 0, none⟩) ml mc _ (HQM.out.later (below_drewN (Below.refl _ y4) 1)) k1 HML.out HK1.out HIL.out (by omega)).mono ?_
 rintro e w5 ⟨g, hg, hQg, rfl, hD, hgr⟩
 simp only [Option.some.injEq, Addr.mk.injEq, and_true] at hg
 subst hg
 have HSD : Hid (SameOn (fun q => q ≠ g0) y4 w5) := Lib.hid ⟨hgr.size, fun b hb hlt => hgr.block b hlt (fun e => by cases e; exact hb rfl)⟩
 have BWD := Lib.hid ((below_drewN BW4.out 1).grown hgr (below_drewN BW4.out 1).size (fun k hk => by cases hk; exact HPw.out _ (HP2.out _ (HQP.out _ hQg))))
 have HDD := Lib.hid hD
 have HQG := Lib.hid hQg
 clear hD hQg hgr
 go_wp2_with fail
 refine hK.out _ _ ?_ (fun hHeld => ?_)
 ·exact ⟨(HSD.out.cell (a := ⟨b, 5, none⟩) NBG.out (by exact HBL4.out)).trans K5.out, (HSD.out.cell (a := ⟨w.heap.size, 3, none⟩) NWG.out (by exact HW4.out)).trans K3.out⟩
 clear hK K
 try simp only [Act.put, List.getElem_toArray, List.getElem_cons_zero, List.getElem_cons_succ, List.setIfInBounds_toArray, List.set_cons_zero, List.set_cons_succ]
 refine tq 12 ?_
 refine rd 13 fun K hK => ?_
 have hne : lb ≠ g0 := fun e => HQL.out (by rw [e]; exact HQG.out)
 have z0 : w5.cell? ⟨lb, li, none⟩ = some (.slice (some ⟨g0, 0, none⟩) ml mc) := (HSD.out.cell (a := ⟨lb, li, none⟩) hne (by exact HLB4.out)).trans HCL.out
 have f0 : w5.frozen? ⟨lb, li, none⟩ = false := (HSD.out.frozen (a := ⟨lb, li, none⟩) hne (by exact HLB4.out)).trans (HOL.out.frozen _)
 have HNE := Lib.hid hne
 clear hne
 have KD := Lib.hid (show (w5.cell? ⟨b, 5, none⟩ = some (.slice (some ⟨lb, 0, none⟩) n2 e2)) ∧ (w5.cell? ⟨w.heap.size, 3, none⟩ = some (.int .i64 li)) from ⟨(HSD.out.cell (a := ⟨b, 5, none⟩) NBG.out (by exact HBL4.out)).trans K5.out, (HSD.out.cell (a := ⟨w.heap.size, 3, none⟩) NWG.out (by exact HW4.out)).trans K3.out⟩)
 go_simp
 clear z0 f0
 refine hK.out _ _ ?_ (fun hHeld => ?_)
 ·exact ⟨set_far (.inl NLB.out) (KD.out.1), set_far (.inl NLW.out) (KD.out.2)⟩
 clear hK K
 try simp only [Act.put, List.getElem_toArray, List.getElem_cons_zero, List.getElem_cons_succ, List.setIfInBounds_toArray, List.set_cons_zero, List.set_cons_succ]
 refine wpAnyH_done (by kernel_rfl) ?_ _
 obtain ⟨y6, hy6⟩ : ∃ y, y = w5.setCell ⟨lb, li, none⟩ (.slice (some ⟨g0, 0, none⟩) k1 mc) := ⟨_, rfl⟩
 have SW5 : Hid (SameOn (fun q => q ≠ g0) w w5) := Lib.hid ((SameOn.of_below B4.out).trans HSD.out)
 have SW6 : Hid (SameOn (fun q => ¬ P2 q) w y6) := Lib.hid (by rw [hy6]; exact (SW5.out.sub (fun q hq e => hq (by rw [e]; exact HQP.out _ HQ0.out))).set _ _ (fun h => h HPL.out))
 have H2 := Lib.hid (show Holds True (fun q => P2 q ∨ Q q) y6 (.slice (some ⟨lb, 0, none⟩) n2 e2) (dLls (c.links.set li (m.eraseIdx i))) from by
  rw [hy6]
  exact HF.out w5 _ _ Q (SW5.out.sub (fun q hq e => hq.2 (by rw [e]; exact HQ0.out))) HDD.out (fun q hq => ⟨fun e => HQL.out (by rw [← e]; exact hq), .inl hq⟩))
 have H1 := Lib.hid (C1.out.same (SW6.out.sub (fun q hq => D12.out q hq)))
 have H3 := Lib.hid (C3.out.same (SW6.out.sub (fun q hq h => D23.out q h hq)))
 have BW6 : Hid (Below wb.heap.size wb y6) := Lib.hid (by rw [hy6]; exact BWD.out.setCell (HLO.out _ (HP2.out _ HPL.out)) _)
 have SYS6 := Lib.hid (SYS.out.same (SW6.out.sub (P' := fun q => ¬ P q) (fun q hq h => hq (HP2.out q h))) NPb.out NPm.out)
 have XM6 : Hid (BoxAt w3.heap.size [.int .i64 xq, .int .i64 lt] y6) := Lib.hid (by
  rw [hy6]
  intro j v e
  have hg : w3.heap.size ≠ g0 := fun e => by have := HTOP.out _ (HP2.out _ (HQP.out _ HQ0.out)); omega
  exact set_far (.inl (by show lb ≠ w3.heap.size; omega)) ((HSD.out.cell (a := ⟨w3.heap.size, j, none⟩) hg (by exact hz3)).trans (XM.out j v e)))
 have K63 : Hid (y6.cell? ⟨w.heap.size, 3, none⟩ = some (.int .i64 li)) := Lib.hid (by rw [hy6]; exact set_far (.inl (by show lb ≠ w.heap.size; omega)) KD.out.2)
 have hz6 : y4.heap.size ≤ y6.heap.size := by rw [hy6]; simp; exact HSD.out.1
 rw [← hy6]
 clear hy6
 have k1s := SYS6.out.box 1 _ rfl
 have k3s := K63.out
 have gg1 := (BW6.out.cell (by exact hgb)).trans G1.out
 have gg2 := (BW6.out.cell (by exact hgb)).trans G2.out
 go_wp2_with fail
 go_quiet (fail)
 obtain ⟨y7, hy7⟩ : ∃ y, y = y6.drewN nq := ⟨_, rfl⟩
 have B7 := Lib.hid (show Below y6.heap.size y6 y7 from by rw [hy7]; exact below_drewN (Below.refl _ y6) nq)
 rw [← hy7]
 clear hy7 k1s k3s gg1 gg2
 have HT7 := Lib.hid (HT.out.later (below_step' BW6.out B7.out))
 obtain ⟨sb', ee, _, hsb6, hsc6, hfz6, _⟩ := H1.out.slot1 HST.out
 simp only [Option.some.injEq, Addr.mk.injEq, and_true] at ee
 subst ee
 have HSC7 : Hid (∀ w', Below y7.heap.size y7 w' → w'.cell? ⟨sb, tn, none⟩ = some (.int .i64 q)) := Lib.hid (fun w' hb => ((below_step' B7.out hb).cell (by exact hsb6)).trans hsc6)
 have HFZ7 : Hid (∀ w', Below y7.heap.size y7 w' → w'.frozen? ⟨sb, tn, none⟩ = false) := Lib.hid (fun w' hb => (World.frozen?_of_block (a := ⟨sb, tn, none⟩) ((below_step' B7.out hb).block _ hsb6)).trans hfz6)
 have hsw : sb < w.heap.size := HTOP.out _ (HP1.out _ HPS.out)
 have HSB : Hid (sb ≠ b) := Lib.hid (fun e => NPb.out (by rw [← e]; exact HP1.out _ HPS.out))
 have HSM : Hid (sb ≠ w3.heap.size) := Lib.hid (by omega)
 clear hsc6 hfz6 hsb6
 obtain ⟨bm, hbm⟩ : ∃ n, n = w3.heap.size := ⟨_, rfl⟩
 have Q6 : Hid (∀ w', Below y7.heap.size y7 w' → w'.cell? ⟨b, 4, none⟩ = some (.slice (some ⟨sb, 0, none⟩) n1 e1) ∧ w'.cell? ⟨b, 2, none⟩ = some (.slice ta tl tc) ∧ w'.cell? ⟨w3.heap.size, 1, none⟩ = some (.int .i64 lt)) := Lib.hid (fun w' hb => ⟨SYS6.out.box.below (below_step' B7.out hb) 4 _ rfl, SYS6.out.box.below (below_step' B7.out hb) 2 _ rfl, XM6.out.below (below_step' B7.out hb) 1 _ rfl⟩)
 clear hbm bm
 go_wp2_with fail
 refine wp_region_held_drew (S := (fun w' => w'.cell? ⟨b, 4, none⟩ = some (.slice (some ⟨sb, 0, none⟩) n1 e1) ∧ w'.cell? ⟨b, 2, none⟩ = some (.slice ta tl tc) ∧ w'.cell? ⟨w3.heap.size, 1, none⟩ = some (.int .i64 lt))) (by kernel_rfl) ?_ (fun hHeld => ?_)
 ·exact Q6.out _ (below_drewN (Below.refl _ y7) 1)
 refine tq 0 ?_
 refine tq 1 ?_
 refine tq 2 ?_
 refine tq 3 ?_
 refine tq 4 ?_
 refine tq 5 ?_
 refine tq 6 ?_
 refine tq 7 ?_
 refine tq 8 ?_
 refine tq 9 ?_
 refine tq 10 ?_
 refine tq 11 ?_
 refine tq 12 ?_
 refine tq 13 ?_
 refine tq 14 ?_
 refine tq 15 ?_
 refine tq 16 ?_
 refine tq 17 ?_
 refine tq 18 ?_
 refine tq 20 ?_
 refine tq 21 ?_
 refine tq 22 ?_
 refine rd 19 fun K hK => ?_
 have z0 := HSC7.out _ (Below.refl _ y7)
 go_simp
 clear z0
 refine hK.out _ _ ?_ (fun hHeld => ?_)
 ·exact Q6.out _ (below_drewN (Below.refl _ y7) 1)
 clear hK K
 try simp only [Act.put, List.getElem_toArray, List.getElem_cons_zero, List.getElem_cons_succ, List.setIfInBounds_toArray, List.set_cons_zero, List.set_cons_succ]
 refine rd 23 fun K hK => ?_
 go_simp
 refine (taken_at A.t tn q fr lt _ _ (HT7.out.later (below_drewN (Below.refl _ y7) 1)) (smallSt_at SMT.out _ _).2.2.1).mono ?_
 rintro e w8 ⟨rfl, hb⟩
 rw [← HQ2.out]
 have B8 := Lib.hid (below_step' (below_drewN (Below.refl _ y7) 1) hb)
 clear hb
 go_wp2_with fail
 refine hK.out _ _ ?_ (fun hHeld => ?_)
 ·exact Q6.out _ B8.out
 clear hK K
 try simp only [Act.put, List.getElem_toArray, List.getElem_cons_zero, List.getElem_cons_succ, List.setIfInBounds_toArray, List.set_cons_zero, List.set_cons_succ]
 refine tq 24 ?_
 refine rd 25 fun K hK => ?_
 have z0 := HSC7.out _ B8.out
 have f0 : w8.frozen? ⟨sb, tn, none⟩ = false := HFZ7.out _ B8.out
 have KQ := Lib.hid (Q6.out _ B8.out)
 go_simp
 clear z0 f0
 refine hK.out _ _ ?_ (fun hHeld => ?_)
 ·exact ⟨set_far (.inl HSB.out) KQ.out.1, set_far (.inl HSB.out) KQ.out.2.1, set_far (.inl HSM.out) KQ.out.2.2⟩
 clear hK K
 try simp only [Act.put, List.getElem_toArray, List.getElem_cons_zero, List.getElem_cons_succ, List.setIfInBounds_toArray, List.set_cons_zero, List.set_cons_succ]
 refine wpAnyH_done (by kernel_rfl) ?_ _
 have H18 := H1.out.later (below_step' B7.out B8.out)
 have hS8 : SameOn (fun q => ¬ P2 q) w w8 := SW6.out.trans (SameOn.of_below (below_step' B7.out B8.out))
 obtain ⟨sb2, ee, hPs2, _, _, _, hset⟩ := H18.slot1 HST.out
 simp only [Option.some.injEq, Addr.mk.injEq, and_true] at ee
 subst ee
 have h1f := hset q2
 have hne12 : ∀ q, P2 q → q ≠ sb := fun q hq e => D12.out _ HPS.out (by rw [← e]; exact hq)
 have h2f := ((H2.out.later (below_step' B7.out B8.out)).same ((SameOn.refl (fun q => P2 q ∨ Q q) w8).set ⟨sb, tn, none⟩ (.int .i64 q2) (fun h => h.elim (fun h => hne12 _ h rfl) (fun h => hne12 _ (HQP.out _ h) rfl))))
 have h3f := ((H3.out.later (below_step' B7.out B8.out)).same ((SameOn.refl P3 w8).set ⟨sb, tn, none⟩ (.int .i64 q2) (fun h => D13.out _ HPS.out h)))
 have hfin := cf_mkL (P := P) (c := ⟨c.states.set tn q2, c.links.set li (m.eraseIdx i), c.sent⟩) h1f h2f h3f HP1.out (fun q h => h.elim (HP2.out q) (fun h => HP2.out q (HQP.out q h))) HP3.out (fun q h h' => h'.elim (D12.out q h) (fun h' => D12.out q h (HQP.out q h'))) D13.out (fun q h h' => h.elim (fun h => D23.out q h h') (fun h => D23.out q (HQP.out q h) h'))
 have hsame : SameOn (fun q => ¬ P q) w (w8.setCell ⟨sb, tn, none⟩ (.int .i64 q2)) := (hS8.sub (fun q hq h => hq (HP2.out q h))).set _ _ (fun h => h (HP1.out _ HPS.out))
 have hbel : Below wb.heap.size wb (w8.setCell ⟨sb, tn, none⟩ (.int .i64 q2)) := (below_step' (below_step' BW6.out B7.out) B8.out).setCell (HLO.out _ (HP1.out _ HPS.out)) _
 have HFIN := Lib.hid hfin
 have HSAM := Lib.hid hsame
 have HBEL := Lib.hid hbel
 clear H18 hS8 hset h1f hne12 h2f h3f hfin hsame hbel hPs2
 go_wp2_with fail
 go_end0
 exact ⟨rfl, ⟨P, HFIN.out, fun q h => .inl h⟩, HSAM.out, HBEL.out⟩
end Go.Proofs.Ytiblcpkejhiehaa

set_option linter.unusedSimpArgs false
set_option linter.unusedVariables false
namespace Go.Proofs.Ytiblcpkejhiehaa
open Go.RowKit Go.PlainAid
theorem two_intL (w : World) (x y : Int) : HoldsL True (fun _ => False) w [.int .i64 x, .int .i64 y] [dI x, dI y] := by
 refine ⟨rfl, fun _ _ => False, fun _ _ h => h, fun _ _ _ _ h => h.elim, fun j c d hc hd => ?_⟩
 match j, hc, hd with
 | 0, hc, hd => simp at hc hd; subst hc hd; exact has_int _ _ _ _
 | 1, hc, hd => simp at hc hd; subst hc hd; exact has_int _ _ _ _
 | j + 2, hc, hd => simp at hc
theorem sendAll_cons (L : Lks) (n : Int) (m : Int × Int) (r : Lks) (c : List Lks × List Int) : sendAll L n (m :: r) c = sendAll L n r (send1 L n c m) := rfl
set_option maxHeartbeats 8000000 in
set_option maxRecDepth 100000 in
theorem pick_at (A : Ap) (c : Cf) (hOK : CfOK A c) (hsm : SmallTab A.t) (s0 s1 s2 s3 s4 : Int) (he : errPick A c ⟨s0, s1, s2, s3, s4⟩ = 0) (P : Nat → Prop) (b mb : Nat) (vG vT v1 v2 v3 : Value) (wb w : World) (h : SysW A c P b mb vG vT v1 v2 v3 wb w) :
  Calls Try.prog 56 #[.pointer (some ⟨b, 0, none⟩), .agg #[.int .i64 s0, .int .i64 s1, .int .i64 s2, .int .i64 s3, .int .i64 s4]] w fun e w' => Did (donePick A c ⟨s0, s1, s2, s3, s4⟩) P v1 v2 v3 wb w e w' := by
 obtain ⟨h0, h1, hmode, hisp, hbig⟩ := errPick_zero he
 simp only at h0 h1 hmode hisp hbig
 obtain ⟨node, kk, nd, hnode, hnd, hk, hkl, hst, hP⟩ := pick_facts hOK h0 h1
 subst hnode
 obtain ⟨p, hp⟩ : ∃ p, p = pickAt (stC A c node) s2 := ⟨_, rfl⟩
 rw [← hp] at hbig
 have hpk : p.sends.length ≤ 4 ∧ ∀ m ∈ p.sends, Goes A.l node m.1 m.2 := by
  obtain ⟨j, p', _, hp', hpa⟩ := pickAt_get hisp
  have hpp : p' = p := by rw [hp]; exact hpa.symm
  subst hpp
  have hse := hP.2.2.1.2.2 j p' hp'
  refine ⟨hse.2.1, fun m hm => ?_⟩
  obtain ⟨r, hr⟩ := List.mem_iff_getElem?.1 hm
  exact hse.2.2 r m hr
 have hdone : donePick A c ⟨s0, (node : Int), s2, s3, s4⟩ = ⟨c.states.set node p.next, (sendAll A.l node p.sends (c.links, c.sent)).1, (sendAll A.l node p.sends (c.links, c.sent)).2⟩ := by
  unfold donePick
  simp only [Int.toNat_natCast, ← hp]
 rw [hdone]
 obtain ⟨P1, P2, P3, c1, c2, c3, _, _, _, _⟩ := cf_openL h.cf
 obtain ⟨a1, e1, ee⟩ := slice_of c1.weak
 subst ee
 obtain ⟨a2, e2, ee⟩ := slice_of c2.weak
 subst ee
 obtain ⟨a3, e3, ee⟩ := slice_of c3.weak
 subst ee
 obtain ⟨ta, tc, ee⟩ := slice_of h.t
 subst ee
 obtain ⟨ga, gc, ee⟩ := slice_of (has_of_links h.g)
 subst ee
 obtain ⟨n1, hn1⟩ : ∃ n, n = c.states.length := ⟨_, rfl⟩
 obtain ⟨n2, hn2⟩ : ∃ n, n = c.links.length := ⟨_, rfl⟩
 obtain ⟨n3, hn3⟩ : ∃ n, n = c.sent.length := ⟨_, rfl⟩
 obtain ⟨tl, htl⟩ : ∃ n, n = A.t.length := ⟨_, rfl⟩
 obtain ⟨gl, hgl⟩ : ∃ n, n = A.l.length := ⟨_, rfl⟩
 have hT := h.t
 have hG := h.g
 rw [← htl] at hT
 rw [← hgl] at hG
 rw [← hn1, ← hn2, ← hn3, ← htl, ← hgl] at h
 rw [← hn1] at c1 ⊢
 rw [← hn2] at c2 ⊢
 rw [← hn3] at c3 ⊢
 obtain ⟨fin, hfin⟩ : ∃ f, f = sendAll A.l node p.sends (c.links, c.sent) := ⟨_, rfl⟩
 rw [← hfin]
 have hbl : b < w.heap.size := World.block_lt_of_cell? w _ (h.sys.box 2 _ rfl)
 have hln : A.l.length ≤ 1000000 := by have := hOK.1.1.2.2.1; omega
 have HLOW := Lib.hid (sent_low hOK)
 have HMS : Hid (∀ m ∈ c.links, m.length ≤ 500) := Lib.hid (fun m hm => by
  obtain ⟨i, hi⟩ := List.mem_iff_getElem?.1 hm
  obtain ⟨q, hq⟩ := some_of_lt (l := c.sent) (i := i) (by have := lt_of_some hi; have := hOK.2.links; have := hOK.2.sent; omega)
  have := linkOK_len (hOK.2.ms i q m hq hi)
  omega)
 have HT := Lib.hid hT
 have HG := Lib.hid hG
 have SW := Lib.hid h
 have C1 := Lib.hid c1
 have HIN := Lib.hid (And.intro h0 h1)
 have HISP := Lib.hid hisp
 have HBIG := Lib.hid hbig
 have HPP := Lib.hid hp
 have HPK := Lib.hid hpk
 have HFI := Lib.hid hfin.symm
 have N2 := Lib.hid hn2
 have N3 := Lib.hid hn3
 have GLL : Hid (gl = n2 ∧ gl = n3 ∧ gl = A.l.length) := Lib.hid ⟨by rw [hgl, hn2, hOK.2.links], by rw [hgl, hn3, hOK.2.sent], hgl⟩
 have SMT := Lib.hid hsm
 have HST := Lib.hid hst
 have htn1 : node < n1 := by rw [hn1]; exact lt_of_some hst
 have htn2 : (node : Int) < n1 := by omega
 clear h hOK hdone c1 c2 c3 h0 h1 hisp hbig hp hpk hfin hn1 hn2 hn3 htl hgl hT hG hsm hst hmode he hnd hk hkl hP
 go_enter Try.func56, Try.ntmps56
 try simp only [List.append_eq, List.cons_append, List.nil_append]
 go_upto_region 1 with fail
 obtain ⟨y0, hy0⟩ : ∃ y, y = w.alloc (.cells #[.int .i64 s0, .int .i64 node, .int .i64 s2, .int .i64 s3, .int .i64 s4] 50) := ⟨_, rfl⟩
 have hb0 : Below w.heap.size w y0 := by rw [hy0]; exact below_new _ _
 have hx0 : BoxAt w.heap.size [.int .i64 s0, .int .i64 node, .int .i64 s2, .int .i64 s3, .int .i64 s4] y0 := by rw [hy0]; exact boxAt_new w [.int .i64 s0, .int .i64 node, .int .i64 s2, .int .i64 s3, .int .i64 s4] _
 have hz0 : w.heap.size < y0.heap.size := by rw [hy0]; simp
 have B0 := Lib.hid hb0
 have X0 := Lib.hid hx0
 rw [← hy0]
 clear hy0 hb0 hx0
 have x0 := X0.out 0 _ rfl
 have x1 := X0.out 1 _ rfl
 have x2 := X0.out 2 _ rfl
 have x3 := X0.out 3 _ rfl
 have x4 := X0.out 4 _ rfl
 go_wp2_with fail
 refine (sysPicked_at A.t c.states s0 node s2 s3 s4 b mb A.n (.slice ga gl gc) A.ff ta a1 tl tc n1 e1 (.slice a2 n2 e2) (.slice a3 n3 e3) _ (SW.out.sys.below B0.out) (HT.out.later (below_step' SW.out.bel B0.out)) (C1.out.weak.later B0.out) SMT.out HIN.out.1 HIN.out.2).mono ?_
 rintro e w5 ⟨u, rfl, hu, hb⟩
 clear x0 x1 x2 x3 x4
 have hst2 : stAt A.t node (at0 c.states node) = stC A c node := rfl
 rw [hst2, ← HPP.out] at hu
 rw [hst2, ← HPP.out, HISP.out]
 obtain ⟨ua, uc, e⟩ := slice_of hu.weak
 subst e
 obtain ⟨ul, hul⟩ : ∃ n, n = p.sends.length := ⟨_, rfl⟩
 obtain ⟨pn, hpn⟩ : ∃ n, n = p.next := ⟨_, rfl⟩
 unfold pkv
 rw [← hul] at hu ⊢
 rw [← hpn]
 have hu4 : ul ≤ 4 := by rw [hul]; exact HPK.out.1
 have UL := Lib.hid hul
 have PN := Lib.hid hpn
 obtain ⟨y5, hy5⟩ : ∃ y, y = w5.alloc (.cells #[.int .i64 pn, .slice ua ul uc] 128) := ⟨_, rfl⟩
 have hb5 : Below w5.heap.size w5 y5 := by rw [hy5]; exact below_new _ _
 have XP := Lib.hid (show BoxAt w5.heap.size [.int .i64 pn, .slice ua ul uc] y5 from by rw [hy5]; exact boxAt_new w5 [.int .i64 pn, .slice ua ul uc] _)
 have HU := Lib.hid ((hu.wide (P' := fun q => w.heap.size ≤ q ∧ q < y5.heap.size) (fun q hq (h : y0.heap.size ≤ q) => ⟨by omega, Nat.lt_of_lt_of_le hq hb5.size⟩)).later hb5)
 have B5 := Lib.hid (below_step' (below_step' B0.out hb) hb5)
 have X5 := Lib.hid ((X0.out.below hb).below hb5)
 have hz5 : w.heap.size < y5.heap.size := by have := hb.size; have := hb5.size; omega
 have hz55 : w5.heap.size < y5.heap.size := by rw [hy5]; simp
 have hw5z : y0.heap.size ≤ w5.heap.size := hb.size
 have BW5 := Lib.hid (below_step' SW.out.bel B5.out)
 clear hu hb hb5 hul hpn hst2
 go_upto_region 2 with fail
 rw [← hy5]
 clear hy5
 have k1p := XP.out 1 _ rfl
 go_wp2_with fail
 clear k1p
 go_loopw [18] (fun i wr => ∃ (j : Nat) (LS : List Lks) (T : List Int) (P' : Nat → Prop), i = .int .i64 j ∧ j ≤ ul ∧ LS.length = n2 ∧ T.length = n3 ∧ sendAll A.l node (p.sends.drop j) (LS, T) = fin ∧ bigAt A.l node (p.sends.drop j) T = false ∧ (∀ (i : Nat) (x : Int), T[i]? = some x → 0 ≤ x ∧ x ≤ 500) ∧ (∀ m ∈ LS, m.length ≤ 500 + j) ∧ HoldsL True P' wr [.slice a1 n1 e1, .slice a2 n2 e2, .slice a3 n3 e3] (Cf.mk c.states LS T).d ∧ (∀ q, P' q → P q ∨ y5.heap.size ≤ q) ∧ SameOn (fun q => q < y5.heap.size ∧ ¬ P q) y5 wr ∧ Below wb.heap.size wb wr) (fun i _ => ul - (intOf i).toNat)
 case atStart => exact ⟨0, c.links, c.sent, P, rfl, by omega, N2.out.symm, N3.out.symm, HFI.out, HBIG.out, HLOW.out, fun m hm => by have := HMS.out m hm; omega, SW.out.cf.later B5.out, fun q h => .inl h, SameOn.refl _ _, BW5.out⟩
 case round =>
  obtain ⟨j, LS, T, P', rfl, hj, hLl, hTl, hfin, hbg, hlow, hms, hC, hP', hsm, hB⟩ := hrel
  by_cases hj2 : j < ul
  ·have hj2' : (j : Int) < ul := by omega
   obtain ⟨⟨tg, lt⟩, hm⟩ := some_of_lt (l := p.sends) (i := j) (by rw [← UL.out]; exact hj2)
   have hur := HU.out.same (hsm.sub (fun q (hq : w.heap.size ≤ q ∧ q < y5.heap.size) => ⟨hq.2, fun h => by have := SW.out.top q h; omega⟩))
   obtain ⟨ub, uo, e, m0, m1⟩ := msg_at hur.weak hm
   subst e
   rw [drop_of hm, bigAt_cons] at hbg
   rw [drop_of hm, sendAll_cons] at hfin
   have hg := HPK.out.2 (tg, lt) (List.mem_of_getElem? hm)
   rcases findL_cases A.l ((node : Int), tg) with ⟨li, hli, _, _, hle⟩ | ⟨hno, _⟩
   ·obtain ⟨tv, htv⟩ := some_of_lt (l := T) (i := li) (by have := GLL.out; omega)
    obtain ⟨mm, hmm⟩ := some_of_lt (l := LS) (i := li) (by have := GLL.out; omega)
    unfold send1 at hfin
    simp only [hle, Int.toNat_natCast, at0_of htv, atL_of hmm] at hbg hfin
    have hv := hlow li tv htv
    have hv0 := hv.1
    have hv5 := hv.2
    have hml := hms mm (List.mem_of_getElem? hmm)
    have h5 : ¬ 500 < tv + 1 := by
     intro h
     rw [decide_eq_true h, Bool.true_or] at hbg
     cases hbg
    rw [decide_eq_false h5, Bool.false_or] at hbg
    have hlil : li < n3 := by rw [← hTl]; exact lt_of_some htv
    have hlil2 : li < n2 := by rw [← hLl]; exact lt_of_some hmm
    have hlil3 : li < n3 ∧ li < n2 := ⟨hlil, hlil2⟩
    have HLE := Lib.hid hle
    have HTV := Lib.hid htv
    have HMM := Lib.hid hmm
    have HBG := Lib.hid hbg
    have HFN := Lib.hid hfin
    have HLW := Lib.hid hlow
    have HMSS := Lib.hid hms
    have HTL := Lib.hid hTl
    have HLL := Lib.hid hLl
    have HC := Lib.hid hC
    have HP' := Lib.hid hP'
    have HSM := Lib.hid hsm
    have BWr := Lib.hid hB
    have SYSr := Lib.hid ((SW.out.sys.below B5.out).same hsm ⟨by have := B5.out.size; omega, SW.out.nb⟩ ⟨by have := B5.out.size; have := (Array.getElem?_eq_some_iff.1 SW.out.sys.map).1; omega, SW.out.nm⟩)
    have NPw : ¬ P w.heap.size := fun h => Nat.lt_irrefl _ (SW.out.top _ h)
    have Xr := Lib.hid (X5.out.same hsm ⟨hz5, NPw⟩)
    have hzr : y5.heap.size ≤ wr.heap.size := hsm.1
    clear hbg hfin hlow hms hTl hLl hC hP' hsm hB hle htv hmm hv hm hg hli hur NPw hlil3
    go_upto_region 5 with fail
    obtain ⟨y8, hy8⟩ : ∃ y, y = wr.alloc (.cells #[.int .i64 tg, .int .i64 lt] 125) := ⟨_, rfl⟩
    have hb8 : Below wr.heap.size wr y8 := by rw [hy8]; exact below_new _ _
    have X8 := Lib.hid (show BoxAt wr.heap.size [.int .i64 tg, .int .i64 lt] y8 from by rw [hy8]; exact boxAt_new wr [.int .i64 tg, .int .i64 lt] _)
    have hz8 : wr.heap.size < y8.heap.size := by rw [hy8]; simp
    have BW8 := Lib.hid (below_step' BWr.out hb8)
    have B8 := Lib.hid hb8
    rw [← hy8]
    clear hy8 hb8 m0 m1
    have Q5 : Hid (∀ w', Below y8.heap.size y8 w' → w'.cell? ⟨b, 0, none⟩ = some (.int .i64 A.n) ∧ w'.cell? ⟨b, 1, none⟩ = some (.slice ga gl gc) ∧ w'.cell? ⟨w.heap.size, 1, none⟩ = some (.int .i64 node) ∧ w'.cell? ⟨wr.heap.size, 0, none⟩ = some (.int .i64 tg)) := Lib.hid (fun w' hb => by
     have hB := below_step' B8.out hb
     exact ⟨SYSr.out.box.below hB 0 _ rfl, SYSr.out.box.below hB 1 _ rfl, Xr.out.below hB 1 _ rfl, X8.out.below hb 0 _ rfl⟩)
    refine wp_region_held_drew (S := (fun w' => w'.cell? ⟨b, 0, none⟩ = some (.int .i64 A.n) ∧ w'.cell? ⟨b, 1, none⟩ = some (.slice ga gl gc) ∧ w'.cell? ⟨w.heap.size, 1, none⟩ = some (.int .i64 node) ∧ w'.cell? ⟨wr.heap.size, 0, none⟩ = some (.int .i64 tg))) (by kernel_rfl) ?_ (fun hHeld => ?_)
    ·exact Q5.out _ (below_drewN (Below.refl _ y8) 1)
    refine tq 0 ?_
    refine tq 1 ?_
    refine tq 2 ?_
    refine tq 3 ?_
    refine tq 4 ?_
    refine tq 5 ?_
    refine tq 6 ?_
    refine tq 7 ?_
    refine tq 8 ?_
    refine rd 9 fun K hK => ?_
    go_simp
    refine (find_at A.n node tg li _ A.l _ (HG.out.below (below_step' BW8.out (below_drewN (Below.refl _ y8) 1))) hln HLE.out).mono ?_
    rintro e w9 ⟨rfl, hb⟩
    have B9 := Lib.hid (below_step' (below_drewN (Below.refl _ y8) 1) hb)
    clear hb
    go_wp2_with fail
    refine hK.out _ _ ?_ (fun hHeld => ?_)
    ·exact Q5.out _ B9.out
    clear hK K
    try simp only [Act.put, List.getElem_toArray, List.getElem_cons_zero, List.getElem_cons_succ, List.setIfInBounds_toArray, List.set_cons_zero, List.set_cons_succ]
    refine tq 10 ?_
    refine wpAnyH_done (by kernel_rfl) ?_ _
    have hB9 := below_step' B8.out B9.out
    obtain ⟨P1, P2, P3, c1, c2, c3, p1, p2, p3, hd⟩ := cf_openL ((HC.out.wide (P' := fun q => P' q ∧ q < wr.heap.size) (fun q hq h => ⟨h, hq⟩)).later hB9)
    obtain ⟨d12, d13, d23⟩ := hd trivial
    obtain ⟨cb, e, hcb, hcbl, q0, f0, hset⟩ := c3.slot1 HTV.out
    subst e
    have k6 := SYSr.out.box.below hB9 6 _ rfl
    have hcbw : wb.heap.size ≤ cb := (HP'.out _ (p3 _ hcb).1).elim (SW.out.low _) (fun h => Nat.le_trans BW5.out.size h)
    have hcbr : cb < wr.heap.size := (p3 _ hcb).2
    have hcbb : cb ≠ b := fun e => (HP'.out _ (p3 _ hcb).1).elim (fun h => SW.out.nb (by rw [← e]; exact h)) (fun h => by have := B5.out.size; omega)
    have C3 := Lib.hid (hset (tv + 1))
    have C1 := Lib.hid (c1.same ((SameOn.refl P1 w9).set ⟨cb, li, none⟩ (.int .i64 (tv + 1)) (fun h => d13 _ h hcb)))
    have C2 := Lib.hid (c2.same ((SameOn.refl P2 w9).set ⟨cb, li, none⟩ (.int .i64 (tv + 1)) (fun h => d23 _ h hcb)))
    have PP := Lib.hid (And.intro p1 (And.intro p2 (And.intro p3 (And.intro d12 (And.intro d13 d23)))))
    have HCB := Lib.hid hcb
    have hwr1 : IntKind.i64.wrap (tv + 1) = tv + 1 := IntWalk.i64_in _ (by omega)
    clear c1 c2 c3 p1 p2 p3 hd d12 d13 d23 hset hcb
    go_upto_region 7 with fail
    obtain ⟨x7, hx7⟩ : ∃ x, x = w9.setCell ⟨cb, li, none⟩ (.int .i64 (tv + 1)) := ⟨_, rfl⟩
    have hq7 : x7.cell? ⟨cb, li, none⟩ = some (.int .i64 (tv + 1)) := by rw [hx7]; exact set_at q0
    have SN7 : Hid (SameOn (fun q => ¬ P' q) wr x7) := Lib.hid (by rw [hx7]; exact (SameOn.of_below hB9).set _ _ (fun h => h (PP.out.2.2.1 _ HCB.out).1))
    have SM7 : Hid (SameOn (fun q => q < y5.heap.size ∧ ¬ P q) y5 x7) := Lib.hid (by
     rw [hx7]
     exact (HSM.out.trans (SameOn.of_below hB9)).set _ _ (fun h => (HP'.out _ (PP.out.2.2.1 _ HCB.out).1).elim h.2 (fun h2 => by have h1 := h.1; have h1 : cb < y5.heap.size := h1; omega)))
    have BW7 : Hid (Below wb.heap.size wb x7) := Lib.hid (by rw [hx7]; exact (below_step' BWr.out hB9).setCell hcbw _)
    have XL7 : Hid (x7.cell? ⟨wr.heap.size, 1, none⟩ = some (.int .i64 lt)) := Lib.hid (by rw [hx7]; exact set_far (.inl (by show cb ≠ wr.heap.size; omega)) (X8.out.below B9.out 1 _ rfl))
    rw [← hx7] at C1 C2 C3 ⊢
    clear hx7
    have S57 := Lib.hid (SYSr.out.same SN7.out (fun h => (HP'.out _ h).elim SW.out.nb (fun h => by have := B5.out.size; omega)) (fun h => (HP'.out _ h).elim SW.out.nm (fun h => by have := (Array.getElem?_eq_some_iff.1 SW.out.sys.map).1; have := B5.out.size; omega)))
    obtain ⟨lb, Q, ma, mc, e, e9, hPl, hlbl, hcl, hOl, hQP, hQl, hHm, hF⟩ := lls_focus C2.out HMM.out
    clear e9
    subst e
    obtain ⟨ml, hml2⟩ : ∃ n, n = mm.length := ⟨_, rfl⟩
    rw [← hml2] at hcl hHm
    have ML := Lib.hid hml2
    have hml5 : ml ≤ 1000 := by omega
    have hlbr : lb < wr.heap.size := (PP.out.2.1 _ hPl).2
    have hbq : ¬ Q b := fun h => (HP'.out _ (PP.out.2.1 _ (hQP _ h)).1).elim SW.out.nb (fun h => by have := B5.out.size; omega)
    have hcq : ¬ Q cb := fun h => PP.out.2.2.2.2.2 _ (hQP _ h) HCB.out
    have hwq : ¬ Q wr.heap.size := fun h => by have := (PP.out.2.1 _ (hQP _ h)).2; omega
    have hb7 : b < x7.heap.size := World.block_lt_of_cell? x7 _ (S57.out.box 2 _ rfl)
    have hw7 : wr.heap.size < x7.heap.size := World.block_lt_of_cell? x7 _ XL7.out
    have hc7 : cb < x7.heap.size := World.block_lt_of_cell? x7 _ hq7
    have KS : Hid (∀ w', SameOn (fun q => ¬ Q q) x7 w' → w'.cell? ⟨b, 5, none⟩ = some (.slice (some ⟨lb, 0, none⟩) n2 e2) ∧ w'.cell? ⟨b, 6, none⟩ = some (.slice (some ⟨cb, 0, none⟩) n3 e3) ∧ w'.cell? ⟨cb, li, none⟩ = some (.int .i64 (tv + 1)) ∧ w'.cell? ⟨wr.heap.size, 1, none⟩ = some (.int .i64 lt)) := Lib.hid (fun w' hs => ⟨(hs.cell (a := ⟨b, 5, none⟩) hbq hb7).trans (S57.out.box 5 _ rfl), (hs.cell (a := ⟨b, 6, none⟩) hbq hb7).trans (S57.out.box 6 _ rfl), (hs.cell (a := ⟨cb, li, none⟩) hcq hc7).trans hq7, (hs.cell (a := ⟨wr.heap.size, 1, none⟩) hwq hw7).trans XL7.out⟩)
    have KQ : Hid (∀ w', Below x7.heap.size x7 w' → w'.cell? ⟨b, 5, none⟩ = some (.slice (some ⟨lb, 0, none⟩) n2 e2) ∧ w'.cell? ⟨b, 6, none⟩ = some (.slice (some ⟨cb, 0, none⟩) n3 e3) ∧ w'.cell? ⟨cb, li, none⟩ = some (.int .i64 (tv + 1)) ∧ w'.cell? ⟨wr.heap.size, 1, none⟩ = some (.int .i64 lt)) := Lib.hid (fun w' hb => KS.out w' (SameOn.of_below hb))
    have HCL : Hid ((∀ w', Below x7.heap.size x7 w' → w'.cell? ⟨lb, li, none⟩ = some (.slice ma ml mc)) ∧ (∀ w', SameOn (fun q => ¬ Q q) x7 w' → w'.cell? ⟨lb, li, none⟩ = some (.slice ma ml mc) ∧ w'.frozen? ⟨lb, li, none⟩ = false)) := Lib.hid ⟨fun w' hb => (hb.cell (by exact hlbl)).trans hcl, fun w' hs => ⟨(hs.cell (a := ⟨lb, li, none⟩) hQl hlbl).trans hcl, (hs.frozen (a := ⟨lb, li, none⟩) hQl hlbl).trans (hOl.frozen _)⟩⟩
    have NLB : Hid (lb ≠ b) := Lib.hid (fun e => (HP'.out _ (PP.out.2.1 _ hPl).1).elim (fun h => SW.out.nb (by rw [← e]; exact h)) (fun h => by have := B5.out.size; omega))
    have NLC : Hid (lb ≠ cb) := Lib.hid (fun e => PP.out.2.2.2.2.2 _ hPl (by rw [e]; exact HCB.out))
    have NLW : Hid (lb ≠ wr.heap.size) := Lib.hid (by omega)
    have HQw : Hid (∀ q, Q q → wb.heap.size ≤ q) := Lib.hid (fun q h => (HP'.out _ (PP.out.2.1 _ (hQP _ h)).1).elim (SW.out.low _) (fun h => Nat.le_trans BW5.out.size h))
    have hlbw : wb.heap.size ≤ lb := (HP'.out _ (PP.out.2.1 _ hPl).1).elim (SW.out.low _) (fun h => Nat.le_trans BW5.out.size h)
    obtain ⟨iq, hiq, hzq, hsq, hbq2⟩ := info_parts infoMsg
    have HHM := Lib.hid hHm
    have HFO := Lib.hid hF
    have HQP := Lib.hid hQP
    have HQL := Lib.hid hQl
    have HPL := Lib.hid hPl
    clear hF hHm hcl hOl hQP hQl hPl hbq hcq hwq q0 f0 hq7 k6 hml2 hml
    refine wp_region_held_drew (S := (fun w' => w'.cell? ⟨b, 5, none⟩ = some (.slice (some ⟨lb, 0, none⟩) n2 e2) ∧ w'.cell? ⟨b, 6, none⟩ = some (.slice (some ⟨cb, 0, none⟩) n3 e3) ∧ w'.cell? ⟨cb, li, none⟩ = some (.int .i64 (tv + 1)) ∧ w'.cell? ⟨wr.heap.size, 1, none⟩ = some (.int .i64 lt))) (by kernel_rfl) ?_ (fun hHeld => ?_)
    ·exact KQ.out _ (below_drewN (Below.refl _ x7) 1)
    refine tq 0 ?_
    refine tq 1 ?_
    refine tq 2 ?_
    refine tq 3 ?_
    refine tq 4 ?_
    refine tq 5 ?_
    refine tq 6 ?_
    refine tq 7 ?_
    refine tq 8 ?_
    refine tq 9 ?_
    refine tq 10 ?_
    refine tq 11 ?_
    refine tq 12 ?_
    refine tq 14 ?_
    refine tq 15 ?_
    refine tq 16 ?_
    refine tq 17 ?_
    refine tq 18 ?_
    refine tq 19 ?_
    refine tq 20 ?_
    refine tq 21 ?_
    refine tq 22 ?_
    refine tq 23 ?_
    refine tq 24 ?_
    refine wpAnyH_ready (rs := [13, 25]) (by kernel_rfl) (by simp) ?_
    refine AllReadyH.cons rfl (fun K hK => ?_) (AllReadyH.cons rfl (fun K hK => ?_) AllReadyH.nil)
    ·have z0 := HCL.out.1 _ (Below.refl _ x7)
     go_simp
     clear z0
     refine hK.out _ _ ?_ (fun hHeld => ?_)
     ·exact KQ.out _ (below_drewN (Below.refl _ x7) 1)
     clear hK K
     try simp only [Act.put, List.getElem_toArray, List.getElem_cons_zero, List.getElem_cons_succ, List.setIfInBounds_toArray, List.set_cons_zero, List.set_cons_succ]
     refine rd 25 fun K hK => ?_
     go_simp
     refine hK.out _ _ ?_ (fun hHeld => ?_)
     ·exact KQ.out _ (show Below x7.heap.size x7 (x7.alloc (.cells #[.int .i64 (tv + 1), .int .i64 lt] 63)).drew from below_drewN (below_new x7 _) 1)
     clear hK K
     try simp only [Act.put, List.getElem_toArray, List.getElem_cons_zero, List.getElem_cons_succ, List.setIfInBounds_toArray, List.set_cons_zero, List.set_cons_succ]
     refine rd 26 fun K hK => ?_
     refine appSK (by rfl) _ _ 51 63 iq (.agg #[.int .i64 0, .int .i64 0]) 2 16 (by rfl) Try.underlying51 hiq hzq hsq hbq2 rfl (by decide) Q (fun _ => False) wb (below_step' BW7.out (show Below x7.heap.size x7 (x7.alloc (.cells #[.int .i64 (tv + 1), .int .i64 lt] 63)).drew from below_drewN (below_new x7 _) 1)) HQw.out ma ml mc (mm.map fun p => [dI p.1, dI p.2]) [[dI (tv + 1), dI lt]] 1 1 (ml + 1) (by rfl) (HHM.out.later (show Below x7.heap.size x7 (x7.alloc (.cells #[.int .i64 (tv + 1), .int .i64 lt] 63)).drew from below_drewN (below_new x7 _) 1)) (some ⟨x7.heap.size, 0, none⟩) (by rfl) [.int .i64 (tv + 1), .int .i64 lt] (news_new (w := x7) (vs := [.int .i64 (tv + 1), .int .i64 lt])) (fun h => by cases h) (by intro ds hds; simp at hds; subst hds; rfl) rfl (by rw [List.flatten_cons, List.flatten_nil, List.append_nil]; exact two_intL _ _ _) (fun _ h => h.elim) rfl (by unfold maxLen; omega) (by omega) ?_
     intro ao cv w6 hA hS hB6
     have hS6 : SameOn (fun q => ¬ Q q) x7 w6 := (SameOn.of_below (show Below x7.heap.size x7 (x7.alloc (.cells #[.int .i64 (tv + 1), .int .i64 lt] 63)).drew from below_drewN (below_new x7 _) 1)).trans hS
     have HA := Lib.hid hA
     have HS6 := Lib.hid hS6
     have BW6 := Lib.hid hB6
     clear hA hS hS6 hB6
     have K6 := Lib.hid (KS.out _ HS6.out)
     refine hK.out _ _ ?_ (fun hHeld => ?_)
     ·exact K6.out
     clear hK K
     try simp only [Act.put, List.getElem_toArray, List.getElem_cons_zero, List.getElem_cons_succ, List.setIfInBounds_toArray, List.set_cons_zero, List.set_cons_succ]
     refine tq 27 ?_
     refine rd 28 fun K hK => ?_
     have z0 := (HCL.out.2 _ HS6.out).1
     have f0 := (HCL.out.2 _ HS6.out).2
     go_simp
     clear z0 f0
     refine hK.out _ _ ?_ (fun hHeld => ?_)
     ·exact ⟨set_far (.inl NLB.out) K6.out.1, set_far (.inl NLB.out) K6.out.2.1, set_far (.inl NLC.out) K6.out.2.2.1, set_far (.inl NLW.out) K6.out.2.2.2⟩
     clear hK K
     try simp only [Act.put, List.getElem_toArray, List.getElem_cons_zero, List.getElem_cons_succ, List.setIfInBounds_toArray, List.set_cons_zero, List.set_cons_succ]
     refine wpAnyH_done (by kernel_rfl) ?_ _
     have hnew : Holds True (fun k => Q k ∨ x7.heap.size ≤ k) w6 (.slice ao (ml + 1) cv) (dLinks (mm ++ [(tv + 1, lt)])) := by
      unfold dLinks
      rw [List.map_append]
      exact HA.out.wide (fun k _ h => by
       rcases h with h | h
       ·exact .inl h
       ·exact .inr (by first | omega | (simp at h; omega)))
     have hrow := HFO.out w6 _ _ (fun k => Q k ∨ x7.heap.size ≤ k) (HS6.out.sub (fun q hq => hq.2)) hnew (fun q hq => ⟨fun e => hq.elim (fun h => HQL.out (by rw [← e]; exact h)) (fun h => by omega), hq.elim .inl (fun h => .inr (fun h2 => by have := (PP.out.2.1 q h2).2; omega))⟩)
     have h1 := (C1.out.same (HS6.out.sub (fun q hq h => PP.out.2.2.2.1 q hq (HQP.out q h)))).same ((SameOn.refl P1 w6).set ⟨lb, li, none⟩ (.slice ao (ml + 1) cv) (fun h => PP.out.2.2.2.1 _ h HPL.out))
     have h3 := (C3.out.same (HS6.out.sub (fun q hq h => PP.out.2.2.2.2.2 q (HQP.out q h) hq))).same ((SameOn.refl P3 w6).set ⟨lb, li, none⟩ (.slice ao (ml + 1) cv) (fun h => PP.out.2.2.2.2.2 _ HPL.out h))
     have hcf := cf_mkL (P := fun q => P' q ∨ y5.heap.size ≤ q) (c := ⟨c.states, LS.set li (mm ++ [(tv + 1, lt)]), T.set li (tv + 1)⟩) h1 hrow h3 (fun q h => .inl (PP.out.1 q h).1) (fun q h => h.elim (fun h => .inl (PP.out.2.1 q h).1) (fun h => h.elim (fun h => .inl (PP.out.2.1 q (HQP.out q h)).1) (fun h => .inr (by omega)))) (fun q h => .inl (PP.out.2.2.1 q h).1) (fun q h h' => h'.elim (PP.out.2.2.2.1 q h) (fun h' => h'.elim (fun h' => PP.out.2.2.2.1 q h (HQP.out q h')) (fun h' => by have := (PP.out.1 q h).2; omega))) PP.out.2.2.2.2.1 (fun q h h' => h.elim (fun h => PP.out.2.2.2.2.2 q h h') (fun h => h.elim (fun h => PP.out.2.2.2.2.2 q (HQP.out q h) h') (fun h => by have := (PP.out.2.2.1 q h').2; omega)))
     have hsm2 : SameOn (fun q => q < y5.heap.size ∧ ¬ P q) y5 (w6.setCell ⟨lb, li, none⟩ (.slice ao (ml + 1) cv)) := (SM7.out.trans (HS6.out.sub (fun q hq h => (HP'.out _ (PP.out.2.1 _ (HQP.out _ h)).1).elim hq.2 (fun h2 => by have h1 : q < y5.heap.size := hq.1; omega)))).set _ _ (fun h => (HP'.out _ (PP.out.2.1 _ HPL.out).1).elim h.2 (fun h2 => by have h1 : lb < y5.heap.size := h.1; omega))
     have CF := Lib.hid hcf
     have SM2 := Lib.hid hsm2
     have BE2 := Lib.hid (Below.setCell (p := ⟨lb, li, none⟩) BW6.out hlbw (.slice ao (ml + 1) cv))
     clear hnew hrow h1 h3 hcf hsm2
     go_wp2_with fail
     go_roundw
     case rel => exact ⟨j + 1, LS.set li (mm ++ [(tv + 1, lt)]), T.set li (tv + 1), fun q => P' q ∨ y5.heap.size ≤ q, by go_num, by omega, by rw [List.length_set]; exact HLL.out, by rw [List.length_set]; exact HTL.out, HFN.out, HBG.out, fun i x hx => by
      rcases set_cases hx with ⟨rfl, rfl, _⟩ | ⟨_, hx⟩
      ·omega
      ·exact HLW.out i x hx, fun m hm => by
      rcases List.mem_or_eq_of_mem_set hm with hm | rfl
      ·have := HMSS.out m hm; omega
      ·have := HMSS.out mm (List.mem_of_getElem? HMM.out); simp; omega, CF.out, fun q h => h.elim (HP'.out q) .inr, SM2.out, BE2.out⟩
     case measure => simp [intOf]; omega
    ·go_simp
     refine hK.out _ _ ?_ (fun hHeld => ?_)
     ·exact KQ.out _ (show Below x7.heap.size x7 (x7.alloc (.cells #[.int .i64 (tv + 1), .int .i64 lt] 63)).drew from below_drewN (below_new x7 _) 1)
     clear hK K
     try simp only [Act.put, List.getElem_toArray, List.getElem_cons_zero, List.getElem_cons_succ, List.setIfInBounds_toArray, List.set_cons_zero, List.set_cons_succ]
     refine rd 13 fun K hK => ?_
     have z0 := HCL.out.1 _ (below_new x7 (.cells #[.int .i64 (tv + 1), .int .i64 lt] 63))
     go_simp
     clear z0
     refine hK.out _ _ ?_ (fun hHeld => ?_)
     ·exact KQ.out _ (show Below x7.heap.size x7 (x7.alloc (.cells #[.int .i64 (tv + 1), .int .i64 lt] 63)).drew from below_drewN (below_new x7 _) 1)
     clear hK K
     try simp only [Act.put, List.getElem_toArray, List.getElem_cons_zero, List.getElem_cons_succ, List.setIfInBounds_toArray, List.set_cons_zero, List.set_cons_succ]
     refine rd 26 fun K hK => ?_
     refine appSK (by rfl) _ _ 51 63 iq (.agg #[.int .i64 0, .int .i64 0]) 2 16 (by rfl) Try.underlying51 hiq hzq hsq hbq2 rfl (by decide) Q (fun _ => False) wb (below_step' BW7.out (show Below x7.heap.size x7 (x7.alloc (.cells #[.int .i64 (tv + 1), .int .i64 lt] 63)).drew from below_drewN (below_new x7 _) 1)) HQw.out ma ml mc (mm.map fun p => [dI p.1, dI p.2]) [[dI (tv + 1), dI lt]] 1 1 (ml + 1) (by rfl) (HHM.out.later (show Below x7.heap.size x7 (x7.alloc (.cells #[.int .i64 (tv + 1), .int .i64 lt] 63)).drew from below_drewN (below_new x7 _) 1)) (some ⟨x7.heap.size, 0, none⟩) (by rfl) [.int .i64 (tv + 1), .int .i64 lt] (news_new (w := x7) (vs := [.int .i64 (tv + 1), .int .i64 lt])) (fun h => by cases h) (by intro ds hds; simp at hds; subst hds; rfl) rfl (by rw [List.flatten_cons, List.flatten_nil, List.append_nil]; exact two_intL _ _ _) (fun _ h => h.elim) rfl (by unfold maxLen; omega) (by omega) ?_
     intro ao cv w6 hA hS hB6
     have hS6 : SameOn (fun q => ¬ Q q) x7 w6 := (SameOn.of_below (show Below x7.heap.size x7 (x7.alloc (.cells #[.int .i64 (tv + 1), .int .i64 lt] 63)).drew from below_drewN (below_new x7 _) 1)).trans hS
     have HA := Lib.hid hA
     have HS6 := Lib.hid hS6
     have BW6 := Lib.hid hB6
     clear hA hS hS6 hB6
     have K6 := Lib.hid (KS.out _ HS6.out)
     refine hK.out _ _ ?_ (fun hHeld => ?_)
     ·exact K6.out
     clear hK K
     try simp only [Act.put, List.getElem_toArray, List.getElem_cons_zero, List.getElem_cons_succ, List.setIfInBounds_toArray, List.set_cons_zero, List.set_cons_succ]
     refine tq 27 ?_
     refine rd 28 fun K hK => ?_
     have z0 := (HCL.out.2 _ HS6.out).1
     have f0 := (HCL.out.2 _ HS6.out).2
     go_simp
     clear z0 f0
     refine hK.out _ _ ?_ (fun hHeld => ?_)
     ·exact ⟨set_far (.inl NLB.out) K6.out.1, set_far (.inl NLB.out) K6.out.2.1, set_far (.inl NLC.out) K6.out.2.2.1, set_far (.inl NLW.out) K6.out.2.2.2⟩
     clear hK K
     try simp only [Act.put, List.getElem_toArray, List.getElem_cons_zero, List.getElem_cons_succ, List.setIfInBounds_toArray, List.set_cons_zero, List.set_cons_succ]
     refine wpAnyH_done (by kernel_rfl) ?_ _
     have hnew : Holds True (fun k => Q k ∨ x7.heap.size ≤ k) w6 (.slice ao (ml + 1) cv) (dLinks (mm ++ [(tv + 1, lt)])) := by
      unfold dLinks
      rw [List.map_append]
      exact HA.out.wide (fun k _ h => by
       rcases h with h | h
       ·exact .inl h
       ·exact .inr (by first | omega | (simp at h; omega)))
     have hrow := HFO.out w6 _ _ (fun k => Q k ∨ x7.heap.size ≤ k) (HS6.out.sub (fun q hq => hq.2)) hnew (fun q hq => ⟨fun e => hq.elim (fun h => HQL.out (by rw [← e]; exact h)) (fun h => by omega), hq.elim .inl (fun h => .inr (fun h2 => by have := (PP.out.2.1 q h2).2; omega))⟩)
     have h1 := (C1.out.same (HS6.out.sub (fun q hq h => PP.out.2.2.2.1 q hq (HQP.out q h)))).same ((SameOn.refl P1 w6).set ⟨lb, li, none⟩ (.slice ao (ml + 1) cv) (fun h => PP.out.2.2.2.1 _ h HPL.out))
     have h3 := (C3.out.same (HS6.out.sub (fun q hq h => PP.out.2.2.2.2.2 q (HQP.out q h) hq))).same ((SameOn.refl P3 w6).set ⟨lb, li, none⟩ (.slice ao (ml + 1) cv) (fun h => PP.out.2.2.2.2.2 _ HPL.out h))
     have hcf := cf_mkL (P := fun q => P' q ∨ y5.heap.size ≤ q) (c := ⟨c.states, LS.set li (mm ++ [(tv + 1, lt)]), T.set li (tv + 1)⟩) h1 hrow h3 (fun q h => .inl (PP.out.1 q h).1) (fun q h => h.elim (fun h => .inl (PP.out.2.1 q h).1) (fun h => h.elim (fun h => .inl (PP.out.2.1 q (HQP.out q h)).1) (fun h => .inr (by omega)))) (fun q h => .inl (PP.out.2.2.1 q h).1) (fun q h h' => h'.elim (PP.out.2.2.2.1 q h) (fun h' => h'.elim (fun h' => PP.out.2.2.2.1 q h (HQP.out q h')) (fun h' => by have := (PP.out.1 q h).2; omega))) PP.out.2.2.2.2.1 (fun q h h' => h.elim (fun h => PP.out.2.2.2.2.2 q h h') (fun h => h.elim (fun h => PP.out.2.2.2.2.2 q (HQP.out q h) h') (fun h => by have := (PP.out.2.2.1 q h').2; omega)))
     have hsm2 : SameOn (fun q => q < y5.heap.size ∧ ¬ P q) y5 (w6.setCell ⟨lb, li, none⟩ (.slice ao (ml + 1) cv)) := (SM7.out.trans (HS6.out.sub (fun q hq h => (HP'.out _ (PP.out.2.1 _ (HQP.out _ h)).1).elim hq.2 (fun h2 => by have h1 : q < y5.heap.size := hq.1; omega)))).set _ _ (fun h => (HP'.out _ (PP.out.2.1 _ HPL.out).1).elim h.2 (fun h2 => by have h1 : lb < y5.heap.size := h.1; omega))
     have CF := Lib.hid hcf
     have SM2 := Lib.hid hsm2
     have BE2 := Lib.hid (Below.setCell (p := ⟨lb, li, none⟩) BW6.out hlbw (.slice ao (ml + 1) cv))
     clear hnew hrow h1 h3 hcf hsm2
     go_wp2_with fail
     go_roundw
     case rel => exact ⟨j + 1, LS.set li (mm ++ [(tv + 1, lt)]), T.set li (tv + 1), fun q => P' q ∨ y5.heap.size ≤ q, by go_num, by omega, by rw [List.length_set]; exact HLL.out, by rw [List.length_set]; exact HTL.out, HFN.out, HBG.out, fun i x hx => by
      rcases set_cases hx with ⟨rfl, rfl, _⟩ | ⟨_, hx⟩
      ·omega
      ·exact HLW.out i x hx, fun m hm => by
      rcases List.mem_or_eq_of_mem_set hm with hm | rfl
      ·have := HMSS.out m hm; omega
      ·have := HMSS.out mm (List.mem_of_getElem? HMM.out); simp; omega, CF.out, fun q h => h.elim (HP'.out q) .inr, SM2.out, BE2.out⟩
     case measure => simp [intOf]; omega
   ·exact absurd hg.1 hno
  ·have hj3 : ¬ (j : Int) < ul := by omega
   have hpn9 := PN.out
   clear PN
   subst hpn9
   have hd0 : p.sends.drop j = [] := List.drop_of_length_le (by rw [← UL.out]; omega)
   rw [hd0] at hfin
   have hfin2 : (LS, T) = fin := hfin
   subst hfin2
   obtain ⟨P1, P2, P3, c1, c2, c3, p1, p2, p3, hd⟩ := cf_openL hC
   obtain ⟨d12, d13, d23⟩ := hd trivial
   obtain ⟨sb, e, hsb, hsbl, q0, f0, hset⟩ := c1.slot1 HST.out
   subst e
   have SYSr := Lib.hid ((SW.out.sys.below B5.out).same hsm ⟨by have := B5.out.size; omega, SW.out.nb⟩ ⟨by have := B5.out.size; have := (Array.getElem?_eq_some_iff.1 SW.out.sys.map).1; omega, SW.out.nm⟩)
   have NPw : ¬ P w.heap.size := fun h => Nat.lt_irrefl _ (SW.out.top _ h)
   have NP5 : ¬ P w5.heap.size := fun h => by have := SW.out.top _ h; omega
   have K9 := Lib.hid (show wr.cell? ⟨b, 4, none⟩ = some (.slice (some ⟨sb, 0, none⟩) n1 e1) ∧ wr.cell? ⟨w.heap.size, 1, none⟩ = some (.int .i64 node) ∧ wr.cell? ⟨w5.heap.size, 0, none⟩ = some (.int .i64 p.next) from ⟨SYSr.out.box 4 _ rfl, X5.out.same hsm ⟨hz5, NPw⟩ 1 _ rfl, XP.out.same hsm ⟨hz55, NP5⟩ 0 _ rfl⟩)
   have hsP : P sb ∨ y5.heap.size ≤ sb := hP' _ (p1 _ hsb)
   have NSB : Hid (sb ≠ b) := Lib.hid (fun e => hsP.elim (fun h => SW.out.nb (by rw [← e]; exact h)) (fun h => by have := B5.out.size; omega))
   have NSW : Hid (sb ≠ w.heap.size) := Lib.hid (fun e => hsP.elim (fun h => NPw (by rw [← e]; exact h)) (fun h => by omega))
   have NSP : Hid (sb ≠ w5.heap.size) := Lib.hid (fun e => hsP.elim (fun h => NP5 (by rw [← e]; exact h)) (fun h => by omega))
   have hsbw : wb.heap.size ≤ sb := hsP.elim (SW.out.low _) (fun h => Nat.le_trans BW5.out.size h)
   have hf9 := cf_mkL (P := P') (c := ⟨c.states.set node p.next, LS, T⟩) (hset p.next) (c2.same ((SameOn.refl P2 wr).set ⟨sb, node, none⟩ (.int .i64 p.next) (fun h => d12 _ hsb h))) (c3.same ((SameOn.refl P3 wr).set ⟨sb, node, none⟩ (.int .i64 p.next) (fun h => d13 _ hsb h))) p1 p2 p3 d12 d13 d23
   have hs9 : SameOn (fun q => ¬ P q) w (wr.setCell ⟨sb, node, none⟩ (.int .i64 p.next)) := by
    have h1 : SameOn (fun q => ¬ P q) w wr := ⟨Nat.le_trans B5.out.size hsm.1, fun q hq hlt => (hsm.2 q ⟨by have := B5.out.size; omega, hq⟩ (by have := B5.out.size; omega)).trans (B5.out.block q hlt)⟩
    refine ⟨by simpa using h1.1, fun q hq hlt => ?_⟩
    have hne : q ≠ sb := fun e => hsP.elim (fun h => hq (by rw [e]; exact h)) (fun h => by have := B5.out.size; omega)
    exact ((((SameOn.refl (fun q => q ≠ sb) wr).set ⟨sb, node, none⟩ (.int .i64 p.next) (fun h => h rfl)).2 q hne (Nat.lt_of_lt_of_le hlt h1.1)).trans (h1.2 q hq hlt))
   have hb9 := Below.setCell (p := ⟨sb, node, none⟩) hB hsbw (.int .i64 p.next)
   have HF9 := Lib.hid hf9
   have HS9 := Lib.hid hs9
   have HB9 := Lib.hid hb9
   have HPF : Hid (∀ q, P' q → P q ∨ w.heap.size ≤ q) := Lib.hid (fun q h => (hP' q h).elim .inl (fun h => .inr (by omega)))
   clear hf9 hs9 hb9 hfin hbg hlow hms hC hP' hsm hB c1 c2 c3 p1 p2 p3 hd d12 d13 d23 hset hsb hsP hd0 hLl hTl
   go_wp2_with fail
   refine wp_region_held_drew (S := (fun w' => w'.cell? ⟨b, 4, none⟩ = some (.slice (some ⟨sb, 0, none⟩) n1 e1) ∧ w'.cell? ⟨w.heap.size, 1, none⟩ = some (.int .i64 node) ∧ w'.cell? ⟨w5.heap.size, 0, none⟩ = some (.int .i64 p.next))) (by kernel_rfl) ?_ (fun hHeld => ?_)
   ·exact K9.out
   refine tq 0 ?_
   refine tq 1 ?_
   refine tq 2 ?_
   refine tq 3 ?_
   refine tq 4 ?_
   refine tq 5 ?_
   refine tq 6 ?_
   refine tq 7 ?_
   refine tq 8 ?_
   refine tq 9 ?_
   refine rd 10 fun K hK => ?_
   have z0 := q0
   have z1 := f0
   go_simp
   clear z0 z1
   refine hK.out _ _ ?_ (fun hHeld => ?_)
   ·exact ⟨set_far (.inl NSB.out) K9.out.1, set_far (.inl NSW.out) K9.out.2.1, set_far (.inl NSP.out) K9.out.2.2⟩
   clear hK K
   try simp only [Act.put, List.getElem_toArray, List.getElem_cons_zero, List.getElem_cons_succ, List.setIfInBounds_toArray, List.set_cons_zero, List.set_cons_succ]
   refine wpAnyH_done (by kernel_rfl) ?_ _
   go_wp2_with fail
   go_end0
   exact ⟨rfl, ⟨P', HF9.out.later (below_drewN (Below.refl _ _) 1), HPF.out⟩, HS9.out.drew, below_drewN HB9.out 1⟩
end Go.Proofs.Ytiblcpkejhiehaa

