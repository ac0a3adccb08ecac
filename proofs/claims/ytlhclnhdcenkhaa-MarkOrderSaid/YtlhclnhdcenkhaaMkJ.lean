/- Marks: the law's Ref and ends, the document's Same. Written by gen_mark1.py. -/
import Derived.Test.YtlhclnhdcenkhaaMkI
set_option linter.unusedSimpArgs false
set_option linter.unusedVariables false
set_option maxRecDepth 100000
namespace Go.Proofs.Ytlhclnhdcenkhaa
open Go.RowKit Go.PlainAid

set_option maxHeartbeats 8000000 in
theorem ref10_at (m : Mk) (v0 v1 v2 v3 : Value) (w : World) (h : ∃ (a0 a1 a2 a3 : Option Addr) (n0 n1 n2 n3 e0 e1 e2 e3 : Nat), v0 = .slice a0 n0 e0 ∧ v1 = .slice a1 n1 e1 ∧ v2 = .slice a2 n2 e2 ∧ v3 = .slice a3 n3 e3) :
    Calls Try.prog 16 #[mkv m v0 v1 v2 v3] w fun e w' => e = .returned (mkv m v0 v1 v2 v3) ∧ Below w.heap.size w w' := by
  obtain ⟨a0, a1, a2, a3, n0, n1, n2, n3, e0, e1, e2, e3, rfl, rfl, rfl, rfl⟩ := h
  have RF := Lib.hid (fun (w' : World) => ref_at m.p (.slice a1 n1 e1) (.slice a2 n2 e2) (.slice a3 n3 e3) w' ⟨_, _, _, _, _, _, _, _, _, rfl, rfl, rfl⟩)
  obtain ⟨ep, hep⟩ : ∃ e, e = m.ep := ⟨_, rfl⟩
  obtain ⟨p0, hp0⟩ : ∃ e, e = m.p.node := ⟨_, rfl⟩
  obtain ⟨p1, hp1⟩ : ∃ e, e = m.p.state := ⟨_, rfl⟩
  obtain ⟨p2, hp2⟩ : ∃ e, e = m.p.steps := ⟨_, rfl⟩
  have MQ : Hid (∀ v x y z, mkv m v x y z = .agg #[.int .i64 ep, v, .int .i64 p0, .int .i64 p1, .int .i64 p2, x, y, z]) := Lib.hid (fun v x y z => by rw [hep, hp0, hp1, hp2])
  rw [MQ.out]
  have PQ : Hid (∀ x y z, pcv m.p x y z = .agg #[.int .i64 p0, .int .i64 p1, .int .i64 p2, x, y, z]) := Lib.hid (fun x y z => by rw [hp0, hp1, hp2])
  rw [PQ.out] at RF
  clear hep hp0 hp1 hp2
  go_enter Try.func16, Try.ntmps16
  go_upto_region 1 with fail
  obtain ⟨bm, hbm⟩ : ∃ b, b = w.heap.size := ⟨_, rfl⟩
  obtain ⟨br, hbr⟩ : ∃ b, b = w.heap.size + 1 := ⟨_, rfl⟩
  obtain ⟨y1, hy1⟩ : ∃ y, y = w.alloc (.cells #[.int .i64 ep, .slice a0 n0 e0, .int .i64 p0, .int .i64 p1, .int .i64 p2, .slice a1 n1 e1, .slice a2 n2 e2, .slice a3 n3 e3] 33) := ⟨_, rfl⟩
  obtain ⟨y0, hy0⟩ : ∃ y, y = y1.alloc (.cells #[.int .i64 0, .slice none 0 0, .int .i64 0, .int .i64 0, .int .i64 0, .slice none 0 0, .slice none 0 0, .slice none 0 0] 36) := ⟨_, rfl⟩
  have d0 : Below w.heap.size w y1 := by rw [hy1]; exact below_new _ _
  have z1 : y1.heap.size = br := by rw [hy1, size_new, hbr]
  have d1 : Below y1.heap.size y1 y0 := by rw [hy0]; exact below_new _ _
  have Km : Hid (BoxAt bm [.int .i64 ep, .slice a0 n0 e0, .int .i64 p0, .int .i64 p1, .int .i64 p2, .slice a1 n1 e1, .slice a2 n2 e2, .slice a3 n3 e3] y0) := Lib.hid (by rw [hbm]; exact BoxAt.below (by rw [hy1]; exact boxAt_new w [.int .i64 ep, .slice a0 n0 e0, .int .i64 p0, .int .i64 p1, .int .i64 p2, .slice a1 n1 e1, .slice a2 n2 e2, .slice a3 n3 e3] _) d1)
  have Om : Hid (Open8 bm y0) := Lib.hid (by rw [hbm]; exact Open8.below (by rw [hy1]; exact Open8.new _ _ _) d1)
  have Kr : Hid (BoxAt br [.int .i64 0, .slice none 0 0, .int .i64 0, .int .i64 0, .int .i64 0, .slice none 0 0, .slice none 0 0, .slice none 0 0] y0) := Lib.hid (by rw [← z1, hy0]; exact boxAt_new y1 [.int .i64 0, .slice none 0 0, .int .i64 0, .int .i64 0, .int .i64 0, .slice none 0 0, .slice none 0 0, .slice none 0 0] _)
  have Or : Hid (Open8 br y0) := Lib.hid (by rw [← z1, hy0]; exact Open8.new _ _ _)
  have B0 := Lib.hid (below_step' d0 d1)
  have RR : Hid (w.heap.size ≤ bm ∧ w.heap.size ≤ br ∧ bm ≠ br) := Lib.hid (by omega)
  rw [← hy1, ← hy0]
  simp only [← hbr]
  simp only [← hbm]
  clear hy1 hy0 hbm hbr d0 d1 z1
  refine wp_region_held_drew (S := (fun w' => w'.cell? ⟨bm, 0, none⟩ = some (.int .i64 ep) ∧ w'.cell? ⟨bm, 1, none⟩ = some (.slice a0 n0 e0) ∧ w'.cell? ⟨bm, 2, none⟩ = some (.int .i64 p0) ∧ w'.cell? ⟨bm, 3, none⟩ = some (.int .i64 p1) ∧ w'.cell? ⟨bm, 4, none⟩ = some (.int .i64 p2) ∧ w'.cell? ⟨bm, 5, none⟩ = some (.slice a1 n1 e1) ∧ w'.cell? ⟨bm, 6, none⟩ = some (.slice a2 n2 e2) ∧ w'.cell? ⟨bm, 7, none⟩ = some (.slice a3 n3 e3))) (by kernel_rfl) ?_ (fun hHeld => ?_)
  · exact ⟨Km.out.below (below_drewN (Below.refl _ y0) 1) 0 _ rfl, Km.out.below (below_drewN (Below.refl _ y0) 1) 1 _ rfl, Km.out.below (below_drewN (Below.refl _ y0) 1) 2 _ rfl, Km.out.below (below_drewN (Below.refl _ y0) 1) 3 _ rfl, Km.out.below (below_drewN (Below.refl _ y0) 1) 4 _ rfl, Km.out.below (below_drewN (Below.refl _ y0) 1) 5 _ rfl, Km.out.below (below_drewN (Below.refl _ y0) 1) 6 _ rfl, Km.out.below (below_drewN (Below.refl _ y0) 1) 7 _ rfl⟩
  obtain ⟨yb, hyb⟩ : ∃ y, y = y0.drew := ⟨_, rfl⟩
  rw [← hyb] at hHeld ⊢
  have BYb : Hid (Below y0.heap.size y0 yb) := Lib.hid (by rw [hyb]; exact below_drewN (Below.refl _ y0) 1)
  clear hyb
  refine tq 0 ?_
  refine tq 2 ?_
  refine tq 4 ?_
  refine tq 1 ?_
  refine tq 3 ?_
  refine tq 5 ?_
  refine rd 6 fun K hK => ?_
  go_simp
  refine (RF.out _).mono ?_
  rintro e w1 ⟨rfl, hb⟩
  have B1 := Lib.hid (below_step' BYb.out hb)
  clear hb
  go_wp2_with fail
  refine hK.out _ _ ?_ (fun hHeld => ?_)
  · exact ⟨Km.out.below B1.out 0 _ rfl, Km.out.below B1.out 1 _ rfl, Km.out.below B1.out 2 _ rfl, Km.out.below B1.out 3 _ rfl, Km.out.below B1.out 4 _ rfl, Km.out.below B1.out 5 _ rfl, Km.out.below B1.out 6 _ rfl, Km.out.below B1.out 7 _ rfl⟩
  clear hK K
  refine tq 7 ?_
  have KR := Lib.hid (Kr.out.below B1.out)
  have OR := Lib.hid (Or.out.below B1.out)
  have KMS : Hid (BoxAt bm [.int .i64 ep, .slice a0 n0 e0, .int .i64 p0, .int .i64 p1, .int .i64 p2, .slice a1 n1 e1, .slice a2 n2 e2, .slice a3 n3 e3] (setN w1 br 0 [.int .i64 ep, .slice a0 n0 e0, .int .i64 p0, .int .i64 p1, .int .i64 p2, .slice a1 n1 e1, .slice a2 n2 e2, .slice a3 n3 e3])) := Lib.hid (setN_far RR.out.2.2 (Km.out.below B1.out))
  have r0 := KR.out 0 _ rfl
  have r1 := KR.out 1 _ rfl
  have r2 := KR.out 2 _ rfl
  have r3 := KR.out 3 _ rfl
  have r4 := KR.out 4 _ rfl
  have r5 := KR.out 5 _ rfl
  have r6 := KR.out 6 _ rfl
  have r7 := KR.out 7 _ rfl
  have g0 := OR.out.2 0
  have g1 := OR.out.2 1
  have g2 := OR.out.2 2
  have g3 := OR.out.2 3
  have g4 := OR.out.2 4
  have g5 := OR.out.2 5
  have g6 := OR.out.2 6
  have g7 := OR.out.2 7
  refine rd 8 fun K hK => ?_
  go_simp
  refine hK.out _ _ ?_ (fun hHeld => ?_)
  · exact ⟨KMS.out 0 _ rfl, KMS.out 1 _ rfl, KMS.out 2 _ rfl, KMS.out 3 _ rfl, KMS.out 4 _ rfl, KMS.out 5 _ rfl, KMS.out 6 _ rfl, KMS.out 7 _ rfl⟩
  clear hK K
  refine wpAnyH_done (by kernel_rfl) ?_ _
  clear r0 r1 r2 r3 r4 r5 r6 r7 g0 g1 g2 g3 g4 g5 g6 g7 hHeld
  have BW := Lib.hid (below_step' B0.out B1.out)
  go_wp2_with fail
  change bodyPost _ _ _ Exit.ret _ (setN w1 br 0 [.int .i64 ep, .slice a0 n0 e0, .int .i64 p0, .int .i64 p1, .int .i64 p2, .slice a1 n1 e1, .slice a2 n2 e2, .slice a3 n3 e3])
  have HB : BoxAt br [.int .i64 ep, .slice a0 n0 e0, .int .i64 p0, .int .i64 p1, .int .i64 p2, .slice a1 n1 e1, .slice a2 n2 e2, .slice a3 n3 e3] (setN w1 br 0 [.int .i64 ep, .slice a0 n0 e0, .int .i64 p0, .int .i64 p1, .int .i64 p2, .slice a1 n1 e1, .slice a2 n2 e2, .slice a3 n3 e3]) := setN_box [.int .i64 ep, .slice a0 n0 e0, .int .i64 p0, .int .i64 p1, .int .i64 p2, .slice a1 n1 e1, .slice a2 n2 e2, .slice a3 n3 e3] 0 _ w1 KR.out (by simp)
  exact bodyPost_ret (v := .agg #[.int .i64 ep, .slice a0 n0 e0, .int .i64 p0, .int .i64 p1, .int .i64 p2, .slice a1 n1 e1, .slice a2 n2 e2, .slice a3 n3 e3]) (by simp [results, Try.results16, go_sem, HB 0 _ rfl, HB 1 _ rfl, HB 2 _ rfl, HB 3 _ rfl, HB 4 _ rfl, HB 5 _ rfl, HB 6 _ rfl, HB 7 _ rfl]) rfl ⟨rfl, setN_below RR.out.2.1 _ 0 w1 BW.out⟩
def endsH (n s : Nat) : Hs := ⟨1, 2, s, List.replicate n [], List.replicate n []⟩
theorem ends_small (n s : Nat) (h : n ≤ 6) : SmallHs (endsH n s) ∧ (endsH n s).inn.length = n := by
  refine ⟨⟨by unfold endsH; simp; omega, by unfold endsH; simp; omega, fun l hl => by unfold endsH at hl; simp only at hl; rw [List.eq_of_mem_replicate hl]; simp⟩, by unfold endsH; simp⟩
theorem make_ils (n : Nat) (h : n ≤ 1000000) (w : World) : (Instr.makeSlice 24 (.int .i64 (n : Int)) (.int .i64 (n : Int))).run Try.prog w = .ok (.slice (some ⟨w.heap.size, 0, none⟩) n n) (w.alloc (.cells (madeCells #[.slice none 0 0] n) 29)) := by
  obtain ⟨i, hi, hz, h1, h2⟩ := info_parts infoIntsI
  have := run_make (P := Try.prog) w 24 29 i (.slice none 0 0) Try.underlying24 hi hz .i64 .i64 n n (by omega) (by omega) (by rw [h2]; omega) (by omega)
  rw [this, h1]
  simp [Value.cells]
theorem hold_nilsI {P : Nat → Prop} {w : World} (N : Nat) : HoldsL True P w (List.replicate N (Value.slice none 0 0)) (((List.replicate N ([] : List Int)).map fun m => [dInts m]).flatten) := by
  refine ⟨by simp [List.length_flatten, List.map_replicate], fun _ _ => False, fun _ _ h => h.elim, fun _ _ _ _ h => h.elim, fun j c d hc hd => ?_⟩
  have h1 : c = .slice none 0 0 := List.eq_of_mem_replicate (List.mem_of_getElem? hc)
  have h2 : d = dInts [] := by
    have h := List.mem_of_getElem? hd
    rw [List.mem_flatten] at h
    obtain ⟨l, hl, h⟩ := h
    obtain ⟨x, hx, rfl⟩ := List.mem_map.1 hl
    rw [List.eq_of_mem_replicate hx] at h
    simpa using h
  subst h1 h2
  exact .nil _ _ _ _ _
theorem ils_made (N : Nat) (h : N ≤ 1000000) (w : World) : Holds True (fun q => w.heap.size ≤ q) (w.alloc (.cells (madeCells #[.slice none 0 0] N) 29)) (.slice (some ⟨w.heap.size, 0, none⟩) N N) (dIls (List.replicate N [])) := by
  refine holds_mk (Q := fun _ => False) (xs := (List.replicate N ([] : List Int)).map fun m => [dInts m]) (by simp) (Nat.le_refl _) (heap_alloc_new w _) (Nat.le_refl _) (by unfold maxLen; omega) (by simp [madeCells]) rfl (fun ds hd => by obtain ⟨x, _, rfl⟩ := List.mem_map.1 hd; rfl) ?_ (fun _ h => h.elim) (fun h => h)
  rw [madeL, Nat.mul_one, List.take_of_length_le (by simp)]
  exact hold_nilsI N
def phE (y : World) (n : Nat) (g : Nat) (v : Value) (w : World) : Prop := ∃ b, v = .slice (some ⟨b, 0, none⟩) n n ∧ Holds False (fun q => y.heap.size ≤ q) w v (if g = 3 then dLls (List.replicate n []) else dIls (List.replicate n []))
def EndsTold (n s : Nat) (w : World) (e : Ending) (w' : World) : Prop := ∃ v1 v2, e = .returned (hsv (endsH n s) v1 v2) ∧ HasL w' [v1, v2] (endsH n s).d ∧ Below w.heap.size w w'
set_option maxHeartbeats 8000000 in
theorem ends_at (l s n : Nat) (w : World) (hl : l < 256) (hs : s < 256) (hn : n = l % 6) :
    Calls Try.prog 9 #[.int .u8 (l : Int), .int .u8 (s : Int)] w (EndsTold n s w) := by
  have hl2 : IntKind.i64.wrap (l : Int) = (l : Int) := IntWalk.i64_in _ (by omega)
  have hs2 : IntKind.i64.wrap (s : Int) = (s : Int) := IntWalk.i64_in _ (by omega)
  have hnn : n ≤ 5 := by omega
  have hmod : (l : Int).tmod 6 = (n : Int) := by rw [hn]; rfl
  have hmk := make_lls n (by omega)
  have hmi := make_ils n (by omega)
  have hnw : IntKind.i64.wrap (n : Int) = (n : Int) := IntWalk.i64_in _ (by omega)
  have HN := Lib.hid hn
  clear hn
  go_enter Try.func9, Try.ntmps9
  go_upto_region 2 with fail
  obtain ⟨br, hbr⟩ : ∃ b, b = w.heap.size := ⟨_, rfl⟩
  obtain ⟨y0, hy0⟩ : ∃ y, y = w.alloc (.cells #[.int .i64 0, .int .i64 0, .int .i64 0, .slice none 0 0, .slice none 0 0] 26) := ⟨_, rfl⟩
  have Kr : Hid (BoxAt br [.int .i64 0, .int .i64 0, .int .i64 0, .slice none 0 0, .slice none 0 0] y0) := Lib.hid (by rw [hbr, hy0]; exact boxAt_new w [.int .i64 0, .int .i64 0, .int .i64 0, .slice none 0 0, .slice none 0 0] _)
  have Or : Hid (Open8 br y0) := Lib.hid (by rw [hbr, hy0]; exact Open8.new _ _ _)
  have B0 : Hid (Below w.heap.size w y0) := Lib.hid (by rw [hy0]; exact below_new _ _)
  have RR : Hid (w.heap.size ≤ br) := Lib.hid (by omega)
  rw [← hy0, ← hbr]
  clear hy0 hbr
  refine wp_region_held_drew (S := fun _ => True) (by kernel_rfl) ?_ (fun hHeld => ?_)
  · exact trivial
  obtain ⟨yb, hyb⟩ : ∃ y, y = y0.drew := ⟨_, rfl⟩
  rw [← hyb]
  have BYb : Hid (Below y0.heap.size y0 yb) := Lib.hid (by rw [hyb]; exact below_drewN (Below.refl _ y0) 1)
  clear hyb
  refine tq 0 ?_
  refine tq 2 ?_
  refine tq 4 ?_
  refine tq 1 ?_
  refine wpAnyH_group (n := 2) [3, 5] 6 (phE yb n) (fun _ _ _ _ _ => True) (by kernel_rfl) (by kernel_rfl) (by kernel_rfl) (by kernel_rfl) (by kernel_rfl) (fun _ _ _ _ h hb => by obtain ⟨b, e, h⟩ := h; exact ⟨b, e, h.later hb⟩) (fun _ _ _ _ _ _ _ _ => trivial) ?step hHeld ?fin
  case step =>
    intro g hg o ho D vs a wx hD hgD hφ hψ hSx hbx hfr hdep K hK
    have hwz := hbx.size
    simp only [List.mem_cons, List.not_mem_nil, or_false] at hg
    rcases hg with rfl | rfl
    · obtain rfl := Option.some.inj (show some _ = some o from ho)
      have t11 : a.tmps[11]? = _ := (hfr 11 (by decide)).trans rfl
      have hm1 := hmk wx
      have hh := lls_made n (by omega) wx
      clear hψ hφ hdep hfr
      go_simp
      exact hK.out _ _ trivial ⟨_, rfl, hh.loose.wide (fun q _ (hq : wx.heap.size ≤ q) => Nat.le_trans hwz hq)⟩ (fun _ _ => trivial) (below_new _ _)
    · obtain rfl := Option.some.inj (show some _ = some o from ho)
      have t13 : a.tmps[13]? = _ := (hfr 13 (by decide)).trans rfl
      have hm1 := hmi wx
      have hh := ils_made n (by omega) wx
      clear hψ hφ hdep hfr
      go_simp
      exact hK.out _ _ trivial ⟨_, rfl, hh.loose.wide (fun q _ (hq : wx.heap.size ≤ q) => Nat.le_trans hwz hq)⟩ (fun _ _ => trivial) (below_new _ _)
  case fin =>
    intro vs wx hSx hbx hφ hψ
    obtain ⟨b1, q1, h1⟩ := hφ 3 (by simp)
    obtain ⟨b2, q2, h2⟩ := hφ 5 (by simp)
    have BX := Lib.hid (below_step' BYb.out hbx)
    change wpAnyH _ _ _ _ _ _ _ (((_ : Act).put (some 12) (vs 3)).put (some 14) (vs 5)) _
    rw [q1, q2]
    rw [q1] at h1
    rw [q2] at h2
    try simp only [Act.put, List.getElem_toArray, List.getElem_cons_zero, List.getElem_cons_succ, List.setIfInBounds_toArray, List.set_cons_zero, List.set_cons_succ]
    have h1' : Holds False (fun q => yb.heap.size ≤ q) wx (.slice (some ⟨b1, 0, none⟩) n n) (dLls (List.replicate n [])) := h1
    have h2' : Holds False (fun q => yb.heap.size ≤ q) wx (.slice (some ⟨b2, 0, none⟩) n n) (dIls (List.replicate n [])) := h2
    have SM : SameOn (fun q => yb.heap.size ≤ q) wx (setN wx br 0 [.int .i64 1, .int .i64 2, .int .i64 (s : Int), .slice (some ⟨b1, 0, none⟩) n n, .slice (some ⟨b2, 0, none⟩) n n]) := setN_same (P := fun q => yb.heap.size ≤ q) (b := br) (fun h => Nat.lt_irrefl _ (Nat.lt_of_lt_of_le (Nat.lt_of_lt_of_le Or.out.1 BYb.out.size) h)) _ 0 wx (SameOn.refl _ _)
    have H1 := Lib.hid ((h1'.same SM).weak)
    have H2 := Lib.hid ((h2'.same SM).weak)
    have KR := Lib.hid (Kr.out.below BX.out)
    have OR := Lib.hid (Or.out.below BX.out)
    have BW := Lib.hid (below_step' B0.out BX.out)
    clear hφ hψ h1 h2 h1' h2' SM q1 q2 hbx hSx
    refine tq 6 ?_
    have r0 := KR.out 0 _ rfl
    have r1 := KR.out 1 _ rfl
    have r2 := KR.out 2 _ rfl
    have r3 := KR.out 3 _ rfl
    have r4 := KR.out 4 _ rfl
    have g0 := OR.out.2 0
    have g1 := OR.out.2 1
    have g2 := OR.out.2 2
    have g3 := OR.out.2 3
    have g4 := OR.out.2 4
    refine rd 7 fun K hK => ?_
    go_simp
    refine hK.out _ _ ?_ (fun hHeld => ?_)
    · exact trivial
    clear hK K
    refine wpAnyH_done (by kernel_rfl) ?_ _
    go_wp2_with fail
    change bodyPost _ _ _ Exit.ret _ (setN wx br 0 [.int .i64 1, .int .i64 2, .int .i64 (s : Int), .slice (some ⟨b1, 0, none⟩) n n, .slice (some ⟨b2, 0, none⟩) n n])
    have HB : BoxAt br [.int .i64 1, .int .i64 2, .int .i64 (s : Int), .slice (some ⟨b1, 0, none⟩) n n, .slice (some ⟨b2, 0, none⟩) n n] (setN wx br 0 [.int .i64 1, .int .i64 2, .int .i64 (s : Int), .slice (some ⟨b1, 0, none⟩) n n, .slice (some ⟨b2, 0, none⟩) n n]) := setN_box [.int .i64 1, .int .i64 2, .int .i64 (s : Int), .slice (some ⟨b1, 0, none⟩) n n, .slice (some ⟨b2, 0, none⟩) n n] 0 _ wx KR.out (by simp)
    exact bodyPost_ret (v := .agg #[.int .i64 1, .int .i64 2, .int .i64 (s : Int), .slice (some ⟨b1, 0, none⟩) n n, .slice (some ⟨b2, 0, none⟩) n n]) (by simp [results, Try.results9, go_sem, HB 0 _ rfl, HB 1 _ rfl, HB 2 _ rfl, HB 3 _ rfl, HB 4 _ rfl]) rfl ⟨_, _, rfl, .mk H1.out (.mk H2.out (hasL_nil _ _ _)), setN_below RR.out _ 0 wx BW.out⟩
set_option maxHeartbeats 8000000 in
theorem rsame10_at (a b : Mk) (r : Bool) (v0 v1 v2 v3 u0 u1 u2 u3 : Value) (w : World) (h : HasL w [v0, v1, v2, v3] a.d) (h' : HasL w [u0, u1, u2, u3] b.d) (hs : SmallMk a) (hs' : SmallMk b) (hr : r = true ↔ a = b) :
    Calls Try.prog 15 #[mkv a v0 v1 v2 v3, mkv b u0 u1 u2 u3] w fun e w' => e = .returned (.bool r) ∧ Below w.heap.size w w' := by
  obtain ⟨x1, hx1⟩ := bool_some (a.p = b.p)
  have RS := Lib.hid (fun (w' : World) (hb : Below w.heap.size w w') => rsame_at a.p b.p x1 v1 v2 v3 u1 u2 u3 w' ((mk_has h).2.later hb) ((mk_has h').2.later hb) hs.p hs'.p hx1)
  obtain ⟨a0, a1, a2, a3, n0, n1, n2, n3, e0, e1, e2, e3, ee0, ee1, ee2, ee3⟩ := mk_slices h
  subst ee0
  subst ee1
  subst ee2
  subst ee3
  obtain ⟨b0, b1, b2, b3, m0, m1, m2, m3, o0, o1, o2, o3, ee0, ee1, ee2, ee3⟩ := mk_slices h'
  subst ee0
  subst ee1
  subst ee2
  subst ee3
  have HA := Lib.hid (mk_has h).1
  have HB := Lib.hid (mk_has h').1
  have NA := Lib.hid (bools_len HA.out)
  have NB := Lib.hid (bools_len HB.out)
  have hn6 : n0 ≤ 1000000 := by rw [NA.out]; exact hs.b
  obtain ⟨ep, hep⟩ : ∃ e, e = a.ep := ⟨_, rfl⟩
  obtain ⟨p0, hp0⟩ : ∃ e, e = a.p.node := ⟨_, rfl⟩
  obtain ⟨p1, hp1⟩ : ∃ e, e = a.p.state := ⟨_, rfl⟩
  obtain ⟨p2, hp2⟩ : ∃ e, e = a.p.steps := ⟨_, rfl⟩
  obtain ⟨ef, hef⟩ : ∃ e, e = b.ep := ⟨_, rfl⟩
  obtain ⟨q0, hq0⟩ : ∃ e, e = b.p.node := ⟨_, rfl⟩
  obtain ⟨q1, hq1⟩ : ∃ e, e = b.p.state := ⟨_, rfl⟩
  obtain ⟨q2, hq2⟩ : ∃ e, e = b.p.steps := ⟨_, rfl⟩
  unfold mkv
  rw [show pcv a.p (.slice a1 n1 e1) (.slice a2 n2 e2) (.slice a3 n3 e3) = .agg #[.int .i64 p0, .int .i64 p1, .int .i64 p2, .slice a1 n1 e1, .slice a2 n2 e2, .slice a3 n3 e3] from by rw [hp0, hp1, hp2], show pcv b.p (.slice b1 m1 o1) (.slice b2 m2 o2) (.slice b3 m3 o3) = .agg #[.int .i64 q0, .int .i64 q1, .int .i64 q2, .slice b1 m1 o1, .slice b2 m2 o2, .slice b3 m3 o3] from by rw [hq0, hq1, hq2]] at RS
  rw [← hep, ← hp0, ← hp1, ← hp2, ← hef, ← hq0, ← hq1, ← hq2]
  have RR9 : Hid (r = true ↔ ep = ef ∧ a.op = b.op ∧ x1 = true) := Lib.hid (by
    rw [hr, hep, hef, hx1]
    obtain ⟨s1, s2, s3⟩ := a
    obtain ⟨t1, t2, t3⟩ := b
    simp)
  clear h h' hs hs' hr hx1 hep hp0 hp1 hp2 hef hq0 hq1 hq2
  go_enter Try.func15, Try.ntmps15
  try simp only [List.append_eq, List.cons_append, List.nil_append]
  go_upto_region 1 with fail
  obtain ⟨bp, hbp⟩ : ∃ b, b = w.heap.size := ⟨_, rfl⟩
  obtain ⟨bq, hbq⟩ : ∃ b, b = w.heap.size + 1 := ⟨_, rfl⟩
  obtain ⟨y1, hy1⟩ : ∃ y, y = w.alloc (.cells #[.int .i64 ep, .slice a0 n0 e0, .int .i64 p0, .int .i64 p1, .int .i64 p2, .slice a1 n1 e1, .slice a2 n2 e2, .slice a3 n3 e3] 36) := ⟨_, rfl⟩
  obtain ⟨y0, hy0⟩ : ∃ y, y = y1.alloc (.cells #[.int .i64 ef, .slice b0 m0 o0, .int .i64 q0, .int .i64 q1, .int .i64 q2, .slice b1 m1 o1, .slice b2 m2 o2, .slice b3 m3 o3] 36) := ⟨_, rfl⟩
  have d0 : Below w.heap.size w y1 := by rw [hy1]; exact below_new _ _
  have z1 : y1.heap.size = bq := by rw [hy1, size_new, hbq]
  have d1 : Below y1.heap.size y1 y0 := by rw [hy0]; exact below_new _ _
  have Kp : Hid (BoxAt bp [.int .i64 ep, .slice a0 n0 e0, .int .i64 p0, .int .i64 p1, .int .i64 p2, .slice a1 n1 e1, .slice a2 n2 e2, .slice a3 n3 e3] y0) := Lib.hid (by rw [hbp]; exact BoxAt.below (by rw [hy1]; exact boxAt_new w [.int .i64 ep, .slice a0 n0 e0, .int .i64 p0, .int .i64 p1, .int .i64 p2, .slice a1 n1 e1, .slice a2 n2 e2, .slice a3 n3 e3] _) d1)
  have Op : Hid (Open8 bp y0) := Lib.hid (by rw [hbp]; exact Open8.below (by rw [hy1]; exact Open8.new _ _ _) d1)
  have Kq : Hid (BoxAt bq [.int .i64 ef, .slice b0 m0 o0, .int .i64 q0, .int .i64 q1, .int .i64 q2, .slice b1 m1 o1, .slice b2 m2 o2, .slice b3 m3 o3] y0) := Lib.hid (by rw [← z1, hy0]; exact boxAt_new y1 [.int .i64 ef, .slice b0 m0 o0, .int .i64 q0, .int .i64 q1, .int .i64 q2, .slice b1 m1 o1, .slice b2 m2 o2, .slice b3 m3 o3] _)
  have Oq : Hid (Open8 bq y0) := Lib.hid (by rw [← z1, hy0]; exact Open8.new _ _ _)
  have B0 := Lib.hid (below_step' d0 d1)
  have RR : Hid (w.heap.size ≤ bp ∧ w.heap.size ≤ bq ∧ bp ≠ bq) := Lib.hid (by omega)
  rw [← hy1, ← hy0]
  simp only [← hbq]
  simp only [← hbp]
  clear hy1 hy0 hbp hbq d0 d1 z1
  have c0 := Kp.out 0 _ rfl
  have c1 := Kp.out 1 _ rfl
  have c2 := Kp.out 2 _ rfl
  have c3 := Kp.out 3 _ rfl
  have c4 := Kp.out 4 _ rfl
  have c5 := Kp.out 5 _ rfl
  have c6 := Kp.out 6 _ rfl
  have c7 := Kp.out 7 _ rfl
  have k0 := Kq.out 0 _ rfl
  have k1 := Kq.out 1 _ rfl
  have k2 := Kq.out 2 _ rfl
  have k3 := Kq.out 3 _ rfl
  have k4 := Kq.out 4 _ rfl
  have k5 := Kq.out 5 _ rfl
  have k6 := Kq.out 6 _ rfl
  have k7 := Kq.out 7 _ rfl
  by_cases h0 : ep = ef
  · have g0 : (ep != ef) = false := by simp [h0]
    have H0 := Lib.hid h0
    clear h0
    by_cases h1 : n0 = m0
    · have g1 : ((n0 : Int) != (m0 : Int)) = false := by simp; omega
      have H1 := Lib.hid h1
      clear h1
      go_wp2_with fail
      refine (RS.out _ B0.out).mono ?_
      rintro e w1 ⟨rfl, hb⟩
      have B1 := Lib.hid hb
      clear hb c0 c1 c2 c3 c4 c5 c6 c7 k0 k1 k2 k3 k4 k5 k6 k7
      cases x1 with
      | false =>
        obtain rfl : r = false := no_of RR9.out (fun h => by have := h.2.2; cases this)
        go_wp2_with fail
        go_ret
        exact ⟨rfl, below_step' B0.out B1.out⟩
      | true =>
        go_wp2_with fail
        go_loopw [5] (fun i wr => ∃ j : Nat, i = .int .i64 j ∧ j ≤ n0 ∧ a.op.take j = b.op.take j ∧ Below w1.heap.size w1 wr) (fun i _ => n0 - (intOf i).toNat)
        case atStart => exact ⟨0, rfl, by omega, rfl, Below.refl _ _⟩
        case round =>
          obtain ⟨j, rfl, hj, heq, hb⟩ := hrel
          have BR := Lib.hid (below_step' B1.out hb)
          have BWR := Lib.hid (below_step' B0.out BR.out)
          have BQ := Lib.hid hb
          have EQ := Lib.hid heq
          have c1 := Kp.out.below BR.out 1 _ rfl
          have k1 := Kq.out.below BR.out 1 _ rfl
          clear heq hb
          by_cases hlt : j < n0
          · have hlt' : (j : Int) < n0 := by omega
            have hltm : (j : Int) < m0 := by have := H1.out; omega
            obtain ⟨x, hx⟩ := some_of_lt (l := a.op) (i := j) (by rw [← NA.out]; exact hlt)
            obtain ⟨y, hy⟩ := some_of_lt (l := b.op) (i := j) (by rw [← NB.out, ← H1.out]; exact hlt)
            obtain ⟨ba, oa, e, xa⟩ := bl_at (HA.out.later BWR.out) hx
            subst e
            obtain ⟨bb, ob, e, xb⟩ := bl_at (HB.out.later BWR.out) hy
            subst e
            have GX := Lib.hid hx
            have GY := Lib.hid hy
            have QS : Hid (∀ w', Below wr.heap.size wr w' → w'.cell? ⟨bp, 1, none⟩ = some (.slice (some ⟨ba, oa, none⟩) n0 e0) ∧ w'.cell? ⟨bq, 1, none⟩ = some (.slice (some ⟨bb, ob, none⟩) m0 o0) ∧ w'.cell? ⟨ba, oa + j, none⟩ = some (.bool x) ∧ w'.cell? ⟨bb, ob + j, none⟩ = some (.bool y)) := Lib.hid (fun w' hb => ⟨(hb.cell (World.block_lt_of_cell? wr _ c1)).trans c1, (hb.cell (World.block_lt_of_cell? wr _ k1)).trans k1, (hb.cell (World.block_lt_of_cell? wr _ xa)).trans xa, (hb.cell (World.block_lt_of_cell? wr _ xb)).trans xb⟩)
            clear hx hy xa xb k1
            go_wp2_with fail
            clear c1
            refine wp_region_held_drew (S := (fun w' => w'.cell? ⟨bp, 1, none⟩ = some (.slice (some ⟨ba, oa, none⟩) n0 e0) ∧ w'.cell? ⟨bq, 1, none⟩ = some (.slice (some ⟨bb, ob, none⟩) m0 o0) ∧ w'.cell? ⟨ba, oa + j, none⟩ = some (.bool x) ∧ w'.cell? ⟨bb, ob + j, none⟩ = some (.bool y))) (by kernel_rfl) ?_ (fun hHeld => ?_)
            · exact QS.out _ (below_drewN (Below.refl _ wr) 1)
            obtain ⟨yb, hyb⟩ : ∃ y, y = wr.drew := ⟨_, rfl⟩
            rw [← hyb] at hHeld ⊢
            have BYb : Hid (Below w1.heap.size w1 yb) := Lib.hid (by rw [hyb]; exact below_step' BQ.out (below_drewN (Below.refl _ wr) 1))
            have BWb : Hid (Below w.heap.size w yb) := Lib.hid (by rw [hyb]; exact below_step' BWR.out (below_drewN (Below.refl _ wr) 1))
            clear hyb
            refine tq 0 ?_
            refine tq 2 ?_
            refine tq 5 ?_
            refine tq 7 ?_
            refine tq 1 ?_
            refine tq 6 ?_
            refine tq 3 ?_
            refine tq 8 ?_
            refine tq 4 ?_
            refine tq 9 ?_
            refine tq 10 ?_
            refine wpAnyH_done (by kernel_rfl) ?_ _
            by_cases hq : x = y
            · have TN := Lib.hid (take_next GX.out GY.out EQ.out hq)
              clear hHeld GX GY QS
              subst hq
              cases x with
              | true =>
                go_wp2_with fail
                go_roundw
                case rel => exact ⟨j + 1, by go_num, by omega, TN.out, BYb.out⟩
                case measure => simp [intOf]; omega
              | false =>
                go_wp2_with fail
                go_roundw
                case rel => exact ⟨j + 1, by go_num, by omega, TN.out, BYb.out⟩
                case measure => simp [intOf]; omega
            · obtain rfl : r = false := no_of RR9.out (fun h => hq (by
                have h1 := GX.out
                rw [h.2.1, GY.out] at h1
                exact (Option.some.inj h1).symm))
              cases x <;> cases y <;> first
                | exact absurd rfl hq
                | (clear hq hHeld
                   go_wp2_with fail
                   go_ret
                   exact ⟨rfl, BWb.out⟩)
          · obtain rfl : j = n0 := by omega
            have hj3 : ¬ (j : Int) < j := by omega
            have RT9 : Hid (r = true) := Lib.hid (RR9.out.2 ⟨H0.out, by
              have h := EQ.out
              rw [List.take_of_length_le (by rw [← NA.out]; exact Nat.le_refl _), List.take_of_length_le (by rw [← NB.out, ← H1.out]; exact Nat.le_refl _)] at h
              exact h, by simp⟩)
            obtain rfl := RT9.out
            go_wp2_with fail
            go_ret
            exact ⟨rfl, BWR.out⟩
    · have g1 : ((n0 : Int) != (m0 : Int)) = true := by simp; omega
      obtain rfl : r = false := no_of RR9.out (fun h => h1 (by rw [NA.out, NB.out, h.2.1]))
      clear h1
      go_wp2_with fail
      go_ret
      exact ⟨rfl, B0.out⟩
  · have g0 : (ep != ef) = true := by simp [h0]
    obtain rfl : r = false := no_of RR9.out (fun h => h0 h.1)
    clear h0
    go_wp2_with fail
    go_ret
    exact ⟨rfl, B0.out⟩
end Go.Proofs.Ytlhclnhdcenkhaa
