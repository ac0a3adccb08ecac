/- Marks: Marker. Written by gen_mark1.py. -/
import Derived.Test.YtlhclnhdcenkhaaMkH
set_option linter.unusedSimpArgs false
set_option linter.unusedVariables false
set_option maxRecDepth 100000
namespace Go.Proofs.Ytlhclnhdcenkhaa
open Go.RowKit Go.PlainAid

theorem begin_small {h : Hs} {e : Int} (hs : SmallHs h) : SmallMk (beginM h e) := ⟨by unfold beginM; simp only [List.length_replicate]; exact hs.i, by
  refine ⟨by unfold beginM tellP lensOf; simp only [List.length_map]; exact hs.o, by unfold beginM tellP; simp only [List.length_replicate]; exact hs.i, by unfold beginM tellP; simp, fun m hm => ?_, fun m hm => by unfold beginM tellP at hm; simp at hm⟩
  unfold beginM tellP at hm
  simp only at hm
  rw [List.eq_of_mem_replicate hm]; simp⟩
set_option maxHeartbeats 8000000 in
/-- The rest of Marker, behind the choice of the mark: x lies in its box. -/
theorem marker_at (m : Mk) (h : Hs) (e at' : Int) (v0 v1 v2 v3 g1 g2 : Value) (w : World) (hm : HasL w [v0, v1, v2, v3] m.d) (hh : HasL w [g1, g2] h.d) (hs : SmallMk m) (hs2 : SmallHs h) (h6 : h.inn.length ≤ 6) :
    Calls Try.prog 10 #[mkv m v0 v1 v2 v3, hsv h g1 g2, .int .i64 e, .int .i64 at'] w (MkTold2 (markM m h e at').1 (markM m h e at').2 w) := by
  have BG := Lib.hid (fun (w' : World) (hb : Below w.heap.size w w') => begin_at h e g1 g2 w' (hh.later hb) hs2 h6)
  have OWN := Lib.hid (fun (w' : World) (hb : Below w.heap.size w w') => mown_at m v0 v1 v2 v3 w' (hm.later hb) hs)
  obtain ⟨x, hx⟩ : ∃ x, x = if m.ep = e then m else beginM h e := ⟨_, rfl⟩
  obtain ⟨bg, hbg⟩ : ∃ b, b = !decide (m.ep = e) := ⟨_, rfl⟩
  have SX : Hid (SmallMk x) := Lib.hid (by rw [hx]; split; exact hs; exact begin_small hs2)
  have CH := Lib.hid (fun (w' : World) (ba : Nat) (u0 u1 u2 u3 : Value) (hu : HasL w' [u0, u1, u2, u3] x.d) (ha : w'.cell? ⟨ba, 0, none⟩ = some (.int .i64 at')) (ua : Option Addr) (un uc : Nat) (hn : un = x.op.length) => chM_at x u0 u1 u2 u3 at' ba ua un uc w' hu SX.out ha (fun h => by simp [inB] at h; omega))
  obtain ⟨is, his⟩ : ∃ b, b = inB at' x.op.length := ⟨_, rfl⟩
  have CI := Lib.hid (fun (w' : World) (ba : Nat) (u0 u1 u2 u3 : Value) (hu : HasL w' [u0, u1, u2, u3] x.d) (ha : w'.cell? ⟨ba, 0, none⟩ = some (.int .i64 at')) (ua : Option Addr) (un uc : Nat) (hn : un = x.op.length) => (by
    have q := CH.out w' ba u0 u1 u2 u3 hu ha ua un uc hn
    rw [hn, ← his] at q
    exact q : Calls Try.prog 23 #[mkv x u0 u1 u2 u3, .int .i64 at', .func (.func 24) #[.slice ua x.op.length uc] #[], .func (.func 25) #[] #[.pointer (some ⟨ba, 0, none⟩)]] w' (MkTold2 (if is = true then closeM x at' else x) is w')))
  clear CH
  have IS := Lib.hid his
  have MM : Hid (markM m h e at' = if is = true then (closeM x at', bg) else (m, false)) := Lib.hid (by rw [his, hx, hbg]; rfl)
  have YES : Hid (m.ep = e → x = m ∧ bg = false) := Lib.hid (fun q => by rw [hx, hbg]; simp [q])
  have NO : Hid (¬ m.ep = e → x = beginM h e ∧ bg = true) := Lib.hid (fun q => by rw [hx, hbg]; simp [q])
  have HM := Lib.hid hm
  obtain ⟨g8, g9⟩ := hs_has hh
  obtain ⟨a5, e5, ee1⟩ := slice_of g8
  obtain ⟨a6, e6, ee2⟩ := slice_of g9
  subst ee1
  subst ee2
  obtain ⟨n5, hn1⟩ : ∃ n, n = h.inn.length := ⟨_, rfl⟩
  obtain ⟨n6, hn2⟩ : ∃ n, n = h.out.length := ⟨_, rfl⟩
  obtain ⟨q0, hq0⟩ : ∃ e, e = h.node := ⟨_, rfl⟩
  obtain ⟨q1, hq1⟩ : ∃ e, e = h.state := ⟨_, rfl⟩
  obtain ⟨q2, hq2⟩ : ∃ e, e = h.steps := ⟨_, rfl⟩
  rw [← hn1, ← hn2] at BG ⊢
  unfold hsv at BG ⊢
  rw [← hq0, ← hq1, ← hq2] at BG ⊢
  obtain ⟨a0, a1, a2, a3, n0, n1, n2, n3, e0, e1, e2, e3, ee0, ee1, ee2, ee3⟩ := mk_slices hm
  subst ee0
  subst ee1
  subst ee2
  subst ee3
  obtain ⟨ep, hep⟩ : ∃ e, e = m.ep := ⟨_, rfl⟩
  obtain ⟨p0, hp0⟩ : ∃ e, e = m.p.node := ⟨_, rfl⟩
  obtain ⟨p1, hp1⟩ : ∃ e, e = m.p.state := ⟨_, rfl⟩
  obtain ⟨p2, hp2⟩ : ∃ e, e = m.p.steps := ⟨_, rfl⟩
  have MQ : Hid (∀ v x y z, mkv m v x y z = .agg #[.int .i64 ep, v, .int .i64 p0, .int .i64 p1, .int .i64 p2, x, y, z]) := Lib.hid (fun v x y z => by rw [hep, hp0, hp1, hp2])
  rw [MQ.out] at OWN ⊢
  rw [← hep] at YES NO
  obtain ⟨r0, hr0⟩ : ∃ e, e = x.ep := ⟨_, rfl⟩
  obtain ⟨r1, hr1⟩ : ∃ e, e = x.p.node := ⟨_, rfl⟩
  obtain ⟨r2, hr2⟩ : ∃ e, e = x.p.state := ⟨_, rfl⟩
  obtain ⟨r3, hr3⟩ : ∃ e, e = x.p.steps := ⟨_, rfl⟩
  have XQ : Hid (∀ v x' y z, mkv x v x' y z = .agg #[.int .i64 r0, v, .int .i64 r1, .int .i64 r2, .int .i64 r3, x', y, z]) := Lib.hid (fun v x' y z => by rw [hr0, hr1, hr2, hr3])
  rw [MM.out]
  obtain ⟨mr, hmr⟩ : ∃ r, r = (if is = true then (closeM x at', bg) else (m, false)) := ⟨_, rfl⟩
  rw [← hmr]
  have MR := Lib.hid hmr
  clear hm hh hs hs2 h6 hx hbg his g8 g9 hn1 hn2 hq0 hq1 hq2 hep hp0 hp1 hp2 hr0 hr1 hr2 hr3 hmr MM
  go_enter Try.func10, Try.ntmps10
  go_upto_region 1 with fail
  obtain ⟨bm, hbm⟩ : ∃ b, b = w.heap.size := ⟨_, rfl⟩
  obtain ⟨bh, hbh⟩ : ∃ b, b = w.heap.size + 1 := ⟨_, rfl⟩
  obtain ⟨ba, hba⟩ : ∃ b, b = w.heap.size + 1 + 1 := ⟨_, rfl⟩
  obtain ⟨br, hbr⟩ : ∃ b, b = w.heap.size + 1 + 1 + 1 := ⟨_, rfl⟩
  obtain ⟨y1, hy1⟩ : ∃ y, y = w.alloc (.cells #[.int .i64 ep, .slice a0 n0 e0, .int .i64 p0, .int .i64 p1, .int .i64 p2, .slice a1 n1 e1, .slice a2 n2 e2, .slice a3 n3 e3] 33) := ⟨_, rfl⟩
  obtain ⟨y2, hy2⟩ : ∃ y, y = y1.alloc (.cells #[.int .i64 q0, .int .i64 q1, .int .i64 q2, .slice a5 n5 e5, .slice a6 n6 e6] 26) := ⟨_, rfl⟩
  obtain ⟨y3, hy3⟩ : ∃ y, y = y2.alloc (.cells #[.int .i64 at'] 3) := ⟨_, rfl⟩
  obtain ⟨y0, hy0⟩ : ∃ y, y = y3.alloc (.cells #[.int .i64 0, .slice none 0 0, .int .i64 0, .int .i64 0, .int .i64 0, .slice none 0 0, .slice none 0 0, .slice none 0 0] 33) := ⟨_, rfl⟩
  have d0 : Below w.heap.size w y1 := by rw [hy1]; exact below_new _ _
  have z1 : y1.heap.size = bh := by rw [hy1, size_new, hbh]
  have d1 : Below y1.heap.size y1 y2 := by rw [hy2]; exact below_new _ _
  have z2 : y2.heap.size = ba := by rw [hy2, size_new, z1, hba, hbh]
  have d2 : Below y2.heap.size y2 y3 := by rw [hy3]; exact below_new _ _
  have z3 : y3.heap.size = br := by rw [hy3, size_new, z2, hbr, hba]
  have d3 : Below y3.heap.size y3 y0 := by rw [hy0]; exact below_new _ _
  have Km : Hid (BoxAt bm [.int .i64 ep, .slice a0 n0 e0, .int .i64 p0, .int .i64 p1, .int .i64 p2, .slice a1 n1 e1, .slice a2 n2 e2, .slice a3 n3 e3] y0) := Lib.hid (by rw [hbm]; exact BoxAt.below (by rw [hy1]; exact boxAt_new w [.int .i64 ep, .slice a0 n0 e0, .int .i64 p0, .int .i64 p1, .int .i64 p2, .slice a1 n1 e1, .slice a2 n2 e2, .slice a3 n3 e3] _) (below_step' (below_step' d1 d2) d3))
  have Om : Hid (Open8 bm y0) := Lib.hid (by rw [hbm]; exact Open8.below (by rw [hy1]; exact Open8.new _ _ _) (below_step' (below_step' d1 d2) d3))
  have Kh : Hid (BoxAt bh [.int .i64 q0, .int .i64 q1, .int .i64 q2, .slice a5 n5 e5, .slice a6 n6 e6] y0) := Lib.hid (by rw [← z1]; exact BoxAt.below (by rw [hy2]; exact boxAt_new y1 [.int .i64 q0, .int .i64 q1, .int .i64 q2, .slice a5 n5 e5, .slice a6 n6 e6] _) (below_step' d2 d3))
  have Oh : Hid (Open8 bh y0) := Lib.hid (by rw [← z1]; exact Open8.below (by rw [hy2]; exact Open8.new _ _ _) (below_step' d2 d3))
  have Ka : Hid (BoxAt ba [.int .i64 at'] y0) := Lib.hid (by rw [← z2]; exact BoxAt.below (by rw [hy3]; exact boxAt_new y2 [.int .i64 at'] _) d3)
  have Oa : Hid (Open8 ba y0) := Lib.hid (by rw [← z2]; exact Open8.below (by rw [hy3]; exact Open8.new _ _ _) d3)
  have Kr : Hid (BoxAt br [.int .i64 0, .slice none 0 0, .int .i64 0, .int .i64 0, .int .i64 0, .slice none 0 0, .slice none 0 0, .slice none 0 0] y0) := Lib.hid (by rw [← z3, hy0]; exact boxAt_new y3 [.int .i64 0, .slice none 0 0, .int .i64 0, .int .i64 0, .int .i64 0, .slice none 0 0, .slice none 0 0, .slice none 0 0] _)
  have Or : Hid (Open8 br y0) := Lib.hid (by rw [← z3, hy0]; exact Open8.new _ _ _)
  have B0 := Lib.hid (below_step' (below_step' (below_step' d0 d1) d2) d3)
  have RR : Hid (w.heap.size ≤ bm ∧ w.heap.size ≤ bh ∧ w.heap.size ≤ ba ∧ w.heap.size ≤ br ∧ bm ≠ bh ∧ bm ≠ ba ∧ bm ≠ br ∧ bh ≠ ba ∧ bh ≠ br ∧ ba ≠ br) := Lib.hid (by omega)
  rw [← hy1, ← hy2, ← hy3, ← hy0]
  simp only [← hbr]
  simp only [← hba]
  simp only [← hbh]
  simp only [← hbm]
  clear hy1 hy2 hy3 hy0 hbm hbh hba hbr d0 d1 d2 d3 z1 z2 z3
  by_cases hep : ep = e
  · have gne : (ep != e) = false := by simp [hep]
    have Y := YES.out hep
    obtain ⟨rfl, rfl⟩ := Y
    clear hep
    have MX : Hid (ep = r0 ∧ p0 = r1 ∧ p1 = r2 ∧ p2 = r3) := Lib.hid (by
      have q := (MQ.out (.bool true) (.bool true) (.bool true) (.bool true)).symm.trans (XQ.out (.bool true) (.bool true) (.bool true) (.bool true))
      simpa using q)
    obtain ⟨rfl, rfl, rfl, rfl⟩ := MX.out
    clear MX YES NO
    refine wp_region_held_drew (S := (fun w' => w'.cell? ⟨bm, 0, none⟩ = some (.int .i64 ep) ∧ w'.cell? ⟨bm, 1, none⟩ = some (.slice a0 n0 e0) ∧ w'.cell? ⟨bm, 2, none⟩ = some (.int .i64 p0) ∧ w'.cell? ⟨bm, 3, none⟩ = some (.int .i64 p1) ∧ w'.cell? ⟨bm, 4, none⟩ = some (.int .i64 p2) ∧ w'.cell? ⟨bm, 5, none⟩ = some (.slice a1 n1 e1) ∧ w'.cell? ⟨bm, 6, none⟩ = some (.slice a2 n2 e2) ∧ w'.cell? ⟨bm, 7, none⟩ = some (.slice a3 n3 e3))) (by kernel_rfl) ?_ (fun hHeld => ?_)
    · exact ⟨Km.out.below (below_drewN (Below.refl _ y0) 1) 0 _ rfl, Km.out.below (below_drewN (Below.refl _ y0) 1) 1 _ rfl, Km.out.below (below_drewN (Below.refl _ y0) 1) 2 _ rfl, Km.out.below (below_drewN (Below.refl _ y0) 1) 3 _ rfl, Km.out.below (below_drewN (Below.refl _ y0) 1) 4 _ rfl, Km.out.below (below_drewN (Below.refl _ y0) 1) 5 _ rfl, Km.out.below (below_drewN (Below.refl _ y0) 1) 6 _ rfl, Km.out.below (below_drewN (Below.refl _ y0) 1) 7 _ rfl⟩
    obtain ⟨yb, hyb⟩ : ∃ y, y = y0.drew := ⟨_, rfl⟩
    rw [← hyb] at hHeld ⊢
    have BYb : Hid (Below y0.heap.size y0 yb) := Lib.hid (by rw [hyb]; exact below_drewN (Below.refl _ y0) 1)
    clear hyb
    refine tq 0 ?_
    refine tq 1 ?_
    refine tq 3 ?_
    refine tq 2 ?_
    refine tq 4 ?_
    refine rd 5 fun K hK => ?_
    go_simp
    obtain ⟨bx, hbx⟩ : ∃ b, b = yb.heap.size := ⟨_, rfl⟩
    obtain ⟨yx, hyx⟩ : ∃ y, y = yb.alloc (.cells #[.int .i64 0, .slice none 0 0, .int .i64 0, .int .i64 0, .int .i64 0, .slice none 0 0, .slice none 0 0, .slice none 0 0] 33) := ⟨_, rfl⟩
    have KX0 : Hid (BoxAt bx [.int .i64 0, .slice none 0 0, .int .i64 0, .int .i64 0, .int .i64 0, .slice none 0 0, .slice none 0 0, .slice none 0 0] yx) := Lib.hid (by rw [hbx, hyx]; exact boxAt_new yb [.int .i64 0, .slice none 0 0, .int .i64 0, .int .i64 0, .int .i64 0, .slice none 0 0, .slice none 0 0, .slice none 0 0] _)
    have OX0 : Hid (Open8 bx yx) := Lib.hid (by rw [hbx, hyx]; exact Open8.new _ _ _)
    have BYx : Hid (Below y0.heap.size y0 yx) := Lib.hid (by rw [hyx]; exact below_step' BYb.out (below_new _ _))
    have NR : Hid (w.heap.size ≤ bx ∧ w.heap.size ≤ br ∧ br ≠ bx ∧ bm ≠ bx) := Lib.hid (by have h1 := RR.out; have h2 := Om.out.1; have h3 := Or.out.1; have h4 := BYb.out.size; have h5 := B0.out.size; omega)
    have NB : Hid (y0.heap.size ≤ bx) := Lib.hid (by rw [hbx]; exact BYb.out.size)
    rw [← hyx, ← hbx]
    clear hyx hbx
    refine hK.out _ _ ?_ (fun hHeld => ?_)
    · exact ⟨Km.out.below BYx.out 0 _ rfl, Km.out.below BYx.out 1 _ rfl, Km.out.below BYx.out 2 _ rfl, Km.out.below BYx.out 3 _ rfl, Km.out.below BYx.out 4 _ rfl, Km.out.below BYx.out 5 _ rfl, Km.out.below BYx.out 6 _ rfl, Km.out.below BYx.out 7 _ rfl⟩
    clear hK K
    have c0 := KX0.out 0 _ rfl
    have c1 := KX0.out 1 _ rfl
    have c2 := KX0.out 2 _ rfl
    have c3 := KX0.out 3 _ rfl
    have c4 := KX0.out 4 _ rfl
    have c5 := KX0.out 5 _ rfl
    have c6 := KX0.out 6 _ rfl
    have c7 := KX0.out 7 _ rfl
    have g0 := OX0.out.2 0
    have g1 := OX0.out.2 1
    have g2 := OX0.out.2 2
    have g3 := OX0.out.2 3
    have g4 := OX0.out.2 4
    have g5 := OX0.out.2 5
    have g6 := OX0.out.2 6
    have g7 := OX0.out.2 7
    have KM1 : Hid (BoxAt bm [.int .i64 ep, .slice a0 n0 e0, .int .i64 p0, .int .i64 p1, .int .i64 p2, .slice a1 n1 e1, .slice a2 n2 e2, .slice a3 n3 e3] (setN yx bx 0 [.int .i64 ep, .slice a0 n0 e0, .int .i64 p0, .int .i64 p1, .int .i64 p2, .slice a1 n1 e1, .slice a2 n2 e2, .slice a3 n3 e3])) := Lib.hid (setN_far NR.out.2.2.2 (Km.out.below BYx.out))
    refine rd 6 fun K hK => ?_
    go_simp
    refine hK.out _ _ ?_ (fun hHeld => ?_)
    · exact ⟨KM1.out 0 _ rfl, KM1.out 1 _ rfl, KM1.out 2 _ rfl, KM1.out 3 _ rfl, KM1.out 4 _ rfl, KM1.out 5 _ rfl, KM1.out 6 _ rfl, KM1.out 7 _ rfl⟩
    clear hK K
    refine tq 7 ?_
    refine wpAnyH_done (by kernel_rfl) ?_ _
    change Exit.then _ _ Exit.normal _ (setN yx bx 0 [.int .i64 ep, .slice a0 n0 e0, .int .i64 p0, .int .i64 p1, .int .i64 p2, .slice a1 n1 e1, .slice a2 n2 e2, .slice a3 n3 e3])
    have KX : Hid (BoxAt bx [.int .i64 ep, .slice a0 n0 e0, .int .i64 p0, .int .i64 p1, .int .i64 p2, .slice a1 n1 e1, .slice a2 n2 e2, .slice a3 n3 e3] (setN yx bx 0 [.int .i64 ep, .slice a0 n0 e0, .int .i64 p0, .int .i64 p1, .int .i64 p2, .slice a1 n1 e1, .slice a2 n2 e2, .slice a3 n3 e3])) := Lib.hid (setN_box [.int .i64 ep, .slice a0 n0 e0, .int .i64 p0, .int .i64 p1, .int .i64 p2, .slice a1 n1 e1, .slice a2 n2 e2, .slice a3 n3 e3] 0 _ yx KX0.out (by simp))
    have OX : Hid (Open8 bx (setN yx bx 0 [.int .i64 ep, .slice a0 n0 e0, .int .i64 p0, .int .i64 p1, .int .i64 p2, .slice a1 n1 e1, .slice a2 n2 e2, .slice a3 n3 e3])) := Lib.hid OX0.out.set
    have BZ : Hid (Below y0.heap.size y0 (setN yx bx 0 [.int .i64 ep, .slice a0 n0 e0, .int .i64 p0, .int .i64 p1, .int .i64 p2, .slice a1 n1 e1, .slice a2 n2 e2, .slice a3 n3 e3])) := Lib.hid (setN_below NB.out [.int .i64 ep, .slice a0 n0 e0, .int .i64 p0, .int .i64 p1, .int .i64 p2, .slice a1 n1 e1, .slice a2 n2 e2, .slice a3 n3 e3] 0 yx BYx.out)
    obtain ⟨wz, hwz⟩ : ∃ x, x = setN yx bx 0 [.int .i64 ep, .slice a0 n0 e0, .int .i64 p0, .int .i64 p1, .int .i64 p2, .slice a1 n1 e1, .slice a2 n2 e2, .slice a3 n3 e3] := ⟨_, rfl⟩
    rw [← hwz] at KX OX BZ ⊢
    clear hwz c0 c1 c2 c3 c4 c5 c6 c7 g0 g1 g2 g3 g4 g5 g6 g7 KM1 hHeld
    have X : Hid (HasL wz [.slice a0 n0 e0, .slice a1 n1 e1, .slice a2 n2 e2, .slice a3 n3 e3] x.d) := Lib.hid (HM.out.later (below_step' B0.out BZ.out))
    have UN : Hid (n0 = x.op.length) := Lib.hid (bools_len (mk_has HM.out).1)
    have ka := (Ka.out.below BZ.out) 0 _ rfl
    have c0 := KX.out 0 _ rfl
    have c1 := KX.out 1 _ rfl
    have c2 := KX.out 2 _ rfl
    have c3 := KX.out 3 _ rfl
    have c4 := KX.out 4 _ rfl
    have c5 := KX.out 5 _ rfl
    have c6 := KX.out 6 _ rfl
    have c7 := KX.out 7 _ rfl
    have g0 := OX.out.2 0
    have g1 := OX.out.2 1
    have g2 := OX.out.2 2
    have g3 := OX.out.2 3
    have g4 := OX.out.2 4
    have g5 := OX.out.2 5
    have g6 := OX.out.2 6
    have g7 := OX.out.2 7
    have CC := CI.out _ ba _ _ _ _ X.out ka a0 _ e0 UN.out
    rw [XQ.out, ← UN.out] at CC
    have CCH := Lib.hid CC
    clear CC
    go_wp2_with fail
    refine CCH.out.mono ?_
    rintro e9 w5 ⟨v0, v1, v2, v3, rfl, hU, hb⟩
    have KX5 := Lib.hid (KX.out.below hb)
    have OX5 := Lib.hid (OX.out.below hb)
    have B5 := Lib.hid (below_step' BZ.out hb)
    have KR5 := Lib.hid (Kr.out.below B5.out)
    have OR5 := Lib.hid (Or.out.below B5.out)
    have KM5 := Lib.hid (Km.out.below B5.out)
    have NZ := Lib.hid BZ.out.size
    clear hb c0 c1 c2 c3 c4 c5 c6 c7 g0 g1 g2 g3 g4 g5 g6 g7 ka
    cases is with
    | true =>
      obtain rfl : mr = (closeM x at', false) := by rw [MR.out]; simp
      simp only [if_pos] at hU ⊢
      obtain ⟨u0, u1, u2, u3, k0, k1, k2, k3, f0, f1, f2, f3, ff0, ff1, ff2, ff3⟩ := mk_slices hU.weak
      subst ff0
      subst ff1
      subst ff2
      subst ff3
      rw [show ∀ a b c d, mkv (closeM x at') a b c d = mkv x a b c d from fun _ _ _ _ => rfl, XQ.out]
      have HU := Lib.hid (hU.wide (P' := fun q => y0.heap.size ≤ q ∧ q ≠ bx) (fun q _ (hq : _ ≤ q) => ⟨Nat.le_trans NZ.out hq, fun e => Nat.lt_irrefl _ (Nat.lt_of_lt_of_le OX.out.1 (by rw [← e]; exact hq))⟩))
      clear hU
      have c0 := KX5.out 0 _ rfl
      have c1 := KX5.out 1 _ rfl
      have c2 := KX5.out 2 _ rfl
      have c3 := KX5.out 3 _ rfl
      have c4 := KX5.out 4 _ rfl
      have c5 := KX5.out 5 _ rfl
      have c6 := KX5.out 6 _ rfl
      have c7 := KX5.out 7 _ rfl
      have g0 := OX5.out.2 0
      have g1 := OX5.out.2 1
      have g2 := OX5.out.2 2
      have g3 := OX5.out.2 3
      have g4 := OX5.out.2 4
      have g5 := OX5.out.2 5
      have g6 := OX5.out.2 6
      have g7 := OX5.out.2 7
      go_upto_region 5 with fail
      change Code.wp _ _ _ _ (setN w5 bx 0 [.int .i64 ep, .slice u0 k0 f0, .int .i64 p0, .int .i64 p1, .int .i64 p2, .slice u1 k1 f1, .slice u2 k2 f2, .slice u3 k3 f3])
      have KX6 : Hid (BoxAt bx [.int .i64 ep, .slice u0 k0 f0, .int .i64 p0, .int .i64 p1, .int .i64 p2, .slice u1 k1 f1, .slice u2 k2 f2, .slice u3 k3 f3] (setN w5 bx 0 [.int .i64 ep, .slice u0 k0 f0, .int .i64 p0, .int .i64 p1, .int .i64 p2, .slice u1 k1 f1, .slice u2 k2 f2, .slice u3 k3 f3])) := Lib.hid (setN_box [.int .i64 ep, .slice u0 k0 f0, .int .i64 p0, .int .i64 p1, .int .i64 p2, .slice u1 k1 f1, .slice u2 k2 f2, .slice u3 k3 f3] 0 _ w5 KX5.out (by simp))
      have KR6 : Hid (BoxAt br [.int .i64 0, .slice none 0 0, .int .i64 0, .int .i64 0, .int .i64 0, .slice none 0 0, .slice none 0 0, .slice none 0 0] (setN w5 bx 0 [.int .i64 ep, .slice u0 k0 f0, .int .i64 p0, .int .i64 p1, .int .i64 p2, .slice u1 k1 f1, .slice u2 k2 f2, .slice u3 k3 f3])) := Lib.hid (setN_far NR.out.2.2.1 KR5.out)
      have OR6 : Hid (Open8 br (setN w5 bx 0 [.int .i64 ep, .slice u0 k0 f0, .int .i64 p0, .int .i64 p1, .int .i64 p2, .slice u1 k1 f1, .slice u2 k2 f2, .slice u3 k3 f3])) := Lib.hid OR5.out.set
      have HL6 := Lib.hid ((HU.out.same (setN_same (P := fun q => y0.heap.size ≤ q ∧ q ≠ bx) (b := bx) (fun h => h.2 rfl) [.int .i64 ep, .slice u0 k0 f0, .int .i64 p0, .int .i64 p1, .int .i64 p2, .slice u1 k1 f1, .slice u2 k2 f2, .slice u3 k3 f3] 0 w5 (SameOn.refl _ _))).wide (P' := fun q => y0.heap.size ≤ q) (fun q _ h => h.1))
      have B6 := Lib.hid (setN_below NR.out.1 [.int .i64 ep, .slice u0 k0 f0, .int .i64 p0, .int .i64 p1, .int .i64 p2, .slice u1 k1 f1, .slice u2 k2 f2, .slice u3 k3 f3] 0 w5 (below_step' B0.out B5.out))
      obtain ⟨w6, hw6⟩ : ∃ x, x = setN w5 bx 0 [.int .i64 ep, .slice u0 k0 f0, .int .i64 p0, .int .i64 p1, .int .i64 p2, .slice u1 k1 f1, .slice u2 k2 f2, .slice u3 k3 f3] := ⟨_, rfl⟩
      rw [← hw6] at KX6 KR6 OR6 HL6 B6 ⊢
      clear hw6 c0 c1 c2 c3 c4 c5 c6 c7 g0 g1 g2 g3 g4 g5 g6 g7 HU
      have c0 := KX6.out 0 _ rfl
      have c1 := KX6.out 1 _ rfl
      have c2 := KX6.out 2 _ rfl
      have c3 := KX6.out 3 _ rfl
      have c4 := KX6.out 4 _ rfl
      have c5 := KX6.out 5 _ rfl
      have c6 := KX6.out 6 _ rfl
      have c7 := KX6.out 7 _ rfl
      have rr0 := KR6.out 0 _ rfl
      have rr1 := KR6.out 1 _ rfl
      have rr2 := KR6.out 2 _ rfl
      have rr3 := KR6.out 3 _ rfl
      have rr4 := KR6.out 4 _ rfl
      have rr5 := KR6.out 5 _ rfl
      have rr6 := KR6.out 6 _ rfl
      have rr7 := KR6.out 7 _ rfl
      have g0 := OR6.out.2 0
      have g1 := OR6.out.2 1
      have g2 := OR6.out.2 2
      have g3 := OR6.out.2 3
      have g4 := OR6.out.2 4
      have g5 := OR6.out.2 5
      have g6 := OR6.out.2 6
      have g7 := OR6.out.2 7
      go_wp2_with fail
      change bodyPost _ _ _ Exit.ret _ (setN w6 br 0 [.int .i64 ep, .slice u0 k0 f0, .int .i64 p0, .int .i64 p1, .int .i64 p2, .slice u1 k1 f1, .slice u2 k2 f2, .slice u3 k3 f3])
      have HB : BoxAt br [.int .i64 ep, .slice u0 k0 f0, .int .i64 p0, .int .i64 p1, .int .i64 p2, .slice u1 k1 f1, .slice u2 k2 f2, .slice u3 k3 f3] (setN w6 br 0 [.int .i64 ep, .slice u0 k0 f0, .int .i64 p0, .int .i64 p1, .int .i64 p2, .slice u1 k1 f1, .slice u2 k2 f2, .slice u3 k3 f3]) := setN_box [.int .i64 ep, .slice u0 k0 f0, .int .i64 p0, .int .i64 p1, .int .i64 p2, .slice u1 k1 f1, .slice u2 k2 f2, .slice u3 k3 f3] 0 _ w6 KR6.out (by simp)
      have HLf := (HL6.out.same (setN_same (P := fun q => y0.heap.size ≤ q) (b := br) (fun h => Nat.lt_irrefl _ (Nat.lt_of_lt_of_le Or.out.1 h)) [.int .i64 ep, .slice u0 k0 f0, .int .i64 p0, .int .i64 p1, .int .i64 p2, .slice u1 k1 f1, .slice u2 k2 f2, .slice u3 k3 f3] 0 w6 (SameOn.refl _ _))).wide (P' := fun q => w.heap.size ≤ q) (fun q _ h => Nat.le_trans B0.out.size h)
      have Bf := setN_below NR.out.2.1 [.int .i64 ep, .slice u0 k0 f0, .int .i64 p0, .int .i64 p1, .int .i64 p2, .slice u1 k1 f1, .slice u2 k2 f2, .slice u3 k3 f3] 0 w6 B6.out
      exact bodyPost_ret (v := .tuple #[.agg #[.int .i64 ep, .slice u0 k0 f0, .int .i64 p0, .int .i64 p1, .int .i64 p2, .slice u1 k1 f1, .slice u2 k2 f2, .slice u3 k3 f3], .bool false]) (by simp [results, Try.results10, go_sem, HB 0 _ rfl, HB 1 _ rfl, HB 2 _ rfl, HB 3 _ rfl, HB 4 _ rfl, HB 5 _ rfl, HB 6 _ rfl, HB 7 _ rfl]) rfl ⟨_, _, _, _, by rw [show ∀ a b c d, mkv (closeM x at') a b c d = mkv x a b c d from fun _ _ _ _ => rfl, XQ.out], HLf, Bf⟩
    | false =>
      obtain rfl : mr = (x, false) := by rw [MR.out]; simp
      simp only [Bool.false_eq_true, if_false] at hU ⊢
      obtain ⟨u0, u1, u2, u3, k0, k1, k2, k3, f0, f1, f2, f3, ff0, ff1, ff2, ff3⟩ := mk_slices hU.weak
      subst ff0
      subst ff1
      subst ff2
      subst ff3
      rw [XQ.out]
      clear hU
      have c0 := KX5.out 0 _ rfl
      have c1 := KX5.out 1 _ rfl
      have c2 := KX5.out 2 _ rfl
      have c3 := KX5.out 3 _ rfl
      have c4 := KX5.out 4 _ rfl
      have c5 := KX5.out 5 _ rfl
      have c6 := KX5.out 6 _ rfl
      have c7 := KX5.out 7 _ rfl
      have g0 := OX5.out.2 0
      have g1 := OX5.out.2 1
      have g2 := OX5.out.2 2
      have g3 := OX5.out.2 3
      have g4 := OX5.out.2 4
      have g5 := OX5.out.2 5
      have g6 := OX5.out.2 6
      have g7 := OX5.out.2 7
      go_upto_region 5 with fail
      change Code.wp _ _ _ _ (setN w5 bx 0 [.int .i64 ep, .slice u0 k0 f0, .int .i64 p0, .int .i64 p1, .int .i64 p2, .slice u1 k1 f1, .slice u2 k2 f2, .slice u3 k3 f3])
      have KM6 : Hid (BoxAt bm [.int .i64 ep, .slice a0 n0 e0, .int .i64 p0, .int .i64 p1, .int .i64 p2, .slice a1 n1 e1, .slice a2 n2 e2, .slice a3 n3 e3] (setN w5 bx 0 [.int .i64 ep, .slice u0 k0 f0, .int .i64 p0, .int .i64 p1, .int .i64 p2, .slice u1 k1 f1, .slice u2 k2 f2, .slice u3 k3 f3])) := Lib.hid (setN_far NR.out.2.2.2 KM5.out)
      have KR6 : Hid (BoxAt br [.int .i64 0, .slice none 0 0, .int .i64 0, .int .i64 0, .int .i64 0, .slice none 0 0, .slice none 0 0, .slice none 0 0] (setN w5 bx 0 [.int .i64 ep, .slice u0 k0 f0, .int .i64 p0, .int .i64 p1, .int .i64 p2, .slice u1 k1 f1, .slice u2 k2 f2, .slice u3 k3 f3])) := Lib.hid (setN_far NR.out.2.2.1 KR5.out)
      have OR6 : Hid (Open8 br (setN w5 bx 0 [.int .i64 ep, .slice u0 k0 f0, .int .i64 p0, .int .i64 p1, .int .i64 p2, .slice u1 k1 f1, .slice u2 k2 f2, .slice u3 k3 f3])) := Lib.hid OR5.out.set
      have B6 := Lib.hid (setN_below NR.out.1 [.int .i64 ep, .slice u0 k0 f0, .int .i64 p0, .int .i64 p1, .int .i64 p2, .slice u1 k1 f1, .slice u2 k2 f2, .slice u3 k3 f3] 0 w5 (below_step' B0.out B5.out))
      have B6y : Hid (y0.heap.size ≤ (setN w5 bx 0 [.int .i64 ep, .slice u0 k0 f0, .int .i64 p0, .int .i64 p1, .int .i64 p2, .slice u1 k1 f1, .slice u2 k2 f2, .slice u3 k3 f3]).heap.size) := Lib.hid (by rw [setN_size]; exact B5.out.size)
      obtain ⟨w6, hw6⟩ : ∃ x, x = setN w5 bx 0 [.int .i64 ep, .slice u0 k0 f0, .int .i64 p0, .int .i64 p1, .int .i64 p2, .slice u1 k1 f1, .slice u2 k2 f2, .slice u3 k3 f3] := ⟨_, rfl⟩
      rw [← hw6] at KM6 KR6 OR6 B6 B6y ⊢
      clear hw6 c0 c1 c2 c3 c4 c5 c6 c7 g0 g1 g2 g3 g4 g5 g6 g7
      have c0 := KM6.out 0 _ rfl
      have c1 := KM6.out 1 _ rfl
      have c2 := KM6.out 2 _ rfl
      have c3 := KM6.out 3 _ rfl
      have c4 := KM6.out 4 _ rfl
      have c5 := KM6.out 5 _ rfl
      have c6 := KM6.out 6 _ rfl
      have c7 := KM6.out 7 _ rfl
      go_wp2_with fail
      refine (OWN.out _ B6.out).mono ?_
      rintro e9 w7 ⟨v0, v1, v2, v3, rfl, hU, hb⟩
      obtain ⟨u0, u1, u2, u3, k0, k1, k2, k3, f0, f1, f2, f3, ff0, ff1, ff2, ff3⟩ := mk_slices hU.weak
      subst ff0
      subst ff1
      subst ff2
      subst ff3
      rw [MQ.out]
      have HU := Lib.hid (hU.wide (P' := fun q => y0.heap.size ≤ q) (fun q _ (hq : _ ≤ q) => Nat.le_trans B6y.out hq))
      have KR7 := Lib.hid (KR6.out.below hb)
      have OR7 := Lib.hid (OR6.out.below hb)
      have B7 := Lib.hid (below_step' B6.out hb)
      clear hU hb c0 c1 c2 c3 c4 c5 c6 c7
      have rr0 := KR7.out 0 _ rfl
      have rr1 := KR7.out 1 _ rfl
      have rr2 := KR7.out 2 _ rfl
      have rr3 := KR7.out 3 _ rfl
      have rr4 := KR7.out 4 _ rfl
      have rr5 := KR7.out 5 _ rfl
      have rr6 := KR7.out 6 _ rfl
      have rr7 := KR7.out 7 _ rfl
      have g0 := OR7.out.2 0
      have g1 := OR7.out.2 1
      have g2 := OR7.out.2 2
      have g3 := OR7.out.2 3
      have g4 := OR7.out.2 4
      have g5 := OR7.out.2 5
      have g6 := OR7.out.2 6
      have g7 := OR7.out.2 7
      go_wp2_with fail
      change bodyPost _ _ _ Exit.ret _ (setN w7 br 0 [.int .i64 ep, .slice u0 k0 f0, .int .i64 p0, .int .i64 p1, .int .i64 p2, .slice u1 k1 f1, .slice u2 k2 f2, .slice u3 k3 f3])
      have HB : BoxAt br [.int .i64 ep, .slice u0 k0 f0, .int .i64 p0, .int .i64 p1, .int .i64 p2, .slice u1 k1 f1, .slice u2 k2 f2, .slice u3 k3 f3] (setN w7 br 0 [.int .i64 ep, .slice u0 k0 f0, .int .i64 p0, .int .i64 p1, .int .i64 p2, .slice u1 k1 f1, .slice u2 k2 f2, .slice u3 k3 f3]) := setN_box [.int .i64 ep, .slice u0 k0 f0, .int .i64 p0, .int .i64 p1, .int .i64 p2, .slice u1 k1 f1, .slice u2 k2 f2, .slice u3 k3 f3] 0 _ w7 KR7.out (by simp)
      have HLf := (HU.out.same (setN_same (P := fun q => y0.heap.size ≤ q) (b := br) (fun h => Nat.lt_irrefl _ (Nat.lt_of_lt_of_le Or.out.1 h)) [.int .i64 ep, .slice u0 k0 f0, .int .i64 p0, .int .i64 p1, .int .i64 p2, .slice u1 k1 f1, .slice u2 k2 f2, .slice u3 k3 f3] 0 w7 (SameOn.refl _ _))).wide (P' := fun q => w.heap.size ≤ q) (fun q _ h => Nat.le_trans B0.out.size h)
      have Bf := setN_below NR.out.2.1 [.int .i64 ep, .slice u0 k0 f0, .int .i64 p0, .int .i64 p1, .int .i64 p2, .slice u1 k1 f1, .slice u2 k2 f2, .slice u3 k3 f3] 0 w7 B7.out
      exact bodyPost_ret (v := .tuple #[.agg #[.int .i64 ep, .slice u0 k0 f0, .int .i64 p0, .int .i64 p1, .int .i64 p2, .slice u1 k1 f1, .slice u2 k2 f2, .slice u3 k3 f3], .bool false]) (by simp [results, Try.results10, go_sem, HB 0 _ rfl, HB 1 _ rfl, HB 2 _ rfl, HB 3 _ rfl, HB 4 _ rfl, HB 5 _ rfl, HB 6 _ rfl, HB 7 _ rfl]) rfl ⟨_, _, _, _, by rw [MQ.out], HLf, Bf⟩
  · have gne : (ep != e) = true := by simp [hep]
    have N := NO.out hep
    obtain ⟨N1, rfl⟩ := N
    clear hep
    have NX := Lib.hid N1
    clear N1
    rw [← NX.out] at BG
    refine wp_region_held_drew (S := (fun w' => w'.cell? ⟨bm, 0, none⟩ = some (.int .i64 ep) ∧ w'.cell? ⟨bm, 1, none⟩ = some (.slice a0 n0 e0) ∧ w'.cell? ⟨bm, 2, none⟩ = some (.int .i64 p0) ∧ w'.cell? ⟨bm, 3, none⟩ = some (.int .i64 p1) ∧ w'.cell? ⟨bm, 4, none⟩ = some (.int .i64 p2) ∧ w'.cell? ⟨bm, 5, none⟩ = some (.slice a1 n1 e1) ∧ w'.cell? ⟨bm, 6, none⟩ = some (.slice a2 n2 e2) ∧ w'.cell? ⟨bm, 7, none⟩ = some (.slice a3 n3 e3))) (by kernel_rfl) ?_ (fun hHeld => ?_)
    · exact ⟨Km.out.below (below_drewN (Below.refl _ y0) 1) 0 _ rfl, Km.out.below (below_drewN (Below.refl _ y0) 1) 1 _ rfl, Km.out.below (below_drewN (Below.refl _ y0) 1) 2 _ rfl, Km.out.below (below_drewN (Below.refl _ y0) 1) 3 _ rfl, Km.out.below (below_drewN (Below.refl _ y0) 1) 4 _ rfl, Km.out.below (below_drewN (Below.refl _ y0) 1) 5 _ rfl, Km.out.below (below_drewN (Below.refl _ y0) 1) 6 _ rfl, Km.out.below (below_drewN (Below.refl _ y0) 1) 7 _ rfl⟩
    obtain ⟨yb, hyb⟩ : ∃ y, y = y0.drew := ⟨_, rfl⟩
    rw [← hyb] at hHeld ⊢
    have BYb : Hid (Below y0.heap.size y0 yb) := Lib.hid (by rw [hyb]; exact below_drewN (Below.refl _ y0) 1)
    clear hyb
    refine tq 0 ?_
    refine tq 1 ?_
    refine tq 3 ?_
    refine tq 2 ?_
    refine tq 4 ?_
    refine rd 5 fun K hK => ?_
    go_simp
    obtain ⟨bx, hbx⟩ : ∃ b, b = yb.heap.size := ⟨_, rfl⟩
    obtain ⟨yx, hyx⟩ : ∃ y, y = yb.alloc (.cells #[.int .i64 0, .slice none 0 0, .int .i64 0, .int .i64 0, .int .i64 0, .slice none 0 0, .slice none 0 0, .slice none 0 0] 33) := ⟨_, rfl⟩
    have KX0 : Hid (BoxAt bx [.int .i64 0, .slice none 0 0, .int .i64 0, .int .i64 0, .int .i64 0, .slice none 0 0, .slice none 0 0, .slice none 0 0] yx) := Lib.hid (by rw [hbx, hyx]; exact boxAt_new yb [.int .i64 0, .slice none 0 0, .int .i64 0, .int .i64 0, .int .i64 0, .slice none 0 0, .slice none 0 0, .slice none 0 0] _)
    have OX0 : Hid (Open8 bx yx) := Lib.hid (by rw [hbx, hyx]; exact Open8.new _ _ _)
    have BYx : Hid (Below y0.heap.size y0 yx) := Lib.hid (by rw [hyx]; exact below_step' BYb.out (below_new _ _))
    have NR : Hid (w.heap.size ≤ bx ∧ w.heap.size ≤ br ∧ br ≠ bx ∧ bm ≠ bx) := Lib.hid (by have h1 := RR.out; have h2 := Om.out.1; have h3 := Or.out.1; have h4 := BYb.out.size; have h5 := B0.out.size; omega)
    have NB : Hid (y0.heap.size ≤ bx) := Lib.hid (by rw [hbx]; exact BYb.out.size)
    rw [← hyx, ← hbx]
    clear hyx hbx
    refine hK.out _ _ ?_ (fun hHeld => ?_)
    · exact ⟨Km.out.below BYx.out 0 _ rfl, Km.out.below BYx.out 1 _ rfl, Km.out.below BYx.out 2 _ rfl, Km.out.below BYx.out 3 _ rfl, Km.out.below BYx.out 4 _ rfl, Km.out.below BYx.out 5 _ rfl, Km.out.below BYx.out 6 _ rfl, Km.out.below BYx.out 7 _ rfl⟩
    clear hK K
    have c0 := KX0.out 0 _ rfl
    have c1 := KX0.out 1 _ rfl
    have c2 := KX0.out 2 _ rfl
    have c3 := KX0.out 3 _ rfl
    have c4 := KX0.out 4 _ rfl
    have c5 := KX0.out 5 _ rfl
    have c6 := KX0.out 6 _ rfl
    have c7 := KX0.out 7 _ rfl
    have g0 := OX0.out.2 0
    have g1 := OX0.out.2 1
    have g2 := OX0.out.2 2
    have g3 := OX0.out.2 3
    have g4 := OX0.out.2 4
    have g5 := OX0.out.2 5
    have g6 := OX0.out.2 6
    have g7 := OX0.out.2 7
    have KM1 : Hid (BoxAt bm [.int .i64 ep, .slice a0 n0 e0, .int .i64 p0, .int .i64 p1, .int .i64 p2, .slice a1 n1 e1, .slice a2 n2 e2, .slice a3 n3 e3] (setN yx bx 0 [.int .i64 ep, .slice a0 n0 e0, .int .i64 p0, .int .i64 p1, .int .i64 p2, .slice a1 n1 e1, .slice a2 n2 e2, .slice a3 n3 e3])) := Lib.hid (setN_far NR.out.2.2.2 (Km.out.below BYx.out))
    refine rd 6 fun K hK => ?_
    go_simp
    refine hK.out _ _ ?_ (fun hHeld => ?_)
    · exact ⟨KM1.out 0 _ rfl, KM1.out 1 _ rfl, KM1.out 2 _ rfl, KM1.out 3 _ rfl, KM1.out 4 _ rfl, KM1.out 5 _ rfl, KM1.out 6 _ rfl, KM1.out 7 _ rfl⟩
    clear hK K
    refine tq 7 ?_
    refine wpAnyH_done (by kernel_rfl) ?_ _
    change Exit.then _ _ Exit.normal _ (setN yx bx 0 [.int .i64 ep, .slice a0 n0 e0, .int .i64 p0, .int .i64 p1, .int .i64 p2, .slice a1 n1 e1, .slice a2 n2 e2, .slice a3 n3 e3])
    have KX : Hid (BoxAt bx [.int .i64 ep, .slice a0 n0 e0, .int .i64 p0, .int .i64 p1, .int .i64 p2, .slice a1 n1 e1, .slice a2 n2 e2, .slice a3 n3 e3] (setN yx bx 0 [.int .i64 ep, .slice a0 n0 e0, .int .i64 p0, .int .i64 p1, .int .i64 p2, .slice a1 n1 e1, .slice a2 n2 e2, .slice a3 n3 e3])) := Lib.hid (setN_box [.int .i64 ep, .slice a0 n0 e0, .int .i64 p0, .int .i64 p1, .int .i64 p2, .slice a1 n1 e1, .slice a2 n2 e2, .slice a3 n3 e3] 0 _ yx KX0.out (by simp))
    have OX : Hid (Open8 bx (setN yx bx 0 [.int .i64 ep, .slice a0 n0 e0, .int .i64 p0, .int .i64 p1, .int .i64 p2, .slice a1 n1 e1, .slice a2 n2 e2, .slice a3 n3 e3])) := Lib.hid OX0.out.set
    have BZ : Hid (Below y0.heap.size y0 (setN yx bx 0 [.int .i64 ep, .slice a0 n0 e0, .int .i64 p0, .int .i64 p1, .int .i64 p2, .slice a1 n1 e1, .slice a2 n2 e2, .slice a3 n3 e3])) := Lib.hid (setN_below NB.out [.int .i64 ep, .slice a0 n0 e0, .int .i64 p0, .int .i64 p1, .int .i64 p2, .slice a1 n1 e1, .slice a2 n2 e2, .slice a3 n3 e3] 0 yx BYx.out)
    obtain ⟨wz, hwz⟩ : ∃ x, x = setN yx bx 0 [.int .i64 ep, .slice a0 n0 e0, .int .i64 p0, .int .i64 p1, .int .i64 p2, .slice a1 n1 e1, .slice a2 n2 e2, .slice a3 n3 e3] := ⟨_, rfl⟩
    rw [← hwz] at KX OX BZ ⊢
    clear hwz c0 c1 c2 c3 c4 c5 c6 c7 g0 g1 g2 g3 g4 g5 g6 g7 KM1 hHeld
    have kh0 := (Kh.out.below BZ.out) 0 _ rfl
    have kh1 := (Kh.out.below BZ.out) 1 _ rfl
    have kh2 := (Kh.out.below BZ.out) 2 _ rfl
    have kh3 := (Kh.out.below BZ.out) 3 _ rfl
    have kh4 := (Kh.out.below BZ.out) 4 _ rfl
    go_wp2_with fail
    refine (BG.out _ (below_step' B0.out BZ.out)).mono ?_
    rintro e8 wB ⟨v0, v1, v2, v3, rfl, hU, hb⟩
    obtain ⟨j0, j1, j2, j3, l0, l1, l2, l3, o0, o1, o2, o3, ff0, ff1, ff2, ff3⟩ := mk_slices hU.weak
    subst ff0
    subst ff1
    subst ff2
    subst ff3
    rw [XQ.out]
    have HUB := Lib.hid hU
    have BB := Lib.hid hb
    have KXB := Lib.hid (KX.out.below hb)
    have OXB := Lib.hid (OX.out.below hb)
    clear hU hb kh0 kh1 kh2 kh3 kh4 BG
    have c0 := KXB.out 0 _ rfl
    have c1 := KXB.out 1 _ rfl
    have c2 := KXB.out 2 _ rfl
    have c3 := KXB.out 3 _ rfl
    have c4 := KXB.out 4 _ rfl
    have c5 := KXB.out 5 _ rfl
    have c6 := KXB.out 6 _ rfl
    have c7 := KXB.out 7 _ rfl
    have g0 := OXB.out.2 0
    have g1 := OXB.out.2 1
    have g2 := OXB.out.2 2
    have g3 := OXB.out.2 3
    have g4 := OXB.out.2 4
    have g5 := OXB.out.2 5
    have g6 := OXB.out.2 6
    have g7 := OXB.out.2 7
    go_upto_region 4 with fail
    change Code.wp _ _ _ _ (setN wB bx 0 [.int .i64 r0, .slice j0 l0 o0, .int .i64 r1, .int .i64 r2, .int .i64 r3, .slice j1 l1 o1, .slice j2 l2 o2, .slice j3 l3 o3])
    have X : Hid (HasL (setN wB bx 0 [.int .i64 r0, .slice j0 l0 o0, .int .i64 r1, .int .i64 r2, .int .i64 r3, .slice j1 l1 o1, .slice j2 l2 o2, .slice j3 l3 o3]) [.slice j0 l0 o0, .slice j1 l1 o1, .slice j2 l2 o2, .slice j3 l3 o3] x.d) := Lib.hid (HUB.out.same (setN_same (P := fun q => wz.heap.size ≤ q) (b := bx) (fun h => Nat.lt_irrefl _ (Nat.lt_of_lt_of_le OX.out.1 h)) [.int .i64 r0, .slice j0 l0 o0, .int .i64 r1, .int .i64 r2, .int .i64 r3, .slice j1 l1 o1, .slice j2 l2 o2, .slice j3 l3 o3] 0 wB (SameOn.refl _ _))).weak
    have KX2 : Hid (BoxAt bx [.int .i64 r0, .slice j0 l0 o0, .int .i64 r1, .int .i64 r2, .int .i64 r3, .slice j1 l1 o1, .slice j2 l2 o2, .slice j3 l3 o3] (setN wB bx 0 [.int .i64 r0, .slice j0 l0 o0, .int .i64 r1, .int .i64 r2, .int .i64 r3, .slice j1 l1 o1, .slice j2 l2 o2, .slice j3 l3 o3])) := Lib.hid (setN_box [.int .i64 r0, .slice j0 l0 o0, .int .i64 r1, .int .i64 r2, .int .i64 r3, .slice j1 l1 o1, .slice j2 l2 o2, .slice j3 l3 o3] 0 _ wB KXB.out (by simp))
    have OX2 : Hid (Open8 bx (setN wB bx 0 [.int .i64 r0, .slice j0 l0 o0, .int .i64 r1, .int .i64 r2, .int .i64 r3, .slice j1 l1 o1, .slice j2 l2 o2, .slice j3 l3 o3])) := Lib.hid OXB.out.set
    have BZ2 : Hid (Below y0.heap.size y0 (setN wB bx 0 [.int .i64 r0, .slice j0 l0 o0, .int .i64 r1, .int .i64 r2, .int .i64 r3, .slice j1 l1 o1, .slice j2 l2 o2, .slice j3 l3 o3])) := Lib.hid (setN_below NB.out [.int .i64 r0, .slice j0 l0 o0, .int .i64 r1, .int .i64 r2, .int .i64 r3, .slice j1 l1 o1, .slice j2 l2 o2, .slice j3 l3 o3] 0 wB (below_step' BZ.out BB.out))
    have UN : Hid (l0 = x.op.length) := Lib.hid (bools_len (mk_has HUB.out.weak).1)
    clear KX OX BZ KXB OXB HUB BB
    obtain ⟨w8, hw8⟩ : ∃ x, x = setN wB bx 0 [.int .i64 r0, .slice j0 l0 o0, .int .i64 r1, .int .i64 r2, .int .i64 r3, .slice j1 l1 o1, .slice j2 l2 o2, .slice j3 l3 o3] := ⟨_, rfl⟩
    rw [← hw8] at X KX2 OX2 BZ2 ⊢
    have KX := Lib.hid KX2.out
    have OX := Lib.hid OX2.out
    have BZ := Lib.hid BZ2.out
    clear hw8 c0 c1 c2 c3 c4 c5 c6 c7 g0 g1 g2 g3 g4 g5 g6 g7 KX2 OX2 BZ2
    have ka := (Ka.out.below BZ.out) 0 _ rfl
    have c0 := KX.out 0 _ rfl
    have c1 := KX.out 1 _ rfl
    have c2 := KX.out 2 _ rfl
    have c3 := KX.out 3 _ rfl
    have c4 := KX.out 4 _ rfl
    have c5 := KX.out 5 _ rfl
    have c6 := KX.out 6 _ rfl
    have c7 := KX.out 7 _ rfl
    have g0 := OX.out.2 0
    have g1 := OX.out.2 1
    have g2 := OX.out.2 2
    have g3 := OX.out.2 3
    have g4 := OX.out.2 4
    have g5 := OX.out.2 5
    have g6 := OX.out.2 6
    have g7 := OX.out.2 7
    have CC := CI.out _ ba _ _ _ _ X.out ka j0 _ o0 UN.out
    rw [XQ.out, ← UN.out] at CC
    have CCH := Lib.hid CC
    clear CC
    go_wp2_with fail
    refine CCH.out.mono ?_
    rintro e9 w5 ⟨v0, v1, v2, v3, rfl, hU, hb⟩
    have KX5 := Lib.hid (KX.out.below hb)
    have OX5 := Lib.hid (OX.out.below hb)
    have B5 := Lib.hid (below_step' BZ.out hb)
    have KR5 := Lib.hid (Kr.out.below B5.out)
    have OR5 := Lib.hid (Or.out.below B5.out)
    have KM5 := Lib.hid (Km.out.below B5.out)
    have NZ := Lib.hid BZ.out.size
    clear hb c0 c1 c2 c3 c4 c5 c6 c7 g0 g1 g2 g3 g4 g5 g6 g7 ka
    cases is with
    | true =>
      obtain rfl : mr = (closeM x at', true) := by rw [MR.out]; simp
      simp only [if_pos] at hU ⊢
      obtain ⟨u0, u1, u2, u3, k0, k1, k2, k3, f0, f1, f2, f3, ff0, ff1, ff2, ff3⟩ := mk_slices hU.weak
      subst ff0
      subst ff1
      subst ff2
      subst ff3
      rw [show ∀ a b c d, mkv (closeM x at') a b c d = mkv x a b c d from fun _ _ _ _ => rfl, XQ.out]
      have HU := Lib.hid (hU.wide (P' := fun q => y0.heap.size ≤ q ∧ q ≠ bx) (fun q _ (hq : _ ≤ q) => ⟨Nat.le_trans NZ.out hq, fun e => Nat.lt_irrefl _ (Nat.lt_of_lt_of_le OX.out.1 (by rw [← e]; exact hq))⟩))
      clear hU
      have c0 := KX5.out 0 _ rfl
      have c1 := KX5.out 1 _ rfl
      have c2 := KX5.out 2 _ rfl
      have c3 := KX5.out 3 _ rfl
      have c4 := KX5.out 4 _ rfl
      have c5 := KX5.out 5 _ rfl
      have c6 := KX5.out 6 _ rfl
      have c7 := KX5.out 7 _ rfl
      have g0 := OX5.out.2 0
      have g1 := OX5.out.2 1
      have g2 := OX5.out.2 2
      have g3 := OX5.out.2 3
      have g4 := OX5.out.2 4
      have g5 := OX5.out.2 5
      have g6 := OX5.out.2 6
      have g7 := OX5.out.2 7
      go_upto_region 5 with fail
      change Code.wp _ _ _ _ (setN w5 bx 0 [.int .i64 r0, .slice u0 k0 f0, .int .i64 r1, .int .i64 r2, .int .i64 r3, .slice u1 k1 f1, .slice u2 k2 f2, .slice u3 k3 f3])
      have KX6 : Hid (BoxAt bx [.int .i64 r0, .slice u0 k0 f0, .int .i64 r1, .int .i64 r2, .int .i64 r3, .slice u1 k1 f1, .slice u2 k2 f2, .slice u3 k3 f3] (setN w5 bx 0 [.int .i64 r0, .slice u0 k0 f0, .int .i64 r1, .int .i64 r2, .int .i64 r3, .slice u1 k1 f1, .slice u2 k2 f2, .slice u3 k3 f3])) := Lib.hid (setN_box [.int .i64 r0, .slice u0 k0 f0, .int .i64 r1, .int .i64 r2, .int .i64 r3, .slice u1 k1 f1, .slice u2 k2 f2, .slice u3 k3 f3] 0 _ w5 KX5.out (by simp))
      have KR6 : Hid (BoxAt br [.int .i64 0, .slice none 0 0, .int .i64 0, .int .i64 0, .int .i64 0, .slice none 0 0, .slice none 0 0, .slice none 0 0] (setN w5 bx 0 [.int .i64 r0, .slice u0 k0 f0, .int .i64 r1, .int .i64 r2, .int .i64 r3, .slice u1 k1 f1, .slice u2 k2 f2, .slice u3 k3 f3])) := Lib.hid (setN_far NR.out.2.2.1 KR5.out)
      have OR6 : Hid (Open8 br (setN w5 bx 0 [.int .i64 r0, .slice u0 k0 f0, .int .i64 r1, .int .i64 r2, .int .i64 r3, .slice u1 k1 f1, .slice u2 k2 f2, .slice u3 k3 f3])) := Lib.hid OR5.out.set
      have HL6 := Lib.hid ((HU.out.same (setN_same (P := fun q => y0.heap.size ≤ q ∧ q ≠ bx) (b := bx) (fun h => h.2 rfl) [.int .i64 r0, .slice u0 k0 f0, .int .i64 r1, .int .i64 r2, .int .i64 r3, .slice u1 k1 f1, .slice u2 k2 f2, .slice u3 k3 f3] 0 w5 (SameOn.refl _ _))).wide (P' := fun q => y0.heap.size ≤ q) (fun q _ h => h.1))
      have B6 := Lib.hid (setN_below NR.out.1 [.int .i64 r0, .slice u0 k0 f0, .int .i64 r1, .int .i64 r2, .int .i64 r3, .slice u1 k1 f1, .slice u2 k2 f2, .slice u3 k3 f3] 0 w5 (below_step' B0.out B5.out))
      obtain ⟨w6, hw6⟩ : ∃ x, x = setN w5 bx 0 [.int .i64 r0, .slice u0 k0 f0, .int .i64 r1, .int .i64 r2, .int .i64 r3, .slice u1 k1 f1, .slice u2 k2 f2, .slice u3 k3 f3] := ⟨_, rfl⟩
      rw [← hw6] at KX6 KR6 OR6 HL6 B6 ⊢
      clear hw6 c0 c1 c2 c3 c4 c5 c6 c7 g0 g1 g2 g3 g4 g5 g6 g7 HU
      have c0 := KX6.out 0 _ rfl
      have c1 := KX6.out 1 _ rfl
      have c2 := KX6.out 2 _ rfl
      have c3 := KX6.out 3 _ rfl
      have c4 := KX6.out 4 _ rfl
      have c5 := KX6.out 5 _ rfl
      have c6 := KX6.out 6 _ rfl
      have c7 := KX6.out 7 _ rfl
      have rr0 := KR6.out 0 _ rfl
      have rr1 := KR6.out 1 _ rfl
      have rr2 := KR6.out 2 _ rfl
      have rr3 := KR6.out 3 _ rfl
      have rr4 := KR6.out 4 _ rfl
      have rr5 := KR6.out 5 _ rfl
      have rr6 := KR6.out 6 _ rfl
      have rr7 := KR6.out 7 _ rfl
      have g0 := OR6.out.2 0
      have g1 := OR6.out.2 1
      have g2 := OR6.out.2 2
      have g3 := OR6.out.2 3
      have g4 := OR6.out.2 4
      have g5 := OR6.out.2 5
      have g6 := OR6.out.2 6
      have g7 := OR6.out.2 7
      go_wp2_with fail
      change bodyPost _ _ _ Exit.ret _ (setN w6 br 0 [.int .i64 r0, .slice u0 k0 f0, .int .i64 r1, .int .i64 r2, .int .i64 r3, .slice u1 k1 f1, .slice u2 k2 f2, .slice u3 k3 f3])
      have HB : BoxAt br [.int .i64 r0, .slice u0 k0 f0, .int .i64 r1, .int .i64 r2, .int .i64 r3, .slice u1 k1 f1, .slice u2 k2 f2, .slice u3 k3 f3] (setN w6 br 0 [.int .i64 r0, .slice u0 k0 f0, .int .i64 r1, .int .i64 r2, .int .i64 r3, .slice u1 k1 f1, .slice u2 k2 f2, .slice u3 k3 f3]) := setN_box [.int .i64 r0, .slice u0 k0 f0, .int .i64 r1, .int .i64 r2, .int .i64 r3, .slice u1 k1 f1, .slice u2 k2 f2, .slice u3 k3 f3] 0 _ w6 KR6.out (by simp)
      have HLf := (HL6.out.same (setN_same (P := fun q => y0.heap.size ≤ q) (b := br) (fun h => Nat.lt_irrefl _ (Nat.lt_of_lt_of_le Or.out.1 h)) [.int .i64 r0, .slice u0 k0 f0, .int .i64 r1, .int .i64 r2, .int .i64 r3, .slice u1 k1 f1, .slice u2 k2 f2, .slice u3 k3 f3] 0 w6 (SameOn.refl _ _))).wide (P' := fun q => w.heap.size ≤ q) (fun q _ h => Nat.le_trans B0.out.size h)
      have Bf := setN_below NR.out.2.1 [.int .i64 r0, .slice u0 k0 f0, .int .i64 r1, .int .i64 r2, .int .i64 r3, .slice u1 k1 f1, .slice u2 k2 f2, .slice u3 k3 f3] 0 w6 B6.out
      exact bodyPost_ret (v := .tuple #[.agg #[.int .i64 r0, .slice u0 k0 f0, .int .i64 r1, .int .i64 r2, .int .i64 r3, .slice u1 k1 f1, .slice u2 k2 f2, .slice u3 k3 f3], .bool true]) (by simp [results, Try.results10, go_sem, HB 0 _ rfl, HB 1 _ rfl, HB 2 _ rfl, HB 3 _ rfl, HB 4 _ rfl, HB 5 _ rfl, HB 6 _ rfl, HB 7 _ rfl]) rfl ⟨_, _, _, _, by rw [show ∀ a b c d, mkv (closeM x at') a b c d = mkv x a b c d from fun _ _ _ _ => rfl, XQ.out], HLf, Bf⟩
    | false =>
      obtain rfl : mr = (m, false) := by rw [MR.out]; simp
      simp only [Bool.false_eq_true, if_false] at hU ⊢
      obtain ⟨u0, u1, u2, u3, k0, k1, k2, k3, f0, f1, f2, f3, ff0, ff1, ff2, ff3⟩ := mk_slices hU.weak
      subst ff0
      subst ff1
      subst ff2
      subst ff3
      rw [XQ.out]
      clear hU
      have c0 := KX5.out 0 _ rfl
      have c1 := KX5.out 1 _ rfl
      have c2 := KX5.out 2 _ rfl
      have c3 := KX5.out 3 _ rfl
      have c4 := KX5.out 4 _ rfl
      have c5 := KX5.out 5 _ rfl
      have c6 := KX5.out 6 _ rfl
      have c7 := KX5.out 7 _ rfl
      have g0 := OX5.out.2 0
      have g1 := OX5.out.2 1
      have g2 := OX5.out.2 2
      have g3 := OX5.out.2 3
      have g4 := OX5.out.2 4
      have g5 := OX5.out.2 5
      have g6 := OX5.out.2 6
      have g7 := OX5.out.2 7
      go_upto_region 5 with fail
      change Code.wp _ _ _ _ (setN w5 bx 0 [.int .i64 r0, .slice u0 k0 f0, .int .i64 r1, .int .i64 r2, .int .i64 r3, .slice u1 k1 f1, .slice u2 k2 f2, .slice u3 k3 f3])
      have KM6 : Hid (BoxAt bm [.int .i64 ep, .slice a0 n0 e0, .int .i64 p0, .int .i64 p1, .int .i64 p2, .slice a1 n1 e1, .slice a2 n2 e2, .slice a3 n3 e3] (setN w5 bx 0 [.int .i64 r0, .slice u0 k0 f0, .int .i64 r1, .int .i64 r2, .int .i64 r3, .slice u1 k1 f1, .slice u2 k2 f2, .slice u3 k3 f3])) := Lib.hid (setN_far NR.out.2.2.2 KM5.out)
      have KR6 : Hid (BoxAt br [.int .i64 0, .slice none 0 0, .int .i64 0, .int .i64 0, .int .i64 0, .slice none 0 0, .slice none 0 0, .slice none 0 0] (setN w5 bx 0 [.int .i64 r0, .slice u0 k0 f0, .int .i64 r1, .int .i64 r2, .int .i64 r3, .slice u1 k1 f1, .slice u2 k2 f2, .slice u3 k3 f3])) := Lib.hid (setN_far NR.out.2.2.1 KR5.out)
      have OR6 : Hid (Open8 br (setN w5 bx 0 [.int .i64 r0, .slice u0 k0 f0, .int .i64 r1, .int .i64 r2, .int .i64 r3, .slice u1 k1 f1, .slice u2 k2 f2, .slice u3 k3 f3])) := Lib.hid OR5.out.set
      have B6 := Lib.hid (setN_below NR.out.1 [.int .i64 r0, .slice u0 k0 f0, .int .i64 r1, .int .i64 r2, .int .i64 r3, .slice u1 k1 f1, .slice u2 k2 f2, .slice u3 k3 f3] 0 w5 (below_step' B0.out B5.out))
      have B6y : Hid (y0.heap.size ≤ (setN w5 bx 0 [.int .i64 r0, .slice u0 k0 f0, .int .i64 r1, .int .i64 r2, .int .i64 r3, .slice u1 k1 f1, .slice u2 k2 f2, .slice u3 k3 f3]).heap.size) := Lib.hid (by rw [setN_size]; exact B5.out.size)
      obtain ⟨w6, hw6⟩ : ∃ x, x = setN w5 bx 0 [.int .i64 r0, .slice u0 k0 f0, .int .i64 r1, .int .i64 r2, .int .i64 r3, .slice u1 k1 f1, .slice u2 k2 f2, .slice u3 k3 f3] := ⟨_, rfl⟩
      rw [← hw6] at KM6 KR6 OR6 B6 B6y ⊢
      clear hw6 c0 c1 c2 c3 c4 c5 c6 c7 g0 g1 g2 g3 g4 g5 g6 g7
      have c0 := KM6.out 0 _ rfl
      have c1 := KM6.out 1 _ rfl
      have c2 := KM6.out 2 _ rfl
      have c3 := KM6.out 3 _ rfl
      have c4 := KM6.out 4 _ rfl
      have c5 := KM6.out 5 _ rfl
      have c6 := KM6.out 6 _ rfl
      have c7 := KM6.out 7 _ rfl
      go_wp2_with fail
      refine (OWN.out _ B6.out).mono ?_
      rintro e9 w7 ⟨v0, v1, v2, v3, rfl, hU, hb⟩
      obtain ⟨u0, u1, u2, u3, k0, k1, k2, k3, f0, f1, f2, f3, ff0, ff1, ff2, ff3⟩ := mk_slices hU.weak
      subst ff0
      subst ff1
      subst ff2
      subst ff3
      rw [MQ.out]
      have HU := Lib.hid (hU.wide (P' := fun q => y0.heap.size ≤ q) (fun q _ (hq : _ ≤ q) => Nat.le_trans B6y.out hq))
      have KR7 := Lib.hid (KR6.out.below hb)
      have OR7 := Lib.hid (OR6.out.below hb)
      have B7 := Lib.hid (below_step' B6.out hb)
      clear hU hb c0 c1 c2 c3 c4 c5 c6 c7
      have rr0 := KR7.out 0 _ rfl
      have rr1 := KR7.out 1 _ rfl
      have rr2 := KR7.out 2 _ rfl
      have rr3 := KR7.out 3 _ rfl
      have rr4 := KR7.out 4 _ rfl
      have rr5 := KR7.out 5 _ rfl
      have rr6 := KR7.out 6 _ rfl
      have rr7 := KR7.out 7 _ rfl
      have g0 := OR7.out.2 0
      have g1 := OR7.out.2 1
      have g2 := OR7.out.2 2
      have g3 := OR7.out.2 3
      have g4 := OR7.out.2 4
      have g5 := OR7.out.2 5
      have g6 := OR7.out.2 6
      have g7 := OR7.out.2 7
      go_wp2_with fail
      change bodyPost _ _ _ Exit.ret _ (setN w7 br 0 [.int .i64 ep, .slice u0 k0 f0, .int .i64 p0, .int .i64 p1, .int .i64 p2, .slice u1 k1 f1, .slice u2 k2 f2, .slice u3 k3 f3])
      have HB : BoxAt br [.int .i64 ep, .slice u0 k0 f0, .int .i64 p0, .int .i64 p1, .int .i64 p2, .slice u1 k1 f1, .slice u2 k2 f2, .slice u3 k3 f3] (setN w7 br 0 [.int .i64 ep, .slice u0 k0 f0, .int .i64 p0, .int .i64 p1, .int .i64 p2, .slice u1 k1 f1, .slice u2 k2 f2, .slice u3 k3 f3]) := setN_box [.int .i64 ep, .slice u0 k0 f0, .int .i64 p0, .int .i64 p1, .int .i64 p2, .slice u1 k1 f1, .slice u2 k2 f2, .slice u3 k3 f3] 0 _ w7 KR7.out (by simp)
      have HLf := (HU.out.same (setN_same (P := fun q => y0.heap.size ≤ q) (b := br) (fun h => Nat.lt_irrefl _ (Nat.lt_of_lt_of_le Or.out.1 h)) [.int .i64 ep, .slice u0 k0 f0, .int .i64 p0, .int .i64 p1, .int .i64 p2, .slice u1 k1 f1, .slice u2 k2 f2, .slice u3 k3 f3] 0 w7 (SameOn.refl _ _))).wide (P' := fun q => w.heap.size ≤ q) (fun q _ h => Nat.le_trans B0.out.size h)
      have Bf := setN_below NR.out.2.1 [.int .i64 ep, .slice u0 k0 f0, .int .i64 p0, .int .i64 p1, .int .i64 p2, .slice u1 k1 f1, .slice u2 k2 f2, .slice u3 k3 f3] 0 w7 B7.out
      exact bodyPost_ret (v := .tuple #[.agg #[.int .i64 ep, .slice u0 k0 f0, .int .i64 p0, .int .i64 p1, .int .i64 p2, .slice u1 k1 f1, .slice u2 k2 f2, .slice u3 k3 f3], .bool false]) (by simp [results, Try.results10, go_sem, HB 0 _ rfl, HB 1 _ rfl, HB 2 _ rfl, HB 3 _ rfl, HB 4 _ rfl, HB 5 _ rfl, HB 6 _ rfl, HB 7 _ rfl]) rfl ⟨_, _, _, _, by rw [MQ.out], HLf, Bf⟩
end Go.Proofs.Ytlhclnhdcenkhaa
