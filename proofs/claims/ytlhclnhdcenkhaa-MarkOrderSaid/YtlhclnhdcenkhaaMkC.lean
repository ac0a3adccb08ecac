/- Marks: own. -/
import Derived.Test.YtlhclnhdcenkhaaMkB
set_option linter.unusedSimpArgs false
set_option linter.unusedVariables false
set_option maxRecDepth 100000
namespace Go.Proofs.Ytlhclnhdcenkhaa
open Go.RowKit Go.PlainAid

def phiW (m : Mk) (y : World) (x1 x4 x6 : Value) (g : Nat) (v : Value) (w : World) : Prop :=
  if g = 1 then v = x1 else if g = 4 then v = x4 else if g = 6 then v = x6 else if g = 2 then ∃ a k c, v = .slice a k c ∧ Holds True (fun q => y.heap.size ≤ q) w v (dBools m.op) else ∃ v1 v2 v3, v = pcv m.p v1 v2 v3 ∧ HoldsL True (fun q => y.heap.size ≤ q) w [v1, v2, v3] m.p.d
theorem phiW1 {m : Mk} {y : World} {x1 x4 x6 v : Value} {w : World} : phiW m y x1 x4 x6 1 v w ↔ v = x1 := by unfold phiW; rw [if_pos rfl]
theorem phiW4 {m : Mk} {y : World} {x1 x4 x6 v : Value} {w : World} : phiW m y x1 x4 x6 4 v w ↔ v = x4 := by unfold phiW; rw [if_neg (by decide), if_pos rfl]
theorem phiW6 {m : Mk} {y : World} {x1 x4 x6 v : Value} {w : World} : phiW m y x1 x4 x6 6 v w ↔ v = x6 := by unfold phiW; rw [if_neg (by decide), if_neg (by decide), if_pos rfl]
theorem phiW2 {m : Mk} {y : World} {x1 x4 x6 v : Value} {w : World} : phiW m y x1 x4 x6 2 v w ↔ ∃ a k c, v = .slice a k c ∧ Holds True (fun q => y.heap.size ≤ q) w v (dBools m.op) := by unfold phiW; rw [if_neg (by decide), if_neg (by decide), if_neg (by decide), if_pos rfl]
theorem phiW5 {m : Mk} {y : World} {x1 x4 x6 v : Value} {w : World} : phiW m y x1 x4 x6 5 v w ↔ ∃ v1 v2 v3, v = pcv m.p v1 v2 v3 ∧ HoldsL True (fun q => y.heap.size ≤ q) w [v1, v2, v3] m.p.d := by unfold phiW; rw [if_neg (by decide), if_neg (by decide), if_neg (by decide), if_neg (by decide)]
theorem phiW_mono {m : Mk} {y : World} {x1 x4 x6 : Value} {g : Nat} {v : Value} {w w' : World} (h : phiW m y x1 x4 x6 g v w) (hb : Below w.heap.size w w') : phiW m y x1 x4 x6 g v w' := by
  unfold phiW at *
  split
  · next e => rw [if_pos e] at h; exact h
  · next e =>
    rw [if_neg e] at h
    split
    · next e => rw [if_pos e] at h; exact h
    · next e =>
      rw [if_neg e] at h
      split
      · next e => rw [if_pos e] at h; exact h
      · next e =>
        rw [if_neg e] at h
        split
        · next e => rw [if_pos e] at h; obtain ⟨a, k, c, e, h⟩ := h; exact ⟨a, k, c, e, h.later hb⟩
        · next e => rw [if_neg e] at h; obtain ⟨a, k, c, e, h⟩ := h; exact ⟨a, k, c, e, h.later hb⟩
/-- The truth values and the piece lie apart. -/
def ApW (m : Mk) (v u : Value) (w : World) : Prop := ∃ P Q : Nat → Prop, (∀ q, P q → ¬ Q q) ∧ Holds True P w v (dBools m.op) ∧ ∀ v1 v2 v3, u = pcv m.p v1 v2 v3 → HoldsL True Q w [v1, v2, v3] m.p.d
theorem ApW.later {m : Mk} {v u : Value} {w w' : World} (h : ApW m v u w) (hb : Below w.heap.size w w') : ApW m v u w' := by
  obtain ⟨P, Q, h1, h2, h3⟩ := h
  exact ⟨P, Q, h1, h2.later hb, fun v1 v2 v3 e => (h3 v1 v2 v3 e).later hb⟩
def psiW (m : Mk) (g h : Nat) (v u : Value) (w : World) : Prop := (g = 2 → h = 5 → ApW m v u w) ∧ (g = 5 → h = 2 → ApW m u v w)
theorem psiW_mono {m : Mk} {g h : Nat} {v u : Value} {w w' : World} (q : psiW m g h v u w) (hb : Below w.heap.size w w') : psiW m g h v u w' := ⟨fun a b => (q.1 a b).later hb, fun a b => (q.2 a b).later hb⟩
theorem psiW_no {m : Mk} {g h : Nat} {v u : Value} {w : World} (h2 : g ≠ 2) (h5 : g ≠ 5) : psiW m g h v u w := ⟨fun e => absurd e h2, fun e => absurd e h5⟩
set_option maxHeartbeats 8000000 in
theorem mown_at (m : Mk) (v0 v1 v2 v3 : Value) (w : World) (h : HasL w [v0, v1, v2, v3] m.d) (hs : SmallMk m) :
    Calls Try.prog 26 #[mkv m v0 v1 v2 v3] w (MkTold m w) := by
  have CL := Lib.hid (fun (w' : World) (hb : Below w.heap.size w w') => cloneB_at m.op v0 w' ((mk_has h).1.later hb) hs.b)
  have OW := Lib.hid (fun (w' : World) (hb : Below w.heap.size w w') => own_at m.p v1 v2 v3 w' ((mk_has h).2.later hb) hs.p)
  obtain ⟨a0, a1, a2, a3, n0, n1, n2, n3, e0, e1, e2, e3, ee0, ee1, ee2, ee3⟩ := mk_slices h
  subst ee0
  subst ee1
  subst ee2
  subst ee3
  obtain ⟨ep, hep⟩ : ∃ e, e = m.ep := ⟨_, rfl⟩
  obtain ⟨p0, hp0⟩ : ∃ e, e = m.p.node := ⟨_, rfl⟩
  obtain ⟨p1, hp1⟩ : ∃ e, e = m.p.state := ⟨_, rfl⟩
  obtain ⟨p2, hp2⟩ : ∃ e, e = m.p.steps := ⟨_, rfl⟩
  have PQ : Hid (∀ x y z, pcv m.p x y z = .agg #[.int .i64 p0, .int .i64 p1, .int .i64 p2, x, y, z]) := Lib.hid (fun x y z => by rw [hp0, hp1, hp2])
  have MQ : Hid (∀ v x y z, mkv m v x y z = .agg #[.int .i64 ep, v, .int .i64 p0, .int .i64 p1, .int .i64 p2, x, y, z]) := Lib.hid (fun v x y z => by rw [hep, hp0, hp1, hp2])
  rw [PQ.out] at OW
  rw [MQ.out]
  clear h hs hep hp0 hp1 hp2
  go_enter Try.func26, Try.ntmps26
  go_upto_region 1 with fail
  obtain ⟨bc, hbc⟩ : ∃ b, b = w.heap.size := ⟨_, rfl⟩
  obtain ⟨br, hbr⟩ : ∃ b, b = w.heap.size + 1 := ⟨_, rfl⟩
  obtain ⟨y, hy⟩ : ∃ y, y = w.alloc (.cells #[.int .i64 ep, .slice a0 n0 e0, .int .i64 p0, .int .i64 p1, .int .i64 p2, .slice a1 n1 e1, .slice a2 n2 e2, .slice a3 n3 e3] 33) := ⟨_, rfl⟩
  obtain ⟨y0, hy0⟩ : ∃ z, z = y.alloc (.cells #[.int .i64 0, .slice none 0 0, .int .i64 0, .int .i64 0, .int .i64 0, .slice none 0 0, .slice none 0 0, .slice none 0 0] 33) := ⟨_, rfl⟩
  have hbw : Below w.heap.size w y := by rw [hy]; exact below_new _ _
  have hby : Below y.heap.size y y0 := by rw [hy0]; exact below_new _ _
  have hys : y.heap.size = br := by rw [hy, size_new, hbr]
  have K0 : Hid (BoxAt bc [.int .i64 ep, .slice a0 n0 e0, .int .i64 p0, .int .i64 p1, .int .i64 p2, .slice a1 n1 e1, .slice a2 n2 e2, .slice a3 n3 e3] y0) := Lib.hid (by rw [hbc]; exact BoxAt.below (by rw [hy]; exact boxAt_new w [.int .i64 ep, .slice a0 n0 e0, .int .i64 p0, .int .i64 p1, .int .i64 p2, .slice a1 n1 e1, .slice a2 n2 e2, .slice a3 n3 e3] _) hby)
  have K1 : Hid (BoxAt br [.int .i64 0, .slice none 0 0, .int .i64 0, .int .i64 0, .int .i64 0, .slice none 0 0, .slice none 0 0, .slice none 0 0] y0) := Lib.hid (by rw [← hys, hy0]; exact boxAt_new y [.int .i64 0, .slice none 0 0, .int .i64 0, .int .i64 0, .int .i64 0, .slice none 0 0, .slice none 0 0, .slice none 0 0] _)
  have O0 : Hid (Open8 bc y0) := Lib.hid (by rw [hbc]; exact Open8.below (by rw [hy]; exact Open8.new _ _ _) hby)
  have O1 : Hid (Open8 br y0) := Lib.hid (by rw [← hys, hy0]; exact Open8.new _ _ _)
  have B0 := Lib.hid (below_step' hbw hby)
  have RR : Hid (w.heap.size ≤ bc ∧ w.heap.size ≤ br ∧ bc ≠ br) := Lib.hid (by omega)
  rw [← hy, ← hy0, ← hbr, ← hbc]
  clear hy hy0 hbw hby hys hbc hbr
  refine wp_region_held_drew (S := fun _ => True) (by kernel_rfl) ?_ (fun hHeld => ?_)
  · exact trivial
  obtain ⟨yb, hyb⟩ : ∃ y, y = y0.drew := ⟨_, rfl⟩
  rw [← hyb]
  have BYb : Hid (Below y0.heap.size y0 yb) := Lib.hid (by rw [hyb]; exact below_drewN (Below.refl _ y0) 1)
  clear hyb
  refine tq 0 ?_
  refine tq 3 ?_
  refine wpAnyH_group (n := 3) [1, 4, 2, 5, 6] 7 (phiW m yb (.slice a0 n0 e0) (.agg #[.int .i64 p0, .int .i64 p1, .int .i64 p2, .slice a1 n1 e1, .slice a2 n2 e2, .slice a3 n3 e3]) (.pointer (some ⟨bc, 1, none⟩))) (psiW m) (by kernel_rfl) (by kernel_rfl) (by kernel_rfl) (by kernel_rfl) (by kernel_rfl) (fun _ _ _ _ h hb => phiW_mono h hb) (fun _ _ _ _ _ _ h hb => psiW_mono h hb) ?step hHeld ?fin
  case step =>
    intro g hg o ho D vs a wx hD hgD hφ hψ hSx hbx hfr hdep K hK
    have BX := below_step' BYb.out hbx
    have BWX := below_step' B0.out BX
    have hwz := hbx.size
    simp only [List.mem_cons, List.not_mem_nil, or_false] at hg
    rcases hg with rfl | rfl | rfl | rfl | rfl
    · obtain rfl := Option.some.inj (show some _ = some o from ho)
      have t3 : a.tmps[3]? = _ := (hfr 3 (by decide)).trans rfl
      have kc := K0.out.below BX 1 _ rfl
      clear hψ hφ hdep hfr
      go_simp
      exact hK.out _ _ trivial (phiW1.2 rfl) (fun h _ => psiW_no (by decide) (by decide)) (Below.refl _ _)
    · obtain rfl := Option.some.inj (show some _ = some o from ho)
      have t6 : a.tmps[6]? = _ := (hfr 6 (by decide)).trans rfl
      have c2 := K0.out.below BX 2 _ rfl
      have c3 := K0.out.below BX 3 _ rfl
      have c4 := K0.out.below BX 4 _ rfl
      have c5 := K0.out.below BX 5 _ rfl
      have c6 := K0.out.below BX 6 _ rfl
      have c7 := K0.out.below BX 7 _ rfl
      clear hψ hφ hdep hfr
      go_simp
      exact hK.out _ _ trivial (phiW4.2 rfl) (fun h _ => psiW_no (by decide) (by decide)) (Below.refl _ _)
    · obtain rfl := Option.some.inj (show some _ = some o from ho)
      obtain ⟨hd, dd⟩ := hdep 1 (by simp) (ahead_mem (by kernel_rfl))
      have fd := phiW1.1 (hφ 1 hd)
      have td := dd 4 rfl
      rw [fd] at td
      have PH : Hid (∀ h ∈ D, phiW m yb (.slice a0 n0 e0) (.agg #[.int .i64 p0, .int .i64 p1, .int .i64 p2, .slice a1 n1 e1, .slice a2 n2 e2, .slice a3 n3 e3]) (.pointer (some ⟨bc, 1, none⟩)) h (vs h) wx) := Lib.hid hφ
      clear hψ hφ hdep hfr dd fd
      go_simp
      refine (CL.out _ BWX).mono ?_
      rintro e w' ⟨ua, uk, uc, rfl, hU, hb⟩
      refine hK.out _ _ trivial (phiW2.2 ⟨_, _, _, rfl, hU.wide (fun q _ (hq : wx.heap.size ≤ q) => Nat.le_trans hwz hq)⟩) (fun h hh => ⟨fun _ e5 => ?_, fun e => absurd e (by decide)⟩) hb
      subst e5
      obtain ⟨v1, v2, v3, ev, hv⟩ := phiW5.1 (PH.out 5 hh)
      refine ⟨fun q => wx.heap.size ≤ q, fun q => yb.heap.size ≤ q ∧ q < wx.heap.size, fun q h1 h2 => absurd h2.2 (Nat.not_lt.2 h1), hU, fun x1 x2 x3 ex => ?_⟩
      rw [ev, PQ.out, PQ.out] at ex
      simp only [Value.agg.injEq, Array.mk.injEq, List.cons.injEq, and_true, true_and] at ex
      obtain ⟨rfl, rfl, rfl⟩ := ex
      exact (hv.wide (P' := fun q => yb.heap.size ≤ q ∧ q < wx.heap.size) (fun q hq hq2 => ⟨hq2, hq⟩)).later hb
    · obtain rfl := Option.some.inj (show some _ = some o from ho)
      obtain ⟨hd, dd⟩ := hdep 4 (by simp) (ahead_mem (by kernel_rfl))
      have fd := phiW4.1 (hφ 4 hd)
      have td := dd 7 rfl
      rw [fd] at td
      have PH : Hid (∀ h ∈ D, phiW m yb (.slice a0 n0 e0) (.agg #[.int .i64 p0, .int .i64 p1, .int .i64 p2, .slice a1 n1 e1, .slice a2 n2 e2, .slice a3 n3 e3]) (.pointer (some ⟨bc, 1, none⟩)) h (vs h) wx) := Lib.hid hφ
      clear hψ hφ hdep hfr dd fd
      go_simp
      refine (OW.out _ BWX).mono ?_
      rintro e w' ⟨v1, v2, v3, rfl, hU, hb⟩
      refine hK.out _ _ trivial (phiW5.2 ⟨_, _, _, rfl, hU.wide (fun q _ (hq : wx.heap.size ≤ q) => Nat.le_trans hwz hq)⟩) (fun h hh => ⟨fun e => absurd e (by decide), fun _ e2 => ?_⟩) hb
      subst e2
      obtain ⟨x, k, c, ev, hv⟩ := phiW2.1 (PH.out 2 hh)
      refine ⟨fun q => yb.heap.size ≤ q ∧ q < wx.heap.size, fun q => wx.heap.size ≤ q, fun q h1 h2 => absurd h1.2 (Nat.not_lt.2 h2), (hv.wide (P' := fun q => yb.heap.size ≤ q ∧ q < wx.heap.size) (fun q hq hq2 => ⟨hq2, hq⟩)).later hb, fun x1 x2 x3 ex => ?_⟩
      rw [PQ.out, PQ.out] at ex
      simp only [Value.agg.injEq, Array.mk.injEq, List.cons.injEq, and_true, true_and] at ex
      obtain ⟨rfl, rfl, rfl⟩ := ex
      exact hU
    · obtain rfl := Option.some.inj (show some _ = some o from ho)
      have t1 : a.tmps[1]? = _ := (hfr 1 (by decide)).trans rfl
      clear hψ hφ hdep hfr
      go_simp
      exact hK.out _ _ trivial (phiW6.2 rfl) (fun h _ => psiW_no (by decide) (by decide)) (Below.refl _ _)
  case fin =>
    intro vs wx hSx hbx hφ hψ
    have l1 := phiW1.1 (hφ 1 (by simp))
    have l4 := phiW4.1 (hφ 4 (by simp))
    have l6 := phiW6.1 (hφ 6 (by simp))
    obtain ⟨u0, k0, f0, q2, hU⟩ := phiW2.1 (hφ 2 (by simp))
    obtain ⟨z1, z2, z3, q5, hP⟩ := phiW5.1 (hφ 5 (by simp))
    have hAp : ApW m (vs 2) (vs 5) wx := by
      rcases hψ 2 (by simp) 5 (by simp) (by decide) with h | h
      · exact h.1 rfl rfl
      · exact h.2 rfl rfl
    obtain ⟨P, Q, hPQ, hA, hB⟩ := hAp
    have hHL := (holdsL_one (hA.inter hU)).append ((hB _ _ _ q5).inter hP) (fun _ k a b => hPQ k a.1 b.1)
    rw [q2] at hHL
    obtain ⟨u1, u2, u3, k1, k2, k3, f1, f2, f3, ee1, ee2, ee3⟩ := pc_slices hP.weak
    subst ee1
    subst ee2
    subst ee3
    rw [PQ.out] at q5
    have HL := Lib.hid (hHL.wide (P' := fun q => yb.heap.size ≤ q) (fun q _ h => h.elim (·.2) (·.2)))
    have BX := Lib.hid (below_step' BYb.out hbx)
    change wpAnyH _ _ _ _ _ _ _ ((((((_ : Act).put (some 4) (vs 1)).put (some 7) (vs 4)).put (some 5) (vs 2)).put (some 8) (vs 5)).put (some 9) (vs 6)) _
    rw [l1, l4, l6, q2, q5]
    try simp only [Act.put, List.getElem_toArray, List.getElem_cons_zero, List.getElem_cons_succ, List.setIfInBounds_toArray, List.set_cons_zero, List.set_cons_succ]
    clear hφ hψ hU hP hA hB hPQ hHL l1 l4 l6 q2 q5 hbx hSx
    have OX := Lib.hid (O0.out.below BX.out)
    have OR := Lib.hid (O1.out.below BX.out)
    have KX := Lib.hid (K0.out.below BX.out)
    have KR := Lib.hid (K1.out.below BX.out)
    have c0 := KX.out 0 _ rfl
    have c1 := KX.out 1 _ rfl
    have c2 := KX.out 2 _ rfl
    have c3 := KX.out 3 _ rfl
    have c4 := KX.out 4 _ rfl
    have c5 := KX.out 5 _ rfl
    have c6 := KX.out 6 _ rfl
    have c7 := KX.out 7 _ rfl
    have g1 := OX.out.2 1
    have g2 := OX.out.2 2
    have g3 := OX.out.2 3
    have g4 := OX.out.2 4
    have g5 := OX.out.2 5
    have g6 := OX.out.2 6
    have g7 := OX.out.2 7
    refine rd 7 fun K hK => ?_
    go_simp
    refine hK.out _ _ ?_ (fun hHeld => ?_)
    · exact trivial
    clear hK K
    refine tq 8 ?_
    refine rd 9 fun K hK => ?_
    go_simp
    refine hK.out _ _ ?_ (fun hHeld => ?_)
    · exact trivial
    clear hK K
    refine wpAnyH_done (by kernel_rfl) ?_ _
    change Exit.then _ _ Exit.normal _ (setN wx bc 1 [.slice u0 k0 f0, .int .i64 p0, .int .i64 p1, .int .i64 p2, .slice u1 k1 f1, .slice u2 k2 f2, .slice u3 k3 f3])
    have OX1 : Hid (Open8 br (setN wx bc 1 [.slice u0 k0 f0, .int .i64 p0, .int .i64 p1, .int .i64 p2, .slice u1 k1 f1, .slice u2 k2 f2, .slice u3 k3 f3])) := Lib.hid OR.out.set
    have KX1 : Hid (BoxAt bc [.int .i64 ep, .slice u0 k0 f0, .int .i64 p0, .int .i64 p1, .int .i64 p2, .slice u1 k1 f1, .slice u2 k2 f2, .slice u3 k3 f3] (setN wx bc 1 [.slice u0 k0 f0, .int .i64 p0, .int .i64 p1, .int .i64 p2, .slice u1 k1 f1, .slice u2 k2 f2, .slice u3 k3 f3])) := Lib.hid (setN_box [.slice u0 k0 f0, .int .i64 p0, .int .i64 p1, .int .i64 p2, .slice u1 k1 f1, .slice u2 k2 f2, .slice u3 k3 f3] 1 _ wx KX.out (by simp))
    have KR1 : Hid (BoxAt br [.int .i64 0, .slice none 0 0, .int .i64 0, .int .i64 0, .int .i64 0, .slice none 0 0, .slice none 0 0, .slice none 0 0] (setN wx bc 1 [.slice u0 k0 f0, .int .i64 p0, .int .i64 p1, .int .i64 p2, .slice u1 k1 f1, .slice u2 k2 f2, .slice u3 k3 f3])) := Lib.hid (setN_far (Ne.symm RR.out.2.2) KR.out)
    have HL1 := Lib.hid (HL.out.same (setN_same (P := fun q => yb.heap.size ≤ q) (b := bc) (fun h => Nat.lt_irrefl _ (Nat.lt_of_lt_of_le (Nat.lt_of_lt_of_le O0.out.1 BYb.out.size) h)) [.slice u0 k0 f0, .int .i64 p0, .int .i64 p1, .int .i64 p2, .slice u1 k1 f1, .slice u2 k2 f2, .slice u3 k3 f3] 1 wx (SameOn.refl _ _)))
    have B1 := Lib.hid (setN_below RR.out.1 [.slice u0 k0 f0, .int .i64 p0, .int .i64 p1, .int .i64 p2, .slice u1 k1 f1, .slice u2 k2 f2, .slice u3 k3 f3] 1 wx (below_step' B0.out BX.out))
    obtain ⟨w1, hw1⟩ : ∃ x, x = setN wx bc 1 [.slice u0 k0 f0, .int .i64 p0, .int .i64 p1, .int .i64 p2, .slice u1 k1 f1, .slice u2 k2 f2, .slice u3 k3 f3] := ⟨_, rfl⟩
    rw [← hw1] at OX1 KX1 KR1 HL1 B1 ⊢
    clear hw1 c0 c1 c2 c3 c4 c5 c6 c7 g1 g2 g3 g4 g5 g6 g7 HL OX OR KX KR
    have c0 := KX1.out 0 _ rfl
    have c1 := KX1.out 1 _ rfl
    have c2 := KX1.out 2 _ rfl
    have c3 := KX1.out 3 _ rfl
    have c4 := KX1.out 4 _ rfl
    have c5 := KX1.out 5 _ rfl
    have c6 := KX1.out 6 _ rfl
    have c7 := KX1.out 7 _ rfl
    have r0 := KR1.out 0 _ rfl
    have r1 := KR1.out 1 _ rfl
    have r2 := KR1.out 2 _ rfl
    have r3 := KR1.out 3 _ rfl
    have r4 := KR1.out 4 _ rfl
    have r5 := KR1.out 5 _ rfl
    have r6 := KR1.out 6 _ rfl
    have r7 := KR1.out 7 _ rfl
    have g0 := OX1.out.2 0
    have g1 := OX1.out.2 1
    have g2 := OX1.out.2 2
    have g3 := OX1.out.2 3
    have g4 := OX1.out.2 4
    have g5 := OX1.out.2 5
    have g6 := OX1.out.2 6
    have g7 := OX1.out.2 7
    go_wp2_with fail
    change bodyPost _ _ _ Exit.ret _ (setN w1 br 0 [.int .i64 ep, .slice u0 k0 f0, .int .i64 p0, .int .i64 p1, .int .i64 p2, .slice u1 k1 f1, .slice u2 k2 f2, .slice u3 k3 f3])
    have HB : BoxAt br [.int .i64 ep, .slice u0 k0 f0, .int .i64 p0, .int .i64 p1, .int .i64 p2, .slice u1 k1 f1, .slice u2 k2 f2, .slice u3 k3 f3] (setN w1 br 0 [.int .i64 ep, .slice u0 k0 f0, .int .i64 p0, .int .i64 p1, .int .i64 p2, .slice u1 k1 f1, .slice u2 k2 f2, .slice u3 k3 f3]) := setN_box [.int .i64 ep, .slice u0 k0 f0, .int .i64 p0, .int .i64 p1, .int .i64 p2, .slice u1 k1 f1, .slice u2 k2 f2, .slice u3 k3 f3] 0 _ w1 KR1.out (by simp)
    have HL2 := (HL1.out.same (setN_same (P := fun q => yb.heap.size ≤ q) (b := br) (fun h => Nat.lt_irrefl _ (Nat.lt_of_lt_of_le (Nat.lt_of_lt_of_le O1.out.1 BYb.out.size) h)) [.int .i64 ep, .slice u0 k0 f0, .int .i64 p0, .int .i64 p1, .int .i64 p2, .slice u1 k1 f1, .slice u2 k2 f2, .slice u3 k3 f3] 0 w1 (SameOn.refl _ _))).wide (P' := fun q => w.heap.size ≤ q) (fun q _ h => Nat.le_trans (Nat.le_trans B0.out.size BYb.out.size) h)
    have B2 := setN_below RR.out.2.1 [.int .i64 ep, .slice u0 k0 f0, .int .i64 p0, .int .i64 p1, .int .i64 p2, .slice u1 k1 f1, .slice u2 k2 f2, .slice u3 k3 f3] 0 w1 B1.out
    exact bodyPost_ret (v := .agg #[.int .i64 ep, .slice u0 k0 f0, .int .i64 p0, .int .i64 p1, .int .i64 p2, .slice u1 k1 f1, .slice u2 k2 f2, .slice u3 k3 f3]) (by simp [results, Try.results26, go_sem, HB 0 _ rfl, HB 1 _ rfl, HB 2 _ rfl, HB 3 _ rfl, HB 4 _ rfl, HB 5 _ rfl, HB 6 _ rfl, HB 7 _ rfl]) rfl ⟨_, _, _, _, by rw [MQ.out], HL2, B2⟩
end Go.Proofs.Ytlhclnhdcenkhaa
