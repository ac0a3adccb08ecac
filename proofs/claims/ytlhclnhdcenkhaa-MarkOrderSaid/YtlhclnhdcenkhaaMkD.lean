/- Marks: a link is closed, a message laid behind. -/
import Derived.Test.YtlhclnhdcenkhaaMkC
set_option linter.unusedSimpArgs false
set_option linter.unusedVariables false
set_option maxRecDepth 100000
namespace Go.Proofs.Ytlhclnhdcenkhaa
open Go.RowKit Go.PlainAid

theorem HoldsL.focus {P : Nat → Prop} {w : World} {cs : List Value} {ds : List D} {j : Nat} {c : Value} {d : D} (h : HoldsL True P w cs ds) (hc : cs[j]? = some c) (hd : ds[j]? = some d) :
    ∃ F : Nat → Prop, (∀ q, F q → P q) ∧ Holds True F w c d ∧ ∀ (w2 : World) (c2 : Value) (d2 : D) (F2 : Nat → Prop), SameOn (fun q => P q ∧ ¬ F q) w w2 → Holds True F2 w2 c2 d2 → (∀ q, F2 q → F q ∨ ¬ P q) →
      HoldsL True (fun q => P q ∨ F2 q) w2 (cs.set j c2) (ds.set j d2) := by
  obtain ⟨h0, fp, h1, h2, h3⟩ := h
  refine ⟨fp j, h1 j, h3 j c d hc hd, fun w2 c2 d2 F2 hs hh hf => ?_⟩
  refine ⟨by simp [h0], fun i q => if i = j then F2 q else fp i q, fun i q hq => ?_, fun _ i i' q a b => ?_, fun i c' d' hc' hd' => ?_⟩
  · dsimp only at hq
    split at hq
    · exact .inr hq
    · exact .inl (h1 _ _ hq)
  · dsimp only at a b
    split at a
    · next e =>
      subst e
      split at b
      · next e' => exact e'.symm
      · next e' => exact (hf _ a).elim (fun x => h2 trivial _ _ _ x b) (fun x => absurd (h1 _ _ b) x)
    · next e =>
      split at b
      · next e' => subst e'; exact (hf _ b).elim (fun x => h2 trivial _ _ _ a x) (fun x => absurd (h1 _ _ a) x)
      · exact h2 trivial _ _ _ a b
  · rw [List.getElem?_set] at hc' hd'
    by_cases e : j = i
    · subst e
      rw [if_pos rfl] at hc' hd'
      split at hc'
      · split at hd'
        · cases hc'; cases hd'; simp only [if_pos]; exact hh
        · cases hd'
      · cases hc'
    · rw [if_neg e] at hc' hd'
      have e' : ¬ i = j := fun x => e x.symm
      simp only [if_neg e']
      exact (h3 i c' d' hc' hd').same (hs.sub (fun q hq => ⟨h1 _ _ hq, fun x => e (h2 trivial _ _ _ x hq)⟩))
/-- The blocks below one. -/
def lowW (w : World) (B : Nat) : World := { w with heap := w.heap.extract 0 B }
theorem low_size {w : World} {B : Nat} (h : B ≤ w.heap.size) : (lowW w B).heap.size = B := by
  show (w.heap.extract 0 B).size = B
  rw [Array.size_extract]; omega
theorem low_below {w : World} {B : Nat} (h : B ≤ w.heap.size) : Below (lowW w B).heap.size (lowW w B) w := by
  refine ⟨rfl, rfl, rfl, by rw [low_size h]; exact h, fun k hk => ?_⟩
  rw [low_size h] at hk
  show w.heap[k]? = (w.heap.extract 0 B)[k]?
  rw [Array.getElem?_extract, if_pos (by omega), Nat.zero_add]
theorem low_back {w w' : World} {B : Nat} (h : B ≤ w.heap.size) (hb : Below (lowW w B).heap.size (lowW w B) w') (hs : w.heap.size ≤ w'.heap.size) : Below B w w' := by
  have h1 := low_below h
  rw [low_size h] at hb h1
  exact ⟨hb.os.trans h1.os.symm, hb.tape.trans h1.tape.symm, hb.output.trans h1.output.symm, hs, fun k hk => (hb.block k hk).trans (h1.block k hk).symm⟩
theorem SameOn.trans' {P : Nat → Prop} {a b c : World} (h : SameOn P a b) (h' : SameOn P b c) : SameOn P a c := ⟨Nat.le_trans h.1 h'.1, fun k p hb => (h'.2 k p (Nat.lt_of_lt_of_le hb h.1)).trans (h.2 k p hb)⟩
theorem dLinks_snoc (mm : Lks) (x : Int × Int) : D.row 2 (mm.map (fun p => [dI p.1, dI p.2]) ++ [[dI x.1, dI x.2]]) = dLinks (mm ++ [x]) := by unfold dLinks; rw [List.map_append]; rfl
theorem HoldsL.weak' (x : Int × Int) (w : World) : HoldsL True (fun _ => False) w [.int .i64 x.1, .int .i64 x.2] ([[dI x.1, dI x.2]] : List (List D)).flatten :=
  ⟨rfl, fun _ _ => False, fun _ _ h => h, fun _ _ _ _ h => h.elim, fun j c d hc hd => by
    match j, hc, hd with
    | 0, hc, hd => simp at hc hd; subst hc hd; exact has_int _ _ _ _
    | 1, hc, hd => simp at hc hd; subst hc hd; exact has_int _ _ _ _
    | j + 2, hc, hd => simp at hc⟩
def ClosTold (m : Mk) (v0 v1 v2 v3 : Value) (B : Nat) (w : World) (e : Ending) (w' : World) : Prop := e = .returned (.tuple #[]) ∧ HoldsL True (fun q => B ≤ q) w' [v0, v1, v2, v3] m.d ∧ Below B w w'
set_option maxHeartbeats 4000000 in
theorem closeM_at (m : Mk) (k ba B : Nat) (v0 v1 v2 v3 : Value) (w : World) (h : HoldsL True (fun q => B ≤ q) w [v0, v1, v2, v3] m.d) (hk : k < m.op.length) (hB : B ≤ w.heap.size) (ha : w.cell? ⟨ba, 0, none⟩ = some (.int .i64 (k : Int))) :
    Calls Try.prog 25 #[mkv m v0 v1 v2 v3, .pointer (some ⟨ba, 0, none⟩)] w (ClosTold (closeM m k) v0 v1 v2 v3 B w) := by
  obtain ⟨b, hb⟩ := some_of_lt hk
  obtain ⟨w1, hw1⟩ : ∃ x, x = w.alloc (.cells #[.int .i64 m.ep, v0, .int .i64 m.p.node, .int .i64 m.p.state, .int .i64 m.p.steps, v1, v2, v3] 33) := ⟨_, rfl⟩
  have hb1 : Below w.heap.size w w1 := by rw [hw1]; exact below_new _ _
  have hc1 : BoxAt w.heap.size [.int .i64 m.ep, v0, .int .i64 m.p.node, .int .i64 m.p.state, .int .i64 m.p.steps, v1, v2, v3] w1 := by rw [hw1]; exact boxAt_new w [.int .i64 m.ep, v0, .int .i64 m.p.node, .int .i64 m.p.state, .int .i64 m.p.steps, v1, v2, v3] _
  have hl := h.later hb1
  obtain ⟨F, hFP, hF, hFo⟩ := hl.focus (j := 0) rfl rfl
  obtain ⟨a0, a1, a2, a3, n0, n1, n2, n3, e0, e1, e2, e3, ee0, ee1, ee2, ee3⟩ := mk_slices h.weak
  subst ee0
  subst ee1
  subst ee2
  subst ee3
  obtain ⟨g, e, hFg, hgl, hc, hO, hset⟩ := bl_focus hF hb
  subst e
  have fg : w1.frozen? ⟨g, k, none⟩ = false := by
    obtain ⟨_, cur, e, hh, _⟩ := hO
    simp [World.frozen?, hh]
  have hn : k < n0 := by rw [bools_len hF]; exact hk
  have hn' : (k : Int) < n0 := by omega
  have hc0 := hc1 1 _ rfl
  have ha1 := (hb1.cell (World.block_lt_of_cell? w _ ha)).trans ha
  have RES : Hid (ClosTold (closeM m k) (.slice (some ⟨g, 0, none⟩) n0 e0) (.slice a1 n1 e1) (.slice a2 n2 e2) (.slice a3 n3 e3) B w (.returned (.tuple #[])) (w1.setCell ⟨g, k, none⟩ (.bool false))) := Lib.hid
    ⟨rfl, (hFo _ _ _ F ((SameOn.refl _ _).set _ _ (fun h => h.2 hFg)) (hset false) (fun _ h => .inl h)).wide (fun q _ h => h.elim id (hFP q)), (hb1.mono hB).setCell (hFP _ hFg) _⟩
  clear h hb hb1 hc1 hl hFP hF hFo hO hset ha hFg hk hn
  go_enter Try.func25, Try.ntmps25
  go_upto_region 1 with fail
  rw [← hw1]
  clear hw1
  go_wp2_with fail
  go_end0
  exact RES.out
def phiG (y : World) (ma : Option Addr) (ml mc : Nat) (x1 x2 : Int) (g : Nat) (v : Value) (w : World) : Prop :=
  if g = 9 then v = .slice ma ml mc else ∃ b, v = .slice (some ⟨b, 0, none⟩) 1 1 ∧ w.cell? ⟨b, 0, none⟩ = some (.int .i64 x1) ∧ w.cell? ⟨b, 1, none⟩ = some (.int .i64 x2) ∧ y.heap.size ≤ b
theorem phiG9 {y : World} {ma : Option Addr} {ml mc : Nat} {x1 x2 : Int} {v : Value} {w : World} : phiG y ma ml mc x1 x2 9 v w ↔ v = .slice ma ml mc := by unfold phiG; rw [if_pos rfl]
theorem phiG11 {y : World} {ma : Option Addr} {ml mc : Nat} {x1 x2 : Int} {v : Value} {w : World} : phiG y ma ml mc x1 x2 11 v w ↔ ∃ b, v = .slice (some ⟨b, 0, none⟩) 1 1 ∧ w.cell? ⟨b, 0, none⟩ = some (.int .i64 x1) ∧ w.cell? ⟨b, 1, none⟩ = some (.int .i64 x2) ∧ y.heap.size ≤ b := by unfold phiG; rw [if_neg (by decide)]
theorem phiG_mono {y : World} {ma : Option Addr} {ml mc : Nat} {x1 x2 : Int} {g : Nat} {v : Value} {w w' : World} (h : phiG y ma ml mc x1 x2 g v w) (hb : Below w.heap.size w w') : phiG y ma ml mc x1 x2 g v w' := by
  unfold phiG at *
  split
  · next e => rw [if_pos e] at h; exact h
  · next e =>
    rw [if_neg e] at h
    obtain ⟨b, e, h1, h2, h3⟩ := h
    exact ⟨b, e, (hb.cell (World.block_lt_of_cell? w _ h1)).trans h1, (hb.cell (World.block_lt_of_cell? w _ h2)).trans h2, h3⟩
set_option maxHeartbeats 8000000 in
theorem getM_at (m : Mk) (k ba bx B : Nat) (x : Int × Int) (v0 v1 v2 v3 : Value) (w : World) (h : HoldsL True (fun q => B ≤ q) w [v0, v1, v2, v3] m.d) (hs : SmallMk m) (hk : k < m.p.inn.length) (hB : B ≤ w.heap.size) (ha : w.cell? ⟨ba, 0, none⟩ = some (.int .i64 (k : Int)))
    (hx0 : w.cell? ⟨bx, 0, none⟩ = some (.int .i64 x.1)) (hx1 : w.cell? ⟨bx, 1, none⟩ = some (.int .i64 x.2)) (hba : ba < B) (hbx : bx < B) :
    Calls Try.prog 29 #[mkv m v0 v1 v2 v3, .pointer (some ⟨ba, 0, none⟩), .pointer (some ⟨bx, 0, none⟩)] w (ClosTold (getM m k x) v0 v1 v2 v3 B w) := by
  obtain ⟨mm, hmm⟩ := some_of_lt hk
  obtain ⟨w1, hw1⟩ : ∃ x, x = w.alloc (.cells #[.int .i64 m.ep, v0, .int .i64 m.p.node, .int .i64 m.p.state, .int .i64 m.p.steps, v1, v2, v3] 33) := ⟨_, rfl⟩
  have hb1 : Below w.heap.size w w1 := by rw [hw1]; exact below_new _ _
  have hc1 : BoxAt w.heap.size [.int .i64 m.ep, v0, .int .i64 m.p.node, .int .i64 m.p.state, .int .i64 m.p.steps, v1, v2, v3] w1 := by rw [hw1]; exact boxAt_new w [.int .i64 m.ep, v0, .int .i64 m.p.node, .int .i64 m.p.state, .int .i64 m.p.steps, v1, v2, v3] _
  have hl := (h.wide (P' := fun q => B ≤ q ∧ q < w.heap.size) (fun q hq h => ⟨h, hq⟩)).later hb1
  obtain ⟨F, hFP, hF, hFo⟩ := hl.focus (j := 2) rfl rfl
  obtain ⟨a0, a1, a2, a3, n0, n1, n2, n3, e0, e1, e2, e3, ee0, ee1, ee2, ee3⟩ := mk_slices h.weak
  subst ee0
  subst ee1
  subst ee2
  subst ee3
  have hn : k < n2 := by rw [lls_len hF]; exact hk
  have hn' : (k : Int) < n2 := by omega
  obtain ⟨g, Q, ma, mc, e, e9, hFg, hgl, hc, hO, hQF, hQg, hH, hset⟩ := lls_focus hF hmm
  clear e9
  subst e
  obtain ⟨ml, hml⟩ : ∃ n, n = mm.length := ⟨_, rfl⟩
  rw [← hml] at hc hH
  have fg : ∀ w', SameOn (fun q => q = g) w1 w' → w'.cell? ⟨g, k, none⟩ = some (.slice ma ml mc) ∧ w'.frozen? ⟨g, k, none⟩ = false := fun w' hs => by
    obtain ⟨_, cur, e, hh, _⟩ := hO
    exact ⟨(hs.cell (a := ⟨g, k, none⟩) rfl hgl).trans hc, by have := (hs.2 g rfl hgl).trans hh; simp [World.frozen?, this]⟩
  have hml6 : ml ≤ 1000000 := by rw [hml]; exact hs.p.im mm (List.mem_of_getElem? hmm)
  have GM : (getM m k x).d = m.d.set 2 (dLls (m.p.inn.set k (mm ++ [x]))) := by
    unfold Mk.d Pc.d getM
    simp [List.getD, hmm]
  obtain ⟨iq, hiq, hzq, hsq, hbq2⟩ := info_parts infoMsgI
  have hbx1 : w.heap.size < w1.heap.size := by rw [hw1, size_new]; omega
  have hbw : w.heap.size < w1.heap.size := by rw [hw1, size_new]; omega
  have qa : ¬ Q ba := fun h => by have := (hFP _ (hQF _ h)).1; omega
  have qx : ¬ Q bx := fun h => by have := (hFP _ (hQF _ h)).1; omega
  have qb : ¬ Q w.heap.size := fun h => by have := (hFP _ (hQF _ h)).2; omega
  have ha1 := (hb1.cell (World.block_lt_of_cell? w _ ha)).trans ha
  have hx01 := (hb1.cell (World.block_lt_of_cell? w _ hx0)).trans hx0
  have hx11 := (hb1.cell (World.block_lt_of_cell? w _ hx1)).trans hx1
  have hc6 := hc1 6 _ rfl
  have SS : Hid (∀ w', SameOn (fun q => ¬ Q q) w1 w' → w'.cell? ⟨w.heap.size, 6, none⟩ = some (.slice (some ⟨g, 0, none⟩) n2 e2) ∧ w'.cell? ⟨ba, 0, none⟩ = some (.int .i64 (k : Int)) ∧ w'.cell? ⟨bx, 0, none⟩ = some (.int .i64 x.1) ∧ w'.cell? ⟨bx, 1, none⟩ = some (.int .i64 x.2)) := Lib.hid (fun w' hs =>
    ⟨(hs.cell (a := ⟨w.heap.size, 6, none⟩) qb hbw).trans hc6, (hs.cell (a := ⟨ba, 0, none⟩) qa (World.block_lt_of_cell? w1 _ ha1)).trans ha1, (hs.cell (a := ⟨bx, 0, none⟩) qx (World.block_lt_of_cell? w1 _ hx01)).trans hx01, (hs.cell (a := ⟨bx, 1, none⟩) qx (World.block_lt_of_cell? w1 _ hx11)).trans hx11⟩)
  have GF : Hid (∀ w', SameOn (fun q => ¬ Q q) w1 w' → w'.cell? ⟨g, k, none⟩ = some (.slice ma ml mc) ∧ w'.frozen? ⟨g, k, none⟩ = false) := Lib.hid (fun w' hs => fg w' (hs.sub (fun q h => by subst h; exact hQg)))
  have NG : Hid (g ≠ w.heap.size ∧ g ≠ ba ∧ g ≠ bx) := Lib.hid (by have := hFP _ hFg; omega)
  have HH := Lib.hid hH
  have HSET := Lib.hid hset
  have HFO := Lib.hid hFo
  have HFP := Lib.hid hFP
  have HQF := Lib.hid hQF
  have HFG := Lib.hid hFg
  have HQG := Lib.hid hQg
  have GMH := Lib.hid GM
  have HL := Lib.hid hl
  have B1 := Lib.hid hb1
  have ML := Lib.hid hml
  have HB := Lib.hid hB
  clear h hl hb1 hc1 hFP hF hFo hc hO hQF hQg hH hset fg GM qa qx qb ha1 hx01 hx11 hc6 hFg hgl ha hx0 hx1 hba hbx hk hn hmm hml hs hB
  go_enter Try.func29, Try.ntmps29
  go_upto_region 1 with fail
  rw [← hw1]
  clear hw1
  refine wp_region_held_drew (S := (fun w' => w'.cell? ⟨w.heap.size, 6, none⟩ = some (.slice (some ⟨g, 0, none⟩) n2 e2) ∧ w'.cell? ⟨ba, 0, none⟩ = some (.int .i64 (k : Int)) ∧ w'.cell? ⟨bx, 0, none⟩ = some (.int .i64 x.1) ∧ w'.cell? ⟨bx, 1, none⟩ = some (.int .i64 x.2))) (by kernel_rfl) ?_ (fun hHeld => ?_)
  · exact SS.out _ (SameOn.of_below (below_drewN (Below.refl _ w1) 1))
  obtain ⟨yb, hyb⟩ : ∃ y, y = w1.drew := ⟨_, rfl⟩
  rw [← hyb] at hHeld ⊢
  have BYb : Hid (Below w1.heap.size w1 yb) := Lib.hid (by rw [hyb]; exact below_drewN (Below.refl _ w1) 1)
  clear hyb
  refine tq 0 ?_
  refine tq 3 ?_
  refine tq 4 ?_
  refine tq 7 ?_
  refine tq 10 ?_
  refine tq 1 ?_
  refine tq 5 ?_
  refine tq 2 ?_
  refine tq 6 ?_
  refine tq 8 ?_
  refine wpAnyH_group (n := 3) [9, 11] 12 (phiG yb ma ml mc x.1 x.2) (fun _ _ _ _ _ => True) (by kernel_rfl) (by kernel_rfl) (by kernel_rfl) (by kernel_rfl) (by kernel_rfl) (fun _ _ _ _ h hb => phiG_mono h hb) (fun _ _ _ _ _ _ _ _ => trivial) ?step hHeld ?fin
  case step =>
    intro gg hg o ho D vs a wx hD hgD hφ hψ hSx hbx hfr hdep K hK
    have BX := below_step' BYb.out hbx
    have hwz := hbx.size
    simp only [List.mem_cons, List.not_mem_nil, or_false] at hg
    rcases hg with rfl | rfl
    · obtain rfl := Option.some.inj (show some _ = some o from ho)
      have t12 : a.tmps[12]? = _ := (hfr 12 (by decide)).trans rfl
      have kc := (GF.out _ (SameOn.of_below BX)).1
      clear hψ hφ hdep hfr
      go_simp
      exact hK.out _ _ hSx (phiG9.2 rfl) (fun _ _ => trivial) (Below.refl _ _)
    · obtain rfl := Option.some.inj (show some _ = some o from ho)
      have t14 : a.tmps[14]? = _ := (hfr 14 (by decide)).trans rfl
      clear hψ hφ hdep hfr
      go_simp
      refine hK.out _ _ (SS.out _ (SameOn.of_below (below_step' BX (below_new _ _)))) (phiG11.2 ⟨_, rfl, ?_, ?_, hwz⟩) (fun _ _ => trivial) (below_new _ _)
      · exact boxAt_new wx [.int .i64 x.1, .int .i64 x.2] _ 0 _ rfl
      · exact boxAt_new wx [.int .i64 x.1, .int .i64 x.2] _ 1 _ rfl
  case fin =>
    intro vs wx hSx hbx hφ hψ
    have l9 := phiG9.1 (hφ 9 (by simp))
    obtain ⟨bn, l11, hn0, hn1, hbn⟩ := phiG11.1 (hφ 11 (by simp))
    have BX := Lib.hid (below_step' BYb.out hbx)
    change wpAnyH _ _ _ _ _ _ _ (((_ : Act).put (some 13) (vs 9)).put (some 15) (vs 11)) _
    rw [l9, l11]
    try simp only [Act.put, List.getElem_toArray, List.getElem_cons_zero, List.getElem_cons_succ, List.setIfInBounds_toArray, List.set_cons_zero, List.set_cons_succ]
    clear hφ hψ l9 l11 hbx hHeld
    have HNW : Hid (∀ a, some (⟨bn, 0, none⟩ : Addr) = some a → ∀ j u, [Value.int .i64 x.1, .int .i64 x.2][j]? = some u → wx.cell? (a.add j) = some u) := Lib.hid (fun a e j u hj => by
      cases e
      match j, hj with
      | 0, hj => simp at hj; subst hj; simpa [Addr.add] using hn0
      | 1, hj => simp at hj; subst hj; simpa [Addr.add] using hn1
      | j + 2, hj => simp at hj)
    have hBx : B ≤ wx.heap.size := Nat.le_trans HB.out (Nat.le_trans B1.out.size BX.out.size)
    have HBX := Lib.hid hBx
    clear hn0 hn1 hbn hBx
    refine rd 12 fun K hK => ?_
    refine appSK rfl _ _ 57 38 iq (.agg #[.int .i64 0, .int .i64 0]) 2 16 rfl Try.underlying57 hiq hzq hsq hbq2 rfl (by decide) Q (fun _ => False) (lowW wx B) (low_below HBX.out) (fun k hk => by rw [low_size HBX.out]; exact (HFP.out _ (HQF.out _ hk)).1) ma ml mc (mm.map (fun p => [dI p.1, dI p.2])) [[dI x.1, dI x.2]] 1 1 (ml + 1) rfl (HH.out.later BX.out) (some ⟨bn, 0, none⟩) rfl [.int .i64 x.1, .int .i64 x.2] HNW.out (fun e => by cases e) (by intro ds hds; rw [List.mem_singleton] at hds; subst hds; rfl) rfl (HoldsL.weak' x wx) (fun k hk => hk.elim) rfl (by unfold maxLen; omega) (by omega) ?_
    intro ao cv w8 hH8 hS8 hB8
    rw [dLinks_snoc] at hH8
    have S8 := Lib.hid ((SameOn.of_below (P := fun q => ¬ Q q) BX.out).trans' hS8)
    have HS := HSET.out w8 _ _ _ (S8.out.sub (fun q h => h.2)) hH8 (fun q hq => by
      rcases hq with h | h | h
      · exact ⟨fun e => by subst e; exact HQG.out h, .inl h⟩
      · exact h.elim
      · subst h
        have := BX.out.size
        have h2 := HFP.out _ HFG.out
        exact ⟨by omega, .inr (fun h => by have := HFP.out _ h; omega)⟩)
    have BL := low_back HBX.out hB8 hS8.1
    have k1 := (GF.out _ S8.out).1
    have k2 := (GF.out _ S8.out).2
    have RES : Hid (ClosTold (getM m k x) (.slice a0 n0 e0) (.slice a1 n1 e1) (.slice (some ⟨g, 0, none⟩) n2 e2) (.slice a3 n3 e3) B w (.returned (.tuple #[])) (w8.setCell ⟨g, k, none⟩ (.slice ao (ml + 1) cv))) := Lib.hid
      ⟨rfl, by
        rw [GMH.out]
        exact (HFO.out (w8.setCell ⟨g, k, none⟩ (.slice ao (ml + 1) cv)) _ _ _ (((S8.out.sub (fun q h hq => h.2 (HQF.out _ hq)))).set _ _ (fun h => h.2 HFG.out)) HS (fun q hq => by
          rcases hq with h | h | h | h
          · exact .inl h
          · exact .inl (HQF.out _ h)
          · exact h.elim
          · exact .inr (fun h' => by subst h; have := h'.2; have := BX.out.size; omega))).wide (fun q _ hq => by
            rcases hq with h | h | h | h | h
            · exact h.1
            · exact (HFP.out _ h).1
            · exact (HFP.out _ (HQF.out _ h)).1
            · exact h.elim
            · subst h; exact HBX.out), ((((B1.out.mono HB.out).trans (BX.out.mono (Nat.le_trans HB.out B1.out.size))).trans BL).setCell (HFP.out _ HFG.out).1 _)⟩
    have s8 := SS.out _ S8.out
    clear HS BL hH8 hS8 hB8
    refine hK.out _ _ ?_ (fun hHeld => ?_)
    · exact s8
    clear hK K
    refine tq 13 ?_
    refine rd 14 fun K hK => ?_
    go_simp
    refine hK.out _ _ ?_ (fun hHeld => ?_)
    · exact ⟨set_far (.inl NG.out.1) s8.1, set_far (.inl NG.out.2.1) s8.2.1, set_far (.inl NG.out.2.2) s8.2.2.1, set_far (.inl NG.out.2.2) s8.2.2.2⟩
    clear hK K
    refine wpAnyH_done (by kernel_rfl) ?_ _
    go_wp2_with fail
    go_end0
    exact RES.out
end Go.Proofs.Ytlhclnhdcenkhaa
