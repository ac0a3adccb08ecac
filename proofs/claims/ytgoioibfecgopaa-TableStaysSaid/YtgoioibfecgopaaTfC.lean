/- TableStays, walked. Written by gen_stays.py. -/
import Derived.Test.YtgoioibfecgopaaTfK
import Derived.Test.YtgoioibfecgopaaBa3
import Derived.BigQuiet
set_option linter.unusedSimpArgs false
namespace Go.Proofs.Ytgoioibfecgopaa
open Go.RowKit Go.PlainAid

/-- The course's box. -/
structure CB (w : World) (c0 c1 c2 : Int) (fa : Option Addr) (fl fc : Nat) (fs : List Int) (wr : World) : Prop where
  k0 : wr.cell? ⟨w.heap.size + 1, 0, none⟩ = some (.int .i64 c0)
  k1 : wr.cell? ⟨w.heap.size + 1, 1, none⟩ = some (.int .i64 c1)
  k2 : wr.cell? ⟨w.heap.size + 1, 2, none⟩ = some (.int .i64 c2)
  k3 : wr.cell? ⟨w.heap.size + 1, 3, none⟩ = some (.slice fa fl fc)
  hf : Holds False (fun k => k < w.heap.size) wr (.slice fa fl fc) (dInts fs)
theorem CB.below {w : World} {c0 c1 c2 : Int} {fa : Option Addr} {fl fc : Nat} {fs : List Int} {wr w' : World} (h : CB w c0 c1 c2 fa fl fc fs wr) (hb : Below wr.heap.size wr w') : CB w c0 c1 c2 fa fl fc fs w' := by
  have k := fun (p : Addr) (v : Value) (e : wr.cell? p = some v) => (hb.cell (World.block_lt_of_cell? wr _ e)).trans e
  exact ⟨k _ _ h.k0, k _ _ h.k1, k _ _ h.k2, k _ _ h.k3, h.hf.later hb⟩
theorem CB.set2 {w : World} {c0 c1 c2 : Int} {fa : Option Addr} {fl fc : Nat} {fs : List Int} {wr : World} (h : CB w c0 c1 c2 fa fl fc fs wr) (u u' : Value) : CB w c0 c1 c2 fa fl fc fs ((wr.setCell ⟨w.heap.size, 0, none⟩ u).setCell ⟨w.heap.size, 1, none⟩ u') := by
  have k := fun (o : Nat) (v : Value) (e : wr.cell? ⟨w.heap.size + 1, o, none⟩ = some v) => show ((wr.setCell ⟨w.heap.size, 0, none⟩ u).setCell ⟨w.heap.size, 1, none⟩ u').cell? ⟨w.heap.size + 1, o, none⟩ = some v by
    rw [World.cell?_setCell_other _ _ _ _ (by simp), World.cell?_setCell_other _ _ _ _ (by simp)]; exact e
  exact ⟨k _ _ h.k0, k _ _ h.k1, k _ _ h.k2, k _ _ h.k3, h.hf.same (((SameOn.refl _ _).set _ _ (by simp)).set _ _ (by simp))⟩

/-- A state that waits for a node stays so, whatever it takes, but of that one. -/
theorem stays_step {N : Int} {L : Lks} {M : Tab} (h : TabOK N L M) {n s : Nat} {x : Nd} (hx : M[n]? = some x) (hs : s < x.states.length) {on : Int} (hon : on ∈ (stAt M n s).waits) (f c : Int) (hf : f ≠ on) :
    ∃ s' : Nat, takenAt M n s f c = s' ∧ s' < x.states.length ∧ on ∈ (stAt M n s').waits := by
  obtain ⟨t, ht⟩ := some_of_lt hs
  have e : stAt M n s = t := by unfold stAt; rw [plAt_of hx ht]
  rw [e] at hon
  unfold takenAt
  rw [e]
  have hOK := h.2.2 n x hx
  have hT := (hOK.2.2.1 t (List.mem_of_getElem? ht)).2.2.2
  have hS := hOK.2.2.2 t (List.mem_of_getElem? ht)
  obtain ⟨i0, hi0⟩ := List.mem_iff_getElem?.1 hon
  have key : ∀ (l : List Tk), (∀ u ∈ l, u ∈ t.takes) → ∃ s' : Nat, takeFrom l s f c = s' ∧ s' < x.states.length ∧ on ∈ (stAt M n s').waits := by
    intro l
    induction l with
    | nil => intro _; exact ⟨s, rfl, hs, by rw [e]; exact hon⟩
    | cons u r ih =>
      intro hm
      unfold takeFrom
      split
      · next hu =>
        obtain ⟨j, hj⟩ := List.mem_iff_getElem?.1 (hm u (List.mem_cons_self ..))
        obtain ⟨_, hh, _⟩ := hT j u hj
        obtain ⟨q, hq⟩ := Int.eq_ofNat_of_zero_le hh.1
        have hql : q < x.states.length := by have h1 := hh.2; have h1 : u.next < (x.states.length : Int) := h1; omega
        obtain ⟨z, hz⟩ := some_of_lt hql
        refine ⟨q, hq, hql, ?_⟩
        have hw := hS j u hj i0 on hi0 (by rw [hu.1]; exact fun e => hf e.symm)
        have ez : stOf x.states u.next = z := by unfold stOf; rw [hq]; simp [List.getD, hz]
        rw [ez] at hw
        have e2 : stAt M n q = z := by unfold stAt; rw [plAt_of hx hz]
        rw [e2]; exact hw
      · exact ih (fun v hv => hm v (List.mem_cons_of_mem _ hv))
  exact key t.takes (fun u hu => hu)
theorem stays_mode {N : Int} {L : Lks} {M : Tab} (h : TabOK N L M) {n s : Nat} {x : Nd} (hx : M[n]? = some x) (hs : s < x.states.length) : ((stAt M n s).mode = 2 ↔ 0 < (stAt M n s).waits.length) ∧ (0 < (stAt M n s).waits.length → (stAt M n s).picks.length = 0) := by
  obtain ⟨t, ht⟩ := some_of_lt hs
  have e : stAt M n s = t := by unfold stAt; rw [plAt_of hx ht]
  rw [e]
  obtain ⟨_, hw, hp, _⟩ := (h.2.2 n x hx).2.2.1 t (List.mem_of_getElem? ht)
  refine ⟨hw.1, fun h0 => ?_⟩
  have h2 : t.mode = 2 := hw.1.2 h0
  by_cases h1 : t.picks.length = 0
  · exact h1
  · have := hp.2.1 (show 0 < t.picks.length by omega)
    have this : t.mode = 1 := this
    omega
theorem small_st {M : Tab} (h : SmallTab M) (n s : Int) : SmallSt (stAt M n s) := by
  rcases is_cases M n s with hn | ⟨n', s', x, t, rfl, rfl, hx, ht⟩
  · unfold stAt; rw [plAt_no hn]; simp [Pl.zero, St.zero, SmallSt]
  · unfold stAt; rw [plAt_of hx ht]; exact (h.2 x (List.mem_of_getElem? hx)).2 t (List.mem_of_getElem? ht)

set_option maxHeartbeats 8000000 in
set_option maxRecDepth 100000 in
theorem walkTableStays (v0 : Value) (M0 : Tab) (N0 : Int) (u0 : Value) (G0 : Lks) (c0 c1 c2 : Int) (cv : Value) (fs : List Int) (w : World) (wT : Has w v0 (dTab M0)) (wL0 : LinksAt w u0 G0) (wW0 : ∀ p ∈ G0, wfp p) (wF : Has w cv (dInts fs)) :
    Calls Try.prog 3 #[v0, .agg #[.int .i64 N0, u0], .agg #[.int .i64 c0, .int .i64 c1, .int .i64 c2, cv]] w fun e w' => e = .returned (.bool true) ∧ Below w.heap.size w w' := by
  obtain ⟨a, cap, hv⟩ := wL0.at
  subst hv
  have HL0 := Lib.hid wL0
  have HT0 := Lib.hid wT
  have HM := Lib.hid (linksAt_cut wL0)
  have hW := wf_take wW0
  have hMl := take_le G0
  obtain ⟨L, hLe⟩ : ∃ L, L = G0.take 40 := ⟨_, rfl⟩
  obtain ⟨M, hMe⟩ : ∃ M, M = cutT M0 := ⟨_, rfl⟩
  have HLe := Lib.hid hLe
  have HMe := Lib.hid hMe
  rw [← hLe] at HM hW hMl
  have HW := Lib.hid hW
  have hn6 : L.length ≤ 1000000 := by omega
  have hsm : SmallTab M := by rw [hMe]; exact cutT_small M0
  obtain ⟨r, hr⟩ := bool_some (TabOK N0 L M)
  have HR := Lib.hid hr
  obtain ⟨fa, fc, hcv⟩ := slice_of wF
  subst hcv
  obtain ⟨fl, hfl⟩ : ∃ fl, fl = fs.length := ⟨_, rfl⟩
  rw [← hfl] at wF ⊢
  have FL := Lib.hid hfl
  have HF := Lib.hid (Holds.wide (P' := fun k => k < w.heap.size) wF (fun b hb _ => hb))
  clear wF hfl
  clear wT wL0 wW0 hW hLe hMe hr
  go_enter Try.func3, Try.ntmps3
  try simp only [List.append_eq, List.cons_append, List.nil_append]
  go_wp2_with fail
  refine (cutT_at M0 _ _ (HT0.out.later (show Below w.heap.size w _ by go_grown))).mono ?_
  rintro e x0 ⟨u, rfl, hu, hb0⟩
  rw [← HMe.out] at hu
  have HC := Lib.hid hu
  have B0 := Lib.hid (below_step (by simp <;> omega) (show Below w.heap.size w _ by go_grown) hb0)
  have g0 : x0.cell? ⟨w.heap.size, 0, none⟩ = some (.int .i64 N0) := (hb0.cell (by simp <;> omega)).trans (by go_cell)
  have g1 : x0.cell? ⟨w.heap.size, 1, none⟩ = some (.slice a G0.length cap) := (hb0.cell (by simp <;> omega)).trans (by go_cell)
  have gb : Below (w.alloc (.cells #[.int .i64 N0, .slice a G0.length cap] 25)).heap.size (w.alloc (.cells #[.int .i64 N0, .slice a G0.length cap] 25)) x0 := below_step (by simp <;> omega) (show Below _ (w.alloc (.cells #[.int .i64 N0, .slice a G0.length cap] 25)) _ by go_grown) hb0
  have GB := Lib.hid gb
  have X := Lib.hid (show CB w c0 c1 c2 fa fl fc fs x0 from
    ⟨(hb0.cell (by simp <;> omega)).trans (by go_cell), (hb0.cell (by simp <;> omega)).trans (by go_cell), (hb0.cell (by simp <;> omega)).trans (by go_cell), (hb0.cell (by simp <;> omega)).trans (by go_cell), HF.out.later B0.out⟩)
  clear hu hb0 gb
  go_wp2_with fail
  refine (cut_at a cap G0 N0 _ (HL0.out.below B0.out)).mono ?_
  rintro e x1 ⟨rfl, hb⟩
  rw [← HLe.out]
  simp only [gv]
  replace HC := Lib.hid (HC.out.later hb)
  replace X := Lib.hid (X.out.below hb)
  obtain ⟨hbox, x2, hx2, hK⟩ := law_box (below_step GB.out.size GB.out hb) HM.out
  have q0 := hbox.1
  have q1 := hbox.2.1
  have q2 := hbox.2.2.1
  have q3 := hbox.2.2.2
  replace HC := Lib.hid (show Holds True (fun k => w.heap.size < k) x2 u (dTab M) from by
    rw [hx2]
    have h1 := HC.out.wide (P' := fun k => w.heap.size < k) (fun k _ hk => by have hk : ((w.alloc (.cells #[.int .i64 N0, .slice a G0.length cap] 25)).alloc (.cells #[.int .i64 c0, .int .i64 c1, .int .i64 c2, .slice fa fl fc] 28)).heap.size ≤ k := hk; simp at hk; omega)
    exact h1.same (((SameOn.refl _ _).set _ _ (fun h => by simp at h)).set _ _ (fun h => by simp at h)))
  have T := Lib.hid hK
  replace X := Lib.hid (show CB _ _ _ _ _ _ _ _ x2 from by rw [hx2]; exact X.out.set2 _ _)
  clear hb hbox hK g0 g1
  have z0 := T.out.b0
  have z1 := T.out.b1
  go_wp2_with fail
  rw [← hx2]
  clear hx2 q0 q1 q2 q3
  replace T := Lib.hid (T.out.below (below_drewN (Below.refl _ x2) 1))
  replace HC := Lib.hid (HC.out.later (below_drewN (Below.refl _ x2) 1))
  replace X := Lib.hid (X.out.below (below_drewN (Below.refl _ x2) 1))
  clear z0 z1
  refine wp_region_held_drew (S := (fun w' => w'.cell? ⟨w.heap.size, 0, none⟩ = some (.int .i64 N0) ∧ w'.cell? ⟨w.heap.size, 1, none⟩ = some (.slice a L.length cap))) (by kernel_rfl) ?_ (fun hHeld => ?_)
  · exact ⟨T.out.b0, T.out.b1⟩
  refine wpAnyH_take (i := 0) (v := ?_) rfl (by kernel_rfl) (by kernel_rfl) (by kernel_rfl) (fun _ _ _ h => h) (Or.inl ⟨by rfl, ?hy0⟩) (by assumption) ?_
  case hy0 => (intro w hSw; (try dsimp only at hSw); go_simp; try (with_reducible rfl))
  try simp only [Act.put, List.getElem_toArray, List.getElem_cons_zero, List.getElem_cons_succ, List.setIfInBounds_toArray, List.set_cons_zero, List.set_cons_succ]
  refine wpAnyH_take (i := 2) (v := ?_) rfl (by kernel_rfl) (by kernel_rfl) (by kernel_rfl) (fun _ _ _ h => h) (Or.inl ⟨by rfl, ?hy2⟩) (by assumption) ?_
  case hy2 => (intro w hSw; (try dsimp only at hSw); go_simp; try (with_reducible rfl))
  try simp only [Act.put, List.getElem_toArray, List.getElem_cons_zero, List.getElem_cons_succ, List.setIfInBounds_toArray, List.set_cons_zero, List.set_cons_succ]
  refine wpAnyH_ready (rs := [1]) (by kernel_rfl) (by simp) ?_
  refine AllReadyH.cons rfl (fun K hK => ?_) AllReadyH.nil
  go_simp
  refine (ref4_at M u _ HC.out.weak hsm).mono ?_
  rintro e x3 ⟨u2, rfl, hu2, hb⟩
  replace T := Lib.hid (T.out.below hb)
  replace HC := Lib.hid (HC.out.later hb)
  replace X := Lib.hid (X.out.below hb)
  have HR2 := Lib.hid hu2
  clear hu2 hb
  go_wp2_with fail
  refine hK.out _ _ ?_ (fun hHeld => ?_)
  · exact ⟨T.out.b0, T.out.b1⟩
  clear hK K
  try simp only [Act.put, List.getElem_toArray, List.getElem_cons_zero, List.getElem_cons_succ, List.setIfInBounds_toArray, List.set_cons_zero, List.set_cons_succ]
  refine wpAnyH_ready (rs := [3]) (by kernel_rfl) (by simp) ?_
  refine AllReadyH.cons rfl (fun K hK => ?_) AllReadyH.nil
  go_simp
  refine (ref_slice _ _ _ _ _).mono ?_
  rintro e x3 ⟨rfl, hb⟩
  replace T := Lib.hid (T.out.below hb)
  replace HC := Lib.hid (HC.out.later hb)
  replace X := Lib.hid (X.out.below hb)
  have HR2 := Lib.hid (HR2.out.later hb)
  clear hb
  go_wp2_with fail
  refine hK.out _ _ ?_ (fun hHeld => ?_)
  · exact ⟨T.out.b0, T.out.b1⟩
  clear hK K
  try simp only [Act.put, List.getElem_toArray, List.getElem_cons_zero, List.getElem_cons_succ, List.setIfInBounds_toArray, List.set_cons_zero, List.set_cons_succ]
  refine wpAnyH_ready (rs := [4]) (by kernel_rfl) (by simp) ?_
  refine AllReadyH.cons rfl (fun K hK => ?_) AllReadyH.nil
  go_simp
  refine (rright4_at N0 _ L M _ r _ HR2.out T.out.l hn6 hsm HR.out).mono ?_
  rintro e x4 ⟨rfl, hb⟩
  replace T := Lib.hid (T.out.below hb)
  replace HC := Lib.hid (HC.out.later hb)
  replace X := Lib.hid (X.out.below hb)
  clear hb
  go_wp2_with fail
  refine hK.out _ _ ?_ (fun hHeld => ?_)
  · exact ⟨T.out.b0, T.out.b1⟩
  clear hK K
  try simp only [Act.put, List.getElem_toArray, List.getElem_cons_zero, List.getElem_cons_succ, List.setIfInBounds_toArray, List.set_cons_zero, List.set_cons_succ]
  refine wpAnyH_take (i := 5) (v := ?_) rfl (by kernel_rfl) (by kernel_rfl) (by kernel_rfl) (fun _ _ _ h => h) (Or.inl ⟨by rfl, ?hy5⟩) (by assumption) ?_
  case hy5 => (intro w hSw; (try dsimp only at hSw); go_simp; try (with_reducible rfl))
  try simp only [Act.put, List.getElem_toArray, List.getElem_cons_zero, List.getElem_cons_succ, List.setIfInBounds_toArray, List.set_cons_zero, List.set_cons_succ]
  refine wpAnyH_done (by kernel_rfl) ?_ _
  by_cases hG : TabOK N0 L M
  · have hrt : r = true := HR.out.2 hG
    subst hrt
    obtain ⟨N, hN⟩ := Int.eq_ofNat_of_zero_le (show 0 ≤ N0 by have := hG.1.1; omega)
    subst hN
    have h6 : N ≤ 6 := by have := hG.1.2.1; omega
    have h1 : 1 ≤ N := by have := hG.1.1; omega
    have hML : M.length = N := by have := hG.2.1; omega
    have HG := Lib.hid hG
    obtain ⟨i0, n, m0, t0, l0⟩ := node_of c0 N h1
    obtain ⟨x, hx⟩ := some_of_lt (l := M) (i := n) (by rw [hML]; exact l0)
    have hxo := (HG.out.2.2 n x hx)
    obtain ⟨many, hmany⟩ : ∃ many, many = x.states.length := ⟨_, rfl⟩
    have hm1 : 1 ≤ many := by have := hxo.2.1.1; have := hxo.2.1.2; rw [hmany]; have h2 : x.start < (x.states.length : Int) := hxo.2.1.2; omega
    have hm8 : many ≤ 8 := by rw [hmany]; exact hxo.1
    obtain ⟨i1, s, m1, t1, l1⟩ := node_of c1 many hm1
    obtain ⟨mb, mo, mcap, vs, e, hmb, _, y0, y1, hS⟩ := nd_cells HC.out.weak hx
    obtain ⟨sa, sc, rfl⟩ := slice_of hS
    subst e
    rw [← hmany] at y1
    have Hx := Lib.hid hx
    have MN := Lib.hid hmany
    have ML := Lib.hid hML
    have z0 := T.out.b0
    have k0 := X.out.k0
    have k1 := X.out.k1
    have l0' : (n : Int) < (M.length : Int) := by rw [hML]; omega
    have l0'' : n < M.length := by rw [hML]; exact l0
    have hN0 : ¬ (N : Int) = 0 := by omega
    have hN0' : ¬ N = 0 := by omega
    have hmz : ¬ (many : Int) = 0 := by omega
    have hmz' : ¬ many = 0 := by omega
    clear hG hxo hx hmany hS y0
    go_wp2_with fail
    go_quiet (fail)
    have hb : Below x4.heap.size x4 (x4.drewN nq) := below_drewN (Below.refl _ x4) nq
    replace T := Lib.hid (T.out.below hb)
    replace HC := Lib.hid (show Holds True (fun k => w.heap.size < k) (x4.drewN nq) (.slice (some ⟨mb, mo, none⟩) N mcap) (dTab M) from by
      have h := HC.out.later hb
      rw [ML.out] at h
      exact h)
    replace X := Lib.hid (X.out.below hb)
    clear hb z0 k0 k1 y1
    obtain ⟨ws, hws⟩ : ∃ ws, ws = (stAt M n s).waits := ⟨_, rfl⟩
    have hsm1 : ws.length ≤ 1000000 := by rw [hws]; exact (small_st hsm n s).1
    have WS := Lib.hid hws
    clear hws
    go_wp2_with fail
    refine (waits_at M n s _ _ HC.out.weak (by rw [← WS.out]; exact hsm1)).mono ?_
    rintro e x5 ⟨u3, rfl, hu3, hb⟩
    rw [← WS.out] at hu3
    replace T := Lib.hid (T.out.below hb)
    replace HC := Lib.hid (HC.out.later hb)
    replace X := Lib.hid (X.out.below hb)
    clear hb
    have hu3 := hu3.weak
    obtain ⟨wa, wc, rfl⟩ := slice_of hu3
    obtain ⟨wn, hwn⟩ : ∃ wn, wn = ws.length := ⟨_, rfl⟩
    rw [← hwn] at hu3 hsm1 ⊢
    have WN := Lib.hid hwn
    have HU := Lib.hid hu3
    clear hwn hu3
    by_cases h0 : wn = 0
    · subst h0
      obtain ⟨md, hmd⟩ : ∃ md, md = (stAt M n s).mode := ⟨_, rfl⟩
      have hm2 : ¬ md = 2 := fun h => by
        have := (stays_mode HG.out Hx.out (by rw [← MN.out]; exact l1)).1.1 (by rw [← hmd]; exact h)
        rw [← WS.out, ← WN.out] at this
        omega
      have hm2' : (md == 2) = false := by simpa using hm2
      have MD := Lib.hid hmd
      clear hmd hm2
      go_wp2_with fail
      refine (mode_is M n s md _ _ HC.out.weak MD.out.symm).mono ?_
      rintro e x6 ⟨rfl, hb⟩
      replace T := Lib.hid (T.out.below hb)
      clear hb
      have hm3 : (md != 2) = true := by simp [bne, hm2']
      have hm4 : ¬ md = 2 := by simpa using hm2'
      go_wp2_with fail
      refine (fixed4_any _).mono ?_
      rintro e x7 ⟨rfl, hb⟩
      replace T := Lib.hid (T.out.below hb)
      clear hb
      go_wp2_with fail
      go_ret
      exact ⟨rfl, T.out.bel⟩
    · obtain ⟨i2, o, m2, t2, l2⟩ := node_of c2 wn (by omega)
      obtain ⟨on, hon⟩ := some_of_lt (l := ws) (i := o) (by rw [← WN.out]; exact l2)
      obtain ⟨wb, wo, wcap, e, hwb, q0⟩ := int_cells HU.out hon
      rw [← WN.out] at e
      simp only [Value.slice.injEq] at e
      obtain ⟨e, _, e2⟩ := e
      subst e e2
      have On := Lib.hid hon
      have k2 := X.out.k2
      have h0' : ¬ (wn : Int) = 0 := by omega
      have h0b : ((wn : Int) == 0) = false := by simpa using h0'
      clear hon
      have h0n : 0 < wn := by omega
      have hin0 : on ∈ (stAt M n s).waits := by rw [← WS.out]; exact List.mem_of_getElem? On.out
      go_wp2_with fail
      clear q0 k2
      go_loopw [8, 11] (fun s' i wr => ∃ k sx : Nat, i = .int .i64 k ∧ s' = .int .i64 sx ∧ k ≤ 30 ∧ sx < many ∧ on ∈ (stAt M n sx).waits ∧ KAt w N (.slice a L.length cap) L wr ∧ CB w c0 c1 c2 fa fl fc fs wr ∧ Holds True (fun k => w.heap.size < k) wr (.slice (some ⟨mb, mo, none⟩) N mcap) (dTab M)) (fun _ i _ => 30 - (intOf i).toNat)
      case atStart => exact ⟨0, s, rfl, rfl, by omega, l1, hin0, T.out, X.out, HC.out⟩
      case round =>
        obtain ⟨k, sx, rfl, rfl, hk, hsx, hin, hT, hX, hH⟩ := hrel
        have T := Lib.hid hT
        have X := Lib.hid hX
        have HC := Lib.hid hH
        clear hT hX hH
        have k3 := X.out.k3
        have z0 := T.out.b0
        by_cases hlt2 : k < 30
        · have hlt2' : (k : Int) < 30 := by omega
          by_cases hlt : k < fl
          · have hlt' : (k : Int) < fl := by omega
            obtain ⟨fv, hfv⟩ := some_of_lt (l := fs) (i := k) (by rw [← FL.out]; exact hlt)
            obtain ⟨fb, fo, fcap, e, hfb, q0⟩ := int_cells X.out.hf.weak hfv
            rw [← FL.out] at e
            simp only [Value.slice.injEq] at e
            obtain ⟨e, _, e2⟩ := e
            subst e e2
            obtain ⟨i3, f, m3, t3, l3⟩ := node_of fv N h1
            go_wp2_with fail
            go_quiet (fail)
            have hb : Below wr.heap.size wr (wr.drewN nq) := below_drewN (Below.refl _ wr) nq
            replace T := Lib.hid (T.out.below hb)
            replace HC := Lib.hid (HC.out.later hb)
            replace X := Lib.hid (X.out.below hb)
            clear hb z0 k3 q0
            by_cases hfo : (f : Int) = on
            · have hfo' : ((f : Int) == on) = true := by simpa using hfo
              go_wp2_with fail
              go_roundw
              case rel => exact ⟨k + 1, sx, by go_num, rfl, by omega, hsx, hin, T.out, X.out, HC.out⟩
              case measure => simp [intOf]; omega
            · have hfo' : ((f : Int) == on) = false := by simpa using hfo
              obtain ⟨s2, hs2, hs2l, hin2⟩ := stays_step HG.out Hx.out (by rw [← MN.out]; exact hsx) hin f ((k : Int).tmod 4) hfo
              rw [← MN.out] at hs2l
              have S2 := Lib.hid hs2
              have hsM := stays_mode HG.out Hx.out (by rw [← MN.out]; exact hs2l)
              have hw0 : 0 < (stAt M n s2).waits.length := List.length_pos_of_mem hin2
              have Hm := Lib.hid (hsM.1.2 hw0)
              have Hp := Lib.hid (hsM.2 hw0)
              have Hi := Lib.hid hin2
              clear hs2 hsM hw0 hin2
              go_wp2_with fail
              refine (taken_is M n sx f ((k : Int).tmod 4) s2 _ _ HC.out.weak (small_st hsm n sx).2.2.1 S2.out).mono ?_
              rintro e x8 ⟨rfl, hb⟩
              replace T := Lib.hid (T.out.below hb)
              replace HC := Lib.hid (HC.out.later hb)
              replace X := Lib.hid (X.out.below hb)
              clear hb
              go_wp2_with fail
              refine (picked_no M n s2 0 _ _ HC.out.weak (fun h => by rw [Hp.out] at h; omega)).mono ?_
              rintro e x9 ⟨rfl, hb⟩
              replace T := Lib.hid (T.out.below hb)
              replace HC := Lib.hid (HC.out.later hb)
              replace X := Lib.hid (X.out.below hb)
              clear hb
              try simp only [pkv]
              go_wp2_with fail
              refine (mode_is M n s2 2 _ _ (HC.out.later (show Below x9.heap.size x9 _ by go_grown)).weak Hm.out).mono ?_
              rintro e y0 ⟨rfl, hb⟩
              have hb := below_step (by simp) (show Below x9.heap.size x9 _ by go_grown) hb
              replace T := Lib.hid (T.out.below hb)
              replace HC := Lib.hid (HC.out.later hb)
              replace X := Lib.hid (X.out.below hb)
              clear hb
              go_wp2_with fail
              refine (waits_at M n s2 _ _ HC.out.weak (small_st hsm n s2).1).mono ?_
              rintro e y1 ⟨u4, rfl, hu4, hb⟩
              replace T := Lib.hid (T.out.below hb)
              replace HC := Lib.hid (HC.out.later hb)
              replace X := Lib.hid (X.out.below hb)
              clear hb
              have HU4 := Lib.hid hu4.weak
              clear hu4
              go_wp2_with fail
              refine (rin_yes u4 _ on _ HU4.out (small_st hsm n s2).1 Hi.out).mono ?_
              rintro e y2 ⟨rfl, hb⟩
              replace T := Lib.hid (T.out.below hb)
              replace HC := Lib.hid (HC.out.later hb)
              replace X := Lib.hid (X.out.below hb)
              clear hb
              go_wp2_with fail
              go_roundw
              case rel =>
                exact ⟨k + 1, s2, by go_num, rfl, by omega, hs2l, Hi.out, T.out, X.out, HC.out⟩
              case measure => simp [intOf]; omega
          · have hlt' : ¬ (k : Int) < fl := by omega
            go_wp2_with fail
            refine (fixed4_any _).mono ?_
            rintro e x7 ⟨rfl, hb⟩
            replace T := Lib.hid (T.out.below hb)
            clear hb
            go_wp2_with fail
            go_ret
            exact ⟨rfl, T.out.bel⟩
        · have hlt2' : ¬ (k : Int) < 30 := by omega
          have hk30 : k = 30 := by omega
          subst hk30
          by_cases hlt : 30 < fl
          · have hlt' : (30 : Int) < fl := by omega
            go_wp2_with fail
            refine (fixed4_any _).mono ?_
            rintro e x7 ⟨rfl, hb⟩
            replace T := Lib.hid (T.out.below hb)
            clear hb
            go_wp2_with fail
            go_ret
            exact ⟨rfl, T.out.bel⟩
          · have hlt' : ¬ (30 : Int) < fl := by omega
            go_wp2_with fail
            refine (fixed4_any _).mono ?_
            rintro e x7 ⟨rfl, hb⟩
            replace T := Lib.hid (T.out.below hb)
            clear hb
            go_wp2_with fail
            go_ret
            exact ⟨rfl, T.out.bel⟩
  · have hrf : r = false := by
      cases r with
      | false => rfl
      | true => exact absurd (HR.out.1 rfl) hG
    subst hrf
    clear hG
    have z0 := T.out.b0
    have z1 := T.out.b1
    go_wp2_with fail
    refine (tright_at N0 _ L M _ false _ HC.out.weak T.out.l HW.out hn6 hsm HR.out).mono ?_
    rintro e x5 ⟨rfl, hb⟩
    replace T := Lib.hid (T.out.below hb)
    clear hb z0 z1
    go_wp2_with fail
    refine (fixed4_any _).mono ?_
    rintro e x6 ⟨rfl, hb⟩
    replace T := Lib.hid (T.out.below hb)
    clear hb
    go_wp2_with fail
    go_ret
    exact ⟨rfl, T.out.bel⟩
end Go.Proofs.Ytgoioibfecgopaa
