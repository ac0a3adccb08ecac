/- TableEach, walked. Written by gen_each.py. -/
import Derived.Test.YtgoioibfecgopaaTfP
import Derived.BigQuiet
import Derived.BigRegion
import Derived.Deep.CutRange
import Derived.Deep.CutBlock
set_option linter.unusedSimpArgs false
namespace Go.Proofs.Ytgoioibfecgopaa
open Go.RowKit Go.PlainAid

theorem one_intL (w : World) (x : Int) : HoldsL True (fun _ => False) w [.int .i64 x] [dI x] := by
  refine ⟨rfl, fun _ _ => False, fun _ _ h => h, fun _ _ _ _ h => h.elim, fun j c d hc hd => ?_⟩
  match j, hc, hd with
  | 0, hc, hd => simp at hc hd; subst hc hd; exact has_int _ _ _ _
  | j + 1, hc, hd => simp at hc
set_option maxHeartbeats 8000000 in
set_option maxRecDepth 100000 in
theorem walkTableEach (v0 : Value) (M0 : Tab) (N0 : Int) (u0 : Value) (G0 : Lks) (c0 c1 c2 : Int) (w : World) (wT : Has w v0 (dTab M0)) (wL0 : LinksAt w u0 G0) (wW0 : ∀ p ∈ G0, wfp p) :
    Calls Try.prog 5 #[v0, .agg #[.int .i64 N0, u0], .agg #[.int .i64 c0, .int .i64 c1, .int .i64 c2]] w fun e w' => e = .returned (.bool true) ∧ Below w.heap.size w w' := by
  obtain ⟨a, cap, hv⟩ := wL0.at
  subst hv
  have HL0 := Lib.hid wL0
  have HT0 := Lib.hid wT
  have HM := Lib.hid (linksAt_cut wL0)
  have hW := wf_take wW0
  have hMl := take_le G0
  obtain ⟨L, hLe⟩ : ∃ L, L = G0.take 40 := ⟨_, rfl⟩
  obtain ⟨M, hMe⟩ : ∃ M, M = cutT M0 := ⟨_, rfl⟩
  have HLe := Lib.hid hLe
  have HMe := Lib.hid hMe
  rw [← hLe] at HM hW hMl
  have HW := Lib.hid hW
  have hn6 : L.length ≤ 1000000 := by omega
  have hsm : SmallTab M := by rw [hMe]; exact cutT_small M0
  obtain ⟨r, hr⟩ := bool_some (TabOK N0 L M)
  have HR := Lib.hid hr
  clear wT wL0 wW0 hW hLe hMe hr
  go_enter Try.func5, Try.ntmps5
  try simp only [List.append_eq, List.cons_append, List.nil_append]
  go_wp2_with fail
  refine (cutT_at M0 _ _ (HT0.out.later (show Below w.heap.size w _ by go_grown))).mono ?_
  rintro e x0 ⟨u, rfl, hu, hb0⟩
  rw [← HMe.out] at hu
  have HC := Lib.hid hu
  have B0 := Lib.hid (below_step (by simp <;> omega) (show Below w.heap.size w _ by go_grown) hb0)
  have g0 : x0.cell? ⟨w.heap.size, 0, none⟩ = some (.int .i64 N0) := (hb0.cell (by simp <;> omega)).trans (by go_cell)
  have g1 : x0.cell? ⟨w.heap.size, 1, none⟩ = some (.slice a G0.length cap) := (hb0.cell (by simp <;> omega)).trans (by go_cell)
  have gb : Below (w.alloc (.cells #[.int .i64 N0, .slice a G0.length cap] 25)).heap.size (w.alloc (.cells #[.int .i64 N0, .slice a G0.length cap] 25)) x0 := below_step (by simp <;> omega) (show Below _ (w.alloc (.cells #[.int .i64 N0, .slice a G0.length cap] 25)) _ by go_grown) hb0
  have GB := Lib.hid gb
  have X := Lib.hid (show BoxAt (w.heap.size + 1) [.int .i64 c0, .int .i64 c1, .int .i64 c2] x0 from by
    have h := (boxAt_new (w.alloc (.cells #[.int .i64 N0, .slice a G0.length cap] 25)) [.int .i64 c0, .int .i64 c1, .int .i64 c2] 54).below hb0
    rw [size_alloc] at h
    exact h)
  clear hu hb0 gb
  go_wp2_with fail
  refine (cut_at a cap G0 N0 _ (HL0.out.below B0.out)).mono ?_
  rintro e x1 ⟨rfl, hb⟩
  rw [← HLe.out]
  simp only [gv]
  replace HC := Lib.hid (HC.out.later hb)
  replace X := Lib.hid (X.out.below hb)
  obtain ⟨hbox, x2, hx2, hK⟩ := law_box (below_step GB.out.size GB.out hb) HM.out
  have q0 := hbox.1
  have q1 := hbox.2.1
  have q2 := hbox.2.2.1
  have q3 := hbox.2.2.2
  replace HC := Lib.hid (show Holds True (fun k => w.heap.size < k) x2 u (dTab M) from by
    rw [hx2]
    have h1 := HC.out.wide (P' := fun k => w.heap.size < k) (fun k _ hk => by have hk : ((w.alloc (.cells #[.int .i64 N0, .slice a G0.length cap] 25)).alloc (.cells #[.int .i64 c0, .int .i64 c1, .int .i64 c2] 54)).heap.size ≤ k := hk; simp at hk; omega)
    exact h1.same (((SameOn.refl _ _).set _ _ (fun h => by simp at h)).set _ _ (fun h => by simp at h)))
  have T := Lib.hid hK
  replace X := Lib.hid (show BoxAt _ _ x2 from by rw [hx2]; exact X.out.set2 (by omega) _ _ _ _)
  clear hb hbox hK g0 g1
  have z0 := T.out.b0
  have z1 := T.out.b1
  go_wp2_with fail
  rw [← hx2]
  clear hx2 q0 q1 q2 q3
  replace T := Lib.hid (T.out.below (below_drewN (Below.refl _ x2) 1))
  replace HC := Lib.hid (HC.out.later (below_drewN (Below.refl _ x2) 1))
  replace X := Lib.hid (X.out.below (below_drewN (Below.refl _ x2) 1))
  clear z0 z1
  refine wp_region_held_drew (S := (fun w' => w'.cell? ⟨w.heap.size, 0, none⟩ = some (.int .i64 N0) ∧ w'.cell? ⟨w.heap.size, 1, none⟩ = some (.slice a L.length cap))) (by kernel_rfl) ?_ (fun hHeld => ?_)
  · exact ⟨T.out.b0, T.out.b1⟩
  refine wpAnyH_take (i := 0) (v := ?_) rfl (by kernel_rfl) (by kernel_rfl) (by kernel_rfl) (fun _ _ _ h => h) (.inl ⟨by rfl, ?h⟩) ‹_› ?_; case h => intro w hSw; (try dsimp only at hSw); go_simp; try (with_reducible rfl)
  refine wpAnyH_take (i := 2) (v := ?_) rfl (by kernel_rfl) (by kernel_rfl) (by kernel_rfl) (fun _ _ _ h => h) (.inl ⟨by rfl, ?h⟩) ‹_› ?_; case h => intro w hSw; (try dsimp only at hSw); go_simp; try (with_reducible rfl)
  try simp only [Act.put, List.getElem_toArray, List.getElem_cons_zero, List.getElem_cons_succ, List.setIfInBounds_toArray, List.set_cons_zero, List.set_cons_succ]
  refine wpAnyH_ready (rs := [1]) (by kernel_rfl) (by simp) ?_
  refine AllReadyH.cons rfl (fun K hK => ?_) AllReadyH.nil
  go_simp
  refine (ref4_at M u _ HC.out.weak hsm).mono ?_
  rintro e x3 ⟨u2, rfl, hu2, hb⟩
  replace T := Lib.hid (T.out.below hb)
  replace HC := Lib.hid (HC.out.later hb)
  replace X := Lib.hid (X.out.below hb)
  have HR2 := Lib.hid hu2
  clear hu2 hb
  go_wp2_with fail
  refine hK.out _ _ ?_ (fun hHeld => ?_)
  · exact ⟨T.out.b0, T.out.b1⟩
  clear hK K
  try simp only [Act.put, List.getElem_toArray, List.getElem_cons_zero, List.getElem_cons_succ, List.setIfInBounds_toArray, List.set_cons_zero, List.set_cons_succ]
  refine wpAnyH_ready (rs := [3]) (by kernel_rfl) (by simp) ?_
  refine AllReadyH.cons rfl (fun K hK => ?_) AllReadyH.nil
  go_simp
  refine (ref_slice _ _ _ _ _).mono ?_
  rintro e x3 ⟨rfl, hb⟩
  replace T := Lib.hid (T.out.below hb)
  replace HC := Lib.hid (HC.out.later hb)
  replace X := Lib.hid (X.out.below hb)
  have HR2 := Lib.hid (HR2.out.later hb)
  clear hb
  go_wp2_with fail
  refine hK.out _ _ ?_ (fun hHeld => ?_)
  · exact ⟨T.out.b0, T.out.b1⟩
  clear hK K
  try simp only [Act.put, List.getElem_toArray, List.getElem_cons_zero, List.getElem_cons_succ, List.setIfInBounds_toArray, List.set_cons_zero, List.set_cons_succ]
  refine wpAnyH_ready (rs := [4]) (by kernel_rfl) (by simp) ?_
  refine AllReadyH.cons rfl (fun K hK => ?_) AllReadyH.nil
  go_simp
  refine (rright4_at N0 _ L M _ r _ HR2.out T.out.l hn6 hsm HR.out).mono ?_
  rintro e x4 ⟨rfl, hb⟩
  replace T := Lib.hid (T.out.below hb)
  replace HC := Lib.hid (HC.out.later hb)
  replace X := Lib.hid (X.out.below hb)
  clear hb
  go_wp2_with fail
  refine hK.out _ _ ?_ (fun hHeld => ?_)
  · exact ⟨T.out.b0, T.out.b1⟩
  clear hK K
  try simp only [Act.put, List.getElem_toArray, List.getElem_cons_zero, List.getElem_cons_succ, List.setIfInBounds_toArray, List.set_cons_zero, List.set_cons_succ]
  refine wpAnyH_take (i := 5) (v := ?_) rfl (by kernel_rfl) (by kernel_rfl) (by kernel_rfl) (fun _ _ _ h => h) (.inl ⟨by rfl, ?h⟩) ‹_› ?_; case h => intro w hSw; (try dsimp only at hSw); go_simp; try (with_reducible rfl)
  try simp only [Act.put, List.getElem_toArray, List.getElem_cons_zero, List.getElem_cons_succ, List.setIfInBounds_toArray, List.set_cons_zero, List.set_cons_succ]
  refine wpAnyH_done (by kernel_rfl) ?_ _
  by_cases hG : TabOK N0 L M
  · have hrt : r = true := HR.out.2 hG
    subst hrt
    obtain ⟨N, hN⟩ := Int.eq_ofNat_of_zero_le (show 0 ≤ N0 by have := hG.1.1; omega)
    subst hN
    have h6 : N ≤ 6 := by have := hG.1.2.1; omega
    have h1 : 1 ≤ N := by have := hG.1.1; omega
    have hML : M.length = N := by have := hG.2.1; omega
    have HG := Lib.hid hG
    obtain ⟨i0, k, m0, t0, l0⟩ := node_of c0 N h1
    obtain ⟨x, hx⟩ := some_of_lt (l := M) (i := k) (by rw [hML]; exact l0)
    obtain ⟨mb, mo, mcap, vs, e, hmb, q5, q6, q7, q8⟩ := nd_cells HC.out.weak hx
    clear q5 q6 q7 q8
    subst e
    replace HC := Lib.hid (show Holds True (fun k => w.heap.size < k) x4 (.slice (some ⟨mb, mo, none⟩) N mcap) (dTab M) from by
      have h := HC.out
      rw [hML] at h
      exact h)
    rw [hML]
    have ML := Lib.hid hML
    obtain ⟨many, hmany⟩ : ∃ many, many = x.states.length := ⟨_, rfl⟩
    have hxo := hG.2.2 k x hx
    have hm1 : 1 ≤ many := by rw [hmany]; have h2 : x.start < (x.states.length : Int) := hxo.2.1.2; have := hxo.2.1.1; omega
    have hm8 : many ≤ 8 := by rw [hmany]; exact hxo.1
    obtain ⟨i1, s, m1, t1, l1⟩ := node_of c1 many hm1
    obtain ⟨t, ht⟩ := some_of_lt (l := x.states) (i := s) (by rw [← hmany]; exact l1)
    have hmo : mo = 0 := by
      obtain ⟨_, _, _, _, hmo, _⟩ := table_focus (HC.out.wide (P' := fun k => w.heap.size < k ∧ k < x4.heap.size) (fun k hk p => ⟨p, hk⟩)) (fun q hq => hq.2) hx ht
      exact hmo
    subst hmo
    have hcut := cut_short (by rw [← HMe.out]; exact hx) ht
    have SHORT := Lib.hid hcut
    have HIM := Lib.hid (lt_of_some hx)
    have HKX := Lib.hid (lt_of_some ht)
    have HT := Lib.hid ht
    have Hx := Lib.hid hx
    have MN := Lib.hid hmany
    have LK := Lib.hid T.out.l
    have z0 := T.out.b0
    have k0 := X.out 0 _ rfl
    have k1 := X.out 1 _ rfl
    obtain ⟨sa0, sc0, y1, _⟩ := nd_at HC.out.weak hx
    rw [← hmany, Nat.zero_add] at y1
    have hN0 : ¬ (N : Int) = 0 := by omega
    have hN0' : ¬ N = 0 := by omega
    have hmz : ¬ (many : Int) = 0 := by omega
    have hmz' : ¬ many = 0 := by omega
    obtain ⟨iq1, hi1, hz1, hs1, hby1⟩ := info_parts infoInt
    obtain ⟨iq2, hi2, hz2, hs2, hby2⟩ := info_parts infoPk
    obtain ⟨iq3, hi3, hz3, hs3, hby3⟩ := info_parts infoTk
    clear hG hx hML hmany hxo hmb hcut ht
    go_wp2_with fail
    go_quiet (fail)
    obtain ⟨y, hy⟩ : ∃ y, y = x4.drewN nq := ⟨_, rfl⟩
    have hbq : Below x4.heap.size x4 y := by rw [hy]; exact below_drewN (Below.refl _ x4) nq
    rw [← hy]
    have T4 := Lib.hid (T.out.below hbq)
    have X4 := Lib.hid (X.out.below hbq)
    have HCy := HC.out.later hbq
    have LKy := Lib.hid (LK.out.below hbq)
    clear hy hbq z0 k0 k1 y1
    obtain ⟨Q2, sb, sc, cs, _, hPm, hPs, hne, hcm, hcs, hOs, hQP, hQs, hQm, hLq, hE⟩ := table_focus (HCy.wide (P' := fun k => w.heap.size < k ∧ k < y.heap.size) (fun k hk p => ⟨p, hk⟩)) (fun q hq => hq.2) Hx.out HT.out
    obtain ⟨v1, v2, v3, P1, P2, P3, e, h1', h2', h3', p1, p2, p3, d12, d13, d23⟩ := st_openL hLq
    subst e
    obtain ⟨a1, e1, e⟩ := slice_of h1'.weak
    subst e
    obtain ⟨a2, e2, e⟩ := slice_of h2'.weak
    subst e
    obtain ⟨a3, e3, e⟩ := slice_of h3'.weak
    subst e
    obtain ⟨n1, hn1⟩ : ∃ n, n = t.waits.length := ⟨_, rfl⟩
    obtain ⟨n2, hn2⟩ : ∃ n, n = t.picks.length := ⟨_, rfl⟩
    obtain ⟨n3, hn3⟩ : ∃ n, n = t.takes.length := ⟨_, rfl⟩
    rw [← MN.out] at hcm
    have z0 := hcs 0 _ rfl
    have z1 := hcs 1 _ rfl
    have z2 := hcs 2 _ rfl
    have z3 := hcs 3 _ rfl
    rw [Nat.add_zero] at z0
    rw [← hn1] at h1' z1
    rw [← hn2] at h2' z2
    rw [← hn3] at h3' z3
    have HE := Lib.hid hE
    have HOS := Lib.hid hOs
    have H1 := Lib.hid h1'
    have H2 := Lib.hid h2'
    have H3 := Lib.hid h3'
    have D12 := Lib.hid d12
    have D13 := Lib.hid d13
    have D23 := Lib.hid d23
    have HP1Q := Lib.hid p1
    have HP2Q := Lib.hid p2
    have HP3Q := Lib.hid p3
    have HQy : Hid (∀ q, Q2 q → q < y.heap.size) := Lib.hid (fun q h => (hQP q h).2)
    have HQw : Hid (∀ q, Q2 q → w.heap.size ≤ q) := Lib.hid (fun q h => Nat.le_of_lt (hQP q h).1)
    have HP1w : Hid (∀ q, P1 q → w.heap.size ≤ q) := Lib.hid (fun q h => HQw.out q (p1 q h))
    have HP2w : Hid (∀ q, P2 q → w.heap.size ≤ q) := Lib.hid (fun q h => HQw.out q (p2 q h))
    have HP3w : Hid (∀ q, P3 q → w.heap.size ≤ q) := Lib.hid (fun q h => HQw.out q (p3 q h))
    have NP1 : Hid (¬ P1 y.heap.size) := Lib.hid (fun h => Nat.lt_irrefl _ (HQy.out _ (p1 _ h)))
    have NP2 : Hid (¬ P2 y.heap.size) := Lib.hid (fun h => Nat.lt_irrefl _ (HQy.out _ (p2 _ h)))
    have NP3 : Hid (¬ P3 y.heap.size) := Lib.hid (fun h => Nat.lt_irrefl _ (HQy.out _ (p3 _ h)))
    have NE1 := Lib.hid hn1
    have NE2 := Lib.hid hn2
    have NE3 := Lib.hid hn3
    have HQM := Lib.hid hQm
    have HQS := Lib.hid hQs
    have HPM := Lib.hid hPm
    have HPS := Lib.hid hPs
    have HNE := Lib.hid hne
    have HCM := Lib.hid hcm
    have HWy := Lib.hid (T4.out.bel.size)
    have BWY := Lib.hid T4.out.bel
    have CS0 := Lib.hid z0
    have CS1 := Lib.hid z1
    have CS2 := Lib.hid z2
    have CS3 := Lib.hid z3
    have HQl : Hid (∀ q, Q2 q → w.heap.size < q) := Lib.hid (fun q h => (hQP q h).1)
    clear hE hOs h1' h2' h3' d12 d13 d23 p1 p2 p3 hn1 hn2 hn3 hQm hQs hQP hPm hPs hne hLq hcs HCy
    go_upto_region 8 with fail
    obtain ⟨x7, hx7⟩ : ∃ x7, x7 = y.alloc (.cells #[.int .i64 t.mode, .slice a1 n1 e1, .slice a2 n2 e2, .slice a3 n3 e3] 58) := ⟨_, rfl⟩
    have hb7 : Below y.heap.size y x7 := by rw [hx7]; exact below_new _ _
    have hz7 : x7.heap.size = y.heap.size + 1 := by rw [hx7]; simp
    have PB := Lib.hid (show BoxAt y.heap.size [.int .i64 t.mode, .slice a1 n1 e1, .slice a2 n2 e2, .slice a3 n3 e3] x7 from by rw [hx7]; exact boxAt_new y [.int .i64 t.mode, .slice a1 n1 e1, .slice a2 n2 e2, .slice a3 n3 e3] _)
    have OB : Hid (OpenRow x7 y.heap.size 1 4) := Lib.hid (by rw [hx7]; exact ⟨by decide, _, _, heap_alloc_new y _, rfl⟩)
    have HB7 : Hid (y.heap.size < x7.heap.size) := Lib.hid (by rw [hz7]; exact Nat.lt_succ_self _)
    have Y7 := Lib.hid hb7
    have BWX := Lib.hid (below_step' BWY.out hb7)
    have M7 : Hid (x7.cell? ⟨mb, k * 2 + 1, none⟩ = some (.slice (some ⟨sb, 0, none⟩) many sc)) := Lib.hid ((hb7.cell (by exact HPM.out.2)).trans HCM.out)
    have HMB : Hid (mb < x7.heap.size) := Lib.hid (Nat.lt_of_lt_of_le HPM.out.2 hb7.size)
    rw [← hx7]
    clear hx7 hb7 hz7 hcm z0 z1 z2 z3
    have QS : Hid (∀ w', Below x7.heap.size x7 w' → w'.cell? ⟨mb, k * 2 + 1, none⟩ = some (.slice (some ⟨sb, 0, none⟩) many sc)) := Lib.hid (fun w' hb => (hb.cell (by exact HMB.out)).trans M7.out)
    have k2 := (X4.out.below Y7.out) 2 _ rfl
    have b0 := PB.out 0 _ rfl
    have b1 := PB.out 1 _ rfl
    have b2 := PB.out 2 _ rfl
    have b3 := PB.out 3 _ rfl
    have f0 := OB.out.frozen 0
    have f1 := OB.out.frozen 1
    have f2 := OB.out.frozen 2
    have f3 := OB.out.frozen 3
    obtain ⟨q, hq, hq8⟩ := and7 c2
    go_upto_block 0 with fail
    go_cut [] from 54 to 120 (fun wq => EachR w y Q2 (fun s' => ¬ TabOK N L (setSt M k s x s')) wq)
    case first =>
      have hqq : q = 0 ∨ q = 1 ∨ q = 2 ∨ q = 3 ∨ q = 4 ∨ q = 5 ∨ q = 6 ∨ q = 7 := by omega
      clear hq8 hq
      rcases hqq with rfl | rfl | rfl | rfl | rfl | rfl | rfl | rfl
      · go_wp2_with fail
        go_meet
        refine armR (R := fun _ => False) (vs := [.int .i64 t.mode, .slice a1 n1 e1, .slice a2 n2 e2, .slice a3 n3 e3]) (s' := ⟨3, t.waits, t.picks, t.takes⟩) (v1 := .slice a1 n1 e1) (v2 := .slice a2 n2 e2) (v3 := .slice a3 n3 e3) HQy.out HWy.out Y7.out HB7.out PB.out (fun _ h => h.elim) (SameOn.refl _ _) BWX.out rfl ?_ ?_ ?_
        · exact st_mkL (s := ⟨3, t.waits, t.picks, t.takes⟩) (H1.out.later Y7.out) (H2.out.later Y7.out) (H3.out.later Y7.out) (fun q hq => ⟨.inl (HP1Q.out q hq), fun e => NP1.out (by rw [← e]; exact hq)⟩) (fun q hq => ⟨.inl (HP2Q.out q hq), fun e => NP2.out (by rw [← e]; exact hq)⟩) (fun q hq => ⟨.inl (HP3Q.out q hq), fun e => NP3.out (by rw [← e]; exact hq)⟩) D12.out D13.out D23.out
        · have hc := SHORT.out
          exact ⟨by show t.waits.length ≤ _; omega, by show t.picks.length ≤ _; omega, by show t.takes.length ≤ _; omega, fun p hp => by have := hc.2.2.2 p hp; omega⟩
        · exact bad_of HIM.out HKX.out (bad_mode (by simp))
      · go_wp2_with (at_builtin; refine appLK rfl _ _ 26 3 iq1 (.int .i64 0) 1 8 rfl Try.underlying26 hi1 hz1 hs1 hby1 rfl (by decide) P1 (fun _ => False) w (below_step BWX.out.size BWX.out (below_new x7 _)) HP1w.out a1 n1 e1 (t.waits.map (fun a => [dI a])) [[dI (k : Int)]] 1 1 (n1 + 1) rfl (H1.out.later (below_step' Y7.out (below_new x7 _))) (some ⟨x7.heap.size, 0, none⟩) rfl [.int .i64 k] (news_new (w := x7) (vs := [.int .i64 k])) (fun h => by cases h) (by intro ds hds; simp [Pk.d, Tk.d] at hds; (try rcases hds with rfl | rfl); all_goals (first | rfl | (subst hds; rfl) | simp_all)) rfl (by rw [List.flatten_cons, List.flatten_nil, List.append_nil]; exact one_intL _ _) (fun _ h => h.elim) rfl ?c1 ?c2 ?_)
        case c1 => unfold maxLen; have := SHORT.out; have := NE1.out; have := NE2.out; have := NE3.out; omega
        case c2 => have := SHORT.out; have := NE1.out; have := NE2.out; have := NE3.out; omega
        intro ao cv w6 hA hS hB6
        have hSx : SameOn (fun q => ¬ P1 q) x7 w6 := (SameOn.of_below (show Below x7.heap.size x7 _ by go_grown)).trans hS
        have c6 : w6.cell? ⟨y.heap.size, 1, none⟩ = some (.slice a1 n1 e1) := PB.out.same hSx NP1.out 1 _ rfl
        have f6 : w6.frozen? ⟨y.heap.size, 1, none⟩ = false := (hSx.frozen (a := ⟨y.heap.size, 1, none⟩) NP1.out HB7.out).trans (OB.out.frozen _)
        have HA := Lib.hid hA
        have HS := Lib.hid hSx
        have BW6 := Lib.hid hB6
        clear hA hS hSx hB6
        go_wp2_with fail
        go_meet
        have hh2 := (H2.out.later Y7.out).same (HS.out.sub (fun q hq h => D12.out q h hq))
        have hh3 := (H3.out.later Y7.out).same (HS.out.sub (fun q hq h => D13.out q h hq))
        obtain ⟨PX, hPX, hhn⟩ : ∃ PX : Nat → Prop, (∀ q, PX q → P1 q ∨ x7.heap.size ≤ q) ∧ Holds True PX w6 (.slice ao (n1 + 1) cv) (dInts (t.waits ++ [(k : Int)])) := by
          refine ⟨_, ?_, by unfold dInts; rw [List.map_append]; exact HA.out⟩
          intro q hq
          rcases hq with h | h
          · exact .inl h
          · right; first | omega | (simp at h; omega)
        refine armR (R := P1) (vs := [.int .i64 t.mode, .slice a1 n1 e1, .slice a2 n2 e2, .slice a3 n3 e3]) (s' := ⟨t.mode, t.waits ++ [(k : Int)], t.picks, t.takes⟩) (v1 := .slice ao (n1 + 1) cv) (v2 := .slice a2 n2 e2) (v3 := .slice a3 n3 e3) HQy.out HWy.out Y7.out HB7.out PB.out HP1Q.out HS.out BW6.out rfl ?_ ?_ ?_
        · exact st_mkL (s := ⟨t.mode, t.waits ++ [(k : Int)], t.picks, t.takes⟩) hhn hh2 hh3 (fun q hq => (hPX q hq).elim (fun h => ⟨.inl (HP1Q.out q h), fun e => NP1.out (by rw [← e]; exact h)⟩) (fun h => ⟨.inr (by have := HB7.out; omega), by have := HB7.out; omega⟩)) (fun q hq => ⟨.inl (HP2Q.out q hq), fun e => NP2.out (by rw [← e]; exact hq)⟩) (fun q hq => ⟨.inl (HP3Q.out q hq), fun e => NP3.out (by rw [← e]; exact hq)⟩) (fun q hq h => (hPX q hq).elim (fun h2 => D12.out q h2 h) (fun h2 => by have := HQy.out q (HP2Q.out q h); have := HB7.out; omega)) (fun q hq h => (hPX q hq).elim (fun h2 => D13.out q h2 h) (fun h2 => by have := HQy.out q (HP3Q.out q h); have := HB7.out; omega)) D23.out
        · have hc := SHORT.out
          exact ⟨by simp; omega, by show t.picks.length ≤ _; omega, by show t.takes.length ≤ _; omega, fun p hp => by have := hc.2.2.2 p hp; omega⟩
        · exact bad_of HIM.out HKX.out (bad_waits (no_self HG.out.1 _))
      · go_wp2_with fail
        refine wp_region_held_drew (S := (fun w' => w'.cell? ⟨mb, k * 2 + 1, none⟩ = some (.slice (some ⟨sb, 0, none⟩) many sc))) (by kernel_rfl) ?_ (fun hHeld => ?_)
        · exact QS.out _ (below_drewN (Below.refl _ x7) 1)
        refine wpAnyH_take (i := 0) (v := ?_) rfl (by kernel_rfl) (by kernel_rfl) (by kernel_rfl) (fun _ _ _ h => h) (.inl ⟨by rfl, ?h⟩) ‹_› ?_; case h => intro w hSw; (try dsimp only at hSw); go_simp; try (with_reducible rfl)
        refine wpAnyH_take (i := 2) (v := ?_) rfl (by kernel_rfl) (by kernel_rfl) (by kernel_rfl) (fun _ _ _ h => h) (.inl ⟨by rfl, ?h⟩) ‹_› ?_; case h => intro w hSw; (try dsimp only at hSw); go_simp; try (with_reducible rfl)
        refine wpAnyH_take (i := 3) (v := ?_) rfl (by kernel_rfl) (by kernel_rfl) (by kernel_rfl) (fun _ _ _ h => h) (.inl ⟨by rfl, ?h⟩) ‹_› ?_; case h => intro w hSw; (try dsimp only at hSw); go_simp; try (with_reducible rfl)
        refine wpAnyH_take (i := 4) (v := ?_) rfl (by kernel_rfl) (by kernel_rfl) (by kernel_rfl) (fun _ _ _ h => h) (.inl ⟨by rfl, ?h⟩) ‹_› ?_; case h => intro w hSw; (try dsimp only at hSw); go_simp; try (with_reducible rfl)
        refine wpAnyH_take (i := 5) (v := ?_) rfl (by kernel_rfl) (by kernel_rfl) (by kernel_rfl) (fun _ _ _ h => h) (.inl ⟨by rfl, ?h⟩) ‹_› ?_; case h => intro w hSw; (try dsimp only at hSw); go_simp; try (with_reducible rfl)
        refine wpAnyH_take (i := 6) (v := ?_) rfl (by kernel_rfl) (by kernel_rfl) (by kernel_rfl) (fun _ _ _ h => h) (.inl ⟨by rfl, ?h⟩) ‹_› ?_; case h => intro w hSw; (try dsimp only at hSw); go_simp; try (with_reducible rfl)
        refine wpAnyH_take (i := 7) (v := ?_) rfl (by kernel_rfl) (by kernel_rfl) (by kernel_rfl) (fun _ _ _ h => h) (.inl ⟨by rfl, ?h⟩) ‹_› ?_; case h => intro w hSw; (try dsimp only at hSw); go_simp; try (with_reducible rfl)
        refine wpAnyH_take (i := 8) (v := ?_) rfl (by kernel_rfl) (by kernel_rfl) (by kernel_rfl) (fun _ _ _ h => h) (.inl ⟨by rfl, ?h⟩) ‹_› ?_; case h => intro w hSw; (try dsimp only at hSw); go_simp; try (with_reducible rfl)
        try simp only [Act.put, List.getElem_toArray, List.getElem_cons_zero, List.getElem_cons_succ, List.setIfInBounds_toArray, List.set_cons_zero, List.set_cons_succ]
        refine wpAnyH_ready (rs := [1, 9]) (by kernel_rfl) (by simp) ?_
        refine AllReadyH.cons rfl (fun K hK => ?_) (AllReadyH.cons rfl (fun K hK => ?_) AllReadyH.nil)
        · have b2' : (x7.drew).cell? ⟨y.heap.size, 2, none⟩ = some (.slice a2 n2 e2) := PB.out.below (below_drewN (Below.refl _ x7) 1) 2 _ rfl
          go_simp
          refine hK.out _ _ ?_ (fun hHeld => ?_)
          · exact QS.out _ (by go_grown)
          clear hK K
          try simp only [Act.put, List.getElem_toArray, List.getElem_cons_zero, List.getElem_cons_succ, List.setIfInBounds_toArray, List.set_cons_zero, List.set_cons_succ]
          refine wpAnyH_ready (rs := [9]) (by kernel_rfl) (by simp) ?_
          refine AllReadyH.cons rfl (fun K hK => ?_) AllReadyH.nil
          go_simp
          refine hK.out _ _ ?_ (fun hHeld => ?_)
          · exact QS.out _ (by go_grown)
          clear hK K
          try simp only [Act.put, List.getElem_toArray, List.getElem_cons_zero, List.getElem_cons_succ, List.setIfInBounds_toArray, List.set_cons_zero, List.set_cons_succ]
          refine wpAnyH_ready (rs := [10]) (by kernel_rfl) (by simp) ?_
          refine AllReadyH.cons rfl (fun K hK => ?_) AllReadyH.nil
          refine appSK (by rfl) _ _ 55 46 iq2 (.agg #[.int .i64 0, .slice none 0 0]) 2 32 rfl Try.underlying55 hi2 hz2 hs2 hby2 rfl (by decide) P2 (fun _ => False) w (below_step BWX.out.size BWX.out (show Below x7.heap.size x7 (x7.alloc (.cells #[.int .i64 many, .slice none 0 0] 46)).drew from below_drewN (below_new x7 _) 1)) HP2w.out a2 n2 e2 (t.picks.map Pk.d) [(Pk.mk many []).d] 1 1 (n2 + 1) rfl (H2.out.later (below_step' Y7.out (show Below x7.heap.size x7 (x7.alloc (.cells #[.int .i64 many, .slice none 0 0] 46)).drew from below_drewN (below_new x7 _) 1))) (some ⟨x7.heap.size, 0, none⟩) (by rfl) [.int .i64 many, .slice none 0 0] (news_new (w := x7) (vs := [.int .i64 many, .slice none 0 0])) (fun h => by cases h) (by intro ds hds; simp [Pk.d, Tk.d] at hds; (try rcases hds with rfl | rfl); all_goals (first | rfl | (subst hds; rfl) | simp_all)) rfl (by rw [List.flatten_cons, List.flatten_nil, List.append_nil]; exact pk_zeroL _ _) (fun _ h => h.elim) rfl (by unfold maxLen; have := SHORT.out; have := NE2.out; omega) (by have := SHORT.out; have := NE2.out; omega) ?_
          intro ao cv w6 hA hS hB6
          have hSx : SameOn (fun q => ¬ P2 q) x7 w6 := (SameOn.of_below (show Below x7.heap.size x7 (x7.alloc (.cells #[.int .i64 many, .slice none 0 0] 46)).drew from below_drewN (below_new x7 _) 1)).trans hS
          have c6 : w6.cell? ⟨y.heap.size, 2, none⟩ = some (.slice a2 n2 e2) := PB.out.same hSx NP2.out 2 _ rfl
          have f6 : w6.frozen? ⟨y.heap.size, 2, none⟩ = false := (hSx.frozen (a := ⟨y.heap.size, 2, none⟩) NP2.out HB7.out).trans (OB.out.frozen _)
          have g6 : w6.cell? ⟨mb, k * 2 + 1, none⟩ = some (.slice (some ⟨sb, 0, none⟩) many sc) := (hSx.cell (a := ⟨mb, k * 2 + 1, none⟩) (fun h => HQM.out (HP2Q.out _ h)) HMB.out).trans M7.out
          have HA := Lib.hid hA
          have HS := Lib.hid hSx
          have BW6 := Lib.hid hB6
          have G6 := Lib.hid g6
          clear hA hS hSx hB6 g6
          refine hK.out _ _ ?_ (fun hHeld => ?_)
          · exact G6.out
          clear hK K
          try simp only [Act.put, List.getElem_toArray, List.getElem_cons_zero, List.getElem_cons_succ, List.setIfInBounds_toArray, List.set_cons_zero, List.set_cons_succ]
          refine wpAnyH_take (i := 11) (v := ?_) rfl (by kernel_rfl) (by kernel_rfl) (by kernel_rfl) (fun _ _ _ h => h) (.inl ⟨by rfl, ?h⟩) ‹_› ?_; case h => intro w hSw; (try dsimp only at hSw); go_simp; try (with_reducible rfl)
          try simp only [Act.put, List.getElem_toArray, List.getElem_cons_zero, List.getElem_cons_succ, List.setIfInBounds_toArray, List.set_cons_zero, List.set_cons_succ]
          refine wpAnyH_ready (rs := [12]) (by kernel_rfl) (by simp) ?_
          refine AllReadyH.cons rfl (fun K hK => ?_) AllReadyH.nil
          go_simp
          refine hK.out _ _ ?_ (fun hHeld => ?_)
          · exact set_far (.inl (by show y.heap.size ≠ mb; have := HPM.out.2; omega)) G6.out
          clear hK K
          try simp only [Act.put, List.getElem_toArray, List.getElem_cons_zero, List.getElem_cons_succ, List.setIfInBounds_toArray, List.set_cons_zero, List.set_cons_succ]
          refine wpAnyH_done (by kernel_rfl) ?_ _
          go_wp2_with fail
          go_meet
          have hh1 := (H1.out.later Y7.out).same (HS.out.sub (fun q hq h => D12.out q hq h))
          have hh3 := (H3.out.later Y7.out).same (HS.out.sub (fun q hq h => D23.out q h hq))
          obtain ⟨PX, hPX, hhn⟩ : ∃ PX : Nat → Prop, (∀ q, PX q → P2 q ∨ x7.heap.size ≤ q) ∧ Holds True PX w6 (.slice ao (n2 + 1) cv) (dPicks (t.picks ++ [Pk.mk many []])) := by
            refine ⟨_, ?_, by unfold dPicks; rw [List.map_append]; exact HA.out⟩
            intro q hq
            rcases hq with h | h
            · exact .inl h
            · right; first | omega | (simp at h; omega)
          refine armR (R := P2) (vs := [.int .i64 t.mode, .slice a1 n1 e1, .slice a2 n2 e2, .slice a3 n3 e3]) (s' := ⟨t.mode, t.waits, t.picks ++ [Pk.mk many []], t.takes⟩) (v1 := .slice a1 n1 e1) (v2 := .slice ao (n2 + 1) cv) (v3 := .slice a3 n3 e3) HQy.out HWy.out Y7.out HB7.out PB.out HP2Q.out HS.out BW6.out rfl ?_ ?_ ?_
          · exact st_mkL (s := ⟨t.mode, t.waits, t.picks ++ [Pk.mk many []], t.takes⟩) hh1 hhn hh3 (fun q hq => ⟨.inl (HP1Q.out q hq), fun e => NP1.out (by rw [← e]; exact hq)⟩) (fun q hq => (hPX q hq).elim (fun h => ⟨.inl (HP2Q.out q h), fun e => NP2.out (by rw [← e]; exact h)⟩) (fun h => ⟨.inr (by have := HB7.out; omega), by have := HB7.out; omega⟩)) (fun q hq => ⟨.inl (HP3Q.out q hq), fun e => NP3.out (by rw [← e]; exact hq)⟩) (fun q h hq => (hPX q hq).elim (fun h2 => D12.out q h h2) (fun h2 => by have := HQy.out q (HP1Q.out q h); have := HB7.out; omega)) D13.out (fun q hq h => (hPX q hq).elim (fun h2 => D23.out q h2 h) (fun h2 => by have := HQy.out q (HP3Q.out q h); have := HB7.out; omega))
          · have hc := SHORT.out
            exact ⟨by show t.waits.length ≤ _; omega, by simp; omega, by show t.takes.length ≤ _; omega, fun p hp => (List.mem_append.1 hp).elim (fun hp => by have := hc.2.2.2 p hp; omega) (fun hp => by simp at hp; first | (subst hp; simp) | (rcases hp with rfl | rfl | rfl | rfl | rfl <;> simp))⟩
          · exact bad_of HIM.out HKX.out (bad_pick (fun h => by have h2 := h.1.2; have h2 : (many : Int) < ((x.states.set s _).length : Int) := h2; rw [List.length_set, ← MN.out] at h2; omega))
        · go_simp
          refine hK.out _ _ ?_ (fun hHeld => ?_)
          · exact QS.out _ (by go_grown)
          clear hK K
          try simp only [Act.put, List.getElem_toArray, List.getElem_cons_zero, List.getElem_cons_succ, List.setIfInBounds_toArray, List.set_cons_zero, List.set_cons_succ]
          refine wpAnyH_ready (rs := [1]) (by kernel_rfl) (by simp) ?_
          refine AllReadyH.cons rfl (fun K hK => ?_) AllReadyH.nil
          have b2' : ((x7.alloc (.cells #[.int .i64 many, .slice none 0 0] 46)).drew).cell? ⟨y.heap.size, 2, none⟩ = some (.slice a2 n2 e2) := PB.out.below (show Below x7.heap.size x7 (x7.alloc (.cells #[.int .i64 many, .slice none 0 0] 46)).drew from below_drewN (below_new x7 _) 1) 2 _ rfl
          go_simp
          refine hK.out _ _ ?_ (fun hHeld => ?_)
          · exact QS.out _ (by go_grown)
          clear hK K
          try simp only [Act.put, List.getElem_toArray, List.getElem_cons_zero, List.getElem_cons_succ, List.setIfInBounds_toArray, List.set_cons_zero, List.set_cons_succ]
          refine wpAnyH_ready (rs := [10]) (by kernel_rfl) (by simp) ?_
          refine AllReadyH.cons rfl (fun K hK => ?_) AllReadyH.nil
          refine appSK (by rfl) _ _ 55 46 iq2 (.agg #[.int .i64 0, .slice none 0 0]) 2 32 rfl Try.underlying55 hi2 hz2 hs2 hby2 rfl (by decide) P2 (fun _ => False) w (below_step BWX.out.size BWX.out (show Below x7.heap.size x7 (x7.alloc (.cells #[.int .i64 many, .slice none 0 0] 46)).drew from below_drewN (below_new x7 _) 1)) HP2w.out a2 n2 e2 (t.picks.map Pk.d) [(Pk.mk many []).d] 1 1 (n2 + 1) rfl (H2.out.later (below_step' Y7.out (show Below x7.heap.size x7 (x7.alloc (.cells #[.int .i64 many, .slice none 0 0] 46)).drew from below_drewN (below_new x7 _) 1))) (some ⟨x7.heap.size, 0, none⟩) (by rfl) [.int .i64 many, .slice none 0 0] (news_new (w := x7) (vs := [.int .i64 many, .slice none 0 0])) (fun h => by cases h) (by intro ds hds; simp [Pk.d, Tk.d] at hds; (try rcases hds with rfl | rfl); all_goals (first | rfl | (subst hds; rfl) | simp_all)) rfl (by rw [List.flatten_cons, List.flatten_nil, List.append_nil]; exact pk_zeroL _ _) (fun _ h => h.elim) rfl (by unfold maxLen; have := SHORT.out; have := NE2.out; omega) (by have := SHORT.out; have := NE2.out; omega) ?_
          intro ao cv w6 hA hS hB6
          have hSx : SameOn (fun q => ¬ P2 q) x7 w6 := (SameOn.of_below (show Below x7.heap.size x7 (x7.alloc (.cells #[.int .i64 many, .slice none 0 0] 46)).drew from below_drewN (below_new x7 _) 1)).trans hS
          have c6 : w6.cell? ⟨y.heap.size, 2, none⟩ = some (.slice a2 n2 e2) := PB.out.same hSx NP2.out 2 _ rfl
          have f6 : w6.frozen? ⟨y.heap.size, 2, none⟩ = false := (hSx.frozen (a := ⟨y.heap.size, 2, none⟩) NP2.out HB7.out).trans (OB.out.frozen _)
          have g6 : w6.cell? ⟨mb, k * 2 + 1, none⟩ = some (.slice (some ⟨sb, 0, none⟩) many sc) := (hSx.cell (a := ⟨mb, k * 2 + 1, none⟩) (fun h => HQM.out (HP2Q.out _ h)) HMB.out).trans M7.out
          have HA := Lib.hid hA
          have HS := Lib.hid hSx
          have BW6 := Lib.hid hB6
          have G6 := Lib.hid g6
          clear hA hS hSx hB6 g6
          refine hK.out _ _ ?_ (fun hHeld => ?_)
          · exact G6.out
          clear hK K
          try simp only [Act.put, List.getElem_toArray, List.getElem_cons_zero, List.getElem_cons_succ, List.setIfInBounds_toArray, List.set_cons_zero, List.set_cons_succ]
          refine wpAnyH_take (i := 11) (v := ?_) rfl (by kernel_rfl) (by kernel_rfl) (by kernel_rfl) (fun _ _ _ h => h) (.inl ⟨by rfl, ?h⟩) ‹_› ?_; case h => intro w hSw; (try dsimp only at hSw); go_simp; try (with_reducible rfl)
          try simp only [Act.put, List.getElem_toArray, List.getElem_cons_zero, List.getElem_cons_succ, List.setIfInBounds_toArray, List.set_cons_zero, List.set_cons_succ]
          refine wpAnyH_ready (rs := [12]) (by kernel_rfl) (by simp) ?_
          refine AllReadyH.cons rfl (fun K hK => ?_) AllReadyH.nil
          go_simp
          refine hK.out _ _ ?_ (fun hHeld => ?_)
          · exact set_far (.inl (by show y.heap.size ≠ mb; have := HPM.out.2; omega)) G6.out
          clear hK K
          try simp only [Act.put, List.getElem_toArray, List.getElem_cons_zero, List.getElem_cons_succ, List.setIfInBounds_toArray, List.set_cons_zero, List.set_cons_succ]
          refine wpAnyH_done (by kernel_rfl) ?_ _
          go_wp2_with fail
          go_meet
          have hh1 := (H1.out.later Y7.out).same (HS.out.sub (fun q hq h => D12.out q hq h))
          have hh3 := (H3.out.later Y7.out).same (HS.out.sub (fun q hq h => D23.out q h hq))
          obtain ⟨PX, hPX, hhn⟩ : ∃ PX : Nat → Prop, (∀ q, PX q → P2 q ∨ x7.heap.size ≤ q) ∧ Holds True PX w6 (.slice ao (n2 + 1) cv) (dPicks (t.picks ++ [Pk.mk many []])) := by
            refine ⟨_, ?_, by unfold dPicks; rw [List.map_append]; exact HA.out⟩
            intro q hq
            rcases hq with h | h
            · exact .inl h
            · right; first | omega | (simp at h; omega)
          refine armR (R := P2) (vs := [.int .i64 t.mode, .slice a1 n1 e1, .slice a2 n2 e2, .slice a3 n3 e3]) (s' := ⟨t.mode, t.waits, t.picks ++ [Pk.mk many []], t.takes⟩) (v1 := .slice a1 n1 e1) (v2 := .slice ao (n2 + 1) cv) (v3 := .slice a3 n3 e3) HQy.out HWy.out Y7.out HB7.out PB.out HP2Q.out HS.out BW6.out rfl ?_ ?_ ?_
          · exact st_mkL (s := ⟨t.mode, t.waits, t.picks ++ [Pk.mk many []], t.takes⟩) hh1 hhn hh3 (fun q hq => ⟨.inl (HP1Q.out q hq), fun e => NP1.out (by rw [← e]; exact hq)⟩) (fun q hq => (hPX q hq).elim (fun h => ⟨.inl (HP2Q.out q h), fun e => NP2.out (by rw [← e]; exact h)⟩) (fun h => ⟨.inr (by have := HB7.out; omega), by have := HB7.out; omega⟩)) (fun q hq => ⟨.inl (HP3Q.out q hq), fun e => NP3.out (by rw [← e]; exact hq)⟩) (fun q h hq => (hPX q hq).elim (fun h2 => D12.out q h h2) (fun h2 => by have := HQy.out q (HP1Q.out q h); have := HB7.out; omega)) D13.out (fun q hq h => (hPX q hq).elim (fun h2 => D23.out q h2 h) (fun h2 => by have := HQy.out q (HP3Q.out q h); have := HB7.out; omega))
          · have hc := SHORT.out
            exact ⟨by show t.waits.length ≤ _; omega, by simp; omega, by show t.takes.length ≤ _; omega, fun p hp => (List.mem_append.1 hp).elim (fun hp => by have := hc.2.2.2 p hp; omega) (fun hp => by simp at hp; first | (subst hp; simp) | (rcases hp with rfl | rfl | rfl | rfl | rfl <;> simp))⟩
          · exact bad_of HIM.out HKX.out (bad_pick (fun h => by have h2 := h.1.2; have h2 : (many : Int) < ((x.states.set s _).length : Int) := h2; rw [List.length_set, ← MN.out] at h2; omega))
      · go_wp2_with (at_builtin; refine appLK rfl _ _ 56 60 iq3 (.agg #[.int .i64 0, .int .i64 0, .int .i64 0]) 3 24 rfl Try.underlying56 hi3 hz3 hs3 hby3 rfl (by decide) P3 (fun _ => False) w (below_step BWX.out.size BWX.out (below_new x7 _)) HP3w.out a3 n3 e3 (t.takes.map Tk.d) [(Tk.mk k 0 0).d] 1 1 (n3 + 1) rfl (H3.out.later (below_step' Y7.out (below_new x7 _))) (some ⟨x7.heap.size, 0, none⟩) rfl [.int .i64 k, .int .i64 0, .int .i64 0] (news_new (w := x7) (vs := [.int .i64 k, .int .i64 0, .int .i64 0])) (fun h => by cases h) (by intro ds hds; simp [Pk.d, Tk.d] at hds; (try rcases hds with rfl | rfl); all_goals (first | rfl | (subst hds; rfl) | simp_all)) rfl (by rw [List.flatten_cons, List.flatten_nil, List.append_nil]; exact tk_holdsL _ _ _) (fun _ h => h.elim) rfl ?c1 ?c2 ?_)
        case c1 => unfold maxLen; have := SHORT.out; have := NE1.out; have := NE2.out; have := NE3.out; omega
        case c2 => have := SHORT.out; have := NE1.out; have := NE2.out; have := NE3.out; omega
        intro ao cv w6 hA hS hB6
        have hSx : SameOn (fun q => ¬ P3 q) x7 w6 := (SameOn.of_below (show Below x7.heap.size x7 _ by go_grown)).trans hS
        have c6 : w6.cell? ⟨y.heap.size, 3, none⟩ = some (.slice a3 n3 e3) := PB.out.same hSx NP3.out 3 _ rfl
        have f6 : w6.frozen? ⟨y.heap.size, 3, none⟩ = false := (hSx.frozen (a := ⟨y.heap.size, 3, none⟩) NP3.out HB7.out).trans (OB.out.frozen _)
        have HA := Lib.hid hA
        have HS := Lib.hid hSx
        have BW6 := Lib.hid hB6
        clear hA hS hSx hB6
        go_wp2_with fail
        go_meet
        have hh1 := (H1.out.later Y7.out).same (HS.out.sub (fun q hq h => D13.out q hq h))
        have hh2 := (H2.out.later Y7.out).same (HS.out.sub (fun q hq h => D23.out q hq h))
        obtain ⟨PX, hPX, hhn⟩ : ∃ PX : Nat → Prop, (∀ q, PX q → P3 q ∨ x7.heap.size ≤ q) ∧ Holds True PX w6 (.slice ao (n3 + 1) cv) (dTakes (t.takes ++ [Tk.mk k 0 0])) := by
          refine ⟨_, ?_, by unfold dTakes; rw [List.map_append]; exact HA.out⟩
          intro q hq
          rcases hq with h | h
          · exact .inl h
          · right; first | omega | (simp at h; omega)
        refine armR (R := P3) (vs := [.int .i64 t.mode, .slice a1 n1 e1, .slice a2 n2 e2, .slice a3 n3 e3]) (s' := ⟨t.mode, t.waits, t.picks, t.takes ++ [Tk.mk k 0 0]⟩) (v1 := .slice a1 n1 e1) (v2 := .slice a2 n2 e2) (v3 := .slice ao (n3 + 1) cv) HQy.out HWy.out Y7.out HB7.out PB.out HP3Q.out HS.out BW6.out rfl ?_ ?_ ?_
        · exact st_mkL (s := ⟨t.mode, t.waits, t.picks, t.takes ++ [Tk.mk k 0 0]⟩) hh1 hh2 hhn (fun q hq => ⟨.inl (HP1Q.out q hq), fun e => NP1.out (by rw [← e]; exact hq)⟩) (fun q hq => ⟨.inl (HP2Q.out q hq), fun e => NP2.out (by rw [← e]; exact hq)⟩) (fun q hq => (hPX q hq).elim (fun h => ⟨.inl (HP3Q.out q h), fun e => NP3.out (by rw [← e]; exact h)⟩) (fun h => ⟨.inr (by have := HB7.out; omega), by have := HB7.out; omega⟩)) D12.out (fun q h hq => (hPX q hq).elim (fun h2 => D13.out q h h2) (fun h2 => by have := HQy.out q (HP1Q.out q h); have := HB7.out; omega)) (fun q h hq => (hPX q hq).elim (fun h2 => D23.out q h h2) (fun h2 => by have := HQy.out q (HP2Q.out q h); have := HB7.out; omega))
        · have hc := SHORT.out
          exact ⟨by show t.waits.length ≤ _; omega, by show t.picks.length ≤ _; omega, by simp; omega, fun p hp => by have := hc.2.2.2 p hp; omega⟩
        · exact bad_of HIM.out HKX.out (bad_take (no_self HG.out.1 _))
      · go_wp2_with (at_builtin; refine appLK rfl _ _ 55 46 iq2 (.agg #[.int .i64 0, .slice none 0 0]) 2 32 rfl Try.underlying55 hi2 hz2 hs2 hby2 rfl (by decide) P2 (fun q => q = x7.heap.size) w (below_step BWX.out.size BWX.out (below_step' (below_new x7 _) (below_new _ _))) HP2w.out a2 n2 e2 (t.picks.map Pk.d) [(Pk.mk 0 [((k : Int), 0)]).d] 1 1 (n2 + 1) rfl (H2.out.later (below_step' Y7.out (below_step' (below_new x7 _) (below_new _ _)))) (some ⟨x7.heap.size + 1, 0, none⟩) rfl [.int .i64 0, .slice (some ⟨x7.heap.size, 0, none⟩) 1 1] (fun a ha j u hu => by cases ha; exact news_new (w := (x7.alloc (.cells #[.int .i64 k, .int .i64 0] 53))) (vs := [.int .i64 0, .slice (some ⟨x7.heap.size, 0, none⟩) 1 1]) (T := 46) _ (by rw [size_alloc]) j u hu) (fun h => by cases h) (by intro ds hds; simp [Pk.d, Tk.d] at hds; (try rcases hds with rfl | rfl); all_goals (first | rfl | (subst hds; rfl) | simp_all)) rfl (by rw [List.flatten_cons, List.flatten_nil, List.append_nil]; exact pk_holdsL (p := Pk.mk 0 [((k : Int), 0)]) (Q := fun q => q = x7.heap.size) rfl ((one_send 53).later (below_new _ _)) (fun q h => h)) (fun q e => ⟨fun h => by have := HQy.out q (HP2Q.out q h); have := HB7.out; omega, by rw [e]; simp <;> omega⟩) rfl ?c1 ?c2 ?_)
        case c1 => unfold maxLen; have := SHORT.out; have := NE1.out; have := NE2.out; have := NE3.out; omega
        case c2 => have := SHORT.out; have := NE1.out; have := NE2.out; have := NE3.out; omega
        intro ao cv w6 hA hS hB6
        have hSx : SameOn (fun q => ¬ P2 q) x7 w6 := (SameOn.of_below (show Below x7.heap.size x7 _ by go_grown)).trans hS
        have c6 : w6.cell? ⟨y.heap.size, 2, none⟩ = some (.slice a2 n2 e2) := PB.out.same hSx NP2.out 2 _ rfl
        have f6 : w6.frozen? ⟨y.heap.size, 2, none⟩ = false := (hSx.frozen (a := ⟨y.heap.size, 2, none⟩) NP2.out HB7.out).trans (OB.out.frozen _)
        have HA := Lib.hid hA
        have HS := Lib.hid hSx
        have BW6 := Lib.hid hB6
        clear hA hS hSx hB6
        go_wp2_with fail
        go_meet
        have hh1 := (H1.out.later Y7.out).same (HS.out.sub (fun q hq h => D12.out q hq h))
        have hh3 := (H3.out.later Y7.out).same (HS.out.sub (fun q hq h => D23.out q h hq))
        obtain ⟨PX, hPX, hhn⟩ : ∃ PX : Nat → Prop, (∀ q, PX q → P2 q ∨ x7.heap.size ≤ q) ∧ Holds True PX w6 (.slice ao (n2 + 1) cv) (dPicks (t.picks ++ [Pk.mk 0 [((k : Int), 0)]])) := by
          refine ⟨_, ?_, by unfold dPicks; rw [List.map_append]; exact HA.out⟩
          intro q hq
          rcases hq with h | h
          · exact .inl h
          · right; first | omega | (simp at h; omega)
        refine armR (R := P2) (vs := [.int .i64 t.mode, .slice a1 n1 e1, .slice a2 n2 e2, .slice a3 n3 e3]) (s' := ⟨t.mode, t.waits, t.picks ++ [Pk.mk 0 [((k : Int), 0)]], t.takes⟩) (v1 := .slice a1 n1 e1) (v2 := .slice ao (n2 + 1) cv) (v3 := .slice a3 n3 e3) HQy.out HWy.out Y7.out HB7.out PB.out HP2Q.out HS.out BW6.out rfl ?_ ?_ ?_
        · exact st_mkL (s := ⟨t.mode, t.waits, t.picks ++ [Pk.mk 0 [((k : Int), 0)]], t.takes⟩) hh1 hhn hh3 (fun q hq => ⟨.inl (HP1Q.out q hq), fun e => NP1.out (by rw [← e]; exact hq)⟩) (fun q hq => (hPX q hq).elim (fun h => ⟨.inl (HP2Q.out q h), fun e => NP2.out (by rw [← e]; exact h)⟩) (fun h => ⟨.inr (by have := HB7.out; omega), by have := HB7.out; omega⟩)) (fun q hq => ⟨.inl (HP3Q.out q hq), fun e => NP3.out (by rw [← e]; exact hq)⟩) (fun q h hq => (hPX q hq).elim (fun h2 => D12.out q h h2) (fun h2 => by have := HQy.out q (HP1Q.out q h); have := HB7.out; omega)) D13.out (fun q hq h => (hPX q hq).elim (fun h2 => D23.out q h2 h) (fun h2 => by have := HQy.out q (HP3Q.out q h); have := HB7.out; omega))
        · have hc := SHORT.out
          exact ⟨by show t.waits.length ≤ _; omega, by simp; omega, by show t.takes.length ≤ _; omega, fun p hp => (List.mem_append.1 hp).elim (fun hp => by have := hc.2.2.2 p hp; omega) (fun hp => by simp at hp; first | (subst hp; simp) | (rcases hp with rfl | rfl | rfl | rfl | rfl <;> simp))⟩
        · exact bad_of HIM.out HKX.out (bad_pick (fun h => no_self HG.out.1 _ (h.2 0 _ rfl).1))
      · go_wp2_with (at_builtin; refine appLK rfl _ _ 55 46 iq2 (.agg #[.int .i64 0, .slice none 0 0]) 2 32 rfl Try.underlying55 hi2 hz2 hs2 hby2 rfl (by decide) P2 (fun _ => False) w (below_step BWX.out.size BWX.out (below_new x7 _)) HP2w.out a2 n2 e2 (t.picks.map Pk.d) [(Pk.mk 0 []).d, (Pk.mk 0 []).d, (Pk.mk 0 []).d, (Pk.mk 0 []).d, (Pk.mk 0 []).d] 5 5 (n2 + 5) rfl (H2.out.later (below_step' Y7.out (below_new x7 _))) (some ⟨x7.heap.size, 0, none⟩) rfl [.int .i64 0, .slice none 0 0, .int .i64 0, .slice none 0 0, .int .i64 0, .slice none 0 0, .int .i64 0, .slice none 0 0, .int .i64 0, .slice none 0 0] (news_new (w := x7) (vs := [.int .i64 0, .slice none 0 0, .int .i64 0, .slice none 0 0, .int .i64 0, .slice none 0 0, .int .i64 0, .slice none 0 0, .int .i64 0, .slice none 0 0])) (fun h => by cases h) (by intro ds hds; simp [Pk.d, Tk.d] at hds; (try rcases hds with rfl | rfl); all_goals (first | rfl | (subst hds; rfl) | simp_all)) rfl (by exact holdsL_two (pk_zeroL _ 0) (holdsL_two (pk_zeroL _ 0) (holdsL_two (pk_zeroL _ 0) (holdsL_two (pk_zeroL _ 0) (pk_zeroL _ 0))))) (fun _ h => h.elim) rfl ?c1 ?c2 ?_)
        case c1 => unfold maxLen; have := SHORT.out; have := NE1.out; have := NE2.out; have := NE3.out; omega
        case c2 => have := SHORT.out; have := NE1.out; have := NE2.out; have := NE3.out; omega
        intro ao cv w6 hA hS hB6
        have hSx : SameOn (fun q => ¬ P2 q) x7 w6 := (SameOn.of_below (show Below x7.heap.size x7 _ by go_grown)).trans hS
        have c6 : w6.cell? ⟨y.heap.size, 2, none⟩ = some (.slice a2 n2 e2) := PB.out.same hSx NP2.out 2 _ rfl
        have f6 : w6.frozen? ⟨y.heap.size, 2, none⟩ = false := (hSx.frozen (a := ⟨y.heap.size, 2, none⟩) NP2.out HB7.out).trans (OB.out.frozen _)
        have HA := Lib.hid hA
        have HS := Lib.hid hSx
        have BW6 := Lib.hid hB6
        clear hA hS hSx hB6
        go_wp2_with fail
        go_meet
        have hh1 := (H1.out.later Y7.out).same (HS.out.sub (fun q hq h => D12.out q hq h))
        have hh3 := (H3.out.later Y7.out).same (HS.out.sub (fun q hq h => D23.out q h hq))
        obtain ⟨PX, hPX, hhn⟩ : ∃ PX : Nat → Prop, (∀ q, PX q → P2 q ∨ x7.heap.size ≤ q) ∧ Holds True PX w6 (.slice ao (n2 + 5) cv) (dPicks (t.picks ++ [Pk.mk 0 [], Pk.mk 0 [], Pk.mk 0 [], Pk.mk 0 [], Pk.mk 0 []])) := by
          refine ⟨_, ?_, by unfold dPicks; rw [List.map_append]; exact HA.out⟩
          intro q hq
          rcases hq with h | h
          · exact .inl h
          · right; first | omega | (simp at h; omega)
        refine armR (R := P2) (vs := [.int .i64 t.mode, .slice a1 n1 e1, .slice a2 n2 e2, .slice a3 n3 e3]) (s' := ⟨t.mode, t.waits, t.picks ++ [Pk.mk 0 [], Pk.mk 0 [], Pk.mk 0 [], Pk.mk 0 [], Pk.mk 0 []], t.takes⟩) (v1 := .slice a1 n1 e1) (v2 := .slice ao (n2 + 5) cv) (v3 := .slice a3 n3 e3) HQy.out HWy.out Y7.out HB7.out PB.out HP2Q.out HS.out BW6.out rfl ?_ ?_ ?_
        · exact st_mkL (s := ⟨t.mode, t.waits, t.picks ++ [Pk.mk 0 [], Pk.mk 0 [], Pk.mk 0 [], Pk.mk 0 [], Pk.mk 0 []], t.takes⟩) hh1 hhn hh3 (fun q hq => ⟨.inl (HP1Q.out q hq), fun e => NP1.out (by rw [← e]; exact hq)⟩) (fun q hq => (hPX q hq).elim (fun h => ⟨.inl (HP2Q.out q h), fun e => NP2.out (by rw [← e]; exact h)⟩) (fun h => ⟨.inr (by have := HB7.out; omega), by have := HB7.out; omega⟩)) (fun q hq => ⟨.inl (HP3Q.out q hq), fun e => NP3.out (by rw [← e]; exact hq)⟩) (fun q h hq => (hPX q hq).elim (fun h2 => D12.out q h h2) (fun h2 => by have := HQy.out q (HP1Q.out q h); have := HB7.out; omega)) D13.out (fun q hq h => (hPX q hq).elim (fun h2 => D23.out q h2 h) (fun h2 => by have := HQy.out q (HP3Q.out q h); have := HB7.out; omega))
        · have hc := SHORT.out
          exact ⟨by show t.waits.length ≤ _; omega, by simp; omega, by show t.takes.length ≤ _; omega, fun p hp => (List.mem_append.1 hp).elim (fun hp => by have := hc.2.2.2 p hp; omega) (fun hp => by simp at hp; first | (subst hp; simp) | (rcases hp with rfl | rfl | rfl | rfl | rfl <;> simp))⟩
        · exact bad_of HIM.out HKX.out (bad_many (by simp))
      · go_wp2_with (at_builtin; refine appLK rfl _ _ 56 60 iq3 (.agg #[.int .i64 0, .int .i64 0, .int .i64 0]) 3 24 rfl Try.underlying56 hi3 hz3 hs3 hby3 rfl (by decide) P3 (fun _ => False) w (below_step BWX.out.size BWX.out (below_new x7 _)) HP3w.out a3 n3 e3 (t.takes.map Tk.d) [(Tk.mk (-1) 0 0).d, (Tk.mk (-1) 0 0).d] 2 2 (n3 + 2) rfl (H3.out.later (below_step' Y7.out (below_new x7 _))) (some ⟨x7.heap.size, 0, none⟩) rfl [.int .i64 (-1), .int .i64 0, .int .i64 0, .int .i64 (-1), .int .i64 0, .int .i64 0] (news_new (w := x7) (vs := [.int .i64 (-1), .int .i64 0, .int .i64 0, .int .i64 (-1), .int .i64 0, .int .i64 0])) (fun h => by cases h) (by intro ds hds; simp [Pk.d, Tk.d] at hds; (try rcases hds with rfl | rfl); all_goals (first | rfl | (subst hds; rfl) | simp_all)) rfl (by exact holdsL_two (tk_holdsL (-1) 0 0) (tk_holdsL (-1) 0 0)) (fun _ h => h.elim) rfl ?c1 ?c2 ?_)
        case c1 => unfold maxLen; have := SHORT.out; have := NE1.out; have := NE2.out; have := NE3.out; omega
        case c2 => have := SHORT.out; have := NE1.out; have := NE2.out; have := NE3.out; omega
        intro ao cv w6 hA hS hB6
        have hSx : SameOn (fun q => ¬ P3 q) x7 w6 := (SameOn.of_below (show Below x7.heap.size x7 _ by go_grown)).trans hS
        have c6 : w6.cell? ⟨y.heap.size, 3, none⟩ = some (.slice a3 n3 e3) := PB.out.same hSx NP3.out 3 _ rfl
        have f6 : w6.frozen? ⟨y.heap.size, 3, none⟩ = false := (hSx.frozen (a := ⟨y.heap.size, 3, none⟩) NP3.out HB7.out).trans (OB.out.frozen _)
        have HA := Lib.hid hA
        have HS := Lib.hid hSx
        have BW6 := Lib.hid hB6
        clear hA hS hSx hB6
        go_wp2_with fail
        go_meet
        have hh1 := (H1.out.later Y7.out).same (HS.out.sub (fun q hq h => D13.out q hq h))
        have hh2 := (H2.out.later Y7.out).same (HS.out.sub (fun q hq h => D23.out q hq h))
        obtain ⟨PX, hPX, hhn⟩ : ∃ PX : Nat → Prop, (∀ q, PX q → P3 q ∨ x7.heap.size ≤ q) ∧ Holds True PX w6 (.slice ao (n3 + 2) cv) (dTakes (t.takes ++ [Tk.mk (-1) 0 0, Tk.mk (-1) 0 0])) := by
          refine ⟨_, ?_, by unfold dTakes; rw [List.map_append]; exact HA.out⟩
          intro q hq
          rcases hq with h | h
          · exact .inl h
          · right; first | omega | (simp at h; omega)
        refine armR (R := P3) (vs := [.int .i64 t.mode, .slice a1 n1 e1, .slice a2 n2 e2, .slice a3 n3 e3]) (s' := ⟨t.mode, t.waits, t.picks, t.takes ++ [Tk.mk (-1) 0 0, Tk.mk (-1) 0 0]⟩) (v1 := .slice a1 n1 e1) (v2 := .slice a2 n2 e2) (v3 := .slice ao (n3 + 2) cv) HQy.out HWy.out Y7.out HB7.out PB.out HP3Q.out HS.out BW6.out rfl ?_ ?_ ?_
        · exact st_mkL (s := ⟨t.mode, t.waits, t.picks, t.takes ++ [Tk.mk (-1) 0 0, Tk.mk (-1) 0 0]⟩) hh1 hh2 hhn (fun q hq => ⟨.inl (HP1Q.out q hq), fun e => NP1.out (by rw [← e]; exact hq)⟩) (fun q hq => ⟨.inl (HP2Q.out q hq), fun e => NP2.out (by rw [← e]; exact hq)⟩) (fun q hq => (hPX q hq).elim (fun h => ⟨.inl (HP3Q.out q h), fun e => NP3.out (by rw [← e]; exact h)⟩) (fun h => ⟨.inr (by have := HB7.out; omega), by have := HB7.out; omega⟩)) D12.out (fun q h hq => (hPX q hq).elim (fun h2 => D13.out q h h2) (fun h2 => by have := HQy.out q (HP1Q.out q h); have := HB7.out; omega)) (fun q h hq => (hPX q hq).elim (fun h2 => D23.out q h h2) (fun h2 => by have := HQy.out q (HP2Q.out q h); have := HB7.out; omega))
        · have hc := SHORT.out
          exact ⟨by show t.waits.length ≤ _; omega, by show t.picks.length ≤ _; omega, by simp; omega, fun p hp => by have := hc.2.2.2 p hp; omega⟩
        · exact bad_of HIM.out HKX.out (bad_take (no_minus HG.out.1 _))
      · go_wp2_with fail
        go_meet
        refine armR (R := fun _ => False) (vs := [.int .i64 t.mode, .slice a1 n1 e1, .slice a2 n2 e2, .slice a3 n3 e3]) (s' := ⟨-1, t.waits, t.picks, t.takes⟩) (v1 := .slice a1 n1 e1) (v2 := .slice a2 n2 e2) (v3 := .slice a3 n3 e3) HQy.out HWy.out Y7.out HB7.out PB.out (fun _ h => h.elim) (SameOn.refl _ _) BWX.out rfl ?_ ?_ ?_
        · exact st_mkL (s := ⟨-1, t.waits, t.picks, t.takes⟩) (H1.out.later Y7.out) (H2.out.later Y7.out) (H3.out.later Y7.out) (fun q hq => ⟨.inl (HP1Q.out q hq), fun e => NP1.out (by rw [← e]; exact hq)⟩) (fun q hq => ⟨.inl (HP2Q.out q hq), fun e => NP2.out (by rw [← e]; exact hq)⟩) (fun q hq => ⟨.inl (HP3Q.out q hq), fun e => NP3.out (by rw [← e]; exact hq)⟩) D12.out D13.out D23.out
        · have hc := SHORT.out
          exact ⟨by show t.waits.length ≤ _; omega, by show t.picks.length ≤ _; omega, by show t.takes.length ≤ _; omega, fun p hp => by have := hc.2.2.2 p hp; omega⟩
        · exact bad_of HIM.out HKX.out (bad_mode (by simp))
    case rest =>
      obtain ⟨x8, hx8⟩ : ∃ x8, x8 = wc := ⟨_, rfl⟩
      subst hx8
      obtain ⟨⟨s', u1, u2, u3, hbx, hLs, hsms, hbad⟩, hsame, hbel⟩ := hcut
      obtain ⟨y1, y2, y3, _, _, _, e, hy1, hy2, hy3, _⟩ := st_openL hLs
      simp only [List.cons.injEq, and_true, true_and] at e
      obtain ⟨rfl, rfl, rfl⟩ := e
      obtain ⟨ua1, uc1, e⟩ := slice_of hy1.weak
      subst e
      obtain ⟨ua2, uc2, e⟩ := slice_of hy2.weak
      subst e
      obtain ⟨ua3, uc3, e⟩ := slice_of hy3.weak
      subst e
      obtain ⟨ul1, hul1⟩ : ∃ n, n = s'.waits.length := ⟨_, rfl⟩
      obtain ⟨ul2, hul2⟩ : ∃ n, n = s'.picks.length := ⟨_, rfl⟩
      obtain ⟨ul3, hul3⟩ : ∃ n, n = s'.takes.length := ⟨_, rfl⟩
      rw [← hul1, ← hul2, ← hul3] at hbx hLs
      clear hy1 hy2 hy3 hul1 hul2 hul3
      have SM2 := Lib.hid (setSt_small (i := k) (k := s) hsm Hx.out hsms)
      have BAD := Lib.hid hbad
      have hO8 : OpenRow x8 sb sc 4 := HOS.out.same hsame ⟨HPS.out.2, HQS.out⟩ HPS.out.2
      have O8 := Lib.hid hO8
      have HL8 := Lib.hid (hLs)
      have S8 := Lib.hid hsame
      have BX := Lib.hid hbx
      have BW8 := Lib.hid hbel
      have g0 := (hsame.cell (a := ⟨mb, k * 2 + 1, none⟩) ⟨HPM.out.2, HQM.out⟩ HPM.out.2).trans HCM.out
      have g1 := hbx 0 _ rfl
      have g2 := hbx 1 _ rfl
      have g3 := hbx 2 _ rfl
      have g4 := hbx 3 _ rfl
      clear hbx hLs hsms hbad hsame hbel hO8 k2 b0 b1 b2 b3 f0 f1 f2 f3 hsm
      have G0 := Lib.hid g0
      have G1 := Lib.hid g1
      have G2 := Lib.hid g2
      have G3 := Lib.hid g3
      have G4 := Lib.hid g4
      have hsm' : sb ≠ mb := fun e => HNE.out e.symm
      have hsy' : sb ≠ y.heap.size := by have := HPS.out.2; omega
      have HSM := Lib.hid hsm'
      have HSY := Lib.hid hsy'
      clear hsm' hsy'
      go_wp2_with fail
      refine wp_region_held_drew (S := (fun w' => w'.cell? ⟨mb, k * 2 + 1, none⟩ = some (.slice (some ⟨sb, 0, none⟩) many sc) ∧ w'.cell? ⟨y.heap.size, 0, none⟩ = some (.int .i64 s'.mode) ∧ w'.cell? ⟨y.heap.size, 1, none⟩ = some (.slice ua1 ul1 uc1) ∧ w'.cell? ⟨y.heap.size, 2, none⟩ = some (.slice ua2 ul2 uc2) ∧ w'.cell? ⟨y.heap.size, 3, none⟩ = some (.slice ua3 ul3 uc3))) (by kernel_rfl) ?_ (fun hHeld => ?_)
      · exact ⟨g0, g1, g2, g3, g4⟩
      refine wpAnyH_take (i := 0) (v := ?_) rfl (by kernel_rfl) (by kernel_rfl) (by kernel_rfl) (fun _ _ _ h => h) (.inl ⟨by rfl, ?h⟩) ‹_› ?_; case h => intro w hSw; (try dsimp only at hSw); go_simp; try (with_reducible rfl)
      refine wpAnyH_take (i := 1) (v := ?_) rfl (by kernel_rfl) (by kernel_rfl) (by kernel_rfl) (fun _ _ _ h => h) (.inl ⟨by rfl, ?h⟩) ‹_› ?_; case h => intro w hSw; (try dsimp only at hSw); go_simp; try (with_reducible rfl)
      refine wpAnyH_take (i := 2) (v := ?_) rfl (by kernel_rfl) (by kernel_rfl) (by kernel_rfl) (fun _ _ _ h => h) (.inl ⟨by rfl, ?h⟩) ‹_› ?_; case h => intro w hSw; (try dsimp only at hSw); go_simp; try (with_reducible rfl)
      refine wpAnyH_take (i := 3) (v := ?_) rfl (by kernel_rfl) (by kernel_rfl) (by kernel_rfl) (fun _ _ _ h => h) (.inl ⟨by rfl, ?h⟩) ‹_› ?_; case h => intro w hSw; (try dsimp only at hSw); go_simp; try (with_reducible rfl)
      refine wpAnyH_take (i := 4) (v := ?_) rfl (by kernel_rfl) (by kernel_rfl) (by kernel_rfl) (fun _ _ _ h => h) (.inl ⟨by rfl, ?h⟩) ‹_› ?_; case h => intro w hSw; (try dsimp only at hSw); go_simp; try (with_reducible rfl)
      refine wpAnyH_take (i := 5) (v := ?_) rfl (by kernel_rfl) (by kernel_rfl) (by kernel_rfl) (fun _ _ _ h => h) (.inl ⟨by rfl, ?h⟩) ‹_› ?_; case h => intro w hSw; (try dsimp only at hSw); go_simp; try (with_reducible rfl)
      refine wpAnyH_take (i := 6) (v := ?_) rfl (by kernel_rfl) (by kernel_rfl) (by kernel_rfl) (fun _ _ _ h => h) (.inl ⟨by rfl, ?h⟩) ‹_› ?_; case h => intro w hSw; (try dsimp only at hSw); go_simp; try (with_reducible rfl)
      refine wpAnyH_take (i := 7) (v := ?_) rfl (by kernel_rfl) (by kernel_rfl) (by kernel_rfl) (fun _ _ _ h => h) (.inl ⟨by rfl, ?h⟩) ‹_› ?_; case h => intro w hSw; (try dsimp only at hSw); go_simp; try (with_reducible rfl)
      try simp only [Act.put, List.getElem_toArray, List.getElem_cons_zero, List.getElem_cons_succ, List.setIfInBounds_toArray, List.set_cons_zero, List.set_cons_succ]
      refine wpAnyH_ready (rs := [8]) (by kernel_rfl) (by simp) ?_
      refine AllReadyH.cons rfl (fun K hK => ?_) AllReadyH.nil
      have c0 : x8.cell? ⟨sb, s * 4, none⟩ = some _ := (S8.out.cell (a := ⟨sb, _, none⟩) ⟨HPS.out.2, HQS.out⟩ HPS.out.2).trans CS0.out
      have c1 : x8.cell? ⟨sb, s * 4 + 1, none⟩ = some _ := (S8.out.cell (a := ⟨sb, _, none⟩) ⟨HPS.out.2, HQS.out⟩ HPS.out.2).trans CS1.out
      have c2 : x8.cell? ⟨sb, s * 4 + 2, none⟩ = some _ := (S8.out.cell (a := ⟨sb, _, none⟩) ⟨HPS.out.2, HQS.out⟩ HPS.out.2).trans CS2.out
      have c3 : x8.cell? ⟨sb, s * 4 + 3, none⟩ = some _ := (S8.out.cell (a := ⟨sb, _, none⟩) ⟨HPS.out.2, HQS.out⟩ HPS.out.2).trans CS3.out
      have f0 : x8.frozen? ⟨sb, s * 4, none⟩ = false := O8.out.frozen _
      have f1 : x8.frozen? ⟨sb, s * 4 + 1, none⟩ = false := O8.out.frozen _
      have f2 : x8.frozen? ⟨sb, s * 4 + 2, none⟩ = false := O8.out.frozen _
      have f3 : x8.frozen? ⟨sb, s * 4 + 3, none⟩ = false := O8.out.frozen _
      go_simp
      clear c0 c1 c2 c3 f0 f1 f2 f3
      refine hK.out _ _ ?_ (fun hHeld => ?_)
      · exact ⟨set_far (.inl HSM.out) (set_far (.inl HSM.out) (set_far (.inl HSM.out) (set_far (.inl HSM.out) G0.out))), set_far (.inl HSY.out) (set_far (.inl HSY.out) (set_far (.inl HSY.out) (set_far (.inl HSY.out) G1.out))), set_far (.inl HSY.out) (set_far (.inl HSY.out) (set_far (.inl HSY.out) (set_far (.inl HSY.out) G2.out))), set_far (.inl HSY.out) (set_far (.inl HSY.out) (set_far (.inl HSY.out) (set_far (.inl HSY.out) G3.out))), set_far (.inl HSY.out) (set_far (.inl HSY.out) (set_far (.inl HSY.out) (set_far (.inl HSY.out) G4.out)))⟩
      clear hK K
      try simp only [Act.put, List.getElem_toArray, List.getElem_cons_zero, List.getElem_cons_succ, List.setIfInBounds_toArray, List.set_cons_zero, List.set_cons_succ]
      refine wpAnyH_done (by kernel_rfl) ?_ _
      clear g0 g1 g2 g3 g4
      obtain ⟨w9, hw9⟩ : ∃ w9, w9 = ((((x8.setCell ⟨sb, s * 4, none⟩ (.int .i64 s'.mode)).setCell ⟨sb, s * 4 + 1, none⟩ (.slice ua1 ul1 uc1)).setCell ⟨sb, s * 4 + 2, none⟩ (.slice ua2 ul2 uc2)).setCell ⟨sb, s * 4 + 3, none⟩ (.slice ua3 ul3 uc3)).drew := ⟨_, rfl⟩
      have H9 := Lib.hid (show Has w9 (.slice (some ⟨mb, 0, none⟩) N mcap) (dTab (setSt M k s x s')) from by rw [hw9]; exact (HE.out x8 s' _ _ _ _ S8.out HL8.out).later (below_drewN (Below.refl _ _) 1))
      have hws : w.heap.size ≤ sb := Nat.le_of_lt HPS.out.1
      have B9 : Hid (Below w.heap.size w w9) := Lib.hid (by rw [hw9]; exact below_drewN ((((BW8.out.setCell hws _).setCell hws _).setCell hws _).setCell hws _) 1)
      have hkeep : ∀ (o : Nat) (v : Value), y.cell? ⟨w.heap.size, o, none⟩ = some v → w9.cell? ⟨w.heap.size, o, none⟩ = some v := fun o v hv => by
        have h8 : x8.cell? ⟨w.heap.size, o, none⟩ = some v := (S8.out.cell (a := ⟨w.heap.size, o, none⟩) ⟨World.block_lt_of_cell? y _ hv, fun h => Nat.lt_irrefl _ (HQl.out _ h)⟩ (World.block_lt_of_cell? y _ hv)).trans hv
        have hne : sb ≠ w.heap.size := by have := HPS.out.1; omega
        rw [hw9]
        exact set_far (.inl hne) (set_far (.inl hne) (set_far (.inl hne) (set_far (.inl hne) h8)))
      have z0 := hkeep _ _ T4.out.b0
      have z1 := hkeep _ _ T4.out.b1
      rw [← hw9]
      have LK9 := Lib.hid (HM.out.below B9.out)
      clear hw9 hws hkeep
      go_wp2_with fail
      refine (tright_at N _ L (setSt M k s x s') _ false _ H9.out LK9.out HW.out hn6 SM2.out ⟨fun h => (by cases h), fun h => absurd h BAD.out⟩).mono ?_
      rintro e z9 ⟨rfl, hb⟩
      have BA := Lib.hid (below_step' B9.out hb)
      clear hb z0 z1
      go_wp2_with fail
      refine (fixed4_any _).mono ?_
      rintro e z10 ⟨rfl, hb⟩
      have BC := Lib.hid (below_step' BA.out hb)
      clear hb
      go_wp2_with fail
      go_ret
      exact ⟨rfl, BC.out⟩
  · have hrf : r = false := by
      cases r with
      | false => rfl
      | true => exact absurd (HR.out.1 rfl) hG
    subst hrf
    clear hG
    have z0 := T.out.b0
    have z1 := T.out.b1
    go_wp2_with fail
    refine (tright_at N0 _ L M _ false _ HC.out.weak T.out.l HW.out hn6 hsm HR.out).mono ?_
    rintro e x5 ⟨rfl, hb⟩
    replace T := Lib.hid (T.out.below hb)
    clear hb z0 z1
    go_wp2_with fail
    refine (fixed4_any _).mono ?_
    rintro e x6 ⟨rfl, hb⟩
    replace T := Lib.hid (T.out.below hb)
    clear hb
    go_wp2_with fail
    go_ret
    exact ⟨rfl, T.out.bel⟩
end Go.Proofs.Ytgoioibfecgopaa
