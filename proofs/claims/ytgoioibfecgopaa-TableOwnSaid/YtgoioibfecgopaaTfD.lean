/- TableOwn, walked. Written by gen_own.py. -/
import Derived.Test.YtgoioibfecgopaaTfL
import Derived.BigQuiet
set_option linter.unusedSimpArgs false
namespace Go.Proofs.Ytgoioibfecgopaa
open Go.RowKit Go.PlainAid

set_option maxHeartbeats 8000000 in
set_option maxRecDepth 100000 in
theorem walkTableOwn (v0 : Value) (M0 : Tab) (N0 : Int) (u0 : Value) (G0 : Lks) (c0 c1 c2 : Int) (w : World) (wT : Has w v0 (dTab M0)) (wL0 : LinksAt w u0 G0) (wW0 : ∀ p ∈ G0, wfp p) :
    Calls Try.prog 6 #[v0, .agg #[.int .i64 N0, u0], .agg #[.int .i64 c0, .int .i64 c1, .int .i64 c2]] w fun e w' => e = .returned (.bool true) ∧ Below w.heap.size w w' := by
  obtain ⟨a, cap, hv⟩ := wL0.at
  subst hv
  have HL0 := Lib.hid wL0
  have HT0 := Lib.hid wT
  have HM := Lib.hid (linksAt_cut wL0)
  have hW := wf_take wW0
  have hMl := take_le G0
  obtain ⟨L, hLe⟩ : ∃ L, L = G0.take 40 := ⟨_, rfl⟩
  obtain ⟨M, hMe⟩ : ∃ M, M = cutT M0 := ⟨_, rfl⟩
  have HLe := Lib.hid hLe
  have HMe := Lib.hid hMe
  rw [← hLe] at HM hW hMl
  have HW := Lib.hid hW
  have hn6 : L.length ≤ 1000000 := by omega
  have hsm : SmallTab M := by rw [hMe]; exact cutT_small M0
  obtain ⟨r, hr⟩ := bool_some (TabOK N0 L M)
  have HR := Lib.hid hr
  clear wT wL0 wW0 hW hLe hMe hr
  go_enter Try.func6, Try.ntmps6
  try simp only [List.append_eq, List.cons_append, List.nil_append]
  go_wp2_with fail
  refine (cutT_at M0 _ _ (HT0.out.later (show Below w.heap.size w _ by go_grown))).mono ?_
  rintro e x0 ⟨u, rfl, hu, hb0⟩
  rw [← HMe.out] at hu
  have HC := Lib.hid hu
  have B0 := Lib.hid (below_step (by simp <;> omega) (show Below w.heap.size w _ by go_grown) hb0)
  have g0 : x0.cell? ⟨w.heap.size, 0, none⟩ = some (.int .i64 N0) := (hb0.cell (by simp <;> omega)).trans (by go_cell)
  have g1 : x0.cell? ⟨w.heap.size, 1, none⟩ = some (.slice a G0.length cap) := (hb0.cell (by simp <;> omega)).trans (by go_cell)
  have gb : Below (w.alloc (.cells #[.int .i64 N0, .slice a G0.length cap] 25)).heap.size (w.alloc (.cells #[.int .i64 N0, .slice a G0.length cap] 25)) x0 := below_step (by simp <;> omega) (show Below _ (w.alloc (.cells #[.int .i64 N0, .slice a G0.length cap] 25)) _ by go_grown) hb0
  have GB := Lib.hid gb
  have X := Lib.hid (show BoxAt (w.heap.size + 1) [.int .i64 c0, .int .i64 c1, .int .i64 c2] x0 from by
    have h := (boxAt_new (w.alloc (.cells #[.int .i64 N0, .slice a G0.length cap] 25)) [.int .i64 c0, .int .i64 c1, .int .i64 c2] 54).below hb0
    rw [size_alloc] at h
    exact h)
  clear hu hb0 gb
  go_wp2_with fail
  refine (cut_at a cap G0 N0 _ (HL0.out.below B0.out)).mono ?_
  rintro e x1 ⟨rfl, hb⟩
  rw [← HLe.out]
  simp only [gv]
  replace HC := Lib.hid (HC.out.later hb)
  replace X := Lib.hid (X.out.below hb)
  obtain ⟨hbox, x2, hx2, hK⟩ := law_box (below_step GB.out.size GB.out hb) HM.out
  have q0 := hbox.1
  have q1 := hbox.2.1
  have q2 := hbox.2.2.1
  have q3 := hbox.2.2.2
  replace HC := Lib.hid (show Holds True (fun k => w.heap.size < k) x2 u (dTab M) from by
    rw [hx2]
    have h1 := HC.out.wide (P' := fun k => w.heap.size < k) (fun k _ hk => by have hk : ((w.alloc (.cells #[.int .i64 N0, .slice a G0.length cap] 25)).alloc (.cells #[.int .i64 c0, .int .i64 c1, .int .i64 c2] 54)).heap.size ≤ k := hk; simp at hk; omega)
    exact h1.same (((SameOn.refl _ _).set _ _ (fun h => by simp at h)).set _ _ (fun h => by simp at h)))
  have T := Lib.hid hK
  replace X := Lib.hid (show BoxAt _ _ x2 from by rw [hx2]; exact X.out.set2 (by omega) _ _ _ _)
  clear hb hbox hK g0 g1
  have z0 := T.out.b0
  have z1 := T.out.b1
  go_wp2_with fail
  rw [← hx2]
  clear hx2 q0 q1 q2 q3
  replace T := Lib.hid (T.out.below (below_drewN (Below.refl _ x2) 1))
  replace HC := Lib.hid (HC.out.later (below_drewN (Below.refl _ x2) 1))
  replace X := Lib.hid (X.out.below (below_drewN (Below.refl _ x2) 1))
  clear z0 z1
  refine wp_region_held_drew (S := (fun w' => w'.cell? ⟨w.heap.size, 0, none⟩ = some (.int .i64 N0) ∧ w'.cell? ⟨w.heap.size, 1, none⟩ = some (.slice a L.length cap))) (by kernel_rfl) ?_ (fun hHeld => ?_)
  · exact ⟨T.out.b0, T.out.b1⟩
  refine wpAnyH_take (i := 0) (v := ?_) rfl (by kernel_rfl) (by kernel_rfl) (by kernel_rfl) (fun _ _ _ h => h) (Or.inl ⟨by rfl, ?hy0⟩) (by assumption) ?_
  case hy0 => (intro w hSw; (try dsimp only at hSw); go_simp; try (with_reducible rfl))
  try simp only [Act.put, List.getElem_toArray, List.getElem_cons_zero, List.getElem_cons_succ, List.setIfInBounds_toArray, List.set_cons_zero, List.set_cons_succ]
  refine wpAnyH_take (i := 2) (v := ?_) rfl (by kernel_rfl) (by kernel_rfl) (by kernel_rfl) (fun _ _ _ h => h) (Or.inl ⟨by rfl, ?hy2⟩) (by assumption) ?_
  case hy2 => (intro w hSw; (try dsimp only at hSw); go_simp; try (with_reducible rfl))
  try simp only [Act.put, List.getElem_toArray, List.getElem_cons_zero, List.getElem_cons_succ, List.setIfInBounds_toArray, List.set_cons_zero, List.set_cons_succ]
  refine wpAnyH_ready (rs := [1]) (by kernel_rfl) (by simp) ?_
  refine AllReadyH.cons rfl (fun K hK => ?_) AllReadyH.nil
  go_simp
  refine (ref4_at M u _ HC.out.weak hsm).mono ?_
  rintro e x3 ⟨u2, rfl, hu2, hb⟩
  replace T := Lib.hid (T.out.below hb)
  replace HC := Lib.hid (HC.out.later hb)
  replace X := Lib.hid (X.out.below hb)
  have HR2 := Lib.hid hu2
  clear hu2 hb
  go_wp2_with fail
  refine hK.out _ _ ?_ (fun hHeld => ?_)
  · exact ⟨T.out.b0, T.out.b1⟩
  clear hK K
  try simp only [Act.put, List.getElem_toArray, List.getElem_cons_zero, List.getElem_cons_succ, List.setIfInBounds_toArray, List.set_cons_zero, List.set_cons_succ]
  refine wpAnyH_ready (rs := [3]) (by kernel_rfl) (by simp) ?_
  refine AllReadyH.cons rfl (fun K hK => ?_) AllReadyH.nil
  go_simp
  refine (ref_slice _ _ _ _ _).mono ?_
  rintro e x3 ⟨rfl, hb⟩
  replace T := Lib.hid (T.out.below hb)
  replace HC := Lib.hid (HC.out.later hb)
  replace X := Lib.hid (X.out.below hb)
  have HR2 := Lib.hid (HR2.out.later hb)
  clear hb
  go_wp2_with fail
  refine hK.out _ _ ?_ (fun hHeld => ?_)
  · exact ⟨T.out.b0, T.out.b1⟩
  clear hK K
  try simp only [Act.put, List.getElem_toArray, List.getElem_cons_zero, List.getElem_cons_succ, List.setIfInBounds_toArray, List.set_cons_zero, List.set_cons_succ]
  refine wpAnyH_ready (rs := [4]) (by kernel_rfl) (by simp) ?_
  refine AllReadyH.cons rfl (fun K hK => ?_) AllReadyH.nil
  go_simp
  refine (rright4_at N0 _ L M _ r _ HR2.out T.out.l hn6 hsm HR.out).mono ?_
  rintro e x4 ⟨rfl, hb⟩
  replace T := Lib.hid (T.out.below hb)
  replace HC := Lib.hid (HC.out.later hb)
  replace X := Lib.hid (X.out.below hb)
  clear hb
  go_wp2_with fail
  refine hK.out _ _ ?_ (fun hHeld => ?_)
  · exact ⟨T.out.b0, T.out.b1⟩
  clear hK K
  try simp only [Act.put, List.getElem_toArray, List.getElem_cons_zero, List.getElem_cons_succ, List.setIfInBounds_toArray, List.set_cons_zero, List.set_cons_succ]
  refine wpAnyH_take (i := 5) (v := ?_) rfl (by kernel_rfl) (by kernel_rfl) (by kernel_rfl) (fun _ _ _ h => h) (Or.inl ⟨by rfl, ?hy5⟩) (by assumption) ?_
  case hy5 => (intro w hSw; (try dsimp only at hSw); go_simp; try (with_reducible rfl))
  try simp only [Act.put, List.getElem_toArray, List.getElem_cons_zero, List.getElem_cons_succ, List.setIfInBounds_toArray, List.set_cons_zero, List.set_cons_succ]
  refine wpAnyH_done (by kernel_rfl) ?_ _
  by_cases hG : TabOK N0 L M
  · have hrt : r = true := HR.out.2 hG
    subst hrt
    have HG := Lib.hid hG
    clear hG
    obtain ⟨i1, hi1, hz1, hs1, hby1⟩ := info_parts infoI
    obtain ⟨i2, hi2, hz2, hs2, hby2⟩ := info_parts infoSend
    obtain ⟨ws, hws⟩ : ∃ ws, ws = (stAt M c0 c1).waits := ⟨_, rfl⟩
    have hw6 : ws.length ≤ 1000000 := by rw [hws]; exact (smallSt_at hsm c0 c1).1
    obtain ⟨p, hp⟩ : ∃ p, p = pickAt (stAt M c0 c1) c2 := ⟨_, rfl⟩
    have hp6 : p.sends.length ≤ 1000000 := by rw [hp]; exact pickAt_small hsm c0 c1 c2
    obtain ⟨pb, hpb⟩ : ∃ pb, pb = isPick (stAt M c0 c1) c2 := ⟨_, rfl⟩
    obtain ⟨wl, hwl⟩ : ∃ wl, wl = ws.length := ⟨_, rfl⟩
    obtain ⟨ul, hul⟩ : ∃ ul, ul = p.sends.length := ⟨_, rfl⟩
    obtain ⟨pn, hpn⟩ : ∃ pn, pn = p.next := ⟨_, rfl⟩
    rw [← hwl] at hw6
    rw [← hul] at hp6
    have WS := Lib.hid hws
    have PP := Lib.hid hp
    have PI := Lib.hid hpb
    have WL := Lib.hid hwl
    have UL := Lib.hid hul
    have PN := Lib.hid hpn
    have HYA : Hid (∀ ds ∈ ws.map (fun a => [dI a]), ds.length = 1) := Lib.hid (by intro ds hds; obtain ⟨_, _, rfl⟩ := List.mem_map.1 hds; rfl)
    have HYB : Hid (∀ ds ∈ p.sends.map (fun p => [dI p.1, dI p.2]), ds.length = 2) := Lib.hid (by intro ds hds; obtain ⟨_, _, rfl⟩ := List.mem_map.1 hds; rfl)
    clear hws hp hpb hwl hul hpn
    have k0 := X.out 0 _ rfl
    have k1 := X.out 1 _ rfl
    go_wp2_with fail
    refine (waits_at M c0 c1 _ _ HC.out.weak (by rw [← WS.out, ← WL.out]; exact hw6)).mono ?_
    rintro e x5 ⟨u3, rfl, hu3, hb5⟩
    rw [← WS.out] at hu3
    obtain ⟨wa, wc0, rfl⟩ := slice_of hu3.weak
    rw [← WL.out] at hu3 ⊢
    have U5 := Lib.hid (hu3.wide (P' := fun k => x4.heap.size ≤ k ∧ k < x5.heap.size) (fun k hk p => ⟨p, hk⟩))
    have B5 := Lib.hid hb5
    have k0 := X.out.below hb5 0 _ rfl
    have k1 := X.out.below hb5 1 _ rfl
    have k2 := X.out.below hb5 2 _ rfl
    clear hu3 hb5
    go_wp2_with fail
    refine (picked_any M c0 c1 c2 _ _ (HC.out.later B5.out).weak hsm).mono ?_
    rintro e x6 ⟨u4, rfl, hu4, hb6⟩
    rw [← PP.out] at hu4
    rw [← PP.out, ← PI.out]
    obtain ⟨ua, uc, rfl⟩ := slice_of hu4.weak
    rw [← UL.out] at hu4 ⊢
    simp only [pkv]
    rw [← PN.out]
    have B6 := Lib.hid hb6
    have U6 := Lib.hid (hu4.wide (P' := fun k => x5.heap.size ≤ k ∧ k < x6.heap.size) (fun k hk p => ⟨p, hk⟩))
    clear hu4 hb6 k0 k1 k2
    go_upto_region 7 with fail
    obtain ⟨x7, hx7⟩ : ∃ x7, x7 = x6.alloc (.cells #[.int .i64 pn, .slice ua ul uc] 46) := ⟨_, rfl⟩
    have hb7 : Below x6.heap.size x6 x7 := by rw [hx7]; exact below_new _ _
    have hz7 : x7.heap.size = x6.heap.size + 1 := by rw [hx7]; simp
    have PB := Lib.hid (show BoxAt x6.heap.size [.int .i64 pn, .slice ua ul uc] x7 from by rw [hx7]; exact boxAt_new x6 [.int .i64 pn, .slice ua ul uc] _)
    have Z7 := Lib.hid hz7
    have B7 := Lib.hid hb7
    have HU7 := Lib.hid (show Has x7 (.slice wa wl wc0) (dInts ws) from (((U5.out.later B6.out).later hb7).weak))
    have HS7 := Lib.hid (show Has x7 (.slice ua ul uc) (dLinks p.sends) from ((U6.out.later hb7).weak))
    have QS : Hid (∀ w', Below x7.heap.size x7 w' → w'.cell? ⟨x6.heap.size, 1, none⟩ = some (.slice ua ul uc)) := Lib.hid (fun w' hb => PB.out.below hb 1 _ rfl)
    rw [← hx7]
    clear hx7 hb7 hz7
    go_cut [10, 11] from 51 to 57 (fun s10 s11 wq => ∃ xa xc ya yc, s10 = .slice xa wl xc ∧ s11 = .slice ya ul yc ∧ Holds True (fun k => x7.heap.size ≤ k) wq (.slice xa wl xc) (dInts ws) ∧ Holds True (fun k => x7.heap.size ≤ k) wq (.slice ya ul yc) (dLinks p.sends) ∧ Below x7.heap.size x7 wq)
    case first =>
      refine wp_region_held_drew (S := (fun w' => w'.cell? ⟨x6.heap.size, 1, none⟩ = some (.slice ua ul uc))) (by kernel_rfl) ?_ (fun hHeld => ?_)
      · exact QS.out _ (by go_grown)
      refine wpAnyH_take (i := 1) (v := ?_) rfl (by kernel_rfl) (by kernel_rfl) (by kernel_rfl) (fun _ _ _ h => h) (Or.inl ⟨by rfl, ?hy1⟩) (by assumption) ?_
      case hy1 => (intro w hSw; (try dsimp only at hSw); go_simp; try (with_reducible rfl))
      try simp only [Act.put, List.getElem_toArray, List.getElem_cons_zero, List.getElem_cons_succ, List.setIfInBounds_toArray, List.set_cons_zero, List.set_cons_succ]
      refine wpAnyH_take (i := 4) (v := ?_) rfl (by kernel_rfl) (by kernel_rfl) (by kernel_rfl) (fun _ _ _ h => h) (Or.inl ⟨by rfl, ?hy4⟩) (by assumption) ?_
      case hy4 => (intro w hSw; (try dsimp only at hSw); go_simp; try (with_reducible rfl))
      try simp only [Act.put, List.getElem_toArray, List.getElem_cons_zero, List.getElem_cons_succ, List.setIfInBounds_toArray, List.set_cons_zero, List.set_cons_succ]
      refine wpAnyH_take (i := 5) (v := ?_) rfl (by kernel_rfl) (by kernel_rfl) (by kernel_rfl) (fun _ _ _ h => h) (Or.inl ⟨by rfl, ?hy5⟩) (by assumption) ?_
      case hy5 => (intro w hSw; (try dsimp only at hSw); go_simp; try (with_reducible rfl))
      try simp only [Act.put, List.getElem_toArray, List.getElem_cons_zero, List.getElem_cons_succ, List.setIfInBounds_toArray, List.set_cons_zero, List.set_cons_succ]
      refine wpAnyH_ready (rs := [0, 3]) (by kernel_rfl) (by simp) ?_
      refine AllReadyH.cons rfl (fun K hK => ?_) (AllReadyH.cons rfl (fun K hK => ?_) AllReadyH.nil)
      · go_simp
        refine hK.out _ _ ?_ (fun hHeld => ?_)
        · exact QS.out _ (by go_grown)
        clear hK K
        try simp only [Act.put, List.getElem_toArray, List.getElem_cons_zero, List.getElem_cons_succ, List.setIfInBounds_toArray, List.set_cons_zero, List.set_cons_succ]
        refine wpAnyH_ready (rs := [2, 3]) (by kernel_rfl) (by simp) ?_
        refine AllReadyH.cons rfl (fun K hK => ?_) (AllReadyH.cons rfl (fun K hK => ?_) AllReadyH.nil)
        · refine appS0 (by rfl) _ _ 26 3 i1 (.int .i64 0) 1 8 (by rfl) Try.underlying26 hi1 hz1 hs1 hby1 rfl (by decide) _ _ wl wc0 (by rfl) wa (by rfl) (by exact HU7.out.later (show Below x7.heap.size x7 _ by go_grown)) HYA.out (flat_ints _) (by unfold maxLen; omega) (by omega) ?_
          intro aoA cvA wA hHA hBA
          obtain ⟨hHA, hBA2⟩ := app_fin (a := x7) hHA hBA (by go_grown)
          have RA := Lib.hid hHA
          have BA := Lib.hid hBA2
          clear hHA hBA hBA2
          refine hK.out _ _ ?_ (fun hHeld => ?_)
          · exact QS.out _ (by have q0 := BA.out; have r0 := q0.size; go_grown)
          clear hK K
          try simp only [Act.put, List.getElem_toArray, List.getElem_cons_zero, List.getElem_cons_succ, List.setIfInBounds_toArray, List.set_cons_zero, List.set_cons_succ]
          refine wpAnyH_ready (rs := [3]) (by kernel_rfl) (by simp) ?_
          refine AllReadyH.cons rfl (fun K hK => ?_) AllReadyH.nil
          go_simp
          refine hK.out _ _ ?_ (fun hHeld => ?_)
          · exact QS.out _ (by have q0 := BA.out; have r0 := q0.size; go_grown)
          clear hK K
          try simp only [Act.put, List.getElem_toArray, List.getElem_cons_zero, List.getElem_cons_succ, List.setIfInBounds_toArray, List.set_cons_zero, List.set_cons_succ]
          refine wpAnyH_ready (rs := [6]) (by kernel_rfl) (by simp) ?_
          refine AllReadyH.cons rfl (fun K hK => ?_) AllReadyH.nil
          refine appS0 (by rfl) _ _ 44 53 i2 (.agg #[.int .i64 0, .int .i64 0]) 2 16 (by rfl) Try.underlying44 hi2 hz2 hs2 hby2 rfl (by decide) _ _ ul uc (by rfl) ua (by rfl) (by exact HS7.out.later (show Below x7.heap.size x7 _ by have q0 := BA.out; have r0 := q0.size; go_grown)) HYB.out (flat_links _) (by unfold maxLen; omega) (by omega) ?_
          intro aoB cvB wB hHB hBB
          have GB := Lib.hid (below_step' (a := wA) (by first | exact Below.refl _ _ | go_grown) hBB)
          obtain ⟨hHB, hBB2⟩ := app_fin (a := x7) hHB hBB (by have q0 := BA.out; have r0 := q0.size; go_grown)
          have RB := Lib.hid hHB
          have BB := Lib.hid hBB2
          clear hHB hBB hBB2
          refine hK.out _ _ ?_ (fun hHeld => ?_)
          · exact QS.out _ (by have q0 := BB.out; have r0 := q0.size; go_grown)
          clear hK K
          try simp only [Act.put, List.getElem_toArray, List.getElem_cons_zero, List.getElem_cons_succ, List.setIfInBounds_toArray, List.set_cons_zero, List.set_cons_succ]
          refine wpAnyH_take (i := 7) (v := ?_) rfl (by kernel_rfl) (by kernel_rfl) (by kernel_rfl) (fun _ _ _ h => h) (Or.inl ⟨by rfl, ?hy7⟩) (by assumption) ?_
          case hy7 => (intro w hSw; (try dsimp only at hSw); go_simp; try (with_reducible rfl))
          try simp only [Act.put, List.getElem_toArray, List.getElem_cons_zero, List.getElem_cons_succ, List.setIfInBounds_toArray, List.set_cons_zero, List.set_cons_succ]
          refine wpAnyH_take (i := 8) (v := ?_) rfl (by kernel_rfl) (by kernel_rfl) (by kernel_rfl) (fun _ _ _ h => h) (Or.inl ⟨by rfl, ?hy8⟩) (by assumption) ?_
          case hy8 => (intro w hSw; (try dsimp only at hSw); go_simp; try (with_reducible rfl))
          try simp only [Act.put, List.getElem_toArray, List.getElem_cons_zero, List.getElem_cons_succ, List.setIfInBounds_toArray, List.set_cons_zero, List.set_cons_succ]
          refine wpAnyH_done (by kernel_rfl) ?_ _
          have FB := RB.out
          have FA := RA.out.later GB.out
          go_wp2_with fail
          go_meet
          exact ⟨_, _, _, _, rfl, rfl, FA, FB, BB.out⟩
        · go_simp
          refine hK.out _ _ ?_ (fun hHeld => ?_)
          · exact QS.out _ (by go_grown)
          clear hK K
          try simp only [Act.put, List.getElem_toArray, List.getElem_cons_zero, List.getElem_cons_succ, List.setIfInBounds_toArray, List.set_cons_zero, List.set_cons_succ]
          refine wpAnyH_ready (rs := [2]) (by kernel_rfl) (by simp) ?_
          refine AllReadyH.cons rfl (fun K hK => ?_) AllReadyH.nil
          refine appS0 (by rfl) _ _ 26 3 i1 (.int .i64 0) 1 8 (by rfl) Try.underlying26 hi1 hz1 hs1 hby1 rfl (by decide) _ _ wl wc0 (by rfl) wa (by rfl) (by exact HU7.out.later (show Below x7.heap.size x7 _ by go_grown)) HYA.out (flat_ints _) (by unfold maxLen; omega) (by omega) ?_
          intro aoA cvA wA hHA hBA
          obtain ⟨hHA, hBA2⟩ := app_fin (a := x7) hHA hBA (by go_grown)
          have RA := Lib.hid hHA
          have BA := Lib.hid hBA2
          clear hHA hBA hBA2
          refine hK.out _ _ ?_ (fun hHeld => ?_)
          · exact QS.out _ (by have q0 := BA.out; have r0 := q0.size; go_grown)
          clear hK K
          try simp only [Act.put, List.getElem_toArray, List.getElem_cons_zero, List.getElem_cons_succ, List.setIfInBounds_toArray, List.set_cons_zero, List.set_cons_succ]
          refine wpAnyH_ready (rs := [6]) (by kernel_rfl) (by simp) ?_
          refine AllReadyH.cons rfl (fun K hK => ?_) AllReadyH.nil
          refine appS0 (by rfl) _ _ 44 53 i2 (.agg #[.int .i64 0, .int .i64 0]) 2 16 (by rfl) Try.underlying44 hi2 hz2 hs2 hby2 rfl (by decide) _ _ ul uc (by rfl) ua (by rfl) (by exact HS7.out.later (show Below x7.heap.size x7 _ by have q0 := BA.out; have r0 := q0.size; go_grown)) HYB.out (flat_links _) (by unfold maxLen; omega) (by omega) ?_
          intro aoB cvB wB hHB hBB
          have GB := Lib.hid (below_step' (a := wA) (by first | exact Below.refl _ _ | go_grown) hBB)
          obtain ⟨hHB, hBB2⟩ := app_fin (a := x7) hHB hBB (by have q0 := BA.out; have r0 := q0.size; go_grown)
          have RB := Lib.hid hHB
          have BB := Lib.hid hBB2
          clear hHB hBB hBB2
          refine hK.out _ _ ?_ (fun hHeld => ?_)
          · exact QS.out _ (by have q0 := BB.out; have r0 := q0.size; go_grown)
          clear hK K
          try simp only [Act.put, List.getElem_toArray, List.getElem_cons_zero, List.getElem_cons_succ, List.setIfInBounds_toArray, List.set_cons_zero, List.set_cons_succ]
          refine wpAnyH_take (i := 7) (v := ?_) rfl (by kernel_rfl) (by kernel_rfl) (by kernel_rfl) (fun _ _ _ h => h) (Or.inl ⟨by rfl, ?hy7⟩) (by assumption) ?_
          case hy7 => (intro w hSw; (try dsimp only at hSw); go_simp; try (with_reducible rfl))
          try simp only [Act.put, List.getElem_toArray, List.getElem_cons_zero, List.getElem_cons_succ, List.setIfInBounds_toArray, List.set_cons_zero, List.set_cons_succ]
          refine wpAnyH_take (i := 8) (v := ?_) rfl (by kernel_rfl) (by kernel_rfl) (by kernel_rfl) (fun _ _ _ h => h) (Or.inl ⟨by rfl, ?hy8⟩) (by assumption) ?_
          case hy8 => (intro w hSw; (try dsimp only at hSw); go_simp; try (with_reducible rfl))
          try simp only [Act.put, List.getElem_toArray, List.getElem_cons_zero, List.getElem_cons_succ, List.setIfInBounds_toArray, List.set_cons_zero, List.set_cons_succ]
          refine wpAnyH_done (by kernel_rfl) ?_ _
          have FB := RB.out
          have FA := RA.out.later GB.out
          go_wp2_with fail
          go_meet
          exact ⟨_, _, _, _, rfl, rfl, FA, FB, BB.out⟩
      · go_simp
        refine hK.out _ _ ?_ (fun hHeld => ?_)
        · exact QS.out _ (by go_grown)
        clear hK K
        try simp only [Act.put, List.getElem_toArray, List.getElem_cons_zero, List.getElem_cons_succ, List.setIfInBounds_toArray, List.set_cons_zero, List.set_cons_succ]
        refine wpAnyH_ready (rs := [0]) (by kernel_rfl) (by simp) ?_
        refine AllReadyH.cons rfl (fun K hK => ?_) AllReadyH.nil
        go_simp
        refine hK.out _ _ ?_ (fun hHeld => ?_)
        · exact QS.out _ (by go_grown)
        clear hK K
        try simp only [Act.put, List.getElem_toArray, List.getElem_cons_zero, List.getElem_cons_succ, List.setIfInBounds_toArray, List.set_cons_zero, List.set_cons_succ]
        refine wpAnyH_ready (rs := [2]) (by kernel_rfl) (by simp) ?_
        refine AllReadyH.cons rfl (fun K hK => ?_) AllReadyH.nil
        refine appS0 (by rfl) _ _ 26 3 i1 (.int .i64 0) 1 8 (by rfl) Try.underlying26 hi1 hz1 hs1 hby1 rfl (by decide) _ _ wl wc0 (by rfl) wa (by rfl) (by exact HU7.out.later (show Below x7.heap.size x7 _ by go_grown)) HYA.out (flat_ints _) (by unfold maxLen; omega) (by omega) ?_
        intro aoA cvA wA hHA hBA
        obtain ⟨hHA, hBA2⟩ := app_fin (a := x7) hHA hBA (by go_grown)
        have RA := Lib.hid hHA
        have BA := Lib.hid hBA2
        clear hHA hBA hBA2
        refine hK.out _ _ ?_ (fun hHeld => ?_)
        · exact QS.out _ (by have q0 := BA.out; have r0 := q0.size; go_grown)
        clear hK K
        try simp only [Act.put, List.getElem_toArray, List.getElem_cons_zero, List.getElem_cons_succ, List.setIfInBounds_toArray, List.set_cons_zero, List.set_cons_succ]
        refine wpAnyH_ready (rs := [6]) (by kernel_rfl) (by simp) ?_
        refine AllReadyH.cons rfl (fun K hK => ?_) AllReadyH.nil
        refine appS0 (by rfl) _ _ 44 53 i2 (.agg #[.int .i64 0, .int .i64 0]) 2 16 (by rfl) Try.underlying44 hi2 hz2 hs2 hby2 rfl (by decide) _ _ ul uc (by rfl) ua (by rfl) (by exact HS7.out.later (show Below x7.heap.size x7 _ by have q0 := BA.out; have r0 := q0.size; go_grown)) HYB.out (flat_links _) (by unfold maxLen; omega) (by omega) ?_
        intro aoB cvB wB hHB hBB
        have GB := Lib.hid (below_step' (a := wA) (by first | exact Below.refl _ _ | go_grown) hBB)
        obtain ⟨hHB, hBB2⟩ := app_fin (a := x7) hHB hBB (by have q0 := BA.out; have r0 := q0.size; go_grown)
        have RB := Lib.hid hHB
        have BB := Lib.hid hBB2
        clear hHB hBB hBB2
        refine hK.out _ _ ?_ (fun hHeld => ?_)
        · exact QS.out _ (by have q0 := BB.out; have r0 := q0.size; go_grown)
        clear hK K
        try simp only [Act.put, List.getElem_toArray, List.getElem_cons_zero, List.getElem_cons_succ, List.setIfInBounds_toArray, List.set_cons_zero, List.set_cons_succ]
        refine wpAnyH_take (i := 7) (v := ?_) rfl (by kernel_rfl) (by kernel_rfl) (by kernel_rfl) (fun _ _ _ h => h) (Or.inl ⟨by rfl, ?hy7⟩) (by assumption) ?_
        case hy7 => (intro w hSw; (try dsimp only at hSw); go_simp; try (with_reducible rfl))
        try simp only [Act.put, List.getElem_toArray, List.getElem_cons_zero, List.getElem_cons_succ, List.setIfInBounds_toArray, List.set_cons_zero, List.set_cons_succ]
        refine wpAnyH_take (i := 8) (v := ?_) rfl (by kernel_rfl) (by kernel_rfl) (by kernel_rfl) (fun _ _ _ h => h) (Or.inl ⟨by rfl, ?hy8⟩) (by assumption) ?_
        case hy8 => (intro w hSw; (try dsimp only at hSw); go_simp; try (with_reducible rfl))
        try simp only [Act.put, List.getElem_toArray, List.getElem_cons_zero, List.getElem_cons_succ, List.setIfInBounds_toArray, List.set_cons_zero, List.set_cons_succ]
        refine wpAnyH_done (by kernel_rfl) ?_ _
        have FB := RB.out
        have FA := RA.out.later GB.out
        go_wp2_with fail
        go_meet
        exact ⟨_, _, _, _, rfl, rfl, FA, FB, BB.out⟩
    case rest =>
      obtain ⟨xa, xc, ya, yc, rfl, rfl, hX, hY, hB⟩ := hcut
      obtain ⟨y1, hy1⟩ : ∃ y1, y1 = wc := ⟨_, rfl⟩
      subst hy1
      have XR := Lib.hid hX
      have YR := Lib.hid hY
      have PB8 := Lib.hid (PB.out.below hB)
      have U8 := Lib.hid (((U5.out.later B6.out).later B7.out).later hB)
      have S8 := Lib.hid ((U6.out.later B7.out).later hB)
      have B8 := Lib.hid (below_step' (below_step' (below_step' B5.out B6.out) B7.out) hB)
      have Z6 := B6.out.size
      have Z7' := Z7.out
      clear hX hY hB
      go_wp2_with fail
      go_loopw [12] (fun i wr => ∃ (j : Nat) (V : List Int), i = .int .i64 j ∧ j ≤ wl ∧ V.length = wl ∧ Holds True (fun k => x4.heap.size ≤ k ∧ k < x5.heap.size) wr (.slice wa wl wc0) (dInts V) ∧ SameOn (fun k => x5.heap.size ≤ k) y1 wr ∧ Below x4.heap.size x4 wr) (fun i _ => wl - (intOf i).toNat)
      case atStart => exact ⟨0, ws, rfl, by omega, WL.out.symm, U8.out, SameOn.refl _ _, B8.out⟩
      case round =>
        obtain ⟨j, V, rfl, hj, hV, hU, hS, hB⟩ := hrel
        by_cases hlt : j < wl
        · have hlt' : (j : Int) < wl := by omega
          obtain ⟨x, hx⟩ := some_of_lt (l := V) (i := j) (by rw [hV]; exact hlt)
          obtain ⟨b, e, hb, _, q0, f0, hset⟩ := hU.slot1 hx
          subst e
          have SET := Lib.hid (hset 99)
          have SS := Lib.hid hS
          have BB := Lib.hid hB
          have HV := Lib.hid hV
          clear hset hS hB hV hU hx
          go_wp2_with fail
          go_roundw
          case rel => exact ⟨j + 1, V.set j 99, by go_num, by omega, by rw [List.length_set]; exact HV.out, SET.out, SS.out.set _ _ (by show ¬ x5.heap.size ≤ b; omega), BB.out.setCell hb.1 _⟩
          case measure => simp [intOf]; omega
        · have hlt' : ¬ (j : Int) < wl := by omega
          obtain ⟨y2, hy2⟩ : ∃ y2, y2 = wr := ⟨_, rfl⟩
          subst hy2
          have S9 := Lib.hid (S8.out.same (hS.sub (fun k hk => hk.1)))
          have PB9 := Lib.hid (PB8.out.same hS Z6)
          have XR9 := Lib.hid (XR.out.same (hS.sub (fun k (hk : x7.heap.size ≤ k) => show x5.heap.size ≤ k by omega)))
          have YR9 := Lib.hid (YR.out.same (hS.sub (fun k (hk : x7.heap.size ≤ k) => show x5.heap.size ≤ k by omega)))
          have B9 := Lib.hid hB
          clear hS hB hU hV
          have k1 := PB9.out 1 _ rfl
          go_wp2_with fail
          clear k1
          go_loopw [13] (fun i wr => ∃ (j : Nat) (V : Lks), i = .int .i64 j ∧ j ≤ ul ∧ V.length = ul ∧ Holds True (fun k => x5.heap.size ≤ k ∧ k < x6.heap.size) wr (.slice ua ul uc) (dLinks V) ∧ SameOn (fun k => x6.heap.size ≤ k) y2 wr ∧ Below x4.heap.size x4 wr) (fun i _ => ul - (intOf i).toNat)
          case atStart => exact ⟨0, p.sends, rfl, by omega, UL.out.symm, S9.out, SameOn.refl _ _, B9.out⟩
          case round =>
            obtain ⟨j2, V2, rfl, hj2, hV, hU, hS, hB⟩ := hrel
            have k1 := PB9.out.same hS (Nat.le_refl _) 1 _ rfl
            by_cases hlt2 : j2 < ul
            · have hlt2' : (j2 : Int) < ul := by omega
              obtain ⟨x, hx⟩ := some_of_lt (l := V2) (i := j2) (by rw [hV]; exact hlt2)
              obtain ⟨b, e, hb, _, q0, q1, fz, hset⟩ := hU.slot2 hx
              subst e
              have f0 := fz (j2 * 2)
              have f1 := fz (j2 * 2 + 1)
              have SET := Lib.hid (hset 99 0)
              have SS := Lib.hid hS
              have BB := Lib.hid hB
              have HV := Lib.hid hV
              have hb4 : x4.heap.size ≤ b := by have := B5.out.size; omega
              clear hset hS hB hV hU hx fz
              go_wp2_with fail
              go_roundw
              case rel => exact ⟨j2 + 1, V2.set j2 (99, 0), by go_num, by omega, by rw [List.length_set]; exact HV.out, SET.out, (SS.out.set _ _ (by show ¬ x6.heap.size ≤ b; omega)).set _ _ (by show ¬ x6.heap.size ≤ b; omega), (BB.out.setCell hb4 _).setCell hb4 _⟩
              case measure => simp [intOf]; omega
            · have hlt2' : ¬ (j2 : Int) < ul := by omega
              obtain ⟨y3, hy3⟩ : ∃ y3, y3 = wr := ⟨_, rfl⟩
              subst hy3
              have XRa := Lib.hid (XR9.out.same (hS.sub (fun k (hk : x7.heap.size ≤ k) => show x6.heap.size ≤ k by omega)))
              have YRa := Lib.hid (YR9.out.same (hS.sub (fun k (hk : x7.heap.size ≤ k) => show x6.heap.size ≤ k by omega)))
              have Ba := Lib.hid hB
              have n0 := X.out.below hB 0 _ rfl
              have n1 := X.out.below hB 1 _ rfl
              have n2 := X.out.below hB 2 _ rfl
              clear hS hB hU hV
              go_wp2_with fail
              refine (picked_any M c0 c1 c2 _ _ (HC.out.later Ba.out).weak hsm).mono ?_
              rintro e y4 ⟨u6, rfl, hu6, hb⟩
              rw [← PP.out] at hu6
              rw [← PP.out, ← PI.out]
              obtain ⟨qa, qc, rfl⟩ := slice_of hu6.weak
              rw [← UL.out] at hu6 ⊢
              simp only [pkv]
              rw [← PN.out]
              have QR := Lib.hid hu6.weak
              have Bb := Lib.hid (below_step' Ba.out hb)
              have BB4 := Lib.hid hb
              clear hu6 hb n0 n1 n2 k1
              have n0 : ∀ o, (y4.alloc o).cell? ⟨w.heap.size + 1, 0, none⟩ = some (.int .i64 c0) := fun o => cell_more (X.out.below Bb.out 0 _ rfl) o
              have n1 : ∀ o, (y4.alloc o).cell? ⟨w.heap.size + 1, 1, none⟩ = some (.int .i64 c1) := fun o => cell_more (X.out.below Bb.out 1 _ rfl) o
              go_wp2_with fail
              refine (waits_at M c0 c1 _ _ (HC.out.later (below_step' Bb.out (show Below y4.heap.size y4 _ by go_grown))).weak (by rw [← WS.out, ← WL.out]; exact hw6)).mono ?_
              rintro e y5 ⟨u7, rfl, hu7, hb⟩
              rw [← WS.out] at hu7
              have QB := Lib.hid ((boxAt_new y4 [.int .i64 pn, .slice qa ul qc] 46).below hb)
              have hb45 := below_step' (show Below y4.heap.size y4 _ by go_grown) hb
              have Bc := Lib.hid (below_step' Bb.out hb45)
              have XRc := Lib.hid ((XRa.out.later BB4.out).later hb45)
              have YRc := Lib.hid ((YRa.out.later BB4.out).later hb45)
              have QRc := Lib.hid (QR.out.later hb45)
              have HU7' := Lib.hid hu7.weak
              clear hu7 hb hb45 n0 n1
              go_wp2_with fail
              refine (rints_same _ _ ws _ (Has.ints HU7'.out) (Has.ints XRc.out.weak) (by rw [← WL.out]; exact hw6)).mono ?_
              rintro e y6 ⟨rfl, hb⟩
              have QBd := Lib.hid (QB.out.below hb)
              have Bd := Lib.hid (below_step' Bc.out hb)
              have YRd := Lib.hid (YRc.out.later hb)
              have QRd := Lib.hid (QRc.out.later hb)
              clear hb
              go_wp2_with fail
              go_loopw [16] (fun i wr => ∃ (j : Nat), i = .int .i64 j ∧ j ≤ ul ∧ Below y6.heap.size y6 wr) (fun i _ => ul - (intOf i).toNat)
              case atStart => exact ⟨0, rfl, by omega, Below.refl _ _⟩
              case round =>
                obtain ⟨j3, rfl, hj3, hB⟩ := hrel
                have Be := Lib.hid hB
                by_cases hlt3 : j3 < ul
                · have hlt3' : (j3 : Int) < ul := by omega
                  obtain ⟨⟨s1, s2⟩, hs⟩ := some_of_lt (l := p.sends) (i := j3) (by rw [← UL.out]; exact hlt3)
                  obtain ⟨yb, yo, e, m0, m1⟩ := link_at (YRd.out.later hB).weak hs
                  subst e
                  obtain ⟨qb, qo, e, l0, l1⟩ := link_at (QRd.out.later hB) hs
                  subst e
                  have kq := QBd.out.below hB 1 _ rfl
                  clear hB hs
                  go_wp2_with fail
                  go_quiet (fail)
                  have hbq : Below wr.heap.size wr (wr.drewN nq) := below_drewN (Below.refl _ wr) nq
                  replace Be := Lib.hid (below_step' Be.out hbq)
                  clear hbq
                  go_wp2_with fail
                  go_roundw
                  case rel => exact ⟨j3 + 1, by go_num, by omega, Be.out⟩
                  case measure => simp [intOf]; omega
                · have hlt3' : ¬ (j3 : Int) < ul := by omega
                  have Bf := Lib.hid (below_step' Bd.out hB)
                  have z0 := (T.out.below Bf.out).b0
                  have z1 := (T.out.below Bf.out).b1
                  clear hB
                  go_wp2_with fail
                  refine (tright_at N0 _ L M _ true _ (HC.out.later Bf.out).weak (T.out.below Bf.out).l HW.out hn6 hsm ⟨fun _ => HG.out, fun _ => rfl⟩).mono ?_
                  rintro e z8 ⟨rfl, hb⟩
                  replace T := Lib.hid ((T.out.below Bf.out).below hb)
                  clear hb z0 z1
                  go_wp2_with fail
                  refine (fixed4_any _).mono ?_
                  rintro e z9 ⟨rfl, hb⟩
                  replace T := Lib.hid (T.out.below hb)
                  clear hb
                  go_wp2_with fail
                  go_ret
                  exact ⟨rfl, T.out.bel⟩
  · have hrf : r = false := by
      cases r with
      | false => rfl
      | true => exact absurd (HR.out.1 rfl) hG
    subst hrf
    clear hG
    have z0 := T.out.b0
    have z1 := T.out.b1
    go_wp2_with fail
    refine (tright_at N0 _ L M _ false _ HC.out.weak T.out.l HW.out hn6 hsm HR.out).mono ?_
    rintro e x5 ⟨rfl, hb⟩
    replace T := Lib.hid (T.out.below hb)
    clear hb z0 z1
    go_wp2_with fail
    refine (fixed4_any _).mono ?_
    rintro e x6 ⟨rfl, hb⟩
    replace T := Lib.hid (T.out.below hb)
    clear hb
    go_wp2_with fail
    go_ret
    exact ⟨rfl, T.out.bel⟩
end Go.Proofs.Ytgoioibfecgopaa
