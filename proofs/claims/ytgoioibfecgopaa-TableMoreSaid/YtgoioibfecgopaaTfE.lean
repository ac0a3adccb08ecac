/- TableMore, walked. Written by gen_more.py. -/
import Derived.Test.YtgoioibfecgopaaTfN
import Derived.BigQuiet
set_option linter.unusedSimpArgs false
namespace Go.Proofs.Ytgoioibfecgopaa
open Go.RowKit Go.PlainAid

set_option maxHeartbeats 8000000 in
set_option maxRecDepth 100000 in
theorem walkTableMore (v0 : Value) (M0 : Tab) (N0 : Int) (u0 : Value) (G0 : Lks) (c0 c1 c2 c3 c4 : Int) (w : World) (wT : Has w v0 (dTab M0)) (wL0 : LinksAt w u0 G0) (wW0 : ∀ p ∈ G0, wfp p) :
    Calls Try.prog 7 #[v0, .agg #[.int .i64 N0, u0], .agg #[.int .i64 c0, .int .i64 c1, .int .i64 c2, .int .i64 c3, .int .i64 c4]] w fun e w' => e = .returned (.bool true) ∧ Below w.heap.size w w' := by
  obtain ⟨a, cap, hv⟩ := wL0.at
  subst hv
  have HL0 := Lib.hid wL0
  have HT0 := Lib.hid wT
  have HM := Lib.hid (linksAt_cut wL0)
  have hW := wf_take wW0
  have hMl := take_le G0
  obtain ⟨L, hLe⟩ : ∃ L, L = G0.take 40 := ⟨_, rfl⟩
  obtain ⟨M, hMe⟩ : ∃ M, M = cutT M0 := ⟨_, rfl⟩
  have HLe := Lib.hid hLe
  have HMe := Lib.hid hMe
  rw [← hLe] at HM hW hMl
  have HW := Lib.hid hW
  have hn6 : L.length ≤ 1000000 := by omega
  have hsm : SmallTab M := by rw [hMe]; exact cutT_small M0
  obtain ⟨r, hr⟩ := bool_some (TabOK N0 L M)
  have HR := Lib.hid hr
  clear wT wL0 wW0 hW hLe hMe hr
  go_enter Try.func7, Try.ntmps7
  try simp only [List.append_eq, List.cons_append, List.nil_append]
  go_wp2_with fail
  refine (cutT_at M0 _ _ (HT0.out.later (show Below w.heap.size w _ by go_grown))).mono ?_
  rintro e x0 ⟨u, rfl, hu, hb0⟩
  rw [← HMe.out] at hu
  have HC := Lib.hid hu
  have B0 := Lib.hid (below_step (by simp <;> omega) (show Below w.heap.size w _ by go_grown) hb0)
  have g0 : x0.cell? ⟨w.heap.size, 0, none⟩ = some (.int .i64 N0) := (hb0.cell (by simp <;> omega)).trans (by go_cell)
  have g1 : x0.cell? ⟨w.heap.size, 1, none⟩ = some (.slice a G0.length cap) := (hb0.cell (by simp <;> omega)).trans (by go_cell)
  have gb : Below (w.alloc (.cells #[.int .i64 N0, .slice a G0.length cap] 25)).heap.size (w.alloc (.cells #[.int .i64 N0, .slice a G0.length cap] 25)) x0 := below_step (by simp <;> omega) (show Below _ (w.alloc (.cells #[.int .i64 N0, .slice a G0.length cap] 25)) _ by go_grown) hb0
  have GB := Lib.hid gb
  have X := Lib.hid (show BoxAt (w.heap.size + 1) [.int .i64 c0, .int .i64 c1, .int .i64 c2, .int .i64 c3, .int .i64 c4] x0 from by
    have h := (boxAt_new (w.alloc (.cells #[.int .i64 N0, .slice a G0.length cap] 25)) [.int .i64 c0, .int .i64 c1, .int .i64 c2, .int .i64 c3, .int .i64 c4] 63).below hb0
    rw [size_alloc] at h
    exact h)
  clear hu hb0 gb
  go_wp2_with fail
  refine (cut_at a cap G0 N0 _ (HL0.out.below B0.out)).mono ?_
  rintro e x1 ⟨rfl, hb⟩
  rw [← HLe.out]
  simp only [gv]
  replace HC := Lib.hid (HC.out.later hb)
  replace X := Lib.hid (X.out.below hb)
  obtain ⟨hbox, x2, hx2, hK⟩ := law_box (below_step GB.out.size GB.out hb) HM.out
  have q0 := hbox.1
  have q1 := hbox.2.1
  have q2 := hbox.2.2.1
  have q3 := hbox.2.2.2
  replace HC := Lib.hid (show Holds True (fun k => w.heap.size < k) x2 u (dTab M) from by
    rw [hx2]
    have h1 := HC.out.wide (P' := fun k => w.heap.size < k) (fun k _ hk => by have hk : ((w.alloc (.cells #[.int .i64 N0, .slice a G0.length cap] 25)).alloc (.cells #[.int .i64 c0, .int .i64 c1, .int .i64 c2, .int .i64 c3, .int .i64 c4] 63)).heap.size ≤ k := hk; simp at hk; omega)
    exact h1.same (((SameOn.refl _ _).set _ _ (fun h => by simp at h)).set _ _ (fun h => by simp at h)))
  have T := Lib.hid hK
  replace X := Lib.hid (show BoxAt _ _ x2 from by rw [hx2]; exact X.out.set2 (by omega) _ _ _ _)
  clear hb hbox hK g0 g1
  have z0 := T.out.b0
  have z1 := T.out.b1
  go_wp2_with fail
  rw [← hx2]
  clear hx2 q0 q1 q2 q3
  replace T := Lib.hid (T.out.below (below_drewN (Below.refl _ x2) 1))
  replace HC := Lib.hid (HC.out.later (below_drewN (Below.refl _ x2) 1))
  replace X := Lib.hid (X.out.below (below_drewN (Below.refl _ x2) 1))
  clear z0 z1
  refine wp_region_held_drew (S := (fun w' => w'.cell? ⟨w.heap.size, 0, none⟩ = some (.int .i64 N0) ∧ w'.cell? ⟨w.heap.size, 1, none⟩ = some (.slice a L.length cap))) (by kernel_rfl) ?_ (fun hHeld => ?_)
  · exact ⟨T.out.b0, T.out.b1⟩
  refine wpAnyH_take (i := 0) (v := ?_) rfl (by kernel_rfl) (by kernel_rfl) (by kernel_rfl) (fun _ _ _ h => h) (Or.inl ⟨by rfl, ?hy0⟩) (by assumption) ?_
  case hy0 => (intro w hSw; (try dsimp only at hSw); go_simp; try (with_reducible rfl))
  try simp only [Act.put, List.getElem_toArray, List.getElem_cons_zero, List.getElem_cons_succ, List.setIfInBounds_toArray, List.set_cons_zero, List.set_cons_succ]
  refine wpAnyH_take (i := 2) (v := ?_) rfl (by kernel_rfl) (by kernel_rfl) (by kernel_rfl) (fun _ _ _ h => h) (Or.inl ⟨by rfl, ?hy2⟩) (by assumption) ?_
  case hy2 => (intro w hSw; (try dsimp only at hSw); go_simp; try (with_reducible rfl))
  try simp only [Act.put, List.getElem_toArray, List.getElem_cons_zero, List.getElem_cons_succ, List.setIfInBounds_toArray, List.set_cons_zero, List.set_cons_succ]
  refine wpAnyH_ready (rs := [1]) (by kernel_rfl) (by simp) ?_
  refine AllReadyH.cons rfl (fun K hK => ?_) AllReadyH.nil
  go_simp
  refine (ref4_at M u _ HC.out.weak hsm).mono ?_
  rintro e x3 ⟨u2, rfl, hu2, hb⟩
  replace T := Lib.hid (T.out.below hb)
  replace HC := Lib.hid (HC.out.later hb)
  replace X := Lib.hid (X.out.below hb)
  have HR2 := Lib.hid hu2
  clear hu2 hb
  go_wp2_with fail
  refine hK.out _ _ ?_ (fun hHeld => ?_)
  · exact ⟨T.out.b0, T.out.b1⟩
  clear hK K
  try simp only [Act.put, List.getElem_toArray, List.getElem_cons_zero, List.getElem_cons_succ, List.setIfInBounds_toArray, List.set_cons_zero, List.set_cons_succ]
  refine wpAnyH_ready (rs := [3]) (by kernel_rfl) (by simp) ?_
  refine AllReadyH.cons rfl (fun K hK => ?_) AllReadyH.nil
  go_simp
  refine (ref_slice _ _ _ _ _).mono ?_
  rintro e x3 ⟨rfl, hb⟩
  replace T := Lib.hid (T.out.below hb)
  replace HC := Lib.hid (HC.out.later hb)
  replace X := Lib.hid (X.out.below hb)
  have HR2 := Lib.hid (HR2.out.later hb)
  clear hb
  go_wp2_with fail
  refine hK.out _ _ ?_ (fun hHeld => ?_)
  · exact ⟨T.out.b0, T.out.b1⟩
  clear hK K
  try simp only [Act.put, List.getElem_toArray, List.getElem_cons_zero, List.getElem_cons_succ, List.setIfInBounds_toArray, List.set_cons_zero, List.set_cons_succ]
  refine wpAnyH_ready (rs := [4]) (by kernel_rfl) (by simp) ?_
  refine AllReadyH.cons rfl (fun K hK => ?_) AllReadyH.nil
  go_simp
  refine (rright4_at N0 _ L M _ r _ HR2.out T.out.l hn6 hsm HR.out).mono ?_
  rintro e x4 ⟨rfl, hb⟩
  replace T := Lib.hid (T.out.below hb)
  replace HC := Lib.hid (HC.out.later hb)
  replace X := Lib.hid (X.out.below hb)
  clear hb
  go_wp2_with fail
  refine hK.out _ _ ?_ (fun hHeld => ?_)
  · exact ⟨T.out.b0, T.out.b1⟩
  clear hK K
  try simp only [Act.put, List.getElem_toArray, List.getElem_cons_zero, List.getElem_cons_succ, List.setIfInBounds_toArray, List.set_cons_zero, List.set_cons_succ]
  refine wpAnyH_take (i := 5) (v := ?_) rfl (by kernel_rfl) (by kernel_rfl) (by kernel_rfl) (fun _ _ _ h => h) (Or.inl ⟨by rfl, ?hy5⟩) (by assumption) ?_
  case hy5 => (intro w hSw; (try dsimp only at hSw); go_simp; try (with_reducible rfl))
  try simp only [Act.put, List.getElem_toArray, List.getElem_cons_zero, List.getElem_cons_succ, List.setIfInBounds_toArray, List.set_cons_zero, List.set_cons_succ]
  refine wpAnyH_done (by kernel_rfl) ?_ _
  by_cases hG : TabOK N0 L M
  · have hrt : r = true := HR.out.2 hG
    subst hrt
    obtain ⟨N, hN⟩ := Int.eq_ofNat_of_zero_le (show 0 ≤ N0 by have := hG.1.1; omega)
    subst hN
    have h6 : N ≤ 6 := by have := hG.1.2.1; omega
    have h1 : 1 ≤ N := by have := hG.1.1; omega
    have hML : M.length = N := by have := hG.2.1; omega
    have HG := Lib.hid hG
    obtain ⟨i0, k, m0, t0, l0⟩ := node_of c0 N h1
    obtain ⟨x, hx⟩ := some_of_lt (l := M) (i := k) (by rw [hML]; exact l0)
    obtain ⟨mb, mo, mcap, vs, e, hmb, _, _, _, _⟩ := nd_cells HC.out.weak hx
    subst e
    replace HC := Lib.hid (show Holds True (fun k => w.heap.size < k) x4 (.slice (some ⟨mb, mo, none⟩) N mcap) (dTab M) from by
      have h := HC.out
      rw [hML] at h
      exact h)
    rw [hML]
    have ML := Lib.hid hML
    obtain ⟨many, hmany⟩ : ∃ many, many = x.states.length := ⟨_, rfl⟩
    have hxo := hG.2.2 k x hx
    have hm1 : 1 ≤ many := by rw [hmany]; have h2 : x.start < (x.states.length : Int) := hxo.2.1.2; have := hxo.2.1.1; omega
    have hm8 : many ≤ 8 := by rw [hmany]; exact hxo.1
    obtain ⟨i1, s, m1, t1, l1⟩ := node_of c1 many hm1
    obtain ⟨iS, hiS, hzS, hsS, hbyS⟩ := info_parts infoState
    have Hx := Lib.hid hx
    have MN := Lib.hid hmany
    have hx10 : x.states.length ≤ 10 := by rw [← hmany]; omega
    have SM := Lib.hid (small_more hsm hx hx10)
    have HX10 := Lib.hid hx10
    have LK := Lib.hid T.out.l
    have z0 := T.out.b0
    have k0 := X.out 0 _ rfl
    have hN0 : ¬ (N : Int) = 0 := by omega
    have hN0' : ¬ N = 0 := by omega
    have hmz : ¬ (many : Int) = 0 := by omega
    have hmz' : ¬ many = 0 := by omega
    clear hG hx hML hmany hxo hx10 hmb
    go_wp2_with fail
    refine (cutT_at M _ _ HC.out.weak).mono ?_
    rintro e x5 ⟨u2, rfl, hu2, hb5⟩
    rw [show cutT M = M by rw [HMe.out]; exact cutT_idem M0] at hu2
    obtain ⟨b2, o2, cap2, vs2, e, _, _, _, _, _⟩ := nd_cells hu2.weak Hx.out
    subst e
    rw [ML.out] at hu2 ⊢
    have hP2 := hu2.wide (P' := fun k => x4.heap.size ≤ k ∧ k < x5.heap.size) (fun k hk p => ⟨p, hk⟩)
    obtain ⟨Q1, c, rfl, hPb2, hOb2, hb2, hcell, hQP, hQb, hst, hF⟩ := hP2.focus (i := k) (j := 1) (ds := x.d) (d := dStates x.states) (by rw [List.getElem?_map, Hx.out]; rfl) rfl
    obtain ⟨sa, sc, hc⟩ := hst.len
    rw [List.length_map, ← MN.out] at hc
    subst hc
    have HF := Lib.hid hF
    have HST := Lib.hid hst
    have HQP := Lib.hid hQP
    have HQb := Lib.hid hQb
    have HOb := Lib.hid hOb2
    have B5 := Lib.hid hb5
    have hQ4 : ∀ k, Q1 k → x4.heap.size ≤ k := fun k hk => (hQP k hk).1
    have hQ5 : ∀ k, Q1 k → k < x5.heap.size := fun k hk => (hQP k hk).2
    have HQ4 := Lib.hid hQ4
    have HQ5 := Lib.hid hQ5
    have hbm : Below x4.heap.size x4 (x5.alloc (.cells #[.int .i64 0, .slice none 0 0, .slice none 0 0, .slice none 0 0] 58)) := below_step' hb5 (below_new _ _)
    have hb2m : ((x5.alloc (.cells #[.int .i64 0, .slice none 0 0, .slice none 0 0, .slice none 0 0] 58))).cell? ⟨b2, k * 2 + 1, none⟩ = some (.slice sa many sc) := cell_more hcell _
    have HBM := Lib.hid hbm
    have HCm := Lib.hid hb2m
    clear hu2 hP2 hF hst hQP hQb hOb2 hQ4 hQ5 hbm hb2m hb5 k0 z0
    go_wp2_with (at_builtin; refine appLK rfl _ _ 38 58 iS (.agg #[.int .i64 0, .slice none 0 0, .slice none 0 0, .slice none 0 0]) 4 80 rfl Try.underlying38 hiS hzS hsS hbyS rfl (by decide) Q1 (fun _ => False) x4 HBM.out HQ4.out sa many sc (x.states.map St.d) [St.zero.d] 1 1 (many + 1) rfl (HST.out.later (below_new _ _)) (some ⟨x5.heap.size, 0, none⟩) rfl [.int .i64 0, .slice none 0 0, .slice none 0 0, .slice none 0 0] (news_new (w := x5) (vs := [.int .i64 0, .slice none 0 0, .slice none 0 0, .slice none 0 0])) (fun h => by cases h) (by intro ds hds; obtain rfl := List.mem_singleton.1 hds; rfl) rfl (by rw [List.flatten_cons, List.flatten_nil, List.append_nil]; exact zero_holdsL _ _) (fun _ h => h.elim) rfl ?c1 ?c2 ?_)
    case c1 => unfold maxLen; omega
    case c2 => omega
    intro ao cv w6 hA hS hB6
    have hS2 := hS.2 b2 HQb.out (by simp; omega)
    have c6 : w6.cell? ⟨b2, k * 2 + 1, none⟩ = some (.slice sa many sc) := (World.cell?_of_block (a := ⟨b2, k * 2 + 1, none⟩) hS2).trans HCm.out
    have f6 : w6.frozen? ⟨b2, k * 2 + 1, none⟩ = false := by
      rw [World.frozen?_of_block (a := ⟨b2, k * 2 + 1, none⟩) hS2, frozen?_alloc_cells]
      exact HOb.out.frozen _
    have SZ : Hid (((x5.alloc (.cells #[.int .i64 0, .slice none 0 0, .slice none 0 0, .slice none 0 0] 58))).heap.size = x5.heap.size + 1) := Lib.hid (by simp)
    have HA := Lib.hid hA
    have HS := Lib.hid hS
    have HS2 := Lib.hid hS2
    have BW6 := Lib.hid hB6
    clear hA hS hS2 hB6
    go_upto_region 8 with fail
    obtain ⟨w7, hw7⟩ : ∃ w7, w7 = w6.setCell ⟨b2, k * 2 + 1, none⟩ (.slice ao (many + 1) cv) := ⟨_, rfl⟩
    have hQn : ¬ (Q1 b2 ∨ b2 = x5.heap.size + 1) := fun h => by
      rcases h with h | h
      · exact HQb.out h
      · omega
    have H2 := Lib.hid (show Has w7 (.slice (some ⟨b2, 0, none⟩) N cap2) (dTab (M.set k (moreN x))) from by
      rw [dTab_more]
      refine (HF.out w7 (.slice ao (many + 1) cv) (.row 4 (x.states.map St.d ++ [St.zero.d])) (fun q => Q1 q ∨ q = x5.heap.size + 1) ?_ ?_ ?_ (fun q hq => ?_)).weak
      · rw [hw7]
        exact ((SameOn.of_below (below_new x5 _)).trans (HS.out.sub (fun q hq => hq.2.2))).set _ _ (fun h => h.2.1 rfl)
      · obtain ⟨_, cur, e0, hg, _⟩ := HOb.out
        have h6 : w6.heap[b2]? = some (.cells cur e0 (0, 0)) := HS2.out.trans (((below_new x5 _).block b2 hb2).trans hg)
        rw [hw7, heap_setCell_at h6, heap_setCell_at hg]
      · rw [hw7]
        exact HA.out.same ((SameOn.refl _ _).set _ _ hQn)
      · rcases hq with h | h
        · exact ⟨fun e => HQb.out (by rw [← e]; exact h), .inl h⟩
        · exact ⟨by omega, .inr (fun h3 => by have := h3.2; omega)⟩)
    have BW : Hid (Below x4.heap.size x4 w7) := Lib.hid (by rw [hw7]; exact BW6.out.setCell hPb2.1 _)
    have H1 := Lib.hid (HC.out.later BW.out)
    have X7 := Lib.hid (X.out.below BW.out)
    replace LK := Lib.hid (LK.out.below BW.out)
    have BB := Lib.hid (Below.refl w7.heap.size w7)
    rw [← hw7]
    clear hw7 hQn c6 f6
    have hx7 := Hx.out
    obtain ⟨sa1, sc1, y1, _⟩ := nd_at H1.out.weak hx7
    rw [← MN.out] at y1
    have k1 := X7.out 1 _ rfl
    have z0 := (T.out.below BW.out).b0
    have z1 := (T.out.below BW.out).b1
    clear hx7
    by_cases h7 : 7 < many
    · have h7' : (7 : Int) < many := by omega
      go_wp2_with fail
      refine (tright_at N _ L _ _ false _ H2.out LK.out HW.out hn6 SM.out ⟨fun h => (by cases h), fun h => absurd h (more_bad Hx.out (by rw [← MN.out]; omega))⟩).mono ?_
      rintro e z9 ⟨rfl, hb⟩
      replace BB := Lib.hid (below_step' BB.out hb)
      clear hb
      go_wp2_with fail
      refine (fixed4_any _).mono ?_
      rintro e z9 ⟨rfl, hb⟩
      replace BB := Lib.hid (below_step' BB.out hb)
      clear hb
      go_wp2_with fail
      go_ret
      exact ⟨rfl, below_step (Nat.le_trans T.out.bel.size BW.out.size) (below_step T.out.bel.size T.out.bel BW.out) BB.out⟩
    · have h7' : ¬ (7 : Int) < many := by omega
      have hm7 : x.states.length ≤ 7 := by rw [← MN.out]; omega
      obtain ⟨md, hmd⟩ : ∃ md, md = (stAt M k s).mode := ⟨_, rfl⟩
      obtain ⟨tk, htk⟩ : ∃ tk, tk = takenAt M k s c3 c4 := ⟨_, rfl⟩
      have SA := Lib.hid (stAt_more (s := s) Hx.out (by rw [← MN.out]; exact l1))
      have SN := Lib.hid (show stAt (M.set k (moreN x)) k many = St.zero from by rw [MN.out]; exact stAt_new Hx.out)
      have MD1 : Hid ((stAt M k s).mode = md) := Lib.hid hmd.symm
      have MD2 : Hid ((stAt (M.set k (moreN x)) k s).mode = md) := Lib.hid (by rw [SA.out]; exact hmd.symm)
      have MDn : Hid ((stAt (M.set k (moreN x)) k many).mode = 0) := Lib.hid (by rw [SN.out]; rfl)
      have TK1 : Hid (takenAt M k s c3 c4 = tk) := Lib.hid htk.symm
      have TK2 : Hid (takenAt (M.set k (moreN x)) k s c3 c4 = tk) := Lib.hid (by rw [htk]; unfold takenAt; rw [SA.out])
      have TKn : Hid (takenAt (M.set k (moreN x)) k many c3 c4 = many) := Lib.hid (by unfold takenAt; rw [SN.out]; rfl)
      have HM7 := Lib.hid hm7
      clear hmd htk hm7
      have QS : Hid (∀ w', Below w7.heap.size w7 w' → w'.cell? ⟨w.heap.size, 0, none⟩ = some (.int .i64 N) ∧ w'.cell? ⟨w.heap.size, 1, none⟩ = some (.slice a L.length cap) ∧ w'.cell? ⟨w.heap.size + 1, 3, none⟩ = some (.int .i64 c3) ∧ w'.cell? ⟨w.heap.size + 1, 4, none⟩ = some (.int .i64 c4)) := Lib.hid (fun w' hb => ⟨(hb.cell (World.block_lt_of_cell? w7 _ z0)).trans z0, (hb.cell (World.block_lt_of_cell? w7 _ z1)).trans z1, X7.out.below hb 3 _ rfl, X7.out.below hb 4 _ rfl⟩)
      go_wp2_with fail
      clear z0 z1 k1 y1
      replace BB := Lib.hid (below_drewN (Below.refl w7.heap.size w7) 1)
      refine wp_region_held_drew (S := (fun w' => w'.cell? ⟨w.heap.size, 0, none⟩ = some (.int .i64 N) ∧ w'.cell? ⟨w.heap.size, 1, none⟩ = some (.slice a L.length cap) ∧ w'.cell? ⟨w.heap.size + 1, 3, none⟩ = some (.int .i64 c3) ∧ w'.cell? ⟨w.heap.size + 1, 4, none⟩ = some (.int .i64 c4))) (by kernel_rfl) ?_ (fun hHeld => ?_)
      · exact QS.out _ BB.out
      refine wpAnyH_take (i := 0) (v := ?_) rfl (by kernel_rfl) (by kernel_rfl) (by kernel_rfl) (fun _ _ _ h => h) (Or.inl ⟨by rfl, ?hy0⟩) (by assumption) ?_
      case hy0 => (intro w hSw; (try dsimp only at hSw); go_simp; try (with_reducible rfl))
      try simp only [Act.put, List.getElem_toArray, List.getElem_cons_zero, List.getElem_cons_succ, List.setIfInBounds_toArray, List.set_cons_zero, List.set_cons_succ]
      refine wpAnyH_take (i := 1) (v := ?_) rfl (by kernel_rfl) (by kernel_rfl) (by kernel_rfl) (fun _ _ _ h => h) (Or.inl ⟨by rfl, ?hy1⟩) (by assumption) ?_
      case hy1 => (intro w hSw; (try dsimp only at hSw); go_simp; try (with_reducible rfl))
      try simp only [Act.put, List.getElem_toArray, List.getElem_cons_zero, List.getElem_cons_succ, List.setIfInBounds_toArray, List.set_cons_zero, List.set_cons_succ]
      refine wpAnyH_ready (rs := [2]) (by kernel_rfl) (by simp) ?_
      refine AllReadyH.cons rfl (fun K hK => ?_) AllReadyH.nil
      go_simp
      refine (tright_at N _ L _ _ true _ (H2.out.later BB.out).weak (LK.out.below BB.out) HW.out hn6 SM.out ⟨fun _ => more_ok HG.out Hx.out HM7.out, fun _ => rfl⟩).mono ?_
      rintro e z9 ⟨rfl, hb⟩
      replace BB := Lib.hid (below_step' BB.out hb)
      clear hb
      go_wp2_with fail
      refine hK.out _ _ ?_ (fun hHeld => ?_)
      · exact QS.out _ BB.out
      clear hK K
      try simp only [Act.put, List.getElem_toArray, List.getElem_cons_zero, List.getElem_cons_succ, List.setIfInBounds_toArray, List.set_cons_zero, List.set_cons_succ]
      refine wpAnyH_take (i := 3) (v := ?_) rfl (by kernel_rfl) (by kernel_rfl) (by kernel_rfl) (fun _ _ _ h => h) (Or.inl ⟨by rfl, ?hy3⟩) (by assumption) ?_
      case hy3 => (intro w hSw; (try dsimp only at hSw); go_simp; try (with_reducible rfl))
      try simp only [Act.put, List.getElem_toArray, List.getElem_cons_zero, List.getElem_cons_succ, List.setIfInBounds_toArray, List.set_cons_zero, List.set_cons_succ]
      refine wpAnyH_take (i := 4) (v := ?_) rfl (by kernel_rfl) (by kernel_rfl) (by kernel_rfl) (fun _ _ _ h => h) (Or.inl ⟨by rfl, ?hy4⟩) (by assumption) ?_
      case hy4 => (intro w hSw; (try dsimp only at hSw); go_simp; try (with_reducible rfl))
      try simp only [Act.put, List.getElem_toArray, List.getElem_cons_zero, List.getElem_cons_succ, List.setIfInBounds_toArray, List.set_cons_zero, List.set_cons_succ]
      refine wpAnyH_take (i := 5) (v := ?_) rfl (by kernel_rfl) (by kernel_rfl) (by kernel_rfl) (fun _ _ _ h => h) (Or.inl ⟨by rfl, ?hy5⟩) (by assumption) ?_
      case hy5 => (intro w hSw; (try dsimp only at hSw); go_simp; try (with_reducible rfl))
      try simp only [Act.put, List.getElem_toArray, List.getElem_cons_zero, List.getElem_cons_succ, List.setIfInBounds_toArray, List.set_cons_zero, List.set_cons_succ]
      refine wpAnyH_take (i := 6) (v := ?_) rfl (by kernel_rfl) (by kernel_rfl) (by kernel_rfl) (fun _ _ _ h => h) (Or.inl ⟨by rfl, ?hy6⟩) (by assumption) ?_
      case hy6 => (intro w hSw; (try dsimp only at hSw); go_simp; try (with_reducible rfl))
      try simp only [Act.put, List.getElem_toArray, List.getElem_cons_zero, List.getElem_cons_succ, List.setIfInBounds_toArray, List.set_cons_zero, List.set_cons_succ]
      refine wpAnyH_take (i := 8) (v := ?_) rfl (by kernel_rfl) (by kernel_rfl) (by kernel_rfl) (fun _ _ _ h => h) (Or.inl ⟨by rfl, ?hy8⟩) (by assumption) ?_
      case hy8 => (intro w hSw; (try dsimp only at hSw); go_simp; try (with_reducible rfl))
      try simp only [Act.put, List.getElem_toArray, List.getElem_cons_zero, List.getElem_cons_succ, List.setIfInBounds_toArray, List.set_cons_zero, List.set_cons_succ]
      refine wpAnyH_take (i := 9) (v := ?_) rfl (by kernel_rfl) (by kernel_rfl) (by kernel_rfl) (fun _ _ _ h => h) (Or.inl ⟨by rfl, ?hy9⟩) (by assumption) ?_
      case hy9 => (intro w hSw; (try dsimp only at hSw); go_simp; try (with_reducible rfl))
      try simp only [Act.put, List.getElem_toArray, List.getElem_cons_zero, List.getElem_cons_succ, List.setIfInBounds_toArray, List.set_cons_zero, List.set_cons_succ]
      refine wpAnyH_take (i := 10) (v := ?_) rfl (by kernel_rfl) (by kernel_rfl) (by kernel_rfl) (fun _ _ _ h => h) (Or.inl ⟨by rfl, ?hy10⟩) (by assumption) ?_
      case hy10 => (intro w hSw; (try dsimp only at hSw); go_simp; try (with_reducible rfl))
      try simp only [Act.put, List.getElem_toArray, List.getElem_cons_zero, List.getElem_cons_succ, List.setIfInBounds_toArray, List.set_cons_zero, List.set_cons_succ]
      refine wpAnyH_ready (rs := [7]) (by kernel_rfl) (by simp) ?_
      refine AllReadyH.cons rfl (fun K hK => ?_) AllReadyH.nil
      go_simp
      refine (mode_is _ k s md _ _ (H2.out.later BB.out).weak MD2.out).mono ?_
      rintro e z9 ⟨rfl, hb⟩
      replace BB := Lib.hid (below_step' BB.out hb)
      clear hb
      go_wp2_with fail
      refine hK.out _ _ ?_ (fun hHeld => ?_)
      · exact QS.out _ BB.out
      clear hK K
      try simp only [Act.put, List.getElem_toArray, List.getElem_cons_zero, List.getElem_cons_succ, List.setIfInBounds_toArray, List.set_cons_zero, List.set_cons_succ]
      refine wpAnyH_ready (rs := [11]) (by kernel_rfl) (by simp) ?_
      refine AllReadyH.cons rfl (fun K hK => ?_) AllReadyH.nil
      go_simp
      refine (mode_is M k s md _ _ (H1.out.later BB.out).weak MD1.out).mono ?_
      rintro e z9 ⟨rfl, hb⟩
      replace BB := Lib.hid (below_step' BB.out hb)
      clear hb
      go_wp2_with fail
      refine hK.out _ _ ?_ (fun hHeld => ?_)
      · exact QS.out _ BB.out
      clear hK K
      try simp only [Act.put, List.getElem_toArray, List.getElem_cons_zero, List.getElem_cons_succ, List.setIfInBounds_toArray, List.set_cons_zero, List.set_cons_succ]
      refine wpAnyH_take (i := 12) (v := ?_) rfl (by kernel_rfl) (by kernel_rfl) (by kernel_rfl) (fun _ _ _ h => h) (Or.inl ⟨by rfl, ?hy12⟩) (by assumption) ?_
      case hy12 => (intro w hSw; (try dsimp only at hSw); go_simp; try (with_reducible rfl))
      try simp only [Act.put, List.getElem_toArray, List.getElem_cons_zero, List.getElem_cons_succ, List.setIfInBounds_toArray, List.set_cons_zero, List.set_cons_succ]
      refine wpAnyH_take (i := 13) (v := ?_) rfl (by kernel_rfl) (by kernel_rfl) (by kernel_rfl) (fun _ _ _ h => h) (Or.inl ⟨by rfl, ?hy13⟩) (by assumption) ?_
      case hy13 => (intro w hSw; (try dsimp only at hSw); go_simp; try (with_reducible rfl))
      try simp only [Act.put, List.getElem_toArray, List.getElem_cons_zero, List.getElem_cons_succ, List.setIfInBounds_toArray, List.set_cons_zero, List.set_cons_succ]
      refine wpAnyH_take (i := 14) (v := ?_) rfl (by kernel_rfl) (by kernel_rfl) (by kernel_rfl) (fun _ _ _ h => h) (Or.inl ⟨by rfl, ?hy14⟩) (by assumption) ?_
      case hy14 => (intro w hSw; (try dsimp only at hSw); go_simp; try (with_reducible rfl))
      try simp only [Act.put, List.getElem_toArray, List.getElem_cons_zero, List.getElem_cons_succ, List.setIfInBounds_toArray, List.set_cons_zero, List.set_cons_succ]
      refine wpAnyH_take (i := 15) (v := ?_) rfl (by kernel_rfl) (by kernel_rfl) (by kernel_rfl) (fun _ _ _ h => h) (Or.inl ⟨by rfl, ?hy15⟩) (by assumption) ?_
      case hy15 => (intro w hSw; (try dsimp only at hSw); go_simp; try (with_reducible rfl))
      try simp only [Act.put, List.getElem_toArray, List.getElem_cons_zero, List.getElem_cons_succ, List.setIfInBounds_toArray, List.set_cons_zero, List.set_cons_succ]
      refine wpAnyH_take (i := 16) (v := ?_) rfl (by kernel_rfl) (by kernel_rfl) (by kernel_rfl) (fun _ _ _ h => h) (Or.inl ⟨by rfl, ?hy16⟩) (by assumption) ?_
      case hy16 => (intro w hSw; (try dsimp only at hSw); go_simp; try (with_reducible rfl))
      try simp only [Act.put, List.getElem_toArray, List.getElem_cons_zero, List.getElem_cons_succ, List.setIfInBounds_toArray, List.set_cons_zero, List.set_cons_succ]
      refine wpAnyH_take (i := 17) (v := ?_) rfl (by kernel_rfl) (by kernel_rfl) (by kernel_rfl) (fun _ _ _ h => h) (Or.inl ⟨by rfl, ?hy17⟩) (by assumption) ?_
      case hy17 => (intro w hSw; (try dsimp only at hSw); go_simp; try (with_reducible rfl))
      try simp only [Act.put, List.getElem_toArray, List.getElem_cons_zero, List.getElem_cons_succ, List.setIfInBounds_toArray, List.set_cons_zero, List.set_cons_succ]
      refine wpAnyH_ready (rs := [18]) (by kernel_rfl) (by simp) ?_
      refine AllReadyH.cons rfl (fun K hK => ?_) AllReadyH.nil
      go_simp
      refine (mode_is _ k many 0 _ _ (H2.out.later BB.out).weak MDn.out).mono ?_
      rintro e z9 ⟨rfl, hb⟩
      replace BB := Lib.hid (below_step' BB.out hb)
      clear hb
      go_wp2_with fail
      refine hK.out _ _ ?_ (fun hHeld => ?_)
      · exact QS.out _ BB.out
      clear hK K
      try simp only [Act.put, List.getElem_toArray, List.getElem_cons_zero, List.getElem_cons_succ, List.setIfInBounds_toArray, List.set_cons_zero, List.set_cons_succ]
      refine wpAnyH_take (i := 19) (v := ?_) rfl (by kernel_rfl) (by kernel_rfl) (by kernel_rfl) (fun _ _ _ h => h) (Or.inl ⟨by rfl, ?hy19⟩) (by assumption) ?_
      case hy19 => (intro w hSw; (try dsimp only at hSw); go_simp; try (with_reducible rfl))
      try simp only [Act.put, List.getElem_toArray, List.getElem_cons_zero, List.getElem_cons_succ, List.setIfInBounds_toArray, List.set_cons_zero, List.set_cons_succ]
      refine wpAnyH_take (i := 20) (v := ?_) rfl (by kernel_rfl) (by kernel_rfl) (by kernel_rfl) (fun _ _ _ h => h) (Or.inl ⟨by rfl, ?hy20⟩) (by assumption) ?_
      case hy20 => (intro w hSw; (try dsimp only at hSw); go_simp; try (with_reducible rfl))
      try simp only [Act.put, List.getElem_toArray, List.getElem_cons_zero, List.getElem_cons_succ, List.setIfInBounds_toArray, List.set_cons_zero, List.set_cons_succ]
      refine wpAnyH_take (i := 21) (v := ?_) rfl (by kernel_rfl) (by kernel_rfl) (by kernel_rfl) (fun _ _ _ h => h) (Or.inl ⟨by rfl, ?hy21⟩) (by assumption) ?_
      case hy21 => (intro w hSw; (try dsimp only at hSw); go_simp; try (with_reducible rfl))
      try simp only [Act.put, List.getElem_toArray, List.getElem_cons_zero, List.getElem_cons_succ, List.setIfInBounds_toArray, List.set_cons_zero, List.set_cons_succ]
      refine wpAnyH_take (i := 22) (v := ?_) rfl (by kernel_rfl) (by kernel_rfl) (by kernel_rfl) (fun _ _ _ h => h) (Or.inl ⟨by rfl, ?hy22⟩) (by assumption) ?_
      case hy22 => (intro w hSw; (try dsimp only at hSw); go_simp; try (with_reducible rfl))
      try simp only [Act.put, List.getElem_toArray, List.getElem_cons_zero, List.getElem_cons_succ, List.setIfInBounds_toArray, List.set_cons_zero, List.set_cons_succ]
      refine wpAnyH_take (i := 23) (v := ?_) rfl (by kernel_rfl) (by kernel_rfl) (by kernel_rfl) (fun _ _ _ h => h) (Or.inl ⟨by rfl, ?hy23⟩) (by assumption) ?_
      case hy23 => (intro w hSw; (try dsimp only at hSw); go_simp; try (with_reducible rfl))
      try simp only [Act.put, List.getElem_toArray, List.getElem_cons_zero, List.getElem_cons_succ, List.setIfInBounds_toArray, List.set_cons_zero, List.set_cons_succ]
      refine wpAnyH_take (i := 24) (v := ?_) rfl (by kernel_rfl) (by kernel_rfl) (by kernel_rfl) (fun _ _ _ h => h) (Or.inl ⟨by rfl, ?hy24⟩) (by assumption) ?_
      case hy24 => (intro w hSw; (try dsimp only at hSw); go_simp; try (with_reducible rfl))
      try simp only [Act.put, List.getElem_toArray, List.getElem_cons_zero, List.getElem_cons_succ, List.setIfInBounds_toArray, List.set_cons_zero, List.set_cons_succ]
      refine wpAnyH_take (i := 26) (v := ?_) rfl (by kernel_rfl) (by kernel_rfl) (by kernel_rfl) (fun _ _ _ h => h) (Or.inl ⟨by rfl, ?hy26⟩) (by assumption) ?_
      case hy26 => (intro w hSw; (try dsimp only at hSw); go_simp; try (with_reducible rfl))
      try simp only [Act.put, List.getElem_toArray, List.getElem_cons_zero, List.getElem_cons_succ, List.setIfInBounds_toArray, List.set_cons_zero, List.set_cons_succ]
      refine wpAnyH_take (i := 27) (v := ?_) rfl (by kernel_rfl) (by kernel_rfl) (by kernel_rfl) (fun _ _ _ h => h) (Or.inl ⟨by rfl, ?hy27⟩) (by assumption) ?_
      case hy27 => (intro w hSw; (try dsimp only at hSw); go_simp; try (with_reducible rfl))
      try simp only [Act.put, List.getElem_toArray, List.getElem_cons_zero, List.getElem_cons_succ, List.setIfInBounds_toArray, List.set_cons_zero, List.set_cons_succ]
      refine wpAnyH_take (i := 28) (v := ?_) rfl (by kernel_rfl) (by kernel_rfl) (by kernel_rfl) (fun _ _ _ h => h) (Or.inl ⟨by rfl, ?hy28⟩) (by assumption) ?_
      case hy28 => (intro w hSw; (try dsimp only at hSw); go_simp; try (with_reducible rfl))
      try simp only [Act.put, List.getElem_toArray, List.getElem_cons_zero, List.getElem_cons_succ, List.setIfInBounds_toArray, List.set_cons_zero, List.set_cons_succ]
      refine wpAnyH_ready (rs := [25]) (by kernel_rfl) (by simp) ?_
      refine AllReadyH.cons rfl (fun K hK => ?_) AllReadyH.nil
      go_simp
      refine (waits_at _ k s _ _ (H2.out.later BB.out).weak (by rw [SA.out]; exact (smallSt_at hsm k s).1)).mono ?_
      rintro e z9 ⟨v1, rfl, hv1, hb⟩
      replace BB := Lib.hid (below_step' BB.out hb)
      rw [SA.out] at hv1
      have V1 := Lib.hid hv1.weak
      clear hv1
      clear hb
      go_wp2_with fail
      refine hK.out _ _ ?_ (fun hHeld => ?_)
      · exact QS.out _ BB.out
      clear hK K
      try simp only [Act.put, List.getElem_toArray, List.getElem_cons_zero, List.getElem_cons_succ, List.setIfInBounds_toArray, List.set_cons_zero, List.set_cons_succ]
      refine wpAnyH_ready (rs := [29]) (by kernel_rfl) (by simp) ?_
      refine AllReadyH.cons rfl (fun K hK => ?_) AllReadyH.nil
      go_simp
      refine (waits_at M k s _ _ (H1.out.later BB.out).weak (smallSt_at hsm k s).1).mono ?_
      rintro e z9 ⟨v2, rfl, hv2, hb⟩
      replace BB := Lib.hid (below_step' BB.out hb)
      have V2 := Lib.hid hv2.weak
      replace V1 := Lib.hid (V1.out.later hb)
      clear hv2
      clear hb
      go_wp2_with fail
      refine hK.out _ _ ?_ (fun hHeld => ?_)
      · exact QS.out _ BB.out
      clear hK K
      try simp only [Act.put, List.getElem_toArray, List.getElem_cons_zero, List.getElem_cons_succ, List.setIfInBounds_toArray, List.set_cons_zero, List.set_cons_succ]
      refine wpAnyH_ready (rs := [30]) (by kernel_rfl) (by simp) ?_
      refine AllReadyH.cons rfl (fun K hK => ?_) AllReadyH.nil
      go_simp
      refine (rints_same _ _ (stAt M k s).waits _ (Has.ints V1.out) (Has.ints V2.out) (smallSt_at hsm k s).1).mono ?_
      rintro e z9 ⟨rfl, hb⟩
      replace BB := Lib.hid (below_step' BB.out hb)
      clear hb
      go_wp2_with fail
      refine hK.out _ _ ?_ (fun hHeld => ?_)
      · exact QS.out _ BB.out
      clear hK K
      try simp only [Act.put, List.getElem_toArray, List.getElem_cons_zero, List.getElem_cons_succ, List.setIfInBounds_toArray, List.set_cons_zero, List.set_cons_succ]
      refine wpAnyH_take (i := 31) (v := ?_) rfl (by kernel_rfl) (by kernel_rfl) (by kernel_rfl) (fun _ _ _ h => h) (Or.inl ⟨by rfl, ?hy31⟩) (by assumption) ?_
      case hy31 => (intro w hSw; (try dsimp only at hSw); go_simp; try (with_reducible rfl))
      try simp only [Act.put, List.getElem_toArray, List.getElem_cons_zero, List.getElem_cons_succ, List.setIfInBounds_toArray, List.set_cons_zero, List.set_cons_succ]
      refine wpAnyH_take (i := 32) (v := ?_) rfl (by kernel_rfl) (by kernel_rfl) (by kernel_rfl) (fun _ _ _ h => h) (Or.inl ⟨by rfl, ?hy32⟩) (by assumption) ?_
      case hy32 => (intro w hSw; (try dsimp only at hSw); go_simp; try (with_reducible rfl))
      try simp only [Act.put, List.getElem_toArray, List.getElem_cons_zero, List.getElem_cons_succ, List.setIfInBounds_toArray, List.set_cons_zero, List.set_cons_succ]
      refine wpAnyH_take (i := 33) (v := ?_) rfl (by kernel_rfl) (by kernel_rfl) (by kernel_rfl) (fun _ _ _ h => h) (Or.inl ⟨by rfl, ?hy33⟩) (by assumption) ?_
      case hy33 => (intro w hSw; (try dsimp only at hSw); go_simp; try (with_reducible rfl))
      try simp only [Act.put, List.getElem_toArray, List.getElem_cons_zero, List.getElem_cons_succ, List.setIfInBounds_toArray, List.set_cons_zero, List.set_cons_succ]
      refine wpAnyH_take (i := 34) (v := ?_) rfl (by kernel_rfl) (by kernel_rfl) (by kernel_rfl) (fun _ _ _ h => h) (Or.inl ⟨by rfl, ?hy34⟩) (by assumption) ?_
      case hy34 => (intro w hSw; (try dsimp only at hSw); go_simp; try (with_reducible rfl))
      try simp only [Act.put, List.getElem_toArray, List.getElem_cons_zero, List.getElem_cons_succ, List.setIfInBounds_toArray, List.set_cons_zero, List.set_cons_succ]
      refine wpAnyH_take (i := 35) (v := ?_) rfl (by kernel_rfl) (by kernel_rfl) (by kernel_rfl) (fun _ _ _ h => h) (Or.inl ⟨by rfl, ?hy35⟩) (by assumption) ?_
      case hy35 => (intro w hSw; (try dsimp only at hSw); go_simp; try (with_reducible rfl))
      try simp only [Act.put, List.getElem_toArray, List.getElem_cons_zero, List.getElem_cons_succ, List.setIfInBounds_toArray, List.set_cons_zero, List.set_cons_succ]
      refine wpAnyH_take (i := 36) (v := ?_) rfl (by kernel_rfl) (by kernel_rfl) (by kernel_rfl) (fun _ _ _ h => h) (Or.inl ⟨by rfl, ?hy36⟩) (by assumption) ?_
      case hy36 => (intro w hSw; (try dsimp only at hSw); go_simp; try (with_reducible rfl))
      try simp only [Act.put, List.getElem_toArray, List.getElem_cons_zero, List.getElem_cons_succ, List.setIfInBounds_toArray, List.set_cons_zero, List.set_cons_succ]
      refine wpAnyH_take (i := 37) (v := ?_) rfl (by kernel_rfl) (by kernel_rfl) (by kernel_rfl) (fun _ _ _ h => h) (Or.inl ⟨by rfl, ?hy37⟩) (by assumption) ?_
      case hy37 => (intro w hSw; (try dsimp only at hSw); go_simp; try (with_reducible rfl))
      try simp only [Act.put, List.getElem_toArray, List.getElem_cons_zero, List.getElem_cons_succ, List.setIfInBounds_toArray, List.set_cons_zero, List.set_cons_succ]
      refine wpAnyH_take (i := 38) (v := ?_) rfl (by kernel_rfl) (by kernel_rfl) (by kernel_rfl) (fun _ _ _ h => h) (Or.inl ⟨by rfl, ?hy38⟩) (by assumption) ?_
      case hy38 => (intro w hSw; (try dsimp only at hSw); go_simp; try (with_reducible rfl))
      try simp only [Act.put, List.getElem_toArray, List.getElem_cons_zero, List.getElem_cons_succ, List.setIfInBounds_toArray, List.set_cons_zero, List.set_cons_succ]
      refine wpAnyH_take (i := 39) (v := ?_) rfl (by kernel_rfl) (by kernel_rfl) (by kernel_rfl) (fun _ _ _ h => h) (Or.inl ⟨by rfl, ?hy39⟩) (by assumption) ?_
      case hy39 => (intro w hSw; (try dsimp only at hSw); go_simp; try (with_reducible rfl))
      try simp only [Act.put, List.getElem_toArray, List.getElem_cons_zero, List.getElem_cons_succ, List.setIfInBounds_toArray, List.set_cons_zero, List.set_cons_succ]
      refine wpAnyH_take (i := 41) (v := ?_) rfl (by kernel_rfl) (by kernel_rfl) (by kernel_rfl) (fun _ _ _ h => h) (Or.inl ⟨by rfl, ?hy41⟩) (by assumption) ?_
      case hy41 => (intro w hSw; (try dsimp only at hSw); go_simp; try (with_reducible rfl))
      try simp only [Act.put, List.getElem_toArray, List.getElem_cons_zero, List.getElem_cons_succ, List.setIfInBounds_toArray, List.set_cons_zero, List.set_cons_succ]
      refine wpAnyH_take (i := 42) (v := ?_) rfl (by kernel_rfl) (by kernel_rfl) (by kernel_rfl) (fun _ _ _ h => h) (Or.inl ⟨by rfl, ?hy42⟩) (by assumption) ?_
      case hy42 => (intro w hSw; (try dsimp only at hSw); go_simp; try (with_reducible rfl))
      try simp only [Act.put, List.getElem_toArray, List.getElem_cons_zero, List.getElem_cons_succ, List.setIfInBounds_toArray, List.set_cons_zero, List.set_cons_succ]
      refine wpAnyH_take (i := 43) (v := ?_) rfl (by kernel_rfl) (by kernel_rfl) (by kernel_rfl) (fun _ _ _ h => h) (Or.inl ⟨by rfl, ?hy43⟩) (by assumption) ?_
      case hy43 => (intro w hSw; (try dsimp only at hSw); go_simp; try (with_reducible rfl))
      try simp only [Act.put, List.getElem_toArray, List.getElem_cons_zero, List.getElem_cons_succ, List.setIfInBounds_toArray, List.set_cons_zero, List.set_cons_succ]
      refine wpAnyH_take (i := 44) (v := ?_) rfl (by kernel_rfl) (by kernel_rfl) (by kernel_rfl) (fun _ _ _ h => h) (Or.inl ⟨by rfl, ?hy44⟩) (by assumption) ?_
      case hy44 => (intro w hSw; (try dsimp only at hSw); go_simp; try (with_reducible rfl))
      try simp only [Act.put, List.getElem_toArray, List.getElem_cons_zero, List.getElem_cons_succ, List.setIfInBounds_toArray, List.set_cons_zero, List.set_cons_succ]
      refine wpAnyH_take (i := 45) (v := ?_) rfl (by kernel_rfl) (by kernel_rfl) (by kernel_rfl) (fun _ _ _ h => h) (Or.inl ⟨by rfl, ?hy45⟩) (by assumption) ?_
      case hy45 => (intro w hSw; (try dsimp only at hSw); go_simp; try (with_reducible rfl))
      try simp only [Act.put, List.getElem_toArray, List.getElem_cons_zero, List.getElem_cons_succ, List.setIfInBounds_toArray, List.set_cons_zero, List.set_cons_succ]
      refine wpAnyH_take (i := 46) (v := ?_) rfl (by kernel_rfl) (by kernel_rfl) (by kernel_rfl) (fun _ _ _ h => h) (Or.inl ⟨by rfl, ?hy46⟩) (by assumption) ?_
      case hy46 => (intro w hSw; (try dsimp only at hSw); go_simp; try (with_reducible rfl))
      try simp only [Act.put, List.getElem_toArray, List.getElem_cons_zero, List.getElem_cons_succ, List.setIfInBounds_toArray, List.set_cons_zero, List.set_cons_succ]
      refine wpAnyH_take (i := 47) (v := ?_) rfl (by kernel_rfl) (by kernel_rfl) (by kernel_rfl) (fun _ _ _ h => h) (Or.inl ⟨by rfl, ?hy47⟩) (by assumption) ?_
      case hy47 => (intro w hSw; (try dsimp only at hSw); go_simp; try (with_reducible rfl))
      try simp only [Act.put, List.getElem_toArray, List.getElem_cons_zero, List.getElem_cons_succ, List.setIfInBounds_toArray, List.set_cons_zero, List.set_cons_succ]
      refine wpAnyH_ready (rs := [40]) (by kernel_rfl) (by simp) ?_
      refine AllReadyH.cons rfl (fun K hK => ?_) AllReadyH.nil
      go_simp
      refine (taken_is _ k s c3 c4 tk _ _ (H2.out.later BB.out).weak (by rw [SA.out]; exact (smallSt_at hsm k s).2.2.1) TK2.out).mono ?_
      rintro e z9 ⟨rfl, hb⟩
      replace BB := Lib.hid (below_step' BB.out hb)
      clear hb
      go_wp2_with fail
      refine hK.out _ _ ?_ (fun hHeld => ?_)
      · exact QS.out _ BB.out
      clear hK K
      try simp only [Act.put, List.getElem_toArray, List.getElem_cons_zero, List.getElem_cons_succ, List.setIfInBounds_toArray, List.set_cons_zero, List.set_cons_succ]
      refine wpAnyH_ready (rs := [48]) (by kernel_rfl) (by simp) ?_
      refine AllReadyH.cons rfl (fun K hK => ?_) AllReadyH.nil
      go_simp
      refine (taken_is M k s c3 c4 tk _ _ (H1.out.later BB.out).weak (smallSt_at hsm k s).2.2.1 TK1.out).mono ?_
      rintro e z9 ⟨rfl, hb⟩
      replace BB := Lib.hid (below_step' BB.out hb)
      clear hb
      go_wp2_with fail
      refine hK.out _ _ ?_ (fun hHeld => ?_)
      · exact QS.out _ BB.out
      clear hK K
      try simp only [Act.put, List.getElem_toArray, List.getElem_cons_zero, List.getElem_cons_succ, List.setIfInBounds_toArray, List.set_cons_zero, List.set_cons_succ]
      refine wpAnyH_take (i := 49) (v := ?_) rfl (by kernel_rfl) (by kernel_rfl) (by kernel_rfl) (fun _ _ _ h => h) (Or.inl ⟨by rfl, ?hy49⟩) (by assumption) ?_
      case hy49 => (intro w hSw; (try dsimp only at hSw); go_simp; try (with_reducible rfl))
      try simp only [Act.put, List.getElem_toArray, List.getElem_cons_zero, List.getElem_cons_succ, List.setIfInBounds_toArray, List.set_cons_zero, List.set_cons_succ]
      refine wpAnyH_take (i := 50) (v := ?_) rfl (by kernel_rfl) (by kernel_rfl) (by kernel_rfl) (fun _ _ _ h => h) (Or.inl ⟨by rfl, ?hy50⟩) (by assumption) ?_
      case hy50 => (intro w hSw; (try dsimp only at hSw); go_simp; try (with_reducible rfl))
      try simp only [Act.put, List.getElem_toArray, List.getElem_cons_zero, List.getElem_cons_succ, List.setIfInBounds_toArray, List.set_cons_zero, List.set_cons_succ]
      refine wpAnyH_take (i := 51) (v := ?_) rfl (by kernel_rfl) (by kernel_rfl) (by kernel_rfl) (fun _ _ _ h => h) (Or.inl ⟨by rfl, ?hy51⟩) (by assumption) ?_
      case hy51 => (intro w hSw; (try dsimp only at hSw); go_simp; try (with_reducible rfl))
      try simp only [Act.put, List.getElem_toArray, List.getElem_cons_zero, List.getElem_cons_succ, List.setIfInBounds_toArray, List.set_cons_zero, List.set_cons_succ]
      refine wpAnyH_take (i := 52) (v := ?_) rfl (by kernel_rfl) (by kernel_rfl) (by kernel_rfl) (fun _ _ _ h => h) (Or.inl ⟨by rfl, ?hy52⟩) (by assumption) ?_
      case hy52 => (intro w hSw; (try dsimp only at hSw); go_simp; try (with_reducible rfl))
      try simp only [Act.put, List.getElem_toArray, List.getElem_cons_zero, List.getElem_cons_succ, List.setIfInBounds_toArray, List.set_cons_zero, List.set_cons_succ]
      refine wpAnyH_take (i := 53) (v := ?_) rfl (by kernel_rfl) (by kernel_rfl) (by kernel_rfl) (fun _ _ _ h => h) (Or.inl ⟨by rfl, ?hy53⟩) (by assumption) ?_
      case hy53 => (intro w hSw; (try dsimp only at hSw); go_simp; try (with_reducible rfl))
      try simp only [Act.put, List.getElem_toArray, List.getElem_cons_zero, List.getElem_cons_succ, List.setIfInBounds_toArray, List.set_cons_zero, List.set_cons_succ]
      refine wpAnyH_take (i := 54) (v := ?_) rfl (by kernel_rfl) (by kernel_rfl) (by kernel_rfl) (fun _ _ _ h => h) (Or.inl ⟨by rfl, ?hy54⟩) (by assumption) ?_
      case hy54 => (intro w hSw; (try dsimp only at hSw); go_simp; try (with_reducible rfl))
      try simp only [Act.put, List.getElem_toArray, List.getElem_cons_zero, List.getElem_cons_succ, List.setIfInBounds_toArray, List.set_cons_zero, List.set_cons_succ]
      refine wpAnyH_take (i := 55) (v := ?_) rfl (by kernel_rfl) (by kernel_rfl) (by kernel_rfl) (fun _ _ _ h => h) (Or.inl ⟨by rfl, ?hy55⟩) (by assumption) ?_
      case hy55 => (intro w hSw; (try dsimp only at hSw); go_simp; try (with_reducible rfl))
      try simp only [Act.put, List.getElem_toArray, List.getElem_cons_zero, List.getElem_cons_succ, List.setIfInBounds_toArray, List.set_cons_zero, List.set_cons_succ]
      refine wpAnyH_take (i := 56) (v := ?_) rfl (by kernel_rfl) (by kernel_rfl) (by kernel_rfl) (fun _ _ _ h => h) (Or.inl ⟨by rfl, ?hy56⟩) (by assumption) ?_
      case hy56 => (intro w hSw; (try dsimp only at hSw); go_simp; try (with_reducible rfl))
      try simp only [Act.put, List.getElem_toArray, List.getElem_cons_zero, List.getElem_cons_succ, List.setIfInBounds_toArray, List.set_cons_zero, List.set_cons_succ]
      refine wpAnyH_take (i := 57) (v := ?_) rfl (by kernel_rfl) (by kernel_rfl) (by kernel_rfl) (fun _ _ _ h => h) (Or.inl ⟨by rfl, ?hy57⟩) (by assumption) ?_
      case hy57 => (intro w hSw; (try dsimp only at hSw); go_simp; try (with_reducible rfl))
      try simp only [Act.put, List.getElem_toArray, List.getElem_cons_zero, List.getElem_cons_succ, List.setIfInBounds_toArray, List.set_cons_zero, List.set_cons_succ]
      refine wpAnyH_take (i := 58) (v := ?_) rfl (by kernel_rfl) (by kernel_rfl) (by kernel_rfl) (fun _ _ _ h => h) (Or.inl ⟨by rfl, ?hy58⟩) (by assumption) ?_
      case hy58 => (intro w hSw; (try dsimp only at hSw); go_simp; try (with_reducible rfl))
      try simp only [Act.put, List.getElem_toArray, List.getElem_cons_zero, List.getElem_cons_succ, List.setIfInBounds_toArray, List.set_cons_zero, List.set_cons_succ]
      refine wpAnyH_take (i := 60) (v := ?_) rfl (by kernel_rfl) (by kernel_rfl) (by kernel_rfl) (fun _ _ _ h => h) (Or.inl ⟨by rfl, ?hy60⟩) (by assumption) ?_
      case hy60 => (intro w hSw; (try dsimp only at hSw); go_simp; try (with_reducible rfl))
      try simp only [Act.put, List.getElem_toArray, List.getElem_cons_zero, List.getElem_cons_succ, List.setIfInBounds_toArray, List.set_cons_zero, List.set_cons_succ]
      refine wpAnyH_ready (rs := [59]) (by kernel_rfl) (by simp) ?_
      refine AllReadyH.cons rfl (fun K hK => ?_) AllReadyH.nil
      go_simp
      refine (taken_is _ k many c3 c4 many _ _ (H2.out.later BB.out).weak (by rw [SN.out]; simp [St.zero]) TKn.out).mono ?_
      rintro e z9 ⟨rfl, hb⟩
      replace BB := Lib.hid (below_step' BB.out hb)
      clear hb
      go_wp2_with fail
      refine hK.out _ _ ?_ (fun hHeld => ?_)
      · exact QS.out _ BB.out
      clear hK K
      try simp only [Act.put, List.getElem_toArray, List.getElem_cons_zero, List.getElem_cons_succ, List.setIfInBounds_toArray, List.set_cons_zero, List.set_cons_succ]
      refine wpAnyH_take (i := 61) (v := ?_) rfl (by kernel_rfl) (by kernel_rfl) (by kernel_rfl) (fun _ _ _ h => h) (Or.inl ⟨by rfl, ?hy61⟩) (by assumption) ?_
      case hy61 => (intro w hSw; (try dsimp only at hSw); go_simp; try (with_reducible rfl))
      try simp only [Act.put, List.getElem_toArray, List.getElem_cons_zero, List.getElem_cons_succ, List.setIfInBounds_toArray, List.set_cons_zero, List.set_cons_succ]
      refine wpAnyH_take (i := 62) (v := ?_) rfl (by kernel_rfl) (by kernel_rfl) (by kernel_rfl) (fun _ _ _ h => h) (Or.inl ⟨by rfl, ?hy62⟩) (by assumption) ?_
      case hy62 => (intro w hSw; (try dsimp only at hSw); go_simp; try (with_reducible rfl))
      try simp only [Act.put, List.getElem_toArray, List.getElem_cons_zero, List.getElem_cons_succ, List.setIfInBounds_toArray, List.set_cons_zero, List.set_cons_succ]
      refine wpAnyH_take (i := 63) (v := ?_) rfl (by kernel_rfl) (by kernel_rfl) (by kernel_rfl) (fun _ _ _ h => h) (Or.inl ⟨by rfl, ?hy63⟩) (by assumption) ?_
      case hy63 => (intro w hSw; (try dsimp only at hSw); go_simp; try (with_reducible rfl))
      try simp only [Act.put, List.getElem_toArray, List.getElem_cons_zero, List.getElem_cons_succ, List.setIfInBounds_toArray, List.set_cons_zero, List.set_cons_succ]
      refine wpAnyH_ready (rs := [64]) (by kernel_rfl) (by simp) ?_
      refine AllReadyH.cons rfl (fun K hK => ?_) AllReadyH.nil
      go_simp
      refine (fixed4_any _).mono ?_
      rintro e z9 ⟨rfl, hb⟩
      replace BB := Lib.hid (below_step' BB.out hb)
      clear hb
      go_wp2_with fail
      refine hK.out _ _ ?_ (fun hHeld => ?_)
      · exact QS.out _ BB.out
      clear hK K
      try simp only [Act.put, List.getElem_toArray, List.getElem_cons_zero, List.getElem_cons_succ, List.setIfInBounds_toArray, List.set_cons_zero, List.set_cons_succ]
      refine wpAnyH_take (i := 65) (v := ?_) rfl (by kernel_rfl) (by kernel_rfl) (by kernel_rfl) (fun _ _ _ h => h) (Or.inl ⟨by rfl, ?hy65⟩) (by assumption) ?_
      case hy65 => (intro w hSw; (try dsimp only at hSw); go_simp; try (with_reducible rfl))
      try simp only [Act.put, List.getElem_toArray, List.getElem_cons_zero, List.getElem_cons_succ, List.setIfInBounds_toArray, List.set_cons_zero, List.set_cons_succ]
      refine wpAnyH_take (i := 66) (v := ?_) rfl (by kernel_rfl) (by kernel_rfl) (by kernel_rfl) (fun _ _ _ h => h) (Or.inl ⟨by rfl, ?hy66⟩) (by assumption) ?_
      case hy66 => (intro w hSw; (try dsimp only at hSw); go_simp; try (with_reducible rfl))
      try simp only [Act.put, List.getElem_toArray, List.getElem_cons_zero, List.getElem_cons_succ, List.setIfInBounds_toArray, List.set_cons_zero, List.set_cons_succ]
      refine wpAnyH_done (by kernel_rfl) ?_ _
      go_wp2_with fail
      go_ret
      exact ⟨rfl, below_step (Nat.le_trans T.out.bel.size BW.out.size) (below_step T.out.bel.size T.out.bel BW.out) BB.out⟩
  · have hrf : r = false := by
      cases r with
      | false => rfl
      | true => exact absurd (HR.out.1 rfl) hG
    subst hrf
    clear hG
    have z0 := T.out.b0
    have z1 := T.out.b1
    go_wp2_with fail
    refine (tright_at N0 _ L M _ false _ HC.out.weak T.out.l HW.out hn6 hsm HR.out).mono ?_
    rintro e x5 ⟨rfl, hb⟩
    replace T := Lib.hid (T.out.below hb)
    clear hb z0 z1
    go_wp2_with fail
    refine (fixed4_any _).mono ?_
    rintro e x6 ⟨rfl, hb⟩
    replace T := Lib.hid (T.out.below hb)
    clear hb
    go_wp2_with fail
    go_ret
    exact ⟨rfl, T.out.bel⟩
end Go.Proofs.Ytgoioibfecgopaa
