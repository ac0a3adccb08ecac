/- Dist, walked. -/
import Derived.Test.YtegpdfocfohkcaaGrM
import Derived.WalkMore
namespace Go.Proofs.Ytegpdfocfohkcaa
open Go.RowKit Go.PlainAid

theorem intsAt_slice {w : World} {v : Value} {xs : List Int} (h : IntsAt w v xs) : ∃ a cap, v = .slice a xs.length cap := by
  rcases h with ⟨a, cap, rfl, rfl⟩ | ⟨b, off, len, cap, rfl, hl, -⟩
  · exact ⟨a, cap, rfl⟩
  · exact ⟨_, cap, by rw [hl]⟩

theorem rep_at (b g : Nat) (N : Nat) (w : World) (hg : g = w.heap.size) (h0 : 1 ≤ N) (h6 : N ≤ 6) (hc : w.cell? ⟨b, 0, none⟩ = some (.int .i64 (-1))) :
    Calls Try.prog 58 #[.slice (some ⟨b, 0, none⟩) 1 1, .int .i64 (N : Int)] w fun e w' => e = .returned (.slice (some ⟨g, 0, none⟩) N N) ∧ w'.heap[g]? = some (.cells (ivs (List.replicate N (-1))).toArray 3 (0, 0)) ∧ Below w.heap.size w w' := by
  subst hg
  refine (repeat_any b N w h0 h6 hc).mono ?_
  rintro e w' ⟨rfl, h1, h2⟩
  refine ⟨rfl, ?_, h2⟩
  rw [h1]
  simp [mix, ivs]

theorem dist_no (N n : Int) (v : Value) (w : World) (h : ¬ (0 ≤ n ∧ n < N)) :
    Calls Try.prog 43 #[gv N v, .int .i64 n] w fun e w' => e = .returned (.slice none 0 0) ∧ Below w.heap.size w w' := by
  have hb : Below w.heap.size w (w.alloc (.cells #[.int .i64 N, v] 25)) := (Below.refl _ w).alloc (Nat.le_refl _) _
  have Hb := Lib.hid hb
  unfold gv
  clear hb
  go_enter Try.func43, Try.ntmps43
  go_wp2_with fail
  go_step3
  go_wp2_with fail
  refine (has_any N n v false _ (decide_eq_false h)).mono ?_
  rintro e w1 ⟨rfl, hb1⟩
  have Hb1 := Lib.hid hb1
  clear hb1 h
  go_wp2_with fail
  try rw [Exit.noGoto_ret]
  go_ret
  exact ⟨rfl, below_step (by simp) Hb.out Hb1.out⟩

theorem out_at (N n : Int) (v : Value) (L : Lks) (O : List Int) (w : World) (h : LinksAt w v L) (hn : L.length ≤ 1000000) (hO : O = sel 0 L n) :
    Calls Try.prog 59 #[gv N v, .int .i64 n] w fun z w' => ∃ u, z = .returned u ∧ IntsAt w' u O ∧ (∀ k, u.ownBlock = some k → w.heap.size ≤ k) ∧ Below w.heap.size w w' := by
  subst hO; exact out_any N n v L w h hn

set_option maxHeartbeats 2000000 in
set_option maxRecDepth 100000 in
theorem dist_some (N a : Nat) (v : Value) (L : Lks) (w : World) (hL : LinksAt w v L) (hR : InR N L) (h1 : 1 ≤ N) (h6 : N ≤ 6) (ha : a < N) (hn : L.length ≤ 1000000) :
    Calls Try.prog 43 #[gv N v, .int .i64 (a : Int)] w fun e w' => ∃ u D, e = .returned u ∧ IsDist N L a D ∧ IntsAt w' u D ∧ Below w.heap.size w w' := by
  obtain ⟨i0, hi0, hz0, hz1, hz2⟩ := info_parts infoInt
  obtain ⟨w0, hw0⟩ : ∃ w0, w0 = w.alloc (.cells #[.int .i64 (N : Int), v] 25) := ⟨_, rfl⟩
  have bel0 : Below w.heap.size w w0 := by rw [hw0]; exact (Below.refl _ w).alloc (Nat.le_refl _) _
  have bx0 : w0.heap[w.heap.size]? = some (.cells #[.int .i64 (N : Int), v] 25 (0, 0)) := by rw [hw0]; exact heap_alloc_new w _
  have s0 : w0.heap.size = w.heap.size + 1 := by rw [hw0]; simp
  have x0 : w0.cell? ⟨w.heap.size, 0, none⟩ = some (.int .i64 (N : Int)) := (cell_of_row w0 _ 0 _ _ (0, 0) bx0).trans rfl
  have x1 : w0.cell? ⟨w.heap.size, 1, none⟩ = some v := (cell_of_row w0 _ 1 _ _ (0, 0) bx0).trans rfl
  have B0 := Lib.hid bel0
  have X0 := Lib.hid bx0
  have S0 := Lib.hid s0
  have HL := Lib.hid hL
  unfold gv
  clear bel0 bx0 hL s0
  go_enter Try.func43, Try.ntmps43
  go_wp2_with fail
  go_step3
  go_wp2_with fail
  rw [← hw0]
  clear hw0
  refine (has_any N a v true _ (decide_eq_true ⟨by omega, by omega⟩)).mono ?_
  rintro e w1 ⟨rfl, hb1⟩
  have y0 := (hb1.cell (by rw [S0.out]; simp)).trans x0
  have y1 := (hb1.cell (by rw [S0.out]; simp)).trans x1
  have B1 := Lib.hid hb1
  obtain ⟨g, hg⟩ : ∃ g, g = (w1.alloc (.cells #[.int .i64 (-1)] 3)).heap.size := ⟨_, rfl⟩
  have HG := Lib.hid hg
  have hc : (w1.alloc (.cells #[.int .i64 (-1)] 3)).cell? ⟨w1.heap.size, 0, none⟩ = some (.int .i64 (-1)) := World.cell?_alloc_at _ _ _ _ rfl
  have HC := Lib.hid hc
  have y2 : (w1.alloc (.cells #[.int .i64 (-1)] 3)).cell? ⟨w.heap.size, 0, none⟩ = some (.int .i64 (N : Int)) := (World.cell?_alloc_lt _ _ _ (World.block_lt_of_cell? w1 _ y0)).trans y0
  clear hb1 x0 x1 hg hc
  go_wp2_with fail
  refine (rep_at _ g N _ HG.out h1 h6 HC.out).mono ?_
  rintro e w2 ⟨rfl, hd2, hb2⟩
  have hD : DAt w 25 N v g w2 (List.replicate N (-1)) := by
    have hg := HG.out
    rw [size_alloc] at hg
    have hz1 := B1.out.size
    have hs0 := S0.out
    refine ⟨?_, ?_, hd2, by omega⟩
    · exact below_step (by rw [size_alloc]; omega) ((below_step (by omega) B0.out B1.out).alloc (by omega) _) hb2
    · rw [hb2.block _ (by rw [size_alloc]; omega), heap_alloc_old _ _ (by omega), B1.out.block _ (by omega)]; exact X0.out
  have z0 := hD.box0
  have z1 := hD.box1
  have zc := hD.cell (y := a) (by simp; omega)
  have zf := hD.free a
  have hlt := hD.lt
  have HD := Lib.hid hD
  clear hd2 hb2 hD
  have hD3 : DAt w 25 N v g ((w2.setCell ⟨g, a, none⟩ (.int .i64 0)).alloc (.cells #[.int .i64 (a : Int)] 3)) ((List.replicate N (-1)).set a 0) :=
    (HD.out.set a 0).below ((Below.refl _ _).alloc (Nat.le_refl _) _)
  have hQ3 : QAt g ((w2.setCell ⟨g, a, none⟩ (.int .i64 0)).alloc (.cells #[.int .i64 (a : Int)] 3)) (.slice (some ⟨w2.heap.size, 0, none⟩) 1 1) [a] := by
    have := QAt.one g (w2.setCell ⟨g, a, none⟩ (.int .i64 0)) a (by rw [World.size_setCell]; exact hlt)
    rw [World.size_setCell] at this
    exact this
  have HD3 := Lib.hid hD3
  have HQ3 := Lib.hid hQ3
  clear hD3 hQ3
  go_wp2_with fail
  go_step3
  go_wp2_with fail
  clear z0 z1 zc zf y0 y1 y2
  go_loopw [6, 7] (fun q i wr => ∃ (D : List Int) (Q : List Nat) (k : Nat), i = .int .i64 k ∧ DAt w 25 N v g wr D ∧ QAt g wr q Q ∧ BFS N L a D Q k ∧ k ≤ Q.length) (fun _ i _ => 8 - (intOf i).toNat)
  case atStart => exact ⟨_, [a], 0, rfl, HD3.out, HQ3.out, BFS.start ha, by omega⟩
  case round =>
    obtain ⟨D, Q, k, rfl, hD, hQ, hB, hk⟩ := hrel
    have hQl := hB.le
    obtain ⟨b, c, rfl, hgb, hbl, hqc⟩ := hQ.form (List.length_pos_of_mem hB.src)
    have HD1 := Lib.hid hD
    have HQ1 := Lib.hid hQ
    have HB1 := Lib.hid hB
    have z0 := hD.box0
    have z1 := hD.box1
    have hsz := hD.size
    have hglt := hD.lt
    by_cases hlt2 : k < Q.length
    · have hlt' : (k : Int) < Q.length := by omega
      have qc := hqc k hlt2
      obtain ⟨u, hu⟩ : ∃ u, u = Q.getD k 0 := ⟨_, rfl⟩
      rw [← hu] at qc
      obtain ⟨O, hO⟩ : ∃ O, O = sel 0 L (u : Int) := ⟨_, rfl⟩
      have HO := Lib.hid hO
      have hOl : O.length ≤ 1000000 := by rw [hO]; exact Nat.le_trans (selL_length _ _) hn
      have HU := Lib.hid hu
      have HL1 := Lib.hid (HL.out.below (hD.bel))
      clear hD hQ hB hqc hu hO
      obtain ⟨wo, hwo⟩ : ∃ wo, wo = wr := ⟨_, rfl⟩
      subst hwo
      go_wp2_with fail
      go_region_held3 (fun w' => w'.cell? ⟨w.heap.size, 0, none⟩ = some (.int .i64 (N : Int)) ∧ w'.cell? ⟨w.heap.size, 1, none⟩ = some v ∧ w'.cell? ⟨b, k, none⟩ = some (.int .i64 (u : Int))) (first | exact ⟨z0, z1, qc⟩ | exact K1.out)
        (first
          | (go_at_call 59; refine (out_at N u v L O _ (show LinksAt wo.drew v L from HL1.out.below (below_drewN (Below.refl _ wo) 1)) hn HO.out).mono ?_; rintro e w4 ⟨uo, rfl, hi, hfr, hb0⟩; have hb1 : Below wo.heap.size wo w4 := (below_drewN (Below.refl _ wo) 1).trans hb0; obtain ⟨ao, co, rfl⟩ := intsAt_slice hi; have K1 := Lib.hid (show w4.cell? ⟨w.heap.size, 0, none⟩ = some (.int .i64 (N : Int)) ∧ w4.cell? ⟨w.heap.size, 1, none⟩ = some v ∧ w4.cell? ⟨b, k, none⟩ = some (.int .i64 (u : Int)) from ⟨(hb1.cell (by exact hsz)).trans z0, (hb1.cell (by exact hsz)).trans z1, (hb1.cell (by exact hbl)).trans qc⟩); have HI := Lib.hid hi; have HF := Lib.hid hfr; have HB4 := Lib.hid hb1; clear hb1 hb0 hi hfr))
      go_wp2_with fail
      have hO4 : OAt g w4 (.slice (some ⟨b, 0, none⟩) Q.length c) (.slice ao O.length co) O :=
        OAt.start (w0 := wo) HI.out (fun k hk => HF.out k hk) hglt (fun k hk => by simp [Value.ownBlock] at hk; omega)
      have HO4 := Lib.hid hO4
      have HD4 := Lib.hid (HD1.out.below HB4.out)
      have HQ4 := Lib.hid (HQ1.out.grown HB4.out)
      clear hO4 z0 z1 qc
      go_loopw [6, 37] (fun q j wr => ∃ (D : List Int) (Q : List Nat) (m : Nat), j = .int .i64 m ∧ m ≤ O.length ∧ DAt w 25 N v g wr D ∧ QAt g wr q Q ∧ BFS N L a D Q k ∧ k < Q.length ∧ Q.getD k 0 = u ∧ OAt g wr q (.slice ao O.length co) O ∧ ∀ j, j < m → (lk L (O.getD j 0).toNat).2.toNat ∈ Q) (fun _ j _ => O.length - (intOf j).toNat)
      case atStart => exact ⟨D, Q, 0, rfl, by omega, HD4.out, HQ4.out, HB1.out, hlt2, HU.out.symm, HO4.out, fun j hj => by omega⟩
      case round =>
        obtain ⟨D2, Q2, m, rfl, hm, hD2, hQ2, hB2, hk2, hu2, hO2, hall⟩ := hrel
        have hQl2 := hB2.le
        obtain ⟨b2, c2, rfl, hgb2, hbl2, hqc2⟩ := hQ2.form (by omega)
        have qc2 := hqc2 k hk2
        rw [hu2] at qc2
        have HD2 := Lib.hid hD2
        have HQ2 := Lib.hid hQ2
        have HB2 := Lib.hid hB2
        have HU2 := Lib.hid hu2
        have HO2 := Lib.hid hO2
        have HA := Lib.hid hall
        have z0 := hD2.box0
        have z1 := hD2.box1
        have hsz2 := hD2.size
        by_cases hmt : m < O.length
        · have hmt' : (m : Int) < O.length := by omega
          obtain ⟨l, hl1, hl2, hl3⟩ := outs_get (L := L) (n := (u : Int)) (m := m) (by rw [← HO.out]; exact hmt)
          rw [← HO.out] at hl1
          rcases id hO2 with ⟨a0, cap0, e0, e1⟩ | ⟨ob, oo, olen, ocap, e0, e1, e2, e3, e4, e5, e6, e7⟩
          · rw [e1] at hmt; simp at hmt
          · simp only [Value.slice.injEq] at e0
            obtain ⟨rfl, e0b, rfl⟩ := e0
            have oc := e7 m (by omega)
            rw [hl1] at oc
            have hr := hR _ (lk_mem hl2)
            obtain ⟨to, hto⟩ : ∃ to : Nat, (lk L l).2 = (to : Int) := ⟨(lk L l).2.toNat, by omega⟩
            have htoN : to < N := by omega
            have htoD : to < D2.length := by rw [hB2.len]; exact htoN
            have huN : u < N := by have := (hB2.far _ (getD_mem hk2)).1; rw [hu2] at this; exact this
            rcases id (HL.out.below hD2.bel) with ⟨a0, cap0, e0', e1'⟩ | ⟨lb, lo, llen, lcap, rfl, f1, f2, f3, f4, f5⟩
            · rw [e1'] at hl2; simp at hl2
            · have lc := (f5 l (by omega)).2
              rw [hto] at lc
              have tc := hD2.cell htoD
              have uc := hD2.cell (y := u) (by rw [hB2.len]; exact huN)
              have tf := hD2.free to
              have hll : l < llen := by omega
              have hll' : (l : Int) < llen := by omega
              obtain ⟨dt, hdt⟩ : ∃ dt, dt = D2.getD to (-1) := ⟨_, rfl⟩
              obtain ⟨du, hdu⟩ : ∃ du, du = D2.getD u (-1) := ⟨_, rfl⟩
              rw [← hdt] at tc
              rw [← hdu] at uc
              have hdub : 0 ≤ du ∧ du < N := by
                obtain ⟨_, kk, hkk, hfk⟩ := hB2.far _ (getD_mem hk2)
                rw [hu2] at hkk
                have := far_lt hR ha hfk
                omega
              have HDT := Lib.hid hdt
              have HDU := Lib.hid hdu
              have HLK := Lib.hid (show lk L l = ((u : Int), (to : Int)) by rw [← hl3, ← hto])
              have HL3 := Lib.hid hl1
              have hl0 := hl2
              clear hD2 hQ2 hB2 hu2 hO2 hall hqc2 e7 f5 hr hl1 hl3 hto hdt hdu e1 f1 htoD e0b
              by_cases hd : dt = -1
              · subst hd
                have hwr : IntKind.i64.wrap (du + 1) = du + 1 := IntWalk.i64_in _ (by omega)
                go_wp2_with (at_builtin; refine wpList_append_lies _ rfl _ _ 26 rfl (g + 1) 3 i0 (.int .i64 0) 1 8 Try.underlying26 hi0 hz0 hz1 hz2 rfl (by decide) _ _ _ rfl (((HQ2.out.set to (.int .i64 (du + 1)))).grown ((Below.refl _ _).alloc (Nat.le_refl _) _)) ⟨wr.heap.size, 0, none⟩ 1 1 [.int .i64 (to : Int)] rfl rfl (cell_one_at _ _ _ _ (World.size_setCell _ _ _).symm) ?c2 (by omega) ?c3 ?c4 ?c5 (wr.heap.size + 1) ?c6 ?_)
                case c2 => intro u hu; simp at hu; subst hu; rfl
                case c3 => unfold maxLen; omega
                case c4 => omega
                case c5 => rw [size_alloc, World.size_setCell]; omega
                case c6 => rw [size_alloc, World.size_setCell]
                intro gq cq w5 hown hg5 hor hlt5
                have hD5 : DAt w 25 N (.slice (some ⟨lb, lo, none⟩) llen lcap) g w5 (D2.set to (du + 1)) :=
                  ((HD2.out.set to (du + 1)).below ((Below.refl _ _).alloc (Nat.le_refl _) _)).grown hg5 (fun k hk => by simp [Value.ownBlock] at hk; omega)
                have hQ5 : QAt g w5 (.slice (some ⟨gq, 0, none⟩) (Q2.length + 1) cq) (Q2 ++ [to]) := by
                  unfold QAt
                  rw [List.length_append, show nvs (Q2 ++ [to]) = nvs Q2 ++ [.int .i64 (to : Int)] by simp [nvs]]
                  exact hown
                have hmem : (((Q2.getD k 0 : Nat) : Int), (to : Int)) ∈ L := by rw [HU2.out, ← HLK.out]; exact lk_mem hl0
                have hB5 : BFS N L a (D2.set to (du + 1)) (Q2 ++ [to]) k := by
                  have := HB2.out.assign hR ha hk2 htoN hmem HDT.out.symm
                  rw [HU2.out, ← HDU.out] at this
                  exact this
                have hO5 : OAt g w5 (.slice (some ⟨gq, 0, none⟩) (Q2.length + 1) cq) (.slice (some ⟨ob, oo, none⟩) O.length co) O :=
                  (HO2.out.set to (.int .i64 (du + 1))).grown ((Below.refl _ _).alloc (Nat.le_refl _) _) hg5 hor (by rw [World.size_setCell]; omega)
                have hall' : ∀ j, j < m + 1 → (lk L (O.getD j 0).toNat).2.toNat ∈ Q2 ++ [to] := by
                  intro j hj
                  by_cases hjm : j < m
                  · exact List.mem_append_left _ (HA.out j hjm)
                  · obtain rfl : j = m := by omega
                    rw [HL3.out, Int.toNat_natCast, HLK.out, Int.toNat_natCast]; simp
                have w0c := hD5.box0
                have hkq : k < (Q2 ++ [to]).length := by rw [List.length_append]; omega
                have huq : (Q2 ++ [to]).getD k 0 = u := by rw [getD_left hk2]; exact HU2.out
                have HD5 := Lib.hid hD5
                have HQ5 := Lib.hid hQ5
                have HB5 := Lib.hid hB5
                have HO5 := Lib.hid hO5
                have HA5 := Lib.hid hall'
                have HK5 := Lib.hid hkq
                have HU5 := Lib.hid huq
                clear hown hg5 hor hlt5 hD5 hQ5 hmem hB5 hO5 hall' hkq huq tc uc tf qc2 oc lc z0 z1
                by_cases hN : Q2.length + 1 = N
                · have hnn : ((Q2.length : Int) + 1 == (N : Int)) = true := by rw [beq_iff_eq]; omega
                  have hE := HB5.out.full (by rw [List.length_append]; exact hN)
                  have HE := Lib.hid hE
                  clear hE hN
                  go_wp2_with fail
                  try rw [Exit.noGoto_ret]
                  go_ret
                  exact ⟨_, _, rfl, HE.out, HD5.out.ints HE.out.1 h1, HD5.out.bel⟩
                · have hnn : ((Q2.length : Int) + 1 == (N : Int)) = false := by rw [beq_eq_false_iff_ne]; omega
                  clear hN
                  go_wp2_with fail
                  exact ⟨⟨_, _, m + 1, by go_num, by omega, HD5.out, HQ5.out, HB5.out, HK5.out, HU5.out, HO5.out, HA5.out⟩, by simp [intOf]; omega⟩
              · have hd' : (dt != -1) = true := by rw [bne_iff_ne]; exact hd
                have hin : to ∈ Q2 := Classical.byContradiction fun hq => hd (HDT.out.trans (HB2.out.ass to htoN hq))
                have hall' : ∀ j, j < m + 1 → (lk L (O.getD j 0).toNat).2.toNat ∈ Q2 := by
                  intro j hj
                  by_cases hjm : j < m
                  · exact HA.out j hjm
                  · obtain rfl : j = m := by omega
                    rw [HL3.out, Int.toNat_natCast, HLK.out, Int.toNat_natCast]; exact hin
                have HA' := Lib.hid hall'
                clear hd hin hall'
                go_wp2_with fail
                exact ⟨⟨D2, Q2, m + 1, by go_num, by omega, HD2.out, HQ2.out, HB2.out, hk2, HU2.out, HO2.out, HA'.out⟩, by simp [intOf]; omega⟩
        · have hmt' : ¬ (m : Int) < O.length := by omega
          have hnext : BFS N L a D2 Q2 (k + 1) := HB2.out.next hk2 (fun z hz => by
            rw [HU2.out] at hz
            obtain ⟨j, hj, he⟩ := outs_all hz
            rw [← HO.out] at hj he
            have := HA.out j (by omega)
            rw [he, Int.toNat_natCast] at this
            exact this)
          have HN := Lib.hid hnext
          clear hnext hD2 hQ2 hB2 hu2 hO2 hall hqc2 qc2
          go_wp2_with fail
          exact ⟨⟨D2, Q2, k + 1, by go_num, HD2.out, HQ2.out, HN.out, by omega⟩, by simp [intOf]; omega⟩
    · have hlt' : ¬ (k : Int) < Q.length := by omega
      have hend := HB1.out.stop hR ha (by omega)
      have HE := Lib.hid hend
      clear hend hD hQ hB hqc
      go_wp2_with fail
      try rw [Exit.noGoto_ret]
      go_ret
      exact ⟨_, _, rfl, HE.out, HD1.out.ints HE.out.1 h1, HD1.out.bel⟩
end Go.Proofs.Ytegpdfocfohkcaa
