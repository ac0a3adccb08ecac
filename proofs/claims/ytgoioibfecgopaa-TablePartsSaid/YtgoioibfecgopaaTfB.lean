/- TableParts, walked. Written by gen_parts.py. -/
import Derived.Test.YtgoioibfecgopaaTfK
import Derived.Test.YtgoioibfecgopaaBa3
import Derived.Test.YtgoioibfecgopaaTbF
import Derived.Test.YtgoioibfecgopaaTdB
import Derived.BigQuiet
set_option linter.unusedSimpArgs false
namespace Go.Proofs.Ytgoioibfecgopaa
open Go.RowKit Go.PlainAid

/-- A pick's box, and what it sends. -/
structure PickAt (pb : Nat) (pn : Int) (sa : Option Addr) (sl sc : Nat) (ss : Lks) (wr : World) : Prop where
  k0 : wr.cell? ⟨pb, 0, none⟩ = some (.int .i64 pn)
  k1 : wr.cell? ⟨pb, 1, none⟩ = some (.slice sa sl sc)
  hs : Has wr (.slice sa sl sc) (dLinks ss)
theorem PickAt.below {pb : Nat} {pn : Int} {sa : Option Addr} {sl sc : Nat} {ss : Lks} {wr w' : World} (h : PickAt pb pn sa sl sc ss wr) (hb : Below wr.heap.size wr w') : PickAt pb pn sa sl sc ss w' := by
  have k := fun (p : Addr) (v : Value) (e : wr.cell? p = some v) => (hb.cell (World.block_lt_of_cell? wr _ e)).trans e
  exact ⟨k _ _ h.k0, k _ _ h.k1, h.hs.later hb⟩
theorem PickAt.at {pb : Nat} {pn : Int} {sb so sl sc j : Nat} {ss : Lks} {wr : World} {q1 q2 : Int} (h : PickAt pb pn (some ⟨sb, so, none⟩) sl sc ss wr) (hq : ss[j]? = some (q1, q2)) : wr.cell? ⟨sb, so + j * 2, none⟩ = some (.int .i64 q1) := by
  obtain ⟨b, o, e, y, _⟩ := link_at h.hs hq
  cases e
  exact y

set_option maxHeartbeats 8000000 in
set_option maxRecDepth 100000 in
theorem walkTableParts (v0 : Value) (M0 : Tab) (N0 : Int) (u0 : Value) (G0 : Lks) (w : World) (wT : Has w v0 (dTab M0)) (wL0 : LinksAt w u0 G0) (wW0 : ∀ p ∈ G0, wfp p) :
    Calls Try.prog 4 #[v0, .agg #[.int .i64 N0, u0]] w fun e w' => e = .returned (.bool true) ∧ Below w.heap.size w w' := by
  obtain ⟨a, cap, hv⟩ := wL0.at
  subst hv
  have HL0 := Lib.hid wL0
  have HT0 := Lib.hid wT
  have HM := Lib.hid (linksAt_cut wL0)
  have hW := wf_take wW0
  have hMl := take_le G0
  obtain ⟨L, hLe⟩ : ∃ L, L = G0.take 40 := ⟨_, rfl⟩
  obtain ⟨M, hMe⟩ : ∃ M, M = cutT M0 := ⟨_, rfl⟩
  have HLe := Lib.hid hLe
  have HMe := Lib.hid hMe
  rw [← hLe] at HM hW hMl
  have HW := Lib.hid hW
  have hn6 : L.length ≤ 1000000 := by omega
  have hsm : SmallTab M := by rw [hMe]; exact cutT_small M0
  obtain ⟨r, hr⟩ := bool_some (TabOK N0 L M)
  have HR := Lib.hid hr
  clear wT wL0 wW0 hW hLe hMe hr
  go_enter Try.func4, Try.ntmps4
  try simp only [List.append_eq, List.cons_append, List.nil_append]
  go_wp2_with fail
  refine (cutT_at M0 _ _ (HT0.out.later (show Below w.heap.size w _ by go_grown))).mono ?_
  rintro e x0 ⟨u, rfl, hu, hb0⟩
  rw [← HMe.out] at hu
  have HC := Lib.hid hu
  have B0 := Lib.hid (below_step (by simp <;> omega) (show Below w.heap.size w _ by go_grown) hb0)
  have g0 : x0.cell? ⟨w.heap.size, 0, none⟩ = some (.int .i64 N0) := (hb0.cell (by simp <;> omega)).trans (by go_cell)
  have g1 : x0.cell? ⟨w.heap.size, 1, none⟩ = some (.slice a G0.length cap) := (hb0.cell (by simp <;> omega)).trans (by go_cell)
  have gb : Below (w.alloc (.cells #[.int .i64 N0, .slice a G0.length cap] 25)).heap.size (w.alloc (.cells #[.int .i64 N0, .slice a G0.length cap] 25)) x0 := below_step (by simp <;> omega) (show Below _ (w.alloc (.cells #[.int .i64 N0, .slice a G0.length cap] 25)) _ by go_grown) hb0
  have GB := Lib.hid gb
  clear hu hb0 gb
  go_wp2_with fail
  refine (cut_at a cap G0 N0 _ (HL0.out.below B0.out)).mono ?_
  rintro e x1 ⟨rfl, hb⟩
  rw [← HLe.out]
  simp only [gv]
  replace HC := Lib.hid (HC.out.later hb)
  obtain ⟨hbox, x2, hx2, hK⟩ := law_box (below_step GB.out.size GB.out hb) HM.out
  have q0 := hbox.1
  have q1 := hbox.2.1
  have q2 := hbox.2.2.1
  have q3 := hbox.2.2.2
  replace HC := Lib.hid (show Holds True (fun k => w.heap.size < k) x2 u (dTab M) from by
    rw [hx2]
    have h1 := HC.out.wide (P' := fun k => w.heap.size < k) (fun k _ hk => by have hk : (w.alloc (.cells #[.int .i64 N0, .slice a G0.length cap] 25)).heap.size ≤ k := hk; simp at hk; omega)
    exact h1.same (((SameOn.refl _ _).set _ _ (fun h => by simp at h)).set _ _ (fun h => by simp at h)))
  have T := Lib.hid hK
  clear hb hbox hK g0 g1
  have z0 := T.out.b0
  have z1 := T.out.b1
  go_wp2_with fail
  rw [← hx2]
  clear hx2 q0 q1 q2 q3
  replace T := Lib.hid (T.out.below (below_drewN (Below.refl _ x2) 1))
  replace HC := Lib.hid (HC.out.later (below_drewN (Below.refl _ x2) 1))
  clear z0 z1
  refine wp_region_held_drew (S := (fun w' => w'.cell? ⟨w.heap.size, 0, none⟩ = some (.int .i64 N0) ∧ w'.cell? ⟨w.heap.size, 1, none⟩ = some (.slice a L.length cap))) (by kernel_rfl) ?_ (fun hHeld => ?_)
  · exact ⟨T.out.b0, T.out.b1⟩
  refine wpAnyH_take (i := 0) (v := ?_) rfl (by kernel_rfl) (by kernel_rfl) (by kernel_rfl) (fun _ _ _ h => h) (Or.inl ⟨by rfl, ?hy0⟩) (by assumption) ?_
  case hy0 => (intro w hSw; (try dsimp only at hSw); go_simp; try (with_reducible rfl))
  try simp only [Act.put, List.getElem_toArray, List.getElem_cons_zero, List.getElem_cons_succ, List.setIfInBounds_toArray, List.set_cons_zero, List.set_cons_succ]
  refine wpAnyH_take (i := 2) (v := ?_) rfl (by kernel_rfl) (by kernel_rfl) (by kernel_rfl) (fun _ _ _ h => h) (Or.inl ⟨by rfl, ?hy2⟩) (by assumption) ?_
  case hy2 => (intro w hSw; (try dsimp only at hSw); go_simp; try (with_reducible rfl))
  try simp only [Act.put, List.getElem_toArray, List.getElem_cons_zero, List.getElem_cons_succ, List.setIfInBounds_toArray, List.set_cons_zero, List.set_cons_succ]
  refine wpAnyH_ready (rs := [1]) (by kernel_rfl) (by simp) ?_
  refine AllReadyH.cons rfl (fun K hK => ?_) AllReadyH.nil
  go_simp
  refine (ref4_at M u _ HC.out.weak hsm).mono ?_
  rintro e x3 ⟨u2, rfl, hu2, hb⟩
  replace T := Lib.hid (T.out.below hb)
  replace HC := Lib.hid (HC.out.later hb)
  have HR2 := Lib.hid hu2
  clear hu2 hb
  go_wp2_with fail
  refine hK.out _ _ ?_ (fun hHeld => ?_)
  · exact ⟨T.out.b0, T.out.b1⟩
  clear hK K
  try simp only [Act.put, List.getElem_toArray, List.getElem_cons_zero, List.getElem_cons_succ, List.setIfInBounds_toArray, List.set_cons_zero, List.set_cons_succ]
  refine wpAnyH_ready (rs := [3]) (by kernel_rfl) (by simp) ?_
  refine AllReadyH.cons rfl (fun K hK => ?_) AllReadyH.nil
  go_simp
  refine (ref_slice _ _ _ _ _).mono ?_
  rintro e x3 ⟨rfl, hb⟩
  replace T := Lib.hid (T.out.below hb)
  replace HC := Lib.hid (HC.out.later hb)
  have HR2 := Lib.hid (HR2.out.later hb)
  clear hb
  go_wp2_with fail
  refine hK.out _ _ ?_ (fun hHeld => ?_)
  · exact ⟨T.out.b0, T.out.b1⟩
  clear hK K
  try simp only [Act.put, List.getElem_toArray, List.getElem_cons_zero, List.getElem_cons_succ, List.setIfInBounds_toArray, List.set_cons_zero, List.set_cons_succ]
  refine wpAnyH_ready (rs := [4]) (by kernel_rfl) (by simp) ?_
  refine AllReadyH.cons rfl (fun K hK => ?_) AllReadyH.nil
  go_simp
  refine (rright4_at N0 _ L M _ r _ HR2.out T.out.l hn6 hsm HR.out).mono ?_
  rintro e x4 ⟨rfl, hb⟩
  replace T := Lib.hid (T.out.below hb)
  replace HC := Lib.hid (HC.out.later hb)
  clear hb
  go_wp2_with fail
  refine hK.out _ _ ?_ (fun hHeld => ?_)
  · exact ⟨T.out.b0, T.out.b1⟩
  clear hK K
  try simp only [Act.put, List.getElem_toArray, List.getElem_cons_zero, List.getElem_cons_succ, List.setIfInBounds_toArray, List.set_cons_zero, List.set_cons_succ]
  refine wpAnyH_take (i := 5) (v := ?_) rfl (by kernel_rfl) (by kernel_rfl) (by kernel_rfl) (fun _ _ _ h => h) (Or.inl ⟨by rfl, ?hy5⟩) (by assumption) ?_
  case hy5 => (intro w hSw; (try dsimp only at hSw); go_simp; try (with_reducible rfl))
  try simp only [Act.put, List.getElem_toArray, List.getElem_cons_zero, List.getElem_cons_succ, List.setIfInBounds_toArray, List.set_cons_zero, List.set_cons_succ]
  refine wpAnyH_done (by kernel_rfl) ?_ _
  by_cases hG : TabOK N0 L M
  · have hrt : r = true := HR.out.2 hG
    subst hrt
    obtain ⟨N, hN⟩ := Int.eq_ofNat_of_zero_le (show 0 ≤ N0 by have := hG.1.1; omega)
    subst hN
    have h6 : N ≤ 6 := by have := hG.1.2.1; omega
    have h1 : 1 ≤ N := by have := hG.1.1; omega
    have hML : M.length = N := by have := hG.2.1; omega
    have HG := Lib.hid hG
    obtain ⟨x0, hx0⟩ := some_of_lt (l := M) (i := 0) (by rw [hML]; omega)
    obtain ⟨mb, mo, mcap, vs, e, hmb, _, _, _, _⟩ := nd_cells HC.out.weak hx0
    subst e
    replace HC := Lib.hid (show Holds True (fun k => w.heap.size < k) x4 (.slice (some ⟨mb, mo, none⟩) N mcap) (dTab M) from by
      have h := HC.out
      rw [hML] at h
      exact h)
    rw [hML]
    have ML := Lib.hid hML
    clear hG hx0 hmb hML
    go_wp2_with fail
    go_loopw [5] (fun i wr => ∃ n : Nat, i = .int .i64 n ∧ n ≤ N ∧ KAt w N (.slice a L.length cap) L wr ∧ Holds True (fun k => w.heap.size < k) wr (.slice (some ⟨mb, mo, none⟩) N mcap) (dTab M)) (fun i _ => N - (intOf i).toNat)
    case atStart => exact ⟨0, rfl, by omega, T.out, HC.out⟩
    case round =>
      obtain ⟨n, rfl, hkn, hT, hH⟩ := hrel
      have T := Lib.hid hT
      have HC := Lib.hid hH
      clear hT hH
      have z0 := T.out.b0
      by_cases hltn : n < N
      · have hltn' : (n : Int) < N := by omega
        obtain ⟨x, hx⟩ := some_of_lt (l := M) (i := n) (by rw [ML.out]; exact hltn)
        obtain ⟨sa1, sc1, y1, _⟩ := nd_at HC.out.weak hx
        obtain ⟨many, hmany⟩ : ∃ many, many = x.states.length := ⟨_, rfl⟩
        rw [← hmany] at y1
        have hm8 : many ≤ 8 := by rw [hmany]; exact (HG.out.2.2 n x hx).1
        have Hx := Lib.hid hx
        have MN := Lib.hid hmany
        clear hx hmany
        go_wp2_with fail
        clear z0 y1
        go_loopw [7] (fun i wr => ∃ s : Nat, i = .int .i64 s ∧ s ≤ many ∧ KAt w N (.slice a L.length cap) L wr ∧ Holds True (fun k => w.heap.size < k) wr (.slice (some ⟨mb, mo, none⟩) N mcap) (dTab M)) (fun i _ => many - (intOf i).toNat)
        case atStart => exact ⟨0, rfl, by omega, T.out, HC.out⟩
        case round =>
          obtain ⟨s, rfl, hks, hT, hH⟩ := hrel
          have T := Lib.hid hT
          have HC := Lib.hid hH
          clear hT hH
          by_cases hlts : s < many
          · have hlts' : (s : Int) < many := by omega
            have hPO := Lib.hid (place_ok HG.out Hx.out (show s < x.states.length by rw [← MN.out]; exact hlts))
            obtain ⟨m, hm⟩ : ∃ m, m = (stAt M n s).mode := ⟨_, rfl⟩
            have HM1 := Lib.hid hm
            have hm0 : ¬ m < 0 := by have := hPO.out.1.1; have this : 0 ≤ (stAt M n s).mode := this; omega
            have hm2 : ¬ (2 : Int) < m := by have := hPO.out.1.2; have this : (stAt M n s).mode ≤ 2 := this; omega
            obtain ⟨wl, hwl⟩ : ∃ wl, wl = (stAt M n s).waits.length := ⟨_, rfl⟩
            have WL := Lib.hid hwl
            have hmw : (m == 2) = decide (0 < wl) := by
              have := hPO.out.2.1.1
              have this : (stAt M n s).mode = 2 ↔ 0 < (stAt M n s).waits.length := this
              rw [← hm, ← hwl] at this
              rw [Bool.eq_iff_iff]
              simp only [beq_iff_eq, decide_eq_true_eq]
              exact this
            clear hm hwl
            go_wp2_with fail
            refine (mode_is M n s m _ _ HC.out.weak HM1.out.symm).mono ?_
            rintro e wy ⟨rfl, hb⟩
            replace T := Lib.hid (T.out.below hb)
            replace HC := Lib.hid (HC.out.later hb)
            clear hb
            go_wp2_with fail
            refine (waits_at M n s _ _ HC.out.weak (smallSt_at hsm n s).1).mono ?_
            rintro e wy2 ⟨u, rfl, hu, hb⟩
            replace T := Lib.hid (T.out.below hb)
            replace HC := Lib.hid (HC.out.later hb)
            obtain ⟨wa, wc, rfl⟩ := slice_of hu.weak
            rw [← WL.out]
            clear hb hu
            go_wp2_with fail
            clear hmw hm0 hm2
            go_loopw [9] (fun i wr => ∃ k : Nat, i = .int .i64 k ∧ k ≤ 5 ∧ KAt w N (.slice a L.length cap) L wr ∧ Holds True (fun k => w.heap.size < k) wr (.slice (some ⟨mb, mo, none⟩) N mcap) (dTab M)) (fun i _ => 5 - (intOf i).toNat)
            case atStart => exact ⟨0, rfl, by omega, T.out, HC.out⟩
            case round =>
              obtain ⟨k, rfl, hkk, hT, hH⟩ := hrel
              have T := Lib.hid hT
              have HC := Lib.hid hH
              clear hT hH
              by_cases hltk : k < 5
              · have hltk' : (k : Int) < 5 := by omega
                by_cases hpk : k < (stAt M n s).picks.length
                · obtain ⟨p, hp⟩ := some_of_lt (l := (stAt M n s).picks) (i := k) hpk
                  have hpo := hPO.out.2.2.1.2.2 k p hp
                  have hm1 : (stAt M n s).mode = 1 := hPO.out.2.2.1.2.1 (show 0 < (stAt M n s).picks.length by omega)
                  obtain ⟨pn, hpn⟩ := Int.eq_ofNat_of_zero_le hpo.1.1
                  have hpn2 : pn < many := by have h1 := hpo.1.2; have h1 : p.next < (x.states.length : Int) := h1; rw [MN.out]; omega
                  have hmd3 : m = 1 := by rw [HM1.out, hm1]
                  subst hmd3
                  have hk3' : ¬ (3 : Int) < k := by have := hPO.out.2.2.1.1; have this : (stAt M n s).picks.length ≤ 4 := this; omega
                  have hpn3 : ¬ (many : Int) ≤ pn := by omega
                  have hpn4 : ¬ many ≤ pn := by omega
                  have hpn0 : ¬ (pn : Int) < 0 := by omega
                  have HP := Lib.hid hp
                  have HPO := Lib.hid hpo
                  have PN := Lib.hid hpn
                  clear hp hpo hpn hm1
                  go_wp2_with fail
                  refine (picked_yes M n s k p _ _ HC.out.weak HP.out (by have := HPO.out.2.1; omega)).mono ?_
                  rintro e wy ⟨u, rfl, hu, hb⟩
                  replace T := Lib.hid (T.out.below hb)
                  replace HC := Lib.hid (HC.out.later hb)
                  clear hb
                  have hu := hu.weak
                  obtain ⟨sa, sc, rfl⟩ := slice_of hu
                  obtain ⟨sl, hsl⟩ : ∃ sl, sl = p.sends.length := ⟨_, rfl⟩
                  rw [← hsl] at hu ⊢
                  have SL := Lib.hid hsl
                  have HU := Lib.hid hu
                  have hsl4 : sl ≤ 4 := by rw [hsl]; exact HPO.out.2.1
                  clear hu hsl
                  simp only [pkv]
                  rw [PN.out]
                  go_wp2_with fail
                  obtain ⟨wz, hwz⟩ : ∃ wz, wz = (wy.alloc (.cells #[.int .i64 pn, .slice sa sl sc] 46)) := ⟨_, rfl⟩
                  have hbz : Below wy.heap.size wy wz := by rw [hwz]; go_grown
                  have PB := Lib.hid (show PickAt wy.heap.size pn sa sl sc p.sends wz from ⟨by rw [hwz]; go_cell, by rw [hwz]; go_cell, HU.out.later hbz⟩)
                  replace T := Lib.hid (T.out.below hbz)
                  replace HC := Lib.hid (HC.out.later hbz)
                  rw [← hwz]
                  clear hbz hwz hpn2 hpn3 hpn4 hpn0 hk3'
                  obtain ⟨pb, hpb⟩ : ∃ pb, pb = wy.heap.size := ⟨_, rfl⟩
                  rw [← hpb] at PB ⊢
                  clear hpb
                  go_loopw [12] (fun i wr => ∃ j : Nat, i = .int .i64 j ∧ j ≤ sl ∧ KAt w N (.slice a L.length cap) L wr ∧ Holds True (fun k => w.heap.size < k) wr (.slice (some ⟨mb, mo, none⟩) N mcap) (dTab M) ∧ PickAt pb pn sa sl sc p.sends wr) (fun i _ => sl - (intOf i).toNat)
                  case atStart => exact ⟨0, rfl, by omega, T.out, HC.out, PB.out⟩
                  case round =>
                    obtain ⟨j, rfl, hkj, hT, hH, hB⟩ := hrel
                    have T := Lib.hid hT
                    have HC := Lib.hid hH
                    have PB := Lib.hid hB
                    clear hT hH hB
                    have k1 := PB.out.k1
                    by_cases hltj : j < sl
                    · have hltj' : (j : Int) < sl := by omega
                      obtain ⟨⟨q1, q2⟩, hq⟩ := some_of_lt (l := p.sends) (i := j) (by rw [← SL.out]; exact hltj)
                      obtain ⟨sb, so, e, y, _⟩ := link_at PB.out.hs hq
                      subst e
                      have Q := Lib.hid hq
                      obtain ⟨fq, hfq⟩ : ∃ fq, findL L ((n : Int), q1) = fq := ⟨_, rfl⟩
                      have hf0 : ¬ fq < 0 := fun h => findL_neg.1 (show findL L ((n : Int), q1) < 0 by rw [hfq]; exact h) (HPO.out.2.2 j _ hq).1
                      have hf0' : decide (fq < 0) = false := by simpa using hf0
                      have FQ := Lib.hid hfq
                      clear hq hfq
                      go_wp2_with fail
                      clear k1 y
                      replace T := Lib.hid (T.out.below (below_drewN (Below.refl _ wr) 1))
                      replace HC := Lib.hid (HC.out.later (below_drewN (Below.refl _ wr) 1))
                      replace PB := Lib.hid (PB.out.below (below_drewN (Below.refl _ wr) 1))
                      refine wp_region_held_drew (S := (fun w' => w'.cell? ⟨w.heap.size, 0, none⟩ = some (.int .i64 N) ∧ w'.cell? ⟨w.heap.size, 1, none⟩ = some (.slice a L.length cap) ∧ w'.cell? ⟨pb, 1, none⟩ = some (.slice (some ⟨sb, so, none⟩) sl sc) ∧ w'.cell? ⟨sb, so + j * 2, none⟩ = some (.int .i64 q1))) (by kernel_rfl) ?_ (fun hHeld => ?_)
                      · exact ⟨T.out.b0, T.out.b1, PB.out.k1, PB.out.at Q.out⟩
                      refine wpAnyH_take (i := 0) (v := ?_) rfl (by kernel_rfl) (by kernel_rfl) (by kernel_rfl) (fun _ _ _ h => h) (Or.inl ⟨by rfl, ?hy0⟩) (by assumption) ?_
                      case hy0 => (intro w hSw; (try dsimp only at hSw); go_simp; try (with_reducible rfl))
                      try simp only [Act.put, List.getElem_toArray, List.getElem_cons_zero, List.getElem_cons_succ, List.setIfInBounds_toArray, List.set_cons_zero, List.set_cons_succ]
                      refine wpAnyH_take (i := 2) (v := ?_) rfl (by kernel_rfl) (by kernel_rfl) (by kernel_rfl) (fun _ _ _ h => h) (Or.inl ⟨by rfl, ?hy2⟩) (by assumption) ?_
                      case hy2 => (intro w hSw; (try dsimp only at hSw); go_simp; try (with_reducible rfl))
                      try simp only [Act.put, List.getElem_toArray, List.getElem_cons_zero, List.getElem_cons_succ, List.setIfInBounds_toArray, List.set_cons_zero, List.set_cons_succ]
                      refine wpAnyH_take (i := 3) (v := ?_) rfl (by kernel_rfl) (by kernel_rfl) (by kernel_rfl) (fun _ _ _ h => h) (Or.inl ⟨by rfl, ?hy3⟩) (by assumption) ?_
                      case hy3 => (intro w hSw; (try dsimp only at hSw); go_simp; try (with_reducible rfl))
                      try simp only [Act.put, List.getElem_toArray, List.getElem_cons_zero, List.getElem_cons_succ, List.setIfInBounds_toArray, List.set_cons_zero, List.set_cons_succ]
                      refine wpAnyH_take (i := 4) (v := ?_) rfl (by kernel_rfl) (by kernel_rfl) (by kernel_rfl) (fun _ _ _ h => h) (Or.inl ⟨by rfl, ?hy4⟩) (by assumption) ?_
                      case hy4 => (intro w hSw; (try dsimp only at hSw); go_simp; try (with_reducible rfl))
                      try simp only [Act.put, List.getElem_toArray, List.getElem_cons_zero, List.getElem_cons_succ, List.setIfInBounds_toArray, List.set_cons_zero, List.set_cons_succ]
                      refine wpAnyH_take (i := 5) (v := ?_) rfl (by kernel_rfl) (by kernel_rfl) (by kernel_rfl) (fun _ _ _ h => h) (Or.inl ⟨by rfl, ?hy5⟩) (by assumption) ?_
                      case hy5 => (intro w hSw; (try dsimp only at hSw); go_simp; try (with_reducible rfl))
                      try simp only [Act.put, List.getElem_toArray, List.getElem_cons_zero, List.getElem_cons_succ, List.setIfInBounds_toArray, List.set_cons_zero, List.set_cons_succ]
                      refine wpAnyH_take (i := 6) (v := ?_) rfl (by kernel_rfl) (by kernel_rfl) (by kernel_rfl) (fun _ _ _ h => h) (Or.inl ⟨by rfl, ?hy6⟩) (by assumption) ?_
                      case hy6 => (intro w hSw; (try dsimp only at hSw); go_simp; try (with_reducible rfl))
                      try simp only [Act.put, List.getElem_toArray, List.getElem_cons_zero, List.getElem_cons_succ, List.setIfInBounds_toArray, List.set_cons_zero, List.set_cons_succ]
                      refine wpAnyH_take (i := 7) (v := ?_) rfl (by kernel_rfl) (by kernel_rfl) (by kernel_rfl) (fun _ _ _ h => h) (Or.inl ⟨by rfl, ?hy7⟩) (by assumption) ?_
                      case hy7 => (intro w hSw; (try dsimp only at hSw); go_simp; try (with_reducible rfl))
                      try simp only [Act.put, List.getElem_toArray, List.getElem_cons_zero, List.getElem_cons_succ, List.setIfInBounds_toArray, List.set_cons_zero, List.set_cons_succ]
                      refine wpAnyH_take (i := 8) (v := ?_) rfl (by kernel_rfl) (by kernel_rfl) (by kernel_rfl) (fun _ _ _ h => h) (Or.inl ⟨by rfl, ?hy8⟩) (by assumption) ?_
                      case hy8 => (intro w hSw; (try dsimp only at hSw); go_simp; try (with_reducible rfl))
                      try simp only [Act.put, List.getElem_toArray, List.getElem_cons_zero, List.getElem_cons_succ, List.setIfInBounds_toArray, List.set_cons_zero, List.set_cons_succ]
                      refine wpAnyH_ready (rs := [1]) (by kernel_rfl) (by simp) ?_
                      refine AllReadyH.cons rfl (fun K hK => ?_) AllReadyH.nil
                      go_simp
                      refine (ref_slice _ _ _ _ _).mono ?_
                      rintro e wy ⟨rfl, hb⟩
                      replace T := Lib.hid (T.out.below hb)
                      replace HC := Lib.hid (HC.out.later hb)
                      replace PB := Lib.hid (PB.out.below hb)
                      clear hb
                      go_wp2_with fail
                      refine hK.out _ _ ?_ (fun hHeld => ?_)
                      · exact ⟨T.out.b0, T.out.b1, PB.out.k1, PB.out.at Q.out⟩
                      clear hK K
                      try simp only [Act.put, List.getElem_toArray, List.getElem_cons_zero, List.getElem_cons_succ, List.setIfInBounds_toArray, List.set_cons_zero, List.set_cons_succ]
                      refine wpAnyH_ready (rs := [9]) (by kernel_rfl) (by simp) ?_
                      refine AllReadyH.cons rfl (fun K hK => ?_) AllReadyH.nil
                      go_simp
                      refine (rfind_at2 N n q1 fq _ L _ T.out.l hn6 FQ.out).mono ?_
                      rintro e wy ⟨rfl, hb⟩
                      replace T := Lib.hid (T.out.below hb)
                      replace HC := Lib.hid (HC.out.later hb)
                      replace PB := Lib.hid (PB.out.below hb)
                      clear hb
                      go_wp2_with fail
                      refine hK.out _ _ ?_ (fun hHeld => ?_)
                      · exact ⟨T.out.b0, T.out.b1, PB.out.k1, PB.out.at Q.out⟩
                      clear hK K
                      try simp only [Act.put, List.getElem_toArray, List.getElem_cons_zero, List.getElem_cons_succ, List.setIfInBounds_toArray, List.set_cons_zero, List.set_cons_succ]
                      refine wpAnyH_take (i := 10) (v := ?_) rfl (by kernel_rfl) (by kernel_rfl) (by kernel_rfl) (fun _ _ _ h => h) (Or.inl ⟨by rfl, ?hy10⟩) (by assumption) ?_
                      case hy10 => (intro w hSw; (try dsimp only at hSw); go_simp; try (with_reducible rfl))
                      try simp only [Act.put, List.getElem_toArray, List.getElem_cons_zero, List.getElem_cons_succ, List.setIfInBounds_toArray, List.set_cons_zero, List.set_cons_succ]
                      refine wpAnyH_done (by kernel_rfl) ?_ _
                      go_wp2_with fail
                      go_roundw
                      case rel => exact ⟨j + 1, by go_num, by omega, T.out, HC.out, PB.out⟩
                      case measure => simp [intOf]; omega
                    · have hltj' : ¬ (j : Int) < sl := by omega
                      go_wp2_with fail
                      go_roundw
                      case rel => exact ⟨k + 1, by go_num, by omega, T.out, HC.out⟩
                      case measure => simp [intOf]; omega
                · have hk3 : True := trivial
                  go_wp2_with fail
                  refine (picked_no M n s k _ _ HC.out.weak (fun h => hpk (by have := h.2; omega))).mono ?_
                  rintro e wy ⟨rfl, hb⟩
                  replace T := Lib.hid (T.out.below hb)
                  replace HC := Lib.hid (HC.out.later hb)
                  clear hb
                  simp only [pkv, Pk.zero]
                  go_wp2_with fail
                  obtain ⟨wz, hwz⟩ : ∃ wz, wz = (wy.alloc (.cells #[.int .i64 0, .slice none 0 0] 46)) := ⟨_, rfl⟩
                  have hbz : Below wy.heap.size wy wz := by rw [hwz]; go_grown
                  have k1 : wz.cell? ⟨wy.heap.size, 1, none⟩ = some (.slice none 0 0) := by rw [hwz]; go_cell
                  replace T := Lib.hid (T.out.below hbz)
                  replace HC := Lib.hid (HC.out.later hbz)
                  rw [← hwz]
                  clear hbz hwz
                  obtain ⟨pb, hpb⟩ : ∃ pb, pb = wy.heap.size := ⟨_, rfl⟩
                  rw [← hpb] at k1 ⊢
                  clear hpb
                  go_loopw [12] (fun i wr => i = .int .i64 0 ∧ KAt w N (.slice a L.length cap) L wr ∧ Holds True (fun k => w.heap.size < k) wr (.slice (some ⟨mb, mo, none⟩) N mcap) (dTab M) ∧ wr.cell? ⟨pb, 1, none⟩ = some (.slice none 0 0)) (fun i _ => 0)
                  case atStart => exact ⟨rfl, T.out, HC.out, k1⟩
                  case round =>
                    obtain ⟨rfl, hT, hH, k1⟩ := hrel
                    have T := Lib.hid hT
                    have HC := Lib.hid hH
                    clear hT hH
                    go_wp2_with fail
                    go_roundw
                    case rel => exact ⟨k + 1, by go_num, by omega, T.out, HC.out⟩
                    case measure => simp [intOf]; omega
              · have hltk' : ¬ (k : Int) < 5 := by omega
                go_wp2_with fail
                go_loopw [13] (fun i wr => ∃ f : Nat, i = .int .i64 f ∧ f ≤ N ∧ KAt w N (.slice a L.length cap) L wr ∧ Holds True (fun k => w.heap.size < k) wr (.slice (some ⟨mb, mo, none⟩) N mcap) (dTab M)) (fun i _ => N - (intOf i).toNat)
                case atStart => exact ⟨0, rfl, by omega, T.out, HC.out⟩
                case round =>
                  obtain ⟨f, rfl, hkf, hT, hH⟩ := hrel
                  have T := Lib.hid hT
                  have HC := Lib.hid hH
                  clear hT hH
                  have z0 := T.out.b0
                  have z1 := T.out.b1
                  by_cases hltf : f < N
                  · have hltf' : (f : Int) < N := by omega
                    obtain ⟨tk, htk, htm, hts⟩ := taken_ok HG.out Hx.out (show s < x.states.length by rw [← MN.out]; exact hlts) f ((s : Int).tmod 4)
                    rw [← MN.out] at htm
                    obtain ⟨fq, hfq⟩ : ∃ fq, findL L ((f : Int), (n : Int)) = fq := ⟨_, rfl⟩
                    have hfs : fq < 0 → tk = s := fun h => hts (findL_neg.1 (by rw [hfq]; exact h))
                    have TK := Lib.hid htk
                    have FQ := Lib.hid hfq
                    have htk0 : ¬ (tk : Int) < 0 := by omega
                    have htk1 : ¬ many ≤ tk := by omega
                    have htk2 : ¬ (many : Int) ≤ tk := by omega
                    clear htk hfq hts
                    go_wp2_with fail
                    refine (taken_is M n s f ((s : Int).tmod 4) tk _ _ HC.out.weak (smallSt_at hsm n s).2.2.1 TK.out).mono ?_
                    rintro e wy ⟨rfl, hb⟩
                    replace T := Lib.hid (T.out.below hb)
                    replace HC := Lib.hid (HC.out.later hb)
                    clear hb
                    have z0 := T.out.b0
                    have z1 := T.out.b1
                    go_wp2_with fail
                    refine (ref_slice _ _ _ _ _).mono ?_
                    rintro e wy2 ⟨rfl, hb⟩
                    replace T := Lib.hid (T.out.below hb)
                    replace HC := Lib.hid (HC.out.later hb)
                    clear hb z0 z1
                    go_wp2_with fail
                    refine (rfind_at2 N f n fq _ L _ T.out.l hn6 FQ.out).mono ?_
                    rintro e wy3 ⟨rfl, hb⟩
                    replace T := Lib.hid (T.out.below hb)
                    replace HC := Lib.hid (HC.out.later hb)
                    clear hb
                    by_cases hf0 : fq < 0
                    · have hf0' : decide (fq < 0) = true := by simpa using hf0
                      have hts : tk = s := hfs hf0
                      have hts2 : ((tk : Int) != (s : Int)) = false := by simp [hts]
                      have hts3 : (tk : Int) = s := by omega
                      go_wp2_with fail
                      go_roundw
                      case rel => exact ⟨f + 1, by go_num, by omega, T.out, HC.out⟩
                      case measure => simp [intOf]; omega
                    · have hf0' : decide (fq < 0) = false := by simpa using hf0
                      go_wp2_with fail
                      go_roundw
                      case rel => exact ⟨f + 1, by go_num, by omega, T.out, HC.out⟩
                      case measure => simp [intOf]; omega
                  · have hltf' : ¬ (f : Int) < N := by omega
                    go_wp2_with fail
                    go_roundw
                    case rel => exact ⟨s + 1, by go_num, by omega, T.out, HC.out⟩
                    case measure => simp [intOf]; omega
          · have hlts' : ¬ (s : Int) < many := by omega
            go_wp2_with fail
            go_roundw
            case rel => exact ⟨n + 1, by go_num, by omega, T.out, HC.out⟩
            case measure => simp [intOf]; omega
      · have hltn' : ¬ (n : Int) < N := by omega
        go_wp2_with fail
        refine (fixed4_any _).mono ?_
        rintro e x7 ⟨rfl, hb⟩
        replace T := Lib.hid (T.out.below hb)
        clear hb
        go_wp2_with fail
        go_ret
        exact ⟨rfl, T.out.bel⟩
  · have hrf : r = false := by
      cases r with
      | false => rfl
      | true => exact absurd (HR.out.1 rfl) hG
    subst hrf
    clear hG
    have z0 := T.out.b0
    have z1 := T.out.b1
    go_wp2_with fail
    refine (tright_at N0 _ L M _ false _ HC.out.weak T.out.l HW.out hn6 hsm HR.out).mono ?_
    rintro e x5 ⟨rfl, hb⟩
    replace T := Lib.hid (T.out.below hb)
    clear hb z0 z1
    go_wp2_with fail
    refine (fixed4_any _).mono ?_
    rintro e x6 ⟨rfl, hb⟩
    replace T := Lib.hid (T.out.below hb)
    clear hb
    go_wp2_with fail
    go_ret
    exact ⟨rfl, T.out.bel⟩
end Go.Proofs.Ytgoioibfecgopaa
