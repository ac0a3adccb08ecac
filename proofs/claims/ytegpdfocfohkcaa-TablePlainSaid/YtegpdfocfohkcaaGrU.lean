/- The document's Right. -/
import Derived.Test.YtegpdfocfohkcaaGrT
namespace Go.Proofs.Ytegpdfocfohkcaa
open Go.RowKit Go.PlainAid

theorem rright_no (N : Int) (v : Value) (L : Lks) (w : World) (h : LinksAt w v L) (hN : ¬ (1 ≤ N ∧ N ≤ 6 ∧ L.length ≤ 30)) :
    Calls Try.prog 23 #[gv N v] w (RightRes w N L) := by
  obtain ⟨a, cap, rfl⟩ := h.at
  have hb : Below w.heap.size w (w.alloc (.cells #[.int .i64 N, .slice a L.length cap] 34)) := (Below.refl _ w).alloc (Nat.le_refl _) _
  have HB := Lib.hid hb
  have HNo := Lib.hid (show ¬ RightG N L from fun hr => hN ⟨hr.1, hr.2.1, hr.2.2.1⟩)
  unfold gv
  clear h hb
  by_cases h1 : N < 1
  · clear hN
    go_enter Try.func23, Try.ntmps23
    go_wp2_with fail
    go_ret
    exact RightRes.no rfl HNo.out HB.out
  · by_cases h6 : 6 < N
    · clear hN
      go_enter Try.func23, Try.ntmps23
      go_wp2_with fail
      go_ret
      exact RightRes.no rfl HNo.out HB.out
    · have h30 : 30 < (L.length : Int) := by omega
      clear hN
      go_enter Try.func23, Try.ntmps23
      go_wp2_with fail
      go_ret
      exact RightRes.no rfl HNo.out HB.out

theorem rfind_at (N x y : Int) (v : Value) (L : Lks) (q : Int) (w : World) (h : LinksAt w v L) (hn : L.length ≤ 1000000) (hq : q = findL L (x, y)) :
    Calls Try.prog 21 #[gv N v, .int .i64 x, .int .i64 y] w fun e w' => e = .returned (.int .i64 q) ∧ Below w.heap.size w w' := by
  subst hq; exact rfind_any N x y v L w h hn

/-- While links, then nodes, are gone through. -/
structure KAt (w : World) (N : Int) (v : Value) (L : Lks) (wr : World) : Prop where
  bel : Below w.heap.size w wr
  b0 : wr.cell? ⟨w.heap.size, 0, none⟩ = some (.int .i64 N)
  b1 : wr.cell? ⟨w.heap.size, 1, none⟩ = some v
  l : LinksAt wr v L
theorem KAt.size {w wr : World} {N : Int} {v : Value} {L : Lks} (h : KAt w N v L wr) : w.heap.size < wr.heap.size := World.block_lt_of_cell? wr _ h.b0
theorem KAt.below {w wr w' : World} {N : Int} {v : Value} {L : Lks} (h : KAt w N v L wr) (hb : Below wr.heap.size wr w') : KAt w N v L w' := by
  have hlt := h.size
  exact ⟨below_step (Nat.le_of_lt hlt) h.bel hb, (hb.cell (by exact hlt)).trans h.b0, (hb.cell (by exact hlt)).trans h.b1, h.l.below hb⟩

set_option maxHeartbeats 4000000 in
set_option maxRecDepth 100000 in
theorem rright_yes (N : Nat) (v : Value) (L : Lks) (w : World) (h : LinksAt w v L) (h1 : 1 ≤ N) (h6 : N ≤ 6) (h30 : L.length ≤ 30) :
    Calls Try.prog 23 #[gv N v] w (RightRes w N L) := by
  obtain ⟨a, cap, hv⟩ := h.at
  obtain ⟨wb, hwb, hbel, hL, z0, z1, hsz⟩ := boxed N v 34 L w h
  have HK := Lib.hid (show KAt w N v L wb from ⟨hbel, z0, z1, hL⟩)
  have i1 : ¬ (N : Int) < 1 := by omega
  have i6 : ¬ 6 < (N : Int) := by omega
  have i30 : ¬ 30 < (L.length : Int) := by omega
  have hn : L.length ≤ 1000000 := by omega
  unfold gv
  subst hv
  clear h hL hbel z0 z1
  go_enter Try.func23, Try.ntmps23
  go_wp2_with fail
  rw [← hwb]
  clear hwb i1 i6 i30
  go_loopw [3] (fun i wr => ∃ k : Nat, i = .int .i64 k ∧ k ≤ L.length ∧ KAt w N (.slice a L.length cap) L wr ∧ ∀ i, i < k → RefGood N L i) (fun i _ => L.length - (intOf i).toNat)
  case atStart => exact ⟨0, rfl, by omega, HK.out, fun i hi => by omega⟩
  case round =>
    obtain ⟨k, rfl, hk, hK, hG⟩ := hrel
    have HK1 := Lib.hid hK
    have HG := Lib.hid hG
    have y0 := hK.b0
    have y1 := hK.b1
    by_cases hkl : k < L.length
    · have hkl' : (k : Int) < L.length := by omega
      rcases id hK.l with ⟨a0, cap0, e0, e1⟩ | ⟨lb, lo, llen, lcap, e0, f1, f2, f3, f4, f5⟩
      · rw [e1] at hkl; simp at hkl
      · simp only [Value.slice.injEq] at e0
        obtain ⟨rfl, e0b, rfl⟩ := e0
        obtain ⟨c1, c2⟩ := f5 k (by omega)
        obtain ⟨p, hp⟩ : ∃ p, p = lk L k := ⟨_, rfl⟩
        obtain ⟨x, y⟩ := p
        rw [← hp] at c1 c2
        have HGd := Lib.hid (show RefGood N L k ↔ (0 ≤ x ∧ x < N) ∧ (0 ≤ y ∧ y < N) ∧ x ≠ y ∧ findL L (x, y) = (k : Int) ∧ 0 ≤ findL L (y, x) by unfold RefGood; rw [← hp])
        obtain ⟨q, hq⟩ : ∃ q, q = findL L (x, y) := ⟨_, rfl⟩
        obtain ⟨s, hs⟩ : ∃ s, s = findL L (y, x) := ⟨_, rfl⟩
        have HQ := Lib.hid hq
        have HS := Lib.hid hs
        rw [← hq, ← hs] at HGd
        clear hK hG f5 hp hq hs f1 e0b
        obtain ⟨wo, hwo⟩ : ∃ wo, wo = wr := ⟨_, rfl⟩
        subst hwo
        by_cases t1 : x < 0
        · have HNG := Lib.hid (show ¬ RightG N L from fun hr => absurd (HGd.out.1 (ref_iff.2 hr.2.2.2.1 k (by omega))) (fun e => absurd e.1.1 (by omega)))
          go_wp2_with fail
          go_quiet (fail)
          have KQ := Lib.hid (HK1.out.below (below_drewN (Below.refl _ wo) nq))
          go_wp2_with fail
          go_ret
          exact RightRes.no rfl HNG.out KQ.out.bel
        · by_cases t2 : (N : Int) ≤ x
          · have HNG := Lib.hid (show ¬ RightG N L from fun hr => absurd (HGd.out.1 (ref_iff.2 hr.2.2.2.1 k (by omega))) (fun e => absurd e.1.2 (by omega)))
            go_wp2_with fail
            go_quiet (fail)
            have KQ := Lib.hid (HK1.out.below (below_drewN (Below.refl _ wo) nq))
            go_wp2_with fail
            go_ret
            exact RightRes.no rfl HNG.out KQ.out.bel
          · by_cases t3 : y < 0
            · have HNG := Lib.hid (show ¬ RightG N L from fun hr => absurd (HGd.out.1 (ref_iff.2 hr.2.2.2.1 k (by omega))) (fun e => absurd e.2.1.1 (by omega)))
              go_wp2_with fail
              go_quiet (fail)
              have KQ := Lib.hid (HK1.out.below (below_drewN (Below.refl _ wo) nq))
              go_wp2_with fail
              go_ret
              exact RightRes.no rfl HNG.out KQ.out.bel
            · by_cases t4 : (N : Int) ≤ y
              · have HNG := Lib.hid (show ¬ RightG N L from fun hr => absurd (HGd.out.1 (ref_iff.2 hr.2.2.2.1 k (by omega))) (fun e => absurd e.2.1.2 (by omega)))
                go_wp2_with fail
                go_quiet (fail)
                have KQ := Lib.hid (HK1.out.below (below_drewN (Below.refl _ wo) nq))
                go_wp2_with fail
                go_ret
                exact RightRes.no rfl HNG.out KQ.out.bel
              · by_cases t5 : x = y
                · have HNG := Lib.hid (show ¬ RightG N L from fun hr => absurd (HGd.out.1 (ref_iff.2 hr.2.2.2.1 k (by omega))) (fun e => absurd t5 e.2.2.1))
                  have t5' : (x == y) = true := by rw [beq_iff_eq]; exact t5
                  clear t5
                  go_wp2_with fail
                  go_quiet (fail)
                  have KQ := Lib.hid (HK1.out.below (below_drewN (Below.refl _ wo) nq))
                  go_wp2_with fail
                  go_ret
                  exact RightRes.no rfl HNG.out KQ.out.bel
                · have t5' : (x == y) = false := by rw [beq_eq_false_iff_ne]; exact t5
                  by_cases t6 : q = (k : Int)
                  · by_cases t7 : s < 0
                    · have HNG := Lib.hid (show ¬ RightG N L from fun hr => absurd (HGd.out.1 (ref_iff.2 hr.2.2.2.1 k (by omega))) (fun e => absurd e.2.2.2.2 (by omega)))
                      have t6' : (q != (k : Int)) = false := by rw [bne_eq_false_iff_eq]; exact t6
                      clear t5 t6
                      go_wp2_with fail
                      go_quiet (fail)
                      have KQ := Lib.hid (HK1.out.below (below_drewN (Below.refl _ wo) nq))
                      go_wp2_with fail
                      refine (rfind_at N x y _ L q _ KQ.out.l hn HQ.out).mono ?_
                      rintro e w1 ⟨rfl, hb1⟩
                      have K1 := Lib.hid (KQ.out.below hb1)
                      have v0 := K1.out.b0
                      have v1 := K1.out.b1
                      clear hb1
                      go_wp2_with fail
                      refine (rfind_at N y x _ L s _ K1.out.l hn HS.out).mono ?_
                      rintro e w2 ⟨rfl, hb2⟩
                      have K2 := Lib.hid (K1.out.below hb2)
                      have u0 := K2.out.b0
                      have u1 := K2.out.b1
                      clear hb2
                      go_wp2_with fail
                      go_ret
                      exact RightRes.no rfl HNG.out K2.out.bel
                    · have HOK := Lib.hid (HGd.out.2 ⟨⟨by omega, by omega⟩, ⟨by omega, by omega⟩, t5, t6, by omega⟩)
                      have t6' : (q != (k : Int)) = false := by rw [bne_eq_false_iff_eq]; exact t6
                      clear t5 t6
                      go_wp2_with fail
                      go_quiet (fail)
                      have KQ := Lib.hid (HK1.out.below (below_drewN (Below.refl _ wo) nq))
                      go_wp2_with fail
                      refine (rfind_at N x y _ L q _ KQ.out.l hn HQ.out).mono ?_
                      rintro e w1 ⟨rfl, hb1⟩
                      have K1 := Lib.hid (KQ.out.below hb1)
                      have v0 := K1.out.b0
                      have v1 := K1.out.b1
                      clear hb1
                      go_wp2_with fail
                      refine (rfind_at N y x _ L s _ K1.out.l hn HS.out).mono ?_
                      rintro e w2 ⟨rfl, hb2⟩
                      have K2 := Lib.hid (K1.out.below hb2)
                      have u0 := K2.out.b0
                      have u1 := K2.out.b1
                      clear hb2
                      go_wp2_with fail
                      go_roundw
                      case rel =>
                        refine ⟨k + 1, by go_num, by omega, K2.out, fun i hi => ?_⟩
                        by_cases hik : i < k
                        · exact HG.out i hik
                        · obtain rfl : i = k := by omega
                          exact HOK.out
                      case measure => simp [intOf]; omega
                  · have HNG := Lib.hid (show ¬ RightG N L from fun hr => absurd (HGd.out.1 (ref_iff.2 hr.2.2.2.1 k (by omega))) (fun e => absurd e.2.2.2.1 t6))
                    have t6' : (q != (k : Int)) = true := by rw [bne_iff_ne]; exact t6
                    clear t5 t6
                    go_wp2_with fail
                    go_quiet (fail)
                    have KQ := Lib.hid (HK1.out.below (below_drewN (Below.refl _ wo) nq))
                    go_wp2_with fail
                    refine (rfind_at N x y _ L q _ KQ.out.l hn HQ.out).mono ?_
                    rintro e w1 ⟨rfl, hb1⟩
                    have K1 := Lib.hid (KQ.out.below hb1)
                    have v0 := K1.out.b0
                    have v1 := K1.out.b1
                    clear hb1
                    go_wp2_with fail
                    go_ret
                    exact RightRes.no rfl HNG.out K1.out.bel
    · have hkl' : ¬ (k : Int) < L.length := by omega
      have hRG : RG N L := ref_iff.1 (fun i hi => hG i (by omega))
      clear hK hG
      go_wp2_with fail
      obtain ⟨wp, hwp⟩ : ∃ wp, wp = wr := ⟨_, rfl⟩
      rw [← hwp] at HK1 ⊢
      go_loopw [6] (fun i wr => ∃ m : Nat, i = .int .i64 m ∧ m ≤ N ∧ KAt w N (.slice a L.length cap) L wr ∧ ∀ b : Nat, b < m → ∀ y : Nat, y < N → ∃ k, Way L k b y) (fun i _ => N - (intOf i).toNat)
      case atStart => exact ⟨0, rfl, by omega, HK1.out, fun b hb => by omega⟩
      case round =>
        obtain ⟨m, rfl, hm, hK2, hC⟩ := hrel
        have HK2 := Lib.hid hK2
        have HC := Lib.hid hC
        have s0 := hK2.b0
        have s1 := hK2.b1
        clear hK2 hC
        by_cases hmt : m < N
        · have hmt' : (m : Int) < N := by omega
          go_wp2_with fail
          refine (rdist_some N m _ L _ HK2.out.l hRG.in h1 h6 hmt hn).mono ?_
          rintro e w3 ⟨u, D, rfl, hD, hI, hb3⟩
          have HD := Lib.hid hD
          have HI := Lib.hid hI
          have HK3 := Lib.hid (HK2.out.below hb3)
          rcases hI with ⟨a0, cap0, e0, e1⟩ | ⟨gb, go, glen, gcap, rfl, g1, g2, g3, g4, g5⟩
          · have := hD.1; rw [e1] at this; simp at this; omega
          · have hgl : glen = N := by rw [← g1]; exact hD.1
            subst hgl
            have G5 := Lib.hid g5
            clear hD hb3 g1 g5
            go_wp2_with fail
            go_loopw [8] (fun i wr => ∃ j : Nat, i = .int .i64 j ∧ j ≤ glen ∧ wr = w3 ∧ ∀ i, i < j → ¬ D.getD i (-1) < 0) (fun i _ => glen - (intOf i).toNat)
            case atStart => exact ⟨0, rfl, by omega, rfl, fun i hi => by omega⟩
            case round =>
              obtain ⟨j, rfl, hj, rfl, hN⟩ := hrel
              have HN := Lib.hid hN
              by_cases hjt : j < glen
              · have hjt' : (j : Int) < glen := by omega
                have c := G5.out j hjt
                obtain ⟨d, hd⟩ : ∃ d, d = D.getD j 0 := ⟨_, rfl⟩
                rw [← hd] at c
                have hdd : D.getD j (-1) = d := by rw [hd]; simp [List.getD, show j < D.length by rw [HD.out.1]; exact hjt]
                have HDD := Lib.hid hdd
                clear hN hd hdd
                by_cases hneg : d < 0
                · have HNG := Lib.hid (show ¬ RightG glen L from fun hr => by
                    obtain ⟨kk, h3, _⟩ := dist_num HD.out hjt (hr.2.2.2.2.all hRG (by omega) (by omega))
                    rw [HDD.out] at h3
                    omega)
                  go_wp2_with fail
                  go_ret
                  exact RightRes.no rfl HNG.out HK3.out.bel
                · go_wp2_with fail
                  go_roundw
                  case rel =>
                    refine ⟨j + 1, by go_num, by omega, by first | trivial | rfl, fun i hi => ?_⟩
                    by_cases hij : i < j
                    · exact HN.out i hij
                    · obtain rfl : i = j := by omega
                      rw [HDD.out]; exact hneg
                  case measure => simp [intOf]; omega
              · have hjt' : ¬ (j : Int) < glen := by omega
                obtain rfl : j = glen := by omega
                have HC5 := Lib.hid (show ∀ b : Nat, b < m + 1 → ∀ y : Nat, y < j → ∃ k, Way L k b y from fun b hb y hy => by
                  by_cases hbm : b < m
                  · exact HC.out b hbm y hy
                  · obtain rfl : b = m := by omega
                    rcases HD.out.2 y hy with ⟨kk, _, h4⟩ | ⟨h3, _⟩
                    · exact ⟨kk, h4.1⟩
                    · exact absurd (show D.getD y (-1) < 0 by rw [h3]; omega) (HN.out y hy))
                clear hN
                go_wp2_with fail
                go_roundw
                case rel => exact ⟨m + 1, by go_num, by omega, HK3.out, HC5.out⟩
                case measure => simp [intOf]; omega
        · have hmt' : ¬ (m : Int) < N := by omega
          have HY := Lib.hid (show RightG N L from ⟨by omega, by omega, h30, hRG, fun y hy => HC.out 0 (by omega) y (by omega)⟩)
          go_wp2_with fail
          go_ret
          exact RightRes.mk true rfl ⟨fun _ => HY.out, fun _ => rfl⟩ HK2.out.bel

theorem rright_any (N : Int) (v : Value) (L : Lks) (w : World) (h : LinksAt w v L) :
    Calls Try.prog 23 #[gv N v] w (RightRes w N L) := by
  by_cases hN : 1 ≤ N ∧ N ≤ 6 ∧ L.length ≤ 30
  · obtain ⟨n, rfl⟩ : ∃ n : Nat, N = (n : Int) := ⟨N.toNat, by omega⟩
    exact rright_yes n v L w h (by omega) (by omega) hN.2.2
  · exact rright_no N v L w h hN
end Go.Proofs.Ytegpdfocfohkcaa
