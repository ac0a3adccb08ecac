/- The document's Right. -/
import Derived.Test.YtgoioibfecgopaaBa2
import Derived.OpenShut
import Derived.ChangeSlices
import Derived.ProofKit
import Derived.Deep.Slices
import Derived.Deep.Fields
namespace Go.Proofs.Ytgoioibfecgopaa
open Go.RowKit Go.PlainAid

theorem rright_no (N : Int) (v : Value) (L : Lks) (w : World) (h : LinksAt w v L) (hN : ¬ (1 ≤ N ∧ N ≤ 6 ∧ L.length ≤ 30)) :
    Calls Try.prog 27 #[gv N v] w (RightRes w N L) := by
  obtain ⟨a, cap, rfl⟩ := h.at
  have hb : Below w.heap.size w (w.alloc (.cells #[.int .i64 N, .slice a L.length cap] 34)) := (Below.refl _ w).alloc (Nat.le_refl _) _
  have HB := Lib.hid hb
  have HNo := Lib.hid (show ¬ RightG N L from fun hr => hN ⟨hr.1, hr.2.1, hr.2.2.1⟩)
  unfold gv
  clear h hb
  by_cases h1 : N < 1
  · clear hN
    go_enter Try.func27, Try.ntmps27
    go_wp2_with fail
    go_ret
    exact RightRes.no rfl HNo.out HB.out
  · by_cases h6 : 6 < N
    · clear hN
      go_enter Try.func27, Try.ntmps27
      go_wp2_with fail
      go_ret
      exact RightRes.no rfl HNo.out HB.out
    · have h30 : 30 < (L.length : Int) := by omega
      clear hN
      go_enter Try.func27, Try.ntmps27
      go_wp2_with fail
      go_ret
      exact RightRes.no rfl HNo.out HB.out

theorem rfind_at (N x y : Int) (v : Value) (L : Lks) (q : Int) (w : World) (h : LinksAt w v L) (hn : L.length ≤ 1000000) (hq : q = findL L (x, y)) :
    Calls Try.prog 25 #[gv N v, .int .i64 x, .int .i64 y] w fun e w' => e = .returned (.int .i64 q) ∧ Below w.heap.size w w' := by
  subst hq; exact rfind_any N x y v L w h hn

/-- While links, then nodes, are gone through. -/
structure KAt (w : World) (N : Int) (v : Value) (L : Lks) (wr : World) : Prop where
  bel : Below w.heap.size w wr
  b0 : wr.cell? ⟨w.heap.size, 0, none⟩ = some (.int .i64 N)
  b1 : wr.cell? ⟨w.heap.size, 1, none⟩ = some v
  l : LinksAt wr v L
theorem KAt.size {w wr : World} {N : Int} {v : Value} {L : Lks} (h : KAt w N v L wr) : w.heap.size < wr.heap.size := World.block_lt_of_cell? wr _ h.b0
theorem KAt.below {w wr w' : World} {N : Int} {v : Value} {L : Lks} (h : KAt w N v L wr) (hb : Below wr.heap.size wr w') : KAt w N v L w' := by
  have hlt := h.size
  exact ⟨below_step (Nat.le_of_lt hlt) h.bel hb, (hb.cell (by exact hlt)).trans h.b0, (hb.cell (by exact hlt)).trans h.b1, h.l.below hb⟩

set_option maxHeartbeats 4000000 in
set_option maxRecDepth 100000 in
theorem rright_yes (N : Nat) (v : Value) (L : Lks) (w : World) (h : LinksAt w v L) (h1 : 1 ≤ N) (h6 : N ≤ 6) (h30 : L.length ≤ 30) :
    Calls Try.prog 27 #[gv N v] w (RightRes w N L) := by
  obtain ⟨a, cap, hv⟩ := h.at
  obtain ⟨wb, hwb, hbel, hL, z0, z1, hsz⟩ := boxed N v 34 L w h
  have HK := Lib.hid (show KAt w N v L wb from ⟨hbel, z0, z1, hL⟩)
  have i1 : ¬ (N : Int) < 1 := by omega
  have i6 : ¬ 6 < (N : Int) := by omega
  have i30 : ¬ 30 < (L.length : Int) := by omega
  have hn : L.length ≤ 1000000 := by omega
  unfold gv
  subst hv
  clear h hL hbel z0 z1
  go_enter Try.func27, Try.ntmps27
  go_wp2_with fail
  rw [← hwb]
  clear hwb i1 i6 i30
  go_loopw [3] (fun i wr => ∃ k : Nat, i = .int .i64 k ∧ k ≤ L.length ∧ KAt w N (.slice a L.length cap) L wr ∧ ∀ i, i < k → RefGood N L i) (fun i _ => L.length - (intOf i).toNat)
  case atStart => exact ⟨0, rfl, by omega, HK.out, fun i hi => by omega⟩
  case round =>
    obtain ⟨k, rfl, hk, hK, hG⟩ := hrel
    have HK1 := Lib.hid hK
    have HG := Lib.hid hG
    have y0 := hK.b0
    have y1 := hK.b1
    by_cases hkl : k < L.length
    · have hkl' : (k : Int) < L.length := by omega
      rcases id hK.l with ⟨a0, cap0, e0, e1⟩ | ⟨lb, lo, llen, lcap, e0, f1, f2, f3, f4, f5⟩
      · rw [e1] at hkl; simp at hkl
      · simp only [Value.slice.injEq] at e0
        obtain ⟨rfl, e0b, rfl⟩ := e0
        obtain ⟨c1, c2⟩ := f5 k (by omega)
        obtain ⟨p, hp⟩ : ∃ p, p = lk L k := ⟨_, rfl⟩
        obtain ⟨x, y⟩ := p
        rw [← hp] at c1 c2
        have HGd := Lib.hid (show RefGood N L k ↔ (0 ≤ x ∧ x < N) ∧ (0 ≤ y ∧ y < N) ∧ x ≠ y ∧ findL L (x, y) = (k : Int) ∧ 0 ≤ findL L (y, x) by unfold RefGood; rw [← hp])
        obtain ⟨q, hq⟩ : ∃ q, q = findL L (x, y) := ⟨_, rfl⟩
        obtain ⟨s, hs⟩ : ∃ s, s = findL L (y, x) := ⟨_, rfl⟩
        have HQ := Lib.hid hq
        have HS := Lib.hid hs
        rw [← hq, ← hs] at HGd
        clear hK hG f5 hp hq hs f1 e0b
        obtain ⟨wo, hwo⟩ : ∃ wo, wo = wr := ⟨_, rfl⟩
        subst hwo
        by_cases t1 : x < 0
        · have HNG := Lib.hid (show ¬ RightG N L from fun hr => absurd (HGd.out.1 (ref_iff.2 hr.2.2.2.1 k (by omega))) (fun e => absurd e.1.1 (by omega)))
          go_wp2_with fail
          go_quiet (fail)
          have KQ := Lib.hid (HK1.out.below (below_drewN (Below.refl _ wo) nq))
          go_wp2_with fail
          go_ret
          exact RightRes.no rfl HNG.out KQ.out.bel
        · by_cases t2 : (N : Int) ≤ x
          · have HNG := Lib.hid (show ¬ RightG N L from fun hr => absurd (HGd.out.1 (ref_iff.2 hr.2.2.2.1 k (by omega))) (fun e => absurd e.1.2 (by omega)))
            go_wp2_with fail
            go_quiet (fail)
            have KQ := Lib.hid (HK1.out.below (below_drewN (Below.refl _ wo) nq))
            go_wp2_with fail
            go_ret
            exact RightRes.no rfl HNG.out KQ.out.bel
          · by_cases t3 : y < 0
            · have HNG := Lib.hid (show ¬ RightG N L from fun hr => absurd (HGd.out.1 (ref_iff.2 hr.2.2.2.1 k (by omega))) (fun e => absurd e.2.1.1 (by omega)))
              go_wp2_with fail
              go_quiet (fail)
              have KQ := Lib.hid (HK1.out.below (below_drewN (Below.refl _ wo) nq))
              go_wp2_with fail
              go_ret
              exact RightRes.no rfl HNG.out KQ.out.bel
            · by_cases t4 : (N : Int) ≤ y
              · have HNG := Lib.hid (show ¬ RightG N L from fun hr => absurd (HGd.out.1 (ref_iff.2 hr.2.2.2.1 k (by omega))) (fun e => absurd e.2.1.2 (by omega)))
                go_wp2_with fail
                go_quiet (fail)
                have KQ := Lib.hid (HK1.out.below (below_drewN (Below.refl _ wo) nq))
                go_wp2_with fail
                go_ret
                exact RightRes.no rfl HNG.out KQ.out.bel
              · by_cases t5 : x = y
                · have HNG := Lib.hid (show ¬ RightG N L from fun hr => absurd (HGd.out.1 (ref_iff.2 hr.2.2.2.1 k (by omega))) (fun e => absurd t5 e.2.2.1))
                  have t5' : (x == y) = true := by rw [beq_iff_eq]; exact t5
                  clear t5
                  go_wp2_with fail
                  go_quiet (fail)
                  have KQ := Lib.hid (HK1.out.below (below_drewN (Below.refl _ wo) nq))
                  go_wp2_with fail
                  go_ret
                  exact RightRes.no rfl HNG.out KQ.out.bel
                · have t5' : (x == y) = false := by rw [beq_eq_false_iff_ne]; exact t5
                  by_cases t6 : q = (k : Int)
                  · by_cases t7 : s < 0
                    · have HNG := Lib.hid (show ¬ RightG N L from fun hr => absurd (HGd.out.1 (ref_iff.2 hr.2.2.2.1 k (by omega))) (fun e => absurd e.2.2.2.2 (by omega)))
                      have t6' : (q != (k : Int)) = false := by rw [bne_eq_false_iff_eq]; exact t6
                      clear t5 t6
                      go_wp2_with fail
                      go_quiet (fail)
                      have KQ := Lib.hid (HK1.out.below (below_drewN (Below.refl _ wo) nq))
                      go_wp2_with fail
                      refine (rfind_at N x y _ L q _ KQ.out.l hn HQ.out).mono ?_
                      rintro e w1 ⟨rfl, hb1⟩
                      have K1 := Lib.hid (KQ.out.below hb1)
                      have v0 := K1.out.b0
                      have v1 := K1.out.b1
                      clear hb1
                      go_wp2_with fail
                      refine (rfind_at N y x _ L s _ K1.out.l hn HS.out).mono ?_
                      rintro e w2 ⟨rfl, hb2⟩
                      have K2 := Lib.hid (K1.out.below hb2)
                      have u0 := K2.out.b0
                      have u1 := K2.out.b1
                      clear hb2
                      go_wp2_with fail
                      go_ret
                      exact RightRes.no rfl HNG.out K2.out.bel
                    · have HOK := Lib.hid (HGd.out.2 ⟨⟨by omega, by omega⟩, ⟨by omega, by omega⟩, t5, t6, by omega⟩)
                      have t6' : (q != (k : Int)) = false := by rw [bne_eq_false_iff_eq]; exact t6
                      clear t5 t6
                      go_wp2_with fail
                      go_quiet (fail)
                      have KQ := Lib.hid (HK1.out.below (below_drewN (Below.refl _ wo) nq))
                      go_wp2_with fail
                      refine (rfind_at N x y _ L q _ KQ.out.l hn HQ.out).mono ?_
                      rintro e w1 ⟨rfl, hb1⟩
                      have K1 := Lib.hid (KQ.out.below hb1)
                      have v0 := K1.out.b0
                      have v1 := K1.out.b1
                      clear hb1
                      go_wp2_with fail
                      refine (rfind_at N y x _ L s _ K1.out.l hn HS.out).mono ?_
                      rintro e w2 ⟨rfl, hb2⟩
                      have K2 := Lib.hid (K1.out.below hb2)
                      have u0 := K2.out.b0
                      have u1 := K2.out.b1
                      clear hb2
                      go_wp2_with fail
                      go_roundw
                      case rel =>
                        refine ⟨k + 1, by go_num, by omega, K2.out, fun i hi => ?_⟩
                        by_cases hik : i < k
                        · exact HG.out i hik
                        · obtain rfl : i = k := by omega
                          exact HOK.out
                      case measure => simp [intOf]; omega
                  · have HNG := Lib.hid (show ¬ RightG N L from fun hr => absurd (HGd.out.1 (ref_iff.2 hr.2.2.2.1 k (by omega))) (fun e => absurd e.2.2.2.1 t6))
                    have t6' : (q != (k : Int)) = true := by rw [bne_iff_ne]; exact t6
                    clear t5 t6
                    go_wp2_with fail
                    go_quiet (fail)
                    have KQ := Lib.hid (HK1.out.below (below_drewN (Below.refl _ wo) nq))
                    go_wp2_with fail
                    refine (rfind_at N x y _ L q _ KQ.out.l hn HQ.out).mono ?_
                    rintro e w1 ⟨rfl, hb1⟩
                    have K1 := Lib.hid (KQ.out.below hb1)
                    have v0 := K1.out.b0
                    have v1 := K1.out.b1
                    clear hb1
                    go_wp2_with fail
                    go_ret
                    exact RightRes.no rfl HNG.out K1.out.bel
    · have hkl' : ¬ (k : Int) < L.length := by omega
      have hRG : RG N L := ref_iff.1 (fun i hi => hG i (by omega))
      clear hK hG
      go_wp2_with fail
      obtain ⟨wp, hwp⟩ : ∃ wp, wp = wr := ⟨_, rfl⟩
      rw [← hwp] at HK1 ⊢
      go_loopw [6] (fun i wr => ∃ m : Nat, i = .int .i64 m ∧ m ≤ N ∧ KAt w N (.slice a L.length cap) L wr ∧ ∀ b : Nat, b < m → ∀ y : Nat, y < N → ∃ k, Way L k b y) (fun i _ => N - (intOf i).toNat)
      case atStart => exact ⟨0, rfl, by omega, HK1.out, fun b hb => by omega⟩
      case round =>
        obtain ⟨m, rfl, hm, hK2, hC⟩ := hrel
        have HK2 := Lib.hid hK2
        have HC := Lib.hid hC
        have s0 := hK2.b0
        have s1 := hK2.b1
        clear hK2 hC
        by_cases hmt : m < N
        · have hmt' : (m : Int) < N := by omega
          go_wp2_with fail
          refine (rdist_some N m _ L _ HK2.out.l hRG.in h1 h6 hmt hn).mono ?_
          rintro e w3 ⟨u, D, rfl, hD, hI, hb3⟩
          have HD := Lib.hid hD
          have HI := Lib.hid hI
          have HK3 := Lib.hid (HK2.out.below hb3)
          rcases hI with ⟨a0, cap0, e0, e1⟩ | ⟨gb, go, glen, gcap, rfl, g1, g2, g3, g4, g5⟩
          · have := hD.1; rw [e1] at this; simp at this; omega
          · have hgl : glen = N := by rw [← g1]; exact hD.1
            subst hgl
            have G5 := Lib.hid g5
            clear hD hb3 g1 g5
            go_wp2_with fail
            go_loopw [8] (fun i wr => ∃ j : Nat, i = .int .i64 j ∧ j ≤ glen ∧ wr = w3 ∧ ∀ i, i < j → ¬ D.getD i (-1) < 0) (fun i _ => glen - (intOf i).toNat)
            case atStart => exact ⟨0, rfl, by omega, rfl, fun i hi => by omega⟩
            case round =>
              obtain ⟨j, rfl, hj, rfl, hN⟩ := hrel
              have HN := Lib.hid hN
              by_cases hjt : j < glen
              · have hjt' : (j : Int) < glen := by omega
                have c := G5.out j hjt
                obtain ⟨d, hd⟩ : ∃ d, d = D.getD j 0 := ⟨_, rfl⟩
                rw [← hd] at c
                have hdd : D.getD j (-1) = d := by rw [hd]; simp [List.getD, show j < D.length by rw [HD.out.1]; exact hjt]
                have HDD := Lib.hid hdd
                clear hN hd hdd
                by_cases hneg : d < 0
                · have HNG := Lib.hid (show ¬ RightG glen L from fun hr => by
                    obtain ⟨kk, h3, _⟩ := dist_num HD.out hjt (hr.2.2.2.2.all hRG (by omega) (by omega))
                    rw [HDD.out] at h3
                    omega)
                  go_wp2_with fail
                  go_ret
                  exact RightRes.no rfl HNG.out HK3.out.bel
                · go_wp2_with fail
                  go_roundw
                  case rel =>
                    refine ⟨j + 1, by go_num, by omega, by first | trivial | rfl, fun i hi => ?_⟩
                    by_cases hij : i < j
                    · exact HN.out i hij
                    · obtain rfl : i = j := by omega
                      rw [HDD.out]; exact hneg
                  case measure => simp [intOf]; omega
              · have hjt' : ¬ (j : Int) < glen := by omega
                obtain rfl : j = glen := by omega
                have HC5 := Lib.hid (show ∀ b : Nat, b < m + 1 → ∀ y : Nat, y < j → ∃ k, Way L k b y from fun b hb y hy => by
                  by_cases hbm : b < m
                  · exact HC.out b hbm y hy
                  · obtain rfl : b = m := by omega
                    rcases HD.out.2 y hy with ⟨kk, _, h4⟩ | ⟨h3, _⟩
                    · exact ⟨kk, h4.1⟩
                    · exact absurd (show D.getD y (-1) < 0 by rw [h3]; omega) (HN.out y hy))
                clear hN
                go_wp2_with fail
                go_roundw
                case rel => exact ⟨m + 1, by go_num, by omega, HK3.out, HC5.out⟩
                case measure => simp [intOf]; omega
        · have hmt' : ¬ (m : Int) < N := by omega
          have HY := Lib.hid (show RightG N L from ⟨by omega, by omega, h30, hRG, fun y hy => HC.out 0 (by omega) y (by omega)⟩)
          go_wp2_with fail
          go_ret
          exact RightRes.mk true rfl ⟨fun _ => HY.out, fun _ => rfl⟩ HK2.out.bel

theorem rright_any (N : Int) (v : Value) (L : Lks) (w : World) (h : LinksAt w v L) :
    Calls Try.prog 27 #[gv N v] w (RightRes w N L) := by
  by_cases hN : 1 ≤ N ∧ N ≤ 6 ∧ L.length ≤ 30
  · obtain ⟨n, rfl⟩ : ∃ n : Nat, N = (n : Int) := ⟨N.toNat, by omega⟩
    exact rright_yes n v L w h (by omega) (by omega) hN.2.2
  · exact rright_no N v L w h hN
end Go.Proofs.Ytgoioibfecgopaa


namespace Go.Proofs.Ytgoioibfecgopaa
open Go.RowKit Go.PlainAid

theorem ints_eq {xs ys : List Int} (hl : xs.length = ys.length) (h : ∀ j, j < xs.length → xs.getD j 0 = ys.getD j 0) : xs = ys := by
  apply List.ext_getElem hl
  intro i h1 h2
  have := h i h1
  simpa [List.getD, h1, h2] using this

set_option maxHeartbeats 1000000 in
theorem rints_any (v u : Value) (xs ys : List Int) (w : World) (hv : IntsAt w v xs) (hu : IntsAt w u ys) (h1 : xs.length ≤ 1000000) (h2 : ys.length ≤ 1000000) :
    Calls Try.prog 26 #[v, u] w fun e w' => e = .returned (.bool (decide (xs = ys))) ∧ ∃ n, w.drewN n = w' := by
  rcases hv with ⟨a, cap, rfl, rfl⟩ | ⟨b, off, len, cap, rfl, hl, hp, hb, hlc, hc⟩
  · rcases hu with ⟨a', cap', rfl, rfl⟩ | ⟨b', off', len', cap', rfl, hl', hp', hb', hlc', hc'⟩
    · go_enter Try.func26, Try.ntmps26
      go_wp2_with fail
      refine wp_loop_rounds 1 ?_
      rw [rounds_succ]
      go_wp2_with fail
      go_ret
      exact ⟨rfl, 0, rfl⟩
    · have hd : decide (([] : List Int) = ys) = false := decide_eq_false (fun h => by rw [← h] at hl'; simp at hl'; omega)
      have Hd := Lib.hid hd
      have hn : ((0 : Int) != (len' : Int)) = true := by rw [bne_iff_ne]; omega
      clear hc' hl' hd
      go_enter Try.func26, Try.ntmps26
      go_wp2_with fail
      go_ret
      exact ⟨by rw [Hd.out]; rfl, 0, rfl⟩
  · rcases hu with ⟨a', cap', rfl, rfl⟩ | ⟨b', off', len', cap', rfl, hl', hp', hb', hlc', hc'⟩
    · have hd : decide (xs = ([] : List Int)) = false := decide_eq_false (fun h => by rw [h] at hl; simp at hl; omega)
      have Hd := Lib.hid hd
      have hn : ((len : Int) != 0) = true := by rw [bne_iff_ne]; omega
      clear hc hl hd
      go_enter Try.func26, Try.ntmps26
      go_wp2_with fail
      go_ret
      exact ⟨by rw [Hd.out]; rfl, 0, rfl⟩
    · by_cases hll : len = len'
      · subst hll
        have Hc := Lib.hid hc
        have Hc' := Lib.hid hc'
        have Hl := Lib.hid hl
        have Hl' := Lib.hid hl'
        have hlb : len ≤ 1000000 := by omega
        clear hc hc' hl hl' h1 h2
        go_enter Try.func26, Try.ntmps26
        go_wp2_with fail
        go_loopw [5] (fun i wr => ∃ k : Nat, i = .int .i64 k ∧ k ≤ len ∧ (∀ j, j < k → xs.getD j 0 = ys.getD j 0) ∧ ∃ n, wr = w.drewN n) (fun i _ => len - (intOf i).toNat)
        case atStart => exact ⟨0, rfl, by omega, fun j hj => by omega, 0, rfl⟩
        case round =>
          obtain ⟨k, rfl, hk, hsame, n, rfl⟩ := hrel
          have Hs := Lib.hid hsame
          clear hsame
          by_cases hlt : k < len
          · have c1 := Hc.out k hlt
            have c2 := Hc'.out k hlt
            by_cases he : xs.getD k 0 = ys.getD k 0
            · have He := Lib.hid he
              obtain ⟨x, hx⟩ : ∃ x, x = ys.getD k 0 := ⟨_, rfl⟩
              rw [he, ← hx] at c1
              rw [← hx] at c2
              clear he hx
              go_wp2_with fail
              have hlt' : (k : Int) < len := by omega
              go_quiet (fail)
              go_wp2_with fail
              go_roundw
              case rel =>
                refine ⟨k + 1, by go_num, by omega, fun j hj => ?_, _, rfl⟩
                by_cases hjk : j < k
                · exact Hs.out j hjk
                · obtain rfl : j = k := by omega
                  exact He.out
              case measure => simp [intOf]; omega
            · obtain ⟨x, hx⟩ : ∃ x, x = xs.getD k 0 := ⟨_, rfl⟩
              obtain ⟨y, hy⟩ : ∃ y, y = ys.getD k 0 := ⟨_, rfl⟩
              have hd : decide (xs = ys) = false := decide_eq_false (fun h => he (by rw [h]))
              have Hd := Lib.hid hd
              rw [← hx, ← hy] at he
              rw [← hx] at c1
              rw [← hy] at c2
              have hn : (x != y) = true := by rw [bne_iff_ne]; exact he
              clear hx hy hd he
              go_wp2_with fail
              have hlt' : (k : Int) < len := by omega
              go_quiet (fail)
              go_wp2_with fail
              go_ret
              exact ⟨by rw [Hd.out]; rfl, _, (World.drewN_drewN _ _ _).symm⟩
          · go_wp2_with fail
            go_ret
            have : xs = ys := ints_eq (by rw [Hl.out, Hl'.out]) (fun j hj => Hs.out j (by rw [Hl.out] at hj; omega))
            exact ⟨by rw [this]; simp, n, rfl⟩
      · have hd : decide (xs = ys) = false := decide_eq_false (fun h => by rw [h] at hl; omega)
        have Hd := Lib.hid hd
        have hn : ((len : Int) != (len' : Int)) = true := by rw [bne_iff_ne]; omega
        clear hc hl hd hc' hl' hll
        go_enter Try.func26, Try.ntmps26
        go_wp2_with fail
        go_ret
        exact ⟨by rw [Hd.out]; rfl, 0, rfl⟩

theorem rints_same (v u : Value) (xs : List Int) (w : World) (hv : IntsAt w v xs) (hu : IntsAt w u xs) (h1 : xs.length ≤ 1000000) :
    Calls Try.prog 26 #[v, u] w fun e w' => e = .returned (.bool true) ∧ Below w.heap.size w w' := by
  refine (rints_any v u xs xs w hv hu h1 h1).mono ?_
  rintro e w' ⟨rfl, n, rfl⟩
  exact ⟨by simp, below_drewN (Below.refl _ _) n⟩

theorem isDist_of {n : Nat} {L : Lks} {a : Nat} {D : List Int} (hl : D.length = n) (h0 : D.getD a (-1) = 0) (hst : ∀ p ∈ L, D.getD p.2.toNat (-1) ≤ D.getD p.1.toNat (-1) + 1)
    (hw : ∀ y : Nat, y < n → ∃ k : Nat, D.getD y (-1) = (k : Int) ∧ Way L k a y) : IsDist n L a D := by
  have key : ∀ (k : Nat) (y : Int), Way L k a y → D.getD y.toNat (-1) ≤ k := by
    intro k
    induction k with
    | zero => intro y h; have e : (a : Int) = y := h; subst e; rw [Int.toNat_natCast, h0]; exact Int.le_refl _
    | succ k ih =>
      intro y h
      obtain ⟨c, hc, hm⟩ := h
      have h1 := ih c hc
      have h2 := hst _ hm
      simp only at h2
      omega
  refine ⟨hl, fun y hy => .inl ?_⟩
  obtain ⟨k, hk, hwk⟩ := hw y hy
  refine ⟨k, hk, hwk, fun j hj hwj => ?_⟩
  have := key j y hwj
  rw [Int.toNat_natCast] at this
  omega

theorem wfSmall {L : Lks} (h : ∀ p ∈ L, 0 ≤ p.1 ∧ p.1 < 1000 ∧ 0 ≤ p.2 ∧ p.2 < 1000) : ∀ p ∈ L, wfp p := fun p hp => by
  have := h p hp
  exact ⟨WalkArith.wf_i64 (by omega), WalkArith.wf_i64 (by omega)⟩

theorem right_true (N : Int) (v : Value) (L : Lks) (w : World) (h : LinksAt w v L) (hW : ∀ p ∈ L, wfp p) (hG : RightG N L) :
    Calls Try.prog 47 #[gv N v] w fun e w' => e = .returned (.bool true) ∧ Below w.heap.size w w' := by
  refine (right_any N v L w h hW).mono ?_
  rintro e w' ⟨r, rfl, hr, hb⟩
  rw [hr.2 hG]; exact ⟨rfl, hb⟩
theorem right_false (N : Int) (v : Value) (L : Lks) (w : World) (h : LinksAt w v L) (hW : ∀ p ∈ L, wfp p) (hG : ¬ RightG N L) :
    Calls Try.prog 47 #[gv N v] w fun e w' => e = .returned (.bool false) ∧ Below w.heap.size w w' := by
  refine (right_any N v L w h hW).mono ?_
  rintro e w' ⟨r, rfl, hr, hb⟩
  have : r = false := by
    cases r with
    | false => rfl
    | true => exact absurd (hr.1 rfl) hG
  rw [this]; exact ⟨rfl, hb⟩
theorem rright_true (N : Int) (v : Value) (L : Lks) (w : World) (h : LinksAt w v L) (hG : RightG N L) :
    Calls Try.prog 27 #[gv N v] w fun e w' => e = .returned (.bool true) ∧ Below w.heap.size w w' := by
  refine (rright_any N v L w h).mono ?_
  rintro e w' ⟨r, rfl, hr, hb⟩
  rw [hr.2 hG]; exact ⟨rfl, hb⟩
theorem rright_false (N : Int) (v : Value) (L : Lks) (w : World) (h : LinksAt w v L) (hG : ¬ RightG N L) :
    Calls Try.prog 27 #[gv N v] w fun e w' => e = .returned (.bool false) ∧ Below w.heap.size w w' := by
  refine (rright_any N v L w h).mono ?_
  rintro e w' ⟨r, rfl, hr, hb⟩
  have : r = false := by
    cases r with
    | false => rfl
    | true => exact absurd (hr.1 rfl) hG
  rw [this]; exact ⟨rfl, hb⟩
theorem dist_at (N a : Nat) (v : Value) (L : Lks) (D : List Int) (w : World) (hL : LinksAt w v L) (hR : InR N L) (h1 : 1 ≤ N) (h6 : N ≤ 6) (ha : a < N) (hn : L.length ≤ 1000000) (hD : IsDist N L a D) :
    Calls Try.prog 71 #[gv N v, .int .i64 (a : Int)] w fun e w' => ∃ u, e = .returned u ∧ IntsAt w' u D ∧ Below w.heap.size w w' := by
  refine (dist_some N a v L w hL hR h1 h6 ha hn).mono ?_
  rintro e w' ⟨u, D', rfl, h1, h2, h3⟩
  rw [h1.eq hD] at h2
  exact ⟨u, rfl, h2, h3⟩
theorem rdist_at (N a : Nat) (v : Value) (L : Lks) (D : List Int) (w : World) (hL : LinksAt w v L) (hR : InR N L) (h1 : 1 ≤ N) (h6 : N ≤ 6) (ha : a < N) (hn : L.length ≤ 1000000) (hD : IsDist N L a D) :
    Calls Try.prog 57 #[gv N v, .int .i64 (a : Int)] w fun e w' => ∃ u, e = .returned u ∧ IntsAt w' u D ∧ Below w.heap.size w w' := by
  refine (rdist_some N a v L w hL hR h1 h6 ha hn).mono ?_
  rintro e w' ⟨u, D', rfl, h1, h2, h3⟩
  rw [h1.eq hD] at h2
  exact ⟨u, rfl, h2, h3⟩
theorem dist_out (N n : Int) (v : Value) (w : World) (h : ¬ (0 ≤ n ∧ n < N)) :
    Calls Try.prog 71 #[gv N v, .int .i64 n] w fun e w' => ∃ u, e = .returned u ∧ IntsAt w' u [] ∧ Below w.heap.size w w' := by
  refine (dist_no N n v w h).mono ?_
  rintro e w' ⟨rfl, hb⟩
  exact ⟨_, rfl, .inl ⟨_, _, rfl, rfl⟩, hb⟩
/-- Distances exist. -/
theorem isDist_ex (N a : Nat) (L : Lks) : ∃ D, IsDist N L a D := by
  have hex : ∀ y : Nat, ∃ d : Int, (∃ k : Nat, d = (k : Int) ∧ Far L k a y) ∨ (d = -1 ∧ ∀ k, ¬ Way L k a y) := by
    intro y
    by_cases h : ∃ k, Way L k a y
    · obtain ⟨k, hk⟩ := h
      obtain ⟨j, _, hf⟩ := far_of_way hk
      exact ⟨j, .inl ⟨j, rfl, hf⟩⟩
    · exact ⟨-1, .inr ⟨rfl, fun k hk => h ⟨k, hk⟩⟩⟩
  obtain ⟨f, hf⟩ := Classical.axiomOfChoice hex
  refine ⟨(List.range N).map f, by simp, fun y hy => ?_⟩
  have e : ((List.range N).map f).getD y (-1) = f y := by simp [List.getD, hy]
  rw [e]
  exact hf y
end Go.Proofs.Ytgoioibfecgopaa


namespace Go.Proofs.Ytgoioibfecgopaa
open Go.RowKit Go.PlainAid

def F3 : Lks := [(0, 1), (0, 2), (1, 0), (1, 2), (2, 0), (2, 1)]
def Ln : Lks := [(0, 1), (1, 0), (1, 2), (2, 1)]
def On : Lks := [(0, 1)]
def F2 : Lks := [(0, 1), (1, 0)]
theorem full3 : fullL 3 3 = F3 := by decide
theorem full2 : fullL 2 2 = F2 := by decide
theorem full6 : (fullL 6 6).length = 30 := by decide +kernel

theorem rg_of {N : Int} {L : Lks} (h1 : L.Nodup) (h2 : ∀ p ∈ L, 0 ≤ p.1 ∧ p.1 < N ∧ 0 ≤ p.2 ∧ p.2 < N) (h3 : ∀ p ∈ L, p.1 ≠ p.2) (h4 : ∀ p ∈ L, (p.2, p.1) ∈ L) : RG N L := ⟨h1, h2, h3, h4⟩
theorem rgF3 : RG 3 F3 := rg_of (by decide) (by decide) (by decide) (by decide)
theorem rgLn : RG 3 Ln := rg_of (by decide) (by decide) (by decide) (by decide)
theorem rightF3 : RightG 3 F3 := by
  refine ⟨by omega, by omega, by decide, rgF3, fun y hy => ?_⟩
  have : y = 0 ∨ y = 1 ∨ y = 2 := by omega
  rcases this with rfl | rfl | rfl
  · exact ⟨0, rfl⟩
  · exact ⟨1, 0, rfl, by decide⟩
  · exact ⟨1, 0, rfl, by decide⟩
theorem rightLn : RightG 3 Ln := by
  refine ⟨by omega, by omega, by decide, rgLn, fun y hy => ?_⟩
  have : y = 0 ∨ y = 1 ∨ y = 2 := by omega
  rcases this with rfl | rfl | rfl
  · exact ⟨0, rfl⟩
  · exact ⟨1, 0, rfl, by decide⟩
  · exact ⟨2, 1, ⟨0, rfl, by decide⟩, by decide⟩
theorem noOn : ¬ RightG 2 On := fun h => absurd (h.2.2.2.1.sym (0, 1) (by decide)) (by decide)
theorem no0 : ¬ RightG 0 [] := fun h => absurd h.1 (by omega)
theorem no2 : ¬ RightG 2 [] := fun h => by
  obtain ⟨k, hk⟩ := h.2.2.2.2 1 (by omega)
  cases k with
  | zero => have e : (0 : Int) = ((1 : Nat) : Int) := hk; omega
  | succ k => obtain ⟨c, _, hm⟩ := hk; simp at hm
theorem right1 : RightG 1 [] := by
  refine ⟨by omega, by omega, by decide, rg_of (by decide) (by decide) (by decide) (by decide), fun y hy => ?_⟩
  obtain rfl : y = 0 := by omega
  exact ⟨0, rfl⟩
theorem distLn : IsDist 3 Ln ((0 : Nat) : Int) [0, 1, 2] := by
  refine isDist_of rfl rfl (by decide) (fun y hy => ?_)
  have : y = 0 ∨ y = 1 ∨ y = 2 := by omega
  rcases this with rfl | rfl | rfl
  · exact ⟨0, rfl, rfl⟩
  · exact ⟨1, rfl, 0, rfl, by decide⟩
  · exact ⟨2, rfl, 1, ⟨0, rfl, by decide⟩, by decide⟩

theorem links_new (w : World) (t : TypeId) (L : Lks) (h0 : 0 < L.length) : LinksAt (w.alloc (.cells (flat L).toArray t)) (.slice (some ⟨w.heap.size, 0, none⟩) L.length L.length) L := by
  refine .inr ⟨w.heap.size, 0, L.length, L.length, rfl, rfl, h0, by simp, Nat.le_refl _, fun i hi => ?_⟩
  have g := flat_get L i hi
  have hl := flat_length L
  refine ⟨?_, ?_⟩
  · rw [World.cell?_alloc_at _ _ _ _ (by simp <;> omega), Nat.zero_add]; simpa using g.1
  · rw [World.cell?_alloc_at _ _ _ _ (by simp <;> omega), Nat.zero_add]; simpa using g.2
theorem ints_new (w : World) (t : TypeId) (xs : List Int) (h0 : 0 < xs.length) : IntsAt (w.alloc (.cells (ivs xs).toArray t)) (.slice (some ⟨w.heap.size, 0, none⟩) xs.length xs.length) xs := by
  refine .inr ⟨w.heap.size, 0, xs.length, xs.length, rfl, rfl, h0, by simp, Nat.le_refl _, fun i hi => ?_⟩
  rw [World.cell?_alloc_at _ _ _ _ (by simp <;> omega), Nat.zero_add]
  simp [ivs, List.getD, hi]
theorem below_alloc (w : World) (o : Obj) : Below w.heap.size w (w.alloc o) := (Below.refl _ w).alloc (Nat.le_refl _) o

/-- The three graphs that are asked. -/
structure FAt (w : World) (h : Nat) (v1 v2 v3 : Value) (wr : World) : Prop where
  bel : Below w.heap.size w wr
  ge : w.heap.size ≤ wr.heap.size
  a0 : wr.cell? ⟨h, 0, none⟩ = some (.int .i64 3)
  a1 : wr.cell? ⟨h, 1, none⟩ = some v1
  b0 : wr.cell? ⟨h + 1 + 1, 0, none⟩ = some (.int .i64 3)
  b1 : wr.cell? ⟨h + 1 + 1, 1, none⟩ = some v2
  c0 : wr.cell? ⟨h + 1 + 1 + 1 + 1, 0, none⟩ = some (.int .i64 2)
  c1 : wr.cell? ⟨h + 1 + 1 + 1 + 1, 1, none⟩ = some v3
  l1 : LinksAt wr v1 F3
  l2 : LinksAt wr v2 Ln
  l3 : LinksAt wr v3 On
theorem FAt.below {w wr w' : World} {h : Nat} {v1 v2 v3 : Value} (f : FAt w h v1 v2 v3 wr) (hb : Below wr.heap.size wr w') : FAt w h v1 v2 v3 w' := by
  have h1 := World.block_lt_of_cell? wr _ f.a0
  have h2 := World.block_lt_of_cell? wr _ f.b0
  have h3 := World.block_lt_of_cell? wr _ f.c0
  exact ⟨below_step f.ge f.bel hb, Nat.le_trans f.ge hb.size, (hb.cell h1).trans f.a0, (hb.cell (by exact h1)).trans f.a1, (hb.cell h2).trans f.b0, (hb.cell (by exact h2)).trans f.b1,
    (hb.cell h3).trans f.c0, (hb.cell (by exact h3)).trans f.c1, f.l1.below hb, f.l2.below hb, f.l3.below hb⟩

theorem full_at (n : Int) (N : Nat) (w : World) (hN : (N : Int) = max 1 (min n 6)) :
    Calls Try.prog 53 #[.int .i64 n] w fun e w' => ∃ a c, e = .returned (gv N (.slice a (fullL N N).length c)) ∧ LinksAt w' (.slice a (fullL N N).length c) (fullL N N) ∧ Below w.heap.size w w' := by
  refine (full_any n (if n < 1 then 1 else n) N w rfl (by split <;> split <;> omega) (by omega)).mono ?_
  rintro e w' ⟨v, rfl, hL, hb⟩
  obtain ⟨a, c, rfl⟩ := hL.at
  exact ⟨a, c, rfl, hL, hb⟩
theorem find_at (N x y q : Int) (v : Value) (L : Lks) (w : World) (h : LinksAt w v L) (hn : L.length ≤ 1000000) (hq : findL L (x, y) = q) :
    Calls Try.prog 73 #[gv N v, .int .i64 x, .int .i64 y] w fun e w' => e = .returned (.int .i64 q) ∧ Below w.heap.size w w' := by
  subst hq; exact find_any N x y v L w h hn
theorem outs_at (N n : Int) (v : Value) (L : Lks) (O : List Int) (w : World) (h : LinksAt w v L) (hn : L.length ≤ 1000000) (hO : sel 0 L n = O) :
    Calls Try.prog 96 #[gv N v, .int .i64 n] w fun z w' => ∃ a c, z = .returned (.slice a O.length c) ∧ IntsAt w' (.slice a O.length c) O ∧ Below w.heap.size w w' := by
  refine (out_any N n v L w h hn).mono ?_
  rintro e w' ⟨u, rfl, hi, _, hb⟩
  rw [hO] at hi
  obtain ⟨a, c, rfl⟩ := intsAt_slice hi
  exact ⟨a, c, rfl, hi, hb⟩
theorem dists_at (N a : Nat) (v : Value) (L : Lks) (D : List Int) (w : World) (hL : LinksAt w v L) (hR : InR N L) (h1 : 1 ≤ N) (h6 : N ≤ 6) (ha : a < N) (hn : L.length ≤ 1000000) (hD : IsDist N L a D) :
    Calls Try.prog 71 #[gv N v, .int .i64 (a : Int)] w fun e w' => ∃ s c, e = .returned (.slice s D.length c) ∧ IntsAt w' (.slice s D.length c) D ∧ Below w.heap.size w w' := by
  refine (dist_at N a v L D w hL hR h1 h6 ha hn hD).mono ?_
  rintro e w' ⟨u, rfl, hi, hb⟩
  obtain ⟨s, c, rfl⟩ := intsAt_slice hi
  exact ⟨s, c, rfl, hi, hb⟩
theorem dist3_0 (v : Value) (w : World) (hL : LinksAt w v Ln) : Calls Try.prog 71 #[gv 3 v, .int .i64 0] w fun e w' => ∃ s c, e = .returned (.slice s 3 c) ∧ IntsAt w' (.slice s 3 c) [0, 1, 2] ∧ Below w.heap.size w w' :=
  dists_at 3 0 v Ln [0, 1, 2] w hL rgLn.in (by omega) (by omega) (by omega) (by decide) distLn

theorem run_field1 (w : World) (x y : Value) : (Instr.field 25 (.agg #[x, y]) 1).run Try.prog w = .ok y w := by
  have hu := Try.underlying25
  simp [Instr.field, run_underlying hu, asAgg, part, Result.andThen]
attribute [go_sem] run_field1

end Go.Proofs.Ytgoioibfecgopaa


namespace Go.Proofs.Ytgoioibfecgopaa
open Go.RowKit Go.PlainAid Go.ChangeShapes Go.WideShapes Go.Lib Go.Deep

set_option maxRecDepth 100000 in
theorem ints_of_array {H : Type} {enc : TypeId × Value → H} {W : World} {t : TypeId} {k n : Nat} {cs : List Value} {y : DataW H × List MemPlace} (hu : Try.prog.underlying t = some (.array k 3)) (hC : Try.prog.cellsOf t = k)
    (h : DataW.trod enc Try.prog W 0 (fun _ => true) true n t cs = some y) : cs.length = k ∧ ∀ i, i < k → ∃ a : Int, cs[i]? = some (.int .i64 a) ∧ (Lit.int .i64 a).wf = true := by
  obtain ⟨xs, m, _, _, hl, hxl, hi⟩ := DataW.trod_array hu h
  rw [hC] at hl
  refine ⟨hl, fun i hik => ?_⟩
  have h1 : Try.prog.cellsOf 3 = 1 := by kernel_rfl
  have := hi i hik
  rw [h1, Nat.mul_one] at this
  have hx : i < xs.length := by omega
  rw [List.getElem?_eq_getElem hx] at this
  obtain ⟨a, ha, _, wa⟩ := DataW.trod_int Try.underlying3 this
  refine ⟨a, ?_, wa⟩
  have hil : i < cs.length := by omega
  have e : List.take 1 (cs.drop i) = [cs[i]] := by rw [List.drop_eq_getElem_cons hil]; rfl
  rw [e] at ha
  rw [List.getElem?_eq_getElem hil]
  simpa using ha

set_option maxRecDepth 100000 in
theorem links_of_trod {H : Type} {enc : TypeId × Value → H} {W : World} {v : Value} {n : Nat} {y : DataW H × List MemPlace} (hd : DataW.trod enc Try.prog W 0 (fun _ => true) true n 23 [v] = some y) :
    ∃ L, LinksAt W v L ∧ ∀ p ∈ L, wfp p := by
  rcases open_slice Try.underlying23 hd with ⟨h, _⟩ | ⟨a, len, cap, m, n', D, Pl, h, _, hlc, _, hm, _, hi⟩
  · simp at h
    subst h
    exact ⟨[], .inl ⟨none, 0, rfl, rfl⟩, by simp⟩
  · simp at h hm
    subst h hm
    have h2 : Try.prog.cellsOf 90 = 2 := by kernel_rfl
    rw [h2] at hi
    by_cases h0 : len = 0
    · subst h0; exact ⟨[], .inl ⟨_, m, rfl, rfl⟩, by simp⟩
    · have hex : ∀ i : Nat, ∃ p : Int × Int, i < m → W.cell? (a.add (i * 2)) = some (.int .i64 p.1) ∧ W.cell? (a.add (i * 2 + 1)) = some (.int .i64 p.2) ∧ wfp p := by
        intro i
        by_cases him : i < m
        · obtain ⟨cs', hc, ht⟩ := hi i him
          obtain ⟨_, hcl, hat⟩ := World.cells?_some hc
          obtain ⟨_, hv⟩ := ints_of_array Try.underlying90 h2 ht
          obtain ⟨x, hx, wx⟩ := hv 0 (by omega)
          obtain ⟨z, hz, wz⟩ := hv 1 (by omega)
          refine ⟨(x, z), fun _ => ⟨?_, ?_, wx, wz⟩⟩
          · have := hat 0 (by omega)
            rw [hx, Go.Deep.add_add, Nat.add_zero] at this
            exact this
          · have := hat 1 (by omega)
            rw [hz, Go.Deep.add_add] at this
            exact this
        · exact ⟨(0, 0), fun h => absurd h him⟩
      obtain ⟨f, hf⟩ := Classical.axiomOfChoice hex
      obtain ⟨b, off, spot⟩ := a
      have hspot : spot = none := by simpa [Addr.add] using World.cell?_spot (hf 0 (by omega)).1
      subst hspot
      have hget : ∀ i, i < len → lk ((List.range len).map f) i = f i := fun i hil => by simp [lk, List.getD, hil]
      refine ⟨(List.range len).map f, .inr ⟨b, off, len, m, rfl, by simp, by omega, ?_, hlc, fun i hil => ?_⟩, ?_⟩
      · have := (hf 0 (by omega)).1
        have := World.block_lt_of_cell? W _ this
        simpa [Addr.add] using this
      · obtain ⟨q1, q2, _⟩ := hf i (by omega)
        rw [hget i hil]
        rw [Go.WideShapes.add_plain] at q1 q2
        exact ⟨q1, by rw [Nat.add_assoc]; exact q2⟩
      · intro p hp
        obtain ⟨i, hil, rfl⟩ := List.mem_map.1 hp
        exact (hf i (by simp at hil; omega)).2.2

set_option maxRecDepth 100000 in
theorem open_graph {H : Type} {enc : TypeId × Value → H} {W : World} {b0 : Nat} {v : Value} {d : DataW H} {ps : List MemPlace} (hval : Value.okWide Try.prog W .any b0 25 v) (hd : DataW.Trod enc Try.prog W 0 (fun _ => true) true 25 v d ps) :
    ∃ N u L, v = .agg #[.int .i64 N, u] ∧ LinksAt W u L ∧ ∀ p ∈ L, wfp p := by
  obtain ⟨v0, v1, y0, y1, n, rfl, -, -, t0, t1⟩ := Go.Joins.open_agg2 Try.underlying25 (by kernel_rfl) (by kernel_rfl) hval hd
  obtain ⟨A, hA, -, wA⟩ := DataW.trod_int Try.underlying3 t0
  obtain ⟨L, hL, hW⟩ := links_of_trod t1
  simp at hA
  subst hA
  exact ⟨A, v1, L, rfl, hL, hW⟩

set_option maxRecDepth 100000 in
theorem open_three {H : Type} {enc : TypeId × Value → H} {W : World} {b0 : Nat} {v : Value} {d : DataW H} {ps : List MemPlace} (hval : Value.okWide Try.prog W .any b0 54 v) (hd : DataW.Trod enc Try.prog W 0 (fun _ => true) true 54 v d ps) :
    ∃ a b c : Int, v = .agg #[.int .i64 a, .int .i64 b, .int .i64 c] ∧ (Lit.int .i64 a).wf = true ∧ (Lit.int .i64 b).wf = true ∧ (Lit.int .i64 c).wf = true := by
  have hu := Try.underlying54
  have h3 : Try.prog.cellsOf 54 = 3 := by kernel_rfl
  simp only [Value.okWide, hu] at hval
  obtain ⟨cs, rfl, h2, _⟩ := hval
  obtain ⟨n, hn⟩ := hd
  obtain ⟨hl, hv⟩ := ints_of_array hu h3 hn
  obtain ⟨a, ha, wa⟩ := hv 0 (by omega)
  obtain ⟨b, hb, wb⟩ := hv 1 (by omega)
  obtain ⟨c, hc, wc⟩ := hv 2 (by omega)
  obtain ⟨l⟩ := cs
  simp [Value.cells] at hl ha hb hc
  match l, hl with
  | [x, y, z], _ =>
    simp at ha hb hc
    subst ha hb hc
    exact ⟨a, b, c, rfl, wa, wb, wc⟩
end Go.Proofs.Ytgoioibfecgopaa


namespace Go.Proofs.Ytgoioibfecgopaa
open Go.RowKit Go.PlainAid

theorem take_le (L : Lks) : (L.take 40).length ≤ 40 := by rw [List.length_take]; omega
theorem cut_at (a : Option Addr) (cap : Nat) (L : Lks) (N : Int) (w : World) (h : LinksAt w (.slice a L.length cap) L) :
    Calls Try.prog 14 #[gv N (.slice a L.length cap)] w fun e w' => e = .returned (gv N (.slice a (L.take 40).length cap)) ∧ Below w.heap.size w w' := by
  rcases h with ⟨a', cap', e0, rfl⟩ | ⟨b, off, len, cap', e0, hl, hp, hb, hlc, hc⟩
  · simp only [List.length_nil]
    unfold gv
    cases a with
    | none =>
      go_enter Try.func14, Try.ntmps14
      go_wp2_with fail
      refine bodyPost_ret (v := .agg #[.int .i64 N, .slice none 0 cap]) (by simp [results, Try.results14, go_sem]) rfl ⟨rfl, ?_⟩
      go_grown
    | some a =>
      go_enter Try.func14, Try.ntmps14
      go_wp2_with fail
      refine bodyPost_ret (v := .agg #[.int .i64 N, .slice (some a) 0 cap]) (by simp [results, Try.results14, go_sem]) rfl ⟨rfl, ?_⟩
      go_grown
  · simp only [Value.slice.injEq] at e0
    obtain ⟨rfl, _, rfl⟩ := e0
    exact cut_some b off L.length cap (L.take 40).length N w (by omega) (by rw [List.length_take]; split <;> omega) (by rw [List.length_take]; omega)
theorem linksAt_cut {a : Option Addr} {cap : Nat} {L : Lks} {w : World} (h : LinksAt w (.slice a L.length cap) L) : LinksAt w (.slice a (L.take 40).length cap) (L.take 40) := by
  rcases h with ⟨a', cap', e0, rfl⟩ | ⟨b, off, len, cap', e0, hl, hp, hb, hlc, hc⟩
  · exact .inl ⟨a, cap, rfl, by simp⟩
  · simp only [Value.slice.injEq] at e0
    obtain ⟨rfl, _, rfl⟩ := e0
    have := LinksAt.take hl hb hlc hc (L.take 40).length (by rw [List.length_take]; omega)
    rw [show L.take (L.take 40).length = L.take 40 by rw [List.length_take, List.take_eq_take_iff]; omega] at this
    exact this

theorem Box.start (w : World) (N : Int) (v : Value) (T : TypeId) : Box (w.alloc (.cells #[.int .i64 N, v] T)) w.heap.size (.int .i64 N) v :=
  ⟨World.cell?_alloc_at _ _ _ _ rfl, World.cell?_alloc_at _ _ _ _ rfl, World.frozen?_alloc_at _ _ _ _ rfl, World.frozen?_alloc_at _ _ _ _ rfl⟩
theorem law_box {w w1 : World} {N : Int} {v v' : Value} {M : Lks} {T : TypeId} (hb : Below (w.alloc (.cells #[.int .i64 N, v] T)).heap.size (w.alloc (.cells #[.int .i64 N, v] T)) w1) (hM : LinksAt w v' M) :
    Box w1 w.heap.size (.int .i64 N) v ∧ ∃ we, we = (w1.setCell ⟨w.heap.size, 0, none⟩ (.int .i64 N)).setCell ⟨w.heap.size, 1, none⟩ v' ∧ KAt w N v' M we := by
  have h1 := (Box.start w N v T).below hb
  have hbw : Below w.heap.size w w1 := below_step (by simp) ((Below.refl _ w).alloc (Nat.le_refl _) _) hb
  have h2 := h1.fill (.int .i64 N) v'
  have h3 : Below w.heap.size w ((w1.setCell ⟨w.heap.size, 0, none⟩ (.int .i64 N)).setCell ⟨w.heap.size, 1, none⟩ v') := (hbw.setCell (by simp) _).setCell (by simp) _
  exact ⟨h1, _, rfl, ⟨h3, h2.1, h2.2.1, hM.below h3⟩⟩
theorem wf_take {L : Lks} (h : ∀ p ∈ L, wfp p) : ∀ p ∈ L.take 40, wfp p := fun p hp => h p (List.mem_of_mem_take hp)

theorem right_at (N : Int) (v : Value) (L : Lks) (r : Bool) (w : World) (h : LinksAt w v L) (hW : ∀ p ∈ L, wfp p) (hr : r = true ↔ RightG N L) :
    Calls Try.prog 47 #[gv N v] w fun e w' => e = .returned (.bool r) ∧ Below w.heap.size w w' := by
  cases r with
  | true => exact right_true N v L w h hW (hr.1 rfl)
  | false => exact right_false N v L w h hW (fun hg => by have := hr.2 hg; cases this)
theorem rright_at (N : Int) (v : Value) (L : Lks) (r : Bool) (w : World) (h : LinksAt w v L) (hr : r = true ↔ RightG N L) :
    Calls Try.prog 27 #[gv N v] w fun e w' => e = .returned (.bool r) ∧ Below w.heap.size w w' := by
  cases r with
  | true => exact rright_true N v L w h (hr.1 rfl)
  | false => exact rright_false N v L w h (fun hg => by have := hr.2 hg; cases this)
theorem bool_of (p : Prop) : ∃ r : Bool, r = true ↔ p := by
  by_cases h : p
  · exact ⟨true, by simp [h]⟩
  · exact ⟨false, by simp [h]⟩
theorem rfind_at2 (N x y q : Int) (v : Value) (L : Lks) (w : World) (h : LinksAt w v L) (hn : L.length ≤ 1000000) (hq : findL L (x, y) = q) :
    Calls Try.prog 25 #[gv N v, .int .i64 x, .int .i64 y] w fun e w' => e = .returned (.int .i64 q) ∧ Below w.heap.size w w' := by
  subst hq; exact rfind_any N x y v L w h hn
/-- How far nodes are, whatever the number asked. -/
theorem dist_both (N : Nat) (n : Int) (L : Lks) (hR : InR N L) (h1 : 1 ≤ N) (h6 : N ≤ 6) (hn : L.length ≤ 1000000) : ∃ D : List Int, D.length ≤ 6 ∧ (∀ a : Nat, n = (a : Int) → a < N → IsDist N L a D) ∧
    (∀ v w, LinksAt w v L → Calls Try.prog 71 #[gv N v, .int .i64 n] w fun e w' => ∃ s c, e = .returned (.slice s D.length c) ∧ IntsAt w' (.slice s D.length c) D ∧ Below w.heap.size w w') ∧
    (∀ v w, LinksAt w v L → Calls Try.prog 57 #[gv N v, .int .i64 n] w fun e w' => ∃ s c, e = .returned (.slice s D.length c) ∧ IntsAt w' (.slice s D.length c) D ∧ Below w.heap.size w w') := by
  by_cases hin : 0 ≤ n ∧ n < N
  · obtain ⟨a, rfl⟩ : ∃ a : Nat, n = (a : Int) := ⟨n.toNat, by omega⟩
    have ha : a < N := by omega
    obtain ⟨D, hD⟩ := isDist_ex N a L
    refine ⟨D, by rw [hD.1]; exact h6, fun a' e _ => by rw [← e]; exact hD, fun v w hL => dists_at N a v L D w hL hR h1 h6 ha hn hD, fun v w hL => ?_⟩
    refine (rdist_at N a v L D w hL hR h1 h6 ha hn hD).mono ?_
    rintro e w' ⟨u, rfl, hi, hb⟩
    obtain ⟨s, c, rfl⟩ := intsAt_slice hi
    exact ⟨s, c, rfl, hi, hb⟩
  · refine ⟨[], by simp, fun a e ha => absurd ⟨by omega, by omega⟩ hin, fun v w _ => ?_, fun v w _ => ?_⟩
    · refine (dist_out N n v w hin).mono ?_
      rintro e w' ⟨u, rfl, hi, hb⟩
      obtain ⟨s, c, rfl⟩ := intsAt_slice hi
      exact ⟨s, c, rfl, hi, hb⟩
    · refine (rdist_no N n v w hin).mono ?_
      rintro e w' ⟨u, rfl, hi, hb⟩
      obtain ⟨s, c, rfl⟩ := intsAt_slice hi
      exact ⟨s, c, rfl, hi, hb⟩
end Go.Proofs.Ytgoioibfecgopaa


namespace Go.Proofs.Ytgoioibfecgopaa
open Go.RowKit Go.PlainAid

theorem range_lk (L : Lks) : (List.range L.length).map (lk L) = L := by
  apply List.ext_getElem (by simp)
  intro i h1 h2
  simp [lk, List.getD, h2]
theorem sel_count (e : Nat) (L : Lks) (n : Int) : (sel e L n).length = L.countP (fun p => sideOf e p == n) := by
  unfold sel selL
  rw [List.length_map, ← List.countP_eq_length_filter]
  conv => rhs; rw [← range_lk L]
  rw [List.countP_map]
  rfl
def swp (p : Int × Int) : Int × Int := (p.2, p.1)
theorem swp_swp (p : Int × Int) : swp (swp p) = p := rfl
theorem swap_perm {N : Int} {L : Lks} (h : RG N L) : (L.map swp).Perm L := by
  rw [List.perm_iff_count]
  intro a
  have hn : (L.map swp).Nodup := by
    rw [List.Nodup, List.pairwise_map]
    exact h.nodup.imp fun {x y} hne e => hne (by have := congrArg swp e; exact this)
  have h1 := count_of_nodup h.nodup (p := a)
  have h2 := count_of_nodup hn (p := a)
  have hm : a ∈ L.map swp ↔ a ∈ L := by
    constructor
    · intro hm
      obtain ⟨b, hb, rfl⟩ := List.mem_map.1 hm
      exact h.sym b hb
    · intro hm
      exact List.mem_map.2 ⟨swp a, h.sym a hm, rfl⟩
  have p1 := List.count_pos_iff (a := a) (l := L)
  have p2 := List.count_pos_iff (a := a) (l := L.map swp)
  by_cases ha : a ∈ L
  · have := p1.2 ha
    have := p2.2 (hm.2 ha)
    omega
  · rw [List.count_eq_zero.2 ha, List.count_eq_zero.2 (fun q => ha (hm.1 q))]
theorem out_in {N : Int} {L : Lks} (h : RG N L) (n : Int) : (sel 0 L n).length = (sel 1 L n).length := by
  rw [sel_count, sel_count, ← (swap_perm h).countP_eq, List.countP_map]
  rfl
theorem countP_split (q : Int × Int → Bool) (r : Int × Int → Bool) (s : Int × Int → Bool) (hd : ∀ p, s p = (q p || r p)) (hx : ∀ p, ¬ (q p = true ∧ r p = true)) : ∀ L : Lks, L.countP s = L.countP q + L.countP r
  | [] => rfl
  | p :: t => by
    have ih := countP_split q r s hd hx t
    simp only [List.countP_cons, ih, hd p]
    have := hx p
    cases h1 : q p <;> cases h2 : r p <;> simp_all <;> omega
def osum (L : Lks) : Nat → Nat
  | 0 => 0
  | j + 1 => osum L j + (sel 0 L (j : Int)).length
theorem osum_eq (L : Lks) : ∀ j : Nat, osum L j = L.countP (fun p => decide (0 ≤ p.1 ∧ p.1 < (j : Int)))
  | 0 => by
    have : L.countP (fun p => decide (0 ≤ p.1 ∧ p.1 < ((0 : Nat) : Int))) = 0 := by
      rw [List.countP_eq_zero]
      intro p _
      simp <;> omega
    rw [this]; rfl
  | j + 1 => by
    rw [osum, osum_eq L j, sel_count]
    refine (countP_split _ _ _ (fun p => ?_) (fun p => ?_) L).symm
    · rw [Bool.eq_iff_iff]
      simp [sideOf]
      omega
    · simp [sideOf]
      omega
theorem osum_le (L : Lks) (j : Nat) : osum L j ≤ L.length := by rw [osum_eq]; exact List.countP_le_length
theorem osum_all {N : Nat} {L : Lks} (h : InR N L) : osum L N = L.length := by
  rw [osum_eq, List.countP_eq_length]
  intro p hp
  have := h p hp
  simp; omega

/-- The link the other way round. -/
theorem back_of {N : Int} {L : Lks} (h : RG N L) {k : Nat} (hk : k < L.length) :
    ∃ b : Nat, b < L.length ∧ b ≠ k ∧ lk L b = ((lk L k).2, (lk L k).1) ∧ backL L (k : Int) = (b : Int) ∧ backL L (b : Int) = (k : Int) ∧ findL L (lk L k) = (k : Int) := by
  obtain ⟨b, hb, he⟩ := mem_lk (h.sym _ (lk_mem hk))
  have e1 : backL L (k : Int) = (b : Int) := by
    unfold backL; rw [if_neg (by omega), Int.toNat_natCast, ← he]; exact find_self h.nodup hb
  have e2 : backL L (b : Int) = (k : Int) := by
    unfold backL; rw [if_neg (by omega), Int.toNat_natCast, he]; exact find_self h.nodup hk
  refine ⟨b, hb, fun e => ?_, he, e1, e2, find_self h.nodup hk⟩
  subst e
  have := h.irr _ (lk_mem hk)
  have h1 := congrArg Prod.fst he
  exact this h1
end Go.Proofs.Ytgoioibfecgopaa


namespace Go.Proofs.Ytgoioibfecgopaa
open Go.RowKit Go.PlainAid

theorem and255 (x : Int) : 0 ≤ bits .and .i64 x 255 ∧ bits .and .i64 x 255 ≤ 255 := by
  have h : (BitVec.ofInt 64 x &&& BitVec.ofInt 64 255).toNat ≤ 255 := by
    rw [BitVec.toNat_and]
    exact Nat.le_trans Nat.and_le_right (by decide)
  show 0 ≤ IntKind.i64.wrap ((BitVec.ofInt 64 x &&& BitVec.ofInt 64 255).toNat : Int) ∧ IntKind.i64.wrap ((BitVec.ofInt 64 x &&& BitVec.ofInt 64 255).toNat : Int) ≤ 255
  rw [IntWalk.i64_in _ (by omega)]
  omega
/-- A node out of a number. -/
theorem node_of (x : Int) (N : Nat) (h : 1 ≤ N) : ∃ (m : Int) (a : Nat), bits .and .i64 x 255 = m ∧ m.tmod (N : Int) = (a : Int) ∧ a < N := by
  obtain ⟨h0, h1⟩ := and255 x
  refine ⟨_, ((bits .and .i64 x 255).tmod (N : Int)).toNat, rfl, ?_, ?_⟩
  · rw [Int.toNat_of_nonneg (Int.tmod_nonneg _ h0)]
  · have := Int.tmod_lt_of_pos (bits .and .i64 x 255) (show (0 : Int) < N by omega)
    have := Int.tmod_nonneg (N : Int) h0
    omega

/-- As KAt, with three numbers in a box besides. -/
structure K3At (w : World) (N : Int) (v : Value) (L : Lks) (p q s : Int) (wr : World) : Prop extends KAt w N v L wr where
  n0 : wr.cell? ⟨w.heap.size + 1, 0, none⟩ = some (.int .i64 p)
  n1 : wr.cell? ⟨w.heap.size + 1, 1, none⟩ = some (.int .i64 q)
  n2 : wr.cell? ⟨w.heap.size + 1, 2, none⟩ = some (.int .i64 s)
theorem K3At.below {w wr w' : World} {N : Int} {v : Value} {L : Lks} {p q s : Int} (h : K3At w N v L p q s wr) (hb : Below wr.heap.size wr w') : K3At w N v L p q s w' := by
  have h1 := World.block_lt_of_cell? wr _ h.n0
  exact ⟨h.toKAt.below hb, (hb.cell h1).trans h.n0, (hb.cell (by exact h1)).trans h.n1, (hb.cell (by exact h1)).trans h.n2⟩
theorem law_box3 {w w1 : World} {N : Int} {v v' : Value} {M : Lks} {T T3 : TypeId} {p q s : Int}
    (hb : Below ((w.alloc (.cells #[.int .i64 N, v] T)).alloc (.cells #[.int .i64 p, .int .i64 q, .int .i64 s] T3)).heap.size ((w.alloc (.cells #[.int .i64 N, v] T)).alloc (.cells #[.int .i64 p, .int .i64 q, .int .i64 s] T3)) w1) (hM : LinksAt w v' M) :
    Box w1 w.heap.size (.int .i64 N) v ∧ ∃ we, we = (w1.setCell ⟨w.heap.size, 0, none⟩ (.int .i64 N)).setCell ⟨w.heap.size, 1, none⟩ v' ∧ K3At w N v' M p q s we := by
  have e0 := (Below.refl _ w).alloc (Nat.le_refl _) (.cells #[.int .i64 N, v] T)
  have e1 := (Below.refl _ (w.alloc (.cells #[.int .i64 N, v] T))).alloc (Nat.le_refl _) (.cells #[.int .i64 p, .int .i64 q, .int .i64 s] T3)
  have h1 := ((Box.start w N v T).below e1).below hb
  have hbw : Below w.heap.size w w1 := below_step (by simp; omega) (below_step (by simp) e0 e1) hb
  have h2 := h1.fill (.int .i64 N) v'
  have h3 : Below w.heap.size w ((w1.setCell ⟨w.heap.size, 0, none⟩ (.int .i64 N)).setCell ⟨w.heap.size, 1, none⟩ v') := (hbw.setCell (by simp) _).setCell (by simp) _
  have c : ∀ (j : Nat) (u : Value), #[Value.int .i64 p, .int .i64 q, .int .i64 s][j]? = some u → ((w1.setCell ⟨w.heap.size, 0, none⟩ (.int .i64 N)).setCell ⟨w.heap.size, 1, none⟩ v').cell? ⟨w.heap.size + 1, j, none⟩ = some u := by
    intro j u hu
    rw [World.cell?_setCell_other _ _ _ _ (by simp), World.cell?_setCell_other _ _ _ _ (by simp)]
    rw [hb.cell (by simp)]
    exact (World.cell?_alloc_at (w := w.alloc (.cells #[.int .i64 N, v] T)) #[Value.int .i64 p, .int .i64 q, .int .i64 s] T3 _ j (size_alloc _ _).symm).trans hu
  exact ⟨h1, _, rfl, ⟨⟨h3, h2.1, h2.2.1, hM.below h3⟩, c 0 _ rfl, c 1 _ rfl, c 2 _ rfl⟩⟩

theorem distN_at (N a : Nat) (v : Value) (L : Lks) (D : List Int) (w : World) (hL : LinksAt w v L) (hR : InR N L) (h1 : 1 ≤ N) (h6 : N ≤ 6) (ha : a < N) (hn : L.length ≤ 1000000) (hD : IsDist N L a D) :
    Calls Try.prog 71 #[gv N v, .int .i64 (a : Int)] w fun e w' => ∃ g o c, e = .returned (.slice (some ⟨g, o, none⟩) N c) ∧ IntsAt w' (.slice (some ⟨g, o, none⟩) N c) D ∧ Below w.heap.size w w' := by
  refine (dist_at N a v L D w hL hR h1 h6 ha hn hD).mono ?_
  rintro e w' ⟨u, rfl, hi, hb⟩
  rcases id hi with ⟨s, c, rfl, hd⟩ | ⟨g, o, n, c, rfl, hl, _⟩
  · have := hD.1; rw [hd] at this; simp at this; omega
  · have : n = N := by rw [← hl]; exact hD.1
    subst this
    exact ⟨g, o, c, rfl, hi, hb⟩
theorem IntsAt.cell {w : World} {g o n c : Nat} {D : List Int} (h : IntsAt w (.slice (some ⟨g, o, none⟩) n c) D) (hl : D.length = n) {i : Nat} (hi : i < n) : w.cell? ⟨g, o + i, none⟩ = some (.int .i64 (D.getD i (-1))) := by
  rcases h with ⟨s, c', e, hd⟩ | ⟨g', o', n', c', e, hl', _, _, _, hc⟩
  · rw [hd] at hl; simp at hl; omega
  · simp only [Value.slice.injEq, Option.some.injEq, Addr.mk.injEq] at e
    obtain ⟨⟨rfl, rfl, _⟩, rfl, rfl⟩ := e
    rw [hc i hi]
    simp [List.getD, show i < D.length by omega]

/-- No way over a third node is shorter. -/
theorem dist_tri {N : Nat} {L : Lks} (hG : RightG N L) {a b c : Nat} (ha : a < N) (hb : b < N) (hc : c < N) {D E : List Int} (hD : IsDist N L a D) (hE : IsDist N L b E) :
    D.getD c (-1) ≤ D.getD b (-1) + E.getD c (-1) := by
  obtain ⟨j, h1, h2⟩ := dist_num hD hb (hG.2.2.2.2.all hG.2.2.2.1 (by omega) (by omega))
  obtain ⟨k, h3, h4⟩ := dist_num hE hc (hG.2.2.2.2.all hG.2.2.2.1 (by omega) (by omega))
  obtain ⟨m, h5, h6⟩ := dist_num hD hc (hG.2.2.2.2.all hG.2.2.2.1 (by omega) (by omega))
  have hw := way_trans h2.1 h4.1
  have : m ≤ j + k := by
    rcases Nat.lt_or_ge (j + k) m with g | g
    · exact absurd hw (h6.2 _ g)
    · exact g
  omega
theorem dist_nn {N : Nat} {L : Lks} (hG : RightG N L) {a b : Nat} (ha : a < N) (hb : b < N) {D : List Int} (hD : IsDist N L a D) : 0 ≤ D.getD b (-1) ∧ D.getD b (-1) < N := by
  obtain ⟨j, h1, h2⟩ := dist_num hD hb (hG.2.2.2.2.all hG.2.2.2.1 (by omega) (by omega))
  have := far_lt hG.2.2.2.1.in ha h2
  omega
theorem dist_self {N : Nat} {L : Lks} {a : Nat} (ha : a < N) {D : List Int} (hD : IsDist N L a D) : D.getD a (-1) = 0 := by
  obtain ⟨j, h1, h2⟩ := dist_num hD ha ⟨0, rfl⟩
  have : j = 0 := h2.eq ⟨rfl, fun k hk => by omega⟩
  omega
theorem dist_one {N : Nat} {L : Lks} (hG : RightG N L) {a b : Nat} (ha : a < N) (hb : b < N) {D : List Int} (hD : IsDist N L a D) : D.getD b (-1) = 1 ↔ ((a : Int), (b : Int)) ∈ L := by
  obtain ⟨j, h1, h2⟩ := dist_num hD hb (hG.2.2.2.2.all hG.2.2.2.1 (by omega) (by omega))
  constructor
  · intro h
    have : j = 1 := by omega
    subst this
    obtain ⟨c, hc, hm⟩ := h2.1
    have e : (a : Int) = c := hc
    rw [← e] at hm; exact hm
  · intro hm
    have hf : Far L 1 a b := ⟨⟨a, rfl, hm⟩, fun k hk hw => by
      obtain rfl : k = 0 := by omega
      have e : (a : Int) = b := hw
      exact hG.2.2.2.1.irr _ hm e⟩
    have := h2.eq hf
    omega
end Go.Proofs.Ytgoioibfecgopaa
