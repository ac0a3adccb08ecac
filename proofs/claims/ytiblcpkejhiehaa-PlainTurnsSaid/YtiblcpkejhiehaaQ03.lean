/- Texts put together. -/
import Derived.Test.YtiblcpkejhiehaaQ00
import Derived.Test.YtiblcpkejhiehaaQ01
import Derived.Test.YtiblcpkejhiehaaQ02
import Derived.OpenShut
import Derived.ChangeSlices
import Derived.ProofKit
import Derived.Deep.Slices
import Derived.Deep.Fields
import Derived.Deep.RegionHeld3
namespace Go.Proofs.Ytiblcpkejhiehaa
open Go.RowKit Go.PlainAid
theorem rright_no (N : Int) (v : Value) (L : Lks) (w : World) (h : LinksAt w v L) (hN : ¬ (1 ≤ N ∧ N ≤ 6 ∧ L.length ≤ 30)) :
  Calls Try.prog 40 #[gv N v] w (RightRes w N L) := by
 obtain ⟨a, cap, rfl⟩ := h.at
 have hb : Below w.heap.size w (w.alloc (.cells #[.int .i64 N, .slice a L.length cap] 35)) := (Below.refl _ w).alloc (Nat.le_refl _) _
 have HB := Lib.hid hb
 have HNo := Lib.hid (show ¬ RightG N L from fun hr => hN ⟨hr.1, hr.2.1, hr.2.2.1⟩)
 unfold gv
 clear h hb
 by_cases h1 : N < 1
 ·clear hN
  go_enter Try.func40, Try.ntmps40
  go_wp2_with fail
  go_ret
  exact RightRes.no rfl HNo.out HB.out
 ·by_cases h6 : 6 < N
  ·clear hN
   go_enter Try.func40, Try.ntmps40
   go_wp2_with fail
   go_ret
   exact RightRes.no rfl HNo.out HB.out
  ·have h30 : 30 < (L.length : Int) := by omega
   clear hN
   go_enter Try.func40, Try.ntmps40
   go_wp2_with fail
   go_ret
   exact RightRes.no rfl HNo.out HB.out
theorem rfind_at (N x y : Int) (v : Value) (L : Lks) (q : Int) (w : World) (h : LinksAt w v L) (hn : L.length ≤ 1000000) (hq : q = findL L (x, y)) :
  Calls Try.prog 61 #[gv N v, .int .i64 x, .int .i64 y] w fun e w' => e = .returned (.int .i64 q) ∧ Below w.heap.size w w' := by
 subst hq; exact rfind_any N x y v L w h hn
/-- While links, then nodes, are gone through. -/
structure KAt (w : World) (N : Int) (v : Value) (L : Lks) (wr : World) : Prop where
 bel : Below w.heap.size w wr
 b0 : wr.cell? ⟨w.heap.size, 0, none⟩ = some (.int .i64 N)
 b1 : wr.cell? ⟨w.heap.size, 1, none⟩ = some v
 l : LinksAt wr v L
theorem KAt.size {w wr : World} {N : Int} {v : Value} {L : Lks} (h : KAt w N v L wr) : w.heap.size < wr.heap.size := World.block_lt_of_cell? wr _ h.b0
theorem KAt.below {w wr w' : World} {N : Int} {v : Value} {L : Lks} (h : KAt w N v L wr) (hb : Below wr.heap.size wr w') : KAt w N v L w' := by
 have hlt := h.size
 exact ⟨below_step (Nat.le_of_lt hlt) h.bel hb, (hb.cell (by exact hlt)).trans h.b0, (hb.cell (by exact hlt)).trans h.b1, h.l.below hb⟩
set_option maxHeartbeats 8000000 in
set_option maxRecDepth 100000 in
theorem rright_yes (N : Nat) (v : Value) (L : Lks) (w : World) (h : LinksAt w v L) (h1 : 1 ≤ N) (h6 : N ≤ 6) (h30 : L.length ≤ 30) :
  Calls Try.prog 40 #[gv N v] w (RightRes w N L) := by
 obtain ⟨a, cap, hv⟩ := h.at
 obtain ⟨wb, hwb, hbel, hL, z0, z1, hsz⟩ := boxed N v 35 L w h
 have HK := Lib.hid (show KAt w N v L wb from ⟨hbel, z0, z1, hL⟩)
 have i1 : ¬ (N : Int) < 1 := by omega
 have i6 : ¬ 6 < (N : Int) := by omega
 have i30 : ¬ 30 < (L.length : Int) := by omega
 have hn : L.length ≤ 1000000 := by omega
 unfold gv
 subst hv
 clear h hL hbel z0 z1
 go_enter Try.func40, Try.ntmps40
 go_wp2_with fail
 rw [← hwb]
 clear hwb i1 i6 i30
 go_loopw [3] (fun i wr => ∃ k : Nat, i = .int .i64 k ∧ k ≤ L.length ∧ KAt w N (.slice a L.length cap) L wr ∧ ∀ i, i < k → RefGood N L i) (fun i _ => L.length - (intOf i).toNat)
 case atStart => exact ⟨0, rfl, by omega, HK.out, fun i hi => by omega⟩
 case round =>
  obtain ⟨k, rfl, hk, hK, hG⟩ := hrel
  have HK1 := Lib.hid hK
  have HG := Lib.hid hG
  have y0 := hK.b0
  have y1 := hK.b1
  by_cases hkl : k < L.length
  ·have hkl' : (k : Int) < L.length := by omega
   rcases id hK.l with ⟨a0, cap0, e0, e1⟩ | ⟨lb, lo, llen, lcap, e0, f1, f2, f3, f4, f5⟩
   ·rw [e1] at hkl; simp at hkl
   ·simp only [Value.slice.injEq] at e0
    obtain ⟨rfl, e0b, rfl⟩ := e0
    obtain ⟨c1, c2⟩ := f5 k (by omega)
    obtain ⟨p, hp⟩ : ∃ p, p = lk L k := ⟨_, rfl⟩
    obtain ⟨x, y⟩ := p
    rw [← hp] at c1 c2
    have HGd := Lib.hid (show RefGood N L k ↔ (0 ≤ x ∧ x < N) ∧ (0 ≤ y ∧ y < N) ∧ x ≠ y ∧ findL L (x, y) = (k : Int) ∧ 0 ≤ findL L (y, x) by unfold RefGood; rw [← hp])
    obtain ⟨q, hq⟩ : ∃ q, q = findL L (x, y) := ⟨_, rfl⟩
    obtain ⟨s, hs⟩ : ∃ s, s = findL L (y, x) := ⟨_, rfl⟩
    have HQ := Lib.hid hq
    have HS := Lib.hid hs
    rw [← hq, ← hs] at HGd
    clear hK hG f5 hp hq hs f1 e0b
    obtain ⟨wo, hwo⟩ : ∃ wo, wo = wr := ⟨_, rfl⟩
    subst hwo
    by_cases t1 : x < 0
    ·have HNG := Lib.hid (show ¬ RightG N L from fun hr => absurd (HGd.out.1 (ref_iff.2 hr.2.2.2.1 k (by omega))) (fun e => absurd e.1.1 (by omega)))
     go_wp2_with fail
     go_quiet (fail)
     have KQ := Lib.hid (HK1.out.below (below_drewN (Below.refl _ wo) nq))
     go_wp2_with fail
     go_ret
     exact RightRes.no rfl HNG.out KQ.out.bel
    ·by_cases t2 : (N : Int) ≤ x
     ·have HNG := Lib.hid (show ¬ RightG N L from fun hr => absurd (HGd.out.1 (ref_iff.2 hr.2.2.2.1 k (by omega))) (fun e => absurd e.1.2 (by omega)))
      go_wp2_with fail
      go_quiet (fail)
      have KQ := Lib.hid (HK1.out.below (below_drewN (Below.refl _ wo) nq))
      go_wp2_with fail
      go_ret
      exact RightRes.no rfl HNG.out KQ.out.bel
     ·by_cases t3 : y < 0
      ·have HNG := Lib.hid (show ¬ RightG N L from fun hr => absurd (HGd.out.1 (ref_iff.2 hr.2.2.2.1 k (by omega))) (fun e => absurd e.2.1.1 (by omega)))
       go_wp2_with fail
       go_quiet (fail)
       have KQ := Lib.hid (HK1.out.below (below_drewN (Below.refl _ wo) nq))
       go_wp2_with fail
       go_ret
       exact RightRes.no rfl HNG.out KQ.out.bel
      ·by_cases t4 : (N : Int) ≤ y
       ·have HNG := Lib.hid (show ¬ RightG N L from fun hr => absurd (HGd.out.1 (ref_iff.2 hr.2.2.2.1 k (by omega))) (fun e => absurd e.2.1.2 (by omega)))
        go_wp2_with fail
        go_quiet (fail)
        have KQ := Lib.hid (HK1.out.below (below_drewN (Below.refl _ wo) nq))
        go_wp2_with fail
        go_ret
        exact RightRes.no rfl HNG.out KQ.out.bel
       ·by_cases t5 : x = y
        ·have HNG := Lib.hid (show ¬ RightG N L from fun hr => absurd (HGd.out.1 (ref_iff.2 hr.2.2.2.1 k (by omega))) (fun e => absurd t5 e.2.2.1))
         have t5' : (x == y) = true := by rw [beq_iff_eq]; exact t5
         clear t5
         go_wp2_with fail
         go_quiet (fail)
         have KQ := Lib.hid (HK1.out.below (below_drewN (Below.refl _ wo) nq))
         go_wp2_with fail
         go_ret
         exact RightRes.no rfl HNG.out KQ.out.bel
        ·have t5' : (x == y) = false := by rw [beq_eq_false_iff_ne]; exact t5
         by_cases t6 : q = (k : Int)
         ·by_cases t7 : s < 0
          ·have HNG := Lib.hid (show ¬ RightG N L from fun hr => absurd (HGd.out.1 (ref_iff.2 hr.2.2.2.1 k (by omega))) (fun e => absurd e.2.2.2.2 (by omega)))
           have t6' : (q != (k : Int)) = false := by rw [bne_eq_false_iff_eq]; exact t6
           clear t5 t6
           go_wp2_with fail
           go_quiet (fail)
           have KQ := Lib.hid (HK1.out.below (below_drewN (Below.refl _ wo) nq))
           go_wp2_with fail
           refine (rfind_at N x y _ L q _ KQ.out.l hn HQ.out).mono ?_
           rintro e w1 ⟨rfl, hb1⟩
           have K1 := Lib.hid (KQ.out.below hb1)
           have v0 := K1.out.b0
           have v1 := K1.out.b1
           clear hb1
           go_wp2_with fail
           refine (rfind_at N y x _ L s _ K1.out.l hn HS.out).mono ?_
           rintro e w2 ⟨rfl, hb2⟩
           have K2 := Lib.hid (K1.out.below hb2)
           have u0 := K2.out.b0
           have u1 := K2.out.b1
           clear hb2
           go_wp2_with fail
           go_ret
           exact RightRes.no rfl HNG.out K2.out.bel
          ·have HOK := Lib.hid (HGd.out.2 ⟨⟨by omega, by omega⟩, ⟨by omega, by omega⟩, t5, t6, by omega⟩)
           have t6' : (q != (k : Int)) = false := by rw [bne_eq_false_iff_eq]; exact t6
           clear t5 t6
           go_wp2_with fail
           go_quiet (fail)
           have KQ := Lib.hid (HK1.out.below (below_drewN (Below.refl _ wo) nq))
           go_wp2_with fail
           refine (rfind_at N x y _ L q _ KQ.out.l hn HQ.out).mono ?_
           rintro e w1 ⟨rfl, hb1⟩
           have K1 := Lib.hid (KQ.out.below hb1)
           have v0 := K1.out.b0
           have v1 := K1.out.b1
           clear hb1
           go_wp2_with fail
           refine (rfind_at N y x _ L s _ K1.out.l hn HS.out).mono ?_
           rintro e w2 ⟨rfl, hb2⟩
           have K2 := Lib.hid (K1.out.below hb2)
           have u0 := K2.out.b0
           have u1 := K2.out.b1
           clear hb2
           go_wp2_with fail
           go_roundw
           case rel =>
            refine ⟨k + 1, by go_num, by omega, K2.out, fun i hi => ?_⟩
            by_cases hik : i < k
            ·exact HG.out i hik
            ·obtain rfl : i = k := by omega
             exact HOK.out
           case measure => simp [intOf]; omega
         ·have HNG := Lib.hid (show ¬ RightG N L from fun hr => absurd (HGd.out.1 (ref_iff.2 hr.2.2.2.1 k (by omega))) (fun e => absurd e.2.2.2.1 t6))
          have t6' : (q != (k : Int)) = true := by rw [bne_iff_ne]; exact t6
          clear t5 t6
          go_wp2_with fail
          go_quiet (fail)
          have KQ := Lib.hid (HK1.out.below (below_drewN (Below.refl _ wo) nq))
          go_wp2_with fail
          refine (rfind_at N x y _ L q _ KQ.out.l hn HQ.out).mono ?_
          rintro e w1 ⟨rfl, hb1⟩
          have K1 := Lib.hid (KQ.out.below hb1)
          have v0 := K1.out.b0
          have v1 := K1.out.b1
          clear hb1
          go_wp2_with fail
          go_ret
          exact RightRes.no rfl HNG.out K1.out.bel
  ·have hkl' : ¬ (k : Int) < L.length := by omega
   have hRG : RG N L := ref_iff.1 (fun i hi => hG i (by omega))
   clear hK hG
   go_wp2_with fail
   obtain ⟨wp, hwp⟩ : ∃ wp, wp = wr := ⟨_, rfl⟩
   rw [← hwp] at HK1 ⊢
   go_loopw [6] (fun i wr => ∃ m : Nat, i = .int .i64 m ∧ m ≤ N ∧ KAt w N (.slice a L.length cap) L wr ∧ ∀ b : Nat, b < m → ∀ y : Nat, y < N → ∃ k, Way L k b y) (fun i _ => N - (intOf i).toNat)
   case atStart => exact ⟨0, rfl, by omega, HK1.out, fun b hb => by omega⟩
   case round =>
    obtain ⟨m, rfl, hm, hK2, hC⟩ := hrel
    have HK2 := Lib.hid hK2
    have HC := Lib.hid hC
    have s0 := hK2.b0
    have s1 := hK2.b1
    clear hK2 hC
    by_cases hmt : m < N
    ·have hmt' : (m : Int) < N := by omega
     go_wp2_with fail
     refine (rdist_some N m _ L _ HK2.out.l hRG.in h1 h6 hmt hn).mono ?_
     rintro e w3 ⟨u, D, rfl, hD, hI, hb3⟩
     have HD := Lib.hid hD
     have HI := Lib.hid hI
     have HK3 := Lib.hid (HK2.out.below hb3)
     rcases hI with ⟨a0, cap0, e0, e1⟩ | ⟨gb, go, glen, gcap, rfl, g1, g2, g3, g4, g5⟩
     ·have := hD.1; rw [e1] at this; simp at this; omega
     ·have hgl : glen = N := by rw [← g1]; exact hD.1
      subst hgl
      have G5 := Lib.hid g5
      clear hD hb3 g1 g5
      go_wp2_with fail
      go_loopw [8] (fun i wr => ∃ j : Nat, i = .int .i64 j ∧ j ≤ glen ∧ wr = w3 ∧ ∀ i, i < j → ¬ D.getD i (-1) < 0) (fun i _ => glen - (intOf i).toNat)
      case atStart => exact ⟨0, rfl, by omega, rfl, fun i hi => by omega⟩
      case round =>
       obtain ⟨j, rfl, hj, rfl, hN⟩ := hrel
       have HN := Lib.hid hN
       by_cases hjt : j < glen
       ·have hjt' : (j : Int) < glen := by omega
        have c := G5.out j hjt
        obtain ⟨d, hd⟩ : ∃ d, d = D.getD j 0 := ⟨_, rfl⟩
        rw [← hd] at c
        have hdd : D.getD j (-1) = d := by rw [hd]; simp [List.getD, show j < D.length by rw [HD.out.1]; exact hjt]
        have HDD := Lib.hid hdd
        clear hN hd hdd
        by_cases hneg : d < 0
        ·have HNG := Lib.hid (show ¬ RightG glen L from fun hr => by
          obtain ⟨kk, h3, _⟩ := dist_num HD.out hjt (hr.2.2.2.2.all hRG (by omega) (by omega))
          rw [HDD.out] at h3
          omega)
         go_wp2_with fail
         go_ret
         exact RightRes.no rfl HNG.out HK3.out.bel
        ·go_wp2_with fail
         go_roundw
         case rel =>
          refine ⟨j + 1, by go_num, by omega, by first | trivial | rfl, fun i hi => ?_⟩
          by_cases hij : i < j
          ·exact HN.out i hij
          ·obtain rfl : i = j := by omega
           rw [HDD.out]; exact hneg
         case measure => simp [intOf]; omega
       ·have hjt' : ¬ (j : Int) < glen := by omega
        obtain rfl : j = glen := by omega
        have HC5 := Lib.hid (show ∀ b : Nat, b < m + 1 → ∀ y : Nat, y < j → ∃ k, Way L k b y from fun b hb y hy => by
         by_cases hbm : b < m
         ·exact HC.out b hbm y hy
         ·obtain rfl : b = m := by omega
          rcases HD.out.2 y hy with ⟨kk, _, h4⟩ | ⟨h3, _⟩
          ·exact ⟨kk, h4.1⟩
          ·exact absurd (show D.getD y (-1) < 0 by rw [h3]; omega) (HN.out y hy))
        clear hN
        go_wp2_with fail
        go_roundw
        case rel => exact ⟨m + 1, by go_num, by omega, HK3.out, HC5.out⟩
        case measure => simp [intOf]; omega
    ·have hmt' : ¬ (m : Int) < N := by omega
     have HY := Lib.hid (show RightG N L from ⟨by omega, by omega, h30, hRG, fun y hy => HC.out 0 (by omega) y (by omega)⟩)
     go_wp2_with fail
     go_ret
     exact RightRes.mk true rfl ⟨fun _ => HY.out, fun _ => rfl⟩ HK2.out.bel
theorem rright_any (N : Int) (v : Value) (L : Lks) (w : World) (h : LinksAt w v L) :
  Calls Try.prog 40 #[gv N v] w (RightRes w N L) := by
 by_cases hN : 1 ≤ N ∧ N ≤ 6 ∧ L.length ≤ 30
 ·obtain ⟨n, rfl⟩ : ∃ n : Nat, N = (n : Int) := ⟨N.toNat, by omega⟩
  exact rright_yes n v L w h (by omega) (by omega) hN.2.2
 ·exact rright_no N v L w h hN
end Go.Proofs.Ytiblcpkejhiehaa
namespace Go.Proofs.Ytiblcpkejhiehaa
open Go.RowKit Go.PlainAid
theorem ints_eq {xs ys : List Int} (hl : xs.length = ys.length) (h : ∀ j, j < xs.length → xs.getD j 0 = ys.getD j 0) : xs = ys := by
 apply List.ext_getElem hl
 intro i h1 h2
 have := h i h1
 simpa [List.getD, h1, h2] using this
set_option maxHeartbeats 8000000 in
theorem rints_any (v u : Value) (xs ys : List Int) (w : World) (hv : IntsAt w v xs) (hu : IntsAt w u ys) (h1 : xs.length ≤ 1000000) (h2 : ys.length ≤ 1000000) :
  Calls Try.prog 38 #[v, u] w fun e w' => e = .returned (.bool (decide (xs = ys))) ∧ ∃ n, w.drewN n = w' := by
 rcases hv with ⟨a, cap, rfl, rfl⟩ | ⟨b, off, len, cap, rfl, hl, hp, hb, hlc, hc⟩
 ·rcases hu with ⟨a', cap', rfl, rfl⟩ | ⟨b', off', len', cap', rfl, hl', hp', hb', hlc', hc'⟩
  ·go_enter Try.func38, Try.ntmps38
   go_wp2_with fail
   refine wp_loop_rounds 1 ?_
   rw [rounds_succ]
   go_wp2_with fail
   go_ret
   exact ⟨rfl, 0, rfl⟩
  ·have hd : decide (([] : List Int) = ys) = false := decide_eq_false (fun h => by rw [← h] at hl'; simp at hl'; omega)
   have Hd := Lib.hid hd
   have hn : ((0 : Int) != (len' : Int)) = true := by rw [bne_iff_ne]; omega
   clear hc' hl' hd
   go_enter Try.func38, Try.ntmps38
   go_wp2_with fail
   go_ret
   exact ⟨by rw [Hd.out]; rfl, 0, rfl⟩
 ·rcases hu with ⟨a', cap', rfl, rfl⟩ | ⟨b', off', len', cap', rfl, hl', hp', hb', hlc', hc'⟩
  ·have hd : decide (xs = ([] : List Int)) = false := decide_eq_false (fun h => by rw [h] at hl; simp at hl; omega)
   have Hd := Lib.hid hd
   have hn : ((len : Int) != 0) = true := by rw [bne_iff_ne]; omega
   clear hc hl hd
   go_enter Try.func38, Try.ntmps38
   go_wp2_with fail
   go_ret
   exact ⟨by rw [Hd.out]; rfl, 0, rfl⟩
  ·by_cases hll : len = len'
   ·subst hll
    have Hc := Lib.hid hc
    have Hc' := Lib.hid hc'
    have Hl := Lib.hid hl
    have Hl' := Lib.hid hl'
    have hlb : len ≤ 1000000 := by omega
    clear hc hc' hl hl' h1 h2
    go_enter Try.func38, Try.ntmps38
    go_wp2_with fail
    go_loopw [5] (fun i wr => ∃ k : Nat, i = .int .i64 k ∧ k ≤ len ∧ (∀ j, j < k → xs.getD j 0 = ys.getD j 0) ∧ ∃ n, wr = w.drewN n) (fun i _ => len - (intOf i).toNat)
    case atStart => exact ⟨0, rfl, by omega, fun j hj => by omega, 0, rfl⟩
    case round =>
     obtain ⟨k, rfl, hk, hsame, n, rfl⟩ := hrel
     have Hs := Lib.hid hsame
     clear hsame
     by_cases hlt : k < len
     ·have c1 := Hc.out k hlt
      have c2 := Hc'.out k hlt
      by_cases he : xs.getD k 0 = ys.getD k 0
      ·have He := Lib.hid he
       obtain ⟨x, hx⟩ : ∃ x, x = ys.getD k 0 := ⟨_, rfl⟩
       rw [he, ← hx] at c1
       rw [← hx] at c2
       clear he hx
       go_wp2_with fail
       have hlt' : (k : Int) < len := by omega
       go_quiet (fail)
       go_wp2_with fail
       go_roundw
       case rel =>
        refine ⟨k + 1, by go_num, by omega, fun j hj => ?_, _, rfl⟩
        by_cases hjk : j < k
        ·exact Hs.out j hjk
        ·obtain rfl : j = k := by omega
         exact He.out
       case measure => simp [intOf]; omega
      ·obtain ⟨x, hx⟩ : ∃ x, x = xs.getD k 0 := ⟨_, rfl⟩
       obtain ⟨y, hy⟩ : ∃ y, y = ys.getD k 0 := ⟨_, rfl⟩
       have hd : decide (xs = ys) = false := decide_eq_false (fun h => he (by rw [h]))
       have Hd := Lib.hid hd
       rw [← hx, ← hy] at he
       rw [← hx] at c1
       rw [← hy] at c2
       have hn : (x != y) = true := by rw [bne_iff_ne]; exact he
       clear hx hy hd he
       go_wp2_with fail
       have hlt' : (k : Int) < len := by omega
       go_quiet (fail)
       go_wp2_with fail
       go_ret
       exact ⟨by rw [Hd.out]; rfl, _, (World.drewN_drewN _ _ _).symm⟩
     ·go_wp2_with fail
      go_ret
      have : xs = ys := ints_eq (by rw [Hl.out, Hl'.out]) (fun j hj => Hs.out j (by rw [Hl.out] at hj; omega))
      exact ⟨by rw [this]; simp, n, rfl⟩
   ·have hd : decide (xs = ys) = false := decide_eq_false (fun h => by rw [h] at hl; omega)
    have Hd := Lib.hid hd
    have hn : ((len : Int) != (len' : Int)) = true := by rw [bne_iff_ne]; omega
    clear hc hl hd hc' hl' hll
    go_enter Try.func38, Try.ntmps38
    go_wp2_with fail
    go_ret
    exact ⟨by rw [Hd.out]; rfl, 0, rfl⟩
theorem wfSmall {L : Lks} (h : ∀ p ∈ L, 0 ≤ p.1 ∧ p.1 < 1000 ∧ 0 ≤ p.2 ∧ p.2 < 1000) : ∀ p ∈ L, wfp p := fun p hp => by
 have := h p hp
 exact ⟨WalkArith.wf_i64 (by omega), WalkArith.wf_i64 (by omega)⟩
theorem right_true (N : Int) (v : Value) (L : Lks) (w : World) (h : LinksAt w v L) (hW : ∀ p ∈ L, wfp p) (hG : RightG N L) :
  Calls Try.prog 46 #[gv N v] w fun e w' => e = .returned (.bool true) ∧ Below w.heap.size w w' := by
 refine (right_any N v L w h hW).mono ?_
 rintro e w' ⟨r, rfl, hr, hb⟩
 rw [hr.2 hG]; exact ⟨rfl, hb⟩
theorem right_false (N : Int) (v : Value) (L : Lks) (w : World) (h : LinksAt w v L) (hW : ∀ p ∈ L, wfp p) (hG : ¬ RightG N L) :
  Calls Try.prog 46 #[gv N v] w fun e w' => e = .returned (.bool false) ∧ Below w.heap.size w w' := by
 refine (right_any N v L w h hW).mono ?_
 rintro e w' ⟨r, rfl, hr, hb⟩
 have : r = false := by
  cases r with
  | false => rfl
  | true => exact absurd (hr.1 rfl) hG
 rw [this]; exact ⟨rfl, hb⟩
theorem rright_true (N : Int) (v : Value) (L : Lks) (w : World) (h : LinksAt w v L) (hG : RightG N L) :
  Calls Try.prog 40 #[gv N v] w fun e w' => e = .returned (.bool true) ∧ Below w.heap.size w w' := by
 refine (rright_any N v L w h).mono ?_
 rintro e w' ⟨r, rfl, hr, hb⟩
 rw [hr.2 hG]; exact ⟨rfl, hb⟩
theorem rright_false (N : Int) (v : Value) (L : Lks) (w : World) (h : LinksAt w v L) (hG : ¬ RightG N L) :
  Calls Try.prog 40 #[gv N v] w fun e w' => e = .returned (.bool false) ∧ Below w.heap.size w w' := by
 refine (rright_any N v L w h).mono ?_
 rintro e w' ⟨r, rfl, hr, hb⟩
 have : r = false := by
  cases r with
  | false => rfl
  | true => exact absurd (hr.1 rfl) hG
 rw [this]; exact ⟨rfl, hb⟩
end Go.Proofs.Ytiblcpkejhiehaa
namespace Go.Proofs.Ytiblcpkejhiehaa
open Go.RowKit Go.PlainAid
def F3 : Lks := [(0, 1), (0, 2), (1, 0), (1, 2), (2, 0), (2, 1)]
def Ln : Lks := [(0, 1), (1, 0), (1, 2), (2, 1)]
def On : Lks := [(0, 1)]
def F2 : Lks := [(0, 1), (1, 0)]
theorem full2 : fullL 2 2 = F2 := by decide
theorem rg_of {N : Int} {L : Lks} (h1 : L.Nodup) (h2 : ∀ p ∈ L, 0 ≤ p.1 ∧ p.1 < N ∧ 0 ≤ p.2 ∧ p.2 < N) (h3 : ∀ p ∈ L, p.1 ≠ p.2) (h4 : ∀ p ∈ L, (p.2, p.1) ∈ L) : RG N L := ⟨h1, h2, h3, h4⟩
/-- The three graphs that are asked. -/
structure FAt (w : World) (h : Nat) (v1 v2 v3 : Value) (wr : World) : Prop where
 bel : Below w.heap.size w wr
 ge : w.heap.size ≤ wr.heap.size
 a0 : wr.cell? ⟨h, 0, none⟩ = some (.int .i64 3)
 a1 : wr.cell? ⟨h, 1, none⟩ = some v1
 b0 : wr.cell? ⟨h + 1 + 1, 0, none⟩ = some (.int .i64 3)
 b1 : wr.cell? ⟨h + 1 + 1, 1, none⟩ = some v2
 c0 : wr.cell? ⟨h + 1 + 1 + 1 + 1, 0, none⟩ = some (.int .i64 2)
 c1 : wr.cell? ⟨h + 1 + 1 + 1 + 1, 1, none⟩ = some v3
 l1 : LinksAt wr v1 F3
 l2 : LinksAt wr v2 Ln
 l3 : LinksAt wr v3 On
theorem FAt.below {w wr w' : World} {h : Nat} {v1 v2 v3 : Value} (f : FAt w h v1 v2 v3 wr) (hb : Below wr.heap.size wr w') : FAt w h v1 v2 v3 w' := by
 have h1 := World.block_lt_of_cell? wr _ f.a0
 have h2 := World.block_lt_of_cell? wr _ f.b0
 have h3 := World.block_lt_of_cell? wr _ f.c0
 exact ⟨below_step f.ge f.bel hb, Nat.le_trans f.ge hb.size, (hb.cell h1).trans f.a0, (hb.cell (by exact h1)).trans f.a1, (hb.cell h2).trans f.b0, (hb.cell (by exact h2)).trans f.b1,
  (hb.cell h3).trans f.c0, (hb.cell (by exact h3)).trans f.c1, f.l1.below hb, f.l2.below hb, f.l3.below hb⟩
theorem full_at (n : Int) (N : Nat) (w : World) (hN : (N : Int) = max 1 (min n 6)) :
  Calls Try.prog 51 #[.int .i64 n] w fun e w' => ∃ a c, e = .returned (gv N (.slice a (fullL N N).length c)) ∧ LinksAt w' (.slice a (fullL N N).length c) (fullL N N) ∧ Below w.heap.size w w' := by
 refine (full_any n (if n < 1 then 1 else n) N w rfl (by split <;> split <;> omega) (by omega)).mono ?_
 rintro e w' ⟨v, rfl, hL, hb⟩
 obtain ⟨a, c, rfl⟩ := hL.at
 exact ⟨a, c, rfl, hL, hb⟩
theorem find_at (N x y q : Int) (v : Value) (L : Lks) (w : World) (h : LinksAt w v L) (hn : L.length ≤ 1000000) (hq : findL L (x, y) = q) :
  Calls Try.prog 68 #[gv N v, .int .i64 x, .int .i64 y] w fun e w' => e = .returned (.int .i64 q) ∧ Below w.heap.size w w' := by
 subst hq; exact find_any N x y v L w h hn
theorem run_field1 (w : World) (x y : Value) : (Instr.field 24 (.agg #[x, y]) 1).run Try.prog w = .ok y w := by
 have hu := Try.underlying24
 simp [Instr.field, run_underlying hu, asAgg, part, Result.andThen]
attribute [go_sem] run_field1
end Go.Proofs.Ytiblcpkejhiehaa
namespace Go.Proofs.Ytiblcpkejhiehaa
open Go.RowKit Go.PlainAid Go.ChangeShapes Go.WideShapes Go.Lib Go.Deep
set_option maxRecDepth 100000 in
theorem ints_of_array {H : Type} {enc : TypeId × Value → H} {W : World} {t : TypeId} {k n : Nat} {cs : List Value} {y : DataW H × List MemPlace} (hu : Try.prog.underlying t = some (.array k 3)) (hC : Try.prog.cellsOf t = k)
  (h : DataW.trod enc Try.prog W 0 (fun _ => true) true n t cs = some y) : cs.length = k ∧ ∀ i, i < k → ∃ a : Int, cs[i]? = some (.int .i64 a) ∧ (Lit.int .i64 a).wf = true := by
 obtain ⟨xs, m, _, _, hl, hxl, hi⟩ := DataW.trod_array hu h
 rw [hC] at hl
 refine ⟨hl, fun i hik => ?_⟩
 have h1 : Try.prog.cellsOf 3 = 1 := by kernel_rfl
 have := hi i hik
 rw [h1, Nat.mul_one] at this
 have hx : i < xs.length := by omega
 rw [List.getElem?_eq_getElem hx] at this
 obtain ⟨a, ha, _, wa⟩ := DataW.trod_int Try.underlying3 this
 refine ⟨a, ?_, wa⟩
 have hil : i < cs.length := by omega
 have e : List.take 1 (cs.drop i) = [cs[i]] := by rw [List.drop_eq_getElem_cons hil]; rfl
 rw [e] at ha
 rw [List.getElem?_eq_getElem hil]
 simpa using ha
set_option maxRecDepth 100000 in
theorem links_of_trod {H : Type} {enc : TypeId × Value → H} {W : World} {v : Value} {n : Nat} {y : DataW H × List MemPlace} (hd : DataW.trod enc Try.prog W 0 (fun _ => true) true n 22 [v] = some y) :
  ∃ L, LinksAt W v L ∧ ∀ p ∈ L, wfp p := by
 rcases open_slice Try.underlying22 hd with ⟨h, _⟩ | ⟨a, len, cap, m, n', D, Pl, h, _, hlc, _, hm, _, hi⟩
 ·simp at h
  subst h
  exact ⟨[], .inl ⟨none, 0, rfl, rfl⟩, by simp⟩
 ·simp at h hm
  subst h hm
  have h2 : Try.prog.cellsOf 52 = 2 := by kernel_rfl
  rw [h2] at hi
  by_cases h0 : len = 0
  ·subst h0; exact ⟨[], .inl ⟨_, m, rfl, rfl⟩, by simp⟩
  ·have hex : ∀ i : Nat, ∃ p : Int × Int, i < m → W.cell? (a.add (i * 2)) = some (.int .i64 p.1) ∧ W.cell? (a.add (i * 2 + 1)) = some (.int .i64 p.2) ∧ wfp p := by
    intro i
    by_cases him : i < m
    ·obtain ⟨cs', hc, ht⟩ := hi i him
     obtain ⟨_, hcl, hat⟩ := World.cells?_some hc
     obtain ⟨_, hv⟩ := ints_of_array Try.underlying52 h2 ht
     obtain ⟨x, hx, wx⟩ := hv 0 (by omega)
     obtain ⟨z, hz, wz⟩ := hv 1 (by omega)
     refine ⟨(x, z), fun _ => ⟨?_, ?_, wx, wz⟩⟩
     ·have := hat 0 (by omega)
      rw [hx, Go.Deep.add_add, Nat.add_zero] at this
      exact this
     ·have := hat 1 (by omega)
      rw [hz, Go.Deep.add_add] at this
      exact this
    ·exact ⟨(0, 0), fun h => absurd h him⟩
   obtain ⟨f, hf⟩ := Classical.axiomOfChoice hex
   obtain ⟨b, off, spot⟩ := a
   have hspot : spot = none := by simpa [Addr.add] using World.cell?_spot (hf 0 (by omega)).1
   subst hspot
   have hget : ∀ i, i < len → lk ((List.range len).map f) i = f i := fun i hil => by simp [lk, List.getD, hil]
   refine ⟨(List.range len).map f, .inr ⟨b, off, len, m, rfl, by simp, by omega, ?_, hlc, fun i hil => ?_⟩, ?_⟩
   ·have := (hf 0 (by omega)).1
    have := World.block_lt_of_cell? W _ this
    simpa [Addr.add] using this
   ·obtain ⟨q1, q2, _⟩ := hf i (by omega)
    rw [hget i hil]
    rw [Go.WideShapes.add_plain] at q1 q2
    exact ⟨q1, by rw [Nat.add_assoc]; exact q2⟩
   ·intro p hp
    obtain ⟨i, hil, rfl⟩ := List.mem_map.1 hp
    exact (hf i (by simp at hil; omega)).2.2
end Go.Proofs.Ytiblcpkejhiehaa
namespace Go.Proofs.Ytiblcpkejhiehaa
open Go.RowKit Go.PlainAid
theorem take_le (L : Lks) : (L.take 40).length ≤ 40 := by rw [List.length_take]; omega
theorem cut_at (a : Option Addr) (cap : Nat) (L : Lks) (N : Int) (w : World) (h : LinksAt w (.slice a L.length cap) L) :
  Calls Try.prog 25 #[gv N (.slice a L.length cap)] w fun e w' => e = .returned (gv N (.slice a (L.take 40).length cap)) ∧ Below w.heap.size w w' := by
 rcases h with ⟨a', cap', e0, rfl⟩ | ⟨b, off, len, cap', e0, hl, hp, hb, hlc, hc⟩
 ·simp only [List.length_nil]
  unfold gv
  cases a with
  | none =>
   go_enter Try.func25, Try.ntmps25
   go_wp2_with fail
   refine bodyPost_ret (v := .agg #[.int .i64 N, .slice none 0 cap]) (by simp [results, Try.results25, go_sem]) rfl ⟨rfl, ?_⟩
   go_grown
  | some a =>
   go_enter Try.func25, Try.ntmps25
   go_wp2_with fail
   refine bodyPost_ret (v := .agg #[.int .i64 N, .slice (some a) 0 cap]) (by simp [results, Try.results25, go_sem]) rfl ⟨rfl, ?_⟩
   go_grown
 ·simp only [Value.slice.injEq] at e0
  obtain ⟨rfl, _, rfl⟩ := e0
  exact cut_some b off L.length cap (L.take 40).length N w (by omega) (by rw [List.length_take]; split <;> omega) (by rw [List.length_take]; omega)
theorem linksAt_cut {a : Option Addr} {cap : Nat} {L : Lks} {w : World} (h : LinksAt w (.slice a L.length cap) L) : LinksAt w (.slice a (L.take 40).length cap) (L.take 40) := by
 rcases h with ⟨a', cap', e0, rfl⟩ | ⟨b, off, len, cap', e0, hl, hp, hb, hlc, hc⟩
 ·exact .inl ⟨a, cap, rfl, by simp⟩
 ·simp only [Value.slice.injEq] at e0
  obtain ⟨rfl, _, rfl⟩ := e0
  have := LinksAt.take hl hb hlc hc (L.take 40).length (by rw [List.length_take]; omega)
  rw [show L.take (L.take 40).length = L.take 40 by rw [List.length_take, List.take_eq_take_iff]; omega] at this
  exact this
theorem Box.start (w : World) (N : Int) (v : Value) (T : TypeId) : Box (w.alloc (.cells #[.int .i64 N, v] T)) w.heap.size (.int .i64 N) v :=
 ⟨World.cell?_alloc_at _ _ _ _ rfl, World.cell?_alloc_at _ _ _ _ rfl, World.frozen?_alloc_at _ _ _ _ rfl, World.frozen?_alloc_at _ _ _ _ rfl⟩
theorem wf_take {L : Lks} (h : ∀ p ∈ L, wfp p) : ∀ p ∈ L.take 40, wfp p := fun p hp => h p (List.mem_of_mem_take hp)
end Go.Proofs.Ytiblcpkejhiehaa
namespace Go.Proofs.Ytiblcpkejhiehaa
open Go.RowKit Go.PlainAid
end Go.Proofs.Ytiblcpkejhiehaa
namespace Go.Proofs.Ytiblcpkejhiehaa
open Go.RowKit Go.PlainAid
/-- As KAt, with three numbers in a box besides. -/
structure K3At (w : World) (N : Int) (v : Value) (L : Lks) (p q s : Int) (wr : World) : Prop extends KAt w N v L wr where
 n0 : wr.cell? ⟨w.heap.size + 1, 0, none⟩ = some (.int .i64 p)
 n1 : wr.cell? ⟨w.heap.size + 1, 1, none⟩ = some (.int .i64 q)
 n2 : wr.cell? ⟨w.heap.size + 1, 2, none⟩ = some (.int .i64 s)
theorem K3At.below {w wr w' : World} {N : Int} {v : Value} {L : Lks} {p q s : Int} (h : K3At w N v L p q s wr) (hb : Below wr.heap.size wr w') : K3At w N v L p q s w' := by
 have h1 := World.block_lt_of_cell? wr _ h.n0
 exact ⟨h.toKAt.below hb, (hb.cell h1).trans h.n0, (hb.cell (by exact h1)).trans h.n1, (hb.cell (by exact h1)).trans h.n2⟩
theorem IntsAt.cell {w : World} {g o n c : Nat} {D : List Int} (h : IntsAt w (.slice (some ⟨g, o, none⟩) n c) D) (hl : D.length = n) {i : Nat} (hi : i < n) : w.cell? ⟨g, o + i, none⟩ = some (.int .i64 (D.getD i (-1))) := by
 rcases h with ⟨s, c', e, hd⟩ | ⟨g', o', n', c', e, hl', _, _, _, hc⟩
 ·rw [hd] at hl; simp at hl; omega
 ·simp only [Value.slice.injEq, Option.some.injEq, Addr.mk.injEq] at e
  obtain ⟨⟨rfl, rfl, _⟩, rfl, rfl⟩ := e
  rw [hc i hi]
  simp [List.getD, show i < D.length by omega]
end Go.Proofs.Ytiblcpkejhiehaa

namespace Go.Proofs.Ytiblcpkejhiehaa
open Go.RowKit Go.PlainAid
theorem bool_yes {r : Bool} {p : Prop} (h : r = true ↔ p) (hp : p) : r = true := h.2 hp
theorem bool_no {r : Bool} {p : Prop} (h : r = true ↔ p) (hp : ¬ p) : r = false := by
 cases r with
 | false => rfl
 | true => exact absurd (h.1 rfl) hp
theorem bool_some (p : Prop) : ∃ r : Bool, r = true ↔ p := by
 by_cases h : p
 ·exact ⟨true, by simp [h]⟩
 ·exact ⟨false, by simp [h]⟩
def fnLinked (a : Nat) : Value := .func (.func 67) #[] #[.pointer (some ⟨a, 0, none⟩)]
def fnGoes (a : Nat) : Value := .func (.func 69) #[] #[.pointer (some ⟨a, 0, none⟩)]
/-- What the closure linked has captured: the graph's box. -/
structure LinkedAt (w : World) (a : Nat) (L : Lks) : Prop where
 ex : ∃ (N : Int) (v : Value), w.cell? ⟨a, 0, none⟩ = some (.int .i64 N) ∧ w.cell? ⟨a, 1, none⟩ = some v ∧ LinksAt w v L
structure GoesAt (w : World) (c : Nat) (L : Lks) : Prop where
 ex : ∃ a, w.cell? ⟨c, 0, none⟩ = some (fnLinked a) ∧ LinkedAt w a L
theorem LinkedAt.below {w w' : World} {a : Nat} {L : Lks} (h : LinkedAt w a L) (hb : Below w.heap.size w w') : LinkedAt w' a L := by
 obtain ⟨N, v, h1, h2, h3⟩ := h.ex
 have := World.block_lt_of_cell? w _ h1
 exact ⟨N, v, (hb.cell this).trans h1, (hb.cell (by exact this)).trans h2, h3.below hb⟩
theorem GoesAt.below {w w' : World} {a : Nat} {L : Lks} (h : GoesAt w a L) (hb : Below w.heap.size w w') : GoesAt w' a L := by
 obtain ⟨c, h1, h2⟩ := h.ex
 have := World.block_lt_of_cell? w _ h1
 exact ⟨c, (hb.cell this).trans h1, h2.below hb⟩
set_option maxHeartbeats 8000000 in
theorem linked_at (a : Nat) (L : Lks) (x y : Int) (r : Bool) (w : World) (h : LinkedAt w a L) (hn : L.length ≤ 1000000) (hr : r = true ↔ (x, y) ∈ L) :
  Calls Try.prog 67 #[.int .i64 x, .int .i64 y, .pointer (some ⟨a, 0, none⟩)] w fun e w' => e = .returned (.bool r) ∧ Below w.heap.size w w' := by
 obtain ⟨N, v, h1, h2, h3⟩ := h.ex
 obtain ⟨ao, cap, rfl⟩ := h3.at
 have H := Lib.hid h3
 have Hn := Lib.hid hn
 obtain ⟨q, hq⟩ : ∃ q, q = findL L (x, y) := ⟨_, rfl⟩
 have Hr : Hid (decide (0 ≤ q) = r) := Lib.hid (by
  rw [hq]
  by_cases hm : (x, y) ∈ L
  ·rw [bool_yes hr hm]
   have : ¬ findL L (x, y) < 0 := fun h => (findL_neg.1 h) hm
   simp; omega
  ·rw [bool_no hr hm]
   have := findL_neg.2 hm
   simp; omega)
 have Hq := Lib.hid hq.symm
 clear h h3 hn hr hq
 go_enter Try.func67, Try.ntmps67
 go_wp2_with fail
 refine (find_at N x y q _ L _ H.out Hn.out Hq.out).mono ?_
 rintro e w' ⟨rfl, hb⟩
 have B := Lib.hid hb
 clear hb
 go_wp2_with fail
 go_ret
 refine ⟨?_, B.out⟩
 rw [← Hr.out]; rfl
theorem linked_yes (a : Nat) (L : Lks) (x y : Int) (w : World) (h : LinkedAt w a L) (hn : L.length ≤ 1000000) (hr : (x, y) ∈ L) :
  Calls Try.prog 67 #[.int .i64 x, .int .i64 y, .pointer (some ⟨a, 0, none⟩)] w fun e w' => e = .returned (.bool true) ∧ Below w.heap.size w w' := linked_at a L x y true w h hn (by simp [hr])
theorem linked_no (a : Nat) (L : Lks) (x y : Int) (w : World) (h : LinkedAt w a L) (hn : L.length ≤ 1000000) (hr : ¬ (x, y) ∈ L) :
  Calls Try.prog 67 #[.int .i64 x, .int .i64 y, .pointer (some ⟨a, 0, none⟩)] w fun e w' => e = .returned (.bool false) ∧ Below w.heap.size w w' := linked_at a L x y false w h hn (by simp [hr])
def Goes (L : Lks) (x y c : Int) : Prop := (x, y) ∈ L ∧ 0 ≤ c ∧ c < 4
set_option maxHeartbeats 8000000 in
theorem goes_at (a : Nat) (L : Lks) (x y c : Int) (r : Bool) (w : World) (h : GoesAt w a L) (hn : L.length ≤ 1000000) (hr : r = true ↔ Goes L x y c) :
  Calls Try.prog 69 #[.int .i64 x, .int .i64 y, .int .i64 c, .pointer (some ⟨a, 0, none⟩)] w fun e w' => e = .returned (.bool r) ∧ Below w.heap.size w w' := by
 obtain ⟨b, h1, h2⟩ := h.ex
 unfold fnLinked at h1
 have H := Lib.hid h2
 have Hn := Lib.hid hn
 have Hr := Lib.hid hr
 clear h h2 hn hr
 by_cases hm : (x, y) ∈ L
 ·have Hl := Lib.hid hm
  by_cases c0 : 0 ≤ c
  ·by_cases c3 : c < 4
   ·have hf : r = true := bool_yes Hr.out ⟨hm, c0, c3⟩
    have Hf := Lib.hid hf
    clear hf hm
    go_enter Try.func69, Try.ntmps69
    go_wp2_with fail
    refine (linked_yes b L x y _ H.out Hn.out Hl.out).mono ?_
    rintro e w' ⟨rfl, hb⟩
    have B := Lib.hid hb
    clear hb
    go_wp2_with fail
    go_ret
    exact ⟨by rw [Hf.out]; first | rfl | simp [*], B.out⟩
   ·have hf : r = false := bool_no Hr.out (fun h => c3 h.2.2)
    have Hf := Lib.hid hf
    clear hf hm
    go_enter Try.func69, Try.ntmps69
    go_wp2_with fail
    refine (linked_yes b L x y _ H.out Hn.out Hl.out).mono ?_
    rintro e w' ⟨rfl, hb⟩
    have B := Lib.hid hb
    clear hb
    go_wp2_with fail
    go_ret
    exact ⟨by rw [Hf.out]; first | rfl | simp [*], B.out⟩
  ·have hf : r = false := bool_no Hr.out (fun h => c0 h.2.1)
   have Hf := Lib.hid hf
   clear hf hm
   go_enter Try.func69, Try.ntmps69
   go_wp2_with fail
   refine (linked_yes b L x y _ H.out Hn.out Hl.out).mono ?_
   rintro e w' ⟨rfl, hb⟩
   have B := Lib.hid hb
   clear hb
   go_wp2_with fail
   go_ret
   exact ⟨by rw [Hf.out]; first | rfl | simp [*], B.out⟩
 ·have Hl := Lib.hid hm
  have hf : r = false := bool_no Hr.out (fun h => hm h.1)
  have Hf := Lib.hid hf
  clear hf hm
  go_enter Try.func69, Try.ntmps69
  go_wp2_with fail
  refine (linked_no b L x y _ H.out Hn.out Hl.out).mono ?_
  rintro e w' ⟨rfl, hb⟩
  have B := Lib.hid hb
  clear hb
  go_wp2_with fail
  go_ret
  exact ⟨by rw [Hf.out]; first | rfl | simp [*], B.out⟩
set_option maxHeartbeats 8000000 in
theorem modeOK_at (p : Pl) (v : Value) (r : Bool) (w : World) (h : IsPl w p v) (hr : r = true ↔ 0 ≤ p.st.mode ∧ p.st.mode ≤ 2) :
  Calls Try.prog 70 #[v] w fun e w' => e = .returned (.bool r) ∧ Below w.heap.size w w' := by
 obtain ⟨cs, rfl, hc⟩ := h
 obtain ⟨v1, v2, v3, v4, rfl, _⟩ := hasL_pl hc
 obtain ⟨m, hm⟩ : ∃ m, m = p.st.mode := ⟨_, rfl⟩
 rw [← hm] at hr ⊢
 clear hc hm
 by_cases h0 : 0 ≤ m
 ·by_cases h2 : m < 3
  ·have hf : r = true := bool_yes hr ⟨h0, by omega⟩
   subst hf
   clear hr
   go_enter Try.func70, Try.ntmps70
   go_wp2_with fail
   go_ret
   exact ⟨rfl, by go_grown⟩
  ·have hf : r = false := bool_no hr (by omega)
   subst hf
   clear hr
   go_enter Try.func70, Try.ntmps70
   go_wp2_with fail
   go_ret
   exact ⟨rfl, by go_grown⟩
 ·have hf : r = false := bool_no hr (by omega)
  subst hf
  clear hr
  go_enter Try.func70, Try.ntmps70
  go_wp2_with fail
  go_ret
  exact ⟨rfl, by go_grown⟩
end Go.Proofs.Ytiblcpkejhiehaa

namespace Go.Proofs.Ytiblcpkejhiehaa
open Go.RowKit Go.PlainAid
def WaitsEach (L : Lks) (n : Int) (ws : List Int) : Prop := ∀ (i : Nat) (x : Int), ws[i]? = some x → (x, n) ∈ L ∧ (∀ u : Int, 0 < i → ws[i - 1]? = some u → u < x)
def WaitsOK (L : Lks) (n : Int) (s : St) : Prop := (s.mode = 2 ↔ 0 < s.waits.length) ∧ WaitsEach L n s.waits
structure WAt (w : World) (b : Nat) (node : Int) (wb wo wc : Nat) (xs : List Int) (L : Lks) (a : Nat) : Prop where
 c1 : w.cell? ⟨b, 1, none⟩ = some (.slice (some ⟨wb, wo, none⟩) xs.length wc)
 c4 : w.cell? ⟨b, 4, none⟩ = some (.int .i64 node)
 lt : wb < w.heap.size
 ws : ∀ (i : Nat) (x : Int), xs[i]? = some x → w.cell? ⟨wb, wo + i, none⟩ = some (.int .i64 x)
 ln : LinkedAt w a L
theorem WAt.below {w w' : World} {b : Nat} {node : Int} {wb wo wc : Nat} {xs : List Int} {L : Lks} {a : Nat} (h : WAt w b node wb wo wc xs L a) (hb : Below w.heap.size w w') : WAt w' b node wb wo wc xs L a := by
 have := World.block_lt_of_cell? w _ h.c1
 exact ⟨(hb.cell (by exact this)).trans h.c1, (hb.cell (by exact this)).trans h.c4, Nat.lt_of_lt_of_le h.lt hb.size, fun i x hx => (hb.cell (by exact h.lt)).trans (h.ws i x hx), h.ln.below hb⟩
theorem ints_some {w : World} {xa : Option Addr} {n xc : Nat} {xs : List Int} (h : IntsAt w (.slice xa n xc) xs) (h0 : 0 < xs.length) : ∃ b o, xa = some ⟨b, o, none⟩ ∧ b < w.heap.size ∧ ∀ (i : Nat) (x : Int), xs[i]? = some x → w.cell? ⟨b, o + i, none⟩ = some (.int .i64 x) := by
 rcases h with ⟨a, cap, e, rfl⟩ | ⟨b, off, len, cap, e, h2, h3, h4, h6, h5⟩
 ·simp at h0
 ·simp only [Value.slice.injEq] at e
  obtain ⟨rfl, rfl, rfl⟩ := e
  refine ⟨b, off, rfl, h4, fun i x hx => ?_⟩
  have hi := lt_of_some hx
  have := h5 i (by omega)
  rw [show xs.getD i 0 = x by simp [List.getD, hx]] at this
  exact this
set_option maxHeartbeats 8000000 in
set_option maxRecDepth 100000 in
theorem waitsOK_loop (L : Lks) (m node : Int) (wb wo wc : Nat) (xs : List Int) (v2 v3 v4 : Value) (a : Nat) (r : Bool) (w : World) (hm : m = 2) (h0 : 0 < xs.length) (hb : wb < w.heap.size) (hx : ∀ (i : Nat) (x : Int), xs[i]? = some x → w.cell? ⟨wb, wo + i, none⟩ = some (.int .i64 x))
  (hl : LinkedAt w a L) (hn : L.length ≤ 1000000) (hxn : xs.length ≤ 1000000) (hr : r = true ↔ WaitsEach L node xs) :
  Calls Try.prog 72 #[.agg #[.int .i64 m, .slice (some ⟨wb, wo, none⟩) xs.length wc, v2, v3, .int .i64 node, v4], fnLinked a] w fun e w' => e = .returned (.bool r) ∧ Below w.heap.size w w' := by
 subst hm
 unfold fnLinked
 obtain ⟨w1, hw1⟩ : ∃ w1, w1 = w.alloc (.cells #[.int .i64 2, .slice (some ⟨wb, wo, none⟩) xs.length wc, v2, v3, .int .i64 node, v4] 148) := ⟨_, rfl⟩
 have g : Below w.heap.size w w1 := by rw [hw1]; exact below_new _ _
 have hA : WAt w1 w.heap.size node wb wo wc xs L a := ⟨by rw [hw1]; exact World.cell?_alloc_at _ _ _ _ rfl, by rw [hw1]; exact World.cell?_alloc_at _ _ _ _ rfl, Nat.lt_of_lt_of_le hb g.size, fun i x h => (g.cell (by exact hb)).trans (hx i x h), hl.below g⟩
 have d1 := hA.c1
 have c0 : w1.cell? ⟨w.heap.size, 0, none⟩ = some (.int .i64 2) := by rw [hw1]; exact World.cell?_alloc_at _ _ _ _ rfl
 have A := Lib.hid hA
 have G := Lib.hid g
 have Hr := Lib.hid hr
 have Hn := Lib.hid hn
 obtain ⟨ln, hln⟩ : ∃ ln, ln = xs.length := ⟨_, rfl⟩
 rw [← hln] at d1 hxn h0 ⊢
 have Ln := Lib.hid hln
 clear hx hl hr hn hA g hb hln
 go_enter Try.func72, Try.ntmps72
 go_wp2_with fail
 rw [← Ln.out] at hw1
 rw [← hw1]
 clear hw1
 go_loopw [21] (fun i wr => ∃ k : Nat, i = .int .i64 k ∧ k ≤ ln ∧ (∀ j x, j < k → xs[j]? = some x → (x, node) ∈ L ∧ ∀ u : Int, 0 < j → xs[j - 1]? = some u → u < x) ∧ Below w1.heap.size w1 wr) (fun i _ => ln - (intOf i).toNat)
 case atStart => exact ⟨0, rfl, by omega, fun j x hj => by omega, Below.refl _ _⟩
 case round =>
  obtain ⟨k, rfl, hk, hno, hbr⟩ := hrel
  have Hs := Lib.hid hno
  have R := Lib.hid hbr
  have A2 := Lib.hid (A.out.below hbr)
  have BB := Lib.hid (below_step G.out.size G.out hbr)
  have e1 := A2.out.c1
  have e4 := A2.out.c4
  rw [← Ln.out] at e1
  clear hno hbr
  by_cases hlt : k < ln
  ·have hlt' : (k : Int) < ln := by omega
   obtain ⟨x, hx⟩ := some_of_lt (l := xs) (i := k) (by rw [← Ln.out]; exact hlt)
   have ex := A2.out.ws k x hx
   have Hx := Lib.hid hx
   have hbad : ∀ P : Prop, ((x, node) ∈ L → (∀ u : Int, 0 < k → xs[k - 1]? = some u → u < x) → P) → ¬ P → r = false := fun P h hP => bool_no Hr.out (fun g => hP (h (g k x Hx.out).1 (g k x Hx.out).2))
   have Bad := Lib.hid hbad
   clear hx hbad
   by_cases hk0 : k = 0
   ·subst hk0
    rw [Nat.add_zero] at ex
    have good : ∀ u : Int, 0 < 0 → xs[0 - 1]? = some u → u < x := fun u h => by omega
    have Good := Lib.hid good
    clear good
    by_cases hm : (x, node) ∈ L
    ·have Hm := Lib.hid hm
     clear hm
     go_wp2_with fail
     refine (linked_yes a L x node _ A2.out.ln Hn.out Hm.out).mono ?_
     rintro e w2 ⟨rfl, hb⟩
     have B2 := Lib.hid hb
     clear hb
     go_wp2_with fail
     go_roundw
     case rel =>
      refine ⟨0 + 1, by go_num, by omega, fun j y hj hy => ?_, below_step R.out.size R.out B2.out⟩
      obtain rfl : j = 0 := by omega
      rw [Hx.out] at hy
      cases hy
      exact ⟨Hm.out, Good.out⟩
     case measure => simp [intOf]; omega
    ·have Hm := Lib.hid hm
     clear hm
     have hf := Bad.out _ (fun h _ => h) Hm.out
     have Hf := Lib.hid hf
     clear hf
     go_wp2_with fail
     refine (linked_no a L x node _ A2.out.ln Hn.out Hm.out).mono ?_
     rintro e w2 ⟨rfl, hb⟩
     have B2 := Lib.hid hb
     clear hb
     go_wp2_with fail
     go_ret
     exact ⟨by rw [Hf.out]; rfl, below_step BB.out.size BB.out B2.out⟩
   ·have hk1 : (0 : Int) < k := by omega
    have hk2 : 0 < k := by omega
    obtain ⟨u, hu⟩ := some_of_lt (l := xs) (i := k - 1) (by rw [← Ln.out]; omega)
    have eu := A2.out.ws (k - 1) u hu
    have Hu := Lib.hid hu
    clear hu
    by_cases hle : x ≤ u
    ·have hf : r = false := Bad.out _ (fun _ h => h u (by omega) Hu.out) (by omega)
     have Hf := Lib.hid hf
     clear hf
     go_wp2_with fail
     go_ret
     exact ⟨by rw [Hf.out]; rfl, BB.out⟩
    ·have hle' : u < x := by omega
     have good : ∀ u' : Int, 0 < k → xs[k - 1]? = some u' → u' < x := fun u' _ h => by rw [Hu.out] at h; cases h; exact hle'
     have Good := Lib.hid good
     clear good
     by_cases hm : (x, node) ∈ L
     ·have Hm := Lib.hid hm
      clear hm
      go_wp2_with fail
      refine (linked_yes a L x node _ A2.out.ln Hn.out Hm.out).mono ?_
      rintro e w2 ⟨rfl, hb⟩
      have B2 := Lib.hid hb
      clear hb
      go_wp2_with fail
      go_roundw
      case rel =>
       refine ⟨k + 1, by go_num, by omega, fun j y hj hy => ?_, below_step R.out.size R.out B2.out⟩
       by_cases hjk : j < k
       ·exact Hs.out j y hjk hy
       ·obtain rfl : j = k := by omega
        rw [Hx.out] at hy
        cases hy
        exact ⟨Hm.out, Good.out⟩
      case measure => simp [intOf]; omega
     ·have Hm := Lib.hid hm
      clear hm
      have hf := Bad.out _ (fun h _ => h) Hm.out
      have Hf := Lib.hid hf
      clear hf
      go_wp2_with fail
      refine (linked_no a L x node _ A2.out.ln Hn.out Hm.out).mono ?_
      rintro e w2 ⟨rfl, hb⟩
      have B2 := Lib.hid hb
      clear hb
      go_wp2_with fail
      go_ret
      exact ⟨by rw [Hf.out]; rfl, below_step BB.out.size BB.out B2.out⟩
  ·have hlt' : ¬ (k : Int) < ln := by omega
   have hf : r = true := bool_yes Hr.out (fun j x hx => Hs.out j x (by have := lt_of_some hx; rw [← Ln.out] at this; omega) hx)
   have Hf := Lib.hid hf
   clear hf
   go_wp2_with fail
   go_ret
   exact ⟨by rw [Hf.out]; rfl, BB.out⟩
set_option maxRecDepth 100000 in
theorem waitsOK_short (m node : Int) (a1 : Option Addr) (n c1 : Nat) (v2 v3 v4 : Value) (a : Nat) (r : Bool) (w : World) (h : n = 0 ∨ m ≠ 2) (hr : r = true ↔ (m ≠ 2 ∧ n = 0)) :
  Calls Try.prog 72 #[.agg #[.int .i64 m, .slice a1 n c1, v2, v3, .int .i64 node, v4], fnLinked a] w fun e w' => e = .returned (.bool r) ∧ Below w.heap.size w w' := by
 unfold fnLinked
 by_cases hm : m = 2
 ·obtain rfl : n = 0 := by omega
  subst hm
  obtain rfl := bool_no hr (by omega)
  clear hr h
  go_enter Try.func72, Try.ntmps72
  go_wp2_with fail
  go_ret
  exact ⟨rfl, by go_grown⟩
 ·have hm1 : (m == 2) = false := by simpa using hm
  by_cases h0 : n = 0
  ·subst h0
   obtain rfl := bool_yes hr ⟨hm, rfl⟩
   clear hr h hm
   go_enter Try.func72, Try.ntmps72
   go_wp2_with fail
   refine wp_loop_rounds 1 ?_
   rw [rounds_succ]
   go_wp2_with fail
   go_ret
   exact ⟨rfl, by go_grown⟩
  ·obtain rfl := bool_no hr (by omega)
   have h1 : 0 < n := by omega
   have h2 : decide (0 < n) = true := by simp [h1]
   clear hr h hm h0
   go_enter Try.func72, Try.ntmps72
   go_wp2_with fail
   go_ret
   exact ⟨rfl, by go_grown⟩
theorem waitsOK_at (L : Lks) (p : Pl) (v : Value) (a : Nat) (r : Bool) (w : World) (h : IsPl w p v) (hl : LinkedAt w a L) (hn : L.length ≤ 1000000) (hxn : p.st.waits.length ≤ 1000000) (hr : r = true ↔ WaitsOK L p.node p.st) :
  Calls Try.prog 72 #[v, fnLinked a] w fun e w' => e = .returned (.bool r) ∧ Below w.heap.size w w' := by
 obtain ⟨cs, rfl, hc⟩ := h
 obtain ⟨v1, v2, v3, v4, rfl, h1, _⟩ := hasL_pl hc
 obtain ⟨a1, c1, rfl⟩ := slice_of h1
 by_cases hs : p.st.waits.length = 0 ∨ p.st.mode ≠ 2
 ·refine waitsOK_short _ _ _ _ _ _ _ _ _ _ _ hs (hr.trans ⟨fun g => ?_, fun g => ?_⟩)
  ·have := g.1; omega
  ·refine ⟨by omega, fun i x hx => ?_⟩
   have := lt_of_some hx; omega
 ·obtain ⟨b, o, rfl, hb, hx⟩ := ints_some (Has.ints h1) (by omega)
  refine waitsOK_loop L p.st.mode p.node b o c1 p.st.waits _ _ _ a r w (by omega) (by omega) hb hx hl hn hxn (hr.trans ⟨fun g => g.2, fun g => ⟨by omega, g⟩⟩)
end Go.Proofs.Ytiblcpkejhiehaa

namespace Go.Proofs.Ytiblcpkejhiehaa
open Go.RowKit Go.PlainAid
def SendsEach (L : Lks) (n : Int) (ss : Lks) : Prop := ∀ (i : Nat) (q : Int × Int), ss[i]? = some q → Goes L n q.1 q.2
def PicksEach (L : Lks) (n : Int) (all : List St) (l : List Pk) : Prop := ∀ (i : Nat) (p : Pk), l[i]? = some p → HasS all p.next ∧ p.sends.length ≤ 4 ∧ SendsEach L n p.sends
def PicksOK (L : Lks) (n : Int) (all : List St) (s : St) : Prop := s.picks.length ≤ 4 ∧ (0 < s.picks.length → s.mode = 1) ∧ PicksEach L n all s.picks
theorem goes_yes (a : Nat) (L : Lks) (x y c : Int) (w : World) (h : GoesAt w a L) (hn : L.length ≤ 1000000) (hr : Goes L x y c) :
  Calls Try.prog 69 #[.int .i64 x, .int .i64 y, .int .i64 c, .pointer (some ⟨a, 0, none⟩)] w fun e w' => e = .returned (.bool true) ∧ Below w.heap.size w w' := goes_at a L x y c true w h hn (by simp [hr])
theorem goes_no (a : Nat) (L : Lks) (x y c : Int) (w : World) (h : GoesAt w a L) (hn : L.length ≤ 1000000) (hr : ¬ Goes L x y c) :
  Calls Try.prog 69 #[.int .i64 x, .int .i64 y, .int .i64 c, .pointer (some ⟨a, 0, none⟩)] w fun e w' => e = .returned (.bool false) ∧ Below w.heap.size w w' := goes_at a L x y c false w h hn (by simp [hr])
theorem link_cells {w : World} {v : Value} {l : Lks} {i : Nat} {p : Int × Int} (h : Has w v (dLinks l)) (hx : l[i]? = some p) :
  ∃ b off cap, v = .slice (some ⟨b, off, none⟩) l.length cap ∧ b < w.heap.size ∧ l.length ≤ cap ∧ w.cell? ⟨b, off + i * 2, none⟩ = some (.int .i64 p.1) ∧ w.cell? ⟨b, off + i * 2 + 1, none⟩ = some (.int .i64 p.2) := by
 obtain ⟨b, off, cap, rfl, h1, h2, cs, h3, h4⟩ := cells_of (f := fun p : Int × Int => [dI p.1, dI p.2]) h hx
 obtain ⟨c, r, rfl, g1, g⟩ := h3.cons
 obtain ⟨c2, r, rfl, g2, g⟩ := HasL.cons g
 obtain rfl := Holds.val g1
 obtain rfl := Holds.val g2
 exact ⟨b, off, cap, rfl, h1, h2, h4 0 _ rfl, h4 1 _ rfl⟩
theorem cell_more {w : World} {p : Addr} {v : Value} (h : w.cell? p = some v) (o : Obj) : (w.alloc o).cell? p = some v := ((below_new w o).cell (World.block_lt_of_cell? w _ h)).trans h
/-- What the walk of a place's picks needs of the memory. -/
structure PkAt (w : World) (b : Nat) (node : Int) (a2 : Option Addr) (c2 : Nat) (l : List Pk) (a4 : Option Addr) (n4 c4 : Nat) (L : Lks) (a : Nat) : Prop where
 f2 : w.cell? ⟨b, 2, none⟩ = some (.slice a2 l.length c2)
 f4 : w.cell? ⟨b, 4, none⟩ = some (.int .i64 node)
 f5 : w.cell? ⟨b, 5, none⟩ = some (.slice a4 n4 c4)
 ps : Has w (.slice a2 l.length c2) (dPicks l)
 ln : GoesAt w a L
theorem PkAt.below {w w' : World} {b : Nat} {node : Int} {a2 : Option Addr} {c2 : Nat} {l : List Pk} {a4 : Option Addr} {n4 c4 : Nat} {L : Lks} {a : Nat} (h : PkAt w b node a2 c2 l a4 n4 c4 L a) (hb : Below w.heap.size w w') : PkAt w' b node a2 c2 l a4 n4 c4 L a := by
 have := World.block_lt_of_cell? w _ h.f2
 exact ⟨(hb.cell (by exact this)).trans h.f2, (hb.cell (by exact this)).trans h.f4, (hb.cell (by exact this)).trans h.f5, h.ps.later hb, h.ln.below hb⟩
set_option maxHeartbeats 8000000 in
set_option maxRecDepth 100000 in
theorem picksOK_loop (L : Lks) (node m : Int) (a2 : Option Addr) (c2 : Nat) (l : List Pk) (all : List St) (a4 : Option Addr) (c4 : Nat) (v1 v3 : Value) (a : Nat) (r : Bool) (w : World) (hm : m = 1) (h0 : 0 < l.length) (h4 : l.length ≤ 4) (hx : Has w (.slice a2 l.length c2) (dPicks l))
  (hl : GoesAt w a L) (hn : L.length ≤ 1000000) (hr : r = true ↔ PicksEach L node all l) :
  Calls Try.prog 74 #[.agg #[.int .i64 m, v1, .slice a2 l.length c2, v3, .int .i64 node, .slice a4 all.length c4], fnGoes a] w fun e w' => e = .returned (.bool r) ∧ Below w.heap.size w w' := by
 subst hm
 unfold fnGoes
 obtain ⟨ln, hln⟩ : ∃ ln, ln = l.length := ⟨_, rfl⟩
 obtain ⟨n4, hn4⟩ : ∃ n4, n4 = all.length := ⟨_, rfl⟩
 obtain ⟨w1, hw1⟩ : ∃ w1, w1 = w.alloc (.cells #[.int .i64 1, v1, .slice a2 l.length c2, v3, .int .i64 node, .slice a4 n4 c4] 148) := ⟨_, rfl⟩
 have g : Below w.heap.size w w1 := by rw [hw1]; exact below_new _ _
 have hA : PkAt w1 w.heap.size node a2 c2 l a4 n4 c4 L a := ⟨by rw [hw1]; exact World.cell?_alloc_at _ _ _ _ rfl, by rw [hw1]; exact World.cell?_alloc_at _ _ _ _ rfl, by rw [hw1]; exact World.cell?_alloc_at _ _ _ _ rfl, hx.later g, hl.below g⟩
 have d2 := hA.f2
 have d0 : w1.cell? ⟨w.heap.size, 0, none⟩ = some (.int .i64 1) := by rw [hw1]; exact World.cell?_alloc_at _ _ _ _ rfl
 have A := Lib.hid hA
 have G := Lib.hid g
 have Hr := Lib.hid hr
 have Hn := Lib.hid hn
 rw [← hln] at d2 h0 h4 ⊢
 rw [← hn4]
 have Ln := Lib.hid hln
 have N4 := Lib.hid hn4
 have e4 : ¬ (4 : Int) < ln := by omega
 have e0 : (0 : Int) < ln := by omega
 have e4' : decide ((4 : Int) < ln) = false := by simp; omega
 clear hx hl hr hn hA g hln hn4
 go_enter Try.func74, Try.ntmps74
 try simp only [List.append_eq, List.cons_append, List.nil_append]
 rw [← Ln.out] at hw1
 go_wp2_with fail
 rw [← hw1]
 clear hw1
 go_loopw [31] (fun i wr => ∃ k : Nat, i = .int .i64 k ∧ k ≤ ln ∧ (∀ j p, j < k → l[j]? = some p → HasS all p.next ∧ p.sends.length ≤ 4 ∧ SendsEach L node p.sends) ∧ Below w1.heap.size w1 wr) (fun i _ => ln - (intOf i).toNat)
 case atStart => exact ⟨0, rfl, by omega, fun j x hj => by omega, Below.refl _ _⟩
 case round =>
  obtain ⟨k, rfl, hk, hno, hbr⟩ := hrel
  have Hs := Lib.hid hno
  have R := Lib.hid hbr
  have A2 := Lib.hid (A.out.below hbr)
  have BB := Lib.hid (below_step G.out.size G.out hbr)
  have q2 := A2.out.f2
  have q5 := cell_more A2.out.f5
  rw [← Ln.out] at q2
  clear hno hbr
  by_cases hlt : k < ln
  ·have hlt' : (k : Int) < ln := by omega
   obtain ⟨p, hp⟩ := some_of_lt (l := l) (i := k) (by rw [← Ln.out]; exact hlt)
   obtain ⟨b, off, cap, sv, e, hb, _, x0, x1, hsv⟩ := pk_cells A2.out.ps hp
   simp only [Value.slice.injEq] at e
   obtain ⟨e, _, e2⟩ := e
   subst e e2
   obtain ⟨sa, sc, rfl⟩ := slice_of hsv
   obtain ⟨sn, hsn⟩ : ∃ sn, sn = p.sends.length := ⟨_, rfl⟩
   obtain ⟨pn, hpn⟩ : ∃ pn, pn = p.next := ⟨_, rfl⟩
   rw [← hsn] at x1 hsv
   rw [← hpn] at x0
   have Sn := Lib.hid hsn
   have Pn := Lib.hid hpn
   have Hp := Lib.hid hp
   have HS := Lib.hid hsv
   have Bad : Hid (∀ P : Prop, (HasS all pn → sn ≤ 4 → SendsEach L node p.sends → P) → ¬ P → r = false) := Lib.hid (fun P h hP => bool_no Hr.out (fun g => hP (by rw [Pn.out, Sn.out] at h; exact h (g k p Hp.out).1 (g k p Hp.out).2.1 (g k p Hp.out).2.2)))
   clear hp hsv hsn hpn
   by_cases hs : HasS all pn
   ·have Ys := Lib.hid hs
    have y0 := hs.1
    have y1 := hs.2
    rw [← N4.out] at y1
    clear hs
    go_wp2_with fail
    refine (has_yes _ _ _ _ _ y0 y1).mono ?_
    rintro e w2 ⟨rfl, hw2⟩
    have B2 := Lib.hid (show Below wr.heap.size wr w2 by rw [← hw2]; go_grown)
    have z0 : w2.cell? ⟨wr.heap.size, 0, none⟩ = some (.int .i64 pn) := by rw [← hw2]; exact World.cell?_alloc_at _ _ _ _ rfl
    have z1 : w2.cell? ⟨wr.heap.size, 1, none⟩ = some (.slice sa sn sc) := by rw [← hw2]; exact World.cell?_alloc_at _ _ _ _ rfl
    have A3 := Lib.hid (A2.out.below B2.out)
    have R3 := Lib.hid (below_step R.out.size R.out B2.out)
    have HS2 := Lib.hid (HS.out.later B2.out)
    clear hw2
    by_cases hs4 : sn ≤ 4
    ·have u4 : ¬ (4 : Int) < sn := by omega
     have u4' : decide ((4 : Int) < sn) = false := by simp; omega
     go_wp2_with fail
     go_loopw [50] (fun i wq => ∃ k2 : Nat, i = .int .i64 k2 ∧ k2 ≤ sn ∧ (∀ j q, j < k2 → p.sends[j]? = some q → Goes L node q.1 q.2) ∧ Below w2.heap.size w2 wq) (fun i _ => sn - (intOf i).toNat)
     case atStart => exact ⟨0, rfl, by omega, fun j x hj => by omega, Below.refl _ _⟩
     case round =>
      obtain ⟨k2, rfl, hk2, hno2, hbr2⟩ := hrel
      have Hs2 := Lib.hid hno2
      have T := Lib.hid hbr2
      have A4 := Lib.hid (A3.out.below hbr2)
      have BT := Lib.hid (below_step R3.out.size R3.out hbr2)
      have w4 := cell_more A4.out.f4
      have HS3 := Lib.hid (HS2.out.later hbr2)
      clear hno2 hbr2
      by_cases hlt2 : k2 < sn
      ·have hlt2' : (k2 : Int) < sn := by omega
       obtain ⟨q, hq⟩ := some_of_lt (l := p.sends) (i := k2) (by rw [← Sn.out]; exact hlt2)
       have hh := HS3.out
       rw [Sn.out] at hh
       obtain ⟨b2, off2, cap2, e, hb2, _, t0, t1⟩ := link_cells hh hq
       simp only [Value.slice.injEq] at e
       obtain ⟨e, _, e2⟩ := e
       subst e e2
       have Hq := Lib.hid hq
       clear hh hq
       obtain ⟨q1, q2⟩ := q
       simp only at t0 t1
       by_cases hg : Goes L node q1 q2
       ·have Hg := Lib.hid hg
        clear hg
        go_wp2_with fail
        refine (goes_yes a L node q1 q2 _ (A4.out.ln.below (by go_grown)) Hn.out Hg.out).mono ?_
        rintro e w3 ⟨rfl, hb3⟩
        have B3 := Lib.hid (show Below w2.heap.size w2 w3 from below_step T.out.size T.out (Below.trans (by go_grown) (hb3.mono (by go_grown))))
        clear hb3
        go_wp2_with fail
        go_roundw
        case rel =>
         refine ⟨k2 + 1, by go_num, by omega, fun j y hj hy => ?_, B3.out⟩
         by_cases hjk : j < k2
         ·exact Hs2.out j y hjk hy
         ·obtain rfl : j = k2 := by omega
          rw [Hq.out] at hy
          cases hy
          exact Hg.out
        case measure => simp [intOf]; omega
       ·have hf := Bad.out _ (fun _ _ h => h k2 _ Hq.out) hg
        have Hf := Lib.hid hf
        have Hg := Lib.hid hg
        clear hg hf
        go_wp2_with fail
        refine (goes_no a L node q1 q2 _ (A4.out.ln.below (by go_grown)) Hn.out Hg.out).mono ?_
        rintro e w3 ⟨rfl, hb3⟩
        have B3 := Lib.hid (show Below w2.heap.size w2 w3 from below_step T.out.size T.out (Below.trans (by go_grown) (hb3.mono (by go_grown))))
        clear hb3
        go_wp2_with fail
        go_ret
        exact ⟨by rw [Hf.out]; rfl, below_step G.out.size G.out (below_step R3.out.size R3.out B3.out)⟩
      ·have hlt2' : ¬ (k2 : Int) < sn := by omega
       go_wp2_with fail
       go_roundw
       case rel =>
        refine ⟨k + 1, by go_num, by omega, fun j y hj hy => ?_, BT.out⟩
        by_cases hjk : j < k
        ·exact Hs.out j y hjk hy
        ·obtain rfl : j = k := by omega
         rw [Hp.out] at hy
         cases hy
         exact ⟨by rw [← Pn.out]; exact Ys.out, by rw [← Sn.out]; exact hs4, fun i q hq => Hs2.out i q (by have := lt_of_some hq; rw [← Sn.out] at this; omega) hq⟩
       case measure => simp [intOf]; omega
    ·have u4 : (4 : Int) < sn := by omega
     have u4' : decide ((4 : Int) < sn) = true := by simp; omega
     have Hf := Lib.hid (Bad.out _ (fun _ h _ => h) hs4)
     go_wp2_with fail
     go_ret
     exact ⟨by rw [Hf.out]; rfl, below_step G.out.size G.out R3.out⟩
   ·have Hf := Lib.hid (Bad.out _ (fun h _ _ => h) hs)
    have Ns : Hid (¬ (0 ≤ pn ∧ pn < n4)) := Lib.hid (by rw [N4.out]; exact hs)
    clear hs
    go_wp2_with fail
    refine (has_no _ _ _ _ _ Ns.out).mono ?_
    rintro e w2 ⟨rfl, hw2⟩
    have B2 := Lib.hid (show Below wr.heap.size wr w2 by rw [← hw2]; go_grown)
    clear hw2
    go_wp2_with fail
    go_ret
    exact ⟨by rw [Hf.out]; rfl, below_step BB.out.size BB.out B2.out⟩
  ·have hlt' : ¬ (k : Int) < ln := by omega
   have hf : r = true := bool_yes Hr.out (fun j x hx => Hs.out j x (by have := lt_of_some hx; rw [← Ln.out] at this; omega) hx)
   have Hf := Lib.hid hf
   clear hf
   go_wp2_with fail
   go_ret
   exact ⟨by rw [Hf.out]; rfl, BB.out⟩
end Go.Proofs.Ytiblcpkejhiehaa

set_option linter.unusedSimpArgs false
namespace Go.Proofs.Ytiblcpkejhiehaa
open Go.RowKit Go.PlainAid
def TakeGood (L : Lks) (n : Int) (all : List St) (l : List Tk) (i : Nat) (t : Tk) : Prop := Goes L t.src n t.letter ∧ HasS all t.next ∧ ∀ (j : Nat) (u : Tk), j < i → l[j]? = some u → ¬ (u.src = t.src ∧ u.letter = t.letter)
def TakesOK (L : Lks) (n : Int) (all : List St) (l : List Tk) : Prop := ∀ (i : Nat) (t : Tk), l[i]? = some t → TakeGood L n all l i t
def Low (L : Lks) : Prop := ∀ x y : Int, (x, y) ∈ L → 0 ≤ x ∧ x < 6
/-- Whether a take of that node and letter lies ahead. -/
def seenB (l : List Tk) (k f c : Nat) : Bool := (l.take k).any fun u => decide (u.src = f ∧ u.letter = c)
theorem seenB_zero (l : List Tk) (f c : Nat) : seenB l 0 f c = false := by simp [seenB]
theorem seenB_succ {l : List Tk} {k : Nat} {t : Tk} (ht : l[k]? = some t) (f c : Nat) : seenB l (k + 1) f c = (seenB l k f c || decide (t.src = f ∧ t.letter = c)) := by
 unfold seenB
 rw [List.take_add_one, ht]
 simp [List.any_append]
theorem seenB_iff {l : List Tk} {k f c : Nat} : seenB l k f c = false ↔ ∀ (j : Nat) (u : Tk), j < k → l[j]? = some u → ¬ (u.src = f ∧ u.letter = c) := by
 unfold seenB
 rw [List.any_eq_false]
 constructor
 ·intro h j u hj hu
  have := h u (List.mem_iff_getElem?.2 ⟨j, by rw [List.getElem?_take, if_pos hj]; exact hu⟩)
  simpa using this
 ·intro h u hu
  obtain ⟨j, hj⟩ := List.mem_iff_getElem?.1 hu
  rw [List.getElem?_take] at hj
  split at hj
  ·have := h j u (by assumption) hj
   simpa using this
  ·cases hj
/-- The array 'seen'. -/
structure Seen (w : World) (b : Nat) (l : List Tk) (k : Nat) : Prop where
 lt : b < w.heap.size
 cells : ∀ f c : Nat, f < 6 → c < 4 → w.cell? ⟨b, f * 4 + c, none⟩ = some (.bool (seenB l k f c))
 open_ : ∀ f c : Nat, f < 6 → c < 4 → w.frozen? ⟨b, f * 4 + c, none⟩ = false
theorem Seen.below {w w' : World} {b : Nat} {l : List Tk} {k : Nat} (h : Seen w b l k) (hb : Below w.heap.size w w') : Seen w' b l k :=
 ⟨Nat.lt_of_lt_of_le h.lt hb.size, fun f c h1 h2 => (hb.cell (by exact h.lt)).trans (h.cells f c h1 h2), fun f c h1 h2 => (hb.frozen (by exact h.lt)).trans (h.open_ f c h1 h2)⟩
theorem Seen.set {w : World} {b : Nat} {l : List Tk} {k : Nat} (h : Seen w b l k) {t : Tk} (ht : l[k]? = some t) {f c : Nat} (hf : f < 6) (hc : c < 4) (h1 : t.src = f) (h2 : t.letter = c) : Seen (w.setCell ⟨b, f * 4 + c, none⟩ (.bool true)) b l (k + 1) := by
 refine ⟨by rw [World.size_setCell]; exact h.lt, fun f' c' hf' hc' => ?_, fun f' c' hf' hc' => by rw [World.frozen?_setCell]; exact h.open_ f' c' hf' hc'⟩
 rw [seenB_succ ht]
 by_cases he : f' = f ∧ c' = c
 ·obtain ⟨rfl, rfl⟩ := he
  rw [World.cell?_setCell_same w _ _ (h.cells f' c' hf hc)]
  simp [h1, h2]
 ·rw [World.cell?_setCell_other w _ _ _ (by intro e; injection e with _ e2 _; exact he (by omega)), h.cells f' c' hf' hc']
  have : ¬ (t.src = f' ∧ t.letter = c') := by rw [h1, h2]; intro e; exact he (by omega)
  simp [this]
structure TkAt (w : World) (b : Nat) (node : Int) (a3 : Option Addr) (c3 : Nat) (l : List Tk) (a4 : Option Addr) (n4 c4 : Nat) (L : Lks) (a : Nat) : Prop where
 f4 : w.cell? ⟨b, 4, none⟩ = some (.int .i64 node)
 f5 : w.cell? ⟨b, 5, none⟩ = some (.slice a4 n4 c4)
 ps : Has w (.slice a3 l.length c3) (dTakes l)
 ln : GoesAt w a L
theorem TkAt.below {w w' : World} {b : Nat} {node : Int} {a3 : Option Addr} {c3 : Nat} {l : List Tk} {a4 : Option Addr} {n4 c4 : Nat} {L : Lks} {a : Nat} (h : TkAt w b node a3 c3 l a4 n4 c4 L a) (hb : Below w.heap.size w w') : TkAt w' b node a3 c3 l a4 n4 c4 L a := by
 have := World.block_lt_of_cell? w _ h.f4
 exact ⟨(hb.cell (by exact this)).trans h.f4, (hb.cell (by exact this)).trans h.f5, h.ps.later hb, h.ln.below hb⟩
/-- What the region of one take reads. -/
structure TkS (bx ba wo j : Nat) (node : Int) (a4 : Option Addr) (n4 c4 : Nat) (q1 q2 q3 : Int) (sb : Bool) (L : Lks) (a : Nat) (w : World) : Prop where
 s : w.cell? ⟨bx, 4, none⟩ = some (.int .i64 node) ∧ w.cell? ⟨bx, 5, none⟩ = some (.slice a4 n4 c4) ∧ w.cell? ⟨wo, 0, none⟩ = some (.int .i64 q1) ∧ w.cell? ⟨wo, 1, none⟩ = some (.int .i64 q2) ∧ w.cell? ⟨wo, 2, none⟩ = some (.int .i64 q3) ∧ w.cell? ⟨ba, j, none⟩ = some (.bool sb)
 ln : GoesAt w a L
theorem TkS.below {bx ba wo j : Nat} {node : Int} {a4 : Option Addr} {n4 c4 : Nat} {q1 q2 q3 : Int} {sb : Bool} {L : Lks} {a : Nat} {w w' : World} (h : TkS bx ba wo j node a4 n4 c4 q1 q2 q3 sb L a w) (hb : Below w.heap.size w w') : TkS bx ba wo j node a4 n4 c4 q1 q2 q3 sb L a w' := by
 obtain ⟨⟨h1, h2, h3, h4, h5, h6⟩, h7⟩ := h
 have k := fun (p : Addr) (v : Value) (e : w.cell? p = some v) => (hb.cell (World.block_lt_of_cell? w _ e)).trans e
 exact ⟨⟨k _ _ h1, k _ _ h2, k _ _ h3, k _ _ h4, k _ _ h5, k _ _ h6⟩, h7.below hb⟩
theorem zeroCells (w : World) (T : TypeId) (f c : Nat) (hf : f < 6) (hc : c < 4) (vs : List Value) (hv : vs = List.replicate 24 (.bool false)) : (w.alloc (.cells ⟨vs⟩ T)).cell? ⟨w.heap.size, f * 4 + c, none⟩ = some (.bool false) ∧ (w.alloc (.cells ⟨vs⟩ T)).frozen? ⟨w.heap.size, f * 4 + c, none⟩ = false := by
 subst hv
 have h : f * 4 + c < 24 := by omega
 have hs : (⟨List.replicate 24 (Value.bool false)⟩ : Array Value)[f * 4 + c]? = some (.bool false) := by
  rw [List.getElem?_toArray, List.getElem?_replicate, if_pos h]
 exact ⟨(World.cell?_alloc_at _ _ _ _ rfl).trans hs, by rw [frozen?_alloc_cells]; simp [World.frozen?]⟩
set_option maxHeartbeats 8000000 in
set_option maxRecDepth 100000 in
theorem takesOK_loop (L : Lks) (node m : Int) (a3 : Option Addr) (c3 : Nat) (l : List Tk) (all : List St) (a4 : Option Addr) (c4 : Nat) (v1 v2 : Value) (a : Nat) (r : Bool) (w : World) (hln6 : l.length ≤ 1000000) (hx : Has w (.slice a3 l.length c3) (dTakes l))
  (hl : GoesAt w a L) (hn : L.length ≤ 1000000) (hlow : Low L) (hr : r = true ↔ TakesOK L node all l) :
  Calls Try.prog 76 #[.agg #[.int .i64 m, v1, v2, .slice a3 l.length c3, .int .i64 node, .slice a4 all.length c4], fnGoes a] w fun e w' => e = .returned (.bool r) ∧ Below w.heap.size w w' := by
 unfold fnGoes
 obtain ⟨ln, hln⟩ : ∃ ln, ln = l.length := ⟨_, rfl⟩
 obtain ⟨n4, hn4⟩ : ∃ n4, n4 = all.length := ⟨_, rfl⟩
 obtain ⟨w1, hw1⟩ : ∃ w1, w1 = w.alloc (.cells #[.int .i64 m, v1, v2, .slice a3 l.length c3, .int .i64 node, .slice a4 n4 c4] 148) := ⟨_, rfl⟩
 have g : Below w.heap.size w w1 := by rw [hw1]; exact below_new _ _
 have hA : TkAt w1 w.heap.size node a3 c3 l a4 n4 c4 L a := ⟨by rw [hw1]; exact World.cell?_alloc_at _ _ _ _ rfl, by rw [hw1]; exact World.cell?_alloc_at _ _ _ _ rfl, hx.later g, hl.below g⟩
 have d3 : w1.cell? ⟨w.heap.size, 3, none⟩ = some (.slice a3 l.length c3) := by rw [hw1]; exact World.cell?_alloc_at _ _ _ _ rfl
 have z1 : w1.heap.size = w.heap.size + 1 := by rw [hw1]; simp
 have Z1 := Lib.hid z1
 have A := Lib.hid hA
 have G := Lib.hid g
 have Hr := Lib.hid hr
 have Hn := Lib.hid hn
 have HLow := Lib.hid hlow
 rw [← hln] at d3 hln6 ⊢
 rw [← hn4]
 have Ln := Lib.hid hln
 have N4 := Lib.hid hn4
 obtain ⟨w2, hw2⟩ : ∃ w2, w2 = w1.alloc (.cells #[.bool false, .bool false, .bool false, .bool false, .bool false, .bool false, .bool false, .bool false, .bool false, .bool false, .bool false, .bool false, .bool false, .bool false, .bool false, .bool false, .bool false, .bool false, .bool false, .bool false, .bool false, .bool false, .bool false, .bool false] 166) := ⟨_, rfl⟩
 have S0 : Hid (Seen w2 (w.heap.size + 1) l 0) := Lib.hid (by rw [← z1, hw2]; exact ⟨by simp, fun f c hf hc => by rw [seenB_zero]; exact (zeroCells w1 _ f c hf hc _ (by rfl)).1, fun f c hf hc => (zeroCells w1 _ f c hf hc _ (by rfl)).2⟩)
 have g12 : Below w1.heap.size w1 w2 := by rw [hw2]; exact below_new _ _
 have G12 := Lib.hid g12
 have d3' := (g12.cell (by show w.heap.size < _; omega)).trans d3
 clear hx hl hr hn hA g hln hn4 hlow z1 d3 g12
 go_enter Try.func76, Try.ntmps76
 rw [← Ln.out] at hw1
 go_wp2_with fail
 rw [← hw1]
 try rw [← hw2]
 clear hw1 hw2
 go_wp2_with fail
 go_loopw [12] (fun i wr => ∃ k : Nat, i = .int .i64 k ∧ k ≤ ln ∧ (∀ j t, j < k → l[j]? = some t → TakeGood L node all l j t) ∧ Below w1.heap.size w1 wr ∧ Seen wr (w.heap.size + 1) l k) (fun i _ => ln - (intOf i).toNat)
 case atStart => exact ⟨0, rfl, by omega, fun j x hj => by omega, G12.out, S0.out⟩
 case round =>
  obtain ⟨k, rfl, hk, hno, hbr, hsn⟩ := hrel
  have Hs := Lib.hid hno
  have R := Lib.hid hbr
  have SN := Lib.hid hsn
  have hA2 := A.out.below hbr
  have A2 := Lib.hid hA2
  have BB := Lib.hid (below_step G.out.size G.out hbr)
  have Zr := Lib.hid hbr.size
  by_cases hlt : k < ln
  ·have hlt' : (k : Int) < ln := by omega
   obtain ⟨t, ht⟩ := some_of_lt (l := l) (i := k) (by rw [← Ln.out]; exact hlt)
   obtain ⟨b, off, cap, e, hb, _, x0, x1, x2⟩ := tk_cells hA2.ps ht
   simp only [Value.slice.injEq] at e
   obtain ⟨e, _, e2⟩ := e
   subst e e2
   have Ht := Lib.hid ht
   obtain ⟨q1, q2, q3⟩ := t
   simp only at x0 x1 x2
   have Bad : Hid (∀ P : Prop, (TakeGood L node all l k ⟨q1, q2, q3⟩ → P) → ¬ P → r = false) := Lib.hid (fun P h hP => bool_no Hr.out (fun g => hP (h (g k _ Ht.out))))
   obtain ⟨wc, hwc⟩ : ∃ wc, wc = wr.alloc (.cells #[.int .i64 q1, .int .i64 q2, .int .i64 q3] 130) := ⟨_, rfl⟩
   have hbc : Below wr.heap.size wr wc := by rw [hwc]; exact below_new _ _
   have hAc := hA2.below hbc
   have hSc := hsn.below hbc
   have y0 : wc.cell? ⟨wr.heap.size, 0, none⟩ = some (.int .i64 q1) := by rw [hwc]; exact World.cell?_alloc_at _ _ _ _ rfl
   have y1 : wc.cell? ⟨wr.heap.size, 1, none⟩ = some (.int .i64 q2) := by rw [hwc]; exact World.cell?_alloc_at _ _ _ _ rfl
   have y2 : wc.cell? ⟨wr.heap.size, 2, none⟩ = some (.int .i64 q3) := by rw [hwc]; exact World.cell?_alloc_at _ _ _ _ rfl
   have TB : Hid (Below wr.heap.size wr wc.drew) := Lib.hid (below_drewN hbc 1)
   have TS : Hid (wr.heap.size ≤ wc.drew.heap.size) := Lib.hid hbc.size
   by_cases hg : Goes L q1 node q2
   ·obtain ⟨f, hf⟩ := Int.eq_ofNat_of_zero_le (HLow.out q1 node hg.1).1
    obtain ⟨c, hc⟩ := Int.eq_ofNat_of_zero_le hg.2.1
    have hf6 : f < 6 := by have := (HLow.out q1 node hg.1).2; omega
    have hc4 : c < 4 := by have := hg.2.2; omega
    have hf6' : (f : Int) < 6 := by omega
    have hc4' : (c : Int) < 4 := by omega
    subst hf hc
    obtain ⟨sb, hsb⟩ : ∃ sb, sb = seenB l k f c := ⟨_, rfl⟩
    have hy := hSc.cells f c hf6 hc4
    rw [← hsb] at hy
    have T : Hid (TkS w.heap.size (w.heap.size + 1) wr.heap.size (f * 4 + c) node a4 n4 c4 f c q3 sb L a wc.drew) := Lib.hid (TkS.below ⟨⟨hAc.f4, hAc.f5, y0, y1, y2, hy⟩, hAc.ln⟩ (below_drewN (Below.refl _ wc) 1))
    have Hsb := Lib.hid hsb
    have SN3 := Lib.hid (hSc.below (below_drewN (Below.refl _ wc) 1))
    have Hg := Lib.hid hg
    clear hno hbr hsn hA2 ht hbc hAc hSc y0 y1 y2 hy hsb hg
    by_cases hs : HasS all q3
    ·have Ys := Lib.hid hs
     have y0 := hs.1
     have y1 := hs.2
     rw [← N4.out] at y1
     clear hs
     cases sb with
     | true =>
      have Hf := Lib.hid (Bad.out _ (fun h => h.2.2) (fun h => by have := (seenB_iff (f := f) (c := c)).2 h; rw [← Hsb.out] at this; cases this))
      go_wp2_with fail
      rw [← hwc]
      clear hwc
      refine wp_region_held_drew (S := (fun w' => w'.cell? ⟨w.heap.size, 4, none⟩ = some (.int .i64 node) ∧ w'.cell? ⟨w.heap.size, 5, none⟩ = some (.slice a4 n4 c4) ∧ w'.cell? ⟨wr.heap.size, 0, none⟩ = some (.int .i64 f) ∧ w'.cell? ⟨wr.heap.size, 1, none⟩ = some (.int .i64 c) ∧ w'.cell? ⟨wr.heap.size, 2, none⟩ = some (.int .i64 q3) ∧ w'.cell? ⟨w.heap.size + 1, (f * 4 + c), none⟩ = some (.bool true))) (by kernel_rfl) ?_ (fun hHeld => ?_)
      ·exact T.out.s
      refine tq 0 ?_
      refine tq 1 ?_
      refine tq 2 ?_
      refine tq 3 ?_
      refine tq 4 ?_
      refine tq 5 ?_
      refine tq 6 ?_
      refine rd 7 fun K hK => ?_
      go_simp
      refine (goes_yes a L f node c _ T.out.ln Hn.out Hg.out).mono ?_
      rintro e wn ⟨rfl, hbn⟩
      have T := Lib.hid (T.out.below hbn)
      have TB := Lib.hid (below_step (by exact TS.out) TB.out hbn)
      have TS := Lib.hid (Nat.le_trans TS.out hbn.size)
      clear hbn
      go_wp2_with fail
      refine hK.out _ _ ?_ (fun hHeld => ?_)
      ·exact T.out.s
      clear hK K
      try simp only [Act.put, List.getElem_toArray, List.getElem_cons_zero, List.getElem_cons_succ, List.setIfInBounds_toArray, List.set_cons_zero, List.set_cons_succ]
      refine tq 8 ?_
      refine tq 9 ?_
      refine tq 10 ?_
      refine tq 11 ?_
      refine tq 12 ?_
      refine tq 13 ?_
      refine rd 14 fun K hK => ?_
      go_simp
      refine (has_yes _ _ _ _ _ y0 y1).mono ?_
      rintro e wn ⟨rfl, rfl⟩
      go_wp2_with fail
      refine hK.out _ _ ?_ (fun hHeld => ?_)
      ·exact T.out.s
      clear hK K
      try simp only [Act.put, List.getElem_toArray, List.getElem_cons_zero, List.getElem_cons_succ, List.setIfInBounds_toArray, List.set_cons_zero, List.set_cons_succ]
      refine tq 15 ?_
      refine tq 16 ?_
      refine tq 17 ?_
      refine tq 18 ?_
      refine tq 19 ?_
      refine tq 20 ?_
      refine tq 21 ?_
      refine tq 22 ?_
      refine tq 23 ?_
      refine tq 24 ?_
      refine tq 25 ?_
      refine wpAnyH_done (by kernel_rfl) ?_ _
      go_wp2_with fail
      go_ret
      exact ⟨by rw [Hf.out]; rfl, below_step BB.out.size BB.out TB.out⟩
     | false =>
      go_wp2_with fail
      rw [← hwc]
      clear hwc
      refine wp_region_held_drew (S := (fun w' => w'.cell? ⟨w.heap.size, 4, none⟩ = some (.int .i64 node) ∧ w'.cell? ⟨w.heap.size, 5, none⟩ = some (.slice a4 n4 c4) ∧ w'.cell? ⟨wr.heap.size, 0, none⟩ = some (.int .i64 f) ∧ w'.cell? ⟨wr.heap.size, 1, none⟩ = some (.int .i64 c) ∧ w'.cell? ⟨wr.heap.size, 2, none⟩ = some (.int .i64 q3) ∧ w'.cell? ⟨w.heap.size + 1, (f * 4 + c), none⟩ = some (.bool false))) (by kernel_rfl) ?_ (fun hHeld => ?_)
      ·exact T.out.s
      refine tq 0 ?_
      refine tq 1 ?_
      refine tq 2 ?_
      refine tq 3 ?_
      refine tq 4 ?_
      refine tq 5 ?_
      refine tq 6 ?_
      refine rd 7 fun K hK => ?_
      go_simp
      refine (goes_yes a L f node c _ T.out.ln Hn.out Hg.out).mono ?_
      rintro e wn ⟨rfl, hbn⟩
      have T := Lib.hid (T.out.below hbn)
      have TB := Lib.hid (below_step (by exact TS.out) TB.out hbn)
      have TS := Lib.hid (Nat.le_trans TS.out hbn.size)
      have SN3 := Lib.hid (SN3.out.below hbn)
      clear hbn
      go_wp2_with fail
      refine hK.out _ _ ?_ (fun hHeld => ?_)
      ·exact T.out.s
      clear hK K
      try simp only [Act.put, List.getElem_toArray, List.getElem_cons_zero, List.getElem_cons_succ, List.setIfInBounds_toArray, List.set_cons_zero, List.set_cons_succ]
      refine tq 8 ?_
      refine tq 9 ?_
      refine tq 10 ?_
      refine tq 11 ?_
      refine tq 12 ?_
      refine tq 13 ?_
      refine rd 14 fun K hK => ?_
      go_simp
      refine (has_yes _ _ _ _ _ y0 y1).mono ?_
      rintro e wn ⟨rfl, rfl⟩
      go_wp2_with fail
      refine hK.out _ _ ?_ (fun hHeld => ?_)
      ·exact T.out.s
      clear hK K
      try simp only [Act.put, List.getElem_toArray, List.getElem_cons_zero, List.getElem_cons_succ, List.setIfInBounds_toArray, List.set_cons_zero, List.set_cons_succ]
      refine tq 15 ?_
      refine tq 16 ?_
      refine tq 17 ?_
      refine tq 18 ?_
      refine tq 19 ?_
      refine tq 20 ?_
      refine tq 21 ?_
      refine tq 22 ?_
      refine tq 23 ?_
      refine tq 24 ?_
      refine tq 25 ?_
      refine wpAnyH_done (by kernel_rfl) ?_ _
      go_wp2_with fail
      have Tz := T.out.s
      obtain ⟨_, _, s0, s1, _, s5⟩ := Tz
      have s6 := SN3.out.open_ f c hf6 hc4
      go_region
      go_wp2_with fail
      go_roundw
      case rel =>
       refine ⟨k + 1, by go_num, by omega, fun j y hj hy => ?_, ?_, ?_⟩
       ·by_cases hjk : j < k
        ·exact Hs.out j y hjk hy
        ·obtain rfl : j = k := by omega
         rw [Ht.out] at hy
         cases hy
         exact ⟨Hg.out, Ys.out, seenB_iff.1 Hsb.out.symm⟩
       ·exact below_drewN ((R.out.trans (TB.out.mono R.out.size)).setCell (by rw [Z1.out]; simp) _) 1
       ·exact (SN3.out.set Ht.out hf6 hc4 rfl rfl).below (below_drewN (Below.refl _ _) 1)
      case measure => simp [intOf]; omega
    ·have Hf := Lib.hid (Bad.out _ (fun h => h.2.1) hs)
     have Ns : Hid (¬ (0 ≤ q3 ∧ q3 < n4)) := Lib.hid (by rw [N4.out]; exact hs)
     clear hs
     go_wp2_with fail
     rw [← hwc]
     clear hwc
     refine wp_region_held_drew (S := (fun w' => w'.cell? ⟨w.heap.size, 4, none⟩ = some (.int .i64 node) ∧ w'.cell? ⟨w.heap.size, 5, none⟩ = some (.slice a4 n4 c4) ∧ w'.cell? ⟨wr.heap.size, 0, none⟩ = some (.int .i64 f) ∧ w'.cell? ⟨wr.heap.size, 1, none⟩ = some (.int .i64 c) ∧ w'.cell? ⟨wr.heap.size, 2, none⟩ = some (.int .i64 q3) ∧ w'.cell? ⟨w.heap.size + 1, (f * 4 + c), none⟩ = some (.bool sb))) (by kernel_rfl) ?_ (fun hHeld => ?_)
     ·exact T.out.s
     refine tq 0 ?_
     refine tq 1 ?_
     refine tq 2 ?_
     refine tq 3 ?_
     refine tq 4 ?_
     refine tq 5 ?_
     refine tq 6 ?_
     refine rd 7 fun K hK => ?_
     go_simp
     refine (goes_yes a L f node c _ T.out.ln Hn.out Hg.out).mono ?_
     rintro e wn ⟨rfl, hbn⟩
     have T := Lib.hid (T.out.below hbn)
     have TB := Lib.hid (below_step (by exact TS.out) TB.out hbn)
     have TS := Lib.hid (Nat.le_trans TS.out hbn.size)
     clear hbn
     go_wp2_with fail
     refine hK.out _ _ ?_ (fun hHeld => ?_)
     ·exact T.out.s
     clear hK K
     try simp only [Act.put, List.getElem_toArray, List.getElem_cons_zero, List.getElem_cons_succ, List.setIfInBounds_toArray, List.set_cons_zero, List.set_cons_succ]
     refine tq 8 ?_
     refine tq 9 ?_
     refine tq 10 ?_
     refine tq 11 ?_
     refine tq 12 ?_
     refine tq 13 ?_
     refine rd 14 fun K hK => ?_
     go_simp
     refine (has_no _ _ _ _ _ Ns.out).mono ?_
     rintro e wn ⟨rfl, rfl⟩
     go_wp2_with fail
     refine hK.out _ _ ?_ (fun hHeld => ?_)
     ·exact T.out.s
     clear hK K
     try simp only [Act.put, List.getElem_toArray, List.getElem_cons_zero, List.getElem_cons_succ, List.setIfInBounds_toArray, List.set_cons_zero, List.set_cons_succ]
     refine tq 15 ?_
     refine tq 16 ?_
     refine tq 17 ?_
     refine tq0 18 ?_
     refine tq0 19 ?_
     refine tq0 20 ?_
     refine tq0 21 ?_
     refine tq0 22 ?_
     refine tq0 23 ?_
     refine tq0 24 ?_
     refine tq 25 ?_
     refine wpAnyH_done (by kernel_rfl) ?_ _
     go_wp2_with fail
     go_ret
     exact ⟨by rw [Hf.out]; rfl, below_step BB.out.size BB.out TB.out⟩
   ·have T : Hid (TkS w.heap.size (w.heap.size + 1) wr.heap.size (0 * 4 + 0) node a4 n4 c4 q1 q2 q3 (seenB l k 0 0) L a wc.drew) := Lib.hid (TkS.below ⟨⟨hAc.f4, hAc.f5, y0, y1, y2, hSc.cells 0 0 (by omega) (by omega)⟩, hAc.ln⟩ (below_drewN (Below.refl _ wc) 1))
    have Hg := Lib.hid hg
    have Hf := Lib.hid (Bad.out _ (fun h => h.1) hg)
    clear hno hbr hsn hA2 ht hbc hAc hSc y0 y1 y2 hg
    go_wp2_with fail
    rw [← hwc]
    clear hwc
    refine wp_region_held_drew (S := (fun w' => w'.cell? ⟨w.heap.size, 4, none⟩ = some (.int .i64 node) ∧ w'.cell? ⟨w.heap.size, 5, none⟩ = some (.slice a4 n4 c4) ∧ w'.cell? ⟨wr.heap.size, 0, none⟩ = some (.int .i64 q1) ∧ w'.cell? ⟨wr.heap.size, 1, none⟩ = some (.int .i64 q2) ∧ w'.cell? ⟨wr.heap.size, 2, none⟩ = some (.int .i64 q3) ∧ w'.cell? ⟨w.heap.size + 1, (0 * 4 + 0), none⟩ = some (.bool (seenB l k 0 0)))) (by kernel_rfl) ?_ (fun hHeld => ?_)
    ·exact T.out.s
    refine tq 0 ?_
    refine tq 1 ?_
    refine tq 2 ?_
    refine tq 3 ?_
    refine tq 4 ?_
    refine tq 5 ?_
    refine tq 6 ?_
    refine rd 7 fun K hK => ?_
    go_simp
    refine (goes_no a L q1 node q2 _ T.out.ln Hn.out Hg.out).mono ?_
    rintro e wn ⟨rfl, hbn⟩
    have T := Lib.hid (T.out.below hbn)
    have TB := Lib.hid (below_step (by exact TS.out) TB.out hbn)
    have TS := Lib.hid (Nat.le_trans TS.out hbn.size)
    clear hbn
    go_wp2_with fail
    refine hK.out _ _ ?_ (fun hHeld => ?_)
    ·exact T.out.s
    clear hK K
    try simp only [Act.put, List.getElem_toArray, List.getElem_cons_zero, List.getElem_cons_succ, List.setIfInBounds_toArray, List.set_cons_zero, List.set_cons_succ]
    refine tq 8 ?_
    refine tq 9 ?_
    refine tq0 10 ?_
    refine tq0 11 ?_
    refine tq0 12 ?_
    refine tq0 13 ?_
    refine tq0 14 ?_
    refine tq0 15 ?_
    refine tq 16 ?_
    refine tq 17 ?_
    refine tq0 18 ?_
    refine tq0 19 ?_
    refine tq0 20 ?_
    refine tq0 21 ?_
    refine tq0 22 ?_
    refine tq0 23 ?_
    refine tq0 24 ?_
    refine tq 25 ?_
    refine wpAnyH_done (by kernel_rfl) ?_ _
    go_wp2_with fail
    go_ret
    exact ⟨by rw [Hf.out]; rfl, below_step BB.out.size BB.out TB.out⟩
  ·have hlt' : ¬ (k : Int) < ln := by omega
   have hf : r = true := bool_yes Hr.out (fun j x hx => Hs.out j x (by have := lt_of_some hx; rw [← Ln.out] at this; omega) hx)
   have Hf := Lib.hid hf
   clear hf hno hbr hsn hA2
   go_wp2_with fail
   go_ret
   exact ⟨by rw [Hf.out]; rfl, BB.out⟩
end Go.Proofs.Ytiblcpkejhiehaa

namespace Go.Proofs.Ytiblcpkejhiehaa
open Go.RowKit Go.PlainAid
def stOf (all : List St) (s : Int) : St := all.getD s.toNat St.zero
def StaysOK (all : List St) (s : St) : Prop := ∀ (i : Nat) (t : Tk), s.takes[i]? = some t → ∀ (j : Nat) (x : Int), s.waits[j]? = some x → x ≠ t.src → x ∈ (stOf all t.next).waits
structure SbAt (w : World) (b : Nat) (a1 : Option Addr) (c1 : Nat) (ws : List Int) (a3 : Option Addr) (c3 : Nat) (l : List Tk) (a4 : Option Addr) (c4 : Nat) (all : List St) : Prop where
 f1 : w.cell? ⟨b, 1, none⟩ = some (.slice a1 ws.length c1)
 f5 : w.cell? ⟨b, 5, none⟩ = some (.slice a4 all.length c4)
 hw : Has w (.slice a1 ws.length c1) (dInts ws)
 ht : Has w (.slice a3 l.length c3) (dTakes l)
 hs : Has w (.slice a4 all.length c4) (dStates all)
theorem SbAt.below {w w' : World} {b : Nat} {a1 : Option Addr} {c1 : Nat} {ws : List Int} {a3 : Option Addr} {c3 : Nat} {l : List Tk} {a4 : Option Addr} {c4 : Nat} {all : List St} (h : SbAt w b a1 c1 ws a3 c3 l a4 c4 all) (hb : Below w.heap.size w w') : SbAt w' b a1 c1 ws a3 c3 l a4 c4 all := by
 have := World.block_lt_of_cell? w _ h.f1
 exact ⟨(hb.cell (by exact this)).trans h.f1, (hb.cell (by exact this)).trans h.f5, h.hw.later hb, h.ht.later hb, h.hs.later hb⟩
theorem int_cells {w : World} {v : Value} {l : List Int} {i : Nat} {x : Int} (h : Has w v (dInts l)) (hx : l[i]? = some x) :
  ∃ b off cap, v = .slice (some ⟨b, off, none⟩) l.length cap ∧ b < w.heap.size ∧ w.cell? ⟨b, off + i, none⟩ = some (.int .i64 x) := by
 obtain ⟨b, off, cap, rfl, h1, h2, cs, h3, h4⟩ := cells_of (f := fun a : Int => [dI a]) h hx
 obtain ⟨c, r, rfl, g1, g⟩ := h3.cons
 obtain rfl := Holds.val g1
 have := h4 0 _ rfl
 rw [Nat.mul_one, Nat.add_zero] at this
 exact ⟨b, off, cap, rfl, h1, this⟩
set_option maxHeartbeats 8000000 in
set_option maxRecDepth 100000 in
theorem staysOK_loop (m node : Int) (a1 : Option Addr) (c1 : Nat) (ws : List Int) (v2 : Value) (a3 : Option Addr) (c3 : Nat) (l : List Tk) (a4 : Option Addr) (c4 : Nat) (all : List St) (r : Bool) (w : World) (hl6 : l.length ≤ 1000000) (hw6 : ws.length ≤ 1000000)
  (hw : Has w (.slice a1 ws.length c1) (dInts ws)) (ht : Has w (.slice a3 l.length c3) (dTakes l)) (hs : Has w (.slice a4 all.length c4) (dStates all)) (hall : ∀ s ∈ all, s.waits.length ≤ 1000000) (hnx : ∀ t ∈ l, HasS all t.next)
  (hr : r = true ↔ ∀ (i : Nat) (t : Tk), l[i]? = some t → ∀ (j : Nat) (x : Int), ws[j]? = some x → x ≠ t.src → x ∈ (stOf all t.next).waits) :
  Calls Try.prog 77 #[.agg #[.int .i64 m, .slice a1 ws.length c1, v2, .slice a3 l.length c3, .int .i64 node, .slice a4 all.length c4]] w fun e w' => e = .returned (.bool r) ∧ Below w.heap.size w w' := by
 obtain ⟨ln, hln⟩ : ∃ ln, ln = l.length := ⟨_, rfl⟩
 obtain ⟨n4, hn4⟩ : ∃ n4, n4 = all.length := ⟨_, rfl⟩
 obtain ⟨n1, hn1⟩ : ∃ n1, n1 = ws.length := ⟨_, rfl⟩
 obtain ⟨w1, hw1⟩ : ∃ w1, w1 = w.alloc (.cells #[.int .i64 m, .slice a1 n1 c1, v2, .slice a3 ln c3, .int .i64 node, .slice a4 n4 c4] 148) := ⟨_, rfl⟩
 have g : Below w.heap.size w w1 := by rw [hw1]; exact below_new _ _
 have hA : SbAt w1 w.heap.size a1 c1 ws a3 c3 l a4 c4 all := ⟨by rw [hw1, hn1]; exact World.cell?_alloc_at _ _ _ _ rfl, by rw [hw1, hn4]; exact World.cell?_alloc_at _ _ _ _ rfl, hw.later g, ht.later g, hs.later g⟩
 have d3 : w1.cell? ⟨w.heap.size, 3, none⟩ = some (.slice a3 ln c3) := by rw [hw1]; exact World.cell?_alloc_at _ _ _ _ rfl
 have A := Lib.hid hA
 have G := Lib.hid g
 have Hr := Lib.hid hr
 have Hall := Lib.hid hall
 have Hnx := Lib.hid hnx
 rw [← hln] at hl6 ⊢
 rw [← hn1] at hw6 ⊢
 rw [← hn4]
 have Ln := Lib.hid hln
 have N4 := Lib.hid hn4
 have N1 := Lib.hid hn1
 clear hw ht hs hall hnx hr hA g hln hn4 hn1
 go_enter Try.func77, Try.ntmps77
 go_wp2_with fail
 rw [← hw1]
 clear hw1
 go_loopw [11] (fun i wr => ∃ k : Nat, i = .int .i64 k ∧ k ≤ ln ∧ (∀ i t, i < k → l[i]? = some t → ∀ (j : Nat) (x : Int), ws[j]? = some x → x ≠ t.src → x ∈ (stOf all t.next).waits) ∧ Below w1.heap.size w1 wr) (fun i _ => ln - (intOf i).toNat)
 case atStart => exact ⟨0, rfl, by omega, fun j x hj => by omega, Below.refl _ _⟩
 case round =>
  obtain ⟨k, rfl, hk, hno, hbr⟩ := hrel
  have Hs := Lib.hid hno
  have R := Lib.hid hbr
  have hA2 := A.out.below hbr
  have A2 := Lib.hid hA2
  have BB := Lib.hid (below_step G.out.size G.out hbr)
  have q1 := cell_more hA2.f1
  rw [← N1.out] at q1
  clear hno hbr
  by_cases hlt : k < ln
  ·have hlt' : (k : Int) < ln := by omega
   obtain ⟨t, ht⟩ := some_of_lt (l := l) (i := k) (by rw [← Ln.out]; exact hlt)
   obtain ⟨b, off, cap, e, hb, _, x0, x1, x2⟩ := tk_cells hA2.ht ht
   simp only [Value.slice.injEq] at e
   obtain ⟨e, _, e2⟩ := e
   subst e e2
   have Ht := Lib.hid ht
   have hnext := Hnx.out t (List.mem_of_getElem? ht)
   obtain ⟨t1, t2, t3⟩ := t
   simp only at x0 x1 x2 hnext
   obtain ⟨nx, hnx⟩ := Int.eq_ofNat_of_zero_le hnext.1
   subst hnx
   have hnl : nx < n4 := by rw [N4.out]; exact Int.ofNat_lt.1 hnext.2
   have hnl' : (nx : Int) < n4 := by omega
   obtain ⟨sx, hsx⟩ := some_of_lt (l := all) (i := nx) (by rw [← N4.out]; exact hnl)
   obtain ⟨wx, hwx⟩ : ∃ wx, wx = wr.alloc (.cells #[.int .i64 t1, .int .i64 t2, .int .i64 nx] 130) := ⟨_, rfl⟩
   have hbx : Below wr.heap.size wr wx := by rw [hwx]; exact below_new _ _
   have z0 : wx.cell? ⟨wr.heap.size, 0, none⟩ = some (.int .i64 t1) := by rw [hwx]; exact World.cell?_alloc_at _ _ _ _ rfl
   have z2 : wx.cell? ⟨wr.heap.size, 2, none⟩ = some (.int .i64 nx) := by rw [hwx]; exact World.cell?_alloc_at _ _ _ _ rfl
   have hSx : stOf all nx = sx := by unfold stOf; simp [List.getD, hsx]
   have hwsx := Hall.out sx (List.mem_of_getElem? hsx)
   have HSx := Lib.hid hSx
   have Hsx := Lib.hid hsx
   have Hwsx := Lib.hid hwsx
   have A3 := Lib.hid (hA2.below hbx)
   have R3 := Lib.hid (below_step R.out.size R.out hbx)
   have u1 := (hbx.cell (World.block_lt_of_cell? wr _ hA2.f1)).trans hA2.f1
   rw [← N1.out] at u1
   clear ht hnext hsx hbx hSx hwsx hA2
   go_wp2_with fail
   try rw [← hwx]
   clear hwx q1
   try go_wp2_with fail
   go_loopw [19] (fun i wq => ∃ k2 : Nat, i = .int .i64 k2 ∧ k2 ≤ n1 ∧ (∀ j x, j < k2 → ws[j]? = some x → x ≠ t1 → x ∈ sx.waits) ∧ Below wx.heap.size wx wq) (fun i _ => n1 - (intOf i).toNat)
   case atStart => exact ⟨0, rfl, by omega, fun j x hj => by omega, Below.refl _ _⟩
   case round =>
    obtain ⟨k2, rfl, hk2, hno2, hbr2⟩ := hrel
    have Hs2 := Lib.hid hno2
    have T := Lib.hid hbr2
    have hA4 := A3.out.below hbr2
    have BT := Lib.hid (below_step R3.out.size R3.out hbr2)
    have v0 := (hbr2.cell (World.block_lt_of_cell? wx _ z0)).trans z0
    have v2' := (hbr2.cell (World.block_lt_of_cell? wx _ z2)).trans z2
    have v5 := hA4.f5
    rw [← N4.out] at v5
    by_cases hlt2 : k2 < n1
    ·have hlt2' : (k2 : Int) < n1 := by omega
     obtain ⟨x, hx⟩ := some_of_lt (l := ws) (i := k2) (by rw [← N1.out]; exact hlt2)
     obtain ⟨b2, off2, cap2, e, hb2, y0⟩ := int_cells hA4.hw hx
     simp only [Value.slice.injEq] at e
     obtain ⟨e, _, e2⟩ := e
     subst e e2
     obtain ⟨b3, off3, cap3, p1, p2, p3, e, hb3, _, _, g1, _, _, gw, _⟩ := st_cells hA4.hs Hsx.out
     simp only [Value.slice.injEq] at e
     obtain ⟨e, _, e2⟩ := e
     subst e e2
     obtain ⟨sa, sc, rfl⟩ := slice_of gw
     obtain ⟨sn, hsn⟩ : ∃ sn, sn = sx.waits.length := ⟨_, rfl⟩
     rw [← hsn] at g1
     have Sn := Lib.hid hsn
     have Gw := Lib.hid (Has.ints gw)
     have Hx := Lib.hid hx
     clear gw hsn hx hno2 hbr2 hA4
     by_cases hxt : x = t1
     ·have hb1 : (x == t1) = true := by simpa using hxt
      have Hxt := Lib.hid hxt
      clear hxt
      go_wp2_with fail
      go_roundw
      case rel =>
       refine ⟨k2 + 1, by go_num, by omega, fun j y hj hy hne => ?_, T.out⟩
       by_cases hjk : j < k2
       ·exact Hs2.out j y hjk hy hne
       ·obtain rfl : j = k2 := by omega
        rw [Hx.out] at hy
        cases hy
        exact absurd Hxt.out hne
      case measure => simp [intOf]; omega
     ·have hb1 : (x == t1) = false := by simpa using hxt
      have Hxt := Lib.hid hxt
      clear hxt
      by_cases hin : x ∈ sx.waits
      ·have hd : decide (x ∈ sx.waits) = true := by simpa using hin
       have Hd := Lib.hid hd
       have Hin := Lib.hid hin
       clear hin hd
       go_wp2_with fail
       refine (contains_any _ sx.waits x _ (by rw [Sn.out]; exact Gw.out) Hwsx.out).mono ?_
       rw [Hd.out]
       rintro e w3 ⟨rfl, hb3'⟩
       have B3 := Lib.hid (show Below wx.heap.size wx w3 by rw [← hb3']; exact T.out)
       clear hb3'
       go_wp2_with fail
       go_roundw
       case rel =>
        refine ⟨k2 + 1, by go_num, by omega, fun j y hj hy hne => ?_, B3.out⟩
        by_cases hjk : j < k2
        ·exact Hs2.out j y hjk hy hne
        ·obtain rfl : j = k2 := by omega
         rw [Hx.out] at hy
         cases hy
         exact Hin.out
       case measure => simp [intOf]; omega
      ·have hd : decide (x ∈ sx.waits) = false := by simpa using hin
       have Hd := Lib.hid hd
       have hf := bool_no Hr.out (fun h => hin (by have := h k _ Ht.out k2 x Hx.out Hxt.out; rw [HSx.out] at this; exact this))
       have Hf := Lib.hid hf
       clear hin hd hf
       go_wp2_with fail
       refine (contains_any _ sx.waits x _ (by rw [Sn.out]; exact Gw.out) Hwsx.out).mono ?_
       rw [Hd.out]
       rintro e w3 ⟨rfl, hb3'⟩
       have B3 := Lib.hid (show Below wx.heap.size wx w3 by rw [← hb3']; exact T.out)
       clear hb3'
       go_wp2_with fail
       go_ret
       exact ⟨by rw [Hf.out]; rfl, below_step G.out.size G.out (below_step R3.out.size R3.out B3.out)⟩
    ·have hlt2' : ¬ (k2 : Int) < n1 := by omega
     clear hno2 hbr2 hA4
     go_wp2_with fail
     go_roundw
     case rel =>
      refine ⟨k + 1, by go_num, by omega, fun j y hj hy i x hx hne => ?_, BT.out⟩
      by_cases hjk : j < k
      ·exact Hs.out j y hjk hy i x hx hne
      ·obtain rfl : j = k := by omega
       rw [Ht.out] at hy
       cases hy
       rw [HSx.out]
       exact Hs2.out i x (by have := lt_of_some hx; rw [← N1.out] at this; omega) hx hne
     case measure => simp [intOf]; omega
  ·have hlt' : ¬ (k : Int) < ln := by omega
   have hf : r = true := bool_yes Hr.out (fun j x hx => Hs.out j x (by have := lt_of_some hx; rw [← Ln.out] at this; omega) hx)
   have Hf := Lib.hid hf
   clear hf hA2
   go_wp2_with fail
   go_ret
   exact ⟨by rw [Hf.out]; rfl, BB.out⟩
end Go.Proofs.Ytiblcpkejhiehaa

namespace Go.Proofs.Ytiblcpkejhiehaa
open Go.RowKit Go.PlainAid
theorem picksOK_short (m : Int) (v1 v3 : Value) (a2 : Option Addr) (n c2 : Nat) (node : Int) (v4 : Value) (a : Nat) (r : Bool) (w : World) (h : 4 < n ∨ n = 0 ∨ m ≠ 1) (hn : n ≤ 1000000) (hr : r = true ↔ n = 0) :
  Calls Try.prog 74 #[.agg #[.int .i64 m, v1, .slice a2 n c2, v3, .int .i64 node, v4], fnGoes a] w fun e w' => e = .returned (.bool r) ∧ Below w.heap.size w w' := by
 unfold fnGoes
 by_cases h0 : n = 0
 ·subst h0
  obtain rfl := bool_yes hr rfl
  clear hr h
  go_enter Try.func74, Try.ntmps74
  try simp only [List.append_eq, List.cons_append, List.nil_append]
  go_wp2_with fail
  refine wp_loop_rounds 1 ?_
  rw [rounds_succ]
  go_wp2_with fail
  go_ret
  exact ⟨rfl, by go_grown⟩
 ·obtain rfl := bool_no hr h0
  by_cases h4 : 4 < n
  ·have h4' : (4 : Int) < n := by omega
   have h4'' : decide ((4 : Int) < n) = true := by simp; omega
   clear hr h h0
   go_enter Try.func74, Try.ntmps74
   try simp only [List.append_eq, List.cons_append, List.nil_append]
   go_wp2_with fail
   go_ret
   exact ⟨rfl, by go_grown⟩
  ·have h4' : ¬ (4 : Int) < n := by omega
   have h4'' : decide ((4 : Int) < n) = false := by simp; omega
   have hm : m ≠ 1 := by omega
   have hm1 : (m == 1) = false := by simpa using hm
   have h1 : (0 : Int) < n := by omega
   have h2 : decide ((0 : Int) < n) = true := by simp; omega
   clear hr h h0 hm
   go_enter Try.func74, Try.ntmps74
   try simp only [List.append_eq, List.cons_append, List.nil_append]
   go_wp2_with fail
   go_ret
   exact ⟨rfl, by go_grown⟩
theorem picksOK_at (L : Lks) (p : Pl) (v : Value) (a : Nat) (r : Bool) (w : World) (h : IsPl w p v) (hl : GoesAt w a L) (hn : L.length ≤ 1000000) (hxn : p.st.picks.length ≤ 1000000) (hr : r = true ↔ PicksOK L p.node p.all p.st) :
  Calls Try.prog 74 #[v, fnGoes a] w fun e w' => e = .returned (.bool r) ∧ Below w.heap.size w w' := by
 obtain ⟨a1, c1, a2, c2, a3, c3, a4, c4, rfl, _, h2, _, _⟩ := isPl_open h
 by_cases hs : 4 < p.st.picks.length ∨ p.st.picks.length = 0 ∨ p.st.mode ≠ 1
 ·refine picksOK_short _ _ _ _ _ _ _ _ _ _ _ hs hxn (hr.trans ⟨fun g => ?_, fun g => ⟨by omega, by omega, fun i q hq => ?_⟩⟩)
  ·by_cases h0 : p.st.picks.length = 0
   ·exact h0
   ·have := g.1
    have := g.2.1 (by omega)
    omega
  ·have := lt_of_some hq; omega
 ·exact picksOK_loop L p.node p.st.mode a2 c2 p.st.picks p.all a4 c4 _ _ a r w (by omega) (by omega) (by omega) h2 hl hn (hr.trans ⟨fun g => g.2.2, fun g => ⟨by omega, fun _ => by omega, g⟩⟩)
theorem takesOK_at (L : Lks) (p : Pl) (v : Value) (a : Nat) (r : Bool) (w : World) (h : IsPl w p v) (hl : GoesAt w a L) (hn : L.length ≤ 1000000) (hlow : Low L) (hxn : p.st.takes.length ≤ 1000000) (hr : r = true ↔ TakesOK L p.node p.all p.st.takes) :
  Calls Try.prog 76 #[v, fnGoes a] w fun e w' => e = .returned (.bool r) ∧ Below w.heap.size w w' := by
 obtain ⟨a1, c1, a2, c2, a3, c3, a4, c4, rfl, _, _, h3, _⟩ := isPl_open h
 exact takesOK_loop L p.node p.st.mode a3 c3 p.st.takes p.all a4 c4 _ _ a r w hxn h3 hl hn hlow hr
theorem staysOK_at (p : Pl) (v : Value) (r : Bool) (w : World) (h : IsPl w p v) (hw6 : p.st.waits.length ≤ 1000000) (hxn : p.st.takes.length ≤ 1000000) (hall : ∀ s ∈ p.all, s.waits.length ≤ 1000000) (hnx : ∀ t ∈ p.st.takes, HasS p.all t.next) (hr : r = true ↔ StaysOK p.all p.st) :
  Calls Try.prog 77 #[v] w fun e w' => e = .returned (.bool r) ∧ Below w.heap.size w w' := by
 obtain ⟨a1, c1, a2, c2, a3, c3, a4, c4, rfl, h1, _, h3, h4⟩ := isPl_open h
 exact staysOK_loop _ _ a1 c1 p.st.waits _ a3 c3 p.st.takes a4 c4 p.all r w hxn hw6 h1 h3 h4 hall hnx hr
/-- The variables that the closures have captured. -/
structure DemAt (w : World) (b c : Nat) (L : Lks) : Prop where
 g : GoesAt w b L
 fc : w.cell? ⟨c, 0, none⟩ = some (fnGoes b)
theorem DemAt.below {w w' : World} {b c : Nat} {L : Lks} (h : DemAt w b c L) (hb : Below w.heap.size w w') : DemAt w' b c L :=
 ⟨h.g.below hb, (hb.cell (World.block_lt_of_cell? w _ h.fc)).trans h.fc⟩
theorem waitsC_at (L : Lks) (p : Pl) (v : Value) (b c : Nat) (r : Bool) (w : World) (h : IsPl w p v) (hd : DemAt w b c L) (hn : L.length ≤ 1000000) (hxn : p.st.waits.length ≤ 1000000) (hr : r = true ↔ WaitsOK L p.node p.st) :
  Calls Try.prog 71 #[v, .pointer (some ⟨b, 0, none⟩)] w fun e w' => e = .returned (.bool r) ∧ Below w.heap.size w w' := by
 obtain ⟨a, h1, hl⟩ := hd.g.ex
 have H := Lib.hid h
 have H1 := Lib.hid hl
 have Hr := Lib.hid hr
 have h2 := cell_more h1
 unfold fnLinked at h2
 obtain ⟨a1, c1, a2, c2, a3, c3, a4, c4, rfl, _⟩ := isPl_open h
 clear h hl hr h1 hd
 go_enter Try.func71, Try.ntmps71
 go_wp2_with fail
 refine (waitsOK_at L p _ a r _ (H.out.later (below_new _ _)) (H1.out.below (below_new _ _)) hn hxn Hr.out).mono ?_
 rintro e w' ⟨rfl, hb⟩
 have B := Lib.hid ((below_new w _).trans (hb.mono (by simp)))
 clear hb
 go_wp2_with fail
 go_ret
 exact ⟨rfl, B.out⟩
theorem picksC_at (L : Lks) (p : Pl) (v : Value) (b c : Nat) (r : Bool) (w : World) (h : IsPl w p v) (hd : DemAt w b c L) (hn : L.length ≤ 1000000) (hxn : p.st.picks.length ≤ 1000000) (hr : r = true ↔ PicksOK L p.node p.all p.st) :
  Calls Try.prog 73 #[v, .pointer (some ⟨c, 0, none⟩)] w fun e w' => e = .returned (.bool r) ∧ Below w.heap.size w w' := by
 have H := Lib.hid h
 have H1 := Lib.hid hd.g
 have Hr := Lib.hid hr
 have h2 := cell_more hd.fc
 unfold fnGoes at h2
 obtain ⟨a1, c1, a2, c2, a3, c3, a4, c4, rfl, _⟩ := isPl_open h
 clear h hr hd
 go_enter Try.func73, Try.ntmps73
 go_wp2_with fail
 refine (picksOK_at L p _ b r _ (H.out.later (below_new _ _)) (H1.out.below (below_new _ _)) hn hxn Hr.out).mono ?_
 rintro e w' ⟨rfl, hb⟩
 have B := Lib.hid ((below_new w _).trans (hb.mono (by simp)))
 clear hb
 go_wp2_with fail
 go_ret
 exact ⟨rfl, B.out⟩
theorem takesC_at (L : Lks) (p : Pl) (v : Value) (b c : Nat) (r : Bool) (w : World) (h : IsPl w p v) (hd : DemAt w b c L) (hn : L.length ≤ 1000000) (hlow : Low L) (hxn : p.st.takes.length ≤ 1000000) (hr : r = true ↔ TakesOK L p.node p.all p.st.takes) :
  Calls Try.prog 75 #[v, .pointer (some ⟨c, 0, none⟩)] w fun e w' => e = .returned (.bool r) ∧ Below w.heap.size w w' := by
 have H := Lib.hid h
 have H1 := Lib.hid hd.g
 have Hr := Lib.hid hr
 have Hlow := Lib.hid hlow
 have h2 := cell_more hd.fc
 unfold fnGoes at h2
 obtain ⟨a1, c1, a2, c2, a3, c3, a4, c4, rfl, _⟩ := isPl_open h
 clear h hr hd hlow
 go_enter Try.func75, Try.ntmps75
 go_wp2_with fail
 refine (takesOK_at L p _ b r _ (H.out.later (below_new _ _)) (H1.out.below (below_new _ _)) hn Hlow.out hxn Hr.out).mono ?_
 rintro e w' ⟨rfl, hb⟩
 have B := Lib.hid ((below_new w _).trans (hb.mono (by simp)))
 clear hb
 go_wp2_with fail
 go_ret
 exact ⟨rfl, B.out⟩
end Go.Proofs.Ytiblcpkejhiehaa

namespace Go.Proofs.Ytiblcpkejhiehaa
open Go.RowKit Go.PlainAid
def PlaceOK (L : Lks) (p : Pl) : Prop := (0 ≤ p.st.mode ∧ p.st.mode ≤ 2) ∧ WaitsOK L p.node p.st ∧ PicksOK L p.node p.all p.st ∧ TakesOK L p.node p.all p.st.takes
/-- Lists that are not long. -/
def SmallSt (s : St) : Prop := s.waits.length ≤ 1000000 ∧ s.picks.length ≤ 1000000 ∧ s.takes.length ≤ 1000000 ∧ ∀ p ∈ s.picks, p.sends.length ≤ 1000000
def SmallPl (p : Pl) : Prop := SmallSt p.st ∧ ∀ s ∈ p.all, SmallSt s
def dem (b c : Nat) : Value := .agg #[.func (.func 70) #[] #[], .func (.func 71) #[] #[.pointer (some ⟨b, 0, none⟩)], .func (.func 73) #[] #[.pointer (some ⟨c, 0, none⟩)], .func (.func 75) #[] #[.pointer (some ⟨c, 0, none⟩)], .func (.func 77) #[] #[]]
structure MetAt (w : World) (x b c : Nat) (L : Lks) (a1 : Option Addr) (c1 : Nat) (ps : List Pl) : Prop where
 d0 : w.cell? ⟨x, 0, none⟩ = some (.func (.func 70) #[] #[])
 d1 : w.cell? ⟨x, 1, none⟩ = some (.func (.func 71) #[] #[.pointer (some ⟨b, 0, none⟩)])
 d2 : w.cell? ⟨x, 2, none⟩ = some (.func (.func 73) #[] #[.pointer (some ⟨c, 0, none⟩)])
 d3 : w.cell? ⟨x, 3, none⟩ = some (.func (.func 75) #[] #[.pointer (some ⟨c, 0, none⟩)])
 d4 : w.cell? ⟨x, 4, none⟩ = some (.func (.func 77) #[] #[])
 dm : DemAt w b c L
 rows : Has w (.slice a1 ps.length c1) (dPls ps)
theorem MetAt.below {w w' : World} {x b c : Nat} {L : Lks} {a1 : Option Addr} {c1 : Nat} {ps : List Pl} (h : MetAt w x b c L a1 c1 ps) (hb : Below w.heap.size w w') : MetAt w' x b c L a1 c1 ps := by
 have k := fun (p : Addr) (v : Value) (e : w.cell? p = some v) => (hb.cell (World.block_lt_of_cell? w _ e)).trans e
 exact ⟨k _ _ h.d0, k _ _ h.d1, k _ _ h.d2, k _ _ h.d3, k _ _ h.d4, h.dm.below hb, h.rows.later hb⟩
/-- A place's box. -/
structure PBox (w : World) (x : Nat) (v0 v1 v2 v3 v4 v5 : Value) : Prop where
 y0 : w.cell? ⟨x, 0, none⟩ = some v0
 y1 : w.cell? ⟨x, 1, none⟩ = some v1
 y2 : w.cell? ⟨x, 2, none⟩ = some v2
 y3 : w.cell? ⟨x, 3, none⟩ = some v3
 y4 : w.cell? ⟨x, 4, none⟩ = some v4
 y5 : w.cell? ⟨x, 5, none⟩ = some v5
theorem PBox.below {w w' : World} {x : Nat} {v0 v1 v2 v3 v4 v5 : Value} (h : PBox w x v0 v1 v2 v3 v4 v5) (hb : Below w.heap.size w w') : PBox w' x v0 v1 v2 v3 v4 v5 := by
 have k := fun (p : Addr) (v : Value) (e : w.cell? p = some v) => (hb.cell (World.block_lt_of_cell? w _ e)).trans e
 exact ⟨k _ _ h.y0, k _ _ h.y1, k _ _ h.y2, k _ _ h.y3, k _ _ h.y4, k _ _ h.y5⟩
theorem PBox.new (w : World) (v0 v1 v2 v3 v4 v5 : Value) (T : TypeId) : PBox (w.alloc (.cells #[v0, v1, v2, v3, v4, v5] T)) w.heap.size v0 v1 v2 v3 v4 v5 :=
 ⟨World.cell?_alloc_at _ _ _ _ rfl, World.cell?_alloc_at _ _ _ _ rfl, World.cell?_alloc_at _ _ _ _ rfl, World.cell?_alloc_at _ _ _ _ rfl, World.cell?_alloc_at _ _ _ _ rfl, World.cell?_alloc_at _ _ _ _ rfl⟩
theorem pl_cells {w : World} {v : Value} {l : List Pl} {i : Nat} {p : Pl} (h : Has w v (dPls l)) (hx : l[i]? = some p) :
  ∃ b off cap a1 c1 a2 c2 a3 c3 a4 c4, v = .slice (some ⟨b, off, none⟩) l.length cap ∧ b < w.heap.size ∧ w.cell? ⟨b, off + i * 6, none⟩ = some (.int .i64 p.st.mode) ∧ w.cell? ⟨b, off + i * 6 + 1, none⟩ = some (.slice a1 p.st.waits.length c1) ∧ w.cell? ⟨b, off + i * 6 + 2, none⟩ = some (.slice a2 p.st.picks.length c2) ∧
   w.cell? ⟨b, off + i * 6 + 3, none⟩ = some (.slice a3 p.st.takes.length c3) ∧ w.cell? ⟨b, off + i * 6 + 4, none⟩ = some (.int .i64 p.node) ∧ w.cell? ⟨b, off + i * 6 + 5, none⟩ = some (.slice a4 p.all.length c4) ∧
   IsPl w p (.agg #[.int .i64 p.st.mode, .slice a1 p.st.waits.length c1, .slice a2 p.st.picks.length c2, .slice a3 p.st.takes.length c3, .int .i64 p.node, .slice a4 p.all.length c4]) := by
 obtain ⟨b, off, cap, rfl, h1, h2, cs, h3, h4⟩ := cells_of h hx
 obtain ⟨v1, v2, v3, v4, rfl, h5, h6, h7, h8⟩ := hasL_pl h3
 obtain ⟨a1, c1, rfl⟩ := slice_of h5
 obtain ⟨a2, c2, rfl⟩ := slice_of h6
 obtain ⟨a3, c3, rfl⟩ := slice_of h7
 obtain ⟨a4, c4, rfl⟩ := slice_of h8
 exact ⟨b, off, cap, _, _, _, _, _, _, _, _, rfl, h1, h4 0 _ rfl, h4 1 _ rfl, h4 2 _ rfl, h4 3 _ rfl, h4 4 _ rfl, h4 5 _ rfl, ⟨_, rfl, h3⟩⟩
set_option maxHeartbeats 8000000 in
set_option maxRecDepth 100000 in
theorem met_at (b c : Nat) (L : Lks) (v : Value) (ps : List Pl) (r : Bool) (w : World) (hd : DemAt w b c L) (hps : Has w v (dPls ps)) (hn : L.length ≤ 1000000) (hlow : Low L) (hp6 : ps.length ≤ 1000000) (hsm : ∀ p ∈ ps, SmallPl p)
  (hr : r = true ↔ (∀ p ∈ ps, PlaceOK L p) ∧ ∀ p ∈ ps, StaysOK p.all p.st) :
  Calls Try.prog 49 #[dem b c, v] w fun e w' => e = .returned (.bool r) ∧ Below w.heap.size w w' := by
 unfold dem
 obtain ⟨a1, c1, rfl⟩ := slice_of hps
 obtain ⟨ln, hln⟩ : ∃ ln, ln = ps.length := ⟨_, rfl⟩
 obtain ⟨w1, hw1⟩ : ∃ w1, w1 = w.alloc (.cells #[.func (.func 70) #[] #[], .func (.func 71) #[] #[.pointer (some ⟨b, 0, none⟩)], .func (.func 73) #[] #[.pointer (some ⟨c, 0, none⟩)], .func (.func 75) #[] #[.pointer (some ⟨c, 0, none⟩)], .func (.func 77) #[] #[]] 117) := ⟨_, rfl⟩
 have g : Below w.heap.size w w1 := by rw [hw1]; exact below_new _ _
 have hA : MetAt w1 w.heap.size b c L a1 c1 ps := by
  refine ⟨?_, ?_, ?_, ?_, ?_, hd.below g, hps.later g⟩ <;> (rw [hw1]; exact World.cell?_alloc_at _ _ _ _ rfl)
 have A := Lib.hid hA
 have G := Lib.hid g
 have Hr := Lib.hid hr
 have Hsm := Lib.hid hsm
 have Hn := Lib.hid hn
 have Hlow := Lib.hid hlow
 rw [← hln] at hp6 ⊢
 have Ln := Lib.hid hln
 clear hd hps hr hsm hn hlow hA g hln
 go_enter Try.func49, Try.ntmps49
 go_wp2_with fail
 rw [← hw1]
 clear hw1
 go_loopw [11] (fun i wr => ∃ k : Nat, i = .int .i64 k ∧ k ≤ ln ∧ (∀ i p, i < k → ps[i]? = some p → PlaceOK L p) ∧ Below w1.heap.size w1 wr) (fun i _ => ln - (intOf i).toNat)
 case atStart => exact ⟨0, rfl, by omega, fun j x hj => by omega, Below.refl _ _⟩
 case round =>
  obtain ⟨k, rfl, hk, hno, hbr⟩ := hrel
  have Hs := Lib.hid hno
  have R := Lib.hid hbr
  have hA2 := A.out.below hbr
  have BB := Lib.hid (below_step G.out.size G.out hbr)
  clear hno hbr
  by_cases hlt : k < ln
  ·have hlt' : (k : Int) < ln := by omega
   obtain ⟨p, hp⟩ := some_of_lt (l := ps) (i := k) (by rw [← Ln.out]; exact hlt)
   obtain ⟨bb, off, cap, b1, e1, b2, e2, b3, e3, b4, e4, e, hb, x0, x1, x2, x3, x4, x5, hI⟩ := pl_cells hA2.rows hp
   simp only [Value.slice.injEq] at e
   obtain ⟨e, _, e'⟩ := e
   subst e e'
   obtain ⟨n1, hn1⟩ : ∃ n1, n1 = p.st.waits.length := ⟨_, rfl⟩
   obtain ⟨n2, hn2⟩ : ∃ n2, n2 = p.st.picks.length := ⟨_, rfl⟩
   obtain ⟨n3, hn3⟩ : ∃ n3, n3 = p.st.takes.length := ⟨_, rfl⟩
   obtain ⟨n4, hn4⟩ : ∃ n4, n4 = p.all.length := ⟨_, rfl⟩
   obtain ⟨m, hm⟩ : ∃ m, m = p.st.mode := ⟨_, rfl⟩
   obtain ⟨nd, hnd⟩ : ∃ nd, nd = p.node := ⟨_, rfl⟩
   rw [← hn1, ← hn2, ← hn3, ← hn4, ← hm, ← hnd] at hI
   rw [← hn1] at x1
   rw [← hn2] at x2
   rw [← hn3] at x3
   rw [← hn4] at x5
   rw [← hm] at x0
   rw [← hnd] at x4
   obtain ⟨wx, hwx⟩ : ∃ wx, wx = wr.alloc (.cells #[.int .i64 m, .slice b1 n1 e1, .slice b2 n2 e2, .slice b3 n3 e3, .int .i64 nd, .slice b4 n4 e4] 148) := ⟨_, rfl⟩
   have hbx : Below wr.heap.size wr wx := by rw [hwx]; exact below_new _ _
   have hB : PBox wx wr.heap.size (.int .i64 m) (.slice b1 n1 e1) (.slice b2 n2 e2) (.slice b3 n3 e3) (.int .i64 nd) (.slice b4 n4 e4) := by rw [hwx]; exact PBox.new _ _ _ _ _ _ _ _
   have hA3 := hA2.below hbx
   have hS := Hsm.out p (List.mem_of_getElem? hp)
   have HS := Lib.hid hS
   have Hp := Lib.hid hp
   have I := Lib.hid (hI.later hbx)
   have M := Lib.hid hA3
   have PB := Lib.hid hB
   have B := Lib.hid (below_step R.out.size R.out hbx)
   have d0 := cell_more hA2.d0
   have Bad : Hid (∀ P : Prop, (PlaceOK L p → P) → ¬ P → r = false) := Lib.hid (fun P h hP => bool_no Hr.out (fun g => hP (h (g.1 p (List.mem_of_getElem? Hp.out)))))
   clear hA2 hp hI hn1 hn2 hn3 hn4 hm hnd hbx hB hA3 hS
   by_cases hc0 : (0 ≤ p.st.mode ∧ p.st.mode ≤ 2)
   ·have HC0 := Lib.hid hc0
    clear hc0
    go_wp2_with fail
    rw [← hwx]
    clear hwx
    refine (modeOK_at p _ true _ I.out ⟨fun _ => HC0.out, fun _ => rfl⟩).mono ?_
    rintro e wc0 ⟨rfl, hb3⟩
    have B := Lib.hid (below_step B.out.size B.out hb3)
    have I := Lib.hid (I.out.later hb3)
    have hM := M.out.below hb3
    have hP := PB.out.below hb3
    have M := Lib.hid hM
    have PB := Lib.hid hP
    have d1 := hM.d1
    have y0 := hP.y0
    have y1 := hP.y1
    have y2 := hP.y2
    have y3 := hP.y3
    have y4 := hP.y4
    have y5 := hP.y5
    clear hM hP hb3
    by_cases hc1 : WaitsOK L p.node p.st
    ·have HC1 := Lib.hid hc1
     clear hc1
     go_wp2_with fail
     refine (waitsC_at L p _ b c true _ I.out M.out.dm Hn.out HS.out.1.1 (by simp [HC1.out])).mono ?_
     rintro e wc1 ⟨rfl, hb3⟩
     have B := Lib.hid (below_step B.out.size B.out hb3)
     have I := Lib.hid (I.out.later hb3)
     have hM := M.out.below hb3
     have hP := PB.out.below hb3
     have M := Lib.hid hM
     have PB := Lib.hid hP
     have d2 := hM.d2
     have y0 := hP.y0
     have y1 := hP.y1
     have y2 := hP.y2
     have y3 := hP.y3
     have y4 := hP.y4
     have y5 := hP.y5
     clear hM hP hb3
     by_cases hc2 : PicksOK L p.node p.all p.st
     ·have HC2 := Lib.hid hc2
      clear hc2
      go_wp2_with fail
      refine (picksC_at L p _ b c true _ I.out M.out.dm Hn.out HS.out.1.2.1 (by simp [HC2.out])).mono ?_
      rintro e wc2 ⟨rfl, hb3⟩
      have B := Lib.hid (below_step B.out.size B.out hb3)
      have I := Lib.hid (I.out.later hb3)
      have hM := M.out.below hb3
      have hP := PB.out.below hb3
      have M := Lib.hid hM
      have PB := Lib.hid hP
      have d3 := hM.d3
      have y0 := hP.y0
      have y1 := hP.y1
      have y2 := hP.y2
      have y3 := hP.y3
      have y4 := hP.y4
      have y5 := hP.y5
      clear hM hP hb3
      by_cases hc3 : TakesOK L p.node p.all p.st.takes
      ·have HC3 := Lib.hid hc3
       clear hc3
       go_wp2_with fail
       refine (takesC_at L p _ b c true _ I.out M.out.dm Hn.out Hlow.out HS.out.1.2.2.1 (by simp [HC3.out])).mono ?_
       rintro e wc3 ⟨rfl, hb3⟩
       have B := Lib.hid (below_step B.out.size B.out hb3)
       have I := Lib.hid (I.out.later hb3)
       have hM := M.out.below hb3
       have hP := PB.out.below hb3
       have M := Lib.hid hM
       have PB := Lib.hid hP
       clear hM hP hb3
       go_wp2_with fail
       go_roundw
       case rel =>
        refine ⟨k + 1, by go_num, by omega, fun j y hj hy => ?_, B.out⟩
        by_cases hjk : j < k
        ·exact Hs.out j y hjk hy
        ·obtain rfl : j = k := by omega
         rw [Hp.out] at hy
         cases hy
         exact ⟨HC0.out, HC1.out, HC2.out, HC3.out⟩
       case measure => simp [intOf]; omega
      ·have HC3 := Lib.hid hc3
       have Hf := Lib.hid (Bad.out _ (fun g => g.2.2.2) hc3)
       clear hc3
       go_wp2_with fail
       refine (takesC_at L p _ b c false _ I.out M.out.dm Hn.out Hlow.out HS.out.1.2.2.1 (by simp [HC3.out])).mono ?_
       rintro e wc3 ⟨rfl, hb3⟩
       have B := Lib.hid (below_step B.out.size B.out hb3)
       clear hb3
       go_wp2_with fail
       go_ret
       exact ⟨by rw [Hf.out]; rfl, below_step G.out.size G.out B.out⟩
     ·have HC2 := Lib.hid hc2
      have Hf := Lib.hid (Bad.out _ (fun g => g.2.2.1) hc2)
      clear hc2
      go_wp2_with fail
      refine (picksC_at L p _ b c false _ I.out M.out.dm Hn.out HS.out.1.2.1 (by simp [HC2.out])).mono ?_
      rintro e wc2 ⟨rfl, hb3⟩
      have B := Lib.hid (below_step B.out.size B.out hb3)
      clear hb3
      go_wp2_with fail
      go_ret
      exact ⟨by rw [Hf.out]; rfl, below_step G.out.size G.out B.out⟩
    ·have HC1 := Lib.hid hc1
     have Hf := Lib.hid (Bad.out _ (fun g => g.2.1) hc1)
     clear hc1
     go_wp2_with fail
     refine (waitsC_at L p _ b c false _ I.out M.out.dm Hn.out HS.out.1.1 (by simp [HC1.out])).mono ?_
     rintro e wc1 ⟨rfl, hb3⟩
     have B := Lib.hid (below_step B.out.size B.out hb3)
     clear hb3
     go_wp2_with fail
     go_ret
     exact ⟨by rw [Hf.out]; rfl, below_step G.out.size G.out B.out⟩
   ·have HC0 := Lib.hid hc0
    have Hf := Lib.hid (Bad.out _ (fun g => g.1) hc0)
    clear hc0
    go_wp2_with fail
    rw [← hwx]
    clear hwx
    refine (modeOK_at p _ false _ I.out ⟨fun h => (by cases h), fun h => absurd h HC0.out⟩).mono ?_
    rintro e wc0 ⟨rfl, hb3⟩
    have B := Lib.hid (below_step B.out.size B.out hb3)
    clear hb3
    go_wp2_with fail
    go_ret
    exact ⟨by rw [Hf.out]; rfl, below_step G.out.size G.out B.out⟩
  ·have hlt' : ¬ (k : Int) < ln := by omega
   have hall : ∀ p ∈ ps, PlaceOK L p := fun p hp => by
    obtain ⟨i, hi⟩ := List.mem_iff_getElem?.1 hp
    exact Hs.out i p (by have := lt_of_some hi; rw [← Ln.out] at this; omega) hi
   obtain ⟨wo, hwo⟩ : ∃ wo, wo = wr := ⟨_, rfl⟩
   subst hwo
   have Hall := Lib.hid hall
   have A3 := Lib.hid hA2
   clear hall hA2
   go_wp2_with fail
   go_loopw [44] (fun i wq => ∃ k2 : Nat, i = .int .i64 k2 ∧ k2 ≤ ln ∧ (∀ i p, i < k2 → ps[i]? = some p → StaysOK p.all p.st) ∧ Below wo.heap.size wo wq) (fun i _ => ln - (intOf i).toNat)
   case atStart => exact ⟨0, rfl, by omega, fun j x hj => by omega, Below.refl _ _⟩
   case round =>
    obtain ⟨k2, rfl, hk2, hno2, hbr2⟩ := hrel
    have Hs2 := Lib.hid hno2
    have T := Lib.hid hbr2
    have hA2 := A3.out.below hbr2
    have BT := Lib.hid (below_step BB.out.size BB.out hbr2)
    clear hno2 hbr2
    by_cases hlt2 : k2 < ln
    ·have hlt2' : (k2 : Int) < ln := by omega
     obtain ⟨p, hp⟩ := some_of_lt (l := ps) (i := k2) (by rw [← Ln.out]; exact hlt2)
     obtain ⟨bb, off, cap, b1, e1, b2, e2, b3, e3, b4, e4, e, hb, x0, x1, x2, x3, x4, x5, hI⟩ := pl_cells hA2.rows hp
     simp only [Value.slice.injEq] at e
     obtain ⟨e, _, e'⟩ := e
     subst e e'
     obtain ⟨n1, hn1⟩ : ∃ n1, n1 = p.st.waits.length := ⟨_, rfl⟩
     obtain ⟨n2, hn2⟩ : ∃ n2, n2 = p.st.picks.length := ⟨_, rfl⟩
     obtain ⟨n3, hn3⟩ : ∃ n3, n3 = p.st.takes.length := ⟨_, rfl⟩
     obtain ⟨n4, hn4⟩ : ∃ n4, n4 = p.all.length := ⟨_, rfl⟩
     obtain ⟨m, hm⟩ : ∃ m, m = p.st.mode := ⟨_, rfl⟩
     obtain ⟨nd, hnd⟩ : ∃ nd, nd = p.node := ⟨_, rfl⟩
     rw [← hn1, ← hn2, ← hn3, ← hn4, ← hm, ← hnd] at hI
     rw [← hn1] at x1
     rw [← hn2] at x2
     rw [← hn3] at x3
     rw [← hn4] at x5
     rw [← hm] at x0
     rw [← hnd] at x4
     obtain ⟨wx, hwx⟩ : ∃ wx, wx = wr.alloc (.cells #[.int .i64 m, .slice b1 n1 e1, .slice b2 n2 e2, .slice b3 n3 e3, .int .i64 nd, .slice b4 n4 e4] 148) := ⟨_, rfl⟩
     have hbx : Below wr.heap.size wr wx := by rw [hwx]; exact below_new _ _
     have hB : PBox wx wr.heap.size (.int .i64 m) (.slice b1 n1 e1) (.slice b2 n2 e2) (.slice b3 n3 e3) (.int .i64 nd) (.slice b4 n4 e4) := by rw [hwx]; exact PBox.new _ _ _ _ _ _ _ _
     have hA3 := hA2.below hbx
     have hS := Hsm.out p (List.mem_of_getElem? hp)
     have HS := Lib.hid hS
     have Hp := Lib.hid hp
     have I := Lib.hid (hI.later hbx)
     have B := Lib.hid (below_step T.out.size T.out hbx)
     have PO := Lib.hid (Hall.out p (List.mem_of_getElem? hp))
     have d4 := cell_more hA2.d4
     have hnx : ∀ t ∈ p.st.takes, HasS p.all t.next := fun t ht => by
      obtain ⟨i, hi⟩ := List.mem_iff_getElem?.1 ht
      exact (PO.out.2.2.2 i t hi).2.1
     have Hnx := Lib.hid hnx
     clear hA2 hp hI hn1 hn2 hn3 hn4 hm hnd hbx hB hA3 hS hnx
     by_cases hst : StaysOK p.all p.st
     ·have Hst := Lib.hid hst
      clear hst
      go_wp2_with fail
      rw [← hwx]
      clear hwx
      refine (staysOK_at p _ true _ I.out HS.out.1.1 HS.out.1.2.2.1 (fun s hs => (HS.out.2 s hs).1) Hnx.out (by simp [Hst.out])).mono ?_
      rintro e w3 ⟨rfl, hb3⟩
      have B3 := Lib.hid (below_step B.out.size B.out hb3)
      clear hb3
      go_wp2_with fail
      go_roundw
      case rel =>
       refine ⟨k2 + 1, by go_num, by omega, fun j y hj hy => ?_, B3.out⟩
       by_cases hjk : j < k2
       ·exact Hs2.out j y hjk hy
       ·obtain rfl : j = k2 := by omega
        rw [Hp.out] at hy
        cases hy
        exact Hst.out
      case measure => simp [intOf]; omega
     ·have Hst := Lib.hid hst
      have hf := bool_no Hr.out (fun g => hst (g.2 p (List.mem_of_getElem? Hp.out)))
      have Hf := Lib.hid hf
      clear hst hf
      go_wp2_with fail
      rw [← hwx]
      clear hwx
      refine (staysOK_at p _ false _ I.out HS.out.1.1 HS.out.1.2.2.1 (fun s hs => (HS.out.2 s hs).1) Hnx.out (by simp [Hst.out])).mono ?_
      rintro e w3 ⟨rfl, hb3⟩
      have B3 := Lib.hid (below_step B.out.size B.out hb3)
      clear hb3
      go_wp2_with fail
      go_ret
      exact ⟨by rw [Hf.out]; rfl, below_step BB.out.size BB.out B3.out⟩
    ·have hlt2' : ¬ (k2 : Int) < ln := by omega
     have hf : r = true := bool_yes Hr.out ⟨Hall.out, fun p hp => by
      obtain ⟨i, hi⟩ := List.mem_iff_getElem?.1 hp
      exact Hs2.out i p (by have := lt_of_some hi; rw [← Ln.out] at this; omega) hi⟩
     have Hf := Lib.hid hf
     clear hf hA2
     go_wp2_with fail
     go_ret
     exact ⟨by rw [Hf.out]; rfl, BT.out⟩
end Go.Proofs.Ytiblcpkejhiehaa

