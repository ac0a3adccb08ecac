/- Texts put together. -/
import Derived.Test.YtennbiajnkobnaaQ21
import Derived.Test.YtennbiajnkobnaaQ40
import Derived.Test.YtennbiajnkobnaaQ41
import Derived.Test.YtennbiajnkobnaaQ42
import Derived.BigQuiet
set_option linter.unusedSimpArgs false
set_option linter.unusedVariables false
namespace Go.Proofs.Ytennbiajnkobnaa
open Go.RowKit Go.PlainAid
set_option maxHeartbeats 8000000 in
set_option maxRecDepth 100000 in
theorem rright5_at (A : Ap) (c : Cf) (r : Bool) (vG vT v1 v2 v3 : Value) (w : World) (hG : LinksAt w vG A.l) (hT : Has w vT (dTab A.t)) (hC : HasL w [v1, v2, v3] c.d) (hln : A.l.length ≤ 1000000) (hsm : SmallTab A.t) (hsc : SmallCf c) (hr : r = true ↔ CfOK A c) :
  Calls Try.prog 8 #[.agg #[.int .i64 A.n, vG, vT, .bool A.ff], .agg #[v1, v2, v3]] w fun e w' => e = .returned (.bool r) ∧ Below w.heap.size w w' := by
 obtain ⟨ga, gc, ee⟩ := slice_of (has_of_links hG)
 subst ee
 obtain ⟨ta, tc, ee⟩ := slice_of hT
 subst ee
 obtain ⟨c1, c2, c3⟩ := cf_has hC
 obtain ⟨a1, e1, ee⟩ := slice_of c1
 subst ee
 obtain ⟨a2, e2, ee⟩ := slice_of c2
 subst ee
 obtain ⟨a3, e3, ee⟩ := slice_of c3
 subst ee
 obtain ⟨tl, htl⟩ : ∃ n, n = A.t.length := ⟨_, rfl⟩
 obtain ⟨gl, hgl⟩ : ∃ n, n = A.l.length := ⟨_, rfl⟩
 obtain ⟨n1, hn1⟩ : ∃ n, n = c.states.length := ⟨_, rfl⟩
 obtain ⟨n2, hn2⟩ : ∃ n, n = c.links.length := ⟨_, rfl⟩
 obtain ⟨n3, hn3⟩ : ∃ n, n = c.sent.length := ⟨_, rfl⟩
 rw [← hgl] at hG ⊢
 rw [← htl] at hT ⊢
 rw [← hn1] at c1 ⊢
 rw [← hn2] at c2 ⊢
 rw [← hn3] at c3 ⊢
 have HG := Lib.hid hG
 have HT := Lib.hid hT
 have C1 := Lib.hid c1
 have C2 := Lib.hid c2
 have C3 := Lib.hid c3
 have HR := Lib.hid hr
 have SMT := Lib.hid hsm
 have SMC := Lib.hid hsc
 have N1 := Lib.hid hn1
 have N2 := Lib.hid hn2
 have N3 := Lib.hid hn3
 have GL := Lib.hid hgl
 have TL := Lib.hid htl
 obtain ⟨N, hN⟩ : ∃ N, N = A.n := ⟨_, rfl⟩
 rw [← hN]
 have NN := Lib.hid hN
 have hl1 : n1 ≤ 1000000 := by rw [hn1]; exact hsc.1
 have hl3 : n3 ≤ 1000000 := by rw [hn3]; exact hsc.2.2.1
 obtain ⟨tt, htt⟩ := bool_some (TabOK A.n A.l A.t)
 have TT := Lib.hid htt
 clear hG hT hC c1 c2 c3 hr hsm hsc hn1 hn2 hn3 hgl htl hN htt
 go_enter Try.func8, Try.ntmps8
 try simp only [List.append_eq, List.cons_append, List.nil_append]
 go_upto_region 1 with fail
 obtain ⟨y0, hy0⟩ : ∃ y, y = (w.alloc (.cells #[.int .i64 N, .slice ga gl gc, .slice ta tl tc, .bool A.ff] 38)).alloc (.cells #[.slice a1 n1 e1, .slice a2 n2 e2, .slice a3 n3 e3] 40) := ⟨_, rfl⟩
 have hb0 : Below w.heap.size w y0 := by rw [hy0]; exact below_step' (below_new _ _) (below_new _ _)
 have hx0 : BoxAt w.heap.size [.int .i64 N, .slice ga gl gc, .slice ta tl tc, .bool A.ff] y0 := by rw [hy0]; exact (boxAt_new w [.int .i64 N, .slice ga gl gc, .slice ta tl tc, .bool A.ff] _).below (below_new _ _)
 have hx1 : BoxAt (w.heap.size + 1) [.slice a1 n1 e1, .slice a2 n2 e2, .slice a3 n3 e3] y0 := by
  have h := boxAt_new (w.alloc (.cells #[.int .i64 N, .slice ga gl gc, .slice ta tl tc, .bool A.ff] 38)) [.slice a1 n1 e1, .slice a2 n2 e2, .slice a3 n3 e3] 40
  rw [size_alloc] at h
  rw [hy0]; exact h
 have B0 := Lib.hid hb0
 have K0 := Lib.hid hx0
 have K1 := Lib.hid hx1
 rw [← hy0]
 obtain ⟨bA, hbA⟩ : ∃ b, b = w.heap.size := ⟨_, rfl⟩
 obtain ⟨bC, hbC⟩ : ∃ b, b = w.heap.size + 1 := ⟨_, rfl⟩
 rw [← hbC] at K1 ⊢
 rw [← hbA] at K0
 have HBA := Lib.hid hbA
 clear hy0 hb0 hx0 hx1 hbC
 rw [← hbA]
 clear hbA
 have p0 := K0.out 0 _ rfl
 have p1 := K0.out 1 _ rfl
 have p2 := K0.out 2 _ rfl
 go_wp2_with fail
 refine (rright4_at N _ A.l A.t _ tt _ (HT.out.later B0.out) (HG.out.below B0.out) hln SMT.out (by rw [NN.out]; exact TT.out)).mono ?_
 rintro e w1 ⟨rfl, hb⟩
 have B1 := Lib.hid hb
 have BW1 := Lib.hid (below_step' B0.out hb)
 clear hb p0 p1 p2
 have p0 := K0.out.below B1.out 0 _ rfl
 have p1 := K0.out.below B1.out 1 _ rfl
 have q0 := K1.out.below B1.out 0 _ rfl
 have q1 := K1.out.below B1.out 1 _ rfl
 have q2 := K1.out.below B1.out 2 _ rfl
 cases tt with
 | false =>
  obtain rfl := not_ok HR.out (fun h => by have := TT.out.2 h.1; cases this)
  go_wp2_with fail
  go_ret
  exact ⟨rfl, BW1.out⟩
 | true =>
  have hTab : TabOK A.n A.l A.t := TT.out.1 rfl
  have HTab := Lib.hid hTab
  clear hTab
  by_cases g1 : (n1 : Int) = N
  ·have g1' : ((n1 : Int) != N) = false := by simpa using g1
   by_cases g2 : n2 = gl
   ·have g2' : ((n2 : Int) != (gl : Int)) = false := by simp; omega
    by_cases g3 : n3 = gl
    ·have g3' : ((n3 : Int) != (gl : Int)) = false := by simp; omega
     have G1 := Lib.hid g1
     have G2 := Lib.hid g2
     have G3 := Lib.hid g3
     have hnt : n1 = tl := by have := HTab.out.2.1; have := NN.out; have := TL.out; omega
     have HNT := Lib.hid hnt
     clear g1 g2 g3 hnt
     go_wp2_with fail
     clear p0 p1 q0 q1 q2
     obtain ⟨y1, hy1⟩ : ∃ y, y = w1 := ⟨_, rfl⟩
     rw [← hy1] at B1 BW1 ⊢
     clear hy1
     go_loopw [5] (fun i wr => ∃ j : Nat, i = .int .i64 j ∧ j ≤ n1 ∧ (∀ (n : Nat) (s : Int) (x : Nd), n < j → c.states[n]? = some s → A.t[n]? = some x → HasS x.states s) ∧ Below y0.heap.size y0 wr) (fun i _ => n1 - (intOf i).toNat)
     case atStart => exact ⟨0, rfl, by omega, fun n s x h => by omega, B1.out⟩
     case round =>
      obtain ⟨j, rfl, hj, hok, hb⟩ := hrel
      have BW := Lib.hid hb
      have OKS := Lib.hid hok
      have q0 := K1.out.below hb 0 _ rfl
      by_cases hlt : j < n1
      ·have hlt' : (j : Int) < n1 := by omega
       obtain ⟨s, hs⟩ := some_of_lt (l := c.states) (i := j) (by rw [← N1.out]; exact hlt)
       obtain ⟨x, hx⟩ := some_of_lt (l := A.t) (i := j) (by rw [← TL.out, ← HNT.out]; exact hlt)
       obtain ⟨sb, so, e, x1⟩ := num_at (C1.out.later (below_step' B0.out hb)) hs
       subst e
       obtain ⟨tb, tqo, tcap, vs, e, _, _, _, y1', hvs⟩ := nd_cells (HT.out.later (below_step' B0.out hb)) hx
       obtain ⟨va, vc, e2⟩ := slice_of hvs
       subst e2
       simp only [Value.slice.injEq] at e
       obtain ⟨e4, e5, e6⟩ := e
       clear e5 e6
       subst e4
       obtain ⟨xl, hxl⟩ : ∃ n, n = x.states.length := ⟨_, rfl⟩
       rw [← hxl] at y1'
       have XL := Lib.hid hxl
       have p2 := K0.out.below hb 2 _ rfl
       have htl2 : j < tl := by rw [← HNT.out]; exact hlt
       have htl3 : (j : Int) < tl := by omega
       have HS := Lib.hid hs
       have HX := Lib.hid hx
       clear hs hx hok hb hvs hxl
       by_cases h0 : s < 0
       ·have h0' : decide (s < 0) = true := by simpa using h0
        obtain rfl := not_ok HR.out (fun h => by have := (h.2.st j s x HS.out HX.out).1; omega)
        go_wp2_with fail
        go_quiet (fail)
        have BQ := Lib.hid (below_step' BW.out (below_drewN (Below.refl _ wr) nq))
        go_wp2_with fail
        go_ret
        exact ⟨rfl, below_step' B0.out BQ.out⟩
       ·have h0' : decide (s < 0) = false := by simpa using h0
        by_cases h1 : (xl : Int) ≤ s
        ·have h1' : decide ((xl : Int) ≤ s) = true := by simpa using h1
         obtain rfl := not_ok HR.out (fun h => by have h2 := (h.2.st j s x HS.out HX.out).2; have h2 : s < (x.states.length : Int) := h2; have := XL.out; omega)
         go_wp2_with fail
         go_quiet (fail)
         have BQ := Lib.hid (below_step' BW.out (below_drewN (Below.refl _ wr) nq))
         go_wp2_with fail
         go_ret
         exact ⟨rfl, below_step' B0.out BQ.out⟩
        ·have h1' : decide ((xl : Int) ≤ s) = false := by simpa using h1
         have HH : Hid (HasS x.states s) := Lib.hid ⟨by omega, by have := XL.out; show s < (x.states.length : Int); omega⟩
         go_wp2_with fail
         go_quiet (fail)
         have BQ := Lib.hid (below_step' BW.out (below_drewN (Below.refl _ wr) nq))
         go_wp2_with fail
         go_roundw
         case rel => exact ⟨j + 1, by go_num, by omega, fun n s' x' hn hs' hx' => by
          by_cases e : n = j
          ·subst e
           have a1 := HS.out
           have a2 := HX.out
           rw [hs'] at a1
           rw [hx'] at a2
           cases a1
           cases a2
           exact HH.out
          ·exact OKS.out n s' x' (by omega) hs' hx', BQ.out⟩
         case measure => simp [intOf]; omega
      ·obtain rfl : j = n1 := by omega
       have hj3 : ¬ (j : Int) < j := by omega
       obtain ⟨y2, hy2⟩ : ∃ y, y = wr := ⟨_, rfl⟩
       subst hy2
       clear hok hb
       go_wp2_with fail
       clear q0
       go_loopw [6] (fun i wr => ∃ k : Nat, i = .int .i64 k ∧ k ≤ n3 ∧ (∀ (n : Nat) (q : Int) (m : Lks), n < k → c.sent[n]? = some q → c.links[n]? = some m → LinkOK q m) ∧ Below y0.heap.size y0 wr) (fun i _ => n3 - (intOf i).toNat)
       case atStart => exact ⟨0, rfl, by omega, fun n s x h => by omega, BW.out⟩
       case round =>
        obtain ⟨k, rfl, hk, hok, hb⟩ := hrel
        have BX := Lib.hid hb
        have OKM := Lib.hid hok
        have q1 := K1.out.below hb 1 _ rfl
        by_cases hlt2 : k < n3
        ·have hlt3 : (k : Int) < n3 := by omega
         obtain ⟨q, hq⟩ := some_of_lt (l := c.sent) (i := k) (by rw [← N3.out]; exact hlt2)
         obtain ⟨m, hm⟩ := some_of_lt (l := c.links) (i := k) (by rw [← N2.out, G2.out, ← G3.out]; exact hlt2)
         obtain ⟨qb, qo, e, x1⟩ := num_at (C3.out.later (below_step' B0.out hb)) hq
         subst e
         obtain ⟨lb, lo, ma, mc, e, _, e9, y1', hmm⟩ := lls_at (C2.out.later (below_step' B0.out hb)) hm
         clear e9
         subst e
         obtain ⟨ml, hml⟩ : ∃ n, n = m.length := ⟨_, rfl⟩
         rw [← hml] at y1' hmm
         have ML := Lib.hid hml
         have hm6 : ml ≤ 1000000 := by rw [hml]; exact SMC.out.2.2.2 m (List.mem_of_getElem? hm)
         have q2 := K1.out.below hb 2 _ rfl
         have hk2 : k < n2 := by rw [G2.out, ← G3.out]; exact hlt2
         have hk3 : (k : Int) < n2 := by omega
         have HQ := Lib.hid hq
         have HM := Lib.hid hm
         have HMM := Lib.hid hmm
         have HY1 := Lib.hid y1'
         have HX1 := Lib.hid x1
         obtain ⟨rr, hrr⟩ := bool_some (MsgsOK 0 q m)
         have RR := Lib.hid hrr
         clear hq hm hok hb hmm hrr hml
         by_cases h0 : q < 0
         ·have h0' : decide (q < 0) = true := by simpa using h0
          obtain rfl := not_ok HR.out (fun h => by have := (h.2.ms k q m HQ.out HM.out).1; omega)
          go_wp2_with fail
          go_ret
          exact ⟨rfl, below_step' B0.out BX.out⟩
         ·have h0' : decide (q < 0) = false := by simpa using h0
          by_cases h1 : 500 < q
          ·have h1' : decide (500 < q) = true := by simpa using h1
           obtain rfl := not_ok HR.out (fun h => by have := (h.2.ms k q m HQ.out HM.out).2.1; omega)
           go_wp2_with fail
           go_ret
           exact ⟨rfl, below_step' B0.out BX.out⟩
          ·have h1' : decide (500 < q) = false := by simpa using h1
           have HQ5 : Hid (0 ≤ q ∧ q ≤ 500) := Lib.hid ⟨by omega, by omega⟩
           go_wp2_with fail
           obtain ⟨yk, hyk⟩ : ∃ y, y = wr := ⟨_, rfl⟩
           rw [← hyk] at BX HY1 HX1 HMM ⊢
           clear hyk x1 y1' q1 q2
           go_loopw [7, 8] (fun t i wr => ∃ (last : Int) (j : Nat), t = .int .i64 last ∧ i = .int .i64 j ∧ j ≤ ml ∧ (rr = true ↔ MsgsOK last q (m.drop j)) ∧ Below yk.heap.size yk wr) (fun _ i _ => ml - (intOf i).toNat)
           case atStart => exact ⟨0, 0, rfl, rfl, by omega, RR.out, Below.refl _ _⟩
           case round =>
            obtain ⟨last, j, rfl, rfl, hj, hok, hb⟩ := hrel
            have BM := Lib.hid hb
            have BX2 := Lib.hid (below_step' BX.out hb)
            have q1 := K1.out.below BX2.out 1 _ rfl
            have z1 := (hb.cell (World.block_lt_of_cell? yk _ HY1.out)).trans HY1.out
            by_cases hjl : j < ml
            ·have hjl' : (j : Int) < ml := by omega
             obtain ⟨⟨s, l⟩, hx⟩ := some_of_lt (l := m) (i := j) (by rw [← ML.out]; exact hjl)
             obtain ⟨b, o, e, x1, x2⟩ := msg_at (HMM.out.later hb) hx
             subst e
             simp only at x1 x2
             rw [drop_of hx] at hok
             have OK := Lib.hid hok
             clear hok hx hb
             go_upto_region 18 with fail
             obtain ⟨y9, hy9⟩ : ∃ y, y = wr.alloc (.cells #[.int .i64 s, .int .i64 l] 56) := ⟨_, rfl⟩
             have hb9 : Below wr.heap.size wr y9 := by rw [hy9]; exact below_new _ _
             have u0 : y9.cell? ⟨wr.heap.size, 0, none⟩ = some (.int .i64 s) := by rw [hy9]; exact World.cell?_alloc_at _ _ _ _ rfl
             have u1 : y9.cell? ⟨wr.heap.size, 1, none⟩ = some (.int .i64 l) := by rw [hy9]; exact World.cell?_alloc_at _ _ _ _ rfl
             rw [← hy9]
             obtain ⟨mb, hmb⟩ : ∃ b, b = wr.heap.size := ⟨_, rfl⟩
             rw [← hmb] at u0 u1 ⊢
             have q2 := K1.out.below (below_step' BX2.out hb9) 2 _ rfl
             have s1 := ((below_step' BM.out hb9).cell (World.block_lt_of_cell? yk _ HX1.out)).trans HX1.out
             have BM9 := Lib.hid (below_step' BM.out hb9)
             have BX9 := Lib.hid (below_step' BX2.out hb9)
             clear hy9 hb9 hmb q1 z1 x1 x2
             by_cases g1 : s ≤ last
             ·have hrf : rr = false := no_of OK.out (fun h => by have := h.1; omega)
              have g1' : decide (s ≤ last) = true := by simpa using g1
              obtain rfl := not_ok HR.out (fun h => by have := RR.out.2 (h.2.ms k q m HQ.out HM.out).2.2; rw [hrf] at this; cases this)
              clear hrf
              go_quiet (fail)
              have BQ := Lib.hid (below_step' BX9.out (below_drewN (Below.refl _ y9) nq))
              go_wp2_with fail
              go_ret
              exact ⟨rfl, below_step' B0.out BQ.out⟩
             ·have g1' : decide (s ≤ last) = false := by simpa using g1
              have G1 := Lib.hid g1
              clear g1
              by_cases g2 : q < s
              ·have hrf : rr = false := no_of OK.out (fun h => by have := h.2.1; have : s ≤ q := this; omega)
               have g2' : decide (q < s) = true := by simpa using g2
               obtain rfl := not_ok HR.out (fun h => by have := RR.out.2 (h.2.ms k q m HQ.out HM.out).2.2; rw [hrf] at this; cases this)
               clear hrf
               go_quiet (fail)
               have BQ := Lib.hid (below_step' BX9.out (below_drewN (Below.refl _ y9) nq))
               go_wp2_with fail
               go_ret
               exact ⟨rfl, below_step' B0.out BQ.out⟩
              ·have g2' : decide (q < s) = false := by simpa using g2
               have G2 := Lib.hid g2
               clear g2
               by_cases g3 : l < 0
               ·have hrf : rr = false := no_of OK.out (fun h => by have := h.2.2.1; have : 0 ≤ l := this; omega)
                have g3' : decide (l < 0) = true := by simpa using g3
                obtain rfl := not_ok HR.out (fun h => by have := RR.out.2 (h.2.ms k q m HQ.out HM.out).2.2; rw [hrf] at this; cases this)
                clear hrf
                go_quiet (fail)
                have BQ := Lib.hid (below_step' BX9.out (below_drewN (Below.refl _ y9) nq))
                go_wp2_with fail
                go_ret
                exact ⟨rfl, below_step' B0.out BQ.out⟩
               ·have g3' : decide (l < 0) = false := by simpa using g3
                have G3 := Lib.hid g3
                clear g3
                by_cases g4 : 3 < l
                ·have hrf : rr = false := no_of OK.out (fun h => by have := h.2.2.2.1; have : l < 4 := this; omega)
                 have g4' : decide (3 < l) = true := by simpa using g4
                 obtain rfl := not_ok HR.out (fun h => by have := RR.out.2 (h.2.ms k q m HQ.out HM.out).2.2; rw [hrf] at this; cases this)
                 clear hrf
                 go_quiet (fail)
                 have BQ := Lib.hid (below_step' BX9.out (below_drewN (Below.refl _ y9) nq))
                 go_wp2_with fail
                 go_ret
                 exact ⟨rfl, below_step' B0.out BQ.out⟩
                ·have g4' : decide (3 < l) = false := by simpa using g4
                 have G4 := Lib.hid g4
                 clear g4
                 go_quiet (fail)
                 have BQ := Lib.hid (below_step' BM9.out (below_drewN (Below.refl _ y9) nq))
                 go_wp2_with fail
                 go_roundw
                 case rel => exact ⟨s, j + 1, rfl, by go_num, by omega, OK.out.trans ⟨fun h => h.2.2.2.2, fun h => ⟨by have := G1.out; show last < s; omega, by have := G2.out; show s ≤ q; omega, by have := G3.out; show 0 ≤ l; omega, by have := G4.out; show l < 4; omega, h⟩⟩, BQ.out⟩
                 case measure => simp [intOf]; omega
            ·obtain rfl : ml = j := by omega
             have hj9 : ¬ (ml : Int) < ml := by omega
             have hrt : rr = true := hok.2 (by rw [List.drop_of_length_le (by rw [ML.out]; exact Nat.le_refl _)]; trivial)
             have HH : Hid (LinkOK q m) := Lib.hid ⟨HQ5.out.1, HQ5.out.2, RR.out.1 hrt⟩
             clear hok hrt hb
             go_wp2_with fail
             go_roundw
             case rel => exact ⟨k + 1, by go_num, by omega, fun n q' m' hn hq' hm' => by
              by_cases e : n = k
              ·subst e
               have a1 := HQ.out
               have a2 := HM.out
               rw [hq'] at a1
               rw [hm'] at a2
               cases a1
               cases a2
               exact HH.out
              ·exact OKM.out n q' m' (by omega) hq' hm', BX2.out⟩
             case measure => simp [intOf]; omega
        ·obtain rfl : k = n3 := by omega
         have hk3 : ¬ (k : Int) < k := by omega
         have hrt : r = true := HR.out.2 ⟨HTab.out, ⟨by rw [← N1.out, ← NN.out]; exact G1.out, by rw [← N2.out, ← GL.out]; exact G2.out, by rw [← N3.out, ← GL.out]; exact G3.out, fun n s x hs hx => OKS.out n s x (by have := lt_of_some hs; have := N1.out; omega) hs hx, fun n q m hq hm => OKM.out n q m (by have := lt_of_some hq; have := N3.out; omega) hq hm⟩⟩
         subst hrt
         have hn2 : n2 = k := by rw [G2.out, ← G3.out]
         have hk4 : ¬ (k : Int) < n2 := by omega
         clear hok hb
         go_wp2_with fail
         go_ret
         exact ⟨rfl, below_step' B0.out BX.out⟩
    ·have g3' : ((n3 : Int) != (gl : Int)) = true := by simp; omega
     obtain rfl := not_ok HR.out (fun h => g3 (by rw [N3.out, GL.out]; exact h.2.sent))
     clear g3
     go_wp2_with fail
     go_ret
     exact ⟨rfl, BW1.out⟩
   ·have g2' : ((n2 : Int) != (gl : Int)) = true := by simp; omega
    obtain rfl := not_ok HR.out (fun h => g2 (by rw [N2.out, GL.out]; exact h.2.links))
    clear g2
    go_wp2_with fail
    go_ret
    exact ⟨rfl, BW1.out⟩
  ·have g1' : ((n1 : Int) != N) = true := by simpa using g1
   obtain rfl := not_ok HR.out (fun h => g1 (by rw [N1.out, NN.out]; exact h.2.states))
   clear g1
   go_wp2_with fail
   go_ret
   exact ⟨rfl, BW1.out⟩
end Go.Proofs.Ytennbiajnkobnaa

