/- Texts put together. -/
import Derived.Test.YtlhclnhdcenkhaaMq03
import Derived.BigQuiet
import Derived.Deep.CutRange
set_option linter.unusedSimpArgs false
set_option linter.unusedVariables false
set_option maxRecDepth 100000
namespace Go.Proofs.Ytlhclnhdcenkhaa
open Go.RowKit Go.PlainAid
set_option maxHeartbeats 8000000 in
theorem rsame_at (p q : Pc) (r : Bool) (v1 v2 v3 u1 u2 u3 : Value) (w : World) (hp : HasL w [v1, v2, v3] p.d) (hq : HasL w [u1, u2, u3] q.d) (hs : SmallPc p) (hs2 : SmallPc q) (hr : r = true ↔ p = q) :
  Calls Try.prog 30 #[pcv p v1 v2 v3, pcv q u1 u2 u3] w fun e w' => e = .returned (.bool r) ∧ Below w.heap.size w w' := by
 obtain ⟨a1, a2, a3, n1, n2, n3, e1, e2, e3, ee1, ee2, ee3⟩ := pc_slices hp
 subst ee1
 subst ee2
 subst ee3
 obtain ⟨b1, b2, b3, m1, m2, m3, f1, f2, f3, ee1, ee2, ee3⟩ := pc_slices hq
 subst ee1
 subst ee2
 subst ee3
 obtain ⟨c1, c2, c3⟩ := pc_has hp
 obtain ⟨d1, d2, d3⟩ := pc_has hq
 have C1 := Lib.hid c1
 have C2 := Lib.hid c2
 have C3 := Lib.hid c3
 have D1 := Lib.hid d1
 have D2 := Lib.hid d2
 have D3 := Lib.hid d3
 have N2 := Lib.hid (lls_len c2)
 have M2 := Lib.hid (lls_len d2)
 have N3 := Lib.hid (ils_len c3)
 have M3 := Lib.hid (ils_len d3)
 have HS := Lib.hid hs
 have HR := Lib.hid hr
 have HS2 := Lib.hid hs2
 have hnn2 : n2 ≤ 1000000 := by rw [N2.out]; exact hs.i
 have hnn3 : n3 ≤ 1000000 := by rw [N3.out]; exact hs.o
 obtain ⟨x1, hx1⟩ := bool_some (p.sent = q.sent)
 obtain ⟨x2, hx2⟩ := bool_some (p.inn = q.inn)
 obtain ⟨x3, hx3⟩ := bool_some (p.out = q.out)
 have X1 := Lib.hid hx1
 have X2 := Lib.hid hx2
 have X3 := Lib.hid hx3
 obtain ⟨i0, hi0⟩ : ∃ m, m = p.node := ⟨_, rfl⟩
 obtain ⟨i1, hi1⟩ : ∃ m, m = p.state := ⟨_, rfl⟩
 obtain ⟨i2, hi2⟩ : ∃ m, m = p.steps := ⟨_, rfl⟩
 obtain ⟨j0, hj0⟩ : ∃ m, m = q.node := ⟨_, rfl⟩
 obtain ⟨j1, hj1⟩ : ∃ m, m = q.state := ⟨_, rfl⟩
 obtain ⟨j2, hj2⟩ : ∃ m, m = q.steps := ⟨_, rfl⟩
 unfold pcv
 rw [← hi0, ← hi1, ← hi2, ← hj0, ← hj1, ← hj2]
 have RR : Hid (r = true ↔ i0 = j0 ∧ i1 = j1 ∧ i2 = j2 ∧ p.sent = q.sent ∧ p.inn = q.inn ∧ p.out = q.out) := Lib.hid (by
  rw [hr, hi0, hi1, hi2, hj0, hj1, hj2]
  obtain ⟨s1, s2, s3, s4, s5, s6⟩ := p
  obtain ⟨t1, t2, t3, t4, t5, t6⟩ := q
  simp)
 clear hp hq c1 c2 c3 d1 d2 d3 hs hr hx1 hx2 hx3 hi0 hi1 hi2 hj0 hj1 hj2 hs2
 go_enter Try.func30, Try.ntmps30
 try simp only [List.append_eq, List.cons_append, List.nil_append]
 go_upto_region 1 with fail
 obtain ⟨y0, hy0⟩ : ∃ y, y = (w.alloc (.cells #[.int .i64 i0, .int .i64 i1, .int .i64 i2, .slice a1 n1 e1, .slice a2 n2 e2, .slice a3 n3 e3] 34)).alloc (.cells #[.int .i64 j0, .int .i64 j1, .int .i64 j2, .slice b1 m1 f1, .slice b2 m2 f2, .slice b3 m3 f3] 34) := ⟨_, rfl⟩
 have hb0 : Below w.heap.size w y0 := by rw [hy0]; exact below_step' (below_new _ _) (below_new _ _)
 have hx0 : BoxAt w.heap.size [.int .i64 i0, .int .i64 i1, .int .i64 i2, .slice a1 n1 e1, .slice a2 n2 e2, .slice a3 n3 e3] y0 := by rw [hy0]; exact (boxAt_new w [.int .i64 i0, .int .i64 i1, .int .i64 i2, .slice a1 n1 e1, .slice a2 n2 e2, .slice a3 n3 e3] _).below (below_new _ _)
 have hx1 : BoxAt (w.heap.size + 1) [.int .i64 j0, .int .i64 j1, .int .i64 j2, .slice b1 m1 f1, .slice b2 m2 f2, .slice b3 m3 f3] y0 := by
  have h := boxAt_new (w.alloc (.cells #[.int .i64 i0, .int .i64 i1, .int .i64 i2, .slice a1 n1 e1, .slice a2 n2 e2, .slice a3 n3 e3] 34)) [.int .i64 j0, .int .i64 j1, .int .i64 j2, .slice b1 m1 f1, .slice b2 m2 f2, .slice b3 m3 f3] 34
  rw [size_new] at h
  rw [hy0]; exact h
 have B0 := Lib.hid hb0
 have K0 := Lib.hid hx0
 have K1 := Lib.hid hx1
 rw [← hy0]
 obtain ⟨hw0, hhw⟩ : ∃ h, h = w.heap.size := ⟨_, rfl⟩
 rw [← hhw] at K0 K1 ⊢
 clear hy0 hb0 hx0 hx1 hhw
 have p0 := K0.out 0 _ rfl
 have q0 := K1.out 0 _ rfl
 have p1 := K0.out 1 _ rfl
 have q1 := K1.out 1 _ rfl
 have p2 := K0.out 2 _ rfl
 have q2 := K1.out 2 _ rfl
 have p3 := K0.out 3 _ rfl
 have q3 := K1.out 3 _ rfl
 by_cases h0 : i0 = j0
 ·have g0 : (i0 != j0) = false := by simp [h0]
  have H0 := Lib.hid h0
  clear h0
  by_cases h1 : i1 = j1
  ·have g1 : (i1 != j1) = false := by simp [h1]
   have H1 := Lib.hid h1
   clear h1
   by_cases h2 : i2 = j2
   ·have g2 : (i2 != j2) = false := by simp [h2]
    have H2 := Lib.hid h2
    clear h2
    go_wp2_with fail
    refine (rints_at p.sent q.sent x1 _ _ _ (C1.out.later B0.out) (D1.out.later B0.out) HS.out.s HS2.out.s X1.out).mono ?_
    rintro e w1 ⟨rfl, hb⟩
    have B1 := Lib.hid hb
    have BW1 := Lib.hid (below_step' B0.out hb)
    clear hb p0 q0 p1 q1 p2 q2 p3 q3
    have p4 := K0.out.below B1.out 4 _ rfl
    have q4 := K1.out.below B1.out 4 _ rfl
    have p5 := K0.out.below B1.out 5 _ rfl
    have q5 := K1.out.below B1.out 5 _ rfl
    cases x1 with
    | false =>
     obtain rfl : r = false := no_of RR.out (fun h => by have := X1.out.2 h.2.2.2.1; cases this)
     go_wp2_with fail
     go_ret
     exact ⟨rfl, BW1.out⟩
    | true =>
     by_cases hl2 : n2 = m2
     ·have hl2' : ((n2 : Int) != (m2 : Int)) = false := by simp; omega
      by_cases hl3 : n3 = m3
      ·have hl3' : ((n3 : Int) != (m3 : Int)) = false := by simp; omega
       have HL2 := Lib.hid hl2
       have HL3 := Lib.hid hl3
       clear hl2 hl3
       go_wp2_with fail
       clear p4 q4 p5 q5
       obtain ⟨y2, hy2⟩ : ∃ y, y = w1 := ⟨_, rfl⟩
       rw [← hy2] at B1 BW1 ⊢
       clear hy2
       go_loopw [5] (fun i wr => ∃ j : Nat, i = .int .i64 j ∧ j ≤ n2 ∧ p.inn.take j = q.inn.take j ∧ Below y2.heap.size y2 wr) (fun i _ => n2 - (intOf i).toNat)
       case atStart => exact ⟨0, rfl, by omega, rfl, Below.refl _ _⟩
       case round =>
        obtain ⟨j, rfl, hj, heq, hb⟩ := hrel
        have BR := Lib.hid (below_step' B1.out hb)
        have BWR := Lib.hid (below_step' BW1.out hb)
        have BY0 := Lib.hid hb
        have p1 := K0.out.below BR.out 4 _ rfl
        by_cases hlt : j < n2
        ·have hlt' : (j : Int) < n2 := by omega
         obtain ⟨x, hx⟩ := some_of_lt (l := p.inn) (i := j) (by rw [← N2.out]; exact hlt)
         obtain ⟨y, hy⟩ := some_of_lt (l := q.inn) (i := j) (by rw [← M2.out, ← HL2.out]; exact hlt)
         obtain ⟨b, o, ma, mc, e, _, e9, z1, hmx⟩ := lls_at (C2.out.later BWR.out) hx
         clear e9
         subst e
         obtain ⟨b', o', ma', mc', e, _, e9, z2, hmy⟩ := lls_at (D2.out.later BWR.out) hy
         clear e9
         subst e
         have hltm : j < m2 := by rw [← HL2.out]; exact hlt
         have hltm' : (j : Int) < m2 := by omega
         have GX := Lib.hid hx
         have GY := Lib.hid hy
         have EQ := Lib.hid heq
         obtain ⟨k1, hk1⟩ : ∃ k, k = x.length := ⟨_, rfl⟩
         obtain ⟨k2, hk2⟩ : ∃ k, k = y.length := ⟨_, rfl⟩
         rw [← hk1] at z1 hmx
         rw [← hk2] at z2 hmy
         have MX := Lib.hid hmx
         have MY := Lib.hid hmy
         obtain ⟨qq, hq⟩ := bool_some (x = y)
         have HQ := Lib.hid hq
         have q1 := K1.out.below BR.out 4 _ rfl
         have QS : Hid (∀ w', Below wr.heap.size wr w' → w'.cell? ⟨hw0, 4, none⟩ = some (.slice (some ⟨b, o, none⟩) n2 e2) ∧ w'.cell? ⟨hw0 + 1, 4, none⟩ = some (.slice (some ⟨b', o', none⟩) m2 f2) ∧ w'.cell? ⟨b, o + j, none⟩ = some (.slice ma k1 mc) ∧ w'.cell? ⟨b', o' + j, none⟩ = some (.slice ma' k2 mc')) := Lib.hid (fun w' hb => ⟨(hb.cell (World.block_lt_of_cell? wr _ p1)).trans p1, (hb.cell (World.block_lt_of_cell? wr _ q1)).trans q1, (hb.cell (World.block_lt_of_cell? wr _ z1)).trans z1, (hb.cell (World.block_lt_of_cell? wr _ z2)).trans z2⟩)
         clear hx hy heq hmx hmy hk1 hk2 hq z1 z2 q1 hb
         go_wp2_with fail
         clear p1
         refine wp_region_held_drew (S := (fun w' => w'.cell? ⟨hw0, 4, none⟩ = some (.slice (some ⟨b, o, none⟩) n2 e2) ∧ w'.cell? ⟨hw0 + 1, 4, none⟩ = some (.slice (some ⟨b', o', none⟩) m2 f2) ∧ w'.cell? ⟨b, o + j, none⟩ = some (.slice ma k1 mc) ∧ w'.cell? ⟨b', o' + j, none⟩ = some (.slice ma' k2 mc'))) (by kernel_rfl) ?_ (fun hHeld => ?_)
         ·exact QS.out _ (below_drewN (Below.refl _ wr) 1)
         refine tq 0 ?_
         refine tq 1 ?_
         refine tq 2 ?_
         refine tq 3 ?_
         refine tq 4 ?_
         refine tq 5 ?_
         refine tq 6 ?_
         refine tq 7 ?_
         refine tq 8 ?_
         refine tq 9 ?_
         refine rd 10 fun K hK => ?_
         go_simp
         refine (rmsgs_at x y qq _ _ _ (MX.out.later (below_drewN (Below.refl _ wr) 1)) (MY.out.later (below_drewN (Below.refl _ wr) 1)) (HS.out.im x (List.mem_of_getElem? GX.out)) HQ.out).mono ?_
         rintro e w5 ⟨rfl, hb5⟩
         have B5 := Lib.hid (below_step' (below_drewN (Below.refl _ wr) 1) hb5)
         have BQ := Lib.hid (below_step' BWR.out B5.out)
         have BY := Lib.hid (below_step' BY0.out B5.out)
         clear hb5
         go_wp2_with fail
         refine hK.out _ _ ?_ (fun hHeld => ?_)
         ·exact QS.out _ B5.out
         clear hK K
         refine tq 11 ?_
         refine wpAnyH_done (by kernel_rfl) ?_ _
         cases qq with
         | true =>
          go_wp2_with fail
          go_roundw
          case rel => exact ⟨j + 1, by go_num, by omega, take_next GX.out GY.out EQ.out (HQ.out.1 (by simp)), BY.out⟩
          case measure => simp [intOf]; omega
         | false =>
          obtain rfl : r = false := no_of RR.out (fun e => by
           have h := GX.out
           rw [e.2.2.2.2.1, GY.out] at h
           cases h
           have h := HQ.out.2 rfl
           cases h)
          go_wp2_with fail
          go_ret
          exact ⟨rfl, BQ.out⟩
        ·obtain rfl : j = n2 := by omega
         have hj3 : ¬ (j : Int) < j := by omega
         have EF : Hid (p.inn = q.inn) := Lib.hid (by
          have h := heq
          rw [List.take_of_length_le (by rw [← N2.out]; exact Nat.le_refl _), List.take_of_length_le (by rw [← M2.out, ← HL2.out]; exact Nat.le_refl _)] at h
          exact h)
         clear heq hb
         have p5 := K0.out.below BR.out 5 _ rfl
         go_wp2_with fail
         clear p5 p1
         obtain ⟨y3, hy2⟩ : ∃ y, y = wr := ⟨_, rfl⟩
         rw [← hy2] at BR BWR ⊢
         clear hy2
         go_loopw [6] (fun i wr => ∃ j : Nat, i = .int .i64 j ∧ j ≤ n3 ∧ p.out.take j = q.out.take j ∧ Below y3.heap.size y3 wr) (fun i _ => n3 - (intOf i).toNat)
         case atStart => exact ⟨0, rfl, by omega, rfl, Below.refl _ _⟩
         case round =>
          obtain ⟨j, rfl, hj, heq, hb⟩ := hrel
          have BR' := Lib.hid (below_step' BR.out hb)
          have BWR' := Lib.hid (below_step' BWR.out hb)
          have BY0 := Lib.hid hb
          have p1 := K0.out.below BR'.out 5 _ rfl
          by_cases hlt : j < n3
          ·have hlt' : (j : Int) < n3 := by omega
           obtain ⟨x, hx⟩ := some_of_lt (l := p.out) (i := j) (by rw [← N3.out]; exact hlt)
           obtain ⟨y, hy⟩ := some_of_lt (l := q.out) (i := j) (by rw [← M3.out, ← HL3.out]; exact hlt)
           obtain ⟨b, o, ma, mc, e, _, e9, z1, hmx⟩ := ils_at (C3.out.later BWR'.out) hx
           clear e9
           subst e
           obtain ⟨b', o', ma', mc', e, _, e9, z2, hmy⟩ := ils_at (D3.out.later BWR'.out) hy
           clear e9
           subst e
           have hltm : j < m3 := by rw [← HL3.out]; exact hlt
           have hltm' : (j : Int) < m3 := by omega
           have GX := Lib.hid hx
           have GY := Lib.hid hy
           have EQ := Lib.hid heq
           obtain ⟨k1, hk1⟩ : ∃ k, k = x.length := ⟨_, rfl⟩
           obtain ⟨k2, hk2⟩ : ∃ k, k = y.length := ⟨_, rfl⟩
           rw [← hk1] at z1 hmx
           rw [← hk2] at z2 hmy
           have MX := Lib.hid hmx
           have MY := Lib.hid hmy
           obtain ⟨qq, hq⟩ := bool_some (x = y)
           have HQ := Lib.hid hq
           have q1 := K1.out.below BR'.out 5 _ rfl
           have QS : Hid (∀ w', Below wr.heap.size wr w' → w'.cell? ⟨hw0, 5, none⟩ = some (.slice (some ⟨b, o, none⟩) n3 e3) ∧ w'.cell? ⟨hw0 + 1, 5, none⟩ = some (.slice (some ⟨b', o', none⟩) m3 f3) ∧ w'.cell? ⟨b, o + j, none⟩ = some (.slice ma k1 mc) ∧ w'.cell? ⟨b', o' + j, none⟩ = some (.slice ma' k2 mc')) := Lib.hid (fun w' hb => ⟨(hb.cell (World.block_lt_of_cell? wr _ p1)).trans p1, (hb.cell (World.block_lt_of_cell? wr _ q1)).trans q1, (hb.cell (World.block_lt_of_cell? wr _ z1)).trans z1, (hb.cell (World.block_lt_of_cell? wr _ z2)).trans z2⟩)
           clear hx hy heq hmx hmy hk1 hk2 hq z1 z2 q1 hb
           go_wp2_with fail
           clear p1
           refine wp_region_held_drew (S := (fun w' => w'.cell? ⟨hw0, 5, none⟩ = some (.slice (some ⟨b, o, none⟩) n3 e3) ∧ w'.cell? ⟨hw0 + 1, 5, none⟩ = some (.slice (some ⟨b', o', none⟩) m3 f3) ∧ w'.cell? ⟨b, o + j, none⟩ = some (.slice ma k1 mc) ∧ w'.cell? ⟨b', o' + j, none⟩ = some (.slice ma' k2 mc'))) (by kernel_rfl) ?_ (fun hHeld => ?_)
           ·exact QS.out _ (below_drewN (Below.refl _ wr) 1)
           refine tq 0 ?_
           refine tq 1 ?_
           refine tq 2 ?_
           refine tq 3 ?_
           refine tq 4 ?_
           refine tq 5 ?_
           refine tq 6 ?_
           refine tq 7 ?_
           refine tq 8 ?_
           refine tq 9 ?_
           refine rd 10 fun K hK => ?_
           go_simp
           refine (rints_at x y qq _ _ _ (MX.out.later (below_drewN (Below.refl _ wr) 1)) (MY.out.later (below_drewN (Below.refl _ wr) 1)) (HS.out.om x (List.mem_of_getElem? GX.out)) (HS2.out.om y (List.mem_of_getElem? GY.out)) HQ.out).mono ?_
           rintro e w5 ⟨rfl, hb5⟩
           have B5 := Lib.hid (below_step' (below_drewN (Below.refl _ wr) 1) hb5)
           have BQ := Lib.hid (below_step' BWR'.out B5.out)
           have BY := Lib.hid (below_step' BY0.out B5.out)
           clear hb5
           go_wp2_with fail
           refine hK.out _ _ ?_ (fun hHeld => ?_)
           ·exact QS.out _ B5.out
           clear hK K
           refine tq 11 ?_
           refine wpAnyH_done (by kernel_rfl) ?_ _
           cases qq with
           | true =>
            go_wp2_with fail
            go_roundw
            case rel => exact ⟨j + 1, by go_num, by omega, take_next GX.out GY.out EQ.out (HQ.out.1 (by simp)), BY.out⟩
            case measure => simp [intOf]; omega
           | false =>
            obtain rfl : r = false := no_of RR.out (fun e => by
             have h := GX.out
             rw [e.2.2.2.2.2, GY.out] at h
             cases h
             have h := HQ.out.2 rfl
             cases h)
            go_wp2_with fail
            go_ret
            exact ⟨rfl, BQ.out⟩
          ·obtain rfl : j = n3 := by omega
           have hj3 : ¬ (j : Int) < j := by omega
           have EG : Hid (p.out = q.out) := Lib.hid (by
            have h := heq
            rw [List.take_of_length_le (by rw [← N3.out]; exact Nat.le_refl _), List.take_of_length_le (by rw [← M3.out, ← HL3.out]; exact Nat.le_refl _)] at h
            exact h)
           clear heq hb
           obtain rfl : r = true := RR.out.2 ⟨H0.out, H1.out, H2.out, X1.out.1 (by simp), EF.out, EG.out⟩
           go_wp2_with fail
           go_ret
           exact ⟨rfl, BWR'.out⟩
      ·have hl3' : ((n3 : Int) != (m3 : Int)) = true := by simp; omega
       obtain rfl : r = false := no_of RR.out (fun h => hl3 (by rw [N3.out, M3.out, h.2.2.2.2.2]))
       clear hl3
       go_wp2_with fail
       go_ret
       exact ⟨rfl, BW1.out⟩
     ·have hl2' : ((n2 : Int) != (m2 : Int)) = true := by simp; omega
      obtain rfl : r = false := no_of RR.out (fun h => hl2 (by rw [N2.out, M2.out, h.2.2.2.2.1]))
      clear hl2
      go_wp2_with fail
      go_ret
      exact ⟨rfl, BW1.out⟩
   ·have g2 : (i2 != j2) = true := by simp [h2]
    obtain rfl : r = false := no_of RR.out (fun h => h2 h.2.2.1)
    clear h2
    go_wp2_with fail
    go_ret
    exact ⟨rfl, B0.out⟩
  ·have g1 : (i1 != j1) = true := by simp [h1]
   obtain rfl : r = false := no_of RR.out (fun h => h1 h.2.1)
   clear h1
   go_wp2_with fail
   go_ret
   exact ⟨rfl, B0.out⟩
 ·have g0 : (i0 != j0) = true := by simp [h0]
  obtain rfl : r = false := no_of RR.out (fun h => h0 h.1)
  clear h0
  go_wp2_with fail
  go_ret
  exact ⟨rfl, B0.out⟩
end Go.Proofs.Ytlhclnhdcenkhaa

