/- MarkOrder: the walk. Written by gen_mark1.py. -/
import Derived.Test.YtlhclnhdcenkhaaMkO
import Derived.Test.YtlhclnhdcenkhaaMkK
set_option linter.unusedSimpArgs false
set_option linter.unusedVariables false
set_option maxRecDepth 100000
namespace Go.Proofs.Ytlhclnhdcenkhaa
open Go.RowKit Go.PlainAid

set_option maxHeartbeats 8000000 in
theorem walkMarkOrder (l : Int) (v : Value) (L : List (Fin 256)) (w : World) (h0 : 0 ≤ l) (h1 : l < 256) (h : Has w v (dU8 L)) :
    Calls Try.prog 6 #[.int .u8 l, v] w fun e w' => e = .returned (.bool true) ∧ Below w.heap.size w w' := by
  obtain ⟨l, rfl⟩ : ∃ n : Nat, l = n := ⟨l.toNat, by omega⟩
  have hl : l < 256 := by omega
  obtain ⟨N, hN⟩ : ∃ n, n = l % 6 := ⟨_, rfl⟩
  have hN5 : N ≤ 5 := by omega
  have HN := Lib.hid hN
  clear hN
  obtain ⟨va, vc, ee⟩ := slice_of h
  subst ee
  obtain ⟨k, hk⟩ : ∃ k, k = L.length := ⟨_, rfl⟩
  rw [← hk] at h ⊢
  have HK := Lib.hid hk
  clear hk h0 h1
  obtain ⟨i0, hi0, hz0, hs0, hby0⟩ := info_parts infoInt
  go_enter Try.func6, Try.ntmps6
  go_upto_region 1 with fail
  go_wp2_with fail
  refine (ends_at l 3 N w hl (by decide) HN.out).mono ?_
  rintro e w1 ⟨g1, g2, rfl, hG, hb⟩
  obtain ⟨g8, g9⟩ := hs_has hG
  obtain ⟨ga, gc, ee1⟩ := slice_of g8
  obtain ⟨gb, gd, ee2⟩ := slice_of g9
  subst ee1
  subst ee2
  have HG := Lib.hid hG
  have B1 := Lib.hid hb
  clear hG hb g8 g9
  rw [show (endsH N 3).inn.length = N from (ends_small N 3 (by omega)).2] at HG ⊢
  rw [show (endsH N 3).out.length = N from by unfold endsH; simp] at HG ⊢
  rw [show hsv (endsH N 3) (.slice ga N gc) (.slice gb N gd) = .agg #[.int .i64 1, .int .i64 2, .int .i64 3, .slice ga N gc, .slice gb N gd] from rfl]
  go_upto_region 2 with fail
  obtain ⟨bh, hbh⟩ : ∃ b, b = w1.heap.size := ⟨_, rfl⟩
  obtain ⟨y1, hy1⟩ : ∃ y, y = w1.alloc (.cells #[.int .i64 1, .int .i64 2, .int .i64 3, .slice ga N gc, .slice gb N gd] 26) := ⟨_, rfl⟩
  have hn1 : Below w1.heap.size w1 y1 := by rw [hy1]; exact below_new _ _
  have KH1 : Hid (BoxAt bh [.int .i64 1, .int .i64 2, .int .i64 3, .slice ga N gc, .slice gb N gd] y1) := Lib.hid (by rw [hbh, hy1]; exact boxAt_new w1 [.int .i64 1, .int .i64 2, .int .i64 3, .slice ga N gc, .slice gb N gd] _)
  have OH1 : Hid (Open8 bh y1) := Lib.hid (by rw [hbh, hy1]; exact Open8.new _ _ _)
  have BW1 := Lib.hid (below_step' B1.out hn1)
  have HG1 : Hid (HoldsL False (fun q => q ≠ bh) y1 [.slice ga N gc, .slice gb N gd] (endsH N 3).d) := Lib.hid ((HG.out.wide (P' := fun q => q ≠ bh) (fun q hq _ => by rw [hbh]; omega)).later hn1)
  have LH : Hid (w.heap.size ≤ bh) := Lib.hid (by rw [hbh]; exact B1.out.size)
  rw [← hy1, ← hbh]
  clear hy1 hbh hn1 HG B1
  have x0 := KH1.out 0 _ rfl
  have x1 := KH1.out 1 _ rfl
  have x2 := KH1.out 2 _ rfl
  have x3 := KH1.out 3 _ rfl
  have x4 := KH1.out 4 _ rfl
  go_wp2_with fail
  refine (begin_at (endsH N 3) 9 _ _ y1 HG1.out.weak (ends_small N 3 (by omega)).1 (by rw [(ends_small N 3 (by omega)).2]; omega)).mono ?_
  rintro e w2 ⟨v0, v1, v2, v3, rfl, hU, hb⟩
  obtain ⟨m0, hm0⟩ : ∃ m, m = beginM (endsH N 3) 9 := ⟨_, rfl⟩
  rw [← hm0] at hU ⊢
  have M0E := Lib.hid hm0
  clear hm0 x0 x1 x2 x3 x4
  obtain ⟨a0, a1, a2, a3, n0, n1, n2, n3, e0, e1, e2, e3, ff0, ff1, ff2, ff3⟩ := mk_slices hU.weak
  subst ff0
  subst ff1
  subst ff2
  subst ff3
  have HU := Lib.hid hU
  have BQ := Lib.hid hb
  clear hU hb
  unfold mkv
  go_upto_region 4 with fail
  obtain ⟨bs, hbs⟩ : ∃ b, b = w2.heap.size := ⟨_, rfl⟩
  obtain ⟨w4, hw4⟩ : ∃ y, y = w2.alloc (.cells #[] 3) := ⟨_, rfl⟩
  have hn4 : Below w2.heap.size w2 w4 := by rw [hw4]; exact below_new _ _
  have h4s : w4.heap.size = bs + 1 := by rw [hw4, size_new, hbs]
  have ROW0 : Hid (Holds True (fun q => w2.heap.size ≤ q ∧ q < w4.heap.size) w4 (.slice (some ⟨bs, 0, none⟩) 0 0) (.row 1 ([] : List (List D)))) := Lib.hid (.nil _ _ _ _ _)
  rw [← hw4, ← hbs]
  have HU4 := Lib.hid (HU.out.later hn4)
  have BQ4 := Lib.hid (below_step' BQ.out hn4)
  have W24 : Hid (w2.heap.size ≤ w4.heap.size) := Lib.hid hn4.size
  have Y12 : Hid (y1.heap.size ≤ w2.heap.size) := Lib.hid BQ.out.size
  have BSW : Hid (bs = w2.heap.size) := Lib.hid hbs
  have DM0 : Hid (HoldsL False (fun q => q ≠ bs ∧ y1.heap.size ≤ q) w4 [.slice a0 n0 e0, .slice a1 n1 e1, .slice a2 n2 e2, .slice a3 n3 e3] m0.d) := Lib.hid ((HU.out.loose.wide (P' := fun q => q ≠ bs ∧ y1.heap.size ≤ q) (fun q hq hp => ⟨by omega, hp⟩)).later hn4)
  have B24 := Lib.hid hn4
  clear hw4 hbs hn4 HU BQ
  have HU := Lib.hid HU4.out
  have BQ := Lib.hid BQ4.out
  clear HU4 BQ4
  obtain ⟨bm, hbm⟩ : ∃ b, b = bs + 1 := ⟨_, rfl⟩
  have h4z : w4.heap.size = bm := by rw [hbm, ← h4s]
  obtain ⟨y2, hy2⟩ : ∃ y, y = w4.alloc (.cells #[.int .i64 m0.ep, .slice a0 n0 e0, .int .i64 m0.p.node, .int .i64 m0.p.state, .int .i64 m0.p.steps, .slice a1 n1 e1, .slice a2 n2 e2, .slice a3 n3 e3] 33) := ⟨_, rfl⟩
  have hn2 : Below w4.heap.size w4 y2 := by rw [hy2]; exact below_new _ _
  have Q2 := Lib.hid (below_step' BQ.out hn2)
  have LB : Hid (bh < y1.heap.size ∧ y1.heap.size ≤ bm ∧ bm ≠ bh ∧ w.heap.size ≤ bm ∧ w.heap.size ≤ bh) := Lib.hid (by have h1 := OH1.out.1; have h2 := BQ.out.size; have h3 := BW1.out.size; have h4 := LH.out; omega)
  have M0 : Hid (MIn bm bh m0 a0 a1 a2 a3 n0 n1 n2 n3 e0 e1 e2 e3 y2) := Lib.hid ⟨by rw [← h4z, hy2]; exact boxAt_new w4 [.int .i64 m0.ep, .slice a0 n0 e0, .int .i64 m0.p.node, .int .i64 m0.p.state, .int .i64 m0.p.steps, .slice a1 n1 e1, .slice a2 n2 e2, .slice a3 n3 e3] _, by rw [← h4z, hy2]; exact Open8.new _ _ _, (HU.out.loose.wide (P' := fun q => q ≠ bm ∧ q ≠ bh) (fun q hq (hp : y1.heap.size ≤ q) => by have h1 := LB.out; omega)).later hn2⟩
  have KH := Lib.hid (KH1.out.below Q2.out)
  have OH := Lib.hid (OH1.out.below Q2.out)
  have HG : Hid (HoldsL False (fun q => q ≠ bh ∧ q ≠ bm) y2 [.slice ga N gc, .slice gb N gd] (endsH N 3).d) := Lib.hid ((HG1.out.wide (P' := fun q => q ≠ bh ∧ q ≠ bm) (fun q hq hp => ⟨hp, by have h1 := LB.out; omega⟩)).later Q2.out)
  have B2 := Lib.hid (below_step' BW1.out Q2.out)
  rw [← hy2, ← hbm]
  have B22 := Lib.hid (below_step' B24.out hn2)
  have ROW : Hid (Holds True (fun q => q = bs ∨ y2.heap.size ≤ q) y2 (.slice (some ⟨bs, 0, none⟩) 0 0) (dNats [])) := Lib.hid (.nil _ _ _ _ _)
  have DM : Hid (HoldsL False (fun q => q ≠ bs ∧ q ≠ bm ∧ q ≠ bh) y2 [.slice a0 n0 e0, .slice a1 n1 e1, .slice a2 n2 e2, .slice a3 n3 e3] m0.d) := Lib.hid ((DM0.out.wide (P' := fun q => q ≠ bs ∧ q ≠ bm ∧ q ≠ bh) (fun q hq hp => ⟨hp.1, by have h1 := LB.out; have := hp.2; omega⟩)).later hn2)
  have HGs : Hid (HoldsL False (fun q => q ≠ bs ∧ q ≠ bh ∧ q ≠ bm) y2 [.slice ga N gc, .slice gb N gd] (endsH N 3).d) := Lib.hid ((HG1.out.wide (P' := fun q => q ≠ bs ∧ q ≠ bh ∧ q ≠ bm) (fun q hq hp => ⟨by have h1 := BSW.out; have h2 := Y12.out; omega, hp, by have h1 := LB.out; omega⟩)).later Q2.out)
  have W2S : Hid (w.heap.size ≤ w2.heap.size) := Lib.hid (by have h1 := BW1.out.size; have h3 := Y12.out; omega)
  have BMY : Hid (bm < y2.heap.size) := Lib.hid M0.out.opn.1
  have NB : Hid (bm ≠ bs ∧ bh ≠ bs ∧ bs < y2.heap.size ∧ w2.heap.size ≤ bs ∧ w2.heap.size ≤ y2.heap.size) := Lib.hid (by have h1 := LB.out; have h2 := BSW.out; have h3 := Y12.out; have h4 := hn2.size; have h5 := W24.out; omega)
  clear hy2 hbm h4z h4s hn2 HU BQ KH1 OH1 HG1 Q2 BW1 LH DM0 B24 BSW Y12 W24 ROW0 HG
  have M1 : Hid (MIn bm bh (mO N (List.range N)) a0 a1 a2 a3 n0 n1 n2 n3 e0 e1 e2 e3 y2) := Lib.hid (by rw [← mO_begin, ← M0E.out]; exact M0.out)
  have DM9 : Hid (HoldsL False (fun q => q ≠ bs ∧ q ≠ bm ∧ q ≠ bh) y2 [.slice a0 n0 e0, .slice a1 n1 e1, .slice a2 n2 e2, .slice a3 n3 e3] (mO N (List.range N)).d) := Lib.hid (by rw [← mO_begin, ← M0E.out]; exact DM.out)
  clear M0 M0E
  clear DM
  have DM : Hid (HoldsL False (fun q => q ≠ bs ∧ q ≠ bm ∧ q ≠ bh) y2 [.slice a0 n0 e0, .slice a1 n1 e1, .slice a2 n2 e2, .slice a3 n3 e3] (mO N (List.range N)).d) := Lib.hid DM9.out
  clear DM9
  go_wp2_with fail
  go_loopw [8, 9] (fun v i wr => ∃ j : Nat, i = .int .i64 j ∧ j ≤ N ∧ Holds True (fun q => q = bs ∨ y2.heap.size ≤ q) wr v (dNats (List.range j)) ∧ Below w2.heap.size w2 wr ∧ SameOn (fun q => q ≠ bs) y2 wr) (fun _ i _ => N - (intOf i).toNat)
  case atStart => exact ⟨0, rfl, Nat.zero_le _, ROW.out, B22.out, SameOn.refl _ _⟩
  case round =>
    obtain ⟨j, rfl, hj, hR, hb, hs⟩ := hrel
    obtain ⟨wr1, hw1⟩ : ∃ x, x = wr := ⟨_, rfl⟩
    subst hw1
    obtain ⟨xa, xc, e⟩ := slice_of (f := fun x : Nat => [dI (x : Int)]) (xs := List.range j) (by rw [← dNats_eq]; exact hR.weak)
    rw [List.length_range] at e
    subst e
    have RJ := Lib.hid hR
    have BJ := Lib.hid hb
    have SJ := Lib.hid hs
    clear hR hb hs ROW
    by_cases hlt : j < N
    · have hlt' : (j : Int) < N := by omega
      have BN := Lib.hid (below_new wr1 (.cells #[.int .i64 (j : Int)] 3))
      have R2 := Lib.hid ((by rw [← dNats_eq]; exact RJ.out.later BN.out : Holds True (fun q => q = bs ∨ y2.heap.size ≤ q) (wr1.alloc (.cells #[.int .i64 (j : Int)] 3)) (.slice xa j xc) (.row 1 ((List.range j).map fun x : Nat => [dI (x : Int)]))))
      have LN : Hid (((List.range j).map fun x : Nat => [dI (x : Int)]) ++ [[dI (j : Int)]] = (List.range (j + 1)).map fun x : Nat => [dI (x : Int)]) := Lib.hid (by rw [List.range_succ, List.map_append]; rfl)
      obtain ⟨xs, hxs⟩ : ∃ x, x = (List.range j).map fun x : Nat => [dI (x : Int)] := ⟨_, rfl⟩
      rw [← hxs] at R2 LN
      clear hxs
      go_wp2_with (at_builtin; refine appLK rfl _ _ 29 3 i0 (.int .i64 0) 1 8 rfl Try.underlying29 hi0 hz0 hs0 hby0 rfl (by decide) (fun q => q = bs ∨ y2.heap.size ≤ q) (fun _ => False) w2 (below_step' BJ.out BN.out) (fun q hq => by have := NB.out; omega) xa j xc xs [[dI (j : Int)]] 1 1 (j + 1) rfl R2.out (some ⟨wr1.heap.size, 0, none⟩) rfl [.int .i64 (j : Int)] news_new (fun e => by cases e) (by intro ds hds; rw [List.mem_singleton] at hds; subst hds; rfl) rfl (hold_one _ _) (fun _ h => h.elim) rfl (by unfold maxLen; omega) (by omega) ?_)
      intro ao cv w3 hH hS hB
      have RN : Hid (Holds True (fun q => q = bs ∨ y2.heap.size ≤ q) w3 (.slice ao (j + 1) cv) (dNats (List.range (j + 1)))) := Lib.hid (by
        rw [dNats_eq, ← LN.out]
        refine hH.wide (fun q _ hq => ?_)
        have h1 := SJ.out.1
        rcases hq with h | h
        · exact h
        · exact .inr (by rw [h]; omega))
      have SN : Hid (SameOn (fun q => q ≠ bs) y2 w3) := Lib.hid ⟨Nat.le_trans SJ.out.1 (Nat.le_trans BN.out.size hS.1), fun q hq hlt => by
        have h1 := SJ.out.2 q hq hlt
        have h2 := BN.out.block q (Nat.lt_of_lt_of_le hlt SJ.out.1)
        have h3 := hS.2 q (by omega) (Nat.lt_of_lt_of_le hlt (Nat.le_trans SJ.out.1 BN.out.size))
        exact h3.trans (h2.trans h1)⟩
      have BN3 := Lib.hid hB
      clear hH hS hB R2 LN BN
      go_wp2_with fail
      go_roundw
      case rel => exact ⟨j + 1, by go_num, by omega, RN.out, BN3.out, SN.out⟩
      case measure => simp [intOf]; omega
    · obtain rfl : N = j := by omega
      have hj3 : ¬ (N : Int) < N := by omega
      go_wp2_with fail
      have KHr := Lib.hid (KH.out.same SJ.out NB.out.2.1)
      have OHr := Lib.hid (OH.out.same SJ.out NB.out.2.1)
      have HGr : Hid (HoldsL False (fun q => q ≠ bh ∧ q ≠ bm) wr1 [.slice ga N gc, .slice gb N gd] (endsH N 3).d) := Lib.hid ((HGs.out.same (SJ.out.sub (fun q h => h.1))).wide (fun q _ h => h.2))
      have MW : Hid (MIn bm bh (mO N (List.range N)) a0 a1 a2 a3 n0 n1 n2 n3 e0 e1 e2 e3 wr1) := Lib.hid ⟨M1.out.box.same SJ.out NB.out.1, M1.out.opn.same SJ.out NB.out.1, (DM.out.same (SJ.out.sub (fun q h => h.1))).wide (fun q _ h => h.2)⟩
      have BWr : Hid (Below w.heap.size w wr1) := Lib.hid ⟨BJ.out.os.trans (B22.out.os.symm.trans B2.out.os), BJ.out.tape.trans (B22.out.tape.symm.trans B2.out.tape), BJ.out.output.trans (B22.out.output.symm.trans B2.out.output), Nat.le_trans B2.out.size SJ.out.1, fun q hq => (SJ.out.2 q (by have h1 := NB.out; have h2 := LB.out; have h3 := W2S.out; omega) (Nat.lt_of_lt_of_le hq B2.out.size)).trans (B2.out.block q hq)⟩
      have RW : Hid (Holds False (fun q => q ≠ bm) wr1 (.slice xa N xc) (dNats (List.range N))) := Lib.hid (RJ.out.loose.wide (fun q _ hq => by have h1 := NB.out; have h2 := BMY.out; omega))
      clear KH OH HGs DM M1 BJ SJ RJ B22 B2 NB
      obtain ⟨y2, hy2⟩ : ∃ y, y = wr1 := ⟨_, rfl⟩
      rw [← hy2] at KHr OHr HGr MW BWr RW ⊢
      have KH := Lib.hid KHr.out
      have OH := Lib.hid OHr.out
      have HG := Lib.hid HGr.out
      clear hy2 KHr OHr HGr
      go_loopw [8, 10] (fun v i wr => ∃ (j q : Nat) (left : List Nat) (xa : Option Addr) (xc : Nat) (c0 c1 c2 c3 : Option Addr) (s0 s1 s2 s3 t0 t1 t2 t3 : Nat), i = .int .i64 j ∧ v = .slice xa q xc ∧ q = left.length ∧ j ≤ N ∧ LeftOK N j left ∧ MIn bm bh (mO N left) c0 c1 c2 c3 s0 s1 s2 s3 t0 t1 t2 t3 wr ∧ Holds False (fun q => q ≠ bm) wr (.slice xa q xc) (dNats left) ∧ Below w.heap.size w wr ∧ SameOn (fun q => q ≠ bm) y2 wr) (fun _ i _ => N - (intOf i).toNat)
      case atStart => exact ⟨0, N, List.range N, xa, xc, a0, a1, a2, a3, n0, n1, n2, n3, e0, e1, e2, e3, rfl, rfl, by simp, Nat.zero_le _, LeftOK.start N, MW.out, RW.out, BWr.out, SameOn.refl _ _⟩
      case round =>
        clear MW RW BWr
        obtain ⟨j, q, left, xa, xc, c0, c1, c2, c3, s0, s1, s2, s3, t0, t1, t2, t3, rfl, rfl, hq, hj, hlo, hM, hR, hb, hs⟩ := hrel
        obtain ⟨wr1, hw1⟩ : ∃ x, x = wr := ⟨_, rfl⟩
        subst hw1
        obtain ⟨m, hm⟩ : ∃ m, m = mO N left := ⟨_, rfl⟩
        rw [← hm] at hM
        have ME := Lib.hid hm
        have SM : Hid (SmallMk m) := Lib.hid (by rw [hm]; exact mO_small (by omega))
        have LOK := Lib.hid hlo
        have QL := Lib.hid hq
        have MJ := Lib.hid hM
        have RJ := Lib.hid hR
        have BJ := Lib.hid hb
        have SJ := Lib.hid hs
        have hqn : q + j = N := by rw [hq]; exact hlo.len
        clear hM hb hs hR hlo hq hm
        by_cases hlt : j < N
        · have hlt' : (j : Int) < N := by omega
          by_cases hlp : j < k
          · have hlp' : (j : Int) < k := by omega
            obtain ⟨px, hpx⟩ := some_of_lt (l := L) (i := j) (by rw [← HK.out]; exact hlp)
            obtain ⟨pb, po, ee, pc⟩ := u8_at (h.later BJ.out) hpx
            subst ee
            obtain ⟨xn, hxn⟩ : ∃ n, n = px.val := ⟨_, rfl⟩
            rw [← hxn] at pc
            have hx6 : xn < 256 := by rw [hxn]; exact px.isLt
            have hxw : IntKind.i64.wrap (xn : Int) = (xn : Int) := IntWalk.i64_in _ (by omega)
            obtain ⟨kk, hkk⟩ : ∃ n, n = xn % q := ⟨_, rfl⟩
            have hmod : (xn : Int).tmod (q : Int) = (kk : Int) := by rw [hkk]; rfl
            have hq0 : ¬ (q : Int) = 0 := by omega
            have hq1 : ((q : Int) == 0) = false := by simp; omega
            have KQ : Hid (kk < q) := Lib.hid (by rw [hkk]; exact Nat.mod_lt _ (by omega))
            clear hpx hxn hkk
            have kql : kk < q := KQ.out
            have kql' : (kk : Int) < q := by omega
            obtain ⟨xv, hxv⟩ := some_of_lt (l := left) (i := kk) (by rw [← QL.out]; exact KQ.out)
            have hcap : q ≤ xc := capOf (n := 1) (xs := left.map fun x : Nat => [dI (x : Int)]) (by rw [← dNats_eq]; exact RJ.out)
            have hkc : kk ≤ xc := by omega
            have hkq : kk + 1 ≤ q := by omega
            have hq6 : q ≤ 6 := by omega
            obtain ⟨lb, lo, ee, xc1⟩ := num_at (x := (xv : Int)) RJ.out.weak (by rw [List.getElem?_map, hxv]; rfl)
            subst ee
            have XL : Hid (xv < N) := Lib.hid (LOK.out.lt xv (List.mem_of_getElem? hxv))
            obtain ⟨mn, hmn⟩ : ∃ r, r = mO N (left.eraseIdx kk) := ⟨_, rfl⟩
            have MC : Hid (markM m (endsH N 3) 9 (xv : Int) = (mn, false)) := Lib.hid (by rw [ME.out, hmn]; exact mO_next LOK.out.nodup hxv XL.out 3)
            have LOK2 := Lib.hid (LOK.out.next (k := kk) (by rw [← QL.out]; exact KQ.out))
            have DN : Hid (Calls Try.prog 17 #[mkv m (.slice c0 s0 t0) (.slice c1 s1 t1) (.slice c2 s2 t2) (.slice c3 s3 t3), .int .i64 9] wr1 fun e w' => e = .returned (.bool false) ∧ Below wr1.heap.size wr1 w') := Lib.hid (by
              have p := done_at m 9 _ _ _ _ wr1 MJ.out.dat.weak SM.out
              rw [show doneM m 9 = false by rw [ME.out]; exact mO_full (List.mem_of_getElem? hxv) XL.out] at p
              exact p)
            have MNE := Lib.hid hmn
            unfold mkv at DN
            have XC1 := Lib.hid xc1
            clear hmn hxv xc1
            have cc0 := MJ.out.box 0 _ rfl
            have cc1 := MJ.out.box 1 _ rfl
            have cc2 := MJ.out.box 2 _ rfl
            have cc3 := MJ.out.box 3 _ rfl
            have cc4 := MJ.out.box 4 _ rfl
            have cc5 := MJ.out.box 5 _ rfl
            have cc6 := MJ.out.box 6 _ rfl
            have cc7 := MJ.out.box 7 _ rfl
            go_wp2_with fail
            refine DN.out.mono ?_
            rintro e wd ⟨rfl, hb⟩
            have MJd := Lib.hid (MJ.out.below hb)
            have BJd := Lib.hid (below_step' BJ.out hb)
            have SJd := Lib.hid (SJ.out.trans (SameOn.of_below hb))
            have RJd := Lib.hid (RJ.out.later hb)
            have XCd := Lib.hid ((hb.cell (World.block_lt_of_cell? wr1 _ XC1.out)).trans XC1.out)
            clear hb DN cc0 cc1 cc2 cc3 cc4 cc5 cc6 cc7 MJ BJ SJ RJ XC1
            obtain ⟨wr1, hwr⟩ : ∃ y, y = wd := ⟨_, rfl⟩
            rw [← hwr] at MJd BJd SJd RJd XCd ⊢
            have MJ := Lib.hid MJd.out
            have BJ := Lib.hid BJd.out
            have SJ := Lib.hid SJd.out
            have RJ := Lib.hid RJd.out
            have XC1 := Lib.hid XCd.out
            clear hwr MJd BJd SJd RJd XCd
            have KHr := Lib.hid (KH.out.same SJ.out (Ne.symm LB.out.2.2.1))
            have HGr : Hid (HasL wr1 [.slice ga N gc, .slice gb N gd] (endsH N 3).d) := Lib.hid (HG.out.same (SJ.out.sub (fun q h => h.2))).weak
            go_wp2_with fail
            refine wp_region_held_drew (S := (fun w' => w'.cell? ⟨bm, 0, none⟩ = some (.int .i64 m.ep) ∧ w'.cell? ⟨bm, 1, none⟩ = some (.slice c0 s0 t0) ∧ w'.cell? ⟨bm, 2, none⟩ = some (.int .i64 m.p.node) ∧ w'.cell? ⟨bm, 3, none⟩ = some (.int .i64 m.p.state) ∧ w'.cell? ⟨bm, 4, none⟩ = some (.int .i64 m.p.steps) ∧ w'.cell? ⟨bm, 5, none⟩ = some (.slice c1 s1 t1) ∧ w'.cell? ⟨bm, 6, none⟩ = some (.slice c2 s2 t2) ∧ w'.cell? ⟨bm, 7, none⟩ = some (.slice c3 s3 t3) ∧ w'.cell? ⟨bh, 0, none⟩ = some (.int .i64 1) ∧ w'.cell? ⟨bh, 1, none⟩ = some (.int .i64 2) ∧ w'.cell? ⟨bh, 2, none⟩ = some (.int .i64 3) ∧ w'.cell? ⟨bh, 3, none⟩ = some (.slice ga N gc) ∧ w'.cell? ⟨bh, 4, none⟩ = some (.slice gb N gd) ∧ w'.cell? ⟨lb, lo + kk, none⟩ = some (.int .i64 (xv : Int)))) (by kernel_rfl) ?_ (fun hHeld => ?_)
            · exact ⟨MJ.out.box.below (below_drewN (Below.refl _ wr1) 1) 0 _ rfl, MJ.out.box.below (below_drewN (Below.refl _ wr1) 1) 1 _ rfl, MJ.out.box.below (below_drewN (Below.refl _ wr1) 1) 2 _ rfl, MJ.out.box.below (below_drewN (Below.refl _ wr1) 1) 3 _ rfl, MJ.out.box.below (below_drewN (Below.refl _ wr1) 1) 4 _ rfl, MJ.out.box.below (below_drewN (Below.refl _ wr1) 1) 5 _ rfl, MJ.out.box.below (below_drewN (Below.refl _ wr1) 1) 6 _ rfl, MJ.out.box.below (below_drewN (Below.refl _ wr1) 1) 7 _ rfl, KHr.out.below (below_drewN (Below.refl _ wr1) 1) 0 _ rfl, KHr.out.below (below_drewN (Below.refl _ wr1) 1) 1 _ rfl, KHr.out.below (below_drewN (Below.refl _ wr1) 1) 2 _ rfl, KHr.out.below (below_drewN (Below.refl _ wr1) 1) 3 _ rfl, KHr.out.below (below_drewN (Below.refl _ wr1) 1) 4 _ rfl, ((below_drewN (Below.refl _ wr1) 1).cell (World.block_lt_of_cell? wr1 _ XC1.out)).trans XC1.out⟩
            obtain ⟨z0, hz0⟩ : ∃ y, y = wr1.drew := ⟨_, rfl⟩
            rw [← hz0] at hHeld ⊢
            have BZ : Hid (Below wr1.heap.size wr1 z0) := Lib.hid (by rw [hz0]; exact below_drewN (Below.refl _ wr1) 1)
            clear hz0
            have QX : Hid (∀ w', Below z0.heap.size z0 w' → (fun w' => w'.cell? ⟨bm, 0, none⟩ = some (.int .i64 m.ep) ∧ w'.cell? ⟨bm, 1, none⟩ = some (.slice c0 s0 t0) ∧ w'.cell? ⟨bm, 2, none⟩ = some (.int .i64 m.p.node) ∧ w'.cell? ⟨bm, 3, none⟩ = some (.int .i64 m.p.state) ∧ w'.cell? ⟨bm, 4, none⟩ = some (.int .i64 m.p.steps) ∧ w'.cell? ⟨bm, 5, none⟩ = some (.slice c1 s1 t1) ∧ w'.cell? ⟨bm, 6, none⟩ = some (.slice c2 s2 t2) ∧ w'.cell? ⟨bm, 7, none⟩ = some (.slice c3 s3 t3) ∧ w'.cell? ⟨bh, 0, none⟩ = some (.int .i64 1) ∧ w'.cell? ⟨bh, 1, none⟩ = some (.int .i64 2) ∧ w'.cell? ⟨bh, 2, none⟩ = some (.int .i64 3) ∧ w'.cell? ⟨bh, 3, none⟩ = some (.slice ga N gc) ∧ w'.cell? ⟨bh, 4, none⟩ = some (.slice gb N gd) ∧ w'.cell? ⟨lb, lo + kk, none⟩ = some (.int .i64 (xv : Int))) w') := Lib.hid (fun w' hb => ⟨MJ.out.box.below (below_step' BZ.out hb) 0 _ rfl, MJ.out.box.below (below_step' BZ.out hb) 1 _ rfl, MJ.out.box.below (below_step' BZ.out hb) 2 _ rfl, MJ.out.box.below (below_step' BZ.out hb) 3 _ rfl, MJ.out.box.below (below_step' BZ.out hb) 4 _ rfl, MJ.out.box.below (below_step' BZ.out hb) 5 _ rfl, MJ.out.box.below (below_step' BZ.out hb) 6 _ rfl, MJ.out.box.below (below_step' BZ.out hb) 7 _ rfl, KHr.out.below (below_step' BZ.out hb) 0 _ rfl, KHr.out.below (below_step' BZ.out hb) 1 _ rfl, KHr.out.below (below_step' BZ.out hb) 2 _ rfl, KHr.out.below (below_step' BZ.out hb) 3 _ rfl, KHr.out.below (below_step' BZ.out hb) 4 _ rfl, ((below_step' BZ.out hb).cell (World.block_lt_of_cell? wr1 _ XC1.out)).trans XC1.out⟩)
            have CM : Hid (∀ wx, Below z0.heap.size z0 wx → Calls Try.prog 10 #[.agg #[.int .i64 m.ep, .slice c0 s0 t0, .int .i64 m.p.node, .int .i64 m.p.state, .int .i64 m.p.steps, .slice c1 s1 t1, .slice c2 s2 t2, .slice c3 s3 t3], .agg #[.int .i64 1, .int .i64 2, .int .i64 3, .slice ga N gc, .slice gb N gd], .int .i64 9, .int .i64 (xv : Int)] wx (MkTold2 mn false wx)) := Lib.hid (fun wx hb => by
              have p := marker_at m (endsH N 3) 9 (xv : Int) _ _ _ _ _ _ wx (MJ.out.dat.weak.later (below_step' BZ.out hb)) (HGr.out.later (below_step' BZ.out hb)) SM.out (ends_small N 3 (by omega)).1 (by rw [(ends_small N 3 (by omega)).2]; omega)
              rw [MC.out] at p
              exact p)
            have SZ0 : Hid (bm < z0.heap.size ∧ bh < z0.heap.size ∧ lb < z0.heap.size) := Lib.hid (by
              have h1 := MJ.out.opn.1
              have h2 := Nat.lt_of_lt_of_le OH.out.1 SJ.out.1
              have h3 := World.block_lt_of_cell? wr1 _ XC1.out
              simp at h3
              have h5 := BZ.out.size
              omega)
            refine tq 0 ?_
            refine tq 1 ?_
            refine tq 2 ?_
            refine tq 3 ?_
            refine tq 4 ?_
            refine tq 5 ?_
            refine wpAnyH_ready (rs := [6, 10]) (by kernel_rfl) (by simp) ?_
            refine AllReadyH.cons rfl (fun K hK => ?_) (AllReadyH.cons rfl (fun K hK => ?_) AllReadyH.nil)
            · skip
              go_simp
              refine (CM.out z0 (Below.refl _ z0)).mono ?_
              rintro e z1 ⟨v0, v1, v2, v3, rfl, hU, hb⟩
              obtain ⟨u0, u1, u2, u3, k0, k1, k2, k3, f0, f1, f2, f3, ff0, ff1, ff2, ff3⟩ := mk_slices hU.weak
              subst ff0
              subst ff1
              subst ff2
              subst ff3
              unfold mkv
              have HU1 := Lib.hid hU
              have BX1 := Lib.hid hb
              clear hU hb
              go_wp2_with fail
              refine hK.out _ _ ?_ (fun hHeld => ?_)
              · exact QX.out _ BX1.out
              clear hK K
              refine tq 7 ?_
              refine tq 8 ?_
              refine tq 9 ?_
              refine rd 10 fun K hK => ?_
              go_simp
              obtain ⟨bx, hbx⟩ : ∃ b, b = z1.heap.size := ⟨_, rfl⟩
              obtain ⟨wx, hwx⟩ : ∃ y, y = z1.alloc (.cells #[.int .i64 0, .slice none 0 0, .int .i64 0, .int .i64 0, .int .i64 0, .slice none 0 0, .slice none 0 0, .slice none 0 0] 33) := ⟨_, rfl⟩
              have hn : Below z1.heap.size z1 wx := by rw [hwx]; exact below_new _ _
              have KN : Hid (BoxAt bx [.int .i64 0, .slice none 0 0, .int .i64 0, .int .i64 0, .int .i64 0, .slice none 0 0, .slice none 0 0, .slice none 0 0] wx) := Lib.hid (by rw [hbx, hwx]; exact boxAt_new z1 [.int .i64 0, .slice none 0 0, .int .i64 0, .int .i64 0, .int .i64 0, .slice none 0 0, .slice none 0 0, .slice none 0 0] _)
              have ON : Hid (Open8 bx wx) := Lib.hid (by rw [hbx, hwx]; exact Open8.new _ _ _)
              have HU := Lib.hid ((HU1.out.loose.wide (P' := fun q => z0.heap.size ≤ q ∧ q ≠ bx) (fun q hq hp => ⟨hp, by omega⟩)).later hn)
              have XY : Hid (z0.heap.size ≤ bx) := Lib.hid (by rw [hbx]; exact BX1.out.size)
              have BX := Lib.hid (below_step' BX1.out hn)
              rw [← hwx, ← hbx]
              clear hwx hbx hn HU1 BX1
              refine hK.out _ _ ?_ (fun hHeld => ?_)
              · exact QX.out _ BX.out
              clear hK K
              have NE : Hid (bm ≠ bx ∧ bh ≠ bx ∧ lb ≠ bx) := Lib.hid (by have h1 := SZ0.out; have h2 := XY.out; omega)
              have cc0 := KN.out 0 _ rfl
              have cc1 := KN.out 1 _ rfl
              have cc2 := KN.out 2 _ rfl
              have cc3 := KN.out 3 _ rfl
              have cc4 := KN.out 4 _ rfl
              have cc5 := KN.out 5 _ rfl
              have cc6 := KN.out 6 _ rfl
              have cc7 := KN.out 7 _ rfl
              have g0 := ON.out.2 0
              have g1 := ON.out.2 1
              have g2 := ON.out.2 2
              have g3 := ON.out.2 3
              have g4 := ON.out.2 4
              have g5 := ON.out.2 5
              have g6 := ON.out.2 6
              have g7 := ON.out.2 7
              have q9 := QX.out _ BX.out
              have SNH : Hid ((fun w' => w'.cell? ⟨bm, 0, none⟩ = some (.int .i64 m.ep) ∧ w'.cell? ⟨bm, 1, none⟩ = some (.slice c0 s0 t0) ∧ w'.cell? ⟨bm, 2, none⟩ = some (.int .i64 m.p.node) ∧ w'.cell? ⟨bm, 3, none⟩ = some (.int .i64 m.p.state) ∧ w'.cell? ⟨bm, 4, none⟩ = some (.int .i64 m.p.steps) ∧ w'.cell? ⟨bm, 5, none⟩ = some (.slice c1 s1 t1) ∧ w'.cell? ⟨bm, 6, none⟩ = some (.slice c2 s2 t2) ∧ w'.cell? ⟨bm, 7, none⟩ = some (.slice c3 s3 t3) ∧ w'.cell? ⟨bh, 0, none⟩ = some (.int .i64 1) ∧ w'.cell? ⟨bh, 1, none⟩ = some (.int .i64 2) ∧ w'.cell? ⟨bh, 2, none⟩ = some (.int .i64 3) ∧ w'.cell? ⟨bh, 3, none⟩ = some (.slice ga N gc) ∧ w'.cell? ⟨bh, 4, none⟩ = some (.slice gb N gd) ∧ w'.cell? ⟨lb, lo + kk, none⟩ = some (.int .i64 (xv : Int))) (setN wx bx 0 [.int .i64 mn.ep, .slice u0 k0 f0, .int .i64 mn.p.node, .int .i64 mn.p.state, .int .i64 mn.p.steps, .slice u1 k1 f1, .slice u2 k2 f2, .slice u3 k3 f3])) := Lib.hid ⟨setN_cell NE.out.1 (q9.1), setN_cell NE.out.1 (q9.2.1), setN_cell NE.out.1 (q9.2.2.1), setN_cell NE.out.1 (q9.2.2.2.1), setN_cell NE.out.1 (q9.2.2.2.2.1), setN_cell NE.out.1 (q9.2.2.2.2.2.1), setN_cell NE.out.1 (q9.2.2.2.2.2.2.1), setN_cell NE.out.1 (q9.2.2.2.2.2.2.2.1), setN_cell NE.out.2.1 (q9.2.2.2.2.2.2.2.2.1), setN_cell NE.out.2.1 (q9.2.2.2.2.2.2.2.2.2.1), setN_cell NE.out.2.1 (q9.2.2.2.2.2.2.2.2.2.2.1), setN_cell NE.out.2.1 (q9.2.2.2.2.2.2.2.2.2.2.2.1), setN_cell NE.out.2.1 (q9.2.2.2.2.2.2.2.2.2.2.2.2.1), setN_cell NE.out.2.2 (q9.2.2.2.2.2.2.2.2.2.2.2.2.2)⟩
              clear q9
              refine rd 11 fun K hK => ?_
              go_simp
              refine hK.out _ _ ?_ (fun hHeld => ?_)
              · exact SNH.out
              clear hK K
              refine tq 12 ?_
              refine wpAnyH_done (by kernel_rfl) ?_ _
              change Exit.then _ _ Exit.normal _ (setN wx bx 0 [.int .i64 mn.ep, .slice u0 k0 f0, .int .i64 mn.p.node, .int .i64 mn.p.state, .int .i64 mn.p.steps, .slice u1 k1 f1, .slice u2 k2 f2, .slice u3 k3 f3])
              have KB : Hid (BoxAt bx [.int .i64 mn.ep, .slice u0 k0 f0, .int .i64 mn.p.node, .int .i64 mn.p.state, .int .i64 mn.p.steps, .slice u1 k1 f1, .slice u2 k2 f2, .slice u3 k3 f3] (setN wx bx 0 [.int .i64 mn.ep, .slice u0 k0 f0, .int .i64 mn.p.node, .int .i64 mn.p.state, .int .i64 mn.p.steps, .slice u1 k1 f1, .slice u2 k2 f2, .slice u3 k3 f3])) := Lib.hid (setN_box [.int .i64 mn.ep, .slice u0 k0 f0, .int .i64 mn.p.node, .int .i64 mn.p.state, .int .i64 mn.p.steps, .slice u1 k1 f1, .slice u2 k2 f2, .slice u3 k3 f3] 0 _ wx KN.out (by simp))
              have MZ2 := Lib.hid (MJ.out.other (below_step' BZ.out BX.out) (Nat.le_trans BZ.out.size XY.out) 0 [.int .i64 mn.ep, .slice u0 k0 f0, .int .i64 mn.p.node, .int .i64 mn.p.state, .int .i64 mn.p.steps, .slice u1 k1 f1, .slice u2 k2 f2, .slice u3 k3 f3])
              have DZ2 : Hid (HoldsL False (fun q => q ≠ bm ∧ q ≠ bh) (setN wx bx 0 [.int .i64 mn.ep, .slice u0 k0 f0, .int .i64 mn.p.node, .int .i64 mn.p.state, .int .i64 mn.p.steps, .slice u1 k1 f1, .slice u2 k2 f2, .slice u3 k3 f3]) [.slice u0 k0 f0, .slice u1 k1 f1, .slice u2 k2 f2, .slice u3 k3 f3] mn.d) := Lib.hid ((HU.out.same (setN_same (P := fun q => z0.heap.size ≤ q ∧ q ≠ bx) (b := bx) (fun h => h.2 rfl) [.int .i64 mn.ep, .slice u0 k0 f0, .int .i64 mn.p.node, .int .i64 mn.p.state, .int .i64 mn.p.steps, .slice u1 k1 f1, .slice u2 k2 f2, .slice u3 k3 f3] 0 wx (SameOn.refl _ _))).wide (fun q _ (hq : z0.heap.size ≤ q ∧ q ≠ bx) => by have := SZ0.out; omega))
              have BN1 := Lib.hid (setN_below (Nat.le_trans BJ.out.size (Nat.le_trans BZ.out.size XY.out)) [.int .i64 mn.ep, .slice u0 k0 f0, .int .i64 mn.p.node, .int .i64 mn.p.state, .int .i64 mn.p.steps, .slice u1 k1 f1, .slice u2 k2 f2, .slice u3 k3 f3] 0 wx (below_step' BJ.out (below_step' BZ.out BX.out)))
              have SN1 : Hid (SameOn (fun q => q ≠ bm) wr1 (setN wx bx 0 [.int .i64 mn.ep, .slice u0 k0 f0, .int .i64 mn.p.node, .int .i64 mn.p.state, .int .i64 mn.p.steps, .slice u1 k1 f1, .slice u2 k2 f2, .slice u3 k3 f3])) := Lib.hid ((SameOn.of_below BZ.out).trans ⟨by rw [setN_size]; exact BX.out.size, fun q _ hq => (setN_same (P := fun q => q < z0.heap.size) (b := bx) (fun h => Nat.not_lt.2 XY.out h) [.int .i64 mn.ep, .slice u0 k0 f0, .int .i64 mn.p.node, .int .i64 mn.p.state, .int .i64 mn.p.steps, .slice u1 k1 f1, .slice u2 k2 f2, .slice u3 k3 f3] 0 wx (SameOn.of_below BX.out)).2 q hq hq⟩)
              obtain ⟨z2, hz2⟩ : ∃ x, x = setN wx bx 0 [.int .i64 mn.ep, .slice u0 k0 f0, .int .i64 mn.p.node, .int .i64 mn.p.state, .int .i64 mn.p.steps, .slice u1 k1 f1, .slice u2 k2 f2, .slice u3 k3 f3] := ⟨_, rfl⟩
              rw [← hz2] at KB MZ2 DZ2 BN1 SN1 ⊢
              clear hz2 cc0 cc1 cc2 cc3 cc4 cc5 cc6 cc7 g0 g1 g2 g3 g4 g5 g6 g7 SNH hHeld
              have cc0 := KB.out 0 _ rfl
              have cc1 := KB.out 1 _ rfl
              have cc2 := KB.out 2 _ rfl
              have cc3 := KB.out 3 _ rfl
              have cc4 := KB.out 4 _ rfl
              have cc5 := KB.out 5 _ rfl
              have cc6 := KB.out 6 _ rfl
              have cc7 := KB.out 7 _ rfl
              have dd0 := MZ2.out.box 0 _ rfl
              have dd1 := MZ2.out.box 1 _ rfl
              have dd2 := MZ2.out.box 2 _ rfl
              have dd3 := MZ2.out.box 3 _ rfl
              have dd4 := MZ2.out.box 4 _ rfl
              have dd5 := MZ2.out.box 5 _ rfl
              have dd6 := MZ2.out.box 6 _ rfl
              have dd7 := MZ2.out.box 7 _ rfl
              have g0 := MZ2.out.opn.2 0
              have g1 := MZ2.out.opn.2 1
              have g2 := MZ2.out.opn.2 2
              have g3 := MZ2.out.opn.2 3
              have g4 := MZ2.out.opn.2 4
              have g5 := MZ2.out.opn.2 5
              have g6 := MZ2.out.opn.2 6
              have g7 := MZ2.out.opn.2 7
              go_upto_region 20 with fail
              change Code.wp _ _ _ _ (setN z2 bm 0 [.int .i64 mn.ep, .slice u0 k0 f0, .int .i64 mn.p.node, .int .i64 mn.p.state, .int .i64 mn.p.steps, .slice u1 k1 f1, .slice u2 k2 f2, .slice u3 k3 f3])
              have MN : Hid (MIn bm bh mn u0 u1 u2 u3 k0 k1 k2 k3 f0 f1 f2 f3 (setN z2 bm 0 [.int .i64 mn.ep, .slice u0 k0 f0, .int .i64 mn.p.node, .int .i64 mn.p.state, .int .i64 mn.p.steps, .slice u1 k1 f1, .slice u2 k2 f2, .slice u3 k3 f3])) := Lib.hid (MZ2.out.put DZ2.out)
              have BN : Hid (Below w.heap.size w (setN z2 bm 0 [.int .i64 mn.ep, .slice u0 k0 f0, .int .i64 mn.p.node, .int .i64 mn.p.state, .int .i64 mn.p.steps, .slice u1 k1 f1, .slice u2 k2 f2, .slice u3 k3 f3])) := Lib.hid (setN_below LB.out.2.2.2.1 [.int .i64 mn.ep, .slice u0 k0 f0, .int .i64 mn.p.node, .int .i64 mn.p.state, .int .i64 mn.p.steps, .slice u1 k1 f1, .slice u2 k2 f2, .slice u3 k3 f3] 0 z2 BN1.out)
              have SN : Hid (SameOn (fun q => q ≠ bm) wr1 (setN z2 bm 0 [.int .i64 mn.ep, .slice u0 k0 f0, .int .i64 mn.p.node, .int .i64 mn.p.state, .int .i64 mn.p.steps, .slice u1 k1 f1, .slice u2 k2 f2, .slice u3 k3 f3])) := Lib.hid (setN_same (P := fun q => q ≠ bm) (b := bm) (fun h => h rfl) [.int .i64 mn.ep, .slice u0 k0 f0, .int .i64 mn.p.node, .int .i64 mn.p.state, .int .i64 mn.p.steps, .slice u1 k1 f1, .slice u2 k2 f2, .slice u3 k3 f3] 0 z2 SN1.out)
              obtain ⟨wn, hwn⟩ : ∃ x, x = setN z2 bm 0 [.int .i64 mn.ep, .slice u0 k0 f0, .int .i64 mn.p.node, .int .i64 mn.p.state, .int .i64 mn.p.steps, .slice u1 k1 f1, .slice u2 k2 f2, .slice u3 k3 f3] := ⟨_, rfl⟩
              rw [← hwn] at MN BN SN ⊢
              clear hwn cc0 cc1 cc2 cc3 cc4 cc5 cc6 cc7 dd0 dd1 dd2 dd3 dd4 dd5 dd6 dd7 g0 g1 g2 g3 g4 g5 g6 g7 DZ2 MZ2 KB BN1 SN1 KN ON HU BX XY NE
              have RN : Hid (Has wn (.slice (some ⟨lb, lo, none⟩) q xc) (.row 1 (left.map fun x : Nat => [dI (x : Int)]))) := Lib.hid (by rw [← dNats_eq]; exact (RJ.out.same SN.out).weak)
              have BE := Lib.hid (below_new wn (.cells #[] 3))
              have R1 : Hid (Has (wn.alloc (.cells #[] 3)) (.slice (some ⟨lb, lo, none⟩) kk xc) (.row 1 ((left.take kk).map fun x : Nat => [dI (x : Int)]))) := Lib.hid (by
                have h := (RN.out.take (m := kk) (by rw [List.length_map]; have := QL.out; omega)).later BE.out
                rw [← List.map_take] at h
                exact h)
              obtain ⟨hl1, hn1, news1, hw1, hL1⟩ := newsOf R1.out (fun ds hd => by obtain ⟨_, _, rfl⟩ := List.mem_map.1 hd; rfl) (flat_nats _)
              have HL1 := Lib.hid hl1
              have HN1 := Lib.hid hn1
              have HW1 := Lib.hid hw1
              have HH1 := Lib.hid (hL1 True (fun _ => False))
              clear hl1 hn1 hw1 hL1
              obtain ⟨ys1, hys1⟩ : ∃ y, y = (left.take kk).map fun x : Nat => [dI (x : Int)] := ⟨_, rfl⟩
              rw [← hys1] at HL1 HH1
              have YS1 := Lib.hid hys1
              have F1 : Hid (∀ ds ∈ ys1, ds.length = 1) := Lib.hid (fun ds hd => by rw [hys1] at hd; obtain ⟨_, _, rfl⟩ := List.mem_map.1 hd; rfl)
              clear hys1
              go_wp2_with (at_builtin; refine appLK rfl _ _ 29 3 i0 (.int .i64 0) 1 8 rfl Try.underlying29 hi0 hz0 hs0 hby0 rfl (by decide) (fun q => wn.heap.size ≤ q) (fun _ => False) wn BE.out (fun q hq => hq) (some ⟨wn.heap.size, 0, none⟩) 0 0 [] ys1 kk xc kk rfl (.nil _ _ _ _ _) (some ⟨lb, lo, none⟩) rfl news1 HW1.out HN1.out F1.out HL1.out HH1.out (fun _ h => h.elim) (Nat.zero_add _) (by unfold maxLen; omega) (by omega) ?_)
              intro ao cv w5 hH hS hB
              have RA : Hid (Holds True (fun q => wn.heap.size ≤ q) w5 (.slice ao kk cv) (.row 1 ys1)) := Lib.hid (by
                have h2 := hH.wide (P' := fun q => wn.heap.size ≤ q) (fun q _ hq => by
                  rcases hq with h | h
                  · exact h
                  · have h3 := BE.out.size; rw [size_new] at h3; show wn.heap.size ≤ q; omega)
                simpa using h2)
              have BA := Lib.hid hB
              clear hH hS hB HL1 HN1 HW1 HH1 R1
              obtain ⟨sd, hsd⟩ : ∃ x, (if xc = kk + 1 then some ⟨lb, lo, none⟩ else Option.map (fun x => x.add ((kk + 1) * 1)) (some (⟨lb, lo, none⟩ : Addr))) = x := ⟨_, rfl⟩
              have R2 : Hid (Has w5 (.slice sd (q - (kk + 1)) (xc - (kk + 1))) (.row 1 ((left.drop (kk + 1)).map fun x : Nat => [dI (x : Int)]))) := Lib.hid (by
                have h := holds_drop (k := kk + 1) (RN.out.later BA.out) (by omega)
                rw [← List.map_drop, hsd] at h
                exact h)
              have hsd2 : (if xc = kk + 1 then (some ⟨lb, lo, none⟩ : Option Addr) else some ⟨lb, lo + (kk + 1), none⟩) = sd := by rw [← hsd]; simp [Addr.add]
              clear hsd
              obtain ⟨hl1, hn1, news2, hw1, hL1⟩ := newsOf R2.out (fun ds hd => by obtain ⟨_, _, rfl⟩ := List.mem_map.1 hd; rfl) (flat_nats _)
              have HL1 := Lib.hid hl1
              have HN1 := Lib.hid hn1
              have HW1 := Lib.hid hw1
              have HH1 := Lib.hid (hL1 True (fun _ => False))
              clear hl1 hn1 hw1 hL1
              obtain ⟨ys2, hys2⟩ : ∃ y, y = (left.drop (kk + 1)).map fun x : Nat => [dI (x : Int)] := ⟨_, rfl⟩
              rw [← hys2] at HL1 HH1
              have F2 : Hid (∀ ds ∈ ys2, ds.length = 1) := Lib.hid (fun ds hd => by rw [hys2] at hd; obtain ⟨_, _, rfl⟩ := List.mem_map.1 hd; rfl)
              have ROWS : Hid (ys1 ++ ys2 = (left.eraseIdx kk).map fun x : Nat => [dI (x : Int)]) := Lib.hid (by rw [YS1.out, hys2]; exact erase_rows)
              have hlen : kk + (q - (kk + 1)) = q - 1 := by omega
              clear hys2 RN R2
              go_wp2_with (at_builtin; refine appLK rfl _ _ 29 3 i0 (.int .i64 0) 1 8 rfl Try.underlying29 hi0 hz0 hs0 hby0 rfl (by decide) (fun q => wn.heap.size ≤ q) (fun _ => False) wn BA.out (fun q hq => hq) ao kk cv ys1 ys2 (q - (kk + 1)) (xc - (kk + 1)) (q - 1) rfl RA.out sd rfl news2 HW1.out HN1.out F2.out HL1.out HH1.out (fun _ h => h.elim) hlen (by unfold maxLen; omega) (by omega) ?_)
              intro ao2 cv2 w6 hH hS hB
              have RF : Hid (Holds False (fun q => q ≠ bm) w6 (.slice ao2 (q - 1) cv2) (dNats (left.eraseIdx kk))) := Lib.hid (by
                rw [dNats_eq, ← ROWS.out]
                refine hH.loose.wide (fun x _ hx => ?_)
                have h0 := MN.out.opn.1
                rcases hx with h | h
                · have h' : wn.heap.size ≤ x := h
                  omega
                · have h4 := BA.out.size; omega)
              have BF := Lib.hid hB
              clear hH hS hB HL1 HN1 HW1 HH1 hsd2 hlen RA BA
              have MF := Lib.hid (MN.out.below BF.out)
              have BFw := Lib.hid (below_step' BN.out BF.out)
              have SF := Lib.hid ((SJ.out.trans SN.out).trans (SameOn.of_below BF.out))
              have hql : q - 1 = (left.eraseIdx kk).length := by rw [List.length_eraseIdx, ← QL.out]; simp [KQ.out]
              have QN := Lib.hid hql
              clear hql
              go_wp2_with fail
              go_roundw
              case rel => exact ⟨j + 1, q - 1, left.eraseIdx kk, ao2, cv2, u0, u1, u2, u3, k0, k1, k2, k3, f0, f1, f2, f3, by go_num, rfl, QN.out, by omega, LOK2.out, by rw [← MNE.out]; exact MF.out, RF.out, BFw.out, SF.out⟩
              case measure => simp [intOf]; omega
            · skip
              go_simp
              obtain ⟨bx, hbx⟩ : ∃ b, b = z0.heap.size := ⟨_, rfl⟩
              obtain ⟨y9, hy9⟩ : ∃ y, y = z0.alloc (.cells #[.int .i64 0, .slice none 0 0, .int .i64 0, .int .i64 0, .int .i64 0, .slice none 0 0, .slice none 0 0, .slice none 0 0] 33) := ⟨_, rfl⟩
              have hn : Below z0.heap.size z0 y9 := by rw [hy9]; exact below_new _ _
              have KN0 : Hid (BoxAt bx [.int .i64 0, .slice none 0 0, .int .i64 0, .int .i64 0, .int .i64 0, .slice none 0 0, .slice none 0 0, .slice none 0 0] y9) := Lib.hid (by rw [hbx, hy9]; exact boxAt_new z0 [.int .i64 0, .slice none 0 0, .int .i64 0, .int .i64 0, .int .i64 0, .slice none 0 0, .slice none 0 0, .slice none 0 0] _)
              have ON0 : Hid (Open8 bx y9) := Lib.hid (by rw [hbx, hy9]; exact Open8.new _ _ _)
              have XY : Hid (z0.heap.size ≤ bx) := Lib.hid (by rw [hbx]; exact Nat.le_refl _)
              have BX9 := Lib.hid hn
              rw [← hy9, ← hbx]
              clear hy9 hbx hn
              refine hK.out _ _ ?_ (fun hHeld => ?_)
              · exact QX.out _ BX9.out
              clear hK K
              refine rd 6 fun K hK => ?_
              go_simp
              refine (CM.out y9 BX9.out).mono ?_
              rintro e wx ⟨v0, v1, v2, v3, rfl, hU, hb⟩
              obtain ⟨u0, u1, u2, u3, k0, k1, k2, k3, f0, f1, f2, f3, ff0, ff1, ff2, ff3⟩ := mk_slices hU.weak
              subst ff0
              subst ff1
              subst ff2
              subst ff3
              unfold mkv
              have HU := Lib.hid (hU.loose.wide (P' := fun q => z0.heap.size ≤ q ∧ q ≠ bx) (fun q _ (hq : y9.heap.size ≤ q) => ⟨Nat.le_trans BX9.out.size hq, fun e => by subst e; exact Nat.lt_irrefl _ (Nat.lt_of_lt_of_le ON0.out.1 hq)⟩))
              have KN := Lib.hid (KN0.out.below hb)
              have ON := Lib.hid (ON0.out.below hb)
              have BX := Lib.hid (below_step' BX9.out hb)
              clear hU hb KN0 ON0 BX9
              go_wp2_with fail
              refine hK.out _ _ ?_ (fun hHeld => ?_)
              · exact QX.out _ BX.out
              clear hK K
              refine tq 7 ?_
              refine tq 8 ?_
              refine tq 9 ?_
              have NE : Hid (bm ≠ bx ∧ bh ≠ bx ∧ lb ≠ bx) := Lib.hid (by have h1 := SZ0.out; have h2 := XY.out; omega)
              have cc0 := KN.out 0 _ rfl
              have cc1 := KN.out 1 _ rfl
              have cc2 := KN.out 2 _ rfl
              have cc3 := KN.out 3 _ rfl
              have cc4 := KN.out 4 _ rfl
              have cc5 := KN.out 5 _ rfl
              have cc6 := KN.out 6 _ rfl
              have cc7 := KN.out 7 _ rfl
              have g0 := ON.out.2 0
              have g1 := ON.out.2 1
              have g2 := ON.out.2 2
              have g3 := ON.out.2 3
              have g4 := ON.out.2 4
              have g5 := ON.out.2 5
              have g6 := ON.out.2 6
              have g7 := ON.out.2 7
              have q9 := QX.out _ BX.out
              have SNH : Hid ((fun w' => w'.cell? ⟨bm, 0, none⟩ = some (.int .i64 m.ep) ∧ w'.cell? ⟨bm, 1, none⟩ = some (.slice c0 s0 t0) ∧ w'.cell? ⟨bm, 2, none⟩ = some (.int .i64 m.p.node) ∧ w'.cell? ⟨bm, 3, none⟩ = some (.int .i64 m.p.state) ∧ w'.cell? ⟨bm, 4, none⟩ = some (.int .i64 m.p.steps) ∧ w'.cell? ⟨bm, 5, none⟩ = some (.slice c1 s1 t1) ∧ w'.cell? ⟨bm, 6, none⟩ = some (.slice c2 s2 t2) ∧ w'.cell? ⟨bm, 7, none⟩ = some (.slice c3 s3 t3) ∧ w'.cell? ⟨bh, 0, none⟩ = some (.int .i64 1) ∧ w'.cell? ⟨bh, 1, none⟩ = some (.int .i64 2) ∧ w'.cell? ⟨bh, 2, none⟩ = some (.int .i64 3) ∧ w'.cell? ⟨bh, 3, none⟩ = some (.slice ga N gc) ∧ w'.cell? ⟨bh, 4, none⟩ = some (.slice gb N gd) ∧ w'.cell? ⟨lb, lo + kk, none⟩ = some (.int .i64 (xv : Int))) (setN wx bx 0 [.int .i64 mn.ep, .slice u0 k0 f0, .int .i64 mn.p.node, .int .i64 mn.p.state, .int .i64 mn.p.steps, .slice u1 k1 f1, .slice u2 k2 f2, .slice u3 k3 f3])) := Lib.hid ⟨setN_cell NE.out.1 (q9.1), setN_cell NE.out.1 (q9.2.1), setN_cell NE.out.1 (q9.2.2.1), setN_cell NE.out.1 (q9.2.2.2.1), setN_cell NE.out.1 (q9.2.2.2.2.1), setN_cell NE.out.1 (q9.2.2.2.2.2.1), setN_cell NE.out.1 (q9.2.2.2.2.2.2.1), setN_cell NE.out.1 (q9.2.2.2.2.2.2.2.1), setN_cell NE.out.2.1 (q9.2.2.2.2.2.2.2.2.1), setN_cell NE.out.2.1 (q9.2.2.2.2.2.2.2.2.2.1), setN_cell NE.out.2.1 (q9.2.2.2.2.2.2.2.2.2.2.1), setN_cell NE.out.2.1 (q9.2.2.2.2.2.2.2.2.2.2.2.1), setN_cell NE.out.2.1 (q9.2.2.2.2.2.2.2.2.2.2.2.2.1), setN_cell NE.out.2.2 (q9.2.2.2.2.2.2.2.2.2.2.2.2.2)⟩
              clear q9
              refine rd 11 fun K hK => ?_
              go_simp
              refine hK.out _ _ ?_ (fun hHeld => ?_)
              · exact SNH.out
              clear hK K
              refine tq 12 ?_
              refine wpAnyH_done (by kernel_rfl) ?_ _
              change Exit.then _ _ Exit.normal _ (setN wx bx 0 [.int .i64 mn.ep, .slice u0 k0 f0, .int .i64 mn.p.node, .int .i64 mn.p.state, .int .i64 mn.p.steps, .slice u1 k1 f1, .slice u2 k2 f2, .slice u3 k3 f3])
              have KB : Hid (BoxAt bx [.int .i64 mn.ep, .slice u0 k0 f0, .int .i64 mn.p.node, .int .i64 mn.p.state, .int .i64 mn.p.steps, .slice u1 k1 f1, .slice u2 k2 f2, .slice u3 k3 f3] (setN wx bx 0 [.int .i64 mn.ep, .slice u0 k0 f0, .int .i64 mn.p.node, .int .i64 mn.p.state, .int .i64 mn.p.steps, .slice u1 k1 f1, .slice u2 k2 f2, .slice u3 k3 f3])) := Lib.hid (setN_box [.int .i64 mn.ep, .slice u0 k0 f0, .int .i64 mn.p.node, .int .i64 mn.p.state, .int .i64 mn.p.steps, .slice u1 k1 f1, .slice u2 k2 f2, .slice u3 k3 f3] 0 _ wx KN.out (by simp))
              have MZ2 := Lib.hid (MJ.out.other (below_step' BZ.out BX.out) (Nat.le_trans BZ.out.size XY.out) 0 [.int .i64 mn.ep, .slice u0 k0 f0, .int .i64 mn.p.node, .int .i64 mn.p.state, .int .i64 mn.p.steps, .slice u1 k1 f1, .slice u2 k2 f2, .slice u3 k3 f3])
              have DZ2 : Hid (HoldsL False (fun q => q ≠ bm ∧ q ≠ bh) (setN wx bx 0 [.int .i64 mn.ep, .slice u0 k0 f0, .int .i64 mn.p.node, .int .i64 mn.p.state, .int .i64 mn.p.steps, .slice u1 k1 f1, .slice u2 k2 f2, .slice u3 k3 f3]) [.slice u0 k0 f0, .slice u1 k1 f1, .slice u2 k2 f2, .slice u3 k3 f3] mn.d) := Lib.hid ((HU.out.same (setN_same (P := fun q => z0.heap.size ≤ q ∧ q ≠ bx) (b := bx) (fun h => h.2 rfl) [.int .i64 mn.ep, .slice u0 k0 f0, .int .i64 mn.p.node, .int .i64 mn.p.state, .int .i64 mn.p.steps, .slice u1 k1 f1, .slice u2 k2 f2, .slice u3 k3 f3] 0 wx (SameOn.refl _ _))).wide (fun q _ (hq : z0.heap.size ≤ q ∧ q ≠ bx) => by have := SZ0.out; omega))
              have BN1 := Lib.hid (setN_below (Nat.le_trans BJ.out.size (Nat.le_trans BZ.out.size XY.out)) [.int .i64 mn.ep, .slice u0 k0 f0, .int .i64 mn.p.node, .int .i64 mn.p.state, .int .i64 mn.p.steps, .slice u1 k1 f1, .slice u2 k2 f2, .slice u3 k3 f3] 0 wx (below_step' BJ.out (below_step' BZ.out BX.out)))
              have SN1 : Hid (SameOn (fun q => q ≠ bm) wr1 (setN wx bx 0 [.int .i64 mn.ep, .slice u0 k0 f0, .int .i64 mn.p.node, .int .i64 mn.p.state, .int .i64 mn.p.steps, .slice u1 k1 f1, .slice u2 k2 f2, .slice u3 k3 f3])) := Lib.hid ((SameOn.of_below BZ.out).trans ⟨by rw [setN_size]; exact BX.out.size, fun q _ hq => (setN_same (P := fun q => q < z0.heap.size) (b := bx) (fun h => Nat.not_lt.2 XY.out h) [.int .i64 mn.ep, .slice u0 k0 f0, .int .i64 mn.p.node, .int .i64 mn.p.state, .int .i64 mn.p.steps, .slice u1 k1 f1, .slice u2 k2 f2, .slice u3 k3 f3] 0 wx (SameOn.of_below BX.out)).2 q hq hq⟩)
              obtain ⟨z2, hz2⟩ : ∃ x, x = setN wx bx 0 [.int .i64 mn.ep, .slice u0 k0 f0, .int .i64 mn.p.node, .int .i64 mn.p.state, .int .i64 mn.p.steps, .slice u1 k1 f1, .slice u2 k2 f2, .slice u3 k3 f3] := ⟨_, rfl⟩
              rw [← hz2] at KB MZ2 DZ2 BN1 SN1 ⊢
              clear hz2 cc0 cc1 cc2 cc3 cc4 cc5 cc6 cc7 g0 g1 g2 g3 g4 g5 g6 g7 SNH hHeld
              have cc0 := KB.out 0 _ rfl
              have cc1 := KB.out 1 _ rfl
              have cc2 := KB.out 2 _ rfl
              have cc3 := KB.out 3 _ rfl
              have cc4 := KB.out 4 _ rfl
              have cc5 := KB.out 5 _ rfl
              have cc6 := KB.out 6 _ rfl
              have cc7 := KB.out 7 _ rfl
              have dd0 := MZ2.out.box 0 _ rfl
              have dd1 := MZ2.out.box 1 _ rfl
              have dd2 := MZ2.out.box 2 _ rfl
              have dd3 := MZ2.out.box 3 _ rfl
              have dd4 := MZ2.out.box 4 _ rfl
              have dd5 := MZ2.out.box 5 _ rfl
              have dd6 := MZ2.out.box 6 _ rfl
              have dd7 := MZ2.out.box 7 _ rfl
              have g0 := MZ2.out.opn.2 0
              have g1 := MZ2.out.opn.2 1
              have g2 := MZ2.out.opn.2 2
              have g3 := MZ2.out.opn.2 3
              have g4 := MZ2.out.opn.2 4
              have g5 := MZ2.out.opn.2 5
              have g6 := MZ2.out.opn.2 6
              have g7 := MZ2.out.opn.2 7
              go_upto_region 20 with fail
              change Code.wp _ _ _ _ (setN z2 bm 0 [.int .i64 mn.ep, .slice u0 k0 f0, .int .i64 mn.p.node, .int .i64 mn.p.state, .int .i64 mn.p.steps, .slice u1 k1 f1, .slice u2 k2 f2, .slice u3 k3 f3])
              have MN : Hid (MIn bm bh mn u0 u1 u2 u3 k0 k1 k2 k3 f0 f1 f2 f3 (setN z2 bm 0 [.int .i64 mn.ep, .slice u0 k0 f0, .int .i64 mn.p.node, .int .i64 mn.p.state, .int .i64 mn.p.steps, .slice u1 k1 f1, .slice u2 k2 f2, .slice u3 k3 f3])) := Lib.hid (MZ2.out.put DZ2.out)
              have BN : Hid (Below w.heap.size w (setN z2 bm 0 [.int .i64 mn.ep, .slice u0 k0 f0, .int .i64 mn.p.node, .int .i64 mn.p.state, .int .i64 mn.p.steps, .slice u1 k1 f1, .slice u2 k2 f2, .slice u3 k3 f3])) := Lib.hid (setN_below LB.out.2.2.2.1 [.int .i64 mn.ep, .slice u0 k0 f0, .int .i64 mn.p.node, .int .i64 mn.p.state, .int .i64 mn.p.steps, .slice u1 k1 f1, .slice u2 k2 f2, .slice u3 k3 f3] 0 z2 BN1.out)
              have SN : Hid (SameOn (fun q => q ≠ bm) wr1 (setN z2 bm 0 [.int .i64 mn.ep, .slice u0 k0 f0, .int .i64 mn.p.node, .int .i64 mn.p.state, .int .i64 mn.p.steps, .slice u1 k1 f1, .slice u2 k2 f2, .slice u3 k3 f3])) := Lib.hid (setN_same (P := fun q => q ≠ bm) (b := bm) (fun h => h rfl) [.int .i64 mn.ep, .slice u0 k0 f0, .int .i64 mn.p.node, .int .i64 mn.p.state, .int .i64 mn.p.steps, .slice u1 k1 f1, .slice u2 k2 f2, .slice u3 k3 f3] 0 z2 SN1.out)
              obtain ⟨wn, hwn⟩ : ∃ x, x = setN z2 bm 0 [.int .i64 mn.ep, .slice u0 k0 f0, .int .i64 mn.p.node, .int .i64 mn.p.state, .int .i64 mn.p.steps, .slice u1 k1 f1, .slice u2 k2 f2, .slice u3 k3 f3] := ⟨_, rfl⟩
              rw [← hwn] at MN BN SN ⊢
              clear hwn cc0 cc1 cc2 cc3 cc4 cc5 cc6 cc7 dd0 dd1 dd2 dd3 dd4 dd5 dd6 dd7 g0 g1 g2 g3 g4 g5 g6 g7 DZ2 MZ2 KB BN1 SN1 KN ON HU BX XY NE
              have RN : Hid (Has wn (.slice (some ⟨lb, lo, none⟩) q xc) (.row 1 (left.map fun x : Nat => [dI (x : Int)]))) := Lib.hid (by rw [← dNats_eq]; exact (RJ.out.same SN.out).weak)
              have BE := Lib.hid (below_new wn (.cells #[] 3))
              have R1 : Hid (Has (wn.alloc (.cells #[] 3)) (.slice (some ⟨lb, lo, none⟩) kk xc) (.row 1 ((left.take kk).map fun x : Nat => [dI (x : Int)]))) := Lib.hid (by
                have h := (RN.out.take (m := kk) (by rw [List.length_map]; have := QL.out; omega)).later BE.out
                rw [← List.map_take] at h
                exact h)
              obtain ⟨hl1, hn1, news1, hw1, hL1⟩ := newsOf R1.out (fun ds hd => by obtain ⟨_, _, rfl⟩ := List.mem_map.1 hd; rfl) (flat_nats _)
              have HL1 := Lib.hid hl1
              have HN1 := Lib.hid hn1
              have HW1 := Lib.hid hw1
              have HH1 := Lib.hid (hL1 True (fun _ => False))
              clear hl1 hn1 hw1 hL1
              obtain ⟨ys1, hys1⟩ : ∃ y, y = (left.take kk).map fun x : Nat => [dI (x : Int)] := ⟨_, rfl⟩
              rw [← hys1] at HL1 HH1
              have YS1 := Lib.hid hys1
              have F1 : Hid (∀ ds ∈ ys1, ds.length = 1) := Lib.hid (fun ds hd => by rw [hys1] at hd; obtain ⟨_, _, rfl⟩ := List.mem_map.1 hd; rfl)
              clear hys1
              go_wp2_with (at_builtin; refine appLK rfl _ _ 29 3 i0 (.int .i64 0) 1 8 rfl Try.underlying29 hi0 hz0 hs0 hby0 rfl (by decide) (fun q => wn.heap.size ≤ q) (fun _ => False) wn BE.out (fun q hq => hq) (some ⟨wn.heap.size, 0, none⟩) 0 0 [] ys1 kk xc kk rfl (.nil _ _ _ _ _) (some ⟨lb, lo, none⟩) rfl news1 HW1.out HN1.out F1.out HL1.out HH1.out (fun _ h => h.elim) (Nat.zero_add _) (by unfold maxLen; omega) (by omega) ?_)
              intro ao cv w5 hH hS hB
              have RA : Hid (Holds True (fun q => wn.heap.size ≤ q) w5 (.slice ao kk cv) (.row 1 ys1)) := Lib.hid (by
                have h2 := hH.wide (P' := fun q => wn.heap.size ≤ q) (fun q _ hq => by
                  rcases hq with h | h
                  · exact h
                  · have h3 := BE.out.size; rw [size_new] at h3; show wn.heap.size ≤ q; omega)
                simpa using h2)
              have BA := Lib.hid hB
              clear hH hS hB HL1 HN1 HW1 HH1 R1
              obtain ⟨sd, hsd⟩ : ∃ x, (if xc = kk + 1 then some ⟨lb, lo, none⟩ else Option.map (fun x => x.add ((kk + 1) * 1)) (some (⟨lb, lo, none⟩ : Addr))) = x := ⟨_, rfl⟩
              have R2 : Hid (Has w5 (.slice sd (q - (kk + 1)) (xc - (kk + 1))) (.row 1 ((left.drop (kk + 1)).map fun x : Nat => [dI (x : Int)]))) := Lib.hid (by
                have h := holds_drop (k := kk + 1) (RN.out.later BA.out) (by omega)
                rw [← List.map_drop, hsd] at h
                exact h)
              have hsd2 : (if xc = kk + 1 then (some ⟨lb, lo, none⟩ : Option Addr) else some ⟨lb, lo + (kk + 1), none⟩) = sd := by rw [← hsd]; simp [Addr.add]
              clear hsd
              obtain ⟨hl1, hn1, news2, hw1, hL1⟩ := newsOf R2.out (fun ds hd => by obtain ⟨_, _, rfl⟩ := List.mem_map.1 hd; rfl) (flat_nats _)
              have HL1 := Lib.hid hl1
              have HN1 := Lib.hid hn1
              have HW1 := Lib.hid hw1
              have HH1 := Lib.hid (hL1 True (fun _ => False))
              clear hl1 hn1 hw1 hL1
              obtain ⟨ys2, hys2⟩ : ∃ y, y = (left.drop (kk + 1)).map fun x : Nat => [dI (x : Int)] := ⟨_, rfl⟩
              rw [← hys2] at HL1 HH1
              have F2 : Hid (∀ ds ∈ ys2, ds.length = 1) := Lib.hid (fun ds hd => by rw [hys2] at hd; obtain ⟨_, _, rfl⟩ := List.mem_map.1 hd; rfl)
              have ROWS : Hid (ys1 ++ ys2 = (left.eraseIdx kk).map fun x : Nat => [dI (x : Int)]) := Lib.hid (by rw [YS1.out, hys2]; exact erase_rows)
              have hlen : kk + (q - (kk + 1)) = q - 1 := by omega
              clear hys2 RN R2
              go_wp2_with (at_builtin; refine appLK rfl _ _ 29 3 i0 (.int .i64 0) 1 8 rfl Try.underlying29 hi0 hz0 hs0 hby0 rfl (by decide) (fun q => wn.heap.size ≤ q) (fun _ => False) wn BA.out (fun q hq => hq) ao kk cv ys1 ys2 (q - (kk + 1)) (xc - (kk + 1)) (q - 1) rfl RA.out sd rfl news2 HW1.out HN1.out F2.out HL1.out HH1.out (fun _ h => h.elim) hlen (by unfold maxLen; omega) (by omega) ?_)
              intro ao2 cv2 w6 hH hS hB
              have RF : Hid (Holds False (fun q => q ≠ bm) w6 (.slice ao2 (q - 1) cv2) (dNats (left.eraseIdx kk))) := Lib.hid (by
                rw [dNats_eq, ← ROWS.out]
                refine hH.loose.wide (fun x _ hx => ?_)
                have h0 := MN.out.opn.1
                rcases hx with h | h
                · have h' : wn.heap.size ≤ x := h
                  omega
                · have h4 := BA.out.size; omega)
              have BF := Lib.hid hB
              clear hH hS hB HL1 HN1 HW1 HH1 hsd2 hlen RA BA
              have MF := Lib.hid (MN.out.below BF.out)
              have BFw := Lib.hid (below_step' BN.out BF.out)
              have SF := Lib.hid ((SJ.out.trans SN.out).trans (SameOn.of_below BF.out))
              have hql : q - 1 = (left.eraseIdx kk).length := by rw [List.length_eraseIdx, ← QL.out]; simp [KQ.out]
              have QN := Lib.hid hql
              clear hql
              go_wp2_with fail
              go_roundw
              case rel => exact ⟨j + 1, q - 1, left.eraseIdx kk, ao2, cv2, u0, u1, u2, u3, k0, k1, k2, k3, f0, f1, f2, f3, by go_num, rfl, QN.out, by omega, LOK2.out, by rw [← MNE.out]; exact MF.out, RF.out, BFw.out, SF.out⟩
              case measure => simp [intOf]; omega
          · have hlp' : ¬ (j : Int) < k := by omega
            have KQ : Hid (0 < q) := Lib.hid (by omega)
            have kql : 0 < q := KQ.out
            have kql' : (0 : Int) < q := by omega
            obtain ⟨xv, hxv⟩ := some_of_lt (l := left) (i := 0) (by rw [← QL.out]; exact KQ.out)
            have hcap : q ≤ xc := capOf (n := 1) (xs := left.map fun x : Nat => [dI (x : Int)]) (by rw [← dNats_eq]; exact RJ.out)
            have hkc : 0 ≤ xc := by omega
            have hkq : 1 ≤ q := by omega
            have hq6 : q ≤ 6 := by omega
            obtain ⟨lb, lo, ee, xc1⟩ := num_at (x := (xv : Int)) RJ.out.weak (by rw [List.getElem?_map, hxv]; rfl)
            subst ee
            rw [Nat.add_zero] at xc1
            have XL : Hid (xv < N) := Lib.hid (LOK.out.lt xv (List.mem_of_getElem? hxv))
            obtain ⟨mn, hmn⟩ : ∃ r, r = mO N (left.eraseIdx 0) := ⟨_, rfl⟩
            have MC : Hid (markM m (endsH N 3) 9 (xv : Int) = (mn, false)) := Lib.hid (by rw [ME.out, hmn]; exact mO_next LOK.out.nodup hxv XL.out 3)
            have LOK2 := Lib.hid (LOK.out.next (k := 0) (by rw [← QL.out]; exact KQ.out))
            have DN : Hid (Calls Try.prog 17 #[mkv m (.slice c0 s0 t0) (.slice c1 s1 t1) (.slice c2 s2 t2) (.slice c3 s3 t3), .int .i64 9] wr1 fun e w' => e = .returned (.bool false) ∧ Below wr1.heap.size wr1 w') := Lib.hid (by
              have p := done_at m 9 _ _ _ _ wr1 MJ.out.dat.weak SM.out
              rw [show doneM m 9 = false by rw [ME.out]; exact mO_full (List.mem_of_getElem? hxv) XL.out] at p
              exact p)
            have MNE := Lib.hid hmn
            unfold mkv at DN
            have XC1 := Lib.hid xc1
            clear hmn hxv xc1
            have cc0 := MJ.out.box 0 _ rfl
            have cc1 := MJ.out.box 1 _ rfl
            have cc2 := MJ.out.box 2 _ rfl
            have cc3 := MJ.out.box 3 _ rfl
            have cc4 := MJ.out.box 4 _ rfl
            have cc5 := MJ.out.box 5 _ rfl
            have cc6 := MJ.out.box 6 _ rfl
            have cc7 := MJ.out.box 7 _ rfl
            go_wp2_with fail
            refine DN.out.mono ?_
            rintro e wd ⟨rfl, hb⟩
            have MJd := Lib.hid (MJ.out.below hb)
            have BJd := Lib.hid (below_step' BJ.out hb)
            have SJd := Lib.hid (SJ.out.trans (SameOn.of_below hb))
            have RJd := Lib.hid (RJ.out.later hb)
            have XCd := Lib.hid ((hb.cell (World.block_lt_of_cell? wr1 _ XC1.out)).trans XC1.out)
            clear hb DN cc0 cc1 cc2 cc3 cc4 cc5 cc6 cc7 MJ BJ SJ RJ XC1
            obtain ⟨wr1, hwr⟩ : ∃ y, y = wd := ⟨_, rfl⟩
            rw [← hwr] at MJd BJd SJd RJd XCd ⊢
            have MJ := Lib.hid MJd.out
            have BJ := Lib.hid BJd.out
            have SJ := Lib.hid SJd.out
            have RJ := Lib.hid RJd.out
            have XC1 := Lib.hid XCd.out
            clear hwr MJd BJd SJd RJd XCd
            have KHr := Lib.hid (KH.out.same SJ.out (Ne.symm LB.out.2.2.1))
            have HGr : Hid (HasL wr1 [.slice ga N gc, .slice gb N gd] (endsH N 3).d) := Lib.hid (HG.out.same (SJ.out.sub (fun q h => h.2))).weak
            go_wp2_with fail
            refine wp_region_held_drew (S := (fun w' => w'.cell? ⟨bm, 0, none⟩ = some (.int .i64 m.ep) ∧ w'.cell? ⟨bm, 1, none⟩ = some (.slice c0 s0 t0) ∧ w'.cell? ⟨bm, 2, none⟩ = some (.int .i64 m.p.node) ∧ w'.cell? ⟨bm, 3, none⟩ = some (.int .i64 m.p.state) ∧ w'.cell? ⟨bm, 4, none⟩ = some (.int .i64 m.p.steps) ∧ w'.cell? ⟨bm, 5, none⟩ = some (.slice c1 s1 t1) ∧ w'.cell? ⟨bm, 6, none⟩ = some (.slice c2 s2 t2) ∧ w'.cell? ⟨bm, 7, none⟩ = some (.slice c3 s3 t3) ∧ w'.cell? ⟨bh, 0, none⟩ = some (.int .i64 1) ∧ w'.cell? ⟨bh, 1, none⟩ = some (.int .i64 2) ∧ w'.cell? ⟨bh, 2, none⟩ = some (.int .i64 3) ∧ w'.cell? ⟨bh, 3, none⟩ = some (.slice ga N gc) ∧ w'.cell? ⟨bh, 4, none⟩ = some (.slice gb N gd) ∧ w'.cell? ⟨lb, lo, none⟩ = some (.int .i64 (xv : Int)))) (by kernel_rfl) ?_ (fun hHeld => ?_)
            · exact ⟨MJ.out.box.below (below_drewN (Below.refl _ wr1) 1) 0 _ rfl, MJ.out.box.below (below_drewN (Below.refl _ wr1) 1) 1 _ rfl, MJ.out.box.below (below_drewN (Below.refl _ wr1) 1) 2 _ rfl, MJ.out.box.below (below_drewN (Below.refl _ wr1) 1) 3 _ rfl, MJ.out.box.below (below_drewN (Below.refl _ wr1) 1) 4 _ rfl, MJ.out.box.below (below_drewN (Below.refl _ wr1) 1) 5 _ rfl, MJ.out.box.below (below_drewN (Below.refl _ wr1) 1) 6 _ rfl, MJ.out.box.below (below_drewN (Below.refl _ wr1) 1) 7 _ rfl, KHr.out.below (below_drewN (Below.refl _ wr1) 1) 0 _ rfl, KHr.out.below (below_drewN (Below.refl _ wr1) 1) 1 _ rfl, KHr.out.below (below_drewN (Below.refl _ wr1) 1) 2 _ rfl, KHr.out.below (below_drewN (Below.refl _ wr1) 1) 3 _ rfl, KHr.out.below (below_drewN (Below.refl _ wr1) 1) 4 _ rfl, ((below_drewN (Below.refl _ wr1) 1).cell (World.block_lt_of_cell? wr1 _ XC1.out)).trans XC1.out⟩
            obtain ⟨z0, hz0⟩ : ∃ y, y = wr1.drew := ⟨_, rfl⟩
            rw [← hz0] at hHeld ⊢
            have BZ : Hid (Below wr1.heap.size wr1 z0) := Lib.hid (by rw [hz0]; exact below_drewN (Below.refl _ wr1) 1)
            clear hz0
            have QX : Hid (∀ w', Below z0.heap.size z0 w' → (fun w' => w'.cell? ⟨bm, 0, none⟩ = some (.int .i64 m.ep) ∧ w'.cell? ⟨bm, 1, none⟩ = some (.slice c0 s0 t0) ∧ w'.cell? ⟨bm, 2, none⟩ = some (.int .i64 m.p.node) ∧ w'.cell? ⟨bm, 3, none⟩ = some (.int .i64 m.p.state) ∧ w'.cell? ⟨bm, 4, none⟩ = some (.int .i64 m.p.steps) ∧ w'.cell? ⟨bm, 5, none⟩ = some (.slice c1 s1 t1) ∧ w'.cell? ⟨bm, 6, none⟩ = some (.slice c2 s2 t2) ∧ w'.cell? ⟨bm, 7, none⟩ = some (.slice c3 s3 t3) ∧ w'.cell? ⟨bh, 0, none⟩ = some (.int .i64 1) ∧ w'.cell? ⟨bh, 1, none⟩ = some (.int .i64 2) ∧ w'.cell? ⟨bh, 2, none⟩ = some (.int .i64 3) ∧ w'.cell? ⟨bh, 3, none⟩ = some (.slice ga N gc) ∧ w'.cell? ⟨bh, 4, none⟩ = some (.slice gb N gd) ∧ w'.cell? ⟨lb, lo, none⟩ = some (.int .i64 (xv : Int))) w') := Lib.hid (fun w' hb => ⟨MJ.out.box.below (below_step' BZ.out hb) 0 _ rfl, MJ.out.box.below (below_step' BZ.out hb) 1 _ rfl, MJ.out.box.below (below_step' BZ.out hb) 2 _ rfl, MJ.out.box.below (below_step' BZ.out hb) 3 _ rfl, MJ.out.box.below (below_step' BZ.out hb) 4 _ rfl, MJ.out.box.below (below_step' BZ.out hb) 5 _ rfl, MJ.out.box.below (below_step' BZ.out hb) 6 _ rfl, MJ.out.box.below (below_step' BZ.out hb) 7 _ rfl, KHr.out.below (below_step' BZ.out hb) 0 _ rfl, KHr.out.below (below_step' BZ.out hb) 1 _ rfl, KHr.out.below (below_step' BZ.out hb) 2 _ rfl, KHr.out.below (below_step' BZ.out hb) 3 _ rfl, KHr.out.below (below_step' BZ.out hb) 4 _ rfl, ((below_step' BZ.out hb).cell (World.block_lt_of_cell? wr1 _ XC1.out)).trans XC1.out⟩)
            have CM : Hid (∀ wx, Below z0.heap.size z0 wx → Calls Try.prog 10 #[.agg #[.int .i64 m.ep, .slice c0 s0 t0, .int .i64 m.p.node, .int .i64 m.p.state, .int .i64 m.p.steps, .slice c1 s1 t1, .slice c2 s2 t2, .slice c3 s3 t3], .agg #[.int .i64 1, .int .i64 2, .int .i64 3, .slice ga N gc, .slice gb N gd], .int .i64 9, .int .i64 (xv : Int)] wx (MkTold2 mn false wx)) := Lib.hid (fun wx hb => by
              have p := marker_at m (endsH N 3) 9 (xv : Int) _ _ _ _ _ _ wx (MJ.out.dat.weak.later (below_step' BZ.out hb)) (HGr.out.later (below_step' BZ.out hb)) SM.out (ends_small N 3 (by omega)).1 (by rw [(ends_small N 3 (by omega)).2]; omega)
              rw [MC.out] at p
              exact p)
            have SZ0 : Hid (bm < z0.heap.size ∧ bh < z0.heap.size ∧ lb < z0.heap.size) := Lib.hid (by
              have h1 := MJ.out.opn.1
              have h2 := Nat.lt_of_lt_of_le OH.out.1 SJ.out.1
              have h3 := World.block_lt_of_cell? wr1 _ XC1.out
              simp at h3
              have h5 := BZ.out.size
              omega)
            refine tq 0 ?_
            refine tq 1 ?_
            refine tq 2 ?_
            refine tq 3 ?_
            refine tq 4 ?_
            refine tq 5 ?_
            refine wpAnyH_ready (rs := [6, 10]) (by kernel_rfl) (by simp) ?_
            refine AllReadyH.cons rfl (fun K hK => ?_) (AllReadyH.cons rfl (fun K hK => ?_) AllReadyH.nil)
            · skip
              go_simp
              refine (CM.out z0 (Below.refl _ z0)).mono ?_
              rintro e z1 ⟨v0, v1, v2, v3, rfl, hU, hb⟩
              obtain ⟨u0, u1, u2, u3, k0, k1, k2, k3, f0, f1, f2, f3, ff0, ff1, ff2, ff3⟩ := mk_slices hU.weak
              subst ff0
              subst ff1
              subst ff2
              subst ff3
              unfold mkv
              have HU1 := Lib.hid hU
              have BX1 := Lib.hid hb
              clear hU hb
              go_wp2_with fail
              refine hK.out _ _ ?_ (fun hHeld => ?_)
              · exact QX.out _ BX1.out
              clear hK K
              refine tq 7 ?_
              refine tq 8 ?_
              refine tq 9 ?_
              refine rd 10 fun K hK => ?_
              go_simp
              obtain ⟨bx, hbx⟩ : ∃ b, b = z1.heap.size := ⟨_, rfl⟩
              obtain ⟨wx, hwx⟩ : ∃ y, y = z1.alloc (.cells #[.int .i64 0, .slice none 0 0, .int .i64 0, .int .i64 0, .int .i64 0, .slice none 0 0, .slice none 0 0, .slice none 0 0] 33) := ⟨_, rfl⟩
              have hn : Below z1.heap.size z1 wx := by rw [hwx]; exact below_new _ _
              have KN : Hid (BoxAt bx [.int .i64 0, .slice none 0 0, .int .i64 0, .int .i64 0, .int .i64 0, .slice none 0 0, .slice none 0 0, .slice none 0 0] wx) := Lib.hid (by rw [hbx, hwx]; exact boxAt_new z1 [.int .i64 0, .slice none 0 0, .int .i64 0, .int .i64 0, .int .i64 0, .slice none 0 0, .slice none 0 0, .slice none 0 0] _)
              have ON : Hid (Open8 bx wx) := Lib.hid (by rw [hbx, hwx]; exact Open8.new _ _ _)
              have HU := Lib.hid ((HU1.out.loose.wide (P' := fun q => z0.heap.size ≤ q ∧ q ≠ bx) (fun q hq hp => ⟨hp, by omega⟩)).later hn)
              have XY : Hid (z0.heap.size ≤ bx) := Lib.hid (by rw [hbx]; exact BX1.out.size)
              have BX := Lib.hid (below_step' BX1.out hn)
              rw [← hwx, ← hbx]
              clear hwx hbx hn HU1 BX1
              refine hK.out _ _ ?_ (fun hHeld => ?_)
              · exact QX.out _ BX.out
              clear hK K
              have NE : Hid (bm ≠ bx ∧ bh ≠ bx ∧ lb ≠ bx) := Lib.hid (by have h1 := SZ0.out; have h2 := XY.out; omega)
              have cc0 := KN.out 0 _ rfl
              have cc1 := KN.out 1 _ rfl
              have cc2 := KN.out 2 _ rfl
              have cc3 := KN.out 3 _ rfl
              have cc4 := KN.out 4 _ rfl
              have cc5 := KN.out 5 _ rfl
              have cc6 := KN.out 6 _ rfl
              have cc7 := KN.out 7 _ rfl
              have g0 := ON.out.2 0
              have g1 := ON.out.2 1
              have g2 := ON.out.2 2
              have g3 := ON.out.2 3
              have g4 := ON.out.2 4
              have g5 := ON.out.2 5
              have g6 := ON.out.2 6
              have g7 := ON.out.2 7
              have q9 := QX.out _ BX.out
              have SNH : Hid ((fun w' => w'.cell? ⟨bm, 0, none⟩ = some (.int .i64 m.ep) ∧ w'.cell? ⟨bm, 1, none⟩ = some (.slice c0 s0 t0) ∧ w'.cell? ⟨bm, 2, none⟩ = some (.int .i64 m.p.node) ∧ w'.cell? ⟨bm, 3, none⟩ = some (.int .i64 m.p.state) ∧ w'.cell? ⟨bm, 4, none⟩ = some (.int .i64 m.p.steps) ∧ w'.cell? ⟨bm, 5, none⟩ = some (.slice c1 s1 t1) ∧ w'.cell? ⟨bm, 6, none⟩ = some (.slice c2 s2 t2) ∧ w'.cell? ⟨bm, 7, none⟩ = some (.slice c3 s3 t3) ∧ w'.cell? ⟨bh, 0, none⟩ = some (.int .i64 1) ∧ w'.cell? ⟨bh, 1, none⟩ = some (.int .i64 2) ∧ w'.cell? ⟨bh, 2, none⟩ = some (.int .i64 3) ∧ w'.cell? ⟨bh, 3, none⟩ = some (.slice ga N gc) ∧ w'.cell? ⟨bh, 4, none⟩ = some (.slice gb N gd) ∧ w'.cell? ⟨lb, lo, none⟩ = some (.int .i64 (xv : Int))) (setN wx bx 0 [.int .i64 mn.ep, .slice u0 k0 f0, .int .i64 mn.p.node, .int .i64 mn.p.state, .int .i64 mn.p.steps, .slice u1 k1 f1, .slice u2 k2 f2, .slice u3 k3 f3])) := Lib.hid ⟨setN_cell NE.out.1 (q9.1), setN_cell NE.out.1 (q9.2.1), setN_cell NE.out.1 (q9.2.2.1), setN_cell NE.out.1 (q9.2.2.2.1), setN_cell NE.out.1 (q9.2.2.2.2.1), setN_cell NE.out.1 (q9.2.2.2.2.2.1), setN_cell NE.out.1 (q9.2.2.2.2.2.2.1), setN_cell NE.out.1 (q9.2.2.2.2.2.2.2.1), setN_cell NE.out.2.1 (q9.2.2.2.2.2.2.2.2.1), setN_cell NE.out.2.1 (q9.2.2.2.2.2.2.2.2.2.1), setN_cell NE.out.2.1 (q9.2.2.2.2.2.2.2.2.2.2.1), setN_cell NE.out.2.1 (q9.2.2.2.2.2.2.2.2.2.2.2.1), setN_cell NE.out.2.1 (q9.2.2.2.2.2.2.2.2.2.2.2.2.1), setN_cell NE.out.2.2 (q9.2.2.2.2.2.2.2.2.2.2.2.2.2)⟩
              clear q9
              refine rd 11 fun K hK => ?_
              go_simp
              refine hK.out _ _ ?_ (fun hHeld => ?_)
              · exact SNH.out
              clear hK K
              refine tq 12 ?_
              refine wpAnyH_done (by kernel_rfl) ?_ _
              change Exit.then _ _ Exit.normal _ (setN wx bx 0 [.int .i64 mn.ep, .slice u0 k0 f0, .int .i64 mn.p.node, .int .i64 mn.p.state, .int .i64 mn.p.steps, .slice u1 k1 f1, .slice u2 k2 f2, .slice u3 k3 f3])
              have KB : Hid (BoxAt bx [.int .i64 mn.ep, .slice u0 k0 f0, .int .i64 mn.p.node, .int .i64 mn.p.state, .int .i64 mn.p.steps, .slice u1 k1 f1, .slice u2 k2 f2, .slice u3 k3 f3] (setN wx bx 0 [.int .i64 mn.ep, .slice u0 k0 f0, .int .i64 mn.p.node, .int .i64 mn.p.state, .int .i64 mn.p.steps, .slice u1 k1 f1, .slice u2 k2 f2, .slice u3 k3 f3])) := Lib.hid (setN_box [.int .i64 mn.ep, .slice u0 k0 f0, .int .i64 mn.p.node, .int .i64 mn.p.state, .int .i64 mn.p.steps, .slice u1 k1 f1, .slice u2 k2 f2, .slice u3 k3 f3] 0 _ wx KN.out (by simp))
              have MZ2 := Lib.hid (MJ.out.other (below_step' BZ.out BX.out) (Nat.le_trans BZ.out.size XY.out) 0 [.int .i64 mn.ep, .slice u0 k0 f0, .int .i64 mn.p.node, .int .i64 mn.p.state, .int .i64 mn.p.steps, .slice u1 k1 f1, .slice u2 k2 f2, .slice u3 k3 f3])
              have DZ2 : Hid (HoldsL False (fun q => q ≠ bm ∧ q ≠ bh) (setN wx bx 0 [.int .i64 mn.ep, .slice u0 k0 f0, .int .i64 mn.p.node, .int .i64 mn.p.state, .int .i64 mn.p.steps, .slice u1 k1 f1, .slice u2 k2 f2, .slice u3 k3 f3]) [.slice u0 k0 f0, .slice u1 k1 f1, .slice u2 k2 f2, .slice u3 k3 f3] mn.d) := Lib.hid ((HU.out.same (setN_same (P := fun q => z0.heap.size ≤ q ∧ q ≠ bx) (b := bx) (fun h => h.2 rfl) [.int .i64 mn.ep, .slice u0 k0 f0, .int .i64 mn.p.node, .int .i64 mn.p.state, .int .i64 mn.p.steps, .slice u1 k1 f1, .slice u2 k2 f2, .slice u3 k3 f3] 0 wx (SameOn.refl _ _))).wide (fun q _ (hq : z0.heap.size ≤ q ∧ q ≠ bx) => by have := SZ0.out; omega))
              have BN1 := Lib.hid (setN_below (Nat.le_trans BJ.out.size (Nat.le_trans BZ.out.size XY.out)) [.int .i64 mn.ep, .slice u0 k0 f0, .int .i64 mn.p.node, .int .i64 mn.p.state, .int .i64 mn.p.steps, .slice u1 k1 f1, .slice u2 k2 f2, .slice u3 k3 f3] 0 wx (below_step' BJ.out (below_step' BZ.out BX.out)))
              have SN1 : Hid (SameOn (fun q => q ≠ bm) wr1 (setN wx bx 0 [.int .i64 mn.ep, .slice u0 k0 f0, .int .i64 mn.p.node, .int .i64 mn.p.state, .int .i64 mn.p.steps, .slice u1 k1 f1, .slice u2 k2 f2, .slice u3 k3 f3])) := Lib.hid ((SameOn.of_below BZ.out).trans ⟨by rw [setN_size]; exact BX.out.size, fun q _ hq => (setN_same (P := fun q => q < z0.heap.size) (b := bx) (fun h => Nat.not_lt.2 XY.out h) [.int .i64 mn.ep, .slice u0 k0 f0, .int .i64 mn.p.node, .int .i64 mn.p.state, .int .i64 mn.p.steps, .slice u1 k1 f1, .slice u2 k2 f2, .slice u3 k3 f3] 0 wx (SameOn.of_below BX.out)).2 q hq hq⟩)
              obtain ⟨z2, hz2⟩ : ∃ x, x = setN wx bx 0 [.int .i64 mn.ep, .slice u0 k0 f0, .int .i64 mn.p.node, .int .i64 mn.p.state, .int .i64 mn.p.steps, .slice u1 k1 f1, .slice u2 k2 f2, .slice u3 k3 f3] := ⟨_, rfl⟩
              rw [← hz2] at KB MZ2 DZ2 BN1 SN1 ⊢
              clear hz2 cc0 cc1 cc2 cc3 cc4 cc5 cc6 cc7 g0 g1 g2 g3 g4 g5 g6 g7 SNH hHeld
              have cc0 := KB.out 0 _ rfl
              have cc1 := KB.out 1 _ rfl
              have cc2 := KB.out 2 _ rfl
              have cc3 := KB.out 3 _ rfl
              have cc4 := KB.out 4 _ rfl
              have cc5 := KB.out 5 _ rfl
              have cc6 := KB.out 6 _ rfl
              have cc7 := KB.out 7 _ rfl
              have dd0 := MZ2.out.box 0 _ rfl
              have dd1 := MZ2.out.box 1 _ rfl
              have dd2 := MZ2.out.box 2 _ rfl
              have dd3 := MZ2.out.box 3 _ rfl
              have dd4 := MZ2.out.box 4 _ rfl
              have dd5 := MZ2.out.box 5 _ rfl
              have dd6 := MZ2.out.box 6 _ rfl
              have dd7 := MZ2.out.box 7 _ rfl
              have g0 := MZ2.out.opn.2 0
              have g1 := MZ2.out.opn.2 1
              have g2 := MZ2.out.opn.2 2
              have g3 := MZ2.out.opn.2 3
              have g4 := MZ2.out.opn.2 4
              have g5 := MZ2.out.opn.2 5
              have g6 := MZ2.out.opn.2 6
              have g7 := MZ2.out.opn.2 7
              go_upto_region 20 with fail
              change Code.wp _ _ _ _ (setN z2 bm 0 [.int .i64 mn.ep, .slice u0 k0 f0, .int .i64 mn.p.node, .int .i64 mn.p.state, .int .i64 mn.p.steps, .slice u1 k1 f1, .slice u2 k2 f2, .slice u3 k3 f3])
              have MN : Hid (MIn bm bh mn u0 u1 u2 u3 k0 k1 k2 k3 f0 f1 f2 f3 (setN z2 bm 0 [.int .i64 mn.ep, .slice u0 k0 f0, .int .i64 mn.p.node, .int .i64 mn.p.state, .int .i64 mn.p.steps, .slice u1 k1 f1, .slice u2 k2 f2, .slice u3 k3 f3])) := Lib.hid (MZ2.out.put DZ2.out)
              have BN : Hid (Below w.heap.size w (setN z2 bm 0 [.int .i64 mn.ep, .slice u0 k0 f0, .int .i64 mn.p.node, .int .i64 mn.p.state, .int .i64 mn.p.steps, .slice u1 k1 f1, .slice u2 k2 f2, .slice u3 k3 f3])) := Lib.hid (setN_below LB.out.2.2.2.1 [.int .i64 mn.ep, .slice u0 k0 f0, .int .i64 mn.p.node, .int .i64 mn.p.state, .int .i64 mn.p.steps, .slice u1 k1 f1, .slice u2 k2 f2, .slice u3 k3 f3] 0 z2 BN1.out)
              have SN : Hid (SameOn (fun q => q ≠ bm) wr1 (setN z2 bm 0 [.int .i64 mn.ep, .slice u0 k0 f0, .int .i64 mn.p.node, .int .i64 mn.p.state, .int .i64 mn.p.steps, .slice u1 k1 f1, .slice u2 k2 f2, .slice u3 k3 f3])) := Lib.hid (setN_same (P := fun q => q ≠ bm) (b := bm) (fun h => h rfl) [.int .i64 mn.ep, .slice u0 k0 f0, .int .i64 mn.p.node, .int .i64 mn.p.state, .int .i64 mn.p.steps, .slice u1 k1 f1, .slice u2 k2 f2, .slice u3 k3 f3] 0 z2 SN1.out)
              obtain ⟨wn, hwn⟩ : ∃ x, x = setN z2 bm 0 [.int .i64 mn.ep, .slice u0 k0 f0, .int .i64 mn.p.node, .int .i64 mn.p.state, .int .i64 mn.p.steps, .slice u1 k1 f1, .slice u2 k2 f2, .slice u3 k3 f3] := ⟨_, rfl⟩
              rw [← hwn] at MN BN SN ⊢
              clear hwn cc0 cc1 cc2 cc3 cc4 cc5 cc6 cc7 dd0 dd1 dd2 dd3 dd4 dd5 dd6 dd7 g0 g1 g2 g3 g4 g5 g6 g7 DZ2 MZ2 KB BN1 SN1 KN ON HU BX XY NE
              have RN : Hid (Has wn (.slice (some ⟨lb, lo, none⟩) q xc) (.row 1 (left.map fun x : Nat => [dI (x : Int)]))) := Lib.hid (by rw [← dNats_eq]; exact (RJ.out.same SN.out).weak)
              have BE := Lib.hid (below_new wn (.cells #[] 3))
              have R1 : Hid (Has (wn.alloc (.cells #[] 3)) (.slice (some ⟨lb, lo, none⟩) 0 xc) (.row 1 ((left.take 0).map fun x : Nat => [dI (x : Int)]))) := Lib.hid (by
                have h := (RN.out.take (m := 0) (by rw [List.length_map]; have := QL.out; omega)).later BE.out
                rw [← List.map_take] at h
                exact h)
              obtain ⟨hl1, hn1, news1, hw1, hL1⟩ := newsOf R1.out (fun ds hd => by obtain ⟨_, _, rfl⟩ := List.mem_map.1 hd; rfl) (flat_nats _)
              have HL1 := Lib.hid hl1
              have HN1 := Lib.hid hn1
              have HW1 := Lib.hid hw1
              have HH1 := Lib.hid (hL1 True (fun _ => False))
              clear hl1 hn1 hw1 hL1
              obtain ⟨ys1, hys1⟩ : ∃ y, y = (left.take 0).map fun x : Nat => [dI (x : Int)] := ⟨_, rfl⟩
              rw [← hys1] at HL1 HH1
              have YS1 := Lib.hid hys1
              have F1 : Hid (∀ ds ∈ ys1, ds.length = 1) := Lib.hid (fun ds hd => by rw [hys1] at hd; obtain ⟨_, _, rfl⟩ := List.mem_map.1 hd; rfl)
              clear hys1
              go_wp2_with (at_builtin; refine appLK rfl _ _ 29 3 i0 (.int .i64 0) 1 8 rfl Try.underlying29 hi0 hz0 hs0 hby0 rfl (by decide) (fun q => wn.heap.size ≤ q) (fun _ => False) wn BE.out (fun q hq => hq) (some ⟨wn.heap.size, 0, none⟩) 0 0 [] ys1 0 xc 0 rfl (.nil _ _ _ _ _) (some ⟨lb, lo, none⟩) rfl news1 HW1.out HN1.out F1.out HL1.out HH1.out (fun _ h => h.elim) (Nat.zero_add _) (by unfold maxLen; omega) (by omega) ?_)
              intro ao cv w5 hH hS hB
              have RA : Hid (Holds True (fun q => wn.heap.size ≤ q) w5 (.slice ao 0 cv) (.row 1 ys1)) := Lib.hid (by
                have h2 := hH.wide (P' := fun q => wn.heap.size ≤ q) (fun q _ hq => by
                  rcases hq with h | h
                  · exact h
                  · have h3 := BE.out.size; rw [size_new] at h3; show wn.heap.size ≤ q; omega)
                simpa using h2)
              have BA := Lib.hid hB
              clear hH hS hB HL1 HN1 HW1 HH1 R1
              obtain ⟨sd, hsd⟩ : ∃ x, (if xc = 1 then some ⟨lb, lo, none⟩ else Option.map (fun x => x.add (1 * 1)) (some (⟨lb, lo, none⟩ : Addr))) = x := ⟨_, rfl⟩
              have R2 : Hid (Has w5 (.slice sd (q - (1)) (xc - (1))) (.row 1 ((left.drop (1)).map fun x : Nat => [dI (x : Int)]))) := Lib.hid (by
                have h := holds_drop (k := 1) (RN.out.later BA.out) (by omega)
                rw [← List.map_drop, hsd] at h
                exact h)
              have hsd2 : (if xc = 1 then (some ⟨lb, lo, none⟩ : Option Addr) else some ⟨lb, lo + (1), none⟩) = sd := by rw [← hsd]; simp [Addr.add]
              clear hsd
              obtain ⟨hl1, hn1, news2, hw1, hL1⟩ := newsOf R2.out (fun ds hd => by obtain ⟨_, _, rfl⟩ := List.mem_map.1 hd; rfl) (flat_nats _)
              have HL1 := Lib.hid hl1
              have HN1 := Lib.hid hn1
              have HW1 := Lib.hid hw1
              have HH1 := Lib.hid (hL1 True (fun _ => False))
              clear hl1 hn1 hw1 hL1
              obtain ⟨ys2, hys2⟩ : ∃ y, y = (left.drop (1)).map fun x : Nat => [dI (x : Int)] := ⟨_, rfl⟩
              rw [← hys2] at HL1 HH1
              have F2 : Hid (∀ ds ∈ ys2, ds.length = 1) := Lib.hid (fun ds hd => by rw [hys2] at hd; obtain ⟨_, _, rfl⟩ := List.mem_map.1 hd; rfl)
              have ROWS : Hid (ys1 ++ ys2 = (left.eraseIdx 0).map fun x : Nat => [dI (x : Int)]) := Lib.hid (by rw [YS1.out, hys2]; exact erase_rows)
              have hlen : 0 + (q - (1)) = q - 1 := by omega
              clear hys2 RN R2
              go_wp2_with (at_builtin; refine appLK rfl _ _ 29 3 i0 (.int .i64 0) 1 8 rfl Try.underlying29 hi0 hz0 hs0 hby0 rfl (by decide) (fun q => wn.heap.size ≤ q) (fun _ => False) wn BA.out (fun q hq => hq) ao 0 cv ys1 ys2 (q - (1)) (xc - (1)) (q - 1) rfl RA.out sd rfl news2 HW1.out HN1.out F2.out HL1.out HH1.out (fun _ h => h.elim) hlen (by unfold maxLen; omega) (by omega) ?_)
              intro ao2 cv2 w6 hH hS hB
              have RF : Hid (Holds False (fun q => q ≠ bm) w6 (.slice ao2 (q - 1) cv2) (dNats (left.eraseIdx 0))) := Lib.hid (by
                rw [dNats_eq, ← ROWS.out]
                refine hH.loose.wide (fun x _ hx => ?_)
                have h0 := MN.out.opn.1
                rcases hx with h | h
                · have h' : wn.heap.size ≤ x := h
                  omega
                · have h4 := BA.out.size; omega)
              have BF := Lib.hid hB
              clear hH hS hB HL1 HN1 HW1 HH1 hsd2 hlen RA BA
              have MF := Lib.hid (MN.out.below BF.out)
              have BFw := Lib.hid (below_step' BN.out BF.out)
              have SF := Lib.hid ((SJ.out.trans SN.out).trans (SameOn.of_below BF.out))
              have hql : q - 1 = (left.eraseIdx 0).length := by rw [List.length_eraseIdx, ← QL.out]; simp [KQ.out]
              have QN := Lib.hid hql
              clear hql
              go_wp2_with fail
              go_roundw
              case rel => exact ⟨j + 1, q - 1, left.eraseIdx 0, ao2, cv2, u0, u1, u2, u3, k0, k1, k2, k3, f0, f1, f2, f3, by go_num, rfl, QN.out, by omega, LOK2.out, by rw [← MNE.out]; exact MF.out, RF.out, BFw.out, SF.out⟩
              case measure => simp [intOf]; omega
            · skip
              go_simp
              obtain ⟨bx, hbx⟩ : ∃ b, b = z0.heap.size := ⟨_, rfl⟩
              obtain ⟨y9, hy9⟩ : ∃ y, y = z0.alloc (.cells #[.int .i64 0, .slice none 0 0, .int .i64 0, .int .i64 0, .int .i64 0, .slice none 0 0, .slice none 0 0, .slice none 0 0] 33) := ⟨_, rfl⟩
              have hn : Below z0.heap.size z0 y9 := by rw [hy9]; exact below_new _ _
              have KN0 : Hid (BoxAt bx [.int .i64 0, .slice none 0 0, .int .i64 0, .int .i64 0, .int .i64 0, .slice none 0 0, .slice none 0 0, .slice none 0 0] y9) := Lib.hid (by rw [hbx, hy9]; exact boxAt_new z0 [.int .i64 0, .slice none 0 0, .int .i64 0, .int .i64 0, .int .i64 0, .slice none 0 0, .slice none 0 0, .slice none 0 0] _)
              have ON0 : Hid (Open8 bx y9) := Lib.hid (by rw [hbx, hy9]; exact Open8.new _ _ _)
              have XY : Hid (z0.heap.size ≤ bx) := Lib.hid (by rw [hbx]; exact Nat.le_refl _)
              have BX9 := Lib.hid hn
              rw [← hy9, ← hbx]
              clear hy9 hbx hn
              refine hK.out _ _ ?_ (fun hHeld => ?_)
              · exact QX.out _ BX9.out
              clear hK K
              refine rd 6 fun K hK => ?_
              go_simp
              refine (CM.out y9 BX9.out).mono ?_
              rintro e wx ⟨v0, v1, v2, v3, rfl, hU, hb⟩
              obtain ⟨u0, u1, u2, u3, k0, k1, k2, k3, f0, f1, f2, f3, ff0, ff1, ff2, ff3⟩ := mk_slices hU.weak
              subst ff0
              subst ff1
              subst ff2
              subst ff3
              unfold mkv
              have HU := Lib.hid (hU.loose.wide (P' := fun q => z0.heap.size ≤ q ∧ q ≠ bx) (fun q _ (hq : y9.heap.size ≤ q) => ⟨Nat.le_trans BX9.out.size hq, fun e => by subst e; exact Nat.lt_irrefl _ (Nat.lt_of_lt_of_le ON0.out.1 hq)⟩))
              have KN := Lib.hid (KN0.out.below hb)
              have ON := Lib.hid (ON0.out.below hb)
              have BX := Lib.hid (below_step' BX9.out hb)
              clear hU hb KN0 ON0 BX9
              go_wp2_with fail
              refine hK.out _ _ ?_ (fun hHeld => ?_)
              · exact QX.out _ BX.out
              clear hK K
              refine tq 7 ?_
              refine tq 8 ?_
              refine tq 9 ?_
              have NE : Hid (bm ≠ bx ∧ bh ≠ bx ∧ lb ≠ bx) := Lib.hid (by have h1 := SZ0.out; have h2 := XY.out; omega)
              have cc0 := KN.out 0 _ rfl
              have cc1 := KN.out 1 _ rfl
              have cc2 := KN.out 2 _ rfl
              have cc3 := KN.out 3 _ rfl
              have cc4 := KN.out 4 _ rfl
              have cc5 := KN.out 5 _ rfl
              have cc6 := KN.out 6 _ rfl
              have cc7 := KN.out 7 _ rfl
              have g0 := ON.out.2 0
              have g1 := ON.out.2 1
              have g2 := ON.out.2 2
              have g3 := ON.out.2 3
              have g4 := ON.out.2 4
              have g5 := ON.out.2 5
              have g6 := ON.out.2 6
              have g7 := ON.out.2 7
              have q9 := QX.out _ BX.out
              have SNH : Hid ((fun w' => w'.cell? ⟨bm, 0, none⟩ = some (.int .i64 m.ep) ∧ w'.cell? ⟨bm, 1, none⟩ = some (.slice c0 s0 t0) ∧ w'.cell? ⟨bm, 2, none⟩ = some (.int .i64 m.p.node) ∧ w'.cell? ⟨bm, 3, none⟩ = some (.int .i64 m.p.state) ∧ w'.cell? ⟨bm, 4, none⟩ = some (.int .i64 m.p.steps) ∧ w'.cell? ⟨bm, 5, none⟩ = some (.slice c1 s1 t1) ∧ w'.cell? ⟨bm, 6, none⟩ = some (.slice c2 s2 t2) ∧ w'.cell? ⟨bm, 7, none⟩ = some (.slice c3 s3 t3) ∧ w'.cell? ⟨bh, 0, none⟩ = some (.int .i64 1) ∧ w'.cell? ⟨bh, 1, none⟩ = some (.int .i64 2) ∧ w'.cell? ⟨bh, 2, none⟩ = some (.int .i64 3) ∧ w'.cell? ⟨bh, 3, none⟩ = some (.slice ga N gc) ∧ w'.cell? ⟨bh, 4, none⟩ = some (.slice gb N gd) ∧ w'.cell? ⟨lb, lo, none⟩ = some (.int .i64 (xv : Int))) (setN wx bx 0 [.int .i64 mn.ep, .slice u0 k0 f0, .int .i64 mn.p.node, .int .i64 mn.p.state, .int .i64 mn.p.steps, .slice u1 k1 f1, .slice u2 k2 f2, .slice u3 k3 f3])) := Lib.hid ⟨setN_cell NE.out.1 (q9.1), setN_cell NE.out.1 (q9.2.1), setN_cell NE.out.1 (q9.2.2.1), setN_cell NE.out.1 (q9.2.2.2.1), setN_cell NE.out.1 (q9.2.2.2.2.1), setN_cell NE.out.1 (q9.2.2.2.2.2.1), setN_cell NE.out.1 (q9.2.2.2.2.2.2.1), setN_cell NE.out.1 (q9.2.2.2.2.2.2.2.1), setN_cell NE.out.2.1 (q9.2.2.2.2.2.2.2.2.1), setN_cell NE.out.2.1 (q9.2.2.2.2.2.2.2.2.2.1), setN_cell NE.out.2.1 (q9.2.2.2.2.2.2.2.2.2.2.1), setN_cell NE.out.2.1 (q9.2.2.2.2.2.2.2.2.2.2.2.1), setN_cell NE.out.2.1 (q9.2.2.2.2.2.2.2.2.2.2.2.2.1), setN_cell NE.out.2.2 (q9.2.2.2.2.2.2.2.2.2.2.2.2.2)⟩
              clear q9
              refine rd 11 fun K hK => ?_
              go_simp
              refine hK.out _ _ ?_ (fun hHeld => ?_)
              · exact SNH.out
              clear hK K
              refine tq 12 ?_
              refine wpAnyH_done (by kernel_rfl) ?_ _
              change Exit.then _ _ Exit.normal _ (setN wx bx 0 [.int .i64 mn.ep, .slice u0 k0 f0, .int .i64 mn.p.node, .int .i64 mn.p.state, .int .i64 mn.p.steps, .slice u1 k1 f1, .slice u2 k2 f2, .slice u3 k3 f3])
              have KB : Hid (BoxAt bx [.int .i64 mn.ep, .slice u0 k0 f0, .int .i64 mn.p.node, .int .i64 mn.p.state, .int .i64 mn.p.steps, .slice u1 k1 f1, .slice u2 k2 f2, .slice u3 k3 f3] (setN wx bx 0 [.int .i64 mn.ep, .slice u0 k0 f0, .int .i64 mn.p.node, .int .i64 mn.p.state, .int .i64 mn.p.steps, .slice u1 k1 f1, .slice u2 k2 f2, .slice u3 k3 f3])) := Lib.hid (setN_box [.int .i64 mn.ep, .slice u0 k0 f0, .int .i64 mn.p.node, .int .i64 mn.p.state, .int .i64 mn.p.steps, .slice u1 k1 f1, .slice u2 k2 f2, .slice u3 k3 f3] 0 _ wx KN.out (by simp))
              have MZ2 := Lib.hid (MJ.out.other (below_step' BZ.out BX.out) (Nat.le_trans BZ.out.size XY.out) 0 [.int .i64 mn.ep, .slice u0 k0 f0, .int .i64 mn.p.node, .int .i64 mn.p.state, .int .i64 mn.p.steps, .slice u1 k1 f1, .slice u2 k2 f2, .slice u3 k3 f3])
              have DZ2 : Hid (HoldsL False (fun q => q ≠ bm ∧ q ≠ bh) (setN wx bx 0 [.int .i64 mn.ep, .slice u0 k0 f0, .int .i64 mn.p.node, .int .i64 mn.p.state, .int .i64 mn.p.steps, .slice u1 k1 f1, .slice u2 k2 f2, .slice u3 k3 f3]) [.slice u0 k0 f0, .slice u1 k1 f1, .slice u2 k2 f2, .slice u3 k3 f3] mn.d) := Lib.hid ((HU.out.same (setN_same (P := fun q => z0.heap.size ≤ q ∧ q ≠ bx) (b := bx) (fun h => h.2 rfl) [.int .i64 mn.ep, .slice u0 k0 f0, .int .i64 mn.p.node, .int .i64 mn.p.state, .int .i64 mn.p.steps, .slice u1 k1 f1, .slice u2 k2 f2, .slice u3 k3 f3] 0 wx (SameOn.refl _ _))).wide (fun q _ (hq : z0.heap.size ≤ q ∧ q ≠ bx) => by have := SZ0.out; omega))
              have BN1 := Lib.hid (setN_below (Nat.le_trans BJ.out.size (Nat.le_trans BZ.out.size XY.out)) [.int .i64 mn.ep, .slice u0 k0 f0, .int .i64 mn.p.node, .int .i64 mn.p.state, .int .i64 mn.p.steps, .slice u1 k1 f1, .slice u2 k2 f2, .slice u3 k3 f3] 0 wx (below_step' BJ.out (below_step' BZ.out BX.out)))
              have SN1 : Hid (SameOn (fun q => q ≠ bm) wr1 (setN wx bx 0 [.int .i64 mn.ep, .slice u0 k0 f0, .int .i64 mn.p.node, .int .i64 mn.p.state, .int .i64 mn.p.steps, .slice u1 k1 f1, .slice u2 k2 f2, .slice u3 k3 f3])) := Lib.hid ((SameOn.of_below BZ.out).trans ⟨by rw [setN_size]; exact BX.out.size, fun q _ hq => (setN_same (P := fun q => q < z0.heap.size) (b := bx) (fun h => Nat.not_lt.2 XY.out h) [.int .i64 mn.ep, .slice u0 k0 f0, .int .i64 mn.p.node, .int .i64 mn.p.state, .int .i64 mn.p.steps, .slice u1 k1 f1, .slice u2 k2 f2, .slice u3 k3 f3] 0 wx (SameOn.of_below BX.out)).2 q hq hq⟩)
              obtain ⟨z2, hz2⟩ : ∃ x, x = setN wx bx 0 [.int .i64 mn.ep, .slice u0 k0 f0, .int .i64 mn.p.node, .int .i64 mn.p.state, .int .i64 mn.p.steps, .slice u1 k1 f1, .slice u2 k2 f2, .slice u3 k3 f3] := ⟨_, rfl⟩
              rw [← hz2] at KB MZ2 DZ2 BN1 SN1 ⊢
              clear hz2 cc0 cc1 cc2 cc3 cc4 cc5 cc6 cc7 g0 g1 g2 g3 g4 g5 g6 g7 SNH hHeld
              have cc0 := KB.out 0 _ rfl
              have cc1 := KB.out 1 _ rfl
              have cc2 := KB.out 2 _ rfl
              have cc3 := KB.out 3 _ rfl
              have cc4 := KB.out 4 _ rfl
              have cc5 := KB.out 5 _ rfl
              have cc6 := KB.out 6 _ rfl
              have cc7 := KB.out 7 _ rfl
              have dd0 := MZ2.out.box 0 _ rfl
              have dd1 := MZ2.out.box 1 _ rfl
              have dd2 := MZ2.out.box 2 _ rfl
              have dd3 := MZ2.out.box 3 _ rfl
              have dd4 := MZ2.out.box 4 _ rfl
              have dd5 := MZ2.out.box 5 _ rfl
              have dd6 := MZ2.out.box 6 _ rfl
              have dd7 := MZ2.out.box 7 _ rfl
              have g0 := MZ2.out.opn.2 0
              have g1 := MZ2.out.opn.2 1
              have g2 := MZ2.out.opn.2 2
              have g3 := MZ2.out.opn.2 3
              have g4 := MZ2.out.opn.2 4
              have g5 := MZ2.out.opn.2 5
              have g6 := MZ2.out.opn.2 6
              have g7 := MZ2.out.opn.2 7
              go_upto_region 20 with fail
              change Code.wp _ _ _ _ (setN z2 bm 0 [.int .i64 mn.ep, .slice u0 k0 f0, .int .i64 mn.p.node, .int .i64 mn.p.state, .int .i64 mn.p.steps, .slice u1 k1 f1, .slice u2 k2 f2, .slice u3 k3 f3])
              have MN : Hid (MIn bm bh mn u0 u1 u2 u3 k0 k1 k2 k3 f0 f1 f2 f3 (setN z2 bm 0 [.int .i64 mn.ep, .slice u0 k0 f0, .int .i64 mn.p.node, .int .i64 mn.p.state, .int .i64 mn.p.steps, .slice u1 k1 f1, .slice u2 k2 f2, .slice u3 k3 f3])) := Lib.hid (MZ2.out.put DZ2.out)
              have BN : Hid (Below w.heap.size w (setN z2 bm 0 [.int .i64 mn.ep, .slice u0 k0 f0, .int .i64 mn.p.node, .int .i64 mn.p.state, .int .i64 mn.p.steps, .slice u1 k1 f1, .slice u2 k2 f2, .slice u3 k3 f3])) := Lib.hid (setN_below LB.out.2.2.2.1 [.int .i64 mn.ep, .slice u0 k0 f0, .int .i64 mn.p.node, .int .i64 mn.p.state, .int .i64 mn.p.steps, .slice u1 k1 f1, .slice u2 k2 f2, .slice u3 k3 f3] 0 z2 BN1.out)
              have SN : Hid (SameOn (fun q => q ≠ bm) wr1 (setN z2 bm 0 [.int .i64 mn.ep, .slice u0 k0 f0, .int .i64 mn.p.node, .int .i64 mn.p.state, .int .i64 mn.p.steps, .slice u1 k1 f1, .slice u2 k2 f2, .slice u3 k3 f3])) := Lib.hid (setN_same (P := fun q => q ≠ bm) (b := bm) (fun h => h rfl) [.int .i64 mn.ep, .slice u0 k0 f0, .int .i64 mn.p.node, .int .i64 mn.p.state, .int .i64 mn.p.steps, .slice u1 k1 f1, .slice u2 k2 f2, .slice u3 k3 f3] 0 z2 SN1.out)
              obtain ⟨wn, hwn⟩ : ∃ x, x = setN z2 bm 0 [.int .i64 mn.ep, .slice u0 k0 f0, .int .i64 mn.p.node, .int .i64 mn.p.state, .int .i64 mn.p.steps, .slice u1 k1 f1, .slice u2 k2 f2, .slice u3 k3 f3] := ⟨_, rfl⟩
              rw [← hwn] at MN BN SN ⊢
              clear hwn cc0 cc1 cc2 cc3 cc4 cc5 cc6 cc7 dd0 dd1 dd2 dd3 dd4 dd5 dd6 dd7 g0 g1 g2 g3 g4 g5 g6 g7 DZ2 MZ2 KB BN1 SN1 KN ON HU BX XY NE
              have RN : Hid (Has wn (.slice (some ⟨lb, lo, none⟩) q xc) (.row 1 (left.map fun x : Nat => [dI (x : Int)]))) := Lib.hid (by rw [← dNats_eq]; exact (RJ.out.same SN.out).weak)
              have BE := Lib.hid (below_new wn (.cells #[] 3))
              have R1 : Hid (Has (wn.alloc (.cells #[] 3)) (.slice (some ⟨lb, lo, none⟩) 0 xc) (.row 1 ((left.take 0).map fun x : Nat => [dI (x : Int)]))) := Lib.hid (by
                have h := (RN.out.take (m := 0) (by rw [List.length_map]; have := QL.out; omega)).later BE.out
                rw [← List.map_take] at h
                exact h)
              obtain ⟨hl1, hn1, news1, hw1, hL1⟩ := newsOf R1.out (fun ds hd => by obtain ⟨_, _, rfl⟩ := List.mem_map.1 hd; rfl) (flat_nats _)
              have HL1 := Lib.hid hl1
              have HN1 := Lib.hid hn1
              have HW1 := Lib.hid hw1
              have HH1 := Lib.hid (hL1 True (fun _ => False))
              clear hl1 hn1 hw1 hL1
              obtain ⟨ys1, hys1⟩ : ∃ y, y = (left.take 0).map fun x : Nat => [dI (x : Int)] := ⟨_, rfl⟩
              rw [← hys1] at HL1 HH1
              have YS1 := Lib.hid hys1
              have F1 : Hid (∀ ds ∈ ys1, ds.length = 1) := Lib.hid (fun ds hd => by rw [hys1] at hd; obtain ⟨_, _, rfl⟩ := List.mem_map.1 hd; rfl)
              clear hys1
              go_wp2_with (at_builtin; refine appLK rfl _ _ 29 3 i0 (.int .i64 0) 1 8 rfl Try.underlying29 hi0 hz0 hs0 hby0 rfl (by decide) (fun q => wn.heap.size ≤ q) (fun _ => False) wn BE.out (fun q hq => hq) (some ⟨wn.heap.size, 0, none⟩) 0 0 [] ys1 0 xc 0 rfl (.nil _ _ _ _ _) (some ⟨lb, lo, none⟩) rfl news1 HW1.out HN1.out F1.out HL1.out HH1.out (fun _ h => h.elim) (Nat.zero_add _) (by unfold maxLen; omega) (by omega) ?_)
              intro ao cv w5 hH hS hB
              have RA : Hid (Holds True (fun q => wn.heap.size ≤ q) w5 (.slice ao 0 cv) (.row 1 ys1)) := Lib.hid (by
                have h2 := hH.wide (P' := fun q => wn.heap.size ≤ q) (fun q _ hq => by
                  rcases hq with h | h
                  · exact h
                  · have h3 := BE.out.size; rw [size_new] at h3; show wn.heap.size ≤ q; omega)
                simpa using h2)
              have BA := Lib.hid hB
              clear hH hS hB HL1 HN1 HW1 HH1 R1
              obtain ⟨sd, hsd⟩ : ∃ x, (if xc = 1 then some ⟨lb, lo, none⟩ else Option.map (fun x => x.add (1 * 1)) (some (⟨lb, lo, none⟩ : Addr))) = x := ⟨_, rfl⟩
              have R2 : Hid (Has w5 (.slice sd (q - (1)) (xc - (1))) (.row 1 ((left.drop (1)).map fun x : Nat => [dI (x : Int)]))) := Lib.hid (by
                have h := holds_drop (k := 1) (RN.out.later BA.out) (by omega)
                rw [← List.map_drop, hsd] at h
                exact h)
              have hsd2 : (if xc = 1 then (some ⟨lb, lo, none⟩ : Option Addr) else some ⟨lb, lo + (1), none⟩) = sd := by rw [← hsd]; simp [Addr.add]
              clear hsd
              obtain ⟨hl1, hn1, news2, hw1, hL1⟩ := newsOf R2.out (fun ds hd => by obtain ⟨_, _, rfl⟩ := List.mem_map.1 hd; rfl) (flat_nats _)
              have HL1 := Lib.hid hl1
              have HN1 := Lib.hid hn1
              have HW1 := Lib.hid hw1
              have HH1 := Lib.hid (hL1 True (fun _ => False))
              clear hl1 hn1 hw1 hL1
              obtain ⟨ys2, hys2⟩ : ∃ y, y = (left.drop (1)).map fun x : Nat => [dI (x : Int)] := ⟨_, rfl⟩
              rw [← hys2] at HL1 HH1
              have F2 : Hid (∀ ds ∈ ys2, ds.length = 1) := Lib.hid (fun ds hd => by rw [hys2] at hd; obtain ⟨_, _, rfl⟩ := List.mem_map.1 hd; rfl)
              have ROWS : Hid (ys1 ++ ys2 = (left.eraseIdx 0).map fun x : Nat => [dI (x : Int)]) := Lib.hid (by rw [YS1.out, hys2]; exact erase_rows)
              have hlen : 0 + (q - (1)) = q - 1 := by omega
              clear hys2 RN R2
              go_wp2_with (at_builtin; refine appLK rfl _ _ 29 3 i0 (.int .i64 0) 1 8 rfl Try.underlying29 hi0 hz0 hs0 hby0 rfl (by decide) (fun q => wn.heap.size ≤ q) (fun _ => False) wn BA.out (fun q hq => hq) ao 0 cv ys1 ys2 (q - (1)) (xc - (1)) (q - 1) rfl RA.out sd rfl news2 HW1.out HN1.out F2.out HL1.out HH1.out (fun _ h => h.elim) hlen (by unfold maxLen; omega) (by omega) ?_)
              intro ao2 cv2 w6 hH hS hB
              have RF : Hid (Holds False (fun q => q ≠ bm) w6 (.slice ao2 (q - 1) cv2) (dNats (left.eraseIdx 0))) := Lib.hid (by
                rw [dNats_eq, ← ROWS.out]
                refine hH.loose.wide (fun x _ hx => ?_)
                have h0 := MN.out.opn.1
                rcases hx with h | h
                · have h' : wn.heap.size ≤ x := h
                  omega
                · have h4 := BA.out.size; omega)
              have BF := Lib.hid hB
              clear hH hS hB HL1 HN1 HW1 HH1 hsd2 hlen RA BA
              have MF := Lib.hid (MN.out.below BF.out)
              have BFw := Lib.hid (below_step' BN.out BF.out)
              have SF := Lib.hid ((SJ.out.trans SN.out).trans (SameOn.of_below BF.out))
              have hql : q - 1 = (left.eraseIdx 0).length := by rw [List.length_eraseIdx, ← QL.out]; simp [KQ.out]
              have QN := Lib.hid hql
              clear hql
              go_wp2_with fail
              go_roundw
              case rel => exact ⟨j + 1, q - 1, left.eraseIdx 0, ao2, cv2, u0, u1, u2, u3, k0, k1, k2, k3, f0, f1, f2, f3, by go_num, rfl, QN.out, by omega, LOK2.out, by rw [← MNE.out]; exact MF.out, RF.out, BFw.out, SF.out⟩
              case measure => simp [intOf]; omega
        · obtain rfl : N = j := by omega
          have hj3 : ¬ (N : Int) < N := by omega
          have D9 : Hid (∀ w', Below wr1.heap.size wr1 w' → Calls Try.prog 17 #[mkv m (.slice c0 s0 t0) (.slice c1 s1 t1) (.slice c2 s2 t2) (.slice c3 s3 t3), .int .i64 9] w' fun e w'' => e = .returned (.bool true) ∧ Below w'.heap.size w' w'') := Lib.hid (fun w' hb => by
            have p := done_at m 9 _ _ _ _ w' (MJ.out.dat.weak.later hb) SM.out
            rw [show doneM m 9 = true by rw [ME.out, show left = [] from List.eq_nil_of_length_eq_zero (by rw [← QL.out]; omega)]; exact mO_empty N] at p
            exact p)
          have D8 : Hid (∀ w', Below wr1.heap.size wr1 w' → Calls Try.prog 17 #[mkv m (.slice c0 s0 t0) (.slice c1 s1 t1) (.slice c2 s2 t2) (.slice c3 s3 t3), .int .i64 8] w' fun e w'' => e = .returned (.bool false) ∧ Below w'.heap.size w' w'') := Lib.hid (fun w' hb => by
            have p := done_at m 8 _ _ _ _ w' (MJ.out.dat.weak.later hb) SM.out
            rw [show doneM m 8 = false by rw [ME.out]; exact mO_eight N left] at p
            exact p)
          unfold mkv at D9 D8
          have cc0 := MJ.out.box 0 _ rfl
          have cc1 := MJ.out.box 1 _ rfl
          have cc2 := MJ.out.box 2 _ rfl
          have cc3 := MJ.out.box 3 _ rfl
          have cc4 := MJ.out.box 4 _ rfl
          have cc5 := MJ.out.box 5 _ rfl
          have cc6 := MJ.out.box 6 _ rfl
          have cc7 := MJ.out.box 7 _ rfl
          go_wp2_with fail
          refine (D9.out _ (Below.refl _ _)).mono ?_
          rintro e w4 ⟨rfl, hb⟩
          have B4 := Lib.hid hb
          have K4 := Lib.hid (MJ.out.box.below hb)
          clear hb cc0 cc1 cc2 cc3 cc4 cc5 cc6 cc7 D9
          have cc0 := K4.out 0 _ rfl
          have cc1 := K4.out 1 _ rfl
          have cc2 := K4.out 2 _ rfl
          have cc3 := K4.out 3 _ rfl
          have cc4 := K4.out 4 _ rfl
          have cc5 := K4.out 5 _ rfl
          have cc6 := K4.out 6 _ rfl
          have cc7 := K4.out 7 _ rfl
          go_wp2_with fail
          refine (D8.out _ B4.out).mono ?_
          rintro e w5 ⟨rfl, hb⟩
          have B5 := Lib.hid (below_step' B4.out hb)
          clear hb cc0 cc1 cc2 cc3 cc4 cc5 cc6 cc7 D8
          go_wp2_with fail
          refine (fixed10_any w5).mono ?_
          rintro e w6 ⟨rfl, hb⟩
          have B6 := Lib.hid (below_step' B5.out hb)
          clear hb
          go_wp2_with fail
          go_ret
          exact ⟨rfl, below_step' BJ.out B6.out⟩
end Go.Proofs.Ytlhclnhdcenkhaa
