/- Marks: changed. Written by gen_mark1.py. -/
import Derived.Test.YtlhclnhdcenkhaaMkD
set_option linter.unusedSimpArgs false
set_option linter.unusedVariables false
set_option maxRecDepth 100000
namespace Go.Proofs.Ytlhclnhdcenkhaa
open Go.RowKit Go.PlainAid

theorem BoxAt.low {b B : Nat} {vs : List Value} {w w' : World} (h : BoxAt b vs w) (hb : Below B w w') (hB : b < B) : BoxAt b vs w' := fun i v e => (hb.cell (by exact hB)).trans (h i v e)
theorem Open8.low {b B : Nat} {w w' : World} (h : Open8 b w) (hb : Below B w w') (hB : b < B) : Open8 b w' := ⟨Nat.lt_of_lt_of_le h.1 hb.size, fun i => (hb.frozen (p := ⟨b, i, none⟩) hB).trans (h.2 i)⟩
theorem closeM_small {m : Mk} {x : Int} (h : SmallMk m) : SmallMk (closeM m x) := ⟨by unfold closeM; simp only [List.length_set]; exact h.b, h.p⟩
set_option maxHeartbeats 8000000 in
theorem chM_at (m : Mk) (v0 v1 v2 v3 : Value) (at' : Int) (ba : Nat) (ua : Option Addr) (un uc : Nat) (w : World) (h : HasL w [v0, v1, v2, v3] m.d) (hs : SmallMk m) (ha : w.cell? ⟨ba, 0, none⟩ = some (.int .i64 at')) (hi : inB at' un = true → at'.toNat < m.op.length) :
    Calls Try.prog 23 #[mkv m v0 v1 v2 v3, .int .i64 at', .func (.func 24) #[.slice ua un uc] #[], .func (.func 25) #[] #[.pointer (some ⟨ba, 0, none⟩)]] w (MkTold2 (if inB at' un then closeM m at' else m) (inB at' un) w) := by
  have OW := Lib.hid (fun (w' : World) (hb : Below w.heap.size w w') => mown_at m v0 v1 v2 v3 w' (h.later hb) hs)
  obtain ⟨a0, a1, a2, a3, n0, n1, n2, n3, e0, e1, e2, e3, ee0, ee1, ee2, ee3⟩ := mk_slices h
  subst ee0
  subst ee1
  subst ee2
  subst ee3
  obtain ⟨ep, hep⟩ : ∃ e, e = m.ep := ⟨_, rfl⟩
  obtain ⟨p0, hp0⟩ : ∃ e, e = m.p.node := ⟨_, rfl⟩
  obtain ⟨p1, hp1⟩ : ∃ e, e = m.p.state := ⟨_, rfl⟩
  obtain ⟨p2, hp2⟩ : ∃ e, e = m.p.steps := ⟨_, rfl⟩
  have MQ : Hid (∀ v x y z, mkv m v x y z = .agg #[.int .i64 ep, v, .int .i64 p0, .int .i64 p1, .int .i64 p2, x, y, z]) := Lib.hid (fun v x y z => by rw [hep, hp0, hp1, hp2])
  rw [MQ.out] at OW ⊢
  obtain ⟨cb, hcb⟩ : ∃ c, c = inB at' un := ⟨_, rfl⟩
  have ASK := Lib.hid (fun (w' : World) (hb : Below w.heap.size w w') => has_at ua un uc at' w')
  rw [← hcb] at ASK ⊢
  obtain ⟨mr, hmr⟩ : ∃ r, r = if cb = true then closeM m at' else m := ⟨_, rfl⟩
  rw [← hmr]
  have MR := Lib.hid hmr
  have CB := Lib.hid hcb
  have HS := Lib.hid hs
  have HA := Lib.hid ha
  have HI := Lib.hid hi
  clear h hs hep hp0 hp1 hp2 hcb ha hi hmr
  go_enter Try.func23, Try.ntmps23
  go_upto_region 1 with fail
  obtain ⟨bc, hbc⟩ : ∃ b, b = w.heap.size := ⟨_, rfl⟩
  obtain ⟨br, hbr⟩ : ∃ b, b = w.heap.size + 1 := ⟨_, rfl⟩
  obtain ⟨y, hy⟩ : ∃ y, y = w.alloc (.cells #[.int .i64 ep, .slice a0 n0 e0, .int .i64 p0, .int .i64 p1, .int .i64 p2, .slice a1 n1 e1, .slice a2 n2 e2, .slice a3 n3 e3] 33) := ⟨_, rfl⟩
  obtain ⟨y0, hy0⟩ : ∃ z, z = y.alloc (.cells #[.int .i64 0, .slice none 0 0, .int .i64 0, .int .i64 0, .int .i64 0, .slice none 0 0, .slice none 0 0, .slice none 0 0] 33) := ⟨_, rfl⟩
  have hbw : Below w.heap.size w y := by rw [hy]; exact below_new _ _
  have hby : Below y.heap.size y y0 := by rw [hy0]; exact below_new _ _
  have hys : y.heap.size = br := by rw [hy, size_new, hbr]
  have K0 : Hid (BoxAt bc [.int .i64 ep, .slice a0 n0 e0, .int .i64 p0, .int .i64 p1, .int .i64 p2, .slice a1 n1 e1, .slice a2 n2 e2, .slice a3 n3 e3] y0) := Lib.hid (by rw [hbc]; exact BoxAt.below (by rw [hy]; exact boxAt_new w [.int .i64 ep, .slice a0 n0 e0, .int .i64 p0, .int .i64 p1, .int .i64 p2, .slice a1 n1 e1, .slice a2 n2 e2, .slice a3 n3 e3] _) hby)
  have K1 : Hid (BoxAt br [.int .i64 0, .slice none 0 0, .int .i64 0, .int .i64 0, .int .i64 0, .slice none 0 0, .slice none 0 0, .slice none 0 0] y0) := Lib.hid (by rw [← hys, hy0]; exact boxAt_new y [.int .i64 0, .slice none 0 0, .int .i64 0, .int .i64 0, .int .i64 0, .slice none 0 0, .slice none 0 0, .slice none 0 0] _)
  have O0 : Hid (Open8 bc y0) := Lib.hid (by rw [hbc]; exact Open8.below (by rw [hy]; exact Open8.new _ _ _) hby)
  have O1 : Hid (Open8 br y0) := Lib.hid (by rw [← hys, hy0]; exact Open8.new _ _ _)
  have B0 := Lib.hid (below_step' hbw hby)
  have RR : Hid (w.heap.size ≤ bc ∧ w.heap.size ≤ br ∧ bc ≠ br) := Lib.hid (by omega)
  rw [← hy, ← hy0, ← hbr, ← hbc]
  clear hy hy0 hbw hby hys hbc hbr
  have c0 := K0.out 0 _ rfl
  have c1 := K0.out 1 _ rfl
  have c2 := K0.out 2 _ rfl
  have c3 := K0.out 3 _ rfl
  have c4 := K0.out 4 _ rfl
  have c5 := K0.out 5 _ rfl
  have c6 := K0.out 6 _ rfl
  have c7 := K0.out 7 _ rfl
  go_wp2_with fail
  refine (OW.out _ B0.out).mono ?_
  rintro e w1 ⟨v0, v1, v2, v3, rfl, hU, hb⟩
  obtain ⟨u0, u1, u2, u3, k0, k1, k2, k3, f0, f1, f2, f3, ff0, ff1, ff2, ff3⟩ := mk_slices hU.weak
  subst ff0
  subst ff1
  subst ff2
  subst ff3
  rw [MQ.out]
  have HU := Lib.hid hU
  have B1 := Lib.hid hb
  clear hU hb c0 c1 c2 c3 c4 c5 c6 c7 OW
  have KX := Lib.hid (K0.out.below B1.out)
  have OX := Lib.hid (O0.out.below B1.out)
  have KR := Lib.hid (K1.out.below B1.out)
  have OR := Lib.hid (O1.out.below B1.out)
  have c0 := KX.out 0 _ rfl
  have c1 := KX.out 1 _ rfl
  have c2 := KX.out 2 _ rfl
  have c3 := KX.out 3 _ rfl
  have c4 := KX.out 4 _ rfl
  have c5 := KX.out 5 _ rfl
  have c6 := KX.out 6 _ rfl
  have c7 := KX.out 7 _ rfl
  have g0 := OX.out.2 0
  have g1 := OX.out.2 1
  have g2 := OX.out.2 2
  have g3 := OX.out.2 3
  have g4 := OX.out.2 4
  have g5 := OX.out.2 5
  have g6 := OX.out.2 6
  have g7 := OX.out.2 7
  go_upto_region 2 with fail
  change Code.wp _ _ _ _ (setN w1 bc 0 [.int .i64 ep, .slice u0 k0 f0, .int .i64 p0, .int .i64 p1, .int .i64 p2, .slice u1 k1 f1, .slice u2 k2 f2, .slice u3 k3 f3])
  have KX2 : Hid (BoxAt bc [.int .i64 ep, .slice u0 k0 f0, .int .i64 p0, .int .i64 p1, .int .i64 p2, .slice u1 k1 f1, .slice u2 k2 f2, .slice u3 k3 f3] (setN w1 bc 0 [.int .i64 ep, .slice u0 k0 f0, .int .i64 p0, .int .i64 p1, .int .i64 p2, .slice u1 k1 f1, .slice u2 k2 f2, .slice u3 k3 f3])) := Lib.hid (setN_box [.int .i64 ep, .slice u0 k0 f0, .int .i64 p0, .int .i64 p1, .int .i64 p2, .slice u1 k1 f1, .slice u2 k2 f2, .slice u3 k3 f3] 0 _ w1 KX.out (by simp))
  have KR2 : Hid (BoxAt br [.int .i64 0, .slice none 0 0, .int .i64 0, .int .i64 0, .int .i64 0, .slice none 0 0, .slice none 0 0, .slice none 0 0] (setN w1 bc 0 [.int .i64 ep, .slice u0 k0 f0, .int .i64 p0, .int .i64 p1, .int .i64 p2, .slice u1 k1 f1, .slice u2 k2 f2, .slice u3 k3 f3])) := Lib.hid (setN_far (Ne.symm RR.out.2.2) KR.out)
  have OR2 : Hid (Open8 br (setN w1 bc 0 [.int .i64 ep, .slice u0 k0 f0, .int .i64 p0, .int .i64 p1, .int .i64 p2, .slice u1 k1 f1, .slice u2 k2 f2, .slice u3 k3 f3])) := Lib.hid OR.out.set
  have HL2 := Lib.hid (HU.out.same (setN_same (P := fun q => y0.heap.size ≤ q) (b := bc) (fun h => Nat.lt_irrefl _ (Nat.lt_of_lt_of_le O0.out.1 h)) [.int .i64 ep, .slice u0 k0 f0, .int .i64 p0, .int .i64 p1, .int .i64 p2, .slice u1 k1 f1, .slice u2 k2 f2, .slice u3 k3 f3] 0 w1 (SameOn.refl _ _)))
  have B2 := Lib.hid (setN_below RR.out.1 [.int .i64 ep, .slice u0 k0 f0, .int .i64 p0, .int .i64 p1, .int .i64 p2, .slice u1 k1 f1, .slice u2 k2 f2, .slice u3 k3 f3] 0 w1 (below_step' B0.out B1.out))
  have Z2 : Hid (y0.heap.size ≤ (setN w1 bc 0 [.int .i64 ep, .slice u0 k0 f0, .int .i64 p0, .int .i64 p1, .int .i64 p2, .slice u1 k1 f1, .slice u2 k2 f2, .slice u3 k3 f3]).heap.size) := Lib.hid (by rw [setN_size]; exact B1.out.size)
  obtain ⟨w2, hw2⟩ : ∃ x, x = setN w1 bc 0 [.int .i64 ep, .slice u0 k0 f0, .int .i64 p0, .int .i64 p1, .int .i64 p2, .slice u1 k1 f1, .slice u2 k2 f2, .slice u3 k3 f3] := ⟨_, rfl⟩
  rw [← hw2] at KX2 KR2 OR2 HL2 B2 Z2 ⊢
  clear hw2 c0 c1 c2 c3 c4 c5 c6 c7 g0 g1 g2 g3 g4 g5 g6 g7 KX OX KR OR HU
  have c0 := KX2.out 0 _ rfl
  have c1 := KX2.out 1 _ rfl
  have c2 := KX2.out 2 _ rfl
  have c3 := KX2.out 3 _ rfl
  have c4 := KX2.out 4 _ rfl
  have c5 := KX2.out 5 _ rfl
  have c6 := KX2.out 6 _ rfl
  have c7 := KX2.out 7 _ rfl
  have r0 := KR2.out 0 _ rfl
  have r1 := KR2.out 1 _ rfl
  have r2 := KR2.out 2 _ rfl
  have r3 := KR2.out 3 _ rfl
  have r4 := KR2.out 4 _ rfl
  have r5 := KR2.out 5 _ rfl
  have r6 := KR2.out 6 _ rfl
  have r7 := KR2.out 7 _ rfl
  have g0 := OR2.out.2 0
  have g1 := OR2.out.2 1
  have g2 := OR2.out.2 2
  have g3 := OR2.out.2 3
  have g4 := OR2.out.2 4
  have g5 := OR2.out.2 5
  have g6 := OR2.out.2 6
  have g7 := OR2.out.2 7
  cases cb with
  | true =>
    obtain rfl : mr = closeM m at' := by rw [MR.out]; simp
    have hi := HI.out CB.out.symm
    have hat : 0 ≤ at' := by have h := CB.out.symm; simp [inB] at h; exact h.1
    obtain ⟨j, rfl⟩ : ∃ j : Nat, at' = j := ⟨at'.toNat, by omega⟩
    have hi2 : j < m.op.length := by simpa using hi
    have CL := Lib.hid (closeM_at m j ba y0.heap.size _ _ _ _ w2 HL2.out hi2 Z2.out ((B2.out.cell (World.block_lt_of_cell? w _ HA.out)).trans HA.out))
    rw [MQ.out] at CL
    clear hi hat hi2
    go_wp2_with fail
    refine (ASK.out _ B2.out).mono ?_
    rintro e w9 ⟨rfl, rfl⟩
    go_wp2_with fail
    refine CL.out.mono ?_
    rintro e w3 ⟨rfl, hL, hb⟩
    have KX3 := Lib.hid (KX2.out.low hb O0.out.1)
    have KR3 := Lib.hid (KR2.out.low hb O1.out.1)
    have OR3 := Lib.hid (OR2.out.low hb O1.out.1)
    have HL3 := Lib.hid hL
    have B3 := Lib.hid (B2.out.trans (hb.mono B0.out.size))
    clear c0 c1 c2 c3 c4 c5 c6 c7 r0 r1 r2 r3 r4 r5 r6 r7 g0 g1 g2 g3 g4 g5 g6 g7 hb hL CL
    have c0 := KX3.out 0 _ rfl
    have c1 := KX3.out 1 _ rfl
    have c2 := KX3.out 2 _ rfl
    have c3 := KX3.out 3 _ rfl
    have c4 := KX3.out 4 _ rfl
    have c5 := KX3.out 5 _ rfl
    have c6 := KX3.out 6 _ rfl
    have c7 := KX3.out 7 _ rfl
    have r0 := KR3.out 0 _ rfl
    have r1 := KR3.out 1 _ rfl
    have r2 := KR3.out 2 _ rfl
    have r3 := KR3.out 3 _ rfl
    have r4 := KR3.out 4 _ rfl
    have r5 := KR3.out 5 _ rfl
    have r6 := KR3.out 6 _ rfl
    have r7 := KR3.out 7 _ rfl
    have g0 := OR3.out.2 0
    have g1 := OR3.out.2 1
    have g2 := OR3.out.2 2
    have g3 := OR3.out.2 3
    have g4 := OR3.out.2 4
    have g5 := OR3.out.2 5
    have g6 := OR3.out.2 6
    have g7 := OR3.out.2 7
    go_wp2_with fail
    change bodyPost _ _ _ Exit.ret _ (setN w3 br 0 [.int .i64 ep, .slice u0 k0 f0, .int .i64 p0, .int .i64 p1, .int .i64 p2, .slice u1 k1 f1, .slice u2 k2 f2, .slice u3 k3 f3])
    have HB : BoxAt br [.int .i64 ep, .slice u0 k0 f0, .int .i64 p0, .int .i64 p1, .int .i64 p2, .slice u1 k1 f1, .slice u2 k2 f2, .slice u3 k3 f3] (setN w3 br 0 [.int .i64 ep, .slice u0 k0 f0, .int .i64 p0, .int .i64 p1, .int .i64 p2, .slice u1 k1 f1, .slice u2 k2 f2, .slice u3 k3 f3]) := setN_box [.int .i64 ep, .slice u0 k0 f0, .int .i64 p0, .int .i64 p1, .int .i64 p2, .slice u1 k1 f1, .slice u2 k2 f2, .slice u3 k3 f3] 0 _ w3 KR3.out (by simp)
    have HLf := (HL3.out.same (setN_same (P := fun q => y0.heap.size ≤ q) (b := br) (fun h => Nat.lt_irrefl _ (Nat.lt_of_lt_of_le O1.out.1 h)) [.int .i64 ep, .slice u0 k0 f0, .int .i64 p0, .int .i64 p1, .int .i64 p2, .slice u1 k1 f1, .slice u2 k2 f2, .slice u3 k3 f3] 0 w3 (SameOn.refl _ _))).wide (P' := fun q => w.heap.size ≤ q) (fun q _ h => Nat.le_trans B0.out.size h)
    have Bf := setN_below RR.out.2.1 [.int .i64 ep, .slice u0 k0 f0, .int .i64 p0, .int .i64 p1, .int .i64 p2, .slice u1 k1 f1, .slice u2 k2 f2, .slice u3 k3 f3] 0 w3 B3.out
    exact bodyPost_ret (v := .tuple #[.agg #[.int .i64 ep, .slice u0 k0 f0, .int .i64 p0, .int .i64 p1, .int .i64 p2, .slice u1 k1 f1, .slice u2 k2 f2, .slice u3 k3 f3], .bool true]) (by simp [results, Try.results23, go_sem, HB 0 _ rfl, HB 1 _ rfl, HB 2 _ rfl, HB 3 _ rfl, HB 4 _ rfl, HB 5 _ rfl, HB 6 _ rfl, HB 7 _ rfl]) rfl ⟨_, _, _, _, by rw [show ∀ a b c d, mkv (closeM m j) a b c d = mkv m a b c d from fun _ _ _ _ => rfl, MQ.out], HLf, Bf⟩
  | false =>
    obtain rfl : mr = m := by rw [MR.out]; simp
    go_wp2_with fail
    refine (ASK.out _ B2.out).mono ?_
    rintro e w9 ⟨rfl, rfl⟩
    go_wp2_with fail
    change bodyPost _ _ _ Exit.ret _ (setN w2 br 0 [.int .i64 ep, .slice u0 k0 f0, .int .i64 p0, .int .i64 p1, .int .i64 p2, .slice u1 k1 f1, .slice u2 k2 f2, .slice u3 k3 f3])
    have HB : BoxAt br [.int .i64 ep, .slice u0 k0 f0, .int .i64 p0, .int .i64 p1, .int .i64 p2, .slice u1 k1 f1, .slice u2 k2 f2, .slice u3 k3 f3] (setN w2 br 0 [.int .i64 ep, .slice u0 k0 f0, .int .i64 p0, .int .i64 p1, .int .i64 p2, .slice u1 k1 f1, .slice u2 k2 f2, .slice u3 k3 f3]) := setN_box [.int .i64 ep, .slice u0 k0 f0, .int .i64 p0, .int .i64 p1, .int .i64 p2, .slice u1 k1 f1, .slice u2 k2 f2, .slice u3 k3 f3] 0 _ w2 KR2.out (by simp)
    have HLf := (HL2.out.same (setN_same (P := fun q => y0.heap.size ≤ q) (b := br) (fun h => Nat.lt_irrefl _ (Nat.lt_of_lt_of_le O1.out.1 h)) [.int .i64 ep, .slice u0 k0 f0, .int .i64 p0, .int .i64 p1, .int .i64 p2, .slice u1 k1 f1, .slice u2 k2 f2, .slice u3 k3 f3] 0 w2 (SameOn.refl _ _))).wide (P' := fun q => w.heap.size ≤ q) (fun q _ h => Nat.le_trans B0.out.size h)
    have Bf := setN_below RR.out.2.1 [.int .i64 ep, .slice u0 k0 f0, .int .i64 p0, .int .i64 p1, .int .i64 p2, .slice u1 k1 f1, .slice u2 k2 f2, .slice u3 k3 f3] 0 w2 B2.out
    exact bodyPost_ret (v := .tuple #[.agg #[.int .i64 ep, .slice u0 k0 f0, .int .i64 p0, .int .i64 p1, .int .i64 p2, .slice u1 k1 f1, .slice u2 k2 f2, .slice u3 k3 f3], .bool false]) (by simp [results, Try.results23, go_sem, HB 0 _ rfl, HB 1 _ rfl, HB 2 _ rfl, HB 3 _ rfl, HB 4 _ rfl, HB 5 _ rfl, HB 6 _ rfl, HB 7 _ rfl]) rfl ⟨_, _, _, _, by rw [MQ.out], HLf, Bf⟩
set_option maxHeartbeats 8000000 in
theorem chA_at (m : Mk) (v0 v1 v2 v3 : Value) (at' : Int) (ba bx : Nat) (x : Int × Int) (bs : List Bool) (ua : Option Addr) (un uc : Nat) (w : World) (h : HasL w [v0, v1, v2, v3] m.d) (hs : SmallMk m) (hu : Has w (.slice ua un uc) (dBools bs)) (ha : w.cell? ⟨ba, 0, none⟩ = some (.int .i64 at')) (hx0 : w.cell? ⟨bx, 0, none⟩ = some (.int .i64 x.1)) (hx1 : w.cell? ⟨bx, 1, none⟩ = some (.int .i64 x.2)) (hi : openB bs at' = true → at'.toNat < m.p.inn.length) :
    Calls Try.prog 23 #[mkv m v0 v1 v2 v3, .int .i64 at', .func (.func 28) #[.slice ua un uc] #[], .func (.func 29) #[] #[.pointer (some ⟨ba, 0, none⟩), .pointer (some ⟨bx, 0, none⟩)]] w (MkTold2 (if openB bs at' then getM m at' x else m) (openB bs at') w) := by
  have OW := Lib.hid (fun (w' : World) (hb : Below w.heap.size w w') => mown_at m v0 v1 v2 v3 w' (h.later hb) hs)
  obtain ⟨a0, a1, a2, a3, n0, n1, n2, n3, e0, e1, e2, e3, ee0, ee1, ee2, ee3⟩ := mk_slices h
  subst ee0
  subst ee1
  subst ee2
  subst ee3
  obtain ⟨ep, hep⟩ : ∃ e, e = m.ep := ⟨_, rfl⟩
  obtain ⟨p0, hp0⟩ : ∃ e, e = m.p.node := ⟨_, rfl⟩
  obtain ⟨p1, hp1⟩ : ∃ e, e = m.p.state := ⟨_, rfl⟩
  obtain ⟨p2, hp2⟩ : ∃ e, e = m.p.steps := ⟨_, rfl⟩
  have MQ : Hid (∀ v x y z, mkv m v x y z = .agg #[.int .i64 ep, v, .int .i64 p0, .int .i64 p1, .int .i64 p2, x, y, z]) := Lib.hid (fun v x y z => by rw [hep, hp0, hp1, hp2])
  rw [MQ.out] at OW ⊢
  obtain ⟨cb, hcb⟩ : ∃ c, c = openB bs at' := ⟨_, rfl⟩
  have ASK := Lib.hid (fun (w' : World) (hb : Below w.heap.size w w') => open_at bs (.slice ua un uc) at' w' (hu.later hb))
  rw [← hcb] at ASK ⊢
  obtain ⟨mr, hmr⟩ : ∃ r, r = if cb = true then getM m at' x else m := ⟨_, rfl⟩
  rw [← hmr]
  have MR := Lib.hid hmr
  have CB := Lib.hid hcb
  have HS := Lib.hid hs
  clear hu
  have HA := Lib.hid ha
  have HI := Lib.hid hi
  have HX := Lib.hid (And.intro hx0 hx1)
  clear h hs hep hp0 hp1 hp2 hcb ha hi hmr hx0 hx1
  go_enter Try.func23, Try.ntmps23
  go_upto_region 1 with fail
  obtain ⟨bc, hbc⟩ : ∃ b, b = w.heap.size := ⟨_, rfl⟩
  obtain ⟨br, hbr⟩ : ∃ b, b = w.heap.size + 1 := ⟨_, rfl⟩
  obtain ⟨y, hy⟩ : ∃ y, y = w.alloc (.cells #[.int .i64 ep, .slice a0 n0 e0, .int .i64 p0, .int .i64 p1, .int .i64 p2, .slice a1 n1 e1, .slice a2 n2 e2, .slice a3 n3 e3] 33) := ⟨_, rfl⟩
  obtain ⟨y0, hy0⟩ : ∃ z, z = y.alloc (.cells #[.int .i64 0, .slice none 0 0, .int .i64 0, .int .i64 0, .int .i64 0, .slice none 0 0, .slice none 0 0, .slice none 0 0] 33) := ⟨_, rfl⟩
  have hbw : Below w.heap.size w y := by rw [hy]; exact below_new _ _
  have hby : Below y.heap.size y y0 := by rw [hy0]; exact below_new _ _
  have hys : y.heap.size = br := by rw [hy, size_new, hbr]
  have K0 : Hid (BoxAt bc [.int .i64 ep, .slice a0 n0 e0, .int .i64 p0, .int .i64 p1, .int .i64 p2, .slice a1 n1 e1, .slice a2 n2 e2, .slice a3 n3 e3] y0) := Lib.hid (by rw [hbc]; exact BoxAt.below (by rw [hy]; exact boxAt_new w [.int .i64 ep, .slice a0 n0 e0, .int .i64 p0, .int .i64 p1, .int .i64 p2, .slice a1 n1 e1, .slice a2 n2 e2, .slice a3 n3 e3] _) hby)
  have K1 : Hid (BoxAt br [.int .i64 0, .slice none 0 0, .int .i64 0, .int .i64 0, .int .i64 0, .slice none 0 0, .slice none 0 0, .slice none 0 0] y0) := Lib.hid (by rw [← hys, hy0]; exact boxAt_new y [.int .i64 0, .slice none 0 0, .int .i64 0, .int .i64 0, .int .i64 0, .slice none 0 0, .slice none 0 0, .slice none 0 0] _)
  have O0 : Hid (Open8 bc y0) := Lib.hid (by rw [hbc]; exact Open8.below (by rw [hy]; exact Open8.new _ _ _) hby)
  have O1 : Hid (Open8 br y0) := Lib.hid (by rw [← hys, hy0]; exact Open8.new _ _ _)
  have B0 := Lib.hid (below_step' hbw hby)
  have RR : Hid (w.heap.size ≤ bc ∧ w.heap.size ≤ br ∧ bc ≠ br) := Lib.hid (by omega)
  rw [← hy, ← hy0, ← hbr, ← hbc]
  clear hy hy0 hbw hby hys hbc hbr
  have c0 := K0.out 0 _ rfl
  have c1 := K0.out 1 _ rfl
  have c2 := K0.out 2 _ rfl
  have c3 := K0.out 3 _ rfl
  have c4 := K0.out 4 _ rfl
  have c5 := K0.out 5 _ rfl
  have c6 := K0.out 6 _ rfl
  have c7 := K0.out 7 _ rfl
  go_wp2_with fail
  refine (OW.out _ B0.out).mono ?_
  rintro e w1 ⟨v0, v1, v2, v3, rfl, hU, hb⟩
  obtain ⟨u0, u1, u2, u3, k0, k1, k2, k3, f0, f1, f2, f3, ff0, ff1, ff2, ff3⟩ := mk_slices hU.weak
  subst ff0
  subst ff1
  subst ff2
  subst ff3
  rw [MQ.out]
  have HU := Lib.hid hU
  have B1 := Lib.hid hb
  clear hU hb c0 c1 c2 c3 c4 c5 c6 c7 OW
  have KX := Lib.hid (K0.out.below B1.out)
  have OX := Lib.hid (O0.out.below B1.out)
  have KR := Lib.hid (K1.out.below B1.out)
  have OR := Lib.hid (O1.out.below B1.out)
  have c0 := KX.out 0 _ rfl
  have c1 := KX.out 1 _ rfl
  have c2 := KX.out 2 _ rfl
  have c3 := KX.out 3 _ rfl
  have c4 := KX.out 4 _ rfl
  have c5 := KX.out 5 _ rfl
  have c6 := KX.out 6 _ rfl
  have c7 := KX.out 7 _ rfl
  have g0 := OX.out.2 0
  have g1 := OX.out.2 1
  have g2 := OX.out.2 2
  have g3 := OX.out.2 3
  have g4 := OX.out.2 4
  have g5 := OX.out.2 5
  have g6 := OX.out.2 6
  have g7 := OX.out.2 7
  go_upto_region 2 with fail
  change Code.wp _ _ _ _ (setN w1 bc 0 [.int .i64 ep, .slice u0 k0 f0, .int .i64 p0, .int .i64 p1, .int .i64 p2, .slice u1 k1 f1, .slice u2 k2 f2, .slice u3 k3 f3])
  have KX2 : Hid (BoxAt bc [.int .i64 ep, .slice u0 k0 f0, .int .i64 p0, .int .i64 p1, .int .i64 p2, .slice u1 k1 f1, .slice u2 k2 f2, .slice u3 k3 f3] (setN w1 bc 0 [.int .i64 ep, .slice u0 k0 f0, .int .i64 p0, .int .i64 p1, .int .i64 p2, .slice u1 k1 f1, .slice u2 k2 f2, .slice u3 k3 f3])) := Lib.hid (setN_box [.int .i64 ep, .slice u0 k0 f0, .int .i64 p0, .int .i64 p1, .int .i64 p2, .slice u1 k1 f1, .slice u2 k2 f2, .slice u3 k3 f3] 0 _ w1 KX.out (by simp))
  have KR2 : Hid (BoxAt br [.int .i64 0, .slice none 0 0, .int .i64 0, .int .i64 0, .int .i64 0, .slice none 0 0, .slice none 0 0, .slice none 0 0] (setN w1 bc 0 [.int .i64 ep, .slice u0 k0 f0, .int .i64 p0, .int .i64 p1, .int .i64 p2, .slice u1 k1 f1, .slice u2 k2 f2, .slice u3 k3 f3])) := Lib.hid (setN_far (Ne.symm RR.out.2.2) KR.out)
  have OR2 : Hid (Open8 br (setN w1 bc 0 [.int .i64 ep, .slice u0 k0 f0, .int .i64 p0, .int .i64 p1, .int .i64 p2, .slice u1 k1 f1, .slice u2 k2 f2, .slice u3 k3 f3])) := Lib.hid OR.out.set
  have HL2 := Lib.hid (HU.out.same (setN_same (P := fun q => y0.heap.size ≤ q) (b := bc) (fun h => Nat.lt_irrefl _ (Nat.lt_of_lt_of_le O0.out.1 h)) [.int .i64 ep, .slice u0 k0 f0, .int .i64 p0, .int .i64 p1, .int .i64 p2, .slice u1 k1 f1, .slice u2 k2 f2, .slice u3 k3 f3] 0 w1 (SameOn.refl _ _)))
  have B2 := Lib.hid (setN_below RR.out.1 [.int .i64 ep, .slice u0 k0 f0, .int .i64 p0, .int .i64 p1, .int .i64 p2, .slice u1 k1 f1, .slice u2 k2 f2, .slice u3 k3 f3] 0 w1 (below_step' B0.out B1.out))
  have Z2 : Hid (y0.heap.size ≤ (setN w1 bc 0 [.int .i64 ep, .slice u0 k0 f0, .int .i64 p0, .int .i64 p1, .int .i64 p2, .slice u1 k1 f1, .slice u2 k2 f2, .slice u3 k3 f3]).heap.size) := Lib.hid (by rw [setN_size]; exact B1.out.size)
  obtain ⟨w2, hw2⟩ : ∃ x, x = setN w1 bc 0 [.int .i64 ep, .slice u0 k0 f0, .int .i64 p0, .int .i64 p1, .int .i64 p2, .slice u1 k1 f1, .slice u2 k2 f2, .slice u3 k3 f3] := ⟨_, rfl⟩
  rw [← hw2] at KX2 KR2 OR2 HL2 B2 Z2 ⊢
  clear hw2 c0 c1 c2 c3 c4 c5 c6 c7 g0 g1 g2 g3 g4 g5 g6 g7 KX OX KR OR HU
  have c0 := KX2.out 0 _ rfl
  have c1 := KX2.out 1 _ rfl
  have c2 := KX2.out 2 _ rfl
  have c3 := KX2.out 3 _ rfl
  have c4 := KX2.out 4 _ rfl
  have c5 := KX2.out 5 _ rfl
  have c6 := KX2.out 6 _ rfl
  have c7 := KX2.out 7 _ rfl
  have r0 := KR2.out 0 _ rfl
  have r1 := KR2.out 1 _ rfl
  have r2 := KR2.out 2 _ rfl
  have r3 := KR2.out 3 _ rfl
  have r4 := KR2.out 4 _ rfl
  have r5 := KR2.out 5 _ rfl
  have r6 := KR2.out 6 _ rfl
  have r7 := KR2.out 7 _ rfl
  have g0 := OR2.out.2 0
  have g1 := OR2.out.2 1
  have g2 := OR2.out.2 2
  have g3 := OR2.out.2 3
  have g4 := OR2.out.2 4
  have g5 := OR2.out.2 5
  have g6 := OR2.out.2 6
  have g7 := OR2.out.2 7
  cases cb with
  | true =>
    obtain rfl : mr = getM m at' x := by rw [MR.out]; simp
    have hi := HI.out CB.out.symm
    have hat : 0 ≤ at' := by have h := CB.out.symm; simp [openB, inB] at h; exact h.1.1
    obtain ⟨j, rfl⟩ : ∃ j : Nat, at' = j := ⟨at'.toNat, by omega⟩
    have hi2 : j < m.p.inn.length := by simpa using hi
    have CL := Lib.hid (getM_at m j ba bx y0.heap.size x _ _ _ _ w2 HL2.out HS.out hi2 Z2.out ((B2.out.cell (World.block_lt_of_cell? w _ HA.out)).trans HA.out) ((B2.out.cell (World.block_lt_of_cell? w _ HX.out.1)).trans HX.out.1) ((B2.out.cell (World.block_lt_of_cell? w _ HX.out.2)).trans HX.out.2) (Nat.lt_of_lt_of_le (World.block_lt_of_cell? w _ HA.out) B0.out.size) (Nat.lt_of_lt_of_le (World.block_lt_of_cell? w _ HX.out.1) B0.out.size))
    rw [MQ.out] at CL
    clear hi hat hi2
    go_wp2_with fail
    refine (ASK.out _ B2.out).mono ?_
    rintro e w9 ⟨rfl, rfl⟩
    go_wp2_with fail
    refine CL.out.mono ?_
    rintro e w3 ⟨rfl, hL, hb⟩
    have KX3 := Lib.hid (KX2.out.low hb O0.out.1)
    have KR3 := Lib.hid (KR2.out.low hb O1.out.1)
    have OR3 := Lib.hid (OR2.out.low hb O1.out.1)
    have HL3 := Lib.hid hL
    have B3 := Lib.hid (B2.out.trans (hb.mono B0.out.size))
    clear c0 c1 c2 c3 c4 c5 c6 c7 r0 r1 r2 r3 r4 r5 r6 r7 g0 g1 g2 g3 g4 g5 g6 g7 hb hL CL
    have c0 := KX3.out 0 _ rfl
    have c1 := KX3.out 1 _ rfl
    have c2 := KX3.out 2 _ rfl
    have c3 := KX3.out 3 _ rfl
    have c4 := KX3.out 4 _ rfl
    have c5 := KX3.out 5 _ rfl
    have c6 := KX3.out 6 _ rfl
    have c7 := KX3.out 7 _ rfl
    have r0 := KR3.out 0 _ rfl
    have r1 := KR3.out 1 _ rfl
    have r2 := KR3.out 2 _ rfl
    have r3 := KR3.out 3 _ rfl
    have r4 := KR3.out 4 _ rfl
    have r5 := KR3.out 5 _ rfl
    have r6 := KR3.out 6 _ rfl
    have r7 := KR3.out 7 _ rfl
    have g0 := OR3.out.2 0
    have g1 := OR3.out.2 1
    have g2 := OR3.out.2 2
    have g3 := OR3.out.2 3
    have g4 := OR3.out.2 4
    have g5 := OR3.out.2 5
    have g6 := OR3.out.2 6
    have g7 := OR3.out.2 7
    go_wp2_with fail
    change bodyPost _ _ _ Exit.ret _ (setN w3 br 0 [.int .i64 ep, .slice u0 k0 f0, .int .i64 p0, .int .i64 p1, .int .i64 p2, .slice u1 k1 f1, .slice u2 k2 f2, .slice u3 k3 f3])
    have HB : BoxAt br [.int .i64 ep, .slice u0 k0 f0, .int .i64 p0, .int .i64 p1, .int .i64 p2, .slice u1 k1 f1, .slice u2 k2 f2, .slice u3 k3 f3] (setN w3 br 0 [.int .i64 ep, .slice u0 k0 f0, .int .i64 p0, .int .i64 p1, .int .i64 p2, .slice u1 k1 f1, .slice u2 k2 f2, .slice u3 k3 f3]) := setN_box [.int .i64 ep, .slice u0 k0 f0, .int .i64 p0, .int .i64 p1, .int .i64 p2, .slice u1 k1 f1, .slice u2 k2 f2, .slice u3 k3 f3] 0 _ w3 KR3.out (by simp)
    have HLf := (HL3.out.same (setN_same (P := fun q => y0.heap.size ≤ q) (b := br) (fun h => Nat.lt_irrefl _ (Nat.lt_of_lt_of_le O1.out.1 h)) [.int .i64 ep, .slice u0 k0 f0, .int .i64 p0, .int .i64 p1, .int .i64 p2, .slice u1 k1 f1, .slice u2 k2 f2, .slice u3 k3 f3] 0 w3 (SameOn.refl _ _))).wide (P' := fun q => w.heap.size ≤ q) (fun q _ h => Nat.le_trans B0.out.size h)
    have Bf := setN_below RR.out.2.1 [.int .i64 ep, .slice u0 k0 f0, .int .i64 p0, .int .i64 p1, .int .i64 p2, .slice u1 k1 f1, .slice u2 k2 f2, .slice u3 k3 f3] 0 w3 B3.out
    exact bodyPost_ret (v := .tuple #[.agg #[.int .i64 ep, .slice u0 k0 f0, .int .i64 p0, .int .i64 p1, .int .i64 p2, .slice u1 k1 f1, .slice u2 k2 f2, .slice u3 k3 f3], .bool true]) (by simp [results, Try.results23, go_sem, HB 0 _ rfl, HB 1 _ rfl, HB 2 _ rfl, HB 3 _ rfl, HB 4 _ rfl, HB 5 _ rfl, HB 6 _ rfl, HB 7 _ rfl]) rfl ⟨_, _, _, _, by rw [show ∀ a b c d, mkv (getM m j x) a b c d = mkv m a b c d from fun _ _ _ _ => rfl, MQ.out], HLf, Bf⟩
  | false =>
    obtain rfl : mr = m := by rw [MR.out]; simp
    go_wp2_with fail
    refine (ASK.out _ B2.out).mono ?_
    rintro e w9 ⟨rfl, rfl⟩
    go_wp2_with fail
    change bodyPost _ _ _ Exit.ret _ (setN w2 br 0 [.int .i64 ep, .slice u0 k0 f0, .int .i64 p0, .int .i64 p1, .int .i64 p2, .slice u1 k1 f1, .slice u2 k2 f2, .slice u3 k3 f3])
    have HB : BoxAt br [.int .i64 ep, .slice u0 k0 f0, .int .i64 p0, .int .i64 p1, .int .i64 p2, .slice u1 k1 f1, .slice u2 k2 f2, .slice u3 k3 f3] (setN w2 br 0 [.int .i64 ep, .slice u0 k0 f0, .int .i64 p0, .int .i64 p1, .int .i64 p2, .slice u1 k1 f1, .slice u2 k2 f2, .slice u3 k3 f3]) := setN_box [.int .i64 ep, .slice u0 k0 f0, .int .i64 p0, .int .i64 p1, .int .i64 p2, .slice u1 k1 f1, .slice u2 k2 f2, .slice u3 k3 f3] 0 _ w2 KR2.out (by simp)
    have HLf := (HL2.out.same (setN_same (P := fun q => y0.heap.size ≤ q) (b := br) (fun h => Nat.lt_irrefl _ (Nat.lt_of_lt_of_le O1.out.1 h)) [.int .i64 ep, .slice u0 k0 f0, .int .i64 p0, .int .i64 p1, .int .i64 p2, .slice u1 k1 f1, .slice u2 k2 f2, .slice u3 k3 f3] 0 w2 (SameOn.refl _ _))).wide (P' := fun q => w.heap.size ≤ q) (fun q _ h => Nat.le_trans B0.out.size h)
    have Bf := setN_below RR.out.2.1 [.int .i64 ep, .slice u0 k0 f0, .int .i64 p0, .int .i64 p1, .int .i64 p2, .slice u1 k1 f1, .slice u2 k2 f2, .slice u3 k3 f3] 0 w2 B2.out
    exact bodyPost_ret (v := .tuple #[.agg #[.int .i64 ep, .slice u0 k0 f0, .int .i64 p0, .int .i64 p1, .int .i64 p2, .slice u1 k1 f1, .slice u2 k2 f2, .slice u3 k3 f3], .bool false]) (by simp [results, Try.results23, go_sem, HB 0 _ rfl, HB 1 _ rfl, HB 2 _ rfl, HB 3 _ rfl, HB 4 _ rfl, HB 5 _ rfl, HB 6 _ rfl, HB 7 _ rfl]) rfl ⟨_, _, _, _, by rw [MQ.out], HLf, Bf⟩
end Go.Proofs.Ytlhclnhdcenkhaa
