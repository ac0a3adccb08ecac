/- The walk of the law Ways. -/
import Derived.Test.YtndpgmndbdchaaaZ
namespace Go.Proofs.Ytndpgmndbdchaaa
open Go.RowKit Go.PlainAid

set_option maxHeartbeats 1000000 in
set_option maxRecDepth 100000 in
theorem walkGraphWays (N0 : Int) (u0 : Value) (L0 : Lks) (p0 p1 p2 : Int) (w : World) (wL0 : LinksAt w u0 L0) (wW0 : ∀ p ∈ L0, wfp p) (_w1 : (Lit.int .i64 p0).wf = true) (_w2 : (Lit.int .i64 p1).wf = true) (_w3 : (Lit.int .i64 p2).wf = true) :
    Calls Try.prog 7 #[.agg #[.int .i64 N0, u0], .agg #[.int .i64 p0, .int .i64 p1, .int .i64 p2]] w fun e w' => e = .returned (.bool true) ∧ Below w.heap.size w w' := by
  obtain ⟨a, cap, hv⟩ := wL0.at
  subst hv
  have HL0 := Lib.hid wL0
  have HM := Lib.hid (linksAt_cut wL0)
  have hW := wf_take wW0
  have hMl := take_le L0
  obtain ⟨M, hMe⟩ : ∃ M, M = L0.take 40 := ⟨_, rfl⟩
  have HMe := Lib.hid hMe
  rw [← hMe] at HM hW hMl
  have HW := Lib.hid hW
  have hn6 : M.length ≤ 1000000 := by omega
  obtain ⟨r, hr⟩ := bool_of (RightG N0 M)
  have HR := Lib.hid hr
  clear wL0 wW0 hW hMe hr
  go_enter Try.func7, Try.ntmps7
  try simp only [List.append_eq, List.cons_append, List.nil_append]
  go_wp2_with fail
  refine (cut_at a cap L0 N0 _ ((HL0.out.below (below_alloc _ _)).below (below_alloc _ _))).mono ?_
  rintro e x1 ⟨rfl, hb⟩
  rw [← HMe.out]
  simp only [gv]
  obtain ⟨hbox, x2, hx2, hK⟩ := law_box3 hb HM.out
  have q0 := hbox.1
  have q1 := hbox.2.1
  have q2 := hbox.2.2.1
  have q3 := hbox.2.2.2
  have T := Lib.hid hK
  have z0 := hK.b0
  have z1 := hK.b1
  clear hb hbox hK
  go_wp2_with fail
  rw [← hx2]
  clear hx2 q0 q1 q2 q3
  refine (ref_slice _ _ _ _ _).mono ?_
  rintro e x3 ⟨rfl, hb⟩
  have T := Lib.hid (T.out.below hb)
  clear hb z0 z1
  go_wp2_with fail
  refine (rright_at N0 _ M r _ T.out.l HR.out).mono ?_
  rintro e x4 ⟨rfl, hb⟩
  have T := Lib.hid (T.out.below hb)
  have z0 := T.out.b0
  have z1 := T.out.b1
  clear hb
  by_cases hG : RightG N0 M
  · have hrt : r = true := HR.out.2 hG
    subst hrt
    obtain ⟨N, rfl⟩ : ∃ N : Nat, N0 = (N : Int) := ⟨N0.toNat, by have := hG.1; omega⟩
    have hN1 : 1 ≤ N := by have := hG.1; omega
    have hN6 : N ≤ 6 := by have := hG.2.1; omega
    have hNi : ¬ (N : Int) = 0 := by omega
    obtain ⟨i0, a0, m0, t0, l0⟩ := node_of p0 N hN1
    obtain ⟨i1, a1, m1, t1, l1⟩ := node_of p1 N hN1
    obtain ⟨i2, a2, m2, t2, l2⟩ := node_of p2 N hN1
    obtain ⟨D, hD⟩ := isDist_ex N a0 M
    obtain ⟨E, hE⟩ := isDist_ex N a1 M
    have htri := dist_tri hG l0 l1 l2 hD hE
    have hn1 := dist_nn hG l0 l1 hD
    have hn2 := dist_nn hG l0 l2 hD
    have hn3 := dist_nn hG l1 l2 hE
    have hone := dist_one hG l0 l1 hD
    obtain ⟨dc, hdc⟩ : ∃ dc, dc = D.getD a2 (-1) := ⟨_, rfl⟩
    obtain ⟨db, hdb⟩ : ∃ db, db = D.getD a1 (-1) := ⟨_, rfl⟩
    obtain ⟨ec, hec⟩ : ∃ ec, ec = E.getD a2 (-1) := ⟨_, rfl⟩
    obtain ⟨q, hq⟩ : ∃ q, findL M ((a0 : Int), (a1 : Int)) = q := ⟨_, rfl⟩
    rw [← hdc, ← hdb, ← hec] at htri
    rw [← hdb] at hn1 hone
    rw [← hdc] at hn2
    rw [← hec] at hn3
    have hqi : 0 ≤ q ↔ ((a0 : Int), (a1 : Int)) ∈ M := by
      have := findL_neg (L := M) (p := ((a0 : Int), (a1 : Int)))
      rw [hq] at this
      constructor
      · intro h; exact Classical.byContradiction fun hn => by have := this.2 hn; omega
      · intro h; rcases Int.lt_or_le q 0 with g | g
        · exact absurd h (this.1 g)
        · exact g
    obtain ⟨β, hβ⟩ := bool_of (((a0 : Int), (a1 : Int)) ∈ M)
    have b1 : (db == 1) = β := by rw [Bool.eq_iff_iff, beq_iff_eq, hone, hβ]
    have b2 : decide (0 ≤ q) = β := by rw [Bool.eq_iff_iff, decide_eq_true_iff, hqi, hβ]
    have hle : decide (dc ≤ db + ec) = true := decide_eq_true htri
    have hwr : IntKind.i64.wrap (db + ec) = db + ec := IntWalk.i64_in _ (by omega)
    have HQ := Lib.hid hq
    have HDx := Lib.hid hD
    have HD0 := Lib.hid hD
    have HEx := Lib.hid hE
    have HDC := Lib.hid hdc
    have HDB := Lib.hid hdb
    have HEC := Lib.hid hec
    have hr0 := hG.2.2.2.1.in
    have v0 := T.out.n0
    have v1 := T.out.n1
    have v2 := T.out.n2
    have l0' : (a0 : Int) < N := by omega
    have l1' : (a1 : Int) < N := by omega
    have l2' : (a2 : Int) < N := by omega
    clear hone hqi hβ hq hD hE hdc hdb hec hn1 hn2 hn3 htri hG
    go_wp2_with fail
    go_quiet (fail)
    have T := Lib.hid (T.out.toKAt.below (below_drewN (Below.refl _ x4) nq))
    have z0 := T.out.b0
    have z1 := T.out.b1
    go_wp2_with fail
    obtain ⟨x5, hx5⟩ : ∃ x5, x5 = x4.drewN nq := ⟨_, rfl⟩
    rw [← hx5] at T z0 z1 ⊢
    clear hx5 v0 v1 v2
    have T := Lib.hid (T.out.below (below_drewN (Below.refl _ x5) 1))
    go_region_held3 (fun w' => w'.cell? ⟨w.heap.size, 0, none⟩ = some (.int .i64 (N : Int)) ∧ w'.cell? ⟨w.heap.size, 1, none⟩ = some (.slice a M.length cap)) (exact ⟨T.out.b0, T.out.b1⟩)
      (first
        | (go_at_call 27; refine (distN_at N a0 _ M D _ T.out.l hr0 hN1 hN6 l0 hn6 HDx.out).mono ?_; rintro e y1 ⟨g1, o1, c1, rfl, hI, hb⟩; have T := Lib.hid (T.out.below hb); have I1 := Lib.hid hI; have HDx := Lib.hid trivial; clear hb hI)
        | (go_at_call 27; refine (distN_at N a1 _ M E _ T.out.l hr0 hN1 hN6 l1 hn6 HEx.out).mono ?_; rintro e y2 ⟨g2, o2, c2, rfl, hI, hb⟩; have T := Lib.hid (T.out.below hb); have I1 := Lib.hid (I1.out.below hb); have I2 := Lib.hid hI; clear hb hI))
    obtain ⟨x6, hx6⟩ : ∃ x6, x6 = y2 := ⟨_, rfl⟩
    rw [← hx6] at T I1 I2 ⊢
    clear hx6
    have z0 := T.out.b0
    have z1 := T.out.b1
    have C1 : x6.cell? ⟨g1, o1 + a2, none⟩ = some (.int .i64 dc) := by rw [HDC.out]; exact I1.out.cell HD0.out.1 l2
    go_wp2_with fail
    have T := Lib.hid (T.out.below (below_drewN (Below.refl _ x6) 1))
    have I1 := Lib.hid (I1.out.below (below_drewN (Below.refl _ x6) 1))
    have I2 := Lib.hid (I2.out.below (below_drewN (Below.refl _ x6) 1))
    clear C1
    go_region_held3 (fun w' => w'.cell? ⟨w.heap.size, 0, none⟩ = some (.int .i64 (N : Int)) ∧ w'.cell? ⟨w.heap.size, 1, none⟩ = some (.slice a M.length cap) ∧ w'.cell? ⟨g1, o1 + a2, none⟩ = some (.int .i64 dc) ∧ w'.cell? ⟨g1, o1 + a1, none⟩ = some (.int .i64 db) ∧ w'.cell? ⟨g2, o2 + a2, none⟩ = some (.int .i64 ec)) (exact ⟨T.out.b0, T.out.b1, (I1.out.cell HD0.out.1 l2).trans (by rw [← HDC.out]), (I1.out.cell HD0.out.1 l1).trans (by rw [← HDB.out]), (I2.out.cell HEx.out.1 l2).trans (by rw [← HEC.out])⟩)
      (first
        | (go_at_call 23; refine (find_at N a0 a1 q _ M _ T.out.l hn6 HQ.out).mono ?_; rintro e y3 ⟨rfl, hb⟩; have T := Lib.hid (T.out.below hb); have I1 := Lib.hid (I1.out.below hb); have I2 := Lib.hid (I2.out.below hb); clear hb)
        | (go_at_call 17; refine (fixed_any _).mono ?_; rintro e y4 ⟨rfl, hb⟩; have T := Lib.hid (T.out.below hb); have I1 := Lib.hid (I1.out.below hb); have I2 := Lib.hid (I2.out.below hb); clear hb))
    go_wp2_with fail
    go_ret
    exact ⟨rfl, T.out.bel⟩
  · have hrf : r = false := by
      cases r with
      | false => rfl
      | true => exact absurd (HR.out.1 rfl) hG
    subst hrf
    clear hG
    go_wp2_with fail
    refine (right_at N0 _ M false _ T.out.l HW.out HR.out).mono ?_
    rintro e x5 ⟨rfl, hb⟩
    have T := Lib.hid (T.out.below hb)
    clear hb z0 z1
    go_wp2_with fail
    refine (fixed_any _).mono ?_
    rintro e x6 ⟨rfl, hb⟩
    have T := Lib.hid (T.out.below hb)
    clear hb
    go_wp2_with fail
    go_ret
    exact ⟨rfl, T.out.bel⟩
end Go.Proofs.Ytndpgmndbdchaaa
