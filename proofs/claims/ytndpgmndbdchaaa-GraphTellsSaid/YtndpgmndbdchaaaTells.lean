/- The walk of the law Tells. -/
import Derived.Test.YtndpgmndbdchaaaY
namespace Go.Proofs.Ytndpgmndbdchaaa
open Go.RowKit Go.PlainAid

set_option maxHeartbeats 8000000 in
set_option maxRecDepth 100000 in
theorem walkGraphTells (N0 : Int) (u0 : Value) (L0 : Lks) (n m : Int) (w : World) (wL0 : LinksAt w u0 L0) (wW0 : ∀ p ∈ L0, wfp p) (_w1 : (Lit.int .i64 n).wf = true) (_w2 : (Lit.int .i64 m).wf = true) :
    Calls Try.prog 3 #[.agg #[.int .i64 N0, u0], .int .i64 n, .int .i64 m] w fun e w' => e = .returned (.bool true) ∧ Below w.heap.size w w' := by
  obtain ⟨a, cap, hv⟩ := wL0.at
  subst hv
  have HL0 := Lib.hid wL0
  have HM := Lib.hid (linksAt_cut wL0)
  have hW := wf_take wW0
  have hMl := take_le L0
  obtain ⟨M, hMe⟩ : ∃ M, M = L0.take 40 := ⟨_, rfl⟩
  have HMe := Lib.hid hMe
  rw [← hMe] at HM hW hMl
  have HW := Lib.hid hW
  have hn6 : M.length ≤ 1000000 := by omega
  obtain ⟨r, hr⟩ := bool_of (RightG N0 M)
  have HR := Lib.hid hr
  obtain ⟨F, hF⟩ : ∃ F : Nat, (F : Int) = max 1 (min n 6) := ⟨(max 1 (min n 6)).toNat, by omega⟩
  have HF := Lib.hid hF
  obtain ⟨X, hX⟩ : ∃ X, X = fullL F F := ⟨_, rfl⟩
  have hXl : X.length ≤ 1000000 := by
    have := fullL_len F F
    rw [hX]
    have h6 : F ≤ 6 := by omega
    have : F * F ≤ 6 * 6 := Nat.mul_le_mul h6 h6
    omega
  have HX := Lib.hid hX
  clear wL0 wW0 hW hMe hr hF hX
  go_enter Try.func3, Try.ntmps3
  try simp only [List.append_eq, List.cons_append, List.nil_append]
  go_wp2_with fail
  refine (cut_at a cap L0 N0 _ (HL0.out.below (below_alloc _ _))).mono ?_
  rintro e x1 ⟨rfl, hb⟩
  rw [← HMe.out]
  simp only [gv]
  obtain ⟨hbox, x2, hx2, hK⟩ := law_box hb HM.out
  have q0 := hbox.1
  have q1 := hbox.2.1
  have q2 := hbox.2.2.1
  have q3 := hbox.2.2.2
  have T := Lib.hid (hK.below (below_drewN (Below.refl _ x2) 1))
  clear hb hbox hK
  go_wp2_with fail
  rw [← hx2]
  clear hx2 q0 q1 q2 q3
  go_region_held3 (fun w' => w'.cell? ⟨w.heap.size, 0, none⟩ = some (.int .i64 N0) ∧ w'.cell? ⟨w.heap.size, 1, none⟩ = some (.slice a M.length cap)) (exact ⟨T.out.b0, T.out.b1⟩)
    (first
      | (go_at_call 11; refine (right_at N0 _ M r _ T.out.l HW.out HR.out).mono ?_; rintro e y1 ⟨rfl, hb⟩; have T := Lib.hid (T.out.below hb); have I1 := Lib.hid (show True from trivial); clear hb)
      | (go_at_call 13; refine (ref_slice _ _ _ _ _).mono ?_; rintro e y2 ⟨rfl, hb⟩; have T := Lib.hid (T.out.below hb); have I1 := Lib.hid (by first | exact (I1.out.below hb) | exact trivial); clear hb)
      | (go_at_call 12; refine (rright_at N0 _ M r _ T.out.l HR.out).mono ?_; rintro e y3 ⟨rfl, hb⟩; have T := Lib.hid (T.out.below hb); clear hb)
      | (go_at_call 15; refine (full_at n F _ HF.out).mono ?_; rintro e y4 ⟨a4, c4, rfl, hL, hb⟩; have T := Lib.hid (T.out.below hb); rw [← HX.out] at hL ⊢; have I1 := Lib.hid hL; clear hb hL)
      | (go_at_call 16; refine (rfull_at n F _ HF.out).mono ?_; rintro e y5 ⟨a5, c5, rfl, hL, hb⟩; have T := Lib.hid (T.out.below hb); rw [← HX.out] at hL ⊢; have I1 := Lib.hid (I1.out.below hb); have I2 := Lib.hid hL; clear hb hL)
      | (go_at_call 14; refine (same_any F _ _ X _ I1.out I2.out hXl).mono ?_; rintro e y6 ⟨rfl, hb⟩; have T := Lib.hid (T.out.below hb); clear hb))
  have z0 := T.out.b0
  have z1 := T.out.b1
  go_wp2_with fail
  refine (ref_slice _ _ _ _ _).mono ?_
  rintro e y7 ⟨rfl, hb⟩
  have T := Lib.hid (T.out.below hb)
  clear hb z0 z1
  go_wp2_with fail
  refine (rright_at N0 _ M r _ T.out.l HR.out).mono ?_
  rintro e y8 ⟨rfl, hb⟩
  have T := Lib.hid (T.out.below hb)
  clear hb
  by_cases hG : RightG N0 M
  · have hrt : r = true := HR.out.2 hG
    subst hrt
    obtain ⟨N, rfl⟩ : ∃ N : Nat, N0 = (N : Int) := ⟨N0.toNat, by have := hG.1; omega⟩
    obtain ⟨D, hD6, _, hDist, hRdist⟩ := dist_both N n M hG.2.2.2.1.in (by have := hG.1; omega) (by have := hG.2.1; omega) hn6
    have HDs := Lib.hid hDist
    have HRd := Lib.hid hRdist
    obtain ⟨O, hO⟩ : ∃ O, sel 0 M n = O := ⟨_, rfl⟩
    obtain ⟨P, hP⟩ : ∃ P, sel 1 M n = P := ⟨_, rfl⟩
    obtain ⟨q, hq⟩ : ∃ q, findL M (n, m) = q := ⟨_, rfl⟩
    obtain ⟨s, hs⟩ : ∃ s, backL M m = s := ⟨_, rfl⟩
    have hOl : O.length ≤ 1000000 := by rw [← hO]; exact Nat.le_trans (selL_length _ _) hn6
    have hPl : P.length ≤ 1000000 := by rw [← hP]; exact Nat.le_trans (selL_length _ _) hn6
    have hDl : D.length ≤ 1000000 := by omega
    have HO := Lib.hid hO
    have HP := Lib.hid hP
    have HQ := Lib.hid hq
    have HS := Lib.hid hs
    have z0 := T.out.b0
    have z1 := T.out.b1
    have T := Lib.hid (T.out.below (below_drewN (Below.refl _ y8) 1))
    clear hDist hRdist hO hP hq hs hG
    go_wp2_with fail
    go_region_held3 (fun w' => w'.cell? ⟨w.heap.size, 0, none⟩ = some (.int .i64 (N : Int)) ∧ w'.cell? ⟨w.heap.size, 1, none⟩ = some (.slice a M.length cap)) (exact ⟨T.out.b0, T.out.b1⟩)
      (first
        | (go_at_call 19; refine (outs_at N n _ M O _ T.out.l hn6 HO.out).mono ?_; rintro e y1 ⟨a1, c1, rfl, hI, hb⟩; have T := Lib.hid (T.out.below hb); have I1 := Lib.hid hI; clear hb hI)
        | (go_at_call 13; refine (ref_slice _ _ _ _ _).mono ?_; rintro e y2 ⟨rfl, hb⟩; have T := Lib.hid (T.out.below hb); have I1 := Lib.hid (I1.out.below hb); clear hb)
        | (go_at_call 20; refine (routs_at N n _ M O _ T.out.l hn6 HO.out).mono ?_; rintro e y3 ⟨a3, c3, rfl, hI, hb⟩; have T := Lib.hid (T.out.below hb); have I1 := Lib.hid (I1.out.below hb); have I2 := Lib.hid hI; clear hb hI)
        | (go_at_call 21; refine (ins_at N n _ M P _ T.out.l hn6 HP.out).mono ?_; rintro e y1 ⟨a1, c1, rfl, hI, hb⟩; have T := Lib.hid (T.out.below hb); have I1 := Lib.hid hI; clear hb hI)
        | (go_at_call 22; refine (rins_at N n _ M P _ T.out.l hn6 HP.out).mono ?_; rintro e y3 ⟨a3, c3, rfl, hI, hb⟩; have T := Lib.hid (T.out.below hb); have I1 := Lib.hid (I1.out.below hb); have I2 := Lib.hid hI; clear hb hI)
        | (go_at_call 18; refine (rints_same _ _ _ _ I1.out I2.out (by assumption)).mono ?_; rintro e y4 ⟨rfl, hb⟩; have T := Lib.hid (T.out.below hb); have I1 := Lib.hid (I1.out.below hb); clear hb)
        | (go_at_call 23; refine (find_at N n m q _ M _ T.out.l hn6 HQ.out).mono ?_; rintro e y5 ⟨rfl, hb⟩; have T := Lib.hid (T.out.below hb); have I1 := Lib.hid (I1.out.below hb); clear hb)
        | (go_at_call 24; refine (rfind_at2 N n m q _ M _ T.out.l hn6 HQ.out).mono ?_; rintro e y5 ⟨rfl, hb⟩; have T := Lib.hid (T.out.below hb); have I1 := Lib.hid (I1.out.below hb); clear hb)
        | (go_at_call 25; refine (back_at N m s _ M _ T.out.l hn6 HS.out).mono ?_; rintro e y5 ⟨rfl, hb⟩; have T := Lib.hid (T.out.below hb); have I1 := Lib.hid (I1.out.below hb); clear hb)
        | (go_at_call 26; refine (rback_at N m s _ M _ T.out.l hn6 HS.out).mono ?_; rintro e y5 ⟨rfl, hb⟩; have T := Lib.hid (T.out.below hb); have I1 := Lib.hid (I1.out.below hb); clear hb)
        | (go_at_call 27; refine (HDs.out _ _ T.out.l).mono ?_; rintro e y1 ⟨a1, c1, rfl, hI, hb⟩; have T := Lib.hid (T.out.below hb); have I1 := Lib.hid hI; clear hb hI)
        | (go_at_call 28; refine (HRd.out _ _ T.out.l).mono ?_; rintro e y3 ⟨a3, c3, rfl, hI, hb⟩; have T := Lib.hid (T.out.below hb); have I1 := Lib.hid (I1.out.below hb); have I2 := Lib.hid hI; clear hb hI)
        | (go_at_call 17; refine (fixed_any _).mono ?_; rintro e y6 ⟨rfl, hb⟩; have T := Lib.hid (T.out.below hb); clear hb))
    go_wp2_with fail
    go_ret
    exact ⟨rfl, T.out.bel⟩
  · have hrf : r = false := by
      cases r with
      | false => rfl
      | true => exact absurd (HR.out.1 rfl) hG
    subst hrf
    clear hG
    go_wp2_with fail
    refine (fixed_any _).mono ?_
    rintro e y9 ⟨rfl, hb⟩
    have T := Lib.hid (T.out.below hb)
    clear hb
    go_wp2_with fail
    go_ret
    exact ⟨rfl, T.out.bel⟩
end Go.Proofs.Ytndpgmndbdchaaa
