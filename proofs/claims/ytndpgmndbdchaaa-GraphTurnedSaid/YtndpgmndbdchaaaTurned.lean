/- The walk of the law Turned. -/
import Derived.Test.YtndpgmndbdchaaaTa
import Derived.BigQuiet
import Derived.Deep.RegionHeldLaw
namespace Go.Proofs.Ytndpgmndbdchaaa
open Go.RowKit Go.PlainAid

set_option maxHeartbeats 1000000 in
set_option maxRecDepth 100000 in
theorem walkGraphTurned (N0 : Int) (u0 : Value) (L0 : Lks) (p0 p1 : Int) (w : World) (wL0 : LinksAt w u0 L0) (wW0 : ∀ p ∈ L0, wfp p) (_w1 : (Lit.int .i64 p0).wf = true) (_w2 : (Lit.int .i64 p1).wf = true) :
    Calls Try.prog 8 #[.agg #[.int .i64 N0, u0], .int .i64 p0, .int .i64 p1] w fun e w' => e = .returned (.bool true) ∧ Below w.heap.size w w' := by
  obtain ⟨a, cap, hv⟩ := wL0.at
  subst hv
  have HL0 := Lib.hid wL0
  have HM := Lib.hid (linksAt_cut wL0)
  have hW := wf_take wW0
  have hMl := take_le L0
  obtain ⟨M, hMe⟩ : ∃ M, M = L0.take 40 := ⟨_, rfl⟩
  have HMe := Lib.hid hMe
  rw [← hMe] at HM hW hMl
  have HW := Lib.hid hW
  have hn6 : M.length ≤ 1000000 := by omega
  obtain ⟨r, hr⟩ := bool_of (RightG N0 M)
  have HR := Lib.hid hr
  clear wL0 wW0 hW hMe hr
  go_enter Try.func8, Try.ntmps8
  try simp only [List.append_eq, List.cons_append, List.nil_append]
  go_wp2_with fail
  refine (cut_at a cap L0 N0 _ (HL0.out.below (below_alloc _ _))).mono ?_
  rintro e x1 ⟨rfl, hb⟩
  rw [← HMe.out]
  simp only [gv]
  obtain ⟨hbox, x2, hx2, hK⟩ := law_box hb HM.out
  have q0 := hbox.1
  have q1 := hbox.2.1
  have q2 := hbox.2.2.1
  have q3 := hbox.2.2.2
  have T := Lib.hid hK
  have z0 := hK.b0
  have z1 := hK.b1
  clear hb hbox hK
  obtain ⟨y0, hy0⟩ : ∃ y0, y0 = ((x1.setCell ⟨w.heap.size, 0, none⟩ (.int .i64 N0)).setCell ⟨w.heap.size, 1, none⟩ (.slice a M.length cap)).alloc (.cells #[] 43) := ⟨_, rfl⟩
  have y1 : (((x1.setCell ⟨w.heap.size, 0, none⟩ (.int .i64 N0)).setCell ⟨w.heap.size, 1, none⟩ (.slice a M.length cap)).alloc (.cells #[] 43)).cell? ⟨w.heap.size, 1, none⟩ = some (.slice a M.length cap) := by
    rw [← hx2]; exact (T.out.below (below_alloc x2 _)).b1
  clear hy0 y0
  by_cases hM : 0 < M.length
  · have hMi : (0 : Int) < M.length := by omega
    have hMn : ¬ (M.length : Int) = 0 := by omega
    have hMe2 : ¬ M = [] := by intro e; rw [e] at hM; simp at hM
    have hMn2 : ¬ M.length = 0 := by omega
    obtain ⟨ik, k, mk, tk, lkk⟩ := node_of p1 M.length hM
    have lki : (k : Int) < M.length := by omega
    have hkM : k < M.length ∨ M.length = 0 := .inl lkk
    go_wp2_with fail
    have HK := Lib.hid hkM
    have HP := Lib.hid (tl_perm hkM)
    have hsz : x2.heap.size = x1.heap.size := by rw [hx2]; simp
    have HR0 := Lib.hid (show Row x2 (x2.alloc (.cells #[] 43)) (.slice (some ⟨x1.heap.size, 0, none⟩) 0 0) [] from by
      have := Row.new x2
      rw [hsz] at this; exact this)
    clear hsz
    rw [← hx2]
    clear hx2 y1 q0 q1 q2 q3 z0 z1 hkM
    obtain ⟨x3, hx3⟩ : ∃ x3, x3 = x2.alloc (.cells #[] 43) := ⟨_, rfl⟩
    rw [← hx3] at HR0 ⊢
    clear hx3
    go_loopw [8, 9] (fun l i wr => ∃ (j : Nat) (ao : Option Addr) (cv : Nat), i = .int .i64 j ∧ l = .slice ao j cv ∧ j ≤ M.length ∧ Row x2 wr (.slice ao j cv) (tl M k j)) (fun _ i _ => M.length - (intOf i).toNat)
    case atStart => exact ⟨0, _, 0, rfl, rfl, by omega, HR0.out⟩
    case round =>
      obtain ⟨j, ao, cv, rfl, rfl, hj, hrow⟩ := hrel
      obtain ⟨wp, hwp⟩ : ∃ wp, wp = wr := ⟨_, rfl⟩
      rw [← hwp] at hrow ⊢
      clear hwp
      have R := Lib.hid hrow
      have K := Lib.hid (T.out.below hrow.bel)
      have z0 := K.out.b0
      have z1 := K.out.b1
      clear hrow
      by_cases hjt : j < M.length
      · have hjt' : (j : Int) < M.length := by omega
        obtain ⟨t, ht⟩ : ∃ t, t = (M.length - 1 - j + k) % M.length := ⟨_, rfl⟩
        have htl : t < M.length := by rw [ht]; exact Nat.mod_lt _ (by omega)
        have htl' : (t : Int) < M.length := by omega
        have hk' : k < M.length := HK.out.resolve_right (by omega)
        obtain ⟨e1, he1⟩ : ∃ e1 : Nat, e1 = M.length - 1 := ⟨_, rfl⟩
        obtain ⟨e2, he2⟩ : ∃ e2 : Nat, e2 = e1 - j := ⟨_, rfl⟩
        have hw1 : IntKind.i64.wrap ((M.length : Int) - 1) = (e1 : Int) := by rw [show (M.length : Int) - 1 = (e1 : Int) by omega]; exact IntWalk.i64_in _ (by omega)
        have hw2 : IntKind.i64.wrap ((e1 : Int) - (j : Int)) = (e2 : Int) := by rw [show (e1 : Int) - (j : Int) = (e2 : Int) by omega]; exact IntWalk.i64_in _ (by omega)
        have hw3 : IntKind.i64.wrap ((e2 : Int) + (k : Int)) = (e2 : Int) + (k : Int) := IntWalk.i64_in _ (by omega)
        have htm : ((e2 : Int) + (k : Int)).tmod (M.length : Int) = (t : Int) := by
          rw [show (e2 : Int) + (k : Int) = ((e2 + k : Nat) : Int) by omega, Int.tmod_eq_emod_of_nonneg (by omega), ← Int.natCast_emod, ht, he2, he1]
        have htj := ht.symm
        have HS := Lib.hid (show tl M k (j + 1) = tl M k j ++ [lk M t] by rw [tl_succ, ← ht])
        have Ht := Lib.hid ht
        obtain ⟨x, hx⟩ : ∃ x, (lk M t).1 = x := ⟨_, rfl⟩
        obtain ⟨y, hy⟩ : ∃ y, (lk M t).2 = y := ⟨_, rfl⟩
        have Hxy := Lib.hid (show lk M t = (x, y) by rw [← hx, ← hy])
        rcases id T.out.l with ⟨a0', cap0, e0', e1'⟩ | ⟨lb, lo, llen, lcap, e0', f1, f3, f4x, f2, f5⟩
        · rw [e1'] at htl; simp at htl
        · simp only [Value.slice.injEq] at e0'
          obtain ⟨rfl, rfl, rfl⟩ := e0'
          have QS := Lib.hid (show ∀ w', Below x2.heap.size x2 w' → w'.cell? ⟨w.heap.size, 1, none⟩ = some (.slice (some ⟨lb, lo, none⟩) M.length cap) ∧ w'.cell? ⟨lb, lo + t * 2, none⟩ = some (.int .i64 x) ∧ w'.cell? ⟨lb, lo + t * 2 + 1, none⟩ = some (.int .i64 y) from fun w' hb => by
            have hK := T.out.below hb
            rcases hK.l with ⟨a0, c0, e0, e1⟩ | ⟨lb', lo', llen', lcap', e0, g1, g2, g3, g4, g5⟩
            · rw [e1] at htl; simp at htl
            · simp only [Value.slice.injEq, Option.some.injEq, Addr.mk.injEq] at e0
              obtain ⟨⟨rfl, rfl, _⟩, rfl, rfl⟩ := e0
              have := g5 t htl
              rw [hx, hy] at this
              exact ⟨hK.b1, this⟩)
          clear f1 f3 f4x f2 f5 hx hy he1 he2 ht htj
          go_wp2_with fail
          go_region_held_law (fun w' => w'.cell? ⟨w.heap.size, 1, none⟩ = some (.slice (some ⟨lb, lo, none⟩) M.length cap) ∧ w'.cell? ⟨lb, lo + t * 2, none⟩ = some (.int .i64 x) ∧ w'.cell? ⟨lb, lo + t * 2 + 1, none⟩ = some (.int .i64 y))
            (first | exact QS.out _ RN.out.bel | exact QS.out _ ((below_drewN R.out.bel 1).alloc (show x2.heap.size ≤ wp.drew.heap.size from R.out.bel.size) _) | exact QS.out _ (below_drewN R.out.bel 1))
            ((refine app_step (by rfl) _ _ (by rfl) x2 _ (tl M k j) [(x, y)] j 1 (j + 1) (tl_len M k j) rfl rfl (by rfl) ((R.out.below (below_drewN (Below.refl _ wp) 1)).alloc _) ⟨wp.heap.size, 0, none⟩ 1 (by rfl) (links_new wp.drew 43 [(x, y)] (by simp)) (by omega) ?_; intro ao2 cv2 w4 hr4; have RN := Lib.hid hr4))
          go_wp2_with fail
          go_roundw
          case rel => exact ⟨j + 1, ao2, cv2, by go_num, rfl, by omega, by rw [HS.out, Hxy.out]; exact RN.out⟩
          case measure => simp [intOf]; omega
      · have hjt' : ¬ (j : Int) < M.length := by omega
        obtain rfl : j = M.length := by omega
        have hK2 := new_k (w := wp) (N := N0) (T := 24) R.out.links
        obtain ⟨w5, hw5⟩ : ∃ w5, w5 = wp.alloc (.cells #[.int .i64 N0, .slice ao M.length cv] 24) := ⟨_, rfl⟩
        rw [← hw5] at hK2
        have H := Lib.hid hK2
        have K := Lib.hid (K.out.below (show Below wp.heap.size wp w5 from hw5 ▸ below_alloc _ _))
        have HRT := Lib.hid (fun v w' h => right_two HP.out HR.out HW.out v w' h)
        have hrr : (r != r) = false := by simp
        clear hK2
        go_wp2_with fail
        rw [← hw5]
        clear hw5
        have K := Lib.hid (K.out.below (below_drewN (Below.refl _ w5) 1))
        have H := Lib.hid (H.out.below (below_drewN (Below.refl _ w5) 1))
        go_region_held3 (fun w' => w'.cell? ⟨w.heap.size, 0, none⟩ = some (.int .i64 N0) ∧ w'.cell? ⟨w.heap.size, 1, none⟩ = some (.slice a M.length cap) ∧ w'.cell? ⟨wp.heap.size, 0, none⟩ = some (.int .i64 N0) ∧ w'.cell? ⟨wp.heap.size, 1, none⟩ = some (.slice ao M.length cv)) (exact ⟨K.out.b0, K.out.b1, H.out.b0, H.out.b1⟩)
          (first
            | (go_at_call 11; refine (HRT.out _ _ (by first | exact Or.inr K.out.l | exact Or.inl H.out.l)).mono ?_; rintro e y1 ⟨rfl, hb⟩; have K := Lib.hid (K.out.below hb); have H := Lib.hid (H.out.below hb); clear hb))
        obtain ⟨x6, hx6⟩ : ∃ x6, x6 = y1 := ⟨_, rfl⟩
        rw [← hx6] at K H ⊢
        clear hx6
        have z0 := K.out.b0
        have z1 := K.out.b1
        go_wp2_with fail
        refine (ref_slice _ _ _ _ _).mono ?_
        rintro e x7 ⟨rfl, hb⟩
        have K := Lib.hid (K.out.below hb)
        have H := Lib.hid (H.out.below hb)
        clear hb
        go_wp2_with fail
        refine (rright_at N0 _ M r _ K.out.l HR.out).mono ?_
        rintro e x8 ⟨rfl, hb⟩
        have K := Lib.hid (K.out.below hb)
        have H := Lib.hid (H.out.below hb)
        have z0 := K.out.b0
        have z1 := K.out.b1
        clear hb
        clear hrr
        by_cases hG : RightG N0 M
        · have hrt : r = true := HR.out.2 hG
          subst hrt
          obtain ⟨N, rfl⟩ : ∃ N : Nat, N0 = (N : Int) := ⟨N0.toNat, by have := hG.1; omega⟩
          obtain ⟨D, hD6, hDD⟩ := dist_two HP.out hG.2.2.2.1.in (by have := hG.1; omega) (by have := hG.2.1; omega) hn6 p0
          obtain ⟨m, hm6, hOO⟩ := out_two (N := (N : Int)) HP.out hn6 p0
          have HDT := Lib.hid hDD
          have HDS := Lib.hid hDD
          have HO := Lib.hid hOO
          have hmm : ((m : Int) == (m : Int)) = true := by simp
          clear hDD hOO hG hm6
          go_wp2_with fail
          have K := Lib.hid (K.out.below (below_drewN (Below.refl _ x8) 1))
          have H := Lib.hid (H.out.below (below_drewN (Below.refl _ x8) 1))
          go_region_held3 (fun w' => w'.cell? ⟨w.heap.size, 0, none⟩ = some (.int .i64 (N : Int)) ∧ w'.cell? ⟨w.heap.size, 1, none⟩ = some (.slice a M.length cap) ∧ w'.cell? ⟨wp.heap.size, 0, none⟩ = some (.int .i64 (N : Int)) ∧ w'.cell? ⟨wp.heap.size, 1, none⟩ = some (.slice ao M.length cv)) (exact ⟨K.out.b0, K.out.b1, H.out.b0, H.out.b1⟩)
            (first
              | (go_at_call 27; refine (HDT.out _ _ (by first | exact Or.inr K.out.l | exact Or.inl H.out.l)).mono ?_; rintro e y2 ⟨s1, c1, rfl, hI, hb⟩; have K := Lib.hid (K.out.below hb); have H := Lib.hid (H.out.below hb); have I1 := Lib.hid hI; have HDT := Lib.hid trivial; clear hb hI)
              | (go_at_call 27; refine (HDS.out _ _ (by first | exact Or.inr K.out.l | exact Or.inl H.out.l)).mono ?_; rintro e y3 ⟨s2, c2, rfl, hI, hb⟩; have K := Lib.hid (K.out.below hb); have H := Lib.hid (H.out.below hb); have I1 := Lib.hid (I1.out.below hb); have I2 := Lib.hid hI; clear hb hI)
              | (go_at_call 18; refine (rints_same _ _ D _ I1.out I2.out (by omega)).mono ?_; rintro e y4 ⟨rfl, hb⟩; have K := Lib.hid (K.out.below hb); have H := Lib.hid (H.out.below hb); clear hb)
              | (go_at_call 19; refine (HO.out _ _ (by first | exact Or.inr K.out.l | exact Or.inl H.out.l)).mono ?_; rintro e y5 ⟨s3, c3, rfl, hb⟩; have K := Lib.hid (K.out.below hb); have H := Lib.hid (H.out.below hb); clear hb)
              | (go_at_call 17; refine (fixed_any _).mono ?_; rintro e y6 ⟨rfl, hb⟩; have K := Lib.hid (K.out.below hb); have H := Lib.hid (H.out.below hb); clear hb))
          go_wp2_with fail
          go_ret
          exact ⟨rfl, K.out.bel⟩
        · have hrf : r = false := by
            cases r with
            | false => rfl
            | true => exact absurd (HR.out.1 rfl) hG
          subst hrf
          clear hG
          go_wp2_with fail
          refine (fixed_any _).mono ?_
          rintro e x9 ⟨rfl, hb⟩
          have K := Lib.hid (K.out.below hb)
          clear hb
          go_wp2_with fail
          go_ret
          exact ⟨rfl, K.out.bel⟩
  · have hMi : ¬ (0 : Int) < M.length := by omega
    obtain ⟨k, hk0⟩ : ∃ k : Nat, k = 0 := ⟨0, rfl⟩
    have hkM : k < M.length ∨ M.length = 0 := .inr (by omega)
    clear hk0
    go_wp2_with fail
    have HK := Lib.hid hkM
    have HP := Lib.hid (tl_perm hkM)
    have hsz : x2.heap.size = x1.heap.size := by rw [hx2]; simp
    have HR0 := Lib.hid (show Row x2 (x2.alloc (.cells #[] 43)) (.slice (some ⟨x1.heap.size, 0, none⟩) 0 0) [] from by
      have := Row.new x2
      rw [hsz] at this; exact this)
    clear hsz
    rw [← hx2]
    clear hx2 y1 q0 q1 q2 q3 z0 z1 hkM
    obtain ⟨x3, hx3⟩ : ∃ x3, x3 = x2.alloc (.cells #[] 43) := ⟨_, rfl⟩
    rw [← hx3] at HR0 ⊢
    clear hx3
    go_loopw [8, 9] (fun l i wr => ∃ (j : Nat) (ao : Option Addr) (cv : Nat), i = .int .i64 j ∧ l = .slice ao j cv ∧ j ≤ M.length ∧ Row x2 wr (.slice ao j cv) (tl M k j)) (fun _ i _ => M.length - (intOf i).toNat)
    case atStart => exact ⟨0, _, 0, rfl, rfl, by omega, HR0.out⟩
    case round =>
      obtain ⟨j, ao, cv, rfl, rfl, hj, hrow⟩ := hrel
      obtain ⟨wp, hwp⟩ : ∃ wp, wp = wr := ⟨_, rfl⟩
      rw [← hwp] at hrow ⊢
      clear hwp
      have R := Lib.hid hrow
      have K := Lib.hid (T.out.below hrow.bel)
      have z0 := K.out.b0
      have z1 := K.out.b1
      clear hrow
      by_cases hjt : j < M.length
      · have hjt' : (j : Int) < M.length := by omega
        omega
      · have hjt' : ¬ (j : Int) < M.length := by omega
        obtain rfl : j = M.length := by omega
        have hK2 := new_k (w := wp) (N := N0) (T := 24) R.out.links
        obtain ⟨w5, hw5⟩ : ∃ w5, w5 = wp.alloc (.cells #[.int .i64 N0, .slice ao M.length cv] 24) := ⟨_, rfl⟩
        rw [← hw5] at hK2
        have H := Lib.hid hK2
        have K := Lib.hid (K.out.below (show Below wp.heap.size wp w5 from hw5 ▸ below_alloc _ _))
        have HRT := Lib.hid (fun v w' h => right_two HP.out HR.out HW.out v w' h)
        have hrr : (r != r) = false := by simp
        clear hK2
        go_wp2_with fail
        rw [← hw5]
        clear hw5
        have K := Lib.hid (K.out.below (below_drewN (Below.refl _ w5) 1))
        have H := Lib.hid (H.out.below (below_drewN (Below.refl _ w5) 1))
        go_region_held3 (fun w' => w'.cell? ⟨w.heap.size, 0, none⟩ = some (.int .i64 N0) ∧ w'.cell? ⟨w.heap.size, 1, none⟩ = some (.slice a M.length cap) ∧ w'.cell? ⟨wp.heap.size, 0, none⟩ = some (.int .i64 N0) ∧ w'.cell? ⟨wp.heap.size, 1, none⟩ = some (.slice ao M.length cv)) (exact ⟨K.out.b0, K.out.b1, H.out.b0, H.out.b1⟩)
          (first
            | (go_at_call 11; refine (HRT.out _ _ (by first | exact Or.inr K.out.l | exact Or.inl H.out.l)).mono ?_; rintro e y1 ⟨rfl, hb⟩; have K := Lib.hid (K.out.below hb); have H := Lib.hid (H.out.below hb); clear hb))
        obtain ⟨x6, hx6⟩ : ∃ x6, x6 = y1 := ⟨_, rfl⟩
        rw [← hx6] at K H ⊢
        clear hx6
        have z0 := K.out.b0
        have z1 := K.out.b1
        go_wp2_with fail
        refine (ref_slice _ _ _ _ _).mono ?_
        rintro e x7 ⟨rfl, hb⟩
        have K := Lib.hid (K.out.below hb)
        have H := Lib.hid (H.out.below hb)
        clear hb
        go_wp2_with fail
        refine (rright_at N0 _ M r _ K.out.l HR.out).mono ?_
        rintro e x8 ⟨rfl, hb⟩
        have K := Lib.hid (K.out.below hb)
        have H := Lib.hid (H.out.below hb)
        have z0 := K.out.b0
        have z1 := K.out.b1
        clear hb
        clear hrr
        by_cases hG : RightG N0 M
        · have hrt : r = true := HR.out.2 hG
          subst hrt
          obtain ⟨N, rfl⟩ : ∃ N : Nat, N0 = (N : Int) := ⟨N0.toNat, by have := hG.1; omega⟩
          obtain ⟨D, hD6, hDD⟩ := dist_two HP.out hG.2.2.2.1.in (by have := hG.1; omega) (by have := hG.2.1; omega) hn6 p0
          obtain ⟨m, hm6, hOO⟩ := out_two (N := (N : Int)) HP.out hn6 p0
          have HDT := Lib.hid hDD
          have HDS := Lib.hid hDD
          have HO := Lib.hid hOO
          have hmm : ((m : Int) == (m : Int)) = true := by simp
          clear hDD hOO hG hm6
          go_wp2_with fail
          have K := Lib.hid (K.out.below (below_drewN (Below.refl _ x8) 1))
          have H := Lib.hid (H.out.below (below_drewN (Below.refl _ x8) 1))
          go_region_held3 (fun w' => w'.cell? ⟨w.heap.size, 0, none⟩ = some (.int .i64 (N : Int)) ∧ w'.cell? ⟨w.heap.size, 1, none⟩ = some (.slice a M.length cap) ∧ w'.cell? ⟨wp.heap.size, 0, none⟩ = some (.int .i64 (N : Int)) ∧ w'.cell? ⟨wp.heap.size, 1, none⟩ = some (.slice ao M.length cv)) (exact ⟨K.out.b0, K.out.b1, H.out.b0, H.out.b1⟩)
            (first
              | (go_at_call 27; refine (HDT.out _ _ (by first | exact Or.inr K.out.l | exact Or.inl H.out.l)).mono ?_; rintro e y2 ⟨s1, c1, rfl, hI, hb⟩; have K := Lib.hid (K.out.below hb); have H := Lib.hid (H.out.below hb); have I1 := Lib.hid hI; have HDT := Lib.hid trivial; clear hb hI)
              | (go_at_call 27; refine (HDS.out _ _ (by first | exact Or.inr K.out.l | exact Or.inl H.out.l)).mono ?_; rintro e y3 ⟨s2, c2, rfl, hI, hb⟩; have K := Lib.hid (K.out.below hb); have H := Lib.hid (H.out.below hb); have I1 := Lib.hid (I1.out.below hb); have I2 := Lib.hid hI; clear hb hI)
              | (go_at_call 18; refine (rints_same _ _ D _ I1.out I2.out (by omega)).mono ?_; rintro e y4 ⟨rfl, hb⟩; have K := Lib.hid (K.out.below hb); have H := Lib.hid (H.out.below hb); clear hb)
              | (go_at_call 19; refine (HO.out _ _ (by first | exact Or.inr K.out.l | exact Or.inl H.out.l)).mono ?_; rintro e y5 ⟨s3, c3, rfl, hb⟩; have K := Lib.hid (K.out.below hb); have H := Lib.hid (H.out.below hb); clear hb)
              | (go_at_call 17; refine (fixed_any _).mono ?_; rintro e y6 ⟨rfl, hb⟩; have K := Lib.hid (K.out.below hb); have H := Lib.hid (H.out.below hb); clear hb))
          go_wp2_with fail
          go_ret
          exact ⟨rfl, K.out.bel⟩
        · have hrf : r = false := by
            cases r with
            | false => rfl
            | true => exact absurd (HR.out.1 rfl) hG
          subst hrf
          clear hG
          go_wp2_with fail
          refine (fixed_any _).mono ?_
          rintro e x9 ⟨rfl, hb⟩
          have K := Lib.hid (K.out.below hb)
          clear hb
          go_wp2_with fail
          go_ret
          exact ⟨rfl, K.out.bel⟩
end Go.Proofs.Ytndpgmndbdchaaa
