/- The walk of the law Full. -/
import Derived.Test.YtndpgmndbdchaaaFa
namespace Go.Proofs.Ytndpgmndbdchaaa
open Go.RowKit Go.PlainAid

set_option maxHeartbeats 1000000 in
set_option maxRecDepth 100000 in
theorem walkGraphFull (n p0 : Int) (w : World) (_w1 : (Lit.int .i64 n).wf = true) (_w2 : (Lit.int .i64 p0).wf = true) :
    Calls Try.prog 9 #[.int .i64 n, .int .i64 p0] w fun e w' => e = .returned (.bool true) ∧ Below w.heap.size w w' := by
  obtain ⟨N, hN⟩ : ∃ N : Nat, (N : Int) = max 1 (min n 6) := ⟨(max 1 (min n 6)).toNat, by omega⟩
  have hN1 : 1 ≤ N := by omega
  have hN6 : N ≤ 6 := by omega
  obtain ⟨F, hF⟩ : ∃ F, fullL N N = F := ⟨_, rfl⟩
  have hG : RightG N F := hF ▸ full_right hN1 hN6
  have hW : ∀ p ∈ F, wfp p := wfSmall fun p hp => by
    have := hG.2.2.2.1.in p hp
    omega
  obtain ⟨i0, a, m0, t0, l0⟩ := node_of p0 N hN1
  have l0' : (a : Int) < N := by omega
  obtain ⟨D, hD⟩ := isDist_ex N a F
  obtain ⟨O, hO⟩ : ∃ O, sel 0 F (a : Int) = O := ⟨_, rfl⟩
  obtain ⟨P, hP⟩ : ∃ P, sel 1 F (a : Int) = P := ⟨_, rfl⟩
  obtain ⟨N', hN'⟩ : ∃ N' : Nat, N = N' + 1 := ⟨N - 1, by omega⟩
  have hnum := full_num N (by omega)
  rw [hF] at hnum
  have hOl : O.length = N' := by rw [← hO]; have := (hnum.2 a l0).1; omega
  have hPl : P.length = N' := by rw [← hP]; have := (hnum.2 a l0).2; omega
  have hFl : F.length = N * N' := by rw [hnum.1, hN']; rfl
  have hFi : (N : Int) * (N' : Int) = (F.length : Int) := by rw [hFl, Int.natCast_mul]
  have hn6 : F.length ≤ 1000000 := by
    have : N * N' ≤ 6 * 6 := Nat.mul_le_mul hN6 (by omega)
    omega
  have hwm : IntKind.i64.wrap ((N : Int) * (N' : Int)) = (F.length : Int) := by rw [hFi]; exact IntWalk.i64_in _ (by omega)
  have hw1 : IntKind.i64.wrap ((N : Int) - 1) = (N' : Int) := by
    rw [show (N : Int) - 1 = (N' : Int) by omega]; exact IntWalk.i64_in _ (by omega)
  obtain ⟨M1, hM1⟩ : ∃ M1 : Int, (if 6 < n then (6 : Int) else n) = M1 := ⟨_, rfl⟩
  have hM2 : (if 1 < M1 then M1 else (1 : Int)) = (N : Int) := by rw [← hM1]; split <;> split at * <;> omega
  have hNi : ¬ (N : Int) = 0 := by omega
  have hno1 : ((F.length : Int) != (F.length : Int)) = false := by simp
  have hno2 : ((N : Int) != (N : Int)) = false := by simp
  have hno3 : ((N' : Int) != (N' : Int)) = false := by simp
  have HF := Lib.hid hF
  have HD := Lib.hid hD
  have HO := Lib.hid hO
  have HP := Lib.hid hP
  have HOl := Lib.hid hOl
  have HPl := Lib.hid hPl
  have HG := Lib.hid hG
  have HW := Lib.hid hW
  have HN := Lib.hid hN
  have HN' := Lib.hid hN'
  clear hF hD hO hP hOl hPl hG hW hN hN' hnum hFl hFi _w1 _w2
  go_enter Try.func9, Try.ntmps9
  try simp only [List.append_eq, List.cons_append, List.nil_append]
  go_wp2_with fail
  refine (full_at n N _ HN.out).mono ?_
  rintro e x1 ⟨s, c, rfl, hL, hb⟩
  rw [HF.out] at hL ⊢
  simp only [gv]
  have HB := Lib.hid hb
  obtain ⟨x2, hx2⟩ : ∃ x2, x2 = x1.alloc (.cells #[.int .i64 N, .slice s F.length c] 24) := ⟨_, rfl⟩
  have T := Lib.hid (show KAt x1 N (.slice s F.length c) F x2 from hx2 ▸ new_k hL)
  have z0 := T.out.b0
  have z1 := T.out.b1
  clear hL hb
  go_wp2_with fail
  rw [← hx2]
  clear hx2 hM1 hM2
  refine (right_true N _ F _ T.out.l HW.out HG.out).mono ?_
  rintro e x3 ⟨rfl, hb⟩
  have T := Lib.hid (T.out.below hb)
  have z0 := T.out.b0
  have z1 := T.out.b1
  clear hb
  go_wp2_with fail
  refine (distN_at N a _ F D _ T.out.l HG.out.2.2.2.1.in hN1 hN6 l0 hn6 HD.out).mono ?_
  rintro e x4 ⟨g, o, c1, rfl, hI, hb⟩
  have T := Lib.hid (T.out.below hb)
  have I := Lib.hid hI
  have z0 := T.out.b0
  have z1 := T.out.b1
  clear hb hI
  have T := Lib.hid (T.out.below (below_drewN (Below.refl _ x4) 1))
  have I := Lib.hid (I.out.below (below_drewN (Below.refl _ x4) 1))
  go_wp2_with fail
  go_region_held3 (fun w' => w'.cell? ⟨x1.heap.size, 0, none⟩ = some (.int .i64 (N : Int)) ∧ w'.cell? ⟨x1.heap.size, 1, none⟩ = some (.slice s F.length c)) (exact ⟨T.out.b0, T.out.b1⟩)
    (first
      | (go_at_call 19; refine (outs_at N a _ F O _ T.out.l hn6 HO.out).mono ?_; rintro e y2 ⟨a2, c2, rfl, _, hb⟩; rw [HOl.out]; have T := Lib.hid (T.out.below hb); have I := Lib.hid (I.out.below hb); clear hb)
      | (go_at_call 21; refine (ins_at N a _ F P _ T.out.l hn6 HP.out).mono ?_; rintro e y3 ⟨a3, c3, rfl, _, hb⟩; rw [HPl.out]; have T := Lib.hid (T.out.below hb); have I := Lib.hid (I.out.below hb); clear hb))
  go_wp2_with fail
  go_loopw [8] (fun i wr => ∃ j : Nat, i = .int .i64 j ∧ j ≤ N ∧ KAt x1 N (.slice s F.length c) F wr ∧ IntsAt wr (.slice (some ⟨g, o, none⟩) N c1) D) (fun i _ => N - (intOf i).toNat)
  case atStart => exact ⟨0, rfl, by omega, T.out, I.out⟩
  case round =>
    obtain ⟨j, rfl, hj, hK, hI⟩ := hrel
    have T := Lib.hid hK
    have I := Lib.hid hI
    have z0 := hK.b0
    have z1 := hK.b1
    clear hK hI
    by_cases hjt : j < N
    · have hjt' : (j : Int) < N := by omega
      have hc := I.out.cell HD.out.1 hjt
      by_cases hja : j = a
      · subst hja
        rw [dist_self l0 HD.out] at hc
        have hf : findL F ((j : Int), (j : Int)) = -1 := by
          rcases findL_cases F ((j : Int), (j : Int)) with ⟨k, h1, h2, _, _⟩ | ⟨_, h⟩
          · exact absurd rfl (HG.out.2.2.2.1.irr _ (h2 ▸ lk_mem h1))
          · exact h
        have HQ := Lib.hid hf
        clear hf
        go_wp2_with fail
        refine (find_at N j j (-1) _ F _ T.out.l hn6 HQ.out).mono ?_
        rintro e y1 ⟨rfl, hb⟩
        have T := Lib.hid (T.out.below hb)
        have I := Lib.hid (I.out.below hb)
        clear hb
        go_wp2_with fail
        go_roundw
        case rel => exact ⟨j + 1, by go_num, by omega, T.out, I.out⟩
        case measure => simp [intOf]; omega
      · have hm : ((a : Int), (j : Int)) ∈ F := by rw [← HF.out]; exact full_mem l0 hjt (fun e => hja e.symm)
        rw [(dist_one HG.out l0 hjt HD.out).2 hm] at hc
        obtain ⟨q, hq⟩ : ∃ q, findL F ((a : Int), (j : Int)) = q := ⟨_, rfl⟩
        have hq0 : ¬ q < 0 := by rw [← hq]; intro h; exact findL_neg.1 h hm
        have hq1 : decide (q < 0) = false := decide_eq_false hq0
        have HQ := Lib.hid hq
        have e1 : ((j : Int) == (a : Int)) = false := by simp; omega
        have e2 : ((j : Int) != (a : Int)) = true := by simp; omega
        have e3 : ¬ (j : Int) = (a : Int) := by omega
        clear hm hq
        go_wp2_with fail
        refine (find_at N a j q _ F _ T.out.l hn6 HQ.out).mono ?_
        rintro e y1 ⟨rfl, hb⟩
        have T := Lib.hid (T.out.below hb)
        have I := Lib.hid (I.out.below hb)
        clear hb
        go_wp2_with fail
        go_roundw
        case rel => exact ⟨j + 1, by go_num, by omega, T.out, I.out⟩
        case measure => simp [intOf]; omega
    · have hjt' : ¬ (j : Int) < N := by omega
      go_wp2_with fail
      refine (fixed_any _).mono ?_
      rintro e y9 ⟨rfl, hb⟩
      have T := Lib.hid (T.out.below hb)
      clear hb
      go_wp2_with fail
      go_ret
      exact ⟨rfl, below_step HB.out.size HB.out T.out.bel⟩
end Go.Proofs.Ytndpgmndbdchaaa
