/- The walk of the law Back. -/
import Derived.Test.YtndpgmndbdchaaaBa
namespace Go.Proofs.Ytndpgmndbdchaaa
open Go.RowKit Go.PlainAid

set_option maxHeartbeats 1000000 in
set_option maxRecDepth 100000 in
theorem walkGraphBack (N0 : Int) (u0 : Value) (L0 : Lks) (w : World) (wL0 : LinksAt w u0 L0) (wW0 : ∀ p ∈ L0, wfp p) :
    Calls Try.prog 4 #[.agg #[.int .i64 N0, u0]] w fun e w' => e = .returned (.bool true) ∧ Below w.heap.size w w' := by
  obtain ⟨a, cap, hv⟩ := wL0.at
  subst hv
  have HL0 := Lib.hid wL0
  have HM := Lib.hid (linksAt_cut wL0)
  have hW := wf_take wW0
  have hMl := take_le L0
  obtain ⟨M, hMe⟩ : ∃ M, M = L0.take 40 := ⟨_, rfl⟩
  have HMe := Lib.hid hMe
  rw [← hMe] at HM hW hMl
  have HW := Lib.hid hW
  have hn6 : M.length ≤ 1000000 := by omega
  obtain ⟨r, hr⟩ := bool_of (RightG N0 M)
  have HR := Lib.hid hr
  clear wL0 wW0 hW hMe hr
  go_enter Try.func4, Try.ntmps4
  try simp only [List.append_eq, List.cons_append, List.nil_append]
  go_wp2_with fail
  refine (cut_at a cap L0 N0 _ (HL0.out.below (below_alloc _ _))).mono ?_
  rintro e x1 ⟨rfl, hb⟩
  rw [← HMe.out]
  simp only [gv]
  obtain ⟨hbox, x2, hx2, hK⟩ := law_box hb HM.out
  have q0 := hbox.1
  have q1 := hbox.2.1
  have q2 := hbox.2.2.1
  have q3 := hbox.2.2.2
  have T := Lib.hid hK
  have z0 := hK.b0
  have z1 := hK.b1
  clear hb hbox hK
  go_wp2_with fail
  rw [← hx2]
  clear hx2 q0 q1 q2 q3
  refine (ref_slice _ _ _ _ _).mono ?_
  rintro e x3 ⟨rfl, hb⟩
  have T := Lib.hid (T.out.below hb)
  clear hb z0 z1
  go_wp2_with fail
  refine (rright_at N0 _ M r _ T.out.l HR.out).mono ?_
  rintro e x4 ⟨rfl, hb⟩
  have T := Lib.hid (T.out.below hb)
  have z0 := T.out.b0
  have z1 := T.out.b1
  clear hb
  by_cases hG : RightG N0 M
  · have hrt : r = true := HR.out.2 hG
    subst hrt
    obtain ⟨N, rfl⟩ : ∃ N : Nat, N0 = (N : Int) := ⟨N0.toNat, by have := hG.1; omega⟩
    have hRG := hG.2.2.2.1
    have hN6 : N ≤ 6 := by have := hG.2.1; omega
    obtain ⟨wq, hwq⟩ : ∃ wq, wq = x4 := ⟨_, rfl⟩
    go_wp2_with fail
    go_loopw [3] (fun i wr => ∃ k : Nat, i = .int .i64 k ∧ k ≤ M.length ∧ KAt w N (.slice a M.length cap) M wr) (fun i _ => M.length - (intOf i).toNat)
    case atStart => exact ⟨0, rfl, by omega, T.out⟩
    case round =>
      obtain ⟨k, rfl, hk, hK⟩ := hrel
      have T := Lib.hid hK
      have z0 := hK.b0
      have z1 := hK.b1
      clear hK
      by_cases hkl : k < M.length
      · have hkl' : (k : Int) < M.length := by omega
        obtain ⟨b, hb1, hb2, hb3, hb4, hb5, hb6⟩ := back_of hRG hkl
        obtain ⟨p, hp⟩ : ∃ p, p = lk M k := ⟨_, rfl⟩
        obtain ⟨x, y⟩ := p
        rw [← hp] at hb3 hb6
        have H3 := Lib.hid hb3
        have H4 := Lib.hid hb4
        have H5 := Lib.hid hb5
        have H6 := Lib.hid hb6
        have HP := Lib.hid hp
        have hbl' : (b : Int) < M.length := by omega
        have hbne : ((b : Int) == (k : Int)) = false := by rw [beq_eq_false_iff_ne]; omega
        have d0 : decide ((b : Int) < 0) = false := decide_eq_false (by omega)
        have d1 : decide (M.length ≤ b) = false := decide_eq_false (by omega)
        have d2 : decide ((M.length : Int) ≤ (b : Int)) = false := decide_eq_false (by omega)
        clear hb2 hb3 hb4 hb5 hb6 hp
        go_wp2_with fail
        refine (back_at N k b _ M _ T.out.l hn6 H4.out).mono ?_
        rintro e y1 ⟨rfl, hb⟩
        have T := Lib.hid (T.out.below hb)
        have z0 := T.out.b0
        have z1 := T.out.b1
        clear hb
        rcases id T.out.l with ⟨a0, cap0, e0, e1⟩ | ⟨lb, lo, llen, lcap, e0, f1, f2, f3, f4, f5⟩
        · rw [e1] at hkl; simp at hkl
        · simp only [Value.slice.injEq] at e0
          obtain ⟨rfl, e0b, rfl⟩ := e0
          obtain ⟨c1, c2⟩ := f5 k (by omega)
          obtain ⟨c3, c4⟩ := f5 b (by omega)
          rw [← HP.out] at c1 c2
          rw [H3.out] at c3 c4
          simp only at c1 c2 c3 c4
          have QK := Lib.hid (show ∀ w', KAt w N (.slice (some ⟨lb, lo, none⟩) M.length cap) M w' → w'.cell? ⟨lb, lo + b * 2, none⟩ = some (.int .i64 y) ∧ w'.cell? ⟨lb, lo + k * 2, none⟩ = some (.int .i64 x) ∧ w'.cell? ⟨lb, lo + k * 2 + 1, none⟩ = some (.int .i64 y) from fun w' hK => by
            rcases hK.l with ⟨a0, cap0, e0, e1⟩ | ⟨lb', lo', llen', lcap', e0, g1, g2, g3, g4, g5⟩
            · rw [e1] at hkl; simp at hkl
            · simp only [Value.slice.injEq, Option.some.injEq, Addr.mk.injEq] at e0
              obtain ⟨⟨rfl, rfl, _⟩, _, rfl⟩ := e0
              obtain ⟨c1, c2⟩ := g5 k (by omega)
              obtain ⟨c3, c4⟩ := g5 b (by omega)
              rw [← HP.out] at c1 c2
              rw [H3.out] at c3 c4
              exact ⟨c3, c1, c2⟩)
          have T := Lib.hid (T.out.below (below_drewN (Below.refl _ y1) 1))
          clear f1 f5 c4 e0b f2 f4
          go_wp2_with fail
          go_region_held3 (fun w' => w'.cell? ⟨w.heap.size, 0, none⟩ = some (.int .i64 (N : Int)) ∧ w'.cell? ⟨w.heap.size, 1, none⟩ = some (.slice (some ⟨lb, lo, none⟩) M.length cap) ∧ w'.cell? ⟨lb, lo + b * 2, none⟩ = some (.int .i64 y) ∧ w'.cell? ⟨lb, lo + k * 2, none⟩ = some (.int .i64 x) ∧ w'.cell? ⟨lb, lo + k * 2 + 1, none⟩ = some (.int .i64 y)) (exact ⟨T.out.b0, T.out.b1, QK.out _ T.out⟩)
            (first
              | (go_at_call 25; refine (back_at N b k _ M _ T.out.l hn6 H5.out).mono ?_; rintro e y2 ⟨rfl, hb⟩; have T := Lib.hid (T.out.below hb); clear hb)
              | (go_at_call 23; refine (find_at N x y k _ M _ T.out.l hn6 H6.out).mono ?_; rintro e y3 ⟨rfl, hb⟩; have T := Lib.hid (T.out.below hb); clear hb))
          go_wp2_with fail
          go_roundw
          case rel => exact ⟨k + 1, by go_num, by omega, T.out⟩
          case measure => simp [intOf]; omega
      · have hkl' : ¬ (k : Int) < M.length := by omega
        obtain ⟨wp, hwp⟩ : ∃ wp, wp = wr := ⟨_, rfl⟩
        rw [← hwp] at T z0 z1 ⊢
        clear hwp
        go_wp2_with fail
        go_loopw [5, 6] (fun s i wr => ∃ j : Nat, i = .int .i64 j ∧ s = .int .i64 (osum M j : Nat) ∧ j ≤ N ∧ KAt w N (.slice a M.length cap) M wr) (fun _ i _ => N - (intOf i).toNat)
        case atStart => exact ⟨0, rfl, rfl, by omega, T.out⟩
        case round =>
          obtain ⟨j, rfl, rfl, hj, hK⟩ := hrel
          have T := Lib.hid hK
          have z0 := hK.b0
          have z1 := hK.b1
          clear hK
          have hso := osum_le M j
          by_cases hjt : j < N
          · have hjt' : (j : Int) < N := by omega
            have hoi := out_in hRG (j : Int)
            have hos := osum_le M (j + 1)
            obtain ⟨O, hO⟩ : ∃ O, sel 0 M (j : Int) = O := ⟨_, rfl⟩
            obtain ⟨P, hP⟩ : ∃ P, sel 1 M (j : Int) = P := ⟨_, rfl⟩
            obtain ⟨s, hs⟩ : ∃ s, s = osum M j := ⟨_, rfl⟩
            have hs1 : osum M (j + 1) = s + O.length := by rw [hs, ← hO]; rfl
            rw [hO, hP] at hoi
            rw [hs1] at hos
            rw [← hs] at hso ⊢
            have HO := Lib.hid hO
            have HP := Lib.hid hP
            have HS1 := Lib.hid hs1
            have HOI := Lib.hid hoi
            have hwo : IntKind.i64.wrap ((s : Int) + (O.length : Int)) = (s : Int) + (O.length : Int) := IntWalk.i64_in _ (by omega)
            clear hO hP hs hs1 hoi
            go_wp2_with fail
            refine (outs_at N j _ M O _ T.out.l hn6 HO.out).mono ?_
            rintro e y1 ⟨a1, c1, rfl, _, hb⟩
            have T := Lib.hid (T.out.below hb)
            have z0 := T.out.b0
            have z1 := T.out.b1
            have T := Lib.hid (T.out.below (below_drewN (Below.refl _ y1) 1))
            clear hb
            have hno : ((O.length : Int) != (O.length : Int)) = false := by simp
            go_wp2_with fail
            go_region_held3 (fun w' => w'.cell? ⟨w.heap.size, 0, none⟩ = some (.int .i64 (N : Int)) ∧ w'.cell? ⟨w.heap.size, 1, none⟩ = some (.slice a M.length cap)) (exact ⟨T.out.b0, T.out.b1⟩)
              (first
                | (go_at_call 19; refine (outs_at N j _ M O _ T.out.l hn6 HO.out).mono ?_; rintro e y2 ⟨a2, c2, rfl, _, hb⟩; have T := Lib.hid (T.out.below hb); clear hb)
                | (go_at_call 21; refine (ins_at N j _ M P _ T.out.l hn6 HP.out).mono ?_; rintro e y3 ⟨a3, c3, rfl, _, hb⟩; rw [← HOI.out]; have T := Lib.hid (T.out.below hb); clear hb))
            go_wp2_with fail
            go_roundw
            case rel => exact ⟨j + 1, by go_num, by rw [HS1.out]; go_num, by omega, T.out⟩
            case measure => simp [intOf]; omega
          · have hjt' : ¬ (j : Int) < N := by omega
            obtain rfl : j = N := by omega
            have hall := osum_all hRG.in
            rw [hall]
            clear hall hso
            go_wp2_with fail
            refine (fixed_any _).mono ?_
            rintro e y9 ⟨rfl, hb⟩
            have T := Lib.hid (T.out.below hb)
            clear hb
            go_wp2_with fail
            go_ret
            exact ⟨rfl, T.out.bel⟩
  · have hrf : r = false := by
      cases r with
      | false => rfl
      | true => exact absurd (HR.out.1 rfl) hG
    subst hrf
    clear hG
    go_wp2_with fail
    refine (right_at N0 _ M false _ T.out.l HW.out HR.out).mono ?_
    rintro e x5 ⟨rfl, hb⟩
    have T := Lib.hid (T.out.below hb)
    clear hb z0 z1
    go_wp2_with fail
    refine (fixed_any _).mono ?_
    rintro e x6 ⟨rfl, hb⟩
    have T := Lib.hid (T.out.below hb)
    clear hb
    go_wp2_with fail
    go_ret
    exact ⟨rfl, T.out.bel⟩
end Go.Proofs.Ytndpgmndbdchaaa
