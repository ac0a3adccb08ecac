/- The walk of the law Dist. -/
import Derived.Test.YtndpgmndbdchaaaDa
import Derived.BigQuiet
import Derived.BigRegion
namespace Go.Proofs.Ytndpgmndbdchaaa
open Go.RowKit Go.PlainAid

set_option maxHeartbeats 2000000 in
set_option maxRecDepth 100000 in
theorem walkGraphDist (N0 : Int) (u0 : Value) (L0 : Lks) (p0 p1 : Int) (w : World) (wL0 : LinksAt w u0 L0) (wW0 : ∀ p ∈ L0, wfp p) (_w1 : (Lit.int .i64 p0).wf = true) (_w2 : (Lit.int .i64 p1).wf = true) :
    Calls Try.prog 5 #[.agg #[.int .i64 N0, u0], .int .i64 p0, .int .i64 p1] w fun e w' => e = .returned (.bool true) ∧ Below w.heap.size w w' := by
  obtain ⟨a, cap, hv⟩ := wL0.at
  subst hv
  have HL0 := Lib.hid wL0
  have HM := Lib.hid (linksAt_cut wL0)
  have hW := wf_take wW0
  have hMl := take_le L0
  obtain ⟨M, hMe⟩ : ∃ M, M = L0.take 40 := ⟨_, rfl⟩
  have HMe := Lib.hid hMe
  rw [← hMe] at HM hW hMl
  have HW := Lib.hid hW
  have hn6 : M.length ≤ 1000000 := by omega
  obtain ⟨r, hr⟩ := bool_of (RightG N0 M)
  have HR := Lib.hid hr
  clear wL0 wW0 hW hMe hr
  go_enter Try.func5, Try.ntmps5
  try simp only [List.append_eq, List.cons_append, List.nil_append]
  go_wp2_with fail
  refine (cut_at a cap L0 N0 _ (HL0.out.below (below_alloc _ _))).mono ?_
  rintro e x1 ⟨rfl, hb⟩
  rw [← HMe.out]
  simp only [gv]
  obtain ⟨hbox, x2, hx2, hK⟩ := law_box hb HM.out
  have q0 := hbox.1
  have q1 := hbox.2.1
  have q2 := hbox.2.2.1
  have q3 := hbox.2.2.2
  have T := Lib.hid hK
  have z0 := hK.b0
  have z1 := hK.b1
  clear hb hbox hK
  go_wp2_with fail
  rw [← hx2]
  clear hx2 q0 q1 q2 q3
  refine (ref_slice _ _ _ _ _).mono ?_
  rintro e x3 ⟨rfl, hb⟩
  have T := Lib.hid (T.out.below hb)
  clear hb z0 z1
  go_wp2_with fail
  refine (rright_at N0 _ M r _ T.out.l HR.out).mono ?_
  rintro e x4 ⟨rfl, hb⟩
  have T := Lib.hid (T.out.below hb)
  have z0 := T.out.b0
  have z1 := T.out.b1
  clear hb
  by_cases hG : RightG N0 M
  · have hrt : r = true := HR.out.2 hG
    subst hrt
    obtain ⟨N, rfl⟩ : ∃ N : Nat, N0 = (N : Int) := ⟨N0.toNat, by have := hG.1; omega⟩
    have hN1 : 1 ≤ N := by have := hG.1; omega
    have hN6 : N ≤ 6 := by have := hG.2.1; omega
    have hNi : ¬ (N : Int) = 0 := by omega
    obtain ⟨i0, a0, m0, t0, l0⟩ := node_of p0 N hN1
    obtain ⟨i1, a1, m1, t1, l1⟩ := node_of p1 N hN1
    obtain ⟨D, hD⟩ := isDist_ex N a0 M
    obtain ⟨E, hE⟩ := isDist_ex N a1 M
    have hself := dist_self l0 hD
    have hsym := dist_sym hG l0 l1 hD hE
    obtain ⟨db, hdb⟩ : ∃ db, db = D.getD a1 (-1) := ⟨_, rfl⟩
    rw [← hdb] at hsym
    have hno : (db != db) = false := by simp
    have HG := Lib.hid hG
    have HDx := Lib.hid hD
    have HEx := Lib.hid hE
    have HD0 := Lib.hid hD
    have HS := Lib.hid hself
    have HY := Lib.hid hsym
    have HDB := Lib.hid hdb
    have hr0 := hG.2.2.2.1.in
    have l0' : (a0 : Int) < N := by omega
    have l1' : (a1 : Int) < N := by omega
    have hmk := make_any N hN1 hN6
    clear hD hE hself hsym hdb hG
    go_wp2_with fail
    go_quiet (fail)
    have T := Lib.hid (T.out.below (below_drewN (Below.refl _ x4) nq))
    have z0 := T.out.b0
    have z1 := T.out.b1
    go_wp2_with fail
    obtain ⟨x5, hx5⟩ : ∃ x5, x5 = x4.drewN nq := ⟨_, rfl⟩
    rw [← hx5] at T z0 z1 ⊢
    clear hx5
    have T := Lib.hid (T.out.below (below_drewN (Below.refl _ x5) 1))
    go_region_held3 (fun w' => w'.cell? ⟨w.heap.size, 0, none⟩ = some (.int .i64 (N : Int)) ∧ w'.cell? ⟨w.heap.size, 1, none⟩ = some (.slice a M.length cap)) (exact ⟨T.out.b0, T.out.b1⟩)
      (first
        | (go_at_call 27; refine (distN_at N a0 _ M D _ T.out.l hr0 hN1 hN6 l0 hn6 HDx.out).mono ?_; rintro e y1 ⟨g1, o1, c1, rfl, hI, hb⟩; have T := Lib.hid (T.out.below hb); have I1 := Lib.hid hI; have HDx := Lib.hid trivial; clear hb hI)
        | (go_at_call 27; refine (distN_at N a1 _ M E _ T.out.l hr0 hN1 hN6 l1 hn6 HEx.out).mono ?_; rintro e y2 ⟨g2, o2, c2, rfl, hI, hb⟩; have T := Lib.hid (T.out.below hb); have I1 := Lib.hid (I1.out.below hb); have I2 := Lib.hid hI; clear hb hI))
    obtain ⟨x6, hx6⟩ : ∃ x6, x6 = y2 := ⟨_, rfl⟩
    rw [← hx6] at T I1 I2 ⊢
    clear hx6
    have z0 := T.out.b0
    have z1 := T.out.b1
    have C1 : x6.cell? ⟨g1, o1 + a0, none⟩ = some (.int .i64 0) := by rw [← HS.out]; exact I1.out.cell HD0.out.1 l0
    have C2 : x6.cell? ⟨g1, o1 + a1, none⟩ = some (.int .i64 db) := by rw [HDB.out]; exact I1.out.cell HD0.out.1 l1
    have C3 : x6.cell? ⟨g2, o2 + a0, none⟩ = some (.int .i64 db) := by rw [HY.out]; exact I2.out.cell HEx.out.1 l0
    go_wp2_with fail
    go_quiet (fail)
    have T := Lib.hid (T.out.below (below_drewN (Below.refl _ x6) nq))
    have I1 := Lib.hid (I1.out.below (below_drewN (Below.refl _ x6) nq))
    have z0 := T.out.b0
    have z1 := T.out.b1
    clear C1 C2 C3
    obtain ⟨x7, hx7⟩ : ∃ x7, x7 = x6.drewN nq := ⟨_, rfl⟩
    rw [← hx7] at T I1 z0 z1 ⊢
    clear hx7
    have HNt := Lib.hid (NAt.new x7 N)
    have gz0 := (T.out.below HNt.out.bel).b0
    go_wp2_with fail
    clear hmk
    obtain ⟨x8, hx8⟩ : ∃ x8, x8 = x7.alloc (.cells (bvs (List.replicate N false)).toArray 4) := ⟨_, rfl⟩
    rw [← hx8] at HNt gz0 ⊢
    clear hx8
    go_loopw [12] (fun i wr => ∃ (B : List Bool) (m : Nat), i = .int .i64 m ∧ m ≤ M.length ∧ B.length = N ∧ NearTo D M B m ∧ NAt x7 wr B) (fun i _ => M.length - (intOf i).toNat)
    case atStart => exact ⟨_, 0, rfl, by omega, by simp, fun l hl => by omega, HNt.out⟩
    case round =>
      obtain ⟨B, m, rfl, hm, hBl, hNr, hNA⟩ := hrel
      obtain ⟨wo, hwo⟩ : ∃ wo, wo = wr := ⟨_, rfl⟩
      rw [← hwo] at hNA ⊢
      clear hwo
      have K := Lib.hid (T.out.below hNA.bel)
      have J := Lib.hid (I1.out.below hNA.bel)
      have HNA := Lib.hid hNA
      have HNr := Lib.hid hNr
      have z0 := K.out.b0
      have z1 := K.out.b1
      have HBl := Lib.hid hBl
      clear hNA hNr hBl
      by_cases hmt : m < M.length
      · have hmt' : (m : Int) < M.length := by omega
        have hr := hr0 _ (lk_mem hmt)
        obtain ⟨x, hx⟩ : ∃ x : Nat, (lk M m).1 = (x : Int) := ⟨(lk M m).1.toNat, by omega⟩
        obtain ⟨y, hy⟩ : ∃ y : Nat, (lk M m).2 = (y : Int) := ⟨(lk M m).2.toNat, by omega⟩
        have hxk : x < N := by omega
        have hyk : y < N := by omega
        have hxk' : (x : Int) < N := by omega
        have hyk' : (y : Int) < N := by omega
        have hxy : ((x : Int), (y : Int)) ∈ M := by have := lk_mem hmt; rw [← hx, ← hy]; exact this
        have hst := dist_step HG.out l0 hxk hyk HD0.out hxy
        have hnx := dist_nn HG.out l0 hxk HD0.out
        have hny := dist_nn HG.out l0 hyk HD0.out
        obtain ⟨dx, hdx⟩ : ∃ dx, dx = D.getD x (-1) := ⟨_, rfl⟩
        obtain ⟨dy, hdy⟩ : ∃ dy, dy = D.getD y (-1) := ⟨_, rfl⟩
        have xc := J.out.cell HD0.out.1 hxk
        have yc := J.out.cell HD0.out.1 hyk
        rw [← hdx] at xc hst hnx
        rw [← hdy] at yc hst hny
        have hyB : y < B.length := by rw [HBl.out]; exact hyk
        have nc := HNA.out.cell hyB
        have nf := HNA.out.free y
        obtain ⟨β, hβ⟩ : ∃ β, β = B.getD y false := ⟨_, rfl⟩
        rw [← hβ] at nc
        have hw1 : IntKind.i64.wrap (dx + 1) = dx + 1 := IntWalk.i64_in _ (by omega)
        have hw2 : IntKind.i64.wrap (dy - 1) = dy - 1 := IntWalk.i64_in _ (by omega)
        have k1 : decide (dx + 1 < dy) = false := decide_eq_false (by omega)
        have k2 : decide (dx < 0) = false := decide_eq_false (by omega)
        have k3 : decide ((N : Int) ≤ dx) = false := decide_eq_false (by omega)
        have k1' : ¬ dx + 1 < dy := by omega
        have k2' : ¬ dx < 0 := by omega
        have k3' : ¬ (N : Int) ≤ dx := by omega
        obtain ⟨γ, hγ⟩ : ∃ γ, (dx == dy - 1) = γ := ⟨_, rfl⟩
        have HNx := Lib.hid (show ∀ b : Bool, (β = true → b = true) → (γ = true → b = true) → NearTo D M (B.set y b) (m + 1) from fun b q1 q2 => by
          have h := HNr.out.next (b := b) (by rw [hy, Int.toNat_natCast]; exact hyB) (by rw [hy, Int.toNat_natCast, ← hβ]; exact q1) (by
            rw [hx, hy]; unfold dAt; rw [Int.toNat_natCast, Int.toNat_natCast, ← hdx, ← hdy]
            intro e; exact q2 (by rw [← hγ]; simpa using e))
          rw [hy, Int.toNat_natCast] at h
          exact h)
        rcases id K.out.l with ⟨a0', cap0, e0', e1'⟩ | ⟨lb, lo, llen, lcap, e0', f1, f2, f3, f4, f5⟩
        · rw [e1'] at hmt; simp at hmt
        · simp only [Value.slice.injEq] at e0'
          obtain ⟨rfl, e0b, rfl⟩ := e0'
          obtain ⟨lc1, lc2⟩ := f5 m (by omega)
          rw [hx] at lc1
          rw [hy] at lc2
          have HDX := Lib.hid hdx
          have HDY := Lib.hid hdy
          have HyB := Lib.hid hyB
          have Hβ := Lib.hid hβ
          clear f1 f5 e0b f2 f4 hst hnx hny hr hx hy hxy hdx hdy hyB hβ
          go_wp2_with fail
          go_quiet (fail)
          have q1 := Lib.hid (show Below wo.heap.size wo (wo.drewN nq) from below_drewN (Below.refl _ wo) nq)
          go_wp2_with fail
          obtain ⟨w2, hw2'⟩ : ∃ w2, w2 = wo.drewN nq := ⟨_, rfl⟩
          rw [← hw2'] at q1 ⊢
          have HNA := Lib.hid (HNA.out.below q1.out)
          have K := Lib.hid (K.out.below q1.out)
          have J := Lib.hid (J.out.below q1.out)
          have hw2n := hw2'
          clear hw2'
          have z0 := K.out.b0
          have z1 := K.out.b1
          have xc := (J.out.cell HD0.out.1 hxk).trans (by rw [← HDX.out])
          have yc := (J.out.cell HD0.out.1 hyk).trans (by rw [← HDY.out])
          clear hw2n lc1 lc2 nc nf
          go_quiet (fail)
          have q2 := Lib.hid (show Below w2.heap.size w2 (w2.drewN nq) from below_drewN (Below.refl _ w2) nq)
          go_wp2_with fail
          obtain ⟨w3, hw3⟩ : ∃ w3, w3 = w2.drewN nq := ⟨_, rfl⟩
          rw [← hw3] at q2 ⊢
          have HNA := Lib.hid (HNA.out.below q2.out)
          have K := Lib.hid (K.out.below q2.out)
          have J := Lib.hid (J.out.below q2.out)
          clear hw3
          have z0 := K.out.b0
          have z1 := K.out.b1
          have xc := (J.out.cell HD0.out.1 hxk).trans (by rw [← HDX.out])
          have yc := (J.out.cell HD0.out.1 hyk).trans (by rw [← HDY.out])
          have nc := (HNA.out.cell HyB.out).trans (by rw [← Hβ.out])
          have nf := HNA.out.free y
          cases β with
          | true =>
            go_region
            have HN5 := Lib.hid (show NAt x7 (w3.setCell ⟨x7.heap.size, y, none⟩ (.bool true)).drew (B.set y true) from (HNA.out.set y true).below (below_drewN (Below.refl _ _) 1))
            go_wp2_with fail
            go_roundw
            case rel => exact ⟨_, m + 1, by go_num, by omega, by rw [List.length_set]; exact HBl.out, HNx.out true (fun _ => rfl) (fun _ => rfl), HN5.out⟩
            case measure => simp [intOf]; omega
          | false =>
            go_region
            have HN5 := Lib.hid (show NAt x7 (w3.setCell ⟨x7.heap.size, y, none⟩ (.bool γ)).drew (B.set y γ) from (HNA.out.set y γ).below (below_drewN (Below.refl _ _) 1))
            go_wp2_with fail
            go_roundw
            case rel => exact ⟨_, m + 1, by go_num, by omega, by rw [List.length_set]; exact HBl.out, HNx.out γ (fun h => absurd h (by decide)) (fun h => h), HN5.out⟩
            case measure => simp [intOf]; omega
      · have hmt' : ¬ (m : Int) < M.length := by omega
        obtain rfl : m = M.length := by omega
        go_wp2_with fail
        go_loopw [15] (fun i wr => ∃ j : Nat, i = .int .i64 j ∧ j ≤ N ∧ NAt x7 wr B) (fun i _ => N - (intOf i).toNat)
        case atStart => exact ⟨0, rfl, by omega, HNA.out⟩
        case round =>
          obtain ⟨j, rfl, hj, hNA⟩ := hrel
          obtain ⟨wp, hwp⟩ : ∃ wp, wp = wr := ⟨_, rfl⟩
          rw [← hwp] at hNA ⊢
          clear hwp
          have K := Lib.hid (T.out.below hNA.bel)
          have J := Lib.hid (I1.out.below hNA.bel)
          have HNA := Lib.hid hNA
          have z0 := K.out.b0
          have z1 := K.out.b1
          by_cases hjt : j < N
          · have hjt' : (j : Int) < N := by omega
            by_cases hja : j = a0
            · subst hja
              clear hNA
              have e2 : ((j : Int) != (j : Int)) = false := by simp
              go_wp2_with fail
              go_roundw
              case rel => exact ⟨j + 1, by go_num, by omega, HNA.out⟩
              case measure => simp [intOf]; omega
            · obtain ⟨hd1, m, hm1, hm2, hm3⟩ := dist_near HG.out l0 hjt hja HD0.out
              have hnt := HNr.out m hm1 hm3
              rw [hm2, Int.toNat_natCast] at hnt
              have dc := J.out.cell HD0.out.1 hjt
              obtain ⟨dj, hdj⟩ : ∃ dj, dj = D.getD j (-1) := ⟨_, rfl⟩
              rw [← hdj] at dc hd1
              have nc := hNA.cell (y := j) (by rw [HBl.out]; exact hjt)
              rw [hnt] at nc
              have k1 : decide (dj < 1) = false := decide_eq_false (by omega)
              have k1' : ¬ dj < 1 := by omega
              have e1 : ((j : Int) == (a0 : Int)) = false := by simp; omega
              have e2 : ((j : Int) != (a0 : Int)) = true := by simp; omega
              have e3 : ¬ (j : Int) = (a0 : Int) := by omega
              clear hNA hm1 hm2 hm3 hnt hdj
              go_wp2_with fail
              go_roundw
              case rel => exact ⟨j + 1, by go_num, by omega, HNA.out⟩
              case measure => simp [intOf]; omega
          · have hjt' : ¬ (j : Int) < N := by omega
            clear hNA
            go_wp2_with fail
            refine (fixed_any _).mono ?_
            rintro e y9 ⟨rfl, hb⟩
            have K := Lib.hid (K.out.below hb)
            clear hb
            go_wp2_with fail
            go_ret
            exact ⟨rfl, K.out.bel⟩
  · have hrf : r = false := by
      cases r with
      | false => rfl
      | true => exact absurd (HR.out.1 rfl) hG
    subst hrf
    clear hG
    go_wp2_with fail
    refine (right_at N0 _ M false _ T.out.l HW.out HR.out).mono ?_
    rintro e x5 ⟨rfl, hb⟩
    have T := Lib.hid (T.out.below hb)
    clear hb z0 z1
    go_wp2_with fail
    refine (fixed_any _).mono ?_
    rintro e x6 ⟨rfl, hb⟩
    have T := Lib.hid (T.out.below hb)
    clear hb
    go_wp2_with fail
    go_ret
    exact ⟨rfl, T.out.bel⟩
end Go.Proofs.Ytndpgmndbdchaaa
