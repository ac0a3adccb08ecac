/- The walk of the law Less. -/
import Derived.Test.YtndpgmndbdchaaaLa
import Derived.BigQuiet
namespace Go.Proofs.Ytndpgmndbdchaaa
open Go.RowKit Go.PlainAid

set_option maxHeartbeats 1000000 in
set_option maxRecDepth 100000 in
theorem walkGraphLess (N0 : Int) (u0 : Value) (L0 : Lks) (p0 p1 p2 : Int) (w : World) (wL0 : LinksAt w u0 L0) (wW0 : ∀ p ∈ L0, wfp p) (_w1 : (Lit.int .i64 p0).wf = true) (_w2 : (Lit.int .i64 p1).wf = true) (_w3 : (Lit.int .i64 p2).wf = true) :
    Calls Try.prog 6 #[.agg #[.int .i64 N0, u0], .agg #[.int .i64 p0, .int .i64 p1, .int .i64 p2]] w fun e w' => e = .returned (.bool true) ∧ Below w.heap.size w w' := by
  obtain ⟨a, cap, hv⟩ := wL0.at
  subst hv
  have HL0 := Lib.hid wL0
  have HM := Lib.hid (linksAt_cut wL0)
  have hW := wf_take wW0
  have hMl := take_le L0
  obtain ⟨M, hMe⟩ : ∃ M, M = L0.take 40 := ⟨_, rfl⟩
  have HMe := Lib.hid hMe
  rw [← hMe] at HM hW hMl
  have HW := Lib.hid hW
  have hn6 : M.length ≤ 1000000 := by omega
  obtain ⟨r, hr⟩ := bool_of (RightG N0 M)
  have HR := Lib.hid hr
  clear wL0 wW0 hW hMe hr
  go_enter Try.func6, Try.ntmps6
  try simp only [List.append_eq, List.cons_append, List.nil_append]
  go_wp2_with fail
  refine (cut_at a cap L0 N0 _ ((HL0.out.below (below_alloc _ _)).below (below_alloc _ _))).mono ?_
  rintro e x1 ⟨rfl, hb⟩
  rw [← HMe.out]
  simp only [gv]
  obtain ⟨hbox, x2, hx2, hK⟩ := law_box3 hb HM.out
  have q0 := hbox.1
  have q1 := hbox.2.1
  have q2 := hbox.2.2.1
  have q3 := hbox.2.2.2
  have T := Lib.hid hK
  have z0 := hK.b0
  have z1 := hK.b1
  clear hb hbox hK
  go_wp2_with fail
  rw [← hx2]
  clear hx2 q0 q1 q2 q3
  refine (ref_slice _ _ _ _ _).mono ?_
  rintro e x3 ⟨rfl, hb⟩
  have T := Lib.hid (T.out.below hb)
  clear hb z0 z1
  go_wp2_with fail
  refine (rright_at N0 _ M r _ T.out.l HR.out).mono ?_
  rintro e x4 ⟨rfl, hb⟩
  have T := Lib.hid (T.out.below hb)
  have z0 := T.out.b0
  have z1 := T.out.b1
  clear hb
  by_cases hG : RightG N0 M
  · have hrt : r = true := HR.out.2 hG
    subst hrt
    obtain ⟨N, rfl⟩ : ∃ N : Nat, N0 = (N : Int) := ⟨N0.toNat, by have := hG.1; omega⟩
    have hN1 : 1 ≤ N := by have := hG.1; omega
    have hN6 : N ≤ 6 := by have := hG.2.1; omega
    have hNi : ¬ (N : Int) = 0 := by omega
    obtain ⟨i0, hi0, hz0, hz1, hz2⟩ := info_parts infoPair
    obtain ⟨i1, a1, m1, t1, l1⟩ := node_of p1 N hN1
    obtain ⟨i2, a2, m2, t2, l2⟩ := node_of p2 N hN1
    have l1' : (a1 : Int) < N := by omega
    have l2' : (a2 : Int) < N := by omega
    have HG := Lib.hid hG
    have v0 := T.out.n0
    have v1 := T.out.n1
    have v2 := T.out.n2
    have m30 := hG.2.2.1
    clear hG
    by_cases hM : 0 < M.length
    · have hMi : (0 : Int) < M.length := by omega
      have hMn : ¬ (M.length : Int) = 0 := by omega
      obtain ⟨ik, k, mk, tk, lk'⟩ := node_of p0 M.length hM
      have lki : (k : Int) < M.length := by omega
      have hwk : IntKind.i64.wrap ((k : Int) + 1) = (k : Int) + 1 := IntWalk.i64_in _ (by omega)
      rcases id T.out.l with ⟨a0', cap0, e0', e1'⟩ | ⟨lb, lo, llen, lcap, e0', f1, f3, f4x, f2, f5⟩
      · rw [e1'] at hM; simp at hM
      · simp only [Value.slice.injEq] at e0'
        obtain ⟨rfl, rfl, rfl⟩ := e0'
        clear f1
        have hkc : k ≤ cap := by omega
        have hkc' : (k : Int) ≤ cap := by omega
        have hk1 : (k : Int) + 1 ≤ M.length := by omega
        have T := Lib.hid T.out
        have hLM := T.out.l
        have HLM := Lib.hid hLM
        have HLt := Lib.hid (LinksAt.take rfl f4x f2 f5 k (by omega))
        obtain ⟨ad2, had⟩ : ∃ ad2, (if cap = k + 1 then some (⟨lb, lo, none⟩ : Addr) else some ⟨lb, lo + (k + 1) * 2, none⟩) = ad2 := ⟨_, rfl⟩
        have HLd := Lib.hid (show LinksAt x4 (.slice ad2 (M.length - (k + 1)) (cap - (k + 1))) (M.drop (k + 1)) from by
          rw [← had]
          split
          · next hc => exact .inl ⟨_, _, by rw [show M.length - (k + 1) = 0 by omega], List.drop_eq_nil_of_le (by omega)⟩
          · exact LinksAt.drop rfl f4x f5 (k + 1) (by omega) _ _ rfl (by omega))
        have y1 : (x4.alloc (.cells #[] 43)).cell? ⟨w.heap.size, 1, none⟩ = some (.slice (some ⟨lb, lo, none⟩) M.length cap) := (T.out.below (below_alloc x4 _)).b1
        have HCL := Lib.hid (show ∀ w', K3At w N (.slice (some ⟨lb, lo, none⟩) M.length cap) M p0 p1 p2 w' → w'.cell? ⟨lb, lo + k * 2, none⟩ = some (.int .i64 (lk M k).1) ∧ w'.cell? ⟨lb, lo + k * 2 + 1, none⟩ = some (.int .i64 (lk M k).2) from fun w' hK => by
          rcases hK.l with ⟨a0, c0, e0, e1⟩ | ⟨lb', lo', llen', lcap', e0, g1, g2, g3, g4, g5⟩
          · rw [e1] at hM; simp at hM
          · simp only [Value.slice.injEq, Option.some.injEq, Addr.mk.injEq] at e0
            obtain ⟨⟨rfl, rfl, _⟩, rfl, rfl⟩ := e0
            exact g5 k lk')
        clear hLM f5
        go_wp2_with (at_builtin; refine app_any rfl _ _ rfl x4 _ [] (M.take k) 0 k k rfl ?c1 (Nat.zero_add k) rfl (Row.new x4) (some ⟨lb, lo, none⟩) cap rfl ?c2 ?c3 ?_)
        case c1 => rw [List.length_take]; omega
        case c2 => exact HLt.out.below (below_alloc _ _)
        case c3 => omega
        have TX := T
        intro ao1 cv1 w1 hr1
        have R1 := Lib.hid hr1
        have T := Lib.hid (T.out.below hr1.bel)
        have z0 := T.out.b0
        have z1 := T.out.b1
        clear y1 hr1
        have hlk : M.length = k + 1 + (M.length - (k + 1)) := by omega
        obtain ⟨m2, hm2⟩ : ∃ m2, m2 = M.length - (k + 1) := ⟨_, rfl⟩
        obtain ⟨c2, hc2⟩ : ∃ c2, c2 = cap - (k + 1) := ⟨_, rfl⟩
        rw [← hm2, ← hc2] at HLd
        have hm2' := hm2.symm
        have hc2' := hc2.symm
        have Hm2 := Lib.hid hm2
        clear hlk hm2 hc2
        go_wp2_with (at_builtin; refine app_any rfl _ _ rfl x4 _ (M.take k) (M.drop (k + 1)) k m2 (k + m2) ?c1 ?c2 rfl rfl R1.out ad2 c2 rfl ?c3 ?c4 ?_)
        case c1 => rw [List.length_take]; omega
        case c2 => rw [List.length_drop, Hm2.out]
        case c3 => exact HLd.out.below R1.out.bel
        case c4 => have := Hm2.out; omega
        intro ao2 cv2 w2 hr2
        have R2 := Lib.hid hr2
        have T := Lib.hid (TX.out.below hr2.bel)
        have z0 := T.out.b0
        have z1 := T.out.b1
        have hlen2 : (M.take k ++ M.drop (k + 1)).length = k + m2 := by
          have := Hm2.out
          rw [List.length_append, List.length_take, List.length_drop]; omega
        have TW2 := T
        have HL2 := Lib.hid hr2.links
        have HLW := HL2
        have HN2 := Lib.hid (show (M.take k ++ M.drop (k + 1)).length = k + m2 from hlen2)
        clear hr2 hlen2 hm2' hc2' had
        have y1 : (w2.alloc (.cells #[] 43)).cell? ⟨w.heap.size, 1, none⟩ = some (.slice (some ⟨lb, lo, none⟩) M.length cap) := (T.out.below (below_alloc w2 _)).b1
        go_wp2_with (at_builtin; refine app_any rfl _ _ rfl w2 _ [] M 0 M.length M.length rfl rfl (Nat.zero_add _) rfl (Row.new w2) (some ⟨lb, lo, none⟩) cap rfl ?c1 ?c2 ?_)
        case c1 => exact T.out.l.below (below_alloc _ _)
        case c2 => omega
        intro ao3 cv3 w3 hr3
        have R3 := Lib.hid hr3
        have T := Lib.hid (T.out.below hr3.bel)
        have HL2 := Lib.hid (HL2.out.below hr3.bel)
        have z0 := T.out.b0
        have z1 := T.out.b1
        obtain ⟨x, hx⟩ : ∃ x, (lk M k).1 = x := ⟨_, rfl⟩
        obtain ⟨y, hy⟩ : ∃ y, (lk M k).2 = y := ⟨_, rfl⟩
        have hxy := HCL.out w3 T.out
        rw [hx, hy] at hxy
        obtain ⟨lc1, lc2⟩ := hxy
        have Hxy := Lib.hid (show lk M k = (x, y) from by rw [← hx, ← hy])
        clear hr3 y1 hx hy
        go_wp2_with (at_builtin; refine app_any rfl _ _ rfl w2 _ ([] ++ M) [(x, y)] M.length 1 (M.length + 1) rfl rfl rfl rfl (R3.out.alloc _) (some ⟨w3.heap.size, 0, none⟩) 1 rfl ?c1 ?c2 ?_)
        case c1 => exact links_new w3 43 [(x, y)] (by simp)
        case c2 => omega
        intro ao4 cv4 w4 hr4
        have R4 := Lib.hid hr4
        have T := Lib.hid (TW2.out.below hr4.bel)
        have HL2 := Lib.hid (HLW.out.below hr4.bel)
        have z0 := T.out.b0
        have z1 := T.out.b1
        have HW2 := Lib.hid (show ∀ p ∈ M.take k ++ M.drop (k + 1), wfp p from fun p hp => by
          rcases List.mem_append.1 hp with g | g
          · exact HW.out p (List.mem_of_mem_take g)
          · exact HW.out p (List.mem_of_mem_drop g))
        have HW4 := Lib.hid (show ∀ p ∈ [] ++ M ++ [(x, y)], wfp p from fun p hp => by
          have hp' : p ∈ M ∨ p = (x, y) := by simpa using hp
          rcases hp' with g | rfl
          · exact HW.out p g
          · rw [← Hxy.out]; exact HW.out _ (lk_mem lk'))
        have HF2 := Lib.hid (show false = true ↔ RightG (N : Int) (M.take k ++ M.drop (k + 1)) from ⟨fun h => absurd h (by decide), fun h => absurd h (less_not HG.out lk')⟩)
        have HF4 := Lib.hid (show false = true ↔ RightG (N : Int) ([] ++ M ++ [(x, y)]) from ⟨fun h => absurd h (by decide), fun h => absurd h (by
          have := twice_not (N := (N : Int)) (M := M) lk'
          rw [Hxy.out] at this; exact this)⟩)
        clear hr4 lc1 lc2
        go_wp2_with fail
        refine (right_at N _ _ false _ HL2.out HW2.out HF2.out).mono ?_
        rintro e x7 ⟨rfl, hb⟩
        have T := Lib.hid (T.out.below hb)
        have HL4 := Lib.hid (R4.out.links.below hb)
        have z0 := T.out.b0
        have z1 := T.out.b1
        clear hb
        go_wp2_with fail
        refine (right_at N _ _ false _ HL4.out HW4.out HF4.out).mono ?_
        rintro e x8 ⟨rfl, hb⟩
        have T := Lib.hid (T.out.below hb)
        clear hb
        have z0 := T.out.b0
        have z1 := T.out.b1
        have v1 := T.out.n1
        have v2 := T.out.n2
        go_wp2_with fail
        go_quiet (fail)
        have T := Lib.hid (T.out.below (below_drewN (Below.refl _ x8) nq))
        obtain ⟨w6, hw6⟩ : ∃ w6, w6 = x8.drewN nq := ⟨_, rfl⟩
        rw [← hw6] at T ⊢
        clear hw6 v1 v2
        have z0 := T.out.b0
        have z1 := T.out.b1
        have y1 : (w6.alloc (.cells #[] 43)).cell? ⟨w.heap.size, 1, none⟩ = some (.slice (some ⟨lb, lo, none⟩) M.length cap) := (T.out.below (below_alloc w6 _)).b1
        go_wp2_with (at_builtin; refine app_any rfl _ _ rfl w6 _ [] M 0 M.length M.length rfl rfl (Nat.zero_add _) rfl (Row.new w6) (some ⟨lb, lo, none⟩) cap rfl ?c1 ?c2 ?_)
        case c1 => exact T.out.l.below (below_alloc _ _)
        case c2 => omega
        intro ao5 cv5 w7 hr5
        have R5 := Lib.hid hr5
        clear hr5 y1 z0 z1
        go_wp2_with (at_builtin; refine app_any rfl _ _ rfl w6 _ ([] ++ M) [((a1 : Int), (a2 : Int))] M.length 1 (M.length + 1) rfl rfl rfl rfl (R5.out.alloc _) (some ⟨w7.heap.size, 0, none⟩) 1 rfl ?c1 ?c2 ?_)
        case c1 => exact links_new w7 43 [((a1 : Int), (a2 : Int))] (by simp)
        case c2 => omega
        intro ao6 cv6 w8 hr6
        have R6 := Lib.hid hr6
        clear hr6
        go_wp2_with (at_builtin; refine app_any rfl _ _ rfl w6 _ ([] ++ M ++ [((a1 : Int), (a2 : Int))]) [((a2 : Int), (a1 : Int))] (M.length + 1) 1 (M.length + 2) (by simp) rfl rfl rfl (R6.out.alloc _) (some ⟨w8.heap.size, 0, none⟩) 1 rfl ?c1 ?c2 ?_)
        case c1 => exact links_new w8 43 [((a2 : Int), (a1 : Int))] (by simp)
        case c2 => omega
        intro ao7 cv7 w9 hr7
        have HL7 := Lib.hid (show LinksAt w9 (.slice ao7 (M.length + 2) cv7) ([] ++ M ++ [((a1 : Int), (a2 : Int))] ++ [((a2 : Int), (a1 : Int))]) from by have := hr7.links; simpa using this)
        have T := Lib.hid (T.out.below hr7.bel)
        have z0 := T.out.b0
        have z1 := T.out.b1
        clear hr7
        have hmore : RightG (N : Int) ([] ++ M ++ [((a1 : Int), (a2 : Int))] ++ [((a2 : Int), (a1 : Int))]) ↔ a1 ≠ a2 ∧ ((a1 : Int), (a2 : Int)) ∉ M := more_iff HG.out l1 l2
        obtain ⟨ρ, hρ⟩ := bool_of (RightG N ([] ++ M ++ [((a1 : Int), (a2 : Int))] ++ [((a2 : Int), (a1 : Int))]))
        have HW7 := Lib.hid (show ∀ p ∈ [] ++ M ++ [((a1 : Int), (a2 : Int))] ++ [((a2 : Int), (a1 : Int))], wfp p from wfSmall fun p hp => by
          have hi : p ∈ M ∨ p = ((a1 : Int), (a2 : Int)) ∨ p = ((a2 : Int), (a1 : Int)) := by simpa [or_assoc] using hp
          rcases hi with g | rfl | rfl
          · have := HG.out.2.2.2.1.in p g; omega
          · simp; omega
          · simp; omega)
        obtain ⟨q, hq⟩ : ∃ q, findL M ((a1 : Int), (a2 : Int)) = q := ⟨_, rfl⟩
        have hqn := findL_neg (L := M) (p := ((a1 : Int), (a2 : Int)))
        rw [hq] at hqn
        have HQ := Lib.hid hq
        have Hρ := Lib.hid hρ
        have hrr : (ρ == ρ) = true := by simp
        have hm' : ρ = true ↔ a1 ≠ a2 ∧ q < 0 := by rw [hρ, hmore, hqn]
        clear hq hqn hmore hρ
        by_cases hab : a1 = a2
        · have hab' : ((a1 : Int) != (a2 : Int)) = false := by rw [hab]; simp
          have hρf : ρ = false := by
            cases ρ with
            | false => rfl
            | true => exact absurd hab (hm'.1 rfl).1
          rw [hρf] at Hρ
          clear hm' hrr hab
          go_wp2_with fail
          refine (right_at N _ _ false _ HL7.out HW7.out Hρ.out).mono ?_
          rintro e w10 ⟨rfl, hb⟩
          have T := Lib.hid (T.out.below hb)
          have z0 := T.out.b0
          have z1 := T.out.b1
          clear hb
          go_wp2_with fail
          refine (fixed_any _).mono ?_
          rintro e w11 ⟨rfl, hb⟩
          have T := Lib.hid (T.out.below hb)
          clear hb
          go_wp2_with fail
          go_ret
          exact ⟨rfl, T.out.bel⟩
        · have hab' : ((a1 : Int) != (a2 : Int)) = true := by simp; omega
          have hqr : decide (q < 0) = ρ := by
            rw [Bool.eq_iff_iff, decide_eq_true_iff, hm']
            exact ⟨fun h => ⟨hab, h⟩, fun h => h.2⟩
          have hab2 : ¬ (a1 : Int) = (a2 : Int) := by omega
          clear hm' hab
          go_wp2_with fail
          refine (right_at N _ _ ρ _ HL7.out HW7.out Hρ.out).mono ?_
          rintro e w10 ⟨rfl, hb⟩
          have T := Lib.hid (T.out.below hb)
          have z0 := T.out.b0
          have z1 := T.out.b1
          clear hb
          go_wp2_with fail
          refine (find_at N a1 a2 q _ M _ T.out.l hn6 HQ.out).mono ?_
          rintro e w11 ⟨rfl, hb⟩
          have T := Lib.hid (T.out.below hb)
          clear hb
          go_wp2_with fail
          refine (fixed_any _).mono ?_
          rintro e w12 ⟨rfl, hb⟩
          have T := Lib.hid (T.out.below hb)
          clear hb
          go_wp2_with fail
          go_ret
          exact ⟨rfl, T.out.bel⟩
    · have hMi : ¬ (0 : Int) < M.length := by omega
      have z0 := T.out.b0
      have z1 := T.out.b1
      have v1 := T.out.n1
      have v2 := T.out.n2
      go_wp2_with fail
      go_quiet (fail)
      have T := Lib.hid (T.out.below (below_drewN (Below.refl _ x4) nq))
      obtain ⟨w6, hw6⟩ : ∃ w6, w6 = x4.drewN nq := ⟨_, rfl⟩
      rw [← hw6] at T ⊢
      clear hw6 v1 v2
      have z0 := T.out.b0
      have z1 := T.out.b1
      have y1 : (w6.alloc (.cells #[] 43)).cell? ⟨w.heap.size, 1, none⟩ = some (.slice a M.length cap) := (T.out.below (below_alloc w6 _)).b1
      go_wp2_with (at_builtin; refine app_any rfl _ _ rfl w6 _ [] M 0 M.length M.length rfl rfl (Nat.zero_add _) rfl (Row.new w6) a cap rfl ?c1 ?c2 ?_)
      case c1 => exact T.out.l.below (below_alloc _ _)
      case c2 => omega
      intro ao5 cv5 w7 hr5
      have R5 := Lib.hid hr5
      clear hr5 y1 z0 z1
      go_wp2_with (at_builtin; refine app_any rfl _ _ rfl w6 _ ([] ++ M) [((a1 : Int), (a2 : Int))] M.length 1 (M.length + 1) rfl rfl rfl rfl (R5.out.alloc _) (some ⟨w7.heap.size, 0, none⟩) 1 rfl ?c1 ?c2 ?_)
      case c1 => exact links_new w7 43 [((a1 : Int), (a2 : Int))] (by simp)
      case c2 => omega
      intro ao6 cv6 w8 hr6
      have R6 := Lib.hid hr6
      clear hr6
      go_wp2_with (at_builtin; refine app_any rfl _ _ rfl w6 _ ([] ++ M ++ [((a1 : Int), (a2 : Int))]) [((a2 : Int), (a1 : Int))] (M.length + 1) 1 (M.length + 2) (by simp) rfl rfl rfl (R6.out.alloc _) (some ⟨w8.heap.size, 0, none⟩) 1 rfl ?c1 ?c2 ?_)
      case c1 => exact links_new w8 43 [((a2 : Int), (a1 : Int))] (by simp)
      case c2 => omega
      intro ao7 cv7 w9 hr7
      have HL7 := Lib.hid (show LinksAt w9 (.slice ao7 (M.length + 2) cv7) ([] ++ M ++ [((a1 : Int), (a2 : Int))] ++ [((a2 : Int), (a1 : Int))]) from by have := hr7.links; simpa using this)
      have T := Lib.hid (T.out.below hr7.bel)
      have z0 := T.out.b0
      have z1 := T.out.b1
      clear hr7
      have hmore : RightG (N : Int) ([] ++ M ++ [((a1 : Int), (a2 : Int))] ++ [((a2 : Int), (a1 : Int))]) ↔ a1 ≠ a2 ∧ ((a1 : Int), (a2 : Int)) ∉ M := more_iff HG.out l1 l2
      obtain ⟨ρ, hρ⟩ := bool_of (RightG N ([] ++ M ++ [((a1 : Int), (a2 : Int))] ++ [((a2 : Int), (a1 : Int))]))
      have HW7 := Lib.hid (show ∀ p ∈ [] ++ M ++ [((a1 : Int), (a2 : Int))] ++ [((a2 : Int), (a1 : Int))], wfp p from wfSmall fun p hp => by
        have hi : p ∈ M ∨ p = ((a1 : Int), (a2 : Int)) ∨ p = ((a2 : Int), (a1 : Int)) := by simpa [or_assoc] using hp
        rcases hi with g | rfl | rfl
        · have := HG.out.2.2.2.1.in p g; omega
        · simp; omega
        · simp; omega)
      obtain ⟨q, hq⟩ : ∃ q, findL M ((a1 : Int), (a2 : Int)) = q := ⟨_, rfl⟩
      have hqn := findL_neg (L := M) (p := ((a1 : Int), (a2 : Int)))
      rw [hq] at hqn
      have HQ := Lib.hid hq
      have Hρ := Lib.hid hρ
      have hrr : (ρ == ρ) = true := by simp
      have hm' : ρ = true ↔ a1 ≠ a2 ∧ q < 0 := by rw [hρ, hmore, hqn]
      clear hq hqn hmore hρ
      by_cases hab : a1 = a2
      · have hab' : ((a1 : Int) != (a2 : Int)) = false := by rw [hab]; simp
        have hρf : ρ = false := by
          cases ρ with
          | false => rfl
          | true => exact absurd hab (hm'.1 rfl).1
        rw [hρf] at Hρ
        clear hm' hrr hab
        go_wp2_with fail
        refine (right_at N _ _ false _ HL7.out HW7.out Hρ.out).mono ?_
        rintro e w10 ⟨rfl, hb⟩
        have T := Lib.hid (T.out.below hb)
        have z0 := T.out.b0
        have z1 := T.out.b1
        clear hb
        go_wp2_with fail
        refine (fixed_any _).mono ?_
        rintro e w11 ⟨rfl, hb⟩
        have T := Lib.hid (T.out.below hb)
        clear hb
        go_wp2_with fail
        go_ret
        exact ⟨rfl, T.out.bel⟩
      · have hab' : ((a1 : Int) != (a2 : Int)) = true := by simp; omega
        have hqr : decide (q < 0) = ρ := by
          rw [Bool.eq_iff_iff, decide_eq_true_iff, hm']
          exact ⟨fun h => ⟨hab, h⟩, fun h => h.2⟩
        have hab2 : ¬ (a1 : Int) = (a2 : Int) := by omega
        clear hm' hab
        go_wp2_with fail
        refine (right_at N _ _ ρ _ HL7.out HW7.out Hρ.out).mono ?_
        rintro e w10 ⟨rfl, hb⟩
        have T := Lib.hid (T.out.below hb)
        have z0 := T.out.b0
        have z1 := T.out.b1
        clear hb
        go_wp2_with fail
        refine (find_at N a1 a2 q _ M _ T.out.l hn6 HQ.out).mono ?_
        rintro e w11 ⟨rfl, hb⟩
        have T := Lib.hid (T.out.below hb)
        clear hb
        go_wp2_with fail
        refine (fixed_any _).mono ?_
        rintro e w12 ⟨rfl, hb⟩
        have T := Lib.hid (T.out.below hb)
        clear hb
        go_wp2_with fail
        go_ret
        exact ⟨rfl, T.out.bel⟩
  · have hrf : r = false := by
      cases r with
      | false => rfl
      | true => exact absurd (HR.out.1 rfl) hG
    subst hrf
    clear hG
    go_wp2_with fail
    refine (right_at N0 _ M false _ T.out.l HW.out HR.out).mono ?_
    rintro e x5 ⟨rfl, hb⟩
    have T := Lib.hid (T.out.below hb)
    clear hb z0 z1
    go_wp2_with fail
    refine (fixed_any _).mono ?_
    rintro e x6 ⟨rfl, hb⟩
    have T := Lib.hid (T.out.below hb)
    clear hb
    go_wp2_with fail
    go_ret
    exact ⟨rfl, T.out.bel⟩
end Go.Proofs.Ytndpgmndbdchaaa
