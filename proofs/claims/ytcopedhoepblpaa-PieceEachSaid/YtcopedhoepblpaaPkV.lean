/- The document's Right of a piece. Written by gen_rright6.py. -/
import Derived.Test.YtcopedhoepblpaaPkG
set_option linter.unusedSimpArgs false
set_option linter.unusedVariables false
set_option maxRecDepth 100000
namespace Go.Proofs.Ytcopedhoepblpaa
open Go.RowKit Go.PlainAid
theorem no_ok {p : Pc} {r : Bool} (hr : r = okB p) (h : okB p = true → False) : r = false := by
  rw [hr]
  cases hk : okB p with
  | false => rfl
  | true => exact (h hk).elim
theorem riseB_drop {m : Lks} {k : Nat} {x : Int × Int} {a : Int} (h : m[k]? = some x) : riseB a (m.drop k) = (wi x.1 (a + 1) 500 && wi x.2 0 3 && riseB x.1 (m.drop (k + 1))) := by
  have hk := lt_of_some h
  have hx : m[k] = x := by rw [List.getElem?_eq_getElem hk] at h; exact Option.some.inj h
  rw [List.drop_eq_getElem_cons hk, hx]; rfl
theorem all_of_at {α : Type} {l : List α} {f : α → Bool} (h : ∀ (n : Nat) (x : α), l[n]? = some x → f x = true) : l.all f = true := by
  rw [List.all_eq_true]
  intro x hx
  obtain ⟨n, hn⟩ := List.mem_iff_getElem?.1 hx
  exact h n x hn
theorem okB_mk {p : Pc} (h1 : 0 ≤ p.node ∧ p.node ≤ 5) (h2 : 0 ≤ p.state ∧ p.state ≤ 7) (h3 : 0 ≤ p.steps ∧ p.steps ≤ 2147483647) (h4 : p.sent.length ≤ 5) (h5 : p.inn.length ≤ 5) (h6 : p.out.length ≤ 5)
    (k4 : ∀ (n : Nat) (x : Int), p.sent[n]? = some x → 0 ≤ x ∧ x ≤ 500) (k5 : ∀ (n : Nat) (m : Lks), p.inn[n]? = some m → riseB 0 m = true) (k6 : ∀ (n : Nat) (l : List Int), p.out[n]? = some l → lettersB l = true) : okB p = true := by
  unfold okB sentsB innB outB
  simp only [Bool.and_eq_true, wi_iff, decide_eq_true_eq]
  exact ⟨⟨⟨⟨⟨h1, h2⟩, h3⟩, h4, all_of_at (fun n x hx => wi_iff.2 (k4 n x hx))⟩, h5, all_of_at k5⟩, h6, all_of_at k6⟩
set_option maxHeartbeats 8000000 in
theorem rright6_at (p : Pc) (r : Bool) (v1 v2 v3 : Value) (w : World) (h : HasL w [v1, v2, v3] p.d) (hs : SmallPc p) (hr : r = okB p) :
    Calls Try.prog 16 #[pcv p v1 v2 v3] w fun e w' => e = .returned (.bool r) ∧ Below w.heap.size w w' := by
  obtain ⟨a1, a2, a3, n1, n2, n3, e1, e2, e3, ee1, ee2, ee3⟩ := pc_slices h
  subst ee1
  subst ee2
  subst ee3
  obtain ⟨c1, c2, c3⟩ := pc_has h
  have N1 := Lib.hid (ints_len c1)
  have N2 := Lib.hid (lls_len c2)
  have N3 := Lib.hid (ils_len c3)
  have C1 := Lib.hid c1
  have C2 := Lib.hid c2
  have C3 := Lib.hid c3
  have HR := Lib.hid hr
  have HS := Lib.hid hs
  clear h c1 c2 c3 hr hs
  obtain ⟨m0, hm0⟩ : ∃ m, m = p.node := ⟨_, rfl⟩
  obtain ⟨m1, hm1⟩ : ∃ m, m = p.state := ⟨_, rfl⟩
  obtain ⟨m2, hm2⟩ : ∃ m, m = p.steps := ⟨_, rfl⟩
  unfold pcv
  rw [← hm0, ← hm1, ← hm2]
  have M0 := Lib.hid hm0
  have M1 := Lib.hid hm1
  have M2 := Lib.hid hm2
  clear hm0 hm1 hm2
  go_enter Try.func16, Try.ntmps16
  try simp only [List.append_eq, List.cons_append, List.nil_append]
  go_upto_region 1 with fail
  obtain ⟨bc, hbc⟩ : ∃ b, b = w.heap.size := ⟨_, rfl⟩
  obtain ⟨y0, hy0⟩ : ∃ y, y = w.alloc (.cells #[.int .i64 m0, .int .i64 m1, .int .i64 m2, .slice a1 n1 e1, .slice a2 n2 e2, .slice a3 n3 e3] 32) := ⟨_, rfl⟩
  have hb0 : Below w.heap.size w y0 := by rw [hy0]; exact below_new _ _
  have hx0 : BoxAt bc [.int .i64 m0, .int .i64 m1, .int .i64 m2, .slice a1 n1 e1, .slice a2 n2 e2, .slice a3 n3 e3] y0 := by rw [hbc, hy0]; exact boxAt_new w [.int .i64 m0, .int .i64 m1, .int .i64 m2, .slice a1 n1 e1, .slice a2 n2 e2, .slice a3 n3 e3] _
  rw [← hy0, ← hbc]
  have B0 := Lib.hid hb0
  have K0 := Lib.hid hx0
  clear hy0 hb0 hx0 hbc
  have p0 := K0.out 0 _ rfl
  have p1 := K0.out 1 _ rfl
  have p2 := K0.out 2 _ rfl
  have p3 := K0.out 3 _ rfl
  have p4 := K0.out 4 _ rfl
  have p5 := K0.out 5 _ rfl
  by_cases g0 : m0 < 0
  · obtain rfl := no_ok HR.out (fun h => by
      have := (okB_parts h).1.1; have := M0.out; omega
    )
    go_wp2_with fail
    go_ret
    exact ⟨rfl, B0.out⟩
  by_cases g1 : 5 < m0
  · obtain rfl := no_ok HR.out (fun h => by
      have := (okB_parts h).1.2; have := M0.out; omega
    )
    go_wp2_with fail
    go_ret
    exact ⟨rfl, B0.out⟩
  by_cases g2 : m1 < 0
  · obtain rfl := no_ok HR.out (fun h => by
      have := (okB_parts h).2.1.1; have := M1.out; omega
    )
    go_wp2_with fail
    go_ret
    exact ⟨rfl, B0.out⟩
  by_cases g3 : 7 < m1
  · obtain rfl := no_ok HR.out (fun h => by
      have := (okB_parts h).2.1.2; have := M1.out; omega
    )
    go_wp2_with fail
    go_ret
    exact ⟨rfl, B0.out⟩
  by_cases g4 : m2 < 0
  · obtain rfl := no_ok HR.out (fun h => by
      have := (okB_parts h).2.2.1.1; have := M2.out; omega
    )
    go_wp2_with fail
    go_ret
    exact ⟨rfl, B0.out⟩
  by_cases g5 : 2147483647 < m2
  · obtain rfl := no_ok HR.out (fun h => by
      have := (okB_parts h).2.2.1.2; have := M2.out; omega
    )
    go_wp2_with fail
    go_ret
    exact ⟨rfl, B0.out⟩
  by_cases g6 : (5 : Int) < n1
  · obtain rfl := no_ok HR.out (fun h => by
      have := (okB_parts h).2.2.2.1.1; have := N1.out; omega
    )
    go_wp2_with fail
    go_ret
    exact ⟨rfl, B0.out⟩
  by_cases g7 : (5 : Int) < n2
  · obtain rfl := no_ok HR.out (fun h => by
      have := (okB_parts h).2.2.2.2.1.1; have := N2.out; omega
    )
    go_wp2_with fail
    go_ret
    exact ⟨rfl, B0.out⟩
  by_cases g8 : (5 : Int) < n3
  · obtain rfl := no_ok HR.out (fun h => by
      have := (okB_parts h).2.2.2.2.2.1; have := N3.out; omega
    )
    go_wp2_with fail
    go_ret
    exact ⟨rfl, B0.out⟩
  go_wp2_with fail
  clear p0 p1 p2 p3 p4 p5
  have GN := Lib.hid (show (0 ≤ m0 ∧ m0 ≤ 5) ∧ (0 ≤ m1 ∧ m1 ≤ 7) ∧ (0 ≤ m2 ∧ m2 ≤ 2147483647) from ⟨⟨by omega, by omega⟩, ⟨by omega, by omega⟩, ⟨by omega, by omega⟩⟩)
  have l1 : n1 ≤ 5 := by omega
  have l2 : n2 ≤ 5 := by omega
  have l3 : n3 ≤ 5 := by omega
  clear g0 g1 g2 g3 g4 g5 g6 g7 g8
  go_loopw [3] (fun i wr => ∃ j : Nat, i = .int .i64 j ∧ j ≤ n1 ∧ (∀ (n : Nat) (x : Int), n < j → p.sent[n]? = some x → 0 ≤ x ∧ x ≤ 500) ∧ Below y0.heap.size y0 wr) (fun i _ => n1 - (intOf i).toNat)
  case atStart => exact ⟨0, rfl, by omega, fun n x h => by omega, Below.refl _ _⟩
  case round =>
    obtain ⟨j, rfl, hj, hok, hb⟩ := hrel
    obtain ⟨wr1, hw1⟩ : ∃ x, x = wr := ⟨_, rfl⟩
    subst hw1
    have B1 := Lib.hid hb
    have OK1 := Lib.hid hok
    have p3 := K0.out.below hb 3 _ rfl
    clear hb hok
    by_cases hlt : j < n1
    · have hlt' : (j : Int) < n1 := by omega
      obtain ⟨x, hx⟩ := some_of_lt (l := p.sent) (i := j) (by rw [← N1.out]; exact hlt)
      obtain ⟨b, o, e, x1⟩ := int_at (C1.out.later (below_step' B0.out B1.out)) hx
      subst e
      have HX := Lib.hid hx
      clear hx
      by_cases q1 : x < 0
      · obtain rfl := no_ok HR.out (fun h => by
          have := ((okB_parts h).2.2.2.1.2 x (List.mem_of_getElem? HX.out)).1
          omega
        )
        go_wp2_with fail
        go_ret
        exact ⟨rfl, below_step' B0.out B1.out⟩
      by_cases q2 : 500 < x
      · obtain rfl := no_ok HR.out (fun h => by
          have := ((okB_parts h).2.2.2.1.2 x (List.mem_of_getElem? HX.out)).2
          omega
        )
        go_wp2_with fail
        go_ret
        exact ⟨rfl, below_step' B0.out B1.out⟩
      go_wp2_with fail
      go_roundw
      case rel => exact ⟨j + 1, by go_num, by omega, fun n z hn hz => by
        by_cases e : n = j
        · subst e; rw [HX.out] at hz; cases hz; exact ⟨by omega, by omega⟩
        · exact OK1.out n z (by omega) hz, B1.out⟩
      case measure => simp [intOf]; omega
    · obtain rfl : n1 = j := by omega
      have hk3 : ¬ (n1 : Int) < n1 := by omega
      have S1 : Hid (∀ (n : Nat) (x : Int), p.sent[n]? = some x → 0 ≤ x ∧ x ≤ 500) := Lib.hid (fun n x hx => OK1.out n x (by have := lt_of_some hx; have := N1.out; omega) hx)
      clear OK1 hlt
      go_wp2_with fail
      clear p3 hk3
      go_loopw [4] (fun i wr => ∃ j : Nat, i = .int .i64 j ∧ j ≤ n2 ∧ (∀ (n : Nat) (x : Lks), n < j → p.inn[n]? = some x → riseB 0 x = true) ∧ Below y0.heap.size y0 wr) (fun i _ => n2 - (intOf i).toNat)
      case atStart => exact ⟨0, rfl, by omega, fun n x h => by omega, B1.out⟩
      case round =>
        obtain ⟨j, rfl, hj, hok, hb⟩ := hrel
        clear B1
        obtain ⟨wr2, hw2⟩ : ∃ x, x = wr := ⟨_, rfl⟩
        subst hw2
        have B2 := Lib.hid hb
        have OK2 := Lib.hid hok
        have p4 := K0.out.below hb 4 _ rfl
        clear hb hok
        by_cases hlt : j < n2
        · have hlt' : (j : Int) < n2 := by omega
          obtain ⟨m, hm⟩ := some_of_lt (l := p.inn) (i := j) (by rw [← N2.out]; exact hlt)
          obtain ⟨b, o, ma, mc, e, _, e9, z0, hmm⟩ := lls_at (C2.out.later B0.out) hm
          clear e9
          subst e
          have hm5 := HS.out.im m (List.mem_of_getElem? hm)
          obtain ⟨k1, hk1⟩ : ∃ k, k = m.length := ⟨_, rfl⟩
          rw [← hk1] at z0 hmm hm5
          have Z0 := Lib.hid (fun (y : World) (hb : Below y0.heap.size y0 y) => (hb.cell (World.block_lt_of_cell? y0 _ z0)).trans z0)
          have MM := Lib.hid hmm
          have K1 := Lib.hid hk1
          have HM := Lib.hid hm
          clear z0 hmm hk1 hm
          go_wp2_with fail
          clear p4
          go_loopw [5, 6] (fun u i wr => ∃ (k : Nat) (a : Int), i = .int .i64 k ∧ u = .int .i64 a ∧ k ≤ k1 ∧ riseB 0 m = riseB a (m.drop k) ∧ Below y0.heap.size y0 wr) (fun _ i _ => k1 - (intOf i).toNat)
          case atStart => exact ⟨0, 0, rfl, rfl, by omega, rfl, B2.out⟩
          case round =>
            obtain ⟨k, a, rfl, rfl, hk, hri, hb⟩ := hrel
            clear B2
            obtain ⟨wr3, hw3⟩ : ∃ x, x = wr := ⟨_, rfl⟩
            subst hw3
            have B3 := Lib.hid hb
            have RI := Lib.hid hri
            have p4 := K0.out.below hb 4 _ rfl
            have z1 := Z0.out _ hb
            clear hri
            by_cases hlt2 : k < k1
            · have hlt2' : (k : Int) < k1 := by omega
              obtain ⟨⟨x1, x2⟩, hx⟩ := some_of_lt (l := m) (i := k) (by rw [← K1.out]; exact hlt2)
              obtain ⟨b2, o2, e, z2, z3⟩ := msg_at (MM.out.later hb) hx
              subst e
              simp only at z2 z3
              have RN : Hid (riseB 0 m = (wi x1 (a + 1) 500 && wi x2 0 3 && riseB x1 (m.drop (k + 1)))) := Lib.hid (RI.out.trans (riseB_drop hx))
              have BN := Lib.hid (below_step' B3.out (below_new wr3 (.cells #[.int .i64 x1, .int .i64 x2] 47)))
              have BW := Lib.hid (below_step' B0.out BN.out)
              clear hx hb
              have NO : Hid (okB p = true → wi x1 (a + 1) 500 = true ∧ wi x2 0 3 = true) := Lib.hid (fun h => by
                have h1 := (okB_parts h).2.2.2.2.1.2 m (List.mem_of_getElem? HM.out)
                rw [RN.out] at h1
                simp only [Bool.and_eq_true] at h1
                exact h1.1)
              by_cases q1 : x1 ≤ a
              · obtain rfl := no_ok HR.out (fun h => by
                  have := wi_iff.1 (NO.out h).1
                  omega
                )
                go_wp2_with fail
                go_ret
                exact ⟨rfl, BW.out⟩
              by_cases q2 : 500 < x1
              · obtain rfl := no_ok HR.out (fun h => by
                  have := wi_iff.1 (NO.out h).1
                  omega
                )
                go_wp2_with fail
                go_ret
                exact ⟨rfl, BW.out⟩
              by_cases q3 : x2 < 0
              · obtain rfl := no_ok HR.out (fun h => by
                  have := wi_iff.1 (NO.out h).2
                  omega
                )
                go_wp2_with fail
                go_ret
                exact ⟨rfl, BW.out⟩
              by_cases q4 : 3 < x2
              · obtain rfl := no_ok HR.out (fun h => by
                  have := wi_iff.1 (NO.out h).2
                  omega
                )
                go_wp2_with fail
                go_ret
                exact ⟨rfl, BW.out⟩
              go_wp2_with fail
              go_roundw
              case rel => exact ⟨k + 1, x1, by go_num, rfl, by omega, by
                rw [RN.out, wi_iff.2 ⟨by omega, by omega⟩, wi_iff.2 ⟨by omega, by omega⟩]; rfl, BN.out⟩
              case measure => simp [intOf]; omega
            · obtain rfl : k1 = k := by omega
              have hk3 : ¬ (k1 : Int) < k1 := by omega
              have DN : Hid (riseB 0 m = true) := Lib.hid (by rw [RI.out, K1.out, List.drop_length]; rfl)
              clear hb
              go_wp2_with fail
              go_roundw
              case rel => exact ⟨j + 1, by go_num, by omega, fun n z hn hz => by
                by_cases e : n = j
                · subst e; rw [HM.out] at hz; cases hz; exact DN.out
                · exact OK2.out n z (by omega) hz, B3.out⟩
              case measure => simp [intOf]; omega
        · obtain rfl : n2 = j := by omega
          have hk3 : ¬ (n2 : Int) < n2 := by omega
          have S2 : Hid (∀ (n : Nat) (x : Lks), p.inn[n]? = some x → riseB 0 x = true) := Lib.hid (fun n x hx => OK2.out n x (by have := lt_of_some hx; have := N2.out; omega) hx)
          clear OK2 hlt
          go_wp2_with fail
          clear p4 hk3
          go_loopw [8] (fun i wr => ∃ j : Nat, i = .int .i64 j ∧ j ≤ n3 ∧ (∀ (n : Nat) (x : List Int), n < j → p.out[n]? = some x → lettersB x = true) ∧ Below y0.heap.size y0 wr) (fun i _ => n3 - (intOf i).toNat)
          case atStart => exact ⟨0, rfl, by omega, fun n x h => by omega, B2.out⟩
          case round =>
            obtain ⟨j, rfl, hj, hok, hb⟩ := hrel
            clear B2
            obtain ⟨wr4, hw4⟩ : ∃ x, x = wr := ⟨_, rfl⟩
            subst hw4
            have B4 := Lib.hid hb
            have OK3 := Lib.hid hok
            have p5 := K0.out.below hb 5 _ rfl
            clear hb hok
            by_cases hlt : j < n3
            · have hlt' : (j : Int) < n3 := by omega
              obtain ⟨m, hm⟩ := some_of_lt (l := p.out) (i := j) (by rw [← N3.out]; exact hlt)
              obtain ⟨b, o, ma, mc, e, _, e9, z0, hmm⟩ := ils_at (C3.out.later B0.out) hm
              clear e9
              subst e
              have hm5 := HS.out.om m (List.mem_of_getElem? hm)
              obtain ⟨k1, hk1⟩ : ∃ k, k = m.length := ⟨_, rfl⟩
              rw [← hk1] at z0 hmm hm5
              have Z0 := Lib.hid (fun (y : World) (hb : Below y0.heap.size y0 y) => (hb.cell (World.block_lt_of_cell? y0 _ z0)).trans z0)
              have z1 := Z0.out _ B4.out
              have MM := Lib.hid hmm
              have K1 := Lib.hid hk1
              have HM := Lib.hid hm
              have NO : Hid (okB p = true → k1 ≤ 500 ∧ ∀ x ∈ m, 0 ≤ x ∧ x ≤ 3) := Lib.hid (fun h => by
                have h1 := (okB_parts h).2.2.2.2.2.2 m (List.mem_of_getElem? HM.out)
                rw [K1.out]; exact h1)
              clear z0 hmm hk1 hm
              by_cases q0 : (500 : Int) < k1
              · obtain rfl := no_ok HR.out (fun h => by
                  have := (NO.out h).1
                  omega
                )
                go_wp2_with fail
                go_ret
                exact ⟨rfl, below_step' B0.out B4.out⟩
              go_wp2_with fail
              clear p5 z1
              have hk500 : k1 ≤ 500 := by omega
              go_loopw [9] (fun i wr => ∃ k : Nat, i = .int .i64 k ∧ k ≤ k1 ∧ (∀ (n : Nat) (x : Int), n < k → m[n]? = some x → 0 ≤ x ∧ x ≤ 3) ∧ Below y0.heap.size y0 wr) (fun i _ => k1 - (intOf i).toNat)
              case atStart => exact ⟨0, rfl, by omega, fun n x h => by omega, B4.out⟩
              case round =>
                obtain ⟨k, rfl, hk, hok, hb⟩ := hrel
                clear B4
                obtain ⟨wr5, hw5⟩ : ∃ x, x = wr := ⟨_, rfl⟩
                subst hw5
                have B5 := Lib.hid hb
                have OK4 := Lib.hid hok
                have p5 := K0.out.below hb 5 _ rfl
                have z1 := Z0.out _ hb
                clear hok
                by_cases hlt2 : k < k1
                · have hlt2' : (k : Int) < k1 := by omega
                  obtain ⟨x, hx⟩ := some_of_lt (l := m) (i := k) (by rw [← K1.out]; exact hlt2)
                  obtain ⟨b2, o2, e, z2⟩ := int_at (MM.out.later hb) hx
                  subst e
                  have HX := Lib.hid hx
                  clear hx hb
                  by_cases q1 : x < 0
                  · obtain rfl := no_ok HR.out (fun h => by
                      have := ((NO.out h).2 x (List.mem_of_getElem? HX.out)).1
                      omega
                    )
                    go_wp2_with fail
                    go_ret
                    exact ⟨rfl, below_step' B0.out B5.out⟩
                  by_cases q2 : 3 < x
                  · obtain rfl := no_ok HR.out (fun h => by
                      have := ((NO.out h).2 x (List.mem_of_getElem? HX.out)).2
                      omega
                    )
                    go_wp2_with fail
                    go_ret
                    exact ⟨rfl, below_step' B0.out B5.out⟩
                  go_wp2_with fail
                  go_roundw
                  case rel => exact ⟨k + 1, by go_num, by omega, fun n z hn hz => by
                    by_cases e : n = k
                    · subst e; rw [HX.out] at hz; cases hz; exact ⟨by omega, by omega⟩
                    · exact OK4.out n z (by omega) hz, B5.out⟩
                  case measure => simp [intOf]; omega
                · obtain rfl : k1 = k := by omega
                  have hk3 : ¬ (k1 : Int) < k1 := by omega
                  have DN : Hid (lettersB m = true) := Lib.hid (by
                    unfold lettersB
                    simp only [Bool.and_eq_true, decide_eq_true_eq]
                    exact ⟨by have := K1.out; omega, all_of_at (fun n x hx => wi_iff.2 (OK4.out n x (by have := lt_of_some hx; have := K1.out; omega) hx))⟩)
                  clear hb
                  go_wp2_with fail
                  go_roundw
                  case rel => exact ⟨j + 1, by go_num, by omega, fun n z hn hz => by
                    by_cases e : n = j
                    · subst e; rw [HM.out] at hz; cases hz; exact DN.out
                    · exact OK3.out n z (by omega) hz, B5.out⟩
                  case measure => simp [intOf]; omega
            · obtain rfl : n3 = j := by omega
              have hk3 : ¬ (n3 : Int) < n3 := by omega
              have hfin : r = true := by
                rw [HR.out]
                have g := GN.out
                rw [M0.out, M1.out, M2.out] at g
                exact okB_mk g.1 g.2.1 g.2.2 (by have := N1.out; omega) (by have := N2.out; omega) (by have := N3.out; omega) S1.out S2.out (fun n x hx => OK3.out n x (by have := lt_of_some hx; have := N3.out; omega) hx)
              obtain rfl := hfin
              go_wp2_with fail
              go_ret
              exact ⟨rfl, below_step' B0.out B4.out⟩
end Go.Proofs.Ytcopedhoepblpaa
