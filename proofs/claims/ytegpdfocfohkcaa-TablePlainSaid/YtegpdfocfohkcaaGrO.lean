/- The document's Dist, walked. -/
import Derived.Test.YtegpdfocfohkcaaGrN
namespace Go.Proofs.Ytegpdfocfohkcaa
open Go.RowKit Go.PlainAid

structure RAt (w : World) (T : TypeId) (N : Int) (v : Value) (g cap : Nat) (wr : World) (D : List Int) : Prop where
  bel : Below w.heap.size w wr
  box : wr.heap[w.heap.size]? = some (.cells #[.int .i64 N, v] T (0, 0))
  dist : ∃ cur, wr.heap[g]? = some (.cells cur 3 (0, 0)) ∧ cur.toList.take D.length = ivs D
  gt : w.heap.size < g
  le : D.length ≤ cap
theorem RAt.lt {w wr : World} {T : TypeId} {N : Int} {v : Value} {g cap : Nat} {D : List Int} (h : RAt w T N v g cap wr D) : g < wr.heap.size := by obtain ⟨cur, hc, _⟩ := h.dist; exact lt_of_block hc
theorem RAt.size {w wr : World} {T : TypeId} {N : Int} {v : Value} {g cap : Nat} {D : List Int} (h : RAt w T N v g cap wr D) : w.heap.size < wr.heap.size := lt_of_block h.box
theorem RAt.box0 {w wr : World} {T : TypeId} {N : Int} {v : Value} {g cap : Nat} {D : List Int} (h : RAt w T N v g cap wr D) : wr.cell? ⟨w.heap.size, 0, none⟩ = some (.int .i64 N) := (cell_of_row wr _ 0 _ _ (0, 0) h.box).trans rfl
theorem RAt.box1 {w wr : World} {T : TypeId} {N : Int} {v : Value} {g cap : Nat} {D : List Int} (h : RAt w T N v g cap wr D) : wr.cell? ⟨w.heap.size, 1, none⟩ = some v := (cell_of_row wr _ 1 _ _ (0, 0) h.box).trans rfl
theorem RAt.cell {w wr : World} {T : TypeId} {N : Int} {v : Value} {g cap : Nat} {D : List Int} (h : RAt w T N v g cap wr D) {y : Nat} (hy : y < D.length) : wr.cell? ⟨g, y, none⟩ = some (.int .i64 (D.getD y (-1))) := by
  obtain ⟨cur, hc, ht⟩ := h.dist
  rw [cell_of_row wr _ y _ _ (0, 0) hc]
  have := ivs_get hy
  rw [← ht, List.getElem?_take, if_pos hy] at this
  simpa using this
theorem RAt.free {w wr : World} {T : TypeId} {N : Int} {v : Value} {g cap : Nat} {D : List Int} (h : RAt w T N v g cap wr D) (y : Nat) : wr.frozen? ⟨g, y, none⟩ = false := by
  obtain ⟨cur, hc, _⟩ := h.dist
  simp [World.frozen?, hc]
theorem RAt.below {w wr w' : World} {T : TypeId} {N : Int} {v : Value} {g cap : Nat} {D : List Int} (h : RAt w T N v g cap wr D) (hb : Below wr.heap.size wr w') : RAt w T N v g cap w' D := by
  have hlt := h.lt
  have hsz := h.size
  obtain ⟨cur, hc, ht⟩ := h.dist
  exact ⟨below_step (Nat.le_of_lt hsz) h.bel hb, by rw [hb.block _ hsz]; exact h.box, ⟨cur, by rw [hb.block _ hlt]; exact hc, ht⟩, h.gt, h.le⟩
theorem RAt.set {w wr : World} {T : TypeId} {N : Int} {v : Value} {g cap : Nat} {D : List Int} (h : RAt w T N v g cap wr D) (z : Nat) (x : Int) : RAt w T N v g cap (wr.setCell ⟨g, z, none⟩ (.int .i64 x)) (D.set z x) := by
  have hgt := h.gt
  obtain ⟨cur, hc, ht⟩ := h.dist
  refine ⟨h.bel.setCell (by simp; omega) _, ?_, ⟨cur.setIfInBounds z (.int .i64 x), ?_, ?_⟩, hgt, by rw [List.length_set]; exact h.le⟩
  · rw [Below.heap_setCell _ _ _ _ (by simp; omega)]; exact h.box
  · rw [setCell_eq_setRow wr g z _ _ (0, 0) _ hc, setRow_heap wr g _ _ _ _ hc]
  · rw [List.length_set, Array.toList_setIfInBounds, List.take_set, ht]
    simp [ivs, List.map_set]
theorem RAt.ints {w wr : World} {T : TypeId} {N : Nat} {v : Value} {g cap : Nat} {D : List Int} (h : RAt w T N v g cap wr D) (hl : D.length = N) (h1 : 1 ≤ N) : IntsAt wr (.slice (some ⟨g, 0, none⟩) N cap) D := by
  refine .inr ⟨g, 0, N, cap, rfl, hl, h1, h.lt, by rw [← hl]; exact h.le, fun i hi => ?_⟩
  rw [Nat.zero_add, h.cell (by omega)]
  simp [List.getD, show i < D.length by omega]
theorem RAt.start {w w0 wr : World} {T : TypeId} {N : Nat} {v : Value} {g cap : Nat} (hb0 : Below w.heap.size w w0) (bx : w0.heap[w.heap.size]? = some (.cells #[.int .i64 (N : Int), v] T (0, 0))) (s0 : w0.heap.size = w.heap.size + 1)
    (hb : Below w0.heap.size w0 wr) (hown : wr.ownsRow w0.heap.size 3 1 (.slice (some ⟨g, 0, none⟩) N cap) N (ivs (List.replicate N (-1)))) (h1 : 1 ≤ N) : RAt w T N v g cap wr (List.replicate N (-1)) := by
  have hl := hown.lt g rfl
  rcases hown.2 with ⟨_, h0⟩ | ⟨g', cap', cur, hv, hbg, hg, hle, _, _, htake⟩
  · omega
  · simp only [Value.slice.injEq, Option.some.injEq, Addr.mk.injEq] at hv
    obtain ⟨⟨rfl, _⟩, _, rfl⟩ := hv
    refine ⟨below_step (by omega) hb0 hb, by rw [hb.block _ (by omega)]; exact bx, ⟨cur, hg, by simpa using htake⟩, by omega, by simpa using hle⟩

theorem rdist_no (N n : Int) (v : Value) (w : World) (h : ¬ (0 ≤ n ∧ n < N)) :
    Calls Try.prog 39 #[gv N v, .int .i64 n] w fun e w' => ∃ u, e = .returned u ∧ IntsAt w' u [] ∧ Below w.heap.size w w' := by
  unfold gv
  by_cases h0 : n < 0
  · go_enter Try.func39, Try.ntmps39
    go_wp2_with fail
    go_ret
    exact ⟨_, rfl, .inl ⟨_, _, rfl, rfl⟩, by go_grown⟩
  · have h1 : N ≤ n := by omega
    clear h
    go_enter Try.func39, Try.ntmps39
    go_wp2_with fail
    go_ret
    exact ⟨_, rfl, .inl ⟨_, _, rfl, rfl⟩, by go_grown⟩

set_option maxHeartbeats 2000000 in
set_option maxRecDepth 100000 in
theorem rdist_some (N a : Nat) (v : Value) (L : Lks) (w : World) (hL : LinksAt w v L) (hR : InR N L) (h1 : 1 ≤ N) (h6 : N ≤ 6) (ha : a < N) (hn : L.length ≤ 1000000) :
    Calls Try.prog 39 #[gv N v, .int .i64 (a : Int)] w fun e w' => ∃ u D, e = .returned u ∧ IsDist N L a D ∧ IntsAt w' u D ∧ Below w.heap.size w w' := by
  obtain ⟨i0, hi0, hz0, hz1, hz2⟩ := info_parts infoInt
  obtain ⟨w0, hw0⟩ : ∃ w0, w0 = w.alloc (.cells #[.int .i64 (N : Int), v] 34) := ⟨_, rfl⟩
  have bel0 : Below w.heap.size w w0 := by rw [hw0]; exact (Below.refl _ w).alloc (Nat.le_refl _) _
  have bx0 : w0.heap[w.heap.size]? = some (.cells #[.int .i64 (N : Int), v] 34 (0, 0)) := by rw [hw0]; exact heap_alloc_new w _
  have s0 : w0.heap.size = w.heap.size + 1 := by rw [hw0]; simp
  have x0 : w0.cell? ⟨w.heap.size, 0, none⟩ = some (.int .i64 (N : Int)) := (cell_of_row w0 _ 0 _ _ (0, 0) bx0).trans rfl
  have x1 : w0.cell? ⟨w.heap.size, 1, none⟩ = some v := (cell_of_row w0 _ 1 _ _ (0, 0) bx0).trans rfl
  have hst : (w0.alloc (.cells #[] 3)).ownsRow w0.heap.size 3 1 (.slice (some ⟨w.heap.size + 1, 0, none⟩) 0 0) 0 (ivs (List.replicate 0 (-1))) := by
    rw [← s0]
    exact World.ownsRow_made (base := w0.heap.size) (e := 3) (size := 1) w0 #[] 0 (Nat.le_refl _) (by omega) rfl
  have Hst := Lib.hid hst
  have hb00 := (Below.refl w0.heap.size w0).alloc (Nat.le_refl _) (.cells #[] 3)
  have Hb00 := Lib.hid hb00
  have hsl : w.heap.size < w0.heap.size := by omega
  have B0 := Lib.hid bel0
  have X0 := Lib.hid bx0
  have S0 := Lib.hid s0
  have HL := Lib.hid hL
  have ha' : (a : Int) < N := by omega
  have hda : decide ((a : Int) < 0) = false := decide_eq_false (by omega)
  have hdb : decide (N ≤ a) = false := decide_eq_false (by omega)
  have hdc : decide ((N : Int) ≤ (a : Int)) = false := decide_eq_false (by omega)
  unfold gv
  clear bel0 bx0 hL s0 hst hb00
  go_enter Try.func39, Try.ntmps39
  go_wp2_with fail
  rw [← hw0]
  clear hw0
  go_loopw [5, 6] (fun u i wr => ∃ k : Nat, i = .int .i64 k ∧ k ≤ N ∧ wr.ownsRow w0.heap.size 3 1 u k (ivs (List.replicate k (-1))) ∧ Below w0.heap.size w0 wr) (fun _ i _ => N - (intOf i).toNat)
  case atStart => exact ⟨0, rfl, by omega, Hst.out, Hb00.out⟩
  case round =>
    obtain ⟨k, rfl, hk, hown, hbel⟩ := hrel
    obtain ⟨ao, cv, rfl⟩ := owns_slice hown
    have HO := Lib.hid hown
    have HB := Lib.hid hbel
    have z0 := (hbel.cell (by exact hsl)).trans x0
    have z1 := (hbel.cell (by exact hsl)).trans x1
    have hz := hbel.size
    by_cases hlt : k < N
    · have hlt' : (k : Int) < N := by omega
      clear hown hbel
      go_wp2_with (at_builtin; refine wpList_append_own _ rfl _ _ 26 rfl w0.heap.size 3 i0 (.int .i64 0) 1 8 Try.underlying26 hi0 hz0 hz1 hz2 rfl (by decide) _ _ _ rfl (HO.out.alloc _) ⟨wr.heap.size, 0, none⟩ 1 1 [.int .i64 (-1)] rfl rfl (cell_one_at _ _ _ _ rfl) ?c2 ?c3 ?c4 ?c5 ?_)
      case c2 => intro u hu; simp at hu; subst hu; rfl
      case c3 => unfold maxLen; omega
      case c4 => omega
      case c5 => rw [size_alloc]; omega
      intro v1 w1 hown1 hg1 _
      have hnext : w1.ownsRow w0.heap.size 3 1 v1 (k + 1) (ivs (List.replicate (k + 1) (-1))) := by
        rw [show ivs (List.replicate (k + 1) (-1)) = ivs (List.replicate k (-1)) ++ [.int .i64 (-1)] by unfold ivs; rw [List.replicate_succ', List.map_append]; rfl]
        exact hown1
      have hB1 : Below w0.heap.size w0 w1 := (HB.out.alloc hz _).grown hg1 (by rw [size_alloc]; omega) (fun k hk => (HO.out.lt k hk).1)
      have Hnext := Lib.hid hnext
      have HB1 := Lib.hid hB1
      clear hown1 hg1 hB1 hnext
      go_wp2_with fail
      go_roundw
      case rel => exact ⟨k + 1, by go_num, by omega, Hnext.out, HB1.out⟩
      case measure => simp [intOf]; omega
    · have hlt' : ¬ (k : Int) < N := by omega
      obtain rfl : k = N := by omega
      obtain ⟨g, cap, hf⟩ := Go.Joins.ownsRow_form HO.out h1
      simp only [Value.slice.injEq] at hf
      obtain ⟨rfl, _, rfl⟩ := hf
      have hA := RAt.start B0.out X0.out S0.out HB.out HO.out h1
      have zc := hA.cell (y := a) (by simpa using ha)
      have zf := hA.free a
      have HA := Lib.hid (hA.set a 0)
      clear hown hbel hA
      go_wp2_with fail
      clear zc zf z0 z1 hz
      generalize wr.setCell ⟨g, a, none⟩ (.int .i64 0) = ws at HA ⊢
      go_loopw [7] (fun i wr => ∃ (D : List Int) (j : Nat), i = .int .i64 j ∧ j ≤ k ∧ RAt w 34 k v g cv wr D ∧ Lev k L a D j 0) (fun i _ => k - (intOf i).toNat)
      case atStart => exact ⟨_, 0, rfl, by omega, HA.out, Lev.start ha⟩
      case round =>
        obtain ⟨D, j, rfl, hj, hD, hV⟩ := hrel
        have HD := Lib.hid hD
        have HV := Lib.hid hV
        have z0 := hD.box0
        have z1 := hD.box1
        clear hD hV
        by_cases hjt : j < k
        · have hjt' : (j : Int) < k := by omega
          go_wp2_with fail
          go_loopw [8] (fun i wr => ∃ (D : List Int) (m : Nat), i = .int .i64 m ∧ m ≤ L.length ∧ RAt w 34 k v g cv wr D ∧ Lev k L a D j m) (fun i _ => L.length - (intOf i).toNat)
          case atStart => exact ⟨D, 0, rfl, by omega, HD.out, HV.out⟩
          case round =>
            obtain ⟨D2, m, rfl, hm, hD2, hV2⟩ := hrel
            have HD2 := Lib.hid hD2
            have HV2 := Lib.hid hV2
            have y0 := hD2.box0
            have y1 := hD2.box1
            by_cases hmt : m < L.length
            · have hmt' : (m : Int) < L.length := by omega
              have hr := hR _ (lk_mem hmt)
              obtain ⟨x, hx⟩ : ∃ x : Nat, (lk L m).1 = (x : Int) := ⟨(lk L m).1.toNat, by omega⟩
              obtain ⟨y, hy⟩ : ∃ y : Nat, (lk L m).2 = (y : Int) := ⟨(lk L m).2.toNat, by omega⟩
              have hxk : x < k := by omega
              have hyk : y < k := by omega
              have hxD : x < D2.length := by rw [hV2.len]; omega
              have hyD : y < D2.length := by rw [hV2.len]; omega
              rcases id (HL.out.below hD2.bel) with ⟨a0, cap0, e0', e1'⟩ | ⟨lb, lo, llen, lcap, rfl, f1, f2, f3, f4, f5⟩
              · rw [e1'] at hmt; simp at hmt
              · obtain ⟨lc1, lc2⟩ := f5 m (by omega)
                rw [hx] at lc1
                rw [hy] at lc2
                have xc := hD2.cell hxD
                have yc := hD2.cell hyD
                have yf := hD2.free y
                have hll : m < llen := by omega
                have hll' : (m : Int) < llen := by omega
                obtain ⟨dx, hdx⟩ : ∃ dx, dx = D2.getD x (-1) := ⟨_, rfl⟩
                obtain ⟨dy, hdy⟩ : ∃ dy, dy = D2.getD y (-1) := ⟨_, rfl⟩
                rw [← hdx] at xc
                rw [← hdy] at yc
                have HDX := Lib.hid hdx
                have HDY := Lib.hid hdy
                have HX := Lib.hid hx
                have HY := Lib.hid hy
                have HF1 := Lib.hid f1
                have hm0 := hmt
                clear hD2 hV2 hr hx hy hdx hdy f5 f1 hxD hyD z0 z1
                obtain ⟨wo, hwo⟩ : ∃ wo, wo = wr := ⟨_, rfl⟩
                subst hwo
                by_cases hq : (dx == (j : Int)) = true
                · by_cases hneg : dy < 0
                  · have hwj : IntKind.i64.wrap ((j : Int) + 1) = (j : Int) + 1 := IntWalk.i64_in _ (by omega)
                    have hV5 : Lev k L a (D2.set y ((j : Int) + 1)) j (m + 1) := by
                      have h := HV2.out.set hR hm0 (by rw [HX.out, Int.toNat_natCast, ← HDX.out]; exact eq_of_beq hq) (by rw [HY.out, Int.toNat_natCast, ← HDY.out]; exact hneg)
                      rw [HY.out, Int.toNat_natCast] at h
                      exact h
                    have HV5 := Lib.hid hV5
                    clear hV5
                    go_wp2_with fail
                    go_quiet (fail)
                    have HD5 := Lib.hid ((HD2.out.below (below_drewN (Below.refl _ wo) nq)).set y ((j : Int) + 1))
                    go_wp2_with fail
                    go_roundw
                    case rel => exact ⟨_, m + 1, by go_num, by omega, HD5.out, HV5.out⟩
                    case measure => simp [intOf]; omega
                  · have hneg' : ¬ dy < 0 := hneg
                    have HV5 := Lib.hid (HV2.out.keep hm0 (fun _ => by rw [HY.out, Int.toNat_natCast, ← HDY.out]; exact hneg))
                    go_wp2_with fail
                    go_quiet (fail)
                    have HD5 := Lib.hid (HD2.out.below (below_drewN (Below.refl _ wo) nq))
                    go_wp2_with fail
                    go_roundw
                    case rel => exact ⟨_, m + 1, by go_num, by omega, HD5.out, HV5.out⟩
                    case measure => simp [intOf]; omega
                · have hq' : (dx == (j : Int)) = false := by simpa using hq
                  have HV5 := Lib.hid (HV2.out.keep hm0 (fun e => by rw [HX.out, Int.toNat_natCast, ← HDX.out] at e; exact absurd (by simpa using e) hq))
                  clear hq
                  go_wp2_with fail
                  go_quiet (fail)
                  have HD5 := Lib.hid (HD2.out.below (below_drewN (Below.refl _ wo) nq))
                  go_wp2_with fail
                  go_roundw
                  case rel => exact ⟨_, m + 1, by go_num, by omega, HD5.out, HV5.out⟩
                  case measure => simp [intOf]; omega
            · obtain ⟨av, cvv, hvv⟩ := (HL.out.below hD2.bel).at
              have hmt' : ¬ (m : Int) < L.length := by omega
              have HN := Lib.hid (hV2.next hR ha (by omega))
              subst hvv
              clear hD2 hV2
              go_wp2_with fail
              go_roundw
              case rel => exact ⟨_, j + 1, by go_num, by omega, HD2.out, HN.out⟩
              case measure => simp [intOf]; omega
        · have hjt' : ¬ (j : Int) < k := by omega
          obtain rfl : j = k := by omega
          have HE := Lib.hid (HV.out.stop hR ha)
          go_wp2_with fail
          go_ret
          first | exact ⟨_, _, rfl, HE.out, HD.out.ints HE.out.1 h1, HD.out.bel⟩ | exact ⟨_, rfl, _, HE.out, HD.out.ints HE.out.1 h1, HD.out.bel⟩
end Go.Proofs.Ytegpdfocfohkcaa
