/- Slices of integers, compared. -/
import Derived.Test.YtegpdfocfohkcaaGrU
namespace Go.Proofs.Ytegpdfocfohkcaa
open Go.RowKit Go.PlainAid

theorem ints_eq {xs ys : List Int} (hl : xs.length = ys.length) (h : ∀ j, j < xs.length → xs.getD j 0 = ys.getD j 0) : xs = ys := by
  apply List.ext_getElem hl
  intro i h1 h2
  have := h i h1
  simpa [List.getD, h1, h2] using this

set_option maxHeartbeats 1000000 in
theorem rints_any (v u : Value) (xs ys : List Int) (w : World) (hv : IntsAt w v xs) (hu : IntsAt w u ys) (h1 : xs.length ≤ 1000000) (h2 : ys.length ≤ 1000000) :
    Calls Try.prog 22 #[v, u] w fun e w' => e = .returned (.bool (decide (xs = ys))) ∧ ∃ n, w.drewN n = w' := by
  rcases hv with ⟨a, cap, rfl, rfl⟩ | ⟨b, off, len, cap, rfl, hl, hp, hb, hlc, hc⟩
  · rcases hu with ⟨a', cap', rfl, rfl⟩ | ⟨b', off', len', cap', rfl, hl', hp', hb', hlc', hc'⟩
    · go_enter Try.func22, Try.ntmps22
      go_wp2_with fail
      refine wp_loop_rounds 1 ?_
      rw [rounds_succ]
      go_wp2_with fail
      go_ret
      exact ⟨rfl, 0, rfl⟩
    · have hd : decide (([] : List Int) = ys) = false := decide_eq_false (fun h => by rw [← h] at hl'; simp at hl'; omega)
      have Hd := Lib.hid hd
      have hn : ((0 : Int) != (len' : Int)) = true := by rw [bne_iff_ne]; omega
      clear hc' hl' hd
      go_enter Try.func22, Try.ntmps22
      go_wp2_with fail
      go_ret
      exact ⟨by rw [Hd.out]; rfl, 0, rfl⟩
  · rcases hu with ⟨a', cap', rfl, rfl⟩ | ⟨b', off', len', cap', rfl, hl', hp', hb', hlc', hc'⟩
    · have hd : decide (xs = ([] : List Int)) = false := decide_eq_false (fun h => by rw [h] at hl; simp at hl; omega)
      have Hd := Lib.hid hd
      have hn : ((len : Int) != 0) = true := by rw [bne_iff_ne]; omega
      clear hc hl hd
      go_enter Try.func22, Try.ntmps22
      go_wp2_with fail
      go_ret
      exact ⟨by rw [Hd.out]; rfl, 0, rfl⟩
    · by_cases hll : len = len'
      · subst hll
        have Hc := Lib.hid hc
        have Hc' := Lib.hid hc'
        have Hl := Lib.hid hl
        have Hl' := Lib.hid hl'
        have hlb : len ≤ 1000000 := by omega
        clear hc hc' hl hl' h1 h2
        go_enter Try.func22, Try.ntmps22
        go_wp2_with fail
        go_loopw [5] (fun i wr => ∃ k : Nat, i = .int .i64 k ∧ k ≤ len ∧ (∀ j, j < k → xs.getD j 0 = ys.getD j 0) ∧ ∃ n, wr = w.drewN n) (fun i _ => len - (intOf i).toNat)
        case atStart => exact ⟨0, rfl, by omega, fun j hj => by omega, 0, rfl⟩
        case round =>
          obtain ⟨k, rfl, hk, hsame, n, rfl⟩ := hrel
          have Hs := Lib.hid hsame
          clear hsame
          by_cases hlt : k < len
          · have c1 := Hc.out k hlt
            have c2 := Hc'.out k hlt
            by_cases he : xs.getD k 0 = ys.getD k 0
            · have He := Lib.hid he
              obtain ⟨x, hx⟩ : ∃ x, x = ys.getD k 0 := ⟨_, rfl⟩
              rw [he, ← hx] at c1
              rw [← hx] at c2
              clear he hx
              go_wp2_with fail
              have hlt' : (k : Int) < len := by omega
              go_quiet (fail)
              go_wp2_with fail
              go_roundw
              case rel =>
                refine ⟨k + 1, by go_num, by omega, fun j hj => ?_, _, rfl⟩
                by_cases hjk : j < k
                · exact Hs.out j hjk
                · obtain rfl : j = k := by omega
                  exact He.out
              case measure => simp [intOf]; omega
            · obtain ⟨x, hx⟩ : ∃ x, x = xs.getD k 0 := ⟨_, rfl⟩
              obtain ⟨y, hy⟩ : ∃ y, y = ys.getD k 0 := ⟨_, rfl⟩
              have hd : decide (xs = ys) = false := decide_eq_false (fun h => he (by rw [h]))
              have Hd := Lib.hid hd
              rw [← hx, ← hy] at he
              rw [← hx] at c1
              rw [← hy] at c2
              have hn : (x != y) = true := by rw [bne_iff_ne]; exact he
              clear hx hy hd he
              go_wp2_with fail
              have hlt' : (k : Int) < len := by omega
              go_quiet (fail)
              go_wp2_with fail
              go_ret
              exact ⟨by rw [Hd.out]; rfl, _, (World.drewN_drewN _ _ _).symm⟩
          · go_wp2_with fail
            go_ret
            have : xs = ys := ints_eq (by rw [Hl.out, Hl'.out]) (fun j hj => Hs.out j (by rw [Hl.out] at hj; omega))
            exact ⟨by rw [this]; simp, n, rfl⟩
      · have hd : decide (xs = ys) = false := decide_eq_false (fun h => by rw [h] at hl; omega)
        have Hd := Lib.hid hd
        have hn : ((len : Int) != (len' : Int)) = true := by rw [bne_iff_ne]; omega
        clear hc hl hd hc' hl' hll
        go_enter Try.func22, Try.ntmps22
        go_wp2_with fail
        go_ret
        exact ⟨by rw [Hd.out]; rfl, 0, rfl⟩

theorem rints_same (v u : Value) (xs : List Int) (w : World) (hv : IntsAt w v xs) (hu : IntsAt w u xs) (h1 : xs.length ≤ 1000000) :
    Calls Try.prog 22 #[v, u] w fun e w' => e = .returned (.bool true) ∧ Below w.heap.size w w' := by
  refine (rints_any v u xs xs w hv hu h1 h1).mono ?_
  rintro e w' ⟨rfl, n, rfl⟩
  exact ⟨by simp, below_drewN (Below.refl _ _) n⟩

theorem isDist_of {n : Nat} {L : Lks} {a : Nat} {D : List Int} (hl : D.length = n) (h0 : D.getD a (-1) = 0) (hst : ∀ p ∈ L, D.getD p.2.toNat (-1) ≤ D.getD p.1.toNat (-1) + 1)
    (hw : ∀ y : Nat, y < n → ∃ k : Nat, D.getD y (-1) = (k : Int) ∧ Way L k a y) : IsDist n L a D := by
  have key : ∀ (k : Nat) (y : Int), Way L k a y → D.getD y.toNat (-1) ≤ k := by
    intro k
    induction k with
    | zero => intro y h; have e : (a : Int) = y := h; subst e; rw [Int.toNat_natCast, h0]; exact Int.le_refl _
    | succ k ih =>
      intro y h
      obtain ⟨c, hc, hm⟩ := h
      have h1 := ih c hc
      have h2 := hst _ hm
      simp only at h2
      omega
  refine ⟨hl, fun y hy => .inl ?_⟩
  obtain ⟨k, hk, hwk⟩ := hw y hy
  refine ⟨k, hk, hwk, fun j hj hwj => ?_⟩
  have := key j y hwj
  rw [Int.toNat_natCast] at this
  omega

theorem wfSmall {L : Lks} (h : ∀ p ∈ L, 0 ≤ p.1 ∧ p.1 < 1000 ∧ 0 ≤ p.2 ∧ p.2 < 1000) : ∀ p ∈ L, wfp p := fun p hp => by
  have := h p hp
  exact ⟨WalkArith.wf_i64 (by omega), WalkArith.wf_i64 (by omega)⟩

theorem right_true (N : Int) (v : Value) (L : Lks) (w : World) (h : LinksAt w v L) (hW : ∀ p ∈ L, wfp p) (hG : RightG N L) :
    Calls Try.prog 29 #[gv N v] w fun e w' => e = .returned (.bool true) ∧ Below w.heap.size w w' := by
  refine (right_any N v L w h hW).mono ?_
  rintro e w' ⟨r, rfl, hr, hb⟩
  rw [hr.2 hG]; exact ⟨rfl, hb⟩
theorem right_false (N : Int) (v : Value) (L : Lks) (w : World) (h : LinksAt w v L) (hW : ∀ p ∈ L, wfp p) (hG : ¬ RightG N L) :
    Calls Try.prog 29 #[gv N v] w fun e w' => e = .returned (.bool false) ∧ Below w.heap.size w w' := by
  refine (right_any N v L w h hW).mono ?_
  rintro e w' ⟨r, rfl, hr, hb⟩
  have : r = false := by
    cases r with
    | false => rfl
    | true => exact absurd (hr.1 rfl) hG
  rw [this]; exact ⟨rfl, hb⟩
theorem rright_true (N : Int) (v : Value) (L : Lks) (w : World) (h : LinksAt w v L) (hG : RightG N L) :
    Calls Try.prog 23 #[gv N v] w fun e w' => e = .returned (.bool true) ∧ Below w.heap.size w w' := by
  refine (rright_any N v L w h).mono ?_
  rintro e w' ⟨r, rfl, hr, hb⟩
  rw [hr.2 hG]; exact ⟨rfl, hb⟩
theorem rright_false (N : Int) (v : Value) (L : Lks) (w : World) (h : LinksAt w v L) (hG : ¬ RightG N L) :
    Calls Try.prog 23 #[gv N v] w fun e w' => e = .returned (.bool false) ∧ Below w.heap.size w w' := by
  refine (rright_any N v L w h).mono ?_
  rintro e w' ⟨r, rfl, hr, hb⟩
  have : r = false := by
    cases r with
    | false => rfl
    | true => exact absurd (hr.1 rfl) hG
  rw [this]; exact ⟨rfl, hb⟩
theorem dist_at (N a : Nat) (v : Value) (L : Lks) (D : List Int) (w : World) (hL : LinksAt w v L) (hR : InR N L) (h1 : 1 ≤ N) (h6 : N ≤ 6) (ha : a < N) (hn : L.length ≤ 1000000) (hD : IsDist N L a D) :
    Calls Try.prog 43 #[gv N v, .int .i64 (a : Int)] w fun e w' => ∃ u, e = .returned u ∧ IntsAt w' u D ∧ Below w.heap.size w w' := by
  refine (dist_some N a v L w hL hR h1 h6 ha hn).mono ?_
  rintro e w' ⟨u, D', rfl, h1, h2, h3⟩
  rw [h1.eq hD] at h2
  exact ⟨u, rfl, h2, h3⟩
theorem rdist_at (N a : Nat) (v : Value) (L : Lks) (D : List Int) (w : World) (hL : LinksAt w v L) (hR : InR N L) (h1 : 1 ≤ N) (h6 : N ≤ 6) (ha : a < N) (hn : L.length ≤ 1000000) (hD : IsDist N L a D) :
    Calls Try.prog 39 #[gv N v, .int .i64 (a : Int)] w fun e w' => ∃ u, e = .returned u ∧ IntsAt w' u D ∧ Below w.heap.size w w' := by
  refine (rdist_some N a v L w hL hR h1 h6 ha hn).mono ?_
  rintro e w' ⟨u, D', rfl, h1, h2, h3⟩
  rw [h1.eq hD] at h2
  exact ⟨u, rfl, h2, h3⟩
theorem dist_out (N n : Int) (v : Value) (w : World) (h : ¬ (0 ≤ n ∧ n < N)) :
    Calls Try.prog 43 #[gv N v, .int .i64 n] w fun e w' => ∃ u, e = .returned u ∧ IntsAt w' u [] ∧ Below w.heap.size w w' := by
  refine (dist_no N n v w h).mono ?_
  rintro e w' ⟨rfl, hb⟩
  exact ⟨_, rfl, .inl ⟨_, _, rfl, rfl⟩, hb⟩
/-- Distances exist. -/
theorem isDist_ex (N a : Nat) (L : Lks) : ∃ D, IsDist N L a D := by
  have hex : ∀ y : Nat, ∃ d : Int, (∃ k : Nat, d = (k : Int) ∧ Far L k a y) ∨ (d = -1 ∧ ∀ k, ¬ Way L k a y) := by
    intro y
    by_cases h : ∃ k, Way L k a y
    · obtain ⟨k, hk⟩ := h
      obtain ⟨j, _, hf⟩ := far_of_way hk
      exact ⟨j, .inl ⟨j, rfl, hf⟩⟩
    · exact ⟨-1, .inr ⟨rfl, fun k hk => h ⟨k, hk⟩⟩⟩
  obtain ⟨f, hf⟩ := Classical.axiomOfChoice hex
  refine ⟨(List.range N).map f, by simp, fun y hy => ?_⟩
  have e : ((List.range N).map f).getD y (-1) = f y := by simp [List.getD, hy]
  rw [e]
  exact hf y
end Go.Proofs.Ytegpdfocfohkcaa
