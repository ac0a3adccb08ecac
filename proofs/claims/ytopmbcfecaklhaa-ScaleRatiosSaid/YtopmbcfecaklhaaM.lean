/- Slices of integers in memory, compared. -/
import Derived.Test.YtopmbcfecaklhaaK
namespace Go.Proofs.Ytopmbcfecaklhaa
open Go.RowKit Go.PlainAid

theorem owns_slice {w : World} {base : Nat} {e : TypeId} {size : Nat} {v : Value} {n : Nat} {xs : List Value} (h : w.ownsRow base e size v n xs) : ∃ ao cap, v = .slice ao n cap := by
  rcases h.2 with ⟨hv, h0⟩ | ⟨g, cap, cur, hv, _⟩
  · exact ⟨none, 0, by rw [hv, h0]⟩
  · exact ⟨_, _, hv⟩
theorem below_step {B : Nat} {w w1 w2 : World} (hB : B ≤ w1.heap.size) (h1 : Below B w w1) (h2 : Below w1.heap.size w1 w2) : Below B w w2 := h1.trans (h2.mono hB)

/-- A slice of integers in memory. -/
def IntsAt (w : World) (v : Value) (xs : List Int) : Prop :=
  (∃ a cap, v = .slice a 0 cap ∧ xs = []) ∨
  ∃ b off len cap, v = .slice (some ⟨b, off, none⟩) len cap ∧ xs.length = len ∧ 0 < len ∧ b < w.heap.size ∧ len ≤ cap ∧ ∀ i, i < len → w.cell? ⟨b, off + i, none⟩ = some (.int .i64 (xs.getD i 0))
theorem IntsAt.below {w w' : World} {v : Value} {xs : List Int} (h : IntsAt w v xs) (hb : Below w.heap.size w w') : IntsAt w' v xs := by
  rcases h with h | ⟨b, off, len, cap, h1, h2, h3, h4, h6, h5⟩
  · exact .inl h
  · exact .inr ⟨b, off, len, cap, h1, h2, h3, by have := hb.size; omega, h6, fun i hi => (hb.cell (by exact h4)).trans (h5 i hi)⟩
theorem IntsAt.owns {w : World} {base : Nat} {e : TypeId} {v : Value} {xs : List Int} (h : w.ownsRow base e 1 v xs.length (xs.map (Value.int .i64))) : IntsAt w v xs := by
  by_cases hx : xs.length = 0
  · obtain ⟨ao, cap, rfl⟩ := owns_slice h
    exact .inl ⟨ao, cap, by rw [hx], List.length_eq_zero_iff.1 hx⟩
  · have hc := fun g => h.cells (g := g)
    rcases h.2 with ⟨_, h0⟩ | ⟨g, cap, cur, rfl, _, hg, hle, _⟩
    · omega
    · refine .inr ⟨g, 0, xs.length, cap, rfl, rfl, by omega, lt_of_block hg, hle, fun i hi => ?_⟩
      have := hc g rfl i (.int .i64 (xs.getD i 0)) (by simp [List.getD, hi])
      have e : (⟨g, 0, none⟩ : Addr).add i = ⟨g, 0 + i, none⟩ := by unfold Addr.add; split <;> simp_all
      rw [e] at this; exact this

theorem ints_eq {xs ys : List Int} (hl : xs.length = ys.length) (h : ∀ j, j < xs.length → xs.getD j 0 = ys.getD j 0) : xs = ys := by
  apply List.ext_getElem hl
  intro i h1 h2
  have := h i h1
  simpa [List.getD, h1, h2] using this

set_option maxHeartbeats 1000000 in
theorem rints_any (v u : Value) (xs ys : List Int) (w : World) (hv : IntsAt w v xs) (hu : IntsAt w u ys) (h1 : xs.length ≤ 1000000) (h2 : ys.length ≤ 1000000) :
    Calls Try.prog 21 #[v, u] w fun e w' => e = .returned (.bool (decide (xs = ys))) ∧ ∃ n, w.drewN n = w' := by
  rcases hv with ⟨a, cap, rfl, rfl⟩ | ⟨b, off, len, cap, rfl, hl, hp, hb, hlc, hc⟩
  · rcases hu with ⟨a', cap', rfl, rfl⟩ | ⟨b', off', len', cap', rfl, hl', hp', hb', hlc', hc'⟩
    · go_enter Try.func21, Try.ntmps21
      go_wp2_with fail
      refine wp_loop_rounds 1 ?_
      rw [rounds_succ]
      go_wp2_with fail
      go_ret
      exact ⟨rfl, 0, rfl⟩
    · have hd : decide (([] : List Int) = ys) = false := decide_eq_false (fun h => by rw [← h] at hl'; simp at hl'; omega)
      have Hd := Lib.hid hd
      have hn : ((0 : Int) != (len' : Int)) = true := by rw [bne_iff_ne]; omega
      clear hc' hl' hd
      go_enter Try.func21, Try.ntmps21
      go_wp2_with fail
      go_ret
      exact ⟨by rw [Hd.out]; rfl, 0, rfl⟩
  · rcases hu with ⟨a', cap', rfl, rfl⟩ | ⟨b', off', len', cap', rfl, hl', hp', hb', hlc', hc'⟩
    · have hd : decide (xs = ([] : List Int)) = false := decide_eq_false (fun h => by rw [h] at hl; simp at hl; omega)
      have Hd := Lib.hid hd
      have hn : ((len : Int) != 0) = true := by rw [bne_iff_ne]; omega
      clear hc hl hd
      go_enter Try.func21, Try.ntmps21
      go_wp2_with fail
      go_ret
      exact ⟨by rw [Hd.out]; rfl, 0, rfl⟩
    · by_cases hll : len = len'
      · subst hll
        have Hc := Lib.hid hc
        have Hc' := Lib.hid hc'
        have Hl := Lib.hid hl
        have Hl' := Lib.hid hl'
        have hlb : len ≤ 1000000 := by omega
        clear hc hc' hl hl' h1 h2
        go_enter Try.func21, Try.ntmps21
        go_wp2_with fail
        go_loopw [5] (fun i wr => ∃ k : Nat, i = .int .i64 k ∧ k ≤ len ∧ (∀ j, j < k → xs.getD j 0 = ys.getD j 0) ∧ ∃ n, wr = w.drewN n) (fun i _ => len - (intOf i).toNat)
        case atStart => exact ⟨0, rfl, by omega, fun j hj => by omega, 0, rfl⟩
        case round =>
          obtain ⟨k, rfl, hk, hsame, n, rfl⟩ := hrel
          have Hs := Lib.hid hsame
          clear hsame
          by_cases hlt : k < len
          · have c1 := Hc.out k hlt
            have c2 := Hc'.out k hlt
            by_cases he : xs.getD k 0 = ys.getD k 0
            · have He := Lib.hid he
              obtain ⟨x, hx⟩ : ∃ x, x = ys.getD k 0 := ⟨_, rfl⟩
              rw [he, ← hx] at c1
              rw [← hx] at c2
              clear he hx
              go_wp2_with fail
              have hlt' : (k : Int) < len := by omega
              go_quiet (fail)
              go_wp2_with fail
              go_roundw
              case rel =>
                refine ⟨k + 1, by go_num, by omega, fun j hj => ?_, _, rfl⟩
                by_cases hjk : j < k
                · exact Hs.out j hjk
                · obtain rfl : j = k := by omega
                  exact He.out
              case measure => simp [intOf]; omega
            · obtain ⟨x, hx⟩ : ∃ x, x = xs.getD k 0 := ⟨_, rfl⟩
              obtain ⟨y, hy⟩ : ∃ y, y = ys.getD k 0 := ⟨_, rfl⟩
              have hd : decide (xs = ys) = false := decide_eq_false (fun h => he (by rw [h]))
              have Hd := Lib.hid hd
              rw [← hx, ← hy] at he
              rw [← hx] at c1
              rw [← hy] at c2
              have hn : (x != y) = true := by rw [bne_iff_ne]; exact he
              clear hx hy hd he
              go_wp2_with fail
              have hlt' : (k : Int) < len := by omega
              go_quiet (fail)
              go_wp2_with fail
              go_ret
              exact ⟨by rw [Hd.out]; rfl, _, (World.drewN_drewN _ _ _).symm⟩
          · go_wp2_with fail
            go_ret
            have : xs = ys := ints_eq (by rw [Hl.out, Hl'.out]) (fun j hj => Hs.out j (by rw [Hl.out] at hj; omega))
            exact ⟨by rw [this]; simp, n, rfl⟩
      · have hd : decide (xs = ys) = false := decide_eq_false (fun h => by rw [h] at hl; omega)
        have Hd := Lib.hid hd
        have hn : ((len : Int) != (len' : Int)) = true := by rw [bne_iff_ne]; omega
        clear hc hl hd hc' hl' hll
        go_enter Try.func21, Try.ntmps21
        go_wp2_with fail
        go_ret
        exact ⟨by rw [Hd.out]; rfl, 0, rfl⟩
end Go.Proofs.Ytopmbcfecaklhaa
