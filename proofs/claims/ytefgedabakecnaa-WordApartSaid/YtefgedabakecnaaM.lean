/- The document's answers: All, Take, Ints. -/
import Derived.Test.YtefgedabakecnaaL
import Derived.Deep.QuietTactic
import Derived.BigQuiet
namespace Go.Proofs.Ytefgedabakecnaa
open Go.RowKit Go.PlainAid

def RAllHead (s : ByteArray) (w : World) (p : Nat) (acc : List Int) (v : Value) (wr : World) : Prop :=
  p ≤ s.size ∧ acc.length ≤ p ∧ (∃ f, s.size < p + f ∧ allGo s f p acc = allR s) ∧ Below w.heap.size w wr ∧
  wr.ownsRow w.heap.size 3 1 v acc.length (acc.map (Value.int .i64))

theorem getR_num {s : ByteArray} {p : Nat} (h : p ≤ s.size) : (getR s p).1 = (num s p).1 ∧ ((num s p).1 = 0 → (getR s p).2.1 = (num s p).2.1 ∧ (getR s p).2.2 = (p + (num s p).2.2 : Nat)) := by
  by_cases e : (num s p).1 = 0
  · rw [getR_ok h e]; exact ⟨e.symm, fun _ => ⟨rfl, by simp⟩⟩
  · rw [getR_err h e]; exact ⟨rfl, fun h => absurd h e⟩

set_option maxHeartbeats 1000000 in
theorem rall_any (s : ByteArray) (w : World) (hs : s.size ≤ 1000000) :
    Calls Try.prog 14 #[.string s] w (AllPost s w) := by
  obtain ⟨i0, hi, hz0, hz1, hz2⟩ := info_parts Try.info3
  go_enter Try.func14, Try.ntmps14
  go_wp2_with fail
  go_loopw [4, 5] (fun v i wr => ∃ (p : Nat) (acc : List Int), i = .int .i64 p ∧ RAllHead s w p acc v wr) (fun _ i _ => s.size - (intOf i).toNat)
  case atStart =>
    refine ⟨0, [], rfl, by omega, by simp, ⟨s.size + 1, by omega, rfl⟩, (Below.refl _ _).alloc (Nat.le_refl _) _, ?_⟩
    exact World.ownsRow_made w #[] 0 (Nat.le_refl _) (by omega) rfl
  case round =>
    obtain ⟨p, acc, rfl, h1, h2, h3, h4, h8⟩ := hrel
    by_cases hlt : p < s.size
    · have hget := rget_any s p wr hs
      obtain ⟨r1, r2⟩ := getR_num h1
      by_cases heq : (num s p).1 = 0
      · obtain ⟨g1, g2, g3, g4, g5⟩ := num_in s p heq
        obtain ⟨q1, q2⟩ := r2 heq
        rw [q1, q2, r1, heq] at hget
        obtain ⟨f, h9, h10⟩ := h3
        have hnext : ∃ f, s.size < p + (num s p).2.2 + f ∧ allGo s f (p + (num s p).2.2) (acc ++ [(num s p).2.1]) = allR s := by
          cases f with
          | zero => omega
          | succ f => exact ⟨f, by omega, by rw [← h10, allGo, if_neg (by omega), if_pos heq]⟩
        have Hnext := Lib.hid hnext
        have Hget := Lib.hid hget
        have HO := Lib.hid h8
        have HB := Lib.hid h4
        have hz := h4.size
        clear hnext hget h8 h4 h9 h10 r1 r2 q1 q2 heq
        generalize num s p = r at *
        obtain ⟨r0, n, sz⟩ := r
        dsimp only at g1 g2 g3 g4 g5
        go_wp2_with fail
        refine Hget.out.mono ?_
        rintro e w1 ⟨rfl, rfl⟩
        go_wp2_with (at_builtin; refine wpList_append_own _ rfl _ _ 22 rfl w.heap.size 3 i0 (.int .i64 0) 1 8 Try.underlying22 hi hz0 hz1 hz2 rfl (by decide) _ _ _ rfl (HO.out.alloc _) ⟨wr.heap.size, 0, none⟩ 1 1 [.int .i64 n] rfl rfl (cell_one_new _ _ _) ?c2 ?c3 ?c4 ?c5 ?_)
        case c2 => intro u hu; simp at hu; subst hu; rfl
        case c3 => unfold maxLen; omega
        case c4 => omega
        case c5 => rw [size_new]; omega
        intro v' w2 hown hg _
        have hB2 : Below w.heap.size w w2 := (HB.out.alloc hz _).grown hg (by rw [size_new]; omega) (fun k hk => (HO.out.lt k hk).1)
        have Hown := Lib.hid hown
        have HB2 := Lib.hid hB2
        clear hown hg hB2
        go_wp2_with fail
        go_roundw
        case rel => exact ⟨p + sz, acc ++ [n], by go_num, by omega, by simp; omega, Hnext.out, HB2.out, by simpa using Hown.out⟩
        case measure => simp [intOf]; omega
      · have hall : allR s = ((num s p).1, []) := by
          obtain ⟨f, h9, h10⟩ := h3
          rw [← h10]
          cases f with
          | zero => omega
          | succ f => rw [allGo, if_neg (by omega), if_neg heq]
        rw [r1] at hget
        have Hget := Lib.hid hget
        have Hall := Lib.hid hall
        have Hne := Lib.hid heq
        have hnb : ((num s p).1 != 0) = true := by simp [heq]
        have HB := Lib.hid h4
        clear hget hall heq h4 h8 h3 r1 r2
        go_wp2_with fail
        refine Hget.out.mono ?_
        rintro e w1 ⟨rfl, rfl⟩
        generalize (num s p).1 = x at *
        go_wp2_with fail
        go_ret2
        exact ⟨_, by rw [Hall.out]; rfl, by rw [Hall.out]; exact World.ownsRow_nil _ _ _ _, HB.out⟩
    · obtain ⟨f, h9, h10⟩ := h3
      have hall : allR s = (0, acc) := by
        rw [← h10]
        cases f with
        | zero => omega
        | succ f => rw [allGo, if_pos (by omega)]
      have Hall := Lib.hid hall
      clear hall h10
      go_wp2_with fail
      go_ret2
      exact ⟨_, by rw [Hall.out]; rfl, by rw [Hall.out]; exact h8, h4⟩

set_option maxHeartbeats 1000000 in
theorem rtake_any (s : ByteArray) (at_ most : Int) (w : World) (hs : s.size ≤ 1000000) :
    Calls Try.prog 16 #[.string s, .int .i64 at_, .int .i64 most] w fun e w' =>
      e = .returned (.tuple #[.string (takeR s at_ most).2.1, .int .i64 (takeR s at_ most).2.2, .int .i64 (takeR s at_ most).1]) ∧ w = w' := by
  have ht : takeR s at_ most = takeR s at_ most := rfl
  conv at ht => rhs; unfold takeR
  have hget := rget_any s at_ w hs
  by_cases heq : (getR s at_).1 = 0
  · obtain ⟨g0, g1, g2, g3, g4, g5⟩ := getR_in heq
    rw [if_neg (by simp [heq])] at ht
    rw [heq] at hget
    clear heq
    generalize getR s at_ = r at *
    obtain ⟨r0, n, a⟩ := r
    dsimp only at g1 g2 g3 g4 g5 ht hget
    have Hget := Lib.hid hget
    clear hget
    obtain ⟨p, rfl⟩ := Int.eq_ofNat_of_zero_le (show 0 ≤ a by omega)
    obtain ⟨k, rfl⟩ := Int.eq_ofNat_of_zero_le g3
    by_cases h1 : max most 0 < (k : Int)
    · have Hf := Lib.hid (ht.trans (if_pos h1))
      have h2 : 0 < (k : Int) := by omega
      have h3 : most < (k : Int) := by omega
      clear ht h1
      go_enter Try.func16, Try.ntmps16
      go_wp2_with fail
      refine Hget.out.mono ?_
      rintro e w1 ⟨rfl, rfl⟩
      go_wp2_with fail
      go_ret3
      exact ⟨by rw [Hf.out]; rfl, rfl⟩
    · rw [if_neg h1] at ht
      by_cases h2 : (s.size : Int) - p < k
      · have Hf := Lib.hid (ht.trans (if_pos h2))
        have h3 : ¬ (0 < (k : Int)) ∨ ¬ most < (k : Int) := by omega
        clear ht h1
        by_cases h4 : 0 < (k : Int)
        · have h5 : ¬ most < (k : Int) := by omega
          clear h3
          go_enter Try.func16, Try.ntmps16
          go_wp2_with fail
          refine Hget.out.mono ?_
          rintro e w1 ⟨rfl, rfl⟩
          go_wp2_with fail
          go_ret3
          exact ⟨by rw [Hf.out]; rfl, rfl⟩
        · omega
      · rw [if_neg h2, Int.toNat_natCast, ← Int.natCast_add, Int.toNat_natCast] at ht
        have Hf := Lib.hid ht
        have h3 : p + k ≤ s.size := by omega
        clear ht
        by_cases h4 : 0 < (k : Int)
        · have h5 : ¬ most < (k : Int) := by omega
          clear h1
          go_enter Try.func16, Try.ntmps16
          go_wp2_with fail
          refine Hget.out.mono ?_
          rintro e w1 ⟨rfl, rfl⟩
          go_wp2_with fail
          go_ret3
          exact ⟨by rw [Hf.out]; rfl, rfl⟩
        · clear h1
          go_enter Try.func16, Try.ntmps16
          go_wp2_with fail
          refine Hget.out.mono ?_
          rintro e w1 ⟨rfl, rfl⟩
          go_wp2_with fail
          go_ret3
          exact ⟨by rw [Hf.out]; rfl, rfl⟩
  · have Hf := Lib.hid (ht.trans (if_pos heq))
    have hnb : ((getR s at_).1 != 0) = true := by simp [heq]
    have Hget := Lib.hid hget
    clear ht hget heq
    generalize getR s at_ = r at *
    obtain ⟨r0, n, a⟩ := r
    go_enter Try.func16, Try.ntmps16
    go_wp2_with fail
    refine Hget.out.mono ?_
    rintro e w1 ⟨rfl, rfl⟩
    go_wp2_with fail
    go_ret3
    exact ⟨by rw [Hf.out]; rfl, rfl⟩

/-- A slice of integers in memory. -/
def IntsAt (w : World) (v : Value) (xs : List Int) : Prop :=
  (∃ a cap, v = .slice a 0 cap ∧ xs = []) ∨
  ∃ b off len cap, v = .slice (some ⟨b, off, none⟩) len cap ∧ xs.length = len ∧ 0 < len ∧ b < w.heap.size ∧ len ≤ cap ∧ ∀ i, i < len → w.cell? ⟨b, off + i, none⟩ = some (.int .i64 (xs.getD i 0))
theorem IntsAt.below {w w' : World} {v : Value} {xs : List Int} (h : IntsAt w v xs) (hb : Below w.heap.size w w') : IntsAt w' v xs := by
  rcases h with h | ⟨b, off, len, cap, h1, h2, h3, h4, h6, h5⟩
  · exact .inl h
  · exact .inr ⟨b, off, len, cap, h1, h2, h3, by have := hb.size; omega, h6, fun i hi => (hb.cell (by exact h4)).trans (h5 i hi)⟩
theorem IntsAt.owns {w : World} {base : Nat} {e : TypeId} {v : Value} {xs : List Int} (h : w.ownsRow base e 1 v xs.length (xs.map (Value.int .i64))) : IntsAt w v xs := by
  by_cases hx : xs.length = 0
  · obtain ⟨ao, cap, rfl⟩ := owns_slice h
    exact .inl ⟨ao, cap, by rw [hx], List.length_eq_zero_iff.1 hx⟩
  · have hc := fun g => h.cells (g := g)
    rcases h.2 with ⟨_, h0⟩ | ⟨g, cap, cur, rfl, _, hg, hle, _⟩
    · omega
    · refine .inr ⟨g, 0, xs.length, cap, rfl, rfl, by omega, lt_of_block hg, hle, fun i hi => ?_⟩
      have := hc g rfl i (.int .i64 (xs.getD i 0)) (by simp [List.getD, hi])
      have e : (⟨g, 0, none⟩ : Addr).add i = ⟨g, 0 + i, none⟩ := by unfold Addr.add; split <;> simp_all
      rw [e] at this; exact this

theorem ints_eq {xs ys : List Int} (hl : xs.length = ys.length) (h : ∀ j, j < xs.length → xs.getD j 0 = ys.getD j 0) : xs = ys := by
  apply List.ext_getElem hl
  intro i h1 h2
  have := h i h1
  simpa [List.getD, h1, h2] using this

set_option maxHeartbeats 1000000 in
theorem rints_any (v u : Value) (xs ys : List Int) (w : World) (hv : IntsAt w v xs) (hu : IntsAt w u ys) (h1 : xs.length ≤ 1000000) (h2 : ys.length ≤ 1000000) :
    Calls Try.prog 23 #[v, u] w fun e w' => e = .returned (.bool (decide (xs = ys))) ∧ ∃ n, w.drewN n = w' := by
  rcases hv with ⟨a, cap, rfl, rfl⟩ | ⟨b, off, len, cap, rfl, hl, hp, hb, hlc, hc⟩
  · rcases hu with ⟨a', cap', rfl, rfl⟩ | ⟨b', off', len', cap', rfl, hl', hp', hb', hlc', hc'⟩
    · go_enter Try.func23, Try.ntmps23
      go_wp2_with fail
      refine wp_loop_rounds 1 ?_
      rw [rounds_succ]
      go_wp2_with fail
      go_ret
      exact ⟨rfl, 0, rfl⟩
    · have hd : decide (([] : List Int) = ys) = false := decide_eq_false (fun h => by rw [← h] at hl'; simp at hl'; omega)
      have Hd := Lib.hid hd
      have hn : ((0 : Int) != (len' : Int)) = true := by rw [bne_iff_ne]; omega
      clear hc' hl' hd
      go_enter Try.func23, Try.ntmps23
      go_wp2_with fail
      go_ret
      exact ⟨by rw [Hd.out]; rfl, 0, rfl⟩
  · rcases hu with ⟨a', cap', rfl, rfl⟩ | ⟨b', off', len', cap', rfl, hl', hp', hb', hlc', hc'⟩
    · have hd : decide (xs = ([] : List Int)) = false := decide_eq_false (fun h => by rw [h] at hl; simp at hl; omega)
      have Hd := Lib.hid hd
      have hn : ((len : Int) != 0) = true := by rw [bne_iff_ne]; omega
      clear hc hl hd
      go_enter Try.func23, Try.ntmps23
      go_wp2_with fail
      go_ret
      exact ⟨by rw [Hd.out]; rfl, 0, rfl⟩
    · by_cases hll : len = len'
      · subst hll
        have Hc := Lib.hid hc
        have Hc' := Lib.hid hc'
        have Hl := Lib.hid hl
        have Hl' := Lib.hid hl'
        have hlb : len ≤ 1000000 := by omega
        clear hc hc' hl hl' h1 h2
        go_enter Try.func23, Try.ntmps23
        go_wp2_with fail
        go_loopw [5] (fun i wr => ∃ k : Nat, i = .int .i64 k ∧ k ≤ len ∧ (∀ j, j < k → xs.getD j 0 = ys.getD j 0) ∧ ∃ n, wr = w.drewN n) (fun i _ => len - (intOf i).toNat)
        case atStart => exact ⟨0, rfl, by omega, fun j hj => by omega, 0, rfl⟩
        case round =>
          obtain ⟨k, rfl, hk, hsame, n, rfl⟩ := hrel
          have Hs := Lib.hid hsame
          clear hsame
          by_cases hlt : k < len
          · have c1 := Hc.out k hlt
            have c2 := Hc'.out k hlt
            by_cases he : xs.getD k 0 = ys.getD k 0
            · have He := Lib.hid he
              obtain ⟨x, hx⟩ : ∃ x, x = ys.getD k 0 := ⟨_, rfl⟩
              rw [he, ← hx] at c1
              rw [← hx] at c2
              clear he hx
              go_wp2_with fail
              have hlt' : (k : Int) < len := by omega
              go_quiet (fail)
              go_wp2_with fail
              go_roundw
              case rel =>
                refine ⟨k + 1, by go_num, by omega, fun j hj => ?_, _, rfl⟩
                by_cases hjk : j < k
                · exact Hs.out j hjk
                · obtain rfl : j = k := by omega
                  exact He.out
              case measure => simp [intOf]; omega
            · obtain ⟨x, hx⟩ : ∃ x, x = xs.getD k 0 := ⟨_, rfl⟩
              obtain ⟨y, hy⟩ : ∃ y, y = ys.getD k 0 := ⟨_, rfl⟩
              have hd : decide (xs = ys) = false := decide_eq_false (fun h => he (by rw [h]))
              have Hd := Lib.hid hd
              rw [← hx, ← hy] at he
              rw [← hx] at c1
              rw [← hy] at c2
              have hn : (x != y) = true := by rw [bne_iff_ne]; exact he
              clear hx hy hd he
              go_wp2_with fail
              have hlt' : (k : Int) < len := by omega
              go_quiet (fail)
              go_wp2_with fail
              go_ret
              exact ⟨by rw [Hd.out]; rfl, _, (World.drewN_drewN _ _ _).symm⟩
          · go_wp2_with fail
            go_ret
            have : xs = ys := ints_eq (by rw [Hl.out, Hl'.out]) (fun j hj => Hs.out j (by rw [Hl.out] at hj; omega))
            exact ⟨by rw [this]; simp, n, rfl⟩
      · have hd : decide (xs = ys) = false := decide_eq_false (fun h => by rw [h] at hl; omega)
        have Hd := Lib.hid hd
        have hn : ((len : Int) != (len' : Int)) = true := by rw [bne_iff_ne]; omega
        clear hc hl hd hc' hl' hll
        go_enter Try.func23, Try.ntmps23
        go_wp2_with fail
        go_ret
        exact ⟨by rw [Hd.out]; rfl, 0, rfl⟩
end Go.Proofs.Ytefgedabakecnaa
