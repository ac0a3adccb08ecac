/- numbers; All. -/
import Derived.Test.YtefgedabakecnaaE
namespace Go.Proofs.Ytefgedabakecnaa
open Go.RowKit Go.PlainAid

/-- The numbers from place p on, behind those that are read: what is wrong, all. -/
def allGo (s : ByteArray) : Nat → Nat → List Int → Int × List Int
  | 0, _, acc => (0, acc)
  | f + 1, p, acc => if s.size ≤ p then (0, acc) else if (num s p).1 = 0 then allGo s f (p + (num s p).2.2) (acc ++ [(num s p).2.1]) else ((num s p).1, [])
def allR (s : ByteArray) : Int × List Int := allGo s (s.size + 1) 0 []

theorem ownsRow_only {w w' : World} {base B : Nat} {e : TypeId} {size : Nat} {v : Value} {n : Nat} {xs : List Value} (h : w.ownsRow base e size v n xs) (ho : Only B w w') (hB : B < base) : w'.ownsRow base e size v n xs := by
  obtain ⟨h1, h2⟩ := h
  refine ⟨h1, ?_⟩
  rcases h2 with h2 | ⟨g, cap, cur, hv, hg, hh, r⟩
  · exact Or.inl h2
  · exact Or.inr ⟨g, cap, cur, hv, hg, by rw [ho.block _ (by omega)]; exact hh, r⟩

theorem ownsRow_base {w : World} {base B : Nat} {e : TypeId} {size : Nat} {v : Value} {n : Nat} {xs : List Value} (h : w.ownsRow base e size v n xs) (hB : B ≤ base) : w.ownsRow B e size v n xs := by
  obtain ⟨h1, h2⟩ := h
  refine ⟨h1, ?_⟩
  rcases h2 with h2 | ⟨g, cap, cur, hv, hg, hh, r⟩
  · exact Or.inl h2
  · exact Or.inr ⟨g, cap, cur, hv, by omega, hh, r⟩

def NumsPost (s : ByteArray) (w : World) (e : Ending) (w' : World) : Prop :=
  Below w.heap.size w w' ∧ (((allR s).1 ≠ 0 ∧ Panics (allR s).1 e) ∨
    ((allR s).1 = 0 ∧ ∃ v, e = .returned v ∧ w'.ownsRow w.heap.size 3 1 v (allR s).2.length ((allR s).2.map (Value.int .i64))))

/-- The head of the round. -/
def NumsHead (s : ByteArray) (w : World) (p : Nat) (acc : List Int) (v : Value) (wr : World) : Prop :=
  p ≤ s.size ∧ acc.length ≤ p ∧ (∃ f, s.size < p + f ∧ allGo s f p acc = allR s) ∧ Below w.heap.size w wr ∧ w.heap.size + 2 ≤ wr.heap.size ∧
  wr.heap[w.heap.size]? = some (.cells #[.string s] 9 (0, 0)) ∧ wr.heap[w.heap.size + 1]? = some (.cells #[.int .i64 (p : Int)] 3 (0, 0)) ∧
  wr.ownsRow (w.heap.size + 2) 3 1 v acc.length (acc.map (Value.int .i64))

theorem Try.info3 : (Try.prog.info? 3).map (fun i => (i.zero, i.size, i.bytes)) = some (some (.int .i64 0), 1, 8) := by kernel_rfl

theorem nums_step {s : ByteArray} {w wr w1 : World} {p : Nat} {acc : List Int} {v : Value} (h : NumsHead s w p acc v wr) (hp : p < s.size) (he : (num s p).1 = 0) (ho : Only (w.heap.size + 1) wr w1)
    (hc : w1.heap[w.heap.size + 1]? = some (.cells #[.int .i64 ((p + (num s p).2.2 : Nat) : Int)] 3 (0, 0))) (w2 : World) (v2 : Value) (o : Obj) (hg : (w1.alloc o).grownBy w2 v.ownBlock)
    (hown : w2.ownsRow (w.heap.size + 2) 3 1 v2 (acc.length + 1) (acc.map (Value.int .i64) ++ [.int .i64 (num s p).2.1])) :
    NumsHead s w (p + (num s p).2.2) (acc ++ [(num s p).2.1]) v2 w2 := by
  obtain ⟨h1, h2, ⟨f, h3, h4⟩, h5, h6, h7, h8, h9⟩ := h
  obtain ⟨g1, g2, g3, g4, g5⟩ := num_in s p he
  have hv := h9.lt
  have hz1 : w1.heap.size = wr.heap.size := ho.size
  have hz2 : (w1.alloc o).heap.size = wr.heap.size + 1 := by rw [size_new, hz1]
  have hbl : ∀ k, k < w.heap.size + 2 → w2.heap[k]? = w1.heap[k]? := fun k hk => by
    rw [hg.block k (by omega) (fun e => by have := hv k e.symm; omega), heap_push, if_neg (by omega)]
  refine ⟨by omega, by simp; omega, ?_, ?_, ?_, ?_, ?_, ?_⟩
  · cases f with
    | zero => omega
    | succ f => exact ⟨f, by omega, by rw [← h4, allGo, if_neg (by omega), if_pos he]⟩
  · exact ⟨hg.os.trans (ho.os.trans h5.os), hg.tape.trans (ho.tape.trans h5.tape), hg.output.trans (ho.output.trans h5.output), by have := hg.size; omega, fun k hk => by
      rw [hbl k (by omega), ho.block k (by omega), h5.block k hk]⟩
  · have := hg.size; omega
  · rw [hbl _ (by omega), ho.block _ (by omega)]; exact h7
  · rw [hbl _ (by omega)]; exact hc
  · simpa using hown

set_option maxHeartbeats 1000000 in
theorem numbers_any (s : ByteArray) (w : World) (hs : s.size ≤ 1000000) :
    Calls Try.prog 29 #[.string s] w (NumsPost s w) := by
  obtain ⟨i0, hi, hz0, hz1, hz2⟩ := info_parts Try.info3
  go_enter Try.func29, Try.ntmps29
  go_wp2_with (go_at_call 39; refine (from_any s _ _).mono ?_; rintro e w' ⟨rfl, rfl⟩)
  go_loopw [3, 5] (fun v i wr => ∃ (p : Nat) (acc : List Int), i = .int .i64 p ∧ NumsHead s w p acc v wr) (fun _ i _ => s.size - (intOf i).toNat)
  case atStart =>
    refine ⟨0, [], rfl, by omega, by simp, ⟨s.size + 1, by omega, rfl⟩, ((Below.refl _ _).alloc (Nat.le_refl _) _).alloc (by simp) _, by simp only [size_new]; omega, ?_, ?_, World.ownsRow_nil _ _ _ _⟩
    · simp only [heap_push, size_new]; rw [if_neg (by omega), if_pos trivial]
    · simp only [heap_push, size_new]; rw [if_pos trivial]; rfl
  case round =>
    obtain ⟨p, acc, rfl, hh⟩ := hrel
    have hH := Lib.hid hh
    obtain ⟨h1, h2, h3, h4, h5, h6, h7, h8⟩ := hh
    by_cases hlt : p < s.size
    · have hnum := number_any s p (w.heap.size + 1) w.heap.size wr h7 h6 (by unfold maxLen; omega) (by omega)
      have Hnum := Lib.hid hnum
      have HO := Lib.hid h8
      have HB := Lib.hid h4
      clear hnum h3 h6 h7 h8 h4
      go_wp2_with fail
      refine Hnum.out.mono ?_
      rintro e w1 ⟨ho, ⟨hne, hp⟩ | ⟨heq, rfl, hcell⟩⟩
      · obtain ⟨h1, h2, ⟨f, h9, h10⟩, h4, h5, h6, h7, h8⟩ := hH.out
        have hall : allR s = ((num s p).1, []) := by
          rw [← h10]
          cases f with
          | zero => omega
          | succ f => rw [allGo, if_neg (by omega), if_neg hne]
        unfold Panics at hp
        subst hp
        exact ⟨rfl, h4.trans (ho.below (by omega)), .inl (by rw [hall]; exact ⟨hne, rfl⟩)⟩
      · obtain ⟨g1, g2, g3, g4, g5⟩ := num_in s p heq
        have Heq := Lib.hid heq
        have Ho := Lib.hid ho
        have Hc := Lib.hid hcell
        have hsz : w1.heap.size = wr.heap.size := ho.size
        have Hsz := Lib.hid hsz
        have hst := @nums_step s w wr w1 p acc _ hH.out hlt heq ho hcell
        have Hst := Lib.hid hst
        clear hst hsz heq ho hcell
        generalize num s p = r at *
        obtain ⟨r0, r1, r2⟩ := r
        dsimp only at g1 g2 g3 g4 g5
        go_wp2_with (at_builtin; refine wpList_append_own _ rfl _ _ 22 rfl (w.heap.size + 2) 3 i0 (.int .i64 0) 1 8 Try.underlying22 hi hz0 hz1 hz2 rfl (by decide) _ _ _ rfl ((ownsRow_only HO.out Ho.out (by omega)).alloc _) ⟨w1.heap.size, 0, none⟩ 1 1 [.int .i64 r1] rfl rfl (cell_one_new _ _ _) ?c2 ?c3 ?c4 ?c5 ?_)
        case c2 => intro u hu; simp at hu; subst hu; rfl
        case c3 => unfold maxLen; omega
        case c4 => omega
        case c5 => rw [size_new, Hsz.out]; omega
        intro v' w2 hown hg _
        have hst := Lib.hid (Hst.out _ _ _ hg hown)
        clear hown hg
        go_wp2_with fail
        go_roundw
        case rel => exact ⟨p + r2, acc ++ [r1], by go_num, hst.out⟩
        case measure => simp [intOf]; omega
    · go_wp2_with fail
      go_ret
      obtain ⟨f, h9, h10⟩ := h3
      have hall : allR s = (0, acc) := by
        rw [← h10]
        cases f with
        | zero => omega
        | succ f => rw [allGo, if_pos (by omega)]
      exact ⟨h4, .inr (by rw [hall]; exact ⟨rfl, _, rfl, ownsRow_base h8 (by omega)⟩)⟩
end Go.Proofs.Ytefgedabakecnaa
