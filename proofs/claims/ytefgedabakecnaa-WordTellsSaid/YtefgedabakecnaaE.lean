/- Get. -/
import Derived.Test.YtefgedabakecnaaD
import Derived.RegionTactic
import Derived.ChangeAlike
namespace Go.Proofs.Ytefgedabakecnaa
open Go.RowKit Go.PlainAid

/-- Get's work: its four captured variables are blocks of one cell each. -/
def WorkPost (s : ByteArray) (at_ : Int) (Bn Bt : Nat) (w : World) (e : Ending) (w' : World) : Prop :=
  ∃ w1, Below w.heap.size w w1 ∧ (((getR s at_).1 ≠ 0 ∧ Panics (getR s at_).1 e ∧ w1 = w') ∨
    ((getR s at_).1 = 0 ∧ e = .returned (.tuple #[]) ∧ (w1.setCell ⟨Bn, 0, none⟩ (.int .i64 (getR s at_).2.1)).setCell ⟨Bt, 0, none⟩ (.int .i64 (getR s at_).2.2) = w'))

set_option maxHeartbeats 400000 in
theorem getWork_any (s : ByteArray) (at_ : Int) (B0 B1 Bn Bt : Nat) (w : World) (hs : s.size ≤ maxLen)
    (h0 : w.heap[B0]? = some (.cells #[.string s] 9 (0, 0))) (h1 : w.heap[B1]? = some (.cells #[.int .i64 at_] 3 (0, 0)))
    (hn : w.heap[Bn]? = some (.cells #[.int .i64 0] 3 (0, 0))) (ht : w.heap[Bt]? = some (.cells #[.int .i64 0] 3 (0, 0))) (hne : Bt ≠ Bn) :
    Calls Try.prog 26 #[.pointer (some ⟨B0, 0, none⟩), .pointer (some ⟨B1, 0, none⟩), .pointer (some ⟨Bn, 0, none⟩), .pointer (some ⟨Bt, 0, none⟩)] w (WorkPost s at_ Bn Bt w) := by
  have c0 := cell_of_one h0
  have c1 := cell_of_one h1
  have ln := lt_of_block hn
  have lt := lt_of_block ht
  go_enter Try.func26, Try.ntmps26
  go_wp2_with fail
  refine (numberAt_any s at_ _ hs).mono ?_
  rintro e w' ⟨hb, ⟨hne, hp⟩ | ⟨heq, rfl⟩⟩
  · unfold Panics at hp
    subst hp
    exact ⟨rfl, w', hb, .inl ⟨hne, rfl, rfl⟩⟩
  · have hn' : w'.heap[Bn]? = some (.cells #[.int .i64 0] 3 (0, 0)) := by rw [hb.block _ ln]; exact hn
    have ht' : w'.heap[Bt]? = some (.cells #[.int .i64 0] 3 (0, 0)) := by rw [hb.block _ lt]; exact ht
    have ht2 : (w'.setCell ⟨Bn, 0, none⟩ (.int .i64 (getR s at_).2.1)).heap[Bt]? = some (.cells #[.int .i64 0] 3 (0, 0)) := by
      rw [Below.heap_setCell _ _ _ _ hne]; exact ht'
    have d1 := cell_of_one hn'
    have d2 := free_of_one hn'
    have d3 := cell_of_one ht2
    have d4 := free_of_one ht2
    have Heq := Lib.hid heq
    have HB := Lib.hid hb
    clear hn' ht' ht2 heq hb c0 c1 hn ht h0 h1
    go_wp2_with fail
    go_end0
    exact ⟨w', HB.out, .inr ⟨Heq.out, rfl, rfl⟩⟩

/-- Behind the guard in Get: what the two named results' cells hold. -/
def GetMid (w : World) (n t : Int) (w' : World) : Prop :=
  Below w.heap.size w w' ∧ w.heap.size + 4 ≤ w'.heap.size ∧ w'.heap[w.heap.size + 2]? = some (.cells #[.int .i64 n] 3 (0, 0)) ∧ w'.heap[w.heap.size + 3]? = some (.cells #[.int .i64 t] 3 (0, 0))
theorem GetMid.set {w w' : World} {n t : Int} (h : GetMid w n t w') (k : Nat) (hk : w.heap.size + 4 ≤ k) (v : Value) : GetMid w n t (w'.setCell ⟨k, 0, none⟩ v) := by
  obtain ⟨h1, h2, h3, h4⟩ := h
  refine ⟨h1.setCell (by simp; omega) _, by simpa using h2, ?_, ?_⟩
  · rw [Below.heap_setCell _ _ _ _ (by simp; omega)]; exact h3
  · rw [Below.heap_setCell _ _ _ _ (by simp; omega)]; exact h4
theorem getR_zero {s : ByteArray} {a : Int} (h : (getR s a).1 ≠ 0) : (getR s a).2.1 = 0 ∧ (getR s a).2.2 = 0 := by
  unfold getR at *; split
  · exact ⟨rfl, rfl⟩
  · split
    · simp_all
    · exact ⟨rfl, rfl⟩

theorem below_four (w : World) (o0 o1 o2 o3 : Obj) : Below w.heap.size w ((((w.alloc o0).alloc o1).alloc o2).alloc o3) :=
  ((((Below.refl _ _).alloc (Nat.le_refl _) _).alloc (by simp) _).alloc (by simp; omega) _).alloc (by simp; omega) _
theorem heap_push (w : World) (o : Obj) (k : Nat) : (w.alloc o).heap[k]? = if k = w.heap.size then some o else w.heap[k]? := by
  show (w.heap.push o)[k]? = _
  rw [Array.getElem?_push]
theorem size_new (w : World) (o : Obj) : (w.alloc o).heap.size = w.heap.size + 1 := by show (w.heap.push o).size = _; simp

set_option maxHeartbeats 400000 in
theorem get_any (s : ByteArray) (at_ : Int) (w : World) (hs : s.size ≤ maxLen) :
    Calls Try.prog 11 #[.string s, .int .i64 at_] w fun e w' =>
      e = .returned (.tuple #[.int .i64 (getR s at_).2.1, .int .i64 (getR s at_).2.2, .int .i64 (getR s at_).1]) ∧ Below w.heap.size w w' := by
  have hmf : ∀ (fn : Fn) (first cap : Array Value) (w : World), (Instr.makeFunc fn first cap).run Try.prog w = .ok (.func fn first cap) w := fun _ _ _ _ => rfl
  go_enter Try.func11, Try.ntmps11
  go_wp2_with fail
  refine (guard_any 26 _ _ (fun w' => (getR s at_).1 = 0 ∧ GetMid w (getR s at_).2.1 (getR s at_).2.2 w') (fun k w' => k = (getR s at_).1 ∧ GetMid w (getR s at_).2.1 (getR s at_).2.2 w') (fun _ => by kernel_rfl) ?_).mono ?_
  · refine (getWork_any s at_ w.heap.size (w.heap.size + 1) (w.heap.size + 2) (w.heap.size + 3) _ hs
      (by simp only [heap_push, size_new]; repeat (first | rw [if_pos trivial] | rw [if_pos (by omega)] | rw [if_neg (by omega)])) (by simp only [heap_push, size_new]; repeat (first | rw [if_pos trivial] | rw [if_pos (by omega)] | rw [if_neg (by omega)])) (by simp only [heap_push, size_new]; repeat (first | rw [if_pos trivial] | rw [if_pos (by omega)] | rw [if_neg (by omega)])) (by simp only [heap_push, size_new]; repeat (first | rw [if_pos trivial] | rw [if_pos (by omega)] | rw [if_neg (by omega)])) (by omega)).mono ?_
    have hblk : ∀ k, k ≤ 4 → 2 ≤ k → (((((w.alloc (.cells #[.string s] 9)).alloc (.cells #[.int .i64 at_] 3)).alloc (.cells #[.int .i64 0] 3)).alloc (.cells #[.int .i64 0] 3)).alloc (.cells #[.int .i64 0] 24)).heap[w.heap.size + k]? = some (.cells #[.int .i64 0] (if k = 4 then 24 else 3) (0, 0)) := by
      intro k h1 h2
      have : k = 2 ∨ k = 3 ∨ k = 4 := by omega
      rcases this with rfl | rfl | rfl <;> exact (by simp only [heap_push, size_new]; repeat (first | rw [if_pos trivial] | rw [if_pos (by omega)] | rw [if_neg (by omega)]))
    have hb5 : Below w.heap.size w (((((w.alloc (.cells #[.string s] 9)).alloc (.cells #[.int .i64 at_] 3)).alloc (.cells #[.int .i64 0] 3)).alloc (.cells #[.int .i64 0] 3)).alloc (.cells #[.int .i64 0] 24)) := (below_four w _ _ _ _).alloc (by simp only [size_new]; omega) _
    have hz5 : (((((w.alloc (.cells #[.string s] 9)).alloc (.cells #[.int .i64 at_] 3)).alloc (.cells #[.int .i64 0] 3)).alloc (.cells #[.int .i64 0] 3)).alloc (.cells #[.int .i64 0] 24)).heap.size = w.heap.size + 5 := by simp only [size_new]
    generalize (((((w.alloc (.cells #[.string s] 9)).alloc (.cells #[.int .i64 at_] 3)).alloc (.cells #[.int .i64 0] 3)).alloc (.cells #[.int .i64 0] 3)).alloc (.cells #[.int .i64 0] 24)) = W5 at hblk hb5 hz5
    rintro e w' ⟨w1, hb, hq⟩
    rw [hz5] at hb
    have hB : Below w.heap.size w w1 := hb5.trans (hb.mono (by omega))
    have hk : ∀ k, k ≤ 4 → 2 ≤ k → w1.heap[w.heap.size + k]? = some (.cells #[.int .i64 0] (if k = 4 then 24 else 3) (0, 0)) := fun k h1 h2 => by rw [hb.block _ (by omega)]; exact hblk k h1 h2
    have hz : w.heap.size + 4 ≤ w1.heap.size := by have := hb.size; omega
    rcases hq with ⟨hne, hp, rfl⟩ | ⟨heq, rfl, rfl⟩
    · refine ⟨by simp only [size_new]; exact hk 4 (by omega) (by omega), .inr ⟨_, hp, rfl, hB, hz, ?_, ?_⟩⟩
      · rw [(getR_zero hne).1]; exact hk 2 (by omega) (by omega)
      · rw [(getR_zero hne).2]; exact hk 3 (by omega) (by omega)
    · refine ⟨?_, .inl ⟨rfl, heq, (hB.setCell (by simp) _).setCell (by simp) _, by simpa using hz, ?_, ?_⟩⟩
      · simp only [size_new]; rw [Below.heap_setCell _ _ _ _ (by simp), Below.heap_setCell _ _ _ _ (by simp <;> omega)]; exact hk 4 (by omega) (by omega)
      · rw [Below.heap_setCell _ _ _ _ (by simp)]; exact one_setCell (hk 2 (by omega) (by omega))
      · exact one_setCell (by rw [Below.heap_setCell _ _ _ _ (by simp)]; exact hk 3 (by omega) (by omega))
  rintro e w' ⟨k, w1, rfl, rfl, hq⟩
  have hq' : k = (getR s at_).1 ∧ GetMid w (getR s at_).2.1 (getR s at_).2.2 w1 := by
    rcases hq with ⟨h1, h2, h3⟩ | hq
    · exact ⟨by rw [h1, h2], h3⟩
    · exact hq
  obtain ⟨rfl, hm⟩ := hq'
  have hm2 := hm.set (w.heap.size + 1 + 1 + 1 + 1) (by omega) (.int .i64 (getR s at_).1)
  simp only [size_new]
  obtain ⟨hB, hz, d1, d2⟩ := hm2
  have c1 := cell_of_one d1
  have f1 := free_of_one d1
  have c2 := cell_of_one d2
  have f2 := free_of_one d2
  have HB := Lib.hid hB
  clear hq hm hB d1 d2
  go_wp2_with fail
  go_region
  go_wp2_with fail
  refine bodyPost_ret (v := .tuple #[.int .i64 (getR s at_).2.1, .int .i64 (getR s at_).2.2, .int .i64 (getR s at_).1]) ?_ rfl ⟨rfl, ?_⟩
  · simp [results, Try.results11, go_sem, c1, c2]
  · exact ((HB.out.setCell (by simp; omega) _).setCell (by simp; omega) _).drew
end Go.Proofs.Ytefgedabakecnaa
