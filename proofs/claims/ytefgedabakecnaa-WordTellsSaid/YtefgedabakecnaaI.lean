/- All; Take. -/
import Derived.Test.YtefgedabakecnaaF
import Derived.Test.YtefgedabakecnaaH
namespace Go.Proofs.Ytefgedabakecnaa
open Go.RowKit Go.PlainAid

theorem owns_slice {w : World} {base : Nat} {e : TypeId} {size : Nat} {v : Value} {n : Nat} {xs : List Value} (h : w.ownsRow base e size v n xs) : ∃ ao cap, v = .slice ao n cap := by
  rcases h.2 with ⟨hv, h0⟩ | ⟨g, cap, cur, hv, _⟩
  · exact ⟨none, 0, by rw [hv, h0]⟩
  · exact ⟨_, _, hv⟩

def AllWork (s : ByteArray) (Bl : Nat) (w : World) (e : Ending) (w' : World) : Prop :=
  ∃ w1, Below w.heap.size w w1 ∧ (((allR s).1 ≠ 0 ∧ Panics (allR s).1 e ∧ w1 = w') ∨
    ((allR s).1 = 0 ∧ e = .returned (.tuple #[]) ∧ ∃ v, w1.ownsRow w.heap.size 3 1 v (allR s).2.length ((allR s).2.map (Value.int .i64)) ∧ w1.setCell ⟨Bl, 0, none⟩ v = w'))

set_option maxHeartbeats 400000 in
theorem allWork_any (s : ByteArray) (B0 Bl : Nat) (w : World) (hs : s.size ≤ 1000000)
    (h0 : w.heap[B0]? = some (.cells #[.string s] 9 (0, 0))) (hl : w.heap[Bl]? = some (.cells #[.slice none 0 0] 22 (0, 0))) :
    Calls Try.prog 28 #[.pointer (some ⟨B0, 0, none⟩), .pointer (some ⟨Bl, 0, none⟩)] w (AllWork s Bl w) := by
  have c0 := cell_of_one h0
  have ln := lt_of_block hl
  go_enter Try.func28, Try.ntmps28
  go_wp2_with fail
  refine (numbers_any s _ hs).mono ?_
  rintro e w' ⟨hb, ⟨hne, hp⟩ | ⟨heq, v, rfl, hown⟩⟩
  · unfold Panics at hp
    subst hp
    exact ⟨rfl, w', hb, .inl ⟨hne, rfl, rfl⟩⟩
  · have hl' : w'.heap[Bl]? = some (.cells #[.slice none 0 0] 22 (0, 0)) := by rw [hb.block _ ln]; exact hl
    have d1 := cell_of_one hl'
    have d2 := free_of_one hl'
    obtain ⟨ao, cap, rfl⟩ := owns_slice hown
    have Heq := Lib.hid heq
    have HB := Lib.hid hb
    have HO := Lib.hid hown
    clear hl' heq hb c0 hl h0 hown
    go_wp2_with fail
    go_end0
    exact ⟨w', HB.out, .inr ⟨Heq.out, rfl, _, HO.out, rfl⟩⟩

def AllMid (w : World) (l : List Int) (w' : World) : Prop :=
  Below w.heap.size w w' ∧ w.heap.size + 2 ≤ w'.heap.size ∧ ∃ v, w'.heap[w.heap.size + 1]? = some (.cells #[v] 22 (0, 0)) ∧ w'.ownsRow (w.heap.size + 3) 3 1 v l.length (l.map (Value.int .i64))

theorem allR_err {s : ByteArray} (h : (allR s).1 ≠ 0) : (allR s).2 = [] := by
  have : ∀ f p acc, (allGo s f p acc).1 ≠ 0 → (allGo s f p acc).2 = [] := by
    intro f
    induction f with
    | zero => intro p acc h; simp [allGo] at h
    | succ f ih =>
      intro p acc h
      simp only [allGo] at *
      split at h
      · simp at h
      · split at h
        · rename_i h1 h2; rw [if_neg h1, if_pos h2]; exact ih _ _ h
        · rename_i h1 h2; rw [if_neg h1, if_neg h2]
  exact this _ _ _ h

def AllPost (s : ByteArray) (w : World) (e : Ending) (w' : World) : Prop :=
  ∃ v, e = .returned (.tuple #[v, .int .i64 (allR s).1]) ∧ w'.ownsRow w.heap.size 3 1 v (allR s).2.length ((allR s).2.map (Value.int .i64)) ∧ Below w.heap.size w w'

set_option maxHeartbeats 400000 in
theorem all_any (s : ByteArray) (w : World) (hs : s.size ≤ 1000000) :
    Calls Try.prog 13 #[.string s] w (AllPost s w) := by
  have hmf : ∀ (fn : Fn) (first cap : Array Value) (w : World), (Instr.makeFunc fn first cap).run Try.prog w = .ok (.func fn first cap) w := fun _ _ _ _ => rfl
  go_enter Try.func13, Try.ntmps13
  go_wp2_with fail
  refine (guard_any 28 _ _ (fun w' => (allR s).1 = 0 ∧ AllMid w (allR s).2 w') (fun k w' => k = (allR s).1 ∧ AllMid w (allR s).2 w') (fun _ => by kernel_rfl) ?_).mono ?_
  · refine (allWork_any s w.heap.size (w.heap.size + 1) _ hs
      (by simp only [heap_push, size_new]; repeat (first | rw [if_pos trivial] | rw [if_pos (by omega)] | rw [if_neg (by omega)])) (by simp only [heap_push, size_new]; repeat (first | rw [if_pos trivial] | rw [if_pos (by omega)] | rw [if_neg (by omega)]))).mono ?_
    have hb5 : Below w.heap.size w (((w.alloc (.cells #[.string s] 9)).alloc (.cells #[.slice none 0 0] 22)).alloc (.cells #[.int .i64 0] 24)) :=
      (((Below.refl _ _).alloc (Nat.le_refl _) _).alloc (by simp only [size_new]; omega) _).alloc (by simp only [size_new]; omega) _
    have hz5 : (((w.alloc (.cells #[.string s] 9)).alloc (.cells #[.slice none 0 0] 22)).alloc (.cells #[.int .i64 0] 24)).heap.size = w.heap.size + 3 := by simp only [size_new]
    have k1 : (((w.alloc (.cells #[.string s] 9)).alloc (.cells #[.slice none 0 0] 22)).alloc (.cells #[.int .i64 0] 24)).heap[w.heap.size + 1]? = some (.cells #[.slice none 0 0] 22 (0, 0)) := by
      simp only [heap_push, size_new]; repeat (first | rw [if_pos trivial] | rw [if_pos (by omega)] | rw [if_neg (by omega)])
    have k2 : (((w.alloc (.cells #[.string s] 9)).alloc (.cells #[.slice none 0 0] 22)).alloc (.cells #[.int .i64 0] 24)).heap[w.heap.size + 2]? = some (.cells #[.int .i64 0] 24 (0, 0)) := by
      simp only [heap_push, size_new]; repeat (first | rw [if_pos trivial] | rw [if_pos (by omega)] | rw [if_neg (by omega)])
    generalize (((w.alloc (.cells #[.string s] 9)).alloc (.cells #[.slice none 0 0] 22)).alloc (.cells #[.int .i64 0] 24)) = W5 at hb5 hz5 k1 k2
    rintro e w' ⟨w1, hb, hq⟩
    rw [hz5] at hb hq
    have hB : Below w.heap.size w w1 := hb5.trans (hb.mono (by omega))
    have hz : w.heap.size + 2 ≤ w1.heap.size := by have := hb.size; omega
    have j1 := (hb.block (w.heap.size + 1) (by omega)).trans k1
    have j2 := (hb.block (w.heap.size + 2) (by omega)).trans k2
    rcases hq with ⟨hne, hp, rfl⟩ | ⟨heq, rfl, v, hown, rfl⟩
    · refine ⟨by simp only [size_new]; exact j2, .inr ⟨_, hp, rfl, hB, hz, _, j1, ?_⟩⟩
      rw [allR_err hne]; exact World.ownsRow_nil _ _ _ _
    · refine ⟨?_, .inl ⟨rfl, heq, hB.setCell (by simp) _, by simpa using hz, v, one_setCell j1, ?_⟩⟩
      · simp only [size_new]; rw [Below.heap_setCell _ _ _ _ (by simp)]; exact j2
      · exact ownsRow_only hown (Only.setCell _ _ _ _) (by omega)
  rintro e w' ⟨k, w1, rfl, rfl, hq⟩
  have hq' : k = (allR s).1 ∧ AllMid w (allR s).2 w1 := by
    rcases hq with ⟨h1, h2, h3⟩ | hq
    · exact ⟨by rw [h1, h2], h3⟩
    · exact hq
  obtain ⟨rfl, hB, hz, v, hc, hown⟩ := hq'
  obtain ⟨ao, cap, rfl⟩ := owns_slice hown
  simp only [size_new]
  have hc' : (w1.setCell ⟨w.heap.size + 1 + 1, 0, none⟩ (.int .i64 (allR s).1)).heap[w.heap.size + 1]? = some (.cells #[.slice ao (allR s).2.length cap] 22 (0, 0)) := by
    rw [Below.heap_setCell _ _ _ _ (by simp)]; exact hc
  have hO : ((w1.setCell ⟨w.heap.size + 1 + 1, 0, none⟩ (.int .i64 (allR s).1)).setCell ⟨w.heap.size + 1, 0, none⟩ (.slice ao (allR s).2.length cap)).ownsRow (w.heap.size + 3) 3 1 (.slice ao (allR s).2.length cap) (allR s).2.length ((allR s).2.map (Value.int .i64)) :=
    ownsRow_only (ownsRow_only hown (Only.setCell _ _ _ _) (by omega)) (Only.setCell _ _ _ _) (by omega)
  have c1 := cell_of_one hc'
  have f1 := free_of_one hc'
  have c2 := cell_of_one (one_setCell (u := .slice ao (allR s).2.length cap) hc')
  have HB := Lib.hid ((hB.setCell (p := ⟨w.heap.size + 1 + 1, 0, none⟩) (by simp; omega) (.int .i64 (allR s).1)).setCell (p := ⟨w.heap.size + 1, 0, none⟩) (by simp) (.slice ao (allR s).2.length cap))
  have HO := Lib.hid hO
  clear hq hB hc hc' hown hO
  go_wp2_with fail
  refine bodyPost_ret (v := .tuple #[.slice ao (allR s).2.length cap, .int .i64 (allR s).1]) ?_ rfl ⟨_, rfl, ?_, ?_⟩
  · simp [results, Try.results13, go_sem, c2]
  · exact ownsRow_base HO.out (by omega)
  · exact HB.out
end Go.Proofs.Ytefgedabakecnaa
