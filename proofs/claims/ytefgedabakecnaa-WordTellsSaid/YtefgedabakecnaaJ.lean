/- Take. -/
import Derived.Test.YtefgedabakecnaaI
namespace Go.Proofs.Ytefgedabakecnaa
open Go.RowKit Go.PlainAid

def takeR (s : ByteArray) (at_ most : Int) : Int × ByteArray × Int :=
  if (getR s at_).1 ≠ 0 then ((getR s at_).1, ⟨#[]⟩, 0)
  else if max most 0 < (getR s at_).2.1 then (2, ⟨#[]⟩, 0)
  else if (s.size : Int) - (getR s at_).2.2 < (getR s at_).2.1 then (5, ⟨#[]⟩, 0)
  else (0, s.extract (getR s at_).2.2.toNat ((getR s at_).2.2 + (getR s at_).2.1).toNat, (getR s at_).2.2 + (getR s at_).2.1)

theorem getR_in {s : ByteArray} {a : Int} (h : (getR s a).1 = 0) : 0 ≤ a ∧ a < (getR s a).2.2 ∧ (getR s a).2.2 ≤ s.size ∧ 0 ≤ (getR s a).2.1 ∧ (getR s a).2.1 ≤ 2147483647 ∧ (getR s a).2.2 ≤ a + 5 := by
  unfold getR at *
  split at h
  · simp at h
  · rename_i h1
    rw [if_neg h1]
    split at h
    · rename_i h2
      rw [if_pos h2]
      obtain ⟨g1, g2, g3, g4, g5⟩ := num_in s a.toNat h2
      dsimp only
      omega
    · rename_i h2; exact absurd h h2

set_option maxHeartbeats 400000 in
theorem clone_any (s : ByteArray) (w : World) (hs : s.size ≤ 281474976710656) :
    Calls Try.prog 40 #[.string s] w fun e w' => e = .returned (.string s) ∧ Below w.heap.size w w' := by
  go_enter Try.func40, Try.ntmps40
  go_wp2_with fail
  refine (Try.stringslite_Clone s _ hs).mono ?_
  rintro e w1 ⟨rfl, hb⟩
  go_wp2_with fail
  go_ret
  exact ⟨rfl, hb⟩

def TextPost (s : ByteArray) (at_ most : Int) (w : World) (e : Ending) (w' : World) : Prop :=
  Below w.heap.size w w' ∧ (((takeR s at_ most).1 ≠ 0 ∧ Panics (takeR s at_ most).1 e) ∨
    ((takeR s at_ most).1 = 0 ∧ e = .returned (.tuple #[.string (takeR s at_ most).2.1, .int .i64 (takeR s at_ most).2.2])))

set_option maxHeartbeats 1000000 in
theorem textAt_any (s : ByteArray) (at_ most : Int) (w : World) (hs : s.size ≤ 1000000) :
    Calls Try.prog 31 #[.string s, .int .i64 at_, .int .i64 most] w (TextPost s at_ most w) := by
  have ht : takeR s at_ most = takeR s at_ most := rfl
  conv at ht => rhs; unfold takeR
  have Ht := Lib.hid ht
  clear ht
  go_enter Try.func31, Try.ntmps31
  go_wp2_with fail
  refine (numberAt_any s at_ _ (by unfold maxLen; omega)).mono ?_
  rintro e w1 ⟨hb, ⟨hne, hp⟩ | ⟨heq, rfl⟩⟩
  · unfold Panics at hp
    subst hp
    have hf := Ht.out
    rw [if_pos hne] at hf
    exact ⟨rfl, hb, .inl (by rw [hf]; exact ⟨hne, rfl⟩)⟩
  · obtain ⟨g0, g1, g2, g3, g4, g5⟩ := getR_in heq
    have ht := Ht.out
    rw [if_neg (by simp [heq])] at ht
    clear Ht heq
    generalize getR s at_ = r at *
    obtain ⟨r0, n, a⟩ := r
    dsimp only at g1 g2 g3 g4 g5 ht
    obtain ⟨p, rfl⟩ := Int.eq_ofNat_of_zero_le (show 0 ≤ a by omega)
    obtain ⟨k, rfl⟩ := Int.eq_ofNat_of_zero_le g3
    have HB := Lib.hid hb
    clear hb
    by_cases h1 : max most 0 < (k : Int)
    · have Hf := Lib.hid (ht.trans (if_pos h1))
      clear ht
      go_wp2_with fail
      exact ⟨rfl, HB.out, .inl (by rw [Hf.out]; exact ⟨by decide, rfl⟩)⟩
    · rw [if_neg h1] at ht
      by_cases h2 : (s.size : Int) - p < k
      · have Hf := Lib.hid (ht.trans (if_pos h2))
        clear ht
        go_wp2_with fail
        exact ⟨rfl, HB.out, .inl (by rw [Hf.out]; exact ⟨by decide, rfl⟩)⟩
      · rw [if_neg h2, Int.toNat_natCast, ← Int.natCast_add, Int.toNat_natCast] at ht
        have Hf := Lib.hid ht
        have h3 : p + k ≤ s.size := by omega
        have hsz : (s.extract p (p + k)).size ≤ 281474976710656 := by simp; omega
        clear ht
        go_wp2_with fail
        refine (clone_any _ _ hsz).mono ?_
        rintro e w2 ⟨rfl, hb2⟩
        have HB2 := Lib.hid hb2
        clear hb2
        go_wp2_with fail
        go_ret2
        exact ⟨HB.out.trans (HB2.out.mono HB.out.size), .inr (by rw [Hf.out]; exact ⟨rfl, rfl⟩)⟩

def TakeWork (s : ByteArray) (at_ most : Int) (Bx Bt : Nat) (w : World) (e : Ending) (w' : World) : Prop :=
  ∃ w1, Below w.heap.size w w1 ∧ (((takeR s at_ most).1 ≠ 0 ∧ Panics (takeR s at_ most).1 e ∧ w1 = w') ∨
    ((takeR s at_ most).1 = 0 ∧ e = .returned (.tuple #[]) ∧ (w1.setCell ⟨Bx, 0, none⟩ (.string (takeR s at_ most).2.1)).setCell ⟨Bt, 0, none⟩ (.int .i64 (takeR s at_ most).2.2) = w'))

set_option maxHeartbeats 400000 in
theorem takeWork_any (s : ByteArray) (at_ most : Int) (B0 B1 B2 Bx Bt : Nat) (w : World) (hs : s.size ≤ 1000000)
    (h0 : w.heap[B0]? = some (.cells #[.string s] 9 (0, 0))) (h1 : w.heap[B1]? = some (.cells #[.int .i64 at_] 3 (0, 0))) (h2 : w.heap[B2]? = some (.cells #[.int .i64 most] 3 (0, 0)))
    (hn : w.heap[Bx]? = some (.cells #[.string ⟨#[]⟩] 9 (0, 0))) (ht : w.heap[Bt]? = some (.cells #[.int .i64 0] 3 (0, 0))) (hne : Bt ≠ Bx) :
    Calls Try.prog 30 #[.pointer (some ⟨B0, 0, none⟩), .pointer (some ⟨B1, 0, none⟩), .pointer (some ⟨B2, 0, none⟩), .pointer (some ⟨Bx, 0, none⟩), .pointer (some ⟨Bt, 0, none⟩)] w (TakeWork s at_ most Bx Bt w) := by
  have c0 := cell_of_one h0
  have c1 := cell_of_one h1
  have c2 := cell_of_one h2
  have ln := lt_of_block hn
  have lt := lt_of_block ht
  go_enter Try.func30, Try.ntmps30
  go_wp2_with fail
  refine (textAt_any s at_ most _ hs).mono ?_
  rintro e w' ⟨hb, ⟨hne, hp⟩ | ⟨heq, rfl⟩⟩
  · unfold Panics at hp
    subst hp
    exact ⟨rfl, w', hb, .inl ⟨hne, rfl, rfl⟩⟩
  · have hn' : w'.heap[Bx]? = some (.cells #[.string ⟨#[]⟩] 9 (0, 0)) := by rw [hb.block _ ln]; exact hn
    have ht' : w'.heap[Bt]? = some (.cells #[.int .i64 0] 3 (0, 0)) := by rw [hb.block _ lt]; exact ht
    have ht2 : (w'.setCell ⟨Bx, 0, none⟩ (.string (takeR s at_ most).2.1)).heap[Bt]? = some (.cells #[.int .i64 0] 3 (0, 0)) := by
      rw [Below.heap_setCell _ _ _ _ hne]; exact ht'
    have d1 := cell_of_one hn'
    have d2 := free_of_one hn'
    have d3 := cell_of_one ht2
    have d4 := free_of_one ht2
    have Heq := Lib.hid heq
    have HB := Lib.hid hb
    clear hn' ht' ht2 heq hb c0 c1 c2 hn ht h0 h1 h2
    go_wp2_with fail
    go_end0
    exact ⟨w', HB.out, .inr ⟨Heq.out, rfl, rfl⟩⟩

/-- Behind the guard in Take: what the two named results' cells hold. -/
def TakeMid (w : World) (x : ByteArray) (t : Int) (w' : World) : Prop :=
  Below w.heap.size w w' ∧ w.heap.size + 5 ≤ w'.heap.size ∧ w'.heap[w.heap.size + 3]? = some (.cells #[.string x] 9 (0, 0)) ∧ w'.heap[w.heap.size + 4]? = some (.cells #[.int .i64 t] 3 (0, 0))
theorem TakeMid.set {w w' : World} {x : ByteArray} {t : Int} (h : TakeMid w x t w') (k : Nat) (hk : w.heap.size + 5 ≤ k) (v : Value) : TakeMid w x t (w'.setCell ⟨k, 0, none⟩ v) := by
  obtain ⟨h1, h2, h3, h4⟩ := h
  refine ⟨h1.setCell (by simp; omega) _, by simpa using h2, ?_, ?_⟩
  · rw [Below.heap_setCell _ _ _ _ (by simp; omega)]; exact h3
  · rw [Below.heap_setCell _ _ _ _ (by simp; omega)]; exact h4
theorem takeR_zero {s : ByteArray} {a m : Int} (h : (takeR s a m).1 ≠ 0) : (takeR s a m).2.1 = ⟨#[]⟩ ∧ (takeR s a m).2.2 = 0 := by
  unfold takeR at *
  split
  · exact ⟨rfl, rfl⟩
  · split
    · exact ⟨rfl, rfl⟩
    · split
      · exact ⟨rfl, rfl⟩
      · simp_all

set_option maxHeartbeats 400000 in
theorem take_any (s : ByteArray) (at_ most : Int) (w : World) (hs : s.size ≤ 1000000) :
    Calls Try.prog 15 #[.string s, .int .i64 at_, .int .i64 most] w fun e w' =>
      e = .returned (.tuple #[.string (takeR s at_ most).2.1, .int .i64 (takeR s at_ most).2.2, .int .i64 (takeR s at_ most).1]) ∧ Below w.heap.size w w' := by
  have hmf : ∀ (fn : Fn) (first cap : Array Value) (w : World), (Instr.makeFunc fn first cap).run Try.prog w = .ok (.func fn first cap) w := fun _ _ _ _ => rfl
  go_enter Try.func15, Try.ntmps15
  go_wp2_with fail
  refine (guard_any 30 _ _ (fun w' => (takeR s at_ most).1 = 0 ∧ TakeMid w (takeR s at_ most).2.1 (takeR s at_ most).2.2 w') (fun k w' => k = (takeR s at_ most).1 ∧ TakeMid w (takeR s at_ most).2.1 (takeR s at_ most).2.2 w') (fun _ => by kernel_rfl) ?_).mono ?_
  · refine (takeWork_any s at_ most w.heap.size (w.heap.size + 1) (w.heap.size + 2) (w.heap.size + 3) (w.heap.size + 4) _ hs
      (by simp only [heap_push, size_new]; repeat (first | rw [if_pos trivial] | rw [if_pos (by omega)] | rw [if_neg (by omega)])) (by simp only [heap_push, size_new]; repeat (first | rw [if_pos trivial] | rw [if_pos (by omega)] | rw [if_neg (by omega)])) (by simp only [heap_push, size_new]; repeat (first | rw [if_pos trivial] | rw [if_pos (by omega)] | rw [if_neg (by omega)])) (by simp only [heap_push, size_new]; repeat (first | rw [if_pos trivial] | rw [if_pos (by omega)] | rw [if_neg (by omega)])) (by simp only [heap_push, size_new]; repeat (first | rw [if_pos trivial] | rw [if_pos (by omega)] | rw [if_neg (by omega)])) (by omega)).mono ?_
    have hb5 : Below w.heap.size w ((((((w.alloc (.cells #[.string s] 9)).alloc (.cells #[.int .i64 at_] 3)).alloc (.cells #[.int .i64 most] 3)).alloc (.cells #[.string ⟨#[]⟩] 9)).alloc (.cells #[.int .i64 0] 3)).alloc (.cells #[.int .i64 0] 24)) :=
      ((((((Below.refl _ _).alloc (Nat.le_refl _) _).alloc (by simp only [size_new]; omega) _).alloc (by simp only [size_new]; omega) _).alloc (by simp only [size_new]; omega) _).alloc (by simp only [size_new]; omega) _).alloc (by simp only [size_new]; omega) _
    have hz5 : ((((((w.alloc (.cells #[.string s] 9)).alloc (.cells #[.int .i64 at_] 3)).alloc (.cells #[.int .i64 most] 3)).alloc (.cells #[.string ⟨#[]⟩] 9)).alloc (.cells #[.int .i64 0] 3)).alloc (.cells #[.int .i64 0] 24)).heap.size = w.heap.size + 6 := by simp only [size_new]
    have k1 : ((((((w.alloc (.cells #[.string s] 9)).alloc (.cells #[.int .i64 at_] 3)).alloc (.cells #[.int .i64 most] 3)).alloc (.cells #[.string ⟨#[]⟩] 9)).alloc (.cells #[.int .i64 0] 3)).alloc (.cells #[.int .i64 0] 24)).heap[w.heap.size + 3]? = some (.cells #[.string ⟨#[]⟩] 9 (0, 0)) := (by simp only [heap_push, size_new]; repeat (first | rw [if_pos trivial] | rw [if_pos (by omega)] | rw [if_neg (by omega)]))
    have k2 : ((((((w.alloc (.cells #[.string s] 9)).alloc (.cells #[.int .i64 at_] 3)).alloc (.cells #[.int .i64 most] 3)).alloc (.cells #[.string ⟨#[]⟩] 9)).alloc (.cells #[.int .i64 0] 3)).alloc (.cells #[.int .i64 0] 24)).heap[w.heap.size + 4]? = some (.cells #[.int .i64 0] 3 (0, 0)) := (by simp only [heap_push, size_new]; repeat (first | rw [if_pos trivial] | rw [if_pos (by omega)] | rw [if_neg (by omega)]))
    have k3 : ((((((w.alloc (.cells #[.string s] 9)).alloc (.cells #[.int .i64 at_] 3)).alloc (.cells #[.int .i64 most] 3)).alloc (.cells #[.string ⟨#[]⟩] 9)).alloc (.cells #[.int .i64 0] 3)).alloc (.cells #[.int .i64 0] 24)).heap[w.heap.size + 5]? = some (.cells #[.int .i64 0] 24 (0, 0)) := (by simp only [heap_push, size_new]; repeat (first | rw [if_pos trivial] | rw [if_pos (by omega)] | rw [if_neg (by omega)]))
    generalize ((((((w.alloc (.cells #[.string s] 9)).alloc (.cells #[.int .i64 at_] 3)).alloc (.cells #[.int .i64 most] 3)).alloc (.cells #[.string ⟨#[]⟩] 9)).alloc (.cells #[.int .i64 0] 3)).alloc (.cells #[.int .i64 0] 24)) = W5 at hb5 hz5 k1 k2 k3
    rintro e w' ⟨w1, hb, hq⟩
    rw [hz5] at hb
    have hB : Below w.heap.size w w1 := hb5.trans (hb.mono (by omega))
    have hz : w.heap.size + 5 ≤ w1.heap.size := by have := hb.size; omega
    have j1 := (hb.block (w.heap.size + 3) (by omega)).trans k1
    have j2 := (hb.block (w.heap.size + 4) (by omega)).trans k2
    have j3 := (hb.block (w.heap.size + 5) (by omega)).trans k3
    rcases hq with ⟨hne, hp, rfl⟩ | ⟨heq, rfl, rfl⟩
    · refine ⟨by simp only [size_new]; exact j3, .inr ⟨_, hp, rfl, hB, hz, ?_, ?_⟩⟩
      · rw [(takeR_zero hne).1]; exact j1
      · rw [(takeR_zero hne).2]; exact j2
    · refine ⟨?_, .inl ⟨rfl, heq, (hB.setCell (by simp) _).setCell (by simp) _, by simpa using hz, ?_, ?_⟩⟩
      · simp only [size_new]; rw [Below.heap_setCell _ _ _ _ (by simp), Below.heap_setCell _ _ _ _ (by simp <;> omega)]; exact j3
      · rw [Below.heap_setCell _ _ _ _ (by simp)]; exact one_setCell j1
      · exact one_setCell (by rw [Below.heap_setCell _ _ _ _ (by simp)]; exact j2)
  rintro e w' ⟨k, w1, rfl, rfl, hq⟩
  have hq' : k = (takeR s at_ most).1 ∧ TakeMid w (takeR s at_ most).2.1 (takeR s at_ most).2.2 w1 := by
    rcases hq with ⟨h1, h2, h3⟩ | hq
    · exact ⟨by rw [h1, h2], h3⟩
    · exact hq
  obtain ⟨rfl, hm⟩ := hq'
  have hm2 := hm.set (w.heap.size + 1 + 1 + 1 + 1 + 1) (by omega) (.int .i64 (takeR s at_ most).1)
  simp only [size_new]
  obtain ⟨hB, hz, d1, d2⟩ := hm2
  have c1 := cell_of_one d1
  have f1 := free_of_one d1
  have c2 := cell_of_one d2
  have f2 := free_of_one d2
  have HB := Lib.hid hB
  clear hq hm hB d1 d2
  go_wp2_with fail
  go_region
  go_wp2_with fail
  refine bodyPost_ret (v := .tuple #[.string (takeR s at_ most).2.1, .int .i64 (takeR s at_ most).2.2, .int .i64 (takeR s at_ most).1]) ?_ rfl ⟨rfl, ?_⟩
  · simp [results, Try.results15, go_sem, c1, c2]
  · exact ((HB.out.setCell (by simp; omega) _).setCell (by simp; omega) _).drew
end Go.Proofs.Ytefgedabakecnaa
