/- numberAt; the guard. -/
import Derived.Test.YtefgedabakecnaaB
import Derived.Defers
import Derived.Recover
namespace Go.Proofs.Ytefgedabakecnaa
open Go.RowKit Go.PlainAid

/-- numberAt: its panic, or its two results; two new blocks at most. -/
def AtPost (s : ByteArray) (at_ : Int) (w : World) (e : Ending) (w' : World) : Prop :=
  Below w.heap.size w w' ∧ (((getR s at_).1 ≠ 0 ∧ Panics (getR s at_).1 e) ∨
    ((getR s at_).1 = 0 ∧ e = .returned (.tuple #[.int .i64 (getR s at_).2.1, .int .i64 (getR s at_).2.2])))

theorem getR_bad {s : ByteArray} {a : Int} (h : a < 0 ∨ (s.size : Int) < a) : getR s a = (1, 0, 0) := by unfold getR; rw [if_pos h]
theorem getR_err {s : ByteArray} {a : Nat} (h : a ≤ s.size) (e : (num s a).1 ≠ 0) : getR s a = ((num s a).1, 0, 0) := by
  unfold getR; rw [if_neg (by omega), Int.toNat_natCast, if_neg e]
theorem getR_ok {s : ByteArray} {a : Nat} (h : a ≤ s.size) (e : (num s a).1 = 0) : getR s a = (0, (num s a).2.1, (a : Int) + ((num s a).2.2 : Nat)) := by
  unfold getR; rw [if_neg (by omega), Int.toNat_natCast, if_pos e]

set_option maxHeartbeats 400000 in
theorem numberAt_any (s : ByteArray) (at_ : Int) (w : World) (hs : s.size ≤ maxLen) :
    Calls Try.prog 27 #[.string s, .int .i64 at_] w (AtPost s at_ w) := by
  unfold maxLen at hs
  by_cases h : at_ < 0 ∨ (s.size : Int) < at_
  · have hg := Lib.hid (getR_bad h)
    rcases h with h | h
    · go_enter Try.func27, Try.ntmps27
      go_wp2_with fail
      exact ⟨rfl, Below.refl _ _, .inl (by rw [hg.out]; exact ⟨by decide, rfl⟩)⟩
    · by_cases h0 : at_ < 0
      · go_enter Try.func27, Try.ntmps27
        go_wp2_with fail
        exact ⟨rfl, Below.refl _ _, .inl (by rw [hg.out]; exact ⟨by decide, rfl⟩)⟩
      · go_enter Try.func27, Try.ntmps27
        go_wp2_with fail
        exact ⟨rfl, Below.refl _ _, .inl (by rw [hg.out]; exact ⟨by decide, rfl⟩)⟩
  · have h0 : 0 ≤ at_ := by omega
    have h1 : at_ ≤ s.size := by omega
    obtain ⟨a, rfl⟩ := Int.eq_ofNat_of_zero_le h0
    have hle : a ≤ s.size := by omega
    clear h
    go_enter Try.func27, Try.ntmps27
    go_wp2_with (go_at_call 39; refine (from_any s a _).mono ?_; rintro e w' ⟨rfl, rfl⟩)
    refine (number_any s a _ _ _ (heap_alloc2_new _ _ _) (heap_alloc2_old _ _ _) (by unfold maxLen; omega) (by omega)).mono ?_
    rintro e w' ⟨ho, hp⟩
    have hb : Below w.heap.size w w' := (((Below.refl _ _).alloc (Nat.le_refl _) _).alloc (by simp) _).trans (ho.below (by omega))
    rcases hp with ⟨hne, hp⟩ | ⟨heq, rfl, hcell⟩
    · unfold Panics at hp
      subst hp
      have hg := Lib.hid (getR_err hle hne)
      exact ⟨rfl, hb, .inl (by rw [hg.out]; exact ⟨hne, rfl⟩)⟩
    · have hg := Lib.hid (getR_ok hle heq)
      obtain ⟨g1, g2, g3, g4, g5⟩ := num_in s a heq
      generalize num s a = r at *
      obtain ⟨r0, r1, r2⟩ := r
      dsimp only at g1 g2 g3 g4 g5
      go_wp2_with fail
      go_ret2
      exact ⟨hb, .inr (by rw [hg.out]; exact ⟨rfl, rfl⟩)⟩
end Go.Proofs.Ytefgedabakecnaa
