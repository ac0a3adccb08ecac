/- Numbers as bytes: texts put together. -/
import Derived.Test.YtcopedhoepblpaaCm02
import Derived.PlainAid
import Derived.Laws.Bits128
import Derived.Lib.EndianBits
import Derived.Lib.VarintBits
import Derived.Laws.BitsAllLaws
import Derived.Test.YtcopedhoepblpaaRows
import Derived.WalkKit
import Derived.WalkSpells
import Derived.WalkLawsBesides
import Derived.OneCell
import Derived.Lib.Hide
import Derived.Defers
import Derived.Recover
import Derived.RegionTactic
import Derived.ChangeAlike
set_option maxRecDepth 100000
namespace Go.Proofs.Ytcopedhoepblpaa
open Go.RowKit Go.PlainAid
/-- The number from place p on: what is wrong (0: nothing), the number, how many bytes; f: how many bytes more it may have, k: how many are read, n: what they make. -/
def numGo (s : ByteArray) : Nat → Nat → Nat → Int → Int × Int × Nat
  | 0, _, _, _ => (2, 0, 0)
  | f + 1, p, k, n =>
    if s.size ≤ p then (5, 0, 0)
    else if 2147483647 < n + bt s p % 128 * 128 ^ k ∨ (f = 0 ∧ 128 ≤ bt s p) then (2, 0, 0)
    else if bt s p = 0 ∧ 0 < k then (4, 0, 0)
    else if bt s p < 128 then (0, n + bt s p % 128 * 128 ^ k, k + 1)
    else numGo s f (p + 1) (k + 1) (n + bt s p % 128 * 128 ^ k)
def num (s : ByteArray) (p : Nat) : Int × Int × Nat := numGo s 5 p 0 0
/-- What Get answers: what is wrong, the number, the place behind. -/
def getR (s : ByteArray) (at_ : Int) : Int × Int × Int :=
  if at_ < 0 ∨ (s.size : Int) < at_ then (1, 0, 0)
  else if (num s at_.toNat).1 = 0 then (0, (num s at_.toNat).2.1, at_ + (num s at_.toNat).2.2) else ((num s at_.toNat).1, 0, 0)
theorem numGo_in (s : ByteArray) : ∀ (f p k : Nat) (m : Int), 0 ≤ m → (numGo s f p k m).1 = 0 →
    k < (numGo s f p k m).2.2 ∧ p + (numGo s f p k m).2.2 ≤ s.size + k ∧ (numGo s f p k m).2.2 ≤ k + f ∧ 0 ≤ (numGo s f p k m).2.1 ∧ (numGo s f p k m).2.1 ≤ 2147483647 := by
  intro f
  induction f with
  | zero => intro p k m _ h; simp [numGo] at h
  | succ f ih =>
    intro p k m hm
    have hb := bt_nonneg s p
    have hp : (0 : Int) ≤ bt s p % 128 * 128 ^ k := Int.mul_nonneg (by omega) (Int.pow_nonneg (by decide))
    simp only [numGo]
    split
    · intro h; simp at h
    · split
      · intro h; simp at h
      · split
        · intro h; simp at h
        · split
          · intro _; dsimp only; omega
          · intro h
            have := ih (p + 1) (k + 1) (m + bt s p % 128 * 128 ^ k) (by omega) h
            omega
theorem num_in (s : ByteArray) (p : Nat) (h : (num s p).1 = 0) : 0 < (num s p).2.2 ∧ p + (num s p).2.2 ≤ s.size ∧ (num s p).2.2 ≤ 5 ∧ 0 ≤ (num s p).2.1 ∧ (num s p).2.1 ≤ 2147483647 := by
  have := numGo_in s 5 p 0 0 (by omega) h
  unfold num; omega
theorem i64_or_low (i : Nat) (y x : Int) (hi : i ≤ 62) (hy₀ : 0 ≤ y) (hy : y < 2 ^ i) (hx₀ : 0 ≤ x) (hx : x % 2 ^ i = 0) (hx₁ : x < 4611686018427387904) : bits .or .i64 y x = y + x := by
  have hp : (2 : Int) ^ i ≤ 2 ^ 62 := by
    have := Nat.pow_le_pow_right (n := 2) (by omega) hi
    exact_mod_cast this
  refine bits_join_low .i64 63 (by decide) (fun n h0 h1 => ?_) i y x hy₀ hy (by omega) hx₀ hx (by omega)
  rw [IntKind.wrap_i64]; omega
theorem pow128 (k : Nat) (hk : k ≤ 4) : (2 : Int) ^ (7 * k) = 128 ^ k ∧ (1 : Int) ≤ 128 ^ k ∧ (128 : Int) ^ k ≤ 268435456 := by
  have : k = 0 ∨ k = 1 ∨ k = 2 ∨ k = 3 ∨ k = 4 := by omega
  rcases this with rfl | rfl | rfl | rfl | rfl <;> decide
/-- How the walk spells the number with one byte more. -/
theorem orIn (m b : Int) (k : Nat) (hk : k ≤ 4) (hm : 0 ≤ m) (hm1 : m < 128 ^ k) (hb : 0 ≤ b) (hb1 : b ≤ 255) :
    bits .or .i64 m (wrap64 (wrap64 (bits .and .u8 b 127) * 2 ^ (7 * k))) = m + b % 128 * 128 ^ k ∧ 0 ≤ m + b % 128 * 128 ^ k ∧ m + b % 128 * 128 ^ k < 128 ^ (k + 1) := by
  have : k = 0 ∨ k = 1 ∨ k = 2 ∨ k = 3 ∨ k = 4 := by omega
  rw [u8_and127 b hb (by omega)]
  have e : wrap64 (b % 128) = b % 128 := by rw [← i64_is, IntKind.wrap_i64]; omega
  rw [e]
  rcases this with rfl | rfl | rfl | rfl | rfl
  all_goals
    simp only [Nat.reduceMul, Nat.reduceAdd, Int.reducePow] at *
    rw [← i64_is, IntWalk.i64_in _ (by omega)]
  · rw [i64_or_low 0 _ _ (by omega) hm (by simpa using hm1) (by omega) (by simp) (by omega)]; omega
  · rw [i64_or_low 7 _ _ (by omega) hm (by simpa using hm1) (by omega) (by simp) (by omega)]; omega
  · rw [i64_or_low 14 _ _ (by omega) hm (by simpa using hm1) (by omega) (by simp) (by omega)]; omega
  · rw [i64_or_low 21 _ _ (by omega) hm (by simpa using hm1) (by omega) (by simp) (by omega)]; omega
  · rw [i64_or_low 28 _ _ (by omega) hm (by simpa using hm1) (by omega) (by simp) (by omega)]; omega
theorem and128_lo (b : Int) (hb : 0 ≤ b) (h : b < 128) : bits .and .u8 b 128 = 0 := by
  rw [u8_and b 128 hb (by omega) (by omega) (by omega)]
  have := nat_bit 7 b.toNat
  simp at this ⊢
  rw [this, Nat.div_eq_of_lt (by omega)]
theorem and128_hi (b : Int) (hb : b ≤ 255) (h : 128 ≤ b) : bits .and .u8 b 128 = 128 := by
  rw [u8_and b 128 (by omega) (by omega) (by omega) (by omega)]
  have := nat_bit 7 b.toNat
  simp at this ⊢
  rw [this]
  have : b.toNat / 128 = 1 := by omega
  rw [this]; decide
end Go.Proofs.Ytcopedhoepblpaa
namespace Go.Proofs.Ytcopedhoepblpaa
open Go.RowKit Go.PlainAid
-- Only block B may have turned.
structure Only (B : Nat) (w w' : World) : Prop where
  os : w'.os = w.os
  tape : w'.tape = w.tape
  output : w'.output = w.output
  size : w'.heap.size = w.heap.size
  block : ∀ k, k ≠ B → w'.heap[k]? = w.heap[k]?
theorem Only.refl (B : Nat) (w : World) : Only B w w := ⟨rfl, rfl, rfl, rfl, fun _ _ => rfl⟩
theorem Only.trans {B : Nat} {a b c : World} (h : Only B a b) (k : Only B b c) : Only B a c :=
  ⟨k.os.trans h.os, k.tape.trans h.tape, k.output.trans h.output, k.size.trans h.size, fun i hi => (k.block i hi).trans (h.block i hi)⟩
theorem Only.setCell (w : World) (B o : Nat) (u : Value) : Only B w (w.setCell ⟨B, o, none⟩ u) :=
  ⟨rfl, rfl, rfl, by simp [World.setCell], fun k hk => Below.heap_setCell _ _ _ _ hk⟩
theorem Only.below {B B' : Nat} {w w' : World} (h : Only B w w') (hB : B' ≤ B) : Below B' w w' :=
  ⟨h.os, h.tape, h.output, Nat.le_of_eq h.size.symm, fun k hk => h.block k (by omega)⟩
-- A byte in place.
set_option maxHeartbeats 400000 in
theorem next_in (s : ByteArray) (a Ba Bs : Nat) (w : World) (hA : w.heap[Ba]? = some (.cells #[.int .i64 a] 3 (0, 0))) (hS : w.heap[Bs]? = some (.cells #[.string s] 9 (0, 0)))
    (hs : s.size ≤ maxLen) (h : a < s.size) :
    Calls Try.prog 81 #[.pointer (some ⟨Ba, 0, none⟩), .pointer (some ⟨Bs, 0, none⟩)] w fun e w' =>
      e = .returned (.int .u8 (bt s a)) ∧ w.setCell ⟨Ba, 0, none⟩ (.int .i64 ((a + 1 : Nat) : Int)) = w' := by
  unfold maxLen at hs
  have cA := cell_of_one hA
  have cS := cell_of_one hS
  have fA := free_of_one hA
  have e1 := get_bt s a h
  clear hA hS
  go_enter Try.func81, Try.ntmps81
  go_wp2
  go_ret
  exact ⟨rfl, rfl⟩
-- No byte left.
set_option maxHeartbeats 400000 in
theorem next_out (s : ByteArray) (a Ba Bs : Nat) (w : World) (hA : w.heap[Ba]? = some (.cells #[.int .i64 a] 3 (0, 0))) (hS : w.heap[Bs]? = some (.cells #[.string s] 9 (0, 0)))
    (h : s.size ≤ a) :
    Calls Try.prog 81 #[.pointer (some ⟨Ba, 0, none⟩), .pointer (some ⟨Bs, 0, none⟩)] w fun e w' =>
      e = .panicked [{ v := .iface 28 (.int .i64 5), recovered := false }] ∧ w = w' := by
  have cA := cell_of_one hA
  have cS := cell_of_one hS
  clear hA hS
  go_enter Try.func81, Try.ntmps81
  go_wp2
  exact ⟨rfl, rfl, rfl⟩
-- The closure is made: two boxes.
set_option maxHeartbeats 400000 in
theorem from_any (s : ByteArray) (a : Int) (w : World) :
    Calls Try.prog 74 #[.string s, .int .i64 a] w fun e w' =>
      e = .returned (.func (.func 81) #[] #[.pointer (some ⟨w.heap.size + 1, 0, none⟩), .pointer (some ⟨w.heap.size, 0, none⟩)]) ∧
      (w.alloc (.cells #[.string s] 9)).alloc (.cells #[.int .i64 a] 3) = w' := by
  have hmf : ∀ (fn : Fn) (first cap : Array Value) (w : World), (Instr.makeFunc fn first cap).run Try.prog w = .ok (.func fn first cap) w := fun _ _ _ _ => rfl
  go_enter Try.func74, Try.ntmps74
  go_wp2
  go_ret
  exact ⟨rfl, rfl⟩
end Go.Proofs.Ytcopedhoepblpaa
namespace Go.Proofs.Ytcopedhoepblpaa
open Go.RowKit Go.PlainAid
def Panics (k : Int) (e : Ending) : Prop := e = .panicked [{ v := .iface 28 (.int .i64 k), recovered := false }]
/-- What number comes to: its panic, or its two results and the place moved. -/
def NumPost (s : ByteArray) (a Ba : Nat) (w : World) (e : Ending) (w' : World) : Prop :=
  Only Ba w w' ∧ (((num s a).1 ≠ 0 ∧ Panics (num s a).1 e) ∨
    ((num s a).1 = 0 ∧ e = .returned (.tuple #[.int .i64 (num s a).2.1, .int .i64 ((num s a).2.2 : Nat)]) ∧ w'.heap[Ba]? = some (.cells #[.int .i64 ((a + (num s a).2.2 : Nat) : Int)] 3 (0, 0))))
theorem np_panic {s : ByteArray} {a Ba : Nat} {w w' : World} {c : Int} {x : Int × Nat} (hn : num s a = (c, x)) (hc : c ≠ 0) (ho : Only Ba w w') :
    NumPost s a Ba w (.panicked [{ v := .iface 28 (.int .i64 c), recovered := false }]) w' :=
  ⟨ho, .inl (by rw [hn]; exact ⟨hc, rfl⟩)⟩
theorem np_ret {s : ByteArray} {a Ba : Nat} {w w' : World} {v : Int} {k : Nat} (hn : num s a = (0, v, k)) (ho : Only Ba w w') (hb : w'.heap[Ba]? = some (.cells #[.int .i64 ((a + k : Nat) : Int)] 3 (0, 0))) :
    NumPost s a Ba w (.returned (.tuple #[.int .i64 v, .int .i64 (k : Int)])) w' :=
  ⟨ho, .inr (by rw [hn]; exact ⟨rfl, rfl, hb⟩)⟩
/-- The head of the loop's round: k bytes are read, they make m. -/
def NumHead (s : ByteArray) (a Ba : Nat) (w : World) (k : Nat) (m : Int) (wr : World) : Prop :=
  k ≤ 4 ∧ 0 ≤ m ∧ m < 128 ^ k ∧ numGo s (5 - k) (a + k) k m = num s a ∧ Only Ba w wr ∧ wr.heap[Ba]? = some (.cells #[.int .i64 ((a + k : Nat) : Int)] 3 (0, 0))
theorem numGo_eq (s : ByteArray) (k p : Nat) (m : Int) (hk : k ≤ 4) (h : p < s.size) : numGo s (5 - k) p k m =
    if 2147483647 < m + bt s p % 128 * 128 ^ k ∨ (k = 4 ∧ 128 ≤ bt s p) then (2, 0, 0)
    else if bt s p = 0 ∧ 0 < k then (4, 0, 0)
    else if bt s p < 128 then (0, m + bt s p % 128 * 128 ^ k, k + 1)
    else numGo s (5 - (k + 1)) (p + 1) (k + 1) (m + bt s p % 128 * 128 ^ k) := by
  have : 5 - k = (4 - k) + 1 := by omega
  rw [this, numGo, if_neg (by omega)]
  have e : 5 - (k + 1) = 4 - k := by omega
  have e4 : (4 - k = 0) = (k = 4) := by simp; omega
  rw [e]; simp only [e4]
set_option maxHeartbeats 1000000 in
theorem number_any (s : ByteArray) (a Ba Bs : Nat) (w : World) (hA : w.heap[Ba]? = some (.cells #[.int .i64 a] 3 (0, 0))) (hS : w.heap[Bs]? = some (.cells #[.string s] 9 (0, 0)))
    (hs : s.size ≤ maxLen) (hne : Bs ≠ Ba) :
    Calls Try.prog 75 #[.func (.func 81) #[] #[.pointer (some ⟨Ba, 0, none⟩), .pointer (some ⟨Bs, 0, none⟩)]] w (NumPost s a Ba w) := by
  unfold maxLen at hs
  go_enter Try.func75, Try.ntmps75
  go_wp2
  go_loopw [2, 3] (fun n i wr => ∃ (k : Nat) (m : Int), i = .int .i64 k ∧ n = .int .i64 m ∧ NumHead s a Ba w k m wr) (fun _ i _ => 5 - (intOf i).toNat)
  case atStart => exact ⟨0, 0, rfl, rfl, by omega, by omega, by decide, rfl, Only.refl _ _, hA⟩
  case round =>
    obtain ⟨k, m, rfl, rfl, hk, m0, m1, hgo, ho, hA'⟩ := hrel
    have hS' : wr.heap[Bs]? = some (.cells #[.string s] 9 (0, 0)) := by rw [ho.block _ hne]; exact hS
    by_cases hlt : a + k < s.size
    · have hin := fun w0 h1 h2 => next_in s (a + k) Ba Bs w0 h1 h2 (by unfold maxLen; omega) hlt
      have hone := one_setCell (u := .int .i64 ((a + k + 1 : Nat) : Int)) hA'
      have hon := ho.trans (Only.setCell wr Ba 0 (.int .i64 ((a + k + 1 : Nat) : Int)))
      rw [numGo_eq s k (a + k) m hk hlt] at hgo
      have b0 := bt_nonneg s (a + k)
      have b1 := bt_le s (a + k)
      generalize bt s (a + k) = b at *
      obtain ⟨v, hv⟩ : ∃ v, v = m + b % 128 * 128 ^ k := ⟨_, rfl⟩
      obtain ⟨hor, v0, v1⟩ := orIn m b k hk m0 m1 b0 b1
      have hp := pow128 k hk
      rw [← hv] at hor v0 v1 hgo
      have Hin := Lib.hid hin
      have Hone := Lib.hid hone
      have Hon := Lib.hid hon
      have HA := Lib.hid hA'
      have HS := Lib.hid hS'
      have Hgo := Lib.hid hgo
      have Hv1 := Lib.hid v1
      clear hin hone hon hA' hS' hv hA hS m1 hp v1 hgo
      by_cases c1 : 2147483647 < v
      · go_wp2_with (go_at_call 81; refine (Hin.out _ HA.out HS.out).mono ?_; rintro e w' ⟨rfl, rfl⟩)
        exact ⟨rfl, np_panic (x := (0, 0)) (by rw [← Hgo.out, if_pos (.inl c1)]) (by decide) Hon.out⟩
      · by_cases c2 : 128 ≤ b
        · have hb := and128_hi b b1 c2
          by_cases c3 : 4 ≤ k
          · go_wp2_with (go_at_call 81; refine (Hin.out _ HA.out HS.out).mono ?_; rintro e w' ⟨rfl, rfl⟩)
            exact ⟨rfl, np_panic (x := (0, 0)) (by rw [← Hgo.out, if_pos (.inr ⟨by omega, c2⟩)]) (by decide) Hon.out⟩
          · go_wp2_with (go_at_call 81; refine (Hin.out _ HA.out HS.out).mono ?_; rintro e w' ⟨rfl, rfl⟩)
            go_roundw
            case rel =>
              refine ⟨k + 1, v, by go_num, rfl, by omega, v0, Hv1.out, ?_, Hon.out, Hone.out⟩
              rw [← Hgo.out, if_neg (by omega), if_neg (by omega), if_neg (by omega)]; rfl
            case measure => simp [intOf]; omega
        · have hb := and128_lo b b0 (by omega)
          by_cases c3 : b ≤ 0 ∧ 0 < k
          · have hb0 : (b == 0) = true := beq_iff_eq.2 (by omega)
            have c4 := c3.1
            have c5 := c3.2
            have Hc := Lib.hid c3
            clear c3
            go_wp2_with (go_at_call 81; refine (Hin.out _ HA.out HS.out).mono ?_; rintro e w' ⟨rfl, rfl⟩)
            all_goals exact ⟨rfl, np_panic (x := (0, 0)) (by rw [← Hgo.out, if_neg (by omega), if_pos ⟨by omega, Hc.out.2⟩]) (by decide) Hon.out⟩
          · have hfin : num s a = (0, v, k + 1) := by rw [← Hgo.out, if_neg (by omega), if_neg (by omega), if_pos (by omega)]
            have Hfin := Lib.hid hfin
            have h3 : 0 < b ∨ k < 1 := by omega
            clear hfin c3
            rcases h3 with h3 | h3
            · have hb0 : (b == 0) = false := beq_eq_false_iff_ne.2 (by omega)
              by_cases c6 : 4 ≤ k
              · obtain rfl : k = 4 := by omega
                have hor4 : bits BinOp.or IntKind.i64 m (wrap64 (wrap64 (bits BinOp.and IntKind.u8 b 127) * 268435456)) = v := by simpa using hor
                clear hor
                go_wp2_with (go_at_call 81; refine (Hin.out _ HA.out HS.out).mono ?_; rintro e w' ⟨rfl, rfl⟩)
                go_ret2
                exact np_ret Hfin.out Hon.out Hone.out
              · have hk5 : ((k : Int) + 1 == 5) = false := beq_eq_false_iff_ne.2 (by omega)
                go_wp2_with (go_at_call 81; refine (Hin.out _ HA.out HS.out).mono ?_; rintro e w' ⟨rfl, rfl⟩)
                all_goals
                  go_ret2
                  exact np_ret Hfin.out Hon.out Hone.out
            · go_wp2_with (go_at_call 81; refine (Hin.out _ HA.out HS.out).mono ?_; rintro e w' ⟨rfl, rfl⟩)
              go_ret2
              exact np_ret Hfin.out Hon.out Hone.out
    · have hnum : num s a = (5, 0, 0) := by
        rw [← hgo]
        have : 5 - k = (4 - k) + 1 := by omega
        rw [this, numGo, if_pos (by omega)]
      go_wp2_with (go_at_call 81; refine (next_out s (a + k) Ba Bs _ hA' hS' (by omega)).mono ?_; rintro e w' ⟨rfl, rfl⟩)
      exact ⟨rfl, np_panic (x := (0, 0)) hnum (by decide) ho⟩
end Go.Proofs.Ytcopedhoepblpaa
namespace Go.Proofs.Ytcopedhoepblpaa
open Go.RowKit Go.PlainAid
/-- numberAt: its panic, or its two results; two new blocks at most. -/
def AtPost (s : ByteArray) (at_ : Int) (w : World) (e : Ending) (w' : World) : Prop :=
  Below w.heap.size w w' ∧ (((getR s at_).1 ≠ 0 ∧ Panics (getR s at_).1 e) ∨
    ((getR s at_).1 = 0 ∧ e = .returned (.tuple #[.int .i64 (getR s at_).2.1, .int .i64 (getR s at_).2.2])))
theorem getR_bad {s : ByteArray} {a : Int} (h : a < 0 ∨ (s.size : Int) < a) : getR s a = (1, 0, 0) := by unfold getR; rw [if_pos h]
theorem getR_err {s : ByteArray} {a : Nat} (h : a ≤ s.size) (e : (num s a).1 ≠ 0) : getR s a = ((num s a).1, 0, 0) := by
  unfold getR; rw [if_neg (by omega), Int.toNat_natCast, if_neg e]
theorem getR_ok {s : ByteArray} {a : Nat} (h : a ≤ s.size) (e : (num s a).1 = 0) : getR s a = (0, (num s a).2.1, (a : Int) + ((num s a).2.2 : Nat)) := by
  unfold getR; rw [if_neg (by omega), Int.toNat_natCast, if_pos e]
end Go.Proofs.Ytcopedhoepblpaa
namespace Go.Proofs.Ytcopedhoepblpaa
open Go.RowKit Go.PlainAid
set_option maxHeartbeats 400000 in
theorem catch_idle (p : Addr) (w : World) :
    CallsD Try.prog 73 #[.pointer (some p)] .returning w fun e u' w' => e = .returned (.tuple #[]) ∧ u' = .returning ∧ w' = w := by
  refine callsD_of_wpS Try.func73 rfl fun c₀ cs hu => ?_
  have hq : ∀ w : World, (binOp BinOp.eql 20 .nilIface .nilIface).run Try.prog w = .ok (.bool true) w := fun _ => by kernel_rfl
  apply wpS_seq
  apply wpS_region
  simp [wpOpsS, go_sem, recoverD, hu, Try.ntmps73, Exit.thenS]
  refine wpS_of_wp ?_
  go_wp2
  cases c₀
  simp_all [bodyPostS, results, Try.results73]
set_option maxHeartbeats 400000 in
theorem catch_errno (p : Addr) (k x : Int) (w : World) (hc : w.cell? p = some (.int .i64 x)) (hz : w.frozen? p = false) :
    CallsD Try.prog 73 #[.pointer (some p)] (.panicking [{ v := .iface 28 (.int .i64 k), recovered := false }]) w fun e u' w' =>
      e = .returned (.tuple #[]) ∧ u' = .panicking [{ v := .iface 28 (.int .i64 k), recovered := true }] ∧ w' = w.setCell p (.int .i64 k) := by
  refine callsD_of_wpS Try.func73 rfl fun c₀ cs hu => ?_
  have hq : ∀ w : World, (binOp BinOp.eql 20 (.iface 28 (.int .i64 k)) .nilIface).run Try.prog w = .ok (.bool false) w := fun _ => by kernel_rfl
  have ht : ∀ w : World, (Instr.typeAssert (.iface 28 (.int .i64 k)) 20 28 true).run Try.prog w = .ok (.tuple #[.int .i64 k, .bool true]) w := fun _ => by kernel_rfl
  apply wpS_seq
  apply wpS_region
  simp [wpOpsS, go_sem, recoverD, hu, Try.ntmps73, Exit.thenS]
  refine wpS_of_wp ?_
  go_wp2
  cases c₀
  simp_all [bodyPostS, results, Try.results73]
def GuardPost (w : World) (Q : World → Prop) (E : Int → World → Prop) (e : Ending) (w' : World) : Prop :=
  ∃ k w1, w1.setCell ⟨w.heap.size, 0, none⟩ (.int .i64 k) = w' ∧ e = .returned (.int .i64 k) ∧ ((k = 0 ∧ Q w1) ∨ E k w1)
set_option maxHeartbeats 1000000 in
-- THE GUARD: the work by its own contract, whatever it is; it leaves the guard's own cell alone.
theorem guard_any (g : Nat) (cap : Array Value) (w : World) (Q : World → Prop) (E : Int → World → Prop)
    (hent : ∀ w, (callFunc g cap).run Try.prog w = .ok (.enter g cap) w)
    (h : Calls Try.prog g cap (w.alloc (.cells #[.int .i64 0] 28)) fun e w' => w'.heap[w.heap.size]? = some (.cells #[.int .i64 0] 28 (0, 0)) ∧ ((e = .returned (.tuple #[]) ∧ Q w') ∨ ∃ k, Panics k e ∧ E k w')) :
    Calls Try.prog 52 #[.func (.func g) #[] cap] w (GuardPost w Q E) := by
  have hmf : ∀ (fn : Fn) (first cap : Array Value) (w : World), (Instr.makeFunc fn first cap).run Try.prog w = .ok (.func fn first cap) w := fun _ _ _ _ => rfl
  have H := Lib.hid h
  clear h
  go_enter_defers Try.func52, Try.ntmps52
  go_wp2_with fail
  refine H.out.mono ?_
  rintro e w' ⟨hcell, ⟨rfl, hq⟩ | ⟨k, hk, hE⟩⟩
  · have c1 := cell_of_one hcell
    have c2 := free_of_one hcell
    have hc3 := cell_of_one (one_setCell (u := .int .i64 0) hcell)
    clear hcell
    go_wp2_with fail
    refine leaves_cons (f := 73) (args := #[.pointer (some ⟨w.heap.size, 0, none⟩)]) (by simp) (by simp [go_sem]) ?_
    refine (catch_idle _ _).mono ?_
    rintro e u' w'' ⟨rfl, rfl, rfl⟩
    simp [Leaves, settle, results, Try.results52, go_sem, hc3]
    exact ⟨0, w', rfl, rfl, .inl ⟨rfl, hq⟩⟩
  · unfold Panics at hk
    subst hk
    have c1 := cell_of_one hcell
    have c2 := free_of_one hcell
    have hc3 := cell_of_one (one_setCell (u := .int .i64 k) hcell)
    refine leaves_cons (f := 73) (args := #[.pointer (some ⟨w.heap.size, 0, none⟩)]) (by simp) (by simp [go_sem]) ?_
    refine (catch_errno _ k 0 _ c1 c2).mono ?_
    rintro e u' w'' ⟨rfl, rfl, rfl⟩
    simp [Leaves, settle, results, Try.results52, go_sem, hc3]
    exact ⟨k, w', rfl, rfl, .inr hE⟩
end Go.Proofs.Ytcopedhoepblpaa
namespace Go.Proofs.Ytcopedhoepblpaa
open Go.RowKit Go.PlainAid
/-- Get's work: its four captured variables are blocks of one cell each. -/
def WorkPost (s : ByteArray) (at_ : Int) (Bn Bt : Nat) (w : World) (e : Ending) (w' : World) : Prop :=
  ∃ w1, Below w.heap.size w w1 ∧ (((getR s at_).1 ≠ 0 ∧ Panics (getR s at_).1 e ∧ w1 = w') ∨
    ((getR s at_).1 = 0 ∧ e = .returned (.tuple #[]) ∧ (w1.setCell ⟨Bn, 0, none⟩ (.int .i64 (getR s at_).2.1)).setCell ⟨Bt, 0, none⟩ (.int .i64 (getR s at_).2.2) = w'))
/-- Behind the guard in Get: what the two named results' cells hold. -/
def GetMid (w : World) (n t : Int) (w' : World) : Prop :=
  Below w.heap.size w w' ∧ w.heap.size + 4 ≤ w'.heap.size ∧ w'.heap[w.heap.size + 2]? = some (.cells #[.int .i64 n] 3 (0, 0)) ∧ w'.heap[w.heap.size + 3]? = some (.cells #[.int .i64 t] 3 (0, 0))
theorem GetMid.set {w w' : World} {n t : Int} (h : GetMid w n t w') (k : Nat) (hk : w.heap.size + 4 ≤ k) (v : Value) : GetMid w n t (w'.setCell ⟨k, 0, none⟩ v) := by
  obtain ⟨h1, h2, h3, h4⟩ := h
  refine ⟨h1.setCell (by simp; omega) _, by simpa using h2, ?_, ?_⟩
  · rw [Below.heap_setCell _ _ _ _ (by simp; omega)]; exact h3
  · rw [Below.heap_setCell _ _ _ _ (by simp; omega)]; exact h4
theorem getR_zero {s : ByteArray} {a : Int} (h : (getR s a).1 ≠ 0) : (getR s a).2.1 = 0 ∧ (getR s a).2.2 = 0 := by
  unfold getR at *; split
  · exact ⟨rfl, rfl⟩
  · split
    · simp_all
    · exact ⟨rfl, rfl⟩
theorem below_four (w : World) (o0 o1 o2 o3 : Obj) : Below w.heap.size w ((((w.alloc o0).alloc o1).alloc o2).alloc o3) :=
  ((((Below.refl _ _).alloc (Nat.le_refl _) _).alloc (by simp) _).alloc (by simp; omega) _).alloc (by simp; omega) _
theorem heap_push (w : World) (o : Obj) (k : Nat) : (w.alloc o).heap[k]? = if k = w.heap.size then some o else w.heap[k]? := by
  show (w.heap.push o)[k]? = _
  rw [Array.getElem?_push]
theorem size_new (w : World) (o : Obj) : (w.alloc o).heap.size = w.heap.size + 1 := by show (w.heap.push o).size = _; simp
end Go.Proofs.Ytcopedhoepblpaa
