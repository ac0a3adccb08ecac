/- Pieces in memory; what a number, and messages, may be. Written by gen_allright.py. -/
import Derived.Test.YtcopedhoepblpaaPkA
import Derived.BigQuiet
set_option linter.unusedSimpArgs false
set_option linter.unusedVariables false
set_option maxRecDepth 100000
namespace Go.Proofs.Ytcopedhoepblpaa
open Go.RowKit Go.PlainAid

def dIls (ls : List (List Int)) : D := .row 1 (ls.map fun l => [dInts l])
def Pc.d (p : Pc) : List D := [dInts p.sent, dLls p.inn, dIls p.out]
theorem ils_at {w : World} {a : Option Addr} {k cap i : Nat} {ls : List (List Int)} {m : List Int} (h : Has w (.slice a k cap) (dIls ls)) (hm : ls[i]? = some m) :
    ∃ b o ma mc, a = some ⟨b, o, none⟩ ∧ b < w.heap.size ∧ k = ls.length ∧ w.cell? ⟨b, o + i, none⟩ = some (.slice ma m.length mc) ∧ Has w (.slice ma m.length mc) (dInts m) := by
  obtain ⟨b, o, c, e, h1, h2, cs, hcs, hc⟩ := cells_of (f := fun m => [dInts m]) h hm
  obtain ⟨v, r, rfl, hv, hr⟩ := hcs.cons
  obtain ⟨ma, mc, rfl⟩ := slice_of hv
  simp only [Value.slice.injEq] at e
  obtain ⟨rfl, rfl, rfl⟩ := e
  have := hc 0 _ rfl
  rw [Nat.mul_one, Nat.add_zero] at this
  exact ⟨b, o, ma, mc, rfl, h1, rfl, this, hv⟩
theorem ils_len {S : Prop} {P : Nat → Prop} {w : World} {a : Option Addr} {k cap : Nat} {xs : List (List Int)} (h : Holds S P w (.slice a k cap) (dIls xs)) : k = xs.length := by
  obtain ⟨_, _, e⟩ := Holds.len h
  rw [List.length_map] at e
  simp only [Value.slice.injEq] at e
  exact e.2.1
theorem links_len {S : Prop} {P : Nat → Prop} {w : World} {a : Option Addr} {k cap : Nat} {xs : Lks} (h : Holds S P w (.slice a k cap) (dLinks xs)) : k = xs.length := by
  obtain ⟨_, _, e⟩ := Holds.len h
  rw [List.length_map] at e
  simp only [Value.slice.injEq] at e
  exact e.2.1
/-- A piece's lists, to read. -/
theorem pc_has {w : World} {p : Pc} {v1 v2 v3 : Value} (h : HasL w [v1, v2, v3] p.d) : Has w v1 (dInts p.sent) ∧ Has w v2 (dLls p.inn) ∧ Has w v3 (dIls p.out) := by
  obtain ⟨c, r, e, h1, h⟩ := HasL.cons h
  cases e
  obtain ⟨c, r, e, h2, h⟩ := HasL.cons h
  cases e
  obtain ⟨c, r, e, h3, h⟩ := HasL.cons h
  cases e
  exact ⟨h1, h2, h3⟩
theorem has_pc {w : World} {p : Pc} {v1 v2 v3 : Value} (h1 : Has w v1 (dInts p.sent)) (h2 : Has w v2 (dLls p.inn)) (h3 : Has w v3 (dIls p.out)) : HasL w [v1, v2, v3] p.d := .mk h1 (.mk h2 (.mk h3 (hasL_nil _ _ _)))
/-- Lists that are not long. -/
structure SmallPc (p : Pc) : Prop where
  s : p.sent.length ≤ 1000000
  i : p.inn.length ≤ 1000000
  o : p.out.length ≤ 1000000
  im : ∀ m ∈ p.inn, m.length ≤ 1000000
  om : ∀ l ∈ p.out, l.length ≤ 1000000
theorem wi_false1 {n a b : Int} (h : ¬ a ≤ n) : wi n a b = false := by simp [wi, h]
theorem wi_false2 {n a b : Int} (h : ¬ n ≤ b) : wi n a b = false := by simp [wi, h]
theorem wi_true {n a b : Int} (h : a ≤ n) (h2 : n ≤ b) : wi n a b = true := by simp [wi, h, h2]
set_option maxHeartbeats 1000000 in
theorem within_at (n a b : Int) (w : World) : Calls Try.prog 31 #[.int .i64 n, .int .i64 a, .int .i64 b] w fun e w' => e = .returned (.bool (wi n a b)) ∧ w = w' := by
  by_cases h : a ≤ n
  · by_cases h2 : n ≤ b
    · rw [wi_true h h2]
      go_enter Try.func31, Try.ntmps31
      go_wp2_with fail
      go_ret
      exact ⟨rfl, rfl⟩
    · rw [wi_false2 h2]
      go_enter Try.func31, Try.ntmps31
      go_wp2_with fail
      go_ret
      exact ⟨rfl, rfl⟩
  · rw [wi_false1 h]
    go_enter Try.func31, Try.ntmps31
    go_wp2_with fail
    go_ret
    exact ⟨rfl, rfl⟩
set_option maxHeartbeats 1000000 in
theorem sent_at (n : Int) (w : World) : Calls Try.prog 33 #[.int .i64 n] w fun e w' => e = .returned (.bool (wi n 0 500)) ∧ w = w' := by
  go_enter Try.func33, Try.ntmps33
  go_wp2_with fail
  refine (within_at _ _ _ _).mono ?_
  rintro e w' ⟨rfl, rfl⟩
  go_wp2_with fail
  go_ret
  exact ⟨rfl, rfl⟩
set_option maxHeartbeats 1000000 in
theorem letter_at (n : Int) (w : World) : Calls Try.prog 67 #[.int .i64 n] w fun e w' => e = .returned (.bool (wi n 0 3)) ∧ w = w' := by
  go_enter Try.func67, Try.ntmps67
  go_wp2_with fail
  refine (within_at _ _ _ _).mono ?_
  rintro e w' ⟨rfl, rfl⟩
  go_wp2_with fail
  go_ret
  exact ⟨rfl, rfl⟩
theorem rise_next {xs : Lks} {j : Nat} {a x1 x2 : Int} (hx : xs[j]? = some (x1, x2)) : riseB a (xs.drop j) = (wi x1 (a + 1) 500 && wi x2 0 3 && riseB x1 (xs.drop (j + 1))) := by
  have hj := lt_of_some hx
  have e : xs[j] = (x1, x2) := by rw [List.getElem?_eq_getElem hj] at hx; exact Option.some.inj hx
  rw [List.drop_eq_getElem_cons hj, e]; rfl
set_option maxHeartbeats 2000000 in
theorem messages_at (xs : Lks) (r : Bool) (v : Value) (w : World) (h : Has w v (dLinks xs)) (hn : xs.length ≤ 1000000) (hr : r = riseB 0 xs) :
    Calls Try.prog 35 #[v] w fun e w' => e = .returned (.bool r) ∧ Below w.heap.size w w' := by
  obtain ⟨a1, c1, ee⟩ := slice_of h
  subst ee
  obtain ⟨n, hx⟩ : ∃ n, n = xs.length := ⟨_, rfl⟩
  rw [← hx] at h hn ⊢
  have H := Lib.hid h
  have HR := Lib.hid hr
  have HX := Lib.hid hx
  clear h hr hx
  go_enter Try.func35, Try.ntmps35
  go_wp2_with fail
  go_loopw [3, 8] (fun la i wr => ∃ (j : Nat) (a : Int), i = .int .i64 j ∧ la = .int .i64 a ∧ j ≤ n ∧ 0 ≤ a ∧ a ≤ 500 ∧ riseB 0 xs = riseB a (xs.drop j) ∧ Below w.heap.size w wr) (fun _ i _ => n - (intOf i).toNat)
  case atStart => exact ⟨0, 0, rfl, rfl, by omega, by omega, by omega, rfl, Below.refl _ _⟩
  case round =>
    obtain ⟨j, a, rfl, rfl, hj, ha0, ha1, heq, hb⟩ := hrel
    have BW := Lib.hid hb
    have EQ := Lib.hid heq
    by_cases hlt : j < n
    · have hlt' : (j : Int) < n := by omega
      obtain ⟨⟨x1, x2⟩, hx⟩ := some_of_lt (l := xs) (i := j) (by rw [← HX.out]; exact hlt)
      obtain ⟨b, o, e, p1, p2⟩ := msg_at (H.out.later hb) hx
      subst e
      simp only at p1 p2
      have RN := Lib.hid (rise_next (a := a) hx)
      have hsum : IntKind.i64.wrap (a + 1) = a + 1 := IntWalk.i64_in _ (by omega)
      clear hx heq hb
      cases q1 : wi x1 (a + 1) 500 with
      | false =>
        have Q1 := Lib.hid q1
        obtain rfl : r = false := by rw [HR.out, EQ.out, RN.out, Q1.out]; rfl
        clear q1
        go_wp2_with fail
        refine (within_at _ _ _ _).mono ?_
        rintro e w' ⟨rfl, rfl⟩
        rw [Q1.out]
        go_wp2_with fail
        go_ret
        exact ⟨rfl, below_step' BW.out (below_new _ _)⟩
      | true =>
        have Q1 := Lib.hid q1
        have hx1 := wi_iff.1 q1
        have hx10 : 0 ≤ x1 := by omega
        have hx15 : x1 ≤ 500 := hx1.2
        clear q1 hx1
        cases q2 : wi x2 0 3 with
        | false =>
          have Q2 := Lib.hid q2
          obtain rfl : r = false := by rw [HR.out, EQ.out, RN.out, Q1.out, Q2.out]; rfl
          clear q2
          go_wp2_with fail
          refine (within_at _ _ _ _).mono ?_
          rintro e w' ⟨rfl, rfl⟩
          rw [Q1.out]
          go_wp2_with fail
          refine (letter_at _ _).mono ?_
          rintro e w' ⟨rfl, rfl⟩
          rw [Q2.out]
          go_wp2_with fail
          go_ret
          exact ⟨rfl, below_step' BW.out (below_new _ _)⟩
        | true =>
          have Q2 := Lib.hid q2
          have EN : Hid (riseB 0 xs = riseB x1 (xs.drop (j + 1))) := Lib.hid (by rw [EQ.out, RN.out, Q1.out, Q2.out]; rfl)
          clear q2
          go_wp2_with fail
          refine (within_at _ _ _ _).mono ?_
          rintro e w' ⟨rfl, rfl⟩
          rw [Q1.out]
          go_wp2_with fail
          refine (letter_at _ _).mono ?_
          rintro e w' ⟨rfl, rfl⟩
          rw [Q2.out]
          go_wp2_with fail
          go_roundw
          case rel => exact ⟨j + 1, x1, by go_num, rfl, by omega, by omega, by omega, EN.out, below_step' BW.out (below_new _ _)⟩
          case measure => simp [intOf]; omega
    · obtain rfl : j = n := by omega
      have hj3 : ¬ (j : Int) < j := by omega
      obtain rfl : r = true := by rw [HR.out, EQ.out, List.drop_of_length_le (by rw [← HX.out]; exact Nat.le_refl _)]; rfl
      clear heq hb
      go_wp2_with fail
      go_ret
      exact ⟨rfl, BW.out⟩
end Go.Proofs.Ytcopedhoepblpaa
