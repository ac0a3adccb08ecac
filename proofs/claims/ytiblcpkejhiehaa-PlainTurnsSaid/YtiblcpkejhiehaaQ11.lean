/- Texts put together. -/
import Derived.Test.YtiblcpkejhiehaaQ00
import Derived.Test.YtiblcpkejhiehaaQ07
import Derived.Test.YtiblcpkejhiehaaQ08
import Derived.Test.YtiblcpkejhiehaaQ10
import Derived.BigQuiet
set_option linter.unusedSimpArgs false
namespace Go.Proofs.Ytiblcpkejhiehaa
open Go.RowKit Go.PlainAid
def A5 : Ap := ⟨2, F2, T5, false⟩
def A5f : Ap := ⟨2, F2, T5, true⟩
def C50 : Cf := ⟨[0, 0], [[], []], [0, 0]⟩
def D50 : Cf := ⟨[1, 0], [[(1, 1), (2, 2)], []], [2, 0]⟩
def X50 : Cf := ⟨[1, 0], [[(1, 1)], []], [2, 0]⟩
def Y50 : Cf := ⟨[1, 1], [[(2, 2)], []], [2, 0]⟩
theorem t5Small : SmallTab T5 := by
 refine ⟨by simp [T5], fun y hy => ?_⟩
 simp [T5] at hy
 rcases hy with rfl | rfl
 ·refine ⟨by simp, fun s hs => ?_⟩
  simp at hs
  rcases hs with rfl | rfl <;> simp [SmallSt]
 ·refine ⟨by simp, fun s hs => ?_⟩
  simp at hs
  rcases hs with rfl | rfl <;> simp [SmallSt]
theorem t5OK : TabOK 2 F2 T5 := by
 refine ⟨rightF2, rfl, fun n x hx => ?_⟩
 match n, hx with
 | 0, hx =>
  simp [T5] at hx; subst hx
  refine ⟨by simp, ⟨by simp, by simp⟩, fun t ht => ?_, fun t ht => ?_⟩
  ·simp at ht
   rcases ht with rfl | rfl
   ·refine ⟨⟨by decide, by decide⟩, ⟨by simp, fun i x h => by simp at h⟩, ⟨by simp, by simp, fun i p h => ?_⟩, fun i x h => by simp at h⟩
    match i, h with
    | 0, h =>
     simp at h; subst h
     refine ⟨⟨by simp, by simp⟩, by simp, fun j q hq => ?_⟩
     match j, hq with
     | 0, hq => simp at hq; subst hq; exact ⟨by decide, by decide, by decide⟩
     | 1, hq => simp at hq; subst hq; exact ⟨by decide, by decide, by decide⟩
     | j + 2, hq => simp at hq
    | i + 1, h => simp at h
   ·exact zeroOK _ _ _
  ·simp at ht
   rcases ht with rfl | rfl <;> (intro i u h; simp at h)
 | 1, hx =>
  simp [T5] at hx; subst hx
  refine ⟨by simp, ⟨by simp, by simp⟩, fun t ht => ?_, fun t ht => ?_⟩
  ·simp at ht
   rcases ht with rfl | rfl
   ·refine ⟨⟨by decide, by decide⟩, ⟨by simp, fun i x h => ?_⟩, ⟨by simp, by simp, fun i p h => by simp at h⟩, fun i u h => ?_⟩
    ·match i, h with
     | 0, h => simp at h; subst h; exact ⟨by decide, fun u h => by omega⟩
     | i + 1, h => simp at h
    ·match i, h with
     | 0, h => simp at h; subst h; exact ⟨⟨by decide, by decide, by decide⟩, ⟨by simp, by simp⟩, fun j u hj => by omega⟩
     | i + 1, h => simp at h
   ·exact zeroOK _ _ _
  ·simp at ht
   rcases ht with rfl | rfl
   ·intro i u h j y hy hne
    match i, h with
    | 0, h =>
     simp at h; subst h
     match j, hy with
     | 0, hy => simp at hy; subst hy; exact absurd rfl hne
     | j + 1, hy => simp at hy
    | i + 1, h => simp at h
   ·intro i u h; simp at h
 | n + 2, hx => simp [T5] at hx
theorem c50_is : startOf A5 = C50 := rfl
theorem c50OK : CfOK A5 C50 := startOf_ok (A := A5) t5OK
theorem e50_0 : errOf A5 C50 ⟨0, 0, 0, 0, 0⟩ = 0 := by decide
theorem d50_is : doneOf A5 C50 ⟨0, 0, 0, 0, 0⟩ = D50 := by rfl
theorem d50OK : CfOK A5 D50 := by rw [← d50_is]; exact doneOf_ok c50OK e50_0
theorem e50_1 : errOf A5 C50 ⟨0, 1, 0, 0, 0⟩ = 8 := by decide
theorem e50_2 : errOf A5 C50 ⟨0, 0, 1, 0, 0⟩ = 3 := by decide
theorem e50_3 : errOf A5 C50 ⟨0, 2, 0, 0, 0⟩ = 1 := by decide
theorem e50_4 : errOf A5 D50 ⟨1, 0, 0, 0, 2⟩ = 0 := by decide
theorem x50_is : doneOf A5 D50 ⟨1, 0, 0, 0, 2⟩ = X50 := by rfl
theorem e50_5 : errOf A5f D50 ⟨1, 0, 0, 0, 2⟩ = 3 := by decide
theorem y50_is : runOf A5f C50 [⟨0, 0, 0, 0, 0⟩, ⟨1, 0, 0, 0, 1⟩, ⟨0, 0, 0, 0, 0⟩] = (Y50, 2, 8) := by rfl
theorem can50 : canOf A5f D50 = [⟨1, 0, 0, 0, 1⟩] := by decide
theorem can50' : (canOf A5 D50).length = 2 := by decide
theorem c50OKf : CfOK A5f C50 := ⟨c50OK.1, c50OK.2.states, c50OK.2.links, c50OK.2.sent, c50OK.2.st, c50OK.2.ms⟩
theorem d50OKf : CfOK A5f D50 := ⟨d50OK.1, d50OK.2.states, d50OK.2.links, d50OK.2.sent, d50OK.2.st, d50OK.2.ms⟩
end Go.Proofs.Ytiblcpkejhiehaa

set_option linter.unusedSimpArgs false
set_option linter.unusedVariables false
namespace Go.Proofs.Ytiblcpkejhiehaa
open Go.RowKit Go.PlainAid
theorem take_next {α : Type} {xs ys : List α} {j : Nat} {x y : α} (hx : xs[j]? = some x) (hy : ys[j]? = some y) (h : xs.take j = ys.take j) (e : x = y) : xs.take (j + 1) = ys.take (j + 1) := by
 rw [List.take_add_one, List.take_add_one, hx, hy, h, e]
set_option maxHeartbeats 8000000 in
set_option maxRecDepth 100000 in
theorem eqInts_at (xs ys : List Int) (r : Bool) (v1 v2 : Value) (w : World) (h1 : Has w v1 (dInts xs)) (h2 : Has w v2 (dInts ys)) (hn : xs.length ≤ 1000000) (hr : r = true ↔ xs = ys) :
  Calls Try.prog 52 #[v1, v2] w fun e w' => e = .returned (.bool r) ∧ Below w.heap.size w w' := by
 obtain ⟨a1, c1, ee⟩ := slice_of h1
 subst ee
 obtain ⟨a2, c2, ee⟩ := slice_of h2
 subst ee
 have H1 := Lib.hid h1
 have H2 := Lib.hid h2
 have HR := Lib.hid hr
 by_cases hl : xs.length = ys.length
 ·obtain ⟨n, hx⟩ : ∃ n, n = xs.length := ⟨_, rfl⟩
  have hy : n = ys.length := by rw [hx]; exact hl
  rw [← hx] at h1 hn ⊢
  rw [← hy] at h2 ⊢
  replace H1 := Lib.hid h1
  replace H2 := Lib.hid h2
  have HX := Lib.hid hx
  have HY := Lib.hid hy
  clear h1 h2 hr hl hx hy
  go_enter Try.func52, Try.ntmps52
  try simp only [List.append_eq, List.cons_append, List.nil_append]
  go_wp2_with fail
  go_loopw [13] (fun i wr => ∃ j : Nat, i = .int .i64 j ∧ j ≤ n ∧ xs.take j = ys.take j ∧ Below w.heap.size w wr) (fun i _ => n - (intOf i).toNat)
  case atStart => exact ⟨0, rfl, by omega, rfl, Below.refl _ _⟩
  case round =>
   obtain ⟨j, rfl, hj, heq, hb⟩ := hrel
   have BW := Lib.hid hb
   by_cases hlt : j < n
   ·have hlt' : (j : Int) < n := by omega
    obtain ⟨x, hx⟩ := some_of_lt (l := xs) (i := j) (by rw [← HX.out]; exact hlt)
    obtain ⟨y, hy⟩ := some_of_lt (l := ys) (i := j) (by rw [← HY.out]; exact hlt)
    obtain ⟨b, o, e, x1⟩ := num_at (H1.out.later hb) hx
    subst e
    obtain ⟨b', o', e, y1⟩ := num_at (H2.out.later hb) hy
    subst e
    have GX := Lib.hid hx
    have GY := Lib.hid hy
    have EQ := Lib.hid heq
    clear hx hy heq hb
    by_cases hxy : x = y
    ·have hne : (x != y) = false := by simpa using hxy
     have HXY := Lib.hid hxy
     clear hxy
     go_wp2_with fail
     go_quiet (fail)
     have hbq : Below wr.heap.size wr (wr.drewN nq) := below_drewN (Below.refl _ wr) nq
     have BQ := Lib.hid (below_step' BW.out hbq)
     clear hbq
     go_wp2_with fail
     go_roundw
     case rel => exact ⟨j + 1, by go_num, by omega, take_next GX.out GY.out EQ.out HXY.out, BQ.out⟩
     case measure => simp [intOf]; omega
    ·have hne : (x != y) = true := by simpa using hxy
     have hrf : r = false := by
      cases r with
      | false => rfl
      | true =>
       have e := HR.out.1 rfl
       have h := GX.out
       rw [e, GY.out] at h
       cases h
       exact absurd rfl hxy
     subst hrf
     clear hxy
     go_wp2_with fail
     go_quiet (fail)
     have hbq : Below wr.heap.size wr (wr.drewN nq) := below_drewN (Below.refl _ wr) nq
     have BQ := Lib.hid (below_step' BW.out hbq)
     clear hbq
     go_wp2_with fail
     go_ret
     exact ⟨rfl, BQ.out⟩
   ·obtain rfl : j = n := by omega
    have hj3 : ¬ (j : Int) < j := by omega
    have hrt : r = true := HR.out.2 (by
     have h := heq
     rw [List.take_of_length_le (by rw [HX.out]; exact Nat.le_refl _), List.take_of_length_le (by rw [HY.out]; exact Nat.le_refl _)] at h
     exact h)
    subst hrt
    clear heq hb
    go_wp2_with fail
    go_ret
    exact ⟨rfl, BW.out⟩
 ·have hrf : r = false := by
   cases r with
   | false => rfl
   | true => exact absurd (congrArg List.length (hr.1 rfl)) hl
  subst hrf
  obtain ⟨n, hx⟩ : ∃ n, n = xs.length := ⟨_, rfl⟩
  obtain ⟨m, hy⟩ : ∃ n, n = ys.length := ⟨_, rfl⟩
  rw [← hx, ← hy] at hl ⊢
  have hl1 : ¬ (n : Int) = m := by omega
  have hl2 : ((n : Int) != m) = true := by simp; omega
  clear h1 h2 hr hx hy HR H1 H2 hn
  go_enter Try.func52, Try.ntmps52
  try simp only [List.append_eq, List.cons_append, List.nil_append]
  go_wp2_with fail
  go_ret
  exact ⟨rfl, Below.refl _ _⟩
end Go.Proofs.Ytiblcpkejhiehaa

set_option linter.unusedSimpArgs false
set_option linter.unusedVariables false
namespace Go.Proofs.Ytiblcpkejhiehaa
open Go.RowKit Go.PlainAid
theorem run_eqMsg (w : World) (a b c d : Int) : (Op.equalIn 10000 63 (.agg #[.int .i64 a, .int .i64 b]) (.agg #[.int .i64 c, .int .i64 d])).run Try.prog w = .ok (a == c && b == d) w := by
 rw [Op.equalIn]
 simp only [Sem.run_bind, run_underlying Try.underlying63, Result.andThen_ok]
 have p0 : ∀ x y : Int, (part 3 #[.int .i64 x, .int .i64 y] 0).run Try.prog w = .ok (.int .i64 x) w := fun x y => by simp [part, isAgg, run_underlying Try.underlying3]
 have p1 : ∀ x y : Int, (part 3 #[.int .i64 x, .int .i64 y] 1).run Try.prog w = .ok (.int .i64 y) w := fun x y => by simp [part, isAgg, run_underlying Try.underlying3]
 have pe : ∀ x y : Int, (Op.equalIn 9999 3 (.int .i64 x) (.int .i64 y)).run Try.prog w = .ok (x == y) w := fun x y => run_equalIn_int w 9998 _ .i64 .i64 x y Try.underlying3
 simp [List.forIn_cons, List.forIn_nil, Sem.run_bind, p0, p1, pe, Result.andThen_ok]
 by_cases h1 : a = c <;> by_cases h2 : b = d <;> simp [h1, h2]
attribute [go_sem] run_eqMsg
set_option maxHeartbeats 8000000 in
set_option maxRecDepth 100000 in
theorem eqMsgs_at (xs ys : Lks) (r : Bool) (v1 v2 : Value) (w : World) (h1 : Has w v1 (dLinks xs)) (h2 : Has w v2 (dLinks ys)) (hn : xs.length ≤ 1000000) (hr : r = true ↔ xs = ys) :
  Calls Try.prog 54 #[v1, v2] w fun e w' => e = .returned (.bool r) ∧ Below w.heap.size w w' := by
 obtain ⟨a1, c1, ee⟩ := slice_of h1
 subst ee
 obtain ⟨a2, c2, ee⟩ := slice_of h2
 subst ee
 have H1 := Lib.hid h1
 have H2 := Lib.hid h2
 have HR := Lib.hid hr
 by_cases hl : xs.length = ys.length
 ·obtain ⟨n, hx⟩ : ∃ n, n = xs.length := ⟨_, rfl⟩
  have hy : n = ys.length := by rw [hx]; exact hl
  rw [← hx] at h1 hn ⊢
  rw [← hy] at h2 ⊢
  replace H1 := Lib.hid h1
  replace H2 := Lib.hid h2
  have HX := Lib.hid hx
  have HY := Lib.hid hy
  clear h1 h2 hr hl hx hy
  go_enter Try.func54, Try.ntmps54
  try simp only [List.append_eq, List.cons_append, List.nil_append]
  go_wp2_with fail
  go_loopw [13] (fun i wr => ∃ j : Nat, i = .int .i64 j ∧ j ≤ n ∧ xs.take j = ys.take j ∧ Below w.heap.size w wr) (fun i _ => n - (intOf i).toNat)
  case atStart => exact ⟨0, rfl, by omega, rfl, Below.refl _ _⟩
  case round =>
   obtain ⟨j, rfl, hj, heq, hb⟩ := hrel
   have BW := Lib.hid hb
   by_cases hlt : j < n
   ·have hlt' : (j : Int) < n := by omega
    obtain ⟨⟨x1, x2⟩, hx⟩ := some_of_lt (l := xs) (i := j) (by rw [← HX.out]; exact hlt)
    obtain ⟨⟨y1, y2⟩, hy⟩ := some_of_lt (l := ys) (i := j) (by rw [← HY.out]; exact hlt)
    obtain ⟨b, o, e, p1, p2⟩ := msg_at (H1.out.later hb) hx
    subst e
    obtain ⟨b', o', e, q1, q2⟩ := msg_at (H2.out.later hb) hy
    subst e
    simp only at p1 p2 q1 q2
    have GX := Lib.hid hx
    have GY := Lib.hid hy
    have EQ := Lib.hid heq
    clear hx hy heq hb
    by_cases hxy : x1 = y1 ∧ x2 = y2
    ·obtain ⟨rfl, rfl⟩ := hxy
     go_wp2_with fail
     go_quiet (fail)
     have hbq : Below wr.heap.size wr (wr.drewN nq) := below_drewN (Below.refl _ wr) nq
     have BQ := Lib.hid (below_step' BW.out hbq)
     clear hbq
     go_wp2_with fail
     go_roundw
     case rel => exact ⟨j + 1, by go_num, by omega, take_next GX.out GY.out EQ.out rfl, BQ.out⟩
     case measure => simp [intOf]; omega
    ·have hne : (x1 == y1 && x2 == y2) = false := by
      cases h1 : (x1 == y1 && x2 == y2) with
      | false => rfl
      | true => simp at h1; exact absurd h1 hxy
     have hrf : r = false := by
      cases r with
      | false => rfl
      | true =>
       have e := HR.out.1 rfl
       have h := GX.out
       rw [e, GY.out] at h
       cases h
       exact absurd ⟨rfl, rfl⟩ hxy
     subst hrf
     by_cases hx1 : x1 = y1
     ·subst hx1
      have hx2 : ¬ x2 = y2 := fun e => hxy ⟨rfl, e⟩
      have hx3 : (x2 == y2) = false := by simpa using hx2
      clear hxy hne
      go_wp2_with fail
      go_quiet (fail)
      have hbq : Below wr.heap.size wr (wr.drewN nq) := below_drewN (Below.refl _ wr) nq
      have BQ := Lib.hid (below_step' BW.out hbq)
      clear hbq
      go_wp2_with fail
      go_ret
      exact ⟨rfl, BQ.out⟩
     ·have hx3 : (x1 == y1) = false := by simpa using hx1
      clear hxy hne
      go_wp2_with fail
      go_quiet (fail)
      have hbq : Below wr.heap.size wr (wr.drewN nq) := below_drewN (Below.refl _ wr) nq
      have BQ := Lib.hid (below_step' BW.out hbq)
      clear hbq
      go_wp2_with fail
      go_ret
      exact ⟨rfl, BQ.out⟩
   ·obtain rfl : j = n := by omega
    have hj3 : ¬ (j : Int) < j := by omega
    have hrt : r = true := HR.out.2 (by
     have h := heq
     rw [List.take_of_length_le (by rw [HX.out]; exact Nat.le_refl _), List.take_of_length_le (by rw [HY.out]; exact Nat.le_refl _)] at h
     exact h)
    subst hrt
    clear heq hb
    go_wp2_with fail
    go_ret
    exact ⟨rfl, BW.out⟩
 ·have hrf : r = false := by
   cases r with
   | false => rfl
   | true => exact absurd (congrArg List.length (hr.1 rfl)) hl
  subst hrf
  obtain ⟨n, hx⟩ : ∃ n, n = xs.length := ⟨_, rfl⟩
  obtain ⟨m, hy⟩ : ∃ n, n = ys.length := ⟨_, rfl⟩
  rw [← hx, ← hy] at hl ⊢
  have hl1 : ¬ (n : Int) = m := by omega
  have hl2 : ((n : Int) != m) = true := by simp; omega
  clear h1 h2 hr hx hy HR H1 H2 hn
  go_enter Try.func54, Try.ntmps54
  try simp only [List.append_eq, List.cons_append, List.nil_append]
  go_wp2_with fail
  go_ret
  exact ⟨rfl, Below.refl _ _⟩
end Go.Proofs.Ytiblcpkejhiehaa

set_option linter.unusedSimpArgs false
set_option linter.unusedVariables false
namespace Go.Proofs.Ytiblcpkejhiehaa
open Go.RowKit Go.PlainAid
set_option maxHeartbeats 8000000 in
set_option maxRecDepth 100000 in
theorem rmsgs_at (xs ys : Lks) (r : Bool) (v1 v2 : Value) (w : World) (h1 : Has w v1 (dLinks xs)) (h2 : Has w v2 (dLinks ys)) (hn : xs.length ≤ 1000000) (hr : r = true ↔ xs = ys) :
  Calls Try.prog 39 #[v1, v2] w fun e w' => e = .returned (.bool r) ∧ Below w.heap.size w w' := by
 obtain ⟨a1, c1, ee⟩ := slice_of h1
 subst ee
 obtain ⟨a2, c2, ee⟩ := slice_of h2
 subst ee
 have H1 := Lib.hid h1
 have H2 := Lib.hid h2
 have HR := Lib.hid hr
 by_cases hl : xs.length = ys.length
 ·obtain ⟨n, hx⟩ : ∃ n, n = xs.length := ⟨_, rfl⟩
  have hy : n = ys.length := by rw [hx]; exact hl
  rw [← hx] at h1 hn ⊢
  rw [← hy] at h2 ⊢
  replace H1 := Lib.hid h1
  replace H2 := Lib.hid h2
  have HX := Lib.hid hx
  have HY := Lib.hid hy
  clear h1 h2 hr hl hx hy
  go_enter Try.func39, Try.ntmps39
  try simp only [List.append_eq, List.cons_append, List.nil_append]
  go_wp2_with fail
  go_loopw [5] (fun i wr => ∃ j : Nat, i = .int .i64 j ∧ j ≤ n ∧ xs.take j = ys.take j ∧ Below w.heap.size w wr) (fun i _ => n - (intOf i).toNat)
  case atStart => exact ⟨0, rfl, by omega, rfl, Below.refl _ _⟩
  case round =>
   obtain ⟨j, rfl, hj, heq, hb⟩ := hrel
   have BW := Lib.hid hb
   by_cases hlt : j < n
   ·have hlt' : (j : Int) < n := by omega
    obtain ⟨⟨x1, x2⟩, hx⟩ := some_of_lt (l := xs) (i := j) (by rw [← HX.out]; exact hlt)
    obtain ⟨⟨y1, y2⟩, hy⟩ := some_of_lt (l := ys) (i := j) (by rw [← HY.out]; exact hlt)
    obtain ⟨b, o, e, p1, p2⟩ := msg_at (H1.out.later hb) hx
    subst e
    obtain ⟨b', o', e, q1, q2⟩ := msg_at (H2.out.later hb) hy
    subst e
    simp only at p1 p2 q1 q2
    have GX := Lib.hid hx
    have GY := Lib.hid hy
    have EQ := Lib.hid heq
    clear hx hy heq hb
    by_cases hxy : x1 = y1 ∧ x2 = y2
    ·obtain ⟨rfl, rfl⟩ := hxy
     go_wp2_with fail
     go_quiet (fail)
     have hbq : Below wr.heap.size wr (wr.drewN nq) := below_drewN (Below.refl _ wr) nq
     have BQ := Lib.hid (below_step' BW.out hbq)
     clear hbq
     go_wp2_with fail
     go_roundw
     case rel => exact ⟨j + 1, by go_num, by omega, take_next GX.out GY.out EQ.out rfl, BQ.out⟩
     case measure => simp [intOf]; omega
    ·have hne : (x1 == y1 && x2 == y2) = false := by
      cases h1 : (x1 == y1 && x2 == y2) with
      | false => rfl
      | true => simp at h1; exact absurd h1 hxy
     have hrf : r = false := by
      cases r with
      | false => rfl
      | true =>
       have e := HR.out.1 rfl
       have h := GX.out
       rw [e, GY.out] at h
       cases h
       exact absurd ⟨rfl, rfl⟩ hxy
     subst hrf
     by_cases hx1 : x1 = y1
     ·subst hx1
      have hx2 : ¬ x2 = y2 := fun e => hxy ⟨rfl, e⟩
      have hx3 : (x2 == y2) = false := by simpa using hx2
      clear hxy hne
      go_wp2_with fail
      go_quiet (fail)
      have hbq : Below wr.heap.size wr (wr.drewN nq) := below_drewN (Below.refl _ wr) nq
      have BQ := Lib.hid (below_step' BW.out hbq)
      clear hbq
      go_wp2_with fail
      go_ret
      exact ⟨rfl, BQ.out⟩
     ·have hx3 : (x1 == y1) = false := by simpa using hx1
      clear hxy hne
      go_wp2_with fail
      go_quiet (fail)
      have hbq : Below wr.heap.size wr (wr.drewN nq) := below_drewN (Below.refl _ wr) nq
      have BQ := Lib.hid (below_step' BW.out hbq)
      clear hbq
      go_wp2_with fail
      go_ret
      exact ⟨rfl, BQ.out⟩
   ·obtain rfl : j = n := by omega
    have hj3 : ¬ (j : Int) < j := by omega
    have hrt : r = true := HR.out.2 (by
     have h := heq
     rw [List.take_of_length_le (by rw [HX.out]; exact Nat.le_refl _), List.take_of_length_le (by rw [HY.out]; exact Nat.le_refl _)] at h
     exact h)
    subst hrt
    clear heq hb
    go_wp2_with fail
    go_ret
    exact ⟨rfl, BW.out⟩
 ·have hrf : r = false := by
   cases r with
   | false => rfl
   | true => exact absurd (congrArg List.length (hr.1 rfl)) hl
  subst hrf
  obtain ⟨n, hx⟩ : ∃ n, n = xs.length := ⟨_, rfl⟩
  obtain ⟨m, hy⟩ : ∃ n, n = ys.length := ⟨_, rfl⟩
  rw [← hx, ← hy] at hl ⊢
  have hl1 : ¬ (n : Int) = m := by omega
  have hl2 : ((n : Int) != m) = true := by simp; omega
  clear h1 h2 hr hx hy HR H1 H2 hn
  go_enter Try.func39, Try.ntmps39
  try simp only [List.append_eq, List.cons_append, List.nil_append]
  go_wp2_with fail
  go_ret
  exact ⟨rfl, Below.refl _ _⟩
end Go.Proofs.Ytiblcpkejhiehaa

set_option linter.unusedSimpArgs false
set_option linter.unusedVariables false
namespace Go.Proofs.Ytiblcpkejhiehaa
open Go.RowKit Go.PlainAid
def fnEq : Value := .func (.func 54) #[] #[]
set_option maxHeartbeats 8000000 in
set_option maxRecDepth 100000 in
theorem eqLls_at (xs ys : List Lks) (r : Bool) (v1 v2 : Value) (w : World) (h1 : Has w v1 (dLls xs)) (h2 : Has w v2 (dLls ys)) (hn : xs.length ≤ 1000000) (hm : ∀ m ∈ xs, m.length ≤ 1000000) (hr : r = true ↔ xs = ys) :
  Calls Try.prog 53 #[v1, v2, fnEq] w fun e w' => e = .returned (.bool r) ∧ Below w.heap.size w w' := by
 obtain ⟨a1, c1, ee⟩ := slice_of h1
 subst ee
 obtain ⟨a2, c2, ee⟩ := slice_of h2
 subst ee
 have H1 := Lib.hid h1
 have H2 := Lib.hid h2
 have HR := Lib.hid hr
 have HMM := Lib.hid hm
 unfold fnEq
 by_cases hl : xs.length = ys.length
 ·obtain ⟨n, hx⟩ : ∃ n, n = xs.length := ⟨_, rfl⟩
  have hy : n = ys.length := by rw [hx]; exact hl
  rw [← hx] at h1 hn ⊢
  rw [← hy] at h2 ⊢
  replace H1 := Lib.hid h1
  replace H2 := Lib.hid h2
  have HX := Lib.hid hx
  have HY := Lib.hid hy
  clear h1 h2 hr hl hx hy hm
  go_enter Try.func53, Try.ntmps53
  try simp only [List.append_eq, List.cons_append, List.nil_append]
  go_wp2_with fail
  go_loopw [17] (fun i wr => ∃ j : Nat, i = .int .i64 j ∧ j ≤ n ∧ xs.take j = ys.take j ∧ Below w.heap.size w wr) (fun i _ => n - (intOf i).toNat)
  case atStart => exact ⟨0, rfl, by omega, rfl, Below.refl _ _⟩
  case round =>
   obtain ⟨j, rfl, hj, heq, hb⟩ := hrel
   have BW := Lib.hid hb
   by_cases hlt : j < n
   ·have hlt' : (j : Int) < n := by omega
    obtain ⟨x, hx⟩ := some_of_lt (l := xs) (i := j) (by rw [← HX.out]; exact hlt)
    obtain ⟨y, hy⟩ := some_of_lt (l := ys) (i := j) (by rw [← HY.out]; exact hlt)
    obtain ⟨b, o, ma, mc, e, _, e9, x1, hmx⟩ := lls_at (H1.out.later hb) hx
    clear e9
    subst e
    obtain ⟨b', o', ma', mc', e, _, e9, y1, hmy⟩ := lls_at (H2.out.later hb) hy
    clear e9
    subst e
    have GX := Lib.hid hx
    have GY := Lib.hid hy
    have EQ := Lib.hid heq
    have MX := Lib.hid hmx
    have MY := Lib.hid hmy
    obtain ⟨k1, hk1⟩ : ∃ k, k = x.length := ⟨_, rfl⟩
    obtain ⟨k2, hk2⟩ : ∃ k, k = y.length := ⟨_, rfl⟩
    rw [← hk1] at x1 hmx
    rw [← hk2] at y1 hmy
    replace MX := Lib.hid hmx
    replace MY := Lib.hid hmy
    obtain ⟨q, hq⟩ := bool_some (x = y)
    have HQ := Lib.hid hq
    clear hx hy heq hb hmx hmy hk1 hk2 hq
    go_wp2_with fail
    refine (eqMsgs_at x y q _ _ _ MX.out MY.out (HMM.out x (List.mem_of_getElem? GX.out)) HQ.out).mono ?_
    rintro e w5 ⟨rfl, hb⟩
    have BQ := Lib.hid (below_step' BW.out hb)
    clear hb
    cases q with
    | true =>
     go_wp2_with fail
     go_roundw
     case rel => exact ⟨j + 1, by go_num, by omega, take_next GX.out GY.out EQ.out (HQ.out.1 (by simp)), BQ.out⟩
     case measure => simp [intOf]; omega
    | false =>
     have hrf : r = false := by
      cases r with
      | false => rfl
      | true =>
       have e := HR.out.1 rfl
       have h := GX.out
       rw [e, GY.out] at h
       cases h
       have h := HQ.out.2 rfl; simp at h
     subst hrf
     go_wp2_with fail
     go_ret
     exact ⟨rfl, BQ.out⟩
   ·obtain rfl : j = n := by omega
    have hj3 : ¬ (j : Int) < j := by omega
    have hrt : r = true := HR.out.2 (by
     have h := heq
     rw [List.take_of_length_le (by rw [HX.out]; exact Nat.le_refl _), List.take_of_length_le (by rw [HY.out]; exact Nat.le_refl _)] at h
     exact h)
    subst hrt
    clear heq hb
    go_wp2_with fail
    go_ret
    exact ⟨rfl, BW.out⟩
 ·have hrf : r = false := by
   cases r with
   | false => rfl
   | true => exact absurd (congrArg List.length (hr.1 rfl)) hl
  subst hrf
  obtain ⟨n, hx⟩ : ∃ n, n = xs.length := ⟨_, rfl⟩
  obtain ⟨m, hy⟩ : ∃ n, n = ys.length := ⟨_, rfl⟩
  rw [← hx, ← hy] at hl ⊢
  have hl1 : ¬ (n : Int) = m := by omega
  have hl2 : ((n : Int) != m) = true := by simp; omega
  clear h1 h2 hr hx hy HR H1 H2 hn hm
  go_enter Try.func53, Try.ntmps53
  try simp only [List.append_eq, List.cons_append, List.nil_append]
  go_wp2_with fail
  go_ret
  exact ⟨rfl, Below.refl _ _⟩
end Go.Proofs.Ytiblcpkejhiehaa

set_option linter.unusedSimpArgs false
set_option linter.unusedVariables false
namespace Go.Proofs.Ytiblcpkejhiehaa
open Go.RowKit Go.PlainAid
theorem cf_slices' {w : World} {c : Cf} {v1 v2 v3 : Value} (h : HasL w [v1, v2, v3] c.d) : ∃ (a1 a2 a3 : Option Addr) (n1 n2 n3 e1 e2 e3 : Nat), v1 = .slice a1 n1 e1 ∧ v2 = .slice a2 n2 e2 ∧ v3 = .slice a3 n3 e3 := by
 obtain ⟨h1, h2, h3⟩ := cf_has h
 obtain ⟨a1, e1, rfl⟩ := slice_of h1
 obtain ⟨a2, e2, rfl⟩ := slice_of h2
 obtain ⟨a3, e3, rfl⟩ := slice_of h3
 exact ⟨_, _, _, _, _, _, _, _, _, rfl, rfl, rfl⟩
set_option maxHeartbeats 8000000 in
set_option maxRecDepth 100000 in
theorem same_at (c d : Cf) (r : Bool) (v1 v2 v3 u1 u2 u3 : Value) (w : World) (hc : HasL w [v1, v2, v3] c.d) (hd : HasL w [u1, u2, u3] d.d) (hs : SmallCf c) (hr : r = true ↔ c = d) :
  Calls Try.prog 33 #[.agg #[v1, v2, v3], .agg #[u1, u2, u3]] w fun e w' => e = .returned (.bool r) ∧ Below w.heap.size w w' := by
 obtain ⟨a1, a2, a3, n1, n2, n3, e1, e2, e3, ee1, ee2, ee3⟩ := cf_slices' hc
 subst ee1
 subst ee2
 subst ee3
 obtain ⟨b1, b2, b3, m1, m2, m3, f1, f2, f3, ee1, ee2, ee3⟩ := cf_slices' hd
 subst ee1
 subst ee2
 subst ee3
 obtain ⟨c1, c2, c3⟩ := cf_has hc
 obtain ⟨d1, d2, d3⟩ := cf_has hd
 obtain ⟨x1, hx1⟩ := bool_some (c.states = d.states)
 obtain ⟨x2, hx2⟩ := bool_some (c.links = d.links)
 obtain ⟨x3, hx3⟩ := bool_some (c.sent = d.sent)
 have C1 := Lib.hid c1
 have C2 := Lib.hid c2
 have C3 := Lib.hid c3
 have D1 := Lib.hid d1
 have D2 := Lib.hid d2
 have D3 := Lib.hid d3
 have SC := Lib.hid hs
 have hrr : r = (x1 && x2 && x3) := by
  have : r = true ↔ (x1 && x2 && x3) = true := by
   rw [hr, Bool.and_eq_true, Bool.and_eq_true, hx1, hx2, hx3]
   obtain ⟨p1, p2, p3⟩ := c
   obtain ⟨q1, q2, q3⟩ := d
   simp [and_assoc]
  cases r <;> cases h : (x1 && x2 && x3) <;> simp_all
 have X1 := Lib.hid hx1
 have X2 := Lib.hid hx2
 have X3 := Lib.hid hx3
 have RR := Lib.hid hrr
 clear hc hd hs hr c1 c2 c3 d1 d2 d3 hx1 hx2 hx3 hrr
 go_enter Try.func33, Try.ntmps33
 try simp only [List.append_eq, List.cons_append, List.nil_append]
 go_upto_region 1 with fail
 obtain ⟨y0, hy0⟩ : ∃ y, y = (w.alloc (.cells #[.slice a1 n1 e1, .slice a2 n2 e2, .slice a3 n3 e3] 31)).alloc (.cells #[.slice b1 m1 f1, .slice b2 m2 f2, .slice b3 m3 f3] 31) := ⟨_, rfl⟩
 have hb0 : Below w.heap.size w y0 := by rw [hy0]; exact below_step' (below_new _ _) (below_new _ _)
 have hx0 : BoxAt w.heap.size [.slice a1 n1 e1, .slice a2 n2 e2, .slice a3 n3 e3] y0 := by rw [hy0]; exact (boxAt_new w [.slice a1 n1 e1, .slice a2 n2 e2, .slice a3 n3 e3] _).below (below_new _ _)
 have hx1 : BoxAt (w.heap.size + 1) [.slice b1 m1 f1, .slice b2 m2 f2, .slice b3 m3 f3] y0 := by
  have h := boxAt_new (w.alloc (.cells #[.slice a1 n1 e1, .slice a2 n2 e2, .slice a3 n3 e3] 31)) [.slice b1 m1 f1, .slice b2 m2 f2, .slice b3 m3 f3] 31
  rw [size_alloc] at h
  rw [hy0]; exact h
 have B0 := Lib.hid hb0
 have K0 := Lib.hid hx0
 have K1 := Lib.hid hx1
 rw [← hy0]
 clear hy0 hb0 hx0 hx1
 have p0 := K0.out 0 _ rfl
 have q0 := K1.out 0 _ rfl
 go_wp2_with fail
 refine (eqInts_at c.states d.states x1 _ _ _ (C1.out.later B0.out) (D1.out.later B0.out) SC.out.1 X1.out).mono ?_
 rintro e w1 ⟨rfl, hb⟩
 have B1 := Lib.hid hb
 have BW1 := Lib.hid (below_step' B0.out hb)
 clear hb p0 q0
 have p1 := K0.out.below B1.out 1 _ rfl
 have q1 := K1.out.below B1.out 1 _ rfl
 cases x1 with
 | false =>
  obtain rfl : r = false := RR.out
  go_wp2_with fail
  go_ret
  exact ⟨rfl, BW1.out⟩
 | true =>
  go_wp2_with fail
  refine (eqLls_at c.links d.links x2 _ _ _ (C2.out.later BW1.out) (D2.out.later BW1.out) SC.out.2.1 SC.out.2.2.2 X2.out).mono ?_
  rintro e w2 ⟨rfl, hb⟩
  have B2 := Lib.hid (below_step' B1.out hb)
  have BW2 := Lib.hid (below_step' BW1.out hb)
  clear hb p1 q1
  have p2 := K0.out.below B2.out 2 _ rfl
  have q2 := K1.out.below B2.out 2 _ rfl
  cases x2 with
  | false =>
   obtain rfl : r = false := RR.out
   go_wp2_with fail
   go_ret
   exact ⟨rfl, BW2.out⟩
  | true =>
   obtain rfl : r = x3 := by rw [RR.out]; simp
   go_wp2_with fail
   refine (eqInts_at c.sent d.sent r _ _ _ (C3.out.later BW2.out) (D3.out.later BW2.out) SC.out.2.2.1 X3.out).mono ?_
   rintro e w3 ⟨rfl, hb⟩
   have BW3 := Lib.hid (below_step' BW2.out hb)
   clear hb p2 q2
   go_wp2_with fail
   go_ret
   exact ⟨rfl, BW3.out⟩
end Go.Proofs.Ytiblcpkejhiehaa

set_option linter.unusedSimpArgs false
set_option linter.unusedVariables false
namespace Go.Proofs.Ytiblcpkejhiehaa
open Go.RowKit Go.PlainAid
theorem rints_at (xs ys : List Int) (r : Bool) (v u : Value) (w : World) (h1 : Has w v (dInts xs)) (h2 : Has w u (dInts ys)) (hn : xs.length ≤ 1000000) (hm : ys.length ≤ 1000000) (hr : r = true ↔ xs = ys) :
  Calls Try.prog 38 #[v, u] w fun e w' => e = .returned (.bool r) ∧ Below w.heap.size w w' := by
 refine (rints_any v u xs ys w h1.ints h2.ints hn hm).mono ?_
 rintro e w' ⟨rfl, n, rfl⟩
 refine ⟨?_, below_drewN (Below.refl _ w) n⟩
 have : decide (xs = ys) = r := by
  cases r with
  | true => simpa using hr.1 rfl
  | false => simp only [decide_eq_false_iff_not]; intro e; have := hr.2 e; cases this
 rw [this]
theorem no_of {r : Bool} {p : Prop} (hr : r = true ↔ p) (h : ¬ p) : r = false := by
 cases r with
 | false => rfl
 | true => exact absurd (hr.1 rfl) h
set_option maxHeartbeats 8000000 in
set_option maxRecDepth 100000 in
theorem rsame_at (c d : Cf) (r : Bool) (v1 v2 v3 u1 u2 u3 : Value) (w : World) (hc : HasL w [v1, v2, v3] c.d) (hd : HasL w [u1, u2, u3] d.d) (hs : SmallCf c) (hs' : SmallCf d) (hr : r = true ↔ c = d) :
  Calls Try.prog 21 #[.agg #[v1, v2, v3], .agg #[u1, u2, u3]] w fun e w' => e = .returned (.bool r) ∧ Below w.heap.size w w' := by
 obtain ⟨a1, a2, a3, n1, n2, n3, e1, e2, e3, ee1, ee2, ee3⟩ := cf_slices' hc
 subst ee1
 subst ee2
 subst ee3
 obtain ⟨b1, b2, b3, m1, m2, m3, f1, f2, f3, ee1, ee2, ee3⟩ := cf_slices' hd
 subst ee1
 subst ee2
 subst ee3
 obtain ⟨c1, c2, c3⟩ := cf_has hc
 obtain ⟨d1, d2, d3⟩ := cf_has hd
 obtain ⟨x1, hx1⟩ := bool_some (c.states = d.states)
 obtain ⟨x3, hx3⟩ := bool_some (c.sent = d.sent)
 have N2 := Lib.hid (lls_len c2)
 have M2 := Lib.hid (lls_len d2)
 have C1 := Lib.hid c1
 have C2 := Lib.hid c2
 have C3 := Lib.hid c3
 have D1 := Lib.hid d1
 have D2 := Lib.hid d2
 have D3 := Lib.hid d3
 have SC := Lib.hid hs
 have SD := Lib.hid hs'
 have hn2 : n2 ≤ 1000000 := by rw [N2.out]; exact hs.2.1
 have HR := Lib.hid hr
 have X1 := Lib.hid hx1
 have X3 := Lib.hid hx3
 clear hc hd hs hs' hr c1 c2 c3 d1 d2 d3 hx1 hx3
 go_enter Try.func21, Try.ntmps21
 try simp only [List.append_eq, List.cons_append, List.nil_append]
 go_upto_region 1 with fail
 obtain ⟨y0, hy0⟩ : ∃ y, y = (w.alloc (.cells #[.slice a1 n1 e1, .slice a2 n2 e2, .slice a3 n3 e3] 40)).alloc (.cells #[.slice b1 m1 f1, .slice b2 m2 f2, .slice b3 m3 f3] 40) := ⟨_, rfl⟩
 have hb0 : Below w.heap.size w y0 := by rw [hy0]; exact below_step' (below_new _ _) (below_new _ _)
 have hx0 : BoxAt w.heap.size [.slice a1 n1 e1, .slice a2 n2 e2, .slice a3 n3 e3] y0 := by rw [hy0]; exact (boxAt_new w [.slice a1 n1 e1, .slice a2 n2 e2, .slice a3 n3 e3] _).below (below_new _ _)
 have hx1 : BoxAt (w.heap.size + 1) [.slice b1 m1 f1, .slice b2 m2 f2, .slice b3 m3 f3] y0 := by
  have h := boxAt_new (w.alloc (.cells #[.slice a1 n1 e1, .slice a2 n2 e2, .slice a3 n3 e3] 40)) [.slice b1 m1 f1, .slice b2 m2 f2, .slice b3 m3 f3] 40
  rw [size_alloc] at h
  rw [hy0]; exact h
 have B0 := Lib.hid hb0
 have K0 := Lib.hid hx0
 have K1 := Lib.hid hx1
 rw [← hy0]
 obtain ⟨hw0, hhw⟩ : ∃ h, h = w.heap.size := ⟨_, rfl⟩
 rw [← hhw] at K0 K1 ⊢
 have HW := Lib.hid hhw
 clear hy0 hb0 hx0 hx1 hhw
 have p0 := K0.out 0 _ rfl
 have q0 := K1.out 0 _ rfl
 go_wp2_with fail
 refine (rints_at c.states d.states x1 _ _ _ (C1.out.later B0.out) (D1.out.later B0.out) SC.out.1 SD.out.1 X1.out).mono ?_
 rintro e w1 ⟨rfl, hb⟩
 have B1 := Lib.hid hb
 have BW1 := Lib.hid (below_step' B0.out hb)
 clear hb p0 q0
 cases x1 with
 | false =>
  obtain rfl : r = false := no_of HR.out (fun e => by have := X1.out.2 (congrArg Cf.states e); cases this)
  go_wp2_with fail
  go_ret
  exact ⟨rfl, BW1.out⟩
 | true =>
  have p2 := K0.out.below B1.out 2 _ rfl
  have q2 := K1.out.below B1.out 2 _ rfl
  go_wp2_with fail
  refine (rints_at c.sent d.sent x3 _ _ _ (C3.out.later BW1.out) (D3.out.later BW1.out) SC.out.2.2.1 SD.out.2.2.1 X3.out).mono ?_
  rintro e w2 ⟨rfl, hb⟩
  have B2 := Lib.hid (below_step' B1.out hb)
  have BW2 := Lib.hid (below_step' BW1.out hb)
  clear hb p2 q2
  cases x3 with
  | false =>
   obtain rfl : r = false := no_of HR.out (fun e => by have := X3.out.2 (congrArg Cf.sent e); cases this)
   go_wp2_with fail
   go_ret
   exact ⟨rfl, BW2.out⟩
  | true =>
   have p1 := K0.out.below B2.out 1 _ rfl
   have q1 := K1.out.below B2.out 1 _ rfl
   by_cases hl : n2 = m2
   ·have hl1 : ((n2 : Int) != (m2 : Int)) = false := by simp; omega
    have HLq := Lib.hid hl
    clear hl
    go_wp2_with fail
    obtain ⟨y2, hy2⟩ : ∃ y, y = w2 := ⟨_, rfl⟩
    rw [← hy2] at B2 BW2 ⊢
    clear hy2 p1 q1
    go_loopw [5] (fun i wr => ∃ j : Nat, i = .int .i64 j ∧ j ≤ n2 ∧ c.links.take j = d.links.take j ∧ Below y2.heap.size y2 wr) (fun i _ => n2 - (intOf i).toNat)
    case atStart => exact ⟨0, rfl, by omega, rfl, Below.refl _ _⟩
    case round =>
     obtain ⟨j, rfl, hj, heq, hb⟩ := hrel
     have BR := Lib.hid (below_step' B2.out hb)
     have BWR := Lib.hid (below_step' BW2.out hb)
     have p1 := K0.out.below BR.out 1 _ rfl
     by_cases hlt : j < n2
     ·have hlt' : (j : Int) < n2 := by omega
      obtain ⟨x, hx⟩ := some_of_lt (l := c.links) (i := j) (by rw [← N2.out]; exact hlt)
      obtain ⟨y, hy⟩ := some_of_lt (l := d.links) (i := j) (by rw [← M2.out, ← HLq.out]; exact hlt)
      obtain ⟨b, o, ma, mc, e, _, e9, z1, hmx⟩ := lls_at (C2.out.later BWR.out) hx
      clear e9
      subst e
      obtain ⟨b', o', ma', mc', e, _, e9, z2, hmy⟩ := lls_at (D2.out.later BWR.out) hy
      clear e9
      subst e
      have hltm : j < m2 := by rw [← HLq.out]; exact hlt
      have hltm' : (j : Int) < m2 := by omega
      have GX := Lib.hid hx
      have GY := Lib.hid hy
      have EQ := Lib.hid heq
      obtain ⟨k1, hk1⟩ : ∃ k, k = x.length := ⟨_, rfl⟩
      obtain ⟨k2, hk2⟩ : ∃ k, k = y.length := ⟨_, rfl⟩
      rw [← hk1] at z1 hmx
      rw [← hk2] at z2 hmy
      have MX := Lib.hid hmx
      have MY := Lib.hid hmy
      obtain ⟨q, hq⟩ := bool_some (x = y)
      have HQ := Lib.hid hq
      have q1 := K1.out.below BR.out 1 _ rfl
      have QS : Hid (∀ w', Below wr.heap.size wr w' → w'.cell? ⟨hw0, 1, none⟩ = some (.slice (some ⟨b, o, none⟩) n2 e2) ∧ w'.cell? ⟨hw0 + 1, 1, none⟩ = some (.slice (some ⟨b', o', none⟩) m2 f2) ∧ w'.cell? ⟨b, o + j, none⟩ = some (.slice ma k1 mc) ∧ w'.cell? ⟨b', o' + j, none⟩ = some (.slice ma' k2 mc')) := Lib.hid (fun w' hb => ⟨(hb.cell (World.block_lt_of_cell? wr _ p1)).trans p1, (hb.cell (World.block_lt_of_cell? wr _ q1)).trans q1, (hb.cell (World.block_lt_of_cell? wr _ z1)).trans z1, (hb.cell (World.block_lt_of_cell? wr _ z2)).trans z2⟩)
      clear hx hy heq hmx hmy hk1 hk2 hq z1 z2 q1
      go_wp2_with fail
      clear p1
      refine wp_region_held_drew (S := (fun w' => w'.cell? ⟨hw0, 1, none⟩ = some (.slice (some ⟨b, o, none⟩) n2 e2) ∧ w'.cell? ⟨hw0 + 1, 1, none⟩ = some (.slice (some ⟨b', o', none⟩) m2 f2) ∧ w'.cell? ⟨b, o + j, none⟩ = some (.slice ma k1 mc) ∧ w'.cell? ⟨b', o' + j, none⟩ = some (.slice ma' k2 mc'))) (by kernel_rfl) ?_ (fun hHeld => ?_)
      ·exact QS.out _ (below_drewN (Below.refl _ wr) 1)
      refine tq 0 ?_
      refine tq 1 ?_
      refine tq 2 ?_
      refine tq 3 ?_
      refine tq 4 ?_
      refine tq 5 ?_
      refine tq 6 ?_
      refine tq 7 ?_
      refine tq 8 ?_
      refine tq 9 ?_
      refine rd 10 fun K hK => ?_
      go_simp
      refine (rmsgs_at x y q _ _ _ (MX.out.later (below_drewN (Below.refl _ wr) 1)) (MY.out.later (below_drewN (Below.refl _ wr) 1)) (SC.out.2.2.2 x (List.mem_of_getElem? GX.out)) HQ.out).mono ?_
      rintro e w5 ⟨rfl, hb5⟩
      have B5 := Lib.hid (below_step' (below_drewN (Below.refl _ wr) 1) hb5)
      have BQ := Lib.hid (below_step' BWR.out B5.out)
      have BY := Lib.hid (below_step' hb B5.out)
      clear hb hb5
      go_wp2_with fail
      refine hK.out _ _ ?_ (fun hHeld => ?_)
      ·exact QS.out _ B5.out
      clear hK K
      refine tq 11 ?_
      refine wpAnyH_done (by kernel_rfl) ?_ _
      cases q with
      | true =>
       go_wp2_with fail
       go_roundw
       case rel => exact ⟨j + 1, by go_num, by omega, take_next GX.out GY.out EQ.out (HQ.out.1 (by simp)), BY.out⟩
       case measure => simp [intOf]; omega
      | false =>
       obtain rfl : r = false := no_of HR.out (fun e => by
        have h := GX.out
        rw [e, GY.out] at h
        cases h
        have h := HQ.out.2 rfl
        cases h)
       go_wp2_with fail
       go_ret
       exact ⟨rfl, BQ.out⟩
     ·obtain rfl : j = n2 := by omega
      have hj3 : ¬ (j : Int) < j := by omega
      have hrt : r = true := HR.out.2 (by
       have h := heq
       rw [List.take_of_length_le (by rw [← N2.out]; exact Nat.le_refl _), List.take_of_length_le (by rw [← M2.out, ← HLq.out]; exact Nat.le_refl _)] at h
       have h1 := X1.out.1 (by simp)
       have h3 := X3.out.1 (by simp)
       obtain ⟨p1, p2, p3⟩ := c
       obtain ⟨q1, q2, q3⟩ := d
       simp only at h h1 h3
       rw [h, h1, h3])
      subst hrt
      clear heq hb
      go_wp2_with fail
      go_ret
      exact ⟨rfl, BWR.out⟩
   ·have hl1 : ((n2 : Int) != (m2 : Int)) = true := by simp; omega
    obtain rfl : r = false := no_of HR.out (fun e => hl (by rw [N2.out, M2.out, e]))
    clear hl
    go_wp2_with fail
    go_ret
    exact ⟨rfl, BW2.out⟩
end Go.Proofs.Ytiblcpkejhiehaa

set_option linter.unusedSimpArgs false
set_option linter.unusedVariables false
namespace Go.Proofs.Ytiblcpkejhiehaa
open Go.RowKit Go.PlainAid
set_option maxHeartbeats 8000000 in
theorem lref_at (v1 v2 v3 : Value) (w : World) (c : Cf) (hc : HasL w [v1, v2, v3] c.d) :
  Calls Try.prog 12 #[.agg #[v1, v2, v3]] w fun e w' => e = .returned (.agg #[v1, v2, v3]) ∧ Below w.heap.size w w' := by
 obtain ⟨a1, a2, a3, n1, n2, n3, e1, e2, e3, ee1, ee2, ee3⟩ := cf_slices' hc
 subst ee1
 subst ee2
 subst ee3
 clear hc
 go_enter Try.func12, Try.ntmps12
 go_wp2_with fail
 refine bodyPost_ret (v := .agg #[.slice a1 n1 e1, .slice a2 n2 e2, .slice a3 n3 e3]) (by simp [results, Try.results12, go_sem]) rfl ⟨rfl, ?_⟩
 go_grown
set_option maxHeartbeats 8000000 in
theorem lstep_at (s0 s1 s2 s3 s4 : Int) (w : World) :
  Calls Try.prog 19 #[.agg #[.int .i64 s0, .int .i64 s1, .int .i64 s2, .int .i64 s3, .int .i64 s4]] w fun e w' => e = .returned (.agg #[.int .i64 s0, .int .i64 s1, .int .i64 s2, .int .i64 s3, .int .i64 s4]) ∧ Below w.heap.size w w' := by
 go_enter Try.func19, Try.ntmps19
 go_wp2_with fail
 refine bodyPost_ret (v := .agg #[.int .i64 s0, .int .i64 s1, .int .i64 s2, .int .i64 s3, .int .i64 s4]) (by simp [results, Try.results19, go_sem]) rfl ⟨rfl, ?_⟩
 go_grown
theorem infoRStep : (Try.prog.info? 55).map (fun i => (i.zero, i.size, i.bytes)) = some (some (.agg #[.int .i64 0, .int .i64 0, .int .i64 0, .int .i64 0, .int .i64 0]), 5, 40) := by kernel_rfl
set_option maxHeartbeats 8000000 in
set_option maxRecDepth 100000 in
theorem lsteps_at (l : List Sp) (v : Value) (w : World) (h : Has w v (dSteps l)) (hn : l.length ≤ 1000000) :
  Calls Try.prog 32 #[v] w fun e w' => ∃ u, e = .returned u ∧ Has w' u (dSteps l) ∧ Below w.heap.size w w' := by
 obtain ⟨la, lc, ee⟩ := slice_of h
 subst ee
 obtain ⟨iN, hiN, hzN, hsN, hbN⟩ := info_parts infoRStep
 obtain ⟨n, hn2⟩ : ∃ n, n = l.length := ⟨_, rfl⟩
 have H := Lib.hid h
 rw [← hn2] at H hn ⊢
 have NN := Lib.hid hn2
 have O0 := Own.made (S := False) (P := All) (E := 55) (n := 5) (Below.refl w.heap.size w)
 rw [show w.heap.size + 1 = (w.alloc (.cells #[] 55)).heap.size by simp] at O0
 have B0 := Lib.hid (show Bld False All 55 5 w (w.alloc (.cells #[] 55)).heap.size (w.alloc (.cells #[] 55)) (.slice (some ⟨w.heap.size, 0, none⟩) 0 0) [] from ⟨O0, fun k hk => trivial⟩)
 clear h hn2 O0
 go_enter Try.func32, Try.ntmps32
 go_wp2_with fail
 go_loopw [3, 4] (fun q i wr => ∃ k : Nat, i = .int .i64 k ∧ k ≤ n ∧ Bld False All 55 5 w wr.heap.size wr q ((l.take k).map Sp.d)) (fun _ i _ => n - (intOf i).toNat)
 case atStart => exact ⟨0, rfl, by omega, by rw [List.take_zero]; exact B0.out⟩
 case round =>
  rename Value => q
  obtain ⟨k, rfl, hk, hB⟩ := hrel
  have BB := Lib.hid hB
  obtain ⟨qa, qc, hq⟩ := hB.own.slice
  rw [List.length_map, List.length_take, ← NN.out, Nat.min_eq_left hk] at hq
  subst hq
  by_cases hlt : k < n
  ·have hlt' : (k : Int) < n := by omega
   obtain ⟨s, hs⟩ := some_of_lt (l := l) (i := k) (by rw [← NN.out]; exact hlt)
   obtain ⟨b, o, e, x0, x1, x2, x3, x4⟩ := steps_at (H.out.later hB.own.bel) hs
   subst e
   have HS := Lib.hid hs
   obtain ⟨s0, s1, s2, s3, s4⟩ := s
   simp only at x0 x1 x2 x3 x4
   clear hB hs
   go_wp2_with fail
   refine (lstep_at s0 s1 s2 s3 s4 _).mono ?_
   rintro e w5 ⟨rfl, hb⟩
   have B5 := Lib.hid hb
   clear hb x0 x1 x2 x3 x4
   obtain ⟨wZ, hwZ⟩ : ∃ wZ, wZ = w5.alloc (.cells #[.int .i64 s0, .int .i64 s1, .int .i64 s2, .int .i64 s3, .int .i64 s4] 55) := ⟨_, rfl⟩
   have hbZ : Below w5.heap.size w5 wZ := by rw [hwZ]; exact below_new _ _
   have OZ := Lib.hid (BB.out.own.later (below_step' B5.out hbZ))
   have NZ := Lib.hid (show ∀ a, some (⟨w5.heap.size, 0, none⟩ : Addr) = some a → ∀ j u, [Value.int .i64 s0, .int .i64 s1, .int .i64 s2, .int .i64 s3, .int .i64 s4][j]? = some u → wZ.cell? (a.add j) = some u from by rw [hwZ]; exact news_new)
   have WZ := Lib.hid hwZ
   have SZ : wr.heap.size ≤ w5.heap.size := B5.out.size
   have BK := Lib.hid BB.out.own.blk
   clear hbZ hwZ
   go_wp2_with (at_builtin; go_loud (rw [← WZ.out]; refine appL rfl _ _ 84 55 iN (.agg #[.int .i64 0, .int .i64 0, .int .i64 0, .int .i64 0, .int .i64 0]) 5 40 rfl Try.underlying84 hiN hzN hsN hbN rfl (by decide) False All w wr.heap.size _ ((l.take k).map Sp.d) [Sp.d ⟨s0, s1, s2, s3, s4⟩] k 1 1 (k + 1) rfl OZ.out (by simp; rw [← NN.out]; omega) (some ⟨w5.heap.size, 0, none⟩) rfl [.int .i64 s0, .int .i64 s1, .int .i64 s2, .int .i64 s3, .int .i64 s4] NZ.out (fun e => by cases e) (by simp [Sp.d]) rfl (by rw [List.flatten_cons, List.flatten_nil, List.append_nil]; exact step_five ⟨s0, s1, s2, s3, s4⟩) rfl (by unfold maxLen; omega) (by omega) ?_))
   intro ao cv w13 hO13 hg13 hb13
   have hO13' : Own False All 55 5 w w13.heap.size w13 (.slice ao (k + 1) cv) ((l.take (k + 1)).map Sp.d) := by
    rw [List.take_add_one, HS.out]
    simpa using hO13
   have B13 := Lib.hid (Bld.of hO13' BB.out.inP hb13 trivial)
   clear hO13 hO13' hg13 hb13
   go_wp2_with fail
   go_roundw
   case rel => exact ⟨k + 1, by go_num, by omega, B13.out⟩
   case measure => simp [intOf]; omega
  ·obtain rfl : k = n := by omega
   have hk3 : ¬ (k : Int) < k := by omega
   have hH := hB.holds
   have hbel := hB.own.bel
   rw [List.take_of_length_le (by rw [← NN.out]; exact Nat.le_refl _)] at hH
   have HH := Lib.hid hH
   have BE := Lib.hid hbel
   clear hB hH hbel
   go_wp2_with fail
   go_ret
   exact ⟨_, rfl, HH.out, BE.out⟩
end Go.Proofs.Ytiblcpkejhiehaa

set_option linter.unusedSimpArgs false
set_option linter.unusedVariables false
namespace Go.Proofs.Ytiblcpkejhiehaa
open Go.RowKit Go.PlainAid
theorem run_eqStep (w : World) (a b c d e a' b' c' d' e' : Int) : (Op.equalIn 10000 55 (.agg #[.int .i64 a, .int .i64 b, .int .i64 c, .int .i64 d, .int .i64 e]) (.agg #[.int .i64 a', .int .i64 b', .int .i64 c', .int .i64 d', .int .i64 e'])).run Try.prog w = .ok (a == a' && b == b' && c == c' && d == d' && e == e') w := by
 rw [Op.equalIn]
 simp only [Sem.run_bind, run_underlying Try.underlying55, Result.andThen_ok]
 have p0 : ∀ a b c d e : Int, (part 3 #[.int .i64 a, .int .i64 b, .int .i64 c, .int .i64 d, .int .i64 e] 0).run Try.prog w = .ok (.int .i64 a) w := fun a b c d e => by simp [part, isAgg, run_underlying Try.underlying3]
 have p1 : ∀ a b c d e : Int, (part 3 #[.int .i64 a, .int .i64 b, .int .i64 c, .int .i64 d, .int .i64 e] 1).run Try.prog w = .ok (.int .i64 b) w := fun a b c d e => by simp [part, isAgg, run_underlying Try.underlying3]
 have p2 : ∀ a b c d e : Int, (part 3 #[.int .i64 a, .int .i64 b, .int .i64 c, .int .i64 d, .int .i64 e] 2).run Try.prog w = .ok (.int .i64 c) w := fun a b c d e => by simp [part, isAgg, run_underlying Try.underlying3]
 have p3 : ∀ a b c d e : Int, (part 3 #[.int .i64 a, .int .i64 b, .int .i64 c, .int .i64 d, .int .i64 e] 3).run Try.prog w = .ok (.int .i64 d) w := fun a b c d e => by simp [part, isAgg, run_underlying Try.underlying3]
 have p4 : ∀ a b c d e : Int, (part 3 #[.int .i64 a, .int .i64 b, .int .i64 c, .int .i64 d, .int .i64 e] 4).run Try.prog w = .ok (.int .i64 e) w := fun a b c d e => by simp [part, isAgg, run_underlying Try.underlying3]
 have pe : ∀ x y : Int, (Op.equalIn 9999 3 (.int .i64 x) (.int .i64 y)).run Try.prog w = .ok (x == y) w := fun x y => run_equalIn_int w 9998 _ .i64 .i64 x y Try.underlying3
 simp [List.forIn_cons, List.forIn_nil, Sem.run_bind, p0, p1, p2, p3, p4, pe, Result.andThen_ok]
 by_cases h1 : a = a' <;> by_cases h2 : b = b' <;> by_cases h3 : c = c' <;> by_cases h4 : d = d' <;> by_cases h5 : e = e' <;> simp [h1, h2, h3, h4, h5]
set_option maxHeartbeats 8000000 in
set_option maxRecDepth 100000 in
theorem rsteps_at (xs ys : List Sp) (r : Bool) (v1 v2 : Value) (w : World) (h1 : Has w v1 (dSteps xs)) (h2 : Has w v2 (dSteps ys)) (hn : xs.length ≤ 1000000) (hr : r = true ↔ xs = ys) :
  Calls Try.prog 31 #[v1, v2] w fun e w' => e = .returned (.bool r) ∧ Below w.heap.size w w' := by
 obtain ⟨a1, c1, ee⟩ := slice_of h1
 subst ee
 obtain ⟨a2, c2, ee⟩ := slice_of h2
 subst ee
 have H1 := Lib.hid h1
 have H2 := Lib.hid h2
 have HR := Lib.hid hr
 by_cases hl : xs.length = ys.length
 ·obtain ⟨n, hx⟩ : ∃ n, n = xs.length := ⟨_, rfl⟩
  have hy : n = ys.length := by rw [hx]; exact hl
  rw [← hx] at h1 hn ⊢
  rw [← hy] at h2 ⊢
  replace H1 := Lib.hid h1
  replace H2 := Lib.hid h2
  have HX := Lib.hid hx
  have HY := Lib.hid hy
  clear h1 h2 hr hl hx hy
  go_enter Try.func31, Try.ntmps31
  try simp only [List.append_eq, List.cons_append, List.nil_append]
  go_wp2_with fail
  go_loopw [5] (fun i wr => ∃ j : Nat, i = .int .i64 j ∧ j ≤ n ∧ xs.take j = ys.take j ∧ Below w.heap.size w wr) (fun i _ => n - (intOf i).toNat)
  case atStart => exact ⟨0, rfl, by omega, rfl, Below.refl _ _⟩
  case round =>
   obtain ⟨j, rfl, hj, heq, hb⟩ := hrel
   have BW := Lib.hid hb
   by_cases hlt : j < n
   ·have hlt' : (j : Int) < n := by omega
    obtain ⟨⟨x1, x2, x3, x4, x5⟩, hx⟩ := some_of_lt (l := xs) (i := j) (by rw [← HX.out]; exact hlt)
    obtain ⟨⟨y1, y2, y3, y4, y5⟩, hy⟩ := some_of_lt (l := ys) (i := j) (by rw [← HY.out]; exact hlt)
    obtain ⟨b, o, e, p1, p2, p3, p4, p5⟩ := steps_at (H1.out.later hb) hx
    subst e
    obtain ⟨b', o', e, q1, q2, q3, q4, q5⟩ := steps_at (H2.out.later hb) hy
    subst e
    simp only at p1 p2 p3 p4 p5 q1 q2 q3 q4 q5
    have GX := Lib.hid hx
    have GY := Lib.hid hy
    have EQ := Lib.hid heq
    clear hx hy heq hb
    obtain ⟨q, hq⟩ : ∃ q, q = (x1 == y1 && x2 == y2 && x3 == y3 && x4 == y4 && x5 == y5) := ⟨_, rfl⟩
    have HQ := Lib.hid hq
    have hE : ∀ w', (Op.equalIn 10000 55 (.agg #[.int .i64 x1, .int .i64 x2, .int .i64 x3, .int .i64 x4, .int .i64 x5]) (.agg #[.int .i64 y1, .int .i64 y2, .int .i64 y3, .int .i64 y4, .int .i64 y5])).run Try.prog w' = .ok q w' := fun w' => by rw [hq]; exact run_eqStep w' _ _ _ _ _ _ _ _ _ _
    clear hq
    cases q with
    | true =>
     go_wp2_with fail
     go_quiet (fail)
     have hbq : Below wr.heap.size wr (wr.drewN nq) := below_drewN (Below.refl _ wr) nq
     have BQ := Lib.hid (below_step' BW.out hbq)
     clear hbq
     go_wp2_with fail
     go_roundw
     case rel => exact ⟨j + 1, by go_num, by omega, take_next GX.out GY.out EQ.out (by have h := HQ.out; simp at h; obtain ⟨⟨⟨⟨h1, h2⟩, h3⟩, h4⟩, h5⟩ := h; simp [h1, h2, h3, h4, h5]), BQ.out⟩
     case measure => simp [intOf]; omega
    | false =>
     have hrf : r = false := by
      cases r with
      | false => rfl
      | true =>
       have e := HR.out.1 rfl
       have h := GX.out
       rw [e, GY.out] at h
       cases h
       have h := HQ.out
       simp at h
     subst hrf
     go_wp2_with fail
     go_quiet (fail)
     have hbq : Below wr.heap.size wr (wr.drewN nq) := below_drewN (Below.refl _ wr) nq
     have BQ := Lib.hid (below_step' BW.out hbq)
     clear hbq
     go_wp2_with fail
     go_ret
     exact ⟨rfl, BQ.out⟩
   ·obtain rfl : j = n := by omega
    have hj3 : ¬ (j : Int) < j := by omega
    have hrt : r = true := HR.out.2 (by
     have h := heq
     rw [List.take_of_length_le (by rw [HX.out]; exact Nat.le_refl _), List.take_of_length_le (by rw [HY.out]; exact Nat.le_refl _)] at h
     exact h)
    subst hrt
    clear heq hb
    go_wp2_with fail
    go_ret
    exact ⟨rfl, BW.out⟩
 ·have hrf : r = false := by
   cases r with
   | false => rfl
   | true => exact absurd (congrArg List.length (hr.1 rfl)) hl
  subst hrf
  obtain ⟨n, hx⟩ : ∃ n, n = xs.length := ⟨_, rfl⟩
  obtain ⟨m, hy⟩ : ∃ n, n = ys.length := ⟨_, rfl⟩
  rw [← hx, ← hy] at hl ⊢
  have hl1 : ¬ (n : Int) = m := by omega
  have hl2 : ((n : Int) != m) = true := by simp; omega
  clear h1 h2 hr hx hy HR H1 H2 hn
  go_enter Try.func31, Try.ntmps31
  try simp only [List.append_eq, List.cons_append, List.nil_append]
  go_wp2_with fail
  go_ret
  exact ⟨rfl, Below.refl _ _⟩
end Go.Proofs.Ytiblcpkejhiehaa

set_option linter.unusedSimpArgs false
set_option linter.unusedVariables false
namespace Go.Proofs.Ytiblcpkejhiehaa
open Go.RowKit Go.PlainAid
theorem one_step (w : World) (s : Sp) (T : TypeId) : Holds True (fun k => k = w.heap.size) (w.alloc (.cells #[.int .i64 s.kind, .int .i64 s.node, .int .i64 s.k, .int .i64 s.link, .int .i64 s.seq] T)) (.slice (some ⟨w.heap.size, 0, none⟩) 1 1) (dSteps [s]) :=
  holds_mk (Q := fun _ => False) (cells := [.int .i64 s.kind, .int .i64 s.node, .int .i64 s.k, .int .i64 s.link, .int .i64 s.seq]) rfl rfl (heap_alloc_new w _) (Nat.le_refl _) (by decide) rfl rfl (by intro ds h; obtain ⟨_, _, rfl⟩ := List.mem_map.1 h; rfl)
    (by refine ⟨rfl, fun _ _ => False, fun _ _ h => h.elim, fun _ _ _ _ h => h.elim, fun j c d hc hd => ?_⟩
        match j, hc, hd with
        | 0, hc, hd => simp [Sp.d] at hc hd; subst hc hd; exact has_int _ _ _ _
        | 1, hc, hd => simp [Sp.d] at hc hd; subst hc hd; exact has_int _ _ _ _
        | 2, hc, hd => simp [Sp.d] at hc hd; subst hc hd; exact has_int _ _ _ _
        | 3, hc, hd => simp [Sp.d] at hc hd; subst hc hd; exact has_int _ _ _ _
        | 4, hc, hd => simp [Sp.d] at hc hd; subst hc hd; exact has_int _ _ _ _
        | j + 5, hc, hd => simp at hc) (fun _ h => h.elim) (fun h => h)
/-- What Apply leaves: the configuration behind the step, or the zero one. -/
def applied (A : Ap) (c : Cf) (s : Sp) : Cf := if errOf A c s = 0 then doneOf A c s else Cf.zero
theorem run_one (A : Ap) (c : Cf) (s : Sp) : (runOf A c [s]).2.2 = errOf A c s ∧ (errOf A c s = 0 → (runOf A c [s]).1 = doneOf A c s) := by
 unfold runOf
 by_cases h : errOf A c s = 0
 ·rw [if_pos h]; exact ⟨h.symm, fun _ => rfl⟩
 ·rw [if_neg h]; exact ⟨rfl, fun e => absurd e h⟩
def Applied (A : Ap) (c : Cf) (s : Sp) (w : World) (e : Ending) (w' : World) : Prop := ∃ u1 u2 u3, e = .returned (.tuple #[.agg #[u1, u2, u3], .int .i64 (errOf A c s)]) ∧ HoldsL True (fresh w) w' [u1, u2, u3] (applied A c s).d ∧ Below w.heap.size w w'
theorem zero_cf (P : Nat → Prop) (w : World) : HoldsL True P w [.slice none 0 0, .slice none 0 0, .slice none 0 0] Cf.zero.d :=
 cf_mkL (P1 := fun _ => False) (P2 := fun _ => False) (P3 := fun _ => False) (c := Cf.zero) (.nil _ _ _ _ _) (.nil _ _ _ _ _) (.nil _ _ _ _ _) (fun _ h => h.elim) (fun _ h => h.elim) (fun _ h => h.elim) (fun _ h => h.elim) (fun _ h => h.elim) (fun _ h => h.elim)
set_option maxHeartbeats 8000000 in
set_option maxRecDepth 100000 in
theorem apply_at (A : Ap) (c : Cf) (s0 s1 s2 s3 s4 : Int) (hOK : CfOK A c) (hsm : SmallTab A.t) (hsc : SmallCf c) (vG vT v1 v2 v3 : Value) (w : World) (hG : LinksAt w vG A.l) (hT : Has w vT (dTab A.t)) (hC : HasL w [v1, v2, v3] c.d) :
  Calls Try.prog 16 #[.agg #[.int .i64 A.n, vG, vT, .bool A.ff], .agg #[v1, v2, v3], .agg #[.int .i64 s0, .int .i64 s1, .int .i64 s2, .int .i64 s3, .int .i64 s4]] w fun e w' => Applied A c ⟨s0, s1, s2, s3, s4⟩ w e w' := by
 obtain ⟨ga, gc, ee⟩ := slice_of (has_of_links hG)
 subst ee
 obtain ⟨ta, tc, ee⟩ := slice_of hT
 subst ee
 obtain ⟨a1, a2, a3, n1, n2, n3, e1, e2, e3, ee1, ee2, ee3⟩ := cf_slices hC
 subst ee1
 subst ee2
 subst ee3
 obtain ⟨tl, htl⟩ : ∃ n, n = A.t.length := ⟨_, rfl⟩
 obtain ⟨gl, hgl⟩ : ∃ n, n = A.l.length := ⟨_, rfl⟩
 rw [← hgl] at hG ⊢
 rw [← htl] at hT ⊢
 have HG := Lib.hid hG
 have HT := Lib.hid hT
 have HC := Lib.hid hC
 have OK := Lib.hid hOK
 have SMT := Lib.hid hsm
 have SMC := Lib.hid hsc
 clear hG hT hC hOK hsm hsc htl hgl
 obtain ⟨s, hs⟩ : ∃ s, s = Sp.mk s0 s1 s2 s3 s4 := ⟨_, rfl⟩
 go_enter Try.func16, Try.ntmps16
 try simp only [List.append_eq, List.cons_append, List.nil_append]
 clear hs s
 go_wp2_with fail
 obtain ⟨y4, hy4⟩ : ∃ y, y = (((w.alloc (.cells #[.int .i64 A.n, .slice ga gl gc, .slice ta tl tc, .bool A.ff] 27)).alloc (.cells #[.slice a1 n1 e1, .slice a2 n2 e2, .slice a3 n3 e3] 31)).alloc (.cells #[.int .i64 s0, .int .i64 s1, .int .i64 s2, .int .i64 s3, .int .i64 s4] 50)).alloc (.cells #[.slice none 0 0, .slice none 0 0, .slice none 0 0] 31) := ⟨_, rfl⟩
 have hb4 : Below w.heap.size w y4 := by rw [hy4]; exact below_step' (below_step' (below_step' (below_new _ _) (below_new _ _)) (below_new _ _)) (below_new _ _)
 have hx4 : BoxAt (w.heap.size + 1 + 1 + 1) [.slice none 0 0, .slice none 0 0, .slice none 0 0] y4 := by
  have h := boxAt_new (((w.alloc (.cells #[.int .i64 A.n, .slice ga gl gc, .slice ta tl tc, .bool A.ff] 27)).alloc (.cells #[.slice a1 n1 e1, .slice a2 n2 e2, .slice a3 n3 e3] 31)).alloc (.cells #[.int .i64 s0, .int .i64 s1, .int .i64 s2, .int .i64 s3, .int .i64 s4] 50)) [.slice none 0 0, .slice none 0 0, .slice none 0 0] 31
  rw [size_alloc, size_alloc, size_alloc] at h
  rw [hy4]; exact h
 have ho4 : OpenRow y4 (w.heap.size + 1 + 1 + 1) 1 3 := by
  have h := heap_alloc_new (((w.alloc (.cells #[.int .i64 A.n, .slice ga gl gc, .slice ta tl tc, .bool A.ff] 27)).alloc (.cells #[.slice a1 n1 e1, .slice a2 n2 e2, .slice a3 n3 e3] 31)).alloc (.cells #[.int .i64 s0, .int .i64 s1, .int .i64 s2, .int .i64 s3, .int .i64 s4] 50)) (.cells #[.slice none 0 0, .slice none 0 0, .slice none 0 0] 31)
  rw [size_alloc, size_alloc, size_alloc] at h
  rw [hy4]; exact ⟨by decide, _, _, h, rfl⟩
 have hz4 : y4.heap.size = w.heap.size + 1 + 1 + 1 + 1 := by rw [hy4]; simp
 obtain ⟨y5, hy5⟩ : ∃ y, y = y4.alloc (.cells #[.int .i64 s0, .int .i64 s1, .int .i64 s2, .int .i64 s3, .int .i64 s4] 50) := ⟨_, rfl⟩
 have hb45 : Below y4.heap.size y4 y5 := by rw [hy5]; exact below_new _ _
 have hst : Has y5 (.slice (some ⟨y4.heap.size, 0, none⟩) 1 1) (dSteps [⟨s0, s1, s2, s3, s4⟩]) := by rw [hy5]; exact (one_step y4 ⟨s0, s1, s2, s3, s4⟩ _).weak
 have hz43 : w.heap.size + 1 + 1 + 1 < y4.heap.size := by omega
 rw [hz4] at hst
 have B4 := Lib.hid hb4
 have B45 := Lib.hid hb45
 have X4 := Lib.hid hx4
 have O4 := Lib.hid ho4
 rw [← hy4, ← hy5]
 have B5 := Lib.hid (below_step' hb4 hb45)
 clear hy4 hy5 hb4 hb45 hx4 ho4 hz4
 refine (run_at A c [⟨s0, s1, s2, s3, s4⟩] OK.out SMT.out SMC.out _ _ _ _ _ _ _ (HG.out.below B5.out) (HT.out.later B5.out) (HC.out.later B5.out) hst (by simp)).mono ?_
 rintro e w6 ⟨u1, u2, u3, rfl, hL, hb⟩
 obtain ⟨b1, b2, b3, m1, m2, m3, f1, f2, f3, ee1, ee2, ee3⟩ := cf_slices hL
 subst ee1
 subst ee2
 subst ee3
 obtain ⟨hr1, hr2⟩ := run_one A c ⟨s0, s1, s2, s3, s4⟩
 rw [hr1]
 obtain ⟨ev, hev⟩ : ∃ e, e = errOf A c ⟨s0, s1, s2, s3, s4⟩ := ⟨_, rfl⟩
 rw [← hev]
 obtain ⟨rn, hrn⟩ : ∃ n, n = (runOf A c [⟨s0, s1, s2, s3, s4⟩]).2.1 := ⟨_, rfl⟩
 rw [← hrn]
 have h46 := below_step' B45.out hb
 have hO6 := O4.out.same (SameOn.of_below (P := fun _ => True) (below_step' h46 (below_new w6 (.cells #[.slice b1 m1 f1, .slice b2 m2 f2, .slice b3 m3 f3] 31)))) trivial hz43
 have hX6 := X4.out.below (below_step' h46 (below_new w6 (.cells #[.slice b1 m1 f1, .slice b2 m2 f2, .slice b3 m3 f3] 31)))
 have z0 := hX6 0 _ rfl
 have z1 := hX6 1 _ rfl
 have z2 := hX6 2 _ rfl
 have q0 := hO6.frozen 0
 have q1 := hO6.frozen 1
 have q2 := hO6.frozen 2
 have HOW := Lib.hid hO6
 have HL := Lib.hid (hL.later (below_new w6 (.cells #[.slice b1 m1 f1, .slice b2 m2 f2, .slice b3 m3 f3] 31)))
 have HBW := Lib.hid (below_step' (below_step' B5.out hb) (below_new w6 (.cells #[.slice b1 m1 f1, .slice b2 m2 f2, .slice b3 m3 f3] 31)))
 have HEV := Lib.hid hev
 have HR2 := Lib.hid hr2
 have hz5 : y4.heap.size ≤ y5.heap.size := B45.out.size
 clear hL hb hr1 hr2 hev hrn h46 hO6 hX6 hst
 by_cases h0 : ev = 0
 ·subst h0
  go_wp2_with fail
  obtain ⟨w9, hw9⟩ : ∃ x, x = (((w6.alloc (.cells #[.slice b1 m1 f1, .slice b2 m2 f2, .slice b3 m3 f3] 31)).setCell ⟨w.heap.size + 1 + 1 + 1, 0, none⟩ (.slice b1 m1 f1)).setCell ⟨w.heap.size + 1 + 1 + 1, 1, none⟩ (.slice b2 m2 f2)).setCell ⟨w.heap.size + 1 + 1 + 1, 2, none⟩ (.slice b3 m3 f3) := ⟨_, rfl⟩
  have hB9 : BoxAt (w.heap.size + 1 + 1 + 1) [.slice b1 m1 f1, .slice b2 m2 f2, .slice b3 m3 f3] w9 := by rw [hw9]; exact box3_at HOW.out
  have hb9 : Below w.heap.size w w9 := by
   rw [hw9]
   exact ((HBW.out.setCell (by show w.heap.size ≤ w.heap.size + 1 + 1 + 1; omega) _).setCell (by show w.heap.size ≤ w.heap.size + 1 + 1 + 1; omega) _).setCell (by show w.heap.size ≤ w.heap.size + 1 + 1 + 1; omega) _
  have hL9 : HoldsL True (fresh w) w9 [.slice b1 m1 f1, .slice b2 m2 f2, .slice b3 m3 f3] (applied A c ⟨s0, s1, s2, s3, s4⟩).d := by
   have ha : applied A c ⟨s0, s1, s2, s3, s4⟩ = (runOf A c [⟨s0, s1, s2, s3, s4⟩]).1 := by unfold applied; rw [if_pos HEV.out.symm, HR2.out HEV.out.symm]
   have hs9 : SameOn (fresh y5) (w6.alloc (.cells #[.slice b1 m1 f1, .slice b2 m2 f2, .slice b3 m3 f3] 31)) w9 := by rw [hw9]; exact box3_same (fun h => by have h : y5.heap.size ≤ w.heap.size + 1 + 1 + 1 := h; omega)
   rw [ha]
   exact (HL.out.same hs9).wide (fun q _ (h : y5.heap.size ≤ q) => by show w.heap.size ≤ q; omega)
  have r0 := hB9 0 _ rfl
  have r1 := hB9 1 _ rfl
  have r2 := hB9 2 _ rfl
  rw [← hw9]
  refine bodyPost_ret (v := .tuple #[.agg #[.slice b1 m1 f1, .slice b2 m2 f2, .slice b3 m3 f3], .int .i64 0]) (by simp [results, Try.results16, go_sem, r0, r1, r2]) rfl ?_
  exact ⟨_, _, _, by rw [← HEV.out], hL9, hb9⟩
 ·have hne : (ev != 0) = true := by simpa using h0
  go_wp2_with fail
  obtain ⟨w9, hw9⟩ : ∃ x, x = (((w6.alloc (.cells #[.slice b1 m1 f1, .slice b2 m2 f2, .slice b3 m3 f3] 31)).setCell ⟨w.heap.size + 1 + 1 + 1, 0, none⟩ (.slice none 0 0)).setCell ⟨w.heap.size + 1 + 1 + 1, 1, none⟩ (.slice none 0 0)).setCell ⟨w.heap.size + 1 + 1 + 1, 2, none⟩ (.slice none 0 0) := ⟨_, rfl⟩
  have hB9 : BoxAt (w.heap.size + 1 + 1 + 1) [.slice none 0 0, .slice none 0 0, .slice none 0 0] w9 := by rw [hw9]; exact box3_at HOW.out
  have hb9 : Below w.heap.size w w9 := by
   rw [hw9]
   exact ((HBW.out.setCell (by show w.heap.size ≤ w.heap.size + 1 + 1 + 1; omega) _).setCell (by show w.heap.size ≤ w.heap.size + 1 + 1 + 1; omega) _).setCell (by show w.heap.size ≤ w.heap.size + 1 + 1 + 1; omega) _
  have hL9 : HoldsL True (fresh w) w9 [.slice none 0 0, .slice none 0 0, .slice none 0 0] (applied A c ⟨s0, s1, s2, s3, s4⟩).d := by
   have ha : applied A c ⟨s0, s1, s2, s3, s4⟩ = Cf.zero := by unfold applied; rw [if_neg (by rw [← HEV.out]; exact h0)]
   rw [ha]
   exact zero_cf _ _
  have r0 := hB9 0 _ rfl
  have r1 := hB9 1 _ rfl
  have r2 := hB9 2 _ rfl
  rw [← hw9]
  refine bodyPost_ret (v := .tuple #[.agg #[.slice none 0 0, .slice none 0 0, .slice none 0 0], .int .i64 ev]) (by simp [results, Try.results16, go_sem, r0, r1, r2]) rfl ?_
  exact ⟨_, _, _, by rw [← HEV.out], hL9, hb9⟩
end Go.Proofs.Ytiblcpkejhiehaa

set_option linter.unusedSimpArgs false
set_option linter.unusedVariables false
namespace Go.Proofs.Ytiblcpkejhiehaa
open Go.RowKit Go.PlainAid
theorem not_ok {A : Ap} {c : Cf} {r : Bool} (hr : r = true ↔ CfOK A c) (h : ¬ CfOK A c) : r = false := by
 cases r with
 | false => rfl
 | true => exact absurd (hr.1 rfl) h
set_option maxHeartbeats 8000000 in
set_option maxRecDepth 100000 in
theorem pright_at (A : Ap) (c : Cf) (r : Bool) (vG vT v1 v2 v3 : Value) (w : World) (hG : LinksAt w vG A.l) (hT : Has w vT (dTab A.t)) (hC : HasL w [v1, v2, v3] c.d) (hW : ∀ p ∈ A.l, wfp p) (hln : A.l.length ≤ 1000000) (hsm : SmallTab A.t) (hsc : SmallCf c) (hr : r = true ↔ CfOK A c) :
  Calls Try.prog 13 #[.agg #[.int .i64 A.n, vG, vT, .bool A.ff], .agg #[v1, v2, v3]] w fun e w' => e = .returned (.bool r) ∧ Below w.heap.size w w' := by
 obtain ⟨ga, gc, ee⟩ := slice_of (has_of_links hG)
 subst ee
 obtain ⟨ta, tc, ee⟩ := slice_of hT
 subst ee
 obtain ⟨c1, c2, c3⟩ := cf_has hC
 obtain ⟨a1, e1, ee⟩ := slice_of c1
 subst ee
 obtain ⟨a2, e2, ee⟩ := slice_of c2
 subst ee
 obtain ⟨a3, e3, ee⟩ := slice_of c3
 subst ee
 obtain ⟨tl, htl⟩ : ∃ n, n = A.t.length := ⟨_, rfl⟩
 obtain ⟨gl, hgl⟩ : ∃ n, n = A.l.length := ⟨_, rfl⟩
 obtain ⟨n1, hn1⟩ : ∃ n, n = c.states.length := ⟨_, rfl⟩
 obtain ⟨n2, hn2⟩ : ∃ n, n = c.links.length := ⟨_, rfl⟩
 obtain ⟨n3, hn3⟩ : ∃ n, n = c.sent.length := ⟨_, rfl⟩
 rw [← hgl] at hG ⊢
 rw [← htl] at hT ⊢
 rw [← hn1] at c1 ⊢
 rw [← hn2] at c2 ⊢
 rw [← hn3] at c3 ⊢
 have HG := Lib.hid hG
 have HT := Lib.hid hT
 have C1 := Lib.hid c1
 have C2 := Lib.hid c2
 have C3 := Lib.hid c3
 have HR := Lib.hid hr
 have HWf := Lib.hid hW
 have SMT := Lib.hid hsm
 have SMC := Lib.hid hsc
 have N1 := Lib.hid hn1
 have N2 := Lib.hid hn2
 have N3 := Lib.hid hn3
 have GL := Lib.hid hgl
 have TL := Lib.hid htl
 obtain ⟨N, hN⟩ : ∃ N, N = A.n := ⟨_, rfl⟩
 rw [← hN]
 have NN := Lib.hid hN
 have hl1 : n1 ≤ 1000000 := by rw [hn1]; exact hsc.1
 have hl3 : n3 ≤ 1000000 := by rw [hn3]; exact hsc.2.2.1
 obtain ⟨tt, htt⟩ := bool_some (TabOK A.n A.l A.t)
 have TT := Lib.hid htt
 clear hG hT hC c1 c2 c3 hr hW hsm hsc hn1 hn2 hn3 hgl htl hN htt
 go_enter Try.func13, Try.ntmps13
 try simp only [List.append_eq, List.cons_append, List.nil_append]
 go_upto_region 1 with fail
 obtain ⟨y0, hy0⟩ : ∃ y, y = (w.alloc (.cells #[.int .i64 N, .slice ga gl gc, .slice ta tl tc, .bool A.ff] 27)).alloc (.cells #[.slice a1 n1 e1, .slice a2 n2 e2, .slice a3 n3 e3] 31) := ⟨_, rfl⟩
 have hb0 : Below w.heap.size w y0 := by rw [hy0]; exact below_step' (below_new _ _) (below_new _ _)
 have hx0 : BoxAt w.heap.size [.int .i64 N, .slice ga gl gc, .slice ta tl tc, .bool A.ff] y0 := by rw [hy0]; exact (boxAt_new w [.int .i64 N, .slice ga gl gc, .slice ta tl tc, .bool A.ff] _).below (below_new _ _)
 have hx1 : BoxAt (w.heap.size + 1) [.slice a1 n1 e1, .slice a2 n2 e2, .slice a3 n3 e3] y0 := by
  have h := boxAt_new (w.alloc (.cells #[.int .i64 N, .slice ga gl gc, .slice ta tl tc, .bool A.ff] 27)) [.slice a1 n1 e1, .slice a2 n2 e2, .slice a3 n3 e3] 31
  rw [size_alloc] at h
  rw [hy0]; exact h
 have B0 := Lib.hid hb0
 have K0 := Lib.hid hx0
 have K1 := Lib.hid hx1
 rw [← hy0]
 clear hy0 hb0 hx0 hx1
 have p0 := K0.out 0 _ rfl
 have p1 := K0.out 1 _ rfl
 have p2 := K0.out 2 _ rfl
 go_wp2_with fail
 refine (tright_at N _ A.l A.t _ tt _ (HT.out.later B0.out) (HG.out.below B0.out) HWf.out hln SMT.out (by rw [NN.out]; exact TT.out)).mono ?_
 rintro e w1 ⟨rfl, hb⟩
 have B1 := Lib.hid hb
 have BW1 := Lib.hid (below_step' B0.out hb)
 clear hb p0 p1 p2
 have p0 := K0.out.below B1.out 0 _ rfl
 have p1 := K0.out.below B1.out 1 _ rfl
 have p2 := K0.out.below B1.out 2 _ rfl
 have q0 := K1.out.below B1.out 0 _ rfl
 have q1 := K1.out.below B1.out 1 _ rfl
 have q2 := K1.out.below B1.out 2 _ rfl
 cases tt with
 | false =>
  obtain rfl := not_ok HR.out (fun h => by have := TT.out.2 h.1; cases this)
  go_wp2_with fail
  go_ret
  exact ⟨rfl, BW1.out⟩
 | true =>
  have hTab : TabOK A.n A.l A.t := TT.out.1 rfl
  have HTab := Lib.hid hTab
  clear hTab
  by_cases g1 : (n1 : Int) = N
  ·have g1' : ((n1 : Int) != N) = false := by simpa using g1
   by_cases g2 : n2 = gl
   ·have g2' : ((n2 : Int) != (gl : Int)) = false := by simp; omega
    by_cases g3 : n3 = gl
    ·have g3' : ((n3 : Int) != (gl : Int)) = false := by simp; omega
     have G1 := Lib.hid g1
     have G2 := Lib.hid g2
     have G3 := Lib.hid g3
     have hnt : n1 = tl := by have := HTab.out.2.1; have := NN.out; have := TL.out; omega
     have HNT := Lib.hid hnt
     clear g1 g2 g3 hnt
     go_wp2_with fail
     clear p0 p1 p2 q0 q1 q2
     go_loopw [47] (fun i wr => ∃ j : Nat, i = .int .i64 j ∧ j ≤ n1 ∧ (∀ (n : Nat) (s : Int) (x : Nd), n < j → c.states[n]? = some s → A.t[n]? = some x → HasS x.states s) ∧ Below y0.heap.size y0 wr) (fun i _ => n1 - (intOf i).toNat)
     case atStart => exact ⟨0, rfl, by omega, fun n s x h => by omega, B1.out⟩
     case round =>
      obtain ⟨j, rfl, hj, hok, hb⟩ := hrel
      have BW := Lib.hid hb
      have OKS := Lib.hid hok
      by_cases hlt : j < n1
      ·have hlt' : (j : Int) < n1 := by omega
       obtain ⟨s, hs⟩ := some_of_lt (l := c.states) (i := j) (by rw [← N1.out]; exact hlt)
       obtain ⟨x, hx⟩ := some_of_lt (l := A.t) (i := j) (by rw [← TL.out, ← HNT.out]; exact hlt)
       obtain ⟨sb, so, e, x1⟩ := num_at (C1.out.later (below_step' B0.out hb)) hs
       subst e
       obtain ⟨tb, tq, tcap, vs, e, _, _, _, y1, hvs⟩ := nd_cells (HT.out.later (below_step' B0.out hb)) hx
       obtain ⟨va, vc, e2⟩ := slice_of hvs
       subst e2
       simp only [Value.slice.injEq] at e
       obtain ⟨e4, _, _⟩ := e
       subst e4
       obtain ⟨xl, hxl⟩ : ∃ n, n = x.states.length := ⟨_, rfl⟩
       rw [← hxl] at y1
       have XL := Lib.hid hxl
       have p2 := K0.out.below hb 2 _ rfl
       have htl2 : j < tl := by rw [← HNT.out]; exact hlt
       have htl3 : (j : Int) < tl := by omega
       have HS := Lib.hid hs
       have HX := Lib.hid hx
       clear hs hx hok hb hvs hxl
       by_cases h0 : s < 0
       ·have h0' : decide (s < 0) = true := by simpa using h0
        obtain rfl := not_ok HR.out (fun h => by have := (h.2.st j s x HS.out HX.out).1; omega)
        go_wp2_with fail
        go_ret
        exact ⟨rfl, below_step' B0.out BW.out⟩
       ·have h0' : decide (s < 0) = false := by simpa using h0
        by_cases h1 : (xl : Int) ≤ s
        ·have h1' : decide ((xl : Int) ≤ s) = true := by simpa using h1
         obtain rfl := not_ok HR.out (fun h => by have h2 := (h.2.st j s x HS.out HX.out).2; have h2 : s < (x.states.length : Int) := h2; have := XL.out; omega)
         go_wp2_with fail
         go_ret
         exact ⟨rfl, below_step' B0.out BW.out⟩
        ·have h1' : decide ((xl : Int) ≤ s) = false := by simpa using h1
         have HH : Hid (HasS x.states s) := Lib.hid ⟨by omega, by have := XL.out; show s < (x.states.length : Int); omega⟩
         go_wp2_with fail
         go_roundw
         case rel => exact ⟨j + 1, by go_num, by omega, fun n s' x' hn hs' hx' => by
          by_cases e : n = j
          ·subst e
           have a1 := HS.out
           have a2 := HX.out
           rw [hs'] at a1
           rw [hx'] at a2
           cases a1
           cases a2
           exact HH.out
          ·exact OKS.out n s' x' (by omega) hs' hx', BW.out⟩
         case measure => simp [intOf]; omega
      ·obtain rfl : j = n1 := by omega
       have hj3 : ¬ (j : Int) < j := by omega
       have q2 := K1.out.below hb 2 _ rfl
       obtain ⟨y2, hy2⟩ : ∃ y, y = wr := ⟨_, rfl⟩
       subst hy2
       clear hok hb
       go_wp2_with fail
       clear q2
       go_loopw [69] (fun i wr => ∃ k : Nat, i = .int .i64 k ∧ k ≤ n3 ∧ (∀ (n : Nat) (q : Int) (m : Lks), n < k → c.sent[n]? = some q → c.links[n]? = some m → LinkOK q m) ∧ Below y0.heap.size y0 wr) (fun i _ => n3 - (intOf i).toNat)
       case atStart => exact ⟨0, rfl, by omega, fun n s x h => by omega, BW.out⟩
       case round =>
        obtain ⟨k, rfl, hk, hok, hb⟩ := hrel
        have BX := Lib.hid hb
        have OKM := Lib.hid hok
        by_cases hlt2 : k < n3
        ·have hlt3 : (k : Int) < n3 := by omega
         obtain ⟨q, hq⟩ := some_of_lt (l := c.sent) (i := k) (by rw [← N3.out]; exact hlt2)
         obtain ⟨m, hm⟩ := some_of_lt (l := c.links) (i := k) (by rw [← N2.out, G2.out, ← G3.out]; exact hlt2)
         obtain ⟨qb, qo, e, x1⟩ := num_at (C3.out.later (below_step' B0.out hb)) hq
         subst e
         obtain ⟨lb, lo, ma, mc, e, _, e9, y1, hmm⟩ := lls_at (C2.out.later (below_step' B0.out hb)) hm
         clear e9
         subst e
         have q1 := K1.out.below hb 1 _ rfl
         have hk2 : k < n2 := by rw [G2.out, ← G3.out]; exact hlt2
         have hk3 : (k : Int) < n2 := by omega
         have HQ := Lib.hid hq
         have HM := Lib.hid hm
         have HMM := Lib.hid hmm
         obtain ⟨rr, hrr⟩ := bool_some (MsgsOK 0 q m)
         have RR := Lib.hid hrr
         clear hq hm hok hb hmm hrr
         by_cases h0 : q < 0
         ·have h0' : decide (q < 0) = true := by simpa using h0
          obtain rfl := not_ok HR.out (fun h => by have := (h.2.ms k q m HQ.out HM.out).1; omega)
          go_wp2_with fail
          go_ret
          exact ⟨rfl, below_step' B0.out BX.out⟩
         ·have h0' : decide (q < 0) = false := by simpa using h0
          by_cases h1 : 500 < q
          ·have h1' : decide (500 < q) = true := by simpa using h1
           obtain rfl := not_ok HR.out (fun h => by have := (h.2.ms k q m HQ.out HM.out).2.1; omega)
           go_wp2_with fail
           go_ret
           exact ⟨rfl, below_step' B0.out BX.out⟩
          ·have h1' : decide (500 < q) = false := by simpa using h1
           go_wp2_with fail
           refine (mayBe_at m q rr ma mc _ HMM.out (SMC.out.2.2.2 m (List.mem_of_getElem? HM.out)) RR.out).mono ?_
           rintro e w5 ⟨rfl, hb⟩
           have BY := Lib.hid (below_step' BX.out hb)
           clear hb x1 y1 q1
           cases rr with
           | false =>
            obtain rfl := not_ok HR.out (fun h => by have := RR.out.2 (h.2.ms k q m HQ.out HM.out).2.2; cases this)
            go_wp2_with fail
            go_ret
            exact ⟨rfl, below_step' B0.out BY.out⟩
           | true =>
            have HH : Hid (LinkOK q m) := Lib.hid ⟨by omega, by omega, RR.out.1 (by simp)⟩
            go_wp2_with fail
            go_roundw
            case rel => exact ⟨k + 1, by go_num, by omega, fun n q' m' hn hq' hm' => by
             by_cases e : n = k
             ·subst e
              have a1 := HQ.out
              have a2 := HM.out
              rw [hq'] at a1
              rw [hm'] at a2
              cases a1
              cases a2
              exact HH.out
             ·exact OKM.out n q' m' (by omega) hq' hm', BY.out⟩
            case measure => simp [intOf]; omega
        ·obtain rfl : k = n3 := by omega
         have hk3 : ¬ (k : Int) < k := by omega
         have hrt : r = true := HR.out.2 ⟨HTab.out, ⟨by rw [← N1.out, ← NN.out]; exact G1.out, by rw [← N2.out, ← GL.out]; exact G2.out, by rw [← N3.out, ← GL.out]; exact G3.out, fun n s x hs hx => OKS.out n s x (by have := lt_of_some hs; have := N1.out; omega) hs hx, fun n q m hq hm => OKM.out n q m (by have := lt_of_some hq; have := N3.out; omega) hq hm⟩⟩
         subst hrt
         clear hok hb
         go_wp2_with fail
         go_ret
         exact ⟨rfl, below_step' B0.out BX.out⟩
    ·have g3' : ((n3 : Int) != (gl : Int)) = true := by simp; omega
     obtain rfl := not_ok HR.out (fun h => g3 (by rw [N3.out, GL.out]; exact h.2.sent))
     clear g3
     go_wp2_with fail
     go_ret
     exact ⟨rfl, BW1.out⟩
   ·have g2' : ((n2 : Int) != (gl : Int)) = true := by simp; omega
    obtain rfl := not_ok HR.out (fun h => g2 (by rw [N2.out, GL.out]; exact h.2.links))
    clear g2
    go_wp2_with fail
    go_ret
    exact ⟨rfl, BW1.out⟩
  ·have g1' : ((n1 : Int) != N) = true := by simpa using g1
   obtain rfl := not_ok HR.out (fun h => g1 (by rw [N1.out, NN.out]; exact h.2.states))
   clear g1
   go_wp2_with fail
   go_ret
   exact ⟨rfl, BW1.out⟩
end Go.Proofs.Ytiblcpkejhiehaa

set_option linter.unusedSimpArgs false
set_option linter.unusedVariables false
namespace Go.Proofs.Ytiblcpkejhiehaa
open Go.RowKit Go.PlainAid
theorem made_ints (n : Nat) (h : n ≤ 1000000) (w : World) : Holds True (fun q => q = w.heap.size) (w.alloc (.cells (madeCells #[.int .i64 0] n) 3)) (.slice (some ⟨w.heap.size, 0, none⟩) n n) (dInts (List.replicate n 0)) := by
 refine holds_mk (Q := fun _ => False) (cells := List.replicate n (.int .i64 0)) (by simp) rfl (heap_alloc_new w _) (Nat.le_refl _) (by unfold maxLen; omega) (by rw [size_madeCells, Nat.mul_one]) ?_ (by intro ds hd; obtain ⟨_, _, rfl⟩ := List.mem_map.1 hd; rfl) ?_ (fun _ h => h.elim) (fun h => h)
 ·rw [Nat.mul_one]
  apply List.ext_getElem
  ·simp [size_madeCells, madeCells]
  ·intro i h1 h2
   simp [madeCells, Nat.mod_one]
 ·refine ⟨?_, fun _ _ => False, fun _ _ h => h, fun _ _ _ _ h => h.elim, fun j c d hc hd => ?_⟩
  ·rw [flatten_len (n := 1) (by intro ds hd; obtain ⟨_, _, rfl⟩ := List.mem_map.1 hd; rfl)]; simp
  ·have hj := lt_of_some hc
   simp at hj
   rw [List.getElem?_replicate, if_pos hj] at hc
   cases hc
   have e := flatten_get (n := 1) (ys := (List.replicate n (0 : Int)).map fun m => [dI m]) (i := j) (j := 0) (ds := [dI 0]) (by intro ds hd; obtain ⟨_, _, rfl⟩ := List.mem_map.1 hd; rfl) (by rw [List.getElem?_map, List.getElem?_replicate, if_pos hj]; rfl) (by decide)
   rw [Nat.mul_one, Nat.add_zero, hd] at e
   simp at e
   subst e
   exact has_int _ _ _ _
theorem one_intL' (w : World) (x : Int) : HoldsL True (fun _ => False) w [.int .i64 x] [dI x] := by
 refine ⟨rfl, fun _ _ => False, fun _ _ h => h, fun _ _ _ _ h => h.elim, fun j c d hc hd => ?_⟩
 match j, hc, hd with
 | 0, hc, hd => simp at hc hd; subst hc hd; exact has_int _ _ _ _
 | j + 1, hc, hd => simp at hc
/-- What Start tells. -/
def Began (A : Ap) (w : World) (e : Ending) (w' : World) : Prop := ∃ u1 u2 u3, e = .returned (.agg #[u1, u2, u3]) ∧ HoldsL True (fresh w) w' [u1, u2, u3] (startOf A).d ∧ Below w.heap.size w w'
set_option maxHeartbeats 8000000 in
set_option maxRecDepth 100000 in
theorem start_at (A : Ap) (vG vT : Value) (w : World) (hG : LinksAt w vG A.l) (hT : Has w vT (dTab A.t)) (hgl : A.l.length ≤ 1000000) (htl : A.t.length ≤ 1000000) :
  Calls Try.prog 23 #[.agg #[.int .i64 A.n, vG, vT, .bool A.ff]] w fun e w' => Began A w e w' := by
 obtain ⟨ga, gc, ee⟩ := slice_of (has_of_links hG)
 subst ee
 obtain ⟨ta, tc, ee⟩ := slice_of hT
 subst ee
 obtain ⟨tl, htl2⟩ : ∃ n, n = A.t.length := ⟨_, rfl⟩
 obtain ⟨gl, hgl2⟩ : ∃ n, n = A.l.length := ⟨_, rfl⟩
 rw [← hgl2] at hgl ⊢
 rw [← htl2] at htl hT ⊢
 have hgl5 := hgl
 have HT := Lib.hid hT
 have GL := Lib.hid hgl2
 have TL := Lib.hid htl2
 have hmk := make_lls gl hgl
 have hmi := make_ints gl hgl
 clear hG hT hgl2 htl2 hgl
 go_enter Try.func23, Try.ntmps23
 try simp only [List.append_eq, List.cons_append, List.nil_append]
 go_upto_region 1 with fail
 obtain ⟨y0, hy0⟩ : ∃ y, y = (w.alloc (.cells #[.int .i64 A.n, .slice ga gl gc, .slice ta tl tc, .bool A.ff] 27)).alloc (.cells #[.slice none 0 0, .slice none 0 0, .slice none 0 0] 31) := ⟨_, rfl⟩
 have hb0 : Below w.heap.size w y0 := by rw [hy0]; exact below_step' (below_new _ _) (below_new _ _)
 have hx0 : BoxAt w.heap.size [.int .i64 A.n, .slice ga gl gc, .slice ta tl tc, .bool A.ff] y0 := by rw [hy0]; exact (boxAt_new w [.int .i64 A.n, .slice ga gl gc, .slice ta tl tc, .bool A.ff] _).below (below_new _ _)
 have hx1 : BoxAt (w.heap.size + 1) [.slice none 0 0, .slice none 0 0, .slice none 0 0] y0 := by
  have h := boxAt_new (w.alloc (.cells #[.int .i64 A.n, .slice ga gl gc, .slice ta tl tc, .bool A.ff] 27)) [.slice none 0 0, .slice none 0 0, .slice none 0 0] 31
  rw [size_alloc] at h
  rw [hy0]; exact h
 have ho1 : OpenRow y0 (w.heap.size + 1) 1 3 := by
  have h := heap_alloc_new (w.alloc (.cells #[.int .i64 A.n, .slice ga gl gc, .slice ta tl tc, .bool A.ff] 27)) (.cells #[.slice none 0 0, .slice none 0 0, .slice none 0 0] 31)
  rw [size_alloc] at h
  rw [hy0]; exact ⟨by decide, _, _, h, rfl⟩
 have X1 := Lib.hid hx1
 have O1 := Lib.hid ho1
 clear hx1 ho1
 have Y0z : Hid (w.heap.size + 2 ≤ y0.heap.size) := Lib.hid (by rw [hy0]; simp)
 have B0 := Lib.hid hb0
 have X0 := Lib.hid hx0
 rw [← hy0]
 clear hy0 hb0 hx0
 have QY : Hid (∀ w', Below y0.heap.size y0 w' → w'.cell? ⟨w.heap.size, 1, none⟩ = some (.slice ga gl gc)) := Lib.hid (fun w' hb => X0.out.below hb 1 _ rfl)
 go_cut [3] from 6 to 16 (fun s3 wx => CopR y0 ⟨[], List.replicate gl [], List.replicate gl 0⟩ 0 gl gl s3 wx)
 case first =>
  refine wp_region_held_drew (S := (fun w' => w'.cell? ⟨w.heap.size, 1, none⟩ = some (.slice ga gl gc))) (by kernel_rfl) ?_ (fun hHeld => ?_)
  ·exact QY.out _ (below_drewN (Below.refl _ y0) 1)
  obtain ⟨y1, hy1⟩ : ∃ y, y = y0.drew := ⟨_, rfl⟩
  have HY := Lib.hid (show Below y0.heap.size y0 y1 from by rw [hy1]; exact below_drewN (Below.refl _ y0) 1)
  have hsy : y0.heap.size = y1.heap.size := by rw [hy1]; rfl
  rw [← hy1] at hHeld ⊢
  clear hy1
  have HSZ := Lib.hid hsy
  have hsz : w.heap.size + 2 ≤ y1.heap.size := by rw [← hsy]; exact Y0z.out
  clear hsy
  have BBy := Lib.hid (Below.refl y1.heap.size y1)
  have QS : Hid (∀ w', Below y1.heap.size y1 w' → w'.cell? ⟨w.heap.size, 1, none⟩ = some (.slice ga gl gc)) := Lib.hid (fun w' hb => QY.out _ (below_step' HY.out hb))
  refine tq 0 ?_
  refine tq 1 ?_
  refine tq 2 ?_
  refine tq 3 ?_
  refine tq 5 ?_
  refine tq 6 ?_
  refine tq 7 ?_
  refine tq 8 ?_
  refine wpAnyH_ready (rs := [4, 9, 11]) (by kernel_rfl) (by simp) ?_
  refine AllReadyH.cons rfl (fun K hK => ?_) (AllReadyH.cons rfl (fun K hK => ?_) (AllReadyH.cons rfl (fun K hK => ?_) AllReadyH.nil))
  ·go_simp
   obtain ⟨wM, hwM⟩ : ∃ x, x = y1.alloc (.cells (madeCells #[.slice none 0 0] gl) 51) := ⟨_, rfl⟩
   have RM := Lib.hid (show Holds True (fun q => q = y1.heap.size) wM (.slice (some ⟨y1.heap.size, 0, none⟩) gl gl) (dLls (List.replicate gl [])) from by rw [hwM]; exact made_lls gl hgl5 y1)
   have GM := Lib.hid (show Below y1.heap.size y1 wM from by rw [hwM]; exact below_new _ _)
   have BBM := Lib.hid (below_step' BBy.out GM.out)
   have SZM : y1.heap.size + 1 ≤ wM.heap.size := by rw [hwM]; simp
   rw [← hwM]
   clear hwM
   refine hK.out _ _ ?_ (fun hHeld => ?_)
   ·exact QS.out _ BBM.out
   clear hK K
   try simp only [Act.put, List.getElem_toArray, List.getElem_cons_zero, List.getElem_cons_succ, List.setIfInBounds_toArray, List.set_cons_zero, List.set_cons_succ]
   refine wpAnyH_ready (rs := [9, 11]) (by kernel_rfl) (by simp) ?_
   refine AllReadyH.cons rfl (fun K hK => ?_) (AllReadyH.cons rfl (fun K hK => ?_) AllReadyH.nil)
   ·go_simp
    obtain ⟨wT, hwT⟩ : ∃ x, x = wM.alloc (.cells (madeCells #[.int .i64 0] gl) 3) := ⟨_, rfl⟩
    have RT := Lib.hid (show Holds True (fun q => q = wM.heap.size) wT (.slice (some ⟨wM.heap.size, 0, none⟩) gl gl) (dInts (List.replicate gl 0)) from by rw [hwT]; exact made_ints gl hgl5 wM)
    have GT := Lib.hid (show Below wM.heap.size wM wT from by rw [hwT]; exact below_new _ _)
    have BBT := Lib.hid (below_step' BBM.out GT.out)
    have SZT : wM.heap.size + 1 ≤ wT.heap.size := by rw [hwT]; simp
    rw [← hwT]
    clear hwT
    refine hK.out _ _ ?_ (fun hHeld => ?_)
    ·exact QS.out _ BBT.out
    clear hK K
    try simp only [Act.put, List.getElem_toArray, List.getElem_cons_zero, List.getElem_cons_succ, List.setIfInBounds_toArray, List.set_cons_zero, List.set_cons_succ]
    refine tq 10 ?_
    refine rd 11 fun K hK => ?_
    go_simp
    obtain ⟨wX, hwX⟩ : ∃ x, x = wT.alloc (.cells #[.slice none 0 0, .slice none 0 0, .slice none 0 0] 31) := ⟨_, rfl⟩
    have BX := Lib.hid (show BoxAt wT.heap.size [.slice none 0 0, .slice none 0 0, .slice none 0 0] wX from by rw [hwX]; exact boxAt_new wT [.slice none 0 0, .slice none 0 0, .slice none 0 0] _)
    have OX : Hid (OpenRow wX wT.heap.size 1 3) := Lib.hid (by rw [hwX]; exact ⟨by decide, _, _, heap_alloc_new wT _, rfl⟩)
    have GX := Lib.hid (show Below wT.heap.size wT wX from by rw [hwX]; exact below_new _ _)
    have BBX := Lib.hid (below_step' BBT.out GX.out)
    have SZX : wT.heap.size + 1 ≤ wX.heap.size := by rw [hwX]; simp
    rw [← hwX]
    clear hwX
    refine hK.out _ _ ?_ (fun hHeld => ?_)
    ·exact QS.out _ BBX.out
    clear hK K
    try simp only [Act.put, List.getElem_toArray, List.getElem_cons_zero, List.getElem_cons_succ, List.setIfInBounds_toArray, List.set_cons_zero, List.set_cons_succ]
    refine rd 12 fun K hK => ?_
    have hO := OX.out.same (SameOn.of_below (P := fun _ => True) (Below.refl _ wX)) trivial (by omega)
    have hB := BX.out.below (Below.refl _ wX)
    have k0 := hB 0 _ rfl
    have k1 := hB 1 _ rfl
    have k2 := hB 2 _ rfl
    have f0 := hO.frozen 0
    have f1 := hO.frozen 1
    have f2 := hO.frozen 2
    have HO := Lib.hid hO
    clear hB hO
    go_simp
    clear k0 k1 k2 f0 f1 f2
    refine hK.out _ _ ?_ (fun hHeld => ?_)
    ·exact (set_far3 (by have := BBy.out.size; show wT.heap.size ≠ w.heap.size; omega) (QS.out _ BBX.out))
    clear hK K
    try simp only [Act.put, List.getElem_toArray, List.getElem_cons_zero, List.getElem_cons_succ, List.setIfInBounds_toArray, List.set_cons_zero, List.set_cons_succ]
    refine wpAnyH_done (by kernel_rfl) ?_ _
    go_wp2_with fail
    go_meet
    exact copR_mk (c := ⟨[], List.replicate gl [], List.replicate gl 0⟩) (P1 := fun _ => False) (pb := wT.heap.size) HSZ.out (below_step' HY.out BBX.out) (by omega) HO.out (.nil _ _ _ _ _) (RM.out.later (below_step' (below_step' (Below.refl _ wM) GT.out) GX.out)) (RT.out.later (below_step' (Below.refl _ wT) GX.out)) (fun k a => a.elim) (fun k a => ⟨by omega, by omega⟩) (fun k a => ⟨by omega, by omega⟩) (fun k a b => a.elim) (fun k a b => a.elim) (fun k a b => by omega)
   ·go_simp
    obtain ⟨wX, hwX⟩ : ∃ x, x = wM.alloc (.cells #[.slice none 0 0, .slice none 0 0, .slice none 0 0] 31) := ⟨_, rfl⟩
    have BX := Lib.hid (show BoxAt wM.heap.size [.slice none 0 0, .slice none 0 0, .slice none 0 0] wX from by rw [hwX]; exact boxAt_new wM [.slice none 0 0, .slice none 0 0, .slice none 0 0] _)
    have OX : Hid (OpenRow wX wM.heap.size 1 3) := Lib.hid (by rw [hwX]; exact ⟨by decide, _, _, heap_alloc_new wM _, rfl⟩)
    have GX := Lib.hid (show Below wM.heap.size wM wX from by rw [hwX]; exact below_new _ _)
    have BBX := Lib.hid (below_step' BBM.out GX.out)
    have SZX : wM.heap.size + 1 ≤ wX.heap.size := by rw [hwX]; simp
    rw [← hwX]
    clear hwX
    refine hK.out _ _ ?_ (fun hHeld => ?_)
    ·exact QS.out _ BBX.out
    clear hK K
    try simp only [Act.put, List.getElem_toArray, List.getElem_cons_zero, List.getElem_cons_succ, List.setIfInBounds_toArray, List.set_cons_zero, List.set_cons_succ]
    refine rd 9 fun K hK => ?_
    go_simp
    obtain ⟨wT, hwT⟩ : ∃ x, x = wX.alloc (.cells (madeCells #[.int .i64 0] gl) 3) := ⟨_, rfl⟩
    have RT := Lib.hid (show Holds True (fun q => q = wX.heap.size) wT (.slice (some ⟨wX.heap.size, 0, none⟩) gl gl) (dInts (List.replicate gl 0)) from by rw [hwT]; exact made_ints gl hgl5 wX)
    have GT := Lib.hid (show Below wX.heap.size wX wT from by rw [hwT]; exact below_new _ _)
    have BBT := Lib.hid (below_step' BBX.out GT.out)
    have SZT : wX.heap.size + 1 ≤ wT.heap.size := by rw [hwT]; simp
    rw [← hwT]
    clear hwT
    refine hK.out _ _ ?_ (fun hHeld => ?_)
    ·exact QS.out _ BBT.out
    clear hK K
    try simp only [Act.put, List.getElem_toArray, List.getElem_cons_zero, List.getElem_cons_succ, List.setIfInBounds_toArray, List.set_cons_zero, List.set_cons_succ]
    refine tq 10 ?_
    refine rd 12 fun K hK => ?_
    have hO := OX.out.same (SameOn.of_below (P := fun _ => True) (below_step' (Below.refl _ wX) GT.out)) trivial (by omega)
    have hB := BX.out.below (below_step' (Below.refl _ wX) GT.out)
    have k0 := hB 0 _ rfl
    have k1 := hB 1 _ rfl
    have k2 := hB 2 _ rfl
    have f0 := hO.frozen 0
    have f1 := hO.frozen 1
    have f2 := hO.frozen 2
    have HO := Lib.hid hO
    clear hB hO
    go_simp
    clear k0 k1 k2 f0 f1 f2
    refine hK.out _ _ ?_ (fun hHeld => ?_)
    ·exact (set_far3 (by have := BBy.out.size; show wM.heap.size ≠ w.heap.size; omega) (QS.out _ BBT.out))
    clear hK K
    try simp only [Act.put, List.getElem_toArray, List.getElem_cons_zero, List.getElem_cons_succ, List.setIfInBounds_toArray, List.set_cons_zero, List.set_cons_succ]
    refine wpAnyH_done (by kernel_rfl) ?_ _
    go_wp2_with fail
    go_meet
    exact copR_mk (c := ⟨[], List.replicate gl [], List.replicate gl 0⟩) (P1 := fun _ => False) (pb := wM.heap.size) HSZ.out (below_step' HY.out BBT.out) (by omega) HO.out (.nil _ _ _ _ _) (RM.out.later (below_step' (below_step' (Below.refl _ wM) GX.out) GT.out)) (RT.out.later (Below.refl _ wT)) (fun k a => a.elim) (fun k a => ⟨by omega, by omega⟩) (fun k a => ⟨by omega, by omega⟩) (fun k a b => a.elim) (fun k a b => a.elim) (fun k a b => by omega)
  ·go_simp
   obtain ⟨wT, hwT⟩ : ∃ x, x = y1.alloc (.cells (madeCells #[.int .i64 0] gl) 3) := ⟨_, rfl⟩
   have RT := Lib.hid (show Holds True (fun q => q = y1.heap.size) wT (.slice (some ⟨y1.heap.size, 0, none⟩) gl gl) (dInts (List.replicate gl 0)) from by rw [hwT]; exact made_ints gl hgl5 y1)
   have GT := Lib.hid (show Below y1.heap.size y1 wT from by rw [hwT]; exact below_new _ _)
   have BBT := Lib.hid (below_step' BBy.out GT.out)
   have SZT : y1.heap.size + 1 ≤ wT.heap.size := by rw [hwT]; simp
   rw [← hwT]
   clear hwT
   refine hK.out _ _ ?_ (fun hHeld => ?_)
   ·exact QS.out _ BBT.out
   clear hK K
   try simp only [Act.put, List.getElem_toArray, List.getElem_cons_zero, List.getElem_cons_succ, List.setIfInBounds_toArray, List.set_cons_zero, List.set_cons_succ]
   refine wpAnyH_ready (rs := [4, 11]) (by kernel_rfl) (by simp) ?_
   refine AllReadyH.cons rfl (fun K hK => ?_) (AllReadyH.cons rfl (fun K hK => ?_) AllReadyH.nil)
   ·go_simp
    obtain ⟨wM, hwM⟩ : ∃ x, x = wT.alloc (.cells (madeCells #[.slice none 0 0] gl) 51) := ⟨_, rfl⟩
    have RM := Lib.hid (show Holds True (fun q => q = wT.heap.size) wM (.slice (some ⟨wT.heap.size, 0, none⟩) gl gl) (dLls (List.replicate gl [])) from by rw [hwM]; exact made_lls gl hgl5 wT)
    have GM := Lib.hid (show Below wT.heap.size wT wM from by rw [hwM]; exact below_new _ _)
    have BBM := Lib.hid (below_step' BBT.out GM.out)
    have SZM : wT.heap.size + 1 ≤ wM.heap.size := by rw [hwM]; simp
    rw [← hwM]
    clear hwM
    refine hK.out _ _ ?_ (fun hHeld => ?_)
    ·exact QS.out _ BBM.out
    clear hK K
    try simp only [Act.put, List.getElem_toArray, List.getElem_cons_zero, List.getElem_cons_succ, List.setIfInBounds_toArray, List.set_cons_zero, List.set_cons_succ]
    refine tq 10 ?_
    refine rd 11 fun K hK => ?_
    go_simp
    obtain ⟨wX, hwX⟩ : ∃ x, x = wM.alloc (.cells #[.slice none 0 0, .slice none 0 0, .slice none 0 0] 31) := ⟨_, rfl⟩
    have BX := Lib.hid (show BoxAt wM.heap.size [.slice none 0 0, .slice none 0 0, .slice none 0 0] wX from by rw [hwX]; exact boxAt_new wM [.slice none 0 0, .slice none 0 0, .slice none 0 0] _)
    have OX : Hid (OpenRow wX wM.heap.size 1 3) := Lib.hid (by rw [hwX]; exact ⟨by decide, _, _, heap_alloc_new wM _, rfl⟩)
    have GX := Lib.hid (show Below wM.heap.size wM wX from by rw [hwX]; exact below_new _ _)
    have BBX := Lib.hid (below_step' BBM.out GX.out)
    have SZX : wM.heap.size + 1 ≤ wX.heap.size := by rw [hwX]; simp
    rw [← hwX]
    clear hwX
    refine hK.out _ _ ?_ (fun hHeld => ?_)
    ·exact QS.out _ BBX.out
    clear hK K
    try simp only [Act.put, List.getElem_toArray, List.getElem_cons_zero, List.getElem_cons_succ, List.setIfInBounds_toArray, List.set_cons_zero, List.set_cons_succ]
    refine rd 12 fun K hK => ?_
    have hO := OX.out.same (SameOn.of_below (P := fun _ => True) (Below.refl _ wX)) trivial (by omega)
    have hB := BX.out.below (Below.refl _ wX)
    have k0 := hB 0 _ rfl
    have k1 := hB 1 _ rfl
    have k2 := hB 2 _ rfl
    have f0 := hO.frozen 0
    have f1 := hO.frozen 1
    have f2 := hO.frozen 2
    have HO := Lib.hid hO
    clear hB hO
    go_simp
    clear k0 k1 k2 f0 f1 f2
    refine hK.out _ _ ?_ (fun hHeld => ?_)
    ·exact (set_far3 (by have := BBy.out.size; show wM.heap.size ≠ w.heap.size; omega) (QS.out _ BBX.out))
    clear hK K
    try simp only [Act.put, List.getElem_toArray, List.getElem_cons_zero, List.getElem_cons_succ, List.setIfInBounds_toArray, List.set_cons_zero, List.set_cons_succ]
    refine wpAnyH_done (by kernel_rfl) ?_ _
    go_wp2_with fail
    go_meet
    exact copR_mk (c := ⟨[], List.replicate gl [], List.replicate gl 0⟩) (P1 := fun _ => False) (pb := wM.heap.size) HSZ.out (below_step' HY.out BBX.out) (by omega) HO.out (.nil _ _ _ _ _) (RM.out.later (below_step' (Below.refl _ wM) GX.out)) (RT.out.later (below_step' (below_step' (Below.refl _ wT) GM.out) GX.out)) (fun k a => a.elim) (fun k a => ⟨by omega, by omega⟩) (fun k a => ⟨by omega, by omega⟩) (fun k a b => a.elim) (fun k a b => a.elim) (fun k a b => by omega)
   ·go_simp
    obtain ⟨wX, hwX⟩ : ∃ x, x = wT.alloc (.cells #[.slice none 0 0, .slice none 0 0, .slice none 0 0] 31) := ⟨_, rfl⟩
    have BX := Lib.hid (show BoxAt wT.heap.size [.slice none 0 0, .slice none 0 0, .slice none 0 0] wX from by rw [hwX]; exact boxAt_new wT [.slice none 0 0, .slice none 0 0, .slice none 0 0] _)
    have OX : Hid (OpenRow wX wT.heap.size 1 3) := Lib.hid (by rw [hwX]; exact ⟨by decide, _, _, heap_alloc_new wT _, rfl⟩)
    have GX := Lib.hid (show Below wT.heap.size wT wX from by rw [hwX]; exact below_new _ _)
    have BBX := Lib.hid (below_step' BBT.out GX.out)
    have SZX : wT.heap.size + 1 ≤ wX.heap.size := by rw [hwX]; simp
    rw [← hwX]
    clear hwX
    refine hK.out _ _ ?_ (fun hHeld => ?_)
    ·exact QS.out _ BBX.out
    clear hK K
    try simp only [Act.put, List.getElem_toArray, List.getElem_cons_zero, List.getElem_cons_succ, List.setIfInBounds_toArray, List.set_cons_zero, List.set_cons_succ]
    refine rd 4 fun K hK => ?_
    go_simp
    obtain ⟨wM, hwM⟩ : ∃ x, x = wX.alloc (.cells (madeCells #[.slice none 0 0] gl) 51) := ⟨_, rfl⟩
    have RM := Lib.hid (show Holds True (fun q => q = wX.heap.size) wM (.slice (some ⟨wX.heap.size, 0, none⟩) gl gl) (dLls (List.replicate gl [])) from by rw [hwM]; exact made_lls gl hgl5 wX)
    have GM := Lib.hid (show Below wX.heap.size wX wM from by rw [hwM]; exact below_new _ _)
    have BBM := Lib.hid (below_step' BBX.out GM.out)
    have SZM : wX.heap.size + 1 ≤ wM.heap.size := by rw [hwM]; simp
    rw [← hwM]
    clear hwM
    refine hK.out _ _ ?_ (fun hHeld => ?_)
    ·exact QS.out _ BBM.out
    clear hK K
    try simp only [Act.put, List.getElem_toArray, List.getElem_cons_zero, List.getElem_cons_succ, List.setIfInBounds_toArray, List.set_cons_zero, List.set_cons_succ]
    refine tq 10 ?_
    refine rd 12 fun K hK => ?_
    have hO := OX.out.same (SameOn.of_below (P := fun _ => True) (below_step' (Below.refl _ wX) GM.out)) trivial (by omega)
    have hB := BX.out.below (below_step' (Below.refl _ wX) GM.out)
    have k0 := hB 0 _ rfl
    have k1 := hB 1 _ rfl
    have k2 := hB 2 _ rfl
    have f0 := hO.frozen 0
    have f1 := hO.frozen 1
    have f2 := hO.frozen 2
    have HO := Lib.hid hO
    clear hB hO
    go_simp
    clear k0 k1 k2 f0 f1 f2
    refine hK.out _ _ ?_ (fun hHeld => ?_)
    ·exact (set_far3 (by have := BBy.out.size; show wT.heap.size ≠ w.heap.size; omega) (QS.out _ BBM.out))
    clear hK K
    try simp only [Act.put, List.getElem_toArray, List.getElem_cons_zero, List.getElem_cons_succ, List.setIfInBounds_toArray, List.set_cons_zero, List.set_cons_succ]
    refine wpAnyH_done (by kernel_rfl) ?_ _
    go_wp2_with fail
    go_meet
    exact copR_mk (c := ⟨[], List.replicate gl [], List.replicate gl 0⟩) (P1 := fun _ => False) (pb := wT.heap.size) HSZ.out (below_step' HY.out BBM.out) (by omega) HO.out (.nil _ _ _ _ _) (RM.out.later (Below.refl _ wM)) (RT.out.later (below_step' (below_step' (Below.refl _ wT) GX.out) GM.out)) (fun k a => a.elim) (fun k a => ⟨by omega, by omega⟩) (fun k a => ⟨by omega, by omega⟩) (fun k a b => a.elim) (fun k a b => a.elim) (fun k a b => by omega)
  ·go_simp
   obtain ⟨wX, hwX⟩ : ∃ x, x = y1.alloc (.cells #[.slice none 0 0, .slice none 0 0, .slice none 0 0] 31) := ⟨_, rfl⟩
   have BX := Lib.hid (show BoxAt y1.heap.size [.slice none 0 0, .slice none 0 0, .slice none 0 0] wX from by rw [hwX]; exact boxAt_new y1 [.slice none 0 0, .slice none 0 0, .slice none 0 0] _)
   have OX : Hid (OpenRow wX y1.heap.size 1 3) := Lib.hid (by rw [hwX]; exact ⟨by decide, _, _, heap_alloc_new y1 _, rfl⟩)
   have GX := Lib.hid (show Below y1.heap.size y1 wX from by rw [hwX]; exact below_new _ _)
   have BBX := Lib.hid (below_step' BBy.out GX.out)
   have SZX : y1.heap.size + 1 ≤ wX.heap.size := by rw [hwX]; simp
   rw [← hwX]
   clear hwX
   refine hK.out _ _ ?_ (fun hHeld => ?_)
   ·exact QS.out _ BBX.out
   clear hK K
   try simp only [Act.put, List.getElem_toArray, List.getElem_cons_zero, List.getElem_cons_succ, List.setIfInBounds_toArray, List.set_cons_zero, List.set_cons_succ]
   refine wpAnyH_ready (rs := [4, 9]) (by kernel_rfl) (by simp) ?_
   refine AllReadyH.cons rfl (fun K hK => ?_) (AllReadyH.cons rfl (fun K hK => ?_) AllReadyH.nil)
   ·go_simp
    obtain ⟨wM, hwM⟩ : ∃ x, x = wX.alloc (.cells (madeCells #[.slice none 0 0] gl) 51) := ⟨_, rfl⟩
    have RM := Lib.hid (show Holds True (fun q => q = wX.heap.size) wM (.slice (some ⟨wX.heap.size, 0, none⟩) gl gl) (dLls (List.replicate gl [])) from by rw [hwM]; exact made_lls gl hgl5 wX)
    have GM := Lib.hid (show Below wX.heap.size wX wM from by rw [hwM]; exact below_new _ _)
    have BBM := Lib.hid (below_step' BBX.out GM.out)
    have SZM : wX.heap.size + 1 ≤ wM.heap.size := by rw [hwM]; simp
    rw [← hwM]
    clear hwM
    refine hK.out _ _ ?_ (fun hHeld => ?_)
    ·exact QS.out _ BBM.out
    clear hK K
    try simp only [Act.put, List.getElem_toArray, List.getElem_cons_zero, List.getElem_cons_succ, List.setIfInBounds_toArray, List.set_cons_zero, List.set_cons_succ]
    refine rd 9 fun K hK => ?_
    go_simp
    obtain ⟨wT, hwT⟩ : ∃ x, x = wM.alloc (.cells (madeCells #[.int .i64 0] gl) 3) := ⟨_, rfl⟩
    have RT := Lib.hid (show Holds True (fun q => q = wM.heap.size) wT (.slice (some ⟨wM.heap.size, 0, none⟩) gl gl) (dInts (List.replicate gl 0)) from by rw [hwT]; exact made_ints gl hgl5 wM)
    have GT := Lib.hid (show Below wM.heap.size wM wT from by rw [hwT]; exact below_new _ _)
    have BBT := Lib.hid (below_step' BBM.out GT.out)
    have SZT : wM.heap.size + 1 ≤ wT.heap.size := by rw [hwT]; simp
    rw [← hwT]
    clear hwT
    refine hK.out _ _ ?_ (fun hHeld => ?_)
    ·exact QS.out _ BBT.out
    clear hK K
    try simp only [Act.put, List.getElem_toArray, List.getElem_cons_zero, List.getElem_cons_succ, List.setIfInBounds_toArray, List.set_cons_zero, List.set_cons_succ]
    refine tq 10 ?_
    refine rd 12 fun K hK => ?_
    have hO := OX.out.same (SameOn.of_below (P := fun _ => True) (below_step' (below_step' (Below.refl _ wX) GM.out) GT.out)) trivial (by omega)
    have hB := BX.out.below (below_step' (below_step' (Below.refl _ wX) GM.out) GT.out)
    have k0 := hB 0 _ rfl
    have k1 := hB 1 _ rfl
    have k2 := hB 2 _ rfl
    have f0 := hO.frozen 0
    have f1 := hO.frozen 1
    have f2 := hO.frozen 2
    have HO := Lib.hid hO
    clear hB hO
    go_simp
    clear k0 k1 k2 f0 f1 f2
    refine hK.out _ _ ?_ (fun hHeld => ?_)
    ·exact (set_far3 (by have := BBy.out.size; show y1.heap.size ≠ w.heap.size; omega) (QS.out _ BBT.out))
    clear hK K
    try simp only [Act.put, List.getElem_toArray, List.getElem_cons_zero, List.getElem_cons_succ, List.setIfInBounds_toArray, List.set_cons_zero, List.set_cons_succ]
    refine wpAnyH_done (by kernel_rfl) ?_ _
    go_wp2_with fail
    go_meet
    exact copR_mk (c := ⟨[], List.replicate gl [], List.replicate gl 0⟩) (P1 := fun _ => False) (pb := y1.heap.size) HSZ.out (below_step' HY.out BBT.out) (by omega) HO.out (.nil _ _ _ _ _) (RM.out.later (below_step' (Below.refl _ wM) GT.out)) (RT.out.later (Below.refl _ wT)) (fun k a => a.elim) (fun k a => ⟨by omega, by omega⟩) (fun k a => ⟨by omega, by omega⟩) (fun k a b => a.elim) (fun k a b => a.elim) (fun k a b => by omega)
   ·go_simp
    obtain ⟨wT, hwT⟩ : ∃ x, x = wX.alloc (.cells (madeCells #[.int .i64 0] gl) 3) := ⟨_, rfl⟩
    have RT := Lib.hid (show Holds True (fun q => q = wX.heap.size) wT (.slice (some ⟨wX.heap.size, 0, none⟩) gl gl) (dInts (List.replicate gl 0)) from by rw [hwT]; exact made_ints gl hgl5 wX)
    have GT := Lib.hid (show Below wX.heap.size wX wT from by rw [hwT]; exact below_new _ _)
    have BBT := Lib.hid (below_step' BBX.out GT.out)
    have SZT : wX.heap.size + 1 ≤ wT.heap.size := by rw [hwT]; simp
    rw [← hwT]
    clear hwT
    refine hK.out _ _ ?_ (fun hHeld => ?_)
    ·exact QS.out _ BBT.out
    clear hK K
    try simp only [Act.put, List.getElem_toArray, List.getElem_cons_zero, List.getElem_cons_succ, List.setIfInBounds_toArray, List.set_cons_zero, List.set_cons_succ]
    refine rd 4 fun K hK => ?_
    go_simp
    obtain ⟨wM, hwM⟩ : ∃ x, x = wT.alloc (.cells (madeCells #[.slice none 0 0] gl) 51) := ⟨_, rfl⟩
    have RM := Lib.hid (show Holds True (fun q => q = wT.heap.size) wM (.slice (some ⟨wT.heap.size, 0, none⟩) gl gl) (dLls (List.replicate gl [])) from by rw [hwM]; exact made_lls gl hgl5 wT)
    have GM := Lib.hid (show Below wT.heap.size wT wM from by rw [hwM]; exact below_new _ _)
    have BBM := Lib.hid (below_step' BBT.out GM.out)
    have SZM : wT.heap.size + 1 ≤ wM.heap.size := by rw [hwM]; simp
    rw [← hwM]
    clear hwM
    refine hK.out _ _ ?_ (fun hHeld => ?_)
    ·exact QS.out _ BBM.out
    clear hK K
    try simp only [Act.put, List.getElem_toArray, List.getElem_cons_zero, List.getElem_cons_succ, List.setIfInBounds_toArray, List.set_cons_zero, List.set_cons_succ]
    refine tq 10 ?_
    refine rd 12 fun K hK => ?_
    have hO := OX.out.same (SameOn.of_below (P := fun _ => True) (below_step' (below_step' (Below.refl _ wX) GT.out) GM.out)) trivial (by omega)
    have hB := BX.out.below (below_step' (below_step' (Below.refl _ wX) GT.out) GM.out)
    have k0 := hB 0 _ rfl
    have k1 := hB 1 _ rfl
    have k2 := hB 2 _ rfl
    have f0 := hO.frozen 0
    have f1 := hO.frozen 1
    have f2 := hO.frozen 2
    have HO := Lib.hid hO
    clear hB hO
    go_simp
    clear k0 k1 k2 f0 f1 f2
    refine hK.out _ _ ?_ (fun hHeld => ?_)
    ·exact (set_far3 (by have := BBy.out.size; show y1.heap.size ≠ w.heap.size; omega) (QS.out _ BBM.out))
    clear hK K
    try simp only [Act.put, List.getElem_toArray, List.getElem_cons_zero, List.getElem_cons_succ, List.setIfInBounds_toArray, List.set_cons_zero, List.set_cons_succ]
    refine wpAnyH_done (by kernel_rfl) ?_ _
    go_wp2_with fail
    go_meet
    exact copR_mk (c := ⟨[], List.replicate gl [], List.replicate gl 0⟩) (P1 := fun _ => False) (pb := y1.heap.size) HSZ.out (below_step' HY.out BBM.out) (by omega) HO.out (.nil _ _ _ _ _) (RM.out.later (Below.refl _ wM)) (RT.out.later (below_step' (Below.refl _ wT) GM.out)) (fun k a => a.elim) (fun k a => ⟨by omega, by omega⟩) (fun k a => ⟨by omega, by omega⟩) (fun k a b => a.elim) (fun k a b => a.elim) (fun k a b => by omega)
 case rest =>
  obtain ⟨⟨pb, lb, aA, aN, cA, cN, rfl, hpb, hpx, hp, hop, hL⟩, hbel⟩ := hcut
  obtain ⟨y2, hy2⟩ : ∃ y, y = wc := ⟨_, rfl⟩
  subst hy2
  have k2 := X0.out.below hbel 2 _ rfl
  have HP2 := Lib.hid hp
  have HO2 := Lib.hid hop
  have HL2 := Lib.hid hL
  have BY2 := Lib.hid hbel
  obtain ⟨iq, hiq, hzq, hsq, hbq⟩ := info_parts infoInt
  clear hp hop hL hbel
  go_wp2_with fail
  clear k2
  go_loopw [20] (fun i wr => ∃ (j : Nat) (xa : Option Addr) (xc : Nat), i = .int .i64 j ∧ j ≤ tl ∧ BoxAt pb [.slice xa j xc, .slice (some ⟨lb, 0, none⟩) gl gl, .slice aN gl cN] wr ∧ OpenRow wr pb 1 3 ∧ HoldsL True (fun q => y0.heap.size ≤ q ∧ q ≠ pb) wr [.slice xa j xc, .slice (some ⟨lb, 0, none⟩) gl gl, .slice aN gl cN] (Cf.mk ((A.t.take j).map Nd.start) (List.replicate gl []) (List.replicate gl 0)).d ∧ Below y0.heap.size y0 wr) (fun i _ => tl - (intOf i).toNat)
  case atStart => exact ⟨0, aA, cA, rfl, by omega, HP2.out, HO2.out, HL2.out, BY2.out⟩
  case round =>
   obtain ⟨j, xa, xc, rfl, hj, hp1, hO1, hL1, hB1⟩ := hrel
   have BY := Lib.hid hB1
   by_cases hj2 : j < tl
   ·have hj2' : (j : Int) < tl := by omega
    obtain ⟨x, hx⟩ := some_of_lt (l := A.t) (i := j) (by rw [← TL.out]; exact hj2)
    obtain ⟨tb, tqo, tcap, vs, e, _, _, g0, g1, hvs⟩ := nd_cells (HT.out.later (below_step' B0.out hB1)) hx
    obtain ⟨va, vc, e2⟩ := slice_of hvs
    subst e2
    simp only [Value.slice.injEq] at e
    obtain ⟨e4, e5, e6⟩ := e
    subst e4
    clear e5 e6
    obtain ⟨xl, hxl⟩ : ∃ n, n = x.states.length := ⟨_, rfl⟩
    rw [← hxl] at g1
    obtain ⟨xs, hxs⟩ : ∃ n, n = x.start := ⟨_, rfl⟩
    rw [← hxs] at g0
    have XS := Lib.hid hxs
    obtain ⟨DS, hds⟩ : ∃ d, d = (A.t.take j).map Nd.start := ⟨_, rfl⟩
    rw [← hds] at hL1
    have DD := Lib.hid hds
    clear hds
    have HX := Lib.hid hx
    have pw : pb < wr.heap.size := World.block_lt_of_cell? wr _ (hp1 0 _ rfl)
    have yw : y0.heap.size ≤ wr.heap.size := hB1.size
    obtain ⟨P1, P2, P3, c1, c2, c3, q1, q2, q3, hd⟩ := cf_openL (hL1.wide (P' := fun q => y0.heap.size ≤ q ∧ q ≠ pb ∧ q < wr.heap.size) (fun q hq h => ⟨h.1, h.2, hq⟩))
    obtain ⟨d12, d13, d23⟩ := hd trivial
    have C1 := Lib.hid c1
    have C2 := Lib.hid c2
    have C3 := Lib.hid c3
    have QQ := Lib.hid (And.intro q1 (And.intro q2 (And.intro q3 (And.intro d12 (And.intro d13 d23)))))
    have HP1 := Lib.hid hp1
    have HO1 := Lib.hid hO1
    have z0 := hp1.below (below_new wr (.cells #[.int .i64 xs, .slice va xl vc] 80)) 0 _ rfl
    have HPw : Hid (∀ k, P1 k → y0.heap.size ≤ k) := Lib.hid (fun k h => (QQ.out.1 k h).1)
    clear hx hvs hxl hxs hp1 hO1 hL1 hB1 c1 c2 c3 q1 q2 q3 hd d12 d13 d23
    go_wp2_with (at_builtin; refine appLK rfl _ _ 28 3 iq (.int .i64 0) 1 8 rfl Try.underlying28 hiq hzq hsq hbq rfl (by decide) P1 (fun _ => False) y0 (below_step' BY.out (below_step' (below_new wr _) (below_new _ _))) HPw.out xa j xc (DS.map fun a => [dI a]) [[dI xs]] 1 1 (j + 1) rfl (C1.out.later (below_step' (below_new wr _) (below_new _ _))) (some ⟨wr.heap.size + 1, 0, none⟩) rfl [.int .i64 xs] (fun a ha j u hu => by cases ha; exact news_new (w := wr.alloc (.cells #[.int .i64 xs, .slice va xl vc] 80)) (vs := [.int .i64 xs]) (T := 3) _ (by rw [size_alloc]) j u hu) (fun h => by cases h) (by intro ds hds; simp at hds; subst hds; rfl) rfl (by rw [List.flatten_cons, List.flatten_nil, List.append_nil]; exact one_intL' _ _) (fun _ h => h.elim) rfl ?c1 ?c2 ?_)
    case c1 => unfold maxLen; omega
    case c2 => omega
    intro ao cv w6 hA hS hB6
    have hSx : SameOn (fun q => ¬ P1 q) wr w6 := (SameOn.of_below (below_step' (below_new wr (.cells #[.int .i64 xs, .slice va xl vc] 80)) (below_new _ (.cells #[.int .i64 xs] 3)))).trans hS
    have np : ¬ P1 pb := fun h => (QQ.out.1 _ h).2.1 rfl
    have hB6x := HP1.out.same hSx np
    have hO6 := HO1.out.same hSx np pw
    have c0 := hB6x 0 _ rfl
    have f0 := hO6.frozen 0
    have hnew : Holds True (fun q => P1 q ∨ wr.heap.size ≤ q) w6 (.slice ao (j + 1) cv) (dInts ((A.t.take (j + 1)).map Nd.start)) := by
     have e : (A.t.take (j + 1)).map Nd.start = DS ++ [xs] := by rw [List.take_add_one, HX.out, List.map_append, XS.out, DD.out]; rfl
     rw [e]
     unfold dInts
     rw [List.map_append]
     exact hA.wide (fun k _ h => by
      rcases h with h | h
      ·exact .inl h
      ·exact .inr (by first | omega | (simp at h; omega)))
    have hcf := cf_mkL (P := fun q => y0.heap.size ≤ q ∧ q ≠ pb) (c := ⟨(A.t.take (j + 1)).map Nd.start, List.replicate gl [], List.replicate gl 0⟩) hnew (C2.out.same (hSx.sub (fun q hq h => QQ.out.2.2.2.1 q h hq))) (C3.out.same (hSx.sub (fun q hq h => QQ.out.2.2.2.2.1 q h hq))) (fun q h => h.elim (fun h => ⟨(QQ.out.1 q h).1, (QQ.out.1 q h).2.1⟩) (fun h => ⟨by omega, by omega⟩)) (fun q h => ⟨(QQ.out.2.1 q h).1, (QQ.out.2.1 q h).2.1⟩) (fun q h => ⟨(QQ.out.2.2.1 q h).1, (QQ.out.2.2.1 q h).2.1⟩) (fun q h h' => h.elim (fun h => QQ.out.2.2.2.1 q h h') (fun h => by have := (QQ.out.2.1 q h').2.2; omega)) (fun q h h' => h.elim (fun h => QQ.out.2.2.2.2.1 q h h') (fun h => by have := (QQ.out.2.2.1 q h').2.2; omega)) QQ.out.2.2.2.2.2
    have hL6 := hcf.same ((SameOn.refl (fun q => y0.heap.size ≤ q ∧ q ≠ pb) w6).set ⟨pb, 0, none⟩ (.slice ao (j + 1) cv) (fun h => h.2 rfl))
    have hB7 : BoxAt pb [.slice ao (j + 1) cv, .slice (some ⟨lb, 0, none⟩) gl gl, .slice aN gl cN] (w6.setCell ⟨pb, 0, none⟩ (.slice ao (j + 1) cv)) := boxAt_set (j := 0) (u := .slice ao (j + 1) cv) hB6x
    have HL6 := Lib.hid hL6
    have HB7 := Lib.hid hB7
    have HO7 := Lib.hid (hO6.set 0 (.slice ao (j + 1) cv))
    have HB6 := Lib.hid (Below.setCell (p := ⟨pb, 0, none⟩) hB6 hpb (.slice ao (j + 1) cv))
    clear hA hS hB6 hSx hB6x hO6 hnew hcf hL6 hB7 np
    go_wp2_with fail
    go_roundw
    case rel => exact ⟨j + 1, ao, cv, by go_num, by omega, HB7.out, HO7.out, HL6.out, HB6.out⟩
    case measure => simp [intOf]; omega
   ·obtain rfl : j = tl := by omega
    have hj3 : ¬ (j : Int) < j := by omega
    have x0 := X1.out.below hB1 0 _ rfl
    have x1 := X1.out.below hB1 1 _ rfl
    have x2 := X1.out.below hB1 2 _ rfl
    have hO9 := O1.out.same (SameOn.of_below (P := fun _ => True) hB1) trivial (by have := Y0z.out; omega)
    have f0 := hO9.frozen 0
    have f1 := hO9.frozen 1
    have f2 := hO9.frozen 2
    have p0 := hp1 0 _ rfl
    have p1 := hp1 1 _ rfl
    have p2 := hp1 2 _ rfl
    have he : (⟨(A.t.take j).map Nd.start, List.replicate gl [], List.replicate gl 0⟩ : Cf) = startOf A := by
     have e1 : A.t.take j = A.t := List.take_of_length_le (by have := TL.out; omega)
     have e2 : List.replicate gl ([] : Lks) = A.l.map fun _ => [] := by rw [GL.out]; exact (List.map_const' ..).symm
     have e3 : List.replicate gl (0 : Int) = A.l.map fun _ => 0 := by rw [GL.out]; exact (List.map_const' ..).symm
     unfold startOf
     rw [e1, e2, e3]
    rw [he] at hL1
    have HL9 := Lib.hid hL1
    have HO9 := Lib.hid hO9
    clear hL1 hB1 hp1 hO1 hO9 he
    go_wp2_with fail
    obtain ⟨w9, hw9⟩ : ∃ x, x = ((wr.setCell ⟨w.heap.size + 1, 0, none⟩ (.slice xa j xc)).setCell ⟨w.heap.size + 1, 1, none⟩ (.slice (some ⟨lb, 0, none⟩) gl gl)).setCell ⟨w.heap.size + 1, 2, none⟩ (.slice aN gl cN) := ⟨_, rfl⟩
    have hB9 : BoxAt (w.heap.size + 1) [.slice xa j xc, .slice (some ⟨lb, 0, none⟩) gl gl, .slice aN gl cN] w9 := by rw [hw9]; exact box3_at HO9.out
    have hs9 : SameOn (fun q => y0.heap.size ≤ q ∧ q ≠ pb) wr w9 := by rw [hw9]; exact box3_same (fun h => by have h1 := h.1; have := Y0z.out; omega)
    have hL9 := (HL9.out.same hs9).wide (P' := fresh w) (fun q _ h => by have h1 := h.1; have := Y0z.out; show w.heap.size ≤ q; omega)
    have hb9 : Below w.heap.size w w9 := by
     rw [hw9]
     exact (((below_step' B0.out BY.out).setCell (by show w.heap.size ≤ w.heap.size + 1; omega) _).setCell (by show w.heap.size ≤ w.heap.size + 1; omega) _).setCell (by show w.heap.size ≤ w.heap.size + 1; omega) _
    have r0 := hB9 0 _ rfl
    have r1 := hB9 1 _ rfl
    have r2 := hB9 2 _ rfl
    rw [← hw9]
    refine bodyPost_ret (v := .agg #[.slice xa j xc, .slice (some ⟨lb, 0, none⟩) gl gl, .slice aN gl cN]) (by simp [results, Try.results23, go_sem, r0, r1, r2]) rfl ?_
    exact ⟨_, _, _, rfl, hL9, hb9⟩
end Go.Proofs.Ytiblcpkejhiehaa

