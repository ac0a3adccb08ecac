/- Marks: places, and lists of truth values. -/
import Derived.Test.YtlhclnhdcenkhaaMkA
set_option linter.unusedSimpArgs false
set_option linter.unusedVariables false
set_option maxRecDepth 100000
namespace Go.Proofs.Ytlhclnhdcenkhaa
open Go.RowKit Go.PlainAid

theorem has_at (a : Option Addr) (n c : Nat) (x : Int) (w : World) : Calls Try.prog 24 #[.slice a n c, .int .i64 x] w fun e w' => e = .returned (.bool (inB x n)) ∧ w = w' := by
  by_cases h0 : 0 ≤ x
  · have h1 : (0 : Int) ≤ x := h0
    by_cases h2 : x < (n : Int)
    · have e : inB x n = true := by simp [inB, h0, h2]
      rw [e]
      go_enter Try.func24, Try.ntmps24
      go_wp2_with fail
      go_ret
      exact ⟨rfl, rfl⟩
    · have e : inB x n = false := by simp [inB, h2]
      rw [e]
      go_enter Try.func24, Try.ntmps24
      go_wp2_with fail
      go_ret
      exact ⟨rfl, rfl⟩
  · have e : inB x n = false := by simp [inB, h0]
    rw [e]
    go_enter Try.func24, Try.ntmps24
    go_wp2_with fail
    go_ret
    exact ⟨rfl, rfl⟩
theorem open_at (op : List Bool) (v : Value) (x : Int) (w : World) (h : Has w v (dBools op)) : Calls Try.prog 28 #[v, .int .i64 x] w fun e w' => e = .returned (.bool (openB op x)) ∧ w = w' := by
  obtain ⟨a, c, rfl⟩ := slice_of h
  obtain ⟨n, hn⟩ : ∃ n, n = op.length := ⟨_, rfl⟩
  rw [← hn] at h ⊢
  cases hb : inB x n with
  | true =>
    have hb2 : 0 ≤ x ∧ x < (n : Int) := by simpa [inB] using hb
    obtain ⟨k, rfl⟩ : ∃ k : Nat, x = k := ⟨x.toNat, by omega⟩
    have hk : k < n := by omega
    obtain ⟨b, hb9⟩ := some_of_lt (l := op) (i := k) (by rw [← hn]; exact hk)
    obtain ⟨g, o, rfl, hc⟩ := bl_at h hb9
    have e : openB op (k : Int) = b := by unfold openB; rw [← hn, hb]; simp [List.getD, hb9]
    rw [e]
    have HA := Lib.hid (has_at (some ⟨g, o, none⟩) n c k w)
    rw [hb] at HA
    clear e hb9 hb hn h
    go_enter Try.func28, Try.ntmps28
    go_wp2_with fail
    refine HA.out.mono ?_
    rintro e w1 ⟨rfl, rfl⟩
    go_wp2_with fail
    go_ret
    exact ⟨rfl, rfl⟩
  | false =>
    have e : openB op x = false := by unfold openB; rw [← hn, hb]; rfl
    rw [e]
    have HA := Lib.hid (has_at a n c x w)
    rw [hb] at HA
    clear e hb hn h
    go_enter Try.func28, Try.ntmps28
    go_wp2_with fail
    refine HA.out.mono ?_
    rintro e w1 ⟨rfl, rfl⟩
    go_wp2_with fail
    go_ret
    exact ⟨rfl, rfl⟩
set_option maxHeartbeats 2000000 in
theorem cloneB_at (xs : List Bool) (v : Value) (w : World) (h : Has w v (dBools xs)) (hn : xs.length ≤ 1000000) :
    Calls Try.prog 36 #[v] w (LsTold (dBools xs) w) := by
  obtain ⟨i0, hi0, hz0, hs0, hby0⟩ := info_parts infoBool
  obtain ⟨a1, c1, ee⟩ := slice_of h
  subst ee
  obtain ⟨hlen, hnone, news, hnews, hL⟩ := newsOf h (fl_bools xs) (flat_bools xs)
  obtain ⟨k, hk⟩ : ∃ n, n = xs.length := ⟨_, rfl⟩
  rw [← hk] at h hn hlen hnone ⊢
  have HLN := Lib.hid hlen
  have HNO := Lib.hid hnone
  have HNW := Lib.hid hnews
  have HL := Lib.hid (hL True (fun _ => False))
  have HK := Lib.hid hk
  clear h hk hlen hnone hnews hL
  cases a1 with
  | none =>
    obtain rfl : k = 0 := HNO.out rfl
    obtain rfl : xs = [] := List.eq_nil_of_length_eq_zero HK.out.symm
    go_enter Try.func36, Try.ntmps36
    go_wp2_with fail
    go_ret
    exact ⟨_, _, _, rfl, .nil _ _ _ _ _, Below.refl _ _⟩
  | some ad =>
    go_enter Try.func36, Try.ntmps36
    have BN := Lib.hid (below_new w (.cells #[] 4))
    go_wp2_with (at_builtin; refine appLK rfl _ _ 28 4 i0 (.bool false) 1 1 rfl Try.underlying28 hi0 hz0 hs0 hby0 rfl (by decide) (fun _ => False) (fun _ => False) w BN.out (fun _ h => h.elim) (some ⟨w.heap.size, 0, none⟩) 0 0 [] (xs.map (fun a => [dB a])) k c1 k rfl (.nil _ _ _ _ _) (some ad) rfl news (newsLater HNW.out BN.out) HNO.out (fl_bools xs) HLN.out (HL.out.later BN.out) (fun _ h => h.elim) (Nat.zero_add _) (by unfold maxLen; omega) (by omega) ?_)
    intro ao cv w1 hH hS hB
    have HH := Lib.hid hH
    have BB := Lib.hid hB
    clear hH hS hB
    go_wp2_with fail
    go_ret
    exact ⟨_, _, _, rfl, HH.out.wide (fun q _ hq => by
      have h : q = (w.alloc (.cells #[] 4)).heap.size := by simpa using hq
      show w.heap.size ≤ q
      rw [h, size_new]; omega), BB.out⟩
set_option maxHeartbeats 2000000 in
theorem idxB_at (xs : List Bool) (v : Value) (w : World) (h : Has w v (dBools xs)) (hn : xs.length ≤ 1000000) :
    Calls Try.prog 39 #[v, .bool true] w fun e w' => (∃ i : Int, e = .returned (.int .i64 i) ∧ decide (0 ≤ i) = hasT xs) ∧ w = w' := by
  obtain ⟨a1, c1, ee⟩ := slice_of h
  subst ee
  obtain ⟨n, hx⟩ : ∃ n, n = xs.length := ⟨_, rfl⟩
  rw [← hx] at h hn ⊢
  have H := Lib.hid h
  have HX := Lib.hid hx
  clear h hx
  go_enter Try.func39, Try.ntmps39
  go_wp2_with fail
  go_loopw [8] (fun i wr => ∃ j : Nat, i = .int .i64 j ∧ j ≤ n ∧ hasT (xs.take j) = false ∧ w = wr) (fun i _ => n - (intOf i).toNat)
  case atStart => exact ⟨0, rfl, by omega, rfl, rfl⟩
  case round =>
    obtain ⟨j, rfl, hj, heq, rfl⟩ := hrel
    have EQ := Lib.hid heq
    by_cases hlt : j < n
    · have hlt' : (j : Int) < n := by omega
      obtain ⟨x, hx⟩ := some_of_lt (l := xs) (i := j) (by rw [← HX.out]; exact hlt)
      obtain ⟨b, o, e, x1⟩ := bl_at H.out hx
      subst e
      have TK : Hid (hasT (xs.take (j + 1)) = x) := Lib.hid (by
        unfold hasT at heq ⊢; rw [List.take_add_one, hx, List.contains_append, heq]; cases x <;> simp)
      have ALL : Hid (x = true → hasT xs = true) := Lib.hid (fun e => by subst e; unfold hasT; simp only [List.contains_iff_mem]; exact List.mem_of_getElem? hx)
      clear hx heq
      cases x with
      | true =>
        go_wp2_with fail
        go_ret
        exact ⟨⟨j, rfl, by rw [ALL.out (by simp)]; simp⟩, rfl⟩
      | false =>
        go_wp2_with fail
        go_roundw
        case rel => exact ⟨j + 1, by go_num, by omega, by rw [TK.out], by first | rfl | trivial⟩
        case measure => simp [intOf]; omega
    · obtain rfl : j = n := by omega
      have hj3 : ¬ (j : Int) < j := by omega
      have A9 : Hid (hasT xs = false) := Lib.hid (by
        have h := EQ.out
        rw [List.take_of_length_le (by rw [← HX.out]; exact Nat.le_refl _)] at h
        exact h)
      clear heq
      go_wp2_with fail
      go_ret
      exact ⟨⟨-1, rfl, by rw [A9.out]; simp⟩, rfl⟩
theorem contB_at (xs : List Bool) (v : Value) (w : World) (h : Has w v (dBools xs)) (hn : xs.length ≤ 1000000) :
    Calls Try.prog 32 #[v, .bool true] w fun e w' => e = .returned (.bool (hasT xs)) ∧ w = w' := by
  have HI := Lib.hid (idxB_at xs v w h hn)
  obtain ⟨a1, c1, ee⟩ := slice_of h
  subst ee
  obtain ⟨n, hx⟩ : ∃ n, n = xs.length := ⟨_, rfl⟩
  obtain ⟨t, ht⟩ : ∃ t, t = hasT xs := ⟨_, rfl⟩
  rw [← hx, ← ht] at HI ⊢
  clear h hx ht
  go_enter Try.func32, Try.ntmps32
  go_wp2_with fail
  refine HI.out.mono ?_
  rintro e w1 ⟨⟨i, rfl, hi⟩, rfl⟩
  cases t with
  | true =>
    have hi2 : (0 : Int) ≤ i := by simpa using hi
    clear hi
    go_wp2_with fail
    go_ret
    exact ⟨rfl, rfl⟩
  | false =>
    have hi2 : ¬ (0 : Int) ≤ i := by simpa using hi
    have hi3 : decide ((0 : Int) ≤ i) = false := by simpa using hi
    have hi4 : i < 0 := by omega
    clear hi
    go_wp2_with fail
    go_ret
    exact ⟨rfl, rfl⟩
set_option maxHeartbeats 2000000 in
theorem done_at (m : Mk) (x : Int) (v0 v1 v2 v3 : Value) (w : World) (h : HasL w [v0, v1, v2, v3] m.d) (hs : SmallMk m) :
    Calls Try.prog 17 #[mkv m v0 v1 v2 v3, .int .i64 x] w fun e w' => e = .returned (.bool (doneM m x)) ∧ Below w.heap.size w w' := by
  have HC := Lib.hid (fun (w' : World) (hb : Below w.heap.size w w') => contB_at m.op v0 w' ((mk_has h).1.later hb) hs.b)
  obtain ⟨a0, a1, a2, a3, n0, n1, n2, n3, e0, e1, e2, e3, ee0, ee1, ee2, ee3⟩ := mk_slices h
  subst ee0
  subst ee1
  subst ee2
  subst ee3
  obtain ⟨mb, hmb⟩ : ∃ b, b = hasT m.op := ⟨_, rfl⟩
  have DM : Hid (doneM m x = (decide (m.ep = x) && !mb)) := Lib.hid (by rw [hmb]; rfl)
  rw [← hmb] at HC
  rw [DM.out]
  obtain ⟨ep, hep⟩ : ∃ e, e = m.ep := ⟨_, rfl⟩
  obtain ⟨p0, hp0⟩ : ∃ e, e = m.p.node := ⟨_, rfl⟩
  obtain ⟨p1, hp1⟩ : ∃ e, e = m.p.state := ⟨_, rfl⟩
  obtain ⟨p2, hp2⟩ : ∃ e, e = m.p.steps := ⟨_, rfl⟩
  unfold mkv
  rw [← hep, ← hp0, ← hp1, ← hp2]
  clear h hs hmb DM hep hp0 hp1 hp2
  go_enter Try.func17, Try.ntmps17
  by_cases hx : ep = x
  · have g1 : (ep == x) = true := by simp [hx]
    rw [show decide (ep = x) = true by simp [hx]]
    clear hx
    go_wp2_with fail
    refine (HC.out _ (below_new _ _)).mono ?_
    rintro e w1 ⟨rfl, rfl⟩
    go_wp2_with fail
    go_ret
    exact ⟨by simp, below_new _ _⟩
  · have g1 : (ep == x) = false := by simp [hx]
    rw [show decide (ep = x) = false by simp [hx]]
    clear hx
    go_wp2_with fail
    go_ret
    exact ⟨rfl, below_new _ _⟩
end Go.Proofs.Ytlhclnhdcenkhaa
