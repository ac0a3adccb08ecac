/- allRight at its instances; letters. Written by gen_allright.py. -/
import Derived.Test.YtcopedhoepblpaaPkB
import Derived.BigQuiet
set_option linter.unusedSimpArgs false
set_option linter.unusedVariables false
set_option maxRecDepth 100000
namespace Go.Proofs.Ytcopedhoepblpaa
open Go.RowKit Go.PlainAid

def Idx (b : Bool) (e : Ending) : Prop := ∃ k : Int, e = .returned (.int .i64 k) ∧ (0 ≤ k ↔ b = true)
def sentP (x : Int) : Bool := wi x 0 500
def letP (x : Int) : Bool := wi x 0 3
theorem all_next {α : Type} {pb : α → Bool} {xs : List α} {j : Nat} {x : α} (hx : xs[j]? = some x) : (xs.take (j + 1)).all pb = ((xs.take j).all pb && pb x) := by
  rw [List.take_add_one, hx, List.all_append]; simp
theorem all_no {α : Type} {pb : α → Bool} {xs : List α} {j : Nat} (h : (xs.take (j + 1)).all pb = false) : xs.all pb = false := by
  cases e : xs.all pb with
  | false => rfl
  | true =>
    rw [List.all_eq_true] at e
    have : (xs.take (j + 1)).all pb = true := by rw [List.all_eq_true]; exact fun x hx => e x (List.mem_of_mem_take hx)
    rw [this] at h; cases h
set_option maxHeartbeats 1000000 in
theorem noS_at (B : Nat) (x : Int) (w : World) (hB : w.cell? ⟨B, 0, none⟩ = some (.func (.func 33) #[] #[])) :
    Calls Try.prog 64 #[.int .i64 x, .pointer (some ⟨B, 0, none⟩)] w fun e w' => e = .returned (.bool (!sentP x)) ∧ Below w.heap.size w w' := by
  go_enter Try.func64, Try.ntmps64
  go_wp2_with fail
  refine (sent_at _ _).mono ?_
  rintro e w' ⟨rfl, rfl⟩
  go_wp2_with fail
  go_ret
  exact ⟨rfl, Below.refl _ _⟩
set_option maxHeartbeats 2000000 in
theorem ixS_at (xs : List (Int)) (v : Value) (B : Nat) (w : World) (h : Has w v (dInts xs)) (hn : xs.length ≤ 1000000) (hB : w.cell? ⟨B, 0, none⟩ = some (.func (.func 33) #[] #[])) :
    Calls Try.prog 77 #[v, (.func (.func 64) #[] #[.pointer (some ⟨B, 0, none⟩)])] w fun e w' => Idx (!xs.all sentP) e ∧ Below w.heap.size w w' := by
  obtain ⟨a1, c1, ee⟩ := slice_of h
  subst ee
  obtain ⟨n, hx⟩ : ∃ n, n = xs.length := ⟨_, rfl⟩
  rw [← hx] at h hn ⊢
  have H := Lib.hid h
  have HX := Lib.hid hx
  have HB := Lib.hid hB
  clear h hx hB
  go_enter Try.func77, Try.ntmps77
  go_wp2_with fail
  go_loopw [8] (fun i wr => ∃ j : Nat, i = .int .i64 j ∧ j ≤ n ∧ (xs.take j).all sentP = true ∧ Below w.heap.size w wr) (fun i _ => n - (intOf i).toNat)
  case atStart => exact ⟨0, rfl, by omega, rfl, Below.refl _ _⟩
  case round =>
    obtain ⟨j, rfl, hj, heq, hb⟩ := hrel
    have BW := Lib.hid hb
    have EQ := Lib.hid heq
    have hBr : wr.cell? ⟨B, 0, none⟩ = some (.func (.func 33) #[] #[]) := (hb.cell (World.block_lt_of_cell? w _ HB.out)).trans HB.out
    by_cases hlt : j < n
    · have hlt' : (j : Int) < n := by omega
      obtain ⟨x, hx⟩ := some_of_lt (l := xs) (i := j) (by rw [← HX.out]; exact hlt)
      obtain ⟨b, o, e, x1⟩ := num_at (H.out.later hb) hx
      subst e
      have TK := Lib.hid (all_next (pb := sentP) hx)
      clear hx heq hb
      go_wp2_with fail
      refine (noS_at B x _ hBr).mono ?_
      rintro e w5 ⟨rfl, hb⟩
      have BQ := Lib.hid (below_step' BW.out hb)
      clear hb x1 hBr
      cases q : sentP x with
      | true =>
        have Q := Lib.hid q
        clear q
        (try rw [Q.out])
        go_wp2_with fail
        go_roundw
        case rel => exact ⟨j + 1, by go_num, by omega, by rw [TK.out, EQ.out, Q.out]; rfl, BQ.out⟩
        case measure => simp [intOf]; omega
      | false =>
        have Q := Lib.hid q
        have A9 : Hid ((!xs.all sentP) = true) := Lib.hid (by rw [Bool.not_eq_true']; exact all_no (j := j) (by rw [TK.out, EQ.out, Q.out]; rfl))
        clear q
        (try rw [Q.out])
        go_wp2_with fail
        go_ret
        exact ⟨⟨j, rfl, by rw [A9.out]; simp⟩, BQ.out⟩
    · obtain rfl : j = n := by omega
      have hj3 : ¬ (j : Int) < j := by omega
      have A9 : Hid ((!xs.all sentP) = false) := Lib.hid (by
        have h := EQ.out
        rw [List.take_of_length_le (by rw [← HX.out]; exact Nat.le_refl _)] at h
        rw [h]; rfl)
      clear heq hb hBr
      go_wp2_with fail
      go_ret
      exact ⟨⟨-1, rfl, by rw [A9.out]; simp⟩, BW.out⟩
set_option maxHeartbeats 2000000 in
theorem coS_at (xs : List (Int)) (v : Value) (B : Nat) (w : World) (h : Has w v (dInts xs)) (hn : xs.length ≤ 1000000) (hB : w.cell? ⟨B, 0, none⟩ = some (.func (.func 33) #[] #[])) :
    Calls Try.prog 63 #[v, (.func (.func 64) #[] #[.pointer (some ⟨B, 0, none⟩)])] w fun e w' => e = .returned (.bool (!xs.all sentP)) ∧ Below w.heap.size w w' := by
  have IX := Lib.hid (ixS_at xs v B w h hn hB)
  obtain ⟨a1, c1, ee⟩ := slice_of h
  subst ee
  clear h hn hB
  go_enter Try.func63, Try.ntmps63
  go_wp2_with fail
  refine IX.out.mono ?_
  rintro e w' ⟨⟨k, rfl, hk⟩, hb⟩
  have BB := Lib.hid hb
  clear hb
  cases q : (!xs.all sentP) with
  | true =>
    have Q := Lib.hid q
    have hk1 : 0 ≤ k := hk.2 q
    have hk3 : decide (0 ≤ k) = true := by simpa using hk1
    clear hk q
    go_wp2_with fail
    go_ret
    exact ⟨by rw [Q.out]; rfl, BB.out⟩
  | false =>
    have Q := Lib.hid q
    have hk1 : ¬ 0 ≤ k := fun e => by have := hk.1 e; rw [q] at this; cases this
    have hk3 : decide (0 ≤ k) = false := by simpa using hk1
    clear hk q
    go_wp2_with fail
    go_ret
    exact ⟨by rw [Q.out]; rfl, BB.out⟩
set_option maxHeartbeats 2000000 in
theorem arS_at (xs : List (Int)) (v : Value) (most : Nat) (r : Bool) (w : World) (h : Has w v (dInts xs)) (hn : xs.length ≤ 1000000) (hr : r = (decide (xs.length ≤ most) && xs.all sentP)) :
    Calls Try.prog 32 #[v, .int .i64 most, (.func (.func 33) #[] #[])] w fun e w' => e = .returned (.bool r) ∧ Below w.heap.size w w' := by
  have hb0 := below_new w (.cells #[(.func (.func 33) #[] #[])] 67)
  have CO := Lib.hid (coS_at xs v w.heap.size (w.alloc (.cells #[(.func (.func 33) #[] #[])] 67)) (h.later hb0) hn (cell_one_new _ _ _ 0 _ rfl))
  obtain ⟨a1, c1, ee⟩ := slice_of h
  subst ee
  obtain ⟨n, hx⟩ : ∃ n, n = xs.length := ⟨_, rfl⟩
  rw [← hx] at h hn hr CO ⊢
  have HR := Lib.hid hr
  have HB0 := Lib.hid hb0
  clear h hr hx hb0
  by_cases hl : n ≤ most
  · have hl1 : (n : Int) ≤ most := by omega
    have hd : decide (n ≤ most) = true := by simpa using hl
    have HD := Lib.hid hd
    clear hd
    go_enter Try.func32, Try.ntmps32
    go_wp2_with fail
    refine CO.out.mono ?_
    rintro e w' ⟨rfl, hb⟩
    have BB := Lib.hid (below_step' HB0.out hb)
    obtain ⟨q, hq⟩ : ∃ q, q = xs.all sentP := ⟨_, rfl⟩
    obtain rfl : r = q := by rw [HR.out, HD.out, hq]; rfl
    rw [← hq]
    clear hb hq
    cases r with
    | true =>
      go_wp2_with fail
      go_ret
      exact ⟨rfl, BB.out⟩
    | false =>
      go_wp2_with fail
      go_ret
      exact ⟨rfl, BB.out⟩
  · have hl1 : ¬ (n : Int) ≤ most := by omega
    have hl2 : decide (n ≤ most) = false := by simpa using hl
    obtain rfl : r = false := by rw [HR.out, hl2]; rfl
    clear hl2
    go_enter Try.func32, Try.ntmps32
    go_wp2_with fail
    go_ret
    exact ⟨rfl, HB0.out⟩
set_option maxHeartbeats 1000000 in
theorem noL_at (B : Nat) (x : Int) (w : World) (hB : w.cell? ⟨B, 0, none⟩ = some (.func (.func 67) #[] #[])) :
    Calls Try.prog 64 #[.int .i64 x, .pointer (some ⟨B, 0, none⟩)] w fun e w' => e = .returned (.bool (!letP x)) ∧ Below w.heap.size w w' := by
  go_enter Try.func64, Try.ntmps64
  go_wp2_with fail
  refine (letter_at _ _).mono ?_
  rintro e w' ⟨rfl, rfl⟩
  go_wp2_with fail
  go_ret
  exact ⟨rfl, Below.refl _ _⟩
set_option maxHeartbeats 2000000 in
theorem ixL_at (xs : List (Int)) (v : Value) (B : Nat) (w : World) (h : Has w v (dInts xs)) (hn : xs.length ≤ 1000000) (hB : w.cell? ⟨B, 0, none⟩ = some (.func (.func 67) #[] #[])) :
    Calls Try.prog 77 #[v, (.func (.func 64) #[] #[.pointer (some ⟨B, 0, none⟩)])] w fun e w' => Idx (!xs.all letP) e ∧ Below w.heap.size w w' := by
  obtain ⟨a1, c1, ee⟩ := slice_of h
  subst ee
  obtain ⟨n, hx⟩ : ∃ n, n = xs.length := ⟨_, rfl⟩
  rw [← hx] at h hn ⊢
  have H := Lib.hid h
  have HX := Lib.hid hx
  have HB := Lib.hid hB
  clear h hx hB
  go_enter Try.func77, Try.ntmps77
  go_wp2_with fail
  go_loopw [8] (fun i wr => ∃ j : Nat, i = .int .i64 j ∧ j ≤ n ∧ (xs.take j).all letP = true ∧ Below w.heap.size w wr) (fun i _ => n - (intOf i).toNat)
  case atStart => exact ⟨0, rfl, by omega, rfl, Below.refl _ _⟩
  case round =>
    obtain ⟨j, rfl, hj, heq, hb⟩ := hrel
    have BW := Lib.hid hb
    have EQ := Lib.hid heq
    have hBr : wr.cell? ⟨B, 0, none⟩ = some (.func (.func 67) #[] #[]) := (hb.cell (World.block_lt_of_cell? w _ HB.out)).trans HB.out
    by_cases hlt : j < n
    · have hlt' : (j : Int) < n := by omega
      obtain ⟨x, hx⟩ := some_of_lt (l := xs) (i := j) (by rw [← HX.out]; exact hlt)
      obtain ⟨b, o, e, x1⟩ := num_at (H.out.later hb) hx
      subst e
      have TK := Lib.hid (all_next (pb := letP) hx)
      clear hx heq hb
      go_wp2_with fail
      refine (noL_at B x _ hBr).mono ?_
      rintro e w5 ⟨rfl, hb⟩
      have BQ := Lib.hid (below_step' BW.out hb)
      clear hb x1 hBr
      cases q : letP x with
      | true =>
        have Q := Lib.hid q
        clear q
        (try rw [Q.out])
        go_wp2_with fail
        go_roundw
        case rel => exact ⟨j + 1, by go_num, by omega, by rw [TK.out, EQ.out, Q.out]; rfl, BQ.out⟩
        case measure => simp [intOf]; omega
      | false =>
        have Q := Lib.hid q
        have A9 : Hid ((!xs.all letP) = true) := Lib.hid (by rw [Bool.not_eq_true']; exact all_no (j := j) (by rw [TK.out, EQ.out, Q.out]; rfl))
        clear q
        (try rw [Q.out])
        go_wp2_with fail
        go_ret
        exact ⟨⟨j, rfl, by rw [A9.out]; simp⟩, BQ.out⟩
    · obtain rfl : j = n := by omega
      have hj3 : ¬ (j : Int) < j := by omega
      have A9 : Hid ((!xs.all letP) = false) := Lib.hid (by
        have h := EQ.out
        rw [List.take_of_length_le (by rw [← HX.out]; exact Nat.le_refl _)] at h
        rw [h]; rfl)
      clear heq hb hBr
      go_wp2_with fail
      go_ret
      exact ⟨⟨-1, rfl, by rw [A9.out]; simp⟩, BW.out⟩
set_option maxHeartbeats 2000000 in
theorem coL_at (xs : List (Int)) (v : Value) (B : Nat) (w : World) (h : Has w v (dInts xs)) (hn : xs.length ≤ 1000000) (hB : w.cell? ⟨B, 0, none⟩ = some (.func (.func 67) #[] #[])) :
    Calls Try.prog 63 #[v, (.func (.func 64) #[] #[.pointer (some ⟨B, 0, none⟩)])] w fun e w' => e = .returned (.bool (!xs.all letP)) ∧ Below w.heap.size w w' := by
  have IX := Lib.hid (ixL_at xs v B w h hn hB)
  obtain ⟨a1, c1, ee⟩ := slice_of h
  subst ee
  clear h hn hB
  go_enter Try.func63, Try.ntmps63
  go_wp2_with fail
  refine IX.out.mono ?_
  rintro e w' ⟨⟨k, rfl, hk⟩, hb⟩
  have BB := Lib.hid hb
  clear hb
  cases q : (!xs.all letP) with
  | true =>
    have Q := Lib.hid q
    have hk1 : 0 ≤ k := hk.2 q
    have hk3 : decide (0 ≤ k) = true := by simpa using hk1
    clear hk q
    go_wp2_with fail
    go_ret
    exact ⟨by rw [Q.out]; rfl, BB.out⟩
  | false =>
    have Q := Lib.hid q
    have hk1 : ¬ 0 ≤ k := fun e => by have := hk.1 e; rw [q] at this; cases this
    have hk3 : decide (0 ≤ k) = false := by simpa using hk1
    clear hk q
    go_wp2_with fail
    go_ret
    exact ⟨by rw [Q.out]; rfl, BB.out⟩
set_option maxHeartbeats 2000000 in
theorem arL_at (xs : List (Int)) (v : Value) (most : Nat) (r : Bool) (w : World) (h : Has w v (dInts xs)) (hn : xs.length ≤ 1000000) (hr : r = (decide (xs.length ≤ most) && xs.all letP)) :
    Calls Try.prog 32 #[v, .int .i64 most, (.func (.func 67) #[] #[])] w fun e w' => e = .returned (.bool r) ∧ Below w.heap.size w w' := by
  have hb0 := below_new w (.cells #[(.func (.func 67) #[] #[])] 67)
  have CO := Lib.hid (coL_at xs v w.heap.size (w.alloc (.cells #[(.func (.func 67) #[] #[])] 67)) (h.later hb0) hn (cell_one_new _ _ _ 0 _ rfl))
  obtain ⟨a1, c1, ee⟩ := slice_of h
  subst ee
  obtain ⟨n, hx⟩ : ∃ n, n = xs.length := ⟨_, rfl⟩
  rw [← hx] at h hn hr CO ⊢
  have HR := Lib.hid hr
  have HB0 := Lib.hid hb0
  clear h hr hx hb0
  by_cases hl : n ≤ most
  · have hl1 : (n : Int) ≤ most := by omega
    have hd : decide (n ≤ most) = true := by simpa using hl
    have HD := Lib.hid hd
    clear hd
    go_enter Try.func32, Try.ntmps32
    go_wp2_with fail
    refine CO.out.mono ?_
    rintro e w' ⟨rfl, hb⟩
    have BB := Lib.hid (below_step' HB0.out hb)
    obtain ⟨q, hq⟩ : ∃ q, q = xs.all letP := ⟨_, rfl⟩
    obtain rfl : r = q := by rw [HR.out, HD.out, hq]; rfl
    rw [← hq]
    clear hb hq
    cases r with
    | true =>
      go_wp2_with fail
      go_ret
      exact ⟨rfl, BB.out⟩
    | false =>
      go_wp2_with fail
      go_ret
      exact ⟨rfl, BB.out⟩
  · have hl1 : ¬ (n : Int) ≤ most := by omega
    have hl2 : decide (n ≤ most) = false := by simpa using hl
    obtain rfl : r = false := by rw [HR.out, hl2]; rfl
    clear hl2
    go_enter Try.func32, Try.ntmps32
    go_wp2_with fail
    go_ret
    exact ⟨rfl, HB0.out⟩
set_option maxHeartbeats 1000000 in
theorem letters_at (l : List Int) (r : Bool) (v : Value) (w : World) (h : Has w v (dInts l)) (hn : l.length ≤ 1000000) (hr : r = lettersB l) :
    Calls Try.prog 37 #[v] w fun e w' => e = .returned (.bool r) ∧ Below w.heap.size w w' := by
  have AR := Lib.hid (arL_at l v 500 r w h hn (by rw [hr]; rfl))
  obtain ⟨a1, c1, ee⟩ := slice_of h
  subst ee
  clear h hn hr
  go_enter Try.func37, Try.ntmps37
  go_wp2_with fail
  refine AR.out.mono ?_
  rintro e w' ⟨rfl, hb⟩
  have BB := Lib.hid hb
  clear hb
  go_wp2_with fail
  go_ret
  exact ⟨rfl, BB.out⟩
set_option maxHeartbeats 1000000 in
theorem noM_at (B : Nat) (x : Lks) (a : Option Addr) (k c : Nat) (w : World) (hB : w.cell? ⟨B, 0, none⟩ = some (.func (.func 35) #[] #[])) (hv : Has w (.slice a k c) (dLinks x)) (hn : x.length ≤ 1000000) :
    Calls Try.prog 66 #[.slice a k c, .pointer (some ⟨B, 0, none⟩)] w fun e w' => e = .returned (.bool (!(riseB 0) x)) ∧ Below w.heap.size w w' := by
  have HV := Lib.hid hv
  obtain ⟨r, hr⟩ : ∃ r, r = (riseB 0) x := ⟨_, rfl⟩
  have HR := Lib.hid hr
  rw [← hr]
  clear hv hr
  go_enter Try.func66, Try.ntmps66
  go_wp2_with fail
  refine (messages_at x r _ _ HV.out hn HR.out).mono ?_
  rintro e w' ⟨rfl, hb⟩
  have BB := Lib.hid hb
  clear hb hB
  go_wp2_with fail
  go_ret
  exact ⟨rfl, BB.out⟩
set_option maxHeartbeats 2000000 in
theorem ixM_at (xs : List (Lks)) (v : Value) (B : Nat) (w : World) (h : Has w v (dLls xs)) (hn : xs.length ≤ 1000000) (hm : ∀ m ∈ xs, m.length ≤ 1000000) (hB : w.cell? ⟨B, 0, none⟩ = some (.func (.func 35) #[] #[])) :
    Calls Try.prog 78 #[v, (.func (.func 66) #[] #[.pointer (some ⟨B, 0, none⟩)])] w fun e w' => Idx (!xs.all (riseB 0)) e ∧ Below w.heap.size w w' := by
  obtain ⟨a1, c1, ee⟩ := slice_of h
  subst ee
  obtain ⟨n, hx⟩ : ∃ n, n = xs.length := ⟨_, rfl⟩
  rw [← hx] at h hn ⊢
  have H := Lib.hid h
  have HX := Lib.hid hx
  have HM := Lib.hid hm
  have HB := Lib.hid hB
  clear h hx hB hm
  go_enter Try.func78, Try.ntmps78
  go_wp2_with fail
  go_loopw [8] (fun i wr => ∃ j : Nat, i = .int .i64 j ∧ j ≤ n ∧ (xs.take j).all (riseB 0) = true ∧ Below w.heap.size w wr) (fun i _ => n - (intOf i).toNat)
  case atStart => exact ⟨0, rfl, by omega, rfl, Below.refl _ _⟩
  case round =>
    obtain ⟨j, rfl, hj, heq, hb⟩ := hrel
    have BW := Lib.hid hb
    have EQ := Lib.hid heq
    have hBr : wr.cell? ⟨B, 0, none⟩ = some (.func (.func 35) #[] #[]) := (hb.cell (World.block_lt_of_cell? w _ HB.out)).trans HB.out
    by_cases hlt : j < n
    · have hlt' : (j : Int) < n := by omega
      obtain ⟨x, hx⟩ := some_of_lt (l := xs) (i := j) (by rw [← HX.out]; exact hlt)
      obtain ⟨b, o, ma, mc, e, _, e9, x1, hmx⟩ := lls_at (H.out.later hb) hx
      clear e9
      subst e
      obtain ⟨k1, hk1⟩ : ∃ k, k = x.length := ⟨_, rfl⟩
      rw [← hk1] at x1 hmx
      have MX := Lib.hid hmx
      have ML := Lib.hid (HM.out x (List.mem_of_getElem? hx))
      clear hk1 hmx
      have TK := Lib.hid (all_next (pb := (riseB 0)) hx)
      clear hx heq hb
      go_wp2_with fail
      refine (noM_at B x _ _ _ _ hBr MX.out ML.out).mono ?_
      rintro e w5 ⟨rfl, hb⟩
      have BQ := Lib.hid (below_step' BW.out hb)
      clear hb x1 hBr
      cases q : (riseB 0) x with
      | true =>
        have Q := Lib.hid q
        clear q
        (try rw [Q.out])
        go_wp2_with fail
        go_roundw
        case rel => exact ⟨j + 1, by go_num, by omega, by rw [TK.out, EQ.out, Q.out]; rfl, BQ.out⟩
        case measure => simp [intOf]; omega
      | false =>
        have Q := Lib.hid q
        have A9 : Hid ((!xs.all (riseB 0)) = true) := Lib.hid (by rw [Bool.not_eq_true']; exact all_no (j := j) (by rw [TK.out, EQ.out, Q.out]; rfl))
        clear q
        (try rw [Q.out])
        go_wp2_with fail
        go_ret
        exact ⟨⟨j, rfl, by rw [A9.out]; simp⟩, BQ.out⟩
    · obtain rfl : j = n := by omega
      have hj3 : ¬ (j : Int) < j := by omega
      have A9 : Hid ((!xs.all (riseB 0)) = false) := Lib.hid (by
        have h := EQ.out
        rw [List.take_of_length_le (by rw [← HX.out]; exact Nat.le_refl _)] at h
        rw [h]; rfl)
      clear heq hb hBr
      go_wp2_with fail
      go_ret
      exact ⟨⟨-1, rfl, by rw [A9.out]; simp⟩, BW.out⟩
set_option maxHeartbeats 2000000 in
theorem coM_at (xs : List (Lks)) (v : Value) (B : Nat) (w : World) (h : Has w v (dLls xs)) (hn : xs.length ≤ 1000000) (hm : ∀ m ∈ xs, m.length ≤ 1000000) (hB : w.cell? ⟨B, 0, none⟩ = some (.func (.func 35) #[] #[])) :
    Calls Try.prog 65 #[v, (.func (.func 66) #[] #[.pointer (some ⟨B, 0, none⟩)])] w fun e w' => e = .returned (.bool (!xs.all (riseB 0))) ∧ Below w.heap.size w w' := by
  have IX := Lib.hid (ixM_at xs v B w h hn hm hB)
  obtain ⟨a1, c1, ee⟩ := slice_of h
  subst ee
  clear h hn hm hB
  go_enter Try.func65, Try.ntmps65
  go_wp2_with fail
  refine IX.out.mono ?_
  rintro e w' ⟨⟨k, rfl, hk⟩, hb⟩
  have BB := Lib.hid hb
  clear hb
  cases q : (!xs.all (riseB 0)) with
  | true =>
    have Q := Lib.hid q
    have hk1 : 0 ≤ k := hk.2 q
    have hk3 : decide (0 ≤ k) = true := by simpa using hk1
    clear hk q
    go_wp2_with fail
    go_ret
    exact ⟨by rw [Q.out]; rfl, BB.out⟩
  | false =>
    have Q := Lib.hid q
    have hk1 : ¬ 0 ≤ k := fun e => by have := hk.1 e; rw [q] at this; cases this
    have hk3 : decide (0 ≤ k) = false := by simpa using hk1
    clear hk q
    go_wp2_with fail
    go_ret
    exact ⟨by rw [Q.out]; rfl, BB.out⟩
set_option maxHeartbeats 2000000 in
theorem arM_at (xs : List (Lks)) (v : Value) (most : Nat) (r : Bool) (w : World) (h : Has w v (dLls xs)) (hn : xs.length ≤ 1000000) (hm : ∀ m ∈ xs, m.length ≤ 1000000) (hr : r = (decide (xs.length ≤ most) && xs.all (riseB 0))) :
    Calls Try.prog 34 #[v, .int .i64 most, (.func (.func 35) #[] #[])] w fun e w' => e = .returned (.bool r) ∧ Below w.heap.size w w' := by
  have hb0 := below_new w (.cells #[(.func (.func 35) #[] #[])] 69)
  have CO := Lib.hid (coM_at xs v w.heap.size (w.alloc (.cells #[(.func (.func 35) #[] #[])] 69)) (h.later hb0) hn hm (cell_one_new _ _ _ 0 _ rfl))
  obtain ⟨a1, c1, ee⟩ := slice_of h
  subst ee
  obtain ⟨n, hx⟩ : ∃ n, n = xs.length := ⟨_, rfl⟩
  rw [← hx] at h hn hr CO ⊢
  have HR := Lib.hid hr
  have HB0 := Lib.hid hb0
  clear h hr hx hb0 hm
  by_cases hl : n ≤ most
  · have hl1 : (n : Int) ≤ most := by omega
    have hd : decide (n ≤ most) = true := by simpa using hl
    have HD := Lib.hid hd
    clear hd
    go_enter Try.func34, Try.ntmps34
    go_wp2_with fail
    refine CO.out.mono ?_
    rintro e w' ⟨rfl, hb⟩
    have BB := Lib.hid (below_step' HB0.out hb)
    obtain ⟨q, hq⟩ : ∃ q, q = xs.all (riseB 0) := ⟨_, rfl⟩
    obtain rfl : r = q := by rw [HR.out, HD.out, hq]; rfl
    rw [← hq]
    clear hb hq
    cases r with
    | true =>
      go_wp2_with fail
      go_ret
      exact ⟨rfl, BB.out⟩
    | false =>
      go_wp2_with fail
      go_ret
      exact ⟨rfl, BB.out⟩
  · have hl1 : ¬ (n : Int) ≤ most := by omega
    have hl2 : decide (n ≤ most) = false := by simpa using hl
    obtain rfl : r = false := by rw [HR.out, hl2]; rfl
    clear hl2
    go_enter Try.func34, Try.ntmps34
    go_wp2_with fail
    go_ret
    exact ⟨rfl, HB0.out⟩
set_option maxHeartbeats 1000000 in
theorem noO_at (B : Nat) (x : List Int) (a : Option Addr) (k c : Nat) (w : World) (hB : w.cell? ⟨B, 0, none⟩ = some (.func (.func 37) #[] #[])) (hv : Has w (.slice a k c) (dInts x)) (hn : x.length ≤ 1000000) :
    Calls Try.prog 69 #[.slice a k c, .pointer (some ⟨B, 0, none⟩)] w fun e w' => e = .returned (.bool (!lettersB x)) ∧ Below w.heap.size w w' := by
  have HV := Lib.hid hv
  obtain ⟨r, hr⟩ : ∃ r, r = lettersB x := ⟨_, rfl⟩
  have HR := Lib.hid hr
  rw [← hr]
  clear hv hr
  go_enter Try.func69, Try.ntmps69
  go_wp2_with fail
  refine (letters_at x r _ _ HV.out hn HR.out).mono ?_
  rintro e w' ⟨rfl, hb⟩
  have BB := Lib.hid hb
  clear hb hB
  go_wp2_with fail
  go_ret
  exact ⟨rfl, BB.out⟩
set_option maxHeartbeats 2000000 in
theorem ixO_at (xs : List (List Int)) (v : Value) (B : Nat) (w : World) (h : Has w v (dIls xs)) (hn : xs.length ≤ 1000000) (hm : ∀ m ∈ xs, m.length ≤ 1000000) (hB : w.cell? ⟨B, 0, none⟩ = some (.func (.func 37) #[] #[])) :
    Calls Try.prog 79 #[v, (.func (.func 69) #[] #[.pointer (some ⟨B, 0, none⟩)])] w fun e w' => Idx (!xs.all lettersB) e ∧ Below w.heap.size w w' := by
  obtain ⟨a1, c1, ee⟩ := slice_of h
  subst ee
  obtain ⟨n, hx⟩ : ∃ n, n = xs.length := ⟨_, rfl⟩
  rw [← hx] at h hn ⊢
  have H := Lib.hid h
  have HX := Lib.hid hx
  have HM := Lib.hid hm
  have HB := Lib.hid hB
  clear h hx hB hm
  go_enter Try.func79, Try.ntmps79
  go_wp2_with fail
  go_loopw [8] (fun i wr => ∃ j : Nat, i = .int .i64 j ∧ j ≤ n ∧ (xs.take j).all lettersB = true ∧ Below w.heap.size w wr) (fun i _ => n - (intOf i).toNat)
  case atStart => exact ⟨0, rfl, by omega, rfl, Below.refl _ _⟩
  case round =>
    obtain ⟨j, rfl, hj, heq, hb⟩ := hrel
    have BW := Lib.hid hb
    have EQ := Lib.hid heq
    have hBr : wr.cell? ⟨B, 0, none⟩ = some (.func (.func 37) #[] #[]) := (hb.cell (World.block_lt_of_cell? w _ HB.out)).trans HB.out
    by_cases hlt : j < n
    · have hlt' : (j : Int) < n := by omega
      obtain ⟨x, hx⟩ := some_of_lt (l := xs) (i := j) (by rw [← HX.out]; exact hlt)
      obtain ⟨b, o, ma, mc, e, _, e9, x1, hmx⟩ := ils_at (H.out.later hb) hx
      clear e9
      subst e
      obtain ⟨k1, hk1⟩ : ∃ k, k = x.length := ⟨_, rfl⟩
      rw [← hk1] at x1 hmx
      have MX := Lib.hid hmx
      have ML := Lib.hid (HM.out x (List.mem_of_getElem? hx))
      clear hk1 hmx
      have TK := Lib.hid (all_next (pb := lettersB) hx)
      clear hx heq hb
      go_wp2_with fail
      refine (noO_at B x _ _ _ _ hBr MX.out ML.out).mono ?_
      rintro e w5 ⟨rfl, hb⟩
      have BQ := Lib.hid (below_step' BW.out hb)
      clear hb x1 hBr
      cases q : lettersB x with
      | true =>
        have Q := Lib.hid q
        clear q
        (try rw [Q.out])
        go_wp2_with fail
        go_roundw
        case rel => exact ⟨j + 1, by go_num, by omega, by rw [TK.out, EQ.out, Q.out]; rfl, BQ.out⟩
        case measure => simp [intOf]; omega
      | false =>
        have Q := Lib.hid q
        have A9 : Hid ((!xs.all lettersB) = true) := Lib.hid (by rw [Bool.not_eq_true']; exact all_no (j := j) (by rw [TK.out, EQ.out, Q.out]; rfl))
        clear q
        (try rw [Q.out])
        go_wp2_with fail
        go_ret
        exact ⟨⟨j, rfl, by rw [A9.out]; simp⟩, BQ.out⟩
    · obtain rfl : j = n := by omega
      have hj3 : ¬ (j : Int) < j := by omega
      have A9 : Hid ((!xs.all lettersB) = false) := Lib.hid (by
        have h := EQ.out
        rw [List.take_of_length_le (by rw [← HX.out]; exact Nat.le_refl _)] at h
        rw [h]; rfl)
      clear heq hb hBr
      go_wp2_with fail
      go_ret
      exact ⟨⟨-1, rfl, by rw [A9.out]; simp⟩, BW.out⟩
set_option maxHeartbeats 2000000 in
theorem coO_at (xs : List (List Int)) (v : Value) (B : Nat) (w : World) (h : Has w v (dIls xs)) (hn : xs.length ≤ 1000000) (hm : ∀ m ∈ xs, m.length ≤ 1000000) (hB : w.cell? ⟨B, 0, none⟩ = some (.func (.func 37) #[] #[])) :
    Calls Try.prog 68 #[v, (.func (.func 69) #[] #[.pointer (some ⟨B, 0, none⟩)])] w fun e w' => e = .returned (.bool (!xs.all lettersB)) ∧ Below w.heap.size w w' := by
  have IX := Lib.hid (ixO_at xs v B w h hn hm hB)
  obtain ⟨a1, c1, ee⟩ := slice_of h
  subst ee
  clear h hn hm hB
  go_enter Try.func68, Try.ntmps68
  go_wp2_with fail
  refine IX.out.mono ?_
  rintro e w' ⟨⟨k, rfl, hk⟩, hb⟩
  have BB := Lib.hid hb
  clear hb
  cases q : (!xs.all lettersB) with
  | true =>
    have Q := Lib.hid q
    have hk1 : 0 ≤ k := hk.2 q
    have hk3 : decide (0 ≤ k) = true := by simpa using hk1
    clear hk q
    go_wp2_with fail
    go_ret
    exact ⟨by rw [Q.out]; rfl, BB.out⟩
  | false =>
    have Q := Lib.hid q
    have hk1 : ¬ 0 ≤ k := fun e => by have := hk.1 e; rw [q] at this; cases this
    have hk3 : decide (0 ≤ k) = false := by simpa using hk1
    clear hk q
    go_wp2_with fail
    go_ret
    exact ⟨by rw [Q.out]; rfl, BB.out⟩
set_option maxHeartbeats 2000000 in
theorem arO_at (xs : List (List Int)) (v : Value) (most : Nat) (r : Bool) (w : World) (h : Has w v (dIls xs)) (hn : xs.length ≤ 1000000) (hm : ∀ m ∈ xs, m.length ≤ 1000000) (hr : r = (decide (xs.length ≤ most) && xs.all lettersB)) :
    Calls Try.prog 36 #[v, .int .i64 most, (.func (.func 37) #[] #[])] w fun e w' => e = .returned (.bool r) ∧ Below w.heap.size w w' := by
  have hb0 := below_new w (.cells #[(.func (.func 37) #[] #[])] 71)
  have CO := Lib.hid (coO_at xs v w.heap.size (w.alloc (.cells #[(.func (.func 37) #[] #[])] 71)) (h.later hb0) hn hm (cell_one_new _ _ _ 0 _ rfl))
  obtain ⟨a1, c1, ee⟩ := slice_of h
  subst ee
  obtain ⟨n, hx⟩ : ∃ n, n = xs.length := ⟨_, rfl⟩
  rw [← hx] at h hn hr CO ⊢
  have HR := Lib.hid hr
  have HB0 := Lib.hid hb0
  clear h hr hx hb0 hm
  by_cases hl : n ≤ most
  · have hl1 : (n : Int) ≤ most := by omega
    have hd : decide (n ≤ most) = true := by simpa using hl
    have HD := Lib.hid hd
    clear hd
    go_enter Try.func36, Try.ntmps36
    go_wp2_with fail
    refine CO.out.mono ?_
    rintro e w' ⟨rfl, hb⟩
    have BB := Lib.hid (below_step' HB0.out hb)
    obtain ⟨q, hq⟩ : ∃ q, q = xs.all lettersB := ⟨_, rfl⟩
    obtain rfl : r = q := by rw [HR.out, HD.out, hq]; rfl
    rw [← hq]
    clear hb hq
    cases r with
    | true =>
      go_wp2_with fail
      go_ret
      exact ⟨rfl, BB.out⟩
    | false =>
      go_wp2_with fail
      go_ret
      exact ⟨rfl, BB.out⟩
  · have hl1 : ¬ (n : Int) ≤ most := by omega
    have hl2 : decide (n ≤ most) = false := by simpa using hl
    obtain rfl : r = false := by rw [HR.out, hl2]; rfl
    clear hl2
    go_enter Try.func36, Try.ntmps36
    go_wp2_with fail
    go_ret
    exact ⟨rfl, HB0.out⟩
end Go.Proofs.Ytcopedhoepblpaa
