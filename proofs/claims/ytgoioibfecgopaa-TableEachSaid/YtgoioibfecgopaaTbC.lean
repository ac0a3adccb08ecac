/- A place of a table. -/
import Derived.Test.YtgoioibfecgopaaTbB
import Derived.Test.YtgoioibfecgopaaBa1
import Derived.BigRegion
namespace Go.Proofs.Ytgoioibfecgopaa
open Go.RowKit Go.PlainAid

theorem has_yes (a : Option Addr) (len cap : Nat) (s : Int) (w : World) (h0 : 0 ≤ s) (h1 : s < len) :
    Calls Try.prog 49 #[.slice a len cap, .int .i64 s] w fun e w' => e = .returned (.bool true) ∧ w = w' := by
  have hd : decide (s < len) = true := by simp [h1]
  go_enter Try.func49, Try.ntmps49
  go_wp2_with fail
  go_ret
  exact ⟨rfl, rfl⟩
theorem has_no (a : Option Addr) (len cap : Nat) (s : Int) (w : World) (h : ¬ (0 ≤ s ∧ s < len)) :
    Calls Try.prog 49 #[.slice a len cap, .int .i64 s] w fun e w' => e = .returned (.bool false) ∧ w = w' := by
  by_cases h0 : 0 ≤ s
  · have h1 : ¬ s < len := by omega
    clear h
    go_enter Try.func49, Try.ntmps49
    go_wp2_with fail
    go_ret
    exact ⟨rfl, rfl⟩
  · clear h
    go_enter Try.func49, Try.ntmps49
    go_wp2_with fail
    go_ret
    exact ⟨rfl, rfl⟩

set_option maxHeartbeats 1000000 in
theorem placeOf_cells (b off len cap n : Nat) (b2 off2 len2 cap2 s : Nat) (m : Int) (a1 a2 a3 : Option Addr) (l1 l2 l3 p1 p2 p3 : Nat) (w : World) (hn : n < len) (hs : s < len2) (hb : b < w.heap.size) (hb2 : b2 < w.heap.size)
    (hc : w.cell? ⟨b, off + n * 2 + 1, none⟩ = some (.slice (some ⟨b2, off2, none⟩) len2 cap2))
    (c0 : w.cell? ⟨b2, off2 + s * 4, none⟩ = some (.int .i64 m)) (c1 : w.cell? ⟨b2, off2 + s * 4 + 1, none⟩ = some (.slice a1 l1 p1)) (c2 : w.cell? ⟨b2, off2 + s * 4 + 2, none⟩ = some (.slice a2 l2 p2)) (c3 : w.cell? ⟨b2, off2 + s * 4 + 3, none⟩ = some (.slice a3 l3 p3)) :
    Calls Try.prog 55 #[.slice (some ⟨b, off, none⟩) len cap, .int .i64 n, .int .i64 s] w fun e w' => e = .returned (.agg #[.int .i64 m, .slice a1 l1 p1, .slice a2 l2 p2, .slice a3 l3 p3, .int .i64 n, .slice (some ⟨b2, off2, none⟩) len2 cap2]) ∧ Below w.heap.size w w' := by
  go_enter Try.func55, Try.ntmps55
  go_wp2_with fail
  refine (has_yes _ _ _ _ _ (by omega) (by omega)).mono ?_
  rintro e w' ⟨rfl, rfl⟩
  go_wp2_with fail
  obtain ⟨wa, hwa⟩ : ∃ wa, wa = w.alloc (.cells #[.int .i64 0, .slice none 0 0, .slice none 0 0, .slice none 0 0, .int .i64 0, .slice none 0 0] 130) := ⟨_, rfl⟩
  have Hb := Lib.hid (show Below w.heap.size w wa by rw [hwa]; go_grown)
  have k := (Hb.out.cell (by exact hb)).trans hc
  have k0 := (Hb.out.cell (by exact hb2)).trans c0
  have k1 := (Hb.out.cell (by exact hb2)).trans c1
  have k2 := (Hb.out.cell (by exact hb2)).trans c2
  have k3 := (Hb.out.cell (by exact hb2)).trans c3
  have s0 : wa.cell? ⟨w.heap.size, 0, none⟩ = some (.int .i64 0) := by rw [hwa]; go_cell
  have s1 : wa.cell? ⟨w.heap.size, 1, none⟩ = some (.slice none 0 0) := by rw [hwa]; go_cell
  have s2 : wa.cell? ⟨w.heap.size, 2, none⟩ = some (.slice none 0 0) := by rw [hwa]; go_cell
  have s3 : wa.cell? ⟨w.heap.size, 3, none⟩ = some (.slice none 0 0) := by rw [hwa]; go_cell
  have s4 : wa.cell? ⟨w.heap.size, 4, none⟩ = some (.int .i64 0) := by rw [hwa]; go_cell
  have s5 : wa.cell? ⟨w.heap.size, 5, none⟩ = some (.slice none 0 0) := by rw [hwa]; go_cell
  have f0 : wa.frozen? ⟨w.heap.size, 0, none⟩ = false := by rw [hwa]; go_cell
  have f1 : wa.frozen? ⟨w.heap.size, 1, none⟩ = false := by rw [hwa]; go_cell
  have f2 : wa.frozen? ⟨w.heap.size, 2, none⟩ = false := by rw [hwa]; go_cell
  have f3 : wa.frozen? ⟨w.heap.size, 3, none⟩ = false := by rw [hwa]; go_cell
  have f4 : wa.frozen? ⟨w.heap.size, 4, none⟩ = false := by rw [hwa]; go_cell
  have f5 : wa.frozen? ⟨w.heap.size, 5, none⟩ = false := by rw [hwa]; go_cell
  rw [← hwa]
  clear hwa hc c0 c1 c2 c3
  go_region
  go_wp2_with fail
  refine bodyPost_ret (v := .agg #[.int .i64 m, .slice a1 l1 p1, .slice a2 l2 p2, .slice a3 l3 p3, .int .i64 n, .slice (some ⟨b2, off2, none⟩) len2 cap2]) (by simp [results, Try.results55, go_sem, s0, s1, s2, s3, s4, s5]) rfl ⟨rfl, ?_⟩
  have := Hb.out
  go_grown

def zpl : Value := .agg #[.int .i64 0, .slice none 0 0, .slice none 0 0, .slice none 0 0, .int .i64 0, .slice none 0 0]
set_option maxHeartbeats 1000000 in
theorem placeOf_out (a : Option Addr) (len cap : Nat) (n s : Int) (w : World) (hn : ¬ (0 ≤ n ∧ n < len)) :
    Calls Try.prog 55 #[.slice a len cap, .int .i64 n, .int .i64 s] w fun e w' => e = .returned zpl ∧ Below w.heap.size w w' := by
  by_cases h0 : n < 0
  · clear hn
    go_enter Try.func55, Try.ntmps55
    go_wp2_with fail
    refine bodyPost_ret (v := zpl) (by simp [zpl, results, Try.results55, go_sem]) rfl ⟨rfl, ?_⟩
    go_grown
  · have h1 : (len : Int) ≤ n := by omega
    have h0' : 0 ≤ n := by omega
    clear hn
    go_enter Try.func55, Try.ntmps55
    go_wp2_with fail
    refine bodyPost_ret (v := zpl) (by simp [zpl, results, Try.results55, go_sem]) rfl ⟨rfl, ?_⟩
    go_grown
set_option maxHeartbeats 1000000 in
theorem placeOf_none (b off len cap n : Nat) (a2 : Option Addr) (len2 cap2 : Nat) (s : Int) (w : World) (hn : n < len) (hs : ¬ (0 ≤ s ∧ s < len2)) (hb : b < w.heap.size)
    (hc : w.cell? ⟨b, off + n * 2 + 1, none⟩ = some (.slice a2 len2 cap2)) :
    Calls Try.prog 55 #[.slice (some ⟨b, off, none⟩) len cap, .int .i64 n, .int .i64 s] w fun e w' => e = .returned zpl ∧ Below w.heap.size w w' := by
  go_enter Try.func55, Try.ntmps55
  have Hs := Lib.hid hs
  clear hs
  go_wp2_with fail
  refine (has_no _ _ _ _ _ Hs.out).mono ?_
  rintro e w' ⟨rfl, rfl⟩
  go_wp2_with fail
  refine bodyPost_ret (v := zpl) (by simp [zpl, results, Try.results55, go_sem]) rfl ⟨rfl, ?_⟩
  go_grown

/-- A place, whatever its numbers: its values by name. -/
def IsPl (w : World) (p : Pl) (v : Value) : Prop := ∃ cs, v = .agg ⟨cs⟩ ∧ HasL w cs p.d
theorem placeOf_in (M : Tab) (n s : Int) (v : Value) (w0 w : World) (h : Has w0 v (dTab M)) (h0 : Below w0.heap.size w0 w) :
    Calls Try.prog 55 #[v, .int .i64 n, .int .i64 s] w fun e w' => ∃ u, e = .returned u ∧ IsPl w0 (plAt M n s) u ∧ Below w.heap.size w w' := by
  have hz := h0.size
  by_cases hn : 0 ≤ n ∧ n < M.length
  · obtain ⟨k, rfl⟩ := Int.eq_ofNat_of_zero_le hn.1
    obtain ⟨x, hx⟩ := get_of_lt (l := M) (i := k) (by omega)
    obtain ⟨b, off, cap, vs, rfl, hb, hcap, c0, c1, hS⟩ := nd_cells h hx
    have hnd : ndAt M k = x := by unfold ndAt; simp [List.getD, hx]
    have c1' := (h0.cell (by exact hb)).trans c1
    by_cases hs : 0 ≤ s ∧ s < x.states.length
    · obtain ⟨j, rfl⟩ := Int.eq_ofNat_of_zero_le hs.1
      obtain ⟨t, ht⟩ := get_of_lt (l := x.states) (i := j) (by omega)
      obtain ⟨b2, off2, cap2, v1, v2, v3, rfl, hb2, hcap2, d0, d1, d2, d3, h1, h2, h3⟩ := st_cells hS ht
      obtain ⟨a1, p1, rfl⟩ := slice_of h1
      obtain ⟨a2, p2, rfl⟩ := slice_of h2
      obtain ⟨a3, p3, rfl⟩ := slice_of h3
      rw [plAt_of hx ht]
      refine (placeOf_cells b off M.length cap k b2 off2 x.states.length cap2 j t.mode a1 a2 a3 _ _ _ p1 p2 p3 w (lt_of_get hx) (lt_of_get ht) (Nat.lt_of_lt_of_le hb hz) (Nat.lt_of_lt_of_le hb2 hz) c1' ((h0.cell (by exact hb2)).trans d0) ((h0.cell (by exact hb2)).trans d1) ((h0.cell (by exact hb2)).trans d2) ((h0.cell (by exact hb2)).trans d3)).mono ?_
      rintro e w' ⟨rfl, hbel⟩
      exact ⟨_, rfl, ⟨_, rfl, pl_hasL (p := ⟨t, k, x.states⟩) h1 h2 h3 hS⟩, hbel⟩
    · rw [plAt_no (fun g => hs (by have := g.2.2; rw [hnd] at this; exact this))]
      obtain ⟨a2, p2, rfl⟩ := slice_of hS
      refine (placeOf_none b off M.length cap k a2 _ p2 s w (lt_of_get hx) hs (Nat.lt_of_lt_of_le hb hz) c1').mono ?_
      rintro e w' ⟨rfl, hbel⟩
      exact ⟨_, rfl, ⟨_, rfl, zero_pl _⟩, hbel⟩
  · rw [plAt_no (fun g => hn ⟨g.1, g.2.1⟩)]
    obtain ⟨a, cap, rfl⟩ := slice_of h
    refine (placeOf_out a _ cap n s w hn).mono ?_
    rintro e w' ⟨rfl, hbel⟩
    exact ⟨_, rfl, ⟨_, rfl, zero_pl _⟩, hbel⟩
theorem IsPl.later {w w' : World} {p : Pl} {v : Value} (h : IsPl w p v) (hb : Below w.heap.size w w') : IsPl w' p v := by
  obtain ⟨cs, rfl, hc⟩ := h
  exact ⟨cs, rfl, hc.later hb⟩
theorem placeOf_at (M : Tab) (n s : Int) (v : Value) (w : World) (h : Has w v (dTab M)) :
    Calls Try.prog 55 #[v, .int .i64 n, .int .i64 s] w fun e w' => ∃ u, e = .returned u ∧ IsPl w' (plAt M n s) u ∧ Below w.heap.size w w' := by
  refine (placeOf_in M n s v w w h (Below.refl _ _)).mono ?_
  rintro e w' ⟨u, rfl, hu, hb⟩
  exact ⟨u, rfl, hu.later hb, hb⟩
end Go.Proofs.Ytgoioibfecgopaa
