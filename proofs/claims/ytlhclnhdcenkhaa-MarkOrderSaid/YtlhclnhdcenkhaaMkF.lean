/- Marks: Repeat of truth values. -/
import Derived.Test.YtlhclnhdcenkhaaMkA
import Derived.Laws.CopyOwn
import Derived.Laws.MakeOwn
import Derived.Deep.RegionLaw
set_option linter.unusedSimpArgs false
set_option linter.unusedVariables false
set_option maxRecDepth 100000
namespace Go.Proofs.Ytlhclnhdcenkhaa
open Go.RowKit Go.PlainAid

theorem bits_mul64 (N : Nat) (w : World) (h0 : 1 ≤ N) (h6 : N ≤ 6) : Calls Try.prog 47 #[.int .u64 1, .int .u64 (N : Int)] w fun e w' => e = .returned (.tuple #[.int .u64 0, .int .u64 (N : Int)]) ∧ w = w' := by
  have h : N = 1 ∨ N = 2 ∨ N = 3 ∨ N = 4 ∨ N = 5 ∨ N = 6 := by omega
  rcases h with rfl | rfl | rfl | rfl | rfl | rfl
  all_goals
    go_enter Try.func47, Try.ntmps47
    go_wp2_with fail
    go_ret2
    exact ⟨by kernel_rfl, rfl⟩
theorem bits_mul (N : Nat) (w : World) (h0 : 1 ≤ N) (h6 : N ≤ 6) : Calls Try.prog 40 #[.int .u64 1, .int .u64 (N : Int)] w fun e w' => e = .returned (.tuple #[.int .u64 0, .int .u64 (N : Int)]) ∧ w = w' := by
  go_enter Try.func40, Try.ntmps40
  go_wp2_with fail
  refine (bits_mul64 N _ h0 h6).mono ?_
  rintro e w' ⟨rfl, rfl⟩
  go_wp2_with fail
  go_ret2
  exact ⟨rfl, rfl⟩
theorem make_bools (n : Nat) (h : n ≤ 1000000) (w : World) : (Instr.makeSlice 28 (.int .i64 (n : Int)) (.int .i64 (n : Int))).run Try.prog w = .ok (.slice (some ⟨w.heap.size, 0, none⟩) n n) (w.alloc (.cells (madeCells #[.bool false] n) 4)) := by
  obtain ⟨i, hi, hz, h1, h2⟩ := info_parts infoBool
  have := run_make (P := Try.prog) w 28 4 i (.bool false) Try.underlying28 hi hz .i64 .i64 n n (by omega) (by omega) (by rw [h2]; omega) (by omega)
  rw [this, h1]
  simp [Value.cells]
/-- A row: its first k cells hold -1, the others 0. -/
def mixB (N k : Nat) : List Value := List.replicate k (.bool true) ++ List.replicate (N - k) (.bool false)
theorem mixB_length {N k : Nat} (h : k ≤ N) : (mixB N k).length = N := by unfold mixB; simp; omega
theorem mixB_splice {N k m : Nat} (h : k + m ≤ N) : splice (mixB N k) k (List.replicate m (.bool true)) = mixB N (k + m) := by
  unfold splice mixB
  rw [List.take_left' (by simp), List.length_replicate, List.drop_append, List.drop_eq_nil_of_le (by simp), List.nil_append, List.length_replicate, List.drop_replicate, ← List.append_assoc, List.replicate_append_replicate]
  congr 2
  omega
theorem mixB_made (N : Nat) : madeCells #[.bool false] N = (mixB N 0).toArray := by
  unfold mixB madeCells
  apply Array.ext
  · simp
  · intro i h1 h2
    simp [Nat.mod_one]

set_option maxHeartbeats 400000 in
set_option maxRecDepth 100000 in
theorem repeatB_any (b : Nat) (N : Nat) (w : World) (h0 : 1 ≤ N) (h6 : N ≤ 6) (hc : w.cell? ⟨b, 0, none⟩ = some (.bool true)) :
    Calls Try.prog 33 #[.slice (some ⟨b, 0, none⟩) 1 1, .int .i64 (N : Int)] w fun e w' => e = .returned (.slice (some ⟨w.heap.size, 0, none⟩) N N) ∧ w'.heap[w.heap.size]? = some (.cells (mixB N N).toArray 4 (0, 0)) ∧ Below w.heap.size w w' := by
  have hu : IntKind.u64.wrap (N : Int) = (N : Int) := IntWalk.u64_in _ (by omega)
  have hi : IntKind.i64.wrap (N : Int) = (N : Int) := IntWalk.i64_in _ (by omega)
  have hu1 : IntKind.u64.wrap 1 = 1 := by decide
  have hmk := make_bools N (by omega) w
  have hb1 : Below w.heap.size w (w.alloc (.cells (mixB N 0).toArray 4)) := (Below.refl _ w).alloc (Nat.le_refl _) _
  have hg1 : (w.alloc (.cells (mixB N 0).toArray 4)).heap[w.heap.size]? = some (.cells (mixB N 0).toArray 4 (0, 0)) := heap_alloc_new w _
  have hc1 : (w.alloc (.cells (mixB N 0).toArray 4)).cell? ⟨b, 0, none⟩ = some (.bool true) := (World.cell?_alloc_lt _ _ _ (World.block_lt_of_cell? w _ hc)).trans hc
  rw [mixB_made] at hmk
  generalize w.alloc (.cells (mixB N 0).toArray 4) = w1 at hmk hb1 hg1 hc1
  go_enter Try.func33, Try.ntmps33
  go_wp2_with fail
  refine (bits_mul N _ h0 h6).mono ?_
  rintro e w' ⟨rfl, rfl⟩
  go_wp2_with (refine wpList_copy_splice rfl _ _ 28 28 rfl 4 Try.underlying28 (by kernel_rfl) _ _ _ _ _ _ rfl rfl w.heap.size 0 (mixB N 0) 4 hg1 [.bool true] ?k1 ?k2 ?k3 ?k4 w.heap.size w hb1 (Nat.le_refl _) ?_)
  case k1 => rw [List.length_singleton]; simp only [Nat.min_def]; split <;> omega
  case k2 =>
    intro j v hj
    cases j with
    | zero => simp at hj; subst hj; exact hc1
    | succ j => simp at hj
  case k3 => rw [mixB_length (by omega)]; simp; omega
  case k4 => intro v hv; simp at hv; subst hv; rfl
  intro w2 hg2 hb2
  have hg2' := hg2.out
  rw [show ([.bool true] : List Value) = List.replicate 1 (.bool true) from rfl, mixB_splice (by omega), Nat.zero_add] at hg2'
  have HG := Lib.hid hg2'
  clear hg2 hg2'
  go_wp2_with fail
  clear hmk hg1 hb1 hc1
  go_loopw [8] (fun i wr => ∃ k : Nat, i = .int .i64 k ∧ 1 ≤ k ∧ k ≤ N ∧ Below w.heap.size w wr ∧ wr.heap[w.heap.size]? = some (.cells (mixB N k).toArray 4 (0, 0))) (fun i _ => N - (intOf i).toNat)
  case atStart => exact ⟨1, rfl, by omega, h0, hb2, HG.out⟩
  case round =>
    obtain ⟨k, rfl, hk1, hk, hbk, hgk⟩ := hrel
    have Hgk := Lib.hid hgk
    have Hbk := Lib.hid hbk
    clear hgk hbk
    by_cases hlt : k < N
    · have hlt' : (k : Int) < N := by omega
      obtain ⟨m, hm⟩ : ∃ m, m = Nat.min k (N - k) := ⟨_, rfl⟩
      have hm1 : m ≤ k := by rw [hm]; exact Nat.min_le_left _ _
      have hm2 : m ≤ N - k := by rw [hm]; exact Nat.min_le_right _ _
      have hm0 : 1 ≤ m := by rw [hm]; exact Nat.le_min.2 ⟨hk1, by omega⟩
      have A1 : (List.replicate m (Value.bool true)).length = Nat.min k (N - k) := by rw [List.length_replicate, hm]
      have A2 : 0 < (List.replicate m (Value.bool true)).length → ∃ ad, (some (⟨w.heap.size, 0, none⟩ : Addr)) = some ad ∧ ∀ j v, (List.replicate m (Value.bool true))[j]? = some v → wr.drew.cell? (ad.add j) = some v := by
        refine fun _ => ⟨⟨w.heap.size, 0, none⟩, rfl, fun j v hj => ?_⟩
        have hjm : j < m := by have := (List.getElem?_eq_some_iff.1 hj).1; simpa using this
        have hv : v = .bool true := by simp [hjm] at hj; exact hj.symm
        have e : (⟨w.heap.size, 0, none⟩ : Addr).add j = ⟨w.heap.size, j, none⟩ := by unfold Addr.add; split <;> simp_all
        rw [e, hv]
        exact (cell_of_row wr _ j _ _ (0, 0) Hgk.out).trans (by unfold mixB; simp [List.getElem?_append, show j < k by omega])
      have A3 : k + (List.replicate m (Value.bool true)).length ≤ (mixB N k).length := by rw [mixB_length (by omega), List.length_replicate]; omega
      have A4 : ∀ v ∈ List.replicate m (Value.bool true), v.oneCell' = true := fun v hv => by rw [List.eq_of_mem_replicate hv]; rfl
      have B1 := Lib.hid A1
      have B2 := Lib.hid A2
      have B3 := Lib.hid A3
      have B4 := Lib.hid A4
      have Hm := Lib.hid hm
      have hne : ¬ N = k := by omega
      have hww : IntKind.i64.wrap ((k : Int) + (m : Int)) = (k : Int) + (m : Int) := IntWalk.i64_in _ (by omega)
      clear A1 A2 A3 A4 hm
      go_wp2_with fail
      go_region_law (refine step_copy_splice rfl (.tmp 41) (.tmp 44) 28 28 rfl 4 Try.underlying28 (by kernel_rfl) (some ⟨w.heap.size, k, none⟩) (some ⟨w.heap.size, 0, none⟩) (N - k) (N - k) k N (by simp [Act.eval, Act.put]) (by simp [Act.eval, Act.put]) w.heap.size k (mixB N k) 4 (show wr.drew.heap[w.heap.size]? = _ from Hgk.out) (List.replicate m (.bool true)) B1.out (fun h => ⟨rfl, B2.out h⟩) B3.out B4.out w.heap.size w (below_drewN Hbk.out 1) (Nat.le_refl _) ?_; intro w4 hg4 hb4)
      have hg5 := hg4.out
      rw [mixB_splice (by omega)] at hg5
      have HG5 := Lib.hid hg5
      have HB5 := Lib.hid hb4
      clear hg5 hg4 hb4
      try simp [Act.put]
      go_wp2_with fail
      go_roundw
      case rel => exact ⟨k + m, by go_num, by omega, by omega, HB5.out, HG5.out⟩
      case measure => simp [intOf]; omega
    · have hlt' : ¬ (k : Int) < N := by omega
      obtain rfl : N = k := by omega
      go_wp2_with fail
      go_ret
      exact ⟨rfl, Hgk.out, Hbk.out⟩

theorem bits_mul0 (w : World) : Calls Try.prog 40 #[.int .u64 1, .int .u64 0] w fun e w' => e = .returned (.tuple #[.int .u64 0, .int .u64 0]) ∧ w = w' := by
  go_enter Try.func40, Try.ntmps40
  go_wp2_with fail
  refine Calls.mono (R := fun e w' => e = .returned (.tuple #[.int .u64 0, .int .u64 0]) ∧ w = w') ?_ ?_
  · go_enter Try.func47, Try.ntmps47
    go_wp2_with fail
    go_ret2
    exact ⟨by kernel_rfl, rfl⟩
  rintro e w' ⟨rfl, rfl⟩
  go_wp2_with fail
  go_ret2
  exact ⟨rfl, rfl⟩
theorem hold_trues {P : Nat → Prop} {w : World} : ∀ N, HoldsL True P w (List.replicate N (Value.bool true)) (((List.replicate N true).map fun a => [dB a]).flatten) := by
  intro N
  refine ⟨by simp [List.length_flatten, List.map_replicate], fun _ _ => False, fun _ _ h => h.elim, fun _ _ _ _ h => h.elim, fun j c d hc hd => ?_⟩
  have h1 : c = .bool true := by
    have := List.mem_of_getElem? hc
    exact List.eq_of_mem_replicate this
  have h2 : d = dB true := by
    have h := List.mem_of_getElem? hd
    rw [List.mem_flatten] at h
    obtain ⟨l, hl, h⟩ := h
    obtain ⟨x, hx, rfl⟩ := List.mem_map.1 hl
    rw [List.eq_of_mem_replicate hx] at h
    simpa using h
  subst h1 h2
  exact has_bool _ _ _ _
set_option maxHeartbeats 400000 in
theorem rep0_at (a : Option Addr) (w : World) :
    Calls Try.prog 33 #[.slice a 1 1, .int .i64 0] w fun e w' => e = .returned (.slice (some ⟨w.heap.size, 0, none⟩) 0 0) ∧ Below w.heap.size w w' := by
  have hmk := make_bools 0 (by omega) w
  rw [show ((0 : Nat) : Int) = 0 from rfl, show madeCells #[Value.bool false] 0 = #[] from (mixB_made 0).trans rfl] at hmk
  have hg1 : (w.alloc (.cells #[] 4)).heap[w.heap.size]? = some (.cells ([] : List Value).toArray 4 (0, 0)) := heap_alloc_new w _
  have hb1 := below_new w (.cells #[] 4)
  go_enter Try.func33, Try.ntmps33
  go_wp2_with fail
  refine (bits_mul0 _).mono ?_
  rintro e w' ⟨rfl, rfl⟩
  go_wp2_with (refine wpList_copy_nothing rfl _ _ 28 28 rfl 4 Try.underlying28 (by kernel_rfl) _ _ _ _ _ _ rfl rfl (by decide) ?_)
  have B2 := Lib.hid hb1
  clear hg1 hb1 hmk
  obtain ⟨w2, hw2⟩ : ∃ x, x = w.alloc (.cells #[] 4) := ⟨_, rfl⟩
  rw [← hw2] at B2 ⊢
  clear hw2
  go_wp2_with fail
  go_loopw [8] (fun i wr => i = .int .i64 0 ∧ w2 = wr) (fun i _ => 0)
  case atStart => exact ⟨rfl, rfl⟩
  case round =>
    obtain ⟨rfl, rfl⟩ := hrel
    go_wp2_with fail
    go_ret
    exact ⟨rfl, B2.out⟩
theorem repB_at (b N : Nat) (w : World) (h6 : N ≤ 6) (hc : w.cell? ⟨b, 0, none⟩ = some (.bool true)) :
    Calls Try.prog 33 #[.slice (some ⟨b, 0, none⟩) 1 1, .int .i64 (N : Int)] w (LsTold (dBools (List.replicate N true)) w) := by
  by_cases h0 : 1 ≤ N
  · refine (repeatB_any b N w h0 h6 hc).mono ?_
    rintro e w' ⟨rfl, hg, hb⟩
    refine ⟨_, _, _, rfl, ?_, hb⟩
    refine holds_mk (Q := fun _ => False) (xs := (List.replicate N true).map fun a => [dB a]) (by simp) (Nat.le_refl _) hg (Nat.le_refl _) (by unfold maxLen; omega) (by simp [mixB]) rfl (fl_bools _) ?_ (fun _ h => h.elim) (fun h => h)
    have e : (mixB N N).toArray.toList.take (N * 1) = List.replicate N (Value.bool true) := by simp [mixB]
    rw [e]
    exact hold_trues N
  · obtain rfl : N = 0 := by omega
    refine (rep0_at _ w).mono ?_
    rintro e w' ⟨rfl, hb⟩
    exact ⟨_, _, _, rfl, .nil _ _ _ _ _, hb⟩
end Go.Proofs.Ytlhclnhdcenkhaa
