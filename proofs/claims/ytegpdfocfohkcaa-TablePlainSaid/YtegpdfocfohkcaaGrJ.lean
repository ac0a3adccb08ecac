/- Same, Cut, Ref; Contains. -/
import Derived.Test.YtegpdfocfohkcaaGrI
import Derived.Laws.CopyOwn
import Derived.Laws.MakeOwn
import Derived.Deep.RegionLaw
namespace Go.Proofs.Ytegpdfocfohkcaa
open Go.RowKit Go.PlainAid

theorem ref_slice (N : Int) (a : Option Addr) (len cap : Nat) (w : World) :
    Calls Try.prog 13 #[gv N (.slice a len cap)] w fun e w' => e = .returned (gv N (.slice a len cap)) ∧ Below w.heap.size w w' := by
  unfold gv
  go_enter Try.func13, Try.ntmps13
  go_wp2_with fail
  refine bodyPost_ret (v := .agg #[.int .i64 N, .slice a len cap]) (by simp [results, Try.results13, go_sem]) rfl ⟨rfl, ?_⟩
  go_grown
theorem ref_any (N : Int) (v : Value) (L : Lks) (w : World) (h : LinksAt w v L) :
    Calls Try.prog 13 #[gv N v] w fun e w' => e = .returned (gv N v) ∧ Below w.heap.size w w' := by
  obtain ⟨a, cap, rfl⟩ := h.at
  exact ref_slice N a L.length cap w

theorem lk_take {L : Lks} {m i : Nat} (h : i < m) : lk (L.take m) i = lk L i := by
  unfold lk; simp only [List.getD, List.getElem?_take, if_pos h]
theorem LinksAt.take {w : World} {b off len cap : Nat} {L : Lks} (hl : L.length = len) (hb : b < w.heap.size) (hlc : len ≤ cap)
    (hc : ∀ i, i < len → w.cell? ⟨b, off + i * 2, none⟩ = some (.int .i64 (lk L i).1) ∧ w.cell? ⟨b, off + i * 2 + 1, none⟩ = some (.int .i64 (lk L i).2)) (m : Nat) (hm : m ≤ len) :
    LinksAt w (.slice (some ⟨b, off, none⟩) m cap) (L.take m) := by
  by_cases h0 : m = 0
  · subst h0; exact .inl ⟨_, cap, rfl, by simp⟩
  · exact .inr ⟨b, off, m, cap, rfl, by rw [List.length_take]; omega, by omega, hb, by omega, fun i hi => by rw [lk_take hi]; exact hc i (by omega)⟩

set_option maxHeartbeats 1000000 in
theorem cut_some (b off len cap m : Nat) (N : Int) (w : World) (hlc : len ≤ cap) (hm : (if 40 < (len : Int) then (40 : Int) else (len : Int)) = (m : Int)) (hml : m ≤ len) :
    Calls Try.prog 10 #[gv N (.slice (some ⟨b, off, none⟩) len cap)] w fun e w' => e = .returned (gv N (.slice (some ⟨b, off, none⟩) m cap)) ∧ Below w.heap.size w w' := by
  unfold gv
  go_enter Try.func10, Try.ntmps10
  go_wp2_with fail
  refine bodyPost_ret (v := .agg #[.int .i64 N, .slice (some ⟨b, off, none⟩) m cap]) (by simp [results, Try.results10, go_sem]) rfl ⟨rfl, ?_⟩
  go_grown
theorem cut_none (a : Option Addr) (cap : Nat) (N : Int) (w : World) :
    Calls Try.prog 10 #[gv N (.slice a 0 cap)] w fun e w' => ∃ a' cap', e = .returned (gv N (.slice a' 0 cap')) ∧ Below w.heap.size w w' := by
  unfold gv
  cases a with
  | none =>
    go_enter Try.func10, Try.ntmps10
    go_wp2_with fail
    refine bodyPost_ret (v := .agg #[.int .i64 N, .slice none 0 cap]) (by simp [results, Try.results10, go_sem]) rfl ⟨_, _, rfl, ?_⟩
    go_grown
  | some a =>
    go_enter Try.func10, Try.ntmps10
    go_wp2_with fail
    refine bodyPost_ret (v := .agg #[.int .i64 N, .slice (some a) 0 cap]) (by simp [results, Try.results10, go_sem]) rfl ⟨_, _, rfl, ?_⟩
    go_grown

theorem bits_mul64 (N : Nat) (w : World) (h0 : 1 ≤ N) (h6 : N ≤ 6) : Calls Try.prog 64 #[.int .u64 1, .int .u64 (N : Int)] w fun e w' => e = .returned (.tuple #[.int .u64 0, .int .u64 (N : Int)]) ∧ w = w' := by
  have h : N = 1 ∨ N = 2 ∨ N = 3 ∨ N = 4 ∨ N = 5 ∨ N = 6 := by omega
  rcases h with rfl | rfl | rfl | rfl | rfl | rfl
  all_goals
    go_enter Try.func64, Try.ntmps64
    go_wp2_with fail
    go_ret2
    exact ⟨by kernel_rfl, rfl⟩
theorem bits_mul (N : Nat) (w : World) (h0 : 1 ≤ N) (h6 : N ≤ 6) : Calls Try.prog 61 #[.int .u64 1, .int .u64 (N : Int)] w fun e w' => e = .returned (.tuple #[.int .u64 0, .int .u64 (N : Int)]) ∧ w = w' := by
  go_enter Try.func61, Try.ntmps61
  go_wp2_with fail
  refine (bits_mul64 N _ h0 h6).mono ?_
  rintro e w' ⟨rfl, rfl⟩
  go_wp2_with fail
  go_ret2
  exact ⟨rfl, rfl⟩
theorem make_ints (n : Nat) (h : n ≤ 1000000) (w : World) : (Instr.makeSlice 26 (.int .i64 (n : Int)) (.int .i64 (n : Int))).run Try.prog w = .ok (.slice (some ⟨w.heap.size, 0, none⟩) n n) (w.alloc (.cells (madeCells #[.int .i64 0] n) 3)) := by
  obtain ⟨i, hi, hz, h1, h2⟩ := info_parts infoInt
  have := run_make (P := Try.prog) w 26 3 i (.int .i64 0) Try.underlying26 hi hz .i64 .i64 n n (by omega) (by omega) (by rw [h2]; omega) (by omega)
  rw [this, h1]
  simp [Value.cells]

/-- A row: its first k cells hold -1, the others 0. -/
def mix (N k : Nat) : List Value := List.replicate k (.int .i64 (-1)) ++ List.replicate (N - k) (.int .i64 0)
theorem mix_length {N k : Nat} (h : k ≤ N) : (mix N k).length = N := by unfold mix; simp; omega
theorem mix_splice {N k m : Nat} (h : k + m ≤ N) : splice (mix N k) k (List.replicate m (.int .i64 (-1))) = mix N (k + m) := by
  unfold splice mix
  rw [List.take_left' (by simp), List.length_replicate, List.drop_append, List.drop_eq_nil_of_le (by simp), List.nil_append, List.length_replicate, List.drop_replicate, ← List.append_assoc, List.replicate_append_replicate]
  congr 2
  omega
theorem mix_made (N : Nat) : madeCells #[.int .i64 0] N = (mix N 0).toArray := by
  unfold mix madeCells
  apply Array.ext
  · simp
  · intro i h1 h2
    simp [Nat.mod_one]

set_option maxHeartbeats 400000 in
set_option maxRecDepth 100000 in
theorem repeat_any (b : Nat) (N : Nat) (w : World) (h0 : 1 ≤ N) (h6 : N ≤ 6) (hc : w.cell? ⟨b, 0, none⟩ = some (.int .i64 (-1))) :
    Calls Try.prog 58 #[.slice (some ⟨b, 0, none⟩) 1 1, .int .i64 (N : Int)] w fun e w' => e = .returned (.slice (some ⟨w.heap.size, 0, none⟩) N N) ∧ w'.heap[w.heap.size]? = some (.cells (mix N N).toArray 3 (0, 0)) ∧ Below w.heap.size w w' := by
  have hu : IntKind.u64.wrap (N : Int) = (N : Int) := IntWalk.u64_in _ (by omega)
  have hi : IntKind.i64.wrap (N : Int) = (N : Int) := IntWalk.i64_in _ (by omega)
  have hu1 : IntKind.u64.wrap 1 = 1 := by decide
  have hmk := make_ints N (by omega) w
  have hb1 : Below w.heap.size w (w.alloc (.cells (mix N 0).toArray 3)) := (Below.refl _ w).alloc (Nat.le_refl _) _
  have hg1 : (w.alloc (.cells (mix N 0).toArray 3)).heap[w.heap.size]? = some (.cells (mix N 0).toArray 3 (0, 0)) := heap_alloc_new w _
  have hc1 : (w.alloc (.cells (mix N 0).toArray 3)).cell? ⟨b, 0, none⟩ = some (.int .i64 (-1)) := (World.cell?_alloc_lt _ _ _ (World.block_lt_of_cell? w _ hc)).trans hc
  rw [mix_made] at hmk
  generalize w.alloc (.cells (mix N 0).toArray 3) = w1 at hmk hb1 hg1 hc1
  go_enter Try.func58, Try.ntmps58
  go_wp2_with fail
  refine (bits_mul N _ h0 h6).mono ?_
  rintro e w' ⟨rfl, rfl⟩
  go_wp2_with (refine wpList_copy_splice rfl _ _ 26 26 rfl 3 Try.underlying26 (by kernel_rfl) _ _ _ _ _ _ rfl rfl w.heap.size 0 (mix N 0) 3 hg1 [.int .i64 (-1)] ?k1 ?k2 ?k3 ?k4 w.heap.size w hb1 (Nat.le_refl _) ?_)
  case k1 => rw [List.length_singleton]; simp only [Nat.min_def]; split <;> omega
  case k2 =>
    intro j v hj
    cases j with
    | zero => simp at hj; subst hj; exact hc1
    | succ j => simp at hj
  case k3 => rw [mix_length (by omega)]; simp; omega
  case k4 => intro v hv; simp at hv; subst hv; rfl
  intro w2 hg2 hb2
  have hg2' := hg2.out
  rw [show ([.int .i64 (-1)] : List Value) = List.replicate 1 (.int .i64 (-1)) from rfl, mix_splice (by omega), Nat.zero_add] at hg2'
  have HG := Lib.hid hg2'
  clear hg2 hg2'
  go_wp2_with fail
  clear hmk hg1 hb1 hc1
  go_loopw [8] (fun i wr => ∃ k : Nat, i = .int .i64 k ∧ 1 ≤ k ∧ k ≤ N ∧ Below w.heap.size w wr ∧ wr.heap[w.heap.size]? = some (.cells (mix N k).toArray 3 (0, 0))) (fun i _ => N - (intOf i).toNat)
  case atStart => exact ⟨1, rfl, by omega, h0, hb2, HG.out⟩
  case round =>
    obtain ⟨k, rfl, hk1, hk, hbk, hgk⟩ := hrel
    have Hgk := Lib.hid hgk
    have Hbk := Lib.hid hbk
    clear hgk hbk
    by_cases hlt : k < N
    · have hlt' : (k : Int) < N := by omega
      obtain ⟨m, hm⟩ : ∃ m, m = Nat.min k (N - k) := ⟨_, rfl⟩
      have hm1 : m ≤ k := by rw [hm]; exact Nat.min_le_left _ _
      have hm2 : m ≤ N - k := by rw [hm]; exact Nat.min_le_right _ _
      have hm0 : 1 ≤ m := by rw [hm]; exact Nat.le_min.2 ⟨hk1, by omega⟩
      have A1 : (List.replicate m (Value.int .i64 (-1))).length = Nat.min k (N - k) := by rw [List.length_replicate, hm]
      have A2 : 0 < (List.replicate m (Value.int .i64 (-1))).length → ∃ ad, (some (⟨w.heap.size, 0, none⟩ : Addr)) = some ad ∧ ∀ j v, (List.replicate m (Value.int .i64 (-1)))[j]? = some v → wr.drew.cell? (ad.add j) = some v := by
        refine fun _ => ⟨⟨w.heap.size, 0, none⟩, rfl, fun j v hj => ?_⟩
        have hjm : j < m := by have := (List.getElem?_eq_some_iff.1 hj).1; simpa using this
        have hv : v = .int .i64 (-1) := by simp [hjm] at hj; exact hj.symm
        have e : (⟨w.heap.size, 0, none⟩ : Addr).add j = ⟨w.heap.size, j, none⟩ := by unfold Addr.add; split <;> simp_all
        rw [e, hv]
        exact (cell_of_row wr _ j _ _ (0, 0) Hgk.out).trans (by unfold mix; simp [List.getElem?_append, show j < k by omega])
      have A3 : k + (List.replicate m (Value.int .i64 (-1))).length ≤ (mix N k).length := by rw [mix_length (by omega), List.length_replicate]; omega
      have A4 : ∀ v ∈ List.replicate m (Value.int .i64 (-1)), v.oneCell' = true := fun v hv => by rw [List.eq_of_mem_replicate hv]; rfl
      have B1 := Lib.hid A1
      have B2 := Lib.hid A2
      have B3 := Lib.hid A3
      have B4 := Lib.hid A4
      have Hm := Lib.hid hm
      have hne : ¬ N = k := by omega
      have hww : IntKind.i64.wrap ((k : Int) + (m : Int)) = (k : Int) + (m : Int) := IntWalk.i64_in _ (by omega)
      clear A1 A2 A3 A4 hm
      go_wp2_with fail
      go_region_law (refine step_copy_splice rfl (.tmp 41) (.tmp 44) 26 26 rfl 3 Try.underlying26 (by kernel_rfl) (some ⟨w.heap.size, k, none⟩) (some ⟨w.heap.size, 0, none⟩) (N - k) (N - k) k N (by simp [Act.eval, Act.put]) (by simp [Act.eval, Act.put]) w.heap.size k (mix N k) 3 (show wr.drew.heap[w.heap.size]? = _ from Hgk.out) (List.replicate m (.int .i64 (-1))) B1.out (fun h => ⟨rfl, B2.out h⟩) B3.out B4.out w.heap.size w (below_drewN Hbk.out 1) (Nat.le_refl _) ?_; intro w4 hg4 hb4)
      have hg5 := hg4.out
      rw [mix_splice (by omega)] at hg5
      have HG5 := Lib.hid hg5
      have HB5 := Lib.hid hb4
      clear hg5 hg4 hb4
      try simp [Act.put]
      go_wp2_with fail
      go_roundw
      case rel => exact ⟨k + m, by go_num, by omega, by omega, HB5.out, HG5.out⟩
      case measure => simp [intOf]; omega
    · have hlt' : ¬ (k : Int) < N := by omega
      obtain rfl : N = k := by omega
      go_wp2_with fail
      go_ret
      exact ⟨rfl, Hgk.out, Hbk.out⟩
end Go.Proofs.Ytegpdfocfohkcaa
