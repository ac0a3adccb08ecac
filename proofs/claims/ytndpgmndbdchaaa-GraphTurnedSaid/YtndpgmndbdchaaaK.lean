/- Same, Contains; slices of integers compared. -/
import Derived.Test.YtndpgmndbdchaaaJ
namespace Go.Proofs.Ytndpgmndbdchaaa
open Go.RowKit Go.PlainAid

set_option maxHeartbeats 1000000 in
theorem same_some (b off len cap b' off' cap' : Nat) (L : Lks) (N : Int) (w : World) (hl : L.length = len) (hb : b < w.heap.size) (hb' : b' < w.heap.size)
    (hc : ∀ i, i < len → w.cell? ⟨b, off + i * 2, none⟩ = some (.int .i64 (lk L i).1) ∧ w.cell? ⟨b, off + i * 2 + 1, none⟩ = some (.int .i64 (lk L i).2))
    (hc' : ∀ i, i < len → w.cell? ⟨b', off' + i * 2, none⟩ = some (.int .i64 (lk L i).1) ∧ w.cell? ⟨b', off' + i * 2 + 1, none⟩ = some (.int .i64 (lk L i).2)) (hlb : len ≤ 1000000) :
    Calls Try.prog 14 #[gv N (.slice (some ⟨b, off, none⟩) len cap), gv N (.slice (some ⟨b', off', none⟩) len cap')] w fun e w' => e = .returned (.bool true) ∧ Below w.heap.size w w' := by
  unfold gv
  obtain ⟨wb, hwb⟩ : ∃ wb, wb = (w.alloc (.cells #[.int .i64 N, .slice (some ⟨b, off, none⟩) len cap] 28)).alloc (.cells #[.int .i64 N, .slice (some ⟨b', off', none⟩) len cap'] 28) := ⟨_, rfl⟩
  have hbel : Below w.heap.size w wb := by rw [hwb]; go_grown
  have hx0 : wb.cell? ⟨w.heap.size, 0, none⟩ = some (.int .i64 N) := by rw [hwb]; go_cell
  have hx1 : wb.cell? ⟨w.heap.size, 1, none⟩ = some (.slice (some ⟨b, off, none⟩) len cap) := by rw [hwb]; go_cell
  have hy0 : wb.cell? ⟨w.heap.size + 1, 0, none⟩ = some (.int .i64 N) := by rw [hwb]; go_cell
  have hy1 : wb.cell? ⟨w.heap.size + 1, 1, none⟩ = some (.slice (some ⟨b', off', none⟩) len cap') := by rw [hwb]; go_cell
  have d : ∀ i, i < len → (wb.cell? ⟨b, off + i * 2, none⟩ = some (.int .i64 (lk L i).1) ∧ wb.cell? ⟨b, off + i * 2 + 1, none⟩ = some (.int .i64 (lk L i).2)) ∧ wb.cell? ⟨b', off' + i * 2, none⟩ = some (.int .i64 (lk L i).1) ∧ wb.cell? ⟨b', off' + i * 2 + 1, none⟩ = some (.int .i64 (lk L i).2) :=
    fun i hi => ⟨⟨(hbel.cell (by exact hb)).trans (hc i hi).1, (hbel.cell (by exact hb)).trans (hc i hi).2⟩, (hbel.cell (by exact hb')).trans (hc' i hi).1, (hbel.cell (by exact hb')).trans (hc' i hi).2⟩
  have D := Lib.hid d
  have Hl := Lib.hid hl
  have Hb := Lib.hid hbel
  clear hc hc' hl hbel d
  go_enter Try.func14, Try.ntmps14
  go_wp2_with fail
  rw [← hwb]
  clear hwb
  go_loopw [5] (fun i wr => ∃ k : Nat, i = .int .i64 k ∧ k ≤ len ∧ ∃ n, wr = wb.drewN n) (fun i _ => len - (intOf i).toNat)
  case atStart => exact ⟨0, rfl, by omega, 0, rfl⟩
  case round =>
    obtain ⟨k, rfl, hk, n, rfl⟩ := hrel
    by_cases hlt : k < len
    · have hlt' : (k : Int) < len := by omega
      obtain ⟨⟨c1, c2⟩, c3, c4⟩ := D.out k hlt
      obtain ⟨x, hx⟩ : ∃ x, x = (lk L k).1 := ⟨_, rfl⟩
      obtain ⟨y, hy⟩ : ∃ y, y = (lk L k).2 := ⟨_, rfl⟩
      rw [← hx] at c1 c3
      rw [← hy] at c2 c4
      clear hx hy
      go_wp2_with fail
      go_quiet (fail)
      go_wp2_with fail
      go_roundw
      case rel => exact ⟨k + 1, by go_num, by omega, _, rfl⟩
      case measure => simp [intOf]; omega
    · have hlt' : ¬ (k : Int) < len := by omega
      go_wp2_with fail
      go_ret
      exact ⟨rfl, below_drewN Hb.out _⟩

theorem same_none (a a' : Option Addr) (cap cap' : Nat) (N : Int) (w : World) :
    Calls Try.prog 14 #[gv N (.slice a 0 cap), gv N (.slice a' 0 cap')] w fun e w' => e = .returned (.bool true) ∧ Below w.heap.size w w' := by
  unfold gv
  go_enter Try.func14, Try.ntmps14
  go_wp2_with fail
  refine wp_loop_rounds 1 ?_
  rw [rounds_succ]
  go_wp2_with fail
  go_ret
  exact ⟨rfl, by go_grown⟩

theorem same_any (N : Int) (v v' : Value) (L : Lks) (w : World) (h : LinksAt w v L) (h' : LinksAt w v' L) (hn : L.length ≤ 1000000) :
    Calls Try.prog 14 #[gv N v, gv N v'] w fun e w' => e = .returned (.bool true) ∧ Below w.heap.size w w' := by
  rcases h with ⟨a, cap, rfl, h0⟩ | ⟨b, off, len, cap, rfl, hl, hp, hb, hlc, hc⟩
  · rcases h' with ⟨a', cap', rfl, h0'⟩ | ⟨b', off', len', cap', rfl, hl', hp', hb', hlc', hc'⟩
    · exact same_none a a' cap cap' N w
    · rw [h0] at hl'; simp at hl'; omega
  · rcases h' with ⟨a', cap', rfl, h0'⟩ | ⟨b', off', len', cap', rfl, hl', hp', hb', hlc', hc'⟩
    · rw [h0'] at hl; simp at hl; omega
    · have : len' = len := by omega
      subst this
      exact same_some b off len' cap b' off' cap' L N w hl hb hb' hc hc' (by omega)

set_option maxHeartbeats 1000000 in
theorem indexI_some (b off len cap : Nat) (xs : List Int) (x : Int) (w : World) (hl : xs.length = len) (hc : ∀ i, i < len → w.cell? ⟨b, off + i, none⟩ = some (.int .i64 (xs.getD i 0))) (hlb : len ≤ 1000000) :
    Calls Try.prog 36 #[.slice (some ⟨b, off, none⟩) len cap, .int .i64 x] w fun e w' => ∃ r : Int, e = .returned (.int .i64 r) ∧ (0 ≤ r ↔ x ∈ xs) ∧ w = w' := by
  have Hc := Lib.hid hc
  have Hl := Lib.hid hl
  clear hc hl
  go_enter Try.func36, Try.ntmps36
  go_wp2_with fail
  go_loopw [8] (fun i wr => ∃ k : Nat, i = .int .i64 k ∧ k ≤ len ∧ (∀ j, j < k → xs.getD j 0 ≠ x) ∧ wr = w) (fun i _ => len - (intOf i).toNat)
  case atStart => exact ⟨0, rfl, by omega, fun j hj => by omega, rfl⟩
  case round =>
    obtain ⟨k, rfl, hk, hno, rfl⟩ := hrel
    have Hs := Lib.hid hno
    clear hno
    by_cases hlt : k < len
    · have hlt' : (k : Int) < len := by omega
      have c1 := Hc.out k hlt
      obtain ⟨e1, he1⟩ : ∃ e1, e1 = xs.getD k 0 := ⟨_, rfl⟩
      rw [← he1] at c1
      have He1 := Lib.hid he1
      clear he1
      by_cases hq : (x == e1) = true
      · have Hq := Lib.hid hq
        go_wp2_with fail
        go_ret
        refine ⟨_, rfl, ⟨fun _ => ?_, fun _ => by omega⟩, rfl⟩
        have hh := Hq.out
        simp only [beq_iff_eq] at hh
        rw [hh, He1.out]
        have hkl : k < xs.length := by rw [Hl.out]; exact hlt
        simp only [List.getD, List.getElem?_eq_getElem hkl, Option.getD_some]
        exact List.getElem_mem hkl
      · have Hq := Lib.hid hq
        have hq' : (x == e1) = false := by simpa using hq
        clear hq
        go_wp2_with fail
        go_roundw
        case rel =>
          refine ⟨k + 1, by go_num, by omega, fun j hj => ?_, trivial⟩
          by_cases hjk : j < k
          · exact Hs.out j hjk
          · obtain rfl : j = k := by omega
            intro h
            apply Hq.out
            rw [He1.out, h]
            simp
        case measure => simp [intOf]; omega
    · have hlt' : ¬ (k : Int) < len := by omega
      go_wp2_with fail
      go_ret
      refine ⟨_, rfl, ⟨fun h => absurd h (by omega), fun h => ?_⟩, rfl⟩
      obtain ⟨i, hi, he⟩ := List.getElem_of_mem h
      exact absurd (by simp [List.getD, hi, he]) (Hs.out i (by rw [Hl.out] at hi; omega))

theorem contains_any (v : Value) (xs : List Int) (x : Int) (w : World) (h : IntsAt w v xs) (hn : xs.length ≤ 1000000) :
    Calls Try.prog 30 #[v, .int .i64 x] w fun e w' => e = .returned (.bool (decide (x ∈ xs))) ∧ w = w' := by
  have hidx : Calls Try.prog 36 #[v, .int .i64 x] w fun e w' => ∃ r : Int, e = .returned (.int .i64 r) ∧ (0 ≤ r ↔ x ∈ xs) ∧ w = w' := by
    rcases h with ⟨a, cap, rfl, rfl⟩ | ⟨b, off, len, cap, rfl, hl, hp, hb, hlc, hc⟩
    · go_enter Try.func36, Try.ntmps36
      go_wp2_with fail
      refine wp_loop_rounds 1 ?_
      rw [rounds_succ]
      go_wp2_with fail
      go_ret
      exact ⟨-1, rfl, by simp, rfl⟩
    · exact indexI_some b off len cap xs x w hl hc (by omega)
  clear h
  go_enter Try.func30, Try.ntmps30
  go_wp2_with fail
  refine hidx.mono ?_
  rintro e w' ⟨r, rfl, hr, rfl⟩
  have hd : decide (0 ≤ r) = decide (x ∈ xs) := by simp only [hr]
  have Hd := Lib.hid hd
  clear hr hidx hd
  go_wp2_with fail
  go_ret
  exact ⟨by rw [← Hd.out]; rfl, rfl⟩
end Go.Proofs.Ytndpgmndbdchaaa
