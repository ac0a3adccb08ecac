/- Same, Contains; slices of integers compared. -/
import Derived.Test.YtegpdfocfohkcaaGrJ
namespace Go.Proofs.Ytegpdfocfohkcaa
open Go.RowKit Go.PlainAid

set_option maxHeartbeats 1000000 in
theorem indexI_some (b off len cap : Nat) (xs : List Int) (x : Int) (w : World) (hl : xs.length = len) (hc : ∀ i, i < len → w.cell? ⟨b, off + i, none⟩ = some (.int .i64 (xs.getD i 0))) (hlb : len ≤ 1000000) :
    Calls Try.prog 57 #[.slice (some ⟨b, off, none⟩) len cap, .int .i64 x] w fun e w' => ∃ r : Int, e = .returned (.int .i64 r) ∧ (0 ≤ r ↔ x ∈ xs) ∧ w = w' := by
  have Hc := Lib.hid hc
  have Hl := Lib.hid hl
  clear hc hl
  go_enter Try.func57, Try.ntmps57
  go_wp2_with fail
  go_loopw [8] (fun i wr => ∃ k : Nat, i = .int .i64 k ∧ k ≤ len ∧ (∀ j, j < k → xs.getD j 0 ≠ x) ∧ wr = w) (fun i _ => len - (intOf i).toNat)
  case atStart => exact ⟨0, rfl, by omega, fun j hj => by omega, rfl⟩
  case round =>
    obtain ⟨k, rfl, hk, hno, rfl⟩ := hrel
    have Hs := Lib.hid hno
    clear hno
    by_cases hlt : k < len
    · have hlt' : (k : Int) < len := by omega
      have c1 := Hc.out k hlt
      obtain ⟨e1, he1⟩ : ∃ e1, e1 = xs.getD k 0 := ⟨_, rfl⟩
      rw [← he1] at c1
      have He1 := Lib.hid he1
      clear he1
      by_cases hq : (x == e1) = true
      · have Hq := Lib.hid hq
        go_wp2_with fail
        go_ret
        refine ⟨_, rfl, ⟨fun _ => ?_, fun _ => by omega⟩, rfl⟩
        have hh := Hq.out
        simp only [beq_iff_eq] at hh
        rw [hh, He1.out]
        have hkl : k < xs.length := by rw [Hl.out]; exact hlt
        simp only [List.getD, List.getElem?_eq_getElem hkl, Option.getD_some]
        exact List.getElem_mem hkl
      · have Hq := Lib.hid hq
        have hq' : (x == e1) = false := by simpa using hq
        clear hq
        go_wp2_with fail
        go_roundw
        case rel =>
          refine ⟨k + 1, by go_num, by omega, fun j hj => ?_, trivial⟩
          by_cases hjk : j < k
          · exact Hs.out j hjk
          · obtain rfl : j = k := by omega
            intro h
            apply Hq.out
            rw [He1.out, h]
            simp
        case measure => simp [intOf]; omega
    · have hlt' : ¬ (k : Int) < len := by omega
      go_wp2_with fail
      go_ret
      refine ⟨_, rfl, ⟨fun h => absurd h (by omega), fun h => ?_⟩, rfl⟩
      obtain ⟨i, hi, he⟩ := List.getElem_of_mem h
      exact absurd (by simp [List.getD, hi, he]) (Hs.out i (by rw [Hl.out] at hi; omega))

theorem contains_any (v : Value) (xs : List Int) (x : Int) (w : World) (h : IntsAt w v xs) (hn : xs.length ≤ 1000000) :
    Calls Try.prog 42 #[v, .int .i64 x] w fun e w' => e = .returned (.bool (decide (x ∈ xs))) ∧ w = w' := by
  have hidx : Calls Try.prog 57 #[v, .int .i64 x] w fun e w' => ∃ r : Int, e = .returned (.int .i64 r) ∧ (0 ≤ r ↔ x ∈ xs) ∧ w = w' := by
    rcases h with ⟨a, cap, rfl, rfl⟩ | ⟨b, off, len, cap, rfl, hl, hp, hb, hlc, hc⟩
    · go_enter Try.func57, Try.ntmps57
      go_wp2_with fail
      refine wp_loop_rounds 1 ?_
      rw [rounds_succ]
      go_wp2_with fail
      go_ret
      exact ⟨-1, rfl, by simp, rfl⟩
    · exact indexI_some b off len cap xs x w hl hc (by omega)
  clear h
  go_enter Try.func42, Try.ntmps42
  go_wp2_with fail
  refine hidx.mono ?_
  rintro e w' ⟨r, rfl, hr, rfl⟩
  have hd : decide (0 ≤ r) = decide (x ∈ xs) := by simp only [hr]
  have Hd := Lib.hid hd
  clear hr hidx hd
  go_wp2_with fail
  go_ret
  exact ⟨by rw [← Hd.out]; rfl, rfl⟩
end Go.Proofs.Ytegpdfocfohkcaa
