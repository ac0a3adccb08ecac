/- Right, of both. -/
import Derived.Test.YtegpdfocfohkcaaGrS
namespace Go.Proofs.Ytegpdfocfohkcaa
open Go.RowKit Go.PlainAid Go.Maps

/-- What Right tells. -/
def RightRes (w : World) (N : Int) (L : Lks) (e : Ending) (w' : World) : Prop := ∃ r, e = .returned (.bool r) ∧ (r = true ↔ RightG N L) ∧ Below w.heap.size w w'
theorem RightRes.mk {w w' : World} {N : Int} {L : Lks} {e : Ending} (r : Bool) (h1 : e = .returned (.bool r)) (h2 : r = true ↔ RightG N L) (h3 : Below w.heap.size w w') : RightRes w N L e w' := ⟨r, h1, h2, h3⟩
theorem RightRes.no {w w' : World} {N : Int} {L : Lks} {e : Ending} (h1 : e = .returned (.bool false)) (h2 : ¬ RightG N L) (h3 : Below w.heap.size w w') : RightRes w N L e w' := ⟨false, h1, ⟨fun h => (by cases h), fun h => absurd h h2⟩, h3⟩

theorem paired_none (N : Int) (a : Option Addr) (cap : Nat) (w : World) :
    Calls Try.prog 41 #[gv N (.slice a 0 cap)] w (PairRes w N []) := by
  have hmm := @run_makeMap Try.prog
  unfold gv
  go_enter Try.func41, Try.ntmps41
  go_wp2_with fail
  refine wp_loop_rounds 1 ?_
  rw [rounds_succ]
  go_wp2_with fail
  refine wp_loop_rounds 1 ?_
  rw [rounds_succ]
  go_wp2_with fail
  go_ret
  exact PairRes.mk true rfl ⟨fun _ i hi => by simp at hi, fun _ => rfl⟩ (by go_grown)
theorem paired_any (N : Nat) (v : Value) (L : Lks) (w : World) (h : LinksAt w v L) (hn : L.length ≤ 1000000) (hW : ∀ p ∈ L, wfp p) :
    Calls Try.prog 41 #[gv N v] w (PairRes w N L) := by
  rcases h with ⟨a, cap, rfl, rfl⟩ | ⟨b, off, len, cap, rfl, hl, hp, hb, hlc, hc⟩
  · exact paired_none N a cap w
  · exact paired_some N b off len cap L w hl hb hlc hc (by omega) hW
theorem paired_yes (N : Nat) (v : Value) (L : Lks) (w : World) (h : LinksAt w v L) (hn : L.length ≤ 1000000) (hW : ∀ p ∈ L, wfp p) (hG : RG N L) :
    Calls Try.prog 41 #[gv N v] w fun e w' => e = .returned (.bool true) ∧ Below w.heap.size w w' := by
  refine (paired_any N v L w h hn hW).mono ?_
  rintro e w' ⟨r, rfl, hr, hb⟩
  rw [hr.2 (good_iff.2 hG)]
  exact ⟨rfl, hb⟩
theorem paired_no (N : Nat) (v : Value) (L : Lks) (w : World) (h : LinksAt w v L) (hn : L.length ≤ 1000000) (hW : ∀ p ∈ L, wfp p) (hG : ¬ RG N L) :
    Calls Try.prog 41 #[gv N v] w fun e w' => e = .returned (.bool false) ∧ Below w.heap.size w w' := by
  refine (paired_any N v L w h hn hW).mono ?_
  rintro e w' ⟨r, rfl, hr, hb⟩
  have : r = false := by
    cases r with
    | false => rfl
    | true => exact absurd (good_iff.1 (hr.1 rfl)) hG
  rw [this]
  exact ⟨rfl, hb⟩
theorem dist_zero (N : Nat) (v : Value) (L : Lks) (w : World) (hL : LinksAt w v L) (hR : InR N L) (h1 : 1 ≤ N) (h6 : N ≤ 6) (hn : L.length ≤ 1000000) :
    Calls Try.prog 43 #[gv N v, .int .i64 0] w fun e w' => ∃ u D, e = .returned u ∧ IsDist N L ((0 : Nat) : Int) D ∧ IntsAt w' u D ∧ Below w.heap.size w w' := dist_some N 0 v L w hL hR h1 h6 (by omega) hn

theorem right_no (N : Int) (v : Value) (L : Lks) (w : World) (h : LinksAt w v L) (hN : ¬ (1 ≤ N ∧ N ≤ 6 ∧ L.length ≤ 30)) :
    Calls Try.prog 29 #[gv N v] w (RightRes w N L) := by
  obtain ⟨a, cap, rfl⟩ := h.at
  have hb : Below w.heap.size w (w.alloc (.cells #[.int .i64 N, .slice a L.length cap] 25)) := (Below.refl _ w).alloc (Nat.le_refl _) _
  have HB := Lib.hid hb
  have HNo := Lib.hid (show ¬ RightG N L from fun hr => hN ⟨hr.1, hr.2.1, hr.2.2.1⟩)
  unfold gv
  clear h hb
  by_cases h1 : N < 1
  · clear hN
    go_enter Try.func29, Try.ntmps29
    go_wp2_with fail
    go_ret
    exact RightRes.no rfl HNo.out HB.out
  · by_cases h6 : 6 < N
    · clear hN
      go_enter Try.func29, Try.ntmps29
      go_wp2_with fail
      go_ret
      exact RightRes.no rfl HNo.out HB.out
    · have h30 : 30 < (L.length : Int) := by omega
      clear hN
      go_enter Try.func29, Try.ntmps29
      go_wp2_with fail
      go_ret
      exact RightRes.no rfl HNo.out HB.out

set_option maxHeartbeats 1000000 in
theorem right_yes (N : Nat) (v : Value) (L : Lks) (w : World) (h : LinksAt w v L) (hW : ∀ p ∈ L, wfp p) (h1 : 1 ≤ N) (h6 : N ≤ 6) (h30 : L.length ≤ 30) :
    Calls Try.prog 29 #[gv N v] w (RightRes w N L) := by
  obtain ⟨a, cap, hv⟩ := h.at
  obtain ⟨wb, hwb, hbel, hL, z0, z1, hsz⟩ := boxed N v 25 L w h
  have HB := Lib.hid hbel
  have HL := Lib.hid hL
  have i1 : ¬ (N : Int) < 1 := by omega
  have i6 : ¬ 6 < (N : Int) := by omega
  have i30 : ¬ 30 < (L.length : Int) := by omega
  have HW := Lib.hid hW
  unfold gv
  subst hv
  by_cases hG : RG N L
  · clear h hL hbel hW
    go_enter Try.func29, Try.ntmps29
    go_wp2_with fail
    rw [← hwb]
    clear hwb
    refine (paired_yes N _ L _ HL.out (by omega) HW.out hG).mono ?_
    rintro e w1 ⟨rfl, hb1⟩
    have y0 := (hb1.cell (by exact hsz)).trans z0
    have y1 := (hb1.cell (by exact hsz)).trans z1
    have HL1 := Lib.hid (HL.out.below hb1)
    have HB1 := Lib.hid hb1
    clear hb1
    go_wp2_with fail
    refine (dist_zero N _ L _ HL1.out hG.in h1 h6 (by omega)).mono ?_
    rintro e w2 ⟨u, D, rfl, hD, hI, hb2⟩
    have HD := Lib.hid hD
    have HI := Lib.hid hI
    have HB2 := Lib.hid hb2
    clear hD hI hb2
    go_wp2_with fail
    refine (contains_any u D (-1) _ HI.out (by rw [HD.out.1]; omega)).mono ?_
    rintro e w3 ⟨rfl, rfl⟩
    have HR := Lib.hid (show (!decide ((-1 : Int) ∈ D)) = true ↔ RightG N L from by
      rw [Bool.not_eq_true', decide_eq_false_iff_not, dist_conn HD.out]
      constructor
      · intro hc; exact ⟨by omega, by omega, h30, hG, fun y hy => hc y (by omega)⟩
      · intro hr y hy; exact hr.2.2.2.2 y (by omega))
    obtain ⟨r, hr⟩ : ∃ r, r = decide ((-1 : Int) ∈ D) := ⟨_, rfl⟩
    rw [← hr]
    rw [← hr] at HR
    clear hr
    go_wp2_with fail
    go_ret
    exact RightRes.mk (!r) rfl HR.out (below_step (Nat.le_trans (Nat.le_of_lt hsz) HB1.out.size) (below_step (Nat.le_of_lt hsz) HB.out HB1.out) HB2.out)
  · have HNo := Lib.hid (show ¬ RightG N L from fun hr => hG hr.2.2.2.1)
    clear h hL hbel hW
    go_enter Try.func29, Try.ntmps29
    go_wp2_with fail
    rw [← hwb]
    clear hwb
    refine (paired_no N _ L _ HL.out (by omega) HW.out hG).mono ?_
    rintro e w1 ⟨rfl, hb1⟩
    have HB1 := Lib.hid hb1
    clear hb1
    go_wp2_with fail
    go_ret
    exact RightRes.no rfl HNo.out (below_step (Nat.le_of_lt hsz) HB.out HB1.out)

theorem right_any (N : Int) (v : Value) (L : Lks) (w : World) (h : LinksAt w v L) (hW : ∀ p ∈ L, wfp p) :
    Calls Try.prog 29 #[gv N v] w (RightRes w N L) := by
  by_cases hN : 1 ≤ N ∧ N ≤ 6 ∧ L.length ≤ 30
  · obtain ⟨n, rfl⟩ : ∃ n : Nat, N = (n : Int) := ⟨N.toNat, by omega⟩
    exact right_yes n v L w h hW (by omega) (by omega) hN.2.2
  · exact right_no N v L w h hN
end Go.Proofs.Ytegpdfocfohkcaa
