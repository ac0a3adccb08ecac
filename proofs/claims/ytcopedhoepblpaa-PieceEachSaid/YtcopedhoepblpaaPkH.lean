/- Encode. -/
import Derived.Test.YtcopedhoepblpaaPkG
import Derived.Deep.CutRange
set_option linter.unusedSimpArgs false
set_option linter.unusedVariables false
set_option maxRecDepth 100000
namespace Go.Proofs.Ytcopedhoepblpaa
open Go.RowKit Go.PlainAid

theorem flat_le7 {p : Pc} (h : okB p = true) : (numsOf p).length ≤ 8000 := by
  obtain ⟨_, _, _, h4, h5, h6⟩ := okB_parts h
  have h1 := flat_le (f := msgsN) (c := 1001) p.inn (fun m hm => by have := riseB_len m 0 (h5.2 m hm) (by omega); have h2 := flat_le (f := pairN) (c := 2) m (fun x _ => Nat.le_refl 2); rw [msgsN_eq, List.length_cons]; omega)
  have h2 := flat_le (f := intsN) (c := 501) p.out (fun l hl => by have := (h6.2 l hl).1; unfold intsN; rw [List.length_cons]; omega)
  have h3 : p.inn.length * 1001 ≤ 5 * 1001 := Nat.mul_le_mul_right _ h5.1
  have h7 : p.out.length * 501 ≤ 5 * 501 := Nat.mul_le_mul_right _ h6.1
  simp only [numsOf, intsN, List.length_cons, List.length_append]
  have := h4.1
  omega
set_option maxHeartbeats 4000000 in
theorem encode_at (p : Pc) (v1 v2 v3 : Value) (w : World) (h : HasL w [v1, v2, v3] p.d) (hs : SmallPc p) :
    Calls Try.prog 10 #[pcv p v1 v2 v3] w fun e w' => e = .returned (.tuple #[.string (encR p).1, .int .i64 (encR p).2]) ∧ Below w.heap.size w w' := by
  have RT := fun (r : Bool) (hr : r = okB p) (y : World) (hb : Below w.heap.size w y) => right_at p r v1 v2 v3 y (h.later hb) hs hr
  have NT := fun (hok : okB p = true) (y : World) (hb : Below w.heap.size w y) => nums_at p v1 v2 v3 y (h.later hb) hok
  obtain ⟨a1, a2, a3, n1, n2, n3, e1, e2, e3, ee1, ee2, ee3⟩ := pc_slices h
  subst ee1
  subst ee2
  subst ee3
  have HRT := Lib.hid RT
  have HNT := Lib.hid NT
  clear h hs RT NT
  obtain ⟨m0, hm0⟩ : ∃ m, m = p.node := ⟨_, rfl⟩
  obtain ⟨m1, hm1⟩ : ∃ m, m = p.state := ⟨_, rfl⟩
  obtain ⟨m2, hm2⟩ : ∃ m, m = p.steps := ⟨_, rfl⟩
  unfold pcv at HRT HNT ⊢
  rw [← hm0, ← hm1, ← hm2] at HRT HNT ⊢
  clear hm0 hm1 hm2
  cases hok : okB p with
  | false =>
    have HQ := Lib.hid hok
    have EN : encR p = (strB [], 4) := by unfold encR; rw [if_neg (by rw [hok]; simp)]
    have EN' := Lib.hid EN
    clear hok EN
    go_enter Try.func10, Try.ntmps10
    go_wp2_with fail
    refine (HRT.out false HQ.out.symm _ (below_new _ _)).mono ?_
    rintro e w1 ⟨rfl, hb⟩
    have B1 := Lib.hid (below_step' (below_new _ _) hb)
    clear hb
    go_wp2_with fail
    go_ret2
    exact ⟨by rw [EN'.out]; rfl, B1.out⟩
  | true =>
    have HQ := Lib.hid hok
    have EN : encR p = (strB (putsB (numsOf p)), 0) := by unfold encR; rw [if_pos hok]
    have EN' := Lib.hid EN
    clear hok EN
    go_enter Try.func10, Try.ntmps10
    go_upto_region 1 with fail
    obtain ⟨y0, hy0⟩ : ∃ y, y = w.alloc (.cells #[.int .i64 m0, .int .i64 m1, .int .i64 m2, .slice a1 n1 e1, .slice a2 n2 e2, .slice a3 n3 e3] 26) := ⟨_, rfl⟩
    have hb0 : Below w.heap.size w y0 := by rw [hy0]; exact below_new _ _
    have hx0 : BoxAt w.heap.size [.int .i64 m0, .int .i64 m1, .int .i64 m2, .slice a1 n1 e1, .slice a2 n2 e2, .slice a3 n3 e3] y0 := by rw [hy0]; exact boxAt_new w [.int .i64 m0, .int .i64 m1, .int .i64 m2, .slice a1 n1 e1, .slice a2 n2 e2, .slice a3 n3 e3] _
    have B0 := Lib.hid hb0
    have K0 := Lib.hid hx0
    rw [← hy0]
    clear hy0 hb0 hx0
    have p0 := K0.out 0 _ rfl
    have p1 := K0.out 1 _ rfl
    have p2 := K0.out 2 _ rfl
    have p3 := K0.out 3 _ rfl
    have p4 := K0.out 4 _ rfl
    have p5 := K0.out 5 _ rfl
    go_wp2_with fail
    refine (HRT.out true HQ.out.symm _ B0.out).mono ?_
    rintro e w1 ⟨rfl, hb⟩
    have BW1 := Lib.hid (below_step' B0.out hb)
    have B1 := Lib.hid hb
    clear hb p0 p1 p2 p3 p4 p5
    have p0 := K0.out.below B1.out 0 _ rfl
    have p1 := K0.out.below B1.out 1 _ rfl
    have p2 := K0.out.below B1.out 2 _ rfl
    have p3 := K0.out.below B1.out 3 _ rfl
    have p4 := K0.out.below B1.out 4 _ rfl
    have p5 := K0.out.below B1.out 5 _ rfl
    go_wp2_with fail
    refine (HNT.out HQ.out _ BW1.out).mono ?_
    rintro e w2 ⟨u, rfl, hu, hb⟩
    have BW2 := Lib.hid (below_step' BW1.out hb)
    have PT := Lib.hid (pputs_at _ _ _ hu (by have := flat_le7 HQ.out; omega))
    obtain ⟨ua, uc, e⟩ := slice_of hu
    subst e
    clear hb hu p0 p1 p2 p3 p4 p5
    go_wp2_with fail
    refine PT.out.mono ?_
    rintro e w3 ⟨rfl, hb⟩
    have BW3 := Lib.hid (below_step' BW2.out hb)
    clear hb
    go_wp2_with fail
    go_ret2
    exact ⟨by rw [EN'.out]; rfl, BW3.out⟩
end Go.Proofs.Ytcopedhoepblpaa
