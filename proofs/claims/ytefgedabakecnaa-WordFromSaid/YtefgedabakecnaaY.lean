/- The walks of the laws: Once, Texts. -/
import Derived.Test.YtefgedabakecnaaX
import Derived.Deep.RegionHeld3
namespace Go.Proofs.Ytefgedabakecnaa
open Go.RowKit Go.PlainAid

theorem get_to (s : ByteArray) (a : Int) (k n t : Int) (h : getR s a = (k, n, t)) (w : World) (hs : s.size ≤ maxLen) :
    Calls Try.prog 11 #[.string s, .int .i64 a] w fun e w' => e = .returned (.tuple #[.int .i64 n, .int .i64 t, .int .i64 k]) ∧ Below w.heap.size w w' := get_at s a k n t h hs w

/-- Puts of integers in memory, whatever slice. -/
theorem puts_at (v : Value) (xs : List Int) (w : World) (hv : IntsAt w v xs) (hsz : xs.length ≤ 1000000) :
    Calls Try.prog 19 #[v] w fun e w' => e = .returned (.string (strB (putsB xs))) ∧ Below w.heap.size w w' := by
  rcases hv with ⟨a, cap, rfl, rfl⟩ | ⟨b, off, len, cap, rfl, hl, hp, hb, _, hc⟩
  · exact puts_none a cap w
  · exact puts_some b off len cap xs w hl (by omega) hb hc

theorem onceEnd (s : ByteArray) (w1 : World) (hs : s.size ≤ 1000000) :
    Calls Try.prog 13 #[.string s] w1 fun e w' => ∃ v, e = .returned (.tuple #[v, .int .i64 (allR s).1]) ∧ IntsAt w' v (allR s).2 ∧ Below w1.heap.size w1 w' ∧ (∃ ao cap, v = .slice ao (allR s).2.length cap) := by
  refine (all_any s w1 hs).mono ?_
  rintro e w' ⟨v, rfl, hown, hb⟩
  exact ⟨v, rfl, IntsAt.owns hown, hb, owns_slice hown⟩

theorem allGo_len (s : ByteArray) : ∀ (f p : Nat) (acc : List Int), acc.length ≤ p → p ≤ s.size → (allGo s f p acc).2.length ≤ s.size := by
  intro f
  induction f with
  | zero => intro p acc h1 h2; simp [allGo]; omega
  | succ f ih =>
    intro p acc h1 h2
    rw [allGo]
    split
    · simp; omega
    · split
      · rename_i h3 h4
        obtain ⟨g1, g2, g3, g4, g5⟩ := num_in _ _ h4
        exact ih _ _ (by simp; omega) g2
      · simp
theorem allR_len (s : ByteArray) : (allR s).2.length ≤ s.size := allGo_len s _ 0 [] (by simp) (by omega)

set_option maxHeartbeats 1000000 in
theorem walkWordOnce (s0 : ByteArray) (at_ : Int) (w : World) (h1 : s0.size ≤ maxLen) (_wa : (Lit.int .i64 at_).wf = true) :
    Calls Try.prog 5 #[.string s0, .int .i64 at_] w fun e w' => e = .returned (.bool true) ∧ Below w.heap.size w w' := by
  unfold maxLen at h1
  have hA := cut_size s0 200
  go_enter Try.func5, Try.ntmps5
  go_wp2_with fail
  generalize s0.extract 0 (min (s0.size : Int) 200).toNat = s at *
  clear h1
  have hlen := allR_len s
  have hzero := @allR_err s
  have hhas := @allR_has s
  have hall := fun w => onceEnd s w (by omega)
  have hputs := fun v w h => puts_at v (allR s).2 w h (by omega)
  generalize allR s = q at *
  obtain ⟨q0, ql⟩ := q
  dsimp only at hlen hzero hhas hall hputs
  by_cases e : (getR s at_).1 = 0
  · obtain ⟨g0, g1, g2, g3, g4, g5⟩ := getR_in e
    have g6 := getR_has e
    have hget : getR s at_ = (0, (getR s at_).2.1, (getR s at_).2.2) := by rw [← e]
    generalize (getR s at_).2.1 = n at *
    generalize (getR s at_).2.2 = t at *
    obtain ⟨p, rfl⟩ := Int.eq_ofNat_of_zero_le g0
    obtain ⟨t, rfl⟩ := Int.eq_ofNat_of_zero_le (show 0 ≤ t by omega)
    rw [Int.toNat_natCast, Int.toNat_natCast] at g6
    have hput := fun w => put_at n _ g6.symm w
    have Hget := Lib.hid hget
    have Hput := Lib.hid hput
    have Hall := Lib.hid hall
    have Hputs := Lib.hid hputs
    have Hz := Lib.hid hzero
    have Hh := Lib.hid hhas
    have hss : ((s.extract p t).toList != (s.extract p t).toList) = false := by simp
    clear hget hput hall hputs hzero hhas e g6
    refine (get_to _ _ _ _ _ Hget.out _ (by unfold maxLen; omega)).mono ?_
    rintro e w1 ⟨rfl, hb⟩
    have H1 := Lib.hid hb
    have z1 := H1.out.size
    clear hb
    go_wp2_with fail
    have hsl : ∀ w, (Instr.slice 9 (.string s) (some (.int .i64 p)) (some (.int .i64 t)) none).run Try.prog w = .ok (.string (s.extract p t)) w := fun w => by
      have := run_slice_string (P := Try.prog) w 9 s .i64 .i64 (p : Int) (t : Int) Try.underlying9 (by omega) (by omega) (by omega)
      simpa using this
    have t1 : decide ((p : Int) < 0) = false := decide_eq_false (by omega)
    have t2 : decide ((t : Int) ≤ (p : Int)) = false := decide_eq_false (by omega)
    have t2' : decide (t ≤ p) = false := decide_eq_false (by omega)
    have t3 : decide ((s.size : Int) < (t : Int)) = false := decide_eq_false (by omega)
    have t3' : decide (s.size < t) = false := decide_eq_false (by omega)
    go_region_held3 (fun _ => True) (exact trivial) ((go_at_call 17; refine (Hput.out _).mono ?_; rintro e w2 ⟨rfl, hb⟩; have H2 := Lib.hid hb; clear hb))
    have HX := Lib.hid (below_step (by simpa using z1) H1.out.drew H2.out)
    have z2 := HX.out.size
    clear H1 z1 H2 t1 t2 t2' t3 t3' hsl
    generalize hx : s.extract p t = X at *
    clear hx
    go_wp2_with fail
    refine (Hall.out _).mono ?_
    rintro e w3 ⟨v, rfl, hI, hb, ao, cap, rfl⟩
    have H3 := Lib.hid (below_step z2 HX.out hb)
    have z3 := H3.out.size
    have HI := Lib.hid hI
    clear hb hI HX z2
    by_cases hq : q0 = 0
    · have hs1 := Hh.out hq
      have HsX := Lib.hid hs1
      have hss2 : (s.toList == s.toList) = true := by simp
      subst hq
      clear hs1
      go_wp2_with fail
      refine (Hputs.out _ _ HI.out).mono ?_
      rintro e w4 ⟨rfl, hb⟩
      rw [HsX.out]
      have H4 := Lib.hid (below_step z3 H3.out hb)
      have z4 := H4.out.size
      clear hb
      go_wp2_with fail
      refine (fixed_any _).mono ?_
      rintro e w5 ⟨rfl, hb⟩
      have H5 := Lib.hid (below_step z4 H4.out hb)
      clear hb
      go_wp2_with fail
      go_ret
      exact ⟨rfl, H5.out⟩
    · obtain rfl := Hz.out hq
      have hq1 : (q0 != 0) = true := by rw [bne_iff_ne]; exact hq
      have hq2 : (q0 == 0) = false := beq_eq_false_iff_ne.2 hq
      clear hq hlen
      go_wp2_with fail
      refine (fixed_any _).mono ?_
      rintro e w5 ⟨rfl, hb⟩
      have H5 := Lib.hid (below_step z3 H3.out hb)
      clear hb
      go_wp2_with fail
      go_ret
      exact ⟨rfl, H5.out⟩
  · obtain ⟨f1, f2⟩ := getR_zero e
    have hget : getR s at_ = ((getR s at_).1, 0, 0) := Prod.ext rfl (Prod.ext f1 f2)
    have he1 : ((getR s at_).1 == 0) = false := beq_eq_false_iff_ne.2 e
    generalize (getR s at_).1 = k at *
    have Hget := Lib.hid hget
    have Hall := Lib.hid hall
    have Hputs := Lib.hid hputs
    have Hz := Lib.hid hzero
    have Hh := Lib.hid hhas
    clear hget hall hputs hzero hhas e f1 f2
    refine (get_to _ _ _ _ _ Hget.out _ (by unfold maxLen; omega)).mono ?_
    rintro e w1 ⟨rfl, hb⟩
    have H1 := Lib.hid hb
    have z1 := H1.out.size
    clear hb
    go_wp2_with fail
    go_quiet (fail)
    have HX := Lib.hid (below_drewN H1.out nq)
    have z2 : w.heap.size ≤ (w1.drewN nq).heap.size := HX.out.size
    clear H1 z1
    go_wp2_with fail
    refine (Hall.out _).mono ?_
    rintro e w3 ⟨v, rfl, hI, hb, ao, cap, rfl⟩
    have H3 := Lib.hid (below_step z2 HX.out hb)
    have z3 := H3.out.size
    have HI := Lib.hid hI
    clear hb hI HX z2
    by_cases hq : q0 = 0
    · have hs1 := Hh.out hq
      have HsX := Lib.hid hs1
      have hss2 : (s.toList == s.toList) = true := by simp
      subst hq
      clear hs1
      go_wp2_with fail
      refine (Hputs.out _ _ HI.out).mono ?_
      rintro e w4 ⟨rfl, hb⟩
      rw [HsX.out]
      have H4 := Lib.hid (below_step z3 H3.out hb)
      have z4 := H4.out.size
      clear hb
      go_wp2_with fail
      refine (fixed_any _).mono ?_
      rintro e w5 ⟨rfl, hb⟩
      have H5 := Lib.hid (below_step z4 H4.out hb)
      clear hb
      go_wp2_with fail
      go_ret
      exact ⟨rfl, H5.out⟩
    · obtain rfl := Hz.out hq
      have hq1 : (q0 != 0) = true := by rw [bne_iff_ne]; exact hq
      have hq2 : (q0 == 0) = false := beq_eq_false_iff_ne.2 hq
      clear hq hlen
      go_wp2_with fail
      refine (fixed_any _).mono ?_
      rintro e w5 ⟨rfl, hb⟩
      have H5 := Lib.hid (below_step z3 H3.out hb)
      clear hb
      go_wp2_with fail
      go_ret
      exact ⟨rfl, H5.out⟩
end Go.Proofs.Ytefgedabakecnaa
