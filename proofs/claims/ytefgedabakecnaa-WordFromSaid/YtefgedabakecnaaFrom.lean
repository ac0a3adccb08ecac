/- The walk of the law From. -/
import Derived.Test.YtefgedabakecnaaZ
import Derived.OpenShut
namespace Go.Proofs.Ytefgedabakecnaa
open Go.RowKit Go.PlainAid

/-- What the two places come to, in one of three ways. -/
theorem from_cases (s : ByteArray) (j : Nat) (most : Int) (hj : j ≤ s.size) :
    (∃ (k n : Int) (l : ByteArray) (m : Int), k ≠ 0 ∧ m ≠ 0 ∧ getR s j = (k, n, 0) ∧ getR (s.extract j s.size) 0 = (k, n, 0) ∧ takeR s j most = (m, l, 0) ∧ takeR (s.extract j s.size) 0 most = (m, l, 0)) ∨
    (∃ (n t : Int) (l : ByteArray) (m : Int), 0 ≤ t ∧ t ≤ 1000000 ∧ m ≠ 0 ∧ getR s j = (0, n, t + j) ∧ getR (s.extract j s.size) 0 = (0, n, t) ∧ takeR s j most = (m, l, 0) ∧ takeR (s.extract j s.size) 0 most = (m, l, 0)) ∨
    (∃ (n t : Int) (l : ByteArray) (u : Int), 0 ≤ t ∧ t ≤ 1000000 ∧ 0 ≤ u ∧ u ≤ 1000000 ∧ getR s j = (0, n, t + j) ∧ getR (s.extract j s.size) 0 = (0, n, t) ∧ takeR s j most = (0, l, u + j) ∧ takeR (s.extract j s.size) 0 most = (0, l, u)) ∨ 1000000 < s.size := by
  by_cases hbig : 1000000 < s.size
  · exact .inr (.inr (.inr hbig))
  have hs : (s.extract j s.size).size = s.size - j := by rw [ByteArray.size_extract]; omega
  obtain ⟨a1, a2, a3, a4⟩ := getR_shift s j hj
  obtain ⟨b1, b2, b3, b4⟩ := takeR_shift s j most hj
  by_cases e : (getR s j).1 = 0
  · have a5 := a4 e
    have e' := a1.trans e
    obtain ⟨m0, m1, m2, m3, m4, m5⟩ := getR_in e'
    by_cases f : (takeR s j most).1 = 0
    · have b5 := b4 f
      have f' := b1.trans f
      have hu : 0 ≤ (takeR (s.extract j s.size) 0 most).2.2 ∧ (takeR (s.extract j s.size) 0 most).2.2 ≤ 1000000 := by
        rw [takeR_ok e'] at f' ⊢
        split at f'
        · simp at f'
        · split at f'
          · simp at f'
          · rename_i c1 c2; rw [if_neg c1, if_neg c2]; dsimp only; omega
      exact .inr (.inr (.inl ⟨_, _, _, _, by omega, by omega, hu.1, hu.2, Prod.ext e (Prod.ext rfl a5), Prod.ext e' (Prod.ext a2 rfl), Prod.ext f (Prod.ext rfl b5), Prod.ext f' (Prod.ext b2 rfl)⟩))
    · obtain ⟨b5, b6⟩ := b3 f
      exact .inr (.inl ⟨_, _, _, _, by omega, by omega, f, Prod.ext e (Prod.ext rfl a5), Prod.ext e' (Prod.ext a2 rfl), Prod.ext rfl (Prod.ext rfl b5), Prod.ext b1 (Prod.ext b2 b6)⟩)
  · obtain ⟨a5, a6⟩ := a3 e
    have f : (takeR s j most).1 ≠ 0 := by unfold takeR; rw [if_pos e]; exact e
    obtain ⟨b5, b6⟩ := b3 f
    exact .inl ⟨_, _, _, _, e, f, Prod.ext rfl (Prod.ext rfl a5), Prod.ext a1 (Prod.ext a2 a6), Prod.ext rfl (Prod.ext rfl b5), Prod.ext b1 (Prod.ext b2 b6)⟩

set_option maxHeartbeats 2000000 in
set_option maxRecDepth 100000 in
theorem walkWordFrom (s1 : ByteArray) (at_ most : Int) (w : World) (h1 : s1.size ≤ maxLen) (wa : (Lit.int .u8 at_).wf = true) (_wb : (Lit.int .i64 most).wf = true) :
    Calls Try.prog 10 #[.string s1, .int .u8 at_, .int .i64 most] w fun e w' => e = .returned (.bool true) ∧ Below w.heap.size w w' := by
  unfold maxLen at h1
  have hA := cut_size s1 200
  obtain ⟨a0, a1⟩ := bounds_u8 wa
  have hs0 : (s1.extract 0 (min (s1.size : Int) 200).toNat).size = min (min (s1.size : Int) 200).toNat s1.size := by simp
  have Hs0 := Lib.hid hs0
  clear hs0 wa _wb
  go_enter Try.func10, Try.ntmps10
  simp only [List.append_eq, List.cons_append, List.nil_append]
  go_wp2_with fail
  generalize s1.extract 0 (min (s1.size : Int) 200).toNat = s at *
  clear h1
  rw [← Hs0.out]
  clear Hs0
  obtain ⟨j, hj⟩ : ∃ j : Nat, at_ % ((s.size : Int) + 1) = (j : Int) := ⟨(at_ % ((s.size : Int) + 1)).toNat, by have := Int.emod_nonneg at_ (b := (s.size : Int) + 1) (by omega); omega⟩
  have hj1 : j ≤ s.size := by have := Int.emod_lt_of_pos at_ (b := (s.size : Int) + 1) (by omega); omega
  rw [hj]
  clear hj a0 a1
  have hsz : (s.extract j s.size).size ≤ 1000000 := by rw [ByteArray.size_extract]; omega
  have hsz0 : s.size ≤ 1000000 := by omega
  have hcs := from_cases s j most hj1
  rcases hcs with ⟨k, n, l, m, hk, hm, p1, p2, p3, p4⟩ | ⟨n, t, l, m, t0, t1, hm, p1, p2, p3, p4⟩ | ⟨n, t, l, u, t0, t1, u0, u1, p1, p2, p3, p4⟩ | hbig
  · have G1 := Lib.hid (fun w => get_at _ _ _ _ _ p1 (by unfold maxLen; omega) w)
    have G2 := Lib.hid (fun w => get_at _ _ _ _ _ p2 (by unfold maxLen; omega) w)
    have G3 := Lib.hid (fun w => take_at _ _ _ _ _ _ p3 hsz0 w)
    have G4 := Lib.hid (fun w => take_at _ _ _ _ _ _ p4 hsz w)
    have k1 : (k == 0) = false := beq_eq_false_iff_ne.2 hk
    have k2 : (k != 0) = true := by rw [bne_iff_ne]; exact hk
    have m1 : (m == 0) = false := beq_eq_false_iff_ne.2 hm
    have m2 : (m != 0) = true := by rw [bne_iff_ne]; exact hm
    clear p1 p2 p3 p4 hk hm hsz hsz0
    refine (G1.out _).mono ?_
    rintro e w1 ⟨rfl, hb⟩
    have H1 := Lib.hid hb
    have z1 := H1.out.size
    clear hb
    go_wp2_with fail
    refine (G2.out _).mono ?_
    rintro e w2 ⟨rfl, hb⟩
    have H2 := Lib.hid (below_step z1 H1.out hb)
    have z2 := H2.out.size
    clear hb H1 z1
    go_wp2_with fail
    refine (G3.out _).mono ?_
    rintro e w3 ⟨rfl, hb⟩
    have H3 := Lib.hid (below_step z2 H2.out hb)
    have z3 := H3.out.size
    clear hb H2 z2
    go_wp2_with fail
    refine (G4.out _).mono ?_
    rintro e w4 ⟨rfl, hb⟩
    have H4 := Lib.hid (below_step z3 H3.out hb)
    have z4 := H4.out.size
    clear hb H3 z3 G1 G2 G3 G4
    go_wp2_with fail
    refine (fixed_any _).mono ?_
    rintro e w5 ⟨rfl, hb⟩
    have H5 := Lib.hid (below_step z4 H4.out hb)
    clear hb
    go_wp2_with fail
    go_ret
    exact ⟨rfl, H5.out⟩
  · have G1 := Lib.hid (fun w => get_at _ _ _ _ _ p1 (by unfold maxLen; omega) w)
    have G2 := Lib.hid (fun w => get_at _ _ _ _ _ p2 (by unfold maxLen; omega) w)
    have G3 := Lib.hid (fun w => take_at _ _ _ _ _ _ p3 hsz0 w)
    have G4 := Lib.hid (fun w => take_at _ _ _ _ _ _ p4 hsz w)
    have m1 : (m == 0) = false := beq_eq_false_iff_ne.2 hm
    have m2 : (m != 0) = true := by rw [bne_iff_ne]; exact hm
    clear p1 p2 p3 p4 hm hsz hsz0
    refine (G1.out _).mono ?_
    rintro e w1 ⟨rfl, hb⟩
    have H1 := Lib.hid hb
    have z1 := H1.out.size
    clear hb
    go_wp2_with fail
    refine (G2.out _).mono ?_
    rintro e w2 ⟨rfl, hb⟩
    have H2 := Lib.hid (below_step z1 H1.out hb)
    have z2 := H2.out.size
    clear hb H1 z1
    go_wp2_with fail
    refine (G3.out _).mono ?_
    rintro e w3 ⟨rfl, hb⟩
    have H3 := Lib.hid (below_step z2 H2.out hb)
    have z3 := H3.out.size
    clear hb H2 z2
    go_wp2_with fail
    refine (G4.out _).mono ?_
    rintro e w4 ⟨rfl, hb⟩
    have H4 := Lib.hid (below_step z3 H3.out hb)
    have z4 := H4.out.size
    clear hb H3 z3 G1 G2 G3 G4
    go_wp2_with fail
    refine (fixed_any _).mono ?_
    rintro e w5 ⟨rfl, hb⟩
    have H5 := Lib.hid (below_step z4 H4.out hb)
    clear hb
    go_wp2_with fail
    go_ret
    exact ⟨rfl, H5.out⟩
  · have G1 := Lib.hid (fun w => get_at _ _ _ _ _ p1 (by unfold maxLen; omega) w)
    have G2 := Lib.hid (fun w => get_at _ _ _ _ _ p2 (by unfold maxLen; omega) w)
    have G3 := Lib.hid (fun w => take_at _ _ _ _ _ _ p3 hsz0 w)
    have G4 := Lib.hid (fun w => take_at _ _ _ _ _ _ p4 hsz w)
    clear p1 p2 p3 p4 hsz hsz0
    refine (G1.out _).mono ?_
    rintro e w1 ⟨rfl, hb⟩
    have H1 := Lib.hid hb
    have z1 := H1.out.size
    clear hb
    go_wp2_with fail
    refine (G2.out _).mono ?_
    rintro e w2 ⟨rfl, hb⟩
    have H2 := Lib.hid (below_step z1 H1.out hb)
    have z2 := H2.out.size
    clear hb H1 z1
    go_wp2_with fail
    refine (G3.out _).mono ?_
    rintro e w3 ⟨rfl, hb⟩
    have H3 := Lib.hid (below_step z2 H2.out hb)
    have z3 := H3.out.size
    clear hb H2 z2
    go_wp2_with fail
    refine (G4.out _).mono ?_
    rintro e w4 ⟨rfl, hb⟩
    have H4 := Lib.hid (below_step z3 H3.out hb)
    have z4 := H4.out.size
    clear hb H3 z3 G1 G2 G3 G4
    go_wp2_with fail
    refine (fixed_any _).mono ?_
    rintro e w5 ⟨rfl, hb⟩
    have H5 := Lib.hid (below_step z4 H4.out hb)
    clear hb
    go_wp2_with fail
    go_ret
    exact ⟨rfl, H5.out⟩
  · omega
end Go.Proofs.Ytefgedabakecnaa
