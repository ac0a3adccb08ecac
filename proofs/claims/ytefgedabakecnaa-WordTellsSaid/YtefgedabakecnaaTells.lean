/- The walk of the law Tells. -/
import Derived.Test.YtefgedabakecnaaZ
import Derived.Test.YtefgedabakecnaaO
import Derived.Test.YtefgedabakecnaaR
import Derived.Deep.RegionHeld3
import Derived.Deep.DrawnRows
namespace Go.Proofs.Ytefgedabakecnaa
open Go.RowKit Go.PlainAid
attribute [local go_sem ↓] Go.wp_at_zero Go.wp_at_succ

theorem rputs_at (v : Value) (xs : List Int) (w : World) (hv : IntsAt w v xs) (hsz : xs.length ≤ 1000000) :
    Calls Try.prog 20 #[v] w fun e w' => e = .returned (.string (strB (putsB xs))) ∧ Below w.heap.size w w' := by
  rcases hv with ⟨a, cap, rfl, rfl⟩ | ⟨b, off, len, cap, rfl, hl, hp, hb, _, hc⟩
  · exact rputs_none a cap w
  · exact rputs_some b off len cap xs w hl (by omega) hb hc
theorem ronceEnd (s : ByteArray) (w1 : World) (hs : s.size ≤ 1000000) :
    Calls Try.prog 14 #[.string s] w1 fun e w' => ∃ v, e = .returned (.tuple #[v, .int .i64 (allR s).1]) ∧ IntsAt w' v (allR s).2 ∧ Below w1.heap.size w1 w' ∧ (∃ ao cap, v = .slice ao (allR s).2.length cap) := by
  refine (rall_any s w1 hs).mono ?_
  rintro e w' ⟨v, rfl, hown, hb⟩
  exact ⟨v, rfl, IntsAt.owns hown, hb, owns_slice hown⟩

theorem rints_same (v u : Value) (xs : List Int) (w : World) (hv : IntsAt w v xs) (hu : IntsAt w u xs) (h1 : xs.length ≤ 1000000) :
    Calls Try.prog 23 #[v, u] w fun e w' => e = .returned (.bool true) ∧ ∃ n, w.drewN n = w' :=
  (rints_any v u xs xs w hv hu h1 h1).mono fun e w' ⟨h, n, hn⟩ => ⟨by rw [h]; simp, n, hn⟩

/-- The box with the two places stands, and nothing below it has turned. -/
def PairIn (w wr : World) (a b : Int) : Prop :=
  w.heap.size + 1 ≤ wr.heap.size ∧ Below w.heap.size w wr ∧ wr.cell? ⟨w.heap.size, 0, none⟩ = some (.int .i64 a) ∧ wr.cell? ⟨w.heap.size, 1, none⟩ = some (.int .i64 b)
theorem PairIn.step {w wr w' : World} {a b : Int} (h : PairIn w wr a b) (hb : Below wr.heap.size wr w') : PairIn w w' a b := by
  obtain ⟨h1, h2, h3, h4⟩ := h
  refine ⟨by have := hb.size; omega, h2.trans (hb.mono (by omega)), ?_, ?_⟩
  · exact (hb.cell (p := ⟨w.heap.size, 0, none⟩) (by exact h1)).trans h3
  · exact (hb.cell (p := ⟨w.heap.size, 1, none⟩) (by exact h1)).trans h4
theorem pairIn_new (w : World) (a b : Int) (t : TypeId) : PairIn w (w.alloc (.cells #[.int .i64 a, .int .i64 b] t)) a b := by
  refine ⟨by rw [size_new]; omega, (Below.refl _ _).alloc (Nat.le_refl _) _, ?_, ?_⟩
  · simp only [World.cell?, heap_alloc_new]; rfl
  · simp only [World.cell?, heap_alloc_new]; rfl
/-- What the end of the walk leans on. -/
def TellsIn (w wr : World) (a b : Int) (vl : Value) (L : List Int) (vg vi : Value) (ql : List Int) : Prop := PairIn w wr a b ∧ IntsAt wr vl L ∧ IntsAt wr vg ql ∧ IntsAt wr vi ql
theorem TellsIn.step {w wr w' : World} {a b : Int} {vl vg vi : Value} {L ql : List Int} (h : TellsIn w wr a b vl L vg vi ql) (hb : Below wr.heap.size wr w') : TellsIn w w' a b vl L vg vi ql :=
  ⟨h.1.step hb, h.2.1.below hb, h.2.2.1.below hb, h.2.2.2.below hb⟩
theorem below_any_drewN (w : World) (n : Nat) : Below w.heap.size w (w.drewN n) := below_drewN (Below.refl _ _) n

set_option maxHeartbeats 16000000 in
set_option maxRecDepth 100000 in
theorem walkWordTells (v1 : Value) (l : List Int) (s0 : ByteArray) (a b : Int) (w : World) (h1 : IntsAt w v1 l) (h2 : s0.size ≤ maxLen) :
    Calls Try.prog 3 #[v1, .string s0, .agg #[.int .i64 a, .int .i64 b]] w fun e w' => e = .returned (.bool true) ∧ Below w.heap.size w w' := by
  unfold maxLen at h2
  obtain ⟨a1, len1, cap1, rfl, hl1, hc1, t1⟩ := h1.take 40
  have b1 : min (len1 : Int) 40 ≤ cap1 := by omega
  have I1 := Lib.hid (t1 (min (len1 : Int) 40).toNat cap1 (by omega) (by omega))
  have hn1 : (min (len1 : Int) 40).toNat ≤ 40 := by omega
  have hA := cut_size s0 200
  clear hl1 hc1 t1 h1
  go_enter Try.func3, Try.ntmps3
  go_wp2_with fail
  generalize (min (len1 : Int) 40).toNat = n1 at *
  generalize l.take 40 = L at *
  generalize s0.extract 0 (min (s0.size : Int) 200).toNat = s at *
  have p0 := pairIn_new w a b 23
  have i0 := I1.out.below ((Below.refl _ _).alloc (Nat.le_refl _) (.cells #[.int .i64 a, .int .i64 b] 23))
  have hL := I1.out.len
  have hlen := allR_len s
  have g1 := Lib.hid (fun w => get_any s a w (by unfold maxLen; omega))
  have g2 := Lib.hid (fun w => rget_any s a w (by omega))
  have g3 := Lib.hid (fun w => onceEnd s w (by omega))
  have g4 := Lib.hid (fun w => ronceEnd s w (by omega))
  have g5 := Lib.hid (fun w => take_any s a b w (by omega))
  have g6 := Lib.hid (fun w => rtake_any s a b w (by omega))
  have g7 := Lib.hid (fun w => put_any a w)
  have g8 := Lib.hid (fun w => rput_any a w)
  have g9 := Lib.hid (fun v w h => puts_at v L w h (by omega))
  have g10 := Lib.hid (fun v w h => rputs_at v L w h (by omega))
  have g11 := Lib.hid (fun w => text_any s w (by omega))
  have g12 := Lib.hid (fun w => rtext_any s w (by omega))
  have hq : (allR s).2.length ≤ 1000000 := by omega
  have g13 := Lib.hid (fun v u w hv hu => rints_same v u (allR s).2 w hv hu hq)
  clear hlen hq hL I1
  generalize (w.alloc (.cells #[.int .i64 a, .int .i64 b] 23)) = W0 at *
  generalize allR s = q at *
  obtain ⟨q0, ql⟩ := q
  generalize getR s a = r at *
  obtain ⟨r0, r1, r2⟩ := r
  generalize takeR s a b = u at *
  obtain ⟨u0, u1, u2⟩ := u
  generalize strB (putB a) = S1 at *
  generalize strB (putsB L) = S2 at *
  generalize strB (putB s.size) ++ s = S3 at *
  dsimp only at g1 g2 g3 g4 g5 g6 g13
  have P0 := Lib.hid p0
  have J0 := Lib.hid i0
  clear p0 i0
  refine (g1.out _).mono ?_
  rintro e w1 ⟨rfl, hb⟩
  have P1 := Lib.hid (P0.out.step hb)
  have J1 := Lib.hid (J0.out.below hb)
  obtain ⟨z1, y1, c1, d1⟩ := P1.out
  clear hb P0 J0 y1
  go_wp2_with fail
  refine (g2.out _).mono ?_
  rintro e w2 ⟨rfl, rfl⟩
  go_wp2_with fail
  refine (g3.out _).mono ?_
  rintro e w3 ⟨v, rfl, hI, hb, ao, cp, rfl⟩
  have P3 := Lib.hid (P1.out.step hb)
  have J3 := Lib.hid (J1.out.below hb)
  have V3 := Lib.hid hI
  obtain ⟨z3, y3, c3, d3⟩ := P3.out
  clear hb hI P1 J1 c1 d1 z1 y3
  go_wp2_with fail
  refine (g4.out _).mono ?_
  rintro e w4 ⟨v, rfl, hI, hb, ao2, cp2, rfl⟩
  have P4 := Lib.hid (P3.out.step hb)
  have J4 := Lib.hid (J3.out.below hb)
  have V4 := Lib.hid (V3.out.below hb)
  have U4 := Lib.hid hI
  obtain ⟨z4, y4, c4, d4⟩ := P4.out
  clear hb hI P3 J3 c3 d3 z3 V3 y4
  go_wp2_with fail
  refine (g5.out _).mono ?_
  rintro e w5 ⟨rfl, hb⟩
  have P5 := Lib.hid (P4.out.step hb)
  have J5 := Lib.hid (J4.out.below hb)
  have V5 := Lib.hid (V4.out.below hb)
  have U5 := Lib.hid (U4.out.below hb)
  obtain ⟨z5, y5, c5, d5⟩ := P5.out
  clear hb P4 J4 c4 d4 z4 V4 U4 y5
  go_wp2_with fail
  refine (g6.out _).mono ?_
  rintro e w6 ⟨rfl, rfl⟩
  have T6 := Lib.hid (show TellsIn w w5 a b _ L _ _ ql from ⟨P5.out, J5.out, V5.out, U5.out⟩)
  clear P5 J5 V5 U5 g1 g2 g3 g4 g5 g6 d5 h2 b1 hA hn1
  go_wp2_with fail
  have e1 : (S1.toList == S1.toList) = true := by simp
  have e2 : (S2.toList == S2.toList) = true := by simp
  have e3 : (S3.toList == S3.toList) = true := by simp
  have e4 : (u1.toList == u1.toList) = true := by simp
  simp only [List.append_eq, List.cons_append, List.nil_append]
  go_region_held3 (fun w' => w'.cell? ⟨w.heap.size, 0, none⟩ = some (.int .i64 a)) (go_keep)
    (first
      | (go_at_call 17; refine (g7.out _).mono ?_; rintro e w7 ⟨rfl, hb⟩; have T7 := Lib.hid ((T6.out.step (Below.refl _ _).drew).step hb); have c7 := T7.out.1.2.2.1; clear hb)
      | (go_at_call 18; refine (g8.out _).mono ?_; rintro e w8 ⟨rfl, hb⟩; have T8 := Lib.hid (T7.out.step hb); have c8 := T8.out.1.2.2.1; clear hb)
      | (go_at_call 19; refine (g9.out _ _ T8.out.2.1).mono ?_; rintro e w9 ⟨rfl, hb⟩; have T9 := Lib.hid (T8.out.step hb); have c9 := T9.out.1.2.2.1; clear hb)
      | (go_at_call 20; refine (g10.out _ _ T9.out.2.1).mono ?_; rintro e w10 ⟨rfl, hb⟩; have T10 := Lib.hid (T9.out.step hb); have c10 := T10.out.1.2.2.1; clear hb)
      | (go_at_call 21; refine (g11.out _).mono ?_; rintro e w11 ⟨rfl, hb⟩; have T11 := Lib.hid (T10.out.step hb); have c11 := T11.out.1.2.2.1; clear hb)
      | (go_at_call 22; refine (g12.out _).mono ?_; rintro e w12 ⟨rfl, hb⟩; have T12 := Lib.hid (T11.out.step hb); have c12 := T12.out.1.2.2.1; clear hb)
      | (go_at_call 23; refine (g13.out _ _ _ T12.out.2.2.1 T12.out.2.2.2).mono ?_; rintro e w13 ⟨rfl, n, rfl⟩; have T13 := Lib.hid (T12.out.step (below_any_drewN w12 n)); have c13 := T13.out.1.2.2.1)
      | (go_at_call 24; refine (fixed_any _).mono ?_; rintro e w14 ⟨rfl, hb⟩; have T14 := Lib.hid (T13.out.step hb); have c14 := T14.out.1.2.2.1; clear hb))
  go_wp2_with fail
  go_ret
  exact ⟨rfl, T14.out.1.2.1⟩
end Go.Proofs.Ytefgedabakecnaa
