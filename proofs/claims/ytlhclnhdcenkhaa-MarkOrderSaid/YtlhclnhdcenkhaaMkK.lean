/- Marks: fixed. Written by gen_mark1.py. -/
import Derived.Test.YtlhclnhdcenkhaaMkJ
set_option linter.unusedSimpArgs false
set_option linter.unusedVariables false
set_option maxRecDepth 100000
namespace Go.Proofs.Ytlhclnhdcenkhaa
open Go.RowKit Go.PlainAid

def fH : Hs := ⟨1, 2, 5, [[], []], [[], []]⟩
def mF0 : Mk := ⟨3, [true, true], ⟨1, 2, 5, [0, 0], [[], []], []⟩⟩
def mF1 : Mk := ⟨3, [true, true], ⟨1, 2, 5, [0, 0], [[(1, 2)], []], []⟩⟩
def mF2 : Mk := ⟨3, [false, true], ⟨1, 2, 5, [0, 0], [[(1, 2)], []], []⟩⟩
def mF3 : Mk := ⟨3, [false, false], ⟨1, 2, 5, [0, 0], [[(1, 2)], []], []⟩⟩
def mF4 : Mk := ⟨4, [true, false], ⟨1, 2, 5, [0, 0], [[], []], []⟩⟩
theorem fH_small : SmallHs fH := ⟨by decide, by decide, fun l hl => by unfold fH at hl; simp at hl; subst hl; simp⟩
theorem small_lit (e : Int) (o : List Bool) (p : Pc) (h1 : o.length ≤ 1000000) (h2 : SmallPc p) : SmallMk ⟨e, o, p⟩ := ⟨h1, h2⟩
theorem pF_small (i : List Lks) (h : i.length ≤ 1000000) (h2 : ∀ m ∈ i, m.length ≤ 1000000) : SmallPc ⟨1, 2, 5, [0, 0], i, []⟩ := ⟨by simp, h, by simp, h2, by simp⟩
theorem mF0_small : SmallMk mF0 := ⟨by decide, pF_small _ (by decide) (by decide)⟩
theorem mF1_small : SmallMk mF1 := ⟨by decide, pF_small _ (by decide) (by decide)⟩
theorem mF2_small : SmallMk mF2 := ⟨by decide, pF_small _ (by decide) (by decide)⟩
theorem mF3_small : SmallMk mF3 := ⟨by decide, pF_small _ (by decide) (by decide)⟩
theorem mF4_small : SmallMk mF4 := ⟨by decide, pF_small _ (by decide) (by decide)⟩
theorem mZ_small : SmallMk Mk.zero := ⟨by decide, ⟨by decide, by decide, by decide, by decide, by decide⟩⟩
theorem mF0_v (v0 v1 v2 v3 : Value) : mkv mF0 v0 v1 v2 v3 = .agg #[.int .i64 3, v0, .int .i64 1, .int .i64 2, .int .i64 5, v1, v2, v3] := rfl
theorem mF1_v (v0 v1 v2 v3 : Value) : mkv mF1 v0 v1 v2 v3 = .agg #[.int .i64 3, v0, .int .i64 1, .int .i64 2, .int .i64 5, v1, v2, v3] := rfl
theorem mF2_v (v0 v1 v2 v3 : Value) : mkv mF2 v0 v1 v2 v3 = .agg #[.int .i64 3, v0, .int .i64 1, .int .i64 2, .int .i64 5, v1, v2, v3] := rfl
theorem mF3_v (v0 v1 v2 v3 : Value) : mkv mF3 v0 v1 v2 v3 = .agg #[.int .i64 3, v0, .int .i64 1, .int .i64 2, .int .i64 5, v1, v2, v3] := rfl
theorem mF4_v (v0 v1 v2 v3 : Value) : mkv mF4 v0 v1 v2 v3 = .agg #[.int .i64 4, v0, .int .i64 1, .int .i64 2, .int .i64 5, v1, v2, v3] := rfl
theorem mZ_v (v0 v1 v2 v3 : Value) : mkv Mk.zero v0 v1 v2 v3 = .agg #[.int .i64 0, v0, .int .i64 0, .int .i64 0, .int .i64 0, v1, v2, v3] := rfl
theorem F_ends (w : World) : Calls Try.prog 9 #[.int .u8 2, .int .u8 5] w fun e w' => ∃ g1 g2, e = .returned (.agg #[.int .i64 1, .int .i64 2, .int .i64 5, g1, g2]) ∧ HasL w' [g1, g2] fH.d ∧ Below w.heap.size w w' := ends_at 2 5 2 w (by decide) (by decide) rfl
theorem F_begin (g1 g2 : Value) (w : World) (g : HasL w [g1, g2] fH.d) : Calls Try.prog 19 #[.agg #[.int .i64 1, .int .i64 2, .int .i64 5, g1, g2], .int .i64 3] w (MkTold mF0 w) := begin_at fH 3 g1 g2 w g fH_small (by decide)
theorem F_app1 (v0 v1 v2 v3 : Value) (w : World) (h : HasL w [v0, v1, v2, v3] mF0.d) : Calls Try.prog 13 #[.agg #[.int .i64 3, v0, .int .i64 1, .int .i64 2, .int .i64 5, v1, v2, v3], .int .i64 0, .agg #[.int .i64 1, .int .i64 2]] w (MkTold mF1 w) := app_at mF0 0 (1, 2) v0 v1 v2 v3 w h mF0_small (by decide)
theorem F_app2 (v0 v1 v2 v3 : Value) (w : World) (h : HasL w [v0, v1, v2, v3] mF2.d) : Calls Try.prog 13 #[.agg #[.int .i64 3, v0, .int .i64 1, .int .i64 2, .int .i64 5, v1, v2, v3], .int .i64 0, .agg #[.int .i64 2, .int .i64 0]] w (MkTold mF2 w) := app_at mF2 0 (2, 0) v0 v1 v2 v3 w h mF2_small (by decide)
theorem F_app3 (v0 v1 v2 v3 : Value) (w : World) (h : HasL w [v0, v1, v2, v3] Mk.zero.d) : Calls Try.prog 13 #[.agg #[.int .i64 0, v0, .int .i64 0, .int .i64 0, .int .i64 0, v1, v2, v3], .int .i64 0, .agg #[.int .i64 1, .int .i64 2]] w (MkTold Mk.zero w) := app_at Mk.zero 0 (1, 2) v0 v1 v2 v3 w h mZ_small (by decide)
theorem F_mark1 (v0 v1 v2 v3 g1 g2 : Value) (w : World) (h : HasL w [v0, v1, v2, v3] mF1.d) (g : HasL w [g1, g2] fH.d) : Calls Try.prog 10 #[.agg #[.int .i64 3, v0, .int .i64 1, .int .i64 2, .int .i64 5, v1, v2, v3], .agg #[.int .i64 1, .int .i64 2, .int .i64 5, g1, g2], .int .i64 3, .int .i64 0] w (MkTold2 mF2 false w) := marker_at mF1 fH 3 0 v0 v1 v2 v3 g1 g2 w h g mF1_small fH_small (by decide)
theorem F_mark2 (v0 v1 v2 v3 g1 g2 : Value) (w : World) (h : HasL w [v0, v1, v2, v3] mF2.d) (g : HasL w [g1, g2] fH.d) : Calls Try.prog 10 #[.agg #[.int .i64 3, v0, .int .i64 1, .int .i64 2, .int .i64 5, v1, v2, v3], .agg #[.int .i64 1, .int .i64 2, .int .i64 5, g1, g2], .int .i64 3, .int .i64 1] w (MkTold2 mF3 false w) := marker_at mF2 fH 3 1 v0 v1 v2 v3 g1 g2 w h g mF2_small fH_small (by decide)
theorem F_mark3 (v0 v1 v2 v3 g1 g2 : Value) (w : World) (h : HasL w [v0, v1, v2, v3] Mk.zero.d) (g : HasL w [g1, g2] fH.d) : Calls Try.prog 10 #[.agg #[.int .i64 0, v0, .int .i64 0, .int .i64 0, .int .i64 0, v1, v2, v3], .agg #[.int .i64 1, .int .i64 2, .int .i64 5, g1, g2], .int .i64 4, .int .i64 1] w (MkTold2 mF4 true w) := marker_at Mk.zero fH 4 1 v0 v1 v2 v3 g1 g2 w h g mZ_small fH_small (by decide)
theorem F_mark4 (v0 v1 v2 v3 g1 g2 : Value) (w : World) (h : HasL w [v0, v1, v2, v3] mF0.d) (g : HasL w [g1, g2] fH.d) : Calls Try.prog 10 #[.agg #[.int .i64 3, v0, .int .i64 1, .int .i64 2, .int .i64 5, v1, v2, v3], .agg #[.int .i64 1, .int .i64 2, .int .i64 5, g1, g2], .int .i64 3, .int .i64 2] w (MkTold2 mF0 false w) := marker_at mF0 fH 3 2 v0 v1 v2 v3 g1 g2 w h g mF0_small fH_small (by decide)
theorem F_done1 (v0 v1 v2 v3 : Value) (w : World) (h : HasL w [v0, v1, v2, v3] mF0.d) : Calls Try.prog 17 #[.agg #[.int .i64 3, v0, .int .i64 1, .int .i64 2, .int .i64 5, v1, v2, v3], .int .i64 3] w fun e w' => e = .returned (.bool false) ∧ Below w.heap.size w w' := done_at mF0 3 v0 v1 v2 v3 w h mF0_small
theorem F_done2 (v0 v1 v2 v3 : Value) (w : World) (h : HasL w [v0, v1, v2, v3] mF3.d) : Calls Try.prog 17 #[.agg #[.int .i64 3, v0, .int .i64 1, .int .i64 2, .int .i64 5, v1, v2, v3], .int .i64 3] w fun e w' => e = .returned (.bool true) ∧ Below w.heap.size w w' := done_at mF3 3 v0 v1 v2 v3 w h mF3_small
theorem F_done3 (v0 v1 v2 v3 : Value) (w : World) (h : HasL w [v0, v1, v2, v3] mF3.d) : Calls Try.prog 17 #[.agg #[.int .i64 3, v0, .int .i64 1, .int .i64 2, .int .i64 5, v1, v2, v3], .int .i64 4] w fun e w' => e = .returned (.bool false) ∧ Below w.heap.size w w' := done_at mF3 4 v0 v1 v2 v3 w h mF3_small
theorem F_ref0 (v0 v1 v2 v3 : Value) (w : World) (h : ∃ (a0 a1 a2 a3 : Option Addr) (n0 n1 n2 n3 e0 e1 e2 e3 : Nat), v0 = .slice a0 n0 e0 ∧ v1 = .slice a1 n1 e1 ∧ v2 = .slice a2 n2 e2 ∧ v3 = .slice a3 n3 e3) : Calls Try.prog 16 #[.agg #[.int .i64 3, v0, .int .i64 1, .int .i64 2, .int .i64 5, v1, v2, v3]] w fun e w' => e = .returned (.agg #[.int .i64 3, v0, .int .i64 1, .int .i64 2, .int .i64 5, v1, v2, v3]) ∧ Below w.heap.size w w' := ref10_at mF0 v0 v1 v2 v3 w h
theorem F_refz (v0 v1 v2 v3 : Value) (w : World) (h : ∃ (a0 a1 a2 a3 : Option Addr) (n0 n1 n2 n3 e0 e1 e2 e3 : Nat), v0 = .slice a0 n0 e0 ∧ v1 = .slice a1 n1 e1 ∧ v2 = .slice a2 n2 e2 ∧ v3 = .slice a3 n3 e3) : Calls Try.prog 16 #[.agg #[.int .i64 0, v0, .int .i64 0, .int .i64 0, .int .i64 0, v1, v2, v3]] w fun e w' => e = .returned (.agg #[.int .i64 0, v0, .int .i64 0, .int .i64 0, .int .i64 0, v1, v2, v3]) ∧ Below w.heap.size w w' := ref10_at Mk.zero v0 v1 v2 v3 w h
theorem F_same0 (v0 v1 v2 v3 u0 u1 u2 u3 : Value) (w : World) (h : HasL w [v0, v1, v2, v3] mF0.d) (h' : HasL w [u0, u1, u2, u3] mF0.d) : Calls Try.prog 15 #[.agg #[.int .i64 3, v0, .int .i64 1, .int .i64 2, .int .i64 5, v1, v2, v3], .agg #[.int .i64 3, u0, .int .i64 1, .int .i64 2, .int .i64 5, u1, u2, u3]] w fun e w' => e = .returned (.bool true) ∧ Below w.heap.size w w' := rsame10_at mF0 mF0 true v0 v1 v2 v3 u0 u1 u2 u3 w h h' mF0_small mF0_small (by simp)
theorem F_samez (v0 v1 v2 v3 u0 u1 u2 u3 : Value) (w : World) (h : HasL w [v0, v1, v2, v3] Mk.zero.d) (h' : HasL w [u0, u1, u2, u3] Mk.zero.d) : Calls Try.prog 15 #[.agg #[.int .i64 0, v0, .int .i64 0, .int .i64 0, .int .i64 0, v1, v2, v3], .agg #[.int .i64 0, u0, .int .i64 0, .int .i64 0, .int .i64 0, u1, u2, u3]] w fun e w' => e = .returned (.bool true) ∧ Below w.heap.size w w' := rsame10_at Mk.zero Mk.zero true v0 v1 v2 v3 u0 u1 u2 u3 w h h' mZ_small mZ_small (by simp)
set_option maxHeartbeats 8000000 in
theorem fixed10_any (w : World) : Calls Try.prog 21 #[] w fun e w' => e = .returned (.bool true) ∧ Below w.heap.size w w' := by
  go_enter Try.func21, Try.ntmps21
  try simp only [List.append_eq, List.cons_append, List.nil_append]
  go_upto_region 1 with fail
  go_wp2_with fail
  refine (F_ends w).mono ?_
  rintro e w1 ⟨g1, g2, rfl, hG, hb⟩
  obtain ⟨g8, g9⟩ := hs_has hG
  obtain ⟨ga, gc, ee1⟩ := slice_of g8
  obtain ⟨gb, gd, ee2⟩ := slice_of g9
  subst ee1
  subst ee2
  have HG := Lib.hid hG
  have B1 := Lib.hid hb
  clear hG hb g8 g9
  rw [show fH.inn.length = 2 from rfl] at HG ⊢
  rw [show fH.out.length = 2 from rfl] at HG ⊢
  go_upto_region 2 with fail
  obtain ⟨b1, hb1⟩ : ∃ b, b = w1.heap.size := ⟨_, rfl⟩
  obtain ⟨y1, hy1⟩ : ∃ y, y = w1.alloc (.cells #[.int .i64 1, .int .i64 2, .int .i64 5, .slice ga 2 gc, .slice gb 2 gd] 26) := ⟨_, rfl⟩
  have hn1 : Below w1.heap.size w1 y1 := by rw [hy1]; exact below_new _ _
  have K1 : Hid (BoxAt b1 [.int .i64 1, .int .i64 2, .int .i64 5, .slice ga 2 gc, .slice gb 2 gd] y1) := Lib.hid (by rw [hb1, hy1]; exact boxAt_new w1 [.int .i64 1, .int .i64 2, .int .i64 5, .slice ga 2 gc, .slice gb 2 gd] _)
  have N1 := Lib.hid hn1
  rw [← hy1, ← hb1]
  clear hy1 hb1 hn1
  have HG' := Lib.hid (HG.out.later N1.out)
  clear HG
  have HG := Lib.hid HG'.out
  clear HG'
  have B1' := Lib.hid (below_step' B1.out N1.out)
  clear B1
  have B1 := Lib.hid B1'.out
  clear B1' N1
  have x1_0 := K1.out 0 _ rfl
  have x1_1 := K1.out 1 _ rfl
  have x1_2 := K1.out 2 _ rfl
  have x1_3 := K1.out 3 _ rfl
  have x1_4 := K1.out 4 _ rfl
  go_wp2_with fail
  refine (F_begin _ _ y1 HG.out).mono ?_
  rintro e w2 ⟨v0, v1, v2, v3, rfl, hU, hb⟩
  obtain ⟨a20, a21, a22, a23, n20, n21, n22, n23, e20, e21, e22, e23, ff0, ff1, ff2, ff3⟩ := mk_slices hU.weak
  subst ff0
  subst ff1
  subst ff2
  subst ff3
  rw [mF0_v]
  have H2 := Lib.hid hU
  have Q2 := Lib.hid hb
  clear hU hb x1_0 x1_1 x1_2 x1_3 x1_4
  go_upto_region 3 with fail
  obtain ⟨b2, hb2⟩ : ∃ b, b = w2.heap.size := ⟨_, rfl⟩
  obtain ⟨y2, hy2⟩ : ∃ y, y = w2.alloc (.cells #[.int .i64 3, .slice a20 n20 e20, .int .i64 1, .int .i64 2, .int .i64 5, .slice a21 n21 e21, .slice a22 n22 e22, .slice a23 n23 e23] 33) := ⟨_, rfl⟩
  have hn2 : Below w2.heap.size w2 y2 := by rw [hy2]; exact below_new _ _
  have K2 : Hid (BoxAt b2 [.int .i64 3, .slice a20 n20 e20, .int .i64 1, .int .i64 2, .int .i64 5, .slice a21 n21 e21, .slice a22 n22 e22, .slice a23 n23 e23] y2) := Lib.hid (by rw [hb2, hy2]; exact boxAt_new w2 [.int .i64 3, .slice a20 n20 e20, .int .i64 1, .int .i64 2, .int .i64 5, .slice a21 n21 e21, .slice a22 n22 e22, .slice a23 n23 e23] _)
  have N2 := Lib.hid hn2
  rw [← hy2, ← hb2]
  clear hy2 hb2 hn2
  have D2 := Lib.hid (below_step' Q2.out N2.out)
  have B2 := Lib.hid (below_step' B1.out D2.out)
  have H2' := Lib.hid (H2.out.later N2.out)
  clear H2
  have H2 := Lib.hid H2'.out
  clear H2'
  have K1' := Lib.hid (K1.out.below D2.out)
  clear K1
  have K1 := Lib.hid K1'.out
  clear K1'
  have HG' := Lib.hid (HG.out.later D2.out)
  clear HG
  have HG := Lib.hid HG'.out
  clear HG'
  clear Q2 N2 D2 B1
  have l20 : n20 = 2 := bools_len (mk_has H2.out.weak).1
  have l22 : n22 = 2 := lls_len (pc_has (mk_has H2.out.weak).2).2.1
  subst l20
  subst l22
  have x2_0 := K2.out 0 _ rfl
  have x2_1 := K2.out 1 _ rfl
  have x2_2 := K2.out 2 _ rfl
  have x2_3 := K2.out 3 _ rfl
  have x2_4 := K2.out 4 _ rfl
  have x2_5 := K2.out 5 _ rfl
  have x2_6 := K2.out 6 _ rfl
  have x2_7 := K2.out 7 _ rfl
  go_upto_region 5 with fail
  clear x2_0 x2_1 x2_2 x2_3 x2_4 x2_5 x2_6 x2_7
  go_upto_region 6 with fail
  obtain ⟨b3, hb3⟩ : ∃ b, b = y2.heap.size := ⟨_, rfl⟩
  obtain ⟨y3, hy3⟩ : ∃ y, y = y2.alloc (.cells #[.int .i64 1, .int .i64 2] 38) := ⟨_, rfl⟩
  have hn3 : Below y2.heap.size y2 y3 := by rw [hy3]; exact below_new _ _
  have K3 : Hid (BoxAt b3 [.int .i64 1, .int .i64 2] y3) := Lib.hid (by rw [hb3, hy3]; exact boxAt_new y2 [.int .i64 1, .int .i64 2] _)
  have N3 := Lib.hid hn3
  rw [← hy3, ← hb3]
  clear hy3 hb3 hn3
  have B3 := Lib.hid (below_step' B2.out N3.out)
  clear B2
  have K1' := Lib.hid (K1.out.below N3.out)
  clear K1
  have K1 := Lib.hid K1'.out
  clear K1'
  have HG' := Lib.hid (HG.out.later N3.out)
  clear HG
  have HG := Lib.hid HG'.out
  clear HG'
  have K2' := Lib.hid (K2.out.below N3.out)
  clear K2
  have K2 := Lib.hid K2'.out
  clear K2'
  have H2' := Lib.hid (H2.out.later N3.out)
  clear H2
  have H2 := Lib.hid H2'.out
  clear H2'
  clear N3
  as_aux_lemma =>
   have x2_0 := K2.out 0 _ rfl
   have x2_1 := K2.out 1 _ rfl
   have x2_2 := K2.out 2 _ rfl
   have x2_3 := K2.out 3 _ rfl
   have x2_4 := K2.out 4 _ rfl
   have x2_5 := K2.out 5 _ rfl
   have x2_6 := K2.out 6 _ rfl
   have x2_7 := K2.out 7 _ rfl
   have x3_0 := K3.out 0 _ rfl
   have x3_1 := K3.out 1 _ rfl
   go_wp2_with fail
   refine (F_app1 _ _ _ _ y3 H2.out.weak).mono ?_
   rintro e w4 ⟨v0, v1, v2, v3, rfl, hU, hb⟩
   obtain ⟨a40, a41, a42, a43, n40, n41, n42, n43, e40, e41, e42, e43, ff0, ff1, ff2, ff3⟩ := mk_slices hU.weak
   subst ff0
   subst ff1
   subst ff2
   subst ff3
   rw [mF1_v]
   have H4 := Lib.hid hU
   have Q4 := Lib.hid hb
   clear hU hb x2_0 x2_1 x2_2 x2_3 x2_4 x2_5 x2_6 x2_7 x3_0 x3_1
   go_upto_region 7 with fail
   obtain ⟨b4, hb4⟩ : ∃ b, b = w4.heap.size := ⟨_, rfl⟩
   obtain ⟨y4, hy4⟩ : ∃ y, y = w4.alloc (.cells #[.int .i64 3, .slice a40 n40 e40, .int .i64 1, .int .i64 2, .int .i64 5, .slice a41 n41 e41, .slice a42 n42 e42, .slice a43 n43 e43] 33) := ⟨_, rfl⟩
   have hn4 : Below w4.heap.size w4 y4 := by rw [hy4]; exact below_new _ _
   have K4 : Hid (BoxAt b4 [.int .i64 3, .slice a40 n40 e40, .int .i64 1, .int .i64 2, .int .i64 5, .slice a41 n41 e41, .slice a42 n42 e42, .slice a43 n43 e43] y4) := Lib.hid (by rw [hb4, hy4]; exact boxAt_new w4 [.int .i64 3, .slice a40 n40 e40, .int .i64 1, .int .i64 2, .int .i64 5, .slice a41 n41 e41, .slice a42 n42 e42, .slice a43 n43 e43] _)
   have N4 := Lib.hid hn4
   rw [← hy4, ← hb4]
   clear hy4 hb4 hn4
   have D4 := Lib.hid (below_step' Q4.out N4.out)
   have B4 := Lib.hid (below_step' B3.out D4.out)
   have H4' := Lib.hid (H4.out.later N4.out)
   clear H4
   have H4 := Lib.hid H4'.out
   clear H4'
   have K1' := Lib.hid (K1.out.below D4.out)
   clear K1
   have K1 := Lib.hid K1'.out
   clear K1'
   have HG' := Lib.hid (HG.out.later D4.out)
   clear HG
   have HG := Lib.hid HG'.out
   clear HG'
   have K2' := Lib.hid (K2.out.below D4.out)
   clear K2
   have K2 := Lib.hid K2'.out
   clear K2'
   have H2' := Lib.hid (H2.out.later D4.out)
   clear H2
   have H2 := Lib.hid H2'.out
   clear H2'
   have K3' := Lib.hid (K3.out.below D4.out)
   clear K3
   have K3 := Lib.hid K3'.out
   clear K3'
   clear Q4 N4 D4 B3
   have x4_0 := K4.out 0 _ rfl
   have x4_1 := K4.out 1 _ rfl
   have x4_2 := K4.out 2 _ rfl
   have x4_3 := K4.out 3 _ rfl
   have x4_4 := K4.out 4 _ rfl
   have x4_5 := K4.out 5 _ rfl
   have x4_6 := K4.out 6 _ rfl
   have x4_7 := K4.out 7 _ rfl
   have x1_0 := K1.out 0 _ rfl
   have x1_1 := K1.out 1 _ rfl
   have x1_2 := K1.out 2 _ rfl
   have x1_3 := K1.out 3 _ rfl
   have x1_4 := K1.out 4 _ rfl
   go_wp2_with fail
   refine (F_mark1 _ _ _ _ _ _ y4 H4.out.weak HG.out).mono ?_
   rintro e w5 ⟨v0, v1, v2, v3, rfl, hU, hb⟩
   obtain ⟨a50, a51, a52, a53, n50, n51, n52, n53, e50, e51, e52, e53, ff0, ff1, ff2, ff3⟩ := mk_slices hU.weak
   subst ff0
   subst ff1
   subst ff2
   subst ff3
   rw [mF2_v]
   have H5 := Lib.hid hU
   have Q5 := Lib.hid hb
   clear hU hb x4_0 x4_1 x4_2 x4_3 x4_4 x4_5 x4_6 x4_7 x1_0 x1_1 x1_2 x1_3 x1_4
   go_upto_region 8 with fail
   obtain ⟨b5, hb5⟩ : ∃ b, b = w5.heap.size := ⟨_, rfl⟩
   obtain ⟨y5, hy5⟩ : ∃ y, y = w5.alloc (.cells #[.int .i64 3, .slice a50 n50 e50, .int .i64 1, .int .i64 2, .int .i64 5, .slice a51 n51 e51, .slice a52 n52 e52, .slice a53 n53 e53] 33) := ⟨_, rfl⟩
   have hn5 : Below w5.heap.size w5 y5 := by rw [hy5]; exact below_new _ _
   have K5 : Hid (BoxAt b5 [.int .i64 3, .slice a50 n50 e50, .int .i64 1, .int .i64 2, .int .i64 5, .slice a51 n51 e51, .slice a52 n52 e52, .slice a53 n53 e53] y5) := Lib.hid (by rw [hb5, hy5]; exact boxAt_new w5 [.int .i64 3, .slice a50 n50 e50, .int .i64 1, .int .i64 2, .int .i64 5, .slice a51 n51 e51, .slice a52 n52 e52, .slice a53 n53 e53] _)
   have N5 := Lib.hid hn5
   rw [← hy5, ← hb5]
   clear hy5 hb5 hn5
   have D5 := Lib.hid (below_step' Q5.out N5.out)
   have B5 := Lib.hid (below_step' B4.out D5.out)
   have H5' := Lib.hid (H5.out.later N5.out)
   clear H5
   have H5 := Lib.hid H5'.out
   clear H5'
   have K1' := Lib.hid (K1.out.below D5.out)
   clear K1
   have K1 := Lib.hid K1'.out
   clear K1'
   have HG' := Lib.hid (HG.out.later D5.out)
   clear HG
   have HG := Lib.hid HG'.out
   clear HG'
   have K2' := Lib.hid (K2.out.below D5.out)
   clear K2
   have K2 := Lib.hid K2'.out
   clear K2'
   have H2' := Lib.hid (H2.out.later D5.out)
   clear H2
   have H2 := Lib.hid H2'.out
   clear H2'
   have K3' := Lib.hid (K3.out.below D5.out)
   clear K3
   have K3 := Lib.hid K3'.out
   clear K3'
   have K4' := Lib.hid (K4.out.below D5.out)
   clear K4
   have K4 := Lib.hid K4'.out
   clear K4'
   have H4' := Lib.hid (H4.out.later D5.out)
   clear H4
   have H4 := Lib.hid H4'.out
   clear H4'
   clear Q5 N5 D5 B4
   as_aux_lemma =>
    have x5_0 := K5.out 0 _ rfl
    have x5_1 := K5.out 1 _ rfl
    have x5_2 := K5.out 2 _ rfl
    have x5_3 := K5.out 3 _ rfl
    have x5_4 := K5.out 4 _ rfl
    have x5_5 := K5.out 5 _ rfl
    have x5_6 := K5.out 6 _ rfl
    have x5_7 := K5.out 7 _ rfl
    go_wp2_with fail
    refine (F_app2 _ _ _ _ y5 H5.out.weak).mono ?_
    rintro e w7 ⟨v0, v1, v2, v3, rfl, hU, hb⟩
    obtain ⟨a70, a71, a72, a73, n70, n71, n72, n73, e70, e71, e72, e73, ff0, ff1, ff2, ff3⟩ := mk_slices hU.weak
    subst ff0
    subst ff1
    subst ff2
    subst ff3
    rw [mF2_v]
    have H7 := Lib.hid hU
    have Q7 := Lib.hid hb
    clear hU hb x5_0 x5_1 x5_2 x5_3 x5_4 x5_5 x5_6 x5_7
    go_upto_region 9 with fail
    obtain ⟨b7, hb7⟩ : ∃ b, b = w7.heap.size := ⟨_, rfl⟩
    obtain ⟨y7, hy7⟩ : ∃ y, y = w7.alloc (.cells #[.int .i64 3, .slice a70 n70 e70, .int .i64 1, .int .i64 2, .int .i64 5, .slice a71 n71 e71, .slice a72 n72 e72, .slice a73 n73 e73] 33) := ⟨_, rfl⟩
    have hn7 : Below w7.heap.size w7 y7 := by rw [hy7]; exact below_new _ _
    have K7 : Hid (BoxAt b7 [.int .i64 3, .slice a70 n70 e70, .int .i64 1, .int .i64 2, .int .i64 5, .slice a71 n71 e71, .slice a72 n72 e72, .slice a73 n73 e73] y7) := Lib.hid (by rw [hb7, hy7]; exact boxAt_new w7 [.int .i64 3, .slice a70 n70 e70, .int .i64 1, .int .i64 2, .int .i64 5, .slice a71 n71 e71, .slice a72 n72 e72, .slice a73 n73 e73] _)
    have N7 := Lib.hid hn7
    rw [← hy7, ← hb7]
    clear hy7 hb7 hn7
    have D7 := Lib.hid (below_step' Q7.out N7.out)
    have B7 := Lib.hid (below_step' B5.out D7.out)
    have H7' := Lib.hid (H7.out.later N7.out)
    clear H7
    have H7 := Lib.hid H7'.out
    clear H7'
    have K1' := Lib.hid (K1.out.below D7.out)
    clear K1
    have K1 := Lib.hid K1'.out
    clear K1'
    have HG' := Lib.hid (HG.out.later D7.out)
    clear HG
    have HG := Lib.hid HG'.out
    clear HG'
    have K2' := Lib.hid (K2.out.below D7.out)
    clear K2
    have K2 := Lib.hid K2'.out
    clear K2'
    have H2' := Lib.hid (H2.out.later D7.out)
    clear H2
    have H2 := Lib.hid H2'.out
    clear H2'
    have K3' := Lib.hid (K3.out.below D7.out)
    clear K3
    have K3 := Lib.hid K3'.out
    clear K3'
    have K4' := Lib.hid (K4.out.below D7.out)
    clear K4
    have K4 := Lib.hid K4'.out
    clear K4'
    have H4' := Lib.hid (H4.out.later D7.out)
    clear H4
    have H4 := Lib.hid H4'.out
    clear H4'
    have K5' := Lib.hid (K5.out.below D7.out)
    clear K5
    have K5 := Lib.hid K5'.out
    clear K5'
    have H5' := Lib.hid (H5.out.later D7.out)
    clear H5
    have H5 := Lib.hid H5'.out
    clear H5'
    clear Q7 N7 D7 B5
    have x7_0 := K7.out 0 _ rfl
    have x7_1 := K7.out 1 _ rfl
    have x7_2 := K7.out 2 _ rfl
    have x7_3 := K7.out 3 _ rfl
    have x7_4 := K7.out 4 _ rfl
    have x7_5 := K7.out 5 _ rfl
    have x7_6 := K7.out 6 _ rfl
    have x7_7 := K7.out 7 _ rfl
    have x1_0 := K1.out 0 _ rfl
    have x1_1 := K1.out 1 _ rfl
    have x1_2 := K1.out 2 _ rfl
    have x1_3 := K1.out 3 _ rfl
    have x1_4 := K1.out 4 _ rfl
    go_wp2_with fail
    refine (F_mark2 _ _ _ _ _ _ y7 H7.out.weak HG.out).mono ?_
    rintro e w8 ⟨v0, v1, v2, v3, rfl, hU, hb⟩
    obtain ⟨a80, a81, a82, a83, n80, n81, n82, n83, e80, e81, e82, e83, ff0, ff1, ff2, ff3⟩ := mk_slices hU.weak
    subst ff0
    subst ff1
    subst ff2
    subst ff3
    rw [mF3_v]
    have H8 := Lib.hid hU
    have Q8 := Lib.hid hb
    clear hU hb x7_0 x7_1 x7_2 x7_3 x7_4 x7_5 x7_6 x7_7 x1_0 x1_1 x1_2 x1_3 x1_4
    go_upto_region 10 with fail
    obtain ⟨b8, hb8⟩ : ∃ b, b = w8.heap.size := ⟨_, rfl⟩
    obtain ⟨y8, hy8⟩ : ∃ y, y = w8.alloc (.cells #[.int .i64 3, .slice a80 n80 e80, .int .i64 1, .int .i64 2, .int .i64 5, .slice a81 n81 e81, .slice a82 n82 e82, .slice a83 n83 e83] 33) := ⟨_, rfl⟩
    have hn8 : Below w8.heap.size w8 y8 := by rw [hy8]; exact below_new _ _
    have K8 : Hid (BoxAt b8 [.int .i64 3, .slice a80 n80 e80, .int .i64 1, .int .i64 2, .int .i64 5, .slice a81 n81 e81, .slice a82 n82 e82, .slice a83 n83 e83] y8) := Lib.hid (by rw [hb8, hy8]; exact boxAt_new w8 [.int .i64 3, .slice a80 n80 e80, .int .i64 1, .int .i64 2, .int .i64 5, .slice a81 n81 e81, .slice a82 n82 e82, .slice a83 n83 e83] _)
    have N8 := Lib.hid hn8
    rw [← hy8, ← hb8]
    clear hy8 hb8 hn8
    have D8 := Lib.hid (below_step' Q8.out N8.out)
    have B8 := Lib.hid (below_step' B7.out D8.out)
    have H8' := Lib.hid (H8.out.later N8.out)
    clear H8
    have H8 := Lib.hid H8'.out
    clear H8'
    have K1' := Lib.hid (K1.out.below D8.out)
    clear K1
    have K1 := Lib.hid K1'.out
    clear K1'
    have HG' := Lib.hid (HG.out.later D8.out)
    clear HG
    have HG := Lib.hid HG'.out
    clear HG'
    have K2' := Lib.hid (K2.out.below D8.out)
    clear K2
    have K2 := Lib.hid K2'.out
    clear K2'
    have H2' := Lib.hid (H2.out.later D8.out)
    clear H2
    have H2 := Lib.hid H2'.out
    clear H2'
    have K3' := Lib.hid (K3.out.below D8.out)
    clear K3
    have K3 := Lib.hid K3'.out
    clear K3'
    have K4' := Lib.hid (K4.out.below D8.out)
    clear K4
    have K4 := Lib.hid K4'.out
    clear K4'
    have H4' := Lib.hid (H4.out.later D8.out)
    clear H4
    have H4 := Lib.hid H4'.out
    clear H4'
    have K5' := Lib.hid (K5.out.below D8.out)
    clear K5
    have K5 := Lib.hid K5'.out
    clear K5'
    have H5' := Lib.hid (H5.out.later D8.out)
    clear H5
    have H5 := Lib.hid H5'.out
    clear H5'
    have K7' := Lib.hid (K7.out.below D8.out)
    clear K7
    have K7 := Lib.hid K7'.out
    clear K7'
    have H7' := Lib.hid (H7.out.later D8.out)
    clear H7
    have H7 := Lib.hid H7'.out
    clear H7'
    clear Q8 N8 D8 B7
    as_aux_lemma =>
     have x1_0 := K1.out 0 _ rfl
     have x1_1 := K1.out 1 _ rfl
     have x1_2 := K1.out 2 _ rfl
     have x1_3 := K1.out 3 _ rfl
     have x1_4 := K1.out 4 _ rfl
     go_wp2_with fail
     refine (F_mark3 (.slice none 0 0) (.slice none 0 0) (.slice none 0 0) (.slice none 0 0) _ _ y8 (.mk (.nil _ _ _ _ _) (.mk (.nil _ _ _ _ _) (.mk (.nil _ _ _ _ _) (.mk (.nil _ _ _ _ _) (hasL_nil _ _ _))))) HG.out).mono ?_
     rintro e w10 ⟨v0, v1, v2, v3, rfl, hU, hb⟩
     obtain ⟨a100, a101, a102, a103, n100, n101, n102, n103, e100, e101, e102, e103, ff0, ff1, ff2, ff3⟩ := mk_slices hU.weak
     subst ff0
     subst ff1
     subst ff2
     subst ff3
     rw [mF4_v]
     have H10 := Lib.hid hU
     have Q10 := Lib.hid hb
     clear hU hb x1_0 x1_1 x1_2 x1_3 x1_4
     go_upto_region 11 with fail
     obtain ⟨b10, hb10⟩ : ∃ b, b = w10.heap.size := ⟨_, rfl⟩
     obtain ⟨y10, hy10⟩ : ∃ y, y = w10.alloc (.cells #[.int .i64 4, .slice a100 n100 e100, .int .i64 1, .int .i64 2, .int .i64 5, .slice a101 n101 e101, .slice a102 n102 e102, .slice a103 n103 e103] 33) := ⟨_, rfl⟩
     have hn10 : Below w10.heap.size w10 y10 := by rw [hy10]; exact below_new _ _
     have K10 : Hid (BoxAt b10 [.int .i64 4, .slice a100 n100 e100, .int .i64 1, .int .i64 2, .int .i64 5, .slice a101 n101 e101, .slice a102 n102 e102, .slice a103 n103 e103] y10) := Lib.hid (by rw [hb10, hy10]; exact boxAt_new w10 [.int .i64 4, .slice a100 n100 e100, .int .i64 1, .int .i64 2, .int .i64 5, .slice a101 n101 e101, .slice a102 n102 e102, .slice a103 n103 e103] _)
     have N10 := Lib.hid hn10
     rw [← hy10, ← hb10]
     clear hy10 hb10 hn10
     have D10 := Lib.hid (below_step' Q10.out N10.out)
     have B10 := Lib.hid (below_step' B8.out D10.out)
     have H10' := Lib.hid (H10.out.later N10.out)
     clear H10
     have H10 := Lib.hid H10'.out
     clear H10'
     have K1' := Lib.hid (K1.out.below D10.out)
     clear K1
     have K1 := Lib.hid K1'.out
     clear K1'
     have HG' := Lib.hid (HG.out.later D10.out)
     clear HG
     have HG := Lib.hid HG'.out
     clear HG'
     have K2' := Lib.hid (K2.out.below D10.out)
     clear K2
     have K2 := Lib.hid K2'.out
     clear K2'
     have H2' := Lib.hid (H2.out.later D10.out)
     clear H2
     have H2 := Lib.hid H2'.out
     clear H2'
     have K3' := Lib.hid (K3.out.below D10.out)
     clear K3
     have K3 := Lib.hid K3'.out
     clear K3'
     have K4' := Lib.hid (K4.out.below D10.out)
     clear K4
     have K4 := Lib.hid K4'.out
     clear K4'
     have H4' := Lib.hid (H4.out.later D10.out)
     clear H4
     have H4 := Lib.hid H4'.out
     clear H4'
     have K5' := Lib.hid (K5.out.below D10.out)
     clear K5
     have K5 := Lib.hid K5'.out
     clear K5'
     have H5' := Lib.hid (H5.out.later D10.out)
     clear H5
     have H5 := Lib.hid H5'.out
     clear H5'
     have K7' := Lib.hid (K7.out.below D10.out)
     clear K7
     have K7 := Lib.hid K7'.out
     clear K7'
     have H7' := Lib.hid (H7.out.later D10.out)
     clear H7
     have H7 := Lib.hid H7'.out
     clear H7'
     have K8' := Lib.hid (K8.out.below D10.out)
     clear K8
     have K8 := Lib.hid K8'.out
     clear K8'
     have H8' := Lib.hid (H8.out.later D10.out)
     clear H8
     have H8 := Lib.hid H8'.out
     clear H8'
     clear Q10 N10 D10 B8
     have x2_0 := K2.out 0 _ rfl
     have x2_1 := K2.out 1 _ rfl
     have x2_2 := K2.out 2 _ rfl
     have x2_3 := K2.out 3 _ rfl
     have x2_4 := K2.out 4 _ rfl
     have x2_5 := K2.out 5 _ rfl
     have x2_6 := K2.out 6 _ rfl
     have x2_7 := K2.out 7 _ rfl
     have x1_0 := K1.out 0 _ rfl
     have x1_1 := K1.out 1 _ rfl
     have x1_2 := K1.out 2 _ rfl
     have x1_3 := K1.out 3 _ rfl
     have x1_4 := K1.out 4 _ rfl
     go_wp2_with fail
     refine (F_mark4 _ _ _ _ _ _ y10 H2.out.weak HG.out).mono ?_
     rintro e w12 ⟨v0, v1, v2, v3, rfl, hU, hb⟩
     obtain ⟨a120, a121, a122, a123, n120, n121, n122, n123, e120, e121, e122, e123, ff0, ff1, ff2, ff3⟩ := mk_slices hU.weak
     subst ff0
     subst ff1
     subst ff2
     subst ff3
     rw [mF0_v]
     have H12 := Lib.hid hU
     have Q12 := Lib.hid hb
     clear hU hb x2_0 x2_1 x2_2 x2_3 x2_4 x2_5 x2_6 x2_7 x1_0 x1_1 x1_2 x1_3 x1_4
     go_upto_region 12 with fail
     obtain ⟨b12, hb12⟩ : ∃ b, b = w12.heap.size := ⟨_, rfl⟩
     obtain ⟨y12, hy12⟩ : ∃ y, y = w12.alloc (.cells #[.int .i64 3, .slice a120 n120 e120, .int .i64 1, .int .i64 2, .int .i64 5, .slice a121 n121 e121, .slice a122 n122 e122, .slice a123 n123 e123] 33) := ⟨_, rfl⟩
     have hn12 : Below w12.heap.size w12 y12 := by rw [hy12]; exact below_new _ _
     have K12 : Hid (BoxAt b12 [.int .i64 3, .slice a120 n120 e120, .int .i64 1, .int .i64 2, .int .i64 5, .slice a121 n121 e121, .slice a122 n122 e122, .slice a123 n123 e123] y12) := Lib.hid (by rw [hb12, hy12]; exact boxAt_new w12 [.int .i64 3, .slice a120 n120 e120, .int .i64 1, .int .i64 2, .int .i64 5, .slice a121 n121 e121, .slice a122 n122 e122, .slice a123 n123 e123] _)
     have N12 := Lib.hid hn12
     rw [← hy12, ← hb12]
     clear hy12 hb12 hn12
     have D12 := Lib.hid (below_step' Q12.out N12.out)
     have B12 := Lib.hid (below_step' B10.out D12.out)
     have H12' := Lib.hid (H12.out.later N12.out)
     clear H12
     have H12 := Lib.hid H12'.out
     clear H12'
     have K1' := Lib.hid (K1.out.below D12.out)
     clear K1
     have K1 := Lib.hid K1'.out
     clear K1'
     have HG' := Lib.hid (HG.out.later D12.out)
     clear HG
     have HG := Lib.hid HG'.out
     clear HG'
     have K2' := Lib.hid (K2.out.below D12.out)
     clear K2
     have K2 := Lib.hid K2'.out
     clear K2'
     have H2' := Lib.hid (H2.out.later D12.out)
     clear H2
     have H2 := Lib.hid H2'.out
     clear H2'
     have K3' := Lib.hid (K3.out.below D12.out)
     clear K3
     have K3 := Lib.hid K3'.out
     clear K3'
     have K4' := Lib.hid (K4.out.below D12.out)
     clear K4
     have K4 := Lib.hid K4'.out
     clear K4'
     have H4' := Lib.hid (H4.out.later D12.out)
     clear H4
     have H4 := Lib.hid H4'.out
     clear H4'
     have K5' := Lib.hid (K5.out.below D12.out)
     clear K5
     have K5 := Lib.hid K5'.out
     clear K5'
     have H5' := Lib.hid (H5.out.later D12.out)
     clear H5
     have H5 := Lib.hid H5'.out
     clear H5'
     have K7' := Lib.hid (K7.out.below D12.out)
     clear K7
     have K7 := Lib.hid K7'.out
     clear K7'
     have H7' := Lib.hid (H7.out.later D12.out)
     clear H7
     have H7 := Lib.hid H7'.out
     clear H7'
     have K8' := Lib.hid (K8.out.below D12.out)
     clear K8
     have K8 := Lib.hid K8'.out
     clear K8'
     have H8' := Lib.hid (H8.out.later D12.out)
     clear H8
     have H8 := Lib.hid H8'.out
     clear H8'
     have K10' := Lib.hid (K10.out.below D12.out)
     clear K10
     have K10 := Lib.hid K10'.out
     clear K10'
     have H10' := Lib.hid (H10.out.later D12.out)
     clear H10
     have H10 := Lib.hid H10'.out
     clear H10'
     clear Q12 N12 D12 B10
     have l82 : n82 = 2 := lls_len (pc_has (mk_has H8.out.weak).2).2.1
     have l100 : n100 = 2 := bools_len (mk_has H10.out.weak).1
     subst l82
     subst l100
     have x8_0 := K8.out 0 _ rfl
     have x8_1 := K8.out 1 _ rfl
     have x8_2 := K8.out 2 _ rfl
     have x8_3 := K8.out 3 _ rfl
     have x8_4 := K8.out 4 _ rfl
     have x8_5 := K8.out 5 _ rfl
     have x8_6 := K8.out 6 _ rfl
     have x8_7 := K8.out 7 _ rfl
     have x10_0 := K10.out 0 _ rfl
     have x10_1 := K10.out 1 _ rfl
     have x10_2 := K10.out 2 _ rfl
     have x10_3 := K10.out 3 _ rfl
     have x10_4 := K10.out 4 _ rfl
     have x10_5 := K10.out 5 _ rfl
     have x10_6 := K10.out 6 _ rfl
     have x10_7 := K10.out 7 _ rfl
     go_upto_region 14 with fail
     clear x8_0 x8_1 x8_2 x8_3 x8_4 x8_5 x8_6 x8_7 x10_0 x10_1 x10_2 x10_3 x10_4 x10_5 x10_6 x10_7
     obtain ⟨F2, -, hF2, -⟩ := H2.out.focus (j := 0) rfl rfl
     obtain ⟨c2, z2, -, -, x20, -, -⟩ := bl_focus hF2 (i := 0) (x := true) rfl
     subst z2
     obtain ⟨c2', z2, -, -, x21, -, -⟩ := bl_focus hF2 (i := 1) (x := true) rfl
     cases z2
     obtain ⟨F8, -, hF8, -⟩ := H8.out.focus (j := 2) rfl rfl
     obtain ⟨c8, Q8, ma, mc, z2, -, -, -, x80, -, -, -, hL8, -⟩ := lls_focus hF8 (i := 0) (m := [(1, 2)]) rfl
     subst z2
     obtain ⟨c8', Q8', mb, md, z2, -, -, -, x81, -, -, -, -, -⟩ := lls_focus hF8 (i := 1) (m := []) rfl
     cases z2
     obtain ⟨F10, -, hF10, -⟩ := H10.out.focus (j := 0) rfl rfl
     obtain ⟨c10, z2, -, -, x100, -, -⟩ := bl_focus hF10 (i := 0) (x := true) rfl
     subst z2
     obtain ⟨c10', z2, -, -, x101, -, -⟩ := bl_focus hF10 (i := 1) (x := false) rfl
     cases z2
     have HL8 : Hid (Has y12 (.slice ma 1 mc) (dLinks [(1, 2)])) := Lib.hid hL8.weak
     clear hF2 hF8 hF10 hL8
     obtain ⟨SX, hSX⟩ : ∃ S : World → Prop, ∀ w, S w ↔ (fun wz => wz.cell? ⟨b2, 0, none⟩ = some (.int .i64 3) ∧ wz.cell? ⟨b2, 1, none⟩ = some (.slice (some ⟨c2, 0, none⟩) 2 e20) ∧ wz.cell? ⟨b2, 2, none⟩ = some (.int .i64 1) ∧ wz.cell? ⟨b2, 3, none⟩ = some (.int .i64 2) ∧ wz.cell? ⟨b2, 4, none⟩ = some (.int .i64 5) ∧ wz.cell? ⟨b2, 5, none⟩ = some (.slice a21 n21 e21) ∧ wz.cell? ⟨b2, 6, none⟩ = some (.slice a22 2 e22) ∧ wz.cell? ⟨b2, 7, none⟩ = some (.slice a23 n23 e23) ∧ wz.cell? ⟨c2, 0, none⟩ = some (.bool true) ∧ wz.cell? ⟨c2, 1, none⟩ = some (.bool true) ∧ wz.cell? ⟨b3, 0, none⟩ = some (.int .i64 1) ∧ wz.cell? ⟨b3, 1, none⟩ = some (.int .i64 2) ∧ wz.cell? ⟨b8, 0, none⟩ = some (.int .i64 3) ∧ wz.cell? ⟨b8, 1, none⟩ = some (.slice a80 n80 e80) ∧ wz.cell? ⟨b8, 2, none⟩ = some (.int .i64 1) ∧ wz.cell? ⟨b8, 3, none⟩ = some (.int .i64 2) ∧ wz.cell? ⟨b8, 4, none⟩ = some (.int .i64 5) ∧ wz.cell? ⟨b8, 5, none⟩ = some (.slice a81 n81 e81) ∧ wz.cell? ⟨b8, 6, none⟩ = some (.slice (some ⟨c8, 0, none⟩) 2 e82) ∧ wz.cell? ⟨b8, 7, none⟩ = some (.slice a83 n83 e83) ∧ wz.cell? ⟨c8, 0, none⟩ = some (.slice ma 1 mc) ∧ wz.cell? ⟨c8, 1, none⟩ = some (.slice mb 0 md) ∧ wz.cell? ⟨b10, 0, none⟩ = some (.int .i64 4) ∧ wz.cell? ⟨b10, 1, none⟩ = some (.slice (some ⟨c10, 0, none⟩) 2 e100) ∧ wz.cell? ⟨c10, 0, none⟩ = some (.bool true) ∧ wz.cell? ⟨c10, 1, none⟩ = some (.bool false) ∧ wz.cell? ⟨b12, 0, none⟩ = some (.int .i64 3) ∧ wz.cell? ⟨b12, 1, none⟩ = some (.slice a120 n120 e120) ∧ wz.cell? ⟨b12, 2, none⟩ = some (.int .i64 1) ∧ wz.cell? ⟨b12, 3, none⟩ = some (.int .i64 2) ∧ wz.cell? ⟨b12, 4, none⟩ = some (.int .i64 5) ∧ wz.cell? ⟨b12, 5, none⟩ = some (.slice a121 n121 e121) ∧ wz.cell? ⟨b12, 6, none⟩ = some (.slice a122 n122 e122) ∧ wz.cell? ⟨b12, 7, none⟩ = some (.slice a123 n123 e123)) w := ⟨(fun wz => wz.cell? ⟨b2, 0, none⟩ = some (.int .i64 3) ∧ wz.cell? ⟨b2, 1, none⟩ = some (.slice (some ⟨c2, 0, none⟩) 2 e20) ∧ wz.cell? ⟨b2, 2, none⟩ = some (.int .i64 1) ∧ wz.cell? ⟨b2, 3, none⟩ = some (.int .i64 2) ∧ wz.cell? ⟨b2, 4, none⟩ = some (.int .i64 5) ∧ wz.cell? ⟨b2, 5, none⟩ = some (.slice a21 n21 e21) ∧ wz.cell? ⟨b2, 6, none⟩ = some (.slice a22 2 e22) ∧ wz.cell? ⟨b2, 7, none⟩ = some (.slice a23 n23 e23) ∧ wz.cell? ⟨c2, 0, none⟩ = some (.bool true) ∧ wz.cell? ⟨c2, 1, none⟩ = some (.bool true) ∧ wz.cell? ⟨b3, 0, none⟩ = some (.int .i64 1) ∧ wz.cell? ⟨b3, 1, none⟩ = some (.int .i64 2) ∧ wz.cell? ⟨b8, 0, none⟩ = some (.int .i64 3) ∧ wz.cell? ⟨b8, 1, none⟩ = some (.slice a80 n80 e80) ∧ wz.cell? ⟨b8, 2, none⟩ = some (.int .i64 1) ∧ wz.cell? ⟨b8, 3, none⟩ = some (.int .i64 2) ∧ wz.cell? ⟨b8, 4, none⟩ = some (.int .i64 5) ∧ wz.cell? ⟨b8, 5, none⟩ = some (.slice a81 n81 e81) ∧ wz.cell? ⟨b8, 6, none⟩ = some (.slice (some ⟨c8, 0, none⟩) 2 e82) ∧ wz.cell? ⟨b8, 7, none⟩ = some (.slice a83 n83 e83) ∧ wz.cell? ⟨c8, 0, none⟩ = some (.slice ma 1 mc) ∧ wz.cell? ⟨c8, 1, none⟩ = some (.slice mb 0 md) ∧ wz.cell? ⟨b10, 0, none⟩ = some (.int .i64 4) ∧ wz.cell? ⟨b10, 1, none⟩ = some (.slice (some ⟨c10, 0, none⟩) 2 e100) ∧ wz.cell? ⟨c10, 0, none⟩ = some (.bool true) ∧ wz.cell? ⟨c10, 1, none⟩ = some (.bool false) ∧ wz.cell? ⟨b12, 0, none⟩ = some (.int .i64 3) ∧ wz.cell? ⟨b12, 1, none⟩ = some (.slice a120 n120 e120) ∧ wz.cell? ⟨b12, 2, none⟩ = some (.int .i64 1) ∧ wz.cell? ⟨b12, 3, none⟩ = some (.int .i64 2) ∧ wz.cell? ⟨b12, 4, none⟩ = some (.int .i64 5) ∧ wz.cell? ⟨b12, 5, none⟩ = some (.slice a121 n121 e121) ∧ wz.cell? ⟨b12, 6, none⟩ = some (.slice a122 n122 e122) ∧ wz.cell? ⟨b12, 7, none⟩ = some (.slice a123 n123 e123)), fun _ => Iff.rfl⟩
     have HSX := Lib.hid hSX
     clear hSX
     have SS : Hid (∀ w', Below y12.heap.size y12 w' → SX w') := Lib.hid (fun w' hb => (HSX.out w').2 ⟨K2.out.below hb 0 _ rfl, K2.out.below hb 1 _ rfl, K2.out.below hb 2 _ rfl, K2.out.below hb 3 _ rfl, K2.out.below hb 4 _ rfl, K2.out.below hb 5 _ rfl, K2.out.below hb 6 _ rfl, K2.out.below hb 7 _ rfl, (hb.cell (World.block_lt_of_cell? y12 _ x20)).trans x20, (hb.cell (World.block_lt_of_cell? y12 _ x21)).trans x21, K3.out.below hb 0 _ rfl, K3.out.below hb 1 _ rfl, K8.out.below hb 0 _ rfl, K8.out.below hb 1 _ rfl, K8.out.below hb 2 _ rfl, K8.out.below hb 3 _ rfl, K8.out.below hb 4 _ rfl, K8.out.below hb 5 _ rfl, K8.out.below hb 6 _ rfl, K8.out.below hb 7 _ rfl, (hb.cell (World.block_lt_of_cell? y12 _ x80)).trans x80, (hb.cell (World.block_lt_of_cell? y12 _ x81)).trans x81, K10.out.below hb 0 _ rfl, K10.out.below hb 1 _ rfl, (hb.cell (World.block_lt_of_cell? y12 _ x100)).trans x100, (hb.cell (World.block_lt_of_cell? y12 _ x101)).trans x101, K12.out.below hb 0 _ rfl, K12.out.below hb 1 _ rfl, K12.out.below hb 2 _ rfl, K12.out.below hb 3 _ rfl, K12.out.below hb 4 _ rfl, K12.out.below hb 5 _ rfl, K12.out.below hb 6 _ rfl, K12.out.below hb 7 _ rfl⟩)
     clear x20 x21 x80 x81 x100 x101 K1 K2 K3 K4 K5 K7 K8 K10 K12 H4 H5 H7 HG H10
     as_aux_lemma =>
      refine wp_region_held_drew (S := SX) (by kernel_rfl) ?_ (fun hHeld => ?_)
      · exact SS.out _ (below_drewN (Below.refl _ y12) 1)
      obtain ⟨z0, hz0⟩ : ∃ y, y = y12.drew := ⟨_, rfl⟩
      rw [← hz0] at hHeld ⊢
      have Z0 : Hid (Below y12.heap.size y12 z0) := Lib.hid (by rw [hz0]; exact below_drewN (Below.refl _ y12) 1)
      clear hz0
      refine tq 0 ?_
      refine tq 1 ?_ (hy := by intro w hSw; have q := (HSX.out w).1 hSw; clear hSw; (try dsimp only at q); go_simp; try (with_reducible rfl))
      refine tq 2 ?_
      refine tq 3 ?_
      refine tq 4 ?_
      refine tq 5 ?_ (hy := by intro w hSw; have q := (HSX.out w).1 hSw; clear hSw; (try dsimp only at q); go_simp; try (with_reducible rfl))
      refine tq 6 ?_
      refine tq 7 ?_ (hy := by intro w hSw; have q := (HSX.out w).1 hSw; clear hSw; (try dsimp only at q); go_simp; try (with_reducible rfl))
      refine tq 8 ?_
      refine tq 9 ?_
      refine tq 10 ?_
      as_aux_lemma =>
       refine tq 11 ?_ (hy := by intro w hSw; have q := (HSX.out w).1 hSw; clear hSw; (try dsimp only at q); go_simp; try (with_reducible rfl))
       refine tq 12 ?_
       refine tq 13 ?_ (hy := by intro w hSw; have q := (HSX.out w).1 hSw; clear hSw; (try dsimp only at q); go_simp; try (with_reducible rfl))
       refine tq 14 ?_
       refine tq 15 ?_
       refine tq 16 ?_
       refine tq 17 ?_
       refine tq 18 ?_ (hy := by intro w hSw; have q := (HSX.out w).1 hSw; clear hSw; (try dsimp only at q); go_simp; try (with_reducible rfl))
       refine tq 19 ?_
       refine tq 20 ?_
       refine tq 21 ?_
       refine tq 22 ?_ (hy := by intro w hSw; have q := (HSX.out w).1 hSw; clear hSw; (try dsimp only at q); go_simp; try (with_reducible rfl))
       as_aux_lemma =>
        refine rd 23 fun K hK => ?_
        go_simp
        refine (F_done1 _ _ _ _ z0 (H2.out.weak.later Z0.out)).mono ?_
        rintro e z1 ⟨rfl, hb⟩
        have Z1 := Lib.hid (below_step' Z0.out hb)
        clear hb
        go_wp2_with fail
        refine hK.out _ _ ?_ (fun hHeld => ?_)
        · exact SS.out _ Z1.out
        clear hK K
        refine tq 24 ?_
        refine tq 25 ?_
        refine tq 26 ?_
        refine tq 27 ?_
        refine tq 28 ?_
        refine tq 29 ?_
        refine tq 30 ?_
        refine tq 31 ?_
        refine tq 32 ?_
        refine tq 33 ?_
        refine tq 34 ?_
        as_aux_lemma =>
         refine tq 35 ?_ (hy := by intro w hSw; have q := (HSX.out w).1 hSw; clear hSw; (try dsimp only at q); go_simp; try (with_reducible rfl))
         refine rd 36 fun K hK => ?_
         go_simp
         refine (F_done2 _ _ _ _ z1 (H8.out.weak.later Z1.out)).mono ?_
         rintro e z2 ⟨rfl, hb⟩
         have Z2 := Lib.hid (below_step' Z1.out hb)
         clear hb
         go_wp2_with fail
         refine hK.out _ _ ?_ (fun hHeld => ?_)
         · exact SS.out _ Z2.out
         clear hK K
         refine tq 37 ?_
         refine tq 38 ?_
         refine tq 39 ?_ (hy := by intro w hSw; have q := (HSX.out w).1 hSw; clear hSw; (try dsimp only at q); go_simp; try (with_reducible rfl))
         refine rd 40 fun K hK => ?_
         go_simp
         refine (F_done3 _ _ _ _ z2 (H8.out.weak.later Z2.out)).mono ?_
         rintro e z3 ⟨rfl, hb⟩
         have Z3 := Lib.hid (below_step' Z2.out hb)
         clear hb
         go_wp2_with fail
         refine hK.out _ _ ?_ (fun hHeld => ?_)
         · exact SS.out _ Z3.out
         clear hK K
         refine tq 41 ?_
         refine tq 42 ?_
         refine tq 43 ?_
         refine tq 44 ?_
         refine tq 49 ?_ (hy := by intro w hSw; have q := (HSX.out w).1 hSw; clear hSw; (try dsimp only at q); go_simp; try (with_reducible rfl))
         refine tq 45 ?_
         as_aux_lemma =>
          refine tq 46 ?_ (hy := by intro w hSw; have q := (HSX.out w).1 hSw; clear hSw; (try dsimp only at q); go_simp; try (with_reducible rfl))
          refine tq 47 ?_
          refine tq 48 ?_ (hy := by intro w hSw; have q := (HSX.out w).1 hSw; clear hSw; (try dsimp only at q); go_simp; try (with_reducible rfl))
          refine rd 50 fun K hK => ?_
          go_simp
          obtain ⟨bs, hbs⟩ : ∃ b, b = z3.heap.size := ⟨_, rfl⟩
          obtain ⟨z4, hz⟩ : ∃ y, y = z3.alloc (.cells #[.int .i64 1, .int .i64 2] 38) := ⟨_, rfl⟩
          have Z4 : Hid (Below y12.heap.size y12 z4) := Lib.hid (by rw [hz]; exact below_step' Z3.out (below_new _ _))
          have HS : Hid (Has z4 (.slice (some ⟨bs, 0, none⟩) 1 1) (dLinks [(1, 2)])) := Lib.hid (by rw [hbs, hz]; exact has_new 38 (n := 2) (xs := [[dI 1, dI 2]]) (by simp) rfl (by omega) (hl_int (hl_int hl_nil)))
          rw [← hz, ← hbs]
          clear hz hbs
          refine hK.out _ _ ?_ (fun hHeld => ?_)
          · exact SS.out _ Z4.out
          clear hK K
          refine rd 51 fun K hK => ?_
          go_simp
          refine (rmsgs_at [(1, 2)] [(1, 2)] true _ _ z4 (HL8.out.later Z4.out) HS.out (by simp) (by simp)).mono ?_
          rintro e z5 ⟨rfl, hb⟩
          have Z5 := Lib.hid (below_step' Z4.out hb)
          clear hb
          go_wp2_with fail
          refine hK.out _ _ ?_ (fun hHeld => ?_)
          · exact SS.out _ Z5.out
          clear hK K
          refine tq 52 ?_
          refine tq 53 ?_
          refine tq 54 ?_
          refine tq 55 ?_
          refine tq 56 ?_ (hy := by intro w hSw; have q := (HSX.out w).1 hSw; clear hSw; (try dsimp only at q); go_simp; try (with_reducible rfl))
          refine tq 57 ?_
          refine tq 58 ?_ (hy := by intro w hSw; have q := (HSX.out w).1 hSw; clear hSw; (try dsimp only at q); go_simp; try (with_reducible rfl))
          as_aux_lemma =>
           refine tq 59 ?_
           refine tq 60 ?_
           refine tq 61 ?_
           refine tq 62 ?_
           refine tq 63 ?_
           refine tq 64 ?_
           refine tq 65 ?_
           refine tq 66 ?_
           refine tq 67 ?_ (hy := by intro w hSw; have q := (HSX.out w).1 hSw; clear hSw; (try dsimp only at q); go_simp; try (with_reducible rfl))
           refine tq 68 ?_
           refine tq 69 ?_
           refine tq 70 ?_
           as_aux_lemma =>
            refine tq 71 ?_
            refine tq 72 ?_ (hy := by intro w hSw; have q := (HSX.out w).1 hSw; clear hSw; (try dsimp only at q); go_simp; try (with_reducible rfl))
            refine tq 73 ?_
            refine tq 74 ?_ (hy := by intro w hSw; have q := (HSX.out w).1 hSw; clear hSw; (try dsimp only at q); go_simp; try (with_reducible rfl))
            refine tq 75 ?_
            refine tq 76 ?_
            refine tq 77 ?_
            refine tq 78 ?_ (hy := by intro w hSw; have q := (HSX.out w).1 hSw; clear hSw; (try dsimp only at q); go_simp; try (with_reducible rfl))
            refine tq 79 ?_
            refine tq 80 ?_ (hy := by intro w hSw; have q := (HSX.out w).1 hSw; clear hSw; (try dsimp only at q); go_simp; try (with_reducible rfl))
            refine tq 81 ?_
            refine tq 82 ?_
            as_aux_lemma =>
             refine tq 83 ?_
             refine tq 84 ?_ (hy := by intro w hSw; have q := (HSX.out w).1 hSw; clear hSw; (try dsimp only at q); go_simp; try (with_reducible rfl))
             refine tq 86 ?_ (hy := by intro w hSw; have q := (HSX.out w).1 hSw; clear hSw; (try dsimp only at q); go_simp; try (with_reducible rfl))
             refine rd 85 fun K hK => ?_
             go_simp
             refine (F_ref0 _ _ _ _ z5 ⟨_, _, _, _, _, _, _, _, _, _, _, _, rfl, rfl, rfl, rfl⟩).mono ?_
             rintro e z6 ⟨rfl, hb⟩
             have Z6 := Lib.hid (below_step' Z5.out hb)
             clear hb
             go_wp2_with fail
             refine hK.out _ _ ?_ (fun hHeld => ?_)
             · exact SS.out _ Z6.out
             clear hK K
             refine rd 87 fun K hK => ?_
             go_simp
             refine (F_ref0 _ _ _ _ z6 ⟨_, _, _, _, _, _, _, _, _, _, _, _, rfl, rfl, rfl, rfl⟩).mono ?_
             rintro e z7 ⟨rfl, hb⟩
             have Z7 := Lib.hid (below_step' Z6.out hb)
             clear hb
             go_wp2_with fail
             refine hK.out _ _ ?_ (fun hHeld => ?_)
             · exact SS.out _ Z7.out
             clear hK K
             refine rd 88 fun K hK => ?_
             go_simp
             refine (F_same0 _ _ _ _ _ _ _ _ z7 (H12.out.weak.later Z7.out) (H2.out.weak.later Z7.out)).mono ?_
             rintro e z8 ⟨rfl, hb⟩
             have Z8 := Lib.hid (below_step' Z7.out hb)
             clear hb
             go_wp2_with fail
             refine hK.out _ _ ?_ (fun hHeld => ?_)
             · exact SS.out _ Z8.out
             clear hK K
             refine tq 89 ?_
             refine tq 90 ?_
             refine tq 91 ?_
             refine tq 92 ?_
             refine tq 93 ?_
             refine tq 94 ?_
             as_aux_lemma =>
              refine tq 95 ?_
              refine tq 96 ?_ (hy := by intro w hSw; have q := (HSX.out w).1 hSw; clear hSw; (try dsimp only at q); go_simp; try (with_reducible rfl))
              refine tq 99 ?_
              refine rd 97 fun K hK => ?_
              go_simp
              refine (F_app3 (.slice none 0 0) (.slice none 0 0) (.slice none 0 0) (.slice none 0 0) z8 (.mk (.nil _ _ _ _ _) (.mk (.nil _ _ _ _ _) (.mk (.nil _ _ _ _ _) (.mk (.nil _ _ _ _ _) (hasL_nil _ _ _)))))).mono ?_
              rintro e z9 ⟨v0, v1, v2, v3, rfl, hU, hb⟩
              obtain ⟨a90, a91, a92, a93, n90, n91, n92, n93, e90, e91, e92, e93, ff0, ff1, ff2, ff3⟩ := mk_slices hU.weak
              subst ff0
              subst ff1
              subst ff2
              subst ff3
              rw [mZ_v]
              have HZ : Hid (HasL z9 [.slice a90 n90 e90, .slice a91 n91 e91, .slice a92 n92 e92, .slice a93 n93 e93] Mk.zero.d) := Lib.hid hU.weak
              have Z9 := Lib.hid (below_step' Z8.out hb)
              clear hU hb
              go_wp2_with fail
              refine hK.out _ _ ?_ (fun hHeld => ?_)
              · exact SS.out _ Z9.out
              clear hK K
              refine rd 98 fun K hK => ?_
              go_simp
              refine (F_refz _ _ _ _ z9 ⟨_, _, _, _, _, _, _, _, _, _, _, _, rfl, rfl, rfl, rfl⟩).mono ?_
              rintro e z10 ⟨rfl, hb⟩
              have Z10 := Lib.hid (below_step' Z9.out hb)
              have HZ2 := Lib.hid (HZ.out.later hb)
              clear hb
              go_wp2_with fail
              refine hK.out _ _ ?_ (fun hHeld => ?_)
              · exact SS.out _ Z10.out
              clear hK K
              refine rd 100 fun K hK => ?_
              go_simp
              refine (F_samez _ _ _ _ (.slice none 0 0) (.slice none 0 0) (.slice none 0 0) (.slice none 0 0) z10 HZ2.out (.mk (.nil _ _ _ _ _) (.mk (.nil _ _ _ _ _) (.mk (.nil _ _ _ _ _) (.mk (.nil _ _ _ _ _) (hasL_nil _ _ _)))))).mono ?_
              rintro e z11 ⟨rfl, hb⟩
              have Z11 := Lib.hid (below_step' Z10.out hb)
              clear hb
              go_wp2_with fail
              refine hK.out _ _ ?_ (fun hHeld => ?_)
              · exact SS.out _ Z11.out
              clear hK K
              refine tq 101 ?_
              refine tq 102 ?_
              skip
              refine wpAnyH_done (by kernel_rfl) ?_ _
              clear hHeld
              go_wp2_with fail
              go_ret
              exact ⟨rfl, below_step' B12.out Z11.out⟩
end Go.Proofs.Ytlhclnhdcenkhaa
