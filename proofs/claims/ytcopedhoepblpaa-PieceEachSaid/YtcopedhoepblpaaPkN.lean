/- fixed: calls whose answers the document fixes. Written by gen_pfixed.py. -/
import Derived.Test.YtcopedhoepblpaaPkM
import Derived.Test.YtcopedhoepblpaaPkK
import Derived.Test.YtcopedhoepblpaaPkF
import Derived.Deep.CutRange
set_option linter.unusedSimpArgs false
set_option linter.unusedVariables false
set_option maxRecDepth 100000
namespace Go.Proofs.Ytcopedhoepblpaa
open Go.RowKit Go.PlainAid

def fP : Pc := ⟨1, 2, 3, [], [], []⟩
def fQ : Pc := ⟨1, 0, 0, [4], [[(2, 3)]], [[0, 1]]⟩
def f6 : Pc := ⟨6, 0, 0, [], [], []⟩
theorem fP_ok : okB fP = true := by decide
theorem fQ_ok : okB fQ = true := by decide
theorem f6_no : okB f6 = false := by decide
theorem fP_enc : encR fP = (strB [1, 2, 3, 0, 0, 0], 0) := by unfold encR; rw [if_pos fP_ok]; rfl
theorem fQ_enc : encR fQ = (strB [1, 0, 0, 1, 4, 1, 1, 2, 3, 1, 2, 0, 1], 0) := by unfold encR; rw [if_pos fQ_ok]; rfl
theorem f6_enc : encR f6 = (strB [], 4) := by unfold encR; rw [if_neg (by rw [f6_no]; simp)]
theorem fQ_dec : decR (strB [1, 0, 0, 1, 4, 1, 1, 2, 3, 1, 2, 0, 1]) = (fQ, 0) := decR_ok.2 ⟨fQ_ok, rfl⟩
theorem f1_dec : decR (strB [1]) = (Pc.zero, 4) := by
  rcases decR_cases (strB [1]) with ⟨p, h⟩ | h
  · obtain ⟨h1, h2⟩ := decR_ok.1 h
    have h3 := all_nums h1
    rw [h2] at h3
    have h4 : allR (strB [1]) = (0, [1]) := by
      have := allR_puts [1]
      exact this
    rw [h4] at h3
    have h5 : ([1] : List Int) = numsOf p := congrArg Prod.snd h3
    have h6 := congrArg List.length h5
    simp [numsOf, intsN] at h6
  · exact h
theorem fP0_dec : decR (strB [1, 2, 3, 0, 0, 0, 0]) = (Pc.zero, 4) := by
  rcases decR_cases (strB [1, 2, 3, 0, 0, 0, 0]) with ⟨p, h⟩ | h
  · obtain ⟨h1, h2⟩ := decR_ok.1 h
    have h3 := all_nums h1
    rw [h2] at h3
    have h4 : allR (strB [1, 2, 3, 0, 0, 0, 0]) = (0, [1, 2, 3, 0, 0, 0, 0]) := allR_puts [1, 2, 3, 0, 0, 0, 0]
    rw [h4] at h3
    have h5 : ([1, 2, 3, 0, 0, 0, 0] : List Int) = numsOf p := congrArg Prod.snd h3
    have h6 : numsOf p = numsOf fP ++ [0] := h5.symm
    have := nums_apart h1 fP_ok h6
    simp at this
  · exact h
theorem smallP {p : Pc} (h : okB p = true) : SmallPc p := small_of_ok h
theorem six_small : SmallPc f6 := ⟨by decide, by decide, by decide, (by intro m hm; cases hm), (by intro m hm; cases hm)⟩
theorem fPQ : ¬ fP = fQ := by intro h; cases h
theorem slices3 (a1 a2 a3 : Option Addr) (n1 n2 n3 e1 e2 e3 : Nat) : ∃ (b1 b2 b3 : Option Addr) (m1 m2 m3 f1 f2 f3 : Nat), Value.slice a1 n1 e1 = .slice b1 m1 f1 ∧ Value.slice a2 n2 e2 = .slice b2 m2 f2 ∧ Value.slice a3 n3 e3 = .slice b3 m3 f3 := ⟨_, _, _, _, _, _, _, _, _, rfl, rfl, rfl⟩
theorem nils (P : Nat → Prop) (w : World) (p : Pc) (h1 : p.sent = []) (h2 : p.inn = []) (h3 : p.out = []) : HoldsL False P w [.slice none 0 0, .slice none 0 0, .slice none 0 0] p.d := by
  unfold Pc.d; rw [h1, h2, h3]; exact hl_cons (.nil _ _ _ _ _) (hl_cons (.nil _ _ _ _ _) (hl_cons (.nil _ _ _ _ _) hl_nil))
set_option maxHeartbeats 8000000 in
theorem fixed6_any (w : World) : Calls Try.prog 20 #[] w fun e w' => e = .returned (.bool true) ∧ Below w.heap.size w w' := by
  obtain ⟨sv, hsv⟩ : ∃ x, x = strB [1, 2, 3, 0, 0, 0] := ⟨_, rfl⟩
  obtain ⟨tv, htv⟩ : ∃ x, x = strB [1, 0, 0, 1, 4, 1, 1, 2, 3, 1, 2, 0, 1] := ⟨_, rfl⟩
  have SV := Lib.hid hsv
  have TV := Lib.hid htv
  have EP := Lib.hid (fP_enc)
  have EQ := Lib.hid (fQ_enc)
  rw [← hsv] at EP
  rw [← htv] at EQ
  clear hsv htv
  go_enter Try.func20, Try.ntmps20
  try simp only [List.append_eq, List.cons_append, List.nil_append]
  go_upto_region 3 with fail
  obtain ⟨bp, hbp⟩ : ∃ b, b = w.heap.size := ⟨_, rfl⟩
  obtain ⟨s1, hs1⟩ : ∃ b, b = w.heap.size + 1 := ⟨_, rfl⟩
  obtain ⟨sm, hsm⟩ : ∃ b, b = w.heap.size + 1 + 1 := ⟨_, rfl⟩
  obtain ⟨s2, hs2⟩ : ∃ b, b = w.heap.size + 1 + 1 + 1 := ⟨_, rfl⟩
  obtain ⟨si, hsi⟩ : ∃ b, b = w.heap.size + 1 + 1 + 1 + 1 := ⟨_, rfl⟩
  obtain ⟨s3, hs3⟩ : ∃ b, b = w.heap.size + 1 + 1 + 1 + 1 + 1 := ⟨_, rfl⟩
  obtain ⟨bq, hbq⟩ : ∃ b, b = w.heap.size + 1 + 1 + 1 + 1 + 1 + 1 := ⟨_, rfl⟩
  obtain ⟨y1, hy1⟩ : ∃ y, y = w.alloc (.cells #[.int .i64 1, .int .i64 2, .int .i64 3, .slice none 0 0, .slice none 0 0, .slice none 0 0] 26) := ⟨_, rfl⟩
  obtain ⟨y2, hy2⟩ : ∃ y, y = y1.alloc (.cells #[.int .i64 4] 3) := ⟨_, rfl⟩
  obtain ⟨y3, hy3⟩ : ∃ y, y = y2.alloc (.cells #[.int .i64 2, .int .i64 3] 47) := ⟨_, rfl⟩
  obtain ⟨y4, hy4⟩ : ∃ y, y = y3.alloc (.cells #[.slice (some ⟨sm, 0, none⟩) 1 1] 45) := ⟨_, rfl⟩
  obtain ⟨y5, hy5⟩ : ∃ y, y = y4.alloc (.cells #[.int .i64 0, .int .i64 1] 3) := ⟨_, rfl⟩
  obtain ⟨y6, hy6⟩ : ∃ y, y = y5.alloc (.cells #[.slice (some ⟨si, 0, none⟩) 2 2] 22) := ⟨_, rfl⟩
  obtain ⟨y7, hy7⟩ : ∃ y, y = y6.alloc (.cells #[.int .i64 1, .int .i64 0, .int .i64 0, .slice (some ⟨s1, 0, none⟩) 1 1, .slice (some ⟨s2, 0, none⟩) 1 1, .slice (some ⟨s3, 0, none⟩) 1 1] 26) := ⟨_, rfl⟩
  have z1 : y1.heap.size = s1 := by rw [hy1, size_new, hs1]
  have z2 : y2.heap.size = sm := by rw [hy2, size_new, z1, hsm, hs1]
  have z3 : y3.heap.size = s2 := by rw [hy3, size_new, z2, hs2, hsm]
  have z4 : y4.heap.size = si := by rw [hy4, size_new, z3, hsi, hs2]
  have z5 : y5.heap.size = s3 := by rw [hy5, size_new, z4, hs3, hsi]
  have z6 : y6.heap.size = bq := by rw [hy6, size_new, z5, hbq, hs3]
  have b1 : Below w.heap.size w y1 := by rw [hy1]; exact below_new _ _
  have b2 : Below y1.heap.size y1 y2 := by rw [hy2]; exact below_new _ _
  have b3 : Below y2.heap.size y2 y3 := by rw [hy3]; exact below_new _ _
  have b4 : Below y3.heap.size y3 y4 := by rw [hy4]; exact below_new _ _
  have b5 : Below y4.heap.size y4 y5 := by rw [hy5]; exact below_new _ _
  have b6 : Below y5.heap.size y5 y6 := by rw [hy6]; exact below_new _ _
  have b7 : Below y6.heap.size y6 y7 := by rw [hy7]; exact below_new _ _
  have kp : BoxAt bp [.int .i64 1, .int .i64 2, .int .i64 3, .slice none 0 0, .slice none 0 0, .slice none 0 0] y1 := by rw [hbp, hy1]; exact boxAt_new w [.int .i64 1, .int .i64 2, .int .i64 3, .slice none 0 0, .slice none 0 0, .slice none 0 0] _
  have kq : BoxAt bq [.int .i64 1, .int .i64 0, .int .i64 0, .slice (some ⟨s1, 0, none⟩) 1 1, .slice (some ⟨s2, 0, none⟩) 1 1, .slice (some ⟨s3, 0, none⟩) 1 1] y7 := by rw [← z6, hy7]; exact boxAt_new y6 [.int .i64 1, .int .i64 0, .int .i64 0, .slice (some ⟨s1, 0, none⟩) 1 1, .slice (some ⟨s2, 0, none⟩) 1 1, .slice (some ⟨s3, 0, none⟩) 1 1] _
  have h1 : Has y2 (.slice (some ⟨s1, 0, none⟩) 1 1) (dInts [4]) := by rw [hy2, ← z1]; exact has_ints_new y1 [4] 1 rfl (by omega)
  have hm : Has y3 (.slice (some ⟨sm, 0, none⟩) 1 1) (dLinks [(2, 3)]) := by rw [hy3, ← z2]; exact has_new 47 (n := 2) (xs := [[dI 2, dI 3]]) (by simp) rfl (by omega) (hl_int (hl_int hl_nil))
  have h2 : Has y4 (.slice (some ⟨s2, 0, none⟩) 1 1) (dLls [[(2, 3)]]) := by rw [hy4, ← z3]; exact has_new 45 (n := 1) (xs := [[dLinks [(2, 3)]]]) (by simp) rfl (by omega) (hl_cons hm hl_nil)
  have hi : Has y5 (.slice (some ⟨si, 0, none⟩) 2 2) (dInts [0, 1]) := by rw [hy5, ← z4]; exact has_ints_new y4 [0, 1] 2 rfl (by omega)
  have h3 : Has y6 (.slice (some ⟨s3, 0, none⟩) 1 1) (dIls [[0, 1]]) := by rw [hy6, ← z5]; exact has_new 22 (n := 1) (xs := [[dInts [0, 1]]]) (by simp) rfl (by omega) (hl_cons hi hl_nil)
  have b27 := below_step' (below_step' (below_step' (below_step' b3 b4) b5) b6) b7
  have b47 := below_step' (below_step' b5 b6) b7
  have HQ : Hid (HasL y7 [.slice (some ⟨s1, 0, none⟩) 1 1, .slice (some ⟨s2, 0, none⟩) 1 1, .slice (some ⟨s3, 0, none⟩) 1 1] fQ.d) := Lib.hid (has_pc (p := fQ) (h1.later b27) (h2.later b47) (h3.later b7))
  have KP := Lib.hid (kp.below (below_step' b2 b27))
  have KQ := Lib.hid kq
  have BY := Lib.hid (below_step' b1 (below_step' b2 b27))
  simp only [← hbq]
  simp only [← hs3]
  simp only [← hsi]
  simp only [← hs2]
  simp only [← hsm]
  simp only [← hs1]
  simp only [← hbp]
  simp only [← hy1]
  simp only [← hy2]
  simp only [← hy3]
  simp only [← hy4]
  simp only [← hy5]
  simp only [← hy6]
  simp only [← hy7]
  clear hbp hs1 hsm hs2 hsi hs3 hbq hy1 hy2 hy3 hy4 hy5 hy6 hy7 z1 z2 z3 z4 z5 z6 b1 b2 b3 b4 b5 b6 b7 kp kq h1 hm h2 hi h3 b27 b47
  have p0 := KP.out 0 _ rfl
  have p1 := KP.out 1 _ rfl
  have p2 := KP.out 2 _ rfl
  have p3 := KP.out 3 _ rfl
  have p4 := KP.out 4 _ rfl
  have p5 := KP.out 5 _ rfl
  go_wp2_with fail
  refine (encode_at fP _ _ _ _ (nils All _ fP rfl rfl rfl) (smallP fP_ok)).mono ?_
  rintro e w3 ⟨rfl, hb⟩
  rw [EP.out]
  have B3 := Lib.hid hb
  clear hb p0 p1 p2 p3 p4 p5
  have q0 := KQ.out.below B3.out 0 _ rfl
  have q1 := KQ.out.below B3.out 1 _ rfl
  have q2 := KQ.out.below B3.out 2 _ rfl
  have q3 := KQ.out.below B3.out 3 _ rfl
  have q4 := KQ.out.below B3.out 4 _ rfl
  have q5 := KQ.out.below B3.out 5 _ rfl
  go_wp2_with fail
  refine (encode_at fQ _ _ _ _ (HQ.out.later B3.out) (smallP fQ_ok)).mono ?_
  rintro e w4 ⟨rfl, hb⟩
  rw [EQ.out]
  have B4 := Lib.hid (below_step' B3.out hb)
  clear hb q0 q1 q2 q3 q4 q5
  have htz : tv.size ≤ 37605 := by rw [TV.out, strB_size]; decide
  go_wp2_with fail
  refine (decode_at tv _ htz).mono ?_
  rintro e w5 ⟨v1, v2, v3, rfl, hX, hb⟩
  rw [show decR tv = (fQ, 0) by rw [TV.out]; exact fQ_dec] at hX ⊢
  have B5 := Lib.hid (below_step' B4.out hb)
  obtain ⟨a1, a2, a3, n1, n2, n3, e1, e2, e3, ee1, ee2, ee3⟩ := pc_slices hX.weak
  subst ee1
  subst ee2
  subst ee3
  obtain ⟨bx, hbx⟩ : ∃ b, b = w5.heap.size := ⟨_, rfl⟩
  obtain ⟨w6, hw6⟩ : ∃ y, y = w5.alloc (.cells #[.int .i64 1, .int .i64 0, .int .i64 0, .slice a1 n1 e1, .slice a2 n2 e2, .slice a3 n3 e3] 26) := ⟨_, rfl⟩
  have hb6 : Below w5.heap.size w5 w6 := by rw [hw6]; exact below_new _ _
  have KX : Hid (BoxAt bx [.int .i64 1, .int .i64 0, .int .i64 0, .slice a1 n1 e1, .slice a2 n2 e2, .slice a3 n3 e3] w6) := Lib.hid (by rw [hbx, hw6]; exact boxAt_new w5 [.int .i64 1, .int .i64 0, .int .i64 0, .slice a1 n1 e1, .slice a2 n2 e2, .slice a3 n3 e3] _)
  have B6 := Lib.hid (below_step' B5.out hb6)
  have HX : Hid (HasL w6 [.slice a1 n1 e1, .slice a2 n2 e2, .slice a3 n3 e3] fQ.d) := Lib.hid ((hX.later hb6).weak)
  have W6 := Lib.hid hw6
  have BXH := Lib.hid hbx
  clear hX hb hb6 hw6 hbx htz
  go_upto_region 6 with fail
  rw [show pcv fQ (.slice a1 n1 e1) (.slice a2 n2 e2) (.slice a3 n3 e3) = .agg #[.int .i64 1, .int .i64 0, .int .i64 0, .slice a1 n1 e1, .slice a2 n2 e2, .slice a3 n3 e3] from rfl]
  simp only [← BXH.out]
  simp only [show fQ.node = (1 : Int) from rfl, show fQ.state = (0 : Int) from rfl, show fQ.steps = (0 : Int) from rfl]
  rw [← W6.out]
  go_wp2_with fail
  refine (decode_at (strB [1]) _ (by decide)).mono ?_
  rintro e w7 ⟨v1, v2, v3, rfl, hX, hb⟩
  rw [f1_dec] at hX ⊢
  have B7 := Lib.hid hb
  obtain ⟨c1, c2, c3, l1, l2, l3, o1, o2, o3, ee1, ee2, ee3⟩ := pc_slices hX.weak
  subst ee1
  subst ee2
  subst ee3
  clear hX hb
  go_upto_region 7 with fail
  have B8 := Lib.hid (below_step' B7.out (below_new w7 (.cells #[.int .i64 Pc.zero.node, .int .i64 Pc.zero.state, .int .i64 Pc.zero.steps, .slice c1 l1 o1, .slice c2 l2 o2, .slice c3 l3 o3] 26)))
  obtain ⟨w8, hw8⟩ : ∃ y, y = w7.alloc (.cells #[.int .i64 Pc.zero.node, .int .i64 Pc.zero.state, .int .i64 Pc.zero.steps, .slice c1 l1 o1, .slice c2 l2 o2, .slice c3 l3 o3] 26) := ⟨_, rfl⟩
  rw [← hw8] at B8 ⊢
  clear hw8
  go_wp2_with fail
  refine (encode_at f6 _ _ _ _ (nils All _ f6 rfl rfl rfl) six_small).mono ?_
  rintro e w9 ⟨rfl, hb⟩
  rw [f6_enc]
  have B9 := Lib.hid (below_step' B8.out hb)
  clear hb
  obtain ⟨em, hem⟩ : ∃ x, x = strB [] := ⟨_, rfl⟩
  rw [← hem]
  clear hem
  go_upto_region 8 with fail
  have hsz : sv.size ≤ 100 := by rw [SV.out, strB_size]; decide
  have hcat : sv ++ (⟨#[0]⟩ : ByteArray) = strB [1, 2, 3, 0, 0, 0, 0] := by rw [SV.out, show (⟨#[0]⟩ : ByteArray) = strB [0] from rfl, strB_append]; rfl
  have HCAT := Lib.hid hcat
  clear hcat
  go_wp2_with fail
  rw [HCAT.out]
  refine (decode_at (strB [1, 2, 3, 0, 0, 0, 0]) _ (by decide)).mono ?_
  rintro e w10 ⟨v1, v2, v3, rfl, hX, hb⟩
  rw [fP0_dec] at hX ⊢
  have B10 := Lib.hid (below_step' B9.out hb)
  obtain ⟨c4, c5, c6, l4, l5, l6, o4, o5, o6, ee1, ee2, ee3⟩ := pc_slices hX.weak
  subst ee1
  subst ee2
  subst ee3
  clear hX hb
  go_upto_region 9 with fail
  obtain ⟨y9, hy9⟩ : ∃ y, y = w10.alloc (.cells #[.int .i64 Pc.zero.node, .int .i64 Pc.zero.state, .int .i64 Pc.zero.steps, .slice c4 l4 o4, .slice c5 l5 o5, .slice c6 l6 o6] 26) := ⟨_, rfl⟩
  have B11 : Hid (Below w6.heap.size w6 y9) := Lib.hid (by rw [hy9]; exact below_step' B10.out (below_new _ _))
  rw [← hy9]
  clear hy9
  have MK : Hid (∀ wz, Below y9.heap.size y9 wz → (fun wz => (wz.cell? ⟨bp, 0, none⟩ = some (.int .i64 1) ∧ wz.cell? ⟨bp, 1, none⟩ = some (.int .i64 2) ∧ wz.cell? ⟨bp, 2, none⟩ = some (.int .i64 3) ∧ wz.cell? ⟨bp, 3, none⟩ = some (.slice none 0 0) ∧ wz.cell? ⟨bp, 4, none⟩ = some (.slice none 0 0) ∧ wz.cell? ⟨bp, 5, none⟩ = some (.slice none 0 0)) ∧ (wz.cell? ⟨bq, 0, none⟩ = some (.int .i64 1) ∧ wz.cell? ⟨bq, 1, none⟩ = some (.int .i64 0) ∧ wz.cell? ⟨bq, 2, none⟩ = some (.int .i64 0) ∧ wz.cell? ⟨bq, 3, none⟩ = some (.slice (some ⟨s1, 0, none⟩) 1 1) ∧ wz.cell? ⟨bq, 4, none⟩ = some (.slice (some ⟨s2, 0, none⟩) 1 1) ∧ wz.cell? ⟨bq, 5, none⟩ = some (.slice (some ⟨s3, 0, none⟩) 1 1)) ∧ (wz.cell? ⟨bx, 0, none⟩ = some (.int .i64 1) ∧ wz.cell? ⟨bx, 1, none⟩ = some (.int .i64 0) ∧ wz.cell? ⟨bx, 2, none⟩ = some (.int .i64 0) ∧ wz.cell? ⟨bx, 3, none⟩ = some (.slice a1 n1 e1) ∧ wz.cell? ⟨bx, 4, none⟩ = some (.slice a2 n2 e2) ∧ wz.cell? ⟨bx, 5, none⟩ = some (.slice a3 n3 e3))) wz) := Lib.hid (fun wz hb => by
    have h6 := below_step' B11.out hb
    have h7 := below_step' B6.out h6
    exact ⟨⟨KP.out.below h7 0 _ rfl, KP.out.below h7 1 _ rfl, KP.out.below h7 2 _ rfl, KP.out.below h7 3 _ rfl, KP.out.below h7 4 _ rfl, KP.out.below h7 5 _ rfl⟩, ⟨KQ.out.below h7 0 _ rfl, KQ.out.below h7 1 _ rfl, KQ.out.below h7 2 _ rfl, KQ.out.below h7 3 _ rfl, KQ.out.below h7 4 _ rfl, KQ.out.below h7 5 _ rfl⟩, ⟨KX.out.below h6 0 _ rfl, KX.out.below h6 1 _ rfl, KX.out.below h6 2 _ rfl, KX.out.below h6 3 _ rfl, KX.out.below h6 4 _ rfl, KX.out.below h6 5 _ rfl⟩⟩)
  have hse1 : (sv.toList == [1, 2, 3, 0, 0, 0]) = true := by rw [SV.out, toList_data, strB_data]; decide
  have hse2 : (tv.toList == [1, 0, 0, 1, 4, 1, 1, 2, 3, 1, 2, 0, 1]) = true := by rw [TV.out, toList_data, strB_data]; decide
  refine wp_region_held_drew (S := (fun wz => (wz.cell? ⟨bp, 0, none⟩ = some (.int .i64 1) ∧ wz.cell? ⟨bp, 1, none⟩ = some (.int .i64 2) ∧ wz.cell? ⟨bp, 2, none⟩ = some (.int .i64 3) ∧ wz.cell? ⟨bp, 3, none⟩ = some (.slice none 0 0) ∧ wz.cell? ⟨bp, 4, none⟩ = some (.slice none 0 0) ∧ wz.cell? ⟨bp, 5, none⟩ = some (.slice none 0 0)) ∧ (wz.cell? ⟨bq, 0, none⟩ = some (.int .i64 1) ∧ wz.cell? ⟨bq, 1, none⟩ = some (.int .i64 0) ∧ wz.cell? ⟨bq, 2, none⟩ = some (.int .i64 0) ∧ wz.cell? ⟨bq, 3, none⟩ = some (.slice (some ⟨s1, 0, none⟩) 1 1) ∧ wz.cell? ⟨bq, 4, none⟩ = some (.slice (some ⟨s2, 0, none⟩) 1 1) ∧ wz.cell? ⟨bq, 5, none⟩ = some (.slice (some ⟨s3, 0, none⟩) 1 1)) ∧ (wz.cell? ⟨bx, 0, none⟩ = some (.int .i64 1) ∧ wz.cell? ⟨bx, 1, none⟩ = some (.int .i64 0) ∧ wz.cell? ⟨bx, 2, none⟩ = some (.int .i64 0) ∧ wz.cell? ⟨bx, 3, none⟩ = some (.slice a1 n1 e1) ∧ wz.cell? ⟨bx, 4, none⟩ = some (.slice a2 n2 e2) ∧ wz.cell? ⟨bx, 5, none⟩ = some (.slice a3 n3 e3)))) (by kernel_rfl) ?_ (fun hHeld => ?_)
  · exact MK.out _ (below_drewN (Below.refl y9.heap.size y9) 1)
  obtain ⟨yb, hyb⟩ : ∃ y, y = y9.drew := ⟨_, rfl⟩
  rw [← hyb] at hHeld ⊢
  have BYb : Hid (Below y9.heap.size y9 yb) := Lib.hid (by rw [hyb]; exact below_drewN (Below.refl y9.heap.size y9) 1)
  clear hyb
  refine tq 0 ?_
  refine tq 1 ?_
  refine tq 2 ?_
  refine tq 3 ?_
  refine tq 4 ?_
  refine tq 5 ?_
  refine tq 6 ?_
  refine tq 7 ?_
  refine tq 8 ?_
  refine tq 9 ?_
  refine tq 10 ?_
  refine tq 11 ?_
  refine tq 12 ?_
  refine tq 13 ?_
  refine tq 14 ?_
  refine tq 15 ?_
  refine tq 17 ?_
  refine rd 16 fun K hK => ?_
  go_simp
  refine (ref_at fQ _ _ _ _ (slices3 _ _ _ _ _ _ _ _ _)).mono ?_
  rintro e u1 ⟨rfl, hb⟩
  have C1 := Lib.hid (below_step' BYb.out hb)
  clear hb
  go_wp2_with fail
  refine hK.out _ _ ?_ (fun hHeld => ?_)
  · exact MK.out _ C1.out
  clear hK K
  refine rd 18 fun K hK => ?_
  go_simp
  refine (ref_at fQ _ _ _ _ (slices3 _ _ _ _ _ _ _ _ _)).mono ?_
  rintro e u2 ⟨rfl, hb⟩
  have C2 := Lib.hid (below_step' C1.out hb)
  clear hb
  go_wp2_with fail
  refine hK.out _ _ ?_ (fun hHeld => ?_)
  · exact MK.out _ C2.out
  clear hK K
  refine rd 19 fun K hK => ?_
  go_simp
  refine (rsame_at fQ fQ true _ _ _ _ _ _ _ (HX.out.later (below_step' B11.out C2.out)) (HQ.out.later (below_step' B6.out (below_step' B11.out C2.out))) (smallP fQ_ok) (smallP fQ_ok) (by simp)).mono ?_
  rintro e u3 ⟨rfl, hb⟩
  have C3 := Lib.hid (below_step' C2.out hb)
  clear hb
  go_wp2_with fail
  refine hK.out _ _ ?_ (fun hHeld => ?_)
  · exact MK.out _ C3.out
  clear hK K
  refine tq 20 ?_
  refine tq 21 ?_
  refine tq 22 ?_
  refine tq 23 ?_
  refine tq 24 ?_
  refine tq 25 ?_
  refine tq 26 ?_
  refine tq 27 ?_
  refine tq 28 ?_
  refine tq 29 ?_
  refine tq 30 ?_
  refine tq 31 ?_
  refine tq 32 ?_
  refine tq 33 ?_
  refine tq 34 ?_
  refine tq 35 ?_
  refine tq 36 ?_
  refine tq 37 ?_
  refine tq 38 ?_
  refine rd 39 fun K hK => ?_
  go_simp
  refine (right_at fQ true _ _ _ _ (HQ.out.later (below_step' B6.out (below_step' B11.out C3.out))) (smallP fQ_ok) fQ_ok.symm).mono ?_
  rintro e u4 ⟨rfl, hb⟩
  have C4 := Lib.hid (below_step' C3.out hb)
  clear hb
  go_wp2_with fail
  refine hK.out _ _ ?_ (fun hHeld => ?_)
  · exact MK.out _ C4.out
  clear hK K
  refine tq 40 ?_
  refine tq 41 ?_
  refine tq 42 ?_
  refine tq 43 ?_
  refine rd 44 fun K hK => ?_
  go_simp
  refine (psame_at fQ fQ true _ _ _ _ _ _ _ (HQ.out.later (below_step' B6.out (below_step' B11.out C4.out))) (HQ.out.later (below_step' B6.out (below_step' B11.out C4.out))) (smallP fQ_ok) (by simp)).mono ?_
  rintro e u5 ⟨rfl, hb⟩
  have C5 := Lib.hid (below_step' C4.out hb)
  clear hb
  go_wp2_with fail
  refine hK.out _ _ ?_ (fun hHeld => ?_)
  · exact MK.out _ C5.out
  clear hK K
  refine tq 45 ?_
  refine tq 46 ?_
  refine tq 47 ?_
  refine tq 48 ?_
  refine rd 49 fun K hK => ?_
  go_simp
  refine (psame_at fP fQ false _ _ _ _ _ _ _ (nils All _ fP rfl rfl rfl) (HQ.out.later (below_step' B6.out (below_step' B11.out C5.out))) (smallP fP_ok) (by simp [fPQ])).mono ?_
  rintro e u6 ⟨rfl, hb⟩
  have C6 := Lib.hid (below_step' C5.out hb)
  clear hb
  go_wp2_with fail
  refine hK.out _ _ ?_ (fun hHeld => ?_)
  · exact MK.out _ C6.out
  clear hK K
  refine tq 50 ?_
  refine tq 51 ?_
  refine tq 52 ?_
  refine tq 53 ?_
  refine tq 56 ?_
  refine rd 54 fun K hK => ?_
  go_simp
  refine (own_at fQ _ _ _ _ (HQ.out.later (below_step' B6.out (below_step' B11.out C6.out))) (smallP fQ_ok)).mono ?_
  rintro e u7 ⟨v1, v2, v3, rfl, hO, hb⟩
  have C7 := Lib.hid (below_step' C6.out hb)
  have HO := Lib.hid (HoldsL.weak hO)
  obtain ⟨g1, g2, g3, r1, r2, r3, t1, t2, t3, ee1, ee2, ee3⟩ := pc_slices HO.out
  subst ee1
  subst ee2
  subst ee3
  clear hb hO
  rw [show pcv fQ (.slice g1 r1 t1) (.slice g2 r2 t2) (.slice g3 r3 t3) = .agg #[.int .i64 1, .int .i64 0, .int .i64 0, .slice g1 r1 t1, .slice g2 r2 t2, .slice g3 r3 t3] from rfl]
  go_wp2_with fail
  refine hK.out _ _ ?_ (fun hHeld => ?_)
  · exact MK.out _ C7.out
  clear hK K
  refine rd 55 fun K hK => ?_
  go_simp
  refine (ref_at fQ _ _ _ _ (slices3 _ _ _ _ _ _ _ _ _)).mono ?_
  rintro e u8 ⟨rfl, hb⟩
  have C8 := Lib.hid (below_step' C7.out hb)
  have HO8 := Lib.hid (HO.out.later hb)
  clear hb
  go_wp2_with fail
  refine hK.out _ _ ?_ (fun hHeld => ?_)
  · exact MK.out _ C8.out
  clear hK K
  refine rd 57 fun K hK => ?_
  go_simp
  refine (ref_at fQ _ _ _ _ (slices3 _ _ _ _ _ _ _ _ _)).mono ?_
  rintro e u9 ⟨rfl, hb⟩
  have C9 := Lib.hid (below_step' C8.out hb)
  have HO9 := Lib.hid (HO8.out.later hb)
  clear hb
  go_wp2_with fail
  refine hK.out _ _ ?_ (fun hHeld => ?_)
  · exact MK.out _ C9.out
  clear hK K
  refine rd 58 fun K hK => ?_
  go_simp
  refine (rsame_at fQ fQ true _ _ _ _ _ _ _ HO9.out (HQ.out.later (below_step' B6.out (below_step' B11.out C9.out))) (smallP fQ_ok) (smallP fQ_ok) (by simp)).mono ?_
  rintro e u10 ⟨rfl, hb⟩
  have C10 := Lib.hid (below_step' C9.out hb)
  clear hb
  go_wp2_with fail
  refine hK.out _ _ ?_ (fun hHeld => ?_)
  · exact MK.out _ C10.out
  clear hK K
  refine tq 59 ?_
  refine tq 60 ?_
  refine wpAnyH_done (by kernel_rfl) ?_ _
  go_wp2_with fail
  go_ret
  exact ⟨rfl, below_step' (below_step' (below_step' BY.out B6.out) B11.out) C10.out⟩
end Go.Proofs.Ytcopedhoepblpaa
