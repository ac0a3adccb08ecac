/- The law's Ref and Cut of pieces. Written by gen_pcut.py. -/
import Derived.Test.YtcopedhoepblpaaPkL
import Derived.Deep.CutRange
set_option linter.unusedSimpArgs false
set_option linter.unusedVariables false
set_option maxRecDepth 100000
namespace Go.Proofs.Ytcopedhoepblpaa
open Go.RowKit Go.PlainAid

theorem boxAt_set' {w : World} {b j : Nat} {u : Value} {vs : List Value} (h : BoxAt b vs w) (hj : j < vs.length) : BoxAt b (vs.set j u) (w.setCell ⟨b, j, none⟩ u) := by
  intro i v e
  rw [List.getElem?_set] at e
  split at e
  · next hij =>
    subst hij
    have e2 : u = v := by simpa [hj] using e
    subst e2
    exact set_at (h j _ (List.getElem?_eq_getElem hj))
  · next hij => exact set_far (.inr hij) (h i v e)
theorem box_set6 {w : World} {b : Nat} {u0 u1 u2 u3 u4 u5 x0 x1 x2 x3 x4 x5 : Value} (h : BoxAt b [u0, u1, u2, u3, u4, u5] w) : BoxAt b [x0, x1, x2, x3, x4, x5] (set6 w b x0 x1 x2 x3 x4 x5) := set6_at (fun i hi => by
  match i, hi with
  | 0, _ => exact ⟨_, h 0 _ rfl⟩
  | 1, _ => exact ⟨_, h 1 _ rfl⟩
  | 2, _ => exact ⟨_, h 2 _ rfl⟩
  | 3, _ => exact ⟨_, h 3 _ rfl⟩
  | 4, _ => exact ⟨_, h 4 _ rfl⟩
  | 5, _ => exact ⟨_, h 5 _ rfl⟩)
theorem ref_at (p : Pc) (v1 v2 v3 : Value) (w : World) (hs : ∃ (a1 a2 a3 : Option Addr) (n1 n2 n3 e1 e2 e3 : Nat), v1 = .slice a1 n1 e1 ∧ v2 = .slice a2 n2 e2 ∧ v3 = .slice a3 n3 e3) :
    Calls Try.prog 12 #[pcv p v1 v2 v3] w fun e w' => e = .returned (pcv p v1 v2 v3) ∧ Below w.heap.size w w' := by
  obtain ⟨a1, a2, a3, n1, n2, n3, e1, e2, e3, ee1, ee2, ee3⟩ := hs
  subst ee1
  subst ee2
  subst ee3
  obtain ⟨m0, hm0⟩ : ∃ m, m = p.node := ⟨_, rfl⟩
  obtain ⟨m1, hm1⟩ : ∃ m, m = p.state := ⟨_, rfl⟩
  obtain ⟨m2, hm2⟩ : ∃ m, m = p.steps := ⟨_, rfl⟩
  unfold pcv
  rw [← hm0, ← hm1, ← hm2]
  clear hm0 hm1 hm2
  go_enter Try.func12, Try.ntmps12
  go_wp2_with fail
  exact bodyPost_ret (v := .agg #[.int .i64 m0, .int .i64 m1, .int .i64 m2, .slice a1 n1 e1, .slice a2 n2 e2, .slice a3 n3 e3]) (by simp [results, Try.results12, go_sem]) rfl ⟨rfl, below_step' (below_step' (Below.refl _ _) (below_new _ _)) (by first | exact below_new _ _ | skip)⟩
def cutP (p : Pc) : Pc := ⟨p.node, p.state, p.steps, p.sent.take 7, (p.inn.take 7).map (·.take 20), (p.out.take 7).map (·.take 20)⟩
def phC (y : World) (m0 m1 m2 : Int) (st : List Int) (g : Nat) (v : Value) (w : World) : Prop :=
  if g = 6 then ∃ a, v = .slice a 0 0
  else if g = 14 then ∃ a n c, v = .slice a n c ∧ Holds False (fun q => y.heap.size ≤ q) w v (dInts st)
  else if g = 15 then ∃ a n c, v = .agg #[.int .i64 m0, .int .i64 m1, .int .i64 m2, .slice a n c, .slice none 0 0, .slice none 0 0] ∧ Holds False (fun q => y.heap.size ≤ q) w (.slice a n c) (dInts st)
  else ∃ p, v = .pointer (some ⟨p, 0, none⟩) ∧ y.heap.size ≤ p ∧ p < w.heap.size ∧ BoxAt p [.int .i64 0, .int .i64 0, .int .i64 0, .slice none 0 0, .slice none 0 0, .slice none 0 0] w ∧ OpenRow w p 1 6
theorem phC6 {y : World} {m0 m1 m2 : Int} {st : List Int} {v : Value} {w : World} : phC y m0 m1 m2 st 6 v w ↔ ∃ a, v = .slice a 0 0 := by unfold phC; rw [if_pos rfl]
theorem phC14 {y : World} {m0 m1 m2 : Int} {st : List Int} {v : Value} {w : World} : phC y m0 m1 m2 st 14 v w ↔ ∃ a n c, v = .slice a n c ∧ Holds False (fun q => y.heap.size ≤ q) w v (dInts st) := by unfold phC; rw [if_neg (by decide), if_pos rfl]
theorem phC15 {y : World} {m0 m1 m2 : Int} {st : List Int} {v : Value} {w : World} : phC y m0 m1 m2 st 15 v w ↔ ∃ a n c, v = .agg #[.int .i64 m0, .int .i64 m1, .int .i64 m2, .slice a n c, .slice none 0 0, .slice none 0 0] ∧ Holds False (fun q => y.heap.size ≤ q) w (.slice a n c) (dInts st) := by unfold phC; rw [if_neg (by decide), if_neg (by decide), if_pos rfl]
theorem phC16 {y : World} {m0 m1 m2 : Int} {st : List Int} {v : Value} {w : World} : phC y m0 m1 m2 st 16 v w ↔ ∃ p, v = .pointer (some ⟨p, 0, none⟩) ∧ y.heap.size ≤ p ∧ p < w.heap.size ∧ BoxAt p [.int .i64 0, .int .i64 0, .int .i64 0, .slice none 0 0, .slice none 0 0, .slice none 0 0] w ∧ OpenRow w p 1 6 := by unfold phC; rw [if_neg (by decide), if_neg (by decide), if_neg (by decide)]
theorem phC_mono {y : World} {m0 m1 m2 : Int} {st : List Int} {g : Nat} {v : Value} {w w' : World} (h : phC y m0 m1 m2 st g v w) (hb : Below w.heap.size w w') : phC y m0 m1 m2 st g v w' := by
  unfold phC at h ⊢
  split
  · next e => rw [if_pos e] at h; exact h
  · next e =>
    rw [if_neg e] at h
    split
    · next e1 => rw [if_pos e1] at h; obtain ⟨a, n, c, e, h⟩ := h; exact ⟨a, n, c, e, h.later hb⟩
    · next e1 =>
      rw [if_neg e1] at h
      split
      · next e2 => rw [if_pos e2] at h; obtain ⟨a, n, c, e, h⟩ := h; exact ⟨a, n, c, e, h.later hb⟩
      · next e2 => rw [if_neg e2] at h; obtain ⟨p, e, h1, h2, h3, h4⟩ := h; exact ⟨p, e, h1, Nat.lt_of_lt_of_le h2 hb.size, h3.below hb, h4.same (SameOn.of_below (P := fun _ => True) hb) trivial h2⟩
/-- A row that an operation yields stands in no block of that box. -/
def frC (y : World) (m0 m1 m2 : Int) (st : List Int) (g : Nat) (v : Value) (p : Nat) (w : World) : Prop :=
  if g = 14 then Holds False (fun q => y.heap.size ≤ q ∧ q ≠ p) w v (dInts st)
  else if g = 15 then ∃ a n c, v = .agg #[.int .i64 m0, .int .i64 m1, .int .i64 m2, .slice a n c, .slice none 0 0, .slice none 0 0] ∧ Holds False (fun q => y.heap.size ≤ q ∧ q ≠ p) w (.slice a n c) (dInts st)
  else True
def psC (y : World) (m0 m1 m2 : Int) (st : List Int) (g h : Nat) (v u : Value) (w : World) : Prop := (g = 16 → ∀ p, v = .pointer (some ⟨p, 0, none⟩) → frC y m0 m1 m2 st h u p w) ∧ (h = 16 → ∀ p, u = .pointer (some ⟨p, 0, none⟩) → frC y m0 m1 m2 st g v p w)
theorem frC_mono {y : World} {m0 m1 m2 : Int} {st : List Int} {g : Nat} {v : Value} {p : Nat} {w w' : World} (h : frC y m0 m1 m2 st g v p w) (hb : Below w.heap.size w w') : frC y m0 m1 m2 st g v p w' := by
  unfold frC at h ⊢
  split
  · next e => rw [if_pos e] at h; exact h.later hb
  · next e =>
    rw [if_neg e] at h
    split
    · next e => rw [if_pos e] at h; obtain ⟨a, n, c, e, h⟩ := h; exact ⟨a, n, c, e, h.later hb⟩
    · trivial
theorem psC_mono {y : World} {m0 m1 m2 : Int} {st : List Int} {g h : Nat} {v u : Value} {w w' : World} (q : psC y m0 m1 m2 st g h v u w) (hb : Below w.heap.size w w') : psC y m0 m1 m2 st g h v u w' := ⟨fun e p ep => frC_mono (q.1 e p ep) hb, fun e p ep => frC_mono (q.2 e p ep) hb⟩
theorem frC14 {y : World} {m0 m1 m2 : Int} {st : List Int} {v : Value} {p : Nat} {w : World} : frC y m0 m1 m2 st 14 v p w ↔ Holds False (fun q => y.heap.size ≤ q ∧ q ≠ p) w v (dInts st) := by unfold frC; rw [if_pos rfl]
theorem frC15 {y : World} {m0 m1 m2 : Int} {st : List Int} {v : Value} {p : Nat} {w : World} : frC y m0 m1 m2 st 15 v p w ↔ ∃ a n c, v = .agg #[.int .i64 m0, .int .i64 m1, .int .i64 m2, .slice a n c, .slice none 0 0, .slice none 0 0] ∧ Holds False (fun q => y.heap.size ≤ q ∧ q ≠ p) w (.slice a n c) (dInts st) := by unfold frC; rw [if_neg (by decide), if_pos rfl]
theorem frC_no {y : World} {m0 m1 m2 : Int} {st : List Int} {g : Nat} {v : Value} {p : Nat} {w : World} (h : g ≠ 14 ∧ g ≠ 15) : frC y m0 m1 m2 st g v p w := by unfold frC; rw [if_neg h.1, if_neg h.2]; trivial
theorem psC_no {y : World} {m0 m1 m2 : Int} {st : List Int} {g h : Nat} {v u : Value} {w : World} (hg : g ≠ 14 ∧ g ≠ 15) (hn : g ≠ 16) : psC y m0 m1 m2 st g h v u w := ⟨fun e => absurd e hn, fun _ _ _ => frC_no hg⟩
/-- The copy under way: its box, one field of it being filled. -/
structure CutB (yb w9 : World) (p j : Nat) (E : TypeId) (us : List Value) (v : Value) (xs : List (List D)) (wr : World) : Prop where
  oth : ∀ (i : Nat) (u : Value), us[i]? = some u → i ≠ j → wr.cell? ⟨p, i, none⟩ = some u
  frz : ∀ i, wr.frozen? ⟨p, i, none⟩ = false
  f : Fld False (fun q => w9.heap.size ≤ q) E 1 yb wr p j v xs
  s : SameOn (fun q => q < w9.heap.size ∧ q ≠ p) w9 wr
theorem CutB.push {yb w9 : World} {p j : Nat} {E : TypeId} {us : List Value} {v v' : Value} {xs : List (List D)} {d : List D} {wr w5 w6 : World} (h : CutB yb w9 p j E us v xs wr) (hp : p < w9.heap.size) (hb : Below wr.heap.size wr w5)
    (hO : Own False (fun q => w9.heap.size ≤ q) E 1 yb w6.heap.size w6 v' (xs ++ [d])) (hg : w5.grownBy w6 v.ownBlock) (hv : v'.ownBlock = v.ownBlock ∨ v'.ownBlock = some w5.heap.size) :
    CutB yb w9 p j E us v' (xs ++ [d]) (w6.setCell ⟨p, j, none⟩ v') ∧ w6.cell? ⟨p, j, none⟩ = some v ∧ w6.frozen? ⟨p, j, none⟩ = false ∧ (∀ (c : Addr) (u : Value), w5.cell? c = some u → c.block < w9.heap.size → w6.cell? c = some u ∧ (c.block ≠ p → (w6.setCell ⟨p, j, none⟩ v').cell? c = some u)) := by
  have hs := h.s.1
  obtain ⟨a1, a2, a3, a4, a5, a6, a7⟩ := h.f.push hb hO hg hv (Nat.le_trans hs hb.size)
  have hne : ∀ k, k < w9.heap.size → v.ownBlock ≠ some k := fun k hk e => by
    have h1 : w9.heap.size ≤ k := h.f.bld.inP k e
    omega
  have e1 := h.s
  have e2 := a5 (fun q => q < w9.heap.size ∧ q ≠ p) (fun q (hq : q < w9.heap.size ∧ q ≠ p) => Nat.not_le.2 hq.1) (fun hq => hq.2 rfl)
  have e3 : SameOn (fun q => q < w9.heap.size ∧ q ≠ p) wr w5 := SameOn.of_below hb
  have hpw : p < wr.heap.size := Nat.lt_of_lt_of_le hp hs
  refine ⟨⟨fun i u e hi => a6 _ _ ((hb.cell (World.block_lt_of_cell? wr _ (h.oth i u e hi))).trans (h.oth i u e hi)) (Nat.not_le.2 hp) (by intro e; simp only [Addr.mk.injEq, and_true, true_and] at e; exact hi e), fun i => (a7 ⟨p, i, none⟩ (Nat.lt_of_lt_of_le hpw hb.size) (Nat.not_le.2 hp)).trans ((hb.frozen (p := ⟨p, i, none⟩) hpw).trans (h.frz i)), a1, ?_⟩, a2, a3, fun c u hc hlt => ⟨(World.cell?_of_block (hg.block c.block (World.block_lt_of_cell? w5 _ hc) (fun e => hne _ hlt e.symm))).trans hc, fun e => a6 c u hc (Nat.not_le.2 hlt) (fun h => e (by rw [h]))⟩⟩
  exact ⟨Nat.le_trans e1.1 (Nat.le_trans e3.1 e2.1), fun b hq hb' => (e2.2 b hq (Nat.lt_of_lt_of_le hb' (Nat.le_trans e1.1 e3.1))).trans ((e3.2 b hq (Nat.lt_of_lt_of_le hb' e1.1)).trans (e1.2 b hq hb'))⟩
def phL (y : World) (vL : Value) (d : D) (g : Nat) (v : Value) (w : World) : Prop :=
  if g = 1 then v = vL
  else if g = 2 then ∃ a, v = .slice a 0 0
  else if g = 16 then ∃ a n c, v = .slice a n c ∧ Holds False (fun q => y.heap.size ≤ q) w v d
  else ∃ b a n c, v = .slice (some ⟨b, 0, none⟩) 1 1 ∧ w.cell? ⟨b, 0, none⟩ = some (.slice a n c) ∧ Holds False (fun q => y.heap.size ≤ q) w (.slice a n c) d
theorem phL_mono {y : World} {vL : Value} {d : D} {g : Nat} {v : Value} {w w' : World} (h : phL y vL d g v w) (hb : Below w.heap.size w w') : phL y vL d g v w' := by
  unfold phL at h ⊢
  split
  · next e => rw [if_pos e] at h; exact h
  · next e =>
    rw [if_neg e] at h
    split
    · next e => rw [if_pos e] at h; exact h
    · next e =>
      rw [if_neg e] at h
      split
      · next e => rw [if_pos e] at h; obtain ⟨a, n, c, e, h⟩ := h; exact ⟨a, n, c, e, h.later hb⟩
      · next e => rw [if_neg e] at h; obtain ⟨b, a, n, c, e, h1, h2⟩ := h; exact ⟨b, a, n, c, e, (hb.cell (World.block_lt_of_cell? w _ h1)).trans h1, h2.later hb⟩
theorem phL16 {y : World} {vL : Value} {d : D} {v : Value} {w : World} : phL y vL d 16 v w ↔ ∃ a n c, v = .slice a n c ∧ Holds False (fun q => y.heap.size ≤ q) w v d := by unfold phL; rw [if_neg (by decide), if_neg (by decide), if_pos rfl]
theorem phL17 {y : World} {vL : Value} {d : D} {v : Value} {w : World} : phL y vL d 17 v w ↔ ∃ b a n c, v = .slice (some ⟨b, 0, none⟩) 1 1 ∧ w.cell? ⟨b, 0, none⟩ = some (.slice a n c) ∧ Holds False (fun q => y.heap.size ≤ q) w (.slice a n c) d := by unfold phL; rw [if_neg (by decide), if_neg (by decide), if_neg (by decide)]
theorem Holds.low' {P : Nat → Prop} {w : World} {v : Value} {d : D} (h : Holds False P w v d) : Holds False (fun q => P q ∧ q ≠ w.heap.size) w v d := h.wide (fun _ hb hp => ⟨hp, Nat.ne_of_lt hb⟩)
theorem capI {n k cap : Nat} (hk : k = min n 7) (hc : n ≤ cap) : k ≤ cap := by omega
def CutTold (p : Pc) (w : World) (e : Ending) (w' : World) : Prop := ∃ v1 v2 v3, e = .returned (pcv (cutP p) v1 v2 v3) ∧ HoldsL False (fun q => w.heap.size ≤ q) w' [v1, v2, v3] (cutP p).d ∧ Below w.heap.size w w'
set_option maxHeartbeats 8000000 in
theorem cut_at (p : Pc) (v1 v2 v3 : Value) (w : World) (h : HasL w [v1, v2, v3] p.d) : Calls Try.prog 9 #[pcv p v1 v2 v3] w (CutTold p w) := by
  obtain ⟨a1, a2, a3, n1, n2, n3, e1, e2, e3, ee1, ee2, ee3⟩ := pc_slices h
  subst ee1
  subst ee2
  subst ee3
  obtain ⟨c1, c2, c3⟩ := pc_has h
  have hn1 := ints_len c1
  have hn2 := lls_len c2
  have hn3 := ils_len c3
  have hc1 := capOf c1
  obtain ⟨k1, hk1⟩ : ∃ k, k = min n1 7 := ⟨_, rfl⟩
  have hm1 : (if 7 < (n1 : Int) then (7 : Int) else (n1 : Int)) = (k1 : Int) := by split <;> omega
  have hm1' : min (n1 : Int) 7 = (k1 : Int) := by omega
  have hk1c : k1 ≤ e1 := by omega
  have hh1 : Has w (.slice a1 k1 e1) (dInts (p.sent.take 7)) := by
    rw [take_of_min hn1 hk1]
    have h := Holds.take (m := k1) c1 (by rw [List.length_map, ← hn1]; omega)
    rw [← List.map_take] at h
    exact h
  obtain ⟨i1, hi1, hz1, hs1, hby1⟩ := info_parts infoInt
  obtain ⟨iM, hiM, hzM, hsM, hbM⟩ := info_parts infoMsgI
  obtain ⟨iL, hiL, hzL, hsL, hbL⟩ := info_parts infoMsgsI
  obtain ⟨iO, hiO, hzO, hsO, hbO⟩ := info_parts infoIntsI
  have H1 := Lib.hid hh1
  have H2 := Lib.hid c2
  have H3 := Lib.hid c3
  have N2 := Lib.hid hn2
  have N3 := Lib.hid hn3
  have hk1x : k1 ≤ 7 := by omega
  clear h c1 c2 c3 hh1 hn1 hn2 hn3 hk1
  obtain ⟨m0, hm0⟩ : ∃ m, m = p.node := ⟨_, rfl⟩
  obtain ⟨m1, hm1⟩ : ∃ m, m = p.state := ⟨_, rfl⟩
  obtain ⟨m2, hm2⟩ : ∃ m, m = p.steps := ⟨_, rfl⟩
  have PQ : Hid (∀ x y z, pcv (cutP p) x y z = .agg #[.int .i64 m0, .int .i64 m1, .int .i64 m2, x, y, z]) := Lib.hid (fun x y z => by rw [hm0, hm1, hm2]; rfl)
  unfold pcv
  rw [← hm0, ← hm1, ← hm2]
  clear hm0 hm1 hm2
  go_enter Try.func9, Try.ntmps9
  try simp only [List.append_eq, List.cons_append, List.nil_append]
  go_upto_region 1 with fail
  obtain ⟨bc, hbc⟩ : ∃ b, b = w.heap.size := ⟨_, rfl⟩
  obtain ⟨br, hbr⟩ : ∃ b, b = w.heap.size + 1 := ⟨_, rfl⟩
  obtain ⟨y0, hy0⟩ : ∃ y, y = (w.alloc (.cells #[.int .i64 m0, .int .i64 m1, .int .i64 m2, .slice a1 n1 e1, .slice a2 n2 e2, .slice a3 n3 e3] 26)).alloc (.cells #[.int .i64 0, .int .i64 0, .int .i64 0, .slice none 0 0, .slice none 0 0, .slice none 0 0] 26) := ⟨_, rfl⟩
  have hb0 : Below w.heap.size w y0 := by rw [hy0]; exact below_step' (below_new _ _) (below_new _ _)
  have hx0 : BoxAt bc [.int .i64 m0, .int .i64 m1, .int .i64 m2, .slice a1 n1 e1, .slice a2 n2 e2, .slice a3 n3 e3] y0 := by rw [hbc, hy0]; exact (boxAt_new w [.int .i64 m0, .int .i64 m1, .int .i64 m2, .slice a1 n1 e1, .slice a2 n2 e2, .slice a3 n3 e3] _).below (below_new _ _)
  have hx1 : BoxAt br [.int .i64 0, .int .i64 0, .int .i64 0, .slice none 0 0, .slice none 0 0, .slice none 0 0] y0 := by
    have h := boxAt_new (w.alloc (.cells #[.int .i64 m0, .int .i64 m1, .int .i64 m2, .slice a1 n1 e1, .slice a2 n2 e2, .slice a3 n3 e3] 26)) [.int .i64 0, .int .i64 0, .int .i64 0, .slice none 0 0, .slice none 0 0, .slice none 0 0] 26
    rw [size_new] at h
    rw [hbr, hy0]; exact h
  have hfr : ∀ i, y0.frozen? ⟨br, i, none⟩ = false := fun i => by
    have h := frozen_new (w.alloc (.cells #[.int .i64 m0, .int .i64 m1, .int .i64 m2, .slice a1 n1 e1, .slice a2 n2 e2, .slice a3 n3 e3] 26)) #[.int .i64 0, .int .i64 0, .int .i64 0, .slice none 0 0, .slice none 0 0, .slice none 0 0] 26 i
    rw [size_new] at h
    rw [hbr, hy0]; exact h
  have hsz : y0.heap.size = w.heap.size + 1 + 1 := by rw [hy0, size_new, size_new]
  have hrr : bc < y0.heap.size ∧ br < y0.heap.size ∧ w.heap.size ≤ bc ∧ w.heap.size ≤ br ∧ bc ≠ br := by omega
  rw [← hy0]
  simp only [← hbr]
  simp only [← hbc]
  have B0 := Lib.hid hb0
  have K0 := Lib.hid hx0
  have K1 := Lib.hid hx1
  have FR := Lib.hid hfr
  have RR := Lib.hid hrr
  clear hy0 hb0 hx0 hx1 hfr hsz hrr hbc hbr
  refine wp_region_held_drew (S := (fun w' => w'.cell? ⟨bc, 0, none⟩ = some (.int .i64 m0) ∧ w'.cell? ⟨bc, 1, none⟩ = some (.int .i64 m1) ∧ w'.cell? ⟨bc, 2, none⟩ = some (.int .i64 m2) ∧ w'.cell? ⟨bc, 3, none⟩ = some (.slice a1 n1 e1))) (by kernel_rfl) ?_ (fun hHeld => ?_)
  · have hb := below_drewN (Below.refl y0.heap.size y0) 1
    exact ⟨K0.out.below hb 0 _ rfl, K0.out.below hb 1 _ rfl, K0.out.below hb 2 _ rfl, K0.out.below hb 3 _ rfl⟩
  obtain ⟨yb, hyb⟩ : ∃ y, y = y0.drew := ⟨_, rfl⟩
  rw [← hyb] at hHeld ⊢
  have BYb : Hid (Below y0.heap.size y0 yb) := Lib.hid (by rw [hyb]; exact below_drewN (Below.refl _ y0) 1)
  clear hyb
  refine tq 0 ?_
  refine tq 1 ?_
  refine tq 2 ?_
  refine tq 3 ?_
  refine tq 4 ?_
  refine tq 5 ?_
  refine tq 7 ?_
  refine tq 8 ?_
  refine tq 9 ?_
  refine tq 10 ?_
  refine tq 11 ?_
  refine tq 12 ?_
  refine tq 13 ?_
  refine wpAnyH_group (n := 1) [6, 14, 15, 16] 17 (phC yb m0 m1 m2 (p.sent.take 7)) (psC yb m0 m1 m2 (p.sent.take 7)) (by kernel_rfl) (by kernel_rfl) (by kernel_rfl) (by kernel_rfl) (by kernel_rfl) (fun _ _ _ _ h hb => phC_mono h hb) (fun _ _ _ _ _ _ h hb => psC_mono h hb) ?step hHeld ?fin
  case step =>
    intro g hg o ho D vs a wx hD hgD hφ hψ hSx hbx hfr hdep K hK
    have hwz := hbx.size
    have BX0 := below_step' BYb.out hbx
    have SX : ∀ w', Below wx.heap.size wx w' → w'.cell? ⟨bc, 0, none⟩ = some (.int .i64 m0) ∧ w'.cell? ⟨bc, 1, none⟩ = some (.int .i64 m1) ∧ w'.cell? ⟨bc, 2, none⟩ = some (.int .i64 m2) ∧ w'.cell? ⟨bc, 3, none⟩ = some (.slice a1 n1 e1) := fun w' hb => ⟨K0.out.below (below_step' BX0 hb) 0 _ rfl, K0.out.below (below_step' BX0 hb) 1 _ rfl, K0.out.below (below_step' BX0 hb) 2 _ rfl, K0.out.below (below_step' BX0 hb) 3 _ rfl⟩
    have BX := below_step' B0.out BX0
    simp only [List.mem_cons, List.not_mem_nil, or_false] at hg
    rcases hg with rfl | rfl | rfl | rfl
    · obtain rfl := Option.some.inj (show some _ = some o from ho)
      go_simp
      exact hK.out _ _ (SX _ (below_new _ _)) (phC6.2 ⟨_, rfl⟩) (fun h _ => psC_no (by decide) (by decide)) (below_new _ _)
    · obtain rfl := Option.some.inj (show some _ = some o from ho)
      obtain ⟨h0, d0⟩ := hdep 6 (by simp) (ahead_mem (by kernel_rfl))
      obtain ⟨a0, ea0⟩ := phC6.1 (hφ 6 h0)
      have e5 := ev_of (d0 12 rfl)
      rw [ea0] at e5
      have e12 : a.eval (.tmp 19) = .slice a1 k1 e1 := ev_of ((hfr 19 (by decide)).trans rfl)
      refine wp_if (appS0 (ops := #[]) (F := True) rfl _ _ 22 3 i1 (.int .i64 0) 1 8 rfl Try.underlying22 hi1 hz1 hs1 hby1 rfl (by decide) a0 ((p.sent.take 7).map fun a => [dI a]) k1 e1 e5 a1 e12 (H1.out.later BX) (fl_ints _) (flat_ints _) (by unfold maxLen; omega) (by omega) (fun ao cv w' hH hb => hK.out _ _ (SX w' hb) (phC14.2 ⟨ao, k1, cv, rfl, hH.loose.wide (fun q _ (h : wx.heap.size ≤ q) => Nat.le_trans hwz h)⟩) (fun h hh => ⟨fun e => absurd e (by decide), fun e p ep => ?_⟩) hb)) rfl
      subst e
      obtain ⟨p', e', _, hp2, _⟩ := phC16.1 (hφ 16 hh)
      rw [ep] at e'
      cases e'
      exact frC14.2 (hH.loose.wide (fun q _ (h : wx.heap.size ≤ q) => ⟨Nat.le_trans hwz h, fun e => by omega⟩))
    · obtain rfl := Option.some.inj (show some _ = some o from ho)
      obtain ⟨h14, d14⟩ := hdep 14 (by simp) (ahead_mem (by kernel_rfl))
      obtain ⟨s1, x1, q1, ea, ha⟩ := phC14.1 (hφ 14 h14)
      have e13 := d14 20 rfl
      have PF : ∀ h ∈ D, psC yb m0 m1 m2 (p.sent.take 7) 15 h (.agg #[.int .i64 m0, .int .i64 m1, .int .i64 m2, vs 14, .slice none 0 0, .slice none 0 0]) (vs h) wx := fun h hh => ⟨fun e => absurd e (by decide), fun e pp ep => by
        subst e
        have p14 := (hψ 14 h14 16 hh (by decide)).elim (fun q => q.2 rfl pp ep) (fun q => q.1 rfl pp ep)
        exact frC15.2 ⟨s1, x1, q1, by rw [ea], by rw [← ea]; exact frC14.1 p14⟩⟩
      rw [ea] at PF e13 ha
      have t7 : a.tmps[7]? = _ := (hfr 7 (by decide)).trans rfl
      have t9 : a.tmps[9]? = _ := (hfr 9 (by decide)).trans rfl
      have t11 : a.tmps[11]? = _ := (hfr 11 (by decide)).trans rfl
      clear hψ hφ hdep hfr d14
      go_simp
      exact hK.out _ _ hSx (phC15.2 ⟨s1, x1, q1, rfl, ha⟩) PF (Below.refl _ _)
    · obtain rfl := Option.some.inj (show some _ = some o from ho)
      go_simp
      have hbn := below_new wx (.cells #[.int .i64 0, .int .i64 0, .int .i64 0, .slice none 0 0, .slice none 0 0, .slice none 0 0] 26)
      refine hK.out _ _ (SX _ hbn) (phC16.2 ⟨_, rfl, hwz, by simp, boxAt_new wx [.int .i64 0, .int .i64 0, .int .i64 0, .slice none 0 0, .slice none 0 0, .slice none 0 0] _, by decide, _, _, heap_alloc_new wx _, rfl⟩) (fun h hh => ⟨fun _ p ep => ?_, fun e => absurd (e ▸ hh) hgD⟩) hbn
      simp only [Value.pointer.injEq, Option.some.injEq, Addr.mk.injEq] at ep
      obtain ⟨ep, _⟩ := ep
      subst ep
      have hin := hD h hh
      simp only [List.mem_cons, List.not_mem_nil, or_false] at hin
      rcases hin with rfl | rfl | rfl | rfl
      · exact frC_no (by decide)
      · obtain ⟨_, _, _, e, hr⟩ := phC14.1 (hφ 14 hh)
        exact frC14.2 (hr.low'.later hbn)
      · obtain ⟨s1, x1, q1, e, ha⟩ := phC15.1 (hφ 15 hh)
        exact frC15.2 ⟨s1, x1, q1, e, ha.low'.later hbn⟩
      · exact absurd hh hgD
  case fin =>
    intro vs wx hSx hbx hφ hψ
    obtain ⟨s1, x1, o1, e15, _⟩ := phC15.1 (hφ 15 (by simp))
    obtain ⟨pp, e16, hp1, hp2, hbp, hop⟩ := phC16.1 (hφ 16 (by simp))
    have hfr := (hψ 15 (by simp) 16 (by simp) (by decide)).elim (fun q => q.2 rfl pp e16) (fun q => q.1 rfl pp e16)
    obtain ⟨t1, r1, u1, e15', f1⟩ := frC15.1 hfr
    rw [e15] at e15'
    simp only [Value.agg.injEq, Array.mk.injEq, List.cons.injEq, Value.slice.injEq, and_true, true_and] at e15'
    obtain ⟨ea, eb, ec⟩ := e15'
    subst ea eb ec
    obtain ⟨v6, hv6⟩ : ∃ v, v = vs 6 := ⟨_, rfl⟩
    obtain ⟨v14, hv14⟩ : ∃ v, v = vs 14 := ⟨_, rfl⟩
    change wpAnyH _ _ _ _ _ _ _ (((((_ : Act).put (some 12) (vs 6)).put (some 20) (vs 14)).put (some 21) (vs 15)).put (some 3) (vs 16)) _
    rw [e15, e16, ← hv6, ← hv14]
    try simp only [Act.put, List.getElem_toArray, List.getElem_cons_zero, List.getElem_cons_succ, List.setIfInBounds_toArray, List.set_cons_zero, List.set_cons_succ]
    have F1 := Lib.hid f1
    have BX := Lib.hid (below_step' BYb.out hbx)
    have hbxx := hbx
    have HBP := Lib.hid hbp
    have HOP := Lib.hid hop
    have HP1 := Lib.hid hp1
    have HP2 := Lib.hid hp2
    clear hv6 hv14 hφ hψ hbx f1 e15 e16 hfr
    refine wpAnyH_ready (rs := [17]) (by kernel_rfl) (by simp) ?_
    refine AllReadyH.cons rfl (fun K hK => ?_) AllReadyH.nil
    have k0 := hbp 0 _ rfl
    have k1 := hbp 1 _ rfl
    have k2 := hbp 2 _ rfl
    have k3 := hbp 3 _ rfl
    have k4 := hbp 4 _ rfl
    have k5 := hbp 5 _ rfl
    have q0 := hop.frozen 0
    have q1 := hop.frozen 1
    have q2 := hop.frozen 2
    have q3 := hop.frozen 3
    have q4 := hop.frozen 4
    have q5 := hop.frozen 5
    clear hbp hop
    go_simp
    clear k0 k1 k2 k3 k4 k5 q0 q1 q2 q3 q4 q5
    obtain ⟨w9, hw9⟩ : ∃ x, x = set6 wx pp (.int .i64 m0) (.int .i64 m1) (.int .i64 m2) (.slice s1 x1 o1) (.slice none 0 0) (.slice none 0 0) := ⟨_, rfl⟩
    have r9 : BoxAt pp [.int .i64 m0, .int .i64 m1, .int .i64 m2, .slice s1 x1 o1, .slice none 0 0, .slice none 0 0] w9 := by rw [hw9]; exact box_set6 HBP.out
    have o9 : ∀ i, w9.frozen? ⟨pp, i, none⟩ = false := fun i => by
      rw [hw9, World.frozen?_setCell, World.frozen?_setCell, World.frozen?_setCell, World.frozen?_setCell, World.frozen?_setCell, World.frozen?_setCell]; exact HOP.out.frozen i
    have b9 : Below yb.heap.size yb w9 := by rw [hw9]; exact set6_below hbxx HP1.out
    have hs9 : SameOn (fun q => q ≠ pp) wx w9 := by rw [hw9]; exact set6_same (fun h => h rfl)
    have g1 := F1.out.same (hs9.sub (fun _ h => h.2))
    have hp9 : pp < w9.heap.size := Nat.lt_of_lt_of_le HP2.out hs9.1
    show K _ (set6 wx pp (.int .i64 m0) (.int .i64 m1) (.int .i64 m2) (.slice s1 x1 o1) (.slice none 0 0) (.slice none 0 0))
    rw [← hw9]
    have R9 := Lib.hid r9
    have O9 := Lib.hid o9
    have B9 := Lib.hid b9
    have G1 := Lib.hid g1
    have HP9 := Lib.hid hp9
    clear hw9 r9 o9 b9 hs9 g1 hp9 hbxx F1 HBP HOP HP2
    refine hK.out _ _ ?_ (fun hHeld => ?_)
    · exact ⟨K0.out.below (below_step' BYb.out B9.out) 0 _ rfl, K0.out.below (below_step' BYb.out B9.out) 1 _ rfl, K0.out.below (below_step' BYb.out B9.out) 2 _ rfl, K0.out.below (below_step' BYb.out B9.out) 3 _ rfl⟩
    clear hK K
    try simp only [Act.put, List.getElem_toArray, List.getElem_cons_zero, List.getElem_cons_succ, List.setIfInBounds_toArray, List.set_cons_zero, List.set_cons_succ]
    refine wpAnyH_done (by kernel_rfl) ?_ _
    have hqw : w.heap.size ≤ bc ∧ w.heap.size ≤ br ∧ bc ≠ br ∧ br < yb.heap.size ∧ w.heap.size < yb.heap.size ∧ bc < yb.heap.size ∧ yb.heap.size ≤ w9.heap.size ∧ y0.heap.size ≤ yb.heap.size ∧ yb.heap.size ≤ pp := by have h1 := RR.out; have h2 := BYb.out.size; have h3 := B9.out.size; have h4 := HP1.out; omega
    have HQW := Lib.hid hqw
    clear hqw hp1 hp2 hSx hHeld
    go_wp2_with fail
    have HP94 := HP9
    have HW94 : Hid (yb.heap.size ≤ w9.heap.size) := Lib.hid B9.out.size
    have C4 : Hid (CutB yb w9 pp 4 45 [.int .i64 m0, .int .i64 m1, .int .i64 m2, .slice s1 x1 o1, .slice none 0 0, .slice none 0 0] (.slice none 0 0) [] w9) := Lib.hid ⟨fun i u e hi => R9.out i u e, O9.out, ⟨R9.out 4 _ rfl, O9.out 4, ⟨Own.nil B9.out, fun k hk => by simp [Value.ownBlock] at hk⟩, by have := HP9.out; omega, HP1.out⟩, SameOn.refl _ _⟩
    go_loopw [4] (fun i wr => ∃ (k : Nat) (v : Value), i = .int .i64 k ∧ k ≤ n2 ∧ k ≤ 7 ∧ CutB yb w9 pp 4 45 [.int .i64 m0, .int .i64 m1, .int .i64 m2, .slice s1 x1 o1, .slice none 0 0, .slice none 0 0] v (((p.inn.take k).map (·.take 20)).map (fun m => [dLinks m])) wr) (fun i _ => 7 - (intOf i).toNat)
    case atStart => exact ⟨0, _, rfl, by omega, by omega, C4.out⟩
    case round =>
      obtain ⟨k, v, rfl, hk, hk40, hCA⟩ := hrel
      obtain ⟨wr4, hwr⟩ : ∃ x, x = wr := ⟨_, rfl⟩
      subst hwr
      have CA := Lib.hid hCA
      have hby := below_step' BYb.out hCA.f.bld.own.bel
      have BY := Lib.hid hby
      have c1 := K0.out.below hby 4 _ rfl
      clear hCA
      obtain ⟨va, vc, hv⟩ := CA.out.f.bld.own.slice
      rw [List.length_map, List.length_map, List.length_take, ← N2.out, Nat.min_eq_left hk] at hv
      subst hv
      by_cases hgo : k < n2 ∧ k < 7
      · obtain ⟨hlt, hl4⟩ := hgo
        have hlt' : (k : Int) < n2 := by omega
        have hl4' : (k : Int) < 7 := by omega
        obtain ⟨m, hm⟩ := some_of_lt (l := p.inn) (i := k) (by rw [← N2.out]; exact hlt)
        obtain ⟨lb, lo, ma, mc, e, hlb, e9, z0, hmm0⟩ := lls_at H2.out hm
        clear e9
        subst e
        have hbw := below_step' B0.out hby
        have z1 := (hbw.cell (World.block_lt_of_cell? w _ z0)).trans z0
        have hmm := hmm0.later hbw
        have HLB : Hid (lb < y0.heap.size ∧ bc < y0.heap.size) := Lib.hid ⟨Nat.lt_of_lt_of_le hlb B0.out.size, RR.out.1⟩
        clear z0 hmm0 hbw hlb
        obtain ⟨ml, hml⟩ : ∃ n, n = m.length := ⟨_, rfl⟩
        rw [← hml] at z1 hmm
        have hcm := capOf hmm
        obtain ⟨kk, hkk⟩ : ∃ x, x = min ml 20 := ⟨_, rfl⟩
        have hmn : (if 20 < (ml : Int) then (20 : Int) else (ml : Int)) = (kk : Int) := by split <;> omega
        have hmn' : min (ml : Int) 20 = (kk : Int) := by omega
        have hkc : kk ≤ mc := by omega
        have hkx : kk ≤ 20 := by omega
        have hh : Has wr4 (.slice ma kk mc) (dLinks (m.take 20)) := by
          rw [take_of_min hml hkk]
          have h := Holds.take (m := kk) hmm (by rw [List.length_map, ← hml]; omega)
          rw [← List.map_take] at h
          exact h
        have HH := Lib.hid hh
        have HM := Lib.hid hm
        have QS : Hid (∀ w', Below wr4.heap.size wr4 w' → w'.cell? ⟨bc, 4, none⟩ = some (.slice (some ⟨lb, lo, none⟩) n2 e2) ∧ w'.cell? ⟨lb, lo + k, none⟩ = some (.slice ma ml mc)) := Lib.hid (fun w' hb => ⟨(hb.cell (World.block_lt_of_cell? wr4 _ c1)).trans c1, (hb.cell (World.block_lt_of_cell? wr4 _ z1)).trans z1⟩)
        clear hm hmm hh hml hkk hcm z1
        go_wp2_with fail
        clear c1
        refine wp_region_held_drew (S := (fun w' => w'.cell? ⟨bc, 4, none⟩ = some (.slice (some ⟨lb, lo, none⟩) n2 e2) ∧ w'.cell? ⟨lb, lo + k, none⟩ = some (.slice ma ml mc))) (by kernel_rfl) ?_ (fun hHeld => ?_)
        · exact QS.out _ (below_drewN (Below.refl _ wr4) 1)
        obtain ⟨yd, hyd⟩ : ∃ y, y = wr4.drew := ⟨_, rfl⟩
        rw [← hyd] at hHeld ⊢
        have BD : Hid (Below wr4.heap.size wr4 yd) := Lib.hid (by rw [hyd]; exact below_drewN (Below.refl _ wr4) 1)
        clear hyd
        refine tq 0 ?_
        refine tq 3 ?_
        refine tq 4 ?_
        refine tq 5 ?_
        refine tq 6 ?_
        refine tq 7 ?_
        refine tq 8 ?_
        refine tq 9 ?_
        refine tq 10 ?_
        refine tq 11 ?_
        refine tq 12 ?_
        refine tq 13 ?_
        refine tq 14 ?_
        refine tq 15 ?_
        refine wpAnyH_group (n := 3) [1, 2, 16, 17] 18 (phL yd (.slice va k vc) (dLinks (m.take 20))) (fun _ _ _ _ _ => True) (by kernel_rfl) (by kernel_rfl) (by kernel_rfl) (by kernel_rfl) (by kernel_rfl) (fun _ _ _ _ h hb => phL_mono h hb) (fun _ _ _ _ _ _ h _ => h) ?step4 hHeld ?fin4
        case step4 =>
          intro g hg o ho D vs a wy hD hgD hφ hψ hSx hby hfr hdep K hK
          have hwz := hby.size
          have BXY := below_step' BD.out hby
          have SX : ∀ w', Below wy.heap.size wy w' → w'.cell? ⟨bc, 4, none⟩ = some (.slice (some ⟨lb, lo, none⟩) n2 e2) ∧ w'.cell? ⟨lb, lo + k, none⟩ = some (.slice ma ml mc) := fun w' hb => QS.out _ (below_step' BXY hb)
          simp only [List.mem_cons, List.not_mem_nil, or_false] at hg
          rcases hg with rfl | rfl | rfl | rfl
          · obtain rfl := Option.some.inj (show some _ = some o from ho)
            have t35 : a.tmps[33]? = _ := (hfr 33 (by decide)).trans rfl
            have cl := ((CA.out.f.below BXY).cell)
            go_simp
            exact hK.out _ _ hSx (by unfold phL; rw [if_pos rfl]) (fun _ _ => trivial) (Below.refl _ _)
          · obtain rfl := Option.some.inj (show some _ = some o from ho)
            go_simp
            exact hK.out _ _ (SX _ (below_new _ _)) (by unfold phL; rw [if_neg (by decide), if_pos rfl]; exact ⟨_, rfl⟩) (fun _ _ => trivial) (below_new _ _)
          · obtain rfl := Option.some.inj (show some _ = some o from ho)
            obtain ⟨h0, d0⟩ := hdep 2 (by simp) (ahead_mem (by kernel_rfl))
            have h2 := hφ 2 h0
            unfold phL at h2
            rw [if_neg (by decide), if_pos rfl] at h2
            obtain ⟨a0, ea0⟩ := h2
            have e5 := ev_of (d0 35 rfl)
            rw [ea0] at e5
            have e12 : a.eval (.tmp 48) = .slice ma kk mc := ev_of ((hfr 48 (by decide)).trans rfl)
            exact wp_if (appS0 (ops := #[]) (F := True) rfl _ _ 45 47 iM (.agg #[.int .i64 0, .int .i64 0]) 2 16 rfl Try.underlying45 hiM hzM hsM hbM rfl (by decide) a0 ((m.take 20).map (fun p : Int × Int => [dI p.1, dI p.2])) kk mc e5 ma e12 (HH.out.later BXY) (fl_links _) (flat_links _) (by unfold maxLen; omega) (by omega) (fun ao cv w' hH hb => hK.out _ _ (SX w' hb) (phL16.2 ⟨ao, kk, cv, rfl, hH.loose.wide (fun q _ (h : wy.heap.size ≤ q) => Nat.le_trans hwz h)⟩) (fun _ _ => trivial) hb)) rfl
          · obtain rfl := Option.some.inj (show some _ = some o from ho)
            obtain ⟨h0, d0⟩ := hdep 16 (by simp) (ahead_mem (by kernel_rfl))
            obtain ⟨b1, b2, b3, e16, hb16⟩ := phL16.1 (hφ 16 h0)
            have t51 := d0 49 rfl
            rw [e16] at t51 hb16
            clear hψ hφ hdep hfr d0
            go_simp
            have hbn := below_new wy (.cells #[.slice b1 b2 b3] 45)
            exact hK.out _ _ (SX _ hbn) (phL17.2 ⟨_, b1, b2, b3, rfl, World.cell?_alloc_at _ _ _ _ rfl, hb16.later hbn⟩) (fun _ _ => trivial) hbn
        case fin4 =>
          intro vs wy hSx hby hφ hψ
          obtain ⟨bb, b1, b2, b3, e17, hcb, hb17⟩ := phL17.1 (hφ 17 (by simp))
          have e1 : vs 1 = .slice va k vc := by have := hφ 1 (by simp); unfold phL at this; rw [if_pos rfl] at this; exact this
          obtain ⟨v2, hv2⟩ : ∃ v, v = vs 2 := ⟨_, rfl⟩
          obtain ⟨v16, hv16⟩ : ∃ v, v = vs 16 := ⟨_, rfl⟩
          change wpAnyH _ _ _ _ _ _ _ (((((_ : Act).put (some 34) (vs 1)).put (some 35) (vs 2)).put (some 49) (vs 16)).put (some 50) (vs 17)) _
          rw [e17, e1, ← hv2, ← hv16]
          try simp only [Act.put, List.getElem_toArray, List.getElem_cons_zero, List.getElem_cons_succ, List.setIfInBounds_toArray, List.set_cons_zero, List.set_cons_succ]
          have BXY := Lib.hid (below_step' BD.out hby)
          have HB17 := Lib.hid hb17
          have HCB := Lib.hid hcb
          clear hv2 hv16 hφ hψ hby e17 e1 hb17 hcb
          have hlen : (((p.inn.take k).map (·.take 20)).map (fun m => [dLinks m])).length = k := by rw [List.length_map, List.length_map, List.length_take, ← N2.out]; omega
          have hbp : bc ≠ pp ∧ lb ≠ pp ∧ bc < w9.heap.size ∧ lb < w9.heap.size := by have h1 := HLB.out; have h2 := HP1.out; have h3 := HQW.out; have h4 := HW94.out; omega
          have HBP2 := Lib.hid hbp
          clear hbp
          refine wpAnyH_ready (rs := [18]) (by kernel_rfl) (by simp) ?_
          refine AllReadyH.cons rfl (fun K hK => ?_) AllReadyH.nil
          refine appS rfl _ _ 23 45 iL (.slice none 0 0) 1 24 rfl Try.underlying23 hiL hzL hsL hbL rfl (by decide) False (fun q => w9.heap.size ≤ q) yb wr4.heap.size _ (((p.inn.take k).map (·.take 20)).map (fun m => [dLinks m])) [[dLinks (m.take 20)]] k 1 1 (k + 1) rfl (CA.out.f.bld.own.later BXY.out) hlen (some ⟨bb, 0, none⟩) rfl [.slice b1 b2 b3] (fun a ha j u hu => by
            cases ha
            match j, hu with
            | 0, hu => cases hu; exact HCB.out) (fun e => by cases e) (by simp) rfl (by
            rw [List.flatten_cons, List.flatten_nil, List.append_nil]
            exact hl_cons (HB17.out.wide (fun q _ (h : yd.heap.size ≤ q) => by have h1 := BD.out.size; have h2 := CA.out.s.1; exact ⟨by omega, fun e => by have := CA.out.f.bld.own.blk q e; omega, fun f => f.elim⟩)) hl_nil) rfl (by unfold maxLen; omega) (by omega) ?_
          intro ao cv w6 hO6 hg6 hb6
          obtain ⟨hCN, hc6, hf6, hk6⟩ := CA.out.push HP94.out BXY.out hO6 hg6 hb6
          have v1 := hk6 _ _ hSx.1 HBP2.out.2.2.1
          have v2' := hk6 _ _ hSx.2 HBP2.out.2.2.2
          have CN := Lib.hid hCN
          have V1 := Lib.hid (v1.2 HBP2.out.1)
          have V2 := Lib.hid (v2'.2 HBP2.out.2.1)
          have HC6 := Lib.hid hc6
          have HF6 := Lib.hid hf6
          refine hK.out _ _ ⟨v1.1, v2'.1⟩ (fun hHeld => ?_)
          clear hK K hO6 hg6 hb6 hCN hc6 hf6 hk6 v1 v2'
          try simp only [Act.put, List.getElem_toArray, List.getElem_cons_zero, List.getElem_cons_succ, List.setIfInBounds_toArray, List.set_cons_zero, List.set_cons_succ]
          refine tq 19 ?_
          refine wpAnyH_ready (rs := [20]) (by kernel_rfl) (by simp) ?_
          refine AllReadyH.cons rfl (fun K hK => ?_) AllReadyH.nil
          have z6 := HC6.out
          have zf6 := HF6.out
          go_simp
          clear z6 zf6
          refine hK.out _ _ ⟨V1.out, V2.out⟩ (fun hHeld => ?_)
          clear hK K
          try simp only [Act.put, List.getElem_toArray, List.getElem_cons_zero, List.getElem_cons_succ, List.setIfInBounds_toArray, List.set_cons_zero, List.set_cons_succ]
          refine wpAnyH_done (by kernel_rfl) ?_ _
          go_wp2_with fail
          go_roundw
          case rel =>
            refine ⟨k + 1, .slice ao (k + 1) cv, by go_num, by omega, by omega, ?_⟩
            rw [List.take_add_one, HM.out]
            simp only [Option.toList, List.map_append, List.map_cons, List.map_nil]
            exact CN.out
          case measure => simp [intOf]; omega
      · have hgo' : ((k : Int) < n2 ∧ (k : Int) < 7) = False := by simp; omega
        have eQ : (p.inn.take k).map (·.take 20) = (cutP p).inn := by
          show _ = (p.inn.take 7).map (·.take 20)
          by_cases hk7 : k = 7
          · rw [hk7]
          · rw [List.take_of_length_le (by rw [← N2.out]; omega), List.take_of_length_le (by rw [← N2.out]; omega)]
        have EQ4 := Lib.hid eQ
        have CA4 := CA
        rw [EQ4.out] at CA4
        have BY4 := BY
        clear eQ hgo' CA BY
        have hcs : ¬ (k : Int) < n2 ∨ ((k : Int) < n2 ∧ ¬ (k : Int) < 7) := by omega
        rcases hcs with hcs | ⟨hcs, hcs2⟩
        all_goals
          obtain ⟨va4, hva4⟩ : ∃ x, x = va := ⟨_, rfl⟩
          obtain ⟨k4, hk4⟩ : ∃ x, x = k := ⟨_, rfl⟩
          obtain ⟨vc4, hvc4⟩ : ∃ x, x = vc := ⟨_, rfl⟩
          subst hva4
          subst hk4
          subst hvc4
          have HP95 : Hid (pp < wr4.heap.size) := Lib.hid (Nat.lt_of_lt_of_le HP94.out CA4.out.s.1)
          have HW95 : Hid (yb.heap.size ≤ wr4.heap.size) := Lib.hid (Nat.le_trans HW94.out CA4.out.s.1)
          have C5 : Hid (CutB yb wr4 pp 5 22 [.int .i64 m0, .int .i64 m1, .int .i64 m2, .slice s1 x1 o1, .slice va4 k4 vc4, .slice none 0 0] (.slice none 0 0) [] wr4) := Lib.hid ⟨fun i u e hi => by
              match i, e with
              | 0, e => cases e; exact CA4.out.oth 0 _ rfl (by decide)
              | 1, e => cases e; exact CA4.out.oth 1 _ rfl (by decide)
              | 2, e => cases e; exact CA4.out.oth 2 _ rfl (by decide)
              | 3, e => cases e; exact CA4.out.oth 3 _ rfl (by decide)
              | 4, e => cases e; exact CA4.out.f.cell
              | 5, e => exact absurd rfl hi
              | i + 6, e => simp at e, CA4.out.frz, ⟨CA4.out.oth 5 _ rfl (by decide), CA4.out.frz 5, ⟨Own.nil CA4.out.f.bld.own.bel, fun k hk => by simp [Value.ownBlock] at hk⟩, by have := HP95.out; omega, HP1.out⟩, SameOn.refl _ _⟩
          have G1b := Lib.hid ((G1.out.wide (P' := fun q => (q < w9.heap.size ∧ q ≠ pp) ∧ yb.heap.size ≤ q) (fun q hq hh => ⟨⟨hq, hh.2⟩, hh.1⟩)).same (CA4.out.s.sub (fun q h => h.1)) |>.wide (P' := fun q => (q < wr4.heap.size ∧ q ≠ pp) ∧ yb.heap.size ≤ q) (fun q hq hh => ⟨⟨hq, hh.1.2⟩, hh.2⟩))
          have G4b := Lib.hid (CA4.out.f.bld.holds.wide (P' := fun q => (q < wr4.heap.size ∧ q ≠ pp) ∧ yb.heap.size ≤ q) (fun q hq (hh : w9.heap.size ≤ q) => ⟨⟨hq, by have := HP94.out; omega⟩, by have := HQW.out; omega⟩))
          have c5 := K0.out.below BY4.out 4 _ rfl
          have hk7 : k4 ≤ 7 := hk40
          clear hk hk40
          go_wp2_with fail
          clear c5
          go_loopw [5] (fun i wr => ∃ (k : Nat) (v : Value), i = .int .i64 k ∧ k ≤ n3 ∧ k ≤ 7 ∧ CutB yb wr4 pp 5 22 [.int .i64 m0, .int .i64 m1, .int .i64 m2, .slice s1 x1 o1, .slice va4 k4 vc4, .slice none 0 0] v (((p.out.take k).map (·.take 20)).map (fun m => [dInts m])) wr) (fun i _ => 7 - (intOf i).toNat)
          case atStart => exact ⟨0, _, rfl, by omega, by omega, C5.out⟩
          case round =>
            obtain ⟨k, v, rfl, hk, hk40, hCA⟩ := hrel
            obtain ⟨wr5, hwr⟩ : ∃ x, x = wr := ⟨_, rfl⟩
            subst hwr
            have CA := Lib.hid hCA
            have hby := below_step' BYb.out hCA.f.bld.own.bel
            have BY := Lib.hid hby
            have c1 := K0.out.below hby 5 _ rfl
            clear hCA
            obtain ⟨va, vc, hv⟩ := CA.out.f.bld.own.slice
            rw [List.length_map, List.length_map, List.length_take, ← N3.out, Nat.min_eq_left hk] at hv
            subst hv
            by_cases hgo : k < n3 ∧ k < 7
            · obtain ⟨hlt, hl4⟩ := hgo
              have hlt' : (k : Int) < n3 := by omega
              have hl4' : (k : Int) < 7 := by omega
              obtain ⟨m, hm⟩ := some_of_lt (l := p.out) (i := k) (by rw [← N3.out]; exact hlt)
              obtain ⟨lb, lo, ma, mc, e, hlb, e9, z0, hmm0⟩ := ils_at H3.out hm
              clear e9
              subst e
              have hbw := below_step' B0.out hby
              have z1 := (hbw.cell (World.block_lt_of_cell? w _ z0)).trans z0
              have hmm := hmm0.later hbw
              have HLB : Hid (lb < y0.heap.size ∧ bc < y0.heap.size) := Lib.hid ⟨Nat.lt_of_lt_of_le hlb B0.out.size, RR.out.1⟩
              clear z0 hmm0 hbw hlb
              obtain ⟨ml, hml⟩ : ∃ n, n = m.length := ⟨_, rfl⟩
              rw [← hml] at z1 hmm
              have hcm := capOf hmm
              obtain ⟨kk, hkk⟩ : ∃ x, x = min ml 20 := ⟨_, rfl⟩
              have hmn : (if 20 < (ml : Int) then (20 : Int) else (ml : Int)) = (kk : Int) := by split <;> omega
              have hmn' : min (ml : Int) 20 = (kk : Int) := by omega
              have hkc : kk ≤ mc := by omega
              have hkx : kk ≤ 20 := by omega
              have hh : Has wr5 (.slice ma kk mc) (dInts (m.take 20)) := by
                rw [take_of_min hml hkk]
                have h := Holds.take (m := kk) hmm (by rw [List.length_map, ← hml]; omega)
                rw [← List.map_take] at h
                exact h
              have HH := Lib.hid hh
              have HM := Lib.hid hm
              have QS : Hid (∀ w', Below wr5.heap.size wr5 w' → w'.cell? ⟨bc, 5, none⟩ = some (.slice (some ⟨lb, lo, none⟩) n3 e3) ∧ w'.cell? ⟨lb, lo + k, none⟩ = some (.slice ma ml mc)) := Lib.hid (fun w' hb => ⟨(hb.cell (World.block_lt_of_cell? wr5 _ c1)).trans c1, (hb.cell (World.block_lt_of_cell? wr5 _ z1)).trans z1⟩)
              clear hm hmm hh hml hkk hcm z1
              go_wp2_with fail
              clear c1
              refine wp_region_held_drew (S := (fun w' => w'.cell? ⟨bc, 5, none⟩ = some (.slice (some ⟨lb, lo, none⟩) n3 e3) ∧ w'.cell? ⟨lb, lo + k, none⟩ = some (.slice ma ml mc))) (by kernel_rfl) ?_ (fun hHeld => ?_)
              · exact QS.out _ (below_drewN (Below.refl _ wr5) 1)
              obtain ⟨yd, hyd⟩ : ∃ y, y = wr5.drew := ⟨_, rfl⟩
              rw [← hyd] at hHeld ⊢
              have BD : Hid (Below wr5.heap.size wr5 yd) := Lib.hid (by rw [hyd]; exact below_drewN (Below.refl _ wr5) 1)
              clear hyd
              refine tq 0 ?_
              refine tq 3 ?_
              refine tq 4 ?_
              refine tq 5 ?_
              refine tq 6 ?_
              refine tq 7 ?_
              refine tq 8 ?_
              refine tq 9 ?_
              refine tq 10 ?_
              refine tq 11 ?_
              refine tq 12 ?_
              refine tq 13 ?_
              refine tq 14 ?_
              refine tq 15 ?_
              refine wpAnyH_group (n := 3) [1, 2, 16, 17] 18 (phL yd (.slice va k vc) (dInts (m.take 20))) (fun _ _ _ _ _ => True) (by kernel_rfl) (by kernel_rfl) (by kernel_rfl) (by kernel_rfl) (by kernel_rfl) (fun _ _ _ _ h hb => phL_mono h hb) (fun _ _ _ _ _ _ h _ => h) ?step5 hHeld ?fin5
              case step5 =>
                intro g hg o ho D vs a wy hD hgD hφ hψ hSx hby hfr hdep K hK
                have hwz := hby.size
                have BXY := below_step' BD.out hby
                have SX : ∀ w', Below wy.heap.size wy w' → w'.cell? ⟨bc, 5, none⟩ = some (.slice (some ⟨lb, lo, none⟩) n3 e3) ∧ w'.cell? ⟨lb, lo + k, none⟩ = some (.slice ma ml mc) := fun w' hb => QS.out _ (below_step' BXY hb)
                simp only [List.mem_cons, List.not_mem_nil, or_false] at hg
                rcases hg with rfl | rfl | rfl | rfl
                · obtain rfl := Option.some.inj (show some _ = some o from ho)
                  have t35 : a.tmps[64]? = _ := (hfr 64 (by decide)).trans rfl
                  have cl := ((CA.out.f.below BXY).cell)
                  go_simp
                  exact hK.out _ _ hSx (by unfold phL; rw [if_pos rfl]) (fun _ _ => trivial) (Below.refl _ _)
                · obtain rfl := Option.some.inj (show some _ = some o from ho)
                  go_simp
                  exact hK.out _ _ (SX _ (below_new _ _)) (by unfold phL; rw [if_neg (by decide), if_pos rfl]; exact ⟨_, rfl⟩) (fun _ _ => trivial) (below_new _ _)
                · obtain rfl := Option.some.inj (show some _ = some o from ho)
                  obtain ⟨h0, d0⟩ := hdep 2 (by simp) (ahead_mem (by kernel_rfl))
                  have h2 := hφ 2 h0
                  unfold phL at h2
                  rw [if_neg (by decide), if_pos rfl] at h2
                  obtain ⟨a0, ea0⟩ := h2
                  have e5 := ev_of (d0 66 rfl)
                  rw [ea0] at e5
                  have e12 : a.eval (.tmp 79) = .slice ma kk mc := ev_of ((hfr 79 (by decide)).trans rfl)
                  exact wp_if (appS0 (ops := #[]) (F := True) rfl _ _ 22 3 i1 (.int .i64 0) 1 8 rfl Try.underlying22 hi1 hz1 hs1 hby1 rfl (by decide) a0 ((m.take 20).map (fun a => [dI a])) kk mc e5 ma e12 (HH.out.later BXY) (fl_ints _) (flat_ints _) (by unfold maxLen; omega) (by omega) (fun ao cv w' hH hb => hK.out _ _ (SX w' hb) (phL16.2 ⟨ao, kk, cv, rfl, hH.loose.wide (fun q _ (h : wy.heap.size ≤ q) => Nat.le_trans hwz h)⟩) (fun _ _ => trivial) hb)) rfl
                · obtain rfl := Option.some.inj (show some _ = some o from ho)
                  obtain ⟨h0, d0⟩ := hdep 16 (by simp) (ahead_mem (by kernel_rfl))
                  obtain ⟨b1, b2, b3, e16, hb16⟩ := phL16.1 (hφ 16 h0)
                  have t51 := d0 80 rfl
                  rw [e16] at t51 hb16
                  clear hψ hφ hdep hfr d0
                  go_simp
                  have hbn := below_new wy (.cells #[.slice b1 b2 b3] 22)
                  exact hK.out _ _ (SX _ hbn) (phL17.2 ⟨_, b1, b2, b3, rfl, World.cell?_alloc_at _ _ _ _ rfl, hb16.later hbn⟩) (fun _ _ => trivial) hbn
              case fin5 =>
                intro vs wy hSx hby hφ hψ
                obtain ⟨bb, b1, b2, b3, e17, hcb, hb17⟩ := phL17.1 (hφ 17 (by simp))
                have e1 : vs 1 = .slice va k vc := by have := hφ 1 (by simp); unfold phL at this; rw [if_pos rfl] at this; exact this
                obtain ⟨v2, hv2⟩ : ∃ v, v = vs 2 := ⟨_, rfl⟩
                obtain ⟨v16, hv16⟩ : ∃ v, v = vs 16 := ⟨_, rfl⟩
                change wpAnyH _ _ _ _ _ _ _ (((((_ : Act).put (some 65) (vs 1)).put (some 66) (vs 2)).put (some 80) (vs 16)).put (some 81) (vs 17)) _
                rw [e17, e1, ← hv2, ← hv16]
                try simp only [Act.put, List.getElem_toArray, List.getElem_cons_zero, List.getElem_cons_succ, List.setIfInBounds_toArray, List.set_cons_zero, List.set_cons_succ]
                have BXY := Lib.hid (below_step' BD.out hby)
                have HB17 := Lib.hid hb17
                have HCB := Lib.hid hcb
                clear hv2 hv16 hφ hψ hby e17 e1 hb17 hcb
                have hlen : (((p.out.take k).map (·.take 20)).map (fun m => [dInts m])).length = k := by rw [List.length_map, List.length_map, List.length_take, ← N3.out]; omega
                have hbp : bc ≠ pp ∧ lb ≠ pp ∧ bc < wr4.heap.size ∧ lb < wr4.heap.size := by have h1 := HLB.out; have h2 := HP1.out; have h3 := HQW.out; have h4 := HW95.out; omega
                have HBP2 := Lib.hid hbp
                clear hbp
                refine wpAnyH_ready (rs := [18]) (by kernel_rfl) (by simp) ?_
                refine AllReadyH.cons rfl (fun K hK => ?_) AllReadyH.nil
                refine appS rfl _ _ 24 22 iO (.slice none 0 0) 1 24 rfl Try.underlying24 hiO hzO hsO hbO rfl (by decide) False (fun q => wr4.heap.size ≤ q) yb wr5.heap.size _ (((p.out.take k).map (·.take 20)).map (fun m => [dInts m])) [[dInts (m.take 20)]] k 1 1 (k + 1) rfl (CA.out.f.bld.own.later BXY.out) hlen (some ⟨bb, 0, none⟩) rfl [.slice b1 b2 b3] (fun a ha j u hu => by
                  cases ha
                  match j, hu with
                  | 0, hu => cases hu; exact HCB.out) (fun e => by cases e) (by simp) rfl (by
                  rw [List.flatten_cons, List.flatten_nil, List.append_nil]
                  exact hl_cons (HB17.out.wide (fun q _ (h : yd.heap.size ≤ q) => by have h1 := BD.out.size; have h2 := CA.out.s.1; exact ⟨by omega, fun e => by have := CA.out.f.bld.own.blk q e; omega, fun f => f.elim⟩)) hl_nil) rfl (by unfold maxLen; omega) (by omega) ?_
                intro ao cv w6 hO6 hg6 hb6
                obtain ⟨hCN, hc6, hf6, hk6⟩ := CA.out.push HP95.out BXY.out hO6 hg6 hb6
                have v1 := hk6 _ _ hSx.1 HBP2.out.2.2.1
                have v2' := hk6 _ _ hSx.2 HBP2.out.2.2.2
                have CN := Lib.hid hCN
                have V1 := Lib.hid (v1.2 HBP2.out.1)
                have V2 := Lib.hid (v2'.2 HBP2.out.2.1)
                have HC6 := Lib.hid hc6
                have HF6 := Lib.hid hf6
                refine hK.out _ _ ⟨v1.1, v2'.1⟩ (fun hHeld => ?_)
                clear hK K hO6 hg6 hb6 hCN hc6 hf6 hk6 v1 v2'
                try simp only [Act.put, List.getElem_toArray, List.getElem_cons_zero, List.getElem_cons_succ, List.setIfInBounds_toArray, List.set_cons_zero, List.set_cons_succ]
                refine tq 19 ?_
                refine wpAnyH_ready (rs := [20]) (by kernel_rfl) (by simp) ?_
                refine AllReadyH.cons rfl (fun K hK => ?_) AllReadyH.nil
                have z6 := HC6.out
                have zf6 := HF6.out
                go_simp
                clear z6 zf6
                refine hK.out _ _ ⟨V1.out, V2.out⟩ (fun hHeld => ?_)
                clear hK K
                try simp only [Act.put, List.getElem_toArray, List.getElem_cons_zero, List.getElem_cons_succ, List.setIfInBounds_toArray, List.set_cons_zero, List.set_cons_succ]
                refine wpAnyH_done (by kernel_rfl) ?_ _
                go_wp2_with fail
                go_roundw
                case rel =>
                  refine ⟨k + 1, .slice ao (k + 1) cv, by go_num, by omega, by omega, ?_⟩
                  rw [List.take_add_one, HM.out]
                  simp only [Option.toList, List.map_append, List.map_cons, List.map_nil]
                  exact CN.out
                case measure => simp [intOf]; omega
            · have hgo' : ((k : Int) < n3 ∧ (k : Int) < 7) = False := by simp; omega
              have eQ : (p.out.take k).map (·.take 20) = (cutP p).out := by
                show _ = (p.out.take 7).map (·.take 20)
                by_cases hk7 : k = 7
                · rw [hk7]
                · rw [List.take_of_length_le (by rw [← N3.out]; omega), List.take_of_length_le (by rw [← N3.out]; omega)]
              have EQ5 := Lib.hid eQ
              have CA5 := CA
              rw [EQ5.out] at CA5
              have BY5 := BY
              clear eQ hgo' CA BY
              have hcs : ¬ (k : Int) < n3 ∨ ((k : Int) < n3 ∧ ¬ (k : Int) < 7) := by omega
              rcases hcs with hcs | ⟨hcs, hcs2⟩
              all_goals
                have r0 := CA5.out.oth 0 _ rfl (by decide)
                have r1 := CA5.out.oth 1 _ rfl (by decide)
                have r2 := CA5.out.oth 2 _ rfl (by decide)
                have r3 := CA5.out.oth 3 _ rfl (by decide)
                have r4 := CA5.out.oth 4 _ rfl (by decide)
                have r5 := CA5.out.f.cell
                have hk1 := K1.out.below BY5.out
                have b0 := hk1 0 _ rfl
                have b1 := hk1 1 _ rfl
                have b2 := hk1 2 _ rfl
                have b3 := hk1 3 _ rfl
                have b4 := hk1 4 _ rfl
                have b5 := hk1 5 _ rfl
                have hff : ∀ i, wr5.frozen? ⟨br, i, none⟩ = false := fun i => (BY5.out.frozen (p := ⟨br, i, none⟩) RR.out.2.1).trans (FR.out i)
                have f0 := hff 0
                have f1 := hff 1
                have f2 := hff 2
                have f3 := hff 3
                have f4 := hff 4
                have f5 := hff 5
                have HB := Lib.hid (box_set6 (x0 := .int .i64 m0) (x1 := .int .i64 m1) (x2 := .int .i64 m2) (x3 := .slice s1 x1 o1) (x4 := .slice va4 k4 vc4) (x5 := .slice va k vc) hk1)
                have G5 := Lib.hid (CA5.out.f.bld.holds)
                have G3 := Lib.hid (G1b.out.same (CA5.out.s.sub (fun q h => h.1)))
                have G4 := Lib.hid (G4b.out.same (CA5.out.s.sub (fun q h => h.1)))
                clear hk1 hff
                have RES : Hid (CutTold p w (.returned (.agg #[.int .i64 m0, .int .i64 m1, .int .i64 m2, .slice s1 x1 o1, .slice va4 k4 vc4, .slice va k vc])) (set6 wr5 br (.int .i64 m0) (.int .i64 m1) (.int .i64 m2) (.slice s1 x1 o1) (.slice va4 k4 vc4) (.slice va k vc))) := Lib.hid
                  ⟨_, _, _, by rw [PQ.out], hl_cons ((G3.out.same (set6_same (fun h => by have h1 := HQW.out; have h2 := h.2; omega))).wide (fun q _ h => by have h1 := HQW.out; have h2 := h.2; omega)) (hl_cons ((G4.out.same (set6_same (fun h => by have h1 := HQW.out; have h2 := h.2; omega))).wide (fun q _ h => by have h1 := HQW.out; have h2 := h.2; omega)) (hl_cons ((G5.out.same (set6_same (fun (h : wr4.heap.size ≤ br) => by have h1 := HQW.out; have h2 := HW95.out; omega))).wide (fun q _ (h : wr4.heap.size ≤ q) => by have h1 := HQW.out; have h2 := HW95.out; omega)) hl_nil)), set6_below (below_step' B0.out BY5.out) HQW.out.2.1⟩
                clear G5 G3 G4
                go_wp2_with fail
                have d0 := HB.out 0 _ rfl
                have d1 := HB.out 1 _ rfl
                have d2 := HB.out 2 _ rfl
                have d3 := HB.out 3 _ rfl
                have d4 := HB.out 4 _ rfl
                have d5 := HB.out 5 _ rfl
                exact bodyPost_ret (v := .agg #[.int .i64 m0, .int .i64 m1, .int .i64 m2, .slice s1 x1 o1, .slice va4 k4 vc4, .slice va k vc]) (by simp [results, Try.results9, go_sem, d0, d1, d2, d3, d4, d5]) rfl RES.out
end Go.Proofs.Ytcopedhoepblpaa
