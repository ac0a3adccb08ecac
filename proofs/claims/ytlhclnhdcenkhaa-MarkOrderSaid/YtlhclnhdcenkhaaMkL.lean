/- Marks: what comes in; a mark in the law's box. -/
import Derived.Test.YtlhclnhdcenkhaaMkJ
import Derived.OpenShut
import Derived.ChangeSlices
import Derived.ProofKit
set_option linter.unusedSimpArgs false
set_option linter.unusedVariables false
set_option maxRecDepth 100000
namespace Go.Proofs.Ytlhclnhdcenkhaa
open Go.RowKit Go.PlainAid

structure Opr where
  isM : Bool
  ep : Int
  pl : Int
  x : Int × Int
def Opr.d (o : Opr) : List D := [dB o.isM, dI o.ep, dI o.pl, dI o.x.1, dI o.x.2]
def dOps (l : List Opr) : D := .row 5 (l.map Opr.d)
theorem ops_at {w : World} {a : Option Addr} {k cap i : Nat} {l : List Opr} {s : Opr} (h : Has w (.slice a k cap) (dOps l)) (hs : l[i]? = some s) :
    ∃ b o, a = some ⟨b, o, none⟩ ∧ w.cell? ⟨b, o + i * 5, none⟩ = some (.bool s.isM) ∧ w.cell? ⟨b, o + i * 5 + 1, none⟩ = some (.int .i64 s.ep) ∧ w.cell? ⟨b, o + i * 5 + 2, none⟩ = some (.int .i64 s.pl) ∧ w.cell? ⟨b, o + i * 5 + 3, none⟩ = some (.int .i64 s.x.1) ∧ w.cell? ⟨b, o + i * 5 + 4, none⟩ = some (.int .i64 s.x.2) := by
  obtain ⟨b, o, c, e, h1, h2, cs, hcs, hc⟩ := cells_of (f := Opr.d) h hs
  obtain ⟨v0, r, rfl, h0, hcs⟩ := hcs.cons
  obtain ⟨v1, r, rfl, h1', hcs⟩ := HasL.cons hcs
  obtain ⟨v2, r, rfl, h2', hcs⟩ := HasL.cons hcs
  obtain ⟨v3, r, rfl, h3', hcs⟩ := HasL.cons hcs
  obtain ⟨v4, r, rfl, h4', hcs⟩ := HasL.cons hcs
  obtain rfl := Holds.val h0
  obtain rfl := Holds.val h1'
  obtain rfl := Holds.val h2'
  obtain rfl := Holds.val h3'
  obtain rfl := Holds.val h4'
  simp only [Value.slice.injEq] at e
  exact ⟨b, o, e.1, hc 0 _ rfl, hc 1 _ rfl, hc 2 _ rfl, hc 3 _ rfl, hc 4 _ rfl⟩
section
open Go.ChangeShapes Go.WideShapes Go.Lib Go.Deep
variable {H : Type} {enc : TypeId × Value → H} {W : World} {n : Nat} {y : DataW H × List MemPlace}
theorem ops_of_trod {v : Value} (hd : DataW.trod enc Try.prog W 0 (fun _ => true) true n 22 [v] = some y) : ∃ xs : List Opr, Has W v (dOps xs) :=
  row_of_trod Try.underlying22 (by kernel_rfl) (by omega) (fun m cs y h => by
    obtain ⟨xs, k, -, -, hl, hlen, hf⟩ := DataW.trod_struct Try.underlying40 h
    rw [show Try.prog.cellsOf 40 = 5 by kernel_rfl] at hl
    match cs, hl, xs, hlen with
    | [c0, c1, c2, c3, c4], _, [x0, x1, x2, x3], _ =>
      have e1 : Try.prog.cellsOf 3 = 1 := by kernel_rfl
      have e2 : Try.prog.cellsOf 4 = 1 := by kernel_rfl
      have e3 : Try.prog.cellsOf 38 = 2 := by kernel_rfl
      have h0 := hf 0 _ rfl
      have h1 := hf 1 _ rfl
      have h2 := hf 2 _ rfl
      have h3 := hf 3 _ rfl
      simp [e1, e2, e3] at h0 h1 h2 h3
      obtain ⟨a0, ha0, -⟩ := DataW.trod_bool Try.underlying4 h0
      obtain ⟨a1, ha1, -, -⟩ := DataW.trod_int Try.underlying3 h1
      obtain ⟨a2, ha2, -, -⟩ := DataW.trod_int Try.underlying3 h2
      obtain ⟨z0, z1, k', -, hl', g0, g1⟩ := trod_struct2 Try.underlying38 h3
      simp [e1] at g0 g1
      obtain ⟨a3, ha3, -, -⟩ := DataW.trod_int Try.underlying3 g0
      obtain ⟨a4, ha4, -, -⟩ := DataW.trod_int Try.underlying3 g1
      simp at ha0 ha1 ha2 ha3 ha4
      subst ha0 ha1 ha2 ha3 ha4
      exact ⟨⟨a0, a1, a2, (a3, a4)⟩, .mk (has_bool _ _ _ _) (.mk (has_int _ _ _ _) (.mk (has_int _ _ _ _) (.mk (has_int _ _ _ _) (.mk (has_int _ _ _ _) (hasL_nil _ _ _))))), rfl⟩) hd
theorem open_ops {b0 : Nat} {v : Value} {d : DataW H} {ps : List MemPlace} (hval : Value.okWide Try.prog W .any b0 22 v) (hd : DataW.Trod enc Try.prog W 0 (fun _ => true) true 22 v d ps) : ∃ xs : List Opr, Has W v (dOps xs) := by
  obtain ⟨a, len, cap, rfl⟩ := okWide_slice Try.underlying22 hval
  obtain ⟨m, hm⟩ := hd
  exact ops_of_trod (by simpa [Value.cells] using hm)
end
def mkCells (m : Mk) (v0 v1 v2 v3 : Value) : List Value := [.int .i64 m.ep, v0, .int .i64 m.p.node, .int .i64 m.p.state, .int .i64 m.p.steps, v1, v2, v3]
def hsCells (h : Hs) (g1 g2 : Value) : List Value := [.int .i64 h.node, .int .i64 h.state, .int .i64 h.steps, g1, g2]
/-- A mark lies in the box bm, its lists elsewhere (nor in bh). -/
structure MIn (bm bh : Nat) (m : Mk) (a0 a1 a2 a3 : Option Addr) (n0 n1 n2 n3 e0 e1 e2 e3 : Nat) (w : World) : Prop where
  box : BoxAt bm (mkCells m (.slice a0 n0 e0) (.slice a1 n1 e1) (.slice a2 n2 e2) (.slice a3 n3 e3)) w
  opn : Open8 bm w
  dat : HoldsL False (fun q => q ≠ bm ∧ q ≠ bh) w [.slice a0 n0 e0, .slice a1 n1 e1, .slice a2 n2 e2, .slice a3 n3 e3] m.d
theorem MIn.below {bm bh : Nat} {m : Mk} {a0 a1 a2 a3 : Option Addr} {n0 n1 n2 n3 e0 e1 e2 e3 : Nat} {w w' : World} (h : MIn bm bh m a0 a1 a2 a3 n0 n1 n2 n3 e0 e1 e2 e3 w) (hb : Below w.heap.size w w') : MIn bm bh m a0 a1 a2 a3 n0 n1 n2 n3 e0 e1 e2 e3 w' := ⟨h.box.below hb, h.opn.below hb, h.dat.later hb⟩
theorem MIn.far {bm bh : Nat} {m : Mk} {a0 a1 a2 a3 : Option Addr} {n0 n1 n2 n3 e0 e1 e2 e3 : Nat} {w : World} (h : MIn bm bh m a0 a1 a2 a3 n0 n1 n2 n3 e0 e1 e2 e3 w) (o : Nat) (xs : List Value) (hne : bm ≠ bh) : MIn bm bh m a0 a1 a2 a3 n0 n1 n2 n3 e0 e1 e2 e3 (setN w bh o xs) :=
  ⟨setN_far hne h.box, h.opn.set, h.dat.same (setN_same (P := fun q => q ≠ bm ∧ q ≠ bh) (b := bh) (fun h => h.2 rfl) xs o w (SameOn.refl _ _))⟩
/-- What was told is stored there. -/
theorem MIn.put {bm bh : Nat} {m m' : Mk} {a0 a1 a2 a3 u0 u1 u2 u3 : Option Addr} {n0 n1 n2 n3 e0 e1 e2 e3 k0 k1 k2 k3 f0 f1 f2 f3 : Nat} {w : World} (h : MIn bm bh m a0 a1 a2 a3 n0 n1 n2 n3 e0 e1 e2 e3 w) (hd : HoldsL False (fun q => q ≠ bm ∧ q ≠ bh) w [.slice u0 k0 f0, .slice u1 k1 f1, .slice u2 k2 f2, .slice u3 k3 f3] m'.d) :
    MIn bm bh m' u0 u1 u2 u3 k0 k1 k2 k3 f0 f1 f2 f3 (setN w bm 0 (mkCells m' (.slice u0 k0 f0) (.slice u1 k1 f1) (.slice u2 k2 f2) (.slice u3 k3 f3))) :=
  ⟨setN_box (mkCells m' (.slice u0 k0 f0) (.slice u1 k1 f1) (.slice u2 k2 f2) (.slice u3 k3 f3)) 0 _ w h.box (Nat.le_refl _), h.opn.set, hd.same (setN_same (P := fun q => q ≠ bm ∧ q ≠ bh) (b := bm) (fun h => h.1 rfl) _ 0 w (SameOn.refl _ _))⟩
theorem told_off {w w' : World} {bm bh : Nat} {cs : List Value} {ds : List D} (h : HoldsL True (fun q => w.heap.size ≤ q) w' cs ds) (hb : bm < w.heap.size) (hh : bh < w.heap.size) : HoldsL False (fun q => q ≠ bm ∧ q ≠ bh) w' cs ds := h.loose.wide (fun q _ (hq : w.heap.size ≤ q) => by omega)
/-- The mark that the law has: as a host of n links began it. -/
structure Good (n j : Nat) (m : Mk) : Prop where
  ep : m.ep = 1
  op : m.op.length = n
  inn : m.p.inn.length = n
  im : ∀ l ∈ m.p.inn, l.length ≤ j
  sent : m.p.sent.length = n
  out : m.p.out = []
theorem Good.small {n j : Nat} {m : Mk} (h : Good n j m) (hn : n ≤ 6) (hj : j ≤ 100) : SmallMk m := ⟨by rw [h.op]; omega, ⟨by rw [h.sent]; omega, by rw [h.inn]; omega, by rw [h.out]; simp, fun l hl => by have := h.im l hl; omega, by rw [h.out]; simp⟩⟩
theorem Good.begin (n s : Nat) : Good n 0 (beginM (endsH n s) 1) := ⟨rfl, by unfold beginM endsH; simp, by unfold beginM tellP endsH; simp, fun l hl => by unfold beginM tellP at hl; simp only at hl; rw [List.eq_of_mem_replicate hl]; simp, by unfold beginM tellP lensOf endsH; simp, rfl⟩
theorem openB_lt {op : List Bool} {x : Int} (h : openB op x = true) : x.toNat < op.length := by
  unfold openB inB at h
  simp only [Bool.and_eq_true, decide_eq_true_eq] at h
  omega
theorem Good.app {n j : Nat} {m : Mk} (h : Good n j m) (x : Int) (y : Int × Int) : Good n (j + 1) (appM m x y) := by
  unfold appM
  split
  · next ho =>
    have hl : x.toNat < m.p.inn.length := by rw [h.inn, ← h.op]; exact openB_lt ho
    refine ⟨h.ep, h.op, by unfold getM; simp only [List.length_set]; exact h.inn, fun l hm => ?_, h.sent, h.out⟩
    unfold getM at hm
    simp only at hm
    rcases List.mem_or_eq_of_mem_set hm with hm | rfl
    · exact Nat.le_succ_of_le (h.im l hm)
    · rw [List.length_append]
      have : (m.p.inn.getD x.toNat []).length ≤ j := by
        simp only [List.getD, List.getElem?_eq_getElem hl, Option.getD_some]
        exact h.im _ (List.getElem_mem hl)
      exact Nat.succ_le_succ this
  · exact ⟨h.ep, h.op, h.inn, fun l hl => Nat.le_succ_of_le (h.im l hl), h.sent, h.out⟩

theorem Good.mark2 {n j : Nat} {m : Mk} (h : Good n j m) (s : Nat) (x : Int) : markM m (endsH n s) 2 x = if inB x n = true then (closeM (beginM (endsH n s) 2) x, true) else (m, false) := by
  unfold markM
  have e : ¬ m.ep = 2 := by rw [h.ep]; decide
  simp only [if_neg e]
  have l : (beginM (endsH n s) 2).op.length = n := by unfold beginM endsH; simp
  rw [l]
  simp [e]
theorem anew_op (n s k : Nat) : (closeM (beginM (endsH n s) 2) k).op = (List.replicate n true).set k false := by unfold closeM beginM endsH; simp
theorem anew_inn (n s k : Nat) : (closeM (beginM (endsH n s) 2) k).p.inn = List.replicate n [] := by unfold closeM beginM tellP endsH; simp
theorem anew_get {n k i : Nat} (h : i < n) : ((List.replicate n true).set k false)[i]? = some (!decide (i = k)) := by
  rw [List.getElem?_set]
  by_cases e : k = i
  · subst e; simp [h]
  · have e' : ¬ i = k := fun x => e x.symm
    simp [e, e', h]
theorem anew_done {n s k : Nat} (h : k < n) : doneM (closeM (beginM (endsH n s) 2) k) 2 = decide (n = 1) := by
  have e : doneM (closeM (beginM (endsH n s) 2) k) 2 = !hasT ((List.replicate n true).set k false) := by unfold doneM; rw [anew_op]; simp [closeM, beginM]
  rw [e]
  by_cases h1 : n = 1
  · subst h1
    obtain rfl : k = 0 := by omega
    decide
  · have : hasT ((List.replicate n true).set k false) = true := by
      unfold hasT
      rw [List.contains_iff_mem]
      by_cases hk : k = 0
      · exact List.mem_of_getElem? (i := 1) (by rw [anew_get (by omega)]; subst hk; rfl)
      · exact List.mem_of_getElem? (i := 0) (by rw [anew_get (by omega)]; simp; omega)
    rw [this]; simp [h1]
theorem anew_small {n s k : Nat} (h : n ≤ 6) : SmallMk (closeM (beginM (endsH n s) 2) k) := closeM_small (begin_small (ends_small n s h).1)
theorem setN_cell {b bm : Nat} {w : World} {o : Nat} {v : Value} (hne : b ≠ bm) (h : w.cell? ⟨b, o, none⟩ = some v) {i : Nat} {xs : List Value} : (setN w bm i xs).cell? ⟨b, o, none⟩ = some v :=
  ((setN_same (P := fun q => q ≠ bm) (b := bm) (fun h => h rfl) xs i w (SameOn.refl _ _)).cell (a := ⟨b, o, none⟩) hne (World.block_lt_of_cell? w _ h)).trans h
theorem Open8.same {P : Nat → Prop} {b : Nat} {w w' : World} (h : Open8 b w) (hs : SameOn P w w') (hp : P b) : Open8 b w' := ⟨Nat.lt_of_lt_of_le h.1 hs.1, fun i => (hs.frozen (a := ⟨b, i, none⟩) hp h.1).trans (h.2 i)⟩
theorem Good.no {n j : Nat} {m : Mk} (h : Good n j m) (s : Nat) {x : Int} (hx : inB x n = false) : markM m (endsH n s) 2 x = (m, false) := by rw [h.mark2, if_neg (by rw [hx]; simp)]
theorem Good.yes {n j : Nat} {m : Mk} (h : Good n j m) (s : Nat) {x : Int} (hx : inB x n = true) : markM m (endsH n s) 2 x = (closeM (beginM (endsH n s) 2) x, true) := by rw [h.mark2, if_pos hx]
def phM (c : Nat) (mm : Mk) (bo : Bool) (y : World) (g : Nat) (v : Value) (w : World) : Prop :=
  if g = c then ∃ v0 v1 v2 v3, v = .tuple #[mkv mm v0 v1 v2 v3, .bool bo] ∧ HoldsL False (fun q => y.heap.size ≤ q) w [v0, v1, v2, v3] mm.d
  else ∃ b, v = .pointer (some ⟨b, 0, none⟩) ∧ BoxAt b [.int .i64 0, .slice none 0 0, .int .i64 0, .int .i64 0, .int .i64 0, .slice none 0 0, .slice none 0 0, .slice none 0 0] w ∧ Open8 b w ∧ y.heap.size ≤ b
theorem phM_c {c : Nat} {mm : Mk} {bo : Bool} {y : World} {v : Value} {w : World} : phM c mm bo y c v w ↔ ∃ v0 v1 v2 v3, v = .tuple #[mkv mm v0 v1 v2 v3, .bool bo] ∧ HoldsL False (fun q => y.heap.size ≤ q) w [v0, v1, v2, v3] mm.d := by unfold phM; rw [if_pos rfl]
theorem phM_a {c g : Nat} {mm : Mk} {bo : Bool} {y : World} {v : Value} {w : World} (h : g ≠ c) : phM c mm bo y g v w ↔ ∃ b, v = .pointer (some ⟨b, 0, none⟩) ∧ BoxAt b [.int .i64 0, .slice none 0 0, .int .i64 0, .int .i64 0, .int .i64 0, .slice none 0 0, .slice none 0 0, .slice none 0 0] w ∧ Open8 b w ∧ y.heap.size ≤ b := by unfold phM; rw [if_neg h]
theorem phM_mono {c g : Nat} {mm : Mk} {bo : Bool} {y : World} {v : Value} {w w' : World} (h : phM c mm bo y g v w) (hb : Below w.heap.size w w') : phM c mm bo y g v w' := by
  by_cases e : g = c
  · subst e
    obtain ⟨v0, v1, v2, v3, e, h⟩ := phM_c.1 h
    exact phM_c.2 ⟨v0, v1, v2, v3, e, h.later hb⟩
  · obtain ⟨b, e', h1, h2, h3⟩ := (phM_a e).1 h
    exact (phM_a e).2 ⟨b, e', h1.below hb, h2.below hb, h3⟩
def apM (mm : Mk) (bo : Bool) (y : World) (v u : Value) (w : World) : Prop := ∀ b, u = .pointer (some ⟨b, 0, none⟩) → ∃ v0 v1 v2 v3, v = .tuple #[mkv mm v0 v1 v2 v3, .bool bo] ∧ HoldsL False (fun q => y.heap.size ≤ q ∧ q ≠ b) w [v0, v1, v2, v3] mm.d
theorem apM.later {mm : Mk} {bo : Bool} {y : World} {v u : Value} {w w' : World} (h : apM mm bo y v u w) (hb : Below w.heap.size w w') : apM mm bo y v u w' := fun b e => by
  obtain ⟨v0, v1, v2, v3, e, h⟩ := h b e
  exact ⟨v0, v1, v2, v3, e, h.later hb⟩
def psM (c : Nat) (mm : Mk) (bo : Bool) (y : World) (g h : Nat) (v u : Value) (w : World) : Prop := (g = c → h ≠ c → apM mm bo y v u w) ∧ (g ≠ c → h = c → apM mm bo y u v w)
theorem psM_mono {c g h : Nat} {mm : Mk} {bo : Bool} {y : World} {v u : Value} {w w' : World} (q : psM c mm bo y g h v u w) (hb : Below w.heap.size w w') : psM c mm bo y g h v u w' := ⟨fun a b => (q.1 a b).later hb, fun a b => (q.2 a b).later hb⟩
/-- The law's mark behind j markers. -/
def mE (n j : Nat) : Mk := ⟨1, List.replicate (n - j) true ++ List.replicate j false, tellP (endsH n 0)⟩
theorem mE_zero (n : Nat) : beginM (endsH n 0) 1 = mE n 0 := by unfold beginM mE endsH; simp
theorem mE_len (n j : Nat) (h : j ≤ n) : (mE n j).op.length = n := by unfold mE; simp; omega
theorem mE_small {n j : Nat} (h : j ≤ n) (hn : n ≤ 6) : SmallMk (mE n j) := ⟨by rw [mE_len n j h]; omega, (begin_small (e := 1) (ends_small n 0 hn).1).p⟩
theorem mE_next {n j : Nat} (h : j < n) (s : Nat) : markM (mE n j) (endsH n s) 1 ((n : Int) - 1 - (j : Int)) = (mE n (j + 1), false) := by
  unfold markM
  have e : (mE n j).ep = 1 := rfl
  simp only [e, if_true]
  have hi : inB ((n : Int) - 1 - (j : Int)) (mE n j).op.length = true := by rw [mE_len n j (by omega)]; simp [inB]; omega
  rw [if_pos hi]
  have ht : ((n : Int) - 1 - (j : Int)).toNat = n - 1 - j := by omega
  have : closeM (mE n j) ((n : Int) - 1 - (j : Int)) = mE n (j + 1) := by
    unfold closeM mE
    rw [ht]
    simp only [Mk.mk.injEq, true_and, and_true]
    apply List.ext_getElem?
    intro i
    rw [List.getElem?_set]
    simp only [List.getElem?_append, List.length_replicate, List.getElem?_replicate, List.length_append]
    split <;> split <;> (try split) <;> (try split) <;> (try split) <;> first | rfl | omega | (simp; omega) | simp_all
  rw [this]; rfl
theorem MIn.other {bm bh bx : Nat} {m : Mk} {a0 a1 a2 a3 : Option Addr} {n0 n1 n2 n3 e0 e1 e2 e3 : Nat} {w wx : World} (h : MIn bm bh m a0 a1 a2 a3 n0 n1 n2 n3 e0 e1 e2 e3 w) (hb : Below w.heap.size w wx) (hx : w.heap.size ≤ bx) (o : Nat) (xs : List Value) : MIn bm bh m a0 a1 a2 a3 n0 n1 n2 n3 e0 e1 e2 e3 (setN wx bx o xs) :=
  have hne : bm ≠ bx := fun e => by have := h.opn.1; omega
  ⟨setN_far hne (h.box.below hb), (h.opn.below hb).set, (((h.dat.wide (P' := fun q => (q ≠ bm ∧ q ≠ bh) ∧ q ≠ bx) (fun q hq hp => ⟨hp, by omega⟩)).later hb).same (setN_same (P := fun q => (q ≠ bm ∧ q ≠ bh) ∧ q ≠ bx) (b := bx) (fun h => h.2 rfl) xs o wx (SameOn.refl _ _))).wide (fun q _ h => h.1)⟩
theorem mE_done (n : Nat) : doneM (mE n n) 1 = true := by
  have : hasT (mE n n).op = false := by
    unfold hasT mE
    simp [List.contains_eq_mem, List.mem_replicate]
  unfold doneM; rw [this]; rfl
theorem mE_open (n : Nat) (x : Int) : openB (mE n n).op x = false := by
  unfold openB mE
  simp only [Nat.sub_self, List.replicate_zero, List.nil_append, List.getD, List.getElem?_replicate]
  split <;> simp
theorem mE_app (n : Nat) (x : Int) (y : Int × Int) : appM (mE n n) x y = mE n n := by unfold appM; rw [mE_open]; rfl
theorem mE_stay (n s : Nat) (x : Int) : markM (mE n n) (endsH n s) 1 x = (mE n n, false) := by
  unfold markM
  have e : (mE n n).ep = 1 := rfl
  simp only [e, if_true]
  split
  · have : closeM (mE n n) x = mE n n := by
      unfold closeM mE
      simp only [Mk.mk.injEq, true_and, and_true, Nat.sub_self, List.replicate_zero, List.nil_append]
      apply List.ext_getElem?
      intro i
      rw [List.getElem?_set]
      split
      · next e =>
        subst e
        split
        · next h => simp only [List.getElem?_replicate]; rw [if_pos (by simpa using h)]
        · next h => simp only [List.getElem?_replicate]; rw [if_neg (by simpa using h)]
      · rfl
    rw [this]; rfl
  · rfl
theorem mE_new {n : Nat} (s : Nat) (h : 0 < n) : markM (mE n n) (endsH n s) 2 0 = (closeM (beginM (endsH n s) 2) ((0 : Nat) : Int), true) := by
  unfold markM
  have e : ¬ (mE n n).ep = 2 := by show ¬ (1 : Int) = 2; decide
  simp only [if_neg e]
  have l : (beginM (endsH n s) 2).op.length = n := by unfold beginM endsH; simp
  rw [l, if_pos (by simp [inB]; omega)]
  simp [e]
theorem anew_again {n : Nat} (s k : Nat) (h : 0 < n) : markM (closeM (beginM (endsH n s) 2) k) (endsH n s) 2 ((n : Int) - 1) = (closeM (closeM (beginM (endsH n s) 2) k) ((n : Int) - 1), false) := by
  unfold markM
  have e : (closeM (beginM (endsH n s) 2) (k : Int)).ep = 2 := rfl
  simp only [e, if_true]
  have l : (closeM (beginM (endsH n s) 2) (k : Int)).op.length = n := by rw [anew_op]; simp
  rw [l, if_pos (by simp [inB]; omega)]
  rfl
end Go.Proofs.Ytlhclnhdcenkhaa
