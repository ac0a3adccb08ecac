/- Texts put together. -/
import Derived.OrdersHeld
import Derived.KernelRfl
import Derived.Tactics
import Derived.Deep.RegionHeld3
import Derived.OneCell
import Derived.Below
import Derived.Lib.Hide
import Derived.Test.YtdbdlaanhmaabaaRows
import Derived.WalkKit
import Derived.WalkSpells
import Derived.WalkLawsBesides
import Derived.PlainAid
import Derived.Deep.QuietTactic
import Derived.BigQuiet
import Derived.Sort.Grow
import Derived.Deep.Draws
import Derived.Deep.DrawnRows
import Derived.Handy
import Derived.Laws.CopyOwn
import Derived.Laws.MakeOwn
import Derived.Deep.RegionLaw
import Derived.Laws.AppendOwn
import Derived.Laws.AppendOwnNone
namespace Go.Proofs.Ytdbdlaanhmaabaa
theorem tk (i : Nat) (v : Value) {P : Program} {ops : Array Oper} {Q : Exit → Act → World → Prop} {md : Region.Mode} {S : World → Prop} {oi : Oper} {fuel : Nat} {listed : Array Bool} {a : Act} {w : World} (hi : ops[i]? = some oi)
  (hb : (Region.noSelect ops && Region.free md ops listed i && (Region.ready md ops listed).contains i) = true) (hQ : ∀ c a w, Q (.panic c) (a.put oi.dst v) w → Q (.panic c) a w) (hw : Region.wanted oi (yielded ops a.tmps) = true)
  (hy : ∀ w, S w → (execOp a.eval oi).run P w = .ok (.value v) w) (hS : S w) (h : wpAnyH P md ops Q S fuel (listed.setIfInBounds i true) (a.put oi.dst v) w) : wpAnyH P md ops Q S (fuel + 1) listed a w := by
 simp only [Bool.and_eq_true] at hb
 exact wpAnyH_take hi hb.1.1 hb.1.2 hb.2 hQ (.inl ⟨hw, hy⟩) hS h
theorem tk0 (i : Nat) {P : Program} {ops : Array Oper} {Q : Exit → Act → World → Prop} {md : Region.Mode} {S : World → Prop} {oi : Oper} {fuel : Nat} {listed : Array Bool} {a : Act} {w : World} (hi : ops[i]? = some oi)
  (hb : (Region.noSelect ops && Region.free md ops listed i && (Region.ready md ops listed).contains i) = true) (hQ : ∀ c a w, Q (.panic c) (a.put oi.dst undef) w → Q (.panic c) a w) (hw : Region.wanted oi (yielded ops a.tmps) = false)
  (hS : S w) (h : wpAnyH P md ops Q S fuel (listed.setIfInBounds i true) (a.put oi.dst undef) w) : wpAnyH P md ops Q S (fuel + 1) listed a w := by
 simp only [Bool.and_eq_true] at hb
 exact wpAnyH_take hi hb.1.1 hb.1.2 hb.2 hQ (.inr ⟨hw, rfl⟩) hS h
end Go.Proofs.Ytdbdlaanhmaabaa

namespace Go.Proofs.Ytdbdlaanhmaabaa
theorem tq (i : Nat) {v : Value} {P : Program} {ops : Array Oper} {Q : Exit → Act → World → Prop} {md : Region.Mode} {S : World → Prop} {oi : Oper} {fuel : Nat} {listed : Array Bool} {a a' : Act} {w : World}
  (h : wpAnyH P md ops Q S fuel (listed.setIfInBounds i true) a' w) (hi : ops[i]? = some oi := by rfl)
  (hb : (Region.noSelect ops && Region.free md ops listed i && (Region.ready md ops listed).contains i) = true := by kernel_rfl)
  (hw : Region.wanted oi (yielded ops a.tmps) = true := by rfl)
  (hy : ∀ w, S w → (execOp a.eval oi).run P w = .ok (.value v) w := by intro w hSw; (try dsimp only at hSw); go_simp; try (with_reducible rfl))
  (hQ : ∀ c a w, Q (.panic c) (a.put oi.dst v) w → Q (.panic c) a w := by exact fun _ _ _ h => h)
  (ha : a.put oi.dst v = a' := by try simp only [Act.put, List.getElem_toArray, List.getElem_cons_zero, List.getElem_cons_succ, List.setIfInBounds_toArray, List.set_cons_zero, List.set_cons_succ]; exact rfl)
  (hS : S w := by assumption) : wpAnyH P md ops Q S (fuel + 1) listed a w := by
 subst ha
 exact tk i v hi hb hQ hw hy hS h
theorem tq0 (i : Nat) {P : Program} {ops : Array Oper} {Q : Exit → Act → World → Prop} {md : Region.Mode} {S : World → Prop} {oi : Oper} {fuel : Nat} {listed : Array Bool} {a a' : Act} {w : World}
  (h : wpAnyH P md ops Q S fuel (listed.setIfInBounds i true) a' w) (hi : ops[i]? = some oi := by rfl)
  (hb : (Region.noSelect ops && Region.free md ops listed i && (Region.ready md ops listed).contains i) = true := by kernel_rfl)
  (hw : Region.wanted oi (yielded ops a.tmps) = false := by rfl)
  (hQ : ∀ c a w, Q (.panic c) (a.put oi.dst undef) w → Q (.panic c) a w := by exact fun _ _ _ h => h)
  (ha : a.put oi.dst undef = a' := by try simp only [Act.put, List.getElem_toArray, List.getElem_cons_zero, List.getElem_cons_succ, List.setIfInBounds_toArray, List.set_cons_zero, List.set_cons_succ]; exact rfl)
  (hS : S w := by assumption) : wpAnyH P md ops Q S (fuel + 1) listed a w := by
 subst ha
 exact tk0 i hi hb hQ hw hS h
theorem rd (i : Nat) {P : Program} {ops : Array Oper} {Q : Exit → Act → World → Prop} {md : Region.Mode} {S : World → Prop} {o : Oper} {fuel : Nat} {listed : Array Bool} {a : Act} {w : World}
  (h : ∀ K' : Act → World → Prop, Shut (∀ a w, S w → (S w → wpAnyH P md ops Q S fuel (listed.setIfInBounds i true) a w) → K' a w) → if Region.wanted o (yielded ops a.tmps) = true then Oper.wp P o a w K' Q else K' (a.put o.dst undef) w)
  (hr : Region.ready md ops listed = [i] := by kernel_rfl) (ho : ops[i]? = some o := by rfl) : wpAnyH P md ops Q S (fuel + 1) listed a w := wpAnyH_ready hr (by simp) (AllReadyH.cons ho h AllReadyH.nil)
end Go.Proofs.Ytdbdlaanhmaabaa

namespace Go.Proofs.Ytdbdlaanhmaabaa
open Go.RowKit
def dstOf (ops : Array Oper) (g : Nat) : Option Tmp := (ops[g]?).bind (·.dst)
/-- The frame while some have come up. -/
structure MidG (ops : Array Oper) (vs : Nat → Value) (D : List Nat) (a0 a : Act) : Prop where
 at' : ∀ g ∈ D, ∀ t, dstOf ops g = some t → a.tmps[t]? = some (vs g)
 other : ∀ t, (∀ g ∈ D, dstOf ops g ≠ some t) → a.tmps[t]? = a0.tmps[t]?
 size : a.tmps.size = a0.tmps.size
 defers : a.defers = a0.defers
theorem put_get (a : Act) (t : Nat) (v : Value) (s : Nat) (ht : t < a.tmps.size) : (a.put (some t) v).tmps[s]? = if s = t then some v else a.tmps[s]? := by
 show (a.tmps.setIfInBounds t v)[s]? = _
 rw [Array.getElem?_setIfInBounds]
 by_cases h : t = s
 ·subst h; simp [ht]
 ·rw [if_neg h, if_neg (fun e => h e.symm)]
theorem MidG.next {ops : Array Oper} {vs : Nat → Value} {D : List Nat} {a0 a : Act} (h : MidG ops vs D a0 a) {g t : Nat} (hg : dstOf ops g = some t) (ht : t < a0.tmps.size) (hD : ∀ k ∈ D, dstOf ops k ≠ some t) (hn : g ∉ D) (v : Value) :
  MidG ops (fun k => if k = g then v else vs k) (g :: D) a0 (a.put (some t) v) := by
 have hts : t < a.tmps.size := by rw [h.size]; exact ht
 refine ⟨fun k hk s hs => ?_, fun s hs => ?_, ?_, h.defers⟩
 ·rw [put_get _ _ _ _ hts]
  rcases List.mem_cons.1 hk with e | hk
  ·subst e; rw [hg] at hs; cases hs; simp
  ·have : s ≠ t := fun e => hD k hk (by rw [hs, e])
   rw [if_neg this, h.at' k hk s hs, if_neg (fun e : k = g => hn (by rw [← e]; exact hk))]
 ·rw [put_get _ _ _ _ hts, if_neg (fun e => hs g (List.mem_cons_self ..) (by rw [hg, e]))]
  exact h.other s (fun k hk => hs k (List.mem_cons_of_mem _ hk))
 ·show (a.tmps.setIfInBounds t v).size = _
  simp [h.size]
theorem MidG.eq {ops : Array Oper} {vs : Nat → Value} {D : List Nat} {a0 a b : Act} (h : MidG ops vs D a0 a) (h' : MidG ops vs D a0 b) : a = b := by
 obtain ⟨t1, d1⟩ := a
 obtain ⟨t2, d2⟩ := b
 have e1 : d1 = d2 := h.defers.trans h'.defers.symm
 have e2 : t1 = t2 := by
  apply Array.ext_getElem?
  intro s
  by_cases hs : ∃ g ∈ D, dstOf ops g = some s
  ·obtain ⟨g, hg, e⟩ := hs
   exact (h.at' g hg s e).trans (h'.at' g hg s e).symm
  ·have hs' : ∀ g ∈ D, dstOf ops g ≠ some s := fun g hg e => hs ⟨g, hg, e⟩
   exact (h.other s hs').trans (h'.other s hs').symm
 rw [e1, e2]
end Go.Proofs.Ytdbdlaanhmaabaa

namespace Go.Proofs.Ytdbdlaanhmaabaa
abbrev Lks := List (Int × Int)
def lk (L : Lks) (i : Nat) : Int × Int := L.getD i (0, 0)
theorem lk_mem {L : Lks} {i : Nat} (h : i < L.length) : lk L i ∈ L := by
 unfold lk; simp only [List.getD, List.getElem?_eq_getElem h, Option.getD_some]; exact List.getElem_mem h
theorem mem_lk {L : Lks} {p : Int × Int} (h : p ∈ L) : ∃ i, i < L.length ∧ lk L i = p := by
 obtain ⟨i, hi, rfl⟩ := List.getElem_of_mem h
 exact ⟨i, hi, by simp [lk, List.getD, hi]⟩
/-- The first place of a link; -1: there is none. -/
def findFrom : Lks → Int × Int → Nat → Int
 | [], _, _ => -1
 | q :: r, p, i => if q = p then i else findFrom r p (i + 1)
def findL (L : Lks) (p : Int × Int) : Int := findFrom L p 0
theorem findFrom_hit (p : Int × Int) : ∀ (L : Lks) (i k : Nat), k < L.length → lk L k = p → (∀ j, j < k → lk L j ≠ p) → findFrom L p i = ((i + k : Nat) : Int)
 | [], _, _, h, _, _ => by simp at h
 | q :: r, i, 0, _, h, _ => by
  have : q = p := by simpa [lk] using h
  simp [findFrom, this]
 | q :: r, i, k + 1, hk, h, hj => by
  have hq : q ≠ p := by simpa [lk] using hj 0 (by omega)
  have ih := findFrom_hit p r (i + 1) k (by simpa using hk) (by simpa [lk] using h) (fun j hjk => by simpa [lk] using hj (j + 1) (by omega))
  simp only [findFrom, if_neg hq, ih]
  congr 1
  omega
theorem findFrom_miss (p : Int × Int) : ∀ (L : Lks) (i : Nat), (∀ j, j < L.length → lk L j ≠ p) → findFrom L p i = -1
 | [], _, _ => rfl
 | q :: r, i, hj => by
  have hq : q ≠ p := by simpa [lk] using hj 0 (by simp)
  simp only [findFrom, if_neg hq]
  exact findFrom_miss p r (i + 1) (fun j h => by simpa [lk] using hj (j + 1) (by simpa using h))
theorem findL_hit {p : Int × Int} {L : Lks} {k : Nat} (hk : k < L.length) (h : lk L k = p) (hj : ∀ j, j < k → lk L j ≠ p) : findL L p = (k : Int) := by
 unfold findL; rw [findFrom_hit p L 0 k hk h hj]; simp
theorem findL_miss {p : Int × Int} {L : Lks} (hj : ∀ j, j < L.length → lk L j ≠ p) : findL L p = -1 := findFrom_miss p L 0 hj
theorem findL_cases (L : Lks) (p : Int × Int) : (∃ k, k < L.length ∧ lk L k = p ∧ (∀ j, j < k → lk L j ≠ p) ∧ findL L p = (k : Int)) ∨ (p ∉ L ∧ findL L p = -1) := by
 by_cases h : ∃ k, k < L.length ∧ lk L k = p
 ·have key : ∀ n : Nat, ∀ k, k ≤ n → k < L.length → lk L k = p → ∃ k, k < L.length ∧ lk L k = p ∧ (∀ j, j < k → lk L j ≠ p) := by
   intro n
   induction n with
   | zero => intro k hk h1 h2; exact ⟨k, h1, h2, fun j hj => by omega⟩
   | succ n ih =>
    intro k hk h1 h2
    by_cases hm : ∃ j, j < k ∧ lk L j = p
    ·obtain ⟨j, hj, he⟩ := hm
     exact ih j (by omega) (by omega) he
    ·exact ⟨k, h1, h2, fun j hj he => hm ⟨j, hj, he⟩⟩
  obtain ⟨k, hk, he⟩ := h
  obtain ⟨k', a, b, c⟩ := key k k (Nat.le_refl _) hk he
  exact .inl ⟨k', a, b, c, findL_hit a b c⟩
 ·refine .inr ⟨fun hm => h ?_, findL_miss fun j hj he => h ⟨j, hj, he⟩⟩
  obtain ⟨i, hi, he⟩ := mem_lk hm
  exact ⟨i, hi, he⟩
theorem findL_neg {L : Lks} {p : Int × Int} : findL L p < 0 ↔ p ∉ L := by
 rcases findL_cases L p with ⟨k, a, b, c, d⟩ | ⟨a, b⟩
 ·rw [d]
  constructor
  ·intro h; omega
  ·intro h; exact absurd (b ▸ lk_mem a) h
 ·rw [b]; simp [a]
/-- The places, below k, that are wanted. -/
def selL (p : Nat → Bool) (k : Nat) : List Int := ((List.range k).filter p).map Int.ofNat
theorem selL_succ (p : Nat → Bool) (k : Nat) : selL p (k + 1) = if p k then selL p k ++ [(k : Int)] else selL p k := by
 unfold selL
 rw [List.range_succ, List.filter_append, List.map_append]
 by_cases h : p k <;> simp [h]
theorem selL_length (p : Nat → Bool) (k : Nat) : (selL p k).length ≤ k := by
 unfold selL
 rw [List.length_map]
 exact Nat.le_trans (List.length_filter_le _ _) (by simp)
theorem mem_selL {p : Nat → Bool} {k : Nat} {x : Int} : x ∈ selL p k ↔ ∃ i, i < k ∧ p i = true ∧ x = (i : Int) := by
 unfold selL
 simp only [List.mem_map, List.mem_filter, List.mem_range]
 constructor
 ·rintro ⟨i, ⟨h1, h2⟩, rfl⟩; exact ⟨i, h1, h2, rfl⟩
 ·rintro ⟨i, h1, h2, rfl⟩; exact ⟨i, ⟨h1, h2⟩, rfl⟩
/-- A way of so many links. -/
def Way (L : Lks) : Nat → Int → Int → Prop
 | 0, a, b => a = b
 | k + 1, a, b => ∃ c, Way L k a c ∧ (c, b) ∈ L
/-- How far a node is, k links, and no fewer. -/
def Far (L : Lks) (k : Nat) (a b : Int) : Prop := Way L k a b ∧ ∀ j, j < k → ¬ Way L j a b
theorem Far.eq {L : Lks} {j k : Nat} {a b : Int} (h : Far L j a b) (h' : Far L k a b) : j = k := by
 rcases Nat.lt_trichotomy j k with g | g | g
 ·exact absurd h.1 (h'.2 j g)
 ·exact g
 ·exact absurd h'.1 (h.2 k g)
theorem far_of_way {L : Lks} {a b : Int} : ∀ {k : Nat}, Way L k a b → ∃ j, j ≤ k ∧ Far L j a b := by
 intro k
 induction k using Nat.strongRecOn with
 | ind k ih =>
  intro h
  by_cases hm : ∃ j, j < k ∧ Way L j a b
  ·obtain ⟨j, hj, hw⟩ := hm
   obtain ⟨i, hi, hf⟩ := ih j hj hw
   exact ⟨i, by omega, hf⟩
  ·exact ⟨k, Nat.le_refl _, h, fun j hj hw => hm ⟨j, hj, hw⟩⟩
def nd (d : List Int) (y : Int) : Int := d.getD y.toNat (-1)
/-- What Dist tells, of nodes 0 to n - 1. -/
def IsDist (n : Nat) (L : Lks) (a : Int) (d : List Int) : Prop :=
 d.length = n ∧ ∀ y : Nat, y < n → (∃ k : Nat, d.getD y (-1) = (k : Int) ∧ Far L k a y) ∨ (d.getD y (-1) = -1 ∧ ∀ k, ¬ Way L k a y)
theorem IsDist.eq {n : Nat} {L : Lks} {a : Int} {d e : List Int} (h : IsDist n L a d) (h' : IsDist n L a e) : d = e := by
 apply List.ext_getElem (by rw [h.1, h'.1])
 intro i h1 h2
 have hi : i < n := by rw [← h.1]; exact h1
 have g1 : d.getD i (-1) = d[i] := by simp [List.getD, h1]
 have g2 : e.getD i (-1) = e[i] := by simp [List.getD, h2]
 rw [← g1, ← g2]
 rcases h.2 i hi with ⟨k, a1, a2⟩ | ⟨a1, a2⟩
 ·rcases h'.2 i hi with ⟨k', b1, b2⟩ | ⟨b1, b2⟩
  ·rw [a1, b1, a2.eq b2]
  ·exact absurd a2.1 (b2 k)
 ·rcases h'.2 i hi with ⟨k', b1, b2⟩ | ⟨b1, b2⟩
  ·exact absurd b2.1 (a2 k')
  ·rw [a1, b1]
/-- Each link is between nodes. -/
def InR (n : Nat) (L : Lks) : Prop := ∀ p ∈ L, 0 ≤ p.1 ∧ p.1 < n ∧ 0 ≤ p.2 ∧ p.2 < n
end Go.Proofs.Ytdbdlaanhmaabaa
namespace Go.Proofs.Ytdbdlaanhmaabaa
open Go.RowKit Go.PlainAid
theorem owns_slice {w : World} {base : Nat} {e : TypeId} {size : Nat} {v : Value} {n : Nat} {xs : List Value} (h : w.ownsRow base e size v n xs) : ∃ ao cap, v = .slice ao n cap := by
 rcases h.2 with ⟨hv, h0⟩ | ⟨g, cap, cur, hv, _⟩
 ·exact ⟨none, 0, by rw [hv, h0]⟩
 ·exact ⟨_, _, hv⟩
theorem below_step {B : Nat} {w w1 w2 : World} (hB : B ≤ w1.heap.size) (h1 : Below B w w1) (h2 : Below w1.heap.size w1 w2) : Below B w w2 := h1.trans (h2.mono hB)
theorem lt_of_block {w : World} {b : Nat} {o : Obj} (h : w.heap[b]? = some o) : b < w.heap.size := (Array.getElem?_eq_some_iff.1 h).1
theorem below_drewN {B : Nat} {a w : World} (h : Below B a w) (n : Nat) : Below B a (w.drewN n) := h.trans ⟨rfl, rfl, rfl, Nat.le_refl _, fun _ _ => rfl⟩
/-- A slice of links in memory. -/
def LinksAt (w : World) (v : Value) (L : Lks) : Prop :=
 (∃ a cap, v = .slice a 0 cap ∧ L = []) ∨
 ∃ b off len cap, v = .slice (some ⟨b, off, none⟩) len cap ∧ L.length = len ∧ 0 < len ∧ b < w.heap.size ∧ len ≤ cap ∧
  ∀ i, i < len → w.cell? ⟨b, off + i * 2, none⟩ = some (.int .i64 (lk L i).1) ∧ w.cell? ⟨b, off + i * 2 + 1, none⟩ = some (.int .i64 (lk L i).2)
theorem LinksAt.below {w w' : World} {v : Value} {L : Lks} (h : LinksAt w v L) (hb : Below w.heap.size w w') : LinksAt w' v L := by
 rcases h with h | ⟨b, off, len, cap, h1, h2, h3, h4, h6, h5⟩
 ·exact .inl h
 ·exact .inr ⟨b, off, len, cap, h1, h2, h3, by have := hb.size; omega, h6, fun i hi => ⟨(hb.cell (by exact h4)).trans (h5 i hi).1, (hb.cell (by exact h4)).trans (h5 i hi).2⟩⟩
theorem sizeInt (w : World) : (sizeOf 3).run Try.prog w = .ok 1 w := by kernel_rfl
theorem run_eqPair (w : World) (a b c d : Int) : (Op.equalIn 10000 52 (.agg #[.int .i64 a, .int .i64 b]) (.agg #[.int .i64 c, .int .i64 d])).run Try.prog w = .ok (a == c && b == d) w := by
 rw [Op.equalIn]
 simp only [Sem.run_bind, run_underlying Try.underlying52, Result.andThen_ok, sizeInt, Std.Legacy.Range.forIn_eq_forIn_range', Std.Legacy.Range.size, Nat.sub_zero, Nat.add_sub_cancel, Nat.div_one]
 have e1 : List.range' 0 2 1 = [0, 1] := rfl
 rw [e1]
 have p0 : ∀ x y : Int, (part 3 #[.int .i64 x, .int .i64 y] (0 * 1)).run Try.prog w = .ok (.int .i64 x) w := fun x y => by simp [part, isAgg, run_underlying Try.underlying3]
 have p1 : ∀ x y : Int, (part 3 #[.int .i64 x, .int .i64 y] (1 * 1)).run Try.prog w = .ok (.int .i64 y) w := fun x y => by simp [part, isAgg, run_underlying Try.underlying3]
 have pe : ∀ x y : Int, (Op.equalIn 9999 3 (.int .i64 x) (.int .i64 y)).run Try.prog w = .ok (x == y) w := fun x y => run_equalIn_int w 9998 _ .i64 .i64 x y Try.underlying3
 simp only [List.forIn_cons, List.forIn_nil, Sem.run_bind, p0, pe, Result.andThen_ok]
 cases h1 : (a == c) <;> simp only [Bool.not_true, Bool.not_false, Bool.false_eq_true, if_false, if_true, Sem.run_pure, Result.andThen_ok, p1, pe, Sem.run_bind, Bool.true_and, Bool.false_and]
 cases h2 : (b == d) <;> simp only [Bool.not_true, Bool.not_false, Bool.false_eq_true, if_false, if_true, Sem.run_pure, Result.andThen_ok]
attribute [go_sem] run_eqPair
end Go.Proofs.Ytdbdlaanhmaabaa
namespace Go.Proofs.Ytdbdlaanhmaabaa
open Go.RowKit Go.PlainAid
def gv (N : Int) (v : Value) : Value := .agg #[.int .i64 N, v]
def pv (p : Int × Int) : Value := .agg #[.int .i64 p.1, .int .i64 p.2]
theorem has_any (N n : Int) (v : Value) (r : Bool) (w : World) (hr : decide (0 ≤ n ∧ n < N) = r) :
  Calls Try.prog 85 #[gv N v, .int .i64 n] w fun e w' => e = .returned (.bool r) ∧ Below w.heap.size w w' := by
 have Hb := Lib.hid ((Below.refl w.heap.size w).alloc (Nat.le_refl _) (.cells #[.int .i64 N, v] 24))
 unfold gv
 by_cases h0 : 0 ≤ n
 ·by_cases h1 : n < N
  ·have hr' : r = true := by rw [← hr]; simp [h0, h1]
   have Hr := Lib.hid hr'
   clear hr hr'
   go_enter Try.func85, Try.ntmps85
   go_wp2_with fail
   go_ret
   exact ⟨by rw [Hr.out]; rfl, Hb.out⟩
  ·have hr' : r = false := by rw [← hr]; simp [h1]
   have Hr := Lib.hid hr'
   clear hr hr'
   go_enter Try.func85, Try.ntmps85
   go_wp2_with fail
   go_ret
   exact ⟨by rw [Hr.out]; rfl, Hb.out⟩
 ·have hr' : r = false := by rw [← hr]; simp [h0]
  have Hr := Lib.hid hr'
  clear hr hr'
  go_enter Try.func85, Try.ntmps85
  go_wp2_with fail
  go_ret
  exact ⟨by rw [Hr.out]; rfl, Hb.out⟩
theorem turned_any (p : Int × Int) (w : World) :
  Calls Try.prog 86 #[pv p] w fun e w' => e = .returned (pv (p.2, p.1)) ∧ Below w.heap.size w w' := by
 obtain ⟨a, b⟩ := p
 unfold pv
 simp only
 go_enter Try.func86, Try.ntmps86
 go_wp2_with fail
 refine bodyPost_ret (v := .agg #[.int .i64 b, .int .i64 a]) (by simp [results, Try.results86, go_sem]) rfl ⟨rfl, ?_⟩
 go_grown
set_option maxHeartbeats 8000000 in
theorem index_some (b off len cap : Nat) (L : Lks) (p : Int × Int) (w : World) (hl : L.length = len) (hb : b < w.heap.size)
  (hc : ∀ i, i < len → w.cell? ⟨b, off + i * 2, none⟩ = some (.int .i64 (lk L i).1) ∧ w.cell? ⟨b, off + i * 2 + 1, none⟩ = some (.int .i64 (lk L i).2)) (hlb : len ≤ 1000000) :
  Calls Try.prog 90 #[.slice (some ⟨b, off, none⟩) len cap, pv p] w fun e w' => e = .returned (.int .i64 (findL L p)) ∧ Below w.heap.size w w' := by
 obtain ⟨x, y⟩ := p
 unfold pv
 simp only
 have hbel := (Below.refl w.heap.size w).alloc (Nat.le_refl _) (.cells #[.int .i64 x, .int .i64 y] 52)
 have hc' : ∀ i, i < len → (w.alloc (.cells #[.int .i64 x, .int .i64 y] 52)).cell? ⟨b, off + i * 2, none⟩ = some (.int .i64 (lk L i).1) ∧ (w.alloc (.cells #[.int .i64 x, .int .i64 y] 52)).cell? ⟨b, off + i * 2 + 1, none⟩ = some (.int .i64 (lk L i).2) :=
  fun i hi => ⟨(hbel.cell (by exact hb)).trans (hc i hi).1, (hbel.cell (by exact hb)).trans (hc i hi).2⟩
 have hx : (w.alloc (.cells #[.int .i64 x, .int .i64 y] 52)).cell? ⟨w.heap.size, 0, none⟩ = some (.int .i64 x) := World.cell?_alloc_at _ _ _ _ rfl
 have hy : (w.alloc (.cells #[.int .i64 x, .int .i64 y] 52)).cell? ⟨w.heap.size, 1, none⟩ = some (.int .i64 y) := World.cell?_alloc_at _ _ _ _ rfl
 have Hc := Lib.hid hc'
 have Hl := Lib.hid hl
 have Hb := Lib.hid hbel
 clear hc hc' hl hbel
 go_enter Try.func90, Try.ntmps90
 go_wp2_with fail
 generalize w.alloc (.cells #[.int .i64 x, .int .i64 y] 52) = wb at *
 go_loopw [8] (fun i wr => ∃ k : Nat, i = .int .i64 k ∧ k ≤ len ∧ (∀ j, j < k → lk L j ≠ (x, y)) ∧ ∃ n, wr = wb.drewN n) (fun i _ => len - (intOf i).toNat)
 case atStart => exact ⟨0, rfl, by omega, fun j hj => by omega, 0, rfl⟩
 case round =>
  obtain ⟨k, rfl, hk, hno, n, rfl⟩ := hrel
  have Hs := Lib.hid hno
  clear hno
  by_cases hlt : k < len
  ·have hlt' : (k : Int) < len := by omega
   obtain ⟨c1, c2⟩ := Hc.out k hlt
   obtain ⟨e1, he1⟩ : ∃ e1, e1 = (lk L k).1 := ⟨_, rfl⟩
   obtain ⟨e2, he2⟩ : ∃ e2, e2 = (lk L k).2 := ⟨_, rfl⟩
   rw [← he1] at c1
   rw [← he2] at c2
   have He1 := Lib.hid he1
   have He2 := Lib.hid he2
   clear he1 he2
   by_cases hq : (x == e1 && y == e2) = true
   ·have Hq := Lib.hid hq
    go_wp2_with fail
    go_quiet (fail)
    go_wp2_with fail
    go_ret
    refine ⟨?_, below_drewN (below_drewN Hb.out _) _⟩
    have hh := Hq.out
    simp only [Bool.and_eq_true, beq_iff_eq] at hh
    rw [findL_hit (L := L) (p := (x, y)) (k := k) (by rw [Hl.out]; exact hlt) (by rw [hh.1, hh.2, He1.out, He2.out]) Hs.out]
    rfl
   ·have Hq := Lib.hid hq
    have hq' : (x == e1 && y == e2) = false := by simpa using hq
    clear hq
    go_wp2_with fail
    go_quiet (fail)
    go_wp2_with fail
    go_roundw
    case rel =>
     refine ⟨k + 1, by go_num, by omega, fun j hj => ?_, _, rfl⟩
     by_cases hjk : j < k
     ·exact Hs.out j hjk
     ·obtain rfl : j = k := by omega
      intro h
      apply Hq.out
      rw [He1.out, He2.out, h]
      simp
    case measure => simp [intOf]; omega
  ·have hlt' : ¬ (k : Int) < len := by omega
   go_wp2_with fail
   go_ret
   refine ⟨?_, below_drewN Hb.out _⟩
   rw [findL_miss (L := L) (p := (x, y)) (fun j hj => Hs.out j (by rw [Hl.out] at hj; omega))]
   rfl
theorem index_any (v : Value) (L : Lks) (p : Int × Int) (w : World) (h : LinksAt w v L) (hn : L.length ≤ 1000000) :
  Calls Try.prog 90 #[v, pv p] w fun e w' => e = .returned (.int .i64 (findL L p)) ∧ Below w.heap.size w w' := by
 rcases h with ⟨a, cap, rfl, rfl⟩ | ⟨b, off, len, cap, rfl, hl, hp, hb, hlc, hc⟩
 ·obtain ⟨x, y⟩ := p
  unfold pv
  simp only
  go_enter Try.func90, Try.ntmps90
  go_wp2_with fail
  refine wp_loop_rounds 1 ?_
  rw [rounds_succ]
  go_wp2_with fail
  go_ret
  exact ⟨rfl, by go_grown⟩
 ·exact index_some b off len cap L p w hl hb hc (by omega)
end Go.Proofs.Ytdbdlaanhmaabaa
namespace Go.Proofs.Ytdbdlaanhmaabaa
open Go.RowKit Go.PlainAid
set_option maxHeartbeats 8000000 in
theorem rfind_some (b off len cap : Nat) (L : Lks) (N x y : Int) (w : World) (hl : L.length = len) (hb : b < w.heap.size)
  (hc : ∀ i, i < len → w.cell? ⟨b, off + i * 2, none⟩ = some (.int .i64 (lk L i).1) ∧ w.cell? ⟨b, off + i * 2 + 1, none⟩ = some (.int .i64 (lk L i).2)) (hlb : len ≤ 1000000) :
  Calls Try.prog 61 #[gv N (.slice (some ⟨b, off, none⟩) len cap), .int .i64 x, .int .i64 y] w fun e w' => e = .returned (.int .i64 (findL L (x, y))) ∧ Below w.heap.size w w' := by
 unfold gv
 obtain ⟨wb, hwb⟩ : ∃ wb, wb = w.alloc (.cells #[.int .i64 N, .slice (some ⟨b, off, none⟩) len cap] 35) := ⟨_, rfl⟩
 have hbel : Below w.heap.size w wb := by rw [hwb]; exact (Below.refl w.heap.size w).alloc (Nat.le_refl _) _
 have hc' : ∀ i, i < len → wb.cell? ⟨b, off + i * 2, none⟩ = some (.int .i64 (lk L i).1) ∧ wb.cell? ⟨b, off + i * 2 + 1, none⟩ = some (.int .i64 (lk L i).2) :=
  fun i hi => ⟨(hbel.cell (by exact hb)).trans (hc i hi).1, (hbel.cell (by exact hb)).trans (hc i hi).2⟩
 have hx : wb.cell? ⟨w.heap.size, 1, none⟩ = some (.slice (some ⟨b, off, none⟩) len cap) := by rw [hwb]; exact World.cell?_alloc_at _ _ _ _ rfl
 have Hc := Lib.hid hc'
 have Hl := Lib.hid hl
 have Hb := Lib.hid hbel
 clear hc hc' hl hbel
 go_enter Try.func61, Try.ntmps61
 go_wp2_with fail
 rw [← hwb]
 clear hwb
 go_loopw [7] (fun i wr => ∃ k : Nat, i = .int .i64 k ∧ k ≤ len ∧ (∀ j, j < k → lk L j ≠ (x, y)) ∧ wr = wb) (fun i _ => len - (intOf i).toNat)
 case atStart => exact ⟨0, rfl, by omega, fun j hj => by omega, rfl⟩
 case round =>
  obtain ⟨k, rfl, hk, hno, rfl⟩ := hrel
  have Hs := Lib.hid hno
  clear hno
  by_cases hlt : k < len
  ·have hlt' : (k : Int) < len := by omega
   obtain ⟨c1, c2⟩ := Hc.out k hlt
   obtain ⟨e1, he1⟩ : ∃ e1, e1 = (lk L k).1 := ⟨_, rfl⟩
   obtain ⟨e2, he2⟩ : ∃ e2, e2 = (lk L k).2 := ⟨_, rfl⟩
   rw [← he1] at c1
   rw [← he2] at c2
   have He1 := Lib.hid he1
   have He2 := Lib.hid he2
   clear he1 he2
   by_cases hq : (e1 == x) = true
   ·by_cases hr : (e2 == y) = true
    ·have Hq := Lib.hid hq
     have Hr := Lib.hid hr
     go_wp2_with fail
     go_ret
     refine ⟨?_, Hb.out⟩
     have hh := Hq.out
     have hi := Hr.out
     simp only [beq_iff_eq] at hh hi
     rw [findL_hit (L := L) (p := (x, y)) (k := k) (by rw [Hl.out]; exact hlt) (by rw [← hh, ← hi, He1.out, He2.out]) Hs.out]
     rfl
    ·have Hr := Lib.hid hr
     have hr' : (e2 == y) = false := by simpa using hr
     clear hr
     go_wp2_with fail
     go_roundw
     case rel =>
      refine ⟨k + 1, by go_num, by omega, fun j hj => ?_, trivial⟩
      by_cases hjk : j < k
      ·exact Hs.out j hjk
      ·obtain rfl : j = k := by omega
       intro h
       apply Hr.out
       rw [He2.out, h]
       simp
     case measure => simp [intOf]; omega
   ·have Hq := Lib.hid hq
    have hq' : (e1 == x) = false := by simpa using hq
    clear hq
    go_wp2_with fail
    go_roundw
    case rel =>
     refine ⟨k + 1, by go_num, by omega, fun j hj => ?_, trivial⟩
     by_cases hjk : j < k
     ·exact Hs.out j hjk
     ·obtain rfl : j = k := by omega
      intro h
      apply Hq.out
      rw [He1.out, h]
      simp
    case measure => simp [intOf]; omega
  ·have hlt' : ¬ (k : Int) < len := by omega
   go_wp2_with fail
   go_ret
   refine ⟨?_, Hb.out⟩
   rw [findL_miss (L := L) (p := (x, y)) (fun j hj => Hs.out j (by rw [Hl.out] at hj; omega))]
   rfl
theorem rfind_any (N x y : Int) (v : Value) (L : Lks) (w : World) (h : LinksAt w v L) (hn : L.length ≤ 1000000) :
  Calls Try.prog 61 #[gv N v, .int .i64 x, .int .i64 y] w fun e w' => e = .returned (.int .i64 (findL L (x, y))) ∧ Below w.heap.size w w' := by
 rcases h with ⟨a, cap, rfl, rfl⟩ | ⟨b, off, len, cap, rfl, hl, hp, hb, hlc, hc⟩
 ·unfold gv
  go_enter Try.func61, Try.ntmps61
  go_wp2_with fail
  refine wp_loop_rounds 1 ?_
  rw [rounds_succ]
  go_wp2_with fail
  go_ret
  exact ⟨rfl, by go_grown⟩
 ·exact rfind_some b off len cap L N x y w hl hb hc (by omega)
theorem find_any (N x y : Int) (v : Value) (L : Lks) (w : World) (h : LinksAt w v L) (hn : L.length ≤ 1000000) :
  Calls Try.prog 68 #[gv N v, .int .i64 x, .int .i64 y] w fun e w' => e = .returned (.int .i64 (findL L (x, y))) ∧ Below w.heap.size w w' := by
 have Hb := Lib.hid ((Below.refl w.heap.size w).alloc (Nat.le_refl _) (.cells #[.int .i64 N, v] 24))
 have H := Lib.hid (h.below Hb.out)
 unfold gv
 clear h
 go_enter Try.func68, Try.ntmps68
 go_wp2_with fail
 refine (index_any v L (x, y) _ H.out hn).mono ?_
 rintro e w' ⟨rfl, hb⟩
 have Hb2 := Lib.hid hb
 clear hb
 go_wp2_with fail
 go_ret
 exact ⟨rfl, below_step (by simp) Hb.out Hb2.out⟩
end Go.Proofs.Ytdbdlaanhmaabaa
namespace Go.Proofs.Ytdbdlaanhmaabaa
open Go.RowKit Go.PlainAid
theorem LinksAt.at {w : World} {v : Value} {L : Lks} (h : LinksAt w v L) : ∃ a cap, v = .slice a L.length cap := by
 rcases h with ⟨a, cap, rfl, rfl⟩ | ⟨b, off, len, cap, rfl, hl, -⟩
 ·exact ⟨a, cap, rfl⟩
 ·exact ⟨_, cap, by rw [hl]⟩
/-- A boxed graph. -/
theorem boxed (N : Int) (v : Value) (t : TypeId) (L : Lks) (w : World) (h : LinksAt w v L) :
  ∃ wb, wb = w.alloc (.cells #[.int .i64 N, v] t) ∧ Below w.heap.size w wb ∧ LinksAt wb v L ∧ wb.cell? ⟨w.heap.size, 0, none⟩ = some (.int .i64 N) ∧ wb.cell? ⟨w.heap.size, 1, none⟩ = some v ∧ w.heap.size < wb.heap.size := by
 have hb := (Below.refl w.heap.size w).alloc (Nat.le_refl _) (.cells #[.int .i64 N, v] t)
 exact ⟨_, rfl, hb, h.below hb, World.cell?_alloc_at _ _ _ _ rfl, World.cell?_alloc_at _ _ _ _ rfl, by simp⟩
end Go.Proofs.Ytdbdlaanhmaabaa
namespace Go.Proofs.Ytdbdlaanhmaabaa
open Go.RowKit Go.PlainAid
/-- A slice of integers in memory. -/
def IntsAt (w : World) (v : Value) (xs : List Int) : Prop :=
 (∃ a cap, v = .slice a 0 cap ∧ xs = []) ∨
 ∃ b off len cap, v = .slice (some ⟨b, off, none⟩) len cap ∧ xs.length = len ∧ 0 < len ∧ b < w.heap.size ∧ len ≤ cap ∧ ∀ i, i < len → w.cell? ⟨b, off + i, none⟩ = some (.int .i64 (xs.getD i 0))
theorem IntsAt.below {w w' : World} {v : Value} {xs : List Int} (h : IntsAt w v xs) (hb : Below w.heap.size w w') : IntsAt w' v xs := by
 rcases h with h | ⟨b, off, len, cap, h1, h2, h3, h4, h6, h5⟩
 ·exact .inl h
 ·exact .inr ⟨b, off, len, cap, h1, h2, h3, by have := hb.size; omega, h6, fun i hi => (hb.cell (by exact h4)).trans (h5 i hi)⟩
theorem IntsAt.owns {w : World} {base : Nat} {e : TypeId} {v : Value} {xs : List Int} (h : w.ownsRow base e 1 v xs.length (xs.map (Value.int .i64))) : IntsAt w v xs := by
 by_cases hx : xs.length = 0
 ·obtain ⟨ao, cap, rfl⟩ := owns_slice h
  exact .inl ⟨ao, cap, by rw [hx], List.length_eq_zero_iff.1 hx⟩
 ·have hc := fun g => h.cells (g := g)
  rcases h.2 with ⟨_, h0⟩ | ⟨g, cap, cur, rfl, _, hg, hle, _⟩
  ·omega
  ·refine .inr ⟨g, 0, xs.length, cap, rfl, rfl, by omega, lt_of_block hg, hle, fun i hi => ?_⟩
   have := hc g rfl i (.int .i64 (xs.getD i 0)) (by simp [List.getD, hi])
   have e : (⟨g, 0, none⟩ : Addr).add i = ⟨g, 0 + i, none⟩ := by unfold Addr.add; split <;> simp_all
   rw [e] at this; exact this
theorem cell_one_at (w : World) (t : TypeId) (g : Nat) (v : Value) (hg : g = w.heap.size) : ∀ j u, [v][j]? = some u → (w.alloc (.cells #[v] t)).cell? ((⟨g, 0, none⟩ : Addr).add j) = some u := by
 subst hg
 intro j u hu
 cases j with
 | zero =>
  simp at hu; subst hu
  exact World.cell?_alloc_at _ _ _ _ rfl
 | succ j => simp at hu
theorem size_alloc (w : World) (o : Obj) : (w.alloc o).heap.size = w.heap.size + 1 := by simp
theorem infoInt : (Try.prog.info? 3).map (fun i => (i.zero, i.size, i.bytes)) = some (some (.int .i64 0), 1, 8) := by kernel_rfl
/-- The places so far, in a row of the call's own. -/
def SelHead (p : Nat → Bool) (w : World) (k : Nat) (v : Value) (wr : World) : Prop :=
 wr.ownsRow w.heap.size 3 1 v (selL p k).length ((selL p k).map (Value.int .i64)) ∧ Below w.heap.size w wr
theorem SelHead.skip {p : Nat → Bool} {w wr w' : World} {k : Nat} {v : Value} (h : SelHead p w k v wr) (hp : p k = false) (hb : Below wr.heap.size wr w') (hw : w.heap.size ≤ wr.heap.size) : SelHead p w (k + 1) v w' := by
 unfold SelHead
 rw [selL_succ, hp]
 simp only [Bool.false_eq_true, if_false]
 refine ⟨?_, below_step hw h.2 hb⟩
 exact h.1.kept (row := none) ⟨hb.os, hb.tape, hb.output, hb.size, fun k hk _ => hb.block k hk⟩ (by cases hv : v.ownBlock <;> simp)
theorem SelHead.more {p : Nat → Bool} {w wr w' : World} {k : Nat} {v v' : Value} (h : SelHead p w k v wr) (hp : p k = true)
  (hown : w'.ownsRow w.heap.size 3 1 v' ((selL p k).length + 1) ((selL p k).map (Value.int .i64) ++ [.int .i64 (k : Int)])) (hb : Below w.heap.size wr w') : SelHead p w (k + 1) v' w' := by
 unfold SelHead
 rw [selL_succ, hp]
 simp only [if_true]
 refine ⟨?_, h.2.trans hb⟩
 rw [List.length_append, List.map_append]
 exact hown
theorem selL_le (p : Nat → Bool) (k : Nat) : (selL p k).length ≤ k := selL_length p k
end Go.Proofs.Ytdbdlaanhmaabaa
namespace Go.Proofs.Ytdbdlaanhmaabaa
open Go.RowKit Go.PlainAid
def sideOf (e : Nat) (p : Int × Int) : Int := if e = 0 then p.1 else p.2
def sel (e : Nat) (L : Lks) (n : Int) : List Int := selL (fun i => sideOf e (lk L i) == n) L.length
set_option maxHeartbeats 8000000 in
set_option maxRecDepth 100000 in
theorem touching_some0 (b off len cap : Nat) (L : Lks) (N n : Int) (w : World) (hl : L.length = len) (hb : b < w.heap.size)
  (hc : ∀ i, i < len → w.cell? ⟨b, off + i * 2, none⟩ = some (.int .i64 (lk L i).1) ∧ w.cell? ⟨b, off + i * 2 + 1, none⟩ = some (.int .i64 (lk L i).2)) (hlb : len ≤ 1000000) :
  Calls Try.prog 96 #[gv N (.slice (some ⟨b, off, none⟩) len cap), .int .i64 0, .int .i64 n] w fun z w' => ∃ u, z = .returned u ∧ IntsAt w' u (sel 0 L n) ∧ (∀ k, u.ownBlock = some k → w.heap.size ≤ k) ∧ Below w.heap.size w w' := by
 unfold gv
 obtain ⟨i0, hi0, hz0, hz1, hz2⟩ := info_parts infoInt
 obtain ⟨wb, hwb⟩ : ∃ wb, wb = w.alloc (.cells #[.int .i64 N, .slice (some ⟨b, off, none⟩) len cap] 24) := ⟨_, rfl⟩
 have hbel : Below w.heap.size w wb := by rw [hwb]; exact (Below.refl w.heap.size w).alloc (Nat.le_refl _) _
 have hx : wb.cell? ⟨w.heap.size, 1, none⟩ = some (.slice (some ⟨b, off, none⟩) len cap) := by rw [hwb]; exact World.cell?_alloc_at _ _ _ _ rfl
 have hst : SelHead (fun i => sideOf 0 (lk L i) == n) w 0 (.slice none 0 0) wb := ⟨World.ownsRow_nil _ _ _ _, hbel⟩
 have Hst := Lib.hid hst
 have Hc := Lib.hid hc
 have Hl := Lib.hid hl
 clear hc hl hst hbel
 go_enter Try.func96, Try.ntmps96
 go_wp2_with fail
 rw [← hwb]
 clear hwb
 go_loopw [7, 13] (fun v i wr => ∃ k : Nat, i = .int .i64 k ∧ k ≤ len ∧ SelHead (fun i => sideOf 0 (lk L i) == n) w k v wr) (fun _ i _ => len - (intOf i).toNat)
 case atStart => exact ⟨0, rfl, by omega, Hst.out⟩
 case round =>
  obtain ⟨k, rfl, hk, hF⟩ := hrel
  obtain ⟨ao, cv, rfl⟩ := owns_slice hF.1
  have HF := Lib.hid hF
  obtain ⟨hown, hbel⟩ := hF
  have hz := hbel.size
  have hs := selL_le (fun i => sideOf 0 (lk L i) == n) k
  by_cases hlt : k < len
  ·have hlt' : (k : Int) < len := by omega
   obtain ⟨c1, c2⟩ := Hc.out k hlt
   have c1' := (hbel.cell (by exact hb)).trans c1
   have c2' := (hbel.cell (by exact hb)).trans c2
   obtain ⟨x, hx⟩ : ∃ x, x = (lk L k).1 := ⟨_, rfl⟩
   obtain ⟨y, hy⟩ : ∃ y, y = (lk L k).2 := ⟨_, rfl⟩
   rw [← hx] at c1'
   rw [← hy] at c2'
   have HO := Lib.hid hown
   have hside : sideOf 0 (lk L k) = x := by first | (rw [hx]; rfl) | (rw [hy]; rfl)
   have Hside := Lib.hid hside
   obtain ⟨m, hm⟩ : ∃ m, m = (selL (fun i => sideOf 0 (lk L i) == n) k).length := ⟨_, rfl⟩
   rw [← hm] at hs
   have Hm := Lib.hid hm
   clear hown c1 c2 hx hy hside hm
   by_cases hq : (x == n) = true
   ·have hp : (sideOf 0 (lk L k) == n) = true := by rw [Hside.out]; exact hq
    have Hp := Lib.hid hp
    clear hp
    go_wp2_with (at_builtin; refine wpList_append_own _ rfl _ _ 28 rfl w.heap.size 3 i0 (.int .i64 0) 1 8 Try.underlying28 hi0 hz0 hz1 hz2 rfl (by decide) _ _ _ rfl ((HO.out.alloc _).alloc _) ⟨wr.heap.size + 1, 0, none⟩ 1 1 [.int .i64 (k : Int)] rfl rfl (cell_one_at _ _ _ _ (size_alloc _ _).symm) ?c2 ?c3 ?c4 ?c5 ?_)
    case c2 => intro u hu; simp at hu; subst hu; rfl
    case c3 => unfold maxLen; rw [← Hm.out]; omega
    case c4 => rw [← Hm.out]; omega
    case c5 => first | omega | (simp; omega)
    intro v1 w1 hown1 hg1 _
    have hB1 : Below w.heap.size wr w1 := (((Below.refl w.heap.size wr).alloc hz _).alloc (by simp; omega) _).grown hg1 (by simp; omega) (fun k hk => (HO.out.lt k hk).1)
    have hnext : SelHead (fun i => sideOf 0 (lk L i) == n) w (k + 1) v1 w1 := HF.out.more Hp.out hown1 hB1
    have Hnext := Lib.hid hnext
    clear hown1 hg1 hB1 hnext
    go_wp2_with fail
    go_roundw
    case rel => exact ⟨k + 1, by go_num, by omega, Hnext.out⟩
    case measure => simp [intOf]; omega
   ·have hq' : (x == n) = false := by simpa using hq
    have hp : (sideOf 0 (lk L k) == n) = false := by rw [Hside.out]; exact hq'
    have hB1 : Below wr.heap.size wr (wr.alloc (.cells #[.int .i64 x, .int .i64 y] 52)) := (Below.refl _ wr).alloc (Nat.le_refl _) _
    have Hnext := Lib.hid (HF.out.skip hp hB1 hz)
    clear hp hB1 hq
    go_wp2_with fail
    go_roundw
    case rel => exact ⟨k + 1, by go_num, by omega, Hnext.out⟩
    case measure => simp [intOf]; omega
  ·have hlt' : ¬ (k : Int) < len := by omega
   obtain rfl : len = k := by omega
   have hend := IntsAt.owns HF.out.1
   have Hend := Lib.hid hend
   have HB := Lib.hid hbel
   have Hlt := Lib.hid (fun k hk => (HF.out.1.lt k hk).1)
   clear hown hend hbel
   go_wp2_with fail
   go_ret
   exact ⟨_, rfl, by unfold sel; rw [Hl.out]; exact Hend.out, Hlt.out, HB.out⟩
theorem touching0 (N n : Int) (v : Value) (L : Lks) (w : World) (h : LinksAt w v L) (hn : L.length ≤ 1000000) :
  Calls Try.prog 96 #[gv N v, .int .i64 0, .int .i64 n] w fun z w' => ∃ u, z = .returned u ∧ IntsAt w' u (sel 0 L n) ∧ (∀ k, u.ownBlock = some k → w.heap.size ≤ k) ∧ Below w.heap.size w w' := by
 rcases h with ⟨a, cap, rfl, rfl⟩ | ⟨b, off, len, cap, rfl, hl, hp, hb, hlc, hc⟩
 ·unfold gv
  go_enter Try.func96, Try.ntmps96
  go_wp2_with fail
  refine wp_loop_rounds 1 ?_
  rw [rounds_succ]
  go_wp2_with fail
  go_ret
  exact ⟨_, rfl, .inl ⟨none, 0, rfl, rfl⟩, fun k hk => by simp [Value.ownBlock] at hk, by go_grown⟩
 ·exact touching_some0 b off len cap L N n w hl hb hc (by omega)
end Go.Proofs.Ytdbdlaanhmaabaa
namespace Go.Proofs.Ytdbdlaanhmaabaa
open Go.RowKit Go.PlainAid
theorem out_any (N n : Int) (v : Value) (L : Lks) (w : World) (h : LinksAt w v L) (hn : L.length ≤ 1000000) :
  Calls Try.prog 89 #[gv N v, .int .i64 n] w fun z w' => ∃ u, z = .returned u ∧ IntsAt w' u (sel 0 L n) ∧ (∀ k, u.ownBlock = some k → w.heap.size ≤ k) ∧ Below w.heap.size w w' := by
 have Hb := Lib.hid ((Below.refl w.heap.size w).alloc (Nat.le_refl _) (.cells #[.int .i64 N, v] 24))
 have H := Lib.hid (h.below Hb.out)
 unfold gv
 clear h
 go_enter Try.func89, Try.ntmps89
 go_wp2_with fail
 refine (touching0 N n v L _ H.out hn).mono ?_
 rintro e w' ⟨u, rfl, hi, hlt, hb⟩
 have Hb2 := Lib.hid hb
 have Hi := Lib.hid hi
 have Hlt := Lib.hid hlt
 clear hb hi hlt
 go_wp2_with fail
 go_ret
 exact ⟨_, rfl, Hi.out, fun k hk => by have := Hlt.out k hk; simp at this; omega, below_step (by simp) Hb.out Hb2.out⟩
end Go.Proofs.Ytdbdlaanhmaabaa
namespace Go.Proofs.Ytdbdlaanhmaabaa
open Go.RowKit Go.PlainAid
def flat (L : Lks) : List Value := L.flatMap fun p => [.int .i64 p.1, .int .i64 p.2]
theorem flat_length (L : Lks) : (flat L).length = L.length * 2 := by
 unfold flat
 induction L with
 | nil => rfl
 | cons p r ih => simp only [List.flatMap_cons, List.length_append, ih, List.length_cons, List.length_nil]; omega
theorem flat_append (L M : Lks) : flat (L ++ M) = flat L ++ flat M := by unfold flat; rw [List.flatMap_append]
theorem flat_get : ∀ (L : Lks) (i : Nat), i < L.length → (flat L)[i * 2]? = some (.int .i64 (lk L i).1) ∧ (flat L)[i * 2 + 1]? = some (.int .i64 (lk L i).2)
 | [], i, h => by simp at h
 | p :: r, 0, _ => by simp [flat, lk]
 | p :: r, i + 1, h => by
  have ih := flat_get r i (by simpa using h)
  have e1 : flat (p :: r) = .int .i64 p.1 :: .int .i64 p.2 :: flat r := rfl
  have e2 : lk (p :: r) (i + 1) = lk r i := by simp [lk]
  rw [e1, e2]
  refine ⟨?_, ?_⟩
  ·rw [show (i + 1) * 2 = i * 2 + 1 + 1 by omega, List.getElem?_cons_succ, List.getElem?_cons_succ]; exact ih.1
  ·rw [show (i + 1) * 2 + 1 = i * 2 + 1 + 1 + 1 by omega, List.getElem?_cons_succ, List.getElem?_cons_succ]; exact ih.2
theorem LinksAt.owns {w : World} {base : Nat} {e : TypeId} {v : Value} {L : Lks} (h : w.ownsRow base e 2 v L.length (flat L)) : LinksAt w v L := by
 by_cases hx : L.length = 0
 ·obtain ⟨ao, cap, rfl⟩ := owns_slice h
  exact .inl ⟨ao, cap, by rw [hx], List.length_eq_zero_iff.1 hx⟩
 ·have hc := fun g => h.cells (g := g)
  rcases h.2 with ⟨_, h0⟩ | ⟨g, cap, cur, rfl, _, hg, hle, _⟩
  ·omega
  ·refine .inr ⟨g, 0, L.length, cap, rfl, rfl, by omega, lt_of_block hg, hle, fun i hi => ?_⟩
   have e : ∀ j, (⟨g, 0, none⟩ : Addr).add j = ⟨g, 0 + j, none⟩ := fun j => by unfold Addr.add; split <;> simp_all
   have a1 := hc g rfl (i * 2) _ (flat_get L i hi).1
   have a2 := hc g rfl (i * 2 + 1) _ (flat_get L i hi).2
   rw [e] at a1 a2
   exact ⟨a1, by rw [Nat.add_assoc]; exact a2⟩
theorem infoPair : (Try.prog.info? 52).map (fun i => (i.zero, i.size, i.bytes)) = some (some (.agg #[.int .i64 0, .int .i64 0]), 2, 16) := by kernel_rfl
/-- The links from a, to nodes below b. -/
def rowL (a b : Nat) : Lks := ((List.range b).filter (fun x : Nat => x != a)).map fun x : Nat => ((a : Int), (x : Int))
/-- All links from nodes below a. -/
def fullL (N a : Nat) : Lks := (List.range a).flatMap fun x => rowL x N
theorem rowL_succ (a b : Nat) : rowL a (b + 1) = if b = a then rowL a b else rowL a b ++ [((a : Int), (b : Int))] := by
 unfold rowL
 rw [List.range_succ, List.filter_append, List.map_append]
 by_cases h : b = a <;> simp [h]
theorem fullL_succ (N a : Nat) : fullL N (a + 1) = fullL N a ++ rowL a N := by
 unfold fullL
 rw [List.range_succ, List.flatMap_append]; simp
theorem rowL_len (a b : Nat) : (rowL a b).length ≤ b := by
 unfold rowL
 rw [List.length_map]
 exact Nat.le_trans (List.length_filter_le _ _) (by simp)
theorem fullL_len (N : Nat) : ∀ a, (fullL N a).length ≤ a * N
 | 0 => by simp [fullL]
 | a + 1 => by
  rw [fullL_succ, List.length_append]
  have := fullL_len N a
  have := rowL_len a N
  rw [Nat.add_mul]; omega
/-- A block of two cells that may be written. -/
def Box (w : World) (g : Nat) (x y : Value) : Prop :=
 w.cell? ⟨g, 0, none⟩ = some x ∧ w.cell? ⟨g, 1, none⟩ = some y ∧ w.frozen? ⟨g, 0, none⟩ = false ∧ w.frozen? ⟨g, 1, none⟩ = false
theorem Box.kept {w w' : World} {g : Nat} {x y : Value} {row : Option Nat} (h : Box w g x y) (hg : w.grownBy w' row) (hne : some g ≠ row) : Box w' g x y := by
 have hb : g < w.heap.size := World.block_lt_of_cell? w _ h.1
 have hk := hg.block g hb hne
 exact ⟨(World.cell?_of_block (by exact hk)).trans h.1, (World.cell?_of_block (by exact hk)).trans h.2.1, (World.frozen?_of_block (by exact hk)).trans h.2.2.1, (World.frozen?_of_block (by exact hk)).trans h.2.2.2⟩
theorem Box.below {w w' : World} {g : Nat} {x y : Value} (h : Box w g x y) (hb : Below w.heap.size w w') : Box w' g x y :=
 h.kept (row := none) ⟨hb.os, hb.tape, hb.output, hb.size, fun k hk _ => hb.block k hk⟩ (by simp)
/-- The graph so far: its box, the row of its links, and the answer's box. -/
structure GHead (w : World) (N : Int) (wr : World) (v : Value) (X : Lks) : Prop where
 row : wr.ownsRow (w.heap.size + 2) 52 2 v X.length (flat X)
 bel : Below w.heap.size w wr
 size : w.heap.size + 2 ≤ wr.heap.size
 box : Box wr (w.heap.size + 1) (.int .i64 N) v
 ans : Box wr w.heap.size (.int .i64 0) (.slice none 0 0)
theorem cells_two (w : World) (t : TypeId) (x y : Value) : ∀ j u, [x, y][j]? = some u → (w.alloc (.cells #[x, y] t)).cell? ((⟨w.heap.size, 0, none⟩ : Addr).add j) = some u := by
 intro j u hu
 match j with
 | 0 => simp at hu; subst hu; exact World.cell?_alloc_at _ _ _ _ rfl
 | 1 => simp at hu; subst hu; exact World.cell?_alloc_at _ _ _ _ rfl
 | j + 2 => simp at hu
theorem Box.set {w : World} {g : Nat} {x y : Value} (h : Box w g x y) (u : Value) : Box (w.setCell ⟨g, 1, none⟩ u) g x u :=
 ⟨(World.cell?_setCell_other w _ _ _ (by simp)).trans h.1, World.cell?_setCell_same w _ _ h.2.1, by rw [World.frozen?_setCell]; exact h.2.2.1, by rw [World.frozen?_setCell]; exact h.2.2.2⟩
theorem Box.other {w : World} {g g' : Nat} {x y : Value} (h : Box w g x y) (u : Value) (o : Nat) (hne : g ≠ g') : Box (w.setCell ⟨g', o, none⟩ u) g x y :=
 ⟨(World.cell?_setCell_other w _ _ _ (by simp <;> omega)).trans h.1, (World.cell?_setCell_other w _ _ _ (by simp <;> omega)).trans h.2.1, by rw [World.frozen?_setCell]; exact h.2.2.1, by rw [World.frozen?_setCell]; exact h.2.2.2⟩
theorem Box.fill {w : World} {g : Nat} {x y : Value} (h : Box w g x y) (u u' : Value) : Box ((w.setCell ⟨g, 0, none⟩ u).setCell ⟨g, 1, none⟩ u') g u u' := by
 have h1 : Box (w.setCell ⟨g, 0, none⟩ u) g u y :=
  ⟨World.cell?_setCell_same w _ _ h.1, (World.cell?_setCell_other w _ _ _ (by simp)).trans h.2.1, by rw [World.frozen?_setCell]; exact h.2.2.1, by rw [World.frozen?_setCell]; exact h.2.2.2⟩
 exact h1.set u'
theorem GHead.more {w wr w1 : World} {N : Int} {v v1 : Value} {X : Lks} {o : Obj} {p : Int × Int} (h : GHead w N wr v X)
  (hown : w1.ownsRow (w.heap.size + 2) 52 2 v1 (X.length + 1) (flat X ++ [.int .i64 p.1, .int .i64 p.2])) (hg : (wr.alloc o).grownBy w1 v.ownBlock) :
  Box w1 (w.heap.size + 1) (.int .i64 N) v ∧ GHead w N (w1.setCell ⟨w.heap.size + 1, 1, none⟩ v1) v1 (X ++ [p]) := by
 have hlt := h.row.lt
 have hb := h.box.below ((Below.refl _ wr).alloc (Nat.le_refl _) o)
 have ha := h.ans.below ((Below.refl _ wr).alloc (Nat.le_refl _) o)
 have n1 : some (w.heap.size + 1) ≠ v.ownBlock := fun e => by have := (hlt _ e.symm).1; omega
 have n0 : some w.heap.size ≠ v.ownBlock := fun e => by have := (hlt _ e.symm).1; omega
 have b1 := hb.kept hg n1
 have a1 := ha.kept hg n0
 have bel : Below w.heap.size w w1 := (h.bel.alloc (by have := h.size; omega) o).grown hg (by have := h.size; simp; omega) (fun k hk => by have := (hlt k hk).1; omega)
 refine ⟨b1, ?_, bel.setCell (by simp) _, ?_, b1.set _, a1.other _ _ (by omega)⟩
 ·rw [List.length_append, flat_append]
  exact ownsRow_setCell_below hown (by simp) _
 ·have := hg.size
  have := h.size
  simp at *; omega
theorem GHead.done {w wr : World} {N : Int} {v : Value} {X : Lks} (h : GHead w N wr v X) :
  ∃ we, we = (wr.setCell ⟨w.heap.size, 0, none⟩ (.int .i64 N)).setCell ⟨w.heap.size, 1, none⟩ v ∧ Box we w.heap.size (.int .i64 N) v ∧ LinksAt we v X ∧ Below w.heap.size w we :=
 ⟨_, rfl, h.ans.fill _ _, LinksAt.owns (ownsRow_setCell_below (ownsRow_setCell_below h.row (by simp) _) (by simp) _), (h.bel.setCell (by simp) _).setCell (by simp) _⟩
set_option maxHeartbeats 8000000 in
set_option maxRecDepth 100000 in
theorem full_any (n M : Int) (N : Nat) (w : World) (h1 : (if n < 1 then (1 : Int) else n) = M) (h2 : (if 6 < M then (6 : Int) else M) = (N : Int)) (hN6 : N ≤ 6) :
  Calls Try.prog 51 #[.int .i64 n] w fun e w' => ∃ v, e = .returned (gv N v) ∧ LinksAt w' v (fullL N N) ∧ Below w.heap.size w w' := by
 obtain ⟨i0, hi0, hz0, hz1, hz2⟩ := info_parts infoPair
 have hst : GHead w N ((w.alloc (.cells #[.int .i64 0, .slice none 0 0] 24)).alloc (.cells #[.int .i64 N, .slice none 0 0] 24)) (.slice none 0 0) (fullL N 0) := by
  refine ⟨World.ownsRow_nil _ _ _ _, by go_grown, by simp, ⟨?_, ?_, ?_, ?_⟩, ⟨?_, ?_, ?_, ?_⟩⟩
  all_goals go_cell
 have Hst := Lib.hid hst
 clear hst
 go_enter Try.func51, Try.ntmps51
 go_wp2_with fail
 clear h1 h2
 generalize hww : (w.alloc (.cells #[.int .i64 0, .slice none 0 0] 24)).alloc (.cells #[.int .i64 N, .slice none 0 0] 24) = ww
 rw [hww] at Hst
 clear hww
 go_loopw [12] (fun i wr => ∃ k : Nat, i = .int .i64 k ∧ k ≤ N ∧ ∃ v, GHead w N wr v (fullL N k)) (fun i _ => N - (intOf i).toNat)
 case atStart => exact ⟨0, rfl, by omega, _, Hst.out⟩
 case round =>
  obtain ⟨k, rfl, hk, v, hG⟩ := hrel
  obtain ⟨wo, hwo⟩ : ∃ wo, wo = wr := ⟨_, rfl⟩
  rw [← hwo] at hG ⊢
  have HG := Lib.hid hG
  have c0 := hG.box.1
  have c1 := hG.box.2.1
  have d0 := hG.ans.2.2.1
  have d1 := hG.ans.2.2.2
  have d2 := hG.ans.1
  have d3 := hG.ans.2.1
  clear hG hwo
  by_cases hlt : k < N
  ·have hlt' : (k : Int) < N := by omega
   go_wp2_with fail
   go_loopw [17] (fun i wr => ∃ j : Nat, i = .int .i64 j ∧ j ≤ N ∧ ∃ v, GHead w N wr v (fullL N k ++ rowL k j)) (fun i _ => N - (intOf i).toNat)
   case atStart => exact ⟨0, rfl, by omega, _, by rw [show rowL k 0 = [] from rfl, List.append_nil]; exact HG.out⟩
   case round =>
    obtain ⟨j, rfl, hj, v2, hG2⟩ := hrel
    obtain ⟨X, hX⟩ : ∃ X, X = fullL N k ++ rowL k j := ⟨_, rfl⟩
    rw [← hX] at hG2
    have HX := Lib.hid hX
    have HG2 := Lib.hid hG2
    have e0 := hG2.box.1
    have e1 := hG2.box.2.1
    have hlen : X.length ≤ 64 := by
     rw [hX, List.length_append]
     have := fullL_len N k
     have := rowL_len k j
     have : k * N ≤ 5 * 6 := Nat.mul_le_mul (by omega) hN6
     omega
    have hsz := hG2.size
    clear hG2 hX
    by_cases hjt : j < N
    ·have hjt' : (j : Int) < N := by omega
     by_cases hjk : j = k
     ·subst hjk
      have hnext : GHead w N wr v2 (fullL N j ++ rowL j (j + 1)) := by rw [rowL_succ, if_pos rfl, ← HX.out]; exact HG2.out
      have Hnext := Lib.hid hnext
      clear hnext
      go_wp2_with fail
      go_roundw
      case rel => exact ⟨j + 1, by go_num, by omega, _, Hnext.out⟩
      case measure => simp [intOf]; omega
     ·have hne : ((k : Int) != (j : Int)) = true := by rw [bne_iff_ne]; omega
      obtain ⟨ao, cv, rfl⟩ := owns_slice HG2.out.row
      have Hlen := Lib.hid hlen
      clear hlen
      go_wp2_with (at_builtin; refine wpList_append_own _ rfl _ _ 22 rfl (w.heap.size + 2) 52 i0 (.agg #[.int .i64 0, .int .i64 0]) 2 16 Try.underlying22 hi0 hz0 hz1 hz2 rfl (by decide) _ _ _ rfl (HG2.out.row.alloc _) ⟨wr.heap.size, 0, none⟩ 1 1 [.int .i64 (k : Int), .int .i64 (j : Int)] rfl rfl ?c1 ?c2 ?c3 ?c4 ?c5 ?_)
      case c1 => exact cells_two wr _ _ _
      case c2 => intro u hu; simp at hu; rcases hu with rfl | rfl <;> rfl
      case c3 => unfold maxLen; have := Hlen.out; omega
      case c4 => have := Hlen.out; omega
      case c5 => first | omega | (simp; omega)
      intro v1 w1 hown1 hg1 _
      obtain ⟨ao1, cv1, rfl⟩ := owns_slice hown1
      obtain ⟨hbx, hnext0⟩ := HG2.out.more (p := ((k : Int), (j : Int))) hown1 hg1
      have b0 := hbx.1
      have b1 := hbx.2.1
      have b2 := hbx.2.2.2
      have hnext : GHead w N (w1.setCell ⟨w.heap.size + 1, 1, none⟩ (.slice ao1 (X.length + 1) cv1)) (.slice ao1 (X.length + 1) cv1) (fullL N k ++ rowL k (j + 1)) := by
       rw [rowL_succ, if_neg hjk, ← List.append_assoc, ← HX.out]; exact hnext0
      have Hnext := Lib.hid hnext
      clear hown1 hg1 hbx hnext0 hnext
      go_wp2_with fail
      go_roundw
      case rel => exact ⟨j + 1, by go_num, by omega, _, Hnext.out⟩
      case measure => simp [intOf]; omega
    ·have hjt' : ¬ (j : Int) < N := by omega
     obtain rfl : j = N := by omega
     have hnext : GHead w j wr v2 (fullL j (k + 1)) := by rw [fullL_succ, ← HX.out]; exact HG2.out
     have Hnext := Lib.hid hnext
     clear hnext
     go_wp2_with fail
     go_roundw
     case rel => exact ⟨k + 1, by go_num, by omega, _, Hnext.out⟩
     case measure => simp [intOf]; omega
  ·have hlt' : ¬ (k : Int) < N := by omega
   obtain rfl : k = N := by omega
   obtain ⟨ao, cv, rfl⟩ := owns_slice HG.out.row
   go_wp2_with fail
   obtain ⟨we, hwe, hbox, hL, hbel⟩ := HG.out.done
   rw [← hwe]
   have e0 := hbox.1
   have e1 := hbox.2.1
   refine bodyPost_ret (v := .agg #[.int .i64 (k : Int), .slice ao (fullL k k).length cv]) (by simp [results, Try.results51, go_sem, e0, e1]) rfl ⟨_, rfl, hL, hbel⟩
end Go.Proofs.Ytdbdlaanhmaabaa
namespace Go.Proofs.Ytdbdlaanhmaabaa
open Go.RowKit Go.PlainAid
theorem ref_slice (N : Int) (a : Option Addr) (len cap : Nat) (w : World) :
  Calls Try.prog 18 #[gv N (.slice a len cap)] w fun e w' => e = .returned (gv N (.slice a len cap)) ∧ Below w.heap.size w w' := by
 unfold gv
 go_enter Try.func18, Try.ntmps18
 go_wp2_with fail
 refine bodyPost_ret (v := .agg #[.int .i64 N, .slice a len cap]) (by simp [results, Try.results18, go_sem]) rfl ⟨rfl, ?_⟩
 go_grown
theorem ref_any (N : Int) (v : Value) (L : Lks) (w : World) (h : LinksAt w v L) :
  Calls Try.prog 18 #[gv N v] w fun e w' => e = .returned (gv N v) ∧ Below w.heap.size w w' := by
 obtain ⟨a, cap, rfl⟩ := h.at
 exact ref_slice N a L.length cap w
theorem lk_take {L : Lks} {m i : Nat} (h : i < m) : lk (L.take m) i = lk L i := by
 unfold lk; simp only [List.getD, List.getElem?_take, if_pos h]
theorem LinksAt.take {w : World} {b off len cap : Nat} {L : Lks} (hl : L.length = len) (hb : b < w.heap.size) (hlc : len ≤ cap)
  (hc : ∀ i, i < len → w.cell? ⟨b, off + i * 2, none⟩ = some (.int .i64 (lk L i).1) ∧ w.cell? ⟨b, off + i * 2 + 1, none⟩ = some (.int .i64 (lk L i).2)) (m : Nat) (hm : m ≤ len) :
  LinksAt w (.slice (some ⟨b, off, none⟩) m cap) (L.take m) := by
 by_cases h0 : m = 0
 ·subst h0; exact .inl ⟨_, cap, rfl, by simp⟩
 ·exact .inr ⟨b, off, m, cap, rfl, by rw [List.length_take]; omega, by omega, hb, by omega, fun i hi => by rw [lk_take hi]; exact hc i (by omega)⟩
set_option maxHeartbeats 8000000 in
theorem cut_some (b off len cap m : Nat) (N : Int) (w : World) (hlc : len ≤ cap) (hm : (if 40 < (len : Int) then (40 : Int) else (len : Int)) = (m : Int)) (hml : m ≤ len) :
  Calls Try.prog 25 #[gv N (.slice (some ⟨b, off, none⟩) len cap)] w fun e w' => e = .returned (gv N (.slice (some ⟨b, off, none⟩) m cap)) ∧ Below w.heap.size w w' := by
 unfold gv
 go_enter Try.func25, Try.ntmps25
 go_wp2_with fail
 refine bodyPost_ret (v := .agg #[.int .i64 N, .slice (some ⟨b, off, none⟩) m cap]) (by simp [results, Try.results25, go_sem]) rfl ⟨rfl, ?_⟩
 go_grown
theorem bits_mul64 (N : Nat) (w : World) (h0 : 1 ≤ N) (h6 : N ≤ 6) : Calls Try.prog 100 #[.int .u64 1, .int .u64 (N : Int)] w fun e w' => e = .returned (.tuple #[.int .u64 0, .int .u64 (N : Int)]) ∧ w = w' := by
 have h : N = 1 ∨ N = 2 ∨ N = 3 ∨ N = 4 ∨ N = 5 ∨ N = 6 := by omega
 rcases h with rfl | rfl | rfl | rfl | rfl | rfl
 all_goals
  go_enter Try.func100, Try.ntmps100
  go_wp2_with fail
  go_ret2
  exact ⟨by kernel_rfl, rfl⟩
theorem bits_mul (N : Nat) (w : World) (h0 : 1 ≤ N) (h6 : N ≤ 6) : Calls Try.prog 95 #[.int .u64 1, .int .u64 (N : Int)] w fun e w' => e = .returned (.tuple #[.int .u64 0, .int .u64 (N : Int)]) ∧ w = w' := by
 go_enter Try.func95, Try.ntmps95
 go_wp2_with fail
 refine (bits_mul64 N _ h0 h6).mono ?_
 rintro e w' ⟨rfl, rfl⟩
 go_wp2_with fail
 go_ret2
 exact ⟨rfl, rfl⟩
theorem make_ints (n : Nat) (h : n ≤ 1000000) (w : World) : (Instr.makeSlice 28 (.int .i64 (n : Int)) (.int .i64 (n : Int))).run Try.prog w = .ok (.slice (some ⟨w.heap.size, 0, none⟩) n n) (w.alloc (.cells (madeCells #[.int .i64 0] n) 3)) := by
 obtain ⟨i, hi, hz, h1, h2⟩ := info_parts infoInt
 have := run_make (P := Try.prog) w 28 3 i (.int .i64 0) Try.underlying28 hi hz .i64 .i64 n n (by omega) (by omega) (by rw [h2]; omega) (by omega)
 rw [this, h1]
 simp [Value.cells]
/-- A row: its first k cells hold -1, the others 0. -/
def mix (N k : Nat) : List Value := List.replicate k (.int .i64 (-1)) ++ List.replicate (N - k) (.int .i64 0)
theorem mix_length {N k : Nat} (h : k ≤ N) : (mix N k).length = N := by unfold mix; simp; omega
theorem mix_splice {N k m : Nat} (h : k + m ≤ N) : splice (mix N k) k (List.replicate m (.int .i64 (-1))) = mix N (k + m) := by
 unfold splice mix
 rw [List.take_left' (by simp), List.length_replicate, List.drop_append, List.drop_eq_nil_of_le (by simp), List.nil_append, List.length_replicate, List.drop_replicate, ← List.append_assoc, List.replicate_append_replicate]
 congr 2
 omega
theorem mix_made (N : Nat) : madeCells #[.int .i64 0] N = (mix N 0).toArray := by
 unfold mix madeCells
 apply Array.ext
 ·simp
 ·intro i h1 h2
  simp [Nat.mod_one]
set_option maxHeartbeats 400000 in
set_option maxRecDepth 100000 in
theorem repeat_any (b : Nat) (N : Nat) (w : World) (h0 : 1 ≤ N) (h6 : N ≤ 6) (hc : w.cell? ⟨b, 0, none⟩ = some (.int .i64 (-1))) :
  Calls Try.prog 88 #[.slice (some ⟨b, 0, none⟩) 1 1, .int .i64 (N : Int)] w fun e w' => e = .returned (.slice (some ⟨w.heap.size, 0, none⟩) N N) ∧ w'.heap[w.heap.size]? = some (.cells (mix N N).toArray 3 (0, 0)) ∧ Below w.heap.size w w' := by
 have hu : IntKind.u64.wrap (N : Int) = (N : Int) := IntWalk.u64_in _ (by omega)
 have hi : IntKind.i64.wrap (N : Int) = (N : Int) := IntWalk.i64_in _ (by omega)
 have hu1 : IntKind.u64.wrap 1 = 1 := by decide
 have hmk := make_ints N (by omega) w
 have hb1 : Below w.heap.size w (w.alloc (.cells (mix N 0).toArray 3)) := (Below.refl _ w).alloc (Nat.le_refl _) _
 have hg1 : (w.alloc (.cells (mix N 0).toArray 3)).heap[w.heap.size]? = some (.cells (mix N 0).toArray 3 (0, 0)) := heap_alloc_new w _
 have hc1 : (w.alloc (.cells (mix N 0).toArray 3)).cell? ⟨b, 0, none⟩ = some (.int .i64 (-1)) := (World.cell?_alloc_lt _ _ _ (World.block_lt_of_cell? w _ hc)).trans hc
 rw [mix_made] at hmk
 generalize w.alloc (.cells (mix N 0).toArray 3) = w1 at hmk hb1 hg1 hc1
 go_enter Try.func88, Try.ntmps88
 go_wp2_with fail
 refine (bits_mul N _ h0 h6).mono ?_
 rintro e w' ⟨rfl, rfl⟩
 go_wp2_with (refine wpList_copy_splice rfl _ _ 28 28 rfl 3 Try.underlying28 (by kernel_rfl) _ _ _ _ _ _ rfl rfl w.heap.size 0 (mix N 0) 3 hg1 [.int .i64 (-1)] ?k1 ?k2 ?k3 ?k4 w.heap.size w hb1 (Nat.le_refl _) ?_)
 case k1 => rw [List.length_singleton]; simp only [Nat.min_def]; split <;> omega
 case k2 =>
  intro j v hj
  cases j with
  | zero => simp at hj; subst hj; exact hc1
  | succ j => simp at hj
 case k3 => rw [mix_length (by omega)]; simp; omega
 case k4 => intro v hv; simp at hv; subst hv; rfl
 intro w2 hg2 hb2
 have hg2' := hg2.out
 rw [show ([.int .i64 (-1)] : List Value) = List.replicate 1 (.int .i64 (-1)) from rfl, mix_splice (by omega), Nat.zero_add] at hg2'
 have HG := Lib.hid hg2'
 clear hg2 hg2'
 go_wp2_with fail
 clear hmk hg1 hb1 hc1
 go_loopw [8] (fun i wr => ∃ k : Nat, i = .int .i64 k ∧ 1 ≤ k ∧ k ≤ N ∧ Below w.heap.size w wr ∧ wr.heap[w.heap.size]? = some (.cells (mix N k).toArray 3 (0, 0))) (fun i _ => N - (intOf i).toNat)
 case atStart => exact ⟨1, rfl, by omega, h0, hb2, HG.out⟩
 case round =>
  obtain ⟨k, rfl, hk1, hk, hbk, hgk⟩ := hrel
  have Hgk := Lib.hid hgk
  have Hbk := Lib.hid hbk
  clear hgk hbk
  by_cases hlt : k < N
  ·have hlt' : (k : Int) < N := by omega
   obtain ⟨m, hm⟩ : ∃ m, m = Nat.min k (N - k) := ⟨_, rfl⟩
   have hm1 : m ≤ k := by rw [hm]; exact Nat.min_le_left _ _
   have hm2 : m ≤ N - k := by rw [hm]; exact Nat.min_le_right _ _
   have hm0 : 1 ≤ m := by rw [hm]; exact Nat.le_min.2 ⟨hk1, by omega⟩
   have A1 : (List.replicate m (Value.int .i64 (-1))).length = Nat.min k (N - k) := by rw [List.length_replicate, hm]
   have A2 : 0 < (List.replicate m (Value.int .i64 (-1))).length → ∃ ad, (some (⟨w.heap.size, 0, none⟩ : Addr)) = some ad ∧ ∀ j v, (List.replicate m (Value.int .i64 (-1)))[j]? = some v → wr.drew.cell? (ad.add j) = some v := by
    refine fun _ => ⟨⟨w.heap.size, 0, none⟩, rfl, fun j v hj => ?_⟩
    have hjm : j < m := by have := (List.getElem?_eq_some_iff.1 hj).1; simpa using this
    have hv : v = .int .i64 (-1) := by simp [hjm] at hj; exact hj.symm
    have e : (⟨w.heap.size, 0, none⟩ : Addr).add j = ⟨w.heap.size, j, none⟩ := by unfold Addr.add; split <;> simp_all
    rw [e, hv]
    exact (cell_of_row wr _ j _ _ (0, 0) Hgk.out).trans (by unfold mix; simp [List.getElem?_append, show j < k by omega])
   have A3 : k + (List.replicate m (Value.int .i64 (-1))).length ≤ (mix N k).length := by rw [mix_length (by omega), List.length_replicate]; omega
   have A4 : ∀ v ∈ List.replicate m (Value.int .i64 (-1)), v.oneCell' = true := fun v hv => by rw [List.eq_of_mem_replicate hv]; rfl
   have B1 := Lib.hid A1
   have B2 := Lib.hid A2
   have B3 := Lib.hid A3
   have B4 := Lib.hid A4
   have Hm := Lib.hid hm
   have hne : ¬ N = k := by omega
   have hww : IntKind.i64.wrap ((k : Int) + (m : Int)) = (k : Int) + (m : Int) := IntWalk.i64_in _ (by omega)
   clear A1 A2 A3 A4 hm
   go_wp2_with fail
   go_region_law (refine step_copy_splice rfl (.tmp 41) (.tmp 44) 28 28 rfl 3 Try.underlying28 (by kernel_rfl) (some ⟨w.heap.size, k, none⟩) (some ⟨w.heap.size, 0, none⟩) (N - k) (N - k) k N (by simp [Act.eval, Act.put]) (by simp [Act.eval, Act.put]) w.heap.size k (mix N k) 3 (show wr.drew.heap[w.heap.size]? = _ from Hgk.out) (List.replicate m (.int .i64 (-1))) B1.out (fun h => ⟨rfl, B2.out h⟩) B3.out B4.out w.heap.size w (below_drewN Hbk.out 1) (Nat.le_refl _) ?_; intro w4 hg4 hb4)
   have hg5 := hg4.out
   rw [mix_splice (by omega)] at hg5
   have HG5 := Lib.hid hg5
   have HB5 := Lib.hid hb4
   clear hg5 hg4 hb4
   try simp [Act.put]
   go_wp2_with fail
   go_roundw
   case rel => exact ⟨k + m, by go_num, by omega, by omega, HB5.out, HG5.out⟩
   case measure => simp [intOf]; omega
  ·have hlt' : ¬ (k : Int) < N := by omega
   obtain rfl : N = k := by omega
   go_wp2_with fail
   go_ret
   exact ⟨rfl, Hgk.out, Hbk.out⟩
end Go.Proofs.Ytdbdlaanhmaabaa
namespace Go.Proofs.Ytdbdlaanhmaabaa
open Go.RowKit Go.PlainAid
set_option maxHeartbeats 8000000 in
theorem indexI_some (b off len cap : Nat) (xs : List Int) (x : Int) (w : World) (hl : xs.length = len) (hc : ∀ i, i < len → w.cell? ⟨b, off + i, none⟩ = some (.int .i64 (xs.getD i 0))) (hlb : len ≤ 1000000) :
  Calls Try.prog 87 #[.slice (some ⟨b, off, none⟩) len cap, .int .i64 x] w fun e w' => ∃ r : Int, e = .returned (.int .i64 r) ∧ (0 ≤ r ↔ x ∈ xs) ∧ w = w' := by
 have Hc := Lib.hid hc
 have Hl := Lib.hid hl
 clear hc hl
 go_enter Try.func87, Try.ntmps87
 go_wp2_with fail
 go_loopw [8] (fun i wr => ∃ k : Nat, i = .int .i64 k ∧ k ≤ len ∧ (∀ j, j < k → xs.getD j 0 ≠ x) ∧ wr = w) (fun i _ => len - (intOf i).toNat)
 case atStart => exact ⟨0, rfl, by omega, fun j hj => by omega, rfl⟩
 case round =>
  obtain ⟨k, rfl, hk, hno, rfl⟩ := hrel
  have Hs := Lib.hid hno
  clear hno
  by_cases hlt : k < len
  ·have hlt' : (k : Int) < len := by omega
   have c1 := Hc.out k hlt
   obtain ⟨e1, he1⟩ : ∃ e1, e1 = xs.getD k 0 := ⟨_, rfl⟩
   rw [← he1] at c1
   have He1 := Lib.hid he1
   clear he1
   by_cases hq : (x == e1) = true
   ·have Hq := Lib.hid hq
    go_wp2_with fail
    go_ret
    refine ⟨_, rfl, ⟨fun _ => ?_, fun _ => by omega⟩, rfl⟩
    have hh := Hq.out
    simp only [beq_iff_eq] at hh
    rw [hh, He1.out]
    have hkl : k < xs.length := by rw [Hl.out]; exact hlt
    simp only [List.getD, List.getElem?_eq_getElem hkl, Option.getD_some]
    exact List.getElem_mem hkl
   ·have Hq := Lib.hid hq
    have hq' : (x == e1) = false := by simpa using hq
    clear hq
    go_wp2_with fail
    go_roundw
    case rel =>
     refine ⟨k + 1, by go_num, by omega, fun j hj => ?_, trivial⟩
     by_cases hjk : j < k
     ·exact Hs.out j hjk
     ·obtain rfl : j = k := by omega
      intro h
      apply Hq.out
      rw [He1.out, h]
      simp
    case measure => simp [intOf]; omega
  ·have hlt' : ¬ (k : Int) < len := by omega
   go_wp2_with fail
   go_ret
   refine ⟨_, rfl, ⟨fun h => absurd h (by omega), fun h => ?_⟩, rfl⟩
   obtain ⟨i, hi, he⟩ := List.getElem_of_mem h
   exact absurd (by simp [List.getD, hi, he]) (Hs.out i (by rw [Hl.out] at hi; omega))
theorem contains_any (v : Value) (xs : List Int) (x : Int) (w : World) (h : IntsAt w v xs) (hn : xs.length ≤ 1000000) :
  Calls Try.prog 65 #[v, .int .i64 x] w fun e w' => e = .returned (.bool (decide (x ∈ xs))) ∧ w = w' := by
 have hidx : Calls Try.prog 87 #[v, .int .i64 x] w fun e w' => ∃ r : Int, e = .returned (.int .i64 r) ∧ (0 ≤ r ↔ x ∈ xs) ∧ w = w' := by
  rcases h with ⟨a, cap, rfl, rfl⟩ | ⟨b, off, len, cap, rfl, hl, hp, hb, hlc, hc⟩
  ·go_enter Try.func87, Try.ntmps87
   go_wp2_with fail
   refine wp_loop_rounds 1 ?_
   rw [rounds_succ]
   go_wp2_with fail
   go_ret
   exact ⟨-1, rfl, by simp, rfl⟩
  ·exact indexI_some b off len cap xs x w hl hc (by omega)
 clear h
 go_enter Try.func65, Try.ntmps65
 go_wp2_with fail
 refine hidx.mono ?_
 rintro e w' ⟨r, rfl, hr, rfl⟩
 have hd : decide (0 ≤ r) = decide (x ∈ xs) := by simp only [hr]
 have Hd := Lib.hid hd
 clear hr hidx hd
 go_wp2_with fail
 go_ret
 exact ⟨by rw [← Hd.out]; rfl, rfl⟩
end Go.Proofs.Ytdbdlaanhmaabaa

namespace Go.Proofs.Ytdbdlaanhmaabaa
open Go.RowKit Go.PlainAid
/-- Data: one cell, or a row of things of n cells each. -/
inductive D where
 | atom (v : Value)
 | row (n : Nat) (xs : List (List D))
/-- These blocks are as they were. -/
def SameOn (P : Nat → Prop) (w w' : World) : Prop := w.heap.size ≤ w'.heap.size ∧ ∀ b, P b → b < w.heap.size → w'.heap[b]? = w.heap[b]?
theorem SameOn.of_below {P : Nat → Prop} {w w' : World} (h : Below w.heap.size w w') : SameOn P w w' := ⟨h.size, fun b _ hb => h.block b hb⟩
theorem SameOn.sub {P P' : Nat → Prop} {w w' : World} (h : SameOn P w w') (hs : ∀ b, P' b → P b) : SameOn P' w w' := ⟨h.1, fun b p hb => h.2 b (hs b p) hb⟩
theorem SameOn.cell {P : Nat → Prop} {w w' : World} {a : Addr} (h : SameOn P w w') (hp : P a.block) (hb : a.block < w.heap.size) : w'.cell? a = w.cell? a := World.cell?_of_block (h.2 _ hp hb)
theorem below_new (w : World) (o : Obj) : Below w.heap.size w (w.alloc o) := (Below.refl _ w).alloc (Nat.le_refl _) o
/-- A row's block that may be written: all of it is the row's room. -/
def OpenRow (w : World) (b cap n : Nat) : Prop := cap ≤ maxLen ∧ ∃ cur e, w.heap[b]? = some (.cells cur e (0, 0)) ∧ cur.size = cap * n
theorem OpenRow.same {P : Nat → Prop} {w w' : World} {b cap n : Nat} (h : OpenRow w b cap n) (hs : SameOn P w w') (hP : P b) (hb : b < w.heap.size) : OpenRow w' b cap n := by
 obtain ⟨h1, cur, e, h2, h3⟩ := h
 exact ⟨h1, cur, e, (hs.2 b hP hb).trans h2, h3⟩
/-- A value holds data, in blocks of P; where S is so, no two parts lie in one block, and each may be written. -/
inductive Holds (S : Prop) : (Nat → Prop) → World → Value → D → Prop where
  | atom (P : Nat → Prop) (w : World) (v : Value) (h1 : v.oneCell' = true) : Holds S P w v (.atom v)
  | nil (P : Nat → Prop) (w : World) (a : Option Addr) (cap n : Nat) (hop : S → cap = 0 ∨ ∃ b, a = some ⟨b, 0, none⟩ ∧ P b ∧ b < w.heap.size ∧ OpenRow w b cap n := by first | exact fun s => s.elim | exact fun _ => .inl rfl) : Holds S P w (.slice a 0 cap) (.row n [])
  | row (P : Nat → Prop) (w : World) (b off cap n : Nat) (xs : List (List D)) (cs : Nat → Nat → Value) (fp : Nat → Nat → Nat → Prop) (h0 : 0 < xs.length) (hb : b < w.heap.size) (hc : xs.length ≤ cap) (hP : P b)
      (hn : ∀ (i : Nat) (ds : List D), xs[i]? = some ds → ds.length = n) (hcell : ∀ (i j : Nat), i < xs.length → j < n → w.cell? ⟨b, off + i * n + j, none⟩ = some (cs i j))
      (hrec : ∀ (i j : Nat) (ds : List D) (d : D), xs[i]? = some ds → ds[j]? = some d → Holds S (fp i j) w (cs i j) d) (hfp : ∀ (i j k : Nat), fp i j k → P k) (hb2 : S → ∀ (i j : Nat), ¬ fp i j b)
      (hd : S → ∀ (i j i' j' k : Nat), fp i j k → fp i' j' k → i = i' ∧ j = j') (hop : S → off = 0 ∧ OpenRow w b cap n := by exact fun s => s.elim) : Holds S P w (.slice (some ⟨b, off, none⟩) xs.length cap) (.row n xs)
theorem Holds.same {S : Prop} {P : Nat → Prop} {w w' : World} {v : Value} {d : D} (h : Holds S P w v d) : SameOn P w w' → Holds S P w' v d := by
 induction h with
 | atom P w v h1 => intro _; exact .atom P w' v h1
 | nil P w a cap n hop =>
  intro hs
  refine .nil P w' a cap n (fun s => ?_)
  rcases hop s with h | ⟨b, h1, h2, h3, h4⟩
  ·exact .inl h
  ·exact .inr ⟨b, h1, h2, Nat.lt_of_lt_of_le h3 hs.1, h4.same hs h2 h3⟩
 | row P w b off cap n xs cs fp h0 hb hc hP hn hcell hrec hfp hb2 hd hop ih =>
  intro hs
  exact .row P w' b off cap n xs cs fp h0 (Nat.lt_of_lt_of_le hb hs.1) hc hP hn (fun i j hi hj => (hs.cell hP (by exact hb)).trans (hcell i j hi hj))
   (fun i j ds d h1 h2 => ih i j ds d h1 h2 (hs.sub (hfp i j))) hfp hb2 hd (fun s => ⟨(hop s).1, (hop s).2.same hs hP hb⟩)
theorem Holds.later {S : Prop} {P : Nat → Prop} {w w' : World} {v : Value} {d : D} (h : Holds S P w v d) (hb : Below w.heap.size w w') : Holds S P w' v d := h.same (.of_below hb)
theorem Holds.wide {S : Prop} {P P' : Nat → Prop} {w : World} {v : Value} {d : D} (h : Holds S P w v d) : (∀ b, b < w.heap.size → P b → P' b) → Holds S P' w v d := by
 induction h generalizing P' with
 | atom P w v h1 => intro _; exact .atom P' w v h1
 | nil P w a cap n hop =>
  intro hs
  refine .nil P' w a cap n (fun s => ?_)
  rcases hop s with h | ⟨b, h1, h2, h3, h4⟩
  ·exact .inl h
  ·exact .inr ⟨b, h1, hs b h3 h2, h3, h4⟩
 | row P w b off cap n xs cs fp h0 hb hc hP hn hcell hrec hfp hb2 hd hop ih =>
  intro hs
  exact .row P' w b off cap n xs cs (fun i j k => fp i j k ∧ k < w.heap.size) h0 hb hc (hs b hb hP) hn hcell
   (fun i j ds d h1 h2 => ih i j ds d h1 h2 (fun b hb p => ⟨p, hb⟩)) (fun i j k h => hs k h.2 (hfp i j k h.1)) (fun s i j h => hb2 s i j h.1) (fun s i j i' j' k h h' => hd s i j i' j' k h.1 h'.1) hop
/-- All blocks. -/
def All : Nat → Prop := fun _ => True
theorem Holds.weak {S : Prop} {P : Nat → Prop} {w : World} {v : Value} {d : D} (h : Holds S P w v d) : Holds False All w v d := by
 induction h with
 | atom P w v h1 => exact .atom All w v h1
 | nil P w a cap n hop => exact .nil All w a cap n (fun s => s.elim)
 | row P w b off cap n xs cs fp h0 hb hc hP hn hcell hrec hfp hb2 hd hop ih =>
  exact .row All w b off cap n xs cs (fun _ _ => All) h0 hb hc trivial hn hcell ih (fun _ _ _ _ => trivial) (fun s => s.elim) (fun s => s.elim) (fun s => s.elim)
/-- Plain reading. -/
abbrev Has (w : World) (v : Value) (d : D) : Prop := Holds False All w v d
theorem Holds.len {S : Prop} {P : Nat → Prop} {w : World} {v : Value} {n : Nat} {xs : List (List D)} (h : Holds S P w v (.row n xs)) : ∃ a cap, v = .slice a xs.length cap := by
 cases h with
 | nil => exact ⟨_, _, rfl⟩
 | row => exact ⟨_, _, rfl⟩
theorem Holds.val {S : Prop} {P : Nat → Prop} {w : World} {v u : Value} (h : Holds S P w v (.atom u)) : v = u := by cases h; rfl
theorem Holds.one {S : Prop} {P : Nat → Prop} {w : World} {v : Value} {d : D} (h : Holds S P w v d) : v.oneCell' = true := by
 cases h with
 | atom h1 => assumption
 | nil => rfl
 | row => rfl
theorem lt_of_some {α : Type} {l : List α} {i : Nat} {x : α} (h : l[i]? = some x) : i < l.length := (List.getElem?_eq_some_iff.1 h).1
theorem some_of_lt {α : Type} {l : List α} {i : Nat} (h : i < l.length) : ∃ x, l[i]? = some x := ⟨_, List.getElem?_eq_getElem h⟩
/-- Values hold a list of data, each in blocks of its own. -/
def HoldsL (S : Prop) (P : Nat → Prop) (w : World) (cs : List Value) (ds : List D) : Prop :=
 cs.length = ds.length ∧ ∃ fp : Nat → Nat → Prop, (∀ j k, fp j k → P k) ∧ (S → ∀ j j' k, fp j k → fp j' k → j = j') ∧ ∀ j c d, cs[j]? = some c → ds[j]? = some d → Holds S (fp j) w c d
theorem HoldsL.same {S : Prop} {P : Nat → Prop} {w w' : World} {cs : List Value} {ds : List D} (h : HoldsL S P w cs ds) (hs : SameOn P w w') : HoldsL S P w' cs ds := by
 obtain ⟨h1, fp, h2, h3, h4⟩ := h
 exact ⟨h1, fp, h2, h3, fun j c d hc hd => (h4 j c d hc hd).same (hs.sub (h2 j))⟩
theorem HoldsL.later {S : Prop} {P : Nat → Prop} {w w' : World} {cs : List Value} {ds : List D} (h : HoldsL S P w cs ds) (hb : Below w.heap.size w w') : HoldsL S P w' cs ds := h.same (.of_below hb)
theorem HoldsL.wide {S : Prop} {P P' : Nat → Prop} {w : World} {cs : List Value} {ds : List D} (h : HoldsL S P w cs ds) (hs : ∀ b, b < w.heap.size → P b → P' b) : HoldsL S P' w cs ds := by
 obtain ⟨h1, fp, h2, h3, h4⟩ := h
 exact ⟨h1, fun j k => fp j k ∧ k < w.heap.size, fun j k h => hs k h.2 (h2 j k h.1), fun s j j' k h h' => h3 s j j' k h.1 h'.1, fun j c d hc hd => (h4 j c d hc hd).wide (fun b hb p => ⟨p, hb⟩)⟩
theorem HoldsL.weak {S : Prop} {P : Nat → Prop} {w : World} {cs : List Value} {ds : List D} (h : HoldsL S P w cs ds) : HoldsL False All w cs ds := by
 obtain ⟨h1, fp, h2, h3, h4⟩ := h
 exact ⟨h1, fun _ => All, fun _ _ _ => trivial, fun s => s.elim, fun j c d hc hd => (h4 j c d hc hd).weak⟩
theorem hasL_nil (S : Prop) (P : Nat → Prop) (w : World) : HoldsL S P w [] [] := ⟨rfl, fun _ _ => False, fun _ _ h => h.elim, fun _ _ _ _ h => h.elim, fun j c d h => by simp at h⟩
abbrev HasL (w : World) (cs : List Value) (ds : List D) : Prop := HoldsL False All w cs ds
theorem HasL.cons {w : World} {cs : List Value} {d : D} {ds : List D} (h : HasL w cs (d :: ds)) : ∃ c cs', cs = c :: cs' ∧ Has w c d ∧ HasL w cs' ds := by
 obtain ⟨h1, fp, h2, h3, h4⟩ := h
 match cs, h1 with
 | c :: cs', h1 => exact ⟨c, cs', rfl, (h4 0 c d rfl rfl).weak, by simpa using h1, fun j => fp (j + 1), fun j k h => h2 _ k h, fun s => s.elim, fun j c d hc hd => h4 (j + 1) c d (by simpa using hc) (by simpa using hd)⟩
theorem HasL.nil {w : World} {cs : List Value} (h : HasL w cs []) : cs = [] := List.eq_nil_of_length_eq_zero h.1
theorem HasL.mk {w : World} {c : Value} {cs : List Value} {d : D} {ds : List D} (h : Has w c d) (h' : HasL w cs ds) : HasL w (c :: cs) (d :: ds) := by
 obtain ⟨h1, fp, h2, h3, h4⟩ := h'.weak
 refine ⟨by simp [h1], fun _ => All, fun _ _ _ => trivial, fun s => s.elim, fun j c' d' hc hd => ?_⟩
 cases j with
 | zero => simp at hc hd; subst hc hd; exact h.weak
 | succ j => exact (h4 j c' d' (by simpa using hc) (by simpa using hd)).weak
/-- An element's cells. -/
theorem Has.at {w : World} {v : Value} {n i : Nat} {xs : List (List D)} {ds : List D} (h : Has w v (.row n xs)) (hx : xs[i]? = some ds) :
  ∃ b off cap, v = .slice (some ⟨b, off, none⟩) xs.length cap ∧ b < w.heap.size ∧ xs.length ≤ cap ∧ ds.length = n ∧ ∃ cs, HasL w cs ds ∧ ∀ j c, cs[j]? = some c → w.cell? ⟨b, off + i * n + j, none⟩ = some c := by
 cases h with
 | nil => simp at hx
 | row _ _ b off cap n xs cs fp h0 hb hc hP hn hcell hrec hfp hb2 hd =>
  have hl := hn i ds hx
  refine ⟨b, off, cap, rfl, hb, hc, hl, (List.range n).map (cs i), ⟨by simp [hl], fun _ => All, fun _ _ _ => trivial, fun s => s.elim, fun j c d hc' hd' => ?_⟩, fun j c hc' => ?_⟩
  ·have hj := lt_of_some hd'
   rw [List.getElem?_map, List.getElem?_range (by omega)] at hc'
   simp at hc'
   subst hc'
   exact (hrec i j ds d hx hd').weak
  ·have hj := lt_of_some hc'
   simp at hj
   rw [List.getElem?_map, List.getElem?_range (by omega)] at hc'
   simp at hc'
   subst hc'
   exact hcell i j (lt_of_some hx) hj
def dI (a : Int) : D := .atom (.int .i64 a)
def dB (b : Bool) : D := .atom (.bool b)
def dInts (xs : List Int) : D := .row 1 (xs.map fun a => [dI a])
def dLinks (L : Lks) : D := .row 2 (L.map fun p => [dI p.1, dI p.2])
theorem has_int (S : Prop) (P : Nat → Prop) (w : World) (a : Int) : Holds S P w (.int .i64 a) (dI a) := .atom P w _ rfl
theorem has_bool (S : Prop) (P : Nat → Prop) (w : World) (a : Bool) : Holds S P w (.bool a) (dB a) := .atom P w _ rfl
theorem Has.ints {w : World} {v : Value} {xs : List Int} (h : Has w v (dInts xs)) : IntsAt w v xs := by
 by_cases h0 : xs.length = 0
 ·obtain rfl := List.length_eq_zero_iff.1 h0
  obtain ⟨a, cap, rfl⟩ := Holds.len h
  exact .inl ⟨a, cap, rfl, rfl⟩
 ·have key : ∀ i, i < xs.length → ∃ b off cap, v = .slice (some ⟨b, off, none⟩) xs.length cap ∧ b < w.heap.size ∧ xs.length ≤ cap ∧ w.cell? ⟨b, off + i, none⟩ = some (.int .i64 (xs.getD i 0)) := by
   intro i hi
   obtain ⟨b, off, cap, rfl, hb, hc, hl, cs, hcs, hcell⟩ := Has.at (i := i) (ds := [dI (xs.getD i 0)]) h (by simp [List.getD, hi])
   obtain ⟨c, cs', rfl, hc1, hc2⟩ := hcs.cons
   have e := Holds.val hc1
   subst e
   have := hcell 0 _ rfl
   rw [Nat.mul_one, Nat.add_zero] at this
   simp only [List.length_map] at hc ⊢
   exact ⟨b, off, cap, rfl, hb, hc, this⟩
  obtain ⟨b, off, cap, rfl, hb, hc, _⟩ := key 0 (by omega)
  refine .inr ⟨b, off, xs.length, cap, rfl, rfl, by omega, hb, hc, fun i hi => ?_⟩
  obtain ⟨b', off', cap', e, _, _, hx⟩ := key i hi
  simp only [Value.slice.injEq, Option.some.injEq, Addr.mk.injEq] at e
  obtain ⟨⟨rfl, rfl, _⟩, _, rfl⟩ := e
  exact hx
theorem Has.links {w : World} {v : Value} {L : Lks} (h : Has w v (dLinks L)) : LinksAt w v L := by
 by_cases h0 : L.length = 0
 ·obtain rfl := List.length_eq_zero_iff.1 h0
  obtain ⟨a, cap, rfl⟩ := Holds.len h
  exact .inl ⟨a, cap, rfl, rfl⟩
 ·have key : ∀ i, i < L.length → ∃ b off cap, v = .slice (some ⟨b, off, none⟩) L.length cap ∧ b < w.heap.size ∧ L.length ≤ cap ∧ w.cell? ⟨b, off + i * 2, none⟩ = some (.int .i64 (lk L i).1) ∧ w.cell? ⟨b, off + i * 2 + 1, none⟩ = some (.int .i64 (lk L i).2) := by
   intro i hi
   obtain ⟨b, off, cap, rfl, hb, hc, hl, cs, hcs, hcell⟩ := Has.at (i := i) (ds := [dI (lk L i).1, dI (lk L i).2]) h (by simp [lk, List.getD, hi])
   obtain ⟨c, cs', rfl, hc1, hc2⟩ := hcs.cons
   obtain ⟨c', cs2, rfl, hc3, hc4⟩ := HasL.cons hc2
   have e := Holds.val hc1
   have e' := Holds.val hc3
   subst e e'
   simp only [List.length_map] at hc ⊢
   exact ⟨b, off, cap, rfl, hb, hc, hcell 0 _ rfl, hcell 1 _ rfl⟩
  obtain ⟨b, off, cap, rfl, hb, hc, _⟩ := key 0 (by omega)
  refine .inr ⟨b, off, L.length, cap, rfl, rfl, by omega, hb, hc, fun i hi => ?_⟩
  obtain ⟨b', off', cap', e, _, _, hx⟩ := key i hi
  simp only [Value.slice.injEq, Option.some.injEq, Addr.mk.injEq] at e
  obtain ⟨⟨rfl, rfl, _⟩, _, rfl⟩ := e
  exact hx
theorem has_of_links {w : World} {v : Value} {L : Lks} (h : LinksAt w v L) : Has w v (dLinks L) := by
 rcases h with ⟨a, cap, rfl, rfl⟩ | ⟨b, off, len, cap, rfl, rfl, h3, h4, h6, h5⟩
 ·exact .nil _ _ _ _ _
 ·have e : L.length = (L.map fun p => [dI p.1, dI p.2]).length := by simp
  unfold dLinks
  rw [e]
  refine .row _ _ _ _ _ _ _ (fun i j => if j = 0 then .int .i64 (lk L i).1 else .int .i64 (lk L i).2) (fun _ _ => All) (by simpa using h3) h4 (by simpa using h6) trivial (fun i ds h => ?_) (fun i j hi hj => ?_) (fun i j ds d h1 h2 => ?_) (fun _ _ _ _ => trivial) (fun s => s.elim) (fun s => s.elim)
  ·simp at h; obtain ⟨_, _, _, rfl⟩ := h; rfl
  ·have := h5 i (by simpa using hi)
   rcases Nat.lt_or_ge j 1 with hj1 | hj1
   ·obtain rfl : j = 0 := by omega
    simpa using this.1
   ·obtain rfl : j = 1 := by omega
    simpa using this.2
  ·rw [List.getElem?_map, Option.map_eq_some_iff] at h1
   obtain ⟨p, ha, rfl⟩ := h1
   rw [show lk L i = p by simp [lk, List.getD, ha]]
   match j, h2 with
   | 0, h2 => simp at h2; subst h2; exact has_int _ _ _ _
   | 1, h2 => simp at h2; subst h2; exact has_int _ _ _ _
   | j + 2, h2 => simp at h2
end Go.Proofs.Ytdbdlaanhmaabaa
namespace Go.Proofs.Ytdbdlaanhmaabaa
open Go.RowKit Go.PlainAid
theorem flatten_len {n : Nat} : ∀ {ys : List (List D)}, (∀ ds ∈ ys, ds.length = n) → ys.flatten.length = ys.length * n
 | [], _ => by simp
 | ds :: r, h => by
  rw [List.flatten_cons, List.length_append, flatten_len (fun d hd => h d (List.mem_cons_of_mem _ hd)), h ds (List.mem_cons_self ..), List.length_cons, Nat.succ_mul, Nat.add_comm]
theorem flatten_get {n : Nat} : ∀ {ys : List (List D)} {i j : Nat} {ds : List D}, (∀ ds ∈ ys, ds.length = n) → ys[i]? = some ds → j < n → ys.flatten[i * n + j]? = ds[j]?
 | [], i, j, ds, _, h, _ => by simp at h
 | q :: r, 0, j, ds, hn, h, hj => by
  simp at h; subst h
  rw [List.flatten_cons, Nat.zero_mul, Nat.zero_add, List.getElem?_append_left (by rw [hn q (List.mem_cons_self ..)]; exact hj)]
 | q :: r, i + 1, j, ds, hn, h, hj => by
  have hq := hn q (List.mem_cons_self ..)
  rw [List.flatten_cons, List.getElem?_append_right (by rw [hq, Nat.succ_mul]; omega), hq, show (i + 1) * n + j - n = i * n + j by rw [Nat.succ_mul]; omega]
  exact flatten_get (fun d hd => hn d (List.mem_cons_of_mem _ hd)) (by simpa using h) hj
theorem grown_of_below {w w' : World} (h : Below w.heap.size w w') (row : Option Nat) : w.grownBy w' row := ⟨h.os, h.tape, h.output, h.size, fun k hk _ => h.block k hk⟩
/-- A row that the call is building: what it holds lies in blocks of P, below 'lim', and not in the row's own. -/
structure Own (S : Prop) (P : Nat → Prop) (E : TypeId) (n : Nat) (wb : World) (lim : Nat) (w : World) (v : Value) (xs : List (List D)) : Prop where
 bel : Below wb.heap.size wb w
 lim_le : lim ≤ w.heap.size
 blk : ∀ k, v.ownBlock = some k → k < lim
 ex : ∃ (cells : List Value) (cs : Nat → Nat → Value) (fp : Nat → Nat → Nat → Prop), w.ownsRow wb.heap.size E n v xs.length cells ∧ (∀ (i : Nat) (ds : List D), xs[i]? = some ds → ds.length = n) ∧
  (∀ i j, i < xs.length → j < n → cells[i * n + j]? = some (cs i j)) ∧ (∀ (i j : Nat) (ds : List D) (d : D), xs[i]? = some ds → ds[j]? = some d → Holds S (fp i j) w (cs i j) d) ∧
  (∀ i j k, fp i j k → P k ∧ k < lim ∧ v.ownBlock ≠ some k) ∧ (S → ∀ i j i' j' k, fp i j k → fp i' j' k → i = i' ∧ j = j')
theorem Own.nil {S : Prop} {P : Nat → Prop} {E : TypeId} {n : Nat} {wb w : World} (hb : Below wb.heap.size wb w) : Own S P E n wb w.heap.size w (.slice none 0 0) [] :=
 ⟨hb, Nat.le_refl _, fun k hk => by simp [Value.ownBlock] at hk, [], fun _ _ => .bool true, fun _ _ _ => False, World.ownsRow_nil _ _ _ _, fun i ds h => by simp at h, fun i j h => by simp at h, fun i j ds d h => by simp at h, fun _ _ _ h => h.elim, fun _ _ _ _ _ _ h => h.elim⟩
theorem Own.later {S : Prop} {P : Nat → Prop} {E : TypeId} {n lim : Nat} {wb w w' : World} {v : Value} {xs : List (List D)} (h : Own S P E n wb lim w v xs) (hb : Below w.heap.size w w') : Own S P E n wb lim w' v xs := by
 obtain ⟨h1, h2, h3, cells, cs, fp, h4, h5, h6, h7, h8, h9⟩ := h
 exact ⟨h1.trans (hb.mono h1.size), Nat.le_trans h2 hb.size, h3, cells, cs, fp, h4.kept (grown_of_below hb none) (by cases v.ownBlock <;> simp), h5, h6, fun i j ds d a b => (h7 i j ds d a b).later hb, h8, h9⟩
theorem Own.lift {S : Prop} {P : Nat → Prop} {E : TypeId} {n lim lim' : Nat} {wb w : World} {v : Value} {xs : List (List D)} (h : Own S P E n wb lim w v xs) (h1 : lim ≤ lim') (h2 : lim' ≤ w.heap.size) : Own S P E n wb lim' w v xs := by
 obtain ⟨g1, g2, g3, cells, cs, fp, h4, h5, h6, h7, h8, h9⟩ := h
 exact ⟨g1, h2, fun k hk => Nat.lt_of_lt_of_le (g3 k hk) h1, cells, cs, fp, h4, h5, h6, h7, fun i j k hf => ⟨(h8 i j k hf).1, Nat.lt_of_lt_of_le (h8 i j k hf).2.1 h1, (h8 i j k hf).2.2⟩, h9⟩
theorem Own.slice {S : Prop} {P : Nat → Prop} {E : TypeId} {n lim : Nat} {wb w : World} {v : Value} {xs : List (List D)} (h : Own S P E n wb lim w v xs) : ∃ a c, v = .slice a xs.length c := by
 obtain ⟨_, _, _, cells, cs, fp, h4, _⟩ := h
 exact owns_slice h4
theorem Own.ge {S : Prop} {P : Nat → Prop} {E : TypeId} {n lim : Nat} {wb w : World} {v : Value} {xs : List (List D)} (h : Own S P E n wb lim w v xs) : ∀ k, v.ownBlock = some k → wb.heap.size ≤ k ∧ k < w.heap.size := by
 obtain ⟨_, _, _, cells, cs, fp, h4, _⟩ := h
 exact h4.lt
/-- What the row holds at last. -/
theorem Own.holds {S : Prop} {P : Nat → Prop} {E : TypeId} {n lim : Nat} {wb w : World} {v : Value} {xs : List (List D)} (h : Own S P E n wb lim w v xs) (hP : ∀ k, v.ownBlock = some k → P k) : Holds S P w v (.row n xs) := by
 obtain ⟨h1, h2, h3, cells, cs, fp, h4, h5, h6, h7, h8, h9⟩ := h
 by_cases h0 : xs.length = 0
 ·obtain ⟨a, c, rfl⟩ := owns_slice h4
  obtain rfl := List.length_eq_zero_iff.1 h0
  refine .nil _ _ _ _ _ (fun _ => ?_)
  rcases h4.2 with ⟨e, _⟩ | ⟨g, cap, cur, e, hge, hg, hle, hmx, hcz, _⟩
  ·simp at e; exact .inl e.2
  ·simp at e
   obtain ⟨rfl, rfl⟩ := e
   exact .inr ⟨g, rfl, hP g rfl, lt_of_block hg, hmx, cur, E, hg, hcz⟩
 ·have hcell := fun g => h4.cells (g := g)
  rcases h4.2 with ⟨_, e⟩ | ⟨g, cap, cur, rfl, hge, hg, hle, hmx, hcz, _⟩
  ·exact absurd e h0
  ·refine .row P w g 0 cap n xs cs fp (by omega) (lt_of_block hg) hle (hP g rfl) h5 (fun i j hi hj => ?_) h7 (fun i j k hf => (h8 i j k hf).1) (fun _ i j hf => (h8 i j g hf).2.2 rfl) h9 (fun _ => ⟨rfl, hmx, cur, E, hg, hcz⟩)
   have := hcell g rfl _ _ (h6 i j hi hj)
   have e : (⟨g, 0, none⟩ : Addr).add (i * n + j) = ⟨g, 0 + i * n + j, none⟩ := by unfold Addr.add; split <;> simp_all
   rw [e] at this; exact this
/-- Where a row goes that is appended to. -/
theorem app_block {w w' : World} {base m n : Nat} {T ty E : TypeId} {i : TypeInfo} {z : Value} {size bytes : Nat} {v v' : Value} {xs news : List Value} {ad : Addr} {c : Nat} (ht : Try.prog.underlying T = some (.slice E)) (hi : Try.prog.info? E = some i) (hz : i.zero = some z)
  (hsize : i.size = size) (hby : i.bytes = bytes) (hzs : z.cells.size = size) (hsz : 0 < size) (hown : w.ownsRow base E size v n xs) (hl : news.length = m * size) (hnews : ∀ j u, news[j]? = some u → w.cell? (ad.add j) = some u) (h1 : ∀ u ∈ news, u.oneCell' = true)
  (h63 : n + m ≤ maxLen) (hbytes : (n + m) * bytes ≤ 140737488355328) (hr : (Builtin.append_ #[T, T] ty #[v, .slice (some ad) m c]).run Try.prog w = .ok v' w') :
  v'.ownBlock = v.ownBlock ∨ v'.ownBlock = some w.heap.size := by
 subst hsize hby
 have hb63 : ((n + m : Nat) : Int) ≤ 9223372036854775807 := by unfold maxLen at h63; omega
 rcases hown.2 with ⟨rfl, rfl⟩ | ⟨g, cap, cur, rfl, _, hg, hnc, _, hcs, _⟩
 ·by_cases hm : m = 0
  ·subst hm
   have hn : news = [] := List.eq_nil_of_length_eq_zero (by simpa using hl)
   subst hn
   obtain ⟨v1, w1, hr1, _, _, h4⟩ := run_append_own (P := Try.prog) w w.heap.size T ty E i z i.size i.bytes ht hi hz rfl rfl hzs hsz _ 0 [] (World.ownsRow_nil _ _ _ _) ad 0 c [] (by simp) (by simp) (by simp) (by unfold maxLen; omega) (by omega) (Nat.le_refl _)
   rw [hr1] at hr
   cases hr
   rw [h4.2 ⟨rfl, rfl⟩]
   exact .inl rfl
  ·have := run_append_nil (P := Try.prog) w T ty E i z ht hi hz ad m c news hl hnews (by omega) (by omega) (by have hb := hbytes; simp only [Nat.zero_add] at hb; omega)
   rw [this] at hr
   cases hr
   exact .inr rfl
 ·by_cases hroom : n + m ≤ cap
  ·have := run_append_room (P := Try.prog) w T ty E i ht hi g n cap cur hg ad m c news hl hnews h1 hroom (by rw [hl, hcs, ← Nat.add_mul]; exact Nat.mul_le_mul_right _ hroom)
   rw [this] at hr
   cases hr
   exact .inl rfl
  ·have := run_append_grow (P := Try.prog) w T ty E i z ht hi hz ⟨g, 0, none⟩ n cap xs hown.1 (hown.cells (g := g) rfl) ad m c news hl hnews (by omega) hb63 (growslice_fits (by omega) hbytes)
   rw [this] at hr
   cases hr
   exact .inr rfl
/-- What a row owns is fixed by the memory, but for what lies beyond its length. -/
theorem ownsRow_det {w : World} {base n k : Nat} {E : TypeId} {v : Value} {a b : List Value} (h : w.ownsRow base E n v k a) (h' : w.ownsRow base E n v k b) : a = b := by
 rcases h.2 with ⟨rfl, rfl⟩ | ⟨g, cap, cur, rfl, _, hg, _, _, _, ht⟩
 ·have e1 := h.1
  have e2 := h'.1
  simp at e1 e2
  rw [e1, e2]
 ·rcases h'.2 with ⟨e, _⟩ | ⟨g', cap', cur', e, _, hg', _, _, _, ht'⟩
  ·cases e
  ·simp only [Value.slice.injEq, Option.some.injEq, Addr.mk.injEq] at e
   obtain ⟨⟨rfl, _⟩, _, _⟩ := e
   rw [hg] at hg'
   simp only [Option.some.injEq, Obj.cells.injEq] at hg'
   obtain ⟨rfl, _⟩ := hg'
   rw [← ht, ← ht']
theorem Own.push {S : Prop} {P : Nat → Prop} {E : TypeId} {n lim m : Nat} {wb w w' : World} {v v' : Value} {xs ys : List (List D)} {news : List Value} (h : Own S P E n wb lim w v xs) (hy : ∀ ds ∈ ys, ds.length = n) (hm : ys.length = m)
  (hh : HoldsL S (fun k => P k ∧ v.ownBlock ≠ some k ∧ (S → lim ≤ k)) w news ys.flatten) (hb : v'.ownBlock = v.ownBlock ∨ v'.ownBlock = some w.heap.size)
  (hg : w.grownBy w' v.ownBlock) (hown : ∀ cells, w.ownsRow wb.heap.size E n v xs.length cells → w'.ownsRow wb.heap.size E n v' (xs.length + m) (cells ++ news)) : Own S P E n wb w'.heap.size w' v' (xs ++ ys) := by
 obtain ⟨h1, h2, h3, cells, cs, fp, h4, h5, h6, h7, h8, h9⟩ := h
 obtain ⟨hl, gp, g1, g2, g3⟩ := hh
 have hlt := h4.lt
 have hbl : ∀ k, v'.ownBlock = some k → k < w'.heap.size := fun k hk => ((hown cells h4).lt k hk).2
 have hk' : ∀ k, k < w.heap.size → v.ownBlock ≠ some k → v'.ownBlock ≠ some k := by
  intro k hk hne e
  rcases hb with hb | hb
  ·rw [hb] at e; exact hne e
  ·rw [hb] at e; simp at e; omega
 have hsame : ∀ Q : Nat → Prop, (∀ k, Q k → v.ownBlock ≠ some k) → SameOn Q w w' := fun Q hQ => ⟨hg.size, fun b hq hb => hg.block b hb (fun e => hQ b hq e.symm)⟩
 have hcl : cells.length = xs.length * n := h4.1
 refine ⟨h1.grown hg h1.size (fun k hk => (hlt k hk).1), Nat.le_refl _, hbl, cells ++ news, fun i j => if i < xs.length then cs i j else news.getD ((i - xs.length) * n + j) (.bool true),
  fun i j k => if i < xs.length then fp i j k else gp ((i - xs.length) * n + j) k ∧ j < n ∧ k < w.heap.size, by rw [List.length_append, hm]; exact hown cells h4, fun i ds hi => ?_, fun i j hi hj => ?_, fun i j ds d hi hj => ?_, fun i j k hf => ?_, fun s i j i' j' k hf hf' => ?_⟩
 ·rw [List.getElem?_append] at hi
  split at hi
  ·exact h5 i ds hi
  ·exact hy ds (List.mem_of_getElem? hi)
 ·by_cases hix : i < xs.length
  ·simp only [if_pos hix]
   rw [List.getElem?_append_left (by rw [hcl]; exact Nat.lt_of_lt_of_le (Nat.lt_of_lt_of_le (Nat.add_lt_add_left hj _) (by rw [← Nat.succ_mul]; exact Nat.le_refl _)) (Nat.mul_le_mul_right n hix))]
   exact h6 i j hix hj
  ·simp only [if_neg hix]
   have e : i * n + j = cells.length + ((i - xs.length) * n + j) := by
    rw [hcl, ← Nat.add_assoc, ← Nat.add_mul]; congr 2; omega
   rw [e, List.getElem?_append_right (by omega), Nat.add_sub_cancel_left]
   have hlt : (i - xs.length) * n + j < news.length := by
    rw [hl, flatten_len hy]
    rw [List.length_append] at hi
    exact Nat.lt_of_lt_of_le (Nat.lt_of_lt_of_le (Nat.add_lt_add_left hj _) (by rw [← Nat.succ_mul]; exact Nat.le_refl _)) (Nat.mul_le_mul_right n (show i - xs.length + 1 ≤ ys.length by omega))
   simp [List.getD, hlt]
 ·by_cases hix : i < xs.length
  ·simp only [if_pos hix]
   rw [List.getElem?_append_left hix] at hi
   exact (h7 i j ds d hi hj).same (hsame _ fun k hf => (h8 i j k hf).2.2)
  ·simp only [if_neg hix]
   rw [List.getElem?_append_right (by omega)] at hi
   have hjn : j < n := by rw [← hy ds (List.mem_of_getElem? hi)]; exact lt_of_some hj
   have hf := flatten_get hy hi hjn
   rw [hj] at hf
   have hlt : (i - xs.length) * n + j < news.length := by rw [hl]; exact lt_of_some hf
   have := g3 _ _ _ (List.getElem?_eq_getElem hlt) hf
   rw [show news.getD ((i - xs.length) * n + j) (.bool true) = news[(i - xs.length) * n + j] by simp [List.getD, hlt]]
   exact (this.wide (P' := fun k => gp ((i - xs.length) * n + j) k ∧ j < n ∧ k < w.heap.size) (fun b hb p => ⟨p, hjn, hb⟩)).same (hsame _ fun k hf => (g1 _ k hf.1).2.1)
 ·by_cases hix : i < xs.length
  ·simp only [if_pos hix] at hf
   obtain ⟨a, b, c⟩ := h8 i j k hf
   exact ⟨a, by have := hg.size; omega, hk' k (by omega) c⟩
  ·simp only [if_neg hix] at hf
   obtain ⟨a, b, c⟩ := g1 _ k hf.1
   exact ⟨a, by have := hg.size; omega, hk' k hf.2.2 b⟩
 ·by_cases hix : i < xs.length <;> by_cases hix' : i' < xs.length
  ·simp only [if_pos hix] at hf
   simp only [if_pos hix'] at hf'
   exact h9 s i j i' j' k hf hf'
  ·simp only [if_pos hix] at hf
   simp only [if_neg hix'] at hf'
   have a := (h8 i j k hf).2.1
   have b := (g1 _ k hf'.1).2.2 s
   omega
  ·simp only [if_neg hix] at hf
   simp only [if_pos hix'] at hf'
   have a := (h8 i' j' k hf').2.1
   have b := (g1 _ k hf.1).2.2 s
   omega
  ·simp only [if_neg hix] at hf
   simp only [if_neg hix'] at hf'
   have e := g2 s _ _ k hf.1 hf'.1
   have h1 := hf.2.1
   have h2 := hf'.2.1
   have hd : ∀ a b : Nat, b < n → (a * n + b) / n = a ∧ (a * n + b) % n = b := fun a b hb => by
    have hn : 0 < n := by omega
    rw [Nat.mul_comm]
    exact ⟨by rw [Nat.mul_add_div hn, Nat.div_eq_of_lt hb, Nat.add_zero], by rw [Nat.mul_add_mod, Nat.mod_eq_of_lt hb]⟩
   have d1 := hd (i - xs.length) j h1
   have d2 := hd (i' - xs.length) j' h2
   rw [e] at d1
   omega
/-- append to a row that the call is building. -/
theorem app_own {ops : Array Oper} {rest : List Oper} {o : Oper} {a : Act} {Q : Exit → Act → World → Prop} {w : World} (hgd : o.guard = none) (s x : Operand) (T E : TypeId) (i : TypeInfo) (z : Value) (n bytes : Nat)
  (ho : o.op = .call { callee := .builtin .append, args := #[s, x], argTypes := #[T, T] }) (ht : Try.prog.underlying T = some (.slice E)) (hi : Try.prog.info? E = some i) (hz : i.zero = some z) (hsize : i.size = n) (hby : i.bytes = bytes) (hzs : z.cells.size = n) (hsz : 0 < n)
  (S : Prop) (P : Nat → Prop) (wb : World) (lim : Nat) (v : Value) (xs ys : List (List D)) (k m c : Nat) (hs : a.eval s = v) (h : Own S P E n wb lim w v xs) (hk : xs.length = k) (ad : Addr) (hx : a.eval x = .slice (some ad) m c) (news : List Value)
  (hnews : ∀ j u, news[j]? = some u → w.cell? (ad.add j) = some u) (hy : ∀ ds ∈ ys, ds.length = n) (hm : ys.length = m) (hh : HoldsL S (fun k => P k ∧ v.ownBlock ≠ some k ∧ (S → lim ≤ k)) w news ys.flatten) (h63 : k + m ≤ maxLen) (hbytes : (k + m) * bytes ≤ 140737488355328)
  (K : ∀ ao cv w', Own S P E n wb w'.heap.size w' (.slice ao (k + m) cv) (xs ++ ys) → w.grownBy w' v.ownBlock → wpList Try.prog ops Q rest (a.put o.dst (.slice ao (k + m) cv)) w') : wpList Try.prog ops Q (o :: rest) a w := by
 subst hk
 have hl : news.length = m * n := by rw [hh.1, flatten_len hy, hm]
 have h1 : ∀ u ∈ news, u.oneCell' = true := by
  intro u hu
  obtain ⟨j, hj, rfl⟩ := List.getElem_of_mem hu
  obtain ⟨hl', gp, _, _, g3⟩ := hh
  exact (g3 j _ _ (List.getElem?_eq_getElem hj) (List.getElem?_eq_getElem (by omega))).one
 obtain ⟨cells, cs, fp, h4, _⟩ := h.ex
 obtain ⟨v', w', hr, hown, hg, _⟩ := run_append_own (P := Try.prog) w wb.heap.size T o.type E i z n bytes ht hi hz hsize hby hzs hsz v xs.length cells h4 ad m c news hl hnews h1 h63 hbytes h.bel.size
 have hb := app_block ht hi hz hsize hby hzs hsz h4 hl hnews h1 h63 hbytes hr
 refine wpList_plain hgd fun K' hK => ?_
 unfold Oper.wp execOp
 simp only [ho, resolve, invoke, builtin, Sem.run_bind, Sem.run_pure, Result.andThen_ok, List.map_toArray, List.map_cons, List.map_nil, hs, hx, hr]
 obtain ⟨ao, cv, rfl⟩ := owns_slice hown
 refine hK _ _ (K ao cv w' (h.push hy hm hh hb hg fun cells' hc => ?_) hg)
 have : cells' = cells := ownsRow_det hc h4
 rw [this]; exact hown
end Go.Proofs.Ytdbdlaanhmaabaa
namespace Go.Proofs.Ytdbdlaanhmaabaa
open Go.RowKit Go.PlainAid
theorem Own.made {S : Prop} {P : Nat → Prop} {E : TypeId} {n : Nat} {wb w : World} (hb : Below wb.heap.size wb w) : Own S P E n wb (w.heap.size + 1) (w.alloc (.cells #[] E)) (.slice (some ⟨w.heap.size, 0, none⟩) 0 0) [] := by
 refine ⟨hb.alloc hb.size _, by simp, fun k hk => ?_, [], fun _ _ => .bool true, fun _ _ _ => False, World.ownsRow_made w #[] 0 hb.size (Nat.zero_le _) (by simp), fun i ds h => by simp at h, fun i j h => by simp at h, fun i j ds d h => by simp at h, fun _ _ _ h => h.elim, fun _ _ _ _ _ _ h => h.elim⟩
 simp [Value.ownBlock] at hk; omega
/-- The cells of a slice's elements. -/
theorem Has.news {w : World} {ad : Addr} {m c n : Nat} {ys : List (List D)} (h : Has w (.slice (some ad) m c) (.row n ys)) :
  m = ys.length ∧ (∀ ds ∈ ys, ds.length = n) ∧ ∃ news, (∀ j u, news[j]? = some u → w.cell? (ad.add j) = some u) ∧ HasL w news ys.flatten := by
 by_cases h0 : ys.length = 0
 ·obtain rfl := List.length_eq_zero_iff.1 h0
  obtain ⟨a, cap, e⟩ := Holds.len h
  simp only [Value.slice.injEq] at e
  exact ⟨e.2.1, by simp, [], by simp, hasL_nil _ _ _⟩
 ·cases h with
  | nil => simp at h0
  | row _ _ b off cap n xs cs fp h0 hb hc hP hn hcell hrec hfp hb2 hd =>
   have hy : ∀ ds ∈ ys, ds.length = n := fun ds hds => by obtain ⟨i, hi⟩ := List.mem_iff_getElem?.1 hds; exact hn i ds hi
   have hl := flatten_len hy
   refine ⟨rfl, hy, (List.range (ys.length * n)).map (fun t => cs (t / n) (t % n)), fun j u hu => ?_, by simp [hl], fun _ => All, fun _ _ _ => trivial, fun s => s.elim, fun j c d hc hd => ?_⟩
   ·have hj := lt_of_some hu
    simp at hj
    rw [List.getElem?_map, List.getElem?_range hj] at hu
    simp at hu
    subst hu
    have hn0 : 0 < n := by rcases Nat.eq_zero_or_pos n with rfl | h; simp at hj; exact h
    have := hcell (j / n) (j % n) (Nat.div_lt_of_lt_mul (by rw [Nat.mul_comm]; exact hj)) (Nat.mod_lt _ hn0)
    have e : off + j / n * n + j % n = off + j := by rw [Nat.add_assoc, Nat.mul_comm, Nat.div_add_mod]
    rw [e] at this
    rw [Go.WideShapes.add_plain]; exact this
   ·have hj := lt_of_some hd
    rw [hl] at hj
    rw [List.getElem?_map, List.getElem?_range hj] at hc
    simp at hc
    subst hc
    have hn0 : 0 < n := by rcases Nat.eq_zero_or_pos n with rfl | h; simp at hj; exact h
    obtain ⟨ds, hds⟩ := some_of_lt (l := ys) (i := j / n) (Nat.div_lt_of_lt_mul (by rw [Nat.mul_comm]; exact hj))
    have hf := flatten_get hy hds (Nat.mod_lt j hn0)
    rw [Nat.mul_comm, Nat.div_add_mod, hd] at hf
    exact (hrec _ _ ds d hds hf.symm).weak
theorem Has.none {w : World} {v : Value} {m c n : Nat} {ys : List (List D)} (h : Has w v (.row n ys)) (hv : v = .slice none m c) : ys = [] ∧ m = 0 := by
 cases h with
 | nil => simp at hv; exact ⟨rfl, hv.2.1.symm⟩
 | row => simp at hv
def Flat (ds : List D) : Prop := ∀ d ∈ ds, ∃ v, d = .atom v
theorem HasL.flat {S : Prop} {P : Nat → Prop} {w : World} {cs : List Value} {ds : List D} (h : HasL w cs ds) (hf : Flat ds) : HoldsL S P w cs ds := by
 obtain ⟨h1, fp, h2, h3, h4⟩ := h
 refine ⟨h1, fun _ _ => False, fun _ _ h => h.elim, fun _ _ _ _ h => h.elim, fun j c d hc hd => ?_⟩
 have hh := h4 j c d hc hd
 obtain ⟨v, rfl⟩ := hf d (List.mem_of_getElem? hd)
 have e := hh.val
 subst e
 exact .atom _ _ _ hh.one
theorem flat_ints (xs : List Int) : Flat (xs.map fun a => [dI a]).flatten := by
 intro d hd
 rw [List.mem_flatten] at hd
 obtain ⟨l, hl, hd⟩ := hd
 obtain ⟨p, _, rfl⟩ := List.mem_map.1 hl
 simp at hd
 exact ⟨_, hd⟩
theorem flat_links (L : Lks) : Flat (L.map fun p => [dI p.1, dI p.2]).flatten := by
 intro d hd
 rw [List.mem_flatten] at hd
 obtain ⟨l, hl, hd⟩ := hd
 obtain ⟨p, _, rfl⟩ := List.mem_map.1 hl
 simp at hd
 rcases hd with rfl | rfl <;> exact ⟨_, rfl⟩
/-- append(s, xs...), of a row of plain things. -/
theorem app_rows {ops : Array Oper} {rest : List Oper} {o : Oper} {a : Act} {Q : Exit → Act → World → Prop} {w : World} (hgd : o.guard = none) (s x : Operand) (T E : TypeId) (i : TypeInfo) (z : Value) (n bytes : Nat)
  (ho : o.op = .call { callee := .builtin .append, args := #[s, x], argTypes := #[T, T] }) (ht : Try.prog.underlying T = some (.slice E)) (hi : Try.prog.info? E = some i) (hz : i.zero = some z) (hsize : i.size = n) (hby : i.bytes = bytes) (hzs : z.cells.size = n) (hsz : 0 < n)
  (S : Prop) (P : Nat → Prop) (wb : World) (lim : Nat) (v : Value) (xs ys : List (List D)) (k m c l : Nat) (hs : a.eval s = v) (h : Own S P E n wb lim w v xs) (hk : xs.length = k) (ad : Option Addr) (hx : a.eval x = .slice ad m c) (hy : Has w (.slice ad m c) (.row n ys)) (hf : Flat ys.flatten) (hl : k + m = l) (h63 : l ≤ maxLen) (hbytes : l * bytes ≤ 140737488355328)
  (K : ∀ ao cv w', Own S P E n wb w'.heap.size w' (.slice ao l cv) (xs ++ ys) → w.grownBy w' v.ownBlock → wpList Try.prog ops Q rest (a.put o.dst (.slice ao l cv)) w') : wpList Try.prog ops Q (o :: rest) a w := by
 subst hl
 cases ad with
 | some ad =>
  obtain ⟨hm, hn, news, hnews, hh⟩ := Has.news hy
  exact app_own hgd s x T E i z n bytes ho ht hi hz hsize hby hzs hsz S P wb lim v xs ys k m c hs h hk ad hx news hnews hn hm.symm (hh.flat hf) h63 hbytes K
 | none =>
  obtain ⟨rfl, rfl⟩ := Has.none hy rfl
  obtain ⟨cells, _, _, h4, _⟩ := h.ex
  have hr : (Builtin.append_ #[T, T] o.type #[v, .slice none 0 c]).run Try.prog w = .ok v w := by
   rcases h4.2 with ⟨rfl, hx0⟩ | ⟨g, cap, cur, rfl, _, _, hnc, _⟩
   ·simp [Builtin.append_, run_underlying ht, sizeOf, typeInfo, hi, Builtin.lenOf, Builtin.firstCells]
   ·simp [Builtin.append_, run_underlying ht, sizeOf, typeInfo, hi, Builtin.lenOf, Builtin.firstCells, hnc, storeCells]
  obtain ⟨ao, cv, rfl⟩ := owns_slice h4
  subst hk
  refine wpList_plain hgd fun K' hK => ?_
  unfold Oper.wp execOp
  simp only [ho, resolve, invoke, builtin, Sem.run_bind, Sem.run_pure, Result.andThen_ok, List.map_toArray, List.map_cons, List.map_nil, hs, hx, hr]
  exact hK _ _ (K ao cv w (by rw [List.append_nil]; exact h.lift h.lim_le (Nat.le_refl _)) ⟨rfl, rfl, rfl, Nat.le_refl _, fun _ _ _ => rfl⟩)
theorem SameOn.refl (P : Nat → Prop) (w : World) : SameOn P w w := ⟨Nat.le_refl _, fun _ _ _ => rfl⟩
theorem SameOn.set {P : Nat → Prop} {w w' : World} (h : SameOn P w w') (a : Addr) (v : Value) (hp : ¬ P a.block) : SameOn P w (w'.setCell a v) :=
 ⟨by simpa using h.1, fun b p hb => by rw [Below.heap_setCell _ _ _ _ (by intro e; exact hp (e ▸ p))]; exact h.2 b p hb⟩
theorem SameOn.drewN {P : Nat → Prop} {w w' : World} (h : SameOn P w w') (n : Nat) : SameOn P w (w'.drewN n) := h
theorem SameOn.drew {P : Nat → Prop} {w w' : World} (h : SameOn P w w') : SameOn P w w'.drew := h
end Go.Proofs.Ytdbdlaanhmaabaa
namespace Go.Proofs.Ytdbdlaanhmaabaa
open Go.RowKit Go.PlainAid
theorem run_app {w : World} (T E ty : TypeId) (i : TypeInfo) (z : Value) (n bytes : Nat) (ht : Try.prog.underlying T = some (.slice E)) (hi : Try.prog.info? E = some i) (hz : i.zero = some z) (hsize : i.size = n) (hby : i.bytes = bytes) (hzs : z.cells.size = n) (hsz : 0 < n)
  (S : Prop) (P : Nat → Prop) (wb : World) (lim : Nat) (v : Value) (xs ys : List (List D)) (k m c l : Nat) (h : Own S P E n wb lim w v xs) (hk : xs.length = k) (ad : Option Addr) (news : List Value)
  (hnews : ∀ a, ad = some a → ∀ j u, news[j]? = some u → w.cell? (a.add j) = some u) (hnone : ad = none → m = 0) (hy : ∀ ds ∈ ys, ds.length = n) (hm : ys.length = m) (hh : HoldsL S (fun k => P k ∧ v.ownBlock ≠ some k ∧ (S → lim ≤ k)) w news ys.flatten) (hl : k + m = l) (h63 : l ≤ maxLen) (hbytes : l * bytes ≤ 140737488355328) :
  ∃ ao cv w', (Builtin.append_ #[T, T] ty #[v, .slice ad m c]).run Try.prog w = .ok (.slice ao l cv) w' ∧ Own S P E n wb w'.heap.size w' (.slice ao l cv) (xs ++ ys) ∧ w.grownBy w' v.ownBlock ∧ ((Value.slice ao l cv).ownBlock = v.ownBlock ∨ (Value.slice ao l cv).ownBlock = some w.heap.size) := by
 subst hl hk
 cases ad with
 | some ad =>
  have hll : news.length = m * n := by rw [hh.1, flatten_len hy, hm]
  have h1 : ∀ u ∈ news, u.oneCell' = true := by
   intro u hu
   obtain ⟨j, hj, rfl⟩ := List.getElem_of_mem hu
   obtain ⟨hl', gp, _, _, g3⟩ := hh
   exact (g3 j _ _ (List.getElem?_eq_getElem hj) (List.getElem?_eq_getElem (by omega))).one
  obtain ⟨cells, cs, fp, h4, _⟩ := h.ex
  have hnews' := hnews ad rfl
  obtain ⟨v', w', hr, hown, hg, _⟩ := run_append_own (P := Try.prog) w wb.heap.size T ty E i z n bytes ht hi hz hsize hby hzs hsz v xs.length cells h4 ad m c news hll hnews' h1 h63 hbytes h.bel.size
  have hb := app_block ht hi hz hsize hby hzs hsz h4 hll hnews' h1 h63 hbytes hr
  obtain ⟨ao, cv, rfl⟩ := owns_slice hown
  refine ⟨ao, cv, w', hr, h.push hy hm hh hb hg fun cells' hc => ?_, hg, hb⟩
  have : cells' = cells := ownsRow_det hc h4
  rw [this]; exact hown
 | none =>
  have hm0 := hnone rfl
  subst hm0
  have hy0 : ys = [] := List.eq_nil_of_length_eq_zero hm
  subst hy0
  obtain ⟨cells, _, _, h4, _⟩ := h.ex
  have hr : (Builtin.append_ #[T, T] ty #[v, .slice none 0 c]).run Try.prog w = .ok v w := by
   rcases h4.2 with ⟨rfl, hx0⟩ | ⟨g, cap, cur, rfl, _, _, hnc, _⟩
   ·simp [Builtin.append_, run_underlying ht, sizeOf, typeInfo, hi, Builtin.lenOf, Builtin.firstCells]
   ·simp [Builtin.append_, run_underlying ht, sizeOf, typeInfo, hi, Builtin.lenOf, Builtin.firstCells, hnc, storeCells]
  obtain ⟨ao, cv, rfl⟩ := owns_slice h4
  exact ⟨ao, cv, w, hr, by rw [List.append_nil]; exact h.lift h.lim_le (Nat.le_refl _), ⟨rfl, rfl, rfl, Nat.le_refl _, fun _ _ _ => rfl⟩, .inl rfl⟩
/-- In a list of operations. -/
theorem appL {ops : Array Oper} {rest : List Oper} {o : Oper} {a : Act} {Q : Exit → Act → World → Prop} {w : World} (hgd : o.guard = none) (s x : Operand) (T E : TypeId) (i : TypeInfo) (z : Value) (n bytes : Nat)
  (ho : o.op = .call { callee := .builtin .append, args := #[s, x], argTypes := #[T, T] }) (ht : Try.prog.underlying T = some (.slice E)) (hi : Try.prog.info? E = some i) (hz : i.zero = some z) (hsize : i.size = n) (hby : i.bytes = bytes) (hzs : z.cells.size = n) (hsz : 0 < n)
  (S : Prop) (P : Nat → Prop) (wb : World) (lim : Nat) (v : Value) (xs ys : List (List D)) (k m c l : Nat) (hs : a.eval s = v) (h : Own S P E n wb lim w v xs) (hk : xs.length = k) (ad : Option Addr) (hx : a.eval x = .slice ad m c) (news : List Value)
  (hnews : ∀ a, ad = some a → ∀ j u, news[j]? = some u → w.cell? (a.add j) = some u) (hnone : ad = none → m = 0) (hy : ∀ ds ∈ ys, ds.length = n) (hm : ys.length = m) (hh : HoldsL S (fun k => P k ∧ v.ownBlock ≠ some k ∧ (S → lim ≤ k)) w news ys.flatten) (hl : k + m = l) (h63 : l ≤ maxLen) (hbytes : l * bytes ≤ 140737488355328)
  (K : ∀ ao cv w', Own S P E n wb w'.heap.size w' (.slice ao l cv) (xs ++ ys) → w.grownBy w' v.ownBlock → ((Value.slice ao l cv).ownBlock = v.ownBlock ∨ (Value.slice ao l cv).ownBlock = some w.heap.size) → wpList Try.prog ops Q rest (a.put o.dst (.slice ao l cv)) w') : wpList Try.prog ops Q (o :: rest) a w := by
 obtain ⟨ao, cv, w', hr, h1, h2, h3⟩ := run_app T E o.type i z n bytes ht hi hz hsize hby hzs hsz S P wb lim v xs ys k m c l h hk ad news hnews hnone hy hm hh hl h63 hbytes
 refine wpList_plain hgd fun K' hK => ?_
 unfold Oper.wp execOp
 simp only [ho, resolve, invoke, builtin, Sem.run_bind, Sem.run_pure, Result.andThen_ok, List.map_toArray, List.map_cons, List.map_nil, hs, hx, hr]
 exact hK _ _ (K ao cv w' h1 h2 h3)
/-- At a step of a drawn region. -/
theorem appS {ops : Array Oper} {o : Oper} {a : Act} {K : Act → World → Prop} {Q : Exit → Act → World → Prop} {F : Prop} {w : World} (hgd : o.guard = none) (s x : Operand) (T E : TypeId) (i : TypeInfo) (z : Value) (n bytes : Nat)
  (ho : o.op = .call { callee := .builtin .append, args := #[s, x], argTypes := #[T, T] }) (ht : Try.prog.underlying T = some (.slice E)) (hi : Try.prog.info? E = some i) (hz : i.zero = some z) (hsize : i.size = n) (hby : i.bytes = bytes) (hzs : z.cells.size = n) (hsz : 0 < n)
  (S : Prop) (P : Nat → Prop) (wb : World) (lim : Nat) (v : Value) (xs ys : List (List D)) (k m c l : Nat) (hs : a.eval s = v) (h : Own S P E n wb lim w v xs) (hk : xs.length = k) (ad : Option Addr) (hx : a.eval x = .slice ad m c) (news : List Value)
  (hnews : ∀ a, ad = some a → ∀ j u, news[j]? = some u → w.cell? (a.add j) = some u) (hnone : ad = none → m = 0) (hy : ∀ ds ∈ ys, ds.length = n) (hm : ys.length = m) (hh : HoldsL S (fun k => P k ∧ v.ownBlock ≠ some k ∧ (S → lim ≤ k)) w news ys.flatten) (hl : k + m = l) (h63 : l ≤ maxLen) (hbytes : l * bytes ≤ 140737488355328)
  (H : ∀ ao cv w', Own S P E n wb w'.heap.size w' (.slice ao l cv) (xs ++ ys) → w.grownBy w' v.ownBlock → ((Value.slice ao l cv).ownBlock = v.ownBlock ∨ (Value.slice ao l cv).ownBlock = some w.heap.size) → K (a.put o.dst (.slice ao l cv)) w') :
  if Region.wanted o (yielded ops a.tmps) = true then Oper.wp Try.prog o a w K Q else F := by
 have hw : Region.wanted o (yielded ops a.tmps) = true := by simp [Region.wanted, hgd]
 rw [if_pos hw]
 obtain ⟨ao, cv, w', hr, h1, h2, h3⟩ := run_app T E o.type i z n bytes ht hi hz hsize hby hzs hsz S P wb lim v xs ys k m c l h hk ad news hnews hnone hy hm hh hl h63 hbytes
 unfold Oper.wp execOp
 simp only [ho, resolve, invoke, builtin, Sem.run_bind, Sem.run_pure, Result.andThen_ok, List.map_toArray, List.map_cons, List.map_nil, hs, hx, hr]
 exact H ao cv w' h1 h2 h3
/-- The front of a row. -/
theorem Holds.take {S : Prop} {P : Nat → Prop} {w : World} {a : Option Addr} {len cap n m : Nat} {xs : List (List D)} (h : Holds S P w (.slice a len cap) (.row n xs)) (hm : m ≤ xs.length) : Holds S P w (.slice a m cap) (.row n (xs.take m)) := by
 by_cases h0 : m = 0
 ·subst h0
  rw [List.take_zero]
  refine .nil _ _ _ _ _ (fun s => ?_)
  cases h with
  | nil _ _ _ _ _ hop => exact hop s
  | row _ _ b off cap n xs cs fp h1 hb hc hP hn hcell hrec hfp hb2 hd hop =>
   obtain ⟨rfl, h2⟩ := hop s
   exact .inr ⟨b, rfl, hP, hb, h2⟩
 ·cases h with
  | nil => simp at hm; omega
  | row _ _ b off cap n xs cs fp h1 hb hc hP hn hcell hrec hfp hb2 hd hop =>
   have e : m = (xs.take m).length := by simp; omega
   have ht : ∀ (i : Nat) (ds : List D), (xs.take m)[i]? = some ds → xs[i]? = some ds := fun i ds h => by
    rw [List.getElem?_take] at h
    split at h
    ·exact h
    ·cases h
   have := Holds.row P w b off cap n (xs.take m) cs fp (by omega) hb (by omega) hP (fun i ds h => hn i ds (ht i ds h)) (fun i j hi hj => hcell i j (by omega) hj) (fun i j ds d h1 h2 => hrec i j ds d (ht i ds h1) h2) hfp hb2 hd hop
   rw [← e] at this
   exact this
/-- What is appended from a slice of plain things. -/
theorem newsOf {w : World} {ad : Option Addr} {m c n : Nat} {ys : List (List D)} (h : Has w (.slice ad m c) (.row n ys)) (hn : ∀ ds ∈ ys, ds.length = n) (hf : Flat ys.flatten) :
  ys.length = m ∧ (ad = none → m = 0) ∧ ∃ news, (∀ a, ad = some a → ∀ j u, news[j]? = some u → w.cell? (a.add j) = some u) ∧ ∀ S P, HoldsL S P w news ys.flatten := by
 cases ad with
 | some ad =>
  obtain ⟨hm, _, news, h1, h2⟩ := Has.news h
  exact ⟨hm.symm, fun e => (by cases e), news, fun a e => (by cases e; exact h1), fun S P => h2.flat hf⟩
 | none =>
  obtain ⟨rfl, rfl⟩ := Has.none h rfl
  exact ⟨rfl, fun _ => rfl, [], fun a e => (by cases e), fun S P => hasL_nil S P w⟩
theorem grown_at {w w' : World} {row : Option Nat} (hg : w.grownBy w' row) {b i : Nat} {v : Value} (hne : row ≠ some b) (h : w.cell? ⟨b, i, none⟩ = some v) : w'.cell? ⟨b, i, none⟩ = some v :=
 (World.cell?_of_block (hg.block b (World.block_lt_of_cell? w _ h) (fun e => hne e.symm))).trans h
theorem grown_frozen {w w' : World} {row : Option Nat} (hg : w.grownBy w' row) {b i : Nat} {r : Bool} (hne : row ≠ some b) (hb : b < w.heap.size) (h : w.frozen? ⟨b, i, none⟩ = r) : w'.frozen? ⟨b, i, none⟩ = r :=
 (World.frozen?_of_block (w := w) (hg.block b hb (fun e => hne e.symm))).trans h
/-- A store in a block that is no part of the row. -/
theorem Own.set {S : Prop} {P : Nat → Prop} {E : TypeId} {n lim : Nat} {wb w : World} {v : Value} {xs : List (List D)} (h : Own S P E n wb lim w v xs) (a : Addr) (u : Value) (hP : ¬ P a.block) (hb : wb.heap.size ≤ a.block) (hv : v.ownBlock ≠ some a.block) : Own S P E n wb lim (w.setCell a u) v xs := by
 obtain ⟨h1, h2, h3, cells, cs, fp, h4, h5, h6, h7, h8, h9⟩ := h
 refine ⟨h1.setCell hb _, by rw [World.size_setCell]; exact h2, h3, cells, cs, fp, ?_, h5, h6, fun i j ds d e1 e2 => (h7 i j ds d e1 e2).same ((SameOn.refl _ _).set a u (fun hf => hP (h8 i j _ hf).1)), h8, h9⟩
 exact ownsRow_setCell_other h4 hv _
end Go.Proofs.Ytdbdlaanhmaabaa
namespace Go.Proofs.Ytdbdlaanhmaabaa
open Go.RowKit Go.PlainAid
/-- A row under way: what it holds and the row itself lie in blocks of P. -/
structure Bld (S : Prop) (P : Nat → Prop) (E : TypeId) (n : Nat) (wb : World) (lim : Nat) (w : World) (v : Value) (xs : List (List D)) : Prop where
 own : Own S P E n wb lim w v xs
 inP : ∀ k, v.ownBlock = some k → P k
theorem Bld.later {S : Prop} {P : Nat → Prop} {E : TypeId} {n lim : Nat} {wb w w' : World} {v : Value} {xs : List (List D)} (h : Bld S P E n wb lim w v xs) (hb : Below w.heap.size w w') : Bld S P E n wb lim w' v xs := ⟨h.own.later hb, h.inP⟩
theorem Bld.set {S : Prop} {P : Nat → Prop} {E : TypeId} {n lim : Nat} {wb w : World} {v : Value} {xs : List (List D)} (h : Bld S P E n wb lim w v xs) (a : Addr) (u : Value) (hP : ¬ P a.block) (hb : wb.heap.size ≤ a.block) : Bld S P E n wb lim (w.setCell a u) v xs :=
 ⟨h.own.set a u hP hb (fun e => hP (h.inP _ e)), h.inP⟩
theorem Bld.holds {S : Prop} {P : Nat → Prop} {E : TypeId} {n lim : Nat} {wb w : World} {v : Value} {xs : List (List D)} (h : Bld S P E n wb lim w v xs) : Holds S P w v (.row n xs) := h.own.holds h.inP
theorem Bld.of {S : Prop} {P : Nat → Prop} {E : TypeId} {n lim : Nat} {wb w w' : World} {v v' : Value} {xs : List (List D)} (h : Own S P E n wb lim w' v' xs) (hv : ∀ k, v.ownBlock = some k → P k) (hb : v'.ownBlock = v.ownBlock ∨ v'.ownBlock = some w.heap.size) (hP : P w.heap.size) : Bld S P E n wb lim w' v' xs :=
 ⟨h, fun k hk => by
  rcases hb with hb | hb
  ·exact hv k (by rw [← hb]; exact hk)
  ·rw [hb] at hk; cases hk; exact hP⟩
theorem capOf {S : Prop} {P : Nat → Prop} {w : World} {a : Option Addr} {len cap n : Nat} {xs : List (List D)} (h : Holds S P w (.slice a len cap) (.row n xs)) : len ≤ cap := by
 cases h with
 | nil => omega
 | row => assumption
theorem newsLater {w w' : World} {ad : Option Addr} {news : List Value} (h : ∀ a, ad = some a → ∀ j u, news[j]? = some u → w.cell? (a.add j) = some u) (hb : Below w.heap.size w w') : ∀ a, ad = some a → ∀ j u, news[j]? = some u → w'.cell? (a.add j) = some u :=
 fun a ha j u hu => (hb.cell (World.block_lt_of_cell? w _ (h a ha j u hu))).trans (h a ha j u hu)
theorem frozen_two (w : World) (c c' : Array Value) (t t' : TypeId) (i : Nat) : (((w.alloc (.cells c t)).alloc (.cells c' t')).drew).frozen? ⟨w.heap.size, i, none⟩ = false := by
 show ((w.alloc (.cells c t)).alloc (.cells c' t')).frozen? ⟨w.heap.size, i, none⟩ = false
 rw [frozen?_alloc_cells, frozen?_alloc_cells]
 simp [World.frozen?]
theorem frozen_new (w : World) (c : Array Value) (t : TypeId) (i : Nat) : (w.alloc (.cells c t)).frozen? ⟨w.heap.size, i, none⟩ = false := by
 rw [frozen?_alloc_cells]
 simp [World.frozen?]
/-- A row of plain things: no block but its own counts. -/
theorem Own.flat {S : Prop} {P P' : Nat → Prop} {E : TypeId} {n lim : Nat} {wb w : World} {v : Value} {xs : List (List D)} (h : Own S P E n wb lim w v xs) (hf : Flat xs.flatten) (hP : ∀ k, v.ownBlock = some k → P' k) : Holds S P' w v (.row n xs) := by
 obtain ⟨h1, h2, h3, cells, cs, fp, h4, h5, h6, h7, h8, h9⟩ := h
 by_cases h0 : xs.length = 0
 ·obtain ⟨a, c, rfl⟩ := owns_slice h4
  obtain rfl := List.length_eq_zero_iff.1 h0
  refine .nil _ _ _ _ _ (fun _ => ?_)
  rcases h4.2 with ⟨e, _⟩ | ⟨g, cap, cur, e, hge, hg, hle, hmx, hcz, _⟩
  ·simp at e; exact .inl e.2
  ·simp at e
   obtain ⟨rfl, rfl⟩ := e
   exact .inr ⟨g, rfl, hP g rfl, lt_of_block hg, hmx, cur, E, hg, hcz⟩
 ·have hcell := fun g => h4.cells (g := g)
  rcases h4.2 with ⟨_, e⟩ | ⟨g, cap, cur, rfl, hge, hg, hle, hmx, hcz, _⟩
  ·exact absurd e h0
  ·refine .row P' w g 0 cap n xs cs (fun _ _ _ => False) (by omega) (lt_of_block hg) hle (hP g rfl) h5 (fun i j hi hj => ?_) (fun i j ds d hi hj => ?_) (fun i j k hf => hf.elim) (fun s i j hf => hf) (fun _ _ _ _ _ _ hf => hf.elim) (fun _ => ⟨rfl, hmx, cur, E, hg, hcz⟩)
   ·have := hcell g rfl _ _ (h6 i j hi hj)
    have e : (⟨g, 0, none⟩ : Addr).add (i * n + j) = ⟨g, 0 + i * n + j, none⟩ := by unfold Addr.add; split <;> simp_all
    rw [e] at this; exact this
   ·have hh := h7 i j ds d hi hj
    have hjn : j < n := by rw [← h5 i ds hi]; exact lt_of_some hj
    have hm := flatten_get (n := n) (fun ds hds => by obtain ⟨q, hq⟩ := List.mem_iff_getElem?.1 hds; exact h5 q ds hq) hi hjn
    rw [hj] at hm
    obtain ⟨u, rfl⟩ := hf d (List.mem_of_getElem? hm)
    have e := hh.val
    rw [e]
    have h1 := hh.one
    rw [e] at h1
    exact .atom _ _ _ h1
/-- A box's field. -/
structure Fld (S : Prop) (P : Nat → Prop) (E : TypeId) (n : Nat) (wb w : World) (b o : Nat) (v : Value) (xs : List (List D)) : Prop where
 cell : w.cell? ⟨b, o, none⟩ = some v
 frz : w.frozen? ⟨b, o, none⟩ = false
 bld : Bld S P E n wb w.heap.size w v xs
 out : ¬ P b
 ge : wb.heap.size ≤ b
theorem Fld.below {S : Prop} {P : Nat → Prop} {E : TypeId} {n : Nat} {wb w w' : World} {b o : Nat} {v : Value} {xs : List (List D)} (h : Fld S P E n wb w b o v xs) (hb : Below w.heap.size w w') : Fld S P E n wb w' b o v xs :=
 ⟨(hb.cell (World.block_lt_of_cell? w _ h.cell)).trans h.cell, (hb.frozen (World.block_lt_of_cell? w _ h.cell)).trans h.frz, ⟨(h.bld.own.later hb).lift hb.size (Nat.le_refl _), h.bld.inP⟩, h.out, h.ge⟩
theorem Fld.push {S : Prop} {P : Nat → Prop} {E : TypeId} {n : Nat} {wb w w5 w6 : World} {b o : Nat} {v v' : Value} {xs ys : List (List D)} (h : Fld S P E n wb w b o v xs) (hb : Below w.heap.size w w5) (hO : Own S P E n wb w6.heap.size w6 v' ys) (hg : w5.grownBy w6 v.ownBlock)
  (hv : v'.ownBlock = v.ownBlock ∨ v'.ownBlock = some w5.heap.size) (hP : P w5.heap.size) : Fld S P E n wb (w6.setCell ⟨b, o, none⟩ v') b o v' ys ∧ w6.cell? ⟨b, o, none⟩ = some v ∧ w6.frozen? ⟨b, o, none⟩ = false ∧ Below wb.heap.size wb (w6.setCell ⟨b, o, none⟩ v') ∧
   (∀ Q : Nat → Prop, (∀ k, Q k → ¬ P k) → ¬ Q b → SameOn Q w5 (w6.setCell ⟨b, o, none⟩ v')) ∧ (∀ (c : Addr) (u : Value), w5.cell? c = some u → ¬ P c.block → c ≠ ⟨b, o, none⟩ → (w6.setCell ⟨b, o, none⟩ v').cell? c = some u) ∧ (∀ c : Addr, c.block < w5.heap.size → ¬ P c.block → (w6.setCell ⟨b, o, none⟩ v').frozen? c = w5.frozen? c) := by
 have hne : ∀ k, ¬ P k → v.ownBlock ≠ some k := fun k hk e => hk (h.bld.inP k e)
 have e1 := (h.below hb).cell
 have e2 := (h.below hb).frz
 have c6 := grown_at hg (hne b h.out) e1
 have f6 := grown_frozen hg (hne b h.out) (World.block_lt_of_cell? w5 _ e1) e2
 have hB := Bld.of hO h.bld.inP hv hP
 refine ⟨⟨World.cell?_setCell_same w6 _ _ c6, by rw [World.frozen?_setCell]; exact f6, ?_, h.out, h.ge⟩, c6, f6, hO.bel.setCell h.ge _, fun Q hQ hb' => ⟨?_, fun k hk hlt => ?_⟩, fun c u hu hP' hc => ?_, fun c hc hP' => ?_⟩
 ·have := hB.set ⟨b, o, none⟩ v' h.out h.ge
  rw [World.size_setCell]
  exact this
 ·rw [World.size_setCell]; exact hg.size
 ·rw [Below.heap_setCell _ _ _ _ (by intro e; subst e; exact hb' hk)]
  exact hg.block k hlt (fun e => hne k (hQ k hk) e.symm)
 ·rw [World.cell?_setCell_other w6 _ _ _ (fun e => hc e.symm)]
  exact (World.cell?_of_block (hg.block c.block (World.block_lt_of_cell? w5 _ hu) (fun e => hne _ hP' e.symm))).trans hu
 ·rw [World.frozen?_setCell]
  exact World.frozen?_of_block (w := w5) (hg.block c.block hc (fun e => hne _ hP' e.symm))
end Go.Proofs.Ytdbdlaanhmaabaa

