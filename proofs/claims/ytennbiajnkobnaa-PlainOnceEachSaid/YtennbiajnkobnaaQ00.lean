/- Texts put together. -/
import Derived.Lib.Hide
import Derived.Test.YtennbiajnkobnaaRows
import Derived.WalkKit
import Derived.WalkSpells
import Derived.WalkLawsBesides
import Derived.OneCell
import Derived.PlainAid
import Derived.Deep.QuietTactic
import Derived.BigQuiet
import Derived.Sort.Grow
import Derived.Deep.Draws
import Derived.Deep.RegionHeld3
import Derived.Deep.DrawnRows
import Derived.Handy
import Derived.Laws.CopyOwn
import Derived.Laws.MakeOwn
import Derived.Deep.RegionLaw
namespace Go.Proofs.Ytennbiajnkobnaa
abbrev Lks := List (Int × Int)
def lk (L : Lks) (i : Nat) : Int × Int := L.getD i (0, 0)
theorem lk_mem {L : Lks} {i : Nat} (h : i < L.length) : lk L i ∈ L := by
 unfold lk; simp only [List.getD, List.getElem?_eq_getElem h, Option.getD_some]; exact List.getElem_mem h
theorem mem_lk {L : Lks} {p : Int × Int} (h : p ∈ L) : ∃ i, i < L.length ∧ lk L i = p := by
 obtain ⟨i, hi, rfl⟩ := List.getElem_of_mem h
 exact ⟨i, hi, by simp [lk, List.getD, hi]⟩
/-- The first place of a link; -1: there is none. -/
def findFrom : Lks → Int × Int → Nat → Int
 | [], _, _ => -1
 | q :: r, p, i => if q = p then i else findFrom r p (i + 1)
def findL (L : Lks) (p : Int × Int) : Int := findFrom L p 0
theorem findFrom_hit (p : Int × Int) : ∀ (L : Lks) (i k : Nat), k < L.length → lk L k = p → (∀ j, j < k → lk L j ≠ p) → findFrom L p i = ((i + k : Nat) : Int)
 | [], _, _, h, _, _ => by simp at h
 | q :: r, i, 0, _, h, _ => by
  have : q = p := by simpa [lk] using h
  simp [findFrom, this]
 | q :: r, i, k + 1, hk, h, hj => by
  have hq : q ≠ p := by simpa [lk] using hj 0 (by omega)
  have ih := findFrom_hit p r (i + 1) k (by simpa using hk) (by simpa [lk] using h) (fun j hjk => by simpa [lk] using hj (j + 1) (by omega))
  simp only [findFrom, if_neg hq, ih]
  congr 1
  omega
theorem findFrom_miss (p : Int × Int) : ∀ (L : Lks) (i : Nat), (∀ j, j < L.length → lk L j ≠ p) → findFrom L p i = -1
 | [], _, _ => rfl
 | q :: r, i, hj => by
  have hq : q ≠ p := by simpa [lk] using hj 0 (by simp)
  simp only [findFrom, if_neg hq]
  exact findFrom_miss p r (i + 1) (fun j h => by simpa [lk] using hj (j + 1) (by simpa using h))
theorem findL_hit {p : Int × Int} {L : Lks} {k : Nat} (hk : k < L.length) (h : lk L k = p) (hj : ∀ j, j < k → lk L j ≠ p) : findL L p = (k : Int) := by
 unfold findL; rw [findFrom_hit p L 0 k hk h hj]; simp
theorem findL_miss {p : Int × Int} {L : Lks} (hj : ∀ j, j < L.length → lk L j ≠ p) : findL L p = -1 := findFrom_miss p L 0 hj
theorem findL_cases (L : Lks) (p : Int × Int) : (∃ k, k < L.length ∧ lk L k = p ∧ (∀ j, j < k → lk L j ≠ p) ∧ findL L p = (k : Int)) ∨ (p ∉ L ∧ findL L p = -1) := by
 by_cases h : ∃ k, k < L.length ∧ lk L k = p
 ·have key : ∀ n : Nat, ∀ k, k ≤ n → k < L.length → lk L k = p → ∃ k, k < L.length ∧ lk L k = p ∧ (∀ j, j < k → lk L j ≠ p) := by
   intro n
   induction n with
   | zero => intro k hk h1 h2; exact ⟨k, h1, h2, fun j hj => by omega⟩
   | succ n ih =>
    intro k hk h1 h2
    by_cases hm : ∃ j, j < k ∧ lk L j = p
    ·obtain ⟨j, hj, he⟩ := hm
     exact ih j (by omega) (by omega) he
    ·exact ⟨k, h1, h2, fun j hj he => hm ⟨j, hj, he⟩⟩
  obtain ⟨k, hk, he⟩ := h
  obtain ⟨k', a, b, c⟩ := key k k (Nat.le_refl _) hk he
  exact .inl ⟨k', a, b, c, findL_hit a b c⟩
 ·refine .inr ⟨fun hm => h ?_, findL_miss fun j hj he => h ⟨j, hj, he⟩⟩
  obtain ⟨i, hi, he⟩ := mem_lk hm
  exact ⟨i, hi, he⟩
theorem findL_neg {L : Lks} {p : Int × Int} : findL L p < 0 ↔ p ∉ L := by
 rcases findL_cases L p with ⟨k, a, b, c, d⟩ | ⟨a, b⟩
 ·rw [d]
  constructor
  ·intro h; omega
  ·intro h; exact absurd (b ▸ lk_mem a) h
 ·rw [b]; simp [a]
/-- The places, below k, that are wanted. -/
def selL (p : Nat → Bool) (k : Nat) : List Int := ((List.range k).filter p).map Int.ofNat
theorem selL_succ (p : Nat → Bool) (k : Nat) : selL p (k + 1) = if p k then selL p k ++ [(k : Int)] else selL p k := by
 unfold selL
 rw [List.range_succ, List.filter_append, List.map_append]
 by_cases h : p k <;> simp [h]
theorem selL_length (p : Nat → Bool) (k : Nat) : (selL p k).length ≤ k := by
 unfold selL
 rw [List.length_map]
 exact Nat.le_trans (List.length_filter_le _ _) (by simp)
theorem mem_selL {p : Nat → Bool} {k : Nat} {x : Int} : x ∈ selL p k ↔ ∃ i, i < k ∧ p i = true ∧ x = (i : Int) := by
 unfold selL
 simp only [List.mem_map, List.mem_filter, List.mem_range]
 constructor
 ·rintro ⟨i, ⟨h1, h2⟩, rfl⟩; exact ⟨i, h1, h2, rfl⟩
 ·rintro ⟨i, h1, h2, rfl⟩; exact ⟨i, ⟨h1, h2⟩, rfl⟩
/-- A way of so many links. -/
def Way (L : Lks) : Nat → Int → Int → Prop
 | 0, a, b => a = b
 | k + 1, a, b => ∃ c, Way L k a c ∧ (c, b) ∈ L
/-- How far a node is, k links, and no fewer. -/
def Far (L : Lks) (k : Nat) (a b : Int) : Prop := Way L k a b ∧ ∀ j, j < k → ¬ Way L j a b
theorem Far.eq {L : Lks} {j k : Nat} {a b : Int} (h : Far L j a b) (h' : Far L k a b) : j = k := by
 rcases Nat.lt_trichotomy j k with g | g | g
 ·exact absurd h.1 (h'.2 j g)
 ·exact g
 ·exact absurd h'.1 (h.2 k g)
theorem far_of_way {L : Lks} {a b : Int} : ∀ {k : Nat}, Way L k a b → ∃ j, j ≤ k ∧ Far L j a b := by
 intro k
 induction k using Nat.strongRecOn with
 | ind k ih =>
  intro h
  by_cases hm : ∃ j, j < k ∧ Way L j a b
  ·obtain ⟨j, hj, hw⟩ := hm
   obtain ⟨i, hi, hf⟩ := ih j hj hw
   exact ⟨i, by omega, hf⟩
  ·exact ⟨k, Nat.le_refl _, h, fun j hj hw => hm ⟨j, hj, hw⟩⟩
def nd (d : List Int) (y : Int) : Int := d.getD y.toNat (-1)
/-- What Dist tells, of nodes 0 to n - 1. -/
def IsDist (n : Nat) (L : Lks) (a : Int) (d : List Int) : Prop :=
 d.length = n ∧ ∀ y : Nat, y < n → (∃ k : Nat, d.getD y (-1) = (k : Int) ∧ Far L k a y) ∨ (d.getD y (-1) = -1 ∧ ∀ k, ¬ Way L k a y)
theorem IsDist.eq {n : Nat} {L : Lks} {a : Int} {d e : List Int} (h : IsDist n L a d) (h' : IsDist n L a e) : d = e := by
 apply List.ext_getElem (by rw [h.1, h'.1])
 intro i h1 h2
 have hi : i < n := by rw [← h.1]; exact h1
 have g1 : d.getD i (-1) = d[i] := by simp [List.getD, h1]
 have g2 : e.getD i (-1) = e[i] := by simp [List.getD, h2]
 rw [← g1, ← g2]
 rcases h.2 i hi with ⟨k, a1, a2⟩ | ⟨a1, a2⟩
 ·rcases h'.2 i hi with ⟨k', b1, b2⟩ | ⟨b1, b2⟩
  ·rw [a1, b1, a2.eq b2]
  ·exact absurd a2.1 (b2 k)
 ·rcases h'.2 i hi with ⟨k', b1, b2⟩ | ⟨b1, b2⟩
  ·exact absurd b2.1 (a2 k')
  ·rw [a1, b1]
/-- Each link is between nodes. -/
def InR (n : Nat) (L : Lks) : Prop := ∀ p ∈ L, 0 ≤ p.1 ∧ p.1 < n ∧ 0 ≤ p.2 ∧ p.2 < n
end Go.Proofs.Ytennbiajnkobnaa
namespace Go.Proofs.Ytennbiajnkobnaa
open Go.RowKit Go.PlainAid
theorem owns_slice {w : World} {base : Nat} {e : TypeId} {size : Nat} {v : Value} {n : Nat} {xs : List Value} (h : w.ownsRow base e size v n xs) : ∃ ao cap, v = .slice ao n cap := by
 rcases h.2 with ⟨hv, h0⟩ | ⟨g, cap, cur, hv, _⟩
 ·exact ⟨none, 0, by rw [hv, h0]⟩
 ·exact ⟨_, _, hv⟩
theorem below_step {B : Nat} {w w1 w2 : World} (hB : B ≤ w1.heap.size) (h1 : Below B w w1) (h2 : Below w1.heap.size w1 w2) : Below B w w2 := h1.trans (h2.mono hB)
theorem lt_of_block {w : World} {b : Nat} {o : Obj} (h : w.heap[b]? = some o) : b < w.heap.size := (Array.getElem?_eq_some_iff.1 h).1
theorem below_drewN {B : Nat} {a w : World} (h : Below B a w) (n : Nat) : Below B a (w.drewN n) := h.trans ⟨rfl, rfl, rfl, Nat.le_refl _, fun _ _ => rfl⟩
/-- A slice of links in memory. -/
def LinksAt (w : World) (v : Value) (L : Lks) : Prop :=
 (∃ a cap, v = .slice a 0 cap ∧ L = []) ∨
 ∃ b off len cap, v = .slice (some ⟨b, off, none⟩) len cap ∧ L.length = len ∧ 0 < len ∧ b < w.heap.size ∧ len ≤ cap ∧
  ∀ i, i < len → w.cell? ⟨b, off + i * 2, none⟩ = some (.int .i64 (lk L i).1) ∧ w.cell? ⟨b, off + i * 2 + 1, none⟩ = some (.int .i64 (lk L i).2)
theorem LinksAt.below {w w' : World} {v : Value} {L : Lks} (h : LinksAt w v L) (hb : Below w.heap.size w w') : LinksAt w' v L := by
 rcases h with h | ⟨b, off, len, cap, h1, h2, h3, h4, h6, h5⟩
 ·exact .inl h
 ·exact .inr ⟨b, off, len, cap, h1, h2, h3, by have := hb.size; omega, h6, fun i hi => ⟨(hb.cell (by exact h4)).trans (h5 i hi).1, (hb.cell (by exact h4)).trans (h5 i hi).2⟩⟩
theorem sizeInt (w : World) : (sizeOf 3).run Try.prog w = .ok 1 w := by kernel_rfl
theorem run_eqPair (w : World) (a b c d : Int) : (Op.equalIn 10000 131 (.agg #[.int .i64 a, .int .i64 b]) (.agg #[.int .i64 c, .int .i64 d])).run Try.prog w = .ok (a == c && b == d) w := by
 rw [Op.equalIn]
 simp only [Sem.run_bind, run_underlying Try.underlying131, Result.andThen_ok, sizeInt, Std.Legacy.Range.forIn_eq_forIn_range', Std.Legacy.Range.size, Nat.sub_zero, Nat.add_sub_cancel, Nat.div_one]
 have e1 : List.range' 0 2 1 = [0, 1] := rfl
 rw [e1]
 have p0 : ∀ x y : Int, (part 3 #[.int .i64 x, .int .i64 y] (0 * 1)).run Try.prog w = .ok (.int .i64 x) w := fun x y => by simp [part, isAgg, run_underlying Try.underlying3]
 have p1 : ∀ x y : Int, (part 3 #[.int .i64 x, .int .i64 y] (1 * 1)).run Try.prog w = .ok (.int .i64 y) w := fun x y => by simp [part, isAgg, run_underlying Try.underlying3]
 have pe : ∀ x y : Int, (Op.equalIn 9999 3 (.int .i64 x) (.int .i64 y)).run Try.prog w = .ok (x == y) w := fun x y => run_equalIn_int w 9998 _ .i64 .i64 x y Try.underlying3
 simp only [List.forIn_cons, List.forIn_nil, Sem.run_bind, p0, pe, Result.andThen_ok]
 cases h1 : (a == c) <;> simp only [Bool.not_true, Bool.not_false, Bool.false_eq_true, if_false, if_true, Sem.run_pure, Result.andThen_ok, p1, pe, Sem.run_bind, Bool.true_and, Bool.false_and]
 cases h2 : (b == d) <;> simp only [Bool.not_true, Bool.not_false, Bool.false_eq_true, if_false, if_true, Sem.run_pure, Result.andThen_ok]
attribute [go_sem] run_eqPair
end Go.Proofs.Ytennbiajnkobnaa
namespace Go.Proofs.Ytennbiajnkobnaa
open Go.RowKit Go.PlainAid
def gv (N : Int) (v : Value) : Value := .agg #[.int .i64 N, v]
def pv (p : Int × Int) : Value := .agg #[.int .i64 p.1, .int .i64 p.2]
theorem has_any (N n : Int) (v : Value) (r : Bool) (w : World) (hr : decide (0 ≤ n ∧ n < N) = r) :
  Calls Try.prog 82 #[gv N v, .int .i64 n] w fun e w' => e = .returned (.bool r) ∧ Below w.heap.size w w' := by
 have Hb := Lib.hid ((Below.refl w.heap.size w).alloc (Nat.le_refl _) (.cells #[.int .i64 N, v] 24))
 unfold gv
 by_cases h0 : 0 ≤ n
 ·by_cases h1 : n < N
  ·have hr' : r = true := by rw [← hr]; simp [h0, h1]
   have Hr := Lib.hid hr'
   clear hr hr'
   go_enter Try.func82, Try.ntmps82
   go_wp2_with fail
   go_ret
   exact ⟨by rw [Hr.out]; rfl, Hb.out⟩
  ·have hr' : r = false := by rw [← hr]; simp [h1]
   have Hr := Lib.hid hr'
   clear hr hr'
   go_enter Try.func82, Try.ntmps82
   go_wp2_with fail
   go_ret
   exact ⟨by rw [Hr.out]; rfl, Hb.out⟩
 ·have hr' : r = false := by rw [← hr]; simp [h0]
  have Hr := Lib.hid hr'
  clear hr hr'
  go_enter Try.func82, Try.ntmps82
  go_wp2_with fail
  go_ret
  exact ⟨by rw [Hr.out]; rfl, Hb.out⟩
theorem turned_any (p : Int × Int) (w : World) :
  Calls Try.prog 83 #[pv p] w fun e w' => e = .returned (pv (p.2, p.1)) ∧ Below w.heap.size w w' := by
 obtain ⟨a, b⟩ := p
 unfold pv
 simp only
 go_enter Try.func83, Try.ntmps83
 go_wp2_with fail
 refine bodyPost_ret (v := .agg #[.int .i64 b, .int .i64 a]) (by simp [results, Try.results83, go_sem]) rfl ⟨rfl, ?_⟩
 go_grown
set_option maxHeartbeats 8000000 in
theorem index_some (b off len cap : Nat) (L : Lks) (p : Int × Int) (w : World) (hl : L.length = len) (hb : b < w.heap.size)
  (hc : ∀ i, i < len → w.cell? ⟨b, off + i * 2, none⟩ = some (.int .i64 (lk L i).1) ∧ w.cell? ⟨b, off + i * 2 + 1, none⟩ = some (.int .i64 (lk L i).2)) (hlb : len ≤ 1000000) :
  Calls Try.prog 87 #[.slice (some ⟨b, off, none⟩) len cap, pv p] w fun e w' => e = .returned (.int .i64 (findL L p)) ∧ Below w.heap.size w w' := by
 obtain ⟨x, y⟩ := p
 unfold pv
 simp only
 have hbel := (Below.refl w.heap.size w).alloc (Nat.le_refl _) (.cells #[.int .i64 x, .int .i64 y] 131)
 have hc' : ∀ i, i < len → (w.alloc (.cells #[.int .i64 x, .int .i64 y] 131)).cell? ⟨b, off + i * 2, none⟩ = some (.int .i64 (lk L i).1) ∧ (w.alloc (.cells #[.int .i64 x, .int .i64 y] 131)).cell? ⟨b, off + i * 2 + 1, none⟩ = some (.int .i64 (lk L i).2) :=
  fun i hi => ⟨(hbel.cell (by exact hb)).trans (hc i hi).1, (hbel.cell (by exact hb)).trans (hc i hi).2⟩
 have hx : (w.alloc (.cells #[.int .i64 x, .int .i64 y] 131)).cell? ⟨w.heap.size, 0, none⟩ = some (.int .i64 x) := World.cell?_alloc_at _ _ _ _ rfl
 have hy : (w.alloc (.cells #[.int .i64 x, .int .i64 y] 131)).cell? ⟨w.heap.size, 1, none⟩ = some (.int .i64 y) := World.cell?_alloc_at _ _ _ _ rfl
 have Hc := Lib.hid hc'
 have Hl := Lib.hid hl
 have Hb := Lib.hid hbel
 clear hc hc' hl hbel
 go_enter Try.func87, Try.ntmps87
 go_wp2_with fail
 generalize w.alloc (.cells #[.int .i64 x, .int .i64 y] 131) = wb at *
 go_loopw [8] (fun i wr => ∃ k : Nat, i = .int .i64 k ∧ k ≤ len ∧ (∀ j, j < k → lk L j ≠ (x, y)) ∧ ∃ n, wr = wb.drewN n) (fun i _ => len - (intOf i).toNat)
 case atStart => exact ⟨0, rfl, by omega, fun j hj => by omega, 0, rfl⟩
 case round =>
  obtain ⟨k, rfl, hk, hno, n, rfl⟩ := hrel
  have Hs := Lib.hid hno
  clear hno
  by_cases hlt : k < len
  ·have hlt' : (k : Int) < len := by omega
   obtain ⟨c1, c2⟩ := Hc.out k hlt
   obtain ⟨e1, he1⟩ : ∃ e1, e1 = (lk L k).1 := ⟨_, rfl⟩
   obtain ⟨e2, he2⟩ : ∃ e2, e2 = (lk L k).2 := ⟨_, rfl⟩
   rw [← he1] at c1
   rw [← he2] at c2
   have He1 := Lib.hid he1
   have He2 := Lib.hid he2
   clear he1 he2
   by_cases hq : (x == e1 && y == e2) = true
   ·have Hq := Lib.hid hq
    go_wp2_with fail
    go_quiet (fail)
    go_wp2_with fail
    go_ret
    refine ⟨?_, below_drewN (below_drewN Hb.out _) _⟩
    have hh := Hq.out
    simp only [Bool.and_eq_true, beq_iff_eq] at hh
    rw [findL_hit (L := L) (p := (x, y)) (k := k) (by rw [Hl.out]; exact hlt) (by rw [hh.1, hh.2, He1.out, He2.out]) Hs.out]
    rfl
   ·have Hq := Lib.hid hq
    have hq' : (x == e1 && y == e2) = false := by simpa using hq
    clear hq
    go_wp2_with fail
    go_quiet (fail)
    go_wp2_with fail
    go_roundw
    case rel =>
     refine ⟨k + 1, by go_num, by omega, fun j hj => ?_, _, rfl⟩
     by_cases hjk : j < k
     ·exact Hs.out j hjk
     ·obtain rfl : j = k := by omega
      intro h
      apply Hq.out
      rw [He1.out, He2.out, h]
      simp
    case measure => simp [intOf]; omega
  ·have hlt' : ¬ (k : Int) < len := by omega
   go_wp2_with fail
   go_ret
   refine ⟨?_, below_drewN Hb.out _⟩
   rw [findL_miss (L := L) (p := (x, y)) (fun j hj => Hs.out j (by rw [Hl.out] at hj; omega))]
   rfl
theorem index_any (v : Value) (L : Lks) (p : Int × Int) (w : World) (h : LinksAt w v L) (hn : L.length ≤ 1000000) :
  Calls Try.prog 87 #[v, pv p] w fun e w' => e = .returned (.int .i64 (findL L p)) ∧ Below w.heap.size w w' := by
 rcases h with ⟨a, cap, rfl, rfl⟩ | ⟨b, off, len, cap, rfl, hl, hp, hb, hlc, hc⟩
 ·obtain ⟨x, y⟩ := p
  unfold pv
  simp only
  go_enter Try.func87, Try.ntmps87
  go_wp2_with fail
  refine wp_loop_rounds 1 ?_
  rw [rounds_succ]
  go_wp2_with fail
  go_ret
  exact ⟨rfl, by go_grown⟩
 ·exact index_some b off len cap L p w hl hb hc (by omega)
end Go.Proofs.Ytennbiajnkobnaa
namespace Go.Proofs.Ytennbiajnkobnaa
open Go.RowKit Go.PlainAid
set_option maxHeartbeats 8000000 in
theorem rfind_some (b off len cap : Nat) (L : Lks) (N x y : Int) (w : World) (hl : L.length = len) (hb : b < w.heap.size)
  (hc : ∀ i, i < len → w.cell? ⟨b, off + i * 2, none⟩ = some (.int .i64 (lk L i).1) ∧ w.cell? ⟨b, off + i * 2 + 1, none⟩ = some (.int .i64 (lk L i).2)) (hlb : len ≤ 1000000) :
  Calls Try.prog 58 #[gv N (.slice (some ⟨b, off, none⟩) len cap), .int .i64 x, .int .i64 y] w fun e w' => e = .returned (.int .i64 (findL L (x, y))) ∧ Below w.heap.size w w' := by
 unfold gv
 obtain ⟨wb, hwb⟩ : ∃ wb, wb = w.alloc (.cells #[.int .i64 N, .slice (some ⟨b, off, none⟩) len cap] 35) := ⟨_, rfl⟩
 have hbel : Below w.heap.size w wb := by rw [hwb]; exact (Below.refl w.heap.size w).alloc (Nat.le_refl _) _
 have hc' : ∀ i, i < len → wb.cell? ⟨b, off + i * 2, none⟩ = some (.int .i64 (lk L i).1) ∧ wb.cell? ⟨b, off + i * 2 + 1, none⟩ = some (.int .i64 (lk L i).2) :=
  fun i hi => ⟨(hbel.cell (by exact hb)).trans (hc i hi).1, (hbel.cell (by exact hb)).trans (hc i hi).2⟩
 have hx : wb.cell? ⟨w.heap.size, 1, none⟩ = some (.slice (some ⟨b, off, none⟩) len cap) := by rw [hwb]; exact World.cell?_alloc_at _ _ _ _ rfl
 have Hc := Lib.hid hc'
 have Hl := Lib.hid hl
 have Hb := Lib.hid hbel
 clear hc hc' hl hbel
 go_enter Try.func58, Try.ntmps58
 go_wp2_with fail
 rw [← hwb]
 clear hwb
 go_loopw [7] (fun i wr => ∃ k : Nat, i = .int .i64 k ∧ k ≤ len ∧ (∀ j, j < k → lk L j ≠ (x, y)) ∧ wr = wb) (fun i _ => len - (intOf i).toNat)
 case atStart => exact ⟨0, rfl, by omega, fun j hj => by omega, rfl⟩
 case round =>
  obtain ⟨k, rfl, hk, hno, rfl⟩ := hrel
  have Hs := Lib.hid hno
  clear hno
  by_cases hlt : k < len
  ·have hlt' : (k : Int) < len := by omega
   obtain ⟨c1, c2⟩ := Hc.out k hlt
   obtain ⟨e1, he1⟩ : ∃ e1, e1 = (lk L k).1 := ⟨_, rfl⟩
   obtain ⟨e2, he2⟩ : ∃ e2, e2 = (lk L k).2 := ⟨_, rfl⟩
   rw [← he1] at c1
   rw [← he2] at c2
   have He1 := Lib.hid he1
   have He2 := Lib.hid he2
   clear he1 he2
   by_cases hq : (e1 == x) = true
   ·by_cases hr : (e2 == y) = true
    ·have Hq := Lib.hid hq
     have Hr := Lib.hid hr
     go_wp2_with fail
     go_ret
     refine ⟨?_, Hb.out⟩
     have hh := Hq.out
     have hi := Hr.out
     simp only [beq_iff_eq] at hh hi
     rw [findL_hit (L := L) (p := (x, y)) (k := k) (by rw [Hl.out]; exact hlt) (by rw [← hh, ← hi, He1.out, He2.out]) Hs.out]
     rfl
    ·have Hr := Lib.hid hr
     have hr' : (e2 == y) = false := by simpa using hr
     clear hr
     go_wp2_with fail
     go_roundw
     case rel =>
      refine ⟨k + 1, by go_num, by omega, fun j hj => ?_, trivial⟩
      by_cases hjk : j < k
      ·exact Hs.out j hjk
      ·obtain rfl : j = k := by omega
       intro h
       apply Hr.out
       rw [He2.out, h]
       simp
     case measure => simp [intOf]; omega
   ·have Hq := Lib.hid hq
    have hq' : (e1 == x) = false := by simpa using hq
    clear hq
    go_wp2_with fail
    go_roundw
    case rel =>
     refine ⟨k + 1, by go_num, by omega, fun j hj => ?_, trivial⟩
     by_cases hjk : j < k
     ·exact Hs.out j hjk
     ·obtain rfl : j = k := by omega
      intro h
      apply Hq.out
      rw [He1.out, h]
      simp
    case measure => simp [intOf]; omega
  ·have hlt' : ¬ (k : Int) < len := by omega
   go_wp2_with fail
   go_ret
   refine ⟨?_, Hb.out⟩
   rw [findL_miss (L := L) (p := (x, y)) (fun j hj => Hs.out j (by rw [Hl.out] at hj; omega))]
   rfl
theorem rfind_any (N x y : Int) (v : Value) (L : Lks) (w : World) (h : LinksAt w v L) (hn : L.length ≤ 1000000) :
  Calls Try.prog 58 #[gv N v, .int .i64 x, .int .i64 y] w fun e w' => e = .returned (.int .i64 (findL L (x, y))) ∧ Below w.heap.size w w' := by
 rcases h with ⟨a, cap, rfl, rfl⟩ | ⟨b, off, len, cap, rfl, hl, hp, hb, hlc, hc⟩
 ·unfold gv
  go_enter Try.func58, Try.ntmps58
  go_wp2_with fail
  refine wp_loop_rounds 1 ?_
  rw [rounds_succ]
  go_wp2_with fail
  go_ret
  exact ⟨rfl, by go_grown⟩
 ·exact rfind_some b off len cap L N x y w hl hb hc (by omega)
theorem find_any (N x y : Int) (v : Value) (L : Lks) (w : World) (h : LinksAt w v L) (hn : L.length ≤ 1000000) :
  Calls Try.prog 65 #[gv N v, .int .i64 x, .int .i64 y] w fun e w' => e = .returned (.int .i64 (findL L (x, y))) ∧ Below w.heap.size w w' := by
 have Hb := Lib.hid ((Below.refl w.heap.size w).alloc (Nat.le_refl _) (.cells #[.int .i64 N, v] 24))
 have H := Lib.hid (h.below Hb.out)
 unfold gv
 clear h
 go_enter Try.func65, Try.ntmps65
 go_wp2_with fail
 refine (index_any v L (x, y) _ H.out hn).mono ?_
 rintro e w' ⟨rfl, hb⟩
 have Hb2 := Lib.hid hb
 clear hb
 go_wp2_with fail
 go_ret
 exact ⟨rfl, below_step (by simp) Hb.out Hb2.out⟩
end Go.Proofs.Ytennbiajnkobnaa
namespace Go.Proofs.Ytennbiajnkobnaa
open Go.RowKit Go.PlainAid
theorem LinksAt.at {w : World} {v : Value} {L : Lks} (h : LinksAt w v L) : ∃ a cap, v = .slice a L.length cap := by
 rcases h with ⟨a, cap, rfl, rfl⟩ | ⟨b, off, len, cap, rfl, hl, -⟩
 ·exact ⟨a, cap, rfl⟩
 ·exact ⟨_, cap, by rw [hl]⟩
/-- A boxed graph. -/
theorem boxed (N : Int) (v : Value) (t : TypeId) (L : Lks) (w : World) (h : LinksAt w v L) :
  ∃ wb, wb = w.alloc (.cells #[.int .i64 N, v] t) ∧ Below w.heap.size w wb ∧ LinksAt wb v L ∧ wb.cell? ⟨w.heap.size, 0, none⟩ = some (.int .i64 N) ∧ wb.cell? ⟨w.heap.size, 1, none⟩ = some v ∧ w.heap.size < wb.heap.size := by
 have hb := (Below.refl w.heap.size w).alloc (Nat.le_refl _) (.cells #[.int .i64 N, v] t)
 exact ⟨_, rfl, hb, h.below hb, World.cell?_alloc_at _ _ _ _ rfl, World.cell?_alloc_at _ _ _ _ rfl, by simp⟩
end Go.Proofs.Ytennbiajnkobnaa
namespace Go.Proofs.Ytennbiajnkobnaa
open Go.RowKit Go.PlainAid
/-- A slice of integers in memory. -/
def IntsAt (w : World) (v : Value) (xs : List Int) : Prop :=
 (∃ a cap, v = .slice a 0 cap ∧ xs = []) ∨
 ∃ b off len cap, v = .slice (some ⟨b, off, none⟩) len cap ∧ xs.length = len ∧ 0 < len ∧ b < w.heap.size ∧ len ≤ cap ∧ ∀ i, i < len → w.cell? ⟨b, off + i, none⟩ = some (.int .i64 (xs.getD i 0))
theorem IntsAt.below {w w' : World} {v : Value} {xs : List Int} (h : IntsAt w v xs) (hb : Below w.heap.size w w') : IntsAt w' v xs := by
 rcases h with h | ⟨b, off, len, cap, h1, h2, h3, h4, h6, h5⟩
 ·exact .inl h
 ·exact .inr ⟨b, off, len, cap, h1, h2, h3, by have := hb.size; omega, h6, fun i hi => (hb.cell (by exact h4)).trans (h5 i hi)⟩
theorem IntsAt.owns {w : World} {base : Nat} {e : TypeId} {v : Value} {xs : List Int} (h : w.ownsRow base e 1 v xs.length (xs.map (Value.int .i64))) : IntsAt w v xs := by
 by_cases hx : xs.length = 0
 ·obtain ⟨ao, cap, rfl⟩ := owns_slice h
  exact .inl ⟨ao, cap, by rw [hx], List.length_eq_zero_iff.1 hx⟩
 ·have hc := fun g => h.cells (g := g)
  rcases h.2 with ⟨_, h0⟩ | ⟨g, cap, cur, rfl, _, hg, hle, _⟩
  ·omega
  ·refine .inr ⟨g, 0, xs.length, cap, rfl, rfl, by omega, lt_of_block hg, hle, fun i hi => ?_⟩
   have := hc g rfl i (.int .i64 (xs.getD i 0)) (by simp [List.getD, hi])
   have e : (⟨g, 0, none⟩ : Addr).add i = ⟨g, 0 + i, none⟩ := by unfold Addr.add; split <;> simp_all
   rw [e] at this; exact this
theorem cell_one_at (w : World) (t : TypeId) (g : Nat) (v : Value) (hg : g = w.heap.size) : ∀ j u, [v][j]? = some u → (w.alloc (.cells #[v] t)).cell? ((⟨g, 0, none⟩ : Addr).add j) = some u := by
 subst hg
 intro j u hu
 cases j with
 | zero =>
  simp at hu; subst hu
  exact World.cell?_alloc_at _ _ _ _ rfl
 | succ j => simp at hu
theorem size_alloc (w : World) (o : Obj) : (w.alloc o).heap.size = w.heap.size + 1 := by simp
theorem infoInt : (Try.prog.info? 3).map (fun i => (i.zero, i.size, i.bytes)) = some (some (.int .i64 0), 1, 8) := by kernel_rfl
/-- The places so far, in a row of the call's own. -/
def SelHead (p : Nat → Bool) (w : World) (k : Nat) (v : Value) (wr : World) : Prop :=
 wr.ownsRow w.heap.size 3 1 v (selL p k).length ((selL p k).map (Value.int .i64)) ∧ Below w.heap.size w wr
theorem SelHead.skip {p : Nat → Bool} {w wr w' : World} {k : Nat} {v : Value} (h : SelHead p w k v wr) (hp : p k = false) (hb : Below wr.heap.size wr w') (hw : w.heap.size ≤ wr.heap.size) : SelHead p w (k + 1) v w' := by
 unfold SelHead
 rw [selL_succ, hp]
 simp only [Bool.false_eq_true, if_false]
 refine ⟨?_, below_step hw h.2 hb⟩
 exact h.1.kept (row := none) ⟨hb.os, hb.tape, hb.output, hb.size, fun k hk _ => hb.block k hk⟩ (by cases hv : v.ownBlock <;> simp)
theorem SelHead.more {p : Nat → Bool} {w wr w' : World} {k : Nat} {v v' : Value} (h : SelHead p w k v wr) (hp : p k = true)
  (hown : w'.ownsRow w.heap.size 3 1 v' ((selL p k).length + 1) ((selL p k).map (Value.int .i64) ++ [.int .i64 (k : Int)])) (hb : Below w.heap.size wr w') : SelHead p w (k + 1) v' w' := by
 unfold SelHead
 rw [selL_succ, hp]
 simp only [if_true]
 refine ⟨?_, h.2.trans hb⟩
 rw [List.length_append, List.map_append]
 exact hown
theorem selL_le (p : Nat → Bool) (k : Nat) : (selL p k).length ≤ k := selL_length p k
end Go.Proofs.Ytennbiajnkobnaa
namespace Go.Proofs.Ytennbiajnkobnaa
open Go.RowKit Go.PlainAid
def sideOf (e : Nat) (p : Int × Int) : Int := if e = 0 then p.1 else p.2
def sel (e : Nat) (L : Lks) (n : Int) : List Int := selL (fun i => sideOf e (lk L i) == n) L.length
set_option maxHeartbeats 8000000 in
set_option maxRecDepth 100000 in
theorem touching_some0 (b off len cap : Nat) (L : Lks) (N n : Int) (w : World) (hl : L.length = len) (hb : b < w.heap.size)
  (hc : ∀ i, i < len → w.cell? ⟨b, off + i * 2, none⟩ = some (.int .i64 (lk L i).1) ∧ w.cell? ⟨b, off + i * 2 + 1, none⟩ = some (.int .i64 (lk L i).2)) (hlb : len ≤ 1000000) :
  Calls Try.prog 93 #[gv N (.slice (some ⟨b, off, none⟩) len cap), .int .i64 0, .int .i64 n] w fun z w' => ∃ u, z = .returned u ∧ IntsAt w' u (sel 0 L n) ∧ (∀ k, u.ownBlock = some k → w.heap.size ≤ k) ∧ Below w.heap.size w w' := by
 unfold gv
 obtain ⟨i0, hi0, hz0, hz1, hz2⟩ := info_parts infoInt
 obtain ⟨wb, hwb⟩ : ∃ wb, wb = w.alloc (.cells #[.int .i64 N, .slice (some ⟨b, off, none⟩) len cap] 24) := ⟨_, rfl⟩
 have hbel : Below w.heap.size w wb := by rw [hwb]; exact (Below.refl w.heap.size w).alloc (Nat.le_refl _) _
 have hx : wb.cell? ⟨w.heap.size, 1, none⟩ = some (.slice (some ⟨b, off, none⟩) len cap) := by rw [hwb]; exact World.cell?_alloc_at _ _ _ _ rfl
 have hst : SelHead (fun i => sideOf 0 (lk L i) == n) w 0 (.slice none 0 0) wb := ⟨World.ownsRow_nil _ _ _ _, hbel⟩
 have Hst := Lib.hid hst
 have Hc := Lib.hid hc
 have Hl := Lib.hid hl
 clear hc hl hst hbel
 go_enter Try.func93, Try.ntmps93
 go_wp2_with fail
 rw [← hwb]
 clear hwb
 go_loopw [7, 13] (fun v i wr => ∃ k : Nat, i = .int .i64 k ∧ k ≤ len ∧ SelHead (fun i => sideOf 0 (lk L i) == n) w k v wr) (fun _ i _ => len - (intOf i).toNat)
 case atStart => exact ⟨0, rfl, by omega, Hst.out⟩
 case round =>
  obtain ⟨k, rfl, hk, hF⟩ := hrel
  obtain ⟨ao, cv, rfl⟩ := owns_slice hF.1
  have HF := Lib.hid hF
  obtain ⟨hown, hbel⟩ := hF
  have hz := hbel.size
  have hs := selL_le (fun i => sideOf 0 (lk L i) == n) k
  by_cases hlt : k < len
  ·have hlt' : (k : Int) < len := by omega
   obtain ⟨c1, c2⟩ := Hc.out k hlt
   have c1' := (hbel.cell (by exact hb)).trans c1
   have c2' := (hbel.cell (by exact hb)).trans c2
   obtain ⟨x, hx⟩ : ∃ x, x = (lk L k).1 := ⟨_, rfl⟩
   obtain ⟨y, hy⟩ : ∃ y, y = (lk L k).2 := ⟨_, rfl⟩
   rw [← hx] at c1'
   rw [← hy] at c2'
   have HO := Lib.hid hown
   have hside : sideOf 0 (lk L k) = x := by first | (rw [hx]; rfl) | (rw [hy]; rfl)
   have Hside := Lib.hid hside
   obtain ⟨m, hm⟩ : ∃ m, m = (selL (fun i => sideOf 0 (lk L i) == n) k).length := ⟨_, rfl⟩
   rw [← hm] at hs
   have Hm := Lib.hid hm
   clear hown c1 c2 hx hy hside hm
   by_cases hq : (x == n) = true
   ·have hp : (sideOf 0 (lk L k) == n) = true := by rw [Hside.out]; exact hq
    have Hp := Lib.hid hp
    clear hp
    go_wp2_with (at_builtin; refine wpList_append_own _ rfl _ _ 28 rfl w.heap.size 3 i0 (.int .i64 0) 1 8 Try.underlying28 hi0 hz0 hz1 hz2 rfl (by decide) _ _ _ rfl ((HO.out.alloc _).alloc _) ⟨wr.heap.size + 1, 0, none⟩ 1 1 [.int .i64 (k : Int)] rfl rfl (cell_one_at _ _ _ _ (size_alloc _ _).symm) ?c2 ?c3 ?c4 ?c5 ?_)
    case c2 => intro u hu; simp at hu; subst hu; rfl
    case c3 => unfold maxLen; rw [← Hm.out]; omega
    case c4 => rw [← Hm.out]; omega
    case c5 => first | omega | (simp; omega)
    intro v1 w1 hown1 hg1 _
    have hB1 : Below w.heap.size wr w1 := (((Below.refl w.heap.size wr).alloc hz _).alloc (by simp; omega) _).grown hg1 (by simp; omega) (fun k hk => (HO.out.lt k hk).1)
    have hnext : SelHead (fun i => sideOf 0 (lk L i) == n) w (k + 1) v1 w1 := HF.out.more Hp.out hown1 hB1
    have Hnext := Lib.hid hnext
    clear hown1 hg1 hB1 hnext
    go_wp2_with fail
    go_roundw
    case rel => exact ⟨k + 1, by go_num, by omega, Hnext.out⟩
    case measure => simp [intOf]; omega
   ·have hq' : (x == n) = false := by simpa using hq
    have hp : (sideOf 0 (lk L k) == n) = false := by rw [Hside.out]; exact hq'
    have hB1 : Below wr.heap.size wr (wr.alloc (.cells #[.int .i64 x, .int .i64 y] 131)) := (Below.refl _ wr).alloc (Nat.le_refl _) _
    have Hnext := Lib.hid (HF.out.skip hp hB1 hz)
    clear hp hB1 hq
    go_wp2_with fail
    go_roundw
    case rel => exact ⟨k + 1, by go_num, by omega, Hnext.out⟩
    case measure => simp [intOf]; omega
  ·have hlt' : ¬ (k : Int) < len := by omega
   obtain rfl : len = k := by omega
   have hend := IntsAt.owns HF.out.1
   have Hend := Lib.hid hend
   have HB := Lib.hid hbel
   have Hlt := Lib.hid (fun k hk => (HF.out.1.lt k hk).1)
   clear hown hend hbel
   go_wp2_with fail
   go_ret
   exact ⟨_, rfl, by unfold sel; rw [Hl.out]; exact Hend.out, Hlt.out, HB.out⟩
theorem touching0 (N n : Int) (v : Value) (L : Lks) (w : World) (h : LinksAt w v L) (hn : L.length ≤ 1000000) :
  Calls Try.prog 93 #[gv N v, .int .i64 0, .int .i64 n] w fun z w' => ∃ u, z = .returned u ∧ IntsAt w' u (sel 0 L n) ∧ (∀ k, u.ownBlock = some k → w.heap.size ≤ k) ∧ Below w.heap.size w w' := by
 rcases h with ⟨a, cap, rfl, rfl⟩ | ⟨b, off, len, cap, rfl, hl, hp, hb, hlc, hc⟩
 ·unfold gv
  go_enter Try.func93, Try.ntmps93
  go_wp2_with fail
  refine wp_loop_rounds 1 ?_
  rw [rounds_succ]
  go_wp2_with fail
  go_ret
  exact ⟨_, rfl, .inl ⟨none, 0, rfl, rfl⟩, fun k hk => by simp [Value.ownBlock] at hk, by go_grown⟩
 ·exact touching_some0 b off len cap L N n w hl hb hc (by omega)
end Go.Proofs.Ytennbiajnkobnaa
namespace Go.Proofs.Ytennbiajnkobnaa
open Go.RowKit Go.PlainAid
theorem out_any (N n : Int) (v : Value) (L : Lks) (w : World) (h : LinksAt w v L) (hn : L.length ≤ 1000000) :
  Calls Try.prog 86 #[gv N v, .int .i64 n] w fun z w' => ∃ u, z = .returned u ∧ IntsAt w' u (sel 0 L n) ∧ (∀ k, u.ownBlock = some k → w.heap.size ≤ k) ∧ Below w.heap.size w w' := by
 have Hb := Lib.hid ((Below.refl w.heap.size w).alloc (Nat.le_refl _) (.cells #[.int .i64 N, v] 24))
 have H := Lib.hid (h.below Hb.out)
 unfold gv
 clear h
 go_enter Try.func86, Try.ntmps86
 go_wp2_with fail
 refine (touching0 N n v L _ H.out hn).mono ?_
 rintro e w' ⟨u, rfl, hi, hlt, hb⟩
 have Hb2 := Lib.hid hb
 have Hi := Lib.hid hi
 have Hlt := Lib.hid hlt
 clear hb hi hlt
 go_wp2_with fail
 go_ret
 exact ⟨_, rfl, Hi.out, fun k hk => by have := Hlt.out k hk; simp at this; omega, below_step (by simp) Hb.out Hb2.out⟩
end Go.Proofs.Ytennbiajnkobnaa
namespace Go.Proofs.Ytennbiajnkobnaa
open Go.RowKit Go.PlainAid
def flat (L : Lks) : List Value := L.flatMap fun p => [.int .i64 p.1, .int .i64 p.2]
theorem flat_length (L : Lks) : (flat L).length = L.length * 2 := by
 unfold flat
 induction L with
 | nil => rfl
 | cons p r ih => simp only [List.flatMap_cons, List.length_append, ih, List.length_cons, List.length_nil]; omega
theorem flat_append (L M : Lks) : flat (L ++ M) = flat L ++ flat M := by unfold flat; rw [List.flatMap_append]
theorem flat_get : ∀ (L : Lks) (i : Nat), i < L.length → (flat L)[i * 2]? = some (.int .i64 (lk L i).1) ∧ (flat L)[i * 2 + 1]? = some (.int .i64 (lk L i).2)
 | [], i, h => by simp at h
 | p :: r, 0, _ => by simp [flat, lk]
 | p :: r, i + 1, h => by
  have ih := flat_get r i (by simpa using h)
  have e1 : flat (p :: r) = .int .i64 p.1 :: .int .i64 p.2 :: flat r := rfl
  have e2 : lk (p :: r) (i + 1) = lk r i := by simp [lk]
  rw [e1, e2]
  refine ⟨?_, ?_⟩
  ·rw [show (i + 1) * 2 = i * 2 + 1 + 1 by omega, List.getElem?_cons_succ, List.getElem?_cons_succ]; exact ih.1
  ·rw [show (i + 1) * 2 + 1 = i * 2 + 1 + 1 + 1 by omega, List.getElem?_cons_succ, List.getElem?_cons_succ]; exact ih.2
theorem LinksAt.owns {w : World} {base : Nat} {e : TypeId} {v : Value} {L : Lks} (h : w.ownsRow base e 2 v L.length (flat L)) : LinksAt w v L := by
 by_cases hx : L.length = 0
 ·obtain ⟨ao, cap, rfl⟩ := owns_slice h
  exact .inl ⟨ao, cap, by rw [hx], List.length_eq_zero_iff.1 hx⟩
 ·have hc := fun g => h.cells (g := g)
  rcases h.2 with ⟨_, h0⟩ | ⟨g, cap, cur, rfl, _, hg, hle, _⟩
  ·omega
  ·refine .inr ⟨g, 0, L.length, cap, rfl, rfl, by omega, lt_of_block hg, hle, fun i hi => ?_⟩
   have e : ∀ j, (⟨g, 0, none⟩ : Addr).add j = ⟨g, 0 + j, none⟩ := fun j => by unfold Addr.add; split <;> simp_all
   have a1 := hc g rfl (i * 2) _ (flat_get L i hi).1
   have a2 := hc g rfl (i * 2 + 1) _ (flat_get L i hi).2
   rw [e] at a1 a2
   exact ⟨a1, by rw [Nat.add_assoc]; exact a2⟩
theorem infoPair : (Try.prog.info? 131).map (fun i => (i.zero, i.size, i.bytes)) = some (some (.agg #[.int .i64 0, .int .i64 0]), 2, 16) := by kernel_rfl
/-- The links from a, to nodes below b. -/
def rowL (a b : Nat) : Lks := ((List.range b).filter (fun x : Nat => x != a)).map fun x : Nat => ((a : Int), (x : Int))
/-- All links from nodes below a. -/
def fullL (N a : Nat) : Lks := (List.range a).flatMap fun x => rowL x N
theorem rowL_succ (a b : Nat) : rowL a (b + 1) = if b = a then rowL a b else rowL a b ++ [((a : Int), (b : Int))] := by
 unfold rowL
 rw [List.range_succ, List.filter_append, List.map_append]
 by_cases h : b = a <;> simp [h]
theorem fullL_succ (N a : Nat) : fullL N (a + 1) = fullL N a ++ rowL a N := by
 unfold fullL
 rw [List.range_succ, List.flatMap_append]; simp
theorem rowL_len (a b : Nat) : (rowL a b).length ≤ b := by
 unfold rowL
 rw [List.length_map]
 exact Nat.le_trans (List.length_filter_le _ _) (by simp)
theorem fullL_len (N : Nat) : ∀ a, (fullL N a).length ≤ a * N
 | 0 => by simp [fullL]
 | a + 1 => by
  rw [fullL_succ, List.length_append]
  have := fullL_len N a
  have := rowL_len a N
  rw [Nat.add_mul]; omega
/-- A block of two cells that may be written. -/
def Box (w : World) (g : Nat) (x y : Value) : Prop :=
 w.cell? ⟨g, 0, none⟩ = some x ∧ w.cell? ⟨g, 1, none⟩ = some y ∧ w.frozen? ⟨g, 0, none⟩ = false ∧ w.frozen? ⟨g, 1, none⟩ = false
theorem Box.kept {w w' : World} {g : Nat} {x y : Value} {row : Option Nat} (h : Box w g x y) (hg : w.grownBy w' row) (hne : some g ≠ row) : Box w' g x y := by
 have hb : g < w.heap.size := World.block_lt_of_cell? w _ h.1
 have hk := hg.block g hb hne
 exact ⟨(World.cell?_of_block (by exact hk)).trans h.1, (World.cell?_of_block (by exact hk)).trans h.2.1, (World.frozen?_of_block (by exact hk)).trans h.2.2.1, (World.frozen?_of_block (by exact hk)).trans h.2.2.2⟩
theorem Box.below {w w' : World} {g : Nat} {x y : Value} (h : Box w g x y) (hb : Below w.heap.size w w') : Box w' g x y :=
 h.kept (row := none) ⟨hb.os, hb.tape, hb.output, hb.size, fun k hk _ => hb.block k hk⟩ (by simp)
/-- The graph so far: its box, the row of its links, and the answer's box. -/
structure GHead (w : World) (N : Int) (wr : World) (v : Value) (X : Lks) : Prop where
 row : wr.ownsRow (w.heap.size + 2) 131 2 v X.length (flat X)
 bel : Below w.heap.size w wr
 size : w.heap.size + 2 ≤ wr.heap.size
 box : Box wr (w.heap.size + 1) (.int .i64 N) v
 ans : Box wr w.heap.size (.int .i64 0) (.slice none 0 0)
theorem cells_two (w : World) (t : TypeId) (x y : Value) : ∀ j u, [x, y][j]? = some u → (w.alloc (.cells #[x, y] t)).cell? ((⟨w.heap.size, 0, none⟩ : Addr).add j) = some u := by
 intro j u hu
 match j with
 | 0 => simp at hu; subst hu; exact World.cell?_alloc_at _ _ _ _ rfl
 | 1 => simp at hu; subst hu; exact World.cell?_alloc_at _ _ _ _ rfl
 | j + 2 => simp at hu
theorem Box.set {w : World} {g : Nat} {x y : Value} (h : Box w g x y) (u : Value) : Box (w.setCell ⟨g, 1, none⟩ u) g x u :=
 ⟨(World.cell?_setCell_other w _ _ _ (by simp)).trans h.1, World.cell?_setCell_same w _ _ h.2.1, by rw [World.frozen?_setCell]; exact h.2.2.1, by rw [World.frozen?_setCell]; exact h.2.2.2⟩
theorem Box.other {w : World} {g g' : Nat} {x y : Value} (h : Box w g x y) (u : Value) (o : Nat) (hne : g ≠ g') : Box (w.setCell ⟨g', o, none⟩ u) g x y :=
 ⟨(World.cell?_setCell_other w _ _ _ (by simp <;> omega)).trans h.1, (World.cell?_setCell_other w _ _ _ (by simp <;> omega)).trans h.2.1, by rw [World.frozen?_setCell]; exact h.2.2.1, by rw [World.frozen?_setCell]; exact h.2.2.2⟩
theorem Box.fill {w : World} {g : Nat} {x y : Value} (h : Box w g x y) (u u' : Value) : Box ((w.setCell ⟨g, 0, none⟩ u).setCell ⟨g, 1, none⟩ u') g u u' := by
 have h1 : Box (w.setCell ⟨g, 0, none⟩ u) g u y :=
  ⟨World.cell?_setCell_same w _ _ h.1, (World.cell?_setCell_other w _ _ _ (by simp)).trans h.2.1, by rw [World.frozen?_setCell]; exact h.2.2.1, by rw [World.frozen?_setCell]; exact h.2.2.2⟩
 exact h1.set u'
theorem GHead.more {w wr w1 : World} {N : Int} {v v1 : Value} {X : Lks} {o : Obj} {p : Int × Int} (h : GHead w N wr v X)
  (hown : w1.ownsRow (w.heap.size + 2) 131 2 v1 (X.length + 1) (flat X ++ [.int .i64 p.1, .int .i64 p.2])) (hg : (wr.alloc o).grownBy w1 v.ownBlock) :
  Box w1 (w.heap.size + 1) (.int .i64 N) v ∧ GHead w N (w1.setCell ⟨w.heap.size + 1, 1, none⟩ v1) v1 (X ++ [p]) := by
 have hlt := h.row.lt
 have hb := h.box.below ((Below.refl _ wr).alloc (Nat.le_refl _) o)
 have ha := h.ans.below ((Below.refl _ wr).alloc (Nat.le_refl _) o)
 have n1 : some (w.heap.size + 1) ≠ v.ownBlock := fun e => by have := (hlt _ e.symm).1; omega
 have n0 : some w.heap.size ≠ v.ownBlock := fun e => by have := (hlt _ e.symm).1; omega
 have b1 := hb.kept hg n1
 have a1 := ha.kept hg n0
 have bel : Below w.heap.size w w1 := (h.bel.alloc (by have := h.size; omega) o).grown hg (by have := h.size; simp; omega) (fun k hk => by have := (hlt k hk).1; omega)
 refine ⟨b1, ?_, bel.setCell (by simp) _, ?_, b1.set _, a1.other _ _ (by omega)⟩
 ·rw [List.length_append, flat_append]
  exact ownsRow_setCell_below hown (by simp) _
 ·have := hg.size
  have := h.size
  simp at *; omega
theorem GHead.done {w wr : World} {N : Int} {v : Value} {X : Lks} (h : GHead w N wr v X) :
  ∃ we, we = (wr.setCell ⟨w.heap.size, 0, none⟩ (.int .i64 N)).setCell ⟨w.heap.size, 1, none⟩ v ∧ Box we w.heap.size (.int .i64 N) v ∧ LinksAt we v X ∧ Below w.heap.size w we :=
 ⟨_, rfl, h.ans.fill _ _, LinksAt.owns (ownsRow_setCell_below (ownsRow_setCell_below h.row (by simp) _) (by simp) _), (h.bel.setCell (by simp) _).setCell (by simp) _⟩
set_option maxHeartbeats 8000000 in
set_option maxRecDepth 100000 in
theorem full_any (n M : Int) (N : Nat) (w : World) (h1 : (if n < 1 then (1 : Int) else n) = M) (h2 : (if 6 < M then (6 : Int) else M) = (N : Int)) (hN6 : N ≤ 6) :
  Calls Try.prog 47 #[.int .i64 n] w fun e w' => ∃ v, e = .returned (gv N v) ∧ LinksAt w' v (fullL N N) ∧ Below w.heap.size w w' := by
 obtain ⟨i0, hi0, hz0, hz1, hz2⟩ := info_parts infoPair
 have hst : GHead w N ((w.alloc (.cells #[.int .i64 0, .slice none 0 0] 24)).alloc (.cells #[.int .i64 N, .slice none 0 0] 24)) (.slice none 0 0) (fullL N 0) := by
  refine ⟨World.ownsRow_nil _ _ _ _, by go_grown, by simp, ⟨?_, ?_, ?_, ?_⟩, ⟨?_, ?_, ?_, ?_⟩⟩
  all_goals go_cell
 have Hst := Lib.hid hst
 clear hst
 go_enter Try.func47, Try.ntmps47
 go_wp2_with fail
 clear h1 h2
 generalize hww : (w.alloc (.cells #[.int .i64 0, .slice none 0 0] 24)).alloc (.cells #[.int .i64 N, .slice none 0 0] 24) = ww
 rw [hww] at Hst
 clear hww
 go_loopw [12] (fun i wr => ∃ k : Nat, i = .int .i64 k ∧ k ≤ N ∧ ∃ v, GHead w N wr v (fullL N k)) (fun i _ => N - (intOf i).toNat)
 case atStart => exact ⟨0, rfl, by omega, _, Hst.out⟩
 case round =>
  obtain ⟨k, rfl, hk, v, hG⟩ := hrel
  obtain ⟨wo, hwo⟩ : ∃ wo, wo = wr := ⟨_, rfl⟩
  rw [← hwo] at hG ⊢
  have HG := Lib.hid hG
  have c0 := hG.box.1
  have c1 := hG.box.2.1
  have d0 := hG.ans.2.2.1
  have d1 := hG.ans.2.2.2
  have d2 := hG.ans.1
  have d3 := hG.ans.2.1
  clear hG hwo
  by_cases hlt : k < N
  ·have hlt' : (k : Int) < N := by omega
   go_wp2_with fail
   go_loopw [17] (fun i wr => ∃ j : Nat, i = .int .i64 j ∧ j ≤ N ∧ ∃ v, GHead w N wr v (fullL N k ++ rowL k j)) (fun i _ => N - (intOf i).toNat)
   case atStart => exact ⟨0, rfl, by omega, _, by rw [show rowL k 0 = [] from rfl, List.append_nil]; exact HG.out⟩
   case round =>
    obtain ⟨j, rfl, hj, v2, hG2⟩ := hrel
    obtain ⟨X, hX⟩ : ∃ X, X = fullL N k ++ rowL k j := ⟨_, rfl⟩
    rw [← hX] at hG2
    have HX := Lib.hid hX
    have HG2 := Lib.hid hG2
    have e0 := hG2.box.1
    have e1 := hG2.box.2.1
    have hlen : X.length ≤ 64 := by
     rw [hX, List.length_append]
     have := fullL_len N k
     have := rowL_len k j
     have : k * N ≤ 5 * 6 := Nat.mul_le_mul (by omega) hN6
     omega
    have hsz := hG2.size
    clear hG2 hX
    by_cases hjt : j < N
    ·have hjt' : (j : Int) < N := by omega
     by_cases hjk : j = k
     ·subst hjk
      have hnext : GHead w N wr v2 (fullL N j ++ rowL j (j + 1)) := by rw [rowL_succ, if_pos rfl, ← HX.out]; exact HG2.out
      have Hnext := Lib.hid hnext
      clear hnext
      go_wp2_with fail
      go_roundw
      case rel => exact ⟨j + 1, by go_num, by omega, _, Hnext.out⟩
      case measure => simp [intOf]; omega
     ·have hne : ((k : Int) != (j : Int)) = true := by rw [bne_iff_ne]; omega
      obtain ⟨ao, cv, rfl⟩ := owns_slice HG2.out.row
      have Hlen := Lib.hid hlen
      clear hlen
      go_wp2_with (at_builtin; refine wpList_append_own _ rfl _ _ 22 rfl (w.heap.size + 2) 131 i0 (.agg #[.int .i64 0, .int .i64 0]) 2 16 Try.underlying22 hi0 hz0 hz1 hz2 rfl (by decide) _ _ _ rfl (HG2.out.row.alloc _) ⟨wr.heap.size, 0, none⟩ 1 1 [.int .i64 (k : Int), .int .i64 (j : Int)] rfl rfl ?c1 ?c2 ?c3 ?c4 ?c5 ?_)
      case c1 => exact cells_two wr _ _ _
      case c2 => intro u hu; simp at hu; rcases hu with rfl | rfl <;> rfl
      case c3 => unfold maxLen; have := Hlen.out; omega
      case c4 => have := Hlen.out; omega
      case c5 => first | omega | (simp; omega)
      intro v1 w1 hown1 hg1 _
      obtain ⟨ao1, cv1, rfl⟩ := owns_slice hown1
      obtain ⟨hbx, hnext0⟩ := HG2.out.more (p := ((k : Int), (j : Int))) hown1 hg1
      have b0 := hbx.1
      have b1 := hbx.2.1
      have b2 := hbx.2.2.2
      have hnext : GHead w N (w1.setCell ⟨w.heap.size + 1, 1, none⟩ (.slice ao1 (X.length + 1) cv1)) (.slice ao1 (X.length + 1) cv1) (fullL N k ++ rowL k (j + 1)) := by
       rw [rowL_succ, if_neg hjk, ← List.append_assoc, ← HX.out]; exact hnext0
      have Hnext := Lib.hid hnext
      clear hown1 hg1 hbx hnext0 hnext
      go_wp2_with fail
      go_roundw
      case rel => exact ⟨j + 1, by go_num, by omega, _, Hnext.out⟩
      case measure => simp [intOf]; omega
    ·have hjt' : ¬ (j : Int) < N := by omega
     obtain rfl : j = N := by omega
     have hnext : GHead w j wr v2 (fullL j (k + 1)) := by rw [fullL_succ, ← HX.out]; exact HG2.out
     have Hnext := Lib.hid hnext
     clear hnext
     go_wp2_with fail
     go_roundw
     case rel => exact ⟨k + 1, by go_num, by omega, _, Hnext.out⟩
     case measure => simp [intOf]; omega
  ·have hlt' : ¬ (k : Int) < N := by omega
   obtain rfl : k = N := by omega
   obtain ⟨ao, cv, rfl⟩ := owns_slice HG.out.row
   go_wp2_with fail
   obtain ⟨we, hwe, hbox, hL, hbel⟩ := HG.out.done
   rw [← hwe]
   have e0 := hbox.1
   have e1 := hbox.2.1
   refine bodyPost_ret (v := .agg #[.int .i64 (k : Int), .slice ao (fullL k k).length cv]) (by simp [results, Try.results47, go_sem, e0, e1]) rfl ⟨_, rfl, hL, hbel⟩
end Go.Proofs.Ytennbiajnkobnaa
namespace Go.Proofs.Ytennbiajnkobnaa
open Go.RowKit Go.PlainAid
theorem ref_slice (N : Int) (a : Option Addr) (len cap : Nat) (w : World) :
  Calls Try.prog 22 #[gv N (.slice a len cap)] w fun e w' => e = .returned (gv N (.slice a len cap)) ∧ Below w.heap.size w w' := by
 unfold gv
 go_enter Try.func22, Try.ntmps22
 go_wp2_with fail
 refine bodyPost_ret (v := .agg #[.int .i64 N, .slice a len cap]) (by simp [results, Try.results22, go_sem]) rfl ⟨rfl, ?_⟩
 go_grown
theorem ref_any (N : Int) (v : Value) (L : Lks) (w : World) (h : LinksAt w v L) :
  Calls Try.prog 22 #[gv N v] w fun e w' => e = .returned (gv N v) ∧ Below w.heap.size w w' := by
 obtain ⟨a, cap, rfl⟩ := h.at
 exact ref_slice N a L.length cap w
theorem lk_take {L : Lks} {m i : Nat} (h : i < m) : lk (L.take m) i = lk L i := by
 unfold lk; simp only [List.getD, List.getElem?_take, if_pos h]
theorem LinksAt.take {w : World} {b off len cap : Nat} {L : Lks} (hl : L.length = len) (hb : b < w.heap.size) (hlc : len ≤ cap)
  (hc : ∀ i, i < len → w.cell? ⟨b, off + i * 2, none⟩ = some (.int .i64 (lk L i).1) ∧ w.cell? ⟨b, off + i * 2 + 1, none⟩ = some (.int .i64 (lk L i).2)) (m : Nat) (hm : m ≤ len) :
  LinksAt w (.slice (some ⟨b, off, none⟩) m cap) (L.take m) := by
 by_cases h0 : m = 0
 ·subst h0; exact .inl ⟨_, cap, rfl, by simp⟩
 ·exact .inr ⟨b, off, m, cap, rfl, by rw [List.length_take]; omega, by omega, hb, by omega, fun i hi => by rw [lk_take hi]; exact hc i (by omega)⟩
set_option maxHeartbeats 8000000 in
theorem cut_some (b off len cap m : Nat) (N : Int) (w : World) (hlc : len ≤ cap) (hm : (if 40 < (len : Int) then (40 : Int) else (len : Int)) = (m : Int)) (hml : m ≤ len) :
  Calls Try.prog 20 #[gv N (.slice (some ⟨b, off, none⟩) len cap)] w fun e w' => e = .returned (gv N (.slice (some ⟨b, off, none⟩) m cap)) ∧ Below w.heap.size w w' := by
 unfold gv
 go_enter Try.func20, Try.ntmps20
 go_wp2_with fail
 refine bodyPost_ret (v := .agg #[.int .i64 N, .slice (some ⟨b, off, none⟩) m cap]) (by simp [results, Try.results20, go_sem]) rfl ⟨rfl, ?_⟩
 go_grown
theorem bits_mul64 (N : Nat) (w : World) (h0 : 1 ≤ N) (h6 : N ≤ 6) : Calls Try.prog 97 #[.int .u64 1, .int .u64 (N : Int)] w fun e w' => e = .returned (.tuple #[.int .u64 0, .int .u64 (N : Int)]) ∧ w = w' := by
 have h : N = 1 ∨ N = 2 ∨ N = 3 ∨ N = 4 ∨ N = 5 ∨ N = 6 := by omega
 rcases h with rfl | rfl | rfl | rfl | rfl | rfl
 all_goals
  go_enter Try.func97, Try.ntmps97
  go_wp2_with fail
  go_ret2
  exact ⟨by kernel_rfl, rfl⟩
theorem bits_mul (N : Nat) (w : World) (h0 : 1 ≤ N) (h6 : N ≤ 6) : Calls Try.prog 92 #[.int .u64 1, .int .u64 (N : Int)] w fun e w' => e = .returned (.tuple #[.int .u64 0, .int .u64 (N : Int)]) ∧ w = w' := by
 go_enter Try.func92, Try.ntmps92
 go_wp2_with fail
 refine (bits_mul64 N _ h0 h6).mono ?_
 rintro e w' ⟨rfl, rfl⟩
 go_wp2_with fail
 go_ret2
 exact ⟨rfl, rfl⟩
theorem make_ints (n : Nat) (h : n ≤ 1000000) (w : World) : (Instr.makeSlice 28 (.int .i64 (n : Int)) (.int .i64 (n : Int))).run Try.prog w = .ok (.slice (some ⟨w.heap.size, 0, none⟩) n n) (w.alloc (.cells (madeCells #[.int .i64 0] n) 3)) := by
 obtain ⟨i, hi, hz, h1, h2⟩ := info_parts infoInt
 have := run_make (P := Try.prog) w 28 3 i (.int .i64 0) Try.underlying28 hi hz .i64 .i64 n n (by omega) (by omega) (by rw [h2]; omega) (by omega)
 rw [this, h1]
 simp [Value.cells]
/-- A row: its first k cells hold -1, the others 0. -/
def mix (N k : Nat) : List Value := List.replicate k (.int .i64 (-1)) ++ List.replicate (N - k) (.int .i64 0)
theorem mix_length {N k : Nat} (h : k ≤ N) : (mix N k).length = N := by unfold mix; simp; omega
theorem mix_splice {N k m : Nat} (h : k + m ≤ N) : splice (mix N k) k (List.replicate m (.int .i64 (-1))) = mix N (k + m) := by
 unfold splice mix
 rw [List.take_left' (by simp), List.length_replicate, List.drop_append, List.drop_eq_nil_of_le (by simp), List.nil_append, List.length_replicate, List.drop_replicate, ← List.append_assoc, List.replicate_append_replicate]
 congr 2
 omega
theorem mix_made (N : Nat) : madeCells #[.int .i64 0] N = (mix N 0).toArray := by
 unfold mix madeCells
 apply Array.ext
 ·simp
 ·intro i h1 h2
  simp [Nat.mod_one]
set_option maxHeartbeats 400000 in
set_option maxRecDepth 100000 in
theorem repeat_any (b : Nat) (N : Nat) (w : World) (h0 : 1 ≤ N) (h6 : N ≤ 6) (hc : w.cell? ⟨b, 0, none⟩ = some (.int .i64 (-1))) :
  Calls Try.prog 85 #[.slice (some ⟨b, 0, none⟩) 1 1, .int .i64 (N : Int)] w fun e w' => e = .returned (.slice (some ⟨w.heap.size, 0, none⟩) N N) ∧ w'.heap[w.heap.size]? = some (.cells (mix N N).toArray 3 (0, 0)) ∧ Below w.heap.size w w' := by
 have hu : IntKind.u64.wrap (N : Int) = (N : Int) := IntWalk.u64_in _ (by omega)
 have hi : IntKind.i64.wrap (N : Int) = (N : Int) := IntWalk.i64_in _ (by omega)
 have hu1 : IntKind.u64.wrap 1 = 1 := by decide
 have hmk := make_ints N (by omega) w
 have hb1 : Below w.heap.size w (w.alloc (.cells (mix N 0).toArray 3)) := (Below.refl _ w).alloc (Nat.le_refl _) _
 have hg1 : (w.alloc (.cells (mix N 0).toArray 3)).heap[w.heap.size]? = some (.cells (mix N 0).toArray 3 (0, 0)) := heap_alloc_new w _
 have hc1 : (w.alloc (.cells (mix N 0).toArray 3)).cell? ⟨b, 0, none⟩ = some (.int .i64 (-1)) := (World.cell?_alloc_lt _ _ _ (World.block_lt_of_cell? w _ hc)).trans hc
 rw [mix_made] at hmk
 generalize w.alloc (.cells (mix N 0).toArray 3) = w1 at hmk hb1 hg1 hc1
 go_enter Try.func85, Try.ntmps85
 go_wp2_with fail
 refine (bits_mul N _ h0 h6).mono ?_
 rintro e w' ⟨rfl, rfl⟩
 go_wp2_with (refine wpList_copy_splice rfl _ _ 28 28 rfl 3 Try.underlying28 (by kernel_rfl) _ _ _ _ _ _ rfl rfl w.heap.size 0 (mix N 0) 3 hg1 [.int .i64 (-1)] ?k1 ?k2 ?k3 ?k4 w.heap.size w hb1 (Nat.le_refl _) ?_)
 case k1 => rw [List.length_singleton]; simp only [Nat.min_def]; split <;> omega
 case k2 =>
  intro j v hj
  cases j with
  | zero => simp at hj; subst hj; exact hc1
  | succ j => simp at hj
 case k3 => rw [mix_length (by omega)]; simp; omega
 case k4 => intro v hv; simp at hv; subst hv; rfl
 intro w2 hg2 hb2
 have hg2' := hg2.out
 rw [show ([.int .i64 (-1)] : List Value) = List.replicate 1 (.int .i64 (-1)) from rfl, mix_splice (by omega), Nat.zero_add] at hg2'
 have HG := Lib.hid hg2'
 clear hg2 hg2'
 go_wp2_with fail
 clear hmk hg1 hb1 hc1
 go_loopw [8] (fun i wr => ∃ k : Nat, i = .int .i64 k ∧ 1 ≤ k ∧ k ≤ N ∧ Below w.heap.size w wr ∧ wr.heap[w.heap.size]? = some (.cells (mix N k).toArray 3 (0, 0))) (fun i _ => N - (intOf i).toNat)
 case atStart => exact ⟨1, rfl, by omega, h0, hb2, HG.out⟩
 case round =>
  obtain ⟨k, rfl, hk1, hk, hbk, hgk⟩ := hrel
  have Hgk := Lib.hid hgk
  have Hbk := Lib.hid hbk
  clear hgk hbk
  by_cases hlt : k < N
  ·have hlt' : (k : Int) < N := by omega
   obtain ⟨m, hm⟩ : ∃ m, m = Nat.min k (N - k) := ⟨_, rfl⟩
   have hm1 : m ≤ k := by rw [hm]; exact Nat.min_le_left _ _
   have hm2 : m ≤ N - k := by rw [hm]; exact Nat.min_le_right _ _
   have hm0 : 1 ≤ m := by rw [hm]; exact Nat.le_min.2 ⟨hk1, by omega⟩
   have A1 : (List.replicate m (Value.int .i64 (-1))).length = Nat.min k (N - k) := by rw [List.length_replicate, hm]
   have A2 : 0 < (List.replicate m (Value.int .i64 (-1))).length → ∃ ad, (some (⟨w.heap.size, 0, none⟩ : Addr)) = some ad ∧ ∀ j v, (List.replicate m (Value.int .i64 (-1)))[j]? = some v → wr.drew.cell? (ad.add j) = some v := by
    refine fun _ => ⟨⟨w.heap.size, 0, none⟩, rfl, fun j v hj => ?_⟩
    have hjm : j < m := by have := (List.getElem?_eq_some_iff.1 hj).1; simpa using this
    have hv : v = .int .i64 (-1) := by simp [hjm] at hj; exact hj.symm
    have e : (⟨w.heap.size, 0, none⟩ : Addr).add j = ⟨w.heap.size, j, none⟩ := by unfold Addr.add; split <;> simp_all
    rw [e, hv]
    exact (cell_of_row wr _ j _ _ (0, 0) Hgk.out).trans (by unfold mix; simp [List.getElem?_append, show j < k by omega])
   have A3 : k + (List.replicate m (Value.int .i64 (-1))).length ≤ (mix N k).length := by rw [mix_length (by omega), List.length_replicate]; omega
   have A4 : ∀ v ∈ List.replicate m (Value.int .i64 (-1)), v.oneCell' = true := fun v hv => by rw [List.eq_of_mem_replicate hv]; rfl
   have B1 := Lib.hid A1
   have B2 := Lib.hid A2
   have B3 := Lib.hid A3
   have B4 := Lib.hid A4
   have Hm := Lib.hid hm
   have hne : ¬ N = k := by omega
   have hww : IntKind.i64.wrap ((k : Int) + (m : Int)) = (k : Int) + (m : Int) := IntWalk.i64_in _ (by omega)
   clear A1 A2 A3 A4 hm
   go_wp2_with fail
   go_region_law (refine step_copy_splice rfl (.tmp 41) (.tmp 44) 28 28 rfl 3 Try.underlying28 (by kernel_rfl) (some ⟨w.heap.size, k, none⟩) (some ⟨w.heap.size, 0, none⟩) (N - k) (N - k) k N (by simp [Act.eval, Act.put]) (by simp [Act.eval, Act.put]) w.heap.size k (mix N k) 3 (show wr.drew.heap[w.heap.size]? = _ from Hgk.out) (List.replicate m (.int .i64 (-1))) B1.out (fun h => ⟨rfl, B2.out h⟩) B3.out B4.out w.heap.size w (below_drewN Hbk.out 1) (Nat.le_refl _) ?_; intro w4 hg4 hb4)
   have hg5 := hg4.out
   rw [mix_splice (by omega)] at hg5
   have HG5 := Lib.hid hg5
   have HB5 := Lib.hid hb4
   clear hg5 hg4 hb4
   try simp [Act.put]
   go_wp2_with fail
   go_roundw
   case rel => exact ⟨k + m, by go_num, by omega, by omega, HB5.out, HG5.out⟩
   case measure => simp [intOf]; omega
  ·have hlt' : ¬ (k : Int) < N := by omega
   obtain rfl : N = k := by omega
   go_wp2_with fail
   go_ret
   exact ⟨rfl, Hgk.out, Hbk.out⟩
end Go.Proofs.Ytennbiajnkobnaa
namespace Go.Proofs.Ytennbiajnkobnaa
open Go.RowKit Go.PlainAid
set_option maxHeartbeats 8000000 in
theorem indexI_some (b off len cap : Nat) (xs : List Int) (x : Int) (w : World) (hl : xs.length = len) (hc : ∀ i, i < len → w.cell? ⟨b, off + i, none⟩ = some (.int .i64 (xs.getD i 0))) (hlb : len ≤ 1000000) :
  Calls Try.prog 84 #[.slice (some ⟨b, off, none⟩) len cap, .int .i64 x] w fun e w' => ∃ r : Int, e = .returned (.int .i64 r) ∧ (0 ≤ r ↔ x ∈ xs) ∧ w = w' := by
 have Hc := Lib.hid hc
 have Hl := Lib.hid hl
 clear hc hl
 go_enter Try.func84, Try.ntmps84
 go_wp2_with fail
 go_loopw [8] (fun i wr => ∃ k : Nat, i = .int .i64 k ∧ k ≤ len ∧ (∀ j, j < k → xs.getD j 0 ≠ x) ∧ wr = w) (fun i _ => len - (intOf i).toNat)
 case atStart => exact ⟨0, rfl, by omega, fun j hj => by omega, rfl⟩
 case round =>
  obtain ⟨k, rfl, hk, hno, rfl⟩ := hrel
  have Hs := Lib.hid hno
  clear hno
  by_cases hlt : k < len
  ·have hlt' : (k : Int) < len := by omega
   have c1 := Hc.out k hlt
   obtain ⟨e1, he1⟩ : ∃ e1, e1 = xs.getD k 0 := ⟨_, rfl⟩
   rw [← he1] at c1
   have He1 := Lib.hid he1
   clear he1
   by_cases hq : (x == e1) = true
   ·have Hq := Lib.hid hq
    go_wp2_with fail
    go_ret
    refine ⟨_, rfl, ⟨fun _ => ?_, fun _ => by omega⟩, rfl⟩
    have hh := Hq.out
    simp only [beq_iff_eq] at hh
    rw [hh, He1.out]
    have hkl : k < xs.length := by rw [Hl.out]; exact hlt
    simp only [List.getD, List.getElem?_eq_getElem hkl, Option.getD_some]
    exact List.getElem_mem hkl
   ·have Hq := Lib.hid hq
    have hq' : (x == e1) = false := by simpa using hq
    clear hq
    go_wp2_with fail
    go_roundw
    case rel =>
     refine ⟨k + 1, by go_num, by omega, fun j hj => ?_, trivial⟩
     by_cases hjk : j < k
     ·exact Hs.out j hjk
     ·obtain rfl : j = k := by omega
      intro h
      apply Hq.out
      rw [He1.out, h]
      simp
    case measure => simp [intOf]; omega
  ·have hlt' : ¬ (k : Int) < len := by omega
   go_wp2_with fail
   go_ret
   refine ⟨_, rfl, ⟨fun h => absurd h (by omega), fun h => ?_⟩, rfl⟩
   obtain ⟨i, hi, he⟩ := List.getElem_of_mem h
   exact absurd (by simp [List.getD, hi, he]) (Hs.out i (by rw [Hl.out] at hi; omega))
theorem contains_any (v : Value) (xs : List Int) (x : Int) (w : World) (h : IntsAt w v xs) (hn : xs.length ≤ 1000000) :
  Calls Try.prog 62 #[v, .int .i64 x] w fun e w' => e = .returned (.bool (decide (x ∈ xs))) ∧ w = w' := by
 have hidx : Calls Try.prog 84 #[v, .int .i64 x] w fun e w' => ∃ r : Int, e = .returned (.int .i64 r) ∧ (0 ≤ r ↔ x ∈ xs) ∧ w = w' := by
  rcases h with ⟨a, cap, rfl, rfl⟩ | ⟨b, off, len, cap, rfl, hl, hp, hb, hlc, hc⟩
  ·go_enter Try.func84, Try.ntmps84
   go_wp2_with fail
   refine wp_loop_rounds 1 ?_
   rw [rounds_succ]
   go_wp2_with fail
   go_ret
   exact ⟨-1, rfl, by simp, rfl⟩
  ·exact indexI_some b off len cap xs x w hl hc (by omega)
 clear h
 go_enter Try.func62, Try.ntmps62
 go_wp2_with fail
 refine hidx.mono ?_
 rintro e w' ⟨r, rfl, hr, rfl⟩
 have hd : decide (0 ≤ r) = decide (x ∈ xs) := by simp only [hr]
 have Hd := Lib.hid hd
 clear hr hidx hd
 go_wp2_with fail
 go_ret
 exact ⟨by rw [← Hd.out]; rfl, rfl⟩
end Go.Proofs.Ytennbiajnkobnaa

