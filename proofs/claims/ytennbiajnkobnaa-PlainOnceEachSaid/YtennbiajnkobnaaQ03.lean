/- Texts put together. -/
import Derived.Test.YtennbiajnkobnaaQ00
import Derived.Test.YtennbiajnkobnaaQ02
import Derived.Deep.AppendLies
import Derived.Lib.SmallJoins
import Derived.WalkMore
import Derived.Maps.Own
import Derived.Maps.OwnOps
import Derived.Maps.Views
import Derived.WideKeyPair
import Derived.WideKeyEntry
namespace Go.Proofs.Ytennbiajnkobnaa
theorem length_le_of_sub {α : Type} [DecidableEq α] : ∀ (l m : List α), l.Nodup → (∀ x ∈ l, x ∈ m) → l.length ≤ m.length
 | [], _, _, _ => by simp
 | x :: t, m, hn, hs => by
  have hx : x ∈ m := hs x (by simp)
  obtain ⟨h1, h2⟩ := List.nodup_cons.1 hn
  have := length_le_of_sub t (m.erase x) h2 (fun y hy => (List.mem_erase_of_ne (show y ≠ x from fun e => h1 (by rw [← e]; exact hy))).2 (hs y (by simp [hy])))
  rw [List.length_erase_of_mem hx] at this
  have := List.length_pos_of_mem hx
  simp; omega
theorem nodup_le {l : List Nat} {N : Nat} (hn : l.Nodup) (h : ∀ x ∈ l, x < N) : l.length ≤ N := by
 have := length_le_of_sub l (List.range N) hn (fun x hx => List.mem_range.2 (h x hx))
 simpa using this
theorem way_in {N : Nat} {L : Lks} (hR : InR N L) {a : Nat} (ha : a < N) : ∀ {k : Nat} {y : Int}, Way L k a y → 0 ≤ y ∧ y < N
 | 0, y, h => by have : (a : Int) = y := h; omega
 | k + 1, y, h => by
  obtain ⟨c, _, hm⟩ := h
  have := hR _ hm
  omega
theorem far_before {L : Lks} {a : Int} : ∀ {k : Nat} {y : Int}, Far L (k + 1) a y → ∃ c, Far L k a c ∧ (c, y) ∈ L := by
 intro k y h
 obtain ⟨c, hc, hm⟩ := h.1
 exact ⟨c, ⟨hc, fun j hj hw => h.2 (j + 1) (by omega) ⟨c, hw, hm⟩⟩, hm⟩
theorem far_each {L : Lks} {a : Int} : ∀ {k : Nat} {y : Int}, Far L k a y → ∀ e, e ≤ k → ∃ z, Far L e a z := by
 intro k
 induction k with
 | zero => intro y h e he; exact ⟨y, by rw [show e = 0 by omega]; exact h⟩
 | succ k ih =>
  intro y h e he
  by_cases h1 : e = k + 1
  ·exact ⟨y, h1 ▸ h⟩
  ·obtain ⟨c, hc, _⟩ := far_before h
   exact ih hc e (by omega)
/-- No node is farther than there are others. -/
theorem far_lt {N : Nat} {L : Lks} (hR : InR N L) {a : Nat} (ha : a < N) {k : Nat} {y : Int} (h : Far L k a y) : k < N := by
 have hex : ∀ e, ∃ z : Nat, e ≤ k → z < N ∧ Far L e a z := by
  intro e
  by_cases he : e ≤ k
  ·obtain ⟨z, hz⟩ := far_each h e he
   have hr := way_in hR ha hz.1
   exact ⟨z.toNat, fun _ => ⟨by omega, by rw [Int.toNat_of_nonneg hr.1]; exact hz⟩⟩
  ·exact ⟨0, fun h => absurd h he⟩
 obtain ⟨f, hf⟩ := Classical.axiomOfChoice hex
 have hn : ((List.range (k + 1)).map f).Nodup := by
  rw [List.Nodup, List.pairwise_map]
  refine List.Pairwise.imp_of_mem ?_ (List.nodup_range (n := k + 1))
  intro i j hi hj hne he
  have h1 := (hf i (by simp at hi; omega)).2
  have h2 := (hf j (by simp at hj; omega)).2
  have e2 : ((f i : Nat) : Int) = (f j : Nat) := by exact congrArg _ he
  rw [e2] at h1
  exact hne (h1.eq h2)
 have := nodup_le hn (fun x hx => by
  obtain ⟨e, he, rfl⟩ := List.mem_map.1 hx
  exact (hf e (by simp at he; omega)).1)
 simp at this
 omega
theorem getD_set_same {D : List Int} {z : Nat} {x : Int} (h : z < D.length) : (D.set z x).getD z (-1) = x := by simp [List.getD, h]
theorem getD_set_other {D : List Int} {z y : Nat} {x : Int} (h : y ≠ z) : (D.set z x).getD y (-1) = D.getD y (-1) := by
 simp only [List.getD]; rw [List.getElem?_set_ne (by omega)]
/-- What is known while nodes are found, those of the queue Q, of which the first i are done. -/
structure BFS (N : Nat) (L : Lks) (a : Nat) (D : List Int) (Q : List Nat) (i : Nat) : Prop where
 len : D.length = N
 far : ∀ y, y ∈ Q → y < N ∧ ∃ k : Nat, D.getD y (-1) = (k : Int) ∧ Far L k a y
 ass : ∀ y, y < N → y ∉ Q → D.getD y (-1) = -1
 nodup : Q.Nodup
 src : a ∈ Q
 mono : ∀ m n, m ≤ n → n < Q.length → D.getD (Q.getD m 0) (-1) ≤ D.getD (Q.getD n 0) (-1)
 near : i < Q.length → ∀ j, j < Q.length → D.getD (Q.getD j 0) (-1) ≤ D.getD (Q.getD i 0) (-1) + 1
 done : ∀ j, j < i → j < Q.length → ∀ z : Nat, (((Q.getD j 0 : Nat) : Int), (z : Int)) ∈ L → z ∈ Q ∧ D.getD z (-1) ≤ D.getD (Q.getD j 0) (-1) + 1
theorem getD_mem {Q : List Nat} {j : Nat} (h : j < Q.length) : Q.getD j 0 ∈ Q := by
 simp only [List.getD, List.getElem?_eq_getElem h, Option.getD_some]; exact List.getElem_mem h
theorem mem_getD {Q : List Nat} {x : Nat} (h : x ∈ Q) : ∃ j, j < Q.length ∧ Q.getD j 0 = x := by
 obtain ⟨j, hj, rfl⟩ := List.getElem_of_mem h
 exact ⟨j, hj, by simp [List.getD, hj]⟩
theorem getD_left {Q R : List Nat} {j : Nat} (h : j < Q.length) : (Q ++ R).getD j 0 = Q.getD j 0 := by
 simp [List.getD, List.getElem?_append_left h]
theorem getD_last {Q : List Nat} {z : Nat} : (Q ++ [z]).getD Q.length 0 = z := by simp [List.getD]
theorem BFS.le {N : Nat} {L : Lks} {a : Nat} {D : List Int} {Q : List Nat} {i : Nat} (h : BFS N L a D Q i) : Q.length ≤ N := nodup_le h.nodup fun x hx => (h.far x hx).1
theorem BFS.start {N : Nat} {L : Lks} {a : Nat} (ha : a < N) : BFS N L a ((List.replicate N (-1)).set a 0) [a] 0 := by
 have hl : ((List.replicate N (-1 : Int)).set a 0).length = N := by simp
 have h0 : ((List.replicate N (-1 : Int)).set a 0).getD a (-1) = 0 := getD_set_same (by simp; omega)
 refine ⟨hl, ?_, ?_, by simp, by simp, ?_, ?_, fun j hj => by omega⟩
 ·intro y hy
  have : y = a := by simpa using hy
  subst this
  exact ⟨ha, 0, h0, rfl, fun j hj => by omega⟩
 ·intro y hy hn
  have : y ≠ a := by simpa using hn
  rw [getD_set_other this]
  simp [List.getD, hy]
 ·intro m n hmn hn
  have : n = 0 := by simpa using hn
  have : m = 0 := by omega
  subst_vars; exact Int.le_refl _
 ·intro _ j hj
  have : j = 0 := by simpa using hj
  subst this; omega
/-- All that is as near as the node that is looked at has been found. -/
theorem BFS.found {N : Nat} {L : Lks} {a : Nat} {D : List Int} {Q : List Nat} {i : Nat} (h : BFS N L a D Q i) (hR : InR N L) (ha : a < N) :
  ∀ (k : Nat) (y : Int), (k : Int) ≤ D.getD (Q.getD i 0) (-1) → Way L k a y → y.toNat ∈ Q ∧ D.getD y.toNat (-1) ≤ k := by
 intro k
 induction k with
 | zero =>
  intro y _ hw
  have e : (a : Int) = y := hw
  subst e
  obtain ⟨_, d, hd, hf⟩ := h.far a h.src
  rw [Int.toNat_natCast]
  refine ⟨h.src, ?_⟩
  have : d = 0 := hf.eq ⟨rfl, fun j hj => by omega⟩
  omega
 | succ k ih =>
  intro y hk hw
  obtain ⟨c, hc, hm⟩ := hw
  obtain ⟨hcQ, hcd⟩ := ih c (by omega) hc
  have hcr := way_in hR ha hc
  have hyr := way_in hR ha (show Way L (k + 1) a y from ⟨c, hc, hm⟩)
  obtain ⟨j, hj, hje⟩ := mem_getD hcQ
  have hji : j < i := by
   rcases Nat.lt_or_ge j i with g | g
   ·exact g
   ·have := h.mono i j g hj
    rw [hje] at this
    omega
  have hm' : (((Q.getD j 0 : Nat) : Int), ((y.toNat : Nat) : Int)) ∈ L := by
   rw [hje, Int.toNat_of_nonneg hcr.1, Int.toNat_of_nonneg hyr.1]; exact hm
  obtain ⟨d1, d2⟩ := h.done j hji hj y.toNat hm'
  rw [hje] at d2
  exact ⟨d1, by omega⟩
theorem BFS.assign {N : Nat} {L : Lks} {a : Nat} {D : List Int} {Q : List Nat} {i z : Nat} (h : BFS N L a D Q i) (hR : InR N L) (ha : a < N) (hi : i < Q.length) (hz : z < N)
  (hm : (((Q.getD i 0 : Nat) : Int), (z : Int)) ∈ L) (hd : D.getD z (-1) = -1) : BFS N L a (D.set z (D.getD (Q.getD i 0) (-1) + 1)) (Q ++ [z]) i := by
 have hzQ : z ∉ Q := fun hq => by
  obtain ⟨_, k, hk, _⟩ := h.far z hq
  omega
 have keep : ∀ y, y ∈ Q → (D.set z (D.getD (Q.getD i 0) (-1) + 1)).getD y (-1) = D.getD y (-1) := fun y hy => getD_set_other (fun e => hzQ (e ▸ hy))
 have new : (D.set z (D.getD (Q.getD i 0) (-1) + 1)).getD z (-1) = D.getD (Q.getD i 0) (-1) + 1 := getD_set_same (by rw [h.len]; exact hz)
 obtain ⟨_, u, hu, hfu⟩ := h.far _ (getD_mem hi)
 have hnear := h.near hi
 refine ⟨by rw [List.length_set]; exact h.len, ?_, ?_, ?_, by simp [h.src], ?_, ?_, ?_⟩
 ·intro y hy
  rcases List.mem_append.1 hy with hy | hy
  ·rw [keep y hy]; exact h.far y hy
  ·have : y = z := by simpa using hy
   subst this
   refine ⟨hz, u + 1, by rw [new, hu]; omega, ⟨_, hfu.1, hm⟩, fun j hj hw => ?_⟩
   obtain ⟨q, _⟩ := h.found hR ha j y (by omega) hw
   rw [Int.toNat_natCast] at q
   exact hzQ q
 ·intro y hy hn
  have h1 : y ∉ Q := fun hq => hn (by simp [hq])
  have h2 : y ≠ z := fun e => hn (by simp [e])
  rw [getD_set_other h2]; exact h.ass y hy h1
 ·rw [List.nodup_append]
  exact ⟨h.nodup, by simp, fun x hx y hy e => by
   have h1 : y = z := by simpa using hy
   exact hzQ (by rw [← h1, ← e]; exact hx)⟩
 ·intro m n hmn hn
  rw [List.length_append] at hn
  simp at hn
  by_cases hnl : n < Q.length
  ·rw [getD_left hnl, getD_left (show m < Q.length by omega), keep _ (getD_mem hnl), keep _ (getD_mem (by omega))]
   exact h.mono m n hmn hnl
  ·have : n = Q.length := by omega
   subst this
   rw [getD_last, new]
   by_cases hml : m < Q.length
   ·rw [getD_left hml, keep _ (getD_mem hml)]; exact hnear m hml
   ·have : m = Q.length := by omega
    subst this
    rw [getD_last, new]; exact Int.le_refl _
 ·intro _ j hj
  rw [List.length_append] at hj
  simp at hj
  rw [getD_left hi, keep _ (getD_mem hi)]
  by_cases hjl : j < Q.length
  ·rw [getD_left hjl, keep _ (getD_mem hjl)]; exact hnear j hjl
  ·have : j = Q.length := by omega
   subst this
   rw [getD_last, new]; exact Int.le_refl _
 ·intro j hj hjl y hy
  have hjq : j < Q.length := by omega
  rw [getD_left hjq] at hy ⊢
  obtain ⟨d1, d2⟩ := h.done j hj hjq y hy
  rw [keep _ d1, keep _ (getD_mem hjq)]
  exact ⟨by simp [d1], d2⟩
theorem BFS.next {N : Nat} {L : Lks} {a : Nat} {D : List Int} {Q : List Nat} {i : Nat} (h : BFS N L a D Q i) (hi : i < Q.length)
  (hall : ∀ z : Nat, (((Q.getD i 0 : Nat) : Int), (z : Int)) ∈ L → z ∈ Q) : BFS N L a D Q (i + 1) := by
 have hnear := h.near hi
 refine ⟨h.len, h.far, h.ass, h.nodup, h.src, h.mono, ?_, ?_⟩
 ·intro h1 j hj
  have := hnear j hj
  have := h.mono i (i + 1) (by omega) h1
  omega
 ·intro j hj hjl z hz
  by_cases hji : j < i
  ·exact h.done j hji hjl z hz
  ·have : j = i := by omega
   subst this
   have hq := hall z hz
   obtain ⟨m, hm, rfl⟩ := mem_getD hq
   exact ⟨hq, hnear m hm⟩
theorem BFS.stop {N : Nat} {L : Lks} {a : Nat} {D : List Int} {Q : List Nat} {i : Nat} (h : BFS N L a D Q i) (hR : InR N L) (ha : a < N) (hi : Q.length ≤ i) : IsDist N L a D := by
 refine ⟨h.len, fun y hy => ?_⟩
 by_cases hq : y ∈ Q
 ·obtain ⟨_, k, hk, hf⟩ := h.far y hq
  exact .inl ⟨k, hk, hf⟩
 ·refine .inr ⟨h.ass y hy hq, ?_⟩
  have key : ∀ (k : Nat) (y : Int), Way L k a y → y.toNat ∈ Q := by
   intro k
   induction k with
   | zero => intro y hw; have e : (a : Int) = y := hw; subst e; rw [Int.toNat_natCast]; exact h.src
   | succ k ih =>
    intro y hw
    have hyr := way_in hR ha hw
    obtain ⟨c, hc, hm⟩ := hw
    have hcr := way_in hR ha hc
    obtain ⟨j, hj, hje⟩ := mem_getD (ih c hc)
    exact (h.done j (by omega) hj y.toNat (by rw [hje, Int.toNat_of_nonneg hcr.1, Int.toNat_of_nonneg hyr.1]; exact hm)).1
  intro k hw
  have := key k y hw
  rw [Int.toNat_natCast] at this
  exact hq this
theorem BFS.full {N : Nat} {L : Lks} {a : Nat} {D : List Int} {Q : List Nat} {i : Nat} (h : BFS N L a D Q i) (hi : Q.length = N) : IsDist N L a D := by
 have hall : ∀ y, y < N → y ∈ Q := by
  intro y hy
  refine Classical.byContradiction fun hn => ?_
  have h2 : (y :: Q).Nodup := List.nodup_cons.2 ⟨hn, h.nodup⟩
  have := nodup_le h2 (fun x hx => by
   rcases List.mem_cons.1 hx with rfl | hx
   ·exact hy
   ·exact (h.far x hx).1)
  simp at this
  omega
 refine ⟨h.len, fun y hy => ?_⟩
 obtain ⟨_, k, hk, hf⟩ := h.far y (hall y hy)
 exact .inl ⟨k, hk, hf⟩
/-- What is known on level k, behind its first i links. -/
structure Lev (N : Nat) (L : Lks) (a : Nat) (D : List Int) (k i : Nat) : Prop where
 len : D.length = N
 val : ∀ y : Nat, y < N → D.getD y (-1) = -1 ∨ ∃ d : Nat, d ≤ k + 1 ∧ D.getD y (-1) = (d : Int) ∧ Far L d a y
 all : ∀ y : Nat, y < N → ∀ d : Nat, d ≤ k → Far L d a y → D.getD y (-1) = (d : Int)
 proc : ∀ m, m < i → m < L.length → D.getD (lk L m).1.toNat (-1) = (k : Int) → D.getD (lk L m).2.toNat (-1) ≠ -1
theorem Lev.start {N : Nat} {L : Lks} {a : Nat} (ha : a < N) : Lev N L a ((List.replicate N (-1)).set a 0) 0 0 := by
 have h0 : ((List.replicate N (-1 : Int)).set a 0).getD a (-1) = 0 := getD_set_same (by simp; omega)
 refine ⟨by simp, ?_, ?_, fun m hm => by omega⟩
 ·intro y hy
  by_cases e : y = a
  ·subst e; exact .inr ⟨0, by omega, h0, rfl, fun j hj => by omega⟩
  ·left; rw [getD_set_other e]; simp [List.getD, hy]
 ·intro y hy d hd hf
  have hd0 : d = 0 := by omega
  subst hd0
  have e : (a : Int) = y := hf.1
  have e' : a = y := by omega
  subst e'; exact h0
theorem Lev.keep {N : Nat} {L : Lks} {a : Nat} {D : List Int} {k i : Nat} (h : Lev N L a D k i) (hi : i < L.length)
  (hno : D.getD (lk L i).1.toNat (-1) = (k : Int) → ¬ D.getD (lk L i).2.toNat (-1) < 0) : Lev N L a D k (i + 1) := by
 refine ⟨h.len, h.val, h.all, fun m hm hml hk => ?_⟩
 by_cases hmi : m < i
 ·exact h.proc m hmi hml hk
 ·have : m = i := by omega
  subst this
  have := hno hk
  omega
theorem Lev.set {N : Nat} {L : Lks} {a : Nat} {D : List Int} {k i : Nat} (h : Lev N L a D k i) (hR : InR N L) (hi : i < L.length)
  (hx : D.getD (lk L i).1.toNat (-1) = (k : Int)) (hy : D.getD (lk L i).2.toNat (-1) < 0) : Lev N L a (D.set (lk L i).2.toNat ((k : Int) + 1)) k (i + 1) := by
 have hr := hR _ (lk_mem hi)
 obtain ⟨x, hxe⟩ : ∃ x : Nat, (lk L i).1 = (x : Int) := ⟨(lk L i).1.toNat, by omega⟩
 obtain ⟨y, hye⟩ : ∃ y : Nat, (lk L i).2 = (y : Int) := ⟨(lk L i).2.toNat, by omega⟩
 have hlk : lk L i = ((x : Int), (y : Int)) := by rw [← hxe, ← hye]
 have hm := lk_mem hi
 rw [hlk] at hr hx hy hm ⊢
 simp only [Int.toNat_natCast] at hx hy hr ⊢
 have hxN : x < N := by omega
 have hyN : y < N := by omega
 have new : (D.set y ((k : Int) + 1)).getD y (-1) = (k : Int) + 1 := getD_set_same (by rw [h.len]; exact hyN)
 have hy1 : D.getD y (-1) = -1 := by
  rcases h.val y hyN with g | ⟨d, _, g, _⟩
  ·exact g
  ·omega
 have hfar : Far L (k + 1) a y := by
  rcases h.val x hxN with g | ⟨d, _, g, hf⟩
  ·omega
  ·have : d = k := by omega
   subst this
   refine ⟨⟨_, hf.1, hm⟩, fun j hj hw => ?_⟩
   obtain ⟨e, he, hfe⟩ := far_of_way hw
   have := h.all y hyN e (by omega) hfe
   omega
 refine ⟨by rw [List.length_set]; exact h.len, ?_, ?_, ?_⟩
 ·intro z hz
  by_cases e : z = y
  ·subst e; exact .inr ⟨k + 1, by omega, by rw [new]; omega, hfar⟩
  ·rw [getD_set_other e]; exact h.val z hz
 ·intro z hz d hd hf
  by_cases e : z = y
  ·subst e
   have := hf.eq hfar
   omega
  ·rw [getD_set_other e]; exact h.all z hz d hd hf
 ·intro m hm hml hk
  by_cases e2 : (lk L m).2.toNat = y
  ·rw [e2, new]; omega
  ·rw [getD_set_other e2]
   by_cases e1 : (lk L m).1.toNat = y
   ·rw [e1, new] at hk; omega
   ·rw [getD_set_other e1] at hk
    by_cases hmi : m < i
    ·exact h.proc m hmi hml hk
    ·have : m = i := by omega
     subst this
     rw [hlk] at e2
     simp at e2
theorem Lev.next {N : Nat} {L : Lks} {a : Nat} {D : List Int} {k i : Nat} (h : Lev N L a D k i) (hR : InR N L) (ha : a < N) (hi : L.length ≤ i) : Lev N L a D (k + 1) 0 := by
 refine ⟨h.len, ?_, ?_, fun m hm => by omega⟩
 ·intro y hy
  rcases h.val y hy with g | ⟨d, h1, h2, h3⟩
  ·exact .inl g
  ·exact .inr ⟨d, by omega, h2, h3⟩
 ·intro y hy d hd hf
  by_cases hdk : d ≤ k
  ·exact h.all y hy d hdk hf
  ·have : d = k + 1 := by omega
   subst this
   obtain ⟨c, hc, hm⟩ := far_before hf
   have hcr := way_in hR ha hc.1
   obtain ⟨m, hml, hme⟩ := mem_lk hm
   have hcN : c.toNat < N := by omega
   have hcd := h.all c.toNat hcN k (Nat.le_refl _) (by rw [Int.toNat_of_nonneg hcr.1]; exact hc)
   have hp := h.proc m (by omega) hml (by rw [hme]; exact hcd)
   rw [hme] at hp
   simp only [Int.toNat_natCast] at hp
   rcases h.val y hy with g | ⟨d, h1, h2, h3⟩
   ·exact absurd g hp
   ·rw [h2, h3.eq hf]
theorem Lev.stop {N : Nat} {L : Lks} {a : Nat} {D : List Int} (h : Lev N L a D N 0) (hR : InR N L) (ha : a < N) : IsDist N L a D := by
 refine ⟨h.len, fun y hy => ?_⟩
 rcases h.val y hy with g | ⟨d, h1, h2, h3⟩
 ·refine .inr ⟨g, fun k hw => ?_⟩
  obtain ⟨e, he, hf⟩ := far_of_way hw
  have := h.all y hy e (Nat.le_of_lt (far_lt hR ha hf)) hf
  omega
 ·exact .inl ⟨d, h2, h3⟩
end Go.Proofs.Ytennbiajnkobnaa
namespace Go.Proofs.Ytennbiajnkobnaa
open Go.RowKit Go.PlainAid
def ivs (D : List Int) : List Value := D.map (Value.int .i64)
def nvs (Q : List Nat) : List Value := Q.map fun n : Nat => Value.int .i64 (n : Int)
theorem ivs_get {D : List Int} {y : Nat} (h : y < D.length) : (ivs D)[y]? = some (.int .i64 (D.getD y (-1))) := by simp [ivs, List.getD, h]
theorem nvs_get {Q : List Nat} {y : Nat} (h : y < Q.length) : (nvs Q)[y]? = some (.int .i64 ((Q.getD y 0 : Nat) : Int)) := by simp [nvs, List.getD, h]
structure DAt (w : World) (T : TypeId) (N : Int) (v : Value) (g : Nat) (wr : World) (D : List Int) : Prop where
 bel : Below w.heap.size w wr
 box : wr.heap[w.heap.size]? = some (.cells #[.int .i64 N, v] T (0, 0))
 dist : wr.heap[g]? = some (.cells (ivs D).toArray 3 (0, 0))
 gt : w.heap.size < g
theorem DAt.lt {w wr : World} {T : TypeId} {N : Int} {v : Value} {g : Nat} {D : List Int} (h : DAt w T N v g wr D) : g < wr.heap.size := lt_of_block h.dist
theorem DAt.size {w wr : World} {T : TypeId} {N : Int} {v : Value} {g : Nat} {D : List Int} (h : DAt w T N v g wr D) : w.heap.size < wr.heap.size := lt_of_block h.box
theorem DAt.box0 {w wr : World} {T : TypeId} {N : Int} {v : Value} {g : Nat} {D : List Int} (h : DAt w T N v g wr D) : wr.cell? ⟨w.heap.size, 0, none⟩ = some (.int .i64 N) := (cell_of_row wr _ 0 _ _ (0, 0) h.box).trans rfl
theorem DAt.box1 {w wr : World} {T : TypeId} {N : Int} {v : Value} {g : Nat} {D : List Int} (h : DAt w T N v g wr D) : wr.cell? ⟨w.heap.size, 1, none⟩ = some v := (cell_of_row wr _ 1 _ _ (0, 0) h.box).trans rfl
theorem DAt.cell {w wr : World} {T : TypeId} {N : Int} {v : Value} {g : Nat} {D : List Int} (h : DAt w T N v g wr D) {y : Nat} (hy : y < D.length) : wr.cell? ⟨g, y, none⟩ = some (.int .i64 (D.getD y (-1))) :=
 (cell_of_row wr _ y _ _ (0, 0) h.dist).trans (by simpa using ivs_get hy)
theorem DAt.free {w wr : World} {T : TypeId} {N : Int} {v : Value} {g : Nat} {D : List Int} (h : DAt w T N v g wr D) (y : Nat) : wr.frozen? ⟨g, y, none⟩ = false := by simp [World.frozen?, h.dist]
theorem DAt.grown {w wr w' : World} {T : TypeId} {N : Int} {v : Value} {g : Nat} {D : List Int} (h : DAt w T N v g wr D) {row : Option Nat} (hg : wr.grownBy w' row) (hr : ∀ k, row = some k → g < k) : DAt w T N v g w' D := by
 have hlt := h.lt
 have hsz := h.size
 have hgt := h.gt
 refine ⟨h.bel.grown hg (Nat.le_of_lt hsz) (fun k hk => by have := hr k hk; omega), ?_, ?_, hgt⟩
 ·rw [hg.block _ hsz (fun e => by have := hr _ e.symm; omega)]; exact h.box
 ·rw [hg.block _ hlt (fun e => by have := hr _ e.symm; omega)]; exact h.dist
theorem DAt.below {w wr w' : World} {T : TypeId} {N : Int} {v : Value} {g : Nat} {D : List Int} (h : DAt w T N v g wr D) (hb : Below wr.heap.size wr w') : DAt w T N v g w' D :=
 h.grown (row := none) ⟨hb.os, hb.tape, hb.output, hb.size, fun k hk _ => hb.block k hk⟩ (fun k hk => by cases hk)
theorem DAt.set {w wr : World} {T : TypeId} {N : Int} {v : Value} {g : Nat} {D : List Int} (h : DAt w T N v g wr D) (z : Nat) (x : Int) : DAt w T N v g (wr.setCell ⟨g, z, none⟩ (.int .i64 x)) (D.set z x) := by
 have hgt := h.gt
 refine ⟨h.bel.setCell (by simp; omega) _, ?_, ?_, hgt⟩
 ·rw [Below.heap_setCell _ _ _ _ (by simp; omega)]; exact h.box
 ·rw [setCell_eq_setRow wr g z _ _ (0, 0) _ h.dist, setRow_heap wr g _ _ _ _ h.dist]
  congr 2
  apply Array.ext'
  simp [ivs, List.map_set]
def QAt (g : Nat) (wr : World) (q : Value) (Q : List Nat) : Prop := wr.ownsRow (g + 1) 3 1 q Q.length (nvs Q)
theorem QAt.grown {g : Nat} {wr w' : World} {q : Value} {Q : List Nat} (h : QAt g wr q Q) (hb : Below wr.heap.size wr w') : QAt g w' q Q :=
 h.kept (row := none) ⟨hb.os, hb.tape, hb.output, hb.size, fun k hk _ => hb.block k hk⟩ (by cases hv : q.ownBlock <;> simp)
theorem QAt.set {g : Nat} {wr : World} {q : Value} {Q : List Nat} (h : QAt g wr q Q) (z : Nat) (u : Value) : QAt g (wr.setCell ⟨g, z, none⟩ u) q Q := ownsRow_setCell_below h (by simp) _
theorem QAt.one (g : Nat) (wr : World) (a : Nat) (hg : g < wr.heap.size) : QAt g (wr.alloc (.cells #[.int .i64 (a : Int)] 3)) (.slice (some ⟨wr.heap.size, 0, none⟩) 1 1) [a] :=
 ⟨rfl, .inr ⟨wr.heap.size, 1, _, rfl, by omega, heap_alloc_new wr _, Nat.le_refl _, by unfold maxLen; omega, rfl, by simp [nvs]⟩⟩
theorem QAt.form {g : Nat} {wr : World} {q : Value} {Q : List Nat} (h : QAt g wr q Q) (hp : 0 < Q.length) : ∃ b c, q = .slice (some ⟨b, 0, none⟩) Q.length c ∧ g < b ∧ b < wr.heap.size ∧ ∀ j, j < Q.length → wr.cell? ⟨b, j, none⟩ = some (.int .i64 ((Q.getD j 0 : Nat) : Int)) := by
 obtain ⟨b, c, rfl⟩ := Go.Joins.ownsRow_form h hp
 have hl := h.lt b rfl
 refine ⟨b, c, rfl, by omega, hl.2, fun j hj => ?_⟩
 have := h.cells (g := b) rfl j _ (nvs_get hj)
 have e : (⟨b, 0, none⟩ : Addr).add j = ⟨b, j, none⟩ := by unfold Addr.add; split <;> simp_all
 rw [e] at this; exact this
theorem DAt.ints {w wr : World} {T : TypeId} {N : Nat} {v : Value} {g : Nat} {D : List Int} (h : DAt w T N v g wr D) (hl : D.length = N) (h1 : 1 ≤ N) : IntsAt wr (.slice (some ⟨g, 0, none⟩) N N) D := by
 refine .inr ⟨g, 0, N, N, rfl, hl, h1, h.lt, Nat.le_refl _, fun i hi => ?_⟩
 rw [Nat.zero_add, h.cell (by omega)]
 simp [List.getD, show i < D.length by omega]
/-- The links that are gone through, apart from the queue and from what is told. -/
def OAt (g : Nat) (wr : World) (q u : Value) (O : List Int) : Prop :=
 (∃ a cap, u = .slice a 0 cap ∧ O = []) ∨
 ∃ b off len cap, u = .slice (some ⟨b, off, none⟩) len cap ∧ O.length = len ∧ 0 < len ∧ b < wr.heap.size ∧ b ≠ g ∧ q.ownBlock ≠ some b ∧ len ≤ cap ∧ ∀ i, i < len → wr.cell? ⟨b, off + i, none⟩ = some (.int .i64 (O.getD i 0))
theorem OAt.set {g : Nat} {wr : World} {q u : Value} {O : List Int} (h : OAt g wr q u O) (z : Nat) (x : Value) : OAt g (wr.setCell ⟨g, z, none⟩ x) q u O := by
 rcases h with h | ⟨b, off, len, cap, h1, h2, h3, h4, h5, h6, h7, h8⟩
 ·exact .inl h
 ·exact .inr ⟨b, off, len, cap, h1, h2, h3, by rw [World.size_setCell]; exact h4, h5, h6, h7, fun i hi => (World.cell?_setCell_other wr _ _ _ (by simp <;> omega)).trans (h8 i hi)⟩
theorem OAt.grown {g gq H : Nat} {wr w1 w' : World} {q u : Value} {O : List Int} {c n : Nat} (h : OAt g wr q u O) (hb : Below wr.heap.size wr w1) (hg : w1.grownBy w' q.ownBlock) (hq : q.ownBlock = some gq ∨ gq = H) (hH : wr.heap.size ≤ H) :
  OAt g w' (.slice (some ⟨gq, 0, none⟩) n c) u O := by
 rcases h with h | ⟨b, off, len, cap, h1, h2, h3, h4, h5, h6, h7, h8⟩
 ·exact .inl h
 ·refine .inr ⟨b, off, len, cap, h1, h2, h3, Nat.lt_of_lt_of_le h4 (Nat.le_trans hb.size hg.size), h5, ?_, h7, fun i hi => ?_⟩
  ·intro e
   have e' : gq = b := by simpa [Value.ownBlock] using e
   rcases hq with hq | hq
   ·exact h6 (by rw [hq, e'])
   ·omega
  ·exact hg.cell ((hb.cell (by exact h4)).trans (h8 i hi)) (fun e => h6 e.symm)
theorem OAt.start {g : Nat} {w0 wr : World} {q u : Value} {O : List Int} (h : IntsAt wr u O) (hf : ∀ k, u.ownBlock = some k → w0.heap.size ≤ k) (hg : g < w0.heap.size) (hq : ∀ k, q.ownBlock = some k → k < w0.heap.size) : OAt g wr q u O := by
 rcases h with h | ⟨b, off, len, cap, rfl, h2, h3, h4, h5, h6⟩
 ·exact .inl h
 ·have := hf b rfl
  exact .inr ⟨b, off, len, cap, rfl, h2, h3, h4, by omega, fun e => by have := hq _ e; omega, h5, h6⟩
theorem outs_get {L : Lks} {n : Int} {m : Nat} (h : m < (sel 0 L n).length) : ∃ l : Nat, (sel 0 L n).getD m 0 = (l : Int) ∧ l < L.length ∧ (lk L l).1 = n := by
 have hm : (sel 0 L n).getD m 0 ∈ sel 0 L n := by simp only [List.getD, List.getElem?_eq_getElem h, Option.getD_some]; exact List.getElem_mem h
 obtain ⟨i, h1, h2, h3⟩ := mem_selL.1 hm
 exact ⟨i, h3, h1, by simpa [sideOf] using h2⟩
theorem outs_all {L : Lks} {n z : Int} (h : (n, z) ∈ L) : ∃ m, m < (sel 0 L n).length ∧ (lk L ((sel 0 L n).getD m 0).toNat).2 = z := by
 obtain ⟨l, hl, he⟩ := mem_lk h
 have hm : (l : Int) ∈ sel 0 L n := mem_selL.2 ⟨l, hl, by simp [sideOf, he], rfl⟩
 obtain ⟨m, hml, hme⟩ := List.getElem_of_mem hm
 refine ⟨m, hml, ?_⟩
 have : (sel 0 L n).getD m 0 = (l : Int) := by simp [List.getD, hml, hme]
 rw [this, Int.toNat_natCast, he]
end Go.Proofs.Ytennbiajnkobnaa
namespace Go.Proofs.Ytennbiajnkobnaa
open Go.RowKit Go.PlainAid
theorem intsAt_slice {w : World} {v : Value} {xs : List Int} (h : IntsAt w v xs) : ∃ a cap, v = .slice a xs.length cap := by
 rcases h with ⟨a, cap, rfl, rfl⟩ | ⟨b, off, len, cap, rfl, hl, -⟩
 ·exact ⟨a, cap, rfl⟩
 ·exact ⟨_, cap, by rw [hl]⟩
theorem rep_at (b g : Nat) (N : Nat) (w : World) (hg : g = w.heap.size) (h0 : 1 ≤ N) (h6 : N ≤ 6) (hc : w.cell? ⟨b, 0, none⟩ = some (.int .i64 (-1))) :
  Calls Try.prog 85 #[.slice (some ⟨b, 0, none⟩) 1 1, .int .i64 (N : Int)] w fun e w' => e = .returned (.slice (some ⟨g, 0, none⟩) N N) ∧ w'.heap[g]? = some (.cells (ivs (List.replicate N (-1))).toArray 3 (0, 0)) ∧ Below w.heap.size w w' := by
 subst hg
 refine (repeat_any b N w h0 h6 hc).mono ?_
 rintro e w' ⟨rfl, h1, h2⟩
 refine ⟨rfl, ?_, h2⟩
 rw [h1]
 simp [mix, ivs]
theorem out_at (N n : Int) (v : Value) (L : Lks) (O : List Int) (w : World) (h : LinksAt w v L) (hn : L.length ≤ 1000000) (hO : O = sel 0 L n) :
  Calls Try.prog 86 #[gv N v, .int .i64 n] w fun z w' => ∃ u, z = .returned u ∧ IntsAt w' u O ∧ (∀ k, u.ownBlock = some k → w.heap.size ≤ k) ∧ Below w.heap.size w w' := by
 subst hO; exact out_any N n v L w h hn
set_option maxHeartbeats 8000000 in
set_option maxRecDepth 100000 in
theorem dist_some (N a : Nat) (v : Value) (L : Lks) (w : World) (hL : LinksAt w v L) (hR : InR N L) (h1 : 1 ≤ N) (h6 : N ≤ 6) (ha : a < N) (hn : L.length ≤ 1000000) :
  Calls Try.prog 63 #[gv N v, .int .i64 (a : Int)] w fun e w' => ∃ u D, e = .returned u ∧ IsDist N L a D ∧ IntsAt w' u D ∧ Below w.heap.size w w' := by
 obtain ⟨i0, hi0, hz0, hz1, hz2⟩ := info_parts infoInt
 obtain ⟨w0, hw0⟩ : ∃ w0, w0 = w.alloc (.cells #[.int .i64 (N : Int), v] 24) := ⟨_, rfl⟩
 have bel0 : Below w.heap.size w w0 := by rw [hw0]; exact (Below.refl _ w).alloc (Nat.le_refl _) _
 have bx0 : w0.heap[w.heap.size]? = some (.cells #[.int .i64 (N : Int), v] 24 (0, 0)) := by rw [hw0]; exact heap_alloc_new w _
 have s0 : w0.heap.size = w.heap.size + 1 := by rw [hw0]; simp
 have x0 : w0.cell? ⟨w.heap.size, 0, none⟩ = some (.int .i64 (N : Int)) := (cell_of_row w0 _ 0 _ _ (0, 0) bx0).trans rfl
 have x1 : w0.cell? ⟨w.heap.size, 1, none⟩ = some v := (cell_of_row w0 _ 1 _ _ (0, 0) bx0).trans rfl
 have B0 := Lib.hid bel0
 have X0 := Lib.hid bx0
 have S0 := Lib.hid s0
 have HL := Lib.hid hL
 unfold gv
 clear bel0 bx0 hL s0
 go_enter Try.func63, Try.ntmps63
 go_wp2_with fail
 go_step3
 go_wp2_with fail
 rw [← hw0]
 clear hw0
 refine (has_any N a v true _ (decide_eq_true ⟨by omega, by omega⟩)).mono ?_
 rintro e w1 ⟨rfl, hb1⟩
 have y0 := (hb1.cell (by rw [S0.out]; simp)).trans x0
 have y1 := (hb1.cell (by rw [S0.out]; simp)).trans x1
 have B1 := Lib.hid hb1
 obtain ⟨g, hg⟩ : ∃ g, g = (w1.alloc (.cells #[.int .i64 (-1)] 3)).heap.size := ⟨_, rfl⟩
 have HG := Lib.hid hg
 have hc : (w1.alloc (.cells #[.int .i64 (-1)] 3)).cell? ⟨w1.heap.size, 0, none⟩ = some (.int .i64 (-1)) := World.cell?_alloc_at _ _ _ _ rfl
 have HC := Lib.hid hc
 have y2 : (w1.alloc (.cells #[.int .i64 (-1)] 3)).cell? ⟨w.heap.size, 0, none⟩ = some (.int .i64 (N : Int)) := (World.cell?_alloc_lt _ _ _ (World.block_lt_of_cell? w1 _ y0)).trans y0
 clear hb1 x0 x1 hg hc
 go_wp2_with fail
 refine (rep_at _ g N _ HG.out h1 h6 HC.out).mono ?_
 rintro e w2 ⟨rfl, hd2, hb2⟩
 have hD : DAt w 24 N v g w2 (List.replicate N (-1)) := by
  have hg := HG.out
  rw [size_alloc] at hg
  have hz1 := B1.out.size
  have hs0 := S0.out
  refine ⟨?_, ?_, hd2, by omega⟩
  ·exact below_step (by rw [size_alloc]; omega) ((below_step (by omega) B0.out B1.out).alloc (by omega) _) hb2
  ·rw [hb2.block _ (by rw [size_alloc]; omega), heap_alloc_old _ _ (by omega), B1.out.block _ (by omega)]; exact X0.out
 have z0 := hD.box0
 have z1 := hD.box1
 have zc := hD.cell (y := a) (by simp; omega)
 have zf := hD.free a
 have hlt := hD.lt
 have HD := Lib.hid hD
 clear hd2 hb2 hD
 have hD3 : DAt w 24 N v g ((w2.setCell ⟨g, a, none⟩ (.int .i64 0)).alloc (.cells #[.int .i64 (a : Int)] 3)) ((List.replicate N (-1)).set a 0) :=
  (HD.out.set a 0).below ((Below.refl _ _).alloc (Nat.le_refl _) _)
 have hQ3 : QAt g ((w2.setCell ⟨g, a, none⟩ (.int .i64 0)).alloc (.cells #[.int .i64 (a : Int)] 3)) (.slice (some ⟨w2.heap.size, 0, none⟩) 1 1) [a] := by
  have := QAt.one g (w2.setCell ⟨g, a, none⟩ (.int .i64 0)) a (by rw [World.size_setCell]; exact hlt)
  rw [World.size_setCell] at this
  exact this
 have HD3 := Lib.hid hD3
 have HQ3 := Lib.hid hQ3
 clear hD3 hQ3
 go_wp2_with fail
 go_step3
 go_wp2_with fail
 clear z0 z1 zc zf y0 y1 y2
 go_loopw [6, 7] (fun q i wr => ∃ (D : List Int) (Q : List Nat) (k : Nat), i = .int .i64 k ∧ DAt w 24 N v g wr D ∧ QAt g wr q Q ∧ BFS N L a D Q k ∧ k ≤ Q.length) (fun _ i _ => 8 - (intOf i).toNat)
 case atStart => exact ⟨_, [a], 0, rfl, HD3.out, HQ3.out, BFS.start ha, by omega⟩
 case round =>
  obtain ⟨D, Q, k, rfl, hD, hQ, hB, hk⟩ := hrel
  have hQl := hB.le
  obtain ⟨b, c, rfl, hgb, hbl, hqc⟩ := hQ.form (List.length_pos_of_mem hB.src)
  have HD1 := Lib.hid hD
  have HQ1 := Lib.hid hQ
  have HB1 := Lib.hid hB
  have z0 := hD.box0
  have z1 := hD.box1
  have hsz := hD.size
  have hglt := hD.lt
  by_cases hlt2 : k < Q.length
  ·have hlt' : (k : Int) < Q.length := by omega
   have qc := hqc k hlt2
   obtain ⟨u, hu⟩ : ∃ u, u = Q.getD k 0 := ⟨_, rfl⟩
   rw [← hu] at qc
   obtain ⟨O, hO⟩ : ∃ O, O = sel 0 L (u : Int) := ⟨_, rfl⟩
   have HO := Lib.hid hO
   have hOl : O.length ≤ 1000000 := by rw [hO]; exact Nat.le_trans (selL_length _ _) hn
   have HU := Lib.hid hu
   have HL1 := Lib.hid (HL.out.below (hD.bel))
   clear hD hQ hB hqc hu hO
   obtain ⟨wo, hwo⟩ : ∃ wo, wo = wr := ⟨_, rfl⟩
   subst hwo
   go_wp2_with fail
   go_region_held3 (fun w' => w'.cell? ⟨w.heap.size, 0, none⟩ = some (.int .i64 (N : Int)) ∧ w'.cell? ⟨w.heap.size, 1, none⟩ = some v ∧ w'.cell? ⟨b, k, none⟩ = some (.int .i64 (u : Int))) (first | exact ⟨z0, z1, qc⟩ | exact K1.out)
    (first
     | (go_at_call 86; refine (out_at N u v L O _ (show LinksAt wo.drew v L from HL1.out.below (below_drewN (Below.refl _ wo) 1)) hn HO.out).mono ?_; rintro e w4 ⟨uo, rfl, hi, hfr, hb0⟩; have hb1 : Below wo.heap.size wo w4 := (below_drewN (Below.refl _ wo) 1).trans hb0; obtain ⟨ao, co, rfl⟩ := intsAt_slice hi; have K1 := Lib.hid (show w4.cell? ⟨w.heap.size, 0, none⟩ = some (.int .i64 (N : Int)) ∧ w4.cell? ⟨w.heap.size, 1, none⟩ = some v ∧ w4.cell? ⟨b, k, none⟩ = some (.int .i64 (u : Int)) from ⟨(hb1.cell (by exact hsz)).trans z0, (hb1.cell (by exact hsz)).trans z1, (hb1.cell (by exact hbl)).trans qc⟩); have HI := Lib.hid hi; have HF := Lib.hid hfr; have HB4 := Lib.hid hb1; clear hb1 hb0 hi hfr))
   go_wp2_with fail
   have hO4 : OAt g w4 (.slice (some ⟨b, 0, none⟩) Q.length c) (.slice ao O.length co) O :=
    OAt.start (w0 := wo) HI.out (fun k hk => HF.out k hk) hglt (fun k hk => by simp [Value.ownBlock] at hk; omega)
   have HO4 := Lib.hid hO4
   have HD4 := Lib.hid (HD1.out.below HB4.out)
   have HQ4 := Lib.hid (HQ1.out.grown HB4.out)
   clear hO4 z0 z1 qc
   go_loopw [6, 37] (fun q j wr => ∃ (D : List Int) (Q : List Nat) (m : Nat), j = .int .i64 m ∧ m ≤ O.length ∧ DAt w 24 N v g wr D ∧ QAt g wr q Q ∧ BFS N L a D Q k ∧ k < Q.length ∧ Q.getD k 0 = u ∧ OAt g wr q (.slice ao O.length co) O ∧ ∀ j, j < m → (lk L (O.getD j 0).toNat).2.toNat ∈ Q) (fun _ j _ => O.length - (intOf j).toNat)
   case atStart => exact ⟨D, Q, 0, rfl, by omega, HD4.out, HQ4.out, HB1.out, hlt2, HU.out.symm, HO4.out, fun j hj => by omega⟩
   case round =>
    obtain ⟨D2, Q2, m, rfl, hm, hD2, hQ2, hB2, hk2, hu2, hO2, hall⟩ := hrel
    have hQl2 := hB2.le
    obtain ⟨b2, c2, rfl, hgb2, hbl2, hqc2⟩ := hQ2.form (by omega)
    have qc2 := hqc2 k hk2
    rw [hu2] at qc2
    have HD2 := Lib.hid hD2
    have HQ2 := Lib.hid hQ2
    have HB2 := Lib.hid hB2
    have HU2 := Lib.hid hu2
    have HO2 := Lib.hid hO2
    have HA := Lib.hid hall
    have z0 := hD2.box0
    have z1 := hD2.box1
    have hsz2 := hD2.size
    by_cases hmt : m < O.length
    ·have hmt' : (m : Int) < O.length := by omega
     obtain ⟨l, hl1, hl2, hl3⟩ := outs_get (L := L) (n := (u : Int)) (m := m) (by rw [← HO.out]; exact hmt)
     rw [← HO.out] at hl1
     rcases id hO2 with ⟨a0, cap0, e0, e1⟩ | ⟨ob, oo, olen, ocap, e0, e1, e2, e3, e4, e5, e6, e7⟩
     ·rw [e1] at hmt; simp at hmt
     ·simp only [Value.slice.injEq] at e0
      obtain ⟨rfl, e0b, rfl⟩ := e0
      have oc := e7 m (by omega)
      rw [hl1] at oc
      have hr := hR _ (lk_mem hl2)
      obtain ⟨to, hto⟩ : ∃ to : Nat, (lk L l).2 = (to : Int) := ⟨(lk L l).2.toNat, by omega⟩
      have htoN : to < N := by omega
      have htoD : to < D2.length := by rw [hB2.len]; exact htoN
      have huN : u < N := by have := (hB2.far _ (getD_mem hk2)).1; rw [hu2] at this; exact this
      rcases id (HL.out.below hD2.bel) with ⟨a0, cap0, e0', e1'⟩ | ⟨lb, lo, llen, lcap, rfl, f1, f2, f3, f4, f5⟩
      ·rw [e1'] at hl2; simp at hl2
      ·have lc := (f5 l (by omega)).2
       rw [hto] at lc
       have tc := hD2.cell htoD
       have uc := hD2.cell (y := u) (by rw [hB2.len]; exact huN)
       have tf := hD2.free to
       have hll : l < llen := by omega
       have hll' : (l : Int) < llen := by omega
       obtain ⟨dt, hdt⟩ : ∃ dt, dt = D2.getD to (-1) := ⟨_, rfl⟩
       obtain ⟨du, hdu⟩ : ∃ du, du = D2.getD u (-1) := ⟨_, rfl⟩
       rw [← hdt] at tc
       rw [← hdu] at uc
       have hdub : 0 ≤ du ∧ du < N := by
        obtain ⟨_, kk, hkk, hfk⟩ := hB2.far _ (getD_mem hk2)
        rw [hu2] at hkk
        have := far_lt hR ha hfk
        omega
       have HDT := Lib.hid hdt
       have HDU := Lib.hid hdu
       have HLK := Lib.hid (show lk L l = ((u : Int), (to : Int)) by rw [← hl3, ← hto])
       have HL3 := Lib.hid hl1
       have hl0 := hl2
       clear hD2 hQ2 hB2 hu2 hO2 hall hqc2 e7 f5 hr hl1 hl3 hto hdt hdu e1 f1 htoD e0b
       by_cases hd : dt = -1
       ·subst hd
        have hwr : IntKind.i64.wrap (du + 1) = du + 1 := IntWalk.i64_in _ (by omega)
        go_wp2_with (at_builtin; refine wpList_append_lies _ rfl _ _ 28 rfl (g + 1) 3 i0 (.int .i64 0) 1 8 Try.underlying28 hi0 hz0 hz1 hz2 rfl (by decide) _ _ _ rfl (((HQ2.out.set to (.int .i64 (du + 1)))).grown ((Below.refl _ _).alloc (Nat.le_refl _) _)) ⟨wr.heap.size, 0, none⟩ 1 1 [.int .i64 (to : Int)] rfl rfl (cell_one_at _ _ _ _ (World.size_setCell _ _ _).symm) ?c2 (by omega) ?c3 ?c4 ?c5 (wr.heap.size + 1) ?c6 ?_)
        case c2 => intro u hu; simp at hu; subst hu; rfl
        case c3 => unfold maxLen; omega
        case c4 => omega
        case c5 => rw [size_alloc, World.size_setCell]; omega
        case c6 => rw [size_alloc, World.size_setCell]
        intro gq cq w5 hown hg5 hor hlt5
        have hD5 : DAt w 24 N (.slice (some ⟨lb, lo, none⟩) llen lcap) g w5 (D2.set to (du + 1)) :=
         ((HD2.out.set to (du + 1)).below ((Below.refl _ _).alloc (Nat.le_refl _) _)).grown hg5 (fun k hk => by simp [Value.ownBlock] at hk; omega)
        have hQ5 : QAt g w5 (.slice (some ⟨gq, 0, none⟩) (Q2.length + 1) cq) (Q2 ++ [to]) := by
         unfold QAt
         rw [List.length_append, show nvs (Q2 ++ [to]) = nvs Q2 ++ [.int .i64 (to : Int)] by simp [nvs]]
         exact hown
        have hmem : (((Q2.getD k 0 : Nat) : Int), (to : Int)) ∈ L := by rw [HU2.out, ← HLK.out]; exact lk_mem hl0
        have hB5 : BFS N L a (D2.set to (du + 1)) (Q2 ++ [to]) k := by
         have := HB2.out.assign hR ha hk2 htoN hmem HDT.out.symm
         rw [HU2.out, ← HDU.out] at this
         exact this
        have hO5 : OAt g w5 (.slice (some ⟨gq, 0, none⟩) (Q2.length + 1) cq) (.slice (some ⟨ob, oo, none⟩) O.length co) O :=
         (HO2.out.set to (.int .i64 (du + 1))).grown ((Below.refl _ _).alloc (Nat.le_refl _) _) hg5 hor (by rw [World.size_setCell]; omega)
        have hall' : ∀ j, j < m + 1 → (lk L (O.getD j 0).toNat).2.toNat ∈ Q2 ++ [to] := by
         intro j hj
         by_cases hjm : j < m
         ·exact List.mem_append_left _ (HA.out j hjm)
         ·obtain rfl : j = m := by omega
          rw [HL3.out, Int.toNat_natCast, HLK.out, Int.toNat_natCast]; simp
        have w0c := hD5.box0
        have hkq : k < (Q2 ++ [to]).length := by rw [List.length_append]; omega
        have huq : (Q2 ++ [to]).getD k 0 = u := by rw [getD_left hk2]; exact HU2.out
        have HD5 := Lib.hid hD5
        have HQ5 := Lib.hid hQ5
        have HB5 := Lib.hid hB5
        have HO5 := Lib.hid hO5
        have HA5 := Lib.hid hall'
        have HK5 := Lib.hid hkq
        have HU5 := Lib.hid huq
        clear hown hg5 hor hlt5 hD5 hQ5 hmem hB5 hO5 hall' hkq huq tc uc tf qc2 oc lc z0 z1
        by_cases hN : Q2.length + 1 = N
        ·have hnn : ((Q2.length : Int) + 1 == (N : Int)) = true := by rw [beq_iff_eq]; omega
         have hE := HB5.out.full (by rw [List.length_append]; exact hN)
         have HE := Lib.hid hE
         clear hE hN
         go_wp2_with fail
         try rw [Exit.noGoto_ret]
         go_ret
         exact ⟨_, _, rfl, HE.out, HD5.out.ints HE.out.1 h1, HD5.out.bel⟩
        ·have hnn : ((Q2.length : Int) + 1 == (N : Int)) = false := by rw [beq_eq_false_iff_ne]; omega
         clear hN
         go_wp2_with fail
         exact ⟨⟨_, _, m + 1, by go_num, by omega, HD5.out, HQ5.out, HB5.out, HK5.out, HU5.out, HO5.out, HA5.out⟩, by simp [intOf]; omega⟩
       ·have hd' : (dt != -1) = true := by rw [bne_iff_ne]; exact hd
        have hin : to ∈ Q2 := Classical.byContradiction fun hq => hd (HDT.out.trans (HB2.out.ass to htoN hq))
        have hall' : ∀ j, j < m + 1 → (lk L (O.getD j 0).toNat).2.toNat ∈ Q2 := by
         intro j hj
         by_cases hjm : j < m
         ·exact HA.out j hjm
         ·obtain rfl : j = m := by omega
          rw [HL3.out, Int.toNat_natCast, HLK.out, Int.toNat_natCast]; exact hin
        have HA' := Lib.hid hall'
        clear hd hin hall'
        go_wp2_with fail
        exact ⟨⟨D2, Q2, m + 1, by go_num, by omega, HD2.out, HQ2.out, HB2.out, hk2, HU2.out, HO2.out, HA'.out⟩, by simp [intOf]; omega⟩
    ·have hmt' : ¬ (m : Int) < O.length := by omega
     have hnext : BFS N L a D2 Q2 (k + 1) := HB2.out.next hk2 (fun z hz => by
      rw [HU2.out] at hz
      obtain ⟨j, hj, he⟩ := outs_all hz
      rw [← HO.out] at hj he
      have := HA.out j (by omega)
      rw [he, Int.toNat_natCast] at this
      exact this)
     have HN := Lib.hid hnext
     clear hnext hD2 hQ2 hB2 hu2 hO2 hall hqc2 qc2
     go_wp2_with fail
     exact ⟨⟨D2, Q2, k + 1, by go_num, HD2.out, HQ2.out, HN.out, by omega⟩, by simp [intOf]; omega⟩
  ·have hlt' : ¬ (k : Int) < Q.length := by omega
   have hend := HB1.out.stop hR ha (by omega)
   have HE := Lib.hid hend
   clear hend hD hQ hB hqc
   go_wp2_with fail
   try rw [Exit.noGoto_ret]
   go_ret
   exact ⟨_, _, rfl, HE.out, HD1.out.ints HE.out.1 h1, HD1.out.bel⟩
end Go.Proofs.Ytennbiajnkobnaa
namespace Go.Proofs.Ytennbiajnkobnaa
open Go.RowKit Go.PlainAid
structure RAt (w : World) (T : TypeId) (N : Int) (v : Value) (g cap : Nat) (wr : World) (D : List Int) : Prop where
 bel : Below w.heap.size w wr
 box : wr.heap[w.heap.size]? = some (.cells #[.int .i64 N, v] T (0, 0))
 dist : ∃ cur, wr.heap[g]? = some (.cells cur 3 (0, 0)) ∧ cur.toList.take D.length = ivs D
 gt : w.heap.size < g
 le : D.length ≤ cap
theorem RAt.lt {w wr : World} {T : TypeId} {N : Int} {v : Value} {g cap : Nat} {D : List Int} (h : RAt w T N v g cap wr D) : g < wr.heap.size := by obtain ⟨cur, hc, _⟩ := h.dist; exact lt_of_block hc
theorem RAt.size {w wr : World} {T : TypeId} {N : Int} {v : Value} {g cap : Nat} {D : List Int} (h : RAt w T N v g cap wr D) : w.heap.size < wr.heap.size := lt_of_block h.box
theorem RAt.box0 {w wr : World} {T : TypeId} {N : Int} {v : Value} {g cap : Nat} {D : List Int} (h : RAt w T N v g cap wr D) : wr.cell? ⟨w.heap.size, 0, none⟩ = some (.int .i64 N) := (cell_of_row wr _ 0 _ _ (0, 0) h.box).trans rfl
theorem RAt.box1 {w wr : World} {T : TypeId} {N : Int} {v : Value} {g cap : Nat} {D : List Int} (h : RAt w T N v g cap wr D) : wr.cell? ⟨w.heap.size, 1, none⟩ = some v := (cell_of_row wr _ 1 _ _ (0, 0) h.box).trans rfl
theorem RAt.cell {w wr : World} {T : TypeId} {N : Int} {v : Value} {g cap : Nat} {D : List Int} (h : RAt w T N v g cap wr D) {y : Nat} (hy : y < D.length) : wr.cell? ⟨g, y, none⟩ = some (.int .i64 (D.getD y (-1))) := by
 obtain ⟨cur, hc, ht⟩ := h.dist
 rw [cell_of_row wr _ y _ _ (0, 0) hc]
 have := ivs_get hy
 rw [← ht, List.getElem?_take, if_pos hy] at this
 simpa using this
theorem RAt.free {w wr : World} {T : TypeId} {N : Int} {v : Value} {g cap : Nat} {D : List Int} (h : RAt w T N v g cap wr D) (y : Nat) : wr.frozen? ⟨g, y, none⟩ = false := by
 obtain ⟨cur, hc, _⟩ := h.dist
 simp [World.frozen?, hc]
theorem RAt.below {w wr w' : World} {T : TypeId} {N : Int} {v : Value} {g cap : Nat} {D : List Int} (h : RAt w T N v g cap wr D) (hb : Below wr.heap.size wr w') : RAt w T N v g cap w' D := by
 have hlt := h.lt
 have hsz := h.size
 obtain ⟨cur, hc, ht⟩ := h.dist
 exact ⟨below_step (Nat.le_of_lt hsz) h.bel hb, by rw [hb.block _ hsz]; exact h.box, ⟨cur, by rw [hb.block _ hlt]; exact hc, ht⟩, h.gt, h.le⟩
theorem RAt.set {w wr : World} {T : TypeId} {N : Int} {v : Value} {g cap : Nat} {D : List Int} (h : RAt w T N v g cap wr D) (z : Nat) (x : Int) : RAt w T N v g cap (wr.setCell ⟨g, z, none⟩ (.int .i64 x)) (D.set z x) := by
 have hgt := h.gt
 obtain ⟨cur, hc, ht⟩ := h.dist
 refine ⟨h.bel.setCell (by simp; omega) _, ?_, ⟨cur.setIfInBounds z (.int .i64 x), ?_, ?_⟩, hgt, by rw [List.length_set]; exact h.le⟩
 ·rw [Below.heap_setCell _ _ _ _ (by simp; omega)]; exact h.box
 ·rw [setCell_eq_setRow wr g z _ _ (0, 0) _ hc, setRow_heap wr g _ _ _ _ hc]
 ·rw [List.length_set, Array.toList_setIfInBounds, List.take_set, ht]
  simp [ivs, List.map_set]
theorem RAt.ints {w wr : World} {T : TypeId} {N : Nat} {v : Value} {g cap : Nat} {D : List Int} (h : RAt w T N v g cap wr D) (hl : D.length = N) (h1 : 1 ≤ N) : IntsAt wr (.slice (some ⟨g, 0, none⟩) N cap) D := by
 refine .inr ⟨g, 0, N, cap, rfl, hl, h1, h.lt, by rw [← hl]; exact h.le, fun i hi => ?_⟩
 rw [Nat.zero_add, h.cell (by omega)]
 simp [List.getD, show i < D.length by omega]
theorem RAt.start {w w0 wr : World} {T : TypeId} {N : Nat} {v : Value} {g cap : Nat} (hb0 : Below w.heap.size w w0) (bx : w0.heap[w.heap.size]? = some (.cells #[.int .i64 (N : Int), v] T (0, 0))) (s0 : w0.heap.size = w.heap.size + 1)
  (hb : Below w0.heap.size w0 wr) (hown : wr.ownsRow w0.heap.size 3 1 (.slice (some ⟨g, 0, none⟩) N cap) N (ivs (List.replicate N (-1)))) (h1 : 1 ≤ N) : RAt w T N v g cap wr (List.replicate N (-1)) := by
 have hl := hown.lt g rfl
 rcases hown.2 with ⟨_, h0⟩ | ⟨g', cap', cur, hv, hbg, hg, hle, _, _, htake⟩
 ·omega
 ·simp only [Value.slice.injEq, Option.some.injEq, Addr.mk.injEq] at hv
  obtain ⟨⟨rfl, _⟩, _, rfl⟩ := hv
  refine ⟨below_step (by omega) hb0 hb, by rw [hb.block _ (by omega)]; exact bx, ⟨cur, hg, by simpa using htake⟩, by omega, by simpa using hle⟩
set_option maxHeartbeats 8000000 in
set_option maxRecDepth 100000 in
theorem rdist_some (N a : Nat) (v : Value) (L : Lks) (w : World) (hL : LinksAt w v L) (hR : InR N L) (h1 : 1 ≤ N) (h6 : N ≤ 6) (ha : a < N) (hn : L.length ≤ 1000000) :
  Calls Try.prog 59 #[gv N v, .int .i64 (a : Int)] w fun e w' => ∃ u D, e = .returned u ∧ IsDist N L a D ∧ IntsAt w' u D ∧ Below w.heap.size w w' := by
 obtain ⟨i0, hi0, hz0, hz1, hz2⟩ := info_parts infoInt
 obtain ⟨w0, hw0⟩ : ∃ w0, w0 = w.alloc (.cells #[.int .i64 (N : Int), v] 35) := ⟨_, rfl⟩
 have bel0 : Below w.heap.size w w0 := by rw [hw0]; exact (Below.refl _ w).alloc (Nat.le_refl _) _
 have bx0 : w0.heap[w.heap.size]? = some (.cells #[.int .i64 (N : Int), v] 35 (0, 0)) := by rw [hw0]; exact heap_alloc_new w _
 have s0 : w0.heap.size = w.heap.size + 1 := by rw [hw0]; simp
 have x0 : w0.cell? ⟨w.heap.size, 0, none⟩ = some (.int .i64 (N : Int)) := (cell_of_row w0 _ 0 _ _ (0, 0) bx0).trans rfl
 have x1 : w0.cell? ⟨w.heap.size, 1, none⟩ = some v := (cell_of_row w0 _ 1 _ _ (0, 0) bx0).trans rfl
 have hst : (w0.alloc (.cells #[] 3)).ownsRow w0.heap.size 3 1 (.slice (some ⟨w.heap.size + 1, 0, none⟩) 0 0) 0 (ivs (List.replicate 0 (-1))) := by
  rw [← s0]
  exact World.ownsRow_made (base := w0.heap.size) (e := 3) (size := 1) w0 #[] 0 (Nat.le_refl _) (by omega) rfl
 have Hst := Lib.hid hst
 have hb00 := (Below.refl w0.heap.size w0).alloc (Nat.le_refl _) (.cells #[] 3)
 have Hb00 := Lib.hid hb00
 have hsl : w.heap.size < w0.heap.size := by omega
 have B0 := Lib.hid bel0
 have X0 := Lib.hid bx0
 have S0 := Lib.hid s0
 have HL := Lib.hid hL
 have ha' : (a : Int) < N := by omega
 have hda : decide ((a : Int) < 0) = false := decide_eq_false (by omega)
 have hdb : decide (N ≤ a) = false := decide_eq_false (by omega)
 have hdc : decide ((N : Int) ≤ (a : Int)) = false := decide_eq_false (by omega)
 unfold gv
 clear bel0 bx0 hL s0 hst hb00
 go_enter Try.func59, Try.ntmps59
 go_wp2_with fail
 rw [← hw0]
 clear hw0
 go_loopw [5, 6] (fun u i wr => ∃ k : Nat, i = .int .i64 k ∧ k ≤ N ∧ wr.ownsRow w0.heap.size 3 1 u k (ivs (List.replicate k (-1))) ∧ Below w0.heap.size w0 wr) (fun _ i _ => N - (intOf i).toNat)
 case atStart => exact ⟨0, rfl, by omega, Hst.out, Hb00.out⟩
 case round =>
  obtain ⟨k, rfl, hk, hown, hbel⟩ := hrel
  obtain ⟨ao, cv, rfl⟩ := owns_slice hown
  have HO := Lib.hid hown
  have HB := Lib.hid hbel
  have z0 := (hbel.cell (by exact hsl)).trans x0
  have z1 := (hbel.cell (by exact hsl)).trans x1
  have hz := hbel.size
  by_cases hlt : k < N
  ·have hlt' : (k : Int) < N := by omega
   clear hown hbel
   go_wp2_with (at_builtin; refine wpList_append_own _ rfl _ _ 28 rfl w0.heap.size 3 i0 (.int .i64 0) 1 8 Try.underlying28 hi0 hz0 hz1 hz2 rfl (by decide) _ _ _ rfl (HO.out.alloc _) ⟨wr.heap.size, 0, none⟩ 1 1 [.int .i64 (-1)] rfl rfl (cell_one_at _ _ _ _ rfl) ?c2 ?c3 ?c4 ?c5 ?_)
   case c2 => intro u hu; simp at hu; subst hu; rfl
   case c3 => unfold maxLen; omega
   case c4 => omega
   case c5 => rw [size_alloc]; omega
   intro v1 w1 hown1 hg1 _
   have hnext : w1.ownsRow w0.heap.size 3 1 v1 (k + 1) (ivs (List.replicate (k + 1) (-1))) := by
    rw [show ivs (List.replicate (k + 1) (-1)) = ivs (List.replicate k (-1)) ++ [.int .i64 (-1)] by unfold ivs; rw [List.replicate_succ', List.map_append]; rfl]
    exact hown1
   have hB1 : Below w0.heap.size w0 w1 := (HB.out.alloc hz _).grown hg1 (by rw [size_alloc]; omega) (fun k hk => (HO.out.lt k hk).1)
   have Hnext := Lib.hid hnext
   have HB1 := Lib.hid hB1
   clear hown1 hg1 hB1 hnext
   go_wp2_with fail
   go_roundw
   case rel => exact ⟨k + 1, by go_num, by omega, Hnext.out, HB1.out⟩
   case measure => simp [intOf]; omega
  ·have hlt' : ¬ (k : Int) < N := by omega
   obtain rfl : k = N := by omega
   obtain ⟨g, cap, hf⟩ := Go.Joins.ownsRow_form HO.out h1
   simp only [Value.slice.injEq] at hf
   obtain ⟨rfl, _, rfl⟩ := hf
   have hA := RAt.start B0.out X0.out S0.out HB.out HO.out h1
   have zc := hA.cell (y := a) (by simpa using ha)
   have zf := hA.free a
   have HA := Lib.hid (hA.set a 0)
   clear hown hbel hA
   go_wp2_with fail
   clear zc zf z0 z1 hz
   generalize wr.setCell ⟨g, a, none⟩ (.int .i64 0) = ws at HA ⊢
   go_loopw [7] (fun i wr => ∃ (D : List Int) (j : Nat), i = .int .i64 j ∧ j ≤ k ∧ RAt w 35 k v g cv wr D ∧ Lev k L a D j 0) (fun i _ => k - (intOf i).toNat)
   case atStart => exact ⟨_, 0, rfl, by omega, HA.out, Lev.start ha⟩
   case round =>
    obtain ⟨D, j, rfl, hj, hD, hV⟩ := hrel
    have HD := Lib.hid hD
    have HV := Lib.hid hV
    have z0 := hD.box0
    have z1 := hD.box1
    clear hD hV
    by_cases hjt : j < k
    ·have hjt' : (j : Int) < k := by omega
     go_wp2_with fail
     go_loopw [8] (fun i wr => ∃ (D : List Int) (m : Nat), i = .int .i64 m ∧ m ≤ L.length ∧ RAt w 35 k v g cv wr D ∧ Lev k L a D j m) (fun i _ => L.length - (intOf i).toNat)
     case atStart => exact ⟨D, 0, rfl, by omega, HD.out, HV.out⟩
     case round =>
      obtain ⟨D2, m, rfl, hm, hD2, hV2⟩ := hrel
      have HD2 := Lib.hid hD2
      have HV2 := Lib.hid hV2
      have y0 := hD2.box0
      have y1 := hD2.box1
      by_cases hmt : m < L.length
      ·have hmt' : (m : Int) < L.length := by omega
       have hr := hR _ (lk_mem hmt)
       obtain ⟨x, hx⟩ : ∃ x : Nat, (lk L m).1 = (x : Int) := ⟨(lk L m).1.toNat, by omega⟩
       obtain ⟨y, hy⟩ : ∃ y : Nat, (lk L m).2 = (y : Int) := ⟨(lk L m).2.toNat, by omega⟩
       have hxk : x < k := by omega
       have hyk : y < k := by omega
       have hxD : x < D2.length := by rw [hV2.len]; omega
       have hyD : y < D2.length := by rw [hV2.len]; omega
       rcases id (HL.out.below hD2.bel) with ⟨a0, cap0, e0', e1'⟩ | ⟨lb, lo, llen, lcap, rfl, f1, f2, f3, f4, f5⟩
       ·rw [e1'] at hmt; simp at hmt
       ·obtain ⟨lc1, lc2⟩ := f5 m (by omega)
        rw [hx] at lc1
        rw [hy] at lc2
        have xc := hD2.cell hxD
        have yc := hD2.cell hyD
        have yf := hD2.free y
        have hll : m < llen := by omega
        have hll' : (m : Int) < llen := by omega
        obtain ⟨dx, hdx⟩ : ∃ dx, dx = D2.getD x (-1) := ⟨_, rfl⟩
        obtain ⟨dy, hdy⟩ : ∃ dy, dy = D2.getD y (-1) := ⟨_, rfl⟩
        rw [← hdx] at xc
        rw [← hdy] at yc
        have HDX := Lib.hid hdx
        have HDY := Lib.hid hdy
        have HX := Lib.hid hx
        have HY := Lib.hid hy
        have HF1 := Lib.hid f1
        have hm0 := hmt
        clear hD2 hV2 hr hx hy hdx hdy f5 f1 hxD hyD z0 z1
        obtain ⟨wo, hwo⟩ : ∃ wo, wo = wr := ⟨_, rfl⟩
        subst hwo
        by_cases hq : (dx == (j : Int)) = true
        ·by_cases hneg : dy < 0
         ·have hwj : IntKind.i64.wrap ((j : Int) + 1) = (j : Int) + 1 := IntWalk.i64_in _ (by omega)
          have hV5 : Lev k L a (D2.set y ((j : Int) + 1)) j (m + 1) := by
           have h := HV2.out.set hR hm0 (by rw [HX.out, Int.toNat_natCast, ← HDX.out]; exact eq_of_beq hq) (by rw [HY.out, Int.toNat_natCast, ← HDY.out]; exact hneg)
           rw [HY.out, Int.toNat_natCast] at h
           exact h
          have HV5 := Lib.hid hV5
          clear hV5
          go_wp2_with fail
          go_quiet (fail)
          have HD5 := Lib.hid ((HD2.out.below (below_drewN (Below.refl _ wo) nq)).set y ((j : Int) + 1))
          go_wp2_with fail
          go_roundw
          case rel => exact ⟨_, m + 1, by go_num, by omega, HD5.out, HV5.out⟩
          case measure => simp [intOf]; omega
         ·have hneg' : ¬ dy < 0 := hneg
          have HV5 := Lib.hid (HV2.out.keep hm0 (fun _ => by rw [HY.out, Int.toNat_natCast, ← HDY.out]; exact hneg))
          go_wp2_with fail
          go_quiet (fail)
          have HD5 := Lib.hid (HD2.out.below (below_drewN (Below.refl _ wo) nq))
          go_wp2_with fail
          go_roundw
          case rel => exact ⟨_, m + 1, by go_num, by omega, HD5.out, HV5.out⟩
          case measure => simp [intOf]; omega
        ·have hq' : (dx == (j : Int)) = false := by simpa using hq
         have HV5 := Lib.hid (HV2.out.keep hm0 (fun e => by rw [HX.out, Int.toNat_natCast, ← HDX.out] at e; exact absurd (by simpa using e) hq))
         clear hq
         go_wp2_with fail
         go_quiet (fail)
         have HD5 := Lib.hid (HD2.out.below (below_drewN (Below.refl _ wo) nq))
         go_wp2_with fail
         go_roundw
         case rel => exact ⟨_, m + 1, by go_num, by omega, HD5.out, HV5.out⟩
         case measure => simp [intOf]; omega
      ·obtain ⟨av, cvv, hvv⟩ := (HL.out.below hD2.bel).at
       have hmt' : ¬ (m : Int) < L.length := by omega
       have HN := Lib.hid (hV2.next hR ha (by omega))
       subst hvv
       clear hD2 hV2
       go_wp2_with fail
       go_roundw
       case rel => exact ⟨_, j + 1, by go_num, by omega, HD2.out, HN.out⟩
       case measure => simp [intOf]; omega
    ·have hjt' : ¬ (j : Int) < k := by omega
     obtain rfl : j = k := by omega
     have HE := Lib.hid (HV.out.stop hR ha)
     go_wp2_with fail
     go_ret
     first | exact ⟨_, _, rfl, HE.out, HD.out.ints HE.out.1 h1, HD.out.bel⟩ | exact ⟨_, rfl, _, HE.out, HD.out.ints HE.out.1 h1, HD.out.bel⟩
end Go.Proofs.Ytennbiajnkobnaa
namespace Go.Proofs.Ytennbiajnkobnaa
open Go.RowKit Go.PlainAid Go.Maps
theorem arrKey : WideMaps.ArrKey Try.prog 131 3 2 := ⟨Try.underlying131, by kernel_rfl, by kernel_rfl, by kernel_rfl⟩
theorem arrKeyed : Keyed Try.prog 131 := Keyed.of_law arrKey.law
theorem zeroInt (w : World) : (zeroValue 3).run Try.prog w = .ok (.int .i64 0) w := by kernel_rfl
def wfp (p : Int × Int) : Prop := (Lit.int .i64 p.1).wf = true ∧ (Lit.int .i64 p.2).wf = true
def klOf (p : Int × Int) : Lit := .string (keyBytes [.int .i64 p.1, .int .i64 p.2])
theorem keyOf_p {p : Int × Int} (h : wfp p) : keyOf Try.prog 131 (pv p) = some (klOf p) := WideMaps.keyOf_pair arrKey Try.underlying3 (by exact ⟨_, rfl⟩) h.1 h.2
theorem kl_inj {p q : Int × Int} (hp : wfp p) (hq : wfp q) (h : klOf p = klOf q) : p = q := by
 have := arrKey.law.inj (keyOf_p hp) (by rw [h]; exact keyOf_p hq)
 obtain ⟨a, b⟩ := p
 obtain ⟨c, d⟩ := q
 simp [pv] at this
 simp [this.1, this.2]
/-- A map whose entry at a link is f of it. -/
def CMap (w : World) (b n : Nat) (f : Int × Int → Int) : Prop :=
 ∃ D : DataW Unit, IsMap D ∧ w.ownsMap Try.prog 131 (plainElem Try.prog 3) b n D ∧ ∀ p, wfp p → D.atKey (klOf p) (.lit (.int .i64 0)) = .lit (.int .i64 (f p))
theorem CMap.made (w : World) : CMap (w.alloc (.map #[] 0)) w.heap.size 0 (fun _ => 0) :=
 ⟨.map [], isMap_empty, World.ownsMap_made _ _ _ _, fun _ _ => rfl⟩
theorem CMap.lt {w : World} {b n : Nat} {f : Int × Int → Int} (h : CMap w b n f) : b < w.heap.size := by obtain ⟨D, _, h, _⟩ := h; exact h.lt
theorem CMap.kept {w w' : World} {b n : Nat} {f : Int × Int → Int} {row : Option Nat} (h : CMap w b n f) (hg : w.grownBy w' row) (hne : some b ≠ row) : CMap w' b n f := by
 obtain ⟨D, h1, h2, h3⟩ := h
 exact ⟨D, h1, h2.kept hg hne, h3⟩
theorem CMap.below {w w' : World} {b n : Nat} {f : Int × Int → Int} (h : CMap w b n f) (hb : Below w.heap.size w w') : CMap w' b n f :=
 h.kept (row := none) ⟨hb.os, hb.tape, hb.output, hb.size, fun k hk _ => hb.block k hk⟩ (by simp)
theorem CMap.look {w : World} {b n : Nat} {f : Int × Int → Int} (h : CMap w b n f) {p : Int × Int} (hp : wfp p) :
  (Instr.lookup 156 (.map (some b)) (pv p) false).run Try.prog w = .ok (.int .i64 (f p)) w := by
 obtain ⟨D, h1, h2, h3⟩ := h
 obtain ⟨c, hrun, hat, _⟩ := h2.lookup_int arrKeyed Try.underlying156 Try.underlying3 (zeroInt w) (keyOf_p hp)
 rw [h3 p hp] at hat
 simp only [DataW.lit.injEq, Lit.int.injEq, true_and] at hat
 rw [hat]; exact hrun
theorem isKey (p : Int × Int) : WideAt.IsKeyLit (klOf p) := by simp [klOf, WideAt.IsKeyLit]
theorem CMap.entry {w : World} {b n : Nat} {f : Int × Int → Int} (h : CMap w b n f) {p : Int × Int} (hp : wfp p) (hn : n < maxLen) :
  ∃ v0 st w1, (Instr.mapEntry 156 (.map (some b)) (pv p)).run Try.prog w = .ok (.tuple #[v0, goInt st]) w1 ∧
   (Instr.lookup 156 (.map (some b)) (pv p) false).run Try.prog w1 = .ok (.int .i64 (f p)) w1 ∧
   ∀ x : Int, (Lit.int .i64 x).wf = true → ∃ w2, (Instr.entryStore 156 (.map (some b)) (goInt st) (.int .i64 x)).run Try.prog w1 = .ok () w2 ∧
    CMap w2 b (n + 1) (fun q => if q = p then x else f q) ∧ w.grownBy w2 (some b) := by
 obtain ⟨D, hD, hown, hat⟩ := h
 have hown0 := hown
 obtain ⟨es, clock, hb, F, hs, hDe⟩ := hown
 have hkey := keyOf_p hp
 obtain ⟨v0, st, es1, clock1, hE, hv0, hS⟩ := WideElems.entry_then_store arrKey.law Try.underlying156 zeroInt hb F hkey
 have hb1 : (ChangeMaps.setBlock w b (.map es1 clock1)).heap[b]? = some (.map es1 clock1) := ChangeMaps.heap_setBlock_same hb _
 refine ⟨v0, st, _, hE, ?_, fun x hx => ?_⟩
 ·have hfp := hat p hp
  rcases Maps.fit_look false arrKeyed Try.underlying156 (zeroInt w) hb F hkey with ⟨_, hno, hz⟩ | ⟨e0, y, hm0, he0, hrun, hRv, hz, _⟩
  ·have hf0 : f p = 0 := by
    rw [hDe, hz] at hfp
    simpa using hfp.symm
   rw [hf0]
   rcases arrKey.law.find w hkey es.toList F.keys with ⟨h1, h2⟩ | ⟨j, e0, h1, h2, h3⟩
   ·have hE2 : (Instr.mapEntry 156 (.map (some b)) (pv p)).run Try.prog w = .ok (.tuple #[.int .i64 0, goInt clock]) (ChangeMaps.setBlock w b (.map (es.push ⟨pv p, .int .i64 0, clock⟩) (clock + 1))) := by
     simp [Instr.mapEntry, run_underlying Try.underlying156, MapKept.run_getObj_map hb, arrKey.law.check w false hkey, h1, MapKept.run_setObj_map _ hb, Result.andThen, ChangeMaps.setBlock]
    have hw : ChangeMaps.setBlock w b (.map es1 clock1) = ChangeMaps.setBlock w b (.map (es.push ⟨pv p, .int .i64 0, clock⟩) (clock + 1)) := by
     have := hE.symm.trans hE2
     simp only [Result.ok.injEq] at this
     exact this.2
    rw [hw] at hb1 ⊢
    have hb2 : (ChangeMaps.setBlock w b (.map (es.push ⟨pv p, .int .i64 0, clock⟩) (clock + 1))).heap[b]? = some (.map (es.push ⟨pv p, .int .i64 0, clock⟩) (clock + 1)) := ChangeMaps.heap_setBlock_same hb _
    have hkeys : ∀ e ∈ (es.push ⟨pv p, .int .i64 0, clock⟩).toList, ∃ l, keyOf Try.prog 131 e.key = some l := by
     intro e he
     rw [Array.toList_push] at he
     rcases List.mem_append.1 he with he | he
     ·exact F.keys e he
     ·simp at he; subst he; exact ⟨_, hkey⟩
    rcases arrKey.law.find (ChangeMaps.setBlock w b (.map (es.push ⟨pv p, .int .i64 0, clock⟩) (clock + 1))) hkey _ hkeys with ⟨q1, q2⟩ | ⟨j, e0, q1, q2, q3⟩
    ·exact absurd rfl (q2 ⟨pv p, .int .i64 0, clock⟩ (by simp))
    ·have hme : e0 ∈ (es.push ⟨pv p, .int .i64 0, clock⟩).toList := List.mem_of_getElem? q2
     rw [Array.toList_push] at hme
     have hv : e0.val = .int .i64 0 := by
      rcases List.mem_append.1 hme with he | he
      ·exact absurd q3 (hno e0 he)
      ·simp at he; rw [he]
     rw [Array.toList_push] at q1
     simp [Instr.lookup, run_underlying Try.underlying156, MapKept.run_getObj_map hb2, arrKey.law.check _ false hkey, q1, hv, Result.andThen]
   ·exact absurd h3 (hno e0 (List.mem_of_getElem? h2))
  ·rcases arrKey.law.find w hkey es.toList F.keys with ⟨h1, h2⟩ | ⟨j, e1, h1, h2, h3⟩
   ·exact absurd he0 (h2 e0 hm0)
   ·have hj : es[j]? = some e1 := by simpa using h2
    have hsame : es.modify j (fun e => { e with key := pv p }) = es := by
     apply Array.ext'
     rw [Array.toList_modify]
     apply List.ext_getElem?
     intro i
     rw [List.getElem?_modify]
     by_cases hij : j = i
     ·subst hij
      rw [h2]
      have : ({ e1 with key := pv p } : MapEntry) = e1 := by rw [← h3]
      simp [this]
     ·simp [hij]
    have hE2 : (Instr.mapEntry 156 (.map (some b)) (pv p)).run Try.prog w = .ok (.tuple #[e1.val, goInt e1.born]) (ChangeMaps.setBlock w b (.map es clock)) := by
     simp [Instr.mapEntry, run_underlying Try.underlying156, MapKept.run_getObj_map hb, arrKey.law.check w false hkey, h1, hj, h3, arrKey.law.stays w hkey, hsame, MapKept.run_setObj_map _ hb, Result.andThen, ChangeMaps.setBlock]
    have hw : ChangeMaps.setBlock w b (.map es1 clock1) = ChangeMaps.setBlock w b (.map es clock) := by
     have := hE.symm.trans hE2
     simp only [Result.ok.injEq] at this
     exact this.2
    have hb2 : (ChangeMaps.setBlock w b (.map es clock)).heap[b]? = some (.map es clock) := ChangeMaps.heap_setBlock_same hb _
    rw [hw]
    have hc : CMap (ChangeMaps.setBlock w b (.map es clock)) b n f := ⟨D, hD, ⟨es, clock, hb2, F, hs, hDe⟩, hat⟩
    exact hc.look hp
 ·obtain ⟨es', clock', hrun, hupd⟩ := hS (ChangeMaps.setBlock w b (.map es1 clock1)) (.int .i64 x) hb1
  obtain ⟨w', hw', hown', hg'⟩ := hown0.update arrKeyed Try.underlying156 hn hkey (plainElem_int Try.underlying3 hx)
  have hww : w' = ChangeMaps.setBlock w b (.map es' clock') := by
   have := hw'.symm.trans hupd
   simpa using this
  have hset : ChangeMaps.setBlock (ChangeMaps.setBlock w b (.map es1 clock1)) b (.map es' clock') = w' := by
   rw [hww]
   simp [ChangeMaps.setBlock]
  refine ⟨w', by rw [hrun, hset], ⟨_, hD.put _ _, hown', fun q hq => ?_⟩, hg'⟩
  by_cases e : q = p
  ·subst e
   show _ = DataW.lit (.int .i64 (if q = q then x else f q))
   rw [if_pos rfl, atKey_put_same hD (isKey q)]
  ·show _ = DataW.lit (.int .i64 (if q = p then x else f q))
   rw [if_neg e, atKey_put_other (fun h => e (kl_inj hq hp h))]
   exact hat q hq
end Go.Proofs.Ytennbiajnkobnaa
set_option linter.unusedSimpArgs false
namespace Go.Proofs.Ytennbiajnkobnaa
open Go.RowKit Go.PlainAid Go.Maps
def inN (N x : Int) : Bool := decide (0 ≤ x ∧ x < N)
theorem inN_iff {N x : Int} : inN N x = true ↔ 0 ≤ x ∧ x < N := by simp [inN]
theorem has_in (N n : Int) (v : Value) (w : World) : Calls Try.prog 82 #[gv N v, .int .i64 n] w fun e w' => e = .returned (.bool (inN N n)) ∧ Below w.heap.size w w' := has_any N n v _ w rfl
/-- How often a link is there. -/
def cnt (L : Lks) (p : Int × Int) : Int := (L.count p : Int)
def GoodAt (N : Int) (L : Lks) (i : Nat) : Prop :=
 inN N (lk L i).1 = true ∧ inN N (lk L i).2 = true ∧ (lk L i).1 ≠ (lk L i).2 ∧ cnt L (lk L i) ≤ 1 ∧ cnt L ((lk L i).2, (lk L i).1) ≠ 0
/-- While links are counted. -/
structure PAt (w : World) (N : Int) (v : Value) (n : Nat) (M : Lks) (wr : World) : Prop where
 bel : Below w.heap.size w wr
 b0 : wr.cell? ⟨w.heap.size, 0, none⟩ = some (.int .i64 N)
 b1 : wr.cell? ⟨w.heap.size, 1, none⟩ = some v
 m : CMap wr (w.heap.size + 1) n (cnt M)
theorem PAt.lt {w wr : World} {N : Int} {v : Value} {n : Nat} {M : Lks} (h : PAt w N v n M wr) : w.heap.size + 1 < wr.heap.size := h.m.lt
theorem PAt.below {w wr w' : World} {N : Int} {v : Value} {n : Nat} {M : Lks} (h : PAt w N v n M wr) (hb : Below wr.heap.size wr w') : PAt w N v n M w' := by
 have hlt := h.lt
 exact ⟨below_step (by omega) h.bel hb, (hb.cell (by show w.heap.size < _; omega)).trans h.b0, (hb.cell (by show w.heap.size < _; omega)).trans h.b1, h.m.below hb⟩
theorem cnt_snoc (M : Lks) (p : Int × Int) : (fun q => if q = p then cnt M p + 1 else cnt M q) = cnt (M ++ [p]) := by
 funext q
 unfold cnt
 rw [List.count_append, List.count_singleton]
 by_cases h : q = p
 ·subst h; simp
 ·rw [if_neg h, if_neg (by simpa using fun e => h e.symm)]; simp
theorem PAt.step {w wr wd w2 : World} {N : Int} {v : Value} {n : Nat} {M : Lks} {p : Int × Int} (h : PAt w N v n M wr) (hd : Below wr.heap.size wr wd) (hc : CMap w2 (w.heap.size + 1) (n + 1) (fun q => if q = p then cnt M p + 1 else cnt M q)) (hg : wd.grownBy w2 (some (w.heap.size + 1))) :
  PAt w N v (n + 1) (M ++ [p]) w2 := by
 have h2 := h.below hd
 have hlt := h2.lt
 rw [cnt_snoc] at hc
 exact ⟨h2.bel.grown hg (by omega) (fun k hk => by cases hk; omega), hg.cell h2.b0 (by simp), hg.cell h2.b1 (by simp), hc⟩
theorem take_snoc {L : Lks} {k : Nat} (h : k < L.length) : L.take k ++ [lk L k] = L.take (k + 1) := by
 rw [List.take_add_one]; simp [lk, List.getD, h]
theorem count_le (M : Lks) (p : Int × Int) : 0 ≤ cnt M p ∧ cnt M p ≤ M.length := by
 unfold cnt
 have := List.count_le_length (a := p) (l := M)
 omega
/-- While one link is looked at. -/
structure SAt (hs cb : Nat) (N : Int) (v : Value) (x y c1 c2 : Int) (w' : World) : Prop where
 b0 : w'.cell? ⟨hs, 0, none⟩ = some (.int .i64 N)
 b1 : w'.cell? ⟨hs, 1, none⟩ = some v
 l0 : w'.cell? ⟨cb, 0, none⟩ = some (.int .i64 x)
 l1 : w'.cell? ⟨cb, 1, none⟩ = some (.int .i64 y)
 m : ∃ n f, CMap w' (hs + 1) n f ∧ f (x, y) = c1 ∧ f (y, x) = c2
 wf : wfp (x, y)
theorem SAt.below {hs cb : Nat} {N : Int} {v : Value} {x y c1 c2 : Int} {w1 w2 : World} (h : SAt hs cb N v x y c1 c2 w1) (hb : Below w1.heap.size w1 w2) : SAt hs cb N v x y c1 c2 w2 := by
 have h0 := World.block_lt_of_cell? w1 _ h.b0
 have h1 := World.block_lt_of_cell? w1 _ h.l0
 obtain ⟨n, f, hm, e1, e2⟩ := h.m
 exact ⟨(hb.cell h0).trans h.b0, (hb.cell (by exact h0)).trans h.b1, (hb.cell h1).trans h.l0, (hb.cell (by exact h1)).trans h.l1, ⟨n, f, hm.below hb, e1, e2⟩, h.wf⟩
set_option maxRecDepth 100000 in
theorem SAt.s {hs cb : Nat} {N : Int} {v : Value} {x y c1 c2 : Int} {w' : World} (h : SAt hs cb N v x y c1 c2 w') :
  w'.cell? ⟨hs, 0, none⟩ = some (.int .i64 N) ∧ w'.cell? ⟨hs, 1, none⟩ = some v ∧ w'.cell? ⟨cb, 0, none⟩ = some (.int .i64 x) ∧ w'.cell? ⟨cb, 1, none⟩ = some (.int .i64 y) ∧
   (Instr.lookup 156 (.map (some (hs + 1))) (.agg #[.int .i64 x, .int .i64 y]) false).run Try.prog w' = .ok (.int .i64 c1) w' ∧
   (Instr.lookup 156 (.map (some (hs + 1))) (.agg #[.int .i64 y, .int .i64 x]) false).run Try.prog w' = .ok (.int .i64 c2) w' := by
 obtain ⟨n, f, hm, e1, e2⟩ := h.m
 refine ⟨h.b0, h.b1, h.l0, h.l1, ?_, ?_⟩
 ·rw [← e1]; exact hm.look h.wf
 ·rw [← e2]; exact hm.look (p := (y, x)) ⟨h.wf.2, h.wf.1⟩
theorem turned_at (x y : Int) (w : World) : Calls Try.prog 83 #[.agg #[.int .i64 x, .int .i64 y]] w fun e w' => e = .returned (.agg #[.int .i64 y, .int .i64 x]) ∧ Below w.heap.size w w' := turned_any (x, y) w
/-- What paired tells. -/
def PairRes (w : World) (N : Int) (L : Lks) (e : Ending) (w' : World) : Prop := ∃ r, e = .returned (.bool r) ∧ (r = true ↔ ∀ i, i < L.length → GoodAt N L i) ∧ Below w.heap.size w w'
theorem PairRes.mk {w w' : World} {N : Int} {L : Lks} {e : Ending} (r : Bool) (h1 : e = .returned (.bool r)) (h2 : r = true ↔ ∀ i, i < L.length → GoodAt N L i) (h3 : Below w.heap.size w w') : PairRes w N L e w' := ⟨r, h1, h2, h3⟩
set_option maxHeartbeats 8000000 in
set_option maxRecDepth 100000 in
theorem paired_some (N : Nat) (b off len cap : Nat) (L : Lks) (w : World) (hl : L.length = len) (hb : b < w.heap.size) (hlc : len ≤ cap)
  (hc : ∀ i, i < len → w.cell? ⟨b, off + i * 2, none⟩ = some (.int .i64 (lk L i).1) ∧ w.cell? ⟨b, off + i * 2 + 1, none⟩ = some (.int .i64 (lk L i).2)) (hlb : len ≤ 1000000) (hW : ∀ p ∈ L, wfp p) :
  Calls Try.prog 61 #[gv N (.slice (some ⟨b, off, none⟩) len cap)] w (PairRes w N L) := by
 have hmm := @run_makeMap Try.prog
 obtain ⟨wb, hwb⟩ : ∃ wb, wb = (w.alloc (.cells #[.int .i64 (N : Int), .slice (some ⟨b, off, none⟩) len cap] 24)).alloc (.map #[] 0) := ⟨_, rfl⟩
 have hP : PAt w N (.slice (some ⟨b, off, none⟩) len cap) 0 [] wb := by
  rw [hwb]
  refine ⟨by go_grown, by go_cell, by go_cell, ?_⟩
  have := CMap.made (w.alloc (.cells #[.int .i64 (N : Int), .slice (some ⟨b, off, none⟩) len cap] 24))
  rw [size_alloc] at this
  exact this
 have z1 := hP.b1
 have HP := Lib.hid hP
 have Hc := Lib.hid hc
 have Hl := Lib.hid hl
 have HW := Lib.hid hW
 unfold gv
 clear hc hl hP hW
 go_enter Try.func61, Try.ntmps61
 go_wp2_with fail
 rw [← hwb]
 clear hwb hmm
 go_loopw [12] (fun i wr => ∃ k : Nat, i = .int .i64 k ∧ k ≤ len ∧ PAt w N (.slice (some ⟨b, off, none⟩) len cap) k (L.take k) wr) (fun i _ => len - (intOf i).toNat)
 case atStart => exact ⟨0, rfl, by omega, by rw [List.take_zero]; exact HP.out⟩
 case round =>
  obtain ⟨k, rfl, hk, hR⟩ := hrel
  have HR := Lib.hid hR
  have y1 := hR.b1
  by_cases hkl : k < len
  ·have hkl' : (k : Int) < len := by omega
   obtain ⟨c1, c2⟩ := Hc.out k hkl
   have c1' := (hR.bel.cell (by exact hb)).trans c1
   have c2' := (hR.bel.cell (by exact hb)).trans c2
   have hkL : k < L.length := by rw [Hl.out]; exact hkl
   have hwf := HW.out _ (lk_mem hkL)
   obtain ⟨p, hp⟩ : ∃ p, p = lk L k := ⟨_, rfl⟩
   obtain ⟨x, y⟩ := p
   rw [← hp] at c1' c2' hwf
   have Hp := Lib.hid hp
   obtain ⟨wd, hwd⟩ : ∃ wd, wd = (wr.alloc (.cells #[.int .i64 x, .int .i64 y] 131)).drew := ⟨_, rfl⟩
   have hbd : Below wr.heap.size wr wd := by rw [hwd]; exact below_drewN ((Below.refl _ wr).alloc (Nat.le_refl _) _) 1
   have hM := (hR.below hbd).m
   have e1 := hM.look hwf
   obtain ⟨v0, st, w1, e2, e3, e4⟩ := hM.entry hwf (by unfold maxLen; omega)
   obtain ⟨c, hcd⟩ : ∃ c, c = cnt (L.take k) (x, y) := ⟨_, rfl⟩
   have hcb := count_le (L.take k) (x, y)
   rw [← hcd] at e1 e3 hcb
   rw [List.length_take] at hcb
   obtain ⟨w2, e5, hc2, hg2⟩ := e4 (c + 1) (WalkArith.wf_i64 (by omega))
   rw [hcd] at hc2
   have hnx := HR.out.step hbd hc2 hg2
   rw [hp, take_snoc hkL] at hnx
   have Hnx := Lib.hid hnx
   have hwc : IntKind.i64.wrap (c + 1) = c + 1 := IntWalk.i64_in _ (by omega)
   have e2' : (Instr.mapEntry 156 (.map (some (w.heap.size + 1))) (.agg #[.int .i64 x, .int .i64 y])).run Try.prog wd = .ok (.tuple #[v0, .int .i64 (st : Int)]) w1 := e2
   have e5' : (Instr.entryStore 156 (.map (some (w.heap.size + 1))) (.int .i64 (st : Int)) (.int .i64 (c + 1))).run Try.prog w1 = .ok () w2 := e5
   have e1' : (Instr.lookup 156 (.map (some (w.heap.size + 1))) (.agg #[.int .i64 x, .int .i64 y]) false).run Try.prog wd = .ok (.int .i64 c) wd := e1
   have e3' : (Instr.lookup 156 (.map (some (w.heap.size + 1))) (.agg #[.int .i64 x, .int .i64 y]) false).run Try.prog w1 = .ok (.int .i64 c) w1 := e3
   rw [hwd] at e1' e2'
   clear hR c1 c2 hwf hp hbd hM e1 e2 e3 e4 e5 hc2 hg2 hnx hcd hwd hkL
   go_wp2_with fail
   go_region
   go_wp2_with fail
   go_roundw
   case rel => exact ⟨k + 1, by go_num, by omega, Hnx.out⟩
   case measure => simp [intOf]; omega
  ·have hkl' : ¬ (k : Int) < len := by omega
   obtain rfl : k = len := by omega
   clear hR
   go_wp2_with fail
   obtain ⟨wp, hwp⟩ : ∃ wp, wp = wr := ⟨_, rfl⟩
   rw [← hwp] at HR ⊢
   go_loopw [26] (fun i wr => ∃ j : Nat, i = .int .i64 j ∧ j ≤ k ∧ PAt w N (.slice (some ⟨b, off, none⟩) k cap) k L wr ∧ ∀ i, i < j → GoodAt N L i) (fun i _ => k - (intOf i).toNat)
   case atStart => exact ⟨0, rfl, by omega, by have := HR.out; rw [List.take_of_length_le (by rw [Hl.out]; exact Nat.le_refl _)] at this; exact this, fun i hi => by omega⟩
   case round =>
    obtain ⟨j, rfl, hj, hR, hG⟩ := hrel
    have HR2 := Lib.hid hR
    have HG := Lib.hid hG
    have y1 := hR.b1
    have HB2 := Lib.hid hR.bel
    have hsz := hR.lt
    obtain ⟨wo, hwo⟩ : ∃ wo, wo = wr := ⟨_, rfl⟩
    subst hwo
    by_cases hkl : j < k
    ·have hkl' : (j : Int) < k := by omega
     obtain ⟨c1, c2⟩ := Hc.out j hkl
     have c1' := (hR.bel.cell (by exact hb)).trans c1
     have c2' := (hR.bel.cell (by exact hb)).trans c2
     have hkL : j < L.length := by rw [Hl.out]; exact hkl
     have hwf := HW.out _ (lk_mem hkL)
     obtain ⟨p, hp⟩ : ∃ p, p = lk L j := ⟨_, rfl⟩
     obtain ⟨x, y⟩ := p
     rw [← hp] at c1' c2' hwf
     obtain ⟨wc, hwc⟩ : ∃ wc, wc = wo.alloc (.cells #[.int .i64 x, .int .i64 y] 131) := ⟨_, rfl⟩
     have hbc : Below wo.heap.size wo wc := by rw [hwc]; exact (Below.refl _ wo).alloc (Nat.le_refl _) _
     have hPc := hR.below hbc
     obtain ⟨d1, hd1⟩ : ∃ d1, d1 = cnt L (x, y) := ⟨_, rfl⟩
     obtain ⟨d2, hd2⟩ : ∃ d2, d2 = cnt L (y, x) := ⟨_, rfl⟩
     have hS : SAt w.heap.size wo.heap.size N (.slice (some ⟨b, off, none⟩) k cap) x y d1 d2 wc :=
      ⟨hPc.b0, hPc.b1, by rw [hwc]; exact World.cell?_alloc_at _ _ _ _ rfl, by rw [hwc]; exact World.cell?_alloc_at _ _ _ _ rfl, ⟨k, _, hPc.m, hd1.symm, hd2.symm⟩, hwf⟩
     have T00 := Lib.hid hS
     have T : Hid (SAt w.heap.size wo.heap.size N (.slice (some ⟨b, off, none⟩) k cap) x y d1 d2 wc.drew) := Lib.hid (hS.below (below_drewN (Below.refl _ wc) 1))
     have TB : Hid (Below wo.heap.size wo wc.drew) := Lib.hid (below_drewN hbc 1)
     have TS : Hid (wo.heap.size ≤ wc.drew.heap.size) := Lib.hid hbc.size
     have HGd := Lib.hid (show GoodAt N L j ↔ inN N x = true ∧ inN N y = true ∧ x ≠ y ∧ d1 ≤ 1 ∧ d2 ≠ 0 by unfold GoodAt; rw [← hp, ← hd1, ← hd2])
     clear hR hG c1 c2 hkL hwf hp hbc hPc hd1 hd2 hS
     by_cases q1 : inN N x = true
     ·by_cases q2 : inN N y = true
      ·by_cases q3 : x = y
       ·have HNG := Lib.hid (show ¬ ∀ i, i < L.length → GoodAt N L i from fun h => absurd (HGd.out.1 (h j (by rw [Hl.out]; exact hkl))).2.2.1 (fun e => e q3))
        have q3' : (x == y) = true := by rw [beq_iff_eq]; exact q3
        have q3'' : (y == x) = true := by rw [beq_iff_eq]; exact q3.symm
        clear q3
        go_wp2_with fail
        rw [← hwc]
        clear hwc
        refine wp_region_held_drew (S := (fun w' => w'.cell? ⟨w.heap.size, 0, none⟩ = some (.int .i64 (N : Int)) ∧ w'.cell? ⟨w.heap.size, 1, none⟩ = some (.slice (some ⟨b, off, none⟩) k cap) ∧ w'.cell? ⟨wo.heap.size, 0, none⟩ = some (.int .i64 x) ∧ w'.cell? ⟨wo.heap.size, 1, none⟩ = some (.int .i64 y) ∧ (Instr.lookup 156 (.map (some (w.heap.size + 1))) (.agg #[.int .i64 x, .int .i64 y]) false).run Try.prog w' = .ok (.int .i64 d1) w' ∧ (Instr.lookup 156 (.map (some (w.heap.size + 1))) (.agg #[.int .i64 y, .int .i64 x]) false).run Try.prog w' = .ok (.int .i64 d2) w')) (by kernel_rfl) ?_ (fun hHeld => ?_)
        ·exact T.out.s
        refine tq 0 ?_
        refine tq 1 ?_
        refine tq 2 ?_
        refine rd 3 fun K hK => ?_
        go_simp
        refine (has_in N _ _ _).mono ?_
        rintro e wn ⟨rfl, hbn⟩
        have T := Lib.hid (T.out.below hbn)
        have TB := Lib.hid (below_step (by exact TS.out) TB.out hbn)
        have TS := Lib.hid (Nat.le_trans TS.out hbn.size)
        clear hbn
        go_wp2_with fail
        refine hK.out _ _ ?_ (fun hHeld => ?_)
        ·exact T.out.s
        clear hK K
        try simp only [Act.put, List.getElem_toArray, List.getElem_cons_zero, List.getElem_cons_succ, List.setIfInBounds_toArray, List.set_cons_zero, List.set_cons_succ]
        refine tq 4 ?_
        refine tq 5 ?_
        refine tq 6 ?_
        refine tq 7 ?_
        refine tq 8 ?_
        refine rd 9 fun K hK => ?_
        go_simp
        refine (has_in N _ _ _).mono ?_
        rintro e wn ⟨rfl, hbn⟩
        have T := Lib.hid (T.out.below hbn)
        have TB := Lib.hid (below_step (by exact TS.out) TB.out hbn)
        have TS := Lib.hid (Nat.le_trans TS.out hbn.size)
        clear hbn
        go_wp2_with fail
        refine hK.out _ _ ?_ (fun hHeld => ?_)
        ·exact T.out.s
        clear hK K
        try simp only [Act.put, List.getElem_toArray, List.getElem_cons_zero, List.getElem_cons_succ, List.setIfInBounds_toArray, List.set_cons_zero, List.set_cons_succ]
        refine tq 10 ?_
        refine tq 11 ?_
        refine tq 12 ?_
        refine tq 13 ?_
        refine tq 14 ?_
        refine rd 15 fun K hK => ?_
        go_simp
        refine (turned_at _ _ _).mono ?_
        rintro e wn ⟨rfl, hbn⟩
        have T := Lib.hid (T.out.below hbn)
        have TB := Lib.hid (below_step (by exact TS.out) TB.out hbn)
        have TS := Lib.hid (Nat.le_trans TS.out hbn.size)
        clear hbn
        go_wp2_with fail
        refine hK.out _ _ ?_ (fun hHeld => ?_)
        ·exact T.out.s
        clear hK K
        try simp only [Act.put, List.getElem_toArray, List.getElem_cons_zero, List.getElem_cons_succ, List.setIfInBounds_toArray, List.set_cons_zero, List.set_cons_succ]
        refine tq 16 ?_
        refine tq 17 ?_
        refine tq 18 ?_
        refine tq0 19 ?_
        refine tq0 20 ?_
        refine tq0 21 ?_
        refine tq0 22 ?_
        refine tq 23 ?_
        refine tq 24 ?_
        refine tq0 25 ?_
        refine tq0 26 ?_
        refine tq0 27 ?_
        refine tq0 28 ?_
        refine tq0 29 ?_
        refine tq 30 ?_
        refine wpAnyH_done (by kernel_rfl) ?_ _
        go_wp2_with fail
        go_ret
        exact PairRes.mk false rfl ⟨fun h => (by cases h), fun h => absurd h HNG.out⟩ (below_step (by omega) HB2.out TB.out)
       ·by_cases q4 : 1 < d1
        ·have HNG := Lib.hid (show ¬ ∀ i, i < L.length → GoodAt N L i from fun h => absurd (HGd.out.1 (h j (by rw [Hl.out]; exact hkl))).2.2.2.1 (fun e => absurd e (by omega)))
         have q4' : decide (1 < d1) = true := decide_eq_true q4
         have q3' : (x == y) = false := by simpa using q3
         clear q3
         go_wp2_with fail
         rw [← hwc]
         clear hwc
         refine wp_region_held_drew (S := (fun w' => w'.cell? ⟨w.heap.size, 0, none⟩ = some (.int .i64 (N : Int)) ∧ w'.cell? ⟨w.heap.size, 1, none⟩ = some (.slice (some ⟨b, off, none⟩) k cap) ∧ w'.cell? ⟨wo.heap.size, 0, none⟩ = some (.int .i64 x) ∧ w'.cell? ⟨wo.heap.size, 1, none⟩ = some (.int .i64 y) ∧ (Instr.lookup 156 (.map (some (w.heap.size + 1))) (.agg #[.int .i64 x, .int .i64 y]) false).run Try.prog w' = .ok (.int .i64 d1) w' ∧ (Instr.lookup 156 (.map (some (w.heap.size + 1))) (.agg #[.int .i64 y, .int .i64 x]) false).run Try.prog w' = .ok (.int .i64 d2) w')) (by kernel_rfl) ?_ (fun hHeld => ?_)
         ·exact T.out.s
         refine tq 0 ?_
         refine tq 1 ?_
         refine tq 2 ?_
         refine rd 3 fun K hK => ?_
         go_simp
         refine (has_in N _ _ _).mono ?_
         rintro e wn ⟨rfl, hbn⟩
         have T := Lib.hid (T.out.below hbn)
         have TB := Lib.hid (below_step (by exact TS.out) TB.out hbn)
         have TS := Lib.hid (Nat.le_trans TS.out hbn.size)
         clear hbn
         go_wp2_with fail
         refine hK.out _ _ ?_ (fun hHeld => ?_)
         ·exact T.out.s
         clear hK K
         try simp only [Act.put, List.getElem_toArray, List.getElem_cons_zero, List.getElem_cons_succ, List.setIfInBounds_toArray, List.set_cons_zero, List.set_cons_succ]
         refine tq 4 ?_
         refine tq 5 ?_
         refine tq 6 ?_
         refine tq 7 ?_
         refine tq 8 ?_
         refine rd 9 fun K hK => ?_
         go_simp
         refine (has_in N _ _ _).mono ?_
         rintro e wn ⟨rfl, hbn⟩
         have T := Lib.hid (T.out.below hbn)
         have TB := Lib.hid (below_step (by exact TS.out) TB.out hbn)
         have TS := Lib.hid (Nat.le_trans TS.out hbn.size)
         clear hbn
         go_wp2_with fail
         refine hK.out _ _ ?_ (fun hHeld => ?_)
         ·exact T.out.s
         clear hK K
         try simp only [Act.put, List.getElem_toArray, List.getElem_cons_zero, List.getElem_cons_succ, List.setIfInBounds_toArray, List.set_cons_zero, List.set_cons_succ]
         refine tq 10 ?_
         refine tq 11 ?_
         refine tq 12 ?_
         refine tq 13 ?_
         refine tq 14 ?_
         refine rd 15 fun K hK => ?_
         go_simp
         refine (turned_at _ _ _).mono ?_
         rintro e wn ⟨rfl, hbn⟩
         have T := Lib.hid (T.out.below hbn)
         have TB := Lib.hid (below_step (by exact TS.out) TB.out hbn)
         have TS := Lib.hid (Nat.le_trans TS.out hbn.size)
         clear hbn
         go_wp2_with fail
         refine hK.out _ _ ?_ (fun hHeld => ?_)
         ·exact T.out.s
         clear hK K
         try simp only [Act.put, List.getElem_toArray, List.getElem_cons_zero, List.getElem_cons_succ, List.setIfInBounds_toArray, List.set_cons_zero, List.set_cons_succ]
         refine tq 16 ?_
         refine tq 17 ?_
         refine tq 18 ?_
         refine tq 19 ?_
         refine tq 20 ?_
         refine rd 21 fun K hK => ?_
         go_simp
         refine hK.out _ _ (by assumption) (fun hHeld => ?_)
         clear hK K
         try simp only [Act.put, List.getElem_toArray, List.getElem_cons_zero, List.getElem_cons_succ, List.setIfInBounds_toArray, List.set_cons_zero, List.set_cons_succ]
         refine tq 22 ?_
         refine tq 23 ?_
         refine tq 24 ?_
         refine tq0 25 ?_
         refine tq0 26 ?_
         refine tq0 27 ?_
         refine tq0 28 ?_
         refine tq0 29 ?_
         refine tq 30 ?_
         refine wpAnyH_done (by kernel_rfl) ?_ _
         go_wp2_with fail
         go_ret
         exact PairRes.mk false rfl ⟨fun h => (by cases h), fun h => absurd h HNG.out⟩ (below_step (by omega) HB2.out TB.out)
        ·by_cases q5 : d2 = 0
         ·have HNG := Lib.hid (show ¬ ∀ i, i < L.length → GoodAt N L i from fun h => absurd (HGd.out.1 (h j (by rw [Hl.out]; exact hkl))).2.2.2.2 (fun e => e q5))
          have q3' : (x == y) = false := by simpa using q3
          have q4' : decide (1 < d1) = false := decide_eq_false (by omega)
          have q5' : (d2 == 0) = true := by rw [beq_iff_eq]; exact q5
          clear q5
          clear q3
          go_wp2_with fail
          rw [← hwc]
          clear hwc
          go_region_held3 (fun w' => w'.cell? ⟨w.heap.size, 0, none⟩ = some (.int .i64 (N : Int)) ∧ w'.cell? ⟨w.heap.size, 1, none⟩ = some (.slice (some ⟨b, off, none⟩) k cap) ∧ w'.cell? ⟨wo.heap.size, 0, none⟩ = some (.int .i64 x) ∧ w'.cell? ⟨wo.heap.size, 1, none⟩ = some (.int .i64 y) ∧
           (Instr.lookup 156 (.map (some (w.heap.size + 1))) (.agg #[.int .i64 x, .int .i64 y]) false).run Try.prog w' = .ok (.int .i64 d1) w' ∧
           (Instr.lookup 156 (.map (some (w.heap.size + 1))) (.agg #[.int .i64 y, .int .i64 x]) false).run Try.prog w' = .ok (.int .i64 d2) w') (first | exact T00.out.s | exact T.out.s)
          (first
           | (go_at_call 82; refine (has_in N _ _ _).mono ?_; rintro e wn ⟨rfl, hbn⟩; have T := Lib.hid (T.out.below hbn); have TB := Lib.hid (below_step (by exact TS.out) TB.out hbn); have TS := Lib.hid (Nat.le_trans TS.out hbn.size); clear hbn)
           | (go_at_call 83; refine (turned_at _ _ _).mono ?_; rintro e wn ⟨rfl, hbn⟩; have T := Lib.hid (T.out.below hbn); have TB := Lib.hid (below_step (by exact TS.out) TB.out hbn); have TS := Lib.hid (Nat.le_trans TS.out hbn.size); clear hbn))
          go_wp2_with fail
          go_ret
          exact PairRes.mk false rfl ⟨fun h => (by cases h), fun h => absurd h HNG.out⟩ (below_step (by omega) HB2.out TB.out)
         ·have HOK := Lib.hid (HGd.out.2 ⟨q1, q2, q3, by omega, q5⟩)
          have q3' : (x == y) = false := by simpa using q3
          have q4' : decide (1 < d1) = false := decide_eq_false (by omega)
          have q5' : (d2 == 0) = false := by simpa using q5
          clear q3 q5
          go_wp2_with fail
          rw [← hwc]
          clear hwc
          go_region_held3 (fun w' => w'.cell? ⟨w.heap.size, 0, none⟩ = some (.int .i64 (N : Int)) ∧ w'.cell? ⟨w.heap.size, 1, none⟩ = some (.slice (some ⟨b, off, none⟩) k cap) ∧ w'.cell? ⟨wo.heap.size, 0, none⟩ = some (.int .i64 x) ∧ w'.cell? ⟨wo.heap.size, 1, none⟩ = some (.int .i64 y) ∧
           (Instr.lookup 156 (.map (some (w.heap.size + 1))) (.agg #[.int .i64 x, .int .i64 y]) false).run Try.prog w' = .ok (.int .i64 d1) w' ∧
           (Instr.lookup 156 (.map (some (w.heap.size + 1))) (.agg #[.int .i64 y, .int .i64 x]) false).run Try.prog w' = .ok (.int .i64 d2) w') (first | exact T00.out.s | exact T.out.s)
          (first
           | (go_at_call 82; refine (has_in N _ _ _).mono ?_; rintro e wn ⟨rfl, hbn⟩; have T := Lib.hid (T.out.below hbn); have TB := Lib.hid (below_step (by exact TS.out) TB.out hbn); have TS := Lib.hid (Nat.le_trans TS.out hbn.size); clear hbn)
           | (go_at_call 83; refine (turned_at _ _ _).mono ?_; rintro e wn ⟨rfl, hbn⟩; have T := Lib.hid (T.out.below hbn); have TB := Lib.hid (below_step (by exact TS.out) TB.out hbn); have TS := Lib.hid (Nat.le_trans TS.out hbn.size); clear hbn))
          go_wp2_with fail
          go_roundw
          case rel =>
           refine ⟨j + 1, by go_num, by omega, HR2.out.below TB.out, fun i hi => ?_⟩
           by_cases hij : i < j
           ·exact HG.out i hij
           ·obtain rfl : i = j := by omega
            exact HOK.out
          case measure => simp [intOf]; omega
      ·have HNG := Lib.hid (show ¬ ∀ i, i < L.length → GoodAt N L i from fun h => absurd (HGd.out.1 (h j (by rw [Hl.out]; exact hkl))).2.1 (fun e => q2 e))
       have q2' : inN N y = false := by simpa using q2
       clear q2
       go_wp2_with fail
       rw [← hwc]
       clear hwc
       refine wp_region_held_drew (S := (fun w' => w'.cell? ⟨w.heap.size, 0, none⟩ = some (.int .i64 (N : Int)) ∧ w'.cell? ⟨w.heap.size, 1, none⟩ = some (.slice (some ⟨b, off, none⟩) k cap) ∧ w'.cell? ⟨wo.heap.size, 0, none⟩ = some (.int .i64 x) ∧ w'.cell? ⟨wo.heap.size, 1, none⟩ = some (.int .i64 y) ∧ (Instr.lookup 156 (.map (some (w.heap.size + 1))) (.agg #[.int .i64 x, .int .i64 y]) false).run Try.prog w' = .ok (.int .i64 d1) w' ∧ (Instr.lookup 156 (.map (some (w.heap.size + 1))) (.agg #[.int .i64 y, .int .i64 x]) false).run Try.prog w' = .ok (.int .i64 d2) w')) (by kernel_rfl) ?_ (fun hHeld => ?_)
       ·exact T.out.s
       refine tq 0 ?_
       refine tq 1 ?_
       refine tq 2 ?_
       refine rd 3 fun K hK => ?_
       go_simp
       refine (has_in N _ _ _).mono ?_
       rintro e wn ⟨rfl, hbn⟩
       have T := Lib.hid (T.out.below hbn)
       have TB := Lib.hid (below_step (by exact TS.out) TB.out hbn)
       have TS := Lib.hid (Nat.le_trans TS.out hbn.size)
       clear hbn
       go_wp2_with fail
       refine hK.out _ _ ?_ (fun hHeld => ?_)
       ·exact T.out.s
       clear hK K
       try simp only [Act.put, List.getElem_toArray, List.getElem_cons_zero, List.getElem_cons_succ, List.setIfInBounds_toArray, List.set_cons_zero, List.set_cons_succ]
       refine tq 4 ?_
       refine tq 5 ?_
       refine tq 6 ?_
       refine tq 7 ?_
       refine tq 8 ?_
       refine rd 9 fun K hK => ?_
       go_simp
       refine (has_in N _ _ _).mono ?_
       rintro e wn ⟨rfl, hbn⟩
       have T := Lib.hid (T.out.below hbn)
       have TB := Lib.hid (below_step (by exact TS.out) TB.out hbn)
       have TS := Lib.hid (Nat.le_trans TS.out hbn.size)
       clear hbn
       go_wp2_with fail
       refine hK.out _ _ ?_ (fun hHeld => ?_)
       ·exact T.out.s
       clear hK K
       try simp only [Act.put, List.getElem_toArray, List.getElem_cons_zero, List.getElem_cons_succ, List.setIfInBounds_toArray, List.set_cons_zero, List.set_cons_succ]
       refine tq 10 ?_
       refine tq 11 ?_
       refine tq 12 ?_
       refine tq0 13 ?_
       refine tq0 14 ?_
       refine tq0 15 ?_
       refine tq0 16 ?_
       refine tq 17 ?_
       refine tq 18 ?_
       refine tq0 19 ?_
       refine tq0 20 ?_
       refine tq0 21 ?_
       refine tq0 22 ?_
       refine tq 23 ?_
       refine tq 24 ?_
       refine tq0 25 ?_
       refine tq0 26 ?_
       refine tq0 27 ?_
       refine tq0 28 ?_
       refine tq0 29 ?_
       refine tq 30 ?_
       refine wpAnyH_done (by kernel_rfl) ?_ _
       go_wp2_with fail
       go_ret
       exact PairRes.mk false rfl ⟨fun h => (by cases h), fun h => absurd h HNG.out⟩ (below_step (by omega) HB2.out TB.out)
     ·have HNG := Lib.hid (show ¬ ∀ i, i < L.length → GoodAt N L i from fun h => absurd (HGd.out.1 (h j (by rw [Hl.out]; exact hkl))).1 (fun e => q1 e))
      have q1' : inN N x = false := by simpa using q1
      clear q1
      go_wp2_with fail
      rw [← hwc]
      clear hwc
      refine wp_region_held_drew (S := (fun w' => w'.cell? ⟨w.heap.size, 0, none⟩ = some (.int .i64 (N : Int)) ∧ w'.cell? ⟨w.heap.size, 1, none⟩ = some (.slice (some ⟨b, off, none⟩) k cap) ∧ w'.cell? ⟨wo.heap.size, 0, none⟩ = some (.int .i64 x) ∧ w'.cell? ⟨wo.heap.size, 1, none⟩ = some (.int .i64 y) ∧ (Instr.lookup 156 (.map (some (w.heap.size + 1))) (.agg #[.int .i64 x, .int .i64 y]) false).run Try.prog w' = .ok (.int .i64 d1) w' ∧ (Instr.lookup 156 (.map (some (w.heap.size + 1))) (.agg #[.int .i64 y, .int .i64 x]) false).run Try.prog w' = .ok (.int .i64 d2) w')) (by kernel_rfl) ?_ (fun hHeld => ?_)
      ·exact T.out.s
      refine tq 0 ?_
      refine tq 1 ?_
      refine tq 2 ?_
      refine rd 3 fun K hK => ?_
      go_simp
      refine (has_in N _ _ _).mono ?_
      rintro e wn ⟨rfl, hbn⟩
      have T := Lib.hid (T.out.below hbn)
      have TB := Lib.hid (below_step (by exact TS.out) TB.out hbn)
      have TS := Lib.hid (Nat.le_trans TS.out hbn.size)
      clear hbn
      go_wp2_with fail
      refine hK.out _ _ ?_ (fun hHeld => ?_)
      ·exact T.out.s
      clear hK K
      try simp only [Act.put, List.getElem_toArray, List.getElem_cons_zero, List.getElem_cons_succ, List.setIfInBounds_toArray, List.set_cons_zero, List.set_cons_succ]
      refine tq 4 ?_
      refine tq 5 ?_
      refine tq0 6 ?_
      refine tq0 7 ?_
      refine tq0 8 ?_
      refine tq0 9 ?_
      refine tq0 10 ?_
      refine tq 11 ?_
      refine tq 12 ?_
      refine tq0 13 ?_
      refine tq0 14 ?_
      refine tq0 15 ?_
      refine tq0 16 ?_
      refine tq 17 ?_
      refine tq 18 ?_
      refine tq0 19 ?_
      refine tq0 20 ?_
      refine tq0 21 ?_
      refine tq0 22 ?_
      refine tq 23 ?_
      refine tq 24 ?_
      refine tq0 25 ?_
      refine tq0 26 ?_
      refine tq0 27 ?_
      refine tq0 28 ?_
      refine tq0 29 ?_
      refine tq 30 ?_
      refine wpAnyH_done (by kernel_rfl) ?_ _
      go_wp2_with fail
      go_ret
      exact PairRes.mk false rfl ⟨fun h => (by cases h), fun h => absurd h HNG.out⟩ (below_step (by omega) HB2.out TB.out)
    ·have hkl' : ¬ (j : Int) < k := by omega
     obtain rfl : j = k := by omega
     clear hR
     go_wp2_with fail
     go_ret
     exact PairRes.mk true rfl ⟨fun _ => fun i hi => HG.out i (by rw [Hl.out] at hi; exact hi), fun _ => rfl⟩ HB2.out
end Go.Proofs.Ytennbiajnkobnaa
namespace Go.Proofs.Ytennbiajnkobnaa
open Go.RowKit Go.PlainAid
/-- Links between unlike nodes, none twice, each with the one the other way round. -/
structure RG (N : Int) (L : Lks) : Prop where
 nodup : L.Nodup
 inr : ∀ p ∈ L, 0 ≤ p.1 ∧ p.1 < N ∧ 0 ≤ p.2 ∧ p.2 < N
 irr : ∀ p ∈ L, p.1 ≠ p.2
 sym : ∀ p ∈ L, (p.2, p.1) ∈ L
theorem lk_inj {L : Lks} (h : L.Nodup) {i j : Nat} (hi : i < L.length) (hj : j < L.length) (e : lk L i = lk L j) : i = j := by
 have e' : L[i] = L[j] := by
  have h1 : lk L i = L[i] := by simp [lk, List.getD, hi]
  have h2 : lk L j = L[j] := by simp [lk, List.getD, hj]
  rw [← h1, ← h2]; exact e
 rcases Nat.lt_trichotomy i j with g | g | g
 ·exact absurd e' (List.pairwise_iff_getElem.1 h i j hi hj g)
 ·exact g
 ·exact absurd e'.symm (List.pairwise_iff_getElem.1 h j i hj hi g)
theorem nodup_of_inj {L : Lks} (h : ∀ i j, i < L.length → j < L.length → lk L i = lk L j → i = j) : L.Nodup := by
 refine List.pairwise_iff_getElem.2 fun i j hi hj hij e => ?_
 have h1 : lk L i = L[i] := by simp [lk, List.getD, hi]
 have h2 : lk L j = L[j] := by simp [lk, List.getD, hj]
 have := h i j hi hj (by rw [h1, h2]; exact e)
 omega
theorem find_self {L : Lks} (h : L.Nodup) {i : Nat} (hi : i < L.length) : findL L (lk L i) = (i : Int) :=
 findL_hit hi rfl (fun j hj e => by have := lk_inj h (by omega) hi e; omega)
theorem two_le_count {L : Lks} {i j : Nat} (hij : i < j) (hj : j < L.length) (e : lk L i = lk L j) : 2 ≤ L.count (lk L j) := by
 have hi : i < L.length := by omega
 have h1 : L = L.take (i + 1) ++ L.drop (i + 1) := (List.take_append_drop _ _).symm
 have m1 : lk L j ∈ L.take (i + 1) := by
  rw [← e]
  refine List.mem_iff_getElem?.2 ⟨i, ?_⟩
  rw [List.getElem?_take, if_pos (by omega)]
  simp [lk, List.getD, hi]
 have m2 : lk L j ∈ L.drop (i + 1) := by
  refine List.mem_iff_getElem?.2 ⟨j - (i + 1), ?_⟩
  rw [List.getElem?_drop, show i + 1 + (j - (i + 1)) = j by omega]
  simp [lk, List.getD, hj]
 rw [h1, List.count_append]
 have := List.count_pos_iff.2 m1
 have := List.count_pos_iff.2 m2
 rw [← h1]
 omega
theorem count_of_nodup {p : Int × Int} : ∀ {L : Lks}, L.Nodup → L.count p ≤ 1
 | [], _ => by simp
 | q :: r, h => by
  obtain ⟨h1, h2⟩ := List.nodup_cons.1 h
  rw [List.count_cons]
  by_cases e : q = p
  ·subst e
   rw [List.count_eq_zero.2 h1]; simp
  ·have := count_of_nodup h2 (p := p)
   simp [e]; exact this
theorem good_iff {N : Int} {L : Lks} : (∀ i, i < L.length → GoodAt N L i) ↔ RG N L := by
 constructor
 ·intro h
  have hp : ∀ p ∈ L, inN N p.1 = true ∧ inN N p.2 = true ∧ p.1 ≠ p.2 ∧ cnt L p ≤ 1 ∧ cnt L (p.2, p.1) ≠ 0 := by
   intro p hp
   obtain ⟨i, hi, rfl⟩ := mem_lk hp
   exact h i hi
  refine ⟨nodup_of_inj ?_, ?_, fun p m => (hp p m).2.2.1, ?_⟩
  ·intro i j hi hj e
   rcases Nat.lt_trichotomy i j with g | g | g
   ·have := two_le_count g hj e
    have := (h j hj).2.2.2.1
    unfold cnt at this; omega
   ·exact g
   ·have := two_le_count g hi e.symm
    have := (h i hi).2.2.2.1
    unfold cnt at this; omega
  ·intro p m
   have h1 := inN_iff.1 (hp p m).1
   have h2 := inN_iff.1 (hp p m).2.1
   exact ⟨h1.1, h1.2, h2.1, h2.2⟩
  ·intro p m
   have := (hp p m).2.2.2.2
   unfold cnt at this
   exact List.count_pos_iff.1 (by omega)
 ·intro h i hi
  have m := lk_mem hi
  have r := h.inr _ m
  refine ⟨inN_iff.2 ⟨r.1, r.2.1⟩, inN_iff.2 ⟨r.2.2.1, r.2.2.2⟩, h.irr _ m, ?_, ?_⟩
  ·have := count_of_nodup h.nodup (p := lk L i); unfold cnt; omega
  ·have := List.count_pos_iff.2 (h.sym _ m); unfold cnt; omega
def RefGood (N : Int) (L : Lks) (i : Nat) : Prop :=
 (0 ≤ (lk L i).1 ∧ (lk L i).1 < N) ∧ (0 ≤ (lk L i).2 ∧ (lk L i).2 < N) ∧ (lk L i).1 ≠ (lk L i).2 ∧ findL L (lk L i) = (i : Int) ∧ 0 ≤ findL L ((lk L i).2, (lk L i).1)
theorem ref_iff {N : Int} {L : Lks} : (∀ i, i < L.length → RefGood N L i) ↔ RG N L := by
 constructor
 ·intro h
  have hp : ∀ p ∈ L, (0 ≤ p.1 ∧ p.1 < N) ∧ (0 ≤ p.2 ∧ p.2 < N) ∧ p.1 ≠ p.2 ∧ 0 ≤ findL L (p.2, p.1) := by
   intro p hp
   obtain ⟨i, hi, rfl⟩ := mem_lk hp
   exact ⟨(h i hi).1, (h i hi).2.1, (h i hi).2.2.1, (h i hi).2.2.2.2⟩
  refine ⟨nodup_of_inj ?_, fun p m => ⟨(hp p m).1.1, (hp p m).1.2, (hp p m).2.1.1, (hp p m).2.1.2⟩, fun p m => (hp p m).2.2.1, ?_⟩
  ·intro i j hi hj e
   have h1 := (h i hi).2.2.2.1
   have h2 := (h j hj).2.2.2.1
   rw [e, h2] at h1
   omega
  ·intro p m
   have := (hp p m).2.2.2
   refine Classical.byContradiction fun hn => ?_
   have := findL_neg.2 hn
   omega
 ·intro h i hi
  have m := lk_mem hi
  have r := h.inr _ m
  refine ⟨⟨r.1, r.2.1⟩, ⟨r.2.2.1, r.2.2.2⟩, h.irr _ m, find_self h.nodup hi, ?_⟩
  rcases Int.lt_or_le (findL L ((lk L i).2, (lk L i).1)) 0 with g | g
  ·exact absurd (h.sym _ m) (findL_neg.1 g)
  ·exact g
theorem RG.in {N : Nat} {L : Lks} (h : RG N L) : InR N L := h.inr
theorem way_cons {L : Lks} : ∀ {k : Nat} {a b c : Int}, (a, b) ∈ L → Way L k b c → Way L (k + 1) a c := by
 intro k
 induction k with
 | zero => intro a b c m h; have e : b = c := h; subst e; exact ⟨a, rfl, m⟩
 | succ k ih =>
  intro a b c m h
  obtain ⟨d, hd, hm⟩ := h
  exact ⟨d, ih m hd, hm⟩
theorem way_turn {N : Int} {L : Lks} (h : RG N L) : ∀ {k : Nat} {a b : Int}, Way L k a b → Way L k b a := by
 intro k
 induction k with
 | zero => intro a b hw; exact (show a = b from hw).symm
 | succ k ih =>
  intro a b hw
  obtain ⟨c, hc, hm⟩ := hw
  exact way_cons (h.sym _ hm) (ih hc)
theorem way_trans {L : Lks} {a b : Int} {j : Nat} (h : Way L j a b) : ∀ {k : Nat} {c : Int}, Way L k b c → Way L (j + k) a c := by
 intro k
 induction k with
 | zero => intro c hw; have e : b = c := hw; subst e; exact h
 | succ k ih =>
  intro c hw
  obtain ⟨d, hd, hm⟩ := hw
  exact ⟨d, ih hd, hm⟩
def Conn (N : Int) (L : Lks) : Prop := ∀ y : Nat, (y : Int) < N → ∃ k, Way L k 0 y
def RightG (N : Int) (L : Lks) : Prop := 1 ≤ N ∧ N ≤ 6 ∧ L.length ≤ 30 ∧ RG N L ∧ Conn N L
theorem Conn.all {N : Int} {L : Lks} (h : Conn N L) (hR : RG N L) {a b : Nat} (ha : (a : Int) < N) (hb : (b : Int) < N) : ∃ k, Way L k a b := by
 obtain ⟨j, hj⟩ := h a ha
 obtain ⟨k, hk⟩ := h b hb
 exact ⟨_, way_trans (way_turn hR hj) hk⟩
/-- None is out of reach, if none is told so. -/
theorem dist_conn {N : Nat} {L : Lks} {a : Nat} {D : List Int} (h : IsDist N L a D) : (-1 : Int) ∉ D ↔ ∀ y : Nat, y < N → ∃ k, Way L k a y := by
 constructor
 ·intro hn y hy
  rcases h.2 y hy with ⟨k, _, hf⟩ | ⟨hd, _⟩
  ·exact ⟨k, hf.1⟩
  ·refine absurd ?_ hn
   rw [← hd]
   have hl : y < D.length := by rw [h.1]; exact hy
   simp only [List.getD, List.getElem?_eq_getElem hl, Option.getD_some]
   exact List.getElem_mem hl
 ·intro hw hm
  obtain ⟨i, hi, he⟩ := List.getElem_of_mem hm
  have hiN : i < N := by rw [← h.1]; exact hi
  have e : D.getD i (-1) = -1 := by simp [List.getD, hi, he]
  obtain ⟨k, hk⟩ := hw i hiN
  rcases h.2 i hiN with ⟨k, h1, _⟩ | ⟨_, h2⟩
  ·omega
  ·exact h2 k hk
theorem dist_num {N : Nat} {L : Lks} {a : Nat} {D : List Int} (h : IsDist N L a D) {y : Nat} (hy : y < N) (hc : ∃ k, Way L k a y) : ∃ k : Nat, D.getD y (-1) = (k : Int) ∧ Far L k a y := by
 rcases h.2 y hy with ⟨k, h1, h2⟩ | ⟨_, h2⟩
 ·exact ⟨k, h1, h2⟩
 ·obtain ⟨k, hk⟩ := hc
  exact absurd hk (h2 k)
end Go.Proofs.Ytennbiajnkobnaa
namespace Go.Proofs.Ytennbiajnkobnaa
open Go.RowKit Go.PlainAid Go.Maps
/-- What Right tells. -/
def RightRes (w : World) (N : Int) (L : Lks) (e : Ending) (w' : World) : Prop := ∃ r, e = .returned (.bool r) ∧ (r = true ↔ RightG N L) ∧ Below w.heap.size w w'
theorem RightRes.mk {w w' : World} {N : Int} {L : Lks} {e : Ending} (r : Bool) (h1 : e = .returned (.bool r)) (h2 : r = true ↔ RightG N L) (h3 : Below w.heap.size w w') : RightRes w N L e w' := ⟨r, h1, h2, h3⟩
theorem RightRes.no {w w' : World} {N : Int} {L : Lks} {e : Ending} (h1 : e = .returned (.bool false)) (h2 : ¬ RightG N L) (h3 : Below w.heap.size w w') : RightRes w N L e w' := ⟨false, h1, ⟨fun h => (by cases h), fun h => absurd h h2⟩, h3⟩
theorem paired_none (N : Int) (a : Option Addr) (cap : Nat) (w : World) :
  Calls Try.prog 61 #[gv N (.slice a 0 cap)] w (PairRes w N []) := by
 have hmm := @run_makeMap Try.prog
 unfold gv
 go_enter Try.func61, Try.ntmps61
 go_wp2_with fail
 refine wp_loop_rounds 1 ?_
 rw [rounds_succ]
 go_wp2_with fail
 refine wp_loop_rounds 1 ?_
 rw [rounds_succ]
 go_wp2_with fail
 go_ret
 exact PairRes.mk true rfl ⟨fun _ i hi => by simp at hi, fun _ => rfl⟩ (by go_grown)
theorem paired_any (N : Nat) (v : Value) (L : Lks) (w : World) (h : LinksAt w v L) (hn : L.length ≤ 1000000) (hW : ∀ p ∈ L, wfp p) :
  Calls Try.prog 61 #[gv N v] w (PairRes w N L) := by
 rcases h with ⟨a, cap, rfl, rfl⟩ | ⟨b, off, len, cap, rfl, hl, hp, hb, hlc, hc⟩
 ·exact paired_none N a cap w
 ·exact paired_some N b off len cap L w hl hb hlc hc (by omega) hW
theorem paired_yes (N : Nat) (v : Value) (L : Lks) (w : World) (h : LinksAt w v L) (hn : L.length ≤ 1000000) (hW : ∀ p ∈ L, wfp p) (hG : RG N L) :
  Calls Try.prog 61 #[gv N v] w fun e w' => e = .returned (.bool true) ∧ Below w.heap.size w w' := by
 refine (paired_any N v L w h hn hW).mono ?_
 rintro e w' ⟨r, rfl, hr, hb⟩
 rw [hr.2 (good_iff.2 hG)]
 exact ⟨rfl, hb⟩
theorem paired_no (N : Nat) (v : Value) (L : Lks) (w : World) (h : LinksAt w v L) (hn : L.length ≤ 1000000) (hW : ∀ p ∈ L, wfp p) (hG : ¬ RG N L) :
  Calls Try.prog 61 #[gv N v] w fun e w' => e = .returned (.bool false) ∧ Below w.heap.size w w' := by
 refine (paired_any N v L w h hn hW).mono ?_
 rintro e w' ⟨r, rfl, hr, hb⟩
 have : r = false := by
  cases r with
  | false => rfl
  | true => exact absurd (good_iff.1 (hr.1 rfl)) hG
 rw [this]
 exact ⟨rfl, hb⟩
theorem dist_zero (N : Nat) (v : Value) (L : Lks) (w : World) (hL : LinksAt w v L) (hR : InR N L) (h1 : 1 ≤ N) (h6 : N ≤ 6) (hn : L.length ≤ 1000000) :
  Calls Try.prog 63 #[gv N v, .int .i64 0] w fun e w' => ∃ u D, e = .returned u ∧ IsDist N L ((0 : Nat) : Int) D ∧ IntsAt w' u D ∧ Below w.heap.size w w' := dist_some N 0 v L w hL hR h1 h6 (by omega) hn
theorem right_no (N : Int) (v : Value) (L : Lks) (w : World) (h : LinksAt w v L) (hN : ¬ (1 ≤ N ∧ N ≤ 6 ∧ L.length ≤ 30)) :
  Calls Try.prog 42 #[gv N v] w (RightRes w N L) := by
 obtain ⟨a, cap, rfl⟩ := h.at
 have hb : Below w.heap.size w (w.alloc (.cells #[.int .i64 N, .slice a L.length cap] 24)) := (Below.refl _ w).alloc (Nat.le_refl _) _
 have HB := Lib.hid hb
 have HNo := Lib.hid (show ¬ RightG N L from fun hr => hN ⟨hr.1, hr.2.1, hr.2.2.1⟩)
 unfold gv
 clear h hb
 by_cases h1 : N < 1
 ·clear hN
  go_enter Try.func42, Try.ntmps42
  go_wp2_with fail
  go_ret
  exact RightRes.no rfl HNo.out HB.out
 ·by_cases h6 : 6 < N
  ·clear hN
   go_enter Try.func42, Try.ntmps42
   go_wp2_with fail
   go_ret
   exact RightRes.no rfl HNo.out HB.out
  ·have h30 : 30 < (L.length : Int) := by omega
   clear hN
   go_enter Try.func42, Try.ntmps42
   go_wp2_with fail
   go_ret
   exact RightRes.no rfl HNo.out HB.out
set_option maxHeartbeats 8000000 in
theorem right_yes (N : Nat) (v : Value) (L : Lks) (w : World) (h : LinksAt w v L) (hW : ∀ p ∈ L, wfp p) (h1 : 1 ≤ N) (h6 : N ≤ 6) (h30 : L.length ≤ 30) :
  Calls Try.prog 42 #[gv N v] w (RightRes w N L) := by
 obtain ⟨a, cap, hv⟩ := h.at
 obtain ⟨wb, hwb, hbel, hL, z0, z1, hsz⟩ := boxed N v 24 L w h
 have HB := Lib.hid hbel
 have HL := Lib.hid hL
 have i1 : ¬ (N : Int) < 1 := by omega
 have i6 : ¬ 6 < (N : Int) := by omega
 have i30 : ¬ 30 < (L.length : Int) := by omega
 have HW := Lib.hid hW
 unfold gv
 subst hv
 by_cases hG : RG N L
 ·clear h hL hbel hW
  go_enter Try.func42, Try.ntmps42
  go_wp2_with fail
  rw [← hwb]
  clear hwb
  refine (paired_yes N _ L _ HL.out (by omega) HW.out hG).mono ?_
  rintro e w1 ⟨rfl, hb1⟩
  have y0 := (hb1.cell (by exact hsz)).trans z0
  have y1 := (hb1.cell (by exact hsz)).trans z1
  have HL1 := Lib.hid (HL.out.below hb1)
  have HB1 := Lib.hid hb1
  clear hb1
  go_wp2_with fail
  refine (dist_zero N _ L _ HL1.out hG.in h1 h6 (by omega)).mono ?_
  rintro e w2 ⟨u, D, rfl, hD, hI, hb2⟩
  have HD := Lib.hid hD
  have HI := Lib.hid hI
  have HB2 := Lib.hid hb2
  clear hD hI hb2
  go_wp2_with fail
  refine (contains_any u D (-1) _ HI.out (by rw [HD.out.1]; omega)).mono ?_
  rintro e w3 ⟨rfl, rfl⟩
  have HR := Lib.hid (show (!decide ((-1 : Int) ∈ D)) = true ↔ RightG N L from by
   rw [Bool.not_eq_true', decide_eq_false_iff_not, dist_conn HD.out]
   constructor
   ·intro hc; exact ⟨by omega, by omega, h30, hG, fun y hy => hc y (by omega)⟩
   ·intro hr y hy; exact hr.2.2.2.2 y (by omega))
  obtain ⟨r, hr⟩ : ∃ r, r = decide ((-1 : Int) ∈ D) := ⟨_, rfl⟩
  rw [← hr]
  rw [← hr] at HR
  clear hr
  go_wp2_with fail
  go_ret
  exact RightRes.mk (!r) rfl HR.out (below_step (Nat.le_trans (Nat.le_of_lt hsz) HB1.out.size) (below_step (Nat.le_of_lt hsz) HB.out HB1.out) HB2.out)
 ·have HNo := Lib.hid (show ¬ RightG N L from fun hr => hG hr.2.2.2.1)
  clear h hL hbel hW
  go_enter Try.func42, Try.ntmps42
  go_wp2_with fail
  rw [← hwb]
  clear hwb
  refine (paired_no N _ L _ HL.out (by omega) HW.out hG).mono ?_
  rintro e w1 ⟨rfl, hb1⟩
  have HB1 := Lib.hid hb1
  clear hb1
  go_wp2_with fail
  go_ret
  exact RightRes.no rfl HNo.out (below_step (Nat.le_of_lt hsz) HB.out HB1.out)
theorem right_any (N : Int) (v : Value) (L : Lks) (w : World) (h : LinksAt w v L) (hW : ∀ p ∈ L, wfp p) :
  Calls Try.prog 42 #[gv N v] w (RightRes w N L) := by
 by_cases hN : 1 ≤ N ∧ N ≤ 6 ∧ L.length ≤ 30
 ·obtain ⟨n, rfl⟩ : ∃ n : Nat, N = (n : Int) := ⟨N.toNat, by omega⟩
  exact right_yes n v L w h hW (by omega) (by omega) hN.2.2
 ·exact right_no N v L w h hN
end Go.Proofs.Ytennbiajnkobnaa

