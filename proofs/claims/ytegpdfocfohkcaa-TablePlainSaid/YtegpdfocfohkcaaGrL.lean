/- How far nodes are: two ways to find it, each right. -/
import Derived.Test.YtegpdfocfohkcaaGrA
namespace Go.Proofs.Ytegpdfocfohkcaa

theorem length_le_of_sub {α : Type} [DecidableEq α] : ∀ (l m : List α), l.Nodup → (∀ x ∈ l, x ∈ m) → l.length ≤ m.length
  | [], _, _, _ => by simp
  | x :: t, m, hn, hs => by
    have hx : x ∈ m := hs x (by simp)
    obtain ⟨h1, h2⟩ := List.nodup_cons.1 hn
    have := length_le_of_sub t (m.erase x) h2 (fun y hy => (List.mem_erase_of_ne (show y ≠ x from fun e => h1 (by rw [← e]; exact hy))).2 (hs y (by simp [hy])))
    rw [List.length_erase_of_mem hx] at this
    have := List.length_pos_of_mem hx
    simp; omega
theorem nodup_le {l : List Nat} {N : Nat} (hn : l.Nodup) (h : ∀ x ∈ l, x < N) : l.length ≤ N := by
  have := length_le_of_sub l (List.range N) hn (fun x hx => List.mem_range.2 (h x hx))
  simpa using this

theorem way_in {N : Nat} {L : Lks} (hR : InR N L) {a : Nat} (ha : a < N) : ∀ {k : Nat} {y : Int}, Way L k a y → 0 ≤ y ∧ y < N
  | 0, y, h => by have : (a : Int) = y := h; omega
  | k + 1, y, h => by
    obtain ⟨c, _, hm⟩ := h
    have := hR _ hm
    omega
theorem far_before {L : Lks} {a : Int} : ∀ {k : Nat} {y : Int}, Far L (k + 1) a y → ∃ c, Far L k a c ∧ (c, y) ∈ L := by
  intro k y h
  obtain ⟨c, hc, hm⟩ := h.1
  exact ⟨c, ⟨hc, fun j hj hw => h.2 (j + 1) (by omega) ⟨c, hw, hm⟩⟩, hm⟩
theorem far_each {L : Lks} {a : Int} : ∀ {k : Nat} {y : Int}, Far L k a y → ∀ e, e ≤ k → ∃ z, Far L e a z := by
  intro k
  induction k with
  | zero => intro y h e he; exact ⟨y, by rw [show e = 0 by omega]; exact h⟩
  | succ k ih =>
    intro y h e he
    by_cases h1 : e = k + 1
    · exact ⟨y, h1 ▸ h⟩
    · obtain ⟨c, hc, _⟩ := far_before h
      exact ih hc e (by omega)
/-- No node is farther than there are others. -/
theorem far_lt {N : Nat} {L : Lks} (hR : InR N L) {a : Nat} (ha : a < N) {k : Nat} {y : Int} (h : Far L k a y) : k < N := by
  have hex : ∀ e, ∃ z : Nat, e ≤ k → z < N ∧ Far L e a z := by
    intro e
    by_cases he : e ≤ k
    · obtain ⟨z, hz⟩ := far_each h e he
      have hr := way_in hR ha hz.1
      exact ⟨z.toNat, fun _ => ⟨by omega, by rw [Int.toNat_of_nonneg hr.1]; exact hz⟩⟩
    · exact ⟨0, fun h => absurd h he⟩
  obtain ⟨f, hf⟩ := Classical.axiomOfChoice hex
  have hn : ((List.range (k + 1)).map f).Nodup := by
    rw [List.Nodup, List.pairwise_map]
    refine List.Pairwise.imp_of_mem ?_ (List.nodup_range (n := k + 1))
    intro i j hi hj hne he
    have h1 := (hf i (by simp at hi; omega)).2
    have h2 := (hf j (by simp at hj; omega)).2
    have e2 : ((f i : Nat) : Int) = (f j : Nat) := by exact congrArg _ he
    rw [e2] at h1
    exact hne (h1.eq h2)
  have := nodup_le hn (fun x hx => by
    obtain ⟨e, he, rfl⟩ := List.mem_map.1 hx
    exact (hf e (by simp at he; omega)).1)
  simp at this
  omega

theorem getD_set_same {D : List Int} {z : Nat} {x : Int} (h : z < D.length) : (D.set z x).getD z (-1) = x := by simp [List.getD, h]
theorem getD_set_other {D : List Int} {z y : Nat} {x : Int} (h : y ≠ z) : (D.set z x).getD y (-1) = D.getD y (-1) := by
  simp only [List.getD]; rw [List.getElem?_set_ne (by omega)]

/-- What is known while nodes are found, those of the queue Q, of which the first i are done. -/
structure BFS (N : Nat) (L : Lks) (a : Nat) (D : List Int) (Q : List Nat) (i : Nat) : Prop where
  len : D.length = N
  far : ∀ y, y ∈ Q → y < N ∧ ∃ k : Nat, D.getD y (-1) = (k : Int) ∧ Far L k a y
  ass : ∀ y, y < N → y ∉ Q → D.getD y (-1) = -1
  nodup : Q.Nodup
  src : a ∈ Q
  mono : ∀ m n, m ≤ n → n < Q.length → D.getD (Q.getD m 0) (-1) ≤ D.getD (Q.getD n 0) (-1)
  near : i < Q.length → ∀ j, j < Q.length → D.getD (Q.getD j 0) (-1) ≤ D.getD (Q.getD i 0) (-1) + 1
  done : ∀ j, j < i → j < Q.length → ∀ z : Nat, (((Q.getD j 0 : Nat) : Int), (z : Int)) ∈ L → z ∈ Q ∧ D.getD z (-1) ≤ D.getD (Q.getD j 0) (-1) + 1

theorem getD_mem {Q : List Nat} {j : Nat} (h : j < Q.length) : Q.getD j 0 ∈ Q := by
  simp only [List.getD, List.getElem?_eq_getElem h, Option.getD_some]; exact List.getElem_mem h
theorem mem_getD {Q : List Nat} {x : Nat} (h : x ∈ Q) : ∃ j, j < Q.length ∧ Q.getD j 0 = x := by
  obtain ⟨j, hj, rfl⟩ := List.getElem_of_mem h
  exact ⟨j, hj, by simp [List.getD, hj]⟩
theorem getD_left {Q R : List Nat} {j : Nat} (h : j < Q.length) : (Q ++ R).getD j 0 = Q.getD j 0 := by
  simp [List.getD, List.getElem?_append_left h]
theorem getD_last {Q : List Nat} {z : Nat} : (Q ++ [z]).getD Q.length 0 = z := by simp [List.getD]

theorem BFS.le {N : Nat} {L : Lks} {a : Nat} {D : List Int} {Q : List Nat} {i : Nat} (h : BFS N L a D Q i) : Q.length ≤ N := nodup_le h.nodup fun x hx => (h.far x hx).1

theorem BFS.start {N : Nat} {L : Lks} {a : Nat} (ha : a < N) : BFS N L a ((List.replicate N (-1)).set a 0) [a] 0 := by
  have hl : ((List.replicate N (-1 : Int)).set a 0).length = N := by simp
  have h0 : ((List.replicate N (-1 : Int)).set a 0).getD a (-1) = 0 := getD_set_same (by simp; omega)
  refine ⟨hl, ?_, ?_, by simp, by simp, ?_, ?_, fun j hj => by omega⟩
  · intro y hy
    have : y = a := by simpa using hy
    subst this
    exact ⟨ha, 0, h0, rfl, fun j hj => by omega⟩
  · intro y hy hn
    have : y ≠ a := by simpa using hn
    rw [getD_set_other this]
    simp [List.getD, hy]
  · intro m n hmn hn
    have : n = 0 := by simpa using hn
    have : m = 0 := by omega
    subst_vars; exact Int.le_refl _
  · intro _ j hj
    have : j = 0 := by simpa using hj
    subst this; omega

/-- All that is as near as the node that is looked at has been found. -/
theorem BFS.found {N : Nat} {L : Lks} {a : Nat} {D : List Int} {Q : List Nat} {i : Nat} (h : BFS N L a D Q i) (hR : InR N L) (ha : a < N) :
    ∀ (k : Nat) (y : Int), (k : Int) ≤ D.getD (Q.getD i 0) (-1) → Way L k a y → y.toNat ∈ Q ∧ D.getD y.toNat (-1) ≤ k := by
  intro k
  induction k with
  | zero =>
    intro y _ hw
    have e : (a : Int) = y := hw
    subst e
    obtain ⟨_, d, hd, hf⟩ := h.far a h.src
    rw [Int.toNat_natCast]
    refine ⟨h.src, ?_⟩
    have : d = 0 := hf.eq ⟨rfl, fun j hj => by omega⟩
    omega
  | succ k ih =>
    intro y hk hw
    obtain ⟨c, hc, hm⟩ := hw
    obtain ⟨hcQ, hcd⟩ := ih c (by omega) hc
    have hcr := way_in hR ha hc
    have hyr := way_in hR ha (show Way L (k + 1) a y from ⟨c, hc, hm⟩)
    obtain ⟨j, hj, hje⟩ := mem_getD hcQ
    have hji : j < i := by
      rcases Nat.lt_or_ge j i with g | g
      · exact g
      · have := h.mono i j g hj
        rw [hje] at this
        omega
    have hm' : (((Q.getD j 0 : Nat) : Int), ((y.toNat : Nat) : Int)) ∈ L := by
      rw [hje, Int.toNat_of_nonneg hcr.1, Int.toNat_of_nonneg hyr.1]; exact hm
    obtain ⟨d1, d2⟩ := h.done j hji hj y.toNat hm'
    rw [hje] at d2
    exact ⟨d1, by omega⟩

theorem BFS.assign {N : Nat} {L : Lks} {a : Nat} {D : List Int} {Q : List Nat} {i z : Nat} (h : BFS N L a D Q i) (hR : InR N L) (ha : a < N) (hi : i < Q.length) (hz : z < N)
    (hm : (((Q.getD i 0 : Nat) : Int), (z : Int)) ∈ L) (hd : D.getD z (-1) = -1) : BFS N L a (D.set z (D.getD (Q.getD i 0) (-1) + 1)) (Q ++ [z]) i := by
  have hzQ : z ∉ Q := fun hq => by
    obtain ⟨_, k, hk, _⟩ := h.far z hq
    omega
  have keep : ∀ y, y ∈ Q → (D.set z (D.getD (Q.getD i 0) (-1) + 1)).getD y (-1) = D.getD y (-1) := fun y hy => getD_set_other (fun e => hzQ (e ▸ hy))
  have new : (D.set z (D.getD (Q.getD i 0) (-1) + 1)).getD z (-1) = D.getD (Q.getD i 0) (-1) + 1 := getD_set_same (by rw [h.len]; exact hz)
  obtain ⟨_, u, hu, hfu⟩ := h.far _ (getD_mem hi)
  have hnear := h.near hi
  refine ⟨by rw [List.length_set]; exact h.len, ?_, ?_, ?_, by simp [h.src], ?_, ?_, ?_⟩
  · intro y hy
    rcases List.mem_append.1 hy with hy | hy
    · rw [keep y hy]; exact h.far y hy
    · have : y = z := by simpa using hy
      subst this
      refine ⟨hz, u + 1, by rw [new, hu]; omega, ⟨_, hfu.1, hm⟩, fun j hj hw => ?_⟩
      obtain ⟨q, _⟩ := h.found hR ha j y (by omega) hw
      rw [Int.toNat_natCast] at q
      exact hzQ q
  · intro y hy hn
    have h1 : y ∉ Q := fun hq => hn (by simp [hq])
    have h2 : y ≠ z := fun e => hn (by simp [e])
    rw [getD_set_other h2]; exact h.ass y hy h1
  · rw [List.nodup_append]
    exact ⟨h.nodup, by simp, fun x hx y hy e => by
      have h1 : y = z := by simpa using hy
      exact hzQ (by rw [← h1, ← e]; exact hx)⟩
  · intro m n hmn hn
    rw [List.length_append] at hn
    simp at hn
    by_cases hnl : n < Q.length
    · rw [getD_left hnl, getD_left (show m < Q.length by omega), keep _ (getD_mem hnl), keep _ (getD_mem (by omega))]
      exact h.mono m n hmn hnl
    · have : n = Q.length := by omega
      subst this
      rw [getD_last, new]
      by_cases hml : m < Q.length
      · rw [getD_left hml, keep _ (getD_mem hml)]; exact hnear m hml
      · have : m = Q.length := by omega
        subst this
        rw [getD_last, new]; exact Int.le_refl _
  · intro _ j hj
    rw [List.length_append] at hj
    simp at hj
    rw [getD_left hi, keep _ (getD_mem hi)]
    by_cases hjl : j < Q.length
    · rw [getD_left hjl, keep _ (getD_mem hjl)]; exact hnear j hjl
    · have : j = Q.length := by omega
      subst this
      rw [getD_last, new]; exact Int.le_refl _
  · intro j hj hjl y hy
    have hjq : j < Q.length := by omega
    rw [getD_left hjq] at hy ⊢
    obtain ⟨d1, d2⟩ := h.done j hj hjq y hy
    rw [keep _ d1, keep _ (getD_mem hjq)]
    exact ⟨by simp [d1], d2⟩

theorem BFS.next {N : Nat} {L : Lks} {a : Nat} {D : List Int} {Q : List Nat} {i : Nat} (h : BFS N L a D Q i) (hi : i < Q.length)
    (hall : ∀ z : Nat, (((Q.getD i 0 : Nat) : Int), (z : Int)) ∈ L → z ∈ Q) : BFS N L a D Q (i + 1) := by
  have hnear := h.near hi
  refine ⟨h.len, h.far, h.ass, h.nodup, h.src, h.mono, ?_, ?_⟩
  · intro h1 j hj
    have := hnear j hj
    have := h.mono i (i + 1) (by omega) h1
    omega
  · intro j hj hjl z hz
    by_cases hji : j < i
    · exact h.done j hji hjl z hz
    · have : j = i := by omega
      subst this
      have hq := hall z hz
      obtain ⟨m, hm, rfl⟩ := mem_getD hq
      exact ⟨hq, hnear m hm⟩

theorem BFS.stop {N : Nat} {L : Lks} {a : Nat} {D : List Int} {Q : List Nat} {i : Nat} (h : BFS N L a D Q i) (hR : InR N L) (ha : a < N) (hi : Q.length ≤ i) : IsDist N L a D := by
  refine ⟨h.len, fun y hy => ?_⟩
  by_cases hq : y ∈ Q
  · obtain ⟨_, k, hk, hf⟩ := h.far y hq
    exact .inl ⟨k, hk, hf⟩
  · refine .inr ⟨h.ass y hy hq, ?_⟩
    have key : ∀ (k : Nat) (y : Int), Way L k a y → y.toNat ∈ Q := by
      intro k
      induction k with
      | zero => intro y hw; have e : (a : Int) = y := hw; subst e; rw [Int.toNat_natCast]; exact h.src
      | succ k ih =>
        intro y hw
        have hyr := way_in hR ha hw
        obtain ⟨c, hc, hm⟩ := hw
        have hcr := way_in hR ha hc
        obtain ⟨j, hj, hje⟩ := mem_getD (ih c hc)
        exact (h.done j (by omega) hj y.toNat (by rw [hje, Int.toNat_of_nonneg hcr.1, Int.toNat_of_nonneg hyr.1]; exact hm)).1
    intro k hw
    have := key k y hw
    rw [Int.toNat_natCast] at this
    exact hq this

theorem BFS.full {N : Nat} {L : Lks} {a : Nat} {D : List Int} {Q : List Nat} {i : Nat} (h : BFS N L a D Q i) (hi : Q.length = N) : IsDist N L a D := by
  have hall : ∀ y, y < N → y ∈ Q := by
    intro y hy
    refine Classical.byContradiction fun hn => ?_
    have h2 : (y :: Q).Nodup := List.nodup_cons.2 ⟨hn, h.nodup⟩
    have := nodup_le h2 (fun x hx => by
      rcases List.mem_cons.1 hx with rfl | hx
      · exact hy
      · exact (h.far x hx).1)
    simp at this
    omega
  refine ⟨h.len, fun y hy => ?_⟩
  obtain ⟨_, k, hk, hf⟩ := h.far y (hall y hy)
  exact .inl ⟨k, hk, hf⟩

/-- What is known on level k, behind its first i links. -/
structure Lev (N : Nat) (L : Lks) (a : Nat) (D : List Int) (k i : Nat) : Prop where
  len : D.length = N
  val : ∀ y : Nat, y < N → D.getD y (-1) = -1 ∨ ∃ d : Nat, d ≤ k + 1 ∧ D.getD y (-1) = (d : Int) ∧ Far L d a y
  all : ∀ y : Nat, y < N → ∀ d : Nat, d ≤ k → Far L d a y → D.getD y (-1) = (d : Int)
  proc : ∀ m, m < i → m < L.length → D.getD (lk L m).1.toNat (-1) = (k : Int) → D.getD (lk L m).2.toNat (-1) ≠ -1

theorem Lev.start {N : Nat} {L : Lks} {a : Nat} (ha : a < N) : Lev N L a ((List.replicate N (-1)).set a 0) 0 0 := by
  have h0 : ((List.replicate N (-1 : Int)).set a 0).getD a (-1) = 0 := getD_set_same (by simp; omega)
  refine ⟨by simp, ?_, ?_, fun m hm => by omega⟩
  · intro y hy
    by_cases e : y = a
    · subst e; exact .inr ⟨0, by omega, h0, rfl, fun j hj => by omega⟩
    · left; rw [getD_set_other e]; simp [List.getD, hy]
  · intro y hy d hd hf
    have hd0 : d = 0 := by omega
    subst hd0
    have e : (a : Int) = y := hf.1
    have e' : a = y := by omega
    subst e'; exact h0

theorem Lev.keep {N : Nat} {L : Lks} {a : Nat} {D : List Int} {k i : Nat} (h : Lev N L a D k i) (hi : i < L.length)
    (hno : D.getD (lk L i).1.toNat (-1) = (k : Int) → ¬ D.getD (lk L i).2.toNat (-1) < 0) : Lev N L a D k (i + 1) := by
  refine ⟨h.len, h.val, h.all, fun m hm hml hk => ?_⟩
  by_cases hmi : m < i
  · exact h.proc m hmi hml hk
  · have : m = i := by omega
    subst this
    have := hno hk
    omega

theorem Lev.set {N : Nat} {L : Lks} {a : Nat} {D : List Int} {k i : Nat} (h : Lev N L a D k i) (hR : InR N L) (hi : i < L.length)
    (hx : D.getD (lk L i).1.toNat (-1) = (k : Int)) (hy : D.getD (lk L i).2.toNat (-1) < 0) : Lev N L a (D.set (lk L i).2.toNat ((k : Int) + 1)) k (i + 1) := by
  have hr := hR _ (lk_mem hi)
  obtain ⟨x, hxe⟩ : ∃ x : Nat, (lk L i).1 = (x : Int) := ⟨(lk L i).1.toNat, by omega⟩
  obtain ⟨y, hye⟩ : ∃ y : Nat, (lk L i).2 = (y : Int) := ⟨(lk L i).2.toNat, by omega⟩
  have hlk : lk L i = ((x : Int), (y : Int)) := by rw [← hxe, ← hye]
  have hm := lk_mem hi
  rw [hlk] at hr hx hy hm ⊢
  simp only [Int.toNat_natCast] at hx hy hr ⊢
  have hxN : x < N := by omega
  have hyN : y < N := by omega
  have new : (D.set y ((k : Int) + 1)).getD y (-1) = (k : Int) + 1 := getD_set_same (by rw [h.len]; exact hyN)
  have hy1 : D.getD y (-1) = -1 := by
    rcases h.val y hyN with g | ⟨d, _, g, _⟩
    · exact g
    · omega
  have hfar : Far L (k + 1) a y := by
    rcases h.val x hxN with g | ⟨d, _, g, hf⟩
    · omega
    · have : d = k := by omega
      subst this
      refine ⟨⟨_, hf.1, hm⟩, fun j hj hw => ?_⟩
      obtain ⟨e, he, hfe⟩ := far_of_way hw
      have := h.all y hyN e (by omega) hfe
      omega
  refine ⟨by rw [List.length_set]; exact h.len, ?_, ?_, ?_⟩
  · intro z hz
    by_cases e : z = y
    · subst e; exact .inr ⟨k + 1, by omega, by rw [new]; omega, hfar⟩
    · rw [getD_set_other e]; exact h.val z hz
  · intro z hz d hd hf
    by_cases e : z = y
    · subst e
      have := hf.eq hfar
      omega
    · rw [getD_set_other e]; exact h.all z hz d hd hf
  · intro m hm hml hk
    by_cases e2 : (lk L m).2.toNat = y
    · rw [e2, new]; omega
    · rw [getD_set_other e2]
      by_cases e1 : (lk L m).1.toNat = y
      · rw [e1, new] at hk; omega
      · rw [getD_set_other e1] at hk
        by_cases hmi : m < i
        · exact h.proc m hmi hml hk
        · have : m = i := by omega
          subst this
          rw [hlk] at e2
          simp at e2

theorem Lev.next {N : Nat} {L : Lks} {a : Nat} {D : List Int} {k i : Nat} (h : Lev N L a D k i) (hR : InR N L) (ha : a < N) (hi : L.length ≤ i) : Lev N L a D (k + 1) 0 := by
  refine ⟨h.len, ?_, ?_, fun m hm => by omega⟩
  · intro y hy
    rcases h.val y hy with g | ⟨d, h1, h2, h3⟩
    · exact .inl g
    · exact .inr ⟨d, by omega, h2, h3⟩
  · intro y hy d hd hf
    by_cases hdk : d ≤ k
    · exact h.all y hy d hdk hf
    · have : d = k + 1 := by omega
      subst this
      obtain ⟨c, hc, hm⟩ := far_before hf
      have hcr := way_in hR ha hc.1
      obtain ⟨m, hml, hme⟩ := mem_lk hm
      have hcN : c.toNat < N := by omega
      have hcd := h.all c.toNat hcN k (Nat.le_refl _) (by rw [Int.toNat_of_nonneg hcr.1]; exact hc)
      have hp := h.proc m (by omega) hml (by rw [hme]; exact hcd)
      rw [hme] at hp
      simp only [Int.toNat_natCast] at hp
      rcases h.val y hy with g | ⟨d, h1, h2, h3⟩
      · exact absurd g hp
      · rw [h2, h3.eq hf]

theorem Lev.stop {N : Nat} {L : Lks} {a : Nat} {D : List Int} (h : Lev N L a D N 0) (hR : InR N L) (ha : a < N) : IsDist N L a D := by
  refine ⟨h.len, fun y hy => ?_⟩
  rcases h.val y hy with g | ⟨d, h1, h2, h3⟩
  · refine .inr ⟨g, fun k hw => ?_⟩
    obtain ⟨e, he, hf⟩ := far_of_way hw
    have := h.all y hy e (Nat.le_of_lt (far_lt hR ha hf)) hf
    omega
  · exact .inl ⟨d, h2, h3⟩
end Go.Proofs.Ytegpdfocfohkcaa
