/- Graphs by definition: links, ways, how far nodes are. -/
import Derived.Lib.Hide
namespace Go.Proofs.Ytegpdfocfohkcaa

abbrev Lks := List (Int × Int)
def lk (L : Lks) (i : Nat) : Int × Int := L.getD i (0, 0)

theorem lk_mem {L : Lks} {i : Nat} (h : i < L.length) : lk L i ∈ L := by
  unfold lk; simp only [List.getD, List.getElem?_eq_getElem h, Option.getD_some]; exact List.getElem_mem h
theorem mem_lk {L : Lks} {p : Int × Int} (h : p ∈ L) : ∃ i, i < L.length ∧ lk L i = p := by
  obtain ⟨i, hi, rfl⟩ := List.getElem_of_mem h
  exact ⟨i, hi, by simp [lk, List.getD, hi]⟩

/-- The first place of a link; -1: there is none. -/
def findFrom : Lks → Int × Int → Nat → Int
  | [], _, _ => -1
  | q :: r, p, i => if q = p then i else findFrom r p (i + 1)
def findL (L : Lks) (p : Int × Int) : Int := findFrom L p 0

theorem findFrom_hit (p : Int × Int) : ∀ (L : Lks) (i k : Nat), k < L.length → lk L k = p → (∀ j, j < k → lk L j ≠ p) → findFrom L p i = ((i + k : Nat) : Int)
  | [], _, _, h, _, _ => by simp at h
  | q :: r, i, 0, _, h, _ => by
    have : q = p := by simpa [lk] using h
    simp [findFrom, this]
  | q :: r, i, k + 1, hk, h, hj => by
    have hq : q ≠ p := by simpa [lk] using hj 0 (by omega)
    have ih := findFrom_hit p r (i + 1) k (by simpa using hk) (by simpa [lk] using h) (fun j hjk => by simpa [lk] using hj (j + 1) (by omega))
    simp only [findFrom, if_neg hq, ih]
    congr 1
    omega
theorem findFrom_miss (p : Int × Int) : ∀ (L : Lks) (i : Nat), (∀ j, j < L.length → lk L j ≠ p) → findFrom L p i = -1
  | [], _, _ => rfl
  | q :: r, i, hj => by
    have hq : q ≠ p := by simpa [lk] using hj 0 (by simp)
    simp only [findFrom, if_neg hq]
    exact findFrom_miss p r (i + 1) (fun j h => by simpa [lk] using hj (j + 1) (by simpa using h))
theorem findL_hit {p : Int × Int} {L : Lks} {k : Nat} (hk : k < L.length) (h : lk L k = p) (hj : ∀ j, j < k → lk L j ≠ p) : findL L p = (k : Int) := by
  unfold findL; rw [findFrom_hit p L 0 k hk h hj]; simp
theorem findL_miss {p : Int × Int} {L : Lks} (hj : ∀ j, j < L.length → lk L j ≠ p) : findL L p = -1 := findFrom_miss p L 0 hj
theorem findL_cases (L : Lks) (p : Int × Int) : (∃ k, k < L.length ∧ lk L k = p ∧ (∀ j, j < k → lk L j ≠ p) ∧ findL L p = (k : Int)) ∨ (p ∉ L ∧ findL L p = -1) := by
  by_cases h : ∃ k, k < L.length ∧ lk L k = p
  · have key : ∀ n : Nat, ∀ k, k ≤ n → k < L.length → lk L k = p → ∃ k, k < L.length ∧ lk L k = p ∧ (∀ j, j < k → lk L j ≠ p) := by
      intro n
      induction n with
      | zero => intro k hk h1 h2; exact ⟨k, h1, h2, fun j hj => by omega⟩
      | succ n ih =>
        intro k hk h1 h2
        by_cases hm : ∃ j, j < k ∧ lk L j = p
        · obtain ⟨j, hj, he⟩ := hm
          exact ih j (by omega) (by omega) he
        · exact ⟨k, h1, h2, fun j hj he => hm ⟨j, hj, he⟩⟩
    obtain ⟨k, hk, he⟩ := h
    obtain ⟨k', a, b, c⟩ := key k k (Nat.le_refl _) hk he
    exact .inl ⟨k', a, b, c, findL_hit a b c⟩
  · refine .inr ⟨fun hm => h ?_, findL_miss fun j hj he => h ⟨j, hj, he⟩⟩
    obtain ⟨i, hi, he⟩ := mem_lk hm
    exact ⟨i, hi, he⟩
theorem findL_neg {L : Lks} {p : Int × Int} : findL L p < 0 ↔ p ∉ L := by
  rcases findL_cases L p with ⟨k, a, b, c, d⟩ | ⟨a, b⟩
  · rw [d]
    constructor
    · intro h; omega
    · intro h; exact absurd (b ▸ lk_mem a) h
  · rw [b]; simp [a]
theorem findL_lt (L : Lks) (p : Int × Int) : -1 ≤ findL L p ∧ findL L p < L.length + 1 := by
  rcases findL_cases L p with ⟨k, a, b, c, d⟩ | ⟨a, b⟩ <;> omega

/-- The places, below k, that are wanted. -/
def selL (p : Nat → Bool) (k : Nat) : List Int := ((List.range k).filter p).map Int.ofNat
theorem selL_succ (p : Nat → Bool) (k : Nat) : selL p (k + 1) = if p k then selL p k ++ [(k : Int)] else selL p k := by
  unfold selL
  rw [List.range_succ, List.filter_append, List.map_append]
  by_cases h : p k <;> simp [h]
theorem selL_length (p : Nat → Bool) (k : Nat) : (selL p k).length ≤ k := by
  unfold selL
  rw [List.length_map]
  exact Nat.le_trans (List.length_filter_le _ _) (by simp)
def outL (L : Lks) (n : Int) : List Int := selL (fun i => (lk L i).1 == n) L.length
def inL (L : Lks) (n : Int) : List Int := selL (fun i => (lk L i).2 == n) L.length
theorem mem_selL {p : Nat → Bool} {k : Nat} {x : Int} : x ∈ selL p k ↔ ∃ i, i < k ∧ p i = true ∧ x = (i : Int) := by
  unfold selL
  simp only [List.mem_map, List.mem_filter, List.mem_range]
  constructor
  · rintro ⟨i, ⟨h1, h2⟩, rfl⟩; exact ⟨i, h1, h2, rfl⟩
  · rintro ⟨i, h1, h2, rfl⟩; exact ⟨i, ⟨h1, h2⟩, rfl⟩
def backL (L : Lks) (l : Int) : Int := if l < 0 ∨ (L.length : Int) ≤ l then -1 else findL L ((lk L l.toNat).2, (lk L l.toNat).1)

/-- A way of so many links. -/
def Way (L : Lks) : Nat → Int → Int → Prop
  | 0, a, b => a = b
  | k + 1, a, b => ∃ c, Way L k a c ∧ (c, b) ∈ L
/-- How far a node is, k links, and no fewer. -/
def Far (L : Lks) (k : Nat) (a b : Int) : Prop := Way L k a b ∧ ∀ j, j < k → ¬ Way L j a b
theorem Far.eq {L : Lks} {j k : Nat} {a b : Int} (h : Far L j a b) (h' : Far L k a b) : j = k := by
  rcases Nat.lt_trichotomy j k with g | g | g
  · exact absurd h.1 (h'.2 j g)
  · exact g
  · exact absurd h'.1 (h.2 k g)
theorem far_of_way {L : Lks} {a b : Int} : ∀ {k : Nat}, Way L k a b → ∃ j, j ≤ k ∧ Far L j a b := by
  intro k
  induction k using Nat.strongRecOn with
  | ind k ih =>
    intro h
    by_cases hm : ∃ j, j < k ∧ Way L j a b
    · obtain ⟨j, hj, hw⟩ := hm
      obtain ⟨i, hi, hf⟩ := ih j hj hw
      exact ⟨i, by omega, hf⟩
    · exact ⟨k, Nat.le_refl _, h, fun j hj hw => hm ⟨j, hj, hw⟩⟩

def nd (d : List Int) (y : Int) : Int := d.getD y.toNat (-1)
/-- What Dist tells, of nodes 0 to n - 1. -/
def IsDist (n : Nat) (L : Lks) (a : Int) (d : List Int) : Prop :=
  d.length = n ∧ ∀ y : Nat, y < n → (∃ k : Nat, d.getD y (-1) = (k : Int) ∧ Far L k a y) ∨ (d.getD y (-1) = -1 ∧ ∀ k, ¬ Way L k a y)
theorem IsDist.eq {n : Nat} {L : Lks} {a : Int} {d e : List Int} (h : IsDist n L a d) (h' : IsDist n L a e) : d = e := by
  apply List.ext_getElem (by rw [h.1, h'.1])
  intro i h1 h2
  have hi : i < n := by rw [← h.1]; exact h1
  have g1 : d.getD i (-1) = d[i] := by simp [List.getD, h1]
  have g2 : e.getD i (-1) = e[i] := by simp [List.getD, h2]
  rw [← g1, ← g2]
  rcases h.2 i hi with ⟨k, a1, a2⟩ | ⟨a1, a2⟩
  · rcases h'.2 i hi with ⟨k', b1, b2⟩ | ⟨b1, b2⟩
    · rw [a1, b1, a2.eq b2]
    · exact absurd a2.1 (b2 k)
  · rcases h'.2 i hi with ⟨k', b1, b2⟩ | ⟨b1, b2⟩
    · exact absurd b2.1 (a2 k')
    · rw [a1, b1]
/-- Each link is between nodes. -/
def InR (n : Nat) (L : Lks) : Prop := ∀ p ∈ L, 0 ≤ p.1 ∧ p.1 < n ∧ 0 ≤ p.2 ∧ p.2 < n
end Go.Proofs.Ytegpdfocfohkcaa
