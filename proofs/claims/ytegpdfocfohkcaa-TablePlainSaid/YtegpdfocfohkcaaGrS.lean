/- Which graphs may be. -/
import Derived.Test.YtegpdfocfohkcaaGrR
namespace Go.Proofs.Ytegpdfocfohkcaa
open Go.RowKit Go.PlainAid

/-- Links between unlike nodes, none twice, each with the one the other way round. -/
structure RG (N : Int) (L : Lks) : Prop where
  nodup : L.Nodup
  inr : ∀ p ∈ L, 0 ≤ p.1 ∧ p.1 < N ∧ 0 ≤ p.2 ∧ p.2 < N
  irr : ∀ p ∈ L, p.1 ≠ p.2
  sym : ∀ p ∈ L, (p.2, p.1) ∈ L

theorem lk_inj {L : Lks} (h : L.Nodup) {i j : Nat} (hi : i < L.length) (hj : j < L.length) (e : lk L i = lk L j) : i = j := by
  have e' : L[i] = L[j] := by
    have h1 : lk L i = L[i] := by simp [lk, List.getD, hi]
    have h2 : lk L j = L[j] := by simp [lk, List.getD, hj]
    rw [← h1, ← h2]; exact e
  rcases Nat.lt_trichotomy i j with g | g | g
  · exact absurd e' (List.pairwise_iff_getElem.1 h i j hi hj g)
  · exact g
  · exact absurd e'.symm (List.pairwise_iff_getElem.1 h j i hj hi g)
theorem nodup_of_inj {L : Lks} (h : ∀ i j, i < L.length → j < L.length → lk L i = lk L j → i = j) : L.Nodup := by
  refine List.pairwise_iff_getElem.2 fun i j hi hj hij e => ?_
  have h1 : lk L i = L[i] := by simp [lk, List.getD, hi]
  have h2 : lk L j = L[j] := by simp [lk, List.getD, hj]
  have := h i j hi hj (by rw [h1, h2]; exact e)
  omega
theorem find_self {L : Lks} (h : L.Nodup) {i : Nat} (hi : i < L.length) : findL L (lk L i) = (i : Int) :=
  findL_hit hi rfl (fun j hj e => by have := lk_inj h (by omega) hi e; omega)
theorem two_le_count {L : Lks} {i j : Nat} (hij : i < j) (hj : j < L.length) (e : lk L i = lk L j) : 2 ≤ L.count (lk L j) := by
  have hi : i < L.length := by omega
  have h1 : L = L.take (i + 1) ++ L.drop (i + 1) := (List.take_append_drop _ _).symm
  have m1 : lk L j ∈ L.take (i + 1) := by
    rw [← e]
    refine List.mem_iff_getElem?.2 ⟨i, ?_⟩
    rw [List.getElem?_take, if_pos (by omega)]
    simp [lk, List.getD, hi]
  have m2 : lk L j ∈ L.drop (i + 1) := by
    refine List.mem_iff_getElem?.2 ⟨j - (i + 1), ?_⟩
    rw [List.getElem?_drop, show i + 1 + (j - (i + 1)) = j by omega]
    simp [lk, List.getD, hj]
  rw [h1, List.count_append]
  have := List.count_pos_iff.2 m1
  have := List.count_pos_iff.2 m2
  rw [← h1]
  omega
theorem count_of_nodup {p : Int × Int} : ∀ {L : Lks}, L.Nodup → L.count p ≤ 1
  | [], _ => by simp
  | q :: r, h => by
    obtain ⟨h1, h2⟩ := List.nodup_cons.1 h
    rw [List.count_cons]
    by_cases e : q = p
    · subst e
      rw [List.count_eq_zero.2 h1]; simp
    · have := count_of_nodup h2 (p := p)
      simp [e]; exact this
theorem good_iff {N : Int} {L : Lks} : (∀ i, i < L.length → GoodAt N L i) ↔ RG N L := by
  constructor
  · intro h
    have hp : ∀ p ∈ L, inN N p.1 = true ∧ inN N p.2 = true ∧ p.1 ≠ p.2 ∧ cnt L p ≤ 1 ∧ cnt L (p.2, p.1) ≠ 0 := by
      intro p hp
      obtain ⟨i, hi, rfl⟩ := mem_lk hp
      exact h i hi
    refine ⟨nodup_of_inj ?_, ?_, fun p m => (hp p m).2.2.1, ?_⟩
    · intro i j hi hj e
      rcases Nat.lt_trichotomy i j with g | g | g
      · have := two_le_count g hj e
        have := (h j hj).2.2.2.1
        unfold cnt at this; omega
      · exact g
      · have := two_le_count g hi e.symm
        have := (h i hi).2.2.2.1
        unfold cnt at this; omega
    · intro p m
      have h1 := inN_iff.1 (hp p m).1
      have h2 := inN_iff.1 (hp p m).2.1
      exact ⟨h1.1, h1.2, h2.1, h2.2⟩
    · intro p m
      have := (hp p m).2.2.2.2
      unfold cnt at this
      exact List.count_pos_iff.1 (by omega)
  · intro h i hi
    have m := lk_mem hi
    have r := h.inr _ m
    refine ⟨inN_iff.2 ⟨r.1, r.2.1⟩, inN_iff.2 ⟨r.2.2.1, r.2.2.2⟩, h.irr _ m, ?_, ?_⟩
    · have := count_of_nodup h.nodup (p := lk L i); unfold cnt; omega
    · have := List.count_pos_iff.2 (h.sym _ m); unfold cnt; omega
def RefGood (N : Int) (L : Lks) (i : Nat) : Prop :=
  (0 ≤ (lk L i).1 ∧ (lk L i).1 < N) ∧ (0 ≤ (lk L i).2 ∧ (lk L i).2 < N) ∧ (lk L i).1 ≠ (lk L i).2 ∧ findL L (lk L i) = (i : Int) ∧ 0 ≤ findL L ((lk L i).2, (lk L i).1)
theorem ref_iff {N : Int} {L : Lks} : (∀ i, i < L.length → RefGood N L i) ↔ RG N L := by
  constructor
  · intro h
    have hp : ∀ p ∈ L, (0 ≤ p.1 ∧ p.1 < N) ∧ (0 ≤ p.2 ∧ p.2 < N) ∧ p.1 ≠ p.2 ∧ 0 ≤ findL L (p.2, p.1) := by
      intro p hp
      obtain ⟨i, hi, rfl⟩ := mem_lk hp
      exact ⟨(h i hi).1, (h i hi).2.1, (h i hi).2.2.1, (h i hi).2.2.2.2⟩
    refine ⟨nodup_of_inj ?_, fun p m => ⟨(hp p m).1.1, (hp p m).1.2, (hp p m).2.1.1, (hp p m).2.1.2⟩, fun p m => (hp p m).2.2.1, ?_⟩
    · intro i j hi hj e
      have h1 := (h i hi).2.2.2.1
      have h2 := (h j hj).2.2.2.1
      rw [e, h2] at h1
      omega
    · intro p m
      have := (hp p m).2.2.2
      refine Classical.byContradiction fun hn => ?_
      have := findL_neg.2 hn
      omega
  · intro h i hi
    have m := lk_mem hi
    have r := h.inr _ m
    refine ⟨⟨r.1, r.2.1⟩, ⟨r.2.2.1, r.2.2.2⟩, h.irr _ m, find_self h.nodup hi, ?_⟩
    rcases Int.lt_or_le (findL L ((lk L i).2, (lk L i).1)) 0 with g | g
    · exact absurd (h.sym _ m) (findL_neg.1 g)
    · exact g

theorem RG.in {N : Nat} {L : Lks} (h : RG N L) : InR N L := h.inr
theorem way_snoc {L : Lks} : ∀ {k : Nat} {a b c : Int}, Way L k a b → (b, c) ∈ L → Way L (k + 1) a c := fun h m => ⟨_, h, m⟩
theorem way_cons {L : Lks} : ∀ {k : Nat} {a b c : Int}, (a, b) ∈ L → Way L k b c → Way L (k + 1) a c := by
  intro k
  induction k with
  | zero => intro a b c m h; have e : b = c := h; subst e; exact ⟨a, rfl, m⟩
  | succ k ih =>
    intro a b c m h
    obtain ⟨d, hd, hm⟩ := h
    exact ⟨d, ih m hd, hm⟩
theorem way_turn {N : Int} {L : Lks} (h : RG N L) : ∀ {k : Nat} {a b : Int}, Way L k a b → Way L k b a := by
  intro k
  induction k with
  | zero => intro a b hw; exact (show a = b from hw).symm
  | succ k ih =>
    intro a b hw
    obtain ⟨c, hc, hm⟩ := hw
    exact way_cons (h.sym _ hm) (ih hc)
theorem way_trans {L : Lks} {a b : Int} {j : Nat} (h : Way L j a b) : ∀ {k : Nat} {c : Int}, Way L k b c → Way L (j + k) a c := by
  intro k
  induction k with
  | zero => intro c hw; have e : b = c := hw; subst e; exact h
  | succ k ih =>
    intro c hw
    obtain ⟨d, hd, hm⟩ := hw
    exact ⟨d, ih hd, hm⟩
def Conn (N : Int) (L : Lks) : Prop := ∀ y : Nat, (y : Int) < N → ∃ k, Way L k 0 y
def RightG (N : Int) (L : Lks) : Prop := 1 ≤ N ∧ N ≤ 6 ∧ L.length ≤ 30 ∧ RG N L ∧ Conn N L
theorem Conn.all {N : Int} {L : Lks} (h : Conn N L) (hR : RG N L) {a b : Nat} (ha : (a : Int) < N) (hb : (b : Int) < N) : ∃ k, Way L k a b := by
  obtain ⟨j, hj⟩ := h a ha
  obtain ⟨k, hk⟩ := h b hb
  exact ⟨_, way_trans (way_turn hR hj) hk⟩
theorem far_turn {N : Int} {L : Lks} (h : RG N L) {k : Nat} {a b : Int} (hf : Far L k a b) : Far L k b a := ⟨way_turn h hf.1, fun j hj hw => hf.2 j hj (way_turn h hw)⟩

/-- None is out of reach, if none is told so. -/
theorem dist_conn {N : Nat} {L : Lks} {a : Nat} {D : List Int} (h : IsDist N L a D) : (-1 : Int) ∉ D ↔ ∀ y : Nat, y < N → ∃ k, Way L k a y := by
  constructor
  · intro hn y hy
    rcases h.2 y hy with ⟨k, _, hf⟩ | ⟨hd, _⟩
    · exact ⟨k, hf.1⟩
    · refine absurd ?_ hn
      rw [← hd]
      have hl : y < D.length := by rw [h.1]; exact hy
      simp only [List.getD, List.getElem?_eq_getElem hl, Option.getD_some]
      exact List.getElem_mem hl
  · intro hw hm
    obtain ⟨i, hi, he⟩ := List.getElem_of_mem hm
    have hiN : i < N := by rw [← h.1]; exact hi
    have e : D.getD i (-1) = -1 := by simp [List.getD, hi, he]
    obtain ⟨k, hk⟩ := hw i hiN
    rcases h.2 i hiN with ⟨k, h1, _⟩ | ⟨_, h2⟩
    · omega
    · exact h2 k hk
theorem dist_num {N : Nat} {L : Lks} {a : Nat} {D : List Int} (h : IsDist N L a D) {y : Nat} (hy : y < N) (hc : ∃ k, Way L k a y) : ∃ k : Nat, D.getD y (-1) = (k : Int) ∧ Far L k a y := by
  rcases h.2 y hy with ⟨k, h1, h2⟩ | ⟨_, h2⟩
  · exact ⟨k, h1, h2⟩
  · obtain ⟨k, hk⟩ := hc
    exact absurd hk (h2 k)
end Go.Proofs.Ytegpdfocfohkcaa
