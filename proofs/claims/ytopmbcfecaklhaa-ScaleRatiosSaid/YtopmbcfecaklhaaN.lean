/- Ranks. -/
import Derived.Test.YtopmbcfecaklhaaM
import Derived.Test.YtopmbcfecaklhaaShelf
namespace Go.Proofs.Ytopmbcfecaklhaa
open Go.RowKit Go.PlainAid Go.Sort Go.Shelf Go.Lib

/-- i stands ahead of k. -/
def Lex (xs : List Nat) (i k : Nat) : Prop := hgt (xs.getD i 0) < hgt (xs.getD k 0) ∨ hgt (xs.getD i 0) = hgt (xs.getD k 0) ∧ i < k
/-- The places of xs in order. -/
def IsRank (xs : List Nat) (r : List Nat) : Prop := r.Perm (List.range xs.length) ∧ r.Pairwise (Lex xs)

theorem Lex.trans {xs : List Nat} {a b c : Nat} (h1 : Lex xs a b) (h2 : Lex xs b c) : Lex xs a c := by
  unfold Lex at *; omega
theorem Lex.asymm {xs : List Nat} {a b : Nat} (h1 : Lex xs a b) (h2 : Lex xs b a) : False := by
  unfold Lex at *; omega
theorem Lex.total {xs : List Nat} {a b : Nat} (h : a ≠ b) : Lex xs a b ∨ Lex xs b a := by
  unfold Lex; omega

instance (n : Nat) : Inhabited (Fin (n + 1)) := ⟨0⟩
def encF (n : Nat) (i : Fin (n + 1)) : Value := .int .i64 ((i : Nat) : Int)
def cfF (xs : List Nat) (n : Nat) (x y : Fin (n + 1)) : Int := cfB (xs.getD x 0) (xs.getD y 0) ((x : Nat) : Int) ((y : Nat) : Int)

theorem cfB_neg (a b : Nat) (x y : Nat) : cfB a b x y < 0 ↔ (hgt a < hgt b ∨ hgt a = hgt b ∧ x < y) := by
  unfold cfB cmpV
  constructor
  · intro h
    by_cases c1 : (hgt a : Int) < hgt b
    · left; omega
    · by_cases c2 : (hgt b : Int) < hgt a
      · simp only [if_neg c1, if_pos c2] at h
        simp at h
      · simp only [if_neg c1, if_neg c2] at h
        simp only [if_true] at h
        by_cases c3 : (x : Int) < y
        · right; omega
        · rw [if_neg c3] at h
          split at h <;> omega
  · rintro (h | ⟨h1, h2⟩)
    · have c1 : (hgt a : Int) < hgt b := by omega
      simp only [if_pos c1]
      rw [if_neg (by decide)]; decide
    · have c1 : ¬ (hgt a : Int) < hgt b := by omega
      have c2 : ¬ (hgt b : Int) < hgt a := by omega
      have c3 : (x : Int) < y := by omega
      simp only [if_neg c1, if_neg c2, if_pos c3]
      decide
theorem ltF (xs : List Nat) (n : Nat) (x y : Fin (n + 1)) : ltOf (cfF xs n) x y = true ↔ Lex xs x y := by
  unfold ltOf cfF Lex
  rw [decide_eq_true_iff]
  exact cfB_neg _ _ _ _
theorem ltF' (xs : List Nat) (n : Nat) (x y : Fin (n + 1)) : ltOf (cfF xs n) x y = false ↔ ¬ Lex xs x y := by
  rw [← ltF xs n x y]; simp

theorem swoF (xs : List Nat) (n : Nat) : SWO (ltOf (cfF xs n)) where
  irrefl x := by rw [ltF']; exact fun h => h.asymm h
  trans x y z h1 h2 := by rw [ltF] at *; exact h1.trans h2
  ntrans x y z h1 h2 := by
    rw [ltF'] at *
    unfold Lex at *
    omega
theorem totF (xs : List Nat) (n : Nat) (x y : Fin (n + 1)) (h1 : ltOf (cfF xs n) x y = false) (h2 : ltOf (cfF xs n) y x = false) : x = y := by
  rw [ltF'] at *
  apply Fin.ext
  unfold Lex at *
  omega

/-- The sorted row. -/
def rowF (xs : List Nat) (n : Nat) : List (Fin (n + 1)) := (List.finRange (n + 1)).mergeSort fun x y => !(ltOf (cfF xs n)) y x
theorem rowF_rank (xs : List Nat) (n : Nat) (h : xs.length = n + 1) : IsRank xs ((rowF xs n).map Fin.val) := by
  have hp : (rowF xs n).Perm (List.finRange (n + 1)) := List.mergeSort_perm _ _
  have hnd : (rowF xs n).Nodup := hp.nodup_iff.2 (List.nodup_finRange _)
  have hs : (rowF xs n).Pairwise fun a b => (!(ltOf (cfF xs n)) b a) = true := by
    refine List.pairwise_mergeSort (fun a b c h1 h2 => ?_) (fun a b => ?_) _
    · simp only [Bool.not_eq_true'] at *
      rw [ltF'] at *
      unfold Lex at *; omega
    · by_cases g : ltOf (cfF xs n) b a = true
      · rw [ltF] at g
        have : ltOf (cfF xs n) a b = false := by rw [ltF']; exact fun h => h.asymm g
        simp [this]
      · simp at g; simp [g]
  refine ⟨?_, ?_⟩
  · rw [h]
    refine (hp.map Fin.val).trans ?_
    have e : (List.finRange (n + 1)).map Fin.val = List.range (n + 1) := by
      apply List.ext_getElem
      · simp
      · intro i h1 h2; simp
    rw [e]
  · rw [List.pairwise_map]
    have := hs.and hnd
    refine this.imp ?_
    rintro a b ⟨h1, h2⟩
    have h1' : ltOf (cfF xs n) b a = false := by simpa using h1
    rw [ltF'] at h1'
    rcases Lex.total (xs := xs) (a := (a : Nat)) (b := (b : Nat)) (fun e => h2 (Fin.ext e)) with g | g
    · exact g
    · exact absurd g h1'
end Go.Proofs.Ytopmbcfecaklhaa
