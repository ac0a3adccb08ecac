/- Links and their counterparts, counted. -/
import Derived.Test.YtndpgmndbdchaaaY
namespace Go.Proofs.Ytndpgmndbdchaaa
open Go.RowKit Go.PlainAid

theorem range_lk (L : Lks) : (List.range L.length).map (lk L) = L := by
  apply List.ext_getElem (by simp)
  intro i h1 h2
  simp [lk, List.getD, h2]
theorem sel_count (e : Nat) (L : Lks) (n : Int) : (sel e L n).length = L.countP (fun p => sideOf e p == n) := by
  unfold sel selL
  rw [List.length_map, ← List.countP_eq_length_filter]
  conv => rhs; rw [← range_lk L]
  rw [List.countP_map]
  rfl
def swp (p : Int × Int) : Int × Int := (p.2, p.1)
theorem swp_swp (p : Int × Int) : swp (swp p) = p := rfl
theorem swap_perm {N : Int} {L : Lks} (h : RG N L) : (L.map swp).Perm L := by
  rw [List.perm_iff_count]
  intro a
  have hn : (L.map swp).Nodup := by
    rw [List.Nodup, List.pairwise_map]
    exact h.nodup.imp fun {x y} hne e => hne (by have := congrArg swp e; exact this)
  have h1 := count_of_nodup h.nodup (p := a)
  have h2 := count_of_nodup hn (p := a)
  have hm : a ∈ L.map swp ↔ a ∈ L := by
    constructor
    · intro hm
      obtain ⟨b, hb, rfl⟩ := List.mem_map.1 hm
      exact h.sym b hb
    · intro hm
      exact List.mem_map.2 ⟨swp a, h.sym a hm, rfl⟩
  have p1 := List.count_pos_iff (a := a) (l := L)
  have p2 := List.count_pos_iff (a := a) (l := L.map swp)
  by_cases ha : a ∈ L
  · have := p1.2 ha
    have := p2.2 (hm.2 ha)
    omega
  · rw [List.count_eq_zero.2 ha, List.count_eq_zero.2 (fun q => ha (hm.1 q))]
theorem out_in {N : Int} {L : Lks} (h : RG N L) (n : Int) : (sel 0 L n).length = (sel 1 L n).length := by
  rw [sel_count, sel_count, ← (swap_perm h).countP_eq, List.countP_map]
  rfl
theorem countP_split (q : Int × Int → Bool) (r : Int × Int → Bool) (s : Int × Int → Bool) (hd : ∀ p, s p = (q p || r p)) (hx : ∀ p, ¬ (q p = true ∧ r p = true)) : ∀ L : Lks, L.countP s = L.countP q + L.countP r
  | [] => rfl
  | p :: t => by
    have ih := countP_split q r s hd hx t
    simp only [List.countP_cons, ih, hd p]
    have := hx p
    cases h1 : q p <;> cases h2 : r p <;> simp_all <;> omega
def osum (L : Lks) : Nat → Nat
  | 0 => 0
  | j + 1 => osum L j + (sel 0 L (j : Int)).length
theorem osum_eq (L : Lks) : ∀ j : Nat, osum L j = L.countP (fun p => decide (0 ≤ p.1 ∧ p.1 < (j : Int)))
  | 0 => by
    have : L.countP (fun p => decide (0 ≤ p.1 ∧ p.1 < ((0 : Nat) : Int))) = 0 := by
      rw [List.countP_eq_zero]
      intro p _
      simp <;> omega
    rw [this]; rfl
  | j + 1 => by
    rw [osum, osum_eq L j, sel_count]
    refine (countP_split _ _ _ (fun p => ?_) (fun p => ?_) L).symm
    · rw [Bool.eq_iff_iff]
      simp [sideOf]
      omega
    · simp [sideOf]
      omega
theorem osum_le (L : Lks) (j : Nat) : osum L j ≤ L.length := by rw [osum_eq]; exact List.countP_le_length
theorem osum_all {N : Nat} {L : Lks} (h : InR N L) : osum L N = L.length := by
  rw [osum_eq, List.countP_eq_length]
  intro p hp
  have := h p hp
  simp; omega

/-- The link the other way round. -/
theorem back_of {N : Int} {L : Lks} (h : RG N L) {k : Nat} (hk : k < L.length) :
    ∃ b : Nat, b < L.length ∧ b ≠ k ∧ lk L b = ((lk L k).2, (lk L k).1) ∧ backL L (k : Int) = (b : Int) ∧ backL L (b : Int) = (k : Int) ∧ findL L (lk L k) = (k : Int) := by
  obtain ⟨b, hb, he⟩ := mem_lk (h.sym _ (lk_mem hk))
  have e1 : backL L (k : Int) = (b : Int) := by
    unfold backL; rw [if_neg (by omega), Int.toNat_natCast, ← he]; exact find_self h.nodup hb
  have e2 : backL L (b : Int) = (k : Int) := by
    unfold backL; rw [if_neg (by omega), Int.toNat_natCast, he]; exact find_self h.nodup hk
  refine ⟨b, hb, fun e => ?_, he, e1, e2, find_self h.nodup hk⟩
  subst e
  have := h.irr _ (lk_mem hk)
  have h1 := congrArg Prod.fst he
  exact this h1
end Go.Proofs.Ytndpgmndbdchaaa
