/- A table with one passive state more. -/
import Derived.Test.YtgoioibfecgopaaTfL
namespace Go.Proofs.Ytgoioibfecgopaa
open Go.RowKit Go.PlainAid

theorem cutP_idem (p : Pk) : cutP (cutP p) = cutP p := by unfold cutP; simp [List.take_take]
theorem cutS_idem (s : St) : cutS (cutS s) = cutS s := by
  unfold cutS
  simp only [List.take_take, Nat.min_self, St.mk.injEq, true_and, and_true]
  rw [← List.map_take, List.take_take, List.map_map]
  exact List.map_congr_left fun p _ => cutP_idem p
theorem cutN_idem (x : Nd) : cutN (cutN x) = cutN x := by
  unfold cutN
  simp only [Nd.mk.injEq, true_and]
  rw [← List.map_take, List.take_take, List.map_map]
  exact List.map_congr_left fun p _ => cutS_idem p
theorem cutT_idem (M : Tab) : cutT (cutT M) = cutT M := by
  unfold cutT
  rw [← List.map_take, List.take_take, List.map_map]
  exact List.map_congr_left fun p _ => cutN_idem p
theorem cutT_states {M : Tab} {x : Nd} (h : x ∈ cutT M) : x.states.length ≤ 10 := by
  obtain ⟨y, _, rfl⟩ := List.mem_map.1 h
  simp [cutN]; omega

def moreN (x : Nd) : Nd := ⟨x.start, x.states ++ [St.zero]⟩
theorem hasS_more {l : List St} {s : Int} {z : St} (h : HasS l s) : HasS (l ++ [z]) s := ⟨h.1, by have h1 : s < (l.length : Int) := h.2; show s < ((l ++ [z]).length : Int); simp; omega⟩
theorem stOf_more {l : List St} {s : Int} {z : St} (h : HasS l s) : stOf (l ++ [z]) s = stOf l s := by
  obtain ⟨q, rfl⟩ := Int.eq_ofNat_of_zero_le h.1
  have hq : q < l.length := by have h1 : (q : Int) < (l.length : Int) := h.2; omega
  unfold stOf
  simp [List.getD, List.getElem?_append_left hq]
theorem zero_place (L : Lks) (n : Int) (all : List St) : PlaceOK L ⟨St.zero, n, all⟩ := by
  refine ⟨⟨by simp [St.zero], by simp [St.zero]⟩, ⟨by simp [St.zero], fun i x h => by simp [St.zero] at h⟩, ⟨by simp [St.zero], fun h => by simp [St.zero] at h, fun i p h => by simp [St.zero] at h⟩, fun i t h => by simp [St.zero] at h⟩
theorem place_more {L : Lks} {t : St} {n : Int} {all : List St} {z : St} (h : PlaceOK L ⟨t, n, all⟩) : PlaceOK L ⟨t, n, all ++ [z]⟩ := by
  obtain ⟨h1, h2, ⟨h3, h4, h5⟩, h6⟩ := h
  exact ⟨h1, h2, ⟨h3, h4, fun i p hp => ⟨hasS_more (h5 i p hp).1, (h5 i p hp).2⟩⟩, fun i u hu => ⟨(h6 i u hu).1, hasS_more (h6 i u hu).2.1, (h6 i u hu).2.2⟩⟩
theorem more_ok {N : Int} {L : Lks} {M : Tab} {k : Nat} {x : Nd} (h : TabOK N L M) (hx : M[k]? = some x) (h7 : x.states.length ≤ 7) : TabOK N L (M.set k (moreN x)) := by
  refine ⟨h.1, by rw [List.length_set]; exact h.2.1, fun n y hy => ?_⟩
  rw [List.getElem?_set] at hy
  split at hy
  · next e =>
    subst e
    rw [if_pos (lt_of_some hx)] at hy
    cases hy
    obtain ⟨h1, h2, h3, h4⟩ := h.2.2 _ x hx
    refine ⟨by simp [moreN]; omega, hasS_more h2, fun t ht => ?_, fun t ht => ?_⟩
    · rcases List.mem_append.1 ht with ht | ht
      · exact place_more (h3 t ht)
      · obtain rfl := List.mem_singleton.1 ht; exact zero_place _ _ _
    · rcases List.mem_append.1 ht with ht | ht
      · intro i u hu j y hy hne
        show y ∈ (stOf (x.states ++ [St.zero]) u.next).waits
        rw [stOf_more ((h3 t ht).2.2.2 i u hu).2.1]
        exact h4 t ht i u hu j y hy hne
      · obtain rfl := List.mem_singleton.1 ht
        intro i u hu
        simp [St.zero] at hu
  · exact h.2.2 n y hy
theorem more_bad {N : Int} {L : Lks} {M : Tab} {k : Nat} {x : Nd} (hx : M[k]? = some x) (h7 : ¬ x.states.length ≤ 7) : ¬ TabOK N L (M.set k (moreN x)) := fun h => by
  have := (h.2.2 k (moreN x) (by rw [List.getElem?_set_self (lt_of_some hx)])).1
  simp [moreN] at this
  omega
theorem more_get {M : Tab} {k : Nat} {x : Nd} (hx : M[k]? = some x) : (M.set k (moreN x))[k]? = some (moreN x) := by rw [List.getElem?_set_self (lt_of_some hx)]
theorem stAt_more {M : Tab} {k s : Nat} {x : Nd} (hx : M[k]? = some x) (hs : s < x.states.length) : stAt (M.set k (moreN x)) k s = stAt M k s := by
  obtain ⟨t, ht⟩ := some_of_lt hs
  rw [stAt_of hx ht, stAt_of (more_get hx) (show (x.states ++ [St.zero])[s]? = some t by rw [List.getElem?_append_left hs]; exact ht)]
theorem stAt_new {M : Tab} {k : Nat} {x : Nd} (hx : M[k]? = some x) : stAt (M.set k (moreN x)) k x.states.length = St.zero :=
  stAt_of (more_get hx) (show (x.states ++ [St.zero])[x.states.length]? = some St.zero by simp)
theorem small_more {M : Tab} {k : Nat} {x : Nd} (h : SmallTab M) (hx : M[k]? = some x) (h10 : x.states.length ≤ 10) : SmallTab (M.set k (moreN x)) := by
  refine ⟨by rw [List.length_set]; exact h.1, fun y hy => ?_⟩
  rcases List.mem_or_eq_of_mem_set hy with hy | rfl
  · exact h.2 y hy
  · refine ⟨by simp [moreN]; omega, fun s hs => ?_⟩
    rcases List.mem_append.1 hs with hs | hs
    · exact (h.2 x (List.mem_of_getElem? hx)).2 s hs
    · obtain rfl := List.mem_singleton.1 hs; simp [St.zero, SmallSt]
theorem dTab_more (M : Tab) (k : Nat) (x : Nd) : dTab (M.set k (moreN x)) = .row 2 ((M.map Nd.d).set k (x.d.set 1 (.row 4 (x.states.map St.d ++ [St.zero.d])))) := by
  unfold dTab
  rw [List.map_set]
  simp [moreN, Nd.d, dStates]
end Go.Proofs.Ytgoioibfecgopaa
