/- TableEach: one state changed, and what the change leaves. -/
import Derived.Test.YtgoioibfecgopaaTfO
namespace Go.Proofs.Ytgoioibfecgopaa
open Go.RowKit Go.PlainAid

theorem st_mkL {P P1 P2 P3 : Nat → Prop} {w : World} {s : St} {v1 v2 v3 : Value} (h1 : Holds True P1 w v1 (dInts s.waits)) (h2 : Holds True P2 w v2 (dPicks s.picks)) (h3 : Holds True P3 w v3 (dTakes s.takes))
    (q1 : ∀ k, P1 k → P k) (q2 : ∀ k, P2 k → P k) (q3 : ∀ k, P3 k → P k) (d12 : ∀ k, P1 k → ¬ P2 k) (d13 : ∀ k, P1 k → ¬ P3 k) (d23 : ∀ k, P2 k → ¬ P3 k) : HoldsL True P w [.int .i64 s.mode, v1, v2, v3] s.d := by
  refine holdsL_of (fun j k => (j = 1 ∧ P1 k) ∨ (j = 2 ∧ P2 k) ∨ (j = 3 ∧ P3 k)) rfl (fun j c d hc hd => ?_) (fun i j k hij hi hj => ?_) (fun j k hk => ?_)
  · match j, hc, hd with
    | 0, hc, hd => simp [St.d] at hc hd; subst hc hd; exact has_int _ _ _ _
    | 1, hc, hd => simp [St.d] at hc hd; subst hc hd; exact h1.wide (fun k _ hk => .inl ⟨rfl, hk⟩)
    | 2, hc, hd => simp [St.d] at hc hd; subst hc hd; exact h2.wide (fun k _ hk => .inr (.inl ⟨rfl, hk⟩))
    | 3, hc, hd => simp [St.d] at hc hd; subst hc hd; exact h3.wide (fun k _ hk => .inr (.inr ⟨rfl, hk⟩))
    | j + 4, hc, hd => simp at hc
  · rcases hi with ⟨e, hi⟩ | ⟨e, hi⟩ | ⟨e, hi⟩ <;> rcases hj with ⟨e', hj⟩ | ⟨e', hj⟩ | ⟨e', hj⟩ <;> first | omega | exact d12 k hi hj | exact d13 k hi hj | exact d23 k hi hj
  · rcases hk with ⟨_, hk⟩ | ⟨_, hk⟩ | ⟨_, hk⟩
    · exact q1 k hk
    · exact q2 k hk
    · exact q3 k hk

/-- What the change of one state leaves: the state in its box, all other blocks as they were. -/
structure EachR (w y : World) (Q2 : Nat → Prop) (bad : St → Prop) (wq : World) : Prop where
  ex : ∃ (s' : St) (v1 v2 v3 : Value), BoxAt y.heap.size [.int .i64 s'.mode, v1, v2, v3] wq ∧ HoldsL True (fun q => Q2 q ∨ y.heap.size ≤ q) wq [.int .i64 s'.mode, v1, v2, v3] s'.d ∧ SmallSt s' ∧ bad s'
  same : SameOn (fun q => q < y.heap.size ∧ ¬ Q2 q) y wq
  bel : Below w.heap.size w wq
theorem boxAt_set {b j : Nat} {vs : List Value} {u : Value} {wr : World} (g : BoxAt b vs wr) : BoxAt b (vs.set j u) (wr.setCell ⟨b, j, none⟩ u) := fun i v e => by
  rcases set_cases' e with ⟨rfl, rfl, hl⟩ | ⟨hne, e⟩
  · obtain ⟨x, hx⟩ := some_of_lt hl
    exact set_at (g i x hx)
  · exact set_far (.inr (fun h => hne h.symm)) (g i v e)
where
  set_cases' {α : Type} {l : List α} {i j : Nat} {x y : α} (h : (l.set i x)[j]? = some y) : (j = i ∧ y = x ∧ i < l.length) ∨ (j ≠ i ∧ l[j]? = some y) := by
    rw [List.getElem?_set] at h
    split at h
    · next e =>
      split at h
      · next hl => cases h; exact .inl ⟨e.symm, rfl, by omega⟩
      · cases h
    · next e => exact .inr ⟨fun e' => e e'.symm, h⟩
theorem armR {w y x7 w6 : World} {Q2 R : Nat → Prop} {bad : St → Prop} {vs : List Value} {s' : St} {v1 v2 v3 u : Value} {j : Nat}
    (hQ2 : ∀ q, Q2 q → q < y.heap.size) (hw : w.heap.size ≤ y.heap.size) (h7 : Below y.heap.size y x7) (_hb7 : y.heap.size < x7.heap.size) (hB : BoxAt y.heap.size vs x7) (hR : ∀ q, R q → Q2 q) (hS : SameOn (fun q => ¬ R q) x7 w6) (hbel : Below w.heap.size w w6)
    (hvs : vs.set j u = [.int .i64 s'.mode, v1, v2, v3]) (hL : HoldsL True (fun q => (Q2 q ∨ y.heap.size ≤ q) ∧ q ≠ y.heap.size) w6 [.int .i64 s'.mode, v1, v2, v3] s'.d) (hsm : SmallSt s') (hbad : bad s') : EachR w y Q2 bad (w6.setCell ⟨y.heap.size, j, none⟩ u) := by
  have hnR : ¬ R y.heap.size := fun h => Nat.lt_irrefl _ (hQ2 _ (hR _ h))
  refine ⟨⟨s', v1, v2, v3, ?_, ?_, hsm, hbad⟩, ?_, hbel.setCell hw _⟩
  · rw [← hvs]
    exact boxAt_set (hB.same hS hnR)
  · exact (hL.same ((SameOn.refl _ _).set _ _ (fun h => h.2 rfl))).wide (fun k _ hk => hk.1)
  · exact (((SameOn.of_below h7).trans (hS.sub (fun q hq h => hq.2 (hR q h)))).set _ _ (fun h => Nat.lt_irrefl _ h.1))
theorem bad_of {N : Int} {L : Lks} {M : Tab} {i k : Nat} {x : Nd} {s' : St} (hi : i < M.length) (hk : k < x.states.length) (h : ¬ PlaceOK L ⟨s', i, x.states.set k s'⟩) : ¬ TabOK N L (setSt M i k x s') := fun hT => h (setSt_place hT hi hk)
theorem bad_mode {L : Lks} {i : Int} {all : List St} {s' : St} (h : ¬ (0 ≤ s'.mode ∧ s'.mode ≤ 2)) : ¬ PlaceOK L ⟨s', i, all⟩ := fun hp => h hp.1
theorem bad_waits {L : Lks} {i : Int} {all : List St} {s : St} (h : (i, i) ∉ L) : ¬ PlaceOK L ⟨⟨s.mode, s.waits ++ [i], s.picks, s.takes⟩, i, all⟩ := fun hp => h (hp.2.1.2 s.waits.length i (by simp)).1
theorem bad_pick {L : Lks} {i : Int} {all : List St} {s : St} {p : Pk} (h : ¬ (HasS all p.next ∧ SendsEach L i p.sends)) : ¬ PlaceOK L ⟨⟨s.mode, s.waits, s.picks ++ [p], s.takes⟩, i, all⟩ := fun hp => by
  have := hp.2.2.1.2.2 s.picks.length p (by simp)
  exact h ⟨this.1, this.2.2⟩
theorem bad_many {L : Lks} {i : Int} {all : List St} {s : St} {l : List Pk} (h : 4 < l.length) : ¬ PlaceOK L ⟨⟨s.mode, s.waits, s.picks ++ l, s.takes⟩, i, all⟩ := fun hp => by
  have h1 : (s.picks ++ l).length ≤ 4 := hp.2.2.1.1
  simp at h1
  omega
theorem bad_take {L : Lks} {i : Int} {all : List St} {s : St} {t : Tk} {l : List Tk} (h : (t.src, i) ∉ L) : ¬ PlaceOK L ⟨⟨s.mode, s.waits, s.picks, s.takes ++ t :: l⟩, i, all⟩ := fun hp => h (hp.2.2.2 s.takes.length t (by simp)).1.1
/-- States of a cut table have short lists. -/
theorem cut_short {M0 : Tab} {i k : Nat} {x : Nd} {t : St} (hx : (cutT M0)[i]? = some x) (ht : x.states[k]? = some t) : t.waits.length ≤ 10 ∧ t.picks.length ≤ 10 ∧ t.takes.length ≤ 30 ∧ ∀ p ∈ t.picks, p.sends.length ≤ 10 := by
  unfold cutT at hx
  rw [List.getElem?_map, Option.map_eq_some_iff] at hx
  obtain ⟨x0, _, rfl⟩ := hx
  unfold cutN at ht
  rw [List.getElem?_map, Option.map_eq_some_iff] at ht
  obtain ⟨t0, _, rfl⟩ := ht
  unfold cutS
  refine ⟨by simp; omega, by simp; omega, by simp; omega, fun p hp => ?_⟩
  simp only [List.mem_map] at hp
  obtain ⟨p0, _, rfl⟩ := hp
  unfold cutP
  simp; omega
/-- One message, in a row of its own. -/
theorem one_send {w : World} {i : Int} (T : TypeId) : Holds True (fun k => k = w.heap.size) (w.alloc (.cells #[.int .i64 i, .int .i64 0] T)) (.slice (some ⟨w.heap.size, 0, none⟩) 1 1) (dLinks [(i, 0)]) :=
  holds_mk (Q := fun _ => False) (cells := [.int .i64 i, .int .i64 0]) rfl rfl (heap_alloc_new w _) (Nat.le_refl _) (by decide) rfl rfl (by simp)
    (by refine ⟨rfl, fun _ _ => False, fun _ _ h => h.elim, fun _ _ _ _ h => h.elim, fun j c d hc hd => ?_⟩
        match j, hc, hd with
        | 0, hc, hd => simp at hc hd; subst hc hd; exact has_int _ _ _ _
        | 1, hc, hd => simp at hc hd; subst hc hd; exact has_int _ _ _ _
        | j + 2, hc, hd => simp at hc) (fun _ h => h.elim) (fun h => h)
theorem holdsL_two {P : Nat → Prop} {w : World} {c1 c2 : List Value} {d1 d2 : List D} (h1 : HoldsL True (fun _ => False) w c1 d1) (h2 : HoldsL True P w c2 d2) : HoldsL True P w (c1 ++ c2) (d1 ++ d2) :=
  (h1.append h2 (fun _ _ h => h.elim)).wide (fun _ _ h => h.elim (fun h => h.elim) (fun h => h))
theorem pk_zeroL (w : World) (n : Int) : HoldsL True (fun _ => False) w [.int .i64 n, .slice none 0 0] (Pk.mk n []).d := pk_holdsL (p := ⟨n, []⟩) (Q := fun _ => False) rfl (.nil _ _ _ _ _) (fun _ h => h)
end Go.Proofs.Ytgoioibfecgopaa
