/- Texts put together. -/
import Derived.Test.YtlhclnhdcenkhaaMq00
import Derived.Laws.CopyRow
import Derived.BigRegion
import Derived.Handy
import Derived.WalkSpells
import Derived.WalkLawsBesides
import Derived.Deep.AppendLies
import Derived.Lib.SmallJoins
import Derived.WalkMore
import Derived.Maps.Own
import Derived.Maps.OwnOps
import Derived.Maps.Views
import Derived.WideKeyPair
import Derived.WideKeyEntry
import Derived.OpenShut
import Derived.ChangeSlices
import Derived.ProofKit
import Derived.Deep.Slices
import Derived.Deep.Fields
import Derived.Deep.RegionHeld3
import Derived.Deep.RegionHeldLaw
import Derived.Deep.DeepCutAuto
namespace Go.Proofs.Ytlhclnhdcenkhaa
open Go.RowKit Go.PlainAid
/-- Where no two parts lie in one block, a row's cell may be written, and all else stays. -/
theorem Holds.update {P Q : Nat → Prop} {w : World} {b off len cap n i j : Nat} {xs : List (List D)} {ds : List D} (h : Holds True P w (.slice (some ⟨b, off, none⟩) len cap) (.row n xs)) (hi : xs[i]? = some ds) (hj : j < n) (v' : Value) (d' : D) (hv : Holds False Q w v' d') (hQ : ¬ Q b) :
  Has (w.setCell ⟨b, off + i * n + j, none⟩ v') (.slice (some ⟨b, off, none⟩) len cap) (.row n (xs.set i (ds.set j d'))) := by
 cases h with
 | nil => simp at hi
 | row _ _ _ _ _ _ _ cs fp h0 hb hc hP hn hcell hrec hfp hb2 hd =>
  have hlen : (xs.set i (ds.set j d')).length = xs.length := by simp
  have hil := lt_of_some hi
  have hget : ∀ (a : Nat) (e : List D), (xs.set i (ds.set j d'))[a]? = some e → (a = i ∧ e = ds.set j d') ∨ (a ≠ i ∧ xs[a]? = some e) := fun a e he => by
   rw [List.getElem?_set] at he
   split at he
   ·next h => subst h; (try rw [if_pos hil] at he); cases he; exact .inl ⟨rfl, rfl⟩
   ·next h => exact .inr ⟨fun e => h e.symm, he⟩
  have hdl := hn i ds hi
  have heq : ∀ a c : Nat, c < n → off + a * n + c = off + i * n + j → a = i ∧ c = j := fun a c hc' e => by
   have e : a * n + c = i * n + j := by omega
   have h1 : (a * n + c) / n = a ∧ (a * n + c) % n = c := by
    have hn0 : 0 < n := by omega
    rw [Nat.mul_comm]
    exact ⟨by rw [Nat.mul_add_div hn0, Nat.div_eq_of_lt hc', Nat.add_zero], by rw [Nat.mul_add_mod, Nat.mod_eq_of_lt hc']⟩
   have h2 : (i * n + j) / n = i ∧ (i * n + j) % n = j := by
    have hn0 : 0 < n := by omega
    rw [Nat.mul_comm]
    exact ⟨by rw [Nat.mul_add_div hn0, Nat.div_eq_of_lt hj, Nat.add_zero], by rw [Nat.mul_add_mod, Nat.mod_eq_of_lt hj]⟩
   rw [e] at h1
   exact ⟨h1.1.symm.trans h2.1 , h1.2.symm.trans h2.2⟩
  have hs : ∀ R : Nat → Prop, ¬ R b → SameOn R w (w.setCell ⟨b, off + i * n + j, none⟩ v') := fun R hR => (SameOn.refl _ _).set _ _ hR
  have res := Holds.row (S := False) All (w.setCell ⟨b, off + i * n + j, none⟩ v') b off cap n (xs.set i (ds.set j d')) (fun a c => if a = i ∧ c = j then v' else cs a c) (fun _ _ => All) (by rw [hlen]; exact h0) (by rw [World.size_setCell]; exact hb) (by rw [hlen]; exact hc) trivial
   (fun a e he => by
    rcases hget a e he with ⟨_, rfl⟩ | ⟨_, he⟩
    ·simp; exact hdl
    ·exact hn a e he)
   (fun a c ha hcc => by
    rw [hlen] at ha
    by_cases e : a = i ∧ c = j
    ·obtain ⟨rfl, rfl⟩ := e
     rw [if_pos ⟨rfl, rfl⟩]
     exact World.cell?_setCell_same w _ _ (hcell a c ha hcc)
    ·rw [if_neg e, World.cell?_setCell_other _ _ _ _ (by intro e'; simp at e'; exact e (heq a c hcc (by omega)))]
     exact hcell a c ha hcc)
   (fun a c e d h1 h2 => by
    rcases hget a e h1 with ⟨rfl, rfl⟩ | ⟨hne, h1⟩
    ·rw [List.getElem?_set] at h2
     split at h2
     ·next hjc =>
      subst hjc
      (try rw [if_pos (by omega)] at h2)
      cases h2
      rw [if_pos ⟨rfl, rfl⟩]
      exact (hv.same (hs Q hQ)).weak
     ·next hjc =>
      rw [if_neg (fun h => hjc h.2.symm)]
      exact ((hrec a c ds d hi h2).same (hs _ (hb2 trivial a c))).weak
    ·rw [if_neg (fun h => hne h.1)]
     exact ((hrec a c e d h1 h2).same (hs _ (hb2 trivial a c))).weak)
   (fun _ _ _ _ => trivial) (fun s => s.elim) (fun s => s.elim)
  rw [hlen] at res
  exact res
end Go.Proofs.Ytlhclnhdcenkhaa
namespace Go.Proofs.Ytlhclnhdcenkhaa
open Go.RowKit Go.PlainAid
theorem heap_setCell_at {w : World} {b : Nat} {cur : Array Value} {e : TypeId} {fr : Nat × Nat} (hg : w.heap[b]? = some (.cells cur e fr)) (o : Nat) (v : Value) : (w.setCell ⟨b, o, none⟩ v).heap[b]? = some (.cells (cur.setIfInBounds o v) e fr) := by
 simp [World.setCell, Array.getElem?_modify, hg]
/-- One part of a row that may be written: what stands there, and the row with another part in its place. -/
theorem Holds.focus {P : Nat → Prop} {w : World} {b off len cap n i j : Nat} {xs : List (List D)} {ds : List D} {d : D} (h : Holds True P w (.slice (some ⟨b, off, none⟩) len cap) (.row n xs)) (hi : xs[i]? = some ds) (hd : ds[j]? = some d) :
  ∃ (Q : Nat → Prop) (c : Value), off = 0 ∧ P b ∧ OpenRow w b cap n ∧ b < w.heap.size ∧ w.cell? ⟨b, i * n + j, none⟩ = some c ∧ (∀ k, Q k → P k) ∧ ¬ Q b ∧ Holds True Q w c d ∧
   ∀ (w2 : World) (c' : Value) (d' : D) (Q' : Nat → Prop), SameOn (fun k => P k ∧ k ≠ b ∧ ¬ Q k) w w2 → w2.heap[b]? = (w.setCell ⟨b, i * n + j, none⟩ c').heap[b]? → Holds True Q' w2 c' d' → (∀ k, Q' k → k ≠ b ∧ (Q k ∨ ¬ P k)) →
    Holds True (fun k => P k ∨ Q' k) w2 (.slice (some ⟨b, off, none⟩) len cap) (.row n (xs.set i (ds.set j d'))) := by
 cases h with
 | nil => simp at hi
 | row _ _ _ _ _ _ _ cs fp h0 hb hc hP hn hcell hrec hfp hb2 hdj hop =>
  obtain ⟨rfl, hO⟩ := hop trivial
  have hil := lt_of_some hi
  have hjn : j < n := by rw [← hn i ds hi]; exact lt_of_some hd
  refine ⟨fp i j, cs i j, rfl, hP, hO, hb, by simpa using hcell i j hil hjn, hfp i j, hb2 trivial i j, hrec i j ds d hi hd, ?_⟩
  intro w2 c' d' Q' hs hbl hv hQ
  have hlen : (xs.set i (ds.set j d')).length = xs.length := by simp
  have hget : ∀ (a : Nat) (e : List D), (xs.set i (ds.set j d'))[a]? = some e → (a = i ∧ e = ds.set j d') ∨ (a ≠ i ∧ xs[a]? = some e) := fun a e he => by
   rw [List.getElem?_set] at he
   split at he
   ·next h => subst h; (try rw [if_pos hil] at he); cases he; exact .inl ⟨rfl, rfl⟩
   ·next h => exact .inr ⟨fun e => h e.symm, he⟩
  have hdl := hn i ds hi
  have heq : ∀ a c : Nat, c < n → a * n + c = i * n + j → a = i ∧ c = j := fun a c hc' e => by
   have hn0 : 0 < n := by omega
   have h1 : (a * n + c) / n = a ∧ (a * n + c) % n = c := by
    rw [Nat.mul_comm]
    exact ⟨by rw [Nat.mul_add_div hn0, Nat.div_eq_of_lt hc', Nat.add_zero], by rw [Nat.mul_add_mod, Nat.mod_eq_of_lt hc']⟩
   have h2 : (i * n + j) / n = i ∧ (i * n + j) % n = j := by
    rw [Nat.mul_comm]
    exact ⟨by rw [Nat.mul_add_div hn0, Nat.div_eq_of_lt hjn, Nat.add_zero], by rw [Nat.mul_add_mod, Nat.mod_eq_of_lt hjn]⟩
   rw [e] at h1
   exact ⟨h1.1.symm.trans h2.1, h1.2.symm.trans h2.2⟩
  have hoth : ∀ a c k, fp a c k → ¬ (a = i ∧ c = j) → ¬ fp i j k := fun a c k h1 h2 h3 => h2 (hdj trivial a c i j k h1 h3)
  have hkeep : ∀ a c, ¬ (a = i ∧ c = j) → SameOn (fp a c) w w2 := fun a c hne => hs.sub fun k hk => ⟨hfp a c k hk, fun e => hb2 trivial a c (by rw [← e]; exact hk), hoth a c k hk hne⟩
  obtain ⟨h63, cur, e0, hg, hcz⟩ := hO
  have hg2 : w2.heap[b]? = some (.cells (cur.setIfInBounds (i * n + j) c') e0 (0, 0)) := hbl.trans (heap_setCell_at hg _ _)
  have hb2' : b < w2.heap.size := (Array.getElem?_eq_some_iff.1 hg2).1
  have hcl : ∀ a c : Nat, w2.cell? ⟨b, a * n + c, none⟩ = (w.setCell ⟨b, i * n + j, none⟩ c').cell? ⟨b, a * n + c, none⟩ := fun a c => World.cell?_of_block hbl
  rw [← hlen]
  refine Holds.row _ w2 b 0 cap n _ (fun a c => if a = i ∧ c = j then c' else cs a c) (fun a c k => if a = i ∧ c = j then Q' k else fp a c k) (by rw [hlen]; exact h0) hb2' (by rw [hlen]; exact hc) (.inl hP)
   (fun a e he => ?_) (fun a c ha hcc => ?_) (fun a c e d2 h1 h2 => ?_) (fun a c k hk => ?_) (fun _ a c hk => ?_) (fun _ a c a' c' k hk hk' => ?_) (fun _ => ⟨rfl, h63, _, e0, hg2, by simpa using hcz⟩)
  ·rcases hget a e he with ⟨_, rfl⟩ | ⟨_, he⟩
   ·simp; exact hdl
   ·exact hn a e he
  ·rw [hlen] at ha
   rw [Nat.zero_add, hcl]
   by_cases e : a = i ∧ c = j
   ·obtain ⟨rfl, rfl⟩ := e
    rw [if_pos ⟨rfl, rfl⟩]
    exact World.cell?_setCell_same w _ _ (by simpa using hcell a c ha hcc)
   ·rw [if_neg e, World.cell?_setCell_other _ _ _ _ (by intro e'; simp at e'; exact e (heq a c hcc e'.symm))]
    simpa using hcell a c ha hcc
  ·rcases hget a e h1 with ⟨rfl, rfl⟩ | ⟨hne, h1⟩
   ·rw [List.getElem?_set] at h2
    split at h2
    ·next hjc =>
     subst hjc
     (try rw [if_pos (by omega)] at h2)
     cases h2
     simp only [and_self, if_true]
     exact hv
    ·next hjc =>
     have hne : ¬ c = j := fun h => hjc h.symm
     simp only [true_and, if_neg hne]
     exact (hrec a c ds d2 hi h2).same (hkeep a c (fun h => hne h.2))
   ·have hne' : ¬ (a = i ∧ c = j) := fun h => hne h.1
    simp only [if_neg hne']
    exact (hrec a c e d2 h1 h2).same (hkeep a c hne')
  ·split at hk
   ·exact .inr hk
   ·exact .inl (hfp a c k hk)
  ·split at hk
   ·exact (hQ _ hk).1 rfl
   ·exact hb2 trivial a c hk
  ·split at hk <;> split at hk'
   ·next h1 h2 => exact ⟨h1.1.trans h2.1.symm, h1.2.trans h2.2.symm⟩
   ·next h1 h2 =>
    rcases (hQ k hk).2 with h | h
    ·exact absurd h (hoth a' c' k hk' h2)
    ·exact absurd (hfp a' c' k hk') h
   ·next h1 h2 =>
    rcases (hQ k hk').2 with h | h
    ·exact absurd h (hoth a c k hk h1)
    ·exact absurd (hfp a c k hk) h
   ·exact hdj trivial a c a' c' k hk hk'
/-- A row that may be written, by its cells. -/
theorem Holds.open {P : Nat → Prop} {w : World} {a : Option Addr} {k cap n : Nat} {xs : List (List D)} (h : Holds True P w (.slice a k cap) (.row n xs)) (hn0 : 0 < n) :
  k = xs.length ∧ (∀ ds ∈ xs, ds.length = n) ∧ ((cap = 0 ∧ xs = []) ∨ ∃ (g : Nat) (cur : Array Value) (e : TypeId) (cells : List Value) (Q : Nat → Prop), a = some ⟨g, 0, none⟩ ∧ P g ∧ g < w.heap.size ∧ w.heap[g]? = some (.cells cur e (0, 0)) ∧ k ≤ cap ∧ cap ≤ maxLen ∧ cur.size = cap * n ∧
   cur.toList.take (k * n) = cells ∧ HoldsL True Q w cells xs.flatten ∧ (∀ k, Q k → P k) ∧ ¬ Q g) := by
 cases h with
 | nil _ _ _ _ _ hop =>
  refine ⟨rfl, by simp, ?_⟩
  rcases hop trivial with h | ⟨b, rfl, h2, h3, h4, cur, e, h5, h6⟩
  ·exact .inl ⟨h, rfl⟩
  ·exact .inr ⟨b, cur, e, [], fun _ => False, rfl, h2, h3, h5, by omega, h4, h6, by simp, hasL_nil _ _ _, fun _ h => h.elim, fun h => h⟩
 | row _ _ b off cap n xs cs fp h0 hb hc hP hn hcell hrec hfp hb2 hdj hop =>
  obtain ⟨rfl, h63, cur, e, hg, hcz⟩ := hop trivial
  have hn' : ∀ ds ∈ xs, ds.length = n := fun ds hds => by obtain ⟨q, hq⟩ := List.mem_iff_getElem?.1 hds; exact hn q ds hq
  have hle : xs.length * n ≤ cur.size := by rw [hcz]; exact Nat.mul_le_mul_right _ hc
  have hcu : ∀ i j, i < xs.length → j < n → cur.toList[i * n + j]? = some (cs i j) := fun i j hi hj => by
   have := hcell i j hi hj
   simpa [World.cell?, hg] using this
  refine ⟨rfl, hn', .inr ⟨b, cur, e, _, fun k => ∃ i j, fp i j k, rfl, hP, hb, hg, hc, h63, hcz, rfl, ?_, fun k ⟨i, j, hk⟩ => hfp i j k hk, fun ⟨i, j, hk⟩ => hb2 trivial i j hk⟩⟩
  have hfl := flatten_len hn'
  refine ⟨by simp [hfl]; omega, fun p => fp (p / n) (p % n), fun p k hk => ⟨_, _, hk⟩, fun _ p q k h1 h2 => ?_, fun p c d h1 h2 => ?_⟩
  ·obtain ⟨e1, e2⟩ := hdj trivial _ _ _ _ k h1 h2
   rw [← Nat.div_add_mod p n, ← Nat.div_add_mod q n, e1, e2]
  ·have hp : p < xs.length * n := by rw [← hfl]; exact lt_of_some h2
   have hpn : p % n < n := Nat.mod_lt _ hn0
   have hpl : p / n < xs.length := Nat.div_lt_of_lt_mul (by rw [Nat.mul_comm]; exact hp)
   obtain ⟨ds, hds⟩ := some_of_lt hpl
   have e1 : p / n * n + p % n = p := by rw [Nat.mul_comm]; exact Nat.div_add_mod p n
   have hd2 := flatten_get hn' hds hpn
   rw [e1, h2] at hd2
   have hc2 := hcu _ _ hpl hpn
   rw [e1] at hc2
   rw [List.getElem?_take, if_pos hp, hc2] at h1
   cases h1
   exact hrec _ _ ds d hds hd2.symm
/-- A row that may be written, out of its cells. -/
theorem holds_mk {P Q : Nat → Prop} {w : World} {g k cap n : Nat} {cur : Array Value} {e : TypeId} {cells : List Value} {xs : List (List D)} (hk : k = xs.length) (hP : P g) (hg : w.heap[g]? = some (.cells cur e (0, 0))) (hc : k ≤ cap) (h63 : cap ≤ maxLen) (hcz : cur.size = cap * n)
  (hcu : cur.toList.take (k * n) = cells) (hn : ∀ ds ∈ xs, ds.length = n) (hL : HoldsL True Q w cells xs.flatten) (hQ : ∀ k, Q k → P k) (hQg : ¬ Q g) : Holds True P w (.slice (some ⟨g, 0, none⟩) k cap) (.row n xs) := by
 subst hk
 have hgl : g < w.heap.size := (Array.getElem?_eq_some_iff.1 hg).1
 by_cases h0 : xs.length = 0
 ·obtain rfl := List.length_eq_zero_iff.1 h0
  exact .nil _ _ _ _ _ (fun _ => .inr ⟨g, rfl, hP, hgl, h63, cur, e, hg, hcz⟩)
 ·obtain ⟨hl, fp, f1, f2, f3⟩ := hL
  have hfl := flatten_len hn
  have hcl : ∀ i j, i < xs.length → j < n → i * n + j < xs.length * n := fun i j hi hj => Nat.lt_of_lt_of_le (Nat.add_lt_add_left hj _) (by rw [← Nat.succ_mul]; exact Nat.mul_le_mul_right _ hi)
  refine Holds.row _ w g 0 cap n xs (fun i j => cells.getD (i * n + j) (.bool true)) (fun i j k => i < xs.length ∧ j < n ∧ fp (i * n + j) k) (by omega) hgl hc hP (fun i ds hi => hn ds (List.mem_of_getElem? hi)) (fun i j hi hj => ?_) (fun i j ds d hi hj => ?_)
   (fun i j k hk => hQ k (f1 _ k hk.2.2)) (fun _ i j hk => hQg (f1 _ _ hk.2.2)) (fun _ i j i' j' k hk hk' => ?_) (fun _ => ⟨rfl, h63, cur, e, hg, hcz⟩)
  ·have h1 := hcl i j hi hj
   have h2 : i * n + j < cells.length := by rw [hl, hfl]; exact h1
   rw [Nat.zero_add]
   have e1 : cur.toList[i * n + j]? = some (cells.getD (i * n + j) (.bool true)) := by
    have : cells[i * n + j]? = cur.toList[i * n + j]? := by rw [← hcu, List.getElem?_take, if_pos h1]
    rw [← this]; simp [List.getD, List.getElem?_eq_getElem h2]
   simpa [World.cell?, hg] using e1
  ·have hil := lt_of_some hi
   have hjn : j < n := by rw [← hn ds (List.mem_of_getElem? hi)]; exact lt_of_some hj
   have h1 := hcl i j hil hjn
   have h2 : i * n + j < cells.length := by rw [hl, hfl]; exact h1
   have hd := flatten_get hn hi hjn
   rw [hj] at hd
   refine (f3 (i * n + j) _ d ?_ hd).wide (fun k _ hk => ⟨hil, hjn, hk⟩)
   simp [List.getD, List.getElem?_eq_getElem h2]
  ·have e := f2 trivial _ _ k hk.2.2 hk'.2.2
   have hn0 : 0 < n := by have := hk.2.1; omega
   have d1 : ∀ a c : Nat, c < n → (a * n + c) / n = a ∧ (a * n + c) % n = c := fun a c hc' => by
    rw [Nat.mul_comm]
    exact ⟨by rw [Nat.mul_add_div hn0, Nat.div_eq_of_lt hc', Nat.add_zero], by rw [Nat.mul_add_mod, Nat.mod_eq_of_lt hc']⟩
   have h1 := d1 i j hk.2.1
   have h2 := d1 i' j' hk'.2.1
   rw [e] at h1
   exact ⟨h1.1.symm.trans h2.1, h1.2.symm.trans h2.2⟩
theorem HoldsL.append {S : Prop} {P Q : Nat → Prop} {w : World} {cs es : List Value} {ds fs : List D} (h : HoldsL S P w cs ds) (h' : HoldsL S Q w es fs) (hd : S → ∀ k, P k → ¬ Q k) : HoldsL S (fun k => P k ∨ Q k) w (cs ++ es) (ds ++ fs) := by
 obtain ⟨h1, fp, h2, h3, h4⟩ := h
 obtain ⟨g1, gp, g2, g3, g4⟩ := h'
 refine ⟨by simp [h1, g1], fun j k => if j < cs.length then fp j k else gp (j - cs.length) k, fun j k hk => ?_, fun s j j' k hk hk' => ?_, fun j c d hc hd' => ?_⟩
 ·dsimp only at hk
  split at hk
  ·exact .inl (h2 _ _ hk)
  ·exact .inr (g2 _ _ hk)
 ·dsimp only at hk hk'
  split at hk <;> split at hk'
  ·exact h3 s _ _ _ hk hk'
  ·exact absurd (g2 _ _ hk') (hd s k (h2 _ _ hk))
  ·exact absurd (g2 _ _ hk) (hd s k (h2 _ _ hk'))
  ·have := g3 s _ _ _ hk hk'; omega
 ·rw [List.getElem?_append] at hc hd'
  rw [← h1] at hd'
  split at hc
  ·next hlt => simp only [if_pos hlt]; rw [if_pos hlt] at hd'; exact h4 j c d hc hd'
  ·next hlt => simp only [if_neg hlt]; rw [if_neg hlt] at hd'; exact g4 _ c d hc hd'
theorem run_room {w : World} (T E e0 ty : TypeId) (i : TypeInfo) (ht : Try.prog.underlying T = some (.slice E)) (hi : Try.prog.info? E = some i) (g k cap : Nat) (cur : Array Value) (hg : w.heap[g]? = some (.cells cur e0 (0, 0)))
  (a : Addr) (m c : Nat) (news : List Value) (hl : news.length = m * i.size) (hnews : ∀ j u, news[j]? = some u → w.cell? (a.add j) = some u) (h1 : ∀ u ∈ news, u.oneCell' = true) (hroom : k + m ≤ cap) (hfit : k * i.size + news.length ≤ cur.size) :
  (Builtin.append_ #[T, T] ty #[.slice (some ⟨g, 0, none⟩) k cap, .slice (some a) m c]).run Try.prog w = .ok (.slice (some ⟨g, 0, none⟩) (k + m) cap) (w.setRow g (cur.toList.take (k * i.size) ++ news ++ cur.toList.drop (k * i.size + news.length)).toArray) := by
 have h2 := run_firstCells_some (P := Try.prog) w i.size m a m c news hl hnews
 have h3 := run_storeCells_at Try.prog g (k * i.size) e0 news 0 cur w hg (by simpa using hfit) h1
 simp only [Nat.add_zero] at h3
 simp [Builtin.append_, run_underlying ht, sizeOf, typeInfo, hi, Builtin.lenOf, hroom, h2, Addr.add_lit, h3]
/-- append to a row that may be written. -/
theorem run_appH {w : World} (T E ty : TypeId) (i : TypeInfo) (z : Value) (n bytes : Nat) (ht : Try.prog.underlying T = some (.slice E)) (hi : Try.prog.info? E = some i) (hz : i.zero = some z) (hsize : i.size = n) (hby : i.bytes = bytes) (hzs : z.cells.size = n) (hsz : 0 < n)
    (P Q : Nat → Prop) (a0 : Option Addr) (k cap : Nat) (xs ys : List (List D)) (m c l : Nat) (h : Holds True P w (.slice a0 k cap) (.row n xs)) (ad : Option Addr) (news : List Value)
    (hnews : ∀ a, ad = some a → ∀ j u, news[j]? = some u → w.cell? (a.add j) = some u) (hnone : ad = none → m = 0) (hy : ∀ ds ∈ ys, ds.length = n) (hm : ys.length = m) (hh : HoldsL True Q w news ys.flatten) (hQ : ∀ k, Q k → ¬ P k ∧ k < w.heap.size) (hl : k + m = l) (h63 : l ≤ maxLen) (hbytes : l * bytes ≤ 140737488355328) :
    (∃ ao cv w', (Builtin.append_ #[T, T] ty #[.slice a0 k cap, .slice ad m c]).run Try.prog w = .ok (.slice ao l cv) w' ∧ Holds True (fun k => P k ∨ Q k ∨ k = w.heap.size) w' (.slice ao l cv) (.row n (xs ++ ys)) ∧ Below w.heap.size w w') ∨
    (∃ ao cv w', (Builtin.append_ #[T, T] ty #[.slice a0 k cap, .slice ad m c]).run Try.prog w = .ok (.slice ao l cv) w' ∧ Holds True (fun k => P k ∨ Q k) w' (.slice ao l cv) (.row n (xs ++ ys)) ∧ ∃ g, P g ∧ a0 = some ⟨g, 0, none⟩ ∧ ao = a0 ∧ cv = cap ∧ w.grownBy w' (some g)) := by
  subst hl
  obtain ⟨hk, hn, hrow⟩ := h.open hsz
  subst hk
  cases ad with
  | none =>
    have hm0 := hnone rfl
    subst hm0
    obtain rfl : ys = [] := List.eq_nil_of_length_eq_zero hm
    refine .inl ⟨a0, cap, w, ?_, by rw [List.append_nil]; exact h.wide (fun k _ hk => .inl hk), Below.refl _ _⟩
    rcases hrow with ⟨rfl, rfl⟩ | ⟨g, cur, e, cells, R, rfl, _, _, _, hc, _⟩
    · cases a0 with
      | none => simp [Builtin.append_, run_underlying ht, sizeOf, typeInfo, hi, Builtin.lenOf, Builtin.firstCells]
      | some g => simp [Builtin.append_, run_underlying ht, sizeOf, typeInfo, hi, Builtin.lenOf, Builtin.firstCells, storeCells]
    · simp [Builtin.append_, run_underlying ht, sizeOf, typeInfo, hi, Builtin.lenOf, Builtin.firstCells, hc, storeCells]
  | some ad =>
    have hnews' := hnews ad rfl
    have hll : news.length = m * n := by rw [hh.1, flatten_len hy, hm]
    have h1 : ∀ u ∈ news, u.oneCell' = true := by
      intro u hu
      obtain ⟨j, hj, rfl⟩ := List.getElem_of_mem hu
      obtain ⟨hl', gp, _, _, g3⟩ := hh
      exact (g3 j _ _ (List.getElem?_eq_getElem hj) (List.getElem?_eq_getElem (by omega))).one
    have hyn : ∀ ds ∈ xs ++ ys, ds.length = n := fun ds hds => by
      rcases List.mem_append.1 hds with h | h
      · exact hn ds h
      · exact hy ds h
    have hb63 : ((xs.length + m : Nat) : Int) ≤ 9223372036854775807 := by unfold maxLen at h63; omega
    have fresh_row : ∀ (cells : List Value) (R : Nat → Prop) (old : Nat), HoldsL True R w cells xs.flatten → cells.length = xs.length * n → (∀ k, R k → P k) → old < xs.length + m →
        Holds True (fun k => P k ∨ Q k ∨ k = w.heap.size) (w.drew.alloc (.cells (cells.toArray ++ news.toArray ++ Builtin.zeroCells z.cells (grownCap w (xs.length + m) old E - (xs.length + m))) E)) (.slice (some ⟨w.heap.size, 0, none⟩) (xs.length + m) (grownCap w (xs.length + m) old E)) (.row n (xs ++ ys)) ∧
        Below w.heap.size w (w.drew.alloc (.cells (cells.toArray ++ news.toArray ++ Builtin.zeroCells z.cells (grownCap w (xs.length + m) old E - (xs.length + m))) E)) := by
      intro cells R old hc hcl hR hold
      have hge := grownCap_ge w (xs.length + m) old E
      have hcm : grownCap w (xs.length + m) old E ≤ maxLen := grownCap_le_maxLen w (xs.length + m) old E h63
      have hbel : Below w.heap.size w (w.drew.alloc (.cells (cells.toArray ++ news.toArray ++ Builtin.zeroCells z.cells (grownCap w (xs.length + m) old E - (xs.length + m))) E)) := (below_drewN (Below.refl _ w) 1).alloc (Nat.le_refl _) _
      refine ⟨?_, hbel⟩
      refine holds_mk (Q := fun k => (R k ∨ Q k) ∧ k < w.heap.size) (by simp [hm]) (.inr (.inr rfl)) (heap_alloc_new w.drew _) hge hcm ?_ rfl hyn ?_ (fun k hk => hk.1.elim (fun h => .inl (hR k h)) (fun h => .inr (.inl h))) (fun hk => Nat.lt_irrefl _ hk.2)
      · have hG : ∀ G : Nat, xs.length + m ≤ G → (cells.toArray ++ news.toArray ++ Builtin.zeroCells z.cells (G - (xs.length + m))).size = G * n := fun G hG => by
          simp only [Array.size_append, List.size_toArray, size_zeroCells, hzs, hcl, hll, ← Nat.add_mul]
          rw [show xs.length + m + (G - (xs.length + m)) = G by omega]
        exact hG _ hge
      · have e1 : (cells.toArray ++ news.toArray ++ Builtin.zeroCells z.cells (grownCap w (xs.length + m) old E - (xs.length + m))).toList.take ((xs.length + m) * n) = cells ++ news := by
          have hlen : (cells ++ news).length = (xs.length + m) * n := by rw [List.length_append, hcl, hll, Nat.add_mul]
          generalize Builtin.zeroCells z.cells (grownCap w (xs.length + m) old E - (xs.length + m)) = Z
          simp only [Array.toList_append]
          exact List.take_left' hlen
        rw [e1, List.flatten_append]
        exact ((hc.append hh (fun _ k hk hq => (hQ k hq).1 (hR k hk))).wide (fun k hlt hk => ⟨hk, hlt⟩)).later hbel
    rcases hrow with ⟨rfl, rfl⟩ | ⟨g, cur, e, cells, R, rfl, hPg, hgl, hg, hc, hcx, hcz, hcu, hL, hR, hRg⟩
    · by_cases hm0 : m = 0
      · subst hm0
        obtain rfl : ys = [] := List.eq_nil_of_length_eq_zero hm
        refine .inl ⟨a0, 0, w, ?_, by rw [List.append_nil]; exact h.wide (fun k _ hk => .inl hk), Below.refl _ _⟩
        have hf := run_firstCells_some (P := Try.prog) w i.size 0 ad 0 c [] (by simp) (by simp)
        cases a0 with
        | none => simp [Builtin.append_, run_underlying ht, sizeOf, typeInfo, hi, Builtin.lenOf, hf]
        | some g => simp [Builtin.append_, run_underlying ht, sizeOf, typeInfo, hi, Builtin.lenOf, hf, storeCells]
      · have := fresh_row [] (fun _ => False) 0 (hasL_nil _ _ _) (by simp) (fun _ h => h.elim) (by omega)
        refine .inl ⟨_, _, _, ?_, this⟩
        subst hsize hby
        cases a0 with
        | none =>
          have := run_append_nil (P := Try.prog) w T ty E i z ht hi hz ad m c news hll hnews' (by omega) (by simpa using hb63) (by simp only [List.length_nil, Nat.zero_add] at hbytes; omega)
          simpa using this
        | some g =>
          have := run_append_grow (P := Try.prog) w T ty E i z ht hi hz g 0 0 [] (by simp) (by simp) ad m c news hll hnews' (by omega) (by simpa using hb63) (growslice_fits (by omega) (by simpa using hbytes))
          simpa using this
    · have hcl : cells.length = xs.length * n := by
        have h1 : cur.toList.length = cap * n := by rw [← hcz]; rfl
        rw [← hcu, List.length_take, h1]; exact Nat.min_eq_left (Nat.mul_le_mul_right _ hc)
      by_cases hroom : xs.length + m ≤ cap
      · subst hsize
        have hfit : xs.length * i.size + news.length ≤ cur.size := by rw [hll, hcz, ← Nat.add_mul]; exact Nat.mul_le_mul_right _ hroom
        have hr := run_room T E e ty i ht hi g xs.length cap cur hg ad m c news hll hnews' h1 hroom hfit
        have hg2 := setRow_heap w g cur (cur.toList.take (xs.length * i.size) ++ news ++ cur.toList.drop (xs.length * i.size + news.length)).toArray e _ hg
        have hgr : w.grownBy (w.setRow g (cur.toList.take (xs.length * i.size) ++ news ++ cur.toList.drop (xs.length * i.size + news.length)).toArray) (some g) := ⟨rfl, rfl, rfl, by simp, fun k _ hk => setRow_other w g k _ (fun e => hk (by simp [e]))⟩
        refine .inr ⟨_, _, _, hr, ?_, g, hPg, rfl, rfl, rfl, hgr⟩
        refine holds_mk (Q := fun k => R k ∨ Q k) (by simp [hm]) (.inl hPg) hg2 hroom hcx ?_ rfl hyn ?_ (fun k hk => hk.elim (fun h => .inl (hR k h)) .inr) (fun hk => hk.elim hRg (fun h => (hQ g h).1 hPg))
        · rw [List.size_toArray]
          simp only [List.length_append, List.length_take, List.length_drop, Array.length_toList]
          omega
        · have e1 : (cur.toList.take (xs.length * i.size) ++ news ++ cur.toList.drop (xs.length * i.size + news.length)).toArray.toList.take ((xs.length + m) * i.size) = cells ++ news := by
            rw [hcu]
            have hlen : (cells ++ news).length = (xs.length + m) * i.size := by rw [List.length_append, hcl, hll, Nat.add_mul]
            exact List.take_left' hlen
          rw [e1, List.flatten_append]
          refine (hL.append hh (fun _ k hk hq => (hQ k hq).1 (hR k hk))).same ⟨hgr.size, fun b hb hlt => hgr.block b hlt (fun e => ?_)⟩
          cases e
          exact hb.elim hRg (fun h => (hQ _ h).1 hPg)
      · have := fresh_row cells R cap hL hcl hR (by omega)
        refine .inl ⟨_, _, _, ?_, this⟩
        subst hsize hby
        refine run_append_grow (P := Try.prog) w T ty E i z ht hi hz ⟨g, 0, none⟩ xs.length cap cells hcl (fun j v hj => ?_) ad m c news hll hnews' (by omega) hb63 (growslice_fits (by omega) hbytes)
        have e1 : (⟨g, 0, none⟩ : Addr).add j = ⟨g, j, none⟩ := by unfold Addr.add; split <;> simp_all
        rw [e1]
        rw [← hcu, List.getElem?_take] at hj
        split at hj
        · simpa [World.cell?, hg] using hj
        · cases hj
end Go.Proofs.Ytlhclnhdcenkhaa
namespace Go.Proofs.Ytlhclnhdcenkhaa
structure Pk where
 next : Int
 sends : Lks
structure Tk where
 src : Int
 letter : Int
 next : Int
structure St where
 mode : Int
 waits : List Int
 picks : List Pk
 takes : List Tk
structure Nd where
 start : Int
 states : List St
abbrev Tab := List Nd
def Pk.zero : Pk := ⟨0, []⟩
def Tk.zero : Tk := ⟨0, 0, 0⟩
def St.zero : St := ⟨0, [], [], []⟩
def Nd.zero : Nd := ⟨0, []⟩
instance : Inhabited Pk := ⟨Pk.zero⟩
instance : Inhabited Tk := ⟨Tk.zero⟩
instance : Inhabited St := ⟨St.zero⟩
instance : Inhabited Nd := ⟨Nd.zero⟩
/-- A place: a state, whose node it is, all states of that. -/
structure Pl where
 st : St
 node : Int
 all : List St
def Pl.zero : Pl := ⟨St.zero, 0, []⟩
instance : Inhabited Pl := ⟨Pl.zero⟩
end Go.Proofs.Ytlhclnhdcenkhaa
namespace Go.Proofs.Ytlhclnhdcenkhaa
open Go.RowKit Go.PlainAid
def Pk.d (p : Pk) : List D := [dI p.next, dLinks p.sends]
def Tk.d (t : Tk) : List D := [dI t.src, dI t.letter, dI t.next]
def dPicks (l : List Pk) : D := .row 2 (l.map Pk.d)
def dTakes (l : List Tk) : D := .row 3 (l.map Tk.d)
def St.d (s : St) : List D := [dI s.mode, dInts s.waits, dPicks s.picks, dTakes s.takes]
def dStates (l : List St) : D := .row 4 (l.map St.d)
def Nd.d (x : Nd) : List D := [dI x.start, dStates x.states]
def dTab (M : Tab) : D := .row 2 (M.map Nd.d)
def Pl.d (p : Pl) : List D := [dI p.st.mode, dInts p.st.waits, dPicks p.st.picks, dTakes p.st.takes, dI p.node, dStates p.all]
def dPls (l : List Pl) : D := .row 6 (l.map Pl.d)
theorem slice_of {w : World} {v : Value} {n : Nat} {α : Type} {f : α → List D} {xs : List α} (h : Has w v (.row n (xs.map f))) : ∃ a c, v = .slice a xs.length c := by
 obtain ⟨a, c, rfl⟩ := Holds.len h
 exact ⟨a, c, by rw [List.length_map]⟩
/-- An element's cells, by name. -/
theorem cells_of {w : World} {v : Value} {n i : Nat} {α : Type} {f : α → List D} {xs : List α} {x : α} (h : Has w v (.row n (xs.map f))) (hx : xs[i]? = some x) :
  ∃ b off cap, v = .slice (some ⟨b, off, none⟩) xs.length cap ∧ b < w.heap.size ∧ xs.length ≤ cap ∧ ∃ cs, HasL w cs (f x) ∧ ∀ j c, cs[j]? = some c → w.cell? ⟨b, off + i * n + j, none⟩ = some c := by
 obtain ⟨b, off, cap, rfl, h1, h2, _, cs, h3, h4⟩ := Has.at (i := i) (ds := f x) h (by simp [hx])
 rw [List.length_map] at h2
 exact ⟨b, off, cap, by rw [List.length_map], h1, h2, cs, h3, h4⟩
end Go.Proofs.Ytlhclnhdcenkhaa
namespace Go.Proofs.Ytlhclnhdcenkhaa
open Go.RowKit Go.PlainAid
/-- A place, whatever its numbers: its values by name. -/
def IsPl (w : World) (p : Pl) (v : Value) : Prop := ∃ cs, v = .agg ⟨cs⟩ ∧ HasL w cs p.d
theorem IsPl.later {w w' : World} {p : Pl} {v : Value} (h : IsPl w p v) (hb : Below w.heap.size w w') : IsPl w' p v := by
 obtain ⟨cs, rfl, hc⟩ := h
 exact ⟨cs, rfl, hc.later hb⟩
end Go.Proofs.Ytlhclnhdcenkhaa
namespace Go.Proofs.Ytlhclnhdcenkhaa
open Go.RowKit Go.PlainAid
def fresh (w : World) : Nat → Prop := fun k => w.heap.size ≤ k
end Go.Proofs.Ytlhclnhdcenkhaa
namespace Go.Proofs.Ytlhclnhdcenkhaa
open Go.RowKit Go.PlainAid
end Go.Proofs.Ytlhclnhdcenkhaa
namespace Go.Proofs.Ytlhclnhdcenkhaa
theorem length_le_of_sub {α : Type} [DecidableEq α] : ∀ (l m : List α), l.Nodup → (∀ x ∈ l, x ∈ m) → l.length ≤ m.length
 | [], _, _, _ => by simp
 | x :: t, m, hn, hs => by
  have hx : x ∈ m := hs x (by simp)
  obtain ⟨h1, h2⟩ := List.nodup_cons.1 hn
  have := length_le_of_sub t (m.erase x) h2 (fun y hy => (List.mem_erase_of_ne (show y ≠ x from fun e => h1 (by rw [← e]; exact hy))).2 (hs y (by simp [hy])))
  rw [List.length_erase_of_mem hx] at this
  have := List.length_pos_of_mem hx
  simp; omega
theorem nodup_le {l : List Nat} {N : Nat} (hn : l.Nodup) (h : ∀ x ∈ l, x < N) : l.length ≤ N := by
 have := length_le_of_sub l (List.range N) hn (fun x hx => List.mem_range.2 (h x hx))
 simpa using this
theorem way_in {N : Nat} {L : Lks} (hR : InR N L) {a : Nat} (ha : a < N) : ∀ {k : Nat} {y : Int}, Way L k a y → 0 ≤ y ∧ y < N
 | 0, y, h => by have : (a : Int) = y := h; omega
 | k + 1, y, h => by
  obtain ⟨c, _, hm⟩ := h
  have := hR _ hm
  omega
theorem far_before {L : Lks} {a : Int} : ∀ {k : Nat} {y : Int}, Far L (k + 1) a y → ∃ c, Far L k a c ∧ (c, y) ∈ L := by
 intro k y h
 obtain ⟨c, hc, hm⟩ := h.1
 exact ⟨c, ⟨hc, fun j hj hw => h.2 (j + 1) (by omega) ⟨c, hw, hm⟩⟩, hm⟩
theorem getD_set_same {D : List Int} {z : Nat} {x : Int} (h : z < D.length) : (D.set z x).getD z (-1) = x := by simp [List.getD, h]
theorem getD_set_other {D : List Int} {z y : Nat} {x : Int} (h : y ≠ z) : (D.set z x).getD y (-1) = D.getD y (-1) := by
 simp only [List.getD]; rw [List.getElem?_set_ne (by omega)]
/-- What is known while nodes are found, those of the queue Q, of which the first i are done. -/
structure BFS (N : Nat) (L : Lks) (a : Nat) (D : List Int) (Q : List Nat) (i : Nat) : Prop where
 len : D.length = N
 far : ∀ y, y ∈ Q → y < N ∧ ∃ k : Nat, D.getD y (-1) = (k : Int) ∧ Far L k a y
 ass : ∀ y, y < N → y ∉ Q → D.getD y (-1) = -1
 nodup : Q.Nodup
 src : a ∈ Q
 mono : ∀ m n, m ≤ n → n < Q.length → D.getD (Q.getD m 0) (-1) ≤ D.getD (Q.getD n 0) (-1)
 near : i < Q.length → ∀ j, j < Q.length → D.getD (Q.getD j 0) (-1) ≤ D.getD (Q.getD i 0) (-1) + 1
 done : ∀ j, j < i → j < Q.length → ∀ z : Nat, (((Q.getD j 0 : Nat) : Int), (z : Int)) ∈ L → z ∈ Q ∧ D.getD z (-1) ≤ D.getD (Q.getD j 0) (-1) + 1
theorem mem_getD {Q : List Nat} {x : Nat} (h : x ∈ Q) : ∃ j, j < Q.length ∧ Q.getD j 0 = x := by
 obtain ⟨j, hj, rfl⟩ := List.getElem_of_mem h
 exact ⟨j, hj, by simp [List.getD, hj]⟩
theorem BFS.le {N : Nat} {L : Lks} {a : Nat} {D : List Int} {Q : List Nat} {i : Nat} (h : BFS N L a D Q i) : Q.length ≤ N := nodup_le h.nodup fun x hx => (h.far x hx).1
theorem BFS.start {N : Nat} {L : Lks} {a : Nat} (ha : a < N) : BFS N L a ((List.replicate N (-1)).set a 0) [a] 0 := by
 have hl : ((List.replicate N (-1 : Int)).set a 0).length = N := by simp
 have h0 : ((List.replicate N (-1 : Int)).set a 0).getD a (-1) = 0 := getD_set_same (by simp; omega)
 refine ⟨hl, ?_, ?_, by simp, by simp, ?_, ?_, fun j hj => by omega⟩
 ·intro y hy
  have : y = a := by simpa using hy
  subst this
  exact ⟨ha, 0, h0, rfl, fun j hj => by omega⟩
 ·intro y hy hn
  have : y ≠ a := by simpa using hn
  rw [getD_set_other this]
  simp [List.getD, hy]
 ·intro m n hmn hn
  have : n = 0 := by simpa using hn
  have : m = 0 := by omega
  subst_vars; exact Int.le_refl _
 ·intro _ j hj
  have : j = 0 := by simpa using hj
  subst this; omega
/-- All that is as near as the node that is looked at has been found. -/
theorem BFS.found {N : Nat} {L : Lks} {a : Nat} {D : List Int} {Q : List Nat} {i : Nat} (h : BFS N L a D Q i) (hR : InR N L) (ha : a < N) :
  ∀ (k : Nat) (y : Int), (k : Int) ≤ D.getD (Q.getD i 0) (-1) → Way L k a y → y.toNat ∈ Q ∧ D.getD y.toNat (-1) ≤ k := by
 intro k
 induction k with
 | zero =>
  intro y _ hw
  have e : (a : Int) = y := hw
  subst e
  obtain ⟨_, d, hd, hf⟩ := h.far a h.src
  rw [Int.toNat_natCast]
  refine ⟨h.src, ?_⟩
  have : d = 0 := hf.eq ⟨rfl, fun j hj => by omega⟩
  omega
 | succ k ih =>
  intro y hk hw
  obtain ⟨c, hc, hm⟩ := hw
  obtain ⟨hcQ, hcd⟩ := ih c (by omega) hc
  have hcr := way_in hR ha hc
  have hyr := way_in hR ha (show Way L (k + 1) a y from ⟨c, hc, hm⟩)
  obtain ⟨j, hj, hje⟩ := mem_getD hcQ
  have hji : j < i := by
   rcases Nat.lt_or_ge j i with g | g
   ·exact g
   ·have := h.mono i j g hj
    rw [hje] at this
    omega
  have hm' : (((Q.getD j 0 : Nat) : Int), ((y.toNat : Nat) : Int)) ∈ L := by
   rw [hje, Int.toNat_of_nonneg hcr.1, Int.toNat_of_nonneg hyr.1]; exact hm
  obtain ⟨d1, d2⟩ := h.done j hji hj y.toNat hm'
  rw [hje] at d2
  exact ⟨d1, by omega⟩
theorem BFS.next {N : Nat} {L : Lks} {a : Nat} {D : List Int} {Q : List Nat} {i : Nat} (h : BFS N L a D Q i) (hi : i < Q.length)
  (hall : ∀ z : Nat, (((Q.getD i 0 : Nat) : Int), (z : Int)) ∈ L → z ∈ Q) : BFS N L a D Q (i + 1) := by
 have hnear := h.near hi
 refine ⟨h.len, h.far, h.ass, h.nodup, h.src, h.mono, ?_, ?_⟩
 ·intro h1 j hj
  have := hnear j hj
  have := h.mono i (i + 1) (by omega) h1
  omega
 ·intro j hj hjl z hz
  by_cases hji : j < i
  ·exact h.done j hji hjl z hz
  ·have : j = i := by omega
   subst this
   have hq := hall z hz
   obtain ⟨m, hm, rfl⟩ := mem_getD hq
   exact ⟨hq, hnear m hm⟩
/-- What is known on level k, behind its first i links. -/
structure Lev (N : Nat) (L : Lks) (a : Nat) (D : List Int) (k i : Nat) : Prop where
 len : D.length = N
 val : ∀ y : Nat, y < N → D.getD y (-1) = -1 ∨ ∃ d : Nat, d ≤ k + 1 ∧ D.getD y (-1) = (d : Int) ∧ Far L d a y
 all : ∀ y : Nat, y < N → ∀ d : Nat, d ≤ k → Far L d a y → D.getD y (-1) = (d : Int)
 proc : ∀ m, m < i → m < L.length → D.getD (lk L m).1.toNat (-1) = (k : Int) → D.getD (lk L m).2.toNat (-1) ≠ -1
theorem Lev.start {N : Nat} {L : Lks} {a : Nat} (ha : a < N) : Lev N L a ((List.replicate N (-1)).set a 0) 0 0 := by
 have h0 : ((List.replicate N (-1 : Int)).set a 0).getD a (-1) = 0 := getD_set_same (by simp; omega)
 refine ⟨by simp, ?_, ?_, fun m hm => by omega⟩
 ·intro y hy
  by_cases e : y = a
  ·subst e; exact .inr ⟨0, by omega, h0, rfl, fun j hj => by omega⟩
  ·left; rw [getD_set_other e]; simp [List.getD, hy]
 ·intro y hy d hd hf
  have hd0 : d = 0 := by omega
  subst hd0
  have e : (a : Int) = y := hf.1
  have e' : a = y := by omega
  subst e'; exact h0
theorem Lev.set {N : Nat} {L : Lks} {a : Nat} {D : List Int} {k i : Nat} (h : Lev N L a D k i) (hR : InR N L) (hi : i < L.length)
  (hx : D.getD (lk L i).1.toNat (-1) = (k : Int)) (hy : D.getD (lk L i).2.toNat (-1) < 0) : Lev N L a (D.set (lk L i).2.toNat ((k : Int) + 1)) k (i + 1) := by
 have hr := hR _ (lk_mem hi)
 obtain ⟨x, hxe⟩ : ∃ x : Nat, (lk L i).1 = (x : Int) := ⟨(lk L i).1.toNat, by omega⟩
 obtain ⟨y, hye⟩ : ∃ y : Nat, (lk L i).2 = (y : Int) := ⟨(lk L i).2.toNat, by omega⟩
 have hlk : lk L i = ((x : Int), (y : Int)) := by rw [← hxe, ← hye]
 have hm := lk_mem hi
 rw [hlk] at hr hx hy hm ⊢
 simp only [Int.toNat_natCast] at hx hy hr ⊢
 have hxN : x < N := by omega
 have hyN : y < N := by omega
 have new : (D.set y ((k : Int) + 1)).getD y (-1) = (k : Int) + 1 := getD_set_same (by rw [h.len]; exact hyN)
 have hy1 : D.getD y (-1) = -1 := by
  rcases h.val y hyN with g | ⟨d, _, g, _⟩
  ·exact g
  ·omega
 have hfar : Far L (k + 1) a y := by
  rcases h.val x hxN with g | ⟨d, _, g, hf⟩
  ·omega
  ·have : d = k := by omega
   subst this
   refine ⟨⟨_, hf.1, hm⟩, fun j hj hw => ?_⟩
   obtain ⟨e, he, hfe⟩ := far_of_way hw
   have := h.all y hyN e (by omega) hfe
   omega
 refine ⟨by rw [List.length_set]; exact h.len, ?_, ?_, ?_⟩
 ·intro z hz
  by_cases e : z = y
  ·subst e; exact .inr ⟨k + 1, by omega, by rw [new]; omega, hfar⟩
  ·rw [getD_set_other e]; exact h.val z hz
 ·intro z hz d hd hf
  by_cases e : z = y
  ·subst e
   have := hf.eq hfar
   omega
  ·rw [getD_set_other e]; exact h.all z hz d hd hf
 ·intro m hm hml hk
  by_cases e2 : (lk L m).2.toNat = y
  ·rw [e2, new]; omega
  ·rw [getD_set_other e2]
   by_cases e1 : (lk L m).1.toNat = y
   ·rw [e1, new] at hk; omega
   ·rw [getD_set_other e1] at hk
    by_cases hmi : m < i
    ·exact h.proc m hmi hml hk
    ·have : m = i := by omega
     subst this
     rw [hlk] at e2
     simp at e2
theorem Lev.next {N : Nat} {L : Lks} {a : Nat} {D : List Int} {k i : Nat} (h : Lev N L a D k i) (hR : InR N L) (ha : a < N) (hi : L.length ≤ i) : Lev N L a D (k + 1) 0 := by
 refine ⟨h.len, ?_, ?_, fun m hm => by omega⟩
 ·intro y hy
  rcases h.val y hy with g | ⟨d, h1, h2, h3⟩
  ·exact .inl g
  ·exact .inr ⟨d, by omega, h2, h3⟩
 ·intro y hy d hd hf
  by_cases hdk : d ≤ k
  ·exact h.all y hy d hdk hf
  ·have : d = k + 1 := by omega
   subst this
   obtain ⟨c, hc, hm⟩ := far_before hf
   have hcr := way_in hR ha hc.1
   obtain ⟨m, hml, hme⟩ := mem_lk hm
   have hcN : c.toNat < N := by omega
   have hcd := h.all c.toNat hcN k (Nat.le_refl _) (by rw [Int.toNat_of_nonneg hcr.1]; exact hc)
   have hp := h.proc m (by omega) hml (by rw [hme]; exact hcd)
   rw [hme] at hp
   simp only [Int.toNat_natCast] at hp
   rcases h.val y hy with g | ⟨d, h1, h2, h3⟩
   ·exact absurd g hp
   ·rw [h2, h3.eq hf]
end Go.Proofs.Ytlhclnhdcenkhaa
namespace Go.Proofs.Ytlhclnhdcenkhaa
open Go.RowKit Go.PlainAid
def ivs (D : List Int) : List Value := D.map (Value.int .i64)
def nvs (Q : List Nat) : List Value := Q.map fun n : Nat => Value.int .i64 (n : Int)
theorem ivs_get {D : List Int} {y : Nat} (h : y < D.length) : (ivs D)[y]? = some (.int .i64 (D.getD y (-1))) := by simp [ivs, List.getD, h]
structure DAt (w : World) (T : TypeId) (N : Int) (v : Value) (g : Nat) (wr : World) (D : List Int) : Prop where
 bel : Below w.heap.size w wr
 box : wr.heap[w.heap.size]? = some (.cells #[.int .i64 N, v] T (0, 0))
 dist : wr.heap[g]? = some (.cells (ivs D).toArray 3 (0, 0))
 gt : w.heap.size < g
theorem DAt.lt {w wr : World} {T : TypeId} {N : Int} {v : Value} {g : Nat} {D : List Int} (h : DAt w T N v g wr D) : g < wr.heap.size := lt_of_block h.dist
theorem DAt.size {w wr : World} {T : TypeId} {N : Int} {v : Value} {g : Nat} {D : List Int} (h : DAt w T N v g wr D) : w.heap.size < wr.heap.size := lt_of_block h.box
theorem DAt.cell {w wr : World} {T : TypeId} {N : Int} {v : Value} {g : Nat} {D : List Int} (h : DAt w T N v g wr D) {y : Nat} (hy : y < D.length) : wr.cell? ⟨g, y, none⟩ = some (.int .i64 (D.getD y (-1))) :=
 (cell_of_row wr _ y _ _ (0, 0) h.dist).trans (by simpa using ivs_get hy)
theorem DAt.free {w wr : World} {T : TypeId} {N : Int} {v : Value} {g : Nat} {D : List Int} (h : DAt w T N v g wr D) (y : Nat) : wr.frozen? ⟨g, y, none⟩ = false := by simp [World.frozen?, h.dist]
theorem DAt.grown {w wr w' : World} {T : TypeId} {N : Int} {v : Value} {g : Nat} {D : List Int} (h : DAt w T N v g wr D) {row : Option Nat} (hg : wr.grownBy w' row) (hr : ∀ k, row = some k → g < k) : DAt w T N v g w' D := by
 have hlt := h.lt
 have hsz := h.size
 have hgt := h.gt
 refine ⟨h.bel.grown hg (Nat.le_of_lt hsz) (fun k hk => by have := hr k hk; omega), ?_, ?_, hgt⟩
 ·rw [hg.block _ hsz (fun e => by have := hr _ e.symm; omega)]; exact h.box
 ·rw [hg.block _ hlt (fun e => by have := hr _ e.symm; omega)]; exact h.dist
theorem DAt.below {w wr w' : World} {T : TypeId} {N : Int} {v : Value} {g : Nat} {D : List Int} (h : DAt w T N v g wr D) (hb : Below wr.heap.size wr w') : DAt w T N v g w' D :=
 h.grown (row := none) ⟨hb.os, hb.tape, hb.output, hb.size, fun k hk _ => hb.block k hk⟩ (fun k hk => by cases hk)
theorem DAt.set {w wr : World} {T : TypeId} {N : Int} {v : Value} {g : Nat} {D : List Int} (h : DAt w T N v g wr D) (z : Nat) (x : Int) : DAt w T N v g (wr.setCell ⟨g, z, none⟩ (.int .i64 x)) (D.set z x) := by
 have hgt := h.gt
 refine ⟨h.bel.setCell (by simp; omega) _, ?_, ?_, hgt⟩
 ·rw [Below.heap_setCell _ _ _ _ (by simp; omega)]; exact h.box
 ·rw [setCell_eq_setRow wr g z _ _ (0, 0) _ h.dist, setRow_heap wr g _ _ _ _ h.dist]
  congr 2
  apply Array.ext'
  simp [ivs, List.map_set]
def QAt (g : Nat) (wr : World) (q : Value) (Q : List Nat) : Prop := wr.ownsRow (g + 1) 3 1 q Q.length (nvs Q)
theorem QAt.grown {g : Nat} {wr w' : World} {q : Value} {Q : List Nat} (h : QAt g wr q Q) (hb : Below wr.heap.size wr w') : QAt g w' q Q :=
 h.kept (row := none) ⟨hb.os, hb.tape, hb.output, hb.size, fun k hk _ => hb.block k hk⟩ (by cases hv : q.ownBlock <;> simp)
theorem QAt.set {g : Nat} {wr : World} {q : Value} {Q : List Nat} (h : QAt g wr q Q) (z : Nat) (u : Value) : QAt g (wr.setCell ⟨g, z, none⟩ u) q Q := ownsRow_setCell_below h (by simp) _
theorem QAt.one (g : Nat) (wr : World) (a : Nat) (hg : g < wr.heap.size) : QAt g (wr.alloc (.cells #[.int .i64 (a : Int)] 3)) (.slice (some ⟨wr.heap.size, 0, none⟩) 1 1) [a] :=
 ⟨rfl, .inr ⟨wr.heap.size, 1, _, rfl, by omega, heap_alloc_new wr _, Nat.le_refl _, by unfold maxLen; omega, rfl, by simp [nvs]⟩⟩
theorem DAt.ints {w wr : World} {T : TypeId} {N : Nat} {v : Value} {g : Nat} {D : List Int} (h : DAt w T N v g wr D) (hl : D.length = N) (h1 : 1 ≤ N) : IntsAt wr (.slice (some ⟨g, 0, none⟩) N N) D := by
 refine .inr ⟨g, 0, N, N, rfl, hl, h1, h.lt, Nat.le_refl _, fun i hi => ?_⟩
 rw [Nat.zero_add, h.cell (by omega)]
 simp [List.getD, show i < D.length by omega]
/-- The links that are gone through, apart from the queue and from what is told. -/
def OAt (g : Nat) (wr : World) (q u : Value) (O : List Int) : Prop :=
 (∃ a cap, u = .slice a 0 cap ∧ O = []) ∨
 ∃ b off len cap, u = .slice (some ⟨b, off, none⟩) len cap ∧ O.length = len ∧ 0 < len ∧ b < wr.heap.size ∧ b ≠ g ∧ q.ownBlock ≠ some b ∧ len ≤ cap ∧ ∀ i, i < len → wr.cell? ⟨b, off + i, none⟩ = some (.int .i64 (O.getD i 0))
theorem OAt.set {g : Nat} {wr : World} {q u : Value} {O : List Int} (h : OAt g wr q u O) (z : Nat) (x : Value) : OAt g (wr.setCell ⟨g, z, none⟩ x) q u O := by
 rcases h with h | ⟨b, off, len, cap, h1, h2, h3, h4, h5, h6, h7, h8⟩
 ·exact .inl h
 ·exact .inr ⟨b, off, len, cap, h1, h2, h3, by rw [World.size_setCell]; exact h4, h5, h6, h7, fun i hi => (World.cell?_setCell_other wr _ _ _ (by simp <;> omega)).trans (h8 i hi)⟩
theorem OAt.grown {g gq H : Nat} {wr w1 w' : World} {q u : Value} {O : List Int} {c n : Nat} (h : OAt g wr q u O) (hb : Below wr.heap.size wr w1) (hg : w1.grownBy w' q.ownBlock) (hq : q.ownBlock = some gq ∨ gq = H) (hH : wr.heap.size ≤ H) :
  OAt g w' (.slice (some ⟨gq, 0, none⟩) n c) u O := by
 rcases h with h | ⟨b, off, len, cap, h1, h2, h3, h4, h5, h6, h7, h8⟩
 ·exact .inl h
 ·refine .inr ⟨b, off, len, cap, h1, h2, h3, Nat.lt_of_lt_of_le h4 (Nat.le_trans hb.size hg.size), h5, ?_, h7, fun i hi => ?_⟩
  ·intro e
   have e' : gq = b := by simpa [Value.ownBlock] using e
   rcases hq with hq | hq
   ·exact h6 (by rw [hq, e'])
   ·omega
  ·exact hg.cell ((hb.cell (by exact h4)).trans (h8 i hi)) (fun e => h6 e.symm)
theorem OAt.start {g : Nat} {w0 wr : World} {q u : Value} {O : List Int} (h : IntsAt wr u O) (hf : ∀ k, u.ownBlock = some k → w0.heap.size ≤ k) (hg : g < w0.heap.size) (hq : ∀ k, q.ownBlock = some k → k < w0.heap.size) : OAt g wr q u O := by
 rcases h with h | ⟨b, off, len, cap, rfl, h2, h3, h4, h5, h6⟩
 ·exact .inl h
 ·have := hf b rfl
  exact .inr ⟨b, off, len, cap, rfl, h2, h3, h4, by omega, fun e => by have := hq _ e; omega, h5, h6⟩
end Go.Proofs.Ytlhclnhdcenkhaa
namespace Go.Proofs.Ytlhclnhdcenkhaa
open Go.RowKit Go.PlainAid
end Go.Proofs.Ytlhclnhdcenkhaa
namespace Go.Proofs.Ytlhclnhdcenkhaa
open Go.RowKit Go.PlainAid
structure RAt (w : World) (T : TypeId) (N : Int) (v : Value) (g cap : Nat) (wr : World) (D : List Int) : Prop where
 bel : Below w.heap.size w wr
 box : wr.heap[w.heap.size]? = some (.cells #[.int .i64 N, v] T (0, 0))
 dist : ∃ cur, wr.heap[g]? = some (.cells cur 3 (0, 0)) ∧ cur.toList.take D.length = ivs D
 gt : w.heap.size < g
 le : D.length ≤ cap
theorem RAt.lt {w wr : World} {T : TypeId} {N : Int} {v : Value} {g cap : Nat} {D : List Int} (h : RAt w T N v g cap wr D) : g < wr.heap.size := by obtain ⟨cur, hc, _⟩ := h.dist; exact lt_of_block hc
theorem RAt.size {w wr : World} {T : TypeId} {N : Int} {v : Value} {g cap : Nat} {D : List Int} (h : RAt w T N v g cap wr D) : w.heap.size < wr.heap.size := lt_of_block h.box
theorem RAt.cell {w wr : World} {T : TypeId} {N : Int} {v : Value} {g cap : Nat} {D : List Int} (h : RAt w T N v g cap wr D) {y : Nat} (hy : y < D.length) : wr.cell? ⟨g, y, none⟩ = some (.int .i64 (D.getD y (-1))) := by
 obtain ⟨cur, hc, ht⟩ := h.dist
 rw [cell_of_row wr _ y _ _ (0, 0) hc]
 have := ivs_get hy
 rw [← ht, List.getElem?_take, if_pos hy] at this
 simpa using this
theorem RAt.free {w wr : World} {T : TypeId} {N : Int} {v : Value} {g cap : Nat} {D : List Int} (h : RAt w T N v g cap wr D) (y : Nat) : wr.frozen? ⟨g, y, none⟩ = false := by
 obtain ⟨cur, hc, _⟩ := h.dist
 simp [World.frozen?, hc]
theorem RAt.below {w wr w' : World} {T : TypeId} {N : Int} {v : Value} {g cap : Nat} {D : List Int} (h : RAt w T N v g cap wr D) (hb : Below wr.heap.size wr w') : RAt w T N v g cap w' D := by
 have hlt := h.lt
 have hsz := h.size
 obtain ⟨cur, hc, ht⟩ := h.dist
 exact ⟨below_step (Nat.le_of_lt hsz) h.bel hb, by rw [hb.block _ hsz]; exact h.box, ⟨cur, by rw [hb.block _ hlt]; exact hc, ht⟩, h.gt, h.le⟩
theorem RAt.set {w wr : World} {T : TypeId} {N : Int} {v : Value} {g cap : Nat} {D : List Int} (h : RAt w T N v g cap wr D) (z : Nat) (x : Int) : RAt w T N v g cap (wr.setCell ⟨g, z, none⟩ (.int .i64 x)) (D.set z x) := by
 have hgt := h.gt
 obtain ⟨cur, hc, ht⟩ := h.dist
 refine ⟨h.bel.setCell (by simp; omega) _, ?_, ⟨cur.setIfInBounds z (.int .i64 x), ?_, ?_⟩, hgt, by rw [List.length_set]; exact h.le⟩
 ·rw [Below.heap_setCell _ _ _ _ (by simp; omega)]; exact h.box
 ·rw [setCell_eq_setRow wr g z _ _ (0, 0) _ hc, setRow_heap wr g _ _ _ _ hc]
 ·rw [List.length_set, Array.toList_setIfInBounds, List.take_set, ht]
  simp [ivs, List.map_set]
theorem RAt.ints {w wr : World} {T : TypeId} {N : Nat} {v : Value} {g cap : Nat} {D : List Int} (h : RAt w T N v g cap wr D) (hl : D.length = N) (h1 : 1 ≤ N) : IntsAt wr (.slice (some ⟨g, 0, none⟩) N cap) D := by
 refine .inr ⟨g, 0, N, cap, rfl, hl, h1, h.lt, by rw [← hl]; exact h.le, fun i hi => ?_⟩
 rw [Nat.zero_add, h.cell (by omega)]
 simp [List.getD, show i < D.length by omega]
theorem RAt.start {w w0 wr : World} {T : TypeId} {N : Nat} {v : Value} {g cap : Nat} (hb0 : Below w.heap.size w w0) (bx : w0.heap[w.heap.size]? = some (.cells #[.int .i64 (N : Int), v] T (0, 0))) (s0 : w0.heap.size = w.heap.size + 1)
  (hb : Below w0.heap.size w0 wr) (hown : wr.ownsRow w0.heap.size 3 1 (.slice (some ⟨g, 0, none⟩) N cap) N (ivs (List.replicate N (-1)))) (h1 : 1 ≤ N) : RAt w T N v g cap wr (List.replicate N (-1)) := by
 have hl := hown.lt g rfl
 rcases hown.2 with ⟨_, h0⟩ | ⟨g', cap', cur, hv, hbg, hg, hle, _, _, htake⟩
 ·omega
 ·simp only [Value.slice.injEq, Option.some.injEq, Addr.mk.injEq] at hv
  obtain ⟨⟨rfl, _⟩, _, rfl⟩ := hv
  refine ⟨below_step (by omega) hb0 hb, by rw [hb.block _ (by omega)]; exact bx, ⟨cur, hg, by simpa using htake⟩, by omega, by simpa using hle⟩
end Go.Proofs.Ytlhclnhdcenkhaa
namespace Go.Proofs.Ytlhclnhdcenkhaa
open Go.RowKit Go.PlainAid Go.Maps
theorem zeroInt (w : World) : (zeroValue 3).run Try.prog w = .ok (.int .i64 0) w := by kernel_rfl
def wfp (p : Int × Int) : Prop := (Lit.int .i64 p.1).wf = true ∧ (Lit.int .i64 p.2).wf = true
def klOf (p : Int × Int) : Lit := .string (keyBytes [.int .i64 p.1, .int .i64 p.2])
theorem isKey (p : Int × Int) : WideAt.IsKeyLit (klOf p) := by simp [klOf, WideAt.IsKeyLit]
end Go.Proofs.Ytlhclnhdcenkhaa
set_option linter.unusedSimpArgs false
namespace Go.Proofs.Ytlhclnhdcenkhaa
open Go.RowKit Go.PlainAid Go.Maps
def inN (N x : Int) : Bool := decide (0 ≤ x ∧ x < N)
/-- How often a link is there. -/
def cnt (L : Lks) (p : Int × Int) : Int := (L.count p : Int)
def GoodAt (N : Int) (L : Lks) (i : Nat) : Prop :=
 inN N (lk L i).1 = true ∧ inN N (lk L i).2 = true ∧ (lk L i).1 ≠ (lk L i).2 ∧ cnt L (lk L i) ≤ 1 ∧ cnt L ((lk L i).2, (lk L i).1) ≠ 0
theorem cnt_snoc (M : Lks) (p : Int × Int) : (fun q => if q = p then cnt M p + 1 else cnt M q) = cnt (M ++ [p]) := by
 funext q
 unfold cnt
 rw [List.count_append, List.count_singleton]
 by_cases h : q = p
 ·subst h; simp
 ·rw [if_neg h, if_neg (by simpa using fun e => h e.symm)]; simp
/-- What paired tells. -/
def PairRes (w : World) (N : Int) (L : Lks) (e : Ending) (w' : World) : Prop := ∃ r, e = .returned (.bool r) ∧ (r = true ↔ ∀ i, i < L.length → GoodAt N L i) ∧ Below w.heap.size w w'
theorem PairRes.mk {w w' : World} {N : Int} {L : Lks} {e : Ending} (r : Bool) (h1 : e = .returned (.bool r)) (h2 : r = true ↔ ∀ i, i < L.length → GoodAt N L i) (h3 : Below w.heap.size w w') : PairRes w N L e w' := ⟨r, h1, h2, h3⟩
end Go.Proofs.Ytlhclnhdcenkhaa
namespace Go.Proofs.Ytlhclnhdcenkhaa
open Go.RowKit Go.PlainAid
/-- Links between unlike nodes, none twice, each with the one the other way round. -/
structure RG (N : Int) (L : Lks) : Prop where
 nodup : L.Nodup
 inr : ∀ p ∈ L, 0 ≤ p.1 ∧ p.1 < N ∧ 0 ≤ p.2 ∧ p.2 < N
 irr : ∀ p ∈ L, p.1 ≠ p.2
 sym : ∀ p ∈ L, (p.2, p.1) ∈ L
theorem RG.in {N : Nat} {L : Lks} (h : RG N L) : InR N L := h.inr
theorem way_cons {L : Lks} : ∀ {k : Nat} {a b c : Int}, (a, b) ∈ L → Way L k b c → Way L (k + 1) a c := by
 intro k
 induction k with
 | zero => intro a b c m h; have e : b = c := h; subst e; exact ⟨a, rfl, m⟩
 | succ k ih =>
  intro a b c m h
  obtain ⟨d, hd, hm⟩ := h
  exact ⟨d, ih m hd, hm⟩
theorem way_turn {N : Int} {L : Lks} (h : RG N L) : ∀ {k : Nat} {a b : Int}, Way L k a b → Way L k b a := by
 intro k
 induction k with
 | zero => intro a b hw; exact (show a = b from hw).symm
 | succ k ih =>
  intro a b hw
  obtain ⟨c, hc, hm⟩ := hw
  exact way_cons (h.sym _ hm) (ih hc)
theorem way_trans {L : Lks} {a b : Int} {j : Nat} (h : Way L j a b) : ∀ {k : Nat} {c : Int}, Way L k b c → Way L (j + k) a c := by
 intro k
 induction k with
 | zero => intro c hw; have e : b = c := hw; subst e; exact h
 | succ k ih =>
  intro c hw
  obtain ⟨d, hd, hm⟩ := hw
  exact ⟨d, ih hd, hm⟩
def Conn (N : Int) (L : Lks) : Prop := ∀ y : Nat, (y : Int) < N → ∃ k, Way L k 0 y
def RightG (N : Int) (L : Lks) : Prop := 1 ≤ N ∧ N ≤ 6 ∧ L.length ≤ 30 ∧ RG N L ∧ Conn N L
theorem Conn.all {N : Int} {L : Lks} (h : Conn N L) (hR : RG N L) {a b : Nat} (ha : (a : Int) < N) (hb : (b : Int) < N) : ∃ k, Way L k a b := by
 obtain ⟨j, hj⟩ := h a ha
 obtain ⟨k, hk⟩ := h b hb
 exact ⟨_, way_trans (way_turn hR hj) hk⟩
end Go.Proofs.Ytlhclnhdcenkhaa
namespace Go.Proofs.Ytlhclnhdcenkhaa
open Go.RowKit Go.PlainAid Go.Maps
/-- What Right tells. -/
def RightRes (w : World) (N : Int) (L : Lks) (e : Ending) (w' : World) : Prop := ∃ r, e = .returned (.bool r) ∧ (r = true ↔ RightG N L) ∧ Below w.heap.size w w'
theorem RightRes.mk {w w' : World} {N : Int} {L : Lks} {e : Ending} (r : Bool) (h1 : e = .returned (.bool r)) (h2 : r = true ↔ RightG N L) (h3 : Below w.heap.size w w') : RightRes w N L e w' := ⟨r, h1, h2, h3⟩
theorem RightRes.no {w w' : World} {N : Int} {L : Lks} {e : Ending} (h1 : e = .returned (.bool false)) (h2 : ¬ RightG N L) (h3 : Below w.heap.size w w') : RightRes w N L e w' := ⟨false, h1, ⟨fun h => (by cases h), fun h => absurd h h2⟩, h3⟩
end Go.Proofs.Ytlhclnhdcenkhaa
namespace Go.Proofs.Ytlhclnhdcenkhaa
open Go.RowKit Go.PlainAid
/-- While links, then nodes, are gone through. -/
structure KAt (w : World) (N : Int) (v : Value) (L : Lks) (wr : World) : Prop where
 bel : Below w.heap.size w wr
 b0 : wr.cell? ⟨w.heap.size, 0, none⟩ = some (.int .i64 N)
 b1 : wr.cell? ⟨w.heap.size, 1, none⟩ = some v
 l : LinksAt wr v L
theorem KAt.size {w wr : World} {N : Int} {v : Value} {L : Lks} (h : KAt w N v L wr) : w.heap.size < wr.heap.size := World.block_lt_of_cell? wr _ h.b0
theorem KAt.below {w wr w' : World} {N : Int} {v : Value} {L : Lks} (h : KAt w N v L wr) (hb : Below wr.heap.size wr w') : KAt w N v L w' := by
 have hlt := h.size
 exact ⟨below_step (Nat.le_of_lt hlt) h.bel hb, (hb.cell (by exact hlt)).trans h.b0, (hb.cell (by exact hlt)).trans h.b1, h.l.below hb⟩
end Go.Proofs.Ytlhclnhdcenkhaa
namespace Go.Proofs.Ytlhclnhdcenkhaa
open Go.RowKit Go.PlainAid
theorem ints_eq {xs ys : List Int} (hl : xs.length = ys.length) (h : ∀ j, j < xs.length → xs.getD j 0 = ys.getD j 0) : xs = ys := by
 apply List.ext_getElem hl
 intro i h1 h2
 have := h i h1
 simpa [List.getD, h1, h2] using this
set_option maxHeartbeats 8000000 in
theorem rints_any (v u : Value) (xs ys : List Int) (w : World) (hv : IntsAt w v xs) (hu : IntsAt w u ys) (h1 : xs.length ≤ 1000000) (h2 : ys.length ≤ 1000000) :
  Calls Try.prog 38 #[v, u] w fun e w' => e = .returned (.bool (decide (xs = ys))) ∧ ∃ n, w.drewN n = w' := by
 rcases hv with ⟨a, cap, rfl, rfl⟩ | ⟨b, off, len, cap, rfl, hl, hp, hb, hlc, hc⟩
 ·rcases hu with ⟨a', cap', rfl, rfl⟩ | ⟨b', off', len', cap', rfl, hl', hp', hb', hlc', hc'⟩
  ·go_enter Try.func38, Try.ntmps38
   go_wp2_with fail
   refine wp_loop_rounds 1 ?_
   rw [rounds_succ]
   go_wp2_with fail
   go_ret
   exact ⟨rfl, 0, rfl⟩
  ·have hd : decide (([] : List Int) = ys) = false := decide_eq_false (fun h => by rw [← h] at hl'; simp at hl'; omega)
   have Hd := Lib.hid hd
   have hn : ((0 : Int) != (len' : Int)) = true := by rw [bne_iff_ne]; omega
   clear hc' hl' hd
   go_enter Try.func38, Try.ntmps38
   go_wp2_with fail
   go_ret
   exact ⟨by rw [Hd.out]; rfl, 0, rfl⟩
 ·rcases hu with ⟨a', cap', rfl, rfl⟩ | ⟨b', off', len', cap', rfl, hl', hp', hb', hlc', hc'⟩
  ·have hd : decide (xs = ([] : List Int)) = false := decide_eq_false (fun h => by rw [h] at hl; simp at hl; omega)
   have Hd := Lib.hid hd
   have hn : ((len : Int) != 0) = true := by rw [bne_iff_ne]; omega
   clear hc hl hd
   go_enter Try.func38, Try.ntmps38
   go_wp2_with fail
   go_ret
   exact ⟨by rw [Hd.out]; rfl, 0, rfl⟩
  ·by_cases hll : len = len'
   ·subst hll
    have Hc := Lib.hid hc
    have Hc' := Lib.hid hc'
    have Hl := Lib.hid hl
    have Hl' := Lib.hid hl'
    have hlb : len ≤ 1000000 := by omega
    clear hc hc' hl hl' h1 h2
    go_enter Try.func38, Try.ntmps38
    go_wp2_with fail
    go_loopw [5] (fun i wr => ∃ k : Nat, i = .int .i64 k ∧ k ≤ len ∧ (∀ j, j < k → xs.getD j 0 = ys.getD j 0) ∧ ∃ n, wr = w.drewN n) (fun i _ => len - (intOf i).toNat)
    case atStart => exact ⟨0, rfl, by omega, fun j hj => by omega, 0, rfl⟩
    case round =>
     obtain ⟨k, rfl, hk, hsame, n, rfl⟩ := hrel
     have Hs := Lib.hid hsame
     clear hsame
     by_cases hlt : k < len
     ·have c1 := Hc.out k hlt
      have c2 := Hc'.out k hlt
      by_cases he : xs.getD k 0 = ys.getD k 0
      ·have He := Lib.hid he
       obtain ⟨x, hx⟩ : ∃ x, x = ys.getD k 0 := ⟨_, rfl⟩
       rw [he, ← hx] at c1
       rw [← hx] at c2
       clear he hx
       go_wp2_with fail
       have hlt' : (k : Int) < len := by omega
       go_quiet (fail)
       go_wp2_with fail
       go_roundw
       case rel =>
        refine ⟨k + 1, by go_num, by omega, fun j hj => ?_, _, rfl⟩
        by_cases hjk : j < k
        ·exact Hs.out j hjk
        ·obtain rfl : j = k := by omega
         exact He.out
       case measure => simp [intOf]; omega
      ·obtain ⟨x, hx⟩ : ∃ x, x = xs.getD k 0 := ⟨_, rfl⟩
       obtain ⟨y, hy⟩ : ∃ y, y = ys.getD k 0 := ⟨_, rfl⟩
       have hd : decide (xs = ys) = false := decide_eq_false (fun h => he (by rw [h]))
       have Hd := Lib.hid hd
       rw [← hx, ← hy] at he
       rw [← hx] at c1
       rw [← hy] at c2
       have hn : (x != y) = true := by rw [bne_iff_ne]; exact he
       clear hx hy hd he
       go_wp2_with fail
       have hlt' : (k : Int) < len := by omega
       go_quiet (fail)
       go_wp2_with fail
       go_ret
       exact ⟨by rw [Hd.out]; rfl, _, (World.drewN_drewN _ _ _).symm⟩
     ·go_wp2_with fail
      go_ret
      have : xs = ys := ints_eq (by rw [Hl.out, Hl'.out]) (fun j hj => Hs.out j (by rw [Hl.out] at hj; omega))
      exact ⟨by rw [this]; simp, n, rfl⟩
   ·have hd : decide (xs = ys) = false := decide_eq_false (fun h => by rw [h] at hl; omega)
    have Hd := Lib.hid hd
    have hn : ((len : Int) != (len' : Int)) = true := by rw [bne_iff_ne]; omega
    clear hc hl hd hc' hl' hll
    go_enter Try.func38, Try.ntmps38
    go_wp2_with fail
    go_ret
    exact ⟨by rw [Hd.out]; rfl, 0, rfl⟩
end Go.Proofs.Ytlhclnhdcenkhaa
namespace Go.Proofs.Ytlhclnhdcenkhaa
open Go.RowKit Go.PlainAid
def F3 : Lks := [(0, 1), (0, 2), (1, 0), (1, 2), (2, 0), (2, 1)]
def Ln : Lks := [(0, 1), (1, 0), (1, 2), (2, 1)]
def On : Lks := [(0, 1)]
def F2 : Lks := [(0, 1), (1, 0)]
/-- The three graphs that are asked. -/
structure FAt (w : World) (h : Nat) (v1 v2 v3 : Value) (wr : World) : Prop where
 bel : Below w.heap.size w wr
 ge : w.heap.size ≤ wr.heap.size
 a0 : wr.cell? ⟨h, 0, none⟩ = some (.int .i64 3)
 a1 : wr.cell? ⟨h, 1, none⟩ = some v1
 b0 : wr.cell? ⟨h + 1 + 1, 0, none⟩ = some (.int .i64 3)
 b1 : wr.cell? ⟨h + 1 + 1, 1, none⟩ = some v2
 c0 : wr.cell? ⟨h + 1 + 1 + 1 + 1, 0, none⟩ = some (.int .i64 2)
 c1 : wr.cell? ⟨h + 1 + 1 + 1 + 1, 1, none⟩ = some v3
 l1 : LinksAt wr v1 F3
 l2 : LinksAt wr v2 Ln
 l3 : LinksAt wr v3 On
theorem FAt.below {w wr w' : World} {h : Nat} {v1 v2 v3 : Value} (f : FAt w h v1 v2 v3 wr) (hb : Below wr.heap.size wr w') : FAt w h v1 v2 v3 w' := by
 have h1 := World.block_lt_of_cell? wr _ f.a0
 have h2 := World.block_lt_of_cell? wr _ f.b0
 have h3 := World.block_lt_of_cell? wr _ f.c0
 exact ⟨below_step f.ge f.bel hb, Nat.le_trans f.ge hb.size, (hb.cell h1).trans f.a0, (hb.cell (by exact h1)).trans f.a1, (hb.cell h2).trans f.b0, (hb.cell (by exact h2)).trans f.b1,
  (hb.cell h3).trans f.c0, (hb.cell (by exact h3)).trans f.c1, f.l1.below hb, f.l2.below hb, f.l3.below hb⟩
end Go.Proofs.Ytlhclnhdcenkhaa
namespace Go.Proofs.Ytlhclnhdcenkhaa
open Go.RowKit Go.PlainAid Go.ChangeShapes Go.WideShapes Go.Lib Go.Deep
end Go.Proofs.Ytlhclnhdcenkhaa
namespace Go.Proofs.Ytlhclnhdcenkhaa
open Go.RowKit Go.PlainAid
theorem Box.start (w : World) (N : Int) (v : Value) (T : TypeId) : Box (w.alloc (.cells #[.int .i64 N, v] T)) w.heap.size (.int .i64 N) v :=
 ⟨World.cell?_alloc_at _ _ _ _ rfl, World.cell?_alloc_at _ _ _ _ rfl, World.frozen?_alloc_at _ _ _ _ rfl, World.frozen?_alloc_at _ _ _ _ rfl⟩
end Go.Proofs.Ytlhclnhdcenkhaa
namespace Go.Proofs.Ytlhclnhdcenkhaa
open Go.RowKit Go.PlainAid
end Go.Proofs.Ytlhclnhdcenkhaa
namespace Go.Proofs.Ytlhclnhdcenkhaa
open Go.RowKit Go.PlainAid
/-- As KAt, with three numbers in a box besides. -/
structure K3At (w : World) (N : Int) (v : Value) (L : Lks) (p q s : Int) (wr : World) : Prop extends KAt w N v L wr where
 n0 : wr.cell? ⟨w.heap.size + 1, 0, none⟩ = some (.int .i64 p)
 n1 : wr.cell? ⟨w.heap.size + 1, 1, none⟩ = some (.int .i64 q)
 n2 : wr.cell? ⟨w.heap.size + 1, 2, none⟩ = some (.int .i64 s)
theorem K3At.below {w wr w' : World} {N : Int} {v : Value} {L : Lks} {p q s : Int} (h : K3At w N v L p q s wr) (hb : Below wr.heap.size wr w') : K3At w N v L p q s w' := by
 have h1 := World.block_lt_of_cell? wr _ h.n0
 exact ⟨h.toKAt.below hb, (hb.cell h1).trans h.n0, (hb.cell (by exact h1)).trans h.n1, (hb.cell (by exact h1)).trans h.n2⟩
theorem IntsAt.cell {w : World} {g o n c : Nat} {D : List Int} (h : IntsAt w (.slice (some ⟨g, o, none⟩) n c) D) (hl : D.length = n) {i : Nat} (hi : i < n) : w.cell? ⟨g, o + i, none⟩ = some (.int .i64 (D.getD i (-1))) := by
 rcases h with ⟨s, c', e, hd⟩ | ⟨g', o', n', c', e, hl', _, _, _, hc⟩
 ·rw [hd] at hl; simp at hl; omega
 ·simp only [Value.slice.injEq, Option.some.injEq, Addr.mk.injEq] at e
  obtain ⟨⟨rfl, rfl, _⟩, rfl, rfl⟩ := e
  rw [hc i hi]
  simp [List.getD, show i < D.length by omega]
end Go.Proofs.Ytlhclnhdcenkhaa
namespace Go.Proofs.Ytlhclnhdcenkhaa
open Go.RowKit Go.PlainAid
theorem bool_some (p : Prop) : ∃ r : Bool, r = true ↔ p := by
 by_cases h : p
 ·exact ⟨true, by simp [h]⟩
 ·exact ⟨false, by simp [h]⟩
/-- What the closure linked has captured: the graph's box. -/
structure LinkedAt (w : World) (a : Nat) (L : Lks) : Prop where
 ex : ∃ (N : Int) (v : Value), w.cell? ⟨a, 0, none⟩ = some (.int .i64 N) ∧ w.cell? ⟨a, 1, none⟩ = some v ∧ LinksAt w v L
theorem LinkedAt.below {w w' : World} {a : Nat} {L : Lks} (h : LinkedAt w a L) (hb : Below w.heap.size w w') : LinkedAt w' a L := by
 obtain ⟨N, v, h1, h2, h3⟩ := h.ex
 have := World.block_lt_of_cell? w _ h1
 exact ⟨N, v, (hb.cell this).trans h1, (hb.cell (by exact this)).trans h2, h3.below hb⟩
end Go.Proofs.Ytlhclnhdcenkhaa
namespace Go.Proofs.Ytlhclnhdcenkhaa
open Go.RowKit Go.PlainAid
structure WAt (w : World) (b : Nat) (node : Int) (wb wo wc : Nat) (xs : List Int) (L : Lks) (a : Nat) : Prop where
 c1 : w.cell? ⟨b, 1, none⟩ = some (.slice (some ⟨wb, wo, none⟩) xs.length wc)
 c4 : w.cell? ⟨b, 4, none⟩ = some (.int .i64 node)
 lt : wb < w.heap.size
 ws : ∀ (i : Nat) (x : Int), xs[i]? = some x → w.cell? ⟨wb, wo + i, none⟩ = some (.int .i64 x)
 ln : LinkedAt w a L
theorem WAt.below {w w' : World} {b : Nat} {node : Int} {wb wo wc : Nat} {xs : List Int} {L : Lks} {a : Nat} (h : WAt w b node wb wo wc xs L a) (hb : Below w.heap.size w w') : WAt w' b node wb wo wc xs L a := by
 have := World.block_lt_of_cell? w _ h.c1
 exact ⟨(hb.cell (by exact this)).trans h.c1, (hb.cell (by exact this)).trans h.c4, Nat.lt_of_lt_of_le h.lt hb.size, fun i x hx => (hb.cell (by exact h.lt)).trans (h.ws i x hx), h.ln.below hb⟩
end Go.Proofs.Ytlhclnhdcenkhaa
namespace Go.Proofs.Ytlhclnhdcenkhaa
open Go.RowKit Go.PlainAid
theorem link_cells {w : World} {v : Value} {l : Lks} {i : Nat} {p : Int × Int} (h : Has w v (dLinks l)) (hx : l[i]? = some p) :
  ∃ b off cap, v = .slice (some ⟨b, off, none⟩) l.length cap ∧ b < w.heap.size ∧ l.length ≤ cap ∧ w.cell? ⟨b, off + i * 2, none⟩ = some (.int .i64 p.1) ∧ w.cell? ⟨b, off + i * 2 + 1, none⟩ = some (.int .i64 p.2) := by
 obtain ⟨b, off, cap, rfl, h1, h2, cs, h3, h4⟩ := cells_of (f := fun p : Int × Int => [dI p.1, dI p.2]) h hx
 obtain ⟨c, r, rfl, g1, g⟩ := h3.cons
 obtain ⟨c2, r, rfl, g2, g⟩ := HasL.cons g
 obtain rfl := Holds.val g1
 obtain rfl := Holds.val g2
 exact ⟨b, off, cap, rfl, h1, h2, h4 0 _ rfl, h4 1 _ rfl⟩
end Go.Proofs.Ytlhclnhdcenkhaa
set_option linter.unusedSimpArgs false
namespace Go.Proofs.Ytlhclnhdcenkhaa
open Go.RowKit Go.PlainAid
/-- Whether a take of that node and letter lies ahead. -/
def seenB (l : List Tk) (k f c : Nat) : Bool := (l.take k).any fun u => decide (u.src = f ∧ u.letter = c)
theorem seenB_succ {l : List Tk} {k : Nat} {t : Tk} (ht : l[k]? = some t) (f c : Nat) : seenB l (k + 1) f c = (seenB l k f c || decide (t.src = f ∧ t.letter = c)) := by
 unfold seenB
 rw [List.take_add_one, ht]
 simp [List.any_append]
/-- The array 'seen'. -/
structure Seen (w : World) (b : Nat) (l : List Tk) (k : Nat) : Prop where
 lt : b < w.heap.size
 cells : ∀ f c : Nat, f < 6 → c < 4 → w.cell? ⟨b, f * 4 + c, none⟩ = some (.bool (seenB l k f c))
 open_ : ∀ f c : Nat, f < 6 → c < 4 → w.frozen? ⟨b, f * 4 + c, none⟩ = false
theorem Seen.below {w w' : World} {b : Nat} {l : List Tk} {k : Nat} (h : Seen w b l k) (hb : Below w.heap.size w w') : Seen w' b l k :=
 ⟨Nat.lt_of_lt_of_le h.lt hb.size, fun f c h1 h2 => (hb.cell (by exact h.lt)).trans (h.cells f c h1 h2), fun f c h1 h2 => (hb.frozen (by exact h.lt)).trans (h.open_ f c h1 h2)⟩
theorem Seen.set {w : World} {b : Nat} {l : List Tk} {k : Nat} (h : Seen w b l k) {t : Tk} (ht : l[k]? = some t) {f c : Nat} (hf : f < 6) (hc : c < 4) (h1 : t.src = f) (h2 : t.letter = c) : Seen (w.setCell ⟨b, f * 4 + c, none⟩ (.bool true)) b l (k + 1) := by
 refine ⟨by rw [World.size_setCell]; exact h.lt, fun f' c' hf' hc' => ?_, fun f' c' hf' hc' => by rw [World.frozen?_setCell]; exact h.open_ f' c' hf' hc'⟩
 rw [seenB_succ ht]
 by_cases he : f' = f ∧ c' = c
 ·obtain ⟨rfl, rfl⟩ := he
  rw [World.cell?_setCell_same w _ _ (h.cells f' c' hf hc)]
  simp [h1, h2]
 ·rw [World.cell?_setCell_other w _ _ _ (by intro e; injection e with _ e2 _; exact he (by omega)), h.cells f' c' hf' hc']
  have : ¬ (t.src = f' ∧ t.letter = c') := by rw [h1, h2]; intro e; exact he (by omega)
  simp [this]
theorem zeroCells (w : World) (T : TypeId) (f c : Nat) (hf : f < 6) (hc : c < 4) (vs : List Value) (hv : vs = List.replicate 24 (.bool false)) : (w.alloc (.cells ⟨vs⟩ T)).cell? ⟨w.heap.size, f * 4 + c, none⟩ = some (.bool false) ∧ (w.alloc (.cells ⟨vs⟩ T)).frozen? ⟨w.heap.size, f * 4 + c, none⟩ = false := by
 subst hv
 have h : f * 4 + c < 24 := by omega
 have hs : (⟨List.replicate 24 (Value.bool false)⟩ : Array Value)[f * 4 + c]? = some (.bool false) := by
  rw [List.getElem?_toArray, List.getElem?_replicate, if_pos h]
 exact ⟨(World.cell?_alloc_at _ _ _ _ rfl).trans hs, by rw [frozen?_alloc_cells]; simp [World.frozen?]⟩
end Go.Proofs.Ytlhclnhdcenkhaa
namespace Go.Proofs.Ytlhclnhdcenkhaa
open Go.RowKit Go.PlainAid
structure SbAt (w : World) (b : Nat) (a1 : Option Addr) (c1 : Nat) (ws : List Int) (a3 : Option Addr) (c3 : Nat) (l : List Tk) (a4 : Option Addr) (c4 : Nat) (all : List St) : Prop where
 f1 : w.cell? ⟨b, 1, none⟩ = some (.slice a1 ws.length c1)
 f5 : w.cell? ⟨b, 5, none⟩ = some (.slice a4 all.length c4)
 hw : Has w (.slice a1 ws.length c1) (dInts ws)
 ht : Has w (.slice a3 l.length c3) (dTakes l)
 hs : Has w (.slice a4 all.length c4) (dStates all)
theorem SbAt.below {w w' : World} {b : Nat} {a1 : Option Addr} {c1 : Nat} {ws : List Int} {a3 : Option Addr} {c3 : Nat} {l : List Tk} {a4 : Option Addr} {c4 : Nat} {all : List St} (h : SbAt w b a1 c1 ws a3 c3 l a4 c4 all) (hb : Below w.heap.size w w') : SbAt w' b a1 c1 ws a3 c3 l a4 c4 all := by
 have := World.block_lt_of_cell? w _ h.f1
 exact ⟨(hb.cell (by exact this)).trans h.f1, (hb.cell (by exact this)).trans h.f5, h.hw.later hb, h.ht.later hb, h.hs.later hb⟩
theorem int_cells {w : World} {v : Value} {l : List Int} {i : Nat} {x : Int} (h : Has w v (dInts l)) (hx : l[i]? = some x) :
  ∃ b off cap, v = .slice (some ⟨b, off, none⟩) l.length cap ∧ b < w.heap.size ∧ w.cell? ⟨b, off + i, none⟩ = some (.int .i64 x) := by
 obtain ⟨b, off, cap, rfl, h1, h2, cs, h3, h4⟩ := cells_of (f := fun a : Int => [dI a]) h hx
 obtain ⟨c, r, rfl, g1, g⟩ := h3.cons
 obtain rfl := Holds.val g1
 have := h4 0 _ rfl
 rw [Nat.mul_one, Nat.add_zero] at this
 exact ⟨b, off, cap, rfl, h1, this⟩
end Go.Proofs.Ytlhclnhdcenkhaa
namespace Go.Proofs.Ytlhclnhdcenkhaa
open Go.RowKit Go.PlainAid
end Go.Proofs.Ytlhclnhdcenkhaa
namespace Go.Proofs.Ytlhclnhdcenkhaa
open Go.RowKit Go.PlainAid
/-- A place's box. -/
structure PBox (w : World) (x : Nat) (v0 v1 v2 v3 v4 v5 : Value) : Prop where
 y0 : w.cell? ⟨x, 0, none⟩ = some v0
 y1 : w.cell? ⟨x, 1, none⟩ = some v1
 y2 : w.cell? ⟨x, 2, none⟩ = some v2
 y3 : w.cell? ⟨x, 3, none⟩ = some v3
 y4 : w.cell? ⟨x, 4, none⟩ = some v4
 y5 : w.cell? ⟨x, 5, none⟩ = some v5
theorem PBox.below {w w' : World} {x : Nat} {v0 v1 v2 v3 v4 v5 : Value} (h : PBox w x v0 v1 v2 v3 v4 v5) (hb : Below w.heap.size w w') : PBox w' x v0 v1 v2 v3 v4 v5 := by
 have k := fun (p : Addr) (v : Value) (e : w.cell? p = some v) => (hb.cell (World.block_lt_of_cell? w _ e)).trans e
 exact ⟨k _ _ h.y0, k _ _ h.y1, k _ _ h.y2, k _ _ h.y3, k _ _ h.y4, k _ _ h.y5⟩
theorem PBox.new (w : World) (v0 v1 v2 v3 v4 v5 : Value) (T : TypeId) : PBox (w.alloc (.cells #[v0, v1, v2, v3, v4, v5] T)) w.heap.size v0 v1 v2 v3 v4 v5 :=
 ⟨World.cell?_alloc_at _ _ _ _ rfl, World.cell?_alloc_at _ _ _ _ rfl, World.cell?_alloc_at _ _ _ _ rfl, World.cell?_alloc_at _ _ _ _ rfl, World.cell?_alloc_at _ _ _ _ rfl, World.cell?_alloc_at _ _ _ _ rfl⟩
end Go.Proofs.Ytlhclnhdcenkhaa
namespace Go.Proofs.Ytlhclnhdcenkhaa
open Go.RowKit Go.PlainAid
theorem run_store_fn (w : World) (a : Addr) (m : Mode) (fn : Fn) (first captured : Array Value) : (store a (.func fn first captured) m).run Try.prog w = stored Try.prog w a (.func fn first captured) m := run_store Try.prog w a _ m rfl
theorem run_store_nilFn (w : World) (a : Addr) (m : Mode) : (store a .nilFunc m).run Try.prog w = stored Try.prog w a .nilFunc m := run_store Try.prog w a _ m rfl
attribute [go_sem] run_store_fn run_store_nilFn
end Go.Proofs.Ytlhclnhdcenkhaa
set_option linter.unusedSimpArgs false
namespace Go.Proofs.Ytlhclnhdcenkhaa
open Go.RowKit Go.PlainAid
end Go.Proofs.Ytlhclnhdcenkhaa
namespace Go.Proofs.Ytlhclnhdcenkhaa
open Go.RowKit Go.PlainAid
theorem link_at {w : World} {sa : Option Addr} {sl sc i : Nat} {l : Lks} {p : Int × Int} (h : Has w (.slice sa sl sc) (dLinks l)) (hx : l[i]? = some p) : ∃ b o, sa = some ⟨b, o, none⟩ ∧ w.cell? ⟨b, o + i * 2, none⟩ = some (.int .i64 p.1) ∧ w.cell? ⟨b, o + i * 2 + 1, none⟩ = some (.int .i64 p.2) := by
 obtain ⟨b', o', cap', e, _, _, y0, y1⟩ := link_cells h hx
 simp only [Value.slice.injEq] at e
 exact ⟨b', o', e.1, y0, y1⟩
theorem int_at {w : World} {sa : Option Addr} {sl sc i : Nat} {l : List Int} {p : Int} (h : Has w (.slice sa sl sc) (dInts l)) (hx : l[i]? = some p) : ∃ b o, sa = some ⟨b, o, none⟩ ∧ w.cell? ⟨b, o + i, none⟩ = some (.int .i64 p) := by
 obtain ⟨b', o', cap', e, _, y0⟩ := int_cells h hx
 simp only [Value.slice.injEq] at e
 exact ⟨b', o', e.1, y0⟩
end Go.Proofs.Ytlhclnhdcenkhaa
namespace Go.Proofs.Ytlhclnhdcenkhaa
open Go.RowKit Go.PlainAid
theorem OpenRow.frozen {w : World} {b cap n : Nat} (h : OpenRow w b cap n) (o : Nat) : w.frozen? ⟨b, o, none⟩ = false := by
 obtain ⟨_, cur, e, h1, _⟩ := h
 simp [World.frozen?, h1]
/-- Cells of a block, by their place. -/
def BoxAt (h : Nat) (vs : List Value) (wr : World) : Prop := ∀ (i : Nat) (v : Value), vs[i]? = some v → wr.cell? ⟨h, i, none⟩ = some v
theorem BoxAt.below {h : Nat} {vs : List Value} {wr w' : World} (g : BoxAt h vs wr) (hb : Below wr.heap.size wr w') : BoxAt h vs w' := fun i v e => (hb.cell (World.block_lt_of_cell? wr _ (g i v e))).trans (g i v e)
theorem BoxAt.same {P : Nat → Prop} {h : Nat} {vs : List Value} {wr w' : World} (g : BoxAt h vs wr) (hs : SameOn P wr w') (hp : P h) : BoxAt h vs w' := fun i v e => (hs.cell (a := ⟨h, i, none⟩) hp (World.block_lt_of_cell? wr _ (g i v e))).trans (g i v e)
theorem below_step' {a b c : World} (h : Below a.heap.size a b) (h' : Below b.heap.size b c) : Below a.heap.size a c := below_step h.size h h'
theorem boxAt_new (w : World) (vs : List Value) (T : TypeId) : BoxAt w.heap.size vs (w.alloc (.cells vs.toArray T)) := fun i v e => (World.cell?_alloc_at _ _ _ _ rfl).trans (by simpa using e)
end Go.Proofs.Ytlhclnhdcenkhaa
namespace Go.Proofs.Ytlhclnhdcenkhaa
open Go.RowKit Go.PlainAid
theorem Holds.elem {P : Nat → Prop} {w : World} {b off len cap n i : Nat} {xs : List (List D)} {ds : List D} (h : Holds True P w (.slice (some ⟨b, off, none⟩) len cap) (.row n xs)) (hi : xs[i]? = some ds) :
  ∃ (Q : Nat → Prop) (cs : List Value), off = 0 ∧ P b ∧ OpenRow w b cap n ∧ b < w.heap.size ∧ ds.length = n ∧ (∀ (j : Nat) (c : Value), cs[j]? = some c → w.cell? ⟨b, i * n + j, none⟩ = some c) ∧ (∀ k, Q k → P k) ∧ ¬ Q b ∧ HoldsL True Q w cs ds ∧
   ∀ (w2 : World) (cs' : List Value) (ds' : List D) (Q' : Nat → Prop), SameOn (fun k => P k ∧ k ≠ b ∧ ¬ Q k) w w2 → OpenRow w2 b cap n → ds'.length = n → (∀ (j : Nat) (c : Value), cs'[j]? = some c → w2.cell? ⟨b, i * n + j, none⟩ = some c) →
    (∀ (o : Nat) (c : Value), (o < i * n ∨ i * n + n ≤ o) → w.cell? ⟨b, o, none⟩ = some c → w2.cell? ⟨b, o, none⟩ = some c) → HoldsL True Q' w2 cs' ds' → (∀ k, Q' k → k ≠ b ∧ (Q k ∨ ¬ P k)) →
    Holds True (fun k => P k ∨ Q' k) w2 (.slice (some ⟨b, off, none⟩) len cap) (.row n (xs.set i ds')) := by
 cases h with
 | nil => simp at hi
 | row _ _ _ _ _ _ _ cs fp h0 hb hc hP hn hcell hrec hfp hb2 hdj hop =>
  obtain ⟨rfl, hO⟩ := hop trivial
  have hil := lt_of_some hi
  have hdl := hn i ds hi
  refine ⟨fun k => ∃ j, fp i j k, (List.range n).map (cs i), rfl, hP, hO, hb, hdl, fun j c hj => ?_, fun k ⟨j, hk⟩ => hfp i j k hk, fun ⟨j, hk⟩ => hb2 trivial i j hk, ⟨by simp [hdl], fun j k => fp i j k, fun j k hk => ⟨j, hk⟩, fun _ j j' k h1 h2 => (hdj trivial i j i j' k h1 h2).2, fun j c d hj hd => ?_⟩, ?_⟩
  ·have hjn : j < n := by have := lt_of_some hj; simpa using this
   rw [List.getElem?_map, List.getElem?_range hjn] at hj
   simp at hj
   subst hj
   simpa using hcell i j hil hjn
  ·have hjn : j < n := by rw [← hdl]; exact lt_of_some hd
   rw [List.getElem?_map, List.getElem?_range hjn] at hj
   simp at hj
   subst hj
   exact hrec i j ds d hi hd
  intro w2 cs' ds' Q' hs hO2 hl' hc2 hco hL hQ
  obtain ⟨gl, gp, g1, g2, g3⟩ := hL
  have hlen : (xs.set i ds').length = xs.length := by simp
  have hget : ∀ (a : Nat) (e : List D), (xs.set i ds')[a]? = some e → (a = i ∧ e = ds') ∨ (a ≠ i ∧ xs[a]? = some e) := fun a e he => by
   rw [List.getElem?_set] at he
   split at he
   ·next h => subst h; (try rw [if_pos hil] at he); cases he; exact .inl ⟨rfl, rfl⟩
   ·next h => exact .inr ⟨fun e => h e.symm, he⟩
  have hkeep : ∀ a c, a ≠ i → SameOn (fp a c) w w2 := fun a c hne => hs.sub fun k hk => ⟨hfp a c k hk, fun e => hb2 trivial a c (by rw [← e]; exact hk), fun ⟨j, h3⟩ => hne (hdj trivial a c i j k hk h3).1⟩
  have hb2' : b < w2.heap.size := by obtain ⟨_, cur, e0, hg, _⟩ := hO2; exact (Array.getElem?_eq_some_iff.1 hg).1
  rw [← hlen]
  refine Holds.row _ w2 b 0 cap n _ (fun a c => if a = i then cs'.getD c (.bool true) else cs a c) (fun a c k => if a = i then gp c k else fp a c k) (by rw [hlen]; exact h0) hb2' (by rw [hlen]; exact hc) (.inl hP)
   (fun a e he => ?_) (fun a c ha hcc => ?_) (fun a c e d2 h1 h2 => ?_) (fun a c k hk => ?_) (fun _ a c hk => ?_) (fun _ a c a' c' k hk hk' => ?_) (fun _ => ⟨rfl, hO2⟩)
  ·rcases hget a e he with ⟨_, rfl⟩ | ⟨_, he⟩
   ·exact hl'
   ·exact hn a e he
  ·rw [hlen] at ha
   rw [Nat.zero_add]
   by_cases e : a = i
   ·subst e
    rw [if_pos rfl]
    have hcl : c < cs'.length := by rw [gl, hl']; exact hcc
    exact hc2 c _ (by simp [List.getD, List.getElem?_eq_getElem hcl])
   ·rw [if_neg e]
    refine hco _ _ ?_ (by simpa using hcell a c ha hcc)
    rcases Nat.lt_or_gt_of_ne e with h | h
    ·left
     have : a * n + n ≤ i * n := by rw [← Nat.succ_mul]; exact Nat.mul_le_mul_right n h
     omega
    ·right
     have : i * n + n ≤ a * n := by rw [← Nat.succ_mul]; exact Nat.mul_le_mul_right n h
     omega
  ·rcases hget a e h1 with ⟨rfl, rfl⟩ | ⟨hne, h1⟩
   ·simp only [if_true]
    have hcl : c < cs'.length := by rw [gl]; exact lt_of_some h2
    exact g3 c _ d2 (by simp [List.getD, List.getElem?_eq_getElem hcl]) h2
   ·simp only [if_neg hne]
    exact (hrec a c e d2 h1 h2).same (hkeep a c hne)
  ·split at hk
   ·exact .inr (g1 _ _ hk)
   ·exact .inl (hfp a c k hk)
  ·split at hk
   ·exact (hQ _ (g1 _ _ hk)).1 rfl
   ·exact hb2 trivial a c hk
  ·have no : ∀ a c c2, a ≠ i → fp a c k → gp c2 k → False := fun a c c2 hne hk hg => by
    rcases (hQ k (g1 _ _ hg)).2 with ⟨j, h⟩ | h
    ·exact hne (hdj trivial a c i j k hk h).1
    ·exact h (hfp a c k hk)
   split at hk <;> split at hk'
   ·next h1 h2 => exact ⟨h1.trans h2.symm, g2 trivial _ _ _ hk hk'⟩
   ·next h1 h2 => exact (no a' c' c h2 hk' hk).elim
   ·next h1 h2 => exact (no a c c' h1 hk hk').elim
   ·exact hdj trivial a c a' c' k hk hk'
/-- append to a row that may be written: what it leaves. -/
theorem run_appK {w : World} (T E ty : TypeId) (i : TypeInfo) (z : Value) (n bytes : Nat) (ht : Try.prog.underlying T = some (.slice E)) (hi : Try.prog.info? E = some i) (hz : i.zero = some z) (hsize : i.size = n) (hby : i.bytes = bytes) (hzs : z.cells.size = n) (hsz : 0 < n)
  (P Q : Nat → Prop) (wb : World) (hwb : Below wb.heap.size wb w) (hPb : ∀ k, P k → wb.heap.size ≤ k) (a0 : Option Addr) (k cap : Nat) (xs ys : List (List D)) (m c l : Nat) (h : Holds True P w (.slice a0 k cap) (.row n xs)) (ad : Option Addr) (news : List Value)
  (hnews : ∀ a, ad = some a → ∀ j u, news[j]? = some u → w.cell? (a.add j) = some u) (hnone : ad = none → m = 0) (hy : ∀ ds ∈ ys, ds.length = n) (hm : ys.length = m) (hh : HoldsL True Q w news ys.flatten) (hQ : ∀ k, Q k → ¬ P k ∧ k < w.heap.size) (hl : k + m = l) (h63 : l ≤ maxLen) (hbytes : l * bytes ≤ 140737488355328) :
  ∃ ao cv w', (Builtin.append_ #[T, T] ty #[.slice a0 k cap, .slice ad m c]).run Try.prog w = .ok (.slice ao l cv) w' ∧ Holds True (fun k => P k ∨ Q k ∨ k = w.heap.size) w' (.slice ao l cv) (.row n (xs ++ ys)) ∧ SameOn (fun k => ¬ P k) w w' ∧ Below wb.heap.size wb w' := by
 rcases run_appH T E ty i z n bytes ht hi hz hsize hby hzs hsz P Q a0 k cap xs ys m c l h ad news hnews hnone hy hm hh hQ hl h63 hbytes with ⟨ao, cv, w', h1, h2, h3⟩ | ⟨ao, cv, w', h1, h2, g, hg, _, _, _, hgr⟩
 ·exact ⟨ao, cv, w', h1, h2, .of_below h3, below_step' hwb h3⟩
 ·exact ⟨ao, cv, w', h1, h2.wide (fun k _ hk => hk.elim .inl (fun h => .inr (.inl h))), ⟨hgr.size, fun b hb hlt => hgr.block b hlt (fun e => by cases e; exact hb hg)⟩, hwb.grown hgr hwb.size (fun k hk => by cases hk; exact hPb _ hg)⟩
theorem appLK {ops : Array Oper} {rest : List Oper} {o : Oper} {a : Act} {R : Exit → Act → World → Prop} {w : World} (hgd : o.guard = none) (s x : Operand) (T E : TypeId) (i : TypeInfo) (z : Value) (n bytes : Nat)
  (ho : o.op = .call { callee := .builtin .append, args := #[s, x], argTypes := #[T, T] }) (ht : Try.prog.underlying T = some (.slice E)) (hi : Try.prog.info? E = some i) (hz : i.zero = some z) (hsize : i.size = n) (hby : i.bytes = bytes) (hzs : z.cells.size = n) (hsz : 0 < n)
  (P Q : Nat → Prop) (wb : World) (hwb : Below wb.heap.size wb w) (hPb : ∀ k, P k → wb.heap.size ≤ k) (a0 : Option Addr) (k cap : Nat) (xs ys : List (List D)) (m c l : Nat) (hs : a.eval s = .slice a0 k cap) (h : Holds True P w (.slice a0 k cap) (.row n xs)) (ad : Option Addr) (hx : a.eval x = .slice ad m c) (news : List Value)
  (hnews : ∀ a, ad = some a → ∀ j u, news[j]? = some u → w.cell? (a.add j) = some u) (hnone : ad = none → m = 0) (hy : ∀ ds ∈ ys, ds.length = n) (hm : ys.length = m) (hh : HoldsL True Q w news ys.flatten) (hQ : ∀ k, Q k → ¬ P k ∧ k < w.heap.size) (hl : k + m = l) (h63 : l ≤ maxLen) (hbytes : l * bytes ≤ 140737488355328)
  (K : ∀ ao cv w', Holds True (fun k => P k ∨ Q k ∨ k = w.heap.size) w' (.slice ao l cv) (.row n (xs ++ ys)) → SameOn (fun k => ¬ P k) w w' → Below wb.heap.size wb w' → wpList Try.prog ops R rest (a.put o.dst (.slice ao l cv)) w') : wpList Try.prog ops R (o :: rest) a w := by
 obtain ⟨ao, cv, w', hr, h1, h2, h3⟩ := run_appK T E o.type i z n bytes ht hi hz hsize hby hzs hsz P Q wb hwb hPb a0 k cap xs ys m c l h ad news hnews hnone hy hm hh hQ hl h63 hbytes
 refine wpList_plain hgd fun K' hK => ?_
 unfold Oper.wp execOp
 simp only [ho, resolve, invoke, builtin, Sem.run_bind, Sem.run_pure, Result.andThen_ok, List.map_toArray, List.map_cons, List.map_nil, hs, hx, hr]
 exact hK _ _ (K ao cv w' h1 h2 h3)
theorem appSK {ops : Array Oper} {o : Oper} {a : Act} {K : Act → World → Prop} {R : Exit → Act → World → Prop} {F : Prop} {w : World} (hgd : o.guard = none) (s x : Operand) (T E : TypeId) (i : TypeInfo) (z : Value) (n bytes : Nat)
  (ho : o.op = .call { callee := .builtin .append, args := #[s, x], argTypes := #[T, T] }) (ht : Try.prog.underlying T = some (.slice E)) (hi : Try.prog.info? E = some i) (hz : i.zero = some z) (hsize : i.size = n) (hby : i.bytes = bytes) (hzs : z.cells.size = n) (hsz : 0 < n)
  (P Q : Nat → Prop) (wb : World) (hwb : Below wb.heap.size wb w) (hPb : ∀ k, P k → wb.heap.size ≤ k) (a0 : Option Addr) (k cap : Nat) (xs ys : List (List D)) (m c l : Nat) (hs : a.eval s = .slice a0 k cap) (h : Holds True P w (.slice a0 k cap) (.row n xs)) (ad : Option Addr) (hx : a.eval x = .slice ad m c) (news : List Value)
  (hnews : ∀ a, ad = some a → ∀ j u, news[j]? = some u → w.cell? (a.add j) = some u) (hnone : ad = none → m = 0) (hy : ∀ ds ∈ ys, ds.length = n) (hm : ys.length = m) (hh : HoldsL True Q w news ys.flatten) (hQ : ∀ k, Q k → ¬ P k ∧ k < w.heap.size) (hl : k + m = l) (h63 : l ≤ maxLen) (hbytes : l * bytes ≤ 140737488355328)
  (H : ∀ ao cv w', Holds True (fun k => P k ∨ Q k ∨ k = w.heap.size) w' (.slice ao l cv) (.row n (xs ++ ys)) → SameOn (fun k => ¬ P k) w w' → Below wb.heap.size wb w' → K (a.put o.dst (.slice ao l cv)) w') :
  if Region.wanted o (yielded ops a.tmps) = true then Oper.wp Try.prog o a w K R else F := by
 have hw : Region.wanted o (yielded ops a.tmps) = true := by simp [Region.wanted, hgd]
 rw [if_pos hw]
 obtain ⟨ao, cv, w', hr, h1, h2, h3⟩ := run_appK T E o.type i z n bytes ht hi hz hsize hby hzs hsz P Q wb hwb hPb a0 k cap xs ys m c l h ad news hnews hnone hy hm hh hQ hl h63 hbytes
 unfold Oper.wp execOp
 simp only [ho, resolve, invoke, builtin, Sem.run_bind, Sem.run_pure, Result.andThen_ok, List.map_toArray, List.map_cons, List.map_nil, hs, hx, hr]
 exact H ao cv w' h1 h2 h3
theorem zero_holdsL (P : Nat → Prop) (w : World) : HoldsL True P w [.int .i64 0, .slice none 0 0, .slice none 0 0, .slice none 0 0] St.zero.d := by
 refine ⟨rfl, fun _ _ => False, fun _ _ h => h.elim, fun _ _ _ _ h => h.elim, fun j c d hc hd => ?_⟩
 match j, hc, hd with
 | 0, hc, hd => simp [St.d] at hc hd; subst hc hd; exact has_int _ _ _ _
 | 1, hc, hd => simp [St.d] at hc hd; subst hc hd; exact .nil _ _ _ _ _
 | 2, hc, hd => simp [St.d] at hc hd; subst hc hd; exact .nil _ _ _ _ _
 | 3, hc, hd => simp [St.d] at hc hd; subst hc hd; exact .nil _ _ _ _ _
 | j + 4, hc, hd => simp at hc
/-- Cells of a row made at once. -/
theorem news_new {w : World} {vs : List Value} {T : TypeId} : ∀ a, some (⟨w.heap.size, 0, none⟩ : Addr) = some a → ∀ j u, vs[j]? = some u → (w.alloc (.cells vs.toArray T)).cell? (a.add j) = some u := fun a ha j u hj => by
 cases ha
 rw [Go.WideShapes.add_plain, Nat.zero_add, World.cell?_alloc_at _ _ _ _ rfl, List.getElem?_toArray]
 exact hj
end Go.Proofs.Ytlhclnhdcenkhaa
namespace Go.Proofs.Ytlhclnhdcenkhaa
open Go.RowKit Go.PlainAid
/-- append to a row that has nothing, and no room. -/
theorem run_app0 {w : World} (T E ty : TypeId) (i : TypeInfo) (z : Value) (n bytes : Nat) (ht : Try.prog.underlying T = some (.slice E)) (hi : Try.prog.info? E = some i) (hz : i.zero = some z) (hsize : i.size = n) (hby : i.bytes = bytes) (hzs : z.cells.size = n) (hsz : 0 < n)
  (Q : Nat → Prop) (a0 : Option Addr) (ys : List (List D)) (m c : Nat) (ad : Option Addr) (news : List Value)
  (hnews : ∀ a, ad = some a → ∀ j u, news[j]? = some u → w.cell? (a.add j) = some u) (hnone : ad = none → m = 0) (hy : ∀ ds ∈ ys, ds.length = n) (hm : ys.length = m) (hh : HoldsL True Q w news ys.flatten) (hQ : ∀ k, Q k → k < w.heap.size) (h63 : m ≤ maxLen) (hbytes : m * bytes ≤ 140737488355328) :
  ∃ ao cv w', (Builtin.append_ #[T, T] ty #[.slice a0 0 0, .slice ad m c]).run Try.prog w = .ok (.slice ao m cv) w' ∧ Holds True (fun k => Q k ∨ k = w.heap.size) w' (.slice ao m cv) (.row n ys) ∧ Below w.heap.size w w' := by
 have h0 : Holds True (fun _ => False) w (.slice a0 0 0) (.row n []) := .nil _ _ _ _ _
 rcases run_appH T E ty i z n bytes ht hi hz hsize hby hzs hsz (fun _ => False) Q a0 0 0 [] ys m c m h0 ad news hnews hnone hy hm hh (fun k hk => ⟨fun h => h, hQ k hk⟩) (Nat.zero_add m) h63 hbytes with ⟨ao, cv, w', h1, h2, h3⟩ | ⟨ao, cv, w', h1, h2, g, hg, _⟩
 ·exact ⟨ao, cv, w', h1, h2.wide (fun k _ hk => by rcases hk with h | h | h; exact h.elim; exact .inl h; exact .inr h), h3⟩
 ·exact hg.elim
/-- At a step of a drawn region: what is appended are plain things. -/
theorem appS0 {ops : Array Oper} {o : Oper} {a : Act} {K : Act → World → Prop} {Q : Exit → Act → World → Prop} {F : Prop} {w : World} (hgd : o.guard = none) (s x : Operand) (T E : TypeId) (i : TypeInfo) (z : Value) (n bytes : Nat)
  (ho : o.op = .call { callee := .builtin .append, args := #[s, x], argTypes := #[T, T] }) (ht : Try.prog.underlying T = some (.slice E)) (hi : Try.prog.info? E = some i) (hz : i.zero = some z) (hsize : i.size = n) (hby : i.bytes = bytes) (hzs : z.cells.size = n) (hsz : 0 < n)
  (a0 : Option Addr) (ys : List (List D)) (m c : Nat) (hs : a.eval s = .slice a0 0 0) (ad : Option Addr) (hx : a.eval x = .slice ad m c) (hv : Has w (.slice ad m c) (.row n ys)) (hy : ∀ ds ∈ ys, ds.length = n) (hf : Flat ys.flatten) (h63 : m ≤ maxLen) (hbytes : m * bytes ≤ 140737488355328)
  (H : ∀ ao cv w', Holds True (fun k => w.heap.size ≤ k) w' (.slice ao m cv) (.row n ys) → Below w.heap.size w w' → K (a.put o.dst (.slice ao m cv)) w') :
  if Region.wanted o (yielded ops a.tmps) = true then Oper.wp Try.prog o a w K Q else F := by
 have hw : Region.wanted o (yielded ops a.tmps) = true := by simp [Region.wanted, hgd]
 rw [if_pos hw]
 obtain ⟨hm, hnone, news, hnews, hh⟩ := newsOf hv hy hf
 obtain ⟨ao, cv, w', hr, h1, h2⟩ := run_app0 T E o.type i z n bytes ht hi hz hsize hby hzs hsz (fun _ => False) a0 ys m c ad news hnews hnone hy hm (hh _ _) (fun _ h => h.elim) h63 hbytes
 unfold Oper.wp execOp
 simp only [ho, resolve, invoke, builtin, Sem.run_bind, Sem.run_pure, Result.andThen_ok, List.map_toArray, List.map_cons, List.map_nil, hs, hx, hr]
 exact H ao cv w' (h1.wide (fun k _ hk => by rcases hk with h | h; exact h.elim; exact Nat.le_of_eq h.symm)) h2
/-- A cell of a row of numbers, to be written. -/
theorem Holds.slot1 {P : Nat → Prop} {w : World} {a : Option Addr} {len cap i : Nat} {xs : List Int} {x : Int} (h : Holds True P w (.slice a len cap) (dInts xs)) (hx : xs[i]? = some x) :
  ∃ b, a = some ⟨b, 0, none⟩ ∧ P b ∧ b < w.heap.size ∧ w.cell? ⟨b, i, none⟩ = some (.int .i64 x) ∧ w.frozen? ⟨b, i, none⟩ = false ∧ ∀ y, Holds True P (w.setCell ⟨b, i, none⟩ (.int .i64 y)) (.slice a len cap) (dInts (xs.set i y)) := by
 obtain ⟨b, o, e, _⟩ := int_at h.weak hx
 subst e
 obtain ⟨Q, c, rfl, hP, hO, hb, hc, hQP, hQb, hc2, hF⟩ := h.focus (i := i) (j := 0) (ds := [dI x]) (d := dI x) (by simp [hx]) rfl
 obtain rfl := hc2.val
 simp only [Nat.mul_one, Nat.add_zero] at hc hF
 refine ⟨b, rfl, hP, hb, hc, hO.frozen _, fun y => ?_⟩
 have := hF (w.setCell ⟨b, i, none⟩ (.int .i64 y)) (.int .i64 y) (dI y) (fun _ => False) ((SameOn.refl _ _).set _ _ (fun hk => hk.2.1 rfl)) rfl (has_int _ _ _ _) (fun _ h => h.elim)
 have e : (xs.set i y).map (fun a => [dI a]) = (xs.map fun a => [dI a]).set i ([dI x].set 0 (dI y)) := by
  rw [List.map_set]; rfl
 unfold dInts
 rw [e]
 exact this.wide (fun k _ hk => hk.elim (fun h => h) (fun h => h.elim))
/-- Two cells of a row of pairs, to be written. -/
theorem Holds.slot2 {P : Nat → Prop} {w : World} {a : Option Addr} {len cap i : Nat} {xs : Lks} {p : Int × Int} (h : Holds True P w (.slice a len cap) (dLinks xs)) (hx : xs[i]? = some p) :
  ∃ b, a = some ⟨b, 0, none⟩ ∧ P b ∧ b < w.heap.size ∧ w.cell? ⟨b, i * 2, none⟩ = some (.int .i64 p.1) ∧ w.cell? ⟨b, i * 2 + 1, none⟩ = some (.int .i64 p.2) ∧ (∀ o, w.frozen? ⟨b, o, none⟩ = false) ∧
   ∀ y z, Holds True P ((w.setCell ⟨b, i * 2, none⟩ (.int .i64 y)).setCell ⟨b, i * 2 + 1, none⟩ (.int .i64 z)) (.slice a len cap) (dLinks (xs.set i (y, z))) := by
 obtain ⟨b, o, e, _, _⟩ := link_at h.weak hx
 subst e
 have hi : (xs.map fun p => [dI p.1, dI p.2])[i]? = some [dI p.1, dI p.2] := by simp [hx]
 obtain ⟨Q, c, rfl, hP, hO, hb, hc, hQP, hQb, hc2, hF⟩ := h.focus (i := i) (j := 0) hi rfl
 obtain ⟨Q', c', _, _, _, _, hc', _, _, hc2', _⟩ := h.focus (i := i) (j := 1) hi rfl
 obtain rfl := hc2.val
 obtain rfl := hc2'.val
 rw [Nat.add_zero] at hc hF
 refine ⟨b, rfl, hP, hb, hc, hc', fun o => hO.frozen o, fun y z => ?_⟩
 have h1 := (hF (w.setCell ⟨b, i * 2, none⟩ (.int .i64 y)) (.int .i64 y) (dI y) (fun _ => False) ((SameOn.refl _ _).set _ _ (fun hk => hk.2.1 rfl)) rfl (has_int _ _ _ _) (fun _ h => h.elim)).wide (P' := P) (fun k _ hk => hk.elim (fun h => h) (fun h => h.elim))
 obtain ⟨Q2, c2, _, _, _, _, _, _, _, _, hF2⟩ := h1.focus (i := i) (j := 1) (ds := [dI y, dI p.2]) (d := dI p.2) (by rw [List.getElem?_set_self (lt_of_some hi)]; rfl) rfl
 have := (hF2 ((w.setCell ⟨b, i * 2, none⟩ (.int .i64 y)).setCell ⟨b, i * 2 + 1, none⟩ (.int .i64 z)) (.int .i64 z) (dI z) (fun _ => False) ((SameOn.refl _ _).set _ _ (fun hk => hk.2.1 rfl)) rfl (has_int _ _ _ _) (fun _ h => h.elim)).wide (P' := P) (fun k _ hk => hk.elim (fun h => h) (fun h => h.elim))
 have e : (xs.set i (y, z)).map (fun p => [dI p.1, dI p.2]) = ((xs.map fun p => [dI p.1, dI p.2]).set i ([dI p.1, dI p.2].set 0 (dI y))).set i ([dI y, dI p.2].set 1 (dI z)) := by
  rw [List.map_set, List.set_set]; rfl
 unfold dLinks
 rw [e]
 exact this
theorem app_fin {a b c : World} {v : Value} {d : D} (hH : Holds True (fun k => b.heap.size ≤ k) c v d) (hB : Below b.heap.size b c) (h : Below a.heap.size a b) : Holds True (fun k => a.heap.size ≤ k) c v d ∧ Below a.heap.size a c := ⟨hH.wide (fun _ _ hk => Nat.le_trans h.size hk), below_step' h hB⟩
end Go.Proofs.Ytlhclnhdcenkhaa
set_option linter.unusedSimpArgs false
namespace Go.Proofs.Ytlhclnhdcenkhaa
open Go.RowKit Go.PlainAid
def IsSt (w : World) (s : St) (v : Value) : Prop := ∃ cs, v = .agg ⟨cs⟩ ∧ HasL w cs s.d
theorem IsSt.later {w w' : World} {s : St} {v : Value} (h : IsSt w s v) (hb : Below w.heap.size w w') : IsSt w' s v := by
 obtain ⟨cs, rfl, hc⟩ := h
 exact ⟨cs, rfl, hc.later hb⟩
/-- What a state waits for lies in memory, with the graph's box. -/
structure WtAt (w : World) (bx bg : Nat) (a1 : Option Addr) (c1 : Nat) (ws : List Int) (N : Int) (ga : Option Addr) (gc : Nat) (L : Lks) : Prop where
 f1 : w.cell? ⟨bx, 1, none⟩ = some (.slice a1 ws.length c1)
 g0 : w.cell? ⟨bg, 0, none⟩ = some (.int .i64 N)
 g1 : w.cell? ⟨bg, 1, none⟩ = some (.slice ga L.length gc)
 hw : Has w (.slice a1 ws.length c1) (dInts ws)
 hl : LinksAt w (.slice ga L.length gc) L
theorem WtAt.below {w w' : World} {bx bg : Nat} {a1 : Option Addr} {c1 : Nat} {ws : List Int} {N : Int} {ga : Option Addr} {gc : Nat} {L : Lks} (h : WtAt w bx bg a1 c1 ws N ga gc L) (hb : Below w.heap.size w w') : WtAt w' bx bg a1 c1 ws N ga gc L := by
 have k := fun (p : Addr) (v : Value) (e : w.cell? p = some v) => (hb.cell (World.block_lt_of_cell? w _ e)).trans e
 exact ⟨k _ _ h.f1, k _ _ h.g0, k _ _ h.g1, h.hw.later hb, h.hl.below hb⟩
/-- What the region reads. -/
structure WtS (bx bg : Nat) (b o k : Nat) (n1 c1 : Nat) (x u : Int) (N : Int) (ga : Option Addr) (ll gc : Nat) (L : Lks) (w : World) : Prop where
 s : w.cell? ⟨bx, 1, none⟩ = some (.slice (some ⟨b, o, none⟩) n1 c1) ∧ w.cell? ⟨bg, 0, none⟩ = some (.int .i64 N) ∧ w.cell? ⟨bg, 1, none⟩ = some (.slice ga ll gc) ∧ w.cell? ⟨b, o + k, none⟩ = some (.int .i64 x) ∧ (0 < k → w.cell? ⟨b, o + (k - 1), none⟩ = some (.int .i64 u))
 l : LinksAt w (.slice ga ll gc) L
theorem WtS.below {bx bg : Nat} {b o k : Nat} {n1 c1 : Nat} {x u : Int} {N : Int} {ga : Option Addr} {ll gc : Nat} {L : Lks} {w w' : World} (h : WtS bx bg b o k n1 c1 x u N ga ll gc L w) (hb : Below w.heap.size w w') : WtS bx bg b o k n1 c1 x u N ga ll gc L w' := by
 obtain ⟨⟨h1, h2, h3, h4, h5⟩, h6⟩ := h
 have k := fun (p : Addr) (v : Value) (e : w.cell? p = some v) => (hb.cell (World.block_lt_of_cell? w _ e)).trans e
 exact ⟨⟨k _ _ h1, k _ _ h2, k _ _ h3, k _ _ h4, fun h => k _ _ (h5 h)⟩, h6.below hb⟩
end Go.Proofs.Ytlhclnhdcenkhaa
set_option linter.unusedSimpArgs false
namespace Go.Proofs.Ytlhclnhdcenkhaa
open Go.RowKit Go.PlainAid
theorem SameOn.trans {P : Nat → Prop} {w w' w2 : World} (h : SameOn P w w') (h' : SameOn P w' w2) : SameOn P w w2 := ⟨Nat.le_trans h.1 h'.1, fun b p hb => (h'.2 b p (Nat.lt_of_lt_of_le hb h.1)).trans (h.2 b p hb)⟩
theorem SameOn.frozen {P : Nat → Prop} {w w' : World} {a : Addr} (h : SameOn P w w') (hp : P a.block) (hb : a.block < w.heap.size) : w'.frozen? a = w.frozen? a := World.frozen?_of_block (w := w) (h.2 _ hp hb)
/-- The copy's box, as it is made. -/
structure CutHead (w1 wx : World) (b3 : Nat) (m : Int) (v1 : Value) (ws : List Int) : Prop where
 ge : w1.heap.size ≤ b3
 lt : b3 < wx.heap.size
 bel : Below w1.heap.size w1 wx
 y0 : wx.cell? ⟨b3, 0, none⟩ = some (.int .i64 m)
 y1 : wx.cell? ⟨b3, 1, none⟩ = some v1
 y2 : wx.cell? ⟨b3, 2, none⟩ = some (.slice none 0 0)
 y3 : wx.cell? ⟨b3, 3, none⟩ = some (.slice none 0 0)
 z : ∀ i, wx.frozen? ⟨b3, i, none⟩ = false
 hw : Holds True (fun k => w1.heap.size ≤ k ∧ k < wx.heap.size ∧ k ≠ b3) wx v1 (dInts ws)
end Go.Proofs.Ytlhclnhdcenkhaa
namespace Go.Proofs.Ytlhclnhdcenkhaa
open Go.RowKit Go.PlainAid
theorem OpenRow.set {w : World} {b cap n : Nat} (h : OpenRow w b cap n) (o : Nat) (v : Value) : OpenRow (w.setCell ⟨b, o, none⟩ v) b cap n := by
 obtain ⟨h1, cur, e, h2, h3⟩ := h
 exact ⟨h1, _, e, heap_setCell_at h2 o v, by simpa using h3⟩
theorem set_far {w : World} {a : Addr} {v u : Value} {b o : Nat} (h : b ≠ a.block ∨ o ≠ a.off) (hc : w.cell? a = some u) : (w.setCell ⟨b, o, none⟩ v).cell? a = some u := by
 rw [World.cell?_setCell_other _ _ _ _ (by intro e; subst e; simp at h)]
 exact hc
theorem set_at {w : World} {b o : Nat} {u v : Value} (hc : w.cell? ⟨b, o, none⟩ = some u) : (w.setCell ⟨b, o, none⟩ v).cell? ⟨b, o, none⟩ = some v := World.cell?_setCell_same w _ _ hc
end Go.Proofs.Ytlhclnhdcenkhaa

