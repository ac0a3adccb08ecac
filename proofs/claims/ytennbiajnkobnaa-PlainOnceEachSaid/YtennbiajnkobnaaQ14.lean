/- Texts put together. -/
import Derived.Test.YtennbiajnkobnaaQ01
import Derived.Laws.CopyRow
namespace Go.Proofs.Ytennbiajnkobnaa
open Go.RowKit Go.PlainAid
/-- Where no two parts lie in one block, a row's cell may be written, and all else stays. -/
theorem Holds.update {P Q : Nat → Prop} {w : World} {b off len cap n i j : Nat} {xs : List (List D)} {ds : List D} (h : Holds True P w (.slice (some ⟨b, off, none⟩) len cap) (.row n xs)) (hi : xs[i]? = some ds) (hj : j < n) (v' : Value) (d' : D) (hv : Holds False Q w v' d') (hQ : ¬ Q b) :
  Has (w.setCell ⟨b, off + i * n + j, none⟩ v') (.slice (some ⟨b, off, none⟩) len cap) (.row n (xs.set i (ds.set j d'))) := by
 cases h with
 | nil => simp at hi
 | row _ _ _ _ _ _ _ cs fp h0 hb hc hP hn hcell hrec hfp hb2 hd =>
  have hlen : (xs.set i (ds.set j d')).length = xs.length := by simp
  have hil := lt_of_some hi
  have hget : ∀ (a : Nat) (e : List D), (xs.set i (ds.set j d'))[a]? = some e → (a = i ∧ e = ds.set j d') ∨ (a ≠ i ∧ xs[a]? = some e) := fun a e he => by
   rw [List.getElem?_set] at he
   split at he
   ·next h => subst h; (try rw [if_pos hil] at he); cases he; exact .inl ⟨rfl, rfl⟩
   ·next h => exact .inr ⟨fun e => h e.symm, he⟩
  have hdl := hn i ds hi
  have heq : ∀ a c : Nat, c < n → off + a * n + c = off + i * n + j → a = i ∧ c = j := fun a c hc' e => by
   have e : a * n + c = i * n + j := by omega
   have h1 : (a * n + c) / n = a ∧ (a * n + c) % n = c := by
    have hn0 : 0 < n := by omega
    rw [Nat.mul_comm]
    exact ⟨by rw [Nat.mul_add_div hn0, Nat.div_eq_of_lt hc', Nat.add_zero], by rw [Nat.mul_add_mod, Nat.mod_eq_of_lt hc']⟩
   have h2 : (i * n + j) / n = i ∧ (i * n + j) % n = j := by
    have hn0 : 0 < n := by omega
    rw [Nat.mul_comm]
    exact ⟨by rw [Nat.mul_add_div hn0, Nat.div_eq_of_lt hj, Nat.add_zero], by rw [Nat.mul_add_mod, Nat.mod_eq_of_lt hj]⟩
   rw [e] at h1
   exact ⟨h1.1.symm.trans h2.1 , h1.2.symm.trans h2.2⟩
  have hs : ∀ R : Nat → Prop, ¬ R b → SameOn R w (w.setCell ⟨b, off + i * n + j, none⟩ v') := fun R hR => (SameOn.refl _ _).set _ _ hR
  have res := Holds.row (S := False) All (w.setCell ⟨b, off + i * n + j, none⟩ v') b off cap n (xs.set i (ds.set j d')) (fun a c => if a = i ∧ c = j then v' else cs a c) (fun _ _ => All) (by rw [hlen]; exact h0) (by rw [World.size_setCell]; exact hb) (by rw [hlen]; exact hc) trivial
   (fun a e he => by
    rcases hget a e he with ⟨_, rfl⟩ | ⟨_, he⟩
    ·simp; exact hdl
    ·exact hn a e he)
   (fun a c ha hcc => by
    rw [hlen] at ha
    by_cases e : a = i ∧ c = j
    ·obtain ⟨rfl, rfl⟩ := e
     rw [if_pos ⟨rfl, rfl⟩]
     exact World.cell?_setCell_same w _ _ (hcell a c ha hcc)
    ·rw [if_neg e, World.cell?_setCell_other _ _ _ _ (by intro e'; simp at e'; exact e (heq a c hcc (by omega)))]
     exact hcell a c ha hcc)
   (fun a c e d h1 h2 => by
    rcases hget a e h1 with ⟨rfl, rfl⟩ | ⟨hne, h1⟩
    ·rw [List.getElem?_set] at h2
     split at h2
     ·next hjc =>
      subst hjc
      (try rw [if_pos (by omega)] at h2)
      cases h2
      rw [if_pos ⟨rfl, rfl⟩]
      exact (hv.same (hs Q hQ)).weak
     ·next hjc =>
      rw [if_neg (fun h => hjc h.2.symm)]
      exact ((hrec a c ds d hi h2).same (hs _ (hb2 trivial a c))).weak
    ·rw [if_neg (fun h => hne h.1)]
     exact ((hrec a c e d h1 h2).same (hs _ (hb2 trivial a c))).weak)
   (fun _ _ _ _ => trivial) (fun s => s.elim) (fun s => s.elim)
  rw [hlen] at res
  exact res
end Go.Proofs.Ytennbiajnkobnaa
namespace Go.Proofs.Ytennbiajnkobnaa
open Go.RowKit Go.PlainAid
theorem heap_setCell_at {w : World} {b : Nat} {cur : Array Value} {e : TypeId} {fr : Nat × Nat} (hg : w.heap[b]? = some (.cells cur e fr)) (o : Nat) (v : Value) : (w.setCell ⟨b, o, none⟩ v).heap[b]? = some (.cells (cur.setIfInBounds o v) e fr) := by
 simp [World.setCell, Array.getElem?_modify, hg]
/-- One part of a row that may be written: what stands there, and the row with another part in its place. -/
theorem Holds.focus {P : Nat → Prop} {w : World} {b off len cap n i j : Nat} {xs : List (List D)} {ds : List D} {d : D} (h : Holds True P w (.slice (some ⟨b, off, none⟩) len cap) (.row n xs)) (hi : xs[i]? = some ds) (hd : ds[j]? = some d) :
  ∃ (Q : Nat → Prop) (c : Value), off = 0 ∧ P b ∧ OpenRow w b cap n ∧ b < w.heap.size ∧ w.cell? ⟨b, i * n + j, none⟩ = some c ∧ (∀ k, Q k → P k) ∧ ¬ Q b ∧ Holds True Q w c d ∧
   ∀ (w2 : World) (c' : Value) (d' : D) (Q' : Nat → Prop), SameOn (fun k => P k ∧ k ≠ b ∧ ¬ Q k) w w2 → w2.heap[b]? = (w.setCell ⟨b, i * n + j, none⟩ c').heap[b]? → Holds True Q' w2 c' d' → (∀ k, Q' k → k ≠ b ∧ (Q k ∨ ¬ P k)) →
    Holds True (fun k => P k ∨ Q' k) w2 (.slice (some ⟨b, off, none⟩) len cap) (.row n (xs.set i (ds.set j d'))) := by
 cases h with
 | nil => simp at hi
 | row _ _ _ _ _ _ _ cs fp h0 hb hc hP hn hcell hrec hfp hb2 hdj hop =>
  obtain ⟨rfl, hO⟩ := hop trivial
  have hil := lt_of_some hi
  have hjn : j < n := by rw [← hn i ds hi]; exact lt_of_some hd
  refine ⟨fp i j, cs i j, rfl, hP, hO, hb, by simpa using hcell i j hil hjn, hfp i j, hb2 trivial i j, hrec i j ds d hi hd, ?_⟩
  intro w2 c' d' Q' hs hbl hv hQ
  have hlen : (xs.set i (ds.set j d')).length = xs.length := by simp
  have hget : ∀ (a : Nat) (e : List D), (xs.set i (ds.set j d'))[a]? = some e → (a = i ∧ e = ds.set j d') ∨ (a ≠ i ∧ xs[a]? = some e) := fun a e he => by
   rw [List.getElem?_set] at he
   split at he
   ·next h => subst h; (try rw [if_pos hil] at he); cases he; exact .inl ⟨rfl, rfl⟩
   ·next h => exact .inr ⟨fun e => h e.symm, he⟩
  have hdl := hn i ds hi
  have heq : ∀ a c : Nat, c < n → a * n + c = i * n + j → a = i ∧ c = j := fun a c hc' e => by
   have hn0 : 0 < n := by omega
   have h1 : (a * n + c) / n = a ∧ (a * n + c) % n = c := by
    rw [Nat.mul_comm]
    exact ⟨by rw [Nat.mul_add_div hn0, Nat.div_eq_of_lt hc', Nat.add_zero], by rw [Nat.mul_add_mod, Nat.mod_eq_of_lt hc']⟩
   have h2 : (i * n + j) / n = i ∧ (i * n + j) % n = j := by
    rw [Nat.mul_comm]
    exact ⟨by rw [Nat.mul_add_div hn0, Nat.div_eq_of_lt hjn, Nat.add_zero], by rw [Nat.mul_add_mod, Nat.mod_eq_of_lt hjn]⟩
   rw [e] at h1
   exact ⟨h1.1.symm.trans h2.1, h1.2.symm.trans h2.2⟩
  have hoth : ∀ a c k, fp a c k → ¬ (a = i ∧ c = j) → ¬ fp i j k := fun a c k h1 h2 h3 => h2 (hdj trivial a c i j k h1 h3)
  have hkeep : ∀ a c, ¬ (a = i ∧ c = j) → SameOn (fp a c) w w2 := fun a c hne => hs.sub fun k hk => ⟨hfp a c k hk, fun e => hb2 trivial a c (by rw [← e]; exact hk), hoth a c k hk hne⟩
  obtain ⟨h63, cur, e0, hg, hcz⟩ := hO
  have hg2 : w2.heap[b]? = some (.cells (cur.setIfInBounds (i * n + j) c') e0 (0, 0)) := hbl.trans (heap_setCell_at hg _ _)
  have hb2' : b < w2.heap.size := (Array.getElem?_eq_some_iff.1 hg2).1
  have hcl : ∀ a c : Nat, w2.cell? ⟨b, a * n + c, none⟩ = (w.setCell ⟨b, i * n + j, none⟩ c').cell? ⟨b, a * n + c, none⟩ := fun a c => World.cell?_of_block hbl
  rw [← hlen]
  refine Holds.row _ w2 b 0 cap n _ (fun a c => if a = i ∧ c = j then c' else cs a c) (fun a c k => if a = i ∧ c = j then Q' k else fp a c k) (by rw [hlen]; exact h0) hb2' (by rw [hlen]; exact hc) (.inl hP)
   (fun a e he => ?_) (fun a c ha hcc => ?_) (fun a c e d2 h1 h2 => ?_) (fun a c k hk => ?_) (fun _ a c hk => ?_) (fun _ a c a' c' k hk hk' => ?_) (fun _ => ⟨rfl, h63, _, e0, hg2, by simpa using hcz⟩)
  ·rcases hget a e he with ⟨_, rfl⟩ | ⟨_, he⟩
   ·simp; exact hdl
   ·exact hn a e he
  ·rw [hlen] at ha
   rw [Nat.zero_add, hcl]
   by_cases e : a = i ∧ c = j
   ·obtain ⟨rfl, rfl⟩ := e
    rw [if_pos ⟨rfl, rfl⟩]
    exact World.cell?_setCell_same w _ _ (by simpa using hcell a c ha hcc)
   ·rw [if_neg e, World.cell?_setCell_other _ _ _ _ (by intro e'; simp at e'; exact e (heq a c hcc e'.symm))]
    simpa using hcell a c ha hcc
  ·rcases hget a e h1 with ⟨rfl, rfl⟩ | ⟨hne, h1⟩
   ·rw [List.getElem?_set] at h2
    split at h2
    ·next hjc =>
     subst hjc
     (try rw [if_pos (by omega)] at h2)
     cases h2
     simp only [and_self, if_true]
     exact hv
    ·next hjc =>
     have hne : ¬ c = j := fun h => hjc h.symm
     simp only [true_and, if_neg hne]
     exact (hrec a c ds d2 hi h2).same (hkeep a c (fun h => hne h.2))
   ·have hne' : ¬ (a = i ∧ c = j) := fun h => hne h.1
    simp only [if_neg hne']
    exact (hrec a c e d2 h1 h2).same (hkeep a c hne')
  ·split at hk
   ·exact .inr hk
   ·exact .inl (hfp a c k hk)
  ·split at hk
   ·exact (hQ _ hk).1 rfl
   ·exact hb2 trivial a c hk
  ·split at hk <;> split at hk'
   ·next h1 h2 => exact ⟨h1.1.trans h2.1.symm, h1.2.trans h2.2.symm⟩
   ·next h1 h2 =>
    rcases (hQ k hk).2 with h | h
    ·exact absurd h (hoth a' c' k hk' h2)
    ·exact absurd (hfp a' c' k hk') h
   ·next h1 h2 =>
    rcases (hQ k hk').2 with h | h
    ·exact absurd h (hoth a c k hk h1)
    ·exact absurd (hfp a c k hk) h
   ·exact hdj trivial a c a' c' k hk hk'
/-- A row that may be written, by its cells. -/
theorem Holds.open {P : Nat → Prop} {w : World} {a : Option Addr} {k cap n : Nat} {xs : List (List D)} (h : Holds True P w (.slice a k cap) (.row n xs)) (hn0 : 0 < n) :
  k = xs.length ∧ (∀ ds ∈ xs, ds.length = n) ∧ ((cap = 0 ∧ xs = []) ∨ ∃ (g : Nat) (cur : Array Value) (e : TypeId) (cells : List Value) (Q : Nat → Prop), a = some ⟨g, 0, none⟩ ∧ P g ∧ g < w.heap.size ∧ w.heap[g]? = some (.cells cur e (0, 0)) ∧ k ≤ cap ∧ cap ≤ maxLen ∧ cur.size = cap * n ∧
   cur.toList.take (k * n) = cells ∧ HoldsL True Q w cells xs.flatten ∧ (∀ k, Q k → P k) ∧ ¬ Q g) := by
 cases h with
 | nil _ _ _ _ _ hop =>
  refine ⟨rfl, by simp, ?_⟩
  rcases hop trivial with h | ⟨b, rfl, h2, h3, h4, cur, e, h5, h6⟩
  ·exact .inl ⟨h, rfl⟩
  ·exact .inr ⟨b, cur, e, [], fun _ => False, rfl, h2, h3, h5, by omega, h4, h6, by simp, hasL_nil _ _ _, fun _ h => h.elim, fun h => h⟩
 | row _ _ b off cap n xs cs fp h0 hb hc hP hn hcell hrec hfp hb2 hdj hop =>
  obtain ⟨rfl, h63, cur, e, hg, hcz⟩ := hop trivial
  have hn' : ∀ ds ∈ xs, ds.length = n := fun ds hds => by obtain ⟨q, hq⟩ := List.mem_iff_getElem?.1 hds; exact hn q ds hq
  have hle : xs.length * n ≤ cur.size := by rw [hcz]; exact Nat.mul_le_mul_right _ hc
  have hcu : ∀ i j, i < xs.length → j < n → cur.toList[i * n + j]? = some (cs i j) := fun i j hi hj => by
   have := hcell i j hi hj
   simpa [World.cell?, hg] using this
  refine ⟨rfl, hn', .inr ⟨b, cur, e, _, fun k => ∃ i j, fp i j k, rfl, hP, hb, hg, hc, h63, hcz, rfl, ?_, fun k ⟨i, j, hk⟩ => hfp i j k hk, fun ⟨i, j, hk⟩ => hb2 trivial i j hk⟩⟩
  have hfl := flatten_len hn'
  refine ⟨by simp [hfl]; omega, fun p => fp (p / n) (p % n), fun p k hk => ⟨_, _, hk⟩, fun _ p q k h1 h2 => ?_, fun p c d h1 h2 => ?_⟩
  ·obtain ⟨e1, e2⟩ := hdj trivial _ _ _ _ k h1 h2
   rw [← Nat.div_add_mod p n, ← Nat.div_add_mod q n, e1, e2]
  ·have hp : p < xs.length * n := by rw [← hfl]; exact lt_of_some h2
   have hpn : p % n < n := Nat.mod_lt _ hn0
   have hpl : p / n < xs.length := Nat.div_lt_of_lt_mul (by rw [Nat.mul_comm]; exact hp)
   obtain ⟨ds, hds⟩ := some_of_lt hpl
   have e1 : p / n * n + p % n = p := by rw [Nat.mul_comm]; exact Nat.div_add_mod p n
   have hd2 := flatten_get hn' hds hpn
   rw [e1, h2] at hd2
   have hc2 := hcu _ _ hpl hpn
   rw [e1] at hc2
   rw [List.getElem?_take, if_pos hp, hc2] at h1
   cases h1
   exact hrec _ _ ds d hds hd2.symm
/-- A row that may be written, out of its cells. -/
theorem holds_mk {P Q : Nat → Prop} {w : World} {g k cap n : Nat} {cur : Array Value} {e : TypeId} {cells : List Value} {xs : List (List D)} (hk : k = xs.length) (hP : P g) (hg : w.heap[g]? = some (.cells cur e (0, 0))) (hc : k ≤ cap) (h63 : cap ≤ maxLen) (hcz : cur.size = cap * n)
  (hcu : cur.toList.take (k * n) = cells) (hn : ∀ ds ∈ xs, ds.length = n) (hL : HoldsL True Q w cells xs.flatten) (hQ : ∀ k, Q k → P k) (hQg : ¬ Q g) : Holds True P w (.slice (some ⟨g, 0, none⟩) k cap) (.row n xs) := by
 subst hk
 have hgl : g < w.heap.size := (Array.getElem?_eq_some_iff.1 hg).1
 by_cases h0 : xs.length = 0
 ·obtain rfl := List.length_eq_zero_iff.1 h0
  exact .nil _ _ _ _ _ (fun _ => .inr ⟨g, rfl, hP, hgl, h63, cur, e, hg, hcz⟩)
 ·obtain ⟨hl, fp, f1, f2, f3⟩ := hL
  have hfl := flatten_len hn
  have hcl : ∀ i j, i < xs.length → j < n → i * n + j < xs.length * n := fun i j hi hj => Nat.lt_of_lt_of_le (Nat.add_lt_add_left hj _) (by rw [← Nat.succ_mul]; exact Nat.mul_le_mul_right _ hi)
  refine Holds.row _ w g 0 cap n xs (fun i j => cells.getD (i * n + j) (.bool true)) (fun i j k => i < xs.length ∧ j < n ∧ fp (i * n + j) k) (by omega) hgl hc hP (fun i ds hi => hn ds (List.mem_of_getElem? hi)) (fun i j hi hj => ?_) (fun i j ds d hi hj => ?_)
   (fun i j k hk => hQ k (f1 _ k hk.2.2)) (fun _ i j hk => hQg (f1 _ _ hk.2.2)) (fun _ i j i' j' k hk hk' => ?_) (fun _ => ⟨rfl, h63, cur, e, hg, hcz⟩)
  ·have h1 := hcl i j hi hj
   have h2 : i * n + j < cells.length := by rw [hl, hfl]; exact h1
   rw [Nat.zero_add]
   have e1 : cur.toList[i * n + j]? = some (cells.getD (i * n + j) (.bool true)) := by
    have : cells[i * n + j]? = cur.toList[i * n + j]? := by rw [← hcu, List.getElem?_take, if_pos h1]
    rw [← this]; simp [List.getD, List.getElem?_eq_getElem h2]
   simpa [World.cell?, hg] using e1
  ·have hil := lt_of_some hi
   have hjn : j < n := by rw [← hn ds (List.mem_of_getElem? hi)]; exact lt_of_some hj
   have h1 := hcl i j hil hjn
   have h2 : i * n + j < cells.length := by rw [hl, hfl]; exact h1
   have hd := flatten_get hn hi hjn
   rw [hj] at hd
   refine (f3 (i * n + j) _ d ?_ hd).wide (fun k _ hk => ⟨hil, hjn, hk⟩)
   simp [List.getD, List.getElem?_eq_getElem h2]
  ·have e := f2 trivial _ _ k hk.2.2 hk'.2.2
   have hn0 : 0 < n := by have := hk.2.1; omega
   have d1 : ∀ a c : Nat, c < n → (a * n + c) / n = a ∧ (a * n + c) % n = c := fun a c hc' => by
    rw [Nat.mul_comm]
    exact ⟨by rw [Nat.mul_add_div hn0, Nat.div_eq_of_lt hc', Nat.add_zero], by rw [Nat.mul_add_mod, Nat.mod_eq_of_lt hc']⟩
   have h1 := d1 i j hk.2.1
   have h2 := d1 i' j' hk'.2.1
   rw [e] at h1
   exact ⟨h1.1.symm.trans h2.1, h1.2.symm.trans h2.2⟩
theorem HoldsL.append {S : Prop} {P Q : Nat → Prop} {w : World} {cs es : List Value} {ds fs : List D} (h : HoldsL S P w cs ds) (h' : HoldsL S Q w es fs) (hd : S → ∀ k, P k → ¬ Q k) : HoldsL S (fun k => P k ∨ Q k) w (cs ++ es) (ds ++ fs) := by
 obtain ⟨h1, fp, h2, h3, h4⟩ := h
 obtain ⟨g1, gp, g2, g3, g4⟩ := h'
 refine ⟨by simp [h1, g1], fun j k => if j < cs.length then fp j k else gp (j - cs.length) k, fun j k hk => ?_, fun s j j' k hk hk' => ?_, fun j c d hc hd' => ?_⟩
 ·dsimp only at hk
  split at hk
  ·exact .inl (h2 _ _ hk)
  ·exact .inr (g2 _ _ hk)
 ·dsimp only at hk hk'
  split at hk <;> split at hk'
  ·exact h3 s _ _ _ hk hk'
  ·exact absurd (g2 _ _ hk') (hd s k (h2 _ _ hk))
  ·exact absurd (g2 _ _ hk) (hd s k (h2 _ _ hk'))
  ·have := g3 s _ _ _ hk hk'; omega
 ·rw [List.getElem?_append] at hc hd'
  rw [← h1] at hd'
  split at hc
  ·next hlt => simp only [if_pos hlt]; rw [if_pos hlt] at hd'; exact h4 j c d hc hd'
  ·next hlt => simp only [if_neg hlt]; rw [if_neg hlt] at hd'; exact g4 _ c d hc hd'
theorem run_room {w : World} (T E e0 ty : TypeId) (i : TypeInfo) (ht : Try.prog.underlying T = some (.slice E)) (hi : Try.prog.info? E = some i) (g k cap : Nat) (cur : Array Value) (hg : w.heap[g]? = some (.cells cur e0 (0, 0)))
  (a : Addr) (m c : Nat) (news : List Value) (hl : news.length = m * i.size) (hnews : ∀ j u, news[j]? = some u → w.cell? (a.add j) = some u) (h1 : ∀ u ∈ news, u.oneCell' = true) (hroom : k + m ≤ cap) (hfit : k * i.size + news.length ≤ cur.size) :
  (Builtin.append_ #[T, T] ty #[.slice (some ⟨g, 0, none⟩) k cap, .slice (some a) m c]).run Try.prog w = .ok (.slice (some ⟨g, 0, none⟩) (k + m) cap) (w.setRow g (cur.toList.take (k * i.size) ++ news ++ cur.toList.drop (k * i.size + news.length)).toArray) := by
 have h2 := run_firstCells_some (P := Try.prog) w i.size m a m c news hl hnews
 have h3 := run_storeCells_at Try.prog g (k * i.size) e0 news 0 cur w hg (by simpa using hfit) h1
 simp only [Nat.add_zero] at h3
 simp [Builtin.append_, run_underlying ht, sizeOf, typeInfo, hi, Builtin.lenOf, hroom, h2, Addr.add_lit, h3]
/-- append to a row that may be written. -/
theorem run_appH {w : World} (T E ty : TypeId) (i : TypeInfo) (z : Value) (n bytes : Nat) (ht : Try.prog.underlying T = some (.slice E)) (hi : Try.prog.info? E = some i) (hz : i.zero = some z) (hsize : i.size = n) (hby : i.bytes = bytes) (hzs : z.cells.size = n) (hsz : 0 < n)
    (P Q : Nat → Prop) (a0 : Option Addr) (k cap : Nat) (xs ys : List (List D)) (m c l : Nat) (h : Holds True P w (.slice a0 k cap) (.row n xs)) (ad : Option Addr) (news : List Value)
    (hnews : ∀ a, ad = some a → ∀ j u, news[j]? = some u → w.cell? (a.add j) = some u) (hnone : ad = none → m = 0) (hy : ∀ ds ∈ ys, ds.length = n) (hm : ys.length = m) (hh : HoldsL True Q w news ys.flatten) (hQ : ∀ k, Q k → ¬ P k ∧ k < w.heap.size) (hl : k + m = l) (h63 : l ≤ maxLen) (hbytes : l * bytes ≤ 140737488355328) :
    (∃ ao cv w', (Builtin.append_ #[T, T] ty #[.slice a0 k cap, .slice ad m c]).run Try.prog w = .ok (.slice ao l cv) w' ∧ Holds True (fun k => P k ∨ Q k ∨ k = w.heap.size) w' (.slice ao l cv) (.row n (xs ++ ys)) ∧ Below w.heap.size w w') ∨
    (∃ ao cv w', (Builtin.append_ #[T, T] ty #[.slice a0 k cap, .slice ad m c]).run Try.prog w = .ok (.slice ao l cv) w' ∧ Holds True (fun k => P k ∨ Q k) w' (.slice ao l cv) (.row n (xs ++ ys)) ∧ ∃ g, P g ∧ a0 = some ⟨g, 0, none⟩ ∧ ao = a0 ∧ cv = cap ∧ w.grownBy w' (some g)) := by
  subst hl
  obtain ⟨hk, hn, hrow⟩ := h.open hsz
  subst hk
  cases ad with
  | none =>
    have hm0 := hnone rfl
    subst hm0
    obtain rfl : ys = [] := List.eq_nil_of_length_eq_zero hm
    refine .inl ⟨a0, cap, w, ?_, by rw [List.append_nil]; exact h.wide (fun k _ hk => .inl hk), Below.refl _ _⟩
    rcases hrow with ⟨rfl, rfl⟩ | ⟨g, cur, e, cells, R, rfl, _, _, _, hc, _⟩
    · cases a0 with
      | none => simp [Builtin.append_, run_underlying ht, sizeOf, typeInfo, hi, Builtin.lenOf, Builtin.firstCells]
      | some g => simp [Builtin.append_, run_underlying ht, sizeOf, typeInfo, hi, Builtin.lenOf, Builtin.firstCells, storeCells]
    · simp [Builtin.append_, run_underlying ht, sizeOf, typeInfo, hi, Builtin.lenOf, Builtin.firstCells, hc, storeCells]
  | some ad =>
    have hnews' := hnews ad rfl
    have hll : news.length = m * n := by rw [hh.1, flatten_len hy, hm]
    have h1 : ∀ u ∈ news, u.oneCell' = true := by
      intro u hu
      obtain ⟨j, hj, rfl⟩ := List.getElem_of_mem hu
      obtain ⟨hl', gp, _, _, g3⟩ := hh
      exact (g3 j _ _ (List.getElem?_eq_getElem hj) (List.getElem?_eq_getElem (by omega))).one
    have hyn : ∀ ds ∈ xs ++ ys, ds.length = n := fun ds hds => by
      rcases List.mem_append.1 hds with h | h
      · exact hn ds h
      · exact hy ds h
    have hb63 : ((xs.length + m : Nat) : Int) ≤ 9223372036854775807 := by unfold maxLen at h63; omega
    have fresh_row : ∀ (cells : List Value) (R : Nat → Prop) (old : Nat), HoldsL True R w cells xs.flatten → cells.length = xs.length * n → (∀ k, R k → P k) → old < xs.length + m →
        Holds True (fun k => P k ∨ Q k ∨ k = w.heap.size) (w.drew.alloc (.cells (cells.toArray ++ news.toArray ++ Builtin.zeroCells z.cells (grownCap w (xs.length + m) old E - (xs.length + m))) E)) (.slice (some ⟨w.heap.size, 0, none⟩) (xs.length + m) (grownCap w (xs.length + m) old E)) (.row n (xs ++ ys)) ∧
        Below w.heap.size w (w.drew.alloc (.cells (cells.toArray ++ news.toArray ++ Builtin.zeroCells z.cells (grownCap w (xs.length + m) old E - (xs.length + m))) E)) := by
      intro cells R old hc hcl hR hold
      have hge := grownCap_ge w (xs.length + m) old E
      have hcm : grownCap w (xs.length + m) old E ≤ maxLen := grownCap_le_maxLen w (xs.length + m) old E h63
      have hbel : Below w.heap.size w (w.drew.alloc (.cells (cells.toArray ++ news.toArray ++ Builtin.zeroCells z.cells (grownCap w (xs.length + m) old E - (xs.length + m))) E)) := (below_drewN (Below.refl _ w) 1).alloc (Nat.le_refl _) _
      refine ⟨?_, hbel⟩
      refine holds_mk (Q := fun k => (R k ∨ Q k) ∧ k < w.heap.size) (by simp [hm]) (.inr (.inr rfl)) (heap_alloc_new w.drew _) hge hcm ?_ rfl hyn ?_ (fun k hk => hk.1.elim (fun h => .inl (hR k h)) (fun h => .inr (.inl h))) (fun hk => Nat.lt_irrefl _ hk.2)
      · have hG : ∀ G : Nat, xs.length + m ≤ G → (cells.toArray ++ news.toArray ++ Builtin.zeroCells z.cells (G - (xs.length + m))).size = G * n := fun G hG => by
          simp only [Array.size_append, List.size_toArray, size_zeroCells, hzs, hcl, hll, ← Nat.add_mul]
          rw [show xs.length + m + (G - (xs.length + m)) = G by omega]
        exact hG _ hge
      · have e1 : (cells.toArray ++ news.toArray ++ Builtin.zeroCells z.cells (grownCap w (xs.length + m) old E - (xs.length + m))).toList.take ((xs.length + m) * n) = cells ++ news := by
          have hlen : (cells ++ news).length = (xs.length + m) * n := by rw [List.length_append, hcl, hll, Nat.add_mul]
          generalize Builtin.zeroCells z.cells (grownCap w (xs.length + m) old E - (xs.length + m)) = Z
          simp only [Array.toList_append]
          exact List.take_left' hlen
        rw [e1, List.flatten_append]
        exact ((hc.append hh (fun _ k hk hq => (hQ k hq).1 (hR k hk))).wide (fun k hlt hk => ⟨hk, hlt⟩)).later hbel
    rcases hrow with ⟨rfl, rfl⟩ | ⟨g, cur, e, cells, R, rfl, hPg, hgl, hg, hc, hcx, hcz, hcu, hL, hR, hRg⟩
    · by_cases hm0 : m = 0
      · subst hm0
        obtain rfl : ys = [] := List.eq_nil_of_length_eq_zero hm
        refine .inl ⟨a0, 0, w, ?_, by rw [List.append_nil]; exact h.wide (fun k _ hk => .inl hk), Below.refl _ _⟩
        have hf := run_firstCells_some (P := Try.prog) w i.size 0 ad 0 c [] (by simp) (by simp)
        cases a0 with
        | none => simp [Builtin.append_, run_underlying ht, sizeOf, typeInfo, hi, Builtin.lenOf, hf]
        | some g => simp [Builtin.append_, run_underlying ht, sizeOf, typeInfo, hi, Builtin.lenOf, hf, storeCells]
      · have := fresh_row [] (fun _ => False) 0 (hasL_nil _ _ _) (by simp) (fun _ h => h.elim) (by omega)
        refine .inl ⟨_, _, _, ?_, this⟩
        subst hsize hby
        cases a0 with
        | none =>
          have := run_append_nil (P := Try.prog) w T ty E i z ht hi hz ad m c news hll hnews' (by omega) (by simpa using hb63) (by simp only [List.length_nil, Nat.zero_add] at hbytes; omega)
          simpa using this
        | some g =>
          have := run_append_grow (P := Try.prog) w T ty E i z ht hi hz g 0 0 [] (by simp) (by simp) ad m c news hll hnews' (by omega) (by simpa using hb63) (growslice_fits (by omega) (by simpa using hbytes))
          simpa using this
    · have hcl : cells.length = xs.length * n := by
        have h1 : cur.toList.length = cap * n := by rw [← hcz]; rfl
        rw [← hcu, List.length_take, h1]; exact Nat.min_eq_left (Nat.mul_le_mul_right _ hc)
      by_cases hroom : xs.length + m ≤ cap
      · subst hsize
        have hfit : xs.length * i.size + news.length ≤ cur.size := by rw [hll, hcz, ← Nat.add_mul]; exact Nat.mul_le_mul_right _ hroom
        have hr := run_room T E e ty i ht hi g xs.length cap cur hg ad m c news hll hnews' h1 hroom hfit
        have hg2 := setRow_heap w g cur (cur.toList.take (xs.length * i.size) ++ news ++ cur.toList.drop (xs.length * i.size + news.length)).toArray e _ hg
        have hgr : w.grownBy (w.setRow g (cur.toList.take (xs.length * i.size) ++ news ++ cur.toList.drop (xs.length * i.size + news.length)).toArray) (some g) := ⟨rfl, rfl, rfl, by simp, fun k _ hk => setRow_other w g k _ (fun e => hk (by simp [e]))⟩
        refine .inr ⟨_, _, _, hr, ?_, g, hPg, rfl, rfl, rfl, hgr⟩
        refine holds_mk (Q := fun k => R k ∨ Q k) (by simp [hm]) (.inl hPg) hg2 hroom hcx ?_ rfl hyn ?_ (fun k hk => hk.elim (fun h => .inl (hR k h)) .inr) (fun hk => hk.elim hRg (fun h => (hQ g h).1 hPg))
        · rw [List.size_toArray]
          simp only [List.length_append, List.length_take, List.length_drop, Array.length_toList]
          omega
        · have e1 : (cur.toList.take (xs.length * i.size) ++ news ++ cur.toList.drop (xs.length * i.size + news.length)).toArray.toList.take ((xs.length + m) * i.size) = cells ++ news := by
            rw [hcu]
            have hlen : (cells ++ news).length = (xs.length + m) * i.size := by rw [List.length_append, hcl, hll, Nat.add_mul]
            exact List.take_left' hlen
          rw [e1, List.flatten_append]
          refine (hL.append hh (fun _ k hk hq => (hQ k hq).1 (hR k hk))).same ⟨hgr.size, fun b hb hlt => hgr.block b hlt (fun e => ?_)⟩
          cases e
          exact hb.elim hRg (fun h => (hQ _ h).1 hPg)
      · have := fresh_row cells R cap hL hcl hR (by omega)
        refine .inl ⟨_, _, _, ?_, this⟩
        subst hsize hby
        refine run_append_grow (P := Try.prog) w T ty E i z ht hi hz ⟨g, 0, none⟩ xs.length cap cells hcl (fun j v hj => ?_) ad m c news hll hnews' (by omega) hb63 (growslice_fits (by omega) hbytes)
        have e1 : (⟨g, 0, none⟩ : Addr).add j = ⟨g, j, none⟩ := by unfold Addr.add; split <;> simp_all
        rw [e1]
        rw [← hcu, List.getElem?_take] at hj
        split at hj
        · simpa [World.cell?, hg] using hj
        · cases hj
end Go.Proofs.Ytennbiajnkobnaa

