/- Texts put together. -/
import Derived.Test.YtennbiajnkobnaaQ02
import Derived.OneCell
import Derived.Below
namespace Go.Proofs.Ytennbiajnkobnaa
open Go.RowKit
def dstOf (ops : Array Oper) (g : Nat) : Option Tmp := (ops[g]?).bind (·.dst)
/-- Those that an operation waits for by name. -/
def aheadOf (md : Region.Mode) (ops : Array Oper) (g : Nat) : List Nat := (((ops[g]?).map fun o => (o.after.toList.filter (Region.binds md ·)).map (·.on))).getD []
def fillG (ops : Array Oper) (vs : Nat → Value) : List Nat → Act → Act
 | [], a => a
 | g :: r, a => fillG ops vs r (a.put (dstOf ops g) (vs g))
def listG : List Nat → Array Bool → Array Bool
 | [], l => l
 | g :: r, l => listG r (l.setIfInBounds g true)
/-- Each of them waits for what is listed, or stands ahead in the row. -/
def orderG (md : Region.Mode) (ops : Array Oper) : List Nat → Array Bool → Bool
 | [], _ => true
 | g :: r, l => decide (g < l.size) && !(l.getD g true) && (aheadOf md ops g).all (fun e => l.getD e false) && orderG md ops r (l.setIfInBounds g true)
/-- Each of them is waited for by one that stands behind in the row, or by m. -/
def topG (md : Region.Mode) (ops : Array Oper) (m : Nat) : List Nat → Bool
 | [] => true
 | g :: r => (m :: r).any (fun p => (aheadOf md ops p).contains g) && topG md ops m r
def slotsG (ops : Array Oper) (n : Nat) : List Nat → Bool
 | [] => true
 | g :: r => (match dstOf ops g with
  | some t => decide (t < n) && r.all (fun h => dstOf ops h != some t)
  | none => false) && slotsG ops n r
def guardG (ops : Array Oper) (a0 : Act) (G : List Nat) (g : Nat) : Bool := match ops[g]? with
 | none => false
 | some o => Region.wanted o (yielded ops a0.tmps) && (match o.guard with
  | none => true
  | some (j, _) => G.all (fun h => dstOf ops h != dstOf ops j))
theorem ready_iff {md : Region.Mode} {ops : Array Oper} {l : Array Bool} {i : Nat} : i ∈ Region.ready md ops l ↔ i < ops.size ∧ l.getD i true = false ∧ ∀ e ∈ aheadOf md ops i, l.getD e false = true := by
 unfold Region.ready aheadOf
 rw [List.mem_filter, List.mem_range]
 constructor
 ·rintro ⟨h1, h2⟩
  simp only [Bool.and_eq_true, Bool.not_eq_true'] at h2
  refine ⟨h1, h2.1, fun e he => ?_⟩
  rw [Array.getElem?_eq_getElem h1] at h2 he
  simp only [Option.map_some, Option.getD_some, Array.all_eq_true, Bool.or_eq_true, Bool.not_eq_true', List.mem_map, List.mem_filter, Array.mem_toList_iff] at h2 he
  obtain ⟨x, ⟨hx, hb⟩, rfl⟩ := he
  obtain ⟨k, hk, rfl⟩ := Array.mem_iff_getElem.1 hx
  rcases h2.2 k hk with h | h
  ·rw [hb] at h; cases h
  ·exact h
 ·rintro ⟨h1, h2, h3⟩
  refine ⟨h1, ?_⟩
  rw [Array.getElem?_eq_getElem h1] at h3 ⊢
  simp only [Option.map_some, Option.getD_some, List.mem_map, List.mem_filter, Array.mem_toList_iff, forall_exists_index, and_imp] at h3
  simp only [Option.map_some, Option.getD_some, Bool.and_eq_true, Bool.not_eq_true', Array.all_eq_true, Bool.or_eq_true]
  refine ⟨h2, fun k hk => ?_⟩
  cases hb : Region.binds md ops[i].after[k] with
  | false => exact .inl rfl
  | true => exact .inr (h3 _ _ (Array.getElem_mem hk) hb rfl)
theorem getD_set (l : Array Bool) (i j : Nat) (d : Bool) (hi : i < l.size) : (l.setIfInBounds i true).getD j d = if j = i then true else l.getD j d := by
 simp only [Array.getD_eq_getD_getElem?, Array.getElem?_setIfInBounds]
 by_cases h : i = j
 ·subst h; simp [hi]
 ·rw [if_neg h, if_neg (fun e => h e.symm)]
theorem listG_size (G : List Nat) : ∀ l : Array Bool, (listG G l).size = l.size := by
 induction G with
 | nil => intro l; rfl
 | cons g r ih => intro l; unfold listG; rw [ih]; simp
theorem listG_getD (G : List Nat) : ∀ (l : Array Bool) (j : Nat) (d : Bool), (∀ g ∈ G, g < l.size) → (listG G l).getD j d = (G.contains j || l.getD j d) := by
 induction G with
 | nil => intro l j d _; simp [listG]
 | cons g r ih =>
  intro l j d h
  unfold listG
  rw [ih _ _ _ (fun x hx => by simpa using h x (List.mem_cons_of_mem _ hx)), getD_set _ _ _ _ (h g (List.mem_cons_self ..)), List.contains_cons]
  by_cases e : j = g
  ·subst e; simp
  ·rw [if_neg e, show (j == g) = false by simpa using e, Bool.false_or]
theorem ext_getD {l l' : Array Bool} (hs : l.size = l'.size) (h : ∀ j, l.getD j true = l'.getD j true) : l = l' := by
 refine Array.ext hs (fun i h1 h2 => ?_)
 have := h i
 simpa [Array.getD_eq_getD_getElem?, h1, h2] using this
theorem order_facts {md : Region.Mode} {ops : Array Oper} : ∀ {G : List Nat} {l : Array Bool}, orderG md ops G l = true → (∀ g ∈ G, g < l.size ∧ l.getD g true = false) ∧ G.Nodup ∧
  ∀ (pre post : List Nat) (g : Nat), G = pre ++ g :: post → ∀ e ∈ aheadOf md ops g, l.getD e false = true ∨ e ∈ pre := by
 intro G
 induction G with
 | nil => intro l _; exact ⟨fun g h => by simp at h, List.nodup_nil, fun pre post g h => by simp at h⟩
 | cons x r ih =>
  intro l h
  unfold orderG at h
  simp only [Bool.and_eq_true, decide_eq_true_eq, Bool.not_eq_true', List.all_eq_true] at h
  obtain ⟨⟨⟨h1, h2⟩, h3⟩, h4⟩ := h
  obtain ⟨i1, i2, i3⟩ := ih h4
  have hx : x ∉ r := fun hx => by have := (i1 x hx).2; rw [getD_set _ _ _ _ h1, if_pos rfl] at this; cases this
  refine ⟨fun g hg => ?_, List.nodup_cons.2 ⟨hx, i2⟩, fun pre post g hg e he => ?_⟩
  ·rcases List.mem_cons.1 hg with rfl | hg
   ·exact ⟨h1, h2⟩
   ·have := i1 g hg
    rw [getD_set _ _ _ _ h1] at this
    by_cases e : g = x
    ·rw [if_pos e] at this; exact absurd this.2 (by simp)
    ·rw [if_neg e] at this; exact ⟨by simpa using this.1, this.2⟩
  ·cases pre with
   | nil => simp at hg; obtain ⟨rfl, rfl⟩ := hg; exact .inl (h3 e he)
   | cons y pre =>
    simp at hg
    obtain ⟨rfl, hg⟩ := hg
    rcases i3 pre post g hg e he with h | h
    ·rw [getD_set _ _ _ _ h1] at h
     by_cases ex : e = x
     ·exact .inr (by simp [ex])
     ·rw [if_neg ex] at h; exact .inl h
    ·exact .inr (List.mem_cons_of_mem _ h)
theorem top_facts {md : Region.Mode} {ops : Array Oper} {m : Nat} {p : Nat → Prop} (hm : ∀ e ∈ aheadOf md ops m, p e) {GG : List Nat} (hc : ∀ g ∈ GG, p g → ∀ e ∈ aheadOf md ops g, p e) : ∀ {G : List Nat}, (∀ g ∈ G, g ∈ GG) → topG md ops m G = true → ∀ g ∈ G, p g := by
 intro G
 induction G with
 | nil => intro _ _ g h; simp at h
 | cons x r ih =>
  intro hsub h
  unfold topG at h
  simp only [Bool.and_eq_true, List.any_eq_true] at h
  obtain ⟨⟨q, hq, hqx⟩, hr⟩ := h
  have hr := ih (fun g hg => hsub g (List.mem_cons_of_mem _ hg)) hr
  intro g hg
  rcases List.mem_cons.1 hg with rfl | hg
  ·rcases List.mem_cons.1 hq with rfl | hq
   ·exact hm _ (by simpa using hqx)
   ·exact hc q (hsub q (List.mem_cons_of_mem _ hq)) (hr q hq) _ (by simpa using hqx)
  ·exact hr g hg
theorem nodup_sub : ∀ {D G : List Nat}, D.Nodup → (∀ g ∈ D, g ∈ G) → D.length ≤ G.length := by
 intro D
 induction D with
 | nil => intro G _ _; simp
 | cons x r ih =>
  intro G hn hs
  have hn := List.nodup_cons.1 hn
  have hx : x ∈ G := hs x (List.mem_cons_self ..)
  have h := ih (G := G.erase x) hn.2 (fun g hg => (List.mem_erase_of_ne (fun e => hn.1 (by rw [← e]; exact hg))).2 (hs g (List.mem_cons_of_mem _ hg)))
  have h2 := List.length_erase_of_mem hx
  have h3 := List.length_pos_of_mem hx
  simp only [List.length_cons]
  omega
theorem nodup_full {D G : List Nat} (hn : D.Nodup) (hs : ∀ g ∈ D, g ∈ G) (hl : G.length ≤ D.length) : ∀ g ∈ G, g ∈ D := fun g hg => Classical.byContradiction fun h => by
 have := nodup_sub (D := g :: D) (List.nodup_cons.2 ⟨h, hn⟩) (fun x hx => by
  rcases List.mem_cons.1 hx with rfl | hx
  ·exact hg
  ·exact hs x hx)
 simp only [List.length_cons] at this
 omega
theorem first_not {D : List Nat} : ∀ {G : List Nat}, (∃ g, g ∈ G ∧ g ∉ D) → ∃ pre g post, G = pre ++ g :: post ∧ (∀ x ∈ pre, x ∈ D) ∧ g ∉ D := by
 intro G
 induction G with
 | nil => rintro ⟨g, h, _⟩; simp at h
 | cons x r ih =>
  intro h
  by_cases hx : x ∈ D
  ·obtain ⟨pre, g, post, e, h1, h2⟩ := ih (by
    obtain ⟨g, hg, hn⟩ := h
    rcases List.mem_cons.1 hg with e | hg
    ·exact absurd (e ▸ hx) hn
    ·exact ⟨g, hg, hn⟩)
   exact ⟨x :: pre, g, post, by rw [e]; rfl, fun y hy => by
    rcases List.mem_cons.1 hy with e | hy
    ·rw [e]; exact hx
    ·exact h1 y hy, h2⟩
  ·exact ⟨[], x, r, rfl, fun y hy => by simp at hy, hx⟩
theorem slots_facts {ops : Array Oper} {n : Nat} : ∀ {G : List Nat}, slotsG ops n G = true → (∀ g ∈ G, ∃ t, dstOf ops g = some t ∧ t < n) ∧ ∀ g ∈ G, ∀ h ∈ G, G.Nodup → g ≠ h → dstOf ops g ≠ dstOf ops h := by
 intro G
 induction G with
 | nil => intro _; exact ⟨fun g h => by simp at h, fun g h => by simp at h⟩
 | cons x r ih =>
  intro h
  unfold slotsG at h
  simp only [Bool.and_eq_true] at h
  obtain ⟨h1, h2⟩ := h
  obtain ⟨i1, i2⟩ := ih h2
  cases hd : dstOf ops x with
  | none => rw [hd] at h1; cases h1
  | some t =>
   rw [hd] at h1
   simp only [Bool.and_eq_true, decide_eq_true_eq, List.all_eq_true, bne_iff_ne] at h1
   refine ⟨fun g hg => ?_, fun g hg k hk hn hne => ?_⟩
   ·rcases List.mem_cons.1 hg with rfl | hg
    ·exact ⟨t, hd, h1.1⟩
    ·exact i1 g hg
   ·rcases List.mem_cons.1 hg with e | hgr
    ·subst e
     rcases List.mem_cons.1 hk with e | hk
     ·exact absurd e.symm hne
     ·rw [hd]; exact fun e => h1.2 k hk e.symm
    ·rcases List.mem_cons.1 hk with e | hk
     ·rw [e, hd]; exact h1.2 g hgr
     ·exact i2 g hgr k hk (List.nodup_cons.1 hn).2 hne
/-- The frame while some have come up. -/
structure MidG (ops : Array Oper) (vs : Nat → Value) (D : List Nat) (a0 a : Act) : Prop where
 at' : ∀ g ∈ D, ∀ t, dstOf ops g = some t → a.tmps[t]? = some (vs g)
 other : ∀ t, (∀ g ∈ D, dstOf ops g ≠ some t) → a.tmps[t]? = a0.tmps[t]?
 size : a.tmps.size = a0.tmps.size
 defers : a.defers = a0.defers
theorem put_get (a : Act) (t : Nat) (v : Value) (s : Nat) (ht : t < a.tmps.size) : (a.put (some t) v).tmps[s]? = if s = t then some v else a.tmps[s]? := by
 show (a.tmps.setIfInBounds t v)[s]? = _
 rw [Array.getElem?_setIfInBounds]
 by_cases h : t = s
 ·subst h; simp [ht]
 ·rw [if_neg h, if_neg (fun e => h e.symm)]
theorem MidG.next {ops : Array Oper} {vs : Nat → Value} {D : List Nat} {a0 a : Act} (h : MidG ops vs D a0 a) {g t : Nat} (hg : dstOf ops g = some t) (ht : t < a0.tmps.size) (hD : ∀ k ∈ D, dstOf ops k ≠ some t) (hn : g ∉ D) (v : Value) :
  MidG ops (fun k => if k = g then v else vs k) (g :: D) a0 (a.put (some t) v) := by
 have hts : t < a.tmps.size := by rw [h.size]; exact ht
 refine ⟨fun k hk s hs => ?_, fun s hs => ?_, ?_, h.defers⟩
 ·rw [put_get _ _ _ _ hts]
  rcases List.mem_cons.1 hk with e | hk
  ·subst e; rw [hg] at hs; cases hs; simp
  ·have : s ≠ t := fun e => hD k hk (by rw [hs, e])
   rw [if_neg this, h.at' k hk s hs, if_neg (fun e : k = g => hn (by rw [← e]; exact hk))]
 ·rw [put_get _ _ _ _ hts, if_neg (fun e => hs g (List.mem_cons_self ..) (by rw [hg, e]))]
  exact h.other s (fun k hk => hs k (List.mem_cons_of_mem _ hk))
 ·show (a.tmps.setIfInBounds t v).size = _
  simp [h.size]
theorem MidG.eq {ops : Array Oper} {vs : Nat → Value} {D : List Nat} {a0 a b : Act} (h : MidG ops vs D a0 a) (h' : MidG ops vs D a0 b) : a = b := by
 obtain ⟨t1, d1⟩ := a
 obtain ⟨t2, d2⟩ := b
 have e1 : d1 = d2 := h.defers.trans h'.defers.symm
 have e2 : t1 = t2 := by
  apply Array.ext_getElem?
  intro s
  by_cases hs : ∃ g ∈ D, dstOf ops g = some s
  ·obtain ⟨g, hg, e⟩ := hs
   exact (h.at' g hg s e).trans (h'.at' g hg s e).symm
  ·have hs' : ∀ g ∈ D, dstOf ops g ≠ some s := fun g hg e => hs ⟨g, hg, e⟩
   exact (h.other s hs').trans (h'.other s hs').symm
 rw [e1, e2]
theorem fill_mid {ops : Array Oper} {vs : Nat → Value} {a0 : Act} : ∀ {G D : List Nat} {a : Act}, MidG ops vs D a0 a → (∀ g ∈ G, ∃ t, dstOf ops g = some t ∧ t < a0.tmps.size) → (∀ g ∈ G, ∀ k ∈ D, dstOf ops k ≠ dstOf ops g) → (∀ g ∈ G, ∀ h ∈ G, g ≠ h → dstOf ops g ≠ dstOf ops h) → (∀ g ∈ G, g ∉ D) → G.Nodup → MidG ops vs (G.reverse ++ D) a0 (fillG ops vs G a) := by
 intro G
 induction G with
 | nil => intro D a h _ _ _ _ _; exact h
 | cons g r ih =>
  intro D a h h1 h2 h3 h4 h5
  obtain ⟨t, e, ht⟩ := h1 g (List.mem_cons_self ..)
  have hn := List.nodup_cons.1 h5
  have h' := h.next e ht (fun k hk => by rw [← e]; exact h2 g (List.mem_cons_self ..) k hk) (h4 g (List.mem_cons_self ..)) (vs g)
  have hv : (fun k => if k = g then vs g else vs k) = vs := by funext k; split <;> simp_all
  rw [hv] at h'
  have := ih h' (fun k hk => h1 k (List.mem_cons_of_mem _ hk)) (fun k hk j hj => by
   rcases List.mem_cons.1 hj with rfl | hj
   ·exact h3 _ (List.mem_cons_self ..) k (List.mem_cons_of_mem _ hk) (fun e' => hn.1 (e' ▸ hk))
   ·exact h2 k (List.mem_cons_of_mem _ hk) j hj) (fun k hk j hj hne => h3 k (List.mem_cons_of_mem _ hk) j (List.mem_cons_of_mem _ hj) hne)
   (fun k hk hj => by
    rcases List.mem_cons.1 hj with rfl | hj
    ·exact hn.1 hk
    ·exact h4 k (List.mem_cons_of_mem _ hk) hj) hn.2
  unfold fillG
  rw [e]
  simpa using this
theorem MidG.perm {ops : Array Oper} {vs : Nat → Value} {D D' : List Nat} {a0 a : Act} (h : MidG ops vs D a0 a) (hD : ∀ g, g ∈ D ↔ g ∈ D') : MidG ops vs D' a0 a :=
 ⟨fun g hg => h.at' g ((hD g).2 hg), fun t ht => h.other t (fun g hg => ht g ((hD g).1 hg)), h.size, h.defers⟩
/-- **Operations that may come up in any order, at once**: G, in an order in which each may come up; m waits for all of them; 'step': what each yields means what it should, whatever came up ahead. -/
theorem wpAnyH_group {P : Program} {md : Region.Mode} {ops : Array Oper} {Q : Exit → Act → World → Prop} {S : World → Prop} (G : List Nat) (m : Nat) (φ : Nat → Value → World → Prop) (ψ : Nat → Nat → Value → Value → World → Prop) {listed : Array Bool} {a0 : Act} {w0 : World} {n : Nat}
    (hr : Region.ready md ops (listG G listed) = [m]) (ho : orderG md ops G listed = true) (ht : topG md ops m G = true) (hsl : slotsG ops a0.tmps.size G = true) (hgd : G.all (guardG ops a0 G) = true)
    (mono : ∀ g v w w', φ g v w → Below w.heap.size w w' → φ g v w')
    (mono2 : ∀ g h v u w w', ψ g h v u w → Below w.heap.size w w' → ψ g h v u w')
    (step : ∀ g ∈ G, ∀ o, ops[g]? = some o → ∀ (D : List Nat) (vs : Nat → Value) (a : Act) (w : World), (∀ e ∈ D, e ∈ G) → g ∉ D → (∀ e ∈ D, φ e (vs e) w) → (∀ e ∈ D, ∀ h ∈ D, e ≠ h → ψ e h (vs e) (vs h) w ∨ ψ h e (vs h) (vs e) w) → S w → Below w0.heap.size w0 w → (∀ t, (∀ k ∈ G, dstOf ops k ≠ some t) → a.tmps[t]? = a0.tmps[t]?) → (∀ e ∈ G, e ∈ aheadOf md ops g → e ∈ D ∧ ∀ t, dstOf ops e = some t → a.tmps[t]? = some (vs e)) →
      ∀ K : Act → World → Prop, Shut (∀ v w', S w' → φ g v w' → (∀ h ∈ D, ψ g h v (vs h) w') → Below w.heap.size w w' → K (a.put o.dst v) w') → Oper.wp P o a w K Q)
    (hS : S w0) (fin : ∀ vs w, S w → Below w0.heap.size w0 w → (∀ g ∈ G, φ g (vs g) w) → (∀ g ∈ G, ∀ h ∈ G, g ≠ h → ψ g h (vs g) (vs h) w ∨ ψ h g (vs h) (vs g) w) → wpAnyH P md ops Q S n (listG G listed) (fillG ops vs G a0) w) : wpAnyH P md ops Q S (n + G.length) listed a0 w0 := by
  obtain ⟨o1, o2, o3⟩ := order_facts ho
  obtain ⟨s1, s2⟩ := slots_facts hsl
  have hszL : ∀ g ∈ G, g < listed.size := fun g hg => (o1 g hg).1
  have key : ∀ (k : Nat) (D : List Nat) (vs : Nat → Value) (l : Array Bool) (a : Act) (w : World), (∀ g ∈ D, g ∈ G) → D.Nodup → D.length + k = G.length → l.size = listed.size → (∀ j d, l.getD j d = (D.contains j || listed.getD j d)) →
      (∀ g ∈ D, ∀ e ∈ aheadOf md ops g, l.getD e false = true) → MidG ops vs D a0 a → S w → Below w0.heap.size w0 w → (∀ g ∈ D, φ g (vs g) w) → (∀ g ∈ D, ∀ h ∈ D, g ≠ h → ψ g h (vs g) (vs h) w ∨ ψ h g (vs h) (vs g) w) → wpAnyH P md ops Q S (n + k) l a w := by
    intro k
    induction k with
    | zero =>
      intro D vs l a w hD hn hk hsz hl hc hM hSw hb hφ hψ
      have hDG : ∀ g, g ∈ D ↔ g ∈ G := fun g => ⟨hD g, nodup_full hn hD (by omega) g⟩
      have e1 : l = listG G listed := ext_getD (by rw [hsz, listG_size]) (fun j => by
        rw [hl, listG_getD _ _ _ _ hszL]
        congr 1
        have := hDG j
        simp only [List.contains_eq_mem]
        simp [this])
      have e2 : a = fillG ops vs G a0 := by
        have h0 : MidG ops vs [] a0 a0 := ⟨fun g h => by simp at h, fun _ _ => rfl, rfl, rfl⟩
        have := fill_mid h0 s1 (fun g _ k hk => by simp at hk) (fun g hg h hh hne => s2 g hg h hh o2 hne) (fun g _ h => by simp at h) o2
        exact (hM.perm (D' := G.reverse ++ []) (fun g => by rw [hDG g]; simp)).eq this
      subst e1 e2
      exact fin vs w hSw hb (fun g hg => hφ g ((hDG g).2 hg)) (fun g hg h hh => hψ g ((hDG g).2 hg) h ((hDG h).2 hh))
    | succ k ih =>
      intro D vs l a w hD hn hk hsz hl hc hM hSw hb hφ hψ
      have hlt : ∃ g, g ∈ G ∧ g ∉ D := by
        refine Classical.byContradiction fun h => ?_
        have hs : ∀ g ∈ G, g ∈ D := fun g hg => Classical.byContradiction fun h2 => h ⟨g, hg, h2⟩
        have := nodup_sub o2 hs
        omega
      have hin : ∀ i ∈ Region.ready md ops l, i ∈ G ∧ i ∉ D := by
        intro i hi
        obtain ⟨r1, r2, r3⟩ := ready_iff.1 hi
        have hiD : i ∉ D := fun h => by rw [hl, List.contains_eq_mem, decide_eq_true h] at r2; cases r2
        refine ⟨Classical.byContradiction fun hiG => ?_, hiD⟩
        have hir : i ∈ Region.ready md ops (listG G listed) := ready_iff.2 ⟨r1, by
          rw [listG_getD _ _ _ _ hszL, List.contains_eq_mem, decide_eq_false hiG, Bool.false_or]
          rw [hl, List.contains_eq_mem, decide_eq_false hiD, Bool.false_or] at r2
          exact r2, fun e he => by
          have := r3 e he
          rw [hl] at this
          rw [listG_getD _ _ _ _ hszL]
          rcases Bool.or_eq_true_iff.1 this with h | h
          · rw [List.contains_eq_mem] at h
            rw [List.contains_eq_mem, decide_eq_true (hD e (by simpa using h)), Bool.true_or]
          · rw [h, Bool.or_true]⟩
        rw [hr] at hir
        obtain rfl : i = m := by simpa using hir
        have hall := top_facts (p := fun e => l.getD e false = true) r3 (GG := G) (fun g hgG hg e he => by
          rw [hl] at hg
          rcases Bool.or_eq_true_iff.1 hg with h | h
          · exact hc g (by simpa using h) e he
          · have := (o1 g hgG).2
            have h2 := (o1 g hgG).1
            simp only [Array.getD_eq_getD_getElem?, Array.getElem?_eq_getElem h2, Option.getD_some] at h this
            rw [h] at this; cases this) (fun g hg => hg) ht
        obtain ⟨g, hg, hgD⟩ := hlt
        have h1 := hall g hg
        rw [hl, List.contains_eq_mem, decide_eq_false hgD, Bool.false_or] at h1
        have h2 := (o1 g hg).2
        have h3 := (o1 g hg).1
        simp only [Array.getD_eq_getD_getElem?, Array.getElem?_eq_getElem h3, Option.getD_some] at h1 h2
        rw [h1] at h2; cases h2
      have hl2 : ∀ (i : Nat), i ∈ G → ∀ j d, (l.setIfInBounds i true).getD j d = ((i :: D).contains j || listed.getD j d) := fun i hi j d => by
        rw [getD_set _ _ _ _ (by rw [hsz]; exact hszL i hi), hl, List.contains_cons]
        by_cases e : j = i
        · rw [if_pos e, show (j == i) = true by simpa using e, Bool.true_or, Bool.true_or]
        · rw [if_neg e, show (j == i) = false by simpa using e, Bool.false_or]
      show wpAnyH P md ops Q S (n + k + 1) l a w
      refine ⟨fun h0 => ?_, fun i hi => ?_⟩
      · obtain ⟨pre, g, post, e, h1, h2⟩ := first_not hlt
        have hgG : g ∈ G := by rw [e]; simp
        have : g ∈ Region.ready md ops l := ready_iff.2 ⟨?_, ?_, fun x hx => ?_⟩
        · rw [h0] at this; simp at this
        · obtain ⟨t, ht', _⟩ := s1 g hgG
          unfold dstOf at ht'
          cases hq : ops[g]? with
          | none => rw [hq] at ht'; cases ht'
          | some o => exact (Array.getElem?_eq_some_iff.1 hq).1
        · rw [hl, List.contains_eq_mem, decide_eq_false h2, Bool.false_or]; exact (o1 g hgG).2
        · rw [hl]
          rcases o3 pre post g e x hx with h | h
          · rw [h, Bool.or_true]
          · rw [List.contains_eq_mem, decide_eq_true (h1 x h), Bool.true_or]
      · obtain ⟨hiG, hiD⟩ := hin i hi
        obtain ⟨r1, r2, r3⟩ := ready_iff.1 hi
        obtain ⟨t, hdt, htz⟩ := s1 i hiG
        have hoi : ops[i]? = some ops[i] := Array.getElem?_eq_getElem r1
        have hg := List.all_eq_true.1 hgd i hiG
        have hdo : ops[i].dst = some t := by unfold dstOf at hdt; rw [hoi] at hdt; exact hdt
        unfold guardG at hg
        rw [hoi] at hg
        simp only [Bool.and_eq_true] at hg
        have hw : Region.wanted ops[i] (yielded ops a.tmps) = true := by
          have h1 := hg.1
          have h2 := hg.2
          unfold Region.wanted at h1 ⊢
          cases hq : ops[i].guard with
          | none => rfl
          | some jw =>
            obtain ⟨j, want⟩ := jw
            rw [hq] at h1 h2
            simp only [List.all_eq_true, bne_iff_ne] at h1 h2
            have : yielded ops a.tmps j = yielded ops a0.tmps j := by
              unfold yielded
              show (match (dstOf ops j).bind (a.tmps[·]?) with | some (.bool b) => some b | _ => none) = (match (dstOf ops j).bind (a0.tmps[·]?) with | some (.bool b) => some b | _ => none)
              cases hj : dstOf ops j with
              | none => rfl
              | some s =>
                simp only [Option.bind_some]
                rw [hM.other s (fun g hg' e => h2 g (hD g hg') (by rw [e, hj]))]
            show (yielded ops a.tmps j == some want) = true
            rw [this]; exact h1
        unfold wpOp
        rw [hoi]
        simp only [hw, if_true]
        refine .inl (step i hiG _ hoi D vs a w hD hiD hφ hψ hSw hb (fun s hs => hM.other s (fun g hg' => hs g (hD g hg'))) (fun e he hea => ?_) _ (fun v w' hS' hφ' hψ' hb' => ⟨hS', ?_⟩))
        · have heD : e ∈ D := by
            have := r3 e hea
            rw [hl] at this
            rcases Bool.or_eq_true_iff.1 this with h | h
            · simpa using h
            · have h2 := (o1 e he).2
              have h3 := (o1 e he).1
              simp only [Array.getD_eq_getD_getElem?, Array.getElem?_eq_getElem h3, Option.getD_some] at h h2
              rw [h] at h2; cases h2
          exact ⟨heD, fun s hs => hM.at' e heD s hs⟩
        · rw [hdo]
          refine ih (i :: D) (fun g => if g = i then v else vs g) _ _ w' (fun g hg' => ?_) (List.nodup_cons.2 ⟨hiD, hn⟩) (by simp only [List.length_cons]; omega) (by simpa using hsz) (hl2 i hiG) (fun g hg' e he => ?_) (hM.next hdt htz (fun q hq e => s2 q (hD q hq) i hiG o2 (fun e' => hiD (by rw [← e']; exact hq)) (by rw [e, hdt])) hiD v) hS' ?_ (fun g hg' => ?_) (fun g hg' h hh' hne => ?_)
          · rcases List.mem_cons.1 hg' with e | hg'
            · rw [e]; exact hiG
            · exact hD g hg'
          · rw [getD_set _ _ _ _ (by rw [hsz]; exact hszL i hiG)]
            split
            · rfl
            · rcases List.mem_cons.1 hg' with e' | hg'
              · rw [e'] at he; exact r3 e he
              · exact hc g hg' e he
          · exact hb.trans (hb'.mono hb.size)
          · rcases List.mem_cons.1 hg' with e | hg'
            · subst e; simp only [if_true]; exact hφ'
            · have : g ≠ i := fun e => hiD (by rw [← e]; exact hg')
              simp only [this, if_false]
              exact mono _ _ _ _ (hφ g hg') hb'
          · have ne : ∀ x ∈ D, x ≠ i := fun x hx e => hiD (by rw [← e]; exact hx)
            rcases List.mem_cons.1 hg' with e | gD
            · rcases List.mem_cons.1 hh' with e' | hD'
              · exact absurd (e.trans e'.symm) hne
              · left
                rw [e]
                simp only [if_true, ne h hD', if_false]
                exact hψ' h hD'
            · rcases List.mem_cons.1 hh' with e' | hD'
              · right
                rw [e']
                simp only [if_true, ne g gD, if_false]
                exact hψ' g gD
              · simp only [ne g gD, ne h hD', if_false]
                exact (hψ g gD h hD' hne).imp (fun q => mono2 _ _ _ _ _ _ q hb') (fun q => mono2 _ _ _ _ _ _ q hb')
  exact key G.length [] (fun _ => undef) listed a0 w0 (fun g h => by simp at h) List.nodup_nil (by simp) rfl (fun j d => by simp) (fun g h => by simp at h) ⟨fun g h => by simp at h, fun _ _ => rfl, rfl, rfl⟩ hS (Below.refl _ _) (fun g h => by simp at h) (fun g h => by simp at h)
end Go.Proofs.Ytennbiajnkobnaa

