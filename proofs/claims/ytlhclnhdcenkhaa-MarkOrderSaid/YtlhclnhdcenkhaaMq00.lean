/- Texts put together. -/
import Derived.OrdersHeld
import Derived.KernelRfl
import Derived.Tactics
import Derived.Deep.RegionHeld3
import Derived.OneCell
import Derived.Below
import Derived.Lib.Hide
import Derived.Test.YtlhclnhdcenkhaaRows
import Derived.WalkKit
import Derived.WalkSpells
import Derived.WalkLawsBesides
import Derived.PlainAid
import Derived.Deep.QuietTactic
import Derived.BigQuiet
import Derived.Sort.Grow
import Derived.Deep.Draws
import Derived.Deep.DrawnRows
import Derived.Handy
import Derived.Laws.CopyOwn
import Derived.Laws.MakeOwn
import Derived.Deep.RegionLaw
import Derived.Laws.AppendOwn
import Derived.Laws.AppendOwnNone
namespace Go.Proofs.Ytlhclnhdcenkhaa
theorem tk (i : Nat) (v : Value) {P : Program} {ops : Array Oper} {Q : Exit → Act → World → Prop} {md : Region.Mode} {S : World → Prop} {oi : Oper} {fuel : Nat} {listed : Array Bool} {a : Act} {w : World} (hi : ops[i]? = some oi)
  (hb : (Region.noSelect ops && Region.free md ops listed i && (Region.ready md ops listed).contains i) = true) (hQ : ∀ c a w, Q (.panic c) (a.put oi.dst v) w → Q (.panic c) a w) (hw : Region.wanted oi (yielded ops a.tmps) = true)
  (hy : ∀ w, S w → (execOp a.eval oi).run P w = .ok (.value v) w) (hS : S w) (h : wpAnyH P md ops Q S fuel (listed.setIfInBounds i true) (a.put oi.dst v) w) : wpAnyH P md ops Q S (fuel + 1) listed a w := by
 simp only [Bool.and_eq_true] at hb
 exact wpAnyH_take hi hb.1.1 hb.1.2 hb.2 hQ (.inl ⟨hw, hy⟩) hS h
theorem tk0 (i : Nat) {P : Program} {ops : Array Oper} {Q : Exit → Act → World → Prop} {md : Region.Mode} {S : World → Prop} {oi : Oper} {fuel : Nat} {listed : Array Bool} {a : Act} {w : World} (hi : ops[i]? = some oi)
  (hb : (Region.noSelect ops && Region.free md ops listed i && (Region.ready md ops listed).contains i) = true) (hQ : ∀ c a w, Q (.panic c) (a.put oi.dst undef) w → Q (.panic c) a w) (hw : Region.wanted oi (yielded ops a.tmps) = false)
  (hS : S w) (h : wpAnyH P md ops Q S fuel (listed.setIfInBounds i true) (a.put oi.dst undef) w) : wpAnyH P md ops Q S (fuel + 1) listed a w := by
 simp only [Bool.and_eq_true] at hb
 exact wpAnyH_take hi hb.1.1 hb.1.2 hb.2 hQ (.inr ⟨hw, rfl⟩) hS h
end Go.Proofs.Ytlhclnhdcenkhaa
namespace Go.Proofs.Ytlhclnhdcenkhaa
theorem tq (i : Nat) {v : Value} {P : Program} {ops : Array Oper} {Q : Exit → Act → World → Prop} {md : Region.Mode} {S : World → Prop} {oi : Oper} {fuel : Nat} {listed : Array Bool} {a a' : Act} {w : World}
  (h : wpAnyH P md ops Q S fuel (listed.setIfInBounds i true) a' w) (hi : ops[i]? = some oi := by rfl)
  (hb : (Region.noSelect ops && Region.free md ops listed i && (Region.ready md ops listed).contains i) = true := by kernel_rfl)
  (hw : Region.wanted oi (yielded ops a.tmps) = true := by rfl)
  (hy : ∀ w, S w → (execOp a.eval oi).run P w = .ok (.value v) w := by intro w hSw; (try dsimp only at hSw); go_simp; try (with_reducible rfl))
  (hQ : ∀ c a w, Q (.panic c) (a.put oi.dst v) w → Q (.panic c) a w := by exact fun _ _ _ h => h)
  (ha : a.put oi.dst v = a' := by try simp only [Act.put, List.getElem_toArray, List.getElem_cons_zero, List.getElem_cons_succ, List.setIfInBounds_toArray, List.set_cons_zero, List.set_cons_succ]; exact rfl)
  (hS : S w := by assumption) : wpAnyH P md ops Q S (fuel + 1) listed a w := by
 subst ha
 exact tk i v hi hb hQ hw hy hS h
theorem tq0 (i : Nat) {P : Program} {ops : Array Oper} {Q : Exit → Act → World → Prop} {md : Region.Mode} {S : World → Prop} {oi : Oper} {fuel : Nat} {listed : Array Bool} {a a' : Act} {w : World}
  (h : wpAnyH P md ops Q S fuel (listed.setIfInBounds i true) a' w) (hi : ops[i]? = some oi := by rfl)
  (hb : (Region.noSelect ops && Region.free md ops listed i && (Region.ready md ops listed).contains i) = true := by kernel_rfl)
  (hw : Region.wanted oi (yielded ops a.tmps) = false := by rfl)
  (hQ : ∀ c a w, Q (.panic c) (a.put oi.dst undef) w → Q (.panic c) a w := by exact fun _ _ _ h => h)
  (ha : a.put oi.dst undef = a' := by try simp only [Act.put, List.getElem_toArray, List.getElem_cons_zero, List.getElem_cons_succ, List.setIfInBounds_toArray, List.set_cons_zero, List.set_cons_succ]; exact rfl)
  (hS : S w := by assumption) : wpAnyH P md ops Q S (fuel + 1) listed a w := by
 subst ha
 exact tk0 i hi hb hQ hw hS h
theorem rd (i : Nat) {P : Program} {ops : Array Oper} {Q : Exit → Act → World → Prop} {md : Region.Mode} {S : World → Prop} {o : Oper} {fuel : Nat} {listed : Array Bool} {a : Act} {w : World}
 (h : ∀ K' : Act → World → Prop, Shut (∀ a w, S w → (S w → wpAnyH P md ops Q S fuel (listed.setIfInBounds i true) a w) → K' a w) → if Region.wanted o (yielded ops a.tmps) = true then Oper.wp P o a w K' Q else K' (a.put o.dst undef) w)
 (hr : Region.ready md ops listed = [i] := by kernel_rfl) (ho : ops[i]? = some o := by rfl) : wpAnyH P md ops Q S (fuel + 1) listed a w := wpAnyH_ready hr (by simp) (AllReadyH.cons ho h AllReadyH.nil)
end Go.Proofs.Ytlhclnhdcenkhaa
namespace Go.Proofs.Ytlhclnhdcenkhaa
open Go.RowKit
def dstOf (ops : Array Oper) (g : Nat) : Option Tmp := (ops[g]?).bind (·.dst)
/-- Those that an operation waits for by name. -/
def aheadOf (md : Region.Mode) (ops : Array Oper) (g : Nat) : List Nat := (((ops[g]?).map fun o => (o.after.toList.filter (Region.binds md ·)).map (·.on))).getD []
def fillG (ops : Array Oper) (vs : Nat → Value) : List Nat → Act → Act
 | [], a => a
 | g :: r, a => fillG ops vs r (a.put (dstOf ops g) (vs g))
def listG : List Nat → Array Bool → Array Bool
 | [], l => l
 | g :: r, l => listG r (l.setIfInBounds g true)
/-- Each of them waits for what is listed, or stands ahead in the row. -/
def orderG (md : Region.Mode) (ops : Array Oper) : List Nat → Array Bool → Bool
 | [], _ => true
 | g :: r, l => decide (g < l.size) && !(l.getD g true) && (aheadOf md ops g).all (fun e => l.getD e false) && orderG md ops r (l.setIfInBounds g true)
/-- Each of them is waited for by one that stands behind in the row, or by m. -/
def topG (md : Region.Mode) (ops : Array Oper) (m : Nat) : List Nat → Bool
 | [] => true
 | g :: r => (m :: r).any (fun p => (aheadOf md ops p).contains g) && topG md ops m r
def slotsG (ops : Array Oper) (n : Nat) : List Nat → Bool
 | [] => true
 | g :: r => (match dstOf ops g with
  | some t => decide (t < n) && r.all (fun h => dstOf ops h != some t)
  | none => false) && slotsG ops n r
def guardG (ops : Array Oper) (a0 : Act) (G : List Nat) (g : Nat) : Bool := match ops[g]? with
 | none => false
 | some o => Region.wanted o (yielded ops a0.tmps) && (match o.guard with
  | none => true
  | some (j, _) => G.all (fun h => dstOf ops h != dstOf ops j))
theorem ready_iff {md : Region.Mode} {ops : Array Oper} {l : Array Bool} {i : Nat} : i ∈ Region.ready md ops l ↔ i < ops.size ∧ l.getD i true = false ∧ ∀ e ∈ aheadOf md ops i, l.getD e false = true := by
 unfold Region.ready aheadOf
 rw [List.mem_filter, List.mem_range]
 constructor
 ·rintro ⟨h1, h2⟩
  simp only [Bool.and_eq_true, Bool.not_eq_true'] at h2
  refine ⟨h1, h2.1, fun e he => ?_⟩
  rw [Array.getElem?_eq_getElem h1] at h2 he
  simp only [Option.map_some, Option.getD_some, Array.all_eq_true, Bool.or_eq_true, Bool.not_eq_true', List.mem_map, List.mem_filter, Array.mem_toList_iff] at h2 he
  obtain ⟨x, ⟨hx, hb⟩, rfl⟩ := he
  obtain ⟨k, hk, rfl⟩ := Array.mem_iff_getElem.1 hx
  rcases h2.2 k hk with h | h
  ·rw [hb] at h; cases h
  ·exact h
 ·rintro ⟨h1, h2, h3⟩
  refine ⟨h1, ?_⟩
  rw [Array.getElem?_eq_getElem h1] at h3 ⊢
  simp only [Option.map_some, Option.getD_some, List.mem_map, List.mem_filter, Array.mem_toList_iff, forall_exists_index, and_imp] at h3
  simp only [Option.map_some, Option.getD_some, Bool.and_eq_true, Bool.not_eq_true', Array.all_eq_true, Bool.or_eq_true]
  refine ⟨h2, fun k hk => ?_⟩
  cases hb : Region.binds md ops[i].after[k] with
  | false => exact .inl rfl
  | true => exact .inr (h3 _ _ (Array.getElem_mem hk) hb rfl)
theorem getD_set (l : Array Bool) (i j : Nat) (d : Bool) (hi : i < l.size) : (l.setIfInBounds i true).getD j d = if j = i then true else l.getD j d := by
 simp only [Array.getD_eq_getD_getElem?, Array.getElem?_setIfInBounds]
 by_cases h : i = j
 ·subst h; simp [hi]
 ·rw [if_neg h, if_neg (fun e => h e.symm)]
theorem listG_size (G : List Nat) : ∀ l : Array Bool, (listG G l).size = l.size := by
 induction G with
 | nil => intro l; rfl
 | cons g r ih => intro l; unfold listG; rw [ih]; simp
theorem listG_getD (G : List Nat) : ∀ (l : Array Bool) (j : Nat) (d : Bool), (∀ g ∈ G, g < l.size) → (listG G l).getD j d = (G.contains j || l.getD j d) := by
 induction G with
 | nil => intro l j d _; simp [listG]
 | cons g r ih =>
  intro l j d h
  unfold listG
  rw [ih _ _ _ (fun x hx => by simpa using h x (List.mem_cons_of_mem _ hx)), getD_set _ _ _ _ (h g (List.mem_cons_self ..)), List.contains_cons]
  by_cases e : j = g
  ·subst e; simp
  ·rw [if_neg e, show (j == g) = false by simpa using e, Bool.false_or]
theorem ext_getD {l l' : Array Bool} (hs : l.size = l'.size) (h : ∀ j, l.getD j true = l'.getD j true) : l = l' := by
 refine Array.ext hs (fun i h1 h2 => ?_)
 have := h i
 simpa [Array.getD_eq_getD_getElem?, h1, h2] using this
theorem order_facts {md : Region.Mode} {ops : Array Oper} : ∀ {G : List Nat} {l : Array Bool}, orderG md ops G l = true → (∀ g ∈ G, g < l.size ∧ l.getD g true = false) ∧ G.Nodup ∧
  ∀ (pre post : List Nat) (g : Nat), G = pre ++ g :: post → ∀ e ∈ aheadOf md ops g, l.getD e false = true ∨ e ∈ pre := by
 intro G
 induction G with
 | nil => intro l _; exact ⟨fun g h => by simp at h, List.nodup_nil, fun pre post g h => by simp at h⟩
 | cons x r ih =>
  intro l h
  unfold orderG at h
  simp only [Bool.and_eq_true, decide_eq_true_eq, Bool.not_eq_true', List.all_eq_true] at h
  obtain ⟨⟨⟨h1, h2⟩, h3⟩, h4⟩ := h
  obtain ⟨i1, i2, i3⟩ := ih h4
  have hx : x ∉ r := fun hx => by have := (i1 x hx).2; rw [getD_set _ _ _ _ h1, if_pos rfl] at this; cases this
  refine ⟨fun g hg => ?_, List.nodup_cons.2 ⟨hx, i2⟩, fun pre post g hg e he => ?_⟩
  ·rcases List.mem_cons.1 hg with rfl | hg
   ·exact ⟨h1, h2⟩
   ·have := i1 g hg
    rw [getD_set _ _ _ _ h1] at this
    by_cases e : g = x
    ·rw [if_pos e] at this; exact absurd this.2 (by simp)
    ·rw [if_neg e] at this; exact ⟨by simpa using this.1, this.2⟩
  ·cases pre with
   | nil => simp at hg; obtain ⟨rfl, rfl⟩ := hg; exact .inl (h3 e he)
   | cons y pre =>
    simp at hg
    obtain ⟨rfl, hg⟩ := hg
    rcases i3 pre post g hg e he with h | h
    ·rw [getD_set _ _ _ _ h1] at h
     by_cases ex : e = x
     ·exact .inr (by simp [ex])
     ·rw [if_neg ex] at h; exact .inl h
    ·exact .inr (List.mem_cons_of_mem _ h)
theorem top_facts {md : Region.Mode} {ops : Array Oper} {m : Nat} {p : Nat → Prop} (hm : ∀ e ∈ aheadOf md ops m, p e) {GG : List Nat} (hc : ∀ g ∈ GG, p g → ∀ e ∈ aheadOf md ops g, p e) : ∀ {G : List Nat}, (∀ g ∈ G, g ∈ GG) → topG md ops m G = true → ∀ g ∈ G, p g := by
 intro G
 induction G with
 | nil => intro _ _ g h; simp at h
 | cons x r ih =>
  intro hsub h
  unfold topG at h
  simp only [Bool.and_eq_true, List.any_eq_true] at h
  obtain ⟨⟨q, hq, hqx⟩, hr⟩ := h
  have hr := ih (fun g hg => hsub g (List.mem_cons_of_mem _ hg)) hr
  intro g hg
  rcases List.mem_cons.1 hg with rfl | hg
  ·rcases List.mem_cons.1 hq with rfl | hq
   ·exact hm _ (by simpa using hqx)
   ·exact hc q (hsub q (List.mem_cons_of_mem _ hq)) (hr q hq) _ (by simpa using hqx)
  ·exact hr g hg
theorem nodup_sub : ∀ {D G : List Nat}, D.Nodup → (∀ g ∈ D, g ∈ G) → D.length ≤ G.length := by
 intro D
 induction D with
 | nil => intro G _ _; simp
 | cons x r ih =>
  intro G hn hs
  have hn := List.nodup_cons.1 hn
  have hx : x ∈ G := hs x (List.mem_cons_self ..)
  have h := ih (G := G.erase x) hn.2 (fun g hg => (List.mem_erase_of_ne (fun e => hn.1 (by rw [← e]; exact hg))).2 (hs g (List.mem_cons_of_mem _ hg)))
  have h2 := List.length_erase_of_mem hx
  have h3 := List.length_pos_of_mem hx
  simp only [List.length_cons]
  omega
theorem nodup_full {D G : List Nat} (hn : D.Nodup) (hs : ∀ g ∈ D, g ∈ G) (hl : G.length ≤ D.length) : ∀ g ∈ G, g ∈ D := fun g hg => Classical.byContradiction fun h => by
 have := nodup_sub (D := g :: D) (List.nodup_cons.2 ⟨h, hn⟩) (fun x hx => by
  rcases List.mem_cons.1 hx with rfl | hx
  ·exact hg
  ·exact hs x hx)
 simp only [List.length_cons] at this
 omega
theorem first_not {D : List Nat} : ∀ {G : List Nat}, (∃ g, g ∈ G ∧ g ∉ D) → ∃ pre g post, G = pre ++ g :: post ∧ (∀ x ∈ pre, x ∈ D) ∧ g ∉ D := by
 intro G
 induction G with
 | nil => rintro ⟨g, h, _⟩; simp at h
 | cons x r ih =>
  intro h
  by_cases hx : x ∈ D
  ·obtain ⟨pre, g, post, e, h1, h2⟩ := ih (by
    obtain ⟨g, hg, hn⟩ := h
    rcases List.mem_cons.1 hg with e | hg
    ·exact absurd (e ▸ hx) hn
    ·exact ⟨g, hg, hn⟩)
   exact ⟨x :: pre, g, post, by rw [e]; rfl, fun y hy => by
    rcases List.mem_cons.1 hy with e | hy
    ·rw [e]; exact hx
    ·exact h1 y hy, h2⟩
  ·exact ⟨[], x, r, rfl, fun y hy => by simp at hy, hx⟩
theorem slots_facts {ops : Array Oper} {n : Nat} : ∀ {G : List Nat}, slotsG ops n G = true → (∀ g ∈ G, ∃ t, dstOf ops g = some t ∧ t < n) ∧ ∀ g ∈ G, ∀ h ∈ G, G.Nodup → g ≠ h → dstOf ops g ≠ dstOf ops h := by
 intro G
 induction G with
 | nil => intro _; exact ⟨fun g h => by simp at h, fun g h => by simp at h⟩
 | cons x r ih =>
  intro h
  unfold slotsG at h
  simp only [Bool.and_eq_true] at h
  obtain ⟨h1, h2⟩ := h
  obtain ⟨i1, i2⟩ := ih h2
  cases hd : dstOf ops x with
  | none => rw [hd] at h1; cases h1
  | some t =>
   rw [hd] at h1
   simp only [Bool.and_eq_true, decide_eq_true_eq, List.all_eq_true, bne_iff_ne] at h1
   refine ⟨fun g hg => ?_, fun g hg k hk hn hne => ?_⟩
   ·rcases List.mem_cons.1 hg with rfl | hg
    ·exact ⟨t, hd, h1.1⟩
    ·exact i1 g hg
   ·rcases List.mem_cons.1 hg with e | hgr
    ·subst e
     rcases List.mem_cons.1 hk with e | hk
     ·exact absurd e.symm hne
     ·rw [hd]; exact fun e => h1.2 k hk e.symm
    ·rcases List.mem_cons.1 hk with e | hk
     ·rw [e, hd]; exact h1.2 g hgr
     ·exact i2 g hgr k hk (List.nodup_cons.1 hn).2 hne
/-- The frame while some have come up. -/
structure MidG (ops : Array Oper) (vs : Nat → Value) (D : List Nat) (a0 a : Act) : Prop where
 at' : ∀ g ∈ D, ∀ t, dstOf ops g = some t → a.tmps[t]? = some (vs g)
 other : ∀ t, (∀ g ∈ D, dstOf ops g ≠ some t) → a.tmps[t]? = a0.tmps[t]?
 size : a.tmps.size = a0.tmps.size
 defers : a.defers = a0.defers
theorem put_get (a : Act) (t : Nat) (v : Value) (s : Nat) (ht : t < a.tmps.size) : (a.put (some t) v).tmps[s]? = if s = t then some v else a.tmps[s]? := by
 show (a.tmps.setIfInBounds t v)[s]? = _
 rw [Array.getElem?_setIfInBounds]
 by_cases h : t = s
 ·subst h; simp [ht]
 ·rw [if_neg h, if_neg (fun e => h e.symm)]
theorem MidG.next {ops : Array Oper} {vs : Nat → Value} {D : List Nat} {a0 a : Act} (h : MidG ops vs D a0 a) {g t : Nat} (hg : dstOf ops g = some t) (ht : t < a0.tmps.size) (hD : ∀ k ∈ D, dstOf ops k ≠ some t) (hn : g ∉ D) (v : Value) :
  MidG ops (fun k => if k = g then v else vs k) (g :: D) a0 (a.put (some t) v) := by
 have hts : t < a.tmps.size := by rw [h.size]; exact ht
 refine ⟨fun k hk s hs => ?_, fun s hs => ?_, ?_, h.defers⟩
 ·rw [put_get _ _ _ _ hts]
  rcases List.mem_cons.1 hk with e | hk
  ·subst e; rw [hg] at hs; cases hs; simp
  ·have : s ≠ t := fun e => hD k hk (by rw [hs, e])
   rw [if_neg this, h.at' k hk s hs, if_neg (fun e : k = g => hn (by rw [← e]; exact hk))]
 ·rw [put_get _ _ _ _ hts, if_neg (fun e => hs g (List.mem_cons_self ..) (by rw [hg, e]))]
  exact h.other s (fun k hk => hs k (List.mem_cons_of_mem _ hk))
 ·show (a.tmps.setIfInBounds t v).size = _
  simp [h.size]
theorem MidG.eq {ops : Array Oper} {vs : Nat → Value} {D : List Nat} {a0 a b : Act} (h : MidG ops vs D a0 a) (h' : MidG ops vs D a0 b) : a = b := by
 obtain ⟨t1, d1⟩ := a
 obtain ⟨t2, d2⟩ := b
 have e1 : d1 = d2 := h.defers.trans h'.defers.symm
 have e2 : t1 = t2 := by
  apply Array.ext_getElem?
  intro s
  by_cases hs : ∃ g ∈ D, dstOf ops g = some s
  ·obtain ⟨g, hg, e⟩ := hs
   exact (h.at' g hg s e).trans (h'.at' g hg s e).symm
  ·have hs' : ∀ g ∈ D, dstOf ops g ≠ some s := fun g hg e => hs ⟨g, hg, e⟩
   exact (h.other s hs').trans (h'.other s hs').symm
 rw [e1, e2]
theorem fill_mid {ops : Array Oper} {vs : Nat → Value} {a0 : Act} : ∀ {G D : List Nat} {a : Act}, MidG ops vs D a0 a → (∀ g ∈ G, ∃ t, dstOf ops g = some t ∧ t < a0.tmps.size) → (∀ g ∈ G, ∀ k ∈ D, dstOf ops k ≠ dstOf ops g) → (∀ g ∈ G, ∀ h ∈ G, g ≠ h → dstOf ops g ≠ dstOf ops h) → (∀ g ∈ G, g ∉ D) → G.Nodup → MidG ops vs (G.reverse ++ D) a0 (fillG ops vs G a) := by
 intro G
 induction G with
 | nil => intro D a h _ _ _ _ _; exact h
 | cons g r ih =>
  intro D a h h1 h2 h3 h4 h5
  obtain ⟨t, e, ht⟩ := h1 g (List.mem_cons_self ..)
  have hn := List.nodup_cons.1 h5
  have h' := h.next e ht (fun k hk => by rw [← e]; exact h2 g (List.mem_cons_self ..) k hk) (h4 g (List.mem_cons_self ..)) (vs g)
  have hv : (fun k => if k = g then vs g else vs k) = vs := by funext k; split <;> simp_all
  rw [hv] at h'
  have := ih h' (fun k hk => h1 k (List.mem_cons_of_mem _ hk)) (fun k hk j hj => by
   rcases List.mem_cons.1 hj with rfl | hj
   ·exact h3 _ (List.mem_cons_self ..) k (List.mem_cons_of_mem _ hk) (fun e' => hn.1 (e' ▸ hk))
   ·exact h2 k (List.mem_cons_of_mem _ hk) j hj) (fun k hk j hj hne => h3 k (List.mem_cons_of_mem _ hk) j (List.mem_cons_of_mem _ hj) hne)
   (fun k hk hj => by
    rcases List.mem_cons.1 hj with rfl | hj
    ·exact hn.1 hk
    ·exact h4 k (List.mem_cons_of_mem _ hk) hj) hn.2
  unfold fillG
  rw [e]
  simpa using this
theorem MidG.perm {ops : Array Oper} {vs : Nat → Value} {D D' : List Nat} {a0 a : Act} (h : MidG ops vs D a0 a) (hD : ∀ g, g ∈ D ↔ g ∈ D') : MidG ops vs D' a0 a :=
 ⟨fun g hg => h.at' g ((hD g).2 hg), fun t ht => h.other t (fun g hg => ht g ((hD g).1 hg)), h.size, h.defers⟩
/-- **Operations that may come up in any order, at once**: G, in an order in which each may come up; m waits for all of them; 'step': what each yields means what it should, whatever came up ahead. -/
theorem wpAnyH_group {P : Program} {md : Region.Mode} {ops : Array Oper} {Q : Exit → Act → World → Prop} {S : World → Prop} (G : List Nat) (m : Nat) (φ : Nat → Value → World → Prop) (ψ : Nat → Nat → Value → Value → World → Prop) {listed : Array Bool} {a0 : Act} {w0 : World} {n : Nat}
    (hr : Region.ready md ops (listG G listed) = [m]) (ho : orderG md ops G listed = true) (ht : topG md ops m G = true) (hsl : slotsG ops a0.tmps.size G = true) (hgd : G.all (guardG ops a0 G) = true)
    (mono : ∀ g v w w', φ g v w → Below w.heap.size w w' → φ g v w')
    (mono2 : ∀ g h v u w w', ψ g h v u w → Below w.heap.size w w' → ψ g h v u w')
    (step : ∀ g ∈ G, ∀ o, ops[g]? = some o → ∀ (D : List Nat) (vs : Nat → Value) (a : Act) (w : World), (∀ e ∈ D, e ∈ G) → g ∉ D → (∀ e ∈ D, φ e (vs e) w) → (∀ e ∈ D, ∀ h ∈ D, e ≠ h → ψ e h (vs e) (vs h) w ∨ ψ h e (vs h) (vs e) w) → S w → Below w0.heap.size w0 w → (∀ t, (∀ k ∈ G, dstOf ops k ≠ some t) → a.tmps[t]? = a0.tmps[t]?) → (∀ e ∈ G, e ∈ aheadOf md ops g → e ∈ D ∧ ∀ t, dstOf ops e = some t → a.tmps[t]? = some (vs e)) →
      ∀ K : Act → World → Prop, Shut (∀ v w', S w' → φ g v w' → (∀ h ∈ D, ψ g h v (vs h) w') → Below w.heap.size w w' → K (a.put o.dst v) w') → Oper.wp P o a w K Q)
    (hS : S w0) (fin : ∀ vs w, S w → Below w0.heap.size w0 w → (∀ g ∈ G, φ g (vs g) w) → (∀ g ∈ G, ∀ h ∈ G, g ≠ h → ψ g h (vs g) (vs h) w ∨ ψ h g (vs h) (vs g) w) → wpAnyH P md ops Q S n (listG G listed) (fillG ops vs G a0) w) : wpAnyH P md ops Q S (n + G.length) listed a0 w0 := by
  obtain ⟨o1, o2, o3⟩ := order_facts ho
  obtain ⟨s1, s2⟩ := slots_facts hsl
  have hszL : ∀ g ∈ G, g < listed.size := fun g hg => (o1 g hg).1
  have key : ∀ (k : Nat) (D : List Nat) (vs : Nat → Value) (l : Array Bool) (a : Act) (w : World), (∀ g ∈ D, g ∈ G) → D.Nodup → D.length + k = G.length → l.size = listed.size → (∀ j d, l.getD j d = (D.contains j || listed.getD j d)) →
      (∀ g ∈ D, ∀ e ∈ aheadOf md ops g, l.getD e false = true) → MidG ops vs D a0 a → S w → Below w0.heap.size w0 w → (∀ g ∈ D, φ g (vs g) w) → (∀ g ∈ D, ∀ h ∈ D, g ≠ h → ψ g h (vs g) (vs h) w ∨ ψ h g (vs h) (vs g) w) → wpAnyH P md ops Q S (n + k) l a w := by
    intro k
    induction k with
    | zero =>
      intro D vs l a w hD hn hk hsz hl hc hM hSw hb hφ hψ
      have hDG : ∀ g, g ∈ D ↔ g ∈ G := fun g => ⟨hD g, nodup_full hn hD (by omega) g⟩
      have e1 : l = listG G listed := ext_getD (by rw [hsz, listG_size]) (fun j => by
        rw [hl, listG_getD _ _ _ _ hszL]
        congr 1
        have := hDG j
        simp only [List.contains_eq_mem]
        simp [this])
      have e2 : a = fillG ops vs G a0 := by
        have h0 : MidG ops vs [] a0 a0 := ⟨fun g h => by simp at h, fun _ _ => rfl, rfl, rfl⟩
        have := fill_mid h0 s1 (fun g _ k hk => by simp at hk) (fun g hg h hh hne => s2 g hg h hh o2 hne) (fun g _ h => by simp at h) o2
        exact (hM.perm (D' := G.reverse ++ []) (fun g => by rw [hDG g]; simp)).eq this
      subst e1 e2
      exact fin vs w hSw hb (fun g hg => hφ g ((hDG g).2 hg)) (fun g hg h hh => hψ g ((hDG g).2 hg) h ((hDG h).2 hh))
    | succ k ih =>
      intro D vs l a w hD hn hk hsz hl hc hM hSw hb hφ hψ
      have hlt : ∃ g, g ∈ G ∧ g ∉ D := by
        refine Classical.byContradiction fun h => ?_
        have hs : ∀ g ∈ G, g ∈ D := fun g hg => Classical.byContradiction fun h2 => h ⟨g, hg, h2⟩
        have := nodup_sub o2 hs
        omega
      have hin : ∀ i ∈ Region.ready md ops l, i ∈ G ∧ i ∉ D := by
        intro i hi
        obtain ⟨r1, r2, r3⟩ := ready_iff.1 hi
        have hiD : i ∉ D := fun h => by rw [hl, List.contains_eq_mem, decide_eq_true h] at r2; cases r2
        refine ⟨Classical.byContradiction fun hiG => ?_, hiD⟩
        have hir : i ∈ Region.ready md ops (listG G listed) := ready_iff.2 ⟨r1, by
          rw [listG_getD _ _ _ _ hszL, List.contains_eq_mem, decide_eq_false hiG, Bool.false_or]
          rw [hl, List.contains_eq_mem, decide_eq_false hiD, Bool.false_or] at r2
          exact r2, fun e he => by
          have := r3 e he
          rw [hl] at this
          rw [listG_getD _ _ _ _ hszL]
          rcases Bool.or_eq_true_iff.1 this with h | h
          · rw [List.contains_eq_mem] at h
            rw [List.contains_eq_mem, decide_eq_true (hD e (by simpa using h)), Bool.true_or]
          · rw [h, Bool.or_true]⟩
        rw [hr] at hir
        obtain rfl : i = m := by simpa using hir
        have hall := top_facts (p := fun e => l.getD e false = true) r3 (GG := G) (fun g hgG hg e he => by
          rw [hl] at hg
          rcases Bool.or_eq_true_iff.1 hg with h | h
          · exact hc g (by simpa using h) e he
          · have := (o1 g hgG).2
            have h2 := (o1 g hgG).1
            simp only [Array.getD_eq_getD_getElem?, Array.getElem?_eq_getElem h2, Option.getD_some] at h this
            rw [h] at this; cases this) (fun g hg => hg) ht
        obtain ⟨g, hg, hgD⟩ := hlt
        have h1 := hall g hg
        rw [hl, List.contains_eq_mem, decide_eq_false hgD, Bool.false_or] at h1
        have h2 := (o1 g hg).2
        have h3 := (o1 g hg).1
        simp only [Array.getD_eq_getD_getElem?, Array.getElem?_eq_getElem h3, Option.getD_some] at h1 h2
        rw [h1] at h2; cases h2
      have hl2 : ∀ (i : Nat), i ∈ G → ∀ j d, (l.setIfInBounds i true).getD j d = ((i :: D).contains j || listed.getD j d) := fun i hi j d => by
        rw [getD_set _ _ _ _ (by rw [hsz]; exact hszL i hi), hl, List.contains_cons]
        by_cases e : j = i
        · rw [if_pos e, show (j == i) = true by simpa using e, Bool.true_or, Bool.true_or]
        · rw [if_neg e, show (j == i) = false by simpa using e, Bool.false_or]
      show wpAnyH P md ops Q S (n + k + 1) l a w
      refine ⟨fun h0 => ?_, fun i hi => ?_⟩
      · obtain ⟨pre, g, post, e, h1, h2⟩ := first_not hlt
        have hgG : g ∈ G := by rw [e]; simp
        have : g ∈ Region.ready md ops l := ready_iff.2 ⟨?_, ?_, fun x hx => ?_⟩
        · rw [h0] at this; simp at this
        · obtain ⟨t, ht', _⟩ := s1 g hgG
          unfold dstOf at ht'
          cases hq : ops[g]? with
          | none => rw [hq] at ht'; cases ht'
          | some o => exact (Array.getElem?_eq_some_iff.1 hq).1
        · rw [hl, List.contains_eq_mem, decide_eq_false h2, Bool.false_or]; exact (o1 g hgG).2
        · rw [hl]
          rcases o3 pre post g e x hx with h | h
          · rw [h, Bool.or_true]
          · rw [List.contains_eq_mem, decide_eq_true (h1 x h), Bool.true_or]
      · obtain ⟨hiG, hiD⟩ := hin i hi
        obtain ⟨r1, r2, r3⟩ := ready_iff.1 hi
        obtain ⟨t, hdt, htz⟩ := s1 i hiG
        have hoi : ops[i]? = some ops[i] := Array.getElem?_eq_getElem r1
        have hg := List.all_eq_true.1 hgd i hiG
        have hdo : ops[i].dst = some t := by unfold dstOf at hdt; rw [hoi] at hdt; exact hdt
        unfold guardG at hg
        rw [hoi] at hg
        simp only [Bool.and_eq_true] at hg
        have hw : Region.wanted ops[i] (yielded ops a.tmps) = true := by
          have h1 := hg.1
          have h2 := hg.2
          unfold Region.wanted at h1 ⊢
          cases hq : ops[i].guard with
          | none => rfl
          | some jw =>
            obtain ⟨j, want⟩ := jw
            rw [hq] at h1 h2
            simp only [List.all_eq_true, bne_iff_ne] at h1 h2
            have : yielded ops a.tmps j = yielded ops a0.tmps j := by
              unfold yielded
              show (match (dstOf ops j).bind (a.tmps[·]?) with | some (.bool b) => some b | _ => none) = (match (dstOf ops j).bind (a0.tmps[·]?) with | some (.bool b) => some b | _ => none)
              cases hj : dstOf ops j with
              | none => rfl
              | some s =>
                simp only [Option.bind_some]
                rw [hM.other s (fun g hg' e => h2 g (hD g hg') (by rw [e, hj]))]
            show (yielded ops a.tmps j == some want) = true
            rw [this]; exact h1
        unfold wpOp
        rw [hoi]
        simp only [hw, if_true]
        refine .inl (step i hiG _ hoi D vs a w hD hiD hφ hψ hSw hb (fun s hs => hM.other s (fun g hg' => hs g (hD g hg'))) (fun e he hea => ?_) _ (fun v w' hS' hφ' hψ' hb' => ⟨hS', ?_⟩))
        · have heD : e ∈ D := by
            have := r3 e hea
            rw [hl] at this
            rcases Bool.or_eq_true_iff.1 this with h | h
            · simpa using h
            · have h2 := (o1 e he).2
              have h3 := (o1 e he).1
              simp only [Array.getD_eq_getD_getElem?, Array.getElem?_eq_getElem h3, Option.getD_some] at h h2
              rw [h] at h2; cases h2
          exact ⟨heD, fun s hs => hM.at' e heD s hs⟩
        · rw [hdo]
          refine ih (i :: D) (fun g => if g = i then v else vs g) _ _ w' (fun g hg' => ?_) (List.nodup_cons.2 ⟨hiD, hn⟩) (by simp only [List.length_cons]; omega) (by simpa using hsz) (hl2 i hiG) (fun g hg' e he => ?_) (hM.next hdt htz (fun q hq e => s2 q (hD q hq) i hiG o2 (fun e' => hiD (by rw [← e']; exact hq)) (by rw [e, hdt])) hiD v) hS' ?_ (fun g hg' => ?_) (fun g hg' h hh' hne => ?_)
          · rcases List.mem_cons.1 hg' with e | hg'
            · rw [e]; exact hiG
            · exact hD g hg'
          · rw [getD_set _ _ _ _ (by rw [hsz]; exact hszL i hiG)]
            split
            · rfl
            · rcases List.mem_cons.1 hg' with e' | hg'
              · rw [e'] at he; exact r3 e he
              · exact hc g hg' e he
          · exact hb.trans (hb'.mono hb.size)
          · rcases List.mem_cons.1 hg' with e | hg'
            · subst e; simp only [if_true]; exact hφ'
            · have : g ≠ i := fun e => hiD (by rw [← e]; exact hg')
              simp only [this, if_false]
              exact mono _ _ _ _ (hφ g hg') hb'
          · have ne : ∀ x ∈ D, x ≠ i := fun x hx e => hiD (by rw [← e]; exact hx)
            rcases List.mem_cons.1 hg' with e | gD
            · rcases List.mem_cons.1 hh' with e' | hD'
              · exact absurd (e.trans e'.symm) hne
              · left
                rw [e]
                simp only [if_true, ne h hD', if_false]
                exact hψ' h hD'
            · rcases List.mem_cons.1 hh' with e' | hD'
              · right
                rw [e']
                simp only [if_true, ne g gD, if_false]
                exact hψ' g gD
              · simp only [ne g gD, ne h hD', if_false]
                exact (hψ g gD h hD' hne).imp (fun q => mono2 _ _ _ _ _ _ q hb') (fun q => mono2 _ _ _ _ _ _ q hb')
  exact key G.length [] (fun _ => undef) listed a0 w0 (fun g h => by simp at h) List.nodup_nil (by simp) rfl (fun j d => by simp) (fun g h => by simp at h) ⟨fun g h => by simp at h, fun _ _ => rfl, rfl, rfl⟩ hS (Below.refl _ _) (fun g h => by simp at h) (fun g h => by simp at h)
end Go.Proofs.Ytlhclnhdcenkhaa
namespace Go.Proofs.Ytlhclnhdcenkhaa
abbrev Lks := List (Int × Int)
def lk (L : Lks) (i : Nat) : Int × Int := L.getD i (0, 0)
theorem lk_mem {L : Lks} {i : Nat} (h : i < L.length) : lk L i ∈ L := by
 unfold lk; simp only [List.getD, List.getElem?_eq_getElem h, Option.getD_some]; exact List.getElem_mem h
theorem mem_lk {L : Lks} {p : Int × Int} (h : p ∈ L) : ∃ i, i < L.length ∧ lk L i = p := by
 obtain ⟨i, hi, rfl⟩ := List.getElem_of_mem h
 exact ⟨i, hi, by simp [lk, List.getD, hi]⟩
/-- A way of so many links. -/
def Way (L : Lks) : Nat → Int → Int → Prop
 | 0, a, b => a = b
 | k + 1, a, b => ∃ c, Way L k a c ∧ (c, b) ∈ L
/-- How far a node is, k links, and no fewer. -/
def Far (L : Lks) (k : Nat) (a b : Int) : Prop := Way L k a b ∧ ∀ j, j < k → ¬ Way L j a b
theorem Far.eq {L : Lks} {j k : Nat} {a b : Int} (h : Far L j a b) (h' : Far L k a b) : j = k := by
 rcases Nat.lt_trichotomy j k with g | g | g
 ·exact absurd h.1 (h'.2 j g)
 ·exact g
 ·exact absurd h'.1 (h.2 k g)
theorem far_of_way {L : Lks} {a b : Int} : ∀ {k : Nat}, Way L k a b → ∃ j, j ≤ k ∧ Far L j a b := by
 intro k
 induction k using Nat.strongRecOn with
 | ind k ih =>
  intro h
  by_cases hm : ∃ j, j < k ∧ Way L j a b
  ·obtain ⟨j, hj, hw⟩ := hm
   obtain ⟨i, hi, hf⟩ := ih j hj hw
   exact ⟨i, by omega, hf⟩
  ·exact ⟨k, Nat.le_refl _, h, fun j hj hw => hm ⟨j, hj, hw⟩⟩
/-- What Dist tells, of nodes 0 to n - 1. -/
def IsDist (n : Nat) (L : Lks) (a : Int) (d : List Int) : Prop :=
 d.length = n ∧ ∀ y : Nat, y < n → (∃ k : Nat, d.getD y (-1) = (k : Int) ∧ Far L k a y) ∨ (d.getD y (-1) = -1 ∧ ∀ k, ¬ Way L k a y)
theorem IsDist.eq {n : Nat} {L : Lks} {a : Int} {d e : List Int} (h : IsDist n L a d) (h' : IsDist n L a e) : d = e := by
 apply List.ext_getElem (by rw [h.1, h'.1])
 intro i h1 h2
 have hi : i < n := by rw [← h.1]; exact h1
 have g1 : d.getD i (-1) = d[i] := by simp [List.getD, h1]
 have g2 : e.getD i (-1) = e[i] := by simp [List.getD, h2]
 rw [← g1, ← g2]
 rcases h.2 i hi with ⟨k, a1, a2⟩ | ⟨a1, a2⟩
 ·rcases h'.2 i hi with ⟨k', b1, b2⟩ | ⟨b1, b2⟩
  ·rw [a1, b1, a2.eq b2]
  ·exact absurd a2.1 (b2 k)
 ·rcases h'.2 i hi with ⟨k', b1, b2⟩ | ⟨b1, b2⟩
  ·exact absurd b2.1 (a2 k')
  ·rw [a1, b1]
/-- Each link is between nodes. -/
def InR (n : Nat) (L : Lks) : Prop := ∀ p ∈ L, 0 ≤ p.1 ∧ p.1 < n ∧ 0 ≤ p.2 ∧ p.2 < n
end Go.Proofs.Ytlhclnhdcenkhaa
namespace Go.Proofs.Ytlhclnhdcenkhaa
open Go.RowKit Go.PlainAid
theorem owns_slice {w : World} {base : Nat} {e : TypeId} {size : Nat} {v : Value} {n : Nat} {xs : List Value} (h : w.ownsRow base e size v n xs) : ∃ ao cap, v = .slice ao n cap := by
 rcases h.2 with ⟨hv, h0⟩ | ⟨g, cap, cur, hv, _⟩
 ·exact ⟨none, 0, by rw [hv, h0]⟩
 ·exact ⟨_, _, hv⟩
theorem below_step {B : Nat} {w w1 w2 : World} (hB : B ≤ w1.heap.size) (h1 : Below B w w1) (h2 : Below w1.heap.size w1 w2) : Below B w w2 := h1.trans (h2.mono hB)
theorem lt_of_block {w : World} {b : Nat} {o : Obj} (h : w.heap[b]? = some o) : b < w.heap.size := (Array.getElem?_eq_some_iff.1 h).1
theorem below_drewN {B : Nat} {a w : World} (h : Below B a w) (n : Nat) : Below B a (w.drewN n) := h.trans ⟨rfl, rfl, rfl, Nat.le_refl _, fun _ _ => rfl⟩
/-- A slice of links in memory. -/
def LinksAt (w : World) (v : Value) (L : Lks) : Prop :=
 (∃ a cap, v = .slice a 0 cap ∧ L = []) ∨
 ∃ b off len cap, v = .slice (some ⟨b, off, none⟩) len cap ∧ L.length = len ∧ 0 < len ∧ b < w.heap.size ∧ len ≤ cap ∧
  ∀ i, i < len → w.cell? ⟨b, off + i * 2, none⟩ = some (.int .i64 (lk L i).1) ∧ w.cell? ⟨b, off + i * 2 + 1, none⟩ = some (.int .i64 (lk L i).2)
theorem LinksAt.below {w w' : World} {v : Value} {L : Lks} (h : LinksAt w v L) (hb : Below w.heap.size w w') : LinksAt w' v L := by
 rcases h with h | ⟨b, off, len, cap, h1, h2, h3, h4, h6, h5⟩
 ·exact .inl h
 ·exact .inr ⟨b, off, len, cap, h1, h2, h3, by have := hb.size; omega, h6, fun i hi => ⟨(hb.cell (by exact h4)).trans (h5 i hi).1, (hb.cell (by exact h4)).trans (h5 i hi).2⟩⟩
theorem sizeInt (w : World) : (sizeOf 3).run Try.prog w = .ok 1 w := by kernel_rfl
end Go.Proofs.Ytlhclnhdcenkhaa
namespace Go.Proofs.Ytlhclnhdcenkhaa
open Go.RowKit Go.PlainAid
def pv (p : Int × Int) : Value := .agg #[.int .i64 p.1, .int .i64 p.2]
end Go.Proofs.Ytlhclnhdcenkhaa
namespace Go.Proofs.Ytlhclnhdcenkhaa
open Go.RowKit Go.PlainAid
end Go.Proofs.Ytlhclnhdcenkhaa
namespace Go.Proofs.Ytlhclnhdcenkhaa
open Go.RowKit Go.PlainAid
theorem LinksAt.at {w : World} {v : Value} {L : Lks} (h : LinksAt w v L) : ∃ a cap, v = .slice a L.length cap := by
 rcases h with ⟨a, cap, rfl, rfl⟩ | ⟨b, off, len, cap, rfl, hl, -⟩
 ·exact ⟨a, cap, rfl⟩
 ·exact ⟨_, cap, by rw [hl]⟩
end Go.Proofs.Ytlhclnhdcenkhaa
namespace Go.Proofs.Ytlhclnhdcenkhaa
open Go.RowKit Go.PlainAid
/-- A slice of integers in memory. -/
def IntsAt (w : World) (v : Value) (xs : List Int) : Prop :=
 (∃ a cap, v = .slice a 0 cap ∧ xs = []) ∨
 ∃ b off len cap, v = .slice (some ⟨b, off, none⟩) len cap ∧ xs.length = len ∧ 0 < len ∧ b < w.heap.size ∧ len ≤ cap ∧ ∀ i, i < len → w.cell? ⟨b, off + i, none⟩ = some (.int .i64 (xs.getD i 0))
theorem IntsAt.below {w w' : World} {v : Value} {xs : List Int} (h : IntsAt w v xs) (hb : Below w.heap.size w w') : IntsAt w' v xs := by
 rcases h with h | ⟨b, off, len, cap, h1, h2, h3, h4, h6, h5⟩
 ·exact .inl h
 ·exact .inr ⟨b, off, len, cap, h1, h2, h3, by have := hb.size; omega, h6, fun i hi => (hb.cell (by exact h4)).trans (h5 i hi)⟩
theorem IntsAt.owns {w : World} {base : Nat} {e : TypeId} {v : Value} {xs : List Int} (h : w.ownsRow base e 1 v xs.length (xs.map (Value.int .i64))) : IntsAt w v xs := by
 by_cases hx : xs.length = 0
 ·obtain ⟨ao, cap, rfl⟩ := owns_slice h
  exact .inl ⟨ao, cap, by rw [hx], List.length_eq_zero_iff.1 hx⟩
 ·have hc := fun g => h.cells (g := g)
  rcases h.2 with ⟨_, h0⟩ | ⟨g, cap, cur, rfl, _, hg, hle, _⟩
  ·omega
  ·refine .inr ⟨g, 0, xs.length, cap, rfl, rfl, by omega, lt_of_block hg, hle, fun i hi => ?_⟩
   have := hc g rfl i (.int .i64 (xs.getD i 0)) (by simp [List.getD, hi])
   have e : (⟨g, 0, none⟩ : Addr).add i = ⟨g, 0 + i, none⟩ := by unfold Addr.add; split <;> simp_all
   rw [e] at this; exact this
theorem infoInt : (Try.prog.info? 3).map (fun i => (i.zero, i.size, i.bytes)) = some (some (.int .i64 0), 1, 8) := by kernel_rfl
end Go.Proofs.Ytlhclnhdcenkhaa
namespace Go.Proofs.Ytlhclnhdcenkhaa
open Go.RowKit Go.PlainAid
end Go.Proofs.Ytlhclnhdcenkhaa
namespace Go.Proofs.Ytlhclnhdcenkhaa
open Go.RowKit Go.PlainAid
end Go.Proofs.Ytlhclnhdcenkhaa
namespace Go.Proofs.Ytlhclnhdcenkhaa
open Go.RowKit Go.PlainAid
def flat (L : Lks) : List Value := L.flatMap fun p => [.int .i64 p.1, .int .i64 p.2]
theorem flat_get : ∀ (L : Lks) (i : Nat), i < L.length → (flat L)[i * 2]? = some (.int .i64 (lk L i).1) ∧ (flat L)[i * 2 + 1]? = some (.int .i64 (lk L i).2)
 | [], i, h => by simp at h
 | p :: r, 0, _ => by simp [flat, lk]
 | p :: r, i + 1, h => by
  have ih := flat_get r i (by simpa using h)
  have e1 : flat (p :: r) = .int .i64 p.1 :: .int .i64 p.2 :: flat r := rfl
  have e2 : lk (p :: r) (i + 1) = lk r i := by simp [lk]
  rw [e1, e2]
  refine ⟨?_, ?_⟩
  ·rw [show (i + 1) * 2 = i * 2 + 1 + 1 by omega, List.getElem?_cons_succ, List.getElem?_cons_succ]; exact ih.1
  ·rw [show (i + 1) * 2 + 1 = i * 2 + 1 + 1 + 1 by omega, List.getElem?_cons_succ, List.getElem?_cons_succ]; exact ih.2
theorem LinksAt.owns {w : World} {base : Nat} {e : TypeId} {v : Value} {L : Lks} (h : w.ownsRow base e 2 v L.length (flat L)) : LinksAt w v L := by
 by_cases hx : L.length = 0
 ·obtain ⟨ao, cap, rfl⟩ := owns_slice h
  exact .inl ⟨ao, cap, by rw [hx], List.length_eq_zero_iff.1 hx⟩
 ·have hc := fun g => h.cells (g := g)
  rcases h.2 with ⟨_, h0⟩ | ⟨g, cap, cur, rfl, _, hg, hle, _⟩
  ·omega
  ·refine .inr ⟨g, 0, L.length, cap, rfl, rfl, by omega, lt_of_block hg, hle, fun i hi => ?_⟩
   have e : ∀ j, (⟨g, 0, none⟩ : Addr).add j = ⟨g, 0 + j, none⟩ := fun j => by unfold Addr.add; split <;> simp_all
   have a1 := hc g rfl (i * 2) _ (flat_get L i hi).1
   have a2 := hc g rfl (i * 2 + 1) _ (flat_get L i hi).2
   rw [e] at a1 a2
   exact ⟨a1, by rw [Nat.add_assoc]; exact a2⟩
/-- A block of two cells that may be written. -/
def Box (w : World) (g : Nat) (x y : Value) : Prop :=
 w.cell? ⟨g, 0, none⟩ = some x ∧ w.cell? ⟨g, 1, none⟩ = some y ∧ w.frozen? ⟨g, 0, none⟩ = false ∧ w.frozen? ⟨g, 1, none⟩ = false
theorem Box.kept {w w' : World} {g : Nat} {x y : Value} {row : Option Nat} (h : Box w g x y) (hg : w.grownBy w' row) (hne : some g ≠ row) : Box w' g x y := by
 have hb : g < w.heap.size := World.block_lt_of_cell? w _ h.1
 have hk := hg.block g hb hne
 exact ⟨(World.cell?_of_block (by exact hk)).trans h.1, (World.cell?_of_block (by exact hk)).trans h.2.1, (World.frozen?_of_block (by exact hk)).trans h.2.2.1, (World.frozen?_of_block (by exact hk)).trans h.2.2.2⟩
theorem Box.below {w w' : World} {g : Nat} {x y : Value} (h : Box w g x y) (hb : Below w.heap.size w w') : Box w' g x y :=
 h.kept (row := none) ⟨hb.os, hb.tape, hb.output, hb.size, fun k hk _ => hb.block k hk⟩ (by simp)
theorem Box.set {w : World} {g : Nat} {x y : Value} (h : Box w g x y) (u : Value) : Box (w.setCell ⟨g, 1, none⟩ u) g x u :=
 ⟨(World.cell?_setCell_other w _ _ _ (by simp)).trans h.1, World.cell?_setCell_same w _ _ h.2.1, by rw [World.frozen?_setCell]; exact h.2.2.1, by rw [World.frozen?_setCell]; exact h.2.2.2⟩
theorem Box.other {w : World} {g g' : Nat} {x y : Value} (h : Box w g x y) (u : Value) (o : Nat) (hne : g ≠ g') : Box (w.setCell ⟨g', o, none⟩ u) g x y :=
 ⟨(World.cell?_setCell_other w _ _ _ (by simp <;> omega)).trans h.1, (World.cell?_setCell_other w _ _ _ (by simp <;> omega)).trans h.2.1, by rw [World.frozen?_setCell]; exact h.2.2.1, by rw [World.frozen?_setCell]; exact h.2.2.2⟩
theorem Box.fill {w : World} {g : Nat} {x y : Value} (h : Box w g x y) (u u' : Value) : Box ((w.setCell ⟨g, 0, none⟩ u).setCell ⟨g, 1, none⟩ u') g u u' := by
 have h1 : Box (w.setCell ⟨g, 0, none⟩ u) g u y :=
  ⟨World.cell?_setCell_same w _ _ h.1, (World.cell?_setCell_other w _ _ _ (by simp)).trans h.2.1, by rw [World.frozen?_setCell]; exact h.2.2.1, by rw [World.frozen?_setCell]; exact h.2.2.2⟩
 exact h1.set u'
end Go.Proofs.Ytlhclnhdcenkhaa
namespace Go.Proofs.Ytlhclnhdcenkhaa
open Go.RowKit Go.PlainAid
theorem lk_take {L : Lks} {m i : Nat} (h : i < m) : lk (L.take m) i = lk L i := by
 unfold lk; simp only [List.getD, List.getElem?_take, if_pos h]
theorem LinksAt.take {w : World} {b off len cap : Nat} {L : Lks} (hl : L.length = len) (hb : b < w.heap.size) (hlc : len ≤ cap)
  (hc : ∀ i, i < len → w.cell? ⟨b, off + i * 2, none⟩ = some (.int .i64 (lk L i).1) ∧ w.cell? ⟨b, off + i * 2 + 1, none⟩ = some (.int .i64 (lk L i).2)) (m : Nat) (hm : m ≤ len) :
  LinksAt w (.slice (some ⟨b, off, none⟩) m cap) (L.take m) := by
 by_cases h0 : m = 0
 ·subst h0; exact .inl ⟨_, cap, rfl, by simp⟩
 ·exact .inr ⟨b, off, m, cap, rfl, by rw [List.length_take]; omega, by omega, hb, by omega, fun i hi => by rw [lk_take hi]; exact hc i (by omega)⟩
theorem make_ints (n : Nat) (h : n ≤ 1000000) (w : World) : (Instr.makeSlice 29 (.int .i64 (n : Int)) (.int .i64 (n : Int))).run Try.prog w = .ok (.slice (some ⟨w.heap.size, 0, none⟩) n n) (w.alloc (.cells (madeCells #[.int .i64 0] n) 3)) := by
 obtain ⟨i, hi, hz, h1, h2⟩ := info_parts infoInt
 have := run_make (P := Try.prog) w 29 3 i (.int .i64 0) Try.underlying29 hi hz .i64 .i64 n n (by omega) (by omega) (by rw [h2]; omega) (by omega)
 rw [this, h1]
 simp [Value.cells]
end Go.Proofs.Ytlhclnhdcenkhaa
namespace Go.Proofs.Ytlhclnhdcenkhaa
open Go.RowKit Go.PlainAid
end Go.Proofs.Ytlhclnhdcenkhaa
namespace Go.Proofs.Ytlhclnhdcenkhaa
open Go.RowKit Go.PlainAid
/-- Data: one cell, or a row of things of n cells each. -/
inductive D where
 | atom (v : Value)
 | row (n : Nat) (xs : List (List D))
/-- These blocks are as they were. -/
def SameOn (P : Nat → Prop) (w w' : World) : Prop := w.heap.size ≤ w'.heap.size ∧ ∀ b, P b → b < w.heap.size → w'.heap[b]? = w.heap[b]?
theorem SameOn.of_below {P : Nat → Prop} {w w' : World} (h : Below w.heap.size w w') : SameOn P w w' := ⟨h.size, fun b _ hb => h.block b hb⟩
theorem SameOn.sub {P P' : Nat → Prop} {w w' : World} (h : SameOn P w w') (hs : ∀ b, P' b → P b) : SameOn P' w w' := ⟨h.1, fun b p hb => h.2 b (hs b p) hb⟩
theorem SameOn.cell {P : Nat → Prop} {w w' : World} {a : Addr} (h : SameOn P w w') (hp : P a.block) (hb : a.block < w.heap.size) : w'.cell? a = w.cell? a := World.cell?_of_block (h.2 _ hp hb)
theorem below_new (w : World) (o : Obj) : Below w.heap.size w (w.alloc o) := (Below.refl _ w).alloc (Nat.le_refl _) o
/-- A row's block that may be written: all of it is the row's room. -/
def OpenRow (w : World) (b cap n : Nat) : Prop := cap ≤ maxLen ∧ ∃ cur e, w.heap[b]? = some (.cells cur e (0, 0)) ∧ cur.size = cap * n
theorem OpenRow.same {P : Nat → Prop} {w w' : World} {b cap n : Nat} (h : OpenRow w b cap n) (hs : SameOn P w w') (hP : P b) (hb : b < w.heap.size) : OpenRow w' b cap n := by
 obtain ⟨h1, cur, e, h2, h3⟩ := h
 exact ⟨h1, cur, e, (hs.2 b hP hb).trans h2, h3⟩
/-- A value holds data, in blocks of P; where S is so, no two parts lie in one block, and each may be written. -/
inductive Holds (S : Prop) : (Nat → Prop) → World → Value → D → Prop where
  | atom (P : Nat → Prop) (w : World) (v : Value) (h1 : v.oneCell' = true) : Holds S P w v (.atom v)
  | nil (P : Nat → Prop) (w : World) (a : Option Addr) (cap n : Nat) (hop : S → cap = 0 ∨ ∃ b, a = some ⟨b, 0, none⟩ ∧ P b ∧ b < w.heap.size ∧ OpenRow w b cap n := by first | exact fun s => s.elim | exact fun _ => .inl rfl) : Holds S P w (.slice a 0 cap) (.row n [])
  | row (P : Nat → Prop) (w : World) (b off cap n : Nat) (xs : List (List D)) (cs : Nat → Nat → Value) (fp : Nat → Nat → Nat → Prop) (h0 : 0 < xs.length) (hb : b < w.heap.size) (hc : xs.length ≤ cap) (hP : P b)
      (hn : ∀ (i : Nat) (ds : List D), xs[i]? = some ds → ds.length = n) (hcell : ∀ (i j : Nat), i < xs.length → j < n → w.cell? ⟨b, off + i * n + j, none⟩ = some (cs i j))
      (hrec : ∀ (i j : Nat) (ds : List D) (d : D), xs[i]? = some ds → ds[j]? = some d → Holds S (fp i j) w (cs i j) d) (hfp : ∀ (i j k : Nat), fp i j k → P k) (hb2 : S → ∀ (i j : Nat), ¬ fp i j b)
      (hd : S → ∀ (i j i' j' k : Nat), fp i j k → fp i' j' k → i = i' ∧ j = j') (hop : S → off = 0 ∧ OpenRow w b cap n := by exact fun s => s.elim) : Holds S P w (.slice (some ⟨b, off, none⟩) xs.length cap) (.row n xs)
theorem Holds.same {S : Prop} {P : Nat → Prop} {w w' : World} {v : Value} {d : D} (h : Holds S P w v d) : SameOn P w w' → Holds S P w' v d := by
 induction h with
 | atom P w v h1 => intro _; exact .atom P w' v h1
 | nil P w a cap n hop =>
  intro hs
  refine .nil P w' a cap n (fun s => ?_)
  rcases hop s with h | ⟨b, h1, h2, h3, h4⟩
  ·exact .inl h
  ·exact .inr ⟨b, h1, h2, Nat.lt_of_lt_of_le h3 hs.1, h4.same hs h2 h3⟩
 | row P w b off cap n xs cs fp h0 hb hc hP hn hcell hrec hfp hb2 hd hop ih =>
  intro hs
  exact .row P w' b off cap n xs cs fp h0 (Nat.lt_of_lt_of_le hb hs.1) hc hP hn (fun i j hi hj => (hs.cell hP (by exact hb)).trans (hcell i j hi hj))
   (fun i j ds d h1 h2 => ih i j ds d h1 h2 (hs.sub (hfp i j))) hfp hb2 hd (fun s => ⟨(hop s).1, (hop s).2.same hs hP hb⟩)
theorem Holds.later {S : Prop} {P : Nat → Prop} {w w' : World} {v : Value} {d : D} (h : Holds S P w v d) (hb : Below w.heap.size w w') : Holds S P w' v d := h.same (.of_below hb)
theorem Holds.wide {S : Prop} {P P' : Nat → Prop} {w : World} {v : Value} {d : D} (h : Holds S P w v d) : (∀ b, b < w.heap.size → P b → P' b) → Holds S P' w v d := by
 induction h generalizing P' with
 | atom P w v h1 => intro _; exact .atom P' w v h1
 | nil P w a cap n hop =>
  intro hs
  refine .nil P' w a cap n (fun s => ?_)
  rcases hop s with h | ⟨b, h1, h2, h3, h4⟩
  ·exact .inl h
  ·exact .inr ⟨b, h1, hs b h3 h2, h3, h4⟩
 | row P w b off cap n xs cs fp h0 hb hc hP hn hcell hrec hfp hb2 hd hop ih =>
  intro hs
  exact .row P' w b off cap n xs cs (fun i j k => fp i j k ∧ k < w.heap.size) h0 hb hc (hs b hb hP) hn hcell
   (fun i j ds d h1 h2 => ih i j ds d h1 h2 (fun b hb p => ⟨p, hb⟩)) (fun i j k h => hs k h.2 (hfp i j k h.1)) (fun s i j h => hb2 s i j h.1) (fun s i j i' j' k h h' => hd s i j i' j' k h.1 h'.1) hop
/-- All blocks. -/
def All : Nat → Prop := fun _ => True
theorem Holds.weak {S : Prop} {P : Nat → Prop} {w : World} {v : Value} {d : D} (h : Holds S P w v d) : Holds False All w v d := by
 induction h with
 | atom P w v h1 => exact .atom All w v h1
 | nil P w a cap n hop => exact .nil All w a cap n (fun s => s.elim)
 | row P w b off cap n xs cs fp h0 hb hc hP hn hcell hrec hfp hb2 hd hop ih =>
  exact .row All w b off cap n xs cs (fun _ _ => All) h0 hb hc trivial hn hcell ih (fun _ _ _ _ => trivial) (fun s => s.elim) (fun s => s.elim) (fun s => s.elim)
/-- Plain reading. -/
abbrev Has (w : World) (v : Value) (d : D) : Prop := Holds False All w v d
theorem Holds.len {S : Prop} {P : Nat → Prop} {w : World} {v : Value} {n : Nat} {xs : List (List D)} (h : Holds S P w v (.row n xs)) : ∃ a cap, v = .slice a xs.length cap := by
 cases h with
 | nil => exact ⟨_, _, rfl⟩
 | row => exact ⟨_, _, rfl⟩
theorem Holds.val {S : Prop} {P : Nat → Prop} {w : World} {v u : Value} (h : Holds S P w v (.atom u)) : v = u := by cases h; rfl
theorem Holds.one {S : Prop} {P : Nat → Prop} {w : World} {v : Value} {d : D} (h : Holds S P w v d) : v.oneCell' = true := by
 cases h with
 | atom h1 => assumption
 | nil => rfl
 | row => rfl
theorem lt_of_some {α : Type} {l : List α} {i : Nat} {x : α} (h : l[i]? = some x) : i < l.length := (List.getElem?_eq_some_iff.1 h).1
theorem some_of_lt {α : Type} {l : List α} {i : Nat} (h : i < l.length) : ∃ x, l[i]? = some x := ⟨_, List.getElem?_eq_getElem h⟩
/-- Values hold a list of data, each in blocks of its own. -/
def HoldsL (S : Prop) (P : Nat → Prop) (w : World) (cs : List Value) (ds : List D) : Prop :=
 cs.length = ds.length ∧ ∃ fp : Nat → Nat → Prop, (∀ j k, fp j k → P k) ∧ (S → ∀ j j' k, fp j k → fp j' k → j = j') ∧ ∀ j c d, cs[j]? = some c → ds[j]? = some d → Holds S (fp j) w c d
theorem HoldsL.same {S : Prop} {P : Nat → Prop} {w w' : World} {cs : List Value} {ds : List D} (h : HoldsL S P w cs ds) (hs : SameOn P w w') : HoldsL S P w' cs ds := by
 obtain ⟨h1, fp, h2, h3, h4⟩ := h
 exact ⟨h1, fp, h2, h3, fun j c d hc hd => (h4 j c d hc hd).same (hs.sub (h2 j))⟩
theorem HoldsL.later {S : Prop} {P : Nat → Prop} {w w' : World} {cs : List Value} {ds : List D} (h : HoldsL S P w cs ds) (hb : Below w.heap.size w w') : HoldsL S P w' cs ds := h.same (.of_below hb)
theorem HoldsL.wide {S : Prop} {P P' : Nat → Prop} {w : World} {cs : List Value} {ds : List D} (h : HoldsL S P w cs ds) (hs : ∀ b, b < w.heap.size → P b → P' b) : HoldsL S P' w cs ds := by
 obtain ⟨h1, fp, h2, h3, h4⟩ := h
 exact ⟨h1, fun j k => fp j k ∧ k < w.heap.size, fun j k h => hs k h.2 (h2 j k h.1), fun s j j' k h h' => h3 s j j' k h.1 h'.1, fun j c d hc hd => (h4 j c d hc hd).wide (fun b hb p => ⟨p, hb⟩)⟩
theorem HoldsL.weak {S : Prop} {P : Nat → Prop} {w : World} {cs : List Value} {ds : List D} (h : HoldsL S P w cs ds) : HoldsL False All w cs ds := by
 obtain ⟨h1, fp, h2, h3, h4⟩ := h
 exact ⟨h1, fun _ => All, fun _ _ _ => trivial, fun s => s.elim, fun j c d hc hd => (h4 j c d hc hd).weak⟩
theorem hasL_nil (S : Prop) (P : Nat → Prop) (w : World) : HoldsL S P w [] [] := ⟨rfl, fun _ _ => False, fun _ _ h => h.elim, fun _ _ _ _ h => h.elim, fun j c d h => by simp at h⟩
abbrev HasL (w : World) (cs : List Value) (ds : List D) : Prop := HoldsL False All w cs ds
theorem HasL.cons {w : World} {cs : List Value} {d : D} {ds : List D} (h : HasL w cs (d :: ds)) : ∃ c cs', cs = c :: cs' ∧ Has w c d ∧ HasL w cs' ds := by
 obtain ⟨h1, fp, h2, h3, h4⟩ := h
 match cs, h1 with
 | c :: cs', h1 => exact ⟨c, cs', rfl, (h4 0 c d rfl rfl).weak, by simpa using h1, fun j => fp (j + 1), fun j k h => h2 _ k h, fun s => s.elim, fun j c d hc hd => h4 (j + 1) c d (by simpa using hc) (by simpa using hd)⟩
theorem HasL.nil {w : World} {cs : List Value} (h : HasL w cs []) : cs = [] := List.eq_nil_of_length_eq_zero h.1
theorem HasL.mk {w : World} {c : Value} {cs : List Value} {d : D} {ds : List D} (h : Has w c d) (h' : HasL w cs ds) : HasL w (c :: cs) (d :: ds) := by
 obtain ⟨h1, fp, h2, h3, h4⟩ := h'.weak
 refine ⟨by simp [h1], fun _ => All, fun _ _ _ => trivial, fun s => s.elim, fun j c' d' hc hd => ?_⟩
 cases j with
 | zero => simp at hc hd; subst hc hd; exact h.weak
 | succ j => exact (h4 j c' d' (by simpa using hc) (by simpa using hd)).weak
/-- An element's cells. -/
theorem Has.at {w : World} {v : Value} {n i : Nat} {xs : List (List D)} {ds : List D} (h : Has w v (.row n xs)) (hx : xs[i]? = some ds) :
  ∃ b off cap, v = .slice (some ⟨b, off, none⟩) xs.length cap ∧ b < w.heap.size ∧ xs.length ≤ cap ∧ ds.length = n ∧ ∃ cs, HasL w cs ds ∧ ∀ j c, cs[j]? = some c → w.cell? ⟨b, off + i * n + j, none⟩ = some c := by
 cases h with
 | nil => simp at hx
 | row _ _ b off cap n xs cs fp h0 hb hc hP hn hcell hrec hfp hb2 hd =>
  have hl := hn i ds hx
  refine ⟨b, off, cap, rfl, hb, hc, hl, (List.range n).map (cs i), ⟨by simp [hl], fun _ => All, fun _ _ _ => trivial, fun s => s.elim, fun j c d hc' hd' => ?_⟩, fun j c hc' => ?_⟩
  ·have hj := lt_of_some hd'
   rw [List.getElem?_map, List.getElem?_range (by omega)] at hc'
   simp at hc'
   subst hc'
   exact (hrec i j ds d hx hd').weak
  ·have hj := lt_of_some hc'
   simp at hj
   rw [List.getElem?_map, List.getElem?_range (by omega)] at hc'
   simp at hc'
   subst hc'
   exact hcell i j (lt_of_some hx) hj
def dI (a : Int) : D := .atom (.int .i64 a)
def dInts (xs : List Int) : D := .row 1 (xs.map fun a => [dI a])
def dLinks (L : Lks) : D := .row 2 (L.map fun p => [dI p.1, dI p.2])
theorem has_int (S : Prop) (P : Nat → Prop) (w : World) (a : Int) : Holds S P w (.int .i64 a) (dI a) := .atom P w _ rfl
theorem Has.ints {w : World} {v : Value} {xs : List Int} (h : Has w v (dInts xs)) : IntsAt w v xs := by
 by_cases h0 : xs.length = 0
 ·obtain rfl := List.length_eq_zero_iff.1 h0
  obtain ⟨a, cap, rfl⟩ := Holds.len h
  exact .inl ⟨a, cap, rfl, rfl⟩
 ·have key : ∀ i, i < xs.length → ∃ b off cap, v = .slice (some ⟨b, off, none⟩) xs.length cap ∧ b < w.heap.size ∧ xs.length ≤ cap ∧ w.cell? ⟨b, off + i, none⟩ = some (.int .i64 (xs.getD i 0)) := by
   intro i hi
   obtain ⟨b, off, cap, rfl, hb, hc, hl, cs, hcs, hcell⟩ := Has.at (i := i) (ds := [dI (xs.getD i 0)]) h (by simp [List.getD, hi])
   obtain ⟨c, cs', rfl, hc1, hc2⟩ := hcs.cons
   have e := Holds.val hc1
   subst e
   have := hcell 0 _ rfl
   rw [Nat.mul_one, Nat.add_zero] at this
   simp only [List.length_map] at hc ⊢
   exact ⟨b, off, cap, rfl, hb, hc, this⟩
  obtain ⟨b, off, cap, rfl, hb, hc, _⟩ := key 0 (by omega)
  refine .inr ⟨b, off, xs.length, cap, rfl, rfl, by omega, hb, hc, fun i hi => ?_⟩
  obtain ⟨b', off', cap', e, _, _, hx⟩ := key i hi
  simp only [Value.slice.injEq, Option.some.injEq, Addr.mk.injEq] at e
  obtain ⟨⟨rfl, rfl, _⟩, _, rfl⟩ := e
  exact hx
theorem Has.links {w : World} {v : Value} {L : Lks} (h : Has w v (dLinks L)) : LinksAt w v L := by
 by_cases h0 : L.length = 0
 ·obtain rfl := List.length_eq_zero_iff.1 h0
  obtain ⟨a, cap, rfl⟩ := Holds.len h
  exact .inl ⟨a, cap, rfl, rfl⟩
 ·have key : ∀ i, i < L.length → ∃ b off cap, v = .slice (some ⟨b, off, none⟩) L.length cap ∧ b < w.heap.size ∧ L.length ≤ cap ∧ w.cell? ⟨b, off + i * 2, none⟩ = some (.int .i64 (lk L i).1) ∧ w.cell? ⟨b, off + i * 2 + 1, none⟩ = some (.int .i64 (lk L i).2) := by
   intro i hi
   obtain ⟨b, off, cap, rfl, hb, hc, hl, cs, hcs, hcell⟩ := Has.at (i := i) (ds := [dI (lk L i).1, dI (lk L i).2]) h (by simp [lk, List.getD, hi])
   obtain ⟨c, cs', rfl, hc1, hc2⟩ := hcs.cons
   obtain ⟨c', cs2, rfl, hc3, hc4⟩ := HasL.cons hc2
   have e := Holds.val hc1
   have e' := Holds.val hc3
   subst e e'
   simp only [List.length_map] at hc ⊢
   exact ⟨b, off, cap, rfl, hb, hc, hcell 0 _ rfl, hcell 1 _ rfl⟩
  obtain ⟨b, off, cap, rfl, hb, hc, _⟩ := key 0 (by omega)
  refine .inr ⟨b, off, L.length, cap, rfl, rfl, by omega, hb, hc, fun i hi => ?_⟩
  obtain ⟨b', off', cap', e, _, _, hx⟩ := key i hi
  simp only [Value.slice.injEq, Option.some.injEq, Addr.mk.injEq] at e
  obtain ⟨⟨rfl, rfl, _⟩, _, rfl⟩ := e
  exact hx
end Go.Proofs.Ytlhclnhdcenkhaa
namespace Go.Proofs.Ytlhclnhdcenkhaa
open Go.RowKit Go.PlainAid
theorem flatten_len {n : Nat} : ∀ {ys : List (List D)}, (∀ ds ∈ ys, ds.length = n) → ys.flatten.length = ys.length * n
 | [], _ => by simp
 | ds :: r, h => by
  rw [List.flatten_cons, List.length_append, flatten_len (fun d hd => h d (List.mem_cons_of_mem _ hd)), h ds (List.mem_cons_self ..), List.length_cons, Nat.succ_mul, Nat.add_comm]
theorem flatten_get {n : Nat} : ∀ {ys : List (List D)} {i j : Nat} {ds : List D}, (∀ ds ∈ ys, ds.length = n) → ys[i]? = some ds → j < n → ys.flatten[i * n + j]? = ds[j]?
 | [], i, j, ds, _, h, _ => by simp at h
 | q :: r, 0, j, ds, hn, h, hj => by
  simp at h; subst h
  rw [List.flatten_cons, Nat.zero_mul, Nat.zero_add, List.getElem?_append_left (by rw [hn q (List.mem_cons_self ..)]; exact hj)]
 | q :: r, i + 1, j, ds, hn, h, hj => by
  have hq := hn q (List.mem_cons_self ..)
  rw [List.flatten_cons, List.getElem?_append_right (by rw [hq, Nat.succ_mul]; omega), hq, show (i + 1) * n + j - n = i * n + j by rw [Nat.succ_mul]; omega]
  exact flatten_get (fun d hd => hn d (List.mem_cons_of_mem _ hd)) (by simpa using h) hj
theorem grown_of_below {w w' : World} (h : Below w.heap.size w w') (row : Option Nat) : w.grownBy w' row := ⟨h.os, h.tape, h.output, h.size, fun k hk _ => h.block k hk⟩
/-- A row that the call is building: what it holds lies in blocks of P, below 'lim', and not in the row's own. -/
structure Own (S : Prop) (P : Nat → Prop) (E : TypeId) (n : Nat) (wb : World) (lim : Nat) (w : World) (v : Value) (xs : List (List D)) : Prop where
 bel : Below wb.heap.size wb w
 lim_le : lim ≤ w.heap.size
 blk : ∀ k, v.ownBlock = some k → k < lim
 ex : ∃ (cells : List Value) (cs : Nat → Nat → Value) (fp : Nat → Nat → Nat → Prop), w.ownsRow wb.heap.size E n v xs.length cells ∧ (∀ (i : Nat) (ds : List D), xs[i]? = some ds → ds.length = n) ∧
  (∀ i j, i < xs.length → j < n → cells[i * n + j]? = some (cs i j)) ∧ (∀ (i j : Nat) (ds : List D) (d : D), xs[i]? = some ds → ds[j]? = some d → Holds S (fp i j) w (cs i j) d) ∧
  (∀ i j k, fp i j k → P k ∧ k < lim ∧ v.ownBlock ≠ some k) ∧ (S → ∀ i j i' j' k, fp i j k → fp i' j' k → i = i' ∧ j = j')
theorem Own.nil {S : Prop} {P : Nat → Prop} {E : TypeId} {n : Nat} {wb w : World} (hb : Below wb.heap.size wb w) : Own S P E n wb w.heap.size w (.slice none 0 0) [] :=
 ⟨hb, Nat.le_refl _, fun k hk => by simp [Value.ownBlock] at hk, [], fun _ _ => .bool true, fun _ _ _ => False, World.ownsRow_nil _ _ _ _, fun i ds h => by simp at h, fun i j h => by simp at h, fun i j ds d h => by simp at h, fun _ _ _ h => h.elim, fun _ _ _ _ _ _ h => h.elim⟩
theorem Own.later {S : Prop} {P : Nat → Prop} {E : TypeId} {n lim : Nat} {wb w w' : World} {v : Value} {xs : List (List D)} (h : Own S P E n wb lim w v xs) (hb : Below w.heap.size w w') : Own S P E n wb lim w' v xs := by
 obtain ⟨h1, h2, h3, cells, cs, fp, h4, h5, h6, h7, h8, h9⟩ := h
 exact ⟨h1.trans (hb.mono h1.size), Nat.le_trans h2 hb.size, h3, cells, cs, fp, h4.kept (grown_of_below hb none) (by cases v.ownBlock <;> simp), h5, h6, fun i j ds d a b => (h7 i j ds d a b).later hb, h8, h9⟩
theorem Own.lift {S : Prop} {P : Nat → Prop} {E : TypeId} {n lim lim' : Nat} {wb w : World} {v : Value} {xs : List (List D)} (h : Own S P E n wb lim w v xs) (h1 : lim ≤ lim') (h2 : lim' ≤ w.heap.size) : Own S P E n wb lim' w v xs := by
 obtain ⟨g1, g2, g3, cells, cs, fp, h4, h5, h6, h7, h8, h9⟩ := h
 exact ⟨g1, h2, fun k hk => Nat.lt_of_lt_of_le (g3 k hk) h1, cells, cs, fp, h4, h5, h6, h7, fun i j k hf => ⟨(h8 i j k hf).1, Nat.lt_of_lt_of_le (h8 i j k hf).2.1 h1, (h8 i j k hf).2.2⟩, h9⟩
theorem Own.slice {S : Prop} {P : Nat → Prop} {E : TypeId} {n lim : Nat} {wb w : World} {v : Value} {xs : List (List D)} (h : Own S P E n wb lim w v xs) : ∃ a c, v = .slice a xs.length c := by
 obtain ⟨_, _, _, cells, cs, fp, h4, _⟩ := h
 exact owns_slice h4
theorem Own.ge {S : Prop} {P : Nat → Prop} {E : TypeId} {n lim : Nat} {wb w : World} {v : Value} {xs : List (List D)} (h : Own S P E n wb lim w v xs) : ∀ k, v.ownBlock = some k → wb.heap.size ≤ k ∧ k < w.heap.size := by
 obtain ⟨_, _, _, cells, cs, fp, h4, _⟩ := h
 exact h4.lt
/-- What the row holds at last. -/
theorem Own.holds {S : Prop} {P : Nat → Prop} {E : TypeId} {n lim : Nat} {wb w : World} {v : Value} {xs : List (List D)} (h : Own S P E n wb lim w v xs) (hP : ∀ k, v.ownBlock = some k → P k) : Holds S P w v (.row n xs) := by
 obtain ⟨h1, h2, h3, cells, cs, fp, h4, h5, h6, h7, h8, h9⟩ := h
 by_cases h0 : xs.length = 0
 ·obtain ⟨a, c, rfl⟩ := owns_slice h4
  obtain rfl := List.length_eq_zero_iff.1 h0
  refine .nil _ _ _ _ _ (fun _ => ?_)
  rcases h4.2 with ⟨e, _⟩ | ⟨g, cap, cur, e, hge, hg, hle, hmx, hcz, _⟩
  ·simp at e; exact .inl e.2
  ·simp at e
   obtain ⟨rfl, rfl⟩ := e
   exact .inr ⟨g, rfl, hP g rfl, lt_of_block hg, hmx, cur, E, hg, hcz⟩
 ·have hcell := fun g => h4.cells (g := g)
  rcases h4.2 with ⟨_, e⟩ | ⟨g, cap, cur, rfl, hge, hg, hle, hmx, hcz, _⟩
  ·exact absurd e h0
  ·refine .row P w g 0 cap n xs cs fp (by omega) (lt_of_block hg) hle (hP g rfl) h5 (fun i j hi hj => ?_) h7 (fun i j k hf => (h8 i j k hf).1) (fun _ i j hf => (h8 i j g hf).2.2 rfl) h9 (fun _ => ⟨rfl, hmx, cur, E, hg, hcz⟩)
   have := hcell g rfl _ _ (h6 i j hi hj)
   have e : (⟨g, 0, none⟩ : Addr).add (i * n + j) = ⟨g, 0 + i * n + j, none⟩ := by unfold Addr.add; split <;> simp_all
   rw [e] at this; exact this
/-- Where a row goes that is appended to. -/
theorem app_block {w w' : World} {base m n : Nat} {T ty E : TypeId} {i : TypeInfo} {z : Value} {size bytes : Nat} {v v' : Value} {xs news : List Value} {ad : Addr} {c : Nat} (ht : Try.prog.underlying T = some (.slice E)) (hi : Try.prog.info? E = some i) (hz : i.zero = some z)
  (hsize : i.size = size) (hby : i.bytes = bytes) (hzs : z.cells.size = size) (hsz : 0 < size) (hown : w.ownsRow base E size v n xs) (hl : news.length = m * size) (hnews : ∀ j u, news[j]? = some u → w.cell? (ad.add j) = some u) (h1 : ∀ u ∈ news, u.oneCell' = true)
  (h63 : n + m ≤ maxLen) (hbytes : (n + m) * bytes ≤ 140737488355328) (hr : (Builtin.append_ #[T, T] ty #[v, .slice (some ad) m c]).run Try.prog w = .ok v' w') :
  v'.ownBlock = v.ownBlock ∨ v'.ownBlock = some w.heap.size := by
 subst hsize hby
 have hb63 : ((n + m : Nat) : Int) ≤ 9223372036854775807 := by unfold maxLen at h63; omega
 rcases hown.2 with ⟨rfl, rfl⟩ | ⟨g, cap, cur, rfl, _, hg, hnc, _, hcs, _⟩
 ·by_cases hm : m = 0
  ·subst hm
   have hn : news = [] := List.eq_nil_of_length_eq_zero (by simpa using hl)
   subst hn
   obtain ⟨v1, w1, hr1, _, _, h4⟩ := run_append_own (P := Try.prog) w w.heap.size T ty E i z i.size i.bytes ht hi hz rfl rfl hzs hsz _ 0 [] (World.ownsRow_nil _ _ _ _) ad 0 c [] (by simp) (by simp) (by simp) (by unfold maxLen; omega) (by omega) (Nat.le_refl _)
   rw [hr1] at hr
   cases hr
   rw [h4.2 ⟨rfl, rfl⟩]
   exact .inl rfl
  ·have := run_append_nil (P := Try.prog) w T ty E i z ht hi hz ad m c news hl hnews (by omega) (by omega) (by have hb := hbytes; simp only [Nat.zero_add] at hb; omega)
   rw [this] at hr
   cases hr
   exact .inr rfl
 ·by_cases hroom : n + m ≤ cap
  ·have := run_append_room (P := Try.prog) w T ty E i ht hi g n cap cur hg ad m c news hl hnews h1 hroom (by rw [hl, hcs, ← Nat.add_mul]; exact Nat.mul_le_mul_right _ hroom)
   rw [this] at hr
   cases hr
   exact .inl rfl
  ·have := run_append_grow (P := Try.prog) w T ty E i z ht hi hz ⟨g, 0, none⟩ n cap xs hown.1 (hown.cells (g := g) rfl) ad m c news hl hnews (by omega) hb63 (growslice_fits (by omega) hbytes)
   rw [this] at hr
   cases hr
   exact .inr rfl
/-- What a row owns is fixed by the memory, but for what lies beyond its length. -/
theorem ownsRow_det {w : World} {base n k : Nat} {E : TypeId} {v : Value} {a b : List Value} (h : w.ownsRow base E n v k a) (h' : w.ownsRow base E n v k b) : a = b := by
 rcases h.2 with ⟨rfl, rfl⟩ | ⟨g, cap, cur, rfl, _, hg, _, _, _, ht⟩
 ·have e1 := h.1
  have e2 := h'.1
  simp at e1 e2
  rw [e1, e2]
 ·rcases h'.2 with ⟨e, _⟩ | ⟨g', cap', cur', e, _, hg', _, _, _, ht'⟩
  ·cases e
  ·simp only [Value.slice.injEq, Option.some.injEq, Addr.mk.injEq] at e
   obtain ⟨⟨rfl, _⟩, _, _⟩ := e
   rw [hg] at hg'
   simp only [Option.some.injEq, Obj.cells.injEq] at hg'
   obtain ⟨rfl, _⟩ := hg'
   rw [← ht, ← ht']
theorem Own.push {S : Prop} {P : Nat → Prop} {E : TypeId} {n lim m : Nat} {wb w w' : World} {v v' : Value} {xs ys : List (List D)} {news : List Value} (h : Own S P E n wb lim w v xs) (hy : ∀ ds ∈ ys, ds.length = n) (hm : ys.length = m)
  (hh : HoldsL S (fun k => P k ∧ v.ownBlock ≠ some k ∧ (S → lim ≤ k)) w news ys.flatten) (hb : v'.ownBlock = v.ownBlock ∨ v'.ownBlock = some w.heap.size)
  (hg : w.grownBy w' v.ownBlock) (hown : ∀ cells, w.ownsRow wb.heap.size E n v xs.length cells → w'.ownsRow wb.heap.size E n v' (xs.length + m) (cells ++ news)) : Own S P E n wb w'.heap.size w' v' (xs ++ ys) := by
 obtain ⟨h1, h2, h3, cells, cs, fp, h4, h5, h6, h7, h8, h9⟩ := h
 obtain ⟨hl, gp, g1, g2, g3⟩ := hh
 have hlt := h4.lt
 have hbl : ∀ k, v'.ownBlock = some k → k < w'.heap.size := fun k hk => ((hown cells h4).lt k hk).2
 have hk' : ∀ k, k < w.heap.size → v.ownBlock ≠ some k → v'.ownBlock ≠ some k := by
  intro k hk hne e
  rcases hb with hb | hb
  ·rw [hb] at e; exact hne e
  ·rw [hb] at e; simp at e; omega
 have hsame : ∀ Q : Nat → Prop, (∀ k, Q k → v.ownBlock ≠ some k) → SameOn Q w w' := fun Q hQ => ⟨hg.size, fun b hq hb => hg.block b hb (fun e => hQ b hq e.symm)⟩
 have hcl : cells.length = xs.length * n := h4.1
 refine ⟨h1.grown hg h1.size (fun k hk => (hlt k hk).1), Nat.le_refl _, hbl, cells ++ news, fun i j => if i < xs.length then cs i j else news.getD ((i - xs.length) * n + j) (.bool true),
  fun i j k => if i < xs.length then fp i j k else gp ((i - xs.length) * n + j) k ∧ j < n ∧ k < w.heap.size, by rw [List.length_append, hm]; exact hown cells h4, fun i ds hi => ?_, fun i j hi hj => ?_, fun i j ds d hi hj => ?_, fun i j k hf => ?_, fun s i j i' j' k hf hf' => ?_⟩
 ·rw [List.getElem?_append] at hi
  split at hi
  ·exact h5 i ds hi
  ·exact hy ds (List.mem_of_getElem? hi)
 ·by_cases hix : i < xs.length
  ·simp only [if_pos hix]
   rw [List.getElem?_append_left (by rw [hcl]; exact Nat.lt_of_lt_of_le (Nat.lt_of_lt_of_le (Nat.add_lt_add_left hj _) (by rw [← Nat.succ_mul]; exact Nat.le_refl _)) (Nat.mul_le_mul_right n hix))]
   exact h6 i j hix hj
  ·simp only [if_neg hix]
   have e : i * n + j = cells.length + ((i - xs.length) * n + j) := by
    rw [hcl, ← Nat.add_assoc, ← Nat.add_mul]; congr 2; omega
   rw [e, List.getElem?_append_right (by omega), Nat.add_sub_cancel_left]
   have hlt : (i - xs.length) * n + j < news.length := by
    rw [hl, flatten_len hy]
    rw [List.length_append] at hi
    exact Nat.lt_of_lt_of_le (Nat.lt_of_lt_of_le (Nat.add_lt_add_left hj _) (by rw [← Nat.succ_mul]; exact Nat.le_refl _)) (Nat.mul_le_mul_right n (show i - xs.length + 1 ≤ ys.length by omega))
   simp [List.getD, hlt]
 ·by_cases hix : i < xs.length
  ·simp only [if_pos hix]
   rw [List.getElem?_append_left hix] at hi
   exact (h7 i j ds d hi hj).same (hsame _ fun k hf => (h8 i j k hf).2.2)
  ·simp only [if_neg hix]
   rw [List.getElem?_append_right (by omega)] at hi
   have hjn : j < n := by rw [← hy ds (List.mem_of_getElem? hi)]; exact lt_of_some hj
   have hf := flatten_get hy hi hjn
   rw [hj] at hf
   have hlt : (i - xs.length) * n + j < news.length := by rw [hl]; exact lt_of_some hf
   have := g3 _ _ _ (List.getElem?_eq_getElem hlt) hf
   rw [show news.getD ((i - xs.length) * n + j) (.bool true) = news[(i - xs.length) * n + j] by simp [List.getD, hlt]]
   exact (this.wide (P' := fun k => gp ((i - xs.length) * n + j) k ∧ j < n ∧ k < w.heap.size) (fun b hb p => ⟨p, hjn, hb⟩)).same (hsame _ fun k hf => (g1 _ k hf.1).2.1)
 ·by_cases hix : i < xs.length
  ·simp only [if_pos hix] at hf
   obtain ⟨a, b, c⟩ := h8 i j k hf
   exact ⟨a, by have := hg.size; omega, hk' k (by omega) c⟩
  ·simp only [if_neg hix] at hf
   obtain ⟨a, b, c⟩ := g1 _ k hf.1
   exact ⟨a, by have := hg.size; omega, hk' k hf.2.2 b⟩
 ·by_cases hix : i < xs.length <;> by_cases hix' : i' < xs.length
  ·simp only [if_pos hix] at hf
   simp only [if_pos hix'] at hf'
   exact h9 s i j i' j' k hf hf'
  ·simp only [if_pos hix] at hf
   simp only [if_neg hix'] at hf'
   have a := (h8 i j k hf).2.1
   have b := (g1 _ k hf'.1).2.2 s
   omega
  ·simp only [if_neg hix] at hf
   simp only [if_pos hix'] at hf'
   have a := (h8 i' j' k hf').2.1
   have b := (g1 _ k hf.1).2.2 s
   omega
  ·simp only [if_neg hix] at hf
   simp only [if_neg hix'] at hf'
   have e := g2 s _ _ k hf.1 hf'.1
   have h1 := hf.2.1
   have h2 := hf'.2.1
   have hd : ∀ a b : Nat, b < n → (a * n + b) / n = a ∧ (a * n + b) % n = b := fun a b hb => by
    have hn : 0 < n := by omega
    rw [Nat.mul_comm]
    exact ⟨by rw [Nat.mul_add_div hn, Nat.div_eq_of_lt hb, Nat.add_zero], by rw [Nat.mul_add_mod, Nat.mod_eq_of_lt hb]⟩
   have d1 := hd (i - xs.length) j h1
   have d2 := hd (i' - xs.length) j' h2
   rw [e] at d1
   omega
/-- append to a row that the call is building. -/
theorem app_own {ops : Array Oper} {rest : List Oper} {o : Oper} {a : Act} {Q : Exit → Act → World → Prop} {w : World} (hgd : o.guard = none) (s x : Operand) (T E : TypeId) (i : TypeInfo) (z : Value) (n bytes : Nat)
  (ho : o.op = .call { callee := .builtin .append, args := #[s, x], argTypes := #[T, T] }) (ht : Try.prog.underlying T = some (.slice E)) (hi : Try.prog.info? E = some i) (hz : i.zero = some z) (hsize : i.size = n) (hby : i.bytes = bytes) (hzs : z.cells.size = n) (hsz : 0 < n)
  (S : Prop) (P : Nat → Prop) (wb : World) (lim : Nat) (v : Value) (xs ys : List (List D)) (k m c : Nat) (hs : a.eval s = v) (h : Own S P E n wb lim w v xs) (hk : xs.length = k) (ad : Addr) (hx : a.eval x = .slice (some ad) m c) (news : List Value)
  (hnews : ∀ j u, news[j]? = some u → w.cell? (ad.add j) = some u) (hy : ∀ ds ∈ ys, ds.length = n) (hm : ys.length = m) (hh : HoldsL S (fun k => P k ∧ v.ownBlock ≠ some k ∧ (S → lim ≤ k)) w news ys.flatten) (h63 : k + m ≤ maxLen) (hbytes : (k + m) * bytes ≤ 140737488355328)
  (K : ∀ ao cv w', Own S P E n wb w'.heap.size w' (.slice ao (k + m) cv) (xs ++ ys) → w.grownBy w' v.ownBlock → wpList Try.prog ops Q rest (a.put o.dst (.slice ao (k + m) cv)) w') : wpList Try.prog ops Q (o :: rest) a w := by
 subst hk
 have hl : news.length = m * n := by rw [hh.1, flatten_len hy, hm]
 have h1 : ∀ u ∈ news, u.oneCell' = true := by
  intro u hu
  obtain ⟨j, hj, rfl⟩ := List.getElem_of_mem hu
  obtain ⟨hl', gp, _, _, g3⟩ := hh
  exact (g3 j _ _ (List.getElem?_eq_getElem hj) (List.getElem?_eq_getElem (by omega))).one
 obtain ⟨cells, cs, fp, h4, _⟩ := h.ex
 obtain ⟨v', w', hr, hown, hg, _⟩ := run_append_own (P := Try.prog) w wb.heap.size T o.type E i z n bytes ht hi hz hsize hby hzs hsz v xs.length cells h4 ad m c news hl hnews h1 h63 hbytes h.bel.size
 have hb := app_block ht hi hz hsize hby hzs hsz h4 hl hnews h1 h63 hbytes hr
 refine wpList_plain hgd fun K' hK => ?_
 unfold Oper.wp execOp
 simp only [ho, resolve, invoke, builtin, Sem.run_bind, Sem.run_pure, Result.andThen_ok, List.map_toArray, List.map_cons, List.map_nil, hs, hx, hr]
 obtain ⟨ao, cv, rfl⟩ := owns_slice hown
 refine hK _ _ (K ao cv w' (h.push hy hm hh hb hg fun cells' hc => ?_) hg)
 have : cells' = cells := ownsRow_det hc h4
 rw [this]; exact hown
end Go.Proofs.Ytlhclnhdcenkhaa
namespace Go.Proofs.Ytlhclnhdcenkhaa
open Go.RowKit Go.PlainAid
theorem Own.made {S : Prop} {P : Nat → Prop} {E : TypeId} {n : Nat} {wb w : World} (hb : Below wb.heap.size wb w) : Own S P E n wb (w.heap.size + 1) (w.alloc (.cells #[] E)) (.slice (some ⟨w.heap.size, 0, none⟩) 0 0) [] := by
 refine ⟨hb.alloc hb.size _, by simp, fun k hk => ?_, [], fun _ _ => .bool true, fun _ _ _ => False, World.ownsRow_made w #[] 0 hb.size (Nat.zero_le _) (by simp), fun i ds h => by simp at h, fun i j h => by simp at h, fun i j ds d h => by simp at h, fun _ _ _ h => h.elim, fun _ _ _ _ _ _ h => h.elim⟩
 simp [Value.ownBlock] at hk; omega
/-- The cells of a slice's elements. -/
theorem Has.news {w : World} {ad : Addr} {m c n : Nat} {ys : List (List D)} (h : Has w (.slice (some ad) m c) (.row n ys)) :
  m = ys.length ∧ (∀ ds ∈ ys, ds.length = n) ∧ ∃ news, (∀ j u, news[j]? = some u → w.cell? (ad.add j) = some u) ∧ HasL w news ys.flatten := by
 by_cases h0 : ys.length = 0
 ·obtain rfl := List.length_eq_zero_iff.1 h0
  obtain ⟨a, cap, e⟩ := Holds.len h
  simp only [Value.slice.injEq] at e
  exact ⟨e.2.1, by simp, [], by simp, hasL_nil _ _ _⟩
 ·cases h with
  | nil => simp at h0
  | row _ _ b off cap n xs cs fp h0 hb hc hP hn hcell hrec hfp hb2 hd =>
   have hy : ∀ ds ∈ ys, ds.length = n := fun ds hds => by obtain ⟨i, hi⟩ := List.mem_iff_getElem?.1 hds; exact hn i ds hi
   have hl := flatten_len hy
   refine ⟨rfl, hy, (List.range (ys.length * n)).map (fun t => cs (t / n) (t % n)), fun j u hu => ?_, by simp [hl], fun _ => All, fun _ _ _ => trivial, fun s => s.elim, fun j c d hc hd => ?_⟩
   ·have hj := lt_of_some hu
    simp at hj
    rw [List.getElem?_map, List.getElem?_range hj] at hu
    simp at hu
    subst hu
    have hn0 : 0 < n := by rcases Nat.eq_zero_or_pos n with rfl | h; simp at hj; exact h
    have := hcell (j / n) (j % n) (Nat.div_lt_of_lt_mul (by rw [Nat.mul_comm]; exact hj)) (Nat.mod_lt _ hn0)
    have e : off + j / n * n + j % n = off + j := by rw [Nat.add_assoc, Nat.mul_comm, Nat.div_add_mod]
    rw [e] at this
    rw [Go.WideShapes.add_plain]; exact this
   ·have hj := lt_of_some hd
    rw [hl] at hj
    rw [List.getElem?_map, List.getElem?_range hj] at hc
    simp at hc
    subst hc
    have hn0 : 0 < n := by rcases Nat.eq_zero_or_pos n with rfl | h; simp at hj; exact h
    obtain ⟨ds, hds⟩ := some_of_lt (l := ys) (i := j / n) (Nat.div_lt_of_lt_mul (by rw [Nat.mul_comm]; exact hj))
    have hf := flatten_get hy hds (Nat.mod_lt j hn0)
    rw [Nat.mul_comm, Nat.div_add_mod, hd] at hf
    exact (hrec _ _ ds d hds hf.symm).weak
theorem Has.none {w : World} {v : Value} {m c n : Nat} {ys : List (List D)} (h : Has w v (.row n ys)) (hv : v = .slice none m c) : ys = [] ∧ m = 0 := by
 cases h with
 | nil => simp at hv; exact ⟨rfl, hv.2.1.symm⟩
 | row => simp at hv
def Flat (ds : List D) : Prop := ∀ d ∈ ds, ∃ v, d = .atom v
theorem HasL.flat {S : Prop} {P : Nat → Prop} {w : World} {cs : List Value} {ds : List D} (h : HasL w cs ds) (hf : Flat ds) : HoldsL S P w cs ds := by
 obtain ⟨h1, fp, h2, h3, h4⟩ := h
 refine ⟨h1, fun _ _ => False, fun _ _ h => h.elim, fun _ _ _ _ h => h.elim, fun j c d hc hd => ?_⟩
 have hh := h4 j c d hc hd
 obtain ⟨v, rfl⟩ := hf d (List.mem_of_getElem? hd)
 have e := hh.val
 subst e
 exact .atom _ _ _ hh.one
/-- append(s, xs...), of a row of plain things. -/
theorem app_rows {ops : Array Oper} {rest : List Oper} {o : Oper} {a : Act} {Q : Exit → Act → World → Prop} {w : World} (hgd : o.guard = none) (s x : Operand) (T E : TypeId) (i : TypeInfo) (z : Value) (n bytes : Nat)
  (ho : o.op = .call { callee := .builtin .append, args := #[s, x], argTypes := #[T, T] }) (ht : Try.prog.underlying T = some (.slice E)) (hi : Try.prog.info? E = some i) (hz : i.zero = some z) (hsize : i.size = n) (hby : i.bytes = bytes) (hzs : z.cells.size = n) (hsz : 0 < n)
  (S : Prop) (P : Nat → Prop) (wb : World) (lim : Nat) (v : Value) (xs ys : List (List D)) (k m c l : Nat) (hs : a.eval s = v) (h : Own S P E n wb lim w v xs) (hk : xs.length = k) (ad : Option Addr) (hx : a.eval x = .slice ad m c) (hy : Has w (.slice ad m c) (.row n ys)) (hf : Flat ys.flatten) (hl : k + m = l) (h63 : l ≤ maxLen) (hbytes : l * bytes ≤ 140737488355328)
  (K : ∀ ao cv w', Own S P E n wb w'.heap.size w' (.slice ao l cv) (xs ++ ys) → w.grownBy w' v.ownBlock → wpList Try.prog ops Q rest (a.put o.dst (.slice ao l cv)) w') : wpList Try.prog ops Q (o :: rest) a w := by
 subst hl
 cases ad with
 | some ad =>
  obtain ⟨hm, hn, news, hnews, hh⟩ := Has.news hy
  exact app_own hgd s x T E i z n bytes ho ht hi hz hsize hby hzs hsz S P wb lim v xs ys k m c hs h hk ad hx news hnews hn hm.symm (hh.flat hf) h63 hbytes K
 | none =>
  obtain ⟨rfl, rfl⟩ := Has.none hy rfl
  obtain ⟨cells, _, _, h4, _⟩ := h.ex
  have hr : (Builtin.append_ #[T, T] o.type #[v, .slice none 0 c]).run Try.prog w = .ok v w := by
   rcases h4.2 with ⟨rfl, hx0⟩ | ⟨g, cap, cur, rfl, _, _, hnc, _⟩
   ·simp [Builtin.append_, run_underlying ht, sizeOf, typeInfo, hi, Builtin.lenOf, Builtin.firstCells]
   ·simp [Builtin.append_, run_underlying ht, sizeOf, typeInfo, hi, Builtin.lenOf, Builtin.firstCells, hnc, storeCells]
  obtain ⟨ao, cv, rfl⟩ := owns_slice h4
  subst hk
  refine wpList_plain hgd fun K' hK => ?_
  unfold Oper.wp execOp
  simp only [ho, resolve, invoke, builtin, Sem.run_bind, Sem.run_pure, Result.andThen_ok, List.map_toArray, List.map_cons, List.map_nil, hs, hx, hr]
  exact hK _ _ (K ao cv w (by rw [List.append_nil]; exact h.lift h.lim_le (Nat.le_refl _)) ⟨rfl, rfl, rfl, Nat.le_refl _, fun _ _ _ => rfl⟩)
theorem SameOn.refl (P : Nat → Prop) (w : World) : SameOn P w w := ⟨Nat.le_refl _, fun _ _ _ => rfl⟩
theorem SameOn.set {P : Nat → Prop} {w w' : World} (h : SameOn P w w') (a : Addr) (v : Value) (hp : ¬ P a.block) : SameOn P w (w'.setCell a v) :=
 ⟨by simpa using h.1, fun b p hb => by rw [Below.heap_setCell _ _ _ _ (by intro e; exact hp (e ▸ p))]; exact h.2 b p hb⟩
theorem SameOn.drewN {P : Nat → Prop} {w w' : World} (h : SameOn P w w') (n : Nat) : SameOn P w (w'.drewN n) := h
theorem SameOn.drew {P : Nat → Prop} {w w' : World} (h : SameOn P w w') : SameOn P w w'.drew := h
end Go.Proofs.Ytlhclnhdcenkhaa
namespace Go.Proofs.Ytlhclnhdcenkhaa
open Go.RowKit Go.PlainAid
theorem run_app {w : World} (T E ty : TypeId) (i : TypeInfo) (z : Value) (n bytes : Nat) (ht : Try.prog.underlying T = some (.slice E)) (hi : Try.prog.info? E = some i) (hz : i.zero = some z) (hsize : i.size = n) (hby : i.bytes = bytes) (hzs : z.cells.size = n) (hsz : 0 < n)
  (S : Prop) (P : Nat → Prop) (wb : World) (lim : Nat) (v : Value) (xs ys : List (List D)) (k m c l : Nat) (h : Own S P E n wb lim w v xs) (hk : xs.length = k) (ad : Option Addr) (news : List Value)
  (hnews : ∀ a, ad = some a → ∀ j u, news[j]? = some u → w.cell? (a.add j) = some u) (hnone : ad = none → m = 0) (hy : ∀ ds ∈ ys, ds.length = n) (hm : ys.length = m) (hh : HoldsL S (fun k => P k ∧ v.ownBlock ≠ some k ∧ (S → lim ≤ k)) w news ys.flatten) (hl : k + m = l) (h63 : l ≤ maxLen) (hbytes : l * bytes ≤ 140737488355328) :
  ∃ ao cv w', (Builtin.append_ #[T, T] ty #[v, .slice ad m c]).run Try.prog w = .ok (.slice ao l cv) w' ∧ Own S P E n wb w'.heap.size w' (.slice ao l cv) (xs ++ ys) ∧ w.grownBy w' v.ownBlock ∧ ((Value.slice ao l cv).ownBlock = v.ownBlock ∨ (Value.slice ao l cv).ownBlock = some w.heap.size) := by
 subst hl hk
 cases ad with
 | some ad =>
  have hll : news.length = m * n := by rw [hh.1, flatten_len hy, hm]
  have h1 : ∀ u ∈ news, u.oneCell' = true := by
   intro u hu
   obtain ⟨j, hj, rfl⟩ := List.getElem_of_mem hu
   obtain ⟨hl', gp, _, _, g3⟩ := hh
   exact (g3 j _ _ (List.getElem?_eq_getElem hj) (List.getElem?_eq_getElem (by omega))).one
  obtain ⟨cells, cs, fp, h4, _⟩ := h.ex
  have hnews' := hnews ad rfl
  obtain ⟨v', w', hr, hown, hg, _⟩ := run_append_own (P := Try.prog) w wb.heap.size T ty E i z n bytes ht hi hz hsize hby hzs hsz v xs.length cells h4 ad m c news hll hnews' h1 h63 hbytes h.bel.size
  have hb := app_block ht hi hz hsize hby hzs hsz h4 hll hnews' h1 h63 hbytes hr
  obtain ⟨ao, cv, rfl⟩ := owns_slice hown
  refine ⟨ao, cv, w', hr, h.push hy hm hh hb hg fun cells' hc => ?_, hg, hb⟩
  have : cells' = cells := ownsRow_det hc h4
  rw [this]; exact hown
 | none =>
  have hm0 := hnone rfl
  subst hm0
  have hy0 : ys = [] := List.eq_nil_of_length_eq_zero hm
  subst hy0
  obtain ⟨cells, _, _, h4, _⟩ := h.ex
  have hr : (Builtin.append_ #[T, T] ty #[v, .slice none 0 c]).run Try.prog w = .ok v w := by
   rcases h4.2 with ⟨rfl, hx0⟩ | ⟨g, cap, cur, rfl, _, _, hnc, _⟩
   ·simp [Builtin.append_, run_underlying ht, sizeOf, typeInfo, hi, Builtin.lenOf, Builtin.firstCells]
   ·simp [Builtin.append_, run_underlying ht, sizeOf, typeInfo, hi, Builtin.lenOf, Builtin.firstCells, hnc, storeCells]
  obtain ⟨ao, cv, rfl⟩ := owns_slice h4
  exact ⟨ao, cv, w, hr, by rw [List.append_nil]; exact h.lift h.lim_le (Nat.le_refl _), ⟨rfl, rfl, rfl, Nat.le_refl _, fun _ _ _ => rfl⟩, .inl rfl⟩
/-- In a list of operations. -/
theorem appL {ops : Array Oper} {rest : List Oper} {o : Oper} {a : Act} {Q : Exit → Act → World → Prop} {w : World} (hgd : o.guard = none) (s x : Operand) (T E : TypeId) (i : TypeInfo) (z : Value) (n bytes : Nat)
  (ho : o.op = .call { callee := .builtin .append, args := #[s, x], argTypes := #[T, T] }) (ht : Try.prog.underlying T = some (.slice E)) (hi : Try.prog.info? E = some i) (hz : i.zero = some z) (hsize : i.size = n) (hby : i.bytes = bytes) (hzs : z.cells.size = n) (hsz : 0 < n)
  (S : Prop) (P : Nat → Prop) (wb : World) (lim : Nat) (v : Value) (xs ys : List (List D)) (k m c l : Nat) (hs : a.eval s = v) (h : Own S P E n wb lim w v xs) (hk : xs.length = k) (ad : Option Addr) (hx : a.eval x = .slice ad m c) (news : List Value)
  (hnews : ∀ a, ad = some a → ∀ j u, news[j]? = some u → w.cell? (a.add j) = some u) (hnone : ad = none → m = 0) (hy : ∀ ds ∈ ys, ds.length = n) (hm : ys.length = m) (hh : HoldsL S (fun k => P k ∧ v.ownBlock ≠ some k ∧ (S → lim ≤ k)) w news ys.flatten) (hl : k + m = l) (h63 : l ≤ maxLen) (hbytes : l * bytes ≤ 140737488355328)
  (K : ∀ ao cv w', Own S P E n wb w'.heap.size w' (.slice ao l cv) (xs ++ ys) → w.grownBy w' v.ownBlock → ((Value.slice ao l cv).ownBlock = v.ownBlock ∨ (Value.slice ao l cv).ownBlock = some w.heap.size) → wpList Try.prog ops Q rest (a.put o.dst (.slice ao l cv)) w') : wpList Try.prog ops Q (o :: rest) a w := by
 obtain ⟨ao, cv, w', hr, h1, h2, h3⟩ := run_app T E o.type i z n bytes ht hi hz hsize hby hzs hsz S P wb lim v xs ys k m c l h hk ad news hnews hnone hy hm hh hl h63 hbytes
 refine wpList_plain hgd fun K' hK => ?_
 unfold Oper.wp execOp
 simp only [ho, resolve, invoke, builtin, Sem.run_bind, Sem.run_pure, Result.andThen_ok, List.map_toArray, List.map_cons, List.map_nil, hs, hx, hr]
 exact hK _ _ (K ao cv w' h1 h2 h3)
/-- At a step of a drawn region. -/
theorem appS {ops : Array Oper} {o : Oper} {a : Act} {K : Act → World → Prop} {Q : Exit → Act → World → Prop} {F : Prop} {w : World} (hgd : o.guard = none) (s x : Operand) (T E : TypeId) (i : TypeInfo) (z : Value) (n bytes : Nat)
  (ho : o.op = .call { callee := .builtin .append, args := #[s, x], argTypes := #[T, T] }) (ht : Try.prog.underlying T = some (.slice E)) (hi : Try.prog.info? E = some i) (hz : i.zero = some z) (hsize : i.size = n) (hby : i.bytes = bytes) (hzs : z.cells.size = n) (hsz : 0 < n)
  (S : Prop) (P : Nat → Prop) (wb : World) (lim : Nat) (v : Value) (xs ys : List (List D)) (k m c l : Nat) (hs : a.eval s = v) (h : Own S P E n wb lim w v xs) (hk : xs.length = k) (ad : Option Addr) (hx : a.eval x = .slice ad m c) (news : List Value)
  (hnews : ∀ a, ad = some a → ∀ j u, news[j]? = some u → w.cell? (a.add j) = some u) (hnone : ad = none → m = 0) (hy : ∀ ds ∈ ys, ds.length = n) (hm : ys.length = m) (hh : HoldsL S (fun k => P k ∧ v.ownBlock ≠ some k ∧ (S → lim ≤ k)) w news ys.flatten) (hl : k + m = l) (h63 : l ≤ maxLen) (hbytes : l * bytes ≤ 140737488355328)
  (H : ∀ ao cv w', Own S P E n wb w'.heap.size w' (.slice ao l cv) (xs ++ ys) → w.grownBy w' v.ownBlock → ((Value.slice ao l cv).ownBlock = v.ownBlock ∨ (Value.slice ao l cv).ownBlock = some w.heap.size) → K (a.put o.dst (.slice ao l cv)) w') :
  if Region.wanted o (yielded ops a.tmps) = true then Oper.wp Try.prog o a w K Q else F := by
 have hw : Region.wanted o (yielded ops a.tmps) = true := by simp [Region.wanted, hgd]
 rw [if_pos hw]
 obtain ⟨ao, cv, w', hr, h1, h2, h3⟩ := run_app T E o.type i z n bytes ht hi hz hsize hby hzs hsz S P wb lim v xs ys k m c l h hk ad news hnews hnone hy hm hh hl h63 hbytes
 unfold Oper.wp execOp
 simp only [ho, resolve, invoke, builtin, Sem.run_bind, Sem.run_pure, Result.andThen_ok, List.map_toArray, List.map_cons, List.map_nil, hs, hx, hr]
 exact H ao cv w' h1 h2 h3
/-- The front of a row. -/
theorem Holds.take {S : Prop} {P : Nat → Prop} {w : World} {a : Option Addr} {len cap n m : Nat} {xs : List (List D)} (h : Holds S P w (.slice a len cap) (.row n xs)) (hm : m ≤ xs.length) : Holds S P w (.slice a m cap) (.row n (xs.take m)) := by
 by_cases h0 : m = 0
 ·subst h0
  rw [List.take_zero]
  refine .nil _ _ _ _ _ (fun s => ?_)
  cases h with
  | nil _ _ _ _ _ hop => exact hop s
  | row _ _ b off cap n xs cs fp h1 hb hc hP hn hcell hrec hfp hb2 hd hop =>
   obtain ⟨rfl, h2⟩ := hop s
   exact .inr ⟨b, rfl, hP, hb, h2⟩
 ·cases h with
  | nil => simp at hm; omega
  | row _ _ b off cap n xs cs fp h1 hb hc hP hn hcell hrec hfp hb2 hd hop =>
   have e : m = (xs.take m).length := by simp; omega
   have ht : ∀ (i : Nat) (ds : List D), (xs.take m)[i]? = some ds → xs[i]? = some ds := fun i ds h => by
    rw [List.getElem?_take] at h
    split at h
    ·exact h
    ·cases h
   have := Holds.row P w b off cap n (xs.take m) cs fp (by omega) hb (by omega) hP (fun i ds h => hn i ds (ht i ds h)) (fun i j hi hj => hcell i j (by omega) hj) (fun i j ds d h1 h2 => hrec i j ds d (ht i ds h1) h2) hfp hb2 hd hop
   rw [← e] at this
   exact this
/-- What is appended from a slice of plain things. -/
theorem newsOf {w : World} {ad : Option Addr} {m c n : Nat} {ys : List (List D)} (h : Has w (.slice ad m c) (.row n ys)) (hn : ∀ ds ∈ ys, ds.length = n) (hf : Flat ys.flatten) :
  ys.length = m ∧ (ad = none → m = 0) ∧ ∃ news, (∀ a, ad = some a → ∀ j u, news[j]? = some u → w.cell? (a.add j) = some u) ∧ ∀ S P, HoldsL S P w news ys.flatten := by
 cases ad with
 | some ad =>
  obtain ⟨hm, _, news, h1, h2⟩ := Has.news h
  exact ⟨hm.symm, fun e => (by cases e), news, fun a e => (by cases e; exact h1), fun S P => h2.flat hf⟩
 | none =>
  obtain ⟨rfl, rfl⟩ := Has.none h rfl
  exact ⟨rfl, fun _ => rfl, [], fun a e => (by cases e), fun S P => hasL_nil S P w⟩
theorem grown_at {w w' : World} {row : Option Nat} (hg : w.grownBy w' row) {b i : Nat} {v : Value} (hne : row ≠ some b) (h : w.cell? ⟨b, i, none⟩ = some v) : w'.cell? ⟨b, i, none⟩ = some v :=
 (World.cell?_of_block (hg.block b (World.block_lt_of_cell? w _ h) (fun e => hne e.symm))).trans h
theorem grown_frozen {w w' : World} {row : Option Nat} (hg : w.grownBy w' row) {b i : Nat} {r : Bool} (hne : row ≠ some b) (hb : b < w.heap.size) (h : w.frozen? ⟨b, i, none⟩ = r) : w'.frozen? ⟨b, i, none⟩ = r :=
 (World.frozen?_of_block (w := w) (hg.block b hb (fun e => hne e.symm))).trans h
/-- A store in a block that is no part of the row. -/
theorem Own.set {S : Prop} {P : Nat → Prop} {E : TypeId} {n lim : Nat} {wb w : World} {v : Value} {xs : List (List D)} (h : Own S P E n wb lim w v xs) (a : Addr) (u : Value) (hP : ¬ P a.block) (hb : wb.heap.size ≤ a.block) (hv : v.ownBlock ≠ some a.block) : Own S P E n wb lim (w.setCell a u) v xs := by
 obtain ⟨h1, h2, h3, cells, cs, fp, h4, h5, h6, h7, h8, h9⟩ := h
 refine ⟨h1.setCell hb _, by rw [World.size_setCell]; exact h2, h3, cells, cs, fp, ?_, h5, h6, fun i j ds d e1 e2 => (h7 i j ds d e1 e2).same ((SameOn.refl _ _).set a u (fun hf => hP (h8 i j _ hf).1)), h8, h9⟩
 exact ownsRow_setCell_other h4 hv _
end Go.Proofs.Ytlhclnhdcenkhaa
namespace Go.Proofs.Ytlhclnhdcenkhaa
open Go.RowKit Go.PlainAid
/-- A row under way: what it holds and the row itself lie in blocks of P. -/
structure Bld (S : Prop) (P : Nat → Prop) (E : TypeId) (n : Nat) (wb : World) (lim : Nat) (w : World) (v : Value) (xs : List (List D)) : Prop where
 own : Own S P E n wb lim w v xs
 inP : ∀ k, v.ownBlock = some k → P k
theorem Bld.later {S : Prop} {P : Nat → Prop} {E : TypeId} {n lim : Nat} {wb w w' : World} {v : Value} {xs : List (List D)} (h : Bld S P E n wb lim w v xs) (hb : Below w.heap.size w w') : Bld S P E n wb lim w' v xs := ⟨h.own.later hb, h.inP⟩
theorem Bld.set {S : Prop} {P : Nat → Prop} {E : TypeId} {n lim : Nat} {wb w : World} {v : Value} {xs : List (List D)} (h : Bld S P E n wb lim w v xs) (a : Addr) (u : Value) (hP : ¬ P a.block) (hb : wb.heap.size ≤ a.block) : Bld S P E n wb lim (w.setCell a u) v xs :=
 ⟨h.own.set a u hP hb (fun e => hP (h.inP _ e)), h.inP⟩
theorem Bld.holds {S : Prop} {P : Nat → Prop} {E : TypeId} {n lim : Nat} {wb w : World} {v : Value} {xs : List (List D)} (h : Bld S P E n wb lim w v xs) : Holds S P w v (.row n xs) := h.own.holds h.inP
theorem Bld.of {S : Prop} {P : Nat → Prop} {E : TypeId} {n lim : Nat} {wb w w' : World} {v v' : Value} {xs : List (List D)} (h : Own S P E n wb lim w' v' xs) (hv : ∀ k, v.ownBlock = some k → P k) (hb : v'.ownBlock = v.ownBlock ∨ v'.ownBlock = some w.heap.size) (hP : P w.heap.size) : Bld S P E n wb lim w' v' xs :=
 ⟨h, fun k hk => by
  rcases hb with hb | hb
  ·exact hv k (by rw [← hb]; exact hk)
  ·rw [hb] at hk; cases hk; exact hP⟩
theorem capOf {S : Prop} {P : Nat → Prop} {w : World} {a : Option Addr} {len cap n : Nat} {xs : List (List D)} (h : Holds S P w (.slice a len cap) (.row n xs)) : len ≤ cap := by
 cases h with
 | nil => omega
 | row => assumption
theorem newsLater {w w' : World} {ad : Option Addr} {news : List Value} (h : ∀ a, ad = some a → ∀ j u, news[j]? = some u → w.cell? (a.add j) = some u) (hb : Below w.heap.size w w') : ∀ a, ad = some a → ∀ j u, news[j]? = some u → w'.cell? (a.add j) = some u :=
 fun a ha j u hu => (hb.cell (World.block_lt_of_cell? w _ (h a ha j u hu))).trans (h a ha j u hu)
theorem frozen_new (w : World) (c : Array Value) (t : TypeId) (i : Nat) : (w.alloc (.cells c t)).frozen? ⟨w.heap.size, i, none⟩ = false := by
 rw [frozen?_alloc_cells]
 simp [World.frozen?]
/-- A row of plain things: no block but its own counts. -/
theorem Own.flat {S : Prop} {P P' : Nat → Prop} {E : TypeId} {n lim : Nat} {wb w : World} {v : Value} {xs : List (List D)} (h : Own S P E n wb lim w v xs) (hf : Flat xs.flatten) (hP : ∀ k, v.ownBlock = some k → P' k) : Holds S P' w v (.row n xs) := by
 obtain ⟨h1, h2, h3, cells, cs, fp, h4, h5, h6, h7, h8, h9⟩ := h
 by_cases h0 : xs.length = 0
 ·obtain ⟨a, c, rfl⟩ := owns_slice h4
  obtain rfl := List.length_eq_zero_iff.1 h0
  refine .nil _ _ _ _ _ (fun _ => ?_)
  rcases h4.2 with ⟨e, _⟩ | ⟨g, cap, cur, e, hge, hg, hle, hmx, hcz, _⟩
  ·simp at e; exact .inl e.2
  ·simp at e
   obtain ⟨rfl, rfl⟩ := e
   exact .inr ⟨g, rfl, hP g rfl, lt_of_block hg, hmx, cur, E, hg, hcz⟩
 ·have hcell := fun g => h4.cells (g := g)
  rcases h4.2 with ⟨_, e⟩ | ⟨g, cap, cur, rfl, hge, hg, hle, hmx, hcz, _⟩
  ·exact absurd e h0
  ·refine .row P' w g 0 cap n xs cs (fun _ _ _ => False) (by omega) (lt_of_block hg) hle (hP g rfl) h5 (fun i j hi hj => ?_) (fun i j ds d hi hj => ?_) (fun i j k hf => hf.elim) (fun s i j hf => hf) (fun _ _ _ _ _ _ hf => hf.elim) (fun _ => ⟨rfl, hmx, cur, E, hg, hcz⟩)
   ·have := hcell g rfl _ _ (h6 i j hi hj)
    have e : (⟨g, 0, none⟩ : Addr).add (i * n + j) = ⟨g, 0 + i * n + j, none⟩ := by unfold Addr.add; split <;> simp_all
    rw [e] at this; exact this
   ·have hh := h7 i j ds d hi hj
    have hjn : j < n := by rw [← h5 i ds hi]; exact lt_of_some hj
    have hm := flatten_get (n := n) (fun ds hds => by obtain ⟨q, hq⟩ := List.mem_iff_getElem?.1 hds; exact h5 q ds hq) hi hjn
    rw [hj] at hm
    obtain ⟨u, rfl⟩ := hf d (List.mem_of_getElem? hm)
    have e := hh.val
    rw [e]
    have h1 := hh.one
    rw [e] at h1
    exact .atom _ _ _ h1
/-- A box's field. -/
structure Fld (S : Prop) (P : Nat → Prop) (E : TypeId) (n : Nat) (wb w : World) (b o : Nat) (v : Value) (xs : List (List D)) : Prop where
 cell : w.cell? ⟨b, o, none⟩ = some v
 frz : w.frozen? ⟨b, o, none⟩ = false
 bld : Bld S P E n wb w.heap.size w v xs
 out : ¬ P b
 ge : wb.heap.size ≤ b
theorem Fld.below {S : Prop} {P : Nat → Prop} {E : TypeId} {n : Nat} {wb w w' : World} {b o : Nat} {v : Value} {xs : List (List D)} (h : Fld S P E n wb w b o v xs) (hb : Below w.heap.size w w') : Fld S P E n wb w' b o v xs :=
 ⟨(hb.cell (World.block_lt_of_cell? w _ h.cell)).trans h.cell, (hb.frozen (World.block_lt_of_cell? w _ h.cell)).trans h.frz, ⟨(h.bld.own.later hb).lift hb.size (Nat.le_refl _), h.bld.inP⟩, h.out, h.ge⟩
theorem Fld.push {S : Prop} {P : Nat → Prop} {E : TypeId} {n : Nat} {wb w w5 w6 : World} {b o : Nat} {v v' : Value} {xs ys : List (List D)} (h : Fld S P E n wb w b o v xs) (hb : Below w.heap.size w w5) (hO : Own S P E n wb w6.heap.size w6 v' ys) (hg : w5.grownBy w6 v.ownBlock)
  (hv : v'.ownBlock = v.ownBlock ∨ v'.ownBlock = some w5.heap.size) (hP : P w5.heap.size) : Fld S P E n wb (w6.setCell ⟨b, o, none⟩ v') b o v' ys ∧ w6.cell? ⟨b, o, none⟩ = some v ∧ w6.frozen? ⟨b, o, none⟩ = false ∧ Below wb.heap.size wb (w6.setCell ⟨b, o, none⟩ v') ∧
   (∀ Q : Nat → Prop, (∀ k, Q k → ¬ P k) → ¬ Q b → SameOn Q w5 (w6.setCell ⟨b, o, none⟩ v')) ∧ (∀ (c : Addr) (u : Value), w5.cell? c = some u → ¬ P c.block → c ≠ ⟨b, o, none⟩ → (w6.setCell ⟨b, o, none⟩ v').cell? c = some u) ∧ (∀ c : Addr, c.block < w5.heap.size → ¬ P c.block → (w6.setCell ⟨b, o, none⟩ v').frozen? c = w5.frozen? c) := by
 have hne : ∀ k, ¬ P k → v.ownBlock ≠ some k := fun k hk e => hk (h.bld.inP k e)
 have e1 := (h.below hb).cell
 have e2 := (h.below hb).frz
 have c6 := grown_at hg (hne b h.out) e1
 have f6 := grown_frozen hg (hne b h.out) (World.block_lt_of_cell? w5 _ e1) e2
 have hB := Bld.of hO h.bld.inP hv hP
 refine ⟨⟨World.cell?_setCell_same w6 _ _ c6, by rw [World.frozen?_setCell]; exact f6, ?_, h.out, h.ge⟩, c6, f6, hO.bel.setCell h.ge _, fun Q hQ hb' => ⟨?_, fun k hk hlt => ?_⟩, fun c u hu hP' hc => ?_, fun c hc hP' => ?_⟩
 ·have := hB.set ⟨b, o, none⟩ v' h.out h.ge
  rw [World.size_setCell]
  exact this
 ·rw [World.size_setCell]; exact hg.size
 ·rw [Below.heap_setCell _ _ _ _ (by intro e; subst e; exact hb' hk)]
  exact hg.block k hlt (fun e => hne k (hQ k hk) e.symm)
 ·rw [World.cell?_setCell_other w6 _ _ _ (fun e => hc e.symm)]
  exact (World.cell?_of_block (hg.block c.block (World.block_lt_of_cell? w5 _ hu) (fun e => hne _ hP' e.symm))).trans hu
 ·rw [World.frozen?_setCell]
  exact World.frozen?_of_block (w := w5) (hg.block c.block hc (fun e => hne _ hP' e.symm))
end Go.Proofs.Ytlhclnhdcenkhaa

