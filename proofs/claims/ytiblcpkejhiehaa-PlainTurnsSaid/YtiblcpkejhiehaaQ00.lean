/- Texts put together. -/
import Derived.OrdersHeld
import Derived.KernelRfl
import Derived.Tactics
import Derived.Deep.RegionHeld3
import Derived.OneCell
import Derived.Below
import Derived.Lib.Hide
import Derived.Test.YtiblcpkejhiehaaRows
import Derived.WalkKit
import Derived.WalkSpells
import Derived.WalkLawsBesides
import Derived.PlainAid
import Derived.Deep.QuietTactic
import Derived.BigQuiet
import Derived.Sort.Grow
import Derived.Deep.Draws
import Derived.Deep.DrawnRows
import Derived.Handy
import Derived.Laws.CopyOwn
import Derived.Laws.MakeOwn
import Derived.Deep.RegionLaw
namespace Go.Proofs.Ytiblcpkejhiehaa
theorem tk (i : Nat) (v : Value) {P : Program} {ops : Array Oper} {Q : Exit → Act → World → Prop} {md : Region.Mode} {S : World → Prop} {oi : Oper} {fuel : Nat} {listed : Array Bool} {a : Act} {w : World} (hi : ops[i]? = some oi)
  (hb : (Region.noSelect ops && Region.free md ops listed i && (Region.ready md ops listed).contains i) = true) (hQ : ∀ c a w, Q (.panic c) (a.put oi.dst v) w → Q (.panic c) a w) (hw : Region.wanted oi (yielded ops a.tmps) = true)
  (hy : ∀ w, S w → (execOp a.eval oi).run P w = .ok (.value v) w) (hS : S w) (h : wpAnyH P md ops Q S fuel (listed.setIfInBounds i true) (a.put oi.dst v) w) : wpAnyH P md ops Q S (fuel + 1) listed a w := by
 simp only [Bool.and_eq_true] at hb
 exact wpAnyH_take hi hb.1.1 hb.1.2 hb.2 hQ (.inl ⟨hw, hy⟩) hS h
theorem tk0 (i : Nat) {P : Program} {ops : Array Oper} {Q : Exit → Act → World → Prop} {md : Region.Mode} {S : World → Prop} {oi : Oper} {fuel : Nat} {listed : Array Bool} {a : Act} {w : World} (hi : ops[i]? = some oi)
  (hb : (Region.noSelect ops && Region.free md ops listed i && (Region.ready md ops listed).contains i) = true) (hQ : ∀ c a w, Q (.panic c) (a.put oi.dst undef) w → Q (.panic c) a w) (hw : Region.wanted oi (yielded ops a.tmps) = false)
  (hS : S w) (h : wpAnyH P md ops Q S fuel (listed.setIfInBounds i true) (a.put oi.dst undef) w) : wpAnyH P md ops Q S (fuel + 1) listed a w := by
 simp only [Bool.and_eq_true] at hb
 exact wpAnyH_take hi hb.1.1 hb.1.2 hb.2 hQ (.inr ⟨hw, rfl⟩) hS h
end Go.Proofs.Ytiblcpkejhiehaa

namespace Go.Proofs.Ytiblcpkejhiehaa
theorem tq (i : Nat) {v : Value} {P : Program} {ops : Array Oper} {Q : Exit → Act → World → Prop} {md : Region.Mode} {S : World → Prop} {oi : Oper} {fuel : Nat} {listed : Array Bool} {a a' : Act} {w : World}
  (h : wpAnyH P md ops Q S fuel (listed.setIfInBounds i true) a' w) (hi : ops[i]? = some oi := by rfl)
  (hb : (Region.noSelect ops && Region.free md ops listed i && (Region.ready md ops listed).contains i) = true := by kernel_rfl)
  (hw : Region.wanted oi (yielded ops a.tmps) = true := by rfl)
  (hy : ∀ w, S w → (execOp a.eval oi).run P w = .ok (.value v) w := by intro w hSw; (try dsimp only at hSw); go_simp; try (with_reducible rfl))
  (hQ : ∀ c a w, Q (.panic c) (a.put oi.dst v) w → Q (.panic c) a w := by exact fun _ _ _ h => h)
  (ha : a.put oi.dst v = a' := by try simp only [Act.put, List.getElem_toArray, List.getElem_cons_zero, List.getElem_cons_succ, List.setIfInBounds_toArray, List.set_cons_zero, List.set_cons_succ]; exact rfl)
  (hS : S w := by assumption) : wpAnyH P md ops Q S (fuel + 1) listed a w := by
 subst ha
 exact tk i v hi hb hQ hw hy hS h
theorem tq0 (i : Nat) {P : Program} {ops : Array Oper} {Q : Exit → Act → World → Prop} {md : Region.Mode} {S : World → Prop} {oi : Oper} {fuel : Nat} {listed : Array Bool} {a a' : Act} {w : World}
  (h : wpAnyH P md ops Q S fuel (listed.setIfInBounds i true) a' w) (hi : ops[i]? = some oi := by rfl)
  (hb : (Region.noSelect ops && Region.free md ops listed i && (Region.ready md ops listed).contains i) = true := by kernel_rfl)
  (hw : Region.wanted oi (yielded ops a.tmps) = false := by rfl)
  (hQ : ∀ c a w, Q (.panic c) (a.put oi.dst undef) w → Q (.panic c) a w := by exact fun _ _ _ h => h)
  (ha : a.put oi.dst undef = a' := by try simp only [Act.put, List.getElem_toArray, List.getElem_cons_zero, List.getElem_cons_succ, List.setIfInBounds_toArray, List.set_cons_zero, List.set_cons_succ]; exact rfl)
  (hS : S w := by assumption) : wpAnyH P md ops Q S (fuel + 1) listed a w := by
 subst ha
 exact tk0 i hi hb hQ hw hS h
theorem rd (i : Nat) {P : Program} {ops : Array Oper} {Q : Exit → Act → World → Prop} {md : Region.Mode} {S : World → Prop} {o : Oper} {fuel : Nat} {listed : Array Bool} {a : Act} {w : World}
  (h : ∀ K' : Act → World → Prop, Shut (∀ a w, S w → (S w → wpAnyH P md ops Q S fuel (listed.setIfInBounds i true) a w) → K' a w) → if Region.wanted o (yielded ops a.tmps) = true then Oper.wp P o a w K' Q else K' (a.put o.dst undef) w)
  (hr : Region.ready md ops listed = [i] := by kernel_rfl) (ho : ops[i]? = some o := by rfl) : wpAnyH P md ops Q S (fuel + 1) listed a w := wpAnyH_ready hr (by simp) (AllReadyH.cons ho h AllReadyH.nil)
end Go.Proofs.Ytiblcpkejhiehaa

namespace Go.Proofs.Ytiblcpkejhiehaa
open Go.RowKit
def dstOf (ops : Array Oper) (g : Nat) : Option Tmp := (ops[g]?).bind (·.dst)
/-- Those that an operation waits for by name. -/
def aheadOf (md : Region.Mode) (ops : Array Oper) (g : Nat) : List Nat := (((ops[g]?).map fun o => (o.after.toList.filter (Region.binds md ·)).map (·.on))).getD []
def fillG (ops : Array Oper) (vs : Nat → Value) : List Nat → Act → Act
 | [], a => a
 | g :: r, a => fillG ops vs r (a.put (dstOf ops g) (vs g))
def listG : List Nat → Array Bool → Array Bool
 | [], l => l
 | g :: r, l => listG r (l.setIfInBounds g true)
/-- Each of them waits for what is listed, or stands ahead in the row. -/
def orderG (md : Region.Mode) (ops : Array Oper) : List Nat → Array Bool → Bool
 | [], _ => true
 | g :: r, l => decide (g < l.size) && !(l.getD g true) && (aheadOf md ops g).all (fun e => l.getD e false) && orderG md ops r (l.setIfInBounds g true)
/-- Each of them is waited for by one that stands behind in the row, or by m. -/
def topG (md : Region.Mode) (ops : Array Oper) (m : Nat) : List Nat → Bool
 | [] => true
 | g :: r => (m :: r).any (fun p => (aheadOf md ops p).contains g) && topG md ops m r
def slotsG (ops : Array Oper) (n : Nat) : List Nat → Bool
 | [] => true
 | g :: r => (match dstOf ops g with
  | some t => decide (t < n) && r.all (fun h => dstOf ops h != some t)
  | none => false) && slotsG ops n r
def guardG (ops : Array Oper) (a0 : Act) (G : List Nat) (g : Nat) : Bool := match ops[g]? with
 | none => false
 | some o => Region.wanted o (yielded ops a0.tmps) && (match o.guard with
  | none => true
  | some (j, _) => G.all (fun h => dstOf ops h != dstOf ops j))
theorem ready_iff {md : Region.Mode} {ops : Array Oper} {l : Array Bool} {i : Nat} : i ∈ Region.ready md ops l ↔ i < ops.size ∧ l.getD i true = false ∧ ∀ e ∈ aheadOf md ops i, l.getD e false = true := by
 unfold Region.ready aheadOf
 rw [List.mem_filter, List.mem_range]
 constructor
 ·rintro ⟨h1, h2⟩
  simp only [Bool.and_eq_true, Bool.not_eq_true'] at h2
  refine ⟨h1, h2.1, fun e he => ?_⟩
  rw [Array.getElem?_eq_getElem h1] at h2 he
  simp only [Option.map_some, Option.getD_some, Array.all_eq_true, Bool.or_eq_true, Bool.not_eq_true', List.mem_map, List.mem_filter, Array.mem_toList_iff] at h2 he
  obtain ⟨x, ⟨hx, hb⟩, rfl⟩ := he
  obtain ⟨k, hk, rfl⟩ := Array.mem_iff_getElem.1 hx
  rcases h2.2 k hk with h | h
  ·rw [hb] at h; cases h
  ·exact h
 ·rintro ⟨h1, h2, h3⟩
  refine ⟨h1, ?_⟩
  rw [Array.getElem?_eq_getElem h1] at h3 ⊢
  simp only [Option.map_some, Option.getD_some, List.mem_map, List.mem_filter, Array.mem_toList_iff, forall_exists_index, and_imp] at h3
  simp only [Option.map_some, Option.getD_some, Bool.and_eq_true, Bool.not_eq_true', Array.all_eq_true, Bool.or_eq_true]
  refine ⟨h2, fun k hk => ?_⟩
  cases hb : Region.binds md ops[i].after[k] with
  | false => exact .inl rfl
  | true => exact .inr (h3 _ _ (Array.getElem_mem hk) hb rfl)
theorem getD_set (l : Array Bool) (i j : Nat) (d : Bool) (hi : i < l.size) : (l.setIfInBounds i true).getD j d = if j = i then true else l.getD j d := by
 simp only [Array.getD_eq_getD_getElem?, Array.getElem?_setIfInBounds]
 by_cases h : i = j
 ·subst h; simp [hi]
 ·rw [if_neg h, if_neg (fun e => h e.symm)]
theorem listG_size (G : List Nat) : ∀ l : Array Bool, (listG G l).size = l.size := by
 induction G with
 | nil => intro l; rfl
 | cons g r ih => intro l; unfold listG; rw [ih]; simp
theorem listG_getD (G : List Nat) : ∀ (l : Array Bool) (j : Nat) (d : Bool), (∀ g ∈ G, g < l.size) → (listG G l).getD j d = (G.contains j || l.getD j d) := by
 induction G with
 | nil => intro l j d _; simp [listG]
 | cons g r ih =>
  intro l j d h
  unfold listG
  rw [ih _ _ _ (fun x hx => by simpa using h x (List.mem_cons_of_mem _ hx)), getD_set _ _ _ _ (h g (List.mem_cons_self ..)), List.contains_cons]
  by_cases e : j = g
  ·subst e; simp
  ·rw [if_neg e, show (j == g) = false by simpa using e, Bool.false_or]
theorem ext_getD {l l' : Array Bool} (hs : l.size = l'.size) (h : ∀ j, l.getD j true = l'.getD j true) : l = l' := by
 refine Array.ext hs (fun i h1 h2 => ?_)
 have := h i
 simpa [Array.getD_eq_getD_getElem?, h1, h2] using this
theorem order_facts {md : Region.Mode} {ops : Array Oper} : ∀ {G : List Nat} {l : Array Bool}, orderG md ops G l = true → (∀ g ∈ G, g < l.size ∧ l.getD g true = false) ∧ G.Nodup ∧
  ∀ (pre post : List Nat) (g : Nat), G = pre ++ g :: post → ∀ e ∈ aheadOf md ops g, l.getD e false = true ∨ e ∈ pre := by
 intro G
 induction G with
 | nil => intro l _; exact ⟨fun g h => by simp at h, List.nodup_nil, fun pre post g h => by simp at h⟩
 | cons x r ih =>
  intro l h
  unfold orderG at h
  simp only [Bool.and_eq_true, decide_eq_true_eq, Bool.not_eq_true', List.all_eq_true] at h
  obtain ⟨⟨⟨h1, h2⟩, h3⟩, h4⟩ := h
  obtain ⟨i1, i2, i3⟩ := ih h4
  have hx : x ∉ r := fun hx => by have := (i1 x hx).2; rw [getD_set _ _ _ _ h1, if_pos rfl] at this; cases this
  refine ⟨fun g hg => ?_, List.nodup_cons.2 ⟨hx, i2⟩, fun pre post g hg e he => ?_⟩
  ·rcases List.mem_cons.1 hg with rfl | hg
   ·exact ⟨h1, h2⟩
   ·have := i1 g hg
    rw [getD_set _ _ _ _ h1] at this
    by_cases e : g = x
    ·rw [if_pos e] at this; exact absurd this.2 (by simp)
    ·rw [if_neg e] at this; exact ⟨by simpa using this.1, this.2⟩
  ·cases pre with
   | nil => simp at hg; obtain ⟨rfl, rfl⟩ := hg; exact .inl (h3 e he)
   | cons y pre =>
    simp at hg
    obtain ⟨rfl, hg⟩ := hg
    rcases i3 pre post g hg e he with h | h
    ·rw [getD_set _ _ _ _ h1] at h
     by_cases ex : e = x
     ·exact .inr (by simp [ex])
     ·rw [if_neg ex] at h; exact .inl h
    ·exact .inr (List.mem_cons_of_mem _ h)
theorem top_facts {md : Region.Mode} {ops : Array Oper} {m : Nat} {p : Nat → Prop} (hm : ∀ e ∈ aheadOf md ops m, p e) {GG : List Nat} (hc : ∀ g ∈ GG, p g → ∀ e ∈ aheadOf md ops g, p e) : ∀ {G : List Nat}, (∀ g ∈ G, g ∈ GG) → topG md ops m G = true → ∀ g ∈ G, p g := by
 intro G
 induction G with
 | nil => intro _ _ g h; simp at h
 | cons x r ih =>
  intro hsub h
  unfold topG at h
  simp only [Bool.and_eq_true, List.any_eq_true] at h
  obtain ⟨⟨q, hq, hqx⟩, hr⟩ := h
  have hr := ih (fun g hg => hsub g (List.mem_cons_of_mem _ hg)) hr
  intro g hg
  rcases List.mem_cons.1 hg with rfl | hg
  ·rcases List.mem_cons.1 hq with rfl | hq
   ·exact hm _ (by simpa using hqx)
   ·exact hc q (hsub q (List.mem_cons_of_mem _ hq)) (hr q hq) _ (by simpa using hqx)
  ·exact hr g hg
theorem nodup_sub : ∀ {D G : List Nat}, D.Nodup → (∀ g ∈ D, g ∈ G) → D.length ≤ G.length := by
 intro D
 induction D with
 | nil => intro G _ _; simp
 | cons x r ih =>
  intro G hn hs
  have hn := List.nodup_cons.1 hn
  have hx : x ∈ G := hs x (List.mem_cons_self ..)
  have h := ih (G := G.erase x) hn.2 (fun g hg => (List.mem_erase_of_ne (fun e => hn.1 (by rw [← e]; exact hg))).2 (hs g (List.mem_cons_of_mem _ hg)))
  have h2 := List.length_erase_of_mem hx
  have h3 := List.length_pos_of_mem hx
  simp only [List.length_cons]
  omega
theorem nodup_full {D G : List Nat} (hn : D.Nodup) (hs : ∀ g ∈ D, g ∈ G) (hl : G.length ≤ D.length) : ∀ g ∈ G, g ∈ D := fun g hg => Classical.byContradiction fun h => by
 have := nodup_sub (D := g :: D) (List.nodup_cons.2 ⟨h, hn⟩) (fun x hx => by
  rcases List.mem_cons.1 hx with rfl | hx
  ·exact hg
  ·exact hs x hx)
 simp only [List.length_cons] at this
 omega
theorem first_not {D : List Nat} : ∀ {G : List Nat}, (∃ g, g ∈ G ∧ g ∉ D) → ∃ pre g post, G = pre ++ g :: post ∧ (∀ x ∈ pre, x ∈ D) ∧ g ∉ D := by
 intro G
 induction G with
 | nil => rintro ⟨g, h, _⟩; simp at h
 | cons x r ih =>
  intro h
  by_cases hx : x ∈ D
  ·obtain ⟨pre, g, post, e, h1, h2⟩ := ih (by
    obtain ⟨g, hg, hn⟩ := h
    rcases List.mem_cons.1 hg with e | hg
    ·exact absurd (e ▸ hx) hn
    ·exact ⟨g, hg, hn⟩)
   exact ⟨x :: pre, g, post, by rw [e]; rfl, fun y hy => by
    rcases List.mem_cons.1 hy with e | hy
    ·rw [e]; exact hx
    ·exact h1 y hy, h2⟩
  ·exact ⟨[], x, r, rfl, fun y hy => by simp at hy, hx⟩
theorem slots_facts {ops : Array Oper} {n : Nat} : ∀ {G : List Nat}, slotsG ops n G = true → (∀ g ∈ G, ∃ t, dstOf ops g = some t ∧ t < n) ∧ ∀ g ∈ G, ∀ h ∈ G, G.Nodup → g ≠ h → dstOf ops g ≠ dstOf ops h := by
 intro G
 induction G with
 | nil => intro _; exact ⟨fun g h => by simp at h, fun g h => by simp at h⟩
 | cons x r ih =>
  intro h
  unfold slotsG at h
  simp only [Bool.and_eq_true] at h
  obtain ⟨h1, h2⟩ := h
  obtain ⟨i1, i2⟩ := ih h2
  cases hd : dstOf ops x with
  | none => rw [hd] at h1; cases h1
  | some t =>
   rw [hd] at h1
   simp only [Bool.and_eq_true, decide_eq_true_eq, List.all_eq_true, bne_iff_ne] at h1
   refine ⟨fun g hg => ?_, fun g hg k hk hn hne => ?_⟩
   ·rcases List.mem_cons.1 hg with rfl | hg
    ·exact ⟨t, hd, h1.1⟩
    ·exact i1 g hg
   ·rcases List.mem_cons.1 hg with e | hgr
    ·subst e
     rcases List.mem_cons.1 hk with e | hk
     ·exact absurd e.symm hne
     ·rw [hd]; exact fun e => h1.2 k hk e.symm
    ·rcases List.mem_cons.1 hk with e | hk
     ·rw [e, hd]; exact h1.2 g hgr
     ·exact i2 g hgr k hk (List.nodup_cons.1 hn).2 hne
/-- The frame while some have come up. -/
structure MidG (ops : Array Oper) (vs : Nat → Value) (D : List Nat) (a0 a : Act) : Prop where
 at' : ∀ g ∈ D, ∀ t, dstOf ops g = some t → a.tmps[t]? = some (vs g)
 other : ∀ t, (∀ g ∈ D, dstOf ops g ≠ some t) → a.tmps[t]? = a0.tmps[t]?
 size : a.tmps.size = a0.tmps.size
 defers : a.defers = a0.defers
theorem put_get (a : Act) (t : Nat) (v : Value) (s : Nat) (ht : t < a.tmps.size) : (a.put (some t) v).tmps[s]? = if s = t then some v else a.tmps[s]? := by
 show (a.tmps.setIfInBounds t v)[s]? = _
 rw [Array.getElem?_setIfInBounds]
 by_cases h : t = s
 ·subst h; simp [ht]
 ·rw [if_neg h, if_neg (fun e => h e.symm)]
theorem MidG.next {ops : Array Oper} {vs : Nat → Value} {D : List Nat} {a0 a : Act} (h : MidG ops vs D a0 a) {g t : Nat} (hg : dstOf ops g = some t) (ht : t < a0.tmps.size) (hD : ∀ k ∈ D, dstOf ops k ≠ some t) (hn : g ∉ D) (v : Value) :
  MidG ops (fun k => if k = g then v else vs k) (g :: D) a0 (a.put (some t) v) := by
 have hts : t < a.tmps.size := by rw [h.size]; exact ht
 refine ⟨fun k hk s hs => ?_, fun s hs => ?_, ?_, h.defers⟩
 ·rw [put_get _ _ _ _ hts]
  rcases List.mem_cons.1 hk with e | hk
  ·subst e; rw [hg] at hs; cases hs; simp
  ·have : s ≠ t := fun e => hD k hk (by rw [hs, e])
   rw [if_neg this, h.at' k hk s hs, if_neg (fun e : k = g => hn (by rw [← e]; exact hk))]
 ·rw [put_get _ _ _ _ hts, if_neg (fun e => hs g (List.mem_cons_self ..) (by rw [hg, e]))]
  exact h.other s (fun k hk => hs k (List.mem_cons_of_mem _ hk))
 ·show (a.tmps.setIfInBounds t v).size = _
  simp [h.size]
theorem MidG.eq {ops : Array Oper} {vs : Nat → Value} {D : List Nat} {a0 a b : Act} (h : MidG ops vs D a0 a) (h' : MidG ops vs D a0 b) : a = b := by
 obtain ⟨t1, d1⟩ := a
 obtain ⟨t2, d2⟩ := b
 have e1 : d1 = d2 := h.defers.trans h'.defers.symm
 have e2 : t1 = t2 := by
  apply Array.ext_getElem?
  intro s
  by_cases hs : ∃ g ∈ D, dstOf ops g = some s
  ·obtain ⟨g, hg, e⟩ := hs
   exact (h.at' g hg s e).trans (h'.at' g hg s e).symm
  ·have hs' : ∀ g ∈ D, dstOf ops g ≠ some s := fun g hg e => hs ⟨g, hg, e⟩
   exact (h.other s hs').trans (h'.other s hs').symm
 rw [e1, e2]
theorem fill_mid {ops : Array Oper} {vs : Nat → Value} {a0 : Act} : ∀ {G D : List Nat} {a : Act}, MidG ops vs D a0 a → (∀ g ∈ G, ∃ t, dstOf ops g = some t ∧ t < a0.tmps.size) → (∀ g ∈ G, ∀ k ∈ D, dstOf ops k ≠ dstOf ops g) → (∀ g ∈ G, ∀ h ∈ G, g ≠ h → dstOf ops g ≠ dstOf ops h) → (∀ g ∈ G, g ∉ D) → G.Nodup → MidG ops vs (G.reverse ++ D) a0 (fillG ops vs G a) := by
 intro G
 induction G with
 | nil => intro D a h _ _ _ _ _; exact h
 | cons g r ih =>
  intro D a h h1 h2 h3 h4 h5
  obtain ⟨t, e, ht⟩ := h1 g (List.mem_cons_self ..)
  have hn := List.nodup_cons.1 h5
  have h' := h.next e ht (fun k hk => by rw [← e]; exact h2 g (List.mem_cons_self ..) k hk) (h4 g (List.mem_cons_self ..)) (vs g)
  have hv : (fun k => if k = g then vs g else vs k) = vs := by funext k; split <;> simp_all
  rw [hv] at h'
  have := ih h' (fun k hk => h1 k (List.mem_cons_of_mem _ hk)) (fun k hk j hj => by
   rcases List.mem_cons.1 hj with rfl | hj
   ·exact h3 _ (List.mem_cons_self ..) k (List.mem_cons_of_mem _ hk) (fun e' => hn.1 (e' ▸ hk))
   ·exact h2 k (List.mem_cons_of_mem _ hk) j hj) (fun k hk j hj hne => h3 k (List.mem_cons_of_mem _ hk) j (List.mem_cons_of_mem _ hj) hne)
   (fun k hk hj => by
    rcases List.mem_cons.1 hj with rfl | hj
    ·exact hn.1 hk
    ·exact h4 k (List.mem_cons_of_mem _ hk) hj) hn.2
  unfold fillG
  rw [e]
  simpa using this
theorem MidG.perm {ops : Array Oper} {vs : Nat → Value} {D D' : List Nat} {a0 a : Act} (h : MidG ops vs D a0 a) (hD : ∀ g, g ∈ D ↔ g ∈ D') : MidG ops vs D' a0 a :=
 ⟨fun g hg => h.at' g ((hD g).2 hg), fun t ht => h.other t (fun g hg => ht g ((hD g).1 hg)), h.size, h.defers⟩
/-- **Operations that may come up in any order, at once**: G, in an order in which each may come up; m waits for all of them; 'step': what each yields means what it should, whatever came up ahead. -/
theorem wpAnyH_group {P : Program} {md : Region.Mode} {ops : Array Oper} {Q : Exit → Act → World → Prop} {S : World → Prop} (G : List Nat) (m : Nat) (φ : Nat → Value → World → Prop) (ψ : Nat → Nat → Value → Value → World → Prop) {listed : Array Bool} {a0 : Act} {w0 : World} {n : Nat}
    (hr : Region.ready md ops (listG G listed) = [m]) (ho : orderG md ops G listed = true) (ht : topG md ops m G = true) (hsl : slotsG ops a0.tmps.size G = true) (hgd : G.all (guardG ops a0 G) = true)
    (mono : ∀ g v w w', φ g v w → Below w.heap.size w w' → φ g v w')
    (mono2 : ∀ g h v u w w', ψ g h v u w → Below w.heap.size w w' → ψ g h v u w')
    (step : ∀ g ∈ G, ∀ o, ops[g]? = some o → ∀ (D : List Nat) (vs : Nat → Value) (a : Act) (w : World), (∀ e ∈ D, e ∈ G) → g ∉ D → (∀ e ∈ D, φ e (vs e) w) → (∀ e ∈ D, ∀ h ∈ D, e ≠ h → ψ e h (vs e) (vs h) w ∨ ψ h e (vs h) (vs e) w) → S w → Below w0.heap.size w0 w → (∀ t, (∀ k ∈ G, dstOf ops k ≠ some t) → a.tmps[t]? = a0.tmps[t]?) → (∀ e ∈ G, e ∈ aheadOf md ops g → e ∈ D ∧ ∀ t, dstOf ops e = some t → a.tmps[t]? = some (vs e)) →
      ∀ K : Act → World → Prop, Shut (∀ v w', S w' → φ g v w' → (∀ h ∈ D, ψ g h v (vs h) w') → Below w.heap.size w w' → K (a.put o.dst v) w') → Oper.wp P o a w K Q)
    (hS : S w0) (fin : ∀ vs w, S w → Below w0.heap.size w0 w → (∀ g ∈ G, φ g (vs g) w) → (∀ g ∈ G, ∀ h ∈ G, g ≠ h → ψ g h (vs g) (vs h) w ∨ ψ h g (vs h) (vs g) w) → wpAnyH P md ops Q S n (listG G listed) (fillG ops vs G a0) w) : wpAnyH P md ops Q S (n + G.length) listed a0 w0 := by
  obtain ⟨o1, o2, o3⟩ := order_facts ho
  obtain ⟨s1, s2⟩ := slots_facts hsl
  have hszL : ∀ g ∈ G, g < listed.size := fun g hg => (o1 g hg).1
  have key : ∀ (k : Nat) (D : List Nat) (vs : Nat → Value) (l : Array Bool) (a : Act) (w : World), (∀ g ∈ D, g ∈ G) → D.Nodup → D.length + k = G.length → l.size = listed.size → (∀ j d, l.getD j d = (D.contains j || listed.getD j d)) →
      (∀ g ∈ D, ∀ e ∈ aheadOf md ops g, l.getD e false = true) → MidG ops vs D a0 a → S w → Below w0.heap.size w0 w → (∀ g ∈ D, φ g (vs g) w) → (∀ g ∈ D, ∀ h ∈ D, g ≠ h → ψ g h (vs g) (vs h) w ∨ ψ h g (vs h) (vs g) w) → wpAnyH P md ops Q S (n + k) l a w := by
    intro k
    induction k with
    | zero =>
      intro D vs l a w hD hn hk hsz hl hc hM hSw hb hφ hψ
      have hDG : ∀ g, g ∈ D ↔ g ∈ G := fun g => ⟨hD g, nodup_full hn hD (by omega) g⟩
      have e1 : l = listG G listed := ext_getD (by rw [hsz, listG_size]) (fun j => by
        rw [hl, listG_getD _ _ _ _ hszL]
        congr 1
        have := hDG j
        simp only [List.contains_eq_mem]
        simp [this])
      have e2 : a = fillG ops vs G a0 := by
        have h0 : MidG ops vs [] a0 a0 := ⟨fun g h => by simp at h, fun _ _ => rfl, rfl, rfl⟩
        have := fill_mid h0 s1 (fun g _ k hk => by simp at hk) (fun g hg h hh hne => s2 g hg h hh o2 hne) (fun g _ h => by simp at h) o2
        exact (hM.perm (D' := G.reverse ++ []) (fun g => by rw [hDG g]; simp)).eq this
      subst e1 e2
      exact fin vs w hSw hb (fun g hg => hφ g ((hDG g).2 hg)) (fun g hg h hh => hψ g ((hDG g).2 hg) h ((hDG h).2 hh))
    | succ k ih =>
      intro D vs l a w hD hn hk hsz hl hc hM hSw hb hφ hψ
      have hlt : ∃ g, g ∈ G ∧ g ∉ D := by
        refine Classical.byContradiction fun h => ?_
        have hs : ∀ g ∈ G, g ∈ D := fun g hg => Classical.byContradiction fun h2 => h ⟨g, hg, h2⟩
        have := nodup_sub o2 hs
        omega
      have hin : ∀ i ∈ Region.ready md ops l, i ∈ G ∧ i ∉ D := by
        intro i hi
        obtain ⟨r1, r2, r3⟩ := ready_iff.1 hi
        have hiD : i ∉ D := fun h => by rw [hl, List.contains_eq_mem, decide_eq_true h] at r2; cases r2
        refine ⟨Classical.byContradiction fun hiG => ?_, hiD⟩
        have hir : i ∈ Region.ready md ops (listG G listed) := ready_iff.2 ⟨r1, by
          rw [listG_getD _ _ _ _ hszL, List.contains_eq_mem, decide_eq_false hiG, Bool.false_or]
          rw [hl, List.contains_eq_mem, decide_eq_false hiD, Bool.false_or] at r2
          exact r2, fun e he => by
          have := r3 e he
          rw [hl] at this
          rw [listG_getD _ _ _ _ hszL]
          rcases Bool.or_eq_true_iff.1 this with h | h
          · rw [List.contains_eq_mem] at h
            rw [List.contains_eq_mem, decide_eq_true (hD e (by simpa using h)), Bool.true_or]
          · rw [h, Bool.or_true]⟩
        rw [hr] at hir
        obtain rfl : i = m := by simpa using hir
        have hall := top_facts (p := fun e => l.getD e false = true) r3 (GG := G) (fun g hgG hg e he => by
          rw [hl] at hg
          rcases Bool.or_eq_true_iff.1 hg with h | h
          · exact hc g (by simpa using h) e he
          · have := (o1 g hgG).2
            have h2 := (o1 g hgG).1
            simp only [Array.getD_eq_getD_getElem?, Array.getElem?_eq_getElem h2, Option.getD_some] at h this
            rw [h] at this; cases this) (fun g hg => hg) ht
        obtain ⟨g, hg, hgD⟩ := hlt
        have h1 := hall g hg
        rw [hl, List.contains_eq_mem, decide_eq_false hgD, Bool.false_or] at h1
        have h2 := (o1 g hg).2
        have h3 := (o1 g hg).1
        simp only [Array.getD_eq_getD_getElem?, Array.getElem?_eq_getElem h3, Option.getD_some] at h1 h2
        rw [h1] at h2; cases h2
      have hl2 : ∀ (i : Nat), i ∈ G → ∀ j d, (l.setIfInBounds i true).getD j d = ((i :: D).contains j || listed.getD j d) := fun i hi j d => by
        rw [getD_set _ _ _ _ (by rw [hsz]; exact hszL i hi), hl, List.contains_cons]
        by_cases e : j = i
        · rw [if_pos e, show (j == i) = true by simpa using e, Bool.true_or, Bool.true_or]
        · rw [if_neg e, show (j == i) = false by simpa using e, Bool.false_or]
      show wpAnyH P md ops Q S (n + k + 1) l a w
      refine ⟨fun h0 => ?_, fun i hi => ?_⟩
      · obtain ⟨pre, g, post, e, h1, h2⟩ := first_not hlt
        have hgG : g ∈ G := by rw [e]; simp
        have : g ∈ Region.ready md ops l := ready_iff.2 ⟨?_, ?_, fun x hx => ?_⟩
        · rw [h0] at this; simp at this
        · obtain ⟨t, ht', _⟩ := s1 g hgG
          unfold dstOf at ht'
          cases hq : ops[g]? with
          | none => rw [hq] at ht'; cases ht'
          | some o => exact (Array.getElem?_eq_some_iff.1 hq).1
        · rw [hl, List.contains_eq_mem, decide_eq_false h2, Bool.false_or]; exact (o1 g hgG).2
        · rw [hl]
          rcases o3 pre post g e x hx with h | h
          · rw [h, Bool.or_true]
          · rw [List.contains_eq_mem, decide_eq_true (h1 x h), Bool.true_or]
      · obtain ⟨hiG, hiD⟩ := hin i hi
        obtain ⟨r1, r2, r3⟩ := ready_iff.1 hi
        obtain ⟨t, hdt, htz⟩ := s1 i hiG
        have hoi : ops[i]? = some ops[i] := Array.getElem?_eq_getElem r1
        have hg := List.all_eq_true.1 hgd i hiG
        have hdo : ops[i].dst = some t := by unfold dstOf at hdt; rw [hoi] at hdt; exact hdt
        unfold guardG at hg
        rw [hoi] at hg
        simp only [Bool.and_eq_true] at hg
        have hw : Region.wanted ops[i] (yielded ops a.tmps) = true := by
          have h1 := hg.1
          have h2 := hg.2
          unfold Region.wanted at h1 ⊢
          cases hq : ops[i].guard with
          | none => rfl
          | some jw =>
            obtain ⟨j, want⟩ := jw
            rw [hq] at h1 h2
            simp only [List.all_eq_true, bne_iff_ne] at h1 h2
            have : yielded ops a.tmps j = yielded ops a0.tmps j := by
              unfold yielded
              show (match (dstOf ops j).bind (a.tmps[·]?) with | some (.bool b) => some b | _ => none) = (match (dstOf ops j).bind (a0.tmps[·]?) with | some (.bool b) => some b | _ => none)
              cases hj : dstOf ops j with
              | none => rfl
              | some s =>
                simp only [Option.bind_some]
                rw [hM.other s (fun g hg' e => h2 g (hD g hg') (by rw [e, hj]))]
            show (yielded ops a.tmps j == some want) = true
            rw [this]; exact h1
        unfold wpOp
        rw [hoi]
        simp only [hw, if_true]
        refine .inl (step i hiG _ hoi D vs a w hD hiD hφ hψ hSw hb (fun s hs => hM.other s (fun g hg' => hs g (hD g hg'))) (fun e he hea => ?_) _ (fun v w' hS' hφ' hψ' hb' => ⟨hS', ?_⟩))
        · have heD : e ∈ D := by
            have := r3 e hea
            rw [hl] at this
            rcases Bool.or_eq_true_iff.1 this with h | h
            · simpa using h
            · have h2 := (o1 e he).2
              have h3 := (o1 e he).1
              simp only [Array.getD_eq_getD_getElem?, Array.getElem?_eq_getElem h3, Option.getD_some] at h h2
              rw [h] at h2; cases h2
          exact ⟨heD, fun s hs => hM.at' e heD s hs⟩
        · rw [hdo]
          refine ih (i :: D) (fun g => if g = i then v else vs g) _ _ w' (fun g hg' => ?_) (List.nodup_cons.2 ⟨hiD, hn⟩) (by simp only [List.length_cons]; omega) (by simpa using hsz) (hl2 i hiG) (fun g hg' e he => ?_) (hM.next hdt htz (fun q hq e => s2 q (hD q hq) i hiG o2 (fun e' => hiD (by rw [← e']; exact hq)) (by rw [e, hdt])) hiD v) hS' ?_ (fun g hg' => ?_) (fun g hg' h hh' hne => ?_)
          · rcases List.mem_cons.1 hg' with e | hg'
            · rw [e]; exact hiG
            · exact hD g hg'
          · rw [getD_set _ _ _ _ (by rw [hsz]; exact hszL i hiG)]
            split
            · rfl
            · rcases List.mem_cons.1 hg' with e' | hg'
              · rw [e'] at he; exact r3 e he
              · exact hc g hg' e he
          · exact hb.trans (hb'.mono hb.size)
          · rcases List.mem_cons.1 hg' with e | hg'
            · subst e; simp only [if_true]; exact hφ'
            · have : g ≠ i := fun e => hiD (by rw [← e]; exact hg')
              simp only [this, if_false]
              exact mono _ _ _ _ (hφ g hg') hb'
          · have ne : ∀ x ∈ D, x ≠ i := fun x hx e => hiD (by rw [← e]; exact hx)
            rcases List.mem_cons.1 hg' with e | gD
            · rcases List.mem_cons.1 hh' with e' | hD'
              · exact absurd (e.trans e'.symm) hne
              · left
                rw [e]
                simp only [if_true, ne h hD', if_false]
                exact hψ' h hD'
            · rcases List.mem_cons.1 hh' with e' | hD'
              · right
                rw [e']
                simp only [if_true, ne g gD, if_false]
                exact hψ' g gD
              · simp only [ne g gD, ne h hD', if_false]
                exact (hψ g gD h hD' hne).imp (fun q => mono2 _ _ _ _ _ _ q hb') (fun q => mono2 _ _ _ _ _ _ q hb')
  exact key G.length [] (fun _ => undef) listed a0 w0 (fun g h => by simp at h) List.nodup_nil (by simp) rfl (fun j d => by simp) (fun g h => by simp at h) ⟨fun g h => by simp at h, fun _ _ => rfl, rfl, rfl⟩ hS (Below.refl _ _) (fun g h => by simp at h) (fun g h => by simp at h)
end Go.Proofs.Ytiblcpkejhiehaa

namespace Go.Proofs.Ytiblcpkejhiehaa
abbrev Lks := List (Int × Int)
def lk (L : Lks) (i : Nat) : Int × Int := L.getD i (0, 0)
theorem lk_mem {L : Lks} {i : Nat} (h : i < L.length) : lk L i ∈ L := by
 unfold lk; simp only [List.getD, List.getElem?_eq_getElem h, Option.getD_some]; exact List.getElem_mem h
theorem mem_lk {L : Lks} {p : Int × Int} (h : p ∈ L) : ∃ i, i < L.length ∧ lk L i = p := by
 obtain ⟨i, hi, rfl⟩ := List.getElem_of_mem h
 exact ⟨i, hi, by simp [lk, List.getD, hi]⟩
/-- The first place of a link; -1: there is none. -/
def findFrom : Lks → Int × Int → Nat → Int
 | [], _, _ => -1
 | q :: r, p, i => if q = p then i else findFrom r p (i + 1)
def findL (L : Lks) (p : Int × Int) : Int := findFrom L p 0
theorem findFrom_hit (p : Int × Int) : ∀ (L : Lks) (i k : Nat), k < L.length → lk L k = p → (∀ j, j < k → lk L j ≠ p) → findFrom L p i = ((i + k : Nat) : Int)
 | [], _, _, h, _, _ => by simp at h
 | q :: r, i, 0, _, h, _ => by
  have : q = p := by simpa [lk] using h
  simp [findFrom, this]
 | q :: r, i, k + 1, hk, h, hj => by
  have hq : q ≠ p := by simpa [lk] using hj 0 (by omega)
  have ih := findFrom_hit p r (i + 1) k (by simpa using hk) (by simpa [lk] using h) (fun j hjk => by simpa [lk] using hj (j + 1) (by omega))
  simp only [findFrom, if_neg hq, ih]
  congr 1
  omega
theorem findFrom_miss (p : Int × Int) : ∀ (L : Lks) (i : Nat), (∀ j, j < L.length → lk L j ≠ p) → findFrom L p i = -1
 | [], _, _ => rfl
 | q :: r, i, hj => by
  have hq : q ≠ p := by simpa [lk] using hj 0 (by simp)
  simp only [findFrom, if_neg hq]
  exact findFrom_miss p r (i + 1) (fun j h => by simpa [lk] using hj (j + 1) (by simpa using h))
theorem findL_hit {p : Int × Int} {L : Lks} {k : Nat} (hk : k < L.length) (h : lk L k = p) (hj : ∀ j, j < k → lk L j ≠ p) : findL L p = (k : Int) := by
 unfold findL; rw [findFrom_hit p L 0 k hk h hj]; simp
theorem findL_miss {p : Int × Int} {L : Lks} (hj : ∀ j, j < L.length → lk L j ≠ p) : findL L p = -1 := findFrom_miss p L 0 hj
theorem findL_cases (L : Lks) (p : Int × Int) : (∃ k, k < L.length ∧ lk L k = p ∧ (∀ j, j < k → lk L j ≠ p) ∧ findL L p = (k : Int)) ∨ (p ∉ L ∧ findL L p = -1) := by
 by_cases h : ∃ k, k < L.length ∧ lk L k = p
 ·have key : ∀ n : Nat, ∀ k, k ≤ n → k < L.length → lk L k = p → ∃ k, k < L.length ∧ lk L k = p ∧ (∀ j, j < k → lk L j ≠ p) := by
   intro n
   induction n with
   | zero => intro k hk h1 h2; exact ⟨k, h1, h2, fun j hj => by omega⟩
   | succ n ih =>
    intro k hk h1 h2
    by_cases hm : ∃ j, j < k ∧ lk L j = p
    ·obtain ⟨j, hj, he⟩ := hm
     exact ih j (by omega) (by omega) he
    ·exact ⟨k, h1, h2, fun j hj he => hm ⟨j, hj, he⟩⟩
  obtain ⟨k, hk, he⟩ := h
  obtain ⟨k', a, b, c⟩ := key k k (Nat.le_refl _) hk he
  exact .inl ⟨k', a, b, c, findL_hit a b c⟩
 ·refine .inr ⟨fun hm => h ?_, findL_miss fun j hj he => h ⟨j, hj, he⟩⟩
  obtain ⟨i, hi, he⟩ := mem_lk hm
  exact ⟨i, hi, he⟩
theorem findL_neg {L : Lks} {p : Int × Int} : findL L p < 0 ↔ p ∉ L := by
 rcases findL_cases L p with ⟨k, a, b, c, d⟩ | ⟨a, b⟩
 ·rw [d]
  constructor
  ·intro h; omega
  ·intro h; exact absurd (b ▸ lk_mem a) h
 ·rw [b]; simp [a]
/-- The places, below k, that are wanted. -/
def selL (p : Nat → Bool) (k : Nat) : List Int := ((List.range k).filter p).map Int.ofNat
theorem selL_succ (p : Nat → Bool) (k : Nat) : selL p (k + 1) = if p k then selL p k ++ [(k : Int)] else selL p k := by
 unfold selL
 rw [List.range_succ, List.filter_append, List.map_append]
 by_cases h : p k <;> simp [h]
theorem selL_length (p : Nat → Bool) (k : Nat) : (selL p k).length ≤ k := by
 unfold selL
 rw [List.length_map]
 exact Nat.le_trans (List.length_filter_le _ _) (by simp)
theorem mem_selL {p : Nat → Bool} {k : Nat} {x : Int} : x ∈ selL p k ↔ ∃ i, i < k ∧ p i = true ∧ x = (i : Int) := by
 unfold selL
 simp only [List.mem_map, List.mem_filter, List.mem_range]
 constructor
 ·rintro ⟨i, ⟨h1, h2⟩, rfl⟩; exact ⟨i, h1, h2, rfl⟩
 ·rintro ⟨i, h1, h2, rfl⟩; exact ⟨i, ⟨h1, h2⟩, rfl⟩
/-- A way of so many links. -/
def Way (L : Lks) : Nat → Int → Int → Prop
 | 0, a, b => a = b
 | k + 1, a, b => ∃ c, Way L k a c ∧ (c, b) ∈ L
/-- How far a node is, k links, and no fewer. -/
def Far (L : Lks) (k : Nat) (a b : Int) : Prop := Way L k a b ∧ ∀ j, j < k → ¬ Way L j a b
theorem Far.eq {L : Lks} {j k : Nat} {a b : Int} (h : Far L j a b) (h' : Far L k a b) : j = k := by
 rcases Nat.lt_trichotomy j k with g | g | g
 ·exact absurd h.1 (h'.2 j g)
 ·exact g
 ·exact absurd h'.1 (h.2 k g)
theorem far_of_way {L : Lks} {a b : Int} : ∀ {k : Nat}, Way L k a b → ∃ j, j ≤ k ∧ Far L j a b := by
 intro k
 induction k using Nat.strongRecOn with
 | ind k ih =>
  intro h
  by_cases hm : ∃ j, j < k ∧ Way L j a b
  ·obtain ⟨j, hj, hw⟩ := hm
   obtain ⟨i, hi, hf⟩ := ih j hj hw
   exact ⟨i, by omega, hf⟩
  ·exact ⟨k, Nat.le_refl _, h, fun j hj hw => hm ⟨j, hj, hw⟩⟩
def nd (d : List Int) (y : Int) : Int := d.getD y.toNat (-1)
/-- What Dist tells, of nodes 0 to n - 1. -/
def IsDist (n : Nat) (L : Lks) (a : Int) (d : List Int) : Prop :=
 d.length = n ∧ ∀ y : Nat, y < n → (∃ k : Nat, d.getD y (-1) = (k : Int) ∧ Far L k a y) ∨ (d.getD y (-1) = -1 ∧ ∀ k, ¬ Way L k a y)
theorem IsDist.eq {n : Nat} {L : Lks} {a : Int} {d e : List Int} (h : IsDist n L a d) (h' : IsDist n L a e) : d = e := by
 apply List.ext_getElem (by rw [h.1, h'.1])
 intro i h1 h2
 have hi : i < n := by rw [← h.1]; exact h1
 have g1 : d.getD i (-1) = d[i] := by simp [List.getD, h1]
 have g2 : e.getD i (-1) = e[i] := by simp [List.getD, h2]
 rw [← g1, ← g2]
 rcases h.2 i hi with ⟨k, a1, a2⟩ | ⟨a1, a2⟩
 ·rcases h'.2 i hi with ⟨k', b1, b2⟩ | ⟨b1, b2⟩
  ·rw [a1, b1, a2.eq b2]
  ·exact absurd a2.1 (b2 k)
 ·rcases h'.2 i hi with ⟨k', b1, b2⟩ | ⟨b1, b2⟩
  ·exact absurd b2.1 (a2 k')
  ·rw [a1, b1]
/-- Each link is between nodes. -/
def InR (n : Nat) (L : Lks) : Prop := ∀ p ∈ L, 0 ≤ p.1 ∧ p.1 < n ∧ 0 ≤ p.2 ∧ p.2 < n
end Go.Proofs.Ytiblcpkejhiehaa
namespace Go.Proofs.Ytiblcpkejhiehaa
open Go.RowKit Go.PlainAid
theorem owns_slice {w : World} {base : Nat} {e : TypeId} {size : Nat} {v : Value} {n : Nat} {xs : List Value} (h : w.ownsRow base e size v n xs) : ∃ ao cap, v = .slice ao n cap := by
 rcases h.2 with ⟨hv, h0⟩ | ⟨g, cap, cur, hv, _⟩
 ·exact ⟨none, 0, by rw [hv, h0]⟩
 ·exact ⟨_, _, hv⟩
theorem below_step {B : Nat} {w w1 w2 : World} (hB : B ≤ w1.heap.size) (h1 : Below B w w1) (h2 : Below w1.heap.size w1 w2) : Below B w w2 := h1.trans (h2.mono hB)
theorem lt_of_block {w : World} {b : Nat} {o : Obj} (h : w.heap[b]? = some o) : b < w.heap.size := (Array.getElem?_eq_some_iff.1 h).1
theorem below_drewN {B : Nat} {a w : World} (h : Below B a w) (n : Nat) : Below B a (w.drewN n) := h.trans ⟨rfl, rfl, rfl, Nat.le_refl _, fun _ _ => rfl⟩
/-- A slice of links in memory. -/
def LinksAt (w : World) (v : Value) (L : Lks) : Prop :=
 (∃ a cap, v = .slice a 0 cap ∧ L = []) ∨
 ∃ b off len cap, v = .slice (some ⟨b, off, none⟩) len cap ∧ L.length = len ∧ 0 < len ∧ b < w.heap.size ∧ len ≤ cap ∧
  ∀ i, i < len → w.cell? ⟨b, off + i * 2, none⟩ = some (.int .i64 (lk L i).1) ∧ w.cell? ⟨b, off + i * 2 + 1, none⟩ = some (.int .i64 (lk L i).2)
theorem LinksAt.below {w w' : World} {v : Value} {L : Lks} (h : LinksAt w v L) (hb : Below w.heap.size w w') : LinksAt w' v L := by
 rcases h with h | ⟨b, off, len, cap, h1, h2, h3, h4, h6, h5⟩
 ·exact .inl h
 ·exact .inr ⟨b, off, len, cap, h1, h2, h3, by have := hb.size; omega, h6, fun i hi => ⟨(hb.cell (by exact h4)).trans (h5 i hi).1, (hb.cell (by exact h4)).trans (h5 i hi).2⟩⟩
theorem sizeInt (w : World) : (sizeOf 3).run Try.prog w = .ok 1 w := by kernel_rfl
theorem run_eqPair (w : World) (a b c d : Int) : (Op.equalIn 10000 52 (.agg #[.int .i64 a, .int .i64 b]) (.agg #[.int .i64 c, .int .i64 d])).run Try.prog w = .ok (a == c && b == d) w := by
 rw [Op.equalIn]
 simp only [Sem.run_bind, run_underlying Try.underlying52, Result.andThen_ok, sizeInt, Std.Legacy.Range.forIn_eq_forIn_range', Std.Legacy.Range.size, Nat.sub_zero, Nat.add_sub_cancel, Nat.div_one]
 have e1 : List.range' 0 2 1 = [0, 1] := rfl
 rw [e1]
 have p0 : ∀ x y : Int, (part 3 #[.int .i64 x, .int .i64 y] (0 * 1)).run Try.prog w = .ok (.int .i64 x) w := fun x y => by simp [part, isAgg, run_underlying Try.underlying3]
 have p1 : ∀ x y : Int, (part 3 #[.int .i64 x, .int .i64 y] (1 * 1)).run Try.prog w = .ok (.int .i64 y) w := fun x y => by simp [part, isAgg, run_underlying Try.underlying3]
 have pe : ∀ x y : Int, (Op.equalIn 9999 3 (.int .i64 x) (.int .i64 y)).run Try.prog w = .ok (x == y) w := fun x y => run_equalIn_int w 9998 _ .i64 .i64 x y Try.underlying3
 simp only [List.forIn_cons, List.forIn_nil, Sem.run_bind, p0, pe, Result.andThen_ok]
 cases h1 : (a == c) <;> simp only [Bool.not_true, Bool.not_false, Bool.false_eq_true, if_false, if_true, Sem.run_pure, Result.andThen_ok, p1, pe, Sem.run_bind, Bool.true_and, Bool.false_and]
 cases h2 : (b == d) <;> simp only [Bool.not_true, Bool.not_false, Bool.false_eq_true, if_false, if_true, Sem.run_pure, Result.andThen_ok]
attribute [go_sem] run_eqPair
end Go.Proofs.Ytiblcpkejhiehaa
namespace Go.Proofs.Ytiblcpkejhiehaa
open Go.RowKit Go.PlainAid
def gv (N : Int) (v : Value) : Value := .agg #[.int .i64 N, v]
def pv (p : Int × Int) : Value := .agg #[.int .i64 p.1, .int .i64 p.2]
theorem has_any (N n : Int) (v : Value) (r : Bool) (w : World) (hr : decide (0 ≤ n ∧ n < N) = r) :
  Calls Try.prog 85 #[gv N v, .int .i64 n] w fun e w' => e = .returned (.bool r) ∧ Below w.heap.size w w' := by
 have Hb := Lib.hid ((Below.refl w.heap.size w).alloc (Nat.le_refl _) (.cells #[.int .i64 N, v] 24))
 unfold gv
 by_cases h0 : 0 ≤ n
 ·by_cases h1 : n < N
  ·have hr' : r = true := by rw [← hr]; simp [h0, h1]
   have Hr := Lib.hid hr'
   clear hr hr'
   go_enter Try.func85, Try.ntmps85
   go_wp2_with fail
   go_ret
   exact ⟨by rw [Hr.out]; rfl, Hb.out⟩
  ·have hr' : r = false := by rw [← hr]; simp [h1]
   have Hr := Lib.hid hr'
   clear hr hr'
   go_enter Try.func85, Try.ntmps85
   go_wp2_with fail
   go_ret
   exact ⟨by rw [Hr.out]; rfl, Hb.out⟩
 ·have hr' : r = false := by rw [← hr]; simp [h0]
  have Hr := Lib.hid hr'
  clear hr hr'
  go_enter Try.func85, Try.ntmps85
  go_wp2_with fail
  go_ret
  exact ⟨by rw [Hr.out]; rfl, Hb.out⟩
theorem turned_any (p : Int × Int) (w : World) :
  Calls Try.prog 86 #[pv p] w fun e w' => e = .returned (pv (p.2, p.1)) ∧ Below w.heap.size w w' := by
 obtain ⟨a, b⟩ := p
 unfold pv
 simp only
 go_enter Try.func86, Try.ntmps86
 go_wp2_with fail
 refine bodyPost_ret (v := .agg #[.int .i64 b, .int .i64 a]) (by simp [results, Try.results86, go_sem]) rfl ⟨rfl, ?_⟩
 go_grown
set_option maxHeartbeats 8000000 in
theorem index_some (b off len cap : Nat) (L : Lks) (p : Int × Int) (w : World) (hl : L.length = len) (hb : b < w.heap.size)
  (hc : ∀ i, i < len → w.cell? ⟨b, off + i * 2, none⟩ = some (.int .i64 (lk L i).1) ∧ w.cell? ⟨b, off + i * 2 + 1, none⟩ = some (.int .i64 (lk L i).2)) (hlb : len ≤ 1000000) :
  Calls Try.prog 90 #[.slice (some ⟨b, off, none⟩) len cap, pv p] w fun e w' => e = .returned (.int .i64 (findL L p)) ∧ Below w.heap.size w w' := by
 obtain ⟨x, y⟩ := p
 unfold pv
 simp only
 have hbel := (Below.refl w.heap.size w).alloc (Nat.le_refl _) (.cells #[.int .i64 x, .int .i64 y] 52)
 have hc' : ∀ i, i < len → (w.alloc (.cells #[.int .i64 x, .int .i64 y] 52)).cell? ⟨b, off + i * 2, none⟩ = some (.int .i64 (lk L i).1) ∧ (w.alloc (.cells #[.int .i64 x, .int .i64 y] 52)).cell? ⟨b, off + i * 2 + 1, none⟩ = some (.int .i64 (lk L i).2) :=
  fun i hi => ⟨(hbel.cell (by exact hb)).trans (hc i hi).1, (hbel.cell (by exact hb)).trans (hc i hi).2⟩
 have hx : (w.alloc (.cells #[.int .i64 x, .int .i64 y] 52)).cell? ⟨w.heap.size, 0, none⟩ = some (.int .i64 x) := World.cell?_alloc_at _ _ _ _ rfl
 have hy : (w.alloc (.cells #[.int .i64 x, .int .i64 y] 52)).cell? ⟨w.heap.size, 1, none⟩ = some (.int .i64 y) := World.cell?_alloc_at _ _ _ _ rfl
 have Hc := Lib.hid hc'
 have Hl := Lib.hid hl
 have Hb := Lib.hid hbel
 clear hc hc' hl hbel
 go_enter Try.func90, Try.ntmps90
 go_wp2_with fail
 generalize w.alloc (.cells #[.int .i64 x, .int .i64 y] 52) = wb at *
 go_loopw [8] (fun i wr => ∃ k : Nat, i = .int .i64 k ∧ k ≤ len ∧ (∀ j, j < k → lk L j ≠ (x, y)) ∧ ∃ n, wr = wb.drewN n) (fun i _ => len - (intOf i).toNat)
 case atStart => exact ⟨0, rfl, by omega, fun j hj => by omega, 0, rfl⟩
 case round =>
  obtain ⟨k, rfl, hk, hno, n, rfl⟩ := hrel
  have Hs := Lib.hid hno
  clear hno
  by_cases hlt : k < len
  ·have hlt' : (k : Int) < len := by omega
   obtain ⟨c1, c2⟩ := Hc.out k hlt
   obtain ⟨e1, he1⟩ : ∃ e1, e1 = (lk L k).1 := ⟨_, rfl⟩
   obtain ⟨e2, he2⟩ : ∃ e2, e2 = (lk L k).2 := ⟨_, rfl⟩
   rw [← he1] at c1
   rw [← he2] at c2
   have He1 := Lib.hid he1
   have He2 := Lib.hid he2
   clear he1 he2
   by_cases hq : (x == e1 && y == e2) = true
   ·have Hq := Lib.hid hq
    go_wp2_with fail
    go_quiet (fail)
    go_wp2_with fail
    go_ret
    refine ⟨?_, below_drewN (below_drewN Hb.out _) _⟩
    have hh := Hq.out
    simp only [Bool.and_eq_true, beq_iff_eq] at hh
    rw [findL_hit (L := L) (p := (x, y)) (k := k) (by rw [Hl.out]; exact hlt) (by rw [hh.1, hh.2, He1.out, He2.out]) Hs.out]
    rfl
   ·have Hq := Lib.hid hq
    have hq' : (x == e1 && y == e2) = false := by simpa using hq
    clear hq
    go_wp2_with fail
    go_quiet (fail)
    go_wp2_with fail
    go_roundw
    case rel =>
     refine ⟨k + 1, by go_num, by omega, fun j hj => ?_, _, rfl⟩
     by_cases hjk : j < k
     ·exact Hs.out j hjk
     ·obtain rfl : j = k := by omega
      intro h
      apply Hq.out
      rw [He1.out, He2.out, h]
      simp
    case measure => simp [intOf]; omega
  ·have hlt' : ¬ (k : Int) < len := by omega
   go_wp2_with fail
   go_ret
   refine ⟨?_, below_drewN Hb.out _⟩
   rw [findL_miss (L := L) (p := (x, y)) (fun j hj => Hs.out j (by rw [Hl.out] at hj; omega))]
   rfl
theorem index_any (v : Value) (L : Lks) (p : Int × Int) (w : World) (h : LinksAt w v L) (hn : L.length ≤ 1000000) :
  Calls Try.prog 90 #[v, pv p] w fun e w' => e = .returned (.int .i64 (findL L p)) ∧ Below w.heap.size w w' := by
 rcases h with ⟨a, cap, rfl, rfl⟩ | ⟨b, off, len, cap, rfl, hl, hp, hb, hlc, hc⟩
 ·obtain ⟨x, y⟩ := p
  unfold pv
  simp only
  go_enter Try.func90, Try.ntmps90
  go_wp2_with fail
  refine wp_loop_rounds 1 ?_
  rw [rounds_succ]
  go_wp2_with fail
  go_ret
  exact ⟨rfl, by go_grown⟩
 ·exact index_some b off len cap L p w hl hb hc (by omega)
end Go.Proofs.Ytiblcpkejhiehaa
namespace Go.Proofs.Ytiblcpkejhiehaa
open Go.RowKit Go.PlainAid
set_option maxHeartbeats 8000000 in
theorem rfind_some (b off len cap : Nat) (L : Lks) (N x y : Int) (w : World) (hl : L.length = len) (hb : b < w.heap.size)
  (hc : ∀ i, i < len → w.cell? ⟨b, off + i * 2, none⟩ = some (.int .i64 (lk L i).1) ∧ w.cell? ⟨b, off + i * 2 + 1, none⟩ = some (.int .i64 (lk L i).2)) (hlb : len ≤ 1000000) :
  Calls Try.prog 61 #[gv N (.slice (some ⟨b, off, none⟩) len cap), .int .i64 x, .int .i64 y] w fun e w' => e = .returned (.int .i64 (findL L (x, y))) ∧ Below w.heap.size w w' := by
 unfold gv
 obtain ⟨wb, hwb⟩ : ∃ wb, wb = w.alloc (.cells #[.int .i64 N, .slice (some ⟨b, off, none⟩) len cap] 35) := ⟨_, rfl⟩
 have hbel : Below w.heap.size w wb := by rw [hwb]; exact (Below.refl w.heap.size w).alloc (Nat.le_refl _) _
 have hc' : ∀ i, i < len → wb.cell? ⟨b, off + i * 2, none⟩ = some (.int .i64 (lk L i).1) ∧ wb.cell? ⟨b, off + i * 2 + 1, none⟩ = some (.int .i64 (lk L i).2) :=
  fun i hi => ⟨(hbel.cell (by exact hb)).trans (hc i hi).1, (hbel.cell (by exact hb)).trans (hc i hi).2⟩
 have hx : wb.cell? ⟨w.heap.size, 1, none⟩ = some (.slice (some ⟨b, off, none⟩) len cap) := by rw [hwb]; exact World.cell?_alloc_at _ _ _ _ rfl
 have Hc := Lib.hid hc'
 have Hl := Lib.hid hl
 have Hb := Lib.hid hbel
 clear hc hc' hl hbel
 go_enter Try.func61, Try.ntmps61
 go_wp2_with fail
 rw [← hwb]
 clear hwb
 go_loopw [7] (fun i wr => ∃ k : Nat, i = .int .i64 k ∧ k ≤ len ∧ (∀ j, j < k → lk L j ≠ (x, y)) ∧ wr = wb) (fun i _ => len - (intOf i).toNat)
 case atStart => exact ⟨0, rfl, by omega, fun j hj => by omega, rfl⟩
 case round =>
  obtain ⟨k, rfl, hk, hno, rfl⟩ := hrel
  have Hs := Lib.hid hno
  clear hno
  by_cases hlt : k < len
  ·have hlt' : (k : Int) < len := by omega
   obtain ⟨c1, c2⟩ := Hc.out k hlt
   obtain ⟨e1, he1⟩ : ∃ e1, e1 = (lk L k).1 := ⟨_, rfl⟩
   obtain ⟨e2, he2⟩ : ∃ e2, e2 = (lk L k).2 := ⟨_, rfl⟩
   rw [← he1] at c1
   rw [← he2] at c2
   have He1 := Lib.hid he1
   have He2 := Lib.hid he2
   clear he1 he2
   by_cases hq : (e1 == x) = true
   ·by_cases hr : (e2 == y) = true
    ·have Hq := Lib.hid hq
     have Hr := Lib.hid hr
     go_wp2_with fail
     go_ret
     refine ⟨?_, Hb.out⟩
     have hh := Hq.out
     have hi := Hr.out
     simp only [beq_iff_eq] at hh hi
     rw [findL_hit (L := L) (p := (x, y)) (k := k) (by rw [Hl.out]; exact hlt) (by rw [← hh, ← hi, He1.out, He2.out]) Hs.out]
     rfl
    ·have Hr := Lib.hid hr
     have hr' : (e2 == y) = false := by simpa using hr
     clear hr
     go_wp2_with fail
     go_roundw
     case rel =>
      refine ⟨k + 1, by go_num, by omega, fun j hj => ?_, trivial⟩
      by_cases hjk : j < k
      ·exact Hs.out j hjk
      ·obtain rfl : j = k := by omega
       intro h
       apply Hr.out
       rw [He2.out, h]
       simp
     case measure => simp [intOf]; omega
   ·have Hq := Lib.hid hq
    have hq' : (e1 == x) = false := by simpa using hq
    clear hq
    go_wp2_with fail
    go_roundw
    case rel =>
     refine ⟨k + 1, by go_num, by omega, fun j hj => ?_, trivial⟩
     by_cases hjk : j < k
     ·exact Hs.out j hjk
     ·obtain rfl : j = k := by omega
      intro h
      apply Hq.out
      rw [He1.out, h]
      simp
    case measure => simp [intOf]; omega
  ·have hlt' : ¬ (k : Int) < len := by omega
   go_wp2_with fail
   go_ret
   refine ⟨?_, Hb.out⟩
   rw [findL_miss (L := L) (p := (x, y)) (fun j hj => Hs.out j (by rw [Hl.out] at hj; omega))]
   rfl
theorem rfind_any (N x y : Int) (v : Value) (L : Lks) (w : World) (h : LinksAt w v L) (hn : L.length ≤ 1000000) :
  Calls Try.prog 61 #[gv N v, .int .i64 x, .int .i64 y] w fun e w' => e = .returned (.int .i64 (findL L (x, y))) ∧ Below w.heap.size w w' := by
 rcases h with ⟨a, cap, rfl, rfl⟩ | ⟨b, off, len, cap, rfl, hl, hp, hb, hlc, hc⟩
 ·unfold gv
  go_enter Try.func61, Try.ntmps61
  go_wp2_with fail
  refine wp_loop_rounds 1 ?_
  rw [rounds_succ]
  go_wp2_with fail
  go_ret
  exact ⟨rfl, by go_grown⟩
 ·exact rfind_some b off len cap L N x y w hl hb hc (by omega)
theorem find_any (N x y : Int) (v : Value) (L : Lks) (w : World) (h : LinksAt w v L) (hn : L.length ≤ 1000000) :
  Calls Try.prog 68 #[gv N v, .int .i64 x, .int .i64 y] w fun e w' => e = .returned (.int .i64 (findL L (x, y))) ∧ Below w.heap.size w w' := by
 have Hb := Lib.hid ((Below.refl w.heap.size w).alloc (Nat.le_refl _) (.cells #[.int .i64 N, v] 24))
 have H := Lib.hid (h.below Hb.out)
 unfold gv
 clear h
 go_enter Try.func68, Try.ntmps68
 go_wp2_with fail
 refine (index_any v L (x, y) _ H.out hn).mono ?_
 rintro e w' ⟨rfl, hb⟩
 have Hb2 := Lib.hid hb
 clear hb
 go_wp2_with fail
 go_ret
 exact ⟨rfl, below_step (by simp) Hb.out Hb2.out⟩
end Go.Proofs.Ytiblcpkejhiehaa
namespace Go.Proofs.Ytiblcpkejhiehaa
open Go.RowKit Go.PlainAid
theorem LinksAt.at {w : World} {v : Value} {L : Lks} (h : LinksAt w v L) : ∃ a cap, v = .slice a L.length cap := by
 rcases h with ⟨a, cap, rfl, rfl⟩ | ⟨b, off, len, cap, rfl, hl, -⟩
 ·exact ⟨a, cap, rfl⟩
 ·exact ⟨_, cap, by rw [hl]⟩
/-- A boxed graph. -/
theorem boxed (N : Int) (v : Value) (t : TypeId) (L : Lks) (w : World) (h : LinksAt w v L) :
  ∃ wb, wb = w.alloc (.cells #[.int .i64 N, v] t) ∧ Below w.heap.size w wb ∧ LinksAt wb v L ∧ wb.cell? ⟨w.heap.size, 0, none⟩ = some (.int .i64 N) ∧ wb.cell? ⟨w.heap.size, 1, none⟩ = some v ∧ w.heap.size < wb.heap.size := by
 have hb := (Below.refl w.heap.size w).alloc (Nat.le_refl _) (.cells #[.int .i64 N, v] t)
 exact ⟨_, rfl, hb, h.below hb, World.cell?_alloc_at _ _ _ _ rfl, World.cell?_alloc_at _ _ _ _ rfl, by simp⟩
end Go.Proofs.Ytiblcpkejhiehaa
namespace Go.Proofs.Ytiblcpkejhiehaa
open Go.RowKit Go.PlainAid
/-- A slice of integers in memory. -/
def IntsAt (w : World) (v : Value) (xs : List Int) : Prop :=
 (∃ a cap, v = .slice a 0 cap ∧ xs = []) ∨
 ∃ b off len cap, v = .slice (some ⟨b, off, none⟩) len cap ∧ xs.length = len ∧ 0 < len ∧ b < w.heap.size ∧ len ≤ cap ∧ ∀ i, i < len → w.cell? ⟨b, off + i, none⟩ = some (.int .i64 (xs.getD i 0))
theorem IntsAt.below {w w' : World} {v : Value} {xs : List Int} (h : IntsAt w v xs) (hb : Below w.heap.size w w') : IntsAt w' v xs := by
 rcases h with h | ⟨b, off, len, cap, h1, h2, h3, h4, h6, h5⟩
 ·exact .inl h
 ·exact .inr ⟨b, off, len, cap, h1, h2, h3, by have := hb.size; omega, h6, fun i hi => (hb.cell (by exact h4)).trans (h5 i hi)⟩
theorem IntsAt.owns {w : World} {base : Nat} {e : TypeId} {v : Value} {xs : List Int} (h : w.ownsRow base e 1 v xs.length (xs.map (Value.int .i64))) : IntsAt w v xs := by
 by_cases hx : xs.length = 0
 ·obtain ⟨ao, cap, rfl⟩ := owns_slice h
  exact .inl ⟨ao, cap, by rw [hx], List.length_eq_zero_iff.1 hx⟩
 ·have hc := fun g => h.cells (g := g)
  rcases h.2 with ⟨_, h0⟩ | ⟨g, cap, cur, rfl, _, hg, hle, _⟩
  ·omega
  ·refine .inr ⟨g, 0, xs.length, cap, rfl, rfl, by omega, lt_of_block hg, hle, fun i hi => ?_⟩
   have := hc g rfl i (.int .i64 (xs.getD i 0)) (by simp [List.getD, hi])
   have e : (⟨g, 0, none⟩ : Addr).add i = ⟨g, 0 + i, none⟩ := by unfold Addr.add; split <;> simp_all
   rw [e] at this; exact this
theorem cell_one_at (w : World) (t : TypeId) (g : Nat) (v : Value) (hg : g = w.heap.size) : ∀ j u, [v][j]? = some u → (w.alloc (.cells #[v] t)).cell? ((⟨g, 0, none⟩ : Addr).add j) = some u := by
 subst hg
 intro j u hu
 cases j with
 | zero =>
  simp at hu; subst hu
  exact World.cell?_alloc_at _ _ _ _ rfl
 | succ j => simp at hu
theorem size_alloc (w : World) (o : Obj) : (w.alloc o).heap.size = w.heap.size + 1 := by simp
theorem infoInt : (Try.prog.info? 3).map (fun i => (i.zero, i.size, i.bytes)) = some (some (.int .i64 0), 1, 8) := by kernel_rfl
/-- The places so far, in a row of the call's own. -/
def SelHead (p : Nat → Bool) (w : World) (k : Nat) (v : Value) (wr : World) : Prop :=
 wr.ownsRow w.heap.size 3 1 v (selL p k).length ((selL p k).map (Value.int .i64)) ∧ Below w.heap.size w wr
theorem SelHead.skip {p : Nat → Bool} {w wr w' : World} {k : Nat} {v : Value} (h : SelHead p w k v wr) (hp : p k = false) (hb : Below wr.heap.size wr w') (hw : w.heap.size ≤ wr.heap.size) : SelHead p w (k + 1) v w' := by
 unfold SelHead
 rw [selL_succ, hp]
 simp only [Bool.false_eq_true, if_false]
 refine ⟨?_, below_step hw h.2 hb⟩
 exact h.1.kept (row := none) ⟨hb.os, hb.tape, hb.output, hb.size, fun k hk _ => hb.block k hk⟩ (by cases hv : v.ownBlock <;> simp)
theorem SelHead.more {p : Nat → Bool} {w wr w' : World} {k : Nat} {v v' : Value} (h : SelHead p w k v wr) (hp : p k = true)
  (hown : w'.ownsRow w.heap.size 3 1 v' ((selL p k).length + 1) ((selL p k).map (Value.int .i64) ++ [.int .i64 (k : Int)])) (hb : Below w.heap.size wr w') : SelHead p w (k + 1) v' w' := by
 unfold SelHead
 rw [selL_succ, hp]
 simp only [if_true]
 refine ⟨?_, h.2.trans hb⟩
 rw [List.length_append, List.map_append]
 exact hown
theorem selL_le (p : Nat → Bool) (k : Nat) : (selL p k).length ≤ k := selL_length p k
end Go.Proofs.Ytiblcpkejhiehaa
namespace Go.Proofs.Ytiblcpkejhiehaa
open Go.RowKit Go.PlainAid
def sideOf (e : Nat) (p : Int × Int) : Int := if e = 0 then p.1 else p.2
def sel (e : Nat) (L : Lks) (n : Int) : List Int := selL (fun i => sideOf e (lk L i) == n) L.length
set_option maxHeartbeats 8000000 in
set_option maxRecDepth 100000 in
theorem touching_some0 (b off len cap : Nat) (L : Lks) (N n : Int) (w : World) (hl : L.length = len) (hb : b < w.heap.size)
  (hc : ∀ i, i < len → w.cell? ⟨b, off + i * 2, none⟩ = some (.int .i64 (lk L i).1) ∧ w.cell? ⟨b, off + i * 2 + 1, none⟩ = some (.int .i64 (lk L i).2)) (hlb : len ≤ 1000000) :
  Calls Try.prog 96 #[gv N (.slice (some ⟨b, off, none⟩) len cap), .int .i64 0, .int .i64 n] w fun z w' => ∃ u, z = .returned u ∧ IntsAt w' u (sel 0 L n) ∧ (∀ k, u.ownBlock = some k → w.heap.size ≤ k) ∧ Below w.heap.size w w' := by
 unfold gv
 obtain ⟨i0, hi0, hz0, hz1, hz2⟩ := info_parts infoInt
 obtain ⟨wb, hwb⟩ : ∃ wb, wb = w.alloc (.cells #[.int .i64 N, .slice (some ⟨b, off, none⟩) len cap] 24) := ⟨_, rfl⟩
 have hbel : Below w.heap.size w wb := by rw [hwb]; exact (Below.refl w.heap.size w).alloc (Nat.le_refl _) _
 have hx : wb.cell? ⟨w.heap.size, 1, none⟩ = some (.slice (some ⟨b, off, none⟩) len cap) := by rw [hwb]; exact World.cell?_alloc_at _ _ _ _ rfl
 have hst : SelHead (fun i => sideOf 0 (lk L i) == n) w 0 (.slice none 0 0) wb := ⟨World.ownsRow_nil _ _ _ _, hbel⟩
 have Hst := Lib.hid hst
 have Hc := Lib.hid hc
 have Hl := Lib.hid hl
 clear hc hl hst hbel
 go_enter Try.func96, Try.ntmps96
 go_wp2_with fail
 rw [← hwb]
 clear hwb
 go_loopw [7, 13] (fun v i wr => ∃ k : Nat, i = .int .i64 k ∧ k ≤ len ∧ SelHead (fun i => sideOf 0 (lk L i) == n) w k v wr) (fun _ i _ => len - (intOf i).toNat)
 case atStart => exact ⟨0, rfl, by omega, Hst.out⟩
 case round =>
  obtain ⟨k, rfl, hk, hF⟩ := hrel
  obtain ⟨ao, cv, rfl⟩ := owns_slice hF.1
  have HF := Lib.hid hF
  obtain ⟨hown, hbel⟩ := hF
  have hz := hbel.size
  have hs := selL_le (fun i => sideOf 0 (lk L i) == n) k
  by_cases hlt : k < len
  ·have hlt' : (k : Int) < len := by omega
   obtain ⟨c1, c2⟩ := Hc.out k hlt
   have c1' := (hbel.cell (by exact hb)).trans c1
   have c2' := (hbel.cell (by exact hb)).trans c2
   obtain ⟨x, hx⟩ : ∃ x, x = (lk L k).1 := ⟨_, rfl⟩
   obtain ⟨y, hy⟩ : ∃ y, y = (lk L k).2 := ⟨_, rfl⟩
   rw [← hx] at c1'
   rw [← hy] at c2'
   have HO := Lib.hid hown
   have hside : sideOf 0 (lk L k) = x := by first | (rw [hx]; rfl) | (rw [hy]; rfl)
   have Hside := Lib.hid hside
   obtain ⟨m, hm⟩ : ∃ m, m = (selL (fun i => sideOf 0 (lk L i) == n) k).length := ⟨_, rfl⟩
   rw [← hm] at hs
   have Hm := Lib.hid hm
   clear hown c1 c2 hx hy hside hm
   by_cases hq : (x == n) = true
   ·have hp : (sideOf 0 (lk L k) == n) = true := by rw [Hside.out]; exact hq
    have Hp := Lib.hid hp
    clear hp
    go_wp2_with (at_builtin; refine wpList_append_own _ rfl _ _ 28 rfl w.heap.size 3 i0 (.int .i64 0) 1 8 Try.underlying28 hi0 hz0 hz1 hz2 rfl (by decide) _ _ _ rfl ((HO.out.alloc _).alloc _) ⟨wr.heap.size + 1, 0, none⟩ 1 1 [.int .i64 (k : Int)] rfl rfl (cell_one_at _ _ _ _ (size_alloc _ _).symm) ?c2 ?c3 ?c4 ?c5 ?_)
    case c2 => intro u hu; simp at hu; subst hu; rfl
    case c3 => unfold maxLen; rw [← Hm.out]; omega
    case c4 => rw [← Hm.out]; omega
    case c5 => first | omega | (simp; omega)
    intro v1 w1 hown1 hg1 _
    have hB1 : Below w.heap.size wr w1 := (((Below.refl w.heap.size wr).alloc hz _).alloc (by simp; omega) _).grown hg1 (by simp; omega) (fun k hk => (HO.out.lt k hk).1)
    have hnext : SelHead (fun i => sideOf 0 (lk L i) == n) w (k + 1) v1 w1 := HF.out.more Hp.out hown1 hB1
    have Hnext := Lib.hid hnext
    clear hown1 hg1 hB1 hnext
    go_wp2_with fail
    go_roundw
    case rel => exact ⟨k + 1, by go_num, by omega, Hnext.out⟩
    case measure => simp [intOf]; omega
   ·have hq' : (x == n) = false := by simpa using hq
    have hp : (sideOf 0 (lk L k) == n) = false := by rw [Hside.out]; exact hq'
    have hB1 : Below wr.heap.size wr (wr.alloc (.cells #[.int .i64 x, .int .i64 y] 52)) := (Below.refl _ wr).alloc (Nat.le_refl _) _
    have Hnext := Lib.hid (HF.out.skip hp hB1 hz)
    clear hp hB1 hq
    go_wp2_with fail
    go_roundw
    case rel => exact ⟨k + 1, by go_num, by omega, Hnext.out⟩
    case measure => simp [intOf]; omega
  ·have hlt' : ¬ (k : Int) < len := by omega
   obtain rfl : len = k := by omega
   have hend := IntsAt.owns HF.out.1
   have Hend := Lib.hid hend
   have HB := Lib.hid hbel
   have Hlt := Lib.hid (fun k hk => (HF.out.1.lt k hk).1)
   clear hown hend hbel
   go_wp2_with fail
   go_ret
   exact ⟨_, rfl, by unfold sel; rw [Hl.out]; exact Hend.out, Hlt.out, HB.out⟩
theorem touching0 (N n : Int) (v : Value) (L : Lks) (w : World) (h : LinksAt w v L) (hn : L.length ≤ 1000000) :
  Calls Try.prog 96 #[gv N v, .int .i64 0, .int .i64 n] w fun z w' => ∃ u, z = .returned u ∧ IntsAt w' u (sel 0 L n) ∧ (∀ k, u.ownBlock = some k → w.heap.size ≤ k) ∧ Below w.heap.size w w' := by
 rcases h with ⟨a, cap, rfl, rfl⟩ | ⟨b, off, len, cap, rfl, hl, hp, hb, hlc, hc⟩
 ·unfold gv
  go_enter Try.func96, Try.ntmps96
  go_wp2_with fail
  refine wp_loop_rounds 1 ?_
  rw [rounds_succ]
  go_wp2_with fail
  go_ret
  exact ⟨_, rfl, .inl ⟨none, 0, rfl, rfl⟩, fun k hk => by simp [Value.ownBlock] at hk, by go_grown⟩
 ·exact touching_some0 b off len cap L N n w hl hb hc (by omega)
end Go.Proofs.Ytiblcpkejhiehaa
namespace Go.Proofs.Ytiblcpkejhiehaa
open Go.RowKit Go.PlainAid
theorem out_any (N n : Int) (v : Value) (L : Lks) (w : World) (h : LinksAt w v L) (hn : L.length ≤ 1000000) :
  Calls Try.prog 89 #[gv N v, .int .i64 n] w fun z w' => ∃ u, z = .returned u ∧ IntsAt w' u (sel 0 L n) ∧ (∀ k, u.ownBlock = some k → w.heap.size ≤ k) ∧ Below w.heap.size w w' := by
 have Hb := Lib.hid ((Below.refl w.heap.size w).alloc (Nat.le_refl _) (.cells #[.int .i64 N, v] 24))
 have H := Lib.hid (h.below Hb.out)
 unfold gv
 clear h
 go_enter Try.func89, Try.ntmps89
 go_wp2_with fail
 refine (touching0 N n v L _ H.out hn).mono ?_
 rintro e w' ⟨u, rfl, hi, hlt, hb⟩
 have Hb2 := Lib.hid hb
 have Hi := Lib.hid hi
 have Hlt := Lib.hid hlt
 clear hb hi hlt
 go_wp2_with fail
 go_ret
 exact ⟨_, rfl, Hi.out, fun k hk => by have := Hlt.out k hk; simp at this; omega, below_step (by simp) Hb.out Hb2.out⟩
end Go.Proofs.Ytiblcpkejhiehaa
namespace Go.Proofs.Ytiblcpkejhiehaa
open Go.RowKit Go.PlainAid
def flat (L : Lks) : List Value := L.flatMap fun p => [.int .i64 p.1, .int .i64 p.2]
theorem flat_length (L : Lks) : (flat L).length = L.length * 2 := by
 unfold flat
 induction L with
 | nil => rfl
 | cons p r ih => simp only [List.flatMap_cons, List.length_append, ih, List.length_cons, List.length_nil]; omega
theorem flat_append (L M : Lks) : flat (L ++ M) = flat L ++ flat M := by unfold flat; rw [List.flatMap_append]
theorem flat_get : ∀ (L : Lks) (i : Nat), i < L.length → (flat L)[i * 2]? = some (.int .i64 (lk L i).1) ∧ (flat L)[i * 2 + 1]? = some (.int .i64 (lk L i).2)
 | [], i, h => by simp at h
 | p :: r, 0, _ => by simp [flat, lk]
 | p :: r, i + 1, h => by
  have ih := flat_get r i (by simpa using h)
  have e1 : flat (p :: r) = .int .i64 p.1 :: .int .i64 p.2 :: flat r := rfl
  have e2 : lk (p :: r) (i + 1) = lk r i := by simp [lk]
  rw [e1, e2]
  refine ⟨?_, ?_⟩
  ·rw [show (i + 1) * 2 = i * 2 + 1 + 1 by omega, List.getElem?_cons_succ, List.getElem?_cons_succ]; exact ih.1
  ·rw [show (i + 1) * 2 + 1 = i * 2 + 1 + 1 + 1 by omega, List.getElem?_cons_succ, List.getElem?_cons_succ]; exact ih.2
theorem LinksAt.owns {w : World} {base : Nat} {e : TypeId} {v : Value} {L : Lks} (h : w.ownsRow base e 2 v L.length (flat L)) : LinksAt w v L := by
 by_cases hx : L.length = 0
 ·obtain ⟨ao, cap, rfl⟩ := owns_slice h
  exact .inl ⟨ao, cap, by rw [hx], List.length_eq_zero_iff.1 hx⟩
 ·have hc := fun g => h.cells (g := g)
  rcases h.2 with ⟨_, h0⟩ | ⟨g, cap, cur, rfl, _, hg, hle, _⟩
  ·omega
  ·refine .inr ⟨g, 0, L.length, cap, rfl, rfl, by omega, lt_of_block hg, hle, fun i hi => ?_⟩
   have e : ∀ j, (⟨g, 0, none⟩ : Addr).add j = ⟨g, 0 + j, none⟩ := fun j => by unfold Addr.add; split <;> simp_all
   have a1 := hc g rfl (i * 2) _ (flat_get L i hi).1
   have a2 := hc g rfl (i * 2 + 1) _ (flat_get L i hi).2
   rw [e] at a1 a2
   exact ⟨a1, by rw [Nat.add_assoc]; exact a2⟩
theorem infoPair : (Try.prog.info? 52).map (fun i => (i.zero, i.size, i.bytes)) = some (some (.agg #[.int .i64 0, .int .i64 0]), 2, 16) := by kernel_rfl
/-- The links from a, to nodes below b. -/
def rowL (a b : Nat) : Lks := ((List.range b).filter (fun x : Nat => x != a)).map fun x : Nat => ((a : Int), (x : Int))
/-- All links from nodes below a. -/
def fullL (N a : Nat) : Lks := (List.range a).flatMap fun x => rowL x N
theorem rowL_succ (a b : Nat) : rowL a (b + 1) = if b = a then rowL a b else rowL a b ++ [((a : Int), (b : Int))] := by
 unfold rowL
 rw [List.range_succ, List.filter_append, List.map_append]
 by_cases h : b = a <;> simp [h]
theorem fullL_succ (N a : Nat) : fullL N (a + 1) = fullL N a ++ rowL a N := by
 unfold fullL
 rw [List.range_succ, List.flatMap_append]; simp
theorem rowL_len (a b : Nat) : (rowL a b).length ≤ b := by
 unfold rowL
 rw [List.length_map]
 exact Nat.le_trans (List.length_filter_le _ _) (by simp)
theorem fullL_len (N : Nat) : ∀ a, (fullL N a).length ≤ a * N
 | 0 => by simp [fullL]
 | a + 1 => by
  rw [fullL_succ, List.length_append]
  have := fullL_len N a
  have := rowL_len a N
  rw [Nat.add_mul]; omega
/-- A block of two cells that may be written. -/
def Box (w : World) (g : Nat) (x y : Value) : Prop :=
 w.cell? ⟨g, 0, none⟩ = some x ∧ w.cell? ⟨g, 1, none⟩ = some y ∧ w.frozen? ⟨g, 0, none⟩ = false ∧ w.frozen? ⟨g, 1, none⟩ = false
theorem Box.kept {w w' : World} {g : Nat} {x y : Value} {row : Option Nat} (h : Box w g x y) (hg : w.grownBy w' row) (hne : some g ≠ row) : Box w' g x y := by
 have hb : g < w.heap.size := World.block_lt_of_cell? w _ h.1
 have hk := hg.block g hb hne
 exact ⟨(World.cell?_of_block (by exact hk)).trans h.1, (World.cell?_of_block (by exact hk)).trans h.2.1, (World.frozen?_of_block (by exact hk)).trans h.2.2.1, (World.frozen?_of_block (by exact hk)).trans h.2.2.2⟩
theorem Box.below {w w' : World} {g : Nat} {x y : Value} (h : Box w g x y) (hb : Below w.heap.size w w') : Box w' g x y :=
 h.kept (row := none) ⟨hb.os, hb.tape, hb.output, hb.size, fun k hk _ => hb.block k hk⟩ (by simp)
/-- The graph so far: its box, the row of its links, and the answer's box. -/
structure GHead (w : World) (N : Int) (wr : World) (v : Value) (X : Lks) : Prop where
 row : wr.ownsRow (w.heap.size + 2) 52 2 v X.length (flat X)
 bel : Below w.heap.size w wr
 size : w.heap.size + 2 ≤ wr.heap.size
 box : Box wr (w.heap.size + 1) (.int .i64 N) v
 ans : Box wr w.heap.size (.int .i64 0) (.slice none 0 0)
theorem cells_two (w : World) (t : TypeId) (x y : Value) : ∀ j u, [x, y][j]? = some u → (w.alloc (.cells #[x, y] t)).cell? ((⟨w.heap.size, 0, none⟩ : Addr).add j) = some u := by
 intro j u hu
 match j with
 | 0 => simp at hu; subst hu; exact World.cell?_alloc_at _ _ _ _ rfl
 | 1 => simp at hu; subst hu; exact World.cell?_alloc_at _ _ _ _ rfl
 | j + 2 => simp at hu
theorem Box.set {w : World} {g : Nat} {x y : Value} (h : Box w g x y) (u : Value) : Box (w.setCell ⟨g, 1, none⟩ u) g x u :=
 ⟨(World.cell?_setCell_other w _ _ _ (by simp)).trans h.1, World.cell?_setCell_same w _ _ h.2.1, by rw [World.frozen?_setCell]; exact h.2.2.1, by rw [World.frozen?_setCell]; exact h.2.2.2⟩
theorem Box.other {w : World} {g g' : Nat} {x y : Value} (h : Box w g x y) (u : Value) (o : Nat) (hne : g ≠ g') : Box (w.setCell ⟨g', o, none⟩ u) g x y :=
 ⟨(World.cell?_setCell_other w _ _ _ (by simp <;> omega)).trans h.1, (World.cell?_setCell_other w _ _ _ (by simp <;> omega)).trans h.2.1, by rw [World.frozen?_setCell]; exact h.2.2.1, by rw [World.frozen?_setCell]; exact h.2.2.2⟩
theorem Box.fill {w : World} {g : Nat} {x y : Value} (h : Box w g x y) (u u' : Value) : Box ((w.setCell ⟨g, 0, none⟩ u).setCell ⟨g, 1, none⟩ u') g u u' := by
 have h1 : Box (w.setCell ⟨g, 0, none⟩ u) g u y :=
  ⟨World.cell?_setCell_same w _ _ h.1, (World.cell?_setCell_other w _ _ _ (by simp)).trans h.2.1, by rw [World.frozen?_setCell]; exact h.2.2.1, by rw [World.frozen?_setCell]; exact h.2.2.2⟩
 exact h1.set u'
theorem GHead.more {w wr w1 : World} {N : Int} {v v1 : Value} {X : Lks} {o : Obj} {p : Int × Int} (h : GHead w N wr v X)
  (hown : w1.ownsRow (w.heap.size + 2) 52 2 v1 (X.length + 1) (flat X ++ [.int .i64 p.1, .int .i64 p.2])) (hg : (wr.alloc o).grownBy w1 v.ownBlock) :
  Box w1 (w.heap.size + 1) (.int .i64 N) v ∧ GHead w N (w1.setCell ⟨w.heap.size + 1, 1, none⟩ v1) v1 (X ++ [p]) := by
 have hlt := h.row.lt
 have hb := h.box.below ((Below.refl _ wr).alloc (Nat.le_refl _) o)
 have ha := h.ans.below ((Below.refl _ wr).alloc (Nat.le_refl _) o)
 have n1 : some (w.heap.size + 1) ≠ v.ownBlock := fun e => by have := (hlt _ e.symm).1; omega
 have n0 : some w.heap.size ≠ v.ownBlock := fun e => by have := (hlt _ e.symm).1; omega
 have b1 := hb.kept hg n1
 have a1 := ha.kept hg n0
 have bel : Below w.heap.size w w1 := (h.bel.alloc (by have := h.size; omega) o).grown hg (by have := h.size; simp; omega) (fun k hk => by have := (hlt k hk).1; omega)
 refine ⟨b1, ?_, bel.setCell (by simp) _, ?_, b1.set _, a1.other _ _ (by omega)⟩
 ·rw [List.length_append, flat_append]
  exact ownsRow_setCell_below hown (by simp) _
 ·have := hg.size
  have := h.size
  simp at *; omega
theorem GHead.done {w wr : World} {N : Int} {v : Value} {X : Lks} (h : GHead w N wr v X) :
  ∃ we, we = (wr.setCell ⟨w.heap.size, 0, none⟩ (.int .i64 N)).setCell ⟨w.heap.size, 1, none⟩ v ∧ Box we w.heap.size (.int .i64 N) v ∧ LinksAt we v X ∧ Below w.heap.size w we :=
 ⟨_, rfl, h.ans.fill _ _, LinksAt.owns (ownsRow_setCell_below (ownsRow_setCell_below h.row (by simp) _) (by simp) _), (h.bel.setCell (by simp) _).setCell (by simp) _⟩
set_option maxHeartbeats 8000000 in
set_option maxRecDepth 100000 in
theorem full_any (n M : Int) (N : Nat) (w : World) (h1 : (if n < 1 then (1 : Int) else n) = M) (h2 : (if 6 < M then (6 : Int) else M) = (N : Int)) (hN6 : N ≤ 6) :
  Calls Try.prog 51 #[.int .i64 n] w fun e w' => ∃ v, e = .returned (gv N v) ∧ LinksAt w' v (fullL N N) ∧ Below w.heap.size w w' := by
 obtain ⟨i0, hi0, hz0, hz1, hz2⟩ := info_parts infoPair
 have hst : GHead w N ((w.alloc (.cells #[.int .i64 0, .slice none 0 0] 24)).alloc (.cells #[.int .i64 N, .slice none 0 0] 24)) (.slice none 0 0) (fullL N 0) := by
  refine ⟨World.ownsRow_nil _ _ _ _, by go_grown, by simp, ⟨?_, ?_, ?_, ?_⟩, ⟨?_, ?_, ?_, ?_⟩⟩
  all_goals go_cell
 have Hst := Lib.hid hst
 clear hst
 go_enter Try.func51, Try.ntmps51
 go_wp2_with fail
 clear h1 h2
 generalize hww : (w.alloc (.cells #[.int .i64 0, .slice none 0 0] 24)).alloc (.cells #[.int .i64 N, .slice none 0 0] 24) = ww
 rw [hww] at Hst
 clear hww
 go_loopw [12] (fun i wr => ∃ k : Nat, i = .int .i64 k ∧ k ≤ N ∧ ∃ v, GHead w N wr v (fullL N k)) (fun i _ => N - (intOf i).toNat)
 case atStart => exact ⟨0, rfl, by omega, _, Hst.out⟩
 case round =>
  obtain ⟨k, rfl, hk, v, hG⟩ := hrel
  obtain ⟨wo, hwo⟩ : ∃ wo, wo = wr := ⟨_, rfl⟩
  rw [← hwo] at hG ⊢
  have HG := Lib.hid hG
  have c0 := hG.box.1
  have c1 := hG.box.2.1
  have d0 := hG.ans.2.2.1
  have d1 := hG.ans.2.2.2
  have d2 := hG.ans.1
  have d3 := hG.ans.2.1
  clear hG hwo
  by_cases hlt : k < N
  ·have hlt' : (k : Int) < N := by omega
   go_wp2_with fail
   go_loopw [17] (fun i wr => ∃ j : Nat, i = .int .i64 j ∧ j ≤ N ∧ ∃ v, GHead w N wr v (fullL N k ++ rowL k j)) (fun i _ => N - (intOf i).toNat)
   case atStart => exact ⟨0, rfl, by omega, _, by rw [show rowL k 0 = [] from rfl, List.append_nil]; exact HG.out⟩
   case round =>
    obtain ⟨j, rfl, hj, v2, hG2⟩ := hrel
    obtain ⟨X, hX⟩ : ∃ X, X = fullL N k ++ rowL k j := ⟨_, rfl⟩
    rw [← hX] at hG2
    have HX := Lib.hid hX
    have HG2 := Lib.hid hG2
    have e0 := hG2.box.1
    have e1 := hG2.box.2.1
    have hlen : X.length ≤ 64 := by
     rw [hX, List.length_append]
     have := fullL_len N k
     have := rowL_len k j
     have : k * N ≤ 5 * 6 := Nat.mul_le_mul (by omega) hN6
     omega
    have hsz := hG2.size
    clear hG2 hX
    by_cases hjt : j < N
    ·have hjt' : (j : Int) < N := by omega
     by_cases hjk : j = k
     ·subst hjk
      have hnext : GHead w N wr v2 (fullL N j ++ rowL j (j + 1)) := by rw [rowL_succ, if_pos rfl, ← HX.out]; exact HG2.out
      have Hnext := Lib.hid hnext
      clear hnext
      go_wp2_with fail
      go_roundw
      case rel => exact ⟨j + 1, by go_num, by omega, _, Hnext.out⟩
      case measure => simp [intOf]; omega
     ·have hne : ((k : Int) != (j : Int)) = true := by rw [bne_iff_ne]; omega
      obtain ⟨ao, cv, rfl⟩ := owns_slice HG2.out.row
      have Hlen := Lib.hid hlen
      clear hlen
      go_wp2_with (at_builtin; refine wpList_append_own _ rfl _ _ 22 rfl (w.heap.size + 2) 52 i0 (.agg #[.int .i64 0, .int .i64 0]) 2 16 Try.underlying22 hi0 hz0 hz1 hz2 rfl (by decide) _ _ _ rfl (HG2.out.row.alloc _) ⟨wr.heap.size, 0, none⟩ 1 1 [.int .i64 (k : Int), .int .i64 (j : Int)] rfl rfl ?c1 ?c2 ?c3 ?c4 ?c5 ?_)
      case c1 => exact cells_two wr _ _ _
      case c2 => intro u hu; simp at hu; rcases hu with rfl | rfl <;> rfl
      case c3 => unfold maxLen; have := Hlen.out; omega
      case c4 => have := Hlen.out; omega
      case c5 => first | omega | (simp; omega)
      intro v1 w1 hown1 hg1 _
      obtain ⟨ao1, cv1, rfl⟩ := owns_slice hown1
      obtain ⟨hbx, hnext0⟩ := HG2.out.more (p := ((k : Int), (j : Int))) hown1 hg1
      have b0 := hbx.1
      have b1 := hbx.2.1
      have b2 := hbx.2.2.2
      have hnext : GHead w N (w1.setCell ⟨w.heap.size + 1, 1, none⟩ (.slice ao1 (X.length + 1) cv1)) (.slice ao1 (X.length + 1) cv1) (fullL N k ++ rowL k (j + 1)) := by
       rw [rowL_succ, if_neg hjk, ← List.append_assoc, ← HX.out]; exact hnext0
      have Hnext := Lib.hid hnext
      clear hown1 hg1 hbx hnext0 hnext
      go_wp2_with fail
      go_roundw
      case rel => exact ⟨j + 1, by go_num, by omega, _, Hnext.out⟩
      case measure => simp [intOf]; omega
    ·have hjt' : ¬ (j : Int) < N := by omega
     obtain rfl : j = N := by omega
     have hnext : GHead w j wr v2 (fullL j (k + 1)) := by rw [fullL_succ, ← HX.out]; exact HG2.out
     have Hnext := Lib.hid hnext
     clear hnext
     go_wp2_with fail
     go_roundw
     case rel => exact ⟨k + 1, by go_num, by omega, _, Hnext.out⟩
     case measure => simp [intOf]; omega
  ·have hlt' : ¬ (k : Int) < N := by omega
   obtain rfl : k = N := by omega
   obtain ⟨ao, cv, rfl⟩ := owns_slice HG.out.row
   go_wp2_with fail
   obtain ⟨we, hwe, hbox, hL, hbel⟩ := HG.out.done
   rw [← hwe]
   have e0 := hbox.1
   have e1 := hbox.2.1
   refine bodyPost_ret (v := .agg #[.int .i64 (k : Int), .slice ao (fullL k k).length cv]) (by simp [results, Try.results51, go_sem, e0, e1]) rfl ⟨_, rfl, hL, hbel⟩
end Go.Proofs.Ytiblcpkejhiehaa
namespace Go.Proofs.Ytiblcpkejhiehaa
open Go.RowKit Go.PlainAid
theorem ref_slice (N : Int) (a : Option Addr) (len cap : Nat) (w : World) :
  Calls Try.prog 18 #[gv N (.slice a len cap)] w fun e w' => e = .returned (gv N (.slice a len cap)) ∧ Below w.heap.size w w' := by
 unfold gv
 go_enter Try.func18, Try.ntmps18
 go_wp2_with fail
 refine bodyPost_ret (v := .agg #[.int .i64 N, .slice a len cap]) (by simp [results, Try.results18, go_sem]) rfl ⟨rfl, ?_⟩
 go_grown
theorem ref_any (N : Int) (v : Value) (L : Lks) (w : World) (h : LinksAt w v L) :
  Calls Try.prog 18 #[gv N v] w fun e w' => e = .returned (gv N v) ∧ Below w.heap.size w w' := by
 obtain ⟨a, cap, rfl⟩ := h.at
 exact ref_slice N a L.length cap w
theorem lk_take {L : Lks} {m i : Nat} (h : i < m) : lk (L.take m) i = lk L i := by
 unfold lk; simp only [List.getD, List.getElem?_take, if_pos h]
theorem LinksAt.take {w : World} {b off len cap : Nat} {L : Lks} (hl : L.length = len) (hb : b < w.heap.size) (hlc : len ≤ cap)
  (hc : ∀ i, i < len → w.cell? ⟨b, off + i * 2, none⟩ = some (.int .i64 (lk L i).1) ∧ w.cell? ⟨b, off + i * 2 + 1, none⟩ = some (.int .i64 (lk L i).2)) (m : Nat) (hm : m ≤ len) :
  LinksAt w (.slice (some ⟨b, off, none⟩) m cap) (L.take m) := by
 by_cases h0 : m = 0
 ·subst h0; exact .inl ⟨_, cap, rfl, by simp⟩
 ·exact .inr ⟨b, off, m, cap, rfl, by rw [List.length_take]; omega, by omega, hb, by omega, fun i hi => by rw [lk_take hi]; exact hc i (by omega)⟩
set_option maxHeartbeats 8000000 in
theorem cut_some (b off len cap m : Nat) (N : Int) (w : World) (hlc : len ≤ cap) (hm : (if 40 < (len : Int) then (40 : Int) else (len : Int)) = (m : Int)) (hml : m ≤ len) :
  Calls Try.prog 25 #[gv N (.slice (some ⟨b, off, none⟩) len cap)] w fun e w' => e = .returned (gv N (.slice (some ⟨b, off, none⟩) m cap)) ∧ Below w.heap.size w w' := by
 unfold gv
 go_enter Try.func25, Try.ntmps25
 go_wp2_with fail
 refine bodyPost_ret (v := .agg #[.int .i64 N, .slice (some ⟨b, off, none⟩) m cap]) (by simp [results, Try.results25, go_sem]) rfl ⟨rfl, ?_⟩
 go_grown
theorem bits_mul64 (N : Nat) (w : World) (h0 : 1 ≤ N) (h6 : N ≤ 6) : Calls Try.prog 100 #[.int .u64 1, .int .u64 (N : Int)] w fun e w' => e = .returned (.tuple #[.int .u64 0, .int .u64 (N : Int)]) ∧ w = w' := by
 have h : N = 1 ∨ N = 2 ∨ N = 3 ∨ N = 4 ∨ N = 5 ∨ N = 6 := by omega
 rcases h with rfl | rfl | rfl | rfl | rfl | rfl
 all_goals
  go_enter Try.func100, Try.ntmps100
  go_wp2_with fail
  go_ret2
  exact ⟨by kernel_rfl, rfl⟩
theorem bits_mul (N : Nat) (w : World) (h0 : 1 ≤ N) (h6 : N ≤ 6) : Calls Try.prog 95 #[.int .u64 1, .int .u64 (N : Int)] w fun e w' => e = .returned (.tuple #[.int .u64 0, .int .u64 (N : Int)]) ∧ w = w' := by
 go_enter Try.func95, Try.ntmps95
 go_wp2_with fail
 refine (bits_mul64 N _ h0 h6).mono ?_
 rintro e w' ⟨rfl, rfl⟩
 go_wp2_with fail
 go_ret2
 exact ⟨rfl, rfl⟩
theorem make_ints (n : Nat) (h : n ≤ 1000000) (w : World) : (Instr.makeSlice 28 (.int .i64 (n : Int)) (.int .i64 (n : Int))).run Try.prog w = .ok (.slice (some ⟨w.heap.size, 0, none⟩) n n) (w.alloc (.cells (madeCells #[.int .i64 0] n) 3)) := by
 obtain ⟨i, hi, hz, h1, h2⟩ := info_parts infoInt
 have := run_make (P := Try.prog) w 28 3 i (.int .i64 0) Try.underlying28 hi hz .i64 .i64 n n (by omega) (by omega) (by rw [h2]; omega) (by omega)
 rw [this, h1]
 simp [Value.cells]
/-- A row: its first k cells hold -1, the others 0. -/
def mix (N k : Nat) : List Value := List.replicate k (.int .i64 (-1)) ++ List.replicate (N - k) (.int .i64 0)
theorem mix_length {N k : Nat} (h : k ≤ N) : (mix N k).length = N := by unfold mix; simp; omega
theorem mix_splice {N k m : Nat} (h : k + m ≤ N) : splice (mix N k) k (List.replicate m (.int .i64 (-1))) = mix N (k + m) := by
 unfold splice mix
 rw [List.take_left' (by simp), List.length_replicate, List.drop_append, List.drop_eq_nil_of_le (by simp), List.nil_append, List.length_replicate, List.drop_replicate, ← List.append_assoc, List.replicate_append_replicate]
 congr 2
 omega
theorem mix_made (N : Nat) : madeCells #[.int .i64 0] N = (mix N 0).toArray := by
 unfold mix madeCells
 apply Array.ext
 ·simp
 ·intro i h1 h2
  simp [Nat.mod_one]
set_option maxHeartbeats 400000 in
set_option maxRecDepth 100000 in
theorem repeat_any (b : Nat) (N : Nat) (w : World) (h0 : 1 ≤ N) (h6 : N ≤ 6) (hc : w.cell? ⟨b, 0, none⟩ = some (.int .i64 (-1))) :
  Calls Try.prog 88 #[.slice (some ⟨b, 0, none⟩) 1 1, .int .i64 (N : Int)] w fun e w' => e = .returned (.slice (some ⟨w.heap.size, 0, none⟩) N N) ∧ w'.heap[w.heap.size]? = some (.cells (mix N N).toArray 3 (0, 0)) ∧ Below w.heap.size w w' := by
 have hu : IntKind.u64.wrap (N : Int) = (N : Int) := IntWalk.u64_in _ (by omega)
 have hi : IntKind.i64.wrap (N : Int) = (N : Int) := IntWalk.i64_in _ (by omega)
 have hu1 : IntKind.u64.wrap 1 = 1 := by decide
 have hmk := make_ints N (by omega) w
 have hb1 : Below w.heap.size w (w.alloc (.cells (mix N 0).toArray 3)) := (Below.refl _ w).alloc (Nat.le_refl _) _
 have hg1 : (w.alloc (.cells (mix N 0).toArray 3)).heap[w.heap.size]? = some (.cells (mix N 0).toArray 3 (0, 0)) := heap_alloc_new w _
 have hc1 : (w.alloc (.cells (mix N 0).toArray 3)).cell? ⟨b, 0, none⟩ = some (.int .i64 (-1)) := (World.cell?_alloc_lt _ _ _ (World.block_lt_of_cell? w _ hc)).trans hc
 rw [mix_made] at hmk
 generalize w.alloc (.cells (mix N 0).toArray 3) = w1 at hmk hb1 hg1 hc1
 go_enter Try.func88, Try.ntmps88
 go_wp2_with fail
 refine (bits_mul N _ h0 h6).mono ?_
 rintro e w' ⟨rfl, rfl⟩
 go_wp2_with (refine wpList_copy_splice rfl _ _ 28 28 rfl 3 Try.underlying28 (by kernel_rfl) _ _ _ _ _ _ rfl rfl w.heap.size 0 (mix N 0) 3 hg1 [.int .i64 (-1)] ?k1 ?k2 ?k3 ?k4 w.heap.size w hb1 (Nat.le_refl _) ?_)
 case k1 => rw [List.length_singleton]; simp only [Nat.min_def]; split <;> omega
 case k2 =>
  intro j v hj
  cases j with
  | zero => simp at hj; subst hj; exact hc1
  | succ j => simp at hj
 case k3 => rw [mix_length (by omega)]; simp; omega
 case k4 => intro v hv; simp at hv; subst hv; rfl
 intro w2 hg2 hb2
 have hg2' := hg2.out
 rw [show ([.int .i64 (-1)] : List Value) = List.replicate 1 (.int .i64 (-1)) from rfl, mix_splice (by omega), Nat.zero_add] at hg2'
 have HG := Lib.hid hg2'
 clear hg2 hg2'
 go_wp2_with fail
 clear hmk hg1 hb1 hc1
 go_loopw [8] (fun i wr => ∃ k : Nat, i = .int .i64 k ∧ 1 ≤ k ∧ k ≤ N ∧ Below w.heap.size w wr ∧ wr.heap[w.heap.size]? = some (.cells (mix N k).toArray 3 (0, 0))) (fun i _ => N - (intOf i).toNat)
 case atStart => exact ⟨1, rfl, by omega, h0, hb2, HG.out⟩
 case round =>
  obtain ⟨k, rfl, hk1, hk, hbk, hgk⟩ := hrel
  have Hgk := Lib.hid hgk
  have Hbk := Lib.hid hbk
  clear hgk hbk
  by_cases hlt : k < N
  ·have hlt' : (k : Int) < N := by omega
   obtain ⟨m, hm⟩ : ∃ m, m = Nat.min k (N - k) := ⟨_, rfl⟩
   have hm1 : m ≤ k := by rw [hm]; exact Nat.min_le_left _ _
   have hm2 : m ≤ N - k := by rw [hm]; exact Nat.min_le_right _ _
   have hm0 : 1 ≤ m := by rw [hm]; exact Nat.le_min.2 ⟨hk1, by omega⟩
   have A1 : (List.replicate m (Value.int .i64 (-1))).length = Nat.min k (N - k) := by rw [List.length_replicate, hm]
   have A2 : 0 < (List.replicate m (Value.int .i64 (-1))).length → ∃ ad, (some (⟨w.heap.size, 0, none⟩ : Addr)) = some ad ∧ ∀ j v, (List.replicate m (Value.int .i64 (-1)))[j]? = some v → wr.drew.cell? (ad.add j) = some v := by
    refine fun _ => ⟨⟨w.heap.size, 0, none⟩, rfl, fun j v hj => ?_⟩
    have hjm : j < m := by have := (List.getElem?_eq_some_iff.1 hj).1; simpa using this
    have hv : v = .int .i64 (-1) := by simp [hjm] at hj; exact hj.symm
    have e : (⟨w.heap.size, 0, none⟩ : Addr).add j = ⟨w.heap.size, j, none⟩ := by unfold Addr.add; split <;> simp_all
    rw [e, hv]
    exact (cell_of_row wr _ j _ _ (0, 0) Hgk.out).trans (by unfold mix; simp [List.getElem?_append, show j < k by omega])
   have A3 : k + (List.replicate m (Value.int .i64 (-1))).length ≤ (mix N k).length := by rw [mix_length (by omega), List.length_replicate]; omega
   have A4 : ∀ v ∈ List.replicate m (Value.int .i64 (-1)), v.oneCell' = true := fun v hv => by rw [List.eq_of_mem_replicate hv]; rfl
   have B1 := Lib.hid A1
   have B2 := Lib.hid A2
   have B3 := Lib.hid A3
   have B4 := Lib.hid A4
   have Hm := Lib.hid hm
   have hne : ¬ N = k := by omega
   have hww : IntKind.i64.wrap ((k : Int) + (m : Int)) = (k : Int) + (m : Int) := IntWalk.i64_in _ (by omega)
   clear A1 A2 A3 A4 hm
   go_wp2_with fail
   go_region_law (refine step_copy_splice rfl (.tmp 41) (.tmp 44) 28 28 rfl 3 Try.underlying28 (by kernel_rfl) (some ⟨w.heap.size, k, none⟩) (some ⟨w.heap.size, 0, none⟩) (N - k) (N - k) k N (by simp [Act.eval, Act.put]) (by simp [Act.eval, Act.put]) w.heap.size k (mix N k) 3 (show wr.drew.heap[w.heap.size]? = _ from Hgk.out) (List.replicate m (.int .i64 (-1))) B1.out (fun h => ⟨rfl, B2.out h⟩) B3.out B4.out w.heap.size w (below_drewN Hbk.out 1) (Nat.le_refl _) ?_; intro w4 hg4 hb4)
   have hg5 := hg4.out
   rw [mix_splice (by omega)] at hg5
   have HG5 := Lib.hid hg5
   have HB5 := Lib.hid hb4
   clear hg5 hg4 hb4
   try simp [Act.put]
   go_wp2_with fail
   go_roundw
   case rel => exact ⟨k + m, by go_num, by omega, by omega, HB5.out, HG5.out⟩
   case measure => simp [intOf]; omega
  ·have hlt' : ¬ (k : Int) < N := by omega
   obtain rfl : N = k := by omega
   go_wp2_with fail
   go_ret
   exact ⟨rfl, Hgk.out, Hbk.out⟩
end Go.Proofs.Ytiblcpkejhiehaa
namespace Go.Proofs.Ytiblcpkejhiehaa
open Go.RowKit Go.PlainAid
set_option maxHeartbeats 8000000 in
theorem indexI_some (b off len cap : Nat) (xs : List Int) (x : Int) (w : World) (hl : xs.length = len) (hc : ∀ i, i < len → w.cell? ⟨b, off + i, none⟩ = some (.int .i64 (xs.getD i 0))) (hlb : len ≤ 1000000) :
  Calls Try.prog 87 #[.slice (some ⟨b, off, none⟩) len cap, .int .i64 x] w fun e w' => ∃ r : Int, e = .returned (.int .i64 r) ∧ (0 ≤ r ↔ x ∈ xs) ∧ w = w' := by
 have Hc := Lib.hid hc
 have Hl := Lib.hid hl
 clear hc hl
 go_enter Try.func87, Try.ntmps87
 go_wp2_with fail
 go_loopw [8] (fun i wr => ∃ k : Nat, i = .int .i64 k ∧ k ≤ len ∧ (∀ j, j < k → xs.getD j 0 ≠ x) ∧ wr = w) (fun i _ => len - (intOf i).toNat)
 case atStart => exact ⟨0, rfl, by omega, fun j hj => by omega, rfl⟩
 case round =>
  obtain ⟨k, rfl, hk, hno, rfl⟩ := hrel
  have Hs := Lib.hid hno
  clear hno
  by_cases hlt : k < len
  ·have hlt' : (k : Int) < len := by omega
   have c1 := Hc.out k hlt
   obtain ⟨e1, he1⟩ : ∃ e1, e1 = xs.getD k 0 := ⟨_, rfl⟩
   rw [← he1] at c1
   have He1 := Lib.hid he1
   clear he1
   by_cases hq : (x == e1) = true
   ·have Hq := Lib.hid hq
    go_wp2_with fail
    go_ret
    refine ⟨_, rfl, ⟨fun _ => ?_, fun _ => by omega⟩, rfl⟩
    have hh := Hq.out
    simp only [beq_iff_eq] at hh
    rw [hh, He1.out]
    have hkl : k < xs.length := by rw [Hl.out]; exact hlt
    simp only [List.getD, List.getElem?_eq_getElem hkl, Option.getD_some]
    exact List.getElem_mem hkl
   ·have Hq := Lib.hid hq
    have hq' : (x == e1) = false := by simpa using hq
    clear hq
    go_wp2_with fail
    go_roundw
    case rel =>
     refine ⟨k + 1, by go_num, by omega, fun j hj => ?_, trivial⟩
     by_cases hjk : j < k
     ·exact Hs.out j hjk
     ·obtain rfl : j = k := by omega
      intro h
      apply Hq.out
      rw [He1.out, h]
      simp
    case measure => simp [intOf]; omega
  ·have hlt' : ¬ (k : Int) < len := by omega
   go_wp2_with fail
   go_ret
   refine ⟨_, rfl, ⟨fun h => absurd h (by omega), fun h => ?_⟩, rfl⟩
   obtain ⟨i, hi, he⟩ := List.getElem_of_mem h
   exact absurd (by simp [List.getD, hi, he]) (Hs.out i (by rw [Hl.out] at hi; omega))
theorem contains_any (v : Value) (xs : List Int) (x : Int) (w : World) (h : IntsAt w v xs) (hn : xs.length ≤ 1000000) :
  Calls Try.prog 65 #[v, .int .i64 x] w fun e w' => e = .returned (.bool (decide (x ∈ xs))) ∧ w = w' := by
 have hidx : Calls Try.prog 87 #[v, .int .i64 x] w fun e w' => ∃ r : Int, e = .returned (.int .i64 r) ∧ (0 ≤ r ↔ x ∈ xs) ∧ w = w' := by
  rcases h with ⟨a, cap, rfl, rfl⟩ | ⟨b, off, len, cap, rfl, hl, hp, hb, hlc, hc⟩
  ·go_enter Try.func87, Try.ntmps87
   go_wp2_with fail
   refine wp_loop_rounds 1 ?_
   rw [rounds_succ]
   go_wp2_with fail
   go_ret
   exact ⟨-1, rfl, by simp, rfl⟩
  ·exact indexI_some b off len cap xs x w hl hc (by omega)
 clear h
 go_enter Try.func65, Try.ntmps65
 go_wp2_with fail
 refine hidx.mono ?_
 rintro e w' ⟨r, rfl, hr, rfl⟩
 have hd : decide (0 ≤ r) = decide (x ∈ xs) := by simp only [hr]
 have Hd := Lib.hid hd
 clear hr hidx hd
 go_wp2_with fail
 go_ret
 exact ⟨by rw [← Hd.out]; rfl, rfl⟩
end Go.Proofs.Ytiblcpkejhiehaa

