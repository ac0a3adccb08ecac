/- A box's field that holds a row under way. -/
import Derived.Test.YtegpdfocfohkcaaMeD
namespace Go.Proofs.Ytegpdfocfohkcaa
open Go.RowKit Go.PlainAid

/-- A row under way: what it holds and the row itself lie in blocks of P. -/
structure Bld (S : Prop) (P : Nat → Prop) (E : TypeId) (n : Nat) (wb : World) (lim : Nat) (w : World) (v : Value) (xs : List (List D)) : Prop where
  own : Own S P E n wb lim w v xs
  inP : ∀ k, v.ownBlock = some k → P k
theorem Bld.later {S : Prop} {P : Nat → Prop} {E : TypeId} {n lim : Nat} {wb w w' : World} {v : Value} {xs : List (List D)} (h : Bld S P E n wb lim w v xs) (hb : Below w.heap.size w w') : Bld S P E n wb lim w' v xs := ⟨h.own.later hb, h.inP⟩
theorem Bld.set {S : Prop} {P : Nat → Prop} {E : TypeId} {n lim : Nat} {wb w : World} {v : Value} {xs : List (List D)} (h : Bld S P E n wb lim w v xs) (a : Addr) (u : Value) (hP : ¬ P a.block) (hb : wb.heap.size ≤ a.block) : Bld S P E n wb lim (w.setCell a u) v xs :=
  ⟨h.own.set a u hP hb (fun e => hP (h.inP _ e)), h.inP⟩
theorem Bld.holds {S : Prop} {P : Nat → Prop} {E : TypeId} {n lim : Nat} {wb w : World} {v : Value} {xs : List (List D)} (h : Bld S P E n wb lim w v xs) : Holds S P w v (.row n xs) := h.own.holds h.inP
theorem Bld.of {S : Prop} {P : Nat → Prop} {E : TypeId} {n lim : Nat} {wb w w' : World} {v v' : Value} {xs : List (List D)} (h : Own S P E n wb lim w' v' xs) (hv : ∀ k, v.ownBlock = some k → P k) (hb : v'.ownBlock = v.ownBlock ∨ v'.ownBlock = some w.heap.size) (hP : P w.heap.size) : Bld S P E n wb lim w' v' xs :=
  ⟨h, fun k hk => by
    rcases hb with hb | hb
    · exact hv k (by rw [← hb]; exact hk)
    · rw [hb] at hk; cases hk; exact hP⟩
theorem capOf {S : Prop} {P : Nat → Prop} {w : World} {a : Option Addr} {len cap n : Nat} {xs : List (List D)} (h : Holds S P w (.slice a len cap) (.row n xs)) : len ≤ cap := by
  cases h with
  | nil => omega
  | row => assumption
theorem newsLater {w w' : World} {ad : Option Addr} {news : List Value} (h : ∀ a, ad = some a → ∀ j u, news[j]? = some u → w.cell? (a.add j) = some u) (hb : Below w.heap.size w w') : ∀ a, ad = some a → ∀ j u, news[j]? = some u → w'.cell? (a.add j) = some u :=
  fun a ha j u hu => (hb.cell (World.block_lt_of_cell? w _ (h a ha j u hu))).trans (h a ha j u hu)
theorem frozen_two (w : World) (c c' : Array Value) (t t' : TypeId) (i : Nat) : (((w.alloc (.cells c t)).alloc (.cells c' t')).drew).frozen? ⟨w.heap.size, i, none⟩ = false := by
  show ((w.alloc (.cells c t)).alloc (.cells c' t')).frozen? ⟨w.heap.size, i, none⟩ = false
  rw [frozen?_alloc_cells, frozen?_alloc_cells]
  simp [World.frozen?]
theorem frozen_new (w : World) (c : Array Value) (t : TypeId) (i : Nat) : (w.alloc (.cells c t)).frozen? ⟨w.heap.size, i, none⟩ = false := by
  rw [frozen?_alloc_cells]
  simp [World.frozen?]

/-- A row of plain things: no block but its own counts. -/
theorem Own.flat {S : Prop} {P P' : Nat → Prop} {E : TypeId} {n lim : Nat} {wb w : World} {v : Value} {xs : List (List D)} (h : Own S P E n wb lim w v xs) (hf : Flat xs.flatten) (hP : ∀ k, v.ownBlock = some k → P' k) : Holds S P' w v (.row n xs) := by
  obtain ⟨h1, h2, h3, cells, cs, fp, h4, h5, h6, h7, h8, h9⟩ := h
  by_cases h0 : xs.length = 0
  · obtain ⟨a, c, rfl⟩ := owns_slice h4
    obtain rfl := List.length_eq_zero_iff.1 h0
    exact .nil _ _ _ _ _
  · have hcell := fun g => h4.cells (g := g)
    rcases h4.2 with ⟨_, e⟩ | ⟨g, cap, cur, rfl, hge, hg, hle, _⟩
    · exact absurd e h0
    · refine .row P' w g 0 cap n xs cs (fun _ _ _ => False) (by omega) (lt_of_block hg) hle (hP g rfl) h5 (fun i j hi hj => ?_) (fun i j ds d hi hj => ?_) (fun i j k hf => hf.elim) (fun s i j hf => hf) (fun _ _ _ _ _ _ hf => hf.elim)
      · have := hcell g rfl _ _ (h6 i j hi hj)
        have e : (⟨g, 0, none⟩ : Addr).add (i * n + j) = ⟨g, 0 + i * n + j, none⟩ := by unfold Addr.add; split <;> simp_all
        rw [e] at this; exact this
      · have hh := h7 i j ds d hi hj
        have hjn : j < n := by rw [← h5 i ds hi]; exact lt_of_some hj
        have hm := flatten_get (n := n) (fun ds hds => by obtain ⟨q, hq⟩ := List.mem_iff_getElem?.1 hds; exact h5 q ds hq) hi hjn
        rw [hj] at hm
        obtain ⟨u, rfl⟩ := hf d (List.mem_of_getElem? hm)
        have e := hh.val
        rw [e]
        have h1 := hh.one
        rw [e] at h1
        exact .atom _ _ _ h1

/-- A box's field. -/
structure Fld (S : Prop) (P : Nat → Prop) (E : TypeId) (n : Nat) (wb w : World) (b o : Nat) (v : Value) (xs : List (List D)) : Prop where
  cell : w.cell? ⟨b, o, none⟩ = some v
  frz : w.frozen? ⟨b, o, none⟩ = false
  bld : Bld S P E n wb w.heap.size w v xs
  out : ¬ P b
  ge : wb.heap.size ≤ b
theorem Fld.below {S : Prop} {P : Nat → Prop} {E : TypeId} {n : Nat} {wb w w' : World} {b o : Nat} {v : Value} {xs : List (List D)} (h : Fld S P E n wb w b o v xs) (hb : Below w.heap.size w w') : Fld S P E n wb w' b o v xs :=
  ⟨(hb.cell (World.block_lt_of_cell? w _ h.cell)).trans h.cell, (hb.frozen (World.block_lt_of_cell? w _ h.cell)).trans h.frz, ⟨(h.bld.own.later hb).lift hb.size (Nat.le_refl _), h.bld.inP⟩, h.out, h.ge⟩
theorem Fld.push {S : Prop} {P : Nat → Prop} {E : TypeId} {n : Nat} {wb w w5 w6 : World} {b o : Nat} {v v' : Value} {xs ys : List (List D)} (h : Fld S P E n wb w b o v xs) (hb : Below w.heap.size w w5) (hO : Own S P E n wb w6.heap.size w6 v' ys) (hg : w5.grownBy w6 v.ownBlock)
    (hv : v'.ownBlock = v.ownBlock ∨ v'.ownBlock = some w5.heap.size) (hP : P w5.heap.size) : Fld S P E n wb (w6.setCell ⟨b, o, none⟩ v') b o v' ys ∧ w6.cell? ⟨b, o, none⟩ = some v ∧ w6.frozen? ⟨b, o, none⟩ = false ∧ Below wb.heap.size wb (w6.setCell ⟨b, o, none⟩ v') ∧
      (∀ Q : Nat → Prop, (∀ k, Q k → ¬ P k) → ¬ Q b → SameOn Q w5 (w6.setCell ⟨b, o, none⟩ v')) ∧ (∀ (c : Addr) (u : Value), w5.cell? c = some u → ¬ P c.block → c ≠ ⟨b, o, none⟩ → (w6.setCell ⟨b, o, none⟩ v').cell? c = some u) ∧ (∀ c : Addr, c.block < w5.heap.size → ¬ P c.block → (w6.setCell ⟨b, o, none⟩ v').frozen? c = w5.frozen? c) := by
  have hne : ∀ k, ¬ P k → v.ownBlock ≠ some k := fun k hk e => hk (h.bld.inP k e)
  have e1 := (h.below hb).cell
  have e2 := (h.below hb).frz
  have c6 := grown_at hg (hne b h.out) e1
  have f6 := grown_frozen hg (hne b h.out) (World.block_lt_of_cell? w5 _ e1) e2
  have hB := Bld.of hO h.bld.inP hv hP
  refine ⟨⟨World.cell?_setCell_same w6 _ _ c6, by rw [World.frozen?_setCell]; exact f6, ?_, h.out, h.ge⟩, c6, f6, hO.bel.setCell h.ge _, fun Q hQ hb' => ⟨?_, fun k hk hlt => ?_⟩, fun c u hu hP' hc => ?_, fun c hc hP' => ?_⟩
  · have := hB.set ⟨b, o, none⟩ v' h.out h.ge
    rw [World.size_setCell]
    exact this
  · rw [World.size_setCell]; exact hg.size
  · rw [Below.heap_setCell _ _ _ _ (by intro e; subst e; exact hb' hk)]
    exact hg.block k hlt (fun e => hne k (hQ k hk) e.symm)
  · rw [World.cell?_setCell_other w6 _ _ _ (fun e => hc e.symm)]
    exact (World.cell?_of_block (hg.block c.block (World.block_lt_of_cell? w5 _ hu) (fun e => hne _ hP' e.symm))).trans hu
  · rw [World.frozen?_setCell]
    exact World.frozen?_of_block (w := w5) (hg.block c.block hc (fun e => hne _ hP' e.symm))
end Go.Proofs.Ytegpdfocfohkcaa
