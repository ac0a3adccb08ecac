/- Plain nodes: each of one state. -/
import Derived.Test.YtgoioibfecgopaaTdB
import Derived.Test.YtgoioibfecgopaaBa4
import Derived.Test.YtgoioibfecgopaaBa3
namespace Go.Proofs.Ytgoioibfecgopaa
open Go.RowKit Go.PlainAid

theorem holds_block {P : Nat → Prop} {w : World} {b n cap : Nat} {xs : List (List D)} (hP : P b) (css : List (List Value)) (hl : css.length = xs.length) (h0 : 0 < xs.length) (hb : b < w.heap.size) (hc : xs.length ≤ cap) (hn : ∀ ds ∈ xs, ds.length = n)
    (hcell : ∀ (i : Nat) (cs : List Value), css[i]? = some cs → ∀ (j : Nat) (c : Value), cs[j]? = some c → w.cell? ⟨b, i * n + j, none⟩ = some c) (hh : ∀ (i : Nat) (cs : List Value) (ds : List D), css[i]? = some cs → xs[i]? = some ds → HoldsL False P w cs ds) : Holds False P w (.slice (some ⟨b, 0, none⟩) xs.length cap) (.row n xs) := by
  have key : ∀ (i : Nat) (ds : List D), xs[i]? = some ds → ∃ cs, css[i]? = some cs ∧ cs.length = n ∧ HoldsL False P w cs ds := fun i ds hi => by
    obtain ⟨cs, hcs⟩ := some_of_lt (l := css) (i := i) (by rw [hl]; exact lt_of_some hi)
    have h := hh i cs ds hcs hi
    exact ⟨cs, hcs, by rw [h.1]; exact hn ds (List.mem_of_getElem? hi), h⟩
  refine .row _ _ b 0 cap n xs (fun i j => (css.getD i []).getD j (.bool true)) (fun _ _ => P) h0 hb hc hP (fun i ds hi => hn ds (List.mem_of_getElem? hi)) (fun i j hi hj => ?_) (fun i j ds d h1 h2 => ?_) (fun _ _ _ h => h) (fun s => s.elim) (fun s => s.elim)
  · obtain ⟨ds, hds⟩ := some_of_lt hi
    obtain ⟨cs, hcs, hlen, _⟩ := key i ds hds
    have hjl : j < cs.length := by omega
    rw [Nat.zero_add, hcell i cs hcs j cs[j] (List.getElem?_eq_getElem hjl)]
    simp [List.getD, hcs, hjl]
  · obtain ⟨cs, hcs, hlen, hL⟩ := key i ds h1
    have hjl : j < cs.length := by rw [hL.1]; exact lt_of_some h2
    obtain ⟨_, fp, hfp, _, g⟩ := hL
    have := (g j cs[j] d (List.getElem?_eq_getElem hjl) h2).wide (fun b _ p => hfp _ _ p)
    simpa [List.getD, hcs, hjl] using this
theorem consF {P : Nat → Prop} {w : World} {c : Value} {cs : List Value} {d : D} {ds : List D} (h : Holds False P w c d) (h' : HoldsL False P w cs ds) : HoldsL False P w (c :: cs) (d :: ds) := by
  obtain ⟨h1, fp, h2, h3, h4⟩ := h'
  refine ⟨by simp [h1], fun _ => P, fun _ _ h => h, fun s => s.elim, fun j c' d' hc hd => ?_⟩
  cases j with
  | zero => simp at hc hd; subst hc hd; exact h
  | succ j => exact (h4 j c' d' (by simpa using hc) (by simpa using hd)).wide (fun b _ p => h2 _ _ p)
theorem nilF (P : Nat → Prop) (w : World) : HoldsL False P w [] [] := hasL_nil _ _ _

/-- From whom node n hears, of the first j. -/
def hears (M : Lks) (n j : Nat) : List Int := ((List.range j).filter fun f : Nat => decide (((f : Int), (n : Int)) ∈ M)).map fun f : Nat => (f : Int)
theorem hears_succ (M : Lks) (n j : Nat) : hears M n (j + 1) = if ((j : Int), (n : Int)) ∈ M then hears M n j ++ [(j : Int)] else hears M n j := by
  unfold hears
  rw [List.range_succ, List.filter_append, List.map_append]
  by_cases h : ((j : Int), (n : Int)) ∈ M <;> simp [h]
theorem hears_len (M : Lks) (n j : Nat) : (hears M n j).length ≤ j := by
  unfold hears
  rw [List.length_map]
  exact Nat.le_trans (List.length_filter_le _ _) (by simp)
theorem hears_mem {M : Lks} {n j : Nat} {x : Int} (h : x ∈ hears M n j) : (x, (n : Int)) ∈ M := by
  unfold hears at h
  obtain ⟨f, hf, rfl⟩ := List.mem_map.1 h
  simpa using (List.mem_filter.1 hf).2
theorem hears_sorted (M : Lks) (n j : Nat) : (hears M n j).Pairwise (· < ·) := by
  unfold hears
  rw [List.pairwise_map]
  exact (List.pairwise_lt_range.filter _).imp (fun h => by omega)
def stN (M : Lks) (bs : List Bool) (N n : Nat) : St := if bs[n]? = some true then ⟨if (hears M n N).length = 0 then 0 else 2, hears M n N, [], []⟩ else ⟨0, [], [], []⟩
def ndN (M : Lks) (bs : List Bool) (N n : Nat) : Nd := ⟨0, [stN M bs N n]⟩
def tabN (M : Lks) (bs : List Bool) (N k : Nat) : Tab := (List.range k).map (ndN M bs N)
theorem tabN_succ (M : Lks) (bs : List Bool) (N k : Nat) : tabN M bs N (k + 1) = tabN M bs N k ++ [ndN M bs N k] := by
  unfold tabN; rw [List.range_succ, List.map_append]; rfl
theorem tabN_len (M : Lks) (bs : List Bool) (N k : Nat) : (tabN M bs N k).length = k := by simp [tabN]
theorem stN_ok (M : Lks) (bs : List Bool) (N n : Nat) (all : List St) : PlaceOK M ⟨stN M bs N n, n, all⟩ ∧ StaysOK all (stN M bs N n) ∧ SmallSt (stN M bs N n) ∨ 1000000 < N := by
  by_cases hN : 1000000 < N
  · exact .inr hN
  · left
    unfold stN
    split
    · refine ⟨⟨⟨?_, ?_⟩, ⟨?_, fun i x hx => ⟨hears_mem (j := N) (List.mem_of_getElem? hx), fun u hi hu => ?_⟩⟩, ⟨by simp, by simp, fun i p h => by simp at h⟩, fun i t h => by simp at h⟩, fun i t h => by simp at h, ?_⟩
      · simp only; split <;> omega
      · simp only; split <;> omega
      · simp only; split <;> omega
      · have hp := List.pairwise_iff_getElem.1 (hears_sorted M n N)
        have h1 := lt_of_some hx
        have h2 := lt_of_some hu
        have := hp (i - 1) i h2 h1 (by omega)
        rw [List.getElem?_eq_getElem h1] at hx
        rw [List.getElem?_eq_getElem h2] at hu
        cases hx; cases hu
        exact this
      · have := hears_len M n N
        exact ⟨by simp only; omega, by simp, by simp, by simp⟩
    · exact ⟨zeroOK _ _ _, fun i t h => by simp at h, by simp [SmallSt]⟩
theorem tabN_ok {N : Nat} {M : Lks} (bs : List Bool) (hR : RightG N M) : TabOK N M (tabN M bs N N) := by
  refine ⟨hR, by rw [tabN_len], fun n x hx => ?_⟩
  have hn := lt_of_some hx
  rw [tabN_len] at hn
  unfold tabN at hx
  rw [List.getElem?_map, List.getElem?_range hn] at hx
  simp at hx
  subst hx
  have h6 := hR.2.1
  rcases stN_ok M bs N n [stN M bs N n] with ⟨h1, h2, _⟩ | h
  · refine ⟨by simp [ndN], ⟨by simp [ndN], by simp [ndN]⟩, fun t ht => ?_, fun t ht => ?_⟩
    · simp [ndN] at ht; subst ht; exact h1
    · simp [ndN] at ht; subst ht; exact h2
  · omega
theorem tabN_small {N : Nat} (M : Lks) (bs : List Bool) (h6 : N ≤ 6) : SmallTab (tabN M bs N N) := by
  refine ⟨by rw [tabN_len]; omega, fun x hx => ?_⟩
  obtain ⟨n, hn, rfl⟩ := List.mem_map.1 hx
  refine ⟨by simp [ndN], fun s hs => ?_⟩
  simp [ndN] at hs
  subst hs
  rcases stN_ok M bs N n [] with ⟨_, _, h⟩ | h
  · exact h
  · omega

/-- A state's box while what it waits for is being written. -/
structure InAt (wo : World) (m : Int) (v : Value) (ws : List Int) (wr : World) : Prop where
  c0 : wr.cell? ⟨wo.heap.size, 0, none⟩ = some (.int .i64 m)
  z0 : wr.frozen? ⟨wo.heap.size, 0, none⟩ = false
  c2 : wr.cell? ⟨wo.heap.size, 2, none⟩ = some (.slice none 0 0)
  c3 : wr.cell? ⟨wo.heap.size, 3, none⟩ = some (.slice none 0 0)
  f1 : Fld False (fun k => wo.heap.size < k) 3 1 wo wr wo.heap.size 1 v (ws.map fun a => [dI a])
  hm : m = if ws.length = 0 then 0 else 2
theorem InAt.start (wo : World) : InAt wo 0 (.slice none 0 0) [] (wo.alloc (.cells #[.int .i64 0, .slice none 0 0, .slice none 0 0, .slice none 0 0] 58)) :=
  ⟨World.cell?_alloc_at _ _ _ _ rfl, frozen_new _ _ _ _, World.cell?_alloc_at _ _ _ _ rfl, World.cell?_alloc_at _ _ _ _ rfl, ⟨World.cell?_alloc_at _ _ _ _ rfl, frozen_new _ _ _ _, ⟨Own.nil (below_new _ _), fun k hk => by simp [Value.ownBlock] at hk⟩, by omega, Nat.le_refl _⟩, rfl⟩
theorem InAt.below {wo : World} {m : Int} {v : Value} {ws : List Int} {w w' : World} (h : InAt wo m v ws w) (hb : Below w.heap.size w w') : InAt wo m v ws w' := by
  have k := fun (p : Addr) (v : Value) (e : w.cell? p = some v) => (hb.cell (World.block_lt_of_cell? w _ e)).trans e
  exact ⟨k _ _ h.c0, (hb.frozen (World.block_lt_of_cell? w _ h.c0)).trans h.z0, k _ _ h.c2, k _ _ h.c3, h.f1.below hb, h.hm⟩
theorem InAt.push {wo : World} {m : Int} {v v' : Value} {ws : List Int} {w w6 : World} {x : Int} (h : InAt wo m v ws w) (T : TypeId) (hO : Own False (fun k => wo.heap.size < k) 3 1 wo w6.heap.size w6 v' ((ws ++ [x]).map fun a => [dI a]))
    (hg : ((w.setCell ⟨wo.heap.size, 0, none⟩ (.int .i64 2)).alloc (.cells #[.int .i64 x] T)).grownBy w6 v.ownBlock) (hv : v'.ownBlock = v.ownBlock ∨ v'.ownBlock = some ((w.setCell ⟨wo.heap.size, 0, none⟩ (.int .i64 2)).alloc (.cells #[.int .i64 x] T)).heap.size) :
    InAt wo 2 v' (ws ++ [x]) (w6.setCell ⟨wo.heap.size, 1, none⟩ v') ∧ w6.cell? ⟨wo.heap.size, 1, none⟩ = some v ∧ w6.frozen? ⟨wo.heap.size, 1, none⟩ = false := by
  have hlt := World.block_lt_of_cell? w _ h.c0
  have hlt' : wo.heap.size < w.heap.size := hlt
  have o : ∀ (j : Nat) (u : Value), j ≠ 0 → w.cell? ⟨wo.heap.size, j, none⟩ = some u → (w.setCell ⟨wo.heap.size, 0, none⟩ (.int .i64 2)).cell? ⟨wo.heap.size, j, none⟩ = some u := fun j u hj e => by
    rw [World.cell?_setCell_other _ _ _ _ (by simp <;> omega)]; exact e
  have hF : Fld False (fun k => wo.heap.size < k) 3 1 wo (w.setCell ⟨wo.heap.size, 0, none⟩ (.int .i64 2)) wo.heap.size 1 v (ws.map fun a => [dI a]) :=
    ⟨o 1 _ (by omega) h.f1.cell, by rw [World.frozen?_setCell]; exact h.f1.frz, by have := h.f1.bld.set ⟨wo.heap.size, 0, none⟩ (.int .i64 2) (by simp) (by simp); rw [World.size_setCell]; exact this, h.f1.out, h.f1.ge⟩
  have hb := below_new (w.setCell ⟨wo.heap.size, 0, none⟩ (.int .i64 2)) (.cells #[.int .i64 x] T)
  obtain ⟨a1, a2, a3, a4, a5, a6, a7⟩ := hF.push hb hO hg hv (by simp; omega)
  have c0 := cell_more (World.cell?_setCell_same w _ (.int .i64 2) h.c0) (.cells #[.int .i64 x] T)
  have c2 := cell_more (o 2 _ (by omega) h.c2) (.cells #[.int .i64 x] T)
  have c3 := cell_more (o 3 _ (by omega) h.c3) (.cells #[.int .i64 x] T)
  refine ⟨⟨a6 _ _ c0 (by simp) (by simp), (a7 _ (World.block_lt_of_cell? _ _ c0) (by simp)).trans ?_, a6 _ _ c2 (by simp) (by simp), a6 _ _ c3 (by simp) (by simp), a1, by simp⟩, a2, a3⟩
  rw [frozen?_alloc_cells, World.frozen?_setCell]
  exact h.z0
end Go.Proofs.Ytgoioibfecgopaa
