/- Texts put together. -/
import Derived.Test.YtennbiajnkobnaaQ01
import Derived.Test.YtennbiajnkobnaaQ05
import Derived.Test.YtennbiajnkobnaaQ17
import Derived.Deep.RegionHeldLaw
import Derived.Deep.DeepCutAuto
set_option linter.unusedSimpArgs false
namespace Go.Proofs.Ytennbiajnkobnaa
open Go.RowKit Go.PlainAid
def cutP (p : Pk) : Pk := ⟨p.next, p.sends.take 10⟩
def cutS (s : St) : St := ⟨s.mode, s.waits.take 10, (s.picks.take 10).map cutP, s.takes.take 30⟩
theorem infoPk : (Try.prog.info? 123).map (fun i => (i.zero, i.size, i.bytes)) = some (some (.agg #[.int .i64 0, .slice none 0 0]), 2, 32) := by kernel_rfl
theorem infoTk : (Try.prog.info? 125).map (fun i => (i.zero, i.size, i.bytes)) = some (some (.agg #[.int .i64 0, .int .i64 0, .int .i64 0]), 3, 24) := by kernel_rfl
theorem SameOn.trans {P : Nat → Prop} {w w' w2 : World} (h : SameOn P w w') (h' : SameOn P w' w2) : SameOn P w w2 := ⟨Nat.le_trans h.1 h'.1, fun b p hb => (h'.2 b p (Nat.lt_of_lt_of_le hb h.1)).trans (h.2 b p hb)⟩
theorem SameOn.frozen {P : Nat → Prop} {w w' : World} {a : Addr} (h : SameOn P w w') (hp : P a.block) (hb : a.block < w.heap.size) : w'.frozen? a = w.frozen? a := World.frozen?_of_block (w := w) (h.2 _ hp hb)
/-- The copy's box, as it is made. -/
structure CutHead (w1 wx : World) (b3 : Nat) (m : Int) (v1 : Value) (ws : List Int) : Prop where
 ge : w1.heap.size ≤ b3
 lt : b3 < wx.heap.size
 bel : Below w1.heap.size w1 wx
 y0 : wx.cell? ⟨b3, 0, none⟩ = some (.int .i64 m)
 y1 : wx.cell? ⟨b3, 1, none⟩ = some v1
 y2 : wx.cell? ⟨b3, 2, none⟩ = some (.slice none 0 0)
 y3 : wx.cell? ⟨b3, 3, none⟩ = some (.slice none 0 0)
 z : ∀ i, wx.frozen? ⟨b3, i, none⟩ = false
 hw : Holds True (fun k => w1.heap.size ≤ k ∧ k < wx.heap.size ∧ k ≠ b3) wx v1 (dInts ws)
theorem cutHead_new {w1 w4 : World} {E T : TypeId} {lim : Nat} {v : Value} {ws : List Int} (h : Own True (fresh w1) E 1 w1 lim w4 v (ws.map fun a => [dI a])) (m : Int) : CutHead w1 (w4.alloc (.cells #[.int .i64 m, v, .slice none 0 0, .slice none 0 0] T)) w4.heap.size m v ws := by
 have hsz : w4.heap.size < (w4.alloc (.cells #[.int .i64 m, v, .slice none 0 0, .slice none 0 0] T)).heap.size := by simp
 refine ⟨h.bel.size, hsz, h.bel.alloc h.bel.size _, World.cell?_alloc_at _ _ _ _ rfl, World.cell?_alloc_at _ _ _ _ rfl, World.cell?_alloc_at _ _ _ _ rfl, World.cell?_alloc_at _ _ _ _ rfl, fun i => frozen_new _ _ _ _, ?_⟩
 refine ((h.flat (P' := fun k => w1.heap.size ≤ k ∧ k < w4.heap.size) (flat_ints ws) (fun k hk => h.ge k hk)).later (below_new _ _)).wide (fun b _ hb => ⟨hb.1, by omega, by omega⟩)
theorem cutHead_set {w1 w4 : World} {E : TypeId} {lim b3 : Nat} {v : Value} {ws : List Int} (h : Own True (fresh w1) E 1 w1 lim w4 v (ws.map fun a => [dI a])) (m : Int) (hge : w1.heap.size ≤ b3) (hne : v.ownBlock ≠ some b3) {u0 u1 u2 u3 : Value}
  (t0 : w4.cell? ⟨b3, 0, none⟩ = some u0) (t1 : w4.cell? ⟨b3, 1, none⟩ = some u1) (t2 : w4.cell? ⟨b3, 2, none⟩ = some u2) (t3 : w4.cell? ⟨b3, 3, none⟩ = some u3) (r : ∀ i, w4.frozen? ⟨b3, i, none⟩ = false) :
  CutHead w1 ((((w4.setCell ⟨b3, 0, none⟩ (.int .i64 m)).setCell ⟨b3, 1, none⟩ v).setCell ⟨b3, 2, none⟩ (.slice none 0 0)).setCell ⟨b3, 3, none⟩ (.slice none 0 0)) b3 m v ws := by
 have o : ∀ (w : World) (i j : Nat) (u x : Value), i ≠ j → w.cell? ⟨b3, j, none⟩ = some x → (w.setCell ⟨b3, i, none⟩ u).cell? ⟨b3, j, none⟩ = some x := fun w i j u x hne h => by rw [World.cell?_setCell_other _ _ _ _ (by simp [hne])]; exact h
 have hlt := World.block_lt_of_cell? w4 _ t0
 have e0 := World.cell?_setCell_same w4 _ (.int .i64 m) t0
 have e1 := World.cell?_setCell_same _ _ v (o w4 0 1 (.int .i64 m) _ (by omega) t1)
 have e2 := World.cell?_setCell_same _ _ (.slice none 0 0) (o _ 1 2 v _ (by omega) (o w4 0 2 (.int .i64 m) _ (by omega) t2))
 have e3 := World.cell?_setCell_same _ _ (.slice none 0 0) (o _ 2 3 (.slice none 0 0) _ (by omega) (o _ 1 3 v _ (by omega) (o w4 0 3 (.int .i64 m) _ (by omega) t3)))
 refine ⟨hge, by simp only [World.size_setCell]; exact hlt, (((h.bel.setCell hge _).setCell hge _).setCell hge _).setCell hge _, ?_, ?_, ?_, e3, fun i => by simp only [World.frozen?_setCell]; exact r i, ?_⟩
 ·exact o _ 3 0 _ _ (by omega) (o _ 2 0 _ _ (by omega) (o _ 1 0 _ _ (by omega) e0))
 ·exact o _ 3 1 _ _ (by omega) (o _ 2 1 _ _ (by omega) e1)
 ·exact o _ 3 2 _ _ (by omega) e2
 ·have hh := h.flat (P' := fun k => w1.heap.size ≤ k ∧ k < w4.heap.size ∧ k ≠ b3) (flat_ints ws) (fun k hk => ⟨(h.ge k hk).1, (h.ge k hk).2, fun e => hne (e ▸ hk)⟩)
  have hs : SameOn (fun k => w1.heap.size ≤ k ∧ k < w4.heap.size ∧ k ≠ b3) w4 ((((w4.setCell ⟨b3, 0, none⟩ (.int .i64 m)).setCell ⟨b3, 1, none⟩ v).setCell ⟨b3, 2, none⟩ (.slice none 0 0)).setCell ⟨b3, 3, none⟩ (.slice none 0 0)) :=
   ((((SameOn.refl _ _).set _ _ (fun h => h.2.2 rfl)).set _ _ (fun h => h.2.2 rfl)).set _ _ (fun h => h.2.2 rfl)).set _ _ (fun h => h.2.2 rfl)
  refine (hh.same hs).wide (fun b hb p => ⟨p.1, ?_, p.2.2⟩)
  simp only [World.size_setCell]; exact p.2.1
/-- While picks, then takes, are copied. -/
structure C1 (w1 wA : World) (b3 : Nat) (m : Int) (v1 v2 : Value) (ps : List Pk) (wr : World) : Prop where
 bel : Below w1.heap.size w1 wr
 low : SameOn (fun k => k < wA.heap.size ∧ k ≠ b3) wA wr
 y0 : wr.cell? ⟨b3, 0, none⟩ = some (.int .i64 m)
 y1 : wr.cell? ⟨b3, 1, none⟩ = some v1
 y3 : wr.cell? ⟨b3, 3, none⟩ = some (.slice none 0 0)
 z3 : wr.frozen? ⟨b3, 3, none⟩ = false
 f2 : Fld True (fun k => wA.heap.size ≤ k) 123 2 w1 wr b3 2 v2 (ps.map Pk.d)
structure C2 (w1 wB : World) (b3 : Nat) (m : Int) (v1 v2 v3 : Value) (ts : List Tk) (wr : World) : Prop where
 bel : Below w1.heap.size w1 wr
 low : SameOn (fun k => k < wB.heap.size ∧ k ≠ b3) wB wr
 y0 : wr.cell? ⟨b3, 0, none⟩ = some (.int .i64 m)
 y1 : wr.cell? ⟨b3, 1, none⟩ = some v1
 y2 : wr.cell? ⟨b3, 2, none⟩ = some v2
 f3 : Fld True (fun k => wB.heap.size ≤ k) 125 3 w1 wr b3 3 v3 (ts.map Tk.d)
theorem C1.start {w1 wA : World} {b3 : Nat} {m : Int} {v1 : Value} {ws : List Int} (h : CutHead w1 wA b3 m v1 ws) : C1 w1 wA b3 m v1 (.slice none 0 0) [] wA :=
 ⟨h.bel, SameOn.refl _ _, h.y0, h.y1, h.y3, h.z 3, ⟨h.y2, h.z 2, ⟨Own.nil h.bel, fun k hk => by simp [Value.ownBlock] at hk⟩, by have := h.lt; omega, h.ge⟩⟩
theorem C2.start {w1 wA wr : World} {b3 : Nat} {m : Int} {v1 v2 : Value} {ps : List Pk} (h : C1 w1 wA b3 m v1 v2 ps wr) (hb : b3 < wA.heap.size) : C2 w1 wr b3 m v1 v2 (.slice none 0 0) [] wr :=
 ⟨h.bel, SameOn.refl _ _, h.y0, h.y1, h.f2.cell, ⟨h.y3, h.z3, ⟨Own.nil h.bel, fun k hk => by simp [Value.ownBlock] at hk⟩, by have := h.low.1; omega, h.f2.ge⟩⟩
theorem C1.below {w1 wA w w' : World} {b3 : Nat} {m : Int} {v1 v2 : Value} {ps : List Pk} (h : C1 w1 wA b3 m v1 v2 ps w) (hb : Below w.heap.size w w') : C1 w1 wA b3 m v1 v2 ps w' := by
 have k := fun (p : Addr) (v : Value) (e : w.cell? p = some v) => (hb.cell (World.block_lt_of_cell? w _ e)).trans e
 exact ⟨below_step h.bel.size h.bel hb, h.low.trans ((SameOn.of_below hb).sub fun _ p => p), k _ _ h.y0, k _ _ h.y1, k _ _ h.y3, (hb.frozen (World.block_lt_of_cell? w _ h.y3)).trans h.z3, h.f2.below hb⟩
theorem C2.below {w1 wB w w' : World} {b3 : Nat} {m : Int} {v1 v2 v3 : Value} {ts : List Tk} (h : C2 w1 wB b3 m v1 v2 v3 ts w) (hb : Below w.heap.size w w') : C2 w1 wB b3 m v1 v2 v3 ts w' := by
 have k := fun (p : Addr) (v : Value) (e : w.cell? p = some v) => (hb.cell (World.block_lt_of_cell? w _ e)).trans e
 exact ⟨below_step h.bel.size h.bel hb, h.low.trans ((SameOn.of_below hb).sub fun _ p => p), k _ _ h.y0, k _ _ h.y1, k _ _ h.y2, h.f3.below hb⟩
theorem C1.push {w1 wA w w5 w6 : World} {b3 : Nat} {m : Int} {v1 v2 v2' : Value} {ps : List Pk} {p : Pk} (h : C1 w1 wA b3 m v1 v2 ps w) (hbA : b3 < wA.heap.size) (hb : Below w.heap.size w w5) (hO : Own True (fun k => wA.heap.size ≤ k) 123 2 w1 w6.heap.size w6 v2' (ps.map Pk.d ++ [p.d])) (hg : w5.grownBy w6 v2.ownBlock)
  (hv : v2'.ownBlock = v2.ownBlock ∨ v2'.ownBlock = some w5.heap.size) : C1 w1 wA b3 m v1 v2' (ps ++ [p]) (w6.setCell ⟨b3, 2, none⟩ v2') ∧ w6.cell? ⟨b3, 2, none⟩ = some v2 ∧ w6.frozen? ⟨b3, 2, none⟩ = false := by
 have h5 := h.below hb
 have hAw : wA.heap.size ≤ w5.heap.size := h5.low.1
 obtain ⟨a1, a2, a3, a4, a5, a6, a7⟩ := h.f2.push hb hO hg hv hAw
 have hlow := a5 (fun k => k < wA.heap.size ∧ k ≠ b3) (fun k hk => by omega) (fun hk => hk.2 rfl)
 have hb5 := World.block_lt_of_cell? w5 _ h5.y3
 refine ⟨⟨a4, h5.low.trans hlow, a6 _ _ h5.y0 (by simp; omega) (by simp), a6 _ _ h5.y1 (by simp; omega) (by simp), a6 _ _ h5.y3 (by simp; omega) (by simp), (a7 _ hb5 (by simp; omega)).trans h5.z3, ?_⟩, a2, a3⟩
 rw [List.map_append]; exact a1
theorem C2.push {w1 wB w w5 w6 : World} {b3 : Nat} {m : Int} {v1 v2 v3 v3' : Value} {ts : List Tk} {t : Tk} (h : C2 w1 wB b3 m v1 v2 v3 ts w) (hbB : b3 < wB.heap.size) (hb : Below w.heap.size w w5) (hO : Own True (fun k => wB.heap.size ≤ k) 125 3 w1 w6.heap.size w6 v3' (ts.map Tk.d ++ [t.d])) (hg : w5.grownBy w6 v3.ownBlock)
  (hv : v3'.ownBlock = v3.ownBlock ∨ v3'.ownBlock = some w5.heap.size) : C2 w1 wB b3 m v1 v2 v3' (ts ++ [t]) (w6.setCell ⟨b3, 3, none⟩ v3') ∧ w6.cell? ⟨b3, 3, none⟩ = some v3 ∧ w6.frozen? ⟨b3, 3, none⟩ = false := by
 have h5 := h.below hb
 have hAw : wB.heap.size ≤ w5.heap.size := h5.low.1
 obtain ⟨a1, a2, a3, a4, a5, a6, a7⟩ := h.f3.push hb hO hg hv hAw
 have hlow := a5 (fun k => k < wB.heap.size ∧ k ≠ b3) (fun k hk => by omega) (fun hk => hk.2 rfl)
 refine ⟨⟨a4, h5.low.trans hlow, a6 _ _ h5.y0 (by simp; omega) (by simp), a6 _ _ h5.y1 (by simp; omega) (by simp), a6 _ _ h5.y2 (by simp; omega) (by simp), ?_⟩, a2, a3⟩
 rw [List.map_append]; exact a1
end Go.Proofs.Ytennbiajnkobnaa

