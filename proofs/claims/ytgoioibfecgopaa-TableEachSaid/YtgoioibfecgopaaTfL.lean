/- Rows that are made anew, and written to. -/
import Derived.Test.YtgoioibfecgopaaBa5
import Derived.Test.YtgoioibfecgopaaTfK
import Derived.Test.YtgoioibfecgopaaTbF
namespace Go.Proofs.Ytgoioibfecgopaa
open Go.RowKit Go.PlainAid

theorem OpenRow.frozen {w : World} {b cap n : Nat} (h : OpenRow w b cap n) (o : Nat) : w.frozen? ⟨b, o, none⟩ = false := by
  obtain ⟨_, cur, e, h1, _⟩ := h
  simp [World.frozen?, h1]
/-- Cells of a block, by their place. -/
def BoxAt (h : Nat) (vs : List Value) (wr : World) : Prop := ∀ (i : Nat) (v : Value), vs[i]? = some v → wr.cell? ⟨h, i, none⟩ = some v
theorem BoxAt.below {h : Nat} {vs : List Value} {wr w' : World} (g : BoxAt h vs wr) (hb : Below wr.heap.size wr w') : BoxAt h vs w' := fun i v e => (hb.cell (World.block_lt_of_cell? wr _ (g i v e))).trans (g i v e)
theorem BoxAt.set2 {h b : Nat} {vs : List Value} {wr : World} (g : BoxAt h vs wr) (hne : b ≠ h) (o o' : Nat) (u u' : Value) : BoxAt h vs ((wr.setCell ⟨b, o, none⟩ u).setCell ⟨b, o', none⟩ u') := fun i v e => by
  have hk : ∀ k : Nat, (⟨b, k, none⟩ : Addr) ≠ ⟨h, i, none⟩ := fun k e' => hne (congrArg Addr.block e')
  rw [World.cell?_setCell_other _ _ _ _ (hk _), World.cell?_setCell_other _ _ _ _ (hk _)]; exact g i v e
theorem BoxAt.same {P : Nat → Prop} {h : Nat} {vs : List Value} {wr w' : World} (g : BoxAt h vs wr) (hs : SameOn P wr w') (hp : P h) : BoxAt h vs w' := fun i v e => (hs.cell (a := ⟨h, i, none⟩) hp (World.block_lt_of_cell? wr _ (g i v e))).trans (g i v e)
theorem below_step' {a b c : World} (h : Below a.heap.size a b) (h' : Below b.heap.size b c) : Below a.heap.size a c := below_step h.size h h'
theorem boxAt_new (w : World) (vs : List Value) (T : TypeId) : BoxAt w.heap.size vs (w.alloc (.cells vs.toArray T)) := fun i v e => (World.cell?_alloc_at _ _ _ _ rfl).trans (by simpa using e)
end Go.Proofs.Ytgoioibfecgopaa
