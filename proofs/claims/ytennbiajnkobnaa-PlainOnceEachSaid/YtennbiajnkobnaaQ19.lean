/- Texts put together. -/
import Derived.Test.YtennbiajnkobnaaQ17
namespace Go.Proofs.Ytennbiajnkobnaa
open Go.RowKit Go.PlainAid
/-- A state that lies in a row. -/
structure EBox (w : World) (b o nx : Nat) (m : Int) (a1 : Option Addr) (n1 c1 : Nat) (a2 : Option Addr) (n2 c2 : Nat) (a3 : Option Addr) (n3 c3 : Nat) (s : St) : Prop where
 e0 : w.cell? ⟨b, o + nx * 4, none⟩ = some (.int .i64 m)
 e1 : w.cell? ⟨b, o + nx * 4 + 1, none⟩ = some (.slice a1 n1 c1)
 e2 : w.cell? ⟨b, o + nx * 4 + 2, none⟩ = some (.slice a2 n2 c2)
 e3 : w.cell? ⟨b, o + nx * 4 + 3, none⟩ = some (.slice a3 n3 c3)
 st : IsSt w s (.agg #[.int .i64 m, .slice a1 n1 c1, .slice a2 n2 c2, .slice a3 n3 c3])
theorem EBox.below {w w' : World} {b o nx : Nat} {m : Int} {a1 : Option Addr} {n1 c1 : Nat} {a2 : Option Addr} {n2 c2 : Nat} {a3 : Option Addr} {n3 c3 : Nat} {s : St} (h : EBox w b o nx m a1 n1 c1 a2 n2 c2 a3 n3 c3 s) (hb : Below w.heap.size w w') : EBox w' b o nx m a1 n1 c1 a2 n2 c2 a3 n3 c3 s := by
 have k := fun (p : Addr) (v : Value) (e : w.cell? p = some v) => (hb.cell (World.block_lt_of_cell? w _ e)).trans e
 exact ⟨k _ _ h.e0, k _ _ h.e1, k _ _ h.e2, k _ _ h.e3, h.st.later hb⟩
theorem ebox_of {w : World} {v : Value} {l : List St} {i : Nat} {s : St} (h : Has w v (dStates l)) (hx : l[i]? = some s) :
  ∃ b off cap m a1 n1 c1 a2 n2 c2 a3 n3 c3, v = .slice (some ⟨b, off, none⟩) l.length cap ∧ b < w.heap.size ∧ EBox w b off i m a1 n1 c1 a2 n2 c2 a3 n3 c3 s ∧ m = s.mode ∧ n1 = s.waits.length ∧ n2 = s.picks.length ∧ n3 = s.takes.length := by
 obtain ⟨b, off, cap, rfl, h1, h2, cs, h3, h4⟩ := cells_of h hx
 obtain ⟨v1, v2, v3, rfl, h5, h6, h7⟩ := hasL_st h3
 obtain ⟨a1, c1, rfl⟩ := slice_of h5
 obtain ⟨a2, c2, rfl⟩ := slice_of h6
 obtain ⟨a3, c3, rfl⟩ := slice_of h7
 exact ⟨b, off, cap, _, _, _, _, _, _, _, _, _, _, rfl, h1, ⟨h4 0 _ rfl, h4 1 _ rfl, h4 2 _ rfl, h4 3 _ rfl, ⟨_, rfl, h3⟩⟩, rfl, rfl, rfl, rfl⟩
end Go.Proofs.Ytennbiajnkobnaa

