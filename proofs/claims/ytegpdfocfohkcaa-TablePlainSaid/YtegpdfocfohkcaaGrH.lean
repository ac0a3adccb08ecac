/- Out and In: the wrappers, and the document's. -/
import Derived.Test.YtegpdfocfohkcaaGrG
namespace Go.Proofs.Ytegpdfocfohkcaa
open Go.RowKit Go.PlainAid

theorem out_any (N n : Int) (v : Value) (L : Lks) (w : World) (h : LinksAt w v L) (hn : L.length ≤ 1000000) :
    Calls Try.prog 59 #[gv N v, .int .i64 n] w fun z w' => ∃ u, z = .returned u ∧ IntsAt w' u (sel 0 L n) ∧ (∀ k, u.ownBlock = some k → w.heap.size ≤ k) ∧ Below w.heap.size w w' := by
  have Hb := Lib.hid ((Below.refl w.heap.size w).alloc (Nat.le_refl _) (.cells #[.int .i64 N, v] 25))
  have H := Lib.hid (h.below Hb.out)
  unfold gv
  clear h
  go_enter Try.func59, Try.ntmps59
  go_wp2_with fail
  refine (touching0 N n v L _ H.out hn).mono ?_
  rintro e w' ⟨u, rfl, hi, hlt, hb⟩
  have Hb2 := Lib.hid hb
  have Hi := Lib.hid hi
  have Hlt := Lib.hid hlt
  clear hb hi hlt
  go_wp2_with fail
  go_ret
  exact ⟨_, rfl, Hi.out, fun k hk => by have := Hlt.out k hk; simp at this; omega, below_step (by simp) Hb.out Hb2.out⟩

end Go.Proofs.Ytegpdfocfohkcaa
