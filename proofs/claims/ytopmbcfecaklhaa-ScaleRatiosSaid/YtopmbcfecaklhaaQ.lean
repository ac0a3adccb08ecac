/- Ranks, of any; the document's. -/
import Derived.Test.YtopmbcfecaklhaaO
namespace Go.Proofs.Ytopmbcfecaklhaa
open Go.RowKit Go.PlainAid Go.Sort Go.Shelf Go.Lib

theorem IsRank.unique {xs r s : List Nat} (h1 : IsRank xs r) (h2 : IsRank xs s) : r = s :=
  (h1.1.trans h2.1.symm).eq_of_pairwise (fun _ _ _ _ a b => (a.asymm b).elim) h1.2 h2.2

set_option maxHeartbeats 2000000 in
set_option maxRecDepth 100000 in
theorem rank_none (a : Option Addr) (cap : Nat) (w : World) :
    Calls Try.prog 22 #[.slice a 0 cap] w fun e w' => ∃ u, e = .returned u ∧ IntsAt w' u [] ∧ Below w.heap.size w w' := by
  have hS := Lib.hid (fun p cap fv W => AnyF.slices_SortFunc_none (P := Try.prog) (ρ := Try.sortL_ren) { Try.sortL with } p cap fv W)
  have hmk := make_ints 0 (by omega)
  rw [show ((0 : Nat) : Int) = 0 from rfl] at hmk
  have hb := ((Below.refl w.heap.size w).alloc (Nat.le_refl _) (.cells #[.slice a 0 cap] 29)).alloc (by simp) (.cells (madeCells #[.int .i64 0] 0) 3)
  have Hb := Lib.hid hb
  clear hb
  go_enter Try.func22, Try.ntmps22
  go_wp2_with fail
  refine wp_loop_rounds 1 ?_
  rw [rounds_succ]
  go_wp2_with fail
  refine Calls.mono (hS.out _ _ _ _) ?_
  rintro e w1 ⟨rfl, rfl⟩
  go_wp2_with fail
  go_ret
  exact ⟨_, rfl, .inl ⟨_, _, rfl, rfl⟩, Hb.out⟩

theorem rank_any (v : Value) (xs : List Nat) (w : World) (h : FloatsAt w v xs) (hx : ∀ i, xs.getD i 0 < 18446744073709551616) (hn : xs.length ≤ 1000000) :
    Calls Try.prog 22 #[v] w fun e w' => ∃ u r, e = .returned u ∧ IsRank xs r ∧ IntsAt w' u (r.map Int.ofNat) ∧ Below w.heap.size w w' := by
  rcases h with ⟨a, cap, rfl, rfl⟩ | ⟨b, off, len, cap, rfl, hl, hp, hb, hlc, hc⟩
  · refine (rank_none a cap w).mono ?_
    rintro e w' ⟨u, rfl, h1, h2⟩
    exact ⟨u, [], rfl, ⟨by simp, by simp⟩, h1, h2⟩
  · obtain ⟨m, rfl⟩ : ∃ m, len = m + 1 := ⟨len - 1, by omega⟩
    exact rank_some b off m cap xs w hl hb hc hx (by omega)
end Go.Proofs.Ytopmbcfecaklhaa
