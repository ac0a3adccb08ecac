/- demandsOver, placesOf. -/
import Derived.Test.YtgoioibfecgopaaTbM
namespace Go.Proofs.Ytgoioibfecgopaa
open Go.RowKit Go.PlainAid

theorem run_store_fn (w : World) (a : Addr) (m : Mode) (fn : Fn) (first captured : Array Value) : (store a (.func fn first captured) m).run Try.prog w = stored Try.prog w a (.func fn first captured) m := run_store Try.prog w a _ m rfl
theorem run_store_nilFn (w : World) (a : Addr) (m : Mode) : (store a .nilFunc m).run Try.prog w = stored Try.prog w a .nilFunc m := run_store Try.prog w a _ m rfl
attribute [go_sem] run_store_fn run_store_nilFn
set_option maxHeartbeats 1000000 in
theorem demandsOver_at (N : Int) (v : Value) (L : Lks) (w : World) (h : LinksAt w v L) :
    Calls Try.prog 48 #[gv N v] w fun e w' => ∃ b c, e = .returned (dem b c) ∧ DemAt w' b c L ∧ Below w.heap.size w w' := by
  obtain ⟨a, cap, rfl⟩ := h.at
  have H := Lib.hid h
  clear h
  simp only [gv]
  go_enter Try.func48, Try.ntmps48
  go_wp2_with fail
  obtain ⟨wf, hwf⟩ : ∃ wf, wf = ((((w.alloc (.cells #[.int .i64 N, .slice a (List.length L) cap] 25)).alloc (.cells #[.func (.func 75) #[] #[], .func (.func 76) #[] #[.pointer (some ⟨w.heap.size + 1 + 1, 0, none⟩)], .func (.func 78) #[] #[.pointer (some ⟨w.heap.size + 1 + 1 + 1, 0, none⟩)], .func (.func 80) #[] #[.pointer (some ⟨w.heap.size + 1 + 1 + 1, 0, none⟩)], .func (.func 82) #[] #[]] 120)).alloc (.cells #[fnLinked w.heap.size] 160)).alloc (.cells #[fnGoes (w.heap.size + 1 + 1)] 161)) := ⟨_, rfl⟩
  have b0 : Below w.heap.size w wf := by rw [hwf]; go_grown
  have s0 : wf.cell? ⟨w.heap.size, 0, none⟩ = some (.int .i64 N) := by rw [hwf]; go_cell
  have s1 : wf.cell? ⟨w.heap.size, 1, none⟩ = some (.slice a (List.length L) cap) := by rw [hwf]; go_cell
  have t0 : wf.cell? ⟨w.heap.size + 1 + 1, 0, none⟩ = some (fnLinked w.heap.size) := by rw [hwf]; go_cell
  have t1 : wf.cell? ⟨w.heap.size + 1 + 1 + 1, 0, none⟩ = some (fnGoes (w.heap.size + 1 + 1)) := by rw [hwf]; go_cell
  have d0 : wf.cell? ⟨w.heap.size + 1, 0, none⟩ = some (.func (.func 75) #[] #[]) := by rw [hwf]; go_cell
  have d1 : wf.cell? ⟨w.heap.size + 1, 1, none⟩ = some (.func (.func 76) #[] #[.pointer (some ⟨w.heap.size + 1 + 1, 0, none⟩)]) := by rw [hwf]; go_cell
  have d2 : wf.cell? ⟨w.heap.size + 1, 2, none⟩ = some (.func (.func 78) #[] #[.pointer (some ⟨w.heap.size + 1 + 1 + 1, 0, none⟩)]) := by rw [hwf]; go_cell
  have d3 : wf.cell? ⟨w.heap.size + 1, 3, none⟩ = some (.func (.func 80) #[] #[.pointer (some ⟨w.heap.size + 1 + 1 + 1, 0, none⟩)]) := by rw [hwf]; go_cell
  have d4 : wf.cell? ⟨w.heap.size + 1, 4, none⟩ = some (.func (.func 82) #[] #[]) := by rw [hwf]; go_cell
  unfold fnLinked fnGoes at hwf
  rw [← hwf]
  clear hwf
  refine bodyPost_ret (v := dem (w.heap.size + 1 + 1) (w.heap.size + 1 + 1 + 1)) (by simp [dem, results, Try.results48, go_sem, d0, d1, d2, d3, d4]) rfl ⟨_, _, rfl, ⟨⟨_, t0, ⟨_, _, s0, s1, H.out.below b0⟩⟩, t1⟩, b0⟩
def plOf (x : Nd) (n : Nat) (k : Nat) : List Pl := (x.states.take k).map fun t => ⟨t, n, x.states⟩
theorem infoPl : (Try.prog.info? 130).map (fun i => (i.zero, i.size, i.bytes)) = some (some (.agg #[.int .i64 0, .slice none 0 0, .slice none 0 0, .slice none 0 0, .int .i64 0, .slice none 0 0]), 6, 112) := by kernel_rfl
theorem old_holdsL {lim : Nat} {w w' : World} {v : Value} {cs : List Value} {ds : List D} (h : HasL w cs ds) (hb : Below w.heap.size w w') (hv : ∀ k, v.ownBlock = some k → w.heap.size ≤ k) : HoldsL False (fun k => All k ∧ v.ownBlock ≠ some k ∧ (False → lim ≤ k)) w' cs ds :=
  (h.wide (fun b hb _ => ⟨trivial, fun e => by have := hv b e; omega, fun e => e.elim⟩)).later hb
theorem plOf_succ {x : Nd} {n k : Nat} {t : St} (ht : x.states[k]? = some t) : plOf x n (k + 1) = plOf x n k ++ [⟨t, n, x.states⟩] := by
  unfold plOf
  rw [List.take_add_one, ht]
  simp
theorem plOf_len {x : Nd} {n k : Nat} (h : k ≤ x.states.length) : (plOf x n k).length = k := by unfold plOf; simp; omega

set_option maxHeartbeats 2000000 in
set_option maxRecDepth 100000 in
theorem placesOf_at (M : Tab) (n : Nat) (x : Nd) (v : Value) (w : World) (h : Has w v (dTab M)) (hx : M[n]? = some x) (h6 : x.states.length ≤ 1000000) :
    Calls Try.prog 51 #[v, .int .i64 n] w fun e w' => ∃ u, e = .returned u ∧ Has w' u (dPls (plOf x n x.states.length)) ∧ Below w.heap.size w w' := by
  obtain ⟨i0, hi0, hz0, hz1, hz2⟩ := info_parts infoPl
  obtain ⟨b, off, cap, vs, rfl, hb, hcap, c0, c1, hS⟩ := nd_cells h hx
  obtain ⟨a4, c4, rfl⟩ := slice_of hS
  obtain ⟨ln, hln⟩ : ∃ ln, ln = x.states.length := ⟨_, rfl⟩
  obtain ⟨tl, htl⟩ : ∃ tl, tl = M.length := ⟨_, rfl⟩
  have hnt : n < tl := by rw [htl]; exact lt_of_some hx
  have hnt' : (n : Int) < tl := by omega
  have H := Lib.hid h
  have Hx := Lib.hid hx
  rw [← hln] at c1 h6 ⊢
  rw [← htl] at H ⊢
  have Ln := Lib.hid hln
  clear h hx hS hln htl hcap c0
  go_enter Try.func51, Try.ntmps51
  go_wp2_with fail
  go_loopw [5, 13] (fun q i wr => ∃ k : Nat, i = .int .i64 k ∧ k ≤ ln ∧ Own False All 130 6 w wr.heap.size wr q ((plOf x n k).map Pl.d)) (fun _ i _ => ln - (intOf i).toNat)
  case atStart => exact ⟨0, rfl, by omega, Own.nil (Below.refl _ _)⟩
  case round =>
    rename Value => q
    obtain ⟨k, rfl, hk, hO⟩ := hrel
    have O := Lib.hid hO
    have BB := Lib.hid hO.bel
    have hge := hO.ge
    obtain ⟨qa, qc, hqs⟩ := hO.slice
    rw [List.length_map, plOf_len (by rw [← Ln.out]; exact hk)] at hqs
    clear hO
    by_cases hlt : k < ln
    · have hlt' : (k : Int) < ln := by omega
      obtain ⟨t, ht⟩ := some_of_lt (l := x.states) (i := k) (by rw [← Ln.out]; exact hlt)
      have Ht := Lib.hid ht
      have Hge := Lib.hid (fun k hk => (hge k hk).1)
      clear ht hge
      subst hqs
      go_wp2_with fail
      refine (placeOf_in M n k _ w _ H.out BB.out).mono ?_
      rintro e w2 ⟨u, rfl, hu, hb2⟩
      rw [plAt_of Hx.out Ht.out] at hu
      obtain ⟨cs, rfl, hcs⟩ := hu
      obtain ⟨v1, v2, v3, v4, rfl, _⟩ := hasL_pl hcs
      have C := Lib.hid hcs
      have B2 := Lib.hid hb2
      have O2 := Lib.hid (O.out.later hb2)
      have BW := Lib.hid (below_step BB.out.size BB.out hb2)
      have O3 := Lib.hid (O2.out.later (below_new w2 (.cells #[.int .i64 t.mode, v1, v2, v3, .int .i64 n, v4] 130)))
      clear hcs hb2
      go_wp2_with (at_builtin; go_loud (refine app_own rfl _ _ 124 130 i0 _ 6 112 rfl Try.underlying124 hi0 hz0 hz1 hz2 rfl (by decide) False All w _ _ _ [Pl.d ⟨t, n, x.states⟩] k 1 1 rfl O3.out ?c1 ⟨w2.heap.size, 0, none⟩ rfl [.int .i64 t.mode, v1, v2, v3, .int .i64 n, v4] ?c2 ?c3 rfl ?c4 ?c5 ?c6 ?_))
      case c1 => rw [List.length_map, plOf_len (by rw [← Ln.out]; omega)]
      case c2 =>
        intro j u hj
        rw [Go.WideShapes.add_plain, Nat.zero_add, World.cell?_alloc_at _ _ _ _ rfl]
        rw [List.getElem?_toArray]; exact hj
      case c3 => intro ds hds; simp at hds; rw [hds]; rfl
      case c4 =>
        have := old_holdsL (lim := wr.heap.size) (v := .slice qa k qc) C.out BW.out Hge.out
        rw [List.flatten_cons, List.flatten_nil, List.append_nil]
        exact HoldsL.later this (below_new _ _)
      case c5 => unfold maxLen; omega
      case c6 => omega
      intro ao cv w3 hO3 _
      have e3 : (plOf x n k).map Pl.d ++ [Pl.d ⟨t, n, x.states⟩] = (plOf x n (k + 1)).map Pl.d := by rw [plOf_succ Ht.out, List.map_append]; rfl
      rw [e3] at hO3
      have O4 := Lib.hid hO3
      clear hO3 e3
      go_wp2_with fail
      go_roundw
      case rel => exact ⟨k + 1, by go_num, by omega, O4.out⟩
      case measure => simp [intOf]; omega
    · have hlt' : ¬ (k : Int) < ln := by omega
      obtain rfl : k = ln := by omega
      clear hge
      subst hqs
      go_wp2_with fail
      go_ret
      refine ⟨_, rfl, ?_, BB.out⟩
      have := O.out.holds (fun _ _ => trivial)
      rw [Ln.out] at this ⊢
      exact this
end Go.Proofs.Ytgoioibfecgopaa
