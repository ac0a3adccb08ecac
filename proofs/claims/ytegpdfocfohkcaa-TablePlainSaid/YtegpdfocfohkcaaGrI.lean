/- Full, of both. -/
import Derived.Test.YtegpdfocfohkcaaGrH
namespace Go.Proofs.Ytegpdfocfohkcaa
open Go.RowKit Go.PlainAid

def flat (L : Lks) : List Value := L.flatMap fun p => [.int .i64 p.1, .int .i64 p.2]
theorem flat_length (L : Lks) : (flat L).length = L.length * 2 := by
  unfold flat
  induction L with
  | nil => rfl
  | cons p r ih => simp only [List.flatMap_cons, List.length_append, ih, List.length_cons, List.length_nil]; omega
theorem flat_append (L M : Lks) : flat (L ++ M) = flat L ++ flat M := by unfold flat; rw [List.flatMap_append]
theorem flat_get : ∀ (L : Lks) (i : Nat), i < L.length → (flat L)[i * 2]? = some (.int .i64 (lk L i).1) ∧ (flat L)[i * 2 + 1]? = some (.int .i64 (lk L i).2)
  | [], i, h => by simp at h
  | p :: r, 0, _ => by simp [flat, lk]
  | p :: r, i + 1, h => by
    have ih := flat_get r i (by simpa using h)
    have e1 : flat (p :: r) = .int .i64 p.1 :: .int .i64 p.2 :: flat r := rfl
    have e2 : lk (p :: r) (i + 1) = lk r i := by simp [lk]
    rw [e1, e2]
    refine ⟨?_, ?_⟩
    · rw [show (i + 1) * 2 = i * 2 + 1 + 1 by omega, List.getElem?_cons_succ, List.getElem?_cons_succ]; exact ih.1
    · rw [show (i + 1) * 2 + 1 = i * 2 + 1 + 1 + 1 by omega, List.getElem?_cons_succ, List.getElem?_cons_succ]; exact ih.2
theorem LinksAt.owns {w : World} {base : Nat} {e : TypeId} {v : Value} {L : Lks} (h : w.ownsRow base e 2 v L.length (flat L)) : LinksAt w v L := by
  by_cases hx : L.length = 0
  · obtain ⟨ao, cap, rfl⟩ := owns_slice h
    exact .inl ⟨ao, cap, by rw [hx], List.length_eq_zero_iff.1 hx⟩
  · have hc := fun g => h.cells (g := g)
    rcases h.2 with ⟨_, h0⟩ | ⟨g, cap, cur, rfl, _, hg, hle, _⟩
    · omega
    · refine .inr ⟨g, 0, L.length, cap, rfl, rfl, by omega, lt_of_block hg, hle, fun i hi => ?_⟩
      have e : ∀ j, (⟨g, 0, none⟩ : Addr).add j = ⟨g, 0 + j, none⟩ := fun j => by unfold Addr.add; split <;> simp_all
      have a1 := hc g rfl (i * 2) _ (flat_get L i hi).1
      have a2 := hc g rfl (i * 2 + 1) _ (flat_get L i hi).2
      rw [e] at a1 a2
      exact ⟨a1, by rw [Nat.add_assoc]; exact a2⟩

theorem infoPair : (Try.prog.info? 96).map (fun i => (i.zero, i.size, i.bytes)) = some (some (.agg #[.int .i64 0, .int .i64 0]), 2, 16) := by kernel_rfl

/-- The links from a, to nodes below b. -/
def rowL (a b : Nat) : Lks := ((List.range b).filter (fun x : Nat => x != a)).map fun x : Nat => ((a : Int), (x : Int))
/-- All links from nodes below a. -/
def fullL (N a : Nat) : Lks := (List.range a).flatMap fun x => rowL x N
theorem rowL_succ (a b : Nat) : rowL a (b + 1) = if b = a then rowL a b else rowL a b ++ [((a : Int), (b : Int))] := by
  unfold rowL
  rw [List.range_succ, List.filter_append, List.map_append]
  by_cases h : b = a <;> simp [h]
theorem fullL_succ (N a : Nat) : fullL N (a + 1) = fullL N a ++ rowL a N := by
  unfold fullL
  rw [List.range_succ, List.flatMap_append]; simp
theorem rowL_len (a b : Nat) : (rowL a b).length ≤ b := by
  unfold rowL
  rw [List.length_map]
  exact Nat.le_trans (List.length_filter_le _ _) (by simp)
theorem fullL_len (N : Nat) : ∀ a, (fullL N a).length ≤ a * N
  | 0 => by simp [fullL]
  | a + 1 => by
    rw [fullL_succ, List.length_append]
    have := fullL_len N a
    have := rowL_len a N
    rw [Nat.add_mul]; omega

/-- A block of two cells that may be written. -/
def Box (w : World) (g : Nat) (x y : Value) : Prop :=
  w.cell? ⟨g, 0, none⟩ = some x ∧ w.cell? ⟨g, 1, none⟩ = some y ∧ w.frozen? ⟨g, 0, none⟩ = false ∧ w.frozen? ⟨g, 1, none⟩ = false
theorem Box.kept {w w' : World} {g : Nat} {x y : Value} {row : Option Nat} (h : Box w g x y) (hg : w.grownBy w' row) (hne : some g ≠ row) : Box w' g x y := by
  have hb : g < w.heap.size := World.block_lt_of_cell? w _ h.1
  have hk := hg.block g hb hne
  exact ⟨(World.cell?_of_block (by exact hk)).trans h.1, (World.cell?_of_block (by exact hk)).trans h.2.1, (World.frozen?_of_block (by exact hk)).trans h.2.2.1, (World.frozen?_of_block (by exact hk)).trans h.2.2.2⟩
theorem Box.below {w w' : World} {g : Nat} {x y : Value} (h : Box w g x y) (hb : Below w.heap.size w w') : Box w' g x y :=
  h.kept (row := none) ⟨hb.os, hb.tape, hb.output, hb.size, fun k hk _ => hb.block k hk⟩ (by simp)

/-- The graph so far: its box, the row of its links, and the answer's box. -/
structure GHead (w : World) (N : Int) (wr : World) (v : Value) (X : Lks) : Prop where
  row : wr.ownsRow (w.heap.size + 2) 96 2 v X.length (flat X)
  bel : Below w.heap.size w wr
  size : w.heap.size + 2 ≤ wr.heap.size
  box : Box wr (w.heap.size + 1) (.int .i64 N) v
  ans : Box wr w.heap.size (.int .i64 0) (.slice none 0 0)

theorem cells_two (w : World) (t : TypeId) (x y : Value) : ∀ j u, [x, y][j]? = some u → (w.alloc (.cells #[x, y] t)).cell? ((⟨w.heap.size, 0, none⟩ : Addr).add j) = some u := by
  intro j u hu
  match j with
  | 0 => simp at hu; subst hu; exact World.cell?_alloc_at _ _ _ _ rfl
  | 1 => simp at hu; subst hu; exact World.cell?_alloc_at _ _ _ _ rfl
  | j + 2 => simp at hu
theorem Box.set {w : World} {g : Nat} {x y : Value} (h : Box w g x y) (u : Value) : Box (w.setCell ⟨g, 1, none⟩ u) g x u :=
  ⟨(World.cell?_setCell_other w _ _ _ (by simp)).trans h.1, World.cell?_setCell_same w _ _ h.2.1, by rw [World.frozen?_setCell]; exact h.2.2.1, by rw [World.frozen?_setCell]; exact h.2.2.2⟩
theorem Box.other {w : World} {g g' : Nat} {x y : Value} (h : Box w g x y) (u : Value) (o : Nat) (hne : g ≠ g') : Box (w.setCell ⟨g', o, none⟩ u) g x y :=
  ⟨(World.cell?_setCell_other w _ _ _ (by simp <;> omega)).trans h.1, (World.cell?_setCell_other w _ _ _ (by simp <;> omega)).trans h.2.1, by rw [World.frozen?_setCell]; exact h.2.2.1, by rw [World.frozen?_setCell]; exact h.2.2.2⟩

theorem Box.fill {w : World} {g : Nat} {x y : Value} (h : Box w g x y) (u u' : Value) : Box ((w.setCell ⟨g, 0, none⟩ u).setCell ⟨g, 1, none⟩ u') g u u' := by
  have h1 : Box (w.setCell ⟨g, 0, none⟩ u) g u y :=
    ⟨World.cell?_setCell_same w _ _ h.1, (World.cell?_setCell_other w _ _ _ (by simp)).trans h.2.1, by rw [World.frozen?_setCell]; exact h.2.2.1, by rw [World.frozen?_setCell]; exact h.2.2.2⟩
  exact h1.set u'

theorem GHead.more {w wr w1 : World} {N : Int} {v v1 : Value} {X : Lks} {o : Obj} {p : Int × Int} (h : GHead w N wr v X)
    (hown : w1.ownsRow (w.heap.size + 2) 96 2 v1 (X.length + 1) (flat X ++ [.int .i64 p.1, .int .i64 p.2])) (hg : (wr.alloc o).grownBy w1 v.ownBlock) :
    Box w1 (w.heap.size + 1) (.int .i64 N) v ∧ GHead w N (w1.setCell ⟨w.heap.size + 1, 1, none⟩ v1) v1 (X ++ [p]) := by
  have hlt := h.row.lt
  have hb := h.box.below ((Below.refl _ wr).alloc (Nat.le_refl _) o)
  have ha := h.ans.below ((Below.refl _ wr).alloc (Nat.le_refl _) o)
  have n1 : some (w.heap.size + 1) ≠ v.ownBlock := fun e => by have := (hlt _ e.symm).1; omega
  have n0 : some w.heap.size ≠ v.ownBlock := fun e => by have := (hlt _ e.symm).1; omega
  have b1 := hb.kept hg n1
  have a1 := ha.kept hg n0
  have bel : Below w.heap.size w w1 := (h.bel.alloc (by have := h.size; omega) o).grown hg (by have := h.size; simp; omega) (fun k hk => by have := (hlt k hk).1; omega)
  refine ⟨b1, ?_, bel.setCell (by simp) _, ?_, b1.set _, a1.other _ _ (by omega)⟩
  · rw [List.length_append, flat_append]
    exact ownsRow_setCell_below hown (by simp) _
  · have := hg.size
    have := h.size
    simp at *; omega

theorem GHead.done {w wr : World} {N : Int} {v : Value} {X : Lks} (h : GHead w N wr v X) :
    ∃ we, we = (wr.setCell ⟨w.heap.size, 0, none⟩ (.int .i64 N)).setCell ⟨w.heap.size, 1, none⟩ v ∧ Box we w.heap.size (.int .i64 N) v ∧ LinksAt we v X ∧ Below w.heap.size w we :=
  ⟨_, rfl, h.ans.fill _ _, LinksAt.owns (ownsRow_setCell_below (ownsRow_setCell_below h.row (by simp) _) (by simp) _), (h.bel.setCell (by simp) _).setCell (by simp) _⟩

set_option maxHeartbeats 2000000 in
set_option maxRecDepth 100000 in
theorem full_any (n M : Int) (N : Nat) (w : World) (h1 : (if n < 1 then (1 : Int) else n) = M) (h2 : (if 6 < M then (6 : Int) else M) = (N : Int)) (hN6 : N ≤ 6) :
    Calls Try.prog 35 #[.int .i64 n] w fun e w' => ∃ v, e = .returned (gv N v) ∧ LinksAt w' v (fullL N N) ∧ Below w.heap.size w w' := by
  obtain ⟨i0, hi0, hz0, hz1, hz2⟩ := info_parts infoPair
  have hst : GHead w N ((w.alloc (.cells #[.int .i64 0, .slice none 0 0] 25)).alloc (.cells #[.int .i64 N, .slice none 0 0] 25)) (.slice none 0 0) (fullL N 0) := by
    refine ⟨World.ownsRow_nil _ _ _ _, by go_grown, by simp, ⟨?_, ?_, ?_, ?_⟩, ⟨?_, ?_, ?_, ?_⟩⟩
    all_goals go_cell
  have Hst := Lib.hid hst
  clear hst
  go_enter Try.func35, Try.ntmps35
  go_wp2_with fail
  clear h1 h2
  generalize hww : (w.alloc (.cells #[.int .i64 0, .slice none 0 0] 25)).alloc (.cells #[.int .i64 N, .slice none 0 0] 25) = ww
  rw [hww] at Hst
  clear hww
  go_loopw [12] (fun i wr => ∃ k : Nat, i = .int .i64 k ∧ k ≤ N ∧ ∃ v, GHead w N wr v (fullL N k)) (fun i _ => N - (intOf i).toNat)
  case atStart => exact ⟨0, rfl, by omega, _, Hst.out⟩
  case round =>
    obtain ⟨k, rfl, hk, v, hG⟩ := hrel
    obtain ⟨wo, hwo⟩ : ∃ wo, wo = wr := ⟨_, rfl⟩
    rw [← hwo] at hG ⊢
    have HG := Lib.hid hG
    have c0 := hG.box.1
    have c1 := hG.box.2.1
    have d0 := hG.ans.2.2.1
    have d1 := hG.ans.2.2.2
    have d2 := hG.ans.1
    have d3 := hG.ans.2.1
    clear hG hwo
    by_cases hlt : k < N
    · have hlt' : (k : Int) < N := by omega
      go_wp2_with fail
      go_loopw [17] (fun i wr => ∃ j : Nat, i = .int .i64 j ∧ j ≤ N ∧ ∃ v, GHead w N wr v (fullL N k ++ rowL k j)) (fun i _ => N - (intOf i).toNat)
      case atStart => exact ⟨0, rfl, by omega, _, by rw [show rowL k 0 = [] from rfl, List.append_nil]; exact HG.out⟩
      case round =>
        obtain ⟨j, rfl, hj, v2, hG2⟩ := hrel
        obtain ⟨X, hX⟩ : ∃ X, X = fullL N k ++ rowL k j := ⟨_, rfl⟩
        rw [← hX] at hG2
        have HX := Lib.hid hX
        have HG2 := Lib.hid hG2
        have e0 := hG2.box.1
        have e1 := hG2.box.2.1
        have hlen : X.length ≤ 64 := by
          rw [hX, List.length_append]
          have := fullL_len N k
          have := rowL_len k j
          have : k * N ≤ 5 * 6 := Nat.mul_le_mul (by omega) hN6
          omega
        have hsz := hG2.size
        clear hG2 hX
        by_cases hjt : j < N
        · have hjt' : (j : Int) < N := by omega
          by_cases hjk : j = k
          · subst hjk
            have hnext : GHead w N wr v2 (fullL N j ++ rowL j (j + 1)) := by rw [rowL_succ, if_pos rfl, ← HX.out]; exact HG2.out
            have Hnext := Lib.hid hnext
            clear hnext
            go_wp2_with fail
            go_roundw
            case rel => exact ⟨j + 1, by go_num, by omega, _, Hnext.out⟩
            case measure => simp [intOf]; omega
          · have hne : ((k : Int) != (j : Int)) = true := by rw [bne_iff_ne]; omega
            obtain ⟨ao, cv, rfl⟩ := owns_slice HG2.out.row
            have Hlen := Lib.hid hlen
            clear hlen
            go_wp2_with (at_builtin; refine wpList_append_own _ rfl _ _ 23 rfl (w.heap.size + 2) 96 i0 (.agg #[.int .i64 0, .int .i64 0]) 2 16 Try.underlying23 hi0 hz0 hz1 hz2 rfl (by decide) _ _ _ rfl (HG2.out.row.alloc _) ⟨wr.heap.size, 0, none⟩ 1 1 [.int .i64 (k : Int), .int .i64 (j : Int)] rfl rfl ?c1 ?c2 ?c3 ?c4 ?c5 ?_)
            case c1 => exact cells_two wr _ _ _
            case c2 => intro u hu; simp at hu; rcases hu with rfl | rfl <;> rfl
            case c3 => unfold maxLen; have := Hlen.out; omega
            case c4 => have := Hlen.out; omega
            case c5 => first | omega | (simp; omega)
            intro v1 w1 hown1 hg1 _
            obtain ⟨ao1, cv1, rfl⟩ := owns_slice hown1
            obtain ⟨hbx, hnext0⟩ := HG2.out.more (p := ((k : Int), (j : Int))) hown1 hg1
            have b0 := hbx.1
            have b1 := hbx.2.1
            have b2 := hbx.2.2.2
            have hnext : GHead w N (w1.setCell ⟨w.heap.size + 1, 1, none⟩ (.slice ao1 (X.length + 1) cv1)) (.slice ao1 (X.length + 1) cv1) (fullL N k ++ rowL k (j + 1)) := by
              rw [rowL_succ, if_neg hjk, ← List.append_assoc, ← HX.out]; exact hnext0
            have Hnext := Lib.hid hnext
            clear hown1 hg1 hbx hnext0 hnext
            go_wp2_with fail
            go_roundw
            case rel => exact ⟨j + 1, by go_num, by omega, _, Hnext.out⟩
            case measure => simp [intOf]; omega
        · have hjt' : ¬ (j : Int) < N := by omega
          obtain rfl : j = N := by omega
          have hnext : GHead w j wr v2 (fullL j (k + 1)) := by rw [fullL_succ, ← HX.out]; exact HG2.out
          have Hnext := Lib.hid hnext
          clear hnext
          go_wp2_with fail
          go_roundw
          case rel => exact ⟨k + 1, by go_num, by omega, _, Hnext.out⟩
          case measure => simp [intOf]; omega
    · have hlt' : ¬ (k : Int) < N := by omega
      obtain rfl : k = N := by omega
      obtain ⟨ao, cv, rfl⟩ := owns_slice HG.out.row
      go_wp2_with fail
      obtain ⟨we, hwe, hbox, hL, hbel⟩ := HG.out.done
      rw [← hwe]
      have e0 := hbox.1
      have e1 := hbox.2.1
      refine bodyPost_ret (v := .agg #[.int .i64 (k : Int), .slice ao (fullL k k).length cv]) (by simp [results, Try.results35, go_sem, e0, e1]) rfl ⟨_, rfl, hL, hbel⟩

end Go.Proofs.Ytegpdfocfohkcaa
