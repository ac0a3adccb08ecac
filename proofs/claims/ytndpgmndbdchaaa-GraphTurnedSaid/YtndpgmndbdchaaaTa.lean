/- Links in another order. -/
import Derived.Test.YtndpgmndbdchaaaLa
namespace Go.Proofs.Ytndpgmndbdchaaa
open Go.RowKit Go.PlainAid

/-- The first links of the turned ones. -/
def tl (M : Lks) (k j : Nat) : Lks := (List.range j).map fun i => lk M ((M.length - 1 - i + k) % M.length)
theorem tl_len (M : Lks) (k j : Nat) : (tl M k j).length = j := by simp [tl]
theorem tl_succ (M : Lks) (k j : Nat) : tl M k (j + 1) = tl M k j ++ [lk M ((M.length - 1 - j + k) % M.length)] := by
  unfold tl; rw [List.range_succ, List.map_append]; rfl
theorem tl_perm {M : Lks} {k : Nat} (hk : k < M.length ∨ M.length = 0) : (tl M k M.length).Perm M := by
  rcases hk with hk | h0
  · have e : tl M k M.length = (M.drop k ++ M.take k).reverse := by
      apply List.ext_getElem?
      intro i
      by_cases hi : i < M.length
      · have hl : (M.drop k ++ M.take k).length = M.length := by rw [List.length_append, List.length_drop, List.length_take]; omega
        rw [List.getElem?_reverse (by rw [hl]; exact hi), hl]
        have hm : (M.length - 1 - i + k) % M.length < M.length := Nat.mod_lt _ (by omega)
        have e1 : (tl M k M.length)[i]? = M[(M.length - 1 - i + k) % M.length]? := by
          unfold tl
          rw [List.getElem?_map, List.getElem?_range hi]
          simp [lk, List.getD, hm]
        rw [e1, List.getElem?_append]
        simp only [List.length_drop]
        split
        · next h1 =>
          rw [List.getElem?_drop, Nat.mod_eq_of_lt (by omega)]
          congr 1; omega
        · next h1 =>
          rw [List.getElem?_take, if_pos (by omega), Nat.mod_eq_sub_mod (by omega), Nat.mod_eq_of_lt (by omega)]
          congr 1; omega
      · rw [List.getElem?_eq_none (by rw [tl_len]; omega), List.getElem?_eq_none (by simp; omega)]
    rw [e]
    exact (List.reverse_perm _).trans (List.perm_append_comm.trans (by rw [List.take_append_drop]))
  · have : M = [] := List.length_eq_zero_iff.1 h0
    subst this
    exact List.Perm.refl _
theorem right_perm {N : Int} {L M : Lks} (h : L.Perm M) (hG : RightG N M) : RightG N L := by
  refine ⟨hG.1, hG.2.1, by rw [h.length_eq]; exact hG.2.2.1, ⟨h.nodup_iff.2 hG.2.2.2.1.nodup, fun p hp => hG.2.2.2.1.inr p (h.mem_iff.1 hp), fun p hp => hG.2.2.2.1.irr p (h.mem_iff.1 hp), fun p hp => h.mem_iff.2 (hG.2.2.2.1.sym p (h.mem_iff.1 hp))⟩, fun y hy => ?_⟩
  obtain ⟨k, hk⟩ := hG.2.2.2.2 y hy
  exact ⟨k, way_mono (fun p hp => h.mem_iff.2 hp) hk⟩
theorem far_perm {L M : Lks} (h : L.Perm M) {k : Nat} {a b : Int} (hf : Far M k a b) : Far L k a b :=
  ⟨way_mono (fun _ hp => h.mem_iff.2 hp) hf.1, fun j hj hw => hf.2 j hj (way_mono (fun _ hp => h.mem_iff.1 hp) hw)⟩
theorem isDist_perm {n : Nat} {L M : Lks} {a : Int} {D : List Int} (h : L.Perm M) (hD : IsDist n M a D) : IsDist n L a D := by
  refine ⟨hD.1, fun y hy => ?_⟩
  rcases hD.2 y hy with ⟨k, h1, h2⟩ | ⟨h1, h2⟩
  · exact .inl ⟨k, h1, far_perm h h2⟩
  · exact .inr ⟨h1, fun k hw => h2 k (way_mono (fun p hp => h.mem_iff.1 hp) hw)⟩

/-- Either order of links. -/
def Two (L M : Lks) (w : World) (v : Value) : Prop := LinksAt w v L ∨ LinksAt w v M
theorem Two.below {L M : Lks} {w w' : World} {v : Value} (h : Two L M w v) (hb : Below w.heap.size w w') : Two L M w' v := by
  rcases h with h | h
  · exact .inl (h.below hb)
  · exact .inr (h.below hb)
theorem right_two {N : Int} {L M : Lks} (h : L.Perm M) {r : Bool} (hr : r = true ↔ RightG N M) (hW : ∀ p ∈ M, wfp p) (v : Value) (w : World) (ht : Two L M w v) :
    Calls Try.prog 11 #[gv N v] w fun e w' => e = .returned (.bool r) ∧ Below w.heap.size w w' := by
  rcases ht with g | g
  · exact right_at N v L r w g (fun p hp => hW p (h.mem_iff.1 hp)) (hr.trans ⟨right_perm h, right_perm h.symm⟩)
  · exact right_at N v M r w g hW hr
theorem dist_two {N : Nat} {L M : Lks} (h : L.Perm M) (hR : InR N M) (h1 : 1 ≤ N) (h6 : N ≤ 6) (hn : M.length ≤ 1000000) (n : Int) :
    ∃ D : List Int, D.length ≤ 6 ∧ ∀ v w, Two L M w v → Calls Try.prog 27 #[gv N v, .int .i64 n] w fun e w' => ∃ s c, e = .returned (.slice s D.length c) ∧ IntsAt w' (.slice s D.length c) D ∧ Below w.heap.size w w' := by
  have hRL : InR N L := fun p hp => hR p (h.mem_iff.1 hp)
  have hnL : L.length ≤ 1000000 := by rw [h.length_eq]; exact hn
  by_cases hin : 0 ≤ n ∧ n < N
  · obtain ⟨a, rfl⟩ : ∃ a : Nat, n = (a : Int) := ⟨n.toNat, by omega⟩
    obtain ⟨D, hD⟩ := isDist_ex N a M
    refine ⟨D, by rw [hD.1]; exact h6, fun v w ht => ?_⟩
    rcases ht with g | g
    · exact dists_at N a v L D w g hRL h1 h6 (by omega) hnL (isDist_perm h hD)
    · exact dists_at N a v M D w g hR h1 h6 (by omega) hn hD
  · refine ⟨[], by simp, fun v w _ => ?_⟩
    refine (dist_out N n v w hin).mono ?_
    rintro e w' ⟨u, rfl, hi, hb⟩
    obtain ⟨s, c, rfl⟩ := intsAt_slice hi
    exact ⟨s, c, rfl, hi, hb⟩
theorem out_two {N : Int} {L M : Lks} (h : L.Perm M) (hn : M.length ≤ 1000000) (n : Int) :
    ∃ m : Nat, m ≤ 1000000 ∧ ∀ v w, Two L M w v → Calls Try.prog 19 #[gv N v, .int .i64 n] w fun e w' => ∃ s c, e = .returned (.slice s m c) ∧ Below w.heap.size w w' := by
  have hnL : L.length ≤ 1000000 := by rw [h.length_eq]; exact hn
  have hl : (sel 0 L n).length = (sel 0 M n).length := by rw [sel_count, sel_count]; exact h.countP_eq _
  refine ⟨(sel 0 M n).length, Nat.le_trans (selL_length _ _) hn, fun v w ht => ?_⟩
  rcases ht with g | g
  · refine (outs_at N n v L _ w g hnL rfl).mono ?_
    rintro e w' ⟨s, c, rfl, _, hb⟩
    rw [hl]; exact ⟨s, c, rfl, hb⟩
  · refine (outs_at N n v M _ w g hn rfl).mono ?_
    rintro e w' ⟨s, c, rfl, _, hb⟩
    exact ⟨s, c, rfl, hb⟩

theorem Row.below {wb w w' : World} {v : Value} {X : Lks} (h : Row wb w v X) (hb : Below w.heap.size w w') : Row wb w' v X :=
  ⟨below_step h.bel.size h.bel hb, h.own.kept (row := none) ⟨hb.os, hb.tape, hb.output, hb.size, fun k hk _ => hb.block k hk⟩ (by cases hv : v.ownBlock <;> simp)⟩
theorem app_step {ops : Array Oper} {o : Oper} {a : Act} {K : Act → World → Prop} {Q : Exit → Act → World → Prop} {E : Prop} {w : World} (hgd : o.guard = none) (s x : Operand)
    (ho : o.op = .call { callee := .builtin .append, args := #[s, x], argTypes := #[22, 22] })
    (wb : World) (v : Value) (X Y : Lks) (n m k : Nat) (hn : X.length = n) (hm : Y.length = m) (hk : n + m = k) (hs : a.eval s = v) (hrow : Row wb w v X) (ad : Addr) (c : Nat) (hx : a.eval x = .slice (some ad) m c)
    (hY : LinksAt w (.slice (some ad) m c) Y) (hlen : k ≤ 1000)
    (h : ∀ ao cv w', Row wb w' (.slice ao k cv) (X ++ Y) → K (a.put o.dst (.slice ao k cv)) w') : if Region.wanted o (yielded ops a.tmps) = true then Oper.wp Try.prog o a w K Q else E := by
  have hw : Region.wanted o (yielded ops a.tmps) = true := by simp [Region.wanted, hgd]
  rw [if_pos hw]
  obtain ⟨i0, hi0, hz0, hz1, hz2⟩ := info_parts infoPair
  subst hk hn hm
  refine wp_append_own w s x 22 ho wb.heap.size 43 i0 (.agg #[.int .i64 0, .int .i64 0]) 2 16 Try.underlying22 hi0 hz0 hz1 hz2 rfl (by decide) v _ _ hs hrow.own ad _ c (flat Y) hx (flat_length Y) (news_of hY) (flat_cells Y) (by unfold maxLen; omega) (by omega) hrow.bel.size ?_
  intro v' w' hown hg _
  have hl : (X ++ Y).length = X.length + Y.length := List.length_append
  have hr : Row wb w' v' (X ++ Y) := ⟨hrow.bel.grown hg hrow.bel.size (fun k hk => (hrow.own.lt k hk).1), by rw [hl, flat_append]; exact hown⟩
  obtain ⟨ao, cv, rfl⟩ := owns_slice hown
  exact h ao cv w' hr
end Go.Proofs.Ytndpgmndbdchaaa
