/- Graphs with links taken out and put in; rows of links that grow. -/
import Derived.Test.YtndpgmndbdchaaaFa
namespace Go.Proofs.Ytndpgmndbdchaaa
open Go.RowKit Go.PlainAid

theorem mem_cut {M : Lks} {k : Nat} {q : Int × Int} : q ∈ M.take k ++ M.drop (k + 1) ↔ ∃ j, j < M.length ∧ j ≠ k ∧ lk M j = q := by
  have hg : ∀ j, M[j]? = some q → j < M.length ∧ lk M j = q := fun j h => by
    have hl := (List.getElem?_eq_some_iff.1 h).1
    exact ⟨hl, by simp [lk, List.getD, h]⟩
  have hb : ∀ j, j < M.length → lk M j = q → M[j]? = some q := fun j h e => by
    rw [← e]; simp [lk, List.getD, h]
  rw [List.mem_append]
  constructor
  · rintro (h | h)
    · obtain ⟨j, hj⟩ := List.mem_iff_getElem?.1 h
      rw [List.getElem?_take] at hj
      split at hj
      · next hk => exact ⟨j, (hg j hj).1, by omega, (hg j hj).2⟩
      · cases hj
    · obtain ⟨j, hj⟩ := List.mem_iff_getElem?.1 h
      rw [List.getElem?_drop] at hj
      exact ⟨k + 1 + j, (hg _ hj).1, by omega, (hg _ hj).2⟩
  · rintro ⟨j, hj, hne, he⟩
    rcases Nat.lt_or_ge j k with g | g
    · refine .inl (List.mem_iff_getElem?.2 ⟨j, ?_⟩)
      rw [List.getElem?_take, if_pos g]; exact hb j hj he
    · refine .inr (List.mem_iff_getElem?.2 ⟨j - (k + 1), ?_⟩)
      rw [List.getElem?_drop, show k + 1 + (j - (k + 1)) = j by omega]; exact hb j hj he
theorem less_not {N : Int} {M : Lks} (h : RightG N M) {k : Nat} (hk : k < M.length) : ¬ RightG N (M.take k ++ M.drop (k + 1)) := by
  intro h'
  obtain ⟨b, hb, hne, he, _⟩ := back_of h.2.2.2.1 hk
  have := h'.2.2.2.1.sym _ (mem_cut.2 ⟨b, hb, hne, he⟩)
  obtain ⟨j, hj, hjk, hje⟩ := mem_cut.1 this
  exact hjk (lk_inj h.2.2.2.1.nodup hj hk hje)
theorem twice_not {N : Int} {M : Lks} {k : Nat} (hk : k < M.length) : ¬ RightG N (M ++ [lk M k]) := by
  intro h'
  have := (List.nodup_append.1 h'.2.2.2.1.nodup).2.2 _ (lk_mem hk) (lk M k) (by simp)
  exact this rfl
theorem way_mono {L L' : Lks} (h : ∀ p ∈ L, p ∈ L') : ∀ {k : Nat} {a b : Int}, Way L k a b → Way L' k a b := by
  intro k
  induction k with
  | zero => intro a b hw; exact hw
  | succ k ih => intro a b ⟨c, hc, hm⟩; exact ⟨c, ih hc, h _ hm⟩
theorem more_iff {N : Nat} {M : Lks} (h : RightG N M) {a b : Nat} (ha : a < N) (hb : b < N) :
    RightG N (M ++ [((a : Int), (b : Int))] ++ [((b : Int), (a : Int))]) ↔ a ≠ b ∧ ((a : Int), (b : Int)) ∉ M := by
  have hR := h.2.2.2.1
  constructor
  · intro h'
    have h2 := h'.2.2.2.1
    have e1 := h2.irr ((a : Int), (b : Int)) (by simp)
    have e2 := (List.nodup_append.1 (List.nodup_append.1 h2.nodup).1).2.2
    exact ⟨fun e => e1 (by simp [e]), fun hm => e2 _ hm ((a : Int), (b : Int)) (by simp) rfl⟩
  · rintro ⟨hne, hnm⟩
    have hnm' : ((b : Int), (a : Int)) ∉ M := fun hm => hnm (hR.sym _ hm)
    have hi : ∀ p ∈ M ++ [((a : Int), (b : Int))] ++ [((b : Int), (a : Int))], p ∈ M ∨ p = ((a : Int), (b : Int)) ∨ p = ((b : Int), (a : Int)) := fun p hp => by
      simpa [or_assoc] using hp
    have hrg : RG N (M ++ [((a : Int), (b : Int))] ++ [((b : Int), (a : Int))]) := by
      refine ⟨?_, ?_, ?_, ?_⟩
      · refine List.nodup_append.2 ⟨List.nodup_append.2 ⟨hR.nodup, by simp, fun p hp q hq e => ?_⟩, by simp, fun p hp q hq e => ?_⟩
        · simp at hq; subst hq; subst e; exact hnm hp
        · simp at hq; subst hq; subst e
          rcases List.mem_append.1 hp with g | g
          · exact hnm' g
          · simp at g; omega
      · intro p hp
        rcases hi p hp with g | rfl | rfl
        · exact hR.inr p g
        · simp; omega
        · simp; omega
      · intro p hp
        rcases hi p hp with g | rfl | rfl
        · exact hR.irr p g
        · simp; omega
        · simp; omega
      · intro p hp
        rcases hi p hp with g | rfl | rfl
        · exact List.mem_append_left _ (List.mem_append_left _ (hR.sym p g))
        · simp
        · simp
    refine ⟨h.1, h.2.1, ?_, hrg, fun y hy => ?_⟩
    · have h6 : N ≤ 6 := by have := h.2.1; omega
      have hs := length_le_of_sub _ (fullL N N) hrg.nodup (fun p hp => by
        have r := hrg.inr p hp
        have i := hrg.irr p hp
        have := full_mem (N := N) (a := p.1.toNat) (b := p.2.toNat) (by omega) (by omega) (by omega)
        rw [Int.toNat_of_nonneg r.1, Int.toNat_of_nonneg r.2.2.1] at this
        exact this)
      have := (full_num N (by omega)).1
      have hle : N * (N - 1) ≤ 6 * 5 := Nat.mul_le_mul h6 (by omega)
      omega
    · obtain ⟨k, hk⟩ := h.2.2.2.2 y hy
      exact ⟨k, way_mono (fun p hp => List.mem_append_left _ (List.mem_append_left _ hp)) hk⟩

/-- A row of links that a call makes for itself, out of a world. -/
structure Row (wb w : World) (v : Value) (X : Lks) : Prop where
  bel : Below wb.heap.size wb w
  own : w.ownsRow wb.heap.size 43 2 v X.length (flat X)
theorem Row.links {wb w : World} {v : Value} {X : Lks} (h : Row wb w v X) : LinksAt w v X := LinksAt.owns h.own
theorem Row.new (w : World) : Row w (w.alloc (.cells #[] 43)) (.slice (some ⟨w.heap.size, 0, none⟩) 0 0) [] :=
  ⟨below_alloc _ _, rfl, .inr ⟨w.heap.size, 0, #[], rfl, Nat.le_refl _, heap_alloc_new w _, Nat.le_refl _, by unfold maxLen; omega, rfl, rfl⟩⟩
theorem Row.alloc {wb w : World} {v : Value} {X : Lks} (h : Row wb w v X) (o : Obj) : Row wb (w.alloc o) v X :=
  ⟨h.bel.alloc h.bel.size o, h.own.alloc _⟩
theorem news_of {w : World} {ad : Addr} {n c : Nat} {Y : Lks} (h : LinksAt w (.slice (some ad) n c) Y) : ∀ j u, (flat Y)[j]? = some u → w.cell? (ad.add j) = some u := by
  intro j u hj
  have hl := (List.getElem?_eq_some_iff.1 hj).1
  rw [flat_length] at hl
  rcases h with ⟨a0, c0, e0, rfl⟩ | ⟨b, off, len, cap, e0, hl', hp, hb, hlc, hc⟩
  · simp at hl
  · simp only [Value.slice.injEq, Option.some.injEq] at e0
    obtain ⟨rfl, rfl, rfl⟩ := e0
    have g := flat_get Y (j / 2) (by omega)
    have q := hc (j / 2) (by omega)
    have e : (⟨b, off, none⟩ : Addr).add j = ⟨b, off + j, none⟩ := by unfold Addr.add; split <;> simp_all
    rw [e]
    rcases Nat.mod_two_eq_zero_or_one j with m | m
    · have hj2 : j = j / 2 * 2 := by omega
      rw [← hj2] at g q
      rw [g.1] at hj
      cases hj; exact q.1
    · have hj2 : j = j / 2 * 2 + 1 := by omega
      rw [← hj2] at g
      rw [Nat.add_assoc, ← hj2] at q
      rw [g.2] at hj
      cases hj; exact q.2
theorem flat_cells (X : Lks) : ∀ u ∈ flat X, u.oneCell' = true := by
  intro u hu
  unfold flat at hu
  obtain ⟨p, _, hp⟩ := List.mem_flatMap.1 hu
  simp at hp
  rcases hp with rfl | rfl <;> rfl
theorem app_law {ops : Array Oper} {rest : List Oper} {o : Oper} {a : Act} {Q : Exit → Act → World → Prop} {w : World} (hgd : o.guard = none) (s x : Operand)
    (ho : o.op = .call { callee := .builtin .append, args := #[s, x], argTypes := #[22, 22] })
    (wb : World) (v : Value) (X Y : Lks) (n m : Nat) (hn : X.length = n) (hm : Y.length = m) (hs : a.eval s = v) (hrow : Row wb w v X) (ad : Addr) (c : Nat) (hx : a.eval x = .slice (some ad) m c)
    (hY : LinksAt w (.slice (some ad) m c) Y) (hlen : n + m ≤ 1000)
    (h : ∀ ao cv w', Row wb w' (.slice ao (n + m) cv) (X ++ Y) → wpList Try.prog ops Q rest (a.put o.dst (.slice ao (n + m) cv)) w') : wpList Try.prog ops Q (o :: rest) a w := by
  obtain ⟨i0, hi0, hz0, hz1, hz2⟩ := info_parts infoPair
  subst hn hm
  refine wpList_append_own w hgd s x 22 ho wb.heap.size 43 i0 (.agg #[.int .i64 0, .int .i64 0]) 2 16 Try.underlying22 hi0 hz0 hz1 hz2 rfl (by decide) v _ _ hs hrow.own ad _ c (flat Y) hx (flat_length Y) (news_of hY) (flat_cells Y) (by unfold maxLen; omega) (by omega) hrow.bel.size ?_
  intro v' w' hown hg _
  have hl : (X ++ Y).length = X.length + Y.length := List.length_append
  have hr : Row wb w' v' (X ++ Y) := ⟨hrow.bel.grown hg hrow.bel.size (fun k hk => (hrow.own.lt k hk).1), by rw [hl, flat_append]; exact hown⟩
  obtain ⟨ao, cv, rfl⟩ := owns_slice hown
  exact h ao cv w' hr
theorem app_any {ops : Array Oper} {rest : List Oper} {o : Oper} {a : Act} {Q : Exit → Act → World → Prop} {w : World} (hgd : o.guard = none) (s x : Operand)
    (ho : o.op = .call { callee := .builtin .append, args := #[s, x], argTypes := #[22, 22] })
    (wb : World) (v : Value) (X Y : Lks) (n m k : Nat) (hn : X.length = n) (hm : Y.length = m) (hk : n + m = k) (hs : a.eval s = v) (hrow : Row wb w v X) (ad : Option Addr) (c : Nat) (hx : a.eval x = .slice ad m c)
    (hY : LinksAt w (.slice ad m c) Y) (hlen : k ≤ 1000)
    (h : ∀ ao cv w', Row wb w' (.slice ao k cv) (X ++ Y) → wpList Try.prog ops Q rest (a.put o.dst (.slice ao k cv)) w') : wpList Try.prog ops Q (o :: rest) a w := by
  subst hk
  cases ad with
  | some ad => exact app_law hgd s x ho wb v X Y n m hn hm hs hrow ad c hx hY hlen h
  | none =>
    obtain ⟨i0, hi0, hz0, hz1, hz2⟩ := info_parts infoPair
    have hm0 : m = 0 ∧ Y = [] := by
      rcases hY with ⟨a0, c0, e0, rfl⟩ | ⟨b, off, len, cap, e0, _⟩
      · exact ⟨hm.symm, rfl⟩
      · cases e0
    obtain ⟨rfl, rfl⟩ := hm0
    have hr : (Builtin.append_ #[22, 22] o.type #[v, .slice none 0 c]).run Try.prog w = .ok v w := by
      rcases hrow.own.2 with ⟨rfl, hx0⟩ | ⟨g, cap, cur, rfl, _, _, hnc, _⟩
      · simp [Builtin.append_, run_underlying Try.underlying22, sizeOf, typeInfo, hi0, Builtin.lenOf, Builtin.firstCells]
      · simp [Builtin.append_, run_underlying Try.underlying22, sizeOf, typeInfo, hi0, Builtin.lenOf, Builtin.firstCells, hnc, storeCells]
    obtain ⟨ao, cv, rfl⟩ := owns_slice hrow.own
    subst hn
    refine wpList_plain hgd fun K hK => ?_
    unfold Oper.wp execOp
    simp only [ho, resolve, invoke, builtin, Sem.run_bind, Sem.run_pure, Result.andThen_ok, List.map_toArray, List.map_cons, List.map_nil, hs, hx, hr]
    exact hK _ _ (h ao cv w (by rw [List.append_nil]; exact hrow))
theorem LinksAt.drop {w : World} {b off len : Nat} {L : Lks} (hl : L.length = len) (hb : b < w.heap.size)
    (hc : ∀ i, i < len → w.cell? ⟨b, off + i * 2, none⟩ = some (.int .i64 (lk L i).1) ∧ w.cell? ⟨b, off + i * 2 + 1, none⟩ = some (.int .i64 (lk L i).2)) (k : Nat) (hk : k ≤ len) (off' c' : Nat) (ho : off' = off + k * 2) (hc' : len - k ≤ c') :
    LinksAt w (.slice (some ⟨b, off', none⟩) (len - k) c') (L.drop k) := by
  subst ho
  by_cases h0 : len - k = 0
  · rw [h0]; exact .inl ⟨_, _, rfl, List.drop_eq_nil_of_le (by omega)⟩
  · refine .inr ⟨b, off + k * 2, len - k, c', rfl, by rw [List.length_drop, hl], by omega, hb, hc', fun i hi => ?_⟩
    have e : lk (L.drop k) i = lk L (k + i) := by simp [lk, List.getD, List.getElem?_drop]
    rw [e]
    have := hc (k + i) (by omega)
    rw [show off + k * 2 + i * 2 = off + (k + i) * 2 by omega]
    exact this
end Go.Proofs.Ytndpgmndbdchaaa
