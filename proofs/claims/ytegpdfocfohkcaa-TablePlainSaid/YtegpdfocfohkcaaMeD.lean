/- Append, at a list of operations and at a step of a drawn region; parts of rows; stores beside a row. -/
import Derived.Test.YtegpdfocfohkcaaMeC
import Derived.OneCell
namespace Go.Proofs.Ytegpdfocfohkcaa
open Go.RowKit Go.PlainAid

theorem run_app {w : World} (T E ty : TypeId) (i : TypeInfo) (z : Value) (n bytes : Nat) (ht : Try.prog.underlying T = some (.slice E)) (hi : Try.prog.info? E = some i) (hz : i.zero = some z) (hsize : i.size = n) (hby : i.bytes = bytes) (hzs : z.cells.size = n) (hsz : 0 < n)
    (S : Prop) (P : Nat → Prop) (wb : World) (lim : Nat) (v : Value) (xs ys : List (List D)) (k m c l : Nat) (h : Own S P E n wb lim w v xs) (hk : xs.length = k) (ad : Option Addr) (news : List Value)
    (hnews : ∀ a, ad = some a → ∀ j u, news[j]? = some u → w.cell? (a.add j) = some u) (hnone : ad = none → m = 0) (hy : ∀ ds ∈ ys, ds.length = n) (hm : ys.length = m) (hh : HoldsL S (fun k => P k ∧ v.ownBlock ≠ some k ∧ (S → lim ≤ k)) w news ys.flatten) (hl : k + m = l) (h63 : l ≤ maxLen) (hbytes : l * bytes ≤ 140737488355328) :
    ∃ ao cv w', (Builtin.append_ #[T, T] ty #[v, .slice ad m c]).run Try.prog w = .ok (.slice ao l cv) w' ∧ Own S P E n wb w'.heap.size w' (.slice ao l cv) (xs ++ ys) ∧ w.grownBy w' v.ownBlock ∧ ((Value.slice ao l cv).ownBlock = v.ownBlock ∨ (Value.slice ao l cv).ownBlock = some w.heap.size) := by
  subst hl hk
  cases ad with
  | some ad =>
    have hll : news.length = m * n := by rw [hh.1, flatten_len hy, hm]
    have h1 : ∀ u ∈ news, u.oneCell' = true := by
      intro u hu
      obtain ⟨j, hj, rfl⟩ := List.getElem_of_mem hu
      obtain ⟨hl', gp, _, _, g3⟩ := hh
      exact (g3 j _ _ (List.getElem?_eq_getElem hj) (List.getElem?_eq_getElem (by omega))).one
    obtain ⟨cells, cs, fp, h4, _⟩ := h.ex
    have hnews' := hnews ad rfl
    obtain ⟨v', w', hr, hown, hg, _⟩ := run_append_own (P := Try.prog) w wb.heap.size T ty E i z n bytes ht hi hz hsize hby hzs hsz v xs.length cells h4 ad m c news hll hnews' h1 h63 hbytes h.bel.size
    have hb := app_block ht hi hz hsize hby hzs hsz h4 hll hnews' h1 h63 hbytes hr
    obtain ⟨ao, cv, rfl⟩ := owns_slice hown
    refine ⟨ao, cv, w', hr, h.push hy hm hh hb hg fun cells' hc => ?_, hg, hb⟩
    have : cells' = cells := ownsRow_det hc h4
    rw [this]; exact hown
  | none =>
    have hm0 := hnone rfl
    subst hm0
    have hy0 : ys = [] := List.eq_nil_of_length_eq_zero hm
    subst hy0
    obtain ⟨cells, _, _, h4, _⟩ := h.ex
    have hr : (Builtin.append_ #[T, T] ty #[v, .slice none 0 c]).run Try.prog w = .ok v w := by
      rcases h4.2 with ⟨rfl, hx0⟩ | ⟨g, cap, cur, rfl, _, _, hnc, _⟩
      · simp [Builtin.append_, run_underlying ht, sizeOf, typeInfo, hi, Builtin.lenOf, Builtin.firstCells]
      · simp [Builtin.append_, run_underlying ht, sizeOf, typeInfo, hi, Builtin.lenOf, Builtin.firstCells, hnc, storeCells]
    obtain ⟨ao, cv, rfl⟩ := owns_slice h4
    exact ⟨ao, cv, w, hr, by rw [List.append_nil]; exact h.lift h.lim_le (Nat.le_refl _), ⟨rfl, rfl, rfl, Nat.le_refl _, fun _ _ _ => rfl⟩, .inl rfl⟩

/-- In a list of operations. -/
theorem appL {ops : Array Oper} {rest : List Oper} {o : Oper} {a : Act} {Q : Exit → Act → World → Prop} {w : World} (hgd : o.guard = none) (s x : Operand) (T E : TypeId) (i : TypeInfo) (z : Value) (n bytes : Nat)
    (ho : o.op = .call { callee := .builtin .append, args := #[s, x], argTypes := #[T, T] }) (ht : Try.prog.underlying T = some (.slice E)) (hi : Try.prog.info? E = some i) (hz : i.zero = some z) (hsize : i.size = n) (hby : i.bytes = bytes) (hzs : z.cells.size = n) (hsz : 0 < n)
    (S : Prop) (P : Nat → Prop) (wb : World) (lim : Nat) (v : Value) (xs ys : List (List D)) (k m c l : Nat) (hs : a.eval s = v) (h : Own S P E n wb lim w v xs) (hk : xs.length = k) (ad : Option Addr) (hx : a.eval x = .slice ad m c) (news : List Value)
    (hnews : ∀ a, ad = some a → ∀ j u, news[j]? = some u → w.cell? (a.add j) = some u) (hnone : ad = none → m = 0) (hy : ∀ ds ∈ ys, ds.length = n) (hm : ys.length = m) (hh : HoldsL S (fun k => P k ∧ v.ownBlock ≠ some k ∧ (S → lim ≤ k)) w news ys.flatten) (hl : k + m = l) (h63 : l ≤ maxLen) (hbytes : l * bytes ≤ 140737488355328)
    (K : ∀ ao cv w', Own S P E n wb w'.heap.size w' (.slice ao l cv) (xs ++ ys) → w.grownBy w' v.ownBlock → ((Value.slice ao l cv).ownBlock = v.ownBlock ∨ (Value.slice ao l cv).ownBlock = some w.heap.size) → wpList Try.prog ops Q rest (a.put o.dst (.slice ao l cv)) w') : wpList Try.prog ops Q (o :: rest) a w := by
  obtain ⟨ao, cv, w', hr, h1, h2, h3⟩ := run_app T E o.type i z n bytes ht hi hz hsize hby hzs hsz S P wb lim v xs ys k m c l h hk ad news hnews hnone hy hm hh hl h63 hbytes
  refine wpList_plain hgd fun K' hK => ?_
  unfold Oper.wp execOp
  simp only [ho, resolve, invoke, builtin, Sem.run_bind, Sem.run_pure, Result.andThen_ok, List.map_toArray, List.map_cons, List.map_nil, hs, hx, hr]
  exact hK _ _ (K ao cv w' h1 h2 h3)
/-- At a step of a drawn region. -/
theorem appS {ops : Array Oper} {o : Oper} {a : Act} {K : Act → World → Prop} {Q : Exit → Act → World → Prop} {F : Prop} {w : World} (hgd : o.guard = none) (s x : Operand) (T E : TypeId) (i : TypeInfo) (z : Value) (n bytes : Nat)
    (ho : o.op = .call { callee := .builtin .append, args := #[s, x], argTypes := #[T, T] }) (ht : Try.prog.underlying T = some (.slice E)) (hi : Try.prog.info? E = some i) (hz : i.zero = some z) (hsize : i.size = n) (hby : i.bytes = bytes) (hzs : z.cells.size = n) (hsz : 0 < n)
    (S : Prop) (P : Nat → Prop) (wb : World) (lim : Nat) (v : Value) (xs ys : List (List D)) (k m c l : Nat) (hs : a.eval s = v) (h : Own S P E n wb lim w v xs) (hk : xs.length = k) (ad : Option Addr) (hx : a.eval x = .slice ad m c) (news : List Value)
    (hnews : ∀ a, ad = some a → ∀ j u, news[j]? = some u → w.cell? (a.add j) = some u) (hnone : ad = none → m = 0) (hy : ∀ ds ∈ ys, ds.length = n) (hm : ys.length = m) (hh : HoldsL S (fun k => P k ∧ v.ownBlock ≠ some k ∧ (S → lim ≤ k)) w news ys.flatten) (hl : k + m = l) (h63 : l ≤ maxLen) (hbytes : l * bytes ≤ 140737488355328)
    (H : ∀ ao cv w', Own S P E n wb w'.heap.size w' (.slice ao l cv) (xs ++ ys) → w.grownBy w' v.ownBlock → ((Value.slice ao l cv).ownBlock = v.ownBlock ∨ (Value.slice ao l cv).ownBlock = some w.heap.size) → K (a.put o.dst (.slice ao l cv)) w') :
    if Region.wanted o (yielded ops a.tmps) = true then Oper.wp Try.prog o a w K Q else F := by
  have hw : Region.wanted o (yielded ops a.tmps) = true := by simp [Region.wanted, hgd]
  rw [if_pos hw]
  obtain ⟨ao, cv, w', hr, h1, h2, h3⟩ := run_app T E o.type i z n bytes ht hi hz hsize hby hzs hsz S P wb lim v xs ys k m c l h hk ad news hnews hnone hy hm hh hl h63 hbytes
  unfold Oper.wp execOp
  simp only [ho, resolve, invoke, builtin, Sem.run_bind, Sem.run_pure, Result.andThen_ok, List.map_toArray, List.map_cons, List.map_nil, hs, hx, hr]
  exact H ao cv w' h1 h2 h3

/-- The front of a row. -/
theorem Holds.take {S : Prop} {P : Nat → Prop} {w : World} {a : Option Addr} {len cap n m : Nat} {xs : List (List D)} (h : Holds S P w (.slice a len cap) (.row n xs)) (hm : m ≤ xs.length) : Holds S P w (.slice a m cap) (.row n (xs.take m)) := by
  by_cases h0 : m = 0
  · subst h0
    rw [List.take_zero]
    exact .nil _ _ _ _ _
  · cases h with
    | nil => simp at hm; omega
    | row _ _ b off cap n xs cs fp h1 hb hc hP hn hcell hrec hfp hb2 hd =>
      have e : m = (xs.take m).length := by simp; omega
      have ht : ∀ (i : Nat) (ds : List D), (xs.take m)[i]? = some ds → xs[i]? = some ds := fun i ds h => by
        rw [List.getElem?_take] at h
        split at h
        · exact h
        · cases h
      have := Holds.row P w b off cap n (xs.take m) cs fp (by omega) hb (by omega) hP (fun i ds h => hn i ds (ht i ds h)) (fun i j hi hj => hcell i j (by omega) hj) (fun i j ds d h1 h2 => hrec i j ds d (ht i ds h1) h2) hfp hb2 hd
      rw [← e] at this
      exact this
/-- What is appended from a slice of plain things. -/
theorem newsOf {w : World} {ad : Option Addr} {m c n : Nat} {ys : List (List D)} (h : Has w (.slice ad m c) (.row n ys)) (hn : ∀ ds ∈ ys, ds.length = n) (hf : Flat ys.flatten) :
    ys.length = m ∧ (ad = none → m = 0) ∧ ∃ news, (∀ a, ad = some a → ∀ j u, news[j]? = some u → w.cell? (a.add j) = some u) ∧ ∀ S P, HoldsL S P w news ys.flatten := by
  cases ad with
  | some ad =>
    obtain ⟨hm, _, news, h1, h2⟩ := Has.news h
    exact ⟨hm.symm, fun e => (by cases e), news, fun a e => (by cases e; exact h1), fun S P => h2.flat hf⟩
  | none =>
    obtain ⟨rfl, rfl⟩ := Has.none h rfl
    exact ⟨rfl, fun _ => rfl, [], fun a e => (by cases e), fun S P => hasL_nil S P w⟩

theorem grown_at {w w' : World} {row : Option Nat} (hg : w.grownBy w' row) {b i : Nat} {v : Value} (hne : row ≠ some b) (h : w.cell? ⟨b, i, none⟩ = some v) : w'.cell? ⟨b, i, none⟩ = some v :=
  (World.cell?_of_block (hg.block b (World.block_lt_of_cell? w _ h) (fun e => hne e.symm))).trans h
theorem grown_frozen {w w' : World} {row : Option Nat} (hg : w.grownBy w' row) {b i : Nat} {r : Bool} (hne : row ≠ some b) (hb : b < w.heap.size) (h : w.frozen? ⟨b, i, none⟩ = r) : w'.frozen? ⟨b, i, none⟩ = r :=
  (World.frozen?_of_block (w := w) (hg.block b hb (fun e => hne e.symm))).trans h

/-- A store in a block that is no part of the row. -/
theorem Own.set {S : Prop} {P : Nat → Prop} {E : TypeId} {n lim : Nat} {wb w : World} {v : Value} {xs : List (List D)} (h : Own S P E n wb lim w v xs) (a : Addr) (u : Value) (hP : ¬ P a.block) (hb : wb.heap.size ≤ a.block) (hv : v.ownBlock ≠ some a.block) : Own S P E n wb lim (w.setCell a u) v xs := by
  obtain ⟨h1, h2, h3, cells, cs, fp, h4, h5, h6, h7, h8, h9⟩ := h
  refine ⟨h1.setCell hb _, by rw [World.size_setCell]; exact h2, h3, cells, cs, fp, ?_, h5, h6, fun i j ds d e1 e2 => (h7 i j ds d e1 e2).same ((SameOn.refl _ _).set a u (fun hf => hP (h8 i j _ hf).1)), h8, h9⟩
  exact ownsRow_setCell_other h4 hv _
end Go.Proofs.Ytegpdfocfohkcaa
