/- Rows copied: append of a slice's elements. -/
import Derived.Test.YtegpdfocfohkcaaMeB
import Derived.Laws.AppendOwnNone
namespace Go.Proofs.Ytegpdfocfohkcaa
open Go.RowKit Go.PlainAid

theorem Own.made {S : Prop} {P : Nat → Prop} {E : TypeId} {n : Nat} {wb w : World} (hb : Below wb.heap.size wb w) : Own S P E n wb (w.heap.size + 1) (w.alloc (.cells #[] E)) (.slice (some ⟨w.heap.size, 0, none⟩) 0 0) [] := by
  refine ⟨hb.alloc hb.size _, by simp, fun k hk => ?_, [], fun _ _ => .bool true, fun _ _ _ => False, World.ownsRow_made w #[] 0 hb.size (Nat.zero_le _) (by simp), fun i ds h => by simp at h, fun i j h => by simp at h, fun i j ds d h => by simp at h, fun _ _ _ h => h.elim, fun _ _ _ _ _ _ h => h.elim⟩
  simp [Value.ownBlock] at hk; omega

/-- The cells of a slice's elements. -/
theorem Has.news {w : World} {ad : Addr} {m c n : Nat} {ys : List (List D)} (h : Has w (.slice (some ad) m c) (.row n ys)) :
    m = ys.length ∧ (∀ ds ∈ ys, ds.length = n) ∧ ∃ news, (∀ j u, news[j]? = some u → w.cell? (ad.add j) = some u) ∧ HasL w news ys.flatten := by
  by_cases h0 : ys.length = 0
  · obtain rfl := List.length_eq_zero_iff.1 h0
    obtain ⟨a, cap, e⟩ := Holds.len h
    simp only [Value.slice.injEq] at e
    exact ⟨e.2.1, by simp, [], by simp, hasL_nil _ _ _⟩
  · cases h with
    | nil => simp at h0
    | row _ _ b off cap n xs cs fp h0 hb hc hP hn hcell hrec hfp hb2 hd =>
      have hy : ∀ ds ∈ ys, ds.length = n := fun ds hds => by obtain ⟨i, hi⟩ := List.mem_iff_getElem?.1 hds; exact hn i ds hi
      have hl := flatten_len hy
      refine ⟨rfl, hy, (List.range (ys.length * n)).map (fun t => cs (t / n) (t % n)), fun j u hu => ?_, by simp [hl], fun _ => All, fun _ _ _ => trivial, fun s => s.elim, fun j c d hc hd => ?_⟩
      · have hj := lt_of_some hu
        simp at hj
        rw [List.getElem?_map, List.getElem?_range hj] at hu
        simp at hu
        subst hu
        have hn0 : 0 < n := by rcases Nat.eq_zero_or_pos n with rfl | h; simp at hj; exact h
        have := hcell (j / n) (j % n) (Nat.div_lt_of_lt_mul (by rw [Nat.mul_comm]; exact hj)) (Nat.mod_lt _ hn0)
        have e : off + j / n * n + j % n = off + j := by rw [Nat.add_assoc, Nat.mul_comm, Nat.div_add_mod]
        rw [e] at this
        rw [Go.WideShapes.add_plain]; exact this
      · have hj := lt_of_some hd
        rw [hl] at hj
        rw [List.getElem?_map, List.getElem?_range hj] at hc
        simp at hc
        subst hc
        have hn0 : 0 < n := by rcases Nat.eq_zero_or_pos n with rfl | h; simp at hj; exact h
        obtain ⟨ds, hds⟩ := some_of_lt (l := ys) (i := j / n) (Nat.div_lt_of_lt_mul (by rw [Nat.mul_comm]; exact hj))
        have hf := flatten_get hy hds (Nat.mod_lt j hn0)
        rw [Nat.mul_comm, Nat.div_add_mod, hd] at hf
        exact (hrec _ _ ds d hds hf.symm).weak
theorem Has.none {w : World} {v : Value} {m c n : Nat} {ys : List (List D)} (h : Has w v (.row n ys)) (hv : v = .slice none m c) : ys = [] ∧ m = 0 := by
  cases h with
  | nil => simp at hv; exact ⟨rfl, hv.2.1.symm⟩
  | row => simp at hv
def Flat (ds : List D) : Prop := ∀ d ∈ ds, ∃ v, d = .atom v
theorem HasL.flat {S : Prop} {P : Nat → Prop} {w : World} {cs : List Value} {ds : List D} (h : HasL w cs ds) (hf : Flat ds) : HoldsL S P w cs ds := by
  obtain ⟨h1, fp, h2, h3, h4⟩ := h
  refine ⟨h1, fun _ _ => False, fun _ _ h => h.elim, fun _ _ _ _ h => h.elim, fun j c d hc hd => ?_⟩
  have hh := h4 j c d hc hd
  obtain ⟨v, rfl⟩ := hf d (List.mem_of_getElem? hd)
  have e := hh.val
  subst e
  exact .atom _ _ _ hh.one
theorem flat_ints (xs : List Int) : Flat (xs.map fun a => [dI a]).flatten := by
  intro d hd
  rw [List.mem_flatten] at hd
  obtain ⟨l, hl, hd⟩ := hd
  obtain ⟨p, _, rfl⟩ := List.mem_map.1 hl
  simp at hd
  exact ⟨_, hd⟩
theorem flat_links (L : Lks) : Flat (L.map fun p => [dI p.1, dI p.2]).flatten := by
  intro d hd
  rw [List.mem_flatten] at hd
  obtain ⟨l, hl, hd⟩ := hd
  obtain ⟨p, _, rfl⟩ := List.mem_map.1 hl
  simp at hd
  rcases hd with rfl | rfl <;> exact ⟨_, rfl⟩

/-- append(s, xs...), of a row of plain things. -/
theorem app_rows {ops : Array Oper} {rest : List Oper} {o : Oper} {a : Act} {Q : Exit → Act → World → Prop} {w : World} (hgd : o.guard = none) (s x : Operand) (T E : TypeId) (i : TypeInfo) (z : Value) (n bytes : Nat)
    (ho : o.op = .call { callee := .builtin .append, args := #[s, x], argTypes := #[T, T] }) (ht : Try.prog.underlying T = some (.slice E)) (hi : Try.prog.info? E = some i) (hz : i.zero = some z) (hsize : i.size = n) (hby : i.bytes = bytes) (hzs : z.cells.size = n) (hsz : 0 < n)
    (S : Prop) (P : Nat → Prop) (wb : World) (lim : Nat) (v : Value) (xs ys : List (List D)) (k m c l : Nat) (hs : a.eval s = v) (h : Own S P E n wb lim w v xs) (hk : xs.length = k) (ad : Option Addr) (hx : a.eval x = .slice ad m c) (hy : Has w (.slice ad m c) (.row n ys)) (hf : Flat ys.flatten) (hl : k + m = l) (h63 : l ≤ maxLen) (hbytes : l * bytes ≤ 140737488355328)
    (K : ∀ ao cv w', Own S P E n wb w'.heap.size w' (.slice ao l cv) (xs ++ ys) → w.grownBy w' v.ownBlock → wpList Try.prog ops Q rest (a.put o.dst (.slice ao l cv)) w') : wpList Try.prog ops Q (o :: rest) a w := by
  subst hl
  cases ad with
  | some ad =>
    obtain ⟨hm, hn, news, hnews, hh⟩ := Has.news hy
    exact app_own hgd s x T E i z n bytes ho ht hi hz hsize hby hzs hsz S P wb lim v xs ys k m c hs h hk ad hx news hnews hn hm.symm (hh.flat hf) h63 hbytes K
  | none =>
    obtain ⟨rfl, rfl⟩ := Has.none hy rfl
    obtain ⟨cells, _, _, h4, _⟩ := h.ex
    have hr : (Builtin.append_ #[T, T] o.type #[v, .slice none 0 c]).run Try.prog w = .ok v w := by
      rcases h4.2 with ⟨rfl, hx0⟩ | ⟨g, cap, cur, rfl, _, _, hnc, _⟩
      · simp [Builtin.append_, run_underlying ht, sizeOf, typeInfo, hi, Builtin.lenOf, Builtin.firstCells]
      · simp [Builtin.append_, run_underlying ht, sizeOf, typeInfo, hi, Builtin.lenOf, Builtin.firstCells, hnc, storeCells]
    obtain ⟨ao, cv, rfl⟩ := owns_slice h4
    subst hk
    refine wpList_plain hgd fun K' hK => ?_
    unfold Oper.wp execOp
    simp only [ho, resolve, invoke, builtin, Sem.run_bind, Sem.run_pure, Result.andThen_ok, List.map_toArray, List.map_cons, List.map_nil, hs, hx, hr]
    exact hK _ _ (K ao cv w (by rw [List.append_nil]; exact h.lift h.lim_le (Nat.le_refl _)) ⟨rfl, rfl, rfl, Nat.le_refl _, fun _ _ _ => rfl⟩)

theorem SameOn.refl (P : Nat → Prop) (w : World) : SameOn P w w := ⟨Nat.le_refl _, fun _ _ _ => rfl⟩
theorem SameOn.set {P : Nat → Prop} {w w' : World} (h : SameOn P w w') (a : Addr) (v : Value) (hp : ¬ P a.block) : SameOn P w (w'.setCell a v) :=
  ⟨by simpa using h.1, fun b p hb => by rw [Below.heap_setCell _ _ _ _ (by intro e; exact hp (e ▸ p))]; exact h.2 b p hb⟩
theorem SameOn.drewN {P : Nat → Prop} {w w' : World} (h : SameOn P w w') (n : Nat) : SameOn P w (w'.drewN n) := h
theorem SameOn.drew {P : Nat → Prop} {w w' : World} (h : SameOn P w w') : SameOn P w w'.drew := h
end Go.Proofs.Ytegpdfocfohkcaa
