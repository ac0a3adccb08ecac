/- Eight pieces in a row: facts. Written by gen_peach.py. -/
import Derived.Test.YtcopedhoepblpaaPkP
import Derived.Test.YtcopedhoepblpaaPkV
import Derived.Test.YtcopedhoepblpaaPkS
set_option linter.unusedSimpArgs false
set_option linter.unusedVariables false
set_option maxRecDepth 100000
namespace Go.Proofs.Ytcopedhoepblpaa
open Go.RowKit Go.PlainAid

theorem infoPiece : (Try.prog.info? 26).map (fun i => (i.zero, i.size, i.bytes)) = some (some (.agg #[.int .i64 0, .int .i64 0, .int .i64 0, .slice none 0 0, .slice none 0 0, .slice none 0 0]), 6, 96) := by kernel_rfl
theorem holdsL_atoms {S : Prop} {P : Nat → Prop} {w : World} (cs : List Value) (h : ∀ c ∈ cs, c.oneCell' = true) : HoldsL S P w cs (cs.map .atom) := by
  refine ⟨by simp, fun _ _ => False, fun _ _ h => h.elim, fun _ _ _ _ h => h.elim, fun j c d hc hd => ?_⟩
  rw [List.getElem?_map, hc] at hd
  cases hd
  exact .atom _ _ _ (h c (List.mem_of_getElem? hc))
theorem row_open {P : Nat → Prop} {w : World} {a : Option Addr} {k cap n : Nat} {xs : List (List D)} (h : Holds True P w (.slice a k cap) (.row n xs)) (h0 : 0 < xs.length) :
    ∃ b, a = some ⟨b, 0, none⟩ ∧ P b ∧ b < w.heap.size ∧ k ≤ cap ∧ (∀ o, w.frozen? ⟨b, o, none⟩ = false) ∧ ∀ (i j : Nat) (ds : List D) (u : Value), xs[i]? = some ds → ds[j]? = some (.atom u) → w.cell? ⟨b, i * n + j, none⟩ = some u := by
  cases h with
  | nil => simp at h0
  | row _ _ b off cap n xs cs fp h1 hb hc hP hn hcell hrec hfp hb2 hd hop =>
    obtain ⟨rfl, h2⟩ := hop trivial
    refine ⟨b, rfl, hP, hb, hc, h2.frozen, fun i j ds u hi hj => ?_⟩
    have hil : i < xs.length := (List.getElem?_eq_some_iff.1 hi).1
    have hjl : j < n := by have := hn i ds hi; have := (List.getElem?_eq_some_iff.1 hj).1; omega
    have e := hcell i j hil hjl
    have r := hrec i j ds _ hi hj
    generalize hcs : cs i j = c at e r
    cases r
    simpa using e
abbrev P3 := Value × Value × Value
def at6 (m0 m1 m2 : Int) (u : P3) : List D := [.int .i64 m0, .int .i64 m1, .int .i64 m2, u.1, u.2.1, u.2.2].map .atom
def nth (us : List P3) (i : Nat) : P3 := us[i]?.getD (undef, undef, undef)
def fC (m0 m1 m2 : Int) (us : List P3) : Nat → Nat → Value := fun i j => match j with
  | 0 => .int .i64 m0
  | 1 => .int .i64 m1
  | 2 => .int .i64 m2
  | 3 => (nth us i).1
  | 4 => (nth us i).2.1
  | _ => (nth us i).2.2
/-- Rows of six cells, that may be written to. -/
structure Rows8 (g : Nat) (f : Nat → Nat → Value) (w : World) : Prop where
  cell : ∀ i j, i < 8 → j < 6 → w.cell? ⟨g, i * 6 + j, none⟩ = some (f i j)
  frz : ∀ o, w.frozen? ⟨g, o, none⟩ = false
  lt : g < w.heap.size
def up (f : Nat → Nat → Value) (a b : Nat) (u : Value) : Nat → Nat → Value := fun i j => if i = a ∧ j = b then u else f i j
theorem Rows8.set {g : Nat} {f : Nat → Nat → Value} {w : World} (h : Rows8 g f w) (a b c : Nat) (u : Value) (hc : c = a * 6 + b) (ha : a < 8) (hb : b < 6) : Rows8 g (up f a b u) (w.setCell ⟨g, c, none⟩ u) := by
  subst hc
  refine ⟨fun i j hi hj => ?_, fun o => by rw [World.frozen?_setCell]; exact h.frz o, by rw [World.size_setCell]; exact h.lt⟩
  unfold up
  by_cases e : i = a ∧ j = b
  · rw [if_pos e, e.1, e.2]
    exact set_at (h.cell a b ha hb)
  · rw [if_neg e]
    exact set_far (.inr (by show a * 6 + b ≠ i * 6 + j; omega)) (h.cell i j hi hj)
theorem Rows8.below {g : Nat} {f : Nat → Nat → Value} {w w' : World} (h : Rows8 g f w) (hb : Below w.heap.size w w') : Rows8 g f w' :=
  ⟨fun i j hi hj => (hb.cell (p := ⟨g, i * 6 + j, none⟩) h.lt).trans (h.cell i j hi hj), fun o => (hb.frozen (p := ⟨g, o, none⟩) h.lt).trans (h.frz o), Nat.lt_of_lt_of_le h.lt hb.size⟩
/-- So many pieces in a row, each with lists of its own. -/
structure Each (wc : World) (pc : Pc) (m0 m1 m2 : Int) (k : Nat) (v : Value) (us : List P3) (w : World) : Prop where
  own : Own True All 26 6 wc w.heap.size w v (us.map (at6 m0 m1 m2))
  len : us.length = k
  ls : ∀ u ∈ us, HoldsL False (fun q => q < w.heap.size ∧ v.ownBlock ≠ some q) w [u.1, u.2.1, u.2.2] pc.d
section
variable {wc : World} {pc : Pc} {m0 m1 m2 : Int} {k : Nat} {us : List P3}
theorem Each.nil {w : World} (hb : Below wc.heap.size wc w) : Each wc pc m0 m1 m2 0 (.slice (some ⟨w.heap.size, 0, none⟩) 0 0) [] (w.alloc (.cells #[] 26)) :=
  ⟨by rw [size_new]; exact Own.made hb, rfl, fun u hu => by cases hu⟩
theorem at6_one {u : P3} (h : ∃ w, HasL w [u.1, u.2.1, u.2.2] pc.d) : ∀ c ∈ [Value.int .i64 m0, .int .i64 m1, .int .i64 m2, u.1, u.2.1, u.2.2], c.oneCell' = true := by
  obtain ⟨w, h⟩ := h
  obtain ⟨a1, a2, a3, n1, n2, n3, e1, e2, e3, h1, h2, h3⟩ := pc_slices h
  rw [h1, h2, h3]
  intro c hc
  simp only [List.mem_cons, List.not_mem_nil, or_false] at hc
  rcases hc with rfl | rfl | rfl | rfl | rfl | rfl <;> rfl
theorem Each.step {wr w1 w2 w3 : World} {v : Value} {ao : Option Addr} {cv : Nat} {u : P3} (h : Each wc pc m0 m1 m2 k v us wr) (h1 : Below wr.heap.size wr w1) (hu : HoldsL False (fun q => wr.heap.size ≤ q) w1 [u.1, u.2.1, u.2.2] pc.d) (h2 : Below w1.heap.size w1 w2)
    (hO : Own True All 26 6 wc w3.heap.size w3 (.slice ao (k + 1) cv) (us.map (at6 m0 m1 m2) ++ [at6 m0 m1 m2 u])) (hg : w2.grownBy w3 v.ownBlock) (hb : (Value.slice ao (k + 1) cv).ownBlock = v.ownBlock ∨ (Value.slice ao (k + 1) cv).ownBlock = some w2.heap.size) :
    Each wc pc m0 m1 m2 (k + 1) (.slice ao (k + 1) cv) (us ++ [u]) w3 := by
  have h12 := below_step' h1 h2
  have hv : ∀ q, v.ownBlock = some q → q < wr.heap.size := fun q hq => (h.own.ge q hq).2
  have s1 := h1.size
  have s2 := h2.size
  have s3 := hg.size
  have ne : ∀ q, q < w2.heap.size → v.ownBlock ≠ some q → (Value.slice ao (k + 1) cv).ownBlock ≠ some q := fun q hq hn e => by
    rcases hb with hb | hb
    · rw [hb] at e; exact hn e
    · rw [hb] at e; cases e; omega
  refine ⟨by rw [List.map_append]; exact hO, by rw [List.length_append, h.len]; rfl, fun u' hu' => ?_⟩
  rcases List.mem_append.1 hu' with hm | hm
  · have h3 := (h.ls u' hm).later h12
    have h4 : HoldsL False (fun q => q < wr.heap.size ∧ v.ownBlock ≠ some q) w3 [u'.1, u'.2.1, u'.2.2] pc.d := h3.same ⟨hg.size, fun b hP hlt => hg.block b hlt (fun e => hP.2 e.symm)⟩
    exact h4.wide (fun q hq hp => ⟨hq, ne q (by omega) hp.2⟩)
  · rw [List.mem_singleton] at hm
    subst hm
    have h3 := (hu.later h2).wide (P' := fun q => q < w2.heap.size ∧ wr.heap.size ≤ q) (fun q hq hp => ⟨hq, hp⟩)
    have h4 : HoldsL False (fun q => q < w2.heap.size ∧ wr.heap.size ≤ q) w3 [u'.1, u'.2.1, u'.2.2] pc.d := h3.same ⟨hg.size, fun b hP hlt => hg.block b hlt (fun e => by have := hv b e.symm; omega)⟩
    exact h4.wide (fun q hq hp => ⟨hq, ne q hp.1 (fun e => by have := hv q e; omega)⟩)
theorem Each.rows {w : World} {v : Value} (h : Each wc pc m0 m1 m2 8 v us w) : ∃ g cap, v = .slice (some ⟨g, 0, none⟩) 8 cap ∧ 8 ≤ cap ∧ wc.heap.size ≤ g ∧ Rows8 g (fC m0 m1 m2 us) w ∧
    ∀ i, i < 8 → HoldsL False (fun q => q < w.heap.size ∧ q ≠ g) w [(nth us i).1, (nth us i).2.1, (nth us i).2.2] pc.d := by
  have hh := h.own.holds (fun _ _ => trivial)
  obtain ⟨a, c, hv⟩ := h.own.slice
  rw [List.length_map, h.len] at hv
  subst hv
  have hl : (us.map (at6 m0 m1 m2)).length = 8 := by rw [List.length_map, h.len]
  obtain ⟨g, rfl, -, hg, hc, hf, hcell⟩ := row_open hh (by omega)
  have hlen := h.len
  have hgd : ∀ i, i < 8 → us[i]? = some (nth us i) := fun i hi => by
    unfold nth; rw [List.getElem?_eq_getElem (by omega)]; rfl
  refine ⟨g, c, rfl, hc, (h.own.ge g rfl).1, ⟨fun i j hi hj => ?_, hf, hg⟩, fun i hi => ?_⟩
  · have hi2 : (us.map (at6 m0 m1 m2))[i]? = some (at6 m0 m1 m2 (nth us i)) := by rw [List.getElem?_map, hgd i hi]; rfl
    have key := hcell i j _ (fC m0 m1 m2 us i j) hi2
    match j, hj with
    | 0, _ => exact key rfl
    | 1, _ => exact key rfl
    | 2, _ => exact key rfl
    | 3, _ => exact key rfl
    | 4, _ => exact key rfl
    | 5, _ => exact key rfl
  · exact (h.ls _ (List.mem_of_getElem? (hgd i hi))).wide (fun q _ hp => ⟨hp.1, fun e => hp.2 (by rw [e]; rfl)⟩)
end
/-- A piece that may not be, at place i of a row. -/
def NoAt (g i : Nat) (w : World) : Prop := ∃ (q : Pc) (v1 v2 v3 : Value), okB q = false ∧ SmallPc q ∧ HasL w [v1, v2, v3] q.d ∧
  w.cell? ⟨g, i * 6, none⟩ = some (.int .i64 q.node) ∧ w.cell? ⟨g, i * 6 + 1, none⟩ = some (.int .i64 q.state) ∧ w.cell? ⟨g, i * 6 + 2, none⟩ = some (.int .i64 q.steps) ∧ w.cell? ⟨g, i * 6 + 3, none⟩ = some v1 ∧ w.cell? ⟨g, i * 6 + 4, none⟩ = some v2 ∧ w.cell? ⟨g, i * 6 + 5, none⟩ = some v3
theorem NoAt.below {g i : Nat} {w w' : World} (h : NoAt g i w) (hb : Below w.heap.size w w') : NoAt g i w' := by
  obtain ⟨q, v1, v2, v3, h1, h2, h3, c0, c1, c2, c3, c4, c5⟩ := h
  have k : ∀ o v, w.cell? ⟨g, o, none⟩ = some v → w'.cell? ⟨g, o, none⟩ = some v := fun o v hc => (hb.cell (World.block_lt_of_cell? w _ hc)).trans hc
  exact ⟨q, v1, v2, v3, h1, h2, h3.later hb, k _ _ c0, k _ _ c1, k _ _ c2, k _ _ c3, k _ _ c4, k _ _ c5⟩
theorem noAt_mk {g i : Nat} {f : Nat → Nat → Value} {w : World} (h : Rows8 g f w) (hi : i < 8) (q : Pc) (v1 v2 v3 : Value) (ho : okB q = false) (hs : SmallPc q) (hq : HasL w [v1, v2, v3] q.d) (e0 : f i 0 = .int .i64 q.node) (e1 : f i 1 = .int .i64 q.state) (e2 : f i 2 = .int .i64 q.steps) (e3 : f i 3 = v1) (e4 : f i 4 = v2) (e5 : f i 5 = v3) : NoAt g i w :=
  ⟨q, v1, v2, v3, ho, hs, hq, e0 ▸ h.cell i 0 hi (by decide), e1 ▸ h.cell i 1 hi (by decide), e2 ▸ h.cell i 2 hi (by decide), e3 ▸ h.cell i 3 hi (by decide), e4 ▸ h.cell i 4 hi (by decide), e5 ▸ h.cell i 5 hi (by decide)⟩
/-- The elements of a slice, and where they lie. -/
theorem newsP {P : Nat → Prop} {w : World} {ad : Option Addr} {m c n : Nat} {ys : List (List D)} (h : Holds False P w (.slice ad m c) (.row n ys)) (hy : ∀ ds ∈ ys, ds.length = n) :
    ys.length = m ∧ (ad = none → m = 0) ∧ ∃ news, (∀ a, ad = some a → ∀ j u, news[j]? = some u → w.cell? (a.add j) = some u) ∧ HoldsL False P w news ys.flatten := by
  cases ad with
  | none =>
    obtain ⟨rfl, rfl⟩ := Has.none h.weak rfl
    exact ⟨rfl, fun _ => rfl, [], fun a e => (by cases e), hasL_nil _ _ _⟩
  | some ad =>
    by_cases h0 : ys.length = 0
    · obtain rfl := List.length_eq_zero_iff.1 h0
      obtain ⟨a, cap, e⟩ := Holds.len h
      simp only [Value.slice.injEq] at e
      exact ⟨e.2.1.symm, fun e => (by cases e), [], fun a e => (by simp), hasL_nil _ _ _⟩
    · cases h with
      | nil => simp at h0
      | row _ _ b off cap n xs cs fp h0 hb hc hP hn hcell hrec hfp hb2 hd =>
        have hl := flatten_len hy
        refine ⟨rfl, fun e => (by cases e), (List.range (ys.length * n)).map (fun t => cs (t / n) (t % n)), fun a ea j u hu => ?_, by simp [hl], fun _ => P, fun _ _ h => h, fun s => s.elim, fun j c d hc hd => ?_⟩
        · cases ea
          have hj := lt_of_some hu
          simp at hj
          rw [List.getElem?_map, List.getElem?_range hj] at hu
          simp at hu
          subst hu
          have hn0 : 0 < n := by rcases Nat.eq_zero_or_pos n with rfl | h; simp at hj; exact h
          have := hcell (j / n) (j % n) (Nat.div_lt_of_lt_mul (by rw [Nat.mul_comm]; exact hj)) (Nat.mod_lt _ hn0)
          have e : off + j / n * n + j % n = off + j := by rw [Nat.add_assoc, Nat.mul_comm, Nat.div_add_mod]
          rw [e] at this
          rw [Go.WideShapes.add_plain]; exact this
        · have hj := lt_of_some hd
          rw [hl] at hj
          rw [List.getElem?_map, List.getElem?_range hj] at hc
          simp at hc
          subst hc
          have hn0 : 0 < n := by rcases Nat.eq_zero_or_pos n with rfl | h; simp at hj; exact h
          obtain ⟨ds, hds⟩ := some_of_lt (l := ys) (i := j / n) (Nat.div_lt_of_lt_mul (by rw [Nat.mul_comm]; exact hj))
          have hf := flatten_get hy hds (Nat.mod_lt j hn0)
          rw [Nat.mul_comm, Nat.div_add_mod, hd] at hf
          exact (hrec _ _ ds d hds hf.symm).wide (fun q _ hq => hfp _ _ q hq)
/-- A row made at once, all in blocks of P. -/
theorem Own.lit {P : Nat → Prop} {E : TypeId} {n m : Nat} {wb w : World} (vs : List Value) (xs : List (List D)) (hb : Below wb.heap.size wb w) (hm : m ≤ maxLen) (hx : xs.length = m) (hn : ∀ ds ∈ xs, ds.length = n) (hh : HoldsL False (fun q => P q ∧ q < w.heap.size) w vs xs.flatten) :
    Own False P E n wb (w.heap.size + 1) (w.alloc (.cells vs.toArray E)) (.slice (some ⟨w.heap.size, 0, none⟩) m m) xs := by
  obtain ⟨hl, fp, h2, _, h4⟩ := hh
  have hlen := flatten_len hn
  subst hx
  refine ⟨hb.alloc hb.size _, by simp, fun k hk => ?_, vs, fun i j => vs.getD (i * n + j) undef, fun _ _ q => P q ∧ q < w.heap.size, ?_, fun i ds h => hn ds (List.mem_of_getElem? h), fun i j hi hj => ?_, fun i j ds d h1 h3 => ?_, fun i j k h => ⟨h.1, by omega, fun e => ?_⟩, fun s => s.elim⟩
  · simp [Value.ownBlock] at hk; omega
  · have := World.ownsRow_lit (base := wb.heap.size) (e := E) (size := n) w vs.toArray xs.length hb.size hm (by rw [List.size_toArray, hl, hlen])
    simpa using this
  · have h5 : i * n + j < vs.length := by
      rw [hl, hlen]
      have : i * n + n ≤ xs.length * n := by rw [← Nat.succ_mul]; exact Nat.mul_le_mul_right _ hi
      omega
    dsimp only
    rw [List.getD_eq_getElem?_getD, List.getElem?_eq_getElem h5]; rfl
  · have hi : i < xs.length := lt_of_some h1
    have hj : j < n := by have := hn ds (List.mem_of_getElem? h1); have := lt_of_some h3; omega
    have hf := flatten_get hn h1 hj
    rw [h3] at hf
    have h5 : i * n + j < vs.length := by rw [hl]; exact lt_of_some hf
    have h6 := h4 (i * n + j) _ d (List.getElem?_eq_getElem h5) hf
    dsimp only
    rw [List.getD_eq_getElem?_getD, List.getElem?_eq_getElem h5]
    exact (h6.wide (fun q _ hq => h2 _ q hq)).later (below_new _ _)
  · simp [Value.ownBlock] at e; omega
theorem hl_at {P : Nat → Prop} {w : World} {v1 v2 v3 : Value} {p : Pc} (h : HoldsL False P w [v1, v2, v3] p.d) : Holds False P w v1 (dInts p.sent) ∧ Holds False P w v2 (dLls p.inn) ∧ Holds False P w v3 (dIls p.out) := by
  obtain ⟨_, fp, h2, _, h4⟩ := h
  exact ⟨(h4 0 _ _ rfl rfl).wide (fun q _ hq => h2 _ q hq), (h4 1 _ _ rfl rfl).wide (fun q _ hq => h2 _ q hq), (h4 2 _ _ rfl rfl).wide (fun q _ hq => h2 _ q hq)⟩
end Go.Proofs.Ytcopedhoepblpaa
