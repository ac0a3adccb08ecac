/- Rows that the call builds: append. -/
import Derived.Test.YtegpdfocfohkcaaMeA
import Derived.Laws.AppendOwn
namespace Go.Proofs.Ytegpdfocfohkcaa
open Go.RowKit Go.PlainAid

theorem flatten_len {n : Nat} : ∀ {ys : List (List D)}, (∀ ds ∈ ys, ds.length = n) → ys.flatten.length = ys.length * n
  | [], _ => by simp
  | ds :: r, h => by
    rw [List.flatten_cons, List.length_append, flatten_len (fun d hd => h d (List.mem_cons_of_mem _ hd)), h ds (List.mem_cons_self ..), List.length_cons, Nat.succ_mul, Nat.add_comm]
theorem flatten_get {n : Nat} : ∀ {ys : List (List D)} {i j : Nat} {ds : List D}, (∀ ds ∈ ys, ds.length = n) → ys[i]? = some ds → j < n → ys.flatten[i * n + j]? = ds[j]?
  | [], i, j, ds, _, h, _ => by simp at h
  | q :: r, 0, j, ds, hn, h, hj => by
    simp at h; subst h
    rw [List.flatten_cons, Nat.zero_mul, Nat.zero_add, List.getElem?_append_left (by rw [hn q (List.mem_cons_self ..)]; exact hj)]
  | q :: r, i + 1, j, ds, hn, h, hj => by
    have hq := hn q (List.mem_cons_self ..)
    rw [List.flatten_cons, List.getElem?_append_right (by rw [hq, Nat.succ_mul]; omega), hq, show (i + 1) * n + j - n = i * n + j by rw [Nat.succ_mul]; omega]
    exact flatten_get (fun d hd => hn d (List.mem_cons_of_mem _ hd)) (by simpa using h) hj

theorem grown_of_below {w w' : World} (h : Below w.heap.size w w') (row : Option Nat) : w.grownBy w' row := ⟨h.os, h.tape, h.output, h.size, fun k hk _ => h.block k hk⟩

/-- A row that the call is building: what it holds lies in blocks of P, below 'lim', and not in the row's own. -/
structure Own (S : Prop) (P : Nat → Prop) (E : TypeId) (n : Nat) (wb : World) (lim : Nat) (w : World) (v : Value) (xs : List (List D)) : Prop where
  bel : Below wb.heap.size wb w
  lim_le : lim ≤ w.heap.size
  blk : ∀ k, v.ownBlock = some k → k < lim
  ex : ∃ (cells : List Value) (cs : Nat → Nat → Value) (fp : Nat → Nat → Nat → Prop), w.ownsRow wb.heap.size E n v xs.length cells ∧ (∀ (i : Nat) (ds : List D), xs[i]? = some ds → ds.length = n) ∧
    (∀ i j, i < xs.length → j < n → cells[i * n + j]? = some (cs i j)) ∧ (∀ (i j : Nat) (ds : List D) (d : D), xs[i]? = some ds → ds[j]? = some d → Holds S (fp i j) w (cs i j) d) ∧
    (∀ i j k, fp i j k → P k ∧ k < lim ∧ v.ownBlock ≠ some k) ∧ (S → ∀ i j i' j' k, fp i j k → fp i' j' k → i = i' ∧ j = j')

theorem Own.nil {S : Prop} {P : Nat → Prop} {E : TypeId} {n : Nat} {wb w : World} (hb : Below wb.heap.size wb w) : Own S P E n wb w.heap.size w (.slice none 0 0) [] :=
  ⟨hb, Nat.le_refl _, fun k hk => by simp [Value.ownBlock] at hk, [], fun _ _ => .bool true, fun _ _ _ => False, World.ownsRow_nil _ _ _ _, fun i ds h => by simp at h, fun i j h => by simp at h, fun i j ds d h => by simp at h, fun _ _ _ h => h.elim, fun _ _ _ _ _ _ h => h.elim⟩
theorem Own.later {S : Prop} {P : Nat → Prop} {E : TypeId} {n lim : Nat} {wb w w' : World} {v : Value} {xs : List (List D)} (h : Own S P E n wb lim w v xs) (hb : Below w.heap.size w w') : Own S P E n wb lim w' v xs := by
  obtain ⟨h1, h2, h3, cells, cs, fp, h4, h5, h6, h7, h8, h9⟩ := h
  exact ⟨h1.trans (hb.mono h1.size), Nat.le_trans h2 hb.size, h3, cells, cs, fp, h4.kept (grown_of_below hb none) (by cases v.ownBlock <;> simp), h5, h6, fun i j ds d a b => (h7 i j ds d a b).later hb, h8, h9⟩
theorem Own.lift {S : Prop} {P : Nat → Prop} {E : TypeId} {n lim lim' : Nat} {wb w : World} {v : Value} {xs : List (List D)} (h : Own S P E n wb lim w v xs) (h1 : lim ≤ lim') (h2 : lim' ≤ w.heap.size) : Own S P E n wb lim' w v xs := by
  obtain ⟨g1, g2, g3, cells, cs, fp, h4, h5, h6, h7, h8, h9⟩ := h
  exact ⟨g1, h2, fun k hk => Nat.lt_of_lt_of_le (g3 k hk) h1, cells, cs, fp, h4, h5, h6, h7, fun i j k hf => ⟨(h8 i j k hf).1, Nat.lt_of_lt_of_le (h8 i j k hf).2.1 h1, (h8 i j k hf).2.2⟩, h9⟩
theorem Own.slice {S : Prop} {P : Nat → Prop} {E : TypeId} {n lim : Nat} {wb w : World} {v : Value} {xs : List (List D)} (h : Own S P E n wb lim w v xs) : ∃ a c, v = .slice a xs.length c := by
  obtain ⟨_, _, _, cells, cs, fp, h4, _⟩ := h
  exact owns_slice h4
theorem Own.ge {S : Prop} {P : Nat → Prop} {E : TypeId} {n lim : Nat} {wb w : World} {v : Value} {xs : List (List D)} (h : Own S P E n wb lim w v xs) : ∀ k, v.ownBlock = some k → wb.heap.size ≤ k ∧ k < w.heap.size := by
  obtain ⟨_, _, _, cells, cs, fp, h4, _⟩ := h
  exact h4.lt
/-- What the row holds at last. -/
theorem Own.holds {S : Prop} {P : Nat → Prop} {E : TypeId} {n lim : Nat} {wb w : World} {v : Value} {xs : List (List D)} (h : Own S P E n wb lim w v xs) (hP : ∀ k, v.ownBlock = some k → P k) : Holds S P w v (.row n xs) := by
  obtain ⟨h1, h2, h3, cells, cs, fp, h4, h5, h6, h7, h8, h9⟩ := h
  by_cases h0 : xs.length = 0
  · obtain ⟨a, c, rfl⟩ := owns_slice h4
    obtain rfl := List.length_eq_zero_iff.1 h0
    exact .nil _ _ _ _ _
  · have hcell := fun g => h4.cells (g := g)
    rcases h4.2 with ⟨_, e⟩ | ⟨g, cap, cur, rfl, hge, hg, hle, _⟩
    · exact absurd e h0
    · refine .row P w g 0 cap n xs cs fp (by omega) (lt_of_block hg) hle (hP g rfl) h5 (fun i j hi hj => ?_) h7 (fun i j k hf => (h8 i j k hf).1) (fun _ i j hf => (h8 i j g hf).2.2 rfl) h9
      have := hcell g rfl _ _ (h6 i j hi hj)
      have e : (⟨g, 0, none⟩ : Addr).add (i * n + j) = ⟨g, 0 + i * n + j, none⟩ := by unfold Addr.add; split <;> simp_all
      rw [e] at this; exact this

/-- Where a row goes that is appended to. -/
theorem app_block {w w' : World} {base m n : Nat} {T ty E : TypeId} {i : TypeInfo} {z : Value} {size bytes : Nat} {v v' : Value} {xs news : List Value} {ad : Addr} {c : Nat} (ht : Try.prog.underlying T = some (.slice E)) (hi : Try.prog.info? E = some i) (hz : i.zero = some z)
    (hsize : i.size = size) (hby : i.bytes = bytes) (hzs : z.cells.size = size) (hsz : 0 < size) (hown : w.ownsRow base E size v n xs) (hl : news.length = m * size) (hnews : ∀ j u, news[j]? = some u → w.cell? (ad.add j) = some u) (h1 : ∀ u ∈ news, u.oneCell' = true)
    (h63 : n + m ≤ maxLen) (hbytes : (n + m) * bytes ≤ 140737488355328) (hr : (Builtin.append_ #[T, T] ty #[v, .slice (some ad) m c]).run Try.prog w = .ok v' w') :
    v'.ownBlock = v.ownBlock ∨ v'.ownBlock = some w.heap.size := by
  subst hsize hby
  have hb63 : ((n + m : Nat) : Int) ≤ 9223372036854775807 := by unfold maxLen at h63; omega
  rcases hown.2 with ⟨rfl, rfl⟩ | ⟨g, cap, cur, rfl, _, hg, hnc, _, hcs, _⟩
  · by_cases hm : m = 0
    · subst hm
      have hn : news = [] := List.eq_nil_of_length_eq_zero (by simpa using hl)
      subst hn
      obtain ⟨v1, w1, hr1, _, _, h4⟩ := run_append_own (P := Try.prog) w w.heap.size T ty E i z i.size i.bytes ht hi hz rfl rfl hzs hsz _ 0 [] (World.ownsRow_nil _ _ _ _) ad 0 c [] (by simp) (by simp) (by simp) (by unfold maxLen; omega) (by omega) (Nat.le_refl _)
      rw [hr1] at hr
      cases hr
      rw [h4.2 ⟨rfl, rfl⟩]
      exact .inl rfl
    · have := run_append_nil (P := Try.prog) w T ty E i z ht hi hz ad m c news hl hnews (by omega) (by omega) (by have hb := hbytes; simp only [Nat.zero_add] at hb; omega)
      rw [this] at hr
      cases hr
      exact .inr rfl
  · by_cases hroom : n + m ≤ cap
    · have := run_append_room (P := Try.prog) w T ty E i ht hi g n cap cur hg ad m c news hl hnews h1 hroom (by rw [hl, hcs, ← Nat.add_mul]; exact Nat.mul_le_mul_right _ hroom)
      rw [this] at hr
      cases hr
      exact .inl rfl
    · have := run_append_grow (P := Try.prog) w T ty E i z ht hi hz ⟨g, 0, none⟩ n cap xs hown.1 (hown.cells (g := g) rfl) ad m c news hl hnews (by omega) hb63 (growslice_fits (by omega) hbytes)
      rw [this] at hr
      cases hr
      exact .inr rfl

/-- What a row owns is fixed by the memory, but for what lies beyond its length. -/
theorem ownsRow_det {w : World} {base n k : Nat} {E : TypeId} {v : Value} {a b : List Value} (h : w.ownsRow base E n v k a) (h' : w.ownsRow base E n v k b) : a = b := by
  rcases h.2 with ⟨rfl, rfl⟩ | ⟨g, cap, cur, rfl, _, hg, _, _, _, ht⟩
  · have e1 := h.1
    have e2 := h'.1
    simp at e1 e2
    rw [e1, e2]
  · rcases h'.2 with ⟨e, _⟩ | ⟨g', cap', cur', e, _, hg', _, _, _, ht'⟩
    · cases e
    · simp only [Value.slice.injEq, Option.some.injEq, Addr.mk.injEq] at e
      obtain ⟨⟨rfl, _⟩, _, _⟩ := e
      rw [hg] at hg'
      simp only [Option.some.injEq, Obj.cells.injEq] at hg'
      obtain ⟨rfl, _⟩ := hg'
      rw [← ht, ← ht']
theorem Own.push {S : Prop} {P : Nat → Prop} {E : TypeId} {n lim m : Nat} {wb w w' : World} {v v' : Value} {xs ys : List (List D)} {news : List Value} (h : Own S P E n wb lim w v xs) (hy : ∀ ds ∈ ys, ds.length = n) (hm : ys.length = m)
    (hh : HoldsL S (fun k => P k ∧ v.ownBlock ≠ some k ∧ (S → lim ≤ k)) w news ys.flatten) (hb : v'.ownBlock = v.ownBlock ∨ v'.ownBlock = some w.heap.size)
    (hg : w.grownBy w' v.ownBlock) (hown : ∀ cells, w.ownsRow wb.heap.size E n v xs.length cells → w'.ownsRow wb.heap.size E n v' (xs.length + m) (cells ++ news)) : Own S P E n wb w'.heap.size w' v' (xs ++ ys) := by
  obtain ⟨h1, h2, h3, cells, cs, fp, h4, h5, h6, h7, h8, h9⟩ := h
  obtain ⟨hl, gp, g1, g2, g3⟩ := hh
  have hlt := h4.lt
  have hbl : ∀ k, v'.ownBlock = some k → k < w'.heap.size := fun k hk => ((hown cells h4).lt k hk).2
  have hk' : ∀ k, k < w.heap.size → v.ownBlock ≠ some k → v'.ownBlock ≠ some k := by
    intro k hk hne e
    rcases hb with hb | hb
    · rw [hb] at e; exact hne e
    · rw [hb] at e; simp at e; omega
  have hsame : ∀ Q : Nat → Prop, (∀ k, Q k → v.ownBlock ≠ some k) → SameOn Q w w' := fun Q hQ => ⟨hg.size, fun b hq hb => hg.block b hb (fun e => hQ b hq e.symm)⟩
  have hcl : cells.length = xs.length * n := h4.1
  refine ⟨h1.grown hg h1.size (fun k hk => (hlt k hk).1), Nat.le_refl _, hbl, cells ++ news, fun i j => if i < xs.length then cs i j else news.getD ((i - xs.length) * n + j) (.bool true),
    fun i j k => if i < xs.length then fp i j k else gp ((i - xs.length) * n + j) k ∧ j < n ∧ k < w.heap.size, by rw [List.length_append, hm]; exact hown cells h4, fun i ds hi => ?_, fun i j hi hj => ?_, fun i j ds d hi hj => ?_, fun i j k hf => ?_, fun s i j i' j' k hf hf' => ?_⟩
  · rw [List.getElem?_append] at hi
    split at hi
    · exact h5 i ds hi
    · exact hy ds (List.mem_of_getElem? hi)
  · by_cases hix : i < xs.length
    · simp only [if_pos hix]
      rw [List.getElem?_append_left (by rw [hcl]; exact Nat.lt_of_lt_of_le (Nat.lt_of_lt_of_le (Nat.add_lt_add_left hj _) (by rw [← Nat.succ_mul]; exact Nat.le_refl _)) (Nat.mul_le_mul_right n hix))]
      exact h6 i j hix hj
    · simp only [if_neg hix]
      have e : i * n + j = cells.length + ((i - xs.length) * n + j) := by
        rw [hcl, ← Nat.add_assoc, ← Nat.add_mul]; congr 2; omega
      rw [e, List.getElem?_append_right (by omega), Nat.add_sub_cancel_left]
      have hlt : (i - xs.length) * n + j < news.length := by
        rw [hl, flatten_len hy]
        rw [List.length_append] at hi
        exact Nat.lt_of_lt_of_le (Nat.lt_of_lt_of_le (Nat.add_lt_add_left hj _) (by rw [← Nat.succ_mul]; exact Nat.le_refl _)) (Nat.mul_le_mul_right n (show i - xs.length + 1 ≤ ys.length by omega))
      simp [List.getD, hlt]
  · by_cases hix : i < xs.length
    · simp only [if_pos hix]
      rw [List.getElem?_append_left hix] at hi
      exact (h7 i j ds d hi hj).same (hsame _ fun k hf => (h8 i j k hf).2.2)
    · simp only [if_neg hix]
      rw [List.getElem?_append_right (by omega)] at hi
      have hjn : j < n := by rw [← hy ds (List.mem_of_getElem? hi)]; exact lt_of_some hj
      have hf := flatten_get hy hi hjn
      rw [hj] at hf
      have hlt : (i - xs.length) * n + j < news.length := by rw [hl]; exact lt_of_some hf
      have := g3 _ _ _ (List.getElem?_eq_getElem hlt) hf
      rw [show news.getD ((i - xs.length) * n + j) (.bool true) = news[(i - xs.length) * n + j] by simp [List.getD, hlt]]
      exact (this.wide (P' := fun k => gp ((i - xs.length) * n + j) k ∧ j < n ∧ k < w.heap.size) (fun b hb p => ⟨p, hjn, hb⟩)).same (hsame _ fun k hf => (g1 _ k hf.1).2.1)
  · by_cases hix : i < xs.length
    · simp only [if_pos hix] at hf
      obtain ⟨a, b, c⟩ := h8 i j k hf
      exact ⟨a, by have := hg.size; omega, hk' k (by omega) c⟩
    · simp only [if_neg hix] at hf
      obtain ⟨a, b, c⟩ := g1 _ k hf.1
      exact ⟨a, by have := hg.size; omega, hk' k hf.2.2 b⟩
  · by_cases hix : i < xs.length <;> by_cases hix' : i' < xs.length
    · simp only [if_pos hix] at hf
      simp only [if_pos hix'] at hf'
      exact h9 s i j i' j' k hf hf'
    · simp only [if_pos hix] at hf
      simp only [if_neg hix'] at hf'
      have a := (h8 i j k hf).2.1
      have b := (g1 _ k hf'.1).2.2 s
      omega
    · simp only [if_neg hix] at hf
      simp only [if_pos hix'] at hf'
      have a := (h8 i' j' k hf').2.1
      have b := (g1 _ k hf.1).2.2 s
      omega
    · simp only [if_neg hix] at hf
      simp only [if_neg hix'] at hf'
      have e := g2 s _ _ k hf.1 hf'.1
      have h1 := hf.2.1
      have h2 := hf'.2.1
      have hd : ∀ a b : Nat, b < n → (a * n + b) / n = a ∧ (a * n + b) % n = b := fun a b hb => by
        have hn : 0 < n := by omega
        rw [Nat.mul_comm]
        exact ⟨by rw [Nat.mul_add_div hn, Nat.div_eq_of_lt hb, Nat.add_zero], by rw [Nat.mul_add_mod, Nat.mod_eq_of_lt hb]⟩
      have d1 := hd (i - xs.length) j h1
      have d2 := hd (i' - xs.length) j' h2
      rw [e] at d1
      omega

/-- append to a row that the call is building. -/
theorem app_own {ops : Array Oper} {rest : List Oper} {o : Oper} {a : Act} {Q : Exit → Act → World → Prop} {w : World} (hgd : o.guard = none) (s x : Operand) (T E : TypeId) (i : TypeInfo) (z : Value) (n bytes : Nat)
    (ho : o.op = .call { callee := .builtin .append, args := #[s, x], argTypes := #[T, T] }) (ht : Try.prog.underlying T = some (.slice E)) (hi : Try.prog.info? E = some i) (hz : i.zero = some z) (hsize : i.size = n) (hby : i.bytes = bytes) (hzs : z.cells.size = n) (hsz : 0 < n)
    (S : Prop) (P : Nat → Prop) (wb : World) (lim : Nat) (v : Value) (xs ys : List (List D)) (k m c : Nat) (hs : a.eval s = v) (h : Own S P E n wb lim w v xs) (hk : xs.length = k) (ad : Addr) (hx : a.eval x = .slice (some ad) m c) (news : List Value)
    (hnews : ∀ j u, news[j]? = some u → w.cell? (ad.add j) = some u) (hy : ∀ ds ∈ ys, ds.length = n) (hm : ys.length = m) (hh : HoldsL S (fun k => P k ∧ v.ownBlock ≠ some k ∧ (S → lim ≤ k)) w news ys.flatten) (h63 : k + m ≤ maxLen) (hbytes : (k + m) * bytes ≤ 140737488355328)
    (K : ∀ ao cv w', Own S P E n wb w'.heap.size w' (.slice ao (k + m) cv) (xs ++ ys) → w.grownBy w' v.ownBlock → wpList Try.prog ops Q rest (a.put o.dst (.slice ao (k + m) cv)) w') : wpList Try.prog ops Q (o :: rest) a w := by
  subst hk
  have hl : news.length = m * n := by rw [hh.1, flatten_len hy, hm]
  have h1 : ∀ u ∈ news, u.oneCell' = true := by
    intro u hu
    obtain ⟨j, hj, rfl⟩ := List.getElem_of_mem hu
    obtain ⟨hl', gp, _, _, g3⟩ := hh
    exact (g3 j _ _ (List.getElem?_eq_getElem hj) (List.getElem?_eq_getElem (by omega))).one
  obtain ⟨cells, cs, fp, h4, _⟩ := h.ex
  obtain ⟨v', w', hr, hown, hg, _⟩ := run_append_own (P := Try.prog) w wb.heap.size T o.type E i z n bytes ht hi hz hsize hby hzs hsz v xs.length cells h4 ad m c news hl hnews h1 h63 hbytes h.bel.size
  have hb := app_block ht hi hz hsize hby hzs hsz h4 hl hnews h1 h63 hbytes hr
  refine wpList_plain hgd fun K' hK => ?_
  unfold Oper.wp execOp
  simp only [ho, resolve, invoke, builtin, Sem.run_bind, Sem.run_pure, Result.andThen_ok, List.map_toArray, List.map_cons, List.map_nil, hs, hx, hr]
  obtain ⟨ao, cv, rfl⟩ := owns_slice hown
  refine hK _ _ (K ao cv w' (h.push hy hm hh hb hg fun cells' hc => ?_) hg)
  have : cells' = cells := ownsRow_det hc h4
  rw [this]; exact hown
end Go.Proofs.Ytegpdfocfohkcaa
