/- Rows that are made anew, and written to. -/
import Derived.Test.YtgoioibfecgopaaBa5
import Derived.Test.YtgoioibfecgopaaTfK
import Derived.Test.YtgoioibfecgopaaTbF
namespace Go.Proofs.Ytgoioibfecgopaa
open Go.RowKit Go.PlainAid

/-- append to a row that has nothing, and no room. -/
theorem run_app0 {w : World} (T E ty : TypeId) (i : TypeInfo) (z : Value) (n bytes : Nat) (ht : Try.prog.underlying T = some (.slice E)) (hi : Try.prog.info? E = some i) (hz : i.zero = some z) (hsize : i.size = n) (hby : i.bytes = bytes) (hzs : z.cells.size = n) (hsz : 0 < n)
    (Q : Nat → Prop) (a0 : Option Addr) (ys : List (List D)) (m c : Nat) (ad : Option Addr) (news : List Value)
    (hnews : ∀ a, ad = some a → ∀ j u, news[j]? = some u → w.cell? (a.add j) = some u) (hnone : ad = none → m = 0) (hy : ∀ ds ∈ ys, ds.length = n) (hm : ys.length = m) (hh : HoldsL True Q w news ys.flatten) (hQ : ∀ k, Q k → k < w.heap.size) (h63 : m ≤ maxLen) (hbytes : m * bytes ≤ 140737488355328) :
    ∃ ao cv w', (Builtin.append_ #[T, T] ty #[.slice a0 0 0, .slice ad m c]).run Try.prog w = .ok (.slice ao m cv) w' ∧ Holds True (fun k => Q k ∨ k = w.heap.size) w' (.slice ao m cv) (.row n ys) ∧ Below w.heap.size w w' := by
  have h0 : Holds True (fun _ => False) w (.slice a0 0 0) (.row n []) := .nil _ _ _ _ _
  rcases run_appH T E ty i z n bytes ht hi hz hsize hby hzs hsz (fun _ => False) Q a0 0 0 [] ys m c m h0 ad news hnews hnone hy hm hh (fun k hk => ⟨fun h => h, hQ k hk⟩) (Nat.zero_add m) h63 hbytes with ⟨ao, cv, w', h1, h2, h3⟩ | ⟨ao, cv, w', h1, h2, g, hg, _⟩
  · exact ⟨ao, cv, w', h1, h2.wide (fun k _ hk => by rcases hk with h | h | h; exact h.elim; exact .inl h; exact .inr h), h3⟩
  · exact hg.elim
/-- At a step of a drawn region: what is appended are plain things. -/
theorem appS0 {ops : Array Oper} {o : Oper} {a : Act} {K : Act → World → Prop} {Q : Exit → Act → World → Prop} {F : Prop} {w : World} (hgd : o.guard = none) (s x : Operand) (T E : TypeId) (i : TypeInfo) (z : Value) (n bytes : Nat)
    (ho : o.op = .call { callee := .builtin .append, args := #[s, x], argTypes := #[T, T] }) (ht : Try.prog.underlying T = some (.slice E)) (hi : Try.prog.info? E = some i) (hz : i.zero = some z) (hsize : i.size = n) (hby : i.bytes = bytes) (hzs : z.cells.size = n) (hsz : 0 < n)
    (a0 : Option Addr) (ys : List (List D)) (m c : Nat) (hs : a.eval s = .slice a0 0 0) (ad : Option Addr) (hx : a.eval x = .slice ad m c) (hv : Has w (.slice ad m c) (.row n ys)) (hy : ∀ ds ∈ ys, ds.length = n) (hf : Flat ys.flatten) (h63 : m ≤ maxLen) (hbytes : m * bytes ≤ 140737488355328)
    (H : ∀ ao cv w', Holds True (fun k => w.heap.size ≤ k) w' (.slice ao m cv) (.row n ys) → Below w.heap.size w w' → K (a.put o.dst (.slice ao m cv)) w') :
    if Region.wanted o (yielded ops a.tmps) = true then Oper.wp Try.prog o a w K Q else F := by
  have hw : Region.wanted o (yielded ops a.tmps) = true := by simp [Region.wanted, hgd]
  rw [if_pos hw]
  obtain ⟨hm, hnone, news, hnews, hh⟩ := newsOf hv hy hf
  obtain ⟨ao, cv, w', hr, h1, h2⟩ := run_app0 T E o.type i z n bytes ht hi hz hsize hby hzs hsz (fun _ => False) a0 ys m c ad news hnews hnone hy hm (hh _ _) (fun _ h => h.elim) h63 hbytes
  unfold Oper.wp execOp
  simp only [ho, resolve, invoke, builtin, Sem.run_bind, Sem.run_pure, Result.andThen_ok, List.map_toArray, List.map_cons, List.map_nil, hs, hx, hr]
  exact H ao cv w' (h1.wide (fun k _ hk => by rcases hk with h | h; exact h.elim; exact Nat.le_of_eq h.symm)) h2

theorem OpenRow.frozen {w : World} {b cap n : Nat} (h : OpenRow w b cap n) (o : Nat) : w.frozen? ⟨b, o, none⟩ = false := by
  obtain ⟨_, cur, e, h1, _⟩ := h
  simp [World.frozen?, h1]
/-- A cell of a row of numbers, to be written. -/
theorem Holds.slot1 {P : Nat → Prop} {w : World} {a : Option Addr} {len cap i : Nat} {xs : List Int} {x : Int} (h : Holds True P w (.slice a len cap) (dInts xs)) (hx : xs[i]? = some x) :
    ∃ b, a = some ⟨b, 0, none⟩ ∧ P b ∧ b < w.heap.size ∧ w.cell? ⟨b, i, none⟩ = some (.int .i64 x) ∧ w.frozen? ⟨b, i, none⟩ = false ∧ ∀ y, Holds True P (w.setCell ⟨b, i, none⟩ (.int .i64 y)) (.slice a len cap) (dInts (xs.set i y)) := by
  obtain ⟨b, o, e, _⟩ := int_at h.weak hx
  subst e
  obtain ⟨Q, c, rfl, hP, hO, hb, hc, hQP, hQb, hc2, hF⟩ := h.focus (i := i) (j := 0) (ds := [dI x]) (d := dI x) (by simp [hx]) rfl
  obtain rfl := hc2.val
  simp only [Nat.mul_one, Nat.add_zero] at hc hF
  refine ⟨b, rfl, hP, hb, hc, hO.frozen _, fun y => ?_⟩
  have := hF (w.setCell ⟨b, i, none⟩ (.int .i64 y)) (.int .i64 y) (dI y) (fun _ => False) ((SameOn.refl _ _).set _ _ (fun hk => hk.2.1 rfl)) rfl (has_int _ _ _ _) (fun _ h => h.elim)
  have e : (xs.set i y).map (fun a => [dI a]) = (xs.map fun a => [dI a]).set i ([dI x].set 0 (dI y)) := by
    rw [List.map_set]; rfl
  unfold dInts
  rw [e]
  exact this.wide (fun k _ hk => hk.elim (fun h => h) (fun h => h.elim))
/-- Two cells of a row of pairs, to be written. -/
theorem Holds.slot2 {P : Nat → Prop} {w : World} {a : Option Addr} {len cap i : Nat} {xs : Lks} {p : Int × Int} (h : Holds True P w (.slice a len cap) (dLinks xs)) (hx : xs[i]? = some p) :
    ∃ b, a = some ⟨b, 0, none⟩ ∧ P b ∧ b < w.heap.size ∧ w.cell? ⟨b, i * 2, none⟩ = some (.int .i64 p.1) ∧ w.cell? ⟨b, i * 2 + 1, none⟩ = some (.int .i64 p.2) ∧ (∀ o, w.frozen? ⟨b, o, none⟩ = false) ∧
      ∀ y z, Holds True P ((w.setCell ⟨b, i * 2, none⟩ (.int .i64 y)).setCell ⟨b, i * 2 + 1, none⟩ (.int .i64 z)) (.slice a len cap) (dLinks (xs.set i (y, z))) := by
  obtain ⟨b, o, e, _, _⟩ := link_at h.weak hx
  subst e
  have hi : (xs.map fun p => [dI p.1, dI p.2])[i]? = some [dI p.1, dI p.2] := by simp [hx]
  obtain ⟨Q, c, rfl, hP, hO, hb, hc, hQP, hQb, hc2, hF⟩ := h.focus (i := i) (j := 0) hi rfl
  obtain ⟨Q', c', _, _, _, _, hc', _, _, hc2', _⟩ := h.focus (i := i) (j := 1) hi rfl
  obtain rfl := hc2.val
  obtain rfl := hc2'.val
  rw [Nat.add_zero] at hc hF
  refine ⟨b, rfl, hP, hb, hc, hc', fun o => hO.frozen o, fun y z => ?_⟩
  have h1 := (hF (w.setCell ⟨b, i * 2, none⟩ (.int .i64 y)) (.int .i64 y) (dI y) (fun _ => False) ((SameOn.refl _ _).set _ _ (fun hk => hk.2.1 rfl)) rfl (has_int _ _ _ _) (fun _ h => h.elim)).wide (P' := P) (fun k _ hk => hk.elim (fun h => h) (fun h => h.elim))
  obtain ⟨Q2, c2, _, _, _, _, _, _, _, _, hF2⟩ := h1.focus (i := i) (j := 1) (ds := [dI y, dI p.2]) (d := dI p.2) (by rw [List.getElem?_set_self (lt_of_some hi)]; rfl) rfl
  have := (hF2 ((w.setCell ⟨b, i * 2, none⟩ (.int .i64 y)).setCell ⟨b, i * 2 + 1, none⟩ (.int .i64 z)) (.int .i64 z) (dI z) (fun _ => False) ((SameOn.refl _ _).set _ _ (fun hk => hk.2.1 rfl)) rfl (has_int _ _ _ _) (fun _ h => h.elim)).wide (P' := P) (fun k _ hk => hk.elim (fun h => h) (fun h => h.elim))
  have e : (xs.set i (y, z)).map (fun p => [dI p.1, dI p.2]) = ((xs.map fun p => [dI p.1, dI p.2]).set i ([dI p.1, dI p.2].set 0 (dI y))).set i ([dI y, dI p.2].set 1 (dI z)) := by
    rw [List.map_set, List.set_set]; rfl
  unfold dLinks
  rw [e]
  exact this

/-- Whatever pick is asked for. -/
theorem picked_any (M : Tab) (n s k : Int) (v : Value) (w : World) (h : Has w v (dTab M)) (hsm : SmallTab M) :
    Calls Try.prog 23 #[v, .int .i64 n, .int .i64 s, .int .i64 k] w fun e w' => ∃ u, e = .returned (pkv (pickAt (stAt M n s) k) u (isPick (stAt M n s) k)) ∧ Holds True (fresh w) w' u (dLinks (pickAt (stAt M n s) k).sends) ∧ Below w.heap.size w w' := by
  by_cases hk : 0 ≤ k ∧ k < (stAt M n s).picks.length
  · obtain ⟨j, rfl⟩ := Int.eq_ofNat_of_zero_le hk.1
    obtain ⟨p, hp⟩ := some_of_lt (l := (stAt M n s).picks) (i := j) (by omega)
    obtain ⟨e1, e2⟩ := pickAt_of hp
    rw [e1, e2]
    exact picked_yes M n s j p v w h hp ((smallSt_at hsm n s).2.2.2 p (List.mem_of_getElem? hp))
  · obtain ⟨e1, e2⟩ := pickAt_no hk
    rw [e1, e2]
    refine (picked_no M n s k v w h hk).mono ?_
    rintro e w' ⟨rfl, hb⟩
    exact ⟨_, rfl, .nil _ _ _ _ _, hb⟩
theorem pickAt_small {M : Tab} (hsm : SmallTab M) (n s k : Int) : (pickAt (stAt M n s) k).sends.length ≤ 1000000 := by
  by_cases hk : 0 ≤ k ∧ k < (stAt M n s).picks.length
  · obtain ⟨j, rfl⟩ := Int.eq_ofNat_of_zero_le hk.1
    obtain ⟨p, hp⟩ := some_of_lt (l := (stAt M n s).picks) (i := j) (by omega)
    rw [(pickAt_of hp).1]
    exact (smallSt_at hsm n s).2.2.2 p (List.mem_of_getElem? hp)
  · rw [(pickAt_no hk).1]; simp [Pk.zero]

/-- Cells of a block, by their place. -/
def BoxAt (h : Nat) (vs : List Value) (wr : World) : Prop := ∀ (i : Nat) (v : Value), vs[i]? = some v → wr.cell? ⟨h, i, none⟩ = some v
theorem BoxAt.below {h : Nat} {vs : List Value} {wr w' : World} (g : BoxAt h vs wr) (hb : Below wr.heap.size wr w') : BoxAt h vs w' := fun i v e => (hb.cell (World.block_lt_of_cell? wr _ (g i v e))).trans (g i v e)
theorem BoxAt.set2 {h b : Nat} {vs : List Value} {wr : World} (g : BoxAt h vs wr) (hne : b ≠ h) (o o' : Nat) (u u' : Value) : BoxAt h vs ((wr.setCell ⟨b, o, none⟩ u).setCell ⟨b, o', none⟩ u') := fun i v e => by
  have hk : ∀ k : Nat, (⟨b, k, none⟩ : Addr) ≠ ⟨h, i, none⟩ := fun k e' => hne (congrArg Addr.block e')
  rw [World.cell?_setCell_other _ _ _ _ (hk _), World.cell?_setCell_other _ _ _ _ (hk _)]; exact g i v e
theorem BoxAt.same {P : Nat → Prop} {h : Nat} {vs : List Value} {wr w' : World} (g : BoxAt h vs wr) (hs : SameOn P wr w') (hp : P h) : BoxAt h vs w' := fun i v e => (hs.cell (a := ⟨h, i, none⟩) hp (World.block_lt_of_cell? wr _ (g i v e))).trans (g i v e)
theorem below_step' {a b c : World} (h : Below a.heap.size a b) (h' : Below b.heap.size b c) : Below a.heap.size a c := below_step h.size h h'
theorem app_fin {a b c : World} {v : Value} {d : D} (hH : Holds True (fun k => b.heap.size ≤ k) c v d) (hB : Below b.heap.size b c) (h : Below a.heap.size a b) : Holds True (fun k => a.heap.size ≤ k) c v d ∧ Below a.heap.size a c := ⟨hH.wide (fun _ _ hk => Nat.le_trans h.size hk), below_step' h hB⟩
theorem boxAt_new (w : World) (vs : List Value) (T : TypeId) : BoxAt w.heap.size vs (w.alloc (.cells vs.toArray T)) := fun i v e => (World.cell?_alloc_at _ _ _ _ rfl).trans (by simpa using e)
end Go.Proofs.Ytgoioibfecgopaa
