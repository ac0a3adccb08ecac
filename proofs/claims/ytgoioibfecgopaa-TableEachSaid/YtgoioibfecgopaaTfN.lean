/- One element of a row that may be written, seen by itself; append in a list of operations, and at a step of a drawn region. -/
import Derived.Test.YtgoioibfecgopaaTfL
namespace Go.Proofs.Ytgoioibfecgopaa
open Go.RowKit Go.PlainAid

theorem Holds.elem {P : Nat → Prop} {w : World} {b off len cap n i : Nat} {xs : List (List D)} {ds : List D} (h : Holds True P w (.slice (some ⟨b, off, none⟩) len cap) (.row n xs)) (hi : xs[i]? = some ds) :
    ∃ (Q : Nat → Prop) (cs : List Value), off = 0 ∧ P b ∧ OpenRow w b cap n ∧ b < w.heap.size ∧ ds.length = n ∧ (∀ (j : Nat) (c : Value), cs[j]? = some c → w.cell? ⟨b, i * n + j, none⟩ = some c) ∧ (∀ k, Q k → P k) ∧ ¬ Q b ∧ HoldsL True Q w cs ds ∧
      ∀ (w2 : World) (cs' : List Value) (ds' : List D) (Q' : Nat → Prop), SameOn (fun k => P k ∧ k ≠ b ∧ ¬ Q k) w w2 → OpenRow w2 b cap n → ds'.length = n → (∀ (j : Nat) (c : Value), cs'[j]? = some c → w2.cell? ⟨b, i * n + j, none⟩ = some c) →
        (∀ (o : Nat) (c : Value), (o < i * n ∨ i * n + n ≤ o) → w.cell? ⟨b, o, none⟩ = some c → w2.cell? ⟨b, o, none⟩ = some c) → HoldsL True Q' w2 cs' ds' → (∀ k, Q' k → k ≠ b ∧ (Q k ∨ ¬ P k)) →
        Holds True (fun k => P k ∨ Q' k) w2 (.slice (some ⟨b, off, none⟩) len cap) (.row n (xs.set i ds')) := by
  cases h with
  | nil => simp at hi
  | row _ _ _ _ _ _ _ cs fp h0 hb hc hP hn hcell hrec hfp hb2 hdj hop =>
    obtain ⟨rfl, hO⟩ := hop trivial
    have hil := lt_of_some hi
    have hdl := hn i ds hi
    refine ⟨fun k => ∃ j, fp i j k, (List.range n).map (cs i), rfl, hP, hO, hb, hdl, fun j c hj => ?_, fun k ⟨j, hk⟩ => hfp i j k hk, fun ⟨j, hk⟩ => hb2 trivial i j hk, ⟨by simp [hdl], fun j k => fp i j k, fun j k hk => ⟨j, hk⟩, fun _ j j' k h1 h2 => (hdj trivial i j i j' k h1 h2).2, fun j c d hj hd => ?_⟩, ?_⟩
    · have hjn : j < n := by have := lt_of_some hj; simpa using this
      rw [List.getElem?_map, List.getElem?_range hjn] at hj
      simp at hj
      subst hj
      simpa using hcell i j hil hjn
    · have hjn : j < n := by rw [← hdl]; exact lt_of_some hd
      rw [List.getElem?_map, List.getElem?_range hjn] at hj
      simp at hj
      subst hj
      exact hrec i j ds d hi hd
    intro w2 cs' ds' Q' hs hO2 hl' hc2 hco hL hQ
    obtain ⟨gl, gp, g1, g2, g3⟩ := hL
    have hlen : (xs.set i ds').length = xs.length := by simp
    have hget : ∀ (a : Nat) (e : List D), (xs.set i ds')[a]? = some e → (a = i ∧ e = ds') ∨ (a ≠ i ∧ xs[a]? = some e) := fun a e he => by
      rw [List.getElem?_set] at he
      split at he
      · next h => subst h; (try rw [if_pos hil] at he); cases he; exact .inl ⟨rfl, rfl⟩
      · next h => exact .inr ⟨fun e => h e.symm, he⟩
    have hkeep : ∀ a c, a ≠ i → SameOn (fp a c) w w2 := fun a c hne => hs.sub fun k hk => ⟨hfp a c k hk, fun e => hb2 trivial a c (by rw [← e]; exact hk), fun ⟨j, h3⟩ => hne (hdj trivial a c i j k hk h3).1⟩
    have hb2' : b < w2.heap.size := by obtain ⟨_, cur, e0, hg, _⟩ := hO2; exact (Array.getElem?_eq_some_iff.1 hg).1
    rw [← hlen]
    refine Holds.row _ w2 b 0 cap n _ (fun a c => if a = i then cs'.getD c (.bool true) else cs a c) (fun a c k => if a = i then gp c k else fp a c k) (by rw [hlen]; exact h0) hb2' (by rw [hlen]; exact hc) (.inl hP)
      (fun a e he => ?_) (fun a c ha hcc => ?_) (fun a c e d2 h1 h2 => ?_) (fun a c k hk => ?_) (fun _ a c hk => ?_) (fun _ a c a' c' k hk hk' => ?_) (fun _ => ⟨rfl, hO2⟩)
    · rcases hget a e he with ⟨_, rfl⟩ | ⟨_, he⟩
      · exact hl'
      · exact hn a e he
    · rw [hlen] at ha
      rw [Nat.zero_add]
      by_cases e : a = i
      · subst e
        rw [if_pos rfl]
        have hcl : c < cs'.length := by rw [gl, hl']; exact hcc
        exact hc2 c _ (by simp [List.getD, List.getElem?_eq_getElem hcl])
      · rw [if_neg e]
        refine hco _ _ ?_ (by simpa using hcell a c ha hcc)
        rcases Nat.lt_or_gt_of_ne e with h | h
        · left
          have : a * n + n ≤ i * n := by rw [← Nat.succ_mul]; exact Nat.mul_le_mul_right n h
          omega
        · right
          have : i * n + n ≤ a * n := by rw [← Nat.succ_mul]; exact Nat.mul_le_mul_right n h
          omega
    · rcases hget a e h1 with ⟨rfl, rfl⟩ | ⟨hne, h1⟩
      · simp only [if_true]
        have hcl : c < cs'.length := by rw [gl]; exact lt_of_some h2
        exact g3 c _ d2 (by simp [List.getD, List.getElem?_eq_getElem hcl]) h2
      · simp only [if_neg hne]
        exact (hrec a c e d2 h1 h2).same (hkeep a c hne)
    · split at hk
      · exact .inr (g1 _ _ hk)
      · exact .inl (hfp a c k hk)
    · split at hk
      · exact (hQ _ (g1 _ _ hk)).1 rfl
      · exact hb2 trivial a c hk
    · have no : ∀ a c c2, a ≠ i → fp a c k → gp c2 k → False := fun a c c2 hne hk hg => by
        rcases (hQ k (g1 _ _ hg)).2 with ⟨j, h⟩ | h
        · exact hne (hdj trivial a c i j k hk h).1
        · exact h (hfp a c k hk)
      split at hk <;> split at hk'
      · next h1 h2 => exact ⟨h1.trans h2.symm, g2 trivial _ _ _ hk hk'⟩
      · next h1 h2 => exact (no a' c' c h2 hk' hk).elim
      · next h1 h2 => exact (no a c c' h1 hk hk').elim
      · exact hdj trivial a c a' c' k hk hk'

/-- append to a row that may be written: what it leaves. -/
theorem run_appK {w : World} (T E ty : TypeId) (i : TypeInfo) (z : Value) (n bytes : Nat) (ht : Try.prog.underlying T = some (.slice E)) (hi : Try.prog.info? E = some i) (hz : i.zero = some z) (hsize : i.size = n) (hby : i.bytes = bytes) (hzs : z.cells.size = n) (hsz : 0 < n)
    (P Q : Nat → Prop) (wb : World) (hwb : Below wb.heap.size wb w) (hPb : ∀ k, P k → wb.heap.size ≤ k) (a0 : Option Addr) (k cap : Nat) (xs ys : List (List D)) (m c l : Nat) (h : Holds True P w (.slice a0 k cap) (.row n xs)) (ad : Option Addr) (news : List Value)
    (hnews : ∀ a, ad = some a → ∀ j u, news[j]? = some u → w.cell? (a.add j) = some u) (hnone : ad = none → m = 0) (hy : ∀ ds ∈ ys, ds.length = n) (hm : ys.length = m) (hh : HoldsL True Q w news ys.flatten) (hQ : ∀ k, Q k → ¬ P k ∧ k < w.heap.size) (hl : k + m = l) (h63 : l ≤ maxLen) (hbytes : l * bytes ≤ 140737488355328) :
    ∃ ao cv w', (Builtin.append_ #[T, T] ty #[.slice a0 k cap, .slice ad m c]).run Try.prog w = .ok (.slice ao l cv) w' ∧ Holds True (fun k => P k ∨ Q k ∨ k = w.heap.size) w' (.slice ao l cv) (.row n (xs ++ ys)) ∧ SameOn (fun k => ¬ P k) w w' ∧ Below wb.heap.size wb w' := by
  rcases run_appH T E ty i z n bytes ht hi hz hsize hby hzs hsz P Q a0 k cap xs ys m c l h ad news hnews hnone hy hm hh hQ hl h63 hbytes with ⟨ao, cv, w', h1, h2, h3⟩ | ⟨ao, cv, w', h1, h2, g, hg, _, _, _, hgr⟩
  · exact ⟨ao, cv, w', h1, h2, .of_below h3, below_step' hwb h3⟩
  · exact ⟨ao, cv, w', h1, h2.wide (fun k _ hk => hk.elim .inl (fun h => .inr (.inl h))), ⟨hgr.size, fun b hb hlt => hgr.block b hlt (fun e => by cases e; exact hb hg)⟩, hwb.grown hgr hwb.size (fun k hk => by cases hk; exact hPb _ hg)⟩
theorem appLK {ops : Array Oper} {rest : List Oper} {o : Oper} {a : Act} {R : Exit → Act → World → Prop} {w : World} (hgd : o.guard = none) (s x : Operand) (T E : TypeId) (i : TypeInfo) (z : Value) (n bytes : Nat)
    (ho : o.op = .call { callee := .builtin .append, args := #[s, x], argTypes := #[T, T] }) (ht : Try.prog.underlying T = some (.slice E)) (hi : Try.prog.info? E = some i) (hz : i.zero = some z) (hsize : i.size = n) (hby : i.bytes = bytes) (hzs : z.cells.size = n) (hsz : 0 < n)
    (P Q : Nat → Prop) (wb : World) (hwb : Below wb.heap.size wb w) (hPb : ∀ k, P k → wb.heap.size ≤ k) (a0 : Option Addr) (k cap : Nat) (xs ys : List (List D)) (m c l : Nat) (hs : a.eval s = .slice a0 k cap) (h : Holds True P w (.slice a0 k cap) (.row n xs)) (ad : Option Addr) (hx : a.eval x = .slice ad m c) (news : List Value)
    (hnews : ∀ a, ad = some a → ∀ j u, news[j]? = some u → w.cell? (a.add j) = some u) (hnone : ad = none → m = 0) (hy : ∀ ds ∈ ys, ds.length = n) (hm : ys.length = m) (hh : HoldsL True Q w news ys.flatten) (hQ : ∀ k, Q k → ¬ P k ∧ k < w.heap.size) (hl : k + m = l) (h63 : l ≤ maxLen) (hbytes : l * bytes ≤ 140737488355328)
    (K : ∀ ao cv w', Holds True (fun k => P k ∨ Q k ∨ k = w.heap.size) w' (.slice ao l cv) (.row n (xs ++ ys)) → SameOn (fun k => ¬ P k) w w' → Below wb.heap.size wb w' → wpList Try.prog ops R rest (a.put o.dst (.slice ao l cv)) w') : wpList Try.prog ops R (o :: rest) a w := by
  obtain ⟨ao, cv, w', hr, h1, h2, h3⟩ := run_appK T E o.type i z n bytes ht hi hz hsize hby hzs hsz P Q wb hwb hPb a0 k cap xs ys m c l h ad news hnews hnone hy hm hh hQ hl h63 hbytes
  refine wpList_plain hgd fun K' hK => ?_
  unfold Oper.wp execOp
  simp only [ho, resolve, invoke, builtin, Sem.run_bind, Sem.run_pure, Result.andThen_ok, List.map_toArray, List.map_cons, List.map_nil, hs, hx, hr]
  exact hK _ _ (K ao cv w' h1 h2 h3)
theorem appSK {ops : Array Oper} {o : Oper} {a : Act} {K : Act → World → Prop} {R : Exit → Act → World → Prop} {F : Prop} {w : World} (hgd : o.guard = none) (s x : Operand) (T E : TypeId) (i : TypeInfo) (z : Value) (n bytes : Nat)
    (ho : o.op = .call { callee := .builtin .append, args := #[s, x], argTypes := #[T, T] }) (ht : Try.prog.underlying T = some (.slice E)) (hi : Try.prog.info? E = some i) (hz : i.zero = some z) (hsize : i.size = n) (hby : i.bytes = bytes) (hzs : z.cells.size = n) (hsz : 0 < n)
    (P Q : Nat → Prop) (wb : World) (hwb : Below wb.heap.size wb w) (hPb : ∀ k, P k → wb.heap.size ≤ k) (a0 : Option Addr) (k cap : Nat) (xs ys : List (List D)) (m c l : Nat) (hs : a.eval s = .slice a0 k cap) (h : Holds True P w (.slice a0 k cap) (.row n xs)) (ad : Option Addr) (hx : a.eval x = .slice ad m c) (news : List Value)
    (hnews : ∀ a, ad = some a → ∀ j u, news[j]? = some u → w.cell? (a.add j) = some u) (hnone : ad = none → m = 0) (hy : ∀ ds ∈ ys, ds.length = n) (hm : ys.length = m) (hh : HoldsL True Q w news ys.flatten) (hQ : ∀ k, Q k → ¬ P k ∧ k < w.heap.size) (hl : k + m = l) (h63 : l ≤ maxLen) (hbytes : l * bytes ≤ 140737488355328)
    (H : ∀ ao cv w', Holds True (fun k => P k ∨ Q k ∨ k = w.heap.size) w' (.slice ao l cv) (.row n (xs ++ ys)) → SameOn (fun k => ¬ P k) w w' → Below wb.heap.size wb w' → K (a.put o.dst (.slice ao l cv)) w') :
    if Region.wanted o (yielded ops a.tmps) = true then Oper.wp Try.prog o a w K R else F := by
  have hw : Region.wanted o (yielded ops a.tmps) = true := by simp [Region.wanted, hgd]
  rw [if_pos hw]
  obtain ⟨ao, cv, w', hr, h1, h2, h3⟩ := run_appK T E o.type i z n bytes ht hi hz hsize hby hzs hsz P Q wb hwb hPb a0 k cap xs ys m c l h ad news hnews hnone hy hm hh hQ hl h63 hbytes
  unfold Oper.wp execOp
  simp only [ho, resolve, invoke, builtin, Sem.run_bind, Sem.run_pure, Result.andThen_ok, List.map_toArray, List.map_cons, List.map_nil, hs, hx, hr]
  exact H ao cv w' h1 h2 h3
theorem zero_holdsL (P : Nat → Prop) (w : World) : HoldsL True P w [.int .i64 0, .slice none 0 0, .slice none 0 0, .slice none 0 0] St.zero.d := by
  refine ⟨rfl, fun _ _ => False, fun _ _ h => h.elim, fun _ _ _ _ h => h.elim, fun j c d hc hd => ?_⟩
  match j, hc, hd with
  | 0, hc, hd => simp [St.d] at hc hd; subst hc hd; exact has_int _ _ _ _
  | 1, hc, hd => simp [St.d] at hc hd; subst hc hd; exact .nil _ _ _ _ _
  | 2, hc, hd => simp [St.d] at hc hd; subst hc hd; exact .nil _ _ _ _ _
  | 3, hc, hd => simp [St.d] at hc hd; subst hc hd; exact .nil _ _ _ _ _
  | j + 4, hc, hd => simp at hc
/-- Cells of a row made at once. -/
theorem news_new {w : World} {vs : List Value} {T : TypeId} : ∀ a, some (⟨w.heap.size, 0, none⟩ : Addr) = some a → ∀ j u, vs[j]? = some u → (w.alloc (.cells vs.toArray T)).cell? (a.add j) = some u := fun a ha j u hj => by
  cases ha
  rw [Go.WideShapes.add_plain, Nat.zero_add, World.cell?_alloc_at _ _ _ _ rfl, List.getElem?_toArray]
  exact hj
end Go.Proofs.Ytgoioibfecgopaa
