/- Texts put together. -/
import Derived.Test.YtennbiajnkobnaaQ05
import Derived.Test.YtennbiajnkobnaaQ12
import Derived.Test.YtennbiajnkobnaaQ13
import Derived.Test.YtennbiajnkobnaaQ14
import Derived.Test.YtennbiajnkobnaaQ16
import Derived.Test.YtennbiajnkobnaaQ20
import Derived.Test.YtennbiajnkobnaaQ21
import Derived.Test.YtennbiajnkobnaaQ22
import Derived.Test.YtennbiajnkobnaaQ24
import Derived.Test.YtennbiajnkobnaaQ26
namespace Go.Proofs.Ytennbiajnkobnaa
open Go.RowKit Go.PlainAid
theorem cutT_small (M : Tab) : SmallTab (cutT M) := by
 refine ⟨by simp [cutT]; omega, fun x hx => ?_⟩
 obtain ⟨y, _, rfl⟩ := List.mem_map.1 hx
 refine ⟨by simp [cutN]; omega, fun s hs => ?_⟩
 obtain ⟨t, _, rfl⟩ := List.mem_map.1 hs
 refine ⟨by simp [cutS]; omega, by simp [cutS]; omega, by simp [cutS]; omega, fun p hp => ?_⟩
 obtain ⟨q, _, rfl⟩ := List.mem_map.1 hp
 simp [cutP]; omega
end Go.Proofs.Ytennbiajnkobnaa

namespace Go.Proofs.Ytennbiajnkobnaa
open Go.RowKit Go.PlainAid
theorem OpenRow.frozen {w : World} {b cap n : Nat} (h : OpenRow w b cap n) (o : Nat) : w.frozen? ⟨b, o, none⟩ = false := by
 obtain ⟨_, cur, e, h1, _⟩ := h
 simp [World.frozen?, h1]
/-- Cells of a block, by their place. -/
def BoxAt (h : Nat) (vs : List Value) (wr : World) : Prop := ∀ (i : Nat) (v : Value), vs[i]? = some v → wr.cell? ⟨h, i, none⟩ = some v
theorem BoxAt.below {h : Nat} {vs : List Value} {wr w' : World} (g : BoxAt h vs wr) (hb : Below wr.heap.size wr w') : BoxAt h vs w' := fun i v e => (hb.cell (World.block_lt_of_cell? wr _ (g i v e))).trans (g i v e)
theorem BoxAt.set2 {h b : Nat} {vs : List Value} {wr : World} (g : BoxAt h vs wr) (hne : b ≠ h) (o o' : Nat) (u u' : Value) : BoxAt h vs ((wr.setCell ⟨b, o, none⟩ u).setCell ⟨b, o', none⟩ u') := fun i v e => by
 have hk : ∀ k : Nat, (⟨b, k, none⟩ : Addr) ≠ ⟨h, i, none⟩ := fun k e' => hne (congrArg Addr.block e')
 rw [World.cell?_setCell_other _ _ _ _ (hk _), World.cell?_setCell_other _ _ _ _ (hk _)]; exact g i v e
theorem BoxAt.same {P : Nat → Prop} {h : Nat} {vs : List Value} {wr w' : World} (g : BoxAt h vs wr) (hs : SameOn P wr w') (hp : P h) : BoxAt h vs w' := fun i v e => (hs.cell (a := ⟨h, i, none⟩) hp (World.block_lt_of_cell? wr _ (g i v e))).trans (g i v e)
theorem below_step' {a b c : World} (h : Below a.heap.size a b) (h' : Below b.heap.size b c) : Below a.heap.size a c := below_step h.size h h'
theorem boxAt_new (w : World) (vs : List Value) (T : TypeId) : BoxAt w.heap.size vs (w.alloc (.cells vs.toArray T)) := fun i v e => (World.cell?_alloc_at _ _ _ _ rfl).trans (by simpa using e)
end Go.Proofs.Ytennbiajnkobnaa

namespace Go.Proofs.Ytennbiajnkobnaa
open Go.RowKit Go.PlainAid
theorem Holds.elem {P : Nat → Prop} {w : World} {b off len cap n i : Nat} {xs : List (List D)} {ds : List D} (h : Holds True P w (.slice (some ⟨b, off, none⟩) len cap) (.row n xs)) (hi : xs[i]? = some ds) :
  ∃ (Q : Nat → Prop) (cs : List Value), off = 0 ∧ P b ∧ OpenRow w b cap n ∧ b < w.heap.size ∧ ds.length = n ∧ (∀ (j : Nat) (c : Value), cs[j]? = some c → w.cell? ⟨b, i * n + j, none⟩ = some c) ∧ (∀ k, Q k → P k) ∧ ¬ Q b ∧ HoldsL True Q w cs ds ∧
   ∀ (w2 : World) (cs' : List Value) (ds' : List D) (Q' : Nat → Prop), SameOn (fun k => P k ∧ k ≠ b ∧ ¬ Q k) w w2 → OpenRow w2 b cap n → ds'.length = n → (∀ (j : Nat) (c : Value), cs'[j]? = some c → w2.cell? ⟨b, i * n + j, none⟩ = some c) →
    (∀ (o : Nat) (c : Value), (o < i * n ∨ i * n + n ≤ o) → w.cell? ⟨b, o, none⟩ = some c → w2.cell? ⟨b, o, none⟩ = some c) → HoldsL True Q' w2 cs' ds' → (∀ k, Q' k → k ≠ b ∧ (Q k ∨ ¬ P k)) →
    Holds True (fun k => P k ∨ Q' k) w2 (.slice (some ⟨b, off, none⟩) len cap) (.row n (xs.set i ds')) := by
 cases h with
 | nil => simp at hi
 | row _ _ _ _ _ _ _ cs fp h0 hb hc hP hn hcell hrec hfp hb2 hdj hop =>
  obtain ⟨rfl, hO⟩ := hop trivial
  have hil := lt_of_some hi
  have hdl := hn i ds hi
  refine ⟨fun k => ∃ j, fp i j k, (List.range n).map (cs i), rfl, hP, hO, hb, hdl, fun j c hj => ?_, fun k ⟨j, hk⟩ => hfp i j k hk, fun ⟨j, hk⟩ => hb2 trivial i j hk, ⟨by simp [hdl], fun j k => fp i j k, fun j k hk => ⟨j, hk⟩, fun _ j j' k h1 h2 => (hdj trivial i j i j' k h1 h2).2, fun j c d hj hd => ?_⟩, ?_⟩
  ·have hjn : j < n := by have := lt_of_some hj; simpa using this
   rw [List.getElem?_map, List.getElem?_range hjn] at hj
   simp at hj
   subst hj
   simpa using hcell i j hil hjn
  ·have hjn : j < n := by rw [← hdl]; exact lt_of_some hd
   rw [List.getElem?_map, List.getElem?_range hjn] at hj
   simp at hj
   subst hj
   exact hrec i j ds d hi hd
  intro w2 cs' ds' Q' hs hO2 hl' hc2 hco hL hQ
  obtain ⟨gl, gp, g1, g2, g3⟩ := hL
  have hlen : (xs.set i ds').length = xs.length := by simp
  have hget : ∀ (a : Nat) (e : List D), (xs.set i ds')[a]? = some e → (a = i ∧ e = ds') ∨ (a ≠ i ∧ xs[a]? = some e) := fun a e he => by
   rw [List.getElem?_set] at he
   split at he
   ·next h => subst h; (try rw [if_pos hil] at he); cases he; exact .inl ⟨rfl, rfl⟩
   ·next h => exact .inr ⟨fun e => h e.symm, he⟩
  have hkeep : ∀ a c, a ≠ i → SameOn (fp a c) w w2 := fun a c hne => hs.sub fun k hk => ⟨hfp a c k hk, fun e => hb2 trivial a c (by rw [← e]; exact hk), fun ⟨j, h3⟩ => hne (hdj trivial a c i j k hk h3).1⟩
  have hb2' : b < w2.heap.size := by obtain ⟨_, cur, e0, hg, _⟩ := hO2; exact (Array.getElem?_eq_some_iff.1 hg).1
  rw [← hlen]
  refine Holds.row _ w2 b 0 cap n _ (fun a c => if a = i then cs'.getD c (.bool true) else cs a c) (fun a c k => if a = i then gp c k else fp a c k) (by rw [hlen]; exact h0) hb2' (by rw [hlen]; exact hc) (.inl hP)
   (fun a e he => ?_) (fun a c ha hcc => ?_) (fun a c e d2 h1 h2 => ?_) (fun a c k hk => ?_) (fun _ a c hk => ?_) (fun _ a c a' c' k hk hk' => ?_) (fun _ => ⟨rfl, hO2⟩)
  ·rcases hget a e he with ⟨_, rfl⟩ | ⟨_, he⟩
   ·exact hl'
   ·exact hn a e he
  ·rw [hlen] at ha
   rw [Nat.zero_add]
   by_cases e : a = i
   ·subst e
    rw [if_pos rfl]
    have hcl : c < cs'.length := by rw [gl, hl']; exact hcc
    exact hc2 c _ (by simp [List.getD, List.getElem?_eq_getElem hcl])
   ·rw [if_neg e]
    refine hco _ _ ?_ (by simpa using hcell a c ha hcc)
    rcases Nat.lt_or_gt_of_ne e with h | h
    ·left
     have : a * n + n ≤ i * n := by rw [← Nat.succ_mul]; exact Nat.mul_le_mul_right n h
     omega
    ·right
     have : i * n + n ≤ a * n := by rw [← Nat.succ_mul]; exact Nat.mul_le_mul_right n h
     omega
  ·rcases hget a e h1 with ⟨rfl, rfl⟩ | ⟨hne, h1⟩
   ·simp only [if_true]
    have hcl : c < cs'.length := by rw [gl]; exact lt_of_some h2
    exact g3 c _ d2 (by simp [List.getD, List.getElem?_eq_getElem hcl]) h2
   ·simp only [if_neg hne]
    exact (hrec a c e d2 h1 h2).same (hkeep a c hne)
  ·split at hk
   ·exact .inr (g1 _ _ hk)
   ·exact .inl (hfp a c k hk)
  ·split at hk
   ·exact (hQ _ (g1 _ _ hk)).1 rfl
   ·exact hb2 trivial a c hk
  ·have no : ∀ a c c2, a ≠ i → fp a c k → gp c2 k → False := fun a c c2 hne hk hg => by
    rcases (hQ k (g1 _ _ hg)).2 with ⟨j, h⟩ | h
    ·exact hne (hdj trivial a c i j k hk h).1
    ·exact h (hfp a c k hk)
   split at hk <;> split at hk'
   ·next h1 h2 => exact ⟨h1.trans h2.symm, g2 trivial _ _ _ hk hk'⟩
   ·next h1 h2 => exact (no a' c' c h2 hk' hk).elim
   ·next h1 h2 => exact (no a c c' h1 hk hk').elim
   ·exact hdj trivial a c a' c' k hk hk'
/-- append to a row that may be written: what it leaves. -/
theorem run_appK {w : World} (T E ty : TypeId) (i : TypeInfo) (z : Value) (n bytes : Nat) (ht : Try.prog.underlying T = some (.slice E)) (hi : Try.prog.info? E = some i) (hz : i.zero = some z) (hsize : i.size = n) (hby : i.bytes = bytes) (hzs : z.cells.size = n) (hsz : 0 < n)
  (P Q : Nat → Prop) (wb : World) (hwb : Below wb.heap.size wb w) (hPb : ∀ k, P k → wb.heap.size ≤ k) (a0 : Option Addr) (k cap : Nat) (xs ys : List (List D)) (m c l : Nat) (h : Holds True P w (.slice a0 k cap) (.row n xs)) (ad : Option Addr) (news : List Value)
  (hnews : ∀ a, ad = some a → ∀ j u, news[j]? = some u → w.cell? (a.add j) = some u) (hnone : ad = none → m = 0) (hy : ∀ ds ∈ ys, ds.length = n) (hm : ys.length = m) (hh : HoldsL True Q w news ys.flatten) (hQ : ∀ k, Q k → ¬ P k ∧ k < w.heap.size) (hl : k + m = l) (h63 : l ≤ maxLen) (hbytes : l * bytes ≤ 140737488355328) :
  ∃ ao cv w', (Builtin.append_ #[T, T] ty #[.slice a0 k cap, .slice ad m c]).run Try.prog w = .ok (.slice ao l cv) w' ∧ Holds True (fun k => P k ∨ Q k ∨ k = w.heap.size) w' (.slice ao l cv) (.row n (xs ++ ys)) ∧ SameOn (fun k => ¬ P k) w w' ∧ Below wb.heap.size wb w' := by
 rcases run_appH T E ty i z n bytes ht hi hz hsize hby hzs hsz P Q a0 k cap xs ys m c l h ad news hnews hnone hy hm hh hQ hl h63 hbytes with ⟨ao, cv, w', h1, h2, h3⟩ | ⟨ao, cv, w', h1, h2, g, hg, _, _, _, hgr⟩
 ·exact ⟨ao, cv, w', h1, h2, .of_below h3, below_step' hwb h3⟩
 ·exact ⟨ao, cv, w', h1, h2.wide (fun k _ hk => hk.elim .inl (fun h => .inr (.inl h))), ⟨hgr.size, fun b hb hlt => hgr.block b hlt (fun e => by cases e; exact hb hg)⟩, hwb.grown hgr hwb.size (fun k hk => by cases hk; exact hPb _ hg)⟩
theorem appLK {ops : Array Oper} {rest : List Oper} {o : Oper} {a : Act} {R : Exit → Act → World → Prop} {w : World} (hgd : o.guard = none) (s x : Operand) (T E : TypeId) (i : TypeInfo) (z : Value) (n bytes : Nat)
  (ho : o.op = .call { callee := .builtin .append, args := #[s, x], argTypes := #[T, T] }) (ht : Try.prog.underlying T = some (.slice E)) (hi : Try.prog.info? E = some i) (hz : i.zero = some z) (hsize : i.size = n) (hby : i.bytes = bytes) (hzs : z.cells.size = n) (hsz : 0 < n)
  (P Q : Nat → Prop) (wb : World) (hwb : Below wb.heap.size wb w) (hPb : ∀ k, P k → wb.heap.size ≤ k) (a0 : Option Addr) (k cap : Nat) (xs ys : List (List D)) (m c l : Nat) (hs : a.eval s = .slice a0 k cap) (h : Holds True P w (.slice a0 k cap) (.row n xs)) (ad : Option Addr) (hx : a.eval x = .slice ad m c) (news : List Value)
  (hnews : ∀ a, ad = some a → ∀ j u, news[j]? = some u → w.cell? (a.add j) = some u) (hnone : ad = none → m = 0) (hy : ∀ ds ∈ ys, ds.length = n) (hm : ys.length = m) (hh : HoldsL True Q w news ys.flatten) (hQ : ∀ k, Q k → ¬ P k ∧ k < w.heap.size) (hl : k + m = l) (h63 : l ≤ maxLen) (hbytes : l * bytes ≤ 140737488355328)
  (K : ∀ ao cv w', Holds True (fun k => P k ∨ Q k ∨ k = w.heap.size) w' (.slice ao l cv) (.row n (xs ++ ys)) → SameOn (fun k => ¬ P k) w w' → Below wb.heap.size wb w' → wpList Try.prog ops R rest (a.put o.dst (.slice ao l cv)) w') : wpList Try.prog ops R (o :: rest) a w := by
 obtain ⟨ao, cv, w', hr, h1, h2, h3⟩ := run_appK T E o.type i z n bytes ht hi hz hsize hby hzs hsz P Q wb hwb hPb a0 k cap xs ys m c l h ad news hnews hnone hy hm hh hQ hl h63 hbytes
 refine wpList_plain hgd fun K' hK => ?_
 unfold Oper.wp execOp
 simp only [ho, resolve, invoke, builtin, Sem.run_bind, Sem.run_pure, Result.andThen_ok, List.map_toArray, List.map_cons, List.map_nil, hs, hx, hr]
 exact hK _ _ (K ao cv w' h1 h2 h3)
theorem appSK {ops : Array Oper} {o : Oper} {a : Act} {K : Act → World → Prop} {R : Exit → Act → World → Prop} {F : Prop} {w : World} (hgd : o.guard = none) (s x : Operand) (T E : TypeId) (i : TypeInfo) (z : Value) (n bytes : Nat)
  (ho : o.op = .call { callee := .builtin .append, args := #[s, x], argTypes := #[T, T] }) (ht : Try.prog.underlying T = some (.slice E)) (hi : Try.prog.info? E = some i) (hz : i.zero = some z) (hsize : i.size = n) (hby : i.bytes = bytes) (hzs : z.cells.size = n) (hsz : 0 < n)
  (P Q : Nat → Prop) (wb : World) (hwb : Below wb.heap.size wb w) (hPb : ∀ k, P k → wb.heap.size ≤ k) (a0 : Option Addr) (k cap : Nat) (xs ys : List (List D)) (m c l : Nat) (hs : a.eval s = .slice a0 k cap) (h : Holds True P w (.slice a0 k cap) (.row n xs)) (ad : Option Addr) (hx : a.eval x = .slice ad m c) (news : List Value)
  (hnews : ∀ a, ad = some a → ∀ j u, news[j]? = some u → w.cell? (a.add j) = some u) (hnone : ad = none → m = 0) (hy : ∀ ds ∈ ys, ds.length = n) (hm : ys.length = m) (hh : HoldsL True Q w news ys.flatten) (hQ : ∀ k, Q k → ¬ P k ∧ k < w.heap.size) (hl : k + m = l) (h63 : l ≤ maxLen) (hbytes : l * bytes ≤ 140737488355328)
  (H : ∀ ao cv w', Holds True (fun k => P k ∨ Q k ∨ k = w.heap.size) w' (.slice ao l cv) (.row n (xs ++ ys)) → SameOn (fun k => ¬ P k) w w' → Below wb.heap.size wb w' → K (a.put o.dst (.slice ao l cv)) w') :
  if Region.wanted o (yielded ops a.tmps) = true then Oper.wp Try.prog o a w K R else F := by
 have hw : Region.wanted o (yielded ops a.tmps) = true := by simp [Region.wanted, hgd]
 rw [if_pos hw]
 obtain ⟨ao, cv, w', hr, h1, h2, h3⟩ := run_appK T E o.type i z n bytes ht hi hz hsize hby hzs hsz P Q wb hwb hPb a0 k cap xs ys m c l h ad news hnews hnone hy hm hh hQ hl h63 hbytes
 unfold Oper.wp execOp
 simp only [ho, resolve, invoke, builtin, Sem.run_bind, Sem.run_pure, Result.andThen_ok, List.map_toArray, List.map_cons, List.map_nil, hs, hx, hr]
 exact H ao cv w' h1 h2 h3
/-- Cells of a row made at once. -/
theorem news_new {w : World} {vs : List Value} {T : TypeId} : ∀ a, some (⟨w.heap.size, 0, none⟩ : Addr) = some a → ∀ j u, vs[j]? = some u → (w.alloc (.cells vs.toArray T)).cell? (a.add j) = some u := fun a ha j u hj => by
 cases ha
 rw [Go.WideShapes.add_plain, Nat.zero_add, World.cell?_alloc_at _ _ _ _ rfl, List.getElem?_toArray]
 exact hj
end Go.Proofs.Ytennbiajnkobnaa

namespace Go.Proofs.Ytennbiajnkobnaa
open Go.RowKit Go.PlainAid
theorem OpenRow.set {w : World} {b cap n : Nat} (h : OpenRow w b cap n) (o : Nat) (v : Value) : OpenRow (w.setCell ⟨b, o, none⟩ v) b cap n := by
 obtain ⟨h1, cur, e, h2, h3⟩ := h
 exact ⟨h1, _, e, heap_setCell_at h2 o v, by simpa using h3⟩
theorem set_far {w : World} {a : Addr} {v u : Value} {b o : Nat} (h : b ≠ a.block ∨ o ≠ a.off) (hc : w.cell? a = some u) : (w.setCell ⟨b, o, none⟩ v).cell? a = some u := by
 rw [World.cell?_setCell_other _ _ _ _ (by intro e; subst e; simp at h)]
 exact hc
theorem set_at {w : World} {b o : Nat} {u v : Value} (hc : w.cell? ⟨b, o, none⟩ = some u) : (w.setCell ⟨b, o, none⟩ v).cell? ⟨b, o, none⟩ = some v := World.cell?_setCell_same w _ _ hc
end Go.Proofs.Ytennbiajnkobnaa

namespace Go.Proofs.Ytennbiajnkobnaa
open Go.RowKit Go.PlainAid
theorem boxAt_set {b j : Nat} {vs : List Value} {u : Value} {wr : World} (g : BoxAt b vs wr) : BoxAt b (vs.set j u) (wr.setCell ⟨b, j, none⟩ u) := fun i v e => by
 rcases set_cases' e with ⟨rfl, rfl, hl⟩ | ⟨hne, e⟩
 ·obtain ⟨x, hx⟩ := some_of_lt hl
  exact set_at (g i x hx)
 ·exact set_far (.inr (fun h => hne h.symm)) (g i v e)
where
 set_cases' {α : Type} {l : List α} {i j : Nat} {x y : α} (h : (l.set i x)[j]? = some y) : (j = i ∧ y = x ∧ i < l.length) ∨ (j ≠ i ∧ l[j]? = some y) := by
  rw [List.getElem?_set] at h
  split at h
  ·next e =>
   split at h
   ·next hl => cases h; exact .inl ⟨e.symm, rfl, by omega⟩
   ·cases h
  ·next e => exact .inr ⟨fun e' => e e'.symm, h⟩
end Go.Proofs.Ytennbiajnkobnaa

set_option linter.unusedSimpArgs false
namespace Go.Proofs.Ytennbiajnkobnaa
open Go.RowKit Go.PlainAid
def dLls (ls : List Lks) : D := .row 1 (ls.map fun m => [dLinks m])
def Cf.d (c : Cf) : List D := [dInts c.states, dLls c.links, dInts c.sent]
theorem cf_mkL {P P1 P2 P3 : Nat → Prop} {w : World} {c : Cf} {v1 v2 v3 : Value} (h1 : Holds True P1 w v1 (dInts c.states)) (h2 : Holds True P2 w v2 (dLls c.links)) (h3 : Holds True P3 w v3 (dInts c.sent))
  (q1 : ∀ k, P1 k → P k) (q2 : ∀ k, P2 k → P k) (q3 : ∀ k, P3 k → P k) (d12 : ∀ k, P1 k → ¬ P2 k) (d13 : ∀ k, P1 k → ¬ P3 k) (d23 : ∀ k, P2 k → ¬ P3 k) : HoldsL True P w [v1, v2, v3] c.d := by
 refine holdsL_of (fun j k => (j = 0 ∧ P1 k) ∨ (j = 1 ∧ P2 k) ∨ (j = 2 ∧ P3 k)) rfl (fun j c d hc hd => ?_) (fun i j k hij hi hj => ?_) (fun j k hk => ?_)
 ·match j, hc, hd with
  | 0, hc, hd => simp [Cf.d] at hc hd; subst hc hd; exact h1.wide (fun k _ hk => .inl ⟨rfl, hk⟩)
  | 1, hc, hd => simp [Cf.d] at hc hd; subst hc hd; exact h2.wide (fun k _ hk => .inr (.inl ⟨rfl, hk⟩))
  | 2, hc, hd => simp [Cf.d] at hc hd; subst hc hd; exact h3.wide (fun k _ hk => .inr (.inr ⟨rfl, hk⟩))
  | j + 3, hc, hd => simp at hc
 ·rcases hi with ⟨e, hi⟩ | ⟨e, hi⟩ | ⟨e, hi⟩ <;> rcases hj with ⟨e', hj⟩ | ⟨e', hj⟩ | ⟨e', hj⟩ <;> first | omega | exact d12 k hi hj | exact d13 k hi hj | exact d23 k hi hj
 ·rcases hk with ⟨_, hk⟩ | ⟨_, hk⟩ | ⟨_, hk⟩
  ·exact q1 k hk
  ·exact q2 k hk
  ·exact q3 k hk
theorem cf_openL {S : Prop} {P : Nat → Prop} {w : World} {c : Cf} {v1 v2 v3 : Value} (h : HoldsL S P w [v1, v2, v3] c.d) :
  ∃ P1 P2 P3 : Nat → Prop, Holds S P1 w v1 (dInts c.states) ∧ Holds S P2 w v2 (dLls c.links) ∧ Holds S P3 w v3 (dInts c.sent) ∧ (∀ k, P1 k → P k) ∧ (∀ k, P2 k → P k) ∧ (∀ k, P3 k → P k) ∧ (S → (∀ k, P1 k → ¬ P2 k) ∧ (∀ k, P1 k → ¬ P3 k) ∧ (∀ k, P2 k → ¬ P3 k)) := by
 obtain ⟨hl, fp, f1, f2, f3⟩ := h
 refine ⟨fp 0, fp 1, fp 2, f3 0 _ _ rfl rfl, f3 1 _ _ rfl rfl, f3 2 _ _ rfl rfl, f1 0, f1 1, f1 2, fun s => ⟨fun k a b => ?_, fun k a b => ?_, fun k a b => ?_⟩⟩
 ·have := f2 s _ _ _ a b; omega
 ·have := f2 s _ _ _ a b; omega
 ·have := f2 s _ _ _ a b; omega
/-- A configuration's lists, to read. -/
theorem cf_has {w : World} {c : Cf} {v1 v2 v3 : Value} (h : HasL w [v1, v2, v3] c.d) : Has w v1 (dInts c.states) ∧ Has w v2 (dLls c.links) ∧ Has w v3 (dInts c.sent) := by
 obtain ⟨P1, P2, P3, h1, h2, h3, _⟩ := cf_openL h
 exact ⟨h1.weak, h2.weak, h3.weak⟩
theorem has_cf {w : World} {c : Cf} {v1 v2 v3 : Value} (h1 : Has w v1 (dInts c.states)) (h2 : Has w v2 (dLls c.links)) (h3 : Has w v3 (dInts c.sent)) : HasL w [v1, v2, v3] c.d := .mk h1 (.mk h2 (.mk h3 (hasL_nil _ _ _)))
/-- One link's messages, to read. -/
theorem lls_at {w : World} {a : Option Addr} {k cap i : Nat} {ls : List Lks} {m : Lks} (h : Has w (.slice a k cap) (dLls ls)) (hm : ls[i]? = some m) :
  ∃ b o ma mc, a = some ⟨b, o, none⟩ ∧ b < w.heap.size ∧ k = ls.length ∧ w.cell? ⟨b, o + i, none⟩ = some (.slice ma m.length mc) ∧ Has w (.slice ma m.length mc) (dLinks m) := by
 obtain ⟨b, o, c, e, h1, h2, cs, hcs, hc⟩ := cells_of (f := fun m => [dLinks m]) h hm
 obtain ⟨v, r, rfl, hv, hr⟩ := hcs.cons
 obtain ⟨ma, mc, rfl⟩ := slice_of hv
 simp only [Value.slice.injEq] at e
 obtain ⟨rfl, rfl, rfl⟩ := e
 have := hc 0 _ rfl
 rw [Nat.mul_one, Nat.add_zero] at this
 exact ⟨b, o, ma, mc, rfl, h1, rfl, this, hv⟩
/-- One link's messages, to be written. -/
theorem lls_focus {P : Nat → Prop} {w : World} {a : Option Addr} {k cap i : Nat} {ls : List Lks} {m : Lks} (h : Holds True P w (.slice a k cap) (dLls ls)) (hm : ls[i]? = some m) :
  ∃ (g : Nat) (Q : Nat → Prop) (ma : Option Addr) (mc : Nat), a = some ⟨g, 0, none⟩ ∧ k = ls.length ∧ P g ∧ g < w.heap.size ∧ w.cell? ⟨g, i, none⟩ = some (.slice ma m.length mc) ∧ OpenRow w g cap 1 ∧ (∀ q, Q q → P q) ∧ ¬ Q g ∧ Holds True Q w (.slice ma m.length mc) (dLinks m) ∧
   ∀ (w2 : World) (v : Value) (m' : Lks) (Q' : Nat → Prop), SameOn (fun q => P q ∧ ¬ Q q) w w2 → Holds True Q' w2 v (dLinks m') → (∀ q, Q' q → q ≠ g ∧ (Q q ∨ ¬ P q)) → Holds True (fun q => P q ∨ Q' q) (w2.setCell ⟨g, i, none⟩ v) (.slice a k cap) (dLls (ls.set i m')) := by
 obtain ⟨b, o, _, _, rfl, _, hk, _, _⟩ := lls_at h.weak hm
 obtain ⟨Q, c, rfl, hP, hO, hb, hc, hQP, hQb, hH, hF⟩ := h.focus (i := i) (j := 0) (ds := [dLinks m]) (d := dLinks m) (by rw [List.getElem?_map, hm]; rfl) rfl
 obtain ⟨ma, mc, rfl⟩ := slice_of hH.weak
 rw [Nat.mul_one, Nat.add_zero] at hc hF
 refine ⟨b, Q, ma, mc, rfl, hk, hP, hb, hc, hO, hQP, hQb, hH, fun w2 v m' Q' hs hn hq => ?_⟩
 have e : (ls.set i m').map (fun m => [dLinks m]) = (ls.map fun m => [dLinks m]).set i ([dLinks m].set 0 (dLinks m')) := by rw [List.map_set]; rfl
 unfold dLls
 rw [e]
 refine hF (w2.setCell ⟨b, i, none⟩ v) v (dLinks m') Q' ((hs.sub (fun q hq => ⟨hq.1, hq.2.2⟩)).set _ _ (fun h => h.2.1 rfl)) ?_ (hn.same ((SameOn.refl _ _).set _ _ (fun h => (hq _ h).1 rfl))) hq
 obtain ⟨u, hu⟩ : ∃ u, u = w.heap[b]? := ⟨_, rfl⟩
 have e2 := hs.2 b ⟨hP, hQb⟩ hb
 obtain ⟨_, cur, e0, hg, _⟩ := hO
 rw [heap_setCell_at (e2.trans hg), heap_setCell_at hg]
/-- A number of a list, to be written. -/
theorem ints_len {S : Prop} {P : Nat → Prop} {w : World} {a : Option Addr} {k cap : Nat} {xs : List Int} (h : Holds S P w (.slice a k cap) (dInts xs)) : k = xs.length := by
 obtain ⟨_, _, e⟩ := Holds.len h
 rw [List.length_map] at e
 simp only [Value.slice.injEq] at e
 exact e.2.1
theorem lls_len {S : Prop} {P : Nat → Prop} {w : World} {a : Option Addr} {k cap : Nat} {xs : List Lks} (h : Holds S P w (.slice a k cap) (dLls xs)) : k = xs.length := by
 obtain ⟨_, _, e⟩ := Holds.len h
 rw [List.length_map] at e
 simp only [Value.slice.injEq] at e
 exact e.2.1
theorem infoMsgs : (Try.prog.info? 51).map (fun i => (i.zero, i.size, i.bytes)) = some (some (.slice none 0 0), 1, 24) := by kernel_rfl
theorem make_lls (n : Nat) (h : n ≤ 1000000) (w : World) : (Instr.makeSlice 29 (.int .i64 (n : Int)) (.int .i64 (n : Int))).run Try.prog w = .ok (.slice (some ⟨w.heap.size, 0, none⟩) n n) (w.alloc (.cells (madeCells #[.slice none 0 0] n) 51)) := by
 obtain ⟨i, hi, hz, h1, h2⟩ := info_parts infoMsgs
 have := run_make (P := Try.prog) w 29 51 i (.slice none 0 0) Try.underlying29 hi hz .i64 .i64 n n (by omega) (by omega) (by rw [h2]; omega) (by omega)
 rw [this, h1]
 simp [Value.cells]
theorem made_lls (n : Nat) (h : n ≤ 1000000) (w : World) : Holds True (fun q => q = w.heap.size) (w.alloc (.cells (madeCells #[.slice none 0 0] n) 51)) (.slice (some ⟨w.heap.size, 0, none⟩) n n) (dLls (List.replicate n [])) := by
 refine holds_mk (Q := fun _ => False) (cells := List.replicate n (.slice none 0 0)) (by simp) rfl (heap_alloc_new w _) (Nat.le_refl _) (by unfold maxLen; omega) (by rw [size_madeCells, Nat.mul_one]) ?_ (by intro ds hd; obtain ⟨_, _, rfl⟩ := List.mem_map.1 hd; rfl) ?_ (fun _ h => h.elim) (fun h => h)
 ·rw [Nat.mul_one]
  apply List.ext_getElem
  ·simp [size_madeCells, madeCells]
  ·intro i h1 h2
   simp [madeCells, Nat.mod_one]
 ·refine ⟨?_, fun _ _ => False, fun _ _ h => h, fun _ _ _ _ h => h.elim, fun j c d hc hd => ?_⟩
  ·rw [flatten_len (n := 1) (by intro ds hd; obtain ⟨_, _, rfl⟩ := List.mem_map.1 hd; rfl)]; simp
  ·have hj := lt_of_some hc
   simp at hj
   rw [List.getElem?_replicate, if_pos hj] at hc
   cases hc
   have e := flatten_get (n := 1) (ys := (List.replicate n ([] : Lks)).map fun m => [dLinks m]) (i := j) (j := 0) (ds := [dLinks []]) (by intro ds hd; obtain ⟨_, _, rfl⟩ := List.mem_map.1 hd; rfl) (by rw [List.getElem?_map, List.getElem?_replicate, if_pos hj]; rfl) (by decide)
   rw [Nat.mul_one, Nat.add_zero, hd] at e
   simp at e
   subst e
   exact .nil _ _ _ _ _
end Go.Proofs.Ytennbiajnkobnaa

set_option linter.unusedSimpArgs false
set_option linter.unusedVariables false
namespace Go.Proofs.Ytennbiajnkobnaa
open Go.RowKit Go.PlainAid
instance msgsOK_dec : ∀ (m : Lks) (a q : Int), Decidable (MsgsOK a q m)
 | [], _, _ => isTrue trivial
 | x :: r, a, q => by
  have := msgsOK_dec r x.1 q
  unfold MsgsOK
  infer_instance
theorem drop_of {α : Type} {l : List α} {j : Nat} {x : α} (h : l[j]? = some x) : l.drop j = x :: l.drop (j + 1) := by
 obtain ⟨hl, rfl⟩ := List.getElem?_eq_some_iff.1 h
 exact List.drop_eq_getElem_cons hl
set_option maxHeartbeats 8000000 in
set_option maxRecDepth 100000 in
theorem mayBe_at (m : Lks) (q : Int) (r : Bool) (a : Option Addr) (cap : Nat) (w : World) (h : Has w (.slice a m.length cap) (dLinks m)) (hn : m.length ≤ 1000000) (hr : r = true ↔ MsgsOK 0 q m) :
  Calls Try.prog 25 #[.slice a m.length cap, .int .i64 q] w fun e w' => e = .returned (.bool r) ∧ Below w.heap.size w w' := by
 have H := Lib.hid h
 have HR := Lib.hid hr
 obtain ⟨l, hl⟩ : ∃ l, l = m.length := ⟨_, rfl⟩
 rw [← hl] at hn ⊢
 have HL := Lib.hid hl
 clear h hr hl
 go_enter Try.func25, Try.ntmps25
 try simp only [List.append_eq, List.cons_append, List.nil_append]
 go_wp2_with fail
 go_loopw [5, 10] (fun t i wr => ∃ (last : Int) (j : Nat), t = .int .i64 last ∧ i = .int .i64 j ∧ j ≤ l ∧ (r = true ↔ MsgsOK last q (m.drop j)) ∧ Below w.heap.size w wr) (fun _ i _ => l - (intOf i).toNat)
 case atStart => exact ⟨0, 0, rfl, rfl, by omega, HR.out, Below.refl _ _⟩
 case round =>
  obtain ⟨last, j, rfl, rfl, hj, hok, hb⟩ := hrel
  have BW := Lib.hid hb
  by_cases hlt : j < l
  ·have hlt' : (j : Int) < l := by omega
   obtain ⟨⟨s, c⟩, hx⟩ := some_of_lt (l := m) (i := j) (by rw [← HL.out]; exact hlt)
   obtain ⟨b, o, e, x1, x2⟩ := msg_at (H.out.later hb) hx
   subst e
   rw [drop_of hx] at hok
   have OK := Lib.hid hok
   clear hok hb hx
   by_cases g1 : s ≤ last
   ·have G1 := Lib.hid g1
    have hrf : r = false := by
     cases r with
     | false => rfl
     | true => exact absurd (OK.out.1 rfl).1 (by show ¬ last < s; omega)
    subst hrf
    have g1' : decide (s ≤ last) = true := by simpa using g1
    clear OK
    go_wp2_with fail
    go_ret
    exact ⟨rfl, below_step' BW.out (by go_grown)⟩
   ·have G1 := Lib.hid g1
    have g1' : decide (s ≤ last) = false := by simpa using g1
    by_cases g2 : q < s
    ·have hrf : r = false := by
      cases r with
      | false => rfl
      | true => exact absurd (OK.out.1 rfl).2.1 (by show ¬ s ≤ q; omega)
     subst hrf
     have g2' : decide (q < s) = true := by simpa using g2
     clear OK
     go_wp2_with fail
     go_ret
     exact ⟨rfl, below_step' BW.out (by go_grown)⟩
    ·have G2 := Lib.hid g2
     have g2' : decide (q < s) = false := by simpa using g2
     by_cases g3 : c < 0
     ·have hrf : r = false := by
       cases r with
       | false => rfl
       | true => exact absurd (OK.out.1 rfl).2.2.1 (by show ¬ 0 ≤ c; omega)
      subst hrf
      have g3' : decide (c < 0) = true := by simpa using g3
      clear OK
      go_wp2_with fail
      go_ret
      exact ⟨rfl, below_step' BW.out (by go_grown)⟩
     ·have G3 := Lib.hid g3
      have g3' : decide (c < 0) = false := by simpa using g3
      by_cases g4 : 4 ≤ c
      ·have hrf : r = false := by
        cases r with
        | false => rfl
        | true => exact absurd (OK.out.1 rfl).2.2.2.1 (by show ¬ c < 4; omega)
       subst hrf
       have g4' : decide ((4 : Int) ≤ c) = true := by simpa using g4
       clear OK
       go_wp2_with fail
       go_ret
       exact ⟨rfl, below_step' BW.out (by go_grown)⟩
      ·have G4 := Lib.hid g4
       have g4' : decide ((4 : Int) ≤ c) = false := by simpa using g4
       go_wp2_with fail
       go_roundw
       case rel => exact ⟨s, j + 1, rfl, by go_num, by omega, OK.out.trans ⟨fun h => h.2.2.2.2, fun h => ⟨by have := G1.out; show last < s; omega, by have := G2.out; show s ≤ q; omega, by have := G3.out; show 0 ≤ c; omega, by have := G4.out; show c < 4; omega, h⟩⟩, below_step' BW.out (by go_grown)⟩
       case measure => simp [intOf]; omega
  ·obtain rfl : l = j := by omega
   have hlt' : ¬ (l : Int) < l := by omega
   have hrt : r = true := hok.2 (by rw [List.drop_of_length_le (by rw [HL.out]; exact Nat.le_refl _)]; trivial)
   subst hrt
   clear hok hb
   go_wp2_with fail
   go_ret
   exact ⟨rfl, BW.out⟩
end Go.Proofs.Ytennbiajnkobnaa

