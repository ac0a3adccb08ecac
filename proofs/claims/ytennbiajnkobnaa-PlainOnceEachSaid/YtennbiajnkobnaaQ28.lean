/- Texts put together. -/
import Derived.Test.YtennbiajnkobnaaQ02
import Derived.Test.YtennbiajnkobnaaQ27
import Derived.MapKept
import Derived.Carry
import Derived.BigRegion
set_option linter.unusedSimpArgs false
set_option linter.unusedVariables false
namespace Go.Proofs.Ytennbiajnkobnaa
open Go.RowKit Go.PlainAid Go.Maps Go.MapKept
def deedP : Value := .agg #[.func (.func 52) #[] #[], .func (.func 53) #[] #[]]
def deedD : Value := .agg #[.func (.func 54) #[] #[], .func (.func 55) #[] #[]]
def deeds : Obj := .map #[{ key := .int .i64 0, val := deedP, born := 0 }, { key := .int .i64 1, val := deedD, born := 1 }] 2
theorem isInt (k : Int) : MapKept.IsKey (.int .i64) (.int .i64 k) := rfl
theorem alloc_put (w : World) (o o' : Obj) : { (w.alloc o) with heap := (w.alloc o).heap.setIfInBounds w.heap.size o' } = w.alloc o' := by
 simp only [World.alloc, World.mk.injEq, and_true, true_and]
 apply Array.ext_getElem?
 intro i
 rw [Array.getElem?_setIfInBounds, Array.size_push]
 by_cases h : w.heap.size = i
 ·subst h; simp
 ·rw [if_neg h, Array.getElem?_push, Array.getElem?_push, if_neg (fun e => h e.symm), if_neg (fun e => h e.symm)]
theorem ins0 (w : World) (v : Value) : (Instr.mapUpdate 86 (.map (some w.heap.size)) (.int .i64 0) v).run Try.prog (w.alloc (.map #[] 0)) = .ok () (w.alloc (.map #[{ key := .int .i64 0, val := v, born := 0 }] 1)) := by
 have hu := Try.underlying86
 have hi := Try.underlying3
 have hb : (w.alloc (.map #[] 0)).heap[w.heap.size]? = some (.map #[] 0) := heap_alloc_new w _
 have hf : Instr.findNow (.int .i64) (.int .i64 0) ([] : List MapEntry) 0 = some none := rfl
 have hc : (Instr.checkKey false 10000 3 (.int .i64 0)).run Try.prog (w.alloc (.map #[] 0)) = .ok () _ := MapKept.run_checkKey hi (isInt 0) false 9999
 simp [Instr.mapUpdate, run_underlying hu, MapKept.run_getObj_map hb, hc, MapKept.run_findKey hi hf, MapKept.run_setObj_map _ hb, Result.andThen]
 exact alloc_put w _ _
theorem ins1 (w : World) (u v : Value) : (Instr.mapUpdate 86 (.map (some w.heap.size)) (.int .i64 1) v).run Try.prog (w.alloc (.map #[{ key := .int .i64 0, val := u, born := 0 }] 1)) = .ok () (w.alloc (.map #[{ key := .int .i64 0, val := u, born := 0 }, { key := .int .i64 1, val := v, born := 1 }] 2)) := by
 have hu := Try.underlying86
 have hi := Try.underlying3
 have hb : (w.alloc (.map #[{ key := .int .i64 0, val := u, born := 0 }] 1)).heap[w.heap.size]? = some (.map #[{ key := .int .i64 0, val := u, born := 0 }] 1) := heap_alloc_new w _
 have hf : Instr.findNow (.int .i64) (.int .i64 1) (#[({ key := .int .i64 0, val := u, born := 0 } : MapEntry)].toList) 0 = some none := rfl
 have hc : (Instr.checkKey false 10000 3 (.int .i64 1)).run Try.prog (w.alloc (.map #[{ key := .int .i64 0, val := u, born := 0 }] 1)) = .ok () _ := MapKept.run_checkKey hi (isInt 1) false 9999
 simp [Instr.mapUpdate, run_underlying hu, MapKept.run_getObj_map hb, hc, MapKept.run_findKey hi hf, MapKept.run_setObj_map _ hb, Result.andThen]
 exact alloc_put w _ _
def deedOf (k : Int) : Option Value := if k = 0 then some deedP else if k = 1 then some deedD else none
theorem look_deed {w : World} {b : Nat} (hb : w.heap[b]? = some deeds) (k : Int) (v : Value) (hv : deedOf k = some v) (c : Bool) :
  (Instr.lookup 86 (.map (some b)) (.int .i64 k) c).run Try.prog w = .ok (if c then .tuple #[v, .bool true] else v) w := by
 have hu := Try.underlying86
 have hi := Try.underlying3
 unfold deeds at hb
 have hc : (Instr.checkKey false 10000 3 (.int .i64 k)).run Try.prog w = .ok () _ := MapKept.run_checkKey hi (isInt k) false 9999
 unfold deedOf at hv
 split at hv
 ·next h0 =>
  subst h0
  cases hv
  have hf : Instr.findNow (.int .i64) (.int .i64 0) [({ key := .int .i64 0, val := deedP, born := 0 } : MapEntry), { key := .int .i64 1, val := deedD, born := 1 }] 0 = some (some (0, deedP)) := rfl
  cases c <;> simp [Instr.lookup, run_underlying hu, MapKept.run_getObj_map hb, hc, MapKept.run_findKey hi hf, Result.andThen]
 ·split at hv
  ·next h1 =>
   subst h1
   cases hv
   have hf : Instr.findNow (.int .i64) (.int .i64 1) [({ key := .int .i64 0, val := deedP, born := 0 } : MapEntry), { key := .int .i64 1, val := deedD, born := 1 }] 0 = some (some (1, deedD)) := rfl
   cases c <;> simp [Instr.lookup, run_underlying hu, MapKept.run_getObj_map hb, hc, MapKept.run_findKey hi hf, Result.andThen]
  ·cases hv
theorem look_none {w : World} {b : Nat} (hb : w.heap[b]? = some deeds) (k : Int) (hv : deedOf k = none) : (Instr.lookup 86 (.map (some b)) (.int .i64 k) true).run Try.prog w = .ok (.tuple #[.agg #[.nilFunc, .nilFunc], .bool false]) w := by
 have hu := Try.underlying86
 have hi := Try.underlying3
 unfold deeds at hb
 have hc : (Instr.checkKey false 10000 3 (.int .i64 k)).run Try.prog w = .ok () _ := MapKept.run_checkKey hi (isInt k) false 9999
 have h0 : (k == 0) = false := by unfold deedOf at hv; simp; intro e; rw [if_pos e] at hv; cases hv
 have h1 : (k == 1) = false := by unfold deedOf at hv; simp; intro e; rw [e] at hv; simp at hv
 have hf : Instr.findNow (.int .i64) (.int .i64 k) [({ key := .int .i64 0, val := deedP, born := 0 } : MapEntry), { key := .int .i64 1, val := deedD, born := 1 }] 0 = some none := by
  simp [Instr.findNow, Instr.sameNow, h0, h1]
 have hz : ∀ w, (zeroValue 92).run Try.prog w = .ok (.agg #[.nilFunc, .nilFunc]) w := fun w => by kernel_rfl
 simp [Instr.lookup, run_underlying hu, MapKept.run_getObj_map hb, hc, MapKept.run_findKey hi hf, hz, Result.andThen]
/-- The system's box, and its map. -/
structure SysAt (b mb : Nat) (N : Int) (vG vT : Value) (ff : Bool) (v1 v2 v3 : Value) (w : World) : Prop where
 box : BoxAt b [.int .i64 N, vG, vT, .bool ff, v1, v2, v3, .map (some mb)] w
 map : w.heap[mb]? = some deeds
theorem SysAt.below {b mb : Nat} {N : Int} {vG vT : Value} {ff : Bool} {v1 v2 v3 : Value} {w w' : World} (h : SysAt b mb N vG vT ff v1 v2 v3 w) (hb : Below w.heap.size w w') : SysAt b mb N vG vT ff v1 v2 v3 w' :=
 ⟨h.box.below hb, (hb.block mb (Array.getElem?_eq_some_iff.1 h.map).1).trans h.map⟩
theorem SysAt.same {P : Nat → Prop} {b mb : Nat} {N : Int} {vG vT : Value} {ff : Bool} {v1 v2 v3 : Value} {w w' : World} (h : SysAt b mb N vG vT ff v1 v2 v3 w) (hs : SameOn P w w') (p1 : P b) (p2 : P mb) : SysAt b mb N vG vT ff v1 v2 v3 w' :=
 ⟨h.box.same hs p1, (hs.2 mb p2 (Array.getElem?_eq_some_iff.1 h.map).1).trans h.map⟩
set_option maxHeartbeats 8000000 in
set_option maxRecDepth 100000 in
theorem systemIn_at (N : Int) (a c : Nat) (d : Option Addr) (vT : Value) (ff : Bool) (a1 a2 a3 : Option Addr) (n1 n2 n3 c1 c2 c3 : Nat) (da : Option Addr) (w : World) (hT : ∃ x y z, vT = .slice x y z) :
  Calls Try.prog 30 #[.agg #[.int .i64 N, .slice d a c, vT, .bool ff], .agg #[.slice a1 n1 c1, .slice a2 n2 c2, .slice a3 n3 c3]] w fun e w' => ∃ b mb, e = .returned (.pointer (some ⟨b, 0, none⟩)) ∧ w.heap.size ≤ b ∧ w.heap.size ≤ mb ∧ b ≠ mb ∧ SysAt b mb N (.slice d a c) vT ff (.slice a1 n1 c1) (.slice a2 n2 c2) (.slice a3 n3 c3) w' ∧ Below w.heap.size w w' := by
 obtain ⟨x, y, z, rfl⟩ := hT
 have hmm := @run_makeMap Try.prog
 go_enter Try.func30, Try.ntmps30
 go_upto_region 1 with fail
 obtain ⟨y0, hy⟩ : ∃ x0, x0 = (w.alloc (.cells #[.int .i64 N, .slice d a c, .slice x y z, .bool ff] 27)).alloc (.cells #[.slice a1 n1 c1, .slice a2 n2 c2, .slice a3 n3 c3] 31) := ⟨_, rfl⟩
 have hb0 : Below w.heap.size w y0 := by rw [hy]; exact below_step' (below_new _ _) (below_new _ _)
 have i0 := ins0 y0 deedP
 have i1 := ins1 y0 deedP deedD
 unfold deedP at i0 i1
 unfold deedD at i1
 rw [← hy]
 have HB := Lib.hid hb0
 have HY := Lib.hid hy
 clear hb0 hy
 have p0 : y0.cell? ⟨w.heap.size, 0, none⟩ = some (.int .i64 N) := by rw [HY.out]; go_cell
 have p1 : y0.cell? ⟨w.heap.size, 1, none⟩ = some (.slice d a c) := by rw [HY.out]; go_cell
 have p2 : y0.cell? ⟨w.heap.size, 2, none⟩ = some (.slice x y z) := by rw [HY.out]; go_cell
 have p3 : y0.cell? ⟨w.heap.size, 3, none⟩ = some (.bool ff) := by rw [HY.out]; go_cell
 have q0 : y0.cell? ⟨w.heap.size + 1, 0, none⟩ = some (.slice a1 n1 c1) := by rw [HY.out]; go_cell
 have q1 : y0.cell? ⟨w.heap.size + 1, 1, none⟩ = some (.slice a2 n2 c2) := by rw [HY.out]; go_cell
 have q2 : y0.cell? ⟨w.heap.size + 1, 2, none⟩ = some (.slice a3 n3 c3) := by rw [HY.out]; go_cell
 go_wp2_with fail
 go_ret
 refine ⟨y0.heap.size + 1, y0.heap.size, rfl, ?_, HB.out.size, by omega, ⟨?_, ?_⟩, below_step' HB.out (below_step' (below_new _ _) (below_new _ _))⟩
 ·have := HB.out.size; omega
 ·have h := boxAt_new (y0.alloc deeds) [.int .i64 N, .slice d a c, .slice x y z, .bool ff, .slice a1 n1 c1, .slice a2 n2 c2, .slice a3 n3 c3, .map (some y0.heap.size)] 88
  rw [size_alloc] at h
  exact h
 ·have h : (y0.alloc deeds).heap[y0.heap.size]? = some deeds := heap_alloc_new y0 _
  exact ((below_new (y0.alloc deeds) _).block _ (by simp)).trans h
end Go.Proofs.Ytennbiajnkobnaa

namespace Go.Proofs.Ytennbiajnkobnaa
open Go.RowKit Go.PlainAid
/-- append to a row that has nothing, and no room. -/
theorem run_app0 {w : World} (T E ty : TypeId) (i : TypeInfo) (z : Value) (n bytes : Nat) (ht : Try.prog.underlying T = some (.slice E)) (hi : Try.prog.info? E = some i) (hz : i.zero = some z) (hsize : i.size = n) (hby : i.bytes = bytes) (hzs : z.cells.size = n) (hsz : 0 < n)
  (Q : Nat → Prop) (a0 : Option Addr) (ys : List (List D)) (m c : Nat) (ad : Option Addr) (news : List Value)
  (hnews : ∀ a, ad = some a → ∀ j u, news[j]? = some u → w.cell? (a.add j) = some u) (hnone : ad = none → m = 0) (hy : ∀ ds ∈ ys, ds.length = n) (hm : ys.length = m) (hh : HoldsL True Q w news ys.flatten) (hQ : ∀ k, Q k → k < w.heap.size) (h63 : m ≤ maxLen) (hbytes : m * bytes ≤ 140737488355328) :
  ∃ ao cv w', (Builtin.append_ #[T, T] ty #[.slice a0 0 0, .slice ad m c]).run Try.prog w = .ok (.slice ao m cv) w' ∧ Holds True (fun k => Q k ∨ k = w.heap.size) w' (.slice ao m cv) (.row n ys) ∧ Below w.heap.size w w' := by
 have h0 : Holds True (fun _ => False) w (.slice a0 0 0) (.row n []) := .nil _ _ _ _ _
 rcases run_appH T E ty i z n bytes ht hi hz hsize hby hzs hsz (fun _ => False) Q a0 0 0 [] ys m c m h0 ad news hnews hnone hy hm hh (fun k hk => ⟨fun h => h, hQ k hk⟩) (Nat.zero_add m) h63 hbytes with ⟨ao, cv, w', h1, h2, h3⟩ | ⟨ao, cv, w', h1, h2, g, hg, _⟩
 ·exact ⟨ao, cv, w', h1, h2.wide (fun k _ hk => by rcases hk with h | h | h; exact h.elim; exact .inl h; exact .inr h), h3⟩
 ·exact hg.elim
/-- At a step of a drawn region: what is appended are plain things. -/
theorem appS0 {ops : Array Oper} {o : Oper} {a : Act} {K : Act → World → Prop} {Q : Exit → Act → World → Prop} {F : Prop} {w : World} (hgd : o.guard = none) (s x : Operand) (T E : TypeId) (i : TypeInfo) (z : Value) (n bytes : Nat)
  (ho : o.op = .call { callee := .builtin .append, args := #[s, x], argTypes := #[T, T] }) (ht : Try.prog.underlying T = some (.slice E)) (hi : Try.prog.info? E = some i) (hz : i.zero = some z) (hsize : i.size = n) (hby : i.bytes = bytes) (hzs : z.cells.size = n) (hsz : 0 < n)
  (a0 : Option Addr) (ys : List (List D)) (m c : Nat) (hs : a.eval s = .slice a0 0 0) (ad : Option Addr) (hx : a.eval x = .slice ad m c) (hv : Has w (.slice ad m c) (.row n ys)) (hy : ∀ ds ∈ ys, ds.length = n) (hf : Flat ys.flatten) (h63 : m ≤ maxLen) (hbytes : m * bytes ≤ 140737488355328)
  (H : ∀ ao cv w', Holds True (fun k => w.heap.size ≤ k) w' (.slice ao m cv) (.row n ys) → Below w.heap.size w w' → K (a.put o.dst (.slice ao m cv)) w') :
  if Region.wanted o (yielded ops a.tmps) = true then Oper.wp Try.prog o a w K Q else F := by
 have hw : Region.wanted o (yielded ops a.tmps) = true := by simp [Region.wanted, hgd]
 rw [if_pos hw]
 obtain ⟨hm, hnone, news, hnews, hh⟩ := newsOf hv hy hf
 obtain ⟨ao, cv, w', hr, h1, h2⟩ := run_app0 T E o.type i z n bytes ht hi hz hsize hby hzs hsz (fun _ => False) a0 ys m c ad news hnews hnone hy hm (hh _ _) (fun _ h => h.elim) h63 hbytes
 unfold Oper.wp execOp
 simp only [ho, resolve, invoke, builtin, Sem.run_bind, Sem.run_pure, Result.andThen_ok, List.map_toArray, List.map_cons, List.map_nil, hs, hx, hr]
 exact H ao cv w' (h1.wide (fun k _ hk => by rcases hk with h | h; exact h.elim; exact Nat.le_of_eq h.symm)) h2
/-- A cell of a row of numbers, to be written. -/
theorem Holds.slot1 {P : Nat → Prop} {w : World} {a : Option Addr} {len cap i : Nat} {xs : List Int} {x : Int} (h : Holds True P w (.slice a len cap) (dInts xs)) (hx : xs[i]? = some x) :
  ∃ b, a = some ⟨b, 0, none⟩ ∧ P b ∧ b < w.heap.size ∧ w.cell? ⟨b, i, none⟩ = some (.int .i64 x) ∧ w.frozen? ⟨b, i, none⟩ = false ∧ ∀ y, Holds True P (w.setCell ⟨b, i, none⟩ (.int .i64 y)) (.slice a len cap) (dInts (xs.set i y)) := by
 obtain ⟨b, o, e, _⟩ := int_at h.weak hx
 subst e
 obtain ⟨Q, c, rfl, hP, hO, hb, hc, hQP, hQb, hc2, hF⟩ := h.focus (i := i) (j := 0) (ds := [dI x]) (d := dI x) (by simp [hx]) rfl
 obtain rfl := hc2.val
 simp only [Nat.mul_one, Nat.add_zero] at hc hF
 refine ⟨b, rfl, hP, hb, hc, hO.frozen _, fun y => ?_⟩
 have := hF (w.setCell ⟨b, i, none⟩ (.int .i64 y)) (.int .i64 y) (dI y) (fun _ => False) ((SameOn.refl _ _).set _ _ (fun hk => hk.2.1 rfl)) rfl (has_int _ _ _ _) (fun _ h => h.elim)
 have e : (xs.set i y).map (fun a => [dI a]) = (xs.map fun a => [dI a]).set i ([dI x].set 0 (dI y)) := by
  rw [List.map_set]; rfl
 unfold dInts
 rw [e]
 exact this.wide (fun k _ hk => hk.elim (fun h => h) (fun h => h.elim))
/-- Two cells of a row of pairs, to be written. -/
theorem Holds.slot2 {P : Nat → Prop} {w : World} {a : Option Addr} {len cap i : Nat} {xs : Lks} {p : Int × Int} (h : Holds True P w (.slice a len cap) (dLinks xs)) (hx : xs[i]? = some p) :
  ∃ b, a = some ⟨b, 0, none⟩ ∧ P b ∧ b < w.heap.size ∧ w.cell? ⟨b, i * 2, none⟩ = some (.int .i64 p.1) ∧ w.cell? ⟨b, i * 2 + 1, none⟩ = some (.int .i64 p.2) ∧ (∀ o, w.frozen? ⟨b, o, none⟩ = false) ∧
   ∀ y z, Holds True P ((w.setCell ⟨b, i * 2, none⟩ (.int .i64 y)).setCell ⟨b, i * 2 + 1, none⟩ (.int .i64 z)) (.slice a len cap) (dLinks (xs.set i (y, z))) := by
 obtain ⟨b, o, e, _, _⟩ := link_at h.weak hx
 subst e
 have hi : (xs.map fun p => [dI p.1, dI p.2])[i]? = some [dI p.1, dI p.2] := by simp [hx]
 obtain ⟨Q, c, rfl, hP, hO, hb, hc, hQP, hQb, hc2, hF⟩ := h.focus (i := i) (j := 0) hi rfl
 obtain ⟨Q', c', _, _, _, _, hc', _, _, hc2', _⟩ := h.focus (i := i) (j := 1) hi rfl
 obtain rfl := hc2.val
 obtain rfl := hc2'.val
 rw [Nat.add_zero] at hc hF
 refine ⟨b, rfl, hP, hb, hc, hc', fun o => hO.frozen o, fun y z => ?_⟩
 have h1 := (hF (w.setCell ⟨b, i * 2, none⟩ (.int .i64 y)) (.int .i64 y) (dI y) (fun _ => False) ((SameOn.refl _ _).set _ _ (fun hk => hk.2.1 rfl)) rfl (has_int _ _ _ _) (fun _ h => h.elim)).wide (P' := P) (fun k _ hk => hk.elim (fun h => h) (fun h => h.elim))
 obtain ⟨Q2, c2, _, _, _, _, _, _, _, _, hF2⟩ := h1.focus (i := i) (j := 1) (ds := [dI y, dI p.2]) (d := dI p.2) (by rw [List.getElem?_set_self (lt_of_some hi)]; rfl) rfl
 have := (hF2 ((w.setCell ⟨b, i * 2, none⟩ (.int .i64 y)).setCell ⟨b, i * 2 + 1, none⟩ (.int .i64 z)) (.int .i64 z) (dI z) (fun _ => False) ((SameOn.refl _ _).set _ _ (fun hk => hk.2.1 rfl)) rfl (has_int _ _ _ _) (fun _ h => h.elim)).wide (P' := P) (fun k _ hk => hk.elim (fun h => h) (fun h => h.elim))
 have e : (xs.set i (y, z)).map (fun p => [dI p.1, dI p.2]) = ((xs.map fun p => [dI p.1, dI p.2]).set i ([dI p.1, dI p.2].set 0 (dI y))).set i ([dI y, dI p.2].set 1 (dI z)) := by
  rw [List.map_set, List.set_set]; rfl
 unfold dLinks
 rw [e]
 exact this
/-- Whatever pick is asked for. -/
theorem picked_any (M : Tab) (n s k : Int) (v : Value) (w : World) (h : Has w v (dTab M)) (hsm : SmallTab M) :
  Calls Try.prog 88 #[v, .int .i64 n, .int .i64 s, .int .i64 k] w fun e w' => ∃ u, e = .returned (pkv (pickAt (stAt M n s) k) u (isPick (stAt M n s) k)) ∧ Holds True (fresh w) w' u (dLinks (pickAt (stAt M n s) k).sends) ∧ Below w.heap.size w w' := by
 by_cases hk : 0 ≤ k ∧ k < (stAt M n s).picks.length
 ·obtain ⟨j, rfl⟩ := Int.eq_ofNat_of_zero_le hk.1
  obtain ⟨p, hp⟩ := some_of_lt (l := (stAt M n s).picks) (i := j) (by omega)
  obtain ⟨e1, e2⟩ := pickAt_of hp
  rw [e1, e2]
  exact picked_yes M n s j p v w h hp ((smallSt_at hsm n s).2.2.2 p (List.mem_of_getElem? hp))
 ·obtain ⟨e1, e2⟩ := pickAt_no hk
  rw [e1, e2]
  refine (picked_no M n s k v w h hk).mono ?_
  rintro e w' ⟨rfl, hb⟩
  exact ⟨_, rfl, .nil _ _ _ _ _, hb⟩
end Go.Proofs.Ytennbiajnkobnaa

set_option linter.unusedSimpArgs false
set_option linter.unusedVariables false
namespace Go.Proofs.Ytennbiajnkobnaa
open Go.RowKit Go.PlainAid
theorem num_at {w : World} {a : Option Addr} {k cap i : Nat} {xs : List Int} {x : Int} (h : Has w (.slice a k cap) (dInts xs)) (hx : xs[i]? = some x) : ∃ b o, a = some ⟨b, o, none⟩ ∧ w.cell? ⟨b, o + i, none⟩ = some (.int .i64 x) := by
 obtain ⟨b, o, c, e, h1, h2, cs, hcs, hc⟩ := cells_of (f := fun a => [dI a]) h hx
 obtain ⟨v, r, rfl, hv, hr⟩ := hcs.cons
 obtain rfl := Holds.val hv
 simp only [Value.slice.injEq] at e
 have := hc 0 _ rfl
 rw [Nat.mul_one, Nat.add_zero] at this
 exact ⟨b, o, e.1, this⟩
set_option maxHeartbeats 8000000 in
set_option maxRecDepth 100000 in
theorem sysPicked_at (M : Tab) (S : List Int) (s0 s1 s2 s3 s4 : Int) (b mb : Nat) (N : Int) (vG : Value) (ff : Bool) (ta a1 : Option Addr) (tl tc n1 e1 : Nat) (v2 v3 : Value) (w : World) (h : SysAt b mb N vG (.slice ta tl tc) ff (.slice a1 n1 e1) v2 v3 w) (hT : Has w (.slice ta tl tc) (dTab M)) (hS : Has w (.slice a1 n1 e1) (dInts S)) (hsm : SmallTab M) (h0 : 0 ≤ s1) (h1 : s1 < S.length) :
  Calls Try.prog 77 #[.pointer (some ⟨b, 0, none⟩), .agg #[.int .i64 s0, .int .i64 s1, .int .i64 s2, .int .i64 s3, .int .i64 s4]] w fun e w' => ∃ u, e = .returned (pkv (pickAt (stAt M s1 (at0 S s1)) s2) u (isPick (stAt M s1 (at0 S s1)) s2)) ∧ Holds True (fresh w) w' u (dLinks (pickAt (stAt M s1 (at0 S s1)) s2).sends) ∧ Below w.heap.size w w' := by
 obtain ⟨node, hnode⟩ := Int.eq_ofNat_of_zero_le h0
 subst hnode
 obtain ⟨q, hq⟩ := some_of_lt (l := S) (i := node) (by omega)
 rw [at0_of hq]
 obtain ⟨sb, so, e, hc⟩ := num_at hS hq
 subst e
 have hn1 := ints_len hS
 have hnl : node < n1 := by omega
 have hbl : b < w.heap.size := World.block_lt_of_cell? w _ (h.box 2 _ rfl)
 have hsl : sb < w.heap.size := World.block_lt_of_cell? w _ hc
 obtain ⟨p, hp⟩ : ∃ p, p = pickAt (stAt M node q) s2 := ⟨_, rfl⟩
 obtain ⟨pi, hpi⟩ : ∃ p, p = isPick (stAt M node q) s2 := ⟨_, rfl⟩
 rw [← hp, ← hpi]
 have PP := Lib.hid hp
 have PI := Lib.hid hpi
 have SA := Lib.hid h
 have HT := Lib.hid hT
 have HC := Lib.hid hc
 obtain ⟨s1, hs1⟩ : ∃ s : Int, s = (node : Int) := ⟨_, rfl⟩
 clear h hT hS hc hq hn1 h0 h1 hp hpi hs1 s1
 have hnl' : (node : Int) < n1 := by omega
 go_enter Try.func77, Try.ntmps77
 try simp only [List.append_eq, List.cons_append, List.nil_append]
 go_upto_region 1 with fail
 obtain ⟨y0, hy0⟩ : ∃ y, y = (w.alloc (.cells #[.int .i64 s0, .int .i64 node, .int .i64 s2, .int .i64 s3, .int .i64 s4] 50)).alloc (.cells #[.int .i64 0, .slice none 0 0] 123) := ⟨_, rfl⟩
 have hb0 : Below w.heap.size w y0 := by rw [hy0]; exact below_step' (below_new _ _) (below_new _ _)
 have hx0 : BoxAt w.heap.size [.int .i64 s0, .int .i64 node, .int .i64 s2, .int .i64 s3, .int .i64 s4] y0 := by rw [hy0]; exact (boxAt_new w [.int .i64 s0, .int .i64 node, .int .i64 s2, .int .i64 s3, .int .i64 s4] _).below (below_new _ _)
 have hx1 : BoxAt (w.heap.size + 1) [.int .i64 0, .slice none 0 0] y0 := by
  have h := boxAt_new (w.alloc (.cells #[.int .i64 s0, .int .i64 node, .int .i64 s2, .int .i64 s3, .int .i64 s4] 50)) [.int .i64 0, .slice none 0 0] 123
  rw [size_alloc] at h
  rw [hy0]; exact h
 have ho1 : OpenRow y0 (w.heap.size + 1) 1 2 := by
  have h := heap_alloc_new (w.alloc (.cells #[.int .i64 s0, .int .i64 node, .int .i64 s2, .int .i64 s3, .int .i64 s4] 50)) (.cells #[.int .i64 0, .slice none 0 0] 123)
  rw [size_alloc] at h
  rw [hy0]; exact ⟨by decide, _, _, h, rfl⟩
 have Y0z : Hid (w.heap.size + 2 ≤ y0.heap.size) := Lib.hid (by rw [hy0]; simp)
 have B0 := Lib.hid hb0
 have X0 := Lib.hid hx0
 have X1 := Lib.hid hx1
 have O1 := Lib.hid ho1
 replace SA := Lib.hid (SA.out.below hb0)
 replace HT := Lib.hid (HT.out.later hb0)
 replace HC := Lib.hid ((hb0.cell (by exact hsl)).trans HC.out)
 have NB : Hid (w.heap.size + 1 ≠ b) := Lib.hid (by omega)
 have NS : Hid (w.heap.size + 1 ≠ sb) := Lib.hid (by omega)
 have NW : Hid (w.heap.size + 1 ≠ w.heap.size) := Lib.hid (by omega)
 rw [← hy0]
 clear hy0 hb0 hx0 hx1 ho1
 have QS : Hid (∀ w', Below y0.heap.size y0 w' → w'.cell? ⟨b, 2, none⟩ = some (.slice ta tl tc) ∧ w'.cell? ⟨b, 4, none⟩ = some (.slice (some ⟨sb, so, none⟩) n1 e1) ∧ w'.cell? ⟨w.heap.size, 1, none⟩ = some (.int .i64 node) ∧ w'.cell? ⟨w.heap.size, 2, none⟩ = some (.int .i64 s2) ∧ w'.cell? ⟨sb, so + node, none⟩ = some (.int .i64 q)) := Lib.hid (fun w' hb => ⟨SA.out.box.below hb 2 _ rfl, SA.out.box.below hb 4 _ rfl, X0.out.below hb 1 _ rfl, X0.out.below hb 2 _ rfl, (hb.cell (World.block_lt_of_cell? y0 _ HC.out)).trans HC.out⟩)
 refine wp_region_held_drew (S := (fun w' => w'.cell? ⟨b, 2, none⟩ = some (.slice ta tl tc) ∧ w'.cell? ⟨b, 4, none⟩ = some (.slice (some ⟨sb, so, none⟩) n1 e1) ∧ w'.cell? ⟨w.heap.size, 1, none⟩ = some (.int .i64 node) ∧ w'.cell? ⟨w.heap.size, 2, none⟩ = some (.int .i64 s2) ∧ w'.cell? ⟨sb, so + node, none⟩ = some (.int .i64 q))) (by kernel_rfl) ?_ (fun hHeld => ?_)
 ·exact QS.out _ (below_drewN (Below.refl _ y0) 1)
 refine tq 0 ?_
 refine tq 1 ?_
 refine tq 2 ?_
 refine tq 3 ?_
 refine tq 4 ?_
 refine tq 5 ?_
 refine tq 6 ?_
 refine tq 7 ?_
 refine tq 8 ?_
 refine tq 9 ?_
 refine tq 10 ?_
 refine tq 11 ?_
 refine tq 12 ?_
 refine tq 13 ?_
 refine tq 14 ?_
 refine tq 15 ?_
 refine tq 16 ?_
 refine tq 17 ?_
 refine rd 18 fun K hK => ?_
 go_simp
 refine (picked_any M _ _ _ _ _ (HT.out.later (below_drewN (Below.refl _ y0) 1)) hsm).mono ?_
 rintro e w3 ⟨u, rfl, hu, hb⟩
 rw [← PI.out, ← PP.out] at *
 have B3 := Lib.hid (below_step' (below_drewN (Below.refl _ y0) 1) hb)
 obtain ⟨ua, uc, e⟩ := slice_of hu.weak
 subst e
 obtain ⟨ul, hul⟩ : ∃ n, n = p.sends.length := ⟨_, rfl⟩
 rw [← hul] at hu ⊢
 have UL := Lib.hid hul
 have HU := Lib.hid hu
 unfold pkv
 obtain ⟨pn, hpn⟩ : ∃ n, n = p.next := ⟨_, rfl⟩
 rw [← hpn]
 have PN := Lib.hid hpn
 clear hu hb hul hpn
 go_wp2_with fail
 refine hK.out _ _ ?_ (fun hHeld => ?_)
 ·exact QS.out _ B3.out
 clear hK K
 try simp only [Act.put, List.getElem_toArray, List.getElem_cons_zero, List.getElem_cons_succ, List.setIfInBounds_toArray, List.set_cons_zero, List.set_cons_succ]
 refine tq 19 ?_
 refine tq 20 ?_
 refine rd 21 fun K hK => ?_
 have z0 := X1.out.below B3.out 0 _ rfl
 have z1 := X1.out.below B3.out 1 _ rfl
 have hO := O1.out.same (SameOn.of_below (P := fun _ => True) B3.out) trivial (by have := Y0z.out; omega)
 have f0 := hO.frozen 0
 have f1 := hO.frozen 1
 have HO := Lib.hid hO
 clear hO
 go_simp
 clear z0 z1 f0 f1
 refine hK.out _ _ ?_ (fun hHeld => ?_)
 ·exact (by have h := QS.out _ B3.out; exact ⟨set_far (.inl NB.out) (set_far (.inl NB.out) h.1), set_far (.inl NB.out) (set_far (.inl NB.out) h.2.1), set_far (.inl NW.out) (set_far (.inl NW.out) h.2.2.1), set_far (.inl NW.out) (set_far (.inl NW.out) h.2.2.2.1), set_far (.inl NS.out) (set_far (.inl NS.out) h.2.2.2.2)⟩)
 clear hK K
 try simp only [Act.put, List.getElem_toArray, List.getElem_cons_zero, List.getElem_cons_succ, List.setIfInBounds_toArray, List.set_cons_zero, List.set_cons_succ]
 refine tq 22 ?_
 refine wpAnyH_done (by kernel_rfl) ?_ _
 go_wp2_with fail
 have r0 : (((w3.setCell ⟨w.heap.size + 1, 0, none⟩ (.int .i64 pn)).setCell ⟨w.heap.size + 1, 1, none⟩ (.slice ua ul uc))).cell? ⟨w.heap.size + 1, 0, none⟩ = some (.int .i64 pn) := set_far (.inr (by simp)) (set_at (X1.out.below B3.out 0 _ rfl))
 have r1 : (((w3.setCell ⟨w.heap.size + 1, 0, none⟩ (.int .i64 pn)).setCell ⟨w.heap.size + 1, 1, none⟩ (.slice ua ul uc))).cell? ⟨w.heap.size + 1, 1, none⟩ = some (.slice ua ul uc) := set_at (set_far (.inr (by simp)) (X1.out.below B3.out 1 _ rfl))
 refine bodyPost_ret (v := .tuple #[.agg #[.int .i64 pn, .slice ua ul uc], .bool pi]) (by simp [results, Try.results77, go_sem, r0, r1]) rfl ?_
 refine ⟨_, by unfold pkv; rw [PN.out], ?_, ?_⟩
 ·have hs : SameOn (fun q => y0.heap.size ≤ q) w3 ((w3.setCell ⟨w.heap.size + 1, 0, none⟩ (.int .i64 pn)).setCell ⟨w.heap.size + 1, 1, none⟩ (.slice ua ul uc)) := ((SameOn.refl _ _).set _ _ (by have := Y0z.out; show ¬ y0.heap.size ≤ w.heap.size + 1; omega)).set _ _ (by have := Y0z.out; show ¬ y0.heap.size ≤ w.heap.size + 1; omega)
  have hu2 := HU.out
  rw [UL.out] at hu2 hs ⊢
  exact (hu2.same hs).wide (fun q _ (h : y0.heap.size ≤ q) => by have := Y0z.out; show w.heap.size ≤ q; omega)
 ·exact ((below_step (by have := Y0z.out; omega) B0.out B3.out).setCell (by show w.heap.size ≤ w.heap.size + 1; omega) _).setCell (by show w.heap.size ≤ w.heap.size + 1; omega) _
end Go.Proofs.Ytennbiajnkobnaa

