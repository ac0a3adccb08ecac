/- Texts put together. -/
import Derived.Test.YtennbiajnkobnaaQ04
import Derived.Test.YtennbiajnkobnaaQ05
import Derived.Test.YtennbiajnkobnaaQ11
import Derived.Test.YtennbiajnkobnaaQ12
import Derived.Test.YtennbiajnkobnaaQ15
import Derived.Deep.WholeRow
set_option linter.unusedSimpArgs false
namespace Go.Proofs.Ytennbiajnkobnaa
open Go.RowKit Go.PlainAid
theorem copyRunL {ops : Array Oper} {rest : List Oper} {o : Oper} {a : Act} {R : Exit → Act → World → Prop} {w w' : World} {v dv sv : Value} (hgd : o.guard = none) (d s : Operand) (T T' : TypeId)
  (ho : o.op = .call { callee := .builtin .copy, args := #[d, s], argTypes := #[T, T'] }) (hd : a.eval d = dv) (hs : a.eval s = sv) (hr : (Builtin.copy_ #[T, T'] o.type #[dv, sv]).run Try.prog w = .ok v w')
  (H : wpList Try.prog ops R rest (a.put o.dst v) w') : wpList Try.prog ops R (o :: rest) a w := by
 refine wpList_plain hgd fun K' hK => ?_
 unfold Oper.wp execOp
 simp only [ho, resolve, invoke, builtin, Sem.run_bind, Sem.run_pure, Result.andThen_ok, List.map_toArray, List.map_cons, List.map_nil, hd, hs, hr]
 exact hK _ _ H
theorem run_copy_all {w : World} (T E ty : TypeId) (i : TypeInfo) (ht : Try.prog.underlying T = some (.slice E)) (hi : Try.prog.info? E = some i) (g k sc : Nat) (cur : Array Value) (e : TypeId) (hg : w.heap[g]? = some (.cells cur e (0, 0))) (hcur : cur.size = k * i.size)
  (ad : Option Addr) (cells : List Value) (hl : cells.length = k * i.size) (hnone : ad = none → k = 0) (hnews : ∀ a, ad = some a → ∀ j u, cells[j]? = some u → w.cell? (a.add j) = some u) (h1 : ∀ u ∈ cells, u.oneCell' = true) :
  (Builtin.copy_ #[T, T] ty #[.slice (some ⟨g, 0, none⟩) k k, .slice ad k sc]).run Try.prog w = .ok (goInt k) (w.setRow g cells.toArray) := by
 have h3 := run_storeCells_at Try.prog g 0 e cells 0 cur w hg (by omega) h1
 have e1 : (cur.toList.take (0 + 0) ++ cells ++ cur.toList.drop (0 + 0 + cells.length)).toArray = cells.toArray := by
  have : cur.toList.drop cells.length = [] := List.drop_eq_nil_of_le (by simp; omega)
  simp [this]
 rw [e1] at h3
 cases ad with
 | none =>
  have hk := hnone rfl
  subst hk
  obtain rfl : cells = [] := List.eq_nil_of_length_eq_zero (by omega)
  simp [Builtin.copy_, run_underlying ht, sizeOf, typeInfo, hi, Builtin.lenOf, Builtin.firstCells, h3]
 | some a =>
  have h2 := run_firstCells_some (P := Try.prog) w i.size k a k sc cells hl (hnews a rfl)
  simp [Builtin.copy_, run_underlying ht, sizeOf, typeInfo, hi, Builtin.lenOf, h2, h3]
theorem make_msgs (n : Nat) (h : n ≤ 1000000) (w : World) : (Instr.makeSlice 51 (.int .i64 (n : Int)) (.int .i64 (n : Int))).run Try.prog w = .ok (.slice (some ⟨w.heap.size, 0, none⟩) n n) (w.alloc (.cells (madeCells (Value.agg #[.int .i64 0, .int .i64 0]).cells (n * 2)) 56)) := by
 obtain ⟨i, hi, hz, h2, h3⟩ := info_parts infoMsg
 have := run_make (P := Try.prog) w 51 56 i (.agg #[.int .i64 0, .int .i64 0]) Try.underlying51 hi hz .i64 .i64 n n (by omega) (by omega) (by rw [h3]; omega) (by omega)
 rw [h2] at this
 simpa using this
set_option maxHeartbeats 8000000 in
set_option maxRecDepth 100000 in
theorem listInts_at (xs : List Int) (v : Value) (w : World) (h : Has w v (dInts xs)) (hn : xs.length ≤ 1000000) :
  Calls Try.prog 56 #[v] w fun e w' => ∃ u, e = .returned u ∧ Holds True (fresh w) w' u (dInts xs) ∧ Below w.heap.size w w' := by
 obtain ⟨a, c, rfl⟩ := slice_of h
 obtain ⟨hlen, hnone, news, hnews, hL⟩ := newsOf h (by intro ds hd; obtain ⟨_, _, rfl⟩ := List.mem_map.1 hd; rfl) (flat_ints xs)
 obtain ⟨i, hi, hz, hs, hby⟩ := info_parts infoInt
 obtain ⟨k, hk⟩ : ∃ k, k = xs.length := ⟨_, rfl⟩
 rw [← hk] at hn hnone h ⊢
 have hnl : news.length = k * 1 := by
  rw [(hL True All).1, flatten_len (n := 1) (by intro ds hd; obtain ⟨_, _, rfl⟩ := List.mem_map.1 hd; rfl), List.length_map, hk]
 have h1 : ∀ u ∈ news, u.oneCell' = true := by
  intro u hu
  obtain ⟨j, hj⟩ := List.mem_iff_getElem?.1 hu
  obtain ⟨hl, _, _, _, h4⟩ := hL True All
  obtain ⟨d, hd⟩ := some_of_lt (l := (xs.map fun a => [dI a]).flatten) (i := j) (by rw [← hl]; exact lt_of_some hj)
  exact (h4 j u d hj hd).one
 have hmk := make_ints k hn w
 have hw1 : ∀ C : Array Value, Below w.heap.size w (w.alloc (.cells C 3)) := fun C => below_new w _
 have hcp : ∀ (ty : TypeId) (C : Array Value), C.size = k * 1 → (Builtin.copy_ #[28, 28] ty #[.slice (some ⟨w.heap.size, 0, none⟩) k k, .slice a k c]).run Try.prog (w.alloc (.cells C 3)) = .ok (goInt k) (w.alloc (.cells news.toArray 3)) := fun ty C hC => by
  rw [run_copy_all 28 3 ty i Try.underlying28 hi w.heap.size k c C 3 (heap_alloc_new w _) (by rw [hC, hs]) a news (by rw [hnl, hs]) hnone (fun ad e j u hu => ?_) h1, World.setRow_alloc_new]
  have hc := hnews ad e j u hu
  exact (World.cell?_alloc_lt _ _ _ (World.block_lt_of_cell? w _ hc)).trans hc
 have hfin : Holds True (fresh w) (w.alloc (.cells news.toArray 3)) (.slice (some ⟨w.heap.size, 0, none⟩) k k) (dInts xs) :=
  holds_mk (Q := fun _ => False) (cells := news) (by rw [List.length_map]; exact hk) (Nat.le_refl _) (heap_alloc_new w _) (Nat.le_refl _) (by unfold maxLen; omega) (by simpa using hnl) (by rw [List.take_of_length_le (by simp [hnl])]) (by intro ds hd; obtain ⟨_, _, rfl⟩ := List.mem_map.1 hd; rfl)
   ((hL True (fun _ => False)).later (below_new w _)) (fun _ h => h.elim) (fun h => h)
 have CP := Lib.hid hcp
 have FN := Lib.hid hfin
 clear hcp hfin hw1 h1 hnl hnews hL hnone hlen hk h
 go_enter Try.func56, Try.ntmps56
 try simp only [List.append_eq, List.cons_append, List.nil_append]
 go_wp2_with (refine copyRunL rfl _ _ 28 28 rfl rfl rfl (CP.out _ _ (by first | exact size_madeCells _ _ | (rw [size_madeCells, Nat.mul_one]))) ?_)
 go_ret
 exact ⟨_, rfl, FN.out, below_new w _⟩
set_option maxHeartbeats 8000000 in
set_option maxRecDepth 100000 in
theorem listMsgs_at (xs : Lks) (v : Value) (w : World) (h : Has w v (dLinks xs)) (hn : xs.length ≤ 1000000) :
  Calls Try.prog 57 #[v] w fun e w' => ∃ u, e = .returned u ∧ Holds True (fresh w) w' u (dLinks xs) ∧ Below w.heap.size w w' := by
 obtain ⟨a, c, rfl⟩ := slice_of h
 obtain ⟨hlen, hnone, news, hnews, hL⟩ := newsOf h (by intro ds hd; obtain ⟨_, _, rfl⟩ := List.mem_map.1 hd; rfl) (flat_links xs)
 obtain ⟨i, hi, hz, hs, hby⟩ := info_parts infoMsg
 obtain ⟨k, hk⟩ : ∃ k, k = xs.length := ⟨_, rfl⟩
 rw [← hk] at hn hnone h ⊢
 have hnl : news.length = k * 2 := by
  rw [(hL True All).1, flatten_len (n := 2) (by intro ds hd; obtain ⟨_, _, rfl⟩ := List.mem_map.1 hd; rfl), List.length_map, hk]
 have h1 : ∀ u ∈ news, u.oneCell' = true := by
  intro u hu
  obtain ⟨j, hj⟩ := List.mem_iff_getElem?.1 hu
  obtain ⟨hl, _, _, _, h4⟩ := hL True All
  obtain ⟨d, hd⟩ := some_of_lt (l := (xs.map fun p => [dI p.1, dI p.2]).flatten) (i := j) (by rw [← hl]; exact lt_of_some hj)
  exact (h4 j u d hj hd).one
 have hmk := make_msgs k hn w
 have hw1 : ∀ C : Array Value, Below w.heap.size w (w.alloc (.cells C 56)) := fun C => below_new w _
 have hcp : ∀ (ty : TypeId) (C : Array Value), C.size = k * 2 → (Builtin.copy_ #[51, 51] ty #[.slice (some ⟨w.heap.size, 0, none⟩) k k, .slice a k c]).run Try.prog (w.alloc (.cells C 56)) = .ok (goInt k) (w.alloc (.cells news.toArray 56)) := fun ty C hC => by
  rw [run_copy_all 51 56 ty i Try.underlying51 hi w.heap.size k c C 56 (heap_alloc_new w _) (by rw [hC, hs]) a news (by rw [hnl, hs]) hnone (fun ad e j u hu => ?_) h1, World.setRow_alloc_new]
  have hc := hnews ad e j u hu
  exact (World.cell?_alloc_lt _ _ _ (World.block_lt_of_cell? w _ hc)).trans hc
 have hfin : Holds True (fresh w) (w.alloc (.cells news.toArray 56)) (.slice (some ⟨w.heap.size, 0, none⟩) k k) (dLinks xs) :=
  holds_mk (Q := fun _ => False) (cells := news) (by rw [List.length_map]; exact hk) (Nat.le_refl _) (heap_alloc_new w _) (Nat.le_refl _) (by unfold maxLen; omega) (by simpa using hnl) (by rw [List.take_of_length_le (by simp [hnl])]) (by intro ds hd; obtain ⟨_, _, rfl⟩ := List.mem_map.1 hd; rfl)
   ((hL True (fun _ => False)).later (below_new w _)) (fun _ h => h.elim) (fun h => h)
 have CP := Lib.hid hcp
 have FN := Lib.hid hfin
 clear hcp hfin hw1 h1 hnl hnews hL hnone hlen hk h
 go_enter Try.func57, Try.ntmps57
 try simp only [List.append_eq, List.cons_append, List.nil_append]
 go_wp2_with (refine copyRunL rfl _ _ 51 51 rfl rfl rfl (CP.out _ _ (by first | exact size_madeCells _ _ | (rw [size_madeCells, Nat.mul_one]))) ?_)
 go_ret
 exact ⟨_, rfl, FN.out, below_new w _⟩
end Go.Proofs.Ytennbiajnkobnaa

set_option linter.unusedSimpArgs false
namespace Go.Proofs.Ytennbiajnkobnaa
open Go.RowKit Go.PlainAid
def zI : Value := .int .i64 0
def zS : Value := .slice none 0 0
def sl (b n : Nat) : Value := .slice (some ⟨b, 0, none⟩) n n
def twoCells (h : Nat) (m0 : Int) (wb : Nat) (x : Int) : List (Addr × Value) :=
  [(⟨h, 0, none⟩, .int .i64 1), (⟨h, 1, none⟩, .int .i64 1), (⟨h + 1, 0, none⟩, .int .i64 1), (⟨h + 1, 1, none⟩, sl h 1),
   (⟨h + 1 + 1, 0, none⟩, .int .i64 m0), (⟨h + 1 + 1, 1, none⟩, zS), (⟨h + 1 + 1, 2, none⟩, sl (h + 1) 1), (⟨h + 1 + 1, 3, none⟩, zS), (⟨h + 1 + 1, 4, none⟩, zI), (⟨h + 1 + 1, 5, none⟩, zS), (⟨h + 1 + 1, 6, none⟩, zS), (⟨h + 1 + 1, 7, none⟩, zS),
   (⟨wb, 0, none⟩, .int .i64 x), (⟨h + 1 + 1 + 1 + 1, 0, none⟩, .int .i64 0), (⟨h + 1 + 1 + 1 + 1, 1, none⟩, .int .i64 1), (⟨h + 1 + 1 + 1 + 1, 2, none⟩, .int .i64 1),
   (⟨h + 1 + 1 + 1 + 1 + 1, 0, none⟩, .int .i64 2), (⟨h + 1 + 1 + 1 + 1 + 1, 1, none⟩, sl wb 1), (⟨h + 1 + 1 + 1 + 1 + 1, 2, none⟩, zS), (⟨h + 1 + 1 + 1 + 1 + 1, 3, none⟩, sl (h + 1 + 1 + 1 + 1) 1), (⟨h + 1 + 1 + 1 + 1 + 1, 4, none⟩, zI), (⟨h + 1 + 1 + 1 + 1 + 1, 5, none⟩, zS), (⟨h + 1 + 1 + 1 + 1 + 1, 6, none⟩, zS), (⟨h + 1 + 1 + 1 + 1 + 1, 7, none⟩, zS),
   (⟨h + 1 + 1 + 1 + 1 + 1 + 1, 0, none⟩, .int .i64 0), (⟨h + 1 + 1 + 1 + 1 + 1 + 1, 1, none⟩, sl (h + 1 + 1) 2), (⟨h + 1 + 1 + 1 + 1 + 1 + 1, 2, none⟩, .int .i64 0), (⟨h + 1 + 1 + 1 + 1 + 1 + 1, 3, none⟩, sl (h + 1 + 1 + 1 + 1 + 1) 2)]
def TwoAt (w : World) (h : Nat) (m0 : Int) (wb : Nat) (x : Int) : Prop := ∀ p ∈ twoCells h m0 wb x, w.cell? p.1 = some p.2
theorem TwoAt.below {w w' : World} {h : Nat} {m0 : Int} {wb : Nat} {x : Int} (g : TwoAt w h m0 wb x) (hb : Below w.heap.size w w') : TwoAt w' h m0 wb x := fun p hp => (hb.cell (World.block_lt_of_cell? w _ (g p hp))).trans (g p hp)
theorem rightF2 : RightG 2 F2 := by
 refine ⟨by omega, by omega, by decide, rg_of (by decide) (by decide) (by decide) (by decide), fun y hy => ?_⟩
 have : y = 0 ∨ y = 1 := by omega
 rcases this with rfl | rfl
 ·exact ⟨0, rfl⟩
 ·exact ⟨1, 0, rfl, by decide⟩
theorem zeroOK (L : Lks) (n : Int) (all : List St) : PlaceOK L ⟨⟨0, [], [], []⟩, n, all⟩ :=
 ⟨⟨Int.le_refl _, by show (0 : Int) ≤ 2; decide⟩, ⟨by simp, fun i x h => by simp at h⟩, ⟨by simp, by simp, fun i x h => by simp at h⟩, fun i x h => by simp at h⟩
end Go.Proofs.Ytennbiajnkobnaa

set_option linter.unusedSimpArgs false
namespace Go.Proofs.Ytennbiajnkobnaa
open Go.RowKit Go.PlainAid
theorem twoCells_block {h : Nat} {m0 : Int} {wb : Nat} {x : Int} : ∀ p ∈ twoCells h m0 wb x, (h ≤ p.1.block ∧ p.1.block ≤ h + 6) ∨ p.1.block = wb := by
 intro p hp
 simp only [twoCells, List.mem_cons, List.mem_nil_iff, or_false] at hp
 rcases hp with rfl | rfl | rfl | rfl | rfl | rfl | rfl | rfl | rfl | rfl | rfl | rfl | rfl | rfl | rfl | rfl | rfl | rfl | rfl | rfl | rfl | rfl | rfl | rfl | rfl | rfl | rfl | rfl <;> first | (left; constructor <;> simp <;> omega) | (right; rfl)
theorem TwoAt.far {w : World} {h : Nat} {m0 : Int} {wb : Nat} {x : Int} (g : TwoAt w h m0 wb x) (a : Addr) (u : Value) (h1 : a.block < h ∨ h + 6 < a.block) (h2 : wb ≠ a.block) : TwoAt (w.setCell a u) h m0 wb x := fun p hp => by
 rw [World.cell?_setCell_other _ _ _ _ (by intro e; have := twoCells_block p hp; rw [← e] at this; omega)]
 exact g p hp
structure FixAt (w0 : World) (h1 hb hi gb pb wb : Nat) (ga : Option Addr) (gc : Nat) (ua : Option Addr) (uc : Nat) (wr : World) : Prop where
 bel : Below w0.heap.size w0 wr
 t : TwoAt wr h1 1 (h1 + 1 + 1 + 1) 0
 b : TwoAt wr hb 1 wb 1
 i : TwoAt wr hi 0 (hi + 1 + 1 + 1) 0
 g0 : wr.cell? ⟨gb, 0, none⟩ = some (.int .i64 2)
 g1 : wr.cell? ⟨gb, 1, none⟩ = some (.slice ga 2 gc)
 gl : LinksAt wr (.slice ga 2 gc) F2
 p0 : wr.cell? ⟨pb, 0, none⟩ = some (.int .i64 1)
 p1 : wr.cell? ⟨pb, 1, none⟩ = some (.slice ua 1 uc)
theorem FixAt.below {w0 : World} {h1 hb hi gb pb wb : Nat} {ga : Option Addr} {gc : Nat} {ua : Option Addr} {uc : Nat} {w w' : World} (f : FixAt w0 h1 hb hi gb pb wb ga gc ua uc w) (hb' : Below w.heap.size w w') : FixAt w0 h1 hb hi gb pb wb ga gc ua uc w' := by
 have k := fun (p : Addr) (v : Value) (e : w.cell? p = some v) => (hb'.cell (World.block_lt_of_cell? w _ e)).trans e
 exact ⟨below_step f.bel.size f.bel hb', f.t.below hb', f.b.below hb', f.i.below hb', k _ _ f.g0, k _ _ f.g1, f.gl.below hb', k _ _ f.p0, k _ _ f.p1⟩
theorem wfF2 : ∀ p ∈ F2, wfp p := wfSmall (by decide)
theorem mode_is (M : Tab) (n s m : Int) (v : Value) (w : World) (h : Has w v (dTab M)) (hm : (stAt M n s).mode = m) :
  Calls Try.prog 76 #[v, .int .i64 n, .int .i64 s] w fun e w' => e = .returned (.int .i64 m) ∧ Below w.heap.size w w' := by subst hm; exact mode_at M n s v w h
end Go.Proofs.Ytennbiajnkobnaa

