/- The walk of Rank. -/
import Derived.Test.YtopmbcfecaklhaaN
import Derived.Lib.OwnBridge
namespace Go.Proofs.Ytopmbcfecaklhaa
open Go.RowKit Go.PlainAid Go.Sort Go.Shelf Go.Lib

/-- The row of places, k of them written. -/
def RowHead (w : World) (n : Nat) (sl : Value) (k : Nat) (wr : World) : Prop :=
  k ≤ n ∧ Below w.heap.size w wr ∧ wr.heap.size = w.heap.size + 2 ∧ wr.cell? ⟨w.heap.size, 0, none⟩ = some sl ∧
  ∀ j, j < n → wr.cell? ⟨w.heap.size + 1, j, none⟩ = some (.int .i64 (if j < k then (j : Int) else 0)) ∧ wr.frozen? ⟨w.heap.size + 1, j, none⟩ = false

theorem infoInt : (Try.prog.info? 3).map (fun i => (i.zero, i.size, i.bytes)) = some (some (.int .i64 0), 1, 8) := by kernel_rfl
theorem infoFloat : (Try.prog.info? 22).map (fun i => (i.zero, i.size, i.bytes)) = some (some (.float .f64 0), 1, 8) := by kernel_rfl
theorem make_ints (n : Nat) (h : n ≤ 1000000) (w : World) : (Instr.makeSlice 35 (.int .i64 (n : Int)) (.int .i64 (n : Int))).run Try.prog w = .ok (.slice (some ⟨w.heap.size, 0, none⟩) n n) (w.alloc (.cells (madeCells #[.int .i64 0] n) 3)) := by
  obtain ⟨i, hi, hz, h1, h2⟩ := info_parts infoInt
  have := run_make (P := Try.prog) w 35 3 i (.int .i64 0) Try.underlying35 hi hz .i64 .i64 n n (by omega) (by omega) (by rw [h2]; omega) (by omega)
  rw [this, h1]
  simp [Value.cells]

theorem row_start (w : World) (n : Nat) (sl : Value) (T : TypeId) :
    RowHead w n sl 0 ((w.alloc (.cells #[sl] T)).alloc (.cells (madeCells #[.int .i64 0] n) 3)) := by
  refine ⟨by omega, ((Below.refl _ _).alloc (Nat.le_refl _) _).alloc (by simp) _, by simp, ?_, fun j hj => ⟨?_, ?_⟩⟩
  · exact (World.cell?_alloc_past _ _ _ (by simp)).trans ((World.cell?_alloc_at _ _ _ 0 rfl).trans rfl)
  · rw [World.cell?_alloc_at _ _ _ j (by simp)]
    simp [madeCells, hj, Nat.mod_one]
  · exact World.frozen?_alloc_at _ _ _ j (by simp)
theorem RowHead.put {w wr : World} {n k : Nat} {sl : Value} (h : RowHead w n sl k wr) (hk : k < n) : RowHead w n sl (k + 1) (wr.setCell ⟨w.heap.size + 1, k, none⟩ (.int .i64 k)) := by
  obtain ⟨h0, h1, h2, h3, h4⟩ := h
  refine ⟨by omega, h1.setCell (by show _ ≤ _ + 1; omega) _, by simp [World.setCell, h2], ?_, fun j hj => ⟨?_, ?_⟩⟩
  · rw [World.cell?_setCell_other (h := by intro e; have := congrArg Addr.block e; simp at this)]; exact h3
  · by_cases e : j = k
    · subst e
      rw [World.cell?_setCell_same (h := (h4 j hj).1), if_pos (by omega)]
    · rw [World.cell?_setCell_other (h := by intro e'; have := congrArg Addr.off e'; simp at this; omega), (h4 j hj).1]
      by_cases g : j < k
      · rw [if_pos g, if_pos (by omega)]
      · rw [if_neg g, if_neg (by omega)]
  · rw [World.frozen?_setCell]; exact (h4 j hj).2

theorem cell_sortWorld {α : Type} [Inhabited α] {enc : α → Value} {w : World} {blk off q : Nat} {d : Array α} {os : Array Obj} {a : Addr} (h : a.block ≠ blk) (hb : a.block < w.heap.size) :
    (sortWorld enc w blk off q d os).cell? a = w.cell? a := by
  unfold sortWorld
  rw [cell?_grow _ _ _ (by rw [size_putRow]; exact hb), cell?_putRow_other _ _ _ _ _ _ (.inl h)]
  rfl

theorem holds_row {w wr : World} {m : Nat} {sl : Value} (h : RowHead w (m + 1) sl (m + 1) wr) : Holds (encF m) wr (w.heap.size + 1) 0 (List.finRange (m + 1)).toArray := by
  intro j hj
  have hj' : j < m + 1 := by simpa using hj
  obtain ⟨-, -, -, -, h4⟩ := h
  have e : (List.finRange (m + 1)).toArray[j]! = (⟨j, hj'⟩ : Fin (m + 1)) := by
    rw [getElem!_pos _ j hj]; simp
  rw [e, Nat.zero_add]
  refine ⟨?_, (h4 j hj').2⟩
  rw [(h4 j hj').1, if_pos hj']
  rfl

theorem ints_sorted {w : World} {m : Nat} {blk q : Nat} {os : Array Obj} {l : List (Fin (m + 1))} (hl : l.length = m + 1) (h : Holds (encF m) w blk 0 (List.finRange (m + 1)).toArray) (hb : blk < w.heap.size) :
    IntsAt (sortWorld (encF m) w blk 0 q l.toArray os) (.slice (some ⟨blk, 0, none⟩) (m + 1) (m + 1)) ((l.map Fin.val).map Int.ofNat) := by
  have hs := holds_sortWorld (encF m) w blk 0 q _ l.toArray os hb h (by simp [hl])
  refine .inr ⟨blk, 0, m + 1, m + 1, rfl, by simp [hl], by omega, ?_, by omega, fun i hi => ?_⟩
  · unfold sortWorld; rw [Sort.size_grow, size_putRow]; show blk < w.heap.size + _; omega
  · have hi' : i < l.toArray.size := by simp [hl, hi]
    rw [(hs i hi').1, getElem!_pos _ i hi']
    have : ((l.map Fin.val).map Int.ofNat).getD i 0 = (((l.toArray[i] : Fin (m + 1)) : Nat) : Int) := by
      have hi2 : i < l.length := by simpa using hi'
      simp [List.getD, hi2]
    rw [this]
    rfl

theorem below_sorted {α : Type} [Inhabited α] {enc : α → Value} {w wr : World} {B blk q : Nat} {d : Array α} {os : Array Obj} (h : Below B w wr) (hb : B ≤ blk) (hs : B ≤ wr.heap.size) : Below B w (sortWorld enc wr blk 0 q d os) := by
  unfold sortWorld
  refine (Lib.below_putRow (enc := enc) (d := d) (q := q) h hb).trans ?_
  exact ⟨rfl, rfl, rfl, by rw [Sort.size_grow]; omega, fun k hk => heap_grow_old _ os (by rw [size_putRow]; show k < wr.heap.size; omega)⟩

/-- The sort, at the row of places. -/
theorem sort_row (b off m cap : Nat) (xs : List Nat) (w wr : World) (hl : xs.length = m + 1) (hb : b < w.heap.size) (hc : ∀ i, i < m + 1 → w.cell? ⟨b, off + i, none⟩ = some (.float .f64 (xs.getD i 0)))
    (hx : ∀ i, xs.getD i 0 < 18446744073709551616) (hn : m + 1 ≤ 1000000) (hr : RowHead w (m + 1) (.slice (some ⟨b, off, none⟩) (m + 1) cap) (m + 1) wr) :
    Calls Try.prog 33 #[.slice (some ⟨w.heap.size + 1, 0, none⟩) (m + 1) (m + 1), .func (.func 34) #[] #[.pointer (some ⟨w.heap.size, 0, none⟩)]] wr fun e w' =>
      e = .returned (.tuple #[]) ∧ ∃ r, IsRank xs r ∧ IntsAt w' (.slice (some ⟨w.heap.size + 1, 0, none⟩) (m + 1) (m + 1)) (r.map Int.ofNat) ∧ Below w.heap.size w w' := by
  have hH := holds_row hr
  obtain ⟨-, h1, h2, h3, -⟩ := hr
  have eg : ∀ args w, (callFunc 34 args).run Try.prog w = .ok (.enter 34 args) w := enters_of Try.func34 (by kernel_rfl) rfl
  have hsz : (List.finRange (m + 1)).toArray.size = m + 1 := by simp
  have hcmp : CmpLays1 Try.prog 34 #[.pointer (some ⟨w.heap.size, 0, none⟩)] (encF m) (cfF xs m) (w.heap.size + 1) 0 (List.finRange (m + 1)).toArray.size wr := by
    intro q os dk hdk x y
    have hy : ∀ i, i < m + 1 → (sortWorld (encF m) wr (w.heap.size + 1) 0 q dk os).cell? ⟨b, off + i, none⟩ = some (.float .f64 (xs.getD i 0)) := fun i hi => by
      rw [cell_sortWorld (by show b ≠ _; omega) (by show b < _; omega), h1.cell (by exact hb)]; exact hc i hi
    exact closure_any x y w.heap.size b off (m + 1) cap (xs.getD x 0) (xs.getD y 0) _ (hx _) (hx _)
      (by rw [cell_sortWorld (by show w.heap.size ≠ _; omega) (by show w.heap.size < _; omega)]; exact h3) x.isLt y.isLt (hy _ x.isLt) (hy _ y.isLt)
  have hS := Any.slices_SortFunc_total Try.sortL (encF m) (fun _ => rfl) (cfF xs m) (swoF xs m) 34 #[.pointer (some ⟨w.heap.size, 0, none⟩)] (w.heap.size + 1) 0 (m + 1) (List.finRange (m + 1)).toArray wr eg hcmp hH (by omega) (by rw [hsz]; omega) (totF xs m)
  rw [hsz] at hS
  refine hS.mono ?_
  rintro e w' ⟨rfl, q, os, rfl⟩
  have hlen : (rowF xs m).length = m + 1 := by
    have := (rowF_rank xs m hl).1.length_eq
    simpa [hl] using this
  exact ⟨rfl, _, rowF_rank xs m hl, ints_sorted hlen hH (by omega), below_sorted h1 (by omega) (by omega)⟩

set_option maxHeartbeats 2000000 in
set_option maxRecDepth 100000 in
theorem rank_some (b off m cap : Nat) (xs : List Nat) (w : World) (hl : xs.length = m + 1) (hb : b < w.heap.size) (hc : ∀ i, i < m + 1 → w.cell? ⟨b, off + i, none⟩ = some (.float .f64 (xs.getD i 0)))
    (hx : ∀ i, xs.getD i 0 < 18446744073709551616) (hn : m + 1 ≤ 1000000) :
    Calls Try.prog 22 #[.slice (some ⟨b, off, none⟩) (m + 1) cap] w fun e w' => ∃ u r, e = .returned u ∧ IsRank xs r ∧ IntsAt w' u (r.map Int.ofNat) ∧ Below w.heap.size w w' := by
  have hS := Lib.hid (fun wr hr => sort_row b off m cap xs w wr hl hb hc hx hn hr)
  obtain ⟨n, hnm⟩ : ∃ n, n = m + 1 := ⟨_, rfl⟩
  rw [← hnm] at hS ⊢
  have n1 : 1 ≤ n := by omega
  have n2 : n ≤ 1000000 := by omega
  clear hnm hn hc hx hl hb
  have hmk := make_ints n n2
  go_enter Try.func22, Try.ntmps22
  go_wp2_with fail
  go_loopw [10] (fun i wr => ∃ k : Nat, i = .int .i64 k ∧ RowHead w n (.slice (some ⟨b, off, none⟩) n cap) k wr) (fun i _ => n - (intOf i).toNat)
  case atStart => exact ⟨0, rfl, row_start _ _ _ _⟩
  case round =>
    obtain ⟨k, rfl, hr⟩ := hrel
    have Hr := Lib.hid hr
    have hk := hr.1
    by_cases hlt : k < n
    · have c1 := (hr.2.2.2.2 k hlt).1
      have f1 := (hr.2.2.2.2 k hlt).2
      rw [if_neg (by omega)] at c1
      clear hr
      have hlt' : (k : Int) < n := by omega
      go_wp2_with fail
      go_roundw
      case rel => exact ⟨k + 1, by go_num, Hr.out.put hlt⟩
      case measure => simp [intOf]; omega
    · obtain rfl : n = k := by omega
      clear hr
      go_wp2_with fail
      refine (hS.out _ Hr.out).mono ?_
      rintro e w1 ⟨rfl, r, h1, h2, h3⟩
      have H1 := Lib.hid h1
      have H2 := Lib.hid h2
      have H3 := Lib.hid h3
      clear h1 h2 h3
      go_wp2_with fail
      go_ret
      exact ⟨_, r, rfl, H1.out, H2.out, H3.out⟩
end Go.Proofs.Ytopmbcfecaklhaa
