/- Numbers as bytes: texts put together. -/
import Derived.Test.YtcopedhoepblpaaCm02
import Derived.Test.YtcopedhoepblpaaWd1
import Derived.Test.YtcopedhoepblpaaRows
import Derived.Test.YtcopedhoepblpaaShelf
import Derived.WalkKit
import Derived.WalkSpells
import Derived.Lib.Hide
import Derived.Lib.Builder
import Derived.Laws.Externs
import Derived.ShutString
set_option maxRecDepth 100000
namespace Go.Proofs.Ytcopedhoepblpaa
open Go.RowKit Go.PlainAid
/-- The numbers from place p on, behind those that are read: what is wrong, all. -/
def allGo (s : ByteArray) : Nat → Nat → List Int → Int × List Int
  | 0, _, acc => (0, acc)
  | f + 1, p, acc => if s.size ≤ p then (0, acc) else if (num s p).1 = 0 then allGo s f (p + (num s p).2.2) (acc ++ [(num s p).2.1]) else ((num s p).1, [])
def allR (s : ByteArray) : Int × List Int := allGo s (s.size + 1) 0 []
theorem ownsRow_only {w w' : World} {base B : Nat} {e : TypeId} {size : Nat} {v : Value} {n : Nat} {xs : List Value} (h : w.ownsRow base e size v n xs) (ho : Only B w w') (hB : B < base) : w'.ownsRow base e size v n xs := by
  obtain ⟨h1, h2⟩ := h
  refine ⟨h1, ?_⟩
  rcases h2 with h2 | ⟨g, cap, cur, hv, hg, hh, r⟩
  · exact Or.inl h2
  · exact Or.inr ⟨g, cap, cur, hv, hg, by rw [ho.block _ (by omega)]; exact hh, r⟩
theorem ownsRow_base {w : World} {base B : Nat} {e : TypeId} {size : Nat} {v : Value} {n : Nat} {xs : List Value} (h : w.ownsRow base e size v n xs) (hB : B ≤ base) : w.ownsRow B e size v n xs := by
  obtain ⟨h1, h2⟩ := h
  refine ⟨h1, ?_⟩
  rcases h2 with h2 | ⟨g, cap, cur, hv, hg, hh, r⟩
  · exact Or.inl h2
  · exact Or.inr ⟨g, cap, cur, hv, by omega, hh, r⟩
def NumsPost (s : ByteArray) (w : World) (e : Ending) (w' : World) : Prop :=
  Below w.heap.size w w' ∧ (((allR s).1 ≠ 0 ∧ Panics (allR s).1 e) ∨
    ((allR s).1 = 0 ∧ ∃ v, e = .returned v ∧ w'.ownsRow w.heap.size 3 1 v (allR s).2.length ((allR s).2.map (Value.int .i64))))
/-- The head of the round. -/
def NumsHead (s : ByteArray) (w : World) (p : Nat) (acc : List Int) (v : Value) (wr : World) : Prop :=
  p ≤ s.size ∧ acc.length ≤ p ∧ (∃ f, s.size < p + f ∧ allGo s f p acc = allR s) ∧ Below w.heap.size w wr ∧ w.heap.size + 2 ≤ wr.heap.size ∧
  wr.heap[w.heap.size]? = some (.cells #[.string s] 9 (0, 0)) ∧ wr.heap[w.heap.size + 1]? = some (.cells #[.int .i64 (p : Int)] 3 (0, 0)) ∧
  wr.ownsRow (w.heap.size + 2) 3 1 v acc.length (acc.map (Value.int .i64))
theorem Try.info3 : (Try.prog.info? 3).map (fun i => (i.zero, i.size, i.bytes)) = some (some (.int .i64 0), 1, 8) := by kernel_rfl
theorem nums_step {s : ByteArray} {w wr w1 : World} {p : Nat} {acc : List Int} {v : Value} (h : NumsHead s w p acc v wr) (hp : p < s.size) (he : (num s p).1 = 0) (ho : Only (w.heap.size + 1) wr w1)
    (hc : w1.heap[w.heap.size + 1]? = some (.cells #[.int .i64 ((p + (num s p).2.2 : Nat) : Int)] 3 (0, 0))) (w2 : World) (v2 : Value) (o : Obj) (hg : (w1.alloc o).grownBy w2 v.ownBlock)
    (hown : w2.ownsRow (w.heap.size + 2) 3 1 v2 (acc.length + 1) (acc.map (Value.int .i64) ++ [.int .i64 (num s p).2.1])) :
    NumsHead s w (p + (num s p).2.2) (acc ++ [(num s p).2.1]) v2 w2 := by
  obtain ⟨h1, h2, ⟨f, h3, h4⟩, h5, h6, h7, h8, h9⟩ := h
  obtain ⟨g1, g2, g3, g4, g5⟩ := num_in s p he
  have hv := h9.lt
  have hz1 : w1.heap.size = wr.heap.size := ho.size
  have hz2 : (w1.alloc o).heap.size = wr.heap.size + 1 := by rw [size_new, hz1]
  have hbl : ∀ k, k < w.heap.size + 2 → w2.heap[k]? = w1.heap[k]? := fun k hk => by
    rw [hg.block k (by omega) (fun e => by have := hv k e.symm; omega), heap_push, if_neg (by omega)]
  refine ⟨by omega, by simp; omega, ?_, ?_, ?_, ?_, ?_, ?_⟩
  · cases f with
    | zero => omega
    | succ f => exact ⟨f, by omega, by rw [← h4, allGo, if_neg (by omega), if_pos he]⟩
  · exact ⟨hg.os.trans (ho.os.trans h5.os), hg.tape.trans (ho.tape.trans h5.tape), hg.output.trans (ho.output.trans h5.output), by have := hg.size; omega, fun k hk => by
      rw [hbl k (by omega), ho.block k (by omega), h5.block k hk]⟩
  · have := hg.size; omega
  · rw [hbl _ (by omega), ho.block _ (by omega)]; exact h7
  · rw [hbl _ (by omega)]; exact hc
  · simpa using hown
set_option maxHeartbeats 1000000 in
theorem numbers_any (s : ByteArray) (w : World) (hs : s.size ≤ 1000000) :
    Calls Try.prog 54 #[.string s] w (NumsPost s w) := by
  obtain ⟨i0, hi, hz0, hz1, hz2⟩ := info_parts Try.info3
  go_enter Try.func54, Try.ntmps54
  go_wp2_with (go_at_call 74; refine (from_any s _ _).mono ?_; rintro e w' ⟨rfl, rfl⟩)
  go_loopw [3, 5] (fun v i wr => ∃ (p : Nat) (acc : List Int), i = .int .i64 p ∧ NumsHead s w p acc v wr) (fun _ i _ => s.size - (intOf i).toNat)
  case atStart =>
    refine ⟨0, [], rfl, by omega, by simp, ⟨s.size + 1, by omega, rfl⟩, ((Below.refl _ _).alloc (Nat.le_refl _) _).alloc (by simp) _, by simp only [size_new]; omega, ?_, ?_, World.ownsRow_nil _ _ _ _⟩
    · simp only [heap_push, size_new]; rw [if_neg (by omega), if_pos trivial]
    · simp only [heap_push, size_new]; rw [if_pos trivial]; rfl
  case round =>
    obtain ⟨p, acc, rfl, hh⟩ := hrel
    have hH := Lib.hid hh
    obtain ⟨h1, h2, h3, h4, h5, h6, h7, h8⟩ := hh
    by_cases hlt : p < s.size
    · have hnum := number_any s p (w.heap.size + 1) w.heap.size wr h7 h6 (by unfold maxLen; omega) (by omega)
      have Hnum := Lib.hid hnum
      have HO := Lib.hid h8
      have HB := Lib.hid h4
      clear hnum h3 h6 h7 h8 h4
      go_wp2_with fail
      refine Hnum.out.mono ?_
      rintro e w1 ⟨ho, ⟨hne, hp⟩ | ⟨heq, rfl, hcell⟩⟩
      · obtain ⟨h1, h2, ⟨f, h9, h10⟩, h4, h5, h6, h7, h8⟩ := hH.out
        have hall : allR s = ((num s p).1, []) := by
          rw [← h10]
          cases f with
          | zero => omega
          | succ f => rw [allGo, if_neg (by omega), if_neg hne]
        unfold Panics at hp
        subst hp
        exact ⟨rfl, h4.trans (ho.below (by omega)), .inl (by rw [hall]; exact ⟨hne, rfl⟩)⟩
      · obtain ⟨g1, g2, g3, g4, g5⟩ := num_in s p heq
        have Heq := Lib.hid heq
        have Ho := Lib.hid ho
        have Hc := Lib.hid hcell
        have hsz : w1.heap.size = wr.heap.size := ho.size
        have Hsz := Lib.hid hsz
        have hst := @nums_step s w wr w1 p acc _ hH.out hlt heq ho hcell
        have Hst := Lib.hid hst
        clear hst hsz heq ho hcell
        generalize num s p = r at *
        obtain ⟨r0, r1, r2⟩ := r
        dsimp only at g1 g2 g3 g4 g5
        go_wp2_with (at_builtin; refine wpList_append_own _ rfl _ _ 22 rfl (w.heap.size + 2) 3 i0 (.int .i64 0) 1 8 Try.underlying22 hi hz0 hz1 hz2 rfl (by decide) _ _ _ rfl ((ownsRow_only HO.out Ho.out (by omega)).alloc _) ⟨w1.heap.size, 0, none⟩ 1 1 [.int .i64 r1] rfl rfl (cell_one_new _ _ _) ?c2 ?c3 ?c4 ?c5 ?_)
        case c2 => intro u hu; simp at hu; subst hu; rfl
        case c3 => unfold maxLen; omega
        case c4 => omega
        case c5 => rw [size_new, Hsz.out]; omega
        intro v' w2 hown hg _
        have hst := Lib.hid (Hst.out _ _ _ hg hown)
        clear hown hg
        go_wp2_with fail
        go_roundw
        case rel => exact ⟨p + r2, acc ++ [r1], by go_num, hst.out⟩
        case measure => simp [intOf]; omega
    · go_wp2_with fail
      go_ret
      obtain ⟨f, h9, h10⟩ := h3
      have hall : allR s = (0, acc) := by
        rw [← h10]
        cases f with
        | zero => omega
        | succ f => rw [allGo, if_pos (by omega)]
      exact ⟨h4, .inr (by rw [hall]; exact ⟨rfl, _, rfl, ownsRow_base h8 (by omega)⟩)⟩
end Go.Proofs.Ytcopedhoepblpaa
namespace Go.Proofs.Ytcopedhoepblpaa
open Go.RowKit Go.PlainAid
theorem sizeBuilder : (Try.prog.info? 82).map (·.size) = some 2 := by kernel_rfl
theorem liesBuilder : liesAt Try.prog Try.prog.depth 82 (2 / Try.prog.cellsOf 82) 0 82 1 = true := by kernel_rfl
theorem infoByte : (Try.prog.info? 5).map (fun i => (i.zero, i.size, i.bytes)) = some (some (.int .u8 0), 1, 1) := by kernel_rfl
set_option maxHeartbeats 1000000 in
set_option maxRecDepth 100000 in
theorem copyCheck_used (b : Nat) (w : World) (h0 : w.cell? ⟨b, 0, none⟩ = some (.pointer (some ⟨b, 0, none⟩))) :
    Calls Try.prog 71 #[.pointer (some ⟨b, 0, none⟩)] w fun e w' => e = .returned (.tuple #[]) ∧ w = w' := by
  obtain ⟨j, hj, _⟩ := Option.map_eq_some_iff.1 sizeBuilder
  go_enter Try.func71, Try.ntmps71
  go_wp2
  rw [Lib.run_neq_ptr_same w _ Try.underlying80 hj]
  go_wp2
  go_end0
  exact ⟨rfl, rfl⟩
set_option maxHeartbeats 1000000 in
set_option maxRecDepth 100000 in
theorem copyCheck_fresh (b : Nat) (w : World) (h0 : w.cell? ⟨b, 0, none⟩ = some (.pointer none)) (hsh : w.shape? b = some (82, 2)) (hfz : w.frozen? ⟨b, 0, none⟩ = false) :
    Calls Try.prog 71 #[.pointer (some ⟨b, 0, none⟩)] w fun e w' => e = .returned (.tuple #[]) ∧ w.setCell ⟨b, 0, none⟩ (.pointer (some ⟨b, 0, none⟩)) = w' := by
  obtain ⟨j, hj, hjs⟩ := Option.map_eq_some_iff.1 sizeBuilder
  go_enter Try.func71, Try.ntmps71
  go_wp2
  rw [Lib.run_to_unsafe w ⟨b, 0, none⟩ Try.underlying80 Try.underlying113 hj (by rw [hjs]; decide) hsh (Nat.zero_lt_succ 1)]
  simp only [Result.andThen]
  rw [Oper.upon_value]
  go_wp2
  rw [run_callFunc_extern Try.func80 (by kernel_rfl) (by kernel_rfl) (by kernel_rfl) (e := Extern.AbiNoEscape.same) (by kernel_rfl)]
  rw [Lib.run_noEscape]
  simp only [Result.andThen]
  rw [Oper.upon_value]
  go_wp2
  rw [Lib.run_from_unsafe w ⟨b, 0, none⟩ Try.underlying113 Try.underlying80 hj hsh liesBuilder]
  simp only [Result.andThen]
  rw [Oper.upon_value]
  go_wp2
  go_end0
  exact ⟨rfl, rfl⟩
theorem copyCheck_any (B b : Nat) (bs : List Value) (w : World) (h : Lib.IsBuilder 82 5 B b bs w) :
    Calls Try.prog 71 #[.pointer (some ⟨b, 0, none⟩)] w fun e w' => e = .returned (.tuple #[]) ∧ (Lib.BuilderAt 82 5 B b (.pointer (some ⟨b, 0, none⟩)) bs w' ∧ Below B w w') := by
  rcases h with h | h
  · refine (copyCheck_fresh b w h.cell0 h.shape h.frozen0).mono ?_
    rintro e w' ⟨rfl, rfl⟩
    exact ⟨rfl, h.used _, (Below.refl B w).setCell (p := ⟨b, 0, none⟩) h.1 _⟩
  · refine (copyCheck_used b w h.cell0).mono ?_
    rintro e w' ⟨rfl, rfl⟩
    exact ⟨rfl, h, Below.refl B _⟩
set_option maxHeartbeats 2000000 in
set_option maxRecDepth 100000 in
theorem writeByte_any (B b : Nat) (bs : List Value) (c : Int) (w : World) (h : Lib.IsBuilder 82 5 B b bs w) (hlen : bs.length + 1 ≤ 140737488355328) (hBw : B ≤ w.heap.size) :
    Calls Try.prog 49 #[.pointer (some ⟨b, 0, none⟩), .int .u8 c] w fun e w' => e = .returned .nilIface ∧ (Lib.BuilderAt 82 5 B b (.pointer (some ⟨b, 0, none⟩)) (bs ++ [.int .u8 c]) w' ∧ Below B w w') := by
  obtain ⟨i0, hi, hz0, hz1, hz2⟩ := info_parts infoByte
  go_enter Try.func49, Try.ntmps49
  go_wp2_with (go_at_call 71; refine (copyCheck_any B b bs _ h).mono ?_)
  rintro e w1 ⟨rfl, h1, hb1⟩
  obtain ⟨hB, v, hbk, hown, hne⟩ := h1
  have c0 : w1.cell? ⟨b, 0, none⟩ = some (.pointer (some ⟨b, 0, none⟩)) := by rw [Lib.cell_of_heap hbk]; rfl
  have c1 : w1.cell? ⟨b, 1, none⟩ = some v := by rw [Lib.cell_of_heap hbk]; rfl
  go_wp2_with (at_builtin; refine wpList_append_own _ rfl _ _ 53 rfl B 5 i0 (.int .u8 0) 1 1 Try.underlying53 hi hz0 hz1 hz2 rfl (by decide) _ _ _ rfl (hown.alloc _) ⟨w1.heap.size, 0, none⟩ 1 1 [.int .u8 c] rfl rfl (cell_one_new _ _ _) ?c2 ?c3 ?c4 ?c5 ?_)
  case c2 => intro u hu; simp at hu; subst hu; rfl
  case c3 => unfold maxLen; omega
  case c4 => omega
  case c5 => have := hb1.size; simp; omega
  intro v' w2 hown' hgrow _
  have hlt : b < w1.heap.size := by
    rcases Nat.lt_or_ge b w1.heap.size with h' | h'
    · exact h'
    · simp [Array.getElem?_eq_none h'] at hbk
  have hb2 : w2.heap[b]? = some (.cells #[.pointer (some ⟨b, 0, none⟩), v] 82 (0, 0)) := by
    rw [hgrow.block b (by simp; omega) (fun e => hne e.symm), Lib.alloc_old w1 _ b hlt]
    exact hbk
  have d0 : w2.cell? ⟨b, 0, none⟩ = some (.pointer (some ⟨b, 0, none⟩)) := by rw [Lib.cell_of_heap hb2]; rfl
  have d1 : w2.cell? ⟨b, 1, none⟩ = some v := by rw [Lib.cell_of_heap hb2]; rfl
  have f1 : w2.frozen? ⟨b, 1, none⟩ = false := Lib.frozen_of_heap hb2 1
  obtain ⟨g, cap, rfl⟩ : ∃ g cap, v' = .slice (some ⟨g, 0, none⟩) (bs.length + 1) cap := by
    rcases hown'.2 with ⟨_, h0⟩ | ⟨g, cap, cur, hv, _⟩
    · omega
    · exact ⟨g, cap, hv⟩
  go_wp2
  go_ret
  refine ⟨rfl, ?_, ?_⟩
  · exact Lib.BuilderAt.put (T := 82) (e := 5) hB hb2 (bs' := bs ++ [.int .u8 c]) (by simpa using hown') (by decide)
  · exact ((hb1.alloc (by have := hb1.size; omega) _).grown hgrow (by have := hb1.size; simp; omega) (fun k hk => (hown.lt k hk).1)).setCell (p := ⟨b, 1, none⟩) hB _
set_option maxHeartbeats 400000 in
theorem putsClosure_any (B b : Nat) (bs : List Value) (c : Int) (w : World) (h : Lib.IsBuilder 82 5 B b bs w) (hlen : bs.length + 1 ≤ 140737488355328) (hBw : B ≤ w.heap.size) :
    Calls Try.prog 48 #[.int .u8 c, .pointer (some ⟨b, 0, none⟩)] w fun e w' => e = .returned (.tuple #[]) ∧ Lib.IsBuilder 82 5 B b (bs ++ [.int .u8 c]) w' ∧ Below B w w' := by
  go_enter Try.func48, Try.ntmps48
  go_wp2_with (go_at_call 49; refine (writeByte_any B b bs c _ h hlen hBw).mono ?_)
  rintro e w1 ⟨rfl, h1, hb1⟩
  go_wp2_with fail
  go_end0
  exact ⟨rfl, .inr h1, hb1⟩
/-- A number's bytes. -/
def putGo : Nat → Nat → List UInt8
  | 0, n => [UInt8.ofNat n]
  | f + 1, n => if 127 < n then UInt8.ofNat (n % 128 + 128) :: putGo f (n / 128) else [UInt8.ofNat n]
def cutW (n : Int) : Nat := (min (max n 0) 2147483647).toNat
def putB (n : Int) : List UInt8 := putGo 4 (cutW n)
theorem putGo_size : ∀ (f n : Nat), (putGo f n).length ≤ f + 1 := by
  intro f
  induction f with
  | zero => intro n; simp [putGo]
  | succ f ih => intro n; simp only [putGo]; split <;> simp; have := ih (n / 128); omega
def SpellHead (n : Int) (B b : Nat) (bs : List Value) (w : World) (m : Nat) (wr : World) : Prop :=
  ∃ f acc, f ≤ 4 ∧ m < 128 ^ (f + 1) ∧ putB n = acc ++ putGo f m ∧ acc.length + f ≤ 4 ∧ Lib.IsBuilder 82 5 B b (bs ++ Lib.byteCells acc) wr ∧ Below B w wr
theorem putGo_more {f m : Nat} (h : 127 < m) (hm : m < 128 ^ (f + 1)) : ∃ g, f = g + 1 ∧ putGo f m = UInt8.ofNat (m % 128 + 128) :: putGo g (m / 128) ∧ m / 128 < 128 ^ (g + 1) := by
  cases f with
  | zero => simp at hm; omega
  | succ g =>
    refine ⟨g, rfl, by rw [putGo, if_pos h], ?_⟩
    rw [Nat.pow_succ] at hm
    exact Nat.div_lt_of_lt_mul (by omega)
theorem putGo_last {f m : Nat} (h : m ≤ 127) : putGo f m = [UInt8.ofNat m] := by
  cases f with
  | zero => rfl
  | succ g => rw [putGo, if_neg (by omega)]
theorem or128 (m : Nat) : bits .or .i64 (bits .and .i64 (m : Int) 127) 128 = ((m % 128 + 128 : Nat) : Int) := by
  rw [i64_and127, i64_or_low 7 _ _ (by omega) (by omega) (by omega) (by omega) (by decide) (by omega)]
  omega
theorem toNat_ofNat8 {m : Nat} (h : m < 256) : ((UInt8.ofNat m).toNat : Int) = (m : Int) := by
  simp [Nat.mod_eq_of_lt h]
set_option maxHeartbeats 1000000 in
theorem spell_any (n : Int) (B b : Nat) (bs : List Value) (w : World) (h : Lib.IsBuilder 82 5 B b bs w) (hlen : bs.length + 5 ≤ 140737488355328) (hBw : B ≤ w.heap.size) :
    Calls Try.prog 47 #[.int .i64 n, .func (.func 48) #[] #[.pointer (some ⟨b, 0, none⟩)]] w fun e w' => e = .returned (.tuple #[]) ∧ Lib.IsBuilder 82 5 B b (bs ++ Lib.byteCells (putB n)) w' ∧ Below B w w' := by
  have hcut : putB n = putGo 4 (min (max n 0) 2147483647).toNat := rfl
  obtain ⟨m0, hm0⟩ : ∃ m : Nat, min (max n 0) 2147483647 = (m : Int) := ⟨(min (max n 0) 2147483647).toNat, by omega⟩
  have hm1 : m0 ≤ 2147483647 := by omega
  rw [hm0, Int.toNat_natCast] at hcut
  have Hcut := Lib.hid hcut
  clear hcut
  go_enter Try.func47, Try.ntmps47
  go_wp2_with fail
  clear hm0
  go_loopw [0] (fun i wr => ∃ m : Nat, i = .int .i64 m ∧ SpellHead n B b bs w m wr) (fun i _ => (intOf i).toNat)
  case atStart => exact ⟨m0, rfl, 4, [], by omega, by omega, Hcut.out, by simp, by simpa [Lib.byteCells] using h, Below.refl _ _⟩
  case round =>
    obtain ⟨m, rfl, f, acc, hf, hm, hput, hl, hbld, hbel⟩ := hrel
    have Hput := Lib.hid hput
    have Hbel := Lib.hid hbel
    have hz := hbel.size
    have hlb : (bs ++ Lib.byteCells acc).length + 1 ≤ 140737488355328 := by rw [List.length_append, Lib.byteCells_length]; omega
    clear hput hbel
    by_cases hlt : 127 < m
    · obtain ⟨g, rfl, hg1, hg2⟩ := putGo_more hlt hm
      have hor := or128 m
      have Hg1 := Lib.hid hg1
      have Hm := Lib.hid hm
      have Hg2 := Lib.hid hg2
      clear hg1 hm hg2
      go_wp2_with fail
      refine (putsClosure_any B b _ _ wr hbld hlb (by omega)).mono ?_
      rintro e w1 ⟨rfl, hb1, hb2⟩
      go_wp2_with fail
      go_roundw
      case rel =>
        refine ⟨m / 128, by go_num, g, acc ++ [UInt8.ofNat (m % 128 + 128)], by omega, Hg2.out, by rw [Hput.out, Hg1.out]; simp, by simp; omega, ?_, Hbel.out.trans hb2⟩
        have e1 : Lib.byteCells (acc ++ [UInt8.ofNat (m % 128 + 128)]) = Lib.byteCells acc ++ [.int .u8 ((m : Int) % 128 + 128)] := by
          simp only [Lib.byteCells, List.map_append, List.map_cons, List.map_nil]
          rw [toNat_ofNat8 (by omega)]; simp
        rw [e1, ← List.append_assoc]; exact hb1
      case measure => simp [intOf]; omega
    · have hge : m ≤ 127 := by omega
      go_wp2_with fail
      refine (putsClosure_any B b _ _ wr hbld hlb (by omega)).mono ?_
      rintro e w1 ⟨rfl, hb1, hb2⟩
      go_wp2_with fail
      go_end0
      have e1 : Lib.byteCells (putB n) = Lib.byteCells acc ++ [.int .u8 (m : Int)] := by
        rw [Hput.out, putGo_last hge]
        simp only [Lib.byteCells, List.map_append, List.map_cons, List.map_nil]
        rw [toNat_ofNat8 (by omega)]
      exact ⟨rfl, by rw [e1, ← List.append_assoc]; exact hb1, Hbel.out.trans hb2⟩
end Go.Proofs.Ytcopedhoepblpaa
namespace Go.Proofs.Ytcopedhoepblpaa
open Go.RowKit Go.PlainAid
def putsB (l : List Int) : List UInt8 := l.flatMap putB
theorem putB_len (n : Int) : (putB n).length ≤ 5 := putGo_size 4 _
theorem putsB_len (l : List Int) : (putsB l).length ≤ 5 * l.length := by
  unfold putsB
  induction l with
  | nil => simp
  | cons a l ih => have := putB_len a; rw [List.flatMap_cons, List.length_append, List.length_cons]; omega
theorem putsB_snoc (l : List Int) (n : Int) : putsB (l ++ [n]) = putsB l ++ putB n := by simp [putsB]
theorem take_snocI (xs : List Int) (k : Nat) (h : k < xs.length) : xs.take (k + 1) = xs.take k ++ [xs.getD k 0] := by
  rw [List.take_succ_eq_append_getElem h]; simp [List.getD, h]
/-- A string of these bytes. -/
def strB (l : List UInt8) : ByteArray := ⟨l.toArray⟩
theorem strB_size (l : List UInt8) : (strB l).size = l.length := by simp [strB, ByteArray.size]
set_option maxHeartbeats 1000000 in
theorem puts_some (b off len cap : Nat) (xs : List Int) (w : World) (hl : xs.length = len) (hsz : len ≤ 1000000) (hb : b < w.heap.size)
    (hc : ∀ i, i < len → w.cell? ⟨b, off + i, none⟩ = some (.int .i64 (xs.getD i 0))) :
    Calls Try.prog 24 #[.slice (some ⟨b, off, none⟩) len cap] w fun e w' => e = .returned (.string (strB (putsB xs))) ∧ Below w.heap.size w w' := by
  have hmf : ∀ (fn : Fn) (first cap : Array Value) (w : World), (Instr.makeFunc fn first cap).run Try.prog w = .ok (.func fn first cap) w := fun _ _ _ _ => rfl
  have Hc := Lib.hid hc
  have Hl := Lib.hid hl
  clear hc hl
  go_enter Try.func24, Try.ntmps24
  go_wp2_with fail
  go_loopw [8] (fun i wr => ∃ k : Nat, i = .int .i64 k ∧ k ≤ len ∧ Lib.IsBuilder 82 5 w.heap.size w.heap.size (Lib.byteCells (putsB (xs.take k))) wr ∧ Below w.heap.size w wr) (fun i _ => len - (intOf i).toNat)
  case atStart => exact ⟨0, rfl, by omega, Lib.fresh_isBuilder _ _ _, (Below.refl _ _).alloc (Nat.le_refl _) _⟩
  case round =>
    obtain ⟨k, rfl, hk, hbld, hbel⟩ := hrel
    have hz := hbel.size
    have Hbel := Lib.hid hbel
    have Hbld := Lib.hid hbld
    clear hbel hbld
    by_cases hlt : k < len
    · have hcell : wr.cell? ⟨b, off + k, none⟩ = some (.int .i64 (xs.getD k 0)) := (Hbel.out.cell (by exact hb)).trans (Hc.out k hlt)
      obtain ⟨x, hx⟩ : ∃ x, x = xs.getD k 0 := ⟨_, rfl⟩
      rw [← hx] at hcell
      have htk := take_snocI xs k (by rw [Hl.out]; exact hlt)
      rw [← hx] at htk
      have Htk := Lib.hid htk
      have hlen : (Lib.byteCells (putsB (xs.take k))).length + 5 ≤ 140737488355328 := by
        rw [Lib.byteCells_length]; have := putsB_len (xs.take k); have := List.length_take_le k xs; omega
      clear hx htk
      go_wp2_with fail
      refine (spell_any x w.heap.size w.heap.size _ wr Hbld.out hlen (by omega)).mono ?_
      rintro e w1 ⟨rfl, hb1, hb2⟩
      go_wp2_with fail
      go_roundw
      case rel =>
        refine ⟨k + 1, by go_num, by omega, ?_, Hbel.out.trans hb2⟩
        rw [Htk.out, putsB_snoc]
        simpa [Lib.byteCells] using hb1
      case measure => simp [intOf]; omega
    · go_wp2_with fail
      refine (Try.Builder_String_any w.heap.size w.heap.size _ wr Hbld.out (by omega)).mono ?_
      rintro e w1 ⟨rfl, hb1⟩
      go_wp2_with fail
      go_ret
      exact ⟨by rw [List.take_of_length_le (by rw [Hl.out]; omega)]; rfl, Hbel.out.trans hb1⟩
set_option maxHeartbeats 1000000 in
theorem puts_none (a : Option Addr) (cap : Nat) (w : World) :
    Calls Try.prog 24 #[.slice a 0 cap] w fun e w' => e = .returned (.string (strB (putsB []))) ∧ Below w.heap.size w w' := by
  go_enter Try.func24, Try.ntmps24
  go_wp2_with fail
  refine wp_loop_rounds 1 ?_
  rw [rounds_succ]
  go_wp2_with fail
  refine (Try.Builder_String_any w.heap.size w.heap.size [] _ (Lib.fresh_isBuilder _ _ _) (by simp)).mono ?_
  rintro e w1 ⟨rfl, hb1⟩
  go_wp2_with fail
  go_ret
  exact ⟨rfl, ((Below.refl _ _).alloc (Nat.le_refl _) _).trans hb1⟩
set_option maxHeartbeats 400000 in
theorem put_any (n : Int) (w : World) :
    Calls Try.prog 27 #[.int .i64 n] w fun e w' => e = .returned (.string (strB (putB n))) ∧ Below w.heap.size w w' := by
  go_enter Try.func27, Try.ntmps27
  go_wp2_with fail
  refine (puts_some w.heap.size 0 1 1 [n] _ rfl (by omega) (by simp) ?_).mono ?_
  · intro i hi
    obtain rfl : i = 0 := by omega
    exact cell_one_new _ _ _ 0 _ rfl
  rintro e w1 ⟨rfl, hb1⟩
  go_wp2_with fail
  go_ret
  exact ⟨by simp [putsB], ((Below.refl _ _).alloc (Nat.le_refl _) _).trans (hb1.mono (by simp))⟩
end Go.Proofs.Ytcopedhoepblpaa
namespace Go.Proofs.Ytcopedhoepblpaa
open Go.RowKit Go.PlainAid
def AllWork (s : ByteArray) (Bl : Nat) (w : World) (e : Ending) (w' : World) : Prop :=
  ∃ w1, Below w.heap.size w w1 ∧ (((allR s).1 ≠ 0 ∧ Panics (allR s).1 e ∧ w1 = w') ∨
    ((allR s).1 = 0 ∧ e = .returned (.tuple #[]) ∧ ∃ v, w1.ownsRow w.heap.size 3 1 v (allR s).2.length ((allR s).2.map (Value.int .i64)) ∧ w1.setCell ⟨Bl, 0, none⟩ v = w'))
set_option maxHeartbeats 400000 in
theorem allWork_any (s : ByteArray) (B0 Bl : Nat) (w : World) (hs : s.size ≤ 1000000)
    (h0 : w.heap[B0]? = some (.cells #[.string s] 9 (0, 0))) (hl : w.heap[Bl]? = some (.cells #[.slice none 0 0] 22 (0, 0))) :
    Calls Try.prog 53 #[.pointer (some ⟨B0, 0, none⟩), .pointer (some ⟨Bl, 0, none⟩)] w (AllWork s Bl w) := by
  have c0 := cell_of_one h0
  have ln := lt_of_block hl
  go_enter Try.func53, Try.ntmps53
  go_wp2_with fail
  refine (numbers_any s _ hs).mono ?_
  rintro e w' ⟨hb, ⟨hne, hp⟩ | ⟨heq, v, rfl, hown⟩⟩
  · unfold Panics at hp
    subst hp
    exact ⟨rfl, w', hb, .inl ⟨hne, rfl, rfl⟩⟩
  · have hl' : w'.heap[Bl]? = some (.cells #[.slice none 0 0] 22 (0, 0)) := by rw [hb.block _ ln]; exact hl
    have d1 := cell_of_one hl'
    have d2 := free_of_one hl'
    obtain ⟨ao, cap, rfl⟩ := owns_slice hown
    have Heq := Lib.hid heq
    have HB := Lib.hid hb
    have HO := Lib.hid hown
    clear hl' heq hb c0 hl h0 hown
    go_wp2_with fail
    go_end0
    exact ⟨w', HB.out, .inr ⟨Heq.out, rfl, _, HO.out, rfl⟩⟩
def AllMid (w : World) (l : List Int) (w' : World) : Prop :=
  Below w.heap.size w w' ∧ w.heap.size + 2 ≤ w'.heap.size ∧ ∃ v, w'.heap[w.heap.size + 1]? = some (.cells #[v] 22 (0, 0)) ∧ w'.ownsRow (w.heap.size + 3) 3 1 v l.length (l.map (Value.int .i64))
theorem allR_err {s : ByteArray} (h : (allR s).1 ≠ 0) : (allR s).2 = [] := by
  have : ∀ f p acc, (allGo s f p acc).1 ≠ 0 → (allGo s f p acc).2 = [] := by
    intro f
    induction f with
    | zero => intro p acc h; simp [allGo] at h
    | succ f ih =>
      intro p acc h
      simp only [allGo] at *
      split at h
      · simp at h
      · split at h
        · rename_i h1 h2; rw [if_neg h1, if_pos h2]; exact ih _ _ h
        · rename_i h1 h2; rw [if_neg h1, if_neg h2]
  exact this _ _ _ h
def AllPost (s : ByteArray) (w : World) (e : Ending) (w' : World) : Prop :=
  ∃ v, e = .returned (.tuple #[v, .int .i64 (allR s).1]) ∧ w'.ownsRow w.heap.size 3 1 v (allR s).2.length ((allR s).2.map (Value.int .i64)) ∧ Below w.heap.size w w'
set_option maxHeartbeats 400000 in
theorem all_any (s : ByteArray) (w : World) (hs : s.size ≤ 1000000) :
    Calls Try.prog 28 #[.string s] w (AllPost s w) := by
  have hmf : ∀ (fn : Fn) (first cap : Array Value) (w : World), (Instr.makeFunc fn first cap).run Try.prog w = .ok (.func fn first cap) w := fun _ _ _ _ => rfl
  go_enter Try.func28, Try.ntmps28
  go_wp2_with fail
  refine (guard_any 53 _ _ (fun w' => (allR s).1 = 0 ∧ AllMid w (allR s).2 w') (fun k w' => k = (allR s).1 ∧ AllMid w (allR s).2 w') (fun _ => by kernel_rfl) ?_).mono ?_
  · refine (allWork_any s w.heap.size (w.heap.size + 1) _ hs
      (by simp only [heap_push, size_new]; repeat (first | rw [if_pos trivial] | rw [if_pos (by omega)] | rw [if_neg (by omega)])) (by simp only [heap_push, size_new]; repeat (first | rw [if_pos trivial] | rw [if_pos (by omega)] | rw [if_neg (by omega)]))).mono ?_
    have hb5 : Below w.heap.size w (((w.alloc (.cells #[.string s] 9)).alloc (.cells #[.slice none 0 0] 22)).alloc (.cells #[.int .i64 0] 28)) :=
      (((Below.refl _ _).alloc (Nat.le_refl _) _).alloc (by simp only [size_new]; omega) _).alloc (by simp only [size_new]; omega) _
    have hz5 : (((w.alloc (.cells #[.string s] 9)).alloc (.cells #[.slice none 0 0] 22)).alloc (.cells #[.int .i64 0] 28)).heap.size = w.heap.size + 3 := by simp only [size_new]
    have k1 : (((w.alloc (.cells #[.string s] 9)).alloc (.cells #[.slice none 0 0] 22)).alloc (.cells #[.int .i64 0] 28)).heap[w.heap.size + 1]? = some (.cells #[.slice none 0 0] 22 (0, 0)) := by
      simp only [heap_push, size_new]; repeat (first | rw [if_pos trivial] | rw [if_pos (by omega)] | rw [if_neg (by omega)])
    have k2 : (((w.alloc (.cells #[.string s] 9)).alloc (.cells #[.slice none 0 0] 22)).alloc (.cells #[.int .i64 0] 28)).heap[w.heap.size + 2]? = some (.cells #[.int .i64 0] 28 (0, 0)) := by
      simp only [heap_push, size_new]; repeat (first | rw [if_pos trivial] | rw [if_pos (by omega)] | rw [if_neg (by omega)])
    generalize (((w.alloc (.cells #[.string s] 9)).alloc (.cells #[.slice none 0 0] 22)).alloc (.cells #[.int .i64 0] 28)) = W5 at hb5 hz5 k1 k2
    rintro e w' ⟨w1, hb, hq⟩
    rw [hz5] at hb hq
    have hB : Below w.heap.size w w1 := hb5.trans (hb.mono (by omega))
    have hz : w.heap.size + 2 ≤ w1.heap.size := by have := hb.size; omega
    have j1 := (hb.block (w.heap.size + 1) (by omega)).trans k1
    have j2 := (hb.block (w.heap.size + 2) (by omega)).trans k2
    rcases hq with ⟨hne, hp, rfl⟩ | ⟨heq, rfl, v, hown, rfl⟩
    · refine ⟨by simp only [size_new]; exact j2, .inr ⟨_, hp, rfl, hB, hz, _, j1, ?_⟩⟩
      rw [allR_err hne]; exact World.ownsRow_nil _ _ _ _
    · refine ⟨?_, .inl ⟨rfl, heq, hB.setCell (by simp) _, by simpa using hz, v, one_setCell j1, ?_⟩⟩
      · simp only [size_new]; rw [Below.heap_setCell _ _ _ _ (by simp)]; exact j2
      · exact ownsRow_only hown (Only.setCell _ _ _ _) (by omega)
  rintro e w' ⟨k, w1, rfl, rfl, hq⟩
  have hq' : k = (allR s).1 ∧ AllMid w (allR s).2 w1 := by
    rcases hq with ⟨h1, h2, h3⟩ | hq
    · exact ⟨by rw [h1, h2], h3⟩
    · exact hq
  obtain ⟨rfl, hB, hz, v, hc, hown⟩ := hq'
  obtain ⟨ao, cap, rfl⟩ := owns_slice hown
  simp only [size_new]
  have hc' : (w1.setCell ⟨w.heap.size + 1 + 1, 0, none⟩ (.int .i64 (allR s).1)).heap[w.heap.size + 1]? = some (.cells #[.slice ao (allR s).2.length cap] 22 (0, 0)) := by
    rw [Below.heap_setCell _ _ _ _ (by simp)]; exact hc
  have hO : ((w1.setCell ⟨w.heap.size + 1 + 1, 0, none⟩ (.int .i64 (allR s).1)).setCell ⟨w.heap.size + 1, 0, none⟩ (.slice ao (allR s).2.length cap)).ownsRow (w.heap.size + 3) 3 1 (.slice ao (allR s).2.length cap) (allR s).2.length ((allR s).2.map (Value.int .i64)) :=
    ownsRow_only (ownsRow_only hown (Only.setCell _ _ _ _) (by omega)) (Only.setCell _ _ _ _) (by omega)
  have c1 := cell_of_one hc'
  have f1 := free_of_one hc'
  have c2 := cell_of_one (one_setCell (u := .slice ao (allR s).2.length cap) hc')
  have HB := Lib.hid ((hB.setCell (p := ⟨w.heap.size + 1 + 1, 0, none⟩) (by simp; omega) (.int .i64 (allR s).1)).setCell (p := ⟨w.heap.size + 1, 0, none⟩) (by simp) (.slice ao (allR s).2.length cap))
  have HO := Lib.hid hO
  clear hq hB hc hc' hown hO
  go_wp2_with fail
  refine bodyPost_ret (v := .tuple #[.slice ao (allR s).2.length cap, .int .i64 (allR s).1]) ?_ rfl ⟨_, rfl, ?_, ?_⟩
  · simp [results, Try.results28, go_sem, c2]
  · exact ownsRow_base HO.out (by omega)
  · exact HB.out
end Go.Proofs.Ytcopedhoepblpaa
