/- strings.Builder's writer; spell. -/
import Derived.Test.YtefgedabakecnaaS
import Derived.Test.YtefgedabakecnaaRows
import Derived.Test.YtefgedabakecnaaShelf
import Derived.WalkKit
import Derived.WalkSpells
import Derived.Lib.Hide
import Derived.Lib.Builder
import Derived.Laws.Externs
namespace Go.Proofs.Ytefgedabakecnaa
open Go.RowKit Go.PlainAid

theorem sizeBuilder : (Try.prog.info? 52).map (·.size) = some 2 := by kernel_rfl
theorem liesBuilder : liesAt Try.prog Try.prog.depth 52 (2 / Try.prog.cellsOf 52) 0 52 1 = true := by kernel_rfl
theorem infoByte : (Try.prog.info? 5).map (fun i => (i.zero, i.size, i.bytes)) = some (some (.int .u8 0), 1, 1) := by kernel_rfl

set_option maxHeartbeats 1000000 in
set_option maxRecDepth 100000 in
theorem copyCheck_used (b : Nat) (w : World) (h0 : w.cell? ⟨b, 0, none⟩ = some (.pointer (some ⟨b, 0, none⟩))) :
    Calls Try.prog 41 #[.pointer (some ⟨b, 0, none⟩)] w fun e w' => e = .returned (.tuple #[]) ∧ w = w' := by
  obtain ⟨j, hj, _⟩ := Option.map_eq_some_iff.1 sizeBuilder
  go_enter Try.func41, Try.ntmps41
  go_wp2
  rw [Lib.run_neq_ptr_same w _ Try.underlying50 hj]
  go_wp2
  go_end0
  exact ⟨rfl, rfl⟩

set_option maxHeartbeats 1000000 in
set_option maxRecDepth 100000 in
theorem copyCheck_fresh (b : Nat) (w : World) (h0 : w.cell? ⟨b, 0, none⟩ = some (.pointer none)) (hsh : w.shape? b = some (52, 2)) (hfz : w.frozen? ⟨b, 0, none⟩ = false) :
    Calls Try.prog 41 #[.pointer (some ⟨b, 0, none⟩)] w fun e w' => e = .returned (.tuple #[]) ∧ w.setCell ⟨b, 0, none⟩ (.pointer (some ⟨b, 0, none⟩)) = w' := by
  obtain ⟨j, hj, hjs⟩ := Option.map_eq_some_iff.1 sizeBuilder
  go_enter Try.func41, Try.ntmps41
  go_wp2
  rw [Lib.run_to_unsafe w ⟨b, 0, none⟩ Try.underlying50 Try.underlying64 hj (by rw [hjs]; decide) hsh (Nat.zero_lt_succ 1)]
  simp only [Result.andThen]
  rw [Oper.upon_value]
  go_wp2
  rw [run_callFunc_extern Try.func44 (by kernel_rfl) (by kernel_rfl) (by kernel_rfl) (e := Extern.AbiNoEscape.same) (by kernel_rfl)]
  rw [Lib.run_noEscape]
  simp only [Result.andThen]
  rw [Oper.upon_value]
  go_wp2
  rw [Lib.run_from_unsafe w ⟨b, 0, none⟩ Try.underlying64 Try.underlying50 hj hsh liesBuilder]
  simp only [Result.andThen]
  rw [Oper.upon_value]
  go_wp2
  go_end0
  exact ⟨rfl, rfl⟩

theorem copyCheck_any (B b : Nat) (bs : List Value) (w : World) (h : Lib.IsBuilder 52 5 B b bs w) :
    Calls Try.prog 41 #[.pointer (some ⟨b, 0, none⟩)] w fun e w' => e = .returned (.tuple #[]) ∧ (Lib.BuilderAt 52 5 B b (.pointer (some ⟨b, 0, none⟩)) bs w' ∧ Below B w w') := by
  rcases h with h | h
  · refine (copyCheck_fresh b w h.cell0 h.shape h.frozen0).mono ?_
    rintro e w' ⟨rfl, rfl⟩
    exact ⟨rfl, h.used _, (Below.refl B w).setCell (p := ⟨b, 0, none⟩) h.1 _⟩
  · refine (copyCheck_used b w h.cell0).mono ?_
    rintro e w' ⟨rfl, rfl⟩
    exact ⟨rfl, h, Below.refl B _⟩

set_option maxHeartbeats 2000000 in
set_option maxRecDepth 100000 in
theorem writeByte_any (B b : Nat) (bs : List Value) (c : Int) (w : World) (h : Lib.IsBuilder 52 5 B b bs w) (hlen : bs.length + 1 ≤ 140737488355328) (hBw : B ≤ w.heap.size) :
    Calls Try.prog 35 #[.pointer (some ⟨b, 0, none⟩), .int .u8 c] w fun e w' => e = .returned .nilIface ∧ (Lib.BuilderAt 52 5 B b (.pointer (some ⟨b, 0, none⟩)) (bs ++ [.int .u8 c]) w' ∧ Below B w w') := by
  obtain ⟨i0, hi, hz0, hz1, hz2⟩ := info_parts infoByte
  go_enter Try.func35, Try.ntmps35
  go_wp2_with (go_at_call 41; refine (copyCheck_any B b bs _ h).mono ?_)
  rintro e w1 ⟨rfl, h1, hb1⟩
  obtain ⟨hB, v, hbk, hown, hne⟩ := h1
  have c0 : w1.cell? ⟨b, 0, none⟩ = some (.pointer (some ⟨b, 0, none⟩)) := by rw [Lib.cell_of_heap hbk]; rfl
  have c1 : w1.cell? ⟨b, 1, none⟩ = some v := by rw [Lib.cell_of_heap hbk]; rfl
  go_wp2_with (at_builtin; refine wpList_append_own _ rfl _ _ 49 rfl B 5 i0 (.int .u8 0) 1 1 Try.underlying49 hi hz0 hz1 hz2 rfl (by decide) _ _ _ rfl (hown.alloc _) ⟨w1.heap.size, 0, none⟩ 1 1 [.int .u8 c] rfl rfl (cell_one_new _ _ _) ?c2 ?c3 ?c4 ?c5 ?_)
  case c2 => intro u hu; simp at hu; subst hu; rfl
  case c3 => unfold maxLen; omega
  case c4 => omega
  case c5 => have := hb1.size; simp; omega
  intro v' w2 hown' hgrow _
  have hlt : b < w1.heap.size := by
    rcases Nat.lt_or_ge b w1.heap.size with h' | h'
    · exact h'
    · simp [Array.getElem?_eq_none h'] at hbk
  have hb2 : w2.heap[b]? = some (.cells #[.pointer (some ⟨b, 0, none⟩), v] 52 (0, 0)) := by
    rw [hgrow.block b (by simp; omega) (fun e => hne e.symm), Lib.alloc_old w1 _ b hlt]
    exact hbk
  have d0 : w2.cell? ⟨b, 0, none⟩ = some (.pointer (some ⟨b, 0, none⟩)) := by rw [Lib.cell_of_heap hb2]; rfl
  have d1 : w2.cell? ⟨b, 1, none⟩ = some v := by rw [Lib.cell_of_heap hb2]; rfl
  have f1 : w2.frozen? ⟨b, 1, none⟩ = false := Lib.frozen_of_heap hb2 1
  obtain ⟨g, cap, rfl⟩ : ∃ g cap, v' = .slice (some ⟨g, 0, none⟩) (bs.length + 1) cap := by
    rcases hown'.2 with ⟨_, h0⟩ | ⟨g, cap, cur, hv, _⟩
    · omega
    · exact ⟨g, cap, hv⟩
  go_wp2
  go_ret
  refine ⟨rfl, ?_, ?_⟩
  · exact Lib.BuilderAt.put (T := 52) (e := 5) hB hb2 (bs' := bs ++ [.int .u8 c]) (by simpa using hown') (by decide)
  · exact ((hb1.alloc (by have := hb1.size; omega) _).grown hgrow (by have := hb1.size; simp; omega) (fun k hk => (hown.lt k hk).1)).setCell (p := ⟨b, 1, none⟩) hB _

set_option maxHeartbeats 400000 in
theorem putsClosure_any (B b : Nat) (bs : List Value) (c : Int) (w : World) (h : Lib.IsBuilder 52 5 B b bs w) (hlen : bs.length + 1 ≤ 140737488355328) (hBw : B ≤ w.heap.size) :
    Calls Try.prog 34 #[.int .u8 c, .pointer (some ⟨b, 0, none⟩)] w fun e w' => e = .returned (.tuple #[]) ∧ Lib.IsBuilder 52 5 B b (bs ++ [.int .u8 c]) w' ∧ Below B w w' := by
  go_enter Try.func34, Try.ntmps34
  go_wp2_with (go_at_call 35; refine (writeByte_any B b bs c _ h hlen hBw).mono ?_)
  rintro e w1 ⟨rfl, h1, hb1⟩
  go_wp2_with fail
  go_end0
  exact ⟨rfl, .inr h1, hb1⟩

/-- A number's bytes. -/
def putGo : Nat → Nat → List UInt8
  | 0, n => [UInt8.ofNat n]
  | f + 1, n => if 127 < n then UInt8.ofNat (n % 128 + 128) :: putGo f (n / 128) else [UInt8.ofNat n]
def cutN (n : Int) : Nat := (min (max n 0) 2147483647).toNat
def putB (n : Int) : List UInt8 := putGo 4 (cutN n)

theorem putGo_size : ∀ (f n : Nat), (putGo f n).length ≤ f + 1 := by
  intro f
  induction f with
  | zero => intro n; simp [putGo]
  | succ f ih => intro n; simp only [putGo]; split <;> simp; have := ih (n / 128); omega

def SpellHead (n : Int) (B b : Nat) (bs : List Value) (w : World) (m : Nat) (wr : World) : Prop :=
  ∃ f acc, f ≤ 4 ∧ m < 128 ^ (f + 1) ∧ putB n = acc ++ putGo f m ∧ acc.length + f ≤ 4 ∧ Lib.IsBuilder 52 5 B b (bs ++ Lib.byteCells acc) wr ∧ Below B w wr

theorem putGo_more {f m : Nat} (h : 127 < m) (hm : m < 128 ^ (f + 1)) : ∃ g, f = g + 1 ∧ putGo f m = UInt8.ofNat (m % 128 + 128) :: putGo g (m / 128) ∧ m / 128 < 128 ^ (g + 1) := by
  cases f with
  | zero => simp at hm; omega
  | succ g =>
    refine ⟨g, rfl, by rw [putGo, if_pos h], ?_⟩
    rw [Nat.pow_succ] at hm
    exact Nat.div_lt_of_lt_mul (by omega)
theorem putGo_last {f m : Nat} (h : m ≤ 127) : putGo f m = [UInt8.ofNat m] := by
  cases f with
  | zero => rfl
  | succ g => rw [putGo, if_neg (by omega)]
theorem or128 (m : Nat) : bits .or .i64 (bits .and .i64 (m : Int) 127) 128 = ((m % 128 + 128 : Nat) : Int) := by
  rw [i64_and127, i64_or_low 7 _ _ (by omega) (by omega) (by omega) (by omega) (by decide) (by omega)]
  omega
theorem toNat_ofNat8 {m : Nat} (h : m < 256) : ((UInt8.ofNat m).toNat : Int) = (m : Int) := by
  simp [Nat.mod_eq_of_lt h]

set_option maxHeartbeats 1000000 in
theorem spell_any (n : Int) (B b : Nat) (bs : List Value) (w : World) (h : Lib.IsBuilder 52 5 B b bs w) (hlen : bs.length + 5 ≤ 140737488355328) (hBw : B ≤ w.heap.size) :
    Calls Try.prog 33 #[.int .i64 n, .func (.func 34) #[] #[.pointer (some ⟨b, 0, none⟩)]] w fun e w' => e = .returned (.tuple #[]) ∧ Lib.IsBuilder 52 5 B b (bs ++ Lib.byteCells (putB n)) w' ∧ Below B w w' := by
  have hcut : putB n = putGo 4 (min (max n 0) 2147483647).toNat := rfl
  obtain ⟨m0, hm0⟩ : ∃ m : Nat, min (max n 0) 2147483647 = (m : Int) := ⟨(min (max n 0) 2147483647).toNat, by omega⟩
  have hm1 : m0 ≤ 2147483647 := by omega
  rw [hm0, Int.toNat_natCast] at hcut
  have Hcut := Lib.hid hcut
  clear hcut
  go_enter Try.func33, Try.ntmps33
  go_wp2_with fail
  clear hm0
  go_loopw [0] (fun i wr => ∃ m : Nat, i = .int .i64 m ∧ SpellHead n B b bs w m wr) (fun i _ => (intOf i).toNat)
  case atStart => exact ⟨m0, rfl, 4, [], by omega, by omega, Hcut.out, by simp, by simpa [Lib.byteCells] using h, Below.refl _ _⟩
  case round =>
    obtain ⟨m, rfl, f, acc, hf, hm, hput, hl, hbld, hbel⟩ := hrel
    have Hput := Lib.hid hput
    have Hbel := Lib.hid hbel
    have hz := hbel.size
    have hlb : (bs ++ Lib.byteCells acc).length + 1 ≤ 140737488355328 := by rw [List.length_append, Lib.byteCells_length]; omega
    clear hput hbel
    by_cases hlt : 127 < m
    · obtain ⟨g, rfl, hg1, hg2⟩ := putGo_more hlt hm
      have hor := or128 m
      have Hg1 := Lib.hid hg1
      have Hm := Lib.hid hm
      have Hg2 := Lib.hid hg2
      clear hg1 hm hg2
      go_wp2_with fail
      refine (putsClosure_any B b _ _ wr hbld hlb (by omega)).mono ?_
      rintro e w1 ⟨rfl, hb1, hb2⟩
      go_wp2_with fail
      go_roundw
      case rel =>
        refine ⟨m / 128, by go_num, g, acc ++ [UInt8.ofNat (m % 128 + 128)], by omega, Hg2.out, by rw [Hput.out, Hg1.out]; simp, by simp; omega, ?_, Hbel.out.trans hb2⟩
        have e1 : Lib.byteCells (acc ++ [UInt8.ofNat (m % 128 + 128)]) = Lib.byteCells acc ++ [.int .u8 ((m : Int) % 128 + 128)] := by
          simp only [Lib.byteCells, List.map_append, List.map_cons, List.map_nil]
          rw [toNat_ofNat8 (by omega)]; simp
        rw [e1, ← List.append_assoc]; exact hb1
      case measure => simp [intOf]; omega
    · have hge : m ≤ 127 := by omega
      go_wp2_with fail
      refine (putsClosure_any B b _ _ wr hbld hlb (by omega)).mono ?_
      rintro e w1 ⟨rfl, hb1, hb2⟩
      go_wp2_with fail
      go_end0
      have e1 : Lib.byteCells (putB n) = Lib.byteCells acc ++ [.int .u8 (m : Int)] := by
        rw [Hput.out, putGo_last hge]
        simp only [Lib.byteCells, List.map_append, List.map_cons, List.map_nil]
        rw [toNat_ofNat8 (by omega)]
      exact ⟨rfl, by rw [e1, ← List.append_assoc]; exact hb1, Hbel.out.trans hb2⟩
end Go.Proofs.Ytefgedabakecnaa
