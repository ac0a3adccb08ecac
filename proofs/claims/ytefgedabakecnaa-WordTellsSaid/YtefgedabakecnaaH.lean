/- Puts, Put, Text. -/
import Derived.Test.YtefgedabakecnaaG
import Derived.Test.YtefgedabakecnaaE
import Derived.ShutString
namespace Go.Proofs.Ytefgedabakecnaa
open Go.RowKit Go.PlainAid

def putsB (l : List Int) : List UInt8 := l.flatMap putB
theorem putB_len (n : Int) : (putB n).length ≤ 5 := putGo_size 4 _
theorem putsB_len (l : List Int) : (putsB l).length ≤ 5 * l.length := by
  unfold putsB
  induction l with
  | nil => simp
  | cons a l ih => have := putB_len a; rw [List.flatMap_cons, List.length_append, List.length_cons]; omega
theorem putsB_snoc (l : List Int) (n : Int) : putsB (l ++ [n]) = putsB l ++ putB n := by simp [putsB]
theorem take_snocI (xs : List Int) (k : Nat) (h : k < xs.length) : xs.take (k + 1) = xs.take k ++ [xs.getD k 0] := by
  rw [List.take_succ_eq_append_getElem h]; simp [List.getD, h]
/-- A string of these bytes. -/
def strB (l : List UInt8) : ByteArray := ⟨l.toArray⟩
theorem strB_size (l : List UInt8) : (strB l).size = l.length := by simp [strB, ByteArray.size]

set_option maxHeartbeats 1000000 in
theorem puts_some (b off len cap : Nat) (xs : List Int) (w : World) (hl : xs.length = len) (hsz : len ≤ 1000000) (hb : b < w.heap.size)
    (hc : ∀ i, i < len → w.cell? ⟨b, off + i, none⟩ = some (.int .i64 (xs.getD i 0))) :
    Calls Try.prog 19 #[.slice (some ⟨b, off, none⟩) len cap] w fun e w' => e = .returned (.string (strB (putsB xs))) ∧ Below w.heap.size w w' := by
  have hmf : ∀ (fn : Fn) (first cap : Array Value) (w : World), (Instr.makeFunc fn first cap).run Try.prog w = .ok (.func fn first cap) w := fun _ _ _ _ => rfl
  have Hc := Lib.hid hc
  have Hl := Lib.hid hl
  clear hc hl
  go_enter Try.func19, Try.ntmps19
  go_wp2_with fail
  go_loopw [8] (fun i wr => ∃ k : Nat, i = .int .i64 k ∧ k ≤ len ∧ Lib.IsBuilder 52 5 w.heap.size w.heap.size (Lib.byteCells (putsB (xs.take k))) wr ∧ Below w.heap.size w wr) (fun i _ => len - (intOf i).toNat)
  case atStart => exact ⟨0, rfl, by omega, Lib.fresh_isBuilder _ _ _, (Below.refl _ _).alloc (Nat.le_refl _) _⟩
  case round =>
    obtain ⟨k, rfl, hk, hbld, hbel⟩ := hrel
    have hz := hbel.size
    have Hbel := Lib.hid hbel
    have Hbld := Lib.hid hbld
    clear hbel hbld
    by_cases hlt : k < len
    · have hcell : wr.cell? ⟨b, off + k, none⟩ = some (.int .i64 (xs.getD k 0)) := (Hbel.out.cell (by exact hb)).trans (Hc.out k hlt)
      obtain ⟨x, hx⟩ : ∃ x, x = xs.getD k 0 := ⟨_, rfl⟩
      rw [← hx] at hcell
      have htk := take_snocI xs k (by rw [Hl.out]; exact hlt)
      rw [← hx] at htk
      have Htk := Lib.hid htk
      have hlen : (Lib.byteCells (putsB (xs.take k))).length + 5 ≤ 140737488355328 := by
        rw [Lib.byteCells_length]; have := putsB_len (xs.take k); have := List.length_take_le k xs; omega
      clear hx htk
      go_wp2_with fail
      refine (spell_any x w.heap.size w.heap.size _ wr Hbld.out hlen (by omega)).mono ?_
      rintro e w1 ⟨rfl, hb1, hb2⟩
      go_wp2_with fail
      go_roundw
      case rel =>
        refine ⟨k + 1, by go_num, by omega, ?_, Hbel.out.trans hb2⟩
        rw [Htk.out, putsB_snoc]
        simpa [Lib.byteCells] using hb1
      case measure => simp [intOf]; omega
    · go_wp2_with fail
      refine (Try.Builder_String_any w.heap.size w.heap.size _ wr Hbld.out (by omega)).mono ?_
      rintro e w1 ⟨rfl, hb1⟩
      go_wp2_with fail
      go_ret
      exact ⟨by rw [List.take_of_length_le (by rw [Hl.out]; omega)]; rfl, Hbel.out.trans hb1⟩

set_option maxHeartbeats 1000000 in
theorem puts_none (a : Option Addr) (cap : Nat) (w : World) :
    Calls Try.prog 19 #[.slice a 0 cap] w fun e w' => e = .returned (.string (strB (putsB []))) ∧ Below w.heap.size w w' := by
  go_enter Try.func19, Try.ntmps19
  go_wp2_with fail
  refine wp_loop_rounds 1 ?_
  rw [rounds_succ]
  go_wp2_with fail
  refine (Try.Builder_String_any w.heap.size w.heap.size [] _ (Lib.fresh_isBuilder _ _ _) (by simp)).mono ?_
  rintro e w1 ⟨rfl, hb1⟩
  go_wp2_with fail
  go_ret
  exact ⟨rfl, ((Below.refl _ _).alloc (Nat.le_refl _) _).trans hb1⟩

set_option maxHeartbeats 400000 in
theorem put_any (n : Int) (w : World) :
    Calls Try.prog 17 #[.int .i64 n] w fun e w' => e = .returned (.string (strB (putB n))) ∧ Below w.heap.size w w' := by
  go_enter Try.func17, Try.ntmps17
  go_wp2_with fail
  refine (puts_some w.heap.size 0 1 1 [n] _ rfl (by omega) (by simp) ?_).mono ?_
  · intro i hi
    obtain rfl : i = 0 := by omega
    exact cell_one_new _ _ _ 0 _ rfl
  rintro e w1 ⟨rfl, hb1⟩
  go_wp2_with fail
  go_ret
  exact ⟨by simp [putsB], ((Below.refl _ _).alloc (Nat.le_refl _) _).trans (hb1.mono (by simp))⟩

set_option maxHeartbeats 400000 in
theorem text_any (s : ByteArray) (w : World) (hs : s.size ≤ 1000000) :
    Calls Try.prog 21 #[.string s] w fun e w' => e = .returned (.string (strB (putB s.size) ++ s)) ∧ Below w.heap.size w w' := by
  go_enter Try.func21, Try.ntmps21
  go_wp2_with fail
  refine (put_any _ _).mono ?_
  rintro e w1 ⟨rfl, hb1⟩
  have hz : (strB (putB s.size)).size ≤ 5 := by rw [strB_size]; exact putB_len _
  go_wp2_with fail
  go_ret
  exact ⟨rfl, hb1⟩
end Go.Proofs.Ytefgedabakecnaa
