/- Walks of word's small closures. -/
import Derived.Test.YtefgedabakecnaaRows
import Derived.WalkKit
import Derived.WalkSpells
import Derived.WalkLawsBesides
import Derived.OneCell
import Derived.PlainAid
namespace Go.Proofs.Ytefgedabakecnaa
open Go.RowKit Go.PlainAid

-- Only block B may have turned.
structure Only (B : Nat) (w w' : World) : Prop where
  os : w'.os = w.os
  tape : w'.tape = w.tape
  output : w'.output = w.output
  size : w'.heap.size = w.heap.size
  block : ∀ k, k ≠ B → w'.heap[k]? = w.heap[k]?

theorem Only.refl (B : Nat) (w : World) : Only B w w := ⟨rfl, rfl, rfl, rfl, fun _ _ => rfl⟩
theorem Only.trans {B : Nat} {a b c : World} (h : Only B a b) (k : Only B b c) : Only B a c :=
  ⟨k.os.trans h.os, k.tape.trans h.tape, k.output.trans h.output, k.size.trans h.size, fun i hi => (k.block i hi).trans (h.block i hi)⟩
theorem Only.setCell (w : World) (B o : Nat) (u : Value) : Only B w (w.setCell ⟨B, o, none⟩ u) :=
  ⟨rfl, rfl, rfl, by simp [World.setCell], fun k hk => Below.heap_setCell _ _ _ _ hk⟩
theorem Only.below {B B' : Nat} {w w' : World} (h : Only B w w') (hB : B' ≤ B) : Below B' w w' :=
  ⟨h.os, h.tape, h.output, Nat.le_of_eq h.size.symm, fun k hk => h.block k (by omega)⟩

-- A byte in place.
set_option maxHeartbeats 400000 in
theorem next_in (s : ByteArray) (a Ba Bs : Nat) (w : World) (hA : w.heap[Ba]? = some (.cells #[.int .i64 a] 3 (0, 0))) (hS : w.heap[Bs]? = some (.cells #[.string s] 9 (0, 0)))
    (hs : s.size ≤ maxLen) (h : a < s.size) :
    Calls Try.prog 42 #[.pointer (some ⟨Ba, 0, none⟩), .pointer (some ⟨Bs, 0, none⟩)] w fun e w' =>
      e = .returned (.int .u8 (bt s a)) ∧ w.setCell ⟨Ba, 0, none⟩ (.int .i64 ((a + 1 : Nat) : Int)) = w' := by
  unfold maxLen at hs
  have cA := cell_of_one hA
  have cS := cell_of_one hS
  have fA := free_of_one hA
  have e1 := get_bt s a h
  clear hA hS
  go_enter Try.func42, Try.ntmps42
  go_wp2
  go_ret
  exact ⟨rfl, rfl⟩

-- No byte left.
set_option maxHeartbeats 400000 in
theorem next_out (s : ByteArray) (a Ba Bs : Nat) (w : World) (hA : w.heap[Ba]? = some (.cells #[.int .i64 a] 3 (0, 0))) (hS : w.heap[Bs]? = some (.cells #[.string s] 9 (0, 0)))
    (h : s.size ≤ a) :
    Calls Try.prog 42 #[.pointer (some ⟨Ba, 0, none⟩), .pointer (some ⟨Bs, 0, none⟩)] w fun e w' =>
      e = .panicked [{ v := .iface 24 (.int .i64 5), recovered := false }] ∧ w = w' := by
  have cA := cell_of_one hA
  have cS := cell_of_one hS
  clear hA hS
  go_enter Try.func42, Try.ntmps42
  go_wp2
  exact ⟨rfl, rfl, rfl⟩

-- The closure is made: two boxes.
set_option maxHeartbeats 400000 in
theorem from_any (s : ByteArray) (a : Int) (w : World) :
    Calls Try.prog 39 #[.string s, .int .i64 a] w fun e w' =>
      e = .returned (.func (.func 42) #[] #[.pointer (some ⟨w.heap.size + 1, 0, none⟩), .pointer (some ⟨w.heap.size, 0, none⟩)]) ∧
      (w.alloc (.cells #[.string s] 9)).alloc (.cells #[.int .i64 a] 3) = w' := by
  have hmf : ∀ (fn : Fn) (first cap : Array Value) (w : World), (Instr.makeFunc fn first cap).run Try.prog w = .ok (.func fn first cap) w := fun _ _ _ _ => rfl
  go_enter Try.func39, Try.ntmps39
  go_wp2
  go_ret
  exact ⟨rfl, rfl⟩
end Go.Proofs.Ytefgedabakecnaa
