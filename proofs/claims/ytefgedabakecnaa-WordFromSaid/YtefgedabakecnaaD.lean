/- The guard's deferred closure. -/
import Derived.Test.YtefgedabakecnaaC
namespace Go.Proofs.Ytefgedabakecnaa
open Go.RowKit Go.PlainAid

set_option maxHeartbeats 400000 in
theorem catch_idle (p : Addr) (w : World) :
    CallsD Try.prog 37 #[.pointer (some p)] .returning w fun e u' w' => e = .returned (.tuple #[]) ∧ u' = .returning ∧ w' = w := by
  refine callsD_of_wpS Try.func37 rfl fun c₀ cs hu => ?_
  have hq : ∀ w : World, (binOp BinOp.eql 20 .nilIface .nilIface).run Try.prog w = .ok (.bool true) w := fun _ => by kernel_rfl
  apply wpS_seq
  apply wpS_region
  simp [wpOpsS, go_sem, recoverD, hu, Try.ntmps37, Exit.thenS]
  refine wpS_of_wp ?_
  go_wp2
  cases c₀
  simp_all [bodyPostS, results, Try.results37]

set_option maxHeartbeats 400000 in
theorem catch_errno (p : Addr) (k x : Int) (w : World) (hc : w.cell? p = some (.int .i64 x)) (hz : w.frozen? p = false) :
    CallsD Try.prog 37 #[.pointer (some p)] (.panicking [{ v := .iface 24 (.int .i64 k), recovered := false }]) w fun e u' w' =>
      e = .returned (.tuple #[]) ∧ u' = .panicking [{ v := .iface 24 (.int .i64 k), recovered := true }] ∧ w' = w.setCell p (.int .i64 k) := by
  refine callsD_of_wpS Try.func37 rfl fun c₀ cs hu => ?_
  have hq : ∀ w : World, (binOp BinOp.eql 20 (.iface 24 (.int .i64 k)) .nilIface).run Try.prog w = .ok (.bool false) w := fun _ => by kernel_rfl
  have ht : ∀ w : World, (Instr.typeAssert (.iface 24 (.int .i64 k)) 20 24 true).run Try.prog w = .ok (.tuple #[.int .i64 k, .bool true]) w := fun _ => by kernel_rfl
  apply wpS_seq
  apply wpS_region
  simp [wpOpsS, go_sem, recoverD, hu, Try.ntmps37, Exit.thenS]
  refine wpS_of_wp ?_
  go_wp2
  cases c₀
  simp_all [bodyPostS, results, Try.results37]
def GuardPost (w : World) (Q : World → Prop) (E : Int → World → Prop) (e : Ending) (w' : World) : Prop :=
  ∃ k w1, w1.setCell ⟨w.heap.size, 0, none⟩ (.int .i64 k) = w' ∧ e = .returned (.int .i64 k) ∧ ((k = 0 ∧ Q w1) ∨ E k w1)

set_option maxHeartbeats 1000000 in
-- THE GUARD: the work by its own contract, whatever it is; it leaves the guard's own cell alone.
theorem guard_any (g : Nat) (cap : Array Value) (w : World) (Q : World → Prop) (E : Int → World → Prop)
    (hent : ∀ w, (callFunc g cap).run Try.prog w = .ok (.enter g cap) w)
    (h : Calls Try.prog g cap (w.alloc (.cells #[.int .i64 0] 24)) fun e w' => w'.heap[w.heap.size]? = some (.cells #[.int .i64 0] 24 (0, 0)) ∧ ((e = .returned (.tuple #[]) ∧ Q w') ∨ ∃ k, Panics k e ∧ E k w')) :
    Calls Try.prog 25 #[.func (.func g) #[] cap] w (GuardPost w Q E) := by
  have hmf : ∀ (fn : Fn) (first cap : Array Value) (w : World), (Instr.makeFunc fn first cap).run Try.prog w = .ok (.func fn first cap) w := fun _ _ _ _ => rfl
  have H := Lib.hid h
  clear h
  go_enter_defers Try.func25, Try.ntmps25
  go_wp2_with fail
  refine H.out.mono ?_
  rintro e w' ⟨hcell, ⟨rfl, hq⟩ | ⟨k, hk, hE⟩⟩
  · have c1 := cell_of_one hcell
    have c2 := free_of_one hcell
    have hc3 := cell_of_one (one_setCell (u := .int .i64 0) hcell)
    clear hcell
    go_wp2_with fail
    refine leaves_cons (f := 37) (args := #[.pointer (some ⟨w.heap.size, 0, none⟩)]) (by simp) (by simp [go_sem]) ?_
    refine (catch_idle _ _).mono ?_
    rintro e u' w'' ⟨rfl, rfl, rfl⟩
    simp [Leaves, settle, results, Try.results25, go_sem, hc3]
    exact ⟨0, w', rfl, rfl, .inl ⟨rfl, hq⟩⟩
  · unfold Panics at hk
    subst hk
    have c1 := cell_of_one hcell
    have c2 := free_of_one hcell
    have hc3 := cell_of_one (one_setCell (u := .int .i64 k) hcell)
    refine leaves_cons (f := 37) (args := #[.pointer (some ⟨w.heap.size, 0, none⟩)]) (by simp) (by simp [go_sem]) ?_
    refine (catch_errno _ k 0 _ c1 c2).mono ?_
    rintro e u' w'' ⟨rfl, rfl, rfl⟩
    simp [Leaves, settle, results, Try.results25, go_sem, hc3]
    exact ⟨k, w', rfl, rfl, .inr hE⟩
end Go.Proofs.Ytefgedabakecnaa
