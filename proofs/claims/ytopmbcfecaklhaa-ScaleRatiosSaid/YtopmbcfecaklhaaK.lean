/- The sort's comparison. -/
import Derived.Test.YtopmbcfecaklhaaJ
import Derived.Sort.Grow
import Derived.Deep.Draws
import Derived.Deep.RegionHeld3
import Derived.Deep.DrawnRows
namespace Go.Proofs.Ytopmbcfecaklhaa
open Go.RowKit Go.PlainAid Go.Sort
attribute [local go_sem ↓] Go.wp_at_zero Go.wp_at_succ

/-- A slice of floats in memory, by their bits. -/
def FloatsAt (w : World) (v : Value) (xs : List Nat) : Prop :=
  (∃ a cap, v = .slice a 0 cap ∧ xs = []) ∨
  ∃ b off len cap, v = .slice (some ⟨b, off, none⟩) len cap ∧ xs.length = len ∧ 0 < len ∧ b < w.heap.size ∧ len ≤ cap ∧ ∀ i, i < len → w.cell? ⟨b, off + i, none⟩ = some (.float .f64 (xs.getD i 0))
theorem FloatsAt.below {w w' : World} {v : Value} {xs : List Nat} (h : FloatsAt w v xs) (hb : Below w.heap.size w w') : FloatsAt w' v xs := by
  rcases h with h | ⟨b, off, len, cap, h1, h2, h3, h4, h6, h5⟩
  · exact .inl h
  · exact .inr ⟨b, off, len, cap, h1, h2, h3, by have := hb.size; omega, h6, fun i hi => (hb.cell (by exact h4)).trans (h5 i hi)⟩

theorem block_of_cell {w : World} {a : Addr} {u : Value} (h : w.cell? a = some u) : a.block < w.heap.size := by
  rcases Nat.lt_or_ge a.block w.heap.size with g | g
  · exact g
  · simp [World.cell?, Array.getElem?_eq_none g] at h

/-- What the comparison tells of two places. -/
def cfB (a b : Nat) (x y : Int) : Int := if cmpV (hgt a) (hgt b) = 0 then cmpV x y else cmpV (hgt a) (hgt b)

set_option maxHeartbeats 800000 in
set_option maxRecDepth 100000 in
theorem closure_any (x y B b off len cap : Nat) (p q : Nat) (W : World) (hp : p < 18446744073709551616) (hq : q < 18446744073709551616)
    (hB : W.cell? ⟨B, 0, none⟩ = some (.slice (some ⟨b, off, none⟩) len cap)) (hx : x < len) (hy : y < len)
    (cx : W.cell? ⟨b, off + x, none⟩ = some (.float .f64 p)) (cy : W.cell? ⟨b, off + y, none⟩ = some (.float .f64 q)) :
    Calls Try.prog 34 #[.int .i64 x, .int .i64 y, .pointer (some ⟨B, 0, none⟩)] W fun e w' => e = .returned (.int .i64 (cfB p q x y)) ∧ ∃ n os, w' = grow (W.drewN n) os := by
  have g3 := Lib.hid (fun w => compareU (hgt p) (hgt q) w)
  have g4 := Lib.hid (fun w => compareI x y w)
  have g5 := Lib.hid (fun b w h0 h1 => or_any (cmpV (hgt p) (hgt q)) (cmpV x y) b w h0 h1)
  have kB : ∀ o, (W.drew.alloc o).cell? ⟨B, 0, none⟩ = some (.slice (some ⟨b, off, none⟩) len cap) := fun o => (World.cell?_alloc_some W.drew _ o (by rw [show W.drew.cell? _ = _ from hB]; rfl)).trans hB
  have kx : ∀ o, (W.drew.alloc o).cell? ⟨b, off + x, none⟩ = some (.float .f64 p) := fun o => (World.cell?_alloc_some W.drew _ o (by rw [show W.drew.cell? _ = _ from cx]; rfl)).trans cx
  have ky : ∀ o, (W.drew.alloc o).cell? ⟨b, off + y, none⟩ = some (.float .f64 q) := fun o => (World.cell?_alloc_some W.drew _ o (by rw [show W.drew.cell? _ = _ from cy]; rfl)).trans cy
  unfold cfB
  generalize (if cmpV (hgt p) (hgt q) = 0 then cmpV x y else cmpV (hgt p) (hgt q)) = r at *
  generalize cmpV (hgt p) (hgt q) = k1 at *
  generalize cmpV x y = k2 at *
  go_enter Try.func34, Try.ntmps34
  go_wp2_with fail
  have hx' : (x : Int) < len := by omega
  have hy' : (y : Int) < len := by omega
  go_region_held3 (fun w' => w'.cell? ⟨B, 0, none⟩ = some (.slice (some ⟨b, off, none⟩) len cap) ∧ w'.cell? ⟨b, off + x, none⟩ = some (.float .f64 p) ∧ w'.cell? ⟨b, off + y, none⟩ = some (.float .f64 q)) (first | exact ⟨hB, cx, cy⟩ | exact ⟨kB _, kx _, ky _⟩)
    (first
      | (go_at_call 32; refine (height_any _ _ (by assumption)).mono ?_; rintro e w1 ⟨rfl, rfl⟩)
      | (go_at_call 36; refine (g3.out _).mono ?_; rintro e w3 ⟨rfl, rfl⟩)
      | (go_at_call 37; refine (g4.out _).mono ?_; rintro e w4 ⟨rfl, rfl⟩)
      | (go_at_call 35; refine (g5.out _ _ ?_ ?_).mono ?_; exact (World.cell?_alloc_at _ _ _ _ rfl).trans rfl; exact (World.cell?_alloc_at _ _ _ _ rfl).trans rfl; rintro e w5 ⟨rfl, rfl⟩))
  go_wp2_with fail
  go_ret
  exact ⟨rfl, 1, _, congrArg World.drew (alloc_eq_grow W _)⟩
end Go.Proofs.Ytopmbcfecaklhaa
