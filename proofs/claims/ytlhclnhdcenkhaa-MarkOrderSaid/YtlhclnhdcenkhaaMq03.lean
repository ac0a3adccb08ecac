/- Texts put together. -/
import Derived.Test.YtlhclnhdcenkhaaMq02
import Derived.PlainAid
import Derived.Laws.BitsAllLaws
import Derived.Test.YtlhclnhdcenkhaaRows
import Derived.WalkKit
import Derived.WalkSpells
import Derived.WalkLawsBesides
import Derived.OneCell
import Derived.Lib.Hide
import Derived.RegionTactic
import Derived.ChangeAlike
import Derived.Deep.QuietTactic
import Derived.BigQuiet
import Derived.Lib.Builder
import Derived.Laws.Externs
import Derived.ShutString
import Derived.Shelf.LaysM
import Derived.Test.YtlhclnhdcenkhaaProg
import Derived.Deep.CutRange
set_option maxRecDepth 100000
namespace Go.Proofs.Ytlhclnhdcenkhaa
open Go.RowKit Go.PlainAid
structure Only (B : Nat) (w w' : World) : Prop where
 os : w'.os = w.os
 tape : w'.tape = w.tape
 output : w'.output = w.output
 size : w'.heap.size = w.heap.size
 block : ∀ k, k ≠ B → w'.heap[k]? = w.heap[k]?
theorem Only.refl (B : Nat) (w : World) : Only B w w := ⟨rfl, rfl, rfl, rfl, fun _ _ => rfl⟩
theorem Only.trans {B : Nat} {a b c : World} (h : Only B a b) (k : Only B b c) : Only B a c :=
 ⟨k.os.trans h.os, k.tape.trans h.tape, k.output.trans h.output, k.size.trans h.size, fun i hi => (k.block i hi).trans (h.block i hi)⟩
theorem Only.setCell (w : World) (B o : Nat) (u : Value) : Only B w (w.setCell ⟨B, o, none⟩ u) :=
 ⟨rfl, rfl, rfl, by simp [World.setCell], fun k hk => Below.heap_setCell _ _ _ _ hk⟩
theorem Only.below {B B' : Nat} {w w' : World} (h : Only B w w') (hB : B' ≤ B) : Below B' w w' :=
 ⟨h.os, h.tape, h.output, Nat.le_of_eq h.size.symm, fun k hk => h.block k (by omega)⟩
/-- Behind the guard in Get: what the two named results' cells hold. -/
def GetMid (w : World) (n t : Int) (w' : World) : Prop :=
 Below w.heap.size w w' ∧ w.heap.size + 4 ≤ w'.heap.size ∧ w'.heap[w.heap.size + 2]? = some (.cells #[.int .i64 n] 3 (0, 0)) ∧ w'.heap[w.heap.size + 3]? = some (.cells #[.int .i64 t] 3 (0, 0))
theorem GetMid.set {w w' : World} {n t : Int} (h : GetMid w n t w') (k : Nat) (hk : w.heap.size + 4 ≤ k) (v : Value) : GetMid w n t (w'.setCell ⟨k, 0, none⟩ v) := by
 obtain ⟨h1, h2, h3, h4⟩ := h
 refine ⟨h1.setCell (by simp; omega) _, by simpa using h2, ?_, ?_⟩
 ·rw [Below.heap_setCell _ _ _ _ (by simp; omega)]; exact h3
 ·rw [Below.heap_setCell _ _ _ _ (by simp; omega)]; exact h4
theorem size_new (w : World) (o : Obj) : (w.alloc o).heap.size = w.heap.size + 1 := by show (w.heap.push o).size = _; simp
end Go.Proofs.Ytlhclnhdcenkhaa

set_option maxRecDepth 100000
namespace Go.Proofs.Ytlhclnhdcenkhaa
open Go.RowKit Go.PlainAid
/-- Behind the guard in Take: what the two named results' cells hold. -/
def TakeMid (w : World) (x : ByteArray) (t : Int) (w' : World) : Prop :=
 Below w.heap.size w w' ∧ w.heap.size + 5 ≤ w'.heap.size ∧ w'.heap[w.heap.size + 3]? = some (.cells #[.string x] 9 (0, 0)) ∧ w'.heap[w.heap.size + 4]? = some (.cells #[.int .i64 t] 3 (0, 0))
theorem TakeMid.set {w w' : World} {x : ByteArray} {t : Int} (h : TakeMid w x t w') (k : Nat) (hk : w.heap.size + 5 ≤ k) (v : Value) : TakeMid w x t (w'.setCell ⟨k, 0, none⟩ v) := by
 obtain ⟨h1, h2, h3, h4⟩ := h
 refine ⟨h1.setCell (by simp; omega) _, by simpa using h2, ?_, ?_⟩
 ·rw [Below.heap_setCell _ _ _ _ (by simp; omega)]; exact h3
 ·rw [Below.heap_setCell _ _ _ _ (by simp; omega)]; exact h4
end Go.Proofs.Ytlhclnhdcenkhaa

set_option maxRecDepth 100000
namespace Go.Proofs.Ytlhclnhdcenkhaa
open Go.RowKit Go.PlainAid
/-- The bytes l stand in s from place p on. -/
def HasB (s : ByteArray) (p : Nat) (l : List UInt8) : Prop := p + l.length ≤ s.size ∧ ∀ i, (h : i < l.length) → bt s (p + i) = (l[i].toNat : Int)
theorem HasB.cons {s : ByteArray} {p : Nat} {b : UInt8} {l : List UInt8} (_h : p < s.size) (hb : bt s p = (b.toNat : Int)) (ht : HasB s (p + 1) l) : HasB s p (b :: l) := by
 obtain ⟨h1, h2⟩ := ht
 refine ⟨by simp; omega, fun i hi => ?_⟩
 cases i with
 | zero => simpa using hb
 | succ i => have := h2 i (by simpa using hi); simpa [Nat.add_assoc, Nat.add_comm 1 i] using this
/-! Lengths. -/
/-! Many numbers. -/
end Go.Proofs.Ytlhclnhdcenkhaa

namespace Go.Proofs.Ytlhclnhdcenkhaa
open Go.RowKit Go.PlainAid
structure Pc where
 node : Int
 state : Int
 steps : Int
 sent : List Int
 inn : List Lks
 out : List (List Int)
def Pc.zero : Pc := ⟨0, 0, 0, [], [], []⟩
end Go.Proofs.Ytlhclnhdcenkhaa

set_option linter.unusedSimpArgs false
set_option linter.unusedVariables false
set_option maxRecDepth 100000
namespace Go.Proofs.Ytlhclnhdcenkhaa
open Go.RowKit Go.PlainAid
def dIls (ls : List (List Int)) : D := .row 1 (ls.map fun l => [dInts l])
def Pc.d (p : Pc) : List D := [dInts p.sent, dLls p.inn, dIls p.out]
theorem ils_at {w : World} {a : Option Addr} {k cap i : Nat} {ls : List (List Int)} {m : List Int} (h : Has w (.slice a k cap) (dIls ls)) (hm : ls[i]? = some m) :
  ∃ b o ma mc, a = some ⟨b, o, none⟩ ∧ b < w.heap.size ∧ k = ls.length ∧ w.cell? ⟨b, o + i, none⟩ = some (.slice ma m.length mc) ∧ Has w (.slice ma m.length mc) (dInts m) := by
 obtain ⟨b, o, c, e, h1, h2, cs, hcs, hc⟩ := cells_of (f := fun m => [dInts m]) h hm
 obtain ⟨v, r, rfl, hv, hr⟩ := hcs.cons
 obtain ⟨ma, mc, rfl⟩ := slice_of hv
 simp only [Value.slice.injEq] at e
 obtain ⟨rfl, rfl, rfl⟩ := e
 have := hc 0 _ rfl
 rw [Nat.mul_one, Nat.add_zero] at this
 exact ⟨b, o, ma, mc, rfl, h1, rfl, this, hv⟩
theorem ils_len {S : Prop} {P : Nat → Prop} {w : World} {a : Option Addr} {k cap : Nat} {xs : List (List Int)} (h : Holds S P w (.slice a k cap) (dIls xs)) : k = xs.length := by
 obtain ⟨_, _, e⟩ := Holds.len h
 rw [List.length_map] at e
 simp only [Value.slice.injEq] at e
 exact e.2.1
theorem links_len {S : Prop} {P : Nat → Prop} {w : World} {a : Option Addr} {k cap : Nat} {xs : Lks} (h : Holds S P w (.slice a k cap) (dLinks xs)) : k = xs.length := by
 obtain ⟨_, _, e⟩ := Holds.len h
 rw [List.length_map] at e
 simp only [Value.slice.injEq] at e
 exact e.2.1
/-- A piece's lists, to read. -/
theorem pc_has {w : World} {p : Pc} {v1 v2 v3 : Value} (h : HasL w [v1, v2, v3] p.d) : Has w v1 (dInts p.sent) ∧ Has w v2 (dLls p.inn) ∧ Has w v3 (dIls p.out) := by
 obtain ⟨c, r, e, h1, h⟩ := HasL.cons h
 cases e
 obtain ⟨c, r, e, h2, h⟩ := HasL.cons h
 cases e
 obtain ⟨c, r, e, h3, h⟩ := HasL.cons h
 cases e
 exact ⟨h1, h2, h3⟩
theorem has_pc {w : World} {p : Pc} {v1 v2 v3 : Value} (h1 : Has w v1 (dInts p.sent)) (h2 : Has w v2 (dLls p.inn)) (h3 : Has w v3 (dIls p.out)) : HasL w [v1, v2, v3] p.d := .mk h1 (.mk h2 (.mk h3 (hasL_nil _ _ _)))
/-- Lists that are not long. -/
structure SmallPc (p : Pc) : Prop where
 s : p.sent.length ≤ 1000000
 i : p.inn.length ≤ 1000000
 o : p.out.length ≤ 1000000
 im : ∀ m ∈ p.inn, m.length ≤ 1000000
 om : ∀ l ∈ p.out, l.length ≤ 1000000
end Go.Proofs.Ytlhclnhdcenkhaa

set_option linter.unusedSimpArgs false
set_option linter.unusedVariables false
set_option maxRecDepth 100000
namespace Go.Proofs.Ytlhclnhdcenkhaa
open Go.RowKit Go.PlainAid
/-- A piece as a value. -/
abbrev pcv (p : Pc) (v1 v2 v3 : Value) : Value := .agg #[.int .i64 p.node, .int .i64 p.state, .int .i64 p.steps, v1, v2, v3]
theorem pc_slices {w : World} {p : Pc} {v1 v2 v3 : Value} (h : HasL w [v1, v2, v3] p.d) : ∃ (a1 a2 a3 : Option Addr) (n1 n2 n3 e1 e2 e3 : Nat), v1 = .slice a1 n1 e1 ∧ v2 = .slice a2 n2 e2 ∧ v3 = .slice a3 n3 e3 := by
 obtain ⟨h1, h2, h3⟩ := pc_has h
 obtain ⟨a1, e1, rfl⟩ := slice_of h1
 obtain ⟨a2, e2, rfl⟩ := slice_of h2
 obtain ⟨a3, e3, rfl⟩ := slice_of h3
 exact ⟨_, _, _, _, _, _, _, _, _, rfl, rfl, rfl⟩
end Go.Proofs.Ytlhclnhdcenkhaa

set_option linter.unusedSimpArgs false
set_option linter.unusedVariables false
set_option maxRecDepth 100000
namespace Go.Proofs.Ytlhclnhdcenkhaa
open Go.RowKit Go.PlainAid
/-- A row of numbers under way. -/
def RowI (w0 w : World) (v : Value) (xs : List Int) : Prop := Own False All 3 1 w0 w.heap.size w v (xs.map fun a => [dI a])
theorem RowI.bel {w0 w : World} {v : Value} {xs : List Int} (h : RowI w0 w v xs) : Below w0.heap.size w0 w := Own.bel h
theorem RowI.later {w0 w w' : World} {v : Value} {xs : List Int} (h : RowI w0 w v xs) (hb : Below w.heap.size w w') : RowI w0 w' v xs := (Own.later h hb).lift hb.size (Nat.le_refl _)
theorem RowI.has {w0 w : World} {v : Value} {xs : List Int} (h : RowI w0 w v xs) : Has w v (dInts xs) := Own.holds h (fun _ _ => trivial)
theorem RowI.slice {w0 w : World} {v : Value} {xs : List Int} (h : RowI w0 w v xs) : ∃ a c, v = .slice a xs.length c := by have := Own.slice h; rwa [List.length_map] at this
theorem RowI.nil (w0 w : World) (hb : Below w0.heap.size w0 w) : RowI w0 w (.slice none 0 0) [] := Own.nil hb
theorem flat_ints (xs : List Int) : Flat (xs.map fun a => [dI a]).flatten := by
 intro d hd
 rw [List.mem_flatten] at hd
 obtain ⟨l, hl, hd⟩ := hd
 obtain ⟨p, _, rfl⟩ := List.mem_map.1 hl
 simp at hd
 exact ⟨_, hd⟩
theorem flat_links (L : Lks) : Flat (L.map fun p => [dI p.1, dI p.2]).flatten := by
 intro d hd
 rw [List.mem_flatten] at hd
 obtain ⟨l, hl, hd⟩ := hd
 obtain ⟨p, _, rfl⟩ := List.mem_map.1 hl
 simp at hd
 rcases hd with rfl | rfl <;> exact ⟨_, rfl⟩
theorem has_ints_new (w : World) (xs : List Int) (k : Nat) (hk : k = xs.length) (h0 : 0 < k) : Has (w.alloc (.cells (xs.map (Value.int .i64)).toArray 3)) (.slice (some ⟨w.heap.size, 0, none⟩) k k) (dInts xs) := by
 refine has_new 3 (fl_ints xs) (by rw [List.length_map]; exact hk) h0 ?_
 clear hk h0
 induction xs with
 | nil => exact hl_nil
 | cons x xs ih => exact hl_int ih
end Go.Proofs.Ytlhclnhdcenkhaa

set_option linter.unusedSimpArgs false
set_option linter.unusedVariables false
set_option maxRecDepth 100000
namespace Go.Proofs.Ytlhclnhdcenkhaa
open Go.RowKit Go.PlainAid
theorem Own.near {P : Nat → Prop} {E : TypeId} {n lim B : Nat} {wb w w' : World} {v : Value} {xs : List (List D)} (h : Own False P E n wb lim w v xs) (hg : w.grownBy w' (some B)) (hB : wb.heap.size ≤ B) (hP : ∀ k, P k → k ≠ B) (hv : v.ownBlock ≠ some B) : Own False P E n wb lim w' v xs := by
 obtain ⟨h1, h2, h3, cells, cs, fp, h4, h5, h6, h7, h8, h9⟩ := h
 exact ⟨h1.grown hg h1.size (fun k hk => by cases hk; exact hB), Nat.le_trans h2 hg.size, h3, cells, cs, fp, h4.kept hg (.inr hv), h5, h6, fun i j ds d a b => (h7 i j ds d a b).same ⟨hg.size, fun k hk hlt => hg.block k hlt (fun e => hP k (h8 i j k hk).1 (Option.some.inj e))⟩, h8, h9⟩
theorem Bld.near {P : Nat → Prop} {E : TypeId} {n B : Nat} {wb w w' : World} {v : Value} {xs : List (List D)} (h : Bld False P E n wb w.heap.size w v xs) (hg : w.grownBy w' (some B)) (hB : wb.heap.size ≤ B) (hP : ∀ k, P k → k ≠ B) : Bld False P E n wb w'.heap.size w' v xs :=
 ⟨(h.own.near hg hB hP (fun e => hP _ (h.inP _ e) rfl)).lift hg.size (Nat.le_refl _), h.inP⟩
theorem infoMsgI : (Try.prog.info? 38).map (fun i => (i.zero, i.size, i.bytes)) = some (some (.agg #[.int .i64 0, .int .i64 0]), 2, 16) := by kernel_rfl
theorem infoMsgsI : (Try.prog.info? 57).map (fun i => (i.zero, i.size, i.bytes)) = some (some (.slice none 0 0), 1, 24) := by kernel_rfl
theorem infoIntsI : (Try.prog.info? 29).map (fun i => (i.zero, i.size, i.bytes)) = some (some (.slice none 0 0), 1, 24) := by kernel_rfl
end Go.Proofs.Ytlhclnhdcenkhaa

set_option linter.unusedSimpArgs false
set_option linter.unusedVariables false
set_option maxRecDepth 100000
namespace Go.Proofs.Ytlhclnhdcenkhaa
open Go.RowKit Go.PlainAid
/-- Data of lists read, that nothing touches that is still written. -/
def Afar (B Ba pb rb : Nat) (w : World) (v : Value) (d : D) : Prop := Holds False (fun q => B ≤ q ∧ q ≠ Ba ∧ q ≠ pb ∧ q ≠ rb) w v d
theorem Afar.call {B Ba pb rb : Nat} {w w' : World} {v : Value} {d : D} (h : Afar B Ba pb rb w v d) (hg : w.grownBy w' (some Ba)) : Afar B Ba pb rb w' v d := h.same ⟨hg.size, fun k hk hlt => hg.block k hlt (fun e => hk.2.1 (Option.some.inj e))⟩
/-- Six cells written. -/
abbrev set6 (w : World) (b : Nat) (x0 x1 x2 x3 x4 x5 : Value) : World := (((((w.setCell ⟨b, 0, none⟩ x0).setCell ⟨b, 1, none⟩ x1).setCell ⟨b, 2, none⟩ x2).setCell ⟨b, 3, none⟩ x3).setCell ⟨b, 4, none⟩ x4).setCell ⟨b, 5, none⟩ x5
theorem set6_at {w : World} {b : Nat} {x0 x1 x2 x3 x4 x5 : Value} (h : ∀ i, i < 6 → ∃ u, w.cell? ⟨b, i, none⟩ = some u) : BoxAt b [x0, x1, x2, x3, x4, x5] (set6 w b x0 x1 x2 x3 x4 x5) := by
 obtain ⟨u0, g0⟩ := h 0 (by omega)
 obtain ⟨u1, g1⟩ := h 1 (by omega)
 obtain ⟨u2, g2⟩ := h 2 (by omega)
 obtain ⟨u3, g3⟩ := h 3 (by omega)
 obtain ⟨u4, g4⟩ := h 4 (by omega)
 obtain ⟨u5, g5⟩ := h 5 (by omega)
 intro i v e
 match i, e with
 | 0, e => simp at e; subst e; exact set_far (.inr (by simp)) (set_far (.inr (by simp)) (set_far (.inr (by simp)) (set_far (.inr (by simp)) (set_far (.inr (by simp)) (set_at g0)))))
 | 1, e => simp at e; subst e; exact set_far (.inr (by simp)) (set_far (.inr (by simp)) (set_far (.inr (by simp)) (set_far (.inr (by simp)) (set_at (set_far (.inr (by simp)) g1)))))
 | 2, e => simp at e; subst e; exact set_far (.inr (by simp)) (set_far (.inr (by simp)) (set_far (.inr (by simp)) (set_at (set_far (.inr (by simp)) (set_far (.inr (by simp)) g2)))))
 | 3, e => simp at e; subst e; exact set_far (.inr (by simp)) (set_far (.inr (by simp)) (set_at (set_far (.inr (by simp)) (set_far (.inr (by simp)) (set_far (.inr (by simp)) g3)))))
 | 4, e => simp at e; subst e; exact set_far (.inr (by simp)) (set_at (set_far (.inr (by simp)) (set_far (.inr (by simp)) (set_far (.inr (by simp)) (set_far (.inr (by simp)) g4)))))
 | 5, e => simp at e; subst e; exact set_at (set_far (.inr (by simp)) (set_far (.inr (by simp)) (set_far (.inr (by simp)) (set_far (.inr (by simp)) (set_far (.inr (by simp)) g5)))))
 | i + 6, e => simp at e
theorem set6_below {w0 w : World} {B b : Nat} {x0 x1 x2 x3 x4 x5 : Value} (h : Below B w0 w) (hb : B ≤ b) : Below B w0 (set6 w b x0 x1 x2 x3 x4 x5) := (((((h.setCell hb _).setCell hb _).setCell hb _).setCell hb _).setCell hb _).setCell hb _
theorem set6_same {P : Nat → Prop} {w : World} {b : Nat} {x0 x1 x2 x3 x4 x5 : Value} (h : ¬ P b) : SameOn P w (set6 w b x0 x1 x2 x3 x4 x5) := ((((((SameOn.refl _ _).set _ _ h).set _ _ h).set _ _ h).set _ _ h).set _ _ h).set _ _ h
end Go.Proofs.Ytlhclnhdcenkhaa

