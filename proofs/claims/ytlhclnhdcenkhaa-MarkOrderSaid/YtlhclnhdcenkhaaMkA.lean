/- Marks: plain facts, and their data in memory. -/
import Derived.Test.YtlhclnhdcenkhaaMq04
import Derived.Test.YtlhclnhdcenkhaaMq05
import Derived.BigQuiet
import Derived.Deep.CutRange
set_option linter.unusedSimpArgs false
set_option linter.unusedVariables false
set_option maxRecDepth 100000
namespace Go.Proofs.Ytlhclnhdcenkhaa
open Go.RowKit Go.PlainAid

def dB (b : Bool) : D := .atom (.bool b)
def dBools (xs : List Bool) : D := .row 1 (xs.map fun b => [dB b])
theorem infoBool : (Try.prog.info? 4).map (fun i => (i.zero, i.size, i.bytes)) = some (some (.bool false), 1, 1) := by kernel_rfl
theorem has_bool (S : Prop) (P : Nat → Prop) (w : World) (b : Bool) : Holds S P w (.bool b) (dB b) := .atom P w _ rfl
theorem bools_len {S : Prop} {P : Nat → Prop} {w : World} {a : Option Addr} {k cap : Nat} {xs : List Bool} (h : Holds S P w (.slice a k cap) (dBools xs)) : k = xs.length := by
  obtain ⟨a', c', e⟩ := h.len
  simp only [Value.slice.injEq] at e
  rw [e.2.1, List.length_map]
theorem bl_at {w : World} {a : Option Addr} {k cap i : Nat} {xs : List Bool} {x : Bool} (h : Has w (.slice a k cap) (dBools xs)) (hx : xs[i]? = some x) : ∃ b o, a = some ⟨b, o, none⟩ ∧ w.cell? ⟨b, o + i, none⟩ = some (.bool x) := by
  obtain ⟨b, o, c, e, h1, h2, cs, hcs, hc⟩ := cells_of (f := fun a => [dB a]) h hx
  obtain ⟨v, r, rfl, hv, hr⟩ := hcs.cons
  obtain rfl := Holds.val hv
  simp only [Value.slice.injEq] at e
  have := hc 0 _ rfl
  rw [Nat.mul_one, Nat.add_zero] at this
  exact ⟨b, o, e.1, this⟩
theorem fl_bools (xs : List Bool) : ∀ ds ∈ xs.map (fun a => [dB a]), ds.length = 1 := by intro ds h; obtain ⟨_, _, rfl⟩ := List.mem_map.1 h; rfl
theorem flat_bools (xs : List Bool) : Flat (xs.map fun a => [dB a]).flatten := by
  intro d hd
  rw [List.mem_flatten] at hd
  obtain ⟨l, hl, hd⟩ := hd
  obtain ⟨p, _, rfl⟩ := List.mem_map.1 hl
  simp at hd
  exact ⟨_, hd⟩
/-- A truth value of a list, to be written. -/
theorem bl_focus {P : Nat → Prop} {w : World} {a : Option Addr} {k cap i : Nat} {xs : List Bool} {x : Bool} (h : Holds True P w (.slice a k cap) (dBools xs)) (hx : xs[i]? = some x) :
    ∃ g, a = some ⟨g, 0, none⟩ ∧ P g ∧ g < w.heap.size ∧ w.cell? ⟨g, i, none⟩ = some (.bool x) ∧ OpenRow w g cap 1 ∧ ∀ y, Holds True P (w.setCell ⟨g, i, none⟩ (.bool y)) (.slice a k cap) (dBools (xs.set i y)) := by
  obtain ⟨b, o, rfl, _⟩ := bl_at h.weak hx
  obtain ⟨Q, c, rfl, hP, hO, hb, hc, hQP, hQb, hH, hF⟩ := h.focus (i := i) (j := 0) (ds := [dB x]) (d := dB x) (by rw [List.getElem?_map, hx]; rfl) rfl
  obtain rfl := Holds.val hH
  rw [Nat.mul_one, Nat.add_zero] at hc hF
  refine ⟨b, rfl, hP, hb, hc, hO, fun y => ?_⟩
  have e : (xs.set i y).map (fun m => [dB m]) = (xs.map fun m => [dB m]).set i ([dB x].set 0 (dB y)) := by rw [List.map_set]; rfl
  unfold dBools
  rw [e]
  exact (hF (w.setCell ⟨b, i, none⟩ (.bool y)) (.bool y) (dB y) (fun _ => False) ((SameOn.refl _ _).set _ _ (fun h => h.2.1 rfl)) rfl (has_bool _ _ _ _) (fun _ h => h.elim)).wide (fun _ _ h => h.elim id False.elim)

theorem run_nilB (w : World) (a : Option Addr) (n c : Nat) : (binOp .eql 28 (.slice a n c) (.slice none 0 0)).run Try.prog w = .ok (.bool a.isNone) w := by
  have h : ∀ d, (Op.equalIn (d + 1) 28 (.slice a n c) (.slice none 0 0)).run Try.prog w = .ok a.isNone w := fun d => by
    cases a <;> simp [Op.equalIn, run_underlying Try.underlying28]
  simp [binOp, Op.equal, Op.maxDepth, h 9999]
attribute [go_sem] run_nilB
/-- Is there a yes in it? -/
def hasT (xs : List Bool) : Bool := xs.contains true
structure Mk where
  ep : Int
  op : List Bool
  p : Pc
structure Hs where
  node : Int
  state : Int
  steps : Int
  inn : List Lks
  out : List (List Int)
def Mk.d (m : Mk) : List D := dBools m.op :: m.p.d
def Hs.d (h : Hs) : List D := [dLls h.inn, dIls h.out]
abbrev mkv (m : Mk) (v0 v1 v2 v3 : Value) : Value := .agg #[.int .i64 m.ep, v0, .int .i64 m.p.node, .int .i64 m.p.state, .int .i64 m.p.steps, v1, v2, v3]
abbrev hsv (h : Hs) (v1 v2 : Value) : Value := .agg #[.int .i64 h.node, .int .i64 h.state, .int .i64 h.steps, v1, v2]
structure SmallMk (m : Mk) : Prop where
  b : m.op.length ≤ 1000000
  p : SmallPc m.p
structure SmallHs (h : Hs) : Prop where
  i : h.inn.length ≤ 1000000
  o : h.out.length ≤ 1000000
  om : ∀ l ∈ h.out, l.length ≤ 1000000
theorem mk_has {w : World} {m : Mk} {v0 v1 v2 v3 : Value} (h : HasL w [v0, v1, v2, v3] m.d) : Has w v0 (dBools m.op) ∧ HasL w [v1, v2, v3] m.p.d := by
  obtain ⟨c, r, e, h1, h⟩ := HasL.cons h
  cases e
  exact ⟨h1, h⟩
theorem mk_slices {w : World} {m : Mk} {v0 v1 v2 v3 : Value} (h : HasL w [v0, v1, v2, v3] m.d) : ∃ (a0 a1 a2 a3 : Option Addr) (n0 n1 n2 n3 e0 e1 e2 e3 : Nat), v0 = .slice a0 n0 e0 ∧ v1 = .slice a1 n1 e1 ∧ v2 = .slice a2 n2 e2 ∧ v3 = .slice a3 n3 e3 := by
  obtain ⟨h0, h9⟩ := mk_has h
  obtain ⟨a0, e0, rfl⟩ := slice_of h0
  obtain ⟨a1, a2, a3, n1, n2, n3, e1, e2, e3, rfl, rfl, rfl⟩ := pc_slices h9
  exact ⟨_, _, _, _, _, _, _, _, _, _, _, _, rfl, rfl, rfl, rfl⟩
theorem hs_has {w : World} {h : Hs} {v1 v2 : Value} (g : HasL w [v1, v2] h.d) : Has w v1 (dLls h.inn) ∧ Has w v2 (dIls h.out) := by
  obtain ⟨c, r, e, h1, g⟩ := HasL.cons g
  cases e
  obtain ⟨c, r, e, h2, g⟩ := HasL.cons g
  cases e
  exact ⟨h1, h2⟩

/-- Values stored one behind the other. -/
def setN (w : World) (b : Nat) : Nat → List Value → World
  | _, [] => w
  | o, x :: xs => setN (w.setCell ⟨b, o, none⟩ x) b (o + 1) xs
def setL (vs : List Value) : Nat → List Value → List Value
  | _, [] => vs
  | o, x :: xs => setL (vs.set o x) (o + 1) xs
theorem setN_below {w0 : World} {B b : Nat} (hb : B ≤ b) : ∀ (xs : List Value) (o : Nat) (w : World), Below B w0 w → Below B w0 (setN w b o xs)
  | [], _, _, h => h
  | x :: xs, o, w, h => setN_below hb xs (o + 1) _ (h.setCell hb _)
theorem setN_same {P : Nat → Prop} {w0 : World} {b : Nat} (hb : ¬ P b) : ∀ (xs : List Value) (o : Nat) (w : World), SameOn P w0 w → SameOn P w0 (setN w b o xs)
  | [], _, _, h => h
  | x :: xs, o, w, h => setN_same hb xs (o + 1) _ (h.set _ _ hb)
theorem setN_box {b : Nat} : ∀ (xs : List Value) (o : Nat) (vs : List Value) (w : World), BoxAt b vs w → o + xs.length ≤ vs.length → BoxAt b (setL vs o xs) (setN w b o xs)
  | [], _, _, _, h, _ => h
  | x :: xs, o, vs, w, h, hl => setN_box xs (o + 1) (vs.set o x) _ (boxAt_set' h (by simp at hl; omega)) (by simp at hl ⊢; omega)
theorem setN_frozen {b : Nat} (a : Addr) : ∀ (xs : List Value) (o : Nat) (w : World), (setN w b o xs).frozen? a = w.frozen? a
  | [], _, _ => rfl
  | x :: xs, o, w => (setN_frozen a xs (o + 1) _).trans (World.frozen?_setCell _ _ _ _)
theorem setN_size {b : Nat} : ∀ (xs : List Value) (o : Nat) (w : World), (setN w b o xs).heap.size = w.heap.size
  | [], _, _ => rfl
  | x :: xs, o, w => (setN_size xs (o + 1) _).trans (by simp [World.setCell])
theorem setN_far {b b' : Nat} {vs : List Value} (hne : b' ≠ b) {xs : List Value} {o : Nat} {w : World} (h : BoxAt b' vs w) : BoxAt b' vs (setN w b o xs) :=
  h.same (P := fun q => q ≠ b) (setN_same (fun h => h rfl) xs o w (SameOn.refl _ _)) hne
/-- A box of one's own, not frozen. -/
def Open8 (b : Nat) (w : World) : Prop := b < w.heap.size ∧ ∀ i, w.frozen? ⟨b, i, none⟩ = false
theorem Open8.below {b : Nat} {w w' : World} (h : Open8 b w) (hb : Below w.heap.size w w') : Open8 b w' := ⟨Nat.lt_of_lt_of_le h.1 hb.size, fun i => (hb.frozen (p := ⟨b, i, none⟩) h.1).trans (h.2 i)⟩
theorem Open8.set {b b' : Nat} {w : World} {o : Nat} {xs : List Value} (h : Open8 b w) : Open8 b (setN w b' o xs) := ⟨by rw [setN_size]; exact h.1, fun i => (setN_frozen _ _ _ _).trans (h.2 i)⟩
theorem Open8.new (w : World) (c : Array Value) (t : TypeId) : Open8 w.heap.size (w.alloc (.cells c t)) := ⟨by rw [size_new]; omega, fun i => frozen_new w c t i⟩
theorem HoldsL.inter {w : World} : ∀ {cs : List Value} {ds : List D} {P P' : Nat → Prop}, HoldsL True P w cs ds → HoldsL True P' w cs ds → HoldsL True (fun q => P q ∧ P' q) w cs ds := by
  intro cs ds P P' h h'
  obtain ⟨h0, fp, h1, h2, h3⟩ := h
  obtain ⟨_, fp', h1', h2', h3'⟩ := h'
  exact ⟨h0, fun j k => fp j k ∧ fp' j k, fun j k hk => ⟨h1 j k hk.1, h1' j k hk.2⟩, fun s j j' k a b => h2 s j j' k a.1 b.1, fun j c d hc hd => (h3 j c d hc hd).inter (h3' j c d hc hd)⟩
theorem holdsL_one {P : Nat → Prop} {w : World} {v : Value} {d : D} (h : Holds True P w v d) : HoldsL True P w [v] [d] :=
  ⟨rfl, fun j q => j = 0 ∧ P q, fun _ _ h => h.2, fun _ j j' k a b => a.1.trans b.1.symm, fun j c d hc hd => by
    match j, hc, hd with
    | 0, hc, hd => simp at hc hd; subst hc hd; exact h.wide (fun q _ hq => ⟨rfl, hq⟩)
    | j + 1, hc, hd => simp at hc⟩

def lensOf (l : List (List Int)) : List Int := l.map fun x => (x.length : Int)
def tellP (h : Hs) : Pc := ⟨h.node, h.state, h.steps, lensOf h.out, List.replicate h.inn.length [], []⟩
def beginM (h : Hs) (e : Int) : Mk := ⟨e, List.replicate h.inn.length true, tellP h⟩
def inB (at' : Int) (n : Nat) : Bool := decide (0 ≤ at') && decide (at' < n)
def openB (op : List Bool) (at' : Int) : Bool := inB at' op.length && op.getD at'.toNat false
def closeM (m : Mk) (at' : Int) : Mk := ⟨m.ep, m.op.set at'.toNat false, m.p⟩
def getM (m : Mk) (at' : Int) (x : Int × Int) : Mk := ⟨m.ep, m.op, ⟨m.p.node, m.p.state, m.p.steps, m.p.sent, m.p.inn.set at'.toNat (m.p.inn.getD at'.toNat [] ++ [x]), m.p.out⟩⟩
def markM (m : Mk) (h : Hs) (e at' : Int) : Mk × Bool :=
  let x := if m.ep = e then m else beginM h e
  if inB at' x.op.length then (closeM x at', !decide (m.ep = e)) else (m, false)
def appM (m : Mk) (at' : Int) (x : Int × Int) : Mk := if openB m.op at' then getM m at' x else m
def doneM (m : Mk) (e : Int) : Bool := decide (m.ep = e) && !hasT m.op
def Mk.zero : Mk := ⟨0, [], Pc.zero⟩
/-- A mark that is told, in blocks of its own. -/
def MkTold (m : Mk) (w : World) (e : Ending) (w' : World) : Prop := ∃ v0 v1 v2 v3, e = .returned (mkv m v0 v1 v2 v3) ∧ HoldsL True (fun q => w.heap.size ≤ q) w' [v0, v1, v2, v3] m.d ∧ Below w.heap.size w w'
def MkTold2 (m : Mk) (b : Bool) (w : World) (e : Ending) (w' : World) : Prop := ∃ v0 v1 v2 v3, e = .returned (.tuple #[mkv m v0 v1 v2 v3, .bool b]) ∧ HoldsL True (fun q => w.heap.size ≤ q) w' [v0, v1, v2, v3] m.d ∧ Below w.heap.size w w'
end Go.Proofs.Ytlhclnhdcenkhaa
