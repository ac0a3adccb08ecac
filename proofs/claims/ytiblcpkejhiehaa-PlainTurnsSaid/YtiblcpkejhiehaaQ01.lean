/- Texts put together. -/
import Derived.Test.YtiblcpkejhiehaaQ00
import Derived.Laws.AppendOwn
import Derived.Laws.AppendOwnNone
import Derived.OneCell
import Derived.Laws.CopyRow
import Derived.BigRegion
import Derived.Handy
import Derived.WalkSpells
import Derived.WalkLawsBesides
namespace Go.Proofs.Ytiblcpkejhiehaa
open Go.RowKit Go.PlainAid
/-- Data: one cell, or a row of things of n cells each. -/
inductive D where
 | atom (v : Value)
 | row (n : Nat) (xs : List (List D))
/-- These blocks are as they were. -/
def SameOn (P : Nat → Prop) (w w' : World) : Prop := w.heap.size ≤ w'.heap.size ∧ ∀ b, P b → b < w.heap.size → w'.heap[b]? = w.heap[b]?
theorem SameOn.of_below {P : Nat → Prop} {w w' : World} (h : Below w.heap.size w w') : SameOn P w w' := ⟨h.size, fun b _ hb => h.block b hb⟩
theorem SameOn.sub {P P' : Nat → Prop} {w w' : World} (h : SameOn P w w') (hs : ∀ b, P' b → P b) : SameOn P' w w' := ⟨h.1, fun b p hb => h.2 b (hs b p) hb⟩
theorem SameOn.cell {P : Nat → Prop} {w w' : World} {a : Addr} (h : SameOn P w w') (hp : P a.block) (hb : a.block < w.heap.size) : w'.cell? a = w.cell? a := World.cell?_of_block (h.2 _ hp hb)
theorem below_new (w : World) (o : Obj) : Below w.heap.size w (w.alloc o) := (Below.refl _ w).alloc (Nat.le_refl _) o
/-- A row's block that may be written: all of it is the row's room. -/
def OpenRow (w : World) (b cap n : Nat) : Prop := cap ≤ maxLen ∧ ∃ cur e, w.heap[b]? = some (.cells cur e (0, 0)) ∧ cur.size = cap * n
theorem OpenRow.same {P : Nat → Prop} {w w' : World} {b cap n : Nat} (h : OpenRow w b cap n) (hs : SameOn P w w') (hP : P b) (hb : b < w.heap.size) : OpenRow w' b cap n := by
 obtain ⟨h1, cur, e, h2, h3⟩ := h
 exact ⟨h1, cur, e, (hs.2 b hP hb).trans h2, h3⟩
/-- A value holds data, in blocks of P; where S is so, no two parts lie in one block, and each may be written. -/
inductive Holds (S : Prop) : (Nat → Prop) → World → Value → D → Prop where
  | atom (P : Nat → Prop) (w : World) (v : Value) (h1 : v.oneCell' = true) : Holds S P w v (.atom v)
  | nil (P : Nat → Prop) (w : World) (a : Option Addr) (cap n : Nat) (hop : S → cap = 0 ∨ ∃ b, a = some ⟨b, 0, none⟩ ∧ P b ∧ b < w.heap.size ∧ OpenRow w b cap n := by first | exact fun s => s.elim | exact fun _ => .inl rfl) : Holds S P w (.slice a 0 cap) (.row n [])
  | row (P : Nat → Prop) (w : World) (b off cap n : Nat) (xs : List (List D)) (cs : Nat → Nat → Value) (fp : Nat → Nat → Nat → Prop) (h0 : 0 < xs.length) (hb : b < w.heap.size) (hc : xs.length ≤ cap) (hP : P b)
      (hn : ∀ (i : Nat) (ds : List D), xs[i]? = some ds → ds.length = n) (hcell : ∀ (i j : Nat), i < xs.length → j < n → w.cell? ⟨b, off + i * n + j, none⟩ = some (cs i j))
      (hrec : ∀ (i j : Nat) (ds : List D) (d : D), xs[i]? = some ds → ds[j]? = some d → Holds S (fp i j) w (cs i j) d) (hfp : ∀ (i j k : Nat), fp i j k → P k) (hb2 : S → ∀ (i j : Nat), ¬ fp i j b)
      (hd : S → ∀ (i j i' j' k : Nat), fp i j k → fp i' j' k → i = i' ∧ j = j') (hop : S → off = 0 ∧ OpenRow w b cap n := by exact fun s => s.elim) : Holds S P w (.slice (some ⟨b, off, none⟩) xs.length cap) (.row n xs)
theorem Holds.same {S : Prop} {P : Nat → Prop} {w w' : World} {v : Value} {d : D} (h : Holds S P w v d) : SameOn P w w' → Holds S P w' v d := by
 induction h with
 | atom P w v h1 => intro _; exact .atom P w' v h1
 | nil P w a cap n hop =>
  intro hs
  refine .nil P w' a cap n (fun s => ?_)
  rcases hop s with h | ⟨b, h1, h2, h3, h4⟩
  ·exact .inl h
  ·exact .inr ⟨b, h1, h2, Nat.lt_of_lt_of_le h3 hs.1, h4.same hs h2 h3⟩
 | row P w b off cap n xs cs fp h0 hb hc hP hn hcell hrec hfp hb2 hd hop ih =>
  intro hs
  exact .row P w' b off cap n xs cs fp h0 (Nat.lt_of_lt_of_le hb hs.1) hc hP hn (fun i j hi hj => (hs.cell hP (by exact hb)).trans (hcell i j hi hj))
   (fun i j ds d h1 h2 => ih i j ds d h1 h2 (hs.sub (hfp i j))) hfp hb2 hd (fun s => ⟨(hop s).1, (hop s).2.same hs hP hb⟩)
theorem Holds.later {S : Prop} {P : Nat → Prop} {w w' : World} {v : Value} {d : D} (h : Holds S P w v d) (hb : Below w.heap.size w w') : Holds S P w' v d := h.same (.of_below hb)
theorem Holds.wide {S : Prop} {P P' : Nat → Prop} {w : World} {v : Value} {d : D} (h : Holds S P w v d) : (∀ b, b < w.heap.size → P b → P' b) → Holds S P' w v d := by
 induction h generalizing P' with
 | atom P w v h1 => intro _; exact .atom P' w v h1
 | nil P w a cap n hop =>
  intro hs
  refine .nil P' w a cap n (fun s => ?_)
  rcases hop s with h | ⟨b, h1, h2, h3, h4⟩
  ·exact .inl h
  ·exact .inr ⟨b, h1, hs b h3 h2, h3, h4⟩
 | row P w b off cap n xs cs fp h0 hb hc hP hn hcell hrec hfp hb2 hd hop ih =>
  intro hs
  exact .row P' w b off cap n xs cs (fun i j k => fp i j k ∧ k < w.heap.size) h0 hb hc (hs b hb hP) hn hcell
   (fun i j ds d h1 h2 => ih i j ds d h1 h2 (fun b hb p => ⟨p, hb⟩)) (fun i j k h => hs k h.2 (hfp i j k h.1)) (fun s i j h => hb2 s i j h.1) (fun s i j i' j' k h h' => hd s i j i' j' k h.1 h'.1) hop
/-- All blocks. -/
def All : Nat → Prop := fun _ => True
theorem Holds.weak {S : Prop} {P : Nat → Prop} {w : World} {v : Value} {d : D} (h : Holds S P w v d) : Holds False All w v d := by
 induction h with
 | atom P w v h1 => exact .atom All w v h1
 | nil P w a cap n hop => exact .nil All w a cap n (fun s => s.elim)
 | row P w b off cap n xs cs fp h0 hb hc hP hn hcell hrec hfp hb2 hd hop ih =>
  exact .row All w b off cap n xs cs (fun _ _ => All) h0 hb hc trivial hn hcell ih (fun _ _ _ _ => trivial) (fun s => s.elim) (fun s => s.elim) (fun s => s.elim)
/-- Plain reading. -/
abbrev Has (w : World) (v : Value) (d : D) : Prop := Holds False All w v d
theorem Holds.len {S : Prop} {P : Nat → Prop} {w : World} {v : Value} {n : Nat} {xs : List (List D)} (h : Holds S P w v (.row n xs)) : ∃ a cap, v = .slice a xs.length cap := by
 cases h with
 | nil => exact ⟨_, _, rfl⟩
 | row => exact ⟨_, _, rfl⟩
theorem Holds.val {S : Prop} {P : Nat → Prop} {w : World} {v u : Value} (h : Holds S P w v (.atom u)) : v = u := by cases h; rfl
theorem Holds.one {S : Prop} {P : Nat → Prop} {w : World} {v : Value} {d : D} (h : Holds S P w v d) : v.oneCell' = true := by
 cases h with
 | atom h1 => assumption
 | nil => rfl
 | row => rfl
theorem lt_of_some {α : Type} {l : List α} {i : Nat} {x : α} (h : l[i]? = some x) : i < l.length := (List.getElem?_eq_some_iff.1 h).1
theorem some_of_lt {α : Type} {l : List α} {i : Nat} (h : i < l.length) : ∃ x, l[i]? = some x := ⟨_, List.getElem?_eq_getElem h⟩
/-- Values hold a list of data, each in blocks of its own. -/
def HoldsL (S : Prop) (P : Nat → Prop) (w : World) (cs : List Value) (ds : List D) : Prop :=
 cs.length = ds.length ∧ ∃ fp : Nat → Nat → Prop, (∀ j k, fp j k → P k) ∧ (S → ∀ j j' k, fp j k → fp j' k → j = j') ∧ ∀ j c d, cs[j]? = some c → ds[j]? = some d → Holds S (fp j) w c d
theorem HoldsL.same {S : Prop} {P : Nat → Prop} {w w' : World} {cs : List Value} {ds : List D} (h : HoldsL S P w cs ds) (hs : SameOn P w w') : HoldsL S P w' cs ds := by
 obtain ⟨h1, fp, h2, h3, h4⟩ := h
 exact ⟨h1, fp, h2, h3, fun j c d hc hd => (h4 j c d hc hd).same (hs.sub (h2 j))⟩
theorem HoldsL.later {S : Prop} {P : Nat → Prop} {w w' : World} {cs : List Value} {ds : List D} (h : HoldsL S P w cs ds) (hb : Below w.heap.size w w') : HoldsL S P w' cs ds := h.same (.of_below hb)
theorem HoldsL.wide {S : Prop} {P P' : Nat → Prop} {w : World} {cs : List Value} {ds : List D} (h : HoldsL S P w cs ds) (hs : ∀ b, b < w.heap.size → P b → P' b) : HoldsL S P' w cs ds := by
 obtain ⟨h1, fp, h2, h3, h4⟩ := h
 exact ⟨h1, fun j k => fp j k ∧ k < w.heap.size, fun j k h => hs k h.2 (h2 j k h.1), fun s j j' k h h' => h3 s j j' k h.1 h'.1, fun j c d hc hd => (h4 j c d hc hd).wide (fun b hb p => ⟨p, hb⟩)⟩
theorem HoldsL.weak {S : Prop} {P : Nat → Prop} {w : World} {cs : List Value} {ds : List D} (h : HoldsL S P w cs ds) : HoldsL False All w cs ds := by
 obtain ⟨h1, fp, h2, h3, h4⟩ := h
 exact ⟨h1, fun _ => All, fun _ _ _ => trivial, fun s => s.elim, fun j c d hc hd => (h4 j c d hc hd).weak⟩
theorem hasL_nil (S : Prop) (P : Nat → Prop) (w : World) : HoldsL S P w [] [] := ⟨rfl, fun _ _ => False, fun _ _ h => h.elim, fun _ _ _ _ h => h.elim, fun j c d h => by simp at h⟩
abbrev HasL (w : World) (cs : List Value) (ds : List D) : Prop := HoldsL False All w cs ds
theorem HasL.cons {w : World} {cs : List Value} {d : D} {ds : List D} (h : HasL w cs (d :: ds)) : ∃ c cs', cs = c :: cs' ∧ Has w c d ∧ HasL w cs' ds := by
 obtain ⟨h1, fp, h2, h3, h4⟩ := h
 match cs, h1 with
 | c :: cs', h1 => exact ⟨c, cs', rfl, (h4 0 c d rfl rfl).weak, by simpa using h1, fun j => fp (j + 1), fun j k h => h2 _ k h, fun s => s.elim, fun j c d hc hd => h4 (j + 1) c d (by simpa using hc) (by simpa using hd)⟩
theorem HasL.nil {w : World} {cs : List Value} (h : HasL w cs []) : cs = [] := List.eq_nil_of_length_eq_zero h.1
theorem HasL.mk {w : World} {c : Value} {cs : List Value} {d : D} {ds : List D} (h : Has w c d) (h' : HasL w cs ds) : HasL w (c :: cs) (d :: ds) := by
 obtain ⟨h1, fp, h2, h3, h4⟩ := h'.weak
 refine ⟨by simp [h1], fun _ => All, fun _ _ _ => trivial, fun s => s.elim, fun j c' d' hc hd => ?_⟩
 cases j with
 | zero => simp at hc hd; subst hc hd; exact h.weak
 | succ j => exact (h4 j c' d' (by simpa using hc) (by simpa using hd)).weak
/-- An element's cells. -/
theorem Has.at {w : World} {v : Value} {n i : Nat} {xs : List (List D)} {ds : List D} (h : Has w v (.row n xs)) (hx : xs[i]? = some ds) :
  ∃ b off cap, v = .slice (some ⟨b, off, none⟩) xs.length cap ∧ b < w.heap.size ∧ xs.length ≤ cap ∧ ds.length = n ∧ ∃ cs, HasL w cs ds ∧ ∀ j c, cs[j]? = some c → w.cell? ⟨b, off + i * n + j, none⟩ = some c := by
 cases h with
 | nil => simp at hx
 | row _ _ b off cap n xs cs fp h0 hb hc hP hn hcell hrec hfp hb2 hd =>
  have hl := hn i ds hx
  refine ⟨b, off, cap, rfl, hb, hc, hl, (List.range n).map (cs i), ⟨by simp [hl], fun _ => All, fun _ _ _ => trivial, fun s => s.elim, fun j c d hc' hd' => ?_⟩, fun j c hc' => ?_⟩
  ·have hj := lt_of_some hd'
   rw [List.getElem?_map, List.getElem?_range (by omega)] at hc'
   simp at hc'
   subst hc'
   exact (hrec i j ds d hx hd').weak
  ·have hj := lt_of_some hc'
   simp at hj
   rw [List.getElem?_map, List.getElem?_range (by omega)] at hc'
   simp at hc'
   subst hc'
   exact hcell i j (lt_of_some hx) hj
def dI (a : Int) : D := .atom (.int .i64 a)
def dB (b : Bool) : D := .atom (.bool b)
def dInts (xs : List Int) : D := .row 1 (xs.map fun a => [dI a])
def dLinks (L : Lks) : D := .row 2 (L.map fun p => [dI p.1, dI p.2])
theorem has_int (S : Prop) (P : Nat → Prop) (w : World) (a : Int) : Holds S P w (.int .i64 a) (dI a) := .atom P w _ rfl
theorem has_bool (S : Prop) (P : Nat → Prop) (w : World) (a : Bool) : Holds S P w (.bool a) (dB a) := .atom P w _ rfl
theorem Has.ints {w : World} {v : Value} {xs : List Int} (h : Has w v (dInts xs)) : IntsAt w v xs := by
 by_cases h0 : xs.length = 0
 ·obtain rfl := List.length_eq_zero_iff.1 h0
  obtain ⟨a, cap, rfl⟩ := Holds.len h
  exact .inl ⟨a, cap, rfl, rfl⟩
 ·have key : ∀ i, i < xs.length → ∃ b off cap, v = .slice (some ⟨b, off, none⟩) xs.length cap ∧ b < w.heap.size ∧ xs.length ≤ cap ∧ w.cell? ⟨b, off + i, none⟩ = some (.int .i64 (xs.getD i 0)) := by
   intro i hi
   obtain ⟨b, off, cap, rfl, hb, hc, hl, cs, hcs, hcell⟩ := Has.at (i := i) (ds := [dI (xs.getD i 0)]) h (by simp [List.getD, hi])
   obtain ⟨c, cs', rfl, hc1, hc2⟩ := hcs.cons
   have e := Holds.val hc1
   subst e
   have := hcell 0 _ rfl
   rw [Nat.mul_one, Nat.add_zero] at this
   simp only [List.length_map] at hc ⊢
   exact ⟨b, off, cap, rfl, hb, hc, this⟩
  obtain ⟨b, off, cap, rfl, hb, hc, _⟩ := key 0 (by omega)
  refine .inr ⟨b, off, xs.length, cap, rfl, rfl, by omega, hb, hc, fun i hi => ?_⟩
  obtain ⟨b', off', cap', e, _, _, hx⟩ := key i hi
  simp only [Value.slice.injEq, Option.some.injEq, Addr.mk.injEq] at e
  obtain ⟨⟨rfl, rfl, _⟩, _, rfl⟩ := e
  exact hx
theorem Has.links {w : World} {v : Value} {L : Lks} (h : Has w v (dLinks L)) : LinksAt w v L := by
 by_cases h0 : L.length = 0
 ·obtain rfl := List.length_eq_zero_iff.1 h0
  obtain ⟨a, cap, rfl⟩ := Holds.len h
  exact .inl ⟨a, cap, rfl, rfl⟩
 ·have key : ∀ i, i < L.length → ∃ b off cap, v = .slice (some ⟨b, off, none⟩) L.length cap ∧ b < w.heap.size ∧ L.length ≤ cap ∧ w.cell? ⟨b, off + i * 2, none⟩ = some (.int .i64 (lk L i).1) ∧ w.cell? ⟨b, off + i * 2 + 1, none⟩ = some (.int .i64 (lk L i).2) := by
   intro i hi
   obtain ⟨b, off, cap, rfl, hb, hc, hl, cs, hcs, hcell⟩ := Has.at (i := i) (ds := [dI (lk L i).1, dI (lk L i).2]) h (by simp [lk, List.getD, hi])
   obtain ⟨c, cs', rfl, hc1, hc2⟩ := hcs.cons
   obtain ⟨c', cs2, rfl, hc3, hc4⟩ := HasL.cons hc2
   have e := Holds.val hc1
   have e' := Holds.val hc3
   subst e e'
   simp only [List.length_map] at hc ⊢
   exact ⟨b, off, cap, rfl, hb, hc, hcell 0 _ rfl, hcell 1 _ rfl⟩
  obtain ⟨b, off, cap, rfl, hb, hc, _⟩ := key 0 (by omega)
  refine .inr ⟨b, off, L.length, cap, rfl, rfl, by omega, hb, hc, fun i hi => ?_⟩
  obtain ⟨b', off', cap', e, _, _, hx⟩ := key i hi
  simp only [Value.slice.injEq, Option.some.injEq, Addr.mk.injEq] at e
  obtain ⟨⟨rfl, rfl, _⟩, _, rfl⟩ := e
  exact hx
theorem has_of_links {w : World} {v : Value} {L : Lks} (h : LinksAt w v L) : Has w v (dLinks L) := by
 rcases h with ⟨a, cap, rfl, rfl⟩ | ⟨b, off, len, cap, rfl, rfl, h3, h4, h6, h5⟩
 ·exact .nil _ _ _ _ _
 ·have e : L.length = (L.map fun p => [dI p.1, dI p.2]).length := by simp
  unfold dLinks
  rw [e]
  refine .row _ _ _ _ _ _ _ (fun i j => if j = 0 then .int .i64 (lk L i).1 else .int .i64 (lk L i).2) (fun _ _ => All) (by simpa using h3) h4 (by simpa using h6) trivial (fun i ds h => ?_) (fun i j hi hj => ?_) (fun i j ds d h1 h2 => ?_) (fun _ _ _ _ => trivial) (fun s => s.elim) (fun s => s.elim)
  ·simp at h; obtain ⟨_, _, _, rfl⟩ := h; rfl
  ·have := h5 i (by simpa using hi)
   rcases Nat.lt_or_ge j 1 with hj1 | hj1
   ·obtain rfl : j = 0 := by omega
    simpa using this.1
   ·obtain rfl : j = 1 := by omega
    simpa using this.2
  ·rw [List.getElem?_map, Option.map_eq_some_iff] at h1
   obtain ⟨p, ha, rfl⟩ := h1
   rw [show lk L i = p by simp [lk, List.getD, ha]]
   match j, h2 with
   | 0, h2 => simp at h2; subst h2; exact has_int _ _ _ _
   | 1, h2 => simp at h2; subst h2; exact has_int _ _ _ _
   | j + 2, h2 => simp at h2
end Go.Proofs.Ytiblcpkejhiehaa
namespace Go.Proofs.Ytiblcpkejhiehaa
open Go.RowKit Go.PlainAid
theorem flatten_len {n : Nat} : ∀ {ys : List (List D)}, (∀ ds ∈ ys, ds.length = n) → ys.flatten.length = ys.length * n
 | [], _ => by simp
 | ds :: r, h => by
  rw [List.flatten_cons, List.length_append, flatten_len (fun d hd => h d (List.mem_cons_of_mem _ hd)), h ds (List.mem_cons_self ..), List.length_cons, Nat.succ_mul, Nat.add_comm]
theorem flatten_get {n : Nat} : ∀ {ys : List (List D)} {i j : Nat} {ds : List D}, (∀ ds ∈ ys, ds.length = n) → ys[i]? = some ds → j < n → ys.flatten[i * n + j]? = ds[j]?
 | [], i, j, ds, _, h, _ => by simp at h
 | q :: r, 0, j, ds, hn, h, hj => by
  simp at h; subst h
  rw [List.flatten_cons, Nat.zero_mul, Nat.zero_add, List.getElem?_append_left (by rw [hn q (List.mem_cons_self ..)]; exact hj)]
 | q :: r, i + 1, j, ds, hn, h, hj => by
  have hq := hn q (List.mem_cons_self ..)
  rw [List.flatten_cons, List.getElem?_append_right (by rw [hq, Nat.succ_mul]; omega), hq, show (i + 1) * n + j - n = i * n + j by rw [Nat.succ_mul]; omega]
  exact flatten_get (fun d hd => hn d (List.mem_cons_of_mem _ hd)) (by simpa using h) hj
theorem grown_of_below {w w' : World} (h : Below w.heap.size w w') (row : Option Nat) : w.grownBy w' row := ⟨h.os, h.tape, h.output, h.size, fun k hk _ => h.block k hk⟩
/-- A row that the call is building: what it holds lies in blocks of P, below 'lim', and not in the row's own. -/
structure Own (S : Prop) (P : Nat → Prop) (E : TypeId) (n : Nat) (wb : World) (lim : Nat) (w : World) (v : Value) (xs : List (List D)) : Prop where
 bel : Below wb.heap.size wb w
 lim_le : lim ≤ w.heap.size
 blk : ∀ k, v.ownBlock = some k → k < lim
 ex : ∃ (cells : List Value) (cs : Nat → Nat → Value) (fp : Nat → Nat → Nat → Prop), w.ownsRow wb.heap.size E n v xs.length cells ∧ (∀ (i : Nat) (ds : List D), xs[i]? = some ds → ds.length = n) ∧
  (∀ i j, i < xs.length → j < n → cells[i * n + j]? = some (cs i j)) ∧ (∀ (i j : Nat) (ds : List D) (d : D), xs[i]? = some ds → ds[j]? = some d → Holds S (fp i j) w (cs i j) d) ∧
  (∀ i j k, fp i j k → P k ∧ k < lim ∧ v.ownBlock ≠ some k) ∧ (S → ∀ i j i' j' k, fp i j k → fp i' j' k → i = i' ∧ j = j')
theorem Own.nil {S : Prop} {P : Nat → Prop} {E : TypeId} {n : Nat} {wb w : World} (hb : Below wb.heap.size wb w) : Own S P E n wb w.heap.size w (.slice none 0 0) [] :=
 ⟨hb, Nat.le_refl _, fun k hk => by simp [Value.ownBlock] at hk, [], fun _ _ => .bool true, fun _ _ _ => False, World.ownsRow_nil _ _ _ _, fun i ds h => by simp at h, fun i j h => by simp at h, fun i j ds d h => by simp at h, fun _ _ _ h => h.elim, fun _ _ _ _ _ _ h => h.elim⟩
theorem Own.later {S : Prop} {P : Nat → Prop} {E : TypeId} {n lim : Nat} {wb w w' : World} {v : Value} {xs : List (List D)} (h : Own S P E n wb lim w v xs) (hb : Below w.heap.size w w') : Own S P E n wb lim w' v xs := by
 obtain ⟨h1, h2, h3, cells, cs, fp, h4, h5, h6, h7, h8, h9⟩ := h
 exact ⟨h1.trans (hb.mono h1.size), Nat.le_trans h2 hb.size, h3, cells, cs, fp, h4.kept (grown_of_below hb none) (by cases v.ownBlock <;> simp), h5, h6, fun i j ds d a b => (h7 i j ds d a b).later hb, h8, h9⟩
theorem Own.lift {S : Prop} {P : Nat → Prop} {E : TypeId} {n lim lim' : Nat} {wb w : World} {v : Value} {xs : List (List D)} (h : Own S P E n wb lim w v xs) (h1 : lim ≤ lim') (h2 : lim' ≤ w.heap.size) : Own S P E n wb lim' w v xs := by
 obtain ⟨g1, g2, g3, cells, cs, fp, h4, h5, h6, h7, h8, h9⟩ := h
 exact ⟨g1, h2, fun k hk => Nat.lt_of_lt_of_le (g3 k hk) h1, cells, cs, fp, h4, h5, h6, h7, fun i j k hf => ⟨(h8 i j k hf).1, Nat.lt_of_lt_of_le (h8 i j k hf).2.1 h1, (h8 i j k hf).2.2⟩, h9⟩
theorem Own.slice {S : Prop} {P : Nat → Prop} {E : TypeId} {n lim : Nat} {wb w : World} {v : Value} {xs : List (List D)} (h : Own S P E n wb lim w v xs) : ∃ a c, v = .slice a xs.length c := by
 obtain ⟨_, _, _, cells, cs, fp, h4, _⟩ := h
 exact owns_slice h4
theorem Own.ge {S : Prop} {P : Nat → Prop} {E : TypeId} {n lim : Nat} {wb w : World} {v : Value} {xs : List (List D)} (h : Own S P E n wb lim w v xs) : ∀ k, v.ownBlock = some k → wb.heap.size ≤ k ∧ k < w.heap.size := by
 obtain ⟨_, _, _, cells, cs, fp, h4, _⟩ := h
 exact h4.lt
/-- What the row holds at last. -/
theorem Own.holds {S : Prop} {P : Nat → Prop} {E : TypeId} {n lim : Nat} {wb w : World} {v : Value} {xs : List (List D)} (h : Own S P E n wb lim w v xs) (hP : ∀ k, v.ownBlock = some k → P k) : Holds S P w v (.row n xs) := by
 obtain ⟨h1, h2, h3, cells, cs, fp, h4, h5, h6, h7, h8, h9⟩ := h
 by_cases h0 : xs.length = 0
 ·obtain ⟨a, c, rfl⟩ := owns_slice h4
  obtain rfl := List.length_eq_zero_iff.1 h0
  refine .nil _ _ _ _ _ (fun _ => ?_)
  rcases h4.2 with ⟨e, _⟩ | ⟨g, cap, cur, e, hge, hg, hle, hmx, hcz, _⟩
  ·simp at e; exact .inl e.2
  ·simp at e
   obtain ⟨rfl, rfl⟩ := e
   exact .inr ⟨g, rfl, hP g rfl, lt_of_block hg, hmx, cur, E, hg, hcz⟩
 ·have hcell := fun g => h4.cells (g := g)
  rcases h4.2 with ⟨_, e⟩ | ⟨g, cap, cur, rfl, hge, hg, hle, hmx, hcz, _⟩
  ·exact absurd e h0
  ·refine .row P w g 0 cap n xs cs fp (by omega) (lt_of_block hg) hle (hP g rfl) h5 (fun i j hi hj => ?_) h7 (fun i j k hf => (h8 i j k hf).1) (fun _ i j hf => (h8 i j g hf).2.2 rfl) h9 (fun _ => ⟨rfl, hmx, cur, E, hg, hcz⟩)
   have := hcell g rfl _ _ (h6 i j hi hj)
   have e : (⟨g, 0, none⟩ : Addr).add (i * n + j) = ⟨g, 0 + i * n + j, none⟩ := by unfold Addr.add; split <;> simp_all
   rw [e] at this; exact this
/-- Where a row goes that is appended to. -/
theorem app_block {w w' : World} {base m n : Nat} {T ty E : TypeId} {i : TypeInfo} {z : Value} {size bytes : Nat} {v v' : Value} {xs news : List Value} {ad : Addr} {c : Nat} (ht : Try.prog.underlying T = some (.slice E)) (hi : Try.prog.info? E = some i) (hz : i.zero = some z)
  (hsize : i.size = size) (hby : i.bytes = bytes) (hzs : z.cells.size = size) (hsz : 0 < size) (hown : w.ownsRow base E size v n xs) (hl : news.length = m * size) (hnews : ∀ j u, news[j]? = some u → w.cell? (ad.add j) = some u) (h1 : ∀ u ∈ news, u.oneCell' = true)
  (h63 : n + m ≤ maxLen) (hbytes : (n + m) * bytes ≤ 140737488355328) (hr : (Builtin.append_ #[T, T] ty #[v, .slice (some ad) m c]).run Try.prog w = .ok v' w') :
  v'.ownBlock = v.ownBlock ∨ v'.ownBlock = some w.heap.size := by
 subst hsize hby
 have hb63 : ((n + m : Nat) : Int) ≤ 9223372036854775807 := by unfold maxLen at h63; omega
 rcases hown.2 with ⟨rfl, rfl⟩ | ⟨g, cap, cur, rfl, _, hg, hnc, _, hcs, _⟩
 ·by_cases hm : m = 0
  ·subst hm
   have hn : news = [] := List.eq_nil_of_length_eq_zero (by simpa using hl)
   subst hn
   obtain ⟨v1, w1, hr1, _, _, h4⟩ := run_append_own (P := Try.prog) w w.heap.size T ty E i z i.size i.bytes ht hi hz rfl rfl hzs hsz _ 0 [] (World.ownsRow_nil _ _ _ _) ad 0 c [] (by simp) (by simp) (by simp) (by unfold maxLen; omega) (by omega) (Nat.le_refl _)
   rw [hr1] at hr
   cases hr
   rw [h4.2 ⟨rfl, rfl⟩]
   exact .inl rfl
  ·have := run_append_nil (P := Try.prog) w T ty E i z ht hi hz ad m c news hl hnews (by omega) (by omega) (by have hb := hbytes; simp only [Nat.zero_add] at hb; omega)
   rw [this] at hr
   cases hr
   exact .inr rfl
 ·by_cases hroom : n + m ≤ cap
  ·have := run_append_room (P := Try.prog) w T ty E i ht hi g n cap cur hg ad m c news hl hnews h1 hroom (by rw [hl, hcs, ← Nat.add_mul]; exact Nat.mul_le_mul_right _ hroom)
   rw [this] at hr
   cases hr
   exact .inl rfl
  ·have := run_append_grow (P := Try.prog) w T ty E i z ht hi hz ⟨g, 0, none⟩ n cap xs hown.1 (hown.cells (g := g) rfl) ad m c news hl hnews (by omega) hb63 (growslice_fits (by omega) hbytes)
   rw [this] at hr
   cases hr
   exact .inr rfl
/-- What a row owns is fixed by the memory, but for what lies beyond its length. -/
theorem ownsRow_det {w : World} {base n k : Nat} {E : TypeId} {v : Value} {a b : List Value} (h : w.ownsRow base E n v k a) (h' : w.ownsRow base E n v k b) : a = b := by
 rcases h.2 with ⟨rfl, rfl⟩ | ⟨g, cap, cur, rfl, _, hg, _, _, _, ht⟩
 ·have e1 := h.1
  have e2 := h'.1
  simp at e1 e2
  rw [e1, e2]
 ·rcases h'.2 with ⟨e, _⟩ | ⟨g', cap', cur', e, _, hg', _, _, _, ht'⟩
  ·cases e
  ·simp only [Value.slice.injEq, Option.some.injEq, Addr.mk.injEq] at e
   obtain ⟨⟨rfl, _⟩, _, _⟩ := e
   rw [hg] at hg'
   simp only [Option.some.injEq, Obj.cells.injEq] at hg'
   obtain ⟨rfl, _⟩ := hg'
   rw [← ht, ← ht']
theorem Own.push {S : Prop} {P : Nat → Prop} {E : TypeId} {n lim m : Nat} {wb w w' : World} {v v' : Value} {xs ys : List (List D)} {news : List Value} (h : Own S P E n wb lim w v xs) (hy : ∀ ds ∈ ys, ds.length = n) (hm : ys.length = m)
  (hh : HoldsL S (fun k => P k ∧ v.ownBlock ≠ some k ∧ (S → lim ≤ k)) w news ys.flatten) (hb : v'.ownBlock = v.ownBlock ∨ v'.ownBlock = some w.heap.size)
  (hg : w.grownBy w' v.ownBlock) (hown : ∀ cells, w.ownsRow wb.heap.size E n v xs.length cells → w'.ownsRow wb.heap.size E n v' (xs.length + m) (cells ++ news)) : Own S P E n wb w'.heap.size w' v' (xs ++ ys) := by
 obtain ⟨h1, h2, h3, cells, cs, fp, h4, h5, h6, h7, h8, h9⟩ := h
 obtain ⟨hl, gp, g1, g2, g3⟩ := hh
 have hlt := h4.lt
 have hbl : ∀ k, v'.ownBlock = some k → k < w'.heap.size := fun k hk => ((hown cells h4).lt k hk).2
 have hk' : ∀ k, k < w.heap.size → v.ownBlock ≠ some k → v'.ownBlock ≠ some k := by
  intro k hk hne e
  rcases hb with hb | hb
  ·rw [hb] at e; exact hne e
  ·rw [hb] at e; simp at e; omega
 have hsame : ∀ Q : Nat → Prop, (∀ k, Q k → v.ownBlock ≠ some k) → SameOn Q w w' := fun Q hQ => ⟨hg.size, fun b hq hb => hg.block b hb (fun e => hQ b hq e.symm)⟩
 have hcl : cells.length = xs.length * n := h4.1
 refine ⟨h1.grown hg h1.size (fun k hk => (hlt k hk).1), Nat.le_refl _, hbl, cells ++ news, fun i j => if i < xs.length then cs i j else news.getD ((i - xs.length) * n + j) (.bool true),
  fun i j k => if i < xs.length then fp i j k else gp ((i - xs.length) * n + j) k ∧ j < n ∧ k < w.heap.size, by rw [List.length_append, hm]; exact hown cells h4, fun i ds hi => ?_, fun i j hi hj => ?_, fun i j ds d hi hj => ?_, fun i j k hf => ?_, fun s i j i' j' k hf hf' => ?_⟩
 ·rw [List.getElem?_append] at hi
  split at hi
  ·exact h5 i ds hi
  ·exact hy ds (List.mem_of_getElem? hi)
 ·by_cases hix : i < xs.length
  ·simp only [if_pos hix]
   rw [List.getElem?_append_left (by rw [hcl]; exact Nat.lt_of_lt_of_le (Nat.lt_of_lt_of_le (Nat.add_lt_add_left hj _) (by rw [← Nat.succ_mul]; exact Nat.le_refl _)) (Nat.mul_le_mul_right n hix))]
   exact h6 i j hix hj
  ·simp only [if_neg hix]
   have e : i * n + j = cells.length + ((i - xs.length) * n + j) := by
    rw [hcl, ← Nat.add_assoc, ← Nat.add_mul]; congr 2; omega
   rw [e, List.getElem?_append_right (by omega), Nat.add_sub_cancel_left]
   have hlt : (i - xs.length) * n + j < news.length := by
    rw [hl, flatten_len hy]
    rw [List.length_append] at hi
    exact Nat.lt_of_lt_of_le (Nat.lt_of_lt_of_le (Nat.add_lt_add_left hj _) (by rw [← Nat.succ_mul]; exact Nat.le_refl _)) (Nat.mul_le_mul_right n (show i - xs.length + 1 ≤ ys.length by omega))
   simp [List.getD, hlt]
 ·by_cases hix : i < xs.length
  ·simp only [if_pos hix]
   rw [List.getElem?_append_left hix] at hi
   exact (h7 i j ds d hi hj).same (hsame _ fun k hf => (h8 i j k hf).2.2)
  ·simp only [if_neg hix]
   rw [List.getElem?_append_right (by omega)] at hi
   have hjn : j < n := by rw [← hy ds (List.mem_of_getElem? hi)]; exact lt_of_some hj
   have hf := flatten_get hy hi hjn
   rw [hj] at hf
   have hlt : (i - xs.length) * n + j < news.length := by rw [hl]; exact lt_of_some hf
   have := g3 _ _ _ (List.getElem?_eq_getElem hlt) hf
   rw [show news.getD ((i - xs.length) * n + j) (.bool true) = news[(i - xs.length) * n + j] by simp [List.getD, hlt]]
   exact (this.wide (P' := fun k => gp ((i - xs.length) * n + j) k ∧ j < n ∧ k < w.heap.size) (fun b hb p => ⟨p, hjn, hb⟩)).same (hsame _ fun k hf => (g1 _ k hf.1).2.1)
 ·by_cases hix : i < xs.length
  ·simp only [if_pos hix] at hf
   obtain ⟨a, b, c⟩ := h8 i j k hf
   exact ⟨a, by have := hg.size; omega, hk' k (by omega) c⟩
  ·simp only [if_neg hix] at hf
   obtain ⟨a, b, c⟩ := g1 _ k hf.1
   exact ⟨a, by have := hg.size; omega, hk' k hf.2.2 b⟩
 ·by_cases hix : i < xs.length <;> by_cases hix' : i' < xs.length
  ·simp only [if_pos hix] at hf
   simp only [if_pos hix'] at hf'
   exact h9 s i j i' j' k hf hf'
  ·simp only [if_pos hix] at hf
   simp only [if_neg hix'] at hf'
   have a := (h8 i j k hf).2.1
   have b := (g1 _ k hf'.1).2.2 s
   omega
  ·simp only [if_neg hix] at hf
   simp only [if_pos hix'] at hf'
   have a := (h8 i' j' k hf').2.1
   have b := (g1 _ k hf.1).2.2 s
   omega
  ·simp only [if_neg hix] at hf
   simp only [if_neg hix'] at hf'
   have e := g2 s _ _ k hf.1 hf'.1
   have h1 := hf.2.1
   have h2 := hf'.2.1
   have hd : ∀ a b : Nat, b < n → (a * n + b) / n = a ∧ (a * n + b) % n = b := fun a b hb => by
    have hn : 0 < n := by omega
    rw [Nat.mul_comm]
    exact ⟨by rw [Nat.mul_add_div hn, Nat.div_eq_of_lt hb, Nat.add_zero], by rw [Nat.mul_add_mod, Nat.mod_eq_of_lt hb]⟩
   have d1 := hd (i - xs.length) j h1
   have d2 := hd (i' - xs.length) j' h2
   rw [e] at d1
   omega
/-- append to a row that the call is building. -/
theorem app_own {ops : Array Oper} {rest : List Oper} {o : Oper} {a : Act} {Q : Exit → Act → World → Prop} {w : World} (hgd : o.guard = none) (s x : Operand) (T E : TypeId) (i : TypeInfo) (z : Value) (n bytes : Nat)
  (ho : o.op = .call { callee := .builtin .append, args := #[s, x], argTypes := #[T, T] }) (ht : Try.prog.underlying T = some (.slice E)) (hi : Try.prog.info? E = some i) (hz : i.zero = some z) (hsize : i.size = n) (hby : i.bytes = bytes) (hzs : z.cells.size = n) (hsz : 0 < n)
  (S : Prop) (P : Nat → Prop) (wb : World) (lim : Nat) (v : Value) (xs ys : List (List D)) (k m c : Nat) (hs : a.eval s = v) (h : Own S P E n wb lim w v xs) (hk : xs.length = k) (ad : Addr) (hx : a.eval x = .slice (some ad) m c) (news : List Value)
  (hnews : ∀ j u, news[j]? = some u → w.cell? (ad.add j) = some u) (hy : ∀ ds ∈ ys, ds.length = n) (hm : ys.length = m) (hh : HoldsL S (fun k => P k ∧ v.ownBlock ≠ some k ∧ (S → lim ≤ k)) w news ys.flatten) (h63 : k + m ≤ maxLen) (hbytes : (k + m) * bytes ≤ 140737488355328)
  (K : ∀ ao cv w', Own S P E n wb w'.heap.size w' (.slice ao (k + m) cv) (xs ++ ys) → w.grownBy w' v.ownBlock → wpList Try.prog ops Q rest (a.put o.dst (.slice ao (k + m) cv)) w') : wpList Try.prog ops Q (o :: rest) a w := by
 subst hk
 have hl : news.length = m * n := by rw [hh.1, flatten_len hy, hm]
 have h1 : ∀ u ∈ news, u.oneCell' = true := by
  intro u hu
  obtain ⟨j, hj, rfl⟩ := List.getElem_of_mem hu
  obtain ⟨hl', gp, _, _, g3⟩ := hh
  exact (g3 j _ _ (List.getElem?_eq_getElem hj) (List.getElem?_eq_getElem (by omega))).one
 obtain ⟨cells, cs, fp, h4, _⟩ := h.ex
 obtain ⟨v', w', hr, hown, hg, _⟩ := run_append_own (P := Try.prog) w wb.heap.size T o.type E i z n bytes ht hi hz hsize hby hzs hsz v xs.length cells h4 ad m c news hl hnews h1 h63 hbytes h.bel.size
 have hb := app_block ht hi hz hsize hby hzs hsz h4 hl hnews h1 h63 hbytes hr
 refine wpList_plain hgd fun K' hK => ?_
 unfold Oper.wp execOp
 simp only [ho, resolve, invoke, builtin, Sem.run_bind, Sem.run_pure, Result.andThen_ok, List.map_toArray, List.map_cons, List.map_nil, hs, hx, hr]
 obtain ⟨ao, cv, rfl⟩ := owns_slice hown
 refine hK _ _ (K ao cv w' (h.push hy hm hh hb hg fun cells' hc => ?_) hg)
 have : cells' = cells := ownsRow_det hc h4
 rw [this]; exact hown
end Go.Proofs.Ytiblcpkejhiehaa
namespace Go.Proofs.Ytiblcpkejhiehaa
open Go.RowKit Go.PlainAid
theorem Own.made {S : Prop} {P : Nat → Prop} {E : TypeId} {n : Nat} {wb w : World} (hb : Below wb.heap.size wb w) : Own S P E n wb (w.heap.size + 1) (w.alloc (.cells #[] E)) (.slice (some ⟨w.heap.size, 0, none⟩) 0 0) [] := by
 refine ⟨hb.alloc hb.size _, by simp, fun k hk => ?_, [], fun _ _ => .bool true, fun _ _ _ => False, World.ownsRow_made w #[] 0 hb.size (Nat.zero_le _) (by simp), fun i ds h => by simp at h, fun i j h => by simp at h, fun i j ds d h => by simp at h, fun _ _ _ h => h.elim, fun _ _ _ _ _ _ h => h.elim⟩
 simp [Value.ownBlock] at hk; omega
/-- The cells of a slice's elements. -/
theorem Has.news {w : World} {ad : Addr} {m c n : Nat} {ys : List (List D)} (h : Has w (.slice (some ad) m c) (.row n ys)) :
  m = ys.length ∧ (∀ ds ∈ ys, ds.length = n) ∧ ∃ news, (∀ j u, news[j]? = some u → w.cell? (ad.add j) = some u) ∧ HasL w news ys.flatten := by
 by_cases h0 : ys.length = 0
 ·obtain rfl := List.length_eq_zero_iff.1 h0
  obtain ⟨a, cap, e⟩ := Holds.len h
  simp only [Value.slice.injEq] at e
  exact ⟨e.2.1, by simp, [], by simp, hasL_nil _ _ _⟩
 ·cases h with
  | nil => simp at h0
  | row _ _ b off cap n xs cs fp h0 hb hc hP hn hcell hrec hfp hb2 hd =>
   have hy : ∀ ds ∈ ys, ds.length = n := fun ds hds => by obtain ⟨i, hi⟩ := List.mem_iff_getElem?.1 hds; exact hn i ds hi
   have hl := flatten_len hy
   refine ⟨rfl, hy, (List.range (ys.length * n)).map (fun t => cs (t / n) (t % n)), fun j u hu => ?_, by simp [hl], fun _ => All, fun _ _ _ => trivial, fun s => s.elim, fun j c d hc hd => ?_⟩
   ·have hj := lt_of_some hu
    simp at hj
    rw [List.getElem?_map, List.getElem?_range hj] at hu
    simp at hu
    subst hu
    have hn0 : 0 < n := by rcases Nat.eq_zero_or_pos n with rfl | h; simp at hj; exact h
    have := hcell (j / n) (j % n) (Nat.div_lt_of_lt_mul (by rw [Nat.mul_comm]; exact hj)) (Nat.mod_lt _ hn0)
    have e : off + j / n * n + j % n = off + j := by rw [Nat.add_assoc, Nat.mul_comm, Nat.div_add_mod]
    rw [e] at this
    rw [Go.WideShapes.add_plain]; exact this
   ·have hj := lt_of_some hd
    rw [hl] at hj
    rw [List.getElem?_map, List.getElem?_range hj] at hc
    simp at hc
    subst hc
    have hn0 : 0 < n := by rcases Nat.eq_zero_or_pos n with rfl | h; simp at hj; exact h
    obtain ⟨ds, hds⟩ := some_of_lt (l := ys) (i := j / n) (Nat.div_lt_of_lt_mul (by rw [Nat.mul_comm]; exact hj))
    have hf := flatten_get hy hds (Nat.mod_lt j hn0)
    rw [Nat.mul_comm, Nat.div_add_mod, hd] at hf
    exact (hrec _ _ ds d hds hf.symm).weak
theorem Has.none {w : World} {v : Value} {m c n : Nat} {ys : List (List D)} (h : Has w v (.row n ys)) (hv : v = .slice none m c) : ys = [] ∧ m = 0 := by
 cases h with
 | nil => simp at hv; exact ⟨rfl, hv.2.1.symm⟩
 | row => simp at hv
def Flat (ds : List D) : Prop := ∀ d ∈ ds, ∃ v, d = .atom v
theorem HasL.flat {S : Prop} {P : Nat → Prop} {w : World} {cs : List Value} {ds : List D} (h : HasL w cs ds) (hf : Flat ds) : HoldsL S P w cs ds := by
 obtain ⟨h1, fp, h2, h3, h4⟩ := h
 refine ⟨h1, fun _ _ => False, fun _ _ h => h.elim, fun _ _ _ _ h => h.elim, fun j c d hc hd => ?_⟩
 have hh := h4 j c d hc hd
 obtain ⟨v, rfl⟩ := hf d (List.mem_of_getElem? hd)
 have e := hh.val
 subst e
 exact .atom _ _ _ hh.one
theorem flat_ints (xs : List Int) : Flat (xs.map fun a => [dI a]).flatten := by
 intro d hd
 rw [List.mem_flatten] at hd
 obtain ⟨l, hl, hd⟩ := hd
 obtain ⟨p, _, rfl⟩ := List.mem_map.1 hl
 simp at hd
 exact ⟨_, hd⟩
theorem flat_links (L : Lks) : Flat (L.map fun p => [dI p.1, dI p.2]).flatten := by
 intro d hd
 rw [List.mem_flatten] at hd
 obtain ⟨l, hl, hd⟩ := hd
 obtain ⟨p, _, rfl⟩ := List.mem_map.1 hl
 simp at hd
 rcases hd with rfl | rfl <;> exact ⟨_, rfl⟩
/-- append(s, xs...), of a row of plain things. -/
theorem app_rows {ops : Array Oper} {rest : List Oper} {o : Oper} {a : Act} {Q : Exit → Act → World → Prop} {w : World} (hgd : o.guard = none) (s x : Operand) (T E : TypeId) (i : TypeInfo) (z : Value) (n bytes : Nat)
  (ho : o.op = .call { callee := .builtin .append, args := #[s, x], argTypes := #[T, T] }) (ht : Try.prog.underlying T = some (.slice E)) (hi : Try.prog.info? E = some i) (hz : i.zero = some z) (hsize : i.size = n) (hby : i.bytes = bytes) (hzs : z.cells.size = n) (hsz : 0 < n)
  (S : Prop) (P : Nat → Prop) (wb : World) (lim : Nat) (v : Value) (xs ys : List (List D)) (k m c l : Nat) (hs : a.eval s = v) (h : Own S P E n wb lim w v xs) (hk : xs.length = k) (ad : Option Addr) (hx : a.eval x = .slice ad m c) (hy : Has w (.slice ad m c) (.row n ys)) (hf : Flat ys.flatten) (hl : k + m = l) (h63 : l ≤ maxLen) (hbytes : l * bytes ≤ 140737488355328)
  (K : ∀ ao cv w', Own S P E n wb w'.heap.size w' (.slice ao l cv) (xs ++ ys) → w.grownBy w' v.ownBlock → wpList Try.prog ops Q rest (a.put o.dst (.slice ao l cv)) w') : wpList Try.prog ops Q (o :: rest) a w := by
 subst hl
 cases ad with
 | some ad =>
  obtain ⟨hm, hn, news, hnews, hh⟩ := Has.news hy
  exact app_own hgd s x T E i z n bytes ho ht hi hz hsize hby hzs hsz S P wb lim v xs ys k m c hs h hk ad hx news hnews hn hm.symm (hh.flat hf) h63 hbytes K
 | none =>
  obtain ⟨rfl, rfl⟩ := Has.none hy rfl
  obtain ⟨cells, _, _, h4, _⟩ := h.ex
  have hr : (Builtin.append_ #[T, T] o.type #[v, .slice none 0 c]).run Try.prog w = .ok v w := by
   rcases h4.2 with ⟨rfl, hx0⟩ | ⟨g, cap, cur, rfl, _, _, hnc, _⟩
   ·simp [Builtin.append_, run_underlying ht, sizeOf, typeInfo, hi, Builtin.lenOf, Builtin.firstCells]
   ·simp [Builtin.append_, run_underlying ht, sizeOf, typeInfo, hi, Builtin.lenOf, Builtin.firstCells, hnc, storeCells]
  obtain ⟨ao, cv, rfl⟩ := owns_slice h4
  subst hk
  refine wpList_plain hgd fun K' hK => ?_
  unfold Oper.wp execOp
  simp only [ho, resolve, invoke, builtin, Sem.run_bind, Sem.run_pure, Result.andThen_ok, List.map_toArray, List.map_cons, List.map_nil, hs, hx, hr]
  exact hK _ _ (K ao cv w (by rw [List.append_nil]; exact h.lift h.lim_le (Nat.le_refl _)) ⟨rfl, rfl, rfl, Nat.le_refl _, fun _ _ _ => rfl⟩)
theorem SameOn.refl (P : Nat → Prop) (w : World) : SameOn P w w := ⟨Nat.le_refl _, fun _ _ _ => rfl⟩
theorem SameOn.set {P : Nat → Prop} {w w' : World} (h : SameOn P w w') (a : Addr) (v : Value) (hp : ¬ P a.block) : SameOn P w (w'.setCell a v) :=
 ⟨by simpa using h.1, fun b p hb => by rw [Below.heap_setCell _ _ _ _ (by intro e; exact hp (e ▸ p))]; exact h.2 b p hb⟩
theorem SameOn.drewN {P : Nat → Prop} {w w' : World} (h : SameOn P w w') (n : Nat) : SameOn P w (w'.drewN n) := h
theorem SameOn.drew {P : Nat → Prop} {w w' : World} (h : SameOn P w w') : SameOn P w w'.drew := h
end Go.Proofs.Ytiblcpkejhiehaa
namespace Go.Proofs.Ytiblcpkejhiehaa
open Go.RowKit Go.PlainAid
theorem run_app {w : World} (T E ty : TypeId) (i : TypeInfo) (z : Value) (n bytes : Nat) (ht : Try.prog.underlying T = some (.slice E)) (hi : Try.prog.info? E = some i) (hz : i.zero = some z) (hsize : i.size = n) (hby : i.bytes = bytes) (hzs : z.cells.size = n) (hsz : 0 < n)
  (S : Prop) (P : Nat → Prop) (wb : World) (lim : Nat) (v : Value) (xs ys : List (List D)) (k m c l : Nat) (h : Own S P E n wb lim w v xs) (hk : xs.length = k) (ad : Option Addr) (news : List Value)
  (hnews : ∀ a, ad = some a → ∀ j u, news[j]? = some u → w.cell? (a.add j) = some u) (hnone : ad = none → m = 0) (hy : ∀ ds ∈ ys, ds.length = n) (hm : ys.length = m) (hh : HoldsL S (fun k => P k ∧ v.ownBlock ≠ some k ∧ (S → lim ≤ k)) w news ys.flatten) (hl : k + m = l) (h63 : l ≤ maxLen) (hbytes : l * bytes ≤ 140737488355328) :
  ∃ ao cv w', (Builtin.append_ #[T, T] ty #[v, .slice ad m c]).run Try.prog w = .ok (.slice ao l cv) w' ∧ Own S P E n wb w'.heap.size w' (.slice ao l cv) (xs ++ ys) ∧ w.grownBy w' v.ownBlock ∧ ((Value.slice ao l cv).ownBlock = v.ownBlock ∨ (Value.slice ao l cv).ownBlock = some w.heap.size) := by
 subst hl hk
 cases ad with
 | some ad =>
  have hll : news.length = m * n := by rw [hh.1, flatten_len hy, hm]
  have h1 : ∀ u ∈ news, u.oneCell' = true := by
   intro u hu
   obtain ⟨j, hj, rfl⟩ := List.getElem_of_mem hu
   obtain ⟨hl', gp, _, _, g3⟩ := hh
   exact (g3 j _ _ (List.getElem?_eq_getElem hj) (List.getElem?_eq_getElem (by omega))).one
  obtain ⟨cells, cs, fp, h4, _⟩ := h.ex
  have hnews' := hnews ad rfl
  obtain ⟨v', w', hr, hown, hg, _⟩ := run_append_own (P := Try.prog) w wb.heap.size T ty E i z n bytes ht hi hz hsize hby hzs hsz v xs.length cells h4 ad m c news hll hnews' h1 h63 hbytes h.bel.size
  have hb := app_block ht hi hz hsize hby hzs hsz h4 hll hnews' h1 h63 hbytes hr
  obtain ⟨ao, cv, rfl⟩ := owns_slice hown
  refine ⟨ao, cv, w', hr, h.push hy hm hh hb hg fun cells' hc => ?_, hg, hb⟩
  have : cells' = cells := ownsRow_det hc h4
  rw [this]; exact hown
 | none =>
  have hm0 := hnone rfl
  subst hm0
  have hy0 : ys = [] := List.eq_nil_of_length_eq_zero hm
  subst hy0
  obtain ⟨cells, _, _, h4, _⟩ := h.ex
  have hr : (Builtin.append_ #[T, T] ty #[v, .slice none 0 c]).run Try.prog w = .ok v w := by
   rcases h4.2 with ⟨rfl, hx0⟩ | ⟨g, cap, cur, rfl, _, _, hnc, _⟩
   ·simp [Builtin.append_, run_underlying ht, sizeOf, typeInfo, hi, Builtin.lenOf, Builtin.firstCells]
   ·simp [Builtin.append_, run_underlying ht, sizeOf, typeInfo, hi, Builtin.lenOf, Builtin.firstCells, hnc, storeCells]
  obtain ⟨ao, cv, rfl⟩ := owns_slice h4
  exact ⟨ao, cv, w, hr, by rw [List.append_nil]; exact h.lift h.lim_le (Nat.le_refl _), ⟨rfl, rfl, rfl, Nat.le_refl _, fun _ _ _ => rfl⟩, .inl rfl⟩
/-- In a list of operations. -/
theorem appL {ops : Array Oper} {rest : List Oper} {o : Oper} {a : Act} {Q : Exit → Act → World → Prop} {w : World} (hgd : o.guard = none) (s x : Operand) (T E : TypeId) (i : TypeInfo) (z : Value) (n bytes : Nat)
  (ho : o.op = .call { callee := .builtin .append, args := #[s, x], argTypes := #[T, T] }) (ht : Try.prog.underlying T = some (.slice E)) (hi : Try.prog.info? E = some i) (hz : i.zero = some z) (hsize : i.size = n) (hby : i.bytes = bytes) (hzs : z.cells.size = n) (hsz : 0 < n)
  (S : Prop) (P : Nat → Prop) (wb : World) (lim : Nat) (v : Value) (xs ys : List (List D)) (k m c l : Nat) (hs : a.eval s = v) (h : Own S P E n wb lim w v xs) (hk : xs.length = k) (ad : Option Addr) (hx : a.eval x = .slice ad m c) (news : List Value)
  (hnews : ∀ a, ad = some a → ∀ j u, news[j]? = some u → w.cell? (a.add j) = some u) (hnone : ad = none → m = 0) (hy : ∀ ds ∈ ys, ds.length = n) (hm : ys.length = m) (hh : HoldsL S (fun k => P k ∧ v.ownBlock ≠ some k ∧ (S → lim ≤ k)) w news ys.flatten) (hl : k + m = l) (h63 : l ≤ maxLen) (hbytes : l * bytes ≤ 140737488355328)
  (K : ∀ ao cv w', Own S P E n wb w'.heap.size w' (.slice ao l cv) (xs ++ ys) → w.grownBy w' v.ownBlock → ((Value.slice ao l cv).ownBlock = v.ownBlock ∨ (Value.slice ao l cv).ownBlock = some w.heap.size) → wpList Try.prog ops Q rest (a.put o.dst (.slice ao l cv)) w') : wpList Try.prog ops Q (o :: rest) a w := by
 obtain ⟨ao, cv, w', hr, h1, h2, h3⟩ := run_app T E o.type i z n bytes ht hi hz hsize hby hzs hsz S P wb lim v xs ys k m c l h hk ad news hnews hnone hy hm hh hl h63 hbytes
 refine wpList_plain hgd fun K' hK => ?_
 unfold Oper.wp execOp
 simp only [ho, resolve, invoke, builtin, Sem.run_bind, Sem.run_pure, Result.andThen_ok, List.map_toArray, List.map_cons, List.map_nil, hs, hx, hr]
 exact hK _ _ (K ao cv w' h1 h2 h3)
/-- At a step of a drawn region. -/
theorem appS {ops : Array Oper} {o : Oper} {a : Act} {K : Act → World → Prop} {Q : Exit → Act → World → Prop} {F : Prop} {w : World} (hgd : o.guard = none) (s x : Operand) (T E : TypeId) (i : TypeInfo) (z : Value) (n bytes : Nat)
  (ho : o.op = .call { callee := .builtin .append, args := #[s, x], argTypes := #[T, T] }) (ht : Try.prog.underlying T = some (.slice E)) (hi : Try.prog.info? E = some i) (hz : i.zero = some z) (hsize : i.size = n) (hby : i.bytes = bytes) (hzs : z.cells.size = n) (hsz : 0 < n)
  (S : Prop) (P : Nat → Prop) (wb : World) (lim : Nat) (v : Value) (xs ys : List (List D)) (k m c l : Nat) (hs : a.eval s = v) (h : Own S P E n wb lim w v xs) (hk : xs.length = k) (ad : Option Addr) (hx : a.eval x = .slice ad m c) (news : List Value)
  (hnews : ∀ a, ad = some a → ∀ j u, news[j]? = some u → w.cell? (a.add j) = some u) (hnone : ad = none → m = 0) (hy : ∀ ds ∈ ys, ds.length = n) (hm : ys.length = m) (hh : HoldsL S (fun k => P k ∧ v.ownBlock ≠ some k ∧ (S → lim ≤ k)) w news ys.flatten) (hl : k + m = l) (h63 : l ≤ maxLen) (hbytes : l * bytes ≤ 140737488355328)
  (H : ∀ ao cv w', Own S P E n wb w'.heap.size w' (.slice ao l cv) (xs ++ ys) → w.grownBy w' v.ownBlock → ((Value.slice ao l cv).ownBlock = v.ownBlock ∨ (Value.slice ao l cv).ownBlock = some w.heap.size) → K (a.put o.dst (.slice ao l cv)) w') :
  if Region.wanted o (yielded ops a.tmps) = true then Oper.wp Try.prog o a w K Q else F := by
 have hw : Region.wanted o (yielded ops a.tmps) = true := by simp [Region.wanted, hgd]
 rw [if_pos hw]
 obtain ⟨ao, cv, w', hr, h1, h2, h3⟩ := run_app T E o.type i z n bytes ht hi hz hsize hby hzs hsz S P wb lim v xs ys k m c l h hk ad news hnews hnone hy hm hh hl h63 hbytes
 unfold Oper.wp execOp
 simp only [ho, resolve, invoke, builtin, Sem.run_bind, Sem.run_pure, Result.andThen_ok, List.map_toArray, List.map_cons, List.map_nil, hs, hx, hr]
 exact H ao cv w' h1 h2 h3
/-- The front of a row. -/
theorem Holds.take {S : Prop} {P : Nat → Prop} {w : World} {a : Option Addr} {len cap n m : Nat} {xs : List (List D)} (h : Holds S P w (.slice a len cap) (.row n xs)) (hm : m ≤ xs.length) : Holds S P w (.slice a m cap) (.row n (xs.take m)) := by
 by_cases h0 : m = 0
 ·subst h0
  rw [List.take_zero]
  refine .nil _ _ _ _ _ (fun s => ?_)
  cases h with
  | nil _ _ _ _ _ hop => exact hop s
  | row _ _ b off cap n xs cs fp h1 hb hc hP hn hcell hrec hfp hb2 hd hop =>
   obtain ⟨rfl, h2⟩ := hop s
   exact .inr ⟨b, rfl, hP, hb, h2⟩
 ·cases h with
  | nil => simp at hm; omega
  | row _ _ b off cap n xs cs fp h1 hb hc hP hn hcell hrec hfp hb2 hd hop =>
   have e : m = (xs.take m).length := by simp; omega
   have ht : ∀ (i : Nat) (ds : List D), (xs.take m)[i]? = some ds → xs[i]? = some ds := fun i ds h => by
    rw [List.getElem?_take] at h
    split at h
    ·exact h
    ·cases h
   have := Holds.row P w b off cap n (xs.take m) cs fp (by omega) hb (by omega) hP (fun i ds h => hn i ds (ht i ds h)) (fun i j hi hj => hcell i j (by omega) hj) (fun i j ds d h1 h2 => hrec i j ds d (ht i ds h1) h2) hfp hb2 hd hop
   rw [← e] at this
   exact this
/-- What is appended from a slice of plain things. -/
theorem newsOf {w : World} {ad : Option Addr} {m c n : Nat} {ys : List (List D)} (h : Has w (.slice ad m c) (.row n ys)) (hn : ∀ ds ∈ ys, ds.length = n) (hf : Flat ys.flatten) :
  ys.length = m ∧ (ad = none → m = 0) ∧ ∃ news, (∀ a, ad = some a → ∀ j u, news[j]? = some u → w.cell? (a.add j) = some u) ∧ ∀ S P, HoldsL S P w news ys.flatten := by
 cases ad with
 | some ad =>
  obtain ⟨hm, _, news, h1, h2⟩ := Has.news h
  exact ⟨hm.symm, fun e => (by cases e), news, fun a e => (by cases e; exact h1), fun S P => h2.flat hf⟩
 | none =>
  obtain ⟨rfl, rfl⟩ := Has.none h rfl
  exact ⟨rfl, fun _ => rfl, [], fun a e => (by cases e), fun S P => hasL_nil S P w⟩
theorem grown_at {w w' : World} {row : Option Nat} (hg : w.grownBy w' row) {b i : Nat} {v : Value} (hne : row ≠ some b) (h : w.cell? ⟨b, i, none⟩ = some v) : w'.cell? ⟨b, i, none⟩ = some v :=
 (World.cell?_of_block (hg.block b (World.block_lt_of_cell? w _ h) (fun e => hne e.symm))).trans h
theorem grown_frozen {w w' : World} {row : Option Nat} (hg : w.grownBy w' row) {b i : Nat} {r : Bool} (hne : row ≠ some b) (hb : b < w.heap.size) (h : w.frozen? ⟨b, i, none⟩ = r) : w'.frozen? ⟨b, i, none⟩ = r :=
 (World.frozen?_of_block (w := w) (hg.block b hb (fun e => hne e.symm))).trans h
/-- A store in a block that is no part of the row. -/
theorem Own.set {S : Prop} {P : Nat → Prop} {E : TypeId} {n lim : Nat} {wb w : World} {v : Value} {xs : List (List D)} (h : Own S P E n wb lim w v xs) (a : Addr) (u : Value) (hP : ¬ P a.block) (hb : wb.heap.size ≤ a.block) (hv : v.ownBlock ≠ some a.block) : Own S P E n wb lim (w.setCell a u) v xs := by
 obtain ⟨h1, h2, h3, cells, cs, fp, h4, h5, h6, h7, h8, h9⟩ := h
 refine ⟨h1.setCell hb _, by rw [World.size_setCell]; exact h2, h3, cells, cs, fp, ?_, h5, h6, fun i j ds d e1 e2 => (h7 i j ds d e1 e2).same ((SameOn.refl _ _).set a u (fun hf => hP (h8 i j _ hf).1)), h8, h9⟩
 exact ownsRow_setCell_other h4 hv _
end Go.Proofs.Ytiblcpkejhiehaa
namespace Go.Proofs.Ytiblcpkejhiehaa
open Go.RowKit Go.PlainAid
/-- A row under way: what it holds and the row itself lie in blocks of P. -/
structure Bld (S : Prop) (P : Nat → Prop) (E : TypeId) (n : Nat) (wb : World) (lim : Nat) (w : World) (v : Value) (xs : List (List D)) : Prop where
 own : Own S P E n wb lim w v xs
 inP : ∀ k, v.ownBlock = some k → P k
theorem Bld.later {S : Prop} {P : Nat → Prop} {E : TypeId} {n lim : Nat} {wb w w' : World} {v : Value} {xs : List (List D)} (h : Bld S P E n wb lim w v xs) (hb : Below w.heap.size w w') : Bld S P E n wb lim w' v xs := ⟨h.own.later hb, h.inP⟩
theorem Bld.set {S : Prop} {P : Nat → Prop} {E : TypeId} {n lim : Nat} {wb w : World} {v : Value} {xs : List (List D)} (h : Bld S P E n wb lim w v xs) (a : Addr) (u : Value) (hP : ¬ P a.block) (hb : wb.heap.size ≤ a.block) : Bld S P E n wb lim (w.setCell a u) v xs :=
 ⟨h.own.set a u hP hb (fun e => hP (h.inP _ e)), h.inP⟩
theorem Bld.holds {S : Prop} {P : Nat → Prop} {E : TypeId} {n lim : Nat} {wb w : World} {v : Value} {xs : List (List D)} (h : Bld S P E n wb lim w v xs) : Holds S P w v (.row n xs) := h.own.holds h.inP
theorem Bld.of {S : Prop} {P : Nat → Prop} {E : TypeId} {n lim : Nat} {wb w w' : World} {v v' : Value} {xs : List (List D)} (h : Own S P E n wb lim w' v' xs) (hv : ∀ k, v.ownBlock = some k → P k) (hb : v'.ownBlock = v.ownBlock ∨ v'.ownBlock = some w.heap.size) (hP : P w.heap.size) : Bld S P E n wb lim w' v' xs :=
 ⟨h, fun k hk => by
  rcases hb with hb | hb
  ·exact hv k (by rw [← hb]; exact hk)
  ·rw [hb] at hk; cases hk; exact hP⟩
theorem capOf {S : Prop} {P : Nat → Prop} {w : World} {a : Option Addr} {len cap n : Nat} {xs : List (List D)} (h : Holds S P w (.slice a len cap) (.row n xs)) : len ≤ cap := by
 cases h with
 | nil => omega
 | row => assumption
theorem newsLater {w w' : World} {ad : Option Addr} {news : List Value} (h : ∀ a, ad = some a → ∀ j u, news[j]? = some u → w.cell? (a.add j) = some u) (hb : Below w.heap.size w w') : ∀ a, ad = some a → ∀ j u, news[j]? = some u → w'.cell? (a.add j) = some u :=
 fun a ha j u hu => (hb.cell (World.block_lt_of_cell? w _ (h a ha j u hu))).trans (h a ha j u hu)
theorem frozen_two (w : World) (c c' : Array Value) (t t' : TypeId) (i : Nat) : (((w.alloc (.cells c t)).alloc (.cells c' t')).drew).frozen? ⟨w.heap.size, i, none⟩ = false := by
 show ((w.alloc (.cells c t)).alloc (.cells c' t')).frozen? ⟨w.heap.size, i, none⟩ = false
 rw [frozen?_alloc_cells, frozen?_alloc_cells]
 simp [World.frozen?]
theorem frozen_new (w : World) (c : Array Value) (t : TypeId) (i : Nat) : (w.alloc (.cells c t)).frozen? ⟨w.heap.size, i, none⟩ = false := by
 rw [frozen?_alloc_cells]
 simp [World.frozen?]
/-- A row of plain things: no block but its own counts. -/
theorem Own.flat {S : Prop} {P P' : Nat → Prop} {E : TypeId} {n lim : Nat} {wb w : World} {v : Value} {xs : List (List D)} (h : Own S P E n wb lim w v xs) (hf : Flat xs.flatten) (hP : ∀ k, v.ownBlock = some k → P' k) : Holds S P' w v (.row n xs) := by
 obtain ⟨h1, h2, h3, cells, cs, fp, h4, h5, h6, h7, h8, h9⟩ := h
 by_cases h0 : xs.length = 0
 ·obtain ⟨a, c, rfl⟩ := owns_slice h4
  obtain rfl := List.length_eq_zero_iff.1 h0
  refine .nil _ _ _ _ _ (fun _ => ?_)
  rcases h4.2 with ⟨e, _⟩ | ⟨g, cap, cur, e, hge, hg, hle, hmx, hcz, _⟩
  ·simp at e; exact .inl e.2
  ·simp at e
   obtain ⟨rfl, rfl⟩ := e
   exact .inr ⟨g, rfl, hP g rfl, lt_of_block hg, hmx, cur, E, hg, hcz⟩
 ·have hcell := fun g => h4.cells (g := g)
  rcases h4.2 with ⟨_, e⟩ | ⟨g, cap, cur, rfl, hge, hg, hle, hmx, hcz, _⟩
  ·exact absurd e h0
  ·refine .row P' w g 0 cap n xs cs (fun _ _ _ => False) (by omega) (lt_of_block hg) hle (hP g rfl) h5 (fun i j hi hj => ?_) (fun i j ds d hi hj => ?_) (fun i j k hf => hf.elim) (fun s i j hf => hf) (fun _ _ _ _ _ _ hf => hf.elim) (fun _ => ⟨rfl, hmx, cur, E, hg, hcz⟩)
   ·have := hcell g rfl _ _ (h6 i j hi hj)
    have e : (⟨g, 0, none⟩ : Addr).add (i * n + j) = ⟨g, 0 + i * n + j, none⟩ := by unfold Addr.add; split <;> simp_all
    rw [e] at this; exact this
   ·have hh := h7 i j ds d hi hj
    have hjn : j < n := by rw [← h5 i ds hi]; exact lt_of_some hj
    have hm := flatten_get (n := n) (fun ds hds => by obtain ⟨q, hq⟩ := List.mem_iff_getElem?.1 hds; exact h5 q ds hq) hi hjn
    rw [hj] at hm
    obtain ⟨u, rfl⟩ := hf d (List.mem_of_getElem? hm)
    have e := hh.val
    rw [e]
    have h1 := hh.one
    rw [e] at h1
    exact .atom _ _ _ h1
/-- A box's field. -/
structure Fld (S : Prop) (P : Nat → Prop) (E : TypeId) (n : Nat) (wb w : World) (b o : Nat) (v : Value) (xs : List (List D)) : Prop where
 cell : w.cell? ⟨b, o, none⟩ = some v
 frz : w.frozen? ⟨b, o, none⟩ = false
 bld : Bld S P E n wb w.heap.size w v xs
 out : ¬ P b
 ge : wb.heap.size ≤ b
theorem Fld.below {S : Prop} {P : Nat → Prop} {E : TypeId} {n : Nat} {wb w w' : World} {b o : Nat} {v : Value} {xs : List (List D)} (h : Fld S P E n wb w b o v xs) (hb : Below w.heap.size w w') : Fld S P E n wb w' b o v xs :=
 ⟨(hb.cell (World.block_lt_of_cell? w _ h.cell)).trans h.cell, (hb.frozen (World.block_lt_of_cell? w _ h.cell)).trans h.frz, ⟨(h.bld.own.later hb).lift hb.size (Nat.le_refl _), h.bld.inP⟩, h.out, h.ge⟩
theorem Fld.push {S : Prop} {P : Nat → Prop} {E : TypeId} {n : Nat} {wb w w5 w6 : World} {b o : Nat} {v v' : Value} {xs ys : List (List D)} (h : Fld S P E n wb w b o v xs) (hb : Below w.heap.size w w5) (hO : Own S P E n wb w6.heap.size w6 v' ys) (hg : w5.grownBy w6 v.ownBlock)
  (hv : v'.ownBlock = v.ownBlock ∨ v'.ownBlock = some w5.heap.size) (hP : P w5.heap.size) : Fld S P E n wb (w6.setCell ⟨b, o, none⟩ v') b o v' ys ∧ w6.cell? ⟨b, o, none⟩ = some v ∧ w6.frozen? ⟨b, o, none⟩ = false ∧ Below wb.heap.size wb (w6.setCell ⟨b, o, none⟩ v') ∧
   (∀ Q : Nat → Prop, (∀ k, Q k → ¬ P k) → ¬ Q b → SameOn Q w5 (w6.setCell ⟨b, o, none⟩ v')) ∧ (∀ (c : Addr) (u : Value), w5.cell? c = some u → ¬ P c.block → c ≠ ⟨b, o, none⟩ → (w6.setCell ⟨b, o, none⟩ v').cell? c = some u) ∧ (∀ c : Addr, c.block < w5.heap.size → ¬ P c.block → (w6.setCell ⟨b, o, none⟩ v').frozen? c = w5.frozen? c) := by
 have hne : ∀ k, ¬ P k → v.ownBlock ≠ some k := fun k hk e => hk (h.bld.inP k e)
 have e1 := (h.below hb).cell
 have e2 := (h.below hb).frz
 have c6 := grown_at hg (hne b h.out) e1
 have f6 := grown_frozen hg (hne b h.out) (World.block_lt_of_cell? w5 _ e1) e2
 have hB := Bld.of hO h.bld.inP hv hP
 refine ⟨⟨World.cell?_setCell_same w6 _ _ c6, by rw [World.frozen?_setCell]; exact f6, ?_, h.out, h.ge⟩, c6, f6, hO.bel.setCell h.ge _, fun Q hQ hb' => ⟨?_, fun k hk hlt => ?_⟩, fun c u hu hP' hc => ?_, fun c hc hP' => ?_⟩
 ·have := hB.set ⟨b, o, none⟩ v' h.out h.ge
  rw [World.size_setCell]
  exact this
 ·rw [World.size_setCell]; exact hg.size
 ·rw [Below.heap_setCell _ _ _ _ (by intro e; subst e; exact hb' hk)]
  exact hg.block k hlt (fun e => hne k (hQ k hk) e.symm)
 ·rw [World.cell?_setCell_other w6 _ _ _ (fun e => hc e.symm)]
  exact (World.cell?_of_block (hg.block c.block (World.block_lt_of_cell? w5 _ hu) (fun e => hne _ hP' e.symm))).trans hu
 ·rw [World.frozen?_setCell]
  exact World.frozen?_of_block (w := w5) (hg.block c.block hc (fun e => hne _ hP' e.symm))
end Go.Proofs.Ytiblcpkejhiehaa

namespace Go.Proofs.Ytiblcpkejhiehaa
open Go.RowKit Go.PlainAid
/-- Where no two parts lie in one block, a row's cell may be written, and all else stays. -/
theorem Holds.update {P Q : Nat → Prop} {w : World} {b off len cap n i j : Nat} {xs : List (List D)} {ds : List D} (h : Holds True P w (.slice (some ⟨b, off, none⟩) len cap) (.row n xs)) (hi : xs[i]? = some ds) (hj : j < n) (v' : Value) (d' : D) (hv : Holds False Q w v' d') (hQ : ¬ Q b) :
  Has (w.setCell ⟨b, off + i * n + j, none⟩ v') (.slice (some ⟨b, off, none⟩) len cap) (.row n (xs.set i (ds.set j d'))) := by
 cases h with
 | nil => simp at hi
 | row _ _ _ _ _ _ _ cs fp h0 hb hc hP hn hcell hrec hfp hb2 hd =>
  have hlen : (xs.set i (ds.set j d')).length = xs.length := by simp
  have hil := lt_of_some hi
  have hget : ∀ (a : Nat) (e : List D), (xs.set i (ds.set j d'))[a]? = some e → (a = i ∧ e = ds.set j d') ∨ (a ≠ i ∧ xs[a]? = some e) := fun a e he => by
   rw [List.getElem?_set] at he
   split at he
   ·next h => subst h; (try rw [if_pos hil] at he); cases he; exact .inl ⟨rfl, rfl⟩
   ·next h => exact .inr ⟨fun e => h e.symm, he⟩
  have hdl := hn i ds hi
  have heq : ∀ a c : Nat, c < n → off + a * n + c = off + i * n + j → a = i ∧ c = j := fun a c hc' e => by
   have e : a * n + c = i * n + j := by omega
   have h1 : (a * n + c) / n = a ∧ (a * n + c) % n = c := by
    have hn0 : 0 < n := by omega
    rw [Nat.mul_comm]
    exact ⟨by rw [Nat.mul_add_div hn0, Nat.div_eq_of_lt hc', Nat.add_zero], by rw [Nat.mul_add_mod, Nat.mod_eq_of_lt hc']⟩
   have h2 : (i * n + j) / n = i ∧ (i * n + j) % n = j := by
    have hn0 : 0 < n := by omega
    rw [Nat.mul_comm]
    exact ⟨by rw [Nat.mul_add_div hn0, Nat.div_eq_of_lt hj, Nat.add_zero], by rw [Nat.mul_add_mod, Nat.mod_eq_of_lt hj]⟩
   rw [e] at h1
   exact ⟨h1.1.symm.trans h2.1 , h1.2.symm.trans h2.2⟩
  have hs : ∀ R : Nat → Prop, ¬ R b → SameOn R w (w.setCell ⟨b, off + i * n + j, none⟩ v') := fun R hR => (SameOn.refl _ _).set _ _ hR
  have res := Holds.row (S := False) All (w.setCell ⟨b, off + i * n + j, none⟩ v') b off cap n (xs.set i (ds.set j d')) (fun a c => if a = i ∧ c = j then v' else cs a c) (fun _ _ => All) (by rw [hlen]; exact h0) (by rw [World.size_setCell]; exact hb) (by rw [hlen]; exact hc) trivial
   (fun a e he => by
    rcases hget a e he with ⟨_, rfl⟩ | ⟨_, he⟩
    ·simp; exact hdl
    ·exact hn a e he)
   (fun a c ha hcc => by
    rw [hlen] at ha
    by_cases e : a = i ∧ c = j
    ·obtain ⟨rfl, rfl⟩ := e
     rw [if_pos ⟨rfl, rfl⟩]
     exact World.cell?_setCell_same w _ _ (hcell a c ha hcc)
    ·rw [if_neg e, World.cell?_setCell_other _ _ _ _ (by intro e'; simp at e'; exact e (heq a c hcc (by omega)))]
     exact hcell a c ha hcc)
   (fun a c e d h1 h2 => by
    rcases hget a e h1 with ⟨rfl, rfl⟩ | ⟨hne, h1⟩
    ·rw [List.getElem?_set] at h2
     split at h2
     ·next hjc =>
      subst hjc
      (try rw [if_pos (by omega)] at h2)
      cases h2
      rw [if_pos ⟨rfl, rfl⟩]
      exact (hv.same (hs Q hQ)).weak
     ·next hjc =>
      rw [if_neg (fun h => hjc h.2.symm)]
      exact ((hrec a c ds d hi h2).same (hs _ (hb2 trivial a c))).weak
    ·rw [if_neg (fun h => hne h.1)]
     exact ((hrec a c e d h1 h2).same (hs _ (hb2 trivial a c))).weak)
   (fun _ _ _ _ => trivial) (fun s => s.elim) (fun s => s.elim)
  rw [hlen] at res
  exact res
end Go.Proofs.Ytiblcpkejhiehaa
namespace Go.Proofs.Ytiblcpkejhiehaa
open Go.RowKit Go.PlainAid
theorem heap_setCell_at {w : World} {b : Nat} {cur : Array Value} {e : TypeId} {fr : Nat × Nat} (hg : w.heap[b]? = some (.cells cur e fr)) (o : Nat) (v : Value) : (w.setCell ⟨b, o, none⟩ v).heap[b]? = some (.cells (cur.setIfInBounds o v) e fr) := by
 simp [World.setCell, Array.getElem?_modify, hg]
/-- One part of a row that may be written: what stands there, and the row with another part in its place. -/
theorem Holds.focus {P : Nat → Prop} {w : World} {b off len cap n i j : Nat} {xs : List (List D)} {ds : List D} {d : D} (h : Holds True P w (.slice (some ⟨b, off, none⟩) len cap) (.row n xs)) (hi : xs[i]? = some ds) (hd : ds[j]? = some d) :
  ∃ (Q : Nat → Prop) (c : Value), off = 0 ∧ P b ∧ OpenRow w b cap n ∧ b < w.heap.size ∧ w.cell? ⟨b, i * n + j, none⟩ = some c ∧ (∀ k, Q k → P k) ∧ ¬ Q b ∧ Holds True Q w c d ∧
   ∀ (w2 : World) (c' : Value) (d' : D) (Q' : Nat → Prop), SameOn (fun k => P k ∧ k ≠ b ∧ ¬ Q k) w w2 → w2.heap[b]? = (w.setCell ⟨b, i * n + j, none⟩ c').heap[b]? → Holds True Q' w2 c' d' → (∀ k, Q' k → k ≠ b ∧ (Q k ∨ ¬ P k)) →
    Holds True (fun k => P k ∨ Q' k) w2 (.slice (some ⟨b, off, none⟩) len cap) (.row n (xs.set i (ds.set j d'))) := by
 cases h with
 | nil => simp at hi
 | row _ _ _ _ _ _ _ cs fp h0 hb hc hP hn hcell hrec hfp hb2 hdj hop =>
  obtain ⟨rfl, hO⟩ := hop trivial
  have hil := lt_of_some hi
  have hjn : j < n := by rw [← hn i ds hi]; exact lt_of_some hd
  refine ⟨fp i j, cs i j, rfl, hP, hO, hb, by simpa using hcell i j hil hjn, hfp i j, hb2 trivial i j, hrec i j ds d hi hd, ?_⟩
  intro w2 c' d' Q' hs hbl hv hQ
  have hlen : (xs.set i (ds.set j d')).length = xs.length := by simp
  have hget : ∀ (a : Nat) (e : List D), (xs.set i (ds.set j d'))[a]? = some e → (a = i ∧ e = ds.set j d') ∨ (a ≠ i ∧ xs[a]? = some e) := fun a e he => by
   rw [List.getElem?_set] at he
   split at he
   ·next h => subst h; (try rw [if_pos hil] at he); cases he; exact .inl ⟨rfl, rfl⟩
   ·next h => exact .inr ⟨fun e => h e.symm, he⟩
  have hdl := hn i ds hi
  have heq : ∀ a c : Nat, c < n → a * n + c = i * n + j → a = i ∧ c = j := fun a c hc' e => by
   have hn0 : 0 < n := by omega
   have h1 : (a * n + c) / n = a ∧ (a * n + c) % n = c := by
    rw [Nat.mul_comm]
    exact ⟨by rw [Nat.mul_add_div hn0, Nat.div_eq_of_lt hc', Nat.add_zero], by rw [Nat.mul_add_mod, Nat.mod_eq_of_lt hc']⟩
   have h2 : (i * n + j) / n = i ∧ (i * n + j) % n = j := by
    rw [Nat.mul_comm]
    exact ⟨by rw [Nat.mul_add_div hn0, Nat.div_eq_of_lt hjn, Nat.add_zero], by rw [Nat.mul_add_mod, Nat.mod_eq_of_lt hjn]⟩
   rw [e] at h1
   exact ⟨h1.1.symm.trans h2.1, h1.2.symm.trans h2.2⟩
  have hoth : ∀ a c k, fp a c k → ¬ (a = i ∧ c = j) → ¬ fp i j k := fun a c k h1 h2 h3 => h2 (hdj trivial a c i j k h1 h3)
  have hkeep : ∀ a c, ¬ (a = i ∧ c = j) → SameOn (fp a c) w w2 := fun a c hne => hs.sub fun k hk => ⟨hfp a c k hk, fun e => hb2 trivial a c (by rw [← e]; exact hk), hoth a c k hk hne⟩
  obtain ⟨h63, cur, e0, hg, hcz⟩ := hO
  have hg2 : w2.heap[b]? = some (.cells (cur.setIfInBounds (i * n + j) c') e0 (0, 0)) := hbl.trans (heap_setCell_at hg _ _)
  have hb2' : b < w2.heap.size := (Array.getElem?_eq_some_iff.1 hg2).1
  have hcl : ∀ a c : Nat, w2.cell? ⟨b, a * n + c, none⟩ = (w.setCell ⟨b, i * n + j, none⟩ c').cell? ⟨b, a * n + c, none⟩ := fun a c => World.cell?_of_block hbl
  rw [← hlen]
  refine Holds.row _ w2 b 0 cap n _ (fun a c => if a = i ∧ c = j then c' else cs a c) (fun a c k => if a = i ∧ c = j then Q' k else fp a c k) (by rw [hlen]; exact h0) hb2' (by rw [hlen]; exact hc) (.inl hP)
   (fun a e he => ?_) (fun a c ha hcc => ?_) (fun a c e d2 h1 h2 => ?_) (fun a c k hk => ?_) (fun _ a c hk => ?_) (fun _ a c a' c' k hk hk' => ?_) (fun _ => ⟨rfl, h63, _, e0, hg2, by simpa using hcz⟩)
  ·rcases hget a e he with ⟨_, rfl⟩ | ⟨_, he⟩
   ·simp; exact hdl
   ·exact hn a e he
  ·rw [hlen] at ha
   rw [Nat.zero_add, hcl]
   by_cases e : a = i ∧ c = j
   ·obtain ⟨rfl, rfl⟩ := e
    rw [if_pos ⟨rfl, rfl⟩]
    exact World.cell?_setCell_same w _ _ (by simpa using hcell a c ha hcc)
   ·rw [if_neg e, World.cell?_setCell_other _ _ _ _ (by intro e'; simp at e'; exact e (heq a c hcc e'.symm))]
    simpa using hcell a c ha hcc
  ·rcases hget a e h1 with ⟨rfl, rfl⟩ | ⟨hne, h1⟩
   ·rw [List.getElem?_set] at h2
    split at h2
    ·next hjc =>
     subst hjc
     (try rw [if_pos (by omega)] at h2)
     cases h2
     simp only [and_self, if_true]
     exact hv
    ·next hjc =>
     have hne : ¬ c = j := fun h => hjc h.symm
     simp only [true_and, if_neg hne]
     exact (hrec a c ds d2 hi h2).same (hkeep a c (fun h => hne h.2))
   ·have hne' : ¬ (a = i ∧ c = j) := fun h => hne h.1
    simp only [if_neg hne']
    exact (hrec a c e d2 h1 h2).same (hkeep a c hne')
  ·split at hk
   ·exact .inr hk
   ·exact .inl (hfp a c k hk)
  ·split at hk
   ·exact (hQ _ hk).1 rfl
   ·exact hb2 trivial a c hk
  ·split at hk <;> split at hk'
   ·next h1 h2 => exact ⟨h1.1.trans h2.1.symm, h1.2.trans h2.2.symm⟩
   ·next h1 h2 =>
    rcases (hQ k hk).2 with h | h
    ·exact absurd h (hoth a' c' k hk' h2)
    ·exact absurd (hfp a' c' k hk') h
   ·next h1 h2 =>
    rcases (hQ k hk').2 with h | h
    ·exact absurd h (hoth a c k hk h1)
    ·exact absurd (hfp a c k hk) h
   ·exact hdj trivial a c a' c' k hk hk'
/-- A row that may be written, by its cells. -/
theorem Holds.open {P : Nat → Prop} {w : World} {a : Option Addr} {k cap n : Nat} {xs : List (List D)} (h : Holds True P w (.slice a k cap) (.row n xs)) (hn0 : 0 < n) :
  k = xs.length ∧ (∀ ds ∈ xs, ds.length = n) ∧ ((cap = 0 ∧ xs = []) ∨ ∃ (g : Nat) (cur : Array Value) (e : TypeId) (cells : List Value) (Q : Nat → Prop), a = some ⟨g, 0, none⟩ ∧ P g ∧ g < w.heap.size ∧ w.heap[g]? = some (.cells cur e (0, 0)) ∧ k ≤ cap ∧ cap ≤ maxLen ∧ cur.size = cap * n ∧
   cur.toList.take (k * n) = cells ∧ HoldsL True Q w cells xs.flatten ∧ (∀ k, Q k → P k) ∧ ¬ Q g) := by
 cases h with
 | nil _ _ _ _ _ hop =>
  refine ⟨rfl, by simp, ?_⟩
  rcases hop trivial with h | ⟨b, rfl, h2, h3, h4, cur, e, h5, h6⟩
  ·exact .inl ⟨h, rfl⟩
  ·exact .inr ⟨b, cur, e, [], fun _ => False, rfl, h2, h3, h5, by omega, h4, h6, by simp, hasL_nil _ _ _, fun _ h => h.elim, fun h => h⟩
 | row _ _ b off cap n xs cs fp h0 hb hc hP hn hcell hrec hfp hb2 hdj hop =>
  obtain ⟨rfl, h63, cur, e, hg, hcz⟩ := hop trivial
  have hn' : ∀ ds ∈ xs, ds.length = n := fun ds hds => by obtain ⟨q, hq⟩ := List.mem_iff_getElem?.1 hds; exact hn q ds hq
  have hle : xs.length * n ≤ cur.size := by rw [hcz]; exact Nat.mul_le_mul_right _ hc
  have hcu : ∀ i j, i < xs.length → j < n → cur.toList[i * n + j]? = some (cs i j) := fun i j hi hj => by
   have := hcell i j hi hj
   simpa [World.cell?, hg] using this
  refine ⟨rfl, hn', .inr ⟨b, cur, e, _, fun k => ∃ i j, fp i j k, rfl, hP, hb, hg, hc, h63, hcz, rfl, ?_, fun k ⟨i, j, hk⟩ => hfp i j k hk, fun ⟨i, j, hk⟩ => hb2 trivial i j hk⟩⟩
  have hfl := flatten_len hn'
  refine ⟨by simp [hfl]; omega, fun p => fp (p / n) (p % n), fun p k hk => ⟨_, _, hk⟩, fun _ p q k h1 h2 => ?_, fun p c d h1 h2 => ?_⟩
  ·obtain ⟨e1, e2⟩ := hdj trivial _ _ _ _ k h1 h2
   rw [← Nat.div_add_mod p n, ← Nat.div_add_mod q n, e1, e2]
  ·have hp : p < xs.length * n := by rw [← hfl]; exact lt_of_some h2
   have hpn : p % n < n := Nat.mod_lt _ hn0
   have hpl : p / n < xs.length := Nat.div_lt_of_lt_mul (by rw [Nat.mul_comm]; exact hp)
   obtain ⟨ds, hds⟩ := some_of_lt hpl
   have e1 : p / n * n + p % n = p := by rw [Nat.mul_comm]; exact Nat.div_add_mod p n
   have hd2 := flatten_get hn' hds hpn
   rw [e1, h2] at hd2
   have hc2 := hcu _ _ hpl hpn
   rw [e1] at hc2
   rw [List.getElem?_take, if_pos hp, hc2] at h1
   cases h1
   exact hrec _ _ ds d hds hd2.symm
/-- A row that may be written, out of its cells. -/
theorem holds_mk {P Q : Nat → Prop} {w : World} {g k cap n : Nat} {cur : Array Value} {e : TypeId} {cells : List Value} {xs : List (List D)} (hk : k = xs.length) (hP : P g) (hg : w.heap[g]? = some (.cells cur e (0, 0))) (hc : k ≤ cap) (h63 : cap ≤ maxLen) (hcz : cur.size = cap * n)
  (hcu : cur.toList.take (k * n) = cells) (hn : ∀ ds ∈ xs, ds.length = n) (hL : HoldsL True Q w cells xs.flatten) (hQ : ∀ k, Q k → P k) (hQg : ¬ Q g) : Holds True P w (.slice (some ⟨g, 0, none⟩) k cap) (.row n xs) := by
 subst hk
 have hgl : g < w.heap.size := (Array.getElem?_eq_some_iff.1 hg).1
 by_cases h0 : xs.length = 0
 ·obtain rfl := List.length_eq_zero_iff.1 h0
  exact .nil _ _ _ _ _ (fun _ => .inr ⟨g, rfl, hP, hgl, h63, cur, e, hg, hcz⟩)
 ·obtain ⟨hl, fp, f1, f2, f3⟩ := hL
  have hfl := flatten_len hn
  have hcl : ∀ i j, i < xs.length → j < n → i * n + j < xs.length * n := fun i j hi hj => Nat.lt_of_lt_of_le (Nat.add_lt_add_left hj _) (by rw [← Nat.succ_mul]; exact Nat.mul_le_mul_right _ hi)
  refine Holds.row _ w g 0 cap n xs (fun i j => cells.getD (i * n + j) (.bool true)) (fun i j k => i < xs.length ∧ j < n ∧ fp (i * n + j) k) (by omega) hgl hc hP (fun i ds hi => hn ds (List.mem_of_getElem? hi)) (fun i j hi hj => ?_) (fun i j ds d hi hj => ?_)
   (fun i j k hk => hQ k (f1 _ k hk.2.2)) (fun _ i j hk => hQg (f1 _ _ hk.2.2)) (fun _ i j i' j' k hk hk' => ?_) (fun _ => ⟨rfl, h63, cur, e, hg, hcz⟩)
  ·have h1 := hcl i j hi hj
   have h2 : i * n + j < cells.length := by rw [hl, hfl]; exact h1
   rw [Nat.zero_add]
   have e1 : cur.toList[i * n + j]? = some (cells.getD (i * n + j) (.bool true)) := by
    have : cells[i * n + j]? = cur.toList[i * n + j]? := by rw [← hcu, List.getElem?_take, if_pos h1]
    rw [← this]; simp [List.getD, List.getElem?_eq_getElem h2]
   simpa [World.cell?, hg] using e1
  ·have hil := lt_of_some hi
   have hjn : j < n := by rw [← hn ds (List.mem_of_getElem? hi)]; exact lt_of_some hj
   have h1 := hcl i j hil hjn
   have h2 : i * n + j < cells.length := by rw [hl, hfl]; exact h1
   have hd := flatten_get hn hi hjn
   rw [hj] at hd
   refine (f3 (i * n + j) _ d ?_ hd).wide (fun k _ hk => ⟨hil, hjn, hk⟩)
   simp [List.getD, List.getElem?_eq_getElem h2]
  ·have e := f2 trivial _ _ k hk.2.2 hk'.2.2
   have hn0 : 0 < n := by have := hk.2.1; omega
   have d1 : ∀ a c : Nat, c < n → (a * n + c) / n = a ∧ (a * n + c) % n = c := fun a c hc' => by
    rw [Nat.mul_comm]
    exact ⟨by rw [Nat.mul_add_div hn0, Nat.div_eq_of_lt hc', Nat.add_zero], by rw [Nat.mul_add_mod, Nat.mod_eq_of_lt hc']⟩
   have h1 := d1 i j hk.2.1
   have h2 := d1 i' j' hk'.2.1
   rw [e] at h1
   exact ⟨h1.1.symm.trans h2.1, h1.2.symm.trans h2.2⟩
theorem HoldsL.append {S : Prop} {P Q : Nat → Prop} {w : World} {cs es : List Value} {ds fs : List D} (h : HoldsL S P w cs ds) (h' : HoldsL S Q w es fs) (hd : S → ∀ k, P k → ¬ Q k) : HoldsL S (fun k => P k ∨ Q k) w (cs ++ es) (ds ++ fs) := by
 obtain ⟨h1, fp, h2, h3, h4⟩ := h
 obtain ⟨g1, gp, g2, g3, g4⟩ := h'
 refine ⟨by simp [h1, g1], fun j k => if j < cs.length then fp j k else gp (j - cs.length) k, fun j k hk => ?_, fun s j j' k hk hk' => ?_, fun j c d hc hd' => ?_⟩
 ·dsimp only at hk
  split at hk
  ·exact .inl (h2 _ _ hk)
  ·exact .inr (g2 _ _ hk)
 ·dsimp only at hk hk'
  split at hk <;> split at hk'
  ·exact h3 s _ _ _ hk hk'
  ·exact absurd (g2 _ _ hk') (hd s k (h2 _ _ hk))
  ·exact absurd (g2 _ _ hk) (hd s k (h2 _ _ hk'))
  ·have := g3 s _ _ _ hk hk'; omega
 ·rw [List.getElem?_append] at hc hd'
  rw [← h1] at hd'
  split at hc
  ·next hlt => simp only [if_pos hlt]; rw [if_pos hlt] at hd'; exact h4 j c d hc hd'
  ·next hlt => simp only [if_neg hlt]; rw [if_neg hlt] at hd'; exact g4 _ c d hc hd'
theorem run_room {w : World} (T E e0 ty : TypeId) (i : TypeInfo) (ht : Try.prog.underlying T = some (.slice E)) (hi : Try.prog.info? E = some i) (g k cap : Nat) (cur : Array Value) (hg : w.heap[g]? = some (.cells cur e0 (0, 0)))
  (a : Addr) (m c : Nat) (news : List Value) (hl : news.length = m * i.size) (hnews : ∀ j u, news[j]? = some u → w.cell? (a.add j) = some u) (h1 : ∀ u ∈ news, u.oneCell' = true) (hroom : k + m ≤ cap) (hfit : k * i.size + news.length ≤ cur.size) :
  (Builtin.append_ #[T, T] ty #[.slice (some ⟨g, 0, none⟩) k cap, .slice (some a) m c]).run Try.prog w = .ok (.slice (some ⟨g, 0, none⟩) (k + m) cap) (w.setRow g (cur.toList.take (k * i.size) ++ news ++ cur.toList.drop (k * i.size + news.length)).toArray) := by
 have h2 := run_firstCells_some (P := Try.prog) w i.size m a m c news hl hnews
 have h3 := run_storeCells_at Try.prog g (k * i.size) e0 news 0 cur w hg (by simpa using hfit) h1
 simp only [Nat.add_zero] at h3
 simp [Builtin.append_, run_underlying ht, sizeOf, typeInfo, hi, Builtin.lenOf, hroom, h2, Addr.add_lit, h3]
/-- append to a row that may be written. -/
theorem run_appH {w : World} (T E ty : TypeId) (i : TypeInfo) (z : Value) (n bytes : Nat) (ht : Try.prog.underlying T = some (.slice E)) (hi : Try.prog.info? E = some i) (hz : i.zero = some z) (hsize : i.size = n) (hby : i.bytes = bytes) (hzs : z.cells.size = n) (hsz : 0 < n)
    (P Q : Nat → Prop) (a0 : Option Addr) (k cap : Nat) (xs ys : List (List D)) (m c l : Nat) (h : Holds True P w (.slice a0 k cap) (.row n xs)) (ad : Option Addr) (news : List Value)
    (hnews : ∀ a, ad = some a → ∀ j u, news[j]? = some u → w.cell? (a.add j) = some u) (hnone : ad = none → m = 0) (hy : ∀ ds ∈ ys, ds.length = n) (hm : ys.length = m) (hh : HoldsL True Q w news ys.flatten) (hQ : ∀ k, Q k → ¬ P k ∧ k < w.heap.size) (hl : k + m = l) (h63 : l ≤ maxLen) (hbytes : l * bytes ≤ 140737488355328) :
    (∃ ao cv w', (Builtin.append_ #[T, T] ty #[.slice a0 k cap, .slice ad m c]).run Try.prog w = .ok (.slice ao l cv) w' ∧ Holds True (fun k => P k ∨ Q k ∨ k = w.heap.size) w' (.slice ao l cv) (.row n (xs ++ ys)) ∧ Below w.heap.size w w') ∨
    (∃ ao cv w', (Builtin.append_ #[T, T] ty #[.slice a0 k cap, .slice ad m c]).run Try.prog w = .ok (.slice ao l cv) w' ∧ Holds True (fun k => P k ∨ Q k) w' (.slice ao l cv) (.row n (xs ++ ys)) ∧ ∃ g, P g ∧ a0 = some ⟨g, 0, none⟩ ∧ ao = a0 ∧ cv = cap ∧ w.grownBy w' (some g)) := by
  subst hl
  obtain ⟨hk, hn, hrow⟩ := h.open hsz
  subst hk
  cases ad with
  | none =>
    have hm0 := hnone rfl
    subst hm0
    obtain rfl : ys = [] := List.eq_nil_of_length_eq_zero hm
    refine .inl ⟨a0, cap, w, ?_, by rw [List.append_nil]; exact h.wide (fun k _ hk => .inl hk), Below.refl _ _⟩
    rcases hrow with ⟨rfl, rfl⟩ | ⟨g, cur, e, cells, R, rfl, _, _, _, hc, _⟩
    · cases a0 with
      | none => simp [Builtin.append_, run_underlying ht, sizeOf, typeInfo, hi, Builtin.lenOf, Builtin.firstCells]
      | some g => simp [Builtin.append_, run_underlying ht, sizeOf, typeInfo, hi, Builtin.lenOf, Builtin.firstCells, storeCells]
    · simp [Builtin.append_, run_underlying ht, sizeOf, typeInfo, hi, Builtin.lenOf, Builtin.firstCells, hc, storeCells]
  | some ad =>
    have hnews' := hnews ad rfl
    have hll : news.length = m * n := by rw [hh.1, flatten_len hy, hm]
    have h1 : ∀ u ∈ news, u.oneCell' = true := by
      intro u hu
      obtain ⟨j, hj, rfl⟩ := List.getElem_of_mem hu
      obtain ⟨hl', gp, _, _, g3⟩ := hh
      exact (g3 j _ _ (List.getElem?_eq_getElem hj) (List.getElem?_eq_getElem (by omega))).one
    have hyn : ∀ ds ∈ xs ++ ys, ds.length = n := fun ds hds => by
      rcases List.mem_append.1 hds with h | h
      · exact hn ds h
      · exact hy ds h
    have hb63 : ((xs.length + m : Nat) : Int) ≤ 9223372036854775807 := by unfold maxLen at h63; omega
    have fresh_row : ∀ (cells : List Value) (R : Nat → Prop) (old : Nat), HoldsL True R w cells xs.flatten → cells.length = xs.length * n → (∀ k, R k → P k) → old < xs.length + m →
        Holds True (fun k => P k ∨ Q k ∨ k = w.heap.size) (w.drew.alloc (.cells (cells.toArray ++ news.toArray ++ Builtin.zeroCells z.cells (grownCap w (xs.length + m) old E - (xs.length + m))) E)) (.slice (some ⟨w.heap.size, 0, none⟩) (xs.length + m) (grownCap w (xs.length + m) old E)) (.row n (xs ++ ys)) ∧
        Below w.heap.size w (w.drew.alloc (.cells (cells.toArray ++ news.toArray ++ Builtin.zeroCells z.cells (grownCap w (xs.length + m) old E - (xs.length + m))) E)) := by
      intro cells R old hc hcl hR hold
      have hge := grownCap_ge w (xs.length + m) old E
      have hcm : grownCap w (xs.length + m) old E ≤ maxLen := grownCap_le_maxLen w (xs.length + m) old E h63
      have hbel : Below w.heap.size w (w.drew.alloc (.cells (cells.toArray ++ news.toArray ++ Builtin.zeroCells z.cells (grownCap w (xs.length + m) old E - (xs.length + m))) E)) := (below_drewN (Below.refl _ w) 1).alloc (Nat.le_refl _) _
      refine ⟨?_, hbel⟩
      refine holds_mk (Q := fun k => (R k ∨ Q k) ∧ k < w.heap.size) (by simp [hm]) (.inr (.inr rfl)) (heap_alloc_new w.drew _) hge hcm ?_ rfl hyn ?_ (fun k hk => hk.1.elim (fun h => .inl (hR k h)) (fun h => .inr (.inl h))) (fun hk => Nat.lt_irrefl _ hk.2)
      · have hG : ∀ G : Nat, xs.length + m ≤ G → (cells.toArray ++ news.toArray ++ Builtin.zeroCells z.cells (G - (xs.length + m))).size = G * n := fun G hG => by
          simp only [Array.size_append, List.size_toArray, size_zeroCells, hzs, hcl, hll, ← Nat.add_mul]
          rw [show xs.length + m + (G - (xs.length + m)) = G by omega]
        exact hG _ hge
      · have e1 : (cells.toArray ++ news.toArray ++ Builtin.zeroCells z.cells (grownCap w (xs.length + m) old E - (xs.length + m))).toList.take ((xs.length + m) * n) = cells ++ news := by
          have hlen : (cells ++ news).length = (xs.length + m) * n := by rw [List.length_append, hcl, hll, Nat.add_mul]
          generalize Builtin.zeroCells z.cells (grownCap w (xs.length + m) old E - (xs.length + m)) = Z
          simp only [Array.toList_append]
          exact List.take_left' hlen
        rw [e1, List.flatten_append]
        exact ((hc.append hh (fun _ k hk hq => (hQ k hq).1 (hR k hk))).wide (fun k hlt hk => ⟨hk, hlt⟩)).later hbel
    rcases hrow with ⟨rfl, rfl⟩ | ⟨g, cur, e, cells, R, rfl, hPg, hgl, hg, hc, hcx, hcz, hcu, hL, hR, hRg⟩
    · by_cases hm0 : m = 0
      · subst hm0
        obtain rfl : ys = [] := List.eq_nil_of_length_eq_zero hm
        refine .inl ⟨a0, 0, w, ?_, by rw [List.append_nil]; exact h.wide (fun k _ hk => .inl hk), Below.refl _ _⟩
        have hf := run_firstCells_some (P := Try.prog) w i.size 0 ad 0 c [] (by simp) (by simp)
        cases a0 with
        | none => simp [Builtin.append_, run_underlying ht, sizeOf, typeInfo, hi, Builtin.lenOf, hf]
        | some g => simp [Builtin.append_, run_underlying ht, sizeOf, typeInfo, hi, Builtin.lenOf, hf, storeCells]
      · have := fresh_row [] (fun _ => False) 0 (hasL_nil _ _ _) (by simp) (fun _ h => h.elim) (by omega)
        refine .inl ⟨_, _, _, ?_, this⟩
        subst hsize hby
        cases a0 with
        | none =>
          have := run_append_nil (P := Try.prog) w T ty E i z ht hi hz ad m c news hll hnews' (by omega) (by simpa using hb63) (by simp only [List.length_nil, Nat.zero_add] at hbytes; omega)
          simpa using this
        | some g =>
          have := run_append_grow (P := Try.prog) w T ty E i z ht hi hz g 0 0 [] (by simp) (by simp) ad m c news hll hnews' (by omega) (by simpa using hb63) (growslice_fits (by omega) (by simpa using hbytes))
          simpa using this
    · have hcl : cells.length = xs.length * n := by
        have h1 : cur.toList.length = cap * n := by rw [← hcz]; rfl
        rw [← hcu, List.length_take, h1]; exact Nat.min_eq_left (Nat.mul_le_mul_right _ hc)
      by_cases hroom : xs.length + m ≤ cap
      · subst hsize
        have hfit : xs.length * i.size + news.length ≤ cur.size := by rw [hll, hcz, ← Nat.add_mul]; exact Nat.mul_le_mul_right _ hroom
        have hr := run_room T E e ty i ht hi g xs.length cap cur hg ad m c news hll hnews' h1 hroom hfit
        have hg2 := setRow_heap w g cur (cur.toList.take (xs.length * i.size) ++ news ++ cur.toList.drop (xs.length * i.size + news.length)).toArray e _ hg
        have hgr : w.grownBy (w.setRow g (cur.toList.take (xs.length * i.size) ++ news ++ cur.toList.drop (xs.length * i.size + news.length)).toArray) (some g) := ⟨rfl, rfl, rfl, by simp, fun k _ hk => setRow_other w g k _ (fun e => hk (by simp [e]))⟩
        refine .inr ⟨_, _, _, hr, ?_, g, hPg, rfl, rfl, rfl, hgr⟩
        refine holds_mk (Q := fun k => R k ∨ Q k) (by simp [hm]) (.inl hPg) hg2 hroom hcx ?_ rfl hyn ?_ (fun k hk => hk.elim (fun h => .inl (hR k h)) .inr) (fun hk => hk.elim hRg (fun h => (hQ g h).1 hPg))
        · rw [List.size_toArray]
          simp only [List.length_append, List.length_take, List.length_drop, Array.length_toList]
          omega
        · have e1 : (cur.toList.take (xs.length * i.size) ++ news ++ cur.toList.drop (xs.length * i.size + news.length)).toArray.toList.take ((xs.length + m) * i.size) = cells ++ news := by
            rw [hcu]
            have hlen : (cells ++ news).length = (xs.length + m) * i.size := by rw [List.length_append, hcl, hll, Nat.add_mul]
            exact List.take_left' hlen
          rw [e1, List.flatten_append]
          refine (hL.append hh (fun _ k hk hq => (hQ k hq).1 (hR k hk))).same ⟨hgr.size, fun b hb hlt => hgr.block b hlt (fun e => ?_)⟩
          cases e
          exact hb.elim hRg (fun h => (hQ _ h).1 hPg)
      · have := fresh_row cells R cap hL hcl hR (by omega)
        refine .inl ⟨_, _, _, ?_, this⟩
        subst hsize hby
        refine run_append_grow (P := Try.prog) w T ty E i z ht hi hz ⟨g, 0, none⟩ xs.length cap cells hcl (fun j v hj => ?_) ad m c news hll hnews' (by omega) hb63 (growslice_fits (by omega) hbytes)
        have e1 : (⟨g, 0, none⟩ : Addr).add j = ⟨g, j, none⟩ := by unfold Addr.add; split <;> simp_all
        rw [e1]
        rw [← hcu, List.getElem?_take] at hj
        split at hj
        · simpa [World.cell?, hg] using hj
        · cases hj
end Go.Proofs.Ytiblcpkejhiehaa

namespace Go.Proofs.Ytiblcpkejhiehaa
structure Pk where
 next : Int
 sends : Lks
structure Tk where
 src : Int
 letter : Int
 next : Int
structure St where
 mode : Int
 waits : List Int
 picks : List Pk
 takes : List Tk
structure Nd where
 start : Int
 states : List St
abbrev Tab := List Nd
def Pk.zero : Pk := ⟨0, []⟩
def Tk.zero : Tk := ⟨0, 0, 0⟩
def St.zero : St := ⟨0, [], [], []⟩
def Nd.zero : Nd := ⟨0, []⟩
instance : Inhabited Pk := ⟨Pk.zero⟩
instance : Inhabited Tk := ⟨Tk.zero⟩
instance : Inhabited St := ⟨St.zero⟩
instance : Inhabited Nd := ⟨Nd.zero⟩
/-- A place: a state, whose node it is, all states of that. -/
structure Pl where
 st : St
 node : Int
 all : List St
def Pl.zero : Pl := ⟨St.zero, 0, []⟩
instance : Inhabited Pl := ⟨Pl.zero⟩
def HasS (l : List St) (s : Int) : Prop := 0 ≤ s ∧ s < l.length
instance (l : List St) (s : Int) : Decidable (HasS l s) := by unfold HasS; infer_instance
def ndAt (M : Tab) (n : Int) : Nd := M.getD n.toNat Nd.zero
def Is (M : Tab) (n s : Int) : Prop := 0 ≤ n ∧ n < M.length ∧ HasS (ndAt M n).states s
instance (M : Tab) (n s : Int) : Decidable (Is M n s) := by unfold Is; infer_instance
def plAt (M : Tab) (n s : Int) : Pl := if Is M n s then ⟨(ndAt M n).states.getD s.toNat St.zero, n, (ndAt M n).states⟩ else Pl.zero
def stAt (M : Tab) (n s : Int) : St := (plAt M n s).st
def pickAt (s : St) (k : Int) : Pk := if 0 ≤ k ∧ k < s.picks.length then s.picks.getD k.toNat Pk.zero else Pk.zero
def isPick (s : St) (k : Int) : Bool := decide (0 ≤ k ∧ k < s.picks.length)
/-- Where a message leads. -/
def takeFrom : List Tk → Int → Int → Int → Int
 | [], s, _, _ => s
 | t :: r, s, f, l => if t.src = f ∧ t.letter = l then t.next else takeFrom r s f l
def takenAt (M : Tab) (n s f l : Int) : Int := takeFrom (stAt M n s).takes s f l
theorem takeFrom_hit {l : List Tk} {s f c : Int} : ∀ (k : Nat) (t : Tk), l[k]? = some t → t.src = f → t.letter = c → (∀ (j : Nat) (u : Tk), j < k → l[j]? = some u → ¬ (u.src = f ∧ u.letter = c)) → takeFrom l s f c = t.next := by
 induction l with
 | nil => intro k t h; simp at h
 | cons q r ih =>
  intro k t h h1 h2 h3
  cases k with
  | zero => simp at h; subst h; simp [takeFrom, h1, h2]
  | succ k =>
   have := h3 0 q (by omega) rfl
   rw [takeFrom, if_neg this]
   exact ih k t (by simpa using h) h1 h2 (fun j u hj hu => h3 (j + 1) u (by omega) (by simpa using hu))
theorem takeFrom_miss {l : List Tk} {s f c : Int} : (∀ (j : Nat) (u : Tk), l[j]? = some u → ¬ (u.src = f ∧ u.letter = c)) → takeFrom l s f c = s := by
 induction l with
 | nil => intro _; rfl
 | cons q r ih =>
  intro h
  rw [takeFrom, if_neg (h 0 q rfl)]
  exact ih (fun j u hu => h (j + 1) u (by simpa using hu))
theorem getD_of {α : Type} {l : List α} {i : Nat} {x d : α} (h : l[i]? = some x) : l.getD i d = x := by simp [List.getD, h]
theorem get_of_lt {α : Type} {l : List α} {i : Nat} (h : i < l.length) : ∃ x, l[i]? = some x := ⟨_, List.getElem?_eq_getElem h⟩
theorem lt_of_get {α : Type} {l : List α} {i : Nat} {x : α} (h : l[i]? = some x) : i < l.length := (List.getElem?_eq_some_iff.1 h).1
theorem plAt_of {M : Tab} {n s : Nat} {x : Nd} {t : St} (hx : M[n]? = some x) (ht : x.states[s]? = some t) : plAt M n s = ⟨t, n, x.states⟩ := by
 have h1 := lt_of_get hx
 have h2 := lt_of_get ht
 have e : ndAt M n = x := by unfold ndAt; simp [List.getD, hx]
 unfold plAt
 rw [if_pos ⟨by omega, by omega, by rw [e]; exact ⟨by omega, by omega⟩⟩, e]
 simp [List.getD, ht]
theorem plAt_no {M : Tab} {n s : Int} (h : ¬ Is M n s) : plAt M n s = Pl.zero := by unfold plAt; rw [if_neg h]
theorem is_cases (M : Tab) (n s : Int) : ¬ Is M n s ∨ ∃ (n' s' : Nat) (x : Nd) (t : St), n = (n' : Int) ∧ s = (s' : Int) ∧ M[n']? = some x ∧ x.states[s']? = some t := by
 by_cases h : Is M n s
 ·obtain ⟨h0, h1, h2, h3⟩ := h
  obtain ⟨n', rfl⟩ := Int.eq_ofNat_of_zero_le h0
  obtain ⟨s', rfl⟩ := Int.eq_ofNat_of_zero_le h2
  obtain ⟨x, hx⟩ := get_of_lt (l := M) (i := n') (by omega)
  have e : ndAt M n' = x := by unfold ndAt; simp [List.getD, hx]
  rw [e] at h3
  obtain ⟨t, ht⟩ := get_of_lt (l := x.states) (i := s') (by omega)
  exact .inr ⟨n', s', x, t, rfl, rfl, hx, ht⟩
 ·exact .inl h
end Go.Proofs.Ytiblcpkejhiehaa

namespace Go.Proofs.Ytiblcpkejhiehaa
open Go.RowKit Go.PlainAid
def Pk.d (p : Pk) : List D := [dI p.next, dLinks p.sends]
def Tk.d (t : Tk) : List D := [dI t.src, dI t.letter, dI t.next]
def dPicks (l : List Pk) : D := .row 2 (l.map Pk.d)
def dTakes (l : List Tk) : D := .row 3 (l.map Tk.d)
def St.d (s : St) : List D := [dI s.mode, dInts s.waits, dPicks s.picks, dTakes s.takes]
def dStates (l : List St) : D := .row 4 (l.map St.d)
def Nd.d (x : Nd) : List D := [dI x.start, dStates x.states]
def dTab (M : Tab) : D := .row 2 (M.map Nd.d)
def Pl.d (p : Pl) : List D := [dI p.st.mode, dInts p.st.waits, dPicks p.st.picks, dTakes p.st.takes, dI p.node, dStates p.all]
def dPls (l : List Pl) : D := .row 6 (l.map Pl.d)
theorem hasL_pk {w : World} {cs : List Value} {p : Pk} (h : HasL w cs p.d) : ∃ v, cs = [.int .i64 p.next, v] ∧ Has w v (dLinks p.sends) := by
 obtain ⟨c, r, rfl, h1, h⟩ := h.cons
 obtain ⟨c2, r, rfl, h2, h⟩ := HasL.cons h
 obtain rfl := HasL.nil h
 obtain rfl := Holds.val h1
 exact ⟨_, rfl, h2⟩
theorem hasL_tk {w : World} {cs : List Value} {t : Tk} (h : HasL w cs t.d) : cs = [.int .i64 t.src, .int .i64 t.letter, .int .i64 t.next] := by
 obtain ⟨c, r, rfl, h1, h⟩ := h.cons
 obtain ⟨c2, r, rfl, h2, h⟩ := HasL.cons h
 obtain ⟨c3, r, rfl, h3, h⟩ := HasL.cons h
 obtain rfl := HasL.nil h
 obtain rfl := Holds.val h1
 obtain rfl := Holds.val h2
 obtain rfl := Holds.val h3
 rfl
theorem hasL_st {w : World} {cs : List Value} {s : St} (h : HasL w cs s.d) : ∃ v1 v2 v3, cs = [.int .i64 s.mode, v1, v2, v3] ∧ Has w v1 (dInts s.waits) ∧ Has w v2 (dPicks s.picks) ∧ Has w v3 (dTakes s.takes) := by
 obtain ⟨c, r, rfl, h1, h⟩ := h.cons
 obtain ⟨c2, r, rfl, h2, h⟩ := HasL.cons h
 obtain ⟨c3, r, rfl, h3, h⟩ := HasL.cons h
 obtain ⟨c4, r, rfl, h4, h⟩ := HasL.cons h
 obtain rfl := HasL.nil h
 obtain rfl := Holds.val h1
 exact ⟨_, _, _, rfl, h2, h3, h4⟩
theorem hasL_nd {w : World} {cs : List Value} {x : Nd} (h : HasL w cs x.d) : ∃ v, cs = [.int .i64 x.start, v] ∧ Has w v (dStates x.states) := by
 obtain ⟨c, r, rfl, h1, h⟩ := h.cons
 obtain ⟨c2, r, rfl, h2, h⟩ := HasL.cons h
 obtain rfl := HasL.nil h
 obtain rfl := Holds.val h1
 exact ⟨_, rfl, h2⟩
theorem hasL_pl {w : World} {cs : List Value} {p : Pl} (h : HasL w cs p.d) : ∃ v1 v2 v3 v4, cs = [.int .i64 p.st.mode, v1, v2, v3, .int .i64 p.node, v4] ∧ Has w v1 (dInts p.st.waits) ∧ Has w v2 (dPicks p.st.picks) ∧ Has w v3 (dTakes p.st.takes) ∧ Has w v4 (dStates p.all) := by
 obtain ⟨c, r, rfl, h1, h⟩ := h.cons
 obtain ⟨c2, r, rfl, h2, h⟩ := HasL.cons h
 obtain ⟨c3, r, rfl, h3, h⟩ := HasL.cons h
 obtain ⟨c4, r, rfl, h4, h⟩ := HasL.cons h
 obtain ⟨c5, r, rfl, h5, h⟩ := HasL.cons h
 obtain ⟨c6, r, rfl, h6, h⟩ := HasL.cons h
 obtain rfl := HasL.nil h
 obtain rfl := Holds.val h1
 obtain rfl := Holds.val h5
 exact ⟨_, _, _, _, rfl, h2, h3, h4, h6⟩
theorem pl_hasL {w : World} {p : Pl} {v1 v2 v3 v4 : Value} (h1 : Has w v1 (dInts p.st.waits)) (h2 : Has w v2 (dPicks p.st.picks)) (h3 : Has w v3 (dTakes p.st.takes)) (h4 : Has w v4 (dStates p.all)) : HasL w [.int .i64 p.st.mode, v1, v2, v3, .int .i64 p.node, v4] p.d :=
 .mk (has_int _ _ _ _) (.mk h1 (.mk h2 (.mk h3 (.mk (has_int _ _ _ _) (.mk h4 (hasL_nil _ _ _))))))
theorem st_hasL {w : World} {s : St} {v1 v2 v3 : Value} (h1 : Has w v1 (dInts s.waits)) (h2 : Has w v2 (dPicks s.picks)) (h3 : Has w v3 (dTakes s.takes)) : HasL w [.int .i64 s.mode, v1, v2, v3] s.d :=
 .mk (has_int _ _ _ _) (.mk h1 (.mk h2 (.mk h3 (hasL_nil _ _ _))))
theorem slice_of {w : World} {v : Value} {n : Nat} {α : Type} {f : α → List D} {xs : List α} (h : Has w v (.row n (xs.map f))) : ∃ a c, v = .slice a xs.length c := by
 obtain ⟨a, c, rfl⟩ := Holds.len h
 exact ⟨a, c, by rw [List.length_map]⟩
/-- An element's cells, by name. -/
theorem cells_of {w : World} {v : Value} {n i : Nat} {α : Type} {f : α → List D} {xs : List α} {x : α} (h : Has w v (.row n (xs.map f))) (hx : xs[i]? = some x) :
  ∃ b off cap, v = .slice (some ⟨b, off, none⟩) xs.length cap ∧ b < w.heap.size ∧ xs.length ≤ cap ∧ ∃ cs, HasL w cs (f x) ∧ ∀ j c, cs[j]? = some c → w.cell? ⟨b, off + i * n + j, none⟩ = some c := by
 obtain ⟨b, off, cap, rfl, h1, h2, _, cs, h3, h4⟩ := Has.at (i := i) (ds := f x) h (by simp [hx])
 rw [List.length_map] at h2
 exact ⟨b, off, cap, by rw [List.length_map], h1, h2, cs, h3, h4⟩
theorem nd_cells {w : World} {v : Value} {M : Tab} {i : Nat} {x : Nd} (h : Has w v (dTab M)) (hx : M[i]? = some x) :
  ∃ b off cap vs, v = .slice (some ⟨b, off, none⟩) M.length cap ∧ b < w.heap.size ∧ M.length ≤ cap ∧ w.cell? ⟨b, off + i * 2, none⟩ = some (.int .i64 x.start) ∧ w.cell? ⟨b, off + i * 2 + 1, none⟩ = some vs ∧ Has w vs (dStates x.states) := by
 obtain ⟨b, off, cap, rfl, h1, h2, cs, h3, h4⟩ := cells_of h hx
 obtain ⟨v, rfl, h5⟩ := hasL_nd h3
 exact ⟨b, off, cap, v, rfl, h1, h2, h4 0 _ rfl, h4 1 _ rfl, h5⟩
theorem st_cells {w : World} {v : Value} {l : List St} {i : Nat} {s : St} (h : Has w v (dStates l)) (hx : l[i]? = some s) :
  ∃ b off cap v1 v2 v3, v = .slice (some ⟨b, off, none⟩) l.length cap ∧ b < w.heap.size ∧ l.length ≤ cap ∧ w.cell? ⟨b, off + i * 4, none⟩ = some (.int .i64 s.mode) ∧ w.cell? ⟨b, off + i * 4 + 1, none⟩ = some v1 ∧ w.cell? ⟨b, off + i * 4 + 2, none⟩ = some v2 ∧
   w.cell? ⟨b, off + i * 4 + 3, none⟩ = some v3 ∧ Has w v1 (dInts s.waits) ∧ Has w v2 (dPicks s.picks) ∧ Has w v3 (dTakes s.takes) := by
 obtain ⟨b, off, cap, rfl, h1, h2, cs, h3, h4⟩ := cells_of h hx
 obtain ⟨v1, v2, v3, rfl, h5, h6, h7⟩ := hasL_st h3
 exact ⟨b, off, cap, v1, v2, v3, rfl, h1, h2, h4 0 _ rfl, h4 1 _ rfl, h4 2 _ rfl, h4 3 _ rfl, h5, h6, h7⟩
theorem pk_cells {w : World} {v : Value} {l : List Pk} {i : Nat} {p : Pk} (h : Has w v (dPicks l)) (hx : l[i]? = some p) :
  ∃ b off cap v1, v = .slice (some ⟨b, off, none⟩) l.length cap ∧ b < w.heap.size ∧ l.length ≤ cap ∧ w.cell? ⟨b, off + i * 2, none⟩ = some (.int .i64 p.next) ∧ w.cell? ⟨b, off + i * 2 + 1, none⟩ = some v1 ∧ Has w v1 (dLinks p.sends) := by
 obtain ⟨b, off, cap, rfl, h1, h2, cs, h3, h4⟩ := cells_of h hx
 obtain ⟨v, rfl, h5⟩ := hasL_pk h3
 exact ⟨b, off, cap, v, rfl, h1, h2, h4 0 _ rfl, h4 1 _ rfl, h5⟩
theorem tk_cells {w : World} {v : Value} {l : List Tk} {i : Nat} {t : Tk} (h : Has w v (dTakes l)) (hx : l[i]? = some t) :
  ∃ b off cap, v = .slice (some ⟨b, off, none⟩) l.length cap ∧ b < w.heap.size ∧ l.length ≤ cap ∧ w.cell? ⟨b, off + i * 3, none⟩ = some (.int .i64 t.src) ∧ w.cell? ⟨b, off + i * 3 + 1, none⟩ = some (.int .i64 t.letter) ∧ w.cell? ⟨b, off + i * 3 + 2, none⟩ = some (.int .i64 t.next) := by
 obtain ⟨b, off, cap, rfl, h1, h2, cs, h3, h4⟩ := cells_of h hx
 obtain rfl := hasL_tk h3
 exact ⟨b, off, cap, rfl, h1, h2, h4 0 _ rfl, h4 1 _ rfl, h4 2 _ rfl⟩
theorem zero_pl (w : World) : HasL w [.int .i64 0, .slice none 0 0, .slice none 0 0, .slice none 0 0, .int .i64 0, .slice none 0 0] Pl.zero.d :=
 pl_hasL (p := Pl.zero) (.nil _ _ _ _ _) (.nil _ _ _ _ _) (.nil _ _ _ _ _) (.nil _ _ _ _ _)
end Go.Proofs.Ytiblcpkejhiehaa

set_option linter.unusedSimpArgs false
set_option linter.unusedVariables false
namespace Go.Proofs.Ytiblcpkejhiehaa
open Go.RowKit Go.PlainAid
/-- A row that is written out. -/
theorem holds_new {P : Nat → Prop} {w : World} {vs : List Value} (T : TypeId) {n k : Nat} {xs : List (List D)} (hP : P w.heap.size) (hn : ∀ ds ∈ xs, ds.length = n) (hk : k = xs.length) (h0 : 0 < k) (h : HoldsL False P w vs xs.flatten) :
  Holds False P (w.alloc (.cells vs.toArray T)) (.slice (some ⟨w.heap.size, 0, none⟩) k k) (.row n xs) := by
 subst hk
 have hl : vs.length = xs.length * n := by rw [h.1, flatten_len hn]
 refine .row _ _ w.heap.size 0 xs.length n xs (fun i j => vs.getD (i * n + j) (.bool true)) (fun _ _ => P) h0 (by simp) (Nat.le_refl _) hP (fun i ds hi => hn ds (List.mem_of_getElem? hi)) (fun i j hi hj => ?_) (fun i j ds d h1 h2 => ?_) (fun _ _ _ h => h) (fun s => s.elim) (fun s => s.elim)
 ·have hij : i * n + j < vs.length := by rw [hl]; have h3 : (i + 1) * n ≤ xs.length * n := Nat.mul_le_mul_right n hi; rw [Nat.succ_mul] at h3; omega
  rw [Nat.zero_add, World.cell?_alloc_at _ _ _ _ rfl, List.getElem?_toArray]
  simp [List.getD, hij]
 ·have hj : j < n := by have := lt_of_some h2; rw [hn ds (List.mem_of_getElem? h1)] at this; exact this
  have hi := lt_of_some h1
  have hij : i * n + j < vs.length := by rw [hl]; have h3 : (i + 1) * n ≤ xs.length * n := Nat.mul_le_mul_right n hi; rw [Nat.succ_mul] at h3; omega
  have e := flatten_get hn h1 hj
  obtain ⟨_, fp, hfp, _, g⟩ := h
  have := ((g (i * n + j) vs[i * n + j] d (List.getElem?_eq_getElem hij) (by rw [e, h2])).later (below_new w (.cells vs.toArray T))).wide (P' := P) (fun b _ hb => hfp _ _ hb)
  simpa [List.getD, hij] using this
theorem has_new {w : World} {vs : List Value} (T : TypeId) {n k : Nat} {xs : List (List D)} (hn : ∀ ds ∈ xs, ds.length = n) (hk : k = xs.length) (h0 : 0 < k) (h : HasL w vs xs.flatten) :
  Has (w.alloc (.cells vs.toArray T)) (.slice (some ⟨w.heap.size, 0, none⟩) k k) (.row n xs) := holds_new T trivial hn hk h0 h
theorem hl_nil {P : Nat → Prop} {w : World} : HoldsL False P w [] [] := hasL_nil _ _ _
theorem hl_cons {P : Nat → Prop} {w : World} {c : Value} {d : D} {cs : List Value} {ds : List D} (h : Holds False P w c d) (h' : HoldsL False P w cs ds) : HoldsL False P w (c :: cs) (d :: ds) := by
 obtain ⟨hl, fp, hfp, _, g⟩ := h'
 refine ⟨by simp [hl], fun _ => P, fun _ _ h => h, fun s => s.elim, fun j c' d' hc hd => ?_⟩
 cases j with
 | zero => simp at hc hd; subst hc hd; exact h
 | succ j => exact (g j c' d' (by simpa using hc) (by simpa using hd)).wide (fun b _ hb => hfp _ _ hb)
theorem hl_int {P : Nat → Prop} {w : World} {x : Int} {cs : List Value} {ds : List D} (h : HoldsL False P w cs ds) : HoldsL False P w (.int .i64 x :: cs) (dI x :: ds) := hl_cons (has_int _ _ _ _) h
theorem Holds.loose {S : Prop} {P : Nat → Prop} {w : World} {v : Value} {d : D} (h : Holds S P w v d) : Holds False P w v d := by
 induction h with
 | atom P w v h1 => exact .atom _ _ _ h1
 | nil P w a cap n hop => exact .nil _ _ _ _ _
 | row P w b off cap n xs cs fp h0 hb hc hP hn hcell hrec hfp hb2 hd hop ih =>
  exact .row _ _ b off cap n xs cs fp h0 hb hc hP hn hcell (fun i j ds d h1 h2 => ih i j ds d h1 h2) hfp (fun s => s.elim) (fun s => s.elim)
theorem HoldsL.loose {S : Prop} {P : Nat → Prop} {w : World} {cs : List Value} {ds : List D} (h : HoldsL S P w cs ds) : HoldsL False P w cs ds := by
 obtain ⟨hl, fp, h1, _, g⟩ := h
 exact ⟨hl, fp, h1, fun s => s.elim, fun j c d hc hd => (g j c d hc hd).loose⟩
/-- Links are as they were where a cell of another block is written. -/
theorem links_far {w : World} {v : Value} {L : Lks} {k : Nat} (h : LinksAt w v L) (hk : ∀ b o n c, v = .slice (some ⟨b, o, none⟩) n c → 0 < n → b ≠ k) (j : Nat) (u : Value) : LinksAt (w.setCell ⟨k, j, none⟩ u) v L := by
 rcases h with h | ⟨b, off, len, cap, e, hl, hp, hb, hlc, hc⟩
 ·exact .inl h
 ·have hne := hk b off len cap e hp
  refine .inr ⟨b, off, len, cap, e, hl, hp, by simpa using hb, hlc, fun i hi => ⟨?_, ?_⟩⟩
  ·rw [World.cell?_setCell_other _ _ _ _ (fun e => by simp at e; done)]; exact (hc i hi).1
  ·rw [World.cell?_setCell_other _ _ _ _ (fun e => by simp at e; done)]; exact (hc i hi).2
end Go.Proofs.Ytiblcpkejhiehaa

namespace Go.Proofs.Ytiblcpkejhiehaa
open Go.RowKit Go.PlainAid
theorem has_yes (a : Option Addr) (len cap : Nat) (s : Int) (w : World) (h0 : 0 ≤ s) (h1 : s < len) :
  Calls Try.prog 48 #[.slice a len cap, .int .i64 s] w fun e w' => e = .returned (.bool true) ∧ w = w' := by
 have hd : decide (s < len) = true := by simp [h1]
 go_enter Try.func48, Try.ntmps48
 go_wp2_with fail
 go_ret
 exact ⟨rfl, rfl⟩
theorem has_no (a : Option Addr) (len cap : Nat) (s : Int) (w : World) (h : ¬ (0 ≤ s ∧ s < len)) :
  Calls Try.prog 48 #[.slice a len cap, .int .i64 s] w fun e w' => e = .returned (.bool false) ∧ w = w' := by
 by_cases h0 : 0 ≤ s
 ·have h1 : ¬ s < len := by omega
  clear h
  go_enter Try.func48, Try.ntmps48
  go_wp2_with fail
  go_ret
  exact ⟨rfl, rfl⟩
 ·clear h
  go_enter Try.func48, Try.ntmps48
  go_wp2_with fail
  go_ret
  exact ⟨rfl, rfl⟩
set_option maxHeartbeats 8000000 in
theorem placeOf_cells (b off len cap n : Nat) (b2 off2 len2 cap2 s : Nat) (m : Int) (a1 a2 a3 : Option Addr) (l1 l2 l3 p1 p2 p3 : Nat) (w : World) (hn : n < len) (hs : s < len2) (hb : b < w.heap.size) (hb2 : b2 < w.heap.size)
  (hc : w.cell? ⟨b, off + n * 2 + 1, none⟩ = some (.slice (some ⟨b2, off2, none⟩) len2 cap2))
  (c0 : w.cell? ⟨b2, off2 + s * 4, none⟩ = some (.int .i64 m)) (c1 : w.cell? ⟨b2, off2 + s * 4 + 1, none⟩ = some (.slice a1 l1 p1)) (c2 : w.cell? ⟨b2, off2 + s * 4 + 2, none⟩ = some (.slice a2 l2 p2)) (c3 : w.cell? ⟨b2, off2 + s * 4 + 3, none⟩ = some (.slice a3 l3 p3)) :
  Calls Try.prog 78 #[.slice (some ⟨b, off, none⟩) len cap, .int .i64 n, .int .i64 s] w fun e w' => e = .returned (.agg #[.int .i64 m, .slice a1 l1 p1, .slice a2 l2 p2, .slice a3 l3 p3, .int .i64 n, .slice (some ⟨b2, off2, none⟩) len2 cap2]) ∧ Below w.heap.size w w' := by
 go_enter Try.func78, Try.ntmps78
 go_wp2_with fail
 refine (has_yes _ _ _ _ _ (by omega) (by omega)).mono ?_
 rintro e w' ⟨rfl, rfl⟩
 go_wp2_with fail
 obtain ⟨wa, hwa⟩ : ∃ wa, wa = w.alloc (.cells #[.int .i64 0, .slice none 0 0, .slice none 0 0, .slice none 0 0, .int .i64 0, .slice none 0 0] 148) := ⟨_, rfl⟩
 have Hb := Lib.hid (show Below w.heap.size w wa by rw [hwa]; go_grown)
 have k := (Hb.out.cell (by exact hb)).trans hc
 have k0 := (Hb.out.cell (by exact hb2)).trans c0
 have k1 := (Hb.out.cell (by exact hb2)).trans c1
 have k2 := (Hb.out.cell (by exact hb2)).trans c2
 have k3 := (Hb.out.cell (by exact hb2)).trans c3
 have s0 : wa.cell? ⟨w.heap.size, 0, none⟩ = some (.int .i64 0) := by rw [hwa]; go_cell
 have s1 : wa.cell? ⟨w.heap.size, 1, none⟩ = some (.slice none 0 0) := by rw [hwa]; go_cell
 have s2 : wa.cell? ⟨w.heap.size, 2, none⟩ = some (.slice none 0 0) := by rw [hwa]; go_cell
 have s3 : wa.cell? ⟨w.heap.size, 3, none⟩ = some (.slice none 0 0) := by rw [hwa]; go_cell
 have s4 : wa.cell? ⟨w.heap.size, 4, none⟩ = some (.int .i64 0) := by rw [hwa]; go_cell
 have s5 : wa.cell? ⟨w.heap.size, 5, none⟩ = some (.slice none 0 0) := by rw [hwa]; go_cell
 have f0 : wa.frozen? ⟨w.heap.size, 0, none⟩ = false := by rw [hwa]; go_cell
 have f1 : wa.frozen? ⟨w.heap.size, 1, none⟩ = false := by rw [hwa]; go_cell
 have f2 : wa.frozen? ⟨w.heap.size, 2, none⟩ = false := by rw [hwa]; go_cell
 have f3 : wa.frozen? ⟨w.heap.size, 3, none⟩ = false := by rw [hwa]; go_cell
 have f4 : wa.frozen? ⟨w.heap.size, 4, none⟩ = false := by rw [hwa]; go_cell
 have f5 : wa.frozen? ⟨w.heap.size, 5, none⟩ = false := by rw [hwa]; go_cell
 rw [← hwa]
 clear hwa hc c0 c1 c2 c3
 go_region
 go_wp2_with fail
 refine bodyPost_ret (v := .agg #[.int .i64 m, .slice a1 l1 p1, .slice a2 l2 p2, .slice a3 l3 p3, .int .i64 n, .slice (some ⟨b2, off2, none⟩) len2 cap2]) (by simp [results, Try.results78, go_sem, s0, s1, s2, s3, s4, s5]) rfl ⟨rfl, ?_⟩
 have := Hb.out
 go_grown
def zpl : Value := .agg #[.int .i64 0, .slice none 0 0, .slice none 0 0, .slice none 0 0, .int .i64 0, .slice none 0 0]
set_option maxHeartbeats 8000000 in
theorem placeOf_out (a : Option Addr) (len cap : Nat) (n s : Int) (w : World) (hn : ¬ (0 ≤ n ∧ n < len)) :
  Calls Try.prog 78 #[.slice a len cap, .int .i64 n, .int .i64 s] w fun e w' => e = .returned zpl ∧ Below w.heap.size w w' := by
 by_cases h0 : n < 0
 ·clear hn
  go_enter Try.func78, Try.ntmps78
  go_wp2_with fail
  refine bodyPost_ret (v := zpl) (by simp [zpl, results, Try.results78, go_sem]) rfl ⟨rfl, ?_⟩
  go_grown
 ·have h1 : (len : Int) ≤ n := by omega
  have h0' : 0 ≤ n := by omega
  clear hn
  go_enter Try.func78, Try.ntmps78
  go_wp2_with fail
  refine bodyPost_ret (v := zpl) (by simp [zpl, results, Try.results78, go_sem]) rfl ⟨rfl, ?_⟩
  go_grown
set_option maxHeartbeats 8000000 in
theorem placeOf_none (b off len cap n : Nat) (a2 : Option Addr) (len2 cap2 : Nat) (s : Int) (w : World) (hn : n < len) (hs : ¬ (0 ≤ s ∧ s < len2)) (hb : b < w.heap.size)
  (hc : w.cell? ⟨b, off + n * 2 + 1, none⟩ = some (.slice a2 len2 cap2)) :
  Calls Try.prog 78 #[.slice (some ⟨b, off, none⟩) len cap, .int .i64 n, .int .i64 s] w fun e w' => e = .returned zpl ∧ Below w.heap.size w w' := by
 go_enter Try.func78, Try.ntmps78
 have Hs := Lib.hid hs
 clear hs
 go_wp2_with fail
 refine (has_no _ _ _ _ _ Hs.out).mono ?_
 rintro e w' ⟨rfl, rfl⟩
 go_wp2_with fail
 refine bodyPost_ret (v := zpl) (by simp [zpl, results, Try.results78, go_sem]) rfl ⟨rfl, ?_⟩
 go_grown
/-- A place, whatever its numbers: its values by name. -/
def IsPl (w : World) (p : Pl) (v : Value) : Prop := ∃ cs, v = .agg ⟨cs⟩ ∧ HasL w cs p.d
theorem placeOf_in (M : Tab) (n s : Int) (v : Value) (w0 w : World) (h : Has w0 v (dTab M)) (h0 : Below w0.heap.size w0 w) :
  Calls Try.prog 78 #[v, .int .i64 n, .int .i64 s] w fun e w' => ∃ u, e = .returned u ∧ IsPl w0 (plAt M n s) u ∧ Below w.heap.size w w' := by
 have hz := h0.size
 by_cases hn : 0 ≤ n ∧ n < M.length
 ·obtain ⟨k, rfl⟩ := Int.eq_ofNat_of_zero_le hn.1
  obtain ⟨x, hx⟩ := get_of_lt (l := M) (i := k) (by omega)
  obtain ⟨b, off, cap, vs, rfl, hb, hcap, c0, c1, hS⟩ := nd_cells h hx
  have hnd : ndAt M k = x := by unfold ndAt; simp [List.getD, hx]
  have c1' := (h0.cell (by exact hb)).trans c1
  by_cases hs : 0 ≤ s ∧ s < x.states.length
  ·obtain ⟨j, rfl⟩ := Int.eq_ofNat_of_zero_le hs.1
   obtain ⟨t, ht⟩ := get_of_lt (l := x.states) (i := j) (by omega)
   obtain ⟨b2, off2, cap2, v1, v2, v3, rfl, hb2, hcap2, d0, d1, d2, d3, h1, h2, h3⟩ := st_cells hS ht
   obtain ⟨a1, p1, rfl⟩ := slice_of h1
   obtain ⟨a2, p2, rfl⟩ := slice_of h2
   obtain ⟨a3, p3, rfl⟩ := slice_of h3
   rw [plAt_of hx ht]
   refine (placeOf_cells b off M.length cap k b2 off2 x.states.length cap2 j t.mode a1 a2 a3 _ _ _ p1 p2 p3 w (lt_of_get hx) (lt_of_get ht) (Nat.lt_of_lt_of_le hb hz) (Nat.lt_of_lt_of_le hb2 hz) c1' ((h0.cell (by exact hb2)).trans d0) ((h0.cell (by exact hb2)).trans d1) ((h0.cell (by exact hb2)).trans d2) ((h0.cell (by exact hb2)).trans d3)).mono ?_
   rintro e w' ⟨rfl, hbel⟩
   exact ⟨_, rfl, ⟨_, rfl, pl_hasL (p := ⟨t, k, x.states⟩) h1 h2 h3 hS⟩, hbel⟩
  ·rw [plAt_no (fun g => hs (by have := g.2.2; rw [hnd] at this; exact this))]
   obtain ⟨a2, p2, rfl⟩ := slice_of hS
   refine (placeOf_none b off M.length cap k a2 _ p2 s w (lt_of_get hx) hs (Nat.lt_of_lt_of_le hb hz) c1').mono ?_
   rintro e w' ⟨rfl, hbel⟩
   exact ⟨_, rfl, ⟨_, rfl, zero_pl _⟩, hbel⟩
 ·rw [plAt_no (fun g => hn ⟨g.1, g.2.1⟩)]
  obtain ⟨a, cap, rfl⟩ := slice_of h
  refine (placeOf_out a _ cap n s w hn).mono ?_
  rintro e w' ⟨rfl, hbel⟩
  exact ⟨_, rfl, ⟨_, rfl, zero_pl _⟩, hbel⟩
theorem IsPl.later {w w' : World} {p : Pl} {v : Value} (h : IsPl w p v) (hb : Below w.heap.size w w') : IsPl w' p v := by
 obtain ⟨cs, rfl, hc⟩ := h
 exact ⟨cs, rfl, hc.later hb⟩
theorem placeOf_at (M : Tab) (n s : Int) (v : Value) (w : World) (h : Has w v (dTab M)) :
  Calls Try.prog 78 #[v, .int .i64 n, .int .i64 s] w fun e w' => ∃ u, e = .returned u ∧ IsPl w' (plAt M n s) u ∧ Below w.heap.size w w' := by
 refine (placeOf_in M n s v w w h (Below.refl _ _)).mono ?_
 rintro e w' ⟨u, rfl, hu, hb⟩
 exact ⟨u, rfl, hu.later hb, hb⟩
end Go.Proofs.Ytiblcpkejhiehaa

namespace Go.Proofs.Ytiblcpkejhiehaa
open Go.RowKit Go.PlainAid
def fresh (w : World) : Nat → Prop := fun k => w.heap.size ≤ k
theorem infoI : (Try.prog.info? 3).map (fun i => (i.zero, i.size, i.bytes)) = some (some (.int .i64 0), 1, 8) := by kernel_rfl
theorem infoSend : (Try.prog.info? 125).map (fun i => (i.zero, i.size, i.bytes)) = some (some (.agg #[.int .i64 0, .int .i64 0]), 2, 16) := by kernel_rfl
set_option maxRecDepth 100000 in
theorem clone_some (ad : Addr) (n cap : Nat) (xs : List Int) (w : World) (h : Has w (.slice (some ad) n cap) (dInts xs)) (hn : n ≤ 1000000) :
  Calls Try.prog 81 #[.slice (some ad) n cap] w fun e w' => ∃ u, e = .returned u ∧ Holds True (fresh w) w' u (dInts xs) ∧ Below w.heap.size w w' := by
 obtain ⟨i0, hi0, hz0, hz1, hz2⟩ := info_parts infoI
 have H := Lib.hid (Holds.later h (below_new w (.cells #[] 3)))
 have O := Lib.hid (Own.made (S := True) (P := fresh w) (E := 3) (n := 1) (Below.refl w.heap.size w))
 have hq := @Lib.run_eql_slice_nil Try.prog
 clear h
 go_enter Try.func81, Try.ntmps81
 go_wp2_with (at_builtin; refine app_rows rfl _ _ 28 3 i0 (.int .i64 0) 1 8 rfl Try.underlying28 hi0 hz0 hz1 hz2 rfl (by decide) True (fresh w) w _ _ [] _ 0 n cap n rfl O.out rfl (some ad) rfl H.out (flat_ints xs) (Nat.zero_add n) ?c1 ?c2 ?_)
 case c1 => unfold maxLen; omega
 case c2 => omega
 intro ao cv w' hO _
 have R := Lib.hid (show Holds True (fresh w) w' (.slice ao n cv) (dInts xs) from hO.holds fun k hk => (hO.ge k hk).1)
 have B := Lib.hid hO.bel
 clear hO
 go_wp2_with fail
 go_ret
 exact ⟨_, rfl, R.out, B.out⟩
set_option maxRecDepth 100000 in
theorem clone_none (n cap : Nat) (w : World) :
  Calls Try.prog 81 #[.slice none n cap] w fun e w' => e = .returned (.slice none 0 0) ∧ w = w' := by
 have hq := @Lib.run_eql_slice_nil Try.prog
 go_enter Try.func81, Try.ntmps81
 go_wp2_with fail
 go_ret
 exact ⟨rfl, rfl⟩
theorem clone_ints (v : Value) (xs : List Int) (w : World) (h : Has w v (dInts xs)) (hn : xs.length ≤ 1000000) :
  Calls Try.prog 81 #[v] w fun e w' => ∃ u, e = .returned u ∧ Holds True (fresh w) w' u (dInts xs) ∧ Below w.heap.size w w' := by
 obtain ⟨a, c, rfl⟩ := Holds.len h
 rw [List.length_map] at h ⊢
 cases a with
 | some ad => exact clone_some ad _ c xs w h hn
 | none =>
  refine (clone_none _ c w).mono ?_
  rintro e w' ⟨rfl, rfl⟩
  obtain rfl : xs = [] := by simpa using (Has.none h rfl).1
  exact ⟨_, rfl, .nil _ _ _ _ _, Below.refl _ _⟩
set_option maxRecDepth 100000 in
theorem cloneS_some (ad : Addr) (n cap : Nat) (xs : Lks) (w : World) (h : Has w (.slice (some ad) n cap) (dLinks xs)) (hn : n ≤ 1000000) :
  Calls Try.prog 97 #[.slice (some ad) n cap] w fun e w' => ∃ u, e = .returned u ∧ Holds True (fresh w) w' u (dLinks xs) ∧ Below w.heap.size w w' := by
 obtain ⟨i0, hi0, hz0, hz1, hz2⟩ := info_parts infoSend
 have H := Lib.hid (Holds.later h (below_new w (.cells #[] 125)))
 have O := Lib.hid (Own.made (S := True) (P := fresh w) (E := 125) (n := 2) (Below.refl w.heap.size w))
 have hq := @Lib.run_eql_slice_nil Try.prog
 clear h
 go_enter Try.func97, Try.ntmps97
 go_wp2_with (at_builtin; refine app_rows rfl _ _ 126 125 i0 (.agg #[.int .i64 0, .int .i64 0]) 2 16 rfl Try.underlying126 hi0 hz0 hz1 hz2 rfl (by decide) True (fresh w) w _ _ [] _ 0 n cap n rfl O.out rfl (some ad) rfl H.out (flat_links xs) (Nat.zero_add n) ?c1 ?c2 ?_)
 case c1 => unfold maxLen; omega
 case c2 => omega
 intro ao cv w' hO _
 have R := Lib.hid (show Holds True (fresh w) w' (.slice ao n cv) (dLinks xs) from hO.holds fun k hk => (hO.ge k hk).1)
 have B := Lib.hid hO.bel
 clear hO
 go_wp2_with fail
 go_ret
 exact ⟨_, rfl, R.out, B.out⟩
set_option maxRecDepth 100000 in
theorem cloneS_none (n cap : Nat) (w : World) :
  Calls Try.prog 97 #[.slice none n cap] w fun e w' => e = .returned (.slice none 0 0) ∧ w = w' := by
 have hq := @Lib.run_eql_slice_nil Try.prog
 go_enter Try.func97, Try.ntmps97
 go_wp2_with fail
 go_ret
 exact ⟨rfl, rfl⟩
theorem clone_sends (v : Value) (xs : Lks) (w : World) (h : Has w v (dLinks xs)) (hn : xs.length ≤ 1000000) :
  Calls Try.prog 97 #[v] w fun e w' => ∃ u, e = .returned u ∧ Holds True (fresh w) w' u (dLinks xs) ∧ Below w.heap.size w w' := by
 obtain ⟨a, c, rfl⟩ := Holds.len h
 rw [List.length_map] at h ⊢
 cases a with
 | some ad => exact cloneS_some ad _ c xs w h hn
 | none =>
  refine (cloneS_none _ c w).mono ?_
  rintro e w' ⟨rfl, rfl⟩
  obtain rfl : xs = [] := by simpa using (Has.none h rfl).1
  exact ⟨_, rfl, .nil _ _ _ _ _, Below.refl _ _⟩
end Go.Proofs.Ytiblcpkejhiehaa

