/- Texts put together. -/
import Derived.Test.YtennbiajnkobnaaQ00
import Derived.Laws.AppendOwn
import Derived.Laws.AppendOwnNone
import Derived.OneCell
namespace Go.Proofs.Ytennbiajnkobnaa
open Go.RowKit Go.PlainAid
/-- Data: one cell, or a row of things of n cells each. -/
inductive D where
 | atom (v : Value)
 | row (n : Nat) (xs : List (List D))
/-- These blocks are as they were. -/
def SameOn (P : Nat → Prop) (w w' : World) : Prop := w.heap.size ≤ w'.heap.size ∧ ∀ b, P b → b < w.heap.size → w'.heap[b]? = w.heap[b]?
theorem SameOn.of_below {P : Nat → Prop} {w w' : World} (h : Below w.heap.size w w') : SameOn P w w' := ⟨h.size, fun b _ hb => h.block b hb⟩
theorem SameOn.sub {P P' : Nat → Prop} {w w' : World} (h : SameOn P w w') (hs : ∀ b, P' b → P b) : SameOn P' w w' := ⟨h.1, fun b p hb => h.2 b (hs b p) hb⟩
theorem SameOn.cell {P : Nat → Prop} {w w' : World} {a : Addr} (h : SameOn P w w') (hp : P a.block) (hb : a.block < w.heap.size) : w'.cell? a = w.cell? a := World.cell?_of_block (h.2 _ hp hb)
theorem below_new (w : World) (o : Obj) : Below w.heap.size w (w.alloc o) := (Below.refl _ w).alloc (Nat.le_refl _) o
/-- A row's block that may be written: all of it is the row's room. -/
def OpenRow (w : World) (b cap n : Nat) : Prop := cap ≤ maxLen ∧ ∃ cur e, w.heap[b]? = some (.cells cur e (0, 0)) ∧ cur.size = cap * n
theorem OpenRow.same {P : Nat → Prop} {w w' : World} {b cap n : Nat} (h : OpenRow w b cap n) (hs : SameOn P w w') (hP : P b) (hb : b < w.heap.size) : OpenRow w' b cap n := by
 obtain ⟨h1, cur, e, h2, h3⟩ := h
 exact ⟨h1, cur, e, (hs.2 b hP hb).trans h2, h3⟩
/-- A value holds data, in blocks of P; where S is so, no two parts lie in one block, and each may be written. -/
inductive Holds (S : Prop) : (Nat → Prop) → World → Value → D → Prop where
  | atom (P : Nat → Prop) (w : World) (v : Value) (h1 : v.oneCell' = true) : Holds S P w v (.atom v)
  | nil (P : Nat → Prop) (w : World) (a : Option Addr) (cap n : Nat) (hop : S → cap = 0 ∨ ∃ b, a = some ⟨b, 0, none⟩ ∧ P b ∧ b < w.heap.size ∧ OpenRow w b cap n := by first | exact fun s => s.elim | exact fun _ => .inl rfl) : Holds S P w (.slice a 0 cap) (.row n [])
  | row (P : Nat → Prop) (w : World) (b off cap n : Nat) (xs : List (List D)) (cs : Nat → Nat → Value) (fp : Nat → Nat → Nat → Prop) (h0 : 0 < xs.length) (hb : b < w.heap.size) (hc : xs.length ≤ cap) (hP : P b)
      (hn : ∀ (i : Nat) (ds : List D), xs[i]? = some ds → ds.length = n) (hcell : ∀ (i j : Nat), i < xs.length → j < n → w.cell? ⟨b, off + i * n + j, none⟩ = some (cs i j))
      (hrec : ∀ (i j : Nat) (ds : List D) (d : D), xs[i]? = some ds → ds[j]? = some d → Holds S (fp i j) w (cs i j) d) (hfp : ∀ (i j k : Nat), fp i j k → P k) (hb2 : S → ∀ (i j : Nat), ¬ fp i j b)
      (hd : S → ∀ (i j i' j' k : Nat), fp i j k → fp i' j' k → i = i' ∧ j = j') (hop : S → off = 0 ∧ OpenRow w b cap n := by exact fun s => s.elim) : Holds S P w (.slice (some ⟨b, off, none⟩) xs.length cap) (.row n xs)
theorem Holds.same {S : Prop} {P : Nat → Prop} {w w' : World} {v : Value} {d : D} (h : Holds S P w v d) : SameOn P w w' → Holds S P w' v d := by
 induction h with
 | atom P w v h1 => intro _; exact .atom P w' v h1
 | nil P w a cap n hop =>
  intro hs
  refine .nil P w' a cap n (fun s => ?_)
  rcases hop s with h | ⟨b, h1, h2, h3, h4⟩
  ·exact .inl h
  ·exact .inr ⟨b, h1, h2, Nat.lt_of_lt_of_le h3 hs.1, h4.same hs h2 h3⟩
 | row P w b off cap n xs cs fp h0 hb hc hP hn hcell hrec hfp hb2 hd hop ih =>
  intro hs
  exact .row P w' b off cap n xs cs fp h0 (Nat.lt_of_lt_of_le hb hs.1) hc hP hn (fun i j hi hj => (hs.cell hP (by exact hb)).trans (hcell i j hi hj))
   (fun i j ds d h1 h2 => ih i j ds d h1 h2 (hs.sub (hfp i j))) hfp hb2 hd (fun s => ⟨(hop s).1, (hop s).2.same hs hP hb⟩)
theorem Holds.later {S : Prop} {P : Nat → Prop} {w w' : World} {v : Value} {d : D} (h : Holds S P w v d) (hb : Below w.heap.size w w') : Holds S P w' v d := h.same (.of_below hb)
theorem Holds.wide {S : Prop} {P P' : Nat → Prop} {w : World} {v : Value} {d : D} (h : Holds S P w v d) : (∀ b, b < w.heap.size → P b → P' b) → Holds S P' w v d := by
 induction h generalizing P' with
 | atom P w v h1 => intro _; exact .atom P' w v h1
 | nil P w a cap n hop =>
  intro hs
  refine .nil P' w a cap n (fun s => ?_)
  rcases hop s with h | ⟨b, h1, h2, h3, h4⟩
  ·exact .inl h
  ·exact .inr ⟨b, h1, hs b h3 h2, h3, h4⟩
 | row P w b off cap n xs cs fp h0 hb hc hP hn hcell hrec hfp hb2 hd hop ih =>
  intro hs
  exact .row P' w b off cap n xs cs (fun i j k => fp i j k ∧ k < w.heap.size) h0 hb hc (hs b hb hP) hn hcell
   (fun i j ds d h1 h2 => ih i j ds d h1 h2 (fun b hb p => ⟨p, hb⟩)) (fun i j k h => hs k h.2 (hfp i j k h.1)) (fun s i j h => hb2 s i j h.1) (fun s i j i' j' k h h' => hd s i j i' j' k h.1 h'.1) hop
/-- All blocks. -/
def All : Nat → Prop := fun _ => True
theorem Holds.weak {S : Prop} {P : Nat → Prop} {w : World} {v : Value} {d : D} (h : Holds S P w v d) : Holds False All w v d := by
 induction h with
 | atom P w v h1 => exact .atom All w v h1
 | nil P w a cap n hop => exact .nil All w a cap n (fun s => s.elim)
 | row P w b off cap n xs cs fp h0 hb hc hP hn hcell hrec hfp hb2 hd hop ih =>
  exact .row All w b off cap n xs cs (fun _ _ => All) h0 hb hc trivial hn hcell ih (fun _ _ _ _ => trivial) (fun s => s.elim) (fun s => s.elim) (fun s => s.elim)
/-- Plain reading. -/
abbrev Has (w : World) (v : Value) (d : D) : Prop := Holds False All w v d
theorem Holds.len {S : Prop} {P : Nat → Prop} {w : World} {v : Value} {n : Nat} {xs : List (List D)} (h : Holds S P w v (.row n xs)) : ∃ a cap, v = .slice a xs.length cap := by
 cases h with
 | nil => exact ⟨_, _, rfl⟩
 | row => exact ⟨_, _, rfl⟩
theorem Holds.val {S : Prop} {P : Nat → Prop} {w : World} {v u : Value} (h : Holds S P w v (.atom u)) : v = u := by cases h; rfl
theorem Holds.one {S : Prop} {P : Nat → Prop} {w : World} {v : Value} {d : D} (h : Holds S P w v d) : v.oneCell' = true := by
 cases h with
 | atom h1 => assumption
 | nil => rfl
 | row => rfl
theorem lt_of_some {α : Type} {l : List α} {i : Nat} {x : α} (h : l[i]? = some x) : i < l.length := (List.getElem?_eq_some_iff.1 h).1
theorem some_of_lt {α : Type} {l : List α} {i : Nat} (h : i < l.length) : ∃ x, l[i]? = some x := ⟨_, List.getElem?_eq_getElem h⟩
/-- Values hold a list of data, each in blocks of its own. -/
def HoldsL (S : Prop) (P : Nat → Prop) (w : World) (cs : List Value) (ds : List D) : Prop :=
 cs.length = ds.length ∧ ∃ fp : Nat → Nat → Prop, (∀ j k, fp j k → P k) ∧ (S → ∀ j j' k, fp j k → fp j' k → j = j') ∧ ∀ j c d, cs[j]? = some c → ds[j]? = some d → Holds S (fp j) w c d
theorem HoldsL.same {S : Prop} {P : Nat → Prop} {w w' : World} {cs : List Value} {ds : List D} (h : HoldsL S P w cs ds) (hs : SameOn P w w') : HoldsL S P w' cs ds := by
 obtain ⟨h1, fp, h2, h3, h4⟩ := h
 exact ⟨h1, fp, h2, h3, fun j c d hc hd => (h4 j c d hc hd).same (hs.sub (h2 j))⟩
theorem HoldsL.later {S : Prop} {P : Nat → Prop} {w w' : World} {cs : List Value} {ds : List D} (h : HoldsL S P w cs ds) (hb : Below w.heap.size w w') : HoldsL S P w' cs ds := h.same (.of_below hb)
theorem HoldsL.wide {S : Prop} {P P' : Nat → Prop} {w : World} {cs : List Value} {ds : List D} (h : HoldsL S P w cs ds) (hs : ∀ b, b < w.heap.size → P b → P' b) : HoldsL S P' w cs ds := by
 obtain ⟨h1, fp, h2, h3, h4⟩ := h
 exact ⟨h1, fun j k => fp j k ∧ k < w.heap.size, fun j k h => hs k h.2 (h2 j k h.1), fun s j j' k h h' => h3 s j j' k h.1 h'.1, fun j c d hc hd => (h4 j c d hc hd).wide (fun b hb p => ⟨p, hb⟩)⟩
theorem HoldsL.weak {S : Prop} {P : Nat → Prop} {w : World} {cs : List Value} {ds : List D} (h : HoldsL S P w cs ds) : HoldsL False All w cs ds := by
 obtain ⟨h1, fp, h2, h3, h4⟩ := h
 exact ⟨h1, fun _ => All, fun _ _ _ => trivial, fun s => s.elim, fun j c d hc hd => (h4 j c d hc hd).weak⟩
theorem hasL_nil (S : Prop) (P : Nat → Prop) (w : World) : HoldsL S P w [] [] := ⟨rfl, fun _ _ => False, fun _ _ h => h.elim, fun _ _ _ _ h => h.elim, fun j c d h => by simp at h⟩
abbrev HasL (w : World) (cs : List Value) (ds : List D) : Prop := HoldsL False All w cs ds
theorem HasL.cons {w : World} {cs : List Value} {d : D} {ds : List D} (h : HasL w cs (d :: ds)) : ∃ c cs', cs = c :: cs' ∧ Has w c d ∧ HasL w cs' ds := by
 obtain ⟨h1, fp, h2, h3, h4⟩ := h
 match cs, h1 with
 | c :: cs', h1 => exact ⟨c, cs', rfl, (h4 0 c d rfl rfl).weak, by simpa using h1, fun j => fp (j + 1), fun j k h => h2 _ k h, fun s => s.elim, fun j c d hc hd => h4 (j + 1) c d (by simpa using hc) (by simpa using hd)⟩
theorem HasL.nil {w : World} {cs : List Value} (h : HasL w cs []) : cs = [] := List.eq_nil_of_length_eq_zero h.1
theorem HasL.mk {w : World} {c : Value} {cs : List Value} {d : D} {ds : List D} (h : Has w c d) (h' : HasL w cs ds) : HasL w (c :: cs) (d :: ds) := by
 obtain ⟨h1, fp, h2, h3, h4⟩ := h'.weak
 refine ⟨by simp [h1], fun _ => All, fun _ _ _ => trivial, fun s => s.elim, fun j c' d' hc hd => ?_⟩
 cases j with
 | zero => simp at hc hd; subst hc hd; exact h.weak
 | succ j => exact (h4 j c' d' (by simpa using hc) (by simpa using hd)).weak
/-- An element's cells. -/
theorem Has.at {w : World} {v : Value} {n i : Nat} {xs : List (List D)} {ds : List D} (h : Has w v (.row n xs)) (hx : xs[i]? = some ds) :
  ∃ b off cap, v = .slice (some ⟨b, off, none⟩) xs.length cap ∧ b < w.heap.size ∧ xs.length ≤ cap ∧ ds.length = n ∧ ∃ cs, HasL w cs ds ∧ ∀ j c, cs[j]? = some c → w.cell? ⟨b, off + i * n + j, none⟩ = some c := by
 cases h with
 | nil => simp at hx
 | row _ _ b off cap n xs cs fp h0 hb hc hP hn hcell hrec hfp hb2 hd =>
  have hl := hn i ds hx
  refine ⟨b, off, cap, rfl, hb, hc, hl, (List.range n).map (cs i), ⟨by simp [hl], fun _ => All, fun _ _ _ => trivial, fun s => s.elim, fun j c d hc' hd' => ?_⟩, fun j c hc' => ?_⟩
  ·have hj := lt_of_some hd'
   rw [List.getElem?_map, List.getElem?_range (by omega)] at hc'
   simp at hc'
   subst hc'
   exact (hrec i j ds d hx hd').weak
  ·have hj := lt_of_some hc'
   simp at hj
   rw [List.getElem?_map, List.getElem?_range (by omega)] at hc'
   simp at hc'
   subst hc'
   exact hcell i j (lt_of_some hx) hj
def dI (a : Int) : D := .atom (.int .i64 a)
def dB (b : Bool) : D := .atom (.bool b)
def dInts (xs : List Int) : D := .row 1 (xs.map fun a => [dI a])
def dLinks (L : Lks) : D := .row 2 (L.map fun p => [dI p.1, dI p.2])
theorem has_int (S : Prop) (P : Nat → Prop) (w : World) (a : Int) : Holds S P w (.int .i64 a) (dI a) := .atom P w _ rfl
theorem has_bool (S : Prop) (P : Nat → Prop) (w : World) (a : Bool) : Holds S P w (.bool a) (dB a) := .atom P w _ rfl
theorem Has.ints {w : World} {v : Value} {xs : List Int} (h : Has w v (dInts xs)) : IntsAt w v xs := by
 by_cases h0 : xs.length = 0
 ·obtain rfl := List.length_eq_zero_iff.1 h0
  obtain ⟨a, cap, rfl⟩ := Holds.len h
  exact .inl ⟨a, cap, rfl, rfl⟩
 ·have key : ∀ i, i < xs.length → ∃ b off cap, v = .slice (some ⟨b, off, none⟩) xs.length cap ∧ b < w.heap.size ∧ xs.length ≤ cap ∧ w.cell? ⟨b, off + i, none⟩ = some (.int .i64 (xs.getD i 0)) := by
   intro i hi
   obtain ⟨b, off, cap, rfl, hb, hc, hl, cs, hcs, hcell⟩ := Has.at (i := i) (ds := [dI (xs.getD i 0)]) h (by simp [List.getD, hi])
   obtain ⟨c, cs', rfl, hc1, hc2⟩ := hcs.cons
   have e := Holds.val hc1
   subst e
   have := hcell 0 _ rfl
   rw [Nat.mul_one, Nat.add_zero] at this
   simp only [List.length_map] at hc ⊢
   exact ⟨b, off, cap, rfl, hb, hc, this⟩
  obtain ⟨b, off, cap, rfl, hb, hc, _⟩ := key 0 (by omega)
  refine .inr ⟨b, off, xs.length, cap, rfl, rfl, by omega, hb, hc, fun i hi => ?_⟩
  obtain ⟨b', off', cap', e, _, _, hx⟩ := key i hi
  simp only [Value.slice.injEq, Option.some.injEq, Addr.mk.injEq] at e
  obtain ⟨⟨rfl, rfl, _⟩, _, rfl⟩ := e
  exact hx
theorem Has.links {w : World} {v : Value} {L : Lks} (h : Has w v (dLinks L)) : LinksAt w v L := by
 by_cases h0 : L.length = 0
 ·obtain rfl := List.length_eq_zero_iff.1 h0
  obtain ⟨a, cap, rfl⟩ := Holds.len h
  exact .inl ⟨a, cap, rfl, rfl⟩
 ·have key : ∀ i, i < L.length → ∃ b off cap, v = .slice (some ⟨b, off, none⟩) L.length cap ∧ b < w.heap.size ∧ L.length ≤ cap ∧ w.cell? ⟨b, off + i * 2, none⟩ = some (.int .i64 (lk L i).1) ∧ w.cell? ⟨b, off + i * 2 + 1, none⟩ = some (.int .i64 (lk L i).2) := by
   intro i hi
   obtain ⟨b, off, cap, rfl, hb, hc, hl, cs, hcs, hcell⟩ := Has.at (i := i) (ds := [dI (lk L i).1, dI (lk L i).2]) h (by simp [lk, List.getD, hi])
   obtain ⟨c, cs', rfl, hc1, hc2⟩ := hcs.cons
   obtain ⟨c', cs2, rfl, hc3, hc4⟩ := HasL.cons hc2
   have e := Holds.val hc1
   have e' := Holds.val hc3
   subst e e'
   simp only [List.length_map] at hc ⊢
   exact ⟨b, off, cap, rfl, hb, hc, hcell 0 _ rfl, hcell 1 _ rfl⟩
  obtain ⟨b, off, cap, rfl, hb, hc, _⟩ := key 0 (by omega)
  refine .inr ⟨b, off, L.length, cap, rfl, rfl, by omega, hb, hc, fun i hi => ?_⟩
  obtain ⟨b', off', cap', e, _, _, hx⟩ := key i hi
  simp only [Value.slice.injEq, Option.some.injEq, Addr.mk.injEq] at e
  obtain ⟨⟨rfl, rfl, _⟩, _, rfl⟩ := e
  exact hx
theorem has_of_links {w : World} {v : Value} {L : Lks} (h : LinksAt w v L) : Has w v (dLinks L) := by
 rcases h with ⟨a, cap, rfl, rfl⟩ | ⟨b, off, len, cap, rfl, rfl, h3, h4, h6, h5⟩
 ·exact .nil _ _ _ _ _
 ·have e : L.length = (L.map fun p => [dI p.1, dI p.2]).length := by simp
  unfold dLinks
  rw [e]
  refine .row _ _ _ _ _ _ _ (fun i j => if j = 0 then .int .i64 (lk L i).1 else .int .i64 (lk L i).2) (fun _ _ => All) (by simpa using h3) h4 (by simpa using h6) trivial (fun i ds h => ?_) (fun i j hi hj => ?_) (fun i j ds d h1 h2 => ?_) (fun _ _ _ _ => trivial) (fun s => s.elim) (fun s => s.elim)
  ·simp at h; obtain ⟨_, _, _, rfl⟩ := h; rfl
  ·have := h5 i (by simpa using hi)
   rcases Nat.lt_or_ge j 1 with hj1 | hj1
   ·obtain rfl : j = 0 := by omega
    simpa using this.1
   ·obtain rfl : j = 1 := by omega
    simpa using this.2
  ·rw [List.getElem?_map, Option.map_eq_some_iff] at h1
   obtain ⟨p, ha, rfl⟩ := h1
   rw [show lk L i = p by simp [lk, List.getD, ha]]
   match j, h2 with
   | 0, h2 => simp at h2; subst h2; exact has_int _ _ _ _
   | 1, h2 => simp at h2; subst h2; exact has_int _ _ _ _
   | j + 2, h2 => simp at h2
end Go.Proofs.Ytennbiajnkobnaa
namespace Go.Proofs.Ytennbiajnkobnaa
open Go.RowKit Go.PlainAid
theorem flatten_len {n : Nat} : ∀ {ys : List (List D)}, (∀ ds ∈ ys, ds.length = n) → ys.flatten.length = ys.length * n
 | [], _ => by simp
 | ds :: r, h => by
  rw [List.flatten_cons, List.length_append, flatten_len (fun d hd => h d (List.mem_cons_of_mem _ hd)), h ds (List.mem_cons_self ..), List.length_cons, Nat.succ_mul, Nat.add_comm]
theorem flatten_get {n : Nat} : ∀ {ys : List (List D)} {i j : Nat} {ds : List D}, (∀ ds ∈ ys, ds.length = n) → ys[i]? = some ds → j < n → ys.flatten[i * n + j]? = ds[j]?
 | [], i, j, ds, _, h, _ => by simp at h
 | q :: r, 0, j, ds, hn, h, hj => by
  simp at h; subst h
  rw [List.flatten_cons, Nat.zero_mul, Nat.zero_add, List.getElem?_append_left (by rw [hn q (List.mem_cons_self ..)]; exact hj)]
 | q :: r, i + 1, j, ds, hn, h, hj => by
  have hq := hn q (List.mem_cons_self ..)
  rw [List.flatten_cons, List.getElem?_append_right (by rw [hq, Nat.succ_mul]; omega), hq, show (i + 1) * n + j - n = i * n + j by rw [Nat.succ_mul]; omega]
  exact flatten_get (fun d hd => hn d (List.mem_cons_of_mem _ hd)) (by simpa using h) hj
theorem grown_of_below {w w' : World} (h : Below w.heap.size w w') (row : Option Nat) : w.grownBy w' row := ⟨h.os, h.tape, h.output, h.size, fun k hk _ => h.block k hk⟩
/-- A row that the call is building: what it holds lies in blocks of P, below 'lim', and not in the row's own. -/
structure Own (S : Prop) (P : Nat → Prop) (E : TypeId) (n : Nat) (wb : World) (lim : Nat) (w : World) (v : Value) (xs : List (List D)) : Prop where
 bel : Below wb.heap.size wb w
 lim_le : lim ≤ w.heap.size
 blk : ∀ k, v.ownBlock = some k → k < lim
 ex : ∃ (cells : List Value) (cs : Nat → Nat → Value) (fp : Nat → Nat → Nat → Prop), w.ownsRow wb.heap.size E n v xs.length cells ∧ (∀ (i : Nat) (ds : List D), xs[i]? = some ds → ds.length = n) ∧
  (∀ i j, i < xs.length → j < n → cells[i * n + j]? = some (cs i j)) ∧ (∀ (i j : Nat) (ds : List D) (d : D), xs[i]? = some ds → ds[j]? = some d → Holds S (fp i j) w (cs i j) d) ∧
  (∀ i j k, fp i j k → P k ∧ k < lim ∧ v.ownBlock ≠ some k) ∧ (S → ∀ i j i' j' k, fp i j k → fp i' j' k → i = i' ∧ j = j')
theorem Own.nil {S : Prop} {P : Nat → Prop} {E : TypeId} {n : Nat} {wb w : World} (hb : Below wb.heap.size wb w) : Own S P E n wb w.heap.size w (.slice none 0 0) [] :=
 ⟨hb, Nat.le_refl _, fun k hk => by simp [Value.ownBlock] at hk, [], fun _ _ => .bool true, fun _ _ _ => False, World.ownsRow_nil _ _ _ _, fun i ds h => by simp at h, fun i j h => by simp at h, fun i j ds d h => by simp at h, fun _ _ _ h => h.elim, fun _ _ _ _ _ _ h => h.elim⟩
theorem Own.later {S : Prop} {P : Nat → Prop} {E : TypeId} {n lim : Nat} {wb w w' : World} {v : Value} {xs : List (List D)} (h : Own S P E n wb lim w v xs) (hb : Below w.heap.size w w') : Own S P E n wb lim w' v xs := by
 obtain ⟨h1, h2, h3, cells, cs, fp, h4, h5, h6, h7, h8, h9⟩ := h
 exact ⟨h1.trans (hb.mono h1.size), Nat.le_trans h2 hb.size, h3, cells, cs, fp, h4.kept (grown_of_below hb none) (by cases v.ownBlock <;> simp), h5, h6, fun i j ds d a b => (h7 i j ds d a b).later hb, h8, h9⟩
theorem Own.lift {S : Prop} {P : Nat → Prop} {E : TypeId} {n lim lim' : Nat} {wb w : World} {v : Value} {xs : List (List D)} (h : Own S P E n wb lim w v xs) (h1 : lim ≤ lim') (h2 : lim' ≤ w.heap.size) : Own S P E n wb lim' w v xs := by
 obtain ⟨g1, g2, g3, cells, cs, fp, h4, h5, h6, h7, h8, h9⟩ := h
 exact ⟨g1, h2, fun k hk => Nat.lt_of_lt_of_le (g3 k hk) h1, cells, cs, fp, h4, h5, h6, h7, fun i j k hf => ⟨(h8 i j k hf).1, Nat.lt_of_lt_of_le (h8 i j k hf).2.1 h1, (h8 i j k hf).2.2⟩, h9⟩
theorem Own.slice {S : Prop} {P : Nat → Prop} {E : TypeId} {n lim : Nat} {wb w : World} {v : Value} {xs : List (List D)} (h : Own S P E n wb lim w v xs) : ∃ a c, v = .slice a xs.length c := by
 obtain ⟨_, _, _, cells, cs, fp, h4, _⟩ := h
 exact owns_slice h4
theorem Own.ge {S : Prop} {P : Nat → Prop} {E : TypeId} {n lim : Nat} {wb w : World} {v : Value} {xs : List (List D)} (h : Own S P E n wb lim w v xs) : ∀ k, v.ownBlock = some k → wb.heap.size ≤ k ∧ k < w.heap.size := by
 obtain ⟨_, _, _, cells, cs, fp, h4, _⟩ := h
 exact h4.lt
/-- What the row holds at last. -/
theorem Own.holds {S : Prop} {P : Nat → Prop} {E : TypeId} {n lim : Nat} {wb w : World} {v : Value} {xs : List (List D)} (h : Own S P E n wb lim w v xs) (hP : ∀ k, v.ownBlock = some k → P k) : Holds S P w v (.row n xs) := by
 obtain ⟨h1, h2, h3, cells, cs, fp, h4, h5, h6, h7, h8, h9⟩ := h
 by_cases h0 : xs.length = 0
 ·obtain ⟨a, c, rfl⟩ := owns_slice h4
  obtain rfl := List.length_eq_zero_iff.1 h0
  refine .nil _ _ _ _ _ (fun _ => ?_)
  rcases h4.2 with ⟨e, _⟩ | ⟨g, cap, cur, e, hge, hg, hle, hmx, hcz, _⟩
  ·simp at e; exact .inl e.2
  ·simp at e
   obtain ⟨rfl, rfl⟩ := e
   exact .inr ⟨g, rfl, hP g rfl, lt_of_block hg, hmx, cur, E, hg, hcz⟩
 ·have hcell := fun g => h4.cells (g := g)
  rcases h4.2 with ⟨_, e⟩ | ⟨g, cap, cur, rfl, hge, hg, hle, hmx, hcz, _⟩
  ·exact absurd e h0
  ·refine .row P w g 0 cap n xs cs fp (by omega) (lt_of_block hg) hle (hP g rfl) h5 (fun i j hi hj => ?_) h7 (fun i j k hf => (h8 i j k hf).1) (fun _ i j hf => (h8 i j g hf).2.2 rfl) h9 (fun _ => ⟨rfl, hmx, cur, E, hg, hcz⟩)
   have := hcell g rfl _ _ (h6 i j hi hj)
   have e : (⟨g, 0, none⟩ : Addr).add (i * n + j) = ⟨g, 0 + i * n + j, none⟩ := by unfold Addr.add; split <;> simp_all
   rw [e] at this; exact this
/-- Where a row goes that is appended to. -/
theorem app_block {w w' : World} {base m n : Nat} {T ty E : TypeId} {i : TypeInfo} {z : Value} {size bytes : Nat} {v v' : Value} {xs news : List Value} {ad : Addr} {c : Nat} (ht : Try.prog.underlying T = some (.slice E)) (hi : Try.prog.info? E = some i) (hz : i.zero = some z)
  (hsize : i.size = size) (hby : i.bytes = bytes) (hzs : z.cells.size = size) (hsz : 0 < size) (hown : w.ownsRow base E size v n xs) (hl : news.length = m * size) (hnews : ∀ j u, news[j]? = some u → w.cell? (ad.add j) = some u) (h1 : ∀ u ∈ news, u.oneCell' = true)
  (h63 : n + m ≤ maxLen) (hbytes : (n + m) * bytes ≤ 140737488355328) (hr : (Builtin.append_ #[T, T] ty #[v, .slice (some ad) m c]).run Try.prog w = .ok v' w') :
  v'.ownBlock = v.ownBlock ∨ v'.ownBlock = some w.heap.size := by
 subst hsize hby
 have hb63 : ((n + m : Nat) : Int) ≤ 9223372036854775807 := by unfold maxLen at h63; omega
 rcases hown.2 with ⟨rfl, rfl⟩ | ⟨g, cap, cur, rfl, _, hg, hnc, _, hcs, _⟩
 ·by_cases hm : m = 0
  ·subst hm
   have hn : news = [] := List.eq_nil_of_length_eq_zero (by simpa using hl)
   subst hn
   obtain ⟨v1, w1, hr1, _, _, h4⟩ := run_append_own (P := Try.prog) w w.heap.size T ty E i z i.size i.bytes ht hi hz rfl rfl hzs hsz _ 0 [] (World.ownsRow_nil _ _ _ _) ad 0 c [] (by simp) (by simp) (by simp) (by unfold maxLen; omega) (by omega) (Nat.le_refl _)
   rw [hr1] at hr
   cases hr
   rw [h4.2 ⟨rfl, rfl⟩]
   exact .inl rfl
  ·have := run_append_nil (P := Try.prog) w T ty E i z ht hi hz ad m c news hl hnews (by omega) (by omega) (by have hb := hbytes; simp only [Nat.zero_add] at hb; omega)
   rw [this] at hr
   cases hr
   exact .inr rfl
 ·by_cases hroom : n + m ≤ cap
  ·have := run_append_room (P := Try.prog) w T ty E i ht hi g n cap cur hg ad m c news hl hnews h1 hroom (by rw [hl, hcs, ← Nat.add_mul]; exact Nat.mul_le_mul_right _ hroom)
   rw [this] at hr
   cases hr
   exact .inl rfl
  ·have := run_append_grow (P := Try.prog) w T ty E i z ht hi hz ⟨g, 0, none⟩ n cap xs hown.1 (hown.cells (g := g) rfl) ad m c news hl hnews (by omega) hb63 (growslice_fits (by omega) hbytes)
   rw [this] at hr
   cases hr
   exact .inr rfl
/-- What a row owns is fixed by the memory, but for what lies beyond its length. -/
theorem ownsRow_det {w : World} {base n k : Nat} {E : TypeId} {v : Value} {a b : List Value} (h : w.ownsRow base E n v k a) (h' : w.ownsRow base E n v k b) : a = b := by
 rcases h.2 with ⟨rfl, rfl⟩ | ⟨g, cap, cur, rfl, _, hg, _, _, _, ht⟩
 ·have e1 := h.1
  have e2 := h'.1
  simp at e1 e2
  rw [e1, e2]
 ·rcases h'.2 with ⟨e, _⟩ | ⟨g', cap', cur', e, _, hg', _, _, _, ht'⟩
  ·cases e
  ·simp only [Value.slice.injEq, Option.some.injEq, Addr.mk.injEq] at e
   obtain ⟨⟨rfl, _⟩, _, _⟩ := e
   rw [hg] at hg'
   simp only [Option.some.injEq, Obj.cells.injEq] at hg'
   obtain ⟨rfl, _⟩ := hg'
   rw [← ht, ← ht']
theorem Own.push {S : Prop} {P : Nat → Prop} {E : TypeId} {n lim m : Nat} {wb w w' : World} {v v' : Value} {xs ys : List (List D)} {news : List Value} (h : Own S P E n wb lim w v xs) (hy : ∀ ds ∈ ys, ds.length = n) (hm : ys.length = m)
  (hh : HoldsL S (fun k => P k ∧ v.ownBlock ≠ some k ∧ (S → lim ≤ k)) w news ys.flatten) (hb : v'.ownBlock = v.ownBlock ∨ v'.ownBlock = some w.heap.size)
  (hg : w.grownBy w' v.ownBlock) (hown : ∀ cells, w.ownsRow wb.heap.size E n v xs.length cells → w'.ownsRow wb.heap.size E n v' (xs.length + m) (cells ++ news)) : Own S P E n wb w'.heap.size w' v' (xs ++ ys) := by
 obtain ⟨h1, h2, h3, cells, cs, fp, h4, h5, h6, h7, h8, h9⟩ := h
 obtain ⟨hl, gp, g1, g2, g3⟩ := hh
 have hlt := h4.lt
 have hbl : ∀ k, v'.ownBlock = some k → k < w'.heap.size := fun k hk => ((hown cells h4).lt k hk).2
 have hk' : ∀ k, k < w.heap.size → v.ownBlock ≠ some k → v'.ownBlock ≠ some k := by
  intro k hk hne e
  rcases hb with hb | hb
  ·rw [hb] at e; exact hne e
  ·rw [hb] at e; simp at e; omega
 have hsame : ∀ Q : Nat → Prop, (∀ k, Q k → v.ownBlock ≠ some k) → SameOn Q w w' := fun Q hQ => ⟨hg.size, fun b hq hb => hg.block b hb (fun e => hQ b hq e.symm)⟩
 have hcl : cells.length = xs.length * n := h4.1
 refine ⟨h1.grown hg h1.size (fun k hk => (hlt k hk).1), Nat.le_refl _, hbl, cells ++ news, fun i j => if i < xs.length then cs i j else news.getD ((i - xs.length) * n + j) (.bool true),
  fun i j k => if i < xs.length then fp i j k else gp ((i - xs.length) * n + j) k ∧ j < n ∧ k < w.heap.size, by rw [List.length_append, hm]; exact hown cells h4, fun i ds hi => ?_, fun i j hi hj => ?_, fun i j ds d hi hj => ?_, fun i j k hf => ?_, fun s i j i' j' k hf hf' => ?_⟩
 ·rw [List.getElem?_append] at hi
  split at hi
  ·exact h5 i ds hi
  ·exact hy ds (List.mem_of_getElem? hi)
 ·by_cases hix : i < xs.length
  ·simp only [if_pos hix]
   rw [List.getElem?_append_left (by rw [hcl]; exact Nat.lt_of_lt_of_le (Nat.lt_of_lt_of_le (Nat.add_lt_add_left hj _) (by rw [← Nat.succ_mul]; exact Nat.le_refl _)) (Nat.mul_le_mul_right n hix))]
   exact h6 i j hix hj
  ·simp only [if_neg hix]
   have e : i * n + j = cells.length + ((i - xs.length) * n + j) := by
    rw [hcl, ← Nat.add_assoc, ← Nat.add_mul]; congr 2; omega
   rw [e, List.getElem?_append_right (by omega), Nat.add_sub_cancel_left]
   have hlt : (i - xs.length) * n + j < news.length := by
    rw [hl, flatten_len hy]
    rw [List.length_append] at hi
    exact Nat.lt_of_lt_of_le (Nat.lt_of_lt_of_le (Nat.add_lt_add_left hj _) (by rw [← Nat.succ_mul]; exact Nat.le_refl _)) (Nat.mul_le_mul_right n (show i - xs.length + 1 ≤ ys.length by omega))
   simp [List.getD, hlt]
 ·by_cases hix : i < xs.length
  ·simp only [if_pos hix]
   rw [List.getElem?_append_left hix] at hi
   exact (h7 i j ds d hi hj).same (hsame _ fun k hf => (h8 i j k hf).2.2)
  ·simp only [if_neg hix]
   rw [List.getElem?_append_right (by omega)] at hi
   have hjn : j < n := by rw [← hy ds (List.mem_of_getElem? hi)]; exact lt_of_some hj
   have hf := flatten_get hy hi hjn
   rw [hj] at hf
   have hlt : (i - xs.length) * n + j < news.length := by rw [hl]; exact lt_of_some hf
   have := g3 _ _ _ (List.getElem?_eq_getElem hlt) hf
   rw [show news.getD ((i - xs.length) * n + j) (.bool true) = news[(i - xs.length) * n + j] by simp [List.getD, hlt]]
   exact (this.wide (P' := fun k => gp ((i - xs.length) * n + j) k ∧ j < n ∧ k < w.heap.size) (fun b hb p => ⟨p, hjn, hb⟩)).same (hsame _ fun k hf => (g1 _ k hf.1).2.1)
 ·by_cases hix : i < xs.length
  ·simp only [if_pos hix] at hf
   obtain ⟨a, b, c⟩ := h8 i j k hf
   exact ⟨a, by have := hg.size; omega, hk' k (by omega) c⟩
  ·simp only [if_neg hix] at hf
   obtain ⟨a, b, c⟩ := g1 _ k hf.1
   exact ⟨a, by have := hg.size; omega, hk' k hf.2.2 b⟩
 ·by_cases hix : i < xs.length <;> by_cases hix' : i' < xs.length
  ·simp only [if_pos hix] at hf
   simp only [if_pos hix'] at hf'
   exact h9 s i j i' j' k hf hf'
  ·simp only [if_pos hix] at hf
   simp only [if_neg hix'] at hf'
   have a := (h8 i j k hf).2.1
   have b := (g1 _ k hf'.1).2.2 s
   omega
  ·simp only [if_neg hix] at hf
   simp only [if_pos hix'] at hf'
   have a := (h8 i' j' k hf').2.1
   have b := (g1 _ k hf.1).2.2 s
   omega
  ·simp only [if_neg hix] at hf
   simp only [if_neg hix'] at hf'
   have e := g2 s _ _ k hf.1 hf'.1
   have h1 := hf.2.1
   have h2 := hf'.2.1
   have hd : ∀ a b : Nat, b < n → (a * n + b) / n = a ∧ (a * n + b) % n = b := fun a b hb => by
    have hn : 0 < n := by omega
    rw [Nat.mul_comm]
    exact ⟨by rw [Nat.mul_add_div hn, Nat.div_eq_of_lt hb, Nat.add_zero], by rw [Nat.mul_add_mod, Nat.mod_eq_of_lt hb]⟩
   have d1 := hd (i - xs.length) j h1
   have d2 := hd (i' - xs.length) j' h2
   rw [e] at d1
   omega
/-- append to a row that the call is building. -/
theorem app_own {ops : Array Oper} {rest : List Oper} {o : Oper} {a : Act} {Q : Exit → Act → World → Prop} {w : World} (hgd : o.guard = none) (s x : Operand) (T E : TypeId) (i : TypeInfo) (z : Value) (n bytes : Nat)
  (ho : o.op = .call { callee := .builtin .append, args := #[s, x], argTypes := #[T, T] }) (ht : Try.prog.underlying T = some (.slice E)) (hi : Try.prog.info? E = some i) (hz : i.zero = some z) (hsize : i.size = n) (hby : i.bytes = bytes) (hzs : z.cells.size = n) (hsz : 0 < n)
  (S : Prop) (P : Nat → Prop) (wb : World) (lim : Nat) (v : Value) (xs ys : List (List D)) (k m c : Nat) (hs : a.eval s = v) (h : Own S P E n wb lim w v xs) (hk : xs.length = k) (ad : Addr) (hx : a.eval x = .slice (some ad) m c) (news : List Value)
  (hnews : ∀ j u, news[j]? = some u → w.cell? (ad.add j) = some u) (hy : ∀ ds ∈ ys, ds.length = n) (hm : ys.length = m) (hh : HoldsL S (fun k => P k ∧ v.ownBlock ≠ some k ∧ (S → lim ≤ k)) w news ys.flatten) (h63 : k + m ≤ maxLen) (hbytes : (k + m) * bytes ≤ 140737488355328)
  (K : ∀ ao cv w', Own S P E n wb w'.heap.size w' (.slice ao (k + m) cv) (xs ++ ys) → w.grownBy w' v.ownBlock → wpList Try.prog ops Q rest (a.put o.dst (.slice ao (k + m) cv)) w') : wpList Try.prog ops Q (o :: rest) a w := by
 subst hk
 have hl : news.length = m * n := by rw [hh.1, flatten_len hy, hm]
 have h1 : ∀ u ∈ news, u.oneCell' = true := by
  intro u hu
  obtain ⟨j, hj, rfl⟩ := List.getElem_of_mem hu
  obtain ⟨hl', gp, _, _, g3⟩ := hh
  exact (g3 j _ _ (List.getElem?_eq_getElem hj) (List.getElem?_eq_getElem (by omega))).one
 obtain ⟨cells, cs, fp, h4, _⟩ := h.ex
 obtain ⟨v', w', hr, hown, hg, _⟩ := run_append_own (P := Try.prog) w wb.heap.size T o.type E i z n bytes ht hi hz hsize hby hzs hsz v xs.length cells h4 ad m c news hl hnews h1 h63 hbytes h.bel.size
 have hb := app_block ht hi hz hsize hby hzs hsz h4 hl hnews h1 h63 hbytes hr
 refine wpList_plain hgd fun K' hK => ?_
 unfold Oper.wp execOp
 simp only [ho, resolve, invoke, builtin, Sem.run_bind, Sem.run_pure, Result.andThen_ok, List.map_toArray, List.map_cons, List.map_nil, hs, hx, hr]
 obtain ⟨ao, cv, rfl⟩ := owns_slice hown
 refine hK _ _ (K ao cv w' (h.push hy hm hh hb hg fun cells' hc => ?_) hg)
 have : cells' = cells := ownsRow_det hc h4
 rw [this]; exact hown
end Go.Proofs.Ytennbiajnkobnaa
namespace Go.Proofs.Ytennbiajnkobnaa
open Go.RowKit Go.PlainAid
theorem Own.made {S : Prop} {P : Nat → Prop} {E : TypeId} {n : Nat} {wb w : World} (hb : Below wb.heap.size wb w) : Own S P E n wb (w.heap.size + 1) (w.alloc (.cells #[] E)) (.slice (some ⟨w.heap.size, 0, none⟩) 0 0) [] := by
 refine ⟨hb.alloc hb.size _, by simp, fun k hk => ?_, [], fun _ _ => .bool true, fun _ _ _ => False, World.ownsRow_made w #[] 0 hb.size (Nat.zero_le _) (by simp), fun i ds h => by simp at h, fun i j h => by simp at h, fun i j ds d h => by simp at h, fun _ _ _ h => h.elim, fun _ _ _ _ _ _ h => h.elim⟩
 simp [Value.ownBlock] at hk; omega
/-- The cells of a slice's elements. -/
theorem Has.news {w : World} {ad : Addr} {m c n : Nat} {ys : List (List D)} (h : Has w (.slice (some ad) m c) (.row n ys)) :
  m = ys.length ∧ (∀ ds ∈ ys, ds.length = n) ∧ ∃ news, (∀ j u, news[j]? = some u → w.cell? (ad.add j) = some u) ∧ HasL w news ys.flatten := by
 by_cases h0 : ys.length = 0
 ·obtain rfl := List.length_eq_zero_iff.1 h0
  obtain ⟨a, cap, e⟩ := Holds.len h
  simp only [Value.slice.injEq] at e
  exact ⟨e.2.1, by simp, [], by simp, hasL_nil _ _ _⟩
 ·cases h with
  | nil => simp at h0
  | row _ _ b off cap n xs cs fp h0 hb hc hP hn hcell hrec hfp hb2 hd =>
   have hy : ∀ ds ∈ ys, ds.length = n := fun ds hds => by obtain ⟨i, hi⟩ := List.mem_iff_getElem?.1 hds; exact hn i ds hi
   have hl := flatten_len hy
   refine ⟨rfl, hy, (List.range (ys.length * n)).map (fun t => cs (t / n) (t % n)), fun j u hu => ?_, by simp [hl], fun _ => All, fun _ _ _ => trivial, fun s => s.elim, fun j c d hc hd => ?_⟩
   ·have hj := lt_of_some hu
    simp at hj
    rw [List.getElem?_map, List.getElem?_range hj] at hu
    simp at hu
    subst hu
    have hn0 : 0 < n := by rcases Nat.eq_zero_or_pos n with rfl | h; simp at hj; exact h
    have := hcell (j / n) (j % n) (Nat.div_lt_of_lt_mul (by rw [Nat.mul_comm]; exact hj)) (Nat.mod_lt _ hn0)
    have e : off + j / n * n + j % n = off + j := by rw [Nat.add_assoc, Nat.mul_comm, Nat.div_add_mod]
    rw [e] at this
    rw [Go.WideShapes.add_plain]; exact this
   ·have hj := lt_of_some hd
    rw [hl] at hj
    rw [List.getElem?_map, List.getElem?_range hj] at hc
    simp at hc
    subst hc
    have hn0 : 0 < n := by rcases Nat.eq_zero_or_pos n with rfl | h; simp at hj; exact h
    obtain ⟨ds, hds⟩ := some_of_lt (l := ys) (i := j / n) (Nat.div_lt_of_lt_mul (by rw [Nat.mul_comm]; exact hj))
    have hf := flatten_get hy hds (Nat.mod_lt j hn0)
    rw [Nat.mul_comm, Nat.div_add_mod, hd] at hf
    exact (hrec _ _ ds d hds hf.symm).weak
theorem Has.none {w : World} {v : Value} {m c n : Nat} {ys : List (List D)} (h : Has w v (.row n ys)) (hv : v = .slice none m c) : ys = [] ∧ m = 0 := by
 cases h with
 | nil => simp at hv; exact ⟨rfl, hv.2.1.symm⟩
 | row => simp at hv
def Flat (ds : List D) : Prop := ∀ d ∈ ds, ∃ v, d = .atom v
theorem HasL.flat {S : Prop} {P : Nat → Prop} {w : World} {cs : List Value} {ds : List D} (h : HasL w cs ds) (hf : Flat ds) : HoldsL S P w cs ds := by
 obtain ⟨h1, fp, h2, h3, h4⟩ := h
 refine ⟨h1, fun _ _ => False, fun _ _ h => h.elim, fun _ _ _ _ h => h.elim, fun j c d hc hd => ?_⟩
 have hh := h4 j c d hc hd
 obtain ⟨v, rfl⟩ := hf d (List.mem_of_getElem? hd)
 have e := hh.val
 subst e
 exact .atom _ _ _ hh.one
theorem flat_ints (xs : List Int) : Flat (xs.map fun a => [dI a]).flatten := by
 intro d hd
 rw [List.mem_flatten] at hd
 obtain ⟨l, hl, hd⟩ := hd
 obtain ⟨p, _, rfl⟩ := List.mem_map.1 hl
 simp at hd
 exact ⟨_, hd⟩
theorem flat_links (L : Lks) : Flat (L.map fun p => [dI p.1, dI p.2]).flatten := by
 intro d hd
 rw [List.mem_flatten] at hd
 obtain ⟨l, hl, hd⟩ := hd
 obtain ⟨p, _, rfl⟩ := List.mem_map.1 hl
 simp at hd
 rcases hd with rfl | rfl <;> exact ⟨_, rfl⟩
/-- append(s, xs...), of a row of plain things. -/
theorem app_rows {ops : Array Oper} {rest : List Oper} {o : Oper} {a : Act} {Q : Exit → Act → World → Prop} {w : World} (hgd : o.guard = none) (s x : Operand) (T E : TypeId) (i : TypeInfo) (z : Value) (n bytes : Nat)
  (ho : o.op = .call { callee := .builtin .append, args := #[s, x], argTypes := #[T, T] }) (ht : Try.prog.underlying T = some (.slice E)) (hi : Try.prog.info? E = some i) (hz : i.zero = some z) (hsize : i.size = n) (hby : i.bytes = bytes) (hzs : z.cells.size = n) (hsz : 0 < n)
  (S : Prop) (P : Nat → Prop) (wb : World) (lim : Nat) (v : Value) (xs ys : List (List D)) (k m c l : Nat) (hs : a.eval s = v) (h : Own S P E n wb lim w v xs) (hk : xs.length = k) (ad : Option Addr) (hx : a.eval x = .slice ad m c) (hy : Has w (.slice ad m c) (.row n ys)) (hf : Flat ys.flatten) (hl : k + m = l) (h63 : l ≤ maxLen) (hbytes : l * bytes ≤ 140737488355328)
  (K : ∀ ao cv w', Own S P E n wb w'.heap.size w' (.slice ao l cv) (xs ++ ys) → w.grownBy w' v.ownBlock → wpList Try.prog ops Q rest (a.put o.dst (.slice ao l cv)) w') : wpList Try.prog ops Q (o :: rest) a w := by
 subst hl
 cases ad with
 | some ad =>
  obtain ⟨hm, hn, news, hnews, hh⟩ := Has.news hy
  exact app_own hgd s x T E i z n bytes ho ht hi hz hsize hby hzs hsz S P wb lim v xs ys k m c hs h hk ad hx news hnews hn hm.symm (hh.flat hf) h63 hbytes K
 | none =>
  obtain ⟨rfl, rfl⟩ := Has.none hy rfl
  obtain ⟨cells, _, _, h4, _⟩ := h.ex
  have hr : (Builtin.append_ #[T, T] o.type #[v, .slice none 0 c]).run Try.prog w = .ok v w := by
   rcases h4.2 with ⟨rfl, hx0⟩ | ⟨g, cap, cur, rfl, _, _, hnc, _⟩
   ·simp [Builtin.append_, run_underlying ht, sizeOf, typeInfo, hi, Builtin.lenOf, Builtin.firstCells]
   ·simp [Builtin.append_, run_underlying ht, sizeOf, typeInfo, hi, Builtin.lenOf, Builtin.firstCells, hnc, storeCells]
  obtain ⟨ao, cv, rfl⟩ := owns_slice h4
  subst hk
  refine wpList_plain hgd fun K' hK => ?_
  unfold Oper.wp execOp
  simp only [ho, resolve, invoke, builtin, Sem.run_bind, Sem.run_pure, Result.andThen_ok, List.map_toArray, List.map_cons, List.map_nil, hs, hx, hr]
  exact hK _ _ (K ao cv w (by rw [List.append_nil]; exact h.lift h.lim_le (Nat.le_refl _)) ⟨rfl, rfl, rfl, Nat.le_refl _, fun _ _ _ => rfl⟩)
theorem SameOn.refl (P : Nat → Prop) (w : World) : SameOn P w w := ⟨Nat.le_refl _, fun _ _ _ => rfl⟩
theorem SameOn.set {P : Nat → Prop} {w w' : World} (h : SameOn P w w') (a : Addr) (v : Value) (hp : ¬ P a.block) : SameOn P w (w'.setCell a v) :=
 ⟨by simpa using h.1, fun b p hb => by rw [Below.heap_setCell _ _ _ _ (by intro e; exact hp (e ▸ p))]; exact h.2 b p hb⟩
theorem SameOn.drewN {P : Nat → Prop} {w w' : World} (h : SameOn P w w') (n : Nat) : SameOn P w (w'.drewN n) := h
theorem SameOn.drew {P : Nat → Prop} {w w' : World} (h : SameOn P w w') : SameOn P w w'.drew := h
end Go.Proofs.Ytennbiajnkobnaa
namespace Go.Proofs.Ytennbiajnkobnaa
open Go.RowKit Go.PlainAid
theorem run_app {w : World} (T E ty : TypeId) (i : TypeInfo) (z : Value) (n bytes : Nat) (ht : Try.prog.underlying T = some (.slice E)) (hi : Try.prog.info? E = some i) (hz : i.zero = some z) (hsize : i.size = n) (hby : i.bytes = bytes) (hzs : z.cells.size = n) (hsz : 0 < n)
  (S : Prop) (P : Nat → Prop) (wb : World) (lim : Nat) (v : Value) (xs ys : List (List D)) (k m c l : Nat) (h : Own S P E n wb lim w v xs) (hk : xs.length = k) (ad : Option Addr) (news : List Value)
  (hnews : ∀ a, ad = some a → ∀ j u, news[j]? = some u → w.cell? (a.add j) = some u) (hnone : ad = none → m = 0) (hy : ∀ ds ∈ ys, ds.length = n) (hm : ys.length = m) (hh : HoldsL S (fun k => P k ∧ v.ownBlock ≠ some k ∧ (S → lim ≤ k)) w news ys.flatten) (hl : k + m = l) (h63 : l ≤ maxLen) (hbytes : l * bytes ≤ 140737488355328) :
  ∃ ao cv w', (Builtin.append_ #[T, T] ty #[v, .slice ad m c]).run Try.prog w = .ok (.slice ao l cv) w' ∧ Own S P E n wb w'.heap.size w' (.slice ao l cv) (xs ++ ys) ∧ w.grownBy w' v.ownBlock ∧ ((Value.slice ao l cv).ownBlock = v.ownBlock ∨ (Value.slice ao l cv).ownBlock = some w.heap.size) := by
 subst hl hk
 cases ad with
 | some ad =>
  have hll : news.length = m * n := by rw [hh.1, flatten_len hy, hm]
  have h1 : ∀ u ∈ news, u.oneCell' = true := by
   intro u hu
   obtain ⟨j, hj, rfl⟩ := List.getElem_of_mem hu
   obtain ⟨hl', gp, _, _, g3⟩ := hh
   exact (g3 j _ _ (List.getElem?_eq_getElem hj) (List.getElem?_eq_getElem (by omega))).one
  obtain ⟨cells, cs, fp, h4, _⟩ := h.ex
  have hnews' := hnews ad rfl
  obtain ⟨v', w', hr, hown, hg, _⟩ := run_append_own (P := Try.prog) w wb.heap.size T ty E i z n bytes ht hi hz hsize hby hzs hsz v xs.length cells h4 ad m c news hll hnews' h1 h63 hbytes h.bel.size
  have hb := app_block ht hi hz hsize hby hzs hsz h4 hll hnews' h1 h63 hbytes hr
  obtain ⟨ao, cv, rfl⟩ := owns_slice hown
  refine ⟨ao, cv, w', hr, h.push hy hm hh hb hg fun cells' hc => ?_, hg, hb⟩
  have : cells' = cells := ownsRow_det hc h4
  rw [this]; exact hown
 | none =>
  have hm0 := hnone rfl
  subst hm0
  have hy0 : ys = [] := List.eq_nil_of_length_eq_zero hm
  subst hy0
  obtain ⟨cells, _, _, h4, _⟩ := h.ex
  have hr : (Builtin.append_ #[T, T] ty #[v, .slice none 0 c]).run Try.prog w = .ok v w := by
   rcases h4.2 with ⟨rfl, hx0⟩ | ⟨g, cap, cur, rfl, _, _, hnc, _⟩
   ·simp [Builtin.append_, run_underlying ht, sizeOf, typeInfo, hi, Builtin.lenOf, Builtin.firstCells]
   ·simp [Builtin.append_, run_underlying ht, sizeOf, typeInfo, hi, Builtin.lenOf, Builtin.firstCells, hnc, storeCells]
  obtain ⟨ao, cv, rfl⟩ := owns_slice h4
  exact ⟨ao, cv, w, hr, by rw [List.append_nil]; exact h.lift h.lim_le (Nat.le_refl _), ⟨rfl, rfl, rfl, Nat.le_refl _, fun _ _ _ => rfl⟩, .inl rfl⟩
/-- In a list of operations. -/
theorem appL {ops : Array Oper} {rest : List Oper} {o : Oper} {a : Act} {Q : Exit → Act → World → Prop} {w : World} (hgd : o.guard = none) (s x : Operand) (T E : TypeId) (i : TypeInfo) (z : Value) (n bytes : Nat)
  (ho : o.op = .call { callee := .builtin .append, args := #[s, x], argTypes := #[T, T] }) (ht : Try.prog.underlying T = some (.slice E)) (hi : Try.prog.info? E = some i) (hz : i.zero = some z) (hsize : i.size = n) (hby : i.bytes = bytes) (hzs : z.cells.size = n) (hsz : 0 < n)
  (S : Prop) (P : Nat → Prop) (wb : World) (lim : Nat) (v : Value) (xs ys : List (List D)) (k m c l : Nat) (hs : a.eval s = v) (h : Own S P E n wb lim w v xs) (hk : xs.length = k) (ad : Option Addr) (hx : a.eval x = .slice ad m c) (news : List Value)
  (hnews : ∀ a, ad = some a → ∀ j u, news[j]? = some u → w.cell? (a.add j) = some u) (hnone : ad = none → m = 0) (hy : ∀ ds ∈ ys, ds.length = n) (hm : ys.length = m) (hh : HoldsL S (fun k => P k ∧ v.ownBlock ≠ some k ∧ (S → lim ≤ k)) w news ys.flatten) (hl : k + m = l) (h63 : l ≤ maxLen) (hbytes : l * bytes ≤ 140737488355328)
  (K : ∀ ao cv w', Own S P E n wb w'.heap.size w' (.slice ao l cv) (xs ++ ys) → w.grownBy w' v.ownBlock → ((Value.slice ao l cv).ownBlock = v.ownBlock ∨ (Value.slice ao l cv).ownBlock = some w.heap.size) → wpList Try.prog ops Q rest (a.put o.dst (.slice ao l cv)) w') : wpList Try.prog ops Q (o :: rest) a w := by
 obtain ⟨ao, cv, w', hr, h1, h2, h3⟩ := run_app T E o.type i z n bytes ht hi hz hsize hby hzs hsz S P wb lim v xs ys k m c l h hk ad news hnews hnone hy hm hh hl h63 hbytes
 refine wpList_plain hgd fun K' hK => ?_
 unfold Oper.wp execOp
 simp only [ho, resolve, invoke, builtin, Sem.run_bind, Sem.run_pure, Result.andThen_ok, List.map_toArray, List.map_cons, List.map_nil, hs, hx, hr]
 exact hK _ _ (K ao cv w' h1 h2 h3)
/-- At a step of a drawn region. -/
theorem appS {ops : Array Oper} {o : Oper} {a : Act} {K : Act → World → Prop} {Q : Exit → Act → World → Prop} {F : Prop} {w : World} (hgd : o.guard = none) (s x : Operand) (T E : TypeId) (i : TypeInfo) (z : Value) (n bytes : Nat)
  (ho : o.op = .call { callee := .builtin .append, args := #[s, x], argTypes := #[T, T] }) (ht : Try.prog.underlying T = some (.slice E)) (hi : Try.prog.info? E = some i) (hz : i.zero = some z) (hsize : i.size = n) (hby : i.bytes = bytes) (hzs : z.cells.size = n) (hsz : 0 < n)
  (S : Prop) (P : Nat → Prop) (wb : World) (lim : Nat) (v : Value) (xs ys : List (List D)) (k m c l : Nat) (hs : a.eval s = v) (h : Own S P E n wb lim w v xs) (hk : xs.length = k) (ad : Option Addr) (hx : a.eval x = .slice ad m c) (news : List Value)
  (hnews : ∀ a, ad = some a → ∀ j u, news[j]? = some u → w.cell? (a.add j) = some u) (hnone : ad = none → m = 0) (hy : ∀ ds ∈ ys, ds.length = n) (hm : ys.length = m) (hh : HoldsL S (fun k => P k ∧ v.ownBlock ≠ some k ∧ (S → lim ≤ k)) w news ys.flatten) (hl : k + m = l) (h63 : l ≤ maxLen) (hbytes : l * bytes ≤ 140737488355328)
  (H : ∀ ao cv w', Own S P E n wb w'.heap.size w' (.slice ao l cv) (xs ++ ys) → w.grownBy w' v.ownBlock → ((Value.slice ao l cv).ownBlock = v.ownBlock ∨ (Value.slice ao l cv).ownBlock = some w.heap.size) → K (a.put o.dst (.slice ao l cv)) w') :
  if Region.wanted o (yielded ops a.tmps) = true then Oper.wp Try.prog o a w K Q else F := by
 have hw : Region.wanted o (yielded ops a.tmps) = true := by simp [Region.wanted, hgd]
 rw [if_pos hw]
 obtain ⟨ao, cv, w', hr, h1, h2, h3⟩ := run_app T E o.type i z n bytes ht hi hz hsize hby hzs hsz S P wb lim v xs ys k m c l h hk ad news hnews hnone hy hm hh hl h63 hbytes
 unfold Oper.wp execOp
 simp only [ho, resolve, invoke, builtin, Sem.run_bind, Sem.run_pure, Result.andThen_ok, List.map_toArray, List.map_cons, List.map_nil, hs, hx, hr]
 exact H ao cv w' h1 h2 h3
/-- The front of a row. -/
theorem Holds.take {S : Prop} {P : Nat → Prop} {w : World} {a : Option Addr} {len cap n m : Nat} {xs : List (List D)} (h : Holds S P w (.slice a len cap) (.row n xs)) (hm : m ≤ xs.length) : Holds S P w (.slice a m cap) (.row n (xs.take m)) := by
 by_cases h0 : m = 0
 ·subst h0
  rw [List.take_zero]
  refine .nil _ _ _ _ _ (fun s => ?_)
  cases h with
  | nil _ _ _ _ _ hop => exact hop s
  | row _ _ b off cap n xs cs fp h1 hb hc hP hn hcell hrec hfp hb2 hd hop =>
   obtain ⟨rfl, h2⟩ := hop s
   exact .inr ⟨b, rfl, hP, hb, h2⟩
 ·cases h with
  | nil => simp at hm; omega
  | row _ _ b off cap n xs cs fp h1 hb hc hP hn hcell hrec hfp hb2 hd hop =>
   have e : m = (xs.take m).length := by simp; omega
   have ht : ∀ (i : Nat) (ds : List D), (xs.take m)[i]? = some ds → xs[i]? = some ds := fun i ds h => by
    rw [List.getElem?_take] at h
    split at h
    ·exact h
    ·cases h
   have := Holds.row P w b off cap n (xs.take m) cs fp (by omega) hb (by omega) hP (fun i ds h => hn i ds (ht i ds h)) (fun i j hi hj => hcell i j (by omega) hj) (fun i j ds d h1 h2 => hrec i j ds d (ht i ds h1) h2) hfp hb2 hd hop
   rw [← e] at this
   exact this
/-- What is appended from a slice of plain things. -/
theorem newsOf {w : World} {ad : Option Addr} {m c n : Nat} {ys : List (List D)} (h : Has w (.slice ad m c) (.row n ys)) (hn : ∀ ds ∈ ys, ds.length = n) (hf : Flat ys.flatten) :
  ys.length = m ∧ (ad = none → m = 0) ∧ ∃ news, (∀ a, ad = some a → ∀ j u, news[j]? = some u → w.cell? (a.add j) = some u) ∧ ∀ S P, HoldsL S P w news ys.flatten := by
 cases ad with
 | some ad =>
  obtain ⟨hm, _, news, h1, h2⟩ := Has.news h
  exact ⟨hm.symm, fun e => (by cases e), news, fun a e => (by cases e; exact h1), fun S P => h2.flat hf⟩
 | none =>
  obtain ⟨rfl, rfl⟩ := Has.none h rfl
  exact ⟨rfl, fun _ => rfl, [], fun a e => (by cases e), fun S P => hasL_nil S P w⟩
theorem grown_at {w w' : World} {row : Option Nat} (hg : w.grownBy w' row) {b i : Nat} {v : Value} (hne : row ≠ some b) (h : w.cell? ⟨b, i, none⟩ = some v) : w'.cell? ⟨b, i, none⟩ = some v :=
 (World.cell?_of_block (hg.block b (World.block_lt_of_cell? w _ h) (fun e => hne e.symm))).trans h
theorem grown_frozen {w w' : World} {row : Option Nat} (hg : w.grownBy w' row) {b i : Nat} {r : Bool} (hne : row ≠ some b) (hb : b < w.heap.size) (h : w.frozen? ⟨b, i, none⟩ = r) : w'.frozen? ⟨b, i, none⟩ = r :=
 (World.frozen?_of_block (w := w) (hg.block b hb (fun e => hne e.symm))).trans h
/-- A store in a block that is no part of the row. -/
theorem Own.set {S : Prop} {P : Nat → Prop} {E : TypeId} {n lim : Nat} {wb w : World} {v : Value} {xs : List (List D)} (h : Own S P E n wb lim w v xs) (a : Addr) (u : Value) (hP : ¬ P a.block) (hb : wb.heap.size ≤ a.block) (hv : v.ownBlock ≠ some a.block) : Own S P E n wb lim (w.setCell a u) v xs := by
 obtain ⟨h1, h2, h3, cells, cs, fp, h4, h5, h6, h7, h8, h9⟩ := h
 refine ⟨h1.setCell hb _, by rw [World.size_setCell]; exact h2, h3, cells, cs, fp, ?_, h5, h6, fun i j ds d e1 e2 => (h7 i j ds d e1 e2).same ((SameOn.refl _ _).set a u (fun hf => hP (h8 i j _ hf).1)), h8, h9⟩
 exact ownsRow_setCell_other h4 hv _
end Go.Proofs.Ytennbiajnkobnaa
namespace Go.Proofs.Ytennbiajnkobnaa
open Go.RowKit Go.PlainAid
/-- A row under way: what it holds and the row itself lie in blocks of P. -/
structure Bld (S : Prop) (P : Nat → Prop) (E : TypeId) (n : Nat) (wb : World) (lim : Nat) (w : World) (v : Value) (xs : List (List D)) : Prop where
 own : Own S P E n wb lim w v xs
 inP : ∀ k, v.ownBlock = some k → P k
theorem Bld.later {S : Prop} {P : Nat → Prop} {E : TypeId} {n lim : Nat} {wb w w' : World} {v : Value} {xs : List (List D)} (h : Bld S P E n wb lim w v xs) (hb : Below w.heap.size w w') : Bld S P E n wb lim w' v xs := ⟨h.own.later hb, h.inP⟩
theorem Bld.set {S : Prop} {P : Nat → Prop} {E : TypeId} {n lim : Nat} {wb w : World} {v : Value} {xs : List (List D)} (h : Bld S P E n wb lim w v xs) (a : Addr) (u : Value) (hP : ¬ P a.block) (hb : wb.heap.size ≤ a.block) : Bld S P E n wb lim (w.setCell a u) v xs :=
 ⟨h.own.set a u hP hb (fun e => hP (h.inP _ e)), h.inP⟩
theorem Bld.holds {S : Prop} {P : Nat → Prop} {E : TypeId} {n lim : Nat} {wb w : World} {v : Value} {xs : List (List D)} (h : Bld S P E n wb lim w v xs) : Holds S P w v (.row n xs) := h.own.holds h.inP
theorem Bld.of {S : Prop} {P : Nat → Prop} {E : TypeId} {n lim : Nat} {wb w w' : World} {v v' : Value} {xs : List (List D)} (h : Own S P E n wb lim w' v' xs) (hv : ∀ k, v.ownBlock = some k → P k) (hb : v'.ownBlock = v.ownBlock ∨ v'.ownBlock = some w.heap.size) (hP : P w.heap.size) : Bld S P E n wb lim w' v' xs :=
 ⟨h, fun k hk => by
  rcases hb with hb | hb
  ·exact hv k (by rw [← hb]; exact hk)
  ·rw [hb] at hk; cases hk; exact hP⟩
theorem capOf {S : Prop} {P : Nat → Prop} {w : World} {a : Option Addr} {len cap n : Nat} {xs : List (List D)} (h : Holds S P w (.slice a len cap) (.row n xs)) : len ≤ cap := by
 cases h with
 | nil => omega
 | row => assumption
theorem newsLater {w w' : World} {ad : Option Addr} {news : List Value} (h : ∀ a, ad = some a → ∀ j u, news[j]? = some u → w.cell? (a.add j) = some u) (hb : Below w.heap.size w w') : ∀ a, ad = some a → ∀ j u, news[j]? = some u → w'.cell? (a.add j) = some u :=
 fun a ha j u hu => (hb.cell (World.block_lt_of_cell? w _ (h a ha j u hu))).trans (h a ha j u hu)
theorem frozen_two (w : World) (c c' : Array Value) (t t' : TypeId) (i : Nat) : (((w.alloc (.cells c t)).alloc (.cells c' t')).drew).frozen? ⟨w.heap.size, i, none⟩ = false := by
 show ((w.alloc (.cells c t)).alloc (.cells c' t')).frozen? ⟨w.heap.size, i, none⟩ = false
 rw [frozen?_alloc_cells, frozen?_alloc_cells]
 simp [World.frozen?]
theorem frozen_new (w : World) (c : Array Value) (t : TypeId) (i : Nat) : (w.alloc (.cells c t)).frozen? ⟨w.heap.size, i, none⟩ = false := by
 rw [frozen?_alloc_cells]
 simp [World.frozen?]
/-- A row of plain things: no block but its own counts. -/
theorem Own.flat {S : Prop} {P P' : Nat → Prop} {E : TypeId} {n lim : Nat} {wb w : World} {v : Value} {xs : List (List D)} (h : Own S P E n wb lim w v xs) (hf : Flat xs.flatten) (hP : ∀ k, v.ownBlock = some k → P' k) : Holds S P' w v (.row n xs) := by
 obtain ⟨h1, h2, h3, cells, cs, fp, h4, h5, h6, h7, h8, h9⟩ := h
 by_cases h0 : xs.length = 0
 ·obtain ⟨a, c, rfl⟩ := owns_slice h4
  obtain rfl := List.length_eq_zero_iff.1 h0
  refine .nil _ _ _ _ _ (fun _ => ?_)
  rcases h4.2 with ⟨e, _⟩ | ⟨g, cap, cur, e, hge, hg, hle, hmx, hcz, _⟩
  ·simp at e; exact .inl e.2
  ·simp at e
   obtain ⟨rfl, rfl⟩ := e
   exact .inr ⟨g, rfl, hP g rfl, lt_of_block hg, hmx, cur, E, hg, hcz⟩
 ·have hcell := fun g => h4.cells (g := g)
  rcases h4.2 with ⟨_, e⟩ | ⟨g, cap, cur, rfl, hge, hg, hle, hmx, hcz, _⟩
  ·exact absurd e h0
  ·refine .row P' w g 0 cap n xs cs (fun _ _ _ => False) (by omega) (lt_of_block hg) hle (hP g rfl) h5 (fun i j hi hj => ?_) (fun i j ds d hi hj => ?_) (fun i j k hf => hf.elim) (fun s i j hf => hf) (fun _ _ _ _ _ _ hf => hf.elim) (fun _ => ⟨rfl, hmx, cur, E, hg, hcz⟩)
   ·have := hcell g rfl _ _ (h6 i j hi hj)
    have e : (⟨g, 0, none⟩ : Addr).add (i * n + j) = ⟨g, 0 + i * n + j, none⟩ := by unfold Addr.add; split <;> simp_all
    rw [e] at this; exact this
   ·have hh := h7 i j ds d hi hj
    have hjn : j < n := by rw [← h5 i ds hi]; exact lt_of_some hj
    have hm := flatten_get (n := n) (fun ds hds => by obtain ⟨q, hq⟩ := List.mem_iff_getElem?.1 hds; exact h5 q ds hq) hi hjn
    rw [hj] at hm
    obtain ⟨u, rfl⟩ := hf d (List.mem_of_getElem? hm)
    have e := hh.val
    rw [e]
    have h1 := hh.one
    rw [e] at h1
    exact .atom _ _ _ h1
/-- A box's field. -/
structure Fld (S : Prop) (P : Nat → Prop) (E : TypeId) (n : Nat) (wb w : World) (b o : Nat) (v : Value) (xs : List (List D)) : Prop where
 cell : w.cell? ⟨b, o, none⟩ = some v
 frz : w.frozen? ⟨b, o, none⟩ = false
 bld : Bld S P E n wb w.heap.size w v xs
 out : ¬ P b
 ge : wb.heap.size ≤ b
theorem Fld.below {S : Prop} {P : Nat → Prop} {E : TypeId} {n : Nat} {wb w w' : World} {b o : Nat} {v : Value} {xs : List (List D)} (h : Fld S P E n wb w b o v xs) (hb : Below w.heap.size w w') : Fld S P E n wb w' b o v xs :=
 ⟨(hb.cell (World.block_lt_of_cell? w _ h.cell)).trans h.cell, (hb.frozen (World.block_lt_of_cell? w _ h.cell)).trans h.frz, ⟨(h.bld.own.later hb).lift hb.size (Nat.le_refl _), h.bld.inP⟩, h.out, h.ge⟩
theorem Fld.push {S : Prop} {P : Nat → Prop} {E : TypeId} {n : Nat} {wb w w5 w6 : World} {b o : Nat} {v v' : Value} {xs ys : List (List D)} (h : Fld S P E n wb w b o v xs) (hb : Below w.heap.size w w5) (hO : Own S P E n wb w6.heap.size w6 v' ys) (hg : w5.grownBy w6 v.ownBlock)
  (hv : v'.ownBlock = v.ownBlock ∨ v'.ownBlock = some w5.heap.size) (hP : P w5.heap.size) : Fld S P E n wb (w6.setCell ⟨b, o, none⟩ v') b o v' ys ∧ w6.cell? ⟨b, o, none⟩ = some v ∧ w6.frozen? ⟨b, o, none⟩ = false ∧ Below wb.heap.size wb (w6.setCell ⟨b, o, none⟩ v') ∧
   (∀ Q : Nat → Prop, (∀ k, Q k → ¬ P k) → ¬ Q b → SameOn Q w5 (w6.setCell ⟨b, o, none⟩ v')) ∧ (∀ (c : Addr) (u : Value), w5.cell? c = some u → ¬ P c.block → c ≠ ⟨b, o, none⟩ → (w6.setCell ⟨b, o, none⟩ v').cell? c = some u) ∧ (∀ c : Addr, c.block < w5.heap.size → ¬ P c.block → (w6.setCell ⟨b, o, none⟩ v').frozen? c = w5.frozen? c) := by
 have hne : ∀ k, ¬ P k → v.ownBlock ≠ some k := fun k hk e => hk (h.bld.inP k e)
 have e1 := (h.below hb).cell
 have e2 := (h.below hb).frz
 have c6 := grown_at hg (hne b h.out) e1
 have f6 := grown_frozen hg (hne b h.out) (World.block_lt_of_cell? w5 _ e1) e2
 have hB := Bld.of hO h.bld.inP hv hP
 refine ⟨⟨World.cell?_setCell_same w6 _ _ c6, by rw [World.frozen?_setCell]; exact f6, ?_, h.out, h.ge⟩, c6, f6, hO.bel.setCell h.ge _, fun Q hQ hb' => ⟨?_, fun k hk hlt => ?_⟩, fun c u hu hP' hc => ?_, fun c hc hP' => ?_⟩
 ·have := hB.set ⟨b, o, none⟩ v' h.out h.ge
  rw [World.size_setCell]
  exact this
 ·rw [World.size_setCell]; exact hg.size
 ·rw [Below.heap_setCell _ _ _ _ (by intro e; subst e; exact hb' hk)]
  exact hg.block k hlt (fun e => hne k (hQ k hk) e.symm)
 ·rw [World.cell?_setCell_other w6 _ _ _ (fun e => hc e.symm)]
  exact (World.cell?_of_block (hg.block c.block (World.block_lt_of_cell? w5 _ hu) (fun e => hne _ hP' e.symm))).trans hu
 ·rw [World.frozen?_setCell]
  exact World.frozen?_of_block (w := w5) (hg.block c.block hc (fun e => hne _ hP' e.symm))
end Go.Proofs.Ytennbiajnkobnaa

