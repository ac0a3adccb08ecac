/- Data in memory: what a value holds, in which blocks. -/
import Derived.Test.YtegpdfocfohkcaaGrF
namespace Go.Proofs.Ytegpdfocfohkcaa
open Go.RowKit Go.PlainAid

/-- Data: one cell, or a row of things of n cells each. -/
inductive D where
  | atom (v : Value)
  | row (n : Nat) (xs : List (List D))

/-- These blocks are as they were. -/
def SameOn (P : Nat → Prop) (w w' : World) : Prop := w.heap.size ≤ w'.heap.size ∧ ∀ b, P b → b < w.heap.size → w'.heap[b]? = w.heap[b]?
theorem SameOn.of_below {P : Nat → Prop} {w w' : World} (h : Below w.heap.size w w') : SameOn P w w' := ⟨h.size, fun b _ hb => h.block b hb⟩
theorem SameOn.sub {P P' : Nat → Prop} {w w' : World} (h : SameOn P w w') (hs : ∀ b, P' b → P b) : SameOn P' w w' := ⟨h.1, fun b p hb => h.2 b (hs b p) hb⟩
theorem SameOn.cell {P : Nat → Prop} {w w' : World} {a : Addr} (h : SameOn P w w') (hp : P a.block) (hb : a.block < w.heap.size) : w'.cell? a = w.cell? a := World.cell?_of_block (h.2 _ hp hb)

theorem below_new (w : World) (o : Obj) : Below w.heap.size w (w.alloc o) := (Below.refl _ w).alloc (Nat.le_refl _) o
/-- A value holds data, in blocks of P; where S is so, no two parts lie in one block. -/
inductive Holds (S : Prop) : (Nat → Prop) → World → Value → D → Prop where
  | atom (P : Nat → Prop) (w : World) (v : Value) (h1 : v.oneCell' = true) : Holds S P w v (.atom v)
  | nil (P : Nat → Prop) (w : World) (a : Option Addr) (cap n : Nat) : Holds S P w (.slice a 0 cap) (.row n [])
  | row (P : Nat → Prop) (w : World) (b off cap n : Nat) (xs : List (List D)) (cs : Nat → Nat → Value) (fp : Nat → Nat → Nat → Prop) (h0 : 0 < xs.length) (hb : b < w.heap.size) (hc : xs.length ≤ cap) (hP : P b)
      (hn : ∀ (i : Nat) (ds : List D), xs[i]? = some ds → ds.length = n) (hcell : ∀ (i j : Nat), i < xs.length → j < n → w.cell? ⟨b, off + i * n + j, none⟩ = some (cs i j))
      (hrec : ∀ (i j : Nat) (ds : List D) (d : D), xs[i]? = some ds → ds[j]? = some d → Holds S (fp i j) w (cs i j) d) (hfp : ∀ (i j k : Nat), fp i j k → P k) (hb2 : S → ∀ (i j : Nat), ¬ fp i j b)
      (hd : S → ∀ (i j i' j' k : Nat), fp i j k → fp i' j' k → i = i' ∧ j = j') : Holds S P w (.slice (some ⟨b, off, none⟩) xs.length cap) (.row n xs)

theorem Holds.same {S : Prop} {P : Nat → Prop} {w w' : World} {v : Value} {d : D} (h : Holds S P w v d) : SameOn P w w' → Holds S P w' v d := by
  induction h with
  | atom P w v h1 => intro _; exact .atom P w' v h1
  | nil P w a cap n => intro _; exact .nil P w' a cap n
  | row P w b off cap n xs cs fp h0 hb hc hP hn hcell hrec hfp hb2 hd ih =>
    intro hs
    exact .row P w' b off cap n xs cs fp h0 (Nat.lt_of_lt_of_le hb hs.1) hc hP hn (fun i j hi hj => (hs.cell hP (by exact hb)).trans (hcell i j hi hj))
      (fun i j ds d h1 h2 => ih i j ds d h1 h2 (hs.sub (hfp i j))) hfp hb2 hd
theorem Holds.later {S : Prop} {P : Nat → Prop} {w w' : World} {v : Value} {d : D} (h : Holds S P w v d) (hb : Below w.heap.size w w') : Holds S P w' v d := h.same (.of_below hb)
theorem Holds.wide {S : Prop} {P P' : Nat → Prop} {w : World} {v : Value} {d : D} (h : Holds S P w v d) : (∀ b, b < w.heap.size → P b → P' b) → Holds S P' w v d := by
  induction h generalizing P' with
  | atom P w v h1 => intro _; exact .atom P' w v h1
  | nil P w a cap n => intro _; exact .nil P' w a cap n
  | row P w b off cap n xs cs fp h0 hb hc hP hn hcell hrec hfp hb2 hd ih =>
    intro hs
    exact .row P' w b off cap n xs cs (fun i j k => fp i j k ∧ k < w.heap.size) h0 hb hc (hs b hb hP) hn hcell
      (fun i j ds d h1 h2 => ih i j ds d h1 h2 (fun b hb p => ⟨p, hb⟩)) (fun i j k h => hs k h.2 (hfp i j k h.1)) (fun s i j h => hb2 s i j h.1) (fun s i j i' j' k h h' => hd s i j i' j' k h.1 h'.1)
/-- All blocks. -/
def All : Nat → Prop := fun _ => True
theorem Holds.weak {S : Prop} {P : Nat → Prop} {w : World} {v : Value} {d : D} (h : Holds S P w v d) : Holds False All w v d := by
  induction h with
  | atom P w v h1 => exact .atom All w v h1
  | nil P w a cap n => exact .nil All w a cap n
  | row P w b off cap n xs cs fp h0 hb hc hP hn hcell hrec hfp hb2 hd ih =>
    exact .row All w b off cap n xs cs (fun _ _ => All) h0 hb hc trivial hn hcell ih (fun _ _ _ _ => trivial) (fun s => s.elim) (fun s => s.elim)
/-- Plain reading. -/
abbrev Has (w : World) (v : Value) (d : D) : Prop := Holds False All w v d

theorem Holds.len {S : Prop} {P : Nat → Prop} {w : World} {v : Value} {n : Nat} {xs : List (List D)} (h : Holds S P w v (.row n xs)) : ∃ a cap, v = .slice a xs.length cap := by
  cases h with
  | nil => exact ⟨_, _, rfl⟩
  | row => exact ⟨_, _, rfl⟩
theorem Holds.val {S : Prop} {P : Nat → Prop} {w : World} {v u : Value} (h : Holds S P w v (.atom u)) : v = u := by cases h; rfl

theorem Holds.one {S : Prop} {P : Nat → Prop} {w : World} {v : Value} {d : D} (h : Holds S P w v d) : v.oneCell' = true := by
  cases h with
  | atom h1 => assumption
  | nil => rfl
  | row => rfl

theorem lt_of_some {α : Type} {l : List α} {i : Nat} {x : α} (h : l[i]? = some x) : i < l.length := (List.getElem?_eq_some_iff.1 h).1
theorem some_of_lt {α : Type} {l : List α} {i : Nat} (h : i < l.length) : ∃ x, l[i]? = some x := ⟨_, List.getElem?_eq_getElem h⟩

/-- Values hold a list of data, each in blocks of its own. -/
def HoldsL (S : Prop) (P : Nat → Prop) (w : World) (cs : List Value) (ds : List D) : Prop :=
  cs.length = ds.length ∧ ∃ fp : Nat → Nat → Prop, (∀ j k, fp j k → P k) ∧ (S → ∀ j j' k, fp j k → fp j' k → j = j') ∧ ∀ j c d, cs[j]? = some c → ds[j]? = some d → Holds S (fp j) w c d
theorem HoldsL.same {S : Prop} {P : Nat → Prop} {w w' : World} {cs : List Value} {ds : List D} (h : HoldsL S P w cs ds) (hs : SameOn P w w') : HoldsL S P w' cs ds := by
  obtain ⟨h1, fp, h2, h3, h4⟩ := h
  exact ⟨h1, fp, h2, h3, fun j c d hc hd => (h4 j c d hc hd).same (hs.sub (h2 j))⟩
theorem HoldsL.later {S : Prop} {P : Nat → Prop} {w w' : World} {cs : List Value} {ds : List D} (h : HoldsL S P w cs ds) (hb : Below w.heap.size w w') : HoldsL S P w' cs ds := h.same (.of_below hb)
theorem HoldsL.wide {S : Prop} {P P' : Nat → Prop} {w : World} {cs : List Value} {ds : List D} (h : HoldsL S P w cs ds) (hs : ∀ b, b < w.heap.size → P b → P' b) : HoldsL S P' w cs ds := by
  obtain ⟨h1, fp, h2, h3, h4⟩ := h
  exact ⟨h1, fun j k => fp j k ∧ k < w.heap.size, fun j k h => hs k h.2 (h2 j k h.1), fun s j j' k h h' => h3 s j j' k h.1 h'.1, fun j c d hc hd => (h4 j c d hc hd).wide (fun b hb p => ⟨p, hb⟩)⟩
theorem HoldsL.weak {S : Prop} {P : Nat → Prop} {w : World} {cs : List Value} {ds : List D} (h : HoldsL S P w cs ds) : HoldsL False All w cs ds := by
  obtain ⟨h1, fp, h2, h3, h4⟩ := h
  exact ⟨h1, fun _ => All, fun _ _ _ => trivial, fun s => s.elim, fun j c d hc hd => (h4 j c d hc hd).weak⟩
theorem hasL_nil (S : Prop) (P : Nat → Prop) (w : World) : HoldsL S P w [] [] := ⟨rfl, fun _ _ => False, fun _ _ h => h.elim, fun _ _ _ _ h => h.elim, fun j c d h => by simp at h⟩
abbrev HasL (w : World) (cs : List Value) (ds : List D) : Prop := HoldsL False All w cs ds
theorem HasL.cons {w : World} {cs : List Value} {d : D} {ds : List D} (h : HasL w cs (d :: ds)) : ∃ c cs', cs = c :: cs' ∧ Has w c d ∧ HasL w cs' ds := by
  obtain ⟨h1, fp, h2, h3, h4⟩ := h
  match cs, h1 with
  | c :: cs', h1 => exact ⟨c, cs', rfl, (h4 0 c d rfl rfl).weak, by simpa using h1, fun j => fp (j + 1), fun j k h => h2 _ k h, fun s => s.elim, fun j c d hc hd => h4 (j + 1) c d (by simpa using hc) (by simpa using hd)⟩
theorem HasL.nil {w : World} {cs : List Value} (h : HasL w cs []) : cs = [] := List.eq_nil_of_length_eq_zero h.1
theorem HasL.mk {w : World} {c : Value} {cs : List Value} {d : D} {ds : List D} (h : Has w c d) (h' : HasL w cs ds) : HasL w (c :: cs) (d :: ds) := by
  obtain ⟨h1, fp, h2, h3, h4⟩ := h'.weak
  refine ⟨by simp [h1], fun _ => All, fun _ _ _ => trivial, fun s => s.elim, fun j c' d' hc hd => ?_⟩
  cases j with
  | zero => simp at hc hd; subst hc hd; exact h.weak
  | succ j => exact (h4 j c' d' (by simpa using hc) (by simpa using hd)).weak

/-- An element's cells. -/
theorem Has.at {w : World} {v : Value} {n i : Nat} {xs : List (List D)} {ds : List D} (h : Has w v (.row n xs)) (hx : xs[i]? = some ds) :
    ∃ b off cap, v = .slice (some ⟨b, off, none⟩) xs.length cap ∧ b < w.heap.size ∧ xs.length ≤ cap ∧ ds.length = n ∧ ∃ cs, HasL w cs ds ∧ ∀ j c, cs[j]? = some c → w.cell? ⟨b, off + i * n + j, none⟩ = some c := by
  cases h with
  | nil => simp at hx
  | row _ _ b off cap n xs cs fp h0 hb hc hP hn hcell hrec hfp hb2 hd =>
    have hl := hn i ds hx
    refine ⟨b, off, cap, rfl, hb, hc, hl, (List.range n).map (cs i), ⟨by simp [hl], fun _ => All, fun _ _ _ => trivial, fun s => s.elim, fun j c d hc' hd' => ?_⟩, fun j c hc' => ?_⟩
    · have hj := lt_of_some hd'
      rw [List.getElem?_map, List.getElem?_range (by omega)] at hc'
      simp at hc'
      subst hc'
      exact (hrec i j ds d hx hd').weak
    · have hj := lt_of_some hc'
      simp at hj
      rw [List.getElem?_map, List.getElem?_range (by omega)] at hc'
      simp at hc'
      subst hc'
      exact hcell i j (lt_of_some hx) hj
theorem Has.nil_of {w : World} {v : Value} {n : Nat} (h : Has w v (.row n [])) : ∃ a cap, v = .slice a 0 cap := h.len

def dI (a : Int) : D := .atom (.int .i64 a)
def dB (b : Bool) : D := .atom (.bool b)
def dInts (xs : List Int) : D := .row 1 (xs.map fun a => [dI a])
def dLinks (L : Lks) : D := .row 2 (L.map fun p => [dI p.1, dI p.2])
theorem has_int (S : Prop) (P : Nat → Prop) (w : World) (a : Int) : Holds S P w (.int .i64 a) (dI a) := .atom P w _ rfl
theorem has_bool (S : Prop) (P : Nat → Prop) (w : World) (a : Bool) : Holds S P w (.bool a) (dB a) := .atom P w _ rfl

theorem Has.ints {w : World} {v : Value} {xs : List Int} (h : Has w v (dInts xs)) : IntsAt w v xs := by
  by_cases h0 : xs.length = 0
  · obtain rfl := List.length_eq_zero_iff.1 h0
    obtain ⟨a, cap, rfl⟩ := Holds.len h
    exact .inl ⟨a, cap, rfl, rfl⟩
  · have key : ∀ i, i < xs.length → ∃ b off cap, v = .slice (some ⟨b, off, none⟩) xs.length cap ∧ b < w.heap.size ∧ xs.length ≤ cap ∧ w.cell? ⟨b, off + i, none⟩ = some (.int .i64 (xs.getD i 0)) := by
      intro i hi
      obtain ⟨b, off, cap, rfl, hb, hc, hl, cs, hcs, hcell⟩ := Has.at (i := i) (ds := [dI (xs.getD i 0)]) h (by simp [List.getD, hi])
      obtain ⟨c, cs', rfl, hc1, hc2⟩ := hcs.cons
      have e := Holds.val hc1
      subst e
      have := hcell 0 _ rfl
      rw [Nat.mul_one, Nat.add_zero] at this
      simp only [List.length_map] at hc ⊢
      exact ⟨b, off, cap, rfl, hb, hc, this⟩
    obtain ⟨b, off, cap, rfl, hb, hc, _⟩ := key 0 (by omega)
    refine .inr ⟨b, off, xs.length, cap, rfl, rfl, by omega, hb, hc, fun i hi => ?_⟩
    obtain ⟨b', off', cap', e, _, _, hx⟩ := key i hi
    simp only [Value.slice.injEq, Option.some.injEq, Addr.mk.injEq] at e
    obtain ⟨⟨rfl, rfl, _⟩, _, rfl⟩ := e
    exact hx
theorem Has.links {w : World} {v : Value} {L : Lks} (h : Has w v (dLinks L)) : LinksAt w v L := by
  by_cases h0 : L.length = 0
  · obtain rfl := List.length_eq_zero_iff.1 h0
    obtain ⟨a, cap, rfl⟩ := Holds.len h
    exact .inl ⟨a, cap, rfl, rfl⟩
  · have key : ∀ i, i < L.length → ∃ b off cap, v = .slice (some ⟨b, off, none⟩) L.length cap ∧ b < w.heap.size ∧ L.length ≤ cap ∧ w.cell? ⟨b, off + i * 2, none⟩ = some (.int .i64 (lk L i).1) ∧ w.cell? ⟨b, off + i * 2 + 1, none⟩ = some (.int .i64 (lk L i).2) := by
      intro i hi
      obtain ⟨b, off, cap, rfl, hb, hc, hl, cs, hcs, hcell⟩ := Has.at (i := i) (ds := [dI (lk L i).1, dI (lk L i).2]) h (by simp [lk, List.getD, hi])
      obtain ⟨c, cs', rfl, hc1, hc2⟩ := hcs.cons
      obtain ⟨c', cs2, rfl, hc3, hc4⟩ := HasL.cons hc2
      have e := Holds.val hc1
      have e' := Holds.val hc3
      subst e e'
      simp only [List.length_map] at hc ⊢
      exact ⟨b, off, cap, rfl, hb, hc, hcell 0 _ rfl, hcell 1 _ rfl⟩
    obtain ⟨b, off, cap, rfl, hb, hc, _⟩ := key 0 (by omega)
    refine .inr ⟨b, off, L.length, cap, rfl, rfl, by omega, hb, hc, fun i hi => ?_⟩
    obtain ⟨b', off', cap', e, _, _, hx⟩ := key i hi
    simp only [Value.slice.injEq, Option.some.injEq, Addr.mk.injEq] at e
    obtain ⟨⟨rfl, rfl, _⟩, _, rfl⟩ := e
    exact hx
theorem has_of_ints {w : World} {v : Value} {xs : List Int} (h : IntsAt w v xs) : Has w v (dInts xs) := by
  rcases h with ⟨a, cap, rfl, rfl⟩ | ⟨b, off, len, cap, rfl, rfl, h3, h4, h6, h5⟩
  · exact .nil _ _ _ _ _
  · have e : xs.length = (xs.map fun a => [dI a]).length := by simp
    unfold dInts
    rw [e]
    refine .row _ _ _ _ _ _ _ (fun i _ => .int .i64 (xs.getD i 0)) (fun _ _ => All) (by simpa using h3) h4 (by simpa using h6) trivial (fun i ds h => ?_) (fun i j hi hj => ?_) (fun i j ds d h1 h2 => ?_) (fun _ _ _ _ => trivial) (fun s => s.elim) (fun s => s.elim)
    · simp at h; obtain ⟨_, _, rfl⟩ := h; rfl
    · obtain rfl : j = 0 := by omega
      simpa using h5 i (by simpa using hi)
    · simp at h1
      obtain ⟨a, ha, rfl⟩ := h1
      have hj := lt_of_some h2
      simp at hj
      subst hj
      simp at h2
      subst h2
      rw [show xs.getD i 0 = a by simp [List.getD, ha]]
      exact has_int _ _ _ _
theorem has_of_links {w : World} {v : Value} {L : Lks} (h : LinksAt w v L) : Has w v (dLinks L) := by
  rcases h with ⟨a, cap, rfl, rfl⟩ | ⟨b, off, len, cap, rfl, rfl, h3, h4, h6, h5⟩
  · exact .nil _ _ _ _ _
  · have e : L.length = (L.map fun p => [dI p.1, dI p.2]).length := by simp
    unfold dLinks
    rw [e]
    refine .row _ _ _ _ _ _ _ (fun i j => if j = 0 then .int .i64 (lk L i).1 else .int .i64 (lk L i).2) (fun _ _ => All) (by simpa using h3) h4 (by simpa using h6) trivial (fun i ds h => ?_) (fun i j hi hj => ?_) (fun i j ds d h1 h2 => ?_) (fun _ _ _ _ => trivial) (fun s => s.elim) (fun s => s.elim)
    · simp at h; obtain ⟨_, _, _, rfl⟩ := h; rfl
    · have := h5 i (by simpa using hi)
      rcases Nat.lt_or_ge j 1 with hj1 | hj1
      · obtain rfl : j = 0 := by omega
        simpa using this.1
      · obtain rfl : j = 1 := by omega
        simpa using this.2
    · rw [List.getElem?_map, Option.map_eq_some_iff] at h1
      obtain ⟨p, ha, rfl⟩ := h1
      rw [show lk L i = p by simp [lk, List.getD, ha]]
      match j, h2 with
      | 0, h2 => simp at h2; subst h2; exact has_int _ _ _ _
      | 1, h2 => simp at h2; subst h2; exact has_int _ _ _ _
      | j + 2, h2 => simp at h2
end Go.Proofs.Ytegpdfocfohkcaa
