/- Texts put together. -/
import Derived.Test.YtiblcpkejhiehaaQ00
import Derived.Test.YtiblcpkejhiehaaQ01
import Derived.Test.YtiblcpkejhiehaaQ07
import Derived.BigRegion
import Derived.Deep.WholeRow
import Derived.MapKept
import Derived.Carry
import Derived.BigQuiet
namespace Go.Proofs.Ytiblcpkejhiehaa
/-- An application: how many nodes, links, table, first in first out. -/
structure Ap where
 n : Int
 l : Lks
 t : Tab
 ff : Bool
/-- A configuration: states, messages (how many-th, letter), sent. -/
structure Cf where
 states : List Int
 links : List Lks
 sent : List Int
/-- A step. -/
structure Sp where
 kind : Int
 node : Int
 k : Int
 link : Int
 seq : Int
deriving DecidableEq
def Cf.zero : Cf := ⟨[], [], []⟩
def at0 (l : List Int) (i : Int) : Int := l.getD i.toNat 0
def atL (l : List Lks) (i : Int) : Lks := l.getD i.toNat []
/-- Where a message stands. -/
def placeL (l : Lks) (q : Int) : Option Nat := l.findIdx? (fun m => m.1 == q)
/-- One message is sent. -/
def send1 (L : Lks) (n : Int) (c : List Lks × List Int) (m : Int × Int) : List Lks × List Int :=
 (c.1.set (findL L (n, m.1)).toNat (atL c.1 (findL L (n, m.1)) ++ [(at0 c.2 (findL L (n, m.1)) + 1, m.2)]), c.2.set (findL L (n, m.1)).toNat (at0 c.2 (findL L (n, m.1)) + 1))
def sendAll (L : Lks) (n : Int) (ms : Lks) (c : List Lks × List Int) : List Lks × List Int := ms.foldl (send1 L n) c
/-- Some link would have had too many. -/
def bigAt (L : Lks) (n : Int) : Lks → List Int → Bool
 | [], _ => false
 | m :: r, S => decide (500 < at0 S (findL L (n, m.1)) + 1) || bigAt L n r (S.set (findL L (n, m.1)).toNat (at0 S (findL L (n, m.1)) + 1))
def stC (A : Ap) (c : Cf) (n : Int) : St := stAt A.t n (at0 c.states n)
def errPick (A : Ap) (c : Cf) (s : Sp) : Int :=
 if s.node < 0 ∨ (c.states.length : Int) ≤ s.node then 1 else if (stC A c s.node).mode ≠ 1 then 8 else if isPick (stC A c s.node) s.k = false then 3 else if bigAt A.l s.node (pickAt (stC A c s.node) s.k).sends c.sent then 2 else 0
def donePick (A : Ap) (c : Cf) (s : Sp) : Cf :=
 ⟨c.states.set s.node.toNat (pickAt (stC A c s.node) s.k).next, (sendAll A.l s.node (pickAt (stC A c s.node) s.k).sends (c.links, c.sent)).1, (sendAll A.l s.node (pickAt (stC A c s.node) s.k).sends (c.links, c.sent)).2⟩
def noDel (A : Ap) (m : Lks) (q : Int) : Bool := match placeL m q with
 | none => true
 | some i => A.ff && decide (0 < i)
def errDel (A : Ap) (c : Cf) (s : Sp) : Int := if s.link < 0 ∨ (c.links.length : Int) ≤ s.link then 1 else if noDel A (atL c.links s.link) s.seq then 3 else 0
def doneDel (A : Ap) (c : Cf) (s : Sp) : Cf :=
 ⟨c.states.set (lk A.l s.link.toNat).2.toNat (takenAt A.t (lk A.l s.link.toNat).2 (at0 c.states (lk A.l s.link.toNat).2) (lk A.l s.link.toNat).1 (lk (atL c.links s.link) ((placeL (atL c.links s.link) s.seq).getD 0)).2),
  c.links.set s.link.toNat ((atL c.links s.link).eraseIdx ((placeL (atL c.links s.link) s.seq).getD 0)), c.sent⟩
def errOf (A : Ap) (c : Cf) (s : Sp) : Int := if s.kind = 0 then errPick A c s else if s.kind = 1 then errDel A c s else 1
def doneOf (A : Ap) (c : Cf) (s : Sp) : Cf := if s.kind = 0 then donePick A c s else doneDel A c s
def runOf (A : Ap) : Cf → List Sp → Cf × Nat × Int
 | c, [] => (c, 0, 0)
 | c, s :: r => if errOf A c s = 0 then ((runOf A (doneOf A c s) r).1, (runOf A (doneOf A c s) r).2.1 + 1, (runOf A (doneOf A c s) r).2.2) else (c, 0, errOf A c s)
def startOf (A : Ap) : Cf := ⟨A.t.map Nd.start, A.l.map fun _ => [], A.l.map fun _ => 0⟩
def pickS (n k : Nat) : Sp := ⟨0, n, k, 0, 0⟩
def delS (l : Nat) (q : Int) : Sp := ⟨1, 0, 0, l, q⟩
/-- All steps that may be tried. -/
def tryOf (c : Cf) : List Sp := ((List.range c.states.length).map fun n => (List.range 4).map fun k => pickS n k).flatten ++ ((List.range c.links.length).map fun l => (c.links.getD l []).map fun m => delS l m.1).flatten
def canOf (A : Ap) (c : Cf) : List Sp := (tryOf c).filter fun s => decide (errOf A c s = 0)
/-- The messages of a link may be: they rise, none is beyond what was sent. -/
def MsgsOK : Int → Int → Lks → Prop
 | _, _, [] => True
 | last, q, m :: r => last < m.1 ∧ m.1 ≤ q ∧ 0 ≤ m.2 ∧ m.2 < 4 ∧ MsgsOK m.1 q r
def LinkOK (q : Int) (m : Lks) : Prop := 0 ≤ q ∧ q ≤ 500 ∧ MsgsOK 0 q m
/-- A configuration that may be, of an application that may be. -/
structure CfIn (A : Ap) (c : Cf) : Prop where
 states : (c.states.length : Int) = A.n
 links : c.links.length = A.l.length
 sent : c.sent.length = A.l.length
 st : ∀ (n : Nat) (s : Int) (x : Nd), c.states[n]? = some s → A.t[n]? = some x → HasS x.states s
 ms : ∀ (i : Nat) (q : Int) (m : Lks), c.sent[i]? = some q → c.links[i]? = some m → LinkOK q m
def CfOK (A : Ap) (c : Cf) : Prop := TabOK A.n A.l A.t ∧ CfIn A c
theorem at0_of {l : List Int} {i : Nat} {x : Int} (h : l[i]? = some x) : at0 l i = x := by simp [at0, List.getD, h]
theorem atL_of {l : List Lks} {i : Nat} {x : Lks} (h : l[i]? = some x) : atL l i = x := by simp [atL, List.getD, h]
theorem set_cases {α : Type} {l : List α} {i j : Nat} {x y : α} (h : (l.set i x)[j]? = some y) : (j = i ∧ y = x ∧ i < l.length) ∨ (j ≠ i ∧ l[j]? = some y) := by
 rw [List.getElem?_set] at h
 split at h
 ·next e =>
  split at h
  ·next hl => cases h; exact .inl ⟨e.symm, rfl, by omega⟩
  ·cases h
 ·next e => exact .inr ⟨fun e' => e e'.symm, h⟩
theorem msgsOK_low {m : Lks} : ∀ {a b q : Int}, MsgsOK a q m → b ≤ a → MsgsOK b q m := by
 cases m with
 | nil => intro _ _ _ _ _; trivial
 | cons x r => intro a b q h hb; exact ⟨Int.lt_of_le_of_lt hb h.1, h.2⟩
theorem msgsOK_push {m : Lks} {q c : Int} : ∀ {a : Int}, MsgsOK a q m → a ≤ q → 0 ≤ c → c < 4 → MsgsOK a (q + 1) (m ++ [(q + 1, c)]) := by
 induction m with
 | nil => intro a _ ha h0 h4; exact ⟨by show a < q + 1; omega, Int.le_refl _, h0, h4, trivial⟩
 | cons x r ih => intro a h ha h0 h4; exact ⟨h.1, by have := h.2.1; omega, h.2.2.1, h.2.2.2.1, ih h.2.2.2.2 h.2.1 h0 h4⟩
theorem msgsOK_erase {m : Lks} {q : Int} : ∀ {a : Int} (i : Nat), MsgsOK a q m → MsgsOK a q (m.eraseIdx i) := by
 induction m with
 | nil => intro a i _; trivial
 | cons x r ih =>
  intro a i h
  cases i with
  | zero => exact msgsOK_low h.2.2.2.2 (Int.le_of_lt h.1)
  | succ i => exact ⟨h.1, h.2.1, h.2.2.1, h.2.2.2.1, ih i h.2.2.2.2⟩
theorem msgsOK_get {m : Lks} {q : Int} : ∀ {a : Int} {i : Nat} {x : Int × Int}, MsgsOK a q m → m[i]? = some x → a < x.1 ∧ x.1 ≤ q ∧ 0 ≤ x.2 ∧ x.2 < 4 := by
 induction m with
 | nil => intro a i x _ h; simp at h
 | cons y r ih =>
  intro a i x h hx
  cases i with
  | zero => simp at hx; subst hx; exact ⟨h.1, h.2.1, h.2.2.1, h.2.2.2.1⟩
  | succ i => have := ih h.2.2.2.2 (by simpa using hx); exact ⟨Int.lt_trans h.1 this.1, this.2⟩
/-- Messages rise. -/
theorem msgsOK_lt {m : Lks} {q : Int} : ∀ {a : Int} {i j : Nat} {x y : Int × Int}, MsgsOK a q m → i < j → m[i]? = some x → m[j]? = some y → x.1 < y.1 := by
 induction m with
 | nil => intro a i j x y _ _ h; simp at h
 | cons z r ih =>
  intro a i j x y h hij hx hy
  cases j with
  | zero => omega
  | succ j =>
   have hy' : r[j]? = some y := by simpa using hy
   cases i with
   | zero => simp at hx; subst hx; exact (msgsOK_get h.2.2.2.2 hy').1
   | succ i => exact ih h.2.2.2.2 (i := i) (j := j) (by omega) (by simpa using hx) hy'
theorem placeL_some {m : Lks} {q : Int} {i : Nat} (h : placeL m q = some i) : ∃ x, m[i]? = some x ∧ x.1 = q ∧ ∀ (j : Nat) (y : Int × Int), j < i → m[j]? = some y → y.1 ≠ q := by
 unfold placeL at h
 rw [List.findIdx?_eq_some_iff_getElem] at h
 obtain ⟨hi, h1, h2⟩ := h
 refine ⟨m[i], List.getElem?_eq_getElem hi, by simpa using h1, fun j y hj hy => ?_⟩
 have := h2 j hj
 obtain ⟨hl, rfl⟩ := List.getElem?_eq_some_iff.1 hy
 simpa using this
theorem placeL_of {m : Lks} {q : Int} {i : Nat} {x : Int × Int} (hx : m[i]? = some x) (e : x.1 = q) (hf : ∀ (j : Nat) (y : Int × Int), j < i → m[j]? = some y → y.1 ≠ q) : placeL m q = some i := by
 unfold placeL
 rw [List.findIdx?_eq_some_iff_getElem]
 obtain ⟨hl, rfl⟩ := List.getElem?_eq_some_iff.1 hx
 exact ⟨hl, by simpa using e, fun j hj => by simpa using hf j _ hj (List.getElem?_eq_getElem (by omega))⟩
theorem placeL_none {m : Lks} {q : Int} : placeL m q = none ↔ ∀ (i : Nat) (x : Int × Int), m[i]? = some x → x.1 ≠ q := by
 unfold placeL
 rw [List.findIdx?_eq_none_iff]
 constructor
 ·intro h i x hx e; have := h x (List.mem_of_getElem? hx); simp [e] at this
 ·intro h x hx; obtain ⟨i, hi⟩ := List.mem_iff_getElem?.1 hx; simpa using h i x hi
theorem send1_len (L : Lks) (n : Int) (c : List Lks × List Int) (m : Int × Int) : (send1 L n c m).1.length = c.1.length ∧ (send1 L n c m).2.length = c.2.length := by simp [send1]
theorem sendAll_len (L : Lks) (n : Int) (ms : Lks) : ∀ c : List Lks × List Int, (sendAll L n ms c).1.length = c.1.length ∧ (sendAll L n ms c).2.length = c.2.length := by
 induction ms with
 | nil => intro c; exact ⟨rfl, rfl⟩
 | cons m r ih => intro c; have h1 := ih (send1 L n c m); have h2 := send1_len L n c m; exact ⟨h1.1.trans h2.1, h1.2.trans h2.2⟩
theorem send1_ok {L : Lks} {n : Int} {c : List Lks × List Int} {m : Int × Int} (hm : Goes L n m.1 m.2) (hl : c.1.length = L.length) (hs : c.2.length = L.length)
  (h : ∀ (i : Nat) (q : Int) (l : Lks), c.2[i]? = some q → c.1[i]? = some l → LinkOK q l) (hb : ¬ 500 < at0 c.2 (findL L (n, m.1)) + 1) :
  ∀ (i : Nat) (q : Int) (l : Lks), (send1 L n c m).2[i]? = some q → (send1 L n c m).1[i]? = some l → LinkOK q l := by
 intro i q l hq hl'
 rcases findL_cases L (n, m.1) with ⟨k, hk, _, _, e⟩ | ⟨hno, _⟩
 ·unfold send1 at hq hl'
  rw [e] at hq hl' hb
  simp only [Int.toNat_natCast] at hq hl'
  obtain ⟨q0, hq0⟩ := get_of_lt (l := c.2) (i := k) (by omega)
  obtain ⟨l0, hl0⟩ := get_of_lt (l := c.1) (i := k) (by omega)
  rw [at0_of hq0, atL_of hl0] at hl'
  rw [at0_of hq0] at hq hb
  rcases set_cases hq with ⟨rfl, rfl, _⟩ | ⟨hne, hq⟩
  ·rcases set_cases hl' with ⟨_, rfl, _⟩ | ⟨hne, _⟩
   ·have h0 := h i q0 l0 hq0 hl0
    exact ⟨by have := h0.1; omega, by omega, msgsOK_push h0.2.2 h0.1 hm.2.1 hm.2.2⟩
   ·exact absurd rfl hne
  ·rcases set_cases hl' with ⟨e2, _⟩ | ⟨_, hl'⟩
   ·exact absurd e2 hne
   ·exact h i q l hq hl'
 ·exact absurd hm.1 hno
theorem sendAll_ok {L : Lks} {n : Int} : ∀ {ms : Lks} {c : List Lks × List Int}, (∀ m ∈ ms, Goes L n m.1 m.2) → c.1.length = L.length → c.2.length = L.length →
  (∀ (i : Nat) (q : Int) (l : Lks), c.2[i]? = some q → c.1[i]? = some l → LinkOK q l) → bigAt L n ms c.2 = false →
  ∀ (i : Nat) (q : Int) (l : Lks), (sendAll L n ms c).2[i]? = some q → (sendAll L n ms c).1[i]? = some l → LinkOK q l := by
 intro ms
 induction ms with
 | nil => intro c _ _ _ h _; exact h
 | cons m r ih =>
  intro c hm h1 h2 h hb
  unfold bigAt at hb
  simp only [Bool.or_eq_false_iff, decide_eq_false_iff_not] at hb
  have hl := send1_len L n c m
  exact ih (c := send1 L n c m) (fun x hx => hm x (List.mem_cons_of_mem _ hx)) (hl.1.trans h1) (hl.2.trans h2) (send1_ok (hm m (List.mem_cons_self ..)) h1 h2 h hb.1) hb.2
/-- What a node in such a state picks. -/
theorem pick_facts {A : Ap} {c : Cf} (h : CfOK A c) {n : Int} (h0 : 0 ≤ n) (h1 : n < c.states.length) :
  ∃ (i k : Nat) (x : Nd), n = (i : Int) ∧ A.t[i]? = some x ∧ at0 c.states n = (k : Int) ∧ k < x.states.length ∧ c.states[i]? = some (k : Int) ∧ PlaceOK A.l ⟨stC A c n, n, x.states⟩ := by
 obtain ⟨i, rfl⟩ := Int.eq_ofNat_of_zero_le h0
 have hl : i < A.t.length := by have a := h.2.states; have b := h.1.2.1; omega
 obtain ⟨x, hx⟩ := get_of_lt hl
 obtain ⟨s, hs⟩ := get_of_lt (l := c.states) (i := i) (by omega)
 have hh := h.2.st i s x hs hx
 obtain ⟨k, rfl⟩ := Int.eq_ofNat_of_zero_le hh.1
 have hk : k < x.states.length := by have h2 := hh.2; have h2 : (k : Int) < (x.states.length : Int) := h2; omega
 exact ⟨i, k, x, rfl, hx, at0_of hs, hk, hs, by unfold stC; rw [at0_of hs]; exact place_ok h.1 hx hk⟩
theorem pickAt_get {s : St} {k : Int} (h : isPick s k = true) : ∃ (j : Nat) (p : Pk), k = (j : Int) ∧ s.picks[j]? = some p ∧ pickAt s k = p := by
 unfold isPick at h
 simp only [decide_eq_true_eq] at h
 obtain ⟨j, rfl⟩ := Int.eq_ofNat_of_zero_le h.1
 obtain ⟨p, hp⟩ := get_of_lt (l := s.picks) (i := j) (by omega)
 exact ⟨j, p, rfl, hp, by unfold pickAt; rw [if_pos h]; exact getD_of (by simpa using hp)⟩
theorem errPick_zero {A : Ap} {c : Cf} {s : Sp} (h : errPick A c s = 0) : 0 ≤ s.node ∧ s.node < c.states.length ∧ (stC A c s.node).mode = 1 ∧ isPick (stC A c s.node) s.k = true ∧ bigAt A.l s.node (pickAt (stC A c s.node) s.k).sends c.sent = false := by
 unfold errPick at h
 split at h
 ·cases h
 ·next h1 =>
  split at h
  ·cases h
  ·next h2 =>
   split at h
   ·cases h
   ·next h3 =>
    split at h
    ·cases h
    ·next h4 => exact ⟨by omega, by omega, by simpa using h2, by simpa using h3, by simpa using h4⟩
theorem donePick_ok {A : Ap} {c : Cf} {s : Sp} (h : CfOK A c) (he : errPick A c s = 0) : CfOK A (donePick A c s) := by
 obtain ⟨h0, h1, h2, h3, h4⟩ := errPick_zero he
 obtain ⟨i, k, x, e, hx, hk, hkl, hs, hP⟩ := pick_facts h h0 h1
 obtain ⟨j, p, rfl', hp, hpa⟩ := pickAt_get h3
 obtain ⟨hn, hsl, hse⟩ := hP.2.2.1.2.2 j p hp
 have hlen := sendAll_len A.l s.node p.sends (c.links, c.sent)
 refine ⟨h.1, ⟨by simp [donePick, h.2.states], by unfold donePick; rw [hpa]; exact hlen.1.trans h.2.links, by unfold donePick; rw [hpa]; exact hlen.2.trans h.2.sent, fun n s' y hs' hy => ?_, ?_⟩⟩
 ·unfold donePick at hs'
  rw [hpa, e, Int.toNat_natCast] at hs'
  rcases set_cases hs' with ⟨rfl, rfl, _⟩ | ⟨_, hs'⟩
  ·rw [hx] at hy; cases hy; exact hn
  ·exact h.2.st n s' y hs' hy
 ·unfold donePick
  rw [hpa]
  rw [hpa] at h4
  refine sendAll_ok (fun m hm => ?_) h.2.links h.2.sent h.2.ms h4
  obtain ⟨r, hr⟩ := List.mem_iff_getElem?.1 hm
  exact hse r m hr
theorem errDel_zero {A : Ap} {c : Cf} {s : Sp} (h : errDel A c s = 0) : ∃ (l i : Nat) (m : Lks) (x : Int × Int), s.link = (l : Int) ∧ c.links[l]? = some m ∧ atL c.links s.link = m ∧ placeL m s.seq = some i ∧ m[i]? = some x ∧ x.1 = s.seq ∧ (A.ff = true → i = 0) := by
 unfold errDel at h
 split at h
 ·cases h
 ·next h1 =>
  obtain ⟨l, e⟩ := Int.eq_ofNat_of_zero_le (show 0 ≤ s.link by omega)
  obtain ⟨m, hm⟩ := get_of_lt (l := c.links) (i := l) (by omega)
  have ha : atL c.links s.link = m := by rw [e]; exact atL_of hm
  rw [ha] at h
  split at h
  ·cases h
  ·next h2 =>
   unfold noDel at h2
   cases hp : placeL m s.seq with
   | none => rw [hp] at h2; simp at h2
   | some i =>
    rw [hp] at h2
    obtain ⟨x, hx, he, _⟩ := placeL_some hp
    refine ⟨l, i, m, x, e, hm, ha, hp, hx, he, fun hf => ?_⟩
    rw [hf] at h2
    simp at h2
    exact h2
theorem lk_of {L : Lks} {i : Nat} {p : Int × Int} (h : L[i]? = some p) : lk L i = p := by simp [lk, List.getD, h]
/-- A link's ends. -/
theorem link_facts {A : Ap} {c : Cf} (h : CfOK A c) {l : Nat} (hl : l < A.l.length) : ∃ (i k : Nat) (x : Nd), (lk A.l l).2 = (i : Int) ∧ A.t[i]? = some x ∧ c.states[i]? = some (k : Int) ∧ k < x.states.length := by
 have hr := h.1.1.2.2.2.1.inr _ (lk_mem hl)
 obtain ⟨i, hi⟩ := Int.eq_ofNat_of_zero_le hr.2.2.1
 have := h.2.states
 obtain ⟨i', k, x, e, hx, _, hkl, hs, _⟩ := pick_facts h (n := (i : Int)) (by omega) (by omega)
 obtain rfl : i' = i := by omega
 exact ⟨i', k, x, hi, hx, hs, hkl⟩
theorem doneDel_ok {A : Ap} {c : Cf} {s : Sp} (h : CfOK A c) (he : errDel A c s = 0) : CfOK A (doneDel A c s) := by
 obtain ⟨l, i, m, x, e, hm, ha, hp, hx, _, _⟩ := errDel_zero he
 have hl : l < A.l.length := by have := lt_of_get hm; have := h.2.links; omega
 obtain ⟨n, k, y, en, hy, hs, hk⟩ := link_facts h hl
 refine ⟨h.1, ⟨by simp [doneDel, h.2.states], by simp [doneDel, h.2.links], h.2.sent, fun n' s' y' hs' hy' => ?_, fun j q l' hq hl' => ?_⟩⟩
 ·unfold doneDel at hs'
  simp only [e, Int.toNat_natCast, en] at hs'
  rw [at0_of hs] at hs'
  rcases set_cases hs' with ⟨rfl, rfl, _⟩ | ⟨_, hs'⟩
  ·rw [hy] at hy'; cases hy'
   obtain ⟨s2, h1, h2, _⟩ := taken_ok h.1 hy hk (lk A.l l).1 (lk (atL c.links (l : Int)) ((placeL (atL c.links (l : Int)) s.seq).getD 0)).2
   rw [h1]
   exact ⟨by omega, by show (s2 : Int) < (y.states.length : Int); omega⟩
  ·exact h.2.st n' s' y' hs' hy'
 ·unfold doneDel at hl' hq
  rw [ha, hp, e] at hl'
  simp only [Int.toNat_natCast, Option.getD_some] at hl' hq
  rcases set_cases hl' with ⟨rfl, rfl, _⟩ | ⟨_, hl'⟩
  ·have h0 := h.2.ms j q m hq hm
   exact ⟨h0.1, h0.2.1, msgsOK_erase i h0.2.2⟩
  ·exact h.2.ms j q l' hq hl'
theorem doneOf_ok {A : Ap} {c : Cf} {s : Sp} (h : CfOK A c) (he : errOf A c s = 0) : CfOK A (doneOf A c s) := by
 unfold errOf at he
 unfold doneOf
 split at he
 ·next h0 => rw [if_pos h0]; exact donePick_ok h he
 ·next h0 =>
  split at he
  ·rw [if_neg h0]; exact doneDel_ok h he
  ·cases he
theorem startOf_ok {A : Ap} (h : TabOK A.n A.l A.t) : CfOK A (startOf A) := by
 refine ⟨h, ⟨by simp [startOf, h.2.1], by simp [startOf], by simp [startOf], fun n s x hs hx => ?_, fun i q m hq hm => ?_⟩⟩
 ·simp only [startOf, List.getElem?_map, hx, Option.map_some, Option.some.injEq] at hs
  subst hs
  exact (h.2.2 n x hx).2.1
 ·simp only [startOf, List.getElem?_map, Option.map_eq_some_iff] at hq hm
  obtain ⟨_, _, rfl⟩ := hq
  obtain ⟨_, _, rfl⟩ := hm
  exact ⟨by omega, by omega, trivial⟩
theorem runOf_ok {A : Ap} : ∀ {l : List Sp} {c : Cf}, CfOK A c → CfOK A (runOf A c l).1 := by
 intro l
 induction l with
 | nil => intro c h; exact h
 | cons s r ih =>
  intro c h
  unfold runOf
  split
  ·next he => exact ih (doneOf_ok h he)
  ·exact h
end Go.Proofs.Ytiblcpkejhiehaa

namespace Go.Proofs.Ytiblcpkejhiehaa
open Go.RowKit Go.PlainAid
def cmpV (x y : Int) : Int := if x < y then -1 else if y < x then 1 else 0
theorem isnanI (x : Int) (w : World) : Calls Try.prog 98 #[.int .i64 x] w fun e w' => e = .returned (.bool false) ∧ w = w' := by
 go_enter Try.func98, Try.ntmps98
 go_wp2
 go_ret
 exact ⟨by simp, rfl⟩
theorem compareI (x y : Int) (w : World) : Calls Try.prog 94 #[.int .i64 x, .int .i64 y] w fun e w' => e = .returned (.int .i64 (cmpV x y)) ∧ w = w' := by
 unfold cmpV
 by_cases h1 : x < y
 ·rw [if_pos h1]
  go_enter Try.func94, Try.ntmps94
  go_wp2_with fail
  refine (isnanI _ _).mono ?_
  rintro e w' ⟨rfl, rfl⟩
  go_wp2_with fail
  refine (isnanI _ _).mono ?_
  rintro e w' ⟨rfl, rfl⟩
  go_wp2_with fail
  go_ret
  exact ⟨rfl, rfl⟩
 ·rw [if_neg h1]
  by_cases h2 : y < x
  ·rw [if_pos h2]
   go_enter Try.func94, Try.ntmps94
   go_wp2_with fail
   refine (isnanI _ _).mono ?_
   rintro e w' ⟨rfl, rfl⟩
   go_wp2_with fail
   refine (isnanI _ _).mono ?_
   rintro e w' ⟨rfl, rfl⟩
   go_wp2_with fail
   go_ret
   exact ⟨rfl, rfl⟩
  ·rw [if_neg h2]
   go_enter Try.func94, Try.ntmps94
   go_wp2_with fail
   refine (isnanI _ _).mono ?_
   rintro e w' ⟨rfl, rfl⟩
   go_wp2_with fail
   refine (isnanI _ _).mono ?_
   rintro e w' ⟨rfl, rfl⟩
   go_wp2_with fail
   go_ret
   exact ⟨rfl, rfl⟩
def fnPlace : Value := .func (.func 93) #[] #[]
theorem place1_at (x y q : Int) (w : World) : Calls Try.prog 93 #[.agg #[.int .i64 x, .int .i64 y], .int .i64 q] w fun e w' => e = .returned (.int .i64 (cmpV x q)) ∧ Below w.heap.size w w' := by
 go_enter Try.func93, Try.ntmps93
 go_wp2_with fail
 refine (compareI x q _).mono ?_
 rintro e w' ⟨rfl, rfl⟩
 go_wp2_with fail
 go_ret
 exact ⟨rfl, by go_grown⟩
theorem msg_at {w : World} {sa : Option Addr} {sl sc i : Nat} {l : Lks} {p : Int × Int} (h : Has w (.slice sa sl sc) (dLinks l)) (hx : l[i]? = some p) : ∃ b o, sa = some ⟨b, o, none⟩ ∧ w.cell? ⟨b, o + i * 2, none⟩ = some (.int .i64 p.1) ∧ w.cell? ⟨b, o + i * 2 + 1, none⟩ = some (.int .i64 p.2) := by
 obtain ⟨b, off, cap, e, _, _, cs, hcs, hc⟩ := cells_of (f := fun p : Int × Int => [dI p.1, dI p.2]) h hx
 obtain ⟨c, r, rfl, h1, hcs⟩ := hcs.cons
 obtain ⟨c2, r, rfl, h2, hcs⟩ := HasL.cons hcs
 obtain rfl := Holds.val h1
 obtain rfl := Holds.val h2
 simp only [Value.slice.injEq] at e
 exact ⟨b, off, e.1, hc 0 _ rfl, hc 1 _ rfl⟩
/-- Numbers that rise. -/
def Rise (m : Lks) : Prop := ∀ (i j : Nat) (x y : Int × Int), i < j → m[i]? = some x → m[j]? = some y → x.1 < y.1
/-- What a search tells. -/
def Found (m : Lks) (q : Int) (w : World) (e : Ending) (w' : World) : Prop := ∃ (i : Nat) (b : Bool), e = .returned (.tuple #[.int .i64 i, .bool b]) ∧ i ≤ m.length ∧ (∀ (k : Nat) (x : Int × Int), k < i → m[k]? = some x → x.1 < q) ∧ (∀ (k : Nat) (x : Int × Int), i ≤ k → m[k]? = some x → q ≤ x.1) ∧ (b = true ↔ ∃ x, m[i]? = some x ∧ x.1 = q) ∧ Below w.heap.size w w'
set_option maxHeartbeats 8000000 in
set_option maxRecDepth 100000 in
theorem search_at (m : Lks) (q : Int) (a : Option Addr) (cap : Nat) (w : World) (h : Has w (.slice a m.length cap) (dLinks m)) (hr : Rise m) (hn : m.length ≤ 1000000) :
  Calls Try.prog 92 #[.slice a m.length cap, .int .i64 q, fnPlace] w fun e w' => Found m q w e w' := by
 have H := Lib.hid h
 have HR := Lib.hid hr
 obtain ⟨l, hl⟩ : ∃ l, l = m.length := ⟨_, rfl⟩
 rw [← hl] at h hn ⊢
 have HL := Lib.hid hl
 clear h hr hl
 unfold fnPlace
 go_enter Try.func92, Try.ntmps92
 try simp only [List.append_eq, List.cons_append, List.nil_append]
 go_wp2_with fail
 go_loopw [9, 10] (fun i j wr => ∃ c d : Nat, i = .int .i64 c ∧ j = .int .i64 d ∧ c ≤ d ∧ d ≤ l ∧ (∀ (k : Nat) (x : Int × Int), k < c → m[k]? = some x → x.1 < q) ∧ (∀ (k : Nat) (x : Int × Int), d ≤ k → m[k]? = some x → q ≤ x.1) ∧ Below w.heap.size w wr) (fun i j _ => (intOf j).toNat - (intOf i).toNat)
 case atStart => exact ⟨0, l, rfl, rfl, by omega, by omega, fun k x hk => by omega, fun k x hk hx => by have := lt_of_some hx; have := HL.out; omega, Below.refl _ _⟩
 case round =>
  obtain ⟨c, d, rfl, rfl, hcd, hdl, hlo, hhi, hb⟩ := hrel
  have LO := Lib.hid hlo
  have HI := Lib.hid hhi
  have BW := Lib.hid hb
  clear hlo hhi hb
  by_cases hlt : c < d
  ·have hlt' : (c : Int) < d := by omega
   obtain ⟨h, hh⟩ : ∃ h : Nat, ((c : Int) + d) / 2 = (h : Int) := ⟨(c + d) / 2, by omega⟩
   have hc1 : c ≤ h := by omega
   have hc2 : h < d := by omega
   have hc3 : h < l := by omega
   obtain ⟨⟨x, y⟩, hx⟩ := some_of_lt (l := m) (i := h) (by have := HL.out; omega)
   obtain ⟨b, o, e, x1, x2⟩ := msg_at (H.out.later BW.out) hx
   subst e
   have HX := Lib.hid hx
   clear hx
   go_wp2_with fail
   refine (place1_at x y q _).mono ?_
   rintro e w2 ⟨rfl, hb2⟩
   have B2 := Lib.hid hb2
   clear hb2 x1 x2
   by_cases hxq : x < q
   ·have hv : cmpV x q = -1 := by unfold cmpV; rw [if_pos hxq]
    rw [hv]
    go_wp2_with fail
    go_roundw
    case rel => exact ⟨h + 1, d, by go_num, rfl, by omega, hdl, fun k z hk hz => by
     by_cases e : k = h
     ·subst e; have := HX.out; rw [hz] at this; cases this; exact hxq
     ·have := HR.out k h z (x, y) (by omega) hz HX.out; simp only at this; omega, HI.out, below_step BW.out.size BW.out B2.out⟩
    case measure => simp [intOf]; omega
   ·have hv : (cmpV x q < 0) = False := by unfold cmpV; rw [if_neg hxq]; split <;> simp
    have hv' : decide (cmpV x q < 0) = false := by simp [hv]
    go_wp2_with fail
    go_roundw
    case rel => exact ⟨c, h, rfl, rfl, hc1, by omega, LO.out, fun k z hk hz => by
     by_cases e : k = h
     ·subst e; have := HX.out; rw [hz] at this; cases this; simp only; omega
     ·have := HR.out h k (x, y) z (by omega) HX.out hz; simp only at this; omega, below_step BW.out.size BW.out B2.out⟩
    case measure => simp [intOf]; omega
  ·have hlt' : ¬ (c : Int) < d := by omega
   obtain rfl : c = d := by omega
   by_cases hc3 : c < l
   ·have hc3' : (c : Int) < l := by omega
    obtain ⟨⟨x, y⟩, hx⟩ := some_of_lt (l := m) (i := c) (by have := HL.out; omega)
    obtain ⟨b, o, e, x1, x2⟩ := msg_at (H.out.later BW.out) hx
    subst e
    have HX := Lib.hid hx
    clear hx
    go_wp2_with fail
    refine (place1_at x y q _).mono ?_
    rintro e w2 ⟨rfl, hb2⟩
    have B2 := Lib.hid hb2
    clear hb2 x1 x2
    by_cases hxq : x = q
    ·have hv : cmpV x q = 0 := by unfold cmpV; rw [if_neg (by omega), if_neg (by omega)]
     rw [hv]
     go_wp2_with fail
     go_ret2
     exact ⟨c, true, rfl, by have := HL.out; omega, LO.out, HI.out, ⟨fun _ => ⟨_, HX.out, hxq⟩, fun _ => rfl⟩, below_step BW.out.size BW.out B2.out⟩
    ·have hv : (cmpV x q == 0) = false := by
      unfold cmpV
      by_cases h1 : x < q
      ·rw [if_pos h1]; rfl
      ·rw [if_neg h1, if_pos (by omega)]; rfl
     go_wp2_with fail
     go_ret2
     exact ⟨c, false, rfl, by have := HL.out; omega, LO.out, HI.out, ⟨fun h => (by cases h), fun ⟨z, hz, e⟩ => by rw [HX.out] at hz; cases hz; exact absurd e hxq⟩, below_step BW.out.size BW.out B2.out⟩
   ·have hc3' : ¬ (c : Int) < l := by omega
    go_wp2_with fail
    go_ret2
    exact ⟨c, false, rfl, by have := HL.out; omega, LO.out, HI.out, ⟨fun h => (by cases h), fun ⟨z, hz, _⟩ => by have := lt_of_some hz; have := HL.out; omega⟩, BW.out⟩
theorem place_at (m : Lks) (q : Int) (a : Option Addr) (cap : Nat) (w : World) (h : Has w (.slice a m.length cap) (dLinks m)) (hr : Rise m) (hn : m.length ≤ 1000000) :
  Calls Try.prog 82 #[.slice a m.length cap, .int .i64 q] w fun e w' => Found m q w e w' := by
 have H := Lib.hid h
 have HR := Lib.hid hr
 have HN := Lib.hid hn
 clear h hr hn
 go_enter Try.func82, Try.ntmps82
 go_wp2_with fail
 refine (search_at m q _ _ _ H.out HR.out HN.out).mono ?_
 rintro e w' ⟨i, b, rfl, h1, h2, h3, h4, h5⟩
 have HH := Lib.hid (And.intro h1 (And.intro h2 (And.intro h3 (And.intro h4 h5))))
 clear h1 h2 h3 h4 h5
 go_wp2_with fail
 go_ret2
 exact ⟨i, b, rfl, HH.out⟩
end Go.Proofs.Ytiblcpkejhiehaa

set_option linter.unusedSimpArgs false
namespace Go.Proofs.Ytiblcpkejhiehaa
open Go.RowKit Go.PlainAid
theorem links_atoms (m : Lks) : (m.map fun p => [dI p.1, dI p.2]).flatten = (flat m).map D.atom := by
 induction m with
 | nil => rfl
 | cons p r ih =>
  rw [List.map_cons, List.flatten_cons, ih]
  simp [flat, dI]
theorem holdsL_atoms {S : Prop} {P : Nat → Prop} {w : World} : ∀ {cs vs : List Value}, HoldsL S P w cs (vs.map D.atom) → cs = vs := by
 intro cs vs h
 obtain ⟨hl, fp, _, _, h4⟩ := h
 rw [List.length_map] at hl
 apply List.ext_getElem?
 intro j
 by_cases hj : j < vs.length
 ·obtain ⟨c, hc⟩ := some_of_lt (l := cs) (i := j) (by omega)
  obtain ⟨v, hv⟩ := some_of_lt hj
  have := h4 j c (.atom v) hc (by rw [List.getElem?_map, hv]; rfl)
  rw [hc, hv, this.val]
 ·rw [List.getElem?_eq_none (by omega), List.getElem?_eq_none (by omega)]
theorem atoms_holdsL {w : World} {vs : List Value} (h : ∀ v ∈ vs, v.oneCell' = true) : HoldsL True (fun _ => False) w vs (vs.map D.atom) := by
 refine ⟨by simp, fun _ _ => False, fun _ _ h => h, fun _ _ _ _ h => h.elim, fun j c d hc hd => ?_⟩
 rw [List.getElem?_map, hc] at hd
 cases hd
 exact .atom _ _ _ (h c (List.mem_of_getElem? hc))
theorem row_open {P : Nat → Prop} {w : World} {a : Option Addr} {k cap : Nat} {m : Lks} (h : Holds True P w (.slice a k cap) (dLinks m)) (hm : 0 < m.length) :
  ∃ (g : Nat) (cur : Array Value) (e : TypeId), a = some ⟨g, 0, none⟩ ∧ P g ∧ g < w.heap.size ∧ w.heap[g]? = some (.cells cur e (0, 0)) ∧ k = m.length ∧ k ≤ cap ∧ cap ≤ maxLen ∧ cur.size = cap * 2 ∧ cur.toList.take (k * 2) = flat m := by
 obtain ⟨h1, _, h3⟩ := h.open (by decide)
 rw [List.length_map] at h1
 rcases h3 with ⟨_, e⟩ | ⟨g, cur, e, cells, Q, ha, hP, hg, hh, hk, hc, hs, ht, hL, _, _⟩
 ·have := congrArg List.length e; simp at this; subst this; simp at hm
 ·rw [links_atoms] at hL
  exact ⟨g, cur, e, ha, hP, hg, hh, h1, hk, hc, hs, ht.trans (holdsL_atoms hL)⟩
theorem flat_one (m : Lks) : ∀ v ∈ flat m, v.oneCell' = true := by
 intro v h
 unfold flat at h
 obtain ⟨p, _, h⟩ := List.mem_flatMap.1 h
 simp at h
 rcases h with rfl | rfl <;> rfl
theorem row_mk {P : Nat → Prop} {w : World} {g cap k : Nat} {m : Lks} {cur : Array Value} {e : TypeId} (hh : w.heap[g]? = some (.cells cur e (0, 0))) (hP : P g) (hk : k = m.length) (hc : k ≤ cap) (h63 : cap ≤ maxLen) (hs : cur.size = cap * 2) (ht : cur.toList.take (k * 2) = flat m) : Holds True P w (.slice (some ⟨g, 0, none⟩) k cap) (dLinks m) :=
 holds_mk (Q := fun _ => False) (by simpa using hk) hP hh hc h63 hs ht (by intro ds h; obtain ⟨p, _, rfl⟩ := List.mem_map.1 h; rfl) (by rw [links_atoms]; exact atoms_holdsL (flat_one m)) (fun _ h => h.elim) (fun h => h)
theorem flat_take (m : Lks) (i : Nat) : (flat m).take (i * 2) = flat (m.take i) := by
 induction m generalizing i with
 | nil => simp [flat]
 | cons p r ih =>
  cases i with
  | zero => simp [flat]
  | succ i =>
   have e : flat (p :: r) = .int .i64 p.1 :: .int .i64 p.2 :: flat r := rfl
   rw [e, show (i + 1) * 2 = i * 2 + 1 + 1 by omega, List.take_succ_cons, List.take_succ_cons, ih, List.take_succ_cons]
   rfl
theorem flat_drop (m : Lks) (i : Nat) : (flat m).drop (i * 2) = flat (m.drop i) := by
 induction m generalizing i with
 | nil => simp [flat]
 | cons p r ih =>
  cases i with
  | zero => simp
  | succ i =>
   have e : flat (p :: r) = .int .i64 p.1 :: .int .i64 p.2 :: flat r := rfl
   rw [e, show (i + 1) * 2 = i * 2 + 1 + 1 by omega, List.drop_succ_cons, List.drop_succ_cons, ih, List.drop_succ_cons]
theorem flat_erase (m : Lks) (i : Nat) : flat (m.eraseIdx i) = flat (m.take i) ++ flat (m.drop (i + 1)) := by
 rw [List.eraseIdx_eq_take_drop_succ, flat_append]
theorem infoMsg : (Try.prog.info? 63).map (fun i => (i.zero, i.size, i.bytes)) = some (some (.agg #[.int .i64 0, .int .i64 0]), 2, 16) := by kernel_rfl
/-- A step that appends, by what it does. -/
theorem appRunS {ops : Array Oper} {o : Oper} {a : Act} {K : Act → World → Prop} {R : Exit → Act → World → Prop} {F : Prop} {w w' : World} {v sv xv : Value} (hgd : o.guard = none) (s x : Operand) (T : TypeId)
  (ho : o.op = .call { callee := .builtin .append, args := #[s, x], argTypes := #[T, T] }) (hs : a.eval s = sv) (hx : a.eval x = xv) (hr : (Builtin.append_ #[T, T] o.type #[sv, xv]).run Try.prog w = .ok v w')
  (H : K (a.put o.dst v) w') : if Region.wanted o (yielded ops a.tmps) = true then Oper.wp Try.prog o a w K R else F := by
 have hw : Region.wanted o (yielded ops a.tmps) = true := by simp [Region.wanted, hgd]
 rw [if_pos hw]
 unfold Oper.wp execOp
 simp only [ho, resolve, invoke, builtin, Sem.run_bind, Sem.run_pure, Result.andThen_ok, List.map_toArray, List.map_cons, List.map_nil, hs, hx, hr]
 exact H
theorem clearRunL {ops : Array Oper} {rest : List Oper} {o : Oper} {a : Act} {R : Exit → Act → World → Prop} {w w' : World} {sv : Value} (hgd : o.guard = none) (s : Operand) (T : TypeId)
  (ho : o.op = .call { callee := .builtin .clear, args := #[s], argTypes := #[T] }) (hs : a.eval s = sv) (hr : (Builtin.clear_ #[T] o.type #[sv]).run Try.prog w = .ok (.tuple #[]) w')
  (H : wpList Try.prog ops R rest (a.put o.dst (.tuple #[])) w') : wpList Try.prog ops R (o :: rest) a w := by
 refine wpList_plain hgd fun K' hK => ?_
 unfold Oper.wp execOp
 simp only [ho, resolve, invoke, builtin, Sem.run_bind, Sem.run_pure, Result.andThen_ok, List.map_toArray, List.map_cons, List.map_nil, hs, hr]
 exact hK _ _ H
theorem zero_msg (w : World) : (zeroValue 63).run Try.prog w = .ok (.agg #[.int .i64 0, .int .i64 0]) w := by kernel_rfl
theorem run_clear1 {w : World} (ty : TypeId) (g o c : Nat) (cur : Array Value) (e : TypeId) (hg : w.heap[g]? = some (.cells cur e (0, 0))) (hl : o + 2 ≤ cur.size) :
  (Builtin.clear_ #[51] ty #[.slice (some ⟨g, o, none⟩) 1 c]).run Try.prog w = .ok (.tuple #[]) (w.setRow g (cur.toList.take o ++ [Value.int .i64 0, Value.int .i64 0] ++ cur.toList.drop (o + 2)).toArray) := by
 have h3 := run_storeCells_at Try.prog g o e [.int .i64 0, .int .i64 0] 0 cur w hg (by simpa using hl) (by intro v h; simp at h; subst h; rfl)
 simp only [Nat.add_zero, List.length_cons, List.length_nil] at h3
 have hz : (Builtin.zeroCells (Value.agg #[.int .i64 0, .int .i64 0]).cells 1).toList = [.int .i64 0, .int .i64 0] := by kernel_rfl
 simp [Builtin.clear_, run_underlying Try.underlying51, zero_msg, hz, h3]
end Go.Proofs.Ytiblcpkejhiehaa

set_option linter.unusedSimpArgs false
namespace Go.Proofs.Ytiblcpkejhiehaa
open Go.RowKit Go.PlainAid
/-- What a deletion leaves. -/
def Deleted (P : Nat → Prop) (m : Lks) (a : Option Addr) (k1 cap : Nat) (w : World) (e : Ending) (w' : World) : Prop := ∃ g, a = some ⟨g, 0, none⟩ ∧ P g ∧ e = .returned (.slice a k1 cap) ∧ Holds True P w' (.slice a k1 cap) (dLinks m) ∧ w.grownBy w' (some g)
set_option maxHeartbeats 8000000 in
set_option maxRecDepth 100000 in
theorem delete_at {P : Nat → Prop} (m : Lks) (i : Nat) (a : Option Addr) (k cap : Nat) (w : World) (h : Holds True P w (.slice a k cap) (dLinks m)) (k1 : Nat) (hk : k = m.length) (hkk : k = k1 + 1) (hi : i < k) (hn : k ≤ 1000000) :
  Calls Try.prog 83 #[.slice a k cap, .int .i64 i, .int .i64 ((i : Int) + 1)] w fun e w' => Deleted P (m.eraseIdx i) a k1 cap w e w' := by
 obtain ⟨g, cur, e, rfl, hP, hg, hh, hk0, hkc, hcx, hcs, ht⟩ := row_open h (by omega)
 clear hk0
 obtain ⟨i0, hi0, hz0, hs0, hb0⟩ := info_parts infoMsg
 -- what comes to the left
 obtain ⟨news, hnews⟩ : ∃ news, news = flat (m.drop (i + 1)) := ⟨_, rfl⟩
 have hnl : news.length = (k - (i + 1)) * 2 := by rw [hnews, flat_length, List.length_drop, hk]
 have hcell : ∀ j u, (flat m)[j]? = some u → w.cell? ⟨g, j, none⟩ = some u := by
  intro j u hu
  rw [← ht, List.getElem?_take] at hu
  split at hu
  ·simpa [World.cell?, hh] using hu
  ·cases hu
 obtain ⟨A1, hA1⟩ : ∃ A1 : Array Value, A1 = (cur.toList.take (i * 2) ++ news ++ cur.toList.drop (i * 2 + news.length)).toArray := ⟨_, rfl⟩
 have hA1s : A1.size = cap * 2 := by rw [hA1, ← hcs]; simp; omega
 have hA1t : A1.toList.take (k1 * 2) = flat (m.eraseIdx i) := by
  rw [hA1, flat_erase, ← hnews]
  simp only [List.toList_toArray]
  have e1 : cur.toList.take (i * 2) = flat (m.take i) := by rw [← flat_take, ← ht, List.take_take, Nat.min_eq_left (by omega)]
  rw [e1]
  exact List.take_left' (by rw [List.length_append, flat_length, hnl, List.length_take]; omega)
 obtain ⟨W1, hW1⟩ : ∃ W1, W1 = w.drew.setRow g A1 := ⟨_, rfl⟩
 have hh1 : W1.heap[g]? = some (.cells A1 e (0, 0)) := by rw [hW1]; exact setRow_heap w.drew g cur A1 e _ hh
 obtain ⟨A2, hA2⟩ : ∃ A2 : Array Value, A2 = (A1.toList.take (k1 * 2) ++ [Value.int .i64 0, Value.int .i64 0] ++ A1.toList.drop (k1 * 2 + 2)).toArray := ⟨_, rfl⟩
 have hA2s : A2.size = cap * 2 := by rw [hA2, ← hA1s]; simp; omega
 have hA2t : A2.toList.take (k1 * 2) = flat (m.eraseIdx i) := by
  rw [hA2]
  simp only [List.toList_toArray, List.append_assoc]
  rw [List.take_left' (by rw [hA1t, flat_length, List.length_eraseIdx_of_lt (by omega)]; omega), hA1t]
 obtain ⟨W2, hW2⟩ : ∃ W2, W2 = W1.setRow g A2 := ⟨_, rfl⟩
 have hh2 : W2.heap[g]? = some (.cells A2 e (0, 0)) := by rw [hW2]; exact setRow_heap W1 g A1 A2 e _ hh1
 have hgr : w.grownBy W2 (some g) := by
  have x1 := below_drewN (Below.refl w.heap.size w) 1
  rw [hW2, hW1]
  exact ⟨rfl, rfl, rfl, by simp, fun k _ hk => by rw [setRow_other _ g k _ (fun e => hk (by simp [e])), setRow_other _ g k _ (fun e => hk (by simp [e]))]; rfl⟩
 have hfin : Holds True P W2 (.slice (some ⟨g, 0, none⟩) k1 cap) (dLinks (m.eraseIdx i)) := row_mk hh2 hP (by rw [List.length_eraseIdx_of_lt (by omega)]; omega) (by omega) hcx hA2s hA2t
 -- the append
 have hrun : ∀ ty : TypeId, (Builtin.append_ #[51, 51] ty #[.slice (some ⟨g, 0, none⟩) i cap, .slice (if cap = i + 1 then some ⟨g, 0, none⟩ else some ⟨g, (i + 1) * 2, none⟩) (k - (i + 1)) (cap - (i + 1))]).run Try.prog w.drew = .ok (.slice (some ⟨g, 0, none⟩) k1 cap) W1 := by
  intro ty
  have hr : ∀ ad : Addr, (∀ j u, news[j]? = some u → w.drew.cell? (ad.add j) = some u) → (Builtin.append_ #[51, 51] ty #[.slice (some ⟨g, 0, none⟩) i cap, .slice (some ad) (k - (i + 1)) (cap - (i + 1))]).run Try.prog w.drew = .ok (.slice (some ⟨g, 0, none⟩) k1 cap) W1 := by
   intro ad had
   have := run_room (w := w.drew) 51 63 e ty i0 Try.underlying51 hi0 g i cap cur hh ad (k - (i + 1)) (cap - (i + 1)) news (by rw [hnl, hs0]) had (by rw [hnews]; exact flat_one _) (by omega) (by rw [hs0, hnl, hcs]; omega)
   rw [hs0] at this
   rw [this, hW1, hA1, show i + (k - (i + 1)) = k1 by omega]
  split
  ·refine hr _ (fun j u hu => ?_)
   have : news = [] := List.eq_nil_of_length_eq_zero (by omega)
   rw [this] at hu
   simp at hu
  ·refine hr _ (fun j u hu => ?_)
   have e1 : (⟨g, (i + 1) * 2, none⟩ : Addr).add j = ⟨g, (i + 1) * 2 + j, none⟩ := by unfold Addr.add; split <;> simp_all
   rw [e1]
   refine hcell _ u ?_
   rw [hnews, ← flat_drop, List.getElem?_drop] at hu
   exact hu
 have hclr : ∀ (ty : TypeId), (Builtin.clear_ #[51] ty #[.slice (some ⟨g, k1 * 2, none⟩) 1 (cap - k1)]).run Try.prog W1 = .ok (.tuple #[]) W2 := by
  intro ty
  rw [run_clear1 ty g (k1 * 2) (cap - k1) A1 e hh1 (by rw [hA1s]; omega), hW2, hA2]
 obtain ⟨A, hA⟩ : ∃ A, (if cap = i + 1 then some (⟨g, 0, none⟩ : Addr) else some ⟨g, (i + 1) * 2, none⟩) = A := ⟨_, rfl⟩
 rw [hA] at hrun
 have HR := Lib.hid hrun
 have HC := Lib.hid hclr
 have HF := Lib.hid hfin
 have HG := Lib.hid hgr
 have HP := Lib.hid hP
 clear hrun hclr hfin hgr hh2 hA2t hA2s hA2 hW2 hh1 hA1t hA1s hA1 hW1 hcell hnl hnews hcs ht hh h hP hi0 hz0 hs0 hb0 hk
 have n5 : k1 ≤ k := by omega
 have n6 : k - k1 = 1 := by omega
 have n7 : ¬ cap = k1 := by omega
 have n8 : k1 ≤ cap := by omega
 have n10 : (i : Int) + 1 ≤ k := by omega
 have n9 : (0 : Int) ≤ (i : Int) + 1 := by omega
 have n1 : ¬ (i : Int) = (i : Int) + 1 := by omega
 have n2 : ((i : Int) == (i : Int) + 1) = false := by simp; omega
 have n3 : i + 1 ≤ k := by omega
 have n4 : i ≤ cap := by omega
 clear hkk
 go_enter Try.func83, Try.ntmps83
 try simp only [List.append_eq, List.cons_append, List.nil_append]
 go_wp2_with fail
 refine wp_region_held_drew (S := (fun _ => True)) (by kernel_rfl) ?_ (fun hHeld => ?_)
 ·exact trivial
 refine tq 0 ?_
 refine tq 1 ?_
 refine tq 2 ?_
 refine tq 3 ?_
 refine tq 4 ?_
 refine tq 5 ?_
 refine rd 6 fun K hK => ?_
 refine appRunS (by rfl) _ _ 51 (by rfl) (by rfl) (by rfl) (HR.out _) ?_
 refine hK.out _ _ ?_ (fun hHeld => ?_)
 ·exact trivial
 clear hK K
 try simp only [Act.put, List.getElem_toArray, List.getElem_cons_zero, List.getElem_cons_succ, List.setIfInBounds_toArray, List.set_cons_zero, List.set_cons_succ]
 refine tq 7 ?_
 refine wpAnyH_done (by kernel_rfl) ?_ _
 go_wp2_with (refine clearRunL rfl _ 51 rfl rfl (HC.out _) ?_)
 go_ret
 exact ⟨g, rfl, HP.out, rfl, HF.out, HG.out⟩
end Go.Proofs.Ytiblcpkejhiehaa

set_option linter.unusedSimpArgs false
namespace Go.Proofs.Ytiblcpkejhiehaa
open Go.RowKit Go.PlainAid
theorem copyRunL {ops : Array Oper} {rest : List Oper} {o : Oper} {a : Act} {R : Exit → Act → World → Prop} {w w' : World} {v dv sv : Value} (hgd : o.guard = none) (d s : Operand) (T T' : TypeId)
  (ho : o.op = .call { callee := .builtin .copy, args := #[d, s], argTypes := #[T, T'] }) (hd : a.eval d = dv) (hs : a.eval s = sv) (hr : (Builtin.copy_ #[T, T'] o.type #[dv, sv]).run Try.prog w = .ok v w')
  (H : wpList Try.prog ops R rest (a.put o.dst v) w') : wpList Try.prog ops R (o :: rest) a w := by
 refine wpList_plain hgd fun K' hK => ?_
 unfold Oper.wp execOp
 simp only [ho, resolve, invoke, builtin, Sem.run_bind, Sem.run_pure, Result.andThen_ok, List.map_toArray, List.map_cons, List.map_nil, hd, hs, hr]
 exact hK _ _ H
theorem run_copy_all {w : World} (T E ty : TypeId) (i : TypeInfo) (ht : Try.prog.underlying T = some (.slice E)) (hi : Try.prog.info? E = some i) (g k sc : Nat) (cur : Array Value) (e : TypeId) (hg : w.heap[g]? = some (.cells cur e (0, 0))) (hcur : cur.size = k * i.size)
  (ad : Option Addr) (cells : List Value) (hl : cells.length = k * i.size) (hnone : ad = none → k = 0) (hnews : ∀ a, ad = some a → ∀ j u, cells[j]? = some u → w.cell? (a.add j) = some u) (h1 : ∀ u ∈ cells, u.oneCell' = true) :
  (Builtin.copy_ #[T, T] ty #[.slice (some ⟨g, 0, none⟩) k k, .slice ad k sc]).run Try.prog w = .ok (goInt k) (w.setRow g cells.toArray) := by
 have h3 := run_storeCells_at Try.prog g 0 e cells 0 cur w hg (by omega) h1
 have e1 : (cur.toList.take (0 + 0) ++ cells ++ cur.toList.drop (0 + 0 + cells.length)).toArray = cells.toArray := by
  have : cur.toList.drop cells.length = [] := List.drop_eq_nil_of_le (by simp; omega)
  simp [this]
 rw [e1] at h3
 cases ad with
 | none =>
  have hk := hnone rfl
  subst hk
  obtain rfl : cells = [] := List.eq_nil_of_length_eq_zero (by omega)
  simp [Builtin.copy_, run_underlying ht, sizeOf, typeInfo, hi, Builtin.lenOf, Builtin.firstCells, h3]
 | some a =>
  have h2 := run_firstCells_some (P := Try.prog) w i.size k a k sc cells hl (hnews a rfl)
  simp [Builtin.copy_, run_underlying ht, sizeOf, typeInfo, hi, Builtin.lenOf, h2, h3]
theorem make_msgs (n : Nat) (h : n ≤ 1000000) (w : World) : (Instr.makeSlice 51 (.int .i64 (n : Int)) (.int .i64 (n : Int))).run Try.prog w = .ok (.slice (some ⟨w.heap.size, 0, none⟩) n n) (w.alloc (.cells (madeCells (Value.agg #[.int .i64 0, .int .i64 0]).cells (n * 2)) 63)) := by
 obtain ⟨i, hi, hz, h2, h3⟩ := info_parts infoMsg
 have := run_make (P := Try.prog) w 51 63 i (.agg #[.int .i64 0, .int .i64 0]) Try.underlying51 hi hz .i64 .i64 n n (by omega) (by omega) (by rw [h3]; omega) (by omega)
 rw [h2] at this
 simpa using this
set_option maxHeartbeats 8000000 in
set_option maxRecDepth 100000 in
theorem listInts_at (xs : List Int) (v : Value) (w : World) (h : Has w v (dInts xs)) (hn : xs.length ≤ 1000000) :
  Calls Try.prog 59 #[v] w fun e w' => ∃ u, e = .returned u ∧ Holds True (fresh w) w' u (dInts xs) ∧ Below w.heap.size w w' := by
 obtain ⟨a, c, rfl⟩ := slice_of h
 obtain ⟨hlen, hnone, news, hnews, hL⟩ := newsOf h (by intro ds hd; obtain ⟨_, _, rfl⟩ := List.mem_map.1 hd; rfl) (flat_ints xs)
 obtain ⟨i, hi, hz, hs, hby⟩ := info_parts infoInt
 obtain ⟨k, hk⟩ : ∃ k, k = xs.length := ⟨_, rfl⟩
 rw [← hk] at hn hnone h ⊢
 have hnl : news.length = k * 1 := by
  rw [(hL True All).1, flatten_len (n := 1) (by intro ds hd; obtain ⟨_, _, rfl⟩ := List.mem_map.1 hd; rfl), List.length_map, hk]
 have h1 : ∀ u ∈ news, u.oneCell' = true := by
  intro u hu
  obtain ⟨j, hj⟩ := List.mem_iff_getElem?.1 hu
  obtain ⟨hl, _, _, _, h4⟩ := hL True All
  obtain ⟨d, hd⟩ := some_of_lt (l := (xs.map fun a => [dI a]).flatten) (i := j) (by rw [← hl]; exact lt_of_some hj)
  exact (h4 j u d hj hd).one
 have hmk := make_ints k hn w
 have hw1 : ∀ C : Array Value, Below w.heap.size w (w.alloc (.cells C 3)) := fun C => below_new w _
 have hcp : ∀ (ty : TypeId) (C : Array Value), C.size = k * 1 → (Builtin.copy_ #[28, 28] ty #[.slice (some ⟨w.heap.size, 0, none⟩) k k, .slice a k c]).run Try.prog (w.alloc (.cells C 3)) = .ok (goInt k) (w.alloc (.cells news.toArray 3)) := fun ty C hC => by
  rw [run_copy_all 28 3 ty i Try.underlying28 hi w.heap.size k c C 3 (heap_alloc_new w _) (by rw [hC, hs]) a news (by rw [hnl, hs]) hnone (fun ad e j u hu => ?_) h1, World.setRow_alloc_new]
  have hc := hnews ad e j u hu
  exact (World.cell?_alloc_lt _ _ _ (World.block_lt_of_cell? w _ hc)).trans hc
 have hfin : Holds True (fresh w) (w.alloc (.cells news.toArray 3)) (.slice (some ⟨w.heap.size, 0, none⟩) k k) (dInts xs) :=
  holds_mk (Q := fun _ => False) (cells := news) (by rw [List.length_map]; exact hk) (Nat.le_refl _) (heap_alloc_new w _) (Nat.le_refl _) (by unfold maxLen; omega) (by simpa using hnl) (by rw [List.take_of_length_le (by simp [hnl])]) (by intro ds hd; obtain ⟨_, _, rfl⟩ := List.mem_map.1 hd; rfl)
   ((hL True (fun _ => False)).later (below_new w _)) (fun _ h => h.elim) (fun h => h)
 have CP := Lib.hid hcp
 have FN := Lib.hid hfin
 clear hcp hfin hw1 h1 hnl hnews hL hnone hlen hk h
 go_enter Try.func59, Try.ntmps59
 try simp only [List.append_eq, List.cons_append, List.nil_append]
 go_wp2_with (refine copyRunL rfl _ _ 28 28 rfl rfl rfl (CP.out _ _ (by first | exact size_madeCells _ _ | (rw [size_madeCells, Nat.mul_one]))) ?_)
 go_ret
 exact ⟨_, rfl, FN.out, below_new w _⟩
set_option maxHeartbeats 8000000 in
set_option maxRecDepth 100000 in
theorem listMsgs_at (xs : Lks) (v : Value) (w : World) (h : Has w v (dLinks xs)) (hn : xs.length ≤ 1000000) :
  Calls Try.prog 60 #[v] w fun e w' => ∃ u, e = .returned u ∧ Holds True (fresh w) w' u (dLinks xs) ∧ Below w.heap.size w w' := by
 obtain ⟨a, c, rfl⟩ := slice_of h
 obtain ⟨hlen, hnone, news, hnews, hL⟩ := newsOf h (by intro ds hd; obtain ⟨_, _, rfl⟩ := List.mem_map.1 hd; rfl) (flat_links xs)
 obtain ⟨i, hi, hz, hs, hby⟩ := info_parts infoMsg
 obtain ⟨k, hk⟩ : ∃ k, k = xs.length := ⟨_, rfl⟩
 rw [← hk] at hn hnone h ⊢
 have hnl : news.length = k * 2 := by
  rw [(hL True All).1, flatten_len (n := 2) (by intro ds hd; obtain ⟨_, _, rfl⟩ := List.mem_map.1 hd; rfl), List.length_map, hk]
 have h1 : ∀ u ∈ news, u.oneCell' = true := by
  intro u hu
  obtain ⟨j, hj⟩ := List.mem_iff_getElem?.1 hu
  obtain ⟨hl, _, _, _, h4⟩ := hL True All
  obtain ⟨d, hd⟩ := some_of_lt (l := (xs.map fun p => [dI p.1, dI p.2]).flatten) (i := j) (by rw [← hl]; exact lt_of_some hj)
  exact (h4 j u d hj hd).one
 have hmk := make_msgs k hn w
 have hw1 : ∀ C : Array Value, Below w.heap.size w (w.alloc (.cells C 63)) := fun C => below_new w _
 have hcp : ∀ (ty : TypeId) (C : Array Value), C.size = k * 2 → (Builtin.copy_ #[51, 51] ty #[.slice (some ⟨w.heap.size, 0, none⟩) k k, .slice a k c]).run Try.prog (w.alloc (.cells C 63)) = .ok (goInt k) (w.alloc (.cells news.toArray 63)) := fun ty C hC => by
  rw [run_copy_all 51 63 ty i Try.underlying51 hi w.heap.size k c C 63 (heap_alloc_new w _) (by rw [hC, hs]) a news (by rw [hnl, hs]) hnone (fun ad e j u hu => ?_) h1, World.setRow_alloc_new]
  have hc := hnews ad e j u hu
  exact (World.cell?_alloc_lt _ _ _ (World.block_lt_of_cell? w _ hc)).trans hc
 have hfin : Holds True (fresh w) (w.alloc (.cells news.toArray 63)) (.slice (some ⟨w.heap.size, 0, none⟩) k k) (dLinks xs) :=
  holds_mk (Q := fun _ => False) (cells := news) (by rw [List.length_map]; exact hk) (Nat.le_refl _) (heap_alloc_new w _) (Nat.le_refl _) (by unfold maxLen; omega) (by simpa using hnl) (by rw [List.take_of_length_le (by simp [hnl])]) (by intro ds hd; obtain ⟨_, _, rfl⟩ := List.mem_map.1 hd; rfl)
   ((hL True (fun _ => False)).later (below_new w _)) (fun _ h => h.elim) (fun h => h)
 have CP := Lib.hid hcp
 have FN := Lib.hid hfin
 clear hcp hfin hw1 h1 hnl hnews hL hnone hlen hk h
 go_enter Try.func60, Try.ntmps60
 try simp only [List.append_eq, List.cons_append, List.nil_append]
 go_wp2_with (refine copyRunL rfl _ _ 51 51 rfl rfl rfl (CP.out _ _ (by first | exact size_madeCells _ _ | (rw [size_madeCells, Nat.mul_one]))) ?_)
 go_ret
 exact ⟨_, rfl, FN.out, below_new w _⟩
end Go.Proofs.Ytiblcpkejhiehaa

set_option linter.unusedSimpArgs false
namespace Go.Proofs.Ytiblcpkejhiehaa
open Go.RowKit Go.PlainAid
def dLls (ls : List Lks) : D := .row 1 (ls.map fun m => [dLinks m])
def Cf.d (c : Cf) : List D := [dInts c.states, dLls c.links, dInts c.sent]
theorem cf_mkL {P P1 P2 P3 : Nat → Prop} {w : World} {c : Cf} {v1 v2 v3 : Value} (h1 : Holds True P1 w v1 (dInts c.states)) (h2 : Holds True P2 w v2 (dLls c.links)) (h3 : Holds True P3 w v3 (dInts c.sent))
  (q1 : ∀ k, P1 k → P k) (q2 : ∀ k, P2 k → P k) (q3 : ∀ k, P3 k → P k) (d12 : ∀ k, P1 k → ¬ P2 k) (d13 : ∀ k, P1 k → ¬ P3 k) (d23 : ∀ k, P2 k → ¬ P3 k) : HoldsL True P w [v1, v2, v3] c.d := by
 refine holdsL_of (fun j k => (j = 0 ∧ P1 k) ∨ (j = 1 ∧ P2 k) ∨ (j = 2 ∧ P3 k)) rfl (fun j c d hc hd => ?_) (fun i j k hij hi hj => ?_) (fun j k hk => ?_)
 ·match j, hc, hd with
  | 0, hc, hd => simp [Cf.d] at hc hd; subst hc hd; exact h1.wide (fun k _ hk => .inl ⟨rfl, hk⟩)
  | 1, hc, hd => simp [Cf.d] at hc hd; subst hc hd; exact h2.wide (fun k _ hk => .inr (.inl ⟨rfl, hk⟩))
  | 2, hc, hd => simp [Cf.d] at hc hd; subst hc hd; exact h3.wide (fun k _ hk => .inr (.inr ⟨rfl, hk⟩))
  | j + 3, hc, hd => simp at hc
 ·rcases hi with ⟨e, hi⟩ | ⟨e, hi⟩ | ⟨e, hi⟩ <;> rcases hj with ⟨e', hj⟩ | ⟨e', hj⟩ | ⟨e', hj⟩ <;> first | omega | exact d12 k hi hj | exact d13 k hi hj | exact d23 k hi hj
 ·rcases hk with ⟨_, hk⟩ | ⟨_, hk⟩ | ⟨_, hk⟩
  ·exact q1 k hk
  ·exact q2 k hk
  ·exact q3 k hk
theorem cf_openL {S : Prop} {P : Nat → Prop} {w : World} {c : Cf} {v1 v2 v3 : Value} (h : HoldsL S P w [v1, v2, v3] c.d) :
  ∃ P1 P2 P3 : Nat → Prop, Holds S P1 w v1 (dInts c.states) ∧ Holds S P2 w v2 (dLls c.links) ∧ Holds S P3 w v3 (dInts c.sent) ∧ (∀ k, P1 k → P k) ∧ (∀ k, P2 k → P k) ∧ (∀ k, P3 k → P k) ∧ (S → (∀ k, P1 k → ¬ P2 k) ∧ (∀ k, P1 k → ¬ P3 k) ∧ (∀ k, P2 k → ¬ P3 k)) := by
 obtain ⟨hl, fp, f1, f2, f3⟩ := h
 refine ⟨fp 0, fp 1, fp 2, f3 0 _ _ rfl rfl, f3 1 _ _ rfl rfl, f3 2 _ _ rfl rfl, f1 0, f1 1, f1 2, fun s => ⟨fun k a b => ?_, fun k a b => ?_, fun k a b => ?_⟩⟩
 ·have := f2 s _ _ _ a b; omega
 ·have := f2 s _ _ _ a b; omega
 ·have := f2 s _ _ _ a b; omega
/-- A configuration's lists, to read. -/
theorem cf_has {w : World} {c : Cf} {v1 v2 v3 : Value} (h : HasL w [v1, v2, v3] c.d) : Has w v1 (dInts c.states) ∧ Has w v2 (dLls c.links) ∧ Has w v3 (dInts c.sent) := by
 obtain ⟨P1, P2, P3, h1, h2, h3, _⟩ := cf_openL h
 exact ⟨h1.weak, h2.weak, h3.weak⟩
theorem has_cf {w : World} {c : Cf} {v1 v2 v3 : Value} (h1 : Has w v1 (dInts c.states)) (h2 : Has w v2 (dLls c.links)) (h3 : Has w v3 (dInts c.sent)) : HasL w [v1, v2, v3] c.d := .mk h1 (.mk h2 (.mk h3 (hasL_nil _ _ _)))
/-- One link's messages, to read. -/
theorem lls_at {w : World} {a : Option Addr} {k cap i : Nat} {ls : List Lks} {m : Lks} (h : Has w (.slice a k cap) (dLls ls)) (hm : ls[i]? = some m) :
  ∃ b o ma mc, a = some ⟨b, o, none⟩ ∧ b < w.heap.size ∧ k = ls.length ∧ w.cell? ⟨b, o + i, none⟩ = some (.slice ma m.length mc) ∧ Has w (.slice ma m.length mc) (dLinks m) := by
 obtain ⟨b, o, c, e, h1, h2, cs, hcs, hc⟩ := cells_of (f := fun m => [dLinks m]) h hm
 obtain ⟨v, r, rfl, hv, hr⟩ := hcs.cons
 obtain ⟨ma, mc, rfl⟩ := slice_of hv
 simp only [Value.slice.injEq] at e
 obtain ⟨rfl, rfl, rfl⟩ := e
 have := hc 0 _ rfl
 rw [Nat.mul_one, Nat.add_zero] at this
 exact ⟨b, o, ma, mc, rfl, h1, rfl, this, hv⟩
/-- One link's messages, to be written. -/
theorem lls_focus {P : Nat → Prop} {w : World} {a : Option Addr} {k cap i : Nat} {ls : List Lks} {m : Lks} (h : Holds True P w (.slice a k cap) (dLls ls)) (hm : ls[i]? = some m) :
  ∃ (g : Nat) (Q : Nat → Prop) (ma : Option Addr) (mc : Nat), a = some ⟨g, 0, none⟩ ∧ k = ls.length ∧ P g ∧ g < w.heap.size ∧ w.cell? ⟨g, i, none⟩ = some (.slice ma m.length mc) ∧ OpenRow w g cap 1 ∧ (∀ q, Q q → P q) ∧ ¬ Q g ∧ Holds True Q w (.slice ma m.length mc) (dLinks m) ∧
   ∀ (w2 : World) (v : Value) (m' : Lks) (Q' : Nat → Prop), SameOn (fun q => P q ∧ ¬ Q q) w w2 → Holds True Q' w2 v (dLinks m') → (∀ q, Q' q → q ≠ g ∧ (Q q ∨ ¬ P q)) → Holds True (fun q => P q ∨ Q' q) (w2.setCell ⟨g, i, none⟩ v) (.slice a k cap) (dLls (ls.set i m')) := by
 obtain ⟨b, o, _, _, rfl, _, hk, _, _⟩ := lls_at h.weak hm
 obtain ⟨Q, c, rfl, hP, hO, hb, hc, hQP, hQb, hH, hF⟩ := h.focus (i := i) (j := 0) (ds := [dLinks m]) (d := dLinks m) (by rw [List.getElem?_map, hm]; rfl) rfl
 obtain ⟨ma, mc, rfl⟩ := slice_of hH.weak
 rw [Nat.mul_one, Nat.add_zero] at hc hF
 refine ⟨b, Q, ma, mc, rfl, hk, hP, hb, hc, hO, hQP, hQb, hH, fun w2 v m' Q' hs hn hq => ?_⟩
 have e : (ls.set i m').map (fun m => [dLinks m]) = (ls.map fun m => [dLinks m]).set i ([dLinks m].set 0 (dLinks m')) := by rw [List.map_set]; rfl
 unfold dLls
 rw [e]
 refine hF (w2.setCell ⟨b, i, none⟩ v) v (dLinks m') Q' ((hs.sub (fun q hq => ⟨hq.1, hq.2.2⟩)).set _ _ (fun h => h.2.1 rfl)) ?_ (hn.same ((SameOn.refl _ _).set _ _ (fun h => (hq _ h).1 rfl))) hq
 obtain ⟨u, hu⟩ : ∃ u, u = w.heap[b]? := ⟨_, rfl⟩
 have e2 := hs.2 b ⟨hP, hQb⟩ hb
 obtain ⟨_, cur, e0, hg, _⟩ := hO
 rw [heap_setCell_at (e2.trans hg), heap_setCell_at hg]
/-- A number of a list, to be written. -/
theorem ints_len {S : Prop} {P : Nat → Prop} {w : World} {a : Option Addr} {k cap : Nat} {xs : List Int} (h : Holds S P w (.slice a k cap) (dInts xs)) : k = xs.length := by
 obtain ⟨_, _, e⟩ := Holds.len h
 rw [List.length_map] at e
 simp only [Value.slice.injEq] at e
 exact e.2.1
theorem lls_len {S : Prop} {P : Nat → Prop} {w : World} {a : Option Addr} {k cap : Nat} {xs : List Lks} (h : Holds S P w (.slice a k cap) (dLls xs)) : k = xs.length := by
 obtain ⟨_, _, e⟩ := Holds.len h
 rw [List.length_map] at e
 simp only [Value.slice.injEq] at e
 exact e.2.1
theorem infoMsgs : (Try.prog.info? 51).map (fun i => (i.zero, i.size, i.bytes)) = some (some (.slice none 0 0), 1, 24) := by kernel_rfl
theorem make_lls (n : Nat) (h : n ≤ 1000000) (w : World) : (Instr.makeSlice 29 (.int .i64 (n : Int)) (.int .i64 (n : Int))).run Try.prog w = .ok (.slice (some ⟨w.heap.size, 0, none⟩) n n) (w.alloc (.cells (madeCells #[.slice none 0 0] n) 51)) := by
 obtain ⟨i, hi, hz, h1, h2⟩ := info_parts infoMsgs
 have := run_make (P := Try.prog) w 29 51 i (.slice none 0 0) Try.underlying29 hi hz .i64 .i64 n n (by omega) (by omega) (by rw [h2]; omega) (by omega)
 rw [this, h1]
 simp [Value.cells]
theorem made_lls (n : Nat) (h : n ≤ 1000000) (w : World) : Holds True (fun q => q = w.heap.size) (w.alloc (.cells (madeCells #[.slice none 0 0] n) 51)) (.slice (some ⟨w.heap.size, 0, none⟩) n n) (dLls (List.replicate n [])) := by
 refine holds_mk (Q := fun _ => False) (cells := List.replicate n (.slice none 0 0)) (by simp) rfl (heap_alloc_new w _) (Nat.le_refl _) (by unfold maxLen; omega) (by rw [size_madeCells, Nat.mul_one]) ?_ (by intro ds hd; obtain ⟨_, _, rfl⟩ := List.mem_map.1 hd; rfl) ?_ (fun _ h => h.elim) (fun h => h)
 ·rw [Nat.mul_one]
  apply List.ext_getElem
  ·simp [size_madeCells, madeCells]
  ·intro i h1 h2
   simp [madeCells, Nat.mod_one]
 ·refine ⟨?_, fun _ _ => False, fun _ _ h => h, fun _ _ _ _ h => h.elim, fun j c d hc hd => ?_⟩
  ·rw [flatten_len (n := 1) (by intro ds hd; obtain ⟨_, _, rfl⟩ := List.mem_map.1 hd; rfl)]; simp
  ·have hj := lt_of_some hc
   simp at hj
   rw [List.getElem?_replicate, if_pos hj] at hc
   cases hc
   have e := flatten_get (n := 1) (ys := (List.replicate n ([] : Lks)).map fun m => [dLinks m]) (i := j) (j := 0) (ds := [dLinks []]) (by intro ds hd; obtain ⟨_, _, rfl⟩ := List.mem_map.1 hd; rfl) (by rw [List.getElem?_map, List.getElem?_replicate, if_pos hj]; rfl) (by decide)
   rw [Nat.mul_one, Nat.add_zero, hd] at e
   simp at e
   subst e
   exact .nil _ _ _ _ _
end Go.Proofs.Ytiblcpkejhiehaa

set_option linter.unusedSimpArgs false
set_option linter.unusedVariables false
namespace Go.Proofs.Ytiblcpkejhiehaa
open Go.RowKit Go.PlainAid
instance msgsOK_dec : ∀ (m : Lks) (a q : Int), Decidable (MsgsOK a q m)
 | [], _, _ => isTrue trivial
 | x :: r, a, q => by
  have := msgsOK_dec r x.1 q
  unfold MsgsOK
  infer_instance
theorem drop_of {α : Type} {l : List α} {j : Nat} {x : α} (h : l[j]? = some x) : l.drop j = x :: l.drop (j + 1) := by
 obtain ⟨hl, rfl⟩ := List.getElem?_eq_some_iff.1 h
 exact List.drop_eq_getElem_cons hl
set_option maxHeartbeats 8000000 in
set_option maxRecDepth 100000 in
theorem mayBe_at (m : Lks) (q : Int) (r : Bool) (a : Option Addr) (cap : Nat) (w : World) (h : Has w (.slice a m.length cap) (dLinks m)) (hn : m.length ≤ 1000000) (hr : r = true ↔ MsgsOK 0 q m) :
  Calls Try.prog 29 #[.slice a m.length cap, .int .i64 q] w fun e w' => e = .returned (.bool r) ∧ Below w.heap.size w w' := by
 have H := Lib.hid h
 have HR := Lib.hid hr
 obtain ⟨l, hl⟩ : ∃ l, l = m.length := ⟨_, rfl⟩
 rw [← hl] at hn ⊢
 have HL := Lib.hid hl
 clear h hr hl
 go_enter Try.func29, Try.ntmps29
 try simp only [List.append_eq, List.cons_append, List.nil_append]
 go_wp2_with fail
 go_loopw [5, 10] (fun t i wr => ∃ (last : Int) (j : Nat), t = .int .i64 last ∧ i = .int .i64 j ∧ j ≤ l ∧ (r = true ↔ MsgsOK last q (m.drop j)) ∧ Below w.heap.size w wr) (fun _ i _ => l - (intOf i).toNat)
 case atStart => exact ⟨0, 0, rfl, rfl, by omega, HR.out, Below.refl _ _⟩
 case round =>
  obtain ⟨last, j, rfl, rfl, hj, hok, hb⟩ := hrel
  have BW := Lib.hid hb
  by_cases hlt : j < l
  ·have hlt' : (j : Int) < l := by omega
   obtain ⟨⟨s, c⟩, hx⟩ := some_of_lt (l := m) (i := j) (by rw [← HL.out]; exact hlt)
   obtain ⟨b, o, e, x1, x2⟩ := msg_at (H.out.later hb) hx
   subst e
   rw [drop_of hx] at hok
   have OK := Lib.hid hok
   clear hok hb hx
   by_cases g1 : s ≤ last
   ·have G1 := Lib.hid g1
    have hrf : r = false := by
     cases r with
     | false => rfl
     | true => exact absurd (OK.out.1 rfl).1 (by show ¬ last < s; omega)
    subst hrf
    have g1' : decide (s ≤ last) = true := by simpa using g1
    clear OK
    go_wp2_with fail
    go_ret
    exact ⟨rfl, below_step' BW.out (by go_grown)⟩
   ·have G1 := Lib.hid g1
    have g1' : decide (s ≤ last) = false := by simpa using g1
    by_cases g2 : q < s
    ·have hrf : r = false := by
      cases r with
      | false => rfl
      | true => exact absurd (OK.out.1 rfl).2.1 (by show ¬ s ≤ q; omega)
     subst hrf
     have g2' : decide (q < s) = true := by simpa using g2
     clear OK
     go_wp2_with fail
     go_ret
     exact ⟨rfl, below_step' BW.out (by go_grown)⟩
    ·have G2 := Lib.hid g2
     have g2' : decide (q < s) = false := by simpa using g2
     by_cases g3 : c < 0
     ·have hrf : r = false := by
       cases r with
       | false => rfl
       | true => exact absurd (OK.out.1 rfl).2.2.1 (by show ¬ 0 ≤ c; omega)
      subst hrf
      have g3' : decide (c < 0) = true := by simpa using g3
      clear OK
      go_wp2_with fail
      go_ret
      exact ⟨rfl, below_step' BW.out (by go_grown)⟩
     ·have G3 := Lib.hid g3
      have g3' : decide (c < 0) = false := by simpa using g3
      by_cases g4 : 4 ≤ c
      ·have hrf : r = false := by
        cases r with
        | false => rfl
        | true => exact absurd (OK.out.1 rfl).2.2.2.1 (by show ¬ c < 4; omega)
       subst hrf
       have g4' : decide ((4 : Int) ≤ c) = true := by simpa using g4
       clear OK
       go_wp2_with fail
       go_ret
       exact ⟨rfl, below_step' BW.out (by go_grown)⟩
      ·have G4 := Lib.hid g4
       have g4' : decide ((4 : Int) ≤ c) = false := by simpa using g4
       go_wp2_with fail
       go_roundw
       case rel => exact ⟨s, j + 1, rfl, by go_num, by omega, OK.out.trans ⟨fun h => h.2.2.2.2, fun h => ⟨by have := G1.out; show last < s; omega, by have := G2.out; show s ≤ q; omega, by have := G3.out; show 0 ≤ c; omega, by have := G4.out; show c < 4; omega, h⟩⟩, below_step' BW.out (by go_grown)⟩
       case measure => simp [intOf]; omega
  ·obtain rfl : l = j := by omega
   have hlt' : ¬ (l : Int) < l := by omega
   have hrt : r = true := hok.2 (by rw [List.drop_of_length_le (by rw [HL.out]; exact Nat.le_refl _)]; trivial)
   subst hrt
   clear hok hb
   go_wp2_with fail
   go_ret
   exact ⟨rfl, BW.out⟩
end Go.Proofs.Ytiblcpkejhiehaa

set_option linter.unusedSimpArgs false
set_option linter.unusedVariables false
namespace Go.Proofs.Ytiblcpkejhiehaa
open Go.RowKit Go.PlainAid Go.Maps Go.MapKept
def deedP : Value := .agg #[.func (.func 55) #[] #[], .func (.func 56) #[] #[]]
def deedD : Value := .agg #[.func (.func 57) #[] #[], .func (.func 58) #[] #[]]
def deeds : Obj := .map #[{ key := .int .i64 0, val := deedP, born := 0 }, { key := .int .i64 1, val := deedD, born := 1 }] 2
theorem isInt (k : Int) : MapKept.IsKey (.int .i64) (.int .i64 k) := rfl
theorem alloc_put (w : World) (o o' : Obj) : { (w.alloc o) with heap := (w.alloc o).heap.setIfInBounds w.heap.size o' } = w.alloc o' := by
 simp only [World.alloc, World.mk.injEq, and_true, true_and]
 apply Array.ext_getElem?
 intro i
 rw [Array.getElem?_setIfInBounds, Array.size_push]
 by_cases h : w.heap.size = i
 ·subst h; simp
 ·rw [if_neg h, Array.getElem?_push, Array.getElem?_push, if_neg (fun e => h e.symm), if_neg (fun e => h e.symm)]
theorem ins0 (w : World) (v : Value) : (Instr.mapUpdate 91 (.map (some w.heap.size)) (.int .i64 0) v).run Try.prog (w.alloc (.map #[] 0)) = .ok () (w.alloc (.map #[{ key := .int .i64 0, val := v, born := 0 }] 1)) := by
 have hu := Try.underlying91
 have hi := Try.underlying3
 have hb : (w.alloc (.map #[] 0)).heap[w.heap.size]? = some (.map #[] 0) := heap_alloc_new w _
 have hf : Instr.findNow (.int .i64) (.int .i64 0) ([] : List MapEntry) 0 = some none := rfl
 have hc : (Instr.checkKey false 10000 3 (.int .i64 0)).run Try.prog (w.alloc (.map #[] 0)) = .ok () _ := MapKept.run_checkKey hi (isInt 0) false 9999
 simp [Instr.mapUpdate, run_underlying hu, MapKept.run_getObj_map hb, hc, MapKept.run_findKey hi hf, MapKept.run_setObj_map _ hb, Result.andThen]
 exact alloc_put w _ _
theorem ins1 (w : World) (u v : Value) : (Instr.mapUpdate 91 (.map (some w.heap.size)) (.int .i64 1) v).run Try.prog (w.alloc (.map #[{ key := .int .i64 0, val := u, born := 0 }] 1)) = .ok () (w.alloc (.map #[{ key := .int .i64 0, val := u, born := 0 }, { key := .int .i64 1, val := v, born := 1 }] 2)) := by
 have hu := Try.underlying91
 have hi := Try.underlying3
 have hb : (w.alloc (.map #[{ key := .int .i64 0, val := u, born := 0 }] 1)).heap[w.heap.size]? = some (.map #[{ key := .int .i64 0, val := u, born := 0 }] 1) := heap_alloc_new w _
 have hf : Instr.findNow (.int .i64) (.int .i64 1) (#[({ key := .int .i64 0, val := u, born := 0 } : MapEntry)].toList) 0 = some none := rfl
 have hc : (Instr.checkKey false 10000 3 (.int .i64 1)).run Try.prog (w.alloc (.map #[{ key := .int .i64 0, val := u, born := 0 }] 1)) = .ok () _ := MapKept.run_checkKey hi (isInt 1) false 9999
 simp [Instr.mapUpdate, run_underlying hu, MapKept.run_getObj_map hb, hc, MapKept.run_findKey hi hf, MapKept.run_setObj_map _ hb, Result.andThen]
 exact alloc_put w _ _
def deedOf (k : Int) : Option Value := if k = 0 then some deedP else if k = 1 then some deedD else none
theorem look_deed {w : World} {b : Nat} (hb : w.heap[b]? = some deeds) (k : Int) (v : Value) (hv : deedOf k = some v) (c : Bool) :
  (Instr.lookup 91 (.map (some b)) (.int .i64 k) c).run Try.prog w = .ok (if c then .tuple #[v, .bool true] else v) w := by
 have hu := Try.underlying91
 have hi := Try.underlying3
 unfold deeds at hb
 have hc : (Instr.checkKey false 10000 3 (.int .i64 k)).run Try.prog w = .ok () _ := MapKept.run_checkKey hi (isInt k) false 9999
 unfold deedOf at hv
 split at hv
 ·next h0 =>
  subst h0
  cases hv
  have hf : Instr.findNow (.int .i64) (.int .i64 0) [({ key := .int .i64 0, val := deedP, born := 0 } : MapEntry), { key := .int .i64 1, val := deedD, born := 1 }] 0 = some (some (0, deedP)) := rfl
  cases c <;> simp [Instr.lookup, run_underlying hu, MapKept.run_getObj_map hb, hc, MapKept.run_findKey hi hf, Result.andThen]
 ·split at hv
  ·next h1 =>
   subst h1
   cases hv
   have hf : Instr.findNow (.int .i64) (.int .i64 1) [({ key := .int .i64 0, val := deedP, born := 0 } : MapEntry), { key := .int .i64 1, val := deedD, born := 1 }] 0 = some (some (1, deedD)) := rfl
   cases c <;> simp [Instr.lookup, run_underlying hu, MapKept.run_getObj_map hb, hc, MapKept.run_findKey hi hf, Result.andThen]
  ·cases hv
theorem look_none {w : World} {b : Nat} (hb : w.heap[b]? = some deeds) (k : Int) (hv : deedOf k = none) : (Instr.lookup 91 (.map (some b)) (.int .i64 k) true).run Try.prog w = .ok (.tuple #[.agg #[.nilFunc, .nilFunc], .bool false]) w := by
 have hu := Try.underlying91
 have hi := Try.underlying3
 unfold deeds at hb
 have hc : (Instr.checkKey false 10000 3 (.int .i64 k)).run Try.prog w = .ok () _ := MapKept.run_checkKey hi (isInt k) false 9999
 have h0 : (k == 0) = false := by unfold deedOf at hv; simp; intro e; rw [if_pos e] at hv; cases hv
 have h1 : (k == 1) = false := by unfold deedOf at hv; simp; intro e; rw [e] at hv; simp at hv
 have hf : Instr.findNow (.int .i64) (.int .i64 k) [({ key := .int .i64 0, val := deedP, born := 0 } : MapEntry), { key := .int .i64 1, val := deedD, born := 1 }] 0 = some none := by
  simp [Instr.findNow, Instr.sameNow, h0, h1]
 have hz : ∀ w, (zeroValue 97).run Try.prog w = .ok (.agg #[.nilFunc, .nilFunc]) w := fun w => by kernel_rfl
 simp [Instr.lookup, run_underlying hu, MapKept.run_getObj_map hb, hc, MapKept.run_findKey hi hf, hz, Result.andThen]
/-- The system's box, and its map. -/
structure SysAt (b mb : Nat) (N : Int) (vG vT : Value) (ff : Bool) (v1 v2 v3 : Value) (w : World) : Prop where
 box : BoxAt b [.int .i64 N, vG, vT, .bool ff, v1, v2, v3, .map (some mb)] w
 map : w.heap[mb]? = some deeds
theorem SysAt.below {b mb : Nat} {N : Int} {vG vT : Value} {ff : Bool} {v1 v2 v3 : Value} {w w' : World} (h : SysAt b mb N vG vT ff v1 v2 v3 w) (hb : Below w.heap.size w w') : SysAt b mb N vG vT ff v1 v2 v3 w' :=
 ⟨h.box.below hb, (hb.block mb (Array.getElem?_eq_some_iff.1 h.map).1).trans h.map⟩
theorem SysAt.same {P : Nat → Prop} {b mb : Nat} {N : Int} {vG vT : Value} {ff : Bool} {v1 v2 v3 : Value} {w w' : World} (h : SysAt b mb N vG vT ff v1 v2 v3 w) (hs : SameOn P w w') (p1 : P b) (p2 : P mb) : SysAt b mb N vG vT ff v1 v2 v3 w' :=
 ⟨h.box.same hs p1, (hs.2 mb p2 (Array.getElem?_eq_some_iff.1 h.map).1).trans h.map⟩
set_option maxHeartbeats 8000000 in
set_option maxRecDepth 100000 in
theorem systemIn_at (N : Int) (a c : Nat) (d : Option Addr) (vT : Value) (ff : Bool) (a1 a2 a3 : Option Addr) (n1 n2 n3 c1 c2 c3 : Nat) (da : Option Addr) (w : World) (hT : ∃ x y z, vT = .slice x y z) :
  Calls Try.prog 34 #[.agg #[.int .i64 N, .slice d a c, vT, .bool ff], .agg #[.slice a1 n1 c1, .slice a2 n2 c2, .slice a3 n3 c3]] w fun e w' => ∃ b mb, e = .returned (.pointer (some ⟨b, 0, none⟩)) ∧ w.heap.size ≤ b ∧ w.heap.size ≤ mb ∧ b ≠ mb ∧ SysAt b mb N (.slice d a c) vT ff (.slice a1 n1 c1) (.slice a2 n2 c2) (.slice a3 n3 c3) w' ∧ Below w.heap.size w w' := by
 obtain ⟨x, y, z, rfl⟩ := hT
 have hmm := @run_makeMap Try.prog
 go_enter Try.func34, Try.ntmps34
 go_upto_region 1 with fail
 obtain ⟨y0, hy⟩ : ∃ x0, x0 = (w.alloc (.cells #[.int .i64 N, .slice d a c, .slice x y z, .bool ff] 27)).alloc (.cells #[.slice a1 n1 c1, .slice a2 n2 c2, .slice a3 n3 c3] 31) := ⟨_, rfl⟩
 have hb0 : Below w.heap.size w y0 := by rw [hy]; exact below_step' (below_new _ _) (below_new _ _)
 have i0 := ins0 y0 deedP
 have i1 := ins1 y0 deedP deedD
 unfold deedP at i0 i1
 unfold deedD at i1
 rw [← hy]
 have HB := Lib.hid hb0
 have HY := Lib.hid hy
 clear hb0 hy
 have p0 : y0.cell? ⟨w.heap.size, 0, none⟩ = some (.int .i64 N) := by rw [HY.out]; go_cell
 have p1 : y0.cell? ⟨w.heap.size, 1, none⟩ = some (.slice d a c) := by rw [HY.out]; go_cell
 have p2 : y0.cell? ⟨w.heap.size, 2, none⟩ = some (.slice x y z) := by rw [HY.out]; go_cell
 have p3 : y0.cell? ⟨w.heap.size, 3, none⟩ = some (.bool ff) := by rw [HY.out]; go_cell
 have q0 : y0.cell? ⟨w.heap.size + 1, 0, none⟩ = some (.slice a1 n1 c1) := by rw [HY.out]; go_cell
 have q1 : y0.cell? ⟨w.heap.size + 1, 1, none⟩ = some (.slice a2 n2 c2) := by rw [HY.out]; go_cell
 have q2 : y0.cell? ⟨w.heap.size + 1, 2, none⟩ = some (.slice a3 n3 c3) := by rw [HY.out]; go_cell
 go_wp2_with fail
 go_ret
 refine ⟨y0.heap.size + 1, y0.heap.size, rfl, ?_, HB.out.size, by omega, ⟨?_, ?_⟩, below_step' HB.out (below_step' (below_new _ _) (below_new _ _))⟩
 ·have := HB.out.size; omega
 ·have h := boxAt_new (y0.alloc deeds) [.int .i64 N, .slice d a c, .slice x y z, .bool ff, .slice a1 n1 c1, .slice a2 n2 c2, .slice a3 n3 c3, .map (some y0.heap.size)] 93
  rw [size_alloc] at h
  exact h
 ·have h : (y0.alloc deeds).heap[y0.heap.size]? = some deeds := heap_alloc_new y0 _
  exact ((below_new (y0.alloc deeds) _).block _ (by simp)).trans h
end Go.Proofs.Ytiblcpkejhiehaa

namespace Go.Proofs.Ytiblcpkejhiehaa
open Go.RowKit Go.PlainAid
/-- append to a row that has nothing, and no room. -/
theorem run_app0 {w : World} (T E ty : TypeId) (i : TypeInfo) (z : Value) (n bytes : Nat) (ht : Try.prog.underlying T = some (.slice E)) (hi : Try.prog.info? E = some i) (hz : i.zero = some z) (hsize : i.size = n) (hby : i.bytes = bytes) (hzs : z.cells.size = n) (hsz : 0 < n)
  (Q : Nat → Prop) (a0 : Option Addr) (ys : List (List D)) (m c : Nat) (ad : Option Addr) (news : List Value)
  (hnews : ∀ a, ad = some a → ∀ j u, news[j]? = some u → w.cell? (a.add j) = some u) (hnone : ad = none → m = 0) (hy : ∀ ds ∈ ys, ds.length = n) (hm : ys.length = m) (hh : HoldsL True Q w news ys.flatten) (hQ : ∀ k, Q k → k < w.heap.size) (h63 : m ≤ maxLen) (hbytes : m * bytes ≤ 140737488355328) :
  ∃ ao cv w', (Builtin.append_ #[T, T] ty #[.slice a0 0 0, .slice ad m c]).run Try.prog w = .ok (.slice ao m cv) w' ∧ Holds True (fun k => Q k ∨ k = w.heap.size) w' (.slice ao m cv) (.row n ys) ∧ Below w.heap.size w w' := by
 have h0 : Holds True (fun _ => False) w (.slice a0 0 0) (.row n []) := .nil _ _ _ _ _
 rcases run_appH T E ty i z n bytes ht hi hz hsize hby hzs hsz (fun _ => False) Q a0 0 0 [] ys m c m h0 ad news hnews hnone hy hm hh (fun k hk => ⟨fun h => h, hQ k hk⟩) (Nat.zero_add m) h63 hbytes with ⟨ao, cv, w', h1, h2, h3⟩ | ⟨ao, cv, w', h1, h2, g, hg, _⟩
 ·exact ⟨ao, cv, w', h1, h2.wide (fun k _ hk => by rcases hk with h | h | h; exact h.elim; exact .inl h; exact .inr h), h3⟩
 ·exact hg.elim
/-- At a step of a drawn region: what is appended are plain things. -/
theorem appS0 {ops : Array Oper} {o : Oper} {a : Act} {K : Act → World → Prop} {Q : Exit → Act → World → Prop} {F : Prop} {w : World} (hgd : o.guard = none) (s x : Operand) (T E : TypeId) (i : TypeInfo) (z : Value) (n bytes : Nat)
  (ho : o.op = .call { callee := .builtin .append, args := #[s, x], argTypes := #[T, T] }) (ht : Try.prog.underlying T = some (.slice E)) (hi : Try.prog.info? E = some i) (hz : i.zero = some z) (hsize : i.size = n) (hby : i.bytes = bytes) (hzs : z.cells.size = n) (hsz : 0 < n)
  (a0 : Option Addr) (ys : List (List D)) (m c : Nat) (hs : a.eval s = .slice a0 0 0) (ad : Option Addr) (hx : a.eval x = .slice ad m c) (hv : Has w (.slice ad m c) (.row n ys)) (hy : ∀ ds ∈ ys, ds.length = n) (hf : Flat ys.flatten) (h63 : m ≤ maxLen) (hbytes : m * bytes ≤ 140737488355328)
  (H : ∀ ao cv w', Holds True (fun k => w.heap.size ≤ k) w' (.slice ao m cv) (.row n ys) → Below w.heap.size w w' → K (a.put o.dst (.slice ao m cv)) w') :
  if Region.wanted o (yielded ops a.tmps) = true then Oper.wp Try.prog o a w K Q else F := by
 have hw : Region.wanted o (yielded ops a.tmps) = true := by simp [Region.wanted, hgd]
 rw [if_pos hw]
 obtain ⟨hm, hnone, news, hnews, hh⟩ := newsOf hv hy hf
 obtain ⟨ao, cv, w', hr, h1, h2⟩ := run_app0 T E o.type i z n bytes ht hi hz hsize hby hzs hsz (fun _ => False) a0 ys m c ad news hnews hnone hy hm (hh _ _) (fun _ h => h.elim) h63 hbytes
 unfold Oper.wp execOp
 simp only [ho, resolve, invoke, builtin, Sem.run_bind, Sem.run_pure, Result.andThen_ok, List.map_toArray, List.map_cons, List.map_nil, hs, hx, hr]
 exact H ao cv w' (h1.wide (fun k _ hk => by rcases hk with h | h; exact h.elim; exact Nat.le_of_eq h.symm)) h2
/-- A cell of a row of numbers, to be written. -/
theorem Holds.slot1 {P : Nat → Prop} {w : World} {a : Option Addr} {len cap i : Nat} {xs : List Int} {x : Int} (h : Holds True P w (.slice a len cap) (dInts xs)) (hx : xs[i]? = some x) :
  ∃ b, a = some ⟨b, 0, none⟩ ∧ P b ∧ b < w.heap.size ∧ w.cell? ⟨b, i, none⟩ = some (.int .i64 x) ∧ w.frozen? ⟨b, i, none⟩ = false ∧ ∀ y, Holds True P (w.setCell ⟨b, i, none⟩ (.int .i64 y)) (.slice a len cap) (dInts (xs.set i y)) := by
 obtain ⟨b, o, e, _⟩ := int_at h.weak hx
 subst e
 obtain ⟨Q, c, rfl, hP, hO, hb, hc, hQP, hQb, hc2, hF⟩ := h.focus (i := i) (j := 0) (ds := [dI x]) (d := dI x) (by simp [hx]) rfl
 obtain rfl := hc2.val
 simp only [Nat.mul_one, Nat.add_zero] at hc hF
 refine ⟨b, rfl, hP, hb, hc, hO.frozen _, fun y => ?_⟩
 have := hF (w.setCell ⟨b, i, none⟩ (.int .i64 y)) (.int .i64 y) (dI y) (fun _ => False) ((SameOn.refl _ _).set _ _ (fun hk => hk.2.1 rfl)) rfl (has_int _ _ _ _) (fun _ h => h.elim)
 have e : (xs.set i y).map (fun a => [dI a]) = (xs.map fun a => [dI a]).set i ([dI x].set 0 (dI y)) := by
  rw [List.map_set]; rfl
 unfold dInts
 rw [e]
 exact this.wide (fun k _ hk => hk.elim (fun h => h) (fun h => h.elim))
/-- Whatever pick is asked for. -/
theorem picked_any (M : Tab) (n s k : Int) (v : Value) (w : World) (h : Has w v (dTab M)) (hsm : SmallTab M) :
  Calls Try.prog 91 #[v, .int .i64 n, .int .i64 s, .int .i64 k] w fun e w' => ∃ u, e = .returned (pkv (pickAt (stAt M n s) k) u (isPick (stAt M n s) k)) ∧ Holds True (fresh w) w' u (dLinks (pickAt (stAt M n s) k).sends) ∧ Below w.heap.size w w' := by
 by_cases hk : 0 ≤ k ∧ k < (stAt M n s).picks.length
 ·obtain ⟨j, rfl⟩ := Int.eq_ofNat_of_zero_le hk.1
  obtain ⟨p, hp⟩ := some_of_lt (l := (stAt M n s).picks) (i := j) (by omega)
  obtain ⟨e1, e2⟩ := pickAt_of hp
  rw [e1, e2]
  exact picked_yes M n s j p v w h hp ((smallSt_at hsm n s).2.2.2 p (List.mem_of_getElem? hp))
 ·obtain ⟨e1, e2⟩ := pickAt_no hk
  rw [e1, e2]
  refine (picked_no M n s k v w h hk).mono ?_
  rintro e w' ⟨rfl, hb⟩
  exact ⟨_, rfl, .nil _ _ _ _ _, hb⟩
end Go.Proofs.Ytiblcpkejhiehaa

set_option linter.unusedSimpArgs false
set_option linter.unusedVariables false
namespace Go.Proofs.Ytiblcpkejhiehaa
open Go.RowKit Go.PlainAid
theorem num_at {w : World} {a : Option Addr} {k cap i : Nat} {xs : List Int} {x : Int} (h : Has w (.slice a k cap) (dInts xs)) (hx : xs[i]? = some x) : ∃ b o, a = some ⟨b, o, none⟩ ∧ w.cell? ⟨b, o + i, none⟩ = some (.int .i64 x) := by
 obtain ⟨b, o, c, e, h1, h2, cs, hcs, hc⟩ := cells_of (f := fun a => [dI a]) h hx
 obtain ⟨v, r, rfl, hv, hr⟩ := hcs.cons
 obtain rfl := Holds.val hv
 simp only [Value.slice.injEq] at e
 have := hc 0 _ rfl
 rw [Nat.mul_one, Nat.add_zero] at this
 exact ⟨b, o, e.1, this⟩
set_option maxHeartbeats 8000000 in
set_option maxRecDepth 100000 in
theorem sysPicked_at (M : Tab) (S : List Int) (s0 s1 s2 s3 s4 : Int) (b mb : Nat) (N : Int) (vG : Value) (ff : Bool) (ta a1 : Option Addr) (tl tc n1 e1 : Nat) (v2 v3 : Value) (w : World) (h : SysAt b mb N vG (.slice ta tl tc) ff (.slice a1 n1 e1) v2 v3 w) (hT : Has w (.slice ta tl tc) (dTab M)) (hS : Has w (.slice a1 n1 e1) (dInts S)) (hsm : SmallTab M) (h0 : 0 ≤ s1) (h1 : s1 < S.length) :
  Calls Try.prog 80 #[.pointer (some ⟨b, 0, none⟩), .agg #[.int .i64 s0, .int .i64 s1, .int .i64 s2, .int .i64 s3, .int .i64 s4]] w fun e w' => ∃ u, e = .returned (pkv (pickAt (stAt M s1 (at0 S s1)) s2) u (isPick (stAt M s1 (at0 S s1)) s2)) ∧ Holds True (fresh w) w' u (dLinks (pickAt (stAt M s1 (at0 S s1)) s2).sends) ∧ Below w.heap.size w w' := by
 obtain ⟨node, hnode⟩ := Int.eq_ofNat_of_zero_le h0
 subst hnode
 obtain ⟨q, hq⟩ := some_of_lt (l := S) (i := node) (by omega)
 rw [at0_of hq]
 obtain ⟨sb, so, e, hc⟩ := num_at hS hq
 subst e
 have hn1 := ints_len hS
 have hnl : node < n1 := by omega
 have hbl : b < w.heap.size := World.block_lt_of_cell? w _ (h.box 2 _ rfl)
 have hsl : sb < w.heap.size := World.block_lt_of_cell? w _ hc
 obtain ⟨p, hp⟩ : ∃ p, p = pickAt (stAt M node q) s2 := ⟨_, rfl⟩
 obtain ⟨pi, hpi⟩ : ∃ p, p = isPick (stAt M node q) s2 := ⟨_, rfl⟩
 rw [← hp, ← hpi]
 have PP := Lib.hid hp
 have PI := Lib.hid hpi
 have SA := Lib.hid h
 have HT := Lib.hid hT
 have HC := Lib.hid hc
 obtain ⟨s1, hs1⟩ : ∃ s : Int, s = (node : Int) := ⟨_, rfl⟩
 clear h hT hS hc hq hn1 h0 h1 hp hpi hs1 s1
 have hnl' : (node : Int) < n1 := by omega
 go_enter Try.func80, Try.ntmps80
 try simp only [List.append_eq, List.cons_append, List.nil_append]
 go_upto_region 1 with fail
 obtain ⟨y0, hy0⟩ : ∃ y, y = (w.alloc (.cells #[.int .i64 s0, .int .i64 node, .int .i64 s2, .int .i64 s3, .int .i64 s4] 50)).alloc (.cells #[.int .i64 0, .slice none 0 0] 128) := ⟨_, rfl⟩
 have hb0 : Below w.heap.size w y0 := by rw [hy0]; exact below_step' (below_new _ _) (below_new _ _)
 have hx0 : BoxAt w.heap.size [.int .i64 s0, .int .i64 node, .int .i64 s2, .int .i64 s3, .int .i64 s4] y0 := by rw [hy0]; exact (boxAt_new w [.int .i64 s0, .int .i64 node, .int .i64 s2, .int .i64 s3, .int .i64 s4] _).below (below_new _ _)
 have hx1 : BoxAt (w.heap.size + 1) [.int .i64 0, .slice none 0 0] y0 := by
  have h := boxAt_new (w.alloc (.cells #[.int .i64 s0, .int .i64 node, .int .i64 s2, .int .i64 s3, .int .i64 s4] 50)) [.int .i64 0, .slice none 0 0] 128
  rw [size_alloc] at h
  rw [hy0]; exact h
 have ho1 : OpenRow y0 (w.heap.size + 1) 1 2 := by
  have h := heap_alloc_new (w.alloc (.cells #[.int .i64 s0, .int .i64 node, .int .i64 s2, .int .i64 s3, .int .i64 s4] 50)) (.cells #[.int .i64 0, .slice none 0 0] 128)
  rw [size_alloc] at h
  rw [hy0]; exact ⟨by decide, _, _, h, rfl⟩
 have Y0z : Hid (w.heap.size + 2 ≤ y0.heap.size) := Lib.hid (by rw [hy0]; simp)
 have B0 := Lib.hid hb0
 have X0 := Lib.hid hx0
 have X1 := Lib.hid hx1
 have O1 := Lib.hid ho1
 replace SA := Lib.hid (SA.out.below hb0)
 replace HT := Lib.hid (HT.out.later hb0)
 replace HC := Lib.hid ((hb0.cell (by exact hsl)).trans HC.out)
 have NB : Hid (w.heap.size + 1 ≠ b) := Lib.hid (by omega)
 have NS : Hid (w.heap.size + 1 ≠ sb) := Lib.hid (by omega)
 have NW : Hid (w.heap.size + 1 ≠ w.heap.size) := Lib.hid (by omega)
 rw [← hy0]
 clear hy0 hb0 hx0 hx1 ho1
 have QS : Hid (∀ w', Below y0.heap.size y0 w' → w'.cell? ⟨b, 2, none⟩ = some (.slice ta tl tc) ∧ w'.cell? ⟨b, 4, none⟩ = some (.slice (some ⟨sb, so, none⟩) n1 e1) ∧ w'.cell? ⟨w.heap.size, 1, none⟩ = some (.int .i64 node) ∧ w'.cell? ⟨w.heap.size, 2, none⟩ = some (.int .i64 s2) ∧ w'.cell? ⟨sb, so + node, none⟩ = some (.int .i64 q)) := Lib.hid (fun w' hb => ⟨SA.out.box.below hb 2 _ rfl, SA.out.box.below hb 4 _ rfl, X0.out.below hb 1 _ rfl, X0.out.below hb 2 _ rfl, (hb.cell (World.block_lt_of_cell? y0 _ HC.out)).trans HC.out⟩)
 refine wp_region_held_drew (S := (fun w' => w'.cell? ⟨b, 2, none⟩ = some (.slice ta tl tc) ∧ w'.cell? ⟨b, 4, none⟩ = some (.slice (some ⟨sb, so, none⟩) n1 e1) ∧ w'.cell? ⟨w.heap.size, 1, none⟩ = some (.int .i64 node) ∧ w'.cell? ⟨w.heap.size, 2, none⟩ = some (.int .i64 s2) ∧ w'.cell? ⟨sb, so + node, none⟩ = some (.int .i64 q))) (by kernel_rfl) ?_ (fun hHeld => ?_)
 ·exact QS.out _ (below_drewN (Below.refl _ y0) 1)
 refine tq 0 ?_
 refine tq 1 ?_
 refine tq 2 ?_
 refine tq 3 ?_
 refine tq 4 ?_
 refine tq 5 ?_
 refine tq 6 ?_
 refine tq 7 ?_
 refine tq 8 ?_
 refine tq 9 ?_
 refine tq 10 ?_
 refine tq 11 ?_
 refine tq 12 ?_
 refine tq 13 ?_
 refine tq 14 ?_
 refine tq 15 ?_
 refine tq 16 ?_
 refine tq 17 ?_
 refine rd 18 fun K hK => ?_
 go_simp
 refine (picked_any M _ _ _ _ _ (HT.out.later (below_drewN (Below.refl _ y0) 1)) hsm).mono ?_
 rintro e w3 ⟨u, rfl, hu, hb⟩
 rw [← PI.out, ← PP.out] at *
 have B3 := Lib.hid (below_step' (below_drewN (Below.refl _ y0) 1) hb)
 obtain ⟨ua, uc, e⟩ := slice_of hu.weak
 subst e
 obtain ⟨ul, hul⟩ : ∃ n, n = p.sends.length := ⟨_, rfl⟩
 rw [← hul] at hu ⊢
 have UL := Lib.hid hul
 have HU := Lib.hid hu
 unfold pkv
 obtain ⟨pn, hpn⟩ : ∃ n, n = p.next := ⟨_, rfl⟩
 rw [← hpn]
 have PN := Lib.hid hpn
 clear hu hb hul hpn
 go_wp2_with fail
 refine hK.out _ _ ?_ (fun hHeld => ?_)
 ·exact QS.out _ B3.out
 clear hK K
 try simp only [Act.put, List.getElem_toArray, List.getElem_cons_zero, List.getElem_cons_succ, List.setIfInBounds_toArray, List.set_cons_zero, List.set_cons_succ]
 refine tq 19 ?_
 refine tq 20 ?_
 refine rd 21 fun K hK => ?_
 have z0 := X1.out.below B3.out 0 _ rfl
 have z1 := X1.out.below B3.out 1 _ rfl
 have hO := O1.out.same (SameOn.of_below (P := fun _ => True) B3.out) trivial (by have := Y0z.out; omega)
 have f0 := hO.frozen 0
 have f1 := hO.frozen 1
 have HO := Lib.hid hO
 clear hO
 go_simp
 clear z0 z1 f0 f1
 refine hK.out _ _ ?_ (fun hHeld => ?_)
 ·exact (by have h := QS.out _ B3.out; exact ⟨set_far (.inl NB.out) (set_far (.inl NB.out) h.1), set_far (.inl NB.out) (set_far (.inl NB.out) h.2.1), set_far (.inl NW.out) (set_far (.inl NW.out) h.2.2.1), set_far (.inl NW.out) (set_far (.inl NW.out) h.2.2.2.1), set_far (.inl NS.out) (set_far (.inl NS.out) h.2.2.2.2)⟩)
 clear hK K
 try simp only [Act.put, List.getElem_toArray, List.getElem_cons_zero, List.getElem_cons_succ, List.setIfInBounds_toArray, List.set_cons_zero, List.set_cons_succ]
 refine tq 22 ?_
 refine wpAnyH_done (by kernel_rfl) ?_ _
 go_wp2_with fail
 have r0 : (((w3.setCell ⟨w.heap.size + 1, 0, none⟩ (.int .i64 pn)).setCell ⟨w.heap.size + 1, 1, none⟩ (.slice ua ul uc))).cell? ⟨w.heap.size + 1, 0, none⟩ = some (.int .i64 pn) := set_far (.inr (by simp)) (set_at (X1.out.below B3.out 0 _ rfl))
 have r1 : (((w3.setCell ⟨w.heap.size + 1, 0, none⟩ (.int .i64 pn)).setCell ⟨w.heap.size + 1, 1, none⟩ (.slice ua ul uc))).cell? ⟨w.heap.size + 1, 1, none⟩ = some (.slice ua ul uc) := set_at (set_far (.inr (by simp)) (X1.out.below B3.out 1 _ rfl))
 refine bodyPost_ret (v := .tuple #[.agg #[.int .i64 pn, .slice ua ul uc], .bool pi]) (by simp [results, Try.results80, go_sem, r0, r1]) rfl ?_
 refine ⟨_, by unfold pkv; rw [PN.out], ?_, ?_⟩
 ·have hs : SameOn (fun q => y0.heap.size ≤ q) w3 ((w3.setCell ⟨w.heap.size + 1, 0, none⟩ (.int .i64 pn)).setCell ⟨w.heap.size + 1, 1, none⟩ (.slice ua ul uc)) := ((SameOn.refl _ _).set _ _ (by have := Y0z.out; show ¬ y0.heap.size ≤ w.heap.size + 1; omega)).set _ _ (by have := Y0z.out; show ¬ y0.heap.size ≤ w.heap.size + 1; omega)
  have hu2 := HU.out
  rw [UL.out] at hu2 hs ⊢
  exact (hu2.same hs).wide (fun q _ (h : y0.heap.size ≤ q) => by have := Y0z.out; show w.heap.size ≤ q; omega)
 ·exact ((below_step (by have := Y0z.out; omega) B0.out B3.out).setCell (by show w.heap.size ≤ w.heap.size + 1; omega) _).setCell (by show w.heap.size ≤ w.heap.size + 1; omega) _
end Go.Proofs.Ytiblcpkejhiehaa

namespace Go.Proofs.Ytiblcpkejhiehaa
/-- What comes to a link's end. -/
def appOf (L : Lks) (n : Int) : Lks → List Int → Nat → Lks
 | [], _, _ => []
 | m :: r, S, j => (if j = (findL L (n, m.1)).toNat then [(at0 S (findL L (n, m.1)) + 1, m.2)] else []) ++ appOf L n r (S.set (findL L (n, m.1)).toNat (at0 S (findL L (n, m.1)) + 1)) j
def sentOf (L : Lks) (n : Int) : Lks → List Int → List Int
 | [], S => S
 | m :: r, S => sentOf L n r (S.set (findL L (n, m.1)).toNat (at0 S (findL L (n, m.1)) + 1))
theorem set_map_idx (ls : List Lks) (i : Nat) (x : Int × Int) : ls.set i (ls.getD i [] ++ [x]) = ls.mapIdx (fun j m => m ++ if j = i then [x] else []) := by
 apply List.ext_getElem?
 intro j
 rw [List.getElem?_mapIdx, List.getElem?_set]
 split
 ·next e =>
  subst e
  split
  ·next h => simp [List.getD, h]
  ·next h => simp at h; simp [h]
 ·next e =>
  have e' : ¬ j = i := fun h => e h.symm
  simp [e']
theorem sendAll_eq (L : Lks) (n : Int) (ms : Lks) : ∀ (ls : List Lks) (S : List Int), sendAll L n ms (ls, S) = (ls.mapIdx (fun j m => m ++ appOf L n ms S j), sentOf L n ms S) := by
 induction ms with
 | nil =>
  intro ls S
  have e : ls.mapIdx (fun _ m => m) = ls := by
   apply List.ext_getElem?
   intro j
   rw [List.getElem?_mapIdx]
   cases ls[j]? <;> rfl
  simp [sendAll, appOf, sentOf, e]
 | cons m r ih =>
  intro ls S
  show sendAll L n r (send1 L n (ls, S) m) = _
  unfold send1
  rw [ih]
  simp only [sentOf, Prod.mk.injEq, and_true]
  unfold atL
  rw [set_map_idx, List.mapIdx_mapIdx]
  congr 1
  funext j x
  simp [appOf, Function.comp]
theorem sentOf_len (L : Lks) (n : Int) (ms : Lks) : ∀ S : List Int, (sentOf L n ms S).length = S.length := by
 induction ms with
 | nil => intro S; rfl
 | cons m r ih => intro S; show (sentOf L n r _).length = _; rw [ih]; simp
theorem find_src {L : Lks} {n t : Int} (h : (n, t) ∈ L) : (findL L (n, t)).toNat < L.length ∧ lk L (findL L (n, t)).toNat = (n, t) := by
 rcases findL_cases L (n, t) with ⟨k, hk, he, _, e⟩ | ⟨hno, _⟩
 ·rw [e]; exact ⟨by simpa using hk, by simpa using he⟩
 ·exact absurd h hno
/-- Links of other nodes have nothing of it. -/
theorem appOf_other {L : Lks} {n : Int} {j : Nat} (hj : (lk L j).1 ≠ n) : ∀ {ms : Lks} {S : List Int}, (∀ m ∈ ms, (n, m.1) ∈ L) → appOf L n ms S j = [] ∧ (sentOf L n ms S)[j]? = S[j]? := by
 intro ms
 induction ms with
 | nil => intro S _; exact ⟨rfl, rfl⟩
 | cons m r ih =>
  intro S hm
  have hs := find_src (hm m (List.mem_cons_self ..))
  have hne : j ≠ (findL L (n, m.1)).toNat := fun e => hj (by rw [e, hs.2])
  have h := ih (S := S.set (findL L (n, m.1)).toNat (at0 S (findL L (n, m.1)) + 1)) (fun x hx => hm x (List.mem_cons_of_mem _ hx))
  refine ⟨by unfold appOf; rw [if_neg hne, h.1]; rfl, ?_⟩
  show (sentOf L n r _)[j]? = _
  rw [h.2, List.getElem?_set_ne (fun e => hne e.symm)]
/-- What a node sends hangs on its own links' numbers alone. -/
theorem appOf_same {L : Lks} {n : Int} : ∀ {ms : Lks} {S S' : List Int}, (∀ m ∈ ms, (n, m.1) ∈ L) → S.length = S'.length → (∀ j : Nat, (lk L j).1 = n → S[j]? = S'[j]?) →
  bigAt L n ms S = bigAt L n ms S' ∧ ∀ j : Nat, appOf L n ms S j = appOf L n ms S' j ∧ ((lk L j).1 = n → (sentOf L n ms S)[j]? = (sentOf L n ms S')[j]?) := by
 intro ms
 induction ms with
 | nil => intro S S' _ _ h; exact ⟨rfl, fun j => ⟨rfl, fun hj => h j hj⟩⟩
 | cons m r ih =>
  intro S S' hm hl h
  have hs := find_src (hm m (List.mem_cons_self ..))
  have e : at0 S (findL L (n, m.1)) = at0 S' (findL L (n, m.1)) := by
   unfold at0; simp only [List.getD]; rw [h _ (by rw [hs.2])]
  have h2 := ih (S := S.set (findL L (n, m.1)).toNat (at0 S (findL L (n, m.1)) + 1)) (S' := S'.set (findL L (n, m.1)).toNat (at0 S' (findL L (n, m.1)) + 1)) (fun x hx => hm x (List.mem_cons_of_mem _ hx)) (by simp [hl]) (fun j hj => by
   rw [e, List.getElem?_set, List.getElem?_set, hl, h j hj])
  refine ⟨by unfold bigAt; rw [e] at h2 ⊢; rw [h2.1], fun j => ⟨by unfold appOf; rw [e] at h2 ⊢; rw [(h2.2 j).1], fun hj => (h2.2 j).2 hj⟩⟩
/-- Where a step is done. -/
def whereOf (A : Ap) (s : Sp) : Int := if s.kind = 0 then s.node else if s.link < 0 ∨ (A.l.length : Int) ≤ s.link then -1 else (lk A.l s.link.toNat).2
theorem pick_sends {A : Ap} {c : Cf} (h : CfOK A c) {s : Sp} (he : errPick A c s = 0) : ∀ m ∈ (pickAt (stC A c s.node) s.k).sends, (s.node, m.1) ∈ A.l := by
 obtain ⟨h0, h1, _, h3, _⟩ := errPick_zero he
 obtain ⟨i, k, x, e, hx, hk, hkl, hs, hP⟩ := pick_facts h h0 h1
 obtain ⟨j, p, _, hp, hpa⟩ := pickAt_get h3
 obtain ⟨_, _, hse⟩ := hP.2.2.1.2.2 j p hp
 rw [hpa]
 intro m hm
 obtain ⟨r, hr⟩ := List.mem_iff_getElem?.1 hm
 exact (hse r m hr).1
theorem donePick_eq (A : Ap) (c : Cf) (s : Sp) : donePick A c s = ⟨c.states.set s.node.toNat (pickAt (stC A c s.node) s.k).next, c.links.mapIdx (fun j m => m ++ appOf A.l s.node (pickAt (stC A c s.node) s.k).sends c.sent j), sentOf A.l s.node (pickAt (stC A c s.node) s.k).sends c.sent⟩ := by
 unfold donePick; rw [sendAll_eq]
theorem at0_set_ne {l : List Int} {i j x : Int} (hi : 0 ≤ i) (hj : 0 ≤ j) (h : i ≠ j) : at0 (l.set i.toNat x) j = at0 l j := by
 unfold at0
 simp only [List.getD]
 rw [List.getElem?_set_ne (by omega)]
theorem set_comm' {l : List Int} {i j x y : Int} (hi : 0 ≤ i) (hj : 0 ≤ j) (h : i ≠ j) : (l.set i.toNat x).set j.toNat y = (l.set j.toNat y).set i.toNat x := List.set_comm _ _ (by omega)
/-- A pick hangs on its node's state and its links' numbers alone. -/
theorem errPick_same {A : Ap} {c d : Cf} {s : Sp} (hl : d.states.length = c.states.length) (hs : at0 d.states s.node = at0 c.states s.node) (hb : bigAt A.l s.node (pickAt (stC A c s.node) s.k).sends d.sent = bigAt A.l s.node (pickAt (stC A c s.node) s.k).sends c.sent) : errPick A d s = errPick A c s := by
 have e : stC A d s.node = stC A c s.node := by unfold stC; rw [hs]
 unfold errPick
 rw [hl, e, hb]
theorem turn_pp {A : Ap} {c : Cf} (h : CfOK A c) {s t : Sp} (hs : errPick A c s = 0) (ht : errPick A c t = 0) (hn : s.node ≠ t.node) : errPick A (donePick A c s) t = 0 ∧ donePick A (donePick A c s) t = donePick A (donePick A c t) s := by
  have ms := pick_sends h hs
  have mt := pick_sends h ht
  obtain ⟨s0, s1, _, _, _⟩ := errPick_zero hs
  obtain ⟨t0, t1, _, _, _⟩ := errPick_zero ht
  have key : ∀ {a b : Sp}, a.node ≠ b.node → 0 ≤ a.node → 0 ≤ b.node → (∀ m ∈ (pickAt (stC A c a.node) a.k).sends, (a.node, m.1) ∈ A.l) → (∀ m ∈ (pickAt (stC A c b.node) b.k).sends, (b.node, m.1) ∈ A.l) →
      stC A (donePick A c a) b.node = stC A c b.node ∧ (∀ j : Nat, (lk A.l j).1 = b.node → (donePick A c a).sent[j]? = c.sent[j]?) := by
    intro a b hab ha hb hma hmb
    refine ⟨?_, fun j hj => ?_⟩
    · rw [donePick_eq]; unfold stC; simp only; rw [at0_set_ne ha hb hab]
    · rw [donePick_eq]; exact (appOf_other (n := a.node) (by rw [hj]; exact fun e => hab e.symm) hma).2
  have k1 := key hn s0 t0 ms mt
  have k2 := key (fun e => hn e.symm) t0 s0 mt ms
  have l1 : (donePick A c s).sent.length = c.sent.length := by rw [donePick_eq]; exact sentOf_len ..
  have l2 : (donePick A c t).sent.length = c.sent.length := by rw [donePick_eq]; exact sentOf_len ..
  have a1 := appOf_same mt l1 k1.2
  have a2 := appOf_same ms l2 k2.2
  constructor
  · rw [errPick_same (c := c) (by rw [donePick_eq]; simp) (by rw [donePick_eq]; simp only; exact at0_set_ne s0 t0 hn) a1.1]; exact ht
  · rw [donePick_eq A (donePick A c s) t, donePick_eq A (donePick A c t) s, k1.1, k2.1]
    simp only [Cf.mk.injEq]
    refine ⟨?_, ?_, ?_⟩
    · rw [donePick_eq, donePick_eq]; exact set_comm' s0 t0 hn
    · have e1 : (donePick A c s).links = c.links.mapIdx (fun j m => m ++ appOf A.l s.node (pickAt (stC A c s.node) s.k).sends c.sent j) := by rw [donePick_eq]
      have e2 : (donePick A c t).links = c.links.mapIdx (fun j m => m ++ appOf A.l t.node (pickAt (stC A c t.node) t.k).sends c.sent j) := by rw [donePick_eq]
      rw [e1, e2, List.mapIdx_mapIdx, List.mapIdx_mapIdx]
      congr 1
      funext j m
      simp only [Function.comp]
      rw [(a1.2 j).1, (a2.2 j).1]
      by_cases hj : (lk A.l j).1 = s.node
      · rw [(appOf_other (n := t.node) (by rw [hj]; exact hn) mt (S := c.sent)).1]; simp
      · rw [(appOf_other (n := s.node) hj ms (S := c.sent)).1]; simp
    · apply List.ext_getElem?
      intro j
      by_cases hj : (lk A.l j).1 = t.node
      · rw [(a1.2 j).2 hj, (appOf_other (n := s.node) (by rw [hj]; exact fun e => hn e.symm) ms).2, donePick_eq A c t]
      · rw [(appOf_other (n := t.node) hj mt).2]
        by_cases hj' : (lk A.l j).1 = s.node
        · rw [(a2.2 j).2 hj', donePick_eq A c s]
        · rw [(appOf_other (n := s.node) hj' ms).2, donePick_eq A c s, donePick_eq A c t, (appOf_other (n := s.node) hj' ms).2, (appOf_other (n := t.node) hj mt).2]
theorem placeL_append {m r : Lks} {q : Int} {i : Nat} (h : placeL m q = some i) : placeL (m ++ r) q = some i := by
 obtain ⟨x, hx, e, hf⟩ := placeL_some h
 have hi := lt_of_get hx
 refine placeL_of (x := x) (by rw [List.getElem?_append_left hi]; exact hx) e (fun j y hj hy => hf j y hj ?_)
 rw [List.getElem?_append_left (by omega)] at hy
 exact hy
theorem lk_append {m r : Lks} {i : Nat} (h : i < m.length) : lk (m ++ r) i = lk m i := by unfold lk; simp only [List.getD]; rw [List.getElem?_append_left h]
theorem where_del {A : Ap} {c : Cf} (h : CfOK A c) {s : Sp} {l : Nat} {m : Lks} (e : s.link = (l : Int)) (hm : c.links[l]? = some m) (hk : s.kind ≠ 0) : whereOf A s = (lk A.l l).2 ∧ l < A.l.length ∧ 0 ≤ (lk A.l l).2 := by
 have hl : l < A.l.length := by have := lt_of_get hm; have := h.2.links; omega
 refine ⟨?_, hl, (h.1.1.2.2.2.1.inr _ (lk_mem hl)).2.2.1⟩
 unfold whereOf
 rw [if_neg hk, e, if_neg (by omega)]
 simp
theorem mapIdx_set' (ls : List Lks) (f : Nat → Lks → Lks) (l : Nat) (x : Lks) : (ls.set l x).mapIdx f = (ls.mapIdx f).set l (f l x) := by
 apply List.ext_getElem?
 intro j
 rw [List.getElem?_mapIdx, List.getElem?_set, List.getElem?_set, List.length_mapIdx, List.getElem?_mapIdx]
 split
 ·next e => subst e; split <;> simp_all
 ·rfl
theorem turn_pd {A : Ap} {c : Cf} (h : CfOK A c) {s t : Sp} (hs : errPick A c s = 0) (ht : errDel A c t = 0) (hk : t.kind ≠ 0) (hn : s.node ≠ whereOf A t) :
  errDel A (donePick A c s) t = 0 ∧ errPick A (doneDel A c t) s = 0 ∧ doneDel A (donePick A c s) t = donePick A (doneDel A c t) s := by
 obtain ⟨s0, s1, _, _, _⟩ := errPick_zero hs
 obtain ⟨l, i, m, x, e, hm, ha, hp, hx, hxe, hff⟩ := errDel_zero ht
 obtain ⟨hw, hl, hw0⟩ := where_del h e hm hk
 rw [hw] at hn
 have hi := lt_of_get hx
 have e1 : (donePick A c s).links[l]? = some (m ++ appOf A.l s.node (pickAt (stC A c s.node) s.k).sends c.sent l) := by rw [donePick_eq]; simp [List.getElem?_mapIdx, hm]
 have e2 : atL (donePick A c s).links t.link = m ++ appOf A.l s.node (pickAt (stC A c s.node) s.k).sends c.sent l := by rw [e]; exact atL_of e1
 have hp2 := placeL_append (r := appOf A.l s.node (pickAt (stC A c s.node) s.k).sends c.sent l) hp
 have hll := lt_of_get hm
 have hst : stC A (doneDel A c t) s.node = stC A c s.node := by
  unfold stC doneDel
  simp only [e, Int.toNat_natCast]
  rw [at0_set_ne hw0 s0 (fun e => hn e.symm)]
 refine ⟨?_, ?_, ?_⟩
 ·unfold errDel
  rw [if_neg (by rw [e, donePick_eq]; simp; omega), e2, if_neg]
  unfold noDel
  rw [hp2]
  cases hA : A.ff with
  | false => simp
  | true => simp [hff hA]
 ·rw [errPick_same (c := c) (d := doneDel A c t) (s := s) (by simp [doneDel]) ?_ rfl]
  ·exact hs
  ·unfold doneDel
   simp only [e, Int.toNat_natCast]
   rw [at0_set_ne hw0 s0 (fun e => hn e.symm)]
 ·rw [donePick_eq A (doneDel A c t) s, hst]
  have hd : doneDel A (donePick A c s) t = ⟨(donePick A c s).states.set (lk A.l l).2.toNat (takenAt A.t (lk A.l l).2 (at0 (donePick A c s).states (lk A.l l).2) (lk A.l l).1 (lk m i).2), (donePick A c s).links.set l (m.eraseIdx i ++ appOf A.l s.node (pickAt (stC A c s.node) s.k).sends c.sent l), (donePick A c s).sent⟩ := by
   unfold doneDel
   rw [e2, hp2]
   simp only [e, Int.toNat_natCast, Option.getD_some]
   rw [lk_append hi, List.eraseIdx_append_of_lt_length hi]
  have hd2 : doneDel A c t = ⟨c.states.set (lk A.l l).2.toNat (takenAt A.t (lk A.l l).2 (at0 c.states (lk A.l l).2) (lk A.l l).1 (lk m i).2), c.links.set l (m.eraseIdx i), c.sent⟩ := by
   unfold doneDel
   rw [ha, hp]
   simp only [e, Int.toNat_natCast, Option.getD_some]
  rw [hd, hd2, donePick_eq A c s]
  simp only [Cf.mk.injEq, and_true]
  refine ⟨?_, ?_⟩
  ·rw [at0_set_ne s0 hw0 hn]; exact set_comm' s0 hw0 hn
  ·rw [mapIdx_set']
theorem turn_dd {A : Ap} {c : Cf} (h : CfOK A c) {s t : Sp} (hs : errDel A c s = 0) (ht : errDel A c t = 0) (hk : s.kind ≠ 0) (hk' : t.kind ≠ 0) (hn : whereOf A s ≠ whereOf A t) :
  errDel A (doneDel A c s) t = 0 ∧ doneDel A (doneDel A c s) t = doneDel A (doneDel A c t) s := by
 obtain ⟨l, i, m, x, e, hm, ha, hp, hx, hxe, hff⟩ := errDel_zero hs
 obtain ⟨hw, hl, hw0⟩ := where_del h e hm hk
 obtain ⟨l', i', m', x', e', hm', ha', hp', hx', hxe', hff'⟩ := errDel_zero ht
 obtain ⟨hw', hl', hw0'⟩ := where_del h e' hm' hk'
 rw [hw, hw'] at hn
 have hne : l ≠ l' := fun e => hn (by rw [e])
 have hd : ∀ {c : Cf} {s : Sp} {l i : Nat} {m : Lks}, s.link = (l : Int) → c.links[l]? = some m → placeL m s.seq = some i → doneDel A c s = ⟨c.states.set (lk A.l l).2.toNat (takenAt A.t (lk A.l l).2 (at0 c.states (lk A.l l).2) (lk A.l l).1 (lk m i).2), c.links.set l (m.eraseIdx i), c.sent⟩ := by
  intro c s l i m e hm hp
  unfold doneDel
  rw [e, atL_of hm, hp]
  simp only [Int.toNat_natCast, Option.getD_some]
 have g1 : (doneDel A c s).links[l']? = some m' := by rw [hd e hm hp]; simp only; rw [List.getElem?_set_ne hne]; exact hm'
 have g2 : (doneDel A c t).links[l]? = some m := by rw [hd e' hm' hp']; simp only; rw [List.getElem?_set_ne hne.symm]; exact hm
 constructor
 ·unfold errDel
  have := lt_of_get g1
  rw [if_neg (by rw [e']; omega), e', atL_of g1, if_neg]
  unfold noDel
  rw [hp']
  cases hA : A.ff with
  | false => simp
  | true => simp [hff' hA]
 ·rw [hd e' g1 hp', hd e g2 hp, hd e hm hp, hd e' hm' hp']
  simp only [Cf.mk.injEq, and_true]
  refine ⟨?_, List.set_comm _ _ hne⟩
  rw [at0_set_ne hw0 hw0' hn, at0_set_ne hw0' hw0 hn.symm]
  exact set_comm' hw0 hw0' hn
theorem turn_of {A : Ap} {c : Cf} (h : CfOK A c) {s t : Sp} (hs : errOf A c s = 0) (ht : errOf A c t = 0) (hn : whereOf A s ≠ whereOf A t) :
  errOf A (doneOf A c s) t = 0 ∧ errOf A (doneOf A c t) s = 0 ∧ doneOf A (doneOf A c s) t = doneOf A (doneOf A c t) s := by
 unfold errOf at hs ht ⊢
 unfold doneOf
 by_cases ks : s.kind = 0
 ·rw [if_pos ks] at hs
  have ws : whereOf A s = s.node := by unfold whereOf; rw [if_pos ks]
  by_cases kt : t.kind = 0
  ·rw [if_pos kt] at ht
   have wt : whereOf A t = t.node := by unfold whereOf; rw [if_pos kt]
   rw [ws, wt] at hn
   simp only [if_pos ks, if_pos kt]
   exact ⟨(turn_pp h hs ht hn).1, (turn_pp h ht hs hn.symm).1, (turn_pp h hs ht hn).2⟩
  ·rw [if_neg kt] at ht
   split at ht
   ·next k1 =>
    simp only [if_pos ks, if_neg kt, if_pos k1]
    rw [ws] at hn
    exact turn_pd h hs ht kt hn
   ·cases ht
 ·rw [if_neg ks] at hs
  split at hs
  ·next k1 =>
   by_cases kt : t.kind = 0
   ·rw [if_pos kt] at ht
    have wt : whereOf A t = t.node := by unfold whereOf; rw [if_pos kt]
    simp only [if_neg ks, if_pos kt, if_pos k1]
    rw [wt] at hn
    have := turn_pd h ht hs ks hn.symm
    exact ⟨this.2.1, this.1, this.2.2.symm⟩
   ·rw [if_neg kt] at ht
    split at ht
    ·next k2 =>
     simp only [if_neg ks, if_neg kt, if_pos k1, if_pos k2]
     exact ⟨(turn_dd h hs ht ks kt hn).1, (turn_dd h ht hs kt ks hn.symm).1, (turn_dd h hs ht ks kt hn).2⟩
    ·cases ht
  ·cases hs
theorem run_two {A : Ap} {c : Cf} {s t : Sp} (hs : errOf A c s = 0) (ht : errOf A (doneOf A c s) t = 0) : runOf A c [s, t] = (doneOf A (doneOf A c s) t, 2, 0) := by
 unfold runOf; rw [if_pos hs]; unfold runOf; rw [if_pos ht]; rfl
end Go.Proofs.Ytiblcpkejhiehaa

set_option linter.unusedSimpArgs false
set_option linter.unusedVariables false
namespace Go.Proofs.Ytiblcpkejhiehaa
open Go.RowKit Go.PlainAid
/-- What the system is made of, to read. -/
structure SysR (A : Ap) (c : Cf) (b mb : Nat) (vG vT v1 v2 v3 : Value) (w : World) : Prop where
 sys : SysAt b mb A.n vG vT A.ff v1 v2 v3 w
 g : LinksAt w vG A.l
 t : Has w vT (dTab A.t)
 s : Has w v1 (dInts c.states)
 l : Has w v2 (dLls c.links)
 q : Has w v3 (dInts c.sent)
theorem SysR.below {A : Ap} {c : Cf} {b mb : Nat} {vG vT v1 v2 v3 : Value} {w w' : World} (h : SysR A c b mb vG vT v1 v2 v3 w) (hb : Below w.heap.size w w') : SysR A c b mb vG vT v1 v2 v3 w' :=
 ⟨h.sys.below hb, h.g.below hb, h.t.later hb, h.s.later hb, h.l.later hb, h.q.later hb⟩
/-- What a call tells that says what is in the way. -/
def MayIs (e0 : Int) (w : World) (e : Ending) (w' : World) : Prop := e = .returned (.int .i64 e0) ∧ Below w.heap.size w w'
theorem sent_low {A : Ap} {c : Cf} (h : CfOK A c) : ∀ (i : Nat) (x : Int), c.sent[i]? = some x → 0 ≤ x ∧ x ≤ 500 := by
 intro i x hx
 obtain ⟨m, hm⟩ := get_of_lt (l := c.links) (i := i) (by have := lt_of_get hx; have := h.2.sent; have := h.2.links; omega)
 have := h.2.ms i x m hx hm
 exact ⟨this.1, this.2.1⟩
theorem slices_of {A : Ap} {c : Cf} {b mb : Nat} {vG vT v1 v2 v3 : Value} {w : World} (h : SysR A c b mb vG vT v1 v2 v3 w) : ∃ (ga ta a1 a2 a3 : Option Addr) (gc tc e1 e2 e3 : Nat), vG = .slice ga A.l.length gc ∧ vT = .slice ta A.t.length tc ∧ v1 = .slice a1 c.states.length e1 ∧ v2 = .slice a2 c.links.length e2 ∧ v3 = .slice a3 c.sent.length e3 := by
 obtain ⟨ga, gc, rfl⟩ := slice_of (has_of_links h.g)
 obtain ⟨ta, tc, rfl⟩ := slice_of h.t
 obtain ⟨a1, e1, rfl⟩ := slice_of h.s
 obtain ⟨a2, e2, rfl⟩ := slice_of h.l
 obtain ⟨a3, e3, rfl⟩ := slice_of h.q
 exact ⟨_, _, _, _, _, _, _, _, _, _, rfl, rfl, rfl, rfl, rfl⟩
theorem bigAt_cons (L : Lks) (n : Int) (m : Int × Int) (r : Lks) (S : List Int) : bigAt L n (m :: r) S = (decide (500 < at0 S (findL L (n, m.1)) + 1) || bigAt L n r (S.set (findL L (n, m.1)).toNat (at0 S (findL L (n, m.1)) + 1))) := rfl
set_option maxHeartbeats 8000000 in
set_option maxRecDepth 100000 in
theorem mayPick_at (A : Ap) (c : Cf) (hOK : CfOK A c) (hsm : SmallTab A.t) (s0 s1 s2 s3 s4 : Int) (b mb : Nat) (vG vT v1 v2 v3 : Value) (w : World) (h : SysR A c b mb vG vT v1 v2 v3 w) :
  Calls Try.prog 55 #[.pointer (some ⟨b, 0, none⟩), .agg #[.int .i64 s0, .int .i64 s1, .int .i64 s2, .int .i64 s3, .int .i64 s4]] w fun e w' => MayIs (errPick A c ⟨s0, s1, s2, s3, s4⟩) w e w' := by
 obtain ⟨ga, ta, a1, a2, a3, gc, tc, e1, e2, e3, rfl, rfl, rfl, rfl, rfl⟩ := slices_of h
 obtain ⟨N, hN⟩ : ∃ N, N = A.n := ⟨_, rfl⟩
 obtain ⟨L, hL⟩ : ∃ L, L = A.l := ⟨_, rfl⟩
 obtain ⟨M, hM⟩ : ∃ M, M = A.t := ⟨_, rfl⟩
 obtain ⟨gl, hgl⟩ : ∃ n, n = A.l.length := ⟨_, rfl⟩
 obtain ⟨tl, htl⟩ : ∃ n, n = A.t.length := ⟨_, rfl⟩
 obtain ⟨n1, hn1⟩ : ∃ n, n = c.states.length := ⟨_, rfl⟩
 obtain ⟨n2, hn2⟩ : ∃ n, n = c.links.length := ⟨_, rfl⟩
 obtain ⟨n3, hn3⟩ : ∃ n, n = c.sent.length := ⟨_, rfl⟩
 rw [← hgl, ← htl, ← hn1, ← hn2, ← hn3] at h
 obtain ⟨ep, hep⟩ : ∃ e, e = errPick A c ⟨s0, s1, s2, s3, s4⟩ := ⟨_, rfl⟩
 rw [← hep]
 have EP := Lib.hid hep
 have OK := Lib.hid hOK
 have SR := Lib.hid h
 have N1 := Lib.hid hn1
 have N3 := Lib.hid hn3
 have HNn := Lib.hid hN
 have HLl := Lib.hid hL
 have HMm := Lib.hid hM
 have GL := Lib.hid hgl
 have hbl : b < w.heap.size := World.block_lt_of_cell? w _ (h.sys.box 2 _ rfl)
 have hln : L.length ≤ 1000000 := by have := hOK.1.1.2.2.1; rw [hL]; omega
 clear hOK h hgl htl hn1 hn2 hn3 hep hN hL hM
 go_enter Try.func55, Try.ntmps55
 try simp only [List.append_eq, List.cons_append, List.nil_append]
 go_upto_region 1 with fail
 obtain ⟨y0, hy0⟩ : ∃ y, y = w.alloc (.cells #[.int .i64 s0, .int .i64 s1, .int .i64 s2, .int .i64 s3, .int .i64 s4] 50) := ⟨_, rfl⟩
 have hb0 : Below w.heap.size w y0 := by rw [hy0]; exact below_new _ _
 have hx0 : BoxAt w.heap.size [.int .i64 s0, .int .i64 s1, .int .i64 s2, .int .i64 s3, .int .i64 s4] y0 := by rw [hy0]; exact boxAt_new w [.int .i64 s0, .int .i64 s1, .int .i64 s2, .int .i64 s3, .int .i64 s4] _
 have B0 := Lib.hid hb0
 have X0 := Lib.hid hx0
 replace SR := Lib.hid (SR.out.below hb0)
 rw [← hy0]
 clear hy0 hb0 hx0
 have p1 := X0.out 1 _ rfl
 have p4 := SR.out.sys.box 4 _ rfl
 by_cases g1 : s1 < 0
 ·have g1' : decide (s1 < 0) = true := by simpa using g1
  have hr : ep = 1 := by rw [EP.out]; unfold errPick; rw [if_pos (.inl g1)]
  subst hr
  go_quiet (fail)
  go_wp2_with fail
  go_ret
  exact ⟨rfl, below_step' B0.out (below_drewN (Below.refl _ y0) nq)⟩
 ·have g1' : decide (s1 < 0) = false := by simpa using g1
  by_cases g2 : (n1 : Int) ≤ s1
  ·have g2' : decide ((n1 : Int) ≤ s1) = true := by simpa using g2
   have hr : ep = 1 := by rw [EP.out]; unfold errPick; rw [if_pos (.inr (by rw [← N1.out]; exact g2))]
   subst hr
   go_quiet (fail)
   go_wp2_with fail
   go_ret
   exact ⟨rfl, below_step' B0.out (below_drewN (Below.refl _ y0) nq)⟩
  ·have g2' : decide ((n1 : Int) ≤ s1) = false := by simpa using g2
   have hin : 0 ≤ s1 ∧ s1 < c.states.length := by have := N1.out; omega
   have hE : ep = if (stC A c s1).mode ≠ 1 then 8 else if isPick (stC A c s1) s2 = false then 3 else if bigAt A.l s1 (pickAt (stC A c s1) s2).sends c.sent then 2 else 0 := by
    rw [EP.out]; unfold errPick; rw [if_neg (by show ¬ (s1 < 0 ∨ (c.states.length : Int) ≤ s1); omega)]
   have EE := Lib.hid hE
   obtain ⟨node, k, x, hnode, hx, hk, hkl, hst, hP⟩ := pick_facts OK.out hin.1 hin.2
   have hq : stC A c s1 = stAt M node k := by unfold stC; rw [hk, HMm.out, hnode]
   subst hnode
   obtain ⟨q, hqk⟩ : ∃ q : Int, q = (k : Int) := ⟨_, rfl⟩
   rw [← hqk] at hst hq
   have HQ0 := Lib.hid (hk.trans hqk.symm)
   obtain ⟨sb, so, e, hc⟩ := num_at SR.out.s hst
   subst e
   have HC := Lib.hid hc
   have HSQ := Lib.hid hq
   have PL := Lib.hid hP
   have HIN := Lib.hid hin
   obtain ⟨md, hmd⟩ : ∃ m, m = (stAt M node q).mode := ⟨_, rfl⟩
   have MD := Lib.hid hmd.symm
   have hnl : node < n1 := by omega
   have hnl' : (node : Int) < n1 := by omega
   have HT := Lib.hid (show Has y0 (.slice ta tl tc) (dTab M) from by rw [HMm.out]; exact SR.out.t)
   have hsl : sb < y0.heap.size := World.block_lt_of_cell? y0 _ hc
   clear hE hx hk hkl hst hP hq hin hmd hc hqk
   go_quiet (fail)
   obtain ⟨y1, hy1⟩ : ∃ y, y = y0.drewN nq := ⟨_, rfl⟩
   have BY := Lib.hid (show Below y0.heap.size y0 y1 from by rw [hy1]; exact below_drewN (Below.refl _ y0) nq)
   rw [← hy1]
   clear hy1 p1 p4
   have Q3 : Hid (∀ w', Below y0.heap.size y0 w' → w'.cell? ⟨b, 2, none⟩ = some (.slice ta tl tc) ∧ w'.cell? ⟨b, 4, none⟩ = some (.slice (some ⟨sb, so, none⟩) n1 e1) ∧ w'.cell? ⟨w.heap.size, 1, none⟩ = some (.int .i64 node) ∧ w'.cell? ⟨sb, so + node, none⟩ = some (.int .i64 q)) := Lib.hid (fun w' hb => ⟨SR.out.sys.box.below hb 2 _ rfl, SR.out.sys.box.below hb 4 _ rfl, X0.out.below hb 1 _ rfl, (hb.cell (by exact hsl)).trans HC.out⟩)
   go_wp2_with fail
   refine wp_region_held_drew (S := (fun w' => w'.cell? ⟨b, 2, none⟩ = some (.slice ta tl tc) ∧ w'.cell? ⟨b, 4, none⟩ = some (.slice (some ⟨sb, so, none⟩) n1 e1) ∧ w'.cell? ⟨w.heap.size, 1, none⟩ = some (.int .i64 node) ∧ w'.cell? ⟨sb, so + node, none⟩ = some (.int .i64 q))) (by kernel_rfl) ?_ (fun hHeld => ?_)
   ·exact Q3.out _ (below_step' BY.out (below_drewN (Below.refl _ y1) 1))
   refine tq 0 ?_
   refine tq 1 ?_
   refine tq 2 ?_
   refine tq 3 ?_
   refine tq 4 ?_
   refine tq 5 ?_
   refine tq 6 ?_
   refine tq 7 ?_
   refine tq 8 ?_
   refine tq 9 ?_
   refine tq 10 ?_
   refine tq 11 ?_
   refine tq 12 ?_
   refine tq 13 ?_
   refine tq 14 ?_
   refine tq 15 ?_
   refine rd 16 fun K hK => ?_
   go_simp
   refine (mode_is M node q md _ _ (HT.out.later (below_step' BY.out (below_drewN (Below.refl _ y1) 1))) MD.out).mono ?_
   rintro e w3 ⟨rfl, hb⟩
   have B3 := Lib.hid (below_step' BY.out (below_step' (below_drewN (Below.refl _ y1) 1) hb))
   clear hb
   go_wp2_with fail
   refine hK.out _ _ ?_ (fun hHeld => ?_)
   ·exact Q3.out _ B3.out
   clear hK K
   try simp only [Act.put, List.getElem_toArray, List.getElem_cons_zero, List.getElem_cons_succ, List.setIfInBounds_toArray, List.set_cons_zero, List.set_cons_succ]
   refine tq 17 ?_
   refine wpAnyH_done (by kernel_rfl) ?_ _
   by_cases hm : md = 1
   ·subst hm
    have x0 := X0.out.below B3.out 0 _ rfl
    have x1 := X0.out.below B3.out 1 _ rfl
    have x2 := X0.out.below B3.out 2 _ rfl
    have x3 := X0.out.below B3.out 3 _ rfl
    have x4 := X0.out.below B3.out 4 _ rfl
    go_wp2_with fail
    refine (sysPicked_at A.t c.states s0 node s2 s3 s4 b mb A.n (.slice ga gl gc) A.ff ta (some ⟨sb, so, none⟩) tl tc n1 e1 (.slice a2 n2 e2) (.slice a3 n3 e3) _ (SR.out.sys.below B3.out) (SR.out.t.later B3.out) (SR.out.s.later B3.out) hsm HIN.out.1 HIN.out.2).mono ?_
    rintro e w5 ⟨u, rfl, hu, hb⟩
    clear x0 x1 x2 x3 x4
    obtain ⟨p, hp⟩ : ∃ p, p = pickAt (stC A c node) s2 := ⟨_, rfl⟩
    obtain ⟨pi, hpi⟩ : ∃ p, p = isPick (stC A c node) s2 := ⟨_, rfl⟩
    have hst2 : stAt A.t node (at0 c.states node) = stC A c node := rfl
    rw [hst2, ← hp] at hu
    rw [hst2, ← hp, ← hpi]
    obtain ⟨ua, uc, e⟩ := slice_of hu.weak
    subst e
    obtain ⟨ul, hul⟩ : ∃ n, n = p.sends.length := ⟨_, rfl⟩
    obtain ⟨pn, hpn⟩ : ∃ n, n = p.next := ⟨_, rfl⟩
    unfold pkv
    rw [← hul] at hu ⊢
    rw [← hpn]
    have B5 := Lib.hid (below_step' B3.out hb)
    have HU := Lib.hid hu.weak
    have UL := Lib.hid hul
    have PP := Lib.hid hp
    have PI := Lib.hid hpi
    clear hb hu hul hp hpi hst2 hpn
    have p6 : ∀ o, (w5.alloc o).cell? ⟨b, 6, none⟩ = some (.slice a3 n3 e3) := fun o => cell_more (SR.out.sys.box.below B5.out 6 _ rfl) o
    cases pi with
    | false =>
     have hr : ep = 3 := by rw [EE.out, HSQ.out, if_neg (by rw [MD.out]; simp), ← HSQ.out, if_pos PI.out.symm]
     subst hr
     go_wp2_with fail
     go_ret
     exact ⟨rfl, below_step' B0.out (below_step' B5.out (below_new _ _))⟩
    | true =>
     have hE2 : ep = if bigAt L node p.sends c.sent then 2 else 0 := by
      rw [EE.out, HSQ.out, if_neg (by rw [MD.out]; simp), ← HSQ.out, if_neg (by rw [← PI.out]; simp), ← PP.out, HLl.out]
     obtain ⟨big, hbig⟩ : ∃ x, x = bigAt L node p.sends c.sent := ⟨_, rfl⟩
     rw [← hbig] at hE2
     have E2 := Lib.hid hE2
     have BG := Lib.hid hbig.symm
     have hu4 : ul ≤ 4 := by
      obtain ⟨j, p', _, hp', hpa⟩ := pickAt_get PI.out.symm
      have hpp : p' = p := by rw [PP.out]; exact hpa.symm
      subst hpp
      rw [UL.out]
      exact (PL.out.2.2.1.2.2 j p' hp').2.1
     have hgoes : ∀ m ∈ p.sends, Goes L node m.1 m.2 := by
      obtain ⟨j, p', _, hp', hpa⟩ := pickAt_get PI.out.symm
      have hpp : p' = p := by rw [PP.out]; exact hpa.symm
      subst hpp
      have hse := (PL.out.2.2.1.2.2 j p' hp').2.2
      intro m hm
      obtain ⟨r, hr⟩ := List.mem_iff_getElem?.1 hm
      rw [HLl.out]
      exact hse r m hr
     have GO := Lib.hid hgoes
     clear hE2 hbig hgoes
     go_wp2_with fail
     refine (clone_ints _ c.sent _ (SR.out.q.later (below_step' B5.out (below_new _ _))) (by rw [OK.out.2.sent]; have := OK.out.1.1.2.2.1; omega)).mono ?_
     rintro e y7 ⟨u7, rfl, hu7, hb7⟩
     obtain ⟨ca, cc, e⟩ := slice_of hu7.weak
     subst e
     rw [← N3.out] at hu7 ⊢
     obtain ⟨y6, hy6⟩ : ∃ y, y = w5.alloc (.cells #[.int .i64 pn, .slice ua ul uc] 128) := ⟨_, rfl⟩
     have hx6 : BoxAt w5.heap.size [.int .i64 pn, .slice ua ul uc] y6 := by rw [hy6]; exact boxAt_new w5 [.int .i64 pn, .slice ua ul uc] _
     have hb56 : Below w5.heap.size w5 y6 := by rw [hy6]; exact below_new _ _
     rw [← hy6] at hu7 hb7
     have hq1 := hx6.below hb7 1 _ rfl
     have CL := Lib.hid (hu7.wide (P' := fun q => y6.heap.size ≤ q ∧ q < y7.heap.size) (fun q hq h => ⟨h, hq⟩))
     have B6 := Lib.hid (below_step' B5.out hb56)
     have B7 := Lib.hid hb7
     replace HU := Lib.hid ((HU.out.later hb56))
     clear p6 hu7 hb7 hy6 hb56 hx6
     go_wp2_with fail
     clear hq1
     go_loopw [60] (fun i wr => ∃ (j : Nat) (T : List Int), i = .int .i64 j ∧ j ≤ ul ∧ T.length = n3 ∧ bigAt L node (p.sends.drop j) T = big ∧ (∀ (i : Nat) (x : Int), T[i]? = some x → 0 ≤ x ∧ x ≤ 500) ∧ Holds True (fun q => y6.heap.size ≤ q ∧ q < y7.heap.size) wr (.slice ca n3 cc) (dInts T) ∧ Below y6.heap.size y6 wr) (fun i _ => ul - (intOf i).toNat)
     case atStart => exact ⟨0, c.sent, rfl, by omega, N3.out.symm, BG.out, sent_low OK.out, CL.out, B7.out⟩
     case round =>
      obtain ⟨j, T, rfl, hj, hTl, hbg, hlow, hH, hB⟩ := hrel
      have BZ := Lib.hid hB
      by_cases hj2 : j < ul
      ·have hj2' : (j : Int) < ul := by omega
       obtain ⟨⟨tg, lt⟩, hm⟩ := some_of_lt (l := p.sends) (i := j) (by rw [← UL.out]; exact hj2)
       obtain ⟨ub, uo, e, m0, m1⟩ := msg_at (HU.out.later hB) hm
       subst e
       rw [drop_of hm, bigAt_cons] at hbg
       have hg := GO.out (tg, lt) (List.mem_of_getElem? hm)
       rcases findL_cases L ((node : Int), tg) with ⟨li, hli, _, _, hle⟩ | ⟨hno, _⟩
       ·obtain ⟨tv, htv⟩ := some_of_lt (l := T) (i := li) (by rw [hTl, N3.out, OK.out.2.sent, ← HLl.out]; exact hli)
        simp only [hle, Int.toNat_natCast, at0_of htv] at hbg
        have hv := hlow li tv htv
        have hv0 := hv.1
        have hv5 := hv.2
        have HLE := Lib.hid hle
        have HTV := Lib.hid htv
        have HBG := Lib.hid hbg
        have HLW := Lib.hid hlow
        have HTL := Lib.hid hTl
        have HH := Lib.hid hH
        have hlil : li < n3 := by rw [← hTl]; exact lt_of_some htv
        clear hbg hlow hTl hH hB hle htv hv hm hg hli
        go_upto_region 12 with fail
        obtain ⟨y8, hy8⟩ : ∃ y, y = wr.alloc (.cells #[.int .i64 tg, .int .i64 lt] 125) := ⟨_, rfl⟩
        have hb8 : Below wr.heap.size wr y8 := by rw [hy8]; exact below_new _ _
        have hx8 : y8.cell? ⟨wr.heap.size, 0, none⟩ = some (.int .i64 tg) := by rw [hy8]; exact boxAt_new wr [.int .i64 tg, .int .i64 lt] _ 0 _ rfl
        have BZ8 := Lib.hid (below_step' BZ.out hb8)
        have B88 := Lib.hid hb8
        have X8 := Lib.hid hx8
        rw [← hy8]
        clear hy8 hb8 hx8 m0 m1
        have Q12 : Hid (∀ w', Below y8.heap.size y8 w' → w'.cell? ⟨b, 0, none⟩ = some (.int .i64 A.n) ∧ w'.cell? ⟨b, 1, none⟩ = some (.slice ga gl gc) ∧ w'.cell? ⟨w.heap.size, 1, none⟩ = some (.int .i64 node) ∧ w'.cell? ⟨wr.heap.size, 0, none⟩ = some (.int .i64 tg)) := Lib.hid (fun w' hb => by
         have hB := below_step' (below_step' B6.out BZ8.out) hb
         exact ⟨SR.out.sys.box.below hB 0 _ rfl, SR.out.sys.box.below hB 1 _ rfl, X0.out.below hB 1 _ rfl, (hb.cell (World.block_lt_of_cell? y8 _ X8.out)).trans X8.out⟩)
        refine wp_region_held_drew (S := (fun w' => w'.cell? ⟨b, 0, none⟩ = some (.int .i64 A.n) ∧ w'.cell? ⟨b, 1, none⟩ = some (.slice ga gl gc) ∧ w'.cell? ⟨w.heap.size, 1, none⟩ = some (.int .i64 node) ∧ w'.cell? ⟨wr.heap.size, 0, none⟩ = some (.int .i64 tg))) (by kernel_rfl) ?_ (fun hHeld => ?_)
        ·exact Q12.out _ (below_drewN (Below.refl _ y8) 1)
        refine tq 0 ?_
        refine tq 1 ?_
        refine tq 2 ?_
        refine tq 3 ?_
        refine tq 4 ?_
        refine tq 5 ?_
        refine tq 6 ?_
        refine tq 7 ?_
        refine tq 8 ?_
        refine rd 9 fun K hK => ?_
        go_simp
        refine (find_at A.n node tg li _ L _ (by rw [HLl.out]; exact SR.out.g.below (below_step' (below_step' B6.out BZ8.out) (below_drewN (Below.refl _ y8) 1))) hln HLE.out).mono ?_
        rintro e w8 ⟨rfl, hb⟩
        have B8 := Lib.hid (below_step' (below_drewN (Below.refl _ y8) 1) hb)
        clear hb
        go_wp2_with fail
        refine hK.out _ _ ?_ (fun hHeld => ?_)
        ·exact Q12.out _ B8.out
        clear hK K
        try simp only [Act.put, List.getElem_toArray, List.getElem_cons_zero, List.getElem_cons_succ, List.setIfInBounds_toArray, List.set_cons_zero, List.set_cons_succ]
        refine tq 10 ?_
        refine wpAnyH_done (by kernel_rfl) ?_ _
        have hB9 := below_step' B88.out B8.out
        obtain ⟨cb, e, hcb, _, q0, f0, hset⟩ := (HH.out.later hB9).slot1 HTV.out
        subst e
        have hcb6 : y6.heap.size ≤ cb := hcb.1
        have SET := Lib.hid (hset (tv + 1))
        have B9 := Lib.hid (below_step' BZ.out hB9)
        clear hset hB9 hcb
        by_cases h5 : 500 < tv + 1
        ·have h5' : decide (500 < tv + 1) = true := by simpa using h5
         have hr : ep = 2 := by
          have hb := HBG.out
          rw [h5', Bool.true_or] at hb
          rw [E2.out, ← hb]; rfl
         subst hr
         go_wp2_with fail
         go_ret
         exact ⟨rfl, below_step' B0.out (below_step' B6.out (B9.out.setCell hcb6 _))⟩
        ·have h5' : decide (500 < tv + 1) = false := by simpa using h5
         go_wp2_with fail
         go_roundw
         case rel => exact ⟨j + 1, T.set li (tv + 1), by go_num, by omega, by rw [List.length_set]; exact HTL.out, by
          have hb := HBG.out
          rw [h5', Bool.false_or] at hb
          exact hb, fun i x hx => by
          rcases set_cases hx with ⟨rfl, rfl, _⟩ | ⟨_, hx⟩
          ·omega
          ·exact HLW.out i x hx, SET.out, B9.out.setCell hcb6 _⟩
         case measure => simp [intOf]; omega
       ·exact absurd hg.1 hno
      ·have hj3 : ¬ (j : Int) < ul := by omega
       have hr : ep = 0 := by
        rw [List.drop_of_length_le (by rw [← UL.out]; omega)] at hbg
        rw [E2.out, ← hbg]; rfl
       subst hr
       clear hTl hbg hlow hH hB
       go_wp2_with fail
       go_ret
       exact ⟨rfl, below_step' B0.out (below_step' B6.out BZ.out)⟩
   ·have hm' : (md != 1) = true := by simpa using hm
    have hr : ep = 8 := by rw [EE.out, HSQ.out, if_pos (by rw [MD.out]; exact hm)]
    subst hr
    go_wp2_with fail
    go_ret
    exact ⟨rfl, below_step' B0.out B3.out⟩
end Go.Proofs.Ytiblcpkejhiehaa

namespace Go.Proofs.Ytiblcpkejhiehaa
theorem msgsOK_len {m : Lks} {q : Int} : ∀ {a : Int}, MsgsOK a q m → a ≤ q → (m.length : Int) ≤ q - a := by
 induction m with
 | nil => intro a _ h; simp; omega
 | cons x r ih => intro a h _; have := ih h.2.2.2.2 h.2.1; have := h.1; simp only [List.length_cons]; omega
theorem linkOK_len {q : Int} {m : Lks} (h : LinkOK q m) : (m.length : Int) ≤ 500 := by have := msgsOK_len h.2.2 h.1; have := h.2.1; omega
theorem cf_at {A : Ap} {c : Cf} (h : CfOK A c) {i : Nat} (hi : i < A.l.length) : ∃ (q : Int) (m : Lks), c.sent[i]? = some q ∧ c.links[i]? = some m ∧ LinkOK q m := by
 obtain ⟨q, hq⟩ := get_of_lt (l := c.sent) (i := i) (by rw [h.2.sent]; exact hi)
 obtain ⟨m, hm⟩ := get_of_lt (l := c.links) (i := i) (by rw [h.2.links]; exact hi)
 exact ⟨q, m, hq, hm, h.2.ms i q m hq hm⟩
end Go.Proofs.Ytiblcpkejhiehaa

