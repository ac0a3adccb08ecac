/- Texts put together. -/
import Derived.Test.YtennbiajnkobnaaQ12
namespace Go.Proofs.Ytennbiajnkobnaa
/-- An application: how many nodes, links, table, first in first out. -/
structure Ap where
 n : Int
 l : Lks
 t : Tab
 ff : Bool
/-- A configuration: states, messages (how many-th, letter), sent. -/
structure Cf where
 states : List Int
 links : List Lks
 sent : List Int
/-- A step. -/
structure Sp where
 kind : Int
 node : Int
 k : Int
 link : Int
 seq : Int
deriving DecidableEq
def Cf.zero : Cf := ⟨[], [], []⟩
def at0 (l : List Int) (i : Int) : Int := l.getD i.toNat 0
def atL (l : List Lks) (i : Int) : Lks := l.getD i.toNat []
/-- Where a message stands. -/
def placeL (l : Lks) (q : Int) : Option Nat := l.findIdx? (fun m => m.1 == q)
/-- One message is sent. -/
def send1 (L : Lks) (n : Int) (c : List Lks × List Int) (m : Int × Int) : List Lks × List Int :=
 (c.1.set (findL L (n, m.1)).toNat (atL c.1 (findL L (n, m.1)) ++ [(at0 c.2 (findL L (n, m.1)) + 1, m.2)]), c.2.set (findL L (n, m.1)).toNat (at0 c.2 (findL L (n, m.1)) + 1))
def sendAll (L : Lks) (n : Int) (ms : Lks) (c : List Lks × List Int) : List Lks × List Int := ms.foldl (send1 L n) c
/-- Some link would have had too many. -/
def bigAt (L : Lks) (n : Int) : Lks → List Int → Bool
 | [], _ => false
 | m :: r, S => decide (500 < at0 S (findL L (n, m.1)) + 1) || bigAt L n r (S.set (findL L (n, m.1)).toNat (at0 S (findL L (n, m.1)) + 1))
def stC (A : Ap) (c : Cf) (n : Int) : St := stAt A.t n (at0 c.states n)
def errPick (A : Ap) (c : Cf) (s : Sp) : Int :=
 if s.node < 0 ∨ (c.states.length : Int) ≤ s.node then 1 else if (stC A c s.node).mode ≠ 1 then 8 else if isPick (stC A c s.node) s.k = false then 3 else if bigAt A.l s.node (pickAt (stC A c s.node) s.k).sends c.sent then 2 else 0
def donePick (A : Ap) (c : Cf) (s : Sp) : Cf :=
 ⟨c.states.set s.node.toNat (pickAt (stC A c s.node) s.k).next, (sendAll A.l s.node (pickAt (stC A c s.node) s.k).sends (c.links, c.sent)).1, (sendAll A.l s.node (pickAt (stC A c s.node) s.k).sends (c.links, c.sent)).2⟩
def noDel (A : Ap) (m : Lks) (q : Int) : Bool := match placeL m q with
 | none => true
 | some i => A.ff && decide (0 < i)
def errDel (A : Ap) (c : Cf) (s : Sp) : Int := if s.link < 0 ∨ (c.links.length : Int) ≤ s.link then 1 else if noDel A (atL c.links s.link) s.seq then 3 else 0
def doneDel (A : Ap) (c : Cf) (s : Sp) : Cf :=
 ⟨c.states.set (lk A.l s.link.toNat).2.toNat (takenAt A.t (lk A.l s.link.toNat).2 (at0 c.states (lk A.l s.link.toNat).2) (lk A.l s.link.toNat).1 (lk (atL c.links s.link) ((placeL (atL c.links s.link) s.seq).getD 0)).2),
  c.links.set s.link.toNat ((atL c.links s.link).eraseIdx ((placeL (atL c.links s.link) s.seq).getD 0)), c.sent⟩
def errOf (A : Ap) (c : Cf) (s : Sp) : Int := if s.kind = 0 then errPick A c s else if s.kind = 1 then errDel A c s else 1
def doneOf (A : Ap) (c : Cf) (s : Sp) : Cf := if s.kind = 0 then donePick A c s else doneDel A c s
def runOf (A : Ap) : Cf → List Sp → Cf × Nat × Int
 | c, [] => (c, 0, 0)
 | c, s :: r => if errOf A c s = 0 then ((runOf A (doneOf A c s) r).1, (runOf A (doneOf A c s) r).2.1 + 1, (runOf A (doneOf A c s) r).2.2) else (c, 0, errOf A c s)
def startOf (A : Ap) : Cf := ⟨A.t.map Nd.start, A.l.map fun _ => [], A.l.map fun _ => 0⟩
def pickS (n k : Nat) : Sp := ⟨0, n, k, 0, 0⟩
def delS (l : Nat) (q : Int) : Sp := ⟨1, 0, 0, l, q⟩
/-- All steps that may be tried. -/
def tryOf (c : Cf) : List Sp := ((List.range c.states.length).map fun n => (List.range 4).map fun k => pickS n k).flatten ++ ((List.range c.links.length).map fun l => (c.links.getD l []).map fun m => delS l m.1).flatten
def canOf (A : Ap) (c : Cf) : List Sp := (tryOf c).filter fun s => decide (errOf A c s = 0)
/-- The messages of a link may be: they rise, none is beyond what was sent. -/
def MsgsOK : Int → Int → Lks → Prop
 | _, _, [] => True
 | last, q, m :: r => last < m.1 ∧ m.1 ≤ q ∧ 0 ≤ m.2 ∧ m.2 < 4 ∧ MsgsOK m.1 q r
def LinkOK (q : Int) (m : Lks) : Prop := 0 ≤ q ∧ q ≤ 500 ∧ MsgsOK 0 q m
/-- A configuration that may be, of an application that may be. -/
structure CfIn (A : Ap) (c : Cf) : Prop where
 states : (c.states.length : Int) = A.n
 links : c.links.length = A.l.length
 sent : c.sent.length = A.l.length
 st : ∀ (n : Nat) (s : Int) (x : Nd), c.states[n]? = some s → A.t[n]? = some x → HasS x.states s
 ms : ∀ (i : Nat) (q : Int) (m : Lks), c.sent[i]? = some q → c.links[i]? = some m → LinkOK q m
def CfOK (A : Ap) (c : Cf) : Prop := TabOK A.n A.l A.t ∧ CfIn A c
theorem at0_of {l : List Int} {i : Nat} {x : Int} (h : l[i]? = some x) : at0 l i = x := by simp [at0, List.getD, h]
theorem atL_of {l : List Lks} {i : Nat} {x : Lks} (h : l[i]? = some x) : atL l i = x := by simp [atL, List.getD, h]
theorem set_cases {α : Type} {l : List α} {i j : Nat} {x y : α} (h : (l.set i x)[j]? = some y) : (j = i ∧ y = x ∧ i < l.length) ∨ (j ≠ i ∧ l[j]? = some y) := by
 rw [List.getElem?_set] at h
 split at h
 ·next e =>
  split at h
  ·next hl => cases h; exact .inl ⟨e.symm, rfl, by omega⟩
  ·cases h
 ·next e => exact .inr ⟨fun e' => e e'.symm, h⟩
theorem msgsOK_low {m : Lks} : ∀ {a b q : Int}, MsgsOK a q m → b ≤ a → MsgsOK b q m := by
 cases m with
 | nil => intro _ _ _ _ _; trivial
 | cons x r => intro a b q h hb; exact ⟨Int.lt_of_le_of_lt hb h.1, h.2⟩
theorem msgsOK_push {m : Lks} {q c : Int} : ∀ {a : Int}, MsgsOK a q m → a ≤ q → 0 ≤ c → c < 4 → MsgsOK a (q + 1) (m ++ [(q + 1, c)]) := by
 induction m with
 | nil => intro a _ ha h0 h4; exact ⟨by show a < q + 1; omega, Int.le_refl _, h0, h4, trivial⟩
 | cons x r ih => intro a h ha h0 h4; exact ⟨h.1, by have := h.2.1; omega, h.2.2.1, h.2.2.2.1, ih h.2.2.2.2 h.2.1 h0 h4⟩
theorem msgsOK_erase {m : Lks} {q : Int} : ∀ {a : Int} (i : Nat), MsgsOK a q m → MsgsOK a q (m.eraseIdx i) := by
 induction m with
 | nil => intro a i _; trivial
 | cons x r ih =>
  intro a i h
  cases i with
  | zero => exact msgsOK_low h.2.2.2.2 (Int.le_of_lt h.1)
  | succ i => exact ⟨h.1, h.2.1, h.2.2.1, h.2.2.2.1, ih i h.2.2.2.2⟩
theorem msgsOK_get {m : Lks} {q : Int} : ∀ {a : Int} {i : Nat} {x : Int × Int}, MsgsOK a q m → m[i]? = some x → a < x.1 ∧ x.1 ≤ q ∧ 0 ≤ x.2 ∧ x.2 < 4 := by
 induction m with
 | nil => intro a i x _ h; simp at h
 | cons y r ih =>
  intro a i x h hx
  cases i with
  | zero => simp at hx; subst hx; exact ⟨h.1, h.2.1, h.2.2.1, h.2.2.2.1⟩
  | succ i => have := ih h.2.2.2.2 (by simpa using hx); exact ⟨Int.lt_trans h.1 this.1, this.2⟩
/-- Messages rise. -/
theorem msgsOK_lt {m : Lks} {q : Int} : ∀ {a : Int} {i j : Nat} {x y : Int × Int}, MsgsOK a q m → i < j → m[i]? = some x → m[j]? = some y → x.1 < y.1 := by
 induction m with
 | nil => intro a i j x y _ _ h; simp at h
 | cons z r ih =>
  intro a i j x y h hij hx hy
  cases j with
  | zero => omega
  | succ j =>
   have hy' : r[j]? = some y := by simpa using hy
   cases i with
   | zero => simp at hx; subst hx; exact (msgsOK_get h.2.2.2.2 hy').1
   | succ i => exact ih h.2.2.2.2 (i := i) (j := j) (by omega) (by simpa using hx) hy'
theorem placeL_some {m : Lks} {q : Int} {i : Nat} (h : placeL m q = some i) : ∃ x, m[i]? = some x ∧ x.1 = q ∧ ∀ (j : Nat) (y : Int × Int), j < i → m[j]? = some y → y.1 ≠ q := by
 unfold placeL at h
 rw [List.findIdx?_eq_some_iff_getElem] at h
 obtain ⟨hi, h1, h2⟩ := h
 refine ⟨m[i], List.getElem?_eq_getElem hi, by simpa using h1, fun j y hj hy => ?_⟩
 have := h2 j hj
 obtain ⟨hl, rfl⟩ := List.getElem?_eq_some_iff.1 hy
 simpa using this
theorem placeL_of {m : Lks} {q : Int} {i : Nat} {x : Int × Int} (hx : m[i]? = some x) (e : x.1 = q) (hf : ∀ (j : Nat) (y : Int × Int), j < i → m[j]? = some y → y.1 ≠ q) : placeL m q = some i := by
 unfold placeL
 rw [List.findIdx?_eq_some_iff_getElem]
 obtain ⟨hl, rfl⟩ := List.getElem?_eq_some_iff.1 hx
 exact ⟨hl, by simpa using e, fun j hj => by simpa using hf j _ hj (List.getElem?_eq_getElem (by omega))⟩
theorem placeL_ok {m : Lks} {q a b : Int} {i : Nat} {x : Int × Int} (h : MsgsOK a b m) (hx : m[i]? = some x) (e : x.1 = q) : placeL m q = some i :=
 placeL_of hx e (fun j y hj hy => by have := msgsOK_lt h hj hy hx; omega)
theorem placeL_none {m : Lks} {q : Int} : placeL m q = none ↔ ∀ (i : Nat) (x : Int × Int), m[i]? = some x → x.1 ≠ q := by
 unfold placeL
 rw [List.findIdx?_eq_none_iff]
 constructor
 ·intro h i x hx e; have := h x (List.mem_of_getElem? hx); simp [e] at this
 ·intro h x hx; obtain ⟨i, hi⟩ := List.mem_iff_getElem?.1 hx; simpa using h i x hi
theorem send1_len (L : Lks) (n : Int) (c : List Lks × List Int) (m : Int × Int) : (send1 L n c m).1.length = c.1.length ∧ (send1 L n c m).2.length = c.2.length := by simp [send1]
theorem sendAll_len (L : Lks) (n : Int) (ms : Lks) : ∀ c : List Lks × List Int, (sendAll L n ms c).1.length = c.1.length ∧ (sendAll L n ms c).2.length = c.2.length := by
 induction ms with
 | nil => intro c; exact ⟨rfl, rfl⟩
 | cons m r ih => intro c; have h1 := ih (send1 L n c m); have h2 := send1_len L n c m; exact ⟨h1.1.trans h2.1, h1.2.trans h2.2⟩
theorem send1_ok {L : Lks} {n : Int} {c : List Lks × List Int} {m : Int × Int} (hm : Goes L n m.1 m.2) (hl : c.1.length = L.length) (hs : c.2.length = L.length)
  (h : ∀ (i : Nat) (q : Int) (l : Lks), c.2[i]? = some q → c.1[i]? = some l → LinkOK q l) (hb : ¬ 500 < at0 c.2 (findL L (n, m.1)) + 1) :
  ∀ (i : Nat) (q : Int) (l : Lks), (send1 L n c m).2[i]? = some q → (send1 L n c m).1[i]? = some l → LinkOK q l := by
 intro i q l hq hl'
 rcases findL_cases L (n, m.1) with ⟨k, hk, _, _, e⟩ | ⟨hno, _⟩
 ·unfold send1 at hq hl'
  rw [e] at hq hl' hb
  simp only [Int.toNat_natCast] at hq hl'
  obtain ⟨q0, hq0⟩ := get_of_lt (l := c.2) (i := k) (by omega)
  obtain ⟨l0, hl0⟩ := get_of_lt (l := c.1) (i := k) (by omega)
  rw [at0_of hq0, atL_of hl0] at hl'
  rw [at0_of hq0] at hq hb
  rcases set_cases hq with ⟨rfl, rfl, _⟩ | ⟨hne, hq⟩
  ·rcases set_cases hl' with ⟨_, rfl, _⟩ | ⟨hne, _⟩
   ·have h0 := h i q0 l0 hq0 hl0
    exact ⟨by have := h0.1; omega, by omega, msgsOK_push h0.2.2 h0.1 hm.2.1 hm.2.2⟩
   ·exact absurd rfl hne
  ·rcases set_cases hl' with ⟨e2, _⟩ | ⟨_, hl'⟩
   ·exact absurd e2 hne
   ·exact h i q l hq hl'
 ·exact absurd hm.1 hno
theorem sendAll_ok {L : Lks} {n : Int} : ∀ {ms : Lks} {c : List Lks × List Int}, (∀ m ∈ ms, Goes L n m.1 m.2) → c.1.length = L.length → c.2.length = L.length →
  (∀ (i : Nat) (q : Int) (l : Lks), c.2[i]? = some q → c.1[i]? = some l → LinkOK q l) → bigAt L n ms c.2 = false →
  ∀ (i : Nat) (q : Int) (l : Lks), (sendAll L n ms c).2[i]? = some q → (sendAll L n ms c).1[i]? = some l → LinkOK q l := by
 intro ms
 induction ms with
 | nil => intro c _ _ _ h _; exact h
 | cons m r ih =>
  intro c hm h1 h2 h hb
  unfold bigAt at hb
  simp only [Bool.or_eq_false_iff, decide_eq_false_iff_not] at hb
  have hl := send1_len L n c m
  exact ih (c := send1 L n c m) (fun x hx => hm x (List.mem_cons_of_mem _ hx)) (hl.1.trans h1) (hl.2.trans h2) (send1_ok (hm m (List.mem_cons_self ..)) h1 h2 h hb.1) hb.2
/-- What a node in such a state picks. -/
theorem pick_facts {A : Ap} {c : Cf} (h : CfOK A c) {n : Int} (h0 : 0 ≤ n) (h1 : n < c.states.length) :
  ∃ (i k : Nat) (x : Nd), n = (i : Int) ∧ A.t[i]? = some x ∧ at0 c.states n = (k : Int) ∧ k < x.states.length ∧ c.states[i]? = some (k : Int) ∧ PlaceOK A.l ⟨stC A c n, n, x.states⟩ := by
 obtain ⟨i, rfl⟩ := Int.eq_ofNat_of_zero_le h0
 have hl : i < A.t.length := by have a := h.2.states; have b := h.1.2.1; omega
 obtain ⟨x, hx⟩ := get_of_lt hl
 obtain ⟨s, hs⟩ := get_of_lt (l := c.states) (i := i) (by omega)
 have hh := h.2.st i s x hs hx
 obtain ⟨k, rfl⟩ := Int.eq_ofNat_of_zero_le hh.1
 have hk : k < x.states.length := by have h2 := hh.2; have h2 : (k : Int) < (x.states.length : Int) := h2; omega
 exact ⟨i, k, x, rfl, hx, at0_of hs, hk, hs, by unfold stC; rw [at0_of hs]; exact place_ok h.1 hx hk⟩
theorem pickAt_get {s : St} {k : Int} (h : isPick s k = true) : ∃ (j : Nat) (p : Pk), k = (j : Int) ∧ s.picks[j]? = some p ∧ pickAt s k = p := by
 unfold isPick at h
 simp only [decide_eq_true_eq] at h
 obtain ⟨j, rfl⟩ := Int.eq_ofNat_of_zero_le h.1
 obtain ⟨p, hp⟩ := get_of_lt (l := s.picks) (i := j) (by omega)
 exact ⟨j, p, rfl, hp, by unfold pickAt; rw [if_pos h]; exact getD_of (by simpa using hp)⟩
theorem errPick_zero {A : Ap} {c : Cf} {s : Sp} (h : errPick A c s = 0) : 0 ≤ s.node ∧ s.node < c.states.length ∧ (stC A c s.node).mode = 1 ∧ isPick (stC A c s.node) s.k = true ∧ bigAt A.l s.node (pickAt (stC A c s.node) s.k).sends c.sent = false := by
 unfold errPick at h
 split at h
 ·cases h
 ·next h1 =>
  split at h
  ·cases h
  ·next h2 =>
   split at h
   ·cases h
   ·next h3 =>
    split at h
    ·cases h
    ·next h4 => exact ⟨by omega, by omega, by simpa using h2, by simpa using h3, by simpa using h4⟩
theorem donePick_ok {A : Ap} {c : Cf} {s : Sp} (h : CfOK A c) (he : errPick A c s = 0) : CfOK A (donePick A c s) := by
 obtain ⟨h0, h1, h2, h3, h4⟩ := errPick_zero he
 obtain ⟨i, k, x, e, hx, hk, hkl, hs, hP⟩ := pick_facts h h0 h1
 obtain ⟨j, p, rfl', hp, hpa⟩ := pickAt_get h3
 obtain ⟨hn, hsl, hse⟩ := hP.2.2.1.2.2 j p hp
 have hlen := sendAll_len A.l s.node p.sends (c.links, c.sent)
 refine ⟨h.1, ⟨by simp [donePick, h.2.states], by unfold donePick; rw [hpa]; exact hlen.1.trans h.2.links, by unfold donePick; rw [hpa]; exact hlen.2.trans h.2.sent, fun n s' y hs' hy => ?_, ?_⟩⟩
 ·unfold donePick at hs'
  rw [hpa, e, Int.toNat_natCast] at hs'
  rcases set_cases hs' with ⟨rfl, rfl, _⟩ | ⟨_, hs'⟩
  ·rw [hx] at hy; cases hy; exact hn
  ·exact h.2.st n s' y hs' hy
 ·unfold donePick
  rw [hpa]
  rw [hpa] at h4
  refine sendAll_ok (fun m hm => ?_) h.2.links h.2.sent h.2.ms h4
  obtain ⟨r, hr⟩ := List.mem_iff_getElem?.1 hm
  exact hse r m hr
theorem errDel_zero {A : Ap} {c : Cf} {s : Sp} (h : errDel A c s = 0) : ∃ (l i : Nat) (m : Lks) (x : Int × Int), s.link = (l : Int) ∧ c.links[l]? = some m ∧ atL c.links s.link = m ∧ placeL m s.seq = some i ∧ m[i]? = some x ∧ x.1 = s.seq ∧ (A.ff = true → i = 0) := by
 unfold errDel at h
 split at h
 ·cases h
 ·next h1 =>
  obtain ⟨l, e⟩ := Int.eq_ofNat_of_zero_le (show 0 ≤ s.link by omega)
  obtain ⟨m, hm⟩ := get_of_lt (l := c.links) (i := l) (by omega)
  have ha : atL c.links s.link = m := by rw [e]; exact atL_of hm
  rw [ha] at h
  split at h
  ·cases h
  ·next h2 =>
   unfold noDel at h2
   cases hp : placeL m s.seq with
   | none => rw [hp] at h2; simp at h2
   | some i =>
    rw [hp] at h2
    obtain ⟨x, hx, he, _⟩ := placeL_some hp
    refine ⟨l, i, m, x, e, hm, ha, hp, hx, he, fun hf => ?_⟩
    rw [hf] at h2
    simp at h2
    exact h2
theorem lk_of {L : Lks} {i : Nat} {p : Int × Int} (h : L[i]? = some p) : lk L i = p := by simp [lk, List.getD, h]
/-- A link's ends. -/
theorem link_facts {A : Ap} {c : Cf} (h : CfOK A c) {l : Nat} (hl : l < A.l.length) : ∃ (i k : Nat) (x : Nd), (lk A.l l).2 = (i : Int) ∧ A.t[i]? = some x ∧ c.states[i]? = some (k : Int) ∧ k < x.states.length := by
 have hr := h.1.1.2.2.2.1.inr _ (lk_mem hl)
 obtain ⟨i, hi⟩ := Int.eq_ofNat_of_zero_le hr.2.2.1
 have := h.2.states
 obtain ⟨i', k, x, e, hx, _, hkl, hs, _⟩ := pick_facts h (n := (i : Int)) (by omega) (by omega)
 obtain rfl : i' = i := by omega
 exact ⟨i', k, x, hi, hx, hs, hkl⟩
theorem doneDel_ok {A : Ap} {c : Cf} {s : Sp} (h : CfOK A c) (he : errDel A c s = 0) : CfOK A (doneDel A c s) := by
 obtain ⟨l, i, m, x, e, hm, ha, hp, hx, _, _⟩ := errDel_zero he
 have hl : l < A.l.length := by have := lt_of_get hm; have := h.2.links; omega
 obtain ⟨n, k, y, en, hy, hs, hk⟩ := link_facts h hl
 refine ⟨h.1, ⟨by simp [doneDel, h.2.states], by simp [doneDel, h.2.links], h.2.sent, fun n' s' y' hs' hy' => ?_, fun j q l' hq hl' => ?_⟩⟩
 ·unfold doneDel at hs'
  simp only [e, Int.toNat_natCast, en] at hs'
  rw [at0_of hs] at hs'
  rcases set_cases hs' with ⟨rfl, rfl, _⟩ | ⟨_, hs'⟩
  ·rw [hy] at hy'; cases hy'
   obtain ⟨s2, h1, h2, _⟩ := taken_ok h.1 hy hk (lk A.l l).1 (lk (atL c.links (l : Int)) ((placeL (atL c.links (l : Int)) s.seq).getD 0)).2
   rw [h1]
   exact ⟨by omega, by show (s2 : Int) < (y.states.length : Int); omega⟩
  ·exact h.2.st n' s' y' hs' hy'
 ·unfold doneDel at hl' hq
  rw [ha, hp, e] at hl'
  simp only [Int.toNat_natCast, Option.getD_some] at hl' hq
  rcases set_cases hl' with ⟨rfl, rfl, _⟩ | ⟨_, hl'⟩
  ·have h0 := h.2.ms j q m hq hm
   exact ⟨h0.1, h0.2.1, msgsOK_erase i h0.2.2⟩
  ·exact h.2.ms j q l' hq hl'
theorem doneOf_ok {A : Ap} {c : Cf} {s : Sp} (h : CfOK A c) (he : errOf A c s = 0) : CfOK A (doneOf A c s) := by
 unfold errOf at he
 unfold doneOf
 split at he
 ·next h0 => rw [if_pos h0]; exact donePick_ok h he
 ·next h0 =>
  split at he
  ·rw [if_neg h0]; exact doneDel_ok h he
  ·cases he
theorem startOf_ok {A : Ap} (h : TabOK A.n A.l A.t) : CfOK A (startOf A) := by
 refine ⟨h, ⟨by simp [startOf, h.2.1], by simp [startOf], by simp [startOf], fun n s x hs hx => ?_, fun i q m hq hm => ?_⟩⟩
 ·simp only [startOf, List.getElem?_map, hx, Option.map_some, Option.some.injEq] at hs
  subst hs
  exact (h.2.2 n x hx).2.1
 ·simp only [startOf, List.getElem?_map, Option.map_eq_some_iff] at hq hm
  obtain ⟨_, _, rfl⟩ := hq
  obtain ⟨_, _, rfl⟩ := hm
  exact ⟨by omega, by omega, trivial⟩
theorem runOf_ok {A : Ap} : ∀ {l : List Sp} {c : Cf}, CfOK A c → CfOK A (runOf A c l).1 := by
 intro l
 induction l with
 | nil => intro c h; exact h
 | cons s r ih =>
  intro c h
  unfold runOf
  split
  ·next he => exact ih (doneOf_ok h he)
  ·exact h
end Go.Proofs.Ytennbiajnkobnaa

