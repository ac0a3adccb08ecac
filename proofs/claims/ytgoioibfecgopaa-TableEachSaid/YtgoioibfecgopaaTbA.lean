/- Tables by definition: picks, takes, states, nodes; what is told of a state. -/
import Derived.Test.YtgoioibfecgopaaBa1
namespace Go.Proofs.Ytgoioibfecgopaa

structure Pk where
  next : Int
  sends : Lks
structure Tk where
  src : Int
  letter : Int
  next : Int
structure St where
  mode : Int
  waits : List Int
  picks : List Pk
  takes : List Tk
structure Nd where
  start : Int
  states : List St
abbrev Tab := List Nd
def Pk.zero : Pk := ⟨0, []⟩
def Tk.zero : Tk := ⟨0, 0, 0⟩
def St.zero : St := ⟨0, [], [], []⟩
def Nd.zero : Nd := ⟨0, []⟩
instance : Inhabited Pk := ⟨Pk.zero⟩
instance : Inhabited Tk := ⟨Tk.zero⟩
instance : Inhabited St := ⟨St.zero⟩
instance : Inhabited Nd := ⟨Nd.zero⟩

/-- A place: a state, whose node it is, all states of that. -/
structure Pl where
  st : St
  node : Int
  all : List St
def Pl.zero : Pl := ⟨St.zero, 0, []⟩
instance : Inhabited Pl := ⟨Pl.zero⟩

def HasS (l : List St) (s : Int) : Prop := 0 ≤ s ∧ s < l.length
instance (l : List St) (s : Int) : Decidable (HasS l s) := by unfold HasS; infer_instance
def ndAt (M : Tab) (n : Int) : Nd := M.getD n.toNat Nd.zero
def Is (M : Tab) (n s : Int) : Prop := 0 ≤ n ∧ n < M.length ∧ HasS (ndAt M n).states s
instance (M : Tab) (n s : Int) : Decidable (Is M n s) := by unfold Is; infer_instance
def plAt (M : Tab) (n s : Int) : Pl := if Is M n s then ⟨(ndAt M n).states.getD s.toNat St.zero, n, (ndAt M n).states⟩ else Pl.zero
def stAt (M : Tab) (n s : Int) : St := (plAt M n s).st
def pickAt (s : St) (k : Int) : Pk := if 0 ≤ k ∧ k < s.picks.length then s.picks.getD k.toNat Pk.zero else Pk.zero
def isPick (s : St) (k : Int) : Bool := decide (0 ≤ k ∧ k < s.picks.length)
/-- Where a message leads. -/
def takeFrom : List Tk → Int → Int → Int → Int
  | [], s, _, _ => s
  | t :: r, s, f, l => if t.src = f ∧ t.letter = l then t.next else takeFrom r s f l
def takenAt (M : Tab) (n s f l : Int) : Int := takeFrom (stAt M n s).takes s f l

theorem takeFrom_hit {l : List Tk} {s f c : Int} : ∀ (k : Nat) (t : Tk), l[k]? = some t → t.src = f → t.letter = c → (∀ (j : Nat) (u : Tk), j < k → l[j]? = some u → ¬ (u.src = f ∧ u.letter = c)) → takeFrom l s f c = t.next := by
  induction l with
  | nil => intro k t h; simp at h
  | cons q r ih =>
    intro k t h h1 h2 h3
    cases k with
    | zero => simp at h; subst h; simp [takeFrom, h1, h2]
    | succ k =>
      have := h3 0 q (by omega) rfl
      rw [takeFrom, if_neg this]
      exact ih k t (by simpa using h) h1 h2 (fun j u hj hu => h3 (j + 1) u (by omega) (by simpa using hu))
theorem takeFrom_miss {l : List Tk} {s f c : Int} : (∀ (j : Nat) (u : Tk), l[j]? = some u → ¬ (u.src = f ∧ u.letter = c)) → takeFrom l s f c = s := by
  induction l with
  | nil => intro _; rfl
  | cons q r ih =>
    intro h
    rw [takeFrom, if_neg (h 0 q rfl)]
    exact ih (fun j u hu => h (j + 1) u (by simpa using hu))

theorem getD_of {α : Type} {l : List α} {i : Nat} {x d : α} (h : l[i]? = some x) : l.getD i d = x := by simp [List.getD, h]
theorem get_of_lt {α : Type} {l : List α} {i : Nat} (h : i < l.length) : ∃ x, l[i]? = some x := ⟨_, List.getElem?_eq_getElem h⟩
theorem lt_of_get {α : Type} {l : List α} {i : Nat} {x : α} (h : l[i]? = some x) : i < l.length := (List.getElem?_eq_some_iff.1 h).1
theorem plAt_of {M : Tab} {n s : Nat} {x : Nd} {t : St} (hx : M[n]? = some x) (ht : x.states[s]? = some t) : plAt M n s = ⟨t, n, x.states⟩ := by
  have h1 := lt_of_get hx
  have h2 := lt_of_get ht
  have e : ndAt M n = x := by unfold ndAt; simp [List.getD, hx]
  unfold plAt
  rw [if_pos ⟨by omega, by omega, by rw [e]; exact ⟨by omega, by omega⟩⟩, e]
  simp [List.getD, ht]
theorem plAt_no {M : Tab} {n s : Int} (h : ¬ Is M n s) : plAt M n s = Pl.zero := by unfold plAt; rw [if_neg h]
theorem is_cases (M : Tab) (n s : Int) : ¬ Is M n s ∨ ∃ (n' s' : Nat) (x : Nd) (t : St), n = (n' : Int) ∧ s = (s' : Int) ∧ M[n']? = some x ∧ x.states[s']? = some t := by
  by_cases h : Is M n s
  · obtain ⟨h0, h1, h2, h3⟩ := h
    obtain ⟨n', rfl⟩ := Int.eq_ofNat_of_zero_le h0
    obtain ⟨s', rfl⟩ := Int.eq_ofNat_of_zero_le h2
    obtain ⟨x, hx⟩ := get_of_lt (l := M) (i := n') (by omega)
    have e : ndAt M n' = x := by unfold ndAt; simp [List.getD, hx]
    rw [e] at h3
    obtain ⟨t, ht⟩ := get_of_lt (l := x.states) (i := s') (by omega)
    exact .inr ⟨n', s', x, t, rfl, rfl, hx, ht⟩
  · exact .inl h
end Go.Proofs.Ytgoioibfecgopaa
