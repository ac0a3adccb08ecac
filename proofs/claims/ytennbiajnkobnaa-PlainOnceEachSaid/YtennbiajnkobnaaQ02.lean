/- Texts put together. -/
import Derived.Test.YtennbiajnkobnaaQ00
import Derived.Test.YtennbiajnkobnaaQ01
import Derived.BigRegion
import Derived.OrdersHeld
import Derived.KernelRfl
import Derived.Tactics
import Derived.Deep.RegionHeld3
namespace Go.Proofs.Ytennbiajnkobnaa
structure Pk where
 next : Int
 sends : Lks
structure Tk where
 src : Int
 letter : Int
 next : Int
structure St where
 mode : Int
 waits : List Int
 picks : List Pk
 takes : List Tk
structure Nd where
 start : Int
 states : List St
abbrev Tab := List Nd
def Pk.zero : Pk := ⟨0, []⟩
def Tk.zero : Tk := ⟨0, 0, 0⟩
def St.zero : St := ⟨0, [], [], []⟩
def Nd.zero : Nd := ⟨0, []⟩
instance : Inhabited Pk := ⟨Pk.zero⟩
instance : Inhabited Tk := ⟨Tk.zero⟩
instance : Inhabited St := ⟨St.zero⟩
instance : Inhabited Nd := ⟨Nd.zero⟩
/-- A place: a state, whose node it is, all states of that. -/
structure Pl where
 st : St
 node : Int
 all : List St
def Pl.zero : Pl := ⟨St.zero, 0, []⟩
instance : Inhabited Pl := ⟨Pl.zero⟩
def HasS (l : List St) (s : Int) : Prop := 0 ≤ s ∧ s < l.length
instance (l : List St) (s : Int) : Decidable (HasS l s) := by unfold HasS; infer_instance
def ndAt (M : Tab) (n : Int) : Nd := M.getD n.toNat Nd.zero
def Is (M : Tab) (n s : Int) : Prop := 0 ≤ n ∧ n < M.length ∧ HasS (ndAt M n).states s
instance (M : Tab) (n s : Int) : Decidable (Is M n s) := by unfold Is; infer_instance
def plAt (M : Tab) (n s : Int) : Pl := if Is M n s then ⟨(ndAt M n).states.getD s.toNat St.zero, n, (ndAt M n).states⟩ else Pl.zero
def stAt (M : Tab) (n s : Int) : St := (plAt M n s).st
def pickAt (s : St) (k : Int) : Pk := if 0 ≤ k ∧ k < s.picks.length then s.picks.getD k.toNat Pk.zero else Pk.zero
def isPick (s : St) (k : Int) : Bool := decide (0 ≤ k ∧ k < s.picks.length)
/-- Where a message leads. -/
def takeFrom : List Tk → Int → Int → Int → Int
 | [], s, _, _ => s
 | t :: r, s, f, l => if t.src = f ∧ t.letter = l then t.next else takeFrom r s f l
def takenAt (M : Tab) (n s f l : Int) : Int := takeFrom (stAt M n s).takes s f l
theorem takeFrom_hit {l : List Tk} {s f c : Int} : ∀ (k : Nat) (t : Tk), l[k]? = some t → t.src = f → t.letter = c → (∀ (j : Nat) (u : Tk), j < k → l[j]? = some u → ¬ (u.src = f ∧ u.letter = c)) → takeFrom l s f c = t.next := by
 induction l with
 | nil => intro k t h; simp at h
 | cons q r ih =>
  intro k t h h1 h2 h3
  cases k with
  | zero => simp at h; subst h; simp [takeFrom, h1, h2]
  | succ k =>
   have := h3 0 q (by omega) rfl
   rw [takeFrom, if_neg this]
   exact ih k t (by simpa using h) h1 h2 (fun j u hj hu => h3 (j + 1) u (by omega) (by simpa using hu))
theorem takeFrom_miss {l : List Tk} {s f c : Int} : (∀ (j : Nat) (u : Tk), l[j]? = some u → ¬ (u.src = f ∧ u.letter = c)) → takeFrom l s f c = s := by
 induction l with
 | nil => intro _; rfl
 | cons q r ih =>
  intro h
  rw [takeFrom, if_neg (h 0 q rfl)]
  exact ih (fun j u hu => h (j + 1) u (by simpa using hu))
theorem getD_of {α : Type} {l : List α} {i : Nat} {x d : α} (h : l[i]? = some x) : l.getD i d = x := by simp [List.getD, h]
theorem get_of_lt {α : Type} {l : List α} {i : Nat} (h : i < l.length) : ∃ x, l[i]? = some x := ⟨_, List.getElem?_eq_getElem h⟩
theorem lt_of_get {α : Type} {l : List α} {i : Nat} {x : α} (h : l[i]? = some x) : i < l.length := (List.getElem?_eq_some_iff.1 h).1
theorem plAt_of {M : Tab} {n s : Nat} {x : Nd} {t : St} (hx : M[n]? = some x) (ht : x.states[s]? = some t) : plAt M n s = ⟨t, n, x.states⟩ := by
 have h1 := lt_of_get hx
 have h2 := lt_of_get ht
 have e : ndAt M n = x := by unfold ndAt; simp [List.getD, hx]
 unfold plAt
 rw [if_pos ⟨by omega, by omega, by rw [e]; exact ⟨by omega, by omega⟩⟩, e]
 simp [List.getD, ht]
theorem plAt_no {M : Tab} {n s : Int} (h : ¬ Is M n s) : plAt M n s = Pl.zero := by unfold plAt; rw [if_neg h]
theorem is_cases (M : Tab) (n s : Int) : ¬ Is M n s ∨ ∃ (n' s' : Nat) (x : Nd) (t : St), n = (n' : Int) ∧ s = (s' : Int) ∧ M[n']? = some x ∧ x.states[s']? = some t := by
 by_cases h : Is M n s
 ·obtain ⟨h0, h1, h2, h3⟩ := h
  obtain ⟨n', rfl⟩ := Int.eq_ofNat_of_zero_le h0
  obtain ⟨s', rfl⟩ := Int.eq_ofNat_of_zero_le h2
  obtain ⟨x, hx⟩ := get_of_lt (l := M) (i := n') (by omega)
  have e : ndAt M n' = x := by unfold ndAt; simp [List.getD, hx]
  rw [e] at h3
  obtain ⟨t, ht⟩ := get_of_lt (l := x.states) (i := s') (by omega)
  exact .inr ⟨n', s', x, t, rfl, rfl, hx, ht⟩
 ·exact .inl h
end Go.Proofs.Ytennbiajnkobnaa

namespace Go.Proofs.Ytennbiajnkobnaa
open Go.RowKit Go.PlainAid
def Pk.d (p : Pk) : List D := [dI p.next, dLinks p.sends]
def Tk.d (t : Tk) : List D := [dI t.src, dI t.letter, dI t.next]
def dPicks (l : List Pk) : D := .row 2 (l.map Pk.d)
def dTakes (l : List Tk) : D := .row 3 (l.map Tk.d)
def St.d (s : St) : List D := [dI s.mode, dInts s.waits, dPicks s.picks, dTakes s.takes]
def dStates (l : List St) : D := .row 4 (l.map St.d)
def Nd.d (x : Nd) : List D := [dI x.start, dStates x.states]
def dTab (M : Tab) : D := .row 2 (M.map Nd.d)
def Pl.d (p : Pl) : List D := [dI p.st.mode, dInts p.st.waits, dPicks p.st.picks, dTakes p.st.takes, dI p.node, dStates p.all]
def dPls (l : List Pl) : D := .row 6 (l.map Pl.d)
theorem hasL_pk {w : World} {cs : List Value} {p : Pk} (h : HasL w cs p.d) : ∃ v, cs = [.int .i64 p.next, v] ∧ Has w v (dLinks p.sends) := by
 obtain ⟨c, r, rfl, h1, h⟩ := h.cons
 obtain ⟨c2, r, rfl, h2, h⟩ := HasL.cons h
 obtain rfl := HasL.nil h
 obtain rfl := Holds.val h1
 exact ⟨_, rfl, h2⟩
theorem hasL_tk {w : World} {cs : List Value} {t : Tk} (h : HasL w cs t.d) : cs = [.int .i64 t.src, .int .i64 t.letter, .int .i64 t.next] := by
 obtain ⟨c, r, rfl, h1, h⟩ := h.cons
 obtain ⟨c2, r, rfl, h2, h⟩ := HasL.cons h
 obtain ⟨c3, r, rfl, h3, h⟩ := HasL.cons h
 obtain rfl := HasL.nil h
 obtain rfl := Holds.val h1
 obtain rfl := Holds.val h2
 obtain rfl := Holds.val h3
 rfl
theorem hasL_st {w : World} {cs : List Value} {s : St} (h : HasL w cs s.d) : ∃ v1 v2 v3, cs = [.int .i64 s.mode, v1, v2, v3] ∧ Has w v1 (dInts s.waits) ∧ Has w v2 (dPicks s.picks) ∧ Has w v3 (dTakes s.takes) := by
 obtain ⟨c, r, rfl, h1, h⟩ := h.cons
 obtain ⟨c2, r, rfl, h2, h⟩ := HasL.cons h
 obtain ⟨c3, r, rfl, h3, h⟩ := HasL.cons h
 obtain ⟨c4, r, rfl, h4, h⟩ := HasL.cons h
 obtain rfl := HasL.nil h
 obtain rfl := Holds.val h1
 exact ⟨_, _, _, rfl, h2, h3, h4⟩
theorem hasL_nd {w : World} {cs : List Value} {x : Nd} (h : HasL w cs x.d) : ∃ v, cs = [.int .i64 x.start, v] ∧ Has w v (dStates x.states) := by
 obtain ⟨c, r, rfl, h1, h⟩ := h.cons
 obtain ⟨c2, r, rfl, h2, h⟩ := HasL.cons h
 obtain rfl := HasL.nil h
 obtain rfl := Holds.val h1
 exact ⟨_, rfl, h2⟩
theorem hasL_pl {w : World} {cs : List Value} {p : Pl} (h : HasL w cs p.d) : ∃ v1 v2 v3 v4, cs = [.int .i64 p.st.mode, v1, v2, v3, .int .i64 p.node, v4] ∧ Has w v1 (dInts p.st.waits) ∧ Has w v2 (dPicks p.st.picks) ∧ Has w v3 (dTakes p.st.takes) ∧ Has w v4 (dStates p.all) := by
 obtain ⟨c, r, rfl, h1, h⟩ := h.cons
 obtain ⟨c2, r, rfl, h2, h⟩ := HasL.cons h
 obtain ⟨c3, r, rfl, h3, h⟩ := HasL.cons h
 obtain ⟨c4, r, rfl, h4, h⟩ := HasL.cons h
 obtain ⟨c5, r, rfl, h5, h⟩ := HasL.cons h
 obtain ⟨c6, r, rfl, h6, h⟩ := HasL.cons h
 obtain rfl := HasL.nil h
 obtain rfl := Holds.val h1
 obtain rfl := Holds.val h5
 exact ⟨_, _, _, _, rfl, h2, h3, h4, h6⟩
theorem pl_hasL {w : World} {p : Pl} {v1 v2 v3 v4 : Value} (h1 : Has w v1 (dInts p.st.waits)) (h2 : Has w v2 (dPicks p.st.picks)) (h3 : Has w v3 (dTakes p.st.takes)) (h4 : Has w v4 (dStates p.all)) : HasL w [.int .i64 p.st.mode, v1, v2, v3, .int .i64 p.node, v4] p.d :=
 .mk (has_int _ _ _ _) (.mk h1 (.mk h2 (.mk h3 (.mk (has_int _ _ _ _) (.mk h4 (hasL_nil _ _ _))))))
theorem st_hasL {w : World} {s : St} {v1 v2 v3 : Value} (h1 : Has w v1 (dInts s.waits)) (h2 : Has w v2 (dPicks s.picks)) (h3 : Has w v3 (dTakes s.takes)) : HasL w [.int .i64 s.mode, v1, v2, v3] s.d :=
 .mk (has_int _ _ _ _) (.mk h1 (.mk h2 (.mk h3 (hasL_nil _ _ _))))
theorem slice_of {w : World} {v : Value} {n : Nat} {α : Type} {f : α → List D} {xs : List α} (h : Has w v (.row n (xs.map f))) : ∃ a c, v = .slice a xs.length c := by
 obtain ⟨a, c, rfl⟩ := Holds.len h
 exact ⟨a, c, by rw [List.length_map]⟩
/-- An element's cells, by name. -/
theorem cells_of {w : World} {v : Value} {n i : Nat} {α : Type} {f : α → List D} {xs : List α} {x : α} (h : Has w v (.row n (xs.map f))) (hx : xs[i]? = some x) :
  ∃ b off cap, v = .slice (some ⟨b, off, none⟩) xs.length cap ∧ b < w.heap.size ∧ xs.length ≤ cap ∧ ∃ cs, HasL w cs (f x) ∧ ∀ j c, cs[j]? = some c → w.cell? ⟨b, off + i * n + j, none⟩ = some c := by
 obtain ⟨b, off, cap, rfl, h1, h2, _, cs, h3, h4⟩ := Has.at (i := i) (ds := f x) h (by simp [hx])
 rw [List.length_map] at h2
 exact ⟨b, off, cap, by rw [List.length_map], h1, h2, cs, h3, h4⟩
theorem nd_cells {w : World} {v : Value} {M : Tab} {i : Nat} {x : Nd} (h : Has w v (dTab M)) (hx : M[i]? = some x) :
  ∃ b off cap vs, v = .slice (some ⟨b, off, none⟩) M.length cap ∧ b < w.heap.size ∧ M.length ≤ cap ∧ w.cell? ⟨b, off + i * 2, none⟩ = some (.int .i64 x.start) ∧ w.cell? ⟨b, off + i * 2 + 1, none⟩ = some vs ∧ Has w vs (dStates x.states) := by
 obtain ⟨b, off, cap, rfl, h1, h2, cs, h3, h4⟩ := cells_of h hx
 obtain ⟨v, rfl, h5⟩ := hasL_nd h3
 exact ⟨b, off, cap, v, rfl, h1, h2, h4 0 _ rfl, h4 1 _ rfl, h5⟩
theorem st_cells {w : World} {v : Value} {l : List St} {i : Nat} {s : St} (h : Has w v (dStates l)) (hx : l[i]? = some s) :
  ∃ b off cap v1 v2 v3, v = .slice (some ⟨b, off, none⟩) l.length cap ∧ b < w.heap.size ∧ l.length ≤ cap ∧ w.cell? ⟨b, off + i * 4, none⟩ = some (.int .i64 s.mode) ∧ w.cell? ⟨b, off + i * 4 + 1, none⟩ = some v1 ∧ w.cell? ⟨b, off + i * 4 + 2, none⟩ = some v2 ∧
   w.cell? ⟨b, off + i * 4 + 3, none⟩ = some v3 ∧ Has w v1 (dInts s.waits) ∧ Has w v2 (dPicks s.picks) ∧ Has w v3 (dTakes s.takes) := by
 obtain ⟨b, off, cap, rfl, h1, h2, cs, h3, h4⟩ := cells_of h hx
 obtain ⟨v1, v2, v3, rfl, h5, h6, h7⟩ := hasL_st h3
 exact ⟨b, off, cap, v1, v2, v3, rfl, h1, h2, h4 0 _ rfl, h4 1 _ rfl, h4 2 _ rfl, h4 3 _ rfl, h5, h6, h7⟩
theorem pk_cells {w : World} {v : Value} {l : List Pk} {i : Nat} {p : Pk} (h : Has w v (dPicks l)) (hx : l[i]? = some p) :
  ∃ b off cap v1, v = .slice (some ⟨b, off, none⟩) l.length cap ∧ b < w.heap.size ∧ l.length ≤ cap ∧ w.cell? ⟨b, off + i * 2, none⟩ = some (.int .i64 p.next) ∧ w.cell? ⟨b, off + i * 2 + 1, none⟩ = some v1 ∧ Has w v1 (dLinks p.sends) := by
 obtain ⟨b, off, cap, rfl, h1, h2, cs, h3, h4⟩ := cells_of h hx
 obtain ⟨v, rfl, h5⟩ := hasL_pk h3
 exact ⟨b, off, cap, v, rfl, h1, h2, h4 0 _ rfl, h4 1 _ rfl, h5⟩
theorem tk_cells {w : World} {v : Value} {l : List Tk} {i : Nat} {t : Tk} (h : Has w v (dTakes l)) (hx : l[i]? = some t) :
  ∃ b off cap, v = .slice (some ⟨b, off, none⟩) l.length cap ∧ b < w.heap.size ∧ l.length ≤ cap ∧ w.cell? ⟨b, off + i * 3, none⟩ = some (.int .i64 t.src) ∧ w.cell? ⟨b, off + i * 3 + 1, none⟩ = some (.int .i64 t.letter) ∧ w.cell? ⟨b, off + i * 3 + 2, none⟩ = some (.int .i64 t.next) := by
 obtain ⟨b, off, cap, rfl, h1, h2, cs, h3, h4⟩ := cells_of h hx
 obtain rfl := hasL_tk h3
 exact ⟨b, off, cap, rfl, h1, h2, h4 0 _ rfl, h4 1 _ rfl, h4 2 _ rfl⟩
theorem zero_pl (w : World) : HasL w [.int .i64 0, .slice none 0 0, .slice none 0 0, .slice none 0 0, .int .i64 0, .slice none 0 0] Pl.zero.d :=
 pl_hasL (p := Pl.zero) (.nil _ _ _ _ _) (.nil _ _ _ _ _) (.nil _ _ _ _ _) (.nil _ _ _ _ _)
end Go.Proofs.Ytennbiajnkobnaa

namespace Go.Proofs.Ytennbiajnkobnaa
open Go.RowKit Go.PlainAid
theorem has_yes (a : Option Addr) (len cap : Nat) (s : Int) (w : World) (h0 : 0 ≤ s) (h1 : s < len) :
  Calls Try.prog 44 #[.slice a len cap, .int .i64 s] w fun e w' => e = .returned (.bool true) ∧ w = w' := by
 have hd : decide (s < len) = true := by simp [h1]
 go_enter Try.func44, Try.ntmps44
 go_wp2_with fail
 go_ret
 exact ⟨rfl, rfl⟩
theorem has_no (a : Option Addr) (len cap : Nat) (s : Int) (w : World) (h : ¬ (0 ≤ s ∧ s < len)) :
  Calls Try.prog 44 #[.slice a len cap, .int .i64 s] w fun e w' => e = .returned (.bool false) ∧ w = w' := by
 by_cases h0 : 0 ≤ s
 ·have h1 : ¬ s < len := by omega
  clear h
  go_enter Try.func44, Try.ntmps44
  go_wp2_with fail
  go_ret
  exact ⟨rfl, rfl⟩
 ·clear h
  go_enter Try.func44, Try.ntmps44
  go_wp2_with fail
  go_ret
  exact ⟨rfl, rfl⟩
set_option maxHeartbeats 8000000 in
theorem placeOf_cells (b off len cap n : Nat) (b2 off2 len2 cap2 s : Nat) (m : Int) (a1 a2 a3 : Option Addr) (l1 l2 l3 p1 p2 p3 : Nat) (w : World) (hn : n < len) (hs : s < len2) (hb : b < w.heap.size) (hb2 : b2 < w.heap.size)
  (hc : w.cell? ⟨b, off + n * 2 + 1, none⟩ = some (.slice (some ⟨b2, off2, none⟩) len2 cap2))
  (c0 : w.cell? ⟨b2, off2 + s * 4, none⟩ = some (.int .i64 m)) (c1 : w.cell? ⟨b2, off2 + s * 4 + 1, none⟩ = some (.slice a1 l1 p1)) (c2 : w.cell? ⟨b2, off2 + s * 4 + 2, none⟩ = some (.slice a2 l2 p2)) (c3 : w.cell? ⟨b2, off2 + s * 4 + 3, none⟩ = some (.slice a3 l3 p3)) :
  Calls Try.prog 75 #[.slice (some ⟨b, off, none⟩) len cap, .int .i64 n, .int .i64 s] w fun e w' => e = .returned (.agg #[.int .i64 m, .slice a1 l1 p1, .slice a2 l2 p2, .slice a3 l3 p3, .int .i64 n, .slice (some ⟨b2, off2, none⟩) len2 cap2]) ∧ Below w.heap.size w w' := by
 go_enter Try.func75, Try.ntmps75
 go_wp2_with fail
 refine (has_yes _ _ _ _ _ (by omega) (by omega)).mono ?_
 rintro e w' ⟨rfl, rfl⟩
 go_wp2_with fail
 obtain ⟨wa, hwa⟩ : ∃ wa, wa = w.alloc (.cells #[.int .i64 0, .slice none 0 0, .slice none 0 0, .slice none 0 0, .int .i64 0, .slice none 0 0] 145) := ⟨_, rfl⟩
 have Hb := Lib.hid (show Below w.heap.size w wa by rw [hwa]; go_grown)
 have k := (Hb.out.cell (by exact hb)).trans hc
 have k0 := (Hb.out.cell (by exact hb2)).trans c0
 have k1 := (Hb.out.cell (by exact hb2)).trans c1
 have k2 := (Hb.out.cell (by exact hb2)).trans c2
 have k3 := (Hb.out.cell (by exact hb2)).trans c3
 have s0 : wa.cell? ⟨w.heap.size, 0, none⟩ = some (.int .i64 0) := by rw [hwa]; go_cell
 have s1 : wa.cell? ⟨w.heap.size, 1, none⟩ = some (.slice none 0 0) := by rw [hwa]; go_cell
 have s2 : wa.cell? ⟨w.heap.size, 2, none⟩ = some (.slice none 0 0) := by rw [hwa]; go_cell
 have s3 : wa.cell? ⟨w.heap.size, 3, none⟩ = some (.slice none 0 0) := by rw [hwa]; go_cell
 have s4 : wa.cell? ⟨w.heap.size, 4, none⟩ = some (.int .i64 0) := by rw [hwa]; go_cell
 have s5 : wa.cell? ⟨w.heap.size, 5, none⟩ = some (.slice none 0 0) := by rw [hwa]; go_cell
 have f0 : wa.frozen? ⟨w.heap.size, 0, none⟩ = false := by rw [hwa]; go_cell
 have f1 : wa.frozen? ⟨w.heap.size, 1, none⟩ = false := by rw [hwa]; go_cell
 have f2 : wa.frozen? ⟨w.heap.size, 2, none⟩ = false := by rw [hwa]; go_cell
 have f3 : wa.frozen? ⟨w.heap.size, 3, none⟩ = false := by rw [hwa]; go_cell
 have f4 : wa.frozen? ⟨w.heap.size, 4, none⟩ = false := by rw [hwa]; go_cell
 have f5 : wa.frozen? ⟨w.heap.size, 5, none⟩ = false := by rw [hwa]; go_cell
 rw [← hwa]
 clear hwa hc c0 c1 c2 c3
 go_region
 go_wp2_with fail
 refine bodyPost_ret (v := .agg #[.int .i64 m, .slice a1 l1 p1, .slice a2 l2 p2, .slice a3 l3 p3, .int .i64 n, .slice (some ⟨b2, off2, none⟩) len2 cap2]) (by simp [results, Try.results75, go_sem, s0, s1, s2, s3, s4, s5]) rfl ⟨rfl, ?_⟩
 have := Hb.out
 go_grown
def zpl : Value := .agg #[.int .i64 0, .slice none 0 0, .slice none 0 0, .slice none 0 0, .int .i64 0, .slice none 0 0]
set_option maxHeartbeats 8000000 in
theorem placeOf_out (a : Option Addr) (len cap : Nat) (n s : Int) (w : World) (hn : ¬ (0 ≤ n ∧ n < len)) :
  Calls Try.prog 75 #[.slice a len cap, .int .i64 n, .int .i64 s] w fun e w' => e = .returned zpl ∧ Below w.heap.size w w' := by
 by_cases h0 : n < 0
 ·clear hn
  go_enter Try.func75, Try.ntmps75
  go_wp2_with fail
  refine bodyPost_ret (v := zpl) (by simp [zpl, results, Try.results75, go_sem]) rfl ⟨rfl, ?_⟩
  go_grown
 ·have h1 : (len : Int) ≤ n := by omega
  have h0' : 0 ≤ n := by omega
  clear hn
  go_enter Try.func75, Try.ntmps75
  go_wp2_with fail
  refine bodyPost_ret (v := zpl) (by simp [zpl, results, Try.results75, go_sem]) rfl ⟨rfl, ?_⟩
  go_grown
set_option maxHeartbeats 8000000 in
theorem placeOf_none (b off len cap n : Nat) (a2 : Option Addr) (len2 cap2 : Nat) (s : Int) (w : World) (hn : n < len) (hs : ¬ (0 ≤ s ∧ s < len2)) (hb : b < w.heap.size)
  (hc : w.cell? ⟨b, off + n * 2 + 1, none⟩ = some (.slice a2 len2 cap2)) :
  Calls Try.prog 75 #[.slice (some ⟨b, off, none⟩) len cap, .int .i64 n, .int .i64 s] w fun e w' => e = .returned zpl ∧ Below w.heap.size w w' := by
 go_enter Try.func75, Try.ntmps75
 have Hs := Lib.hid hs
 clear hs
 go_wp2_with fail
 refine (has_no _ _ _ _ _ Hs.out).mono ?_
 rintro e w' ⟨rfl, rfl⟩
 go_wp2_with fail
 refine bodyPost_ret (v := zpl) (by simp [zpl, results, Try.results75, go_sem]) rfl ⟨rfl, ?_⟩
 go_grown
/-- A place, whatever its numbers: its values by name. -/
def IsPl (w : World) (p : Pl) (v : Value) : Prop := ∃ cs, v = .agg ⟨cs⟩ ∧ HasL w cs p.d
theorem placeOf_in (M : Tab) (n s : Int) (v : Value) (w0 w : World) (h : Has w0 v (dTab M)) (h0 : Below w0.heap.size w0 w) :
  Calls Try.prog 75 #[v, .int .i64 n, .int .i64 s] w fun e w' => ∃ u, e = .returned u ∧ IsPl w0 (plAt M n s) u ∧ Below w.heap.size w w' := by
 have hz := h0.size
 by_cases hn : 0 ≤ n ∧ n < M.length
 ·obtain ⟨k, rfl⟩ := Int.eq_ofNat_of_zero_le hn.1
  obtain ⟨x, hx⟩ := get_of_lt (l := M) (i := k) (by omega)
  obtain ⟨b, off, cap, vs, rfl, hb, hcap, c0, c1, hS⟩ := nd_cells h hx
  have hnd : ndAt M k = x := by unfold ndAt; simp [List.getD, hx]
  have c1' := (h0.cell (by exact hb)).trans c1
  by_cases hs : 0 ≤ s ∧ s < x.states.length
  ·obtain ⟨j, rfl⟩ := Int.eq_ofNat_of_zero_le hs.1
   obtain ⟨t, ht⟩ := get_of_lt (l := x.states) (i := j) (by omega)
   obtain ⟨b2, off2, cap2, v1, v2, v3, rfl, hb2, hcap2, d0, d1, d2, d3, h1, h2, h3⟩ := st_cells hS ht
   obtain ⟨a1, p1, rfl⟩ := slice_of h1
   obtain ⟨a2, p2, rfl⟩ := slice_of h2
   obtain ⟨a3, p3, rfl⟩ := slice_of h3
   rw [plAt_of hx ht]
   refine (placeOf_cells b off M.length cap k b2 off2 x.states.length cap2 j t.mode a1 a2 a3 _ _ _ p1 p2 p3 w (lt_of_get hx) (lt_of_get ht) (Nat.lt_of_lt_of_le hb hz) (Nat.lt_of_lt_of_le hb2 hz) c1' ((h0.cell (by exact hb2)).trans d0) ((h0.cell (by exact hb2)).trans d1) ((h0.cell (by exact hb2)).trans d2) ((h0.cell (by exact hb2)).trans d3)).mono ?_
   rintro e w' ⟨rfl, hbel⟩
   exact ⟨_, rfl, ⟨_, rfl, pl_hasL (p := ⟨t, k, x.states⟩) h1 h2 h3 hS⟩, hbel⟩
  ·rw [plAt_no (fun g => hs (by have := g.2.2; rw [hnd] at this; exact this))]
   obtain ⟨a2, p2, rfl⟩ := slice_of hS
   refine (placeOf_none b off M.length cap k a2 _ p2 s w (lt_of_get hx) hs (Nat.lt_of_lt_of_le hb hz) c1').mono ?_
   rintro e w' ⟨rfl, hbel⟩
   exact ⟨_, rfl, ⟨_, rfl, zero_pl _⟩, hbel⟩
 ·rw [plAt_no (fun g => hn ⟨g.1, g.2.1⟩)]
  obtain ⟨a, cap, rfl⟩ := slice_of h
  refine (placeOf_out a _ cap n s w hn).mono ?_
  rintro e w' ⟨rfl, hbel⟩
  exact ⟨_, rfl, ⟨_, rfl, zero_pl _⟩, hbel⟩
theorem IsPl.later {w w' : World} {p : Pl} {v : Value} (h : IsPl w p v) (hb : Below w.heap.size w w') : IsPl w' p v := by
 obtain ⟨cs, rfl, hc⟩ := h
 exact ⟨cs, rfl, hc.later hb⟩
theorem placeOf_at (M : Tab) (n s : Int) (v : Value) (w : World) (h : Has w v (dTab M)) :
  Calls Try.prog 75 #[v, .int .i64 n, .int .i64 s] w fun e w' => ∃ u, e = .returned u ∧ IsPl w' (plAt M n s) u ∧ Below w.heap.size w w' := by
 refine (placeOf_in M n s v w w h (Below.refl _ _)).mono ?_
 rintro e w' ⟨u, rfl, hu, hb⟩
 exact ⟨u, rfl, hu.later hb, hb⟩
end Go.Proofs.Ytennbiajnkobnaa

namespace Go.Proofs.Ytennbiajnkobnaa
theorem tk (i : Nat) (v : Value) {P : Program} {ops : Array Oper} {Q : Exit → Act → World → Prop} {md : Region.Mode} {S : World → Prop} {oi : Oper} {fuel : Nat} {listed : Array Bool} {a : Act} {w : World} (hi : ops[i]? = some oi)
  (hb : (Region.noSelect ops && Region.free md ops listed i && (Region.ready md ops listed).contains i) = true) (hQ : ∀ c a w, Q (.panic c) (a.put oi.dst v) w → Q (.panic c) a w) (hw : Region.wanted oi (yielded ops a.tmps) = true)
  (hy : ∀ w, S w → (execOp a.eval oi).run P w = .ok (.value v) w) (hS : S w) (h : wpAnyH P md ops Q S fuel (listed.setIfInBounds i true) (a.put oi.dst v) w) : wpAnyH P md ops Q S (fuel + 1) listed a w := by
 simp only [Bool.and_eq_true] at hb
 exact wpAnyH_take hi hb.1.1 hb.1.2 hb.2 hQ (.inl ⟨hw, hy⟩) hS h
theorem tk0 (i : Nat) {P : Program} {ops : Array Oper} {Q : Exit → Act → World → Prop} {md : Region.Mode} {S : World → Prop} {oi : Oper} {fuel : Nat} {listed : Array Bool} {a : Act} {w : World} (hi : ops[i]? = some oi)
  (hb : (Region.noSelect ops && Region.free md ops listed i && (Region.ready md ops listed).contains i) = true) (hQ : ∀ c a w, Q (.panic c) (a.put oi.dst undef) w → Q (.panic c) a w) (hw : Region.wanted oi (yielded ops a.tmps) = false)
  (hS : S w) (h : wpAnyH P md ops Q S fuel (listed.setIfInBounds i true) (a.put oi.dst undef) w) : wpAnyH P md ops Q S (fuel + 1) listed a w := by
 simp only [Bool.and_eq_true] at hb
 exact wpAnyH_take hi hb.1.1 hb.1.2 hb.2 hQ (.inr ⟨hw, rfl⟩) hS h
end Go.Proofs.Ytennbiajnkobnaa

namespace Go.Proofs.Ytennbiajnkobnaa
theorem tq (i : Nat) {v : Value} {P : Program} {ops : Array Oper} {Q : Exit → Act → World → Prop} {md : Region.Mode} {S : World → Prop} {oi : Oper} {fuel : Nat} {listed : Array Bool} {a a' : Act} {w : World}
  (h : wpAnyH P md ops Q S fuel (listed.setIfInBounds i true) a' w) (hi : ops[i]? = some oi := by rfl)
  (hb : (Region.noSelect ops && Region.free md ops listed i && (Region.ready md ops listed).contains i) = true := by kernel_rfl)
  (hw : Region.wanted oi (yielded ops a.tmps) = true := by rfl)
  (hy : ∀ w, S w → (execOp a.eval oi).run P w = .ok (.value v) w := by intro w hSw; (try dsimp only at hSw); go_simp; try (with_reducible rfl))
  (hQ : ∀ c a w, Q (.panic c) (a.put oi.dst v) w → Q (.panic c) a w := by exact fun _ _ _ h => h)
  (ha : a.put oi.dst v = a' := by try simp only [Act.put, List.getElem_toArray, List.getElem_cons_zero, List.getElem_cons_succ, List.setIfInBounds_toArray, List.set_cons_zero, List.set_cons_succ]; exact rfl)
  (hS : S w := by assumption) : wpAnyH P md ops Q S (fuel + 1) listed a w := by
 subst ha
 exact tk i v hi hb hQ hw hy hS h
theorem tq0 (i : Nat) {P : Program} {ops : Array Oper} {Q : Exit → Act → World → Prop} {md : Region.Mode} {S : World → Prop} {oi : Oper} {fuel : Nat} {listed : Array Bool} {a a' : Act} {w : World}
  (h : wpAnyH P md ops Q S fuel (listed.setIfInBounds i true) a' w) (hi : ops[i]? = some oi := by rfl)
  (hb : (Region.noSelect ops && Region.free md ops listed i && (Region.ready md ops listed).contains i) = true := by kernel_rfl)
  (hw : Region.wanted oi (yielded ops a.tmps) = false := by rfl)
  (hQ : ∀ c a w, Q (.panic c) (a.put oi.dst undef) w → Q (.panic c) a w := by exact fun _ _ _ h => h)
  (ha : a.put oi.dst undef = a' := by try simp only [Act.put, List.getElem_toArray, List.getElem_cons_zero, List.getElem_cons_succ, List.setIfInBounds_toArray, List.set_cons_zero, List.set_cons_succ]; exact rfl)
  (hS : S w := by assumption) : wpAnyH P md ops Q S (fuel + 1) listed a w := by
 subst ha
 exact tk0 i hi hb hQ hw hS h
theorem rd (i : Nat) {P : Program} {ops : Array Oper} {Q : Exit → Act → World → Prop} {md : Region.Mode} {S : World → Prop} {o : Oper} {fuel : Nat} {listed : Array Bool} {a : Act} {w : World}
  (h : ∀ K' : Act → World → Prop, Shut (∀ a w, S w → (S w → wpAnyH P md ops Q S fuel (listed.setIfInBounds i true) a w) → K' a w) → if Region.wanted o (yielded ops a.tmps) = true then Oper.wp P o a w K' Q else K' (a.put o.dst undef) w)
  (hr : Region.ready md ops listed = [i] := by kernel_rfl) (ho : ops[i]? = some o := by rfl) : wpAnyH P md ops Q S (fuel + 1) listed a w := wpAnyH_ready hr (by simp) (AllReadyH.cons ho h AllReadyH.nil)
end Go.Proofs.Ytennbiajnkobnaa

