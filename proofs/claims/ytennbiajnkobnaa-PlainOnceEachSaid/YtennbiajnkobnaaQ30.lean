/- Texts put together. -/
import Derived.Test.YtennbiajnkobnaaQ02
import Derived.Test.YtennbiajnkobnaaQ29
namespace Go.Proofs.Ytennbiajnkobnaa
def moreTo (c d : Cf) : Nat → Int
 | 0 => 0
 | k + 1 => moreTo c d k + ((d.links.getD k []).length : Int) - ((c.links.getD k []).length : Int)
def sentTo (c d : Cf) : Nat → Int
 | 0 => 0
 | k + 1 => sentTo c d k + d.sent.getD k 0 - c.sent.getD k 0
theorem msgsOK_len {m : Lks} {q : Int} : ∀ {a : Int}, MsgsOK a q m → a ≤ q → (m.length : Int) ≤ q - a := by
 induction m with
 | nil => intro a _ h; simp; omega
 | cons x r ih => intro a h _; have := ih h.2.2.2.2 h.2.1; have := h.1; simp only [List.length_cons]; omega
theorem linkOK_len {q : Int} {m : Lks} (h : LinkOK q m) : (m.length : Int) ≤ 500 := by have := msgsOK_len h.2.2 h.1; have := h.2.1; omega
theorem cf_at {A : Ap} {c : Cf} (h : CfOK A c) {i : Nat} (hi : i < A.l.length) : ∃ (q : Int) (m : Lks), c.sent[i]? = some q ∧ c.links[i]? = some m ∧ LinkOK q m := by
 obtain ⟨q, hq⟩ := get_of_lt (l := c.sent) (i := i) (by rw [h.2.sent]; exact hi)
 obtain ⟨m, hm⟩ := get_of_lt (l := c.links) (i := i) (by rw [h.2.links]; exact hi)
 exact ⟨q, m, hq, hm, h.2.ms i q m hq hm⟩
theorem to_bound {A : Ap} {c d : Cf} (hc : CfOK A c) (hd : CfOK A d) : ∀ k : Nat, k ≤ A.l.length → -(500 * k : Int) ≤ moreTo c d k ∧ moreTo c d k ≤ 500 * k ∧ -(500 * k : Int) ≤ sentTo c d k ∧ sentTo c d k ≤ 500 * k := by
 intro k
 induction k with
 | zero => intro _; simp [moreTo, sentTo]
 | succ k ih =>
  intro hk
  obtain ⟨q, m, hq, hm, h1⟩ := cf_at hc (i := k) (by omega)
  obtain ⟨q', m', hq', hm', h2⟩ := cf_at hd (i := k) (by omega)
  have h3 := ih (by omega)
  have := linkOK_len h1
  have := linkOK_len h2
  have := h1.1; have := h1.2.1; have := h2.1; have := h2.2.1
  unfold moreTo sentTo
  simp only [List.getD, hq, hm, hq', hm', Option.getD_some]
  omega
theorem appOf_cons (L : Lks) (n : Int) (m : Int × Int) (r : Lks) (S : List Int) (j : Nat) : appOf L n (m :: r) S j = (if j = (findL L (n, m.1)).toNat then [(at0 S (findL L (n, m.1)) + 1, m.2)] else []) ++ appOf L n r (S.set (findL L (n, m.1)).toNat (at0 S (findL L (n, m.1)) + 1)) j := rfl
theorem sentOf_at {L : Lks} {n : Int} : ∀ {ms : Lks} {S : List Int} {j : Nat}, j < S.length → (sentOf L n ms S).getD j 0 = S.getD j 0 + ((appOf L n ms S j).length : Int) := by
 intro ms
 induction ms with
 | nil => intro S j _; simp [sentOf, appOf]
 | cons m r ih =>
  intro S j hj
  show (sentOf L n r _).getD j 0 = _
  rw [ih (by simpa using hj)]
  rw [appOf_cons]
  unfold at0
  by_cases e : j = (findL L (n, m.1)).toNat
  ·subst e
   rw [if_pos rfl]
   simp only [List.getD, List.getElem?_set_self hj, Option.getD_some, List.length_append, List.length_cons, List.length_nil]
   omega
  ·rw [if_neg e]
   simp only [List.getD, List.getElem?_set_ne (fun h => e h.symm), List.nil_append]
theorem appOf_get {L : Lks} {n : Int} : ∀ {ms : Lks} {S : List Int} {j i : Nat} {y : Int × Int}, j < S.length → (appOf L n ms S j)[i]? = some y → y.1 = S.getD j 0 + 1 + (i : Int) := by
 intro ms
 induction ms with
 | nil => intro S j i y _ h; simp [appOf] at h
 | cons m r ih =>
  intro S j i y hj h
  rw [appOf_cons] at h
  by_cases e : j = (findL L (n, m.1)).toNat
  ·subst e
   rw [if_pos rfl] at h
   cases i with
   | zero => simp at h; subst h; simp [at0]
   | succ i =>
    have := ih (S := S.set (findL L (n, m.1)).toNat (at0 S (findL L (n, m.1)) + 1)) (i := i) (y := y) (by simpa using hj) (by simpa using h)
    rw [this]
    simp only [List.getD, List.getElem?_set_self hj, Option.getD_some, at0]
    omega
  ·rw [if_neg e] at h
   have := ih (S := S.set (findL L (n, m.1)).toNat (at0 S (findL L (n, m.1)) + 1)) (i := i) (y := y) (j := j) (by simpa using hj) (by simpa using h)
   rw [this]
   simp only [List.getD, List.getElem?_set_ne (fun h => e h.symm)]
theorem pick_to {A : Ap} {c : Cf} (h : CfOK A c) (s : Sp) : ∀ k : Nat, k ≤ A.l.length → moreTo c (donePick A c s) k = sentTo c (donePick A c s) k ∧ 0 ≤ sentTo c (donePick A c s) k := by
 intro k
 induction k with
 | zero => intro _; simp [moreTo, sentTo]
 | succ k ih =>
  intro hk
  have h3 := ih (by omega)
  obtain ⟨q, m, hq, hm, h1⟩ := cf_at h (i := k) (by omega)
  have e := sentOf_at (L := A.l) (n := s.node) (ms := (pickAt (stC A c s.node) s.k).sends) (S := c.sent) (j := k) (by rw [h.2.sent]; omega)
  unfold moreTo sentTo
  have e1 : (donePick A c s).sent.getD k 0 = c.sent.getD k 0 + ((appOf A.l s.node (pickAt (stC A c s.node) s.k).sends c.sent k).length : Int) := by rw [donePick_eq]; exact e
  have e2 : ((donePick A c s).links.getD k []).length = m.length + (appOf A.l s.node (pickAt (stC A c s.node) s.k).sends c.sent k).length := by
   rw [donePick_eq]
   simp [List.getD, List.getElem?_mapIdx, hm]
  rw [e1, e2]
  simp only [List.getD, hm, Option.getD_some]
  omega
theorem del_to {A : Ap} {c : Cf} {s : Sp} {l : Nat} (he : errDel A c s = 0) (e : s.link = (l : Int)) : ∀ k : Nat, k ≤ c.links.length → moreTo c (doneDel A c s) k = (if l < k then -1 else 0) ∧ sentTo c (doneDel A c s) k = 0 := by
 obtain ⟨l', i, m, x, e', hm, ha, hp, hx, _, _⟩ := errDel_zero he
 obtain rfl : l' = l := by omega
 have hi := lt_of_get hx
 intro k
 induction k with
 | zero => intro _; simp [moreTo, sentTo]
 | succ k ih =>
  intro hk
  have h3 := ih (by omega)
  obtain ⟨m2, hm2⟩ := get_of_lt (l := c.links) (i := k) (by omega)
  unfold moreTo sentTo
  have e1 : (doneDel A c s).sent = c.sent := rfl
  have e2 : ((doneDel A c s).links.getD k []) = if k = l' then m.eraseIdx i else m2 := by
   unfold doneDel
   rw [ha, hp]
   simp only [Option.getD_some, e', Int.toNat_natCast, List.getD]
   rw [List.getElem?_set]
   by_cases e3 : l' = k
   ·rw [if_pos e3, if_pos e3.symm, if_pos (by omega)]; rfl
   ·rw [if_neg e3, if_neg (fun h => e3 h.symm), hm2]; rfl
  rw [e1, e2, h3.1, h3.2]
  simp only [List.getD, hm2, Option.getD_some]
  by_cases e3 : k = l'
  ·subst e3
   rw [hm] at hm2
   cases hm2
   rw [if_pos rfl, if_neg (by omega), if_pos (by omega), List.length_eraseIdx_of_lt hi]
   omega
  ·rw [if_neg e3]
   by_cases h4 : l' < k
   ·rw [if_pos h4, if_pos (by omega)]; omega
   ·rw [if_neg h4, if_neg (by omega)]; omega
theorem can_zero {A : Ap} {c : Cf} {s : Sp} (h : s ∈ canOf A c) : errOf A c s = 0 := by
 unfold canOf at h
 simpa using (List.mem_filter.1 h).2
/-- What was delivered of each link. -/
structure GotOK (ff : Bool) (S : Int) (m : Lks) (g : List Int) : Prop where
 many : (g.length : Int) + m.length = S
 low : ∀ x ∈ g, 1 ≤ x ∧ x ≤ S
 out : ∀ y ∈ m, y.1 ∉ g
 row : ff = true → ∀ (i : Nat) (y : Int × Int), m[i]? = some y → y.1 = (g.length : Int) + 1 + i
def Gots (A : Ap) (c : Cf) (G : List (List Int)) : Prop := G.length = A.l.length ∧ ∀ (k : Nat) (q : Int) (m : Lks) (g : List Int), c.sent[k]? = some q → c.links[k]? = some m → G[k]? = some g → GotOK A.ff q m g
theorem gots_start (A : Ap) : Gots A (startOf A) (A.l.map fun _ => []) := by
 refine ⟨by simp, fun k q m g hq hm hg => ?_⟩
 simp only [startOf, List.getElem?_map, Option.map_eq_some_iff] at hq hm hg
 obtain ⟨_, _, rfl⟩ := hq
 obtain ⟨_, _, rfl⟩ := hm
 obtain ⟨_, _, rfl⟩ := hg
 exact ⟨by simp, by simp, by simp, by simp⟩
theorem gots_pick {A : Ap} {c : Cf} {G : List (List Int)} (h : CfOK A c) (hG : Gots A c G) (s : Sp) : Gots A (donePick A c s) G := by
 refine ⟨hG.1, fun k q' m' g hq hm hg => ?_⟩
 have hk : k < A.l.length := by rw [← hG.1]; exact lt_of_get hg
 obtain ⟨q, m, hq0, hm0, h1⟩ := cf_at h hk
 have g0 := hG.2 k q m g hq0 hm0 hg
 have hkS : k < c.sent.length := by rw [h.2.sent]; exact hk
 have e := sentOf_at (L := A.l) (n := s.node) (ms := (pickAt (stC A c s.node) s.k).sends) (S := c.sent) (j := k) hkS
 have eg := fun i y => appOf_get (L := A.l) (n := s.node) (ms := (pickAt (stC A c s.node) s.k).sends) (S := c.sent) (j := k) (i := i) (y := y) hkS
 rw [donePick_eq] at hq hm
 simp only [List.getElem?_mapIdx, hm0, Option.map_some, Option.some.injEq] at hm hq
 subst hm
 have hS : c.sent.getD k 0 = q := by simp [List.getD, hq0]
 rw [hS] at e
 rw [hS] at eg
 simp only [List.getD, hq, Option.getD_some] at e
 subst e
 refine ⟨by have := g0.many; simp only [List.length_append]; omega, fun x hx => ?_, fun y hy => ?_, fun hf i y hy => ?_⟩
 ·have := g0.low x hx; omega
 ·rcases List.mem_append.1 hy with hy | hy
  ·exact g0.out y hy
  ·obtain ⟨i, hi⟩ := List.mem_iff_getElem?.1 hy
   have e2 := eg i y hi
   intro hx
   have := g0.low _ hx
   omega
 ·rw [List.getElem?_append] at hy
  split at hy
  ·exact g0.row hf i y hy
  ·have e2 := eg _ y hy
   have := g0.many
   omega
theorem gots_del {A : Ap} {c : Cf} {G : List (List Int)} (h : CfOK A c) (hG : Gots A c G) {s : Sp} (he : errDel A c s = 0) :
  ∃ (l : Nat) (q : Int) (g : List Int), s.link = (l : Int) ∧ l < A.l.length ∧ c.sent[l]? = some q ∧ G[l]? = some g ∧ 1 ≤ s.seq ∧ s.seq ≤ q ∧ s.seq ∉ g ∧ (A.ff = true → s.seq = (g.length : Int) + 1) ∧ Gots A (doneDel A c s) (G.set l (g ++ [s.seq])) := by
 obtain ⟨l, i, m, x, e, hm, ha, hp, hx, hxe, hff⟩ := errDel_zero he
 have hl : l < A.l.length := by have := lt_of_get hm; have := h.2.links; omega
 obtain ⟨q, m2, hq0, hm0, h1⟩ := cf_at h hl
 rw [hm] at hm0
 cases hm0
 obtain ⟨g, hg⟩ := get_of_lt (l := G) (i := l) (by rw [hG.1]; exact hl)
 have g0 := hG.2 l q m g hq0 hm hg
 have hmx := msgsOK_get h1.2.2 hx
 have hout := g0.out x (List.mem_of_getElem? hx)
 have hi := lt_of_get hx
 refine ⟨l, q, g, e, hl, hq0, hg, by omega, by omega, by rw [← hxe]; exact hout, fun hf => ?_, by simpa using hG.1, fun k q' m' g' hq hm' hg' => ?_⟩
 ·have := g0.row hf i x hx
  have := hff hf
  omega
 ·have hq : c.sent[k]? = some q' := hq
  unfold doneDel at hm'
  rw [ha, hp] at hm'
  simp only [Option.getD_some, e, Int.toNat_natCast] at hm'
  rcases set_cases hg' with ⟨rfl, rfl, _⟩ | ⟨hne, hg'⟩
  ·rw [List.getElem?_set_self (by rw [h.2.links]; exact hl)] at hm'
   cases hm'
   rw [hq0] at hq
   cases hq
   refine ⟨?_, fun y hy => ?_, fun y hy => ?_, fun hf j y hy => ?_⟩
   ·have := g0.many; rw [List.length_eraseIdx_of_lt hi]; simp only [List.length_append, List.length_cons, List.length_nil]; omega
   ·rcases List.mem_append.1 hy with hy | hy
    ·exact g0.low y hy
    ·simp at hy; subst hy; omega
   ·have hy2 := List.mem_of_mem_eraseIdx hy
    have hne : y.1 ≠ s.seq := by
     obtain ⟨j, hj⟩ := List.mem_iff_getElem?.1 hy
     rw [List.getElem?_eraseIdx] at hj
     split at hj
     ·next hlt => have := msgsOK_lt h1.2.2 hlt hj hx; omega
     ·next hlt => have := msgsOK_lt h1.2.2 (i := i) (j := j + 1) (by omega) hx hj; omega
    intro hc
    rcases List.mem_append.1 hc with hc | hc
    ·exact g0.out y hy2 hc
    ·simp at hc; exact hne hc
   ·have hi0 := hff hf
    subst hi0
    rw [List.getElem?_eraseIdx, if_neg (by omega)] at hy
    have := g0.row hf (j + 1) y hy
    simp only [List.length_append, List.length_cons, List.length_nil]
    omega
  ·rw [List.getElem?_set_ne (fun e => hne e.symm)] at hm'
   exact hG.2 k q' m' g' hq hm' hg'
end Go.Proofs.Ytennbiajnkobnaa

set_option linter.unusedSimpArgs false
set_option linter.unusedVariables false
namespace Go.Proofs.Ytennbiajnkobnaa
open Go.RowKit Go.PlainAid
theorem rise_of {m : Lks} {a q : Int} (h : MsgsOK a q m) : Rise m := fun _ _ _ _ hij hx hy => msgsOK_lt h hij hx hy
theorem found_place {m : Lks} {q : Int} {i : Nat} {b : Bool} (hr : Rise m) (h1 : ∀ (k : Nat) (x : Int × Int), k < i → m[k]? = some x → x.1 < q) (h2 : ∀ (k : Nat) (x : Int × Int), i ≤ k → m[k]? = some x → q ≤ x.1) (h3 : b = true ↔ ∃ x, m[i]? = some x ∧ x.1 = q) : placeL m q = if b then some i else none := by
 cases b with
 | true =>
  obtain ⟨x, hx, he⟩ := h3.1 rfl
  exact placeL_of hx he (fun j y hj hy => by have := h1 j y hj hy; omega)
 | false =>
  show placeL m q = none
  rw [placeL_none]
  intro k x hx he
  rcases Nat.lt_trichotomy k i with hlt | heq | hgt
  ·have := h1 k x hlt hx; omega
  ·subst heq
   have := h3.2 ⟨x, hx, he⟩
   cases this
  ·obtain ⟨y, hy⟩ := some_of_lt (l := m) (i := i) (by have := lt_of_some hx; omega)
   have a1 := h2 i y (Nat.le_refl _) hy
   have a2 := hr i k y x hgt hy hx
   omega
/-- Where a message stands, as placeOf tells it. -/
def PlaceIs (m : Lks) (q : Int) (w : World) (e : Ending) (w' : World) : Prop := ∃ (i : Nat) (b : Bool), e = .returned (.tuple #[.int .i64 i, .bool b]) ∧ i ≤ m.length ∧ placeL m q = (if b then some i else none) ∧ Below w.heap.size w w'
theorem place_in (m : Lks) (q : Int) (ml : Nat) (a : Option Addr) (cap : Nat) (w : World) (h : Has w (.slice a ml cap) (dLinks m)) (hr : Rise m) (hn : ml = m.length ∧ ml ≤ 1000000) :
  Calls Try.prog 79 #[.slice a ml cap, .int .i64 q] w fun e w' => PlaceIs m q w e w' := by
 obtain ⟨hl, hn⟩ := hn
 subst hl
 refine (place_at m q a cap w h hr hn).mono ?_
 rintro e w' ⟨i, b, rfl, h1, h2, h3, h4, h5⟩
 exact ⟨i, b, rfl, h1, found_place hr h2 h3 h4, h5⟩
set_option maxHeartbeats 8000000 in
set_option maxRecDepth 100000 in
theorem mayDeliver_at (A : Ap) (c : Cf) (hOK : CfOK A c) (s0 s1 s2 s3 s4 : Int) (b mb : Nat) (vG vT v1 v2 v3 : Value) (w : World) (h : SysR A c b mb vG vT v1 v2 v3 w) :
  Calls Try.prog 54 #[.pointer (some ⟨b, 0, none⟩), .agg #[.int .i64 s0, .int .i64 s1, .int .i64 s2, .int .i64 s3, .int .i64 s4]] w fun e w' => MayIs (errDel A c ⟨s0, s1, s2, s3, s4⟩) w e w' := by
 obtain ⟨ga, ta, a1, a2, a3, gc, tc, e1, e2, e3, rfl, rfl, rfl, rfl, rfl⟩ := slices_of h
 obtain ⟨n2, hn2⟩ : ∃ n, n = c.links.length := ⟨_, rfl⟩
 rw [← hn2] at h
 obtain ⟨ep, hep⟩ : ∃ e, e = errDel A c ⟨s0, s1, s2, s3, s4⟩ := ⟨_, rfl⟩
 obtain ⟨ff, hff⟩ : ∃ f, f = A.ff := ⟨_, rfl⟩
 rw [← hep]
 have EP := Lib.hid hep
 have FF := Lib.hid hff
 have OK := Lib.hid hOK
 have SR := Lib.hid h
 have N2 := Lib.hid hn2
 have hbl : b < w.heap.size := World.block_lt_of_cell? w _ (h.sys.box 2 _ rfl)
 clear hOK h hn2 hep hff
 go_enter Try.func54, Try.ntmps54
 try simp only [List.append_eq, List.cons_append, List.nil_append]
 go_upto_region 1 with fail
 obtain ⟨y0, hy0⟩ : ∃ y, y = w.alloc (.cells #[.int .i64 s0, .int .i64 s1, .int .i64 s2, .int .i64 s3, .int .i64 s4] 50) := ⟨_, rfl⟩
 have hb0 : Below w.heap.size w y0 := by rw [hy0]; exact below_new _ _
 have hx0 : BoxAt w.heap.size [.int .i64 s0, .int .i64 s1, .int .i64 s2, .int .i64 s3, .int .i64 s4] y0 := by rw [hy0]; exact boxAt_new w [.int .i64 s0, .int .i64 s1, .int .i64 s2, .int .i64 s3, .int .i64 s4] _
 have B0 := Lib.hid hb0
 have X0 := Lib.hid hx0
 replace SR := Lib.hid (SR.out.below hb0)
 rw [← hy0]
 clear hy0 hb0 hx0
 have p3 := X0.out 3 _ rfl
 have p5 := SR.out.sys.box 5 _ rfl
 by_cases g1 : s3 < 0
 ·have g1' : decide (s3 < 0) = true := by simpa using g1
  have hr : ep = 1 := by rw [EP.out]; unfold errDel; rw [if_pos (.inl g1)]
  subst hr
  go_quiet (fail)
  go_wp2_with fail
  go_ret
  exact ⟨rfl, below_step' B0.out (below_drewN (Below.refl _ y0) nq)⟩
 ·have g1' : decide (s3 < 0) = false := by simpa using g1
  by_cases g2 : (n2 : Int) ≤ s3
  ·have g2' : decide ((n2 : Int) ≤ s3) = true := by simpa using g2
   have hr : ep = 1 := by rw [EP.out]; unfold errDel; rw [if_pos (.inr (by rw [← N2.out]; exact g2))]
   subst hr
   go_quiet (fail)
   go_wp2_with fail
   go_ret
   exact ⟨rfl, below_step' B0.out (below_drewN (Below.refl _ y0) nq)⟩
  ·have g2' : decide ((n2 : Int) ≤ s3) = false := by simpa using g2
   obtain ⟨li, hli⟩ := Int.eq_ofNat_of_zero_le (show 0 ≤ s3 by omega)
   subst hli
   have hln : li < n2 := by omega
   have hln' : (li : Int) < n2 := by omega
   obtain ⟨m, hm⟩ := some_of_lt (l := c.links) (i := li) (by rw [← N2.out]; exact hln)
   have hE : ep = if noDel A m s4 then 3 else 0 := by
    rw [EP.out]; unfold errDel
    rw [if_neg (by show ¬ ((li : Int) < 0 ∨ (c.links.length : Int) ≤ li); rw [← N2.out]; omega)]
    show (if noDel A (atL c.links (li : Int)) s4 then (3 : Int) else 0) = _
    rw [atL_of hm]
   have EE := Lib.hid hE
   obtain ⟨q9, hq9⟩ := some_of_lt (l := c.sent) (i := li) (by rw [OK.out.2.sent, ← OK.out.2.links, ← N2.out]; exact hln)
   have hms := OK.out.2.ms li q9 m hq9 hm
   have hml1 := linkOK_len hms
   obtain ⟨lb, lo, ma, mc, e, hlb, e9, hcm, hHm⟩ := lls_at SR.out.l hm
   subst e
   clear e9
   obtain ⟨ml, hml⟩ : ∃ n, n = m.length := ⟨_, rfl⟩
   rw [← hml] at hcm hHm
   have HMS := Lib.hid hHm
   have HML : Hid (ml = m.length ∧ ml ≤ 1000000) := Lib.hid ⟨hml, by omega⟩
   have RI := Lib.hid (rise_of hms.2.2)
   have HC := Lib.hid hcm
   clear hm hE hq9 hms hml1 hml hHm hcm
   go_quiet (fail)
   obtain ⟨y1, hy1⟩ : ∃ y, y = y0.drewN nq := ⟨_, rfl⟩
   have BY := Lib.hid (show Below y0.heap.size y0 y1 from by rw [hy1]; exact below_drewN (Below.refl _ y0) nq)
   rw [← hy1]
   clear hy1 p3 p5
   have Q3 : Hid (∀ w', Below y0.heap.size y0 w' → w'.cell? ⟨b, 5, none⟩ = some (.slice (some ⟨lb, lo, none⟩) n2 e2) ∧ w'.cell? ⟨w.heap.size, 3, none⟩ = some (.int .i64 li) ∧ w'.cell? ⟨w.heap.size, 4, none⟩ = some (.int .i64 s4) ∧ w'.cell? ⟨lb, lo + li, none⟩ = some (.slice ma ml mc)) := Lib.hid (fun w' hb => ⟨SR.out.sys.box.below hb 5 _ rfl, X0.out.below hb 3 _ rfl, X0.out.below hb 4 _ rfl, (hb.cell (by exact hlb)).trans HC.out⟩)
   go_wp2_with fail
   refine wp_region_held_drew (S := (fun w' => w'.cell? ⟨b, 5, none⟩ = some (.slice (some ⟨lb, lo, none⟩) n2 e2) ∧ w'.cell? ⟨w.heap.size, 3, none⟩ = some (.int .i64 li) ∧ w'.cell? ⟨w.heap.size, 4, none⟩ = some (.int .i64 s4) ∧ w'.cell? ⟨lb, lo + li, none⟩ = some (.slice ma ml mc))) (by kernel_rfl) ?_ (fun hHeld => ?_)
   ·exact Q3.out _ (below_step' BY.out (below_drewN (Below.refl _ y1) 1))
   refine tq 0 ?_
   refine tq 1 ?_
   refine tq 2 ?_
   refine tq 3 ?_
   refine tq 4 ?_
   refine tq 5 ?_
   refine tq 6 ?_
   refine tq 7 ?_
   refine tq 8 ?_
   refine tq 9 ?_
   refine tq 10 ?_
   refine rd 11 fun K hK => ?_
   go_simp
   refine (place_in m s4 ml ma mc _ (HMS.out.later (below_step' BY.out (below_drewN (Below.refl _ y1) 1))) RI.out HML.out).mono ?_
   rintro e w3 ⟨i, fb, rfl, hi, hfb, hb⟩
   have B3 := Lib.hid (below_step' BY.out (below_step' (below_drewN (Below.refl _ y1) 1) hb))
   have FI := Lib.hid hi
   have FB := Lib.hid hfb
   clear hb hi hfb
   go_wp2_with fail
   refine hK.out _ _ ?_ (fun hHeld => ?_)
   ·exact Q3.out _ B3.out
   clear hK K
   try simp only [Act.put, List.getElem_toArray, List.getElem_cons_zero, List.getElem_cons_succ, List.setIfInBounds_toArray, List.set_cons_zero, List.set_cons_succ]
   refine tq 12 ?_
   refine tq 13 ?_
   refine tq 14 ?_
   refine tq 15 ?_
   refine tq 16 ?_
   refine wpAnyH_done (by kernel_rfl) ?_ _
   have k3 : w3.cell? ⟨b, 3, none⟩ = some (.bool ff) := by rw [FF.out]; exact SR.out.sys.box.below B3.out 3 _ rfl
   cases fb with
   | false =>
    have hr : ep = 3 := by rw [EE.out]; unfold noDel; rw [FB.out]; rfl
    subst hr
    go_wp2_with fail
    go_ret
    exact ⟨rfl, below_step' B0.out B3.out⟩
   | true =>
    have hE2 : ep = if ff && decide (0 < i) then 3 else 0 := by rw [EE.out]; unfold noDel; rw [FB.out, FF.out]; rfl
    cases ff with
    | false =>
     have hr : ep = 0 := by rw [hE2]; rfl
     subst hr
     clear hE2
     go_wp2_with fail
     go_ret
     exact ⟨rfl, below_step' B0.out B3.out⟩
    | true =>
     by_cases h0 : 0 < i
     ·have h0' : decide ((0 : Int) < i) = true := by simpa using h0
      have hr : ep = 3 := by rw [hE2]; simp [h0]
      subst hr
      clear hE2
      go_wp2_with fail
      go_ret
      exact ⟨rfl, below_step' B0.out B3.out⟩
     ·have h0' : decide ((0 : Int) < i) = false := by simp; omega
      have hr : ep = 0 := by rw [hE2]; simp [h0]
      subst hr
      clear hE2
      go_wp2_with fail
      go_ret
      exact ⟨rfl, below_step' B0.out B3.out⟩
end Go.Proofs.Ytennbiajnkobnaa

