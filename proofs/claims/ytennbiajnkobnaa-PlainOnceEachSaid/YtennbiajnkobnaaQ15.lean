/- Texts put together. -/
import Derived.Test.YtennbiajnkobnaaQ02
import Derived.Test.YtennbiajnkobnaaQ14
import Derived.BigRegion
namespace Go.Proofs.Ytennbiajnkobnaa
open Go.RowKit Go.PlainAid
def cmpV (x y : Int) : Int := if x < y then -1 else if y < x then 1 else 0
theorem isnanI (x : Int) (w : World) : Calls Try.prog 95 #[.int .i64 x] w fun e w' => e = .returned (.bool false) ∧ w = w' := by
 go_enter Try.func95, Try.ntmps95
 go_wp2
 go_ret
 exact ⟨by simp, rfl⟩
theorem compareI (x y : Int) (w : World) : Calls Try.prog 91 #[.int .i64 x, .int .i64 y] w fun e w' => e = .returned (.int .i64 (cmpV x y)) ∧ w = w' := by
 unfold cmpV
 by_cases h1 : x < y
 ·rw [if_pos h1]
  go_enter Try.func91, Try.ntmps91
  go_wp2_with fail
  refine (isnanI _ _).mono ?_
  rintro e w' ⟨rfl, rfl⟩
  go_wp2_with fail
  refine (isnanI _ _).mono ?_
  rintro e w' ⟨rfl, rfl⟩
  go_wp2_with fail
  go_ret
  exact ⟨rfl, rfl⟩
 ·rw [if_neg h1]
  by_cases h2 : y < x
  ·rw [if_pos h2]
   go_enter Try.func91, Try.ntmps91
   go_wp2_with fail
   refine (isnanI _ _).mono ?_
   rintro e w' ⟨rfl, rfl⟩
   go_wp2_with fail
   refine (isnanI _ _).mono ?_
   rintro e w' ⟨rfl, rfl⟩
   go_wp2_with fail
   go_ret
   exact ⟨rfl, rfl⟩
  ·rw [if_neg h2]
   go_enter Try.func91, Try.ntmps91
   go_wp2_with fail
   refine (isnanI _ _).mono ?_
   rintro e w' ⟨rfl, rfl⟩
   go_wp2_with fail
   refine (isnanI _ _).mono ?_
   rintro e w' ⟨rfl, rfl⟩
   go_wp2_with fail
   go_ret
   exact ⟨rfl, rfl⟩
def fnPlace : Value := .func (.func 90) #[] #[]
theorem place1_at (x y q : Int) (w : World) : Calls Try.prog 90 #[.agg #[.int .i64 x, .int .i64 y], .int .i64 q] w fun e w' => e = .returned (.int .i64 (cmpV x q)) ∧ Below w.heap.size w w' := by
 go_enter Try.func90, Try.ntmps90
 go_wp2_with fail
 refine (compareI x q _).mono ?_
 rintro e w' ⟨rfl, rfl⟩
 go_wp2_with fail
 go_ret
 exact ⟨rfl, by go_grown⟩
theorem msg_at {w : World} {sa : Option Addr} {sl sc i : Nat} {l : Lks} {p : Int × Int} (h : Has w (.slice sa sl sc) (dLinks l)) (hx : l[i]? = some p) : ∃ b o, sa = some ⟨b, o, none⟩ ∧ w.cell? ⟨b, o + i * 2, none⟩ = some (.int .i64 p.1) ∧ w.cell? ⟨b, o + i * 2 + 1, none⟩ = some (.int .i64 p.2) := by
 obtain ⟨b, off, cap, e, _, _, cs, hcs, hc⟩ := cells_of (f := fun p : Int × Int => [dI p.1, dI p.2]) h hx
 obtain ⟨c, r, rfl, h1, hcs⟩ := hcs.cons
 obtain ⟨c2, r, rfl, h2, hcs⟩ := HasL.cons hcs
 obtain rfl := Holds.val h1
 obtain rfl := Holds.val h2
 simp only [Value.slice.injEq] at e
 exact ⟨b, off, e.1, hc 0 _ rfl, hc 1 _ rfl⟩
/-- Numbers that rise. -/
def Rise (m : Lks) : Prop := ∀ (i j : Nat) (x y : Int × Int), i < j → m[i]? = some x → m[j]? = some y → x.1 < y.1
/-- What a search tells. -/
def Found (m : Lks) (q : Int) (w : World) (e : Ending) (w' : World) : Prop := ∃ (i : Nat) (b : Bool), e = .returned (.tuple #[.int .i64 i, .bool b]) ∧ i ≤ m.length ∧ (∀ (k : Nat) (x : Int × Int), k < i → m[k]? = some x → x.1 < q) ∧ (∀ (k : Nat) (x : Int × Int), i ≤ k → m[k]? = some x → q ≤ x.1) ∧ (b = true ↔ ∃ x, m[i]? = some x ∧ x.1 = q) ∧ Below w.heap.size w w'
set_option maxHeartbeats 8000000 in
set_option maxRecDepth 100000 in
theorem search_at (m : Lks) (q : Int) (a : Option Addr) (cap : Nat) (w : World) (h : Has w (.slice a m.length cap) (dLinks m)) (hr : Rise m) (hn : m.length ≤ 1000000) :
  Calls Try.prog 89 #[.slice a m.length cap, .int .i64 q, fnPlace] w fun e w' => Found m q w e w' := by
 have H := Lib.hid h
 have HR := Lib.hid hr
 obtain ⟨l, hl⟩ : ∃ l, l = m.length := ⟨_, rfl⟩
 rw [← hl] at h hn ⊢
 have HL := Lib.hid hl
 clear h hr hl
 unfold fnPlace
 go_enter Try.func89, Try.ntmps89
 try simp only [List.append_eq, List.cons_append, List.nil_append]
 go_wp2_with fail
 go_loopw [9, 10] (fun i j wr => ∃ c d : Nat, i = .int .i64 c ∧ j = .int .i64 d ∧ c ≤ d ∧ d ≤ l ∧ (∀ (k : Nat) (x : Int × Int), k < c → m[k]? = some x → x.1 < q) ∧ (∀ (k : Nat) (x : Int × Int), d ≤ k → m[k]? = some x → q ≤ x.1) ∧ Below w.heap.size w wr) (fun i j _ => (intOf j).toNat - (intOf i).toNat)
 case atStart => exact ⟨0, l, rfl, rfl, by omega, by omega, fun k x hk => by omega, fun k x hk hx => by have := lt_of_some hx; have := HL.out; omega, Below.refl _ _⟩
 case round =>
  obtain ⟨c, d, rfl, rfl, hcd, hdl, hlo, hhi, hb⟩ := hrel
  have LO := Lib.hid hlo
  have HI := Lib.hid hhi
  have BW := Lib.hid hb
  clear hlo hhi hb
  by_cases hlt : c < d
  ·have hlt' : (c : Int) < d := by omega
   obtain ⟨h, hh⟩ : ∃ h : Nat, ((c : Int) + d) / 2 = (h : Int) := ⟨(c + d) / 2, by omega⟩
   have hc1 : c ≤ h := by omega
   have hc2 : h < d := by omega
   have hc3 : h < l := by omega
   obtain ⟨⟨x, y⟩, hx⟩ := some_of_lt (l := m) (i := h) (by have := HL.out; omega)
   obtain ⟨b, o, e, x1, x2⟩ := msg_at (H.out.later BW.out) hx
   subst e
   have HX := Lib.hid hx
   clear hx
   go_wp2_with fail
   refine (place1_at x y q _).mono ?_
   rintro e w2 ⟨rfl, hb2⟩
   have B2 := Lib.hid hb2
   clear hb2 x1 x2
   by_cases hxq : x < q
   ·have hv : cmpV x q = -1 := by unfold cmpV; rw [if_pos hxq]
    rw [hv]
    go_wp2_with fail
    go_roundw
    case rel => exact ⟨h + 1, d, by go_num, rfl, by omega, hdl, fun k z hk hz => by
     by_cases e : k = h
     ·subst e; have := HX.out; rw [hz] at this; cases this; exact hxq
     ·have := HR.out k h z (x, y) (by omega) hz HX.out; simp only at this; omega, HI.out, below_step BW.out.size BW.out B2.out⟩
    case measure => simp [intOf]; omega
   ·have hv : (cmpV x q < 0) = False := by unfold cmpV; rw [if_neg hxq]; split <;> simp
    have hv' : decide (cmpV x q < 0) = false := by simp [hv]
    go_wp2_with fail
    go_roundw
    case rel => exact ⟨c, h, rfl, rfl, hc1, by omega, LO.out, fun k z hk hz => by
     by_cases e : k = h
     ·subst e; have := HX.out; rw [hz] at this; cases this; simp only; omega
     ·have := HR.out h k (x, y) z (by omega) HX.out hz; simp only at this; omega, below_step BW.out.size BW.out B2.out⟩
    case measure => simp [intOf]; omega
  ·have hlt' : ¬ (c : Int) < d := by omega
   obtain rfl : c = d := by omega
   by_cases hc3 : c < l
   ·have hc3' : (c : Int) < l := by omega
    obtain ⟨⟨x, y⟩, hx⟩ := some_of_lt (l := m) (i := c) (by have := HL.out; omega)
    obtain ⟨b, o, e, x1, x2⟩ := msg_at (H.out.later BW.out) hx
    subst e
    have HX := Lib.hid hx
    clear hx
    go_wp2_with fail
    refine (place1_at x y q _).mono ?_
    rintro e w2 ⟨rfl, hb2⟩
    have B2 := Lib.hid hb2
    clear hb2 x1 x2
    by_cases hxq : x = q
    ·have hv : cmpV x q = 0 := by unfold cmpV; rw [if_neg (by omega), if_neg (by omega)]
     rw [hv]
     go_wp2_with fail
     go_ret2
     exact ⟨c, true, rfl, by have := HL.out; omega, LO.out, HI.out, ⟨fun _ => ⟨_, HX.out, hxq⟩, fun _ => rfl⟩, below_step BW.out.size BW.out B2.out⟩
    ·have hv : (cmpV x q == 0) = false := by
      unfold cmpV
      by_cases h1 : x < q
      ·rw [if_pos h1]; rfl
      ·rw [if_neg h1, if_pos (by omega)]; rfl
     go_wp2_with fail
     go_ret2
     exact ⟨c, false, rfl, by have := HL.out; omega, LO.out, HI.out, ⟨fun h => (by cases h), fun ⟨z, hz, e⟩ => by rw [HX.out] at hz; cases hz; exact absurd e hxq⟩, below_step BW.out.size BW.out B2.out⟩
   ·have hc3' : ¬ (c : Int) < l := by omega
    go_wp2_with fail
    go_ret2
    exact ⟨c, false, rfl, by have := HL.out; omega, LO.out, HI.out, ⟨fun h => (by cases h), fun ⟨z, hz, _⟩ => by have := lt_of_some hz; have := HL.out; omega⟩, BW.out⟩
theorem place_at (m : Lks) (q : Int) (a : Option Addr) (cap : Nat) (w : World) (h : Has w (.slice a m.length cap) (dLinks m)) (hr : Rise m) (hn : m.length ≤ 1000000) :
  Calls Try.prog 79 #[.slice a m.length cap, .int .i64 q] w fun e w' => Found m q w e w' := by
 have H := Lib.hid h
 have HR := Lib.hid hr
 have HN := Lib.hid hn
 clear h hr hn
 go_enter Try.func79, Try.ntmps79
 go_wp2_with fail
 refine (search_at m q _ _ _ H.out HR.out HN.out).mono ?_
 rintro e w' ⟨i, b, rfl, h1, h2, h3, h4, h5⟩
 have HH := Lib.hid (And.intro h1 (And.intro h2 (And.intro h3 (And.intro h4 h5))))
 clear h1 h2 h3 h4 h5
 go_wp2_with fail
 go_ret2
 exact ⟨i, b, rfl, HH.out⟩
end Go.Proofs.Ytennbiajnkobnaa

set_option linter.unusedSimpArgs false
namespace Go.Proofs.Ytennbiajnkobnaa
open Go.RowKit Go.PlainAid
theorem links_atoms (m : Lks) : (m.map fun p => [dI p.1, dI p.2]).flatten = (flat m).map D.atom := by
 induction m with
 | nil => rfl
 | cons p r ih =>
  rw [List.map_cons, List.flatten_cons, ih]
  simp [flat, dI]
theorem holdsL_atoms {S : Prop} {P : Nat → Prop} {w : World} : ∀ {cs vs : List Value}, HoldsL S P w cs (vs.map D.atom) → cs = vs := by
 intro cs vs h
 obtain ⟨hl, fp, _, _, h4⟩ := h
 rw [List.length_map] at hl
 apply List.ext_getElem?
 intro j
 by_cases hj : j < vs.length
 ·obtain ⟨c, hc⟩ := some_of_lt (l := cs) (i := j) (by omega)
  obtain ⟨v, hv⟩ := some_of_lt hj
  have := h4 j c (.atom v) hc (by rw [List.getElem?_map, hv]; rfl)
  rw [hc, hv, this.val]
 ·rw [List.getElem?_eq_none (by omega), List.getElem?_eq_none (by omega)]
theorem atoms_holdsL {w : World} {vs : List Value} (h : ∀ v ∈ vs, v.oneCell' = true) : HoldsL True (fun _ => False) w vs (vs.map D.atom) := by
 refine ⟨by simp, fun _ _ => False, fun _ _ h => h, fun _ _ _ _ h => h.elim, fun j c d hc hd => ?_⟩
 rw [List.getElem?_map, hc] at hd
 cases hd
 exact .atom _ _ _ (h c (List.mem_of_getElem? hc))
theorem row_open {P : Nat → Prop} {w : World} {a : Option Addr} {k cap : Nat} {m : Lks} (h : Holds True P w (.slice a k cap) (dLinks m)) (hm : 0 < m.length) :
  ∃ (g : Nat) (cur : Array Value) (e : TypeId), a = some ⟨g, 0, none⟩ ∧ P g ∧ g < w.heap.size ∧ w.heap[g]? = some (.cells cur e (0, 0)) ∧ k = m.length ∧ k ≤ cap ∧ cap ≤ maxLen ∧ cur.size = cap * 2 ∧ cur.toList.take (k * 2) = flat m := by
 obtain ⟨h1, _, h3⟩ := h.open (by decide)
 rw [List.length_map] at h1
 rcases h3 with ⟨_, e⟩ | ⟨g, cur, e, cells, Q, ha, hP, hg, hh, hk, hc, hs, ht, hL, _, _⟩
 ·have := congrArg List.length e; simp at this; subst this; simp at hm
 ·rw [links_atoms] at hL
  exact ⟨g, cur, e, ha, hP, hg, hh, h1, hk, hc, hs, ht.trans (holdsL_atoms hL)⟩
theorem flat_one (m : Lks) : ∀ v ∈ flat m, v.oneCell' = true := by
 intro v h
 unfold flat at h
 obtain ⟨p, _, h⟩ := List.mem_flatMap.1 h
 simp at h
 rcases h with rfl | rfl <;> rfl
theorem row_mk {P : Nat → Prop} {w : World} {g cap k : Nat} {m : Lks} {cur : Array Value} {e : TypeId} (hh : w.heap[g]? = some (.cells cur e (0, 0))) (hP : P g) (hk : k = m.length) (hc : k ≤ cap) (h63 : cap ≤ maxLen) (hs : cur.size = cap * 2) (ht : cur.toList.take (k * 2) = flat m) : Holds True P w (.slice (some ⟨g, 0, none⟩) k cap) (dLinks m) :=
 holds_mk (Q := fun _ => False) (by simpa using hk) hP hh hc h63 hs ht (by intro ds h; obtain ⟨p, _, rfl⟩ := List.mem_map.1 h; rfl) (by rw [links_atoms]; exact atoms_holdsL (flat_one m)) (fun _ h => h.elim) (fun h => h)
theorem flat_take (m : Lks) (i : Nat) : (flat m).take (i * 2) = flat (m.take i) := by
 induction m generalizing i with
 | nil => simp [flat]
 | cons p r ih =>
  cases i with
  | zero => simp [flat]
  | succ i =>
   have e : flat (p :: r) = .int .i64 p.1 :: .int .i64 p.2 :: flat r := rfl
   rw [e, show (i + 1) * 2 = i * 2 + 1 + 1 by omega, List.take_succ_cons, List.take_succ_cons, ih, List.take_succ_cons]
   rfl
theorem flat_drop (m : Lks) (i : Nat) : (flat m).drop (i * 2) = flat (m.drop i) := by
 induction m generalizing i with
 | nil => simp [flat]
 | cons p r ih =>
  cases i with
  | zero => simp
  | succ i =>
   have e : flat (p :: r) = .int .i64 p.1 :: .int .i64 p.2 :: flat r := rfl
   rw [e, show (i + 1) * 2 = i * 2 + 1 + 1 by omega, List.drop_succ_cons, List.drop_succ_cons, ih, List.drop_succ_cons]
theorem flat_erase (m : Lks) (i : Nat) : flat (m.eraseIdx i) = flat (m.take i) ++ flat (m.drop (i + 1)) := by
 rw [List.eraseIdx_eq_take_drop_succ, flat_append]
theorem infoMsg : (Try.prog.info? 56).map (fun i => (i.zero, i.size, i.bytes)) = some (some (.agg #[.int .i64 0, .int .i64 0]), 2, 16) := by kernel_rfl
/-- A step that appends, by what it does. -/
theorem appRunS {ops : Array Oper} {o : Oper} {a : Act} {K : Act → World → Prop} {R : Exit → Act → World → Prop} {F : Prop} {w w' : World} {v sv xv : Value} (hgd : o.guard = none) (s x : Operand) (T : TypeId)
  (ho : o.op = .call { callee := .builtin .append, args := #[s, x], argTypes := #[T, T] }) (hs : a.eval s = sv) (hx : a.eval x = xv) (hr : (Builtin.append_ #[T, T] o.type #[sv, xv]).run Try.prog w = .ok v w')
  (H : K (a.put o.dst v) w') : if Region.wanted o (yielded ops a.tmps) = true then Oper.wp Try.prog o a w K R else F := by
 have hw : Region.wanted o (yielded ops a.tmps) = true := by simp [Region.wanted, hgd]
 rw [if_pos hw]
 unfold Oper.wp execOp
 simp only [ho, resolve, invoke, builtin, Sem.run_bind, Sem.run_pure, Result.andThen_ok, List.map_toArray, List.map_cons, List.map_nil, hs, hx, hr]
 exact H
theorem clearRunL {ops : Array Oper} {rest : List Oper} {o : Oper} {a : Act} {R : Exit → Act → World → Prop} {w w' : World} {sv : Value} (hgd : o.guard = none) (s : Operand) (T : TypeId)
  (ho : o.op = .call { callee := .builtin .clear, args := #[s], argTypes := #[T] }) (hs : a.eval s = sv) (hr : (Builtin.clear_ #[T] o.type #[sv]).run Try.prog w = .ok (.tuple #[]) w')
  (H : wpList Try.prog ops R rest (a.put o.dst (.tuple #[])) w') : wpList Try.prog ops R (o :: rest) a w := by
 refine wpList_plain hgd fun K' hK => ?_
 unfold Oper.wp execOp
 simp only [ho, resolve, invoke, builtin, Sem.run_bind, Sem.run_pure, Result.andThen_ok, List.map_toArray, List.map_cons, List.map_nil, hs, hr]
 exact hK _ _ H
theorem zero_msg (w : World) : (zeroValue 56).run Try.prog w = .ok (.agg #[.int .i64 0, .int .i64 0]) w := by kernel_rfl
theorem run_clear1 {w : World} (ty : TypeId) (g o c : Nat) (cur : Array Value) (e : TypeId) (hg : w.heap[g]? = some (.cells cur e (0, 0))) (hl : o + 2 ≤ cur.size) :
  (Builtin.clear_ #[51] ty #[.slice (some ⟨g, o, none⟩) 1 c]).run Try.prog w = .ok (.tuple #[]) (w.setRow g (cur.toList.take o ++ [Value.int .i64 0, Value.int .i64 0] ++ cur.toList.drop (o + 2)).toArray) := by
 have h3 := run_storeCells_at Try.prog g o e [.int .i64 0, .int .i64 0] 0 cur w hg (by simpa using hl) (by intro v h; simp at h; subst h; rfl)
 simp only [Nat.add_zero, List.length_cons, List.length_nil] at h3
 have hz : (Builtin.zeroCells (Value.agg #[.int .i64 0, .int .i64 0]).cells 1).toList = [.int .i64 0, .int .i64 0] := by kernel_rfl
 simp [Builtin.clear_, run_underlying Try.underlying51, zero_msg, hz, h3]
end Go.Proofs.Ytennbiajnkobnaa

set_option linter.unusedSimpArgs false
namespace Go.Proofs.Ytennbiajnkobnaa
open Go.RowKit Go.PlainAid
/-- What a deletion leaves. -/
def Deleted (P : Nat → Prop) (m : Lks) (a : Option Addr) (k1 cap : Nat) (w : World) (e : Ending) (w' : World) : Prop := ∃ g, a = some ⟨g, 0, none⟩ ∧ P g ∧ e = .returned (.slice a k1 cap) ∧ Holds True P w' (.slice a k1 cap) (dLinks m) ∧ w.grownBy w' (some g)
set_option maxHeartbeats 8000000 in
set_option maxRecDepth 100000 in
theorem delete_at {P : Nat → Prop} (m : Lks) (i : Nat) (a : Option Addr) (k cap : Nat) (w : World) (h : Holds True P w (.slice a k cap) (dLinks m)) (k1 : Nat) (hk : k = m.length) (hkk : k = k1 + 1) (hi : i < k) (hn : k ≤ 1000000) :
  Calls Try.prog 80 #[.slice a k cap, .int .i64 i, .int .i64 ((i : Int) + 1)] w fun e w' => Deleted P (m.eraseIdx i) a k1 cap w e w' := by
 obtain ⟨g, cur, e, rfl, hP, hg, hh, hk0, hkc, hcx, hcs, ht⟩ := row_open h (by omega)
 clear hk0
 obtain ⟨i0, hi0, hz0, hs0, hb0⟩ := info_parts infoMsg
 -- what comes to the left
 obtain ⟨news, hnews⟩ : ∃ news, news = flat (m.drop (i + 1)) := ⟨_, rfl⟩
 have hnl : news.length = (k - (i + 1)) * 2 := by rw [hnews, flat_length, List.length_drop, hk]
 have hcell : ∀ j u, (flat m)[j]? = some u → w.cell? ⟨g, j, none⟩ = some u := by
  intro j u hu
  rw [← ht, List.getElem?_take] at hu
  split at hu
  ·simpa [World.cell?, hh] using hu
  ·cases hu
 obtain ⟨A1, hA1⟩ : ∃ A1 : Array Value, A1 = (cur.toList.take (i * 2) ++ news ++ cur.toList.drop (i * 2 + news.length)).toArray := ⟨_, rfl⟩
 have hA1s : A1.size = cap * 2 := by rw [hA1, ← hcs]; simp; omega
 have hA1t : A1.toList.take (k1 * 2) = flat (m.eraseIdx i) := by
  rw [hA1, flat_erase, ← hnews]
  simp only [List.toList_toArray]
  have e1 : cur.toList.take (i * 2) = flat (m.take i) := by rw [← flat_take, ← ht, List.take_take, Nat.min_eq_left (by omega)]
  rw [e1]
  exact List.take_left' (by rw [List.length_append, flat_length, hnl, List.length_take]; omega)
 obtain ⟨W1, hW1⟩ : ∃ W1, W1 = w.drew.setRow g A1 := ⟨_, rfl⟩
 have hh1 : W1.heap[g]? = some (.cells A1 e (0, 0)) := by rw [hW1]; exact setRow_heap w.drew g cur A1 e _ hh
 obtain ⟨A2, hA2⟩ : ∃ A2 : Array Value, A2 = (A1.toList.take (k1 * 2) ++ [Value.int .i64 0, Value.int .i64 0] ++ A1.toList.drop (k1 * 2 + 2)).toArray := ⟨_, rfl⟩
 have hA2s : A2.size = cap * 2 := by rw [hA2, ← hA1s]; simp; omega
 have hA2t : A2.toList.take (k1 * 2) = flat (m.eraseIdx i) := by
  rw [hA2]
  simp only [List.toList_toArray, List.append_assoc]
  rw [List.take_left' (by rw [hA1t, flat_length, List.length_eraseIdx_of_lt (by omega)]; omega), hA1t]
 obtain ⟨W2, hW2⟩ : ∃ W2, W2 = W1.setRow g A2 := ⟨_, rfl⟩
 have hh2 : W2.heap[g]? = some (.cells A2 e (0, 0)) := by rw [hW2]; exact setRow_heap W1 g A1 A2 e _ hh1
 have hgr : w.grownBy W2 (some g) := by
  have x1 := below_drewN (Below.refl w.heap.size w) 1
  rw [hW2, hW1]
  exact ⟨rfl, rfl, rfl, by simp, fun k _ hk => by rw [setRow_other _ g k _ (fun e => hk (by simp [e])), setRow_other _ g k _ (fun e => hk (by simp [e]))]; rfl⟩
 have hfin : Holds True P W2 (.slice (some ⟨g, 0, none⟩) k1 cap) (dLinks (m.eraseIdx i)) := row_mk hh2 hP (by rw [List.length_eraseIdx_of_lt (by omega)]; omega) (by omega) hcx hA2s hA2t
 -- the append
 have hrun : ∀ ty : TypeId, (Builtin.append_ #[51, 51] ty #[.slice (some ⟨g, 0, none⟩) i cap, .slice (if cap = i + 1 then some ⟨g, 0, none⟩ else some ⟨g, (i + 1) * 2, none⟩) (k - (i + 1)) (cap - (i + 1))]).run Try.prog w.drew = .ok (.slice (some ⟨g, 0, none⟩) k1 cap) W1 := by
  intro ty
  have hr : ∀ ad : Addr, (∀ j u, news[j]? = some u → w.drew.cell? (ad.add j) = some u) → (Builtin.append_ #[51, 51] ty #[.slice (some ⟨g, 0, none⟩) i cap, .slice (some ad) (k - (i + 1)) (cap - (i + 1))]).run Try.prog w.drew = .ok (.slice (some ⟨g, 0, none⟩) k1 cap) W1 := by
   intro ad had
   have := run_room (w := w.drew) 51 56 e ty i0 Try.underlying51 hi0 g i cap cur hh ad (k - (i + 1)) (cap - (i + 1)) news (by rw [hnl, hs0]) had (by rw [hnews]; exact flat_one _) (by omega) (by rw [hs0, hnl, hcs]; omega)
   rw [hs0] at this
   rw [this, hW1, hA1, show i + (k - (i + 1)) = k1 by omega]
  split
  ·refine hr _ (fun j u hu => ?_)
   have : news = [] := List.eq_nil_of_length_eq_zero (by omega)
   rw [this] at hu
   simp at hu
  ·refine hr _ (fun j u hu => ?_)
   have e1 : (⟨g, (i + 1) * 2, none⟩ : Addr).add j = ⟨g, (i + 1) * 2 + j, none⟩ := by unfold Addr.add; split <;> simp_all
   rw [e1]
   refine hcell _ u ?_
   rw [hnews, ← flat_drop, List.getElem?_drop] at hu
   exact hu
 have hclr : ∀ (ty : TypeId), (Builtin.clear_ #[51] ty #[.slice (some ⟨g, k1 * 2, none⟩) 1 (cap - k1)]).run Try.prog W1 = .ok (.tuple #[]) W2 := by
  intro ty
  rw [run_clear1 ty g (k1 * 2) (cap - k1) A1 e hh1 (by rw [hA1s]; omega), hW2, hA2]
 obtain ⟨A, hA⟩ : ∃ A, (if cap = i + 1 then some (⟨g, 0, none⟩ : Addr) else some ⟨g, (i + 1) * 2, none⟩) = A := ⟨_, rfl⟩
 rw [hA] at hrun
 have HR := Lib.hid hrun
 have HC := Lib.hid hclr
 have HF := Lib.hid hfin
 have HG := Lib.hid hgr
 have HP := Lib.hid hP
 clear hrun hclr hfin hgr hh2 hA2t hA2s hA2 hW2 hh1 hA1t hA1s hA1 hW1 hcell hnl hnews hcs ht hh h hP hi0 hz0 hs0 hb0 hk
 have n5 : k1 ≤ k := by omega
 have n6 : k - k1 = 1 := by omega
 have n7 : ¬ cap = k1 := by omega
 have n8 : k1 ≤ cap := by omega
 have n10 : (i : Int) + 1 ≤ k := by omega
 have n9 : (0 : Int) ≤ (i : Int) + 1 := by omega
 have n1 : ¬ (i : Int) = (i : Int) + 1 := by omega
 have n2 : ((i : Int) == (i : Int) + 1) = false := by simp; omega
 have n3 : i + 1 ≤ k := by omega
 have n4 : i ≤ cap := by omega
 clear hkk
 go_enter Try.func80, Try.ntmps80
 try simp only [List.append_eq, List.cons_append, List.nil_append]
 go_wp2_with fail
 refine wp_region_held_drew (S := (fun _ => True)) (by kernel_rfl) ?_ (fun hHeld => ?_)
 ·exact trivial
 refine tq 0 ?_
 refine tq 1 ?_
 refine tq 2 ?_
 refine tq 3 ?_
 refine tq 4 ?_
 refine tq 5 ?_
 refine rd 6 fun K hK => ?_
 refine appRunS (by rfl) _ _ 51 (by rfl) (by rfl) (by rfl) (HR.out _) ?_
 refine hK.out _ _ ?_ (fun hHeld => ?_)
 ·exact trivial
 clear hK K
 try simp only [Act.put, List.getElem_toArray, List.getElem_cons_zero, List.getElem_cons_succ, List.setIfInBounds_toArray, List.set_cons_zero, List.set_cons_succ]
 refine tq 7 ?_
 refine wpAnyH_done (by kernel_rfl) ?_ _
 go_wp2_with (refine clearRunL rfl _ 51 rfl rfl (HC.out _) ?_)
 go_ret
 exact ⟨g, rfl, HP.out, rfl, HF.out, HG.out⟩
end Go.Proofs.Ytennbiajnkobnaa

