/- Texts put together. -/
import Derived.Test.YtennbiajnkobnaaQ02
import Derived.Test.YtennbiajnkobnaaQ04
import Derived.Deep.RegionHeld3
namespace Go.Proofs.Ytennbiajnkobnaa
open Go.RowKit Go.PlainAid
theorem bool_yes {r : Bool} {p : Prop} (h : r = true ↔ p) (hp : p) : r = true := h.2 hp
theorem bool_no {r : Bool} {p : Prop} (h : r = true ↔ p) (hp : ¬ p) : r = false := by
 cases r with
 | false => rfl
 | true => exact absurd (h.1 rfl) hp
theorem bool_some (p : Prop) : ∃ r : Bool, r = true ↔ p := by
 by_cases h : p
 ·exact ⟨true, by simp [h]⟩
 ·exact ⟨false, by simp [h]⟩
def fnLinked (a : Nat) : Value := .func (.func 64) #[] #[.pointer (some ⟨a, 0, none⟩)]
def fnGoes (a : Nat) : Value := .func (.func 66) #[] #[.pointer (some ⟨a, 0, none⟩)]
/-- What the closure linked has captured: the graph's box. -/
structure LinkedAt (w : World) (a : Nat) (L : Lks) : Prop where
 ex : ∃ (N : Int) (v : Value), w.cell? ⟨a, 0, none⟩ = some (.int .i64 N) ∧ w.cell? ⟨a, 1, none⟩ = some v ∧ LinksAt w v L
structure GoesAt (w : World) (c : Nat) (L : Lks) : Prop where
 ex : ∃ a, w.cell? ⟨c, 0, none⟩ = some (fnLinked a) ∧ LinkedAt w a L
theorem LinkedAt.below {w w' : World} {a : Nat} {L : Lks} (h : LinkedAt w a L) (hb : Below w.heap.size w w') : LinkedAt w' a L := by
 obtain ⟨N, v, h1, h2, h3⟩ := h.ex
 have := World.block_lt_of_cell? w _ h1
 exact ⟨N, v, (hb.cell this).trans h1, (hb.cell (by exact this)).trans h2, h3.below hb⟩
theorem GoesAt.below {w w' : World} {a : Nat} {L : Lks} (h : GoesAt w a L) (hb : Below w.heap.size w w') : GoesAt w' a L := by
 obtain ⟨c, h1, h2⟩ := h.ex
 have := World.block_lt_of_cell? w _ h1
 exact ⟨c, (hb.cell this).trans h1, h2.below hb⟩
set_option maxHeartbeats 8000000 in
theorem linked_at (a : Nat) (L : Lks) (x y : Int) (r : Bool) (w : World) (h : LinkedAt w a L) (hn : L.length ≤ 1000000) (hr : r = true ↔ (x, y) ∈ L) :
  Calls Try.prog 64 #[.int .i64 x, .int .i64 y, .pointer (some ⟨a, 0, none⟩)] w fun e w' => e = .returned (.bool r) ∧ Below w.heap.size w w' := by
 obtain ⟨N, v, h1, h2, h3⟩ := h.ex
 obtain ⟨ao, cap, rfl⟩ := h3.at
 have H := Lib.hid h3
 have Hn := Lib.hid hn
 obtain ⟨q, hq⟩ : ∃ q, q = findL L (x, y) := ⟨_, rfl⟩
 have Hr : Hid (decide (0 ≤ q) = r) := Lib.hid (by
  rw [hq]
  by_cases hm : (x, y) ∈ L
  ·rw [bool_yes hr hm]
   have : ¬ findL L (x, y) < 0 := fun h => (findL_neg.1 h) hm
   simp; omega
  ·rw [bool_no hr hm]
   have := findL_neg.2 hm
   simp; omega)
 have Hq := Lib.hid hq.symm
 clear h h3 hn hr hq
 go_enter Try.func64, Try.ntmps64
 go_wp2_with fail
 refine (find_at N x y q _ L _ H.out Hn.out Hq.out).mono ?_
 rintro e w' ⟨rfl, hb⟩
 have B := Lib.hid hb
 clear hb
 go_wp2_with fail
 go_ret
 refine ⟨?_, B.out⟩
 rw [← Hr.out]; rfl
theorem linked_yes (a : Nat) (L : Lks) (x y : Int) (w : World) (h : LinkedAt w a L) (hn : L.length ≤ 1000000) (hr : (x, y) ∈ L) :
  Calls Try.prog 64 #[.int .i64 x, .int .i64 y, .pointer (some ⟨a, 0, none⟩)] w fun e w' => e = .returned (.bool true) ∧ Below w.heap.size w w' := linked_at a L x y true w h hn (by simp [hr])
theorem linked_no (a : Nat) (L : Lks) (x y : Int) (w : World) (h : LinkedAt w a L) (hn : L.length ≤ 1000000) (hr : ¬ (x, y) ∈ L) :
  Calls Try.prog 64 #[.int .i64 x, .int .i64 y, .pointer (some ⟨a, 0, none⟩)] w fun e w' => e = .returned (.bool false) ∧ Below w.heap.size w w' := linked_at a L x y false w h hn (by simp [hr])
def Goes (L : Lks) (x y c : Int) : Prop := (x, y) ∈ L ∧ 0 ≤ c ∧ c < 4
set_option maxHeartbeats 8000000 in
theorem goes_at (a : Nat) (L : Lks) (x y c : Int) (r : Bool) (w : World) (h : GoesAt w a L) (hn : L.length ≤ 1000000) (hr : r = true ↔ Goes L x y c) :
  Calls Try.prog 66 #[.int .i64 x, .int .i64 y, .int .i64 c, .pointer (some ⟨a, 0, none⟩)] w fun e w' => e = .returned (.bool r) ∧ Below w.heap.size w w' := by
 obtain ⟨b, h1, h2⟩ := h.ex
 unfold fnLinked at h1
 have H := Lib.hid h2
 have Hn := Lib.hid hn
 have Hr := Lib.hid hr
 clear h h2 hn hr
 by_cases hm : (x, y) ∈ L
 ·have Hl := Lib.hid hm
  by_cases c0 : 0 ≤ c
  ·by_cases c3 : c < 4
   ·have hf : r = true := bool_yes Hr.out ⟨hm, c0, c3⟩
    have Hf := Lib.hid hf
    clear hf hm
    go_enter Try.func66, Try.ntmps66
    go_wp2_with fail
    refine (linked_yes b L x y _ H.out Hn.out Hl.out).mono ?_
    rintro e w' ⟨rfl, hb⟩
    have B := Lib.hid hb
    clear hb
    go_wp2_with fail
    go_ret
    exact ⟨by rw [Hf.out]; first | rfl | simp [*], B.out⟩
   ·have hf : r = false := bool_no Hr.out (fun h => c3 h.2.2)
    have Hf := Lib.hid hf
    clear hf hm
    go_enter Try.func66, Try.ntmps66
    go_wp2_with fail
    refine (linked_yes b L x y _ H.out Hn.out Hl.out).mono ?_
    rintro e w' ⟨rfl, hb⟩
    have B := Lib.hid hb
    clear hb
    go_wp2_with fail
    go_ret
    exact ⟨by rw [Hf.out]; first | rfl | simp [*], B.out⟩
  ·have hf : r = false := bool_no Hr.out (fun h => c0 h.2.1)
   have Hf := Lib.hid hf
   clear hf hm
   go_enter Try.func66, Try.ntmps66
   go_wp2_with fail
   refine (linked_yes b L x y _ H.out Hn.out Hl.out).mono ?_
   rintro e w' ⟨rfl, hb⟩
   have B := Lib.hid hb
   clear hb
   go_wp2_with fail
   go_ret
   exact ⟨by rw [Hf.out]; first | rfl | simp [*], B.out⟩
 ·have Hl := Lib.hid hm
  have hf : r = false := bool_no Hr.out (fun h => hm h.1)
  have Hf := Lib.hid hf
  clear hf hm
  go_enter Try.func66, Try.ntmps66
  go_wp2_with fail
  refine (linked_no b L x y _ H.out Hn.out Hl.out).mono ?_
  rintro e w' ⟨rfl, hb⟩
  have B := Lib.hid hb
  clear hb
  go_wp2_with fail
  go_ret
  exact ⟨by rw [Hf.out]; first | rfl | simp [*], B.out⟩
set_option maxHeartbeats 8000000 in
theorem modeOK_at (p : Pl) (v : Value) (r : Bool) (w : World) (h : IsPl w p v) (hr : r = true ↔ 0 ≤ p.st.mode ∧ p.st.mode ≤ 2) :
  Calls Try.prog 67 #[v] w fun e w' => e = .returned (.bool r) ∧ Below w.heap.size w w' := by
 obtain ⟨cs, rfl, hc⟩ := h
 obtain ⟨v1, v2, v3, v4, rfl, _⟩ := hasL_pl hc
 obtain ⟨m, hm⟩ : ∃ m, m = p.st.mode := ⟨_, rfl⟩
 rw [← hm] at hr ⊢
 clear hc hm
 by_cases h0 : 0 ≤ m
 ·by_cases h2 : m < 3
  ·have hf : r = true := bool_yes hr ⟨h0, by omega⟩
   subst hf
   clear hr
   go_enter Try.func67, Try.ntmps67
   go_wp2_with fail
   go_ret
   exact ⟨rfl, by go_grown⟩
  ·have hf : r = false := bool_no hr (by omega)
   subst hf
   clear hr
   go_enter Try.func67, Try.ntmps67
   go_wp2_with fail
   go_ret
   exact ⟨rfl, by go_grown⟩
 ·have hf : r = false := bool_no hr (by omega)
  subst hf
  clear hr
  go_enter Try.func67, Try.ntmps67
  go_wp2_with fail
  go_ret
  exact ⟨rfl, by go_grown⟩
end Go.Proofs.Ytennbiajnkobnaa

namespace Go.Proofs.Ytennbiajnkobnaa
open Go.RowKit Go.PlainAid
def WaitsEach (L : Lks) (n : Int) (ws : List Int) : Prop := ∀ (i : Nat) (x : Int), ws[i]? = some x → (x, n) ∈ L ∧ (∀ u : Int, 0 < i → ws[i - 1]? = some u → u < x)
def WaitsOK (L : Lks) (n : Int) (s : St) : Prop := (s.mode = 2 ↔ 0 < s.waits.length) ∧ WaitsEach L n s.waits
structure WAt (w : World) (b : Nat) (node : Int) (wb wo wc : Nat) (xs : List Int) (L : Lks) (a : Nat) : Prop where
 c1 : w.cell? ⟨b, 1, none⟩ = some (.slice (some ⟨wb, wo, none⟩) xs.length wc)
 c4 : w.cell? ⟨b, 4, none⟩ = some (.int .i64 node)
 lt : wb < w.heap.size
 ws : ∀ (i : Nat) (x : Int), xs[i]? = some x → w.cell? ⟨wb, wo + i, none⟩ = some (.int .i64 x)
 ln : LinkedAt w a L
theorem WAt.below {w w' : World} {b : Nat} {node : Int} {wb wo wc : Nat} {xs : List Int} {L : Lks} {a : Nat} (h : WAt w b node wb wo wc xs L a) (hb : Below w.heap.size w w') : WAt w' b node wb wo wc xs L a := by
 have := World.block_lt_of_cell? w _ h.c1
 exact ⟨(hb.cell (by exact this)).trans h.c1, (hb.cell (by exact this)).trans h.c4, Nat.lt_of_lt_of_le h.lt hb.size, fun i x hx => (hb.cell (by exact h.lt)).trans (h.ws i x hx), h.ln.below hb⟩
theorem ints_some {w : World} {xa : Option Addr} {n xc : Nat} {xs : List Int} (h : IntsAt w (.slice xa n xc) xs) (h0 : 0 < xs.length) : ∃ b o, xa = some ⟨b, o, none⟩ ∧ b < w.heap.size ∧ ∀ (i : Nat) (x : Int), xs[i]? = some x → w.cell? ⟨b, o + i, none⟩ = some (.int .i64 x) := by
 rcases h with ⟨a, cap, e, rfl⟩ | ⟨b, off, len, cap, e, h2, h3, h4, h6, h5⟩
 ·simp at h0
 ·simp only [Value.slice.injEq] at e
  obtain ⟨rfl, rfl, rfl⟩ := e
  refine ⟨b, off, rfl, h4, fun i x hx => ?_⟩
  have hi := lt_of_some hx
  have := h5 i (by omega)
  rw [show xs.getD i 0 = x by simp [List.getD, hx]] at this
  exact this
set_option maxHeartbeats 8000000 in
set_option maxRecDepth 100000 in
theorem waitsOK_loop (L : Lks) (m node : Int) (wb wo wc : Nat) (xs : List Int) (v2 v3 v4 : Value) (a : Nat) (r : Bool) (w : World) (hm : m = 2) (h0 : 0 < xs.length) (hb : wb < w.heap.size) (hx : ∀ (i : Nat) (x : Int), xs[i]? = some x → w.cell? ⟨wb, wo + i, none⟩ = some (.int .i64 x))
  (hl : LinkedAt w a L) (hn : L.length ≤ 1000000) (hxn : xs.length ≤ 1000000) (hr : r = true ↔ WaitsEach L node xs) :
  Calls Try.prog 69 #[.agg #[.int .i64 m, .slice (some ⟨wb, wo, none⟩) xs.length wc, v2, v3, .int .i64 node, v4], fnLinked a] w fun e w' => e = .returned (.bool r) ∧ Below w.heap.size w w' := by
 subst hm
 unfold fnLinked
 obtain ⟨w1, hw1⟩ : ∃ w1, w1 = w.alloc (.cells #[.int .i64 2, .slice (some ⟨wb, wo, none⟩) xs.length wc, v2, v3, .int .i64 node, v4] 145) := ⟨_, rfl⟩
 have g : Below w.heap.size w w1 := by rw [hw1]; exact below_new _ _
 have hA : WAt w1 w.heap.size node wb wo wc xs L a := ⟨by rw [hw1]; exact World.cell?_alloc_at _ _ _ _ rfl, by rw [hw1]; exact World.cell?_alloc_at _ _ _ _ rfl, Nat.lt_of_lt_of_le hb g.size, fun i x h => (g.cell (by exact hb)).trans (hx i x h), hl.below g⟩
 have d1 := hA.c1
 have c0 : w1.cell? ⟨w.heap.size, 0, none⟩ = some (.int .i64 2) := by rw [hw1]; exact World.cell?_alloc_at _ _ _ _ rfl
 have A := Lib.hid hA
 have G := Lib.hid g
 have Hr := Lib.hid hr
 have Hn := Lib.hid hn
 obtain ⟨ln, hln⟩ : ∃ ln, ln = xs.length := ⟨_, rfl⟩
 rw [← hln] at d1 hxn h0 ⊢
 have Ln := Lib.hid hln
 clear hx hl hr hn hA g hb hln
 go_enter Try.func69, Try.ntmps69
 go_wp2_with fail
 rw [← Ln.out] at hw1
 rw [← hw1]
 clear hw1
 go_loopw [21] (fun i wr => ∃ k : Nat, i = .int .i64 k ∧ k ≤ ln ∧ (∀ j x, j < k → xs[j]? = some x → (x, node) ∈ L ∧ ∀ u : Int, 0 < j → xs[j - 1]? = some u → u < x) ∧ Below w1.heap.size w1 wr) (fun i _ => ln - (intOf i).toNat)
 case atStart => exact ⟨0, rfl, by omega, fun j x hj => by omega, Below.refl _ _⟩
 case round =>
  obtain ⟨k, rfl, hk, hno, hbr⟩ := hrel
  have Hs := Lib.hid hno
  have R := Lib.hid hbr
  have A2 := Lib.hid (A.out.below hbr)
  have BB := Lib.hid (below_step G.out.size G.out hbr)
  have e1 := A2.out.c1
  have e4 := A2.out.c4
  rw [← Ln.out] at e1
  clear hno hbr
  by_cases hlt : k < ln
  ·have hlt' : (k : Int) < ln := by omega
   obtain ⟨x, hx⟩ := some_of_lt (l := xs) (i := k) (by rw [← Ln.out]; exact hlt)
   have ex := A2.out.ws k x hx
   have Hx := Lib.hid hx
   have hbad : ∀ P : Prop, ((x, node) ∈ L → (∀ u : Int, 0 < k → xs[k - 1]? = some u → u < x) → P) → ¬ P → r = false := fun P h hP => bool_no Hr.out (fun g => hP (h (g k x Hx.out).1 (g k x Hx.out).2))
   have Bad := Lib.hid hbad
   clear hx hbad
   by_cases hk0 : k = 0
   ·subst hk0
    rw [Nat.add_zero] at ex
    have good : ∀ u : Int, 0 < 0 → xs[0 - 1]? = some u → u < x := fun u h => by omega
    have Good := Lib.hid good
    clear good
    by_cases hm : (x, node) ∈ L
    ·have Hm := Lib.hid hm
     clear hm
     go_wp2_with fail
     refine (linked_yes a L x node _ A2.out.ln Hn.out Hm.out).mono ?_
     rintro e w2 ⟨rfl, hb⟩
     have B2 := Lib.hid hb
     clear hb
     go_wp2_with fail
     go_roundw
     case rel =>
      refine ⟨0 + 1, by go_num, by omega, fun j y hj hy => ?_, below_step R.out.size R.out B2.out⟩
      obtain rfl : j = 0 := by omega
      rw [Hx.out] at hy
      cases hy
      exact ⟨Hm.out, Good.out⟩
     case measure => simp [intOf]; omega
    ·have Hm := Lib.hid hm
     clear hm
     have hf := Bad.out _ (fun h _ => h) Hm.out
     have Hf := Lib.hid hf
     clear hf
     go_wp2_with fail
     refine (linked_no a L x node _ A2.out.ln Hn.out Hm.out).mono ?_
     rintro e w2 ⟨rfl, hb⟩
     have B2 := Lib.hid hb
     clear hb
     go_wp2_with fail
     go_ret
     exact ⟨by rw [Hf.out]; rfl, below_step BB.out.size BB.out B2.out⟩
   ·have hk1 : (0 : Int) < k := by omega
    have hk2 : 0 < k := by omega
    obtain ⟨u, hu⟩ := some_of_lt (l := xs) (i := k - 1) (by rw [← Ln.out]; omega)
    have eu := A2.out.ws (k - 1) u hu
    have Hu := Lib.hid hu
    clear hu
    by_cases hle : x ≤ u
    ·have hf : r = false := Bad.out _ (fun _ h => h u (by omega) Hu.out) (by omega)
     have Hf := Lib.hid hf
     clear hf
     go_wp2_with fail
     go_ret
     exact ⟨by rw [Hf.out]; rfl, BB.out⟩
    ·have hle' : u < x := by omega
     have good : ∀ u' : Int, 0 < k → xs[k - 1]? = some u' → u' < x := fun u' _ h => by rw [Hu.out] at h; cases h; exact hle'
     have Good := Lib.hid good
     clear good
     by_cases hm : (x, node) ∈ L
     ·have Hm := Lib.hid hm
      clear hm
      go_wp2_with fail
      refine (linked_yes a L x node _ A2.out.ln Hn.out Hm.out).mono ?_
      rintro e w2 ⟨rfl, hb⟩
      have B2 := Lib.hid hb
      clear hb
      go_wp2_with fail
      go_roundw
      case rel =>
       refine ⟨k + 1, by go_num, by omega, fun j y hj hy => ?_, below_step R.out.size R.out B2.out⟩
       by_cases hjk : j < k
       ·exact Hs.out j y hjk hy
       ·obtain rfl : j = k := by omega
        rw [Hx.out] at hy
        cases hy
        exact ⟨Hm.out, Good.out⟩
      case measure => simp [intOf]; omega
     ·have Hm := Lib.hid hm
      clear hm
      have hf := Bad.out _ (fun h _ => h) Hm.out
      have Hf := Lib.hid hf
      clear hf
      go_wp2_with fail
      refine (linked_no a L x node _ A2.out.ln Hn.out Hm.out).mono ?_
      rintro e w2 ⟨rfl, hb⟩
      have B2 := Lib.hid hb
      clear hb
      go_wp2_with fail
      go_ret
      exact ⟨by rw [Hf.out]; rfl, below_step BB.out.size BB.out B2.out⟩
  ·have hlt' : ¬ (k : Int) < ln := by omega
   have hf : r = true := bool_yes Hr.out (fun j x hx => Hs.out j x (by have := lt_of_some hx; rw [← Ln.out] at this; omega) hx)
   have Hf := Lib.hid hf
   clear hf
   go_wp2_with fail
   go_ret
   exact ⟨by rw [Hf.out]; rfl, BB.out⟩
set_option maxRecDepth 100000 in
theorem waitsOK_short (m node : Int) (a1 : Option Addr) (n c1 : Nat) (v2 v3 v4 : Value) (a : Nat) (r : Bool) (w : World) (h : n = 0 ∨ m ≠ 2) (hr : r = true ↔ (m ≠ 2 ∧ n = 0)) :
  Calls Try.prog 69 #[.agg #[.int .i64 m, .slice a1 n c1, v2, v3, .int .i64 node, v4], fnLinked a] w fun e w' => e = .returned (.bool r) ∧ Below w.heap.size w w' := by
 unfold fnLinked
 by_cases hm : m = 2
 ·obtain rfl : n = 0 := by omega
  subst hm
  obtain rfl := bool_no hr (by omega)
  clear hr h
  go_enter Try.func69, Try.ntmps69
  go_wp2_with fail
  go_ret
  exact ⟨rfl, by go_grown⟩
 ·have hm1 : (m == 2) = false := by simpa using hm
  by_cases h0 : n = 0
  ·subst h0
   obtain rfl := bool_yes hr ⟨hm, rfl⟩
   clear hr h hm
   go_enter Try.func69, Try.ntmps69
   go_wp2_with fail
   refine wp_loop_rounds 1 ?_
   rw [rounds_succ]
   go_wp2_with fail
   go_ret
   exact ⟨rfl, by go_grown⟩
  ·obtain rfl := bool_no hr (by omega)
   have h1 : 0 < n := by omega
   have h2 : decide (0 < n) = true := by simp [h1]
   clear hr h hm h0
   go_enter Try.func69, Try.ntmps69
   go_wp2_with fail
   go_ret
   exact ⟨rfl, by go_grown⟩
theorem waitsOK_at (L : Lks) (p : Pl) (v : Value) (a : Nat) (r : Bool) (w : World) (h : IsPl w p v) (hl : LinkedAt w a L) (hn : L.length ≤ 1000000) (hxn : p.st.waits.length ≤ 1000000) (hr : r = true ↔ WaitsOK L p.node p.st) :
  Calls Try.prog 69 #[v, fnLinked a] w fun e w' => e = .returned (.bool r) ∧ Below w.heap.size w w' := by
 obtain ⟨cs, rfl, hc⟩ := h
 obtain ⟨v1, v2, v3, v4, rfl, h1, _⟩ := hasL_pl hc
 obtain ⟨a1, c1, rfl⟩ := slice_of h1
 by_cases hs : p.st.waits.length = 0 ∨ p.st.mode ≠ 2
 ·refine waitsOK_short _ _ _ _ _ _ _ _ _ _ _ hs (hr.trans ⟨fun g => ?_, fun g => ?_⟩)
  ·have := g.1; omega
  ·refine ⟨by omega, fun i x hx => ?_⟩
   have := lt_of_some hx; omega
 ·obtain ⟨b, o, rfl, hb, hx⟩ := ints_some (Has.ints h1) (by omega)
  refine waitsOK_loop L p.st.mode p.node b o c1 p.st.waits _ _ _ a r w (by omega) (by omega) hb hx hl hn hxn (hr.trans ⟨fun g => g.2, fun g => ⟨by omega, g⟩⟩)
end Go.Proofs.Ytennbiajnkobnaa

