/- Texts put together. -/
import Derived.Test.YtiblcpkejhiehaaQ00
import Derived.Test.YtiblcpkejhiehaaQ01
import Derived.Test.YtiblcpkejhiehaaQ05
import Derived.Test.YtiblcpkejhiehaaQ08
import Derived.Test.YtiblcpkejhiehaaQ10
import Derived.Test.YtiblcpkejhiehaaQ11
import Derived.Test.YtiblcpkejhiehaaQ12
import Derived.BigQuiet
set_option linter.unusedSimpArgs false
set_option linter.unusedVariables false
namespace Go.Proofs.Ytiblcpkejhiehaa
open Go.RowKit Go.PlainAid
def cutC (c : Cf) : Cf := ⟨c.states.take 10, (c.links.take 40).map (·.take 30), c.sent.take 40⟩
theorem ahead_mem {md : Region.Mode} {ops : Array Oper} {g e : Nat} (h : (aheadOf md ops g).contains e = true) : e ∈ aheadOf md ops g := by simpa using h
theorem wp_if {b : Bool} {X F : Prop} (h : if b = true then X else F) (hb : b = true) : X := by rwa [if_pos hb] at h
theorem ev_of {a : Act} {t : Nat} {v : Value} (h : a.tmps[t]? = some v) : a.eval (.tmp t) = v := by simp [Act.eval, Array.getD_eq_getD_getElem?, h]
theorem fl_ints (xs : List Int) : ∀ ds ∈ xs.map (fun a => [dI a]), ds.length = 1 := by intro ds h; obtain ⟨_, _, rfl⟩ := List.mem_map.1 h; rfl
theorem take_of_min {α : Type} {xs : List α} {n k m : Nat} (hn : n = xs.length) (hk : k = min n m) : xs.take m = xs.take k := by
 rw [List.take_eq_take_min]; congr 1; omega
/-- What each operation of the copy's beginning yields. -/
def phi (y : World) (st se : List Int) (g : Nat) (v : Value) (w : World) : Prop :=
 if g = 0 ∨ g = 9 then ∃ a, v = .slice a 0 0
 else if g = 8 then ∃ a n c, v = .slice a n c ∧ Holds False (fun q => y.heap.size ≤ q) w v (dInts st)
 else if g = 17 then ∃ a n c, v = .slice a n c ∧ Holds False (fun q => y.heap.size ≤ q) w v (dInts se)
 else if g = 18 then ∃ a n c a' n' c', v = .agg #[.slice a n c, .slice none 0 0, .slice a' n' c'] ∧ Holds False (fun q => y.heap.size ≤ q) w (.slice a n c) (dInts st) ∧ Holds False (fun q => y.heap.size ≤ q) w (.slice a' n' c') (dInts se)
 else ∃ p, v = .pointer (some ⟨p, 0, none⟩) ∧ y.heap.size ≤ p ∧ p < w.heap.size ∧ BoxAt p [.slice none 0 0, .slice none 0 0, .slice none 0 0] w ∧ OpenRow w p 1 3
theorem phi_mono {y : World} {st se : List Int} {g : Nat} {v : Value} {w w' : World} (h : phi y st se g v w) (hb : Below w.heap.size w w') : phi y st se g v w' := by
 unfold phi at h ⊢
 split
 ·next e => rw [if_pos e] at h; exact h
 ·next e =>
  rw [if_neg e] at h
  split
  ·next e1 => rw [if_pos e1] at h; obtain ⟨a, n, c, e, h⟩ := h; exact ⟨a, n, c, e, h.later hb⟩
  ·next e1 =>
   rw [if_neg e1] at h
   split
   ·next e2 => rw [if_pos e2] at h; obtain ⟨a, n, c, e, h⟩ := h; exact ⟨a, n, c, e, h.later hb⟩
   ·next e2 =>
    rw [if_neg e2] at h
    split
    ·next e3 => rw [if_pos e3] at h; obtain ⟨a, n, c, a', n', c', e, h, h'⟩ := h; exact ⟨a, n, c, a', n', c', e, h.later hb, h'.later hb⟩
    ·next e3 => rw [if_neg e3] at h; obtain ⟨p, e, h1, h2, h3, h4⟩ := h; exact ⟨p, e, h1, Nat.lt_of_lt_of_le h2 hb.size, h3.below hb, h4.same (SameOn.of_below (P := fun _ => True) hb) trivial h2⟩
/-- A row that an operation yields stands in no block of that box. -/
def freeR (y : World) (st se : List Int) (g : Nat) (v : Value) (p : Nat) (w : World) : Prop :=
 if g = 8 then Holds False (fun q => y.heap.size ≤ q ∧ q ≠ p) w v (dInts st)
 else if g = 17 then Holds False (fun q => y.heap.size ≤ q ∧ q ≠ p) w v (dInts se)
 else if g = 18 then ∃ a n c a' n' c', v = .agg #[.slice a n c, .slice none 0 0, .slice a' n' c'] ∧ Holds False (fun q => y.heap.size ≤ q ∧ q ≠ p) w (.slice a n c) (dInts st) ∧ Holds False (fun q => y.heap.size ≤ q ∧ q ≠ p) w (.slice a' n' c') (dInts se)
 else True
def psi (y : World) (st se : List Int) (g h : Nat) (v u : Value) (w : World) : Prop := (g = 19 → ∀ p, v = .pointer (some ⟨p, 0, none⟩) → freeR y st se h u p w) ∧ (h = 19 → ∀ p, u = .pointer (some ⟨p, 0, none⟩) → freeR y st se g v p w)
theorem freeR_mono {y : World} {st se : List Int} {g : Nat} {v : Value} {p : Nat} {w w' : World} (h : freeR y st se g v p w) (hb : Below w.heap.size w w') : freeR y st se g v p w' := by
 unfold freeR at h ⊢
 split
 ·next e => rw [if_pos e] at h; exact h.later hb
 ·next e =>
  rw [if_neg e] at h
  split
  ·next e => rw [if_pos e] at h; exact h.later hb
  ·next e =>
   rw [if_neg e] at h
   split
   ·next e => rw [if_pos e] at h; obtain ⟨a, n, c, a', n', c', e, h, h'⟩ := h; exact ⟨a, n, c, a', n', c', e, h.later hb, h'.later hb⟩
   ·trivial
theorem psi_mono {y : World} {st se : List Int} {g h : Nat} {v u : Value} {w w' : World} (q : psi y st se g h v u w) (hb : Below w.heap.size w w') : psi y st se g h v u w' := ⟨fun e p ep => freeR_mono (q.1 e p ep) hb, fun e p ep => freeR_mono (q.2 e p ep) hb⟩
theorem phi0 {y : World} {st se : List Int} {v : Value} {w : World} {g : Nat} (hg : g = 0 ∨ g = 9) : phi y st se g v w ↔ ∃ a, v = .slice a 0 0 := by unfold phi; rw [if_pos hg]
theorem phi8 {y : World} {st se : List Int} {v : Value} {w : World} : phi y st se 8 v w ↔ ∃ a n c, v = .slice a n c ∧ Holds False (fun q => y.heap.size ≤ q) w v (dInts st) := by unfold phi; rw [if_neg (by decide), if_pos rfl]
theorem phi17 {y : World} {st se : List Int} {v : Value} {w : World} : phi y st se 17 v w ↔ ∃ a n c, v = .slice a n c ∧ Holds False (fun q => y.heap.size ≤ q) w v (dInts se) := by unfold phi; rw [if_neg (by decide), if_neg (by decide), if_pos rfl]
theorem phi18 {y : World} {st se : List Int} {v : Value} {w : World} : phi y st se 18 v w ↔ ∃ a n c a' n' c', v = .agg #[.slice a n c, .slice none 0 0, .slice a' n' c'] ∧ Holds False (fun q => y.heap.size ≤ q) w (.slice a n c) (dInts st) ∧ Holds False (fun q => y.heap.size ≤ q) w (.slice a' n' c') (dInts se) := by unfold phi; rw [if_neg (by decide), if_neg (by decide), if_neg (by decide), if_pos rfl]
theorem phi19 {y : World} {st se : List Int} {v : Value} {w : World} : phi y st se 19 v w ↔ ∃ p, v = .pointer (some ⟨p, 0, none⟩) ∧ y.heap.size ≤ p ∧ p < w.heap.size ∧ BoxAt p [.slice none 0 0, .slice none 0 0, .slice none 0 0] w ∧ OpenRow w p 1 3 := by unfold phi; rw [if_neg (by decide), if_neg (by decide), if_neg (by decide), if_neg (by decide)]
theorem free8 {y : World} {st se : List Int} {v : Value} {p : Nat} {w : World} : freeR y st se 8 v p w ↔ Holds False (fun q => y.heap.size ≤ q ∧ q ≠ p) w v (dInts st) := by unfold freeR; rw [if_pos rfl]
theorem free17 {y : World} {st se : List Int} {v : Value} {p : Nat} {w : World} : freeR y st se 17 v p w ↔ Holds False (fun q => y.heap.size ≤ q ∧ q ≠ p) w v (dInts se) := by unfold freeR; rw [if_neg (by decide), if_pos rfl]
theorem free18 {y : World} {st se : List Int} {v : Value} {p : Nat} {w : World} : freeR y st se 18 v p w ↔ ∃ a n c a' n' c', v = .agg #[.slice a n c, .slice none 0 0, .slice a' n' c'] ∧ Holds False (fun q => y.heap.size ≤ q ∧ q ≠ p) w (.slice a n c) (dInts st) ∧ Holds False (fun q => y.heap.size ≤ q ∧ q ≠ p) w (.slice a' n' c') (dInts se) := by unfold freeR; rw [if_neg (by decide), if_neg (by decide), if_pos rfl]
theorem free_no {y : World} {st se : List Int} {g : Nat} {v : Value} {p : Nat} {w : World} (h : g ≠ 8 ∧ g ≠ 17 ∧ g ≠ 18) : freeR y st se g v p w := by unfold freeR; rw [if_neg h.1, if_neg h.2.1, if_neg h.2.2]; trivial
theorem psi_no {y : World} {st se : List Int} {g h : Nat} {v u : Value} {w : World} (hg : g ≠ 8 ∧ g ≠ 17 ∧ g ≠ 18) (hn : g ≠ 19) : psi y st se g h v u w := ⟨fun e => absurd e hn, fun _ _ _ => free_no hg⟩
/-- The copy under way: its box, and the links done. -/
structure CutAt (yb w9 : World) (p : Nat) (u1 u3 v : Value) (ls : List Lks) (wr : World) : Prop where
 c0 : wr.cell? ⟨p, 0, none⟩ = some u1
 c2 : wr.cell? ⟨p, 2, none⟩ = some u3
 f : Fld False (fun q => w9.heap.size ≤ q) 51 1 yb wr p 1 v (ls.map fun m => [dLinks m])
 s : SameOn (fun q => q < w9.heap.size ∧ q ≠ p) w9 wr
theorem CutAt.push {yb w9 : World} {p : Nat} {u1 u3 v v' : Value} {ls : List Lks} {m : Lks} {wr w5 w6 : World} (h : CutAt yb w9 p u1 u3 v ls wr) (hp : p < w9.heap.size) (hb : Below wr.heap.size wr w5)
  (hO : Own False (fun q => w9.heap.size ≤ q) 51 1 yb w6.heap.size w6 v' (ls.map (fun m => [dLinks m]) ++ [[dLinks m]])) (hg : w5.grownBy w6 v.ownBlock) (hv : v'.ownBlock = v.ownBlock ∨ v'.ownBlock = some w5.heap.size) :
  CutAt yb w9 p u1 u3 v' (ls ++ [m]) (w6.setCell ⟨p, 1, none⟩ v') ∧ w6.cell? ⟨p, 1, none⟩ = some v ∧ w6.frozen? ⟨p, 1, none⟩ = false ∧ (∀ (c : Addr) (u : Value), w5.cell? c = some u → c.block < w9.heap.size → w6.cell? c = some u ∧ (c.block ≠ p → (w6.setCell ⟨p, 1, none⟩ v').cell? c = some u)) := by
 have hs := h.s.1
 obtain ⟨a1, a2, a3, a4, a5, a6, a7⟩ := h.f.push hb hO hg hv (Nat.le_trans hs hb.size)
 have hne : ∀ k, k < w9.heap.size → v.ownBlock ≠ some k := fun k hk e => by
  have h1 : w9.heap.size ≤ k := h.f.bld.inP k e
  omega
 have k0 := (hb.cell (World.block_lt_of_cell? wr _ h.c0)).trans h.c0
 have k2 := (hb.cell (World.block_lt_of_cell? wr _ h.c2)).trans h.c2
 have e1 := h.s
 have e2 := a5 (fun q => q < w9.heap.size ∧ q ≠ p) (fun q (hq : q < w9.heap.size ∧ q ≠ p) => Nat.not_le.2 hq.1) (fun hq => hq.2 rfl)
 have e3 : SameOn (fun q => q < w9.heap.size ∧ q ≠ p) wr w5 := SameOn.of_below hb
 refine ⟨⟨a6 _ _ k0 (Nat.not_le.2 hp) (by simp), a6 _ _ k2 (Nat.not_le.2 hp) (by simp), ?_, ?_⟩, a2, a3, fun c u hc hlt => ⟨(World.cell?_of_block (hg.block c.block (World.block_lt_of_cell? w5 _ hc) (fun e => hne _ hlt e.symm))).trans hc, fun e => a6 c u hc (Nat.not_le.2 hlt) (fun h => e (by rw [h]))⟩⟩
 ·rw [List.map_append]
  exact a1
 ·exact ⟨Nat.le_trans e1.1 (Nat.le_trans e3.1 e2.1), fun b hq hb' => (e2.2 b hq (Nat.lt_of_lt_of_le hb' (Nat.le_trans e1.1 e3.1))).trans ((e3.2 b hq (Nat.lt_of_lt_of_le hb' e1.1)).trans (e1.2 b hq hb'))⟩
def phiL (y : World) (vL : Value) (m : Lks) (g : Nat) (v : Value) (w : World) : Prop :=
 if g = 1 then v = vL
 else if g = 2 then ∃ a, v = .slice a 0 0
 else if g = 16 then ∃ a n c, v = .slice a n c ∧ Holds False (fun q => y.heap.size ≤ q) w v (dLinks m)
 else ∃ b a n c, v = .slice (some ⟨b, 0, none⟩) 1 1 ∧ w.cell? ⟨b, 0, none⟩ = some (.slice a n c) ∧ Holds False (fun q => y.heap.size ≤ q) w (.slice a n c) (dLinks m)
theorem phiL_mono {y : World} {vL : Value} {m : Lks} {g : Nat} {v : Value} {w w' : World} (h : phiL y vL m g v w) (hb : Below w.heap.size w w') : phiL y vL m g v w' := by
 unfold phiL at h ⊢
 split
 ·next e => rw [if_pos e] at h; exact h
 ·next e =>
  rw [if_neg e] at h
  split
  ·next e => rw [if_pos e] at h; exact h
  ·next e =>
   rw [if_neg e] at h
   split
   ·next e => rw [if_pos e] at h; obtain ⟨a, n, c, e, h⟩ := h; exact ⟨a, n, c, e, h.later hb⟩
   ·next e => rw [if_neg e] at h; obtain ⟨b, a, n, c, e, h1, h2⟩ := h; exact ⟨b, a, n, c, e, (hb.cell (World.block_lt_of_cell? w _ h1)).trans h1, h2.later hb⟩
theorem phiL16 {y : World} {vL : Value} {m : Lks} {v : Value} {w : World} : phiL y vL m 16 v w ↔ ∃ a n c, v = .slice a n c ∧ Holds False (fun q => y.heap.size ≤ q) w v (dLinks m) := by unfold phiL; rw [if_neg (by decide), if_neg (by decide), if_pos rfl]
theorem phiL17 {y : World} {vL : Value} {m : Lks} {v : Value} {w : World} : phiL y vL m 17 v w ↔ ∃ b a n c, v = .slice (some ⟨b, 0, none⟩) 1 1 ∧ w.cell? ⟨b, 0, none⟩ = some (.slice a n c) ∧ Holds False (fun q => y.heap.size ≤ q) w (.slice a n c) (dLinks m) := by unfold phiL; rw [if_neg (by decide), if_neg (by decide), if_neg (by decide)]
theorem fl_links (xs : Lks) : ∀ ds ∈ xs.map (fun p => [dI p.1, dI p.2]), ds.length = 2 := by intro ds h; obtain ⟨_, _, rfl⟩ := List.mem_map.1 h; rfl
theorem Holds.low {P : Nat → Prop} {w : World} {v : Value} {d : D} (h : Holds False P w v d) : Holds False (fun q => P q ∧ q ≠ w.heap.size) w v d := h.wide (fun _ hb hp => ⟨hp, Nat.ne_of_lt hb⟩)
set_option maxHeartbeats 8000000 in
set_option maxRecDepth 100000 in
theorem cutConf_at (c : Cf) (v1 v2 v3 : Value) (w : World) (hC : HasL w [v1, v2, v3] c.d) :
  Calls Try.prog 9 #[.agg #[v1, v2, v3]] w fun e w' => ∃ a1 a2 a3 n1 n2 n3 e1 e2 e3, e = .returned (.agg #[.slice a1 n1 e1, .slice a2 n2 e2, .slice a3 n3 e3]) ∧ HoldsL False (fun q => w.heap.size ≤ q) w' [.slice a1 n1 e1, .slice a2 n2 e2, .slice a3 n3 e3] (cutC c).d ∧ Below w.heap.size w w' := by
 obtain ⟨c1, c2, c3⟩ := cf_has hC
 obtain ⟨a1, e1, ee⟩ := slice_of c1
 subst ee
 obtain ⟨a2, e2, ee⟩ := slice_of c2
 subst ee
 obtain ⟨a3, e3, ee⟩ := slice_of c3
 subst ee
 obtain ⟨n1, hn1⟩ : ∃ n, n = c.states.length := ⟨_, rfl⟩
 obtain ⟨n2, hn2⟩ : ∃ n, n = c.links.length := ⟨_, rfl⟩
 obtain ⟨n3, hn3⟩ : ∃ n, n = c.sent.length := ⟨_, rfl⟩
 rw [← hn1] at c1 ⊢
 rw [← hn2] at c2 ⊢
 rw [← hn3] at c3 ⊢
 have hc1 := capOf c1
 have hc3 := capOf c3
 obtain ⟨k1, hk1⟩ : ∃ k, k = min n1 10 := ⟨_, rfl⟩
 obtain ⟨k3, hk3⟩ : ∃ k, k = min n3 40 := ⟨_, rfl⟩
 have hm1 : (if 10 < (n1 : Int) then (10 : Int) else (n1 : Int)) = (k1 : Int) := by split <;> omega
 have hm3 : (if 40 < (n3 : Int) then (40 : Int) else (n3 : Int)) = (k3 : Int) := by split <;> omega
 have hk1c : k1 ≤ e1 := by omega
 have hk3c : k3 ≤ e3 := by omega
 have hh1 : Has w (.slice a1 k1 e1) (dInts (c.states.take 10)) := by
  rw [take_of_min hn1 hk1]
  have h := Holds.take (m := k1) c1 (by rw [List.length_map, ← hn1]; omega)
  rw [← List.map_take] at h
  exact h
 have hh3 : Has w (.slice a3 k3 e3) (dInts (c.sent.take 40)) := by
  rw [take_of_min hn3 hk3]
  have h := Holds.take (m := k3) c3 (by rw [List.length_map, ← hn3]; omega)
  rw [← List.map_take] at h
  exact h
 obtain ⟨i1, hi1, hz1, hs1, hby1⟩ := info_parts infoI
 have H1 := Lib.hid hh1
 have H2 := Lib.hid c2
 have H3 := Lib.hid hh3
 have N2 := Lib.hid hn2
 have hk1x : k1 ≤ 10 := by omega
 have hk3x : k3 ≤ 40 := by omega
 clear hC c1 c2 c3 hh1 hh3 hn1 hn2 hn3 hk1 hk3
 go_enter Try.func9, Try.ntmps9
 try simp only [List.append_eq, List.cons_append, List.nil_append]
 go_upto_region 1 with fail
 obtain ⟨y0, hy0⟩ : ∃ y, y = (w.alloc (.cells #[.slice a1 n1 e1, .slice a2 n2 e2, .slice a3 n3 e3] 31)).alloc (.cells #[.slice none 0 0, .slice none 0 0, .slice none 0 0] 31) := ⟨_, rfl⟩
 have hb0 : Below w.heap.size w y0 := by rw [hy0]; exact below_step' (below_new _ _) (below_new _ _)
 have hx0 : BoxAt w.heap.size [.slice a1 n1 e1, .slice a2 n2 e2, .slice a3 n3 e3] y0 := by rw [hy0]; exact (boxAt_new w [.slice a1 n1 e1, .slice a2 n2 e2, .slice a3 n3 e3] _).below (below_new _ _)
 have hx1 : BoxAt (w.heap.size + 1) [.slice none 0 0, .slice none 0 0, .slice none 0 0] y0 := by
  have h := boxAt_new (w.alloc (.cells #[.slice a1 n1 e1, .slice a2 n2 e2, .slice a3 n3 e3] 31)) [.slice none 0 0, .slice none 0 0, .slice none 0 0] 31
  rw [size_alloc] at h
  rw [hy0]; exact h
 have ho1 : OpenRow y0 (w.heap.size + 1) 1 3 := by
  have h := heap_alloc_new (w.alloc (.cells #[.slice a1 n1 e1, .slice a2 n2 e2, .slice a3 n3 e3] 31)) (.cells #[.slice none 0 0, .slice none 0 0, .slice none 0 0] 31)
  rw [size_alloc] at h
  rw [hy0]; exact ⟨by decide, _, _, h, rfl⟩
 have hz0 : w.heap.size + 2 ≤ y0.heap.size := by rw [hy0]; simp
 rw [← hy0]
 obtain ⟨bc, hbc⟩ : ∃ b, b = w.heap.size := ⟨_, rfl⟩
 obtain ⟨br, hbr⟩ : ∃ b, b = w.heap.size + 1 := ⟨_, rfl⟩
 have hrr : br < y0.heap.size ∧ w.heap.size ≤ br ∧ w.heap.size ≤ bc ∧ bc ≠ br := by omega
 rw [← hbc] at hx0
 rw [← hbr] at hx1 ho1 ⊢
 rw [← hbc]
 have B0 := Lib.hid hb0
 have K0 := Lib.hid hx0
 have K1 := Lib.hid hx1
 have O1 := Lib.hid ho1
 have RR := Lib.hid hrr
 clear hy0 hb0 hx0 hx1 ho1 hz0 hbc hbr hrr
 refine wp_region_held_drew (S := (fun w' => w'.cell? ⟨bc, 0, none⟩ = some (.slice a1 n1 e1) ∧ w'.cell? ⟨bc, 2, none⟩ = some (.slice a3 n3 e3))) (by kernel_rfl) ?_ (fun hHeld => ?_)
 ·exact ⟨K0.out.below (below_drewN (Below.refl _ y0) 1) 0 _ rfl, K0.out.below (below_drewN (Below.refl _ y0) 1) 2 _ rfl⟩
 obtain ⟨yb, hyb⟩ : ∃ y, y = y0.drew := ⟨_, rfl⟩
 rw [← hyb] at hHeld ⊢
 have BYb : Hid (Below y0.heap.size y0 yb) := Lib.hid (by rw [hyb]; exact below_drewN (Below.refl _ y0) 1)
 clear hyb
 refine tq 1 ?_
 refine tq 2 ?_
 refine tq 3 ?_
 refine tq 4 ?_
 refine tq 5 ?_
 refine tq 6 ?_
 refine tq 7 ?_
 refine tq 10 ?_
 refine tq 11 ?_
 refine tq 12 ?_
 refine tq 13 ?_
 refine tq 14 ?_
 refine tq 15 ?_
 refine tq 16 ?_
 refine wpAnyH_group (n := 1) [0, 8, 9, 17, 18, 19] 20 (phi yb (c.states.take 10) (c.sent.take 40)) (psi yb (c.states.take 10) (c.sent.take 40)) (by kernel_rfl) (by kernel_rfl) (by kernel_rfl) (by kernel_rfl) (by kernel_rfl) (fun _ _ _ _ h hb => phi_mono h hb) (fun _ _ _ _ _ _ h hb => psi_mono h hb) ?step hHeld ?fin
 case step =>
  intro g hg o ho D vs a wx hD hgD hφ hψ hSx hbx hfr hdep K hK
  have hwz := hbx.size
  have SX : ∀ w', Below wx.heap.size wx w' → w'.cell? ⟨bc, 0, none⟩ = some (.slice a1 n1 e1) ∧ w'.cell? ⟨bc, 2, none⟩ = some (.slice a3 n3 e3) := fun w' hb => ⟨(hb.cell (World.block_lt_of_cell? wx _ hSx.1)).trans hSx.1, (hb.cell (World.block_lt_of_cell? wx _ hSx.2)).trans hSx.2⟩
  have BX := below_step' (below_step' B0.out BYb.out) hbx
  simp only [List.mem_cons, List.not_mem_nil, or_false] at hg
  rcases hg with rfl | rfl | rfl | rfl | rfl | rfl
  ·obtain rfl := Option.some.inj (show some _ = some o from ho)
   go_simp
   exact hK.out _ _ (SX _ (below_new _ _)) ((phi0 (.inl rfl)).2 ⟨_, rfl⟩) (fun h _ => psi_no (by decide) (by decide)) (below_new _ _)
  ·obtain rfl := Option.some.inj (show some _ = some o from ho)
   obtain ⟨h0, d0⟩ := hdep 0 (by simp) (ahead_mem (by kernel_rfl))
   obtain ⟨a0, ea0⟩ := (phi0 (.inl rfl)).1 (hφ 0 h0)
   have e5 := ev_of (d0 5 rfl)
   rw [ea0] at e5
   have e12 : a.eval (.tmp 12) = .slice a1 k1 e1 := ev_of ((hfr 12 (by decide)).trans rfl)
   refine wp_if (appS0 (ops := #[]) (F := True) rfl _ _ 28 3 i1 (.int .i64 0) 1 8 rfl Try.underlying28 hi1 hz1 hs1 hby1 rfl (by decide) a0 ((c.states.take 10).map fun a => [dI a]) k1 e1 e5 a1 e12 (H1.out.later BX) (fl_ints _) (flat_ints _) (by unfold maxLen; omega) (by omega) (fun ao cv w' hH hb => hK.out _ _ (SX w' hb) (phi8.2 ⟨ao, k1, cv, rfl, hH.loose.wide (fun q _ (h : wx.heap.size ≤ q) => Nat.le_trans hwz h)⟩) (fun h hh => ⟨fun e => absurd e (by decide), fun e p ep => ?_⟩) hb)) rfl
   subst e
   obtain ⟨p', e', _, hp2, _⟩ := phi19.1 (hφ 19 hh)
   rw [ep] at e'
   cases e'
   exact free8.2 (hH.loose.wide (fun q _ (h : wx.heap.size ≤ q) => ⟨Nat.le_trans hwz h, fun e => by omega⟩))
  ·obtain rfl := Option.some.inj (show some _ = some o from ho)
   go_simp
   exact hK.out _ _ (SX _ (below_new _ _)) ((phi0 (.inr rfl)).2 ⟨_, rfl⟩) (fun h _ => psi_no (by decide) (by decide)) (below_new _ _)
  ·obtain rfl := Option.some.inj (show some _ = some o from ho)
   obtain ⟨h0, d0⟩ := hdep 9 (by simp) (ahead_mem (by kernel_rfl))
   obtain ⟨a0, ea0⟩ := (phi0 (.inr rfl)).1 (hφ 9 h0)
   have e5 := ev_of (d0 14 rfl)
   rw [ea0] at e5
   have e12 : a.eval (.tmp 21) = .slice a3 k3 e3 := ev_of ((hfr 21 (by decide)).trans rfl)
   refine wp_if (appS0 (ops := #[]) (F := True) rfl _ _ 28 3 i1 (.int .i64 0) 1 8 rfl Try.underlying28 hi1 hz1 hs1 hby1 rfl (by decide) a0 ((c.sent.take 40).map fun a => [dI a]) k3 e3 e5 a3 e12 (H3.out.later BX) (fl_ints _) (flat_ints _) (by unfold maxLen; omega) (by omega) (fun ao cv w' hH hb => hK.out _ _ (SX w' hb) (phi17.2 ⟨ao, k3, cv, rfl, hH.loose.wide (fun q _ (h : wx.heap.size ≤ q) => Nat.le_trans hwz h)⟩) (fun h hh => ⟨fun e => absurd e (by decide), fun e p ep => ?_⟩) hb)) rfl
   subst e
   obtain ⟨p', e', _, hp2, _⟩ := phi19.1 (hφ 19 hh)
   rw [ep] at e'
   cases e'
   exact free17.2 (hH.loose.wide (fun q _ (h : wx.heap.size ≤ q) => ⟨Nat.le_trans hwz h, fun e => by omega⟩))
  ·obtain rfl := Option.some.inj (show some _ = some o from ho)
   obtain ⟨h8, d8⟩ := hdep 8 (by simp) (ahead_mem (by kernel_rfl))
   obtain ⟨h17, d17⟩ := hdep 17 (by simp) (ahead_mem (by kernel_rfl))
   obtain ⟨s1, m1, q1, ea, ha⟩ := phi8.1 (hφ 8 h8)
   obtain ⟨s3, m3, q3, eb, hb3⟩ := phi17.1 (hφ 17 h17)
   have e13 := d8 13 rfl
   have e22 := d17 22 rfl
   have PF : ∀ h ∈ D, psi yb (c.states.take 10) (c.sent.take 40) 18 h (.agg #[vs 8, .slice none 0 0, vs 17]) (vs h) wx := fun h hh => ⟨fun e => absurd e (by decide), fun e p ep => by
    subst e
    have p8 := (hψ 8 h8 19 hh (by decide)).elim (fun q => q.2 rfl p ep) (fun q => q.1 rfl p ep)
    have p17 := (hψ 17 h17 19 hh (by decide)).elim (fun q => q.2 rfl p ep) (fun q => q.1 rfl p ep)
    exact free18.2 ⟨s1, m1, q1, s3, m3, q3, by rw [ea, eb], by rw [← ea]; exact free8.1 p8, by rw [← eb]; exact free17.1 p17⟩⟩
   rw [ea, eb] at PF
   rw [ea] at e13 ha
   rw [eb] at e22 hb3
   clear hψ hφ hdep hfr d8 d17
   go_simp
   exact hK.out _ _ hSx (phi18.2 ⟨s1, m1, q1, s3, m3, q3, rfl, ha, hb3⟩) PF (Below.refl _ _)
  ·obtain rfl := Option.some.inj (show some _ = some o from ho)
   go_simp
   have hbn := below_new wx (.cells #[.slice none 0 0, .slice none 0 0, .slice none 0 0] 31)
   refine hK.out _ _ (SX _ hbn) (phi19.2 ⟨_, rfl, hwz, by simp, boxAt_new wx [.slice none 0 0, .slice none 0 0, .slice none 0 0] _, by decide, _, _, heap_alloc_new wx _, rfl⟩) (fun h hh => ⟨fun _ p ep => ?_, fun e => absurd (e ▸ hh) hgD⟩) hbn
   simp only [Value.pointer.injEq, Option.some.injEq, Addr.mk.injEq] at ep
   obtain ⟨ep, _⟩ := ep
   subst ep
   have hin := hD h hh
   simp only [List.mem_cons, List.not_mem_nil, or_false] at hin
   rcases hin with rfl | rfl | rfl | rfl | rfl | rfl
   ·exact free_no (by decide)
   ·obtain ⟨_, _, _, e, hr⟩ := phi8.1 (hφ 8 hh)
    exact free8.2 (hr.low.later hbn)
   ·exact free_no (by decide)
   ·obtain ⟨_, _, _, e, hr⟩ := phi17.1 (hφ 17 hh)
    exact free17.2 (hr.low.later hbn)
   ·obtain ⟨s1, m1, q1, s3, m3, q3, e, ha, hb3⟩ := phi18.1 (hφ 18 hh)
    exact free18.2 ⟨s1, m1, q1, s3, m3, q3, e, ha.low.later hbn, hb3.low.later hbn⟩
   ·exact absurd hh hgD
 case fin =>
  intro vs wx hSx hbx hφ hψ
  obtain ⟨s1, m1, o1, s3, m3, o3, e18, _, _⟩ := phi18.1 (hφ 18 (by simp))
  obtain ⟨p, e19, hp1, hp2, hbp, hop⟩ := phi19.1 (hφ 19 (by simp))
  have hfr := (hψ 18 (by simp) 19 (by simp) (by decide)).elim (fun q => q.2 rfl p e19) (fun q => q.1 rfl p e19)
  obtain ⟨t1, r1, u1, t3, r3, u3, e18', f1, f3⟩ := free18.1 hfr
  rw [e18] at e18'
  simp only [Value.agg.injEq, Array.mk.injEq, List.cons.injEq, Value.slice.injEq, and_true, true_and] at e18'
  obtain ⟨⟨ea, eb, ec⟩, ed, ee, ef⟩ := e18'
  subst ea eb ec ed ee ef
  obtain ⟨v0, hv0⟩ : ∃ v, v = vs 0 := ⟨_, rfl⟩
  obtain ⟨v8, hv8⟩ : ∃ v, v = vs 8 := ⟨_, rfl⟩
  obtain ⟨v9, hv9⟩ : ∃ v, v = vs 9 := ⟨_, rfl⟩
  obtain ⟨v17, hv17⟩ : ∃ v, v = vs 17 := ⟨_, rfl⟩
  change wpAnyH _ _ _ _ _ _ _ (((((((_ : Act).put (some 5) (vs 0)).put (some 13) (vs 8)).put (some 14) (vs 9)).put (some 22) (vs 17)).put (some 23) (vs 18)).put (some 3) (vs 19)) _
  rw [e18, e19, ← hv0, ← hv8, ← hv9, ← hv17]
  try simp only [Act.put, List.getElem_toArray, List.getElem_cons_zero, List.getElem_cons_succ, List.setIfInBounds_toArray, List.set_cons_zero, List.set_cons_succ]
  have F1 := Lib.hid f1
  have F3 := Lib.hid f3
  have BX := Lib.hid (below_step' BYb.out hbx)
  have hbxx := hbx
  have HBP := Lib.hid hbp
  have HOP := Lib.hid hop
  have HP1 := Lib.hid hp1
  have HP2 := Lib.hid hp2
  clear hv0 hv8 hv9 hv17 hφ hψ hbx f1 f3 e18 e19 hfr
  refine rd 20 fun K hK => ?_
  have k0 := hbp 0 _ rfl
  have k1 := hbp 1 _ rfl
  have k2 := hbp 2 _ rfl
  have q0 := hop.frozen 0
  have q1 := hop.frozen 1
  have q2 := hop.frozen 2
  clear hbp hop
  go_simp
  clear k0 k1 k2 q0 q1 q2
  obtain ⟨w9, hw9⟩ : ∃ x, x = ((wx.setCell ⟨p, 0, none⟩ (.slice s1 m1 o1)).setCell ⟨p, 1, none⟩ (.slice none 0 0)).setCell ⟨p, 2, none⟩ (.slice s3 m3 o3) := ⟨_, rfl⟩
  have r9 : BoxAt p [.slice s1 m1 o1, .slice none 0 0, .slice s3 m3 o3] w9 := by rw [hw9]; exact boxAt_set (j := 2) (u := .slice s3 m3 o3) (boxAt_set (j := 1) (u := .slice none 0 0) (boxAt_set (j := 0) (u := .slice s1 m1 o1) HBP.out))
  have o9 : OpenRow w9 p 1 3 := by rw [hw9]; exact ((HOP.out.set 0 _).set 1 _).set 2 _
  have hyp : y0.heap.size ≤ p := Nat.le_trans BYb.out.size HP1.out
  have b9 : Below yb.heap.size yb w9 := by rw [hw9]; exact ((hbxx.setCell HP1.out _).setCell HP1.out _).setCell HP1.out _
  have hs9 : SameOn (fun q => q ≠ p) wx w9 := by rw [hw9]; exact (((SameOn.refl _ wx).set ⟨p, 0, none⟩ _ (fun h => h rfl)).set ⟨p, 1, none⟩ _ (fun h => h rfl)).set ⟨p, 2, none⟩ _ (fun h => h rfl)
  have g1 := F1.out.same (hs9.sub (fun _ h => h.2))
  have g3 := F3.out.same (hs9.sub (fun _ h => h.2))
  have hp9 : p < w9.heap.size := Nat.lt_of_lt_of_le HP2.out hs9.1
  rw [← hw9]
  have R9 := Lib.hid r9
  have O9 := Lib.hid o9
  have B9 := Lib.hid b9
  have G1 := Lib.hid g1
  have G3 := Lib.hid g3
  have HP9 := Lib.hid hp9
  clear hw9 r9 o9 b9 hs9 g1 g3 hp9 hyp hbxx F1 F3 HBP HOP HP2
  refine hK.out _ _ ?_ (fun hHeld => ?_)
  ·exact ⟨K0.out.below (below_step' BYb.out B9.out) 0 _ rfl, K0.out.below (below_step' BYb.out B9.out) 2 _ rfl⟩
  clear hK K
  try simp only [Act.put, List.getElem_toArray, List.getElem_cons_zero, List.getElem_cons_succ, List.setIfInBounds_toArray, List.set_cons_zero, List.set_cons_succ]
  refine wpAnyH_done (by kernel_rfl) ?_ _
  go_wp2_with fail
  obtain ⟨iL, hiL, hzL, hsL, hbL⟩ := info_parts infoMsgs
  obtain ⟨iM, hiM, hzM, hsM, hbM⟩ := info_parts infoMsg
  have hC0 : CutAt yb w9 p (.slice s1 m1 o1) (.slice s3 m3 o3) (.slice none 0 0) [] w9 := ⟨R9.out 0 _ rfl, R9.out 2 _ rfl, ⟨R9.out 1 _ rfl, O9.out.frozen 1, ⟨Own.nil B9.out, fun k hk => by simp [Value.ownBlock] at hk⟩, by have := HP9.out; omega, HP1.out⟩, SameOn.refl _ _⟩
  have C0 := Lib.hid hC0
  clear hC0 R9 O9
  go_loopw [4] (fun i wr => ∃ (k : Nat) (v : Value), i = .int .i64 k ∧ k ≤ n2 ∧ k ≤ 40 ∧ CutAt yb w9 p (.slice s1 m1 o1) (.slice s3 m3 o3) v ((c.links.take k).map (·.take 30)) wr) (fun i _ => 40 - (intOf i).toNat)
  case atStart => exact ⟨0, _, rfl, by omega, by omega, C0.out⟩
  case round =>
   obtain ⟨k, v, rfl, hk, hk40, hCA⟩ := hrel
   have CA := Lib.hid hCA
   have hby := below_step' BYb.out hCA.f.bld.own.bel
   have BY := Lib.hid hby
   have c1 := K0.out.below hby 1 _ rfl
   clear hCA
   have hqw : w.heap.size ≤ bc ∧ w.heap.size ≤ br ∧ bc ≠ br ∧ br < yb.heap.size ∧ w.heap.size < yb.heap.size := by have h1 := RR.out; have h2 := BYb.out.size; omega
   have HQW := Lib.hid hqw
   clear hqw
   by_cases hlt : k < n2
   ·have hlt' : (k : Int) < n2 := by omega
    by_cases hl4 : k < 40
    ·have hl4' : (k : Int) < 40 := by omega
     obtain ⟨m, hm⟩ := some_of_lt (l := c.links) (i := k) (by rw [← N2.out]; exact hlt)
     obtain ⟨lb, lo, ma, mc, e, hlb, e9, z0, hmm0⟩ := lls_at H2.out hm
     clear e9
     subst e
     have hbw := below_step' B0.out hby
     have z1 := (hbw.cell (World.block_lt_of_cell? w _ z0)).trans z0
     have hmm := hmm0.later hbw
     have HLB : Hid (lb < y0.heap.size ∧ bc < y0.heap.size) := Lib.hid ⟨Nat.lt_of_lt_of_le hlb B0.out.size, World.block_lt_of_cell? y0 _ (K0.out 1 _ rfl)⟩
     clear z0 hmm0 hbw hlb
     obtain ⟨ml, hml⟩ : ∃ n, n = m.length := ⟨_, rfl⟩
     rw [← hml] at z1 hmm
     have hcm := capOf hmm
     obtain ⟨kk, hkk⟩ : ∃ x, x = min ml 30 := ⟨_, rfl⟩
     have hmn : (if 30 < (ml : Int) then (30 : Int) else (ml : Int)) = (kk : Int) := by split <;> omega
     have hkc : kk ≤ mc := by omega
     have hkx : kk ≤ 30 := by omega
     have hh : Has wr (.slice ma kk mc) (dLinks (m.take 30)) := by
      rw [take_of_min hml hkk]
      have h := Holds.take (m := kk) hmm (by rw [List.length_map, ← hml]; omega)
      rw [← List.map_take] at h
      exact h
     have HH := Lib.hid hh
     have HM := Lib.hid hm
     obtain ⟨va, vc, hv⟩ := CA.out.f.bld.own.slice
     rw [List.length_map, List.length_map, List.length_take, ← N2.out, Nat.min_eq_left hk] at hv
     subst hv
     have QS : Hid (∀ w', Below wr.heap.size wr w' → w'.cell? ⟨bc, 1, none⟩ = some (.slice (some ⟨lb, lo, none⟩) n2 e2) ∧ w'.cell? ⟨lb, lo + k, none⟩ = some (.slice ma ml mc)) := Lib.hid (fun w' hb => ⟨(hb.cell (World.block_lt_of_cell? wr _ c1)).trans c1, (hb.cell (World.block_lt_of_cell? wr _ z1)).trans z1⟩)
     clear hm hmm hh hml hkk hcm z1
     go_wp2_with fail
     clear c1
     refine wp_region_held_drew (S := (fun w' => w'.cell? ⟨bc, 1, none⟩ = some (.slice (some ⟨lb, lo, none⟩) n2 e2) ∧ w'.cell? ⟨lb, lo + k, none⟩ = some (.slice ma ml mc))) (by kernel_rfl) ?_ (fun hHeld => ?_)
     ·exact QS.out _ (below_drewN (Below.refl _ wr) 1)
     obtain ⟨yd, hyd⟩ : ∃ y, y = wr.drew := ⟨_, rfl⟩
     rw [← hyd] at hHeld ⊢
     have BD : Hid (Below wr.heap.size wr yd) := Lib.hid (by rw [hyd]; exact below_drewN (Below.refl _ wr) 1)
     clear hyd
     refine tq 0 ?_
     refine tq 3 ?_
     refine tq 4 ?_
     refine tq 5 ?_
     refine tq 6 ?_
     refine tq 7 ?_
     refine tq 8 ?_
     refine tq 9 ?_
     refine tq 10 ?_
     refine tq 11 ?_
     refine tq 12 ?_
     refine tq 13 ?_
     refine tq 14 ?_
     refine tq 15 ?_
     refine wpAnyH_group (n := 3) [1, 2, 16, 17] 18 (phiL yd (.slice va k vc) (m.take 30)) (fun _ _ _ _ _ => True) (by kernel_rfl) (by kernel_rfl) (by kernel_rfl) (by kernel_rfl) (by kernel_rfl) (fun _ _ _ _ h hb => phiL_mono h hb) (fun _ _ _ _ _ _ h _ => h) ?step2 hHeld ?fin2
     case step2 =>
      intro g hg o ho D vs a wy hD hgD hφ hψ hSx hby hfr hdep K hK
      have hwz := hby.size
      have SX : ∀ w', Below wy.heap.size wy w' → w'.cell? ⟨bc, 1, none⟩ = some (.slice (some ⟨lb, lo, none⟩) n2 e2) ∧ w'.cell? ⟨lb, lo + k, none⟩ = some (.slice ma ml mc) := fun w' hb => ⟨(hb.cell (World.block_lt_of_cell? wy _ hSx.1)).trans hSx.1, (hb.cell (World.block_lt_of_cell? wy _ hSx.2)).trans hSx.2⟩
      have BXY := below_step' BD.out hby
      simp only [List.mem_cons, List.not_mem_nil, or_false] at hg
      rcases hg with rfl | rfl | rfl | rfl
      ·obtain rfl := Option.some.inj (show some _ = some o from ho)
       have t35 : a.tmps[35]? = _ := (hfr 35 (by decide)).trans rfl
       have cl := ((CA.out.f.below BXY).cell)
       go_simp
       exact hK.out _ _ hSx (by unfold phiL; rw [if_pos rfl]) (fun _ _ => trivial) (Below.refl _ _)
      ·obtain rfl := Option.some.inj (show some _ = some o from ho)
       go_simp
       exact hK.out _ _ (SX _ (below_new _ _)) (by unfold phiL; rw [if_neg (by decide), if_pos rfl]; exact ⟨_, rfl⟩) (fun _ _ => trivial) (below_new _ _)
      ·obtain rfl := Option.some.inj (show some _ = some o from ho)
       obtain ⟨h0, d0⟩ := hdep 2 (by simp) (ahead_mem (by kernel_rfl))
       have h2 := hφ 2 h0
       unfold phiL at h2
       rw [if_neg (by decide), if_pos rfl] at h2
       obtain ⟨a0, ea0⟩ := h2
       have e5 := ev_of (d0 37 rfl)
       rw [ea0] at e5
       have e12 : a.eval (.tmp 50) = .slice ma kk mc := ev_of ((hfr 50 (by decide)).trans rfl)
       exact wp_if (appS0 (ops := #[]) (F := True) rfl _ _ 51 63 iM (.agg #[.int .i64 0, .int .i64 0]) 2 16 rfl Try.underlying51 hiM hzM hsM hbM rfl (by decide) a0 ((m.take 30).map fun p : Int × Int => [dI p.1, dI p.2]) kk mc e5 ma e12 (HH.out.later BXY) (fl_links _) (flat_links _) (by unfold maxLen; omega) (by omega) (fun ao cv w' hH hb => hK.out _ _ (SX w' hb) (phiL16.2 ⟨ao, kk, cv, rfl, hH.loose.wide (fun q _ (h : wy.heap.size ≤ q) => Nat.le_trans hwz h)⟩) (fun _ _ => trivial) hb)) rfl
      ·obtain rfl := Option.some.inj (show some _ = some o from ho)
       obtain ⟨h0, d0⟩ := hdep 16 (by simp) (ahead_mem (by kernel_rfl))
       obtain ⟨b1, b2, b3, e16, hb16⟩ := phiL16.1 (hφ 16 h0)
       have t51 := d0 51 rfl
       rw [e16] at t51 hb16
       clear hψ hφ hdep hfr d0
       go_simp
       have hbn := below_new wy (.cells #[.slice b1 b2 b3] 51)
       exact hK.out _ _ (SX _ hbn) (phiL17.2 ⟨_, b1, b2, b3, rfl, World.cell?_alloc_at _ _ _ _ rfl, hb16.later hbn⟩) (fun _ _ => trivial) hbn
     case fin2 =>
      intro vs wy hSx hby hφ hψ
      obtain ⟨bb, b1, b2, b3, e17, hcb, hb17⟩ := phiL17.1 (hφ 17 (by simp))
      have e1 : vs 1 = .slice va k vc := by have := hφ 1 (by simp); unfold phiL at this; rw [if_pos rfl] at this; exact this
      obtain ⟨v2, hv2⟩ : ∃ v, v = vs 2 := ⟨_, rfl⟩
      obtain ⟨v16, hv16⟩ : ∃ v, v = vs 16 := ⟨_, rfl⟩
      change wpAnyH _ _ _ _ _ _ _ (((((_ : Act).put (some 36) (vs 1)).put (some 37) (vs 2)).put (some 51) (vs 16)).put (some 52) (vs 17)) _
      rw [e17, e1, ← hv2, ← hv16]
      try simp only [Act.put, List.getElem_toArray, List.getElem_cons_zero, List.getElem_cons_succ, List.setIfInBounds_toArray, List.set_cons_zero, List.set_cons_succ]
      have BXY := Lib.hid (below_step' BD.out hby)
      have HB17 := Lib.hid hb17
      have HCB := Lib.hid hcb
      clear hv2 hv16 hφ hψ hby e17 e1 hb17 hcb
      have hqb : yb.heap.size ≤ w9.heap.size ∧ y0.heap.size ≤ yb.heap.size ∧ w9.heap.size ≤ wy.heap.size := ⟨B9.out.size, BYb.out.size, Nat.le_trans CA.out.s.1 BXY.out.size⟩
      have HQB := Lib.hid hqb
      have hlen : (((c.links.take k).map (·.take 30)).map fun m => [dLinks m]).length = k := by rw [List.length_map, List.length_map, List.length_take, ← N2.out]; omega
      clear hqb
      have hbp : bc ≠ p ∧ lb ≠ p ∧ bc < w9.heap.size ∧ lb < w9.heap.size := by have h1 := HLB.out; have h2 := HP1.out; have h3 := HQB.out; omega
      have HBP2 := Lib.hid hbp
      clear hbp
      refine rd 18 fun K hK => ?_
      refine appS rfl _ _ 29 51 iL (.slice none 0 0) 1 24 rfl Try.underlying29 hiL hzL hsL hbL rfl (by decide) False (fun q => w9.heap.size ≤ q) yb wr.heap.size _ (((c.links.take k).map (·.take 30)).map fun m => [dLinks m]) [[dLinks (m.take 30)]] k 1 1 (k + 1) rfl (CA.out.f.bld.own.later BXY.out) hlen (some ⟨bb, 0, none⟩) rfl [.slice b1 b2 b3] (fun a ha j u hu => by
       cases ha
       match j, hu with
       | 0, hu => cases hu; exact HCB.out) (fun e => by cases e) (by simp) rfl (by
       rw [List.flatten_cons, List.flatten_nil, List.append_nil]
       exact hl_cons (HB17.out.wide (fun q _ (h : yd.heap.size ≤ q) => by have h1 := BD.out.size; have h2 := CA.out.s.1; exact ⟨by omega, fun e => by have := CA.out.f.bld.own.blk q e; omega, fun f => f.elim⟩)) hl_nil) rfl (by unfold maxLen; omega) (by omega) ?_
      intro ao cv w6 hO6 hg6 hb6
      obtain ⟨hCN, hc6, hf6, hk6⟩ := CA.out.push HP9.out BXY.out hO6 hg6 hb6
      have v1 := hk6 _ _ hSx.1 HBP2.out.2.2.1
      have v2' := hk6 _ _ hSx.2 HBP2.out.2.2.2
      have CN := Lib.hid hCN
      have V1 := Lib.hid (v1.2 HBP2.out.1)
      have V2 := Lib.hid (v2'.2 HBP2.out.2.1)
      have HC6 := Lib.hid hc6
      have HF6 := Lib.hid hf6
      refine hK.out _ _ ⟨v1.1, v2'.1⟩ (fun hHeld => ?_)
      clear hK K hO6 hg6 hb6 hCN hc6 hf6 hk6 v1 v2'
      try simp only [Act.put, List.getElem_toArray, List.getElem_cons_zero, List.getElem_cons_succ, List.setIfInBounds_toArray, List.set_cons_zero, List.set_cons_succ]
      refine tq 19 ?_
      refine rd 20 fun K hK => ?_
      have z6 := HC6.out
      have zf6 := HF6.out
      go_simp
      clear z6 zf6
      refine hK.out _ _ ⟨V1.out, V2.out⟩ (fun hHeld => ?_)
      clear hK K
      try simp only [Act.put, List.getElem_toArray, List.getElem_cons_zero, List.getElem_cons_succ, List.setIfInBounds_toArray, List.set_cons_zero, List.set_cons_succ]
      refine wpAnyH_done (by kernel_rfl) ?_ _
      go_wp2_with fail
      go_roundw
      case rel =>
       refine ⟨k + 1, .slice ao (k + 1) cv, by go_num, by omega, by omega, ?_⟩
       rw [List.take_add_one, HM.out]
       simp only [Option.toList, List.map_append, List.map_cons, List.map_nil]
       exact CN.out
      case measure => simp [intOf]; omega
    ·have hl4' : ¬ (k : Int) < 40 := by omega
     have eQ : (c.links.take k).map (·.take 30) = (cutC c).links := by rw [show k = 40 by omega]; rfl
     have EQ := Lib.hid eQ
     clear eQ
     obtain ⟨va, vc, hv⟩ := CA.out.f.bld.own.slice
     rw [List.length_map, List.length_map, List.length_take, ← N2.out, Nat.min_eq_left hk] at hv
     subst hv
     have hG1 := (G1.out.wide (P' := fun q => (w9.heap.size > q ∧ q ≠ p) ∧ w.heap.size < q ∧ q ≠ br) (fun q hq hh => ⟨⟨hq, hh.2⟩, by have h1 := hh.1; have h2 := HQW.out; omega⟩)).same (CA.out.s.sub (fun q h => h.1))
     have hG3 := (G3.out.wide (P' := fun q => (w9.heap.size > q ∧ q ≠ p) ∧ w.heap.size < q ∧ q ≠ br) (fun q hq hh => ⟨⟨hq, hh.2⟩, by have h1 := hh.1; have h2 := HQW.out; omega⟩)).same (CA.out.s.sub (fun q h => h.1))
     have hB2 := CA.out.f.bld.holds
     rw [EQ.out] at hB2
     have r0 := CA.out.c0
     have r1 := CA.out.f.cell
     have r2 := CA.out.c2
     have hk1 := K1.out.below hby
     have hO1 := O1.out.same (SameOn.of_below (P := fun _ => True) hby) trivial RR.out.1
     have b0 := hk1 0 _ rfl
     have b1 := hk1 1 _ rfl
     have b2 := hk1 2 _ rfl
     have f0 := hO1.frozen 0
     have f1 := hO1.frozen 1
     have f2 := hO1.frozen 2
     have HK1 := Lib.hid hk1
     have HG1 := Lib.hid hG1
     have HG3 := Lib.hid hG3
     have HB2 := Lib.hid hB2
     clear hk1 hO1 hG1 hG3 hB2
     go_wp2_with fail
     obtain ⟨wZ, hwZ⟩ : ∃ x, x = ((wr.setCell ⟨br, 0, none⟩ (.slice s1 m1 o1)).setCell ⟨br, 1, none⟩ (.slice va k vc)).setCell ⟨br, 2, none⟩ (.slice s3 m3 o3) := ⟨_, rfl⟩
     have hBZ : BoxAt br [.slice s1 m1 o1, .slice va k vc, .slice s3 m3 o3] wZ := by rw [hwZ]; exact boxAt_set (j := 2) (u := .slice s3 m3 o3) (boxAt_set (j := 1) (u := .slice va k vc) (boxAt_set (j := 0) (u := .slice s1 m1 o1) HK1.out))
     have hsZ : SameOn (fun q => q ≠ br) wr wZ := by rw [hwZ]; exact (((SameOn.refl _ wr).set ⟨br, 0, none⟩ _ (fun h => h rfl)).set ⟨br, 1, none⟩ _ (fun h => h rfl)).set ⟨br, 2, none⟩ _ (fun h => h rfl)
     have hbZ : Below w.heap.size w wZ := by
      rw [hwZ]
      exact (((below_step' B0.out BY.out).setCell HQW.out.2.1 _).setCell HQW.out.2.1 _).setCell HQW.out.2.1 _
     have z1 := (HG1.out.same (hsZ.sub (fun _ h => h.2.2))).wide (P' := fun q => w.heap.size ≤ q) (fun q _ h => Nat.le_of_lt h.2.1)
     have z3 := (HG3.out.same (hsZ.sub (fun _ h => h.2.2))).wide (P' := fun q => w.heap.size ≤ q) (fun q _ h => Nat.le_of_lt h.2.1)
     have z2 := ((HB2.out.wide (P' := fun q => w.heap.size < q ∧ q ≠ br) (fun q _ (h : w9.heap.size ≤ q) => by have h1 := HQW.out; have h2 := B9.out.size; omega)).same (hsZ.sub (fun _ h => h.2))).wide (P' := fun q => w.heap.size ≤ q) (fun q _ h => Nat.le_of_lt h.1)
     have q0 := hBZ 0 _ rfl
     have q1 := hBZ 1 _ rfl
     have q2 := hBZ 2 _ rfl
     rw [← hwZ]
     refine bodyPost_ret (v := .agg #[.slice s1 m1 o1, .slice va k vc, .slice s3 m3 o3]) (by simp [results, Try.results9, go_sem, q0, q1, q2]) rfl ?_
     exact ⟨_, _, _, _, _, _, _, _, _, rfl, hl_cons z1 (hl_cons z2 (hl_cons z3 hl_nil)), hbZ⟩
   ·have hlt' : ¬ (k : Int) < n2 := by omega
    have eQ : (c.links.take k).map (·.take 30) = (cutC c).links := by show _ = (c.links.take 40).map (·.take 30); rw [List.take_of_length_le (by rw [← N2.out]; omega), List.take_of_length_le (by rw [← N2.out]; omega)]
    have EQ := Lib.hid eQ
    clear eQ
    obtain ⟨va, vc, hv⟩ := CA.out.f.bld.own.slice
    rw [List.length_map, List.length_map, List.length_take, ← N2.out, Nat.min_eq_left hk] at hv
    subst hv
    have hG1 := (G1.out.wide (P' := fun q => (w9.heap.size > q ∧ q ≠ p) ∧ w.heap.size < q ∧ q ≠ br) (fun q hq hh => ⟨⟨hq, hh.2⟩, by have h1 := hh.1; have h2 := HQW.out; omega⟩)).same (CA.out.s.sub (fun q h => h.1))
    have hG3 := (G3.out.wide (P' := fun q => (w9.heap.size > q ∧ q ≠ p) ∧ w.heap.size < q ∧ q ≠ br) (fun q hq hh => ⟨⟨hq, hh.2⟩, by have h1 := hh.1; have h2 := HQW.out; omega⟩)).same (CA.out.s.sub (fun q h => h.1))
    have hB2 := CA.out.f.bld.holds
    rw [EQ.out] at hB2
    have r0 := CA.out.c0
    have r1 := CA.out.f.cell
    have r2 := CA.out.c2
    have hk1 := K1.out.below hby
    have hO1 := O1.out.same (SameOn.of_below (P := fun _ => True) hby) trivial RR.out.1
    have b0 := hk1 0 _ rfl
    have b1 := hk1 1 _ rfl
    have b2 := hk1 2 _ rfl
    have f0 := hO1.frozen 0
    have f1 := hO1.frozen 1
    have f2 := hO1.frozen 2
    have HK1 := Lib.hid hk1
    have HG1 := Lib.hid hG1
    have HG3 := Lib.hid hG3
    have HB2 := Lib.hid hB2
    clear hk1 hO1 hG1 hG3 hB2
    go_wp2_with fail
    obtain ⟨wZ, hwZ⟩ : ∃ x, x = ((wr.setCell ⟨br, 0, none⟩ (.slice s1 m1 o1)).setCell ⟨br, 1, none⟩ (.slice va k vc)).setCell ⟨br, 2, none⟩ (.slice s3 m3 o3) := ⟨_, rfl⟩
    have hBZ : BoxAt br [.slice s1 m1 o1, .slice va k vc, .slice s3 m3 o3] wZ := by rw [hwZ]; exact boxAt_set (j := 2) (u := .slice s3 m3 o3) (boxAt_set (j := 1) (u := .slice va k vc) (boxAt_set (j := 0) (u := .slice s1 m1 o1) HK1.out))
    have hsZ : SameOn (fun q => q ≠ br) wr wZ := by rw [hwZ]; exact (((SameOn.refl _ wr).set ⟨br, 0, none⟩ _ (fun h => h rfl)).set ⟨br, 1, none⟩ _ (fun h => h rfl)).set ⟨br, 2, none⟩ _ (fun h => h rfl)
    have hbZ : Below w.heap.size w wZ := by
     rw [hwZ]
     exact (((below_step' B0.out BY.out).setCell HQW.out.2.1 _).setCell HQW.out.2.1 _).setCell HQW.out.2.1 _
    have z1 := (HG1.out.same (hsZ.sub (fun _ h => h.2.2))).wide (P' := fun q => w.heap.size ≤ q) (fun q _ h => Nat.le_of_lt h.2.1)
    have z3 := (HG3.out.same (hsZ.sub (fun _ h => h.2.2))).wide (P' := fun q => w.heap.size ≤ q) (fun q _ h => Nat.le_of_lt h.2.1)
    have z2 := ((HB2.out.wide (P' := fun q => w.heap.size < q ∧ q ≠ br) (fun q _ (h : w9.heap.size ≤ q) => by have h1 := HQW.out; have h2 := B9.out.size; omega)).same (hsZ.sub (fun _ h => h.2))).wide (P' := fun q => w.heap.size ≤ q) (fun q _ h => Nat.le_of_lt h.1)
    have q0 := hBZ 0 _ rfl
    have q1 := hBZ 1 _ rfl
    have q2 := hBZ 2 _ rfl
    rw [← hwZ]
    refine bodyPost_ret (v := .agg #[.slice s1 m1 o1, .slice va k vc, .slice s3 m3 o3]) (by simp [results, Try.results9, go_sem, q0, q1, q2]) rfl ?_
    exact ⟨_, _, _, _, _, _, _, _, _, rfl, hl_cons z1 (hl_cons z2 (hl_cons z3 hl_nil)), hbZ⟩
end Go.Proofs.Ytiblcpkejhiehaa

set_option linter.unusedSimpArgs false
set_option linter.unusedVariables false
namespace Go.Proofs.Ytiblcpkejhiehaa
open Go.RowKit Go.PlainAid
set_option maxHeartbeats 8000000 in
set_option maxRecDepth 100000 in
theorem where_at (A : Ap) (N : Int) (vG : Value) (s0 s1 s2 s3 s4 : Int) (w : World) (hG : LinksAt w vG A.l) (hln : A.l.length ≤ 1000000) :
  Calls Try.prog 17 #[.agg #[.int .i64 N, vG], .agg #[.int .i64 s0, .int .i64 s1, .int .i64 s2, .int .i64 s3, .int .i64 s4]] w fun e w' => e = .returned (.int .i64 (whereOf A ⟨s0, s1, s2, s3, s4⟩)) ∧ Below w.heap.size w w' := by
 obtain ⟨ga, gc, ee⟩ := slice_of (has_of_links hG)
 subst ee
 obtain ⟨gl, hgl⟩ : ∃ n, n = A.l.length := ⟨_, rfl⟩
 rw [← hgl] at hG hln ⊢
 have HG := Lib.hid hG
 have GL := Lib.hid hgl
 obtain ⟨r, hr⟩ : ∃ r, r = whereOf A ⟨s0, s1, s2, s3, s4⟩ := ⟨_, rfl⟩
 rw [← hr]
 have HR := Lib.hid hr
 unfold whereOf at hr
 simp only at hr
 clear hG hgl
 by_cases g0 : s0 = 0
 ·rw [if_pos g0] at hr
  subst hr
  have g0' : (s0 == 0) = true := by simpa using g0
  clear HR
  go_enter Try.func17, Try.ntmps17
  go_wp2_with fail
  go_ret
  exact ⟨rfl, by go_grown⟩
 ·rw [if_neg g0] at hr
  have g0' : (s0 == 0) = false := by simpa using g0
  clear g0
  by_cases g1 : s3 < 0
  ·rw [if_pos (.inl g1)] at hr
   subst hr
   have g1' : decide (s3 < 0) = true := by simpa using g1
   clear HR
   go_enter Try.func17, Try.ntmps17
   go_wp2_with fail
   go_ret
   exact ⟨rfl, by go_grown⟩
  ·have g1' : decide (s3 < 0) = false := by simpa using g1
   by_cases g2 : (gl : Int) ≤ s3
   ·rw [if_pos (.inr (by rw [← GL.out]; exact g2))] at hr
    subst hr
    have g2' : decide ((gl : Int) ≤ s3) = true := by simpa using g2
    clear HR
    go_enter Try.func17, Try.ntmps17
    go_wp2_with fail
    go_ret
    exact ⟨rfl, by go_grown⟩
   ·have g2' : decide ((gl : Int) ≤ s3) = false := by simpa using g2
    rw [if_neg (by rw [← GL.out]; omega)] at hr
    obtain ⟨i, rfl⟩ := Int.eq_ofNat_of_zero_le (show 0 ≤ s3 by omega)
    have hi : i < gl := by omega
    have hi' : (i : Int) < gl := by omega
    obtain ⟨⟨x, y⟩, hp⟩ := some_of_lt (l := A.l) (i := i) (by rw [← GL.out]; exact hi)
    obtain ⟨b, o, e, z1, z2⟩ := link_at (has_of_links HG.out) hp
    subst e
    simp only at z1 z2
    rw [Int.toNat_natCast, lk_of hp] at hr
    subst hr
    clear HR hp
    have bl : b < w.heap.size := World.block_lt_of_cell? w _ z2
    have Z2 : Hid (∀ w', Below w.heap.size w w' → w'.cell? ⟨b, o + i * 2 + 1, none⟩ = some (.int .i64 r)) := Lib.hid (fun w' hb => (hb.cell bl).trans z2)
    go_enter Try.func17, Try.ntmps17
    go_wp2_with fail
    go_ret
    exact ⟨rfl, by go_grown⟩
end Go.Proofs.Ytiblcpkejhiehaa

set_option linter.unusedSimpArgs false
set_option linter.unusedVariables false
namespace Go.Proofs.Ytiblcpkejhiehaa
open Go.RowKit Go.PlainAid
theorem cutC_small (c : Cf) : SmallCf (cutC c) := by
 refine ⟨by simp [cutC]; omega, by simp [cutC]; omega, by simp [cutC]; omega, fun m hm => ?_⟩
 obtain ⟨m', _, rfl⟩ := List.mem_map.1 hm
 rw [List.length_take]; omega
def phiR (A : Ap) (vG : Value) (cs : Array Value) (g : Nat) (v : Value) (w : World) : Prop := if g = 1 then ∃ uT, v = .agg #[.int .i64 A.n, vG, uT, .bool A.ff] ∧ Has w uT (dTab A.t) else v = .agg cs
theorem phiR_mono {A : Ap} {vG : Value} {cs : Array Value} {g : Nat} {v : Value} {w w' : World} (h : phiR A vG cs g v w) (hb : Below w.heap.size w w') : phiR A vG cs g v w' := by
 unfold phiR at h ⊢
 split
 ·next e => rw [if_pos e] at h; obtain ⟨u, e, h⟩ := h; exact ⟨u, e, h.later hb⟩
 ·next e => rw [if_neg e] at h; exact h
set_option maxRecDepth 100000 in
theorem open_two {H : Type} {enc : TypeId × Value → H} {W : World} {b0 : Nat} {v : Value} {d : DataW H} {ps : List MemPlace} (hval : Value.okWide Try.prog W .any b0 52 v) (hd : DataW.Trod enc Try.prog W 0 (fun _ => true) true 52 v d ps) :
  ∃ a b : Int, v = .agg #[.int .i64 a, .int .i64 b] := by
 have hu := Try.underlying52
 have h3 : Try.prog.cellsOf 52 = 2 := by kernel_rfl
 simp only [Value.okWide, hu] at hval
 obtain ⟨cs, rfl, h2, _⟩ := hval
 obtain ⟨n, hn⟩ := hd
 obtain ⟨hl, hv⟩ := ints_of_array hu h3 hn
 obtain ⟨a, ha, _⟩ := hv 0 (by omega)
 obtain ⟨b, hb, _⟩ := hv 1 (by omega)
 obtain ⟨l⟩ := cs
 simp [Value.cells] at hl ha hb
 match l, hl with
 | [x, y], _ =>
  simp at ha hb
  subst ha hb
  exact ⟨_, _, rfl⟩
theorem and65535 (x : Int) : 0 ≤ bits .and .i64 x 65535 ∧ bits .and .i64 x 65535 ≤ 65535 := by
 have h : (BitVec.ofInt 64 x &&& BitVec.ofInt 64 65535).toNat ≤ 65535 := by
  rw [BitVec.toNat_and]
  exact Nat.le_trans Nat.and_le_right (by decide)
 show 0 ≤ IntKind.i64.wrap ((BitVec.ofInt 64 x &&& BitVec.ofInt 64 65535).toNat : Int) ∧ IntKind.i64.wrap ((BitVec.ofInt 64 x &&& BitVec.ofInt 64 65535).toNat : Int) ≤ 65535
 rw [IntWalk.i64_in _ (by omega)]
 omega
theorem step_of (x : Int) (N : Nat) (h : 0 < N) : ∃ (m : Int) (a : Nat), bits .and .i64 x 65535 = m ∧ m.tmod (N : Int) = (a : Int) ∧ a < N := by
 obtain ⟨h0, h1⟩ := and65535 x
 refine ⟨_, ((bits .and .i64 x 65535).tmod (N : Int)).toNat, rfl, ?_, ?_⟩
 ·rw [Int.toNat_of_nonneg (Int.tmod_nonneg _ h0)]
 ·have := Int.tmod_lt_of_pos (bits .and .i64 x 65535) (show (0 : Int) < N by omega)
  have := Int.tmod_nonneg (N : Int) h0
  omega
theorem small_okT {A : Ap} {c : Cf} (h : CfOK A c) : SmallCf c := by
 have h1 := h.1.1.2.2.1
 have h2 := h.1.1.2.1
 have h3 := h.2.states
 have h4 := h.2.links
 have h5 := h.2.sent
 refine ⟨by omega, by omega, by omega, fun m hm => ?_⟩
 obtain ⟨i, hi⟩ := List.mem_iff_getElem?.1 hm
 obtain ⟨q, m', _, hm', hk⟩ := cf_at h (i := i) (by have := lt_of_get hi; omega)
 rw [hi] at hm'
 cases hm'
 have := linkOK_len hk
 omega
def phiW (A : Ap) (s t : Sp) (vG : Value) (g : Nat) (v : Value) (_ : World) : Prop :=
 if g = 2 ∨ g = 8 then v = .agg #[.int .i64 A.n, vG]
 else if g = 4 then v = .agg #[.int .i64 s.kind, .int .i64 s.node, .int .i64 s.k, .int .i64 s.link, .int .i64 s.seq]
 else if g = 10 then v = .agg #[.int .i64 t.kind, .int .i64 t.node, .int .i64 t.k, .int .i64 t.link, .int .i64 t.seq]
 else if g = 5 then v = .int .i64 (whereOf A ⟨s.kind, s.node, s.k, s.link, s.seq⟩)
 else v = .int .i64 (whereOf A ⟨t.kind, t.node, t.k, t.link, t.seq⟩)
theorem phiW2 {A : Ap} {s t : Sp} {vG v : Value} {w : World} : phiW A s t vG 2 v w ↔ v = .agg #[.int .i64 A.n, vG] := by unfold phiW; rw [if_pos (by decide)]
theorem phiW8 {A : Ap} {s t : Sp} {vG v : Value} {w : World} : phiW A s t vG 8 v w ↔ v = .agg #[.int .i64 A.n, vG] := by unfold phiW; rw [if_pos (by decide)]
theorem phiW4 {A : Ap} {s t : Sp} {vG v : Value} {w : World} : phiW A s t vG 4 v w ↔ v = .agg #[.int .i64 s.kind, .int .i64 s.node, .int .i64 s.k, .int .i64 s.link, .int .i64 s.seq] := by unfold phiW; rw [if_neg (by decide), if_pos rfl]
theorem phiW10 {A : Ap} {s t : Sp} {vG v : Value} {w : World} : phiW A s t vG 10 v w ↔ v = .agg #[.int .i64 t.kind, .int .i64 t.node, .int .i64 t.k, .int .i64 t.link, .int .i64 t.seq] := by unfold phiW; rw [if_neg (by decide), if_neg (by decide), if_pos rfl]
theorem phiW5 {A : Ap} {s t : Sp} {vG v : Value} {w : World} : phiW A s t vG 5 v w ↔ v = .int .i64 (whereOf A ⟨s.kind, s.node, s.k, s.link, s.seq⟩) := by unfold phiW; rw [if_neg (by decide), if_neg (by decide), if_neg (by decide), if_pos rfl]
theorem phiW11 {A : Ap} {s t : Sp} {vG v : Value} {w : World} : phiW A s t vG 11 v w ↔ v = .int .i64 (whereOf A ⟨t.kind, t.node, t.k, t.link, t.seq⟩) := by unfold phiW; rw [if_neg (by decide), if_neg (by decide), if_neg (by decide), if_neg (by decide)]
def phiB (y : World) (v : Value) (w : World) : Prop := ∃ p, v = .pointer (some ⟨p, 0, none⟩) ∧ y.heap.size ≤ p ∧ p < w.heap.size ∧ BoxAt p [.int .i64 0, .int .i64 0, .int .i64 0, .int .i64 0, .int .i64 0] w ∧ OpenRow w p 1 5
theorem phiB_mono {y : World} {v : Value} {w w' : World} (h : phiB y v w) (hb : Below w.heap.size w w') : phiB y v w' := by
 obtain ⟨p, e, h1, h2, h3, h4⟩ := h
 exact ⟨p, e, h1, Nat.lt_of_lt_of_le h2 hb.size, h3.below hb, h4.same (SameOn.of_below (P := fun _ => True) hb) trivial h2⟩
set_option maxHeartbeats 8000000 in
set_option maxRecDepth 100000 in
theorem walkPlainTurns (N0 : Int) (u0 : Value) (L0 : Lks) (t0 : Value) (M0 : Tab) (ff : Bool) (v1 v2 v3 : Value) (c1 : Cf) (i0 i1 : Int) (w : World) (wL : LinksAt w u0 L0) (wW0 : ∀ p ∈ L0, wfp p) (wT : Has w t0 (dTab M0)) (wC : HasL w [v1, v2, v3] c1.d) :
  Calls Try.prog 4 #[.agg #[.int .i64 N0, u0, t0, .bool ff], .agg #[v1, v2, v3], .agg #[.int .i64 i0, .int .i64 i1]] w fun e w' => e = .returned (.bool true) ∧ Below w.heap.size w w' := by
 obtain ⟨ga0, gc, ee⟩ := slice_of (has_of_links wL)
 subst ee
 obtain ⟨ta0, tc0, ee⟩ := slice_of wT
 subst ee
 obtain ⟨A, hA⟩ : ∃ A, A = Ap.mk N0 (L0.take 40) (cutT M0) ff := ⟨_, rfl⟩
 have hgl40 := take_le L0
 have hwf := wf_take wW0
 have hLC := linksAt_cut wL
 obtain ⟨gl0, hgl0⟩ : ∃ n, n = L0.length := ⟨_, rfl⟩
 obtain ⟨tl0, htl0⟩ : ∃ n, n = M0.length := ⟨_, rfl⟩
 obtain ⟨gl, hgl⟩ : ∃ n, n = (L0.take 40).length := ⟨_, rfl⟩
 rw [← hgl] at hgl40 hLC
 rw [← hgl0] at wL ⊢
 rw [← htl0] at wT ⊢
 have WL := Lib.hid wL
 have WT := Lib.hid wT
 have AE := Lib.hid hA
 have GL0 := Lib.hid hgl0
 have GLE := Lib.hid hgl
 have HLC := Lib.hid hLC
 have HWF := Lib.hid hwf
 have hAn : A.n = N0 := by rw [hA]
 have hAl : A.l = L0.take 40 := by rw [hA]
 have hAt : A.t = cutT M0 := by rw [hA]
 have hAf : A.ff = ff := by rw [hA]
 have AN := Lib.hid hAn
 have AL := Lib.hid hAl
 have AT := Lib.hid hAt
 have AF := Lib.hid hAf
 have SMT : Hid (SmallTab A.t) := Lib.hid (by rw [hAt]; exact cutT_small M0)
 have LN : Hid (A.l.length ≤ 40) := Lib.hid (by rw [hAl]; exact take_le L0)
 have WFA : Hid (∀ p ∈ A.l, wfp p) := Lib.hid (by rw [hAl]; exact hwf)
 clear wL wW0 wT hA hwf hgl0 htl0 hgl hLC hAn hAl hAt hAf
 obtain ⟨ua1, ua2, ua3, un1, un2, un3, ue1, ue2, ue3, ee1, ee2, ee3⟩ := cf_slices' wC
 subst ee1
 subst ee2
 subst ee3
 have WC := Lib.hid wC
 have SMC : Hid (SmallCf (cutC c1)) := Lib.hid (cutC_small c1)
 clear wC
 go_enter Try.func4, Try.ntmps4
 try simp only [List.append_eq, List.cons_append, List.nil_append]
 go_upto_region 1 with fail
 obtain ⟨y0, hy0⟩ : ∃ y, y = ((w.alloc (.cells #[.int .i64 N0, .slice ga0 gl0 gc, .slice ta0 tl0 tc0, .bool ff] 27)).alloc (.cells #[.slice ua1 un1 ue1, .slice ua2 un2 ue2, .slice ua3 un3 ue3] 31)).alloc (.cells #[.int .i64 i0, .int .i64 i1] 52) := ⟨_, rfl⟩
 obtain ⟨x1, hx1⟩ : ∃ y, y = w.alloc (.cells #[.int .i64 N0, .slice ga0 gl0 gc, .slice ta0 tl0 tc0, .bool ff] 27) := ⟨_, rfl⟩
 obtain ⟨x2, hx2⟩ : ∃ y, y = x1.alloc (.cells #[.slice ua1 un1 ue1, .slice ua2 un2 ue2, .slice ua3 un3 ue3] 31) := ⟨_, rfl⟩
 have s1 : x1.heap.size = w.heap.size + 1 := by rw [hx1]; simp
 have s2 : x2.heap.size = w.heap.size + 2 := by rw [hx2, World.size_alloc, s1]
 have b1 : Below w.heap.size w x1 := by rw [hx1]; exact below_new _ _
 have b2 : Below x1.heap.size x1 x2 := by rw [hx2]; exact below_new _ _
 have b3 : Below x2.heap.size x2 y0 := by rw [hy0, ← hx1, ← hx2]; exact below_new _ _
 have BA0 : Hid (Below w.heap.size w y0) := Lib.hid (below_step' (below_step' b1 b2) b3)
 have h1y := below_step' b2 b3
 have ka0 : BoxAt w.heap.size [.int .i64 N0, .slice ga0 gl0 gc, .slice ta0 tl0 tc0, .bool ff] y0 := by
  have h : BoxAt w.heap.size [.int .i64 N0, .slice ga0 gl0 gc, .slice ta0 tl0 tc0, .bool ff] x1 := by rw [hx1]; exact boxAt_new w [.int .i64 N0, .slice ga0 gl0 gc, .slice ta0 tl0 tc0, .bool ff] _
  exact h.below h1y
 have oa0 : OpenRow y0 w.heap.size 1 4 := by
  have h : OpenRow x1 w.heap.size 1 4 := by rw [hx1]; exact ⟨by decide, _, _, heap_alloc_new w _, rfl⟩
  exact h.same (SameOn.of_below (P := fun _ => True) h1y) trivial (by omega)
 have kc0 : BoxAt (w.heap.size + 1) [.slice ua1 un1 ue1, .slice ua2 un2 ue2, .slice ua3 un3 ue3] y0 := by
  have h : BoxAt x1.heap.size [.slice ua1 un1 ue1, .slice ua2 un2 ue2, .slice ua3 un3 ue3] x2 := by rw [hx2]; exact boxAt_new x1 [.slice ua1 un1 ue1, .slice ua2 un2 ue2, .slice ua3 un3 ue3] _
  rw [← s1]
  exact h.below b3
 have oc0 : OpenRow y0 (w.heap.size + 1) 1 3 := by
  have h : OpenRow x2 x1.heap.size 1 3 := by rw [hx2]; exact ⟨by decide, _, _, heap_alloc_new x1 _, rfl⟩
  rw [← s1]
  exact h.same (SameOn.of_below (P := fun _ => True) b3) trivial (by omega)
 have kn0 : BoxAt (w.heap.size + 2) [.int .i64 i0, .int .i64 i1] y0 := by
  rw [hy0, ← hx1, ← hx2, ← s2]
  exact boxAt_new x2 [.int .i64 i0, .int .i64 i1] _
 have sz : y0.heap.size = w.heap.size + 3 := by rw [hy0, ← hx1, ← hx2, World.size_alloc, s2]
 rw [← hy0]
 obtain ⟨ba, hba⟩ : ∃ b, b = w.heap.size := ⟨_, rfl⟩
 obtain ⟨bc, hbc⟩ : ∃ b, b = w.heap.size + 1 := ⟨_, rfl⟩
 obtain ⟨bn, hbn⟩ : ∃ b, b = w.heap.size + 2 := ⟨_, rfl⟩
 have za : ba < y0.heap.size ∧ w.heap.size ≤ ba := by omega
 have zc : bc < y0.heap.size ∧ w.heap.size ≤ bc ∧ bc ≠ ba ∧ bn < y0.heap.size ∧ bn ≠ ba ∧ bn ≠ bc := by omega
 rw [← hbn] at kn0 ⊢
 rw [← hbc] at kc0 oc0 ⊢
 rw [← hba] at ka0 oa0 ⊢
 have KA0 := Lib.hid ka0
 have OA0 := Lib.hid oa0
 have KC0 := Lib.hid kc0
 have OC0 := Lib.hid oc0
 have ZA := Lib.hid za
 have ZC := Lib.hid zc
 have KN0 := Lib.hid kn0
 clear kn0 hbn
 clear hy0 hx1 hx2 s1 s2 b1 b2 b3 h1y sz ka0 oa0 kc0 oc0 za zc hba hbc
 have p0 := KA0.out 0 _ rfl
 have p1 := KA0.out 1 _ rfl
 have p2 := KA0.out 2 _ rfl
 have p3 := KA0.out 3 _ rfl
 go_wp2_with fail
 clear p0 p1 p2 p3
 refine (lcut_at N0 L0 M0 ff _ _ _ (WL.out.below BA0.out) (WT.out.later BA0.out)).mono ?_
 rintro e z1 ⟨ga1, gc1, uT, he1, rfl, hT, hb⟩
 simp only [Value.slice.injEq] at he1
 obtain ⟨hga, hgx, hgc⟩ := he1
 clear hgx
 subst hga hgc
 rw [← GLE.out]
 obtain ⟨ta, tc, ee⟩ := slice_of hT.weak
 subst ee
 obtain ⟨tl, htl⟩ : ∃ n, n = (cutT M0).length := ⟨_, rfl⟩
 rw [← htl] at hT ⊢
 have TLE := Lib.hid htl
 have hO := OA0.out.same (SameOn.of_below (P := fun _ => True) hb) trivial ZA.out.1
 have hB := KA0.out.below hb
 have k0 := hB 0 _ rfl
 have k1 := hB 1 _ rfl
 have k2 := hB 2 _ rfl
 have k3 := hB 3 _ rfl
 have f0 := hO.frozen 0
 have f1 := hO.frozen 1
 have f2 := hO.frozen 2
 have f3 := hO.frozen 3
 have BZ := Lib.hid hb
 have HB := Lib.hid hB
 have HO := Lib.hid hO
 have HTZ := Lib.hid hT
 clear hb hB hO hT htl
 go_upto_region 2 with fail
 clear k0 k1 k2 k3 f0 f1 f2 f3
 obtain ⟨y1, hy⟩ : ∃ y, y = (((z1.setCell ⟨ba, 0, none⟩ (.int .i64 N0)).setCell ⟨ba, 1, none⟩ (.slice ga0 gl gc)).setCell ⟨ba, 2, none⟩ (.slice ta tl tc)).setCell ⟨ba, 3, none⟩ (.bool ff) := ⟨_, rfl⟩
 have ka : BoxAt ba [.int .i64 N0, .slice ga0 gl gc, .slice ta tl tc, .bool ff] y1 := by rw [hy]; exact boxAt_set (j := 3) (u := .bool ff) (boxAt_set (j := 2) (u := .slice ta tl tc) (boxAt_set (j := 1) (u := .slice ga0 gl gc) (boxAt_set (j := 0) (u := .int .i64 N0) HB.out)))
 have hbw : Below w.heap.size w y1 := by rw [hy]; exact ((((below_step' BA0.out BZ.out).setCell ZA.out.2 _).setCell ZA.out.2 _).setCell ZA.out.2 _).setCell ZA.out.2 _
 have ss : SameOn (fun q => q ≠ ba) z1 y1 := by rw [hy]; exact ((((SameOn.refl _ z1).set ⟨ba, 0, none⟩ _ (fun h => h rfl)).set ⟨ba, 1, none⟩ _ (fun h => h rfl)).set ⟨ba, 2, none⟩ _ (fun h => h rfl)).set ⟨ba, 3, none⟩ _ (fun h => h rfl)
 have ht : Has y1 (.slice ta tl tc) (dTab A.t) := by
  rw [AT.out]
  exact (HTZ.out.same (ss.sub (fun q (h : _ ≤ q) e => by subst e; have := ZA.out.1; omega))).weak
 have htf : Holds False (fresh y0) y1 (.slice ta tl tc) (dTab A.t) := by
  rw [AT.out]
  exact (HTZ.out.same (ss.sub (fun q (h : _ ≤ q) e => by subst e; have := ZA.out.1; omega))).loose
 have HTF := Lib.hid htf
 clear htf
 rw [← hy]
 have KA := Lib.hid ka
 have LG : Hid (LinksAt y1 (.slice ga0 gl gc) A.l) := Lib.hid (by rw [AL.out]; exact HLC.out.below hbw)
 have HT := Lib.hid ht
 have BW := Lib.hid hbw
 have SS := Lib.hid ss
 clear hy ka hbw ss ht HB HO HTZ KA0 OA0
 have kc1 := (KC0.out.below BZ.out).same SS.out ZC.out.2.2.1
 have hz1 := BZ.out.size
 have oc1 := (OC0.out.same (SameOn.of_below (P := fun _ => True) BZ.out) trivial ZC.out.1).same SS.out ZC.out.2.2.1 (Nat.lt_of_lt_of_le ZC.out.1 hz1)
 have kn1 := (KN0.out.below BZ.out).same SS.out ZC.out.2.2.2.2.1
 have KN := Lib.hid kn1
 clear kn1 KN0
 have hz2 := SS.out.1
 have zy : y0.heap.size ≤ y1.heap.size := by omega
 have ZY := Lib.hid zy
 have p0 := kc1 0 _ rfl
 have p1 := kc1 1 _ rfl
 have p2 := kc1 2 _ rfl
 have KC1 := Lib.hid kc1
 have OC1 := Lib.hid oc1
 clear kc1 oc1 hz1 hz2 zy KC0 OC0
 go_wp2_with fail
 clear p0 p1 p2
 refine (cutConf_at c1 _ _ _ _ (WC.out.later BW.out)).mono ?_
 rintro e z2 ⟨xa1, xa2, xa3, xn1, xn2, xn3, xe1, xe2, xe3, rfl, hC, hb⟩
 have hO := OC1.out.same (SameOn.of_below (P := fun _ => True) hb) trivial (Nat.lt_of_lt_of_le ZC.out.1 ZY.out)
 have hB := KC1.out.below hb
 have k0 := hB 0 _ rfl
 have k1 := hB 1 _ rfl
 have k2 := hB 2 _ rfl
 have f0 := hO.frozen 0
 have f1 := hO.frozen 1
 have f2 := hO.frozen 2
 have BZ2 := Lib.hid hb
 have HB := Lib.hid hB
 have HO := Lib.hid hO
 have HCZ := Lib.hid hC
 clear hb hB hO hC
 go_upto_region 3 with fail
 clear k0 k1 k2 f0 f1 f2
 obtain ⟨y2, hy⟩ : ∃ y, y = ((z2.setCell ⟨bc, 0, none⟩ (.slice xa1 xn1 xe1)).setCell ⟨bc, 1, none⟩ (.slice xa2 xn2 xe2)).setCell ⟨bc, 2, none⟩ (.slice xa3 xn3 xe3) := ⟨_, rfl⟩
 have kc2 : BoxAt bc [.slice xa1 xn1 xe1, .slice xa2 xn2 xe2, .slice xa3 xn3 xe3] y2 := by rw [hy]; exact boxAt_set (j := 2) (u := .slice xa3 xn3 xe3) (boxAt_set (j := 1) (u := .slice xa2 xn2 xe2) (boxAt_set (j := 0) (u := .slice xa1 xn1 xe1) HB.out))
 have ss2 : SameOn (fun q => q ≠ bc) z2 y2 := by rw [hy]; exact (((SameOn.refl _ z2).set ⟨bc, 0, none⟩ _ (fun h => h rfl)).set ⟨bc, 1, none⟩ _ (fun h => h rfl)).set ⟨bc, 2, none⟩ _ (fun h => h rfl)
 have hbw : Below w.heap.size w y2 := by rw [hy]; exact (((below_step' BW.out BZ2.out).setCell ZC.out.2.1 _).setCell ZC.out.2.1 _).setCell ZC.out.2.1 _
 have hc2 : HasL y2 [.slice xa1 xn1 xe1, .slice xa2 xn2 xe2, .slice xa3 xn3 xe3] (cutC c1).d := (HCZ.out.same (ss2.sub (fun q (h : _ ≤ q) e => by subst e; have := ZC.out.1; have := ZY.out; omega))).weak
 have ht2 : Has y2 (.slice ta tl tc) (dTab A.t) := ((HTF.out.later BZ2.out).same (ss2.sub (fun q (h : _ ≤ q) e => by subst e; have := ZC.out.1; omega))).weak
 have ka2 := (KA.out.below BZ2.out).same ss2 (fun h => ZC.out.2.2.1 h.symm)
 have lg2 : LinksAt y2 (.slice ga0 gl gc) A.l := by rw [AL.out]; exact HLC.out.below hbw
 have kn2 := (KN.out.below BZ2.out).same ss2 ZC.out.2.2.2.2.2
 replace KN := Lib.hid kn2
 clear kn2
 rw [← hy]
 clear hy KA LG HT BW HTF HCZ HB HO KC1 OC1 SS
 have KA := Lib.hid ka2
 have KC := Lib.hid kc2
 have LG := Lib.hid lg2
 have HT := Lib.hid ht2
 have HC := Lib.hid hc2
 have BW := Lib.hid hbw
 clear ka2 kc2 lg2 ht2 hc2 hbw ss2 BZ BZ2
 have hN0 : N0 = A.n := AN.out.symm
 have hF0 : ff = A.ff := AF.out.symm
 rw [hN0, hF0] at KA ⊢
 clear hN0 hF0
 obtain ⟨rr, hrr⟩ := bool_some (CfOK A (cutC c1))
 have RR := Lib.hid hrr
 clear hrr
 refine wp_region_held_drew (S := (fun w' => w'.cell? ⟨ba, 0, none⟩ = some (.int .i64 A.n) ∧ w'.cell? ⟨ba, 1, none⟩ = some (.slice ga0 gl gc) ∧ w'.cell? ⟨ba, 2, none⟩ = some (.slice ta tl tc) ∧ w'.cell? ⟨ba, 3, none⟩ = some (.bool A.ff) ∧ w'.cell? ⟨bc, 0, none⟩ = some (.slice xa1 xn1 xe1) ∧ w'.cell? ⟨bc, 1, none⟩ = some (.slice xa2 xn2 xe2) ∧ w'.cell? ⟨bc, 2, none⟩ = some (.slice xa3 xn3 xe3))) (by kernel_rfl) ?_ (fun hHeld => ?_)
 ·exact ⟨KA.out.below (below_drewN (Below.refl _ y2) 1) 0 _ rfl, KA.out.below (below_drewN (Below.refl _ y2) 1) 1 _ rfl, KA.out.below (below_drewN (Below.refl _ y2) 1) 2 _ rfl, KA.out.below (below_drewN (Below.refl _ y2) 1) 3 _ rfl, KC.out.below (below_drewN (Below.refl _ y2) 1) 0 _ rfl, KC.out.below (below_drewN (Below.refl _ y2) 1) 1 _ rfl, KC.out.below (below_drewN (Below.refl _ y2) 1) 2 _ rfl⟩
 obtain ⟨yb, hyb⟩ : ∃ y, y = y2.drew := ⟨_, rfl⟩
 rw [← hyb] at hHeld ⊢
 have BYb : Hid (Below y2.heap.size y2 yb) := Lib.hid (by rw [hyb]; exact below_drewN (Below.refl _ y2) 1)
 clear hyb
 refine tq 0 ?_
 refine tq 2 ?_
 refine wpAnyH_group (n := 2) [1, 3] 4 (phiR A (.slice ga0 gl gc) #[.slice xa1 xn1 xe1, .slice xa2 xn2 xe2, .slice xa3 xn3 xe3]) (fun _ _ _ _ _ => True) (by kernel_rfl) (by kernel_rfl) (by kernel_rfl) (by kernel_rfl) (by kernel_rfl) (fun _ _ _ _ h hb => phiR_mono h hb) (fun _ _ _ _ _ _ h _ => h) ?stepR hHeld ?finR
 case stepR =>
  intro g hg o ho D vs a wy hD hgD hφ hψ hSx hby hfr hdep K hK
  have BXY := below_step' BYb.out hby
  simp only [List.mem_cons, List.not_mem_nil, or_false] at hg
  rcases hg with rfl | rfl
  ·obtain rfl := Option.some.inj (show some _ = some o from ho)
   have t20 : a.tmps[20]? = _ := (hfr 20 (by decide)).trans rfl
   clear hψ hφ hdep hfr
   go_simp
   refine (lapp_at A.n A.l A.t A.ff _ _ _ (LG.out.below BXY) (HT.out.later BXY) SMT.out).mono ?_
   rintro e w' ⟨uT, rfl, hu, hb⟩
   go_wp2_with fail
   exact hK.out _ _ ⟨KA.out.below (below_step' BXY hb) 0 _ rfl, KA.out.below (below_step' BXY hb) 1 _ rfl, KA.out.below (below_step' BXY hb) 2 _ rfl, KA.out.below (below_step' BXY hb) 3 _ rfl, KC.out.below (below_step' BXY hb) 0 _ rfl, KC.out.below (below_step' BXY hb) 1 _ rfl, KC.out.below (below_step' BXY hb) 2 _ rfl⟩ (by unfold phiR; rw [if_pos rfl]; exact ⟨uT, rfl, hu⟩) (fun _ _ => trivial) hb
  ·obtain rfl := Option.some.inj (show some _ = some o from ho)
   have t22 : a.tmps[22]? = _ := (hfr 22 (by decide)).trans rfl
   clear hψ hφ hdep hfr
   go_simp
   refine (lref_at _ _ _ _ _ (HC.out.later BXY)).mono ?_
   rintro e w' ⟨rfl, hb⟩
   go_wp2_with fail
   exact hK.out _ _ ⟨KA.out.below (below_step' BXY hb) 0 _ rfl, KA.out.below (below_step' BXY hb) 1 _ rfl, KA.out.below (below_step' BXY hb) 2 _ rfl, KA.out.below (below_step' BXY hb) 3 _ rfl, KC.out.below (below_step' BXY hb) 0 _ rfl, KC.out.below (below_step' BXY hb) 1 _ rfl, KC.out.below (below_step' BXY hb) 2 _ rfl⟩ (by unfold phiR; rw [if_neg (by decide)]) (fun _ _ => trivial) hb
 case finR =>
  intro vs wy hSx hby hφ hψ
  have h1 := hφ 1 (by simp)
  have h3 := hφ 3 (by simp)
  unfold phiR at h1 h3
  rw [if_pos rfl] at h1
  rw [if_neg (by decide)] at h3
  obtain ⟨uT, e1, hu⟩ := h1
  change wpAnyH _ _ _ _ _ _ _ (((_ : Act).put (some 21) (vs 1)).put (some 23) (vs 3)) _
  rw [e1, h3]
  try simp only [Act.put, List.getElem_toArray, List.getElem_cons_zero, List.getElem_cons_succ, List.setIfInBounds_toArray, List.set_cons_zero, List.set_cons_succ]
  have BXY := Lib.hid (below_step' BYb.out hby)
  have UT := Lib.hid hu
  clear hψ hφ hby e1 h3 hu
  refine rd 4 fun K hK => ?_
  go_simp
  refine (rright5_at A (cutC c1) rr _ _ _ _ _ _ (LG.out.below BXY.out) UT.out (HC.out.later BXY.out) (Nat.le_trans LN.out (by decide)) SMT.out SMC.out RR.out).mono ?_
  rintro e y3 ⟨rfl, hb⟩
  have B3 := Lib.hid (below_step' BXY.out hb)
  clear hb
  go_wp2_with fail
  refine hK.out _ _ ?_ (fun hHeld => ?_)
  ·exact ⟨KA.out.below B3.out 0 _ rfl, KA.out.below B3.out 1 _ rfl, KA.out.below B3.out 2 _ rfl, KA.out.below B3.out 3 _ rfl, KC.out.below B3.out 0 _ rfl, KC.out.below B3.out 1 _ rfl, KC.out.below B3.out 2 _ rfl⟩
  clear hK K hSx UT BXY BYb
  try simp only [Act.put, List.getElem_toArray, List.getElem_cons_zero, List.getElem_cons_succ, List.setIfInBounds_toArray, List.set_cons_zero, List.set_cons_succ]
  refine tq 5 ?_
  refine wpAnyH_done (by kernel_rfl) ?_ _
  replace KA := Lib.hid (KA.out.below B3.out)
  replace KC := Lib.hid (KC.out.below B3.out)
  replace LG := Lib.hid (LG.out.below B3.out)
  replace HT := Lib.hid (HT.out.later B3.out)
  replace HC := Lib.hid (HC.out.later B3.out)
  replace BW := Lib.hid (below_step' BW.out B3.out)
  try replace KN := Lib.hid (KN.out.below B3.out)
  clear B3
  cases rr with
  | false =>
   have p0 := KA.out 0 _ rfl
   have p1 := KA.out 1 _ rfl
   have p2 := KA.out 2 _ rfl
   have p3 := KA.out 3 _ rfl
   have q0 := KC.out 0 _ rfl
   have q1 := KC.out 1 _ rfl
   have q2 := KC.out 2 _ rfl
   go_wp2_with fail
   clear p0 p1 p2 p3 q0 q1 q2
   refine (pright_at A (cutC c1) false _ _ _ _ _ _ LG.out HT.out HC.out WFA.out (Nat.le_trans LN.out (by decide)) SMT.out SMC.out RR.out).mono ?_
   rintro e y4 ⟨rfl, hb⟩
   replace BW := Lib.hid (below_step' BW.out hb)
   clear hb
   go_wp2_with fail
   refine (fixed5_any _).mono ?_
   rintro e y9 ⟨rfl, hb⟩
   replace BW := Lib.hid (below_step' BW.out hb)
   clear hb
   go_wp2_with fail
   go_ret
   exact ⟨rfl, BW.out⟩
  | true =>
   have HOK := Lib.hid (RR.out.1 rfl)
   have p0 := KA.out 0 _ rfl
   have p1 := KA.out 1 _ rfl
   have p2 := KA.out 2 _ rfl
   have p3 := KA.out 3 _ rfl
   have q0 := KC.out 0 _ rfl
   have q1 := KC.out 1 _ rfl
   have q2 := KC.out 2 _ rfl
   go_wp2_with fail
   clear p0 p1 p2 p3 q0 q1 q2
   refine (can_at A (cutC c1) HOK.out SMT.out _ _ _ _ _ _ LG.out HT.out HC.out).mono ?_
   rintro e y4 ⟨u, rfl, hu, hb⟩
   obtain ⟨la, lc, ee⟩ := slice_of hu
   subst ee
   replace KA := Lib.hid (KA.out.below hb)
   replace KC := Lib.hid (KC.out.below hb)
   replace KN := Lib.hid (KN.out.below hb)
   replace LG := Lib.hid (LG.out.below hb)
   replace HT := Lib.hid (HT.out.later hb)
   replace HC := Lib.hid (HC.out.later hb)
   replace BW := Lib.hid (below_step' BW.out hb)
   clear hb
   obtain ⟨l, hl⟩ : ∃ l, l = canOf A (cutC c1) := ⟨_, rfl⟩
   rw [← hl] at hu ⊢
   obtain ⟨n, hn⟩ : ∃ n, n = l.length := ⟨_, rfl⟩
   rw [← hn] at hu ⊢
   have HL := Lib.hid hl
   have NL := Lib.hid hn
   have HU := Lib.hid hu
   clear hl hn hu
   by_cases hn0 : n = 0
   ·subst hn0
    go_wp2_with fail
    refine (fixed5_any _).mono ?_
    rintro e y9 ⟨rfl, hb⟩
    replace BW := Lib.hid (below_step' BW.out hb)
    clear hb
    go_wp2_with fail
    go_ret
    exact ⟨rfl, BW.out⟩
   ·have hn1 : 0 < n := Nat.pos_of_ne_zero hn0
    have hnE : ((n : Int) == 0) = false := by simp; omega
    go_upto_region 8 with fail
    obtain ⟨m0, j0, e0, t0, l0⟩ := step_of i0 n hn1
    obtain ⟨m1, j1, e1, t1, l1⟩ := step_of i1 n hn1
    obtain ⟨s, hs⟩ := some_of_lt (l := l) (i := j0) (by rw [← NL.out]; exact l0)
    obtain ⟨t, ht⟩ := some_of_lt (l := l) (i := j1) (by rw [← NL.out]; exact l1)
    obtain ⟨lb, lo, ee, g0, g1, g2, g3, g4⟩ := steps_at HU.out hs
    subst ee
    obtain ⟨lb', lo', ee, k0, k1, k2, k3, k4⟩ := steps_at HU.out ht
    cases ee
    have u0 := KN.out 0 _ rfl
    have u1 := KN.out 1 _ rfl
    have QS : Hid (∀ w', Below y4.heap.size y4 w' → (fun w' => w'.cell? ⟨bn, 0, none⟩ = some (.int .i64 i0) ∧ w'.cell? ⟨bn, 1, none⟩ = some (.int .i64 i1) ∧ w'.cell? ⟨lb, lo + j0 * 5, none⟩ = some (.int .i64 s.kind) ∧ w'.cell? ⟨lb, lo + j0 * 5 + 1, none⟩ = some (.int .i64 s.node) ∧ w'.cell? ⟨lb, lo + j0 * 5 + 2, none⟩ = some (.int .i64 s.k) ∧ w'.cell? ⟨lb, lo + j0 * 5 + 3, none⟩ = some (.int .i64 s.link) ∧ w'.cell? ⟨lb, lo + j0 * 5 + 4, none⟩ = some (.int .i64 s.seq) ∧ w'.cell? ⟨lb, lo + j1 * 5, none⟩ = some (.int .i64 t.kind) ∧ w'.cell? ⟨lb, lo + j1 * 5 + 1, none⟩ = some (.int .i64 t.node) ∧ w'.cell? ⟨lb, lo + j1 * 5 + 2, none⟩ = some (.int .i64 t.k) ∧ w'.cell? ⟨lb, lo + j1 * 5 + 3, none⟩ = some (.int .i64 t.link) ∧ w'.cell? ⟨lb, lo + j1 * 5 + 4, none⟩ = some (.int .i64 t.seq)) w') := Lib.hid (fun w' hb => ⟨(hb.cell (World.block_lt_of_cell? y4 _ u0)).trans u0, (hb.cell (World.block_lt_of_cell? y4 _ u1)).trans u1, (hb.cell (World.block_lt_of_cell? y4 _ g0)).trans g0, (hb.cell (World.block_lt_of_cell? y4 _ g1)).trans g1, (hb.cell (World.block_lt_of_cell? y4 _ g2)).trans g2, (hb.cell (World.block_lt_of_cell? y4 _ g3)).trans g3, (hb.cell (World.block_lt_of_cell? y4 _ g4)).trans g4, (hb.cell (World.block_lt_of_cell? y4 _ k0)).trans k0, (hb.cell (World.block_lt_of_cell? y4 _ k1)).trans k1, (hb.cell (World.block_lt_of_cell? y4 _ k2)).trans k2, (hb.cell (World.block_lt_of_cell? y4 _ k3)).trans k3, (hb.cell (World.block_lt_of_cell? y4 _ k4)).trans k4⟩)
    have HS := Lib.hid hs
    have HTt := Lib.hid ht
    clear hs ht g0 g1 g2 g3 g4 k0 k1 k2 k3 k4 u0 u1 hHeld
    refine wp_region_held_drew (S := (fun w' => w'.cell? ⟨bn, 0, none⟩ = some (.int .i64 i0) ∧ w'.cell? ⟨bn, 1, none⟩ = some (.int .i64 i1) ∧ w'.cell? ⟨lb, lo + j0 * 5, none⟩ = some (.int .i64 s.kind) ∧ w'.cell? ⟨lb, lo + j0 * 5 + 1, none⟩ = some (.int .i64 s.node) ∧ w'.cell? ⟨lb, lo + j0 * 5 + 2, none⟩ = some (.int .i64 s.k) ∧ w'.cell? ⟨lb, lo + j0 * 5 + 3, none⟩ = some (.int .i64 s.link) ∧ w'.cell? ⟨lb, lo + j0 * 5 + 4, none⟩ = some (.int .i64 s.seq) ∧ w'.cell? ⟨lb, lo + j1 * 5, none⟩ = some (.int .i64 t.kind) ∧ w'.cell? ⟨lb, lo + j1 * 5 + 1, none⟩ = some (.int .i64 t.node) ∧ w'.cell? ⟨lb, lo + j1 * 5 + 2, none⟩ = some (.int .i64 t.k) ∧ w'.cell? ⟨lb, lo + j1 * 5 + 3, none⟩ = some (.int .i64 t.link) ∧ w'.cell? ⟨lb, lo + j1 * 5 + 4, none⟩ = some (.int .i64 t.seq))) (by kernel_rfl) ?_ (fun hHeld => ?_)
    ·exact QS.out _ (below_drewN (Below.refl _ y4) 1)
    obtain ⟨yd, hyd⟩ : ∃ y, y = y4.drew := ⟨_, rfl⟩
    rw [← hyd] at hHeld ⊢
    have BD : Hid (Below y4.heap.size y4 yd) := Lib.hid (by rw [hyd]; exact below_drewN (Below.refl _ y4) 1)
    clear hyd
    refine tq 0 ?_
    refine tq 1 ?_
    refine tq 2 ?_
    refine tq 3 ?_
    refine tq 4 ?_
    refine tq 5 ?_
    refine tq 6 ?_
    refine tq 7 ?_
    refine tq 8 ?_
    refine tq 9 ?_
    refine tq 10 ?_
    refine tq 11 ?_
    refine tq 12 ?_
    refine tq 13 ?_
    refine tq 14 ?_
    refine tq 15 ?_
    refine tq 16 ?_
    refine tq 17 ?_
    refine wpAnyH_group (n := 2) [18, 19] 20 (fun _ v w => phiB yd v w) (fun _ _ v u _ => v ≠ u) (by kernel_rfl) (by kernel_rfl) (by kernel_rfl) (by kernel_rfl) (by kernel_rfl) (fun _ _ _ _ h hb => phiB_mono h hb) (fun _ _ _ _ _ _ h _ => h) ?step8 hHeld ?fin8
    case step8 =>
     intro g hg o ho D vs a wy hD hgD hφ hψ hSx hby hfr hdep K hK
     have BXY := below_step' BD.out hby
     have hwz := hby.size
     simp only [List.mem_cons, List.not_mem_nil, or_false] at hg
     rcases hg with rfl | rfl
     ·obtain rfl := Option.some.inj (show some _ = some o from ho)
      clear hψ hdep hfr
      go_simp
      have hbn := below_new wy (.cells #[.int .i64 0, .int .i64 0, .int .i64 0, .int .i64 0, .int .i64 0] 50)
      refine hK.out _ _ (QS.out _ (below_step' BXY hbn)) ⟨_, rfl, hwz, by simp, boxAt_new wy [.int .i64 0, .int .i64 0, .int .i64 0, .int .i64 0, .int .i64 0] _, by decide, _, _, heap_alloc_new wy _, rfl⟩ (fun h hh e => ?_) hbn
      obtain ⟨p', e', _, hp2, _⟩ := hφ h hh
      rw [← e] at e'
      simp only [Value.pointer.injEq, Option.some.injEq, Addr.mk.injEq, true_and, and_true] at e'
      omega
     ·obtain rfl := Option.some.inj (show some _ = some o from ho)
      clear hψ hdep hfr
      go_simp
      have hbn := below_new wy (.cells #[.int .i64 0, .int .i64 0, .int .i64 0, .int .i64 0, .int .i64 0] 50)
      refine hK.out _ _ (QS.out _ (below_step' BXY hbn)) ⟨_, rfl, hwz, by simp, boxAt_new wy [.int .i64 0, .int .i64 0, .int .i64 0, .int .i64 0, .int .i64 0] _, by decide, _, _, heap_alloc_new wy _, rfl⟩ (fun h hh e => ?_) hbn
      obtain ⟨p', e', _, hp2, _⟩ := hφ h hh
      rw [← e] at e'
      simp only [Value.pointer.injEq, Option.some.injEq, Addr.mk.injEq, true_and, and_true] at e'
      omega
    case fin8 =>
     intro vs wy hSx hby hφ hψ
     obtain ⟨p8, e8, g8, z8, b8, o8⟩ := hφ 18 (by simp)
     obtain ⟨p9, e9, g9, z9, b9, o9⟩ := hφ 19 (by simp)
     have hne : p8 ≠ p9 := fun e => by
      have hvv : vs 18 = vs 19 := by rw [e8, e9, e]
      exact (hψ 18 (by simp) 19 (by simp) (by decide)).elim (fun q => q hvv) (fun q => q hvv.symm)
     change wpAnyH _ _ _ _ _ _ _ (((_ : Act).put (some 8) (vs 18)).put (some 9) (vs 19)) _
     rw [e8, e9]
     try simp only [Act.put, List.getElem_toArray, List.getElem_cons_zero, List.getElem_cons_succ, List.setIfInBounds_toArray, List.set_cons_zero, List.set_cons_succ]
     have B8 := Lib.hid (below_step' BD.out hby)
     have HBp8 := Lib.hid b8
     have HBp9 := Lib.hid b9
     have HOp8 := Lib.hid o8
     have HOp9 := Lib.hid o9
     have HGp8 := Lib.hid (Nat.le_trans BD.out.size g8)
     have HGp9 := Lib.hid (Nat.le_trans BD.out.size g9)
     have HNE := Lib.hid hne
     have HZ9 := Lib.hid z9
     clear hφ hψ hby e8 e9 g8 g9 z8 z9 b8 b9 o8 o9 hne
     refine rd 20 fun K hK => ?_
     have k0 := HBp8.out 0 _ rfl
     have k1 := HBp8.out 1 _ rfl
     have k2 := HBp8.out 2 _ rfl
     have k3 := HBp8.out 3 _ rfl
     have k4 := HBp8.out 4 _ rfl
     have f0 := HOp8.out.frozen 0
     have f1 := HOp8.out.frozen 1
     have f2 := HOp8.out.frozen 2
     have f3 := HOp8.out.frozen 3
     have f4 := HOp8.out.frozen 4
     go_simp
     clear k0 k1 k2 k3 k4 f0 f1 f2 f3 f4
     obtain ⟨w8, hw⟩ : ∃ x, x = (((((wy.setCell ⟨p8, 0, none⟩ (.int .i64 s.kind)).setCell ⟨p8, 1, none⟩ (.int .i64 s.node)).setCell ⟨p8, 2, none⟩ (.int .i64 s.k)).setCell ⟨p8, 3, none⟩ (.int .i64 s.link)).setCell ⟨p8, 4, none⟩ (.int .i64 s.seq)) := ⟨_, rfl⟩
     have r9 : BoxAt p8 [.int .i64 s.kind, .int .i64 s.node, .int .i64 s.k, .int .i64 s.link, .int .i64 s.seq] w8 := by rw [hw]; exact (boxAt_set (j := 4) (u := .int .i64 s.seq) (boxAt_set (j := 3) (u := .int .i64 s.link) (boxAt_set (j := 2) (u := .int .i64 s.k) (boxAt_set (j := 1) (u := .int .i64 s.node) (boxAt_set (j := 0) (u := .int .i64 s.kind) HBp8.out)))))
     have s9 : SameOn (fun q => q ≠ p8) wy w8 := by rw [hw]; exact (((((SameOn.refl _ wy).set ⟨p8, 0, none⟩ _ (fun h => h rfl)).set ⟨p8, 1, none⟩ _ (fun h => h rfl)).set ⟨p8, 2, none⟩ _ (fun h => h rfl)).set ⟨p8, 3, none⟩ _ (fun h => h rfl)).set ⟨p8, 4, none⟩ _ (fun h => h rfl)
     have b9 : Below y4.heap.size y4 w8 := by rw [hw]; exact ((((B8.out.setCell HGp8.out _).setCell HGp8.out _).setCell HGp8.out _).setCell HGp8.out _).setCell HGp8.out _
     rw [← hw]
     clear hw
     replace HBp8 := Lib.hid r9
     replace HBp9 := Lib.hid (HBp9.out.same s9 (fun h => HNE.out h.symm))
     replace HOp9 := Lib.hid (HOp9.out.same s9 (fun h => HNE.out h.symm) HZ9.out)
     replace B8 := Lib.hid b9
     clear r9 b9 s9
     refine hK.out _ _ (QS.out _ B8.out) (fun hHeld => ?_)
     clear hK K
     try simp only [Act.put, List.getElem_toArray, List.getElem_cons_zero, List.getElem_cons_succ, List.setIfInBounds_toArray, List.set_cons_zero, List.set_cons_succ]
     refine rd 21 fun K hK => ?_
     have k0 := HBp9.out 0 _ rfl
     have k1 := HBp9.out 1 _ rfl
     have k2 := HBp9.out 2 _ rfl
     have k3 := HBp9.out 3 _ rfl
     have k4 := HBp9.out 4 _ rfl
     have f0 := HOp9.out.frozen 0
     have f1 := HOp9.out.frozen 1
     have f2 := HOp9.out.frozen 2
     have f3 := HOp9.out.frozen 3
     have f4 := HOp9.out.frozen 4
     go_simp
     clear k0 k1 k2 k3 k4 f0 f1 f2 f3 f4
     obtain ⟨w9, hw⟩ : ∃ x, x = (((((w8.setCell ⟨p9, 0, none⟩ (.int .i64 t.kind)).setCell ⟨p9, 1, none⟩ (.int .i64 t.node)).setCell ⟨p9, 2, none⟩ (.int .i64 t.k)).setCell ⟨p9, 3, none⟩ (.int .i64 t.link)).setCell ⟨p9, 4, none⟩ (.int .i64 t.seq)) := ⟨_, rfl⟩
     have r9 : BoxAt p9 [.int .i64 t.kind, .int .i64 t.node, .int .i64 t.k, .int .i64 t.link, .int .i64 t.seq] w9 := by rw [hw]; exact (boxAt_set (j := 4) (u := .int .i64 t.seq) (boxAt_set (j := 3) (u := .int .i64 t.link) (boxAt_set (j := 2) (u := .int .i64 t.k) (boxAt_set (j := 1) (u := .int .i64 t.node) (boxAt_set (j := 0) (u := .int .i64 t.kind) HBp9.out)))))
     have s9 : SameOn (fun q => q ≠ p9) w8 w9 := by rw [hw]; exact (((((SameOn.refl _ w8).set ⟨p9, 0, none⟩ _ (fun h => h rfl)).set ⟨p9, 1, none⟩ _ (fun h => h rfl)).set ⟨p9, 2, none⟩ _ (fun h => h rfl)).set ⟨p9, 3, none⟩ _ (fun h => h rfl)).set ⟨p9, 4, none⟩ _ (fun h => h rfl)
     have b9 : Below y4.heap.size y4 w9 := by rw [hw]; exact ((((B8.out.setCell HGp9.out _).setCell HGp9.out _).setCell HGp9.out _).setCell HGp9.out _).setCell HGp9.out _
     rw [← hw]
     clear hw
     replace HBp9 := Lib.hid r9
     replace HBp8 := Lib.hid (HBp8.out.same s9 HNE.out)
     replace B8 := Lib.hid b9
     clear r9 b9 s9
     refine hK.out _ _ (QS.out _ B8.out) (fun hHeld => ?_)
     clear hK K
     try simp only [Act.put, List.getElem_toArray, List.getElem_cons_zero, List.getElem_cons_succ, List.setIfInBounds_toArray, List.set_cons_zero, List.set_cons_succ]
     refine wpAnyH_done (by kernel_rfl) ?_ _
     clear hHeld QS
     replace KA := Lib.hid (KA.out.below B8.out)
     replace KC := Lib.hid (KC.out.below B8.out)
     replace KN := Lib.hid (KN.out.below B8.out)
     replace LG := Lib.hid (LG.out.below B8.out)
     replace HT := Lib.hid (HT.out.later B8.out)
     replace HC := Lib.hid (HC.out.later B8.out)
     replace BW := Lib.hid (below_step' BW.out B8.out)
     clear B8
     have KS := HBp8
     have KT := HBp9
     clear HBp8 HBp9
     clear HU
     go_upto_region 9 with fail
     refine wp_region_held_drew (S := (fun w' => w'.cell? ⟨ba, 0, none⟩ = some (.int .i64 A.n) ∧ w'.cell? ⟨ba, 1, none⟩ = some (.slice ga0 gl gc) ∧ w'.cell? ⟨ba, 2, none⟩ = some (.slice ta tl tc) ∧ w'.cell? ⟨ba, 3, none⟩ = some (.bool A.ff) ∧ w'.cell? ⟨p8, 0, none⟩ = some (.int .i64 s.kind) ∧ w'.cell? ⟨p8, 1, none⟩ = some (.int .i64 s.node) ∧ w'.cell? ⟨p8, 2, none⟩ = some (.int .i64 s.k) ∧ w'.cell? ⟨p8, 3, none⟩ = some (.int .i64 s.link) ∧ w'.cell? ⟨p8, 4, none⟩ = some (.int .i64 s.seq) ∧ w'.cell? ⟨p9, 0, none⟩ = some (.int .i64 t.kind) ∧ w'.cell? ⟨p9, 1, none⟩ = some (.int .i64 t.node) ∧ w'.cell? ⟨p9, 2, none⟩ = some (.int .i64 t.k) ∧ w'.cell? ⟨p9, 3, none⟩ = some (.int .i64 t.link) ∧ w'.cell? ⟨p9, 4, none⟩ = some (.int .i64 t.seq))) (by kernel_rfl) ?_ (fun hHeld => ?_)
     ·exact ⟨KA.out.below (below_drewN (Below.refl _ w9) 1) 0 _ rfl, KA.out.below (below_drewN (Below.refl _ w9) 1) 1 _ rfl, KA.out.below (below_drewN (Below.refl _ w9) 1) 2 _ rfl, KA.out.below (below_drewN (Below.refl _ w9) 1) 3 _ rfl, KS.out.below (below_drewN (Below.refl _ w9) 1) 0 _ rfl, KS.out.below (below_drewN (Below.refl _ w9) 1) 1 _ rfl, KS.out.below (below_drewN (Below.refl _ w9) 1) 2 _ rfl, KS.out.below (below_drewN (Below.refl _ w9) 1) 3 _ rfl, KS.out.below (below_drewN (Below.refl _ w9) 1) 4 _ rfl, KT.out.below (below_drewN (Below.refl _ w9) 1) 0 _ rfl, KT.out.below (below_drewN (Below.refl _ w9) 1) 1 _ rfl, KT.out.below (below_drewN (Below.refl _ w9) 1) 2 _ rfl, KT.out.below (below_drewN (Below.refl _ w9) 1) 3 _ rfl, KT.out.below (below_drewN (Below.refl _ w9) 1) 4 _ rfl⟩
     obtain ⟨ye, hye⟩ : ∃ y, y = w9.drew := ⟨_, rfl⟩
     rw [← hye] at hHeld ⊢
     have BE : Hid (Below w9.heap.size w9 ye) := Lib.hid (by rw [hye]; exact below_drewN (Below.refl _ w9) 1)
     clear hye
     refine tq 0 ?_
     refine tq 1 ?_
     refine tq 3 ?_
     refine tq 6 ?_
     refine tq 7 ?_
     refine tq 9 ?_
     refine wpAnyH_group (n := 1) [2, 4, 5, 8, 10, 11] 12 (phiW A s t (.slice ga0 gl gc)) (fun _ _ _ _ _ => True) (by kernel_rfl) (by kernel_rfl) (by kernel_rfl) (by kernel_rfl) (by kernel_rfl) (fun _ _ _ _ h hb => h) (fun _ _ _ _ _ _ h _ => h) ?step9 hHeld ?fin9
     case step9 =>
      intro g hg o ho D vs a wy hD hgD hφ hψ hSx hby hfr hdep K hK
      have BXY := below_step' BE.out hby
      simp only [List.mem_cons, List.not_mem_nil, or_false] at hg
      rcases hg with rfl | rfl | rfl | rfl | rfl | rfl
      ·obtain rfl := Option.some.inj (show some _ = some o from ho)
       have tt : a.tmps[59]? = _ := (hfr 59 (by decide)).trans rfl
       clear hψ hφ hdep hfr
       go_simp
       refine (ref_any A.n _ A.l _ (LG.out.below BXY)).mono ?_
       rintro e w' ⟨rfl, hb⟩
       go_wp2_with fail
       exact hK.out _ _ ⟨KA.out.below (below_step' BXY hb) 0 _ rfl, KA.out.below (below_step' BXY hb) 1 _ rfl, KA.out.below (below_step' BXY hb) 2 _ rfl, KA.out.below (below_step' BXY hb) 3 _ rfl, KS.out.below (below_step' BXY hb) 0 _ rfl, KS.out.below (below_step' BXY hb) 1 _ rfl, KS.out.below (below_step' BXY hb) 2 _ rfl, KS.out.below (below_step' BXY hb) 3 _ rfl, KS.out.below (below_step' BXY hb) 4 _ rfl, KT.out.below (below_step' BXY hb) 0 _ rfl, KT.out.below (below_step' BXY hb) 1 _ rfl, KT.out.below (below_step' BXY hb) 2 _ rfl, KT.out.below (below_step' BXY hb) 3 _ rfl, KT.out.below (below_step' BXY hb) 4 _ rfl⟩ (phiW2.2 rfl) (fun _ _ => trivial) hb
      ·obtain rfl := Option.some.inj (show some _ = some o from ho)
       have tt : a.tmps[61]? = _ := (hfr 61 (by decide)).trans rfl
       clear hψ hφ hdep hfr
       go_simp
       refine (lstep_at _ _ _ _ _ _).mono ?_
       rintro e w' ⟨rfl, hb⟩
       go_wp2_with fail
       exact hK.out _ _ ⟨KA.out.below (below_step' BXY hb) 0 _ rfl, KA.out.below (below_step' BXY hb) 1 _ rfl, KA.out.below (below_step' BXY hb) 2 _ rfl, KA.out.below (below_step' BXY hb) 3 _ rfl, KS.out.below (below_step' BXY hb) 0 _ rfl, KS.out.below (below_step' BXY hb) 1 _ rfl, KS.out.below (below_step' BXY hb) 2 _ rfl, KS.out.below (below_step' BXY hb) 3 _ rfl, KS.out.below (below_step' BXY hb) 4 _ rfl, KT.out.below (below_step' BXY hb) 0 _ rfl, KT.out.below (below_step' BXY hb) 1 _ rfl, KT.out.below (below_step' BXY hb) 2 _ rfl, KT.out.below (below_step' BXY hb) 3 _ rfl, KT.out.below (below_step' BXY hb) 4 _ rfl⟩ (phiW4.2 rfl) (fun _ _ => trivial) hb
      ·obtain rfl := Option.some.inj (show some _ = some o from ho)
       obtain ⟨hg1, dg⟩ := hdep 2 (by simp) (ahead_mem (by kernel_rfl))
       obtain ⟨hs1, ds⟩ := hdep 4 (by simp) (ahead_mem (by kernel_rfl))
       have fg := hφ 2 hg1
       have fs := hφ 4 hs1
       rw [phiW2] at fg
       rw [phiW4] at fs
       have tg := dg 60 rfl
       have ts := ds 62 rfl
       rw [fg] at tg
       rw [fs] at ts
       clear hψ hφ hdep hfr dg ds fg fs
       go_simp
       refine (where_at A A.n _ _ _ _ _ _ _ (LG.out.below BXY) (Nat.le_trans LN.out (by decide))).mono ?_
       rintro e w' ⟨rfl, hb⟩
       go_wp2_with fail
       exact hK.out _ _ ⟨KA.out.below (below_step' BXY hb) 0 _ rfl, KA.out.below (below_step' BXY hb) 1 _ rfl, KA.out.below (below_step' BXY hb) 2 _ rfl, KA.out.below (below_step' BXY hb) 3 _ rfl, KS.out.below (below_step' BXY hb) 0 _ rfl, KS.out.below (below_step' BXY hb) 1 _ rfl, KS.out.below (below_step' BXY hb) 2 _ rfl, KS.out.below (below_step' BXY hb) 3 _ rfl, KS.out.below (below_step' BXY hb) 4 _ rfl, KT.out.below (below_step' BXY hb) 0 _ rfl, KT.out.below (below_step' BXY hb) 1 _ rfl, KT.out.below (below_step' BXY hb) 2 _ rfl, KT.out.below (below_step' BXY hb) 3 _ rfl, KT.out.below (below_step' BXY hb) 4 _ rfl⟩ (phiW5.2 rfl) (fun _ _ => trivial) hb
      ·obtain rfl := Option.some.inj (show some _ = some o from ho)
       have tt : a.tmps[65]? = _ := (hfr 65 (by decide)).trans rfl
       clear hψ hφ hdep hfr
       go_simp
       refine (ref_any A.n _ A.l _ (LG.out.below BXY)).mono ?_
       rintro e w' ⟨rfl, hb⟩
       go_wp2_with fail
       exact hK.out _ _ ⟨KA.out.below (below_step' BXY hb) 0 _ rfl, KA.out.below (below_step' BXY hb) 1 _ rfl, KA.out.below (below_step' BXY hb) 2 _ rfl, KA.out.below (below_step' BXY hb) 3 _ rfl, KS.out.below (below_step' BXY hb) 0 _ rfl, KS.out.below (below_step' BXY hb) 1 _ rfl, KS.out.below (below_step' BXY hb) 2 _ rfl, KS.out.below (below_step' BXY hb) 3 _ rfl, KS.out.below (below_step' BXY hb) 4 _ rfl, KT.out.below (below_step' BXY hb) 0 _ rfl, KT.out.below (below_step' BXY hb) 1 _ rfl, KT.out.below (below_step' BXY hb) 2 _ rfl, KT.out.below (below_step' BXY hb) 3 _ rfl, KT.out.below (below_step' BXY hb) 4 _ rfl⟩ (phiW8.2 rfl) (fun _ _ => trivial) hb
      ·obtain rfl := Option.some.inj (show some _ = some o from ho)
       have tt : a.tmps[67]? = _ := (hfr 67 (by decide)).trans rfl
       clear hψ hφ hdep hfr
       go_simp
       refine (lstep_at _ _ _ _ _ _).mono ?_
       rintro e w' ⟨rfl, hb⟩
       go_wp2_with fail
       exact hK.out _ _ ⟨KA.out.below (below_step' BXY hb) 0 _ rfl, KA.out.below (below_step' BXY hb) 1 _ rfl, KA.out.below (below_step' BXY hb) 2 _ rfl, KA.out.below (below_step' BXY hb) 3 _ rfl, KS.out.below (below_step' BXY hb) 0 _ rfl, KS.out.below (below_step' BXY hb) 1 _ rfl, KS.out.below (below_step' BXY hb) 2 _ rfl, KS.out.below (below_step' BXY hb) 3 _ rfl, KS.out.below (below_step' BXY hb) 4 _ rfl, KT.out.below (below_step' BXY hb) 0 _ rfl, KT.out.below (below_step' BXY hb) 1 _ rfl, KT.out.below (below_step' BXY hb) 2 _ rfl, KT.out.below (below_step' BXY hb) 3 _ rfl, KT.out.below (below_step' BXY hb) 4 _ rfl⟩ (phiW10.2 rfl) (fun _ _ => trivial) hb
      ·obtain rfl := Option.some.inj (show some _ = some o from ho)
       obtain ⟨hg1, dg⟩ := hdep 8 (by simp) (ahead_mem (by kernel_rfl))
       obtain ⟨hs1, ds⟩ := hdep 10 (by simp) (ahead_mem (by kernel_rfl))
       have fg := hφ 8 hg1
       have fs := hφ 10 hs1
       rw [phiW8] at fg
       rw [phiW10] at fs
       have tg := dg 66 rfl
       have ts := ds 68 rfl
       rw [fg] at tg
       rw [fs] at ts
       clear hψ hφ hdep hfr dg ds fg fs
       go_simp
       refine (where_at A A.n _ _ _ _ _ _ _ (LG.out.below BXY) (Nat.le_trans LN.out (by decide))).mono ?_
       rintro e w' ⟨rfl, hb⟩
       go_wp2_with fail
       exact hK.out _ _ ⟨KA.out.below (below_step' BXY hb) 0 _ rfl, KA.out.below (below_step' BXY hb) 1 _ rfl, KA.out.below (below_step' BXY hb) 2 _ rfl, KA.out.below (below_step' BXY hb) 3 _ rfl, KS.out.below (below_step' BXY hb) 0 _ rfl, KS.out.below (below_step' BXY hb) 1 _ rfl, KS.out.below (below_step' BXY hb) 2 _ rfl, KS.out.below (below_step' BXY hb) 3 _ rfl, KS.out.below (below_step' BXY hb) 4 _ rfl, KT.out.below (below_step' BXY hb) 0 _ rfl, KT.out.below (below_step' BXY hb) 1 _ rfl, KT.out.below (below_step' BXY hb) 2 _ rfl, KT.out.below (below_step' BXY hb) 3 _ rfl, KT.out.below (below_step' BXY hb) 4 _ rfl⟩ (phiW11.2 rfl) (fun _ _ => trivial) hb
     case fin9 =>
      intro vs wy hSx hby hφ hψ
      have f2 := hφ 2 (by simp)
      have f4 := hφ 4 (by simp)
      have f5 := hφ 5 (by simp)
      have f8 := hφ 8 (by simp)
      have f10 := hφ 10 (by simp)
      have f11 := hφ 11 (by simp)
      rw [phiW2] at f2
      rw [phiW4] at f4
      rw [phiW5] at f5
      rw [phiW8] at f8
      rw [phiW10] at f10
      rw [phiW11] at f11
      change wpAnyH _ _ _ _ _ _ _ (((((((_ : Act).put (some 60) (vs 2)).put (some 62) (vs 4)).put (some 63) (vs 5)).put (some 66) (vs 8)).put (some 68) (vs 10)).put (some 69) (vs 11)) _
      rw [f2, f4, f5, f8, f10, f11]
      try simp only [Act.put, List.getElem_toArray, List.getElem_cons_zero, List.getElem_cons_succ, List.setIfInBounds_toArray, List.set_cons_zero, List.set_cons_succ]
      have BXY := Lib.hid (below_step' BE.out hby)
      clear hφ hψ hby f2 f4 f5 f8 f10 f11
      obtain ⟨ws, hws⟩ : ∃ x, x = whereOf A s := ⟨_, rfl⟩
      obtain ⟨wt, hwt⟩ : ∃ x, x = whereOf A t := ⟨_, rfl⟩
      rw [show whereOf A ⟨s.kind, s.node, s.k, s.link, s.seq⟩ = ws from hws.symm, show whereOf A ⟨t.kind, t.node, t.k, t.link, t.seq⟩ = wt from hwt.symm]
      have WS := Lib.hid hws
      have WTt := Lib.hid hwt
      clear hws hwt
      refine tq 12 ?_
      refine wpAnyH_done (by kernel_rfl) ?_ _
      replace KA := Lib.hid (KA.out.below BXY.out)
      replace KC := Lib.hid (KC.out.below BXY.out)
      replace KN := Lib.hid (KN.out.below BXY.out)
      replace LG := Lib.hid (LG.out.below BXY.out)
      replace HT := Lib.hid (HT.out.later BXY.out)
      replace HC := Lib.hid (HC.out.later BXY.out)
      replace BW := Lib.hid (below_step' BW.out BXY.out)
      replace KS := Lib.hid (KS.out.below BXY.out)
      replace KT := Lib.hid (KT.out.below BXY.out)
      clear hHeld hSx BXY BE
      by_cases hww : ws = wt
      ·subst hww
       go_wp2_with fail
       refine (fixed5_any _).mono ?_
       rintro e y9 ⟨rfl, hb⟩
       replace BW := Lib.hid (below_step' BW.out hb)
       clear hb
       go_wp2_with fail
       go_ret
       exact ⟨rfl, BW.out⟩
      ·have hwb : (ws == wt) = false := by simp [hww]
       rw [hwb]
       clear hwb
       have ms : errOf A (cutC c1) s = 0 := by have h := List.mem_of_getElem? HS.out; rw [HL.out] at h; exact of_decide_eq_true (List.mem_filter.1 h).2
       have mt : errOf A (cutC c1) t = 0 := by have h := List.mem_of_getElem? HTt.out; rw [HL.out] at h; exact of_decide_eq_true (List.mem_filter.1 h).2
       obtain ⟨hts, hst, tst⟩ := turn_of HOK.out ms mt (by rw [← WS.out, ← WTt.out]; exact hww)
       obtain ⟨d1, hd1⟩ : ∃ x, x = doneOf A (doneOf A (cutC c1) s) t := ⟨_, rfl⟩
       have r1 : runOf A (cutC c1) [s, t] = (d1, 2, 0) := by rw [hd1]; exact run_two ms hts
       have r2 : runOf A (cutC c1) [t, s] = (d1, 2, 0) := by rw [hd1, tst]; exact run_two mt hst
       have okd : CfOK A d1 := by have h := runOf_ok (l := [s, t]) HOK.out; rw [r1] at h; exact h
       have R1 := Lib.hid r1
       have R2 := Lib.hid r2
       have SD := Lib.hid (small_okT okd)
       clear ms mt hts hst tst hd1 r1 r2 okd
       clear KN HS HTt WS WTt HL
       have p0 := KA.out 0 _ rfl
       have p1 := KA.out 1 _ rfl
       have p2 := KA.out 2 _ rfl
       have p3 := KA.out 3 _ rfl
       have q0 := KC.out 0 _ rfl
       have q1 := KC.out 1 _ rfl
       have q2 := KC.out 2 _ rfl
       have g0 := KS.out 0 _ rfl
       have g1 := KS.out 1 _ rfl
       have g2 := KS.out 2 _ rfl
       have g3 := KS.out 3 _ rfl
       have g4 := KS.out 4 _ rfl
       have k0 := KT.out 0 _ rfl
       have k1 := KT.out 1 _ rfl
       have k2 := KT.out 2 _ rfl
       have k3 := KT.out 3 _ rfl
       have k4 := KT.out 4 _ rfl
       go_wp2_with fail
       clear p0 p1 p2 p3 q0 q1 q2 g0 g1 g2 g3 g4 k0 k1 k2 k3 k4
       obtain ⟨ySX, hy⟩ : ∃ y, y = wy.alloc (.cells #[.int .i64 s.kind, .int .i64 s.node, .int .i64 s.k, .int .i64 s.link, .int .i64 s.seq, .int .i64 t.kind, .int .i64 t.node, .int .i64 t.k, .int .i64 t.link, .int .i64 t.seq] 50) := ⟨_, rfl⟩
       have hl : Below wy.heap.size wy ySX := by rw [hy]; exact below_new _ _
       have hs : Has ySX (.slice (some ⟨wy.heap.size, 0, none⟩) 2 2) (dSteps [s, t]) := by rw [hy]; exact has_new (w := wy) (vs := [.int .i64 s.kind, .int .i64 s.node, .int .i64 s.k, .int .i64 s.link, .int .i64 s.seq, .int .i64 t.kind, .int .i64 t.node, .int .i64 t.k, .int .i64 t.link, .int .i64 t.seq]) 50 (n := 5) (k := 2) (xs := ([s, t] : List Sp).map Sp.d) (by intro ds h; obtain ⟨_, _, rfl⟩ := List.mem_map.1 h; rfl) rfl (by decide) (by exact (hl_int (hl_int (hl_int (hl_int (hl_int (hl_int (hl_int (hl_int (hl_int (hl_int hl_nil)))))))))))
       rw [← hy]
       replace KA := Lib.hid (KA.out.below hl)
       replace KC := Lib.hid (KC.out.below hl)
       replace LG := Lib.hid (LG.out.below hl)
       replace HT := Lib.hid (HT.out.later hl)
       replace HC := Lib.hid (HC.out.later hl)
       replace KS := Lib.hid (KS.out.below hl)
       replace KT := Lib.hid (KT.out.below hl)
       replace BW := Lib.hid (below_step' BW.out hl)
       have HSS := Lib.hid hs
       clear hl hs hy
       have e1 : ((runOf A (cutC c1) [s, t]).2.1 : Int) = 2 := by rw [R1.out]; rfl
       have e2 : (runOf A (cutC c1) [s, t]).2.2 = 0 := by rw [R1.out]
       refine (run_at A (cutC c1) [s, t] HOK.out SMT.out SMC.out _ _ _ _ _ _ _ LG.out HT.out HC.out HSS.out (by simp)).mono ?_
       rintro e zX ⟨u1, u2, u3, rfl, hR, hb⟩
       rw [e1, e2]
       rw [R1.out] at hR
       clear e1 e2 HSS
       obtain ⟨Xa1, Xa2, Xa3, Xn1, Xn2, Xn3, Xe1, Xe2, Xe3, ee1, ee2, ee3⟩ := cf_slices hR
       subst ee1
       subst ee2
       subst ee3
       go_upto_region 12 with fail
       obtain ⟨yX, hy⟩ : ∃ y, y = zX.alloc (.cells #[.slice Xa1 Xn1 Xe1, .slice Xa2 Xn2 Xe2, .slice Xa3 Xn3 Xe3] 31) := ⟨_, rfl⟩
       have hl : Below ySX.heap.size ySX yX := by rw [hy]; exact below_step' hb (below_new _ _)
       have hk : BoxAt zX.heap.size [.slice Xa1 Xn1 Xe1, .slice Xa2 Xn2 Xe2, .slice Xa3 Xn3 Xe3] yX := by rw [hy]; exact boxAt_new zX [.slice Xa1 Xn1 Xe1, .slice Xa2 Xn2 Xe2, .slice Xa3 Xn3 Xe3] _
       have hd := hR.weak.later (below_new zX (.cells #[.slice Xa1 Xn1 Xe1, .slice Xa2 Xn2 Xe2, .slice Xa3 Xn3 Xe3] 31))
       rw [← hy] at hd ⊢
       obtain ⟨bX, hbn⟩ : ∃ b, b = zX.heap.size := ⟨_, rfl⟩
       rw [← hbn] at hk ⊢
       replace KA := Lib.hid (KA.out.below hl)
       replace KC := Lib.hid (KC.out.below hl)
       replace LG := Lib.hid (LG.out.below hl)
       replace HT := Lib.hid (HT.out.later hl)
       replace HC := Lib.hid (HC.out.later hl)
       replace KS := Lib.hid (KS.out.below hl)
       replace KT := Lib.hid (KT.out.below hl)
       replace BW := Lib.hid (below_step' BW.out hl)
       have KX := Lib.hid hk
       have CX := Lib.hid hd
       clear hy hl hk hd hb hR hbn
       have p0 := KA.out 0 _ rfl
       have p1 := KA.out 1 _ rfl
       have p2 := KA.out 2 _ rfl
       have p3 := KA.out 3 _ rfl
       have q0 := KC.out 0 _ rfl
       have q1 := KC.out 1 _ rfl
       have q2 := KC.out 2 _ rfl
       have g0 := KS.out 0 _ rfl
       have g1 := KS.out 1 _ rfl
       have g2 := KS.out 2 _ rfl
       have g3 := KS.out 3 _ rfl
       have g4 := KS.out 4 _ rfl
       have k0 := KT.out 0 _ rfl
       have k1 := KT.out 1 _ rfl
       have k2 := KT.out 2 _ rfl
       have k3 := KT.out 3 _ rfl
       have k4 := KT.out 4 _ rfl
       go_wp2_with fail
       clear p0 p1 p2 p3 q0 q1 q2 g0 g1 g2 g3 g4 k0 k1 k2 k3 k4
       obtain ⟨ySY, hy⟩ : ∃ y, y = yX.alloc (.cells #[.int .i64 t.kind, .int .i64 t.node, .int .i64 t.k, .int .i64 t.link, .int .i64 t.seq, .int .i64 s.kind, .int .i64 s.node, .int .i64 s.k, .int .i64 s.link, .int .i64 s.seq] 50) := ⟨_, rfl⟩
       have hl : Below yX.heap.size yX ySY := by rw [hy]; exact below_new _ _
       have hs : Has ySY (.slice (some ⟨yX.heap.size, 0, none⟩) 2 2) (dSteps [t, s]) := by rw [hy]; exact has_new (w := yX) (vs := [.int .i64 t.kind, .int .i64 t.node, .int .i64 t.k, .int .i64 t.link, .int .i64 t.seq, .int .i64 s.kind, .int .i64 s.node, .int .i64 s.k, .int .i64 s.link, .int .i64 s.seq]) 50 (n := 5) (k := 2) (xs := ([t, s] : List Sp).map Sp.d) (by intro ds h; obtain ⟨_, _, rfl⟩ := List.mem_map.1 h; rfl) rfl (by decide) (by exact (hl_int (hl_int (hl_int (hl_int (hl_int (hl_int (hl_int (hl_int (hl_int (hl_int hl_nil)))))))))))
       rw [← hy]
       replace KA := Lib.hid (KA.out.below hl)
       replace KC := Lib.hid (KC.out.below hl)
       replace LG := Lib.hid (LG.out.below hl)
       replace HT := Lib.hid (HT.out.later hl)
       replace HC := Lib.hid (HC.out.later hl)
       replace KS := Lib.hid (KS.out.below hl)
       replace KT := Lib.hid (KT.out.below hl)
       replace KX := Lib.hid (KX.out.below hl)
       replace CX := Lib.hid (CX.out.later hl)
       replace BW := Lib.hid (below_step' BW.out hl)
       have HSS := Lib.hid hs
       clear hl hs hy
       have e1 : ((runOf A (cutC c1) [t, s]).2.1 : Int) = 2 := by rw [R2.out]; rfl
       have e2 : (runOf A (cutC c1) [t, s]).2.2 = 0 := by rw [R2.out]
       refine (run_at A (cutC c1) [t, s] HOK.out SMT.out SMC.out _ _ _ _ _ _ _ LG.out HT.out HC.out HSS.out (by simp)).mono ?_
       rintro e zY ⟨u1, u2, u3, rfl, hR, hb⟩
       rw [e1, e2]
       rw [R2.out] at hR
       clear e1 e2 HSS
       obtain ⟨Ya1, Ya2, Ya3, Yn1, Yn2, Yn3, Ye1, Ye2, Ye3, ee1, ee2, ee3⟩ := cf_slices hR
       subst ee1
       subst ee2
       subst ee3
       go_upto_region 13 with fail
       obtain ⟨yY, hy⟩ : ∃ y, y = zY.alloc (.cells #[.slice Ya1 Yn1 Ye1, .slice Ya2 Yn2 Ye2, .slice Ya3 Yn3 Ye3] 31) := ⟨_, rfl⟩
       have hl : Below ySY.heap.size ySY yY := by rw [hy]; exact below_step' hb (below_new _ _)
       have hk : BoxAt zY.heap.size [.slice Ya1 Yn1 Ye1, .slice Ya2 Yn2 Ye2, .slice Ya3 Yn3 Ye3] yY := by rw [hy]; exact boxAt_new zY [.slice Ya1 Yn1 Ye1, .slice Ya2 Yn2 Ye2, .slice Ya3 Yn3 Ye3] _
       have hd := hR.weak.later (below_new zY (.cells #[.slice Ya1 Yn1 Ye1, .slice Ya2 Yn2 Ye2, .slice Ya3 Yn3 Ye3] 31))
       rw [← hy] at hd ⊢
       obtain ⟨bY, hbn⟩ : ∃ b, b = zY.heap.size := ⟨_, rfl⟩
       rw [← hbn] at hk ⊢
       replace KA := Lib.hid (KA.out.below hl)
       replace KC := Lib.hid (KC.out.below hl)
       replace LG := Lib.hid (LG.out.below hl)
       replace HT := Lib.hid (HT.out.later hl)
       replace HC := Lib.hid (HC.out.later hl)
       replace KS := Lib.hid (KS.out.below hl)
       replace KT := Lib.hid (KT.out.below hl)
       replace KX := Lib.hid (KX.out.below hl)
       replace CX := Lib.hid (CX.out.later hl)
       replace BW := Lib.hid (below_step' BW.out hl)
       have KY := Lib.hid hk
       have CY := Lib.hid hd
       clear hy hl hk hd hb hR hbn
       refine wp_region_held_drew (S := (fun w' => w'.cell? ⟨bX, 0, none⟩ = some (.slice Xa1 Xn1 Xe1) ∧ w'.cell? ⟨bX, 1, none⟩ = some (.slice Xa2 Xn2 Xe2) ∧ w'.cell? ⟨bX, 2, none⟩ = some (.slice Xa3 Xn3 Xe3) ∧ w'.cell? ⟨bY, 0, none⟩ = some (.slice Ya1 Yn1 Ye1) ∧ w'.cell? ⟨bY, 1, none⟩ = some (.slice Ya2 Yn2 Ye2) ∧ w'.cell? ⟨bY, 2, none⟩ = some (.slice Ya3 Yn3 Ye3))) (by kernel_rfl) ?_ (fun hHeld => ?_)
       ·exact ⟨KX.out.below (below_drewN (Below.refl _ yY) 1) 0 _ rfl, KX.out.below (below_drewN (Below.refl _ yY) 1) 1 _ rfl, KX.out.below (below_drewN (Below.refl _ yY) 1) 2 _ rfl, KY.out.below (below_drewN (Below.refl _ yY) 1) 0 _ rfl, KY.out.below (below_drewN (Below.refl _ yY) 1) 1 _ rfl, KY.out.below (below_drewN (Below.refl _ yY) 1) 2 _ rfl⟩
       obtain ⟨yb, hyb⟩ : ∃ y, y = yY.drew := ⟨_, rfl⟩
       rw [← hyb] at hHeld ⊢
       have BYb : Hid (Below yY.heap.size yY yb) := Lib.hid (by rw [hyb]; exact below_drewN (Below.refl _ yY) 1)
       clear hyb
       refine tq 0 ?_
       refine tq 1 ?_
       refine tq 2 ?_
       refine tq 3 ?_
       refine tq 4 ?_
       refine tq 5 ?_
       refine tq 6 ?_
       refine tq 7 ?_
       refine tq 8 ?_
       refine tq 9 ?_
       refine tq 10 ?_
       refine tq 11 ?_
       refine tq 12 ?_
       refine tq 13 ?_
       refine tq 14 ?_
       refine tq 15 ?_
       refine tq 17 ?_
       refine rd 16 fun K hK => ?_
       go_simp
       refine (lref_at _ _ _ _ d1 (CX.out.later BYb.out)).mono ?_
       rintro e yl0 ⟨rfl, hb⟩
       replace BYb := Lib.hid (below_step' BYb.out hb)
       clear hb
       go_wp2_with fail
       refine hK.out _ _ ?_ (fun hHeld => ?_)
       ·exact ⟨KX.out.below BYb.out 0 _ rfl, KX.out.below BYb.out 1 _ rfl, KX.out.below BYb.out 2 _ rfl, KY.out.below BYb.out 0 _ rfl, KY.out.below BYb.out 1 _ rfl, KY.out.below BYb.out 2 _ rfl⟩
       clear hK K
       try simp only [Act.put, List.getElem_toArray, List.getElem_cons_zero, List.getElem_cons_succ, List.setIfInBounds_toArray, List.set_cons_zero, List.set_cons_succ]
       refine rd 18 fun K hK => ?_
       go_simp
       refine (lref_at _ _ _ _ d1 (CY.out.later BYb.out)).mono ?_
       rintro e yl1 ⟨rfl, hb⟩
       replace BYb := Lib.hid (below_step' BYb.out hb)
       clear hb
       go_wp2_with fail
       refine hK.out _ _ ?_ (fun hHeld => ?_)
       ·exact ⟨KX.out.below BYb.out 0 _ rfl, KX.out.below BYb.out 1 _ rfl, KX.out.below BYb.out 2 _ rfl, KY.out.below BYb.out 0 _ rfl, KY.out.below BYb.out 1 _ rfl, KY.out.below BYb.out 2 _ rfl⟩
       clear hK K
       try simp only [Act.put, List.getElem_toArray, List.getElem_cons_zero, List.getElem_cons_succ, List.setIfInBounds_toArray, List.set_cons_zero, List.set_cons_succ]
       refine rd 19 fun K hK => ?_
       go_simp
       refine (rsame_at d1 d1 true _ _ _ _ _ _ _ (CX.out.later BYb.out) (CY.out.later BYb.out) SD.out SD.out ⟨fun _ => rfl, fun _ => rfl⟩).mono ?_
       rintro e yl2 ⟨rfl, hb⟩
       replace BYb := Lib.hid (below_step' BYb.out hb)
       clear hb
       go_wp2_with fail
       refine hK.out _ _ ?_ (fun hHeld => ?_)
       ·exact ⟨KX.out.below BYb.out 0 _ rfl, KX.out.below BYb.out 1 _ rfl, KX.out.below BYb.out 2 _ rfl, KY.out.below BYb.out 0 _ rfl, KY.out.below BYb.out 1 _ rfl, KY.out.below BYb.out 2 _ rfl⟩
       clear hK K
       try simp only [Act.put, List.getElem_toArray, List.getElem_cons_zero, List.getElem_cons_succ, List.setIfInBounds_toArray, List.set_cons_zero, List.set_cons_succ]
       refine tq 20 ?_
       refine tq 21 ?_
       refine rd 22 fun K hK => ?_
       go_simp
       refine (fixed5_any _).mono ?_
       rintro e yl3 ⟨rfl, hb⟩
       replace BYb := Lib.hid (below_step' BYb.out hb)
       clear hb
       go_wp2_with fail
       refine hK.out _ _ ?_ (fun hHeld => ?_)
       ·exact ⟨KX.out.below BYb.out 0 _ rfl, KX.out.below BYb.out 1 _ rfl, KX.out.below BYb.out 2 _ rfl, KY.out.below BYb.out 0 _ rfl, KY.out.below BYb.out 1 _ rfl, KY.out.below BYb.out 2 _ rfl⟩
       clear hK K
       try simp only [Act.put, List.getElem_toArray, List.getElem_cons_zero, List.getElem_cons_succ, List.setIfInBounds_toArray, List.set_cons_zero, List.set_cons_succ]
       refine tq 23 ?_
       refine tq 24 ?_
       refine wpAnyH_done (by kernel_rfl) ?_ _
       go_wp2_with fail
       go_ret
       exact ⟨rfl, below_step' BW.out BYb.out⟩
end Go.Proofs.Ytiblcpkejhiehaa

