/- Texts put together. -/
import Derived.Test.YtennbiajnkobnaaQ38
import Derived.Test.YtennbiajnkobnaaQ39
import Derived.Test.YtennbiajnkobnaaQ43
set_option linter.unusedSimpArgs false
set_option linter.unusedVariables false
namespace Go.Proofs.Ytennbiajnkobnaa
open Go.RowKit Go.PlainAid
def cutC (c : Cf) : Cf := ⟨c.states.take 10, (c.links.take 40).map (·.take 30), c.sent.take 40⟩
theorem ahead_mem {md : Region.Mode} {ops : Array Oper} {g e : Nat} (h : (aheadOf md ops g).contains e = true) : e ∈ aheadOf md ops g := by simpa using h
theorem wp_if {b : Bool} {X F : Prop} (h : if b = true then X else F) (hb : b = true) : X := by rwa [if_pos hb] at h
theorem ev_of {a : Act} {t : Nat} {v : Value} (h : a.tmps[t]? = some v) : a.eval (.tmp t) = v := by simp [Act.eval, Array.getD_eq_getD_getElem?, h]
theorem fl_ints (xs : List Int) : ∀ ds ∈ xs.map (fun a => [dI a]), ds.length = 1 := by intro ds h; obtain ⟨_, _, rfl⟩ := List.mem_map.1 h; rfl
theorem take_of_min {α : Type} {xs : List α} {n k m : Nat} (hn : n = xs.length) (hk : k = min n m) : xs.take m = xs.take k := by
 rw [List.take_eq_take_min]; congr 1; omega
/-- What each operation of the copy's beginning yields. -/
def phi (y : World) (st se : List Int) (g : Nat) (v : Value) (w : World) : Prop :=
 if g = 0 ∨ g = 9 then ∃ a, v = .slice a 0 0
 else if g = 8 then ∃ a n c, v = .slice a n c ∧ Holds False (fun q => y.heap.size ≤ q) w v (dInts st)
 else if g = 17 then ∃ a n c, v = .slice a n c ∧ Holds False (fun q => y.heap.size ≤ q) w v (dInts se)
 else if g = 18 then ∃ a n c a' n' c', v = .agg #[.slice a n c, .slice none 0 0, .slice a' n' c'] ∧ Holds False (fun q => y.heap.size ≤ q) w (.slice a n c) (dInts st) ∧ Holds False (fun q => y.heap.size ≤ q) w (.slice a' n' c') (dInts se)
 else ∃ p, v = .pointer (some ⟨p, 0, none⟩) ∧ y.heap.size ≤ p ∧ p < w.heap.size ∧ BoxAt p [.slice none 0 0, .slice none 0 0, .slice none 0 0] w ∧ OpenRow w p 1 3
theorem phi_mono {y : World} {st se : List Int} {g : Nat} {v : Value} {w w' : World} (h : phi y st se g v w) (hb : Below w.heap.size w w') : phi y st se g v w' := by
 unfold phi at h ⊢
 split
 ·next e => rw [if_pos e] at h; exact h
 ·next e =>
  rw [if_neg e] at h
  split
  ·next e1 => rw [if_pos e1] at h; obtain ⟨a, n, c, e, h⟩ := h; exact ⟨a, n, c, e, h.later hb⟩
  ·next e1 =>
   rw [if_neg e1] at h
   split
   ·next e2 => rw [if_pos e2] at h; obtain ⟨a, n, c, e, h⟩ := h; exact ⟨a, n, c, e, h.later hb⟩
   ·next e2 =>
    rw [if_neg e2] at h
    split
    ·next e3 => rw [if_pos e3] at h; obtain ⟨a, n, c, a', n', c', e, h, h'⟩ := h; exact ⟨a, n, c, a', n', c', e, h.later hb, h'.later hb⟩
    ·next e3 => rw [if_neg e3] at h; obtain ⟨p, e, h1, h2, h3, h4⟩ := h; exact ⟨p, e, h1, Nat.lt_of_lt_of_le h2 hb.size, h3.below hb, h4.same (SameOn.of_below (P := fun _ => True) hb) trivial h2⟩
/-- A row that an operation yields stands in no block of that box. -/
def freeR (y : World) (st se : List Int) (g : Nat) (v : Value) (p : Nat) (w : World) : Prop :=
 if g = 8 then Holds False (fun q => y.heap.size ≤ q ∧ q ≠ p) w v (dInts st)
 else if g = 17 then Holds False (fun q => y.heap.size ≤ q ∧ q ≠ p) w v (dInts se)
 else if g = 18 then ∃ a n c a' n' c', v = .agg #[.slice a n c, .slice none 0 0, .slice a' n' c'] ∧ Holds False (fun q => y.heap.size ≤ q ∧ q ≠ p) w (.slice a n c) (dInts st) ∧ Holds False (fun q => y.heap.size ≤ q ∧ q ≠ p) w (.slice a' n' c') (dInts se)
 else True
def psi (y : World) (st se : List Int) (g h : Nat) (v u : Value) (w : World) : Prop := (g = 19 → ∀ p, v = .pointer (some ⟨p, 0, none⟩) → freeR y st se h u p w) ∧ (h = 19 → ∀ p, u = .pointer (some ⟨p, 0, none⟩) → freeR y st se g v p w)
theorem freeR_mono {y : World} {st se : List Int} {g : Nat} {v : Value} {p : Nat} {w w' : World} (h : freeR y st se g v p w) (hb : Below w.heap.size w w') : freeR y st se g v p w' := by
 unfold freeR at h ⊢
 split
 ·next e => rw [if_pos e] at h; exact h.later hb
 ·next e =>
  rw [if_neg e] at h
  split
  ·next e => rw [if_pos e] at h; exact h.later hb
  ·next e =>
   rw [if_neg e] at h
   split
   ·next e => rw [if_pos e] at h; obtain ⟨a, n, c, a', n', c', e, h, h'⟩ := h; exact ⟨a, n, c, a', n', c', e, h.later hb, h'.later hb⟩
   ·trivial
theorem psi_mono {y : World} {st se : List Int} {g h : Nat} {v u : Value} {w w' : World} (q : psi y st se g h v u w) (hb : Below w.heap.size w w') : psi y st se g h v u w' := ⟨fun e p ep => freeR_mono (q.1 e p ep) hb, fun e p ep => freeR_mono (q.2 e p ep) hb⟩
theorem phi0 {y : World} {st se : List Int} {v : Value} {w : World} {g : Nat} (hg : g = 0 ∨ g = 9) : phi y st se g v w ↔ ∃ a, v = .slice a 0 0 := by unfold phi; rw [if_pos hg]
theorem phi8 {y : World} {st se : List Int} {v : Value} {w : World} : phi y st se 8 v w ↔ ∃ a n c, v = .slice a n c ∧ Holds False (fun q => y.heap.size ≤ q) w v (dInts st) := by unfold phi; rw [if_neg (by decide), if_pos rfl]
theorem phi17 {y : World} {st se : List Int} {v : Value} {w : World} : phi y st se 17 v w ↔ ∃ a n c, v = .slice a n c ∧ Holds False (fun q => y.heap.size ≤ q) w v (dInts se) := by unfold phi; rw [if_neg (by decide), if_neg (by decide), if_pos rfl]
theorem phi18 {y : World} {st se : List Int} {v : Value} {w : World} : phi y st se 18 v w ↔ ∃ a n c a' n' c', v = .agg #[.slice a n c, .slice none 0 0, .slice a' n' c'] ∧ Holds False (fun q => y.heap.size ≤ q) w (.slice a n c) (dInts st) ∧ Holds False (fun q => y.heap.size ≤ q) w (.slice a' n' c') (dInts se) := by unfold phi; rw [if_neg (by decide), if_neg (by decide), if_neg (by decide), if_pos rfl]
theorem phi19 {y : World} {st se : List Int} {v : Value} {w : World} : phi y st se 19 v w ↔ ∃ p, v = .pointer (some ⟨p, 0, none⟩) ∧ y.heap.size ≤ p ∧ p < w.heap.size ∧ BoxAt p [.slice none 0 0, .slice none 0 0, .slice none 0 0] w ∧ OpenRow w p 1 3 := by unfold phi; rw [if_neg (by decide), if_neg (by decide), if_neg (by decide), if_neg (by decide)]
theorem free8 {y : World} {st se : List Int} {v : Value} {p : Nat} {w : World} : freeR y st se 8 v p w ↔ Holds False (fun q => y.heap.size ≤ q ∧ q ≠ p) w v (dInts st) := by unfold freeR; rw [if_pos rfl]
theorem free17 {y : World} {st se : List Int} {v : Value} {p : Nat} {w : World} : freeR y st se 17 v p w ↔ Holds False (fun q => y.heap.size ≤ q ∧ q ≠ p) w v (dInts se) := by unfold freeR; rw [if_neg (by decide), if_pos rfl]
theorem free18 {y : World} {st se : List Int} {v : Value} {p : Nat} {w : World} : freeR y st se 18 v p w ↔ ∃ a n c a' n' c', v = .agg #[.slice a n c, .slice none 0 0, .slice a' n' c'] ∧ Holds False (fun q => y.heap.size ≤ q ∧ q ≠ p) w (.slice a n c) (dInts st) ∧ Holds False (fun q => y.heap.size ≤ q ∧ q ≠ p) w (.slice a' n' c') (dInts se) := by unfold freeR; rw [if_neg (by decide), if_neg (by decide), if_pos rfl]
theorem free_no {y : World} {st se : List Int} {g : Nat} {v : Value} {p : Nat} {w : World} (h : g ≠ 8 ∧ g ≠ 17 ∧ g ≠ 18) : freeR y st se g v p w := by unfold freeR; rw [if_neg h.1, if_neg h.2.1, if_neg h.2.2]; trivial
theorem psi_no {y : World} {st se : List Int} {g h : Nat} {v u : Value} {w : World} (hg : g ≠ 8 ∧ g ≠ 17 ∧ g ≠ 18) (hn : g ≠ 19) : psi y st se g h v u w := ⟨fun e => absurd e hn, fun _ _ _ => free_no hg⟩
/-- The copy under way: its box, and the links done. -/
structure CutAt (yb w9 : World) (p : Nat) (u1 u3 v : Value) (ls : List Lks) (wr : World) : Prop where
 c0 : wr.cell? ⟨p, 0, none⟩ = some u1
 c2 : wr.cell? ⟨p, 2, none⟩ = some u3
 f : Fld False (fun q => w9.heap.size ≤ q) 51 1 yb wr p 1 v (ls.map fun m => [dLinks m])
 s : SameOn (fun q => q < w9.heap.size ∧ q ≠ p) w9 wr
theorem CutAt.push {yb w9 : World} {p : Nat} {u1 u3 v v' : Value} {ls : List Lks} {m : Lks} {wr w5 w6 : World} (h : CutAt yb w9 p u1 u3 v ls wr) (hp : p < w9.heap.size) (hb : Below wr.heap.size wr w5)
  (hO : Own False (fun q => w9.heap.size ≤ q) 51 1 yb w6.heap.size w6 v' (ls.map (fun m => [dLinks m]) ++ [[dLinks m]])) (hg : w5.grownBy w6 v.ownBlock) (hv : v'.ownBlock = v.ownBlock ∨ v'.ownBlock = some w5.heap.size) :
  CutAt yb w9 p u1 u3 v' (ls ++ [m]) (w6.setCell ⟨p, 1, none⟩ v') ∧ w6.cell? ⟨p, 1, none⟩ = some v ∧ w6.frozen? ⟨p, 1, none⟩ = false ∧ (∀ (c : Addr) (u : Value), w5.cell? c = some u → c.block < w9.heap.size → w6.cell? c = some u ∧ (c.block ≠ p → (w6.setCell ⟨p, 1, none⟩ v').cell? c = some u)) := by
 have hs := h.s.1
 obtain ⟨a1, a2, a3, a4, a5, a6, a7⟩ := h.f.push hb hO hg hv (Nat.le_trans hs hb.size)
 have hne : ∀ k, k < w9.heap.size → v.ownBlock ≠ some k := fun k hk e => by
  have h1 : w9.heap.size ≤ k := h.f.bld.inP k e
  omega
 have k0 := (hb.cell (World.block_lt_of_cell? wr _ h.c0)).trans h.c0
 have k2 := (hb.cell (World.block_lt_of_cell? wr _ h.c2)).trans h.c2
 have e1 := h.s
 have e2 := a5 (fun q => q < w9.heap.size ∧ q ≠ p) (fun q (hq : q < w9.heap.size ∧ q ≠ p) => Nat.not_le.2 hq.1) (fun hq => hq.2 rfl)
 have e3 : SameOn (fun q => q < w9.heap.size ∧ q ≠ p) wr w5 := SameOn.of_below hb
 refine ⟨⟨a6 _ _ k0 (Nat.not_le.2 hp) (by simp), a6 _ _ k2 (Nat.not_le.2 hp) (by simp), ?_, ?_⟩, a2, a3, fun c u hc hlt => ⟨(World.cell?_of_block (hg.block c.block (World.block_lt_of_cell? w5 _ hc) (fun e => hne _ hlt e.symm))).trans hc, fun e => a6 c u hc (Nat.not_le.2 hlt) (fun h => e (by rw [h]))⟩⟩
 ·rw [List.map_append]
  exact a1
 ·exact ⟨Nat.le_trans e1.1 (Nat.le_trans e3.1 e2.1), fun b hq hb' => (e2.2 b hq (Nat.lt_of_lt_of_le hb' (Nat.le_trans e1.1 e3.1))).trans ((e3.2 b hq (Nat.lt_of_lt_of_le hb' e1.1)).trans (e1.2 b hq hb'))⟩
def phiL (y : World) (vL : Value) (m : Lks) (g : Nat) (v : Value) (w : World) : Prop :=
 if g = 1 then v = vL
 else if g = 2 then ∃ a, v = .slice a 0 0
 else if g = 16 then ∃ a n c, v = .slice a n c ∧ Holds False (fun q => y.heap.size ≤ q) w v (dLinks m)
 else ∃ b a n c, v = .slice (some ⟨b, 0, none⟩) 1 1 ∧ w.cell? ⟨b, 0, none⟩ = some (.slice a n c) ∧ Holds False (fun q => y.heap.size ≤ q) w (.slice a n c) (dLinks m)
theorem phiL_mono {y : World} {vL : Value} {m : Lks} {g : Nat} {v : Value} {w w' : World} (h : phiL y vL m g v w) (hb : Below w.heap.size w w') : phiL y vL m g v w' := by
 unfold phiL at h ⊢
 split
 ·next e => rw [if_pos e] at h; exact h
 ·next e =>
  rw [if_neg e] at h
  split
  ·next e => rw [if_pos e] at h; exact h
  ·next e =>
   rw [if_neg e] at h
   split
   ·next e => rw [if_pos e] at h; obtain ⟨a, n, c, e, h⟩ := h; exact ⟨a, n, c, e, h.later hb⟩
   ·next e => rw [if_neg e] at h; obtain ⟨b, a, n, c, e, h1, h2⟩ := h; exact ⟨b, a, n, c, e, (hb.cell (World.block_lt_of_cell? w _ h1)).trans h1, h2.later hb⟩
theorem phiL16 {y : World} {vL : Value} {m : Lks} {v : Value} {w : World} : phiL y vL m 16 v w ↔ ∃ a n c, v = .slice a n c ∧ Holds False (fun q => y.heap.size ≤ q) w v (dLinks m) := by unfold phiL; rw [if_neg (by decide), if_neg (by decide), if_pos rfl]
theorem phiL17 {y : World} {vL : Value} {m : Lks} {v : Value} {w : World} : phiL y vL m 17 v w ↔ ∃ b a n c, v = .slice (some ⟨b, 0, none⟩) 1 1 ∧ w.cell? ⟨b, 0, none⟩ = some (.slice a n c) ∧ Holds False (fun q => y.heap.size ≤ q) w (.slice a n c) (dLinks m) := by unfold phiL; rw [if_neg (by decide), if_neg (by decide), if_neg (by decide)]
theorem fl_links (xs : Lks) : ∀ ds ∈ xs.map (fun p => [dI p.1, dI p.2]), ds.length = 2 := by intro ds h; obtain ⟨_, _, rfl⟩ := List.mem_map.1 h; rfl
theorem Holds.low {P : Nat → Prop} {w : World} {v : Value} {d : D} (h : Holds False P w v d) : Holds False (fun q => P q ∧ q ≠ w.heap.size) w v d := h.wide (fun _ hb hp => ⟨hp, Nat.ne_of_lt hb⟩)
set_option maxHeartbeats 8000000 in
set_option maxRecDepth 100000 in
theorem cutConf_at (c : Cf) (v1 v2 v3 : Value) (w : World) (hC : HasL w [v1, v2, v3] c.d) :
  Calls Try.prog 7 #[.agg #[v1, v2, v3]] w fun e w' => ∃ a1 a2 a3 n1 n2 n3 e1 e2 e3, e = .returned (.agg #[.slice a1 n1 e1, .slice a2 n2 e2, .slice a3 n3 e3]) ∧ HoldsL False (fun q => w.heap.size ≤ q) w' [.slice a1 n1 e1, .slice a2 n2 e2, .slice a3 n3 e3] (cutC c).d ∧ Below w.heap.size w w' := by
 obtain ⟨c1, c2, c3⟩ := cf_has hC
 obtain ⟨a1, e1, ee⟩ := slice_of c1
 subst ee
 obtain ⟨a2, e2, ee⟩ := slice_of c2
 subst ee
 obtain ⟨a3, e3, ee⟩ := slice_of c3
 subst ee
 obtain ⟨n1, hn1⟩ : ∃ n, n = c.states.length := ⟨_, rfl⟩
 obtain ⟨n2, hn2⟩ : ∃ n, n = c.links.length := ⟨_, rfl⟩
 obtain ⟨n3, hn3⟩ : ∃ n, n = c.sent.length := ⟨_, rfl⟩
 rw [← hn1] at c1 ⊢
 rw [← hn2] at c2 ⊢
 rw [← hn3] at c3 ⊢
 have hc1 := capOf c1
 have hc3 := capOf c3
 obtain ⟨k1, hk1⟩ : ∃ k, k = min n1 10 := ⟨_, rfl⟩
 obtain ⟨k3, hk3⟩ : ∃ k, k = min n3 40 := ⟨_, rfl⟩
 have hm1 : (if 10 < (n1 : Int) then (10 : Int) else (n1 : Int)) = (k1 : Int) := by split <;> omega
 have hm3 : (if 40 < (n3 : Int) then (40 : Int) else (n3 : Int)) = (k3 : Int) := by split <;> omega
 have hk1c : k1 ≤ e1 := by omega
 have hk3c : k3 ≤ e3 := by omega
 have hh1 : Has w (.slice a1 k1 e1) (dInts (c.states.take 10)) := by
  rw [take_of_min hn1 hk1]
  have h := Holds.take (m := k1) c1 (by rw [List.length_map, ← hn1]; omega)
  rw [← List.map_take] at h
  exact h
 have hh3 : Has w (.slice a3 k3 e3) (dInts (c.sent.take 40)) := by
  rw [take_of_min hn3 hk3]
  have h := Holds.take (m := k3) c3 (by rw [List.length_map, ← hn3]; omega)
  rw [← List.map_take] at h
  exact h
 obtain ⟨i1, hi1, hz1, hs1, hby1⟩ := info_parts infoI
 have H1 := Lib.hid hh1
 have H2 := Lib.hid c2
 have H3 := Lib.hid hh3
 have N2 := Lib.hid hn2
 have hk1x : k1 ≤ 10 := by omega
 have hk3x : k3 ≤ 40 := by omega
 clear hC c1 c2 c3 hh1 hh3 hn1 hn2 hn3 hk1 hk3
 go_enter Try.func7, Try.ntmps7
 try simp only [List.append_eq, List.cons_append, List.nil_append]
 go_upto_region 1 with fail
 obtain ⟨y0, hy0⟩ : ∃ y, y = (w.alloc (.cells #[.slice a1 n1 e1, .slice a2 n2 e2, .slice a3 n3 e3] 31)).alloc (.cells #[.slice none 0 0, .slice none 0 0, .slice none 0 0] 31) := ⟨_, rfl⟩
 have hb0 : Below w.heap.size w y0 := by rw [hy0]; exact below_step' (below_new _ _) (below_new _ _)
 have hx0 : BoxAt w.heap.size [.slice a1 n1 e1, .slice a2 n2 e2, .slice a3 n3 e3] y0 := by rw [hy0]; exact (boxAt_new w [.slice a1 n1 e1, .slice a2 n2 e2, .slice a3 n3 e3] _).below (below_new _ _)
 have hx1 : BoxAt (w.heap.size + 1) [.slice none 0 0, .slice none 0 0, .slice none 0 0] y0 := by
  have h := boxAt_new (w.alloc (.cells #[.slice a1 n1 e1, .slice a2 n2 e2, .slice a3 n3 e3] 31)) [.slice none 0 0, .slice none 0 0, .slice none 0 0] 31
  rw [size_alloc] at h
  rw [hy0]; exact h
 have ho1 : OpenRow y0 (w.heap.size + 1) 1 3 := by
  have h := heap_alloc_new (w.alloc (.cells #[.slice a1 n1 e1, .slice a2 n2 e2, .slice a3 n3 e3] 31)) (.cells #[.slice none 0 0, .slice none 0 0, .slice none 0 0] 31)
  rw [size_alloc] at h
  rw [hy0]; exact ⟨by decide, _, _, h, rfl⟩
 have hz0 : w.heap.size + 2 ≤ y0.heap.size := by rw [hy0]; simp
 rw [← hy0]
 obtain ⟨bc, hbc⟩ : ∃ b, b = w.heap.size := ⟨_, rfl⟩
 obtain ⟨br, hbr⟩ : ∃ b, b = w.heap.size + 1 := ⟨_, rfl⟩
 have hrr : br < y0.heap.size ∧ w.heap.size ≤ br ∧ w.heap.size ≤ bc ∧ bc ≠ br := by omega
 rw [← hbc] at hx0
 rw [← hbr] at hx1 ho1 ⊢
 rw [← hbc]
 have B0 := Lib.hid hb0
 have K0 := Lib.hid hx0
 have K1 := Lib.hid hx1
 have O1 := Lib.hid ho1
 have RR := Lib.hid hrr
 clear hy0 hb0 hx0 hx1 ho1 hz0 hbc hbr hrr
 refine wp_region_held_drew (S := (fun w' => w'.cell? ⟨bc, 0, none⟩ = some (.slice a1 n1 e1) ∧ w'.cell? ⟨bc, 2, none⟩ = some (.slice a3 n3 e3))) (by kernel_rfl) ?_ (fun hHeld => ?_)
 ·exact ⟨K0.out.below (below_drewN (Below.refl _ y0) 1) 0 _ rfl, K0.out.below (below_drewN (Below.refl _ y0) 1) 2 _ rfl⟩
 obtain ⟨yb, hyb⟩ : ∃ y, y = y0.drew := ⟨_, rfl⟩
 rw [← hyb] at hHeld ⊢
 have BYb : Hid (Below y0.heap.size y0 yb) := Lib.hid (by rw [hyb]; exact below_drewN (Below.refl _ y0) 1)
 clear hyb
 refine tq 1 ?_
 refine tq 2 ?_
 refine tq 3 ?_
 refine tq 4 ?_
 refine tq 5 ?_
 refine tq 6 ?_
 refine tq 7 ?_
 refine tq 10 ?_
 refine tq 11 ?_
 refine tq 12 ?_
 refine tq 13 ?_
 refine tq 14 ?_
 refine tq 15 ?_
 refine tq 16 ?_
 refine wpAnyH_group (n := 1) [0, 8, 9, 17, 18, 19] 20 (phi yb (c.states.take 10) (c.sent.take 40)) (psi yb (c.states.take 10) (c.sent.take 40)) (by kernel_rfl) (by kernel_rfl) (by kernel_rfl) (by kernel_rfl) (by kernel_rfl) (fun _ _ _ _ h hb => phi_mono h hb) (fun _ _ _ _ _ _ h hb => psi_mono h hb) ?step hHeld ?fin
 case step =>
  intro g hg o ho D vs a wx hD hgD hφ hψ hSx hbx hfr hdep K hK
  have hwz := hbx.size
  have SX : ∀ w', Below wx.heap.size wx w' → w'.cell? ⟨bc, 0, none⟩ = some (.slice a1 n1 e1) ∧ w'.cell? ⟨bc, 2, none⟩ = some (.slice a3 n3 e3) := fun w' hb => ⟨(hb.cell (World.block_lt_of_cell? wx _ hSx.1)).trans hSx.1, (hb.cell (World.block_lt_of_cell? wx _ hSx.2)).trans hSx.2⟩
  have BX := below_step' (below_step' B0.out BYb.out) hbx
  simp only [List.mem_cons, List.not_mem_nil, or_false] at hg
  rcases hg with rfl | rfl | rfl | rfl | rfl | rfl
  ·obtain rfl := Option.some.inj (show some _ = some o from ho)
   go_simp
   exact hK.out _ _ (SX _ (below_new _ _)) ((phi0 (.inl rfl)).2 ⟨_, rfl⟩) (fun h _ => psi_no (by decide) (by decide)) (below_new _ _)
  ·obtain rfl := Option.some.inj (show some _ = some o from ho)
   obtain ⟨h0, d0⟩ := hdep 0 (by simp) (ahead_mem (by kernel_rfl))
   obtain ⟨a0, ea0⟩ := (phi0 (.inl rfl)).1 (hφ 0 h0)
   have e5 := ev_of (d0 5 rfl)
   rw [ea0] at e5
   have e12 : a.eval (.tmp 12) = .slice a1 k1 e1 := ev_of ((hfr 12 (by decide)).trans rfl)
   refine wp_if (appS0 (ops := #[]) (F := True) rfl _ _ 28 3 i1 (.int .i64 0) 1 8 rfl Try.underlying28 hi1 hz1 hs1 hby1 rfl (by decide) a0 ((c.states.take 10).map fun a => [dI a]) k1 e1 e5 a1 e12 (H1.out.later BX) (fl_ints _) (flat_ints _) (by unfold maxLen; omega) (by omega) (fun ao cv w' hH hb => hK.out _ _ (SX w' hb) (phi8.2 ⟨ao, k1, cv, rfl, hH.loose.wide (fun q _ (h : wx.heap.size ≤ q) => Nat.le_trans hwz h)⟩) (fun h hh => ⟨fun e => absurd e (by decide), fun e p ep => ?_⟩) hb)) rfl
   subst e
   obtain ⟨p', e', _, hp2, _⟩ := phi19.1 (hφ 19 hh)
   rw [ep] at e'
   cases e'
   exact free8.2 (hH.loose.wide (fun q _ (h : wx.heap.size ≤ q) => ⟨Nat.le_trans hwz h, fun e => by omega⟩))
  ·obtain rfl := Option.some.inj (show some _ = some o from ho)
   go_simp
   exact hK.out _ _ (SX _ (below_new _ _)) ((phi0 (.inr rfl)).2 ⟨_, rfl⟩) (fun h _ => psi_no (by decide) (by decide)) (below_new _ _)
  ·obtain rfl := Option.some.inj (show some _ = some o from ho)
   obtain ⟨h0, d0⟩ := hdep 9 (by simp) (ahead_mem (by kernel_rfl))
   obtain ⟨a0, ea0⟩ := (phi0 (.inr rfl)).1 (hφ 9 h0)
   have e5 := ev_of (d0 14 rfl)
   rw [ea0] at e5
   have e12 : a.eval (.tmp 21) = .slice a3 k3 e3 := ev_of ((hfr 21 (by decide)).trans rfl)
   refine wp_if (appS0 (ops := #[]) (F := True) rfl _ _ 28 3 i1 (.int .i64 0) 1 8 rfl Try.underlying28 hi1 hz1 hs1 hby1 rfl (by decide) a0 ((c.sent.take 40).map fun a => [dI a]) k3 e3 e5 a3 e12 (H3.out.later BX) (fl_ints _) (flat_ints _) (by unfold maxLen; omega) (by omega) (fun ao cv w' hH hb => hK.out _ _ (SX w' hb) (phi17.2 ⟨ao, k3, cv, rfl, hH.loose.wide (fun q _ (h : wx.heap.size ≤ q) => Nat.le_trans hwz h)⟩) (fun h hh => ⟨fun e => absurd e (by decide), fun e p ep => ?_⟩) hb)) rfl
   subst e
   obtain ⟨p', e', _, hp2, _⟩ := phi19.1 (hφ 19 hh)
   rw [ep] at e'
   cases e'
   exact free17.2 (hH.loose.wide (fun q _ (h : wx.heap.size ≤ q) => ⟨Nat.le_trans hwz h, fun e => by omega⟩))
  ·obtain rfl := Option.some.inj (show some _ = some o from ho)
   obtain ⟨h8, d8⟩ := hdep 8 (by simp) (ahead_mem (by kernel_rfl))
   obtain ⟨h17, d17⟩ := hdep 17 (by simp) (ahead_mem (by kernel_rfl))
   obtain ⟨s1, m1, q1, ea, ha⟩ := phi8.1 (hφ 8 h8)
   obtain ⟨s3, m3, q3, eb, hb3⟩ := phi17.1 (hφ 17 h17)
   have e13 := d8 13 rfl
   have e22 := d17 22 rfl
   have PF : ∀ h ∈ D, psi yb (c.states.take 10) (c.sent.take 40) 18 h (.agg #[vs 8, .slice none 0 0, vs 17]) (vs h) wx := fun h hh => ⟨fun e => absurd e (by decide), fun e p ep => by
    subst e
    have p8 := (hψ 8 h8 19 hh (by decide)).elim (fun q => q.2 rfl p ep) (fun q => q.1 rfl p ep)
    have p17 := (hψ 17 h17 19 hh (by decide)).elim (fun q => q.2 rfl p ep) (fun q => q.1 rfl p ep)
    exact free18.2 ⟨s1, m1, q1, s3, m3, q3, by rw [ea, eb], by rw [← ea]; exact free8.1 p8, by rw [← eb]; exact free17.1 p17⟩⟩
   rw [ea, eb] at PF
   rw [ea] at e13 ha
   rw [eb] at e22 hb3
   clear hψ hφ hdep hfr d8 d17
   go_simp
   exact hK.out _ _ hSx (phi18.2 ⟨s1, m1, q1, s3, m3, q3, rfl, ha, hb3⟩) PF (Below.refl _ _)
  ·obtain rfl := Option.some.inj (show some _ = some o from ho)
   go_simp
   have hbn := below_new wx (.cells #[.slice none 0 0, .slice none 0 0, .slice none 0 0] 31)
   refine hK.out _ _ (SX _ hbn) (phi19.2 ⟨_, rfl, hwz, by simp, boxAt_new wx [.slice none 0 0, .slice none 0 0, .slice none 0 0] _, by decide, _, _, heap_alloc_new wx _, rfl⟩) (fun h hh => ⟨fun _ p ep => ?_, fun e => absurd (e ▸ hh) hgD⟩) hbn
   simp only [Value.pointer.injEq, Option.some.injEq, Addr.mk.injEq] at ep
   obtain ⟨ep, _⟩ := ep
   subst ep
   have hin := hD h hh
   simp only [List.mem_cons, List.not_mem_nil, or_false] at hin
   rcases hin with rfl | rfl | rfl | rfl | rfl | rfl
   ·exact free_no (by decide)
   ·obtain ⟨_, _, _, e, hr⟩ := phi8.1 (hφ 8 hh)
    exact free8.2 (hr.low.later hbn)
   ·exact free_no (by decide)
   ·obtain ⟨_, _, _, e, hr⟩ := phi17.1 (hφ 17 hh)
    exact free17.2 (hr.low.later hbn)
   ·obtain ⟨s1, m1, q1, s3, m3, q3, e, ha, hb3⟩ := phi18.1 (hφ 18 hh)
    exact free18.2 ⟨s1, m1, q1, s3, m3, q3, e, ha.low.later hbn, hb3.low.later hbn⟩
   ·exact absurd hh hgD
 case fin =>
  intro vs wx hSx hbx hφ hψ
  obtain ⟨s1, m1, o1, s3, m3, o3, e18, _, _⟩ := phi18.1 (hφ 18 (by simp))
  obtain ⟨p, e19, hp1, hp2, hbp, hop⟩ := phi19.1 (hφ 19 (by simp))
  have hfr := (hψ 18 (by simp) 19 (by simp) (by decide)).elim (fun q => q.2 rfl p e19) (fun q => q.1 rfl p e19)
  obtain ⟨t1, r1, u1, t3, r3, u3, e18', f1, f3⟩ := free18.1 hfr
  rw [e18] at e18'
  simp only [Value.agg.injEq, Array.mk.injEq, List.cons.injEq, Value.slice.injEq, and_true, true_and] at e18'
  obtain ⟨⟨ea, eb, ec⟩, ed, ee, ef⟩ := e18'
  subst ea eb ec ed ee ef
  obtain ⟨v0, hv0⟩ : ∃ v, v = vs 0 := ⟨_, rfl⟩
  obtain ⟨v8, hv8⟩ : ∃ v, v = vs 8 := ⟨_, rfl⟩
  obtain ⟨v9, hv9⟩ : ∃ v, v = vs 9 := ⟨_, rfl⟩
  obtain ⟨v17, hv17⟩ : ∃ v, v = vs 17 := ⟨_, rfl⟩
  change wpAnyH _ _ _ _ _ _ _ (((((((_ : Act).put (some 5) (vs 0)).put (some 13) (vs 8)).put (some 14) (vs 9)).put (some 22) (vs 17)).put (some 23) (vs 18)).put (some 3) (vs 19)) _
  rw [e18, e19, ← hv0, ← hv8, ← hv9, ← hv17]
  try simp only [Act.put, List.getElem_toArray, List.getElem_cons_zero, List.getElem_cons_succ, List.setIfInBounds_toArray, List.set_cons_zero, List.set_cons_succ]
  have F1 := Lib.hid f1
  have F3 := Lib.hid f3
  have BX := Lib.hid (below_step' BYb.out hbx)
  have hbxx := hbx
  have HBP := Lib.hid hbp
  have HOP := Lib.hid hop
  have HP1 := Lib.hid hp1
  have HP2 := Lib.hid hp2
  clear hv0 hv8 hv9 hv17 hφ hψ hbx f1 f3 e18 e19 hfr
  refine rd 20 fun K hK => ?_
  have k0 := hbp 0 _ rfl
  have k1 := hbp 1 _ rfl
  have k2 := hbp 2 _ rfl
  have q0 := hop.frozen 0
  have q1 := hop.frozen 1
  have q2 := hop.frozen 2
  clear hbp hop
  go_simp
  clear k0 k1 k2 q0 q1 q2
  obtain ⟨w9, hw9⟩ : ∃ x, x = ((wx.setCell ⟨p, 0, none⟩ (.slice s1 m1 o1)).setCell ⟨p, 1, none⟩ (.slice none 0 0)).setCell ⟨p, 2, none⟩ (.slice s3 m3 o3) := ⟨_, rfl⟩
  have r9 : BoxAt p [.slice s1 m1 o1, .slice none 0 0, .slice s3 m3 o3] w9 := by rw [hw9]; exact boxAt_set (j := 2) (u := .slice s3 m3 o3) (boxAt_set (j := 1) (u := .slice none 0 0) (boxAt_set (j := 0) (u := .slice s1 m1 o1) HBP.out))
  have o9 : OpenRow w9 p 1 3 := by rw [hw9]; exact ((HOP.out.set 0 _).set 1 _).set 2 _
  have hyp : y0.heap.size ≤ p := Nat.le_trans BYb.out.size HP1.out
  have b9 : Below yb.heap.size yb w9 := by rw [hw9]; exact ((hbxx.setCell HP1.out _).setCell HP1.out _).setCell HP1.out _
  have hs9 : SameOn (fun q => q ≠ p) wx w9 := by rw [hw9]; exact (((SameOn.refl _ wx).set ⟨p, 0, none⟩ _ (fun h => h rfl)).set ⟨p, 1, none⟩ _ (fun h => h rfl)).set ⟨p, 2, none⟩ _ (fun h => h rfl)
  have g1 := F1.out.same (hs9.sub (fun _ h => h.2))
  have g3 := F3.out.same (hs9.sub (fun _ h => h.2))
  have hp9 : p < w9.heap.size := Nat.lt_of_lt_of_le HP2.out hs9.1
  rw [← hw9]
  have R9 := Lib.hid r9
  have O9 := Lib.hid o9
  have B9 := Lib.hid b9
  have G1 := Lib.hid g1
  have G3 := Lib.hid g3
  have HP9 := Lib.hid hp9
  clear hw9 r9 o9 b9 hs9 g1 g3 hp9 hyp hbxx F1 F3 HBP HOP HP2
  refine hK.out _ _ ?_ (fun hHeld => ?_)
  ·exact ⟨K0.out.below (below_step' BYb.out B9.out) 0 _ rfl, K0.out.below (below_step' BYb.out B9.out) 2 _ rfl⟩
  clear hK K
  try simp only [Act.put, List.getElem_toArray, List.getElem_cons_zero, List.getElem_cons_succ, List.setIfInBounds_toArray, List.set_cons_zero, List.set_cons_succ]
  refine wpAnyH_done (by kernel_rfl) ?_ _
  go_wp2_with fail
  obtain ⟨iL, hiL, hzL, hsL, hbL⟩ := info_parts infoMsgs
  obtain ⟨iM, hiM, hzM, hsM, hbM⟩ := info_parts infoMsg
  have hC0 : CutAt yb w9 p (.slice s1 m1 o1) (.slice s3 m3 o3) (.slice none 0 0) [] w9 := ⟨R9.out 0 _ rfl, R9.out 2 _ rfl, ⟨R9.out 1 _ rfl, O9.out.frozen 1, ⟨Own.nil B9.out, fun k hk => by simp [Value.ownBlock] at hk⟩, by have := HP9.out; omega, HP1.out⟩, SameOn.refl _ _⟩
  have C0 := Lib.hid hC0
  clear hC0 R9 O9
  go_loopw [4] (fun i wr => ∃ (k : Nat) (v : Value), i = .int .i64 k ∧ k ≤ n2 ∧ k ≤ 40 ∧ CutAt yb w9 p (.slice s1 m1 o1) (.slice s3 m3 o3) v ((c.links.take k).map (·.take 30)) wr) (fun i _ => 40 - (intOf i).toNat)
  case atStart => exact ⟨0, _, rfl, by omega, by omega, C0.out⟩
  case round =>
   obtain ⟨k, v, rfl, hk, hk40, hCA⟩ := hrel
   have CA := Lib.hid hCA
   have hby := below_step' BYb.out hCA.f.bld.own.bel
   have BY := Lib.hid hby
   have c1 := K0.out.below hby 1 _ rfl
   clear hCA
   have hqw : w.heap.size ≤ bc ∧ w.heap.size ≤ br ∧ bc ≠ br ∧ br < yb.heap.size ∧ w.heap.size < yb.heap.size := by have h1 := RR.out; have h2 := BYb.out.size; omega
   have HQW := Lib.hid hqw
   clear hqw
   by_cases hlt : k < n2
   ·have hlt' : (k : Int) < n2 := by omega
    by_cases hl4 : k < 40
    ·have hl4' : (k : Int) < 40 := by omega
     obtain ⟨m, hm⟩ := some_of_lt (l := c.links) (i := k) (by rw [← N2.out]; exact hlt)
     obtain ⟨lb, lo, ma, mc, e, hlb, e9, z0, hmm0⟩ := lls_at H2.out hm
     clear e9
     subst e
     have hbw := below_step' B0.out hby
     have z1 := (hbw.cell (World.block_lt_of_cell? w _ z0)).trans z0
     have hmm := hmm0.later hbw
     have HLB : Hid (lb < y0.heap.size ∧ bc < y0.heap.size) := Lib.hid ⟨Nat.lt_of_lt_of_le hlb B0.out.size, World.block_lt_of_cell? y0 _ (K0.out 1 _ rfl)⟩
     clear z0 hmm0 hbw hlb
     obtain ⟨ml, hml⟩ : ∃ n, n = m.length := ⟨_, rfl⟩
     rw [← hml] at z1 hmm
     have hcm := capOf hmm
     obtain ⟨kk, hkk⟩ : ∃ x, x = min ml 30 := ⟨_, rfl⟩
     have hmn : (if 30 < (ml : Int) then (30 : Int) else (ml : Int)) = (kk : Int) := by split <;> omega
     have hkc : kk ≤ mc := by omega
     have hkx : kk ≤ 30 := by omega
     have hh : Has wr (.slice ma kk mc) (dLinks (m.take 30)) := by
      rw [take_of_min hml hkk]
      have h := Holds.take (m := kk) hmm (by rw [List.length_map, ← hml]; omega)
      rw [← List.map_take] at h
      exact h
     have HH := Lib.hid hh
     have HM := Lib.hid hm
     obtain ⟨va, vc, hv⟩ := CA.out.f.bld.own.slice
     rw [List.length_map, List.length_map, List.length_take, ← N2.out, Nat.min_eq_left hk] at hv
     subst hv
     have QS : Hid (∀ w', Below wr.heap.size wr w' → w'.cell? ⟨bc, 1, none⟩ = some (.slice (some ⟨lb, lo, none⟩) n2 e2) ∧ w'.cell? ⟨lb, lo + k, none⟩ = some (.slice ma ml mc)) := Lib.hid (fun w' hb => ⟨(hb.cell (World.block_lt_of_cell? wr _ c1)).trans c1, (hb.cell (World.block_lt_of_cell? wr _ z1)).trans z1⟩)
     clear hm hmm hh hml hkk hcm z1
     go_wp2_with fail
     clear c1
     refine wp_region_held_drew (S := (fun w' => w'.cell? ⟨bc, 1, none⟩ = some (.slice (some ⟨lb, lo, none⟩) n2 e2) ∧ w'.cell? ⟨lb, lo + k, none⟩ = some (.slice ma ml mc))) (by kernel_rfl) ?_ (fun hHeld => ?_)
     ·exact QS.out _ (below_drewN (Below.refl _ wr) 1)
     obtain ⟨yd, hyd⟩ : ∃ y, y = wr.drew := ⟨_, rfl⟩
     rw [← hyd] at hHeld ⊢
     have BD : Hid (Below wr.heap.size wr yd) := Lib.hid (by rw [hyd]; exact below_drewN (Below.refl _ wr) 1)
     clear hyd
     refine tq 0 ?_
     refine tq 3 ?_
     refine tq 4 ?_
     refine tq 5 ?_
     refine tq 6 ?_
     refine tq 7 ?_
     refine tq 8 ?_
     refine tq 9 ?_
     refine tq 10 ?_
     refine tq 11 ?_
     refine tq 12 ?_
     refine tq 13 ?_
     refine tq 14 ?_
     refine tq 15 ?_
     refine wpAnyH_group (n := 3) [1, 2, 16, 17] 18 (phiL yd (.slice va k vc) (m.take 30)) (fun _ _ _ _ _ => True) (by kernel_rfl) (by kernel_rfl) (by kernel_rfl) (by kernel_rfl) (by kernel_rfl) (fun _ _ _ _ h hb => phiL_mono h hb) (fun _ _ _ _ _ _ h _ => h) ?step2 hHeld ?fin2
     case step2 =>
      intro g hg o ho D vs a wy hD hgD hφ hψ hSx hby hfr hdep K hK
      have hwz := hby.size
      have SX : ∀ w', Below wy.heap.size wy w' → w'.cell? ⟨bc, 1, none⟩ = some (.slice (some ⟨lb, lo, none⟩) n2 e2) ∧ w'.cell? ⟨lb, lo + k, none⟩ = some (.slice ma ml mc) := fun w' hb => ⟨(hb.cell (World.block_lt_of_cell? wy _ hSx.1)).trans hSx.1, (hb.cell (World.block_lt_of_cell? wy _ hSx.2)).trans hSx.2⟩
      have BXY := below_step' BD.out hby
      simp only [List.mem_cons, List.not_mem_nil, or_false] at hg
      rcases hg with rfl | rfl | rfl | rfl
      ·obtain rfl := Option.some.inj (show some _ = some o from ho)
       have t35 : a.tmps[35]? = _ := (hfr 35 (by decide)).trans rfl
       have cl := ((CA.out.f.below BXY).cell)
       go_simp
       exact hK.out _ _ hSx (by unfold phiL; rw [if_pos rfl]) (fun _ _ => trivial) (Below.refl _ _)
      ·obtain rfl := Option.some.inj (show some _ = some o from ho)
       go_simp
       exact hK.out _ _ (SX _ (below_new _ _)) (by unfold phiL; rw [if_neg (by decide), if_pos rfl]; exact ⟨_, rfl⟩) (fun _ _ => trivial) (below_new _ _)
      ·obtain rfl := Option.some.inj (show some _ = some o from ho)
       obtain ⟨h0, d0⟩ := hdep 2 (by simp) (ahead_mem (by kernel_rfl))
       have h2 := hφ 2 h0
       unfold phiL at h2
       rw [if_neg (by decide), if_pos rfl] at h2
       obtain ⟨a0, ea0⟩ := h2
       have e5 := ev_of (d0 37 rfl)
       rw [ea0] at e5
       have e12 : a.eval (.tmp 50) = .slice ma kk mc := ev_of ((hfr 50 (by decide)).trans rfl)
       exact wp_if (appS0 (ops := #[]) (F := True) rfl _ _ 51 56 iM (.agg #[.int .i64 0, .int .i64 0]) 2 16 rfl Try.underlying51 hiM hzM hsM hbM rfl (by decide) a0 ((m.take 30).map fun p : Int × Int => [dI p.1, dI p.2]) kk mc e5 ma e12 (HH.out.later BXY) (fl_links _) (flat_links _) (by unfold maxLen; omega) (by omega) (fun ao cv w' hH hb => hK.out _ _ (SX w' hb) (phiL16.2 ⟨ao, kk, cv, rfl, hH.loose.wide (fun q _ (h : wy.heap.size ≤ q) => Nat.le_trans hwz h)⟩) (fun _ _ => trivial) hb)) rfl
      ·obtain rfl := Option.some.inj (show some _ = some o from ho)
       obtain ⟨h0, d0⟩ := hdep 16 (by simp) (ahead_mem (by kernel_rfl))
       obtain ⟨b1, b2, b3, e16, hb16⟩ := phiL16.1 (hφ 16 h0)
       have t51 := d0 51 rfl
       rw [e16] at t51 hb16
       clear hψ hφ hdep hfr d0
       go_simp
       have hbn := below_new wy (.cells #[.slice b1 b2 b3] 51)
       exact hK.out _ _ (SX _ hbn) (phiL17.2 ⟨_, b1, b2, b3, rfl, World.cell?_alloc_at _ _ _ _ rfl, hb16.later hbn⟩) (fun _ _ => trivial) hbn
     case fin2 =>
      intro vs wy hSx hby hφ hψ
      obtain ⟨bb, b1, b2, b3, e17, hcb, hb17⟩ := phiL17.1 (hφ 17 (by simp))
      have e1 : vs 1 = .slice va k vc := by have := hφ 1 (by simp); unfold phiL at this; rw [if_pos rfl] at this; exact this
      obtain ⟨v2, hv2⟩ : ∃ v, v = vs 2 := ⟨_, rfl⟩
      obtain ⟨v16, hv16⟩ : ∃ v, v = vs 16 := ⟨_, rfl⟩
      change wpAnyH _ _ _ _ _ _ _ (((((_ : Act).put (some 36) (vs 1)).put (some 37) (vs 2)).put (some 51) (vs 16)).put (some 52) (vs 17)) _
      rw [e17, e1, ← hv2, ← hv16]
      try simp only [Act.put, List.getElem_toArray, List.getElem_cons_zero, List.getElem_cons_succ, List.setIfInBounds_toArray, List.set_cons_zero, List.set_cons_succ]
      have BXY := Lib.hid (below_step' BD.out hby)
      have HB17 := Lib.hid hb17
      have HCB := Lib.hid hcb
      clear hv2 hv16 hφ hψ hby e17 e1 hb17 hcb
      have hqb : yb.heap.size ≤ w9.heap.size ∧ y0.heap.size ≤ yb.heap.size ∧ w9.heap.size ≤ wy.heap.size := ⟨B9.out.size, BYb.out.size, Nat.le_trans CA.out.s.1 BXY.out.size⟩
      have HQB := Lib.hid hqb
      have hlen : (((c.links.take k).map (·.take 30)).map fun m => [dLinks m]).length = k := by rw [List.length_map, List.length_map, List.length_take, ← N2.out]; omega
      clear hqb
      have hbp : bc ≠ p ∧ lb ≠ p ∧ bc < w9.heap.size ∧ lb < w9.heap.size := by have h1 := HLB.out; have h2 := HP1.out; have h3 := HQB.out; omega
      have HBP2 := Lib.hid hbp
      clear hbp
      refine rd 18 fun K hK => ?_
      refine appS rfl _ _ 29 51 iL (.slice none 0 0) 1 24 rfl Try.underlying29 hiL hzL hsL hbL rfl (by decide) False (fun q => w9.heap.size ≤ q) yb wr.heap.size _ (((c.links.take k).map (·.take 30)).map fun m => [dLinks m]) [[dLinks (m.take 30)]] k 1 1 (k + 1) rfl (CA.out.f.bld.own.later BXY.out) hlen (some ⟨bb, 0, none⟩) rfl [.slice b1 b2 b3] (fun a ha j u hu => by
       cases ha
       match j, hu with
       | 0, hu => cases hu; exact HCB.out) (fun e => by cases e) (by simp) rfl (by
       rw [List.flatten_cons, List.flatten_nil, List.append_nil]
       exact hl_cons (HB17.out.wide (fun q _ (h : yd.heap.size ≤ q) => by have h1 := BD.out.size; have h2 := CA.out.s.1; exact ⟨by omega, fun e => by have := CA.out.f.bld.own.blk q e; omega, fun f => f.elim⟩)) hl_nil) rfl (by unfold maxLen; omega) (by omega) ?_
      intro ao cv w6 hO6 hg6 hb6
      obtain ⟨hCN, hc6, hf6, hk6⟩ := CA.out.push HP9.out BXY.out hO6 hg6 hb6
      have v1 := hk6 _ _ hSx.1 HBP2.out.2.2.1
      have v2' := hk6 _ _ hSx.2 HBP2.out.2.2.2
      have CN := Lib.hid hCN
      have V1 := Lib.hid (v1.2 HBP2.out.1)
      have V2 := Lib.hid (v2'.2 HBP2.out.2.1)
      have HC6 := Lib.hid hc6
      have HF6 := Lib.hid hf6
      refine hK.out _ _ ⟨v1.1, v2'.1⟩ (fun hHeld => ?_)
      clear hK K hO6 hg6 hb6 hCN hc6 hf6 hk6 v1 v2'
      try simp only [Act.put, List.getElem_toArray, List.getElem_cons_zero, List.getElem_cons_succ, List.setIfInBounds_toArray, List.set_cons_zero, List.set_cons_succ]
      refine tq 19 ?_
      refine rd 20 fun K hK => ?_
      have z6 := HC6.out
      have zf6 := HF6.out
      go_simp
      clear z6 zf6
      refine hK.out _ _ ⟨V1.out, V2.out⟩ (fun hHeld => ?_)
      clear hK K
      try simp only [Act.put, List.getElem_toArray, List.getElem_cons_zero, List.getElem_cons_succ, List.setIfInBounds_toArray, List.set_cons_zero, List.set_cons_succ]
      refine wpAnyH_done (by kernel_rfl) ?_ _
      go_wp2_with fail
      go_roundw
      case rel =>
       refine ⟨k + 1, .slice ao (k + 1) cv, by go_num, by omega, by omega, ?_⟩
       rw [List.take_add_one, HM.out]
       simp only [Option.toList, List.map_append, List.map_cons, List.map_nil]
       exact CN.out
      case measure => simp [intOf]; omega
    ·have hl4' : ¬ (k : Int) < 40 := by omega
     have eQ : (c.links.take k).map (·.take 30) = (cutC c).links := by rw [show k = 40 by omega]; rfl
     have EQ := Lib.hid eQ
     clear eQ
     obtain ⟨va, vc, hv⟩ := CA.out.f.bld.own.slice
     rw [List.length_map, List.length_map, List.length_take, ← N2.out, Nat.min_eq_left hk] at hv
     subst hv
     have hG1 := (G1.out.wide (P' := fun q => (w9.heap.size > q ∧ q ≠ p) ∧ w.heap.size < q ∧ q ≠ br) (fun q hq hh => ⟨⟨hq, hh.2⟩, by have h1 := hh.1; have h2 := HQW.out; omega⟩)).same (CA.out.s.sub (fun q h => h.1))
     have hG3 := (G3.out.wide (P' := fun q => (w9.heap.size > q ∧ q ≠ p) ∧ w.heap.size < q ∧ q ≠ br) (fun q hq hh => ⟨⟨hq, hh.2⟩, by have h1 := hh.1; have h2 := HQW.out; omega⟩)).same (CA.out.s.sub (fun q h => h.1))
     have hB2 := CA.out.f.bld.holds
     rw [EQ.out] at hB2
     have r0 := CA.out.c0
     have r1 := CA.out.f.cell
     have r2 := CA.out.c2
     have hk1 := K1.out.below hby
     have hO1 := O1.out.same (SameOn.of_below (P := fun _ => True) hby) trivial RR.out.1
     have b0 := hk1 0 _ rfl
     have b1 := hk1 1 _ rfl
     have b2 := hk1 2 _ rfl
     have f0 := hO1.frozen 0
     have f1 := hO1.frozen 1
     have f2 := hO1.frozen 2
     have HK1 := Lib.hid hk1
     have HG1 := Lib.hid hG1
     have HG3 := Lib.hid hG3
     have HB2 := Lib.hid hB2
     clear hk1 hO1 hG1 hG3 hB2
     go_wp2_with fail
     obtain ⟨wZ, hwZ⟩ : ∃ x, x = ((wr.setCell ⟨br, 0, none⟩ (.slice s1 m1 o1)).setCell ⟨br, 1, none⟩ (.slice va k vc)).setCell ⟨br, 2, none⟩ (.slice s3 m3 o3) := ⟨_, rfl⟩
     have hBZ : BoxAt br [.slice s1 m1 o1, .slice va k vc, .slice s3 m3 o3] wZ := by rw [hwZ]; exact boxAt_set (j := 2) (u := .slice s3 m3 o3) (boxAt_set (j := 1) (u := .slice va k vc) (boxAt_set (j := 0) (u := .slice s1 m1 o1) HK1.out))
     have hsZ : SameOn (fun q => q ≠ br) wr wZ := by rw [hwZ]; exact (((SameOn.refl _ wr).set ⟨br, 0, none⟩ _ (fun h => h rfl)).set ⟨br, 1, none⟩ _ (fun h => h rfl)).set ⟨br, 2, none⟩ _ (fun h => h rfl)
     have hbZ : Below w.heap.size w wZ := by
      rw [hwZ]
      exact (((below_step' B0.out BY.out).setCell HQW.out.2.1 _).setCell HQW.out.2.1 _).setCell HQW.out.2.1 _
     have z1 := (HG1.out.same (hsZ.sub (fun _ h => h.2.2))).wide (P' := fun q => w.heap.size ≤ q) (fun q _ h => Nat.le_of_lt h.2.1)
     have z3 := (HG3.out.same (hsZ.sub (fun _ h => h.2.2))).wide (P' := fun q => w.heap.size ≤ q) (fun q _ h => Nat.le_of_lt h.2.1)
     have z2 := ((HB2.out.wide (P' := fun q => w.heap.size < q ∧ q ≠ br) (fun q _ (h : w9.heap.size ≤ q) => by have h1 := HQW.out; have h2 := B9.out.size; omega)).same (hsZ.sub (fun _ h => h.2))).wide (P' := fun q => w.heap.size ≤ q) (fun q _ h => Nat.le_of_lt h.1)
     have q0 := hBZ 0 _ rfl
     have q1 := hBZ 1 _ rfl
     have q2 := hBZ 2 _ rfl
     rw [← hwZ]
     refine bodyPost_ret (v := .agg #[.slice s1 m1 o1, .slice va k vc, .slice s3 m3 o3]) (by simp [results, Try.results7, go_sem, q0, q1, q2]) rfl ?_
     exact ⟨_, _, _, _, _, _, _, _, _, rfl, hl_cons z1 (hl_cons z2 (hl_cons z3 hl_nil)), hbZ⟩
   ·have hlt' : ¬ (k : Int) < n2 := by omega
    have eQ : (c.links.take k).map (·.take 30) = (cutC c).links := by show _ = (c.links.take 40).map (·.take 30); rw [List.take_of_length_le (by rw [← N2.out]; omega), List.take_of_length_le (by rw [← N2.out]; omega)]
    have EQ := Lib.hid eQ
    clear eQ
    obtain ⟨va, vc, hv⟩ := CA.out.f.bld.own.slice
    rw [List.length_map, List.length_map, List.length_take, ← N2.out, Nat.min_eq_left hk] at hv
    subst hv
    have hG1 := (G1.out.wide (P' := fun q => (w9.heap.size > q ∧ q ≠ p) ∧ w.heap.size < q ∧ q ≠ br) (fun q hq hh => ⟨⟨hq, hh.2⟩, by have h1 := hh.1; have h2 := HQW.out; omega⟩)).same (CA.out.s.sub (fun q h => h.1))
    have hG3 := (G3.out.wide (P' := fun q => (w9.heap.size > q ∧ q ≠ p) ∧ w.heap.size < q ∧ q ≠ br) (fun q hq hh => ⟨⟨hq, hh.2⟩, by have h1 := hh.1; have h2 := HQW.out; omega⟩)).same (CA.out.s.sub (fun q h => h.1))
    have hB2 := CA.out.f.bld.holds
    rw [EQ.out] at hB2
    have r0 := CA.out.c0
    have r1 := CA.out.f.cell
    have r2 := CA.out.c2
    have hk1 := K1.out.below hby
    have hO1 := O1.out.same (SameOn.of_below (P := fun _ => True) hby) trivial RR.out.1
    have b0 := hk1 0 _ rfl
    have b1 := hk1 1 _ rfl
    have b2 := hk1 2 _ rfl
    have f0 := hO1.frozen 0
    have f1 := hO1.frozen 1
    have f2 := hO1.frozen 2
    have HK1 := Lib.hid hk1
    have HG1 := Lib.hid hG1
    have HG3 := Lib.hid hG3
    have HB2 := Lib.hid hB2
    clear hk1 hO1 hG1 hG3 hB2
    go_wp2_with fail
    obtain ⟨wZ, hwZ⟩ : ∃ x, x = ((wr.setCell ⟨br, 0, none⟩ (.slice s1 m1 o1)).setCell ⟨br, 1, none⟩ (.slice va k vc)).setCell ⟨br, 2, none⟩ (.slice s3 m3 o3) := ⟨_, rfl⟩
    have hBZ : BoxAt br [.slice s1 m1 o1, .slice va k vc, .slice s3 m3 o3] wZ := by rw [hwZ]; exact boxAt_set (j := 2) (u := .slice s3 m3 o3) (boxAt_set (j := 1) (u := .slice va k vc) (boxAt_set (j := 0) (u := .slice s1 m1 o1) HK1.out))
    have hsZ : SameOn (fun q => q ≠ br) wr wZ := by rw [hwZ]; exact (((SameOn.refl _ wr).set ⟨br, 0, none⟩ _ (fun h => h rfl)).set ⟨br, 1, none⟩ _ (fun h => h rfl)).set ⟨br, 2, none⟩ _ (fun h => h rfl)
    have hbZ : Below w.heap.size w wZ := by
     rw [hwZ]
     exact (((below_step' B0.out BY.out).setCell HQW.out.2.1 _).setCell HQW.out.2.1 _).setCell HQW.out.2.1 _
    have z1 := (HG1.out.same (hsZ.sub (fun _ h => h.2.2))).wide (P' := fun q => w.heap.size ≤ q) (fun q _ h => Nat.le_of_lt h.2.1)
    have z3 := (HG3.out.same (hsZ.sub (fun _ h => h.2.2))).wide (P' := fun q => w.heap.size ≤ q) (fun q _ h => Nat.le_of_lt h.2.1)
    have z2 := ((HB2.out.wide (P' := fun q => w.heap.size < q ∧ q ≠ br) (fun q _ (h : w9.heap.size ≤ q) => by have h1 := HQW.out; have h2 := B9.out.size; omega)).same (hsZ.sub (fun _ h => h.2))).wide (P' := fun q => w.heap.size ≤ q) (fun q _ h => Nat.le_of_lt h.1)
    have q0 := hBZ 0 _ rfl
    have q1 := hBZ 1 _ rfl
    have q2 := hBZ 2 _ rfl
    rw [← hwZ]
    refine bodyPost_ret (v := .agg #[.slice s1 m1 o1, .slice va k vc, .slice s3 m3 o3]) (by simp [results, Try.results7, go_sem, q0, q1, q2]) rfl ?_
    exact ⟨_, _, _, _, _, _, _, _, _, rfl, hl_cons z1 (hl_cons z2 (hl_cons z3 hl_nil)), hbZ⟩
end Go.Proofs.Ytennbiajnkobnaa

