/- Texts put together. -/
import Derived.Test.YtennbiajnkobnaaQ02
import Derived.Test.YtennbiajnkobnaaQ14
import Derived.Test.YtennbiajnkobnaaQ16
import Derived.Test.YtennbiajnkobnaaQ27
set_option linter.unusedSimpArgs false
set_option linter.unusedVariables false
namespace Go.Proofs.Ytennbiajnkobnaa
open Go.RowKit Go.PlainAid
/-- A row that is written out. -/
theorem holds_new {P : Nat → Prop} {w : World} {vs : List Value} (T : TypeId) {n k : Nat} {xs : List (List D)} (hP : P w.heap.size) (hn : ∀ ds ∈ xs, ds.length = n) (hk : k = xs.length) (h0 : 0 < k) (h : HoldsL False P w vs xs.flatten) :
  Holds False P (w.alloc (.cells vs.toArray T)) (.slice (some ⟨w.heap.size, 0, none⟩) k k) (.row n xs) := by
 subst hk
 have hl : vs.length = xs.length * n := by rw [h.1, flatten_len hn]
 refine .row _ _ w.heap.size 0 xs.length n xs (fun i j => vs.getD (i * n + j) (.bool true)) (fun _ _ => P) h0 (by simp) (Nat.le_refl _) hP (fun i ds hi => hn ds (List.mem_of_getElem? hi)) (fun i j hi hj => ?_) (fun i j ds d h1 h2 => ?_) (fun _ _ _ h => h) (fun s => s.elim) (fun s => s.elim)
 ·have hij : i * n + j < vs.length := by rw [hl]; have h3 : (i + 1) * n ≤ xs.length * n := Nat.mul_le_mul_right n hi; rw [Nat.succ_mul] at h3; omega
  rw [Nat.zero_add, World.cell?_alloc_at _ _ _ _ rfl, List.getElem?_toArray]
  simp [List.getD, hij]
 ·have hj : j < n := by have := lt_of_some h2; rw [hn ds (List.mem_of_getElem? h1)] at this; exact this
  have hi := lt_of_some h1
  have hij : i * n + j < vs.length := by rw [hl]; have h3 : (i + 1) * n ≤ xs.length * n := Nat.mul_le_mul_right n hi; rw [Nat.succ_mul] at h3; omega
  have e := flatten_get hn h1 hj
  obtain ⟨_, fp, hfp, _, g⟩ := h
  have := ((g (i * n + j) vs[i * n + j] d (List.getElem?_eq_getElem hij) (by rw [e, h2])).later (below_new w (.cells vs.toArray T))).wide (P' := P) (fun b _ hb => hfp _ _ hb)
  simpa [List.getD, hij] using this
theorem has_new {w : World} {vs : List Value} (T : TypeId) {n k : Nat} {xs : List (List D)} (hn : ∀ ds ∈ xs, ds.length = n) (hk : k = xs.length) (h0 : 0 < k) (h : HasL w vs xs.flatten) :
  Has (w.alloc (.cells vs.toArray T)) (.slice (some ⟨w.heap.size, 0, none⟩) k k) (.row n xs) := holds_new T trivial hn hk h0 h
theorem hl_nil {P : Nat → Prop} {w : World} : HoldsL False P w [] [] := hasL_nil _ _ _
theorem hl_cons {P : Nat → Prop} {w : World} {c : Value} {d : D} {cs : List Value} {ds : List D} (h : Holds False P w c d) (h' : HoldsL False P w cs ds) : HoldsL False P w (c :: cs) (d :: ds) := by
 obtain ⟨hl, fp, hfp, _, g⟩ := h'
 refine ⟨by simp [hl], fun _ => P, fun _ _ h => h, fun s => s.elim, fun j c' d' hc hd => ?_⟩
 cases j with
 | zero => simp at hc hd; subst hc hd; exact h
 | succ j => exact (g j c' d' (by simpa using hc) (by simpa using hd)).wide (fun b _ hb => hfp _ _ hb)
theorem hl_int {P : Nat → Prop} {w : World} {x : Int} {cs : List Value} {ds : List D} (h : HoldsL False P w cs ds) : HoldsL False P w (.int .i64 x :: cs) (dI x :: ds) := hl_cons (has_int _ _ _ _) h
theorem holds_drop {w : World} {a : Option Addr} {n c m k : Nat} {xs : List (List D)} (h : Has w (.slice a n c) (.row m xs)) (hk : k ≤ n) : Has w (.slice (if c = k then a else a.map (fun x => x.add (k * m))) (n - k) (c - k)) (.row m (xs.drop k)) := by
 obtain ⟨P0, hP0⟩ : ∃ P : Nat → Prop, P = All := ⟨_, rfl⟩
 unfold Has at h ⊢
 generalize hv : Value.slice a n c = v at h
 generalize hd : D.row m xs = d at h
 cases h with
 | atom _ _ v h1 => cases hd
 | nil _ _ a' cap n' hop =>
  cases hd
  simp only [Value.slice.injEq] at hv
  obtain ⟨rfl, rfl, rfl⟩ := hv
  obtain rfl : k = 0 := by omega
  exact .nil _ _ _ _ _
 | row _ _ b off cap n' xs' cs fp h0 hb hc hP hn hcell hrec hfp hb2 hd' hop =>
  cases hd
  simp only [Value.slice.injEq] at hv
  obtain ⟨rfl, rfl, rfl⟩ := hv
  by_cases hkn : k = xs.length
  ·subst hkn
   rw [List.drop_length, Nat.sub_self]
   exact .nil _ _ _ _ _
  ·have hkc : ¬ c = k := by omega
   rw [if_neg hkc]
   have e : xs.length - k = (xs.drop k).length := by simp
   rw [e]
   have ea : (some (⟨b, off, none⟩ : Addr)).map (fun x => x.add (k * m)) = some ⟨b, off + k * m, none⟩ := by rw [Option.map_some, Go.WideShapes.add_plain]
   rw [ea]
   refine .row _ _ b (off + k * m) (c - k) m (xs.drop k) (fun i j => cs (i + k) j) (fun _ _ => All) (by simp; omega) hb (by simp; omega) trivial (fun i ds h => hn (i + k) ds (by rw [List.getElem?_drop] at h; rw [Nat.add_comm]; exact h)) (fun i j hi hj => ?_) (fun i j ds d h1 h2 => (hrec (i + k) j ds d (by rw [List.getElem?_drop] at h1; rw [Nat.add_comm]; exact h1) h2).weak) (fun _ _ _ _ => trivial) (fun s => s.elim) (fun s => s.elim)
   have := hcell (i + k) j (by simp at hi; omega) hj
   rw [← this]
   congr 2
   rw [Nat.add_mul]; omega
theorem Holds.loose {S : Prop} {P : Nat → Prop} {w : World} {v : Value} {d : D} (h : Holds S P w v d) : Holds False P w v d := by
 induction h with
 | atom P w v h1 => exact .atom _ _ _ h1
 | nil P w a cap n hop => exact .nil _ _ _ _ _
 | row P w b off cap n xs cs fp h0 hb hc hP hn hcell hrec hfp hb2 hd hop ih =>
  exact .row _ _ b off cap n xs cs fp h0 hb hc hP hn hcell (fun i j ds d h1 h2 => ih i j ds d h1 h2) hfp (fun s => s.elim) (fun s => s.elim)
theorem HoldsL.loose {S : Prop} {P : Nat → Prop} {w : World} {cs : List Value} {ds : List D} (h : HoldsL S P w cs ds) : HoldsL False P w cs ds := by
 obtain ⟨hl, fp, h1, _, g⟩ := h
 exact ⟨hl, fp, h1, fun s => s.elim, fun j c d hc hd => (g j c d hc hd).loose⟩
/-- Links are as they were where a cell of another block is written. -/
theorem links_far {w : World} {v : Value} {L : Lks} {k : Nat} (h : LinksAt w v L) (hk : ∀ b o n c, v = .slice (some ⟨b, o, none⟩) n c → 0 < n → b ≠ k) (j : Nat) (u : Value) : LinksAt (w.setCell ⟨k, j, none⟩ u) v L := by
 rcases h with h | ⟨b, off, len, cap, e, hl, hp, hb, hlc, hc⟩
 ·exact .inl h
 ·have hne := hk b off len cap e hp
  refine .inr ⟨b, off, len, cap, e, hl, hp, by simpa using hb, hlc, fun i hi => ⟨?_, ?_⟩⟩
  ·rw [World.cell?_setCell_other _ _ _ _ (fun e => by simp at e; done)]; exact (hc i hi).1
  ·rw [World.cell?_setCell_other _ _ _ _ (fun e => by simp at e; done)]; exact (hc i hi).2
end Go.Proofs.Ytennbiajnkobnaa

set_option linter.unusedSimpArgs false
set_option linter.unusedVariables false
namespace Go.Proofs.Ytennbiajnkobnaa
open Go.RowKit Go.PlainAid
def T5 : Tab := [⟨0, [⟨1, [], [⟨1, [(1, 1), (1, 2)]⟩], []⟩, ⟨0, [], [], []⟩]⟩, ⟨0, [⟨2, [0], [], [⟨0, 1, 1⟩]⟩, ⟨0, [], [], []⟩]⟩]
def Two5 (w : World) (e : Ending) (w' : World) : Prop := ∃ ga gc ta tc, e = .returned (.agg #[.int .i64 2, .slice ga 2 gc, .slice ta 2 tc, .bool false]) ∧ LinksAt w' (.slice ga 2 gc) F2 ∧ Has w' (.slice ta 2 tc) (dTab T5) ∧ Below w.heap.size w w'
set_option maxHeartbeats 8000000 in
set_option maxRecDepth 100000 in
theorem two5_at (w : World) : Calls Try.prog 26 #[] w fun e w' => Two5 w e w' := by
 go_enter Try.func26, Try.ntmps26
 try simp only [List.append_eq, List.cons_append, List.nil_append]
 go_wp2_with fail
 refine (full_at 2 2 _ (by omega)).mono ?_
 rintro e w2 ⟨ga, gc, rfl, hL, hb⟩
 rw [full2] at hL ⊢
 simp only [gv, show F2.length = 2 from rfl]
 have L2 := Lib.hid hL
 have ho : OpenRow (w.alloc (.cells #[.int .i64 0, .slice none 0 0, .slice none 0 0, .bool false] 27)) w.heap.size 1 4 := ⟨by decide, _, _, heap_alloc_new w _, rfl⟩
 have hx : BoxAt w.heap.size [.int .i64 0, .slice none 0 0, .slice none 0 0, .bool false] w2 := (boxAt_new w [.int .i64 0, .slice none 0 0, .slice none 0 0, .bool false] _).below hb
 have hO := ho.same (SameOn.of_below (P := fun _ => True) hb) trivial (by simp)
 have B2 := Lib.hid (below_step' (below_new w _) hb)
 have Q2 := Lib.hid hb
 have O2 := Lib.hid hO
 have hlt : w.heap.size < w2.heap.size := World.block_lt_of_cell? w2 _ (hx 0 _ rfl)
 have b1 : Below w2.heap.size w2 (w2.alloc (.cells #[.int .i64 1, .int .i64 1, .int .i64 1, .int .i64 2] 120)) := below_new _ _
 have b2 : Below w2.heap.size w2 ((w2.alloc (.cells #[.int .i64 1, .int .i64 1, .int .i64 1, .int .i64 2] 120)).alloc (.cells #[.int .i64 1, .slice (some ⟨w2.heap.size, 0, none⟩) 2 2] 123)) := below_step' b1 (below_new _ _)
 have b3 : Below w2.heap.size w2 (((w2.alloc (.cells #[.int .i64 1, .int .i64 1, .int .i64 1, .int .i64 2] 120)).alloc (.cells #[.int .i64 1, .slice (some ⟨w2.heap.size, 0, none⟩) 2 2] 123)).alloc (.cells #[.int .i64 1, .slice none 0 0, .slice (some ⟨w2.heap.size + 1, 0, none⟩) 1 1, .slice none 0 0, .int .i64 0, .slice none 0 0, .slice none 0 0, .slice none 0 0] 106)) := below_step' b2 (below_new _ _)
 have b4 : Below w2.heap.size w2 ((((w2.alloc (.cells #[.int .i64 1, .int .i64 1, .int .i64 1, .int .i64 2] 120)).alloc (.cells #[.int .i64 1, .slice (some ⟨w2.heap.size, 0, none⟩) 2 2] 123)).alloc (.cells #[.int .i64 1, .slice none 0 0, .slice (some ⟨w2.heap.size + 1, 0, none⟩) 1 1, .slice none 0 0, .int .i64 0, .slice none 0 0, .slice none 0 0, .slice none 0 0] 106)).alloc (.cells #[.int .i64 0] 3)) := below_step' b3 (below_new _ _)
 have b5 : Below w2.heap.size w2 (((((w2.alloc (.cells #[.int .i64 1, .int .i64 1, .int .i64 1, .int .i64 2] 120)).alloc (.cells #[.int .i64 1, .slice (some ⟨w2.heap.size, 0, none⟩) 2 2] 123)).alloc (.cells #[.int .i64 1, .slice none 0 0, .slice (some ⟨w2.heap.size + 1, 0, none⟩) 1 1, .slice none 0 0, .int .i64 0, .slice none 0 0, .slice none 0 0, .slice none 0 0] 106)).alloc (.cells #[.int .i64 0] 3)).alloc (.cells #[.int .i64 0, .int .i64 1, .int .i64 1] 125)) := below_step' b4 (below_new _ _)
 have b6 : Below w2.heap.size w2 ((((((w2.alloc (.cells #[.int .i64 1, .int .i64 1, .int .i64 1, .int .i64 2] 120)).alloc (.cells #[.int .i64 1, .slice (some ⟨w2.heap.size, 0, none⟩) 2 2] 123)).alloc (.cells #[.int .i64 1, .slice none 0 0, .slice (some ⟨w2.heap.size + 1, 0, none⟩) 1 1, .slice none 0 0, .int .i64 0, .slice none 0 0, .slice none 0 0, .slice none 0 0] 106)).alloc (.cells #[.int .i64 0] 3)).alloc (.cells #[.int .i64 0, .int .i64 1, .int .i64 1] 125)).alloc (.cells #[.int .i64 2, .slice (some ⟨w2.heap.size + 1 + 1 + 1, 0, none⟩) 1 1, .slice none 0 0, .slice (some ⟨w2.heap.size + 1 + 1 + 1 + 1, 0, none⟩) 1 1, .int .i64 0, .slice none 0 0, .slice none 0 0, .slice none 0 0] 106)) := below_step' b5 (below_new _ _)
 have b7 : Below w2.heap.size w2 (((((((w2.alloc (.cells #[.int .i64 1, .int .i64 1, .int .i64 1, .int .i64 2] 120)).alloc (.cells #[.int .i64 1, .slice (some ⟨w2.heap.size, 0, none⟩) 2 2] 123)).alloc (.cells #[.int .i64 1, .slice none 0 0, .slice (some ⟨w2.heap.size + 1, 0, none⟩) 1 1, .slice none 0 0, .int .i64 0, .slice none 0 0, .slice none 0 0, .slice none 0 0] 106)).alloc (.cells #[.int .i64 0] 3)).alloc (.cells #[.int .i64 0, .int .i64 1, .int .i64 1] 125)).alloc (.cells #[.int .i64 2, .slice (some ⟨w2.heap.size + 1 + 1 + 1, 0, none⟩) 1 1, .slice none 0 0, .slice (some ⟨w2.heap.size + 1 + 1 + 1 + 1, 0, none⟩) 1 1, .int .i64 0, .slice none 0 0, .slice none 0 0, .slice none 0 0] 106)).alloc (.cells #[.int .i64 0, .slice (some ⟨w2.heap.size + 1 + 1, 0, none⟩) 2 2, .int .i64 0, .slice (some ⟨w2.heap.size + 1 + 1 + 1 + 1 + 1, 0, none⟩) 2 2] 74)) := below_step' b6 (below_new _ _)
 have hO7 := hO.same (SameOn.of_below (P := fun _ => True) b7) trivial hlt
 have hx7 := hx.below b7
 have k0 := hx7 0 _ rfl
 have f0 := hO7.frozen 0
 have k1 := hx7 1 _ rfl
 have f1 := hO7.frozen 1
 have k2 := hx7 2 _ rfl
 have f2 := hO7.frozen 2
 have k3 := hx7 3 _ rfl
 have f3 := hO7.frozen 3
 clear hL hb ho hO hO7 hx hx7
 go_wp2_with fail
 obtain ⟨x1, hx1⟩ : ∃ x, x = w2.alloc (.cells #[.int .i64 1, .int .i64 1, .int .i64 1, .int .i64 2] 120) := ⟨_, rfl⟩
 have g1 : Below w2.heap.size w2 x1 := by rw [hx1]; exact below_new _ _
 have s1 : x1.heap.size = w2.heap.size + 1 := by rw [hx1]; simp
 obtain ⟨x2, hx2⟩ : ∃ x, x = x1.alloc (.cells #[.int .i64 1, .slice (some ⟨w2.heap.size, 0, none⟩) 2 2] 123) := ⟨_, rfl⟩
 have g2 : Below x1.heap.size x1 x2 := by rw [hx2]; exact below_new _ _
 have s2 : x2.heap.size = w2.heap.size + 1 + 1 := by rw [hx2]; simp [s1]
 obtain ⟨x3, hx3⟩ : ∃ x, x = x2.alloc (.cells #[.int .i64 1, .slice none 0 0, .slice (some ⟨w2.heap.size + 1, 0, none⟩) 1 1, .slice none 0 0, .int .i64 0, .slice none 0 0, .slice none 0 0, .slice none 0 0] 106) := ⟨_, rfl⟩
 have g3 : Below x2.heap.size x2 x3 := by rw [hx3]; exact below_new _ _
 have s3 : x3.heap.size = w2.heap.size + 1 + 1 + 1 := by rw [hx3]; simp [s2]
 obtain ⟨x4, hx4⟩ : ∃ x, x = x3.alloc (.cells #[.int .i64 0] 3) := ⟨_, rfl⟩
 have g4 : Below x3.heap.size x3 x4 := by rw [hx4]; exact below_new _ _
 have s4 : x4.heap.size = w2.heap.size + 1 + 1 + 1 + 1 := by rw [hx4]; simp [s3]
 obtain ⟨x5, hx5⟩ : ∃ x, x = x4.alloc (.cells #[.int .i64 0, .int .i64 1, .int .i64 1] 125) := ⟨_, rfl⟩
 have g5 : Below x4.heap.size x4 x5 := by rw [hx5]; exact below_new _ _
 have s5 : x5.heap.size = w2.heap.size + 1 + 1 + 1 + 1 + 1 := by rw [hx5]; simp [s4]
 obtain ⟨x6, hx6⟩ : ∃ x, x = x5.alloc (.cells #[.int .i64 2, .slice (some ⟨w2.heap.size + 1 + 1 + 1, 0, none⟩) 1 1, .slice none 0 0, .slice (some ⟨w2.heap.size + 1 + 1 + 1 + 1, 0, none⟩) 1 1, .int .i64 0, .slice none 0 0, .slice none 0 0, .slice none 0 0] 106) := ⟨_, rfl⟩
 have g6 : Below x5.heap.size x5 x6 := by rw [hx6]; exact below_new _ _
 have s6 : x6.heap.size = w2.heap.size + 1 + 1 + 1 + 1 + 1 + 1 := by rw [hx6]; simp [s5]
 obtain ⟨x7, hx7⟩ : ∃ x, x = x6.alloc (.cells #[.int .i64 0, .slice (some ⟨w2.heap.size + 1 + 1, 0, none⟩) 2 2, .int .i64 0, .slice (some ⟨w2.heap.size + 1 + 1 + 1 + 1 + 1, 0, none⟩) 2 2] 74) := ⟨_, rfl⟩
 have g7 : Below x6.heap.size x6 x7 := by rw [hx7]; exact below_new _ _
 have s7 : x7.heap.size = w2.heap.size + 1 + 1 + 1 + 1 + 1 + 1 + 1 := by rw [hx7]; simp [s6]
 rw [← hx1, ← hx2, ← hx3, ← hx4, ← hx5, ← hx6, ← hx7]
 have h1 : Holds False (fun q => w2.heap.size ≤ q) x1 (.slice (some ⟨w2.heap.size, 0, none⟩) 2 2) (dLinks [(1, 1), (1, 2)]) := by
  have h := holds_new (P := fun q => w2.heap.size ≤ q) 120 (n := 2) (k := 2) (xs := [((1 : Int), (1 : Int)), (1, 2)].map fun p => [dI p.1, dI p.2]) (by omega) (by intro ds h; obtain ⟨_, _, rfl⟩ := List.mem_map.1 h; rfl) rfl (by decide) (w := w2) (vs := [.int .i64 1, .int .i64 1, .int .i64 1, .int .i64 2]) (by exact (hl_int (hl_int (hl_int (hl_int hl_nil)))))
  rw [hx1]; exact h
 have h2 : Holds False (fun q => w2.heap.size ≤ q) x2 (.slice (some ⟨w2.heap.size + 1, 0, none⟩) 1 1) (dPicks [⟨1, [(1, 1), (1, 2)]⟩]) := by
  have h := holds_new (P := fun q => w2.heap.size ≤ q) 123 (n := 2) (k := 1) (xs := [(⟨1, [(1, 1), (1, 2)]⟩ : Pk)].map Pk.d) (by omega) (by intro ds h; obtain ⟨_, _, rfl⟩ := List.mem_map.1 h; rfl) rfl (by decide) (w := x1) (vs := [.int .i64 1, .slice (some ⟨w2.heap.size, 0, none⟩) 2 2]) (by exact (hl_int (hl_cons h1 hl_nil)))
  rw [s1] at h
  rw [hx2]; exact h
 have nil1 : Holds False (fun q => w2.heap.size ≤ q) x2 (.slice none 0 0) (dInts []) := .nil _ _ _ _ _
 have nil2 : Holds False (fun q => w2.heap.size ≤ q) x2 (.slice none 0 0) (dPicks []) := .nil _ _ _ _ _
 have nil3 : Holds False (fun q => w2.heap.size ≤ q) x2 (.slice none 0 0) (dTakes []) := .nil _ _ _ _ _
 have h3 : Holds False (fun q => w2.heap.size ≤ q) x3 (.slice (some ⟨w2.heap.size + 1 + 1, 0, none⟩) 2 2) (dStates [⟨1, [], [⟨1, [(1, 1), (1, 2)]⟩], []⟩, ⟨0, [], [], []⟩]) := by
  have h := holds_new (P := fun q => w2.heap.size ≤ q) 106 (n := 4) (k := 2) (xs := [(⟨1, [], [⟨1, [(1, 1), (1, 2)]⟩], []⟩ : St), ⟨0, [], [], []⟩].map St.d) (by omega) (by intro ds h; obtain ⟨_, _, rfl⟩ := List.mem_map.1 h; rfl) rfl (by decide) (w := x2) (vs := [.int .i64 1, .slice none 0 0, .slice (some ⟨w2.heap.size + 1, 0, none⟩) 1 1, .slice none 0 0, .int .i64 0, .slice none 0 0, .slice none 0 0, .slice none 0 0]) (by exact (hl_int (hl_cons nil1 (hl_cons h2 (hl_cons nil3 (hl_int (hl_cons nil1 (hl_cons nil2 (hl_cons nil3 hl_nil)))))))))
  rw [s2] at h
  rw [hx3]; exact h
 have h4 : Holds False (fun q => w2.heap.size ≤ q) x4 (.slice (some ⟨w2.heap.size + 1 + 1 + 1, 0, none⟩) 1 1) (dInts [0]) := by
  have h := holds_new (P := fun q => w2.heap.size ≤ q) 3 (n := 1) (k := 1) (xs := [(0 : Int)].map fun a => [dI a]) (by omega) (by intro ds h; obtain ⟨_, _, rfl⟩ := List.mem_map.1 h; rfl) rfl (by decide) (w := x3) (vs := [.int .i64 0]) (by exact (hl_int hl_nil))
  rw [s3] at h
  rw [hx4]; exact h
 have h5 : Holds False (fun q => w2.heap.size ≤ q) x5 (.slice (some ⟨w2.heap.size + 1 + 1 + 1 + 1, 0, none⟩) 1 1) (dTakes [⟨0, 1, 1⟩]) := by
  have h := holds_new (P := fun q => w2.heap.size ≤ q) 125 (n := 3) (k := 1) (xs := [(⟨0, 1, 1⟩ : Tk)].map Tk.d) (by omega) (by intro ds h; obtain ⟨_, _, rfl⟩ := List.mem_map.1 h; rfl) rfl (by decide) (w := x4) (vs := [.int .i64 0, .int .i64 1, .int .i64 1]) (by exact (hl_int (hl_int (hl_int hl_nil))))
  rw [s4] at h
  rw [hx5]; exact h
 have nil1 : Holds False (fun q => w2.heap.size ≤ q) x5 (.slice none 0 0) (dInts []) := .nil _ _ _ _ _
 have nil2 : Holds False (fun q => w2.heap.size ≤ q) x5 (.slice none 0 0) (dPicks []) := .nil _ _ _ _ _
 have nil3 : Holds False (fun q => w2.heap.size ≤ q) x5 (.slice none 0 0) (dTakes []) := .nil _ _ _ _ _
 have h4' := h4.later g5
 have h6 : Holds False (fun q => w2.heap.size ≤ q) x6 (.slice (some ⟨w2.heap.size + 1 + 1 + 1 + 1 + 1, 0, none⟩) 2 2) (dStates [⟨2, [0], [], [⟨0, 1, 1⟩]⟩, ⟨0, [], [], []⟩]) := by
  have h := holds_new (P := fun q => w2.heap.size ≤ q) 106 (n := 4) (k := 2) (xs := [(⟨2, [0], [], [⟨0, 1, 1⟩]⟩ : St), ⟨0, [], [], []⟩].map St.d) (by omega) (by intro ds h; obtain ⟨_, _, rfl⟩ := List.mem_map.1 h; rfl) rfl (by decide) (w := x5) (vs := [.int .i64 2, .slice (some ⟨w2.heap.size + 1 + 1 + 1, 0, none⟩) 1 1, .slice none 0 0, .slice (some ⟨w2.heap.size + 1 + 1 + 1 + 1, 0, none⟩) 1 1, .int .i64 0, .slice none 0 0, .slice none 0 0, .slice none 0 0]) (by exact (hl_int (hl_cons h4' (hl_cons nil2 (hl_cons h5 (hl_int (hl_cons nil1 (hl_cons nil2 (hl_cons nil3 hl_nil)))))))))
  rw [s5] at h
  rw [hx6]; exact h
 have h3' := ((h3.later g4).later g5).later g6
 have h7 : Holds False (fun q => w2.heap.size ≤ q) x7 (.slice (some ⟨w2.heap.size + 1 + 1 + 1 + 1 + 1 + 1, 0, none⟩) 2 2) (dTab T5) := by
  have h := holds_new (P := fun q => w2.heap.size ≤ q) 74 (n := 2) (k := 2) (xs := T5.map Nd.d) (by omega) (by intro ds h; obtain ⟨_, _, rfl⟩ := List.mem_map.1 h; rfl) rfl (by decide) (w := x6) (vs := [.int .i64 0, .slice (some ⟨w2.heap.size + 1 + 1, 0, none⟩) 2 2, .int .i64 0, .slice (some ⟨w2.heap.size + 1 + 1 + 1 + 1 + 1, 0, none⟩) 2 2]) (by exact (hl_int (hl_cons h3' (hl_int (hl_cons h6 hl_nil)))))
  rw [s6] at h
  rw [hx7]; exact h
 have hxx : BoxAt w.heap.size [.int .i64 0, .slice none 0 0, .slice none 0 0, .bool false] w2 := fun i v h => by
  have := B2.out
  exact ((boxAt_new w [.int .i64 0, .slice none 0 0, .slice none 0 0, .bool false] 27).below (Q2.out) i v h)
 have b17 : Below w2.heap.size w2 x7 := below_step' (below_step' (below_step' (below_step' (below_step' (below_step' g1 g2) g3) g4) g5) g6) g7
 have hx7 := hxx.below b17
 have hL7 := L2.out.below b17
 have hfar : ∀ b o n c, Value.slice ga 2 gc = .slice (some ⟨b, o, none⟩) n c → 0 < n → b ≠ w.heap.size := fun b o n c e hn hbw => by
  simp only [Value.slice.injEq] at e
  obtain ⟨e1, e2, e3⟩ := e
  subst e2 e3 hbw
  rcases L2.out with ⟨_, _, e, h⟩ | ⟨b, off, len, cap, e, hl, hp, hb, hlc, hc⟩
  ·simp [F2] at h
  ·simp only [Value.slice.injEq] at e
   rw [e1] at e
   obtain ⟨e, e5, _⟩ := e
   cases e
   have c0 := (hc 0 hp).1
   have c1 := (hc 0 hp).2
   have HX := O2.out
   obtain ⟨_, cur, ee, hcur, hsz⟩ := HX
   have : o = 0 ∨ o = 1 ∨ o = 2 ∨ o = 3 ∨ 4 ≤ o := by omega
   rcases this with rfl | rfl | rfl | rfl | h4
   ·have := hxx 1 _ rfl; simp at c1 this; rw [this] at c1; cases c1
   ·have := hxx 1 _ rfl; simp at c0 this; rw [this] at c0; cases c0
   ·have := hxx 2 _ rfl; simp at c0 this; rw [this] at c0; cases c0
   ·have := hxx 3 _ rfl; simp at c0 this; rw [this] at c0; cases c0
   ·have hn : w2.cell? ⟨w.heap.size, o, none⟩ = none := by
     simp [World.cell?, hcur]
     omega
    simp at c0
    rw [hn] at c0
    cases c0
 obtain ⟨w9, hw9⟩ : ∃ x, x = (((x7.setCell ⟨w.heap.size, 0, none⟩ (.int .i64 2)).setCell ⟨w.heap.size, 1, none⟩ (.slice ga 2 gc)).setCell ⟨w.heap.size, 2, none⟩ (.slice (some ⟨w2.heap.size + 1 + 1 + 1 + 1 + 1 + 1, 0, none⟩) 2 2)).setCell ⟨w.heap.size, 3, none⟩ (.bool false) := ⟨_, rfl⟩
 have hr9 : BoxAt w.heap.size [.int .i64 2, .slice ga 2 gc, .slice (some ⟨w2.heap.size + 1 + 1 + 1 + 1 + 1 + 1, 0, none⟩) 2 2, .bool false] w9 := by rw [hw9]; exact boxAt_set (j := 3) (u := .bool false) (boxAt_set (j := 2) (u := .slice (some ⟨w2.heap.size + 1 + 1 + 1 + 1 + 1 + 1, 0, none⟩) 2 2) (boxAt_set (j := 1) (u := .slice ga 2 gc) (boxAt_set (j := 0) (u := .int .i64 2) hx7)))
 have hb9 : Below w.heap.size w w9 := by
  rw [hw9]
  exact ((((below_step' B2.out b17).setCell (by simp) _).setCell (by simp) _).setCell (by simp) _).setCell (by simp) _
 have hL9 : LinksAt w9 (.slice ga 2 gc) F2 := by
  rw [hw9]
  exact links_far (links_far (links_far (links_far hL7 hfar _ _) hfar _ _) hfar _ _) hfar _ _
 have hT9 : Has w9 (.slice (some ⟨w2.heap.size + 1 + 1 + 1 + 1 + 1 + 1, 0, none⟩) 2 2) (dTab T5) := by
  rw [hw9]
  exact (h7.same (((((SameOn.refl _ x7).set ⟨w.heap.size, 0, none⟩ (.int .i64 2) (fun h : w2.heap.size ≤ w.heap.size => by omega)).set ⟨w.heap.size, 1, none⟩ (.slice ga 2 gc) (fun h : w2.heap.size ≤ w.heap.size => by omega)).set ⟨w.heap.size, 2, none⟩ (.slice (some ⟨w2.heap.size + 1 + 1 + 1 + 1 + 1 + 1, 0, none⟩) 2 2) (fun h : w2.heap.size ≤ w.heap.size => by omega)).set ⟨w.heap.size, 3, none⟩ (.bool false) (fun h : w2.heap.size ≤ w.heap.size => by omega))).weak
 have R0 := hr9 0 _ rfl
 have R1 := hr9 1 _ rfl
 have R2 := hr9 2 _ rfl
 have R3 := hr9 3 _ rfl
 have HL9 := Lib.hid hL9
 have HT9 := Lib.hid hT9
 have HB9 := Lib.hid hb9
 rw [← hw9]
 clear hw9 hr9 hb9 hL9 hT9 hfar hL7 hx7 hxx b17
 refine bodyPost_ret (v := .agg #[.int .i64 2, .slice ga 2 gc, .slice (some ⟨w2.heap.size + 1 + 1 + 1 + 1 + 1 + 1, 0, none⟩) 2 2, .bool false]) (by simp [results, Try.results26, go_sem, R0, R1, R2, R3]) rfl ?_
 exact ⟨_, _, _, _, rfl, HL9.out, HT9.out, HB9.out⟩
end Go.Proofs.Ytennbiajnkobnaa

