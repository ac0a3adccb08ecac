/- The law's fixed calls. Written by gen_fixed.py. -/
import Derived.Test.YtgoioibfecgopaaTdA
import Derived.Test.YtgoioibfecgopaaTbF
set_option linter.unusedSimpArgs false
namespace Go.Proofs.Ytgoioibfecgopaa
open Go.RowKit Go.PlainAid

theorem twoCells_block {h : Nat} {m0 : Int} {wb : Nat} {x : Int} : ∀ p ∈ twoCells h m0 wb x, (h ≤ p.1.block ∧ p.1.block ≤ h + 6) ∨ p.1.block = wb := by
  intro p hp
  simp only [twoCells, List.mem_cons, List.mem_nil_iff, or_false] at hp
  rcases hp with rfl | rfl | rfl | rfl | rfl | rfl | rfl | rfl | rfl | rfl | rfl | rfl | rfl | rfl | rfl | rfl | rfl | rfl | rfl | rfl | rfl | rfl | rfl | rfl | rfl | rfl | rfl | rfl <;> first | (left; constructor <;> simp <;> omega) | (right; rfl)
theorem TwoAt.far {w : World} {h : Nat} {m0 : Int} {wb : Nat} {x : Int} (g : TwoAt w h m0 wb x) (a : Addr) (u : Value) (h1 : a.block < h ∨ h + 6 < a.block) (h2 : wb ≠ a.block) : TwoAt (w.setCell a u) h m0 wb x := fun p hp => by
  rw [World.cell?_setCell_other _ _ _ _ (by intro e; have := twoCells_block p hp; rw [← e] at this; omega)]
  exact g p hp
theorem TwoAt.bad {w : World} {h : Nat} {T : TypeId} (g : TwoAt w h 1 (h + 1 + 1 + 1) 0) : TwoAt ((w.alloc (.cells #[.int .i64 1] T)).setCell ⟨h + 1 + 1 + 1 + 1 + 1, 1, none⟩ (.slice (some ⟨w.heap.size, 0, none⟩) 1 1)) h 1 w.heap.size 1 := by
  have g' := g.below (below_new w (.cells #[.int .i64 1] T))
  have hz : ∀ p ∈ twoCells h 1 (h + 1 + 1 + 1) 0, p.1.block < w.heap.size := fun p hp => World.block_lt_of_cell? w _ (g p hp)
  have h5 : h + 1 + 1 + 1 + 1 + 1 < w.heap.size := hz (⟨h + 1 + 1 + 1 + 1 + 1, 1, none⟩, sl (h + 1 + 1 + 1) 1) (by simp [twoCells, zS, zI, sl])
  have h6 : h + 1 + 1 + 1 + 1 + 1 + 1 < w.heap.size := hz (⟨h + 1 + 1 + 1 + 1 + 1 + 1, 0, none⟩, .int .i64 0) (by simp [twoCells, zS, zI, sl])
  have e5 := g' (⟨h + 1 + 1 + 1 + 1 + 1, 1, none⟩, sl (h + 1 + 1 + 1) 1) (by simp [twoCells, zS, zI, sl])
  have hn : (w.alloc (.cells #[.int .i64 1] T)).cell? ⟨w.heap.size, 0, none⟩ = some (.int .i64 1) := World.cell?_alloc_at _ _ _ _ rfl
  intro p hp
  by_cases e : p.1 = ⟨h + 1 + 1 + 1 + 1 + 1, 1, none⟩
  · have hv : p.2 = sl w.heap.size 1 := by
      simp only [twoCells, List.mem_cons, List.mem_nil_iff, or_false] at hp
      rcases hp with rfl | rfl | rfl | rfl | rfl | rfl | rfl | rfl | rfl | rfl | rfl | rfl | rfl | rfl | rfl | rfl | rfl | rfl | rfl | rfl | rfl | rfl | rfl | rfl | rfl | rfl | rfl | rfl <;> first | rfl | (exfalso; simp at e; done) | (exfalso; simp at e; omega)
    rw [e, World.cell?_setCell_same _ _ _ e5, hv]
    rfl
  · rw [World.cell?_setCell_other _ _ _ _ (fun e' => e e'.symm)]
    by_cases e2 : p.1 = ⟨w.heap.size, 0, none⟩
    · have hv : p.2 = .int .i64 1 := by
        simp only [twoCells, List.mem_cons, List.mem_nil_iff, or_false] at hp
        rcases hp with rfl | rfl | rfl | rfl | rfl | rfl | rfl | rfl | rfl | rfl | rfl | rfl | rfl | rfl | rfl | rfl | rfl | rfl | rfl | rfl | rfl | rfl | rfl | rfl | rfl | rfl | rfl | rfl <;> first | rfl | (exfalso; have e3 := congrArg Addr.block e2; have e4 := h6; dsimp only at e3; omega)
      rw [e2, hv]; exact hn
    · refine g' p ?_
      simp only [twoCells, List.mem_cons, List.mem_nil_iff, or_false] at hp ⊢
      rcases hp with rfl | rfl | rfl | rfl | rfl | rfl | rfl | rfl | rfl | rfl | rfl | rfl | rfl | rfl | rfl | rfl | rfl | rfl | rfl | rfl | rfl | rfl | rfl | rfl | rfl | rfl | rfl | rfl <;> first | (exfalso; exact e rfl) | (exfalso; exact e2 rfl) | simp
theorem TwoAt.idle {w : World} {h : Nat} (g : TwoAt w h 1 (h + 1 + 1 + 1) 0) : TwoAt (w.setCell ⟨h + 1 + 1, 0, none⟩ (.int .i64 0)) h 0 (h + 1 + 1 + 1) 0 := by
  have e5 := g (⟨h + 1 + 1, 0, none⟩, .int .i64 1) (by simp [twoCells, zS, zI, sl])
  intro p hp
  by_cases e : p.1 = ⟨h + 1 + 1, 0, none⟩
  · have hv : p.2 = .int .i64 0 := by
      simp only [twoCells, List.mem_cons, List.mem_nil_iff, or_false] at hp
      rcases hp with rfl | rfl | rfl | rfl | rfl | rfl | rfl | rfl | rfl | rfl | rfl | rfl | rfl | rfl | rfl | rfl | rfl | rfl | rfl | rfl | rfl | rfl | rfl | rfl | rfl | rfl | rfl | rfl <;> first | rfl | (exfalso; simp at e; done) | (exfalso; simp at e; omega)
    rw [e, World.cell?_setCell_same _ _ _ e5, hv]
  · rw [World.cell?_setCell_other _ _ _ _ (fun e' => e e'.symm)]
    refine g p ?_
    simp only [twoCells, List.mem_cons, List.mem_nil_iff, or_false] at hp ⊢
    rcases hp with rfl | rfl | rfl | rfl | rfl | rfl | rfl | rfl | rfl | rfl | rfl | rfl | rfl | rfl | rfl | rfl | rfl | rfl | rfl | rfl | rfl | rfl | rfl | rfl | rfl | rfl | rfl | rfl <;> first | (exfalso; exact e rfl) | simp

structure FixAt (w0 : World) (h1 hb hi gb pb wb : Nat) (ga : Option Addr) (gc : Nat) (ua : Option Addr) (uc : Nat) (wr : World) : Prop where
  bel : Below w0.heap.size w0 wr
  t : TwoAt wr h1 1 (h1 + 1 + 1 + 1) 0
  b : TwoAt wr hb 1 wb 1
  i : TwoAt wr hi 0 (hi + 1 + 1 + 1) 0
  g0 : wr.cell? ⟨gb, 0, none⟩ = some (.int .i64 2)
  g1 : wr.cell? ⟨gb, 1, none⟩ = some (.slice ga 2 gc)
  gl : LinksAt wr (.slice ga 2 gc) F2
  p0 : wr.cell? ⟨pb, 0, none⟩ = some (.int .i64 1)
  p1 : wr.cell? ⟨pb, 1, none⟩ = some (.slice ua 1 uc)
theorem FixAt.below {w0 : World} {h1 hb hi gb pb wb : Nat} {ga : Option Addr} {gc : Nat} {ua : Option Addr} {uc : Nat} {w w' : World} (f : FixAt w0 h1 hb hi gb pb wb ga gc ua uc w) (hb' : Below w.heap.size w w') : FixAt w0 h1 hb hi gb pb wb ga gc ua uc w' := by
  have k := fun (p : Addr) (v : Value) (e : w.cell? p = some v) => (hb'.cell (World.block_lt_of_cell? w _ e)).trans e
  exact ⟨below_step f.bel.size f.bel hb', f.t.below hb', f.b.below hb', f.i.below hb', k _ _ f.g0, k _ _ f.g1, f.gl.below hb', k _ _ f.p0, k _ _ f.p1⟩
theorem linksAt_same2 {w w0 : World} {v : Value} {L : Lks} (h : LinksAt w v L) (h0 : LinksAt w0 v L) (a a' : Addr) (u u' : Value) (hb : w0.heap.size ≤ a.block) (hb' : w0.heap.size ≤ a'.block) : LinksAt ((w.setCell a u).setCell a' u') v L := by
  have hh := has_of_links h
  rcases h0 with ⟨b, cap, rfl, rfl⟩ | ⟨b, off, len, cap, rfl, h2, h3, h4, h6, h5⟩
  · exact .inl ⟨b, cap, rfl, rfl⟩
  · rcases h with ⟨b', cap', e, rfl⟩ | ⟨b', off', len', cap', e, g2, g3, g4, g6, g5⟩
    · simp at h2; omega
    · simp only [Value.slice.injEq, Option.some.injEq, Addr.mk.injEq] at e
      obtain ⟨⟨rfl, rfl, _⟩, rfl, rfl⟩ := e
      refine .inr ⟨b, off, len, cap, rfl, h2, h3, by simp only [World.size_setCell]; exact g4, h6, fun i hi => ?_⟩
      obtain ⟨x, y⟩ := g5 i hi
      refine ⟨?_, ?_⟩
      · rw [World.cell?_setCell_other _ _ _ _ (by intro e; rw [e] at hb'; simp at hb'; omega), World.cell?_setCell_other _ _ _ _ (by intro e; rw [e] at hb; simp at hb; omega)]; exact x
      · rw [World.cell?_setCell_other _ _ _ _ (by intro e; rw [e] at hb'; simp at hb'; omega), World.cell?_setCell_other _ _ _ _ (by intro e; rw [e] at hb; simp at hb; omega)]; exact y
theorem wfF2 : ∀ p ∈ F2, wfp p := wfSmall (by decide)
theorem wfF3 : ∀ p ∈ F3, wfp p := wfSmall (by decide)
theorem mode_is (M : Tab) (n s m : Int) (v : Value) (w : World) (h : Has w v (dTab M)) (hm : (stAt M n s).mode = m) :
    Calls Try.prog 21 #[v, .int .i64 n, .int .i64 s] w fun e w' => e = .returned (.int .i64 m) ∧ Below w.heap.size w w' := by subst hm; exact mode_at M n s v w h
theorem taken_is (M : Tab) (n s f c t : Int) (v : Value) (w : World) (h : Has w v (dTab M)) (hn : (stAt M n s).takes.length ≤ 1000000) (ht : takenAt M n s f c = t) :
    Calls Try.prog 22 #[v, .int .i64 n, .int .i64 s, .int .i64 f, .int .i64 c] w fun e w' => e = .returned (.int .i64 t) ∧ Below w.heap.size w w' := by subst ht; exact taken_at M n s f c v w h hn
def zG : Value := .agg #[.int .i64 0, .slice none 0 0]

set_option maxHeartbeats 8000000 in
set_option maxRecDepth 100000 in
theorem fixed4_any (w : World) :
    Calls Try.prog 19 #[] w fun e w' => e = .returned (.bool true) ∧ Below w.heap.size w w' := by
  go_enter Try.func19, Try.ntmps19
  try simp only [List.append_eq, List.cons_append, List.nil_append]
  go_wp2_with fail
  refine (two_at _).mono ?_
  rintro e w1 ⟨rfl, hT, hb, hz, hf⟩
  have T1 := Lib.hid hT
  have B1 := Lib.hid hb
  have Z1 := Lib.hid hz
  clear hT hb hz hf
  go_wp2_with fail
  refine (full_at 2 2 _ (by omega)).mono ?_
  rintro e w2 ⟨ga, gc, rfl, hL, hb⟩
  rw [full2] at hL ⊢
  simp only [gv, show F2.length = 2 from rfl]
  have L2 := Lib.hid hL
  have B2 := Lib.hid hb
  clear hL hb
  obtain ⟨w3, hw3⟩ : ∃ w3, w3 = w2.alloc (.cells #[.int .i64 2, .slice ga 2 gc] 25) := ⟨_, rfl⟩
  have hb3 : Below w2.heap.size w2 w3 := by rw [hw3]; exact below_new _ _
  have g0 : w3.cell? ⟨w2.heap.size, 0, none⟩ = some (.int .i64 2) := by rw [hw3]; exact World.cell?_alloc_at _ _ _ _ rfl
  have g1 : w3.cell? ⟨w2.heap.size, 1, none⟩ = some (.slice ga 2 gc) := by rw [hw3]; exact World.cell?_alloc_at _ _ _ _ rfl
  have Z3 := Lib.hid (show w3.heap.size = w2.heap.size + 1 by rw [hw3]; simp)
  have G0 := Lib.hid g0
  have G1 := Lib.hid g1
  have L3 := Lib.hid (L2.out.below hb3)
  have T3 := Lib.hid ((T1.out.below B2.out).below hb3)
  have B3 := Lib.hid (below_step (below_step B1.out.size B1.out B2.out).size (below_step B1.out.size B1.out B2.out) hb3)
  clear hb3 g0 g1
  go_wp2_with fail
  rw [← hw3]
  clear hw3
  refine (picked_yes (twoT 1 0) 0 0 0 ⟨1, [(1, 1)]⟩ _ _ (two_has T3.out) rfl (by simp)).mono ?_
  rintro e w4 ⟨u, rfl, hu, hb⟩
  obtain ⟨ua, uc, rfl⟩ := Holds.len hu
  simp only [pkv, List.map_cons, List.map_nil, List.length_cons, List.length_nil, Nat.zero_add]
  obtain ⟨w5, hw5⟩ : ∃ w5, w5 = w4.alloc (.cells #[.int .i64 1, .slice ua 1 uc] 46) := ⟨_, rfl⟩
  have hb5 : Below w4.heap.size w4 w5 := by rw [hw5]; exact below_new _ _
  have p0 : w5.cell? ⟨w4.heap.size, 0, none⟩ = some (.int .i64 1) := by rw [hw5]; exact World.cell?_alloc_at _ _ _ _ rfl
  have p1 : w5.cell? ⟨w4.heap.size, 1, none⟩ = some (.slice ua 1 uc) := by rw [hw5]; exact World.cell?_alloc_at _ _ _ _ rfl
  have hb35 := below_step hb.size hb hb5
  have H4 := Lib.hid (show w3.heap.size ≤ w4.heap.size from hb.size)
  have Z5 := Lib.hid (show w5.heap.size = w4.heap.size + 1 by rw [hw5]; simp)
  have P0 := Lib.hid p0
  have P1 := Lib.hid p1
  have G0 := Lib.hid ((hb35.cell (World.block_lt_of_cell? w3 _ G0.out)).trans G0.out)
  have G1 := Lib.hid ((hb35.cell (World.block_lt_of_cell? w3 _ G1.out)).trans G1.out)
  have L5 := Lib.hid (L3.out.below hb35)
  have T5 := Lib.hid (T3.out.below hb35)
  have B5 := Lib.hid (below_step B3.out.size B3.out hb35)
  have S5 := Lib.hid hb35.size
  clear hu hb hb5 p0 p1 hb35
  go_wp2_with fail
  rw [← hw5]
  clear hw5
  refine (picked_no (twoT 1 0) 0 0 1 _ _ (two_has T5.out) (by decide)).mono ?_
  rintro e w6 ⟨rfl, hb⟩
  simp only [pkv, Pk.zero]
  have G0 := Lib.hid ((hb.cell (World.block_lt_of_cell? w5 _ G0.out)).trans G0.out)
  have G1 := Lib.hid ((hb.cell (World.block_lt_of_cell? w5 _ G1.out)).trans G1.out)
  have P0 := Lib.hid ((hb.cell (World.block_lt_of_cell? w5 _ P0.out)).trans P0.out)
  have P1 := Lib.hid ((hb.cell (World.block_lt_of_cell? w5 _ P1.out)).trans P1.out)
  have L6 := Lib.hid (L5.out.below hb)
  have T6 := Lib.hid (T5.out.below hb)
  have B6 := Lib.hid (below_step B5.out.size B5.out hb)
  have S6 := Lib.hid hb.size
  clear hb
  go_wp2_with fail
  obtain ⟨w7, hw7⟩ : ∃ w7, w7 = w6.alloc (.cells #[.int .i64 0, .slice none 0 0] 46) := ⟨_, rfl⟩
  have hb7 : Below w6.heap.size w6 w7 := by rw [hw7]; exact below_new _ _
  rw [← hw7]
  have Z7 := Lib.hid (show w7.heap.size = w6.heap.size + 1 by rw [hw7]; simp)
  clear hw7
  refine (two_at _).mono ?_
  rintro e w8 ⟨rfl, hT8, hb8, hz8, hf8⟩
  have hb68 := below_step hb7.size hb7 hb8
  have TB8 := Lib.hid hT8
  have F8 := Lib.hid hf8
  have Z8 := Lib.hid hz8
  have G0 := Lib.hid ((hb68.cell (World.block_lt_of_cell? w6 _ G0.out)).trans G0.out)
  have G1 := Lib.hid ((hb68.cell (World.block_lt_of_cell? w6 _ G1.out)).trans G1.out)
  have P0 := Lib.hid ((hb68.cell (World.block_lt_of_cell? w6 _ P0.out)).trans P0.out)
  have P1 := Lib.hid ((hb68.cell (World.block_lt_of_cell? w6 _ P1.out)).trans P1.out)
  have L8 := Lib.hid (L6.out.below hb68)
  have T8 := Lib.hid (T6.out.below hb68)
  have B8 := Lib.hid (below_step B6.out.size B6.out hb68)
  clear hT8 hb7 hb8 hb68 hz8 hf8
  go_wp2_with fail
  refine (two_at _).mono ?_
  rintro e w9 ⟨rfl, hT9, hb9, hz9, hf9⟩
  have TB9 := Lib.hid (TB8.out.below hb9)
  have TI9 := Lib.hid hT9
  have G0 := Lib.hid ((hb9.cell (World.block_lt_of_cell? w8 _ G0.out)).trans G0.out)
  have G1 := Lib.hid ((hb9.cell (World.block_lt_of_cell? w8 _ G1.out)).trans G1.out)
  have P0 := Lib.hid ((hb9.cell (World.block_lt_of_cell? w8 _ P0.out)).trans P0.out)
  have P1 := Lib.hid ((hb9.cell (World.block_lt_of_cell? w8 _ P1.out)).trans P1.out)
  have L9 := Lib.hid (L8.out.below hb9)
  have T9 := Lib.hid (T8.out.below hb9)
  have B9 := Lib.hid (below_step B8.out.size B8.out hb9)
  have Z9 := Lib.hid hz9
  have S4 := Lib.hid (show w4.heap.size + 1 ≤ w6.heap.size by have := S6.out; have := Z5.out; omega)
  have f5 := (hb9.frozen (p := ⟨w7.heap.size + 1 + 1 + 1 + 1 + 1, 1, none⟩) (by have := Z8.out; show w7.heap.size + 1 + 1 + 1 + 1 + 1 < _; omega)).trans (F8.out (w7.heap.size + 1 + 1 + 1 + 1 + 1) 1 (by omega) (by have := Z8.out; omega))
  have f2 := hf9 (w8.heap.size + 1 + 1) 0 (by omega) (by have := Z9.out; omega)
  have c5 := TB9.out (⟨w7.heap.size + 1 + 1 + 1 + 1 + 1, 1, none⟩, sl (w7.heap.size + 1 + 1 + 1) 1) (by simp [twoCells, zS, zI, sl])
  have c6 := TB9.out (⟨w7.heap.size + 1 + 1 + 1 + 1 + 1 + 1, 3, none⟩, sl (w7.heap.size + 1 + 1 + 1 + 1 + 1) 2) (by simp [twoCells, zS, zI, sl])
  have d2 := TI9.out (⟨w8.heap.size + 1 + 1, 0, none⟩, .int .i64 1) (by simp [twoCells, zS, zI, sl])
  have d6 := TI9.out (⟨w8.heap.size + 1 + 1 + 1 + 1 + 1 + 1, 1, none⟩, sl (w8.heap.size + 1 + 1) 2) (by simp [twoCells, zS, zI, sl])
  simp only [sl] at c5 c6 d2 d6
  have f5' : ∀ c ty, (w9.alloc (.cells c ty)).frozen? ⟨w7.heap.size + 1 + 1 + 1 + 1 + 1, 1, none⟩ = false := fun c ty => by rw [frozen?_alloc_cells]; exact f5
  have c5' := cell_more c5
  have c6' := cell_more c6
  clear hT9 hb9 hz9 hf9
  obtain ⟨wA, hwA⟩ : ∃ wA, wA = (w9.alloc (.cells #[.int .i64 1] 3)).setCell ⟨w7.heap.size + 1 + 1 + 1 + 1 + 1, 1, none⟩ (.slice (some ⟨w9.heap.size, 0, none⟩) 1 1) := ⟨_, rfl⟩
  obtain ⟨wB, hwB⟩ : ∃ wB, wB = wA.setCell ⟨w8.heap.size + 1 + 1, 0, none⟩ (.int .i64 0) := ⟨_, rfl⟩
  have hn := below_new w9 (.cells #[.int .i64 1] 3)
  have z := B1.out.size
  have z2 := B2.out.size
  have zz : w.heap.size + 7 ≤ w2.heap.size ∧ w2.heap.size + 1 ≤ w3.heap.size ∧ w3.heap.size ≤ w5.heap.size ∧ w4.heap.size + 1 ≤ w6.heap.size ∧ w5.heap.size ≤ w6.heap.size ∧ w6.heap.size + 1 = w7.heap.size ∧ w7.heap.size + 7 = w8.heap.size ∧ w8.heap.size + 7 = w9.heap.size ∧ w3.heap.size ≤ w4.heap.size := by
    have := Z1.out; have := Z3.out; have := S5.out; have := S4.out; have := S6.out; have := Z7.out; have := Z8.out; have := Z9.out; have := H4.out
    omega
  have FX := Lib.hid (show FixAt w w.heap.size w7.heap.size w8.heap.size w2.heap.size w4.heap.size w9.heap.size ga gc ua uc wB by
    rw [hwB, hwA]
    have k : ∀ (b i : Nat) (v : Value), w9.cell? ⟨b, i, none⟩ = some v → b < w7.heap.size → (((w9.alloc (.cells #[.int .i64 1] 3)).setCell ⟨w7.heap.size + 1 + 1 + 1 + 1 + 1, 1, none⟩ (.slice (some ⟨w9.heap.size, 0, none⟩) 1 1)).setCell ⟨w8.heap.size + 1 + 1, 0, none⟩ (.int .i64 0)).cell? ⟨b, i, none⟩ = some v := fun b i v e hb => by
      rw [World.cell?_setCell_other _ _ _ _ (by simp <;> omega), World.cell?_setCell_other _ _ _ _ (by simp <;> omega)]
      exact (hn.cell (World.block_lt_of_cell? w9 _ e)).trans e
    refine ⟨((below_step B9.out.size B9.out hn).setCell (by simp <;> omega) _).setCell (by simp <;> omega) _, ?_, ?_, ?_, k _ _ _ G0.out (by omega), k _ _ _ G1.out (by omega), ?_, k _ _ _ P0.out (by omega), k _ _ _ P1.out (by omega)⟩
    · exact ((T9.out.below hn).far _ _ (by simp <;> omega) (by simp <;> omega)).far _ _ (by simp <;> omega) (by simp <;> omega)
    · exact (TB9.out.bad).far _ _ (by simp <;> omega) (by simp <;> omega)
    · exact ((TI9.out.below hn).far _ _ (by simp <;> omega) (by simp <;> omega)).idle
    · exact linksAt_same2 (L9.out.below hn) L3.out _ _ _ _ (by simp <;> omega) (by simp <;> omega))
  have d2A : wA.cell? ⟨w8.heap.size + 1 + 1, 0, none⟩ = some (.int .i64 1) := by
    rw [hwA, World.cell?_setCell_other _ _ _ _ (by simp <;> omega)]
    exact (hn.cell (World.block_lt_of_cell? w9 _ d2)).trans d2
  have d6A : wA.cell? ⟨w8.heap.size + 1 + 1 + 1 + 1 + 1 + 1, 1, none⟩ = some (.slice (some ⟨w8.heap.size + 1 + 1, 0, none⟩) 2 2) := by
    rw [hwA, World.cell?_setCell_other _ _ _ _ (by simp <;> omega)]
    exact (hn.cell (World.block_lt_of_cell? w9 _ d6)).trans d6
  have f2A : wA.frozen? ⟨w8.heap.size + 1 + 1, 0, none⟩ = false := by
    rw [hwA, World.frozen?_setCell, frozen?_alloc_cells]
    exact f2
  rw [hwA] at d2A d6A f2A
  have g0E := FX.out.g0
  have g1E := FX.out.g1
  rw [hwB, hwA] at g0E g1E
  clear hn z z2 zz c5 d2 d6 f5 f2
  go_wp2_with fail
  rw [← hwA, ← hwB]
  clear c5' c6' c6 f5' d2A d6A f2A hwA hwB g0E g1E
  refine (tright_at 2 _ F2 (twoT 1 0) _ true _ (two_has FX.out.t) FX.out.gl wfF2 (by decide) (twoSmall _ _) ⟨fun _ => twoOK, fun _ => rfl⟩).mono ?_
  rintro e wn ⟨rfl, hb⟩
  have FX := Lib.hid (FX.out.below hb)
  clear hb
  have g0 := FX.out.g0
  have g1 := FX.out.g1
  have p0 := FX.out.p0
  have p1 := FX.out.p1
  go_wp2_with fail
  refine (full_at 3 3 _ (by omega)).mono ?_
  rintro e wn ⟨fa, fc, rfl, hL, hb⟩
  rw [full3] at hL ⊢
  have FX := Lib.hid (FX.out.below hb)
  have LF := Lib.hid hL
  clear hL hb
  have g0 := FX.out.g0
  have g1 := FX.out.g1
  have p0 := FX.out.p0
  have p1 := FX.out.p1
  simp only [gv]
  go_wp2_with fail
  refine (tright_at 3 _ F3 (twoT 1 0) _ false _ (two_has FX.out.t) LF.out wfF3 (by decide) (twoSmall _ _) ⟨fun h => (by cases h), fun h => absurd h (threeNo _ _ _)⟩).mono ?_
  rintro e wn ⟨rfl, hb⟩
  have FX := Lib.hid (FX.out.below hb)
  clear hb
  have g0 := FX.out.g0
  have g1 := FX.out.g1
  have p0 := FX.out.p0
  have p1 := FX.out.p1
  go_wp2_with fail
  refine (tright_at 0 _ [] [] _ false _ (.nil _ _ _ _ _) (.inl ⟨none, 0, rfl, rfl⟩) (by simp) (by simp) ⟨by simp, by simp⟩ ⟨fun h => (by cases h), fun h => absurd h nilNo⟩).mono ?_
  rintro e wn ⟨rfl, hb⟩
  have FX := Lib.hid (FX.out.below hb)
  clear hb
  have g0 := FX.out.g0
  have g1 := FX.out.g1
  have p0 := FX.out.p0
  have p1 := FX.out.p1
  go_wp2_with fail
  refine (tright_at 2 _ F2 (twoT 1 1) _ false _ (two_has FX.out.b) FX.out.gl wfF2 (by decide) (twoSmall _ _) ⟨fun h => (by cases h), fun h => absurd h badNo⟩).mono ?_
  rintro e wn ⟨rfl, hb⟩
  have FX := Lib.hid (FX.out.below hb)
  clear hb
  have g0 := FX.out.g0
  have g1 := FX.out.g1
  have p0 := FX.out.p0
  have p1 := FX.out.p1
  go_wp2_with fail
  refine (tright_at 2 _ F2 (twoT 0 0) _ false _ (two_has FX.out.i) FX.out.gl wfF2 (by decide) (twoSmall _ _) ⟨fun h => (by cases h), fun h => absurd h idleNo⟩).mono ?_
  rintro e wn ⟨rfl, hb⟩
  have FX := Lib.hid (FX.out.below hb)
  clear hb
  have g0 := FX.out.g0
  have g1 := FX.out.g1
  have p0 := FX.out.p0
  have p1 := FX.out.p1
  go_wp2_with fail
  refine (mode_is (twoT 1 0) 0 0 1 _ _ (two_has FX.out.t) rfl).mono ?_
  rintro e wn ⟨rfl, hb⟩
  have FX := Lib.hid (FX.out.below hb)
  clear hb
  have g0 := FX.out.g0
  have g1 := FX.out.g1
  have p0 := FX.out.p0
  have p1 := FX.out.p1
  go_wp2_with fail
  refine (mode_is (twoT 1 0) 1 0 2 _ _ (two_has FX.out.t) rfl).mono ?_
  rintro e wn ⟨rfl, hb⟩
  have FX := Lib.hid (FX.out.below hb)
  clear hb
  have g0 := FX.out.g0
  have g1 := FX.out.g1
  have p0 := FX.out.p0
  have p1 := FX.out.p1
  go_wp2_with fail
  refine (mode_is (twoT 1 0) 9 0 0 _ _ (two_has FX.out.t) rfl).mono ?_
  rintro e wn ⟨rfl, hb⟩
  have FX := Lib.hid (FX.out.below hb)
  clear hb
  have g0 := FX.out.g0
  have g1 := FX.out.g1
  have p0 := FX.out.p0
  have p1 := FX.out.p1
  go_wp2_with fail
  refine (waits_at (twoT 1 0) 1 0 _ _ (two_has FX.out.t) (by decide)).mono ?_
  rintro e wn ⟨u, rfl, hu, hb⟩
  obtain ⟨wa, wc, rfl⟩ := Holds.len hu
  have FX := Lib.hid (FX.out.below hb)
  have WU := Lib.hid (Has.ints (xs := [0]) (by exact hu.weak))
  clear hu hb
  have g0 := FX.out.g0
  have g1 := FX.out.g1
  have p0 := FX.out.p0
  have p1 := FX.out.p1
  go_wp2_with fail
  refine (rints_same _ _ [0] _ (WU.out.below (below_new _ _)) (ints_new _ _ [0] (by simp)) (by simp)).mono ?_
  rintro e wn ⟨rfl, hb⟩
  have FX := Lib.hid ((FX.out.below (below_new _ _)).below hb)
  clear hb
  have g0 := FX.out.g0
  have g1 := FX.out.g1
  have p0 := FX.out.p0
  have p1 := FX.out.p1
  go_wp2_with fail
  refine (waits_at (twoT 1 0) 0 0 _ _ (two_has FX.out.t) (by decide)).mono ?_
  rintro e wn ⟨u, rfl, hu, hb⟩
  obtain ⟨wa, wc, rfl⟩ := Holds.len hu
  simp only [List.length_map, show (stAt (twoT 1 0) 0 0).waits.length = 0 from rfl]
  have FX := Lib.hid (FX.out.below hb)
  clear hu hb
  have g0 := FX.out.g0
  have g1 := FX.out.g1
  have p0 := FX.out.p0
  have p1 := FX.out.p1
  go_wp2_with fail
  refine (taken_is (twoT 1 0) 1 0 0 1 1 _ _ (two_has FX.out.t) (by decide) rfl).mono ?_
  rintro e wn ⟨rfl, hb⟩
  have FX := Lib.hid (FX.out.below hb)
  clear hb
  have g0 := FX.out.g0
  have g1 := FX.out.g1
  have p0 := FX.out.p0
  have p1 := FX.out.p1
  go_wp2_with fail
  refine (taken_is (twoT 1 0) 1 0 0 2 0 _ _ (two_has FX.out.t) (by decide) rfl).mono ?_
  rintro e wn ⟨rfl, hb⟩
  have FX := Lib.hid (FX.out.below hb)
  clear hb
  have g0 := FX.out.g0
  have g1 := FX.out.g1
  have p0 := FX.out.p0
  have p1 := FX.out.p1
  go_wp2_with fail
  refine (taken_is (twoT 1 0) 5 7 0 0 7 _ _ (two_has FX.out.t) (by decide) rfl).mono ?_
  rintro e wn ⟨rfl, hb⟩
  have FX := Lib.hid (FX.out.below hb)
  clear hb
  have g0 := FX.out.g0
  have g1 := FX.out.g1
  have p0 := FX.out.p0
  have p1 := FX.out.p1
  go_wp2_with fail
  go_ret
  exact ⟨rfl, FX.out.bel⟩
end Go.Proofs.Ytgoioibfecgopaa
