/- Texts put together. -/
import Derived.Test.YtennbiajnkobnaaQ02
import Derived.Test.YtennbiajnkobnaaQ10
import Derived.Test.YtennbiajnkobnaaQ19
import Derived.Test.YtennbiajnkobnaaQ23
set_option linter.unusedSimpArgs false
namespace Go.Proofs.Ytennbiajnkobnaa
open Go.RowKit Go.PlainAid
theorem infoRSend : (Try.prog.info? 137).map (fun i => (i.zero, i.size, i.bytes)) = some (some (.agg #[.int .i64 0, .int .i64 0]), 2, 16) := by kernel_rfl
theorem infoRPk : (Try.prog.info? 136).map (fun i => (i.zero, i.size, i.bytes)) = some (some (.agg #[.int .i64 0, .slice none 0 0]), 2, 32) := by kernel_rfl
theorem infoRTk : (Try.prog.info? 138).map (fun i => (i.zero, i.size, i.bytes)) = some (some (.agg #[.int .i64 0, .int .i64 0, .int .i64 0]), 3, 24) := by kernel_rfl
theorem consF' {P : Nat → Prop} {w : World} {c : Value} {cs : List Value} {d : D} {ds : List D} (h : Holds False P w c d) (h' : HoldsL False P w cs ds) : HoldsL False P w (c :: cs) (d :: ds) := by
 obtain ⟨h1, fp, h2, h3, h4⟩ := h'
 refine ⟨by simp [h1], fun _ => P, fun _ _ h => h, fun s => s.elim, fun j c' d' hc hd => ?_⟩
 cases j with
 | zero => simp at hc hd; subst hc hd; exact h
 | succ j => exact (h4 j c' d' (by simpa using hc) (by simpa using hd)).wide (fun b _ p => h2 _ _ p)
/-- While picks, then takes, are copied. -/
structure D1 (w1 wA : World) (b3 : Nat) (m : Int) (v1 v2 : Value) (ps : List Pk) (wr : World) : Prop where
 bel : Below w1.heap.size w1 wr
 low : SameOn (fun k => k < wA.heap.size ∧ k ≠ b3) wA wr
 y0 : wr.cell? ⟨b3, 0, none⟩ = some (.int .i64 m)
 y1 : wr.cell? ⟨b3, 1, none⟩ = some v1
 y3 : wr.cell? ⟨b3, 3, none⟩ = some (.slice none 0 0)
 z3 : wr.frozen? ⟨b3, 3, none⟩ = false
 f2 : Fld False (fun k => wA.heap.size ≤ k) 136 2 w1 wr b3 2 v2 (ps.map Pk.d)
structure D2 (w1 wB : World) (b3 : Nat) (m : Int) (v1 v2 v3 : Value) (ts : List Tk) (wr : World) : Prop where
 bel : Below w1.heap.size w1 wr
 low : SameOn (fun k => k < wB.heap.size ∧ k ≠ b3) wB wr
 y0 : wr.cell? ⟨b3, 0, none⟩ = some (.int .i64 m)
 y1 : wr.cell? ⟨b3, 1, none⟩ = some v1
 y2 : wr.cell? ⟨b3, 2, none⟩ = some v2
 f3 : Fld False (fun k => wB.heap.size ≤ k) 138 3 w1 wr b3 3 v3 (ts.map Tk.d)
theorem D1.start (w1 : World) (m : Int) (v1 : Value) (T : TypeId) : D1 w1 (w1.alloc (.cells #[.int .i64 m, v1, .slice none 0 0, .slice none 0 0] T)) w1.heap.size m v1 (.slice none 0 0) [] (w1.alloc (.cells #[.int .i64 m, v1, .slice none 0 0, .slice none 0 0] T)) :=
 ⟨below_new _ _, SameOn.refl _ _, World.cell?_alloc_at _ _ _ _ rfl, World.cell?_alloc_at _ _ _ _ rfl, World.cell?_alloc_at _ _ _ _ rfl, frozen_new _ _ _ _, ⟨World.cell?_alloc_at _ _ _ _ rfl, frozen_new _ _ _ _, ⟨Own.nil (below_new _ _), fun k hk => by simp [Value.ownBlock] at hk⟩, by simp, Nat.le_refl _⟩⟩
theorem D2.start {w1 wA wr : World} {b3 : Nat} {m : Int} {v1 v2 : Value} {ps : List Pk} (h : D1 w1 wA b3 m v1 v2 ps wr) (hb : b3 < wA.heap.size) : D2 w1 wr b3 m v1 v2 (.slice none 0 0) [] wr :=
 ⟨h.bel, SameOn.refl _ _, h.y0, h.y1, h.f2.cell, ⟨h.y3, h.z3, ⟨Own.nil h.bel, fun k hk => by simp [Value.ownBlock] at hk⟩, by have := h.low.1; omega, h.f2.ge⟩⟩
theorem D1.below {w1 wA w w' : World} {b3 : Nat} {m : Int} {v1 v2 : Value} {ps : List Pk} (h : D1 w1 wA b3 m v1 v2 ps w) (hb : Below w.heap.size w w') : D1 w1 wA b3 m v1 v2 ps w' := by
 have k := fun (p : Addr) (v : Value) (e : w.cell? p = some v) => (hb.cell (World.block_lt_of_cell? w _ e)).trans e
 exact ⟨below_step h.bel.size h.bel hb, h.low.trans ((SameOn.of_below hb).sub fun _ p => p), k _ _ h.y0, k _ _ h.y1, k _ _ h.y3, (hb.frozen (World.block_lt_of_cell? w _ h.y3)).trans h.z3, h.f2.below hb⟩
theorem D2.below {w1 wB w w' : World} {b3 : Nat} {m : Int} {v1 v2 v3 : Value} {ts : List Tk} (h : D2 w1 wB b3 m v1 v2 v3 ts w) (hb : Below w.heap.size w w') : D2 w1 wB b3 m v1 v2 v3 ts w' := by
 have k := fun (p : Addr) (v : Value) (e : w.cell? p = some v) => (hb.cell (World.block_lt_of_cell? w _ e)).trans e
 exact ⟨below_step h.bel.size h.bel hb, h.low.trans ((SameOn.of_below hb).sub fun _ p => p), k _ _ h.y0, k _ _ h.y1, k _ _ h.y2, h.f3.below hb⟩
theorem D1.push {w1 wA w w5 w6 : World} {b3 : Nat} {m : Int} {v1 v2 v2' : Value} {ps : List Pk} {p : Pk} (h : D1 w1 wA b3 m v1 v2 ps w) (hbA : b3 < wA.heap.size) (hb : Below w.heap.size w w5) (hO : Own False (fun k => wA.heap.size ≤ k) 136 2 w1 w6.heap.size w6 v2' (ps.map Pk.d ++ [p.d])) (hg : w5.grownBy w6 v2.ownBlock)
  (hv : v2'.ownBlock = v2.ownBlock ∨ v2'.ownBlock = some w5.heap.size) : D1 w1 wA b3 m v1 v2' (ps ++ [p]) (w6.setCell ⟨b3, 2, none⟩ v2') ∧ w6.cell? ⟨b3, 2, none⟩ = some v2 ∧ w6.frozen? ⟨b3, 2, none⟩ = false := by
 have h5 := h.below hb
 have hAw : wA.heap.size ≤ w5.heap.size := h5.low.1
 obtain ⟨a1, a2, a3, a4, a5, a6, a7⟩ := h.f2.push hb hO hg hv hAw
 have hlow := a5 (fun k => k < wA.heap.size ∧ k ≠ b3) (fun k hk => by omega) (fun hk => hk.2 rfl)
 have hb5 := World.block_lt_of_cell? w5 _ h5.y3
 refine ⟨⟨a4, h5.low.trans hlow, a6 _ _ h5.y0 (by simp; omega) (by simp), a6 _ _ h5.y1 (by simp; omega) (by simp), a6 _ _ h5.y3 (by simp; omega) (by simp), (a7 _ hb5 (by simp; omega)).trans h5.z3, ?_⟩, a2, a3⟩
 rw [List.map_append]; exact a1
theorem D2.push {w1 wB w w5 w6 : World} {b3 : Nat} {m : Int} {v1 v2 v3 v3' : Value} {ts : List Tk} {t : Tk} (h : D2 w1 wB b3 m v1 v2 v3 ts w) (hbB : b3 < wB.heap.size) (hb : Below w.heap.size w w5) (hO : Own False (fun k => wB.heap.size ≤ k) 138 3 w1 w6.heap.size w6 v3' (ts.map Tk.d ++ [t.d])) (hg : w5.grownBy w6 v3.ownBlock)
  (hv : v3'.ownBlock = v3.ownBlock ∨ v3'.ownBlock = some w5.heap.size) : D2 w1 wB b3 m v1 v2 v3' (ts ++ [t]) (w6.setCell ⟨b3, 3, none⟩ v3') ∧ w6.cell? ⟨b3, 3, none⟩ = some v3 ∧ w6.frozen? ⟨b3, 3, none⟩ = false := by
 have h5 := h.below hb
 have hAw : wB.heap.size ≤ w5.heap.size := h5.low.1
 obtain ⟨a1, a2, a3, a4, a5, a6, a7⟩ := h.f3.push hb hO hg hv hAw
 have hlow := a5 (fun k => k < wB.heap.size ∧ k ≠ b3) (fun k hk => by omega) (fun hk => hk.2 rfl)
 refine ⟨⟨a4, h5.low.trans hlow, a6 _ _ h5.y0 (by simp; omega) (by simp), a6 _ _ h5.y1 (by simp; omega) (by simp), a6 _ _ h5.y2 (by simp; omega) (by simp), ?_⟩, a2, a3⟩
 rw [List.map_append]; exact a1
/-- A pick's box while its sends are copied. -/
structure PkB (wo : World) (q : Int) (v : Value) (ss : Lks) (wr : World) : Prop where
 c0 : wr.cell? ⟨wo.heap.size, 0, none⟩ = some (.int .i64 q)
 f1 : Fld False (fun k => wo.heap.size < k) 137 2 wo wr wo.heap.size 1 v (ss.map fun p => [dI p.1, dI p.2])
theorem PkB.start (wo : World) (q : Int) : PkB wo q (.slice none 0 0) [] (wo.alloc (.cells #[.int .i64 q, .slice none 0 0] 136)) :=
 ⟨World.cell?_alloc_at _ _ _ _ rfl, ⟨World.cell?_alloc_at _ _ _ _ rfl, frozen_new _ _ _ _, ⟨Own.nil (below_new _ _), fun k hk => by simp [Value.ownBlock] at hk⟩, by omega, Nat.le_refl _⟩⟩
theorem PkB.below {wo : World} {q : Int} {v : Value} {ss : Lks} {w w' : World} (h : PkB wo q v ss w) (hb : Below w.heap.size w w') : PkB wo q v ss w' :=
 ⟨(hb.cell (World.block_lt_of_cell? w _ h.c0)).trans h.c0, h.f1.below hb⟩
theorem PkB.push {wo : World} {q : Int} {v v' : Value} {ss : Lks} {s : Int × Int} {w w5 w6 : World} (h : PkB wo q v ss w) (hb : Below w.heap.size w w5) (hO : Own False (fun k => wo.heap.size < k) 137 2 wo w6.heap.size w6 v' (ss.map (fun p => [dI p.1, dI p.2]) ++ [[dI s.1, dI s.2]]))
  (hg : w5.grownBy w6 v.ownBlock) (hv : v'.ownBlock = v.ownBlock ∨ v'.ownBlock = some w5.heap.size) : PkB wo q v' (ss ++ [s]) (w6.setCell ⟨wo.heap.size, 1, none⟩ v') ∧ w6.cell? ⟨wo.heap.size, 1, none⟩ = some v ∧ w6.frozen? ⟨wo.heap.size, 1, none⟩ = false := by
 have h5 := h.below hb
 have hlt : wo.heap.size < w5.heap.size := World.block_lt_of_cell? w5 _ h5.c0
 obtain ⟨a1, a2, a3, a4, a5, a6, a7⟩ := h.f1.push hb hO hg hv hlt
 refine ⟨⟨a6 _ _ h5.c0 (by simp) (by simp), ?_⟩, a2, a3⟩
 rw [List.map_append]; exact a1
set_option maxHeartbeats 8000000 in
set_option maxRecDepth 100000 in
theorem state_in (s : St) (v : Value) (w0 w : World) (h : IsSt w0 s v) (h0 : Below w0.heap.size w0 w) (hsm : SmallSt s) :
  Calls Try.prog 41 #[v] w fun e w' => ∃ cs, e = .returned (.agg ⟨cs⟩) ∧ HoldsL False (fun k => k < w0.heap.size ∨ w.heap.size ≤ k) w' cs s.d ∧ Below w.heap.size w w' := by
 obtain ⟨a1, c1, a2, c2, a3, c3, rfl, h1, h2, h3⟩ := isSt_open h
 obtain ⟨n1, hn1⟩ : ∃ n1, n1 = s.waits.length := ⟨_, rfl⟩
 obtain ⟨n2, hn2⟩ : ∃ n2, n2 = s.picks.length := ⟨_, rfl⟩
 obtain ⟨n3, hn3⟩ : ∃ n3, n3 = s.takes.length := ⟨_, rfl⟩
 obtain ⟨m, hm⟩ : ∃ m, m = s.mode := ⟨_, rfl⟩
 rw [← hn1] at h1 ⊢
 rw [← hn2] at h2 ⊢
 rw [← hn3] at h3 ⊢
 rw [← hm]
 obtain ⟨i2, hi2, hz2, hs2, hby2⟩ := info_parts infoRSend
 obtain ⟨i3, hi3, hz3, hs3, hby3⟩ := info_parts infoRPk
 obtain ⟨i4, hi4, hz4, hs4, hby4⟩ := info_parts infoRTk
 have h26 : n2 ≤ 1000000 := by rw [hn2]; exact hsm.2.1
 have h36 : n3 ≤ 1000000 := by rw [hn3]; exact hsm.2.2.1
 have HSM := Lib.hid hsm
 have Hm := Lib.hid hm
 have N2 := Lib.hid hn2
 have N3 := Lib.hid hn3
 have H1 := Lib.hid h1
 have H2 := Lib.hid h2
 have H3 := Lib.hid h3
 have H0 := Lib.hid h0
 obtain ⟨w1, hw1⟩ : ∃ w1, w1 = (w.alloc (.cells #[.int .i64 m, .slice a1 n1 c1, .slice a2 n2 c2, .slice a3 n3 c3] 106)).alloc (.cells #[.int .i64 0, .slice none 0 0, .slice none 0 0, .slice none 0 0] 99) := ⟨_, rfl⟩
 have g1 : Below w.heap.size w w1 := by rw [hw1]; go_grown
 have x0 : w1.cell? ⟨w.heap.size, 0, none⟩ = some (.int .i64 m) := by rw [hw1]; go_cell
 have x1 : w1.cell? ⟨w.heap.size, 1, none⟩ = some (.slice a1 n1 c1) := by rw [hw1]; go_cell
 have x2 : w1.cell? ⟨w.heap.size, 2, none⟩ = some (.slice a2 n2 c2) := by rw [hw1]; go_cell
 have x3 : w1.cell? ⟨w.heap.size, 3, none⟩ = some (.slice a3 n3 c3) := by rw [hw1]; go_cell
 have p0 : w1.cell? ⟨w.heap.size + 1, 0, none⟩ = some (.int .i64 0) := by rw [hw1]; go_cell
 have p1 : w1.cell? ⟨w.heap.size + 1, 1, none⟩ = some (.slice none 0 0) := by rw [hw1]; go_cell
 have p2 : w1.cell? ⟨w.heap.size + 1, 2, none⟩ = some (.slice none 0 0) := by rw [hw1]; go_cell
 have p3 : w1.cell? ⟨w.heap.size + 1, 3, none⟩ = some (.slice none 0 0) := by rw [hw1]; go_cell
 have pf : ∀ i, w1.frozen? ⟨w.heap.size + 1, i, none⟩ = false := fun i => by
  rw [hw1, show w.heap.size + 1 = (w.alloc (.cells #[.int .i64 m, .slice a1 n1 c1, .slice a2 n2 c2, .slice a3 n3 c3] 106)).heap.size by simp]
  exact frozen_new _ _ _ _
 have z1 : w1.heap.size = w.heap.size + 1 + 1 := by rw [hw1]; simp
 obtain ⟨wA, hwA⟩ : ∃ wA, wA = w1.alloc (.cells #[.int .i64 m, .slice a1 n1 c1, .slice none 0 0, .slice none 0 0] 99) := ⟨_, rfl⟩
 have CS := Lib.hid (show D1 w1 wA (w.heap.size + 1 + 1) m (.slice a1 n1 c1) (.slice none 0 0) [] wA by rw [hwA, ← z1]; exact D1.start _ _ _ _)
 have zA : wA.heap.size = w1.heap.size + 1 := by rw [hwA]; simp
 have gA : Below w1.heap.size w1 wA := by rw [hwA]; exact below_new _ _
 have CX : Hid (∀ wr : World, SameOn (fun k => k < wA.heap.size ∧ k ≠ w.heap.size + 1 + 1) wA wr → ∀ (b i : Nat) (u : Value), b < w1.heap.size → w1.cell? ⟨b, i, none⟩ = some u → wr.cell? ⟨b, i, none⟩ = some u) := Lib.hid (fun wr hs b i u hb hu => by
  have e := (gA.cell (by exact hb)).trans hu
  exact (hs.cell (a := ⟨b, i, none⟩) ⟨by show b < _; omega, by show b ≠ _; omega⟩ (by show b < _; omega)).trans e)
 have CF : Hid (∀ wr : World, SameOn (fun k => k < wA.heap.size ∧ k ≠ w.heap.size + 1 + 1) wA wr → ∀ i : Nat, wr.frozen? ⟨w.heap.size + 1, i, none⟩ = false) := Lib.hid (fun wr hs i =>
  ((hs.frozen (a := ⟨w.heap.size + 1, i, none⟩) ⟨by show w.heap.size + 1 < _; omega, by show w.heap.size + 1 ≠ _; omega⟩ (by show w.heap.size + 1 < _; omega)).trans (gA.frozen (by show w.heap.size + 1 < _; omega))).trans (pf i))
 have Z1 := Lib.hid z1
 have ZA := Lib.hid zA
 have X2 := Lib.hid x2
 have X3 := Lib.hid x3
 have P0 := Lib.hid p0
 have P1 := Lib.hid p1
 have P2 := Lib.hid p2
 have P3 := Lib.hid p3
 have G1 := Lib.hid g1
 clear h h0 hsm hm hn1 hn2 hn3 h1 h2 h3 pf p0 p1 p2 p3 x2 x3 g1 gA z1 zA
 go_enter Try.func41, Try.ntmps41
 try simp only [List.append_eq, List.cons_append, List.nil_append]
 go_wp2_with fail
 rw [← hw1]
 try rw [← hwA]
 clear hw1 hwA x0 x1
 try go_wp2_with fail
 go_loopw [4] (fun i wr => ∃ (k : Nat) (v2 : Value), i = .int .i64 k ∧ k ≤ n2 ∧ D1 w1 wA (w.heap.size + 1 + 1) m (.slice a1 n1 c1) v2 (s.picks.take k) wr) (fun i _ => n2 - (intOf i).toNat)
 case atStart => exact ⟨0, _, rfl, by omega, by rw [List.take_zero]; exact CS.out⟩
 case round =>
  obtain ⟨k, v2, rfl, hk, hC⟩ := hrel
  obtain ⟨wo, hwo⟩ : ∃ wo, wo = wr := ⟨_, rfl⟩
  subst hwo
  have CC := Lib.hid hC
  have hlow := hC.low
  have e2 := CX.out wo hlow _ _ _ (by rw [Z1.out]; omega) X2.out
  by_cases hlt : k < n2
  ·have hlt' : (k : Int) < n2 := by omega
   obtain ⟨p, hp⟩ := some_of_lt (l := s.picks) (i := k) (by rw [← N2.out]; exact hlt)
   have hbw : Below w0.heap.size w0 wo := below_step H0.out.size H0.out (below_step G1.out.size G1.out hC.bel)
   obtain ⟨b, off, cap, sv, e, hb, _, q0, q1, hsv⟩ := pk_cells H2.out hp
   rw [← N2.out] at e
   simp only [Value.slice.injEq] at e
   obtain ⟨e, _, e'⟩ := e
   subst e e'
   obtain ⟨sa, sc, rfl⟩ := slice_of hsv
   obtain ⟨sn, hsn⟩ : ∃ sn, sn = p.sends.length := ⟨_, rfl⟩
   obtain ⟨pn, hpn⟩ : ∃ pn, pn = p.next := ⟨_, rfl⟩
   rw [← hsn] at q1 hsv
   rw [← hpn] at q0
   have hs6 : sn ≤ 1000000 := by rw [hsn]; exact HSM.out.2.2.2 p (List.mem_of_getElem? hp)
   have Sn := Lib.hid hsn
   have Pn := Lib.hid hpn
   have Hp := Lib.hid hp
   have HS := Lib.hid hsv
   have Q1 := Lib.hid ((hbw.cell (by exact hb)).trans q1)
   have q0 := (hbw.cell (by exact hb)).trans q0
   have Hb0 := Lib.hid hb
   obtain ⟨va, vc, hv2⟩ := hC.f2.bld.own.slice
   rw [List.length_map, List.length_take, ← N2.out, Nat.min_eq_left hk] at hv2
   subst hv2
   have PB := Lib.hid (PkB.start wo pn)
   have E2 := Lib.hid e2
   have BW0 := Lib.hid hbw
   clear hC hlow hp hsv hsn hpn hbw
   go_wp2_with fail
   clear e2 q0
   go_loopw [6] (fun i wr => ∃ (j : Nat) (v : Value), i = .int .i64 j ∧ j ≤ sn ∧ PkB wo pn v (p.sends.take j) wr) (fun i _ => sn - (intOf i).toNat)
   case atStart => exact ⟨0, _, rfl, by omega, by rw [List.take_zero]; exact PB.out⟩
   case round =>
    obtain ⟨j, v, rfl, hj, hN⟩ := hrel
    have NN := Lib.hid hN
    have hbo := hN.f1.bld.own.bel
    have BW := Lib.hid hbo
    have e2 := (hbo.cell (World.block_lt_of_cell? wo _ E2.out)).trans E2.out
    have q1 := (hbo.cell (World.block_lt_of_cell? wo _ Q1.out)).trans Q1.out
    obtain ⟨ua, uc, hv⟩ := hN.f1.bld.own.slice
    rw [List.length_map, List.length_take, ← Sn.out, Nat.min_eq_left hj] at hv
    subst hv
    have c0 := hN.c0
    have c1' := hN.f1.cell
    clear hN
    by_cases hlj : j < sn
    ·have hlj' : (j : Int) < sn := by omega
     obtain ⟨q, hq⟩ := some_of_lt (l := p.sends) (i := j) (by rw [← Sn.out]; exact hlj)
     have hbw2 := below_step BW0.out.size BW0.out hbo
     obtain ⟨sb, so, scap, e, hsb, _, t0, t1⟩ := link_cells (l := p.sends) HS.out hq
     rw [← Sn.out] at e
     simp only [Value.slice.injEq] at e
     obtain ⟨e, _, e'⟩ := e
     subst e e'
     obtain ⟨y1, y2⟩ := q
     simp only at t0 t1
     have t0 := (hbw2.cell (by exact hsb)).trans t0
     have t1 := (hbw2.cell (by exact hsb)).trans t1
     have Hq := Lib.hid hq
     have QS : Hid (∀ w', Below wr.heap.size wr w' → w'.cell? ⟨w.heap.size, 2, none⟩ = some (.slice (some ⟨b, off, none⟩) n2 c2) ∧ w'.cell? ⟨b, off + k * 2 + 1, none⟩ = some (.slice (some ⟨sb, so, none⟩) sn sc) ∧ w'.cell? ⟨sb, so + j * 2, none⟩ = some (.int .i64 y1) ∧ w'.cell? ⟨sb, so + j * 2 + 1, none⟩ = some (.int .i64 y2)) := Lib.hid (fun w' hb => ⟨(hb.cell (World.block_lt_of_cell? wr _ e2)).trans e2, (hb.cell (World.block_lt_of_cell? wr _ q1)).trans q1, (hb.cell (World.block_lt_of_cell? wr _ t0)).trans t0, (hb.cell (World.block_lt_of_cell? wr _ t1)).trans t1⟩)
     have QB : Hid (∀ w', Below wr.heap.size wr w' → w'.cell? ⟨wo.heap.size, 1, none⟩ = some (.slice ua j uc)) := Lib.hid (fun w' hb => (hb.cell (World.block_lt_of_cell? wr _ c1')).trans c1')
     have Hsz := Lib.hid (show w0.heap.size ≤ w.heap.size ∧ w.heap.size < wo.heap.size by have := H0.out.size; have := World.block_lt_of_cell? wo _ E2.out; simp at this; exact ⟨by omega, this⟩)
     have Hsb := Lib.hid hsb
     clear hq hbw2 hbo
     go_wp2_with fail
     clear e2 q1 t0 t1 c1'
     refine wp_region_held_drew (S := (fun w' => w'.cell? ⟨w.heap.size, 2, none⟩ = some (.slice (some ⟨b, off, none⟩) n2 c2) ∧ w'.cell? ⟨b, off + k * 2 + 1, none⟩ = some (.slice (some ⟨sb, so, none⟩) sn sc) ∧ w'.cell? ⟨sb, so + j * 2, none⟩ = some (.int .i64 y1) ∧ w'.cell? ⟨sb, so + j * 2 + 1, none⟩ = some (.int .i64 y2))) (by kernel_rfl) ?_ (fun hHeld => ?_)
     ·exact QS.out _ (by go_grown)
     refine tq 0 ?_
     refine tq 2 ?_
     refine tq 3 ?_
     refine tq 4 ?_
     refine tq 5 ?_
     refine tq 6 ?_
     refine tq 7 ?_
     refine tq 8 ?_
     refine tq 9 ?_
     refine tq 10 ?_
     refine tq 11 ?_
     refine tq 12 ?_
     refine tq 13 ?_
     refine tq 14 ?_
     refine tq 15 ?_
     refine tq 16 ?_
     refine tq 17 ?_
     refine tq 18 ?_
     refine tq 19 ?_
     refine tq 20 ?_
     refine tq 21 ?_
     refine tq 22 ?_
     refine wpAnyH_ready (rs := [1, 23]) (by kernel_rfl) (by simp) ?_
     refine AllReadyH.cons rfl (fun K hK => ?_) (AllReadyH.cons rfl (fun K hK => ?_) AllReadyH.nil)
     ·have rr := QB.out wr.drew (show Below wr.heap.size wr wr.drew from below_drewN (Below.refl _ wr) 1)
      go_simp
      refine hK.out _ _ ?_ (fun hHeld => ?_)
      ·exact QS.out _ (by go_grown)
      clear hK K
      try simp only [Act.put, List.getElem_toArray, List.getElem_cons_zero, List.getElem_cons_succ, List.setIfInBounds_toArray, List.set_cons_zero, List.set_cons_succ]
      refine rd 23 fun K hK => ?_
      go_simp
      refine hK.out _ _ ?_ (fun hHeld => ?_)
      ·exact QS.out _ (by go_grown)
      clear hK K
      try simp only [Act.put, List.getElem_toArray, List.getElem_cons_zero, List.getElem_cons_succ, List.setIfInBounds_toArray, List.set_cons_zero, List.set_cons_succ]
      refine rd 24 fun K hK => ?_
      obtain ⟨w5, hw5⟩ : ∃ w5, w5 = (wr.alloc (.cells #[.int .i64 y1, .int .i64 y2] 137)).drew := ⟨_, rfl⟩
      have hx5 : Below wr.heap.size wr w5 := by rw [hw5]; exact below_drewN (below_new wr _) 1
      have n5 : ∀ j0 u, [Value.int .i64 y1, .int .i64 y2][j0]? = some u → w5.cell? ((⟨wr.heap.size, 0, none⟩ : Addr).add j0) = some u := fun j0 u hj0 => by rw [hw5, Go.WideShapes.add_plain, Nat.zero_add]; show (World.alloc _ _).cell? _ = _; rw [World.cell?_alloc_at _ _ _ _ rfl, List.getElem?_toArray]; exact hj0
      have N5 := Lib.hid n5
      have X5 := Lib.hid hx5
      rw [← hw5]
      clear hx5 n5 hw5
      refine appS (by rfl) _ _ 134 137 i2 (.agg #[.int .i64 0, .int .i64 0]) 2 16 (by rfl) Try.underlying134 hi2 hz2 hs2 hby2 rfl (by decide) False (fun kz => wo.heap.size < kz) wo wr.heap.size _ ((p.sends.take j).map fun p => [dI p.1, dI p.2]) [[dI y1, dI y2]] j 1 1 (j + 1) rfl (by exact (NN.out.f1.bld.own.later X5.out)) (by simp; rw [← Sn.out]; omega) (some ⟨wr.heap.size, 0, none⟩) (by rfl) [.int .i64 y1, .int .i64 y2] (fun a ha => by cases ha; exact N5.out) (fun e => by cases e) (by simp) rfl (by rw [List.flatten_cons, List.flatten_nil, List.append_nil]; exact consF' (.atom _ _ _ rfl) (consF' (.atom _ _ _ rfl) (hasL_nil _ _ _))) rfl (by unfold maxLen; omega) (by omega) ?_
      intro ao6 cv6 w6 hO6 hg6 hb6
      obtain ⟨hCN, hc6, hf6⟩ := NN.out.push (s := (y1, y2)) X5.out hO6 hg6 hb6
      have CN := Lib.hid hCN
      have K6 : Hid (∀ (b i : Nat) (u : Value), b < wo.heap.size → w5.cell? ⟨b, i, none⟩ = some u → w6.cell? ⟨b, i, none⟩ = some u) := Lib.hid (fun b i u hb hu => grown_at hg6 (fun e => by have := NN.out.f1.bld.inP _ e; omega) hu)
      have hz := Hsz.out
      have v0 := K6.out _ _ _ hz.2 (QS.out _ X5.out).1
      have v1 := K6.out _ _ _ (by have := Hb0.out; omega) (QS.out _ X5.out).2.1
      have v2 := K6.out _ _ _ (by have := Hsb.out; omega) (QS.out _ X5.out).2.2.1
      have v3 := K6.out _ _ _ (by have := Hsb.out; omega) (QS.out _ X5.out).2.2.2
      clear hO6 hg6 hb6 hCN hz
      refine hK.out _ _ ?_ (fun hHeld => ?_)
      ·exact ⟨v0, v1, v2, v3⟩
      clear hK K
      try simp only [Act.put, List.getElem_toArray, List.getElem_cons_zero, List.getElem_cons_succ, List.setIfInBounds_toArray, List.set_cons_zero, List.set_cons_succ]
      refine tq 25 ?_
      refine rd 26 fun K hK => ?_
      go_simp
      refine hK.out _ _ ?_ (fun hHeld => ?_)
      ·exact ⟨by rw [World.cell?_setCell_other _ _ _ _ (by have := Hsz.out; have := Hb0.out; have := Hsb.out; simp <;> omega)]; exact v0, by rw [World.cell?_setCell_other _ _ _ _ (by have := Hsz.out; have := Hb0.out; have := Hsb.out; simp <;> omega)]; exact v1, by rw [World.cell?_setCell_other _ _ _ _ (by have := Hsz.out; have := Hb0.out; have := Hsb.out; simp <;> omega)]; exact v2, by rw [World.cell?_setCell_other _ _ _ _ (by have := Hsz.out; have := Hb0.out; have := Hsb.out; simp <;> omega)]; exact v3⟩
      clear hK K
      try simp only [Act.put, List.getElem_toArray, List.getElem_cons_zero, List.getElem_cons_succ, List.setIfInBounds_toArray, List.set_cons_zero, List.set_cons_succ]
      refine wpAnyH_done (by kernel_rfl) ?_ _
      go_wp2_with fail
      go_roundw
      case rel =>
       refine ⟨j + 1, .slice ao6 (j + 1) cv6, by go_num, by omega, ?_⟩
       rw [List.take_add_one, Hq.out]
       exact CN.out
      case measure => simp [intOf]; omega
     ·go_simp
      refine hK.out _ _ ?_ (fun hHeld => ?_)
      ·exact QS.out _ (by go_grown)
      clear hK K
      try simp only [Act.put, List.getElem_toArray, List.getElem_cons_zero, List.getElem_cons_succ, List.setIfInBounds_toArray, List.set_cons_zero, List.set_cons_succ]
      refine rd 1 fun K hK => ?_
      have rr := QB.out (wr.alloc (.cells #[.int .i64 y1, .int .i64 y2] 137)).drew (show Below wr.heap.size wr (wr.alloc (.cells #[.int .i64 y1, .int .i64 y2] 137)).drew from below_drewN (below_new wr _) 1)
      go_simp
      refine hK.out _ _ ?_ (fun hHeld => ?_)
      ·exact QS.out _ (by go_grown)
      clear hK K
      try simp only [Act.put, List.getElem_toArray, List.getElem_cons_zero, List.getElem_cons_succ, List.setIfInBounds_toArray, List.set_cons_zero, List.set_cons_succ]
      refine rd 24 fun K hK => ?_
      obtain ⟨w5, hw5⟩ : ∃ w5, w5 = (wr.alloc (.cells #[.int .i64 y1, .int .i64 y2] 137)).drew := ⟨_, rfl⟩
      have hx5 : Below wr.heap.size wr w5 := by rw [hw5]; exact below_drewN (below_new wr _) 1
      have n5 : ∀ j0 u, [Value.int .i64 y1, .int .i64 y2][j0]? = some u → w5.cell? ((⟨wr.heap.size, 0, none⟩ : Addr).add j0) = some u := fun j0 u hj0 => by rw [hw5, Go.WideShapes.add_plain, Nat.zero_add]; show (World.alloc _ _).cell? _ = _; rw [World.cell?_alloc_at _ _ _ _ rfl, List.getElem?_toArray]; exact hj0
      have N5 := Lib.hid n5
      have X5 := Lib.hid hx5
      rw [← hw5]
      clear hx5 n5 hw5
      refine appS (by rfl) _ _ 134 137 i2 (.agg #[.int .i64 0, .int .i64 0]) 2 16 (by rfl) Try.underlying134 hi2 hz2 hs2 hby2 rfl (by decide) False (fun kz => wo.heap.size < kz) wo wr.heap.size _ ((p.sends.take j).map fun p => [dI p.1, dI p.2]) [[dI y1, dI y2]] j 1 1 (j + 1) rfl (by exact (NN.out.f1.bld.own.later X5.out)) (by simp; rw [← Sn.out]; omega) (some ⟨wr.heap.size, 0, none⟩) (by rfl) [.int .i64 y1, .int .i64 y2] (fun a ha => by cases ha; exact N5.out) (fun e => by cases e) (by simp) rfl (by rw [List.flatten_cons, List.flatten_nil, List.append_nil]; exact consF' (.atom _ _ _ rfl) (consF' (.atom _ _ _ rfl) (hasL_nil _ _ _))) rfl (by unfold maxLen; omega) (by omega) ?_
      intro ao6 cv6 w6 hO6 hg6 hb6
      obtain ⟨hCN, hc6, hf6⟩ := NN.out.push (s := (y1, y2)) X5.out hO6 hg6 hb6
      have CN := Lib.hid hCN
      have K6 : Hid (∀ (b i : Nat) (u : Value), b < wo.heap.size → w5.cell? ⟨b, i, none⟩ = some u → w6.cell? ⟨b, i, none⟩ = some u) := Lib.hid (fun b i u hb hu => grown_at hg6 (fun e => by have := NN.out.f1.bld.inP _ e; omega) hu)
      have hz := Hsz.out
      have v0 := K6.out _ _ _ hz.2 (QS.out _ X5.out).1
      have v1 := K6.out _ _ _ (by have := Hb0.out; omega) (QS.out _ X5.out).2.1
      have v2 := K6.out _ _ _ (by have := Hsb.out; omega) (QS.out _ X5.out).2.2.1
      have v3 := K6.out _ _ _ (by have := Hsb.out; omega) (QS.out _ X5.out).2.2.2
      clear hO6 hg6 hb6 hCN hz
      refine hK.out _ _ ?_ (fun hHeld => ?_)
      ·exact ⟨v0, v1, v2, v3⟩
      clear hK K
      try simp only [Act.put, List.getElem_toArray, List.getElem_cons_zero, List.getElem_cons_succ, List.setIfInBounds_toArray, List.set_cons_zero, List.set_cons_succ]
      refine tq 25 ?_
      refine rd 26 fun K hK => ?_
      go_simp
      refine hK.out _ _ ?_ (fun hHeld => ?_)
      ·exact ⟨by rw [World.cell?_setCell_other _ _ _ _ (by have := Hsz.out; have := Hb0.out; have := Hsb.out; simp <;> omega)]; exact v0, by rw [World.cell?_setCell_other _ _ _ _ (by have := Hsz.out; have := Hb0.out; have := Hsb.out; simp <;> omega)]; exact v1, by rw [World.cell?_setCell_other _ _ _ _ (by have := Hsz.out; have := Hb0.out; have := Hsb.out; simp <;> omega)]; exact v2, by rw [World.cell?_setCell_other _ _ _ _ (by have := Hsz.out; have := Hb0.out; have := Hsb.out; simp <;> omega)]; exact v3⟩
      clear hK K
      try simp only [Act.put, List.getElem_toArray, List.getElem_cons_zero, List.getElem_cons_succ, List.setIfInBounds_toArray, List.set_cons_zero, List.set_cons_succ]
      refine wpAnyH_done (by kernel_rfl) ?_ _
      go_wp2_with fail
      go_roundw
      case rel =>
       refine ⟨j + 1, .slice ao6 (j + 1) cv6, by go_num, by omega, ?_⟩
       rw [List.take_add_one, Hq.out]
       exact CN.out
      case measure => simp [intOf]; omega
    ·have hlj' : ¬ (j : Int) < sn := by omega
     have EndS : Hid (p.sends.take j = p.sends) := Lib.hid (List.take_of_length_le (by rw [← Sn.out]; omega))
     have hjs : j = sn := by omega
     subst hjs
     have DD := Lib.hid (CC.out.below BW.out)
     have HW9 := Lib.hid (NN.out.f1.bld.holds)
     have d2 := DD.out.f2.cell
     have dz := DD.out.f2.frz
     obtain ⟨wZ, hwZ⟩ : ∃ wZ, wZ = wr.alloc (.cells #[.int .i64 pn, .slice ua j uc] 136) := ⟨_, rfl⟩
     have hbZ : Below wr.heap.size wr wZ := by rw [hwZ]; exact below_new _ _
     have hZ := below_step BW.out.size BW.out hbZ
     have OZ := Lib.hid (CC.out.f2.bld.own.later hZ)
     have C1 := Lib.hid (show ∀ a0 : Addr, some (⟨wr.heap.size, 0, none⟩ : Addr) = some a0 → ∀ (j0 : Nat) (u : Value), [Value.int .i64 pn, .slice ua j uc][j0]? = some u → wZ.cell? (a0.add j0) = some u from fun a0 ha j0 u hj0 => by
      cases ha
      rw [hwZ, Go.WideShapes.add_plain, Nat.zero_add, World.cell?_alloc_at _ _ _ _ rfl, List.getElem?_toArray]
      exact hj0)
     have HLZ := Lib.hid (show HoldsL False (fun kz => wA.heap.size ≤ kz ∧ (Value.slice va k vc).ownBlock ≠ some kz ∧ (False → wo.heap.size ≤ kz)) wZ [.int .i64 pn, .slice ua j uc] p.d from by
      have hA := CC.out.low.1
      show HoldsL False _ wZ _ [dI p.next, dLinks p.sends]
      rw [← Pn.out]
      refine consF' (.atom _ _ _ rfl) (consF' ?_ (hasL_nil _ _ _))
      have := (HW9.out.later hbZ).wide (P' := fun kz => wA.heap.size ≤ kz ∧ (Value.slice va k vc).ownBlock ≠ some kz ∧ (False → wo.heap.size ≤ kz)) (fun kz _ (hkz : wo.heap.size < kz) => ⟨by omega, fun e => by have := CC.out.f2.bld.own.blk kz e; omega, fun f => f.elim⟩)
      unfold dLinks
      rw [← EndS.out]
      exact this)
     have WZ := Lib.hid hwZ
     have HZ := Lib.hid hZ
     clear hbZ hZ hwZ hbo
     go_wp2_with (at_builtin; go_loud (rw [← WZ.out]; refine appL rfl _ _ 96 136 i3 (.agg #[.int .i64 0, .slice none 0 0]) 2 32 rfl Try.underlying96 hi3 hz3 hs3 hby3 rfl (by decide) False (fun kz => wA.heap.size ≤ kz) w1 wo.heap.size _ ((s.picks.take k).map Pk.d) [p.d] k 1 1 (k + 1) rfl OZ.out (by simp; rw [← N2.out]; omega) (some ⟨wr.heap.size, 0, none⟩) rfl [.int .i64 pn, .slice ua j uc] C1.out (fun e => by cases e) (by simp [Pk.d]) rfl (by rw [List.flatten_cons, List.flatten_nil, List.append_nil]; exact HLZ.out) rfl (by unfold maxLen; omega) (by omega) ?_))
     intro ao cv w13 hO13 hg13 hb13
     have hO13' : Own False (fun kz => wA.heap.size ≤ kz) 136 2 w1 w13.heap.size w13 (.slice ao (k + 1) cv) ((s.picks.take k).map Pk.d ++ [p.d]) := by simpa using hO13
     obtain ⟨hD, hc13, hf13⟩ := CC.out.push (by rw [ZA.out, Z1.out]; omega) HZ.out hO13' hg13 hb13
     have DN := Lib.hid hD
     clear hO13 hO13' hg13 hb13 hD d2 dz
     go_wp2_with fail
     go_roundw
     case rel => exact ⟨k + 1, _, by go_num, by omega, by rw [List.take_add_one, Hp.out]; exact DN.out⟩
     case measure => simp [intOf]; omega
  ·have hlt' : ¬ (k : Int) < n2 := by omega
   have EndP : Hid (s.picks.take k = s.picks) := Lib.hid (List.take_of_length_le (by rw [← N2.out]; omega))
   have C2S := Lib.hid (D2.start hC (by rw [ZA.out, Z1.out]; omega))
   have HP2 := Lib.hid (hC.f2.bld.holds)
   have CX3 : Hid (∀ wr : World, SameOn (fun k => k < wo.heap.size ∧ k ≠ w.heap.size + 1 + 1) wo wr → ∀ (b i : Nat) (u : Value), b < w1.heap.size → w1.cell? ⟨b, i, none⟩ = some u → wr.cell? ⟨b, i, none⟩ = some u) := Lib.hid (fun wr hs b i u hb hu => by
    have e := CX.out wo hlow b i u hb hu
    have hlt := World.block_lt_of_cell? wo _ e
    exact (hs.cell (a := ⟨b, i, none⟩) ⟨hlt, by have := Z1.out; show b ≠ _; omega⟩ hlt).trans e)
   have CF3 : Hid (∀ wr : World, SameOn (fun k => k < wo.heap.size ∧ k ≠ w.heap.size + 1 + 1) wo wr → ∀ i : Nat, wr.frozen? ⟨w.heap.size + 1, i, none⟩ = false) := Lib.hid (fun wr hs i => by
    have hlt := World.block_lt_of_cell? wo _ (CX.out wo hlow _ _ _ (by rw [Z1.out]; omega) P0.out)
    exact (hs.frozen (a := ⟨w.heap.size + 1, i, none⟩) ⟨hlt, by show w.heap.size + 1 ≠ _; omega⟩ hlt).trans (CF.out wo hlow i))
   have Low1 := Lib.hid hlow
   clear hC hlow
   go_wp2_with fail
   clear e2
   go_loopw [7] (fun i wr => ∃ (k2 : Nat) (v3 : Value), i = .int .i64 k2 ∧ k2 ≤ n3 ∧ D2 w1 wo (w.heap.size + 1 + 1) m (.slice a1 n1 c1) v2 v3 (s.takes.take k2) wr) (fun i _ => n3 - (intOf i).toNat)
   case atStart => exact ⟨0, _, rfl, by omega, by rw [List.take_zero]; exact C2S.out⟩
   case round =>
    obtain ⟨k2, v3, rfl, hk2, hC⟩ := hrel
    have CC2 := Lib.hid hC
    have hlow := hC.low
    have e3 := CX3.out wr hlow _ _ _ (by rw [Z1.out]; omega) X3.out
    by_cases hlt2 : k2 < n3
    ·have hlt2' : (k2 : Int) < n3 := by omega
     obtain ⟨t, ht⟩ := some_of_lt (l := s.takes) (i := k2) (by rw [← N3.out]; exact hlt2)
     have hbw : Below w0.heap.size w0 wr := below_step H0.out.size H0.out (below_step G1.out.size G1.out hC.bel)
     obtain ⟨tb, tqo, tcap, e, htb, _, q0, q1, q2⟩ := tk_cells H3.out ht
     rw [← N3.out] at e
     simp only [Value.slice.injEq] at e
     obtain ⟨e, _, e'⟩ := e
     subst e e'
     have q0 := (hbw.cell (by exact htb)).trans q0
     have q1 := (hbw.cell (by exact htb)).trans q1
     have q2 := (hbw.cell (by exact htb)).trans q2
     have Ht := Lib.hid ht
     obtain ⟨t1, t2, t3⟩ := t
     simp only at q0 q1 q2
     obtain ⟨va, vc, hv3⟩ := hC.f3.bld.own.slice
     rw [List.length_map, List.length_take, ← N3.out, Nat.min_eq_left hk2] at hv3
     subst hv3
     have r3 := hC.f3.cell
     have QB : Hid (∀ w', Below wr.heap.size wr w' → w'.cell? ⟨w.heap.size + 1 + 1, 3, none⟩ = some (.slice va k2 vc)) := Lib.hid (fun w' hb => (hb.cell (World.block_lt_of_cell? wr _ r3)).trans r3)
     have QS3 : Hid (∀ w', Below wr.heap.size wr w' → w'.cell? ⟨w.heap.size, 3, none⟩ = some (.slice (some ⟨tb, tqo, none⟩) n3 c3) ∧ w'.cell? ⟨tb, tqo + k2 * 3, none⟩ = some (.int .i64 t1) ∧ w'.cell? ⟨tb, tqo + k2 * 3 + 1, none⟩ = some (.int .i64 t2) ∧ w'.cell? ⟨tb, tqo + k2 * 3 + 2, none⟩ = some (.int .i64 t3)) := Lib.hid (fun w' hb => ⟨(hb.cell (World.block_lt_of_cell? wr _ e3)).trans e3, (hb.cell (World.block_lt_of_cell? wr _ q0)).trans q0, (hb.cell (World.block_lt_of_cell? wr _ q1)).trans q1, (hb.cell (World.block_lt_of_cell? wr _ q2)).trans q2⟩)
     have HA := Lib.hid (show w.heap.size + 1 + 1 < wo.heap.size ∧ tb < w.heap.size by have := Low1.out.1; have := ZA.out; have := Z1.out; have := H0.out.size; omega)
     clear hC hlow hbw ht r3 htb
     go_wp2_with fail
     clear e3 q0 q1 q2
     refine wp_region_held_drew (S := (fun w' => w'.cell? ⟨w.heap.size, 3, none⟩ = some (.slice (some ⟨tb, tqo, none⟩) n3 c3) ∧ w'.cell? ⟨tb, tqo + k2 * 3, none⟩ = some (.int .i64 t1) ∧ w'.cell? ⟨tb, tqo + k2 * 3 + 1, none⟩ = some (.int .i64 t2) ∧ w'.cell? ⟨tb, tqo + k2 * 3 + 2, none⟩ = some (.int .i64 t3))) (by kernel_rfl) ?_ (fun hHeld => ?_)
     ·exact QS3.out _ (by go_grown)
     refine tq 0 ?_
     refine tq 2 ?_
     refine tq 3 ?_
     refine tq 4 ?_
     refine tq 5 ?_
     refine tq 6 ?_
     refine tq 7 ?_
     refine tq 8 ?_
     refine tq 9 ?_
     refine tq 10 ?_
     refine tq 11 ?_
     refine tq 12 ?_
     refine tq 13 ?_
     refine tq 14 ?_
     refine tq 15 ?_
     refine tq 16 ?_
     refine tq 17 ?_
     refine tq 18 ?_
     refine tq 19 ?_
     refine tq 20 ?_
     refine wpAnyH_ready (rs := [1, 21]) (by kernel_rfl) (by simp) ?_
     refine AllReadyH.cons rfl (fun K hK => ?_) (AllReadyH.cons rfl (fun K hK => ?_) AllReadyH.nil)
     ·have rr := QB.out wr.drew (show Below wr.heap.size wr wr.drew from below_drewN (Below.refl _ wr) 1)
      go_simp
      refine hK.out _ _ ?_ (fun hHeld => ?_)
      ·exact QS3.out _ (by go_grown)
      clear hK K
      try simp only [Act.put, List.getElem_toArray, List.getElem_cons_zero, List.getElem_cons_succ, List.setIfInBounds_toArray, List.set_cons_zero, List.set_cons_succ]
      refine rd 21 fun K hK => ?_
      go_simp
      refine hK.out _ _ ?_ (fun hHeld => ?_)
      ·exact QS3.out _ (by go_grown)
      clear hK K
      try simp only [Act.put, List.getElem_toArray, List.getElem_cons_zero, List.getElem_cons_succ, List.setIfInBounds_toArray, List.set_cons_zero, List.set_cons_succ]
      refine rd 22 fun K hK => ?_
      obtain ⟨w5, hw5⟩ : ∃ w5, w5 = (wr.alloc (.cells #[.int .i64 t1, .int .i64 t2, .int .i64 t3] 138)).drew := ⟨_, rfl⟩
      have hx5 : Below wr.heap.size wr w5 := by rw [hw5]; exact below_drewN (below_new wr _) 1
      have n5 : ∀ j u, [Value.int .i64 t1, .int .i64 t2, .int .i64 t3][j]? = some u → w5.cell? ((⟨wr.heap.size, 0, none⟩ : Addr).add j) = some u := fun j u hj => by rw [hw5, Go.WideShapes.add_plain, Nat.zero_add]; show (World.alloc _ _).cell? _ = _; rw [World.cell?_alloc_at _ _ _ _ rfl, List.getElem?_toArray]; exact hj
      have N5 := Lib.hid n5
      have X5 := Lib.hid hx5
      rw [← hw5]
      clear hx5 n5 hw5
      refine appS (by rfl) _ _ 97 138 i4 (.agg #[.int .i64 0, .int .i64 0, .int .i64 0]) 3 24 (by rfl) Try.underlying97 hi4 hz4 hs4 hby4 rfl (by decide) False (fun k => wo.heap.size ≤ k) w1 wr.heap.size _ ((s.takes.take k2).map Tk.d) [(Tk.mk t1 t2 t3).d] k2 1 1 (k2 + 1) rfl (by exact (CC2.out.f3.bld.own.later X5.out)) (by simp; rw [← N3.out]; omega) (some ⟨wr.heap.size, 0, none⟩) (by rfl) [.int .i64 t1, .int .i64 t2, .int .i64 t3] (fun a ha => by cases ha; exact N5.out) (fun e => by cases e) (by simp [Tk.d]) rfl (by rw [List.flatten_cons, List.flatten_nil, List.append_nil]; exact consF' (.atom _ _ _ rfl) (consF' (.atom _ _ _ rfl) (consF' (.atom _ _ _ rfl) (hasL_nil _ _ _)))) rfl (by unfold maxLen; omega) (by omega) ?_
      intro ao6 cv6 w6 hO6 hg6 hb6
      obtain ⟨hCN, hc6, hf6⟩ := CC2.out.push HA.out.1 X5.out hO6 hg6 hb6
      have CN := Lib.hid hCN
      have K6 : Hid (∀ (b i : Nat) (u : Value), b < wo.heap.size → w5.cell? ⟨b, i, none⟩ = some u → w6.cell? ⟨b, i, none⟩ = some u) := Lib.hid (fun b i u hb hu => grown_at hg6 (fun e => by have := CC2.out.f3.bld.inP _ e; omega) hu)
      have hz := HA.out
      have v0 := K6.out _ _ _ (by omega) (QS3.out _ X5.out).1
      have v1' := K6.out _ _ _ (by omega) (QS3.out _ X5.out).2.1
      have v2' := K6.out _ _ _ (by omega) (QS3.out _ X5.out).2.2.1
      have v3' := K6.out _ _ _ (by omega) (QS3.out _ X5.out).2.2.2
      clear hO6 hg6 hb6 hCN hz
      refine hK.out _ _ ?_ (fun hHeld => ?_)
      ·exact ⟨v0, v1', v2', v3'⟩
      clear hK K
      try simp only [Act.put, List.getElem_toArray, List.getElem_cons_zero, List.getElem_cons_succ, List.setIfInBounds_toArray, List.set_cons_zero, List.set_cons_succ]
      refine tq 23 ?_
      refine rd 24 fun K hK => ?_
      go_simp
      refine hK.out _ _ ?_ (fun hHeld => ?_)
      ·exact ⟨by rw [World.cell?_setCell_other _ _ _ _ (by have := HA.out; simp <;> omega)]; exact v0, by rw [World.cell?_setCell_other _ _ _ _ (by have := HA.out; simp <;> omega)]; exact v1', by rw [World.cell?_setCell_other _ _ _ _ (by have := HA.out; simp <;> omega)]; exact v2', by rw [World.cell?_setCell_other _ _ _ _ (by have := HA.out; simp <;> omega)]; exact v3'⟩
      clear hK K
      try simp only [Act.put, List.getElem_toArray, List.getElem_cons_zero, List.getElem_cons_succ, List.setIfInBounds_toArray, List.set_cons_zero, List.set_cons_succ]
      refine wpAnyH_done (by kernel_rfl) ?_ _
      go_wp2_with fail
      go_roundw
      case rel =>
       refine ⟨k2 + 1, .slice ao6 (k2 + 1) cv6, by go_num, by omega, ?_⟩
       rw [List.take_add_one, Ht.out]
       exact CN.out
      case measure => simp [intOf]; omega
     ·go_simp
      refine hK.out _ _ ?_ (fun hHeld => ?_)
      ·exact QS3.out _ (by go_grown)
      clear hK K
      try simp only [Act.put, List.getElem_toArray, List.getElem_cons_zero, List.getElem_cons_succ, List.setIfInBounds_toArray, List.set_cons_zero, List.set_cons_succ]
      refine rd 1 fun K hK => ?_
      have rr := QB.out (wr.alloc (.cells #[.int .i64 t1, .int .i64 t2, .int .i64 t3] 138)).drew (show Below wr.heap.size wr (wr.alloc (.cells #[.int .i64 t1, .int .i64 t2, .int .i64 t3] 138)).drew from below_drewN (below_new wr _) 1)
      go_simp
      refine hK.out _ _ ?_ (fun hHeld => ?_)
      ·exact QS3.out _ (by go_grown)
      clear hK K
      try simp only [Act.put, List.getElem_toArray, List.getElem_cons_zero, List.getElem_cons_succ, List.setIfInBounds_toArray, List.set_cons_zero, List.set_cons_succ]
      refine rd 22 fun K hK => ?_
      obtain ⟨w5, hw5⟩ : ∃ w5, w5 = (wr.alloc (.cells #[.int .i64 t1, .int .i64 t2, .int .i64 t3] 138)).drew := ⟨_, rfl⟩
      have hx5 : Below wr.heap.size wr w5 := by rw [hw5]; exact below_drewN (below_new wr _) 1
      have n5 : ∀ j u, [Value.int .i64 t1, .int .i64 t2, .int .i64 t3][j]? = some u → w5.cell? ((⟨wr.heap.size, 0, none⟩ : Addr).add j) = some u := fun j u hj => by rw [hw5, Go.WideShapes.add_plain, Nat.zero_add]; show (World.alloc _ _).cell? _ = _; rw [World.cell?_alloc_at _ _ _ _ rfl, List.getElem?_toArray]; exact hj
      have N5 := Lib.hid n5
      have X5 := Lib.hid hx5
      rw [← hw5]
      clear hx5 n5 hw5
      refine appS (by rfl) _ _ 97 138 i4 (.agg #[.int .i64 0, .int .i64 0, .int .i64 0]) 3 24 (by rfl) Try.underlying97 hi4 hz4 hs4 hby4 rfl (by decide) False (fun k => wo.heap.size ≤ k) w1 wr.heap.size _ ((s.takes.take k2).map Tk.d) [(Tk.mk t1 t2 t3).d] k2 1 1 (k2 + 1) rfl (by exact (CC2.out.f3.bld.own.later X5.out)) (by simp; rw [← N3.out]; omega) (some ⟨wr.heap.size, 0, none⟩) (by rfl) [.int .i64 t1, .int .i64 t2, .int .i64 t3] (fun a ha => by cases ha; exact N5.out) (fun e => by cases e) (by simp [Tk.d]) rfl (by rw [List.flatten_cons, List.flatten_nil, List.append_nil]; exact consF' (.atom _ _ _ rfl) (consF' (.atom _ _ _ rfl) (consF' (.atom _ _ _ rfl) (hasL_nil _ _ _)))) rfl (by unfold maxLen; omega) (by omega) ?_
      intro ao6 cv6 w6 hO6 hg6 hb6
      obtain ⟨hCN, hc6, hf6⟩ := CC2.out.push HA.out.1 X5.out hO6 hg6 hb6
      have CN := Lib.hid hCN
      have K6 : Hid (∀ (b i : Nat) (u : Value), b < wo.heap.size → w5.cell? ⟨b, i, none⟩ = some u → w6.cell? ⟨b, i, none⟩ = some u) := Lib.hid (fun b i u hb hu => grown_at hg6 (fun e => by have := CC2.out.f3.bld.inP _ e; omega) hu)
      have hz := HA.out
      have v0 := K6.out _ _ _ (by omega) (QS3.out _ X5.out).1
      have v1' := K6.out _ _ _ (by omega) (QS3.out _ X5.out).2.1
      have v2' := K6.out _ _ _ (by omega) (QS3.out _ X5.out).2.2.1
      have v3' := K6.out _ _ _ (by omega) (QS3.out _ X5.out).2.2.2
      clear hO6 hg6 hb6 hCN hz
      refine hK.out _ _ ?_ (fun hHeld => ?_)
      ·exact ⟨v0, v1', v2', v3'⟩
      clear hK K
      try simp only [Act.put, List.getElem_toArray, List.getElem_cons_zero, List.getElem_cons_succ, List.setIfInBounds_toArray, List.set_cons_zero, List.set_cons_succ]
      refine tq 23 ?_
      refine rd 24 fun K hK => ?_
      go_simp
      refine hK.out _ _ ?_ (fun hHeld => ?_)
      ·exact ⟨by rw [World.cell?_setCell_other _ _ _ _ (by have := HA.out; simp <;> omega)]; exact v0, by rw [World.cell?_setCell_other _ _ _ _ (by have := HA.out; simp <;> omega)]; exact v1', by rw [World.cell?_setCell_other _ _ _ _ (by have := HA.out; simp <;> omega)]; exact v2', by rw [World.cell?_setCell_other _ _ _ _ (by have := HA.out; simp <;> omega)]; exact v3'⟩
      clear hK K
      try simp only [Act.put, List.getElem_toArray, List.getElem_cons_zero, List.getElem_cons_succ, List.setIfInBounds_toArray, List.set_cons_zero, List.set_cons_succ]
      refine wpAnyH_done (by kernel_rfl) ?_ _
      go_wp2_with fail
      go_roundw
      case rel =>
       refine ⟨k2 + 1, .slice ao6 (k2 + 1) cv6, by go_num, by omega, ?_⟩
       rw [List.take_add_one, Ht.out]
       exact CN.out
      case measure => simp [intOf]; omega
    ·have hlt2' : ¬ (k2 : Int) < n3 := by omega
     have EndT : Hid (s.takes.take k2 = s.takes) := Lib.hid (List.take_of_length_le (by rw [← N3.out]; omega))
     have hC := CC2.out
     have y0 := hC.y0
     have y1 := hC.y1
     have y2 := hC.y2
     have y3 := hC.f3.cell
     have p0 := CX3.out wr hlow _ _ _ (by rw [Z1.out]; omega) P0.out
     have p1 := CX3.out wr hlow _ _ _ (by rw [Z1.out]; omega) P1.out
     have p2 := CX3.out wr hlow _ _ _ (by rw [Z1.out]; omega) P2.out
     have p3 := CX3.out wr hlow _ _ _ (by rw [Z1.out]; omega) P3.out
     have f0 := CF3.out wr hlow 0
     have f1 := CF3.out wr hlow 1
     have f2 := CF3.out wr hlow 2
     have f3 := CF3.out wr hlow 3
     obtain ⟨va2, vc2, l2, hv2⟩ : ∃ a c l, v2 = .slice a l c := by obtain ⟨a, c, e⟩ := Holds.len HP2.out; exact ⟨a, c, _, e⟩
     obtain ⟨va3, vc3, l3, hv3⟩ : ∃ a c l, v3 = .slice a l c := by obtain ⟨a, c, e⟩ := hC.f3.bld.own.slice; exact ⟨a, c, _, e⟩
     have Low2 := Lib.hid hlow
     clear hC hlow
     subst hv2 hv3
     go_wp2_with fail
     refine bodyPost_ret (v := .agg #[.int .i64 m, .slice a1 n1 c1, .slice va2 l2 vc2, .slice va3 l3 vc3]) (by simp [results, Try.results41, go_sem, p0, p1, p2, p3]) rfl ⟨_, rfl, ?_, ?_⟩
     ·have hz1 := Z1.out
      have hzA := ZA.out
      have hl1 := Low1.out.1
      have hl2 := Low2.out.1
      have hz0 := H0.out.size
      have K : ∀ Q : Nat → Prop, (∀ k, Q k → k ≠ w.heap.size + 1) → SameOn Q wr ((((wr.setCell ⟨w.heap.size + 1, 0, none⟩ (.int .i64 m)).setCell ⟨w.heap.size + 1, 1, none⟩ (.slice a1 n1 c1)).setCell ⟨w.heap.size + 1, 2, none⟩ (.slice va2 l2 vc2)).setCell ⟨w.heap.size + 1, 3, none⟩ (.slice va3 l3 vc3)) := fun Q hQ =>
       ((((SameOn.refl _ _).set _ _ (fun h => hQ _ h rfl)).set _ _ (fun h => hQ _ h rfl)).set _ _ (fun h => hQ _ h rfl)).set _ _ (fun h => hQ _ h rfl)
      have hw0 : Holds False (fun k => k < w0.heap.size) w0 (.slice a1 n1 c1) (dInts s.waits) := H1.out.wide (fun b hb _ => hb)
      have hbr := below_step H0.out.size H0.out (below_step G1.out.size G1.out CC2.out.bel)
      have hw := ((hw0.later hbr).same (K _ fun k hk => by omega)).wide (P' := fun k => k < w0.heap.size ∨ w.heap.size ≤ k) (fun b _ p => .inl p)
      have hp := HP2.out.wide (P' := fun k => wA.heap.size ≤ k ∧ k < wo.heap.size) (fun b hb p => ⟨p, hb⟩)
      have hp := ((hp.same (Low2.out.sub fun k hk => ⟨hk.2, by omega⟩)).same (K _ fun k hk => by omega)).wide (P' := fun k => k < w0.heap.size ∨ w.heap.size ≤ k) (fun b _ p => .inr (by omega))
      have ht := ((CC2.out.f3.bld.holds).same (K _ fun k hk => by omega)).wide (P' := fun k => k < w0.heap.size ∨ w.heap.size ≤ k) (fun b _ (p : wo.heap.size ≤ b) => .inr (by omega))
      rw [EndP.out] at hp
      rw [EndT.out] at ht
      show HoldsL False _ _ _ [dI s.mode, dInts s.waits, dPicks s.picks, dTakes s.takes]
      rw [← Hm.out]
      exact consF' (.atom _ _ _ rfl) (consF' hw (consF' hp (consF' ht (hasL_nil _ _ _))))
     ·have hz1 := Z1.out
      have hb := below_step G1.out.size G1.out CC2.out.bel
      exact (((hb.setCell (by simp) _).setCell (by simp) _).setCell (by simp) _).setCell (by simp) _
end Go.Proofs.Ytennbiajnkobnaa

