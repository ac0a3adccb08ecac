/- Texts put together. -/
import Derived.Test.YtiblcpkejhiehaaQ00
import Derived.Test.YtiblcpkejhiehaaQ01
import Derived.Test.YtiblcpkejhiehaaQ03
import Derived.Test.YtiblcpkejhiehaaQ04
import Derived.Test.YtiblcpkejhiehaaQ05
import Derived.Test.YtiblcpkejhiehaaQ06
import Derived.Lib.SmallJoins
set_option linter.unusedSimpArgs false
namespace Go.Proofs.Ytiblcpkejhiehaa
open Go.RowKit Go.PlainAid
theorem infoRSend : (Try.prog.info? 140).map (fun i => (i.zero, i.size, i.bytes)) = some (some (.agg #[.int .i64 0, .int .i64 0]), 2, 16) := by kernel_rfl
theorem infoRPk : (Try.prog.info? 139).map (fun i => (i.zero, i.size, i.bytes)) = some (some (.agg #[.int .i64 0, .slice none 0 0]), 2, 32) := by kernel_rfl
theorem infoRTk : (Try.prog.info? 141).map (fun i => (i.zero, i.size, i.bytes)) = some (some (.agg #[.int .i64 0, .int .i64 0, .int .i64 0]), 3, 24) := by kernel_rfl
theorem consF' {P : Nat → Prop} {w : World} {c : Value} {cs : List Value} {d : D} {ds : List D} (h : Holds False P w c d) (h' : HoldsL False P w cs ds) : HoldsL False P w (c :: cs) (d :: ds) := by
 obtain ⟨h1, fp, h2, h3, h4⟩ := h'
 refine ⟨by simp [h1], fun _ => P, fun _ _ h => h, fun s => s.elim, fun j c' d' hc hd => ?_⟩
 cases j with
 | zero => simp at hc hd; subst hc hd; exact h
 | succ j => exact (h4 j c' d' (by simpa using hc) (by simpa using hd)).wide (fun b _ p => h2 _ _ p)
/-- While picks, then takes, are copied. -/
structure D1 (w1 wA : World) (b3 : Nat) (m : Int) (v1 v2 : Value) (ps : List Pk) (wr : World) : Prop where
 bel : Below w1.heap.size w1 wr
 low : SameOn (fun k => k < wA.heap.size ∧ k ≠ b3) wA wr
 y0 : wr.cell? ⟨b3, 0, none⟩ = some (.int .i64 m)
 y1 : wr.cell? ⟨b3, 1, none⟩ = some v1
 y3 : wr.cell? ⟨b3, 3, none⟩ = some (.slice none 0 0)
 z3 : wr.frozen? ⟨b3, 3, none⟩ = false
 f2 : Fld False (fun k => wA.heap.size ≤ k) 139 2 w1 wr b3 2 v2 (ps.map Pk.d)
structure D2 (w1 wB : World) (b3 : Nat) (m : Int) (v1 v2 v3 : Value) (ts : List Tk) (wr : World) : Prop where
 bel : Below w1.heap.size w1 wr
 low : SameOn (fun k => k < wB.heap.size ∧ k ≠ b3) wB wr
 y0 : wr.cell? ⟨b3, 0, none⟩ = some (.int .i64 m)
 y1 : wr.cell? ⟨b3, 1, none⟩ = some v1
 y2 : wr.cell? ⟨b3, 2, none⟩ = some v2
 f3 : Fld False (fun k => wB.heap.size ≤ k) 141 3 w1 wr b3 3 v3 (ts.map Tk.d)
theorem D1.start (w1 : World) (m : Int) (v1 : Value) (T : TypeId) : D1 w1 (w1.alloc (.cells #[.int .i64 m, v1, .slice none 0 0, .slice none 0 0] T)) w1.heap.size m v1 (.slice none 0 0) [] (w1.alloc (.cells #[.int .i64 m, v1, .slice none 0 0, .slice none 0 0] T)) :=
 ⟨below_new _ _, SameOn.refl _ _, World.cell?_alloc_at _ _ _ _ rfl, World.cell?_alloc_at _ _ _ _ rfl, World.cell?_alloc_at _ _ _ _ rfl, frozen_new _ _ _ _, ⟨World.cell?_alloc_at _ _ _ _ rfl, frozen_new _ _ _ _, ⟨Own.nil (below_new _ _), fun k hk => by simp [Value.ownBlock] at hk⟩, by simp, Nat.le_refl _⟩⟩
theorem D2.start {w1 wA wr : World} {b3 : Nat} {m : Int} {v1 v2 : Value} {ps : List Pk} (h : D1 w1 wA b3 m v1 v2 ps wr) (hb : b3 < wA.heap.size) : D2 w1 wr b3 m v1 v2 (.slice none 0 0) [] wr :=
 ⟨h.bel, SameOn.refl _ _, h.y0, h.y1, h.f2.cell, ⟨h.y3, h.z3, ⟨Own.nil h.bel, fun k hk => by simp [Value.ownBlock] at hk⟩, by have := h.low.1; omega, h.f2.ge⟩⟩
theorem D1.below {w1 wA w w' : World} {b3 : Nat} {m : Int} {v1 v2 : Value} {ps : List Pk} (h : D1 w1 wA b3 m v1 v2 ps w) (hb : Below w.heap.size w w') : D1 w1 wA b3 m v1 v2 ps w' := by
 have k := fun (p : Addr) (v : Value) (e : w.cell? p = some v) => (hb.cell (World.block_lt_of_cell? w _ e)).trans e
 exact ⟨below_step h.bel.size h.bel hb, h.low.trans ((SameOn.of_below hb).sub fun _ p => p), k _ _ h.y0, k _ _ h.y1, k _ _ h.y3, (hb.frozen (World.block_lt_of_cell? w _ h.y3)).trans h.z3, h.f2.below hb⟩
theorem D2.below {w1 wB w w' : World} {b3 : Nat} {m : Int} {v1 v2 v3 : Value} {ts : List Tk} (h : D2 w1 wB b3 m v1 v2 v3 ts w) (hb : Below w.heap.size w w') : D2 w1 wB b3 m v1 v2 v3 ts w' := by
 have k := fun (p : Addr) (v : Value) (e : w.cell? p = some v) => (hb.cell (World.block_lt_of_cell? w _ e)).trans e
 exact ⟨below_step h.bel.size h.bel hb, h.low.trans ((SameOn.of_below hb).sub fun _ p => p), k _ _ h.y0, k _ _ h.y1, k _ _ h.y2, h.f3.below hb⟩
theorem D1.push {w1 wA w w5 w6 : World} {b3 : Nat} {m : Int} {v1 v2 v2' : Value} {ps : List Pk} {p : Pk} (h : D1 w1 wA b3 m v1 v2 ps w) (hbA : b3 < wA.heap.size) (hb : Below w.heap.size w w5) (hO : Own False (fun k => wA.heap.size ≤ k) 139 2 w1 w6.heap.size w6 v2' (ps.map Pk.d ++ [p.d])) (hg : w5.grownBy w6 v2.ownBlock)
  (hv : v2'.ownBlock = v2.ownBlock ∨ v2'.ownBlock = some w5.heap.size) : D1 w1 wA b3 m v1 v2' (ps ++ [p]) (w6.setCell ⟨b3, 2, none⟩ v2') ∧ w6.cell? ⟨b3, 2, none⟩ = some v2 ∧ w6.frozen? ⟨b3, 2, none⟩ = false := by
 have h5 := h.below hb
 have hAw : wA.heap.size ≤ w5.heap.size := h5.low.1
 obtain ⟨a1, a2, a3, a4, a5, a6, a7⟩ := h.f2.push hb hO hg hv hAw
 have hlow := a5 (fun k => k < wA.heap.size ∧ k ≠ b3) (fun k hk => by omega) (fun hk => hk.2 rfl)
 have hb5 := World.block_lt_of_cell? w5 _ h5.y3
 refine ⟨⟨a4, h5.low.trans hlow, a6 _ _ h5.y0 (by simp; omega) (by simp), a6 _ _ h5.y1 (by simp; omega) (by simp), a6 _ _ h5.y3 (by simp; omega) (by simp), (a7 _ hb5 (by simp; omega)).trans h5.z3, ?_⟩, a2, a3⟩
 rw [List.map_append]; exact a1
theorem D2.push {w1 wB w w5 w6 : World} {b3 : Nat} {m : Int} {v1 v2 v3 v3' : Value} {ts : List Tk} {t : Tk} (h : D2 w1 wB b3 m v1 v2 v3 ts w) (hbB : b3 < wB.heap.size) (hb : Below w.heap.size w w5) (hO : Own False (fun k => wB.heap.size ≤ k) 141 3 w1 w6.heap.size w6 v3' (ts.map Tk.d ++ [t.d])) (hg : w5.grownBy w6 v3.ownBlock)
  (hv : v3'.ownBlock = v3.ownBlock ∨ v3'.ownBlock = some w5.heap.size) : D2 w1 wB b3 m v1 v2 v3' (ts ++ [t]) (w6.setCell ⟨b3, 3, none⟩ v3') ∧ w6.cell? ⟨b3, 3, none⟩ = some v3 ∧ w6.frozen? ⟨b3, 3, none⟩ = false := by
 have h5 := h.below hb
 have hAw : wB.heap.size ≤ w5.heap.size := h5.low.1
 obtain ⟨a1, a2, a3, a4, a5, a6, a7⟩ := h.f3.push hb hO hg hv hAw
 have hlow := a5 (fun k => k < wB.heap.size ∧ k ≠ b3) (fun k hk => by omega) (fun hk => hk.2 rfl)
 refine ⟨⟨a4, h5.low.trans hlow, a6 _ _ h5.y0 (by simp; omega) (by simp), a6 _ _ h5.y1 (by simp; omega) (by simp), a6 _ _ h5.y2 (by simp; omega) (by simp), ?_⟩, a2, a3⟩
 rw [List.map_append]; exact a1
/-- A pick's box while its sends are copied. -/
structure PkB (wo : World) (q : Int) (v : Value) (ss : Lks) (wr : World) : Prop where
 c0 : wr.cell? ⟨wo.heap.size, 0, none⟩ = some (.int .i64 q)
 f1 : Fld False (fun k => wo.heap.size < k) 140 2 wo wr wo.heap.size 1 v (ss.map fun p => [dI p.1, dI p.2])
theorem PkB.start (wo : World) (q : Int) : PkB wo q (.slice none 0 0) [] (wo.alloc (.cells #[.int .i64 q, .slice none 0 0] 139)) :=
 ⟨World.cell?_alloc_at _ _ _ _ rfl, ⟨World.cell?_alloc_at _ _ _ _ rfl, frozen_new _ _ _ _, ⟨Own.nil (below_new _ _), fun k hk => by simp [Value.ownBlock] at hk⟩, by omega, Nat.le_refl _⟩⟩
theorem PkB.below {wo : World} {q : Int} {v : Value} {ss : Lks} {w w' : World} (h : PkB wo q v ss w) (hb : Below w.heap.size w w') : PkB wo q v ss w' :=
 ⟨(hb.cell (World.block_lt_of_cell? w _ h.c0)).trans h.c0, h.f1.below hb⟩
theorem PkB.push {wo : World} {q : Int} {v v' : Value} {ss : Lks} {s : Int × Int} {w w5 w6 : World} (h : PkB wo q v ss w) (hb : Below w.heap.size w w5) (hO : Own False (fun k => wo.heap.size < k) 140 2 wo w6.heap.size w6 v' (ss.map (fun p => [dI p.1, dI p.2]) ++ [[dI s.1, dI s.2]]))
  (hg : w5.grownBy w6 v.ownBlock) (hv : v'.ownBlock = v.ownBlock ∨ v'.ownBlock = some w5.heap.size) : PkB wo q v' (ss ++ [s]) (w6.setCell ⟨wo.heap.size, 1, none⟩ v') ∧ w6.cell? ⟨wo.heap.size, 1, none⟩ = some v ∧ w6.frozen? ⟨wo.heap.size, 1, none⟩ = false := by
 have h5 := h.below hb
 have hlt : wo.heap.size < w5.heap.size := World.block_lt_of_cell? w5 _ h5.c0
 obtain ⟨a1, a2, a3, a4, a5, a6, a7⟩ := h.f1.push hb hO hg hv hlt
 refine ⟨⟨a6 _ _ h5.c0 (by simp) (by simp), ?_⟩, a2, a3⟩
 rw [List.map_append]; exact a1
set_option maxHeartbeats 8000000 in
set_option maxRecDepth 100000 in
theorem state_in (s : St) (v : Value) (w0 w : World) (h : IsSt w0 s v) (h0 : Below w0.heap.size w0 w) (hsm : SmallSt s) :
  Calls Try.prog 45 #[v] w fun e w' => ∃ cs, e = .returned (.agg ⟨cs⟩) ∧ HoldsL False (fun k => k < w0.heap.size ∨ w.heap.size ≤ k) w' cs s.d ∧ Below w.heap.size w w' := by
 obtain ⟨a1, c1, a2, c2, a3, c3, rfl, h1, h2, h3⟩ := isSt_open h
 obtain ⟨n1, hn1⟩ : ∃ n1, n1 = s.waits.length := ⟨_, rfl⟩
 obtain ⟨n2, hn2⟩ : ∃ n2, n2 = s.picks.length := ⟨_, rfl⟩
 obtain ⟨n3, hn3⟩ : ∃ n3, n3 = s.takes.length := ⟨_, rfl⟩
 obtain ⟨m, hm⟩ : ∃ m, m = s.mode := ⟨_, rfl⟩
 rw [← hn1] at h1 ⊢
 rw [← hn2] at h2 ⊢
 rw [← hn3] at h3 ⊢
 rw [← hm]
 obtain ⟨i2, hi2, hz2, hs2, hby2⟩ := info_parts infoRSend
 obtain ⟨i3, hi3, hz3, hs3, hby3⟩ := info_parts infoRPk
 obtain ⟨i4, hi4, hz4, hs4, hby4⟩ := info_parts infoRTk
 have h26 : n2 ≤ 1000000 := by rw [hn2]; exact hsm.2.1
 have h36 : n3 ≤ 1000000 := by rw [hn3]; exact hsm.2.2.1
 have HSM := Lib.hid hsm
 have Hm := Lib.hid hm
 have N2 := Lib.hid hn2
 have N3 := Lib.hid hn3
 have H1 := Lib.hid h1
 have H2 := Lib.hid h2
 have H3 := Lib.hid h3
 have H0 := Lib.hid h0
 obtain ⟨w1, hw1⟩ : ∃ w1, w1 = (w.alloc (.cells #[.int .i64 m, .slice a1 n1 c1, .slice a2 n2 c2, .slice a3 n3 c3] 111)).alloc (.cells #[.int .i64 0, .slice none 0 0, .slice none 0 0, .slice none 0 0] 104) := ⟨_, rfl⟩
 have g1 : Below w.heap.size w w1 := by rw [hw1]; go_grown
 have x0 : w1.cell? ⟨w.heap.size, 0, none⟩ = some (.int .i64 m) := by rw [hw1]; go_cell
 have x1 : w1.cell? ⟨w.heap.size, 1, none⟩ = some (.slice a1 n1 c1) := by rw [hw1]; go_cell
 have x2 : w1.cell? ⟨w.heap.size, 2, none⟩ = some (.slice a2 n2 c2) := by rw [hw1]; go_cell
 have x3 : w1.cell? ⟨w.heap.size, 3, none⟩ = some (.slice a3 n3 c3) := by rw [hw1]; go_cell
 have p0 : w1.cell? ⟨w.heap.size + 1, 0, none⟩ = some (.int .i64 0) := by rw [hw1]; go_cell
 have p1 : w1.cell? ⟨w.heap.size + 1, 1, none⟩ = some (.slice none 0 0) := by rw [hw1]; go_cell
 have p2 : w1.cell? ⟨w.heap.size + 1, 2, none⟩ = some (.slice none 0 0) := by rw [hw1]; go_cell
 have p3 : w1.cell? ⟨w.heap.size + 1, 3, none⟩ = some (.slice none 0 0) := by rw [hw1]; go_cell
 have pf : ∀ i, w1.frozen? ⟨w.heap.size + 1, i, none⟩ = false := fun i => by
  rw [hw1, show w.heap.size + 1 = (w.alloc (.cells #[.int .i64 m, .slice a1 n1 c1, .slice a2 n2 c2, .slice a3 n3 c3] 111)).heap.size by simp]
  exact frozen_new _ _ _ _
 have z1 : w1.heap.size = w.heap.size + 1 + 1 := by rw [hw1]; simp
 obtain ⟨wA, hwA⟩ : ∃ wA, wA = w1.alloc (.cells #[.int .i64 m, .slice a1 n1 c1, .slice none 0 0, .slice none 0 0] 104) := ⟨_, rfl⟩
 have CS := Lib.hid (show D1 w1 wA (w.heap.size + 1 + 1) m (.slice a1 n1 c1) (.slice none 0 0) [] wA by rw [hwA, ← z1]; exact D1.start _ _ _ _)
 have zA : wA.heap.size = w1.heap.size + 1 := by rw [hwA]; simp
 have gA : Below w1.heap.size w1 wA := by rw [hwA]; exact below_new _ _
 have CX : Hid (∀ wr : World, SameOn (fun k => k < wA.heap.size ∧ k ≠ w.heap.size + 1 + 1) wA wr → ∀ (b i : Nat) (u : Value), b < w1.heap.size → w1.cell? ⟨b, i, none⟩ = some u → wr.cell? ⟨b, i, none⟩ = some u) := Lib.hid (fun wr hs b i u hb hu => by
  have e := (gA.cell (by exact hb)).trans hu
  exact (hs.cell (a := ⟨b, i, none⟩) ⟨by show b < _; omega, by show b ≠ _; omega⟩ (by show b < _; omega)).trans e)
 have CF : Hid (∀ wr : World, SameOn (fun k => k < wA.heap.size ∧ k ≠ w.heap.size + 1 + 1) wA wr → ∀ i : Nat, wr.frozen? ⟨w.heap.size + 1, i, none⟩ = false) := Lib.hid (fun wr hs i =>
  ((hs.frozen (a := ⟨w.heap.size + 1, i, none⟩) ⟨by show w.heap.size + 1 < _; omega, by show w.heap.size + 1 ≠ _; omega⟩ (by show w.heap.size + 1 < _; omega)).trans (gA.frozen (by show w.heap.size + 1 < _; omega))).trans (pf i))
 have Z1 := Lib.hid z1
 have ZA := Lib.hid zA
 have X2 := Lib.hid x2
 have X3 := Lib.hid x3
 have P0 := Lib.hid p0
 have P1 := Lib.hid p1
 have P2 := Lib.hid p2
 have P3 := Lib.hid p3
 have G1 := Lib.hid g1
 clear h h0 hsm hm hn1 hn2 hn3 h1 h2 h3 pf p0 p1 p2 p3 x2 x3 g1 gA z1 zA
 go_enter Try.func45, Try.ntmps45
 try simp only [List.append_eq, List.cons_append, List.nil_append]
 go_wp2_with fail
 rw [← hw1]
 try rw [← hwA]
 clear hw1 hwA x0 x1
 try go_wp2_with fail
 go_loopw [4] (fun i wr => ∃ (k : Nat) (v2 : Value), i = .int .i64 k ∧ k ≤ n2 ∧ D1 w1 wA (w.heap.size + 1 + 1) m (.slice a1 n1 c1) v2 (s.picks.take k) wr) (fun i _ => n2 - (intOf i).toNat)
 case atStart => exact ⟨0, _, rfl, by omega, by rw [List.take_zero]; exact CS.out⟩
 case round =>
  obtain ⟨k, v2, rfl, hk, hC⟩ := hrel
  obtain ⟨wo, hwo⟩ : ∃ wo, wo = wr := ⟨_, rfl⟩
  subst hwo
  have CC := Lib.hid hC
  have hlow := hC.low
  have e2 := CX.out wo hlow _ _ _ (by rw [Z1.out]; omega) X2.out
  by_cases hlt : k < n2
  ·have hlt' : (k : Int) < n2 := by omega
   obtain ⟨p, hp⟩ := some_of_lt (l := s.picks) (i := k) (by rw [← N2.out]; exact hlt)
   have hbw : Below w0.heap.size w0 wo := below_step H0.out.size H0.out (below_step G1.out.size G1.out hC.bel)
   obtain ⟨b, off, cap, sv, e, hb, _, q0, q1, hsv⟩ := pk_cells H2.out hp
   rw [← N2.out] at e
   simp only [Value.slice.injEq] at e
   obtain ⟨e, _, e'⟩ := e
   subst e e'
   obtain ⟨sa, sc, rfl⟩ := slice_of hsv
   obtain ⟨sn, hsn⟩ : ∃ sn, sn = p.sends.length := ⟨_, rfl⟩
   obtain ⟨pn, hpn⟩ : ∃ pn, pn = p.next := ⟨_, rfl⟩
   rw [← hsn] at q1 hsv
   rw [← hpn] at q0
   have hs6 : sn ≤ 1000000 := by rw [hsn]; exact HSM.out.2.2.2 p (List.mem_of_getElem? hp)
   have Sn := Lib.hid hsn
   have Pn := Lib.hid hpn
   have Hp := Lib.hid hp
   have HS := Lib.hid hsv
   have Q1 := Lib.hid ((hbw.cell (by exact hb)).trans q1)
   have q0 := (hbw.cell (by exact hb)).trans q0
   have Hb0 := Lib.hid hb
   obtain ⟨va, vc, hv2⟩ := hC.f2.bld.own.slice
   rw [List.length_map, List.length_take, ← N2.out, Nat.min_eq_left hk] at hv2
   subst hv2
   have PB := Lib.hid (PkB.start wo pn)
   have E2 := Lib.hid e2
   have BW0 := Lib.hid hbw
   clear hC hlow hp hsv hsn hpn hbw
   go_wp2_with fail
   clear e2 q0
   go_loopw [6] (fun i wr => ∃ (j : Nat) (v : Value), i = .int .i64 j ∧ j ≤ sn ∧ PkB wo pn v (p.sends.take j) wr) (fun i _ => sn - (intOf i).toNat)
   case atStart => exact ⟨0, _, rfl, by omega, by rw [List.take_zero]; exact PB.out⟩
   case round =>
    obtain ⟨j, v, rfl, hj, hN⟩ := hrel
    have NN := Lib.hid hN
    have hbo := hN.f1.bld.own.bel
    have BW := Lib.hid hbo
    have e2 := (hbo.cell (World.block_lt_of_cell? wo _ E2.out)).trans E2.out
    have q1 := (hbo.cell (World.block_lt_of_cell? wo _ Q1.out)).trans Q1.out
    obtain ⟨ua, uc, hv⟩ := hN.f1.bld.own.slice
    rw [List.length_map, List.length_take, ← Sn.out, Nat.min_eq_left hj] at hv
    subst hv
    have c0 := hN.c0
    have c1' := hN.f1.cell
    clear hN
    by_cases hlj : j < sn
    ·have hlj' : (j : Int) < sn := by omega
     obtain ⟨q, hq⟩ := some_of_lt (l := p.sends) (i := j) (by rw [← Sn.out]; exact hlj)
     have hbw2 := below_step BW0.out.size BW0.out hbo
     obtain ⟨sb, so, scap, e, hsb, _, t0, t1⟩ := link_cells (l := p.sends) HS.out hq
     rw [← Sn.out] at e
     simp only [Value.slice.injEq] at e
     obtain ⟨e, _, e'⟩ := e
     subst e e'
     obtain ⟨y1, y2⟩ := q
     simp only at t0 t1
     have t0 := (hbw2.cell (by exact hsb)).trans t0
     have t1 := (hbw2.cell (by exact hsb)).trans t1
     have Hq := Lib.hid hq
     have QS : Hid (∀ w', Below wr.heap.size wr w' → w'.cell? ⟨w.heap.size, 2, none⟩ = some (.slice (some ⟨b, off, none⟩) n2 c2) ∧ w'.cell? ⟨b, off + k * 2 + 1, none⟩ = some (.slice (some ⟨sb, so, none⟩) sn sc) ∧ w'.cell? ⟨sb, so + j * 2, none⟩ = some (.int .i64 y1) ∧ w'.cell? ⟨sb, so + j * 2 + 1, none⟩ = some (.int .i64 y2)) := Lib.hid (fun w' hb => ⟨(hb.cell (World.block_lt_of_cell? wr _ e2)).trans e2, (hb.cell (World.block_lt_of_cell? wr _ q1)).trans q1, (hb.cell (World.block_lt_of_cell? wr _ t0)).trans t0, (hb.cell (World.block_lt_of_cell? wr _ t1)).trans t1⟩)
     have QB : Hid (∀ w', Below wr.heap.size wr w' → w'.cell? ⟨wo.heap.size, 1, none⟩ = some (.slice ua j uc)) := Lib.hid (fun w' hb => (hb.cell (World.block_lt_of_cell? wr _ c1')).trans c1')
     have Hsz := Lib.hid (show w0.heap.size ≤ w.heap.size ∧ w.heap.size < wo.heap.size by have := H0.out.size; have := World.block_lt_of_cell? wo _ E2.out; simp at this; exact ⟨by omega, this⟩)
     have Hsb := Lib.hid hsb
     clear hq hbw2 hbo
     go_wp2_with fail
     clear e2 q1 t0 t1 c1'
     refine wp_region_held_drew (S := (fun w' => w'.cell? ⟨w.heap.size, 2, none⟩ = some (.slice (some ⟨b, off, none⟩) n2 c2) ∧ w'.cell? ⟨b, off + k * 2 + 1, none⟩ = some (.slice (some ⟨sb, so, none⟩) sn sc) ∧ w'.cell? ⟨sb, so + j * 2, none⟩ = some (.int .i64 y1) ∧ w'.cell? ⟨sb, so + j * 2 + 1, none⟩ = some (.int .i64 y2))) (by kernel_rfl) ?_ (fun hHeld => ?_)
     ·exact QS.out _ (by go_grown)
     refine tq 0 ?_
     refine tq 2 ?_
     refine tq 3 ?_
     refine tq 4 ?_
     refine tq 5 ?_
     refine tq 6 ?_
     refine tq 7 ?_
     refine tq 8 ?_
     refine tq 9 ?_
     refine tq 10 ?_
     refine tq 11 ?_
     refine tq 12 ?_
     refine tq 13 ?_
     refine tq 14 ?_
     refine tq 15 ?_
     refine tq 16 ?_
     refine tq 17 ?_
     refine tq 18 ?_
     refine tq 19 ?_
     refine tq 20 ?_
     refine tq 21 ?_
     refine tq 22 ?_
     refine wpAnyH_ready (rs := [1, 23]) (by kernel_rfl) (by simp) ?_
     refine AllReadyH.cons rfl (fun K hK => ?_) (AllReadyH.cons rfl (fun K hK => ?_) AllReadyH.nil)
     ·have rr := QB.out wr.drew (show Below wr.heap.size wr wr.drew from below_drewN (Below.refl _ wr) 1)
      go_simp
      refine hK.out _ _ ?_ (fun hHeld => ?_)
      ·exact QS.out _ (by go_grown)
      clear hK K
      try simp only [Act.put, List.getElem_toArray, List.getElem_cons_zero, List.getElem_cons_succ, List.setIfInBounds_toArray, List.set_cons_zero, List.set_cons_succ]
      refine rd 23 fun K hK => ?_
      go_simp
      refine hK.out _ _ ?_ (fun hHeld => ?_)
      ·exact QS.out _ (by go_grown)
      clear hK K
      try simp only [Act.put, List.getElem_toArray, List.getElem_cons_zero, List.getElem_cons_succ, List.setIfInBounds_toArray, List.set_cons_zero, List.set_cons_succ]
      refine rd 24 fun K hK => ?_
      obtain ⟨w5, hw5⟩ : ∃ w5, w5 = (wr.alloc (.cells #[.int .i64 y1, .int .i64 y2] 140)).drew := ⟨_, rfl⟩
      have hx5 : Below wr.heap.size wr w5 := by rw [hw5]; exact below_drewN (below_new wr _) 1
      have n5 : ∀ j0 u, [Value.int .i64 y1, .int .i64 y2][j0]? = some u → w5.cell? ((⟨wr.heap.size, 0, none⟩ : Addr).add j0) = some u := fun j0 u hj0 => by rw [hw5, Go.WideShapes.add_plain, Nat.zero_add]; show (World.alloc _ _).cell? _ = _; rw [World.cell?_alloc_at _ _ _ _ rfl, List.getElem?_toArray]; exact hj0
      have N5 := Lib.hid n5
      have X5 := Lib.hid hx5
      rw [← hw5]
      clear hx5 n5 hw5
      refine appS (by rfl) _ _ 137 140 i2 (.agg #[.int .i64 0, .int .i64 0]) 2 16 (by rfl) Try.underlying137 hi2 hz2 hs2 hby2 rfl (by decide) False (fun kz => wo.heap.size < kz) wo wr.heap.size _ ((p.sends.take j).map fun p => [dI p.1, dI p.2]) [[dI y1, dI y2]] j 1 1 (j + 1) rfl (by exact (NN.out.f1.bld.own.later X5.out)) (by simp; rw [← Sn.out]; omega) (some ⟨wr.heap.size, 0, none⟩) (by rfl) [.int .i64 y1, .int .i64 y2] (fun a ha => by cases ha; exact N5.out) (fun e => by cases e) (by simp) rfl (by rw [List.flatten_cons, List.flatten_nil, List.append_nil]; exact consF' (.atom _ _ _ rfl) (consF' (.atom _ _ _ rfl) (hasL_nil _ _ _))) rfl (by unfold maxLen; omega) (by omega) ?_
      intro ao6 cv6 w6 hO6 hg6 hb6
      obtain ⟨hCN, hc6, hf6⟩ := NN.out.push (s := (y1, y2)) X5.out hO6 hg6 hb6
      have CN := Lib.hid hCN
      have K6 : Hid (∀ (b i : Nat) (u : Value), b < wo.heap.size → w5.cell? ⟨b, i, none⟩ = some u → w6.cell? ⟨b, i, none⟩ = some u) := Lib.hid (fun b i u hb hu => grown_at hg6 (fun e => by have := NN.out.f1.bld.inP _ e; omega) hu)
      have hz := Hsz.out
      have v0 := K6.out _ _ _ hz.2 (QS.out _ X5.out).1
      have v1 := K6.out _ _ _ (by have := Hb0.out; omega) (QS.out _ X5.out).2.1
      have v2 := K6.out _ _ _ (by have := Hsb.out; omega) (QS.out _ X5.out).2.2.1
      have v3 := K6.out _ _ _ (by have := Hsb.out; omega) (QS.out _ X5.out).2.2.2
      clear hO6 hg6 hb6 hCN hz
      refine hK.out _ _ ?_ (fun hHeld => ?_)
      ·exact ⟨v0, v1, v2, v3⟩
      clear hK K
      try simp only [Act.put, List.getElem_toArray, List.getElem_cons_zero, List.getElem_cons_succ, List.setIfInBounds_toArray, List.set_cons_zero, List.set_cons_succ]
      refine tq 25 ?_
      refine rd 26 fun K hK => ?_
      go_simp
      refine hK.out _ _ ?_ (fun hHeld => ?_)
      ·exact ⟨by rw [World.cell?_setCell_other _ _ _ _ (by have := Hsz.out; have := Hb0.out; have := Hsb.out; simp <;> omega)]; exact v0, by rw [World.cell?_setCell_other _ _ _ _ (by have := Hsz.out; have := Hb0.out; have := Hsb.out; simp <;> omega)]; exact v1, by rw [World.cell?_setCell_other _ _ _ _ (by have := Hsz.out; have := Hb0.out; have := Hsb.out; simp <;> omega)]; exact v2, by rw [World.cell?_setCell_other _ _ _ _ (by have := Hsz.out; have := Hb0.out; have := Hsb.out; simp <;> omega)]; exact v3⟩
      clear hK K
      try simp only [Act.put, List.getElem_toArray, List.getElem_cons_zero, List.getElem_cons_succ, List.setIfInBounds_toArray, List.set_cons_zero, List.set_cons_succ]
      refine wpAnyH_done (by kernel_rfl) ?_ _
      go_wp2_with fail
      go_roundw
      case rel =>
       refine ⟨j + 1, .slice ao6 (j + 1) cv6, by go_num, by omega, ?_⟩
       rw [List.take_add_one, Hq.out]
       exact CN.out
      case measure => simp [intOf]; omega
     ·go_simp
      refine hK.out _ _ ?_ (fun hHeld => ?_)
      ·exact QS.out _ (by go_grown)
      clear hK K
      try simp only [Act.put, List.getElem_toArray, List.getElem_cons_zero, List.getElem_cons_succ, List.setIfInBounds_toArray, List.set_cons_zero, List.set_cons_succ]
      refine rd 1 fun K hK => ?_
      have rr := QB.out (wr.alloc (.cells #[.int .i64 y1, .int .i64 y2] 140)).drew (show Below wr.heap.size wr (wr.alloc (.cells #[.int .i64 y1, .int .i64 y2] 140)).drew from below_drewN (below_new wr _) 1)
      go_simp
      refine hK.out _ _ ?_ (fun hHeld => ?_)
      ·exact QS.out _ (by go_grown)
      clear hK K
      try simp only [Act.put, List.getElem_toArray, List.getElem_cons_zero, List.getElem_cons_succ, List.setIfInBounds_toArray, List.set_cons_zero, List.set_cons_succ]
      refine rd 24 fun K hK => ?_
      obtain ⟨w5, hw5⟩ : ∃ w5, w5 = (wr.alloc (.cells #[.int .i64 y1, .int .i64 y2] 140)).drew := ⟨_, rfl⟩
      have hx5 : Below wr.heap.size wr w5 := by rw [hw5]; exact below_drewN (below_new wr _) 1
      have n5 : ∀ j0 u, [Value.int .i64 y1, .int .i64 y2][j0]? = some u → w5.cell? ((⟨wr.heap.size, 0, none⟩ : Addr).add j0) = some u := fun j0 u hj0 => by rw [hw5, Go.WideShapes.add_plain, Nat.zero_add]; show (World.alloc _ _).cell? _ = _; rw [World.cell?_alloc_at _ _ _ _ rfl, List.getElem?_toArray]; exact hj0
      have N5 := Lib.hid n5
      have X5 := Lib.hid hx5
      rw [← hw5]
      clear hx5 n5 hw5
      refine appS (by rfl) _ _ 137 140 i2 (.agg #[.int .i64 0, .int .i64 0]) 2 16 (by rfl) Try.underlying137 hi2 hz2 hs2 hby2 rfl (by decide) False (fun kz => wo.heap.size < kz) wo wr.heap.size _ ((p.sends.take j).map fun p => [dI p.1, dI p.2]) [[dI y1, dI y2]] j 1 1 (j + 1) rfl (by exact (NN.out.f1.bld.own.later X5.out)) (by simp; rw [← Sn.out]; omega) (some ⟨wr.heap.size, 0, none⟩) (by rfl) [.int .i64 y1, .int .i64 y2] (fun a ha => by cases ha; exact N5.out) (fun e => by cases e) (by simp) rfl (by rw [List.flatten_cons, List.flatten_nil, List.append_nil]; exact consF' (.atom _ _ _ rfl) (consF' (.atom _ _ _ rfl) (hasL_nil _ _ _))) rfl (by unfold maxLen; omega) (by omega) ?_
      intro ao6 cv6 w6 hO6 hg6 hb6
      obtain ⟨hCN, hc6, hf6⟩ := NN.out.push (s := (y1, y2)) X5.out hO6 hg6 hb6
      have CN := Lib.hid hCN
      have K6 : Hid (∀ (b i : Nat) (u : Value), b < wo.heap.size → w5.cell? ⟨b, i, none⟩ = some u → w6.cell? ⟨b, i, none⟩ = some u) := Lib.hid (fun b i u hb hu => grown_at hg6 (fun e => by have := NN.out.f1.bld.inP _ e; omega) hu)
      have hz := Hsz.out
      have v0 := K6.out _ _ _ hz.2 (QS.out _ X5.out).1
      have v1 := K6.out _ _ _ (by have := Hb0.out; omega) (QS.out _ X5.out).2.1
      have v2 := K6.out _ _ _ (by have := Hsb.out; omega) (QS.out _ X5.out).2.2.1
      have v3 := K6.out _ _ _ (by have := Hsb.out; omega) (QS.out _ X5.out).2.2.2
      clear hO6 hg6 hb6 hCN hz
      refine hK.out _ _ ?_ (fun hHeld => ?_)
      ·exact ⟨v0, v1, v2, v3⟩
      clear hK K
      try simp only [Act.put, List.getElem_toArray, List.getElem_cons_zero, List.getElem_cons_succ, List.setIfInBounds_toArray, List.set_cons_zero, List.set_cons_succ]
      refine tq 25 ?_
      refine rd 26 fun K hK => ?_
      go_simp
      refine hK.out _ _ ?_ (fun hHeld => ?_)
      ·exact ⟨by rw [World.cell?_setCell_other _ _ _ _ (by have := Hsz.out; have := Hb0.out; have := Hsb.out; simp <;> omega)]; exact v0, by rw [World.cell?_setCell_other _ _ _ _ (by have := Hsz.out; have := Hb0.out; have := Hsb.out; simp <;> omega)]; exact v1, by rw [World.cell?_setCell_other _ _ _ _ (by have := Hsz.out; have := Hb0.out; have := Hsb.out; simp <;> omega)]; exact v2, by rw [World.cell?_setCell_other _ _ _ _ (by have := Hsz.out; have := Hb0.out; have := Hsb.out; simp <;> omega)]; exact v3⟩
      clear hK K
      try simp only [Act.put, List.getElem_toArray, List.getElem_cons_zero, List.getElem_cons_succ, List.setIfInBounds_toArray, List.set_cons_zero, List.set_cons_succ]
      refine wpAnyH_done (by kernel_rfl) ?_ _
      go_wp2_with fail
      go_roundw
      case rel =>
       refine ⟨j + 1, .slice ao6 (j + 1) cv6, by go_num, by omega, ?_⟩
       rw [List.take_add_one, Hq.out]
       exact CN.out
      case measure => simp [intOf]; omega
    ·have hlj' : ¬ (j : Int) < sn := by omega
     have EndS : Hid (p.sends.take j = p.sends) := Lib.hid (List.take_of_length_le (by rw [← Sn.out]; omega))
     have hjs : j = sn := by omega
     subst hjs
     have DD := Lib.hid (CC.out.below BW.out)
     have HW9 := Lib.hid (NN.out.f1.bld.holds)
     have d2 := DD.out.f2.cell
     have dz := DD.out.f2.frz
     obtain ⟨wZ, hwZ⟩ : ∃ wZ, wZ = wr.alloc (.cells #[.int .i64 pn, .slice ua j uc] 139) := ⟨_, rfl⟩
     have hbZ : Below wr.heap.size wr wZ := by rw [hwZ]; exact below_new _ _
     have hZ := below_step BW.out.size BW.out hbZ
     have OZ := Lib.hid (CC.out.f2.bld.own.later hZ)
     have C1 := Lib.hid (show ∀ a0 : Addr, some (⟨wr.heap.size, 0, none⟩ : Addr) = some a0 → ∀ (j0 : Nat) (u : Value), [Value.int .i64 pn, .slice ua j uc][j0]? = some u → wZ.cell? (a0.add j0) = some u from fun a0 ha j0 u hj0 => by
      cases ha
      rw [hwZ, Go.WideShapes.add_plain, Nat.zero_add, World.cell?_alloc_at _ _ _ _ rfl, List.getElem?_toArray]
      exact hj0)
     have HLZ := Lib.hid (show HoldsL False (fun kz => wA.heap.size ≤ kz ∧ (Value.slice va k vc).ownBlock ≠ some kz ∧ (False → wo.heap.size ≤ kz)) wZ [.int .i64 pn, .slice ua j uc] p.d from by
      have hA := CC.out.low.1
      show HoldsL False _ wZ _ [dI p.next, dLinks p.sends]
      rw [← Pn.out]
      refine consF' (.atom _ _ _ rfl) (consF' ?_ (hasL_nil _ _ _))
      have := (HW9.out.later hbZ).wide (P' := fun kz => wA.heap.size ≤ kz ∧ (Value.slice va k vc).ownBlock ≠ some kz ∧ (False → wo.heap.size ≤ kz)) (fun kz _ (hkz : wo.heap.size < kz) => ⟨by omega, fun e => by have := CC.out.f2.bld.own.blk kz e; omega, fun f => f.elim⟩)
      unfold dLinks
      rw [← EndS.out]
      exact this)
     have WZ := Lib.hid hwZ
     have HZ := Lib.hid hZ
     clear hbZ hZ hwZ hbo
     go_wp2_with (at_builtin; go_loud (rw [← WZ.out]; refine appL rfl _ _ 101 139 i3 (.agg #[.int .i64 0, .slice none 0 0]) 2 32 rfl Try.underlying101 hi3 hz3 hs3 hby3 rfl (by decide) False (fun kz => wA.heap.size ≤ kz) w1 wo.heap.size _ ((s.picks.take k).map Pk.d) [p.d] k 1 1 (k + 1) rfl OZ.out (by simp; rw [← N2.out]; omega) (some ⟨wr.heap.size, 0, none⟩) rfl [.int .i64 pn, .slice ua j uc] C1.out (fun e => by cases e) (by simp [Pk.d]) rfl (by rw [List.flatten_cons, List.flatten_nil, List.append_nil]; exact HLZ.out) rfl (by unfold maxLen; omega) (by omega) ?_))
     intro ao cv w13 hO13 hg13 hb13
     have hO13' : Own False (fun kz => wA.heap.size ≤ kz) 139 2 w1 w13.heap.size w13 (.slice ao (k + 1) cv) ((s.picks.take k).map Pk.d ++ [p.d]) := by simpa using hO13
     obtain ⟨hD, hc13, hf13⟩ := CC.out.push (by rw [ZA.out, Z1.out]; omega) HZ.out hO13' hg13 hb13
     have DN := Lib.hid hD
     clear hO13 hO13' hg13 hb13 hD d2 dz
     go_wp2_with fail
     go_roundw
     case rel => exact ⟨k + 1, _, by go_num, by omega, by rw [List.take_add_one, Hp.out]; exact DN.out⟩
     case measure => simp [intOf]; omega
  ·have hlt' : ¬ (k : Int) < n2 := by omega
   have EndP : Hid (s.picks.take k = s.picks) := Lib.hid (List.take_of_length_le (by rw [← N2.out]; omega))
   have C2S := Lib.hid (D2.start hC (by rw [ZA.out, Z1.out]; omega))
   have HP2 := Lib.hid (hC.f2.bld.holds)
   have CX3 : Hid (∀ wr : World, SameOn (fun k => k < wo.heap.size ∧ k ≠ w.heap.size + 1 + 1) wo wr → ∀ (b i : Nat) (u : Value), b < w1.heap.size → w1.cell? ⟨b, i, none⟩ = some u → wr.cell? ⟨b, i, none⟩ = some u) := Lib.hid (fun wr hs b i u hb hu => by
    have e := CX.out wo hlow b i u hb hu
    have hlt := World.block_lt_of_cell? wo _ e
    exact (hs.cell (a := ⟨b, i, none⟩) ⟨hlt, by have := Z1.out; show b ≠ _; omega⟩ hlt).trans e)
   have CF3 : Hid (∀ wr : World, SameOn (fun k => k < wo.heap.size ∧ k ≠ w.heap.size + 1 + 1) wo wr → ∀ i : Nat, wr.frozen? ⟨w.heap.size + 1, i, none⟩ = false) := Lib.hid (fun wr hs i => by
    have hlt := World.block_lt_of_cell? wo _ (CX.out wo hlow _ _ _ (by rw [Z1.out]; omega) P0.out)
    exact (hs.frozen (a := ⟨w.heap.size + 1, i, none⟩) ⟨hlt, by show w.heap.size + 1 ≠ _; omega⟩ hlt).trans (CF.out wo hlow i))
   have Low1 := Lib.hid hlow
   clear hC hlow
   go_wp2_with fail
   clear e2
   go_loopw [7] (fun i wr => ∃ (k2 : Nat) (v3 : Value), i = .int .i64 k2 ∧ k2 ≤ n3 ∧ D2 w1 wo (w.heap.size + 1 + 1) m (.slice a1 n1 c1) v2 v3 (s.takes.take k2) wr) (fun i _ => n3 - (intOf i).toNat)
   case atStart => exact ⟨0, _, rfl, by omega, by rw [List.take_zero]; exact C2S.out⟩
   case round =>
    obtain ⟨k2, v3, rfl, hk2, hC⟩ := hrel
    have CC2 := Lib.hid hC
    have hlow := hC.low
    have e3 := CX3.out wr hlow _ _ _ (by rw [Z1.out]; omega) X3.out
    by_cases hlt2 : k2 < n3
    ·have hlt2' : (k2 : Int) < n3 := by omega
     obtain ⟨t, ht⟩ := some_of_lt (l := s.takes) (i := k2) (by rw [← N3.out]; exact hlt2)
     have hbw : Below w0.heap.size w0 wr := below_step H0.out.size H0.out (below_step G1.out.size G1.out hC.bel)
     obtain ⟨tb, tqo, tcap, e, htb, _, q0, q1, q2⟩ := tk_cells H3.out ht
     rw [← N3.out] at e
     simp only [Value.slice.injEq] at e
     obtain ⟨e, _, e'⟩ := e
     subst e e'
     have q0 := (hbw.cell (by exact htb)).trans q0
     have q1 := (hbw.cell (by exact htb)).trans q1
     have q2 := (hbw.cell (by exact htb)).trans q2
     have Ht := Lib.hid ht
     obtain ⟨t1, t2, t3⟩ := t
     simp only at q0 q1 q2
     obtain ⟨va, vc, hv3⟩ := hC.f3.bld.own.slice
     rw [List.length_map, List.length_take, ← N3.out, Nat.min_eq_left hk2] at hv3
     subst hv3
     have r3 := hC.f3.cell
     have QB : Hid (∀ w', Below wr.heap.size wr w' → w'.cell? ⟨w.heap.size + 1 + 1, 3, none⟩ = some (.slice va k2 vc)) := Lib.hid (fun w' hb => (hb.cell (World.block_lt_of_cell? wr _ r3)).trans r3)
     have QS3 : Hid (∀ w', Below wr.heap.size wr w' → w'.cell? ⟨w.heap.size, 3, none⟩ = some (.slice (some ⟨tb, tqo, none⟩) n3 c3) ∧ w'.cell? ⟨tb, tqo + k2 * 3, none⟩ = some (.int .i64 t1) ∧ w'.cell? ⟨tb, tqo + k2 * 3 + 1, none⟩ = some (.int .i64 t2) ∧ w'.cell? ⟨tb, tqo + k2 * 3 + 2, none⟩ = some (.int .i64 t3)) := Lib.hid (fun w' hb => ⟨(hb.cell (World.block_lt_of_cell? wr _ e3)).trans e3, (hb.cell (World.block_lt_of_cell? wr _ q0)).trans q0, (hb.cell (World.block_lt_of_cell? wr _ q1)).trans q1, (hb.cell (World.block_lt_of_cell? wr _ q2)).trans q2⟩)
     have HA := Lib.hid (show w.heap.size + 1 + 1 < wo.heap.size ∧ tb < w.heap.size by have := Low1.out.1; have := ZA.out; have := Z1.out; have := H0.out.size; omega)
     clear hC hlow hbw ht r3 htb
     go_wp2_with fail
     clear e3 q0 q1 q2
     refine wp_region_held_drew (S := (fun w' => w'.cell? ⟨w.heap.size, 3, none⟩ = some (.slice (some ⟨tb, tqo, none⟩) n3 c3) ∧ w'.cell? ⟨tb, tqo + k2 * 3, none⟩ = some (.int .i64 t1) ∧ w'.cell? ⟨tb, tqo + k2 * 3 + 1, none⟩ = some (.int .i64 t2) ∧ w'.cell? ⟨tb, tqo + k2 * 3 + 2, none⟩ = some (.int .i64 t3))) (by kernel_rfl) ?_ (fun hHeld => ?_)
     ·exact QS3.out _ (by go_grown)
     refine tq 0 ?_
     refine tq 2 ?_
     refine tq 3 ?_
     refine tq 4 ?_
     refine tq 5 ?_
     refine tq 6 ?_
     refine tq 7 ?_
     refine tq 8 ?_
     refine tq 9 ?_
     refine tq 10 ?_
     refine tq 11 ?_
     refine tq 12 ?_
     refine tq 13 ?_
     refine tq 14 ?_
     refine tq 15 ?_
     refine tq 16 ?_
     refine tq 17 ?_
     refine tq 18 ?_
     refine tq 19 ?_
     refine tq 20 ?_
     refine wpAnyH_ready (rs := [1, 21]) (by kernel_rfl) (by simp) ?_
     refine AllReadyH.cons rfl (fun K hK => ?_) (AllReadyH.cons rfl (fun K hK => ?_) AllReadyH.nil)
     ·have rr := QB.out wr.drew (show Below wr.heap.size wr wr.drew from below_drewN (Below.refl _ wr) 1)
      go_simp
      refine hK.out _ _ ?_ (fun hHeld => ?_)
      ·exact QS3.out _ (by go_grown)
      clear hK K
      try simp only [Act.put, List.getElem_toArray, List.getElem_cons_zero, List.getElem_cons_succ, List.setIfInBounds_toArray, List.set_cons_zero, List.set_cons_succ]
      refine rd 21 fun K hK => ?_
      go_simp
      refine hK.out _ _ ?_ (fun hHeld => ?_)
      ·exact QS3.out _ (by go_grown)
      clear hK K
      try simp only [Act.put, List.getElem_toArray, List.getElem_cons_zero, List.getElem_cons_succ, List.setIfInBounds_toArray, List.set_cons_zero, List.set_cons_succ]
      refine rd 22 fun K hK => ?_
      obtain ⟨w5, hw5⟩ : ∃ w5, w5 = (wr.alloc (.cells #[.int .i64 t1, .int .i64 t2, .int .i64 t3] 141)).drew := ⟨_, rfl⟩
      have hx5 : Below wr.heap.size wr w5 := by rw [hw5]; exact below_drewN (below_new wr _) 1
      have n5 : ∀ j u, [Value.int .i64 t1, .int .i64 t2, .int .i64 t3][j]? = some u → w5.cell? ((⟨wr.heap.size, 0, none⟩ : Addr).add j) = some u := fun j u hj => by rw [hw5, Go.WideShapes.add_plain, Nat.zero_add]; show (World.alloc _ _).cell? _ = _; rw [World.cell?_alloc_at _ _ _ _ rfl, List.getElem?_toArray]; exact hj
      have N5 := Lib.hid n5
      have X5 := Lib.hid hx5
      rw [← hw5]
      clear hx5 n5 hw5
      refine appS (by rfl) _ _ 102 141 i4 (.agg #[.int .i64 0, .int .i64 0, .int .i64 0]) 3 24 (by rfl) Try.underlying102 hi4 hz4 hs4 hby4 rfl (by decide) False (fun k => wo.heap.size ≤ k) w1 wr.heap.size _ ((s.takes.take k2).map Tk.d) [(Tk.mk t1 t2 t3).d] k2 1 1 (k2 + 1) rfl (by exact (CC2.out.f3.bld.own.later X5.out)) (by simp; rw [← N3.out]; omega) (some ⟨wr.heap.size, 0, none⟩) (by rfl) [.int .i64 t1, .int .i64 t2, .int .i64 t3] (fun a ha => by cases ha; exact N5.out) (fun e => by cases e) (by simp [Tk.d]) rfl (by rw [List.flatten_cons, List.flatten_nil, List.append_nil]; exact consF' (.atom _ _ _ rfl) (consF' (.atom _ _ _ rfl) (consF' (.atom _ _ _ rfl) (hasL_nil _ _ _)))) rfl (by unfold maxLen; omega) (by omega) ?_
      intro ao6 cv6 w6 hO6 hg6 hb6
      obtain ⟨hCN, hc6, hf6⟩ := CC2.out.push HA.out.1 X5.out hO6 hg6 hb6
      have CN := Lib.hid hCN
      have K6 : Hid (∀ (b i : Nat) (u : Value), b < wo.heap.size → w5.cell? ⟨b, i, none⟩ = some u → w6.cell? ⟨b, i, none⟩ = some u) := Lib.hid (fun b i u hb hu => grown_at hg6 (fun e => by have := CC2.out.f3.bld.inP _ e; omega) hu)
      have hz := HA.out
      have v0 := K6.out _ _ _ (by omega) (QS3.out _ X5.out).1
      have v1' := K6.out _ _ _ (by omega) (QS3.out _ X5.out).2.1
      have v2' := K6.out _ _ _ (by omega) (QS3.out _ X5.out).2.2.1
      have v3' := K6.out _ _ _ (by omega) (QS3.out _ X5.out).2.2.2
      clear hO6 hg6 hb6 hCN hz
      refine hK.out _ _ ?_ (fun hHeld => ?_)
      ·exact ⟨v0, v1', v2', v3'⟩
      clear hK K
      try simp only [Act.put, List.getElem_toArray, List.getElem_cons_zero, List.getElem_cons_succ, List.setIfInBounds_toArray, List.set_cons_zero, List.set_cons_succ]
      refine tq 23 ?_
      refine rd 24 fun K hK => ?_
      go_simp
      refine hK.out _ _ ?_ (fun hHeld => ?_)
      ·exact ⟨by rw [World.cell?_setCell_other _ _ _ _ (by have := HA.out; simp <;> omega)]; exact v0, by rw [World.cell?_setCell_other _ _ _ _ (by have := HA.out; simp <;> omega)]; exact v1', by rw [World.cell?_setCell_other _ _ _ _ (by have := HA.out; simp <;> omega)]; exact v2', by rw [World.cell?_setCell_other _ _ _ _ (by have := HA.out; simp <;> omega)]; exact v3'⟩
      clear hK K
      try simp only [Act.put, List.getElem_toArray, List.getElem_cons_zero, List.getElem_cons_succ, List.setIfInBounds_toArray, List.set_cons_zero, List.set_cons_succ]
      refine wpAnyH_done (by kernel_rfl) ?_ _
      go_wp2_with fail
      go_roundw
      case rel =>
       refine ⟨k2 + 1, .slice ao6 (k2 + 1) cv6, by go_num, by omega, ?_⟩
       rw [List.take_add_one, Ht.out]
       exact CN.out
      case measure => simp [intOf]; omega
     ·go_simp
      refine hK.out _ _ ?_ (fun hHeld => ?_)
      ·exact QS3.out _ (by go_grown)
      clear hK K
      try simp only [Act.put, List.getElem_toArray, List.getElem_cons_zero, List.getElem_cons_succ, List.setIfInBounds_toArray, List.set_cons_zero, List.set_cons_succ]
      refine rd 1 fun K hK => ?_
      have rr := QB.out (wr.alloc (.cells #[.int .i64 t1, .int .i64 t2, .int .i64 t3] 141)).drew (show Below wr.heap.size wr (wr.alloc (.cells #[.int .i64 t1, .int .i64 t2, .int .i64 t3] 141)).drew from below_drewN (below_new wr _) 1)
      go_simp
      refine hK.out _ _ ?_ (fun hHeld => ?_)
      ·exact QS3.out _ (by go_grown)
      clear hK K
      try simp only [Act.put, List.getElem_toArray, List.getElem_cons_zero, List.getElem_cons_succ, List.setIfInBounds_toArray, List.set_cons_zero, List.set_cons_succ]
      refine rd 22 fun K hK => ?_
      obtain ⟨w5, hw5⟩ : ∃ w5, w5 = (wr.alloc (.cells #[.int .i64 t1, .int .i64 t2, .int .i64 t3] 141)).drew := ⟨_, rfl⟩
      have hx5 : Below wr.heap.size wr w5 := by rw [hw5]; exact below_drewN (below_new wr _) 1
      have n5 : ∀ j u, [Value.int .i64 t1, .int .i64 t2, .int .i64 t3][j]? = some u → w5.cell? ((⟨wr.heap.size, 0, none⟩ : Addr).add j) = some u := fun j u hj => by rw [hw5, Go.WideShapes.add_plain, Nat.zero_add]; show (World.alloc _ _).cell? _ = _; rw [World.cell?_alloc_at _ _ _ _ rfl, List.getElem?_toArray]; exact hj
      have N5 := Lib.hid n5
      have X5 := Lib.hid hx5
      rw [← hw5]
      clear hx5 n5 hw5
      refine appS (by rfl) _ _ 102 141 i4 (.agg #[.int .i64 0, .int .i64 0, .int .i64 0]) 3 24 (by rfl) Try.underlying102 hi4 hz4 hs4 hby4 rfl (by decide) False (fun k => wo.heap.size ≤ k) w1 wr.heap.size _ ((s.takes.take k2).map Tk.d) [(Tk.mk t1 t2 t3).d] k2 1 1 (k2 + 1) rfl (by exact (CC2.out.f3.bld.own.later X5.out)) (by simp; rw [← N3.out]; omega) (some ⟨wr.heap.size, 0, none⟩) (by rfl) [.int .i64 t1, .int .i64 t2, .int .i64 t3] (fun a ha => by cases ha; exact N5.out) (fun e => by cases e) (by simp [Tk.d]) rfl (by rw [List.flatten_cons, List.flatten_nil, List.append_nil]; exact consF' (.atom _ _ _ rfl) (consF' (.atom _ _ _ rfl) (consF' (.atom _ _ _ rfl) (hasL_nil _ _ _)))) rfl (by unfold maxLen; omega) (by omega) ?_
      intro ao6 cv6 w6 hO6 hg6 hb6
      obtain ⟨hCN, hc6, hf6⟩ := CC2.out.push HA.out.1 X5.out hO6 hg6 hb6
      have CN := Lib.hid hCN
      have K6 : Hid (∀ (b i : Nat) (u : Value), b < wo.heap.size → w5.cell? ⟨b, i, none⟩ = some u → w6.cell? ⟨b, i, none⟩ = some u) := Lib.hid (fun b i u hb hu => grown_at hg6 (fun e => by have := CC2.out.f3.bld.inP _ e; omega) hu)
      have hz := HA.out
      have v0 := K6.out _ _ _ (by omega) (QS3.out _ X5.out).1
      have v1' := K6.out _ _ _ (by omega) (QS3.out _ X5.out).2.1
      have v2' := K6.out _ _ _ (by omega) (QS3.out _ X5.out).2.2.1
      have v3' := K6.out _ _ _ (by omega) (QS3.out _ X5.out).2.2.2
      clear hO6 hg6 hb6 hCN hz
      refine hK.out _ _ ?_ (fun hHeld => ?_)
      ·exact ⟨v0, v1', v2', v3'⟩
      clear hK K
      try simp only [Act.put, List.getElem_toArray, List.getElem_cons_zero, List.getElem_cons_succ, List.setIfInBounds_toArray, List.set_cons_zero, List.set_cons_succ]
      refine tq 23 ?_
      refine rd 24 fun K hK => ?_
      go_simp
      refine hK.out _ _ ?_ (fun hHeld => ?_)
      ·exact ⟨by rw [World.cell?_setCell_other _ _ _ _ (by have := HA.out; simp <;> omega)]; exact v0, by rw [World.cell?_setCell_other _ _ _ _ (by have := HA.out; simp <;> omega)]; exact v1', by rw [World.cell?_setCell_other _ _ _ _ (by have := HA.out; simp <;> omega)]; exact v2', by rw [World.cell?_setCell_other _ _ _ _ (by have := HA.out; simp <;> omega)]; exact v3'⟩
      clear hK K
      try simp only [Act.put, List.getElem_toArray, List.getElem_cons_zero, List.getElem_cons_succ, List.setIfInBounds_toArray, List.set_cons_zero, List.set_cons_succ]
      refine wpAnyH_done (by kernel_rfl) ?_ _
      go_wp2_with fail
      go_roundw
      case rel =>
       refine ⟨k2 + 1, .slice ao6 (k2 + 1) cv6, by go_num, by omega, ?_⟩
       rw [List.take_add_one, Ht.out]
       exact CN.out
      case measure => simp [intOf]; omega
    ·have hlt2' : ¬ (k2 : Int) < n3 := by omega
     have EndT : Hid (s.takes.take k2 = s.takes) := Lib.hid (List.take_of_length_le (by rw [← N3.out]; omega))
     have hC := CC2.out
     have y0 := hC.y0
     have y1 := hC.y1
     have y2 := hC.y2
     have y3 := hC.f3.cell
     have p0 := CX3.out wr hlow _ _ _ (by rw [Z1.out]; omega) P0.out
     have p1 := CX3.out wr hlow _ _ _ (by rw [Z1.out]; omega) P1.out
     have p2 := CX3.out wr hlow _ _ _ (by rw [Z1.out]; omega) P2.out
     have p3 := CX3.out wr hlow _ _ _ (by rw [Z1.out]; omega) P3.out
     have f0 := CF3.out wr hlow 0
     have f1 := CF3.out wr hlow 1
     have f2 := CF3.out wr hlow 2
     have f3 := CF3.out wr hlow 3
     obtain ⟨va2, vc2, l2, hv2⟩ : ∃ a c l, v2 = .slice a l c := by obtain ⟨a, c, e⟩ := Holds.len HP2.out; exact ⟨a, c, _, e⟩
     obtain ⟨va3, vc3, l3, hv3⟩ : ∃ a c l, v3 = .slice a l c := by obtain ⟨a, c, e⟩ := hC.f3.bld.own.slice; exact ⟨a, c, _, e⟩
     have Low2 := Lib.hid hlow
     clear hC hlow
     subst hv2 hv3
     go_wp2_with fail
     refine bodyPost_ret (v := .agg #[.int .i64 m, .slice a1 n1 c1, .slice va2 l2 vc2, .slice va3 l3 vc3]) (by simp [results, Try.results45, go_sem, p0, p1, p2, p3]) rfl ⟨_, rfl, ?_, ?_⟩
     ·have hz1 := Z1.out
      have hzA := ZA.out
      have hl1 := Low1.out.1
      have hl2 := Low2.out.1
      have hz0 := H0.out.size
      have K : ∀ Q : Nat → Prop, (∀ k, Q k → k ≠ w.heap.size + 1) → SameOn Q wr ((((wr.setCell ⟨w.heap.size + 1, 0, none⟩ (.int .i64 m)).setCell ⟨w.heap.size + 1, 1, none⟩ (.slice a1 n1 c1)).setCell ⟨w.heap.size + 1, 2, none⟩ (.slice va2 l2 vc2)).setCell ⟨w.heap.size + 1, 3, none⟩ (.slice va3 l3 vc3)) := fun Q hQ =>
       ((((SameOn.refl _ _).set _ _ (fun h => hQ _ h rfl)).set _ _ (fun h => hQ _ h rfl)).set _ _ (fun h => hQ _ h rfl)).set _ _ (fun h => hQ _ h rfl)
      have hw0 : Holds False (fun k => k < w0.heap.size) w0 (.slice a1 n1 c1) (dInts s.waits) := H1.out.wide (fun b hb _ => hb)
      have hbr := below_step H0.out.size H0.out (below_step G1.out.size G1.out CC2.out.bel)
      have hw := ((hw0.later hbr).same (K _ fun k hk => by omega)).wide (P' := fun k => k < w0.heap.size ∨ w.heap.size ≤ k) (fun b _ p => .inl p)
      have hp := HP2.out.wide (P' := fun k => wA.heap.size ≤ k ∧ k < wo.heap.size) (fun b hb p => ⟨p, hb⟩)
      have hp := ((hp.same (Low2.out.sub fun k hk => ⟨hk.2, by omega⟩)).same (K _ fun k hk => by omega)).wide (P' := fun k => k < w0.heap.size ∨ w.heap.size ≤ k) (fun b _ p => .inr (by omega))
      have ht := ((CC2.out.f3.bld.holds).same (K _ fun k hk => by omega)).wide (P' := fun k => k < w0.heap.size ∨ w.heap.size ≤ k) (fun b _ (p : wo.heap.size ≤ b) => .inr (by omega))
      rw [EndP.out] at hp
      rw [EndT.out] at ht
      show HoldsL False _ _ _ [dI s.mode, dInts s.waits, dPicks s.picks, dTakes s.takes]
      rw [← Hm.out]
      exact consF' (.atom _ _ _ rfl) (consF' hw (consF' hp (consF' ht (hasL_nil _ _ _))))
     ·have hz1 := Z1.out
      have hb := below_step G1.out.size G1.out CC2.out.bel
      exact (((hb.setCell (by simp) _).setCell (by simp) _).setCell (by simp) _).setCell (by simp) _
end Go.Proofs.Ytiblcpkejhiehaa

set_option linter.unusedSimpArgs false
namespace Go.Proofs.Ytiblcpkejhiehaa
open Go.RowKit Go.PlainAid
theorem infoRNd : (Try.prog.info? 75).map (fun i => (i.zero, i.size, i.bytes)) = some (some (.agg #[.int .i64 0, .slice none 0 0]), 2, 32) := by kernel_rfl
theorem infoRState : (Try.prog.info? 104).map (fun i => (i.zero, i.size, i.bytes)) = some (some (.agg #[.int .i64 0, .slice none 0 0, .slice none 0 0, .slice none 0 0]), 4, 80) := by kernel_rfl
/-- A node's box while its states are copied. -/
structure RnAt (hw : Nat) (wo : World) (q : Int) (v : Value) (ss : List St) (wr : World) : Prop where
 c0 : wr.cell? ⟨wo.heap.size, 0, none⟩ = some (.int .i64 q)
 f1 : Fld False (fun k => k < hw ∨ wo.heap.size < k) 104 4 wo wr wo.heap.size 1 v (ss.map St.d)
 hle : hw ≤ wo.heap.size
theorem RnAt.start (hw : Nat) (wo : World) (q : Int) (hle : hw ≤ wo.heap.size) : RnAt hw wo q (.slice none 0 0) [] (wo.alloc (.cells #[.int .i64 q, .slice none 0 0] 75)) :=
 ⟨World.cell?_alloc_at _ _ _ _ rfl, ⟨World.cell?_alloc_at _ _ _ _ rfl, frozen_new _ _ _ _, ⟨Own.nil (below_new _ _), fun k hk => by simp [Value.ownBlock] at hk⟩, by omega, Nat.le_refl _⟩, hle⟩
theorem RnAt.below {hw : Nat} {wo : World} {q : Int} {v : Value} {ss : List St} {w w' : World} (h : RnAt hw wo q v ss w) (hb : Below w.heap.size w w') : RnAt hw wo q v ss w' :=
 ⟨(hb.cell (World.block_lt_of_cell? w _ h.c0)).trans h.c0, h.f1.below hb, h.hle⟩
theorem RnAt.push {hw : Nat} {wo : World} {q : Int} {v v' : Value} {ss : List St} {s : St} {w w5 w6 : World} (h : RnAt hw wo q v ss w) (hb : Below w.heap.size w w5) (hO : Own False (fun k => k < hw ∨ wo.heap.size < k) 104 4 wo w6.heap.size w6 v' (ss.map St.d ++ [s.d]))
  (hg : w5.grownBy w6 v.ownBlock) (hv : v'.ownBlock = v.ownBlock ∨ v'.ownBlock = some w5.heap.size) : RnAt hw wo q v' (ss ++ [s]) (w6.setCell ⟨wo.heap.size, 1, none⟩ v') ∧ w6.cell? ⟨wo.heap.size, 1, none⟩ = some v ∧ w6.frozen? ⟨wo.heap.size, 1, none⟩ = false := by
 have h5 := h.below hb
 have hlt : wo.heap.size < w5.heap.size := World.block_lt_of_cell? w5 _ h5.c0
 obtain ⟨a1, a2, a3, a4, a5, a6, a7⟩ := h.f1.push hb hO hg hv (.inr hlt)
 have hle := h.hle
 refine ⟨⟨a6 _ _ h5.c0 (by simp; omega) (by simp), ?_, h.hle⟩, a2, a3⟩
 rw [List.map_append]; exact a1
def refP (wb w : World) (k : Nat) : Prop := k < wb.heap.size ∨ w.heap.size ≤ k
set_option maxHeartbeats 8000000 in
set_option maxRecDepth 100000 in
theorem ref4_in (M : Tab) (v : Value) (wb w : World) (h0 : Has wb v (dTab M)) (hbw0 : Below wb.heap.size wb w) (hsm : SmallTab M) :
    Calls Try.prog 27 #[v] w fun e w' => ∃ u, e = .returned u ∧ Holds False (refP wb w) w' u (dTab M) ∧ Below w.heap.size w w' := by
  have h := h0.later hbw0
  have HBW := Lib.hid hbw0
  have Hwz1 := Lib.hid hbw0.size
  obtain ⟨ta, tc, rfl⟩ := slice_of h
  obtain ⟨iN, hiN, hzN, hsN, hbN⟩ := info_parts infoRNd
  obtain ⟨iS, hiS, hzS, hsS, hbS⟩ := info_parts infoRState
  obtain ⟨tl, htl⟩ : ∃ tl, tl = M.length := ⟨_, rfl⟩
  have H := Lib.hid h0
  rw [← htl] at H ⊢
  have TL := Lib.hid htl
  have HSM := Lib.hid hsm
  have htl6 : tl ≤ 1000000 := by rw [htl]; exact hsm.1
  have O0 := Own.made (S := False) (P := refP wb w) (E := 75) (n := 2) (Below.refl w.heap.size w)
  rw [show w.heap.size + 1 = (w.alloc (.cells #[] 75)).heap.size by simp] at O0
  have B0 := Lib.hid (show Bld False (refP wb w) 75 2 w (w.alloc (.cells #[] 75)).heap.size (w.alloc (.cells #[] 75)) (.slice (some ⟨w.heap.size, 0, none⟩) 0 0) [] from ⟨O0, fun k hk => by simp [Value.ownBlock] at hk; exact .inr (by omega)⟩)
  clear h htl O0 hsm
  go_enter Try.func27, Try.ntmps27
  go_wp2_with fail
  go_loopw [3, 4] (fun q i wr => ∃ k : Nat, i = .int .i64 k ∧ k ≤ tl ∧ Bld False (refP wb w) 75 2 w wr.heap.size wr q ((M.take k).map Nd.d)) (fun _ i _ => tl - (intOf i).toNat)
  case atStart => exact ⟨0, rfl, by omega, by rw [List.take_zero]; exact B0.out⟩
  case round =>
    rename Value => q
    obtain ⟨k, rfl, hk, hB⟩ := hrel
    have BB := Lib.hid hB
    have HT := H.out.later (below_step HBW.out.size HBW.out hB.own.bel)
    obtain ⟨qa, qc, hq⟩ := hB.own.slice
    rw [List.length_map, List.length_take, ← TL.out, Nat.min_eq_left hk] at hq
    subst hq
    clear hB
    by_cases hlt : k < tl
    · have hlt' : (k : Int) < tl := by omega
      · obtain ⟨wo, hwo⟩ : ∃ wo, wo = wr := ⟨_, rfl⟩
        subst hwo
        obtain ⟨x, hx⟩ := some_of_lt (l := M) (i := k) (by rw [← TL.out]; exact hlt)
        obtain ⟨tb, tqo, tcap, vs, e, htb, _, x0, x1, hS⟩ := nd_cells H.out hx
        rw [← TL.out] at e
        simp only [Value.slice.injEq] at e
        obtain ⟨e, _, e'⟩ := e
        subst e e'
        obtain ⟨sa, sc, rfl⟩ := slice_of hS
        obtain ⟨sn, hsn⟩ : ∃ sn, sn = x.states.length := ⟨_, rfl⟩
        obtain ⟨q0, hq0⟩ : ∃ q0, q0 = x.start := ⟨_, rfl⟩
        rw [← hsn] at x1 hS
        rw [← hq0] at x0
        have Sn := Lib.hid hsn
        have Q0 := Lib.hid hq0
        have Hx := Lib.hid hx
        have HS := Lib.hid hS
        have X1 := Lib.hid x1
        have y0 := ((below_step HBW.out.size HBW.out BB.out.own.bel).cell (by exact htb)).trans x0
        have N0 := Lib.hid (RnAt.start wb.heap.size wo q0 (Nat.le_trans Hwz1.out BB.out.own.bel.size))
        have hs6 : sn ≤ 1000000 := by rw [hsn]; exact (HSM.out.2 x (List.mem_of_getElem? hx)).1
        have HXS := Lib.hid (HSM.out.2 x (List.mem_of_getElem? hx)).2
        have Hwz0 := Lib.hid BB.out.own.bel.size
        clear hx hS hsn hq0 x0 x1 HT
        go_wp2_with fail
        go_loopw [6] (fun i wr => ∃ (j : Nat) (v : Value), i = .int .i64 j ∧ j ≤ sn ∧ RnAt wb.heap.size wo q0 v (x.states.take j) wr) (fun i _ => sn - (intOf i).toNat)
        case atStart => exact ⟨0, _, rfl, by omega, by rw [List.take_zero]; exact N0.out⟩
        case round =>
          obtain ⟨j, v, rfl, hj, hN⟩ := hrel
          have NN := Lib.hid hN
          have hbw := hN.f1.bld.own.bel
          have BW := Lib.hid hbw
          have hbww := below_step BB.out.own.bel.size BB.out.own.bel hbw
          have BWW := Lib.hid hbww
          have z1 := ((below_step HBW.out.size HBW.out hbww).cell (by exact htb)).trans X1.out
          obtain ⟨va, vc, hv⟩ := hN.f1.bld.own.slice
          rw [List.length_map, List.length_take, ← Sn.out, Nat.min_eq_left hj] at hv
          subst hv
          have c0 := hN.c0
          have c1 := hN.f1.cell
          clear hN hbw hbww
          by_cases hlj : j < sn
          · have hlj' : (j : Int) < sn := by omega
            · obtain ⟨s, hs⟩ := some_of_lt (l := x.states) (i := j) (by rw [← Sn.out]; exact hlj)
              obtain ⟨b4, o4, cap4, m, a1, n1, c1', a2, n2, c2', a3, n3, c3', e, hb4, hE, hX⟩ := ebox_of HS.out hs
              clear hX
              rw [← Sn.out] at e
              simp only [Value.slice.injEq] at e
              obtain ⟨e, _, e2⟩ := e
              subst e e2
              have E := Lib.hid (hE.below (below_step HBW.out.size HBW.out BWW.out))
              have Hs := Lib.hid hs
              have ES := Lib.hid hE.st
              have QS : Hid (∀ w', Below wr.heap.size wr w' → w'.cell? ⟨tb, tqo + k * 2 + 1, none⟩ = some (.slice (some ⟨b4, o4, none⟩) sn sc) ∧ w'.cell? ⟨b4, o4 + j * 4, none⟩ = some (.int .i64 m) ∧ w'.cell? ⟨b4, o4 + j * 4 + 1, none⟩ = some (.slice a1 n1 c1') ∧ w'.cell? ⟨b4, o4 + j * 4 + 2, none⟩ = some (.slice a2 n2 c2') ∧ w'.cell? ⟨b4, o4 + j * 4 + 3, none⟩ = some (.slice a3 n3 c3')) := Lib.hid (fun w' hb => ⟨(hb.cell (World.block_lt_of_cell? wr _ z1)).trans z1, (hb.cell (World.block_lt_of_cell? wr _ E.out.e0)).trans E.out.e0, (hb.cell (World.block_lt_of_cell? wr _ E.out.e1)).trans E.out.e1, (hb.cell (World.block_lt_of_cell? wr _ E.out.e2)).trans E.out.e2, (hb.cell (World.block_lt_of_cell? wr _ E.out.e3)).trans E.out.e3⟩)
              have QB : Hid (∀ w', Below wr.heap.size wr w' → w'.cell? ⟨wo.heap.size, 1, none⟩ = some (.slice va j vc)) := Lib.hid (fun w' hb => (hb.cell (World.block_lt_of_cell? wr _ c1)).trans c1)
              have Hb4 := Lib.hid hb4
              have Hwz := Lib.hid BB.out.own.bel.size
              clear hs hE
              go_wp2_with fail
              clear c1 z1 y0
              refine wp_region_held_drew (S := (fun w' => w'.cell? ⟨tb, tqo + k * 2 + 1, none⟩ = some (.slice (some ⟨b4, o4, none⟩) sn sc) ∧ w'.cell? ⟨b4, o4 + j * 4, none⟩ = some (.int .i64 m) ∧ w'.cell? ⟨b4, o4 + j * 4 + 1, none⟩ = some (.slice a1 n1 c1') ∧ w'.cell? ⟨b4, o4 + j * 4 + 2, none⟩ = some (.slice a2 n2 c2') ∧ w'.cell? ⟨b4, o4 + j * 4 + 3, none⟩ = some (.slice a3 n3 c3'))) (by kernel_rfl) ?_ (fun hHeld => ?_)
              · exact QS.out _ (by go_grown)
              refine tq 0 ?_
              refine tq 2 ?_
              refine tq 3 ?_
              refine tq 4 ?_
              refine tq 5 ?_
              refine tq 6 ?_
              refine tq 7 ?_
              refine tq 8 ?_
              refine tq 9 ?_
              refine wpAnyH_ready (rs := [1, 10]) (by kernel_rfl) (by simp) ?_
              refine AllReadyH.cons rfl (fun K hK => ?_) (AllReadyH.cons rfl (fun K hK => ?_) AllReadyH.nil)
              · have rr := QB.out wr.drew (show Below wr.heap.size wr wr.drew from below_drewN (Below.refl _ wr) 1)
                go_simp
                refine hK.out _ _ ?_ (fun hHeld => ?_)
                · exact QS.out _ (by go_grown)
                clear hK K
                try simp only [Act.put, List.getElem_toArray, List.getElem_cons_zero, List.getElem_cons_succ, List.setIfInBounds_toArray, List.set_cons_zero, List.set_cons_succ]
                refine rd 10 fun K hK => ?_
                go_simp
                refine (state_in s _ wb _ ES.out (below_drewN (below_step HBW.out.size HBW.out BWW.out) 1) (HXS.out s (List.mem_of_getElem? Hs.out))).mono ?_
                rintro e w4 ⟨cs, rfl, hcs, hb4'⟩
                obtain ⟨d0, d1, d2, d3, rfl⟩ : ∃ d0 d1 d2 d3, cs = [d0, d1, d2, d3] := by obtain ⟨hl, _⟩ := hcs; match cs, hl with | [x0, x1, x2, x3], _ => exact ⟨_, _, _, _, rfl⟩
                have HC := Lib.hid hcs
                have BN := Lib.hid (below_step (by simp) (below_drewN (Below.refl wr.heap.size wr) 1) hb4')
                clear hcs hb4'
                go_wp2_with fail
                refine hK.out _ _ ?_ (fun hHeld => ?_)
                · exact QS.out _ BN.out
                clear hK K
                try simp only [Act.put, List.getElem_toArray, List.getElem_cons_zero, List.getElem_cons_succ, List.setIfInBounds_toArray, List.set_cons_zero, List.set_cons_succ]
                refine rd 11 fun K hK => ?_
                go_simp
                refine hK.out _ _ ?_ (fun hHeld => ?_)
                · exact QS.out _ (by have := BN.out; have hz := this.size; go_grown)
                clear hK K
                try simp only [Act.put, List.getElem_toArray, List.getElem_cons_zero, List.getElem_cons_succ, List.setIfInBounds_toArray, List.set_cons_zero, List.set_cons_succ]
                refine rd 12 fun K hK => ?_
                obtain ⟨w5, hw5⟩ : ∃ w5, w5 = (w4.alloc (.cells #[d0, d1, d2, d3] 104)) := ⟨_, rfl⟩
                have hb45 : Below w4.heap.size w4 w5 := by rw [hw5]; exact below_new _ _
                have hx5 := below_step BN.out.size BN.out hb45
                have n5 : ∀ j0 u, [d0, d1, d2, d3][j0]? = some u → w5.cell? ((⟨w4.heap.size, 0, none⟩ : Addr).add j0) = some u := fun j0 u hj0 => by rw [hw5, Go.WideShapes.add_plain, Nat.zero_add, World.cell?_alloc_at _ _ _ _ rfl, List.getElem?_toArray]; exact hj0
                have HL5 := Lib.hid (show HoldsL False (fun kz => (kz < wb.heap.size ∨ wo.heap.size < kz) ∧ (Value.slice va j vc).ownBlock ≠ some kz ∧ (False → wr.heap.size ≤ kz)) w5 [d0, d1, d2, d3] s.d from (HC.out.later hb45).wide (fun kz _ hkz => by have h1 : kz < wb.heap.size ∨ wr.heap.size ≤ kz := hkz; have h2 : wo.heap.size < wr.heap.size := World.block_lt_of_cell? wr _ NN.out.c0; have h3 := NN.out.f1.bld.own.ge; exact ⟨by omega, fun e => by have h4 := NN.out.f1.bld.own.blk kz e; have h5 := (h3 kz e).1; have := Hwz.out; have := Hwz1.out; omega, fun f => f.elim⟩))
                have N5 := Lib.hid n5
                have X5 := Lib.hid hx5
                rw [← hw5]
                clear hb45 hx5 n5 hw5
                refine appS (by rfl) _ _ 73 104 iS (.agg #[.int .i64 0, .slice none 0 0, .slice none 0 0, .slice none 0 0]) 4 80 (by rfl) Try.underlying73 hiS hzS hsS hbS rfl (by decide) False (fun kz => kz < wb.heap.size ∨ wo.heap.size < kz) wo wr.heap.size _ ((x.states.take j).map St.d) [s.d] j 1 1 (j + 1) rfl (by exact (NN.out.f1.bld.own.later X5.out)) (by simp; rw [← Sn.out]; omega) (some ⟨w4.heap.size, 0, none⟩) (by rfl) [d0, d1, d2, d3] (fun a ha => by cases ha; exact N5.out) (fun e => by cases e) (by simp [St.d]) rfl (by rw [List.flatten_cons, List.flatten_nil, List.append_nil]; exact HL5.out) rfl (by unfold maxLen; omega) (by omega) ?_
                intro ao6 cv6 w6 hO6 hg6 hb6
                obtain ⟨hCN, hc6, hf6⟩ := NN.out.push X5.out hO6 hg6 hb6
                have CN := Lib.hid hCN
                have K6 : Hid (∀ (b i : Nat) (u : Value), b < w.heap.size → w5.cell? ⟨b, i, none⟩ = some u → w6.cell? ⟨b, i, none⟩ = some u) := Lib.hid (fun b i u hb hu => grown_at hg6 (fun e => by have := (NN.out.f1.bld.own.ge _ e).1; have := Hwz.out; have := Hwz1.out; omega) hu)
                have v0 := K6.out _ _ _ (by have := Hwz1.out; omega) (QS.out _ X5.out).1
                have v1 := K6.out _ _ _ (by have := Hwz1.out; have := Hb4.out; omega) (QS.out _ X5.out).2.1
                have v2 := K6.out _ _ _ (by have := Hwz1.out; have := Hb4.out; omega) (QS.out _ X5.out).2.2.1
                have v3 := K6.out _ _ _ (by have := Hwz1.out; have := Hb4.out; omega) (QS.out _ X5.out).2.2.2.1
                have v4 := K6.out _ _ _ (by have := Hwz1.out; have := Hb4.out; omega) (QS.out _ X5.out).2.2.2.2
                clear hO6 hg6 hb6 hCN
                refine hK.out _ _ ?_ (fun hHeld => ?_)
                · exact ⟨v0, v1, v2, v3, v4⟩
                clear hK K
                try simp only [Act.put, List.getElem_toArray, List.getElem_cons_zero, List.getElem_cons_succ, List.setIfInBounds_toArray, List.set_cons_zero, List.set_cons_succ]
                refine tq 13 ?_
                refine rd 14 fun K hK => ?_
                go_simp
                refine hK.out _ _ ?_ (fun hHeld => ?_)
                · exact ⟨by rw [World.cell?_setCell_other _ _ _ _ (by have := Hwz.out; have := Hwz1.out; have := Hb4.out; simp <;> omega)]; exact v0, by rw [World.cell?_setCell_other _ _ _ _ (by have := Hwz.out; have := Hwz1.out; have := Hb4.out; simp <;> omega)]; exact v1, by rw [World.cell?_setCell_other _ _ _ _ (by have := Hwz.out; have := Hwz1.out; have := Hb4.out; simp <;> omega)]; exact v2, by rw [World.cell?_setCell_other _ _ _ _ (by have := Hwz.out; have := Hwz1.out; have := Hb4.out; simp <;> omega)]; exact v3, by rw [World.cell?_setCell_other _ _ _ _ (by have := Hwz.out; have := Hwz1.out; have := Hb4.out; simp <;> omega)]; exact v4⟩
                clear hK K
                try simp only [Act.put, List.getElem_toArray, List.getElem_cons_zero, List.getElem_cons_succ, List.setIfInBounds_toArray, List.set_cons_zero, List.set_cons_succ]
                refine wpAnyH_done (by kernel_rfl) ?_ _
                go_wp2_with fail
                go_roundw
                case rel =>
                  refine ⟨j + 1, .slice ao6 (j + 1) cv6, by go_num, by omega, ?_⟩
                  rw [List.take_add_one, Hs.out]
                  exact CN.out
                case measure => simp [intOf]; omega
              · go_simp
                refine (state_in s _ wb _ ES.out (below_drewN (below_step HBW.out.size HBW.out BWW.out) 1) (HXS.out s (List.mem_of_getElem? Hs.out))).mono ?_
                rintro e w4 ⟨cs, rfl, hcs, hb4'⟩
                obtain ⟨d0, d1, d2, d3, rfl⟩ : ∃ d0 d1 d2 d3, cs = [d0, d1, d2, d3] := by obtain ⟨hl, _⟩ := hcs; match cs, hl with | [x0, x1, x2, x3], _ => exact ⟨_, _, _, _, rfl⟩
                have HC := Lib.hid hcs
                have BN := Lib.hid (below_step (by simp) (below_drewN (Below.refl wr.heap.size wr) 1) hb4')
                clear hcs hb4'
                go_wp2_with fail
                refine hK.out _ _ ?_ (fun hHeld => ?_)
                · exact QS.out _ BN.out
                clear hK K
                try simp only [Act.put, List.getElem_toArray, List.getElem_cons_zero, List.getElem_cons_succ, List.setIfInBounds_toArray, List.set_cons_zero, List.set_cons_succ]
                refine wpAnyH_ready (rs := [1, 11]) (by kernel_rfl) (by simp) ?_
                refine AllReadyH.cons rfl (fun K hK => ?_) (AllReadyH.cons rfl (fun K hK => ?_) AllReadyH.nil)
                · have rr := QB.out w4 (show Below wr.heap.size wr w4 from BN.out)
                  go_simp
                  refine hK.out _ _ ?_ (fun hHeld => ?_)
                  · exact QS.out _ BN.out
                  clear hK K
                  try simp only [Act.put, List.getElem_toArray, List.getElem_cons_zero, List.getElem_cons_succ, List.setIfInBounds_toArray, List.set_cons_zero, List.set_cons_succ]
                  refine rd 11 fun K hK => ?_
                  go_simp
                  refine hK.out _ _ ?_ (fun hHeld => ?_)
                  · exact QS.out _ (by have := BN.out; have hz := this.size; go_grown)
                  clear hK K
                  try simp only [Act.put, List.getElem_toArray, List.getElem_cons_zero, List.getElem_cons_succ, List.setIfInBounds_toArray, List.set_cons_zero, List.set_cons_succ]
                  refine rd 12 fun K hK => ?_
                  obtain ⟨w5, hw5⟩ : ∃ w5, w5 = (w4.alloc (.cells #[d0, d1, d2, d3] 104)) := ⟨_, rfl⟩
                  have hb45 : Below w4.heap.size w4 w5 := by rw [hw5]; exact below_new _ _
                  have hx5 := below_step BN.out.size BN.out hb45
                  have n5 : ∀ j0 u, [d0, d1, d2, d3][j0]? = some u → w5.cell? ((⟨w4.heap.size, 0, none⟩ : Addr).add j0) = some u := fun j0 u hj0 => by rw [hw5, Go.WideShapes.add_plain, Nat.zero_add, World.cell?_alloc_at _ _ _ _ rfl, List.getElem?_toArray]; exact hj0
                  have HL5 := Lib.hid (show HoldsL False (fun kz => (kz < wb.heap.size ∨ wo.heap.size < kz) ∧ (Value.slice va j vc).ownBlock ≠ some kz ∧ (False → wr.heap.size ≤ kz)) w5 [d0, d1, d2, d3] s.d from (HC.out.later hb45).wide (fun kz _ hkz => by have h1 : kz < wb.heap.size ∨ wr.heap.size ≤ kz := hkz; have h2 : wo.heap.size < wr.heap.size := World.block_lt_of_cell? wr _ NN.out.c0; have h3 := NN.out.f1.bld.own.ge; exact ⟨by omega, fun e => by have h4 := NN.out.f1.bld.own.blk kz e; have h5 := (h3 kz e).1; have := Hwz.out; have := Hwz1.out; omega, fun f => f.elim⟩))
                  have N5 := Lib.hid n5
                  have X5 := Lib.hid hx5
                  rw [← hw5]
                  clear hb45 hx5 n5 hw5
                  refine appS (by rfl) _ _ 73 104 iS (.agg #[.int .i64 0, .slice none 0 0, .slice none 0 0, .slice none 0 0]) 4 80 (by rfl) Try.underlying73 hiS hzS hsS hbS rfl (by decide) False (fun kz => kz < wb.heap.size ∨ wo.heap.size < kz) wo wr.heap.size _ ((x.states.take j).map St.d) [s.d] j 1 1 (j + 1) rfl (by exact (NN.out.f1.bld.own.later X5.out)) (by simp; rw [← Sn.out]; omega) (some ⟨w4.heap.size, 0, none⟩) (by rfl) [d0, d1, d2, d3] (fun a ha => by cases ha; exact N5.out) (fun e => by cases e) (by simp [St.d]) rfl (by rw [List.flatten_cons, List.flatten_nil, List.append_nil]; exact HL5.out) rfl (by unfold maxLen; omega) (by omega) ?_
                  intro ao6 cv6 w6 hO6 hg6 hb6
                  obtain ⟨hCN, hc6, hf6⟩ := NN.out.push X5.out hO6 hg6 hb6
                  have CN := Lib.hid hCN
                  have K6 : Hid (∀ (b i : Nat) (u : Value), b < w.heap.size → w5.cell? ⟨b, i, none⟩ = some u → w6.cell? ⟨b, i, none⟩ = some u) := Lib.hid (fun b i u hb hu => grown_at hg6 (fun e => by have := (NN.out.f1.bld.own.ge _ e).1; have := Hwz.out; have := Hwz1.out; omega) hu)
                  have v0 := K6.out _ _ _ (by have := Hwz1.out; omega) (QS.out _ X5.out).1
                  have v1 := K6.out _ _ _ (by have := Hwz1.out; have := Hb4.out; omega) (QS.out _ X5.out).2.1
                  have v2 := K6.out _ _ _ (by have := Hwz1.out; have := Hb4.out; omega) (QS.out _ X5.out).2.2.1
                  have v3 := K6.out _ _ _ (by have := Hwz1.out; have := Hb4.out; omega) (QS.out _ X5.out).2.2.2.1
                  have v4 := K6.out _ _ _ (by have := Hwz1.out; have := Hb4.out; omega) (QS.out _ X5.out).2.2.2.2
                  clear hO6 hg6 hb6 hCN
                  refine hK.out _ _ ?_ (fun hHeld => ?_)
                  · exact ⟨v0, v1, v2, v3, v4⟩
                  clear hK K
                  try simp only [Act.put, List.getElem_toArray, List.getElem_cons_zero, List.getElem_cons_succ, List.setIfInBounds_toArray, List.set_cons_zero, List.set_cons_succ]
                  refine tq 13 ?_
                  refine rd 14 fun K hK => ?_
                  go_simp
                  refine hK.out _ _ ?_ (fun hHeld => ?_)
                  · exact ⟨by rw [World.cell?_setCell_other _ _ _ _ (by have := Hwz.out; have := Hwz1.out; have := Hb4.out; simp <;> omega)]; exact v0, by rw [World.cell?_setCell_other _ _ _ _ (by have := Hwz.out; have := Hwz1.out; have := Hb4.out; simp <;> omega)]; exact v1, by rw [World.cell?_setCell_other _ _ _ _ (by have := Hwz.out; have := Hwz1.out; have := Hb4.out; simp <;> omega)]; exact v2, by rw [World.cell?_setCell_other _ _ _ _ (by have := Hwz.out; have := Hwz1.out; have := Hb4.out; simp <;> omega)]; exact v3, by rw [World.cell?_setCell_other _ _ _ _ (by have := Hwz.out; have := Hwz1.out; have := Hb4.out; simp <;> omega)]; exact v4⟩
                  clear hK K
                  try simp only [Act.put, List.getElem_toArray, List.getElem_cons_zero, List.getElem_cons_succ, List.setIfInBounds_toArray, List.set_cons_zero, List.set_cons_succ]
                  refine wpAnyH_done (by kernel_rfl) ?_ _
                  go_wp2_with fail
                  go_roundw
                  case rel =>
                    refine ⟨j + 1, .slice ao6 (j + 1) cv6, by go_num, by omega, ?_⟩
                    rw [List.take_add_one, Hs.out]
                    exact CN.out
                  case measure => simp [intOf]; omega
                · go_simp
                  refine hK.out _ _ ?_ (fun hHeld => ?_)
                  · exact QS.out _ (by have := BN.out; have hz := this.size; go_grown)
                  clear hK K
                  try simp only [Act.put, List.getElem_toArray, List.getElem_cons_zero, List.getElem_cons_succ, List.setIfInBounds_toArray, List.set_cons_zero, List.set_cons_succ]
                  refine rd 1 fun K hK => ?_
                  have rr := QB.out (w4.alloc (.cells #[d0, d1, d2, d3] 104)) (show Below wr.heap.size wr (w4.alloc (.cells #[d0, d1, d2, d3] 104)) from below_step BN.out.size BN.out (below_new w4 _))
                  go_simp
                  refine hK.out _ _ ?_ (fun hHeld => ?_)
                  · exact QS.out _ (by have := BN.out; have hz := this.size; go_grown)
                  clear hK K
                  try simp only [Act.put, List.getElem_toArray, List.getElem_cons_zero, List.getElem_cons_succ, List.setIfInBounds_toArray, List.set_cons_zero, List.set_cons_succ]
                  refine rd 12 fun K hK => ?_
                  obtain ⟨w5, hw5⟩ : ∃ w5, w5 = (w4.alloc (.cells #[d0, d1, d2, d3] 104)) := ⟨_, rfl⟩
                  have hb45 : Below w4.heap.size w4 w5 := by rw [hw5]; exact below_new _ _
                  have hx5 := below_step BN.out.size BN.out hb45
                  have n5 : ∀ j0 u, [d0, d1, d2, d3][j0]? = some u → w5.cell? ((⟨w4.heap.size, 0, none⟩ : Addr).add j0) = some u := fun j0 u hj0 => by rw [hw5, Go.WideShapes.add_plain, Nat.zero_add, World.cell?_alloc_at _ _ _ _ rfl, List.getElem?_toArray]; exact hj0
                  have HL5 := Lib.hid (show HoldsL False (fun kz => (kz < wb.heap.size ∨ wo.heap.size < kz) ∧ (Value.slice va j vc).ownBlock ≠ some kz ∧ (False → wr.heap.size ≤ kz)) w5 [d0, d1, d2, d3] s.d from (HC.out.later hb45).wide (fun kz _ hkz => by have h1 : kz < wb.heap.size ∨ wr.heap.size ≤ kz := hkz; have h2 : wo.heap.size < wr.heap.size := World.block_lt_of_cell? wr _ NN.out.c0; have h3 := NN.out.f1.bld.own.ge; exact ⟨by omega, fun e => by have h4 := NN.out.f1.bld.own.blk kz e; have h5 := (h3 kz e).1; have := Hwz.out; have := Hwz1.out; omega, fun f => f.elim⟩))
                  have N5 := Lib.hid n5
                  have X5 := Lib.hid hx5
                  rw [← hw5]
                  clear hb45 hx5 n5 hw5
                  refine appS (by rfl) _ _ 73 104 iS (.agg #[.int .i64 0, .slice none 0 0, .slice none 0 0, .slice none 0 0]) 4 80 (by rfl) Try.underlying73 hiS hzS hsS hbS rfl (by decide) False (fun kz => kz < wb.heap.size ∨ wo.heap.size < kz) wo wr.heap.size _ ((x.states.take j).map St.d) [s.d] j 1 1 (j + 1) rfl (by exact (NN.out.f1.bld.own.later X5.out)) (by simp; rw [← Sn.out]; omega) (some ⟨w4.heap.size, 0, none⟩) (by rfl) [d0, d1, d2, d3] (fun a ha => by cases ha; exact N5.out) (fun e => by cases e) (by simp [St.d]) rfl (by rw [List.flatten_cons, List.flatten_nil, List.append_nil]; exact HL5.out) rfl (by unfold maxLen; omega) (by omega) ?_
                  intro ao6 cv6 w6 hO6 hg6 hb6
                  obtain ⟨hCN, hc6, hf6⟩ := NN.out.push X5.out hO6 hg6 hb6
                  have CN := Lib.hid hCN
                  have K6 : Hid (∀ (b i : Nat) (u : Value), b < w.heap.size → w5.cell? ⟨b, i, none⟩ = some u → w6.cell? ⟨b, i, none⟩ = some u) := Lib.hid (fun b i u hb hu => grown_at hg6 (fun e => by have := (NN.out.f1.bld.own.ge _ e).1; have := Hwz.out; have := Hwz1.out; omega) hu)
                  have v0 := K6.out _ _ _ (by have := Hwz1.out; omega) (QS.out _ X5.out).1
                  have v1 := K6.out _ _ _ (by have := Hwz1.out; have := Hb4.out; omega) (QS.out _ X5.out).2.1
                  have v2 := K6.out _ _ _ (by have := Hwz1.out; have := Hb4.out; omega) (QS.out _ X5.out).2.2.1
                  have v3 := K6.out _ _ _ (by have := Hwz1.out; have := Hb4.out; omega) (QS.out _ X5.out).2.2.2.1
                  have v4 := K6.out _ _ _ (by have := Hwz1.out; have := Hb4.out; omega) (QS.out _ X5.out).2.2.2.2
                  clear hO6 hg6 hb6 hCN
                  refine hK.out _ _ ?_ (fun hHeld => ?_)
                  · exact ⟨v0, v1, v2, v3, v4⟩
                  clear hK K
                  try simp only [Act.put, List.getElem_toArray, List.getElem_cons_zero, List.getElem_cons_succ, List.setIfInBounds_toArray, List.set_cons_zero, List.set_cons_succ]
                  refine tq 13 ?_
                  refine rd 14 fun K hK => ?_
                  go_simp
                  refine hK.out _ _ ?_ (fun hHeld => ?_)
                  · exact ⟨by rw [World.cell?_setCell_other _ _ _ _ (by have := Hwz.out; have := Hwz1.out; have := Hb4.out; simp <;> omega)]; exact v0, by rw [World.cell?_setCell_other _ _ _ _ (by have := Hwz.out; have := Hwz1.out; have := Hb4.out; simp <;> omega)]; exact v1, by rw [World.cell?_setCell_other _ _ _ _ (by have := Hwz.out; have := Hwz1.out; have := Hb4.out; simp <;> omega)]; exact v2, by rw [World.cell?_setCell_other _ _ _ _ (by have := Hwz.out; have := Hwz1.out; have := Hb4.out; simp <;> omega)]; exact v3, by rw [World.cell?_setCell_other _ _ _ _ (by have := Hwz.out; have := Hwz1.out; have := Hb4.out; simp <;> omega)]; exact v4⟩
                  clear hK K
                  try simp only [Act.put, List.getElem_toArray, List.getElem_cons_zero, List.getElem_cons_succ, List.setIfInBounds_toArray, List.set_cons_zero, List.set_cons_succ]
                  refine wpAnyH_done (by kernel_rfl) ?_ _
                  go_wp2_with fail
                  go_roundw
                  case rel =>
                    refine ⟨j + 1, .slice ao6 (j + 1) cv6, by go_num, by omega, ?_⟩
                    rw [List.take_add_one, Hs.out]
                    exact CN.out
                  case measure => simp [intOf]; omega
          · have hlj' : ¬ (j : Int) < sn := by omega
            have EndS : Hid (x.states.take j = x.states) := Lib.hid (List.take_of_length_le (by rw [← Sn.out]; omega))
            have O9 := Lib.hid (BB.out.own.later BW.out)
            have HW9 := Lib.hid (NN.out.f1.bld.holds)
            obtain ⟨wZ, hwZ⟩ : ∃ wZ, wZ = wr.alloc (.cells #[.int .i64 q0, .slice va j vc] 75) := ⟨_, rfl⟩
            have hbZ : Below wr.heap.size wr wZ := by rw [hwZ]; exact below_new _ _
            have hZ := below_step BW.out.size BW.out hbZ
            have OZ := Lib.hid (BB.out.own.later hZ)
            have C1 := Lib.hid (show ∀ a0 : Addr, some (⟨wr.heap.size, 0, none⟩ : Addr) = some a0 → ∀ (j0 : Nat) (u : Value), [Value.int .i64 q0, .slice va j vc][j0]? = some u → wZ.cell? (a0.add j0) = some u from fun a0 ha j0 u hj0 => by
              cases ha
              rw [hwZ, Go.WideShapes.add_plain, Nat.zero_add, World.cell?_alloc_at _ _ _ _ rfl, List.getElem?_toArray]
              exact hj0)
            have hlw : wo.heap.size < wr.heap.size := World.block_lt_of_cell? wr _ c0
            have HLZ := Lib.hid (show HoldsL False (fun kz => refP wb w kz ∧ (Value.slice qa k qc).ownBlock ≠ some kz ∧ (False → wo.heap.size ≤ kz)) wZ [.int .i64 q0, .slice va j vc] x.d from by
              show HoldsL False _ wZ _ [dI x.start, dStates x.states]
              rw [← Q0.out]
              refine consF' (.atom _ _ _ rfl) (consF' ?_ (hasL_nil _ _ _))
              have := (HW9.out.later hbZ).wide (P' := fun kz => refP wb w kz ∧ (Value.slice qa k qc).ownBlock ≠ some kz ∧ (False → wo.heap.size ≤ kz)) (fun kz _ (hkz : kz < wb.heap.size ∨ wo.heap.size < kz) => ⟨(by have h4 : w.heap.size ≤ wo.heap.size := Hwz0.out; exact hkz.elim .inl (fun h => .inr (by omega))), fun e => by have h3 := Hwz1.out; have h1 := BB.out.own.blk kz e; have h2 := (BB.out.own.ge kz e).1; omega, fun f => f.elim⟩)
              rw [EndS.out] at this
              have hl : j = x.states.length := by rw [← Sn.out]; omega
              exact this)
            have WZ := Lib.hid hwZ
            have HZ := Lib.hid hZ
            clear hbZ hZ hlw hwZ
            go_wp2_with (at_builtin; go_loud (rw [← WZ.out]; refine appL rfl _ _ 36 75 iN (.agg #[.int .i64 0, .slice none 0 0]) 2 32 rfl Try.underlying36 hiN hzN hsN hbN rfl (by decide) False (refP wb w) w wo.heap.size _ ((M.take k).map Nd.d) [x.d] k 1 1 (k + 1) rfl OZ.out (by simp; rw [← TL.out]; omega) (some ⟨wr.heap.size, 0, none⟩) rfl [.int .i64 q0, .slice va j vc] C1.out (fun e => by cases e) (by simp [Nd.d]) rfl (by rw [List.flatten_cons, List.flatten_nil, List.append_nil]; exact HLZ.out) rfl (by unfold maxLen; omega) (by omega) ?_))
            intro ao cv w13 hO13 hg13 hb13
            have hO13' : Own False (refP wb w) 75 2 w w13.heap.size w13 (.slice ao (k + 1) cv) ((M.take (k + 1)).map Nd.d) := by
              rw [List.take_add_one, Hx.out]
              simpa using hO13
            have B13 := Lib.hid (Bld.of hO13' BB.out.inP hb13 (.inr (by have := HZ.out.size; have := Hwz0.out; omega)))
            clear hO13 hO13' hg13 hb13
            go_wp2_with fail
            go_roundw
            case rel => exact ⟨k + 1, by go_num, by omega, B13.out⟩
            case measure => simp [intOf]; omega
    · have hlt' : ¬ (k : Int) < tl := by omega
      have EndT : Hid (M.take k = M) := Lib.hid (List.take_of_length_le (by rw [← TL.out]; omega))
      go_wp2_with fail
      go_ret
      exact ⟨_, rfl, by have := BB.out.holds; rw [EndT.out] at this; have hl : k = M.length := by rw [← EndT.out, List.length_take, ← TL.out]; omega
                        exact this, BB.out.own.bel⟩
end Go.Proofs.Ytiblcpkejhiehaa

namespace Go.Proofs.Ytiblcpkejhiehaa
open Go.RowKit Go.PlainAid Go.ChangeShapes Go.WideShapes Go.Lib Go.Deep
set_option maxRecDepth 100000 in
theorem row_of_trod {H : Type} {enc : TypeId × Value → H} {W : World} {α : Type} {f : α → List D} {t e : TypeId} {k : Nat} (ht : Try.prog.underlying t = some (.slice e)) (hc : Try.prog.cellsOf e = k) (hk : 0 < k)
    (rd : ∀ (m : Nat) (cs : List Value) (y : DataW H × List MemPlace), DataW.trod enc Try.prog W 0 (fun _ => true) true m e cs = some y → ∃ x : α, HasL W cs (f x) ∧ (f x).length = k)
    {v : Value} {n : Nat} {y : DataW H × List MemPlace} (hd : DataW.trod enc Try.prog W 0 (fun _ => true) true n t [v] = some y) : ∃ xs : List α, Has W v (.row k (xs.map f)) := by
  rcases open_slice ht hd with ⟨h, _⟩ | ⟨a, len, cap, m, n', _, _, h, _, hlc, _, hm, _, hi⟩
  · simp at h
    subst h
    exact ⟨[], .nil _ _ _ _ _⟩
  · simp at h hm
    subst h hm
    rw [hc] at hi
    by_cases h0 : len = 0
    · subst h0; exact ⟨[], .nil _ _ _ _ _⟩
    · have hex : ∀ i : Nat, ∃ q : List Value × α, i < m → (∀ j, j < k → W.cell? (a.add (i * k + j)) = q.1[j]?) ∧ HasL W q.1 (f q.2) ∧ (f q.2).length = k := by
        intro i
        by_cases him : i < m
        · obtain ⟨cs', hcs, ht'⟩ := hi i him
          obtain ⟨_, hcl, hat⟩ := World.cells?_some hcs
          obtain ⟨x, hx, hl⟩ := rd _ _ _ ht'
          refine ⟨(cs', x), fun _ => ⟨fun j hj => ?_, hx, hl⟩⟩
          have := hat j hj
          rw [Go.Deep.add_add] at this
          exact this
        · obtain ⟨cs', hcs, ht'⟩ := hi 0 (by omega)
          obtain ⟨x, hx, hl⟩ := rd _ _ _ ht'
          exact ⟨(cs', x), fun h => absurd h him⟩
      obtain ⟨q, hq⟩ := Classical.axiomOfChoice hex
      obtain ⟨b, off, spot⟩ := a
      have hlen : ∀ i, i < m → (q i).1.length = k := fun i hi => by rw [(hq i hi).2.1.1]; exact (hq i hi).2.2
      have hsome : ∀ i j, i < m → j < k → ∃ c, (q i).1[j]? = some c ∧ W.cell? ((⟨b, off, spot⟩ : Addr).add (i * k + j)) = some c := fun i j hi hj => by
        obtain ⟨c, hc'⟩ := some_of_lt (l := (q i).1) (i := j) (by rw [hlen i hi]; exact hj)
        exact ⟨c, hc', by rw [(hq i hi).1 j hj]; exact hc'⟩
      have hspot : spot = none := by
        obtain ⟨c, _, hc'⟩ := hsome 0 0 (by omega) hk
        simpa [Addr.add] using World.cell?_spot hc'
      subst hspot
      refine ⟨(List.range len).map fun i => (q i).2, ?_⟩
      have e : len = (((List.range len).map fun i => (q i).2).map f).length := by simp
      have hget : ∀ (i : Nat) (ds : List D), (((List.range len).map fun i => (q i).2).map f)[i]? = some ds → i < len ∧ ds = f (q i).2 := fun i ds h => by
        have hil := lt_of_some h
        simp at hil
        refine ⟨hil, ?_⟩
        simp [List.getElem?_range hil] at h
        exact h.symm
      have := Holds.row (S := False) All W b off m k (((List.range len).map fun i => (q i).2).map f) (fun i j => (q i).1.getD j (.bool true)) (fun _ _ => All) (by omega) (by
          obtain ⟨c, _, hc'⟩ := hsome 0 0 (by omega) hk
          have := World.block_lt_of_cell? W _ hc'
          simpa [Addr.add] using this) (by omega) trivial (fun i ds h => by rw [(hget i ds h).2]; exact (hq i (by have := (hget i ds h).1; omega)).2.2)
        (fun i j hi hj => by
          rw [← e] at hi
          obtain ⟨c, h1, h2⟩ := hsome i j (by omega) hj
          rw [Go.WideShapes.add_plain] at h2
          rw [Nat.add_assoc, h2]
          simp [List.getD, h1])
        (fun i j ds d h1 h2 => by
          obtain ⟨hil, rfl⟩ := hget i ds h1
          obtain ⟨hl, fp, _, _, g⟩ := (hq i (by omega)).2.1
          have hj := lt_of_some h2
          obtain ⟨c, hc'⟩ := some_of_lt (l := (q i).1) (i := j) (by rw [hl]; exact hj)
          have := (g j c d hc' h2).weak
          simpa [List.getD, hc'] using this)
        (fun _ _ _ _ => trivial) (fun s => s.elim) (fun s => s.elim)
      rw [← e] at this
      exact this
section
variable {H : Type} {enc : TypeId × Value → H} {W : World} {n : Nat} {y : DataW H × List MemPlace}
set_option maxRecDepth 100000
theorem ints_has_trod {v : Value} (hd : DataW.trod enc Try.prog W 0 (fun _ => true) true n 28 [v] = some y) : ∃ xs : List Int, Has W v (dInts xs) :=
 row_of_trod Try.underlying28 (by kernel_rfl) (by omega) (fun m cs y h => by
  obtain ⟨a, rfl, -, -⟩ := DataW.trod_int Try.underlying3 h
  exact ⟨a, .mk (has_int _ _ _ _) (hasL_nil _ _ _), rfl⟩) hd
theorem sends_of_trod {v : Value} (hd : DataW.trod enc Try.prog W 0 (fun _ => true) true n 126 [v] = some y) : ∃ xs : Lks, Has W v (dLinks xs) :=
 row_of_trod Try.underlying126 (by kernel_rfl) (by omega) (fun m cs y h => by
  obtain ⟨y0, y1, k, -, hl, h0, h1⟩ := trod_struct2 Try.underlying125 h
  rw [show Try.prog.cellsOf 125 = 2 by kernel_rfl] at hl
  obtain ⟨a, ha, -, -⟩ := DataW.trod_int Try.underlying3 h0
  obtain ⟨b, hb, -, -⟩ := DataW.trod_int Try.underlying3 h1
  match cs, hl with
  | [c0, c1], _ =>
   rw [show Try.prog.cellsOf 3 = 1 by kernel_rfl] at ha hb
   simp at ha hb
   subst ha hb
   exact ⟨(a, b), .mk (has_int _ _ _ _) (.mk (has_int _ _ _ _) (hasL_nil _ _ _)), rfl⟩) hd
theorem picks_of_trod {v : Value} (hd : DataW.trod enc Try.prog W 0 (fun _ => true) true n 108 [v] = some y) : ∃ xs : List Pk, Has W v (dPicks xs) :=
 row_of_trod Try.underlying108 (by kernel_rfl) (by omega) (fun m cs y h => by
  obtain ⟨y0, y1, k, -, hl, h0, h1⟩ := trod_struct2 Try.underlying128 h
  rw [show Try.prog.cellsOf 128 = 2 by kernel_rfl] at hl
  obtain ⟨a, ha, -, -⟩ := DataW.trod_int Try.underlying3 h0
  match cs, hl with
  | [c0, c1], _ =>
   rw [show Try.prog.cellsOf 3 = 1 by kernel_rfl] at ha
   rw [show Try.prog.cellsOf 126 = 1 by kernel_rfl] at h1
   simp at ha h1
   subst ha
   obtain ⟨xs, hx⟩ := sends_of_trod h1
   exact ⟨⟨a, xs⟩, .mk (has_int _ _ _ _) (.mk hx (hasL_nil _ _ _)), rfl⟩) hd
theorem takes_of_trod {v : Value} (hd : DataW.trod enc Try.prog W 0 (fun _ => true) true n 109 [v] = some y) : ∃ xs : List Tk, Has W v (dTakes xs) :=
 row_of_trod Try.underlying109 (by kernel_rfl) (by omega) (fun m cs y h => by
  obtain ⟨y0, y1, y2, k, -, hl, h0, h1, h2⟩ := trod_struct3 Try.underlying130 h
  rw [show Try.prog.cellsOf 130 = 3 by kernel_rfl] at hl
  obtain ⟨a, ha, -, -⟩ := DataW.trod_int Try.underlying3 h0
  obtain ⟨b, hb, -, -⟩ := DataW.trod_int Try.underlying3 h1
  obtain ⟨c, hc, -, -⟩ := DataW.trod_int Try.underlying3 h2
  match cs, hl with
  | [c0, c1, c2], _ =>
   rw [show Try.prog.cellsOf 3 = 1 by kernel_rfl] at ha hb hc
   simp at ha hb hc
   subst ha hb hc
   exact ⟨⟨a, b, c⟩, .mk (has_int _ _ _ _) (.mk (has_int _ _ _ _) (.mk (has_int _ _ _ _) (hasL_nil _ _ _))), rfl⟩) hd
theorem states_of_trod {v : Value} (hd : DataW.trod enc Try.prog W 0 (fun _ => true) true n 78 [v] = some y) : ∃ xs : List St, Has W v (dStates xs) :=
 row_of_trod Try.underlying78 (by kernel_rfl) (by omega) (fun m cs y h => by
  obtain ⟨y0, y1, y2, y3, k, -, hl, h0, h1, h2, h3⟩ := Go.Joins.trod_struct4 Try.underlying111 h
  rw [show Try.prog.cellsOf 111 = 4 by kernel_rfl] at hl
  obtain ⟨a, ha, -, -⟩ := DataW.trod_int Try.underlying3 h0
  match cs, hl with
  | [c0, c1, c2, c3], _ =>
   rw [show Try.prog.cellsOf 3 = 1 by kernel_rfl] at ha
   rw [show Try.prog.cellsOf 28 = 1 by kernel_rfl] at h1
   rw [show Try.prog.cellsOf 108 = 1 by kernel_rfl] at h2
   rw [show Try.prog.cellsOf 109 = 1 by kernel_rfl] at h3
   simp at ha h1 h2 h3
   subst ha
   obtain ⟨ws, hw⟩ := ints_has_trod h1
   obtain ⟨ps, hp⟩ := picks_of_trod h2
   obtain ⟨ts, ht⟩ := takes_of_trod h3
   exact ⟨⟨a, ws, ps, ts⟩, st_hasL (s := ⟨a, ws, ps, ts⟩) hw hp ht, rfl⟩) hd
theorem tab_of_trod {v : Value} (hd : DataW.trod enc Try.prog W 0 (fun _ => true) true n 25 [v] = some y) : ∃ M : Tab, Has W v (dTab M) :=
 row_of_trod Try.underlying25 (by kernel_rfl) (by omega) (fun m cs y h => by
  obtain ⟨y0, y1, k, -, hl, h0, h1⟩ := trod_struct2 Try.underlying80 h
  rw [show Try.prog.cellsOf 80 = 2 by kernel_rfl] at hl
  obtain ⟨a, ha, -, -⟩ := DataW.trod_int Try.underlying3 h0
  match cs, hl with
  | [c0, c1], _ =>
   rw [show Try.prog.cellsOf 3 = 1 by kernel_rfl] at ha
   rw [show Try.prog.cellsOf 78 = 1 by kernel_rfl] at h1
   simp at ha h1
   subst ha
   obtain ⟨xs, hx⟩ := states_of_trod h1
   exact ⟨⟨a, xs⟩, .mk (has_int _ _ _ _) (.mk hx (hasL_nil _ _ _)), rfl⟩) hd
end
end Go.Proofs.Ytiblcpkejhiehaa

namespace Go.Proofs.Ytiblcpkejhiehaa
open Go.RowKit Go.PlainAid
theorem cutT_small (M : Tab) : SmallTab (cutT M) := by
 refine ⟨by simp [cutT]; omega, fun x hx => ?_⟩
 obtain ⟨y, _, rfl⟩ := List.mem_map.1 hx
 refine ⟨by simp [cutN]; omega, fun s hs => ?_⟩
 obtain ⟨t, _, rfl⟩ := List.mem_map.1 hs
 refine ⟨by simp [cutS]; omega, by simp [cutS]; omega, by simp [cutS]; omega, fun p hp => ?_⟩
 obtain ⟨q, _, rfl⟩ := List.mem_map.1 hp
 simp [cutP]; omega
end Go.Proofs.Ytiblcpkejhiehaa

namespace Go.Proofs.Ytiblcpkejhiehaa
open Go.RowKit Go.PlainAid
theorem stAt_of {M : Tab} {n s : Nat} {x : Nd} {t : St} (hx : M[n]? = some x) (ht : x.states[s]? = some t) : stAt M n s = t := by
 unfold stAt; rw [plAt_of hx ht]
theorem smallSt_at {M : Tab} (h : SmallTab M) (n s : Int) : SmallSt (stAt M n s) := by
 rcases is_cases M n s with hn | ⟨n', s', x, t, rfl, rfl, hx, ht⟩
 ·unfold stAt; rw [plAt_no hn]; simp [Pl.zero, St.zero, SmallSt]
 ·rw [stAt_of hx ht]; exact (h.2 x (List.mem_of_getElem? hx)).2 t (List.mem_of_getElem? ht)
theorem place_ok {N : Int} {L : Lks} {M : Tab} (h : TabOK N L M) {n s : Nat} {x : Nd} (hx : M[n]? = some x) (hs : s < x.states.length) : PlaceOK L ⟨stAt M n s, n, x.states⟩ := by
 obtain ⟨t, ht⟩ := some_of_lt hs
 rw [stAt_of hx ht]
 exact (h.2.2 n x hx).2.2.1 t (List.mem_of_getElem? ht)
theorem taken_ok {N : Int} {L : Lks} {M : Tab} (h : TabOK N L M) {n s : Nat} {x : Nd} (hx : M[n]? = some x) (hs : s < x.states.length) (f c : Int) :
  ∃ s' : Nat, takenAt M n s f c = s' ∧ s' < x.states.length ∧ ((f, (n : Int)) ∉ L → s' = s) := by
 have hT := (place_ok h hx hs).2.2.2
 unfold takenAt
 have key : ∀ (l : List Tk), (∀ u ∈ l, u ∈ (stAt M n s).takes) → ∃ s' : Nat, takeFrom l s f c = s' ∧ s' < x.states.length ∧ ((f, (n : Int)) ∉ L → s' = s) := by
  intro l
  induction l with
  | nil => intro _; exact ⟨s, rfl, hs, fun _ => rfl⟩
  | cons u r ih =>
   intro hm
   unfold takeFrom
   split
   ·next hu =>
    obtain ⟨j, hj⟩ := List.mem_iff_getElem?.1 (hm u (List.mem_cons_self ..))
    obtain ⟨hg, hh, _⟩ := hT j u hj
    obtain ⟨q, hq⟩ := Int.eq_ofNat_of_zero_le hh.1
    have hql : q < x.states.length := by have h1 := hh.2; have h1 : u.next < (x.states.length : Int) := h1; omega
    refine ⟨q, hq, hql, fun hno => ?_⟩
    have hg1 := hg.1
    rw [hu.1] at hg1
    exact absurd hg1 hno
   ·exact ih (fun v hv => hm v (List.mem_cons_of_mem _ hv))
 exact key _ (fun u hu => hu)
theorem link_at {w : World} {sa : Option Addr} {sl sc i : Nat} {l : Lks} {p : Int × Int} (h : Has w (.slice sa sl sc) (dLinks l)) (hx : l[i]? = some p) : ∃ b o, sa = some ⟨b, o, none⟩ ∧ w.cell? ⟨b, o + i * 2, none⟩ = some (.int .i64 p.1) ∧ w.cell? ⟨b, o + i * 2 + 1, none⟩ = some (.int .i64 p.2) := by
 obtain ⟨b', o', cap', e, _, _, y0, y1⟩ := link_cells h hx
 simp only [Value.slice.injEq] at e
 exact ⟨b', o', e.1, y0, y1⟩
theorem int_at {w : World} {sa : Option Addr} {sl sc i : Nat} {l : List Int} {p : Int} (h : Has w (.slice sa sl sc) (dInts l)) (hx : l[i]? = some p) : ∃ b o, sa = some ⟨b, o, none⟩ ∧ w.cell? ⟨b, o + i, none⟩ = some (.int .i64 p) := by
 obtain ⟨b', o', cap', e, _, y0⟩ := int_cells h hx
 simp only [Value.slice.injEq] at e
 exact ⟨b', o', e.1, y0⟩
end Go.Proofs.Ytiblcpkejhiehaa

namespace Go.Proofs.Ytiblcpkejhiehaa
open Go.RowKit Go.PlainAid
theorem OpenRow.frozen {w : World} {b cap n : Nat} (h : OpenRow w b cap n) (o : Nat) : w.frozen? ⟨b, o, none⟩ = false := by
 obtain ⟨_, cur, e, h1, _⟩ := h
 simp [World.frozen?, h1]
/-- Cells of a block, by their place. -/
def BoxAt (h : Nat) (vs : List Value) (wr : World) : Prop := ∀ (i : Nat) (v : Value), vs[i]? = some v → wr.cell? ⟨h, i, none⟩ = some v
theorem BoxAt.below {h : Nat} {vs : List Value} {wr w' : World} (g : BoxAt h vs wr) (hb : Below wr.heap.size wr w') : BoxAt h vs w' := fun i v e => (hb.cell (World.block_lt_of_cell? wr _ (g i v e))).trans (g i v e)
theorem BoxAt.set2 {h b : Nat} {vs : List Value} {wr : World} (g : BoxAt h vs wr) (hne : b ≠ h) (o o' : Nat) (u u' : Value) : BoxAt h vs ((wr.setCell ⟨b, o, none⟩ u).setCell ⟨b, o', none⟩ u') := fun i v e => by
 have hk : ∀ k : Nat, (⟨b, k, none⟩ : Addr) ≠ ⟨h, i, none⟩ := fun k e' => hne (congrArg Addr.block e')
 rw [World.cell?_setCell_other _ _ _ _ (hk _), World.cell?_setCell_other _ _ _ _ (hk _)]; exact g i v e
theorem BoxAt.same {P : Nat → Prop} {h : Nat} {vs : List Value} {wr w' : World} (g : BoxAt h vs wr) (hs : SameOn P wr w') (hp : P h) : BoxAt h vs w' := fun i v e => (hs.cell (a := ⟨h, i, none⟩) hp (World.block_lt_of_cell? wr _ (g i v e))).trans (g i v e)
theorem below_step' {a b c : World} (h : Below a.heap.size a b) (h' : Below b.heap.size b c) : Below a.heap.size a c := below_step h.size h h'
theorem boxAt_new (w : World) (vs : List Value) (T : TypeId) : BoxAt w.heap.size vs (w.alloc (.cells vs.toArray T)) := fun i v e => (World.cell?_alloc_at _ _ _ _ rfl).trans (by simpa using e)
end Go.Proofs.Ytiblcpkejhiehaa

namespace Go.Proofs.Ytiblcpkejhiehaa
open Go.RowKit Go.PlainAid
/-- append to a row that may be written: what it leaves. -/
theorem run_appK {w : World} (T E ty : TypeId) (i : TypeInfo) (z : Value) (n bytes : Nat) (ht : Try.prog.underlying T = some (.slice E)) (hi : Try.prog.info? E = some i) (hz : i.zero = some z) (hsize : i.size = n) (hby : i.bytes = bytes) (hzs : z.cells.size = n) (hsz : 0 < n)
  (P Q : Nat → Prop) (wb : World) (hwb : Below wb.heap.size wb w) (hPb : ∀ k, P k → wb.heap.size ≤ k) (a0 : Option Addr) (k cap : Nat) (xs ys : List (List D)) (m c l : Nat) (h : Holds True P w (.slice a0 k cap) (.row n xs)) (ad : Option Addr) (news : List Value)
  (hnews : ∀ a, ad = some a → ∀ j u, news[j]? = some u → w.cell? (a.add j) = some u) (hnone : ad = none → m = 0) (hy : ∀ ds ∈ ys, ds.length = n) (hm : ys.length = m) (hh : HoldsL True Q w news ys.flatten) (hQ : ∀ k, Q k → ¬ P k ∧ k < w.heap.size) (hl : k + m = l) (h63 : l ≤ maxLen) (hbytes : l * bytes ≤ 140737488355328) :
  ∃ ao cv w', (Builtin.append_ #[T, T] ty #[.slice a0 k cap, .slice ad m c]).run Try.prog w = .ok (.slice ao l cv) w' ∧ Holds True (fun k => P k ∨ Q k ∨ k = w.heap.size) w' (.slice ao l cv) (.row n (xs ++ ys)) ∧ SameOn (fun k => ¬ P k) w w' ∧ Below wb.heap.size wb w' := by
 rcases run_appH T E ty i z n bytes ht hi hz hsize hby hzs hsz P Q a0 k cap xs ys m c l h ad news hnews hnone hy hm hh hQ hl h63 hbytes with ⟨ao, cv, w', h1, h2, h3⟩ | ⟨ao, cv, w', h1, h2, g, hg, _, _, _, hgr⟩
 ·exact ⟨ao, cv, w', h1, h2, .of_below h3, below_step' hwb h3⟩
 ·exact ⟨ao, cv, w', h1, h2.wide (fun k _ hk => hk.elim .inl (fun h => .inr (.inl h))), ⟨hgr.size, fun b hb hlt => hgr.block b hlt (fun e => by cases e; exact hb hg)⟩, hwb.grown hgr hwb.size (fun k hk => by cases hk; exact hPb _ hg)⟩
theorem appLK {ops : Array Oper} {rest : List Oper} {o : Oper} {a : Act} {R : Exit → Act → World → Prop} {w : World} (hgd : o.guard = none) (s x : Operand) (T E : TypeId) (i : TypeInfo) (z : Value) (n bytes : Nat)
  (ho : o.op = .call { callee := .builtin .append, args := #[s, x], argTypes := #[T, T] }) (ht : Try.prog.underlying T = some (.slice E)) (hi : Try.prog.info? E = some i) (hz : i.zero = some z) (hsize : i.size = n) (hby : i.bytes = bytes) (hzs : z.cells.size = n) (hsz : 0 < n)
  (P Q : Nat → Prop) (wb : World) (hwb : Below wb.heap.size wb w) (hPb : ∀ k, P k → wb.heap.size ≤ k) (a0 : Option Addr) (k cap : Nat) (xs ys : List (List D)) (m c l : Nat) (hs : a.eval s = .slice a0 k cap) (h : Holds True P w (.slice a0 k cap) (.row n xs)) (ad : Option Addr) (hx : a.eval x = .slice ad m c) (news : List Value)
  (hnews : ∀ a, ad = some a → ∀ j u, news[j]? = some u → w.cell? (a.add j) = some u) (hnone : ad = none → m = 0) (hy : ∀ ds ∈ ys, ds.length = n) (hm : ys.length = m) (hh : HoldsL True Q w news ys.flatten) (hQ : ∀ k, Q k → ¬ P k ∧ k < w.heap.size) (hl : k + m = l) (h63 : l ≤ maxLen) (hbytes : l * bytes ≤ 140737488355328)
  (K : ∀ ao cv w', Holds True (fun k => P k ∨ Q k ∨ k = w.heap.size) w' (.slice ao l cv) (.row n (xs ++ ys)) → SameOn (fun k => ¬ P k) w w' → Below wb.heap.size wb w' → wpList Try.prog ops R rest (a.put o.dst (.slice ao l cv)) w') : wpList Try.prog ops R (o :: rest) a w := by
 obtain ⟨ao, cv, w', hr, h1, h2, h3⟩ := run_appK T E o.type i z n bytes ht hi hz hsize hby hzs hsz P Q wb hwb hPb a0 k cap xs ys m c l h ad news hnews hnone hy hm hh hQ hl h63 hbytes
 refine wpList_plain hgd fun K' hK => ?_
 unfold Oper.wp execOp
 simp only [ho, resolve, invoke, builtin, Sem.run_bind, Sem.run_pure, Result.andThen_ok, List.map_toArray, List.map_cons, List.map_nil, hs, hx, hr]
 exact hK _ _ (K ao cv w' h1 h2 h3)
theorem appSK {ops : Array Oper} {o : Oper} {a : Act} {K : Act → World → Prop} {R : Exit → Act → World → Prop} {F : Prop} {w : World} (hgd : o.guard = none) (s x : Operand) (T E : TypeId) (i : TypeInfo) (z : Value) (n bytes : Nat)
  (ho : o.op = .call { callee := .builtin .append, args := #[s, x], argTypes := #[T, T] }) (ht : Try.prog.underlying T = some (.slice E)) (hi : Try.prog.info? E = some i) (hz : i.zero = some z) (hsize : i.size = n) (hby : i.bytes = bytes) (hzs : z.cells.size = n) (hsz : 0 < n)
  (P Q : Nat → Prop) (wb : World) (hwb : Below wb.heap.size wb w) (hPb : ∀ k, P k → wb.heap.size ≤ k) (a0 : Option Addr) (k cap : Nat) (xs ys : List (List D)) (m c l : Nat) (hs : a.eval s = .slice a0 k cap) (h : Holds True P w (.slice a0 k cap) (.row n xs)) (ad : Option Addr) (hx : a.eval x = .slice ad m c) (news : List Value)
  (hnews : ∀ a, ad = some a → ∀ j u, news[j]? = some u → w.cell? (a.add j) = some u) (hnone : ad = none → m = 0) (hy : ∀ ds ∈ ys, ds.length = n) (hm : ys.length = m) (hh : HoldsL True Q w news ys.flatten) (hQ : ∀ k, Q k → ¬ P k ∧ k < w.heap.size) (hl : k + m = l) (h63 : l ≤ maxLen) (hbytes : l * bytes ≤ 140737488355328)
  (H : ∀ ao cv w', Holds True (fun k => P k ∨ Q k ∨ k = w.heap.size) w' (.slice ao l cv) (.row n (xs ++ ys)) → SameOn (fun k => ¬ P k) w w' → Below wb.heap.size wb w' → K (a.put o.dst (.slice ao l cv)) w') :
  if Region.wanted o (yielded ops a.tmps) = true then Oper.wp Try.prog o a w K R else F := by
 have hw : Region.wanted o (yielded ops a.tmps) = true := by simp [Region.wanted, hgd]
 rw [if_pos hw]
 obtain ⟨ao, cv, w', hr, h1, h2, h3⟩ := run_appK T E o.type i z n bytes ht hi hz hsize hby hzs hsz P Q wb hwb hPb a0 k cap xs ys m c l h ad news hnews hnone hy hm hh hQ hl h63 hbytes
 unfold Oper.wp execOp
 simp only [ho, resolve, invoke, builtin, Sem.run_bind, Sem.run_pure, Result.andThen_ok, List.map_toArray, List.map_cons, List.map_nil, hs, hx, hr]
 exact H ao cv w' h1 h2 h3
/-- Cells of a row made at once. -/
theorem news_new {w : World} {vs : List Value} {T : TypeId} : ∀ a, some (⟨w.heap.size, 0, none⟩ : Addr) = some a → ∀ j u, vs[j]? = some u → (w.alloc (.cells vs.toArray T)).cell? (a.add j) = some u := fun a ha j u hj => by
 cases ha
 rw [Go.WideShapes.add_plain, Nat.zero_add, World.cell?_alloc_at _ _ _ _ rfl, List.getElem?_toArray]
 exact hj
end Go.Proofs.Ytiblcpkejhiehaa

namespace Go.Proofs.Ytiblcpkejhiehaa
open Go.RowKit Go.PlainAid
theorem OpenRow.set {w : World} {b cap n : Nat} (h : OpenRow w b cap n) (o : Nat) (v : Value) : OpenRow (w.setCell ⟨b, o, none⟩ v) b cap n := by
 obtain ⟨h1, cur, e, h2, h3⟩ := h
 exact ⟨h1, _, e, heap_setCell_at h2 o v, by simpa using h3⟩
theorem set_far {w : World} {a : Addr} {v u : Value} {b o : Nat} (h : b ≠ a.block ∨ o ≠ a.off) (hc : w.cell? a = some u) : (w.setCell ⟨b, o, none⟩ v).cell? a = some u := by
 rw [World.cell?_setCell_other _ _ _ _ (by intro e; subst e; simp at h)]
 exact hc
theorem set_at {w : World} {b o : Nat} {u v : Value} (hc : w.cell? ⟨b, o, none⟩ = some u) : (w.setCell ⟨b, o, none⟩ v).cell? ⟨b, o, none⟩ = some v := World.cell?_setCell_same w _ _ hc
end Go.Proofs.Ytiblcpkejhiehaa

namespace Go.Proofs.Ytiblcpkejhiehaa
open Go.RowKit Go.PlainAid
theorem boxAt_set {b j : Nat} {vs : List Value} {u : Value} {wr : World} (g : BoxAt b vs wr) : BoxAt b (vs.set j u) (wr.setCell ⟨b, j, none⟩ u) := fun i v e => by
 rcases set_cases' e with ⟨rfl, rfl, hl⟩ | ⟨hne, e⟩
 ·obtain ⟨x, hx⟩ := some_of_lt hl
  exact set_at (g i x hx)
 ·exact set_far (.inr (fun h => hne h.symm)) (g i v e)
where
 set_cases' {α : Type} {l : List α} {i j : Nat} {x y : α} (h : (l.set i x)[j]? = some y) : (j = i ∧ y = x ∧ i < l.length) ∨ (j ≠ i ∧ l[j]? = some y) := by
  rw [List.getElem?_set] at h
  split at h
  ·next e =>
   split at h
   ·next hl => cases h; exact .inl ⟨e.symm, rfl, by omega⟩
   ·cases h
  ·next e => exact .inr ⟨fun e' => e e'.symm, h⟩
end Go.Proofs.Ytiblcpkejhiehaa

set_option linter.unusedSimpArgs false
set_option linter.unusedVariables false
namespace Go.Proofs.Ytiblcpkejhiehaa
open Go.RowKit Go.PlainAid
def T5 : Tab := [⟨0, [⟨1, [], [⟨1, [(1, 1), (1, 2)]⟩], []⟩, ⟨0, [], [], []⟩]⟩, ⟨0, [⟨2, [0], [], [⟨0, 1, 1⟩]⟩, ⟨0, [], [], []⟩]⟩]
def Two5 (w : World) (e : Ending) (w' : World) : Prop := ∃ ga gc ta tc, e = .returned (.agg #[.int .i64 2, .slice ga 2 gc, .slice ta 2 tc, .bool false]) ∧ LinksAt w' (.slice ga 2 gc) F2 ∧ Has w' (.slice ta 2 tc) (dTab T5) ∧ Below w.heap.size w w'
set_option maxHeartbeats 8000000 in
set_option maxRecDepth 100000 in
theorem two5_at (w : World) : Calls Try.prog 30 #[] w fun e w' => Two5 w e w' := by
 go_enter Try.func30, Try.ntmps30
 try simp only [List.append_eq, List.cons_append, List.nil_append]
 go_wp2_with fail
 refine (full_at 2 2 _ (by omega)).mono ?_
 rintro e w2 ⟨ga, gc, rfl, hL, hb⟩
 rw [full2] at hL ⊢
 simp only [gv, show F2.length = 2 from rfl]
 have L2 := Lib.hid hL
 have ho : OpenRow (w.alloc (.cells #[.int .i64 0, .slice none 0 0, .slice none 0 0, .bool false] 27)) w.heap.size 1 4 := ⟨by decide, _, _, heap_alloc_new w _, rfl⟩
 have hx : BoxAt w.heap.size [.int .i64 0, .slice none 0 0, .slice none 0 0, .bool false] w2 := (boxAt_new w [.int .i64 0, .slice none 0 0, .slice none 0 0, .bool false] _).below hb
 have hO := ho.same (SameOn.of_below (P := fun _ => True) hb) trivial (by simp)
 have B2 := Lib.hid (below_step' (below_new w _) hb)
 have Q2 := Lib.hid hb
 have O2 := Lib.hid hO
 have hlt : w.heap.size < w2.heap.size := World.block_lt_of_cell? w2 _ (hx 0 _ rfl)
 have b1 : Below w2.heap.size w2 (w2.alloc (.cells #[.int .i64 1, .int .i64 1, .int .i64 1, .int .i64 2] 125)) := below_new _ _
 have b2 : Below w2.heap.size w2 ((w2.alloc (.cells #[.int .i64 1, .int .i64 1, .int .i64 1, .int .i64 2] 125)).alloc (.cells #[.int .i64 1, .slice (some ⟨w2.heap.size, 0, none⟩) 2 2] 128)) := below_step' b1 (below_new _ _)
 have b3 : Below w2.heap.size w2 (((w2.alloc (.cells #[.int .i64 1, .int .i64 1, .int .i64 1, .int .i64 2] 125)).alloc (.cells #[.int .i64 1, .slice (some ⟨w2.heap.size, 0, none⟩) 2 2] 128)).alloc (.cells #[.int .i64 1, .slice none 0 0, .slice (some ⟨w2.heap.size + 1, 0, none⟩) 1 1, .slice none 0 0, .int .i64 0, .slice none 0 0, .slice none 0 0, .slice none 0 0] 111)) := below_step' b2 (below_new _ _)
 have b4 : Below w2.heap.size w2 ((((w2.alloc (.cells #[.int .i64 1, .int .i64 1, .int .i64 1, .int .i64 2] 125)).alloc (.cells #[.int .i64 1, .slice (some ⟨w2.heap.size, 0, none⟩) 2 2] 128)).alloc (.cells #[.int .i64 1, .slice none 0 0, .slice (some ⟨w2.heap.size + 1, 0, none⟩) 1 1, .slice none 0 0, .int .i64 0, .slice none 0 0, .slice none 0 0, .slice none 0 0] 111)).alloc (.cells #[.int .i64 0] 3)) := below_step' b3 (below_new _ _)
 have b5 : Below w2.heap.size w2 (((((w2.alloc (.cells #[.int .i64 1, .int .i64 1, .int .i64 1, .int .i64 2] 125)).alloc (.cells #[.int .i64 1, .slice (some ⟨w2.heap.size, 0, none⟩) 2 2] 128)).alloc (.cells #[.int .i64 1, .slice none 0 0, .slice (some ⟨w2.heap.size + 1, 0, none⟩) 1 1, .slice none 0 0, .int .i64 0, .slice none 0 0, .slice none 0 0, .slice none 0 0] 111)).alloc (.cells #[.int .i64 0] 3)).alloc (.cells #[.int .i64 0, .int .i64 1, .int .i64 1] 130)) := below_step' b4 (below_new _ _)
 have b6 : Below w2.heap.size w2 ((((((w2.alloc (.cells #[.int .i64 1, .int .i64 1, .int .i64 1, .int .i64 2] 125)).alloc (.cells #[.int .i64 1, .slice (some ⟨w2.heap.size, 0, none⟩) 2 2] 128)).alloc (.cells #[.int .i64 1, .slice none 0 0, .slice (some ⟨w2.heap.size + 1, 0, none⟩) 1 1, .slice none 0 0, .int .i64 0, .slice none 0 0, .slice none 0 0, .slice none 0 0] 111)).alloc (.cells #[.int .i64 0] 3)).alloc (.cells #[.int .i64 0, .int .i64 1, .int .i64 1] 130)).alloc (.cells #[.int .i64 2, .slice (some ⟨w2.heap.size + 1 + 1 + 1, 0, none⟩) 1 1, .slice none 0 0, .slice (some ⟨w2.heap.size + 1 + 1 + 1 + 1, 0, none⟩) 1 1, .int .i64 0, .slice none 0 0, .slice none 0 0, .slice none 0 0] 111)) := below_step' b5 (below_new _ _)
 have b7 : Below w2.heap.size w2 (((((((w2.alloc (.cells #[.int .i64 1, .int .i64 1, .int .i64 1, .int .i64 2] 125)).alloc (.cells #[.int .i64 1, .slice (some ⟨w2.heap.size, 0, none⟩) 2 2] 128)).alloc (.cells #[.int .i64 1, .slice none 0 0, .slice (some ⟨w2.heap.size + 1, 0, none⟩) 1 1, .slice none 0 0, .int .i64 0, .slice none 0 0, .slice none 0 0, .slice none 0 0] 111)).alloc (.cells #[.int .i64 0] 3)).alloc (.cells #[.int .i64 0, .int .i64 1, .int .i64 1] 130)).alloc (.cells #[.int .i64 2, .slice (some ⟨w2.heap.size + 1 + 1 + 1, 0, none⟩) 1 1, .slice none 0 0, .slice (some ⟨w2.heap.size + 1 + 1 + 1 + 1, 0, none⟩) 1 1, .int .i64 0, .slice none 0 0, .slice none 0 0, .slice none 0 0] 111)).alloc (.cells #[.int .i64 0, .slice (some ⟨w2.heap.size + 1 + 1, 0, none⟩) 2 2, .int .i64 0, .slice (some ⟨w2.heap.size + 1 + 1 + 1 + 1 + 1, 0, none⟩) 2 2] 80)) := below_step' b6 (below_new _ _)
 have hO7 := hO.same (SameOn.of_below (P := fun _ => True) b7) trivial hlt
 have hx7 := hx.below b7
 have k0 := hx7 0 _ rfl
 have f0 := hO7.frozen 0
 have k1 := hx7 1 _ rfl
 have f1 := hO7.frozen 1
 have k2 := hx7 2 _ rfl
 have f2 := hO7.frozen 2
 have k3 := hx7 3 _ rfl
 have f3 := hO7.frozen 3
 clear hL hb ho hO hO7 hx hx7
 go_wp2_with fail
 obtain ⟨x1, hx1⟩ : ∃ x, x = w2.alloc (.cells #[.int .i64 1, .int .i64 1, .int .i64 1, .int .i64 2] 125) := ⟨_, rfl⟩
 have g1 : Below w2.heap.size w2 x1 := by rw [hx1]; exact below_new _ _
 have s1 : x1.heap.size = w2.heap.size + 1 := by rw [hx1]; simp
 obtain ⟨x2, hx2⟩ : ∃ x, x = x1.alloc (.cells #[.int .i64 1, .slice (some ⟨w2.heap.size, 0, none⟩) 2 2] 128) := ⟨_, rfl⟩
 have g2 : Below x1.heap.size x1 x2 := by rw [hx2]; exact below_new _ _
 have s2 : x2.heap.size = w2.heap.size + 1 + 1 := by rw [hx2]; simp [s1]
 obtain ⟨x3, hx3⟩ : ∃ x, x = x2.alloc (.cells #[.int .i64 1, .slice none 0 0, .slice (some ⟨w2.heap.size + 1, 0, none⟩) 1 1, .slice none 0 0, .int .i64 0, .slice none 0 0, .slice none 0 0, .slice none 0 0] 111) := ⟨_, rfl⟩
 have g3 : Below x2.heap.size x2 x3 := by rw [hx3]; exact below_new _ _
 have s3 : x3.heap.size = w2.heap.size + 1 + 1 + 1 := by rw [hx3]; simp [s2]
 obtain ⟨x4, hx4⟩ : ∃ x, x = x3.alloc (.cells #[.int .i64 0] 3) := ⟨_, rfl⟩
 have g4 : Below x3.heap.size x3 x4 := by rw [hx4]; exact below_new _ _
 have s4 : x4.heap.size = w2.heap.size + 1 + 1 + 1 + 1 := by rw [hx4]; simp [s3]
 obtain ⟨x5, hx5⟩ : ∃ x, x = x4.alloc (.cells #[.int .i64 0, .int .i64 1, .int .i64 1] 130) := ⟨_, rfl⟩
 have g5 : Below x4.heap.size x4 x5 := by rw [hx5]; exact below_new _ _
 have s5 : x5.heap.size = w2.heap.size + 1 + 1 + 1 + 1 + 1 := by rw [hx5]; simp [s4]
 obtain ⟨x6, hx6⟩ : ∃ x, x = x5.alloc (.cells #[.int .i64 2, .slice (some ⟨w2.heap.size + 1 + 1 + 1, 0, none⟩) 1 1, .slice none 0 0, .slice (some ⟨w2.heap.size + 1 + 1 + 1 + 1, 0, none⟩) 1 1, .int .i64 0, .slice none 0 0, .slice none 0 0, .slice none 0 0] 111) := ⟨_, rfl⟩
 have g6 : Below x5.heap.size x5 x6 := by rw [hx6]; exact below_new _ _
 have s6 : x6.heap.size = w2.heap.size + 1 + 1 + 1 + 1 + 1 + 1 := by rw [hx6]; simp [s5]
 obtain ⟨x7, hx7⟩ : ∃ x, x = x6.alloc (.cells #[.int .i64 0, .slice (some ⟨w2.heap.size + 1 + 1, 0, none⟩) 2 2, .int .i64 0, .slice (some ⟨w2.heap.size + 1 + 1 + 1 + 1 + 1, 0, none⟩) 2 2] 80) := ⟨_, rfl⟩
 have g7 : Below x6.heap.size x6 x7 := by rw [hx7]; exact below_new _ _
 have s7 : x7.heap.size = w2.heap.size + 1 + 1 + 1 + 1 + 1 + 1 + 1 := by rw [hx7]; simp [s6]
 rw [← hx1, ← hx2, ← hx3, ← hx4, ← hx5, ← hx6, ← hx7]
 have h1 : Holds False (fun q => w2.heap.size ≤ q) x1 (.slice (some ⟨w2.heap.size, 0, none⟩) 2 2) (dLinks [(1, 1), (1, 2)]) := by
  have h := holds_new (P := fun q => w2.heap.size ≤ q) 125 (n := 2) (k := 2) (xs := [((1 : Int), (1 : Int)), (1, 2)].map fun p => [dI p.1, dI p.2]) (by omega) (by intro ds h; obtain ⟨_, _, rfl⟩ := List.mem_map.1 h; rfl) rfl (by decide) (w := w2) (vs := [.int .i64 1, .int .i64 1, .int .i64 1, .int .i64 2]) (by exact (hl_int (hl_int (hl_int (hl_int hl_nil)))))
  rw [hx1]; exact h
 have h2 : Holds False (fun q => w2.heap.size ≤ q) x2 (.slice (some ⟨w2.heap.size + 1, 0, none⟩) 1 1) (dPicks [⟨1, [(1, 1), (1, 2)]⟩]) := by
  have h := holds_new (P := fun q => w2.heap.size ≤ q) 128 (n := 2) (k := 1) (xs := [(⟨1, [(1, 1), (1, 2)]⟩ : Pk)].map Pk.d) (by omega) (by intro ds h; obtain ⟨_, _, rfl⟩ := List.mem_map.1 h; rfl) rfl (by decide) (w := x1) (vs := [.int .i64 1, .slice (some ⟨w2.heap.size, 0, none⟩) 2 2]) (by exact (hl_int (hl_cons h1 hl_nil)))
  rw [s1] at h
  rw [hx2]; exact h
 have nil1 : Holds False (fun q => w2.heap.size ≤ q) x2 (.slice none 0 0) (dInts []) := .nil _ _ _ _ _
 have nil2 : Holds False (fun q => w2.heap.size ≤ q) x2 (.slice none 0 0) (dPicks []) := .nil _ _ _ _ _
 have nil3 : Holds False (fun q => w2.heap.size ≤ q) x2 (.slice none 0 0) (dTakes []) := .nil _ _ _ _ _
 have h3 : Holds False (fun q => w2.heap.size ≤ q) x3 (.slice (some ⟨w2.heap.size + 1 + 1, 0, none⟩) 2 2) (dStates [⟨1, [], [⟨1, [(1, 1), (1, 2)]⟩], []⟩, ⟨0, [], [], []⟩]) := by
  have h := holds_new (P := fun q => w2.heap.size ≤ q) 111 (n := 4) (k := 2) (xs := [(⟨1, [], [⟨1, [(1, 1), (1, 2)]⟩], []⟩ : St), ⟨0, [], [], []⟩].map St.d) (by omega) (by intro ds h; obtain ⟨_, _, rfl⟩ := List.mem_map.1 h; rfl) rfl (by decide) (w := x2) (vs := [.int .i64 1, .slice none 0 0, .slice (some ⟨w2.heap.size + 1, 0, none⟩) 1 1, .slice none 0 0, .int .i64 0, .slice none 0 0, .slice none 0 0, .slice none 0 0]) (by exact (hl_int (hl_cons nil1 (hl_cons h2 (hl_cons nil3 (hl_int (hl_cons nil1 (hl_cons nil2 (hl_cons nil3 hl_nil)))))))))
  rw [s2] at h
  rw [hx3]; exact h
 have h4 : Holds False (fun q => w2.heap.size ≤ q) x4 (.slice (some ⟨w2.heap.size + 1 + 1 + 1, 0, none⟩) 1 1) (dInts [0]) := by
  have h := holds_new (P := fun q => w2.heap.size ≤ q) 3 (n := 1) (k := 1) (xs := [(0 : Int)].map fun a => [dI a]) (by omega) (by intro ds h; obtain ⟨_, _, rfl⟩ := List.mem_map.1 h; rfl) rfl (by decide) (w := x3) (vs := [.int .i64 0]) (by exact (hl_int hl_nil))
  rw [s3] at h
  rw [hx4]; exact h
 have h5 : Holds False (fun q => w2.heap.size ≤ q) x5 (.slice (some ⟨w2.heap.size + 1 + 1 + 1 + 1, 0, none⟩) 1 1) (dTakes [⟨0, 1, 1⟩]) := by
  have h := holds_new (P := fun q => w2.heap.size ≤ q) 130 (n := 3) (k := 1) (xs := [(⟨0, 1, 1⟩ : Tk)].map Tk.d) (by omega) (by intro ds h; obtain ⟨_, _, rfl⟩ := List.mem_map.1 h; rfl) rfl (by decide) (w := x4) (vs := [.int .i64 0, .int .i64 1, .int .i64 1]) (by exact (hl_int (hl_int (hl_int hl_nil))))
  rw [s4] at h
  rw [hx5]; exact h
 have nil1 : Holds False (fun q => w2.heap.size ≤ q) x5 (.slice none 0 0) (dInts []) := .nil _ _ _ _ _
 have nil2 : Holds False (fun q => w2.heap.size ≤ q) x5 (.slice none 0 0) (dPicks []) := .nil _ _ _ _ _
 have nil3 : Holds False (fun q => w2.heap.size ≤ q) x5 (.slice none 0 0) (dTakes []) := .nil _ _ _ _ _
 have h4' := h4.later g5
 have h6 : Holds False (fun q => w2.heap.size ≤ q) x6 (.slice (some ⟨w2.heap.size + 1 + 1 + 1 + 1 + 1, 0, none⟩) 2 2) (dStates [⟨2, [0], [], [⟨0, 1, 1⟩]⟩, ⟨0, [], [], []⟩]) := by
  have h := holds_new (P := fun q => w2.heap.size ≤ q) 111 (n := 4) (k := 2) (xs := [(⟨2, [0], [], [⟨0, 1, 1⟩]⟩ : St), ⟨0, [], [], []⟩].map St.d) (by omega) (by intro ds h; obtain ⟨_, _, rfl⟩ := List.mem_map.1 h; rfl) rfl (by decide) (w := x5) (vs := [.int .i64 2, .slice (some ⟨w2.heap.size + 1 + 1 + 1, 0, none⟩) 1 1, .slice none 0 0, .slice (some ⟨w2.heap.size + 1 + 1 + 1 + 1, 0, none⟩) 1 1, .int .i64 0, .slice none 0 0, .slice none 0 0, .slice none 0 0]) (by exact (hl_int (hl_cons h4' (hl_cons nil2 (hl_cons h5 (hl_int (hl_cons nil1 (hl_cons nil2 (hl_cons nil3 hl_nil)))))))))
  rw [s5] at h
  rw [hx6]; exact h
 have h3' := ((h3.later g4).later g5).later g6
 have h7 : Holds False (fun q => w2.heap.size ≤ q) x7 (.slice (some ⟨w2.heap.size + 1 + 1 + 1 + 1 + 1 + 1, 0, none⟩) 2 2) (dTab T5) := by
  have h := holds_new (P := fun q => w2.heap.size ≤ q) 80 (n := 2) (k := 2) (xs := T5.map Nd.d) (by omega) (by intro ds h; obtain ⟨_, _, rfl⟩ := List.mem_map.1 h; rfl) rfl (by decide) (w := x6) (vs := [.int .i64 0, .slice (some ⟨w2.heap.size + 1 + 1, 0, none⟩) 2 2, .int .i64 0, .slice (some ⟨w2.heap.size + 1 + 1 + 1 + 1 + 1, 0, none⟩) 2 2]) (by exact (hl_int (hl_cons h3' (hl_int (hl_cons h6 hl_nil)))))
  rw [s6] at h
  rw [hx7]; exact h
 have hxx : BoxAt w.heap.size [.int .i64 0, .slice none 0 0, .slice none 0 0, .bool false] w2 := fun i v h => by
  have := B2.out
  exact ((boxAt_new w [.int .i64 0, .slice none 0 0, .slice none 0 0, .bool false] 27).below (Q2.out) i v h)
 have b17 : Below w2.heap.size w2 x7 := below_step' (below_step' (below_step' (below_step' (below_step' (below_step' g1 g2) g3) g4) g5) g6) g7
 have hx7 := hxx.below b17
 have hL7 := L2.out.below b17
 have hfar : ∀ b o n c, Value.slice ga 2 gc = .slice (some ⟨b, o, none⟩) n c → 0 < n → b ≠ w.heap.size := fun b o n c e hn hbw => by
  simp only [Value.slice.injEq] at e
  obtain ⟨e1, e2, e3⟩ := e
  subst e2 e3 hbw
  rcases L2.out with ⟨_, _, e, h⟩ | ⟨b, off, len, cap, e, hl, hp, hb, hlc, hc⟩
  ·simp [F2] at h
  ·simp only [Value.slice.injEq] at e
   rw [e1] at e
   obtain ⟨e, e5, _⟩ := e
   cases e
   have c0 := (hc 0 hp).1
   have c1 := (hc 0 hp).2
   have HX := O2.out
   obtain ⟨_, cur, ee, hcur, hsz⟩ := HX
   have : o = 0 ∨ o = 1 ∨ o = 2 ∨ o = 3 ∨ 4 ≤ o := by omega
   rcases this with rfl | rfl | rfl | rfl | h4
   ·have := hxx 1 _ rfl; simp at c1 this; rw [this] at c1; cases c1
   ·have := hxx 1 _ rfl; simp at c0 this; rw [this] at c0; cases c0
   ·have := hxx 2 _ rfl; simp at c0 this; rw [this] at c0; cases c0
   ·have := hxx 3 _ rfl; simp at c0 this; rw [this] at c0; cases c0
   ·have hn : w2.cell? ⟨w.heap.size, o, none⟩ = none := by
     simp [World.cell?, hcur]
     omega
    simp at c0
    rw [hn] at c0
    cases c0
 obtain ⟨w9, hw9⟩ : ∃ x, x = (((x7.setCell ⟨w.heap.size, 0, none⟩ (.int .i64 2)).setCell ⟨w.heap.size, 1, none⟩ (.slice ga 2 gc)).setCell ⟨w.heap.size, 2, none⟩ (.slice (some ⟨w2.heap.size + 1 + 1 + 1 + 1 + 1 + 1, 0, none⟩) 2 2)).setCell ⟨w.heap.size, 3, none⟩ (.bool false) := ⟨_, rfl⟩
 have hr9 : BoxAt w.heap.size [.int .i64 2, .slice ga 2 gc, .slice (some ⟨w2.heap.size + 1 + 1 + 1 + 1 + 1 + 1, 0, none⟩) 2 2, .bool false] w9 := by rw [hw9]; exact boxAt_set (j := 3) (u := .bool false) (boxAt_set (j := 2) (u := .slice (some ⟨w2.heap.size + 1 + 1 + 1 + 1 + 1 + 1, 0, none⟩) 2 2) (boxAt_set (j := 1) (u := .slice ga 2 gc) (boxAt_set (j := 0) (u := .int .i64 2) hx7)))
 have hb9 : Below w.heap.size w w9 := by
  rw [hw9]
  exact ((((below_step' B2.out b17).setCell (by simp) _).setCell (by simp) _).setCell (by simp) _).setCell (by simp) _
 have hL9 : LinksAt w9 (.slice ga 2 gc) F2 := by
  rw [hw9]
  exact links_far (links_far (links_far (links_far hL7 hfar _ _) hfar _ _) hfar _ _) hfar _ _
 have hT9 : Has w9 (.slice (some ⟨w2.heap.size + 1 + 1 + 1 + 1 + 1 + 1, 0, none⟩) 2 2) (dTab T5) := by
  rw [hw9]
  exact (h7.same (((((SameOn.refl _ x7).set ⟨w.heap.size, 0, none⟩ (.int .i64 2) (fun h : w2.heap.size ≤ w.heap.size => by omega)).set ⟨w.heap.size, 1, none⟩ (.slice ga 2 gc) (fun h : w2.heap.size ≤ w.heap.size => by omega)).set ⟨w.heap.size, 2, none⟩ (.slice (some ⟨w2.heap.size + 1 + 1 + 1 + 1 + 1 + 1, 0, none⟩) 2 2) (fun h : w2.heap.size ≤ w.heap.size => by omega)).set ⟨w.heap.size, 3, none⟩ (.bool false) (fun h : w2.heap.size ≤ w.heap.size => by omega))).weak
 have R0 := hr9 0 _ rfl
 have R1 := hr9 1 _ rfl
 have R2 := hr9 2 _ rfl
 have R3 := hr9 3 _ rfl
 have HL9 := Lib.hid hL9
 have HT9 := Lib.hid hT9
 have HB9 := Lib.hid hb9
 rw [← hw9]
 clear hw9 hr9 hb9 hL9 hT9 hfar hL7 hx7 hxx b17
 refine bodyPost_ret (v := .agg #[.int .i64 2, .slice ga 2 gc, .slice (some ⟨w2.heap.size + 1 + 1 + 1 + 1 + 1 + 1, 0, none⟩) 2 2, .bool false]) (by simp [results, Try.results30, go_sem, R0, R1, R2, R3]) rfl ?_
 exact ⟨_, _, _, _, rfl, HL9.out, HT9.out, HB9.out⟩
end Go.Proofs.Ytiblcpkejhiehaa

