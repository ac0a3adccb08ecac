/- Texts put together. -/
import Derived.Test.YtennbiajnkobnaaQ02
import Derived.Test.YtennbiajnkobnaaQ22
set_option linter.unusedSimpArgs false
namespace Go.Proofs.Ytennbiajnkobnaa
open Go.RowKit Go.PlainAid
theorem holdsL_of {P : Nat → Prop} {w : World} {cs : List Value} {ds : List D} (Q : Nat → Nat → Prop) (hl : cs.length = ds.length) (h : ∀ j c d, cs[j]? = some c → ds[j]? = some d → Holds True (Q j) w c d) (hd : ∀ i j k, i < j → Q i k → ¬ Q j k) (hq : ∀ j k, Q j k → P k) : HoldsL True P w cs ds := by
 refine ⟨hl, Q, hq, fun _ j j' k a b => ?_, h⟩
 rcases Nat.lt_trichotomy j j' with e | e | e
 ·exact absurd b (hd j j' k e a)
 ·exact e
 ·exact absurd a (hd j' j k e b)
theorem st_holdsL {P P1 P2 P3 : Nat → Prop} {w : World} {s : St} {m : Int} (hm : m = s.mode) {v1 v2 v3 : Value} (h1 : Holds True P1 w v1 (dInts s.waits)) (h2 : Holds True P2 w v2 (dPicks s.picks)) (h3 : Holds True P3 w v3 (dTakes s.takes)) (d12 : ∀ k, P1 k → ¬ P2 k) (d13 : ∀ k, P1 k → ¬ P3 k) (d23 : ∀ k, P2 k → ¬ P3 k)
  (q1 : ∀ k, P1 k → P k) (q2 : ∀ k, P2 k → P k) (q3 : ∀ k, P3 k → P k) : HoldsL True P w [.int .i64 m, v1, v2, v3] s.d := by
 subst hm
 refine holdsL_of (fun j k => (j = 1 ∧ P1 k) ∨ (j = 2 ∧ P2 k) ∨ (j = 3 ∧ P3 k)) rfl (fun j c d hc hd => ?_) (fun i j k hij a b => ?_) (fun j k h => ?_)
 ·match j, hc, hd with
  | 0, hc, hd => simp [St.d] at hc hd; subst hc hd; exact .atom _ _ _ rfl
  | 1, hc, hd => simp [St.d] at hc hd; subst hc hd; exact h1.wide (fun b _ p => .inl ⟨rfl, p⟩)
  | 2, hc, hd => simp [St.d] at hc hd; subst hc hd; exact h2.wide (fun b _ p => .inr (.inl ⟨rfl, p⟩))
  | 3, hc, hd => simp [St.d] at hc hd; subst hc hd; exact h3.wide (fun b _ p => .inr (.inr ⟨rfl, p⟩))
  | j + 4, hc, hd => simp at hc
 ·rcases a with ⟨ha, a⟩ | ⟨ha, a⟩ | ⟨ha, a⟩ <;> rcases b with ⟨hb, b⟩ | ⟨hb, b⟩ | ⟨hb, b⟩
  ·omega
  ·exact d12 k a b
  ·exact d13 k a b
  ·omega
  ·omega
  ·exact d23 k a b
  ·omega
  ·omega
  ·omega
 ·rcases h with ⟨_, h⟩ | ⟨_, h⟩ | ⟨_, h⟩
  ·exact q1 k h
  ·exact q2 k h
  ·exact q3 k h
theorem tk_holdsL {P : Nat → Prop} {w : World} (x y z : Int) : HoldsL True P w [.int .i64 x, .int .i64 y, .int .i64 z] (Tk.mk x y z).d := by
 refine holdsL_of (fun _ _ => False) rfl (fun j c d hc hd => ?_) (fun i j k hij a b => a) (fun j k h => h.elim)
 match j, hc, hd with
 | 0, hc, hd => simp [Tk.d] at hc hd; subst hc hd; exact .atom _ _ _ rfl
 | 1, hc, hd => simp [Tk.d] at hc hd; subst hc hd; exact .atom _ _ _ rfl
 | 2, hc, hd => simp [Tk.d] at hc hd; subst hc hd; exact .atom _ _ _ rfl
 | j + 3, hc, hd => simp at hc
theorem pk_holdsL {P Q : Nat → Prop} {w : World} {p : Pk} {x : Int} (hx : x = p.next) {v : Value} (h : Holds True Q w v (dLinks p.sends)) (hq : ∀ k, Q k → P k) : HoldsL True P w [.int .i64 x, v] p.d := by
 subst hx
 refine holdsL_of (fun j k => j = 1 ∧ Q k) rfl (fun j c d hc hd => ?_) (fun i j k hij a b => by omega) (fun j k h => hq k h.2)
 match j, hc, hd with
 | 0, hc, hd => simp [Pk.d] at hc hd; subst hc hd; exact .atom _ _ _ rfl
 | 1, hc, hd => simp [Pk.d] at hc hd; subst hc hd; exact h.wide (fun b _ p => ⟨rfl, p⟩)
 | j + 2, hc, hd => simp at hc
set_option maxHeartbeats 8000000 in
set_option maxRecDepth 100000 in
theorem cutS_at (s : St) (v : Value) (w : World) (h : IsSt w s v) :
  Calls Try.prog 40 #[v] w fun e w' => ∃ cs, e = .returned (.agg ⟨cs⟩) ∧ HoldsL True (fresh w) w' cs (cutS s).d ∧ Below w.heap.size w w' := by
 obtain ⟨a1, c1, a2, c2, a3, c3, rfl, h1, h2, h3⟩ := isSt_open h
 obtain ⟨n1, hn1⟩ : ∃ n1, n1 = s.waits.length := ⟨_, rfl⟩
 obtain ⟨n2, hn2⟩ : ∃ n2, n2 = s.picks.length := ⟨_, rfl⟩
 obtain ⟨n3, hn3⟩ : ∃ n3, n3 = s.takes.length := ⟨_, rfl⟩
 rw [← hn1] at h1 ⊢
 rw [← hn2] at h2 ⊢
 rw [← hn3] at h3 ⊢
 clear h
 obtain ⟨i1, hi1, hz1, hs1, hby1⟩ := info_parts infoI
 obtain ⟨i2, hi2, hz2, hs2, hby2⟩ := info_parts infoSend
 obtain ⟨i3, hi3, hz3, hs3, hby3⟩ := info_parts infoPk
 obtain ⟨i4, hi4, hz4, hs4, hby4⟩ := info_parts infoTk
 obtain ⟨m, hm⟩ : ∃ m, m = s.mode := ⟨_, rfl⟩
 obtain ⟨k1, hk1⟩ : ∃ k1, k1 = min n1 10 := ⟨_, rfl⟩
 have hk1n : k1 ≤ n1 := by omega
 have hmin : (if 10 < (n1 : Int) then (10 : Int) else (n1 : Int)) = (k1 : Int) := by split <;> omega
 have hc1 := capOf h1
 have hk1c : k1 ≤ c1 := by omega
 rw [← hm]
 have Hm := Lib.hid hm
 have K1 := Lib.hid hk1
 have N1 := Lib.hid hn1
 have N2 := Lib.hid hn2
 have N3 := Lib.hid hn3
 have H2 := Lib.hid h2
 have H3 := Lib.hid h3
 obtain ⟨w1, hw1⟩ : ∃ w1, w1 = (w.alloc (.cells #[.int .i64 m, .slice a1 n1 c1, .slice a2 n2 c2, .slice a3 n3 c3] 106)).alloc (.cells #[.int .i64 0, .slice none 0 0, .slice none 0 0, .slice none 0 0] 106) := ⟨_, rfl⟩
 have g1 : Below w.heap.size w w1 := by rw [hw1]; go_grown
 have x0 : w1.cell? ⟨w.heap.size, 0, none⟩ = some (.int .i64 m) := by rw [hw1]; go_cell
 have x1 : w1.cell? ⟨w.heap.size, 1, none⟩ = some (.slice a1 n1 c1) := by rw [hw1]; go_cell
 have x2 : w1.cell? ⟨w.heap.size, 2, none⟩ = some (.slice a2 n2 c2) := by rw [hw1]; go_cell
 have x3 : w1.cell? ⟨w.heap.size, 3, none⟩ = some (.slice a3 n3 c3) := by rw [hw1]; go_cell
 have p0 : w1.cell? ⟨w.heap.size + 1, 0, none⟩ = some (.int .i64 0) := by rw [hw1]; go_cell
 have p1 : w1.cell? ⟨w.heap.size + 1, 1, none⟩ = some (.slice none 0 0) := by rw [hw1]; go_cell
 have p2 : w1.cell? ⟨w.heap.size + 1, 2, none⟩ = some (.slice none 0 0) := by rw [hw1]; go_cell
 have p3 : w1.cell? ⟨w.heap.size + 1, 3, none⟩ = some (.slice none 0 0) := by rw [hw1]; go_cell
 have pf : ∀ i, w1.frozen? ⟨w.heap.size + 1, i, none⟩ = false := fun i => by
  rw [hw1, show w.heap.size + 1 = (w.alloc (.cells #[.int .i64 m, .slice a1 n1 c1, .slice a2 n2 c2, .slice a3 n3 c3] 106)).heap.size by simp]
  exact frozen_new _ _ _ _
 have Z1 := Lib.hid (show w1.heap.size = w.heap.size + 1 + 1 by rw [hw1]; simp)
 have X2 := Lib.hid x2
 have X3 := Lib.hid x3
 have P0 := Lib.hid p0
 have P1 := Lib.hid p1
 have P2 := Lib.hid p2
 have P3 := Lib.hid p3
 have PF := Lib.hid pf
 have hh1 : Has w (.slice a1 k1 c1) (dInts (s.waits.take 10)) := by
  have := Holds.take (m := k1) h1 (by rw [List.length_map, ← hn1]; exact hk1n)
  rw [← List.map_take] at this
  unfold dInts
  have e : s.waits.take 10 = s.waits.take k1 := by
   rw [hk1, hn1, List.take_eq_take_min]
   congr 1; omega
  rw [e]; exact this
 have hy1 : ∀ ds ∈ (s.waits.take 10).map (fun a => [dI a]), ds.length = 1 := by intro ds hds; obtain ⟨_, _, rfl⟩ := List.mem_map.1 hds; rfl
 obtain ⟨hl1, hnn1, news1, hnw1, hhl1⟩ := newsOf hh1 hy1 (flat_ints _)
 have HY1 := Lib.hid hy1
 have HL1 := Lib.hid hl1
 have HN1 := Lib.hid hnn1
 have HW1 := Lib.hid (newsLater hnw1 g1)
 have HH1 := Lib.hid hhl1
 have G1 := Lib.hid g1
 have O1a := Lib.hid (Own.made (S := True) (P := fresh w1) (E := 3) (n := 1) (Below.refl w1.heap.size w1))
 have o1b := Own.made (S := True) (P := fresh w1) (E := 3) (n := 1) (below_new w1 (.cells #[.int .i64 0, .slice none 0 0, .slice none 0 0, .slice none 0 0] 106))
 rw [show (w1.alloc (.cells #[.int .i64 0, .slice none 0 0, .slice none 0 0, .slice none 0 0] 106)).heap.size = w1.heap.size + 1 by simp] at o1b
 have O1b := Lib.hid o1b
 have QS : Hid (∀ w', Below w1.heap.size w1 w' → w'.cell? ⟨w.heap.size, 0, none⟩ = some (.int .i64 m) ∧ w'.cell? ⟨w.heap.size, 1, none⟩ = some (.slice a1 n1 c1)) := Lib.hid (fun w' hb => ⟨(hb.cell (World.block_lt_of_cell? w1 _ x0)).trans x0, (hb.cell (World.block_lt_of_cell? w1 _ x1)).trans x1⟩)
 clear hm hk1 hn1 hn2 hn3 h1 h2 h3 hy1 hl1 hnn1 hnw1 hhl1 o1b hh1 pf p0 p1 p2 p3 x0 x1 x2 x3 g1 hc1
 go_enter Try.func40, Try.ntmps40
 try simp only [List.append_eq, List.cons_append, List.nil_append]
 go_upto_region 1 with fail
 rw [← hw1]
 clear hw1
 go_cut [3] from 7 to 18 (fun s3 wx => ∃ b3 v1, s3 = .pointer (some ⟨b3, 0, none⟩) ∧ CutHead w1 wx b3 m v1 (s.waits.take 10))
 case first =>
  refine wp_region_held_drew (S := (fun w' => w'.cell? ⟨w.heap.size, 0, none⟩ = some (.int .i64 m) ∧ w'.cell? ⟨w.heap.size, 1, none⟩ = some (.slice a1 n1 c1))) (by kernel_rfl) ?_ (fun hHeld => ?_)
  ·exact QS.out _ (by go_grown)
  refine tq 0 ?_
  refine tq 1 ?_
  refine tq 3 ?_
  refine tq 4 ?_
  refine tq 5 ?_
  refine tq 6 ?_
  refine tq 7 ?_
  refine tq 8 ?_
  refine tq 9 ?_
  refine wpAnyH_ready (rs := [2, 12]) (by kernel_rfl) (by simp) ?_
  refine AllReadyH.cons rfl (fun K hK => ?_) (AllReadyH.cons rfl (fun K hK => ?_) AllReadyH.nil)
  ·go_simp
   refine hK.out _ _ ?_ (fun hHeld => ?_)
   ·exact QS.out _ (by go_grown)
   clear hK K
   try simp only [Act.put, List.getElem_toArray, List.getElem_cons_zero, List.getElem_cons_succ, List.setIfInBounds_toArray, List.set_cons_zero, List.set_cons_succ]
   refine wpAnyH_ready (rs := [10, 12]) (by kernel_rfl) (by simp) ?_
   refine AllReadyH.cons rfl (fun K hK => ?_) (AllReadyH.cons rfl (fun K hK => ?_) AllReadyH.nil)
   ·refine appS (by rfl) _ _ 28 3 i1 (.int .i64 0) 1 8 (by rfl) Try.underlying28 hi1 hz1 hs1 hby1 rfl (by decide) True (fresh w1) w1 _ _ [] _ 0 k1 c1 k1 rfl (by exact O1a.out.later (by go_grown)) rfl a1 (by rfl) news1 (by exact newsLater HW1.out (by go_grown)) HN1.out HY1.out HL1.out (by exact (HH1.out _ _).later (below_step G1.out.size G1.out (show Below w1.heap.size w1 _ by go_grown))) (Nat.zero_add _) (by unfold maxLen; omega) (by omega) ?_
    intro ao1 cv1 w4 hO4 hg4 hb4
    have hg4 : World.grownBy _ w4 (some w1.heap.size) := hg4
    have hb4 : (Value.slice ao1 k1 cv1).ownBlock = some w1.heap.size ∨ (Value.slice ao1 k1 cv1).ownBlock = some _ := hb4
    have O4 := Lib.hid hO4
    have B4 := Lib.hid hb4
    clear hO4 hg4 hb4
    refine hK.out _ _ ?_ (fun hHeld => ?_)
    ·exact QS.out _ O4.out.bel
    clear hK K
    try simp only [Act.put, List.getElem_toArray, List.getElem_cons_zero, List.getElem_cons_succ, List.setIfInBounds_toArray, List.set_cons_zero, List.set_cons_succ]
    refine tq 11 ?_
    refine rd 12 fun K hK => ?_
    go_simp
    refine hK.out _ _ ?_ (fun hHeld => ?_)
    ·exact QS.out _ (by have := O4.out.bel; have hz := this.size; go_grown)
    clear hK K
    try simp only [Act.put, List.getElem_toArray, List.getElem_cons_zero, List.getElem_cons_succ, List.setIfInBounds_toArray, List.set_cons_zero, List.set_cons_succ]
    refine rd 13 fun K hK => ?_
    go_simp
    refine hK.out _ _ ?_ (fun hHeld => ?_)
    ·exact QS.out _ (by have := O4.out.bel; have hz := this.size; go_grown)
    clear hK K
    try simp only [Act.put, List.getElem_toArray, List.getElem_cons_zero, List.getElem_cons_succ, List.setIfInBounds_toArray, List.set_cons_zero, List.set_cons_succ]
    refine wpAnyH_done (by kernel_rfl) ?_ _
    go_wp2_with fail
    go_meet
    exact ⟨_, _, rfl, cutHead_new O4.out m⟩
   ·go_simp
    refine hK.out _ _ ?_ (fun hHeld => ?_)
    ·exact QS.out _ (by go_grown)
    clear hK K
    try simp only [Act.put, List.getElem_toArray, List.getElem_cons_zero, List.getElem_cons_succ, List.setIfInBounds_toArray, List.set_cons_zero, List.set_cons_succ]
    refine rd 10 fun K hK => ?_
    refine appS (by rfl) _ _ 28 3 i1 (.int .i64 0) 1 8 (by rfl) Try.underlying28 hi1 hz1 hs1 hby1 rfl (by decide) True (fresh w1) w1 _ _ [] _ 0 k1 c1 k1 rfl (by exact O1a.out.later (by go_grown)) rfl a1 (by rfl) news1 (by exact newsLater HW1.out (by go_grown)) HN1.out HY1.out HL1.out (by exact (HH1.out _ _).later (below_step G1.out.size G1.out (show Below w1.heap.size w1 _ by go_grown))) (Nat.zero_add _) (by unfold maxLen; omega) (by omega) ?_
    intro ao1 cv1 w4 hO4 hg4 hb4
    have hg4 : World.grownBy _ w4 (some w1.heap.size) := hg4
    have hb4 : (Value.slice ao1 k1 cv1).ownBlock = some w1.heap.size ∨ (Value.slice ao1 k1 cv1).ownBlock = some _ := hb4
    have O4 := Lib.hid hO4
    have B4 := Lib.hid hb4
    have t0 := grown_at (b := (w1.heap.size + 1)) (i := 0) (v := .int .i64 0) hg4 (by simp) (by go_cell)
    have t1 := grown_at (b := (w1.heap.size + 1)) (i := 1) (v := .slice none 0 0) hg4 (by simp) (by go_cell)
    have t2 := grown_at (b := (w1.heap.size + 1)) (i := 2) (v := .slice none 0 0) hg4 (by simp) (by go_cell)
    have t3 := grown_at (b := (w1.heap.size + 1)) (i := 3) (v := .slice none 0 0) hg4 (by simp) (by go_cell)
    have rz : ∀ i, w4.frozen? ⟨(w1.heap.size + 1), i, none⟩ = false := fun i => grown_frozen hg4 (by simp) (by simp <;> omega) (by first | exact frozen_two _ _ _ _ _ _ | (show (World.alloc _ _).frozen? _ = false; rw [show w1.heap.size + 1 = (w1.alloc (.cells #[] 3)).heap.size by simp]; exact frozen_new _ _ _ _))
    have r0 := rz 0
    have r1 := rz 1
    have r2 := rz 2
    have r3 := rz 3
    have RZ := Lib.hid rz
    have T0 := Lib.hid (And.intro t0 (And.intro t1 (And.intro t2 t3)))
    clear rz
    clear hO4 hg4 hb4
    refine hK.out _ _ ?_ (fun hHeld => ?_)
    ·exact QS.out _ O4.out.bel
    clear hK K
    try simp only [Act.put, List.getElem_toArray, List.getElem_cons_zero, List.getElem_cons_succ, List.setIfInBounds_toArray, List.set_cons_zero, List.set_cons_succ]
    refine tq 11 ?_
    refine rd 13 fun K hK => ?_
    go_simp
    refine hK.out _ _ ?_ (fun hHeld => ?_)
    ·exact QS.out _ (by have := O4.out.bel; have hz := this.size; go_grown)
    clear hK K
    try simp only [Act.put, List.getElem_toArray, List.getElem_cons_zero, List.getElem_cons_succ, List.setIfInBounds_toArray, List.set_cons_zero, List.set_cons_succ]
    refine wpAnyH_done (by kernel_rfl) ?_ _
    go_wp2_with fail
    go_meet
    exact ⟨_, _, rfl, cutHead_set O4.out m (by omega) (by rcases B4.out with e | e <;> (rw [e]; simp <;> omega)) T0.out.1 T0.out.2.1 T0.out.2.2.1 T0.out.2.2.2 RZ.out⟩
  ·go_simp
   refine hK.out _ _ ?_ (fun hHeld => ?_)
   ·exact QS.out _ (by go_grown)
   clear hK K
   try simp only [Act.put, List.getElem_toArray, List.getElem_cons_zero, List.getElem_cons_succ, List.setIfInBounds_toArray, List.set_cons_zero, List.set_cons_succ]
   refine rd 2 fun K hK => ?_
   go_simp
   refine hK.out _ _ ?_ (fun hHeld => ?_)
   ·exact QS.out _ (by go_grown)
   clear hK K
   try simp only [Act.put, List.getElem_toArray, List.getElem_cons_zero, List.getElem_cons_succ, List.setIfInBounds_toArray, List.set_cons_zero, List.set_cons_succ]
   refine rd 10 fun K hK => ?_
   refine appS (by rfl) _ _ 28 3 i1 (.int .i64 0) 1 8 (by rfl) Try.underlying28 hi1 hz1 hs1 hby1 rfl (by decide) True (fresh w1) w1 _ _ [] _ 0 k1 c1 k1 rfl (by exact O1b.out.later (by go_grown)) rfl a1 (by rfl) news1 (by exact newsLater HW1.out (by go_grown)) HN1.out HY1.out HL1.out (by exact (HH1.out _ _).later (below_step G1.out.size G1.out (show Below w1.heap.size w1 _ by go_grown))) (Nat.zero_add _) (by unfold maxLen; omega) (by omega) ?_
   intro ao1 cv1 w4 hO4 hg4 hb4
   have hg4 : World.grownBy _ w4 (some (w1.heap.size + 1)) := hg4
   have hb4 : (Value.slice ao1 k1 cv1).ownBlock = some (w1.heap.size + 1) ∨ (Value.slice ao1 k1 cv1).ownBlock = some _ := hb4
   have O4 := Lib.hid hO4
   have B4 := Lib.hid hb4
   have t0 := grown_at (b := w1.heap.size) (i := 0) (v := .int .i64 0) hg4 (by simp) (by go_cell)
   have t1 := grown_at (b := w1.heap.size) (i := 1) (v := .slice none 0 0) hg4 (by simp) (by go_cell)
   have t2 := grown_at (b := w1.heap.size) (i := 2) (v := .slice none 0 0) hg4 (by simp) (by go_cell)
   have t3 := grown_at (b := w1.heap.size) (i := 3) (v := .slice none 0 0) hg4 (by simp) (by go_cell)
   have rz : ∀ i, w4.frozen? ⟨w1.heap.size, i, none⟩ = false := fun i => grown_frozen hg4 (by simp) (by simp <;> omega) (by first | exact frozen_two _ _ _ _ _ _ | (show (World.alloc _ _).frozen? _ = false; rw [show w1.heap.size + 1 = (w1.alloc (.cells #[] 3)).heap.size by simp]; exact frozen_new _ _ _ _))
   have r0 := rz 0
   have r1 := rz 1
   have r2 := rz 2
   have r3 := rz 3
   have RZ := Lib.hid rz
   have T0 := Lib.hid (And.intro t0 (And.intro t1 (And.intro t2 t3)))
   clear rz
   clear hO4 hg4 hb4
   refine hK.out _ _ ?_ (fun hHeld => ?_)
   ·exact QS.out _ O4.out.bel
   clear hK K
   try simp only [Act.put, List.getElem_toArray, List.getElem_cons_zero, List.getElem_cons_succ, List.setIfInBounds_toArray, List.set_cons_zero, List.set_cons_succ]
   refine tq 11 ?_
   refine rd 13 fun K hK => ?_
   go_simp
   refine hK.out _ _ ?_ (fun hHeld => ?_)
   ·exact QS.out _ (by have := O4.out.bel; have hz := this.size; go_grown)
   clear hK K
   try simp only [Act.put, List.getElem_toArray, List.getElem_cons_zero, List.getElem_cons_succ, List.setIfInBounds_toArray, List.set_cons_zero, List.set_cons_succ]
   refine wpAnyH_done (by kernel_rfl) ?_ _
   go_wp2_with fail
   go_meet
   exact ⟨_, _, rfl, cutHead_set O4.out m (by omega) (by rcases B4.out with e | e <;> (rw [e]; simp <;> omega)) T0.out.1 T0.out.2.1 T0.out.2.2.1 T0.out.2.2.2 RZ.out⟩
 case rest =>
  obtain ⟨b3, v1, rfl, hH⟩ := hcut
  obtain ⟨wA, hwA⟩ : ∃ wA, wA = wc := ⟨_, rfl⟩
  subst hwA
  have hbA := hH.lt
  have hgA := hH.ge
  have CS := Lib.hid (C1.start hH)
  have HH := Lib.hid hH
  have HbA := Lib.hid hbA
  have HgA := Lib.hid hgA
  have hcx : ∀ wr : World, SameOn (fun k => k < wA.heap.size ∧ k ≠ b3) wA wr → ∀ (b i : Nat) (u : Value), b < w1.heap.size → w1.cell? ⟨b, i, none⟩ = some u → wr.cell? ⟨b, i, none⟩ = some u := fun wr hs b i u hb hu => by
   have e := (hH.bel.cell (by exact hb)).trans hu
   have hz := hH.bel.size
   exact (hs.cell (a := ⟨b, i, none⟩) ⟨by show b < _; omega, by show b ≠ b3; omega⟩ (by show b < _; omega)).trans e
  have CX := Lib.hid hcx
  have CF : Hid (∀ wr : World, SameOn (fun k => k < wA.heap.size ∧ k ≠ b3) wA wr → ∀ i : Nat, wr.frozen? ⟨w.heap.size + 1, i, none⟩ = false) := Lib.hid (fun wr hs i => by
   have hz := hH.bel.size
   have h1 := Z1.out
   exact ((hs.frozen (a := ⟨w.heap.size + 1, i, none⟩) ⟨by show w.heap.size + 1 < _; omega, by show w.heap.size + 1 ≠ b3; omega⟩ (by show w.heap.size + 1 < _; omega)).trans (hH.bel.frozen (by show w.heap.size + 1 < _; omega))).trans (PF.out i))
  clear hH hbA hgA hcx
  go_wp2_with fail
  go_loopw [4] (fun i wr => ∃ (k : Nat) (v2 : Value), i = .int .i64 k ∧ k ≤ n2 ∧ k ≤ 10 ∧ C1 w1 wA b3 m v1 v2 ((s.picks.take k).map cutP) wr) (fun i _ => 10 - (intOf i).toNat)
  case atStart => exact ⟨0, _, rfl, by omega, by omega, by rw [List.take_zero]; exact CS.out⟩
  case round =>
   obtain ⟨k, v2, rfl, hk, hk10, hC⟩ := hrel
   obtain ⟨wo, hwo⟩ : ∃ wo, wo = wr := ⟨_, rfl⟩
   subst hwo
   have CC := Lib.hid hC
   have hlow := hC.low
   have e2 := CX.out wo hlow _ _ _ (by rw [Z1.out]; omega) X2.out
   have E2 := Lib.hid e2
   by_cases hlt : k < n2
   ·have hlt' : (k : Int) < n2 := by omega
    by_cases hl10 : k < 10
    ·have hl10' : (k : Int) < 10 := by omega
     obtain ⟨p, hp⟩ := some_of_lt (l := s.picks) (i := k) (by rw [← N2.out]; exact hlt)
     have hbw : Below w.heap.size w wo := below_step G1.out.size G1.out (hC.bel.mono (Nat.le_refl _))
     obtain ⟨b, off, cap, sv, e, hb, _, q0, q1, hsv⟩ := pk_cells (H2.out.later hbw) hp
     rw [← N2.out] at e
     simp only [Value.slice.injEq] at e
     obtain ⟨e, _, e'⟩ := e
     subst e e'
     obtain ⟨sa, sc, rfl⟩ := slice_of hsv
     obtain ⟨sn, hsn⟩ : ∃ sn, sn = p.sends.length := ⟨_, rfl⟩
     obtain ⟨pn, hpn⟩ : ∃ pn, pn = p.next := ⟨_, rfl⟩
     rw [← hsn] at q1 hsv
     rw [← hpn] at q0
     have Sn := Lib.hid hsn
     have Pn := Lib.hid hpn
     have Hp := Lib.hid hp
     have hscap := capOf hsv
     obtain ⟨kk, hkk⟩ : ∃ kk, kk = min sn 10 := ⟨_, rfl⟩
     have hkn : kk ≤ sn := by omega
     have hkc : kk ≤ sc := by omega
     have hmin2 : (if 10 < (sn : Int) then (10 : Int) else (sn : Int)) = (kk : Int) := by split <;> omega
     obtain ⟨wx, hwx⟩ : ∃ wx, wx = wo.alloc (.cells #[.int .i64 pn, .slice sa sn sc] 123) := ⟨_, rfl⟩
     have hbx : Below wo.heap.size wo wx := by rw [hwx]; exact below_new _ _
     have r0 : wx.cell? ⟨wo.heap.size, 0, none⟩ = some (.int .i64 pn) := by rw [hwx]; exact World.cell?_alloc_at _ _ _ _ rfl
     have r1 : wx.cell? ⟨wo.heap.size, 1, none⟩ = some (.slice sa sn sc) := by rw [hwx]; exact World.cell?_alloc_at _ _ _ _ rfl
     have hCx := hC.below hbx
     have r2 := hCx.f2.cell
     obtain ⟨va, vc, hv2⟩ := hC.f2.bld.own.slice
     rw [List.length_map, List.length_map, List.length_take, ← N2.out, Nat.min_eq_left (by omega)] at hv2
     subst hv2
     have hhs : Has wx (.slice sa kk sc) (dLinks (cutP p).sends) := by
      have := Holds.take (m := kk) (hsv.later hbx) (by rw [List.length_map, ← hsn]; exact hkn)
      rw [← List.map_take] at this
      unfold dLinks
      have e : (cutP p).sends = p.sends.take kk := by
       show p.sends.take 10 = _
       rw [hkk, hsn, List.take_eq_take_min]
       congr 1; omega
      rw [e]; exact this
     have hys : ∀ ds ∈ (cutP p).sends.map (fun p => [dI p.1, dI p.2]), ds.length = 2 := by intro ds hds; obtain ⟨_, _, rfl⟩ := List.mem_map.1 hds; rfl
     obtain ⟨hl2, hnn2, news2, hnw2, hhl2⟩ := newsOf hhs hys (flat_links _)
     have HY2 := Lib.hid hys
     have HL2 := Lib.hid hl2
     have HN2 := Lib.hid hnn2
     have HW2 := Lib.hid hnw2
     have HH2 := Lib.hid hhl2
     have KK := Lib.hid hkk
     have BX := Lib.hid hbx
     have CX2 := Lib.hid hCx
     have O2 := Lib.hid ((Own.made (S := True) (P := fun _ => True) (E := 120) (n := 2) (Below.refl wx.heap.size wx)))
     have QB : Hid (∀ w', Below wx.heap.size wx w' → w'.cell? ⟨b3, 2, none⟩ = some (.slice va k vc)) := Lib.hid (fun w' hb => (hb.cell (World.block_lt_of_cell? wx _ r2)).trans r2)
     have QS2 : Hid (∀ w', Below wx.heap.size wx w' → w'.cell? ⟨wo.heap.size, 0, none⟩ = some (.int .i64 pn) ∧ w'.cell? ⟨wo.heap.size, 1, none⟩ = some (.slice sa sn sc)) := Lib.hid (fun w' hb => ⟨(hb.cell (World.block_lt_of_cell? wx _ r0)).trans r0, (hb.cell (World.block_lt_of_cell? wx _ r1)).trans r1⟩)
     have Hxo := Lib.hid (show wx.heap.size = wo.heap.size + 1 by rw [hwx]; simp)
     clear hC hlow hp hsv hsn hpn hkk hbx r0 r1 r2 hhs hys hl2 hnn2 hnw2 hhl2 hCx hscap hbw
     go_wp2_with fail
     rw [← hwx]
     clear hwx e2
     refine wp_region_held_drew (S := (fun w' => w'.cell? ⟨wo.heap.size, 0, none⟩ = some (.int .i64 pn) ∧ w'.cell? ⟨wo.heap.size, 1, none⟩ = some (.slice sa sn sc))) (by kernel_rfl) ?_ (fun hHeld => ?_)
     ·exact QS2.out _ (by go_grown)
     refine tq 0 ?_
     refine tq 2 ?_
     refine tq 3 ?_
     refine tq 5 ?_
     refine tq 6 ?_
     refine tq 7 ?_
     refine tq 8 ?_
     refine tq 9 ?_
     refine tq 10 ?_
     refine tq 11 ?_
     refine wpAnyH_ready (rs := [1, 4]) (by kernel_rfl) (by simp) ?_
     refine AllReadyH.cons rfl (fun K hK => ?_) (AllReadyH.cons rfl (fun K hK => ?_) AllReadyH.nil)
     ·have rr := QB.out wx.drew (show Below wx.heap.size wx wx.drew from below_drewN (Below.refl _ wx) 1)
      go_simp
      refine hK.out _ _ ?_ (fun hHeld => ?_)
      ·exact QS2.out _ (by go_grown)
      clear hK K
      try simp only [Act.put, List.getElem_toArray, List.getElem_cons_zero, List.getElem_cons_succ, List.setIfInBounds_toArray, List.set_cons_zero, List.set_cons_succ]
      refine rd 4 fun K hK => ?_
      go_simp
      refine hK.out _ _ ?_ (fun hHeld => ?_)
      ·exact QS2.out _ (by go_grown)
      clear hK K
      try simp only [Act.put, List.getElem_toArray, List.getElem_cons_zero, List.getElem_cons_succ, List.setIfInBounds_toArray, List.set_cons_zero, List.set_cons_succ]
      refine rd 12 fun K hK => ?_
      refine appS (by rfl) _ _ 121 120 i2 (.agg #[.int .i64 0, .int .i64 0]) 2 16 (by rfl) Try.underlying121 hi2 hz2 hs2 hby2 rfl (by decide) True (fun _ => True) wx _ _ [] _ 0 kk sc kk rfl (by exact O2.out.later (by go_grown)) rfl sa (by rfl) news2 (by exact newsLater HW2.out (show Below wx.heap.size wx _ by go_grown)) HN2.out HY2.out HL2.out (by exact (HH2.out _ _).later (show Below wx.heap.size wx _ by go_grown)) (Nat.zero_add _) (by unfold maxLen; omega) (by omega) ?_
      intro ao2 cv2 w4 hO4 hg4 hb4
      have HS4 := Lib.hid (hO4.flat (P' := fun k => wx.heap.size ≤ k ∧ k < w4.heap.size) (flat_links _) (fun k hk => hO4.ge k hk))
      have BN := Lib.hid hO4.bel
      clear hO4 hg4 hb4
      refine hK.out _ _ ?_ (fun hHeld => ?_)
      ·exact QS2.out _ BN.out
      clear hK K
      try simp only [Act.put, List.getElem_toArray, List.getElem_cons_zero, List.getElem_cons_succ, List.setIfInBounds_toArray, List.set_cons_zero, List.set_cons_succ]
      refine tq 13 ?_
      refine rd 14 fun K hK => ?_
      go_simp
      refine hK.out _ _ ?_ (fun hHeld => ?_)
      ·exact QS2.out _ (by have := BN.out; have hz := this.size; go_grown)
      clear hK K
      try simp only [Act.put, List.getElem_toArray, List.getElem_cons_zero, List.getElem_cons_succ, List.setIfInBounds_toArray, List.set_cons_zero, List.set_cons_succ]
      refine rd 15 fun K hK => ?_
      obtain ⟨w5, hw5⟩ : ∃ w5, w5 = w4.alloc (.cells #[.int .i64 pn, .slice ao2 kk cv2] 123) := ⟨_, rfl⟩
      have hb45 : Below w4.heap.size w4 w5 := by rw [hw5]; exact below_new _ _
      have hx5 := below_step BN.out.size BN.out hb45
      have ho5 := below_step BX.out.size BX.out hx5
      have n5 : ∀ j u, [Value.int .i64 pn, .slice ao2 kk cv2][j]? = some u → w5.cell? ((⟨w4.heap.size, 0, none⟩ : Addr).add j) = some u := fun j u hj => by rw [hw5, Go.WideShapes.add_plain, Nat.zero_add, World.cell?_alloc_at _ _ _ _ rfl, List.getElem?_toArray]; exact hj
      have HL5 := Lib.hid (pk_holdsL (P := fun kz => wA.heap.size ≤ kz ∧ (Value.slice va k vc).ownBlock ≠ some kz ∧ (True → wo.heap.size ≤ kz)) (p := cutP p) (x := pn) Pn.out (HS4.out.later hb45) (fun kx hkx => ⟨by have := CC.out.low.1; have := Hxo.out; omega, fun e => by have := CC.out.f2.bld.own.blk kx e; have := Hxo.out; omega, fun _ => by have := Hxo.out; omega⟩))
      have N5 := Lib.hid n5
      have X5 := Lib.hid hx5
      have OB5 := Lib.hid ho5
      rw [← hw5]
      clear hb45 hx5 ho5 n5 hw5
      refine appS (by rfl) _ _ 103 123 i3 (.agg #[.int .i64 0, .slice none 0 0]) 2 32 (by rfl) Try.underlying103 hi3 hz3 hs3 hby3 rfl (by decide) True (fun k => wA.heap.size ≤ k) w1 wo.heap.size _ (((s.picks.take k).map cutP).map Pk.d) [(cutP p).d] k 1 1 (k + 1) rfl (by exact (CC.out.f2.bld.own.later OB5.out)) (by simp; rw [← N2.out]; omega) (some ⟨w4.heap.size, 0, none⟩) (by rfl) [.int .i64 pn, .slice ao2 kk cv2] (fun a ha => by cases ha; exact N5.out) (fun e => by cases e) (by simp [Pk.d]) rfl (by rw [List.flatten_cons, List.flatten_nil, List.append_nil]; exact HL5.out) rfl (by unfold maxLen; omega) (by omega) ?_
      intro ao6 cv6 w6 hO6 hg6 hb6
      obtain ⟨hCN, hc6, hf6⟩ := CC.out.push HbA.out OB5.out hO6 hg6 hb6
      have CN := Lib.hid hCN
      have v0 := grown_at hg6 (fun e => by have := CC.out.f2.bld.own.blk _ e; omega) (QS2.out _ X5.out).1
      have v1' := grown_at hg6 (fun e => by have := CC.out.f2.bld.own.blk _ e; omega) (QS2.out _ X5.out).2
      clear hO6 hg6 hb6 hCN
      refine hK.out _ _ ?_ (fun hHeld => ?_)
      ·exact ⟨v0, v1'⟩
      clear hK K
      try simp only [Act.put, List.getElem_toArray, List.getElem_cons_zero, List.getElem_cons_succ, List.setIfInBounds_toArray, List.set_cons_zero, List.set_cons_succ]
      refine tq 16 ?_
      refine rd 17 fun K hK => ?_
      go_simp
      refine hK.out _ _ ?_ (fun hHeld => ?_)
      ·exact ⟨by rw [World.cell?_setCell_other _ _ _ _ (by simp)]; exact v0, by rw [World.cell?_setCell_other _ _ _ _ (by simp)]; exact v1'⟩
      clear hK K
      try simp only [Act.put, List.getElem_toArray, List.getElem_cons_zero, List.getElem_cons_succ, List.setIfInBounds_toArray, List.set_cons_zero, List.set_cons_succ]
      refine wpAnyH_done (by kernel_rfl) ?_ _
      go_wp2_with fail
      go_roundw
      case rel =>
       refine ⟨k + 1, .slice ao6 (k + 1) cv6, by go_num, by omega, by omega, ?_⟩
       rw [List.take_add_one, Hp.out]
       simp only [Option.toList, List.map_append, List.map_cons, List.map_nil]
       exact CN.out
      case measure => simp [intOf]; omega
     ·go_simp
      refine hK.out _ _ ?_ (fun hHeld => ?_)
      ·exact QS2.out _ (by go_grown)
      clear hK K
      try simp only [Act.put, List.getElem_toArray, List.getElem_cons_zero, List.getElem_cons_succ, List.setIfInBounds_toArray, List.set_cons_zero, List.set_cons_succ]
      refine wpAnyH_ready (rs := [1, 12]) (by kernel_rfl) (by simp) ?_
      refine AllReadyH.cons rfl (fun K hK => ?_) (AllReadyH.cons rfl (fun K hK => ?_) AllReadyH.nil)
      ·have rr := QB.out (wx.alloc (.cells #[] 120)).drew (show Below wx.heap.size wx (wx.alloc (.cells #[] 120)).drew from below_drewN (below_new wx _) 1)
       go_simp
       refine hK.out _ _ ?_ (fun hHeld => ?_)
       ·exact QS2.out _ (by go_grown)
       clear hK K
       try simp only [Act.put, List.getElem_toArray, List.getElem_cons_zero, List.getElem_cons_succ, List.setIfInBounds_toArray, List.set_cons_zero, List.set_cons_succ]
       refine rd 12 fun K hK => ?_
       refine appS (by rfl) _ _ 121 120 i2 (.agg #[.int .i64 0, .int .i64 0]) 2 16 (by rfl) Try.underlying121 hi2 hz2 hs2 hby2 rfl (by decide) True (fun _ => True) wx _ _ [] _ 0 kk sc kk rfl (by exact O2.out.later (by go_grown)) rfl sa (by rfl) news2 (by exact newsLater HW2.out (show Below wx.heap.size wx _ by go_grown)) HN2.out HY2.out HL2.out (by exact (HH2.out _ _).later (show Below wx.heap.size wx _ by go_grown)) (Nat.zero_add _) (by unfold maxLen; omega) (by omega) ?_
       intro ao2 cv2 w4 hO4 hg4 hb4
       have HS4 := Lib.hid (hO4.flat (P' := fun k => wx.heap.size ≤ k ∧ k < w4.heap.size) (flat_links _) (fun k hk => hO4.ge k hk))
       have BN := Lib.hid hO4.bel
       clear hO4 hg4 hb4
       refine hK.out _ _ ?_ (fun hHeld => ?_)
       ·exact QS2.out _ BN.out
       clear hK K
       try simp only [Act.put, List.getElem_toArray, List.getElem_cons_zero, List.getElem_cons_succ, List.setIfInBounds_toArray, List.set_cons_zero, List.set_cons_succ]
       refine tq 13 ?_
       refine rd 14 fun K hK => ?_
       go_simp
       refine hK.out _ _ ?_ (fun hHeld => ?_)
       ·exact QS2.out _ (by have := BN.out; have hz := this.size; go_grown)
       clear hK K
       try simp only [Act.put, List.getElem_toArray, List.getElem_cons_zero, List.getElem_cons_succ, List.setIfInBounds_toArray, List.set_cons_zero, List.set_cons_succ]
       refine rd 15 fun K hK => ?_
       obtain ⟨w5, hw5⟩ : ∃ w5, w5 = w4.alloc (.cells #[.int .i64 pn, .slice ao2 kk cv2] 123) := ⟨_, rfl⟩
       have hb45 : Below w4.heap.size w4 w5 := by rw [hw5]; exact below_new _ _
       have hx5 := below_step BN.out.size BN.out hb45
       have ho5 := below_step BX.out.size BX.out hx5
       have n5 : ∀ j u, [Value.int .i64 pn, .slice ao2 kk cv2][j]? = some u → w5.cell? ((⟨w4.heap.size, 0, none⟩ : Addr).add j) = some u := fun j u hj => by rw [hw5, Go.WideShapes.add_plain, Nat.zero_add, World.cell?_alloc_at _ _ _ _ rfl, List.getElem?_toArray]; exact hj
       have HL5 := Lib.hid (pk_holdsL (P := fun kz => wA.heap.size ≤ kz ∧ (Value.slice va k vc).ownBlock ≠ some kz ∧ (True → wo.heap.size ≤ kz)) (p := cutP p) (x := pn) Pn.out (HS4.out.later hb45) (fun kx hkx => ⟨by have := CC.out.low.1; have := Hxo.out; omega, fun e => by have := CC.out.f2.bld.own.blk kx e; have := Hxo.out; omega, fun _ => by have := Hxo.out; omega⟩))
       have N5 := Lib.hid n5
       have X5 := Lib.hid hx5
       have OB5 := Lib.hid ho5
       rw [← hw5]
       clear hb45 hx5 ho5 n5 hw5
       refine appS (by rfl) _ _ 103 123 i3 (.agg #[.int .i64 0, .slice none 0 0]) 2 32 (by rfl) Try.underlying103 hi3 hz3 hs3 hby3 rfl (by decide) True (fun k => wA.heap.size ≤ k) w1 wo.heap.size _ (((s.picks.take k).map cutP).map Pk.d) [(cutP p).d] k 1 1 (k + 1) rfl (by exact (CC.out.f2.bld.own.later OB5.out)) (by simp; rw [← N2.out]; omega) (some ⟨w4.heap.size, 0, none⟩) (by rfl) [.int .i64 pn, .slice ao2 kk cv2] (fun a ha => by cases ha; exact N5.out) (fun e => by cases e) (by simp [Pk.d]) rfl (by rw [List.flatten_cons, List.flatten_nil, List.append_nil]; exact HL5.out) rfl (by unfold maxLen; omega) (by omega) ?_
       intro ao6 cv6 w6 hO6 hg6 hb6
       obtain ⟨hCN, hc6, hf6⟩ := CC.out.push HbA.out OB5.out hO6 hg6 hb6
       have CN := Lib.hid hCN
       have v0 := grown_at hg6 (fun e => by have := CC.out.f2.bld.own.blk _ e; omega) (QS2.out _ X5.out).1
       have v1' := grown_at hg6 (fun e => by have := CC.out.f2.bld.own.blk _ e; omega) (QS2.out _ X5.out).2
       clear hO6 hg6 hb6 hCN
       refine hK.out _ _ ?_ (fun hHeld => ?_)
       ·exact ⟨v0, v1'⟩
       clear hK K
       try simp only [Act.put, List.getElem_toArray, List.getElem_cons_zero, List.getElem_cons_succ, List.setIfInBounds_toArray, List.set_cons_zero, List.set_cons_succ]
       refine tq 16 ?_
       refine rd 17 fun K hK => ?_
       go_simp
       refine hK.out _ _ ?_ (fun hHeld => ?_)
       ·exact ⟨by rw [World.cell?_setCell_other _ _ _ _ (by simp)]; exact v0, by rw [World.cell?_setCell_other _ _ _ _ (by simp)]; exact v1'⟩
       clear hK K
       try simp only [Act.put, List.getElem_toArray, List.getElem_cons_zero, List.getElem_cons_succ, List.setIfInBounds_toArray, List.set_cons_zero, List.set_cons_succ]
       refine wpAnyH_done (by kernel_rfl) ?_ _
       go_wp2_with fail
       go_roundw
       case rel =>
        refine ⟨k + 1, .slice ao6 (k + 1) cv6, by go_num, by omega, by omega, ?_⟩
        rw [List.take_add_one, Hp.out]
        simp only [Option.toList, List.map_append, List.map_cons, List.map_nil]
        exact CN.out
       case measure => simp [intOf]; omega
      ·refine appS (by rfl) _ _ 121 120 i2 (.agg #[.int .i64 0, .int .i64 0]) 2 16 (by rfl) Try.underlying121 hi2 hz2 hs2 hby2 rfl (by decide) True (fun _ => True) wx _ _ [] _ 0 kk sc kk rfl (by exact O2.out.later (by go_grown)) rfl sa (by rfl) news2 (by exact newsLater HW2.out (show Below wx.heap.size wx _ by go_grown)) HN2.out HY2.out HL2.out (by exact (HH2.out _ _).later (show Below wx.heap.size wx _ by go_grown)) (Nat.zero_add _) (by unfold maxLen; omega) (by omega) ?_
       intro ao2 cv2 w4 hO4 hg4 hb4
       have HS4 := Lib.hid (hO4.flat (P' := fun k => wx.heap.size ≤ k ∧ k < w4.heap.size) (flat_links _) (fun k hk => hO4.ge k hk))
       have BN := Lib.hid hO4.bel
       clear hO4 hg4 hb4
       refine hK.out _ _ ?_ (fun hHeld => ?_)
       ·exact QS2.out _ BN.out
       clear hK K
       try simp only [Act.put, List.getElem_toArray, List.getElem_cons_zero, List.getElem_cons_succ, List.setIfInBounds_toArray, List.set_cons_zero, List.set_cons_succ]
       refine tq 13 ?_
       refine wpAnyH_ready (rs := [1, 14]) (by kernel_rfl) (by simp) ?_
       refine AllReadyH.cons rfl (fun K hK => ?_) (AllReadyH.cons rfl (fun K hK => ?_) AllReadyH.nil)
       ·have rr := QB.out w4 (show Below wx.heap.size wx w4 from BN.out)
        go_simp
        refine hK.out _ _ ?_ (fun hHeld => ?_)
        ·exact QS2.out _ BN.out
        clear hK K
        try simp only [Act.put, List.getElem_toArray, List.getElem_cons_zero, List.getElem_cons_succ, List.setIfInBounds_toArray, List.set_cons_zero, List.set_cons_succ]
        refine rd 14 fun K hK => ?_
        go_simp
        refine hK.out _ _ ?_ (fun hHeld => ?_)
        ·exact QS2.out _ (by have := BN.out; have hz := this.size; go_grown)
        clear hK K
        try simp only [Act.put, List.getElem_toArray, List.getElem_cons_zero, List.getElem_cons_succ, List.setIfInBounds_toArray, List.set_cons_zero, List.set_cons_succ]
        refine rd 15 fun K hK => ?_
        obtain ⟨w5, hw5⟩ : ∃ w5, w5 = w4.alloc (.cells #[.int .i64 pn, .slice ao2 kk cv2] 123) := ⟨_, rfl⟩
        have hb45 : Below w4.heap.size w4 w5 := by rw [hw5]; exact below_new _ _
        have hx5 := below_step BN.out.size BN.out hb45
        have ho5 := below_step BX.out.size BX.out hx5
        have n5 : ∀ j u, [Value.int .i64 pn, .slice ao2 kk cv2][j]? = some u → w5.cell? ((⟨w4.heap.size, 0, none⟩ : Addr).add j) = some u := fun j u hj => by rw [hw5, Go.WideShapes.add_plain, Nat.zero_add, World.cell?_alloc_at _ _ _ _ rfl, List.getElem?_toArray]; exact hj
        have HL5 := Lib.hid (pk_holdsL (P := fun kz => wA.heap.size ≤ kz ∧ (Value.slice va k vc).ownBlock ≠ some kz ∧ (True → wo.heap.size ≤ kz)) (p := cutP p) (x := pn) Pn.out (HS4.out.later hb45) (fun kx hkx => ⟨by have := CC.out.low.1; have := Hxo.out; omega, fun e => by have := CC.out.f2.bld.own.blk kx e; have := Hxo.out; omega, fun _ => by have := Hxo.out; omega⟩))
        have N5 := Lib.hid n5
        have X5 := Lib.hid hx5
        have OB5 := Lib.hid ho5
        rw [← hw5]
        clear hb45 hx5 ho5 n5 hw5
        refine appS (by rfl) _ _ 103 123 i3 (.agg #[.int .i64 0, .slice none 0 0]) 2 32 (by rfl) Try.underlying103 hi3 hz3 hs3 hby3 rfl (by decide) True (fun k => wA.heap.size ≤ k) w1 wo.heap.size _ (((s.picks.take k).map cutP).map Pk.d) [(cutP p).d] k 1 1 (k + 1) rfl (by exact (CC.out.f2.bld.own.later OB5.out)) (by simp; rw [← N2.out]; omega) (some ⟨w4.heap.size, 0, none⟩) (by rfl) [.int .i64 pn, .slice ao2 kk cv2] (fun a ha => by cases ha; exact N5.out) (fun e => by cases e) (by simp [Pk.d]) rfl (by rw [List.flatten_cons, List.flatten_nil, List.append_nil]; exact HL5.out) rfl (by unfold maxLen; omega) (by omega) ?_
        intro ao6 cv6 w6 hO6 hg6 hb6
        obtain ⟨hCN, hc6, hf6⟩ := CC.out.push HbA.out OB5.out hO6 hg6 hb6
        have CN := Lib.hid hCN
        have v0 := grown_at hg6 (fun e => by have := CC.out.f2.bld.own.blk _ e; omega) (QS2.out _ X5.out).1
        have v1' := grown_at hg6 (fun e => by have := CC.out.f2.bld.own.blk _ e; omega) (QS2.out _ X5.out).2
        clear hO6 hg6 hb6 hCN
        refine hK.out _ _ ?_ (fun hHeld => ?_)
        ·exact ⟨v0, v1'⟩
        clear hK K
        try simp only [Act.put, List.getElem_toArray, List.getElem_cons_zero, List.getElem_cons_succ, List.setIfInBounds_toArray, List.set_cons_zero, List.set_cons_succ]
        refine tq 16 ?_
        refine rd 17 fun K hK => ?_
        go_simp
        refine hK.out _ _ ?_ (fun hHeld => ?_)
        ·exact ⟨by rw [World.cell?_setCell_other _ _ _ _ (by simp)]; exact v0, by rw [World.cell?_setCell_other _ _ _ _ (by simp)]; exact v1'⟩
        clear hK K
        try simp only [Act.put, List.getElem_toArray, List.getElem_cons_zero, List.getElem_cons_succ, List.setIfInBounds_toArray, List.set_cons_zero, List.set_cons_succ]
        refine wpAnyH_done (by kernel_rfl) ?_ _
        go_wp2_with fail
        go_roundw
        case rel =>
         refine ⟨k + 1, .slice ao6 (k + 1) cv6, by go_num, by omega, by omega, ?_⟩
         rw [List.take_add_one, Hp.out]
         simp only [Option.toList, List.map_append, List.map_cons, List.map_nil]
         exact CN.out
        case measure => simp [intOf]; omega
       ·go_simp
        refine hK.out _ _ ?_ (fun hHeld => ?_)
        ·exact QS2.out _ (by have := BN.out; have hz := this.size; go_grown)
        clear hK K
        try simp only [Act.put, List.getElem_toArray, List.getElem_cons_zero, List.getElem_cons_succ, List.setIfInBounds_toArray, List.set_cons_zero, List.set_cons_succ]
        refine rd 1 fun K hK => ?_
        have rr := QB.out (w4.alloc (.cells #[.int .i64 pn, .slice ao2 kk cv2] 123)) (show Below wx.heap.size wx (w4.alloc (.cells #[.int .i64 pn, .slice ao2 kk cv2] 123)) from below_step BN.out.size BN.out (below_new w4 _))
        go_simp
        refine hK.out _ _ ?_ (fun hHeld => ?_)
        ·exact QS2.out _ (by have := BN.out; have hz := this.size; go_grown)
        clear hK K
        try simp only [Act.put, List.getElem_toArray, List.getElem_cons_zero, List.getElem_cons_succ, List.setIfInBounds_toArray, List.set_cons_zero, List.set_cons_succ]
        refine rd 15 fun K hK => ?_
        obtain ⟨w5, hw5⟩ : ∃ w5, w5 = w4.alloc (.cells #[.int .i64 pn, .slice ao2 kk cv2] 123) := ⟨_, rfl⟩
        have hb45 : Below w4.heap.size w4 w5 := by rw [hw5]; exact below_new _ _
        have hx5 := below_step BN.out.size BN.out hb45
        have ho5 := below_step BX.out.size BX.out hx5
        have n5 : ∀ j u, [Value.int .i64 pn, .slice ao2 kk cv2][j]? = some u → w5.cell? ((⟨w4.heap.size, 0, none⟩ : Addr).add j) = some u := fun j u hj => by rw [hw5, Go.WideShapes.add_plain, Nat.zero_add, World.cell?_alloc_at _ _ _ _ rfl, List.getElem?_toArray]; exact hj
        have HL5 := Lib.hid (pk_holdsL (P := fun kz => wA.heap.size ≤ kz ∧ (Value.slice va k vc).ownBlock ≠ some kz ∧ (True → wo.heap.size ≤ kz)) (p := cutP p) (x := pn) Pn.out (HS4.out.later hb45) (fun kx hkx => ⟨by have := CC.out.low.1; have := Hxo.out; omega, fun e => by have := CC.out.f2.bld.own.blk kx e; have := Hxo.out; omega, fun _ => by have := Hxo.out; omega⟩))
        have N5 := Lib.hid n5
        have X5 := Lib.hid hx5
        have OB5 := Lib.hid ho5
        rw [← hw5]
        clear hb45 hx5 ho5 n5 hw5
        refine appS (by rfl) _ _ 103 123 i3 (.agg #[.int .i64 0, .slice none 0 0]) 2 32 (by rfl) Try.underlying103 hi3 hz3 hs3 hby3 rfl (by decide) True (fun k => wA.heap.size ≤ k) w1 wo.heap.size _ (((s.picks.take k).map cutP).map Pk.d) [(cutP p).d] k 1 1 (k + 1) rfl (by exact (CC.out.f2.bld.own.later OB5.out)) (by simp; rw [← N2.out]; omega) (some ⟨w4.heap.size, 0, none⟩) (by rfl) [.int .i64 pn, .slice ao2 kk cv2] (fun a ha => by cases ha; exact N5.out) (fun e => by cases e) (by simp [Pk.d]) rfl (by rw [List.flatten_cons, List.flatten_nil, List.append_nil]; exact HL5.out) rfl (by unfold maxLen; omega) (by omega) ?_
        intro ao6 cv6 w6 hO6 hg6 hb6
        obtain ⟨hCN, hc6, hf6⟩ := CC.out.push HbA.out OB5.out hO6 hg6 hb6
        have CN := Lib.hid hCN
        have v0 := grown_at hg6 (fun e => by have := CC.out.f2.bld.own.blk _ e; omega) (QS2.out _ X5.out).1
        have v1' := grown_at hg6 (fun e => by have := CC.out.f2.bld.own.blk _ e; omega) (QS2.out _ X5.out).2
        clear hO6 hg6 hb6 hCN
        refine hK.out _ _ ?_ (fun hHeld => ?_)
        ·exact ⟨v0, v1'⟩
        clear hK K
        try simp only [Act.put, List.getElem_toArray, List.getElem_cons_zero, List.getElem_cons_succ, List.setIfInBounds_toArray, List.set_cons_zero, List.set_cons_succ]
        refine tq 16 ?_
        refine rd 17 fun K hK => ?_
        go_simp
        refine hK.out _ _ ?_ (fun hHeld => ?_)
        ·exact ⟨by rw [World.cell?_setCell_other _ _ _ _ (by simp)]; exact v0, by rw [World.cell?_setCell_other _ _ _ _ (by simp)]; exact v1'⟩
        clear hK K
        try simp only [Act.put, List.getElem_toArray, List.getElem_cons_zero, List.getElem_cons_succ, List.setIfInBounds_toArray, List.set_cons_zero, List.set_cons_succ]
        refine wpAnyH_done (by kernel_rfl) ?_ _
        go_wp2_with fail
        go_roundw
        case rel =>
         refine ⟨k + 1, .slice ao6 (k + 1) cv6, by go_num, by omega, by omega, ?_⟩
         rw [List.take_add_one, Hp.out]
         simp only [Option.toList, List.map_append, List.map_cons, List.map_nil]
         exact CN.out
        case measure => simp [intOf]; omega
    ·have hl10' : ¬ (k : Int) < 10 := by omega
     obtain rfl : k = 10 := by omega
     have EndP : Hid ((s.picks.take 10).map cutP = (cutS s).picks) := Lib.hid rfl
     clear hC hlow e2
     have hC := CC.out
     have C2S := Lib.hid (C2.start hC HbA.out)
     have HP2 := Lib.hid (hC.f2.bld.holds)
     have hlow := hC.low
     have CX3 : Hid (∀ wr : World, SameOn (fun k => k < wo.heap.size ∧ k ≠ b3) wo wr → ∀ (b i : Nat) (u : Value), b < w1.heap.size → w1.cell? ⟨b, i, none⟩ = some u → wr.cell? ⟨b, i, none⟩ = some u) := Lib.hid (fun wr hs b i u hb hu => by
      have e := CX.out wo hlow b i u hb hu
      have hlt := World.block_lt_of_cell? wo _ e
      exact (hs.cell (a := ⟨b, i, none⟩) ⟨hlt, by have := HgA.out; show b ≠ b3; omega⟩ hlt).trans e)
     have e2' := CX.out wo hlow _ _ _ (by rw [Z1.out]; omega) X2.out
     have CF3 : Hid (∀ wr : World, SameOn (fun k => k < wo.heap.size ∧ k ≠ b3) wo wr → ∀ i : Nat, wr.frozen? ⟨w.heap.size + 1, i, none⟩ = false) := Lib.hid (fun wr hs i => by
      have hlt := World.block_lt_of_cell? wo _ (CX.out wo hlow _ _ _ (by rw [Z1.out]; omega) P0.out)
      have h1 := Z1.out
      have h2 := HgA.out
      exact (hs.frozen (a := ⟨w.heap.size + 1, i, none⟩) ⟨hlt, by show w.heap.size + 1 ≠ b3; omega⟩ hlt).trans (CF.out wo hlow i))
     have Low1 := Lib.hid hlow
     clear hC hlow
     go_wp2_with fail
     go_loopw [6] (fun i wr => ∃ (k2 : Nat) (v3 : Value), i = .int .i64 k2 ∧ k2 ≤ n3 ∧ k2 ≤ 30 ∧ C2 w1 wo b3 m v1 v2 v3 (s.takes.take k2) wr) (fun i _ => 30 - (intOf i).toNat)
     case atStart => exact ⟨0, _, rfl, by omega, by omega, by rw [List.take_zero]; exact C2S.out⟩
     case round =>
      obtain ⟨k2, v3, rfl, hk2, hk30, hC⟩ := hrel
      have CC2 := Lib.hid hC
      have hlow := hC.low
      have e3 := CX3.out wr hlow _ _ _ (by rw [Z1.out]; omega) X3.out
      by_cases hlt2 : k2 < n3
      ·have hlt2' : (k2 : Int) < n3 := by omega
       by_cases hl30 : k2 < 30
       ·have hl30' : (k2 : Int) < 30 := by omega
        obtain ⟨t, ht⟩ := some_of_lt (l := s.takes) (i := k2) (by rw [← N3.out]; exact hlt2)
        have hbw : Below w.heap.size w wr := below_step G1.out.size G1.out hC.bel
        obtain ⟨tb, tqo, tcap, e, htb, _, q0, q1, q2⟩ := tk_cells H3.out ht
        rw [← N3.out] at e
        simp only [Value.slice.injEq] at e
        obtain ⟨e, _, e'⟩ := e
        subst e e'
        have q0 := (hbw.cell (by exact htb)).trans q0
        have q1 := (hbw.cell (by exact htb)).trans q1
        have q2 := (hbw.cell (by exact htb)).trans q2
        have Ht := Lib.hid ht
        obtain ⟨t1, t2, t3⟩ := t
        simp only at q0 q1 q2
        obtain ⟨va, vc, hv3⟩ := hC.f3.bld.own.slice
        rw [List.length_map, List.length_take, ← N3.out, Nat.min_eq_left (by omega)] at hv3
        subst hv3
        have r3 := hC.f3.cell
        have QB : Hid (∀ w', Below wr.heap.size wr w' → w'.cell? ⟨b3, 3, none⟩ = some (.slice va k2 vc)) := Lib.hid (fun w' hb => (hb.cell (World.block_lt_of_cell? wr _ r3)).trans r3)
        have QS3 : Hid (∀ w', Below wr.heap.size wr w' → w'.cell? ⟨w.heap.size, 3, none⟩ = some (.slice (some ⟨tb, tqo, none⟩) n3 c3) ∧ w'.cell? ⟨tb, tqo + k2 * 3, none⟩ = some (.int .i64 t1) ∧ w'.cell? ⟨tb, tqo + k2 * 3 + 1, none⟩ = some (.int .i64 t2) ∧ w'.cell? ⟨tb, tqo + k2 * 3 + 2, none⟩ = some (.int .i64 t3)) := Lib.hid (fun w' hb => ⟨(hb.cell (World.block_lt_of_cell? wr _ e3)).trans e3, (hb.cell (World.block_lt_of_cell? wr _ q0)).trans q0, (hb.cell (World.block_lt_of_cell? wr _ q1)).trans q1, (hb.cell (World.block_lt_of_cell? wr _ q2)).trans q2⟩)
        have Htb := Lib.hid (show tb < wo.heap.size by have := Low1.out.1; have := HgA.out; have := HbA.out; have := Z1.out; omega)
        have Hw0 := Lib.hid (show w.heap.size < wo.heap.size by have := Low1.out.1; have := HgA.out; have := HbA.out; have := Z1.out; omega)
        have HB3 := Lib.hid (show b3 < wo.heap.size by have := Low1.out.1; have := HbA.out; omega)
        have Hge3 := Lib.hid (show w.heap.size ≠ b3 by have := HgA.out; have := Z1.out; omega)
        have Htb3 := Lib.hid (show tb ≠ b3 by have := HgA.out; have := Z1.out; omega)
        clear hC hlow hbw ht r3
        go_wp2_with fail
        clear e3 q0 q1 q2
        refine wp_region_held_drew (S := (fun w' => w'.cell? ⟨w.heap.size, 3, none⟩ = some (.slice (some ⟨tb, tqo, none⟩) n3 c3) ∧ w'.cell? ⟨tb, tqo + k2 * 3, none⟩ = some (.int .i64 t1) ∧ w'.cell? ⟨tb, tqo + k2 * 3 + 1, none⟩ = some (.int .i64 t2) ∧ w'.cell? ⟨tb, tqo + k2 * 3 + 2, none⟩ = some (.int .i64 t3))) (by kernel_rfl) ?_ (fun hHeld => ?_)
        ·exact QS3.out _ (by go_grown)
        refine tq 0 ?_
        refine tq 2 ?_
        refine tq 3 ?_
        refine tq 4 ?_
        refine tq 5 ?_
        refine tq 6 ?_
        refine wpAnyH_ready (rs := [1, 7]) (by kernel_rfl) (by simp) ?_
        refine AllReadyH.cons rfl (fun K hK => ?_) (AllReadyH.cons rfl (fun K hK => ?_) AllReadyH.nil)
        ·have rr := QB.out wr.drew (show Below wr.heap.size wr wr.drew from below_drewN (Below.refl _ wr) 1)
         go_simp
         refine hK.out _ _ ?_ (fun hHeld => ?_)
         ·exact QS3.out _ (by go_grown)
         clear hK K
         try simp only [Act.put, List.getElem_toArray, List.getElem_cons_zero, List.getElem_cons_succ, List.setIfInBounds_toArray, List.set_cons_zero, List.set_cons_succ]
         refine rd 7 fun K hK => ?_
         go_simp
         refine hK.out _ _ ?_ (fun hHeld => ?_)
         ·exact QS3.out _ (by go_grown)
         clear hK K
         try simp only [Act.put, List.getElem_toArray, List.getElem_cons_zero, List.getElem_cons_succ, List.setIfInBounds_toArray, List.set_cons_zero, List.set_cons_succ]
         refine rd 8 fun K hK => ?_
         obtain ⟨w5, hw5⟩ : ∃ w5, w5 = (wr.alloc (.cells #[.int .i64 t1, .int .i64 t2, .int .i64 t3] 125)).drew := ⟨_, rfl⟩
         have hx5 : Below wr.heap.size wr w5 := by rw [hw5]; exact below_drewN (below_new wr _) 1
         have n5 : ∀ j u, [Value.int .i64 t1, .int .i64 t2, .int .i64 t3][j]? = some u → w5.cell? ((⟨wr.heap.size, 0, none⟩ : Addr).add j) = some u := fun j u hj => by rw [hw5, Go.WideShapes.add_plain, Nat.zero_add]; show (World.alloc _ _).cell? _ = _; rw [World.cell?_alloc_at _ _ _ _ rfl, List.getElem?_toArray]; exact hj
         have N5 := Lib.hid n5
         have X5 := Lib.hid hx5
         rw [← hw5]
         clear hx5 n5 hw5
         refine appS (by rfl) _ _ 104 125 i4 (.agg #[.int .i64 0, .int .i64 0, .int .i64 0]) 3 24 (by rfl) Try.underlying104 hi4 hz4 hs4 hby4 rfl (by decide) True (fun k => wo.heap.size ≤ k) w1 wr.heap.size _ ((s.takes.take k2).map Tk.d) [(Tk.mk t1 t2 t3).d] k2 1 1 (k2 + 1) rfl (by exact (CC2.out.f3.bld.own.later X5.out)) (by simp; rw [← N3.out]; omega) (some ⟨wr.heap.size, 0, none⟩) (by rfl) [.int .i64 t1, .int .i64 t2, .int .i64 t3] (fun a ha => by cases ha; exact N5.out) (fun e => by cases e) (by simp [Tk.d]) rfl (by rw [List.flatten_cons, List.flatten_nil, List.append_nil]; exact tk_holdsL _ _ _) rfl (by unfold maxLen; omega) (by omega) ?_
         intro ao6 cv6 w6 hO6 hg6 hb6
         obtain ⟨hCN, hc6, hf6⟩ := CC2.out.push HB3.out X5.out hO6 hg6 hb6
         have CN := Lib.hid hCN
         have v0 := grown_at hg6 (fun e => by have := CC2.out.f3.bld.inP _ e; have := Hw0.out; omega) (QS3.out _ X5.out).1
         have v1' := grown_at hg6 (fun e => by have := CC2.out.f3.bld.inP _ e; have := Htb.out; omega) (QS3.out _ X5.out).2.1
         have v2' := grown_at hg6 (fun e => by have := CC2.out.f3.bld.inP _ e; have := Htb.out; omega) (QS3.out _ X5.out).2.2.1
         have v3' := grown_at hg6 (fun e => by have := CC2.out.f3.bld.inP _ e; have := Htb.out; omega) (QS3.out _ X5.out).2.2.2
         clear hO6 hg6 hb6 hCN
         refine hK.out _ _ ?_ (fun hHeld => ?_)
         ·exact ⟨v0, v1', v2', v3'⟩
         clear hK K
         try simp only [Act.put, List.getElem_toArray, List.getElem_cons_zero, List.getElem_cons_succ, List.setIfInBounds_toArray, List.set_cons_zero, List.set_cons_succ]
         refine tq 9 ?_
         refine rd 10 fun K hK => ?_
         go_simp
         refine hK.out _ _ ?_ (fun hHeld => ?_)
         ·exact ⟨by rw [World.cell?_setCell_other _ _ _ _ (by have := Hge3.out; simp <;> omega)]; exact v0, by rw [World.cell?_setCell_other _ _ _ _ (by have := Htb3.out; simp <;> omega)]; exact v1', by rw [World.cell?_setCell_other _ _ _ _ (by have := Htb3.out; simp <;> omega)]; exact v2', by rw [World.cell?_setCell_other _ _ _ _ (by have := Htb3.out; simp <;> omega)]; exact v3'⟩
         clear hK K
         try simp only [Act.put, List.getElem_toArray, List.getElem_cons_zero, List.getElem_cons_succ, List.setIfInBounds_toArray, List.set_cons_zero, List.set_cons_succ]
         refine wpAnyH_done (by kernel_rfl) ?_ _
         go_wp2_with fail
         go_roundw
         case rel =>
          refine ⟨k2 + 1, .slice ao6 (k2 + 1) cv6, by go_num, by omega, by omega, ?_⟩
          rw [List.take_add_one, Ht.out]
          exact CN.out
         case measure => simp [intOf]; omega
        ·go_simp
         refine hK.out _ _ ?_ (fun hHeld => ?_)
         ·exact QS3.out _ (by go_grown)
         clear hK K
         try simp only [Act.put, List.getElem_toArray, List.getElem_cons_zero, List.getElem_cons_succ, List.setIfInBounds_toArray, List.set_cons_zero, List.set_cons_succ]
         refine rd 1 fun K hK => ?_
         have rr := QB.out (wr.alloc (.cells #[.int .i64 t1, .int .i64 t2, .int .i64 t3] 125)).drew (show Below wr.heap.size wr (wr.alloc (.cells #[.int .i64 t1, .int .i64 t2, .int .i64 t3] 125)).drew from below_drewN (below_new wr _) 1)
         go_simp
         refine hK.out _ _ ?_ (fun hHeld => ?_)
         ·exact QS3.out _ (by go_grown)
         clear hK K
         try simp only [Act.put, List.getElem_toArray, List.getElem_cons_zero, List.getElem_cons_succ, List.setIfInBounds_toArray, List.set_cons_zero, List.set_cons_succ]
         refine rd 8 fun K hK => ?_
         obtain ⟨w5, hw5⟩ : ∃ w5, w5 = (wr.alloc (.cells #[.int .i64 t1, .int .i64 t2, .int .i64 t3] 125)).drew := ⟨_, rfl⟩
         have hx5 : Below wr.heap.size wr w5 := by rw [hw5]; exact below_drewN (below_new wr _) 1
         have n5 : ∀ j u, [Value.int .i64 t1, .int .i64 t2, .int .i64 t3][j]? = some u → w5.cell? ((⟨wr.heap.size, 0, none⟩ : Addr).add j) = some u := fun j u hj => by rw [hw5, Go.WideShapes.add_plain, Nat.zero_add]; show (World.alloc _ _).cell? _ = _; rw [World.cell?_alloc_at _ _ _ _ rfl, List.getElem?_toArray]; exact hj
         have N5 := Lib.hid n5
         have X5 := Lib.hid hx5
         rw [← hw5]
         clear hx5 n5 hw5
         refine appS (by rfl) _ _ 104 125 i4 (.agg #[.int .i64 0, .int .i64 0, .int .i64 0]) 3 24 (by rfl) Try.underlying104 hi4 hz4 hs4 hby4 rfl (by decide) True (fun k => wo.heap.size ≤ k) w1 wr.heap.size _ ((s.takes.take k2).map Tk.d) [(Tk.mk t1 t2 t3).d] k2 1 1 (k2 + 1) rfl (by exact (CC2.out.f3.bld.own.later X5.out)) (by simp; rw [← N3.out]; omega) (some ⟨wr.heap.size, 0, none⟩) (by rfl) [.int .i64 t1, .int .i64 t2, .int .i64 t3] (fun a ha => by cases ha; exact N5.out) (fun e => by cases e) (by simp [Tk.d]) rfl (by rw [List.flatten_cons, List.flatten_nil, List.append_nil]; exact tk_holdsL _ _ _) rfl (by unfold maxLen; omega) (by omega) ?_
         intro ao6 cv6 w6 hO6 hg6 hb6
         obtain ⟨hCN, hc6, hf6⟩ := CC2.out.push HB3.out X5.out hO6 hg6 hb6
         have CN := Lib.hid hCN
         have v0 := grown_at hg6 (fun e => by have := CC2.out.f3.bld.inP _ e; have := Hw0.out; omega) (QS3.out _ X5.out).1
         have v1' := grown_at hg6 (fun e => by have := CC2.out.f3.bld.inP _ e; have := Htb.out; omega) (QS3.out _ X5.out).2.1
         have v2' := grown_at hg6 (fun e => by have := CC2.out.f3.bld.inP _ e; have := Htb.out; omega) (QS3.out _ X5.out).2.2.1
         have v3' := grown_at hg6 (fun e => by have := CC2.out.f3.bld.inP _ e; have := Htb.out; omega) (QS3.out _ X5.out).2.2.2
         clear hO6 hg6 hb6 hCN
         refine hK.out _ _ ?_ (fun hHeld => ?_)
         ·exact ⟨v0, v1', v2', v3'⟩
         clear hK K
         try simp only [Act.put, List.getElem_toArray, List.getElem_cons_zero, List.getElem_cons_succ, List.setIfInBounds_toArray, List.set_cons_zero, List.set_cons_succ]
         refine tq 9 ?_
         refine rd 10 fun K hK => ?_
         go_simp
         refine hK.out _ _ ?_ (fun hHeld => ?_)
         ·exact ⟨by rw [World.cell?_setCell_other _ _ _ _ (by have := Hge3.out; simp <;> omega)]; exact v0, by rw [World.cell?_setCell_other _ _ _ _ (by have := Htb3.out; simp <;> omega)]; exact v1', by rw [World.cell?_setCell_other _ _ _ _ (by have := Htb3.out; simp <;> omega)]; exact v2', by rw [World.cell?_setCell_other _ _ _ _ (by have := Htb3.out; simp <;> omega)]; exact v3'⟩
         clear hK K
         try simp only [Act.put, List.getElem_toArray, List.getElem_cons_zero, List.getElem_cons_succ, List.setIfInBounds_toArray, List.set_cons_zero, List.set_cons_succ]
         refine wpAnyH_done (by kernel_rfl) ?_ _
         go_wp2_with fail
         go_roundw
         case rel =>
          refine ⟨k2 + 1, .slice ao6 (k2 + 1) cv6, by go_num, by omega, by omega, ?_⟩
          rw [List.take_add_one, Ht.out]
          exact CN.out
         case measure => simp [intOf]; omega
       ·have hl30' : ¬ (k2 : Int) < 30 := by omega
        obtain rfl : k2 = 30 := by omega
        have EndT : Hid (s.takes.take 30 = (cutS s).takes) := Lib.hid rfl
        have hC := CC2.out
        have y0 := hC.y0
        have y1 := hC.y1
        have y2 := hC.y2
        have y3 := hC.f3.cell
        have p0 := CX3.out wr hlow _ _ _ (by rw [Z1.out]; omega) P0.out
        have p1 := CX3.out wr hlow _ _ _ (by rw [Z1.out]; omega) P1.out
        have p2 := CX3.out wr hlow _ _ _ (by rw [Z1.out]; omega) P2.out
        have p3 := CX3.out wr hlow _ _ _ (by rw [Z1.out]; omega) P3.out
        have f0 := CF3.out wr hlow 0
        have f1 := CF3.out wr hlow 1
        have f2 := CF3.out wr hlow 2
        have f3 := CF3.out wr hlow 3
        obtain ⟨va1, vc1, l1, hv1⟩ : ∃ a c l, v1 = .slice a l c := by obtain ⟨a, c, e⟩ := Holds.len HH.out.hw; exact ⟨a, c, _, e⟩
        obtain ⟨va2, vc2, l2, hv2⟩ : ∃ a c l, v2 = .slice a l c := by obtain ⟨a, c, e⟩ := Holds.len HP2.out; exact ⟨a, c, _, e⟩
        obtain ⟨va3, vc3, l3, hv3⟩ : ∃ a c l, v3 = .slice a l c := by obtain ⟨a, c, e⟩ := hC.f3.bld.own.slice; exact ⟨a, c, _, e⟩
        have Low2 := Lib.hid hlow
        clear hC hlow
        subst hv1 hv2 hv3
        go_wp2_with fail
        refine bodyPost_ret (v := .agg #[.int .i64 m, .slice va1 l1 vc1, .slice va2 l2 vc2, .slice va3 l3 vc3]) (by simp [results, Try.results40, go_sem, p0, p1, p2, p3]) rfl ⟨_, rfl, ?_, ?_⟩
        ·have hz1 := Z1.out
         have hA := HgA.out
         have hbA := HbA.out
         have hl1 := Low1.out.1
         have hl2 := Low2.out.1
         have K : ∀ Q : Nat → Prop, (∀ k, Q k → w1.heap.size ≤ k) → SameOn Q wr ((((wr.setCell ⟨w.heap.size + 1, 0, none⟩ (.int .i64 m)).setCell ⟨w.heap.size + 1, 1, none⟩ (.slice va1 l1 vc1)).setCell ⟨w.heap.size + 1, 2, none⟩ (.slice va2 l2 vc2)).setCell ⟨w.heap.size + 1, 3, none⟩ (.slice va3 l3 vc3)) := fun Q hQ =>
          ((((SameOn.refl _ _).set _ _ (fun h => by have := hQ _ h; simp at this; omega)).set _ _ (fun h => by have := hQ _ h; simp at this; omega)).set _ _ (fun h => by have := hQ _ h; simp at this; omega)).set _ _ (fun h => by have := hQ _ h; simp at this; omega)
         refine st_holdsL (s := cutS s) (P1 := fun k => w1.heap.size ≤ k ∧ k < wA.heap.size ∧ k ≠ b3) (P2 := fun k => wA.heap.size ≤ k ∧ k < wo.heap.size) (P3 := fun k => wo.heap.size ≤ k) (show m = (cutS s).mode from Hm.out) ?_ ?_ ?_ (fun k a b => by omega) (fun k a b => by omega) (fun k a b => by omega) (fun k a => by show w.heap.size ≤ k; omega) (fun k a => by show w.heap.size ≤ k; omega) (fun k a => by show w.heap.size ≤ k; omega)
         ·exact ((HH.out.hw.same (Low1.out.sub fun k hk => ⟨hk.2.1, hk.2.2⟩)).same (Low2.out.sub fun k hk => ⟨by omega, hk.2.2⟩)).same (K _ fun k hk => hk.1)
         ·have := HP2.out.wide (P' := fun k => wA.heap.size ≤ k ∧ k < wo.heap.size) (fun b hb p => ⟨p, hb⟩)
          rw [← EndP.out]
          exact (this.same (Low2.out.sub fun k hk => ⟨hk.2, by omega⟩)).same (K _ fun k hk => by omega)
         ·rw [← EndT.out]
          exact (CC2.out.f3.bld.holds).same (K _ fun k hk => by omega)
        ·have hz1 := Z1.out
         have hb := below_step G1.out.size G1.out CC2.out.bel
         exact (((hb.setCell (by simp) _).setCell (by simp) _).setCell (by simp) _).setCell (by simp) _
      ·have hlt2' : ¬ (k2 : Int) < n3 := by omega
       have EndT : Hid (s.takes.take k2 = (cutS s).takes) := Lib.hid (by
        show _ = s.takes.take 30
        rw [List.take_of_length_le (by rw [← N3.out]; omega), List.take_of_length_le (by rw [← N3.out]; omega)])
       have hC := CC2.out
       have y0 := hC.y0
       have y1 := hC.y1
       have y2 := hC.y2
       have y3 := hC.f3.cell
       have p0 := CX3.out wr hlow _ _ _ (by rw [Z1.out]; omega) P0.out
       have p1 := CX3.out wr hlow _ _ _ (by rw [Z1.out]; omega) P1.out
       have p2 := CX3.out wr hlow _ _ _ (by rw [Z1.out]; omega) P2.out
       have p3 := CX3.out wr hlow _ _ _ (by rw [Z1.out]; omega) P3.out
       have f0 := CF3.out wr hlow 0
       have f1 := CF3.out wr hlow 1
       have f2 := CF3.out wr hlow 2
       have f3 := CF3.out wr hlow 3
       obtain ⟨va1, vc1, l1, hv1⟩ : ∃ a c l, v1 = .slice a l c := by obtain ⟨a, c, e⟩ := Holds.len HH.out.hw; exact ⟨a, c, _, e⟩
       obtain ⟨va2, vc2, l2, hv2⟩ : ∃ a c l, v2 = .slice a l c := by obtain ⟨a, c, e⟩ := Holds.len HP2.out; exact ⟨a, c, _, e⟩
       obtain ⟨va3, vc3, l3, hv3⟩ : ∃ a c l, v3 = .slice a l c := by obtain ⟨a, c, e⟩ := hC.f3.bld.own.slice; exact ⟨a, c, _, e⟩
       have Low2 := Lib.hid hlow
       clear hC hlow
       subst hv1 hv2 hv3
       go_wp2_with fail
       refine bodyPost_ret (v := .agg #[.int .i64 m, .slice va1 l1 vc1, .slice va2 l2 vc2, .slice va3 l3 vc3]) (by simp [results, Try.results40, go_sem, p0, p1, p2, p3]) rfl ⟨_, rfl, ?_, ?_⟩
       ·have hz1 := Z1.out
        have hA := HgA.out
        have hbA := HbA.out
        have hl1 := Low1.out.1
        have hl2 := Low2.out.1
        have K : ∀ Q : Nat → Prop, (∀ k, Q k → w1.heap.size ≤ k) → SameOn Q wr ((((wr.setCell ⟨w.heap.size + 1, 0, none⟩ (.int .i64 m)).setCell ⟨w.heap.size + 1, 1, none⟩ (.slice va1 l1 vc1)).setCell ⟨w.heap.size + 1, 2, none⟩ (.slice va2 l2 vc2)).setCell ⟨w.heap.size + 1, 3, none⟩ (.slice va3 l3 vc3)) := fun Q hQ =>
         ((((SameOn.refl _ _).set _ _ (fun h => by have := hQ _ h; simp at this; omega)).set _ _ (fun h => by have := hQ _ h; simp at this; omega)).set _ _ (fun h => by have := hQ _ h; simp at this; omega)).set _ _ (fun h => by have := hQ _ h; simp at this; omega)
        refine st_holdsL (s := cutS s) (P1 := fun k => w1.heap.size ≤ k ∧ k < wA.heap.size ∧ k ≠ b3) (P2 := fun k => wA.heap.size ≤ k ∧ k < wo.heap.size) (P3 := fun k => wo.heap.size ≤ k) (show m = (cutS s).mode from Hm.out) ?_ ?_ ?_ (fun k a b => by omega) (fun k a b => by omega) (fun k a b => by omega) (fun k a => by show w.heap.size ≤ k; omega) (fun k a => by show w.heap.size ≤ k; omega) (fun k a => by show w.heap.size ≤ k; omega)
        ·exact ((HH.out.hw.same (Low1.out.sub fun k hk => ⟨hk.2.1, hk.2.2⟩)).same (Low2.out.sub fun k hk => ⟨by omega, hk.2.2⟩)).same (K _ fun k hk => hk.1)
        ·have := HP2.out.wide (P' := fun k => wA.heap.size ≤ k ∧ k < wo.heap.size) (fun b hb p => ⟨p, hb⟩)
         rw [← EndP.out]
         exact (this.same (Low2.out.sub fun k hk => ⟨hk.2, by omega⟩)).same (K _ fun k hk => by omega)
        ·rw [← EndT.out]
         exact (CC2.out.f3.bld.holds).same (K _ fun k hk => by omega)
       ·have hz1 := Z1.out
        have hb := below_step G1.out.size G1.out CC2.out.bel
        exact (((hb.setCell (by simp) _).setCell (by simp) _).setCell (by simp) _).setCell (by simp) _
   ·have hlt' : ¬ (k : Int) < n2 := by omega
    have EndP : Hid ((s.picks.take k).map cutP = (cutS s).picks) := Lib.hid (by
     show _ = (s.picks.take 10).map cutP
     rw [List.take_of_length_le (by rw [← N2.out]; omega), List.take_of_length_le (by rw [← N2.out]; omega)])
    clear hC hlow e2
    have hC := CC.out
    have C2S := Lib.hid (C2.start hC HbA.out)
    have HP2 := Lib.hid (hC.f2.bld.holds)
    have hlow := hC.low
    have CX3 : Hid (∀ wr : World, SameOn (fun k => k < wo.heap.size ∧ k ≠ b3) wo wr → ∀ (b i : Nat) (u : Value), b < w1.heap.size → w1.cell? ⟨b, i, none⟩ = some u → wr.cell? ⟨b, i, none⟩ = some u) := Lib.hid (fun wr hs b i u hb hu => by
     have e := CX.out wo hlow b i u hb hu
     have hlt := World.block_lt_of_cell? wo _ e
     exact (hs.cell (a := ⟨b, i, none⟩) ⟨hlt, by have := HgA.out; show b ≠ b3; omega⟩ hlt).trans e)
    have e2' := CX.out wo hlow _ _ _ (by rw [Z1.out]; omega) X2.out
    have CF3 : Hid (∀ wr : World, SameOn (fun k => k < wo.heap.size ∧ k ≠ b3) wo wr → ∀ i : Nat, wr.frozen? ⟨w.heap.size + 1, i, none⟩ = false) := Lib.hid (fun wr hs i => by
     have hlt := World.block_lt_of_cell? wo _ (CX.out wo hlow _ _ _ (by rw [Z1.out]; omega) P0.out)
     have h1 := Z1.out
     have h2 := HgA.out
     exact (hs.frozen (a := ⟨w.heap.size + 1, i, none⟩) ⟨hlt, by show w.heap.size + 1 ≠ b3; omega⟩ hlt).trans (CF.out wo hlow i))
    have Low1 := Lib.hid hlow
    clear hC hlow
    go_wp2_with fail
    go_loopw [6] (fun i wr => ∃ (k2 : Nat) (v3 : Value), i = .int .i64 k2 ∧ k2 ≤ n3 ∧ k2 ≤ 30 ∧ C2 w1 wo b3 m v1 v2 v3 (s.takes.take k2) wr) (fun i _ => 30 - (intOf i).toNat)
    case atStart => exact ⟨0, _, rfl, by omega, by omega, by rw [List.take_zero]; exact C2S.out⟩
    case round =>
     obtain ⟨k2, v3, rfl, hk2, hk30, hC⟩ := hrel
     have CC2 := Lib.hid hC
     have hlow := hC.low
     have e3 := CX3.out wr hlow _ _ _ (by rw [Z1.out]; omega) X3.out
     by_cases hlt2 : k2 < n3
     ·have hlt2' : (k2 : Int) < n3 := by omega
      by_cases hl30 : k2 < 30
      ·have hl30' : (k2 : Int) < 30 := by omega
       obtain ⟨t, ht⟩ := some_of_lt (l := s.takes) (i := k2) (by rw [← N3.out]; exact hlt2)
       have hbw : Below w.heap.size w wr := below_step G1.out.size G1.out hC.bel
       obtain ⟨tb, tqo, tcap, e, htb, _, q0, q1, q2⟩ := tk_cells H3.out ht
       rw [← N3.out] at e
       simp only [Value.slice.injEq] at e
       obtain ⟨e, _, e'⟩ := e
       subst e e'
       have q0 := (hbw.cell (by exact htb)).trans q0
       have q1 := (hbw.cell (by exact htb)).trans q1
       have q2 := (hbw.cell (by exact htb)).trans q2
       have Ht := Lib.hid ht
       obtain ⟨t1, t2, t3⟩ := t
       simp only at q0 q1 q2
       obtain ⟨va, vc, hv3⟩ := hC.f3.bld.own.slice
       rw [List.length_map, List.length_take, ← N3.out, Nat.min_eq_left (by omega)] at hv3
       subst hv3
       have r3 := hC.f3.cell
       have QB : Hid (∀ w', Below wr.heap.size wr w' → w'.cell? ⟨b3, 3, none⟩ = some (.slice va k2 vc)) := Lib.hid (fun w' hb => (hb.cell (World.block_lt_of_cell? wr _ r3)).trans r3)
       have QS3 : Hid (∀ w', Below wr.heap.size wr w' → w'.cell? ⟨w.heap.size, 3, none⟩ = some (.slice (some ⟨tb, tqo, none⟩) n3 c3) ∧ w'.cell? ⟨tb, tqo + k2 * 3, none⟩ = some (.int .i64 t1) ∧ w'.cell? ⟨tb, tqo + k2 * 3 + 1, none⟩ = some (.int .i64 t2) ∧ w'.cell? ⟨tb, tqo + k2 * 3 + 2, none⟩ = some (.int .i64 t3)) := Lib.hid (fun w' hb => ⟨(hb.cell (World.block_lt_of_cell? wr _ e3)).trans e3, (hb.cell (World.block_lt_of_cell? wr _ q0)).trans q0, (hb.cell (World.block_lt_of_cell? wr _ q1)).trans q1, (hb.cell (World.block_lt_of_cell? wr _ q2)).trans q2⟩)
       have Htb := Lib.hid (show tb < wo.heap.size by have := Low1.out.1; have := HgA.out; have := HbA.out; have := Z1.out; omega)
       have Hw0 := Lib.hid (show w.heap.size < wo.heap.size by have := Low1.out.1; have := HgA.out; have := HbA.out; have := Z1.out; omega)
       have HB3 := Lib.hid (show b3 < wo.heap.size by have := Low1.out.1; have := HbA.out; omega)
       have Hge3 := Lib.hid (show w.heap.size ≠ b3 by have := HgA.out; have := Z1.out; omega)
       have Htb3 := Lib.hid (show tb ≠ b3 by have := HgA.out; have := Z1.out; omega)
       clear hC hlow hbw ht r3
       go_wp2_with fail
       clear e3 q0 q1 q2
       refine wp_region_held_drew (S := (fun w' => w'.cell? ⟨w.heap.size, 3, none⟩ = some (.slice (some ⟨tb, tqo, none⟩) n3 c3) ∧ w'.cell? ⟨tb, tqo + k2 * 3, none⟩ = some (.int .i64 t1) ∧ w'.cell? ⟨tb, tqo + k2 * 3 + 1, none⟩ = some (.int .i64 t2) ∧ w'.cell? ⟨tb, tqo + k2 * 3 + 2, none⟩ = some (.int .i64 t3))) (by kernel_rfl) ?_ (fun hHeld => ?_)
       ·exact QS3.out _ (by go_grown)
       refine tq 0 ?_
       refine tq 2 ?_
       refine tq 3 ?_
       refine tq 4 ?_
       refine tq 5 ?_
       refine tq 6 ?_
       refine wpAnyH_ready (rs := [1, 7]) (by kernel_rfl) (by simp) ?_
       refine AllReadyH.cons rfl (fun K hK => ?_) (AllReadyH.cons rfl (fun K hK => ?_) AllReadyH.nil)
       ·have rr := QB.out wr.drew (show Below wr.heap.size wr wr.drew from below_drewN (Below.refl _ wr) 1)
        go_simp
        refine hK.out _ _ ?_ (fun hHeld => ?_)
        ·exact QS3.out _ (by go_grown)
        clear hK K
        try simp only [Act.put, List.getElem_toArray, List.getElem_cons_zero, List.getElem_cons_succ, List.setIfInBounds_toArray, List.set_cons_zero, List.set_cons_succ]
        refine rd 7 fun K hK => ?_
        go_simp
        refine hK.out _ _ ?_ (fun hHeld => ?_)
        ·exact QS3.out _ (by go_grown)
        clear hK K
        try simp only [Act.put, List.getElem_toArray, List.getElem_cons_zero, List.getElem_cons_succ, List.setIfInBounds_toArray, List.set_cons_zero, List.set_cons_succ]
        refine rd 8 fun K hK => ?_
        obtain ⟨w5, hw5⟩ : ∃ w5, w5 = (wr.alloc (.cells #[.int .i64 t1, .int .i64 t2, .int .i64 t3] 125)).drew := ⟨_, rfl⟩
        have hx5 : Below wr.heap.size wr w5 := by rw [hw5]; exact below_drewN (below_new wr _) 1
        have n5 : ∀ j u, [Value.int .i64 t1, .int .i64 t2, .int .i64 t3][j]? = some u → w5.cell? ((⟨wr.heap.size, 0, none⟩ : Addr).add j) = some u := fun j u hj => by rw [hw5, Go.WideShapes.add_plain, Nat.zero_add]; show (World.alloc _ _).cell? _ = _; rw [World.cell?_alloc_at _ _ _ _ rfl, List.getElem?_toArray]; exact hj
        have N5 := Lib.hid n5
        have X5 := Lib.hid hx5
        rw [← hw5]
        clear hx5 n5 hw5
        refine appS (by rfl) _ _ 104 125 i4 (.agg #[.int .i64 0, .int .i64 0, .int .i64 0]) 3 24 (by rfl) Try.underlying104 hi4 hz4 hs4 hby4 rfl (by decide) True (fun k => wo.heap.size ≤ k) w1 wr.heap.size _ ((s.takes.take k2).map Tk.d) [(Tk.mk t1 t2 t3).d] k2 1 1 (k2 + 1) rfl (by exact (CC2.out.f3.bld.own.later X5.out)) (by simp; rw [← N3.out]; omega) (some ⟨wr.heap.size, 0, none⟩) (by rfl) [.int .i64 t1, .int .i64 t2, .int .i64 t3] (fun a ha => by cases ha; exact N5.out) (fun e => by cases e) (by simp [Tk.d]) rfl (by rw [List.flatten_cons, List.flatten_nil, List.append_nil]; exact tk_holdsL _ _ _) rfl (by unfold maxLen; omega) (by omega) ?_
        intro ao6 cv6 w6 hO6 hg6 hb6
        obtain ⟨hCN, hc6, hf6⟩ := CC2.out.push HB3.out X5.out hO6 hg6 hb6
        have CN := Lib.hid hCN
        have v0 := grown_at hg6 (fun e => by have := CC2.out.f3.bld.inP _ e; have := Hw0.out; omega) (QS3.out _ X5.out).1
        have v1' := grown_at hg6 (fun e => by have := CC2.out.f3.bld.inP _ e; have := Htb.out; omega) (QS3.out _ X5.out).2.1
        have v2' := grown_at hg6 (fun e => by have := CC2.out.f3.bld.inP _ e; have := Htb.out; omega) (QS3.out _ X5.out).2.2.1
        have v3' := grown_at hg6 (fun e => by have := CC2.out.f3.bld.inP _ e; have := Htb.out; omega) (QS3.out _ X5.out).2.2.2
        clear hO6 hg6 hb6 hCN
        refine hK.out _ _ ?_ (fun hHeld => ?_)
        ·exact ⟨v0, v1', v2', v3'⟩
        clear hK K
        try simp only [Act.put, List.getElem_toArray, List.getElem_cons_zero, List.getElem_cons_succ, List.setIfInBounds_toArray, List.set_cons_zero, List.set_cons_succ]
        refine tq 9 ?_
        refine rd 10 fun K hK => ?_
        go_simp
        refine hK.out _ _ ?_ (fun hHeld => ?_)
        ·exact ⟨by rw [World.cell?_setCell_other _ _ _ _ (by have := Hge3.out; simp <;> omega)]; exact v0, by rw [World.cell?_setCell_other _ _ _ _ (by have := Htb3.out; simp <;> omega)]; exact v1', by rw [World.cell?_setCell_other _ _ _ _ (by have := Htb3.out; simp <;> omega)]; exact v2', by rw [World.cell?_setCell_other _ _ _ _ (by have := Htb3.out; simp <;> omega)]; exact v3'⟩
        clear hK K
        try simp only [Act.put, List.getElem_toArray, List.getElem_cons_zero, List.getElem_cons_succ, List.setIfInBounds_toArray, List.set_cons_zero, List.set_cons_succ]
        refine wpAnyH_done (by kernel_rfl) ?_ _
        go_wp2_with fail
        go_roundw
        case rel =>
         refine ⟨k2 + 1, .slice ao6 (k2 + 1) cv6, by go_num, by omega, by omega, ?_⟩
         rw [List.take_add_one, Ht.out]
         exact CN.out
        case measure => simp [intOf]; omega
       ·go_simp
        refine hK.out _ _ ?_ (fun hHeld => ?_)
        ·exact QS3.out _ (by go_grown)
        clear hK K
        try simp only [Act.put, List.getElem_toArray, List.getElem_cons_zero, List.getElem_cons_succ, List.setIfInBounds_toArray, List.set_cons_zero, List.set_cons_succ]
        refine rd 1 fun K hK => ?_
        have rr := QB.out (wr.alloc (.cells #[.int .i64 t1, .int .i64 t2, .int .i64 t3] 125)).drew (show Below wr.heap.size wr (wr.alloc (.cells #[.int .i64 t1, .int .i64 t2, .int .i64 t3] 125)).drew from below_drewN (below_new wr _) 1)
        go_simp
        refine hK.out _ _ ?_ (fun hHeld => ?_)
        ·exact QS3.out _ (by go_grown)
        clear hK K
        try simp only [Act.put, List.getElem_toArray, List.getElem_cons_zero, List.getElem_cons_succ, List.setIfInBounds_toArray, List.set_cons_zero, List.set_cons_succ]
        refine rd 8 fun K hK => ?_
        obtain ⟨w5, hw5⟩ : ∃ w5, w5 = (wr.alloc (.cells #[.int .i64 t1, .int .i64 t2, .int .i64 t3] 125)).drew := ⟨_, rfl⟩
        have hx5 : Below wr.heap.size wr w5 := by rw [hw5]; exact below_drewN (below_new wr _) 1
        have n5 : ∀ j u, [Value.int .i64 t1, .int .i64 t2, .int .i64 t3][j]? = some u → w5.cell? ((⟨wr.heap.size, 0, none⟩ : Addr).add j) = some u := fun j u hj => by rw [hw5, Go.WideShapes.add_plain, Nat.zero_add]; show (World.alloc _ _).cell? _ = _; rw [World.cell?_alloc_at _ _ _ _ rfl, List.getElem?_toArray]; exact hj
        have N5 := Lib.hid n5
        have X5 := Lib.hid hx5
        rw [← hw5]
        clear hx5 n5 hw5
        refine appS (by rfl) _ _ 104 125 i4 (.agg #[.int .i64 0, .int .i64 0, .int .i64 0]) 3 24 (by rfl) Try.underlying104 hi4 hz4 hs4 hby4 rfl (by decide) True (fun k => wo.heap.size ≤ k) w1 wr.heap.size _ ((s.takes.take k2).map Tk.d) [(Tk.mk t1 t2 t3).d] k2 1 1 (k2 + 1) rfl (by exact (CC2.out.f3.bld.own.later X5.out)) (by simp; rw [← N3.out]; omega) (some ⟨wr.heap.size, 0, none⟩) (by rfl) [.int .i64 t1, .int .i64 t2, .int .i64 t3] (fun a ha => by cases ha; exact N5.out) (fun e => by cases e) (by simp [Tk.d]) rfl (by rw [List.flatten_cons, List.flatten_nil, List.append_nil]; exact tk_holdsL _ _ _) rfl (by unfold maxLen; omega) (by omega) ?_
        intro ao6 cv6 w6 hO6 hg6 hb6
        obtain ⟨hCN, hc6, hf6⟩ := CC2.out.push HB3.out X5.out hO6 hg6 hb6
        have CN := Lib.hid hCN
        have v0 := grown_at hg6 (fun e => by have := CC2.out.f3.bld.inP _ e; have := Hw0.out; omega) (QS3.out _ X5.out).1
        have v1' := grown_at hg6 (fun e => by have := CC2.out.f3.bld.inP _ e; have := Htb.out; omega) (QS3.out _ X5.out).2.1
        have v2' := grown_at hg6 (fun e => by have := CC2.out.f3.bld.inP _ e; have := Htb.out; omega) (QS3.out _ X5.out).2.2.1
        have v3' := grown_at hg6 (fun e => by have := CC2.out.f3.bld.inP _ e; have := Htb.out; omega) (QS3.out _ X5.out).2.2.2
        clear hO6 hg6 hb6 hCN
        refine hK.out _ _ ?_ (fun hHeld => ?_)
        ·exact ⟨v0, v1', v2', v3'⟩
        clear hK K
        try simp only [Act.put, List.getElem_toArray, List.getElem_cons_zero, List.getElem_cons_succ, List.setIfInBounds_toArray, List.set_cons_zero, List.set_cons_succ]
        refine tq 9 ?_
        refine rd 10 fun K hK => ?_
        go_simp
        refine hK.out _ _ ?_ (fun hHeld => ?_)
        ·exact ⟨by rw [World.cell?_setCell_other _ _ _ _ (by have := Hge3.out; simp <;> omega)]; exact v0, by rw [World.cell?_setCell_other _ _ _ _ (by have := Htb3.out; simp <;> omega)]; exact v1', by rw [World.cell?_setCell_other _ _ _ _ (by have := Htb3.out; simp <;> omega)]; exact v2', by rw [World.cell?_setCell_other _ _ _ _ (by have := Htb3.out; simp <;> omega)]; exact v3'⟩
        clear hK K
        try simp only [Act.put, List.getElem_toArray, List.getElem_cons_zero, List.getElem_cons_succ, List.setIfInBounds_toArray, List.set_cons_zero, List.set_cons_succ]
        refine wpAnyH_done (by kernel_rfl) ?_ _
        go_wp2_with fail
        go_roundw
        case rel =>
         refine ⟨k2 + 1, .slice ao6 (k2 + 1) cv6, by go_num, by omega, by omega, ?_⟩
         rw [List.take_add_one, Ht.out]
         exact CN.out
        case measure => simp [intOf]; omega
      ·have hl30' : ¬ (k2 : Int) < 30 := by omega
       obtain rfl : k2 = 30 := by omega
       have EndT : Hid (s.takes.take 30 = (cutS s).takes) := Lib.hid rfl
       have hC := CC2.out
       have y0 := hC.y0
       have y1 := hC.y1
       have y2 := hC.y2
       have y3 := hC.f3.cell
       have p0 := CX3.out wr hlow _ _ _ (by rw [Z1.out]; omega) P0.out
       have p1 := CX3.out wr hlow _ _ _ (by rw [Z1.out]; omega) P1.out
       have p2 := CX3.out wr hlow _ _ _ (by rw [Z1.out]; omega) P2.out
       have p3 := CX3.out wr hlow _ _ _ (by rw [Z1.out]; omega) P3.out
       have f0 := CF3.out wr hlow 0
       have f1 := CF3.out wr hlow 1
       have f2 := CF3.out wr hlow 2
       have f3 := CF3.out wr hlow 3
       obtain ⟨va1, vc1, l1, hv1⟩ : ∃ a c l, v1 = .slice a l c := by obtain ⟨a, c, e⟩ := Holds.len HH.out.hw; exact ⟨a, c, _, e⟩
       obtain ⟨va2, vc2, l2, hv2⟩ : ∃ a c l, v2 = .slice a l c := by obtain ⟨a, c, e⟩ := Holds.len HP2.out; exact ⟨a, c, _, e⟩
       obtain ⟨va3, vc3, l3, hv3⟩ : ∃ a c l, v3 = .slice a l c := by obtain ⟨a, c, e⟩ := hC.f3.bld.own.slice; exact ⟨a, c, _, e⟩
       have Low2 := Lib.hid hlow
       clear hC hlow
       subst hv1 hv2 hv3
       go_wp2_with fail
       refine bodyPost_ret (v := .agg #[.int .i64 m, .slice va1 l1 vc1, .slice va2 l2 vc2, .slice va3 l3 vc3]) (by simp [results, Try.results40, go_sem, p0, p1, p2, p3]) rfl ⟨_, rfl, ?_, ?_⟩
       ·have hz1 := Z1.out
        have hA := HgA.out
        have hbA := HbA.out
        have hl1 := Low1.out.1
        have hl2 := Low2.out.1
        have K : ∀ Q : Nat → Prop, (∀ k, Q k → w1.heap.size ≤ k) → SameOn Q wr ((((wr.setCell ⟨w.heap.size + 1, 0, none⟩ (.int .i64 m)).setCell ⟨w.heap.size + 1, 1, none⟩ (.slice va1 l1 vc1)).setCell ⟨w.heap.size + 1, 2, none⟩ (.slice va2 l2 vc2)).setCell ⟨w.heap.size + 1, 3, none⟩ (.slice va3 l3 vc3)) := fun Q hQ =>
         ((((SameOn.refl _ _).set _ _ (fun h => by have := hQ _ h; simp at this; omega)).set _ _ (fun h => by have := hQ _ h; simp at this; omega)).set _ _ (fun h => by have := hQ _ h; simp at this; omega)).set _ _ (fun h => by have := hQ _ h; simp at this; omega)
        refine st_holdsL (s := cutS s) (P1 := fun k => w1.heap.size ≤ k ∧ k < wA.heap.size ∧ k ≠ b3) (P2 := fun k => wA.heap.size ≤ k ∧ k < wo.heap.size) (P3 := fun k => wo.heap.size ≤ k) (show m = (cutS s).mode from Hm.out) ?_ ?_ ?_ (fun k a b => by omega) (fun k a b => by omega) (fun k a b => by omega) (fun k a => by show w.heap.size ≤ k; omega) (fun k a => by show w.heap.size ≤ k; omega) (fun k a => by show w.heap.size ≤ k; omega)
        ·exact ((HH.out.hw.same (Low1.out.sub fun k hk => ⟨hk.2.1, hk.2.2⟩)).same (Low2.out.sub fun k hk => ⟨by omega, hk.2.2⟩)).same (K _ fun k hk => hk.1)
        ·have := HP2.out.wide (P' := fun k => wA.heap.size ≤ k ∧ k < wo.heap.size) (fun b hb p => ⟨p, hb⟩)
         rw [← EndP.out]
         exact (this.same (Low2.out.sub fun k hk => ⟨hk.2, by omega⟩)).same (K _ fun k hk => by omega)
        ·rw [← EndT.out]
         exact (CC2.out.f3.bld.holds).same (K _ fun k hk => by omega)
       ·have hz1 := Z1.out
        have hb := below_step G1.out.size G1.out CC2.out.bel
        exact (((hb.setCell (by simp) _).setCell (by simp) _).setCell (by simp) _).setCell (by simp) _
     ·have hlt2' : ¬ (k2 : Int) < n3 := by omega
      have EndT : Hid (s.takes.take k2 = (cutS s).takes) := Lib.hid (by
       show _ = s.takes.take 30
       rw [List.take_of_length_le (by rw [← N3.out]; omega), List.take_of_length_le (by rw [← N3.out]; omega)])
      have hC := CC2.out
      have y0 := hC.y0
      have y1 := hC.y1
      have y2 := hC.y2
      have y3 := hC.f3.cell
      have p0 := CX3.out wr hlow _ _ _ (by rw [Z1.out]; omega) P0.out
      have p1 := CX3.out wr hlow _ _ _ (by rw [Z1.out]; omega) P1.out
      have p2 := CX3.out wr hlow _ _ _ (by rw [Z1.out]; omega) P2.out
      have p3 := CX3.out wr hlow _ _ _ (by rw [Z1.out]; omega) P3.out
      have f0 := CF3.out wr hlow 0
      have f1 := CF3.out wr hlow 1
      have f2 := CF3.out wr hlow 2
      have f3 := CF3.out wr hlow 3
      obtain ⟨va1, vc1, l1, hv1⟩ : ∃ a c l, v1 = .slice a l c := by obtain ⟨a, c, e⟩ := Holds.len HH.out.hw; exact ⟨a, c, _, e⟩
      obtain ⟨va2, vc2, l2, hv2⟩ : ∃ a c l, v2 = .slice a l c := by obtain ⟨a, c, e⟩ := Holds.len HP2.out; exact ⟨a, c, _, e⟩
      obtain ⟨va3, vc3, l3, hv3⟩ : ∃ a c l, v3 = .slice a l c := by obtain ⟨a, c, e⟩ := hC.f3.bld.own.slice; exact ⟨a, c, _, e⟩
      have Low2 := Lib.hid hlow
      clear hC hlow
      subst hv1 hv2 hv3
      go_wp2_with fail
      refine bodyPost_ret (v := .agg #[.int .i64 m, .slice va1 l1 vc1, .slice va2 l2 vc2, .slice va3 l3 vc3]) (by simp [results, Try.results40, go_sem, p0, p1, p2, p3]) rfl ⟨_, rfl, ?_, ?_⟩
      ·have hz1 := Z1.out
       have hA := HgA.out
       have hbA := HbA.out
       have hl1 := Low1.out.1
       have hl2 := Low2.out.1
       have K : ∀ Q : Nat → Prop, (∀ k, Q k → w1.heap.size ≤ k) → SameOn Q wr ((((wr.setCell ⟨w.heap.size + 1, 0, none⟩ (.int .i64 m)).setCell ⟨w.heap.size + 1, 1, none⟩ (.slice va1 l1 vc1)).setCell ⟨w.heap.size + 1, 2, none⟩ (.slice va2 l2 vc2)).setCell ⟨w.heap.size + 1, 3, none⟩ (.slice va3 l3 vc3)) := fun Q hQ =>
        ((((SameOn.refl _ _).set _ _ (fun h => by have := hQ _ h; simp at this; omega)).set _ _ (fun h => by have := hQ _ h; simp at this; omega)).set _ _ (fun h => by have := hQ _ h; simp at this; omega)).set _ _ (fun h => by have := hQ _ h; simp at this; omega)
       refine st_holdsL (s := cutS s) (P1 := fun k => w1.heap.size ≤ k ∧ k < wA.heap.size ∧ k ≠ b3) (P2 := fun k => wA.heap.size ≤ k ∧ k < wo.heap.size) (P3 := fun k => wo.heap.size ≤ k) (show m = (cutS s).mode from Hm.out) ?_ ?_ ?_ (fun k a b => by omega) (fun k a b => by omega) (fun k a b => by omega) (fun k a => by show w.heap.size ≤ k; omega) (fun k a => by show w.heap.size ≤ k; omega) (fun k a => by show w.heap.size ≤ k; omega)
       ·exact ((HH.out.hw.same (Low1.out.sub fun k hk => ⟨hk.2.1, hk.2.2⟩)).same (Low2.out.sub fun k hk => ⟨by omega, hk.2.2⟩)).same (K _ fun k hk => hk.1)
       ·have := HP2.out.wide (P' := fun k => wA.heap.size ≤ k ∧ k < wo.heap.size) (fun b hb p => ⟨p, hb⟩)
        rw [← EndP.out]
        exact (this.same (Low2.out.sub fun k hk => ⟨hk.2, by omega⟩)).same (K _ fun k hk => by omega)
       ·rw [← EndT.out]
        exact (CC2.out.f3.bld.holds).same (K _ fun k hk => by omega)
      ·have hz1 := Z1.out
       have hb := below_step G1.out.size G1.out CC2.out.bel
       exact (((hb.setCell (by simp) _).setCell (by simp) _).setCell (by simp) _).setCell (by simp) _
end Go.Proofs.Ytennbiajnkobnaa

