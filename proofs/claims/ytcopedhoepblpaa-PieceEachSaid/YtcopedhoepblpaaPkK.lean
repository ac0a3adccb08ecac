/- Decode. -/
import Derived.Test.YtcopedhoepblpaaPkJ
import Derived.Deep.CutRange
set_option linter.unusedSimpArgs false
set_option linter.unusedVariables false
set_option maxRecDepth 100000
namespace Go.Proofs.Ytcopedhoepblpaa
open Go.RowKit Go.PlainAid

theorem has_of_ints {w : World} {v : Value} {xs : List Int} (h : IntsAt w v xs) : Has w v (dInts xs) := by
  rcases h with ⟨a, cap, rfl, rfl⟩ | ⟨b, off, len, cap, rfl, rfl, h3, h4, h6, h5⟩
  · exact .nil _ _ _ _ _
  · have e : xs.length = (xs.map fun a => [dI a]).length := by simp
    unfold dInts
    rw [e]
    refine .row _ _ _ _ _ _ _ (fun i _ => .int .i64 (xs.getD i 0)) (fun _ _ => All) (by simpa using h3) h4 (by simpa using h6) trivial (fun i ds h => ?_) (fun i j hi hj => ?_) (fun i j ds d h1 h2 => ?_) (fun _ _ _ _ => trivial) (fun s => s.elim) (fun s => s.elim)
    · simp at h; obtain ⟨_, _, rfl⟩ := h; rfl
    · obtain rfl : j = 0 := by omega
      simpa using h5 i (by simpa using hi)
    · simp at h1
      obtain ⟨a, ha, rfl⟩ := h1
      have hj := lt_of_some h2
      simp at hj
      subst hj
      simp at h2
      subst h2
      rw [show xs.getD i 0 = a by simp [List.getD, ha]]
      exact has_int _ _ _ _
/-- What Decode tells. -/
def DecTold (r : Pc × Int) (w : World) (e : Ending) (w' : World) : Prop := ∃ v1 v2 v3, e = .returned (.tuple #[pcv r.1 v1 v2 v3, .int .i64 r.2]) ∧ HoldsL False (fun q => w.heap.size ≤ q) w' [v1, v2, v3] r.1.d ∧ Below w.heap.size w w'
theorem put_max : (strB (putB 2147483647)).size = 5 := putB_length (k := 4) (.inr (by decide)) (by decide) (by omega)
theorem rdPc_small {l : List Int} : (rdPc l).sent.length ≤ 5 ∧ (rdPc l).inn.length ≤ 5 ∧ (rdPc l).out.length ≤ 5 := by
  refine ⟨?_, ?_, ?_⟩
  · have := rdL_len (most := 5) (f := rdN) (r := l.tail.tail.tail) (by omega); show (rdL 5 rdN l.tail.tail.tail).1.length ≤ 5; omega
  · have := rdL_len (most := 5) (f := rdMs) (r := (rdS l).2) (by omega); show (rdL 5 rdMs (rdS l).2).1.length ≤ 5; omega
  · have := rdL_len (most := 5) (f := rdIs) (r := (rdIn l).2) (by omega); show (rdL 5 rdIs (rdIn l).2).1.length ≤ 5; omega
theorem rdTimes_mem {α : Type} {f : List Int → α × List Int} {Q : α → Prop} (h : ∀ r, Q (f r).1) : ∀ (k : Nat) (r : List Int), ∀ x ∈ (rdTimes f k r).1, Q x := by
  intro k
  induction k with
  | zero => intro r x hx; simp [rdTimes] at hx
  | succ k ih =>
    intro r x hx
    simp only [rdTimes] at hx
    rcases List.mem_cons.1 hx with rfl | hx
    · exact h r
    · exact ih _ x hx
theorem small_rd (l : List Int) : SmallPc (rdPc l) := by
  obtain ⟨h1, h2, h3⟩ := @rdPc_small l
  refine ⟨by omega, by omega, by omega, fun m hm => ?_, fun m hm => ?_⟩
  · refine rdTimes_mem (f := rdMs) (Q := fun m => m.length ≤ 1000000) (fun r => ?_) _ _ m hm
    have := rdL_len (most := 500) (f := rdM) (r := r) (by omega)
    show (rdL 500 rdM r).1.length ≤ 1000000; omega
  · refine rdTimes_mem (f := rdIs) (Q := fun m => m.length ≤ 1000000) (fun r => ?_) _ _ m hm
    have := rdL_len (most := 500) (f := rdN) (r := r) (by omega)
    show (rdL 500 rdN r).1.length ≤ 1000000; omega
theorem has_zero (P : Nat → Prop) (w : World) : HoldsL False P w [.slice none 0 0, .slice none 0 0, .slice none 0 0] Pc.zero.d := hl_cons (.nil _ _ _ _ _) (hl_cons (.nil _ _ _ _ _) (hl_cons (.nil _ _ _ _ _) hl_nil))
theorem allR_len' (s : ByteArray) : (allR s).2.length ≤ s.size := by
  have key : ∀ (f p : Nat) (acc : List Int), acc.length ≤ p → p ≤ s.size → (allGo s f p acc).2.length ≤ s.size := by
    intro f
    induction f with
    | zero => intro p acc h1 h2; simp [allGo]; omega
    | succ f ih =>
      intro p acc h1 h2
      simp only [allGo]
      split
      · dsimp only; omega
      · split
        · next h3 h4 =>
          obtain ⟨g1, g2, g3, g4, g5⟩ := num_in s p h4
          exact ih _ _ (by simp; omega) (by omega)
        · simp
  exact key _ 0 [] (by simp) (by omega)
set_option maxHeartbeats 8000000 in
theorem decode_at (s : ByteArray) (w : World) (hs : s.size ≤ 37605) :
    Calls Try.prog 13 #[.string s] w (DecTold (decR s) w) := by
  obtain ⟨rb, hrb⟩ : ∃ b, b = w.heap.size := ⟨_, rfl⟩
  obtain ⟨y0, hy0⟩ : ∃ y, y = w.alloc (.cells #[.int .i64 0, .int .i64 0, .int .i64 0, .slice none 0 0, .slice none 0 0, .slice none 0 0] 26) := ⟨_, rfl⟩
  have hb0 : Below w.heap.size w y0 := by rw [hy0]; exact below_new _ _
  have hx0 : BoxAt rb [.int .i64 0, .int .i64 0, .int .i64 0, .slice none 0 0, .slice none 0 0, .slice none 0 0] y0 := by rw [hrb, hy0]; exact boxAt_new w [.int .i64 0, .int .i64 0, .int .i64 0, .slice none 0 0, .slice none 0 0, .slice none 0 0] _
  have hf0 : ∀ i, y0.frozen? ⟨rb, i, none⟩ = false := fun i => by rw [hrb, hy0]; exact frozen_new w _ _ i
  have hl0 : rb < y0.heap.size := by rw [hrb, hy0, size_new]; omega
  have hg0 : w.heap.size ≤ rb := by omega
  have B0 := Lib.hid hb0
  have K0 := Lib.hid hx0
  have F0 := Lib.hid hf0
  have Y0 := Lib.hid hy0
  have RB := Lib.hid hrb
  have GEN : Hid (∀ (wz : World), Below y0.heap.size y0 wz → (wz.cell? ⟨rb, 0, none⟩ = some (.int .i64 0) ∧ wz.cell? ⟨rb, 1, none⟩ = some (.int .i64 0) ∧ wz.cell? ⟨rb, 2, none⟩ = some (.int .i64 0) ∧ wz.cell? ⟨rb, 3, none⟩ = some (.slice none 0 0) ∧ wz.cell? ⟨rb, 4, none⟩ = some (.slice none 0 0) ∧ wz.cell? ⟨rb, 5, none⟩ = some (.slice none 0 0)) ∧ ∀ i, wz.frozen? ⟨rb, i, none⟩ = false) := Lib.hid (fun wz hb =>
    ⟨⟨K0.out.below hb 0 _ rfl, K0.out.below hb 1 _ rfl, K0.out.below hb 2 _ rfl, K0.out.below hb 3 _ rfl, K0.out.below hb 4 _ rfl, K0.out.below hb 5 _ rfl⟩, fun i => (hb.frozen (p := ⟨rb, i, none⟩) hl0).trans (F0.out i)⟩)
  have PUTM := Lib.hid put_max
  obtain ⟨sm, hsm⟩ : ∃ x, x = strB (putB 2147483647) := ⟨_, rfl⟩
  have SM := Lib.hid hsm
  rw [← hsm] at PUTM
  obtain ⟨ae, hae⟩ : ∃ x, x = (allR s).1 := ⟨_, rfl⟩
  obtain ⟨al, hal⟩ : ∃ x, x = (allR s).2 := ⟨_, rfl⟩
  have AE := Lib.hid hae
  have AL := Lib.hid hal
  have hall : al.length ≤ 37605 := by have := allR_len' s; rw [hal]; omega
  have hss : s.size ≤ 1000000 := by omega
  have DR : Hid (decR s = if ae = 0 ∧ okB (rdPc al) = true ∧ strB (putsB (numsOf (rdPc al))) = s then (rdPc al, 0) else (Pc.zero, 4)) := Lib.hid (by rw [hae, hal]; rfl)
  obtain ⟨dr, hdr⟩ : ∃ x, x = decR s := ⟨_, rfl⟩
  rw [← hdr] at DR ⊢
  have NO : Hid (dr = (Pc.zero, 4) → ∀ (wz : World), Below y0.heap.size y0 wz → DecTold dr w (.returned (.tuple #[.agg #[.int .i64 0, .int .i64 0, .int .i64 0, .slice none 0 0, .slice none 0 0, .slice none 0 0], .int .i64 4])) (set6 wz rb (.int .i64 0) (.int .i64 0) (.int .i64 0) (.slice none 0 0) (.slice none 0 0) (.slice none 0 0))) := Lib.hid (fun e wz hb => by
    rw [e]
    exact ⟨_, _, _, rfl, has_zero _ _, set6_below (below_step' B0.out hb) hg0⟩)
  clear hb0 hx0 hf0 hy0 hrb hsm hae hal hdr
  go_enter Try.func13, Try.ntmps13
  go_upto_region 1 with fail
  rw [← RB.out, ← Y0.out]
  go_wp2_with fail
  refine (put_any _ _).mono ?_
  rintro e w1 ⟨rfl, hb⟩
  rw [← SM.out]
  have B1 := Lib.hid hb
  clear hb
  obtain ⟨sz, hsz⟩ : ∃ n, n = sm.size := ⟨_, rfl⟩
  have hsz5 : sz = 5 := by rw [hsz]; exact PUTM.out
  have hcmp : ¬ (37605 : Int) < s.size := by omega
  go_wp2_with fail
  clear hsz hsz5 hcmp
  refine (all_any s _ hss).mono ?_
  rintro e w2 ⟨v, rfl, hown, hb⟩
  rw [← AE.out]
  have hown' := IntsAt.owns hown
  rw [← AL.out] at hown'
  have HV := Lib.hid (has_of_ints hown')
  have B2 := Lib.hid (below_step' B1.out hb)
  obtain ⟨va, vc, e⟩ := slice_of HV.out
  subst e
  obtain ⟨vn, hvn⟩ : ∃ n, n = al.length := ⟨_, rfl⟩
  rw [← hvn] at HV ⊢
  clear hown hown' hb hvn
  by_cases h0 : ae = 0
  · have hne : (ae != 0) = false := by simp [h0]
    have H0 := Lib.hid h0
    clear h0
    go_wp2_with fail
    refine (pieceOf_at al _ _ HV.out (by omega)).mono ?_
    rintro e w3 ⟨v1, v2, v3, rfl, hH, hb⟩
    obtain ⟨p, hp⟩ : ∃ p, p = rdPc al := ⟨_, rfl⟩
    rw [← hp] at hH DR ⊢
    have SMP : Hid (SmallPc p) := Lib.hid (by rw [hp]; exact small_rd al)
    have B3 := Lib.hid (below_step' B2.out hb)
    obtain ⟨a1, a2, a3, n1, n2, n3, e1, e2, e3, ee1, ee2, ee3⟩ := pc_slices hH.weak
    subst ee1
    subst ee2
    subst ee3
    obtain ⟨pb, hpb⟩ : ∃ b, b = w3.heap.size := ⟨_, rfl⟩
    obtain ⟨m0, hm0⟩ : ∃ m, m = p.node := ⟨_, rfl⟩
    obtain ⟨m1, hm1⟩ : ∃ m, m = p.state := ⟨_, rfl⟩
    obtain ⟨m2, hm2⟩ : ∃ m, m = p.steps := ⟨_, rfl⟩
    obtain ⟨y1, hy1⟩ : ∃ y, y = w3.alloc (.cells #[.int .i64 m0, .int .i64 m1, .int .i64 m2, .slice a1 n1 e1, .slice a2 n2 e2, .slice a3 n3 e3] 26) := ⟨_, rfl⟩
    have hb1 : Below w3.heap.size w3 y1 := by rw [hy1]; exact below_new _ _
    have hk1 : BoxAt pb [.int .i64 m0, .int .i64 m1, .int .i64 m2, .slice a1 n1 e1, .slice a2 n2 e2, .slice a3 n3 e3] y1 := by rw [hpb, hy1]; exact boxAt_new w3 [.int .i64 m0, .int .i64 m1, .int .i64 m2, .slice a1 n1 e1, .slice a2 n2 e2, .slice a3 n3 e3] _
    have HH1 : Hid (HasL y1 [.slice a1 n1 e1, .slice a2 n2 e2, .slice a3 n3 e3] p.d) := Lib.hid ((hH.later hb1).weak)
    have HF1 := Lib.hid (hH.later hb1)
    have LR : Hid (rb < w2.heap.size) := Lib.hid (by have := B2.out.size; omega)
    have B4 := Lib.hid (below_step' B3.out hb1)
    have K1 := Lib.hid hk1
    have ET := Lib.hid (encode_at p _ _ _ y1 HH1.out SMP.out)
    have hpr : pb ≠ rb := by have := B3.out.size; have := hl0; omega
    unfold pcv at ET ⊢
    rw [← hm0, ← hm1, ← hm2] at ET ⊢
    have PQ : Hid (pcv p (.slice a1 n1 e1) (.slice a2 n2 e2) (.slice a3 n3 e3) = .agg #[.int .i64 m0, .int .i64 m1, .int .i64 m2, .slice a1 n1 e1, .slice a2 n2 e2, .slice a3 n3 e3]) := Lib.hid (by rw [hm0, hm1, hm2])
    have Y1 := Lib.hid hy1
    have PBH := Lib.hid hpb
    clear hH hb hp hpb hm0 hm1 hm2 hy1 hb1 hk1
    go_upto_region 7 with fail
    rw [← Y1.out, ← PBH.out]
    have p0 := K1.out 0 _ rfl
    have p1 := K1.out 1 _ rfl
    have p2 := K1.out 2 _ rfl
    have p3 := K1.out 3 _ rfl
    have p4 := K1.out 4 _ rfl
    have p5 := K1.out 5 _ rfl
    go_wp2_with fail
    refine ET.out.mono ?_
    rintro e w4 ⟨rfl, hb⟩
    have B5 := Lib.hid (below_step' B4.out hb)
    have B14 := Lib.hid hb
    clear hb p0 p1 p2 p3 p4 p5 ET
    cases hok : okB p with
    | false =>
      have EN : encR p = (strB [], 4) := by unfold encR; rw [if_neg (by rw [hok]; simp)]
      rw [EN]
      have HD : Hid (dr = (Pc.zero, 4)) := Lib.hid (by rw [DR.out, if_neg (by rw [hok]; simp)])
      clear hok EN
      obtain ⟨st, hst⟩ : ∃ x, x = strB [] := ⟨_, rfl⟩
      rw [← hst]
      clear hst
      obtain ⟨⟨q0, q1, q2, q3, q4, q5⟩, qf⟩ := GEN.out w4 B5.out
      have f0 := qf 0
      have f1 := qf 1
      have f2 := qf 2
      have f3 := qf 3
      have f4 := qf 4
      have f5 := qf 5
      have HB := set6_at (w := w4) (b := rb) (x0 := .int .i64 0) (x1 := .int .i64 0) (x2 := .int .i64 0) (x3 := .slice none 0 0) (x4 := .slice none 0 0) (x5 := .slice none 0 0) (fun i hi => by
        match i, hi with
        | 0, _ => exact ⟨_, q0⟩
        | 1, _ => exact ⟨_, q1⟩
        | 2, _ => exact ⟨_, q2⟩
        | 3, _ => exact ⟨_, q3⟩
        | 4, _ => exact ⟨_, q4⟩
        | 5, _ => exact ⟨_, q5⟩)
      have HBB := Lib.hid HB
      have RES := Lib.hid (NO.out (HD.out) w4 B5.out)
      clear HB qf
      go_wp2_with fail
      have d0 := HBB.out 0 _ rfl
      have d1 := HBB.out 1 _ rfl
      have d2 := HBB.out 2 _ rfl
      have d3 := HBB.out 3 _ rfl
      have d4 := HBB.out 4 _ rfl
      have d5 := HBB.out 5 _ rfl
      exact bodyPost_ret (v := .tuple #[.agg #[.int .i64 0, .int .i64 0, .int .i64 0, .slice none 0 0, .slice none 0 0, .slice none 0 0], .int .i64 4]) (by simp [results, Try.results13, go_sem, d0, d1, d2, d3, d4, d5]) rfl RES.out
    | true =>
      have EN : encR p = (strB (putsB (numsOf p)), 0) := by unfold encR; rw [if_pos hok]
      rw [EN]
      obtain ⟨st, hst⟩ : ∃ x, x = strB (putsB (numsOf p)) := ⟨_, rfl⟩
      rw [← hst] at DR ⊢
      have HOK := Lib.hid hok
      clear hst EN hok
      by_cases hss2 : st = s
      · have HD : Hid (dr = (p, 0)) := Lib.hid (by rw [DR.out, if_pos ⟨H0.out, HOK.out, hss2⟩])
        have hq : (st.toList == s.toList) = true := by rw [hss2]; simp
        clear hss2
        obtain ⟨⟨q0, q1, q2, q3, q4, q5⟩, qf⟩ := GEN.out w4 B5.out
        have f0 := qf 0
        have f1 := qf 1
        have f2 := qf 2
        have f3 := qf 3
        have f4 := qf 4
        have f5 := qf 5
        have p0 := K1.out.below B14.out 0 _ rfl
        have p1 := K1.out.below B14.out 1 _ rfl
        have p2 := K1.out.below B14.out 2 _ rfl
        have p3 := K1.out.below B14.out 3 _ rfl
        have p4 := K1.out.below B14.out 4 _ rfl
        have p5 := K1.out.below B14.out 5 _ rfl
        have HB := set6_at (w := w4) (b := rb) (x0 := .int .i64 m0) (x1 := .int .i64 m1) (x2 := .int .i64 m2) (x3 := .slice a1 n1 e1) (x4 := .slice a2 n2 e2) (x5 := .slice a3 n3 e3) (fun i hi => by
          match i, hi with
          | 0, _ => exact ⟨_, q0⟩
          | 1, _ => exact ⟨_, q1⟩
          | 2, _ => exact ⟨_, q2⟩
          | 3, _ => exact ⟨_, q3⟩
          | 4, _ => exact ⟨_, q4⟩
          | 5, _ => exact ⟨_, q5⟩)
        have HBB := Lib.hid HB
        have RES : Hid (DecTold dr w (.returned (.tuple #[.agg #[.int .i64 m0, .int .i64 m1, .int .i64 m2, .slice a1 n1 e1, .slice a2 n2 e2, .slice a3 n3 e3], .int .i64 0])) (set6 w4 rb (.int .i64 m0) (.int .i64 m1) (.int .i64 m2) (.slice a1 n1 e1) (.slice a2 n2 e2) (.slice a3 n3 e3))) := Lib.hid (by
          rw [HD.out]
          refine ⟨_, _, _, by rw [PQ.out], ?_, set6_below (below_step' B0.out B5.out) hg0⟩
          exact ((HF1.out.later B14.out).same (set6_same (fun h => by have := LR.out; omega))).wide (fun q _ hq => by have := B2.out.size; have := B0.out.size; omega))
        clear HB qf
        go_wp2_with fail
        have d0 := HBB.out 0 _ rfl
        have d1 := HBB.out 1 _ rfl
        have d2 := HBB.out 2 _ rfl
        have d3 := HBB.out 3 _ rfl
        have d4 := HBB.out 4 _ rfl
        have d5 := HBB.out 5 _ rfl
        exact bodyPost_ret (v := .tuple #[.agg #[.int .i64 m0, .int .i64 m1, .int .i64 m2, .slice a1 n1 e1, .slice a2 n2 e2, .slice a3 n3 e3], .int .i64 0]) (by simp [results, Try.results13, go_sem, d0, d1, d2, d3, d4, d5]) rfl RES.out
      · have HD : Hid (dr = (Pc.zero, 4)) := Lib.hid (by rw [DR.out, if_neg (fun h => hss2 h.2.2)])
        have hq : (st.toList != s.toList) = true := by
          rw [bne_iff_ne]
          intro e
          apply hss2
          rw [ByteArray.toList_eq, ByteArray.toList_eq] at e
          exact ByteArray.ext (Array.toList_inj.1 e)
        have hq2 : ¬ st.toList = s.toList := bne_iff_ne.1 hq
        have hq3 : (st.toList == s.toList) = false := by simpa using hq2
        clear hss2
        obtain ⟨⟨q0, q1, q2, q3, q4, q5⟩, qf⟩ := GEN.out w4 B5.out
        have f0 := qf 0
        have f1 := qf 1
        have f2 := qf 2
        have f3 := qf 3
        have f4 := qf 4
        have f5 := qf 5
        have HB := set6_at (w := w4) (b := rb) (x0 := .int .i64 0) (x1 := .int .i64 0) (x2 := .int .i64 0) (x3 := .slice none 0 0) (x4 := .slice none 0 0) (x5 := .slice none 0 0) (fun i hi => by
          match i, hi with
          | 0, _ => exact ⟨_, q0⟩
          | 1, _ => exact ⟨_, q1⟩
          | 2, _ => exact ⟨_, q2⟩
          | 3, _ => exact ⟨_, q3⟩
          | 4, _ => exact ⟨_, q4⟩
          | 5, _ => exact ⟨_, q5⟩)
        have HBB := Lib.hid HB
        have RES := Lib.hid (NO.out (HD.out) w4 B5.out)
        clear HB qf
        go_wp2_with fail
        have d0 := HBB.out 0 _ rfl
        have d1 := HBB.out 1 _ rfl
        have d2 := HBB.out 2 _ rfl
        have d3 := HBB.out 3 _ rfl
        have d4 := HBB.out 4 _ rfl
        have d5 := HBB.out 5 _ rfl
        exact bodyPost_ret (v := .tuple #[.agg #[.int .i64 0, .int .i64 0, .int .i64 0, .slice none 0 0, .slice none 0 0, .slice none 0 0], .int .i64 4]) (by simp [results, Try.results13, go_sem, d0, d1, d2, d3, d4, d5]) rfl RES.out
  · have hne : (ae != 0) = true := by simp [h0]
    have HD : Hid (dr = (Pc.zero, 4)) := Lib.hid (by rw [DR.out, if_neg (fun h => h0 h.1)])
    clear h0
    obtain ⟨⟨q0, q1, q2, q3, q4, q5⟩, qf⟩ := GEN.out w2 B2.out
    have f0 := qf 0
    have f1 := qf 1
    have f2 := qf 2
    have f3 := qf 3
    have f4 := qf 4
    have f5 := qf 5
    have HB := set6_at (w := w2) (b := rb) (x0 := .int .i64 0) (x1 := .int .i64 0) (x2 := .int .i64 0) (x3 := .slice none 0 0) (x4 := .slice none 0 0) (x5 := .slice none 0 0) (fun i hi => by
      match i, hi with
      | 0, _ => exact ⟨_, q0⟩
      | 1, _ => exact ⟨_, q1⟩
      | 2, _ => exact ⟨_, q2⟩
      | 3, _ => exact ⟨_, q3⟩
      | 4, _ => exact ⟨_, q4⟩
      | 5, _ => exact ⟨_, q5⟩)
    have HBB := Lib.hid HB
    have RES := Lib.hid (NO.out (HD.out) w2 B2.out)
    clear HB qf
    go_wp2_with fail
    have d0 := HBB.out 0 _ rfl
    have d1 := HBB.out 1 _ rfl
    have d2 := HBB.out 2 _ rfl
    have d3 := HBB.out 3 _ rfl
    have d4 := HBB.out 4 _ rfl
    have d5 := HBB.out 5 _ rfl
    exact bodyPost_ret (v := .tuple #[.agg #[.int .i64 0, .int .i64 0, .int .i64 0, .slice none 0 0, .slice none 0 0, .slice none 0 0], .int .i64 4]) (by simp [results, Try.results13, go_sem, d0, d1, d2, d3, d4, d5]) rfl RES.out
end Go.Proofs.Ytcopedhoepblpaa
