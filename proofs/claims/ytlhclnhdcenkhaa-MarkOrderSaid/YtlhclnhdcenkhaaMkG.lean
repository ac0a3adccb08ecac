/- Marks: what a host tells. -/
import Derived.Test.YtlhclnhdcenkhaaMkE
import Derived.Test.YtlhclnhdcenkhaaMkF
set_option linter.unusedSimpArgs false
set_option linter.unusedVariables false
set_option maxRecDepth 100000
namespace Go.Proofs.Ytlhclnhdcenkhaa
open Go.RowKit Go.PlainAid

def lensD (l : List (List Int)) : List (List D) := l.map fun x => [dI (x.length : Int)]
theorem lensD_len (l : List (List Int)) : (lensD l).length = l.length := List.length_map _
theorem lensD_get {l : List (List Int)} {j : Nat} {x : List Int} (h : l[j]? = some x) : (lensD l)[j]? = some [dI (x.length : Int)] := by unfold lensD; rw [List.getElem?_map, h]; rfl
theorem lensD_eq (l : List (List Int)) : D.row 1 (lensD l) = dInts (lensOf l) := by unfold dInts lensOf lensD; rw [List.map_map]; rfl
def ToldP (h : Hs) (v1 v2 : Value) (w : World) (e : Ending) (w' : World) : Prop := ∃ a k c, e = .returned (.agg #[.int .i64 h.node, .int .i64 h.state, .int .i64 h.steps, .slice a k c, v1, v2]) ∧ Has w' (.slice a k c) (dInts (lensOf h.out)) ∧ Below w.heap.size w w'
set_option maxHeartbeats 8000000 in
theorem told_at (h : Hs) (v1 v2 : Value) (w : World) (g : HasL w [v1, v2] h.d) (hs : SmallHs h) : Calls Try.prog 41 #[hsv h v1 v2] w (ToldP h v1 v2 w) := by
  obtain ⟨i0, hi0, hz0, hs0, hby0⟩ := info_parts infoInt
  obtain ⟨g1, g2⟩ := hs_has g
  obtain ⟨a1, e1, ee1⟩ := slice_of g1
  obtain ⟨a2, e2, ee2⟩ := slice_of g2
  subst ee1
  subst ee2
  obtain ⟨n1, hn1⟩ : ∃ n, n = h.inn.length := ⟨_, rfl⟩
  obtain ⟨n, hn⟩ : ∃ n, n = h.out.length := ⟨_, rfl⟩
  rw [← hn1] at g1
  rw [← hn] at g2
  rw [← hn1, ← hn]
  have hnn : n ≤ 1000000 := by rw [hn]; exact hs.o
  have H2 := Lib.hid g2
  have HN := Lib.hid hn
  have HOM := Lib.hid hs.om
  obtain ⟨p0, hp0⟩ : ∃ e, e = h.node := ⟨_, rfl⟩
  obtain ⟨p1, hp1⟩ : ∃ e, e = h.state := ⟨_, rfl⟩
  obtain ⟨p2, hp2⟩ : ∃ e, e = h.steps := ⟨_, rfl⟩
  have TP : Hid (∀ e w', (∃ a k c, e = .returned (.agg #[.int .i64 p0, .int .i64 p1, .int .i64 p2, .slice a k c, .slice a1 n1 e1, .slice a2 n e2]) ∧ Has w' (.slice a k c) (dInts (lensOf h.out)) ∧ Below w.heap.size w w') → ToldP h (.slice a1 n1 e1) (.slice a2 n e2) w e w') := Lib.hid (fun e w' h => by rw [hp0, hp1, hp2] at h; exact h)
  unfold hsv
  rw [← hp0, ← hp1, ← hp2]
  clear g g1 g2 hs hn1 hn hp0 hp1 hp2
  go_enter Try.func41, Try.ntmps41
  go_upto_region 2 with fail
  obtain ⟨bh, hbh⟩ : ∃ b, b = w.heap.size := ⟨_, rfl⟩
  obtain ⟨br, hbr⟩ : ∃ b, b = w.heap.size + 1 := ⟨_, rfl⟩
  obtain ⟨bp, hbp⟩ : ∃ b, b = w.heap.size + 1 + 1 := ⟨_, rfl⟩
  obtain ⟨y1, hy1⟩ : ∃ y, y = w.alloc (.cells #[.int .i64 p0, .int .i64 p1, .int .i64 p2, .slice a1 n1 e1, .slice a2 n e2] 26) := ⟨_, rfl⟩
  obtain ⟨y2, hy2⟩ : ∃ y, y = y1.alloc (.cells #[.int .i64 0, .int .i64 0, .int .i64 0, .slice none 0 0, .slice none 0 0, .slice none 0 0] 31) := ⟨_, rfl⟩
  obtain ⟨w9, hw9⟩ : ∃ y, y = y2.alloc (.cells #[.int .i64 p0, .int .i64 p1, .int .i64 p2, .slice none 0 0, .slice a1 n1 e1, .slice a2 n e2] 31) := ⟨_, rfl⟩
  have z1 : y1.heap.size = br := by rw [hy1, size_new, hbr]
  have z2 : y2.heap.size = bp := by rw [hy2, size_new, z1, hbr, hbp]
  have b1 : Below w.heap.size w y1 := by rw [hy1]; exact below_new _ _
  have b2 : Below y1.heap.size y1 y2 := by rw [hy2]; exact below_new _ _
  have b3 : Below y2.heap.size y2 w9 := by rw [hw9]; exact below_new _ _
  have KH : Hid (BoxAt bh [.int .i64 p0, .int .i64 p1, .int .i64 p2, .slice a1 n1 e1, .slice a2 n e2] w9) := Lib.hid (by rw [hbh]; exact BoxAt.below (by rw [hy1]; exact boxAt_new w [.int .i64 p0, .int .i64 p1, .int .i64 p2, .slice a1 n1 e1, .slice a2 n e2] _) (below_step' b2 b3))
  have KR : Hid (BoxAt br [.int .i64 0, .int .i64 0, .int .i64 0, .slice none 0 0, .slice none 0 0, .slice none 0 0] w9) := Lib.hid (by rw [← z1]; exact BoxAt.below (by rw [hy2]; exact boxAt_new y1 [.int .i64 0, .int .i64 0, .int .i64 0, .slice none 0 0, .slice none 0 0, .slice none 0 0] _) b3)
  have OR : Hid (Open8 br w9) := Lib.hid (by rw [← z1]; exact Open8.below (by rw [hy2]; exact Open8.new _ _ _) b3)
  have KP : Hid (BoxAt bp [.int .i64 p0, .int .i64 p1, .int .i64 p2, .slice none 0 0, .slice a1 n1 e1, .slice a2 n e2] w9) := Lib.hid (by rw [← z2, hw9]; exact boxAt_new y2 [.int .i64 p0, .int .i64 p1, .int .i64 p2, .slice none 0 0, .slice a1 n1 e1, .slice a2 n e2] _)
  have OP : Hid (Open8 bp w9) := Lib.hid (by rw [← z2, hw9]; exact Open8.new _ _ _)
  have B0 := Lib.hid (below_step' (below_step' b1 b2) b3)
  have RR : Hid (w.heap.size ≤ br ∧ w.heap.size ≤ bp ∧ bh ≠ bp ∧ br ≠ bp ∧ bh < w9.heap.size ∧ br < w9.heap.size ∧ bp < w9.heap.size) := Lib.hid ⟨by omega, by omega, by omega, by omega, World.block_lt_of_cell? w9 _ (KH.out 0 _ rfl), OR.out.1, OP.out.1⟩
  rw [← hy1, ← hy2, ← hw9, ← hbp, ← hbr, ← hbh]
  clear hy1 hy2 hw9 z1 z2 b1 b2 b3 hbh hbr hbp
  have C0 : Hid (CutB w w9 bp 3 3 [.int .i64 p0, .int .i64 p1, .int .i64 p2, .slice none 0 0, .slice a1 n1 e1, .slice a2 n e2] (.slice none 0 0) [] w9) := Lib.hid ⟨fun i u e hi => KP.out i u e, OP.out.2, ⟨KP.out 3 _ rfl, OP.out.2 3, ⟨Own.nil B0.out, fun k hk => by simp [Value.ownBlock] at hk⟩, fun h => Nat.lt_irrefl _ (Nat.lt_of_lt_of_le RR.out.2.2.2.2.2.2 h), RR.out.2.1⟩, SameOn.refl _ _⟩
  have h4 := KH.out 4 _ rfl
  go_wp2_with fail
  clear h4
  go_loopw [20] (fun i wr => ∃ (j : Nat) (v : Value), i = .int .i64 j ∧ j ≤ n ∧ CutB w w9 bp 3 3 [.int .i64 p0, .int .i64 p1, .int .i64 p2, .slice none 0 0, .slice a1 n1 e1, .slice a2 n e2] v ((lensD h.out).take j) wr) (fun i _ => n - (intOf i).toNat)
  case atStart => exact ⟨0, _, rfl, by omega, C0.out⟩
  case round =>
    obtain ⟨j, v, rfl, hj, hC⟩ := hrel
    obtain ⟨wr1, hw1⟩ : ∃ x, x = wr := ⟨_, rfl⟩
    subst hw1
    have BW := Lib.hid hC.f.bld.own.bel
    obtain ⟨va, vc, e⟩ := hC.f.bld.own.slice
    have hl : ((lensD h.out).take j).length = j := by rw [List.length_take, lensD_len, ← HN.out]; omega
    rw [hl] at e
    subst e
    have LEN := Lib.hid hl
    have HC := Lib.hid hC
    clear hC hl
    by_cases hlt : j < n
    · have hlt' : (j : Int) < n := by omega
      obtain ⟨x, hx⟩ := some_of_lt (l := h.out) (i := j) (by rw [← HN.out]; exact hlt)
      obtain ⟨b, o, ma, mc, e, _, e9, x1, hmx⟩ := ils_at (H2.out.later BW.out) hx
      clear e9
      subst e
      obtain ⟨k1, hk1⟩ : ∃ k, k = x.length := ⟨_, rfl⟩
      rw [← hk1] at x1
      have TK : Hid ((lensD h.out).take (j + 1) = (lensD h.out).take j ++ [[dI (k1 : Int)]]) := Lib.hid (by rw [List.take_add_one, lensD_get hx, hk1]; rfl)
      have q3 := HC.out.f.cell
      have HB2 := Lib.hid (HC.out.f.bld.own.later (below_new wr1 (.cells #[.int .i64 (k1 : Int)] 3)))
      clear hmx hk1 hx
      go_wp2_with (at_builtin; refine appL rfl _ _ 29 3 i0 (.int .i64 0) 1 8 rfl Try.underlying29 hi0 hz0 hs0 hby0 rfl (by decide) False (fun q => w9.heap.size ≤ q) w wr1.heap.size _ ((lensD h.out).take j) [[dI (k1 : Int)]] j 1 1 (j + 1) rfl HB2.out LEN.out (some ⟨wr1.heap.size, 0, none⟩) rfl [.int .i64 (k1 : Int)] news_new (fun e => by cases e) (by intro ds hds; rw [List.mem_singleton] at hds; subst hds; rfl) rfl (hl_int hl_nil) rfl (by unfold maxLen; omega) (by omega) ?_)
      intro ao cv w3 hO hg3 hb3
      rw [← TK.out] at hO
      obtain ⟨hC3, s3, f3, hoth⟩ := HC.out.push RR.out.2.2.2.2.2.2 (below_new _ _) (by rw [← TK.out]; exact hO) hg3 (by rw [size_new]; exact hb3)
      rw [← TK.out] at hC3
      have C3 := Lib.hid hC3
      clear hO hg3 hb3 hC3 hoth q3 HB2 x1
      go_wp2_with fail
      go_roundw
      case rel => exact ⟨j + 1, _, by go_num, by omega, C3.out⟩
      case measure => simp [intOf]; omega
    · obtain rfl : j = n := by omega
      have hj3 : ¬ (j : Int) < j := by omega
      have c0 := HC.out.oth 0 _ rfl (by decide)
      have c1 := HC.out.oth 1 _ rfl (by decide)
      have c2 := HC.out.oth 2 _ rfl (by decide)
      have c3 := HC.out.f.cell
      have c4 := HC.out.oth 4 _ rfl (by decide)
      have c5 := HC.out.oth 5 _ rfl (by decide)
      have KRr := Lib.hid (KR.out.same HC.out.s ⟨RR.out.2.2.2.2.2.1, RR.out.2.2.2.1⟩)
      have ORr : Hid (∀ i, wr1.frozen? ⟨br, i, none⟩ = false) := Lib.hid (fun i => (HC.out.s.frozen (a := ⟨br, i, none⟩) ⟨RR.out.2.2.2.2.2.1, RR.out.2.2.2.1⟩ RR.out.2.2.2.2.2.1).trans (OR.out.2 i))
      have r0 := KRr.out 0 _ rfl
      have g0 := ORr.out 0
      have r1 := KRr.out 1 _ rfl
      have g1 := ORr.out 1
      have r2 := KRr.out 2 _ rfl
      have g2 := ORr.out 2
      have r3 := KRr.out 3 _ rfl
      have g3 := ORr.out 3
      have r4 := KRr.out 4 _ rfl
      have g4 := ORr.out 4
      have r5 := KRr.out 5 _ rfl
      have g5 := ORr.out 5
      have HF : Hid (Holds False (fun q => w9.heap.size ≤ q) wr1 (.slice va j vc) (dInts (lensOf h.out))) := Lib.hid (by
        have h1 := HC.out.f.bld.holds
        rw [List.take_of_length_le (by rw [lensD_len, ← HN.out]; exact Nat.le_refl _), lensD_eq] at h1
        exact h1)
      have BR := Lib.hid BW.out
      go_wp2_with fail
      change bodyPost _ _ _ Exit.ret _ (setN wr1 br 0 [.int .i64 p0, .int .i64 p1, .int .i64 p2, .slice va j vc, .slice a1 n1 e1, .slice a2 j e2])
      have HB := setN_box [.int .i64 p0, .int .i64 p1, .int .i64 p2, .slice va j vc, .slice a1 n1 e1, .slice a2 j e2] 0 _ wr1 KRr.out (by simp)
      have HB' : BoxAt br [.int .i64 p0, .int .i64 p1, .int .i64 p2, .slice va j vc, .slice a1 n1 e1, .slice a2 j e2] (setN wr1 br 0 [.int .i64 p0, .int .i64 p1, .int .i64 p2, .slice va j vc, .slice a1 n1 e1, .slice a2 j e2]) := HB
      have HFf := (HF.out.same (setN_same (P := fun q => w9.heap.size ≤ q) (b := br) (fun h => Nat.lt_irrefl _ (Nat.lt_of_lt_of_le RR.out.2.2.2.2.2.1 h)) [.int .i64 p0, .int .i64 p1, .int .i64 p2, .slice va j vc, .slice a1 n1 e1, .slice a2 j e2] 0 wr1 (SameOn.refl _ _))).weak
      exact bodyPost_ret (v := .agg #[.int .i64 p0, .int .i64 p1, .int .i64 p2, .slice va j vc, .slice a1 n1 e1, .slice a2 j e2]) (by simp [results, Try.results41, go_sem, HB' 0 _ rfl, HB' 1 _ rfl, HB' 2 _ rfl, HB' 3 _ rfl, HB' 4 _ rfl, HB' 5 _ rfl]) rfl (TP.out _ _ ⟨_, _, _, rfl, HFf, setN_below RR.out.1 _ 0 wr1 BR.out⟩)
theorem infoMsgsB : (Try.prog.info? 57).map (fun i => (i.zero, i.size, i.bytes)) = some (some (.slice none 0 0), 1, 24) := by kernel_rfl
theorem make_lls (n : Nat) (h : n ≤ 1000000) (w : World) : (Instr.makeSlice 23 (.int .i64 (n : Int)) (.int .i64 (n : Int))).run Try.prog w = .ok (.slice (some ⟨w.heap.size, 0, none⟩) n n) (w.alloc (.cells (madeCells #[.slice none 0 0] n) 57)) := by
  obtain ⟨i, hi, hz, h1, h2⟩ := info_parts infoMsgsB
  have := run_make (P := Try.prog) w 23 57 i (.slice none 0 0) Try.underlying23 hi hz .i64 .i64 n n (by omega) (by omega) (by rw [h2]; omega) (by omega)
  rw [this, h1]
  simp [Value.cells]
theorem madeL (n : Nat) : (madeCells #[Value.slice none 0 0] n).toList = List.replicate n (Value.slice none 0 0) := by
  unfold madeCells
  apply List.ext_getElem
  · simp
  · intro i h1 h2
    simp [Nat.mod_one]
theorem hold_nils {P : Nat → Prop} {w : World} (N : Nat) : HoldsL True P w (List.replicate N (Value.slice none 0 0)) (((List.replicate N ([] : Lks)).map fun m => [dLinks m]).flatten) := by
  refine ⟨by simp [List.length_flatten, List.map_replicate], fun _ _ => False, fun _ _ h => h.elim, fun _ _ _ _ h => h.elim, fun j c d hc hd => ?_⟩
  have h1 : c = .slice none 0 0 := List.eq_of_mem_replicate (List.mem_of_getElem? hc)
  have h2 : d = dLinks [] := by
    have h := List.mem_of_getElem? hd
    rw [List.mem_flatten] at h
    obtain ⟨l, hl, h⟩ := h
    obtain ⟨x, hx, rfl⟩ := List.mem_map.1 hl
    rw [List.eq_of_mem_replicate hx] at h
    simpa using h
  subst h1 h2
  exact .nil _ _ _ _ _
theorem lls_made (N : Nat) (h : N ≤ 1000000) (w : World) : Holds True (fun q => w.heap.size ≤ q) (w.alloc (.cells (madeCells #[.slice none 0 0] N) 57)) (.slice (some ⟨w.heap.size, 0, none⟩) N N) (dLls (List.replicate N [])) := by
  refine holds_mk (Q := fun _ => False) (xs := (List.replicate N ([] : Lks)).map fun m => [dLinks m]) (by simp) (Nat.le_refl _) (heap_alloc_new w _) (Nat.le_refl _) (by unfold maxLen; omega) (by simp [madeCells]) rfl (fun ds hd => by obtain ⟨x, _, rfl⟩ := List.mem_map.1 hd; rfl) ?_ (fun _ h => h.elim) (fun h => h)
  rw [madeL, Nat.mul_one, List.take_of_length_le (by simp)]
  exact hold_nils N
set_option maxHeartbeats 8000000 in
theorem hpiece_at (h : Hs) (v1 v2 : Value) (w : World) (g : HasL w [v1, v2] h.d) (hs : SmallHs h) : Calls Try.prog 34 #[hsv h v1 v2, .bool false] w (OwnTold (tellP h) w) := by
  have TO := Lib.hid (fun (w' : World) (hb : Below w.heap.size w w') => told_at h v1 v2 w' (g.later hb) hs)
  obtain ⟨g1, g2⟩ := hs_has g
  obtain ⟨a1, e1, ee1⟩ := slice_of g1
  obtain ⟨a2, e2, ee2⟩ := slice_of g2
  subst ee1
  subst ee2
  obtain ⟨n1, hn1⟩ : ∃ n, n = h.inn.length := ⟨_, rfl⟩
  obtain ⟨n2, hn2⟩ : ∃ n, n = h.out.length := ⟨_, rfl⟩
  rw [← hn1, ← hn2] at TO ⊢
  have hnn : n1 ≤ 1000000 := by rw [hn1]; exact hs.i
  have SP : Hid (SmallPc (tellP h)) := Lib.hid ⟨by unfold tellP lensOf; simp only [List.length_map]; exact hs.o, by unfold tellP; simp only [List.length_replicate]; exact hs.i, by unfold tellP; simp, fun m hm => by unfold tellP at hm; simp only at hm; rw [List.eq_of_mem_replicate hm]; simp, fun m hm => by unfold tellP at hm; simp at hm⟩
  have TI : Hid ((tellP h).inn = List.replicate n1 [] ∧ (tellP h).out = [] ∧ (tellP h).sent = lensOf h.out) := Lib.hid ⟨by rw [hn1]; rfl, rfl, rfl⟩
  obtain ⟨p0, hp0⟩ : ∃ e, e = h.node := ⟨_, rfl⟩
  obtain ⟨p1, hp1⟩ : ∃ e, e = h.state := ⟨_, rfl⟩
  obtain ⟨p2, hp2⟩ : ∃ e, e = h.steps := ⟨_, rfl⟩
  have PQ : Hid (∀ x y z, pcv (tellP h) x y z = .agg #[.int .i64 p0, .int .i64 p1, .int .i64 p2, x, y, z]) := Lib.hid (fun x y z => by rw [hp0, hp1, hp2]; rfl)
  have TQ : Hid (∀ w e w', ToldP h (.slice a1 n1 e1) (.slice a2 n2 e2) w e w' → ∃ a k c, e = .returned (.agg #[.int .i64 p0, .int .i64 p1, .int .i64 p2, .slice a k c, .slice a1 n1 e1, .slice a2 n2 e2]) ∧ Has w' (.slice a k c) (dInts (lensOf h.out)) ∧ Below w.heap.size w w') := Lib.hid (fun w e w' h => by rw [hp0, hp1, hp2]; exact h)
  unfold hsv at TO ⊢
  rw [← hp0, ← hp1, ← hp2] at TO ⊢
  have hmk := make_lls n1 hnn
  clear g g1 g2 hs hn1 hn2 hp0 hp1 hp2
  go_enter Try.func34, Try.ntmps34
  go_upto_region 1 with fail
  obtain ⟨bh, hbh⟩ : ∃ b, b = w.heap.size := ⟨_, rfl⟩
  obtain ⟨br, hbr⟩ : ∃ b, b = w.heap.size + 1 := ⟨_, rfl⟩
  obtain ⟨y1, hy1⟩ : ∃ y, y = w.alloc (.cells #[.int .i64 p0, .int .i64 p1, .int .i64 p2, .slice a1 n1 e1, .slice a2 n2 e2] 26) := ⟨_, rfl⟩
  obtain ⟨y0, hy0⟩ : ∃ y, y = y1.alloc (.cells #[.int .i64 0, .int .i64 0, .int .i64 0, .slice none 0 0, .slice none 0 0, .slice none 0 0] 31) := ⟨_, rfl⟩
  have z1 : y1.heap.size = br := by rw [hy1, size_new, hbr]
  have b1 : Below w.heap.size w y1 := by rw [hy1]; exact below_new _ _
  have b2 : Below y1.heap.size y1 y0 := by rw [hy0]; exact below_new _ _
  have KH : Hid (BoxAt bh [.int .i64 p0, .int .i64 p1, .int .i64 p2, .slice a1 n1 e1, .slice a2 n2 e2] y0) := Lib.hid (by rw [hbh]; exact BoxAt.below (by rw [hy1]; exact boxAt_new w [.int .i64 p0, .int .i64 p1, .int .i64 p2, .slice a1 n1 e1, .slice a2 n2 e2] _) b2)
  have KR : Hid (BoxAt br [.int .i64 0, .int .i64 0, .int .i64 0, .slice none 0 0, .slice none 0 0, .slice none 0 0] y0) := Lib.hid (by rw [← z1, hy0]; exact boxAt_new y1 [.int .i64 0, .int .i64 0, .int .i64 0, .slice none 0 0, .slice none 0 0, .slice none 0 0] _)
  have OR : Hid (Open8 br y0) := Lib.hid (by rw [← z1, hy0]; exact Open8.new _ _ _)
  have B0 := Lib.hid (below_step' b1 b2)
  have RR : Hid (w.heap.size ≤ br) := Lib.hid (by omega)
  rw [← hy1, ← hy0, ← hbr, ← hbh]
  clear hy1 hy0 z1 b1 b2 hbh hbr
  have c0 := KH.out 0 _ rfl
  have c1 := KH.out 1 _ rfl
  have c2 := KH.out 2 _ rfl
  have c3 := KH.out 3 _ rfl
  have c4 := KH.out 4 _ rfl
  go_wp2_with fail
  refine (TO.out _ B0.out).mono ?_
  rintro e w1 hT
  obtain ⟨sa, sk, sc, rfl, hS, hb⟩ := TQ.out _ _ _ hT
  have HS := Lib.hid hS
  have B1 := Lib.hid hb
  clear hT hS hb TO TQ c0 c1 c2 c3 c4
  go_upto_region 2 with fail
  obtain ⟨bp, hbp⟩ : ∃ b, b = w1.heap.size := ⟨_, rfl⟩
  obtain ⟨w2, hw2⟩ : ∃ y, y = w1.alloc (.cells #[.int .i64 p0, .int .i64 p1, .int .i64 p2, .slice sa sk sc, .slice a1 n1 e1, .slice a2 n2 e2] 31) := ⟨_, rfl⟩
  have hb2 : Below w1.heap.size w1 w2 := by rw [hw2]; exact below_new _ _
  have KP : Hid (BoxAt bp [.int .i64 p0, .int .i64 p1, .int .i64 p2, .slice sa sk sc, .slice a1 n1 e1, .slice a2 n2 e2] w2) := Lib.hid (by rw [hbp, hw2]; exact boxAt_new w1 [.int .i64 p0, .int .i64 p1, .int .i64 p2, .slice sa sk sc, .slice a1 n1 e1, .slice a2 n2 e2] _)
  have OP : Hid (Open8 bp w2) := Lib.hid (by rw [hbp, hw2]; exact Open8.new _ _ _)
  have KH2 := Lib.hid (KH.out.below (below_step' B1.out hb2))
  have KR2 := Lib.hid (KR.out.below (below_step' B1.out hb2))
  have OR2 := Lib.hid (OR.out.below (below_step' B1.out hb2))
  have HS2 := Lib.hid (HS.out.later hb2)
  have B2 := Lib.hid (below_step' (below_step' B0.out B1.out) hb2)
  have PP : Hid (w.heap.size ≤ bp ∧ br ≠ bp ∧ bh ≠ bp) := Lib.hid (by
    have h1 := Nat.lt_of_lt_of_le OR.out.1 B1.out.size
    have h2 := Nat.lt_of_lt_of_le (World.block_lt_of_cell? y0 _ (KH.out 0 _ rfl)) B1.out.size
    have h3 := (below_step' B0.out B1.out).size
    exact ⟨by omega, by simp at h2; omega, by simp at h2; omega⟩)
  have HSP : Hid (Holds False (fun q => q ≠ bp) w1 (.slice sa sk sc) (dInts (lensOf h.out))) := Lib.hid (HS.out.wide (fun q hq _ => by rw [hbp]; omega))
  rw [← hw2, ← hbp]
  have HSP2 := Lib.hid (HSP.out.later hb2)
  clear hw2 hbp hb2 KH KR OR HS HSP
  have k3 := KH2.out 3 _ rfl
  have hm2 := hmk w2
  have hlm := lls_made n1 hnn w2
  obtain ⟨lb, hlb⟩ : ∃ b, b = w2.heap.size := ⟨_, rfl⟩
  obtain ⟨w3, hw3⟩ : ∃ y, y = w2.alloc (.cells (madeCells #[.slice none 0 0] n1) 57) := ⟨_, rfl⟩
  have hb3 : Below w2.heap.size w2 w3 := by rw [hw3]; exact below_new _ _
  rw [← hw3, ← hlb] at hm2 hlm
  have k3' := (KP.out.below hb3) 4 _ rfl
  have k4' := (KP.out.below hb3) 5 _ rfl
  have g3' := (OP.out.below hb3).2 4
  have g4' := (OP.out.below hb3).2 5
  have lbp : bp < lb := by rw [hlb]; exact OP.out.1
  have KP3 : Hid (BoxAt bp [.int .i64 p0, .int .i64 p1, .int .i64 p2, .slice sa sk sc, .slice (some ⟨lb, 0, none⟩) n1 n1, .slice none 0 0] (setN w3 bp 4 [.slice (some ⟨lb, 0, none⟩) n1 n1, .slice none 0 0])) := Lib.hid (setN_box [.slice (some ⟨lb, 0, none⟩) n1 n1, .slice none 0 0] 4 [.int .i64 p0, .int .i64 p1, .int .i64 p2, .slice sa sk sc, .slice a1 n1 e1, .slice a2 n2 e2] w3 (KP.out.below hb3) (by simp))
  have KR3 : Hid (BoxAt br [.int .i64 0, .int .i64 0, .int .i64 0, .slice none 0 0, .slice none 0 0, .slice none 0 0] (setN w3 bp 4 [.slice (some ⟨lb, 0, none⟩) n1 n1, .slice none 0 0])) := Lib.hid (setN_far PP.out.2.1 (KR2.out.below hb3))
  have OR3 : Hid (Open8 br (setN w3 bp 4 [.slice (some ⟨lb, 0, none⟩) n1 n1, .slice none 0 0])) := Lib.hid (OR2.out.below hb3).set
  have HS3 := Lib.hid ((HSP2.out.later hb3).same (setN_same (P := fun q => q ≠ bp) (b := bp) (fun h => h rfl) [.slice (some ⟨lb, 0, none⟩) n1 n1, .slice none 0 0] 4 w3 (SameOn.refl _ _)))
  have HL3 := Lib.hid (hlm.same (setN_same (P := fun q => lb ≤ q) (b := bp) (fun h => Nat.lt_irrefl _ (Nat.lt_of_lt_of_le lbp h)) [.slice (some ⟨lb, 0, none⟩) n1 n1, .slice none 0 0] 4 w3 (SameOn.refl _ _)))
  have B3 := Lib.hid (setN_below PP.out.1 [.slice (some ⟨lb, 0, none⟩) n1 n1, .slice none 0 0] 4 w3 (below_step' B2.out hb3))
  clear hmk hlm hw3 hb3 lbp hlb
  go_upto_region 4 with fail
  change Code.wp _ _ _ _ (setN w3 bp 4 [.slice (some ⟨lb, 0, none⟩) n1 n1, .slice none 0 0])
  obtain ⟨w4, hw4⟩ : ∃ x, x = setN w3 bp 4 [.slice (some ⟨lb, 0, none⟩) n1 n1, .slice none 0 0] := ⟨_, rfl⟩
  rw [← hw4] at KP3 KR3 OR3 HS3 HL3 B3 ⊢
  clear hw4 hm2 k3 k3' k4' g3' g4'
  have HP : Hid (HasL w4 [.slice sa sk sc, .slice (some ⟨lb, 0, none⟩) n1 n1, .slice none 0 0] (tellP h).d) := Lib.hid (has_pc (by rw [TI.out.2.2]; exact HS3.out.weak) (by rw [TI.out.1]; exact HL3.out.weak) (by rw [TI.out.2.1]; exact .nil _ _ _ _ _))
  have OW := Lib.hid (own_at (tellP h) _ _ _ w4 HP.out SP.out)
  rw [PQ.out] at OW
  have c0 := KP3.out 0 _ rfl
  have c1 := KP3.out 1 _ rfl
  have c2 := KP3.out 2 _ rfl
  have c3 := KP3.out 3 _ rfl
  have c4 := KP3.out 4 _ rfl
  have c5 := KP3.out 5 _ rfl
  go_wp2_with fail
  refine OW.out.mono ?_
  rintro e w5 ⟨v1, v2, v3, rfl, hU, hb⟩
  obtain ⟨x1, x2, x3, i1, i2, i3, j1, j2, j3, ee1, ee2, ee3⟩ := pc_slices hU.weak
  subst ee1
  subst ee2
  subst ee3
  rw [PQ.out]
  have HU := Lib.hid hU
  have B5 := Lib.hid hb
  have KR5 := Lib.hid (KR3.out.below hb)
  have OR5 := Lib.hid (OR3.out.below hb)
  clear hU hb OW c0 c1 c2 c3 c4 c5
  have r0 := KR5.out 0 _ rfl
  have g0 := OR5.out.2 0
  have r1 := KR5.out 1 _ rfl
  have g1 := OR5.out.2 1
  have r2 := KR5.out 2 _ rfl
  have g2 := OR5.out.2 2
  have r3 := KR5.out 3 _ rfl
  have g3 := OR5.out.2 3
  have r4 := KR5.out 4 _ rfl
  have g4 := OR5.out.2 4
  have r5 := KR5.out 5 _ rfl
  have g5 := OR5.out.2 5
  go_wp2_with fail
  change bodyPost _ _ _ Exit.ret _ (setN w5 br 0 [.int .i64 p0, .int .i64 p1, .int .i64 p2, .slice x1 i1 j1, .slice x2 i2 j2, .slice x3 i3 j3])
  have HB : BoxAt br [.int .i64 p0, .int .i64 p1, .int .i64 p2, .slice x1 i1 j1, .slice x2 i2 j2, .slice x3 i3 j3] (setN w5 br 0 [.int .i64 p0, .int .i64 p1, .int .i64 p2, .slice x1 i1 j1, .slice x2 i2 j2, .slice x3 i3 j3]) := setN_box [.int .i64 p0, .int .i64 p1, .int .i64 p2, .slice x1 i1 j1, .slice x2 i2 j2, .slice x3 i3 j3] 0 _ w5 KR5.out (by simp)
  have HLf := (HU.out.same (setN_same (P := fun q => w4.heap.size ≤ q) (b := br) (fun h => Nat.lt_irrefl _ (Nat.lt_of_lt_of_le OR3.out.1 h)) [.int .i64 p0, .int .i64 p1, .int .i64 p2, .slice x1 i1 j1, .slice x2 i2 j2, .slice x3 i3 j3] 0 w5 (SameOn.refl _ _))).wide (P' := fun q => w.heap.size ≤ q) (fun q _ h => Nat.le_trans B3.out.size h)
  exact bodyPost_ret (v := .agg #[.int .i64 p0, .int .i64 p1, .int .i64 p2, .slice x1 i1 j1, .slice x2 i2 j2, .slice x3 i3 j3]) (by simp [results, Try.results34, go_sem, HB 0 _ rfl, HB 1 _ rfl, HB 2 _ rfl, HB 3 _ rfl, HB 4 _ rfl, HB 5 _ rfl]) rfl ⟨_, _, _, by rw [PQ.out], HLf, setN_below RR.out _ 0 w5 (below_step' B3.out B5.out)⟩
end Go.Proofs.Ytlhclnhdcenkhaa
