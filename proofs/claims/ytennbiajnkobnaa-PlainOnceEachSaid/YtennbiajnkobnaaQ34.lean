/- Texts put together. -/
import Derived.Test.YtennbiajnkobnaaQ02
import Derived.Test.YtennbiajnkobnaaQ27
import Derived.BigQuiet
import Derived.BigRegion
import Derived.Deep.CutRange
set_option linter.unusedSimpArgs false
set_option linter.unusedVariables false
namespace Go.Proofs.Ytennbiajnkobnaa
open Go.RowKit Go.PlainAid
/-- Lists that are not long. -/
def SmallCf (c : Cf) : Prop := c.states.length ≤ 1000000 ∧ c.links.length ≤ 1000000 ∧ c.sent.length ≤ 1000000 ∧ ∀ m ∈ c.links, m.length ≤ 1000000
theorem set_far3 {w : World} {a : Addr} {v1 v2 v3 u : Value} {b o1 o2 o3 : Nat} (h : b ≠ a.block) (hc : w.cell? a = some u) : (((w.setCell ⟨b, o1, none⟩ v1).setCell ⟨b, o2, none⟩ v2).setCell ⟨b, o3, none⟩ v3).cell? a = some u := set_far (.inl h) (set_far (.inl h) (set_far (.inl h) hc))
/-- A configuration in a box of its own. -/
structure CopR (y0 : World) (c : Cf) (n1 n2 n3 : Nat) (s3 : Value) (wx : World) : Prop where
 ex : ∃ (pb lb : Nat) (aA aN : Option Addr) (cA cN : Nat), s3 = .pointer (some ⟨pb, 0, none⟩) ∧ y0.heap.size ≤ pb ∧ pb < wx.heap.size ∧ BoxAt pb [.slice aA n1 cA, .slice (some ⟨lb, 0, none⟩) n2 n2, .slice aN n3 cN] wx ∧ OpenRow wx pb 1 3 ∧ HoldsL True (fun q => y0.heap.size ≤ q ∧ q ≠ pb) wx [.slice aA n1 cA, .slice (some ⟨lb, 0, none⟩) n2 n2, .slice aN n3 cN] c.d
 bel : Below y0.heap.size y0 wx
theorem box3_at {wl : World} {pb : Nat} {v1 v2 v3 : Value} (hO : OpenRow wl pb 1 3) : BoxAt pb [v1, v2, v3] (((wl.setCell ⟨pb, 0, none⟩ v1).setCell ⟨pb, 1, none⟩ v2).setCell ⟨pb, 2, none⟩ v3) := by
 have hcell : ∀ j, j < 3 → ∃ u, wl.cell? ⟨pb, j, none⟩ = some u := fun j hj => by
  obtain ⟨_, cur, e, hg, hs⟩ := hO
  exact ⟨cur[j]'(by omega), by simp [World.cell?, hg, hs, hj]⟩
 obtain ⟨u0, g0⟩ := hcell 0 (by omega)
 obtain ⟨u1, g1⟩ := hcell 1 (by omega)
 obtain ⟨u2, g2⟩ := hcell 2 (by omega)
 intro i v e
 match i, e with
 | 0, e => simp at e; subst e; exact set_far (.inr (by simp)) (set_far (.inr (by simp)) (set_at g0))
 | 1, e => simp at e; subst e; exact set_far (.inr (by simp)) (set_at (set_far (.inr (by simp)) g1))
 | 2, e => simp at e; subst e; exact set_at (set_far (.inr (by simp)) (set_far (.inr (by simp)) g2))
 | i + 3, e => simp at e
theorem box3_same {P : Nat → Prop} {wl : World} {pb : Nat} {v1 v2 v3 : Value} (h : ¬ P pb) : SameOn P wl (((wl.setCell ⟨pb, 0, none⟩ v1).setCell ⟨pb, 1, none⟩ v2).setCell ⟨pb, 2, none⟩ v3) := (((SameOn.refl _ _).set _ _ h).set _ _ h).set _ _ h
theorem copR_mk {y0 y1 wl : World} {c : Cf} {pb lb n1 n2 n3 : Nat} {aA aN : Option Addr} {cA cN : Nat} {P1 P2 P3 : Nat → Prop} (hsz : y0.heap.size = y1.heap.size) (hbel : Below y0.heap.size y0 wl) (hp : y1.heap.size ≤ pb) (hO : OpenRow wl pb 1 3)
  (h1 : Holds True P1 wl (.slice aA n1 cA) (dInts c.states)) (h2 : Holds True P2 wl (.slice (some ⟨lb, 0, none⟩) n2 n2) (dLls c.links)) (h3 : Holds True P3 wl (.slice aN n3 cN) (dInts c.sent))
  (q1 : ∀ k, P1 k → y1.heap.size ≤ k ∧ k ≠ pb) (q2 : ∀ k, P2 k → y1.heap.size ≤ k ∧ k ≠ pb) (q3 : ∀ k, P3 k → y1.heap.size ≤ k ∧ k ≠ pb) (d12 : ∀ k, P1 k → ¬ P2 k) (d13 : ∀ k, P1 k → ¬ P3 k) (d23 : ∀ k, P2 k → ¬ P3 k) :
  CopR y0 c n1 n2 n3 (.pointer (some ⟨pb, 0, none⟩)) (((wl.setCell ⟨pb, 0, none⟩ (.slice aA n1 cA)).setCell ⟨pb, 1, none⟩ (.slice (some ⟨lb, 0, none⟩) n2 n2)).setCell ⟨pb, 2, none⟩ (.slice aN n3 cN)) := by
 have hlt : pb < wl.heap.size := by obtain ⟨_, cur, e, hg, _⟩ := hO; exact (Array.getElem?_eq_some_iff.1 hg).1
 refine ⟨⟨pb, lb, aA, aN, cA, cN, rfl, by omega, by simpa using hlt, ?_, ((hO.set _ _).set _ _).set _ _, ?_⟩, ((hbel.setCell (by show y0.heap.size ≤ pb; omega) _).setCell (by show y0.heap.size ≤ pb; omega) _).setCell (by show y0.heap.size ≤ pb; omega) _⟩
 ·exact box3_at hO
 ·exact (cf_mkL h1 h2 h3 (fun k h => ⟨by have := (q1 k h).1; omega, (q1 k h).2⟩) (fun k h => ⟨by have := (q2 k h).1; omega, (q2 k h).2⟩) (fun k h => ⟨by have := (q3 k h).1; omega, (q3 k h).2⟩) d12 d13 d23).same ((((SameOn.refl _ _).set _ _ (fun h => h.2 rfl)).set _ _ (fun h => h.2 rfl)).set _ _ (fun h => h.2 rfl))
theorem take_rep {ls : List Lks} {j n : Nat} {m : Lks} (hj : j < n) (hm : n = ls.length ∧ ls[j]? = some m) : ls.take (j + 1) ++ List.replicate (n - (j + 1)) [] = (ls.take j ++ List.replicate (n - j) []).set j m := by
 obtain ⟨hn, hm⟩ := hm
 have hl : (ls.take j).length = j := by simp; omega
 rw [show n - j = (n - (j + 1)) + 1 by omega, List.replicate_succ, List.set_append_right _ _ (by omega), hl, Nat.sub_self, List.set_cons_zero, List.take_add_one, hm]
 simp
theorem repL_at {ls : List Lks} {j n : Nat} (hj : j < n) (hn : n = ls.length) : (ls.take j ++ List.replicate (n - j) [])[j]? = some [] := by
 have hl : (ls.take j).length = j := by simp; omega
 rw [List.getElem?_append_right (by omega), hl, Nat.sub_self, List.getElem?_replicate, if_pos (by omega)]
/-- What copied tells. -/
def Copied (c : Cf) (w : World) (e : Ending) (w' : World) : Prop := ∃ u1 u2 u3, e = .returned (.agg #[u1, u2, u3]) ∧ HoldsL True (fresh w) w' [u1, u2, u3] c.d ∧ Below w.heap.size w w'
set_option maxHeartbeats 8000000 in
set_option maxRecDepth 100000 in
theorem copied_at (c : Cf) (v1 v2 v3 : Value) (w : World) (h : HasL w [v1, v2, v3] c.d) (hsm : SmallCf c) :
  Calls Try.prog 33 #[.agg #[v1, v2, v3]] w fun e w' => Copied c w e w' := by
 obtain ⟨h1, h2, h3⟩ := cf_has h
 obtain ⟨a1, e1, e⟩ := slice_of h1
 subst e
 obtain ⟨a2, e2, e⟩ := slice_of h2
 subst e
 obtain ⟨a3, e3, e⟩ := slice_of h3
 subst e
 obtain ⟨n1, hn1⟩ : ∃ n, n = c.states.length := ⟨_, rfl⟩
 obtain ⟨n2, hnn2⟩ : ∃ n, n = c.links.length := ⟨_, rfl⟩
 obtain ⟨n3, hn3⟩ : ∃ n, n = c.sent.length := ⟨_, rfl⟩
 rw [← hn1] at h1
 rw [← hnn2] at h2
 rw [← hn3] at h3
 obtain ⟨hs1, hs2, hs3, hs4⟩ := hsm
 have hn2 : n2 ≤ 1000000 := by omega
 have HS := Lib.hid h1
 have HL := Lib.hid h2
 have HN := Lib.hid h3
 have N1 := Lib.hid hn1
 have N2 := Lib.hid hnn2
 have N3 := Lib.hid hn3
 have SM4 := Lib.hid hs4
 have hmk := make_lls n2 hn2
 rw [← hn1, ← hnn2, ← hn3]
 clear h h1 h2 h3 hn1 hnn2 hn3 hs2 hs4
 go_enter Try.func33, Try.ntmps33
 try simp only [List.append_eq, List.cons_append, List.nil_append]
 go_upto_region 1 with fail
 obtain ⟨y0, hy0⟩ : ∃ y, y = (w.alloc (.cells #[.slice a1 n1 e1, .slice a2 n2 e2, .slice a3 n3 e3] 31)).alloc (.cells #[.slice none 0 0, .slice none 0 0, .slice none 0 0] 31) := ⟨_, rfl⟩
 have hb0 : Below w.heap.size w y0 := by rw [hy0]; exact below_step' (below_new _ _) (below_new _ _)
 have hx0 : BoxAt w.heap.size [.slice a1 n1 e1, .slice a2 n2 e2, .slice a3 n3 e3] y0 := by rw [hy0]; exact (boxAt_new w [.slice a1 n1 e1, .slice a2 n2 e2, .slice a3 n3 e3] _).below (below_new _ _)
 have hx1 : BoxAt (w.heap.size + 1) [.slice none 0 0, .slice none 0 0, .slice none 0 0] y0 := by
  have h := boxAt_new (w.alloc (.cells #[.slice a1 n1 e1, .slice a2 n2 e2, .slice a3 n3 e3] 31)) [.slice none 0 0, .slice none 0 0, .slice none 0 0] 31
  rw [size_alloc] at h
  rw [hy0]; exact h
 have ho1 : OpenRow y0 (w.heap.size + 1) 1 3 := by
  have h := heap_alloc_new (w.alloc (.cells #[.slice a1 n1 e1, .slice a2 n2 e2, .slice a3 n3 e3] 31)) (.cells #[.slice none 0 0, .slice none 0 0, .slice none 0 0] 31)
  rw [size_alloc] at h
  rw [hy0]; exact ⟨by decide, _, _, h, rfl⟩
 have Y0z : Hid (w.heap.size + 2 ≤ y0.heap.size) := Lib.hid (by rw [hy0]; simp)
 have B0 := Lib.hid hb0
 have X0 := Lib.hid hx0
 have X1 := Lib.hid hx1
 have O1 := Lib.hid ho1
 replace HS := Lib.hid (HS.out.later hb0)
 replace HL := Lib.hid (HL.out.later hb0)
 replace HN := Lib.hid (HN.out.later hb0)
 rw [← hy0]
 clear hy0 hb0 hx0 hx1 ho1
 have QY : Hid (∀ w', Below y0.heap.size y0 w' → w'.cell? ⟨w.heap.size, 0, none⟩ = some (.slice a1 n1 e1) ∧ w'.cell? ⟨w.heap.size, 1, none⟩ = some (.slice a2 n2 e2) ∧ w'.cell? ⟨w.heap.size, 2, none⟩ = some (.slice a3 n3 e3)) := Lib.hid (fun w' hb => ⟨X0.out.below hb 0 _ rfl, X0.out.below hb 1 _ rfl, X0.out.below hb 2 _ rfl⟩)
 go_cut [3] from 6 to 16 (fun s3 wx => CopR y0 ⟨c.states, List.replicate n2 [], c.sent⟩ n1 n2 n3 s3 wx)
 case first =>
  refine wp_region_held_drew (S := (fun w' => w'.cell? ⟨w.heap.size, 0, none⟩ = some (.slice a1 n1 e1) ∧ w'.cell? ⟨w.heap.size, 1, none⟩ = some (.slice a2 n2 e2) ∧ w'.cell? ⟨w.heap.size, 2, none⟩ = some (.slice a3 n3 e3))) (by kernel_rfl) ?_ (fun hHeld => ?_)
  ·exact QY.out _ (below_drewN (Below.refl _ y0) 1)
  obtain ⟨y1, hy1⟩ : ∃ y, y = y0.drew := ⟨_, rfl⟩
  have HY := Lib.hid (show Below y0.heap.size y0 y1 from by rw [hy1]; exact below_drewN (Below.refl _ y0) 1)
  have hsy : y0.heap.size = y1.heap.size := by rw [hy1]; rfl
  rw [← hy1] at hHeld ⊢
  clear hy1
  have HSZ := Lib.hid hsy
  have hsz : w.heap.size + 2 ≤ y1.heap.size := by rw [← hsy]; exact Y0z.out
  clear hsy
  have BBy := Lib.hid (Below.refl y1.heap.size y1)
  replace HS := Lib.hid (HS.out.later HY.out)
  replace HN := Lib.hid (HN.out.later HY.out)
  have QS : Hid (∀ w', Below y1.heap.size y1 w' → w'.cell? ⟨w.heap.size, 0, none⟩ = some (.slice a1 n1 e1) ∧ w'.cell? ⟨w.heap.size, 1, none⟩ = some (.slice a2 n2 e2) ∧ w'.cell? ⟨w.heap.size, 2, none⟩ = some (.slice a3 n3 e3)) := Lib.hid (fun w' hb => QY.out _ (below_step' HY.out hb))
  refine tq 0 ?_
  refine tq 1 ?_
  refine tq 3 ?_
  refine tq 4 ?_
  refine tq 5 ?_
  refine tq 7 ?_
  refine tq 8 ?_
  refine wpAnyH_ready (rs := [2, 6, 11]) (by kernel_rfl) (by simp) ?_
  refine AllReadyH.cons rfl (fun K hK => ?_) (AllReadyH.cons rfl (fun K hK => ?_) (AllReadyH.cons rfl (fun K hK => ?_) AllReadyH.nil))
  ·go_simp
   refine (listInts_at c.states _ _ (HS.out.later BBy.out) hs1).mono ?_
   rintro e wA ⟨u, rfl, hu, hb⟩
   obtain ⟨aA, cA, e⟩ := slice_of hu.weak
   subst e
   rw [← N1.out] at hu ⊢
   have RA := Lib.hid (hu.wide (P' := fun q => y1.heap.size ≤ q ∧ q < wA.heap.size) (fun q hq h => ⟨h, hq⟩))
   have GA := Lib.hid hb
   have BBA := Lib.hid (below_step' BBy.out hb)
   have SZA := hb.size
   clear hu hb
   go_wp2_with fail
   refine hK.out _ _ ?_ (fun hHeld => ?_)
   ·exact QS.out _ BBA.out
   clear hK K
   try simp only [Act.put, List.getElem_toArray, List.getElem_cons_zero, List.getElem_cons_succ, List.setIfInBounds_toArray, List.set_cons_zero, List.set_cons_succ]
   refine wpAnyH_ready (rs := [6, 9, 11]) (by kernel_rfl) (by simp) ?_
   refine AllReadyH.cons rfl (fun K hK => ?_) (AllReadyH.cons rfl (fun K hK => ?_) (AllReadyH.cons rfl (fun K hK => ?_) AllReadyH.nil))
   ·go_simp
    obtain ⟨wM, hwM⟩ : ∃ x, x = wA.alloc (.cells (madeCells #[.slice none 0 0] n2) 51) := ⟨_, rfl⟩
    have RM := Lib.hid (show Holds True (fun q => q = wA.heap.size) wM (.slice (some ⟨wA.heap.size, 0, none⟩) n2 n2) (dLls (List.replicate n2 [])) from by rw [hwM]; exact made_lls n2 hn2 wA)
    have GM := Lib.hid (show Below wA.heap.size wA wM from by rw [hwM]; exact below_new _ _)
    have BBM := Lib.hid (below_step' BBA.out (show Below wA.heap.size wA wM from by rw [hwM]; exact below_new _ _))
    have SZM : wA.heap.size + 1 ≤ wM.heap.size := by rw [hwM]; simp
    rw [← hwM]
    clear hwM
    refine hK.out _ _ ?_ (fun hHeld => ?_)
    ·exact QS.out _ BBM.out
    clear hK K
    try simp only [Act.put, List.getElem_toArray, List.getElem_cons_zero, List.getElem_cons_succ, List.setIfInBounds_toArray, List.set_cons_zero, List.set_cons_succ]
    refine wpAnyH_ready (rs := [9, 11]) (by kernel_rfl) (by simp) ?_
    refine AllReadyH.cons rfl (fun K hK => ?_) (AllReadyH.cons rfl (fun K hK => ?_) AllReadyH.nil)
    ·go_simp
     refine (listInts_at c.sent _ _ (HN.out.later BBM.out) hs3).mono ?_
     rintro e wN ⟨u, rfl, hu, hb⟩
     obtain ⟨aN, cN, e⟩ := slice_of hu.weak
     subst e
     rw [← N3.out] at hu ⊢
     have RN := Lib.hid (hu.wide (P' := fun q => wM.heap.size ≤ q ∧ q < wN.heap.size) (fun q hq h => ⟨h, hq⟩))
     have GN := Lib.hid hb
     have BBN := Lib.hid (below_step' BBM.out hb)
     have SZN := hb.size
     clear hu hb
     go_wp2_with fail
     refine hK.out _ _ ?_ (fun hHeld => ?_)
     ·exact QS.out _ BBN.out
     clear hK K
     try simp only [Act.put, List.getElem_toArray, List.getElem_cons_zero, List.getElem_cons_succ, List.setIfInBounds_toArray, List.set_cons_zero, List.set_cons_succ]
     refine tq 10 ?_
     refine rd 11 fun K hK => ?_
     go_simp
     obtain ⟨wX, hwX⟩ : ∃ x, x = wN.alloc (.cells #[.slice none 0 0, .slice none 0 0, .slice none 0 0] 31) := ⟨_, rfl⟩
     have BX := Lib.hid (show BoxAt wN.heap.size [.slice none 0 0, .slice none 0 0, .slice none 0 0] wX from by rw [hwX]; exact boxAt_new wN [.slice none 0 0, .slice none 0 0, .slice none 0 0] _)
     have OX : Hid (OpenRow wX wN.heap.size 1 3) := Lib.hid (by rw [hwX]; exact ⟨by decide, _, _, heap_alloc_new wN _, rfl⟩)
     have GX := Lib.hid (show Below wN.heap.size wN wX from by rw [hwX]; exact below_new _ _)
     have BBX := Lib.hid (below_step' BBN.out (show Below wN.heap.size wN wX from by rw [hwX]; exact below_new _ _))
     have SZX : wN.heap.size + 1 ≤ wX.heap.size := by rw [hwX]; simp
     rw [← hwX]
     clear hwX
     refine hK.out _ _ ?_ (fun hHeld => ?_)
     ·exact QS.out _ BBX.out
     clear hK K
     try simp only [Act.put, List.getElem_toArray, List.getElem_cons_zero, List.getElem_cons_succ, List.setIfInBounds_toArray, List.set_cons_zero, List.set_cons_succ]
     refine rd 12 fun K hK => ?_
     have hO := OX.out.same (SameOn.of_below (P := fun _ => True) (Below.refl _ wX)) trivial (by omega)
     have hB := BX.out.below (Below.refl _ wX)
     have k0 := hB 0 _ rfl
     have k1 := hB 1 _ rfl
     have k2 := hB 2 _ rfl
     have f0 := hO.frozen 0
     have f1 := hO.frozen 1
     have f2 := hO.frozen 2
     have HO := Lib.hid hO
     clear hB hO
     go_simp
     clear k0 k1 k2 f0 f1 f2
     refine hK.out _ _ ?_ (fun hHeld => ?_)
     ·exact (by have h := QS.out _ BBX.out; exact ⟨set_far3 (by have := BBy.out.size; show wN.heap.size ≠ w.heap.size; omega) h.1, set_far3 (by have := BBy.out.size; show wN.heap.size ≠ w.heap.size; omega) h.2.1, set_far3 (by have := BBy.out.size; show wN.heap.size ≠ w.heap.size; omega) h.2.2⟩)
     clear hK K
     try simp only [Act.put, List.getElem_toArray, List.getElem_cons_zero, List.getElem_cons_succ, List.setIfInBounds_toArray, List.set_cons_zero, List.set_cons_succ]
     refine wpAnyH_done (by kernel_rfl) ?_ _
     go_wp2_with fail
     go_meet
     exact copR_mk (pb := wN.heap.size) HSZ.out (below_step' HY.out BBX.out) (by omega) HO.out (RA.out.later (below_step' (below_step' (below_step' (Below.refl _ wA) GM.out) GN.out) GX.out)) (RM.out.later (below_step' (below_step' (Below.refl _ wM) GN.out) GX.out)) (RN.out.later (below_step' (Below.refl _ wN) GX.out)) (fun k a => ⟨by omega, by omega⟩) (fun k a => ⟨by omega, by omega⟩) (fun k a => ⟨by omega, by omega⟩) (fun k a b => by omega) (fun k a b => by omega) (fun k a b => by omega)
    ·go_simp
     obtain ⟨wX, hwX⟩ : ∃ x, x = wM.alloc (.cells #[.slice none 0 0, .slice none 0 0, .slice none 0 0] 31) := ⟨_, rfl⟩
     have BX := Lib.hid (show BoxAt wM.heap.size [.slice none 0 0, .slice none 0 0, .slice none 0 0] wX from by rw [hwX]; exact boxAt_new wM [.slice none 0 0, .slice none 0 0, .slice none 0 0] _)
     have OX : Hid (OpenRow wX wM.heap.size 1 3) := Lib.hid (by rw [hwX]; exact ⟨by decide, _, _, heap_alloc_new wM _, rfl⟩)
     have GX := Lib.hid (show Below wM.heap.size wM wX from by rw [hwX]; exact below_new _ _)
     have BBX := Lib.hid (below_step' BBM.out (show Below wM.heap.size wM wX from by rw [hwX]; exact below_new _ _))
     have SZX : wM.heap.size + 1 ≤ wX.heap.size := by rw [hwX]; simp
     rw [← hwX]
     clear hwX
     refine hK.out _ _ ?_ (fun hHeld => ?_)
     ·exact QS.out _ BBX.out
     clear hK K
     try simp only [Act.put, List.getElem_toArray, List.getElem_cons_zero, List.getElem_cons_succ, List.setIfInBounds_toArray, List.set_cons_zero, List.set_cons_succ]
     refine rd 9 fun K hK => ?_
     go_simp
     refine (listInts_at c.sent _ _ (HN.out.later BBX.out) hs3).mono ?_
     rintro e wN ⟨u, rfl, hu, hb⟩
     obtain ⟨aN, cN, e⟩ := slice_of hu.weak
     subst e
     rw [← N3.out] at hu ⊢
     have RN := Lib.hid (hu.wide (P' := fun q => wX.heap.size ≤ q ∧ q < wN.heap.size) (fun q hq h => ⟨h, hq⟩))
     have GN := Lib.hid hb
     have BBN := Lib.hid (below_step' BBX.out hb)
     have SZN := hb.size
     clear hu hb
     go_wp2_with fail
     refine hK.out _ _ ?_ (fun hHeld => ?_)
     ·exact QS.out _ BBN.out
     clear hK K
     try simp only [Act.put, List.getElem_toArray, List.getElem_cons_zero, List.getElem_cons_succ, List.setIfInBounds_toArray, List.set_cons_zero, List.set_cons_succ]
     refine tq 10 ?_
     refine rd 12 fun K hK => ?_
     have hO := OX.out.same (SameOn.of_below (P := fun _ => True) (below_step' (Below.refl _ wX) GN.out)) trivial (by omega)
     have hB := BX.out.below (below_step' (Below.refl _ wX) GN.out)
     have k0 := hB 0 _ rfl
     have k1 := hB 1 _ rfl
     have k2 := hB 2 _ rfl
     have f0 := hO.frozen 0
     have f1 := hO.frozen 1
     have f2 := hO.frozen 2
     have HO := Lib.hid hO
     clear hB hO
     go_simp
     clear k0 k1 k2 f0 f1 f2
     refine hK.out _ _ ?_ (fun hHeld => ?_)
     ·exact (by have h := QS.out _ BBN.out; exact ⟨set_far3 (by have := BBy.out.size; show wM.heap.size ≠ w.heap.size; omega) h.1, set_far3 (by have := BBy.out.size; show wM.heap.size ≠ w.heap.size; omega) h.2.1, set_far3 (by have := BBy.out.size; show wM.heap.size ≠ w.heap.size; omega) h.2.2⟩)
     clear hK K
     try simp only [Act.put, List.getElem_toArray, List.getElem_cons_zero, List.getElem_cons_succ, List.setIfInBounds_toArray, List.set_cons_zero, List.set_cons_succ]
     refine wpAnyH_done (by kernel_rfl) ?_ _
     go_wp2_with fail
     go_meet
     exact copR_mk (pb := wM.heap.size) HSZ.out (below_step' HY.out BBN.out) (by omega) HO.out (RA.out.later (below_step' (below_step' (below_step' (Below.refl _ wA) GM.out) GX.out) GN.out)) (RM.out.later (below_step' (below_step' (Below.refl _ wM) GX.out) GN.out)) (RN.out.later (Below.refl _ wN)) (fun k a => ⟨by omega, by omega⟩) (fun k a => ⟨by omega, by omega⟩) (fun k a => ⟨by omega, by omega⟩) (fun k a b => by omega) (fun k a b => by omega) (fun k a b => by omega)
   ·go_simp
    refine (listInts_at c.sent _ _ (HN.out.later BBA.out) hs3).mono ?_
    rintro e wN ⟨u, rfl, hu, hb⟩
    obtain ⟨aN, cN, e⟩ := slice_of hu.weak
    subst e
    rw [← N3.out] at hu ⊢
    have RN := Lib.hid (hu.wide (P' := fun q => wA.heap.size ≤ q ∧ q < wN.heap.size) (fun q hq h => ⟨h, hq⟩))
    have GN := Lib.hid hb
    have BBN := Lib.hid (below_step' BBA.out hb)
    have SZN := hb.size
    clear hu hb
    go_wp2_with fail
    refine hK.out _ _ ?_ (fun hHeld => ?_)
    ·exact QS.out _ BBN.out
    clear hK K
    try simp only [Act.put, List.getElem_toArray, List.getElem_cons_zero, List.getElem_cons_succ, List.setIfInBounds_toArray, List.set_cons_zero, List.set_cons_succ]
    refine wpAnyH_ready (rs := [6, 11]) (by kernel_rfl) (by simp) ?_
    refine AllReadyH.cons rfl (fun K hK => ?_) (AllReadyH.cons rfl (fun K hK => ?_) AllReadyH.nil)
    ·go_simp
     obtain ⟨wM, hwM⟩ : ∃ x, x = wN.alloc (.cells (madeCells #[.slice none 0 0] n2) 51) := ⟨_, rfl⟩
     have RM := Lib.hid (show Holds True (fun q => q = wN.heap.size) wM (.slice (some ⟨wN.heap.size, 0, none⟩) n2 n2) (dLls (List.replicate n2 [])) from by rw [hwM]; exact made_lls n2 hn2 wN)
     have GM := Lib.hid (show Below wN.heap.size wN wM from by rw [hwM]; exact below_new _ _)
     have BBM := Lib.hid (below_step' BBN.out (show Below wN.heap.size wN wM from by rw [hwM]; exact below_new _ _))
     have SZM : wN.heap.size + 1 ≤ wM.heap.size := by rw [hwM]; simp
     rw [← hwM]
     clear hwM
     refine hK.out _ _ ?_ (fun hHeld => ?_)
     ·exact QS.out _ BBM.out
     clear hK K
     try simp only [Act.put, List.getElem_toArray, List.getElem_cons_zero, List.getElem_cons_succ, List.setIfInBounds_toArray, List.set_cons_zero, List.set_cons_succ]
     refine tq 10 ?_
     refine rd 11 fun K hK => ?_
     go_simp
     obtain ⟨wX, hwX⟩ : ∃ x, x = wM.alloc (.cells #[.slice none 0 0, .slice none 0 0, .slice none 0 0] 31) := ⟨_, rfl⟩
     have BX := Lib.hid (show BoxAt wM.heap.size [.slice none 0 0, .slice none 0 0, .slice none 0 0] wX from by rw [hwX]; exact boxAt_new wM [.slice none 0 0, .slice none 0 0, .slice none 0 0] _)
     have OX : Hid (OpenRow wX wM.heap.size 1 3) := Lib.hid (by rw [hwX]; exact ⟨by decide, _, _, heap_alloc_new wM _, rfl⟩)
     have GX := Lib.hid (show Below wM.heap.size wM wX from by rw [hwX]; exact below_new _ _)
     have BBX := Lib.hid (below_step' BBM.out (show Below wM.heap.size wM wX from by rw [hwX]; exact below_new _ _))
     have SZX : wM.heap.size + 1 ≤ wX.heap.size := by rw [hwX]; simp
     rw [← hwX]
     clear hwX
     refine hK.out _ _ ?_ (fun hHeld => ?_)
     ·exact QS.out _ BBX.out
     clear hK K
     try simp only [Act.put, List.getElem_toArray, List.getElem_cons_zero, List.getElem_cons_succ, List.setIfInBounds_toArray, List.set_cons_zero, List.set_cons_succ]
     refine rd 12 fun K hK => ?_
     have hO := OX.out.same (SameOn.of_below (P := fun _ => True) (Below.refl _ wX)) trivial (by omega)
     have hB := BX.out.below (Below.refl _ wX)
     have k0 := hB 0 _ rfl
     have k1 := hB 1 _ rfl
     have k2 := hB 2 _ rfl
     have f0 := hO.frozen 0
     have f1 := hO.frozen 1
     have f2 := hO.frozen 2
     have HO := Lib.hid hO
     clear hB hO
     go_simp
     clear k0 k1 k2 f0 f1 f2
     refine hK.out _ _ ?_ (fun hHeld => ?_)
     ·exact (by have h := QS.out _ BBX.out; exact ⟨set_far3 (by have := BBy.out.size; show wM.heap.size ≠ w.heap.size; omega) h.1, set_far3 (by have := BBy.out.size; show wM.heap.size ≠ w.heap.size; omega) h.2.1, set_far3 (by have := BBy.out.size; show wM.heap.size ≠ w.heap.size; omega) h.2.2⟩)
     clear hK K
     try simp only [Act.put, List.getElem_toArray, List.getElem_cons_zero, List.getElem_cons_succ, List.setIfInBounds_toArray, List.set_cons_zero, List.set_cons_succ]
     refine wpAnyH_done (by kernel_rfl) ?_ _
     go_wp2_with fail
     go_meet
     exact copR_mk (pb := wM.heap.size) HSZ.out (below_step' HY.out BBX.out) (by omega) HO.out (RA.out.later (below_step' (below_step' (below_step' (Below.refl _ wA) GN.out) GM.out) GX.out)) (RM.out.later (below_step' (Below.refl _ wM) GX.out)) (RN.out.later (below_step' (below_step' (Below.refl _ wN) GM.out) GX.out)) (fun k a => ⟨by omega, by omega⟩) (fun k a => ⟨by omega, by omega⟩) (fun k a => ⟨by omega, by omega⟩) (fun k a b => by omega) (fun k a b => by omega) (fun k a b => by omega)
    ·go_simp
     obtain ⟨wX, hwX⟩ : ∃ x, x = wN.alloc (.cells #[.slice none 0 0, .slice none 0 0, .slice none 0 0] 31) := ⟨_, rfl⟩
     have BX := Lib.hid (show BoxAt wN.heap.size [.slice none 0 0, .slice none 0 0, .slice none 0 0] wX from by rw [hwX]; exact boxAt_new wN [.slice none 0 0, .slice none 0 0, .slice none 0 0] _)
     have OX : Hid (OpenRow wX wN.heap.size 1 3) := Lib.hid (by rw [hwX]; exact ⟨by decide, _, _, heap_alloc_new wN _, rfl⟩)
     have GX := Lib.hid (show Below wN.heap.size wN wX from by rw [hwX]; exact below_new _ _)
     have BBX := Lib.hid (below_step' BBN.out (show Below wN.heap.size wN wX from by rw [hwX]; exact below_new _ _))
     have SZX : wN.heap.size + 1 ≤ wX.heap.size := by rw [hwX]; simp
     rw [← hwX]
     clear hwX
     refine hK.out _ _ ?_ (fun hHeld => ?_)
     ·exact QS.out _ BBX.out
     clear hK K
     try simp only [Act.put, List.getElem_toArray, List.getElem_cons_zero, List.getElem_cons_succ, List.setIfInBounds_toArray, List.set_cons_zero, List.set_cons_succ]
     refine rd 6 fun K hK => ?_
     go_simp
     obtain ⟨wM, hwM⟩ : ∃ x, x = wX.alloc (.cells (madeCells #[.slice none 0 0] n2) 51) := ⟨_, rfl⟩
     have RM := Lib.hid (show Holds True (fun q => q = wX.heap.size) wM (.slice (some ⟨wX.heap.size, 0, none⟩) n2 n2) (dLls (List.replicate n2 [])) from by rw [hwM]; exact made_lls n2 hn2 wX)
     have GM := Lib.hid (show Below wX.heap.size wX wM from by rw [hwM]; exact below_new _ _)
     have BBM := Lib.hid (below_step' BBX.out (show Below wX.heap.size wX wM from by rw [hwM]; exact below_new _ _))
     have SZM : wX.heap.size + 1 ≤ wM.heap.size := by rw [hwM]; simp
     rw [← hwM]
     clear hwM
     refine hK.out _ _ ?_ (fun hHeld => ?_)
     ·exact QS.out _ BBM.out
     clear hK K
     try simp only [Act.put, List.getElem_toArray, List.getElem_cons_zero, List.getElem_cons_succ, List.setIfInBounds_toArray, List.set_cons_zero, List.set_cons_succ]
     refine tq 10 ?_
     refine rd 12 fun K hK => ?_
     have hO := OX.out.same (SameOn.of_below (P := fun _ => True) (below_step' (Below.refl _ wX) GM.out)) trivial (by omega)
     have hB := BX.out.below (below_step' (Below.refl _ wX) GM.out)
     have k0 := hB 0 _ rfl
     have k1 := hB 1 _ rfl
     have k2 := hB 2 _ rfl
     have f0 := hO.frozen 0
     have f1 := hO.frozen 1
     have f2 := hO.frozen 2
     have HO := Lib.hid hO
     clear hB hO
     go_simp
     clear k0 k1 k2 f0 f1 f2
     refine hK.out _ _ ?_ (fun hHeld => ?_)
     ·exact (by have h := QS.out _ BBM.out; exact ⟨set_far3 (by have := BBy.out.size; show wN.heap.size ≠ w.heap.size; omega) h.1, set_far3 (by have := BBy.out.size; show wN.heap.size ≠ w.heap.size; omega) h.2.1, set_far3 (by have := BBy.out.size; show wN.heap.size ≠ w.heap.size; omega) h.2.2⟩)
     clear hK K
     try simp only [Act.put, List.getElem_toArray, List.getElem_cons_zero, List.getElem_cons_succ, List.setIfInBounds_toArray, List.set_cons_zero, List.set_cons_succ]
     refine wpAnyH_done (by kernel_rfl) ?_ _
     go_wp2_with fail
     go_meet
     exact copR_mk (pb := wN.heap.size) HSZ.out (below_step' HY.out BBM.out) (by omega) HO.out (RA.out.later (below_step' (below_step' (below_step' (Below.refl _ wA) GN.out) GX.out) GM.out)) (RM.out.later (Below.refl _ wM)) (RN.out.later (below_step' (below_step' (Below.refl _ wN) GX.out) GM.out)) (fun k a => ⟨by omega, by omega⟩) (fun k a => ⟨by omega, by omega⟩) (fun k a => ⟨by omega, by omega⟩) (fun k a b => by omega) (fun k a b => by omega) (fun k a b => by omega)
   ·go_simp
    obtain ⟨wX, hwX⟩ : ∃ x, x = wA.alloc (.cells #[.slice none 0 0, .slice none 0 0, .slice none 0 0] 31) := ⟨_, rfl⟩
    have BX := Lib.hid (show BoxAt wA.heap.size [.slice none 0 0, .slice none 0 0, .slice none 0 0] wX from by rw [hwX]; exact boxAt_new wA [.slice none 0 0, .slice none 0 0, .slice none 0 0] _)
    have OX : Hid (OpenRow wX wA.heap.size 1 3) := Lib.hid (by rw [hwX]; exact ⟨by decide, _, _, heap_alloc_new wA _, rfl⟩)
    have GX := Lib.hid (show Below wA.heap.size wA wX from by rw [hwX]; exact below_new _ _)
    have BBX := Lib.hid (below_step' BBA.out (show Below wA.heap.size wA wX from by rw [hwX]; exact below_new _ _))
    have SZX : wA.heap.size + 1 ≤ wX.heap.size := by rw [hwX]; simp
    rw [← hwX]
    clear hwX
    refine hK.out _ _ ?_ (fun hHeld => ?_)
    ·exact QS.out _ BBX.out
    clear hK K
    try simp only [Act.put, List.getElem_toArray, List.getElem_cons_zero, List.getElem_cons_succ, List.setIfInBounds_toArray, List.set_cons_zero, List.set_cons_succ]
    refine wpAnyH_ready (rs := [6, 9]) (by kernel_rfl) (by simp) ?_
    refine AllReadyH.cons rfl (fun K hK => ?_) (AllReadyH.cons rfl (fun K hK => ?_) AllReadyH.nil)
    ·go_simp
     obtain ⟨wM, hwM⟩ : ∃ x, x = wX.alloc (.cells (madeCells #[.slice none 0 0] n2) 51) := ⟨_, rfl⟩
     have RM := Lib.hid (show Holds True (fun q => q = wX.heap.size) wM (.slice (some ⟨wX.heap.size, 0, none⟩) n2 n2) (dLls (List.replicate n2 [])) from by rw [hwM]; exact made_lls n2 hn2 wX)
     have GM := Lib.hid (show Below wX.heap.size wX wM from by rw [hwM]; exact below_new _ _)
     have BBM := Lib.hid (below_step' BBX.out (show Below wX.heap.size wX wM from by rw [hwM]; exact below_new _ _))
     have SZM : wX.heap.size + 1 ≤ wM.heap.size := by rw [hwM]; simp
     rw [← hwM]
     clear hwM
     refine hK.out _ _ ?_ (fun hHeld => ?_)
     ·exact QS.out _ BBM.out
     clear hK K
     try simp only [Act.put, List.getElem_toArray, List.getElem_cons_zero, List.getElem_cons_succ, List.setIfInBounds_toArray, List.set_cons_zero, List.set_cons_succ]
     refine rd 9 fun K hK => ?_
     go_simp
     refine (listInts_at c.sent _ _ (HN.out.later BBM.out) hs3).mono ?_
     rintro e wN ⟨u, rfl, hu, hb⟩
     obtain ⟨aN, cN, e⟩ := slice_of hu.weak
     subst e
     rw [← N3.out] at hu ⊢
     have RN := Lib.hid (hu.wide (P' := fun q => wM.heap.size ≤ q ∧ q < wN.heap.size) (fun q hq h => ⟨h, hq⟩))
     have GN := Lib.hid hb
     have BBN := Lib.hid (below_step' BBM.out hb)
     have SZN := hb.size
     clear hu hb
     go_wp2_with fail
     refine hK.out _ _ ?_ (fun hHeld => ?_)
     ·exact QS.out _ BBN.out
     clear hK K
     try simp only [Act.put, List.getElem_toArray, List.getElem_cons_zero, List.getElem_cons_succ, List.setIfInBounds_toArray, List.set_cons_zero, List.set_cons_succ]
     refine tq 10 ?_
     refine rd 12 fun K hK => ?_
     have hO := OX.out.same (SameOn.of_below (P := fun _ => True) (below_step' (below_step' (Below.refl _ wX) GM.out) GN.out)) trivial (by omega)
     have hB := BX.out.below (below_step' (below_step' (Below.refl _ wX) GM.out) GN.out)
     have k0 := hB 0 _ rfl
     have k1 := hB 1 _ rfl
     have k2 := hB 2 _ rfl
     have f0 := hO.frozen 0
     have f1 := hO.frozen 1
     have f2 := hO.frozen 2
     have HO := Lib.hid hO
     clear hB hO
     go_simp
     clear k0 k1 k2 f0 f1 f2
     refine hK.out _ _ ?_ (fun hHeld => ?_)
     ·exact (by have h := QS.out _ BBN.out; exact ⟨set_far3 (by have := BBy.out.size; show wA.heap.size ≠ w.heap.size; omega) h.1, set_far3 (by have := BBy.out.size; show wA.heap.size ≠ w.heap.size; omega) h.2.1, set_far3 (by have := BBy.out.size; show wA.heap.size ≠ w.heap.size; omega) h.2.2⟩)
     clear hK K
     try simp only [Act.put, List.getElem_toArray, List.getElem_cons_zero, List.getElem_cons_succ, List.setIfInBounds_toArray, List.set_cons_zero, List.set_cons_succ]
     refine wpAnyH_done (by kernel_rfl) ?_ _
     go_wp2_with fail
     go_meet
     exact copR_mk (pb := wA.heap.size) HSZ.out (below_step' HY.out BBN.out) (by omega) HO.out (RA.out.later (below_step' (below_step' (below_step' (Below.refl _ wA) GX.out) GM.out) GN.out)) (RM.out.later (below_step' (Below.refl _ wM) GN.out)) (RN.out.later (Below.refl _ wN)) (fun k a => ⟨by omega, by omega⟩) (fun k a => ⟨by omega, by omega⟩) (fun k a => ⟨by omega, by omega⟩) (fun k a b => by omega) (fun k a b => by omega) (fun k a b => by omega)
    ·go_simp
     refine (listInts_at c.sent _ _ (HN.out.later BBX.out) hs3).mono ?_
     rintro e wN ⟨u, rfl, hu, hb⟩
     obtain ⟨aN, cN, e⟩ := slice_of hu.weak
     subst e
     rw [← N3.out] at hu ⊢
     have RN := Lib.hid (hu.wide (P' := fun q => wX.heap.size ≤ q ∧ q < wN.heap.size) (fun q hq h => ⟨h, hq⟩))
     have GN := Lib.hid hb
     have BBN := Lib.hid (below_step' BBX.out hb)
     have SZN := hb.size
     clear hu hb
     go_wp2_with fail
     refine hK.out _ _ ?_ (fun hHeld => ?_)
     ·exact QS.out _ BBN.out
     clear hK K
     try simp only [Act.put, List.getElem_toArray, List.getElem_cons_zero, List.getElem_cons_succ, List.setIfInBounds_toArray, List.set_cons_zero, List.set_cons_succ]
     refine rd 6 fun K hK => ?_
     go_simp
     obtain ⟨wM, hwM⟩ : ∃ x, x = wN.alloc (.cells (madeCells #[.slice none 0 0] n2) 51) := ⟨_, rfl⟩
     have RM := Lib.hid (show Holds True (fun q => q = wN.heap.size) wM (.slice (some ⟨wN.heap.size, 0, none⟩) n2 n2) (dLls (List.replicate n2 [])) from by rw [hwM]; exact made_lls n2 hn2 wN)
     have GM := Lib.hid (show Below wN.heap.size wN wM from by rw [hwM]; exact below_new _ _)
     have BBM := Lib.hid (below_step' BBN.out (show Below wN.heap.size wN wM from by rw [hwM]; exact below_new _ _))
     have SZM : wN.heap.size + 1 ≤ wM.heap.size := by rw [hwM]; simp
     rw [← hwM]
     clear hwM
     refine hK.out _ _ ?_ (fun hHeld => ?_)
     ·exact QS.out _ BBM.out
     clear hK K
     try simp only [Act.put, List.getElem_toArray, List.getElem_cons_zero, List.getElem_cons_succ, List.setIfInBounds_toArray, List.set_cons_zero, List.set_cons_succ]
     refine tq 10 ?_
     refine rd 12 fun K hK => ?_
     have hO := OX.out.same (SameOn.of_below (P := fun _ => True) (below_step' (below_step' (Below.refl _ wX) GN.out) GM.out)) trivial (by omega)
     have hB := BX.out.below (below_step' (below_step' (Below.refl _ wX) GN.out) GM.out)
     have k0 := hB 0 _ rfl
     have k1 := hB 1 _ rfl
     have k2 := hB 2 _ rfl
     have f0 := hO.frozen 0
     have f1 := hO.frozen 1
     have f2 := hO.frozen 2
     have HO := Lib.hid hO
     clear hB hO
     go_simp
     clear k0 k1 k2 f0 f1 f2
     refine hK.out _ _ ?_ (fun hHeld => ?_)
     ·exact (by have h := QS.out _ BBM.out; exact ⟨set_far3 (by have := BBy.out.size; show wA.heap.size ≠ w.heap.size; omega) h.1, set_far3 (by have := BBy.out.size; show wA.heap.size ≠ w.heap.size; omega) h.2.1, set_far3 (by have := BBy.out.size; show wA.heap.size ≠ w.heap.size; omega) h.2.2⟩)
     clear hK K
     try simp only [Act.put, List.getElem_toArray, List.getElem_cons_zero, List.getElem_cons_succ, List.setIfInBounds_toArray, List.set_cons_zero, List.set_cons_succ]
     refine wpAnyH_done (by kernel_rfl) ?_ _
     go_wp2_with fail
     go_meet
     exact copR_mk (pb := wA.heap.size) HSZ.out (below_step' HY.out BBM.out) (by omega) HO.out (RA.out.later (below_step' (below_step' (below_step' (Below.refl _ wA) GX.out) GN.out) GM.out)) (RM.out.later (Below.refl _ wM)) (RN.out.later (below_step' (Below.refl _ wN) GM.out)) (fun k a => ⟨by omega, by omega⟩) (fun k a => ⟨by omega, by omega⟩) (fun k a => ⟨by omega, by omega⟩) (fun k a b => by omega) (fun k a b => by omega) (fun k a b => by omega)
  ·go_simp
   obtain ⟨wM, hwM⟩ : ∃ x, x = y1.alloc (.cells (madeCells #[.slice none 0 0] n2) 51) := ⟨_, rfl⟩
   have RM := Lib.hid (show Holds True (fun q => q = y1.heap.size) wM (.slice (some ⟨y1.heap.size, 0, none⟩) n2 n2) (dLls (List.replicate n2 [])) from by rw [hwM]; exact made_lls n2 hn2 y1)
   have GM := Lib.hid (show Below y1.heap.size y1 wM from by rw [hwM]; exact below_new _ _)
   have BBM := Lib.hid (below_step' BBy.out (show Below y1.heap.size y1 wM from by rw [hwM]; exact below_new _ _))
   have SZM : y1.heap.size + 1 ≤ wM.heap.size := by rw [hwM]; simp
   rw [← hwM]
   clear hwM
   refine hK.out _ _ ?_ (fun hHeld => ?_)
   ·exact QS.out _ BBM.out
   clear hK K
   try simp only [Act.put, List.getElem_toArray, List.getElem_cons_zero, List.getElem_cons_succ, List.setIfInBounds_toArray, List.set_cons_zero, List.set_cons_succ]
   refine wpAnyH_ready (rs := [2, 11]) (by kernel_rfl) (by simp) ?_
   refine AllReadyH.cons rfl (fun K hK => ?_) (AllReadyH.cons rfl (fun K hK => ?_) AllReadyH.nil)
   ·go_simp
    refine (listInts_at c.states _ _ (HS.out.later BBM.out) hs1).mono ?_
    rintro e wA ⟨u, rfl, hu, hb⟩
    obtain ⟨aA, cA, e⟩ := slice_of hu.weak
    subst e
    rw [← N1.out] at hu ⊢
    have RA := Lib.hid (hu.wide (P' := fun q => wM.heap.size ≤ q ∧ q < wA.heap.size) (fun q hq h => ⟨h, hq⟩))
    have GA := Lib.hid hb
    have BBA := Lib.hid (below_step' BBM.out hb)
    have SZA := hb.size
    clear hu hb
    go_wp2_with fail
    refine hK.out _ _ ?_ (fun hHeld => ?_)
    ·exact QS.out _ BBA.out
    clear hK K
    try simp only [Act.put, List.getElem_toArray, List.getElem_cons_zero, List.getElem_cons_succ, List.setIfInBounds_toArray, List.set_cons_zero, List.set_cons_succ]
    refine wpAnyH_ready (rs := [9, 11]) (by kernel_rfl) (by simp) ?_
    refine AllReadyH.cons rfl (fun K hK => ?_) (AllReadyH.cons rfl (fun K hK => ?_) AllReadyH.nil)
    ·go_simp
     refine (listInts_at c.sent _ _ (HN.out.later BBA.out) hs3).mono ?_
     rintro e wN ⟨u, rfl, hu, hb⟩
     obtain ⟨aN, cN, e⟩ := slice_of hu.weak
     subst e
     rw [← N3.out] at hu ⊢
     have RN := Lib.hid (hu.wide (P' := fun q => wA.heap.size ≤ q ∧ q < wN.heap.size) (fun q hq h => ⟨h, hq⟩))
     have GN := Lib.hid hb
     have BBN := Lib.hid (below_step' BBA.out hb)
     have SZN := hb.size
     clear hu hb
     go_wp2_with fail
     refine hK.out _ _ ?_ (fun hHeld => ?_)
     ·exact QS.out _ BBN.out
     clear hK K
     try simp only [Act.put, List.getElem_toArray, List.getElem_cons_zero, List.getElem_cons_succ, List.setIfInBounds_toArray, List.set_cons_zero, List.set_cons_succ]
     refine tq 10 ?_
     refine rd 11 fun K hK => ?_
     go_simp
     obtain ⟨wX, hwX⟩ : ∃ x, x = wN.alloc (.cells #[.slice none 0 0, .slice none 0 0, .slice none 0 0] 31) := ⟨_, rfl⟩
     have BX := Lib.hid (show BoxAt wN.heap.size [.slice none 0 0, .slice none 0 0, .slice none 0 0] wX from by rw [hwX]; exact boxAt_new wN [.slice none 0 0, .slice none 0 0, .slice none 0 0] _)
     have OX : Hid (OpenRow wX wN.heap.size 1 3) := Lib.hid (by rw [hwX]; exact ⟨by decide, _, _, heap_alloc_new wN _, rfl⟩)
     have GX := Lib.hid (show Below wN.heap.size wN wX from by rw [hwX]; exact below_new _ _)
     have BBX := Lib.hid (below_step' BBN.out (show Below wN.heap.size wN wX from by rw [hwX]; exact below_new _ _))
     have SZX : wN.heap.size + 1 ≤ wX.heap.size := by rw [hwX]; simp
     rw [← hwX]
     clear hwX
     refine hK.out _ _ ?_ (fun hHeld => ?_)
     ·exact QS.out _ BBX.out
     clear hK K
     try simp only [Act.put, List.getElem_toArray, List.getElem_cons_zero, List.getElem_cons_succ, List.setIfInBounds_toArray, List.set_cons_zero, List.set_cons_succ]
     refine rd 12 fun K hK => ?_
     have hO := OX.out.same (SameOn.of_below (P := fun _ => True) (Below.refl _ wX)) trivial (by omega)
     have hB := BX.out.below (Below.refl _ wX)
     have k0 := hB 0 _ rfl
     have k1 := hB 1 _ rfl
     have k2 := hB 2 _ rfl
     have f0 := hO.frozen 0
     have f1 := hO.frozen 1
     have f2 := hO.frozen 2
     have HO := Lib.hid hO
     clear hB hO
     go_simp
     clear k0 k1 k2 f0 f1 f2
     refine hK.out _ _ ?_ (fun hHeld => ?_)
     ·exact (by have h := QS.out _ BBX.out; exact ⟨set_far3 (by have := BBy.out.size; show wN.heap.size ≠ w.heap.size; omega) h.1, set_far3 (by have := BBy.out.size; show wN.heap.size ≠ w.heap.size; omega) h.2.1, set_far3 (by have := BBy.out.size; show wN.heap.size ≠ w.heap.size; omega) h.2.2⟩)
     clear hK K
     try simp only [Act.put, List.getElem_toArray, List.getElem_cons_zero, List.getElem_cons_succ, List.setIfInBounds_toArray, List.set_cons_zero, List.set_cons_succ]
     refine wpAnyH_done (by kernel_rfl) ?_ _
     go_wp2_with fail
     go_meet
     exact copR_mk (pb := wN.heap.size) HSZ.out (below_step' HY.out BBX.out) (by omega) HO.out (RA.out.later (below_step' (below_step' (Below.refl _ wA) GN.out) GX.out)) (RM.out.later (below_step' (below_step' (below_step' (Below.refl _ wM) GA.out) GN.out) GX.out)) (RN.out.later (below_step' (Below.refl _ wN) GX.out)) (fun k a => ⟨by omega, by omega⟩) (fun k a => ⟨by omega, by omega⟩) (fun k a => ⟨by omega, by omega⟩) (fun k a b => by omega) (fun k a b => by omega) (fun k a b => by omega)
    ·go_simp
     obtain ⟨wX, hwX⟩ : ∃ x, x = wA.alloc (.cells #[.slice none 0 0, .slice none 0 0, .slice none 0 0] 31) := ⟨_, rfl⟩
     have BX := Lib.hid (show BoxAt wA.heap.size [.slice none 0 0, .slice none 0 0, .slice none 0 0] wX from by rw [hwX]; exact boxAt_new wA [.slice none 0 0, .slice none 0 0, .slice none 0 0] _)
     have OX : Hid (OpenRow wX wA.heap.size 1 3) := Lib.hid (by rw [hwX]; exact ⟨by decide, _, _, heap_alloc_new wA _, rfl⟩)
     have GX := Lib.hid (show Below wA.heap.size wA wX from by rw [hwX]; exact below_new _ _)
     have BBX := Lib.hid (below_step' BBA.out (show Below wA.heap.size wA wX from by rw [hwX]; exact below_new _ _))
     have SZX : wA.heap.size + 1 ≤ wX.heap.size := by rw [hwX]; simp
     rw [← hwX]
     clear hwX
     refine hK.out _ _ ?_ (fun hHeld => ?_)
     ·exact QS.out _ BBX.out
     clear hK K
     try simp only [Act.put, List.getElem_toArray, List.getElem_cons_zero, List.getElem_cons_succ, List.setIfInBounds_toArray, List.set_cons_zero, List.set_cons_succ]
     refine rd 9 fun K hK => ?_
     go_simp
     refine (listInts_at c.sent _ _ (HN.out.later BBX.out) hs3).mono ?_
     rintro e wN ⟨u, rfl, hu, hb⟩
     obtain ⟨aN, cN, e⟩ := slice_of hu.weak
     subst e
     rw [← N3.out] at hu ⊢
     have RN := Lib.hid (hu.wide (P' := fun q => wX.heap.size ≤ q ∧ q < wN.heap.size) (fun q hq h => ⟨h, hq⟩))
     have GN := Lib.hid hb
     have BBN := Lib.hid (below_step' BBX.out hb)
     have SZN := hb.size
     clear hu hb
     go_wp2_with fail
     refine hK.out _ _ ?_ (fun hHeld => ?_)
     ·exact QS.out _ BBN.out
     clear hK K
     try simp only [Act.put, List.getElem_toArray, List.getElem_cons_zero, List.getElem_cons_succ, List.setIfInBounds_toArray, List.set_cons_zero, List.set_cons_succ]
     refine tq 10 ?_
     refine rd 12 fun K hK => ?_
     have hO := OX.out.same (SameOn.of_below (P := fun _ => True) (below_step' (Below.refl _ wX) GN.out)) trivial (by omega)
     have hB := BX.out.below (below_step' (Below.refl _ wX) GN.out)
     have k0 := hB 0 _ rfl
     have k1 := hB 1 _ rfl
     have k2 := hB 2 _ rfl
     have f0 := hO.frozen 0
     have f1 := hO.frozen 1
     have f2 := hO.frozen 2
     have HO := Lib.hid hO
     clear hB hO
     go_simp
     clear k0 k1 k2 f0 f1 f2
     refine hK.out _ _ ?_ (fun hHeld => ?_)
     ·exact (by have h := QS.out _ BBN.out; exact ⟨set_far3 (by have := BBy.out.size; show wA.heap.size ≠ w.heap.size; omega) h.1, set_far3 (by have := BBy.out.size; show wA.heap.size ≠ w.heap.size; omega) h.2.1, set_far3 (by have := BBy.out.size; show wA.heap.size ≠ w.heap.size; omega) h.2.2⟩)
     clear hK K
     try simp only [Act.put, List.getElem_toArray, List.getElem_cons_zero, List.getElem_cons_succ, List.setIfInBounds_toArray, List.set_cons_zero, List.set_cons_succ]
     refine wpAnyH_done (by kernel_rfl) ?_ _
     go_wp2_with fail
     go_meet
     exact copR_mk (pb := wA.heap.size) HSZ.out (below_step' HY.out BBN.out) (by omega) HO.out (RA.out.later (below_step' (below_step' (Below.refl _ wA) GX.out) GN.out)) (RM.out.later (below_step' (below_step' (below_step' (Below.refl _ wM) GA.out) GX.out) GN.out)) (RN.out.later (Below.refl _ wN)) (fun k a => ⟨by omega, by omega⟩) (fun k a => ⟨by omega, by omega⟩) (fun k a => ⟨by omega, by omega⟩) (fun k a b => by omega) (fun k a b => by omega) (fun k a b => by omega)
   ·go_simp
    obtain ⟨wX, hwX⟩ : ∃ x, x = wM.alloc (.cells #[.slice none 0 0, .slice none 0 0, .slice none 0 0] 31) := ⟨_, rfl⟩
    have BX := Lib.hid (show BoxAt wM.heap.size [.slice none 0 0, .slice none 0 0, .slice none 0 0] wX from by rw [hwX]; exact boxAt_new wM [.slice none 0 0, .slice none 0 0, .slice none 0 0] _)
    have OX : Hid (OpenRow wX wM.heap.size 1 3) := Lib.hid (by rw [hwX]; exact ⟨by decide, _, _, heap_alloc_new wM _, rfl⟩)
    have GX := Lib.hid (show Below wM.heap.size wM wX from by rw [hwX]; exact below_new _ _)
    have BBX := Lib.hid (below_step' BBM.out (show Below wM.heap.size wM wX from by rw [hwX]; exact below_new _ _))
    have SZX : wM.heap.size + 1 ≤ wX.heap.size := by rw [hwX]; simp
    rw [← hwX]
    clear hwX
    refine hK.out _ _ ?_ (fun hHeld => ?_)
    ·exact QS.out _ BBX.out
    clear hK K
    try simp only [Act.put, List.getElem_toArray, List.getElem_cons_zero, List.getElem_cons_succ, List.setIfInBounds_toArray, List.set_cons_zero, List.set_cons_succ]
    refine rd 2 fun K hK => ?_
    go_simp
    refine (listInts_at c.states _ _ (HS.out.later BBX.out) hs1).mono ?_
    rintro e wA ⟨u, rfl, hu, hb⟩
    obtain ⟨aA, cA, e⟩ := slice_of hu.weak
    subst e
    rw [← N1.out] at hu ⊢
    have RA := Lib.hid (hu.wide (P' := fun q => wX.heap.size ≤ q ∧ q < wA.heap.size) (fun q hq h => ⟨h, hq⟩))
    have GA := Lib.hid hb
    have BBA := Lib.hid (below_step' BBX.out hb)
    have SZA := hb.size
    clear hu hb
    go_wp2_with fail
    refine hK.out _ _ ?_ (fun hHeld => ?_)
    ·exact QS.out _ BBA.out
    clear hK K
    try simp only [Act.put, List.getElem_toArray, List.getElem_cons_zero, List.getElem_cons_succ, List.setIfInBounds_toArray, List.set_cons_zero, List.set_cons_succ]
    refine rd 9 fun K hK => ?_
    go_simp
    refine (listInts_at c.sent _ _ (HN.out.later BBA.out) hs3).mono ?_
    rintro e wN ⟨u, rfl, hu, hb⟩
    obtain ⟨aN, cN, e⟩ := slice_of hu.weak
    subst e
    rw [← N3.out] at hu ⊢
    have RN := Lib.hid (hu.wide (P' := fun q => wA.heap.size ≤ q ∧ q < wN.heap.size) (fun q hq h => ⟨h, hq⟩))
    have GN := Lib.hid hb
    have BBN := Lib.hid (below_step' BBA.out hb)
    have SZN := hb.size
    clear hu hb
    go_wp2_with fail
    refine hK.out _ _ ?_ (fun hHeld => ?_)
    ·exact QS.out _ BBN.out
    clear hK K
    try simp only [Act.put, List.getElem_toArray, List.getElem_cons_zero, List.getElem_cons_succ, List.setIfInBounds_toArray, List.set_cons_zero, List.set_cons_succ]
    refine tq 10 ?_
    refine rd 12 fun K hK => ?_
    have hO := OX.out.same (SameOn.of_below (P := fun _ => True) (below_step' (below_step' (Below.refl _ wX) GA.out) GN.out)) trivial (by omega)
    have hB := BX.out.below (below_step' (below_step' (Below.refl _ wX) GA.out) GN.out)
    have k0 := hB 0 _ rfl
    have k1 := hB 1 _ rfl
    have k2 := hB 2 _ rfl
    have f0 := hO.frozen 0
    have f1 := hO.frozen 1
    have f2 := hO.frozen 2
    have HO := Lib.hid hO
    clear hB hO
    go_simp
    clear k0 k1 k2 f0 f1 f2
    refine hK.out _ _ ?_ (fun hHeld => ?_)
    ·exact (by have h := QS.out _ BBN.out; exact ⟨set_far3 (by have := BBy.out.size; show wM.heap.size ≠ w.heap.size; omega) h.1, set_far3 (by have := BBy.out.size; show wM.heap.size ≠ w.heap.size; omega) h.2.1, set_far3 (by have := BBy.out.size; show wM.heap.size ≠ w.heap.size; omega) h.2.2⟩)
    clear hK K
    try simp only [Act.put, List.getElem_toArray, List.getElem_cons_zero, List.getElem_cons_succ, List.setIfInBounds_toArray, List.set_cons_zero, List.set_cons_succ]
    refine wpAnyH_done (by kernel_rfl) ?_ _
    go_wp2_with fail
    go_meet
    exact copR_mk (pb := wM.heap.size) HSZ.out (below_step' HY.out BBN.out) (by omega) HO.out (RA.out.later (below_step' (Below.refl _ wA) GN.out)) (RM.out.later (below_step' (below_step' (below_step' (Below.refl _ wM) GX.out) GA.out) GN.out)) (RN.out.later (Below.refl _ wN)) (fun k a => ⟨by omega, by omega⟩) (fun k a => ⟨by omega, by omega⟩) (fun k a => ⟨by omega, by omega⟩) (fun k a b => by omega) (fun k a b => by omega) (fun k a b => by omega)
  ·go_simp
   obtain ⟨wX, hwX⟩ : ∃ x, x = y1.alloc (.cells #[.slice none 0 0, .slice none 0 0, .slice none 0 0] 31) := ⟨_, rfl⟩
   have BX := Lib.hid (show BoxAt y1.heap.size [.slice none 0 0, .slice none 0 0, .slice none 0 0] wX from by rw [hwX]; exact boxAt_new y1 [.slice none 0 0, .slice none 0 0, .slice none 0 0] _)
   have OX : Hid (OpenRow wX y1.heap.size 1 3) := Lib.hid (by rw [hwX]; exact ⟨by decide, _, _, heap_alloc_new y1 _, rfl⟩)
   have GX := Lib.hid (show Below y1.heap.size y1 wX from by rw [hwX]; exact below_new _ _)
   have BBX := Lib.hid (below_step' BBy.out (show Below y1.heap.size y1 wX from by rw [hwX]; exact below_new _ _))
   have SZX : y1.heap.size + 1 ≤ wX.heap.size := by rw [hwX]; simp
   rw [← hwX]
   clear hwX
   refine hK.out _ _ ?_ (fun hHeld => ?_)
   ·exact QS.out _ BBX.out
   clear hK K
   try simp only [Act.put, List.getElem_toArray, List.getElem_cons_zero, List.getElem_cons_succ, List.setIfInBounds_toArray, List.set_cons_zero, List.set_cons_succ]
   refine wpAnyH_ready (rs := [2, 6]) (by kernel_rfl) (by simp) ?_
   refine AllReadyH.cons rfl (fun K hK => ?_) (AllReadyH.cons rfl (fun K hK => ?_) AllReadyH.nil)
   ·go_simp
    refine (listInts_at c.states _ _ (HS.out.later BBX.out) hs1).mono ?_
    rintro e wA ⟨u, rfl, hu, hb⟩
    obtain ⟨aA, cA, e⟩ := slice_of hu.weak
    subst e
    rw [← N1.out] at hu ⊢
    have RA := Lib.hid (hu.wide (P' := fun q => wX.heap.size ≤ q ∧ q < wA.heap.size) (fun q hq h => ⟨h, hq⟩))
    have GA := Lib.hid hb
    have BBA := Lib.hid (below_step' BBX.out hb)
    have SZA := hb.size
    clear hu hb
    go_wp2_with fail
    refine hK.out _ _ ?_ (fun hHeld => ?_)
    ·exact QS.out _ BBA.out
    clear hK K
    try simp only [Act.put, List.getElem_toArray, List.getElem_cons_zero, List.getElem_cons_succ, List.setIfInBounds_toArray, List.set_cons_zero, List.set_cons_succ]
    refine wpAnyH_ready (rs := [6, 9]) (by kernel_rfl) (by simp) ?_
    refine AllReadyH.cons rfl (fun K hK => ?_) (AllReadyH.cons rfl (fun K hK => ?_) AllReadyH.nil)
    ·go_simp
     obtain ⟨wM, hwM⟩ : ∃ x, x = wA.alloc (.cells (madeCells #[.slice none 0 0] n2) 51) := ⟨_, rfl⟩
     have RM := Lib.hid (show Holds True (fun q => q = wA.heap.size) wM (.slice (some ⟨wA.heap.size, 0, none⟩) n2 n2) (dLls (List.replicate n2 [])) from by rw [hwM]; exact made_lls n2 hn2 wA)
     have GM := Lib.hid (show Below wA.heap.size wA wM from by rw [hwM]; exact below_new _ _)
     have BBM := Lib.hid (below_step' BBA.out (show Below wA.heap.size wA wM from by rw [hwM]; exact below_new _ _))
     have SZM : wA.heap.size + 1 ≤ wM.heap.size := by rw [hwM]; simp
     rw [← hwM]
     clear hwM
     refine hK.out _ _ ?_ (fun hHeld => ?_)
     ·exact QS.out _ BBM.out
     clear hK K
     try simp only [Act.put, List.getElem_toArray, List.getElem_cons_zero, List.getElem_cons_succ, List.setIfInBounds_toArray, List.set_cons_zero, List.set_cons_succ]
     refine rd 9 fun K hK => ?_
     go_simp
     refine (listInts_at c.sent _ _ (HN.out.later BBM.out) hs3).mono ?_
     rintro e wN ⟨u, rfl, hu, hb⟩
     obtain ⟨aN, cN, e⟩ := slice_of hu.weak
     subst e
     rw [← N3.out] at hu ⊢
     have RN := Lib.hid (hu.wide (P' := fun q => wM.heap.size ≤ q ∧ q < wN.heap.size) (fun q hq h => ⟨h, hq⟩))
     have GN := Lib.hid hb
     have BBN := Lib.hid (below_step' BBM.out hb)
     have SZN := hb.size
     clear hu hb
     go_wp2_with fail
     refine hK.out _ _ ?_ (fun hHeld => ?_)
     ·exact QS.out _ BBN.out
     clear hK K
     try simp only [Act.put, List.getElem_toArray, List.getElem_cons_zero, List.getElem_cons_succ, List.setIfInBounds_toArray, List.set_cons_zero, List.set_cons_succ]
     refine tq 10 ?_
     refine rd 12 fun K hK => ?_
     have hO := OX.out.same (SameOn.of_below (P := fun _ => True) (below_step' (below_step' (below_step' (Below.refl _ wX) GA.out) GM.out) GN.out)) trivial (by omega)
     have hB := BX.out.below (below_step' (below_step' (below_step' (Below.refl _ wX) GA.out) GM.out) GN.out)
     have k0 := hB 0 _ rfl
     have k1 := hB 1 _ rfl
     have k2 := hB 2 _ rfl
     have f0 := hO.frozen 0
     have f1 := hO.frozen 1
     have f2 := hO.frozen 2
     have HO := Lib.hid hO
     clear hB hO
     go_simp
     clear k0 k1 k2 f0 f1 f2
     refine hK.out _ _ ?_ (fun hHeld => ?_)
     ·exact (by have h := QS.out _ BBN.out; exact ⟨set_far3 (by have := BBy.out.size; show y1.heap.size ≠ w.heap.size; omega) h.1, set_far3 (by have := BBy.out.size; show y1.heap.size ≠ w.heap.size; omega) h.2.1, set_far3 (by have := BBy.out.size; show y1.heap.size ≠ w.heap.size; omega) h.2.2⟩)
     clear hK K
     try simp only [Act.put, List.getElem_toArray, List.getElem_cons_zero, List.getElem_cons_succ, List.setIfInBounds_toArray, List.set_cons_zero, List.set_cons_succ]
     refine wpAnyH_done (by kernel_rfl) ?_ _
     go_wp2_with fail
     go_meet
     exact copR_mk (pb := y1.heap.size) HSZ.out (below_step' HY.out BBN.out) (by omega) HO.out (RA.out.later (below_step' (below_step' (Below.refl _ wA) GM.out) GN.out)) (RM.out.later (below_step' (Below.refl _ wM) GN.out)) (RN.out.later (Below.refl _ wN)) (fun k a => ⟨by omega, by omega⟩) (fun k a => ⟨by omega, by omega⟩) (fun k a => ⟨by omega, by omega⟩) (fun k a b => by omega) (fun k a b => by omega) (fun k a b => by omega)
    ·go_simp
     refine (listInts_at c.sent _ _ (HN.out.later BBA.out) hs3).mono ?_
     rintro e wN ⟨u, rfl, hu, hb⟩
     obtain ⟨aN, cN, e⟩ := slice_of hu.weak
     subst e
     rw [← N3.out] at hu ⊢
     have RN := Lib.hid (hu.wide (P' := fun q => wA.heap.size ≤ q ∧ q < wN.heap.size) (fun q hq h => ⟨h, hq⟩))
     have GN := Lib.hid hb
     have BBN := Lib.hid (below_step' BBA.out hb)
     have SZN := hb.size
     clear hu hb
     go_wp2_with fail
     refine hK.out _ _ ?_ (fun hHeld => ?_)
     ·exact QS.out _ BBN.out
     clear hK K
     try simp only [Act.put, List.getElem_toArray, List.getElem_cons_zero, List.getElem_cons_succ, List.setIfInBounds_toArray, List.set_cons_zero, List.set_cons_succ]
     refine rd 6 fun K hK => ?_
     go_simp
     obtain ⟨wM, hwM⟩ : ∃ x, x = wN.alloc (.cells (madeCells #[.slice none 0 0] n2) 51) := ⟨_, rfl⟩
     have RM := Lib.hid (show Holds True (fun q => q = wN.heap.size) wM (.slice (some ⟨wN.heap.size, 0, none⟩) n2 n2) (dLls (List.replicate n2 [])) from by rw [hwM]; exact made_lls n2 hn2 wN)
     have GM := Lib.hid (show Below wN.heap.size wN wM from by rw [hwM]; exact below_new _ _)
     have BBM := Lib.hid (below_step' BBN.out (show Below wN.heap.size wN wM from by rw [hwM]; exact below_new _ _))
     have SZM : wN.heap.size + 1 ≤ wM.heap.size := by rw [hwM]; simp
     rw [← hwM]
     clear hwM
     refine hK.out _ _ ?_ (fun hHeld => ?_)
     ·exact QS.out _ BBM.out
     clear hK K
     try simp only [Act.put, List.getElem_toArray, List.getElem_cons_zero, List.getElem_cons_succ, List.setIfInBounds_toArray, List.set_cons_zero, List.set_cons_succ]
     refine tq 10 ?_
     refine rd 12 fun K hK => ?_
     have hO := OX.out.same (SameOn.of_below (P := fun _ => True) (below_step' (below_step' (below_step' (Below.refl _ wX) GA.out) GN.out) GM.out)) trivial (by omega)
     have hB := BX.out.below (below_step' (below_step' (below_step' (Below.refl _ wX) GA.out) GN.out) GM.out)
     have k0 := hB 0 _ rfl
     have k1 := hB 1 _ rfl
     have k2 := hB 2 _ rfl
     have f0 := hO.frozen 0
     have f1 := hO.frozen 1
     have f2 := hO.frozen 2
     have HO := Lib.hid hO
     clear hB hO
     go_simp
     clear k0 k1 k2 f0 f1 f2
     refine hK.out _ _ ?_ (fun hHeld => ?_)
     ·exact (by have h := QS.out _ BBM.out; exact ⟨set_far3 (by have := BBy.out.size; show y1.heap.size ≠ w.heap.size; omega) h.1, set_far3 (by have := BBy.out.size; show y1.heap.size ≠ w.heap.size; omega) h.2.1, set_far3 (by have := BBy.out.size; show y1.heap.size ≠ w.heap.size; omega) h.2.2⟩)
     clear hK K
     try simp only [Act.put, List.getElem_toArray, List.getElem_cons_zero, List.getElem_cons_succ, List.setIfInBounds_toArray, List.set_cons_zero, List.set_cons_succ]
     refine wpAnyH_done (by kernel_rfl) ?_ _
     go_wp2_with fail
     go_meet
     exact copR_mk (pb := y1.heap.size) HSZ.out (below_step' HY.out BBM.out) (by omega) HO.out (RA.out.later (below_step' (below_step' (Below.refl _ wA) GN.out) GM.out)) (RM.out.later (Below.refl _ wM)) (RN.out.later (below_step' (Below.refl _ wN) GM.out)) (fun k a => ⟨by omega, by omega⟩) (fun k a => ⟨by omega, by omega⟩) (fun k a => ⟨by omega, by omega⟩) (fun k a b => by omega) (fun k a b => by omega) (fun k a b => by omega)
   ·go_simp
    obtain ⟨wM, hwM⟩ : ∃ x, x = wX.alloc (.cells (madeCells #[.slice none 0 0] n2) 51) := ⟨_, rfl⟩
    have RM := Lib.hid (show Holds True (fun q => q = wX.heap.size) wM (.slice (some ⟨wX.heap.size, 0, none⟩) n2 n2) (dLls (List.replicate n2 [])) from by rw [hwM]; exact made_lls n2 hn2 wX)
    have GM := Lib.hid (show Below wX.heap.size wX wM from by rw [hwM]; exact below_new _ _)
    have BBM := Lib.hid (below_step' BBX.out (show Below wX.heap.size wX wM from by rw [hwM]; exact below_new _ _))
    have SZM : wX.heap.size + 1 ≤ wM.heap.size := by rw [hwM]; simp
    rw [← hwM]
    clear hwM
    refine hK.out _ _ ?_ (fun hHeld => ?_)
    ·exact QS.out _ BBM.out
    clear hK K
    try simp only [Act.put, List.getElem_toArray, List.getElem_cons_zero, List.getElem_cons_succ, List.setIfInBounds_toArray, List.set_cons_zero, List.set_cons_succ]
    refine rd 2 fun K hK => ?_
    go_simp
    refine (listInts_at c.states _ _ (HS.out.later BBM.out) hs1).mono ?_
    rintro e wA ⟨u, rfl, hu, hb⟩
    obtain ⟨aA, cA, e⟩ := slice_of hu.weak
    subst e
    rw [← N1.out] at hu ⊢
    have RA := Lib.hid (hu.wide (P' := fun q => wM.heap.size ≤ q ∧ q < wA.heap.size) (fun q hq h => ⟨h, hq⟩))
    have GA := Lib.hid hb
    have BBA := Lib.hid (below_step' BBM.out hb)
    have SZA := hb.size
    clear hu hb
    go_wp2_with fail
    refine hK.out _ _ ?_ (fun hHeld => ?_)
    ·exact QS.out _ BBA.out
    clear hK K
    try simp only [Act.put, List.getElem_toArray, List.getElem_cons_zero, List.getElem_cons_succ, List.setIfInBounds_toArray, List.set_cons_zero, List.set_cons_succ]
    refine rd 9 fun K hK => ?_
    go_simp
    refine (listInts_at c.sent _ _ (HN.out.later BBA.out) hs3).mono ?_
    rintro e wN ⟨u, rfl, hu, hb⟩
    obtain ⟨aN, cN, e⟩ := slice_of hu.weak
    subst e
    rw [← N3.out] at hu ⊢
    have RN := Lib.hid (hu.wide (P' := fun q => wA.heap.size ≤ q ∧ q < wN.heap.size) (fun q hq h => ⟨h, hq⟩))
    have GN := Lib.hid hb
    have BBN := Lib.hid (below_step' BBA.out hb)
    have SZN := hb.size
    clear hu hb
    go_wp2_with fail
    refine hK.out _ _ ?_ (fun hHeld => ?_)
    ·exact QS.out _ BBN.out
    clear hK K
    try simp only [Act.put, List.getElem_toArray, List.getElem_cons_zero, List.getElem_cons_succ, List.setIfInBounds_toArray, List.set_cons_zero, List.set_cons_succ]
    refine tq 10 ?_
    refine rd 12 fun K hK => ?_
    have hO := OX.out.same (SameOn.of_below (P := fun _ => True) (below_step' (below_step' (below_step' (Below.refl _ wX) GM.out) GA.out) GN.out)) trivial (by omega)
    have hB := BX.out.below (below_step' (below_step' (below_step' (Below.refl _ wX) GM.out) GA.out) GN.out)
    have k0 := hB 0 _ rfl
    have k1 := hB 1 _ rfl
    have k2 := hB 2 _ rfl
    have f0 := hO.frozen 0
    have f1 := hO.frozen 1
    have f2 := hO.frozen 2
    have HO := Lib.hid hO
    clear hB hO
    go_simp
    clear k0 k1 k2 f0 f1 f2
    refine hK.out _ _ ?_ (fun hHeld => ?_)
    ·exact (by have h := QS.out _ BBN.out; exact ⟨set_far3 (by have := BBy.out.size; show y1.heap.size ≠ w.heap.size; omega) h.1, set_far3 (by have := BBy.out.size; show y1.heap.size ≠ w.heap.size; omega) h.2.1, set_far3 (by have := BBy.out.size; show y1.heap.size ≠ w.heap.size; omega) h.2.2⟩)
    clear hK K
    try simp only [Act.put, List.getElem_toArray, List.getElem_cons_zero, List.getElem_cons_succ, List.setIfInBounds_toArray, List.set_cons_zero, List.set_cons_succ]
    refine wpAnyH_done (by kernel_rfl) ?_ _
    go_wp2_with fail
    go_meet
    exact copR_mk (pb := y1.heap.size) HSZ.out (below_step' HY.out BBN.out) (by omega) HO.out (RA.out.later (below_step' (Below.refl _ wA) GN.out)) (RM.out.later (below_step' (below_step' (Below.refl _ wM) GA.out) GN.out)) (RN.out.later (Below.refl _ wN)) (fun k a => ⟨by omega, by omega⟩) (fun k a => ⟨by omega, by omega⟩) (fun k a => ⟨by omega, by omega⟩) (fun k a b => by omega) (fun k a b => by omega) (fun k a b => by omega)
 case rest =>
  obtain ⟨⟨pb, lb, aA, aN, cA, cN, rfl, hpb, hpx, hp, hop, hL⟩, hbel⟩ := hcut
  obtain ⟨y2, hy2⟩ : ∃ y, y = wc := ⟨_, rfl⟩
  subst hy2
  have k1 := X0.out.below hbel 1 _ rfl
  have HP2 := Lib.hid hp
  have HO2 := Lib.hid hop
  have HL2 := Lib.hid hL
  have BY2 := Lib.hid hbel
  clear hp hop hL hbel
  go_wp2_with fail
  clear k1
  go_loopw [20] (fun i wr => ∃ j : Nat, i = .int .i64 j ∧ j ≤ n2 ∧ BoxAt pb [.slice aA n1 cA, .slice (some ⟨lb, 0, none⟩) n2 n2, .slice aN n3 cN] wr ∧ HoldsL True (fun q => y0.heap.size ≤ q ∧ q ≠ pb) wr [.slice aA n1 cA, .slice (some ⟨lb, 0, none⟩) n2 n2, .slice aN n3 cN] (Cf.mk c.states (c.links.take j ++ List.replicate (n2 - j) []) c.sent).d ∧ Below y0.heap.size y0 wr) (fun i _ => n2 - (intOf i).toNat)
  case atStart => exact ⟨0, rfl, by omega, HP2.out, by simpa using HL2.out, BY2.out⟩
  case round =>
   obtain ⟨j, rfl, hj, hp1, hL1, hB1⟩ := hrel
   have BY := Lib.hid hB1
   by_cases hj2 : j < n2
   ·have hj2' : (j : Int) < n2 := by omega
    obtain ⟨m, hm⟩ := some_of_lt (l := c.links) (i := j) (by rw [← N2.out]; exact hj2)
    obtain ⟨sb, so, ma, mc, e, _, e9, hcm, hm5⟩ := lls_at (HL.out.later hB1) hm
    clear e9
    subst e
    obtain ⟨ml, hml⟩ : ∃ n, n = m.length := ⟨_, rfl⟩
    rw [← hml] at hcm hm5
    have ML := Lib.hid hml
    have HML : Hid (m.length ≤ 1000000) := Lib.hid (SM4.out m (List.mem_of_getElem? hm))
    have HM5 := Lib.hid hm5
    have HL5 := Lib.hid (hL1.wide (P' := fun q => y0.heap.size ≤ q ∧ q ≠ pb ∧ q < wr.heap.size) (fun q hq h => ⟨h.1, h.2, hq⟩))
    have HLS := Lib.hid (And.intro N2.out hm)
    have HP1 := Lib.hid hp1
    have pw : pb < wr.heap.size := World.block_lt_of_cell? wr _ (hp1 0 _ rfl)
    have yw : y0.heap.size ≤ wr.heap.size := BY.out.size
    clear hml hm5 hL1 hB1 hm
    go_wp2_with fail
    clear hcm
    refine wp_region_held_drew (S := (fun w' => w'.cell? ⟨pb, 1, none⟩ = some (.slice (some ⟨lb, 0, none⟩) n2 n2))) (by kernel_rfl) ?_ (fun hHeld => ?_)
    ·exact hp1.below (below_drewN (Below.refl _ wr) 1) 1 _ rfl
    refine tq 0 ?_
    refine tq 1 ?_
    refine tq 2 ?_
    refine tq 3 ?_
    refine rd 4 fun K hK => ?_
    go_simp
    refine (listMsgs_at m _ _ (HM5.out.later (below_drewN (Below.refl _ wr) 1)) HML.out).mono ?_
    rintro e w4 ⟨u, rfl, hu, hb⟩
    obtain ⟨ua, uc, e⟩ := slice_of hu.weak
    subst e
    rw [← ML.out] at hu ⊢
    have B4 := Lib.hid (below_step' (below_drewN (Below.refl _ wr) 1) hb)
    have RU := Lib.hid (hu.wide (P' := fun q => wr.heap.size ≤ q ∧ q < w4.heap.size) (fun q hq h => ⟨h, hq⟩))
    clear hu hb
    go_wp2_with fail
    refine hK.out _ _ ?_ (fun hHeld => ?_)
    ·exact hp1.below B4.out 1 _ rfl
    clear hK K
    try simp only [Act.put, List.getElem_toArray, List.getElem_cons_zero, List.getElem_cons_succ, List.setIfInBounds_toArray, List.set_cons_zero, List.set_cons_succ]
    refine tq 5 ?_
    refine rd 6 fun K hK => ?_
    obtain ⟨P1, P2, P3, h1, h2, h3, q1, q2, q3, hd⟩ := cf_openL (HL5.out.later B4.out)
    obtain ⟨d12, d13, d23⟩ := hd trivial
    obtain ⟨g, Q, ma', mc', e, e9, hPg, hgl, hc, hO, hQP, hQg, _, hF⟩ := lls_focus (i := j) (m := []) h2 (repL_at hj2 HLS.out.1)
    clear e9
    simp only [Option.some.injEq, Addr.mk.injEq, and_true] at e
    subst e
    have hF2 := hF w4 (.slice ua ml uc) m (fun q => wr.heap.size ≤ q ∧ q < w4.heap.size) (SameOn.refl _ _) RU.out (fun q hq => ⟨fun e => by have := (q2 _ hPg).2.2; omega, .inr (fun h => by have := (q2 _ h).2.2; omega)⟩)
    have hlb : pb ≠ lb := fun e => (q2 _ hPg).2.1 e.symm
    have f0 := hO.frozen j
    have FF := Lib.hid hF2
    have H1 := Lib.hid h1
    have H3 := Lib.hid h3
    have QQ := Lib.hid (And.intro q1 (And.intro q2 (And.intro q3 (And.intro d12 (And.intro d13 d23)))))
    have HPG := Lib.hid hPg
    have HLB := Lib.hid hlb
    have HC4 := Lib.hid (World.block_lt_of_cell? w4 _ hc)
    clear hF hF2 hO h1 h2 h3 q1 q2 q3 hd d12 d13 d23 hPg hgl hQP hQg hlb
    go_simp
    clear hc f0
    refine hK.out _ _ ?_ (fun hHeld => ?_)
    ·exact set_far (.inl (fun e => HLB.out e.symm)) (hp1.below (B4.out) 1 _ rfl)
    clear hK K
    try simp only [Act.put, List.getElem_toArray, List.getElem_cons_zero, List.getElem_cons_succ, List.setIfInBounds_toArray, List.set_cons_zero, List.set_cons_succ]
    refine wpAnyH_done (by kernel_rfl) ?_ _
    go_wp2_with fail
    go_roundw
    case rel => exact ⟨j + 1, by go_num, by omega, fun i v e => set_far (.inl (fun e => HLB.out e.symm)) (hp1.below B4.out i v e), by
     have hq := QQ.out
     rw [take_rep hj2 HLS.out]
     exact cf_mkL (P := fun q => y0.heap.size ≤ q ∧ q ≠ pb) (c := ⟨c.states, (c.links.take j ++ List.replicate (n2 - j) []).set j m, c.sent⟩) (P1 := P1) (P3 := P3) (H1.out.same ((SameOn.refl _ _).set _ _ (fun h => hq.2.2.2.1 _ h HPG.out))) FF.out (H3.out.same ((SameOn.refl _ _).set _ _ (fun h => hq.2.2.2.2.2 _ HPG.out h))) (fun q h => ⟨(hq.1 q h).1, (hq.1 q h).2.1⟩) (fun q h => h.elim (fun h => ⟨(hq.2.1 q h).1, (hq.2.1 q h).2.1⟩) (fun h => ⟨by omega, by omega⟩)) (fun q h => ⟨(hq.2.2.1 q h).1, (hq.2.2.1 q h).2.1⟩) (fun q h h' => h'.elim (fun h' => hq.2.2.2.1 q h h') (fun h' => by have := (hq.1 q h).2.2; omega)) hq.2.2.2.2.1 (fun q h h' => h.elim (fun h => hq.2.2.2.2.2 q h h') (fun h => by have := (hq.2.2.1 q h').2.2; omega)), (below_step' BY.out B4.out).setCell (by have := (QQ.out.2.1 _ HPG.out).1; omega) _⟩
    case measure => simp [intOf]; omega
   ·obtain rfl : n2 = j := by omega
    have hj3 : ¬ (n2 : Int) < (n2 : Int) := by omega
    have x0 := X1.out.below hB1 0 _ rfl
    have x1 := X1.out.below hB1 1 _ rfl
    have x2 := X1.out.below hB1 2 _ rfl
    have hO1 := O1.out.same (SameOn.of_below (P := fun _ => True) hB1) trivial (by have := Y0z.out; omega)
    have f0 := hO1.frozen 0
    have f1 := hO1.frozen 1
    have f2 := hO1.frozen 2
    have p0 := hp1 0 _ rfl
    have p1 := hp1 1 _ rfl
    have p2 := hp1 2 _ rfl
    have he9 : c.links.take n2 ++ List.replicate (n2 - n2) [] = c.links := by rw [Nat.sub_self, N2.out, List.take_length, List.replicate_zero, List.append_nil]
    rw [he9] at hL1
    have HL9 := Lib.hid (show HoldsL True (fun q => y0.heap.size ≤ q ∧ q ≠ pb) wr [.slice aA n1 cA, .slice (some ⟨lb, 0, none⟩) n2 n2, .slice aN n3 cN] c.d from hL1)
    clear he9
    have HO9 := Lib.hid hO1
    clear hL1 hB1 hp1 hO1
    go_wp2_with fail
    obtain ⟨w9, hw9⟩ : ∃ x, x = ((wr.setCell ⟨w.heap.size + 1, 0, none⟩ (.slice aA n1 cA)).setCell ⟨w.heap.size + 1, 1, none⟩ (.slice (some ⟨lb, 0, none⟩) n2 n2)).setCell ⟨w.heap.size + 1, 2, none⟩ (.slice aN n3 cN) := ⟨_, rfl⟩
    have hB9 : BoxAt (w.heap.size + 1) [.slice aA n1 cA, .slice (some ⟨lb, 0, none⟩) n2 n2, .slice aN n3 cN] w9 := by rw [hw9]; exact box3_at HO9.out
    have hL9 : HoldsL True (fresh w) w9 [.slice aA n1 cA, .slice (some ⟨lb, 0, none⟩) n2 n2, .slice aN n3 cN] c.d := by
     rw [hw9]
     have hs9 : SameOn (fun q => y0.heap.size ≤ q ∧ q ≠ pb) wr (((wr.setCell ⟨w.heap.size + 1, 0, none⟩ (.slice aA n1 cA)).setCell ⟨w.heap.size + 1, 1, none⟩ (.slice (some ⟨lb, 0, none⟩) n2 n2)).setCell ⟨w.heap.size + 1, 2, none⟩ (.slice aN n3 cN)) := box3_same (fun h => by have h1 := h.1; have := Y0z.out; omega)
     exact (HL9.out.same hs9).wide (fun q _ h => by have h1 := h.1; have := Y0z.out; show w.heap.size ≤ q; omega)
    have hb9 : Below w.heap.size w w9 := by
     rw [hw9]
     exact (((below_step (by have := Y0z.out; omega) B0.out BY.out).setCell (by show w.heap.size ≤ w.heap.size + 1; omega) _).setCell (by show w.heap.size ≤ w.heap.size + 1; omega) _).setCell (by show w.heap.size ≤ w.heap.size + 1; omega) _
    have r0 := hB9 0 _ rfl
    have r1 := hB9 1 _ rfl
    have r2 := hB9 2 _ rfl
    rw [← hw9]
    refine bodyPost_ret (v := .agg #[.slice aA n1 cA, .slice (some ⟨lb, 0, none⟩) n2 n2, .slice aN n3 cN]) (by simp [results, Try.results33, go_sem, r0, r1, r2]) rfl ?_
    exact ⟨_, _, _, rfl, hL9, hb9⟩
end Go.Proofs.Ytennbiajnkobnaa

