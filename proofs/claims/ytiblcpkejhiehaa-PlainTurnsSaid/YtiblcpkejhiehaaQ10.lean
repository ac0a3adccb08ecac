/- Texts put together. -/
import Derived.Test.YtiblcpkejhiehaaQ00
import Derived.Test.YtiblcpkejhiehaaQ08
import Derived.Test.YtiblcpkejhiehaaQ09
import Derived.BigQuiet
import Derived.BigRegion
import Derived.Deep.CutRange
set_option linter.unusedSimpArgs false
set_option linter.unusedVariables false
namespace Go.Proofs.Ytiblcpkejhiehaa
open Go.RowKit Go.PlainAid
/-- Lists that are not long. -/
def SmallCf (c : Cf) : Prop := c.states.length ≤ 1000000 ∧ c.links.length ≤ 1000000 ∧ c.sent.length ≤ 1000000 ∧ ∀ m ∈ c.links, m.length ≤ 1000000
theorem set_far3 {w : World} {a : Addr} {v1 v2 v3 u : Value} {b o1 o2 o3 : Nat} (h : b ≠ a.block) (hc : w.cell? a = some u) : (((w.setCell ⟨b, o1, none⟩ v1).setCell ⟨b, o2, none⟩ v2).setCell ⟨b, o3, none⟩ v3).cell? a = some u := set_far (.inl h) (set_far (.inl h) (set_far (.inl h) hc))
/-- A configuration in a box of its own. -/
structure CopR (y0 : World) (c : Cf) (n1 n2 n3 : Nat) (s3 : Value) (wx : World) : Prop where
 ex : ∃ (pb lb : Nat) (aA aN : Option Addr) (cA cN : Nat), s3 = .pointer (some ⟨pb, 0, none⟩) ∧ y0.heap.size ≤ pb ∧ pb < wx.heap.size ∧ BoxAt pb [.slice aA n1 cA, .slice (some ⟨lb, 0, none⟩) n2 n2, .slice aN n3 cN] wx ∧ OpenRow wx pb 1 3 ∧ HoldsL True (fun q => y0.heap.size ≤ q ∧ q ≠ pb) wx [.slice aA n1 cA, .slice (some ⟨lb, 0, none⟩) n2 n2, .slice aN n3 cN] c.d
 bel : Below y0.heap.size y0 wx
theorem box3_at {wl : World} {pb : Nat} {v1 v2 v3 : Value} (hO : OpenRow wl pb 1 3) : BoxAt pb [v1, v2, v3] (((wl.setCell ⟨pb, 0, none⟩ v1).setCell ⟨pb, 1, none⟩ v2).setCell ⟨pb, 2, none⟩ v3) := by
 have hcell : ∀ j, j < 3 → ∃ u, wl.cell? ⟨pb, j, none⟩ = some u := fun j hj => by
  obtain ⟨_, cur, e, hg, hs⟩ := hO
  exact ⟨cur[j]'(by omega), by simp [World.cell?, hg, hs, hj]⟩
 obtain ⟨u0, g0⟩ := hcell 0 (by omega)
 obtain ⟨u1, g1⟩ := hcell 1 (by omega)
 obtain ⟨u2, g2⟩ := hcell 2 (by omega)
 intro i v e
 match i, e with
 | 0, e => simp at e; subst e; exact set_far (.inr (by simp)) (set_far (.inr (by simp)) (set_at g0))
 | 1, e => simp at e; subst e; exact set_far (.inr (by simp)) (set_at (set_far (.inr (by simp)) g1))
 | 2, e => simp at e; subst e; exact set_at (set_far (.inr (by simp)) (set_far (.inr (by simp)) g2))
 | i + 3, e => simp at e
theorem box3_same {P : Nat → Prop} {wl : World} {pb : Nat} {v1 v2 v3 : Value} (h : ¬ P pb) : SameOn P wl (((wl.setCell ⟨pb, 0, none⟩ v1).setCell ⟨pb, 1, none⟩ v2).setCell ⟨pb, 2, none⟩ v3) := (((SameOn.refl _ _).set _ _ h).set _ _ h).set _ _ h
theorem copR_mk {y0 y1 wl : World} {c : Cf} {pb lb n1 n2 n3 : Nat} {aA aN : Option Addr} {cA cN : Nat} {P1 P2 P3 : Nat → Prop} (hsz : y0.heap.size = y1.heap.size) (hbel : Below y0.heap.size y0 wl) (hp : y1.heap.size ≤ pb) (hO : OpenRow wl pb 1 3)
  (h1 : Holds True P1 wl (.slice aA n1 cA) (dInts c.states)) (h2 : Holds True P2 wl (.slice (some ⟨lb, 0, none⟩) n2 n2) (dLls c.links)) (h3 : Holds True P3 wl (.slice aN n3 cN) (dInts c.sent))
  (q1 : ∀ k, P1 k → y1.heap.size ≤ k ∧ k ≠ pb) (q2 : ∀ k, P2 k → y1.heap.size ≤ k ∧ k ≠ pb) (q3 : ∀ k, P3 k → y1.heap.size ≤ k ∧ k ≠ pb) (d12 : ∀ k, P1 k → ¬ P2 k) (d13 : ∀ k, P1 k → ¬ P3 k) (d23 : ∀ k, P2 k → ¬ P3 k) :
  CopR y0 c n1 n2 n3 (.pointer (some ⟨pb, 0, none⟩)) (((wl.setCell ⟨pb, 0, none⟩ (.slice aA n1 cA)).setCell ⟨pb, 1, none⟩ (.slice (some ⟨lb, 0, none⟩) n2 n2)).setCell ⟨pb, 2, none⟩ (.slice aN n3 cN)) := by
 have hlt : pb < wl.heap.size := by obtain ⟨_, cur, e, hg, _⟩ := hO; exact (Array.getElem?_eq_some_iff.1 hg).1
 refine ⟨⟨pb, lb, aA, aN, cA, cN, rfl, by omega, by simpa using hlt, ?_, ((hO.set _ _).set _ _).set _ _, ?_⟩, ((hbel.setCell (by show y0.heap.size ≤ pb; omega) _).setCell (by show y0.heap.size ≤ pb; omega) _).setCell (by show y0.heap.size ≤ pb; omega) _⟩
 ·exact box3_at hO
 ·exact (cf_mkL h1 h2 h3 (fun k h => ⟨by have := (q1 k h).1; omega, (q1 k h).2⟩) (fun k h => ⟨by have := (q2 k h).1; omega, (q2 k h).2⟩) (fun k h => ⟨by have := (q3 k h).1; omega, (q3 k h).2⟩) d12 d13 d23).same ((((SameOn.refl _ _).set _ _ (fun h => h.2 rfl)).set _ _ (fun h => h.2 rfl)).set _ _ (fun h => h.2 rfl))
theorem take_rep {ls : List Lks} {j n : Nat} {m : Lks} (hj : j < n) (hm : n = ls.length ∧ ls[j]? = some m) : ls.take (j + 1) ++ List.replicate (n - (j + 1)) [] = (ls.take j ++ List.replicate (n - j) []).set j m := by
 obtain ⟨hn, hm⟩ := hm
 have hl : (ls.take j).length = j := by simp; omega
 rw [show n - j = (n - (j + 1)) + 1 by omega, List.replicate_succ, List.set_append_right _ _ (by omega), hl, Nat.sub_self, List.set_cons_zero, List.take_add_one, hm]
 simp
theorem repL_at {ls : List Lks} {j n : Nat} (hj : j < n) (hn : n = ls.length) : (ls.take j ++ List.replicate (n - j) [])[j]? = some [] := by
 have hl : (ls.take j).length = j := by simp; omega
 rw [List.getElem?_append_right (by omega), hl, Nat.sub_self, List.getElem?_replicate, if_pos (by omega)]
/-- What copied tells. -/
def Copied (c : Cf) (w : World) (e : Ending) (w' : World) : Prop := ∃ u1 u2 u3, e = .returned (.agg #[u1, u2, u3]) ∧ HoldsL True (fresh w) w' [u1, u2, u3] c.d ∧ Below w.heap.size w w'
set_option maxHeartbeats 8000000 in
set_option maxRecDepth 100000 in
theorem copied_at (c : Cf) (v1 v2 v3 : Value) (w : World) (h : HasL w [v1, v2, v3] c.d) (hsm : SmallCf c) :
  Calls Try.prog 37 #[.agg #[v1, v2, v3]] w fun e w' => Copied c w e w' := by
 obtain ⟨h1, h2, h3⟩ := cf_has h
 obtain ⟨a1, e1, e⟩ := slice_of h1
 subst e
 obtain ⟨a2, e2, e⟩ := slice_of h2
 subst e
 obtain ⟨a3, e3, e⟩ := slice_of h3
 subst e
 obtain ⟨n1, hn1⟩ : ∃ n, n = c.states.length := ⟨_, rfl⟩
 obtain ⟨n2, hnn2⟩ : ∃ n, n = c.links.length := ⟨_, rfl⟩
 obtain ⟨n3, hn3⟩ : ∃ n, n = c.sent.length := ⟨_, rfl⟩
 rw [← hn1] at h1
 rw [← hnn2] at h2
 rw [← hn3] at h3
 obtain ⟨hs1, hs2, hs3, hs4⟩ := hsm
 have hn2 : n2 ≤ 1000000 := by omega
 have HS := Lib.hid h1
 have HL := Lib.hid h2
 have HN := Lib.hid h3
 have N1 := Lib.hid hn1
 have N2 := Lib.hid hnn2
 have N3 := Lib.hid hn3
 have SM4 := Lib.hid hs4
 have hmk := make_lls n2 hn2
 rw [← hn1, ← hnn2, ← hn3]
 clear h h1 h2 h3 hn1 hnn2 hn3 hs2 hs4
 go_enter Try.func37, Try.ntmps37
 try simp only [List.append_eq, List.cons_append, List.nil_append]
 go_upto_region 1 with fail
 obtain ⟨y0, hy0⟩ : ∃ y, y = (w.alloc (.cells #[.slice a1 n1 e1, .slice a2 n2 e2, .slice a3 n3 e3] 31)).alloc (.cells #[.slice none 0 0, .slice none 0 0, .slice none 0 0] 31) := ⟨_, rfl⟩
 have hb0 : Below w.heap.size w y0 := by rw [hy0]; exact below_step' (below_new _ _) (below_new _ _)
 have hx0 : BoxAt w.heap.size [.slice a1 n1 e1, .slice a2 n2 e2, .slice a3 n3 e3] y0 := by rw [hy0]; exact (boxAt_new w [.slice a1 n1 e1, .slice a2 n2 e2, .slice a3 n3 e3] _).below (below_new _ _)
 have hx1 : BoxAt (w.heap.size + 1) [.slice none 0 0, .slice none 0 0, .slice none 0 0] y0 := by
  have h := boxAt_new (w.alloc (.cells #[.slice a1 n1 e1, .slice a2 n2 e2, .slice a3 n3 e3] 31)) [.slice none 0 0, .slice none 0 0, .slice none 0 0] 31
  rw [size_alloc] at h
  rw [hy0]; exact h
 have ho1 : OpenRow y0 (w.heap.size + 1) 1 3 := by
  have h := heap_alloc_new (w.alloc (.cells #[.slice a1 n1 e1, .slice a2 n2 e2, .slice a3 n3 e3] 31)) (.cells #[.slice none 0 0, .slice none 0 0, .slice none 0 0] 31)
  rw [size_alloc] at h
  rw [hy0]; exact ⟨by decide, _, _, h, rfl⟩
 have Y0z : Hid (w.heap.size + 2 ≤ y0.heap.size) := Lib.hid (by rw [hy0]; simp)
 have B0 := Lib.hid hb0
 have X0 := Lib.hid hx0
 have X1 := Lib.hid hx1
 have O1 := Lib.hid ho1
 replace HS := Lib.hid (HS.out.later hb0)
 replace HL := Lib.hid (HL.out.later hb0)
 replace HN := Lib.hid (HN.out.later hb0)
 rw [← hy0]
 clear hy0 hb0 hx0 hx1 ho1
 have QY : Hid (∀ w', Below y0.heap.size y0 w' → w'.cell? ⟨w.heap.size, 0, none⟩ = some (.slice a1 n1 e1) ∧ w'.cell? ⟨w.heap.size, 1, none⟩ = some (.slice a2 n2 e2) ∧ w'.cell? ⟨w.heap.size, 2, none⟩ = some (.slice a3 n3 e3)) := Lib.hid (fun w' hb => ⟨X0.out.below hb 0 _ rfl, X0.out.below hb 1 _ rfl, X0.out.below hb 2 _ rfl⟩)
 go_cut [3] from 6 to 16 (fun s3 wx => CopR y0 ⟨c.states, List.replicate n2 [], c.sent⟩ n1 n2 n3 s3 wx)
 case first =>
  refine wp_region_held_drew (S := (fun w' => w'.cell? ⟨w.heap.size, 0, none⟩ = some (.slice a1 n1 e1) ∧ w'.cell? ⟨w.heap.size, 1, none⟩ = some (.slice a2 n2 e2) ∧ w'.cell? ⟨w.heap.size, 2, none⟩ = some (.slice a3 n3 e3))) (by kernel_rfl) ?_ (fun hHeld => ?_)
  ·exact QY.out _ (below_drewN (Below.refl _ y0) 1)
  obtain ⟨y1, hy1⟩ : ∃ y, y = y0.drew := ⟨_, rfl⟩
  have HY := Lib.hid (show Below y0.heap.size y0 y1 from by rw [hy1]; exact below_drewN (Below.refl _ y0) 1)
  have hsy : y0.heap.size = y1.heap.size := by rw [hy1]; rfl
  rw [← hy1] at hHeld ⊢
  clear hy1
  have HSZ := Lib.hid hsy
  have hsz : w.heap.size + 2 ≤ y1.heap.size := by rw [← hsy]; exact Y0z.out
  clear hsy
  have BBy := Lib.hid (Below.refl y1.heap.size y1)
  replace HS := Lib.hid (HS.out.later HY.out)
  replace HN := Lib.hid (HN.out.later HY.out)
  have QS : Hid (∀ w', Below y1.heap.size y1 w' → w'.cell? ⟨w.heap.size, 0, none⟩ = some (.slice a1 n1 e1) ∧ w'.cell? ⟨w.heap.size, 1, none⟩ = some (.slice a2 n2 e2) ∧ w'.cell? ⟨w.heap.size, 2, none⟩ = some (.slice a3 n3 e3)) := Lib.hid (fun w' hb => QY.out _ (below_step' HY.out hb))
  refine tq 0 ?_
  refine tq 1 ?_
  refine tq 3 ?_
  refine tq 4 ?_
  refine tq 5 ?_
  refine tq 7 ?_
  refine tq 8 ?_
  refine wpAnyH_ready (rs := [2, 6, 11]) (by kernel_rfl) (by simp) ?_
  refine AllReadyH.cons rfl (fun K hK => ?_) (AllReadyH.cons rfl (fun K hK => ?_) (AllReadyH.cons rfl (fun K hK => ?_) AllReadyH.nil))
  ·go_simp
   refine (listInts_at c.states _ _ (HS.out.later BBy.out) hs1).mono ?_
   rintro e wA ⟨u, rfl, hu, hb⟩
   obtain ⟨aA, cA, e⟩ := slice_of hu.weak
   subst e
   rw [← N1.out] at hu ⊢
   have RA := Lib.hid (hu.wide (P' := fun q => y1.heap.size ≤ q ∧ q < wA.heap.size) (fun q hq h => ⟨h, hq⟩))
   have GA := Lib.hid hb
   have BBA := Lib.hid (below_step' BBy.out hb)
   have SZA := hb.size
   clear hu hb
   go_wp2_with fail
   refine hK.out _ _ ?_ (fun hHeld => ?_)
   ·exact QS.out _ BBA.out
   clear hK K
   try simp only [Act.put, List.getElem_toArray, List.getElem_cons_zero, List.getElem_cons_succ, List.setIfInBounds_toArray, List.set_cons_zero, List.set_cons_succ]
   refine wpAnyH_ready (rs := [6, 9, 11]) (by kernel_rfl) (by simp) ?_
   refine AllReadyH.cons rfl (fun K hK => ?_) (AllReadyH.cons rfl (fun K hK => ?_) (AllReadyH.cons rfl (fun K hK => ?_) AllReadyH.nil))
   ·go_simp
    obtain ⟨wM, hwM⟩ : ∃ x, x = wA.alloc (.cells (madeCells #[.slice none 0 0] n2) 51) := ⟨_, rfl⟩
    have RM := Lib.hid (show Holds True (fun q => q = wA.heap.size) wM (.slice (some ⟨wA.heap.size, 0, none⟩) n2 n2) (dLls (List.replicate n2 [])) from by rw [hwM]; exact made_lls n2 hn2 wA)
    have GM := Lib.hid (show Below wA.heap.size wA wM from by rw [hwM]; exact below_new _ _)
    have BBM := Lib.hid (below_step' BBA.out (show Below wA.heap.size wA wM from by rw [hwM]; exact below_new _ _))
    have SZM : wA.heap.size + 1 ≤ wM.heap.size := by rw [hwM]; simp
    rw [← hwM]
    clear hwM
    refine hK.out _ _ ?_ (fun hHeld => ?_)
    ·exact QS.out _ BBM.out
    clear hK K
    try simp only [Act.put, List.getElem_toArray, List.getElem_cons_zero, List.getElem_cons_succ, List.setIfInBounds_toArray, List.set_cons_zero, List.set_cons_succ]
    refine wpAnyH_ready (rs := [9, 11]) (by kernel_rfl) (by simp) ?_
    refine AllReadyH.cons rfl (fun K hK => ?_) (AllReadyH.cons rfl (fun K hK => ?_) AllReadyH.nil)
    ·go_simp
     refine (listInts_at c.sent _ _ (HN.out.later BBM.out) hs3).mono ?_
     rintro e wN ⟨u, rfl, hu, hb⟩
     obtain ⟨aN, cN, e⟩ := slice_of hu.weak
     subst e
     rw [← N3.out] at hu ⊢
     have RN := Lib.hid (hu.wide (P' := fun q => wM.heap.size ≤ q ∧ q < wN.heap.size) (fun q hq h => ⟨h, hq⟩))
     have GN := Lib.hid hb
     have BBN := Lib.hid (below_step' BBM.out hb)
     have SZN := hb.size
     clear hu hb
     go_wp2_with fail
     refine hK.out _ _ ?_ (fun hHeld => ?_)
     ·exact QS.out _ BBN.out
     clear hK K
     try simp only [Act.put, List.getElem_toArray, List.getElem_cons_zero, List.getElem_cons_succ, List.setIfInBounds_toArray, List.set_cons_zero, List.set_cons_succ]
     refine tq 10 ?_
     refine rd 11 fun K hK => ?_
     go_simp
     obtain ⟨wX, hwX⟩ : ∃ x, x = wN.alloc (.cells #[.slice none 0 0, .slice none 0 0, .slice none 0 0] 31) := ⟨_, rfl⟩
     have BX := Lib.hid (show BoxAt wN.heap.size [.slice none 0 0, .slice none 0 0, .slice none 0 0] wX from by rw [hwX]; exact boxAt_new wN [.slice none 0 0, .slice none 0 0, .slice none 0 0] _)
     have OX : Hid (OpenRow wX wN.heap.size 1 3) := Lib.hid (by rw [hwX]; exact ⟨by decide, _, _, heap_alloc_new wN _, rfl⟩)
     have GX := Lib.hid (show Below wN.heap.size wN wX from by rw [hwX]; exact below_new _ _)
     have BBX := Lib.hid (below_step' BBN.out (show Below wN.heap.size wN wX from by rw [hwX]; exact below_new _ _))
     have SZX : wN.heap.size + 1 ≤ wX.heap.size := by rw [hwX]; simp
     rw [← hwX]
     clear hwX
     refine hK.out _ _ ?_ (fun hHeld => ?_)
     ·exact QS.out _ BBX.out
     clear hK K
     try simp only [Act.put, List.getElem_toArray, List.getElem_cons_zero, List.getElem_cons_succ, List.setIfInBounds_toArray, List.set_cons_zero, List.set_cons_succ]
     refine rd 12 fun K hK => ?_
     have hO := OX.out.same (SameOn.of_below (P := fun _ => True) (Below.refl _ wX)) trivial (by omega)
     have hB := BX.out.below (Below.refl _ wX)
     have k0 := hB 0 _ rfl
     have k1 := hB 1 _ rfl
     have k2 := hB 2 _ rfl
     have f0 := hO.frozen 0
     have f1 := hO.frozen 1
     have f2 := hO.frozen 2
     have HO := Lib.hid hO
     clear hB hO
     go_simp
     clear k0 k1 k2 f0 f1 f2
     refine hK.out _ _ ?_ (fun hHeld => ?_)
     ·exact (by have h := QS.out _ BBX.out; exact ⟨set_far3 (by have := BBy.out.size; show wN.heap.size ≠ w.heap.size; omega) h.1, set_far3 (by have := BBy.out.size; show wN.heap.size ≠ w.heap.size; omega) h.2.1, set_far3 (by have := BBy.out.size; show wN.heap.size ≠ w.heap.size; omega) h.2.2⟩)
     clear hK K
     try simp only [Act.put, List.getElem_toArray, List.getElem_cons_zero, List.getElem_cons_succ, List.setIfInBounds_toArray, List.set_cons_zero, List.set_cons_succ]
     refine wpAnyH_done (by kernel_rfl) ?_ _
     go_wp2_with fail
     go_meet
     exact copR_mk (pb := wN.heap.size) HSZ.out (below_step' HY.out BBX.out) (by omega) HO.out (RA.out.later (below_step' (below_step' (below_step' (Below.refl _ wA) GM.out) GN.out) GX.out)) (RM.out.later (below_step' (below_step' (Below.refl _ wM) GN.out) GX.out)) (RN.out.later (below_step' (Below.refl _ wN) GX.out)) (fun k a => ⟨by omega, by omega⟩) (fun k a => ⟨by omega, by omega⟩) (fun k a => ⟨by omega, by omega⟩) (fun k a b => by omega) (fun k a b => by omega) (fun k a b => by omega)
    ·go_simp
     obtain ⟨wX, hwX⟩ : ∃ x, x = wM.alloc (.cells #[.slice none 0 0, .slice none 0 0, .slice none 0 0] 31) := ⟨_, rfl⟩
     have BX := Lib.hid (show BoxAt wM.heap.size [.slice none 0 0, .slice none 0 0, .slice none 0 0] wX from by rw [hwX]; exact boxAt_new wM [.slice none 0 0, .slice none 0 0, .slice none 0 0] _)
     have OX : Hid (OpenRow wX wM.heap.size 1 3) := Lib.hid (by rw [hwX]; exact ⟨by decide, _, _, heap_alloc_new wM _, rfl⟩)
     have GX := Lib.hid (show Below wM.heap.size wM wX from by rw [hwX]; exact below_new _ _)
     have BBX := Lib.hid (below_step' BBM.out (show Below wM.heap.size wM wX from by rw [hwX]; exact below_new _ _))
     have SZX : wM.heap.size + 1 ≤ wX.heap.size := by rw [hwX]; simp
     rw [← hwX]
     clear hwX
     refine hK.out _ _ ?_ (fun hHeld => ?_)
     ·exact QS.out _ BBX.out
     clear hK K
     try simp only [Act.put, List.getElem_toArray, List.getElem_cons_zero, List.getElem_cons_succ, List.setIfInBounds_toArray, List.set_cons_zero, List.set_cons_succ]
     refine rd 9 fun K hK => ?_
     go_simp
     refine (listInts_at c.sent _ _ (HN.out.later BBX.out) hs3).mono ?_
     rintro e wN ⟨u, rfl, hu, hb⟩
     obtain ⟨aN, cN, e⟩ := slice_of hu.weak
     subst e
     rw [← N3.out] at hu ⊢
     have RN := Lib.hid (hu.wide (P' := fun q => wX.heap.size ≤ q ∧ q < wN.heap.size) (fun q hq h => ⟨h, hq⟩))
     have GN := Lib.hid hb
     have BBN := Lib.hid (below_step' BBX.out hb)
     have SZN := hb.size
     clear hu hb
     go_wp2_with fail
     refine hK.out _ _ ?_ (fun hHeld => ?_)
     ·exact QS.out _ BBN.out
     clear hK K
     try simp only [Act.put, List.getElem_toArray, List.getElem_cons_zero, List.getElem_cons_succ, List.setIfInBounds_toArray, List.set_cons_zero, List.set_cons_succ]
     refine tq 10 ?_
     refine rd 12 fun K hK => ?_
     have hO := OX.out.same (SameOn.of_below (P := fun _ => True) (below_step' (Below.refl _ wX) GN.out)) trivial (by omega)
     have hB := BX.out.below (below_step' (Below.refl _ wX) GN.out)
     have k0 := hB 0 _ rfl
     have k1 := hB 1 _ rfl
     have k2 := hB 2 _ rfl
     have f0 := hO.frozen 0
     have f1 := hO.frozen 1
     have f2 := hO.frozen 2
     have HO := Lib.hid hO
     clear hB hO
     go_simp
     clear k0 k1 k2 f0 f1 f2
     refine hK.out _ _ ?_ (fun hHeld => ?_)
     ·exact (by have h := QS.out _ BBN.out; exact ⟨set_far3 (by have := BBy.out.size; show wM.heap.size ≠ w.heap.size; omega) h.1, set_far3 (by have := BBy.out.size; show wM.heap.size ≠ w.heap.size; omega) h.2.1, set_far3 (by have := BBy.out.size; show wM.heap.size ≠ w.heap.size; omega) h.2.2⟩)
     clear hK K
     try simp only [Act.put, List.getElem_toArray, List.getElem_cons_zero, List.getElem_cons_succ, List.setIfInBounds_toArray, List.set_cons_zero, List.set_cons_succ]
     refine wpAnyH_done (by kernel_rfl) ?_ _
     go_wp2_with fail
     go_meet
     exact copR_mk (pb := wM.heap.size) HSZ.out (below_step' HY.out BBN.out) (by omega) HO.out (RA.out.later (below_step' (below_step' (below_step' (Below.refl _ wA) GM.out) GX.out) GN.out)) (RM.out.later (below_step' (below_step' (Below.refl _ wM) GX.out) GN.out)) (RN.out.later (Below.refl _ wN)) (fun k a => ⟨by omega, by omega⟩) (fun k a => ⟨by omega, by omega⟩) (fun k a => ⟨by omega, by omega⟩) (fun k a b => by omega) (fun k a b => by omega) (fun k a b => by omega)
   ·go_simp
    refine (listInts_at c.sent _ _ (HN.out.later BBA.out) hs3).mono ?_
    rintro e wN ⟨u, rfl, hu, hb⟩
    obtain ⟨aN, cN, e⟩ := slice_of hu.weak
    subst e
    rw [← N3.out] at hu ⊢
    have RN := Lib.hid (hu.wide (P' := fun q => wA.heap.size ≤ q ∧ q < wN.heap.size) (fun q hq h => ⟨h, hq⟩))
    have GN := Lib.hid hb
    have BBN := Lib.hid (below_step' BBA.out hb)
    have SZN := hb.size
    clear hu hb
    go_wp2_with fail
    refine hK.out _ _ ?_ (fun hHeld => ?_)
    ·exact QS.out _ BBN.out
    clear hK K
    try simp only [Act.put, List.getElem_toArray, List.getElem_cons_zero, List.getElem_cons_succ, List.setIfInBounds_toArray, List.set_cons_zero, List.set_cons_succ]
    refine wpAnyH_ready (rs := [6, 11]) (by kernel_rfl) (by simp) ?_
    refine AllReadyH.cons rfl (fun K hK => ?_) (AllReadyH.cons rfl (fun K hK => ?_) AllReadyH.nil)
    ·go_simp
     obtain ⟨wM, hwM⟩ : ∃ x, x = wN.alloc (.cells (madeCells #[.slice none 0 0] n2) 51) := ⟨_, rfl⟩
     have RM := Lib.hid (show Holds True (fun q => q = wN.heap.size) wM (.slice (some ⟨wN.heap.size, 0, none⟩) n2 n2) (dLls (List.replicate n2 [])) from by rw [hwM]; exact made_lls n2 hn2 wN)
     have GM := Lib.hid (show Below wN.heap.size wN wM from by rw [hwM]; exact below_new _ _)
     have BBM := Lib.hid (below_step' BBN.out (show Below wN.heap.size wN wM from by rw [hwM]; exact below_new _ _))
     have SZM : wN.heap.size + 1 ≤ wM.heap.size := by rw [hwM]; simp
     rw [← hwM]
     clear hwM
     refine hK.out _ _ ?_ (fun hHeld => ?_)
     ·exact QS.out _ BBM.out
     clear hK K
     try simp only [Act.put, List.getElem_toArray, List.getElem_cons_zero, List.getElem_cons_succ, List.setIfInBounds_toArray, List.set_cons_zero, List.set_cons_succ]
     refine tq 10 ?_
     refine rd 11 fun K hK => ?_
     go_simp
     obtain ⟨wX, hwX⟩ : ∃ x, x = wM.alloc (.cells #[.slice none 0 0, .slice none 0 0, .slice none 0 0] 31) := ⟨_, rfl⟩
     have BX := Lib.hid (show BoxAt wM.heap.size [.slice none 0 0, .slice none 0 0, .slice none 0 0] wX from by rw [hwX]; exact boxAt_new wM [.slice none 0 0, .slice none 0 0, .slice none 0 0] _)
     have OX : Hid (OpenRow wX wM.heap.size 1 3) := Lib.hid (by rw [hwX]; exact ⟨by decide, _, _, heap_alloc_new wM _, rfl⟩)
     have GX := Lib.hid (show Below wM.heap.size wM wX from by rw [hwX]; exact below_new _ _)
     have BBX := Lib.hid (below_step' BBM.out (show Below wM.heap.size wM wX from by rw [hwX]; exact below_new _ _))
     have SZX : wM.heap.size + 1 ≤ wX.heap.size := by rw [hwX]; simp
     rw [← hwX]
     clear hwX
     refine hK.out _ _ ?_ (fun hHeld => ?_)
     ·exact QS.out _ BBX.out
     clear hK K
     try simp only [Act.put, List.getElem_toArray, List.getElem_cons_zero, List.getElem_cons_succ, List.setIfInBounds_toArray, List.set_cons_zero, List.set_cons_succ]
     refine rd 12 fun K hK => ?_
     have hO := OX.out.same (SameOn.of_below (P := fun _ => True) (Below.refl _ wX)) trivial (by omega)
     have hB := BX.out.below (Below.refl _ wX)
     have k0 := hB 0 _ rfl
     have k1 := hB 1 _ rfl
     have k2 := hB 2 _ rfl
     have f0 := hO.frozen 0
     have f1 := hO.frozen 1
     have f2 := hO.frozen 2
     have HO := Lib.hid hO
     clear hB hO
     go_simp
     clear k0 k1 k2 f0 f1 f2
     refine hK.out _ _ ?_ (fun hHeld => ?_)
     ·exact (by have h := QS.out _ BBX.out; exact ⟨set_far3 (by have := BBy.out.size; show wM.heap.size ≠ w.heap.size; omega) h.1, set_far3 (by have := BBy.out.size; show wM.heap.size ≠ w.heap.size; omega) h.2.1, set_far3 (by have := BBy.out.size; show wM.heap.size ≠ w.heap.size; omega) h.2.2⟩)
     clear hK K
     try simp only [Act.put, List.getElem_toArray, List.getElem_cons_zero, List.getElem_cons_succ, List.setIfInBounds_toArray, List.set_cons_zero, List.set_cons_succ]
     refine wpAnyH_done (by kernel_rfl) ?_ _
     go_wp2_with fail
     go_meet
     exact copR_mk (pb := wM.heap.size) HSZ.out (below_step' HY.out BBX.out) (by omega) HO.out (RA.out.later (below_step' (below_step' (below_step' (Below.refl _ wA) GN.out) GM.out) GX.out)) (RM.out.later (below_step' (Below.refl _ wM) GX.out)) (RN.out.later (below_step' (below_step' (Below.refl _ wN) GM.out) GX.out)) (fun k a => ⟨by omega, by omega⟩) (fun k a => ⟨by omega, by omega⟩) (fun k a => ⟨by omega, by omega⟩) (fun k a b => by omega) (fun k a b => by omega) (fun k a b => by omega)
    ·go_simp
     obtain ⟨wX, hwX⟩ : ∃ x, x = wN.alloc (.cells #[.slice none 0 0, .slice none 0 0, .slice none 0 0] 31) := ⟨_, rfl⟩
     have BX := Lib.hid (show BoxAt wN.heap.size [.slice none 0 0, .slice none 0 0, .slice none 0 0] wX from by rw [hwX]; exact boxAt_new wN [.slice none 0 0, .slice none 0 0, .slice none 0 0] _)
     have OX : Hid (OpenRow wX wN.heap.size 1 3) := Lib.hid (by rw [hwX]; exact ⟨by decide, _, _, heap_alloc_new wN _, rfl⟩)
     have GX := Lib.hid (show Below wN.heap.size wN wX from by rw [hwX]; exact below_new _ _)
     have BBX := Lib.hid (below_step' BBN.out (show Below wN.heap.size wN wX from by rw [hwX]; exact below_new _ _))
     have SZX : wN.heap.size + 1 ≤ wX.heap.size := by rw [hwX]; simp
     rw [← hwX]
     clear hwX
     refine hK.out _ _ ?_ (fun hHeld => ?_)
     ·exact QS.out _ BBX.out
     clear hK K
     try simp only [Act.put, List.getElem_toArray, List.getElem_cons_zero, List.getElem_cons_succ, List.setIfInBounds_toArray, List.set_cons_zero, List.set_cons_succ]
     refine rd 6 fun K hK => ?_
     go_simp
     obtain ⟨wM, hwM⟩ : ∃ x, x = wX.alloc (.cells (madeCells #[.slice none 0 0] n2) 51) := ⟨_, rfl⟩
     have RM := Lib.hid (show Holds True (fun q => q = wX.heap.size) wM (.slice (some ⟨wX.heap.size, 0, none⟩) n2 n2) (dLls (List.replicate n2 [])) from by rw [hwM]; exact made_lls n2 hn2 wX)
     have GM := Lib.hid (show Below wX.heap.size wX wM from by rw [hwM]; exact below_new _ _)
     have BBM := Lib.hid (below_step' BBX.out (show Below wX.heap.size wX wM from by rw [hwM]; exact below_new _ _))
     have SZM : wX.heap.size + 1 ≤ wM.heap.size := by rw [hwM]; simp
     rw [← hwM]
     clear hwM
     refine hK.out _ _ ?_ (fun hHeld => ?_)
     ·exact QS.out _ BBM.out
     clear hK K
     try simp only [Act.put, List.getElem_toArray, List.getElem_cons_zero, List.getElem_cons_succ, List.setIfInBounds_toArray, List.set_cons_zero, List.set_cons_succ]
     refine tq 10 ?_
     refine rd 12 fun K hK => ?_
     have hO := OX.out.same (SameOn.of_below (P := fun _ => True) (below_step' (Below.refl _ wX) GM.out)) trivial (by omega)
     have hB := BX.out.below (below_step' (Below.refl _ wX) GM.out)
     have k0 := hB 0 _ rfl
     have k1 := hB 1 _ rfl
     have k2 := hB 2 _ rfl
     have f0 := hO.frozen 0
     have f1 := hO.frozen 1
     have f2 := hO.frozen 2
     have HO := Lib.hid hO
     clear hB hO
     go_simp
     clear k0 k1 k2 f0 f1 f2
     refine hK.out _ _ ?_ (fun hHeld => ?_)
     ·exact (by have h := QS.out _ BBM.out; exact ⟨set_far3 (by have := BBy.out.size; show wN.heap.size ≠ w.heap.size; omega) h.1, set_far3 (by have := BBy.out.size; show wN.heap.size ≠ w.heap.size; omega) h.2.1, set_far3 (by have := BBy.out.size; show wN.heap.size ≠ w.heap.size; omega) h.2.2⟩)
     clear hK K
     try simp only [Act.put, List.getElem_toArray, List.getElem_cons_zero, List.getElem_cons_succ, List.setIfInBounds_toArray, List.set_cons_zero, List.set_cons_succ]
     refine wpAnyH_done (by kernel_rfl) ?_ _
     go_wp2_with fail
     go_meet
     exact copR_mk (pb := wN.heap.size) HSZ.out (below_step' HY.out BBM.out) (by omega) HO.out (RA.out.later (below_step' (below_step' (below_step' (Below.refl _ wA) GN.out) GX.out) GM.out)) (RM.out.later (Below.refl _ wM)) (RN.out.later (below_step' (below_step' (Below.refl _ wN) GX.out) GM.out)) (fun k a => ⟨by omega, by omega⟩) (fun k a => ⟨by omega, by omega⟩) (fun k a => ⟨by omega, by omega⟩) (fun k a b => by omega) (fun k a b => by omega) (fun k a b => by omega)
   ·go_simp
    obtain ⟨wX, hwX⟩ : ∃ x, x = wA.alloc (.cells #[.slice none 0 0, .slice none 0 0, .slice none 0 0] 31) := ⟨_, rfl⟩
    have BX := Lib.hid (show BoxAt wA.heap.size [.slice none 0 0, .slice none 0 0, .slice none 0 0] wX from by rw [hwX]; exact boxAt_new wA [.slice none 0 0, .slice none 0 0, .slice none 0 0] _)
    have OX : Hid (OpenRow wX wA.heap.size 1 3) := Lib.hid (by rw [hwX]; exact ⟨by decide, _, _, heap_alloc_new wA _, rfl⟩)
    have GX := Lib.hid (show Below wA.heap.size wA wX from by rw [hwX]; exact below_new _ _)
    have BBX := Lib.hid (below_step' BBA.out (show Below wA.heap.size wA wX from by rw [hwX]; exact below_new _ _))
    have SZX : wA.heap.size + 1 ≤ wX.heap.size := by rw [hwX]; simp
    rw [← hwX]
    clear hwX
    refine hK.out _ _ ?_ (fun hHeld => ?_)
    ·exact QS.out _ BBX.out
    clear hK K
    try simp only [Act.put, List.getElem_toArray, List.getElem_cons_zero, List.getElem_cons_succ, List.setIfInBounds_toArray, List.set_cons_zero, List.set_cons_succ]
    refine wpAnyH_ready (rs := [6, 9]) (by kernel_rfl) (by simp) ?_
    refine AllReadyH.cons rfl (fun K hK => ?_) (AllReadyH.cons rfl (fun K hK => ?_) AllReadyH.nil)
    ·go_simp
     obtain ⟨wM, hwM⟩ : ∃ x, x = wX.alloc (.cells (madeCells #[.slice none 0 0] n2) 51) := ⟨_, rfl⟩
     have RM := Lib.hid (show Holds True (fun q => q = wX.heap.size) wM (.slice (some ⟨wX.heap.size, 0, none⟩) n2 n2) (dLls (List.replicate n2 [])) from by rw [hwM]; exact made_lls n2 hn2 wX)
     have GM := Lib.hid (show Below wX.heap.size wX wM from by rw [hwM]; exact below_new _ _)
     have BBM := Lib.hid (below_step' BBX.out (show Below wX.heap.size wX wM from by rw [hwM]; exact below_new _ _))
     have SZM : wX.heap.size + 1 ≤ wM.heap.size := by rw [hwM]; simp
     rw [← hwM]
     clear hwM
     refine hK.out _ _ ?_ (fun hHeld => ?_)
     ·exact QS.out _ BBM.out
     clear hK K
     try simp only [Act.put, List.getElem_toArray, List.getElem_cons_zero, List.getElem_cons_succ, List.setIfInBounds_toArray, List.set_cons_zero, List.set_cons_succ]
     refine rd 9 fun K hK => ?_
     go_simp
     refine (listInts_at c.sent _ _ (HN.out.later BBM.out) hs3).mono ?_
     rintro e wN ⟨u, rfl, hu, hb⟩
     obtain ⟨aN, cN, e⟩ := slice_of hu.weak
     subst e
     rw [← N3.out] at hu ⊢
     have RN := Lib.hid (hu.wide (P' := fun q => wM.heap.size ≤ q ∧ q < wN.heap.size) (fun q hq h => ⟨h, hq⟩))
     have GN := Lib.hid hb
     have BBN := Lib.hid (below_step' BBM.out hb)
     have SZN := hb.size
     clear hu hb
     go_wp2_with fail
     refine hK.out _ _ ?_ (fun hHeld => ?_)
     ·exact QS.out _ BBN.out
     clear hK K
     try simp only [Act.put, List.getElem_toArray, List.getElem_cons_zero, List.getElem_cons_succ, List.setIfInBounds_toArray, List.set_cons_zero, List.set_cons_succ]
     refine tq 10 ?_
     refine rd 12 fun K hK => ?_
     have hO := OX.out.same (SameOn.of_below (P := fun _ => True) (below_step' (below_step' (Below.refl _ wX) GM.out) GN.out)) trivial (by omega)
     have hB := BX.out.below (below_step' (below_step' (Below.refl _ wX) GM.out) GN.out)
     have k0 := hB 0 _ rfl
     have k1 := hB 1 _ rfl
     have k2 := hB 2 _ rfl
     have f0 := hO.frozen 0
     have f1 := hO.frozen 1
     have f2 := hO.frozen 2
     have HO := Lib.hid hO
     clear hB hO
     go_simp
     clear k0 k1 k2 f0 f1 f2
     refine hK.out _ _ ?_ (fun hHeld => ?_)
     ·exact (by have h := QS.out _ BBN.out; exact ⟨set_far3 (by have := BBy.out.size; show wA.heap.size ≠ w.heap.size; omega) h.1, set_far3 (by have := BBy.out.size; show wA.heap.size ≠ w.heap.size; omega) h.2.1, set_far3 (by have := BBy.out.size; show wA.heap.size ≠ w.heap.size; omega) h.2.2⟩)
     clear hK K
     try simp only [Act.put, List.getElem_toArray, List.getElem_cons_zero, List.getElem_cons_succ, List.setIfInBounds_toArray, List.set_cons_zero, List.set_cons_succ]
     refine wpAnyH_done (by kernel_rfl) ?_ _
     go_wp2_with fail
     go_meet
     exact copR_mk (pb := wA.heap.size) HSZ.out (below_step' HY.out BBN.out) (by omega) HO.out (RA.out.later (below_step' (below_step' (below_step' (Below.refl _ wA) GX.out) GM.out) GN.out)) (RM.out.later (below_step' (Below.refl _ wM) GN.out)) (RN.out.later (Below.refl _ wN)) (fun k a => ⟨by omega, by omega⟩) (fun k a => ⟨by omega, by omega⟩) (fun k a => ⟨by omega, by omega⟩) (fun k a b => by omega) (fun k a b => by omega) (fun k a b => by omega)
    ·go_simp
     refine (listInts_at c.sent _ _ (HN.out.later BBX.out) hs3).mono ?_
     rintro e wN ⟨u, rfl, hu, hb⟩
     obtain ⟨aN, cN, e⟩ := slice_of hu.weak
     subst e
     rw [← N3.out] at hu ⊢
     have RN := Lib.hid (hu.wide (P' := fun q => wX.heap.size ≤ q ∧ q < wN.heap.size) (fun q hq h => ⟨h, hq⟩))
     have GN := Lib.hid hb
     have BBN := Lib.hid (below_step' BBX.out hb)
     have SZN := hb.size
     clear hu hb
     go_wp2_with fail
     refine hK.out _ _ ?_ (fun hHeld => ?_)
     ·exact QS.out _ BBN.out
     clear hK K
     try simp only [Act.put, List.getElem_toArray, List.getElem_cons_zero, List.getElem_cons_succ, List.setIfInBounds_toArray, List.set_cons_zero, List.set_cons_succ]
     refine rd 6 fun K hK => ?_
     go_simp
     obtain ⟨wM, hwM⟩ : ∃ x, x = wN.alloc (.cells (madeCells #[.slice none 0 0] n2) 51) := ⟨_, rfl⟩
     have RM := Lib.hid (show Holds True (fun q => q = wN.heap.size) wM (.slice (some ⟨wN.heap.size, 0, none⟩) n2 n2) (dLls (List.replicate n2 [])) from by rw [hwM]; exact made_lls n2 hn2 wN)
     have GM := Lib.hid (show Below wN.heap.size wN wM from by rw [hwM]; exact below_new _ _)
     have BBM := Lib.hid (below_step' BBN.out (show Below wN.heap.size wN wM from by rw [hwM]; exact below_new _ _))
     have SZM : wN.heap.size + 1 ≤ wM.heap.size := by rw [hwM]; simp
     rw [← hwM]
     clear hwM
     refine hK.out _ _ ?_ (fun hHeld => ?_)
     ·exact QS.out _ BBM.out
     clear hK K
     try simp only [Act.put, List.getElem_toArray, List.getElem_cons_zero, List.getElem_cons_succ, List.setIfInBounds_toArray, List.set_cons_zero, List.set_cons_succ]
     refine tq 10 ?_
     refine rd 12 fun K hK => ?_
     have hO := OX.out.same (SameOn.of_below (P := fun _ => True) (below_step' (below_step' (Below.refl _ wX) GN.out) GM.out)) trivial (by omega)
     have hB := BX.out.below (below_step' (below_step' (Below.refl _ wX) GN.out) GM.out)
     have k0 := hB 0 _ rfl
     have k1 := hB 1 _ rfl
     have k2 := hB 2 _ rfl
     have f0 := hO.frozen 0
     have f1 := hO.frozen 1
     have f2 := hO.frozen 2
     have HO := Lib.hid hO
     clear hB hO
     go_simp
     clear k0 k1 k2 f0 f1 f2
     refine hK.out _ _ ?_ (fun hHeld => ?_)
     ·exact (by have h := QS.out _ BBM.out; exact ⟨set_far3 (by have := BBy.out.size; show wA.heap.size ≠ w.heap.size; omega) h.1, set_far3 (by have := BBy.out.size; show wA.heap.size ≠ w.heap.size; omega) h.2.1, set_far3 (by have := BBy.out.size; show wA.heap.size ≠ w.heap.size; omega) h.2.2⟩)
     clear hK K
     try simp only [Act.put, List.getElem_toArray, List.getElem_cons_zero, List.getElem_cons_succ, List.setIfInBounds_toArray, List.set_cons_zero, List.set_cons_succ]
     refine wpAnyH_done (by kernel_rfl) ?_ _
     go_wp2_with fail
     go_meet
     exact copR_mk (pb := wA.heap.size) HSZ.out (below_step' HY.out BBM.out) (by omega) HO.out (RA.out.later (below_step' (below_step' (below_step' (Below.refl _ wA) GX.out) GN.out) GM.out)) (RM.out.later (Below.refl _ wM)) (RN.out.later (below_step' (Below.refl _ wN) GM.out)) (fun k a => ⟨by omega, by omega⟩) (fun k a => ⟨by omega, by omega⟩) (fun k a => ⟨by omega, by omega⟩) (fun k a b => by omega) (fun k a b => by omega) (fun k a b => by omega)
  ·go_simp
   obtain ⟨wM, hwM⟩ : ∃ x, x = y1.alloc (.cells (madeCells #[.slice none 0 0] n2) 51) := ⟨_, rfl⟩
   have RM := Lib.hid (show Holds True (fun q => q = y1.heap.size) wM (.slice (some ⟨y1.heap.size, 0, none⟩) n2 n2) (dLls (List.replicate n2 [])) from by rw [hwM]; exact made_lls n2 hn2 y1)
   have GM := Lib.hid (show Below y1.heap.size y1 wM from by rw [hwM]; exact below_new _ _)
   have BBM := Lib.hid (below_step' BBy.out (show Below y1.heap.size y1 wM from by rw [hwM]; exact below_new _ _))
   have SZM : y1.heap.size + 1 ≤ wM.heap.size := by rw [hwM]; simp
   rw [← hwM]
   clear hwM
   refine hK.out _ _ ?_ (fun hHeld => ?_)
   ·exact QS.out _ BBM.out
   clear hK K
   try simp only [Act.put, List.getElem_toArray, List.getElem_cons_zero, List.getElem_cons_succ, List.setIfInBounds_toArray, List.set_cons_zero, List.set_cons_succ]
   refine wpAnyH_ready (rs := [2, 11]) (by kernel_rfl) (by simp) ?_
   refine AllReadyH.cons rfl (fun K hK => ?_) (AllReadyH.cons rfl (fun K hK => ?_) AllReadyH.nil)
   ·go_simp
    refine (listInts_at c.states _ _ (HS.out.later BBM.out) hs1).mono ?_
    rintro e wA ⟨u, rfl, hu, hb⟩
    obtain ⟨aA, cA, e⟩ := slice_of hu.weak
    subst e
    rw [← N1.out] at hu ⊢
    have RA := Lib.hid (hu.wide (P' := fun q => wM.heap.size ≤ q ∧ q < wA.heap.size) (fun q hq h => ⟨h, hq⟩))
    have GA := Lib.hid hb
    have BBA := Lib.hid (below_step' BBM.out hb)
    have SZA := hb.size
    clear hu hb
    go_wp2_with fail
    refine hK.out _ _ ?_ (fun hHeld => ?_)
    ·exact QS.out _ BBA.out
    clear hK K
    try simp only [Act.put, List.getElem_toArray, List.getElem_cons_zero, List.getElem_cons_succ, List.setIfInBounds_toArray, List.set_cons_zero, List.set_cons_succ]
    refine wpAnyH_ready (rs := [9, 11]) (by kernel_rfl) (by simp) ?_
    refine AllReadyH.cons rfl (fun K hK => ?_) (AllReadyH.cons rfl (fun K hK => ?_) AllReadyH.nil)
    ·go_simp
     refine (listInts_at c.sent _ _ (HN.out.later BBA.out) hs3).mono ?_
     rintro e wN ⟨u, rfl, hu, hb⟩
     obtain ⟨aN, cN, e⟩ := slice_of hu.weak
     subst e
     rw [← N3.out] at hu ⊢
     have RN := Lib.hid (hu.wide (P' := fun q => wA.heap.size ≤ q ∧ q < wN.heap.size) (fun q hq h => ⟨h, hq⟩))
     have GN := Lib.hid hb
     have BBN := Lib.hid (below_step' BBA.out hb)
     have SZN := hb.size
     clear hu hb
     go_wp2_with fail
     refine hK.out _ _ ?_ (fun hHeld => ?_)
     ·exact QS.out _ BBN.out
     clear hK K
     try simp only [Act.put, List.getElem_toArray, List.getElem_cons_zero, List.getElem_cons_succ, List.setIfInBounds_toArray, List.set_cons_zero, List.set_cons_succ]
     refine tq 10 ?_
     refine rd 11 fun K hK => ?_
     go_simp
     obtain ⟨wX, hwX⟩ : ∃ x, x = wN.alloc (.cells #[.slice none 0 0, .slice none 0 0, .slice none 0 0] 31) := ⟨_, rfl⟩
     have BX := Lib.hid (show BoxAt wN.heap.size [.slice none 0 0, .slice none 0 0, .slice none 0 0] wX from by rw [hwX]; exact boxAt_new wN [.slice none 0 0, .slice none 0 0, .slice none 0 0] _)
     have OX : Hid (OpenRow wX wN.heap.size 1 3) := Lib.hid (by rw [hwX]; exact ⟨by decide, _, _, heap_alloc_new wN _, rfl⟩)
     have GX := Lib.hid (show Below wN.heap.size wN wX from by rw [hwX]; exact below_new _ _)
     have BBX := Lib.hid (below_step' BBN.out (show Below wN.heap.size wN wX from by rw [hwX]; exact below_new _ _))
     have SZX : wN.heap.size + 1 ≤ wX.heap.size := by rw [hwX]; simp
     rw [← hwX]
     clear hwX
     refine hK.out _ _ ?_ (fun hHeld => ?_)
     ·exact QS.out _ BBX.out
     clear hK K
     try simp only [Act.put, List.getElem_toArray, List.getElem_cons_zero, List.getElem_cons_succ, List.setIfInBounds_toArray, List.set_cons_zero, List.set_cons_succ]
     refine rd 12 fun K hK => ?_
     have hO := OX.out.same (SameOn.of_below (P := fun _ => True) (Below.refl _ wX)) trivial (by omega)
     have hB := BX.out.below (Below.refl _ wX)
     have k0 := hB 0 _ rfl
     have k1 := hB 1 _ rfl
     have k2 := hB 2 _ rfl
     have f0 := hO.frozen 0
     have f1 := hO.frozen 1
     have f2 := hO.frozen 2
     have HO := Lib.hid hO
     clear hB hO
     go_simp
     clear k0 k1 k2 f0 f1 f2
     refine hK.out _ _ ?_ (fun hHeld => ?_)
     ·exact (by have h := QS.out _ BBX.out; exact ⟨set_far3 (by have := BBy.out.size; show wN.heap.size ≠ w.heap.size; omega) h.1, set_far3 (by have := BBy.out.size; show wN.heap.size ≠ w.heap.size; omega) h.2.1, set_far3 (by have := BBy.out.size; show wN.heap.size ≠ w.heap.size; omega) h.2.2⟩)
     clear hK K
     try simp only [Act.put, List.getElem_toArray, List.getElem_cons_zero, List.getElem_cons_succ, List.setIfInBounds_toArray, List.set_cons_zero, List.set_cons_succ]
     refine wpAnyH_done (by kernel_rfl) ?_ _
     go_wp2_with fail
     go_meet
     exact copR_mk (pb := wN.heap.size) HSZ.out (below_step' HY.out BBX.out) (by omega) HO.out (RA.out.later (below_step' (below_step' (Below.refl _ wA) GN.out) GX.out)) (RM.out.later (below_step' (below_step' (below_step' (Below.refl _ wM) GA.out) GN.out) GX.out)) (RN.out.later (below_step' (Below.refl _ wN) GX.out)) (fun k a => ⟨by omega, by omega⟩) (fun k a => ⟨by omega, by omega⟩) (fun k a => ⟨by omega, by omega⟩) (fun k a b => by omega) (fun k a b => by omega) (fun k a b => by omega)
    ·go_simp
     obtain ⟨wX, hwX⟩ : ∃ x, x = wA.alloc (.cells #[.slice none 0 0, .slice none 0 0, .slice none 0 0] 31) := ⟨_, rfl⟩
     have BX := Lib.hid (show BoxAt wA.heap.size [.slice none 0 0, .slice none 0 0, .slice none 0 0] wX from by rw [hwX]; exact boxAt_new wA [.slice none 0 0, .slice none 0 0, .slice none 0 0] _)
     have OX : Hid (OpenRow wX wA.heap.size 1 3) := Lib.hid (by rw [hwX]; exact ⟨by decide, _, _, heap_alloc_new wA _, rfl⟩)
     have GX := Lib.hid (show Below wA.heap.size wA wX from by rw [hwX]; exact below_new _ _)
     have BBX := Lib.hid (below_step' BBA.out (show Below wA.heap.size wA wX from by rw [hwX]; exact below_new _ _))
     have SZX : wA.heap.size + 1 ≤ wX.heap.size := by rw [hwX]; simp
     rw [← hwX]
     clear hwX
     refine hK.out _ _ ?_ (fun hHeld => ?_)
     ·exact QS.out _ BBX.out
     clear hK K
     try simp only [Act.put, List.getElem_toArray, List.getElem_cons_zero, List.getElem_cons_succ, List.setIfInBounds_toArray, List.set_cons_zero, List.set_cons_succ]
     refine rd 9 fun K hK => ?_
     go_simp
     refine (listInts_at c.sent _ _ (HN.out.later BBX.out) hs3).mono ?_
     rintro e wN ⟨u, rfl, hu, hb⟩
     obtain ⟨aN, cN, e⟩ := slice_of hu.weak
     subst e
     rw [← N3.out] at hu ⊢
     have RN := Lib.hid (hu.wide (P' := fun q => wX.heap.size ≤ q ∧ q < wN.heap.size) (fun q hq h => ⟨h, hq⟩))
     have GN := Lib.hid hb
     have BBN := Lib.hid (below_step' BBX.out hb)
     have SZN := hb.size
     clear hu hb
     go_wp2_with fail
     refine hK.out _ _ ?_ (fun hHeld => ?_)
     ·exact QS.out _ BBN.out
     clear hK K
     try simp only [Act.put, List.getElem_toArray, List.getElem_cons_zero, List.getElem_cons_succ, List.setIfInBounds_toArray, List.set_cons_zero, List.set_cons_succ]
     refine tq 10 ?_
     refine rd 12 fun K hK => ?_
     have hO := OX.out.same (SameOn.of_below (P := fun _ => True) (below_step' (Below.refl _ wX) GN.out)) trivial (by omega)
     have hB := BX.out.below (below_step' (Below.refl _ wX) GN.out)
     have k0 := hB 0 _ rfl
     have k1 := hB 1 _ rfl
     have k2 := hB 2 _ rfl
     have f0 := hO.frozen 0
     have f1 := hO.frozen 1
     have f2 := hO.frozen 2
     have HO := Lib.hid hO
     clear hB hO
     go_simp
     clear k0 k1 k2 f0 f1 f2
     refine hK.out _ _ ?_ (fun hHeld => ?_)
     ·exact (by have h := QS.out _ BBN.out; exact ⟨set_far3 (by have := BBy.out.size; show wA.heap.size ≠ w.heap.size; omega) h.1, set_far3 (by have := BBy.out.size; show wA.heap.size ≠ w.heap.size; omega) h.2.1, set_far3 (by have := BBy.out.size; show wA.heap.size ≠ w.heap.size; omega) h.2.2⟩)
     clear hK K
     try simp only [Act.put, List.getElem_toArray, List.getElem_cons_zero, List.getElem_cons_succ, List.setIfInBounds_toArray, List.set_cons_zero, List.set_cons_succ]
     refine wpAnyH_done (by kernel_rfl) ?_ _
     go_wp2_with fail
     go_meet
     exact copR_mk (pb := wA.heap.size) HSZ.out (below_step' HY.out BBN.out) (by omega) HO.out (RA.out.later (below_step' (below_step' (Below.refl _ wA) GX.out) GN.out)) (RM.out.later (below_step' (below_step' (below_step' (Below.refl _ wM) GA.out) GX.out) GN.out)) (RN.out.later (Below.refl _ wN)) (fun k a => ⟨by omega, by omega⟩) (fun k a => ⟨by omega, by omega⟩) (fun k a => ⟨by omega, by omega⟩) (fun k a b => by omega) (fun k a b => by omega) (fun k a b => by omega)
   ·go_simp
    obtain ⟨wX, hwX⟩ : ∃ x, x = wM.alloc (.cells #[.slice none 0 0, .slice none 0 0, .slice none 0 0] 31) := ⟨_, rfl⟩
    have BX := Lib.hid (show BoxAt wM.heap.size [.slice none 0 0, .slice none 0 0, .slice none 0 0] wX from by rw [hwX]; exact boxAt_new wM [.slice none 0 0, .slice none 0 0, .slice none 0 0] _)
    have OX : Hid (OpenRow wX wM.heap.size 1 3) := Lib.hid (by rw [hwX]; exact ⟨by decide, _, _, heap_alloc_new wM _, rfl⟩)
    have GX := Lib.hid (show Below wM.heap.size wM wX from by rw [hwX]; exact below_new _ _)
    have BBX := Lib.hid (below_step' BBM.out (show Below wM.heap.size wM wX from by rw [hwX]; exact below_new _ _))
    have SZX : wM.heap.size + 1 ≤ wX.heap.size := by rw [hwX]; simp
    rw [← hwX]
    clear hwX
    refine hK.out _ _ ?_ (fun hHeld => ?_)
    ·exact QS.out _ BBX.out
    clear hK K
    try simp only [Act.put, List.getElem_toArray, List.getElem_cons_zero, List.getElem_cons_succ, List.setIfInBounds_toArray, List.set_cons_zero, List.set_cons_succ]
    refine rd 2 fun K hK => ?_
    go_simp
    refine (listInts_at c.states _ _ (HS.out.later BBX.out) hs1).mono ?_
    rintro e wA ⟨u, rfl, hu, hb⟩
    obtain ⟨aA, cA, e⟩ := slice_of hu.weak
    subst e
    rw [← N1.out] at hu ⊢
    have RA := Lib.hid (hu.wide (P' := fun q => wX.heap.size ≤ q ∧ q < wA.heap.size) (fun q hq h => ⟨h, hq⟩))
    have GA := Lib.hid hb
    have BBA := Lib.hid (below_step' BBX.out hb)
    have SZA := hb.size
    clear hu hb
    go_wp2_with fail
    refine hK.out _ _ ?_ (fun hHeld => ?_)
    ·exact QS.out _ BBA.out
    clear hK K
    try simp only [Act.put, List.getElem_toArray, List.getElem_cons_zero, List.getElem_cons_succ, List.setIfInBounds_toArray, List.set_cons_zero, List.set_cons_succ]
    refine rd 9 fun K hK => ?_
    go_simp
    refine (listInts_at c.sent _ _ (HN.out.later BBA.out) hs3).mono ?_
    rintro e wN ⟨u, rfl, hu, hb⟩
    obtain ⟨aN, cN, e⟩ := slice_of hu.weak
    subst e
    rw [← N3.out] at hu ⊢
    have RN := Lib.hid (hu.wide (P' := fun q => wA.heap.size ≤ q ∧ q < wN.heap.size) (fun q hq h => ⟨h, hq⟩))
    have GN := Lib.hid hb
    have BBN := Lib.hid (below_step' BBA.out hb)
    have SZN := hb.size
    clear hu hb
    go_wp2_with fail
    refine hK.out _ _ ?_ (fun hHeld => ?_)
    ·exact QS.out _ BBN.out
    clear hK K
    try simp only [Act.put, List.getElem_toArray, List.getElem_cons_zero, List.getElem_cons_succ, List.setIfInBounds_toArray, List.set_cons_zero, List.set_cons_succ]
    refine tq 10 ?_
    refine rd 12 fun K hK => ?_
    have hO := OX.out.same (SameOn.of_below (P := fun _ => True) (below_step' (below_step' (Below.refl _ wX) GA.out) GN.out)) trivial (by omega)
    have hB := BX.out.below (below_step' (below_step' (Below.refl _ wX) GA.out) GN.out)
    have k0 := hB 0 _ rfl
    have k1 := hB 1 _ rfl
    have k2 := hB 2 _ rfl
    have f0 := hO.frozen 0
    have f1 := hO.frozen 1
    have f2 := hO.frozen 2
    have HO := Lib.hid hO
    clear hB hO
    go_simp
    clear k0 k1 k2 f0 f1 f2
    refine hK.out _ _ ?_ (fun hHeld => ?_)
    ·exact (by have h := QS.out _ BBN.out; exact ⟨set_far3 (by have := BBy.out.size; show wM.heap.size ≠ w.heap.size; omega) h.1, set_far3 (by have := BBy.out.size; show wM.heap.size ≠ w.heap.size; omega) h.2.1, set_far3 (by have := BBy.out.size; show wM.heap.size ≠ w.heap.size; omega) h.2.2⟩)
    clear hK K
    try simp only [Act.put, List.getElem_toArray, List.getElem_cons_zero, List.getElem_cons_succ, List.setIfInBounds_toArray, List.set_cons_zero, List.set_cons_succ]
    refine wpAnyH_done (by kernel_rfl) ?_ _
    go_wp2_with fail
    go_meet
    exact copR_mk (pb := wM.heap.size) HSZ.out (below_step' HY.out BBN.out) (by omega) HO.out (RA.out.later (below_step' (Below.refl _ wA) GN.out)) (RM.out.later (below_step' (below_step' (below_step' (Below.refl _ wM) GX.out) GA.out) GN.out)) (RN.out.later (Below.refl _ wN)) (fun k a => ⟨by omega, by omega⟩) (fun k a => ⟨by omega, by omega⟩) (fun k a => ⟨by omega, by omega⟩) (fun k a b => by omega) (fun k a b => by omega) (fun k a b => by omega)
  ·go_simp
   obtain ⟨wX, hwX⟩ : ∃ x, x = y1.alloc (.cells #[.slice none 0 0, .slice none 0 0, .slice none 0 0] 31) := ⟨_, rfl⟩
   have BX := Lib.hid (show BoxAt y1.heap.size [.slice none 0 0, .slice none 0 0, .slice none 0 0] wX from by rw [hwX]; exact boxAt_new y1 [.slice none 0 0, .slice none 0 0, .slice none 0 0] _)
   have OX : Hid (OpenRow wX y1.heap.size 1 3) := Lib.hid (by rw [hwX]; exact ⟨by decide, _, _, heap_alloc_new y1 _, rfl⟩)
   have GX := Lib.hid (show Below y1.heap.size y1 wX from by rw [hwX]; exact below_new _ _)
   have BBX := Lib.hid (below_step' BBy.out (show Below y1.heap.size y1 wX from by rw [hwX]; exact below_new _ _))
   have SZX : y1.heap.size + 1 ≤ wX.heap.size := by rw [hwX]; simp
   rw [← hwX]
   clear hwX
   refine hK.out _ _ ?_ (fun hHeld => ?_)
   ·exact QS.out _ BBX.out
   clear hK K
   try simp only [Act.put, List.getElem_toArray, List.getElem_cons_zero, List.getElem_cons_succ, List.setIfInBounds_toArray, List.set_cons_zero, List.set_cons_succ]
   refine wpAnyH_ready (rs := [2, 6]) (by kernel_rfl) (by simp) ?_
   refine AllReadyH.cons rfl (fun K hK => ?_) (AllReadyH.cons rfl (fun K hK => ?_) AllReadyH.nil)
   ·go_simp
    refine (listInts_at c.states _ _ (HS.out.later BBX.out) hs1).mono ?_
    rintro e wA ⟨u, rfl, hu, hb⟩
    obtain ⟨aA, cA, e⟩ := slice_of hu.weak
    subst e
    rw [← N1.out] at hu ⊢
    have RA := Lib.hid (hu.wide (P' := fun q => wX.heap.size ≤ q ∧ q < wA.heap.size) (fun q hq h => ⟨h, hq⟩))
    have GA := Lib.hid hb
    have BBA := Lib.hid (below_step' BBX.out hb)
    have SZA := hb.size
    clear hu hb
    go_wp2_with fail
    refine hK.out _ _ ?_ (fun hHeld => ?_)
    ·exact QS.out _ BBA.out
    clear hK K
    try simp only [Act.put, List.getElem_toArray, List.getElem_cons_zero, List.getElem_cons_succ, List.setIfInBounds_toArray, List.set_cons_zero, List.set_cons_succ]
    refine wpAnyH_ready (rs := [6, 9]) (by kernel_rfl) (by simp) ?_
    refine AllReadyH.cons rfl (fun K hK => ?_) (AllReadyH.cons rfl (fun K hK => ?_) AllReadyH.nil)
    ·go_simp
     obtain ⟨wM, hwM⟩ : ∃ x, x = wA.alloc (.cells (madeCells #[.slice none 0 0] n2) 51) := ⟨_, rfl⟩
     have RM := Lib.hid (show Holds True (fun q => q = wA.heap.size) wM (.slice (some ⟨wA.heap.size, 0, none⟩) n2 n2) (dLls (List.replicate n2 [])) from by rw [hwM]; exact made_lls n2 hn2 wA)
     have GM := Lib.hid (show Below wA.heap.size wA wM from by rw [hwM]; exact below_new _ _)
     have BBM := Lib.hid (below_step' BBA.out (show Below wA.heap.size wA wM from by rw [hwM]; exact below_new _ _))
     have SZM : wA.heap.size + 1 ≤ wM.heap.size := by rw [hwM]; simp
     rw [← hwM]
     clear hwM
     refine hK.out _ _ ?_ (fun hHeld => ?_)
     ·exact QS.out _ BBM.out
     clear hK K
     try simp only [Act.put, List.getElem_toArray, List.getElem_cons_zero, List.getElem_cons_succ, List.setIfInBounds_toArray, List.set_cons_zero, List.set_cons_succ]
     refine rd 9 fun K hK => ?_
     go_simp
     refine (listInts_at c.sent _ _ (HN.out.later BBM.out) hs3).mono ?_
     rintro e wN ⟨u, rfl, hu, hb⟩
     obtain ⟨aN, cN, e⟩ := slice_of hu.weak
     subst e
     rw [← N3.out] at hu ⊢
     have RN := Lib.hid (hu.wide (P' := fun q => wM.heap.size ≤ q ∧ q < wN.heap.size) (fun q hq h => ⟨h, hq⟩))
     have GN := Lib.hid hb
     have BBN := Lib.hid (below_step' BBM.out hb)
     have SZN := hb.size
     clear hu hb
     go_wp2_with fail
     refine hK.out _ _ ?_ (fun hHeld => ?_)
     ·exact QS.out _ BBN.out
     clear hK K
     try simp only [Act.put, List.getElem_toArray, List.getElem_cons_zero, List.getElem_cons_succ, List.setIfInBounds_toArray, List.set_cons_zero, List.set_cons_succ]
     refine tq 10 ?_
     refine rd 12 fun K hK => ?_
     have hO := OX.out.same (SameOn.of_below (P := fun _ => True) (below_step' (below_step' (below_step' (Below.refl _ wX) GA.out) GM.out) GN.out)) trivial (by omega)
     have hB := BX.out.below (below_step' (below_step' (below_step' (Below.refl _ wX) GA.out) GM.out) GN.out)
     have k0 := hB 0 _ rfl
     have k1 := hB 1 _ rfl
     have k2 := hB 2 _ rfl
     have f0 := hO.frozen 0
     have f1 := hO.frozen 1
     have f2 := hO.frozen 2
     have HO := Lib.hid hO
     clear hB hO
     go_simp
     clear k0 k1 k2 f0 f1 f2
     refine hK.out _ _ ?_ (fun hHeld => ?_)
     ·exact (by have h := QS.out _ BBN.out; exact ⟨set_far3 (by have := BBy.out.size; show y1.heap.size ≠ w.heap.size; omega) h.1, set_far3 (by have := BBy.out.size; show y1.heap.size ≠ w.heap.size; omega) h.2.1, set_far3 (by have := BBy.out.size; show y1.heap.size ≠ w.heap.size; omega) h.2.2⟩)
     clear hK K
     try simp only [Act.put, List.getElem_toArray, List.getElem_cons_zero, List.getElem_cons_succ, List.setIfInBounds_toArray, List.set_cons_zero, List.set_cons_succ]
     refine wpAnyH_done (by kernel_rfl) ?_ _
     go_wp2_with fail
     go_meet
     exact copR_mk (pb := y1.heap.size) HSZ.out (below_step' HY.out BBN.out) (by omega) HO.out (RA.out.later (below_step' (below_step' (Below.refl _ wA) GM.out) GN.out)) (RM.out.later (below_step' (Below.refl _ wM) GN.out)) (RN.out.later (Below.refl _ wN)) (fun k a => ⟨by omega, by omega⟩) (fun k a => ⟨by omega, by omega⟩) (fun k a => ⟨by omega, by omega⟩) (fun k a b => by omega) (fun k a b => by omega) (fun k a b => by omega)
    ·go_simp
     refine (listInts_at c.sent _ _ (HN.out.later BBA.out) hs3).mono ?_
     rintro e wN ⟨u, rfl, hu, hb⟩
     obtain ⟨aN, cN, e⟩ := slice_of hu.weak
     subst e
     rw [← N3.out] at hu ⊢
     have RN := Lib.hid (hu.wide (P' := fun q => wA.heap.size ≤ q ∧ q < wN.heap.size) (fun q hq h => ⟨h, hq⟩))
     have GN := Lib.hid hb
     have BBN := Lib.hid (below_step' BBA.out hb)
     have SZN := hb.size
     clear hu hb
     go_wp2_with fail
     refine hK.out _ _ ?_ (fun hHeld => ?_)
     ·exact QS.out _ BBN.out
     clear hK K
     try simp only [Act.put, List.getElem_toArray, List.getElem_cons_zero, List.getElem_cons_succ, List.setIfInBounds_toArray, List.set_cons_zero, List.set_cons_succ]
     refine rd 6 fun K hK => ?_
     go_simp
     obtain ⟨wM, hwM⟩ : ∃ x, x = wN.alloc (.cells (madeCells #[.slice none 0 0] n2) 51) := ⟨_, rfl⟩
     have RM := Lib.hid (show Holds True (fun q => q = wN.heap.size) wM (.slice (some ⟨wN.heap.size, 0, none⟩) n2 n2) (dLls (List.replicate n2 [])) from by rw [hwM]; exact made_lls n2 hn2 wN)
     have GM := Lib.hid (show Below wN.heap.size wN wM from by rw [hwM]; exact below_new _ _)
     have BBM := Lib.hid (below_step' BBN.out (show Below wN.heap.size wN wM from by rw [hwM]; exact below_new _ _))
     have SZM : wN.heap.size + 1 ≤ wM.heap.size := by rw [hwM]; simp
     rw [← hwM]
     clear hwM
     refine hK.out _ _ ?_ (fun hHeld => ?_)
     ·exact QS.out _ BBM.out
     clear hK K
     try simp only [Act.put, List.getElem_toArray, List.getElem_cons_zero, List.getElem_cons_succ, List.setIfInBounds_toArray, List.set_cons_zero, List.set_cons_succ]
     refine tq 10 ?_
     refine rd 12 fun K hK => ?_
     have hO := OX.out.same (SameOn.of_below (P := fun _ => True) (below_step' (below_step' (below_step' (Below.refl _ wX) GA.out) GN.out) GM.out)) trivial (by omega)
     have hB := BX.out.below (below_step' (below_step' (below_step' (Below.refl _ wX) GA.out) GN.out) GM.out)
     have k0 := hB 0 _ rfl
     have k1 := hB 1 _ rfl
     have k2 := hB 2 _ rfl
     have f0 := hO.frozen 0
     have f1 := hO.frozen 1
     have f2 := hO.frozen 2
     have HO := Lib.hid hO
     clear hB hO
     go_simp
     clear k0 k1 k2 f0 f1 f2
     refine hK.out _ _ ?_ (fun hHeld => ?_)
     ·exact (by have h := QS.out _ BBM.out; exact ⟨set_far3 (by have := BBy.out.size; show y1.heap.size ≠ w.heap.size; omega) h.1, set_far3 (by have := BBy.out.size; show y1.heap.size ≠ w.heap.size; omega) h.2.1, set_far3 (by have := BBy.out.size; show y1.heap.size ≠ w.heap.size; omega) h.2.2⟩)
     clear hK K
     try simp only [Act.put, List.getElem_toArray, List.getElem_cons_zero, List.getElem_cons_succ, List.setIfInBounds_toArray, List.set_cons_zero, List.set_cons_succ]
     refine wpAnyH_done (by kernel_rfl) ?_ _
     go_wp2_with fail
     go_meet
     exact copR_mk (pb := y1.heap.size) HSZ.out (below_step' HY.out BBM.out) (by omega) HO.out (RA.out.later (below_step' (below_step' (Below.refl _ wA) GN.out) GM.out)) (RM.out.later (Below.refl _ wM)) (RN.out.later (below_step' (Below.refl _ wN) GM.out)) (fun k a => ⟨by omega, by omega⟩) (fun k a => ⟨by omega, by omega⟩) (fun k a => ⟨by omega, by omega⟩) (fun k a b => by omega) (fun k a b => by omega) (fun k a b => by omega)
   ·go_simp
    obtain ⟨wM, hwM⟩ : ∃ x, x = wX.alloc (.cells (madeCells #[.slice none 0 0] n2) 51) := ⟨_, rfl⟩
    have RM := Lib.hid (show Holds True (fun q => q = wX.heap.size) wM (.slice (some ⟨wX.heap.size, 0, none⟩) n2 n2) (dLls (List.replicate n2 [])) from by rw [hwM]; exact made_lls n2 hn2 wX)
    have GM := Lib.hid (show Below wX.heap.size wX wM from by rw [hwM]; exact below_new _ _)
    have BBM := Lib.hid (below_step' BBX.out (show Below wX.heap.size wX wM from by rw [hwM]; exact below_new _ _))
    have SZM : wX.heap.size + 1 ≤ wM.heap.size := by rw [hwM]; simp
    rw [← hwM]
    clear hwM
    refine hK.out _ _ ?_ (fun hHeld => ?_)
    ·exact QS.out _ BBM.out
    clear hK K
    try simp only [Act.put, List.getElem_toArray, List.getElem_cons_zero, List.getElem_cons_succ, List.setIfInBounds_toArray, List.set_cons_zero, List.set_cons_succ]
    refine rd 2 fun K hK => ?_
    go_simp
    refine (listInts_at c.states _ _ (HS.out.later BBM.out) hs1).mono ?_
    rintro e wA ⟨u, rfl, hu, hb⟩
    obtain ⟨aA, cA, e⟩ := slice_of hu.weak
    subst e
    rw [← N1.out] at hu ⊢
    have RA := Lib.hid (hu.wide (P' := fun q => wM.heap.size ≤ q ∧ q < wA.heap.size) (fun q hq h => ⟨h, hq⟩))
    have GA := Lib.hid hb
    have BBA := Lib.hid (below_step' BBM.out hb)
    have SZA := hb.size
    clear hu hb
    go_wp2_with fail
    refine hK.out _ _ ?_ (fun hHeld => ?_)
    ·exact QS.out _ BBA.out
    clear hK K
    try simp only [Act.put, List.getElem_toArray, List.getElem_cons_zero, List.getElem_cons_succ, List.setIfInBounds_toArray, List.set_cons_zero, List.set_cons_succ]
    refine rd 9 fun K hK => ?_
    go_simp
    refine (listInts_at c.sent _ _ (HN.out.later BBA.out) hs3).mono ?_
    rintro e wN ⟨u, rfl, hu, hb⟩
    obtain ⟨aN, cN, e⟩ := slice_of hu.weak
    subst e
    rw [← N3.out] at hu ⊢
    have RN := Lib.hid (hu.wide (P' := fun q => wA.heap.size ≤ q ∧ q < wN.heap.size) (fun q hq h => ⟨h, hq⟩))
    have GN := Lib.hid hb
    have BBN := Lib.hid (below_step' BBA.out hb)
    have SZN := hb.size
    clear hu hb
    go_wp2_with fail
    refine hK.out _ _ ?_ (fun hHeld => ?_)
    ·exact QS.out _ BBN.out
    clear hK K
    try simp only [Act.put, List.getElem_toArray, List.getElem_cons_zero, List.getElem_cons_succ, List.setIfInBounds_toArray, List.set_cons_zero, List.set_cons_succ]
    refine tq 10 ?_
    refine rd 12 fun K hK => ?_
    have hO := OX.out.same (SameOn.of_below (P := fun _ => True) (below_step' (below_step' (below_step' (Below.refl _ wX) GM.out) GA.out) GN.out)) trivial (by omega)
    have hB := BX.out.below (below_step' (below_step' (below_step' (Below.refl _ wX) GM.out) GA.out) GN.out)
    have k0 := hB 0 _ rfl
    have k1 := hB 1 _ rfl
    have k2 := hB 2 _ rfl
    have f0 := hO.frozen 0
    have f1 := hO.frozen 1
    have f2 := hO.frozen 2
    have HO := Lib.hid hO
    clear hB hO
    go_simp
    clear k0 k1 k2 f0 f1 f2
    refine hK.out _ _ ?_ (fun hHeld => ?_)
    ·exact (by have h := QS.out _ BBN.out; exact ⟨set_far3 (by have := BBy.out.size; show y1.heap.size ≠ w.heap.size; omega) h.1, set_far3 (by have := BBy.out.size; show y1.heap.size ≠ w.heap.size; omega) h.2.1, set_far3 (by have := BBy.out.size; show y1.heap.size ≠ w.heap.size; omega) h.2.2⟩)
    clear hK K
    try simp only [Act.put, List.getElem_toArray, List.getElem_cons_zero, List.getElem_cons_succ, List.setIfInBounds_toArray, List.set_cons_zero, List.set_cons_succ]
    refine wpAnyH_done (by kernel_rfl) ?_ _
    go_wp2_with fail
    go_meet
    exact copR_mk (pb := y1.heap.size) HSZ.out (below_step' HY.out BBN.out) (by omega) HO.out (RA.out.later (below_step' (Below.refl _ wA) GN.out)) (RM.out.later (below_step' (below_step' (Below.refl _ wM) GA.out) GN.out)) (RN.out.later (Below.refl _ wN)) (fun k a => ⟨by omega, by omega⟩) (fun k a => ⟨by omega, by omega⟩) (fun k a => ⟨by omega, by omega⟩) (fun k a b => by omega) (fun k a b => by omega) (fun k a b => by omega)
 case rest =>
  obtain ⟨⟨pb, lb, aA, aN, cA, cN, rfl, hpb, hpx, hp, hop, hL⟩, hbel⟩ := hcut
  obtain ⟨y2, hy2⟩ : ∃ y, y = wc := ⟨_, rfl⟩
  subst hy2
  have k1 := X0.out.below hbel 1 _ rfl
  have HP2 := Lib.hid hp
  have HO2 := Lib.hid hop
  have HL2 := Lib.hid hL
  have BY2 := Lib.hid hbel
  clear hp hop hL hbel
  go_wp2_with fail
  clear k1
  go_loopw [20] (fun i wr => ∃ j : Nat, i = .int .i64 j ∧ j ≤ n2 ∧ BoxAt pb [.slice aA n1 cA, .slice (some ⟨lb, 0, none⟩) n2 n2, .slice aN n3 cN] wr ∧ HoldsL True (fun q => y0.heap.size ≤ q ∧ q ≠ pb) wr [.slice aA n1 cA, .slice (some ⟨lb, 0, none⟩) n2 n2, .slice aN n3 cN] (Cf.mk c.states (c.links.take j ++ List.replicate (n2 - j) []) c.sent).d ∧ Below y0.heap.size y0 wr) (fun i _ => n2 - (intOf i).toNat)
  case atStart => exact ⟨0, rfl, by omega, HP2.out, by simpa using HL2.out, BY2.out⟩
  case round =>
   obtain ⟨j, rfl, hj, hp1, hL1, hB1⟩ := hrel
   have BY := Lib.hid hB1
   by_cases hj2 : j < n2
   ·have hj2' : (j : Int) < n2 := by omega
    obtain ⟨m, hm⟩ := some_of_lt (l := c.links) (i := j) (by rw [← N2.out]; exact hj2)
    obtain ⟨sb, so, ma, mc, e, _, e9, hcm, hm5⟩ := lls_at (HL.out.later hB1) hm
    clear e9
    subst e
    obtain ⟨ml, hml⟩ : ∃ n, n = m.length := ⟨_, rfl⟩
    rw [← hml] at hcm hm5
    have ML := Lib.hid hml
    have HML : Hid (m.length ≤ 1000000) := Lib.hid (SM4.out m (List.mem_of_getElem? hm))
    have HM5 := Lib.hid hm5
    have HL5 := Lib.hid (hL1.wide (P' := fun q => y0.heap.size ≤ q ∧ q ≠ pb ∧ q < wr.heap.size) (fun q hq h => ⟨h.1, h.2, hq⟩))
    have HLS := Lib.hid (And.intro N2.out hm)
    have HP1 := Lib.hid hp1
    have pw : pb < wr.heap.size := World.block_lt_of_cell? wr _ (hp1 0 _ rfl)
    have yw : y0.heap.size ≤ wr.heap.size := BY.out.size
    clear hml hm5 hL1 hB1 hm
    go_wp2_with fail
    clear hcm
    refine wp_region_held_drew (S := (fun w' => w'.cell? ⟨pb, 1, none⟩ = some (.slice (some ⟨lb, 0, none⟩) n2 n2))) (by kernel_rfl) ?_ (fun hHeld => ?_)
    ·exact hp1.below (below_drewN (Below.refl _ wr) 1) 1 _ rfl
    refine tq 0 ?_
    refine tq 1 ?_
    refine tq 2 ?_
    refine tq 3 ?_
    refine rd 4 fun K hK => ?_
    go_simp
    refine (listMsgs_at m _ _ (HM5.out.later (below_drewN (Below.refl _ wr) 1)) HML.out).mono ?_
    rintro e w4 ⟨u, rfl, hu, hb⟩
    obtain ⟨ua, uc, e⟩ := slice_of hu.weak
    subst e
    rw [← ML.out] at hu ⊢
    have B4 := Lib.hid (below_step' (below_drewN (Below.refl _ wr) 1) hb)
    have RU := Lib.hid (hu.wide (P' := fun q => wr.heap.size ≤ q ∧ q < w4.heap.size) (fun q hq h => ⟨h, hq⟩))
    clear hu hb
    go_wp2_with fail
    refine hK.out _ _ ?_ (fun hHeld => ?_)
    ·exact hp1.below B4.out 1 _ rfl
    clear hK K
    try simp only [Act.put, List.getElem_toArray, List.getElem_cons_zero, List.getElem_cons_succ, List.setIfInBounds_toArray, List.set_cons_zero, List.set_cons_succ]
    refine tq 5 ?_
    refine rd 6 fun K hK => ?_
    obtain ⟨P1, P2, P3, h1, h2, h3, q1, q2, q3, hd⟩ := cf_openL (HL5.out.later B4.out)
    obtain ⟨d12, d13, d23⟩ := hd trivial
    obtain ⟨g, Q, ma', mc', e, e9, hPg, hgl, hc, hO, hQP, hQg, _, hF⟩ := lls_focus (i := j) (m := []) h2 (repL_at hj2 HLS.out.1)
    clear e9
    simp only [Option.some.injEq, Addr.mk.injEq, and_true] at e
    subst e
    have hF2 := hF w4 (.slice ua ml uc) m (fun q => wr.heap.size ≤ q ∧ q < w4.heap.size) (SameOn.refl _ _) RU.out (fun q hq => ⟨fun e => by have := (q2 _ hPg).2.2; omega, .inr (fun h => by have := (q2 _ h).2.2; omega)⟩)
    have hlb : pb ≠ lb := fun e => (q2 _ hPg).2.1 e.symm
    have f0 := hO.frozen j
    have FF := Lib.hid hF2
    have H1 := Lib.hid h1
    have H3 := Lib.hid h3
    have QQ := Lib.hid (And.intro q1 (And.intro q2 (And.intro q3 (And.intro d12 (And.intro d13 d23)))))
    have HPG := Lib.hid hPg
    have HLB := Lib.hid hlb
    have HC4 := Lib.hid (World.block_lt_of_cell? w4 _ hc)
    clear hF hF2 hO h1 h2 h3 q1 q2 q3 hd d12 d13 d23 hPg hgl hQP hQg hlb
    go_simp
    clear hc f0
    refine hK.out _ _ ?_ (fun hHeld => ?_)
    ·exact set_far (.inl (fun e => HLB.out e.symm)) (hp1.below (B4.out) 1 _ rfl)
    clear hK K
    try simp only [Act.put, List.getElem_toArray, List.getElem_cons_zero, List.getElem_cons_succ, List.setIfInBounds_toArray, List.set_cons_zero, List.set_cons_succ]
    refine wpAnyH_done (by kernel_rfl) ?_ _
    go_wp2_with fail
    go_roundw
    case rel => exact ⟨j + 1, by go_num, by omega, fun i v e => set_far (.inl (fun e => HLB.out e.symm)) (hp1.below B4.out i v e), by
     have hq := QQ.out
     rw [take_rep hj2 HLS.out]
     exact cf_mkL (P := fun q => y0.heap.size ≤ q ∧ q ≠ pb) (c := ⟨c.states, (c.links.take j ++ List.replicate (n2 - j) []).set j m, c.sent⟩) (P1 := P1) (P3 := P3) (H1.out.same ((SameOn.refl _ _).set _ _ (fun h => hq.2.2.2.1 _ h HPG.out))) FF.out (H3.out.same ((SameOn.refl _ _).set _ _ (fun h => hq.2.2.2.2.2 _ HPG.out h))) (fun q h => ⟨(hq.1 q h).1, (hq.1 q h).2.1⟩) (fun q h => h.elim (fun h => ⟨(hq.2.1 q h).1, (hq.2.1 q h).2.1⟩) (fun h => ⟨by omega, by omega⟩)) (fun q h => ⟨(hq.2.2.1 q h).1, (hq.2.2.1 q h).2.1⟩) (fun q h h' => h'.elim (fun h' => hq.2.2.2.1 q h h') (fun h' => by have := (hq.1 q h).2.2; omega)) hq.2.2.2.2.1 (fun q h h' => h.elim (fun h => hq.2.2.2.2.2 q h h') (fun h => by have := (hq.2.2.1 q h').2.2; omega)), (below_step' BY.out B4.out).setCell (by have := (QQ.out.2.1 _ HPG.out).1; omega) _⟩
    case measure => simp [intOf]; omega
   ·obtain rfl : n2 = j := by omega
    have hj3 : ¬ (n2 : Int) < (n2 : Int) := by omega
    have x0 := X1.out.below hB1 0 _ rfl
    have x1 := X1.out.below hB1 1 _ rfl
    have x2 := X1.out.below hB1 2 _ rfl
    have hO1 := O1.out.same (SameOn.of_below (P := fun _ => True) hB1) trivial (by have := Y0z.out; omega)
    have f0 := hO1.frozen 0
    have f1 := hO1.frozen 1
    have f2 := hO1.frozen 2
    have p0 := hp1 0 _ rfl
    have p1 := hp1 1 _ rfl
    have p2 := hp1 2 _ rfl
    have he9 : c.links.take n2 ++ List.replicate (n2 - n2) [] = c.links := by rw [Nat.sub_self, N2.out, List.take_length, List.replicate_zero, List.append_nil]
    rw [he9] at hL1
    have HL9 := Lib.hid (show HoldsL True (fun q => y0.heap.size ≤ q ∧ q ≠ pb) wr [.slice aA n1 cA, .slice (some ⟨lb, 0, none⟩) n2 n2, .slice aN n3 cN] c.d from hL1)
    clear he9
    have HO9 := Lib.hid hO1
    clear hL1 hB1 hp1 hO1
    go_wp2_with fail
    obtain ⟨w9, hw9⟩ : ∃ x, x = ((wr.setCell ⟨w.heap.size + 1, 0, none⟩ (.slice aA n1 cA)).setCell ⟨w.heap.size + 1, 1, none⟩ (.slice (some ⟨lb, 0, none⟩) n2 n2)).setCell ⟨w.heap.size + 1, 2, none⟩ (.slice aN n3 cN) := ⟨_, rfl⟩
    have hB9 : BoxAt (w.heap.size + 1) [.slice aA n1 cA, .slice (some ⟨lb, 0, none⟩) n2 n2, .slice aN n3 cN] w9 := by rw [hw9]; exact box3_at HO9.out
    have hL9 : HoldsL True (fresh w) w9 [.slice aA n1 cA, .slice (some ⟨lb, 0, none⟩) n2 n2, .slice aN n3 cN] c.d := by
     rw [hw9]
     have hs9 : SameOn (fun q => y0.heap.size ≤ q ∧ q ≠ pb) wr (((wr.setCell ⟨w.heap.size + 1, 0, none⟩ (.slice aA n1 cA)).setCell ⟨w.heap.size + 1, 1, none⟩ (.slice (some ⟨lb, 0, none⟩) n2 n2)).setCell ⟨w.heap.size + 1, 2, none⟩ (.slice aN n3 cN)) := box3_same (fun h => by have h1 := h.1; have := Y0z.out; omega)
     exact (HL9.out.same hs9).wide (fun q _ h => by have h1 := h.1; have := Y0z.out; show w.heap.size ≤ q; omega)
    have hb9 : Below w.heap.size w w9 := by
     rw [hw9]
     exact (((below_step (by have := Y0z.out; omega) B0.out BY.out).setCell (by show w.heap.size ≤ w.heap.size + 1; omega) _).setCell (by show w.heap.size ≤ w.heap.size + 1; omega) _).setCell (by show w.heap.size ≤ w.heap.size + 1; omega) _
    have r0 := hB9 0 _ rfl
    have r1 := hB9 1 _ rfl
    have r2 := hB9 2 _ rfl
    rw [← hw9]
    refine bodyPost_ret (v := .agg #[.slice aA n1 cA, .slice (some ⟨lb, 0, none⟩) n2 n2, .slice aN n3 cN]) (by simp [results, Try.results37, go_sem, r0, r1, r2]) rfl ?_
    exact ⟨_, _, _, rfl, hL9, hb9⟩
end Go.Proofs.Ytiblcpkejhiehaa

set_option linter.unusedSimpArgs false
set_option linter.unusedVariables false
namespace Go.Proofs.Ytiblcpkejhiehaa
open Go.RowKit Go.PlainAid
def Sp.d (s : Sp) : List D := [dI s.kind, dI s.node, dI s.k, dI s.link, dI s.seq]
def dSteps (l : List Sp) : D := .row 5 (l.map Sp.d)
theorem steps_at {w : World} {a : Option Addr} {k cap i : Nat} {l : List Sp} {s : Sp} (h : Has w (.slice a k cap) (dSteps l)) (hs : l[i]? = some s) :
  ∃ b o, a = some ⟨b, o, none⟩ ∧ w.cell? ⟨b, o + i * 5, none⟩ = some (.int .i64 s.kind) ∧ w.cell? ⟨b, o + i * 5 + 1, none⟩ = some (.int .i64 s.node) ∧ w.cell? ⟨b, o + i * 5 + 2, none⟩ = some (.int .i64 s.k) ∧ w.cell? ⟨b, o + i * 5 + 3, none⟩ = some (.int .i64 s.link) ∧ w.cell? ⟨b, o + i * 5 + 4, none⟩ = some (.int .i64 s.seq) := by
 obtain ⟨b, o, c, e, h1, h2, cs, hcs, hc⟩ := cells_of (f := Sp.d) h hs
 obtain ⟨v0, r, rfl, h0, hcs⟩ := hcs.cons
 obtain ⟨v1, r, rfl, h1', hcs⟩ := HasL.cons hcs
 obtain ⟨v2, r, rfl, h2', hcs⟩ := HasL.cons hcs
 obtain ⟨v3, r, rfl, h3', hcs⟩ := HasL.cons hcs
 obtain ⟨v4, r, rfl, h4', hcs⟩ := HasL.cons hcs
 obtain rfl := Holds.val h0
 obtain rfl := Holds.val h1'
 obtain rfl := Holds.val h2'
 obtain rfl := Holds.val h3'
 obtain rfl := Holds.val h4'
 simp only [Value.slice.injEq] at e
 exact ⟨b, o, e.1, hc 0 _ rfl, hc 1 _ rfl, hc 2 _ rfl, hc 3 _ rfl, hc 4 _ rfl⟩
theorem cf_slices {S : Prop} {P : Nat → Prop} {w : World} {c : Cf} {v1 v2 v3 : Value} (h : HoldsL S P w [v1, v2, v3] c.d) : ∃ (a1 a2 a3 : Option Addr) (n1 n2 n3 e1 e2 e3 : Nat), v1 = .slice a1 n1 e1 ∧ v2 = .slice a2 n2 e2 ∧ v3 = .slice a3 n3 e3 := by
 obtain ⟨P1, P2, P3, c1, c2, c3, _⟩ := cf_openL h
 obtain ⟨a1, e1, rfl⟩ := slice_of c1.weak
 obtain ⟨a2, e2, rfl⟩ := slice_of c2.weak
 obtain ⟨a3, e3, rfl⟩ := slice_of c3.weak
 exact ⟨_, _, _, _, _, _, _, _, _, rfl, rfl, rfl⟩
theorem runOf_drop {A : Ap} {c d : Cf} {l : List Sp} {j : Nat} {s : Sp} (hs : l[j]? = some s) (h : runOf A c l = ((runOf A d (l.drop j)).1, j + (runOf A d (l.drop j)).2.1, (runOf A d (l.drop j)).2.2)) (he : errOf A d s = 0) :
  runOf A c l = ((runOf A (doneOf A d s) (l.drop (j + 1))).1, (j + 1) + (runOf A (doneOf A d s) (l.drop (j + 1))).2.1, (runOf A (doneOf A d s) (l.drop (j + 1))).2.2) := by
 rw [h, drop_of hs, runOf, if_pos he]
 simp only [Prod.mk.injEq, true_and, and_true]
 omega
theorem runOf_stop {A : Ap} {c d : Cf} {l : List Sp} {j : Nat} {s : Sp} (hs : l[j]? = some s) (h : runOf A c l = ((runOf A d (l.drop j)).1, j + (runOf A d (l.drop j)).2.1, (runOf A d (l.drop j)).2.2)) (he : errOf A d s ≠ 0) :
  runOf A c l = (d, j, errOf A d s) := by
 rw [h, drop_of hs, runOf, if_neg he]
 rfl
theorem run_deed1 (w : World) (a b : Value) : (Instr.field 97 (.agg #[a, b]) 1).run Try.prog w = .ok b w := by
 have hu := Try.underlying97
 simp [Instr.field, run_underlying hu, asAgg, part, Result.andThen]
attribute [go_sem] run_deed1
theorem SysW.later' {A : Ap} {c : Cf} {P : Nat → Prop} {b mb : Nat} {vG vT v1 v2 v3 : Value} {wb w w' : World} (h : SysW A c P b mb vG vT v1 v2 v3 wb w) (hb : Below w.heap.size w w') : SysW A c P b mb vG vT v1 v2 v3 wb w' :=
 ⟨h.sys.below hb, h.g, h.t, h.cf.later hb, h.nb, h.nm, h.low, fun q hq => Nat.lt_of_lt_of_le (h.top q hq) hb.size, below_step' h.bel hb⟩
theorem SysW.toR {A : Ap} {c : Cf} {P : Nat → Prop} {b mb : Nat} {vG vT v1 v2 v3 : Value} {wb w : World} (h : SysW A c P b mb vG vT v1 v2 v3 wb w) : SysR A c b mb vG vT v1 v2 v3 w := by
 obtain ⟨h1, h2, h3⟩ := cf_has h.cf.weak
 exact ⟨h.sys, h.g.below h.bel, h.t.later h.bel, h1, h2, h3⟩
/-- What Run tells. -/
def Ran (A : Ap) (c : Cf) (l : List Sp) (w : World) (e : Ending) (w' : World) : Prop := ∃ u1 u2 u3, e = .returned (.tuple #[.agg #[u1, u2, u3], .int .i64 (runOf A c l).2.1, .int .i64 (runOf A c l).2.2]) ∧ HoldsL True (fresh w) w' [u1, u2, u3] (runOf A c l).1.d ∧ Below w.heap.size w w'
set_option maxHeartbeats 8000000 in
set_option maxRecDepth 100000 in
theorem run_at (A : Ap) (c : Cf) (l : List Sp) (hOK : CfOK A c) (hsm : SmallTab A.t) (hsc : SmallCf c) (vG vT v1 v2 v3 vS : Value) (w : World) (hG : LinksAt w vG A.l) (hT : Has w vT (dTab A.t)) (hC : HasL w [v1, v2, v3] c.d) (hS : Has w vS (dSteps l)) (hn : l.length ≤ 1000000) :
    Calls Try.prog 20 #[.agg #[.int .i64 A.n, vG, vT, .bool A.ff], .agg #[v1, v2, v3], vS] w fun e w' => Ran A c l w e w' := by
  obtain ⟨ga, gc, ee⟩ := slice_of (has_of_links hG)
  subst ee
  obtain ⟨ta, tc, ee⟩ := slice_of hT
  subst ee
  obtain ⟨sa, sc, ee⟩ := slice_of hS
  subst ee
  obtain ⟨a1, a2, a3, n1, n2, n3, e1, e2, e3, ee1, ee2, ee3⟩ := cf_slices hC
  subst ee1
  subst ee2
  subst ee3
  obtain ⟨tl, htl⟩ : ∃ n, n = A.t.length := ⟨_, rfl⟩
  obtain ⟨gl, hgl⟩ : ∃ n, n = A.l.length := ⟨_, rfl⟩
  obtain ⟨sl, hsl⟩ : ∃ n, n = l.length := ⟨_, rfl⟩
  obtain ⟨ff, hff⟩ : ∃ f, f = A.ff := ⟨_, rfl⟩
  rw [← hgl] at hG ⊢
  rw [← htl] at hT ⊢
  rw [← hsl] at hS hn ⊢
  rw [← hff]
  have HG := Lib.hid hG
  have HT := Lib.hid hT
  have HC := Lib.hid hC
  have HS := Lib.hid hS
  have OK := Lib.hid hOK
  have SMT := Lib.hid hsm
  have SMC := Lib.hid hsc
  have SL := Lib.hid hsl
  have FF := Lib.hid hff
  clear hG hT hC hS hOK hsm hsc hsl hff htl hgl
  go_enter Try.func20, Try.ntmps20
  try simp only [List.append_eq, List.cons_append, List.nil_append]
  go_upto_region 1 with fail
  obtain ⟨y0, hy0⟩ : ∃ y, y = ((w.alloc (.cells #[.int .i64 A.n, .slice ga gl gc, .slice ta tl tc, .bool ff] 27)).alloc (.cells #[.slice a1 n1 e1, .slice a2 n2 e2, .slice a3 n3 e3] 31)).alloc (.cells #[.slice none 0 0, .slice none 0 0, .slice none 0 0] 31) := ⟨_, rfl⟩
  have hb0 : Below w.heap.size w y0 := by rw [hy0]; exact below_step' (below_step' (below_new _ _) (below_new _ _)) (below_new _ _)
  have hx0 : BoxAt w.heap.size [.int .i64 A.n, .slice ga gl gc, .slice ta tl tc, .bool ff] y0 := by rw [hy0]; exact ((boxAt_new w [.int .i64 A.n, .slice ga gl gc, .slice ta tl tc, .bool ff] _).below (below_new _ _)).below (below_new _ _)
  have hx1 : BoxAt (w.heap.size + 1) [.slice a1 n1 e1, .slice a2 n2 e2, .slice a3 n3 e3] y0 := by
    have h := (boxAt_new (w.alloc (.cells #[.int .i64 A.n, .slice ga gl gc, .slice ta tl tc, .bool ff] 27)) [.slice a1 n1 e1, .slice a2 n2 e2, .slice a3 n3 e3] 31).below (below_new _ (.cells #[.slice none 0 0, .slice none 0 0, .slice none 0 0] 31))
    rw [size_alloc] at h
    rw [hy0]; exact h
  have hx2 : BoxAt (w.heap.size + 2) [.slice none 0 0, .slice none 0 0, .slice none 0 0] y0 := by
    have h := boxAt_new ((w.alloc (.cells #[.int .i64 A.n, .slice ga gl gc, .slice ta tl tc, .bool ff] 27)).alloc (.cells #[.slice a1 n1 e1, .slice a2 n2 e2, .slice a3 n3 e3] 31)) [.slice none 0 0, .slice none 0 0, .slice none 0 0] 31
    rw [size_alloc, size_alloc] at h
    rw [hy0]; exact h
  have ho2 : OpenRow y0 (w.heap.size + 2) 1 3 := by
    have h := heap_alloc_new ((w.alloc (.cells #[.int .i64 A.n, .slice ga gl gc, .slice ta tl tc, .bool ff] 27)).alloc (.cells #[.slice a1 n1 e1, .slice a2 n2 e2, .slice a3 n3 e3] 31)) (.cells #[.slice none 0 0, .slice none 0 0, .slice none 0 0] 31)
    rw [size_alloc, size_alloc] at h
    rw [hy0]; exact ⟨by decide, _, _, h, rfl⟩
  have hz0 : w.heap.size + 3 ≤ y0.heap.size := by rw [hy0]; simp
  have B0 := Lib.hid hb0
  have X0 := Lib.hid hx0
  have X1 := Lib.hid hx1
  have X2 := Lib.hid hx2
  have O2 := Lib.hid ho2
  rw [show w.heap.size + 1 + 1 = w.heap.size + 2 from rfl]
  rw [← hy0]
  clear hy0 hb0 hx0 hx1 hx2 ho2
  have Q1 : Hid (∀ w', Below y0.heap.size y0 w' → w'.cell? ⟨w.heap.size, 0, none⟩ = some (.int .i64 A.n) ∧ w'.cell? ⟨w.heap.size, 1, none⟩ = some (.slice ga gl gc) ∧ w'.cell? ⟨w.heap.size, 2, none⟩ = some (.slice ta tl tc) ∧ w'.cell? ⟨w.heap.size, 3, none⟩ = some (.bool ff) ∧ w'.cell? ⟨w.heap.size + 1, 0, none⟩ = some (.slice a1 n1 e1) ∧ w'.cell? ⟨w.heap.size + 1, 1, none⟩ = some (.slice a2 n2 e2) ∧ w'.cell? ⟨w.heap.size + 1, 2, none⟩ = some (.slice a3 n3 e3)) := Lib.hid (fun w' hb => ⟨X0.out.below hb 0 _ rfl, X0.out.below hb 1 _ rfl, X0.out.below hb 2 _ rfl, X0.out.below hb 3 _ rfl, X1.out.below hb 0 _ rfl, X1.out.below hb 1 _ rfl, X1.out.below hb 2 _ rfl⟩)
  refine wp_region_held_drew (S := (fun w' => w'.cell? ⟨w.heap.size, 0, none⟩ = some (.int .i64 A.n) ∧ w'.cell? ⟨w.heap.size, 1, none⟩ = some (.slice ga gl gc) ∧ w'.cell? ⟨w.heap.size, 2, none⟩ = some (.slice ta tl tc) ∧ w'.cell? ⟨w.heap.size, 3, none⟩ = some (.bool ff) ∧ w'.cell? ⟨w.heap.size + 1, 0, none⟩ = some (.slice a1 n1 e1) ∧ w'.cell? ⟨w.heap.size + 1, 1, none⟩ = some (.slice a2 n2 e2) ∧ w'.cell? ⟨w.heap.size + 1, 2, none⟩ = some (.slice a3 n3 e3))) (by kernel_rfl) ?_ (fun hHeld => ?_)
  · exact Q1.out _ (below_drewN (Below.refl _ y0) 1)
  refine tq 0 ?_
  refine tq 1 ?_
  refine rd 2 fun K hK => ?_
  go_simp
  refine (copied_at c _ _ _ _ (HC.out.later (below_step' B0.out (below_drewN (Below.refl _ y0) 1))) SMC.out).mono ?_
  rintro e w3 ⟨u1, u2, u3, rfl, hL, hb⟩
  obtain ⟨b1, b2, b3, m1, m2, m3, f1, f2, f3, ee1, ee2, ee3⟩ := cf_slices hL
  subst ee1
  subst ee2
  subst ee3
  have HL3 := Lib.hid hL
  have B3 := Lib.hid (below_step' (below_drewN (Below.refl _ y0) 1) hb)
  clear hL hb
  go_wp2_with fail
  refine hK.out _ _ ?_ (fun hHeld => ?_)
  · exact Q1.out _ B3.out
  clear hK K
  try simp only [Act.put, List.getElem_toArray, List.getElem_cons_zero, List.getElem_cons_succ, List.setIfInBounds_toArray, List.set_cons_zero, List.set_cons_succ]
  refine rd 3 fun K hK => ?_
  go_simp
  refine (systemIn_at A.n gl gc ga (.slice ta tl tc) ff b1 b2 b3 m1 m2 m3 f1 f2 f3 none _ ⟨_, _, _, rfl⟩).mono ?_
  rintro e w4 ⟨b, mb, rfl, hb1, hmb1, hne, hS, hb⟩
  have SY4 := Lib.hid hS
  have B4 := Lib.hid (below_step' B3.out hb)
  have B34 := Lib.hid hb
  clear hS hb
  go_wp2_with fail
  refine hK.out _ _ ?_ (fun hHeld => ?_)
  · exact Q1.out _ B4.out
  clear hK K
  try simp only [Act.put, List.getElem_toArray, List.getElem_cons_zero, List.getElem_cons_succ, List.setIfInBounds_toArray, List.set_cons_zero, List.set_cons_succ]
  refine tq 4 ?_
  refine wpAnyH_done (by kernel_rfl) ?_ _
  rw [FF.out] at SY4
  have hP0 : ∀ q, y0.heap.size ≤ q ∧ q < w3.heap.size → q < w4.heap.size := fun q h => Nat.lt_of_lt_of_le h.2 B34.out.size
  have SW0 := Lib.hid (show SysW A c (fun q => y0.heap.size ≤ q ∧ q < w3.heap.size) b mb (.slice ga gl gc) (.slice ta tl tc) (.slice b1 m1 f1) (.slice b2 m2 f2) (.slice b3 m3 f3) w w4 from ⟨SY4.out, HG.out, HT.out, (HL3.out.wide (fun q hq h => ⟨h, hq⟩)).later B34.out, fun h => by have := h.2; omega, fun h => by have := h.2; omega, fun q h => by have := h.1; omega, hP0, below_step' B0.out B4.out⟩)
  clear hP0
  go_wp2_with fail
  go_loopw [19] (fun i wr => ∃ (j : Nat) (d : Cf) (P' : Nat → Prop), i = .int .i64 j ∧ j ≤ sl ∧ CfOK A d ∧ runOf A c l = ((runOf A d (l.drop j)).1, j + (runOf A d (l.drop j)).2.1, (runOf A d (l.drop j)).2.2) ∧ SysW A d P' b mb (.slice ga gl gc) (.slice ta tl tc) (.slice b1 m1 f1) (.slice b2 m2 f2) (.slice b3 m3 f3) w wr ∧ (∀ q, P' q → y0.heap.size ≤ q) ∧ Below y0.heap.size y0 wr) (fun i _ => sl - (intOf i).toNat)
  case atStart => exact ⟨0, c, _, rfl, by omega, OK.out, by simp, SW0.out, fun q h => h.1, B4.out⟩
  case round =>
    obtain ⟨j, d, P', rfl, hj, hOKd, hrun, hSW, hPl, hB⟩ := hrel
    have hO := O2.out.same (SameOn.of_below (P := fun _ => True) hB) trivial (by omega)
    have BR := Lib.hid hB
    have SWj := Lib.hid hSW
    have OKd := Lib.hid hOKd
    have HO := Lib.hid hO
    have HPL := Lib.hid hPl
    have c4 := hSW.sys.box 4 _ rfl
    have c5 := hSW.sys.box 5 _ rfl
    have c6 := hSW.sys.box 6 _ rfl
    by_cases hj2 : j < sl
    · have hj2' : (j : Int) < sl := by omega
      obtain ⟨⟨s0, s1, s2, s3, s4⟩, hs⟩ := some_of_lt (l := l) (i := j) (by rw [← SL.out]; exact hj2)
      obtain ⟨sb, so, e, g0, g1, g2, g3, g4⟩ := steps_at (HS.out.later hSW.bel) hs
      subst e
      have HRUN := Lib.hid hrun
      have HSS := Lib.hid hs
      simp only at g0 g1 g2 g3 g4
      clear hO hB hSW hOKd hPl hrun hs c4 c5 c6
      go_wp2_with fail
      obtain ⟨y5, hy5⟩ : ∃ y, y = wr.alloc (.cells #[.int .i64 s0, .int .i64 s1, .int .i64 s2, .int .i64 s3, .int .i64 s4] 50) := ⟨_, rfl⟩
      have hb5 : Below wr.heap.size wr y5 := by rw [hy5]; exact below_new _ _
      have X5 := Lib.hid (show BoxAt wr.heap.size [.int .i64 s0, .int .i64 s1, .int .i64 s2, .int .i64 s3, .int .i64 s4] y5 from by rw [hy5]; exact boxAt_new wr [.int .i64 s0, .int .i64 s1, .int .i64 s2, .int .i64 s3, .int .i64 s4] _)
      have SWr := Lib.hid (SWj.out.later' hb5)
      have B55 := Lib.hid hb5
      rw [← hy5]
      clear hy5 hb5 g0 g1 g2 g3 g4
      refine (may_at A d OKd.out SMT.out s0 s1 s2 s3 s4 b mb _ _ _ _ _ _ SWr.out.toR).mono ?_
      rintro e w5 ⟨rfl, hb⟩
      have B5 := Lib.hid hb
      clear hb
      obtain ⟨ev, hev⟩ : ∃ e, e = errOf A d ⟨s0, s1, s2, s3, s4⟩ := ⟨_, rfl⟩
      rw [← hev]
      by_cases h0 : ev = 0
      · subst h0
        have hkind : (s0 = 0 ∧ errPick A d ⟨s0, s1, s2, s3, s4⟩ = 0) ∨ (s0 = 1 ∧ errDel A d ⟨s0, s1, s2, s3, s4⟩ = 0) := by
          unfold errOf at hev
          split at hev
          · next h => exact .inl ⟨h, hev.symm⟩
          · split at hev
            · next h => exact .inr ⟨h, hev.symm⟩
            · cases hev
        have hrun2 := runOf_drop HSS.out HRUN.out hev.symm
        have hdone := doneOf_ok OKd.out hev.symm
        have RUN2 := Lib.hid hrun2
        have DON := Lib.hid hdone
        clear hrun2 hdone hev
        have hbl : b < wr.heap.size := World.block_lt_of_cell? wr _ (SWj.out.sys.box 2 _ rfl)
        have Q8 : Hid (∀ w', Below w5.heap.size w5 w' → w'.cell? ⟨b, 7, none⟩ = some (.map (some mb)) ∧ w'.cell? ⟨wr.heap.size, 0, none⟩ = some (.int .i64 s0) ∧ w'.cell? ⟨wr.heap.size, 1, none⟩ = some (.int .i64 s1) ∧ w'.cell? ⟨wr.heap.size, 2, none⟩ = some (.int .i64 s2) ∧ w'.cell? ⟨wr.heap.size, 3, none⟩ = some (.int .i64 s3) ∧ w'.cell? ⟨wr.heap.size, 4, none⟩ = some (.int .i64 s4) ∧ w'.heap[mb]? = some deeds) := Lib.hid (fun w' hb => by
          have hB := below_step' B5.out hb
          exact ⟨SWr.out.sys.box.below hB 7 _ rfl, X5.out.below hB 0 _ rfl, X5.out.below hB 1 _ rfl, X5.out.below hB 2 _ rfl, X5.out.below hB 3 _ rfl, X5.out.below hB 4 _ rfl, (SWr.out.sys.below hB).map⟩)
        have hw5 : wr.heap.size < w5.heap.size := World.block_lt_of_cell? w5 _ (Q8.out w5 (Below.refl _ _)).2.1
        have hmb5 : mb < w5.heap.size := (Array.getElem?_eq_some_iff.1 (Q8.out w5 (Below.refl _ _)).2.2.2.2.2.2).1
        have K8 : Hid (∀ w', SameOn (fun q => ¬ P' q) (w5.drewN 1) w' → w'.cell? ⟨b, 7, none⟩ = some (.map (some mb)) ∧ w'.cell? ⟨wr.heap.size, 0, none⟩ = some (.int .i64 s0) ∧ w'.cell? ⟨wr.heap.size, 1, none⟩ = some (.int .i64 s1) ∧ w'.cell? ⟨wr.heap.size, 2, none⟩ = some (.int .i64 s2) ∧ w'.cell? ⟨wr.heap.size, 3, none⟩ = some (.int .i64 s3) ∧ w'.cell? ⟨wr.heap.size, 4, none⟩ = some (.int .i64 s4) ∧ w'.heap[mb]? = some deeds) := Lib.hid (fun w' hs => by
          have hw : ¬ P' wr.heap.size := fun h => Nat.lt_irrefl _ (SWj.out.top _ h)
          obtain ⟨k1, k2, k3, k4, k5, k6, k7⟩ := Q8.out w5 (Below.refl _ _)
          exact ⟨(hs.cell (a := ⟨b, 7, none⟩) SWj.out.nb (Nat.lt_trans hbl hw5)).trans k1, (hs.cell (a := ⟨wr.heap.size, 0, none⟩) hw hw5).trans k2, (hs.cell (a := ⟨wr.heap.size, 1, none⟩) hw hw5).trans k3, (hs.cell (a := ⟨wr.heap.size, 2, none⟩) hw hw5).trans k4, (hs.cell (a := ⟨wr.heap.size, 3, none⟩) hw hw5).trans k5, (hs.cell (a := ⟨wr.heap.size, 4, none⟩) hw hw5).trans k6, (hs.2 mb SWj.out.nm hmb5).trans k7⟩)
        have hEnd : ∀ (d' : Cf) (P2 : Nat → Prop) (w6 : World), d' = doneOf A d ⟨s0, s1, s2, s3, s4⟩ → HoldsL True P2 w6 [.slice b1 m1 f1, .slice b2 m2 f2, .slice b3 m3 f3] d'.d → (∀ q, P2 q → P' q ∨ (w5.drewN 1).heap.size ≤ q) → SameOn (fun q => ¬ P' q) (w5.drewN 1) w6 → Below w.heap.size w w6 →
            SysW A d' (fun q => P2 q ∧ q < w6.heap.size) b mb (.slice ga gl gc) (.slice ta tl tc) (.slice b1 m1 f1) (.slice b2 m2 f2) (.slice b3 m3 f3) w w6 ∧ (∀ q, P2 q ∧ q < w6.heap.size → y0.heap.size ≤ q) ∧ Below y0.heap.size y0 w6 := by
          intro d' P2 w6 hd' hC2 hP2 hs2 hb2
          have hy5 : y0.heap.size ≤ w5.heap.size := Nat.le_trans (Nat.le_trans BR.out.size B55.out.size) B5.out.size
          have hb5 : b < w5.heap.size := Nat.lt_trans hbl hw5
          refine ⟨⟨(SWr.out.sys.below B5.out).same (w := w5) ⟨hs2.1, hs2.2⟩ SWj.out.nb SWj.out.nm, HG.out, HT.out, hC2.wide (fun q hq h => ⟨h, hq⟩), fun h => (hP2 _ h.1).elim SWj.out.nb (fun h => by have h : w5.heap.size ≤ b := h; omega), fun h => (hP2 _ h.1).elim SWj.out.nm (fun h => by have h : w5.heap.size ≤ mb := h; omega), fun q h => (hP2 q h.1).elim (SWj.out.low q) (fun h => by have h : w5.heap.size ≤ q := h; omega), fun q h => h.2, hb2⟩, fun q h => (hP2 q h.1).elim (HPL.out q) (fun h => by have h : w5.heap.size ≤ q := h; omega), ?_⟩
          have h05 := below_step' (below_step' BR.out B55.out) B5.out
          exact ⟨(hb2.os).trans (B0.out.os.symm), (hb2.tape).trans (B0.out.tape.symm), (hb2.output).trans (B0.out.output.symm), Nat.le_trans hy5 hs2.1, fun k hk => (hs2.2 k (fun h => by have := HPL.out _ h; omega) (show k < w5.heap.size by omega)).trans (h05.block k hk)⟩
        have HEND := Lib.hid hEnd
        clear hEnd
        rcases hkind with ⟨hk, he0⟩ | ⟨hk, he0⟩
        · have LK : ∀ w' : World, w'.heap[mb]? = some deeds → (Instr.lookup 91 (.map (some mb)) (.int .i64 s0) false).run Try.prog w' = .ok (.agg #[.func (.func 55) #[] #[], .func (.func 56) #[] #[]]) w' := fun w' h => look_deed h s0 deedP (by unfold deedOf; rw [if_pos hk]) false
          have HE0 := Lib.hid he0
          have HDN : Hid (donePick A d ⟨s0, s1, s2, s3, s4⟩ = doneOf A d ⟨s0, s1, s2, s3, s4⟩) := Lib.hid (by unfold doneOf; rw [if_pos hk])
          clear he0 hk
          go_wp2_with fail
          refine wp_region_held_drew (S := (fun w' => w'.cell? ⟨b, 7, none⟩ = some (.map (some mb)) ∧ w'.cell? ⟨wr.heap.size, 0, none⟩ = some (.int .i64 s0) ∧ w'.cell? ⟨wr.heap.size, 1, none⟩ = some (.int .i64 s1) ∧ w'.cell? ⟨wr.heap.size, 2, none⟩ = some (.int .i64 s2) ∧ w'.cell? ⟨wr.heap.size, 3, none⟩ = some (.int .i64 s3) ∧ w'.cell? ⟨wr.heap.size, 4, none⟩ = some (.int .i64 s4) ∧ w'.heap[mb]? = some deeds)) (by kernel_rfl) ?_ (fun hHeld => ?_)
          · exact Q8.out _ (below_drewN (Below.refl _ w5) 1)
          refine tq 0 ?_
          refine tq 1 ?_
          refine tq 2 ?_
          refine tq 3 ?_
          refine tq 4 ?_
          refine tq 5 ?_
          refine tq 6 ?_
          refine tq 7 ?_
          refine tq 8 ?_
          refine tq 9 ?_
          refine rd 10 fun K hK => ?_
          go_simp
          refine (pick_at A d OKd.out SMT.out s0 s1 s2 s3 s4 HE0.out P' b mb (.slice ga gl gc) (.slice ta tl tc) (.slice b1 m1 f1) (.slice b2 m2 f2) (.slice b3 m3 f3) w _ (SWr.out.later' (below_step' B5.out (below_drewN (Below.refl _ w5) 1)))).mono ?_
          rintro e w6 ⟨rfl, ⟨P2, hC2, hP2⟩, hsm2, hb2⟩
          have HC2 := Lib.hid hC2
          have HP2 := Lib.hid hP2
          have HS2 := Lib.hid hsm2
          have HB2 := Lib.hid hb2
          clear hC2 hP2 hsm2 hb2
          go_wp2_with fail
          refine hK.out _ _ ?_ (fun hHeld => ?_)
          · exact K8.out w6 HS2.out
          clear hK K
          try simp only [Act.put, List.getElem_toArray, List.getElem_cons_zero, List.getElem_cons_succ, List.setIfInBounds_toArray, List.set_cons_zero, List.set_cons_succ]
          refine wpAnyH_done (by kernel_rfl) ?_ _
          obtain ⟨hn1, hn2, hn3⟩ := HEND.out _ P2 w6 HDN.out HC2.out HP2.out HS2.out HB2.out
          rw [HDN.out] at hn1
          have HN1 := Lib.hid hn1
          have HN2 := Lib.hid hn2
          have HN3 := Lib.hid hn3
          clear hn1 hn2 hn3
          go_wp2_with fail
          go_roundw
          case rel => exact ⟨j + 1, doneOf A d ⟨s0, s1, s2, s3, s4⟩, _, by go_num, by omega, DON.out, by have := RUN2.out; exact this, HN1.out, HN2.out, HN3.out⟩
          case measure => simp [intOf]; omega
        · have LK : ∀ w' : World, w'.heap[mb]? = some deeds → (Instr.lookup 91 (.map (some mb)) (.int .i64 s0) false).run Try.prog w' = .ok (.agg #[.func (.func 57) #[] #[], .func (.func 58) #[] #[]]) w' := fun w' h => look_deed h s0 deedD (by unfold deedOf; rw [hk]; rfl) false
          have HE0 := Lib.hid he0
          have HDN : Hid (doneDel A d ⟨s0, s1, s2, s3, s4⟩ = doneOf A d ⟨s0, s1, s2, s3, s4⟩) := Lib.hid (by unfold doneOf; rw [if_neg (by show ¬ s0 = 0; omega)])
          clear he0 hk
          go_wp2_with fail
          refine wp_region_held_drew (S := (fun w' => w'.cell? ⟨b, 7, none⟩ = some (.map (some mb)) ∧ w'.cell? ⟨wr.heap.size, 0, none⟩ = some (.int .i64 s0) ∧ w'.cell? ⟨wr.heap.size, 1, none⟩ = some (.int .i64 s1) ∧ w'.cell? ⟨wr.heap.size, 2, none⟩ = some (.int .i64 s2) ∧ w'.cell? ⟨wr.heap.size, 3, none⟩ = some (.int .i64 s3) ∧ w'.cell? ⟨wr.heap.size, 4, none⟩ = some (.int .i64 s4) ∧ w'.heap[mb]? = some deeds)) (by kernel_rfl) ?_ (fun hHeld => ?_)
          · exact Q8.out _ (below_drewN (Below.refl _ w5) 1)
          refine tq 0 ?_
          refine tq 1 ?_
          refine tq 2 ?_
          refine tq 3 ?_
          refine tq 4 ?_
          refine tq 5 ?_
          refine tq 6 ?_
          refine tq 7 ?_
          refine tq 8 ?_
          refine tq 9 ?_
          refine rd 10 fun K hK => ?_
          go_simp
          refine (deliver_at A d OKd.out SMT.out s0 s1 s2 s3 s4 HE0.out P' b mb (.slice ga gl gc) (.slice ta tl tc) (.slice b1 m1 f1) (.slice b2 m2 f2) (.slice b3 m3 f3) w _ (SWr.out.later' (below_step' B5.out (below_drewN (Below.refl _ w5) 1)))).mono ?_
          rintro e w6 ⟨rfl, ⟨P2, hC2, hP2⟩, hsm2, hb2⟩
          have HC2 := Lib.hid hC2
          have HP2 := Lib.hid hP2
          have HS2 := Lib.hid hsm2
          have HB2 := Lib.hid hb2
          clear hC2 hP2 hsm2 hb2
          go_wp2_with fail
          refine hK.out _ _ ?_ (fun hHeld => ?_)
          · exact K8.out w6 HS2.out
          clear hK K
          try simp only [Act.put, List.getElem_toArray, List.getElem_cons_zero, List.getElem_cons_succ, List.setIfInBounds_toArray, List.set_cons_zero, List.set_cons_succ]
          refine wpAnyH_done (by kernel_rfl) ?_ _
          obtain ⟨hn1, hn2, hn3⟩ := HEND.out _ P2 w6 HDN.out HC2.out HP2.out HS2.out HB2.out
          rw [HDN.out] at hn1
          have HN1 := Lib.hid hn1
          have HN2 := Lib.hid hn2
          have HN3 := Lib.hid hn3
          clear hn1 hn2 hn3
          go_wp2_with fail
          go_roundw
          case rel => exact ⟨j + 1, doneOf A d ⟨s0, s1, s2, s3, s4⟩, _, by go_num, by omega, DON.out, by have := RUN2.out; exact this, HN1.out, HN2.out, HN3.out⟩
          case measure => simp [intOf]; omega
      · have hne : (ev != 0) = true := by simpa using h0
        have hrun2 := runOf_stop HSS.out HRUN.out (by rw [← hev]; exact h0)
        rw [← hev] at hrun2
        have RUN2 := Lib.hid hrun2
        have h05 := below_step' (below_step' BR.out B55.out) B5.out
        have hO := O2.out.same (SameOn.of_below (P := fun _ => True) h05) trivial (by omega)
        have HOW := Lib.hid hO
        have z0 := X2.out.below h05 0 _ rfl
        have z1 := X2.out.below h05 1 _ rfl
        have z2 := X2.out.below h05 2 _ rfl
        have q0 := hO.frozen 0
        have q1 := hO.frozen 1
        have q2 := hO.frozen 2
        have c4 := SWr.out.sys.box.below B5.out 4 _ rfl
        have c5 := SWr.out.sys.box.below B5.out 5 _ rfl
        have c6 := SWr.out.sys.box.below B5.out 6 _ rfl
        have HCW := Lib.hid (SWr.out.cf.later B5.out)
        have HBW := Lib.hid (below_step' SWr.out.bel B5.out)
        have HEV := Lib.hid hev
        clear hrun2 h05 hO hev
        go_wp2_with fail
        obtain ⟨w9, hw9⟩ : ∃ x, x = ((w5.setCell ⟨w.heap.size + 2, 0, none⟩ (.slice b1 m1 f1)).setCell ⟨w.heap.size + 2, 1, none⟩ (.slice b2 m2 f2)).setCell ⟨w.heap.size + 2, 2, none⟩ (.slice b3 m3 f3) := ⟨_, rfl⟩
        have hB9 : BoxAt (w.heap.size + 2) [.slice b1 m1 f1, .slice b2 m2 f2, .slice b3 m3 f3] w9 := by rw [hw9]; exact box3_at HOW.out
        have hs9 : SameOn P' w5 w9 := by rw [hw9]; exact box3_same (fun h => by have := HPL.out _ h; omega)
        have hL9 : HoldsL True (fresh w) w9 [.slice b1 m1 f1, .slice b2 m2 f2, .slice b3 m3 f3] d.d := (HCW.out.same hs9).wide (fun q _ h => by have := HPL.out _ h; show w.heap.size ≤ q; omega)
        have hb9 : Below w.heap.size w w9 := by
          rw [hw9]
          exact ((HBW.out.setCell (by show w.heap.size ≤ w.heap.size + 2; omega) _).setCell (by show w.heap.size ≤ w.heap.size + 2; omega) _).setCell (by show w.heap.size ≤ w.heap.size + 2; omega) _
        have r0 := hB9 0 _ rfl
        have r1 := hB9 1 _ rfl
        have r2 := hB9 2 _ rfl
        rw [← hw9]
        refine bodyPost_ret (v := .tuple #[.agg #[.slice b1 m1 f1, .slice b2 m2 f2, .slice b3 m3 f3], .int .i64 j, .int .i64 ev]) (by simp [results, Try.results20, go_sem, r0, r1, r2]) rfl ?_
        exact ⟨_, _, _, by rw [RUN2.out], by rw [RUN2.out]; exact hL9, hb9⟩
    · obtain rfl : j = sl := by omega
      have hj3 : ¬ (j : Int) < j := by omega
      have hrun2 : runOf A c l = (d, j, 0) := by rw [hrun, List.drop_of_length_le (by rw [SL.out]; exact Nat.le_refl _)]; simp [runOf]
      have RUN2 := Lib.hid hrun2
      have HOW := Lib.hid hO
      have z0 := X2.out.below hB 0 _ rfl
      have z1 := X2.out.below hB 1 _ rfl
      have z2 := X2.out.below hB 2 _ rfl
      have q0 := hO.frozen 0
      have q1 := hO.frozen 1
      have q2 := hO.frozen 2
      have HCW := Lib.hid hSW.cf
      have HBW := Lib.hid hSW.bel
      clear hrun hrun2 hO hB hSW hOKd hPl
      go_wp2_with fail
      obtain ⟨w9, hw9⟩ : ∃ x, x = ((wr.setCell ⟨w.heap.size + 2, 0, none⟩ (.slice b1 m1 f1)).setCell ⟨w.heap.size + 2, 1, none⟩ (.slice b2 m2 f2)).setCell ⟨w.heap.size + 2, 2, none⟩ (.slice b3 m3 f3) := ⟨_, rfl⟩
      have hB9 : BoxAt (w.heap.size + 2) [.slice b1 m1 f1, .slice b2 m2 f2, .slice b3 m3 f3] w9 := by rw [hw9]; exact box3_at HOW.out
      have hs9 : SameOn P' wr w9 := by rw [hw9]; exact box3_same (fun h => by have := HPL.out _ h; omega)
      have hL9 : HoldsL True (fresh w) w9 [.slice b1 m1 f1, .slice b2 m2 f2, .slice b3 m3 f3] d.d := (HCW.out.same hs9).wide (fun q _ h => by have := HPL.out _ h; show w.heap.size ≤ q; omega)
      have hb9 : Below w.heap.size w w9 := by
        rw [hw9]
        exact ((HBW.out.setCell (by show w.heap.size ≤ w.heap.size + 2; omega) _).setCell (by show w.heap.size ≤ w.heap.size + 2; omega) _).setCell (by show w.heap.size ≤ w.heap.size + 2; omega) _
      have r0 := hB9 0 _ rfl
      have r1 := hB9 1 _ rfl
      have r2 := hB9 2 _ rfl
      rw [← hw9]
      refine bodyPost_ret (v := .tuple #[.agg #[.slice b1 m1 f1, .slice b2 m2 f2, .slice b3 m3 f3], .int .i64 j, .int .i64 0]) (by simp [results, Try.results20, go_sem, r0, r1, r2]) rfl ?_
      exact ⟨_, _, _, by rw [RUN2.out], by rw [RUN2.out]; exact hL9, hb9⟩
end Go.Proofs.Ytiblcpkejhiehaa

set_option linter.unusedSimpArgs false
set_option linter.unusedVariables false
namespace Go.Proofs.Ytiblcpkejhiehaa
open Go.RowKit Go.PlainAid
theorem infoStep : (Try.prog.info? 50).map (fun i => (i.zero, i.size, i.bytes)) = some (some (.agg #[.int .i64 0, .int .i64 0, .int .i64 0, .int .i64 0, .int .i64 0]), 5, 40) := by kernel_rfl
theorem step_five {P : Nat → Prop} {w : World} (s : Sp) : HoldsL False P w [.int .i64 s.kind, .int .i64 s.node, .int .i64 s.k, .int .i64 s.link, .int .i64 s.seq] s.d := by
 refine ⟨rfl, fun _ _ => False, fun _ _ h => h.elim, fun f => f.elim, fun j c d hc hd => ?_⟩
 match j, hc, hd with
 | 0, hc, hd => simp [Sp.d] at hc hd; subst hc hd; exact has_int _ _ _ _
 | 1, hc, hd => simp [Sp.d] at hc hd; subst hc hd; exact has_int _ _ _ _
 | 2, hc, hd => simp [Sp.d] at hc hd; subst hc hd; exact has_int _ _ _ _
 | 3, hc, hd => simp [Sp.d] at hc hd; subst hc hd; exact has_int _ _ _ _
 | 4, hc, hd => simp [Sp.d] at hc hd; subst hc hd; exact has_int _ _ _ _
 | j + 5, hc, hd => simp at hc
/-- The list under way, in its box. -/
def TryF (wb : World) (lb : Nat) (v : Value) (xs : List Sp) (w : World) : Prop := Fld False (fun q => q ≠ lb) 50 5 wb w lb 0 v (xs.map Sp.d)
def Tried (A : Ap) (c : Cf) (s : Sp) (wb : World) (lb : Nat) (xs : List Sp) (e : Ending) (w' : World) : Prop := e = .returned (.tuple #[]) ∧ ∃ v', TryF wb lb v' (if errOf A c s = 0 then xs ++ [s] else xs) w'
set_option maxHeartbeats 8000000 in
set_option maxRecDepth 100000 in
theorem try_at (A : Ap) (c : Cf) (hOK : CfOK A c) (hsm : SmallTab A.t) (s0 s1 s2 s3 s4 : Int) (xs : List Sp) (hn : xs.length ≤ 1000000) (b mb xb lb : Nat) (vG vT v1 v2 v3 v : Value) (wb w : World) (hS : SysR A c b mb vG vT v1 v2 v3 wb) (hx : wb.cell? ⟨xb, 0, none⟩ = some (.pointer (some ⟨b, 0, none⟩))) (hF : TryF wb lb v xs w) :
  Calls Try.prog 35 #[.agg #[.int .i64 s0, .int .i64 s1, .int .i64 s2, .int .i64 s3, .int .i64 s4], .pointer (some ⟨xb, 0, none⟩), .pointer (some ⟨lb, 0, none⟩)] w fun e w' => Tried A c ⟨s0, s1, s2, s3, s4⟩ wb lb xs e w' := by
 obtain ⟨iS, hiS, hzS, hsS, hbS⟩ := info_parts infoStep
 obtain ⟨ep, hep⟩ : ∃ e, e = errOf A c ⟨s0, s1, s2, s3, s4⟩ := ⟨_, rfl⟩
 have EP := Lib.hid hep
 have SR := Lib.hid hS
 have FF := Lib.hid hF
 have OK := Lib.hid hOK
 have SM := Lib.hid hsm
 have HX := Lib.hid hx
 clear hep hS hF hOK hsm hx
 go_enter Try.func35, Try.ntmps35
 try simp only [List.append_eq, List.cons_append, List.nil_append]
 go_upto_region 1 with fail
 obtain ⟨y0, hy0⟩ : ∃ y, y = w.alloc (.cells #[.int .i64 s0, .int .i64 s1, .int .i64 s2, .int .i64 s3, .int .i64 s4] 50) := ⟨_, rfl⟩
 have hb0 : Below w.heap.size w y0 := by rw [hy0]; exact below_new _ _
 have hx0 : BoxAt w.heap.size [.int .i64 s0, .int .i64 s1, .int .i64 s2, .int .i64 s3, .int .i64 s4] y0 := by rw [hy0]; exact boxAt_new w [.int .i64 s0, .int .i64 s1, .int .i64 s2, .int .i64 s3, .int .i64 s4] _
 have F0 : Hid (TryF wb lb v xs y0) := Lib.hid (Fld.below FF.out hb0)
 have X0 := Lib.hid hx0
 rw [← hy0]
 obtain ⟨sb, hsb⟩ : ∃ sb, sb = w.heap.size := ⟨_, rfl⟩
 have hlb : lb < sb := by rw [hsb]; exact World.block_lt_of_cell? w _ FF.out.cell
 rw [← hsb] at X0 ⊢
 clear hy0 hb0 hx0 hsb FF
 have bw : Below wb.heap.size wb y0 := F0.out.bld.own.bel
 have BW := Lib.hid bw
 have y1 := (bw.cell (World.block_lt_of_cell? wb _ HX.out)).trans HX.out
 have x0 := X0.out 0 _ rfl
 have x1 := X0.out 1 _ rfl
 have x2 := X0.out 2 _ rfl
 have x3 := X0.out 3 _ rfl
 have x4 := X0.out 4 _ rfl
 clear bw
 go_wp2_with fail
 refine (may_at A c OK.out SM.out s0 s1 s2 s3 s4 b mb vG vT v1 v2 v3 _ (SR.out.below BW.out)).mono ?_
 rintro e w5 ⟨rfl, hb⟩
 rw [← EP.out]
 have F5 : Hid (TryF wb lb v xs w5) := Lib.hid (Fld.below F0.out hb)
 replace X0 := Lib.hid (X0.out.below hb)
 clear hb x0 x1 x2 x3 x4 y1 BW F0
 by_cases h0 : ep = 0
 ·subst h0
  have h2 : errOf A c ⟨s0, s1, s2, s3, s4⟩ = 0 := EP.out.symm
  have H2 := Lib.hid h2
  clear h2
  obtain ⟨n, hn2⟩ : ∃ n, n = xs.length := ⟨_, rfl⟩
  have NN := Lib.hid hn2
  have hn6 : n ≤ 1000000 := by rw [hn2]; exact hn
  obtain ⟨va, vc, hv⟩ := F5.out.bld.own.slice
  rw [List.length_map, ← hn2] at hv
  subst hv
  have c1 := F5.out.cell
  have f1 := F5.out.frz
  have x0 := X0.out 0 _ rfl
  have x1 := X0.out 1 _ rfl
  have x2 := X0.out 2 _ rfl
  have x3 := X0.out 3 _ rfl
  have x4 := X0.out 4 _ rfl
  obtain ⟨wZ, hwZ⟩ : ∃ wZ, wZ = w5.alloc (.cells #[.int .i64 s0, .int .i64 s1, .int .i64 s2, .int .i64 s3, .int .i64 s4] 50) := ⟨_, rfl⟩
  have hbZ : Below w5.heap.size w5 wZ := by rw [hwZ]; exact below_new _ _
  have OZ := Lib.hid (F5.out.bld.own.later hbZ)
  have NZ := Lib.hid (show ∀ a, some (⟨w5.heap.size, 0, none⟩ : Addr) = some a → ∀ j u, [Value.int .i64 s0, .int .i64 s1, .int .i64 s2, .int .i64 s3, .int .i64 s4][j]? = some u → wZ.cell? (a.add j) = some u from by rw [hwZ]; exact news_new)
  have WZ := Lib.hid hwZ
  have BZ := Lib.hid hbZ
  clear hbZ hwZ hn2 hn
  go_wp2_with (at_builtin; go_loud (rw [← WZ.out]; refine appL rfl _ _ 44 50 iS (.agg #[.int .i64 0, .int .i64 0, .int .i64 0, .int .i64 0, .int .i64 0]) 5 40 rfl Try.underlying44 hiS hzS hsS hbS rfl (by decide) False (fun q => q ≠ lb) wb w5.heap.size _ (xs.map Sp.d) [Sp.d ⟨s0, s1, s2, s3, s4⟩] n 1 1 (n + 1) rfl OZ.out (by simp; rw [← NN.out]) (some ⟨w5.heap.size, 0, none⟩) rfl [.int .i64 s0, .int .i64 s1, .int .i64 s2, .int .i64 s3, .int .i64 s4] NZ.out (fun e => by cases e) (by simp [Sp.d]) rfl (by rw [List.flatten_cons, List.flatten_nil, List.append_nil]; exact step_five ⟨s0, s1, s2, s3, s4⟩) rfl (by unfold maxLen; omega) (by omega) ?_))
  intro ao cv w6 hO6 hg6 hb6
  obtain ⟨hF, hc6, hf6, hbw6, _, _, _⟩ := F5.out.push BZ.out hO6 hg6 hb6 (by have h1 := World.block_lt_of_cell? w5 _ F5.out.cell; have h1 : lb < w5.heap.size := h1; have h2 := BZ.out.size; omega)
  have HF := Lib.hid hF
  clear hO6 hg6 hb6 hF hbw6 c1 f1 x0 x1 x2 x3 x4
  go_wp2_with fail
  go_end0
  refine ⟨rfl, .slice ao (n + 1) cv, ?_⟩
  rw [if_pos H2.out]
  have := HF.out
  unfold TryF
  simpa using this
 ·have h1 : (ep == 0) = false := by simpa using h0
  have h2 : ¬ errOf A c ⟨s0, s1, s2, s3, s4⟩ = 0 := by rw [← EP.out]; exact h0
  have H2 := Lib.hid h2
  clear h2 h0
  go_wp2_with fail
  go_end0
  exact ⟨rfl, v, by rw [if_neg H2.out]; exact F5.out⟩
end Go.Proofs.Ytiblcpkejhiehaa

set_option linter.unusedSimpArgs false
set_option linter.unusedVariables false
namespace Go.Proofs.Ytiblcpkejhiehaa
open Go.RowKit Go.PlainAid
def okS (A : Ap) (c : Cf) (s : Sp) : Bool := decide (errOf A c s = 0)
def canN (A : Ap) (c : Cf) (n : Nat) : List Sp := (((List.range n).map fun n => (List.range 4).map fun k => pickS n k).flatten).filter (okS A c)
def canNK (A : Ap) (c : Cf) (n k : Nat) : List Sp := canN A c n ++ ((List.range k).map fun k => pickS n k).filter (okS A c)
def canL (A : Ap) (c : Cf) (l : Nat) : List Sp := canN A c c.states.length ++ (((List.range l).map fun l => (c.links.getD l []).map fun m => delS l m.1).flatten).filter (okS A c)
def canLJ (A : Ap) (c : Cf) (l j : Nat) : List Sp := canL A c l ++ (((c.links.getD l []).take j).map fun m => delS l m.1).filter (okS A c)
theorem canN_zero (A : Ap) (c : Cf) : canN A c 0 = [] := rfl
theorem canNK_zero (A : Ap) (c : Cf) (n : Nat) : canNK A c n 0 = canN A c n := by simp [canNK]
theorem canL_zero (A : Ap) (c : Cf) : canL A c 0 = canN A c c.states.length := by simp [canL]
theorem canLJ_zero (A : Ap) (c : Cf) (l : Nat) : canLJ A c l 0 = canL A c l := by simp [canLJ]
theorem canNK_next (A : Ap) (c : Cf) (n k : Nat) : canNK A c n (k + 1) = if errOf A c (pickS n k) = 0 then canNK A c n k ++ [pickS n k] else canNK A c n k := by
 unfold canNK
 rw [List.range_succ, List.map_append, List.filter_append, ← List.append_assoc]
 by_cases h : errOf A c (pickS n k) = 0
 ·rw [if_pos h]; simp [okS, h]
 ·rw [if_neg h]; simp [okS, h]
theorem canN_next (A : Ap) (c : Cf) (n : Nat) : canN A c (n + 1) = canNK A c n 4 := by
 unfold canNK canN
 rw [show List.range (n + 1) = List.range n ++ [n] from List.range_succ, List.map_append, List.flatten_append, List.filter_append]
 simp
theorem canLJ_next (A : Ap) (c : Cf) {l j : Nat} {x : Lks} {m : Int × Int} (hx : c.links[l]? = some x) (hm : x[j]? = some m) : canLJ A c l (j + 1) = if errOf A c (delS l m.1) = 0 then canLJ A c l j ++ [delS l m.1] else canLJ A c l j := by
 have hg : c.links.getD l [] = x := by simp [List.getD, hx]
 unfold canLJ
 rw [hg, List.take_add_one, hm, List.map_append, List.filter_append, ← List.append_assoc]
 by_cases h : errOf A c (delS l m.1) = 0
 ·rw [if_pos h]; simp [okS, h]
 ·rw [if_neg h]; simp [okS, h]
theorem canL_next (A : Ap) (c : Cf) {l : Nat} {x : Lks} (hx : c.links[l]? = some x) : canL A c (l + 1) = canLJ A c l x.length := by
 have hg : c.links.getD l [] = x := by simp [List.getD, hx]
 unfold canLJ canL
 rw [List.range_succ, List.map_append, List.flatten_append, List.filter_append, hg, List.take_length]
 simp [hx]
theorem canL_all (A : Ap) (c : Cf) : canL A c c.links.length = canOf A c := by
 unfold canL canOf tryOf canN
 rw [List.filter_append]
 rfl
theorem canNK_len (A : Ap) (c : Cf) (n k : Nat) : (canNK A c n k).length ≤ n * 4 + k := by
 unfold canNK canN
 rw [List.length_append]
 have h1 := List.length_filter_le (okS A c) (((List.range n).map fun n => (List.range 4).map fun k => pickS n k).flatten)
 have h2 := List.length_filter_le (okS A c) ((List.range k).map fun k => pickS n k)
 have h3 : (((List.range n).map fun n => (List.range 4).map fun k => pickS n k).flatten).length = n * 4 := by
  clear h1 h2
  induction n with
  | zero => rfl
  | succ n ih => rw [show List.range (n + 1) = List.range n ++ [n] from List.range_succ, List.map_append, List.flatten_append, List.length_append, ih]; simp; omega
 rw [List.length_map, List.length_range] at h2
 omega
theorem canLJ_len {A : Ap} {c : Cf} (h : ∀ x ∈ c.links, x.length ≤ 500) (l j : Nat) : (canLJ A c l j).length ≤ c.states.length * 4 + l * 500 + j := by
 unfold canLJ canL
 rw [List.length_append, List.length_append]
 have h0 := canNK_len A c c.states.length 0
 rw [canNK_zero] at h0
 have h1 := List.length_filter_le (okS A c) (((List.range l).map fun l => (c.links.getD l []).map fun m => delS l m.1).flatten)
 have h2 := List.length_filter_le (okS A c) (((c.links.getD l []).take j).map fun m => delS l m.1)
 have h3 : (((List.range l).map fun l => (c.links.getD l []).map fun m => delS l m.1).flatten).length ≤ l * 500 := by
  clear h1 h2 h0
  induction l with
  | zero => simp
  | succ l ih =>
   rw [List.range_succ, List.map_append, List.flatten_append, List.length_append]
   have : (c.links.getD l []).length ≤ 500 := by
    simp only [List.getD]
    cases hl : c.links[l]? with
    | none => simp
    | some x => exact h x (List.mem_of_getElem? hl)
   simp only [List.map_cons, List.map_nil, List.flatten_cons, List.flatten_nil, List.append_nil, List.length_map]
   omega
 rw [List.length_map, List.length_take] at h2
 omega
/-- What Can tells. -/
def Canned (A : Ap) (c : Cf) (w : World) (e : Ending) (w' : World) : Prop := ∃ u, e = .returned u ∧ Has w' u (dSteps (canOf A c)) ∧ Below w.heap.size w w'
set_option maxHeartbeats 8000000 in
set_option maxRecDepth 100000 in
theorem can_at (A : Ap) (c : Cf) (hOK : CfOK A c) (hsm : SmallTab A.t) (vG vT v1 v2 v3 : Value) (w : World) (hG : LinksAt w vG A.l) (hT : Has w vT (dTab A.t)) (hC : HasL w [v1, v2, v3] c.d) :
  Calls Try.prog 15 #[.agg #[.int .i64 A.n, vG, vT, .bool A.ff], .agg #[v1, v2, v3]] w fun e w' => Canned A c w e w' := by
 obtain ⟨ga, gc, ee⟩ := slice_of (has_of_links hG)
 subst ee
 obtain ⟨ta, tc, ee⟩ := slice_of hT
 subst ee
 obtain ⟨c1, c2, c3⟩ := cf_has hC
 obtain ⟨a1, e1, ee⟩ := slice_of c1
 subst ee
 obtain ⟨a2, e2, ee⟩ := slice_of c2
 subst ee
 obtain ⟨a3, e3, ee⟩ := slice_of c3
 subst ee
 obtain ⟨tl, htl⟩ : ∃ n, n = A.t.length := ⟨_, rfl⟩
 obtain ⟨gl, hgl⟩ : ∃ n, n = A.l.length := ⟨_, rfl⟩
 obtain ⟨n1, hn1⟩ : ∃ n, n = c.states.length := ⟨_, rfl⟩
 obtain ⟨n2, hn2⟩ : ∃ n, n = c.links.length := ⟨_, rfl⟩
 obtain ⟨n3, hn3⟩ : ∃ n, n = c.sent.length := ⟨_, rfl⟩
 rw [← hgl] at hG ⊢
 rw [← htl] at hT ⊢
 rw [← hn1] at c1 ⊢
 rw [← hn2] at c2 ⊢
 rw [← hn3] at c3 ⊢
 have HG := Lib.hid hG
 have HT := Lib.hid hT
 have C1 := Lib.hid c1
 have C2 := Lib.hid c2
 have C3 := Lib.hid c3
 have OK := Lib.hid hOK
 have SMT := Lib.hid hsm
 have N1 := Lib.hid hn1
 have N2 := Lib.hid hn2
 have hl1 : n1 ≤ 6 := by have a := hOK.2.states; have b := hOK.1.1.1; have d := hOK.1.1.2.1; omega
 have hl2 : n2 ≤ 30 := by have a := hOK.2.links; have b := hOK.1.1.2.2.1; omega
 have hL5 : ∀ x ∈ c.links, x.length ≤ 500 := fun x hx => by
  obtain ⟨i, hi⟩ := List.mem_iff_getElem?.1 hx
  obtain ⟨q, m, _, hm, hk⟩ := cf_at hOK (i := i) (by have := lt_of_get hi; have := hOK.2.links; omega)
  rw [hi] at hm
  cases hm
  have := linkOK_len hk
  omega
 have L5 := Lib.hid hL5
 have hmf : ∀ (fn : Fn) (first cap : Array Value) (w : World), (Instr.makeFunc fn first cap).run Try.prog w = .ok (.func fn first cap) w := fun _ _ _ _ => rfl
 clear hG hT hC c1 c2 c3 hOK hsm hn1 hn2 hn3 hgl htl hL5
 go_enter Try.func15, Try.ntmps15
 try simp only [List.append_eq, List.cons_append, List.nil_append]
 go_upto_region 1 with fail
 obtain ⟨y0, hy0⟩ : ∃ y, y = (w.alloc (.cells #[.int .i64 A.n, .slice ga gl gc, .slice ta tl tc, .bool A.ff] 27)).alloc (.cells #[.slice a1 n1 e1, .slice a2 n2 e2, .slice a3 n3 e3] 31) := ⟨_, rfl⟩
 have hb0 : Below w.heap.size w y0 := by rw [hy0]; exact below_step' (below_new _ _) (below_new _ _)
 have hx0 : BoxAt w.heap.size [.int .i64 A.n, .slice ga gl gc, .slice ta tl tc, .bool A.ff] y0 := by rw [hy0]; exact (boxAt_new w [.int .i64 A.n, .slice ga gl gc, .slice ta tl tc, .bool A.ff] _).below (below_new _ _)
 have hx1 : BoxAt (w.heap.size + 1) [.slice a1 n1 e1, .slice a2 n2 e2, .slice a3 n3 e3] y0 := by
  have h := boxAt_new (w.alloc (.cells #[.int .i64 A.n, .slice ga gl gc, .slice ta tl tc, .bool A.ff] 27)) [.slice a1 n1 e1, .slice a2 n2 e2, .slice a3 n3 e3] 31
  rw [size_alloc] at h
  rw [hy0]; exact h
 have B0 := Lib.hid hb0
 have K1 := Lib.hid hx1
 rw [← hy0]
 have p0 := hx0 0 _ rfl
 have p1 := hx0 1 _ rfl
 have p2 := hx0 2 _ rfl
 have p3 := hx0 3 _ rfl
 have q0 := hx1 0 _ rfl
 have q1 := hx1 1 _ rfl
 have q2 := hx1 2 _ rfl
 clear hy0 hb0 hx0 hx1
 go_wp2_with fail
 refine (systemIn_at A.n gl gc ga (.slice ta tl tc) A.ff a1 a2 a3 n1 n2 n3 e1 e2 e3 none _ ⟨_, _, _, rfl⟩).mono ?_
 rintro e w1 ⟨b, mb, rfl, hb1, hb2, hb3, hsy, hbe⟩
 have SY := Lib.hid hsy
 have BE := Lib.hid hbe
 have K1' := Lib.hid (K1.out.below hbe)
 clear hb1 hb2 hb3 hsy hbe p0 p1 p2 p3 q0 q1 q2 K1
 go_upto_region 4 with fail
 obtain ⟨wb, hwb⟩ : ∃ x, x = w1.alloc (.cells #[.pointer (some ⟨b, 0, none⟩)] 87) := ⟨_, rfl⟩
 have hbb : Below w1.heap.size w1 wb := by rw [hwb]; exact below_new _ _
 have hzb : wb.heap.size = w1.heap.size + 1 := by rw [hwb]; simp
 have hcx : wb.cell? ⟨w1.heap.size, 0, none⟩ = some (.pointer (some ⟨b, 0, none⟩)) := by rw [hwb]; exact World.cell?_alloc_at _ _ _ _ rfl
 rw [← hwb]
 obtain ⟨y2, hy2⟩ : ∃ x, x = wb.alloc (.cells #[.slice none 0 0] 44) := ⟨_, rfl⟩
 have hF0 : TryF wb (w1.heap.size + 1) (.slice none 0 0) [] y2 := by
  rw [hy2, ← hzb]
  exact ⟨World.cell?_alloc_at _ _ _ _ rfl, frozen_new _ _ _ _, ⟨Own.nil (below_new _ _), fun k hk => by simp [Value.ownBlock] at hk⟩, by simp, Nat.le_refl _⟩
 rw [← hy2]
 obtain ⟨lb, hlb⟩ : ∃ x, x = w1.heap.size + 1 := ⟨_, rfl⟩
 obtain ⟨xb, hxb⟩ : ∃ x, x = w1.heap.size := ⟨_, rfl⟩
 obtain ⟨cb, hcb⟩ : ∃ x, x = w.heap.size + 1 := ⟨_, rfl⟩
 have B0b := Lib.hid (below_step' (below_step' B0.out BE.out) hbb)
 have SR : Hid (SysR A c b mb (.slice ga gl gc) (.slice ta tl tc) (.slice a1 n1 e1) (.slice a2 n2 e2) (.slice a3 n3 e3) wb) := Lib.hid ⟨SY.out.below hbb, HG.out.below B0b.out, HT.out.later B0b.out, C1.out.later B0b.out, C2.out.later B0b.out, C3.out.later B0b.out⟩
 have KC := Lib.hid (K1'.out.below hbb)
 rw [← hlb] at hF0 ⊢
 rw [← hxb] at hcx ⊢
 rw [← hcb] at KC ⊢
 have F0 := Lib.hid hF0
 have CX := Lib.hid hcx
 clear hwb hbb hzb hcx hy2 hF0 hlb hxb hcb K1' SY BE
 have q0 := KC.out.below F0.out.bld.own.bel 0 _ rfl
 go_wp2_with fail
 clear q0
 go_loopw [21] (fun i wr => ∃ (n : Nat) (v : Value), i = .int .i64 n ∧ n ≤ n1 ∧ TryF wb lb v (canN A c n) wr) (fun i _ => n1 - (intOf i).toNat)
 case atStart => exact ⟨0, _, rfl, by omega, by rw [canN_zero]; exact F0.out⟩
 case round =>
  obtain ⟨n, v, rfl, hn, hF⟩ := hrel
  have FF := Lib.hid hF
  clear hF
  by_cases hlt : n < n1
  ·have hlt' : (n : Int) < n1 := by omega
   go_wp2_with fail
   go_loopw [24] (fun i wr => ∃ (k : Nat) (v : Value), i = .int .i64 k ∧ k ≤ 4 ∧ TryF wb lb v (canNK A c n k) wr) (fun i _ => 4 - (intOf i).toNat)
   case atStart => exact ⟨0, _, rfl, by omega, by rw [canNK_zero]; exact FF.out⟩
   case round =>
    obtain ⟨k, v, rfl, hk, hF⟩ := hrel
    have FK := Lib.hid hF
    clear hF
    by_cases hk4 : k < 4
    ·have hk4' : (k : Int) < 4 := by omega
     go_wp2_with fail
     refine (try_at A c OK.out SMT.out 0 n k 0 0 (canNK A c n k) (by have := canNK_len A c n k; omega) b mb xb lb _ _ _ _ _ v wb _ SR.out CX.out FK.out).mono ?_
     rintro e w5 ⟨rfl, v5, hF5⟩
     have F5 : Hid (TryF wb lb v5 (canNK A c n (k + 1)) w5) := Lib.hid (by rw [canNK_next]; exact hF5)
     clear hF5
     go_wp2_with fail
     go_roundw
     case rel => exact ⟨k + 1, v5, by go_num, by omega, F5.out⟩
     case measure => simp [intOf]; omega
    ·obtain rfl : k = 4 := by omega
     go_wp2_with fail
     go_roundw
     case rel => exact ⟨n + 1, v, by go_num, by omega, by rw [canN_next]; exact FK.out⟩
     case measure => simp [intOf]; omega
  ·obtain rfl : n = n1 := by omega
   have hj3 : ¬ (n : Int) < n := by omega
   have q1 := KC.out.below FF.out.bld.own.bel 1 _ rfl
   go_wp2_with fail
   clear q1
   go_loopw [37] (fun i wr => ∃ (l : Nat) (v : Value), i = .int .i64 l ∧ l ≤ n2 ∧ TryF wb lb v (canL A c l) wr) (fun i _ => n2 - (intOf i).toNat)
   case atStart => exact ⟨0, _, rfl, by omega, by rw [canL_zero, ← N1.out]; exact FF.out⟩
   case round =>
    obtain ⟨l, v, rfl, hl, hF⟩ := hrel
    have FL := Lib.hid hF
    clear hF FF
    by_cases hll : l < n2
    ·have hll' : (l : Int) < n2 := by omega
     obtain ⟨x, hx⟩ := some_of_lt (l := c.links) (i := l) (by rw [← N2.out]; exact hll)
     obtain ⟨lb2, lo, ma, mc, e, _, e9, y1, hmm⟩ := lls_at SR.out.l hx
     clear e9
     subst e
     obtain ⟨ml, hml⟩ : ∃ m, m = x.length := ⟨_, rfl⟩
     rw [← hml] at y1 hmm
     have ML := Lib.hid hml
     have HX := Lib.hid hx
     have MM := Lib.hid hmm
     have hm5 : ml ≤ 500 := by rw [hml]; exact L5.out x (List.mem_of_getElem? hx)
     replace y1 := (FL.out.bld.own.bel.cell (World.block_lt_of_cell? wb _ y1)).trans y1
     clear hml hx hmm
     go_wp2_with fail
     clear y1
     go_loopw [44] (fun i wr => ∃ (j : Nat) (v : Value), i = .int .i64 j ∧ j ≤ ml ∧ TryF wb lb v (canLJ A c l j) wr) (fun i _ => ml - (intOf i).toNat)
     case atStart => exact ⟨0, _, rfl, by omega, by rw [canLJ_zero]; exact FL.out⟩
     case round =>
      obtain ⟨j, v, rfl, hj, hF⟩ := hrel
      have FK := Lib.hid hF
      clear hF
      by_cases hjl : j < ml
      ·have hjl' : (j : Int) < ml := by omega
       obtain ⟨⟨q1, q2⟩, hm⟩ := some_of_lt (l := x) (i := j) (by rw [← ML.out]; exact hjl)
       obtain ⟨b', o', e, z1, z2⟩ := link_at (MM.out.later FK.out.bld.own.bel) hm
       subst e
       simp only at z1 z2
       have HM := Lib.hid hm
       have F1 : Hid (TryF wb lb v (canLJ A c l j) (wr.alloc (.cells #[.int .i64 q1, .int .i64 q2] 63))) := Lib.hid (Fld.below FK.out (below_new _ _))
       clear hm
       go_wp2_with fail
       refine (try_at A c OK.out SMT.out 1 0 0 l q1 (canLJ A c l j) (by have := canLJ_len (A := A) L5.out l j; have := N1.out; omega) b mb xb lb _ _ _ _ _ v wb _ SR.out CX.out F1.out).mono ?_
       rintro e w5 ⟨rfl, v5, hF5⟩
       have F5 : Hid (TryF wb lb v5 (canLJ A c l (j + 1)) w5) := Lib.hid (by rw [canLJ_next A c HX.out HM.out]; exact hF5)
       clear hF5 z1 z2
       go_wp2_with fail
       go_roundw
       case rel => exact ⟨j + 1, v5, by go_num, by omega, F5.out⟩
       case measure => simp [intOf]; omega
      ·obtain rfl : j = ml := by omega
       have hj9 : ¬ (j : Int) < j := by omega
       go_wp2_with fail
       go_roundw
       case rel => exact ⟨l + 1, v, by go_num, by omega, by rw [canL_next A c HX.out, ← ML.out]; exact FK.out⟩
       case measure => simp [intOf]; omega
    ·obtain rfl : l = n2 := by omega
     have hj9 : ¬ (l : Int) < l := by omega
     obtain ⟨va, vc, hv⟩ := FL.out.bld.own.slice
     obtain ⟨k9, hk9⟩ : ∃ k, k = ((canL A c l).map Sp.d).length := ⟨_, rfl⟩
     rw [← hk9] at hv
     clear hk9
     subst hv
     have c9 := FL.out.cell
     have hH : Has wr (.slice va k9 vc) (dSteps (canOf A c)) := by
      have := FL.out.bld.holds.weak
      rw [N2.out, canL_all] at this
      exact this
     have HH := Lib.hid hH
     have BE := Lib.hid (below_step' B0b.out FL.out.bld.own.bel)
     clear hH
     go_wp2_with fail
     go_ret
     exact ⟨_, rfl, HH.out, BE.out⟩
end Go.Proofs.Ytiblcpkejhiehaa

