/- Texts put together. -/
import Derived.Test.YtennbiajnkobnaaQ12
import Derived.Test.YtennbiajnkobnaaQ21
import Derived.Test.YtennbiajnkobnaaQ30
import Derived.Test.YtennbiajnkobnaaQ36
import Derived.Test.YtennbiajnkobnaaQ38
import Derived.Test.YtennbiajnkobnaaQ40
import Derived.Test.YtennbiajnkobnaaQ44
import Derived.Test.YtennbiajnkobnaaQ45
import Derived.Test.YtennbiajnkobnaaQ46
import Derived.Test.YtennbiajnkobnaaQ48
import Derived.BigQuiet
import Derived.Deep.CutBlock
set_option linter.unusedSimpArgs false
set_option linter.unusedVariables false
namespace Go.Proofs.Ytennbiajnkobnaa
open Go.RowKit Go.PlainAid
theorem cutC_small (c : Cf) : SmallCf (cutC c) := by
 refine ⟨by simp [cutC]; omega, by simp [cutC]; omega, by simp [cutC]; omega, fun m hm => ?_⟩
 obtain ⟨m', _, rfl⟩ := List.mem_map.1 hm
 rw [List.length_take]; omega
def phiR (A : Ap) (vG : Value) (cs : Array Value) (g : Nat) (v : Value) (w : World) : Prop := if g = 1 then ∃ uT, v = .agg #[.int .i64 A.n, vG, uT, .bool A.ff] ∧ Has w uT (dTab A.t) else v = .agg cs
theorem phiR_mono {A : Ap} {vG : Value} {cs : Array Value} {g : Nat} {v : Value} {w w' : World} (h : phiR A vG cs g v w) (hb : Below w.heap.size w w') : phiR A vG cs g v w' := by
 unfold phiR at h ⊢
 split
 ·next e => rw [if_pos e] at h; obtain ⟨u, e, h⟩ := h; exact ⟨u, e, h.later hb⟩
 ·next e => rw [if_neg e] at h; exact h
theorem flatten_le {α : Type} {c : Nat} : ∀ (L : List (List α)), (∀ l ∈ L, l.length ≤ c) → L.flatten.length ≤ L.length * c
 | [], _ => by simp
 | x :: r, h => by
  have h1 := h x (List.mem_cons_self ..)
  have h2 := flatten_le r (fun l hl => h l (List.mem_cons_of_mem _ hl))
  rw [List.flatten_cons, List.length_append, List.length_cons, Nat.succ_mul]
  omega
theorem can_len (A : Ap) (c : Cf) : (canOf A (cutC c)).length ≤ 1000000 := by
 unfold canOf
 refine Nat.le_trans (List.length_filter_le _ _) ?_
 unfold tryOf
 rw [List.length_append]
 have h1 := flatten_le (c := 4) ((List.range (cutC c).states.length).map fun n => (List.range 4).map fun k => pickS n k) (by intro l hl; obtain ⟨n, _, rfl⟩ := List.mem_map.1 hl; simp)
 have h2 := flatten_le (c := 30) ((List.range (cutC c).links.length).map fun l => ((cutC c).links.getD l []).map fun m => delS l m.1) (by
  intro l hl
  obtain ⟨n, _, rfl⟩ := List.mem_map.1 hl
  rw [List.length_map, List.getD_eq_getElem?_getD]
  cases h : (cutC c).links[n]? with
  | none => simp
  | some m =>
   obtain ⟨m', _, rfl⟩ := List.mem_map.1 (List.mem_of_getElem? h)
   show (m'.take 30).length ≤ 30
   exact List.length_take_le ..)
 rw [List.length_map, List.length_range] at h1 h2
 have a1 : (cutC c).states.length ≤ 10 := by show (c.states.take 10).length ≤ 10; exact List.length_take_le ..
 have a2 : (cutC c).links.length ≤ 40 := by show ((c.links.take 40).map _).length ≤ 40; rw [List.length_map]; exact List.length_take_le ..
 omega
theorem to_kinds {A : Ap} {c d : Cf} {s : Sp} (h : CfOK A c) (he : errOf A c s = 0) (hd : d = doneOf A c s) : (s.kind = 0 ∧ moreTo c d A.l.length = sentTo c d A.l.length ∧ 0 ≤ sentTo c d A.l.length) ∨ (s.kind = 1 ∧ moreTo c d A.l.length = -1 ∧ sentTo c d A.l.length = 0) := by
 unfold errOf at he
 split at he
 ·next hk =>
  have e : d = donePick A c s := by rw [hd]; unfold doneOf; rw [if_pos hk]
  rw [e]
  exact .inl ⟨hk, pick_to h s _ (Nat.le_refl _)⟩
 ·next hk =>
  split at he
  ·next hk1 =>
   have e : d = doneDel A c s := by rw [hd]; unfold doneOf; rw [if_neg hk]
   obtain ⟨l, i, m, x, e1, hm, _⟩ := errDel_zero he
   have hl := h.2.links
   have hlt := lt_of_get hm
   have := del_to he e1 A.l.length (by omega)
   rw [e]
   rw [if_pos (by omega)] at this
   exact .inr ⟨hk1, this⟩
  ·cases he
theorem more_step {c d : Cf} {j : Nat} {cm dm : Lks} (hc : c.links[j]? = some cm) (hd : d.links[j]? = some dm) : moreTo c d (j + 1) = moreTo c d j + (dm.length : Int) - (cm.length : Int) := by
 show moreTo c d j + ((d.links.getD j []).length : Int) - ((c.links.getD j []).length : Int) = _
 rw [List.getD_eq_getElem?_getD, List.getD_eq_getElem?_getD, hc, hd]; rfl
theorem sent_step {c d : Cf} {j : Nat} {cx dx : Int} (hc : c.sent[j]? = some cx) (hd : d.sent[j]? = some dx) : sentTo c d (j + 1) = sentTo c d j + dx - cx := by
 show sentTo c d j + d.sent.getD j 0 - c.sent.getD j 0 = _
 rw [List.getD_eq_getElem?_getD, List.getD_eq_getElem?_getD, hc, hd]; rfl
theorem small_okS {A : Ap} {c : Cf} (h : CfOK A c) : SmallCf c := by
 have h1 := h.1.1.2.2.1
 have h2 := h.1.1.2.1
 have h3 := h.2.states
 have h4 := h.2.links
 have h5 := h.2.sent
 refine ⟨by omega, by omega, by omega, fun m hm => ?_⟩
 obtain ⟨i, hi⟩ := List.mem_iff_getElem?.1 hm
 obtain ⟨q, m', _, hm', hk⟩ := cf_at h (i := i) (by have := lt_of_get hi; omega)
 rw [hi] at hm'
 cases hm'
 have := linkOK_len hk
 omega
def AppBox (d : Cf) (y : World) (sp se : Value) (wx : World) : Prop := ∃ (p : Nat) (a1 a2 a3 : Option Addr) (n1 n2 n3 e1 e2 e3 : Nat), sp = .pointer (some ⟨p, 0, none⟩) ∧ se = .int .i64 0 ∧ BoxAt p [.slice a1 n1 e1, .slice a2 n2 e2, .slice a3 n3 e3] wx ∧ HasL wx [.slice a1 n1 e1, .slice a2 n2 e2, .slice a3 n3 e3] d.d ∧ Below y.heap.size y wx
set_option maxHeartbeats 8000000 in
set_option maxRecDepth 100000 in
theorem walkPlainStays (N0 : Int) (u0 : Value) (L0 : Lks) (t0 : Value) (M0 : Tab) (ff : Bool) (v1 v2 v3 : Value) (c1 : Cf) (w : World) (wL : LinksAt w u0 L0) (wW0 : ∀ p ∈ L0, wfp p) (wT : Has w t0 (dTab M0)) (wC : HasL w [v1, v2, v3] c1.d) :
  Calls Try.prog 3 #[.agg #[.int .i64 N0, u0, t0, .bool ff], .agg #[v1, v2, v3]] w fun e w' => e = .returned (.bool true) ∧ Below w.heap.size w w' := by
 obtain ⟨ga0, gc, ee⟩ := slice_of (has_of_links wL)
 subst ee
 obtain ⟨ta0, tc0, ee⟩ := slice_of wT
 subst ee
 obtain ⟨A, hA⟩ : ∃ A, A = Ap.mk N0 (L0.take 40) (cutT M0) ff := ⟨_, rfl⟩
 have hgl40 := take_le L0
 have hwf := wf_take wW0
 have hLC := linksAt_cut wL
 obtain ⟨gl0, hgl0⟩ : ∃ n, n = L0.length := ⟨_, rfl⟩
 obtain ⟨tl0, htl0⟩ : ∃ n, n = M0.length := ⟨_, rfl⟩
 obtain ⟨gl, hgl⟩ : ∃ n, n = (L0.take 40).length := ⟨_, rfl⟩
 rw [← hgl] at hgl40 hLC
 rw [← hgl0] at wL ⊢
 rw [← htl0] at wT ⊢
 have WL := Lib.hid wL
 have WT := Lib.hid wT
 have AE := Lib.hid hA
 have GL0 := Lib.hid hgl0
 have GLE := Lib.hid hgl
 have HLC := Lib.hid hLC
 have HWF := Lib.hid hwf
 have hAn : A.n = N0 := by rw [hA]
 have hAl : A.l = L0.take 40 := by rw [hA]
 have hAt : A.t = cutT M0 := by rw [hA]
 have hAf : A.ff = ff := by rw [hA]
 have AN := Lib.hid hAn
 have AL := Lib.hid hAl
 have AT := Lib.hid hAt
 have AF := Lib.hid hAf
 have SMT : Hid (SmallTab A.t) := Lib.hid (by rw [hAt]; exact cutT_small M0)
 have LN : Hid (A.l.length ≤ 40) := Lib.hid (by rw [hAl]; exact take_le L0)
 have WFA : Hid (∀ p ∈ A.l, wfp p) := Lib.hid (by rw [hAl]; exact hwf)
 clear wL wW0 wT hA hwf hgl0 htl0 hgl hLC hAn hAl hAt hAf
 obtain ⟨ua1, ua2, ua3, un1, un2, un3, ue1, ue2, ue3, ee1, ee2, ee3⟩ := cf_slices' wC
 subst ee1
 subst ee2
 subst ee3
 have WC := Lib.hid wC
 have SMC : Hid (SmallCf (cutC c1)) := Lib.hid (cutC_small c1)
 clear wC
 go_enter Try.func3, Try.ntmps3
 try simp only [List.append_eq, List.cons_append, List.nil_append]
 go_upto_region 1 with fail
 obtain ⟨y0, hy0⟩ : ∃ y, y = ((w.alloc (.cells #[.int .i64 N0, .slice ga0 gl0 gc, .slice ta0 tl0 tc0, .bool ff] 27)).alloc (.cells #[.slice ua1 un1 ue1, .slice ua2 un2 ue2, .slice ua3 un3 ue3] 31)) := ⟨_, rfl⟩
 obtain ⟨x1, hx1⟩ : ∃ y, y = w.alloc (.cells #[.int .i64 N0, .slice ga0 gl0 gc, .slice ta0 tl0 tc0, .bool ff] 27) := ⟨_, rfl⟩
 obtain ⟨x2, hx2⟩ : ∃ y, y = x1.alloc (.cells #[.slice ua1 un1 ue1, .slice ua2 un2 ue2, .slice ua3 un3 ue3] 31) := ⟨_, rfl⟩
 have s1 : x1.heap.size = w.heap.size + 1 := by rw [hx1]; simp
 have s2 : x2.heap.size = w.heap.size + 2 := by rw [hx2, World.size_alloc, s1]
 have b1 : Below w.heap.size w x1 := by rw [hx1]; exact below_new _ _
 have b2 : Below x1.heap.size x1 x2 := by rw [hx2]; exact below_new _ _
 have b3 : Below x2.heap.size x2 y0 := by rw [hy0, ← hx1, ← hx2]; exact Below.refl _ _
 have BA0 : Hid (Below w.heap.size w y0) := Lib.hid (below_step' (below_step' b1 b2) b3)
 have h1y := below_step' b2 b3
 have ka0 : BoxAt w.heap.size [.int .i64 N0, .slice ga0 gl0 gc, .slice ta0 tl0 tc0, .bool ff] y0 := by
  have h : BoxAt w.heap.size [.int .i64 N0, .slice ga0 gl0 gc, .slice ta0 tl0 tc0, .bool ff] x1 := by rw [hx1]; exact boxAt_new w [.int .i64 N0, .slice ga0 gl0 gc, .slice ta0 tl0 tc0, .bool ff] _
  exact h.below h1y
 have oa0 : OpenRow y0 w.heap.size 1 4 := by
  have h : OpenRow x1 w.heap.size 1 4 := by rw [hx1]; exact ⟨by decide, _, _, heap_alloc_new w _, rfl⟩
  exact h.same (SameOn.of_below (P := fun _ => True) h1y) trivial (by omega)
 have kc0 : BoxAt (w.heap.size + 1) [.slice ua1 un1 ue1, .slice ua2 un2 ue2, .slice ua3 un3 ue3] y0 := by
  have h : BoxAt x1.heap.size [.slice ua1 un1 ue1, .slice ua2 un2 ue2, .slice ua3 un3 ue3] x2 := by rw [hx2]; exact boxAt_new x1 [.slice ua1 un1 ue1, .slice ua2 un2 ue2, .slice ua3 un3 ue3] _
  rw [← s1]
  exact h.below b3
 have oc0 : OpenRow y0 (w.heap.size + 1) 1 3 := by
  have h : OpenRow x2 x1.heap.size 1 3 := by rw [hx2]; exact ⟨by decide, _, _, heap_alloc_new x1 _, rfl⟩
  rw [← s1]
  exact h.same (SameOn.of_below (P := fun _ => True) b3) trivial (by omega)
 have sz : w.heap.size + 2 ≤ y0.heap.size := by rw [← s2]; exact b3.size
 rw [← hy0]
 obtain ⟨ba, hba⟩ : ∃ b, b = w.heap.size := ⟨_, rfl⟩
 obtain ⟨bc, hbc⟩ : ∃ b, b = w.heap.size + 1 := ⟨_, rfl⟩
 have za : ba < y0.heap.size ∧ w.heap.size ≤ ba := by omega
 have zc : bc < y0.heap.size ∧ w.heap.size ≤ bc ∧ bc ≠ ba := by omega
 rw [← hbc] at kc0 oc0 ⊢
 rw [← hba] at ka0 oa0 ⊢
 have KA0 := Lib.hid ka0
 have OA0 := Lib.hid oa0
 have KC0 := Lib.hid kc0
 have OC0 := Lib.hid oc0
 have ZA := Lib.hid za
 have ZC := Lib.hid zc
 clear hy0 hx1 hx2 s1 s2 b1 b2 b3 h1y sz ka0 oa0 kc0 oc0 za zc hba hbc
 have p0 := KA0.out 0 _ rfl
 have p1 := KA0.out 1 _ rfl
 have p2 := KA0.out 2 _ rfl
 have p3 := KA0.out 3 _ rfl
 go_wp2_with fail
 clear p0 p1 p2 p3
 refine (lcut_at N0 L0 M0 ff _ _ _ (WL.out.below BA0.out) (WT.out.later BA0.out)).mono ?_
 rintro e z1 ⟨ga1, gc1, uT, he1, rfl, hT, hb⟩
 simp only [Value.slice.injEq] at he1
 obtain ⟨hga, hgx, hgc⟩ := he1
 clear hgx
 subst hga hgc
 rw [← GLE.out]
 obtain ⟨ta, tc, ee⟩ := slice_of hT.weak
 subst ee
 obtain ⟨tl, htl⟩ : ∃ n, n = (cutT M0).length := ⟨_, rfl⟩
 rw [← htl] at hT ⊢
 have TLE := Lib.hid htl
 have hO := OA0.out.same (SameOn.of_below (P := fun _ => True) hb) trivial ZA.out.1
 have hB := KA0.out.below hb
 have k0 := hB 0 _ rfl
 have k1 := hB 1 _ rfl
 have k2 := hB 2 _ rfl
 have k3 := hB 3 _ rfl
 have f0 := hO.frozen 0
 have f1 := hO.frozen 1
 have f2 := hO.frozen 2
 have f3 := hO.frozen 3
 have BZ := Lib.hid hb
 have HB := Lib.hid hB
 have HO := Lib.hid hO
 have HTZ := Lib.hid hT
 clear hb hB hO hT htl
 go_upto_region 2 with fail
 clear k0 k1 k2 k3 f0 f1 f2 f3
 obtain ⟨y1, hy⟩ : ∃ y, y = (((z1.setCell ⟨ba, 0, none⟩ (.int .i64 N0)).setCell ⟨ba, 1, none⟩ (.slice ga0 gl gc)).setCell ⟨ba, 2, none⟩ (.slice ta tl tc)).setCell ⟨ba, 3, none⟩ (.bool ff) := ⟨_, rfl⟩
 have ka : BoxAt ba [.int .i64 N0, .slice ga0 gl gc, .slice ta tl tc, .bool ff] y1 := by rw [hy]; exact boxAt_set (j := 3) (u := .bool ff) (boxAt_set (j := 2) (u := .slice ta tl tc) (boxAt_set (j := 1) (u := .slice ga0 gl gc) (boxAt_set (j := 0) (u := .int .i64 N0) HB.out)))
 have hbw : Below w.heap.size w y1 := by rw [hy]; exact ((((below_step' BA0.out BZ.out).setCell ZA.out.2 _).setCell ZA.out.2 _).setCell ZA.out.2 _).setCell ZA.out.2 _
 have ss : SameOn (fun q => q ≠ ba) z1 y1 := by rw [hy]; exact ((((SameOn.refl _ z1).set ⟨ba, 0, none⟩ _ (fun h => h rfl)).set ⟨ba, 1, none⟩ _ (fun h => h rfl)).set ⟨ba, 2, none⟩ _ (fun h => h rfl)).set ⟨ba, 3, none⟩ _ (fun h => h rfl)
 have ht : Has y1 (.slice ta tl tc) (dTab A.t) := by
  rw [AT.out]
  exact (HTZ.out.same (ss.sub (fun q (h : _ ≤ q) e => by subst e; have := ZA.out.1; omega))).weak
 have htf : Holds False (fresh y0) y1 (.slice ta tl tc) (dTab A.t) := by
  rw [AT.out]
  exact (HTZ.out.same (ss.sub (fun q (h : _ ≤ q) e => by subst e; have := ZA.out.1; omega))).loose
 have HTF := Lib.hid htf
 clear htf
 rw [← hy]
 have KA := Lib.hid ka
 have LG : Hid (LinksAt y1 (.slice ga0 gl gc) A.l) := Lib.hid (by rw [AL.out]; exact HLC.out.below hbw)
 have HT := Lib.hid ht
 have BW := Lib.hid hbw
 have SS := Lib.hid ss
 clear hy ka hbw ss ht HB HO HTZ KA0 OA0
 have kc1 := (KC0.out.below BZ.out).same SS.out ZC.out.2.2
 have hz1 := BZ.out.size
 have oc1 := (OC0.out.same (SameOn.of_below (P := fun _ => True) BZ.out) trivial ZC.out.1).same SS.out ZC.out.2.2 (Nat.lt_of_lt_of_le ZC.out.1 hz1)
 have hz2 := SS.out.1
 have zy : y0.heap.size ≤ y1.heap.size := by omega
 have ZY := Lib.hid zy
 have p0 := kc1 0 _ rfl
 have p1 := kc1 1 _ rfl
 have p2 := kc1 2 _ rfl
 have KC1 := Lib.hid kc1
 have OC1 := Lib.hid oc1
 clear kc1 oc1 hz1 hz2 zy KC0 OC0
 go_wp2_with fail
 clear p0 p1 p2
 refine (cutConf_at c1 _ _ _ _ (WC.out.later BW.out)).mono ?_
 rintro e z2 ⟨xa1, xa2, xa3, xn1, xn2, xn3, xe1, xe2, xe3, rfl, hC, hb⟩
 have hO := OC1.out.same (SameOn.of_below (P := fun _ => True) hb) trivial (Nat.lt_of_lt_of_le ZC.out.1 ZY.out)
 have hB := KC1.out.below hb
 have k0 := hB 0 _ rfl
 have k1 := hB 1 _ rfl
 have k2 := hB 2 _ rfl
 have f0 := hO.frozen 0
 have f1 := hO.frozen 1
 have f2 := hO.frozen 2
 have BZ2 := Lib.hid hb
 have HB := Lib.hid hB
 have HO := Lib.hid hO
 have HCZ := Lib.hid hC
 clear hb hB hO hC
 go_upto_region 3 with fail
 clear k0 k1 k2 f0 f1 f2
 obtain ⟨y2, hy⟩ : ∃ y, y = ((z2.setCell ⟨bc, 0, none⟩ (.slice xa1 xn1 xe1)).setCell ⟨bc, 1, none⟩ (.slice xa2 xn2 xe2)).setCell ⟨bc, 2, none⟩ (.slice xa3 xn3 xe3) := ⟨_, rfl⟩
 have kc2 : BoxAt bc [.slice xa1 xn1 xe1, .slice xa2 xn2 xe2, .slice xa3 xn3 xe3] y2 := by rw [hy]; exact boxAt_set (j := 2) (u := .slice xa3 xn3 xe3) (boxAt_set (j := 1) (u := .slice xa2 xn2 xe2) (boxAt_set (j := 0) (u := .slice xa1 xn1 xe1) HB.out))
 have ss2 : SameOn (fun q => q ≠ bc) z2 y2 := by rw [hy]; exact (((SameOn.refl _ z2).set ⟨bc, 0, none⟩ _ (fun h => h rfl)).set ⟨bc, 1, none⟩ _ (fun h => h rfl)).set ⟨bc, 2, none⟩ _ (fun h => h rfl)
 have hbw : Below w.heap.size w y2 := by rw [hy]; exact (((below_step' BW.out BZ2.out).setCell ZC.out.2.1 _).setCell ZC.out.2.1 _).setCell ZC.out.2.1 _
 have hc2 : HasL y2 [.slice xa1 xn1 xe1, .slice xa2 xn2 xe2, .slice xa3 xn3 xe3] (cutC c1).d := (HCZ.out.same (ss2.sub (fun q (h : _ ≤ q) e => by subst e; have := ZC.out.1; have := ZY.out; omega))).weak
 have ht2 : Has y2 (.slice ta tl tc) (dTab A.t) := ((HTF.out.later BZ2.out).same (ss2.sub (fun q (h : _ ≤ q) e => by subst e; have := ZC.out.1; omega))).weak
 have ka2 := (KA.out.below BZ2.out).same ss2 (fun h => ZC.out.2.2 h.symm)
 have lg2 : LinksAt y2 (.slice ga0 gl gc) A.l := by rw [AL.out]; exact HLC.out.below hbw
 rw [← hy]
 clear hy KA LG HT BW HTF HCZ HB HO KC1 OC1 SS
 have KA := Lib.hid ka2
 have KC := Lib.hid kc2
 have LG := Lib.hid lg2
 have HT := Lib.hid ht2
 have HC := Lib.hid hc2
 have BW := Lib.hid hbw
 clear ka2 kc2 lg2 ht2 hc2 hbw ss2 BZ BZ2
 have hN0 : N0 = A.n := AN.out.symm
 have hF0 : ff = A.ff := AF.out.symm
 rw [hN0, hF0] at KA ⊢
 clear hN0 hF0
 obtain ⟨rr, hrr⟩ := bool_some (CfOK A (cutC c1))
 have RR := Lib.hid hrr
 clear hrr
 refine wp_region_held_drew (S := (fun w' => w'.cell? ⟨ba, 0, none⟩ = some (.int .i64 A.n) ∧ w'.cell? ⟨ba, 1, none⟩ = some (.slice ga0 gl gc) ∧ w'.cell? ⟨ba, 2, none⟩ = some (.slice ta tl tc) ∧ w'.cell? ⟨ba, 3, none⟩ = some (.bool A.ff) ∧ w'.cell? ⟨bc, 0, none⟩ = some (.slice xa1 xn1 xe1) ∧ w'.cell? ⟨bc, 1, none⟩ = some (.slice xa2 xn2 xe2) ∧ w'.cell? ⟨bc, 2, none⟩ = some (.slice xa3 xn3 xe3))) (by kernel_rfl) ?_ (fun hHeld => ?_)
 ·exact ⟨KA.out.below (below_drewN (Below.refl _ y2) 1) 0 _ rfl, KA.out.below (below_drewN (Below.refl _ y2) 1) 1 _ rfl, KA.out.below (below_drewN (Below.refl _ y2) 1) 2 _ rfl, KA.out.below (below_drewN (Below.refl _ y2) 1) 3 _ rfl, KC.out.below (below_drewN (Below.refl _ y2) 1) 0 _ rfl, KC.out.below (below_drewN (Below.refl _ y2) 1) 1 _ rfl, KC.out.below (below_drewN (Below.refl _ y2) 1) 2 _ rfl⟩
 obtain ⟨yb, hyb⟩ : ∃ y, y = y2.drew := ⟨_, rfl⟩
 rw [← hyb] at hHeld ⊢
 have BYb : Hid (Below y2.heap.size y2 yb) := Lib.hid (by rw [hyb]; exact below_drewN (Below.refl _ y2) 1)
 clear hyb
 refine tq 0 ?_
 refine tq 2 ?_
 refine wpAnyH_group (n := 2) [1, 3] 4 (phiR A (.slice ga0 gl gc) #[.slice xa1 xn1 xe1, .slice xa2 xn2 xe2, .slice xa3 xn3 xe3]) (fun _ _ _ _ _ => True) (by kernel_rfl) (by kernel_rfl) (by kernel_rfl) (by kernel_rfl) (by kernel_rfl) (fun _ _ _ _ h hb => phiR_mono h hb) (fun _ _ _ _ _ _ h _ => h) ?stepR hHeld ?finR
 case stepR =>
  intro g hg o ho D vs a wy hD hgD hφ hψ hSx hby hfr hdep K hK
  have BXY := below_step' BYb.out hby
  simp only [List.mem_cons, List.not_mem_nil, or_false] at hg
  rcases hg with rfl | rfl
  ·obtain rfl := Option.some.inj (show some _ = some o from ho)
   have t20 : a.tmps[16]? = _ := (hfr 16 (by decide)).trans rfl
   clear hψ hφ hdep hfr
   go_simp
   refine (lapp_at A.n A.l A.t A.ff _ _ _ (LG.out.below BXY) (HT.out.later BXY) SMT.out).mono ?_
   rintro e w' ⟨uT, rfl, hu, hb⟩
   go_wp2_with fail
   exact hK.out _ _ ⟨KA.out.below (below_step' BXY hb) 0 _ rfl, KA.out.below (below_step' BXY hb) 1 _ rfl, KA.out.below (below_step' BXY hb) 2 _ rfl, KA.out.below (below_step' BXY hb) 3 _ rfl, KC.out.below (below_step' BXY hb) 0 _ rfl, KC.out.below (below_step' BXY hb) 1 _ rfl, KC.out.below (below_step' BXY hb) 2 _ rfl⟩ (by unfold phiR; rw [if_pos rfl]; exact ⟨uT, rfl, hu⟩) (fun _ _ => trivial) hb
  ·obtain rfl := Option.some.inj (show some _ = some o from ho)
   have t22 : a.tmps[18]? = _ := (hfr 18 (by decide)).trans rfl
   clear hψ hφ hdep hfr
   go_simp
   refine (lref_at _ _ _ _ _ (HC.out.later BXY)).mono ?_
   rintro e w' ⟨rfl, hb⟩
   go_wp2_with fail
   exact hK.out _ _ ⟨KA.out.below (below_step' BXY hb) 0 _ rfl, KA.out.below (below_step' BXY hb) 1 _ rfl, KA.out.below (below_step' BXY hb) 2 _ rfl, KA.out.below (below_step' BXY hb) 3 _ rfl, KC.out.below (below_step' BXY hb) 0 _ rfl, KC.out.below (below_step' BXY hb) 1 _ rfl, KC.out.below (below_step' BXY hb) 2 _ rfl⟩ (by unfold phiR; rw [if_neg (by decide)]) (fun _ _ => trivial) hb
 case finR =>
  intro vs wy hSx hby hφ hψ
  have h1 := hφ 1 (by simp)
  have h3 := hφ 3 (by simp)
  unfold phiR at h1 h3
  rw [if_pos rfl] at h1
  rw [if_neg (by decide)] at h3
  obtain ⟨uT, e1, hu⟩ := h1
  change wpAnyH _ _ _ _ _ _ _ (((_ : Act).put (some 17) (vs 1)).put (some 19) (vs 3)) _
  rw [e1, h3]
  try simp only [Act.put, List.getElem_toArray, List.getElem_cons_zero, List.getElem_cons_succ, List.setIfInBounds_toArray, List.set_cons_zero, List.set_cons_succ]
  have BXY := Lib.hid (below_step' BYb.out hby)
  have UT := Lib.hid hu
  clear hψ hφ hby e1 h3 hu
  refine rd 4 fun K hK => ?_
  go_simp
  refine (rright5_at A (cutC c1) rr _ _ _ _ _ _ (LG.out.below BXY.out) UT.out (HC.out.later BXY.out) (Nat.le_trans LN.out (by decide)) SMT.out SMC.out RR.out).mono ?_
  rintro e y3 ⟨rfl, hb⟩
  have B3 := Lib.hid (below_step' BXY.out hb)
  clear hb
  go_wp2_with fail
  refine hK.out _ _ ?_ (fun hHeld => ?_)
  ·exact ⟨KA.out.below B3.out 0 _ rfl, KA.out.below B3.out 1 _ rfl, KA.out.below B3.out 2 _ rfl, KA.out.below B3.out 3 _ rfl, KC.out.below B3.out 0 _ rfl, KC.out.below B3.out 1 _ rfl, KC.out.below B3.out 2 _ rfl⟩
  clear hK K hSx UT BXY BYb
  try simp only [Act.put, List.getElem_toArray, List.getElem_cons_zero, List.getElem_cons_succ, List.setIfInBounds_toArray, List.set_cons_zero, List.set_cons_succ]
  refine tq 5 ?_
  refine wpAnyH_done (by kernel_rfl) ?_ _
  replace KA := Lib.hid (KA.out.below B3.out)
  replace KC := Lib.hid (KC.out.below B3.out)
  replace LG := Lib.hid (LG.out.below B3.out)
  replace HT := Lib.hid (HT.out.later B3.out)
  replace HC := Lib.hid (HC.out.later B3.out)
  replace BW := Lib.hid (below_step' BW.out B3.out)
  try replace KN := Lib.hid (KN.out.below B3.out)
  clear B3
  cases rr with
  | false =>
   have p0 := KA.out 0 _ rfl
   have p1 := KA.out 1 _ rfl
   have p2 := KA.out 2 _ rfl
   have p3 := KA.out 3 _ rfl
   have q0 := KC.out 0 _ rfl
   have q1 := KC.out 1 _ rfl
   have q2 := KC.out 2 _ rfl
   go_wp2_with fail
   clear p0 p1 p2 p3 q0 q1 q2
   refine (pright_at A (cutC c1) false _ _ _ _ _ _ LG.out HT.out HC.out WFA.out (Nat.le_trans LN.out (by decide)) SMT.out SMC.out RR.out).mono ?_
   rintro e y4 ⟨rfl, hb⟩
   replace BW := Lib.hid (below_step' BW.out hb)
   clear hb
   go_wp2_with fail
   refine (fixed5_any _).mono ?_
   rintro e y9 ⟨rfl, hb⟩
   replace BW := Lib.hid (below_step' BW.out hb)
   clear hb
   go_wp2_with fail
   go_ret
   exact ⟨rfl, BW.out⟩
  | true =>
   have HOK := Lib.hid (RR.out.1 rfl)
   have p0 := KA.out 0 _ rfl
   have p1 := KA.out 1 _ rfl
   have p2 := KA.out 2 _ rfl
   have p3 := KA.out 3 _ rfl
   have q0 := KC.out 0 _ rfl
   have q1 := KC.out 1 _ rfl
   have q2 := KC.out 2 _ rfl
   go_wp2_with fail
   clear p0 p1 p2 p3 q0 q1 q2
   refine (can_at A (cutC c1) HOK.out SMT.out _ _ _ _ _ _ LG.out HT.out HC.out).mono ?_
   rintro e y4 ⟨u, rfl, hu, hb⟩
   obtain ⟨la, lc, ee⟩ := slice_of hu
   subst ee
   replace KA := Lib.hid (KA.out.below hb)
   replace KC := Lib.hid (KC.out.below hb)
   replace LG := Lib.hid (LG.out.below hb)
   replace HT := Lib.hid (HT.out.later hb)
   replace HC := Lib.hid (HC.out.later hb)
   replace BW := Lib.hid (below_step' BW.out hb)
   clear hb
   obtain ⟨l, hl⟩ : ∃ l, l = canOf A (cutC c1) := ⟨_, rfl⟩
   rw [← hl] at hu ⊢
   obtain ⟨n, hn⟩ : ∃ n, n = l.length := ⟨_, rfl⟩
   rw [← hn] at hu ⊢
   have nb : n ≤ 1000000 := by rw [hn, hl]; exact can_len A c1
   have HL := Lib.hid hl
   have NL := Lib.hid hn
   have HU := Lib.hid hu
   clear hl hn hu
   go_wp2_with fail
   go_loopw [6] (fun i wr => ∃ k : Nat, i = .int .i64 k ∧ k ≤ n ∧ Below y4.heap.size y4 wr) (fun i _ => n - (intOf i).toNat)
   case atStart => exact ⟨0, rfl, by omega, Below.refl _ _⟩
   case round =>
    obtain ⟨k, rfl, hk, hby⟩ := hrel
    have BY := Lib.hid hby
    clear hby
    by_cases hlt : k < n
    ·have hlt' : (k : Int) < n := by omega
     obtain ⟨s, hs⟩ := some_of_lt (l := l) (i := k) (by rw [← NL.out]; exact hlt)
     replace KA := Lib.hid (KA.out.below BY.out)
     replace KC := Lib.hid (KC.out.below BY.out)
     replace LG := Lib.hid (LG.out.below BY.out)
     replace HT := Lib.hid (HT.out.later BY.out)
     replace HC := Lib.hid (HC.out.later BY.out)
     replace BW := Lib.hid (below_step' BW.out BY.out)
     have hu' := HU.out.later BY.out
     obtain ⟨lb, lo, ee, g0, g1, g2, g3, g4⟩ := steps_at hu' hs
     subst ee
     clear hu'
     have QS : Hid (∀ w', Below wr.heap.size wr w' → (fun w' => w'.cell? ⟨ba, 0, none⟩ = some (.int .i64 A.n) ∧ w'.cell? ⟨ba, 1, none⟩ = some (.slice ga0 gl gc) ∧ w'.cell? ⟨ba, 2, none⟩ = some (.slice ta tl tc) ∧ w'.cell? ⟨ba, 3, none⟩ = some (.bool A.ff) ∧ w'.cell? ⟨bc, 0, none⟩ = some (.slice xa1 xn1 xe1) ∧ w'.cell? ⟨bc, 1, none⟩ = some (.slice xa2 xn2 xe2) ∧ w'.cell? ⟨bc, 2, none⟩ = some (.slice xa3 xn3 xe3) ∧ w'.cell? ⟨lb, lo + k * 5, none⟩ = some (.int .i64 s.kind) ∧ w'.cell? ⟨lb, lo + k * 5 + 1, none⟩ = some (.int .i64 s.node) ∧ w'.cell? ⟨lb, lo + k * 5 + 2, none⟩ = some (.int .i64 s.k) ∧ w'.cell? ⟨lb, lo + k * 5 + 3, none⟩ = some (.int .i64 s.link) ∧ w'.cell? ⟨lb, lo + k * 5 + 4, none⟩ = some (.int .i64 s.seq)) w') := Lib.hid (fun w' hb => ⟨KA.out.below hb 0 _ rfl, KA.out.below hb 1 _ rfl, KA.out.below hb 2 _ rfl, KA.out.below hb 3 _ rfl, KC.out.below hb 0 _ rfl, KC.out.below hb 1 _ rfl, KC.out.below hb 2 _ rfl, (hb.cell (World.block_lt_of_cell? wr _ g0)).trans g0, (hb.cell (World.block_lt_of_cell? wr _ g1)).trans g1, (hb.cell (World.block_lt_of_cell? wr _ g2)).trans g2, (hb.cell (World.block_lt_of_cell? wr _ g3)).trans g3, (hb.cell (World.block_lt_of_cell? wr _ g4)).trans g4⟩)
     have HS := Lib.hid hs
     clear hs g0 g1 g2 g3 g4
     have ez : errOf A (cutC c1) s = 0 := can_zero (by rw [← HL.out]; exact List.mem_of_getElem? HS.out)
     obtain ⟨d, hd⟩ : ∃ d, d = doneOf A (cutC c1) s := ⟨_, rfl⟩
     have hap : applied A (cutC c1) s = d := by rw [hd]; unfold applied; rw [if_pos ez]
     have okd : CfOK A d := by rw [hd]; exact doneOf_ok HOK.out ez
     have EZ := Lib.hid ez
     have HAP := Lib.hid hap
     have HD := Lib.hid hd
     have OKD := Lib.hid okd
     clear ez hap hd okd
     go_upto_region 9 with fail
     go_cut [7, 8] from 38 to 47 (fun sp se wx => AppBox d wr sp se wx)
     case first =>
      refine wp_region_held_drew (S := (fun w' => w'.cell? ⟨ba, 0, none⟩ = some (.int .i64 A.n) ∧ w'.cell? ⟨ba, 1, none⟩ = some (.slice ga0 gl gc) ∧ w'.cell? ⟨ba, 2, none⟩ = some (.slice ta tl tc) ∧ w'.cell? ⟨ba, 3, none⟩ = some (.bool A.ff) ∧ w'.cell? ⟨bc, 0, none⟩ = some (.slice xa1 xn1 xe1) ∧ w'.cell? ⟨bc, 1, none⟩ = some (.slice xa2 xn2 xe2) ∧ w'.cell? ⟨bc, 2, none⟩ = some (.slice xa3 xn3 xe3) ∧ w'.cell? ⟨lb, lo + k * 5, none⟩ = some (.int .i64 s.kind) ∧ w'.cell? ⟨lb, lo + k * 5 + 1, none⟩ = some (.int .i64 s.node) ∧ w'.cell? ⟨lb, lo + k * 5 + 2, none⟩ = some (.int .i64 s.k) ∧ w'.cell? ⟨lb, lo + k * 5 + 3, none⟩ = some (.int .i64 s.link) ∧ w'.cell? ⟨lb, lo + k * 5 + 4, none⟩ = some (.int .i64 s.seq))) (by kernel_rfl) ?_ (fun hHeld => ?_)
      ·exact QS.out _ (below_drewN (Below.refl _ wr) 1)
      obtain ⟨yb, hyb⟩ : ∃ y, y = wr.drew := ⟨_, rfl⟩
      rw [← hyb] at hHeld ⊢
      refine tq 0 ?_
      refine tq 1 ?_
      refine tq 2 ?_
      refine tq 3 ?_
      refine tq 4 ?_
      refine tq 5 ?_
      have BYb : Hid (Below wr.heap.size wr yb) := Lib.hid (by rw [hyb]; exact below_drewN (Below.refl _ wr) 1)
      clear hyb
      refine wpAnyH_ready (rs := [6, 10]) (by kernel_rfl) (by simp) ?_
      refine AllReadyH.cons rfl (fun K hK => ?_) (AllReadyH.cons rfl (fun K hK => ?_) AllReadyH.nil)
      ·go_simp
       refine (apply_at A (cutC c1) _ _ _ _ _ HOK.out SMT.out SMC.out _ _ _ _ _ _ (LG.out.below BYb.out) (HT.out.later BYb.out) (HC.out.later BYb.out)).mono ?_
       rintro e xR ⟨u1, u2, u3, rfl, hR, hb⟩
       rw [show errOf A (cutC c1) ⟨s.kind, s.node, s.k, s.link, s.seq⟩ = 0 from EZ.out]
       rw [show applied A (cutC c1) ⟨s.kind, s.node, s.k, s.link, s.seq⟩ = d from HAP.out] at hR
       obtain ⟨r1, r2, r3, o1, o2, o3, q1, q2, q3, ee1, ee2, ee3⟩ := cf_slices hR
       subst ee1
       subst ee2
       subst ee3
       have HR := Lib.hid hR
       clear hR
       have BxR := Lib.hid hb
       have BYxR := Lib.hid (hb)
       clear hb
       go_wp2_with fail
       refine hK.out _ _ ?_ (fun hHeld => ?_)
       ·exact QS.out _ (below_step' BYb.out BYxR.out)
       clear hK K
       try simp only [Act.put, List.getElem_toArray, List.getElem_cons_zero, List.getElem_cons_succ, List.setIfInBounds_toArray, List.set_cons_zero, List.set_cons_succ]
       refine tq 7 ?_
       refine tq 8 ?_
       refine tq 9 ?_
       refine rd 10 fun K hK => ?_
       obtain ⟨xRB, hx⟩ : ∃ x, x = xR.alloc (.cells #[.slice none 0 0, .slice none 0 0, .slice none 0 0] 31) := ⟨_, rfl⟩
       have hb : Below xR.heap.size xR xRB := by rw [hx]; exact below_new _ _
       have KB := Lib.hid (show BoxAt xR.heap.size [.slice none 0 0, .slice none 0 0, .slice none 0 0] xRB from by rw [hx]; exact boxAt_new xR [.slice none 0 0, .slice none 0 0, .slice none 0 0] _)
       have OB : Hid (OpenRow xRB xR.heap.size 1 3) := Lib.hid (by rw [hx]; exact ⟨by decide, _, _, heap_alloc_new xR _, rfl⟩)
       have PB : xR.heap.size < xRB.heap.size := by rw [hx]; simp
       obtain ⟨pb, hpb⟩ : ∃ p, p = xR.heap.size := ⟨_, rfl⟩
       go_simp
       rw [← hx]
       rw [← hpb] at KB OB PB ⊢
       have HPB := Lib.hid hpb
       clear hx hpb
       have BxRB := Lib.hid hb
       have BYxRB := Lib.hid (below_step' BYxR.out hb)
       clear hb
       refine hK.out _ _ ?_ (fun hHeld => ?_)
       ·exact QS.out _ (below_step' BYb.out BYxRB.out)
       clear hK K
       try simp only [Act.put, List.getElem_toArray, List.getElem_cons_zero, List.getElem_cons_succ, List.setIfInBounds_toArray, List.set_cons_zero, List.set_cons_succ]
       refine rd 11 fun K hK => ?_
       have hO := OB.out.same (SameOn.of_below (P := fun _ => True) (Below.refl _ xRB)) trivial PB
       have hB := KB.out.below (Below.refl _ xRB)
       have hH : HoldsL False (fun q => q ≠ pb) xRB [.slice r1 o1 q1, .slice r2 o2 q2, .slice r3 o3 q3] d.d := (HR.out.loose.wide (P' := fun q => q ≠ pb) (fun q h _ e => by have := HPB.out; omega)).later BxRB.out
       have k0 := hB 0 _ rfl
       have k1 := hB 1 _ rfl
       have k2 := hB 2 _ rfl
       have f0 := hO.frozen 0
       have f1 := hO.frozen 1
       have f2 := hO.frozen 2
       have HB := Lib.hid hB
       have HH := Lib.hid hH
       clear hO hB hH
       go_simp
       clear k0 k1 k2 f0 f1 f2
       obtain ⟨w9, hw9⟩ : ∃ x, x = ((xRB.setCell ⟨pb, 0, none⟩ (.slice r1 o1 q1)).setCell ⟨pb, 1, none⟩ (.slice r2 o2 q2)).setCell ⟨pb, 2, none⟩ (.slice r3 o3 q3) := ⟨_, rfl⟩
       have r9 : BoxAt pb [.slice r1 o1 q1, .slice r2 o2 q2, .slice r3 o3 q3] w9 := by rw [hw9]; exact boxAt_set (j := 2) (u := .slice r3 o3 q3) (boxAt_set (j := 1) (u := .slice r2 o2 q2) (boxAt_set (j := 0) (u := .slice r1 o1 q1) HB.out))
       have hpy : wr.heap.size ≤ pb := by have := HPB.out; have := BYb.out.size; have := BYxR.out.size; omega
       have b9 : Below wr.heap.size wr w9 := by rw [hw9]; exact ((((below_step' BYb.out BYxRB.out).setCell hpy _).setCell hpy _).setCell hpy _)
       have h9 : HasL w9 [.slice r1 o1 q1, .slice r2 o2 q2, .slice r3 o3 q3] d.d := by rw [hw9]; exact (HH.out.same ((((SameOn.refl _ xRB).set ⟨pb, 0, none⟩ _ (fun h => h rfl)).set ⟨pb, 1, none⟩ _ (fun h => h rfl)).set ⟨pb, 2, none⟩ _ (fun h => h rfl))).weak
       rw [← hw9]
       have R9 := Lib.hid r9
       have B9 := Lib.hid b9
       have H9 := Lib.hid h9
       have PY := Lib.hid hpy
       clear hw9 r9 b9 h9 hpy HB HH
       refine hK.out _ _ ?_ (fun hHeld => ?_)
       ·exact QS.out _ B9.out
       clear hK K
       try simp only [Act.put, List.getElem_toArray, List.getElem_cons_zero, List.getElem_cons_succ, List.setIfInBounds_toArray, List.set_cons_zero, List.set_cons_succ]
       refine tq 12 ?_
       refine wpAnyH_done (by kernel_rfl) ?_ _
       go_wp2_with fail
       go_meet
       exact ⟨pb, r1, r2, r3, o1, o2, o3, q1, q2, q3, rfl, rfl, R9.out, H9.out, B9.out⟩
      ·obtain ⟨xB, hx⟩ : ∃ x, x = yb.alloc (.cells #[.slice none 0 0, .slice none 0 0, .slice none 0 0] 31) := ⟨_, rfl⟩
       have hb : Below yb.heap.size yb xB := by rw [hx]; exact below_new _ _
       have KB := Lib.hid (show BoxAt yb.heap.size [.slice none 0 0, .slice none 0 0, .slice none 0 0] xB from by rw [hx]; exact boxAt_new yb [.slice none 0 0, .slice none 0 0, .slice none 0 0] _)
       have OB : Hid (OpenRow xB yb.heap.size 1 3) := Lib.hid (by rw [hx]; exact ⟨by decide, _, _, heap_alloc_new yb _, rfl⟩)
       have PB : yb.heap.size < xB.heap.size := by rw [hx]; simp
       obtain ⟨pb, hpb⟩ : ∃ p, p = yb.heap.size := ⟨_, rfl⟩
       go_simp
       rw [← hx]
       rw [← hpb] at KB OB PB ⊢
       have HPB := Lib.hid hpb
       clear hx hpb
       have BxB := Lib.hid hb
       have BYxB := Lib.hid (hb)
       clear hb
       refine hK.out _ _ ?_ (fun hHeld => ?_)
       ·exact QS.out _ (below_step' BYb.out BYxB.out)
       clear hK K
       try simp only [Act.put, List.getElem_toArray, List.getElem_cons_zero, List.getElem_cons_succ, List.setIfInBounds_toArray, List.set_cons_zero, List.set_cons_succ]
       refine rd 6 fun K hK => ?_
       go_simp
       refine (apply_at A (cutC c1) _ _ _ _ _ HOK.out SMT.out SMC.out _ _ _ _ _ _ (LG.out.below (below_step' BYb.out BYxB.out)) (HT.out.later (below_step' BYb.out BYxB.out)) (HC.out.later (below_step' BYb.out BYxB.out))).mono ?_
       rintro e xBR ⟨u1, u2, u3, rfl, hR, hb⟩
       rw [show errOf A (cutC c1) ⟨s.kind, s.node, s.k, s.link, s.seq⟩ = 0 from EZ.out]
       rw [show applied A (cutC c1) ⟨s.kind, s.node, s.k, s.link, s.seq⟩ = d from HAP.out] at hR
       obtain ⟨r1, r2, r3, o1, o2, o3, q1, q2, q3, ee1, ee2, ee3⟩ := cf_slices hR
       subst ee1
       subst ee2
       subst ee3
       have HR := Lib.hid hR
       clear hR
       have BxBR := Lib.hid hb
       have BYxBR := Lib.hid (below_step' BYxB.out hb)
       clear hb
       go_wp2_with fail
       refine hK.out _ _ ?_ (fun hHeld => ?_)
       ·exact QS.out _ (below_step' BYb.out BYxBR.out)
       clear hK K
       try simp only [Act.put, List.getElem_toArray, List.getElem_cons_zero, List.getElem_cons_succ, List.setIfInBounds_toArray, List.set_cons_zero, List.set_cons_succ]
       refine tq 7 ?_
       refine tq 8 ?_
       refine tq 9 ?_
       refine rd 11 fun K hK => ?_
       have hO := OB.out.same (SameOn.of_below (P := fun _ => True) BxBR.out) trivial PB
       have hB := KB.out.below BxBR.out
       have hz : xB.heap.size ≤ xB.heap.size := Nat.le_refl _
       have hH : HoldsL False (fun q => q ≠ pb) xBR [.slice r1 o1 q1, .slice r2 o2 q2, .slice r3 o3 q3] d.d := HR.out.loose.wide (fun q _ h e => by have h : xB.heap.size ≤ q := h; omega)
       have k0 := hB 0 _ rfl
       have k1 := hB 1 _ rfl
       have k2 := hB 2 _ rfl
       have f0 := hO.frozen 0
       have f1 := hO.frozen 1
       have f2 := hO.frozen 2
       have HB := Lib.hid hB
       have HH := Lib.hid hH
       clear hO hB hH
       go_simp
       clear k0 k1 k2 f0 f1 f2
       obtain ⟨w9, hw9⟩ : ∃ x, x = ((xBR.setCell ⟨pb, 0, none⟩ (.slice r1 o1 q1)).setCell ⟨pb, 1, none⟩ (.slice r2 o2 q2)).setCell ⟨pb, 2, none⟩ (.slice r3 o3 q3) := ⟨_, rfl⟩
       have r9 : BoxAt pb [.slice r1 o1 q1, .slice r2 o2 q2, .slice r3 o3 q3] w9 := by rw [hw9]; exact boxAt_set (j := 2) (u := .slice r3 o3 q3) (boxAt_set (j := 1) (u := .slice r2 o2 q2) (boxAt_set (j := 0) (u := .slice r1 o1 q1) HB.out))
       have hpy : wr.heap.size ≤ pb := by have := HPB.out; have := BYb.out.size; omega
       have b9 : Below wr.heap.size wr w9 := by rw [hw9]; exact ((((below_step' BYb.out BYxBR.out).setCell hpy _).setCell hpy _).setCell hpy _)
       have h9 : HasL w9 [.slice r1 o1 q1, .slice r2 o2 q2, .slice r3 o3 q3] d.d := by rw [hw9]; exact (HH.out.same ((((SameOn.refl _ xBR).set ⟨pb, 0, none⟩ _ (fun h => h rfl)).set ⟨pb, 1, none⟩ _ (fun h => h rfl)).set ⟨pb, 2, none⟩ _ (fun h => h rfl))).weak
       rw [← hw9]
       have R9 := Lib.hid r9
       have B9 := Lib.hid b9
       have H9 := Lib.hid h9
       have PY := Lib.hid hpy
       clear hw9 r9 b9 h9 hpy HB HH
       refine hK.out _ _ ?_ (fun hHeld => ?_)
       ·exact QS.out _ B9.out
       clear hK K
       try simp only [Act.put, List.getElem_toArray, List.getElem_cons_zero, List.getElem_cons_succ, List.setIfInBounds_toArray, List.set_cons_zero, List.set_cons_succ]
       refine tq 12 ?_
       refine wpAnyH_done (by kernel_rfl) ?_ _
       go_wp2_with fail
       go_meet
       exact ⟨pb, r1, r2, r3, o1, o2, o3, q1, q2, q3, rfl, rfl, R9.out, H9.out, B9.out⟩
     case rest =>
      obtain ⟨p, da1, da2, da3, dn1, dn2, dn3, de1, de2, de3, ee1, ee2, hk9, hh9, hb⟩ := hcut
      subst ee1
      subst ee2
      obtain ⟨y5, hy⟩ : ∃ y, y = wc := ⟨_, rfl⟩
      rw [← hy] at hk9 hh9 hb ⊢
      clear hy
      replace KA := Lib.hid (KA.out.below hb)
      replace KC := Lib.hid (KC.out.below hb)
      replace LG := Lib.hid (LG.out.below hb)
      replace HT := Lib.hid (HT.out.later hb)
      replace HC := Lib.hid (HC.out.later hb)
      replace BW := Lib.hid (below_step' BW.out hb)
      replace HU := Lib.hid (HU.out.later (below_step' BY.out hb))
      have BX5 := Lib.hid (below_step' BY.out hb)
      have KD := Lib.hid hk9
      have CD := Lib.hid hh9
      clear hb hk9 hh9
      have p0 := KA.out 0 _ rfl
      have p1 := KA.out 1 _ rfl
      have p2 := KA.out 2 _ rfl
      have p3 := KA.out 3 _ rfl
      have q0 := KD.out 0 _ rfl
      have q1 := KD.out 1 _ rfl
      have q2 := KD.out 2 _ rfl
      go_wp2_with fail
      clear p0 p1 p2 p3 q0 q1 q2
      refine (pright_at A d true _ _ _ _ _ _ LG.out HT.out CD.out WFA.out (Nat.le_trans LN.out (by decide)) SMT.out (small_okS OKD.out) ⟨fun _ => OKD.out, fun _ => rfl⟩).mono ?_
      rintro e y6 ⟨rfl, hb⟩
      replace KA := Lib.hid (KA.out.below hb)
      replace KC := Lib.hid (KC.out.below hb)
      replace LG := Lib.hid (LG.out.below hb)
      replace HT := Lib.hid (HT.out.later hb)
      replace HC := Lib.hid (HC.out.later hb)
      replace BW := Lib.hid (below_step' BW.out hb)
      replace HU := Lib.hid (HU.out.later hb)
      replace BX5 := Lib.hid (below_step' BX5.out hb)
      replace KD := Lib.hid (KD.out.below hb)
      replace CD := Lib.hid (CD.out.later hb)
      clear hb
      obtain ⟨hz1, hz2, hz3⟩ := cf_has HC.out
      obtain ⟨_, _, ee⟩ := slice_of hz2
      have xlen2 : xn2 = (cutC c1).links.length := by injection ee
      clear ee
      obtain ⟨_, _, ee⟩ := slice_of hz3
      have xlen3 : xn3 = (cutC c1).sent.length := by injection ee
      clear ee hz1 hz2 hz3
      obtain ⟨hz1, hz2, hz3⟩ := cf_has CD.out
      obtain ⟨_, _, ee⟩ := slice_of hz2
      have dlen2 : dn2 = d.links.length := by injection ee
      clear ee
      obtain ⟨_, _, ee⟩ := slice_of hz3
      have dlen3 : dn3 = d.sent.length := by injection ee
      clear ee hz1 hz2 hz3
      have clen2 := HOK.out.2.links
      have clen3 := HOK.out.2.sent
      have dlen2' := OKD.out.2.links
      have dlen3' := OKD.out.2.sent
      obtain ⟨ln, hln⟩ : ∃ n, n = A.l.length := ⟨_, rfl⟩
      have ex2 : ln = xn2 := by omega
      have ex3 : ln = xn3 := by omega
      have ed2 : ln = dn2 := by omega
      have ed3 : ln = dn3 := by omega
      have LL : Hid (ln = (cutC c1).links.length ∧ ln = d.links.length ∧ ln = (cutC c1).sent.length ∧ ln = d.sent.length) := Lib.hid ⟨by omega, by omega, by omega, by omega⟩
      clear xlen2 xlen3 dlen2 dlen3 clen2 clen3 dlen2' dlen3'
      subst xn2 xn3 dn2 dn3
      have LNE := Lib.hid hln
      have ln40 : ln ≤ 40 := by rw [hln]; exact LN.out
      clear hln
      go_upto_block 2 with fail
      go_cut [9, 10] from 32 to 135 (fun s9 s10 wz => s9 = .int .i64 (moreTo (cutC c1) d ln) ∧ s10 = .int .i64 (sentTo (cutC c1) d ln) ∧ Below y6.heap.size y6 wz)
      case first =>
       go_wp2_with fail
       go_loopw [9, 10, 11] (fun m t i wr2 => ∃ j : Nat, i = .int .i64 j ∧ j ≤ ln ∧ m = .int .i64 (moreTo (cutC c1) d j) ∧ t = .int .i64 (sentTo (cutC c1) d j) ∧ Below y6.heap.size y6 wr2) (fun _ _ i _ => ln - (intOf i).toNat)
       case atStart => exact ⟨0, rfl, by omega, rfl, rfl, Below.refl _ _⟩
       case round =>
        obtain ⟨j, rfl, hj, rfl, rfl, hb2⟩ := hrel
        have B2 := Lib.hid hb2
        clear hb2
        have kc1 := KC.out.below B2.out 1 _ rfl
        have kc2 := KC.out.below B2.out 2 _ rfl
        have kd1 := KD.out.below B2.out 1 _ rfl
        have kd2 := KD.out.below B2.out 2 _ rfl
        by_cases hjl : j < ln
        ·have hjl' : (j : Int) < ln := by omega
         obtain ⟨cm, hcm⟩ := some_of_lt (l := (cutC c1).links) (i := j) (by rw [← LL.out.1]; exact hjl)
         obtain ⟨dm, hdm⟩ := some_of_lt (l := d.links) (i := j) (by rw [← LL.out.2.1]; exact hjl)
         obtain ⟨cx, hcx⟩ := some_of_lt (l := (cutC c1).sent) (i := j) (by rw [← LL.out.2.2.1]; exact hjl)
         obtain ⟨dx, hdx⟩ := some_of_lt (l := d.sent) (i := j) (by rw [← LL.out.2.2.2]; exact hjl)
         have hcc := cf_has (HC.out.later B2.out)
         have hdd := cf_has (CD.out.later B2.out)
         obtain ⟨cl, co, ca, cc, ee, -, -, z1, -⟩ := lls_at hcc.2.1 hcm
         subst ee
         obtain ⟨dl, dq, da, dc, ee, -, -, z2, -⟩ := lls_at hdd.2.1 hdm
         subst ee
         obtain ⟨cs, ct, ee, z3⟩ := int_at hcc.2.2 hcx
         subst ee
         obtain ⟨ds, dt, ee, z4⟩ := int_at hdd.2.2 hdx
         subst ee
         have Q1 : Hid (∀ w', Below wr.heap.size wr w' → (fun w' => w'.cell? ⟨bc, 1, none⟩ = some (.slice (some ⟨cl, co, none⟩) ln xe2) ∧ w'.cell? ⟨p, 1, none⟩ = some (.slice (some ⟨dl, dq, none⟩) ln de2) ∧ w'.cell? ⟨cl, co + j, none⟩ = some (.slice ca (cm.length) cc) ∧ w'.cell? ⟨dl, dq + j, none⟩ = some (.slice da (dm.length) dc)) w') := Lib.hid (fun w' hb => ⟨(hb.cell (World.block_lt_of_cell? wr _ kc1)).trans kc1, (hb.cell (World.block_lt_of_cell? wr _ kd1)).trans kd1, (hb.cell (World.block_lt_of_cell? wr _ z1)).trans z1, (hb.cell (World.block_lt_of_cell? wr _ z2)).trans z2⟩)
         have Q2 : Hid (∀ w', Below wr.heap.size wr w' → (fun w' => w'.cell? ⟨bc, 2, none⟩ = some (.slice (some ⟨cs, ct, none⟩) ln xe3) ∧ w'.cell? ⟨p, 2, none⟩ = some (.slice (some ⟨ds, dt, none⟩) ln de3) ∧ w'.cell? ⟨cs, ct + j, none⟩ = some (.int .i64 cx) ∧ w'.cell? ⟨ds, dt + j, none⟩ = some (.int .i64 dx)) w') := Lib.hid (fun w' hb => ⟨(hb.cell (World.block_lt_of_cell? wr _ kc2)).trans kc2, (hb.cell (World.block_lt_of_cell? wr _ kd2)).trans kd2, (hb.cell (World.block_lt_of_cell? wr _ z3)).trans z3, (hb.cell (World.block_lt_of_cell? wr _ z4)).trans z4⟩)
         have bnd := to_bound HOK.out OKD.out (j + 1) (by rw [← LNE.out]; exact hjl)
         have bnd0 := to_bound HOK.out OKD.out j (by rw [← LNE.out]; exact hj)
         have em := more_step hcm hdm
         have es := sent_step hcx hdx
         obtain ⟨q9, m9, hq9, hm9, hk9⟩ := cf_at OKD.out (i := j) (by rw [← LNE.out]; exact hjl)
         rw [hdm] at hm9
         rw [hdx] at hq9
         cases hm9
         cases hq9
         have ld := linkOK_len hk9
         have lq := hk9.1
         have lq' := hk9.2.1
         clear hk9
         obtain ⟨M, hM⟩ : ∃ x, x = moreTo (cutC c1) d j := ⟨_, rfl⟩
         obtain ⟨Q, hQ⟩ : ∃ x, x = sentTo (cutC c1) d j := ⟨_, rfl⟩
         rw [← hM] at em bnd0 ⊢
         rw [← hQ] at es bnd0 ⊢
         rw [em, es] at bnd
         have w1 : IntKind.i64.wrap (M + (dm.length : Int)) = M + (dm.length : Int) := IntWalk.i64_in _ (by omega)
         have w2 : IntKind.i64.wrap (M + (dm.length : Int) - (cm.length : Int)) = M + (dm.length : Int) - (cm.length : Int) := IntWalk.i64_in _ (by omega)
         have w3 : IntKind.i64.wrap (Q + dx) = Q + dx := IntWalk.i64_in _ (by omega)
         have w4 : IntKind.i64.wrap (Q + dx - cx) = Q + dx - cx := IntWalk.i64_in _ (by omega)
         have EM := Lib.hid em
         have ES := Lib.hid es
         clear em es hM hQ bnd bnd0 ld lq lq' hcm hdm hcx hdx hcc hdd z1 z2 z3 z4
         go_upto_region 16 with fail
         clear kc1 kc2 kd1 kd2
         refine wp_region_held_drew (S := (fun w' => w'.cell? ⟨bc, 1, none⟩ = some (.slice (some ⟨cl, co, none⟩) ln xe2) ∧ w'.cell? ⟨p, 1, none⟩ = some (.slice (some ⟨dl, dq, none⟩) ln de2) ∧ w'.cell? ⟨cl, co + j, none⟩ = some (.slice ca (cm.length) cc) ∧ w'.cell? ⟨dl, dq + j, none⟩ = some (.slice da (dm.length) dc))) (by kernel_rfl) ?_ (fun hHeld => ?_)
         ·exact Q1.out _ (below_drewN (Below.refl _ wr) 1)
         obtain ⟨yf, hyf⟩ : ∃ y, y = wr.drew := ⟨_, rfl⟩
         rw [← hyf] at hHeld ⊢
         have BF : Hid (Below wr.heap.size wr yf) := Lib.hid (by rw [hyf]; exact below_drewN (Below.refl _ wr) 1)
         clear hyf
         refine tq 0 ?_
         refine tq 1 ?_
         refine tq 2 ?_
         refine tq 3 ?_
         refine tq 4 ?_
         refine tq 5 ?_
         refine tq 6 ?_
         refine tq 7 ?_
         refine tq 8 ?_
         refine tq 9 ?_
         refine tq 10 ?_
         refine tq 11 ?_
         refine tq 12 ?_
         refine tq 13 ?_
         refine tq 14 ?_
         refine tq 15 ?_
         refine wpAnyH_done (by kernel_rfl) ?_ _
         clear hHeld
         go_upto_region 17 with fail
         refine wp_region_held_drew (S := (fun w' => w'.cell? ⟨bc, 2, none⟩ = some (.slice (some ⟨cs, ct, none⟩) ln xe3) ∧ w'.cell? ⟨p, 2, none⟩ = some (.slice (some ⟨ds, dt, none⟩) ln de3) ∧ w'.cell? ⟨cs, ct + j, none⟩ = some (.int .i64 cx) ∧ w'.cell? ⟨ds, dt + j, none⟩ = some (.int .i64 dx))) (by kernel_rfl) ?_ (fun hHeld => ?_)
         ·exact Q2.out _ (below_drewN BF.out 1)
         obtain ⟨yh, hyh⟩ : ∃ y, y = yf.drew := ⟨_, rfl⟩
         rw [← hyh] at hHeld ⊢
         have BH : Hid (Below wr.heap.size wr yh) := Lib.hid (by rw [hyh]; exact below_drewN BF.out 1)
         clear hyh
         refine tq 0 ?_
         refine tq 1 ?_
         refine tq 2 ?_
         refine tq 3 ?_
         refine tq 4 ?_
         refine tq 5 ?_
         refine tq 6 ?_
         refine tq 7 ?_
         refine tq 8 ?_
         refine tq 9 ?_
         refine tq 10 ?_
         refine tq 11 ?_
         refine tq 12 ?_
         refine tq 13 ?_
         refine wpAnyH_done (by kernel_rfl) ?_ _
         clear hHeld
         go_wp2_with fail
         go_roundw
         case rel => exact ⟨j + 1, by go_num, by omega, by rw [EM.out], by rw [ES.out], below_step' B2.out BH.out⟩
         case measure => simp [intOf]; omega
        ·have hjl' : ¬ (j : Int) < ln := by omega
         obtain rfl : ln = j := by omega
         go_wp2_with fail
         go_meet
         case rel => exact ⟨rfl, rfl, B2.out⟩
      case rest =>
       obtain ⟨ee9, ee10, hbz⟩ := hcut
       subst ee9 ee10
       obtain ⟨y7, hy⟩ : ∃ y, y = wc := ⟨_, rfl⟩
       rw [← hy] at hbz ⊢
       clear hy
       have BZ := Lib.hid hbz
       clear hbz
       have hu' := HU.out.later BZ.out
       obtain ⟨lb2, lo2, ee, g0, g1, g2, g3, g4⟩ := steps_at hu' HS.out
       simp only [Value.slice.injEq, Option.some.injEq, Addr.mk.injEq, and_true, true_and] at ee
       obtain ⟨rfl, rfl⟩ := ee
       clear hu' g1 g2 g3 g4
       have hkk := to_kinds HOK.out EZ.out HD.out
       rw [← LNE.out] at hkk
       obtain ⟨M, hM⟩ : ∃ x, x = moreTo (cutC c1) d ln := ⟨_, rfl⟩
       obtain ⟨Q, hQ⟩ : ∃ x, x = sentTo (cutC c1) d ln := ⟨_, rfl⟩
       rw [← hM, ← hQ] at hkk ⊢
       clear hM hQ
       have BRD := Lib.hid (below_step' BX5.out BZ.out)
       rcases hkk with ⟨hk1, hk2, hk3⟩ | ⟨hk1, hk2, hk3⟩
       ·rw [hk1] at g0
        obtain rfl : M = Q := hk2
        have hq1 : (M != M) = false := by simp
        have hq2 : ¬ M < 0 := by omega
        clear hk1
        go_wp2_with fail
        go_roundw
        case rel => exact ⟨k + 1, by go_num, by omega, BRD.out⟩
        case measure => simp [intOf]; omega
       ·rw [hk1] at g0
        obtain rfl : M = -1 := hk2
        obtain rfl : Q = 0 := hk3
        clear hk1
        go_wp2_with fail
        go_roundw
        case rel => exact ⟨k + 1, by go_num, by omega, BRD.out⟩
        case measure => simp [intOf]; omega
    ·have hlt' : ¬ (k : Int) < n := by omega
     replace BW := Lib.hid (below_step' BW.out BY.out)
     go_wp2_with fail
     refine (fixed5_any _).mono ?_
     rintro e y9 ⟨rfl, hb⟩
     replace BW := Lib.hid (below_step' BW.out hb)
     clear hb
     go_wp2_with fail
     go_ret
     exact ⟨rfl, BW.out⟩
end Go.Proofs.Ytennbiajnkobnaa

