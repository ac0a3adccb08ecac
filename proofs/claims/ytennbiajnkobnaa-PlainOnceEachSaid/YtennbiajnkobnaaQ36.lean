/- Texts put together. -/
import Derived.Test.YtennbiajnkobnaaQ02
import Derived.Test.YtennbiajnkobnaaQ05
import Derived.Test.YtennbiajnkobnaaQ28
import Derived.Test.YtennbiajnkobnaaQ35
import Derived.BigQuiet
namespace Go.Proofs.Ytennbiajnkobnaa
open Go.RowKit Go.PlainAid Go.ChangeShapes Go.WideShapes Go.Lib Go.Deep
section
variable {H : Type} {enc : TypeId × Value → H} {W : World} {n : Nat} {y : DataW H × List MemPlace}
set_option maxRecDepth 100000
theorem msgs_of_trod {v : Value} (hd : DataW.trod enc Try.prog W 0 (fun _ => true) true n 51 [v] = some y) : ∃ xs : Lks, Has W v (dLinks xs) :=
 row_of_trod Try.underlying51 (by kernel_rfl) (by omega) (fun m cs y h => by
  obtain ⟨y0, y1, k, -, hl, h0, h1⟩ := trod_struct2 Try.underlying56 h
  rw [show Try.prog.cellsOf 56 = 2 by kernel_rfl] at hl
  obtain ⟨a, ha, -, -⟩ := DataW.trod_int Try.underlying3 h0
  obtain ⟨b, hb, -, -⟩ := DataW.trod_int Try.underlying3 h1
  match cs, hl with
  | [c0, c1], _ =>
   rw [show Try.prog.cellsOf 3 = 1 by kernel_rfl] at ha hb
   simp at ha hb
   subst ha hb
   exact ⟨(a, b), .mk (has_int _ _ _ _) (.mk (has_int _ _ _ _) (hasL_nil _ _ _)), rfl⟩) hd
theorem lls_of_trod {v : Value} (hd : DataW.trod enc Try.prog W 0 (fun _ => true) true n 29 [v] = some y) : ∃ xs : List Lks, Has W v (dLls xs) :=
 row_of_trod Try.underlying29 (by kernel_rfl) (by omega) (fun m cs y h => by
  have hc : ∃ c0, cs = [c0] := by
   rcases open_slice Try.underlying51 h with ⟨h, _⟩ | ⟨a, len, cap, m, n', _, _, h, _⟩
   ·exact ⟨_, h⟩
   ·exact ⟨_, h⟩
  obtain ⟨c0, rfl⟩ := hc
  obtain ⟨xs, hx⟩ := msgs_of_trod h
  exact ⟨xs, .mk hx (hasL_nil _ _ _), rfl⟩) hd
theorem steps_of_trod {v : Value} (hd : DataW.trod enc Try.prog W 0 (fun _ => true) true n 44 [v] = some y) : ∃ xs : List Sp, Has W v (dSteps xs) :=
 row_of_trod Try.underlying44 (by kernel_rfl) (by omega) (fun m cs y h => by
  obtain ⟨xs, k, -, -, hl, hlen, hf⟩ := DataW.trod_struct Try.underlying50 h
  rw [show Try.prog.cellsOf 50 = 5 by kernel_rfl] at hl
  match cs, hl, xs, hlen with
  | [c0, c1, c2, c3, c4], _, [x0, x1, x2, x3, x4], _ =>
   have e1 : Try.prog.cellsOf 3 = 1 := by kernel_rfl
   have h0 := hf 0 _ rfl
   have h1 := hf 1 _ rfl
   have h2 := hf 2 _ rfl
   have h3 := hf 3 _ rfl
   have h4 := hf 4 _ rfl
   simp [e1] at h0 h1 h2 h3 h4
   obtain ⟨a0, ha0, -, -⟩ := DataW.trod_int Try.underlying3 h0
   obtain ⟨a1, ha1, -, -⟩ := DataW.trod_int Try.underlying3 h1
   obtain ⟨a2, ha2, -, -⟩ := DataW.trod_int Try.underlying3 h2
   obtain ⟨a3, ha3, -, -⟩ := DataW.trod_int Try.underlying3 h3
   obtain ⟨a4, ha4, -, -⟩ := DataW.trod_int Try.underlying3 h4
   simp at ha0 ha1 ha2 ha3 ha4
   subst ha0 ha1 ha2 ha3 ha4
   exact ⟨⟨a0, a1, a2, a3, a4⟩, .mk (has_int _ _ _ _) (.mk (has_int _ _ _ _) (.mk (has_int _ _ _ _) (.mk (has_int _ _ _ _) (.mk (has_int _ _ _ _) (hasL_nil _ _ _))))), rfl⟩) hd
end
set_option maxRecDepth 100000 in
theorem open_steps {H : Type} {enc : TypeId × Value → H} {W : World} {b0 : Nat} {v : Value} {d : DataW H} {ps : List MemPlace} (hval : Value.okWide Try.prog W .any b0 44 v) (hd : DataW.Trod enc Try.prog W 0 (fun _ => true) true 44 v d ps) : ∃ xs : List Sp, Has W v (dSteps xs) := by
 obtain ⟨a, len, cap, rfl⟩ := okWide_slice Try.underlying44 hval
 obtain ⟨m, hm⟩ := hd
 exact steps_of_trod (by simpa [Value.cells] using hm)
set_option maxRecDepth 100000 in
theorem open_conf {H : Type} {enc : TypeId × Value → H} {W : World} {b0 : Nat} {v : Value} {d : DataW H} {ps : List MemPlace} (hval : Value.okWide Try.prog W .any b0 31 v) (hd : DataW.Trod enc Try.prog W 0 (fun _ => true) true 31 v d ps) :
  ∃ (v1 v2 v3 : Value) (c : Cf), v = .agg #[v1, v2, v3] ∧ HasL W [v1, v2, v3] c.d := by
 obtain ⟨v0, v1, v2, y0, y1, y2, n, rfl, -, -, t0, t1, t2⟩ := Go.Joins.open_agg3 Try.underlying31 (by kernel_rfl) (by kernel_rfl) hval hd
 obtain ⟨a, ha⟩ := ints_has_trod t0
 obtain ⟨b, hb⟩ := lls_of_trod t1
 obtain ⟨c, hc⟩ := ints_has_trod t2
 exact ⟨v0, v1, v2, ⟨a, b, c⟩, rfl, has_cf ha hb hc⟩
set_option maxRecDepth 100000 in
theorem open_app {H : Type} {enc : TypeId × Value → H} {W : World} {b0 : Nat} {v : Value} {d : DataW H} {ps : List MemPlace} (hval : Value.okWide Try.prog W .any b0 27 v) (hd : DataW.Trod enc Try.prog W 0 (fun _ => true) true 27 v d ps) :
  ∃ (N : Int) (u : Value) (L : Lks) (vT : Value) (M : Tab) (ff : Bool), v = .agg #[.int .i64 N, u, vT, .bool ff] ∧ LinksAt W u L ∧ (∀ p ∈ L, wfp p) ∧ Has W vT (dTab M) := by
 obtain ⟨cs, rfl, hsz⟩ := okWide_struct Try.underlying27 hval
 obtain ⟨c0, c1, c2, c3, rfl⟩ := Go.Joins.array4 (hsz.trans (by kernel_rfl))
 obtain ⟨fuel, hf⟩ := hd
 obtain ⟨y0, y1, y2, n, -, hl, h0, h1, h2⟩ := Go.Deep.trod_struct3 Try.underlying27 hf
 rw [show Try.prog.cellsOf 24 = 2 by kernel_rfl] at h0
 rw [show Try.prog.cellsOf 25 = 1 by kernel_rfl] at h1
 rw [show Try.prog.cellsOf 4 = 1 by kernel_rfl] at h2
 simp [Value.cells] at h0 h1 h2
 obtain ⟨z0, z1, k, -, hlg, g0, g1⟩ := trod_struct2 Try.underlying24 h0
 rw [show Try.prog.cellsOf 3 = 1 by kernel_rfl] at g0
 rw [show Try.prog.cellsOf 22 = 1 by kernel_rfl] at g1
 simp at g0 g1
 obtain ⟨a, ha, -, -⟩ := DataW.trod_int Try.underlying3 g0
 obtain ⟨L, hL, hW⟩ := links_of_trod g1
 obtain ⟨M, hM⟩ := tab_of_trod h1
 obtain ⟨ff, hff, -⟩ := DataW.trod_bool Try.underlying4 h2
 simp at ha hff
 subst ha hff
 exact ⟨a, c1, L, c2, M, ff, rfl, hL, hW, hM⟩
end Go.Proofs.Ytennbiajnkobnaa

set_option linter.unusedSimpArgs false
set_option linter.unusedVariables false
namespace Go.Proofs.Ytennbiajnkobnaa
open Go.RowKit Go.PlainAid
theorem infoStep : (Try.prog.info? 50).map (fun i => (i.zero, i.size, i.bytes)) = some (some (.agg #[.int .i64 0, .int .i64 0, .int .i64 0, .int .i64 0, .int .i64 0]), 5, 40) := by kernel_rfl
theorem step_five {P : Nat → Prop} {w : World} (s : Sp) : HoldsL False P w [.int .i64 s.kind, .int .i64 s.node, .int .i64 s.k, .int .i64 s.link, .int .i64 s.seq] s.d := by
 refine ⟨rfl, fun _ _ => False, fun _ _ h => h.elim, fun f => f.elim, fun j c d hc hd => ?_⟩
 match j, hc, hd with
 | 0, hc, hd => simp [Sp.d] at hc hd; subst hc hd; exact has_int _ _ _ _
 | 1, hc, hd => simp [Sp.d] at hc hd; subst hc hd; exact has_int _ _ _ _
 | 2, hc, hd => simp [Sp.d] at hc hd; subst hc hd; exact has_int _ _ _ _
 | 3, hc, hd => simp [Sp.d] at hc hd; subst hc hd; exact has_int _ _ _ _
 | 4, hc, hd => simp [Sp.d] at hc hd; subst hc hd; exact has_int _ _ _ _
 | j + 5, hc, hd => simp at hc
/-- The list under way, in its box. -/
def TryF (wb : World) (lb : Nat) (v : Value) (xs : List Sp) (w : World) : Prop := Fld False (fun q => q ≠ lb) 50 5 wb w lb 0 v (xs.map Sp.d)
def Tried (A : Ap) (c : Cf) (s : Sp) (wb : World) (lb : Nat) (xs : List Sp) (e : Ending) (w' : World) : Prop := e = .returned (.tuple #[]) ∧ ∃ v', TryF wb lb v' (if errOf A c s = 0 then xs ++ [s] else xs) w'
set_option maxHeartbeats 8000000 in
set_option maxRecDepth 100000 in
theorem try_at (A : Ap) (c : Cf) (hOK : CfOK A c) (hsm : SmallTab A.t) (s0 s1 s2 s3 s4 : Int) (xs : List Sp) (hn : xs.length ≤ 1000000) (b mb xb lb : Nat) (vG vT v1 v2 v3 v : Value) (wb w : World) (hS : SysR A c b mb vG vT v1 v2 v3 wb) (hx : wb.cell? ⟨xb, 0, none⟩ = some (.pointer (some ⟨b, 0, none⟩))) (hF : TryF wb lb v xs w) :
  Calls Try.prog 31 #[.agg #[.int .i64 s0, .int .i64 s1, .int .i64 s2, .int .i64 s3, .int .i64 s4], .pointer (some ⟨xb, 0, none⟩), .pointer (some ⟨lb, 0, none⟩)] w fun e w' => Tried A c ⟨s0, s1, s2, s3, s4⟩ wb lb xs e w' := by
 obtain ⟨iS, hiS, hzS, hsS, hbS⟩ := info_parts infoStep
 obtain ⟨ep, hep⟩ : ∃ e, e = errOf A c ⟨s0, s1, s2, s3, s4⟩ := ⟨_, rfl⟩
 have EP := Lib.hid hep
 have SR := Lib.hid hS
 have FF := Lib.hid hF
 have OK := Lib.hid hOK
 have SM := Lib.hid hsm
 have HX := Lib.hid hx
 clear hep hS hF hOK hsm hx
 go_enter Try.func31, Try.ntmps31
 try simp only [List.append_eq, List.cons_append, List.nil_append]
 go_upto_region 1 with fail
 obtain ⟨y0, hy0⟩ : ∃ y, y = w.alloc (.cells #[.int .i64 s0, .int .i64 s1, .int .i64 s2, .int .i64 s3, .int .i64 s4] 50) := ⟨_, rfl⟩
 have hb0 : Below w.heap.size w y0 := by rw [hy0]; exact below_new _ _
 have hx0 : BoxAt w.heap.size [.int .i64 s0, .int .i64 s1, .int .i64 s2, .int .i64 s3, .int .i64 s4] y0 := by rw [hy0]; exact boxAt_new w [.int .i64 s0, .int .i64 s1, .int .i64 s2, .int .i64 s3, .int .i64 s4] _
 have F0 : Hid (TryF wb lb v xs y0) := Lib.hid (Fld.below FF.out hb0)
 have X0 := Lib.hid hx0
 rw [← hy0]
 obtain ⟨sb, hsb⟩ : ∃ sb, sb = w.heap.size := ⟨_, rfl⟩
 have hlb : lb < sb := by rw [hsb]; exact World.block_lt_of_cell? w _ FF.out.cell
 rw [← hsb] at X0 ⊢
 clear hy0 hb0 hx0 hsb FF
 have bw : Below wb.heap.size wb y0 := F0.out.bld.own.bel
 have BW := Lib.hid bw
 have y1 := (bw.cell (World.block_lt_of_cell? wb _ HX.out)).trans HX.out
 have x0 := X0.out 0 _ rfl
 have x1 := X0.out 1 _ rfl
 have x2 := X0.out 2 _ rfl
 have x3 := X0.out 3 _ rfl
 have x4 := X0.out 4 _ rfl
 clear bw
 go_wp2_with fail
 refine (may_at A c OK.out SM.out s0 s1 s2 s3 s4 b mb vG vT v1 v2 v3 _ (SR.out.below BW.out)).mono ?_
 rintro e w5 ⟨rfl, hb⟩
 rw [← EP.out]
 have F5 : Hid (TryF wb lb v xs w5) := Lib.hid (Fld.below F0.out hb)
 replace X0 := Lib.hid (X0.out.below hb)
 clear hb x0 x1 x2 x3 x4 y1 BW F0
 by_cases h0 : ep = 0
 ·subst h0
  have h2 : errOf A c ⟨s0, s1, s2, s3, s4⟩ = 0 := EP.out.symm
  have H2 := Lib.hid h2
  clear h2
  obtain ⟨n, hn2⟩ : ∃ n, n = xs.length := ⟨_, rfl⟩
  have NN := Lib.hid hn2
  have hn6 : n ≤ 1000000 := by rw [hn2]; exact hn
  obtain ⟨va, vc, hv⟩ := F5.out.bld.own.slice
  rw [List.length_map, ← hn2] at hv
  subst hv
  have c1 := F5.out.cell
  have f1 := F5.out.frz
  have x0 := X0.out 0 _ rfl
  have x1 := X0.out 1 _ rfl
  have x2 := X0.out 2 _ rfl
  have x3 := X0.out 3 _ rfl
  have x4 := X0.out 4 _ rfl
  obtain ⟨wZ, hwZ⟩ : ∃ wZ, wZ = w5.alloc (.cells #[.int .i64 s0, .int .i64 s1, .int .i64 s2, .int .i64 s3, .int .i64 s4] 50) := ⟨_, rfl⟩
  have hbZ : Below w5.heap.size w5 wZ := by rw [hwZ]; exact below_new _ _
  have OZ := Lib.hid (F5.out.bld.own.later hbZ)
  have NZ := Lib.hid (show ∀ a, some (⟨w5.heap.size, 0, none⟩ : Addr) = some a → ∀ j u, [Value.int .i64 s0, .int .i64 s1, .int .i64 s2, .int .i64 s3, .int .i64 s4][j]? = some u → wZ.cell? (a.add j) = some u from by rw [hwZ]; exact news_new)
  have WZ := Lib.hid hwZ
  have BZ := Lib.hid hbZ
  clear hbZ hwZ hn2 hn
  go_wp2_with (at_builtin; go_loud (rw [← WZ.out]; refine appL rfl _ _ 44 50 iS (.agg #[.int .i64 0, .int .i64 0, .int .i64 0, .int .i64 0, .int .i64 0]) 5 40 rfl Try.underlying44 hiS hzS hsS hbS rfl (by decide) False (fun q => q ≠ lb) wb w5.heap.size _ (xs.map Sp.d) [Sp.d ⟨s0, s1, s2, s3, s4⟩] n 1 1 (n + 1) rfl OZ.out (by simp; rw [← NN.out]) (some ⟨w5.heap.size, 0, none⟩) rfl [.int .i64 s0, .int .i64 s1, .int .i64 s2, .int .i64 s3, .int .i64 s4] NZ.out (fun e => by cases e) (by simp [Sp.d]) rfl (by rw [List.flatten_cons, List.flatten_nil, List.append_nil]; exact step_five ⟨s0, s1, s2, s3, s4⟩) rfl (by unfold maxLen; omega) (by omega) ?_))
  intro ao cv w6 hO6 hg6 hb6
  obtain ⟨hF, hc6, hf6, hbw6, _, _, _⟩ := F5.out.push BZ.out hO6 hg6 hb6 (by have h1 := World.block_lt_of_cell? w5 _ F5.out.cell; have h1 : lb < w5.heap.size := h1; have h2 := BZ.out.size; omega)
  have HF := Lib.hid hF
  clear hO6 hg6 hb6 hF hbw6 c1 f1 x0 x1 x2 x3 x4
  go_wp2_with fail
  go_end0
  refine ⟨rfl, .slice ao (n + 1) cv, ?_⟩
  rw [if_pos H2.out]
  have := HF.out
  unfold TryF
  simpa using this
 ·have h1 : (ep == 0) = false := by simpa using h0
  have h2 : ¬ errOf A c ⟨s0, s1, s2, s3, s4⟩ = 0 := by rw [← EP.out]; exact h0
  have H2 := Lib.hid h2
  clear h2 h0
  go_wp2_with fail
  go_end0
  exact ⟨rfl, v, by rw [if_neg H2.out]; exact F5.out⟩
end Go.Proofs.Ytennbiajnkobnaa

set_option linter.unusedSimpArgs false
set_option linter.unusedVariables false
namespace Go.Proofs.Ytennbiajnkobnaa
open Go.RowKit Go.PlainAid
theorem take_next {α : Type} {xs ys : List α} {j : Nat} {x y : α} (hx : xs[j]? = some x) (hy : ys[j]? = some y) (h : xs.take j = ys.take j) (e : x = y) : xs.take (j + 1) = ys.take (j + 1) := by
 rw [List.take_add_one, List.take_add_one, hx, hy, h, e]
set_option maxHeartbeats 8000000 in
set_option maxRecDepth 100000 in
theorem eqInts_at (xs ys : List Int) (r : Bool) (v1 v2 : Value) (w : World) (h1 : Has w v1 (dInts xs)) (h2 : Has w v2 (dInts ys)) (hn : xs.length ≤ 1000000) (hr : r = true ↔ xs = ys) :
  Calls Try.prog 49 #[v1, v2] w fun e w' => e = .returned (.bool r) ∧ Below w.heap.size w w' := by
 obtain ⟨a1, c1, ee⟩ := slice_of h1
 subst ee
 obtain ⟨a2, c2, ee⟩ := slice_of h2
 subst ee
 have H1 := Lib.hid h1
 have H2 := Lib.hid h2
 have HR := Lib.hid hr
 by_cases hl : xs.length = ys.length
 ·obtain ⟨n, hx⟩ : ∃ n, n = xs.length := ⟨_, rfl⟩
  have hy : n = ys.length := by rw [hx]; exact hl
  rw [← hx] at h1 hn ⊢
  rw [← hy] at h2 ⊢
  replace H1 := Lib.hid h1
  replace H2 := Lib.hid h2
  have HX := Lib.hid hx
  have HY := Lib.hid hy
  clear h1 h2 hr hl hx hy
  go_enter Try.func49, Try.ntmps49
  try simp only [List.append_eq, List.cons_append, List.nil_append]
  go_wp2_with fail
  go_loopw [13] (fun i wr => ∃ j : Nat, i = .int .i64 j ∧ j ≤ n ∧ xs.take j = ys.take j ∧ Below w.heap.size w wr) (fun i _ => n - (intOf i).toNat)
  case atStart => exact ⟨0, rfl, by omega, rfl, Below.refl _ _⟩
  case round =>
   obtain ⟨j, rfl, hj, heq, hb⟩ := hrel
   have BW := Lib.hid hb
   by_cases hlt : j < n
   ·have hlt' : (j : Int) < n := by omega
    obtain ⟨x, hx⟩ := some_of_lt (l := xs) (i := j) (by rw [← HX.out]; exact hlt)
    obtain ⟨y, hy⟩ := some_of_lt (l := ys) (i := j) (by rw [← HY.out]; exact hlt)
    obtain ⟨b, o, e, x1⟩ := num_at (H1.out.later hb) hx
    subst e
    obtain ⟨b', o', e, y1⟩ := num_at (H2.out.later hb) hy
    subst e
    have GX := Lib.hid hx
    have GY := Lib.hid hy
    have EQ := Lib.hid heq
    clear hx hy heq hb
    by_cases hxy : x = y
    ·have hne : (x != y) = false := by simpa using hxy
     have HXY := Lib.hid hxy
     clear hxy
     go_wp2_with fail
     go_quiet (fail)
     have hbq : Below wr.heap.size wr (wr.drewN nq) := below_drewN (Below.refl _ wr) nq
     have BQ := Lib.hid (below_step' BW.out hbq)
     clear hbq
     go_wp2_with fail
     go_roundw
     case rel => exact ⟨j + 1, by go_num, by omega, take_next GX.out GY.out EQ.out HXY.out, BQ.out⟩
     case measure => simp [intOf]; omega
    ·have hne : (x != y) = true := by simpa using hxy
     have hrf : r = false := by
      cases r with
      | false => rfl
      | true =>
       have e := HR.out.1 rfl
       have h := GX.out
       rw [e, GY.out] at h
       cases h
       exact absurd rfl hxy
     subst hrf
     clear hxy
     go_wp2_with fail
     go_quiet (fail)
     have hbq : Below wr.heap.size wr (wr.drewN nq) := below_drewN (Below.refl _ wr) nq
     have BQ := Lib.hid (below_step' BW.out hbq)
     clear hbq
     go_wp2_with fail
     go_ret
     exact ⟨rfl, BQ.out⟩
   ·obtain rfl : j = n := by omega
    have hj3 : ¬ (j : Int) < j := by omega
    have hrt : r = true := HR.out.2 (by
     have h := heq
     rw [List.take_of_length_le (by rw [HX.out]; exact Nat.le_refl _), List.take_of_length_le (by rw [HY.out]; exact Nat.le_refl _)] at h
     exact h)
    subst hrt
    clear heq hb
    go_wp2_with fail
    go_ret
    exact ⟨rfl, BW.out⟩
 ·have hrf : r = false := by
   cases r with
   | false => rfl
   | true => exact absurd (congrArg List.length (hr.1 rfl)) hl
  subst hrf
  obtain ⟨n, hx⟩ : ∃ n, n = xs.length := ⟨_, rfl⟩
  obtain ⟨m, hy⟩ : ∃ n, n = ys.length := ⟨_, rfl⟩
  rw [← hx, ← hy] at hl ⊢
  have hl1 : ¬ (n : Int) = m := by omega
  have hl2 : ((n : Int) != m) = true := by simp; omega
  clear h1 h2 hr hx hy HR H1 H2 hn
  go_enter Try.func49, Try.ntmps49
  try simp only [List.append_eq, List.cons_append, List.nil_append]
  go_wp2_with fail
  go_ret
  exact ⟨rfl, Below.refl _ _⟩
end Go.Proofs.Ytennbiajnkobnaa

set_option linter.unusedSimpArgs false
set_option linter.unusedVariables false
namespace Go.Proofs.Ytennbiajnkobnaa
open Go.RowKit Go.PlainAid
theorem run_eqMsg (w : World) (a b c d : Int) : (Op.equalIn 10000 56 (.agg #[.int .i64 a, .int .i64 b]) (.agg #[.int .i64 c, .int .i64 d])).run Try.prog w = .ok (a == c && b == d) w := by
 rw [Op.equalIn]
 simp only [Sem.run_bind, run_underlying Try.underlying56, Result.andThen_ok]
 have p0 : ∀ x y : Int, (part 3 #[.int .i64 x, .int .i64 y] 0).run Try.prog w = .ok (.int .i64 x) w := fun x y => by simp [part, isAgg, run_underlying Try.underlying3]
 have p1 : ∀ x y : Int, (part 3 #[.int .i64 x, .int .i64 y] 1).run Try.prog w = .ok (.int .i64 y) w := fun x y => by simp [part, isAgg, run_underlying Try.underlying3]
 have pe : ∀ x y : Int, (Op.equalIn 9999 3 (.int .i64 x) (.int .i64 y)).run Try.prog w = .ok (x == y) w := fun x y => run_equalIn_int w 9998 _ .i64 .i64 x y Try.underlying3
 simp [List.forIn_cons, List.forIn_nil, Sem.run_bind, p0, p1, pe, Result.andThen_ok]
 by_cases h1 : a = c <;> by_cases h2 : b = d <;> simp [h1, h2]
attribute [go_sem] run_eqMsg
set_option maxHeartbeats 8000000 in
set_option maxRecDepth 100000 in
theorem eqMsgs_at (xs ys : Lks) (r : Bool) (v1 v2 : Value) (w : World) (h1 : Has w v1 (dLinks xs)) (h2 : Has w v2 (dLinks ys)) (hn : xs.length ≤ 1000000) (hr : r = true ↔ xs = ys) :
  Calls Try.prog 51 #[v1, v2] w fun e w' => e = .returned (.bool r) ∧ Below w.heap.size w w' := by
 obtain ⟨a1, c1, ee⟩ := slice_of h1
 subst ee
 obtain ⟨a2, c2, ee⟩ := slice_of h2
 subst ee
 have H1 := Lib.hid h1
 have H2 := Lib.hid h2
 have HR := Lib.hid hr
 by_cases hl : xs.length = ys.length
 ·obtain ⟨n, hx⟩ : ∃ n, n = xs.length := ⟨_, rfl⟩
  have hy : n = ys.length := by rw [hx]; exact hl
  rw [← hx] at h1 hn ⊢
  rw [← hy] at h2 ⊢
  replace H1 := Lib.hid h1
  replace H2 := Lib.hid h2
  have HX := Lib.hid hx
  have HY := Lib.hid hy
  clear h1 h2 hr hl hx hy
  go_enter Try.func51, Try.ntmps51
  try simp only [List.append_eq, List.cons_append, List.nil_append]
  go_wp2_with fail
  go_loopw [13] (fun i wr => ∃ j : Nat, i = .int .i64 j ∧ j ≤ n ∧ xs.take j = ys.take j ∧ Below w.heap.size w wr) (fun i _ => n - (intOf i).toNat)
  case atStart => exact ⟨0, rfl, by omega, rfl, Below.refl _ _⟩
  case round =>
   obtain ⟨j, rfl, hj, heq, hb⟩ := hrel
   have BW := Lib.hid hb
   by_cases hlt : j < n
   ·have hlt' : (j : Int) < n := by omega
    obtain ⟨⟨x1, x2⟩, hx⟩ := some_of_lt (l := xs) (i := j) (by rw [← HX.out]; exact hlt)
    obtain ⟨⟨y1, y2⟩, hy⟩ := some_of_lt (l := ys) (i := j) (by rw [← HY.out]; exact hlt)
    obtain ⟨b, o, e, p1, p2⟩ := msg_at (H1.out.later hb) hx
    subst e
    obtain ⟨b', o', e, q1, q2⟩ := msg_at (H2.out.later hb) hy
    subst e
    simp only at p1 p2 q1 q2
    have GX := Lib.hid hx
    have GY := Lib.hid hy
    have EQ := Lib.hid heq
    clear hx hy heq hb
    by_cases hxy : x1 = y1 ∧ x2 = y2
    ·obtain ⟨rfl, rfl⟩ := hxy
     go_wp2_with fail
     go_quiet (fail)
     have hbq : Below wr.heap.size wr (wr.drewN nq) := below_drewN (Below.refl _ wr) nq
     have BQ := Lib.hid (below_step' BW.out hbq)
     clear hbq
     go_wp2_with fail
     go_roundw
     case rel => exact ⟨j + 1, by go_num, by omega, take_next GX.out GY.out EQ.out rfl, BQ.out⟩
     case measure => simp [intOf]; omega
    ·have hne : (x1 == y1 && x2 == y2) = false := by
      cases h1 : (x1 == y1 && x2 == y2) with
      | false => rfl
      | true => simp at h1; exact absurd h1 hxy
     have hrf : r = false := by
      cases r with
      | false => rfl
      | true =>
       have e := HR.out.1 rfl
       have h := GX.out
       rw [e, GY.out] at h
       cases h
       exact absurd ⟨rfl, rfl⟩ hxy
     subst hrf
     by_cases hx1 : x1 = y1
     ·subst hx1
      have hx2 : ¬ x2 = y2 := fun e => hxy ⟨rfl, e⟩
      have hx3 : (x2 == y2) = false := by simpa using hx2
      clear hxy hne
      go_wp2_with fail
      go_quiet (fail)
      have hbq : Below wr.heap.size wr (wr.drewN nq) := below_drewN (Below.refl _ wr) nq
      have BQ := Lib.hid (below_step' BW.out hbq)
      clear hbq
      go_wp2_with fail
      go_ret
      exact ⟨rfl, BQ.out⟩
     ·have hx3 : (x1 == y1) = false := by simpa using hx1
      clear hxy hne
      go_wp2_with fail
      go_quiet (fail)
      have hbq : Below wr.heap.size wr (wr.drewN nq) := below_drewN (Below.refl _ wr) nq
      have BQ := Lib.hid (below_step' BW.out hbq)
      clear hbq
      go_wp2_with fail
      go_ret
      exact ⟨rfl, BQ.out⟩
   ·obtain rfl : j = n := by omega
    have hj3 : ¬ (j : Int) < j := by omega
    have hrt : r = true := HR.out.2 (by
     have h := heq
     rw [List.take_of_length_le (by rw [HX.out]; exact Nat.le_refl _), List.take_of_length_le (by rw [HY.out]; exact Nat.le_refl _)] at h
     exact h)
    subst hrt
    clear heq hb
    go_wp2_with fail
    go_ret
    exact ⟨rfl, BW.out⟩
 ·have hrf : r = false := by
   cases r with
   | false => rfl
   | true => exact absurd (congrArg List.length (hr.1 rfl)) hl
  subst hrf
  obtain ⟨n, hx⟩ : ∃ n, n = xs.length := ⟨_, rfl⟩
  obtain ⟨m, hy⟩ : ∃ n, n = ys.length := ⟨_, rfl⟩
  rw [← hx, ← hy] at hl ⊢
  have hl1 : ¬ (n : Int) = m := by omega
  have hl2 : ((n : Int) != m) = true := by simp; omega
  clear h1 h2 hr hx hy HR H1 H2 hn
  go_enter Try.func51, Try.ntmps51
  try simp only [List.append_eq, List.cons_append, List.nil_append]
  go_wp2_with fail
  go_ret
  exact ⟨rfl, Below.refl _ _⟩
end Go.Proofs.Ytennbiajnkobnaa

set_option linter.unusedSimpArgs false
set_option linter.unusedVariables false
namespace Go.Proofs.Ytennbiajnkobnaa
open Go.RowKit Go.PlainAid
def fnEq : Value := .func (.func 51) #[] #[]
set_option maxHeartbeats 8000000 in
set_option maxRecDepth 100000 in
theorem eqLls_at (xs ys : List Lks) (r : Bool) (v1 v2 : Value) (w : World) (h1 : Has w v1 (dLls xs)) (h2 : Has w v2 (dLls ys)) (hn : xs.length ≤ 1000000) (hm : ∀ m ∈ xs, m.length ≤ 1000000) (hr : r = true ↔ xs = ys) :
  Calls Try.prog 50 #[v1, v2, fnEq] w fun e w' => e = .returned (.bool r) ∧ Below w.heap.size w w' := by
 obtain ⟨a1, c1, ee⟩ := slice_of h1
 subst ee
 obtain ⟨a2, c2, ee⟩ := slice_of h2
 subst ee
 have H1 := Lib.hid h1
 have H2 := Lib.hid h2
 have HR := Lib.hid hr
 have HMM := Lib.hid hm
 unfold fnEq
 by_cases hl : xs.length = ys.length
 ·obtain ⟨n, hx⟩ : ∃ n, n = xs.length := ⟨_, rfl⟩
  have hy : n = ys.length := by rw [hx]; exact hl
  rw [← hx] at h1 hn ⊢
  rw [← hy] at h2 ⊢
  replace H1 := Lib.hid h1
  replace H2 := Lib.hid h2
  have HX := Lib.hid hx
  have HY := Lib.hid hy
  clear h1 h2 hr hl hx hy hm
  go_enter Try.func50, Try.ntmps50
  try simp only [List.append_eq, List.cons_append, List.nil_append]
  go_wp2_with fail
  go_loopw [17] (fun i wr => ∃ j : Nat, i = .int .i64 j ∧ j ≤ n ∧ xs.take j = ys.take j ∧ Below w.heap.size w wr) (fun i _ => n - (intOf i).toNat)
  case atStart => exact ⟨0, rfl, by omega, rfl, Below.refl _ _⟩
  case round =>
   obtain ⟨j, rfl, hj, heq, hb⟩ := hrel
   have BW := Lib.hid hb
   by_cases hlt : j < n
   ·have hlt' : (j : Int) < n := by omega
    obtain ⟨x, hx⟩ := some_of_lt (l := xs) (i := j) (by rw [← HX.out]; exact hlt)
    obtain ⟨y, hy⟩ := some_of_lt (l := ys) (i := j) (by rw [← HY.out]; exact hlt)
    obtain ⟨b, o, ma, mc, e, _, e9, x1, hmx⟩ := lls_at (H1.out.later hb) hx
    clear e9
    subst e
    obtain ⟨b', o', ma', mc', e, _, e9, y1, hmy⟩ := lls_at (H2.out.later hb) hy
    clear e9
    subst e
    have GX := Lib.hid hx
    have GY := Lib.hid hy
    have EQ := Lib.hid heq
    have MX := Lib.hid hmx
    have MY := Lib.hid hmy
    obtain ⟨k1, hk1⟩ : ∃ k, k = x.length := ⟨_, rfl⟩
    obtain ⟨k2, hk2⟩ : ∃ k, k = y.length := ⟨_, rfl⟩
    rw [← hk1] at x1 hmx
    rw [← hk2] at y1 hmy
    replace MX := Lib.hid hmx
    replace MY := Lib.hid hmy
    obtain ⟨q, hq⟩ := bool_some (x = y)
    have HQ := Lib.hid hq
    clear hx hy heq hb hmx hmy hk1 hk2 hq
    go_wp2_with fail
    refine (eqMsgs_at x y q _ _ _ MX.out MY.out (HMM.out x (List.mem_of_getElem? GX.out)) HQ.out).mono ?_
    rintro e w5 ⟨rfl, hb⟩
    have BQ := Lib.hid (below_step' BW.out hb)
    clear hb
    cases q with
    | true =>
     go_wp2_with fail
     go_roundw
     case rel => exact ⟨j + 1, by go_num, by omega, take_next GX.out GY.out EQ.out (HQ.out.1 (by simp)), BQ.out⟩
     case measure => simp [intOf]; omega
    | false =>
     have hrf : r = false := by
      cases r with
      | false => rfl
      | true =>
       have e := HR.out.1 rfl
       have h := GX.out
       rw [e, GY.out] at h
       cases h
       have h := HQ.out.2 rfl; simp at h
     subst hrf
     go_wp2_with fail
     go_ret
     exact ⟨rfl, BQ.out⟩
   ·obtain rfl : j = n := by omega
    have hj3 : ¬ (j : Int) < j := by omega
    have hrt : r = true := HR.out.2 (by
     have h := heq
     rw [List.take_of_length_le (by rw [HX.out]; exact Nat.le_refl _), List.take_of_length_le (by rw [HY.out]; exact Nat.le_refl _)] at h
     exact h)
    subst hrt
    clear heq hb
    go_wp2_with fail
    go_ret
    exact ⟨rfl, BW.out⟩
 ·have hrf : r = false := by
   cases r with
   | false => rfl
   | true => exact absurd (congrArg List.length (hr.1 rfl)) hl
  subst hrf
  obtain ⟨n, hx⟩ : ∃ n, n = xs.length := ⟨_, rfl⟩
  obtain ⟨m, hy⟩ : ∃ n, n = ys.length := ⟨_, rfl⟩
  rw [← hx, ← hy] at hl ⊢
  have hl1 : ¬ (n : Int) = m := by omega
  have hl2 : ((n : Int) != m) = true := by simp; omega
  clear h1 h2 hr hx hy HR H1 H2 hn hm
  go_enter Try.func50, Try.ntmps50
  try simp only [List.append_eq, List.cons_append, List.nil_append]
  go_wp2_with fail
  go_ret
  exact ⟨rfl, Below.refl _ _⟩
end Go.Proofs.Ytennbiajnkobnaa

