/- The walk of ScaleAgain. -/
import Derived.Test.YtopmbcfecaklhaaZ
namespace Go.Proofs.Ytopmbcfecaklhaa
open Go.RowKit Go.PlainAid Go.Sort Go.Lib Ieee

def AgHead (X r : List Nat) (w : World) (i : Nat) (v v2 : Value) (wr : World) : Prop :=
  ∃ g c g2 c2, v = .slice (some ⟨g, 0, none⟩) i c ∧ v2 = .slice (some ⟨g2, 0, none⟩) i c2 ∧ i ≤ X.length ∧ TwoIn w wr g c g2 c2 ((r.map fun i => X.getD i 0).take i) (X.reverse.take i)

theorem floats_of_row {w : World} {base g c n : Nat} {xs : List Nat} (hn : xs.length = n) (h : w.ownsRow base 22 1 (.slice (some ⟨g, 0, none⟩) xs.length c) xs.length (xs.map (Value.float .f64))) : FloatsAt w (.slice (some ⟨g, 0, none⟩) n c) xs := by
  rw [← hn]; exact FloatsAt.owns h

set_option maxHeartbeats 4000000 in
set_option maxRecDepth 100000 in
theorem walkScaleAgain (v : Value) (bl : List Nat) (w : World) (hv : BitsAt w v bl ∧ ∀ i, bl.getD i 0 < 18446744073709551616) :
    Calls Try.prog 9 #[v] w fun e w' => e = .returned (.bool true) ∧ Below w.heap.size w w' := by
  obtain ⟨h1, h2⟩ := hv
  have I1 := Lib.hid h1
  have hx : ∀ i, (bl.take 20).getD i 0 < 18446744073709551616 := fun i => by
    simp only [List.getD, List.getElem?_take]
    by_cases g : i < 20
    · rw [if_pos g]; exact h2 i
    · rw [if_neg g]; simp
  have hX : (bl.take 20).length ≤ 20 := by rw [List.length_take]; omega
  obtain ⟨i0, hi0, hz0, hz1, hz2⟩ := info_parts infoFloat
  clear h1 h2
  go_enter Try.func9, Try.ntmps9
  go_wp2_with fail
  have hf := fun w h => floats_any v bl w h
  generalize bl.take 20 = X at *
  refine (hf _ I1.out).mono ?_
  rintro e w1 ⟨vl, rfl, hfl, hb1⟩
  clear hf I1
  obtain ⟨al, cl, rfl⟩ := floatsAt_slice hfl
  obtain ⟨n, hn⟩ : ∃ n, n = X.length := ⟨_, rfl⟩
  rw [← hn] at hfl hX ⊢
  have F1 := Lib.hid hfl
  have B1 := Lib.hid hb1
  have z1 := hb1.size
  have Hn := Lib.hid hn
  have Hx := Lib.hid hx
  clear hfl hb1 hx hn
  go_wp2_with fail
  refine (rank_any _ X _ F1.out Hx.out (by rw [← Hn.out]; omega)).mono ?_
  rintro e w2 ⟨vo, r, rfl, hr, hi, hb2⟩
  obtain ⟨ao, co, rfl⟩ := intsAt_slice hi
  have hrl : (r.map Int.ofNat).length = n := by have e := hr.1.length_eq; rw [List.length_range] at e; rw [List.length_map, e, Hn.out]
  rw [hrl] at hi ⊢
  have F2 := Lib.hid (F1.out.below hb2)
  have O2 := Lib.hid hi
  have B2 := Lib.hid (below_step z1 B1.out hb2)
  have Hr := Lib.hid hr
  clear hi hb2 F1 B1 hrl hr z1
  by_cases n0 : n = 0
  · subst n0
    have Hb2 := Lib.hid (((Below.refl w2.heap.size w2).alloc (Nat.le_refl _) (.cells #[] 22)).alloc (by simp) (.cells #[] 22))
    clear F2 O2 Hr
    go_wp2_with fail
    refine wp_loop_rounds 1 ?_
    rw [rounds_succ]
    go_wp2_with fail
    refine (rank_none _ _ _).mono ?_
    rintro e w3 ⟨u, rfl, hi, hb⟩
    obtain ⟨au, cu, rfl⟩ := intsAt_slice hi
    have H3 := Lib.hid (below_step (by have := B2.out.size; simp; omega) (below_step B2.out.size B2.out Hb2.out) hb)
    clear hi hb
    go_wp2_with fail
    refine (rank_none _ _ _).mono ?_
    rintro e w4 ⟨u, rfl, hi, hb⟩
    obtain ⟨aq, cq, rfl⟩ := intsAt_slice hi
    have H4 := Lib.hid (below_step H3.out.size H3.out hb)
    clear hi hb H3
    go_wp2_with fail
    refine wp_loop_rounds 1 ?_
    rw [rounds_succ]
    go_wp2_with fail
    refine (fixed_any _).mono ?_
    rintro e w5 ⟨rfl, hb⟩
    have H := Lib.hid (below_step H4.out.size H4.out hb)
    clear hb
    go_wp2_with fail
    go_ret
    exact ⟨rfl, H.out⟩
  · obtain ⟨fb, fo, rfl, hfb, cf⟩ := F2.out.cells (by omega)
    obtain ⟨ob, oo, rfl, hob, co'⟩ := O2.out.cells (by omega)
    have Cf := Lib.hid cf
    have Co := Lib.hid co'
    clear cf co' F2 O2
    have hst : AgHead X r w2 0 (.slice (some ⟨w2.heap.size, 0, none⟩) 0 0) (.slice (some ⟨w2.heap.size + 1, 0, none⟩) 0 0) ((w2.alloc (.cells #[] 22)).alloc (.cells #[] 22)) := ⟨_, _, _, _, rfl, rfl, by omega, two_start w2⟩
    have Hst := Lib.hid hst
    clear hst
    go_wp2_with fail
    go_loopw [5, 6, 7] (fun v v2 i wr => ∃ k : Nat, i = .int .i64 k ∧ AgHead X r w2 k v v2 wr) (fun _ _ i _ => n - (intOf i).toNat)
    case atStart => exact ⟨0, rfl, Hst.out⟩
    case round =>
      obtain ⟨i, rfl, g, c, g2, c2, rfl, rfl, hin, hT⟩ := hrel
      rw [← Hn.out] at hin
      have HT := Lib.hid hT
      have hbel := hT.2.2.2
      have hz := hbel.size
      clear hT
      by_cases hlt : i < n
      · have hlt' : (i : Int) < n := by omega
        obtain ⟨p, hp⟩ : ∃ p, p = r.getD i 0 := ⟨_, rfl⟩
        have hpn : p < n := by rw [hp, Hn.out]; exact rank_lt Hr.out (by have := Hn.out; omega)
        have hpn' : ¬ (n : Int) ≤ p := by omega
        have hpp : (p : Int) < n := by omega
        have hrl : r.length = n := by have e := Hr.out.1.length_eq; rw [List.length_range] at e; rw [e, Hn.out]
        have c1 : wr.cell? ⟨ob, oo + i, none⟩ = some (.int .i64 (p : Int)) := by
          have := (hbel.cell (p := ⟨ob, oo + i, none⟩) (by exact hob)).trans (Co.out i hlt)
          have e : (r.map Int.ofNat).getD i 0 = ((r.getD i 0 : Nat) : Int) := by
            simp [List.getD, show i < r.length by omega]
          rw [e, ← hp] at this
          exact this
        have c2' : wr.cell? ⟨fb, fo + p, none⟩ = some (.float .f64 (X.getD p 0)) := (hbel.cell (by exact hfb)).trans (Cf.out p hpn)
        obtain ⟨x, hxp⟩ : ∃ x, x = X.getD p 0 := ⟨_, rfl⟩
        rw [← hxp] at c2'
        have Hp := Lib.hid hp
        have Hxp := Lib.hid hxp
        have HB := Lib.hid hbel
        clear hp hxp hbel
        have hlenA : ((r.map fun i => X.getD i 0).take i).length = i := by rw [List.length_take, List.length_map]; omega
        have hlenB : (X.reverse.take i).length = i := by have := Hn.out; rw [List.length_take, List.length_reverse]; omega
        have hO1 : wr.ownsRow w2.heap.size 22 1 (.slice (some ⟨g, 0, none⟩) i c) i (((r.map fun i => X.getD i 0).take i).map (Value.float .f64)) := by
          have := HT.out.1
          rw [hlenA] at this; exact this
        have HO1 := Lib.hid hO1
        obtain ⟨A, hA⟩ : ∃ A, A = (r.map fun i => X.getD i 0).take i := ⟨_, rfl⟩
        obtain ⟨B, hB⟩ : ∃ B, B = X.reverse.take i := ⟨_, rfl⟩
        rw [← hA] at HO1 HT hlenA
        rw [← hB] at HT hlenB
        have HA := Lib.hid hA
        have HBl := Lib.hid hB
        have HlenA := Lib.hid hlenA
        have HlenB := Lib.hid hlenB
        obtain ⟨m, hm⟩ : ∃ m : Nat, (n : Int) - 1 - i = m := ⟨n - 1 - i, by omega⟩
        have hmn : (m : Int) < n := by omega
        have Hrl := Lib.hid hrl
        clear hO1 hA hB hlenA hlenB hrl
        go_wp2_with (at_builtin; refine wpList_append_lies _ rfl _ _ 29 rfl w2.heap.size 22 i0 (.float .f64 0) 1 8 Try.underlying29 hi0 hz0 hz1 hz2 rfl (by decide) _ _ _ rfl (HO1.out.alloc _) ⟨wr.heap.size, 0, none⟩ 1 1 [.float .f64 x] rfl rfl (cell_one_new _ _ _) ?c2 (by omega) ?c3 ?c4 ?c5 _ rfl ?_)
        case c2 => first | rfl | (intro u hu; simp at hu; subst hu; rfl)
        case c3 => unfold maxLen; omega
        case c4 => omega
        case c5 => first | omega | (rw [size_new]; omega)
        intro g' c' w3 hown' hg hor _
        have hT1 := two_left HT.out (by rw [HlenA.out]; exact hown') hg (by first | exact hor | (rw [size_new] at hor; exact hor))
        have HT1 := Lib.hid hT1
        have hbel := hT1.2.2.2
        have hz3 := hbel.size
        have hO2 : w3.ownsRow w2.heap.size 22 1 (.slice (some ⟨g2, 0, none⟩) i c2) i (B.map (Value.float .f64)) := by
          have := hT1.2.1
          rw [HlenB.out] at this; exact this
        have HO2 := Lib.hid hO2
        have c3 : w3.cell? ⟨fb, fo + m, none⟩ = some (.float .f64 (X.getD m 0)) := (hbel.cell (by exact hfb)).trans (Cf.out m (by omega))
        obtain ⟨y, hym⟩ : ∃ y, y = X.getD m 0 := ⟨_, rfl⟩
        rw [← hym] at c3
        have Hym := Lib.hid hym
        clear hown' hg hor hT1 hbel hO2 hym c1 c2'
        go_wp2_with (at_builtin; refine wpList_append_lies _ rfl _ _ 29 rfl w2.heap.size 22 i0 (.float .f64 0) 1 8 Try.underlying29 hi0 hz0 hz1 hz2 rfl (by decide) _ _ _ rfl (HO2.out.alloc _) ⟨w3.heap.size, 0, none⟩ 1 1 [.float .f64 y] rfl rfl (cell_one_new _ _ _) ?c2 (by omega) ?c3 ?c4 ?c5 _ rfl ?_)
        case c2 => first | rfl | (intro u hu; simp at hu; subst hu; rfl)
        case c3 => unfold maxLen; omega
        case c4 => omega
        case c5 => first | omega | (rw [size_new]; omega)
        intro g3 c3' w4 hown' hg hor _
        have hT2 := two_right HT1.out (by rw [HlenB.out]; exact hown') hg (by first | exact hor | (rw [size_new] at hor; exact hor))
        have hnext : AgHead X r w2 (i + 1) (.slice (some ⟨g', 0, none⟩) (i + 1) c') (.slice (some ⟨g3, 0, none⟩) (i + 1) c3') w4 := by
          refine ⟨_, _, _, _, rfl, rfl, by rw [← Hn.out]; omega, ?_⟩
          have e1 : (r.map fun i => X.getD i 0).take (i + 1) = A ++ [x] := by
            have h1 : i < r.length := by rw [Hrl.out]; exact hlt
            rw [List.take_add_one, HA.out, Hxp.out, Hp.out]
            simp [List.getD, h1]
          have e2 : X.reverse.take (i + 1) = B ++ [y] := by
            have h1 : i < X.length := by rw [← Hn.out]; exact hlt
            have h2 : m < X.length := by rw [← Hn.out]; omega
            have h3 : X.length - 1 - i = m := by rw [← Hn.out]; omega
            rw [List.take_add_one, HBl.out, Hym.out, List.getElem?_reverse h1, h3]
            simp [List.getD, h2]
          rw [e1, e2]
          exact hT2
        have Hnext := Lib.hid hnext
        clear hown' hg hor hT2 hnext
        go_wp2_with fail
        go_roundw
        case rel => exact ⟨i + 1, by go_num, Hnext.out⟩
        case measure => simp [intOf]; omega
      · have hlt' : ¬ (i : Int) < n := by omega
        obtain rfl : n = i := by omega
        have hrl : r.length = n := by have e := Hr.out.1.length_eq; rw [List.length_range] at e; rw [e, Hn.out]
        have hS : (r.map fun i => X.getD i 0).take n = r.map fun i => X.getD i 0 := by rw [List.take_of_length_le (by rw [List.length_map]; omega)]
        have hTT : X.reverse.take n = X.reverse := by rw [List.take_of_length_le (by rw [List.length_reverse, Hn.out]; omega)]
        have hsl : (r.map fun i => X.getD i 0).length = n := by rw [List.length_map, hrl]
        have htl : X.reverse.length = n := by rw [List.length_reverse, Hn.out]
        have hT := HT.out
        rw [hS, hTT] at hT
        have fs : FloatsAt wr (.slice (some ⟨g, 0, none⟩) n c) (r.map fun i => X.getD i 0) := floats_of_row hsl hT.1
        have ft : FloatsAt wr (.slice (some ⟨g2, 0, none⟩) n c2) X.reverse := floats_of_row htl hT.2.1
        have hsx : ∀ k, (r.map fun i => X.getD i 0).getD k 0 < 18446744073709551616 := fun k => by
          by_cases hk : k < r.length
          · simp only [List.getD, List.getElem?_map, List.getElem?_eq_getElem hk, Option.map_some, Option.getD_some]
            exact Hx.out _
          · simp only [List.getD, List.getElem?_map, List.getElem?_eq_none (Nat.le_of_not_lt hk)]; simp
        have htx : ∀ k, X.reverse.getD k 0 < 18446744073709551616 := fun k => by
          by_cases hk : k < X.length
          · simp only [List.getD, List.getElem?_reverse hk]
            exact Hx.out _
          · simp only [List.getD, List.getElem?_eq_none (show X.reverse.length ≤ k by simp; omega)]; simp
        have HS := Lib.hid (again_sorted Hr.out)
        have HTq := Lib.hid (fun q h i hi => again_turned (q := q) (i := i) Hx.out Hr.out h hi)
        have Fs := Lib.hid fs
        have Ft := Lib.hid ft
        have Hsx := Lib.hid hsx
        have Htx := Lib.hid htx
        have HB := Lib.hid (below_step B2.out.size B2.out hbel)
        have HBe := Lib.hid hbel
        obtain ⟨S, hSS⟩ : ∃ S, S = r.map fun i => X.getD i 0 := ⟨_, rfl⟩
        rw [← hSS] at Fs Hsx HS hsl
        obtain ⟨T, hTT'⟩ : ∃ T, T = X.reverse := ⟨_, rfl⟩
        rw [← hTT'] at Ft Htx HTq htl
        have HSS := Lib.hid hSS
        have HTT := Lib.hid hTT'
        have Hsl := Lib.hid hsl
        have Htl := Lib.hid htl
        have Hrl := Lib.hid hrl
        clear hS hTT hT fs ft hsx htx hbel hSS hTT' HT hsl htl hrl hz hin
        go_wp2_with fail
        refine (rank_any _ S _ Fs.out Hsx.out (by rw [Hsl.out]; omega)).mono ?_
        rintro e w3 ⟨u, pr, rfl, hp, hi, hb⟩
        obtain rfl := hp.unique HS.out
        rw [← Hn.out] at hi
        obtain ⟨au, cu, rfl⟩ := intsAt_slice hi
        have hul : ((List.range n).map Int.ofNat).length = n := by rw [List.length_map, List.length_range]
        rw [hul] at hi ⊢
        have P3 := Lib.hid hi
        have B3 := Lib.hid (below_step HB.out.size HB.out hb)
        have Fs3 := Lib.hid (Fs.out.below hb)
        have Ft3 := Lib.hid (Ft.out.below hb)
        clear hi hb hp Fs Ft HB HBe HS hul
        go_wp2_with fail
        refine (rank_any _ T _ Ft3.out Htx.out (by rw [Htl.out]; omega)).mono ?_
        rintro e w4 ⟨u, qr, rfl, hq, hi, hb⟩
        obtain ⟨aq, cq, rfl⟩ := intsAt_slice hi
        have hql0 : qr.length = n := by have e := hq.1.length_eq; rw [List.length_range] at e; rw [e, Htl.out]
        have hql : (qr.map Int.ofNat).length = n := by rw [List.length_map, hql0]
        rw [hql] at hi ⊢
        have B4 := Lib.hid (below_step B3.out.size B3.out hb)
        obtain ⟨tb, to_, ht1, htb, ct⟩ := (Ft3.out.below hb).cells (by omega)
        obtain ⟨sb, so_, hs1, hsb, cs⟩ := (Fs3.out.below hb).cells (by omega)
        obtain ⟨pb, po, hp1, hpb, cp⟩ := (P3.out.below hb).cells (by omega)
        obtain ⟨qb, qo, hq1, hqb, cq'⟩ := hi.cells (by omega)
        injection ht1 with ht1
        injection hs1 with hs1
        rw [ht1, hs1, hp1, hq1]
        have Ct := Lib.hid ct
        have Cs := Lib.hid cs
        have Cp := Lib.hid cp
        have Cq := Lib.hid cq'
        have Hq := Lib.hid hq
        have Hql0 := Lib.hid hql0
        clear ct cs cp cq' ht1 hs1 hp1 hq1 hi hb Fs3 Ft3 P3 B3 hq hql hql0
        go_wp2_with fail
        go_loopw [10] (fun i wr => ∃ k : Nat, i = .int .i64 k ∧ k ≤ n ∧ ∃ nd, wr = w4.drewN nd) (fun i _ => n - (intOf i).toNat)
        case atStart => exact ⟨0, rfl, by omega, 0, rfl⟩
        case round =>
        obtain ⟨k, rfl, hk, md, hmd⟩ := hrel
        have Hmd := Lib.hid hmd
        have cmd : ∀ a, wr.cell? a = w4.cell? a := fun a => by rw [hmd]; rfl
        by_cases hkn : k < n
        · have hkn' : (k : Int) < n := by omega
          have hkX : k < X.length := by rw [← Hn.out]; exact hkn
          obtain ⟨q, hq⟩ : ∃ q, q = qr.getD k 0 := ⟨_, rfl⟩
          have hqn : q < n := by rw [hq, ← Htl.out]; exact rank_lt Hq.out (by rw [Htl.out]; exact hkn)
          have hqq : (q : Int) < n := by omega
          have hqn' : ¬ (n : Int) ≤ q := by omega
          have c1 : wr.cell? ⟨pb, po + k, none⟩ = some (.int .i64 (k : Int)) := by
            have := Cp.out k hkn
            have e : ((List.range n).map Int.ofNat).getD k 0 = (k : Int) := by simp [List.getD, hkn]
            rw [e] at this
            exact (cmd _).trans this
          have c2 : wr.cell? ⟨qb, qo + k, none⟩ = some (.int .i64 (q : Int)) := by
            have := Cq.out k hkn
            have e : (qr.map Int.ofNat).getD k 0 = ((qr.getD k 0 : Nat) : Int) := by
              have hl : k < qr.length := by rw [Hql0.out]; exact hkn
              simp [List.getD, hl]
            rw [e, ← hq] at this
            exact (cmd _).trans this
          obtain ⟨x, hx⟩ : ∃ x, x = S.getD k 0 := ⟨_, rfl⟩
          have hxt : T.getD q 0 = x := by
            have h1 := HTq.out qr Hq.out k hkX
            rw [hq, h1, hx, HSS.out]
            have hl : k < r.length := by rw [Hrl.out]; exact hkn
            simp [List.getD, hl]
          have c3 : wr.cell? ⟨tb, to_ + q, none⟩ = some (.float .f64 x) := by rw [← hxt]; exact (cmd _).trans (Ct.out q hqn)
          have c4 : wr.cell? ⟨sb, so_ + k, none⟩ = some (.float .f64 x) := by rw [hx]; exact (cmd _).trans (Cs.out k hkn)
          clear hx hxt hq hmd cmd hkX
          go_wp2_with fail
          go_quiet (fail)
          go_wp2_with fail
          go_roundw
          case rel => exact ⟨k + 1, by go_num, by omega, md + nq, by rw [Hmd.out]; simp⟩
          case measure => simp [intOf]; omega
        · have hkn' : ¬ (k : Int) < n := by omega
          have hb4 : Below w.heap.size w wr := by rw [hmd]; exact below_drewN B4.out md
          have HB4 := Lib.hid hb4
          clear hmd cmd hb4
          go_wp2_with fail
          refine (fixed_any _).mono ?_
          rintro e w5 ⟨rfl, hb⟩
          have H := Lib.hid (below_step HB4.out.size HB4.out hb)
          clear hb
          go_wp2_with fail
          go_ret
          exact ⟨rfl, H.out⟩
end Go.Proofs.Ytopmbcfecaklhaa
