/- The walk of ScaleRank. -/
import Derived.Test.YtopmbcfecaklhaaV
namespace Go.Proofs.Ytopmbcfecaklhaa
open Go.RowKit Go.PlainAid Go.Sort Go.Lib Ieee

theorem BitsAt.take {w : World} {v : Value} {xs : List Nat} (h : BitsAt w v xs) (k : Nat) : ∃ a len cap, v = .slice a len cap ∧ len = xs.length ∧ (len ≤ cap ∨ len = 0) ∧ ∀ n cap', n = min len k → n ≤ cap' → BitsAt w (.slice a n cap') (xs.take k) := by
  rcases h with ⟨a, cap, rfl, rfl⟩ | ⟨b, off, len, cap, rfl, hl, hp, hb, hlc, hc⟩
  · exact ⟨a, 0, cap, rfl, rfl, .inr rfl, fun n cap' hn _ => .inl ⟨a, cap', by rw [hn]; simp, by simp⟩⟩
  · refine ⟨some ⟨b, off, none⟩, len, cap, rfl, hl.symm, .inl hlc, fun n cap' hn hc' => ?_⟩
    by_cases hk : k = 0
    · subst hk; exact .inl ⟨some ⟨b, off, none⟩, cap', by rw [hn]; simp, by simp⟩
    · refine .inr ⟨b, off, n, cap', rfl, by rw [List.length_take, hl, hn, Nat.min_comm], by omega, hb, by omega, fun i hi => ?_⟩
      rw [hc i (by omega)]
      simp only [List.getD, List.getElem?_take]
      rw [if_pos (by omega)]
theorem BitsAt.cells {w : World} {a : Option Addr} {n cap : Nat} {xs : List Nat} (h : BitsAt w (.slice a n cap) xs) (hn : 0 < n) : ∃ b off, a = some ⟨b, off, none⟩ ∧ b < w.heap.size ∧ ∀ k, k < n → w.cell? ⟨b, off + k, none⟩ = some (.int .u64 (xs.getD k 0 : Nat)) := by
  rcases h with ⟨a', cap', hv, _⟩ | ⟨b, off, len, cap', hv, hl, hp, hb, hlc, hc⟩
  · injection hv with _ hn' _; omega
  · injection hv with ha hn' _
    subst hn'
    exact ⟨b, off, ha, hb, hc⟩
theorem FloatsAt.cells {w : World} {a : Option Addr} {n cap : Nat} {xs : List Nat} (h : FloatsAt w (.slice a n cap) xs) (hn : 0 < n) : ∃ b off, a = some ⟨b, off, none⟩ ∧ b < w.heap.size ∧ ∀ k, k < n → w.cell? ⟨b, off + k, none⟩ = some (.float .f64 (xs.getD k 0)) := by
  rcases h with ⟨a', cap', hv, _⟩ | ⟨b, off, len, cap', hv, hl, hp, hb, hlc, hc⟩
  · injection hv with _ hn' _; omega
  · injection hv with ha hn' _
    subst hn'
    exact ⟨b, off, ha, hb, hc⟩
theorem IntsAt.cells {w : World} {a : Option Addr} {n cap : Nat} {xs : List Int} (h : IntsAt w (.slice a n cap) xs) (hn : 0 < n) : ∃ b off, a = some ⟨b, off, none⟩ ∧ b < w.heap.size ∧ ∀ k, k < n → w.cell? ⟨b, off + k, none⟩ = some (.int .i64 (xs.getD k 0)) := by
  rcases h with ⟨a', cap', hv, _⟩ | ⟨b, off, len, cap', hv, hl, hp, hb, hlc, hc⟩
  · injection hv with _ hn' _; omega
  · injection hv with ha hn' _
    subst hn'
    exact ⟨b, off, ha, hb, hc⟩
theorem floatsAt_slice {w : World} {v : Value} {xs : List Nat} (h : FloatsAt w v xs) : ∃ a cap, v = .slice a xs.length cap := by
  rcases h with ⟨a, cap, rfl, rfl⟩ | ⟨b, off, len, cap, rfl, hl, -⟩
  · exact ⟨a, cap, rfl⟩
  · exact ⟨_, cap, by rw [hl]⟩

/-- Of two places of a rank. -/
theorem rank_pair {xs r : List Nat} (h : IsRank xs r) {q i : Nat} (hq : q < i) (hi : i < r.length) : Lex xs (r.getD q 0) (r.getD i 0) := by
  have := List.pairwise_iff_getElem.1 h.2 q i (by omega) hi hq
  simpa [List.getD, hi, show q < r.length by omega] using this
theorem rank_lt {xs r : List Nat} (h : IsRank xs r) {i : Nat} (hi : i < xs.length) : r.getD i 0 < xs.length := by
  have hl : r.length = xs.length := by simpa using h.1.length_eq
  have hm : r[i]'(by omega) ∈ r := List.getElem_mem _
  have := h.1.mem_iff.1 hm
  simp at this
  simp [List.getD, show i < r.length by omega]
  exact this

theorem less_q (a b : Nat) (d : Bool) (w : World) (ha : a < 18446744073709551616) (hb : b < 18446744073709551616) (h : decide (hgt a < hgt b) = d) :
    Calls Try.prog 19 #[.float .f64 a, .float .f64 b] w fun e w' => e = .returned (.bool d) ∧ w' = w :=
  (less_at a b d ha hb h w).mono fun _ _ ⟨h1, h2⟩ => ⟨h1, h2.symm⟩

set_option maxHeartbeats 8000000 in
set_option maxRecDepth 100000 in
theorem walkScaleRank (v : Value) (bl : List Nat) (w : World) (hv : BitsAt w v bl ∧ ∀ i, bl.getD i 0 < 18446744073709551616) :
    Calls Try.prog 5 #[v] w fun e w' => e = .returned (.bool true) ∧ Below w.heap.size w w' := by
  obtain ⟨h1, h2⟩ := hv
  obtain ⟨a1, len1, cap1, rfl, hl1, hc1, t1⟩ := h1.take 20
  have b1 : min (len1 : Int) 20 ≤ cap1 := by omega
  have I1 := Lib.hid (t1 (min (len1 : Int) 20).toNat cap1 (by omega) (by omega))
  have hX : (bl.take 20).length = (min (len1 : Int) 20).toNat := by rw [List.length_take]; omega
  have hx : ∀ i, (bl.take 20).getD i 0 < 18446744073709551616 := fun i => by
    simp only [List.getD, List.getElem?_take]
    by_cases g : i < 20
    · rw [if_pos g]; exact h2 i
    · rw [if_neg g]; simp
  have hX20 : (bl.take 20).take 20 = bl.take 20 := by rw [List.take_take]; simp
  clear hl1 hc1 t1 h1 h2
  go_enter Try.func5, Try.ntmps5
  go_wp2_with fail
  have hn20 : (min (len1 : Int) 20).toNat ≤ 20 := by omega
  generalize (min (len1 : Int) 20).toNat = n at *
  have hf := fun w => floats_any (.slice a1 n cap1) (bl.take 20) w
  rw [hX20] at hf
  clear hX20
  generalize bl.take 20 = X at *
  refine (hf _ I1.out).mono ?_
  rintro e w1 ⟨vl, rfl, hfl, hb1⟩
  clear hf
  obtain ⟨al, cl, rfl⟩ := floatsAt_slice hfl
  rw [hX] at hfl ⊢
  have F1 := Lib.hid hfl
  have I2 := Lib.hid (I1.out.below hb1)
  have B1 := Lib.hid hb1
  have z1 := hb1.size
  clear hfl hb1 I1
  go_wp2_with fail
  refine (rank_any _ X _ F1.out hx (by omega)).mono ?_
  rintro e w2 ⟨vo, r, rfl, hr, hi, hb2⟩
  obtain ⟨ao, co, rfl⟩ := intsAt_slice hi
  have hrl : (r.map Int.ofNat).length = n := by have := hr.1.length_eq; simp at this; simp; omega
  rw [hrl] at hi ⊢
  have F2 := Lib.hid (F1.out.below hb2)
  have I3 := Lib.hid (I2.out.below hb2)
  have O2 := Lib.hid hi
  have B2 := Lib.hid (below_step z1 B1.out hb2)
  have Hr := Lib.hid hr
  clear hi hb2 I2 F1 B1 hrl hr z1
  by_cases n0 : n = 0
  · subst n0
    go_wp2_with fail
    refine wp_loop_rounds 1 ?_
    rw [rounds_succ]
    go_wp2_with fail
    refine (fixed_any _).mono ?_
    rintro e w3 ⟨rfl, hb⟩
    have H := Lib.hid (below_step B2.out.size B2.out hb)
    clear hb
    go_wp2_with fail
    go_ret
    exact ⟨rfl, H.out⟩
  · obtain ⟨bb, bo, rfl, hbb, cb⟩ := I3.out.cells (by omega)
    obtain ⟨fb, fo, rfl, hfb, cf⟩ := F2.out.cells (by omega)
    obtain ⟨ob, oo, rfl, hob, co'⟩ := O2.out.cells (by omega)
    have Cb := Lib.hid cb
    have Cf := Lib.hid cf
    have Co := Lib.hid co'
    clear cb cf co' I3 F2 O2
    go_wp2_with fail
    go_loopw [5, 6] (fun i _ wr => ∃ k : Nat, i = .int .i64 k ∧ k ≤ n ∧ ∃ nd, wr = w2.drewN nd) (fun i _ _ => n - (intOf i).toNat)
    case atStart => exact ⟨0, rfl, by omega, 0, rfl⟩
    case round =>
      obtain ⟨i, rfl, hi, nd, rfl⟩ := hrel
      by_cases hlt : i < n
      · have hlt' : (i : Int) < n := by omega
        obtain ⟨p, hp⟩ : ∃ p, p = r.getD i 0 := ⟨_, rfl⟩
        have hpn : p < n := by rw [hp, ← hX]; exact rank_lt Hr.out (by omega)
        have hpn' : ¬ (n : Int) ≤ p := by omega
        have hpp : (p : Int) < n := by omega
        have c1 : w2.cell? ⟨ob, oo + i, none⟩ = some (.int .i64 (p : Int)) := by
          have := Co.out i hlt
          have e : (r.map Int.ofNat).getD i 0 = ((r.getD i 0 : Nat) : Int) := by
            have hl : i < r.length := by have := Hr.out.1.length_eq; simp at this; omega
            simp [List.getD, hl]
          rw [e, ← hp] at this
          exact this
        have Hp := Lib.hid hp
        clear hp
        go_wp2_with fail
        go_loopw [6] (fun kk wr => ∃ k : Nat, kk = .int .i64 k ∧ k ≤ i ∧ ∃ nd, wr = w2.drewN nd) (fun kk _ => n - (intOf kk).toNat)
        case atStart => exact ⟨0, rfl, by omega, nd, rfl⟩
        case round =>
        obtain ⟨k, rfl, hk, md, hmd⟩ := hrel
        have Hmd := Lib.hid hmd
        have cmd : ∀ a, wr.cell? a = w2.cell? a := fun a => by rw [hmd]; rfl
        clear hmd
        by_cases hki : k < i
        · have hki' : (k : Int) < i := by omega
          have hkn : (k : Int) < n := by omega
          obtain ⟨q, hq⟩ : ∃ q, q = r.getD k 0 := ⟨_, rfl⟩
          have hqn : q < n := by rw [hq, ← hX]; exact rank_lt Hr.out (by omega)
          have hqq : (q : Int) < n := by omega
          have hrl : r.length = n := by have := Hr.out.1.length_eq; simp at this; omega
          have hlex : Lex X q p := by rw [hq, Hp.out]; exact rank_pair Hr.out hki (by omega)
          have c1' : wr.cell? ⟨ob, oo + i, none⟩ = some (.int .i64 (p : Int)) := (cmd _).trans c1
          have c2 : wr.cell? ⟨ob, oo + k, none⟩ = some (.int .i64 (q : Int)) := by
            have := Co.out k (by omega)
            have e : (r.map Int.ofNat).getD k 0 = ((r.getD k 0 : Nat) : Int) := by
              have hl : k < r.length := by have := Hr.out.1.length_eq; simp at this; omega
              simp [List.getD, hl]
            rw [e, ← hq] at this
            exact (cmd _).trans this
          have c3 : wr.cell? ⟨fb, fo + p, none⟩ = some (.float .f64 (X.getD p 0)) := (cmd _).trans (Cf.out p hpn)
          have c4 : wr.cell? ⟨fb, fo + q, none⟩ = some (.float .f64 (X.getD q 0)) := (cmd _).trans (Cf.out q hqn)
          have c5 : wr.cell? ⟨bb, bo + p, none⟩ = some (.int .u64 (X.getD p 0 : Nat)) := (cmd _).trans (Cb.out p hpn)
          have c6 : wr.cell? ⟨bb, bo + q, none⟩ = some (.int .u64 (X.getD q 0 : Nat)) := (cmd _).trans (Cb.out q hqn)
          have p1 := hx p
          have p2 := hx q
          obtain ⟨x, hxp⟩ : ∃ x, x = X.getD p 0 := ⟨_, rfl⟩
          obtain ⟨y, hyq⟩ : ∃ y, y = X.getD q 0 := ⟨_, rfl⟩
          have hne : q ≠ p := fun h => by rw [h] at hlex; exact hlex.asymm hlex
          unfold Lex at hlex
          rw [← hxp] at c3 c5 p1 hlex
          rw [← hyq] at c4 c6 p2 hlex
          have hnl : ¬ hgt x < hgt y := by omega
          have hcall := fun w => less_q x y false w p1 p2 (decide_eq_false hnl)
          have e1 : ((q : Int) == (p : Int)) = false := by rw [beq_eq_false_iff_ne]; omega
          have e1' : (q == p) = false := by rw [beq_eq_false_iff_ne]; omega
          clear hxp hyq hq cmd c1
          by_cases hxy : x = y
          · have hqp : q < p := by
              rw [hxy] at hlex
              omega
            have hqp' : ¬ (p : Int) < q := by omega
            subst hxy
            clear hlex
            go_wp2_with fail
            go_quiet (first | (go_at_call 19; refine Calls.quiet_of_same (hcall _)))
            go_wp2_with fail
            go_roundw
            case rel => exact ⟨k + 1, by go_num, by omega, md + nq, by rw [Hmd.out]; simp⟩
            case measure => simp [intOf]; omega
          · have e2 : ((x : Int) == (y : Int)) = false := by rw [beq_eq_false_iff_ne]; omega
            have e2' : (x == y) = false := by rw [beq_eq_false_iff_ne]; exact hxy
            clear hlex
            go_wp2_with fail
            go_quiet (first | (go_at_call 19; refine Calls.quiet_of_same (hcall _)))
            go_wp2_with fail
            go_roundw
            case rel => exact ⟨k + 1, by go_num, by omega, md + nq, by rw [Hmd.out]; simp⟩
            case measure => simp [intOf]; omega
        · have hki' : ¬ (k : Int) < i := by omega
          go_wp2_with fail
          go_roundw
          case rel => exact ⟨i + 1, by go_num, by omega, md, Hmd.out⟩
          case measure => simp [intOf]; omega
      · have hlt' : ¬ (i : Int) < n := by omega
        go_wp2_with fail
        refine (fixed_any _).mono ?_
        rintro e w3 ⟨rfl, hb⟩
        have H := Lib.hid (below_step (by show w.heap.size ≤ w2.heap.size; exact B2.out.size) (below_drewN B2.out nd) hb)
        clear hb
        go_wp2_with fail
        go_ret
        exact ⟨rfl, H.out⟩
end Go.Proofs.Ytopmbcfecaklhaa
