/- The document's ranks. -/
import Derived.Test.YtopmbcfecaklhaaQ
namespace Go.Proofs.Ytopmbcfecaklhaa
open Go.RowKit Go.PlainAid Go.Sort Go.Lib

/-- The first i places in order. -/
def UpTo (xs : List Nat) (i : Nat) (R : List Nat) : Prop := R.Perm (List.range i) ∧ R.Pairwise (Lex xs)

theorem UpTo.len {xs : List Nat} {i : Nat} {R : List Nat} (h : UpTo xs i R) : R.length = i := by simpa using h.1.length_eq
theorem UpTo.lt {xs : List Nat} {i : Nat} {R : List Nat} (h : UpTo xs i R) {j : Nat} (hj : j < i) : R.getD j 0 < i := by
  have hl := h.len
  have hm : R[j]'(by omega) ∈ R := List.getElem_mem _
  have := h.1.mem_iff.1 hm
  simp at this
  simp [List.getD, show j < R.length by omega]
  exact this

/-- One place more. -/
theorem UpTo.insert {xs : List Nat} {i : Nat} {R : List Nat} (h : UpTo xs i R) (k : Nat) (hk : k ≤ i)
    (h1 : ∀ j, j < k → ¬ hgt (xs.getD i 0) < hgt (xs.getD (R.getD j 0) 0)) (h2 : k = i ∨ hgt (xs.getD i 0) < hgt (xs.getD (R.getD k 0) 0)) :
    UpTo xs (i + 1) (R.take k ++ [i] ++ R.drop k) := by
  have hl := h.len
  have hlt : ∀ x ∈ R, x < i := fun x hx => by simpa using h.1.mem_iff.1 hx
  refine ⟨?_, ?_⟩
  · rw [List.range_succ]
    have e : (R.take k ++ [i] ++ R.drop k).Perm (R.take k ++ (R.drop k ++ [i])) := by
      rw [List.append_assoc]
      exact List.Perm.append_left _ List.perm_append_comm
    refine e.trans ?_
    rw [← List.append_assoc, List.take_append_drop]
    exact h.1.append_right _
  · have hp := h.2
    rw [← List.take_append_drop k R] at hp
    obtain ⟨p1, p2, p3⟩ := List.pairwise_append.1 hp
    have before : ∀ a ∈ R.take k, Lex xs a i := by
      intro a ha
      obtain ⟨j, hj, rfl⟩ := List.getElem_of_mem ha
      have hj' : j < k := by simp at hj; omega
      have hR : j < R.length := by omega
      have e : (R.take k)[j] = R.getD j 0 := by simp [List.getD, hR]
      have b := h1 j hj'
      have c := hlt _ (List.mem_of_mem_take ha)
      rw [e] at c ⊢
      unfold Lex
      omega
    have after : ∀ a ∈ R.drop k, Lex xs i a := by
      intro a ha
      rcases h2 with h2 | h2
      · rw [h2, ← hl, List.drop_length] at ha; simp at ha
      · have hkl : k < R.length := by
          rcases Nat.lt_or_ge k R.length with g | g
          · exact g
          · rw [List.drop_eq_nil_of_le g] at ha; simp at ha
        have hd : R.drop k = R[k] :: R.drop (k + 1) := List.drop_eq_getElem_cons hkl
        have e : R[k] = R.getD k 0 := by simp [List.getD, hkl]
        rw [hd] at ha p2
        rcases List.mem_cons.1 ha with rfl | ha
        · rw [e]; exact .inl h2
        · have := (List.pairwise_cons.1 p2).1 a ha
          rw [e] at this
          unfold Lex at *
          omega
    refine List.pairwise_append.2 ⟨List.pairwise_append.2 ⟨p1, by simp, fun a ha b hb => ?_⟩, p2, fun a ha b hb => ?_⟩
    · simp at hb; subst hb; exact before a ha
    · rcases List.mem_append.1 ha with ha | ha
      · exact p3 a ha b hb
      · simp at ha; subst ha; exact after b hb

/-- The row of the places so far. -/
def OutAt (w : World) (v : Value) (R : List Nat) : Prop :=
  ∃ g cap, v = .slice (some ⟨g, 0, none⟩) R.length cap ∧ R.length ≤ cap ∧ g < w.heap.size ∧ ∀ j, j < R.length → w.cell? ⟨g, j, none⟩ = some (.int .i64 (R.getD j 0 : Nat))
theorem OutAt.below {w w' : World} {v : Value} {R : List Nat} (h : OutAt w v R) (hb : Below w.heap.size w w') : OutAt w' v R := by
  obtain ⟨g, cap, h1, h2, h3, h4⟩ := h
  exact ⟨g, cap, h1, h2, by have := hb.size; omega, fun j hj => (hb.cell (by exact h3)).trans (h4 j hj)⟩
theorem OutAt.owns {w : World} {base : Nat} {e : TypeId} {v : Value} {R : List Nat} (h : w.ownsRow base e 1 v R.length (R.map fun i => .int .i64 (i : Nat))) (h0 : 0 < R.length) : OutAt w v R := by
  have hc := fun g => h.cells (g := g)
  rcases h.2 with ⟨_, h0'⟩ | ⟨g, cap, cur, rfl, _, hg, hle, _⟩
  · omega
  · refine ⟨g, cap, rfl, hle, lt_of_block hg, fun i hi => ?_⟩
    have := hc g rfl i (.int .i64 (R.getD i 0 : Nat)) (by simp [List.getD, hi])
    have e : (⟨g, 0, none⟩ : Addr).add i = ⟨g, 0 + i, none⟩ := by unfold Addr.add; split <;> simp_all
    rw [e, Nat.zero_add] at this; exact this
theorem OutAt.ints {w : World} {v : Value} {R : List Nat} (h : OutAt w v R) : IntsAt w v (R.map Int.ofNat) := by
  obtain ⟨g, cap, rfl, h2, h3, h4⟩ := h
  by_cases h0 : R.length = 0
  · exact .inl ⟨_, _, by rw [h0], by rw [List.length_eq_zero_iff.1 h0]; rfl⟩
  · refine .inr ⟨g, 0, R.length, cap, rfl, by simp, by omega, h3, h2, fun i hi => ?_⟩
    rw [Nat.zero_add, h4 i hi]
    simp [List.getD, hi]

theorem rless_at (a b : Nat) (d : Bool) (w : World) (ha : a < 18446744073709551616) (hb : b < 18446744073709551616) (h : decide (hgt a < hgt b) = d) :
    Calls Try.prog 20 #[.float .f64 a, .float .f64 b] w fun e w' => e = .returned (.bool d) ∧ w = w' := by
  rw [← h]; exact rless_any a b w ha hb

theorem rless_q (a b : Nat) (d : Bool) (w : World) (ha : a < 18446744073709551616) (hb : b < 18446744073709551616) (h : decide (hgt a < hgt b) = d) :
    Calls Try.prog 20 #[.float .f64 a, .float .f64 b] w fun e w' => e = .returned (.bool d) ∧ w' = w :=
  (rless_at a b d w ha hb h).mono fun _ _ ⟨h1, h2⟩ => ⟨h1, h2.symm⟩

def InHead (xs : List Nat) (w : World) (i : Nat) (R : List Nat) (k : Nat) (v : Value) (wr : World) : Prop :=
  k ≤ i ∧ wr.ownsRow w.heap.size 3 1 v k ((R.map fun i => Value.int .i64 (i : Nat)).take k) ∧ Below w.heap.size w wr ∧ w.heap.size ≤ wr.heap.size ∧ ∀ j, j < k → ¬ hgt (xs.getD i 0) < hgt (xs.getD (R.getD j 0) 0)
theorem InHead.drewN {xs : List Nat} {w wr : World} {i : Nat} {R : List Nat} {k : Nat} {v : Value} (h : InHead xs w i R k v wr) (n : Nat) : InHead xs w i R k v (wr.drewN n) :=
  ⟨h.1, h.2.1, below_drewN h.2.2.1 n, h.2.2.2.1, h.2.2.2.2⟩
theorem size_new (w : World) (o : Obj) : (w.alloc o).heap.size = w.heap.size + 1 := by simp
theorem InHead.more {xs : List Nat} {w wr w' : World} {i : Nat} {R : List Nat} {k : Nat} {v v' : Value} (h : InHead xs w i R k v wr) (hR : R.length = i) (hk : k < i) (hd : ¬ hgt (xs.getD i 0) < hgt (xs.getD (R.getD k 0) 0)) (hs : w.heap.size ≤ w'.heap.size)
    (hown : w'.ownsRow w.heap.size 3 1 v' (k + 1) ((R.map fun i => Value.int .i64 (i : Nat)).take k ++ [.int .i64 (R.getD k 0 : Nat)])) (hb : Below w.heap.size wr w') : InHead xs w i R (k + 1) v' w' := by
  obtain ⟨h1, h2, h3, h4, h5⟩ := h
  refine ⟨by omega, ?_, h3.trans hb, hs, fun j hj => ?_⟩
  · have e : (R.map fun i => Value.int .i64 (i : Nat)).take (k + 1) = (R.map fun i => Value.int .i64 (i : Nat)).take k ++ [.int .i64 (R.getD k 0 : Nat)] := by
      have hk' : k < R.length := by omega
      rw [List.take_add_one]; simp [List.getD, hk']
    rw [e]; exact hown
  · by_cases g : j < k
    · exact h5 j g
    · obtain rfl : j = k := by omega
      exact hd

def RankHead (xs : List Nat) (w : World) (i : Nat) (v : Value) (wr : World) : Prop :=
  ∃ R, UpTo xs i R ∧ OutAt wr v R ∧ Below w.heap.size w wr ∧ i ≤ xs.length

theorem rank_step {xs : List Nat} {w wo ws w' : World} {i : Nat} {R : List Nat} {k : Nat} {v v' : Value} (hU : UpTo xs i R) (hB : Below w.heap.size w wo) (hsz : w.heap.size ≤ wo.heap.size) (hlt : i < xs.length)
    (h : InHead xs wo i R k v ws) (hstop : k = i ∨ hgt (xs.getD i 0) < hgt (xs.getD (R.getD k 0) 0)) (hb : Below wo.heap.size ws w')
    (hown : w'.ownsRow wo.heap.size 3 1 v' (k + 1 + (i - k)) ((R.map fun i => Value.int .i64 (i : Nat)).take k ++ .int .i64 (i : Nat) :: (R.map fun i => Value.int .i64 (i : Nat)).drop k)) : RankHead xs w (i + 1) v' w' := by
  obtain ⟨h1, h2, h3, h4, h5⟩ := h
  have hl := hU.len
  have hi := hU.insert k h1 h5 hstop
  refine ⟨_, hi, OutAt.owns (base := wo.heap.size) (e := 3) ?_ ?_, hB.trans ((h3.trans hb).mono hsz), by omega⟩
  · have e : k + 1 + (i - k) = (R.take k ++ [i] ++ R.drop k).length := by rw [hi.len]; omega
    have e2 : (R.take k ++ [i] ++ R.drop k).map (fun i => Value.int .i64 (i : Nat)) = (R.map fun i => Value.int .i64 (i : Nat)).take k ++ .int .i64 (i : Nat) :: (R.map fun i => Value.int .i64 (i : Nat)).drop k := by
      simp [List.map_take, List.map_drop]
    rw [← e, e2]
    exact hown
  · rw [hi.len]; omega

set_option maxHeartbeats 4000000 in
set_option maxRecDepth 100000 in
theorem rrank_some (b off m cap : Nat) (xs : List Nat) (w : World) (hl : xs.length = m) (hb : b < w.heap.size) (hc : ∀ i, i < m → w.cell? ⟨b, off + i, none⟩ = some (.float .f64 (xs.getD i 0)))
    (hx : ∀ i, xs.getD i 0 < 18446744073709551616) (hn : m ≤ 1000000) :
    Calls Try.prog 23 #[.slice (some ⟨b, off, none⟩) m cap] w fun e w' => ∃ u r, e = .returned u ∧ IsRank xs r ∧ IntsAt w' u (r.map Int.ofNat) ∧ Below w.heap.size w w' := by
  have Hc := Lib.hid hc
  have Hx := Lib.hid hx
  have Hl := Lib.hid hl
  clear hc hx hl
  obtain ⟨i0, hi0, hz0, hz1, hz2⟩ := info_parts infoInt
  go_enter Try.func23, Try.ntmps23
  go_wp2_with fail
  go_loopw [3, 4, 5, 6, 7] (fun v i _ _ _ wr => ∃ k : Nat, i = .int .i64 k ∧ RankHead xs w k v wr) (fun _ i _ _ _ _ => m - (intOf i).toNat)
  case atStart => exact ⟨0, rfl, [], ⟨by simp, by simp⟩, ⟨_, _, rfl, by simp, by simp, fun j hj => by simp at hj⟩, (Below.refl _ _).alloc (Nat.le_refl _) _, by omega⟩
  case round =>
    obtain ⟨wo, rfl⟩ : ∃ wo, wo = wr := ⟨_, rfl⟩
    obtain ⟨i, rfl, R, hU, hO, hB, hi⟩ := hrel
    rw [Hl.out] at hi
    have Hlen := hU.len
    obtain ⟨g, cp, rfl, hcap, hg, hcell⟩ := hO
    rw [Hlen] at hcap hcell ⊢
    have HU := Lib.hid hU
    have HLen := Lib.hid Hlen
    have HB := Lib.hid hB
    have Hcell := Lib.hid hcell
    have hz := hB.size
    clear hU hB hcell Hlen
    by_cases hlt : i < m
    · have hlt' : (i : Int) < m := by omega
      go_wp2_with fail
      have hst : InHead xs wo i R 0 (.slice (some ⟨wo.heap.size, 0, none⟩) 0 0) (wo.alloc (.cells #[] 3)) :=
        ⟨by omega, World.ownsRow_made wo #[] 0 (Nat.le_refl _) (by omega) rfl, (Below.refl _ _).alloc (Nat.le_refl _) _, by simp, fun j hj => by omega⟩
      have Hst := Lib.hid hst
      clear hst
      go_loopw [5, 6] (fun v kk ws => ∃ k : Nat, kk = .int .i64 k ∧ InHead xs wo i R k v ws) (fun _ kk _ => i - (intOf kk).toNat)
      case atStart => exact ⟨0, rfl, Hst.out⟩
      case round =>
        obtain ⟨k, rfl, hI⟩ := hrel
        obtain ⟨ao, cv, rfl⟩ := owns_slice hI.2.1
        have HI := Lib.hid hI
        obtain ⟨hk, hown, hbel, hsz, hall⟩ := hI
        have HO := Lib.hid hown
        have HBel := Lib.hid hbel
        clear hown hall hbel
        by_cases hki : k < i
        · have hki' : (k : Int) < i := by omega
          obtain ⟨o, ho⟩ : ∃ o, o = R.getD k 0 := ⟨_, rfl⟩
          have hoi : o < i := by rw [ho]; exact HU.out.lt hki
          have hom : (o : Int) < m := by omega
          have c1 : wr.cell? ⟨b, off + i, none⟩ = some (.float .f64 (xs.getD i 0)) := (HBel.out.cell (by show b < _; omega)).trans ((HB.out.cell (by exact hb)).trans (Hc.out i hlt))
          have c2 : wr.cell? ⟨g, k, none⟩ = some (.int .i64 (o : Int)) := by rw [ho]; exact (HBel.out.cell (by exact hg)).trans (Hcell.out k hki)
          have c3 : wr.cell? ⟨b, off + o, none⟩ = some (.float .f64 (xs.getD o 0)) := (HBel.out.cell (by show b < _; omega)).trans ((HB.out.cell (by exact hb)).trans (Hc.out o (by omega)))
          have Ho := Lib.hid ho
          have p1 := Hx.out i
          have p2 := Hx.out o
          obtain ⟨p, hp⟩ : ∃ p, p = xs.getD i 0 := ⟨_, rfl⟩
          obtain ⟨q, hq⟩ : ∃ q, q = xs.getD o 0 := ⟨_, rfl⟩
          rw [← hp] at c1 p1
          rw [← hq] at c3 p2
          have Hp := Lib.hid hp
          have Hq := Lib.hid hq
          clear hp hq ho
          by_cases hd : hgt p < hgt q
          · have hcall := fun w => rless_q p q true w p1 p2 (decide_eq_true hd)
            have Hd := Lib.hid hd
            clear hd
            go_wp2_with fail
            go_quiet (first | (go_at_call 20; refine Calls.quiet_of_same (hcall _)))
            have hstop : k = i ∨ hgt (xs.getD i 0) < hgt (xs.getD (R.getD k 0) 0) := .inr (by rw [← Hp.out, ← Ho.out, ← Hq.out]; exact Hd.out)
            have Hstop := Lib.hid hstop
            clear hstop
            have HI2 := Lib.hid (HI.out.drewN nq)
            have hrest : ∀ j, j < i - k → (wr.drewN nq).cell? ⟨g, k + j, none⟩ = some (.int .i64 (R.getD (k + j) 0 : Nat)) := fun j hj => (HBel.out.cell (by exact hg)).trans (Hcell.out (k + j) (by omega))
            have Hrest := Lib.hid hrest
            have hgs : g < (wr.drewN nq).heap.size := by have := HBel.out.size; show g < wr.heap.size; omega
            clear c1 c2 c3 HI HO HBel hrest
            generalize wr.drewN nq = ws at *
            obtain ⟨hk, hown, hbel, hsz, hall⟩ := HI2.out
            have HO := Lib.hid hown
            clear hown hall hbel
            have hki2 : (k : Int) ≤ i := by omega
            have hki3 : (i : Int) ≤ cp := by omega
            go_wp2_with (at_builtin; refine wpList_append_own _ rfl _ _ 35 rfl wo.heap.size 3 i0 (.int .i64 0) 1 8 Try.underlying35 hi0 hz0 hz1 hz2 rfl (by decide) _ _ _ rfl (HO.out.alloc _) ⟨ws.heap.size, 0, none⟩ 1 1 [.int .i64 i] rfl rfl (cell_one_new _ _ _) ?c2 ?c3 ?c4 ?c5 ?_)
            case c2 => intro u hu; simp at hu; subst hu; rfl
            case c3 => unfold maxLen; omega
            case c4 => omega
            case c5 => rw [size_new]; omega
            intro v1 w1 hown1 hg1 _
            have hB1 : Below wo.heap.size ws w1 := ((Below.refl wo.heap.size ws).alloc hsz _).grown hg1 (by rw [size_new]; omega) (fun k hk => (HO.out.lt k hk).1)
            have HB1 := Lib.hid hB1
            obtain ⟨ao1, cv1, rfl⟩ := owns_slice hown1
            have HO1 := Lib.hid hown1
            have hz1' := hB1.size
            have hsrc : ∀ j u, ((R.map fun i => Value.int .i64 (i : Nat)).drop k)[j]? = some u → w1.cell? ((⟨g, k, none⟩ : Addr).add j) = some u := by
              intro j u hu
              have hlen := HLen.out
              have hj : j < i - k := by
                have := (List.getElem?_eq_some_iff.1 hu).1
                simp at this; omega
              have e : (⟨g, k, none⟩ : Addr).add j = ⟨g, k + j, none⟩ := by unfold Addr.add; split <;> simp_all
              rw [e, HB1.out.cell (by exact hg)]
              rw [Hrest.out j hj]
              rw [← hu]
              simp only [List.getElem?_drop, List.getElem?_map, List.getD]
              rw [List.getElem?_eq_getElem (by omega)]
              rfl
            have Hsrc := Lib.hid hsrc
            have hlm : ((R.map fun i => Value.int .i64 (i : Nat)).drop k).length = (i - k) * 1 := by have := HLen.out; simp; omega
            clear hown1 hg1 hB1 hsrc
            go_wp2_with (at_builtin; refine wpList_append_own _ rfl _ _ 35 rfl wo.heap.size 3 i0 (.int .i64 0) 1 8 Try.underlying35 hi0 hz0 hz1 hz2 rfl (by decide) _ _ _ rfl HO1.out ⟨g, k, none⟩ (i - k) (cp - k) _ rfl hlm Hsrc.out ?c2 ?c3 ?c4 ?c5 ?_)
            case c2 => intro u hu; obtain ⟨y, -, rfl⟩ := List.mem_map.1 (List.mem_of_mem_drop hu); rfl
            case c3 => unfold maxLen; omega
            case c4 => omega
            case c5 => omega
            intro v2 w2 hown2 hg2 _
            have hB2 : Below wo.heap.size ws w2 := HB1.out.grown hg2 (by omega) (fun k hk => (HO1.out.lt k hk).1)
            have hnext := rank_step HU.out HB.out hz (by rw [Hl.out]; exact hlt) HI2.out Hstop.out hB2 hown2
            have Hnext := Lib.hid hnext
            clear hown2 hg2 hB2 hnext
            go_wp2_with fail
            go_roundw
            case rel => exact ⟨i + 1, by go_num, Hnext.out⟩
            case measure => simp [intOf]; omega
          · have hcall := fun w => rless_q p q false w p1 p2 (decide_eq_false hd)
            have Hd := Lib.hid hd
            clear hd
            go_wp2_with fail
            go_quiet (first | (go_at_call 20; refine Calls.quiet_of_same (hcall _)))
            have HI2 := Lib.hid (HI.out.drewN nq)
            have c2' : (wr.drewN nq).cell? ⟨g, k, none⟩ = some (.int .i64 (o : Int)) := c2
            clear c1 c2 c3 HI HO HBel
            generalize wr.drewN nq = ws at *
            have HO := Lib.hid HI2.out.2.1
            have hz := HI2.out.2.2.2.1
            go_wp2_with (at_builtin; refine wpList_append_own _ rfl _ _ 35 rfl wo.heap.size 3 i0 (.int .i64 0) 1 8 Try.underlying35 hi0 hz0 hz1 hz2 rfl (by decide) _ _ _ rfl (HO.out.alloc _) ⟨ws.heap.size, 0, none⟩ 1 1 [.int .i64 o] rfl rfl (cell_one_new _ _ _) ?c2 ?c3 ?c4 ?c5 ?_)
            case c2 => intro u hu; simp at hu; subst hu; rfl
            case c3 => unfold maxLen; omega
            case c4 => omega
            case c5 => rw [size_new]; omega
            intro v1 w1 hown1 hg1 _
            have hB1 : Below wo.heap.size ws w1 := ((Below.refl wo.heap.size ws).alloc hz _).grown hg1 (by rw [size_new]; omega) (fun k hk => (HO.out.lt k hk).1)
            have hnext : InHead xs wo i R (k + 1) v1 w1 := HI2.out.more HLen.out hki (by rw [← Hp.out, ← Ho.out, ← Hq.out]; exact Hd.out) (by have := hB1.size; omega) (by rw [← Ho.out]; exact hown1) hB1
            have Hnext := Lib.hid hnext
            clear hown1 hg1 hB1 hnext
            go_wp2_with fail
            go_roundw
            case rel => exact ⟨k + 1, by go_num, Hnext.out⟩
            case measure => simp [intOf]; omega
        · have hstop : k = i ∨ hgt (xs.getD i 0) < hgt (xs.getD (R.getD k 0) 0) := .inl (by omega)
          have Hstop := Lib.hid hstop
          clear hstop
          have hki' : ¬ (k : Int) < i := by omega
          go_wp2_with fail
          go_quiet (fail)
          have HI2 := Lib.hid (HI.out.drewN nq)
          have hrest : ∀ j, j < i - k → (wr.drewN nq).cell? ⟨g, k + j, none⟩ = some (.int .i64 (R.getD (k + j) 0 : Nat)) := fun j hj => (HBel.out.cell (by exact hg)).trans (Hcell.out (k + j) (by omega))
          have Hrest := Lib.hid hrest
          have hgs : g < (wr.drewN nq).heap.size := by have := HBel.out.size; show g < wr.heap.size; omega
          clear HI HO HBel hrest
          generalize wr.drewN nq = ws at *
          obtain ⟨hk, hown, hbel, hsz, hall⟩ := HI2.out
          have HO := Lib.hid hown
          clear hown hall hbel
          have hki2 : (k : Int) ≤ i := by omega
          have hki3 : (i : Int) ≤ cp := by omega
          go_wp2_with (at_builtin; refine wpList_append_own _ rfl _ _ 35 rfl wo.heap.size 3 i0 (.int .i64 0) 1 8 Try.underlying35 hi0 hz0 hz1 hz2 rfl (by decide) _ _ _ rfl (HO.out.alloc _) ⟨ws.heap.size, 0, none⟩ 1 1 [.int .i64 i] rfl rfl (cell_one_new _ _ _) ?c2 ?c3 ?c4 ?c5 ?_)
          case c2 => intro u hu; simp at hu; subst hu; rfl
          case c3 => unfold maxLen; omega
          case c4 => omega
          case c5 => rw [size_new]; omega
          intro v1 w1 hown1 hg1 _
          have hB1 : Below wo.heap.size ws w1 := ((Below.refl wo.heap.size ws).alloc hsz _).grown hg1 (by rw [size_new]; omega) (fun k hk => (HO.out.lt k hk).1)
          have HB1 := Lib.hid hB1
          obtain ⟨ao1, cv1, rfl⟩ := owns_slice hown1
          have HO1 := Lib.hid hown1
          have hz1' := hB1.size
          have hsrc : ∀ j u, ((R.map fun i => Value.int .i64 (i : Nat)).drop k)[j]? = some u → w1.cell? ((⟨g, k, none⟩ : Addr).add j) = some u := by
            intro j u hu
            have hlen := HLen.out
            have hj : j < i - k := by
              have := (List.getElem?_eq_some_iff.1 hu).1
              simp at this; omega
            have e : (⟨g, k, none⟩ : Addr).add j = ⟨g, k + j, none⟩ := by unfold Addr.add; split <;> simp_all
            rw [e, HB1.out.cell (by exact hg)]
            rw [Hrest.out j hj]
            rw [← hu]
            simp only [List.getElem?_drop, List.getElem?_map, List.getD]
            rw [List.getElem?_eq_getElem (by omega)]
            rfl
          have Hsrc := Lib.hid hsrc
          have hlm : ((R.map fun i => Value.int .i64 (i : Nat)).drop k).length = (i - k) * 1 := by have := HLen.out; simp; omega
          clear hown1 hg1 hB1 hsrc
          by_cases hcp : k < cp
          · have hcp' : (k : Int) < cp := by omega
            go_wp2_with (at_builtin; refine wpList_append_own _ rfl _ _ 35 rfl wo.heap.size 3 i0 (.int .i64 0) 1 8 Try.underlying35 hi0 hz0 hz1 hz2 rfl (by decide) _ _ _ rfl HO1.out ⟨g, k, none⟩ (i - k) (cp - k) _ rfl hlm Hsrc.out ?c2 ?c3 ?c4 ?c5 ?_)
            case c2 => intro u hu; obtain ⟨y, -, rfl⟩ := List.mem_map.1 (List.mem_of_mem_drop hu); rfl
            case c3 => unfold maxLen; omega
            case c4 => omega
            case c5 => omega
            intro v2 w2 hown2 hg2 _
            have hB2 : Below wo.heap.size ws w2 := HB1.out.grown hg2 (by omega) (fun k hk => (HO1.out.lt k hk).1)
            have hnext := rank_step HU.out HB.out hz (by rw [Hl.out]; exact hlt) HI2.out Hstop.out hB2 hown2
            have Hnext := Lib.hid hnext
            clear hown2 hg2 hB2 hnext
            go_wp2_with fail
            go_roundw
            case rel => exact ⟨i + 1, by go_num, Hnext.out⟩
            case measure => simp [intOf]; omega
          · have hcp' : cp = k := by omega
            go_wp2_with (at_builtin; refine wpList_append_own _ rfl _ _ 35 rfl wo.heap.size 3 i0 (.int .i64 0) 1 8 Try.underlying35 hi0 hz0 hz1 hz2 rfl (by decide) _ _ _ rfl HO1.out ⟨g, 0, none⟩ (i - k) 0 _ rfl hlm (fun j u hu => absurd (List.getElem?_eq_some_iff.1 hu).1 (by rw [hlm]; omega)) ?c2 ?c3 ?c4 ?c5 ?_)
            case c2 => intro u hu; obtain ⟨y, -, rfl⟩ := List.mem_map.1 (List.mem_of_mem_drop hu); rfl
            case c3 => unfold maxLen; omega
            case c4 => omega
            case c5 => omega
            intro v2 w2 hown2 hg2 _
            have hB2 : Below wo.heap.size ws w2 := HB1.out.grown hg2 (by omega) (fun k hk => (HO1.out.lt k hk).1)
            have hnext := rank_step HU.out HB.out hz (by rw [Hl.out]; exact hlt) HI2.out Hstop.out hB2 hown2
            have Hnext := Lib.hid hnext
            clear hown2 hg2 hB2 hnext
            go_wp2_with fail
            go_roundw
            case rel => exact ⟨i + 1, by go_num, Hnext.out⟩
            case measure => simp [intOf]; omega
    · obtain rfl : i = m := by omega
      go_wp2_with fail
      go_ret
      refine ⟨_, R, rfl, ?_, ?_, HB.out⟩
      · have := HU.out
        unfold UpTo at this
        unfold IsRank
        rw [Hl.out]; exact this
      · have hO : OutAt wo (.slice (some ⟨g, 0, none⟩) R.length cp) R := ⟨g, cp, rfl, by rw [HLen.out]; exact hcap, hg, by rw [HLen.out]; exact Hcell.out⟩
        rw [HLen.out] at hO
        exact hO.ints
end Go.Proofs.Ytopmbcfecaklhaa
