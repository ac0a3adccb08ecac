/- A piece's numbers; Encode. -/
import Derived.Test.YtcopedhoepblpaaPkD
import Derived.Deep.CutRange
set_option linter.unusedSimpArgs false
set_option linter.unusedVariables false
set_option maxRecDepth 100000
namespace Go.Proofs.Ytcopedhoepblpaa
open Go.RowKit Go.PlainAid

/-- A row of numbers under way. -/
def RowI (w0 w : World) (v : Value) (xs : List Int) : Prop := Own False All 3 1 w0 w.heap.size w v (xs.map fun a => [dI a])
theorem RowI.bel {w0 w : World} {v : Value} {xs : List Int} (h : RowI w0 w v xs) : Below w0.heap.size w0 w := Own.bel h
theorem RowI.later {w0 w w' : World} {v : Value} {xs : List Int} (h : RowI w0 w v xs) (hb : Below w.heap.size w w') : RowI w0 w' v xs := (Own.later h hb).lift hb.size (Nat.le_refl _)
theorem RowI.has {w0 w : World} {v : Value} {xs : List Int} (h : RowI w0 w v xs) : Has w v (dInts xs) := Own.holds h (fun _ _ => trivial)
theorem RowI.slice {w0 w : World} {v : Value} {xs : List Int} (h : RowI w0 w v xs) : ∃ a c, v = .slice a xs.length c := by have := Own.slice h; rwa [List.length_map] at this
theorem RowI.nil (w0 w : World) (hb : Below w0.heap.size w0 w) : RowI w0 w (.slice none 0 0) [] := Own.nil hb
theorem rowI_new {w0 w : World} (hb : Below w0.heap.size w0 w) (xs : List Int) (k : Nat) (hk : k = xs.length) (hl : k ≤ 1000000) : RowI w0 (w.alloc (.cells (xs.map (Value.int .i64)).toArray 3)) (.slice (some ⟨w.heap.size, 0, none⟩) k k) xs := by
  subst hk
  refine ⟨hb.trans ((below_new w _).mono hb.size), Nat.le_refl _, fun k hk => by simp [Value.ownBlock] at hk; subst hk; simp, xs.map (Value.int .i64), fun i _ => .int .i64 (xs.getD i 0), fun _ _ _ => False, ?_, fun i ds h => ?_, fun i j hi hj => ?_, fun i j ds d h1 h2 => ?_, fun _ _ _ h => h.elim, fun s => s.elim⟩
  · refine ⟨by simp, .inr ⟨w.heap.size, xs.length, (xs.map (Value.int .i64)).toArray, by simp, hb.size, heap_alloc_new w _, by simp, by unfold maxLen; omega, by simp, ?_⟩⟩
    simp [List.take_of_length_le]
  · rw [List.getElem?_map] at h
    cases hx : xs[i]? with
    | none => rw [hx] at h; cases h
    | some x => rw [hx] at h; cases h; rfl
  · obtain rfl : j = 0 := by omega
    have hi' : i < xs.length := by simpa using hi
    simp [List.getD, hi']
  · rw [List.getElem?_map] at h1
    cases hx : xs[i]? with
    | none => rw [hx] at h1; cases h1
    | some x =>
      rw [hx] at h1
      cases h1
      match j, h2 with
      | 0, h2 => simp at h2; subst h2; show Holds _ _ _ (.int .i64 (xs.getD i 0)) _; rw [show xs.getD i 0 = x by simp [List.getD, hx]]; exact has_int _ _ _ _
      | j + 1, h2 => simp at h2
theorem flat_ints (xs : List Int) : Flat (xs.map fun a => [dI a]).flatten := by
  intro d hd
  rw [List.mem_flatten] at hd
  obtain ⟨l, hl, hd⟩ := hd
  obtain ⟨p, _, rfl⟩ := List.mem_map.1 hl
  simp at hd
  exact ⟨_, hd⟩
theorem flat_links (L : Lks) : Flat (L.map fun p => [dI p.1, dI p.2]).flatten := by
  intro d hd
  rw [List.mem_flatten] at hd
  obtain ⟨l, hl, hd⟩ := hd
  obtain ⟨p, _, rfl⟩ := List.mem_map.1 hl
  simp at hd
  rcases hd with rfl | rfl <;> exact ⟨_, rfl⟩
/-- append(s, xs...) to it. -/
theorem appI {ops : Array Oper} {rest : List Oper} {o : Oper} {a : Act} {Q : Exit → Act → World → Prop} {w : World} (hgd : o.guard = none) (s x : Operand) (ho : o.op = .call { callee := .builtin .append, args := #[s, x], argTypes := #[22, 22] })
    (w0 : World) (v : Value) (xs ys zs : List Int) (hzs : xs ++ ys = zs) (k m c l : Nat) (hs : a.eval s = v) (h : RowI w0 w v xs) (hk : xs.length = k) (ad : Option Addr) (hx : a.eval x = .slice ad m c) (hy : Has w (.slice ad m c) (dInts ys)) (hl : k + m = l) (h63 : l ≤ 10000000)
    (K : ∀ ao cv w', RowI w0 w' (.slice ao l cv) zs → wpList Try.prog ops Q rest (a.put o.dst (.slice ao l cv)) w') : wpList Try.prog ops Q (o :: rest) a w := by
  obtain ⟨i, hi, hz, hsz, hby⟩ := info_parts infoInt
  refine app_rows hgd s x 22 3 i (.int .i64 0) 1 8 ho Try.underlying22 hi hz hsz hby rfl (by decide) False All w0 w.heap.size v _ _ k m c l hs h (by rw [List.length_map]; exact hk) ad hx hy (flat_ints ys) hl (by unfold maxLen; omega) (by omega) ?_
  intro ao cv w' h1 h2
  exact K ao cv w' (by unfold RowI; rw [← hzs, List.map_append]; exact h1)
theorem has_ints_new (w : World) (xs : List Int) (k : Nat) (hk : k = xs.length) (h0 : 0 < k) : Has (w.alloc (.cells (xs.map (Value.int .i64)).toArray 3)) (.slice (some ⟨w.heap.size, 0, none⟩) k k) (dInts xs) := by
  refine has_new 3 (fl_ints xs) (by rw [List.length_map]; exact hk) h0 ?_
  clear hk h0
  induction xs with
  | nil => exact hl_nil
  | cons x xs ih => exact hl_int ih
theorem flat_le {α : Type} {f : α → List Int} {c : Nat} : ∀ (l : List α), (∀ x ∈ l, (f x).length ≤ c) → (l.flatMap f).length ≤ l.length * c := by
  intro l
  induction l with
  | nil => intro _; simp
  | cons x l ih =>
    intro h
    have h1 := h x (List.mem_cons_self ..)
    have h2 := ih (fun y hy => h y (List.mem_cons_of_mem _ hy))
    rw [List.flatMap_cons, List.length_append, List.length_cons, Nat.succ_mul]; omega
theorem flat_next {α : Type} {f : α → List Int} {l : List α} {j : Nat} {x : α} (h : l[j]? = some x) : (l.take (j + 1)).flatMap f = (l.take j).flatMap f ++ f x := by
  rw [List.take_add_one, h, List.flatMap_append]; simp
def pairN (x : Int × Int) : List Int := [x.1, x.2]
theorem msgsN_eq (m : Lks) : msgsN m = (m.length : Int) :: m.flatMap pairN := rfl
theorem pairs_len (m : Lks) (k : Nat) : ((m.take k).flatMap pairN).length ≤ m.length * 2 := by
  have h1 := flat_le (f := pairN) (c := 2) (m.take k) (fun x _ => Nat.le_refl 2)
  have h2 : (m.take k).length ≤ m.length := List.length_take_le' _ _
  omega
theorem small_of_ok {p : Pc} (h : okB p = true) : SmallPc p := by
  obtain ⟨_, _, _, h4, h5, h6⟩ := okB_parts h
  exact ⟨by omega, by omega, by omega, fun m hm => by have := riseB_len m 0 (h5.2 m hm) (by omega); omega, fun l hl => by have := (h6.2 l hl).1; omega⟩
/-- What numbersOf tells. -/
def NumsTold (p : Pc) (w : World) (e : Ending) (w' : World) : Prop := ∃ u, e = .returned u ∧ Has w' u (dInts (numsOf p)) ∧ Below w.heap.size w w'
set_option maxHeartbeats 4000000 in
theorem nums_at (p : Pc) (v1 v2 v3 : Value) (w : World) (h : HasL w [v1, v2, v3] p.d) (hok : okB p = true) :
    Calls Try.prog 25 #[pcv p v1 v2 v3] w (NumsTold p w) := by
  obtain ⟨a1, a2, a3, n1, n2, n3, e1, e2, e3, ee1, ee2, ee3⟩ := pc_slices h
  subst ee1
  subst ee2
  subst ee3
  obtain ⟨c1, c2, c3⟩ := pc_has h
  obtain ⟨_, _, _, k4, k5, k6⟩ := okB_parts hok
  have L1 := ints_len c1
  have L2 := lls_len c2
  have L3 := ils_len c3
  have hn1 : n1 ≤ 5 := by rw [L1]; exact k4.1
  have hn2 : n2 ≤ 5 := by rw [L2]; exact k5.1
  have hn3 : n3 ≤ 5 := by rw [L3]; exact k6.1
  have HM : Hid (∀ m ∈ p.inn, m.length ≤ 500) := Lib.hid (fun m hm => by have := riseB_len m 0 (k5.2 m hm) (by omega); omega)
  have HO : Hid (∀ l ∈ p.out, l.length ≤ 500) := Lib.hid (fun l hl => (k6.2 l hl).1)
  have C1 := Lib.hid c1
  have C2 := Lib.hid c2
  have C3 := Lib.hid c3
  have N1 := Lib.hid L1
  have N2 := Lib.hid L2
  have N3 := Lib.hid L3
  clear h c1 c2 c3 hok k4 k5 k6 L1 L2 L3
  obtain ⟨m0, hm0⟩ : ∃ m, m = p.node := ⟨_, rfl⟩
  obtain ⟨m1, hm1⟩ : ∃ m, m = p.state := ⟨_, rfl⟩
  obtain ⟨m2, hm2⟩ : ∃ m, m = p.steps := ⟨_, rfl⟩
  obtain ⟨la, hla⟩ : ∃ l, [m0, m1, m2, (n1 : Int)] ++ p.sent = l := ⟨_, rfl⟩
  obtain ⟨lb, hlb⟩ : ∃ l, la ++ [(n2 : Int)] = l := ⟨_, rfl⟩
  obtain ⟨lc, hlc⟩ : ∃ l, lb ++ p.inn.flatMap msgsN = l := ⟨_, rfl⟩
  obtain ⟨ld, hld⟩ : ∃ l, lc ++ [(n3 : Int)] = l := ⟨_, rfl⟩
  have NN : Hid (numsOf p = ld ++ p.out.flatMap intsN) := Lib.hid (by
    rw [← hld, ← hlc, ← hlb, ← hla, hm0, hm1, hm2, N1.out, N2.out, N3.out]
    unfold numsOf intsN
    simp)
  have hfl : ∀ j, ((p.inn.take j).flatMap msgsN).length ≤ 5005 := fun j => by
    have h1 := flat_le (f := msgsN) (c := 1001) (p.inn.take j) (fun m hm => by have := HM.out m (List.mem_of_mem_take hm); have h2 := flat_le (f := pairN) (c := 2) m (fun x _ => Nat.le_refl 2); rw [msgsN_eq, List.length_cons]; omega)
    have h2 : (p.inn.take j).length ≤ 5 := by have := List.length_take_le' j p.inn; have := N2.out; omega
    have h3 : (p.inn.take j).length * 1001 ≤ 5 * 1001 := Nat.mul_le_mul_right _ h2
    omega
  have hgl : ∀ j, ((p.out.take j).flatMap intsN).length ≤ 2505 := fun j => by
    have h1 := flat_le (f := intsN) (c := 501) (p.out.take j) (fun m hm => by have := HO.out m (List.mem_of_mem_take hm); unfold intsN; rw [List.length_cons]; omega)
    have h2 : (p.out.take j).length ≤ 5 := by have := List.length_take_le' j p.out; have := N3.out; omega
    have h3 : (p.out.take j).length * 501 ≤ 5 * 501 := Nat.mul_le_mul_right _ h2
    omega
  have hlen1 : la.length = 4 + n1 := by rw [← hla, N1.out]; simp; omega
  have hlen2 : lb.length = 4 + n1 + 1 := by rw [← hlb, List.length_append, hlen1]; rfl
  have hlen3 : lc.length ≤ 5100 := by
    have := hfl p.inn.length
    rw [List.take_length] at this
    rw [← hlc, List.length_append, hlen2]; omega
  have FL := Lib.hid hfl
  have GL := Lib.hid hgl
  have LA := Lib.hid hla
  have LB := Lib.hid hlb
  have LC := Lib.hid hlc
  have LD := Lib.hid hld
  have E1 := Lib.hid hlen1
  have E2 := Lib.hid hlen2
  have E3 := Lib.hid hlen3
  unfold pcv
  rw [← hm0, ← hm1, ← hm2]
  clear hm0 hm1 hm2 hla hlb hlc hld hfl hgl hlen1 hlen2 hlen3
  go_enter Try.func25, Try.ntmps25
  try simp only [List.append_eq, List.cons_append, List.nil_append]
  go_upto_region 1 with fail
  obtain ⟨y0, hy0⟩ : ∃ y, y = w.alloc (.cells #[.int .i64 m0, .int .i64 m1, .int .i64 m2, .slice a1 n1 e1, .slice a2 n2 e2, .slice a3 n3 e3] 26) := ⟨_, rfl⟩
  have hb0 : Below w.heap.size w y0 := by rw [hy0]; exact below_new _ _
  have hx0 : BoxAt w.heap.size [.int .i64 m0, .int .i64 m1, .int .i64 m2, .slice a1 n1 e1, .slice a2 n2 e2, .slice a3 n3 e3] y0 := by rw [hy0]; exact boxAt_new w [.int .i64 m0, .int .i64 m1, .int .i64 m2, .slice a1 n1 e1, .slice a2 n2 e2, .slice a3 n3 e3] _
  have B0 := Lib.hid hb0
  have K0 := Lib.hid hx0
  rw [← hy0]
  clear hy0 hb0 hx0
  have p0 := K0.out 0 _ rfl
  have p1 := K0.out 1 _ rfl
  have p2 := K0.out 2 _ rfl
  have p3 := K0.out 3 _ rfl
  have RN := Lib.hid (rowI_new (Below.refl y0.heap.size y0) [m0, m1, m2, (n1 : Int)] 4 rfl (by omega))
  have BN := Lib.hid (below_new y0 (.cells #[.int .i64 m0, .int .i64 m1, .int .i64 m2, .int .i64 (n1 : Int)] 3))
  have p3' := K0.out.below BN.out 3 _ rfl
  go_wp2_with (at_builtin; refine appI rfl _ _ rfl y0 _ _ p.sent la LA.out 4 n1 e1 (4 + n1) rfl RN.out rfl a1 rfl (C1.out.later (below_step' B0.out BN.out)) rfl (by omega) ?_)
  clear RN BN p0 p1 p2 p3 p3'
  intro ao cv x1 hr
  have p4 := K0.out.below hr.bel 4 _ rfl
  have q4 := Lib.hid (has_ints_new x1 [(n2 : Int)] 1 rfl (by omega))
  have R1' := Lib.hid (hr.later (below_new x1 (.cells #[.int .i64 (n2 : Int)] 3)))
  clear hr
  go_wp2_with (at_builtin; refine appI rfl _ _ rfl y0 _ _ [(n2 : Int)] lb LB.out (4 + n1) 1 1 (4 + n1 + 1) rfl R1'.out E1.out (some ⟨x1.heap.size, 0, none⟩) rfl q4.out rfl (by omega) ?_)
  clear R1' q4 p4
  intro ao cv x2 hr
  have R2 := Lib.hid hr
  have p4 := K0.out.below hr.bel 4 _ rfl
  clear hr
  go_wp2_with fail
  clear p4
  go_loopw [3, 33] (fun v i wr1 => ∃ j : Nat, i = .int .i64 j ∧ j ≤ n2 ∧ RowI y0 wr1 v (lb ++ (p.inn.take j).flatMap msgsN)) (fun _ i _ => n2 - (intOf i).toNat)
  case atStart => exact ⟨0, rfl, by omega, by simpa using R2.out⟩
  case round =>
    obtain ⟨j, rfl, hj, hr⟩ := hrel
    obtain ⟨wr1, hw1⟩ : ∃ x, x = wr := ⟨_, rfl⟩
    subst hw1
    have BR := Lib.hid (below_step' B0.out hr.bel)
    obtain ⟨lj, hlj⟩ : ∃ l, lb ++ (p.inn.take j).flatMap msgsN = l := ⟨_, rfl⟩
    rw [hlj] at hr
    obtain ⟨va, vc, e⟩ := hr.slice
    subst e
    have hal : lj.length ≤ 5015 := by have := FL.out j; rw [← hlj, List.length_append, E2.out]; omega
    obtain ⟨nl, hnl⟩ : ∃ n, n = lj.length := ⟨_, rfl⟩
    rw [← hnl] at hal hr ⊢
    have NL := Lib.hid hnl
    have LJ := Lib.hid hlj
    have RJ := Lib.hid hr
    clear hnl hlj
    by_cases hlt : j < n2
    · have hlt' : (j : Int) < n2 := by omega
      obtain ⟨m, hm⟩ := some_of_lt (l := p.inn) (i := j) (by rw [← N2.out]; exact hlt)
      obtain ⟨b, o, ma, mc, e, _, e9, z0, hmm⟩ := lls_at (C2.out.later B0.out) hm
      clear e9
      subst e
      have z1 := (hr.bel.cell (World.block_lt_of_cell? y0 _ z0)).trans z0
      clear z0
      have hm5 := HM.out m (List.mem_of_getElem? hm)
      obtain ⟨k1, hk1⟩ : ∃ k, k = m.length := ⟨_, rfl⟩
      rw [← hk1] at z1 hmm hm5
      obtain ⟨lk1, hlk1⟩ : ∃ l, lj ++ [(k1 : Int)] = l := ⟨_, rfl⟩
      have LK := Lib.hid hlk1
      have GN : Hid (lb ++ (p.inn.take (j + 1)).flatMap msgsN = lk1 ++ m.flatMap pairN) := Lib.hid (by rw [flat_next hm, ← hlk1, ← LJ.out, msgsN_eq, ← hk1]; simp)
      have MM := Lib.hid hmm
      have K1 := Lib.hid hk1
      have BJ := Lib.hid hr.bel
      clear hm hmm hk1 hlk1
      have q1 := Lib.hid (has_ints_new wr1 [(k1 : Int)] 1 rfl (by omega))
      have R1' := Lib.hid (hr.later (below_new wr1 (.cells #[.int .i64 (k1 : Int)] 3)))
      clear hr
      go_wp2_with (at_builtin; refine appI rfl _ _ rfl y0 _ _ [(k1 : Int)] lk1 LK.out nl 1 1 (nl + 1) rfl R1'.out NL.out.symm (some ⟨wr1.heap.size, 0, none⟩) rfl q1.out rfl (by omega) ?_)
      clear R1' q1 z1
      intro ao cv x3 hr
      have R3 := Lib.hid hr
      clear hr
      go_wp2_with fail
      go_loopw [3, 44] (fun v i wr2 => ∃ k : Nat, i = .int .i64 k ∧ k ≤ k1 ∧ RowI y0 wr2 v (lk1 ++ (m.take k).flatMap pairN)) (fun _ i _ => k1 - (intOf i).toNat)
      case atStart => exact ⟨0, rfl, by omega, by simpa using R3.out⟩
      case round =>
        obtain ⟨k, rfl, hk, hr⟩ := hrel
        obtain ⟨wr2, hw2⟩ : ∃ x, x = wr := ⟨_, rfl⟩
        subst hw2
        obtain ⟨lp, hlp⟩ : ∃ l, lk1 ++ (m.take k).flatMap pairN = l := ⟨_, rfl⟩
        rw [hlp] at hr
        obtain ⟨va, vc, e⟩ := hr.slice
        subst e
        have hal2 : lp.length ≤ 7000 := by
          have h1 := pairs_len m k
          have h2 := K1.out
          have h3 := NL.out
          rw [← hlp, List.length_append, ← LK.out, List.length_append, ← h3, List.length_singleton]; omega
        obtain ⟨nk, hnk⟩ : ∃ n, n = lp.length := ⟨_, rfl⟩
        rw [← hnk] at hal2 hr ⊢
        have NK := Lib.hid hnk
        have LP := Lib.hid hlp
        have RK := Lib.hid hr
        clear hnk hlp
        by_cases hlt2 : k < k1
        · have hlt2' : (k : Int) < k1 := by omega
          obtain ⟨⟨x1, x2⟩, hx⟩ := some_of_lt (l := m) (i := k) (by rw [← K1.out]; exact hlt2)
          obtain ⟨b2, o2, e, z1, z2⟩ := msg_at (MM.out.later hr.bel) hx
          subst e
          simp only at z1 z2
          obtain ⟨lq, hlq⟩ : ∃ l, lp ++ [x1, x2] = l := ⟨_, rfl⟩
          have LQ := Lib.hid hlq
          have GQ : Hid (lk1 ++ (m.take (k + 1)).flatMap pairN = lq) := Lib.hid (by rw [flat_next hx, ← hlq, ← LP.out]; simp [pairN])
          have bq := below_step' (below_new wr2 (.cells #[.int .i64 x1, .int .i64 x2] 47)) (below_new _ (.cells #[.int .i64 x1, .int .i64 x2] 3))
          have q1 := has_ints_new (wr2.alloc (.cells #[.int .i64 x1, .int .i64 x2] 47)) [x1, x2] 2 rfl (by omega)
          rw [size_new] at q1
          have Q1 := Lib.hid q1
          clear q1
          have R1' := Lib.hid (hr.later bq)
          clear hx hlq hr bq
          go_wp2_with (at_builtin; refine appI rfl _ _ rfl y0 _ _ [x1, x2] lq LQ.out nk 2 2 (nk + 2) rfl R1'.out NK.out.symm (some ⟨wr2.heap.size + 1, 0, none⟩) rfl Q1.out rfl (by omega) ?_)
          clear R1' Q1 z1 z2
          intro ao cv x4 hr
          have R4 := Lib.hid hr
          clear hr
          go_wp2_with fail
          go_roundw
          case rel => exact ⟨k + 1, by go_num, by omega, by rw [GQ.out]; exact R4.out⟩
          case measure => simp [intOf]; omega
        · obtain rfl : k = k1 := by omega
          have hk3 : ¬ (k : Int) < k := by omega
          have GE : Hid (lb ++ (p.inn.take (j + 1)).flatMap msgsN = lp) := Lib.hid (by rw [GN.out, ← LP.out, K1.out, List.take_length])
          clear hr
          go_wp2_with fail
          go_roundw
          case rel => exact ⟨j + 1, by go_num, by omega, by rw [GE.out]; exact RK.out⟩
          case measure => simp [intOf]; omega
    · obtain rfl : j = n2 := by omega
      have hj3 : ¬ (j : Int) < j := by omega
      have GE : Hid (lj = lc) := Lib.hid (by rw [← LJ.out, ← LC.out, N2.out, List.take_length])
      rw [GE.out] at RJ NL
      have p5 := K0.out.below hr.bel 5 _ rfl
      have q1 := Lib.hid (has_ints_new wr1 [(n3 : Int)] 1 rfl (by omega))
      have R1' := Lib.hid (RJ.out.later (below_new wr1 (.cells #[.int .i64 (n3 : Int)] 3)))
      clear hr
      go_wp2_with (at_builtin; refine appI rfl _ _ rfl y0 _ _ [(n3 : Int)] ld LD.out nl 1 1 (nl + 1) rfl R1'.out NL.out.symm (some ⟨wr1.heap.size, 0, none⟩) rfl q1.out rfl (by omega) ?_)
      clear R1' q1 p5
      intro ao cv x5 hr
      have R5 := Lib.hid hr
      have p5 := K0.out.below hr.bel 5 _ rfl
      have LDn : Hid (ld.length = nl + 1) := Lib.hid (by rw [← LD.out, List.length_append, ← NL.out]; rfl)
      clear hr
      go_wp2_with fail
      clear p5
      go_loopw [3, 66] (fun v i wr3 => ∃ k : Nat, i = .int .i64 k ∧ k ≤ n3 ∧ RowI y0 wr3 v (ld ++ (p.out.take k).flatMap intsN)) (fun _ i _ => n3 - (intOf i).toNat)
      case atStart => exact ⟨0, rfl, by omega, by simpa using R5.out⟩
      case round =>
        obtain ⟨k, rfl, hk, hr⟩ := hrel
        obtain ⟨wr3, hw3⟩ : ∃ x, x = wr := ⟨_, rfl⟩
        subst hw3
        obtain ⟨lk, hlk⟩ : ∃ l, ld ++ (p.out.take k).flatMap intsN = l := ⟨_, rfl⟩
        rw [hlk] at hr
        obtain ⟨va, vc, e⟩ := hr.slice
        subst e
        have hal2 : lk.length ≤ 7700 := by have := GL.out k; have := LDn.out; rw [← hlk, List.length_append]; omega
        obtain ⟨nk, hnk⟩ : ∃ n, n = lk.length := ⟨_, rfl⟩
        rw [← hnk] at hal2 hr ⊢
        have NK := Lib.hid hnk
        have LP := Lib.hid hlk
        have RK := Lib.hid hr
        have BK := Lib.hid (below_step' B0.out hr.bel)
        clear hnk hlk
        by_cases hlt2 : k < n3
        · have hlt2' : (k : Int) < n3 := by omega
          obtain ⟨m, hm⟩ := some_of_lt (l := p.out) (i := k) (by rw [← N3.out]; exact hlt2)
          obtain ⟨b, o, ma, mc, e, _, e9, z0, hmm⟩ := ils_at (C3.out.later B0.out) hm
          clear e9
          subst e
          have z1 := (hr.bel.cell (World.block_lt_of_cell? y0 _ z0)).trans z0
          clear z0
          have hm5 := HO.out m (List.mem_of_getElem? hm)
          obtain ⟨k1, hk1⟩ : ∃ k, k = m.length := ⟨_, rfl⟩
          rw [← hk1] at z1 hmm hm5
          obtain ⟨lk1, hlk1⟩ : ∃ l, lk ++ [(k1 : Int)] = l := ⟨_, rfl⟩
          obtain ⟨lk2, hlk2⟩ : ∃ l, lk1 ++ m = l := ⟨_, rfl⟩
          have LK := Lib.hid hlk1
          have LK2 := Lib.hid hlk2
          have GN : Hid (ld ++ (p.out.take (k + 1)).flatMap intsN = lk2) := Lib.hid (by rw [flat_next hm, ← hlk2, ← hlk1, ← LP.out, intsN, ← hk1]; simp)
          have LN1 : Hid (lk1.length = nk + 1) := Lib.hid (by rw [← hlk1, List.length_append, ← NK.out]; rfl)
          have MM := Lib.hid hmm
          clear hm hmm hk1 hlk1 hlk2
          have q1 := Lib.hid (has_ints_new wr3 [(k1 : Int)] 1 rfl (by omega))
          have R1' := Lib.hid (hr.later (below_new wr3 (.cells #[.int .i64 (k1 : Int)] 3)))
          clear hr
          go_wp2_with (at_builtin; refine appI rfl _ _ rfl y0 _ _ [(k1 : Int)] lk1 LK.out nk 1 1 (nk + 1) rfl R1'.out NK.out.symm (some ⟨wr3.heap.size, 0, none⟩) rfl q1.out rfl (by omega) ?_)
          clear R1' q1 z1
          intro ao cv x6 hr
          have R6 := Lib.hid hr
          have M6 := Lib.hid (MM.out.later hr.bel)
          clear hr
          go_wp2_with (at_builtin; refine appI rfl _ _ rfl y0 _ _ m lk2 LK2.out (nk + 1) k1 mc (nk + 1 + k1) rfl R6.out LN1.out ma rfl M6.out rfl (by omega) ?_)
          intro ao cv x7 hr
          have R7 := Lib.hid hr
          clear hr
          go_wp2_with fail
          go_roundw
          case rel => exact ⟨k + 1, by go_num, by omega, by rw [GN.out]; exact R7.out⟩
          case measure => simp [intOf]; omega
        · obtain rfl : k = n3 := by omega
          have hk3 : ¬ (k : Int) < k := by omega
          have GE : Hid (numsOf p = lk) := Lib.hid (by rw [NN.out, ← LP.out, N3.out, List.take_length])
          clear hr
          go_wp2_with fail
          go_ret
          exact ⟨_, rfl, by rw [GE.out]; exact RK.out.has, BK.out⟩
set_option maxHeartbeats 1000000 in
theorem pputs_at (xs : List Int) (v : Value) (w : World) (h : Has w v (dInts xs)) (hn : xs.length ≤ 1000000) :
    Calls Try.prog 24 #[v] w fun e w' => e = .returned (.string (strB (putsB xs))) ∧ Below w.heap.size w w' := by
  rcases h.ints with ⟨a, cap, rfl, rfl⟩ | ⟨b, off, len, cap, rfl, h1, h2, h3, h4, h5⟩
  · exact puts_none a cap w
  · exact puts_some b off len cap xs w h1 (by omega) h3 h5
end Go.Proofs.Ytcopedhoepblpaa
