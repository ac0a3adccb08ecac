/- Texts put together. -/
import Derived.Test.YtlhclnhdcenkhaaMq03
import Derived.Deep.CutRange
set_option linter.unusedSimpArgs false
set_option linter.unusedVariables false
set_option maxRecDepth 100000
namespace Go.Proofs.Ytlhclnhdcenkhaa
open Go.RowKit Go.PlainAid
theorem Holds.inter {S : Prop} {P : Nat → Prop} {w : World} {v : Value} {d : D} (h : Holds S P w v d) : ∀ {P' : Nat → Prop}, Holds S P' w v d → Holds S (fun q => P q ∧ P' q) w v d := by
 induction h with
 | atom P w v h1 => intro P' _; exact .atom _ _ _ h1
 | nil P w a cap n hop =>
  intro P' h'
  refine .nil _ _ _ _ _ (fun s => ?_)
  rcases hop s with h | ⟨b, e, hp, hb, ho⟩
  ·exact .inl h
  ·generalize hx : D.row n [] = d at h'
   generalize hv : Value.slice a 0 cap = v at h'
   cases h' with
   | atom => cases hx
   | nil _ _ a' cap' n' hop' =>
    cases hx
    simp only [Value.slice.injEq] at hv
    obtain ⟨rfl, _, rfl⟩ := hv
    rcases hop' s with h2 | ⟨b', e', hp', _, _⟩
    ·exact .inl h2
    ·rw [e] at e'
     simp only [Option.some.injEq, Addr.mk.injEq, and_true] at e'
     subst e'
     exact .inr ⟨b, e, ⟨hp, hp'⟩, hb, ho⟩
   | row _ _ _ _ _ _ xs _ _ h0 => cases hx; simp at h0
 | row P w b off cap n xs cs fp h0 hb hc hP hn hcell hrec hfp hb2 hd hop ih =>
  intro P' h'
  generalize hx : D.row n xs = d at h'
  generalize hv : Value.slice (some ⟨b, off, none⟩) xs.length cap = v at h'
  cases h' with
  | atom => cases hx
  | nil => cases hx; simp at h0
  | row _ _ b' off' cap' n' xs' cs' fp' h0' hb' hc' hP' hn' hcell' hrec' hfp' hb2' hd' hop' =>
   cases hx
   simp only [Value.slice.injEq, Option.some.injEq, Addr.mk.injEq, and_true, true_and] at hv
   obtain ⟨⟨rfl, rfl⟩, rfl⟩ := hv
   refine .row _ w b off cap n xs cs (fun i j q => fp i j q ∧ fp' i j q) h0 hb hc ⟨hP, hP'⟩ hn hcell (fun i j ds d h1 h2 => ?_) (fun i j k h => ⟨hfp i j k h.1, hfp' i j k h.2⟩) (fun s i j h => hb2 s i j h.1) (fun s i j i' j' k h h' => hd s i j i' j' k h.1 h'.1) hop
   have hi := lt_of_some h1
   have hj : j < n := by rw [← hn i ds h1]; exact lt_of_some h2
   have e : cs' i j = cs i j := by
    have a1 := hcell i j hi hj
    have a2 := hcell' i j hi hj
    rw [a1] at a2
    exact (Option.some.inj a2).symm
   have g := hrec' i j ds d h1 h2
   rw [e] at g
   exact ih i j ds d h1 h2 g
def LsTold (d : D) (w : World) (e : Ending) (w' : World) : Prop := ∃ a k c, e = .returned (.slice a k c) ∧ Holds True (fun q => w.heap.size ≤ q) w' (.slice a k c) d ∧ Below w.heap.size w w'
set_option maxHeartbeats 8000000 in
theorem ownI_at (xs : List (Int)) (v : Value) (w : World) (h : Has w v (dInts xs)) (hn : xs.length ≤ 1000000) :
  Calls Try.prog 43 #[v] w (LsTold (dInts xs) w) := by
 obtain ⟨i0, hi0, hz0, hs0, hby0⟩ := info_parts infoInt
 obtain ⟨a1, c1, ee⟩ := slice_of h
 subst ee
 obtain ⟨hlen, hnone, news, hnews, hL⟩ := newsOf h (fl_ints xs) (flat_ints xs)
 obtain ⟨k, hk⟩ : ∃ n, n = xs.length := ⟨_, rfl⟩
 rw [← hk] at h hn hlen hnone ⊢
 have HLN := Lib.hid hlen
 have HNO := Lib.hid hnone
 have HNW := Lib.hid hnews
 have HL := Lib.hid (hL True (fun _ => False))
 clear h hk hlen hnone hnews hL
 go_enter Try.func43, Try.ntmps43
 go_wp2_with (at_builtin; refine appLK rfl _ _ 29 3 i0 (.int .i64 0) 1 8 rfl Try.underlying29 hi0 hz0 hs0 hby0 rfl (by decide) (fun _ => False) (fun _ => False) w (Below.refl _ _) (fun _ h => h.elim) none 0 0 [] (xs.map (fun a => [dI a])) k c1 k rfl (.nil _ _ _ _ _) a1 rfl news HNW.out HNO.out (fl_ints xs) HLN.out HL.out (fun _ h => h.elim) (Nat.zero_add _) (by unfold maxLen; omega) (by omega) ?_)
 intro ao cv w1 hH hS hB
 have HH := Lib.hid hH
 have BB := Lib.hid hB
 clear hH hS hB
 go_wp2_with fail
 go_ret
 exact ⟨_, _, _, rfl, HH.out.wide (fun q _ hq => Nat.le_of_eq (Eq.symm (by simpa using hq))), BB.out⟩
set_option maxHeartbeats 8000000 in
theorem ownM_at (xs : List (Int × Int)) (v : Value) (w : World) (h : Has w v (dLinks xs)) (hn : xs.length ≤ 1000000) :
  Calls Try.prog 48 #[v] w (LsTold (dLinks xs) w) := by
 obtain ⟨i0, hi0, hz0, hs0, hby0⟩ := info_parts infoMsgI
 obtain ⟨a1, c1, ee⟩ := slice_of h
 subst ee
 obtain ⟨hlen, hnone, news, hnews, hL⟩ := newsOf h (fl_links xs) (flat_links xs)
 obtain ⟨k, hk⟩ : ∃ n, n = xs.length := ⟨_, rfl⟩
 rw [← hk] at h hn hlen hnone ⊢
 have HLN := Lib.hid hlen
 have HNO := Lib.hid hnone
 have HNW := Lib.hid hnews
 have HL := Lib.hid (hL True (fun _ => False))
 clear h hk hlen hnone hnews hL
 go_enter Try.func48, Try.ntmps48
 go_wp2_with (at_builtin; refine appLK rfl _ _ 57 38 i0 (.agg #[.int .i64 0, .int .i64 0]) 2 16 rfl Try.underlying57 hi0 hz0 hs0 hby0 rfl (by decide) (fun _ => False) (fun _ => False) w (Below.refl _ _) (fun _ h => h.elim) none 0 0 [] (xs.map (fun p => [dI p.1, dI p.2])) k c1 k rfl (.nil _ _ _ _ _) a1 rfl news HNW.out HNO.out (fl_links xs) HLN.out HL.out (fun _ h => h.elim) (Nat.zero_add _) (by unfold maxLen; omega) (by omega) ?_)
 intro ao cv w1 hH hS hB
 have HH := Lib.hid hH
 have BB := Lib.hid hB
 clear hH hS hB
 go_wp2_with fail
 go_ret
 exact ⟨_, _, _, rfl, HH.out.wide (fun q _ hq => Nat.le_of_eq (Eq.symm (by simpa using hq))), BB.out⟩
set_option maxHeartbeats 8000000 in
theorem ownL_at (xs : List (Lks)) (v : Value) (w : World) (h : Has w v (dLls xs)) (hn : xs.length ≤ 1000000) (hm : ∀ m ∈ xs, m.length ≤ 1000000) :
  Calls Try.prog 44 #[v] w (LsTold (dLls xs) w) := by
 obtain ⟨i0, hi0, hz0, hs0, hby0⟩ := info_parts infoMsgsI
 obtain ⟨a1, c1, ee⟩ := slice_of h
 subst ee
 obtain ⟨n, hx⟩ : ∃ n, n = xs.length := ⟨_, rfl⟩
 rw [← hx] at h hn ⊢
 have H := Lib.hid h
 have HX := Lib.hid hx
 have HM := Lib.hid hm
 clear h hx hm
 go_enter Try.func44, Try.ntmps44
 go_wp2_with fail
 go_loopw [3, 8] (fun v i wr => ∃ j : Nat, i = .int .i64 j ∧ j ≤ n ∧ Bld True (fun q => w.heap.size ≤ q) 57 1 w wr.heap.size wr v ((xs.take j).map fun m => [dLinks m])) (fun _ i _ => n - (intOf i).toNat)
 case atStart => exact ⟨0, rfl, by omega, ⟨Own.nil (Below.refl _ _), fun k hk => by simp [Value.ownBlock] at hk⟩⟩
 case round =>
  obtain ⟨j, rfl, hj, hB⟩ := hrel
  obtain ⟨wr1, hw1⟩ : ∃ x, x = wr := ⟨_, rfl⟩
  subst hw1
  have BW := Lib.hid hB.own.bel
  have hwz := hB.own.bel.size
  obtain ⟨va, vc, e⟩ := hB.own.slice
  have hl : ((xs.take j).map fun m => [dLinks m]).length = j := by rw [List.length_map, List.length_take, ← HX.out]; omega
  rw [hl] at e
  subst e
  have LEN := Lib.hid hl
  have HB := Lib.hid hB
  clear hB hl
  by_cases hlt : j < n
  ·have hlt' : (j : Int) < n := by omega
   obtain ⟨x, hx⟩ := some_of_lt (l := xs) (i := j) (by rw [← HX.out]; exact hlt)
   obtain ⟨b, o, ma, mc, e, _, e9, x1, hmx⟩ := lls_at (H.out.later BW.out) hx
   clear e9
   subst e
   obtain ⟨k1, hk1⟩ : ∃ k, k = x.length := ⟨_, rfl⟩
   rw [← hk1] at x1 hmx
   have MX := Lib.hid hmx
   have ML := Lib.hid (HM.out x (List.mem_of_getElem? hx))
   have TK : Hid ((xs.take (j + 1)).map (fun m => [dLinks m]) = (xs.take j).map (fun m => [dLinks m]) ++ [[dLinks x]]) := Lib.hid (by rw [List.take_add_one, hx, List.map_append]; rfl)
   clear hk1 hmx hx
   go_wp2_with fail
   refine (ownM_at x _ _ MX.out ML.out).mono ?_
   rintro e w2 ⟨ua, uk, uc, rfl, hU, hb⟩
   have U := Lib.hid hU
   have HB2 := Lib.hid (HB.out.own.later (below_step' hb (below_new w2 (.cells #[.slice ua uk uc] 57))))
   have LIM : Hid (∀ k, (Value.slice va j vc).ownBlock = some k → k < wr1.heap.size) := Lib.hid (fun k hk => (HB.out.own.ge k hk).2)
   have INP : Hid (∀ k, (Value.slice va j vc).ownBlock = some k → w.heap.size ≤ k) := Lib.hid HB.out.inP
   have hsz2 := hb.size
   clear hU hb x1 HB
   go_wp2_with (at_builtin; refine appL rfl _ _ 23 57 i0 (.slice none 0 0) 1 24 rfl Try.underlying23 hi0 hz0 hs0 hby0 rfl (by decide) True (fun q => w.heap.size ≤ q) w wr1.heap.size _ ((xs.take j).map fun m => [dLinks m]) [[dLinks x]] j 1 1 (j + 1) rfl HB2.out LEN.out (some ⟨w2.heap.size, 0, none⟩) rfl [.slice ua uk uc] news_new (fun e => by cases e) (by intro ds hds; rw [List.mem_singleton] at hds; subst hds; rfl) rfl ?c1 rfl (by unfold maxLen; omega) (by omega) ?_)
   case c1 => exact ⟨rfl, fun j k => j = 0 ∧ wr1.heap.size ≤ k, fun j k hk => ⟨by omega, fun e => by have := LIM.out k e; omega, fun _ => hk.2⟩, fun _ j j' k h h' => h.1.trans h'.1.symm, fun j c d hc hd => by
    match j, hc, hd with
    | 0, hc, hd => simp at hc hd; subst hc hd; exact (U.out.later (below_new w2 _)).wide (fun q _ hq => ⟨rfl, hq⟩)
    | j + 1, hc, hd => simp at hc⟩
   intro ao cv w3 hO hg3 hb3
   have B3 := Lib.hid (Bld.of (w := w2.alloc (.cells #[.slice ua uk uc] 57)) hO INP.out (by rw [size_new]; exact hb3) (by rw [size_new]; omega))
   clear hO hg3 hb3 HB2
   go_wp2_with fail
   go_roundw
   case rel => exact ⟨j + 1, by go_num, by omega, by rw [TK.out, List.map_take]; exact B3.out⟩
   case measure => simp [intOf]; omega
  ·obtain rfl : j = n := by omega
   have hj3 : ¬ (j : Int) < j := by omega
   have HF := Lib.hid HB.out.holds
   go_wp2_with fail
   go_ret
   exact ⟨_, _, _, rfl, by have h := HF.out; rw [List.take_of_length_le (by rw [← HX.out]; exact Nat.le_refl _)] at h; exact h, BW.out⟩
set_option maxHeartbeats 8000000 in
theorem ownO_at (xs : List (List Int)) (v : Value) (w : World) (h : Has w v (dIls xs)) (hn : xs.length ≤ 1000000) (hm : ∀ m ∈ xs, m.length ≤ 1000000) :
  Calls Try.prog 45 #[v] w (LsTold (dIls xs) w) := by
 obtain ⟨i0, hi0, hz0, hs0, hby0⟩ := info_parts infoIntsI
 obtain ⟨a1, c1, ee⟩ := slice_of h
 subst ee
 obtain ⟨n, hx⟩ : ∃ n, n = xs.length := ⟨_, rfl⟩
 rw [← hx] at h hn ⊢
 have H := Lib.hid h
 have HX := Lib.hid hx
 have HM := Lib.hid hm
 clear h hx hm
 go_enter Try.func45, Try.ntmps45
 go_wp2_with fail
 go_loopw [3, 8] (fun v i wr => ∃ j : Nat, i = .int .i64 j ∧ j ≤ n ∧ Bld True (fun q => w.heap.size ≤ q) 29 1 w wr.heap.size wr v ((xs.take j).map fun m => [dInts m])) (fun _ i _ => n - (intOf i).toNat)
 case atStart => exact ⟨0, rfl, by omega, ⟨Own.nil (Below.refl _ _), fun k hk => by simp [Value.ownBlock] at hk⟩⟩
 case round =>
  obtain ⟨j, rfl, hj, hB⟩ := hrel
  obtain ⟨wr1, hw1⟩ : ∃ x, x = wr := ⟨_, rfl⟩
  subst hw1
  have BW := Lib.hid hB.own.bel
  have hwz := hB.own.bel.size
  obtain ⟨va, vc, e⟩ := hB.own.slice
  have hl : ((xs.take j).map fun m => [dInts m]).length = j := by rw [List.length_map, List.length_take, ← HX.out]; omega
  rw [hl] at e
  subst e
  have LEN := Lib.hid hl
  have HB := Lib.hid hB
  clear hB hl
  by_cases hlt : j < n
  ·have hlt' : (j : Int) < n := by omega
   obtain ⟨x, hx⟩ := some_of_lt (l := xs) (i := j) (by rw [← HX.out]; exact hlt)
   obtain ⟨b, o, ma, mc, e, _, e9, x1, hmx⟩ := ils_at (H.out.later BW.out) hx
   clear e9
   subst e
   obtain ⟨k1, hk1⟩ : ∃ k, k = x.length := ⟨_, rfl⟩
   rw [← hk1] at x1 hmx
   have MX := Lib.hid hmx
   have ML := Lib.hid (HM.out x (List.mem_of_getElem? hx))
   have TK : Hid ((xs.take (j + 1)).map (fun m => [dInts m]) = (xs.take j).map (fun m => [dInts m]) ++ [[dInts x]]) := Lib.hid (by rw [List.take_add_one, hx, List.map_append]; rfl)
   clear hk1 hmx hx
   go_wp2_with fail
   refine (ownI_at x _ _ MX.out ML.out).mono ?_
   rintro e w2 ⟨ua, uk, uc, rfl, hU, hb⟩
   have U := Lib.hid hU
   have HB2 := Lib.hid (HB.out.own.later (below_step' hb (below_new w2 (.cells #[.slice ua uk uc] 29))))
   have LIM : Hid (∀ k, (Value.slice va j vc).ownBlock = some k → k < wr1.heap.size) := Lib.hid (fun k hk => (HB.out.own.ge k hk).2)
   have INP : Hid (∀ k, (Value.slice va j vc).ownBlock = some k → w.heap.size ≤ k) := Lib.hid HB.out.inP
   have hsz2 := hb.size
   clear hU hb x1 HB
   go_wp2_with (at_builtin; refine appL rfl _ _ 24 29 i0 (.slice none 0 0) 1 24 rfl Try.underlying24 hi0 hz0 hs0 hby0 rfl (by decide) True (fun q => w.heap.size ≤ q) w wr1.heap.size _ ((xs.take j).map fun m => [dInts m]) [[dInts x]] j 1 1 (j + 1) rfl HB2.out LEN.out (some ⟨w2.heap.size, 0, none⟩) rfl [.slice ua uk uc] news_new (fun e => by cases e) (by intro ds hds; rw [List.mem_singleton] at hds; subst hds; rfl) rfl ?c1 rfl (by unfold maxLen; omega) (by omega) ?_)
   case c1 => exact ⟨rfl, fun j k => j = 0 ∧ wr1.heap.size ≤ k, fun j k hk => ⟨by omega, fun e => by have := LIM.out k e; omega, fun _ => hk.2⟩, fun _ j j' k h h' => h.1.trans h'.1.symm, fun j c d hc hd => by
    match j, hc, hd with
    | 0, hc, hd => simp at hc hd; subst hc hd; exact (U.out.later (below_new w2 _)).wide (fun q _ hq => ⟨rfl, hq⟩)
    | j + 1, hc, hd => simp at hc⟩
   intro ao cv w3 hO hg3 hb3
   have B3 := Lib.hid (Bld.of (w := w2.alloc (.cells #[.slice ua uk uc] 29)) hO INP.out (by rw [size_new]; exact hb3) (by rw [size_new]; omega))
   clear hO hg3 hb3 HB2
   go_wp2_with fail
   go_roundw
   case rel => exact ⟨j + 1, by go_num, by omega, by rw [TK.out, List.map_take]; exact B3.out⟩
   case measure => simp [intOf]; omega
  ·obtain rfl : j = n := by omega
   have hj3 : ¬ (j : Int) < j := by omega
   have HF := Lib.hid HB.out.holds
   go_wp2_with fail
   go_ret
   exact ⟨_, _, _, rfl, by have h := HF.out; rw [List.take_of_length_le (by rw [← HX.out]; exact Nat.le_refl _)] at h; exact h, BW.out⟩
def dOf (p : Pc) (g : Nat) : D := if g = 2 then dInts p.sent else if g = 5 then dLls p.inn else dIls p.out
def phiO (p : Pc) (y : World) (x1 x2 x3 x9 : Value) (g : Nat) (v : Value) (w : World) : Prop := if g = 1 then v = x1 else if g = 4 then v = x2 else if g = 7 then v = x3 else if g = 9 then v = x9 else ∃ a k c, v = .slice a k c ∧ Holds True (fun q => y.heap.size ≤ q) w v (dOf p g)
theorem phiO_mono {p : Pc} {y : World} {x1 x2 x3 x9 : Value} {g : Nat} {v : Value} {w w' : World} (h : phiO p y x1 x2 x3 x9 g v w) (hb : Below w.heap.size w w') : phiO p y x1 x2 x3 x9 g v w' := by
 unfold phiO at *
 split
 ·next e => rw [if_pos e] at h; exact h
 ·next e =>
  rw [if_neg e] at h
  split
  ·next e => rw [if_pos e] at h; exact h
  ·next e =>
   rw [if_neg e] at h
   split
   ·next e => rw [if_pos e] at h; exact h
   ·next e =>
    rw [if_neg e] at h
    split
    ·next e => rw [if_pos e] at h; exact h
    ·next e =>
     rw [if_neg e] at h
     obtain ⟨a, k, c, e, h⟩ := h
     exact ⟨a, k, c, e, h.later hb⟩
theorem phiO_call {p : Pc} {y : World} {x1 x2 x3 x9 : Value} {g : Nat} {v : Value} {w : World} (hg : g ≠ 1 ∧ g ≠ 4 ∧ g ≠ 7 ∧ g ≠ 9) : phiO p y x1 x2 x3 x9 g v w ↔ ∃ a k c, v = .slice a k c ∧ Holds True (fun q => y.heap.size ≤ q) w v (dOf p g) := by unfold phiO; rw [if_neg hg.1, if_neg hg.2.1, if_neg hg.2.2.1, if_neg hg.2.2.2]
def isC (g : Nat) : Prop := g ≠ 1 ∧ g ≠ 4 ∧ g ≠ 7 ∧ g ≠ 9
def psiX (p : Pc) (g h : Nat) (v u : Value) (w : World) : Prop := isC g → isC h → ∃ P Q : Nat → Prop, (∀ q, P q → ¬ Q q) ∧ Holds True P w v (dOf p g) ∧ Holds True Q w u (dOf p h)
theorem psiX_mono {p : Pc} {g h : Nat} {v u : Value} {w w' : World} (hh : psiX p g h v u w) (hb : Below w.heap.size w w') : psiX p g h v u w' := fun a b => by
 obtain ⟨P, Q, h1, h2, h3⟩ := hh a b
 exact ⟨P, Q, h1, h2.later hb, h3.later hb⟩
def psiO (p : Pc) (g h : Nat) (v u : Value) (w : World) : Prop := ∃ P Q : Nat → Prop, (∀ q, P q → ¬ Q q) ∧ Holds True P w v (dOf p g) ∧ Holds True Q w u (dOf p h)
theorem psiO_sym {p : Pc} {g h : Nat} {v u : Value} {w : World} (hh : psiO p g h v u w) : psiO p h g u v w := by
 obtain ⟨P, Q, h1, h2, h3⟩ := hh
 exact ⟨Q, P, fun q hq hp => h1 q hp hq, h3, h2⟩
/-- Three parts that are apart two by two are apart at once. -/
theorem three_apart {w : World} {B : Nat} {v1 v2 v3 : Value} {p : Pc} (h1 : Holds True (fun q => B ≤ q) w v1 (dInts p.sent)) (h2 : Holds True (fun q => B ≤ q) w v2 (dLls p.inn)) (h3 : Holds True (fun q => B ≤ q) w v3 (dIls p.out))
  (a : psiO p 2 5 v1 v2 w) (b : psiO p 2 8 v1 v3 w) (c : psiO p 5 8 v2 v3 w) : HoldsL True (fun q => B ≤ q) w [v1, v2, v3] p.d := by
 obtain ⟨P1, P2, hd1, g1, g2⟩ := a
 obtain ⟨Q1, Q3, hd2, k1, k3⟩ := b
 obtain ⟨R2, R3, hd3, m2, m3⟩ := c
 have x1 := (h1.inter g1).inter k1
 have x2 := (h2.inter g2).inter m2
 have x3 := (h3.inter k3).inter m3
 refine holdsL_of (fun j k => (j = 0 ∧ (B ≤ k ∧ P1 k) ∧ Q1 k) ∨ (j = 1 ∧ (B ≤ k ∧ P2 k) ∧ R2 k) ∨ (j = 2 ∧ (B ≤ k ∧ Q3 k) ∧ R3 k)) rfl (fun j c d hc hd => ?_) (fun i j k hij hi hj => ?_) (fun j k hk => ?_)
 ·match j, hc, hd with
  | 0, hc, hd => simp [Pc.d] at hc hd; subst hc hd; exact x1.wide (fun k _ hk => .inl ⟨rfl, hk⟩)
  | 1, hc, hd => simp [Pc.d] at hc hd; subst hc hd; exact x2.wide (fun k _ hk => .inr (.inl ⟨rfl, hk⟩))
  | 2, hc, hd => simp [Pc.d] at hc hd; subst hc hd; exact x3.wide (fun k _ hk => .inr (.inr ⟨rfl, hk⟩))
  | j + 3, hc, hd => simp at hc
 ·rcases hi with ⟨e, hi⟩ | ⟨e, hi⟩ | ⟨e, hi⟩ <;> rcases hj with ⟨e', hj⟩ | ⟨e', hj⟩ | ⟨e', hj⟩ <;> first | omega | exact hd1 k hi.1.2 hj.1.2 | exact hd2 k hi.2 hj.1.2 | exact hd3 k hi.2 hj.2
 ·rcases hk with ⟨_, hk⟩ | ⟨_, hk⟩ | ⟨_, hk⟩ <;> exact hk.1.1
def OwnTold (p : Pc) (w : World) (e : Ending) (w' : World) : Prop := ∃ v1 v2 v3, e = .returned (pcv p v1 v2 v3) ∧ HoldsL True (fun q => w.heap.size ≤ q) w' [v1, v2, v3] p.d ∧ Below w.heap.size w w'
set_option maxHeartbeats 8000000 in
theorem own_at (p : Pc) (v1 v2 v3 : Value) (w : World) (h : HasL w [v1, v2, v3] p.d) (hs : SmallPc p) :
  Calls Try.prog 37 #[pcv p v1 v2 v3] w (OwnTold p w) := by
 obtain ⟨a1, a2, a3, n1, n2, n3, e1, e2, e3, ee1, ee2, ee3⟩ := pc_slices h
 subst ee1
 subst ee2
 subst ee3
 obtain ⟨c1, c2, c3⟩ := pc_has h
 have C1 := Lib.hid c1
 have C2 := Lib.hid c2
 have C3 := Lib.hid c3
 have HS := Lib.hid hs
 clear h c1 c2 c3 hs
 obtain ⟨m0, hm0⟩ : ∃ m, m = p.node := ⟨_, rfl⟩
 obtain ⟨m1, hm1⟩ : ∃ m, m = p.state := ⟨_, rfl⟩
 obtain ⟨m2, hm2⟩ : ∃ m, m = p.steps := ⟨_, rfl⟩
 have PQ : Hid (∀ x y z, pcv p x y z = .agg #[.int .i64 m0, .int .i64 m1, .int .i64 m2, x, y, z]) := Lib.hid (fun x y z => by rw [hm0, hm1, hm2])
 unfold pcv
 rw [← hm0, ← hm1, ← hm2]
 clear hm0 hm1 hm2
 go_enter Try.func37, Try.ntmps37
 try simp only [List.append_eq, List.cons_append, List.nil_append]
 go_upto_region 1 with fail
 obtain ⟨bc, hbc⟩ : ∃ b, b = w.heap.size := ⟨_, rfl⟩
 obtain ⟨br, hbr⟩ : ∃ b, b = w.heap.size + 1 := ⟨_, rfl⟩
 obtain ⟨y0, hy0⟩ : ∃ y, y = (w.alloc (.cells #[.int .i64 m0, .int .i64 m1, .int .i64 m2, .slice a1 n1 e1, .slice a2 n2 e2, .slice a3 n3 e3] 31)).alloc (.cells #[.int .i64 0, .int .i64 0, .int .i64 0, .slice none 0 0, .slice none 0 0, .slice none 0 0] 31) := ⟨_, rfl⟩
 have hb0 : Below w.heap.size w y0 := by rw [hy0]; exact below_step' (below_new _ _) (below_new _ _)
 have hx0 : BoxAt bc [.int .i64 m0, .int .i64 m1, .int .i64 m2, .slice a1 n1 e1, .slice a2 n2 e2, .slice a3 n3 e3] y0 := by rw [hbc, hy0]; exact (boxAt_new w [.int .i64 m0, .int .i64 m1, .int .i64 m2, .slice a1 n1 e1, .slice a2 n2 e2, .slice a3 n3 e3] _).below (below_new _ _)
 have hx1 : BoxAt br [.int .i64 0, .int .i64 0, .int .i64 0, .slice none 0 0, .slice none 0 0, .slice none 0 0] y0 := by
  have h := boxAt_new (w.alloc (.cells #[.int .i64 m0, .int .i64 m1, .int .i64 m2, .slice a1 n1 e1, .slice a2 n2 e2, .slice a3 n3 e3] 31)) [.int .i64 0, .int .i64 0, .int .i64 0, .slice none 0 0, .slice none 0 0, .slice none 0 0] 31
  rw [size_new] at h
  rw [hbr, hy0]; exact h
 have hfc : ∀ i, y0.frozen? ⟨bc, i, none⟩ = false := fun i => by
  rw [hy0, World.frozen?_of_block (w := w.alloc (.cells #[.int .i64 m0, .int .i64 m1, .int .i64 m2, .slice a1 n1 e1, .slice a2 n2 e2, .slice a3 n3 e3] 31)) ((below_new _ _).block bc (by rw [size_new, hbc]; omega)), hbc]; exact frozen_new w _ _ i
 have hfr : ∀ i, y0.frozen? ⟨br, i, none⟩ = false := fun i => by
  have h := frozen_new (w.alloc (.cells #[.int .i64 m0, .int .i64 m1, .int .i64 m2, .slice a1 n1 e1, .slice a2 n2 e2, .slice a3 n3 e3] 31)) #[.int .i64 0, .int .i64 0, .int .i64 0, .slice none 0 0, .slice none 0 0, .slice none 0 0] 31 i
  rw [size_new] at h
  rw [hbr, hy0]; exact h
 have hsz : y0.heap.size = w.heap.size + 1 + 1 := by rw [hy0, size_new, size_new]
 have hrr : bc < y0.heap.size ∧ br < y0.heap.size ∧ w.heap.size ≤ bc ∧ w.heap.size ≤ br ∧ bc ≠ br := by omega
 rw [← hy0]
 simp only [← hbr]
 simp only [← hbc]
 have B0 := Lib.hid hb0
 have K0 := Lib.hid hx0
 have K1 := Lib.hid hx1
 have FC := Lib.hid hfc
 have FR := Lib.hid hfr
 have RR := Lib.hid hrr
 clear hy0 hb0 hx0 hx1 hfc hfr hsz hrr hbc hbr
 refine wp_region_held_drew (S := fun _ => True) (by kernel_rfl) ?_ (fun hHeld => ?_)
 ·exact trivial
 obtain ⟨yb, hyb⟩ : ∃ y, y = y0.drew := ⟨_, rfl⟩
 rw [← hyb]
 have BYb : Hid (Below y0.heap.size y0 yb) := Lib.hid (by rw [hyb]; exact below_drewN (Below.refl _ y0) 1)
 clear hyb
 refine tq 0 ?_
 refine tq 3 ?_
 refine tq 6 ?_
 refine wpAnyH_group (n := 5) [1, 4, 7, 2, 5, 8, 9] 10 (phiO p yb (.slice a1 n1 e1) (.slice a2 n2 e2) (.slice a3 n3 e3) (.pointer (some ⟨bc, 3, none⟩))) (psiX p) (by kernel_rfl) (by kernel_rfl) (by kernel_rfl) (by kernel_rfl) (by kernel_rfl) (fun _ _ _ _ h hb => phiO_mono h hb) (fun _ _ _ _ _ _ h hb => psiX_mono h hb) ?step hHeld ?fin
 case step =>
  intro g hg o ho D vs a wx hD hgD hφ hψ hSx hbx hfr hdep K hK
  have BX := below_step' BYb.out hbx
  have BWX := below_step' B0.out BX
  have hwz := hbx.size
  simp only [List.mem_cons, List.not_mem_nil, or_false] at hg
  have PS : ∀ (g : Nat) (v : Value) (w' : World), Holds True (fun q => wx.heap.size ≤ q) w' v (dOf p g) → Below wx.heap.size wx w' → ∀ h ∈ D, psiX p g h v (vs h) w' := fun g v w' hv hb h hh _ hc => by
   obtain ⟨_, _, _, _, hu⟩ := (phiO_call hc).1 (hφ h hh)
   exact ⟨_, _, fun q h1 h2 => absurd h2.2 (Nat.not_lt.2 h1), hv, (hu.wide (P' := fun q => yb.heap.size ≤ q ∧ q < wx.heap.size) (fun q hq hq2 => ⟨hq2, hq⟩)).later hb⟩
  rcases hg with rfl | rfl | rfl | rfl | rfl | rfl | rfl
  ·obtain rfl := Option.some.inj (show some _ = some o from ho)
   have t3 : a.tmps[3]? = _ := (hfr 3 (by decide)).trans rfl
   have kc := K0.out.below BX 3 _ rfl
   clear hψ hφ hdep hfr
   go_simp
   exact hK.out _ _ trivial (by unfold phiO; simp) (fun h _ hc => absurd rfl hc.1) (Below.refl _ _)
  ·obtain rfl := Option.some.inj (show some _ = some o from ho)
   have t6 : a.tmps[6]? = _ := (hfr 6 (by decide)).trans rfl
   have kc := K0.out.below BX 4 _ rfl
   clear hψ hφ hdep hfr
   go_simp
   exact hK.out _ _ trivial (by unfold phiO; simp) (fun h _ hc => absurd rfl hc.2.1) (Below.refl _ _)
  ·obtain rfl := Option.some.inj (show some _ = some o from ho)
   have t9 : a.tmps[9]? = _ := (hfr 9 (by decide)).trans rfl
   have kc := K0.out.below BX 5 _ rfl
   clear hψ hφ hdep hfr
   go_simp
   exact hK.out _ _ trivial (by unfold phiO; simp) (fun h _ hc => absurd rfl hc.2.2.1) (Below.refl _ _)
  ·obtain rfl := Option.some.inj (show some _ = some o from ho)
   obtain ⟨hd, dd⟩ := hdep 1 (by simp) (ahead_mem (by kernel_rfl))
   have fd : vs 1 = .slice a1 n1 e1 := by have h := hφ 1 hd; unfold phiO at h; simpa using h
   have td := dd 4 rfl
   rw [fd] at td
   clear hψ hdep hfr dd fd
   go_simp
   refine (ownI_at _ _ _ (C1.out.later BWX) HS.out.s).mono ?_
   rintro e w' ⟨ua, uk, uc, rfl, hU, hb⟩
   exact hK.out _ _ trivial ((phiO_call (by decide)).2 ⟨_, _, _, rfl, hU.wide (fun q _ (hq : wx.heap.size ≤ q) => Nat.le_trans hwz hq)⟩) (PS 2 _ _ hU hb) hb
  ·obtain rfl := Option.some.inj (show some _ = some o from ho)
   obtain ⟨hd, dd⟩ := hdep 4 (by simp) (ahead_mem (by kernel_rfl))
   have fd : vs 4 = .slice a2 n2 e2 := by have h := hφ 4 hd; unfold phiO at h; simpa using h
   have td := dd 7 rfl
   rw [fd] at td
   clear hψ hdep hfr dd fd
   go_simp
   refine (ownL_at _ _ _ (C2.out.later BWX) HS.out.i HS.out.im).mono ?_
   rintro e w' ⟨ua, uk, uc, rfl, hU, hb⟩
   exact hK.out _ _ trivial ((phiO_call (by decide)).2 ⟨_, _, _, rfl, hU.wide (fun q _ (hq : wx.heap.size ≤ q) => Nat.le_trans hwz hq)⟩) (PS 5 _ _ hU hb) hb
  ·obtain rfl := Option.some.inj (show some _ = some o from ho)
   obtain ⟨hd, dd⟩ := hdep 7 (by simp) (ahead_mem (by kernel_rfl))
   have fd : vs 7 = .slice a3 n3 e3 := by have h := hφ 7 hd; unfold phiO at h; simpa using h
   have td := dd 10 rfl
   rw [fd] at td
   clear hψ hdep hfr dd fd
   go_simp
   refine (ownO_at _ _ _ (C3.out.later BWX) HS.out.o HS.out.om).mono ?_
   rintro e w' ⟨ua, uk, uc, rfl, hU, hb⟩
   exact hK.out _ _ trivial ((phiO_call (by decide)).2 ⟨_, _, _, rfl, hU.wide (fun q _ (hq : wx.heap.size ≤ q) => Nat.le_trans hwz hq)⟩) (PS 8 _ _ hU hb) hb
  ·obtain rfl := Option.some.inj (show some _ = some o from ho)
   have t1 : a.tmps[1]? = _ := (hfr 1 (by decide)).trans rfl
   clear hψ hφ hdep hfr
   go_simp
   exact hK.out _ _ trivial (by unfold phiO; simp) (fun h _ hc => absurd rfl hc.2.2.2) (Below.refl _ _)
 case fin =>
  intro vs wx hSx hbx hφ hψ
  obtain ⟨u1, k1, f1, q1, g1⟩ := (phiO_call (by decide)).1 (hφ 2 (by simp))
  obtain ⟨u2, k2, f2, q2, g2⟩ := (phiO_call (by decide)).1 (hφ 5 (by simp))
  obtain ⟨u3, k3, f3, q3, g3⟩ := (phiO_call (by decide)).1 (hφ 8 (by simp))
  have s12 : psiO p 2 5 (vs 2) (vs 5) wx := (hψ 2 (by simp) 5 (by simp) (by decide)).elim (fun h => h (by unfold isC; decide) (by unfold isC; decide)) (fun h => psiO_sym (h (by unfold isC; decide) (by unfold isC; decide)))
  have s13 : psiO p 2 8 (vs 2) (vs 8) wx := (hψ 2 (by simp) 8 (by simp) (by decide)).elim (fun h => h (by unfold isC; decide) (by unfold isC; decide)) (fun h => psiO_sym (h (by unfold isC; decide) (by unfold isC; decide)))
  have s23 : psiO p 5 8 (vs 5) (vs 8) wx := (hψ 5 (by simp) 8 (by simp) (by decide)).elim (fun h => h (by unfold isC; decide) (by unfold isC; decide)) (fun h => psiO_sym (h (by unfold isC; decide) (by unfold isC; decide)))
  have HL := Lib.hid (three_apart (p := p) (B := yb.heap.size) g1 g2 g3 s12 s13 s23)
  rw [q1, q2, q3] at HL
  have BX := Lib.hid (below_step' BYb.out hbx)
  have l1 : vs 1 = .slice a1 n1 e1 := by have h := hφ 1 (by simp); unfold phiO at h; simpa using h
  have l2 : vs 4 = .slice a2 n2 e2 := by have h := hφ 4 (by simp); unfold phiO at h; simpa using h
  have l3 : vs 7 = .slice a3 n3 e3 := by have h := hφ 7 (by simp); unfold phiO at h; simpa using h
  have l9 : vs 9 = .pointer (some ⟨bc, 3, none⟩) := by have h := hφ 9 (by simp); unfold phiO at h; simpa using h
  change wpAnyH _ _ _ _ _ _ _ ((((((((_ : Act).put (some 4) (vs 1)).put (some 7) (vs 4)).put (some 10) (vs 7)).put (some 5) (vs 2)).put (some 8) (vs 5)).put (some 11) (vs 8)).put (some 12) (vs 9)) _
  rw [l1, l2, l3, q1, q2, q3, l9]
  try simp only [Act.put, List.getElem_toArray, List.getElem_cons_zero, List.getElem_cons_succ, List.setIfInBounds_toArray, List.set_cons_zero, List.set_cons_succ]
  clear hφ hψ g1 g2 g3 s12 s13 s23 l1 l2 l3 l9 q1 q2 q3
  have z0 := K0.out.below BX.out 0 _ rfl
  have z1 := K0.out.below BX.out 1 _ rfl
  have z2 := K0.out.below BX.out 2 _ rfl
  have z3 := K0.out.below BX.out 3 _ rfl
  have z4 := K0.out.below BX.out 4 _ rfl
  have z5 := K0.out.below BX.out 5 _ rfl
  have fz : ∀ i, wx.frozen? ⟨bc, i, none⟩ = false := fun i => (BX.out.frozen (p := ⟨bc, i, none⟩) RR.out.1).trans (FC.out i)
  have f3z := fz 3
  have f4z := fz 4
  have f5z := fz 5
  clear fz
  refine rd 10 fun K hK => ?_
  go_simp
  refine hK.out _ _ ?_ (fun hHeld => ?_)
  ·exact trivial
  clear hK K
  refine tq 11 ?_
  refine rd 12 fun K hK => ?_
  go_simp
  refine hK.out _ _ ?_ (fun hHeld => ?_)
  ·exact trivial
  clear hK K
  refine tq 13 ?_
  refine rd 14 fun K hK => ?_
  go_simp
  refine hK.out _ _ ?_ (fun hHeld => ?_)
  ·exact trivial
  clear hK K
  refine wpAnyH_done (by kernel_rfl) ?_ _
  have g3 := set_far (b := bc) (o := 5) (v := .slice u3 k3 f3) (a := ⟨bc, 3, none⟩) (.inr (by simp)) (set_far (b := bc) (o := 4) (v := .slice u2 k2 f2) (a := ⟨bc, 3, none⟩) (.inr (by simp)) (set_at (v := .slice u1 k1 f1) z3))
  have g4 := set_far (b := bc) (o := 5) (v := .slice u3 k3 f3) (a := ⟨bc, 4, none⟩) (.inr (by simp)) (set_at (v := .slice u2 k2 f2) (set_far (b := bc) (o := 3) (v := .slice u1 k1 f1) (a := ⟨bc, 4, none⟩) (.inr (by simp)) z4))
  have g5 := set_at (v := .slice u3 k3 f3) (set_far (b := bc) (o := 4) (v := .slice u2 k2 f2) (a := ⟨bc, 5, none⟩) (.inr (by simp)) (set_far (b := bc) (o := 3) (v := .slice u1 k1 f1) (a := ⟨bc, 5, none⟩) (.inr (by simp)) z5))
  have far : ∀ (i : Nat) (v : Value), i ≠ 3 → i ≠ 4 → i ≠ 5 → wx.cell? ⟨bc, i, none⟩ = some v → (((wx.setCell ⟨bc, 3, none⟩ (.slice u1 k1 f1)).setCell ⟨bc, 4, none⟩ (.slice u2 k2 f2)).setCell ⟨bc, 5, none⟩ (.slice u3 k3 f3)).cell? ⟨bc, i, none⟩ = some v := fun i v h3 h4 h5 h => set_far (.inr (Ne.symm h5)) (set_far (.inr (Ne.symm h4)) (set_far (.inr (Ne.symm h3)) h))
  have g0 := far 0 _ (by decide) (by decide) (by decide) z0
  have g1 := far 1 _ (by decide) (by decide) (by decide) z1
  have g2 := far 2 _ (by decide) (by decide) (by decide) z2
  have hbr : ∀ (i : Nat) (v : Value), wx.cell? ⟨br, i, none⟩ = some v → (((wx.setCell ⟨bc, 3, none⟩ (.slice u1 k1 f1)).setCell ⟨bc, 4, none⟩ (.slice u2 k2 f2)).setCell ⟨bc, 5, none⟩ (.slice u3 k3 f3)).cell? ⟨br, i, none⟩ = some v := fun i v h => set_far (.inl RR.out.2.2.2.2) (set_far (.inl RR.out.2.2.2.2) (set_far (.inl RR.out.2.2.2.2) h))
  have r0 := hbr 0 _ (K1.out.below BX.out 0 _ rfl)
  have r1 := hbr 1 _ (K1.out.below BX.out 1 _ rfl)
  have r2 := hbr 2 _ (K1.out.below BX.out 2 _ rfl)
  have r3 := hbr 3 _ (K1.out.below BX.out 3 _ rfl)
  have r4 := hbr 4 _ (K1.out.below BX.out 4 _ rfl)
  have r5 := hbr 5 _ (K1.out.below BX.out 5 _ rfl)
  have fzr : ∀ i, (((wx.setCell ⟨bc, 3, none⟩ (.slice u1 k1 f1)).setCell ⟨bc, 4, none⟩ (.slice u2 k2 f2)).setCell ⟨bc, 5, none⟩ (.slice u3 k3 f3)).frozen? ⟨br, i, none⟩ = false := fun i => by
   rw [World.frozen?_setCell, World.frozen?_setCell, World.frozen?_setCell]; exact (BX.out.frozen (p := ⟨br, i, none⟩) RR.out.2.1).trans (FR.out i)
  have fr0 := fzr 0
  have fr1 := fzr 1
  have fr2 := fzr 2
  have fr3 := fzr 3
  have fr4 := fzr 4
  have fr5 := fzr 5
  have HLn : Hid (HoldsL True (fun q => yb.heap.size ≤ q) (((wx.setCell ⟨bc, 3, none⟩ (.slice u1 k1 f1)).setCell ⟨bc, 4, none⟩ (.slice u2 k2 f2)).setCell ⟨bc, 5, none⟩ (.slice u3 k3 f3)) [.slice u1 k1 f1, .slice u2 k2 f2, .slice u3 k3 f3] p.d) := Lib.hid (HL.out.same ((((SameOn.refl _ _).set _ _ (fun (h : yb.heap.size ≤ bc) => by have := RR.out.1; have := BYb.out.size; omega)).set _ _ (fun (h : yb.heap.size ≤ bc) => by have := RR.out.1; have := BYb.out.size; omega)).set _ _ (fun (h : yb.heap.size ≤ bc) => by have := RR.out.1; have := BYb.out.size; omega)))
  have BN : Hid (Below w.heap.size w (((wx.setCell ⟨bc, 3, none⟩ (.slice u1 k1 f1)).setCell ⟨bc, 4, none⟩ (.slice u2 k2 f2)).setCell ⟨bc, 5, none⟩ (.slice u3 k3 f3))) := Lib.hid ((((below_step' B0.out BX.out).setCell RR.out.2.2.1 _).setCell RR.out.2.2.1 _).setCell RR.out.2.2.1 _)
  obtain ⟨wn, hwn⟩ : ∃ x, x = ((wx.setCell ⟨bc, 3, none⟩ (.slice u1 k1 f1)).setCell ⟨bc, 4, none⟩ (.slice u2 k2 f2)).setCell ⟨bc, 5, none⟩ (.slice u3 k3 f3) := ⟨_, rfl⟩
  rw [← hwn] at g0 g1 g2 g3 g4 g5 r0 r1 r2 r3 r4 r5 fr0 fr1 fr2 fr3 fr4 fr5 HLn BN ⊢
  clear hwn z0 z1 z2 z3 z4 z5 f3z f4z f5z far hbr fzr hSx hHeld hbx
  have HB := Lib.hid (set6_at (w := wn) (b := br) (x0 := .int .i64 m0) (x1 := .int .i64 m1) (x2 := .int .i64 m2) (x3 := .slice u1 k1 f1) (x4 := .slice u2 k2 f2) (x5 := .slice u3 k3 f3) (fun i hi => by
   match i, hi with
   | 0, _ => exact ⟨_, r0⟩
   | 1, _ => exact ⟨_, r1⟩
   | 2, _ => exact ⟨_, r2⟩
   | 3, _ => exact ⟨_, r3⟩
   | 4, _ => exact ⟨_, r4⟩
   | 5, _ => exact ⟨_, r5⟩))
  have RES : Hid (OwnTold p w (.returned (.agg #[.int .i64 m0, .int .i64 m1, .int .i64 m2, .slice u1 k1 f1, .slice u2 k2 f2, .slice u3 k3 f3])) (set6 wn br (.int .i64 m0) (.int .i64 m1) (.int .i64 m2) (.slice u1 k1 f1) (.slice u2 k2 f2) (.slice u3 k3 f3))) := Lib.hid
   ⟨_, _, _, by rw [PQ.out], (HLn.out.same (set6_same (fun (h : yb.heap.size ≤ br) => by have := RR.out.2.1; have := BYb.out.size; omega))).wide (fun q _ (h : yb.heap.size ≤ q) => Nat.le_trans (Nat.le_trans B0.out.size BYb.out.size) h), set6_below BN.out RR.out.2.2.2.1⟩
  go_wp2_with fail
  have d0 := HB.out 0 _ rfl
  have d1 := HB.out 1 _ rfl
  have d2 := HB.out 2 _ rfl
  have d3 := HB.out 3 _ rfl
  have d4 := HB.out 4 _ rfl
  have d5 := HB.out 5 _ rfl
  exact bodyPost_ret (v := .agg #[.int .i64 m0, .int .i64 m1, .int .i64 m2, .slice u1 k1 f1, .slice u2 k2 f2, .slice u3 k3 f3]) (by simp [results, Try.results37, go_sem, d0, d1, d2, d3, d4, d5]) rfl RES.out
end Go.Proofs.Ytlhclnhdcenkhaa

set_option linter.unusedSimpArgs false
set_option linter.unusedVariables false
set_option maxRecDepth 100000
namespace Go.Proofs.Ytlhclnhdcenkhaa
open Go.RowKit Go.PlainAid
theorem boxAt_set' {w : World} {b j : Nat} {u : Value} {vs : List Value} (h : BoxAt b vs w) (hj : j < vs.length) : BoxAt b (vs.set j u) (w.setCell ⟨b, j, none⟩ u) := by
 intro i v e
 rw [List.getElem?_set] at e
 split at e
 ·next hij =>
  subst hij
  have e2 : u = v := by simpa [hj] using e
  subst e2
  exact set_at (h j _ (List.getElem?_eq_getElem hj))
 ·next hij => exact set_far (.inr hij) (h i v e)
theorem box_set6 {w : World} {b : Nat} {u0 u1 u2 u3 u4 u5 x0 x1 x2 x3 x4 x5 : Value} (h : BoxAt b [u0, u1, u2, u3, u4, u5] w) : BoxAt b [x0, x1, x2, x3, x4, x5] (set6 w b x0 x1 x2 x3 x4 x5) := set6_at (fun i hi => by
 match i, hi with
 | 0, _ => exact ⟨_, h 0 _ rfl⟩
 | 1, _ => exact ⟨_, h 1 _ rfl⟩
 | 2, _ => exact ⟨_, h 2 _ rfl⟩
 | 3, _ => exact ⟨_, h 3 _ rfl⟩
 | 4, _ => exact ⟨_, h 4 _ rfl⟩
 | 5, _ => exact ⟨_, h 5 _ rfl⟩)
theorem ref_at (p : Pc) (v1 v2 v3 : Value) (w : World) (hs : ∃ (a1 a2 a3 : Option Addr) (n1 n2 n3 e1 e2 e3 : Nat), v1 = .slice a1 n1 e1 ∧ v2 = .slice a2 n2 e2 ∧ v3 = .slice a3 n3 e3) :
  Calls Try.prog 31 #[pcv p v1 v2 v3] w fun e w' => e = .returned (pcv p v1 v2 v3) ∧ Below w.heap.size w w' := by
 obtain ⟨a1, a2, a3, n1, n2, n3, e1, e2, e3, ee1, ee2, ee3⟩ := hs
 subst ee1
 subst ee2
 subst ee3
 obtain ⟨m0, hm0⟩ : ∃ m, m = p.node := ⟨_, rfl⟩
 obtain ⟨m1, hm1⟩ : ∃ m, m = p.state := ⟨_, rfl⟩
 obtain ⟨m2, hm2⟩ : ∃ m, m = p.steps := ⟨_, rfl⟩
 unfold pcv
 rw [← hm0, ← hm1, ← hm2]
 clear hm0 hm1 hm2
 go_enter Try.func31, Try.ntmps31
 go_wp2_with fail
 exact bodyPost_ret (v := .agg #[.int .i64 m0, .int .i64 m1, .int .i64 m2, .slice a1 n1 e1, .slice a2 n2 e2, .slice a3 n3 e3]) (by simp [results, Try.results31, go_sem]) rfl ⟨rfl, below_step' (below_step' (Below.refl _ _) (below_new _ _)) (by first | exact below_new _ _ | skip)⟩
/-- The copy under way: its box, one field of it being filled. -/
structure CutB (yb w9 : World) (p j : Nat) (E : TypeId) (us : List Value) (v : Value) (xs : List (List D)) (wr : World) : Prop where
 oth : ∀ (i : Nat) (u : Value), us[i]? = some u → i ≠ j → wr.cell? ⟨p, i, none⟩ = some u
 frz : ∀ i, wr.frozen? ⟨p, i, none⟩ = false
 f : Fld False (fun q => w9.heap.size ≤ q) E 1 yb wr p j v xs
 s : SameOn (fun q => q < w9.heap.size ∧ q ≠ p) w9 wr
theorem CutB.push {yb w9 : World} {p j : Nat} {E : TypeId} {us : List Value} {v v' : Value} {xs : List (List D)} {d : List D} {wr w5 w6 : World} (h : CutB yb w9 p j E us v xs wr) (hp : p < w9.heap.size) (hb : Below wr.heap.size wr w5)
  (hO : Own False (fun q => w9.heap.size ≤ q) E 1 yb w6.heap.size w6 v' (xs ++ [d])) (hg : w5.grownBy w6 v.ownBlock) (hv : v'.ownBlock = v.ownBlock ∨ v'.ownBlock = some w5.heap.size) :
  CutB yb w9 p j E us v' (xs ++ [d]) (w6.setCell ⟨p, j, none⟩ v') ∧ w6.cell? ⟨p, j, none⟩ = some v ∧ w6.frozen? ⟨p, j, none⟩ = false ∧ (∀ (c : Addr) (u : Value), w5.cell? c = some u → c.block < w9.heap.size → w6.cell? c = some u ∧ (c.block ≠ p → (w6.setCell ⟨p, j, none⟩ v').cell? c = some u)) := by
 have hs := h.s.1
 obtain ⟨a1, a2, a3, a4, a5, a6, a7⟩ := h.f.push hb hO hg hv (Nat.le_trans hs hb.size)
 have hne : ∀ k, k < w9.heap.size → v.ownBlock ≠ some k := fun k hk e => by
  have h1 : w9.heap.size ≤ k := h.f.bld.inP k e
  omega
 have e1 := h.s
 have e2 := a5 (fun q => q < w9.heap.size ∧ q ≠ p) (fun q (hq : q < w9.heap.size ∧ q ≠ p) => Nat.not_le.2 hq.1) (fun hq => hq.2 rfl)
 have e3 : SameOn (fun q => q < w9.heap.size ∧ q ≠ p) wr w5 := SameOn.of_below hb
 have hpw : p < wr.heap.size := Nat.lt_of_lt_of_le hp hs
 refine ⟨⟨fun i u e hi => a6 _ _ ((hb.cell (World.block_lt_of_cell? wr _ (h.oth i u e hi))).trans (h.oth i u e hi)) (Nat.not_le.2 hp) (by intro e; simp only [Addr.mk.injEq, and_true, true_and] at e; exact hi e), fun i => (a7 ⟨p, i, none⟩ (Nat.lt_of_lt_of_le hpw hb.size) (Nat.not_le.2 hp)).trans ((hb.frozen (p := ⟨p, i, none⟩) hpw).trans (h.frz i)), a1, ?_⟩, a2, a3, fun c u hc hlt => ⟨(World.cell?_of_block (hg.block c.block (World.block_lt_of_cell? w5 _ hc) (fun e => hne _ hlt e.symm))).trans hc, fun e => a6 c u hc (Nat.not_le.2 hlt) (fun h => e (by rw [h]))⟩⟩
 exact ⟨Nat.le_trans e1.1 (Nat.le_trans e3.1 e2.1), fun b hq hb' => (e2.2 b hq (Nat.lt_of_lt_of_le hb' (Nat.le_trans e1.1 e3.1))).trans ((e3.2 b hq (Nat.lt_of_lt_of_le hb' e1.1)).trans (e1.2 b hq hb'))⟩
theorem Holds.low' {P : Nat → Prop} {w : World} {v : Value} {d : D} (h : Holds False P w v d) : Holds False (fun q => P q ∧ q ≠ w.heap.size) w v d := h.wide (fun _ hb hp => ⟨hp, Nat.ne_of_lt hb⟩)
theorem capI {n k cap : Nat} (hk : k = min n 7) (hc : n ≤ cap) : k ≤ cap := by omega
end Go.Proofs.Ytlhclnhdcenkhaa

