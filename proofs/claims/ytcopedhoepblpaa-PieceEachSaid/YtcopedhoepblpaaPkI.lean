/- The numbers' reader; lists read. Written by gen_pieceof.py. -/
import Derived.Test.YtcopedhoepblpaaPkH
import Derived.Deep.CutRange
import Derived.OneCell
set_option linter.unusedSimpArgs false
set_option linter.unusedVariables false
set_option maxRecDepth 100000
namespace Go.Proofs.Ytcopedhoepblpaa
open Go.RowKit Go.PlainAid

/-- The reader: numbers l, of which r are left. -/
structure NxAt (w0 : World) (Ba Bl nb : Nat) (l r : List Int) (w : World) : Prop where
  bel : Below w0.heap.size w0 w
  geA : w0.heap.size ≤ Ba
  geL : w0.heap.size ≤ Bl
  geN : w0.heap.size ≤ nb
  neL : Bl ≠ Ba
  neN : nb ≠ Ba
  hN : w.heap[nb]? = some (.cells #[(.func (.func 76) #[] #[.pointer (some ⟨Ba, 0, none⟩), .pointer (some ⟨Bl, 0, none⟩)])] 64 (0, 0))
  ex : ∃ (k n : Nat) (a : Option Addr) (c : Nat), n = l.length ∧ k ≤ n ∧ r = l.drop k ∧ w.heap[Ba]? = some (.cells #[.int .i64 (k : Int)] 3 (0, 0)) ∧ w.heap[Bl]? = some (.cells #[.slice a n c] 22 (0, 0)) ∧ Has w0 (.slice a n c) (dInts l)
theorem NxAt.grown {w0 w w' : World} {Ba Bl nb : Nat} {l r : List Int} {row : Option Nat} (h : NxAt w0 Ba Bl nb l r w) (hg : w.grownBy w' row) (h1 : row ≠ some Ba) (h2 : row ≠ some Bl) (h3 : row ≠ some nb) (h4 : ∀ k, row = some k → w0.heap.size ≤ k) : NxAt w0 Ba Bl nb l r w' := by
  obtain ⟨b, g1, g2, g3, n1, n2, hN, k, n, a, c, e1, e2, e3, e4, e5, e6⟩ := h
  exact ⟨b.grown hg b.size h4, g1, g2, g3, n1, n2, (hg.block _ (lt_of_block hN) (fun e => h3 e.symm)).trans hN, k, n, a, c, e1, e2, e3, (hg.block _ (lt_of_block e4) (fun e => h1 e.symm)).trans e4, (hg.block _ (lt_of_block e5) (fun e => h2 e.symm)).trans e5, e6⟩
theorem NxAt.later {w0 w w' : World} {Ba Bl nb : Nat} {l r : List Int} (h : NxAt w0 Ba Bl nb l r w) (hb : Below w.heap.size w w') : NxAt w0 Ba Bl nb l r w' := h.grown (grown_of_below hb none) (by simp) (by simp) (by simp) (fun _ e => by cases e)
theorem NxAt.set {w0 w : World} {Ba Bl nb : Nat} {l r : List Int} (h : NxAt w0 Ba Bl nb l r w) (b o : Nat) (u : Value) (h1 : b ≠ Ba) (h2 : b ≠ Bl) (h3 : b ≠ nb) (h4 : w0.heap.size ≤ b) : NxAt w0 Ba Bl nb l r (w.setCell ⟨b, o, none⟩ u) :=
  h.grown (row := some b) ⟨rfl, rfl, rfl, by simp, fun k _ hk => Below.heap_setCell _ _ _ _ (fun e => hk (congrArg some e))⟩ (fun e => h1 (Option.some.inj e)) (fun e => h2 (Option.some.inj e)) (fun e => h3 (Option.some.inj e)) (fun k e => by cases e; exact h4)
theorem NxAt.ltA {w0 w : World} {Ba Bl nb : Nat} {l r : List Int} (h : NxAt w0 Ba Bl nb l r w) : Ba < w.heap.size := by obtain ⟨_, _, _, _, _, _, _, k, n, a, c, _, _, _, e4, _, _⟩ := h; exact lt_of_block e4
theorem NxAt.ltL {w0 w : World} {Ba Bl nb : Nat} {l r : List Int} (h : NxAt w0 Ba Bl nb l r w) : Bl < w.heap.size := by obtain ⟨_, _, _, _, _, _, _, k, n, a, c, _, _, _, _, e5, _⟩ := h; exact lt_of_block e5
theorem NxAt.ltN {w0 w : World} {Ba Bl nb : Nat} {l r : List Int} (h : NxAt w0 Ba Bl nb l r w) : nb < w.heap.size := lt_of_block h.hN
theorem near_step {Ba : Nat} {w w1 w2 : World} {row : Option Nat} (h : w.grownBy w1 (some Ba)) (hg : w1.grownBy w2 row) (hr : ∀ k, row = some k → w.heap.size ≤ k ∨ k = Ba) : w.grownBy w2 (some Ba) :=
  ⟨hg.os.trans h.os, hg.tape.trans h.tape, hg.output.trans h.output, Nat.le_trans h.size hg.size, fun k hk hne => (hg.block k (Nat.lt_of_lt_of_le hk h.size) (fun e => by
    rcases hr k e.symm with h | h
    · omega
    · exact hne (by rw [h]))).trans (h.block k hk hne)⟩
theorem near_below {Ba : Nat} {w w1 w2 : World} (h : w.grownBy w1 (some Ba)) (hb : Below w1.heap.size w1 w2) : w.grownBy w2 (some Ba) := near_step h (grown_of_below hb none) (fun _ e => by cases e)
theorem near_refl (Ba : Nat) (w : World) : w.grownBy w (some Ba) := ⟨rfl, rfl, rfl, Nat.le_refl _, fun _ _ _ => rfl⟩
theorem near_of_below {Ba : Nat} {w w' : World} (hb : Below w.heap.size w w') : w.grownBy w' (some Ba) := near_below (near_refl Ba w) hb
theorem Own.near {P : Nat → Prop} {E : TypeId} {n lim B : Nat} {wb w w' : World} {v : Value} {xs : List (List D)} (h : Own False P E n wb lim w v xs) (hg : w.grownBy w' (some B)) (hB : wb.heap.size ≤ B) (hP : ∀ k, P k → k ≠ B) (hv : v.ownBlock ≠ some B) : Own False P E n wb lim w' v xs := by
  obtain ⟨h1, h2, h3, cells, cs, fp, h4, h5, h6, h7, h8, h9⟩ := h
  exact ⟨h1.grown hg h1.size (fun k hk => by cases hk; exact hB), Nat.le_trans h2 hg.size, h3, cells, cs, fp, h4.kept hg (.inr hv), h5, h6, fun i j ds d a b => (h7 i j ds d a b).same ⟨hg.size, fun k hk hlt => hg.block k hlt (fun e => hP k (h8 i j k hk).1 (Option.some.inj e))⟩, h8, h9⟩
theorem Bld.near {P : Nat → Prop} {E : TypeId} {n B : Nat} {wb w w' : World} {v : Value} {xs : List (List D)} (h : Bld False P E n wb w.heap.size w v xs) (hg : w.grownBy w' (some B)) (hB : wb.heap.size ≤ B) (hP : ∀ k, P k → k ≠ B) : Bld False P E n wb w'.heap.size w' v xs :=
  ⟨(h.own.near hg hB hP (fun e => hP _ (h.inP _ e) rfl)).lift hg.size (Nat.le_refl _), h.inP⟩
theorem Bld.later' {P : Nat → Prop} {E : TypeId} {n : Nat} {wb w w' : World} {v : Value} {xs : List (List D)} (h : Bld False P E n wb w.heap.size w v xs) (hb : Below w.heap.size w w') : Bld False P E n wb w'.heap.size w' v xs := ⟨(h.own.later hb).lift hb.size (Nat.le_refl _), h.inP⟩
theorem hd_drop {l : List Int} {k : Nat} (h : l.length ≤ k) : hdI (l.drop k) = 0 ∧ (l.drop k).tail = l.drop k := by rw [List.drop_of_length_le h]; exact ⟨rfl, rfl⟩
theorem hd_at {l : List Int} {k : Nat} {x : Int} (h : l[k]? = some x) : hdI (l.drop k) = x ∧ (l.drop k).tail = l.drop (k + 1) := by
  have hk := lt_of_some h
  have e : l[k] = x := by rw [List.getElem?_eq_getElem hk] at h; exact Option.some.inj h
  rw [List.drop_eq_getElem_cons hk, e]; exact ⟨rfl, rfl⟩
set_option maxHeartbeats 2000000 in
theorem next_at (w0 w : World) (Ba Bl nb : Nat) (l r : List Int) (h : NxAt w0 Ba Bl nb l r w) (hn : l.length ≤ 1000000) :
    Calls Try.prog 76 #[.pointer (some ⟨Ba, 0, none⟩), .pointer (some ⟨Bl, 0, none⟩)] w fun e w' => e = .returned (.int .i64 (hdI r)) ∧ NxAt w0 Ba Bl nb l r.tail w' ∧ w.grownBy w' (some Ba) := by
  have HN := Lib.hid h
  obtain ⟨b, g1, g2, g3, n1, n2, hN, k, n, a, c, e1, e2, e3, e4, e5, e6⟩ := h
  have c4 := cell_of_one e4
  have f4 := free_of_one e4
  have c5 := cell_of_one e5
  have E1 := Lib.hid e1
  have E3 := Lib.hid e3
  have E4 := Lib.hid e4
  have E5 := Lib.hid e5
  have E6 := Lib.hid e6
  have BB := Lib.hid b
  have HN1 := Lib.hid hN
  have hnn : n ≤ 1000000 := by rw [e1]; exact hn
  by_cases hlt : k < n
  · obtain ⟨x, hx⟩ := some_of_lt (l := l) (i := k) (by rw [← e1]; exact hlt)
    obtain ⟨lb, lo, e, x1⟩ := num_at (e6.later b) hx
    subst e
    have HD := Lib.hid (hd_at hx)
    have hne : ((k : Int) == (n : Int)) = false := by rw [beq_eq_false_iff_ne]; omega
    have hsum : IntKind.i64.wrap ((k : Int) + 1) = (k : Int) + 1 := IntWalk.i64_in _ (by omega)
    clear e1 e3 e4 e5 e6 hx b hn hN hsum
    go_enter Try.func76, Try.ntmps76
    go_wp2_with fail
    go_ret
    refine ⟨by rw [E3.out, HD.out.1]; rfl, ?_, ?_⟩
    · rw [E3.out, HD.out.2]
      refine ⟨BB.out.setCell (by exact g1) _, g1, g2, g3, n1, n2, ?_, k + 1, n, _, c, E1.out, by omega, rfl, ?_, ?_, E6.out⟩
      · rw [Below.heap_setCell _ _ _ _ (by exact n2)]; exact HN1.out
      · exact one_setCell E4.out
      · rw [Below.heap_setCell _ _ _ _ (by exact n1)]; exact E5.out
    · exact ⟨rfl, rfl, rfl, by simp, fun q _ hk => Below.heap_setCell _ _ _ _ (fun e => hk (congrArg some e))⟩
  · obtain rfl : k = n := by omega
    have HD := Lib.hid (hd_drop (l := l) (k := k) (by rw [← e1]; exact Nat.le_refl _))
    have hne : ((k : Int) == (k : Int)) = true := by simp
    clear e1 e3 e4 e5 e6 b hn hN
    go_enter Try.func76, Try.ntmps76
    go_wp2_with fail
    go_ret
    exact ⟨by rw [E3.out, HD.out.1]; rfl, by rw [E3.out, HD.out.2, ← E3.out]; exact HN.out, near_refl _ _⟩
def dIx (x : Int) : List D := [dI x]
def dMx (x : Int × Int) : List D := [dI x.1, dI x.2]
def dLx (m : Lks) : List D := [dLinks m]
def dSx (m : List Int) : List D := [dInts m]
/-- What a list's reading tells. -/
def LfTold {α : Type} (n : Nat) (g : α → List D) (f : List Int → List α × List Int) (w0 : World) (Ba Bl nb : Nat) (l r : List Int) (w : World) (e : Ending) (w' : World) : Prop :=
  ∃ a k c, e = .returned (.slice a k c) ∧ Holds False (fun q => w.heap.size ≤ q) w' (.slice a k c) (.row n ((f r).1.map g)) ∧ NxAt w0 Ba Bl nb l (f r).2 w' ∧ w.grownBy w' (some Ba)
theorem infoMsgI : (Try.prog.info? 47).map (fun i => (i.zero, i.size, i.bytes)) = some (some (.agg #[.int .i64 0, .int .i64 0]), 2, 16) := by kernel_rfl
theorem infoMsgsI : (Try.prog.info? 45).map (fun i => (i.zero, i.size, i.bytes)) = some (some (.slice none 0 0), 1, 24) := by kernel_rfl
theorem infoIntsI : (Try.prog.info? 22).map (fun i => (i.zero, i.size, i.bytes)) = some (some (.slice none 0 0), 1, 24) := by kernel_rfl
theorem rd_next {α : Type} (f : List Int → α × List Int) (j : Nat) (r : List Int) {acc : List α} {rr : List Int} (h : rdTimes f j r = (acc, rr)) : rdTimes f (j + 1) r = (acc ++ [(f rr).1], (f rr).2) := by rw [rdTimes_snoc, h]
set_option maxHeartbeats 4000000 in
theorem lfI_at (w0 w : World) (Ba Bl nb : Nat) (l r : List Int) (h : NxAt w0 Ba Bl nb l r w) (hn : l.length ≤ 1000000) :
    Calls Try.prog 60 #[(.func (.func 76) #[] #[.pointer (some ⟨Ba, 0, none⟩), .pointer (some ⟨Bl, 0, none⟩)]), .int .i64 500, (.func (.func 76) #[] #[.pointer (some ⟨Ba, 0, none⟩), .pointer (some ⟨Bl, 0, none⟩)])] w (LfTold 1 dIx (rdL 500 rdN) w0 Ba Bl nb l r w) := by
  obtain ⟨i0, hi0, hz0, hs0, hby0⟩ := info_parts infoInt
  obtain ⟨M, hM⟩ : ∃ M, (if 500 < hdI r then (500 : Int) else hdI r) = M := ⟨_, rfl⟩
  have hMm : M ≤ 500 := by rw [← hM]; split <;> omega
  have CE : Hid (cntI (hdI r) 500 = M.toNat) := Lib.hid (by unfold cntI; rw [hM])
  have geA := h.geA
  have hltA := h.ltA
  have hltL := h.ltL
  have hltN := h.ltN
  have H0 := Lib.hid h
  obtain ⟨hd, hhd⟩ : ∃ x, x = hdI r := ⟨_, rfl⟩
  rw [← hhd] at hM
  have HHD := Lib.hid hhd
  clear h hhd
  go_enter Try.func60, Try.ntmps60
  go_wp2_with fail
  refine (next_at w0 _ Ba Bl nb l r H0.out hn).mono ?_
  rintro e w1 ⟨rfl, hN1, hg1⟩
  rw [← HHD.out]
  have N1 := Lib.hid hN1
  have G1 := Lib.hid hg1
  have hsz1 := hg1.size
  clear hN1 hg1
  go_wp2_with fail
  go_loopw [7, 12] (fun v i wr => ∃ (j : Nat) (acc : List _) (rr : List Int), i = .int .i64 j ∧ (j : Int) ≤ max M 0 ∧ rdTimes rdN j r.tail = (acc, rr) ∧ acc.length = j ∧ Bld False (fun q => w.heap.size ≤ q) 3 1 w0 wr.heap.size wr v (acc.map dIx) ∧ NxAt w0 Ba Bl nb l rr wr ∧ w.grownBy wr (some Ba)) (fun _ i _ => M.toNat - (intOf i).toNat)
  case atStart => exact ⟨0, [], r.tail, rfl, by omega, rfl, rfl, ⟨Own.nil N1.out.bel, fun k hk => by simp [Value.ownBlock] at hk⟩, N1.out, G1.out⟩
  case round =>
    obtain ⟨j, acc, rr, rfl, hj, hrd, hlen, hB, hN, hg⟩ := hrel
    obtain ⟨wr1, hw1⟩ : ∃ x, x = wr := ⟨_, rfl⟩
    subst hw1
    obtain ⟨va, vc, e⟩ := hB.own.slice
    rw [List.length_map, hlen] at e
    subst e
    have RD := Lib.hid hrd
    have LEN := Lib.hid hlen
    have HB := Lib.hid hB
    have HN := Lib.hid hN
    have HG := Lib.hid hg
    have hszr := hg.size
    by_cases hlt : (j : Int) < M
    · have RN := Lib.hid (rd_next rdN j r.tail hrd)
      clear hrd hlen hB hN hg
      go_wp2_with fail
      refine (next_at w0 _ Ba Bl nb l rr HN.out hn).mono ?_
      rintro e w2 ⟨rfl, hN2, hg2⟩
      have N2 : Hid (NxAt w0 Ba Bl nb l (rdN rr).2 w2) := Lib.hid hN2
      have G2 := Lib.hid hg2
      have hsz2 := hg2.size
      obtain ⟨x, hx⟩ : ∃ x, x = hdI rr := ⟨_, rfl⟩
      have XQ : Hid (x = (rdN rr).1) := Lib.hid hx
      rw [← hx]
      clear hx hN2 hg2
      have HH : Hid (HoldsL False (fun q => wr1.heap.size ≤ q) w2 [.int .i64 x] (dIx x)) := Lib.hid (hl_int hl_nil)
      have HB2 := Lib.hid ((HB.out.near G2.out geA (fun k hk e => by subst e; omega)).later' (below_new w2 (.cells #[.int .i64 x] 3)))
      have LIM : Hid (∀ k, (Value.slice va j vc).ownBlock = some k → k < wr1.heap.size) := Lib.hid (fun k hk => (HB.out.own.ge k hk).2)
      have G3 := Lib.hid (near_step (near_step HG.out G2.out (fun k e => .inr (Option.some.inj e).symm)) (grown_of_below (below_new w2 (.cells #[.int .i64 x] 3)) none) (fun _ e => by cases e))
      have hszz := G2.out.size
      have INP : Hid (∀ k, (Value.slice va j vc).ownBlock = some k → w.heap.size ≤ k) := Lib.hid HB.out.inP
      clear HB G2
      go_wp2_with (at_builtin; refine appL rfl _ _ 22 3 i0 (.int .i64 0) 1 8 rfl Try.underlying22 hi0 hz0 hs0 hby0 rfl (by decide) False (fun q => w.heap.size ≤ q) w0 (w2.alloc (.cells #[.int .i64 x] 3)).heap.size _ (acc.map dIx) [dIx x] j 1 1 (j + 1) rfl HB2.out.own (by rw [List.length_map]; exact LEN.out) (some ⟨w2.heap.size, 0, none⟩) rfl [.int .i64 x] news_new (fun e => by cases e) (by intro ds hds; rw [List.mem_singleton] at hds; subst hds; rfl) rfl ?c1 rfl (by unfold maxLen; omega) (by omega) ?_)
      case c1 => exact (HH.out.later (below_new w2 _)).wide (fun k hk hf => ⟨by omega, fun e => by have := LIM.out k e; omega, fun s => s.elim⟩)
      intro ao cv w3 hO hg3 hb3
      have B3 := Lib.hid (Bld.of (w := w2.alloc (.cells #[.int .i64 x] 3)) hO HB2.out.inP (by rw [size_new]; exact hb3) (by rw [size_new]; omega))
      have N3 : Hid (NxAt w0 Ba Bl nb l (rdN rr).2 w3) := Lib.hid ((N2.out.later (below_new w2 (.cells #[.int .i64 x] 3))).grown hg3 (fun e => by have := INP.out _ e; have := H0.out.ltA; omega) (fun e => by have := INP.out _ e; omega) (fun e => by have := INP.out _ e; omega) (fun k e => by have := INP.out _ e; have := H0.out.bel.size; omega))
      have G4 := Lib.hid (near_step G3.out hg3 (fun k e => .inl (INP.out k e)))
      clear hO hg3 hb3 HB2 G3 HH
      go_wp2_with fail
      go_roundw
      case rel => exact ⟨j + 1, acc ++ [(rdN rr).1], (rdN rr).2, by go_num, by omega, RN.out, by rw [List.length_append, LEN.out]; rfl, by rw [List.map_append]; exact XQ.out ▸ B3.out, N3.out, G4.out⟩
      case measure => simp [intOf]; omega
    · have hE : rdL 500 rdN r = (acc, rr) := by
        unfold rdL
        rw [CE.out, show M.toNat = j by omega]
        exact hrd
      have HE := Lib.hid hE
      have HF := Lib.hid (hB.own.holds hB.inP)
      clear hrd hlen hB hN hg hE
      go_wp2_with fail
      go_ret
      exact ⟨_, _, _, rfl, by rw [HE.out]; exact HF.out, by rw [HE.out]; exact HN.out, HG.out⟩
set_option maxHeartbeats 4000000 in
theorem lfS_at (w0 w : World) (Ba Bl nb : Nat) (l r : List Int) (h : NxAt w0 Ba Bl nb l r w) (hn : l.length ≤ 1000000) :
    Calls Try.prog 60 #[(.func (.func 76) #[] #[.pointer (some ⟨Ba, 0, none⟩), .pointer (some ⟨Bl, 0, none⟩)]), .int .i64 5, (.func (.func 76) #[] #[.pointer (some ⟨Ba, 0, none⟩), .pointer (some ⟨Bl, 0, none⟩)])] w (LfTold 1 dIx (rdL 5 rdN) w0 Ba Bl nb l r w) := by
  obtain ⟨i0, hi0, hz0, hs0, hby0⟩ := info_parts infoInt
  obtain ⟨M, hM⟩ : ∃ M, (if 5 < hdI r then (5 : Int) else hdI r) = M := ⟨_, rfl⟩
  have hMm : M ≤ 5 := by rw [← hM]; split <;> omega
  have CE : Hid (cntI (hdI r) 5 = M.toNat) := Lib.hid (by unfold cntI; rw [hM])
  have geA := h.geA
  have hltA := h.ltA
  have hltL := h.ltL
  have hltN := h.ltN
  have H0 := Lib.hid h
  obtain ⟨hd, hhd⟩ : ∃ x, x = hdI r := ⟨_, rfl⟩
  rw [← hhd] at hM
  have HHD := Lib.hid hhd
  clear h hhd
  go_enter Try.func60, Try.ntmps60
  go_wp2_with fail
  refine (next_at w0 _ Ba Bl nb l r H0.out hn).mono ?_
  rintro e w1 ⟨rfl, hN1, hg1⟩
  rw [← HHD.out]
  have N1 := Lib.hid hN1
  have G1 := Lib.hid hg1
  have hsz1 := hg1.size
  clear hN1 hg1
  go_wp2_with fail
  go_loopw [7, 12] (fun v i wr => ∃ (j : Nat) (acc : List _) (rr : List Int), i = .int .i64 j ∧ (j : Int) ≤ max M 0 ∧ rdTimes rdN j r.tail = (acc, rr) ∧ acc.length = j ∧ Bld False (fun q => w.heap.size ≤ q) 3 1 w0 wr.heap.size wr v (acc.map dIx) ∧ NxAt w0 Ba Bl nb l rr wr ∧ w.grownBy wr (some Ba)) (fun _ i _ => M.toNat - (intOf i).toNat)
  case atStart => exact ⟨0, [], r.tail, rfl, by omega, rfl, rfl, ⟨Own.nil N1.out.bel, fun k hk => by simp [Value.ownBlock] at hk⟩, N1.out, G1.out⟩
  case round =>
    obtain ⟨j, acc, rr, rfl, hj, hrd, hlen, hB, hN, hg⟩ := hrel
    obtain ⟨wr1, hw1⟩ : ∃ x, x = wr := ⟨_, rfl⟩
    subst hw1
    obtain ⟨va, vc, e⟩ := hB.own.slice
    rw [List.length_map, hlen] at e
    subst e
    have RD := Lib.hid hrd
    have LEN := Lib.hid hlen
    have HB := Lib.hid hB
    have HN := Lib.hid hN
    have HG := Lib.hid hg
    have hszr := hg.size
    by_cases hlt : (j : Int) < M
    · have RN := Lib.hid (rd_next rdN j r.tail hrd)
      clear hrd hlen hB hN hg
      go_wp2_with fail
      refine (next_at w0 _ Ba Bl nb l rr HN.out hn).mono ?_
      rintro e w2 ⟨rfl, hN2, hg2⟩
      have N2 : Hid (NxAt w0 Ba Bl nb l (rdN rr).2 w2) := Lib.hid hN2
      have G2 := Lib.hid hg2
      have hsz2 := hg2.size
      obtain ⟨x, hx⟩ : ∃ x, x = hdI rr := ⟨_, rfl⟩
      have XQ : Hid (x = (rdN rr).1) := Lib.hid hx
      rw [← hx]
      clear hx hN2 hg2
      have HH : Hid (HoldsL False (fun q => wr1.heap.size ≤ q) w2 [.int .i64 x] (dIx x)) := Lib.hid (hl_int hl_nil)
      have HB2 := Lib.hid ((HB.out.near G2.out geA (fun k hk e => by subst e; omega)).later' (below_new w2 (.cells #[.int .i64 x] 3)))
      have LIM : Hid (∀ k, (Value.slice va j vc).ownBlock = some k → k < wr1.heap.size) := Lib.hid (fun k hk => (HB.out.own.ge k hk).2)
      have G3 := Lib.hid (near_step (near_step HG.out G2.out (fun k e => .inr (Option.some.inj e).symm)) (grown_of_below (below_new w2 (.cells #[.int .i64 x] 3)) none) (fun _ e => by cases e))
      have hszz := G2.out.size
      have INP : Hid (∀ k, (Value.slice va j vc).ownBlock = some k → w.heap.size ≤ k) := Lib.hid HB.out.inP
      clear HB G2
      go_wp2_with (at_builtin; refine appL rfl _ _ 22 3 i0 (.int .i64 0) 1 8 rfl Try.underlying22 hi0 hz0 hs0 hby0 rfl (by decide) False (fun q => w.heap.size ≤ q) w0 (w2.alloc (.cells #[.int .i64 x] 3)).heap.size _ (acc.map dIx) [dIx x] j 1 1 (j + 1) rfl HB2.out.own (by rw [List.length_map]; exact LEN.out) (some ⟨w2.heap.size, 0, none⟩) rfl [.int .i64 x] news_new (fun e => by cases e) (by intro ds hds; rw [List.mem_singleton] at hds; subst hds; rfl) rfl ?c1 rfl (by unfold maxLen; omega) (by omega) ?_)
      case c1 => exact (HH.out.later (below_new w2 _)).wide (fun k hk hf => ⟨by omega, fun e => by have := LIM.out k e; omega, fun s => s.elim⟩)
      intro ao cv w3 hO hg3 hb3
      have B3 := Lib.hid (Bld.of (w := w2.alloc (.cells #[.int .i64 x] 3)) hO HB2.out.inP (by rw [size_new]; exact hb3) (by rw [size_new]; omega))
      have N3 : Hid (NxAt w0 Ba Bl nb l (rdN rr).2 w3) := Lib.hid ((N2.out.later (below_new w2 (.cells #[.int .i64 x] 3))).grown hg3 (fun e => by have := INP.out _ e; have := H0.out.ltA; omega) (fun e => by have := INP.out _ e; omega) (fun e => by have := INP.out _ e; omega) (fun k e => by have := INP.out _ e; have := H0.out.bel.size; omega))
      have G4 := Lib.hid (near_step G3.out hg3 (fun k e => .inl (INP.out k e)))
      clear hO hg3 hb3 HB2 G3 HH
      go_wp2_with fail
      go_roundw
      case rel => exact ⟨j + 1, acc ++ [(rdN rr).1], (rdN rr).2, by go_num, by omega, RN.out, by rw [List.length_append, LEN.out]; rfl, by rw [List.map_append]; exact XQ.out ▸ B3.out, N3.out, G4.out⟩
      case measure => simp [intOf]; omega
    · have hE : rdL 5 rdN r = (acc, rr) := by
        unfold rdL
        rw [CE.out, show M.toNat = j by omega]
        exact hrd
      have HE := Lib.hid hE
      have HF := Lib.hid (hB.own.holds hB.inP)
      clear hrd hlen hB hN hg hE
      go_wp2_with fail
      go_ret
      exact ⟨_, _, _, rfl, by rw [HE.out]; exact HF.out, by rw [HE.out]; exact HN.out, HG.out⟩
def RmTold (w0 : World) (Ba Bl nb : Nat) (l r : List Int) (w : World) (e : Ending) (w' : World) : Prop := e = .returned (.agg #[.int .i64 (rdM r).1.1, .int .i64 (rdM r).1.2]) ∧ NxAt w0 Ba Bl nb l (rdM r).2 w' ∧ w.grownBy w' (some Ba)
set_option maxHeartbeats 2000000 in
theorem rmsg_at (w0 w : World) (Ba Bl nb : Nat) (l r : List Int) (h : NxAt w0 Ba Bl nb l r w) (hn : l.length ≤ 1000000) :
    Calls Try.prog 58 #[.pointer (some ⟨nb, 0, none⟩)] w (RmTold w0 Ba Bl nb l r w) := by
  have b0 := below_new w (.cells #[.int .i64 0, .int .i64 0] 47)
  have H1 := Lib.hid (h.later b0)
  have hltA := h.ltA
  have c1 := cell_of_one (h.later b0).hN
  have B0 := Lib.hid b0
  obtain ⟨rb, hrb⟩ : ∃ b, b = w.heap.size := ⟨_, rfl⟩
  have hrl : rb < (w.alloc (.cells #[.int .i64 0, .int .i64 0] 47)).heap.size := by rw [size_new, hrb]; omega
  have hx0 : BoxAt rb [.int .i64 0, .int .i64 0] (w.alloc (.cells #[.int .i64 0, .int .i64 0] 47)) := by rw [hrb]; exact boxAt_new w [.int .i64 0, .int .i64 0] _
  have X0 := Lib.hid hx0
  have RB := Lib.hid hrb
  have F0 : Hid (∀ i, (w.alloc (.cells #[.int .i64 0, .int .i64 0] 47)).frozen? ⟨rb, i, none⟩ = false) := Lib.hid (fun i => by rw [hrb]; exact frozen_new w _ _ i)
  have hneA : rb ≠ Ba := by omega
  have hneL : rb ≠ Bl := by have := h.ltL; omega
  have hneN : rb ≠ nb := by have := h.ltN; omega
  have hge : w0.heap.size ≤ rb := by have := h.bel.size; omega
  clear h hx0
  go_enter Try.func58, Try.ntmps58
  go_upto_region 1 with fail
  rw [← RB.out]
  obtain ⟨y0, hy0⟩ : ∃ y, y = w.alloc (.cells #[.int .i64 0, .int .i64 0] 47) := ⟨_, rfl⟩
  rw [← hy0] at H1 B0 X0 F0 c1 hrl ⊢
  clear hy0 hrb
  go_wp2_with fail
  refine (next_at w0 _ Ba Bl nb l r H1.out hn).mono ?_
  rintro e w1 ⟨rfl, hN1, hg1⟩
  have N1 := Lib.hid hN1
  have G1 := Lib.hid hg1
  have c2 := cell_of_one hN1.hN
  clear hN1 hg1 c1
  go_wp2_with fail
  refine (next_at w0 _ Ba Bl nb l r.tail N1.out hn).mono ?_
  rintro e w2 ⟨rfl, hN2, hg2⟩
  have N2 := Lib.hid hN2
  have G2 := Lib.hid (near_step G1.out hg2 (fun k e => .inr (Option.some.inj e).symm))
  have z0 := G2.out.cell (X0.out 0 _ rfl) (fun e => hneA (Option.some.inj e))
  have z1 := G2.out.cell (X0.out 1 _ rfl) (fun e => hneA (Option.some.inj e))
  have ff : w2.frozen? ⟨rb, 0, none⟩ = false := (World.frozen?_of_block (w := y0) (G2.out.block rb hrl (fun e => hneA (Option.some.inj e)))).trans (F0.out 0)
  have ff1 : w2.frozen? ⟨rb, 1, none⟩ = false := (World.frozen?_of_block (w := y0) (G2.out.block rb hrl (fun e => hneA (Option.some.inj e)))).trans (F0.out 1)
  clear hN2 hg2 c2
  obtain ⟨x, hx⟩ : ∃ x, x = hdI r := ⟨_, rfl⟩
  obtain ⟨y, hy⟩ : ∃ x, x = hdI r.tail := ⟨_, rfl⟩
  have HX := Lib.hid hx
  have HY := Lib.hid hy
  rw [← hx, ← hy]
  clear hx hy
  go_wp2_with fail
  have d0 := set_far (b := rb) (o := 1) (v := .int .i64 y) (a := ⟨rb, 0, none⟩) (.inr (by simp)) (set_at (v := .int .i64 x) z0)
  have d1 := set_at (v := .int .i64 y) (set_far (b := rb) (o := 0) (v := .int .i64 x) (a := ⟨rb, 1, none⟩) (.inr (by simp)) z1)
  have RES : RmTold w0 Ba Bl nb l r w (.returned (.agg #[.int .i64 x, .int .i64 y])) ((w2.setCell ⟨rb, 0, none⟩ (.int .i64 x)).setCell ⟨rb, 1, none⟩ (.int .i64 y)) := by
    refine ⟨by rw [HX.out, HY.out]; rfl, (N2.out.set rb 0 _ hneA hneL hneN hge).set rb 1 _ hneA hneL hneN hge, ?_⟩
    have h1 := near_step (near_step (near_of_below (Ba := Ba) B0.out) G2.out (fun k e => .inr (Option.some.inj e).symm)) (row := some rb) (w2 := w2.setCell ⟨rb, 0, none⟩ (.int .i64 x)) ⟨rfl, rfl, rfl, by simp, fun q _ hk => Below.heap_setCell _ _ _ _ (fun e => hk (congrArg some e))⟩ (fun k e => .inl (by cases e; rw [RB.out]; exact Nat.le_refl _))
    exact near_step h1 (row := some rb) ⟨rfl, rfl, rfl, by simp, fun q _ hk => Below.heap_setCell _ _ _ _ (fun e => hk (congrArg some e))⟩ (fun k e => .inl (by cases e; rw [RB.out]; exact Nat.le_refl _))
  exact bodyPost_ret (v := .agg #[.int .i64 x, .int .i64 y]) (by simp [results, Try.results58, go_sem, d0, d1]) rfl RES
set_option maxHeartbeats 4000000 in
theorem lfM_at (w0 w : World) (Ba Bl nb : Nat) (l r : List Int) (h : NxAt w0 Ba Bl nb l r w) (hn : l.length ≤ 1000000) :
    Calls Try.prog 57 #[(.func (.func 76) #[] #[.pointer (some ⟨Ba, 0, none⟩), .pointer (some ⟨Bl, 0, none⟩)]), .int .i64 500, (.func (.func 58) #[] #[.pointer (some ⟨nb, 0, none⟩)])] w (LfTold 2 dMx (rdL 500 rdM) w0 Ba Bl nb l r w) := by
  obtain ⟨i0, hi0, hz0, hs0, hby0⟩ := info_parts infoMsgI
  obtain ⟨M, hM⟩ : ∃ M, (if 500 < hdI r then (500 : Int) else hdI r) = M := ⟨_, rfl⟩
  have hMm : M ≤ 500 := by rw [← hM]; split <;> omega
  have CE : Hid (cntI (hdI r) 500 = M.toNat) := Lib.hid (by unfold cntI; rw [hM])
  have geA := h.geA
  have hltA := h.ltA
  have hltL := h.ltL
  have hltN := h.ltN
  have H0 := Lib.hid h
  obtain ⟨hd, hhd⟩ : ∃ x, x = hdI r := ⟨_, rfl⟩
  rw [← hhd] at hM
  have HHD := Lib.hid hhd
  clear h hhd
  go_enter Try.func57, Try.ntmps57
  go_wp2_with fail
  refine (next_at w0 _ Ba Bl nb l r H0.out hn).mono ?_
  rintro e w1 ⟨rfl, hN1, hg1⟩
  rw [← HHD.out]
  have N1 := Lib.hid hN1
  have G1 := Lib.hid hg1
  have hsz1 := hg1.size
  clear hN1 hg1
  go_wp2_with fail
  go_loopw [7, 12] (fun v i wr => ∃ (j : Nat) (acc : List _) (rr : List Int), i = .int .i64 j ∧ (j : Int) ≤ max M 0 ∧ rdTimes rdM j r.tail = (acc, rr) ∧ acc.length = j ∧ Bld False (fun q => w.heap.size ≤ q) 47 2 w0 wr.heap.size wr v (acc.map dMx) ∧ NxAt w0 Ba Bl nb l rr wr ∧ w.grownBy wr (some Ba)) (fun _ i _ => M.toNat - (intOf i).toNat)
  case atStart => exact ⟨0, [], r.tail, rfl, by omega, rfl, rfl, ⟨Own.nil N1.out.bel, fun k hk => by simp [Value.ownBlock] at hk⟩, N1.out, G1.out⟩
  case round =>
    obtain ⟨j, acc, rr, rfl, hj, hrd, hlen, hB, hN, hg⟩ := hrel
    obtain ⟨wr1, hw1⟩ : ∃ x, x = wr := ⟨_, rfl⟩
    subst hw1
    obtain ⟨va, vc, e⟩ := hB.own.slice
    rw [List.length_map, hlen] at e
    subst e
    have RD := Lib.hid hrd
    have LEN := Lib.hid hlen
    have HB := Lib.hid hB
    have HN := Lib.hid hN
    have HG := Lib.hid hg
    have hszr := hg.size
    by_cases hlt : (j : Int) < M
    · have RN := Lib.hid (rd_next rdM j r.tail hrd)
      clear hrd hlen hB hN hg
      go_wp2_with fail
      refine (rmsg_at w0 _ Ba Bl nb l rr HN.out hn).mono ?_
      rintro e w2 ⟨rfl, hN2, hg2⟩
      have N2 : Hid (NxAt w0 Ba Bl nb l (rdM rr).2 w2) := Lib.hid hN2
      have G2 := Lib.hid hg2
      have hsz2 := hg2.size
      obtain ⟨x, hx⟩ : ∃ x, x = (rdM rr).1 := ⟨_, rfl⟩
      have XQ : Hid (x = (rdM rr).1) := Lib.hid hx
      rw [← hx]
      obtain ⟨xa, xb⟩ := x
      clear hx hN2 hg2
      obtain ⟨x, hx2⟩ : ∃ x, x = (xa, xb) := ⟨_, rfl⟩
      have HH : Hid (HoldsL False (fun q => wr1.heap.size ≤ q) w2 [.int .i64 xa, .int .i64 xb] (dMx x)) := Lib.hid (by rw [hx2]; exact hl_int (hl_int hl_nil))
      rw [← hx2] at XQ
      clear hx2
      have HB2 := Lib.hid ((HB.out.near G2.out geA (fun k hk e => by subst e; omega)).later' (below_new w2 (.cells #[.int .i64 xa, .int .i64 xb] 47)))
      have LIM : Hid (∀ k, (Value.slice va j vc).ownBlock = some k → k < wr1.heap.size) := Lib.hid (fun k hk => (HB.out.own.ge k hk).2)
      have G3 := Lib.hid (near_step (near_step HG.out G2.out (fun k e => .inr (Option.some.inj e).symm)) (grown_of_below (below_new w2 (.cells #[.int .i64 xa, .int .i64 xb] 47)) none) (fun _ e => by cases e))
      have hszz := G2.out.size
      have INP : Hid (∀ k, (Value.slice va j vc).ownBlock = some k → w.heap.size ≤ k) := Lib.hid HB.out.inP
      clear HB G2
      go_wp2_with (at_builtin; refine appL rfl _ _ 45 47 i0 (.agg #[.int .i64 0, .int .i64 0]) 2 16 rfl Try.underlying45 hi0 hz0 hs0 hby0 rfl (by decide) False (fun q => w.heap.size ≤ q) w0 (w2.alloc (.cells #[.int .i64 xa, .int .i64 xb] 47)).heap.size _ (acc.map dMx) [dMx x] j 1 1 (j + 1) rfl HB2.out.own (by rw [List.length_map]; exact LEN.out) (some ⟨w2.heap.size, 0, none⟩) rfl [.int .i64 xa, .int .i64 xb] news_new (fun e => by cases e) (by intro ds hds; rw [List.mem_singleton] at hds; subst hds; rfl) rfl ?c1 rfl (by unfold maxLen; omega) (by omega) ?_)
      case c1 => exact (HH.out.later (below_new w2 _)).wide (fun k hk hf => ⟨by omega, fun e => by have := LIM.out k e; omega, fun s => s.elim⟩)
      intro ao cv w3 hO hg3 hb3
      have B3 := Lib.hid (Bld.of (w := w2.alloc (.cells #[.int .i64 xa, .int .i64 xb] 47)) hO HB2.out.inP (by rw [size_new]; exact hb3) (by rw [size_new]; omega))
      have N3 : Hid (NxAt w0 Ba Bl nb l (rdM rr).2 w3) := Lib.hid ((N2.out.later (below_new w2 (.cells #[.int .i64 xa, .int .i64 xb] 47))).grown hg3 (fun e => by have := INP.out _ e; have := H0.out.ltA; omega) (fun e => by have := INP.out _ e; omega) (fun e => by have := INP.out _ e; omega) (fun k e => by have := INP.out _ e; have := H0.out.bel.size; omega))
      have G4 := Lib.hid (near_step G3.out hg3 (fun k e => .inl (INP.out k e)))
      clear hO hg3 hb3 HB2 G3 HH
      go_wp2_with fail
      go_roundw
      case rel => exact ⟨j + 1, acc ++ [(rdM rr).1], (rdM rr).2, by go_num, by omega, RN.out, by rw [List.length_append, LEN.out]; rfl, by rw [List.map_append]; exact XQ.out ▸ B3.out, N3.out, G4.out⟩
      case measure => simp [intOf]; omega
    · have hE : rdL 500 rdM r = (acc, rr) := by
        unfold rdL
        rw [CE.out, show M.toNat = j by omega]
        exact hrd
      have HE := Lib.hid hE
      have HF := Lib.hid (hB.own.holds hB.inP)
      clear hrd hlen hB hN hg hE
      go_wp2_with fail
      go_ret
      exact ⟨_, _, _, rfl, by rw [HE.out]; exact HF.out, by rw [HE.out]; exact HN.out, HG.out⟩
set_option maxHeartbeats 2000000 in
theorem rmsgsl_at (w0 w : World) (Ba Bl nb : Nat) (l r : List Int) (h : NxAt w0 Ba Bl nb l r w) (hn : l.length ≤ 1000000) :
    Calls Try.prog 56 #[.pointer (some ⟨nb, 0, none⟩)] w (LfTold 2 dMx (rdL 500 rdM) w0 Ba Bl nb l r w) := by
  have c1 := cell_of_one h.hN
  have H := Lib.hid h
  clear h
  go_enter Try.func56, Try.ntmps56
  go_wp2_with fail
  refine (lfM_at w0 _ Ba Bl nb l r H.out hn).mono ?_
  rintro e w1 ⟨ua, uk, uc, rfl, hU, hN1, hg1⟩
  have HU := Lib.hid hU
  have N1 := Lib.hid hN1
  have G1 := Lib.hid hg1
  clear hU hN1 hg1 c1
  go_wp2_with fail
  go_ret
  exact ⟨_, _, _, rfl, HU.out, N1.out, G1.out⟩
set_option maxHeartbeats 2000000 in
theorem rintsl_at (w0 w : World) (Ba Bl nb : Nat) (l r : List Int) (h : NxAt w0 Ba Bl nb l r w) (hn : l.length ≤ 1000000) :
    Calls Try.prog 59 #[.pointer (some ⟨nb, 0, none⟩)] w (LfTold 1 dIx (rdL 500 rdN) w0 Ba Bl nb l r w) := by
  have c1 := cell_of_one h.hN
  have H := Lib.hid h
  clear h
  go_enter Try.func59, Try.ntmps59
  go_wp2_with fail
  refine (lfI_at w0 _ Ba Bl nb l r H.out hn).mono ?_
  rintro e w1 ⟨ua, uk, uc, rfl, hU, hN1, hg1⟩
  have HU := Lib.hid hU
  have N1 := Lib.hid hN1
  have G1 := Lib.hid hg1
  clear hU hN1 hg1 c1
  go_wp2_with fail
  go_ret
  exact ⟨_, _, _, rfl, HU.out, N1.out, G1.out⟩
set_option maxHeartbeats 4000000 in
theorem lfL_at (w0 w : World) (Ba Bl nb : Nat) (l r : List Int) (h : NxAt w0 Ba Bl nb l r w) (hn : l.length ≤ 1000000) :
    Calls Try.prog 61 #[(.func (.func 76) #[] #[.pointer (some ⟨Ba, 0, none⟩), .pointer (some ⟨Bl, 0, none⟩)]), .int .i64 5, (.func (.func 56) #[] #[.pointer (some ⟨nb, 0, none⟩)])] w (LfTold 1 dLx (rdL 5 rdMs) w0 Ba Bl nb l r w) := by
  obtain ⟨i0, hi0, hz0, hs0, hby0⟩ := info_parts infoMsgsI
  obtain ⟨M, hM⟩ : ∃ M, (if 5 < hdI r then (5 : Int) else hdI r) = M := ⟨_, rfl⟩
  have hMm : M ≤ 5 := by rw [← hM]; split <;> omega
  have CE : Hid (cntI (hdI r) 5 = M.toNat) := Lib.hid (by unfold cntI; rw [hM])
  have geA := h.geA
  have hltA := h.ltA
  have hltL := h.ltL
  have hltN := h.ltN
  have H0 := Lib.hid h
  obtain ⟨hd, hhd⟩ : ∃ x, x = hdI r := ⟨_, rfl⟩
  rw [← hhd] at hM
  have HHD := Lib.hid hhd
  clear h hhd
  go_enter Try.func61, Try.ntmps61
  go_wp2_with fail
  refine (next_at w0 _ Ba Bl nb l r H0.out hn).mono ?_
  rintro e w1 ⟨rfl, hN1, hg1⟩
  rw [← HHD.out]
  have N1 := Lib.hid hN1
  have G1 := Lib.hid hg1
  have hsz1 := hg1.size
  clear hN1 hg1
  go_wp2_with fail
  go_loopw [7, 12] (fun v i wr => ∃ (j : Nat) (acc : List _) (rr : List Int), i = .int .i64 j ∧ (j : Int) ≤ max M 0 ∧ rdTimes rdMs j r.tail = (acc, rr) ∧ acc.length = j ∧ Bld False (fun q => w.heap.size ≤ q) 45 1 w0 wr.heap.size wr v (acc.map dLx) ∧ NxAt w0 Ba Bl nb l rr wr ∧ w.grownBy wr (some Ba)) (fun _ i _ => M.toNat - (intOf i).toNat)
  case atStart => exact ⟨0, [], r.tail, rfl, by omega, rfl, rfl, ⟨Own.nil N1.out.bel, fun k hk => by simp [Value.ownBlock] at hk⟩, N1.out, G1.out⟩
  case round =>
    obtain ⟨j, acc, rr, rfl, hj, hrd, hlen, hB, hN, hg⟩ := hrel
    obtain ⟨wr1, hw1⟩ : ∃ x, x = wr := ⟨_, rfl⟩
    subst hw1
    obtain ⟨va, vc, e⟩ := hB.own.slice
    rw [List.length_map, hlen] at e
    subst e
    have RD := Lib.hid hrd
    have LEN := Lib.hid hlen
    have HB := Lib.hid hB
    have HN := Lib.hid hN
    have HG := Lib.hid hg
    have hszr := hg.size
    by_cases hlt : (j : Int) < M
    · have RN := Lib.hid (rd_next rdMs j r.tail hrd)
      clear hrd hlen hB hN hg
      go_wp2_with fail
      refine (rmsgsl_at w0 _ Ba Bl nb l rr HN.out hn).mono ?_
      rintro e w2 ⟨ua, uk, uc, rfl, hU, hN2, hg2⟩
      have N2 : Hid (NxAt w0 Ba Bl nb l (rdMs rr).2 w2) := Lib.hid hN2
      have G2 := Lib.hid hg2
      have hsz2 := hg2.size
      obtain ⟨x, hx⟩ : ∃ x, x = (rdMs rr).1 := ⟨_, rfl⟩
      have XQ : Hid (x = (rdMs rr).1) := Lib.hid hx
      have HH : Hid (HoldsL False (fun q => wr1.heap.size ≤ q) w2 [.slice ua uk uc] (dLx x)) := Lib.hid (by rw [hx]; exact hl_cons hU hl_nil)
      clear hx hU hN2 hg2
      have HB2 := Lib.hid ((HB.out.near G2.out geA (fun k hk e => by subst e; omega)).later' (below_new w2 (.cells #[.slice ua uk uc] 45)))
      have LIM : Hid (∀ k, (Value.slice va j vc).ownBlock = some k → k < wr1.heap.size) := Lib.hid (fun k hk => (HB.out.own.ge k hk).2)
      have G3 := Lib.hid (near_step (near_step HG.out G2.out (fun k e => .inr (Option.some.inj e).symm)) (grown_of_below (below_new w2 (.cells #[.slice ua uk uc] 45)) none) (fun _ e => by cases e))
      have hszz := G2.out.size
      have INP : Hid (∀ k, (Value.slice va j vc).ownBlock = some k → w.heap.size ≤ k) := Lib.hid HB.out.inP
      clear HB G2
      go_wp2_with (at_builtin; refine appL rfl _ _ 23 45 i0 (.slice none 0 0) 1 24 rfl Try.underlying23 hi0 hz0 hs0 hby0 rfl (by decide) False (fun q => w.heap.size ≤ q) w0 (w2.alloc (.cells #[.slice ua uk uc] 45)).heap.size _ (acc.map dLx) [dLx x] j 1 1 (j + 1) rfl HB2.out.own (by rw [List.length_map]; exact LEN.out) (some ⟨w2.heap.size, 0, none⟩) rfl [.slice ua uk uc] news_new (fun e => by cases e) (by intro ds hds; rw [List.mem_singleton] at hds; subst hds; rfl) rfl ?c1 rfl (by unfold maxLen; omega) (by omega) ?_)
      case c1 => exact (HH.out.later (below_new w2 _)).wide (fun k hk hf => ⟨by omega, fun e => by have := LIM.out k e; omega, fun s => s.elim⟩)
      intro ao cv w3 hO hg3 hb3
      have B3 := Lib.hid (Bld.of (w := w2.alloc (.cells #[.slice ua uk uc] 45)) hO HB2.out.inP (by rw [size_new]; exact hb3) (by rw [size_new]; omega))
      have N3 : Hid (NxAt w0 Ba Bl nb l (rdMs rr).2 w3) := Lib.hid ((N2.out.later (below_new w2 (.cells #[.slice ua uk uc] 45))).grown hg3 (fun e => by have := INP.out _ e; have := H0.out.ltA; omega) (fun e => by have := INP.out _ e; omega) (fun e => by have := INP.out _ e; omega) (fun k e => by have := INP.out _ e; have := H0.out.bel.size; omega))
      have G4 := Lib.hid (near_step G3.out hg3 (fun k e => .inl (INP.out k e)))
      clear hO hg3 hb3 HB2 G3 HH
      go_wp2_with fail
      go_roundw
      case rel => exact ⟨j + 1, acc ++ [(rdMs rr).1], (rdMs rr).2, by go_num, by omega, RN.out, by rw [List.length_append, LEN.out]; rfl, by rw [List.map_append]; exact XQ.out ▸ B3.out, N3.out, G4.out⟩
      case measure => simp [intOf]; omega
    · have hE : rdL 5 rdMs r = (acc, rr) := by
        unfold rdL
        rw [CE.out, show M.toNat = j by omega]
        exact hrd
      have HE := Lib.hid hE
      have HF := Lib.hid (hB.own.holds hB.inP)
      clear hrd hlen hB hN hg hE
      go_wp2_with fail
      go_ret
      exact ⟨_, _, _, rfl, by rw [HE.out]; exact HF.out, by rw [HE.out]; exact HN.out, HG.out⟩
set_option maxHeartbeats 4000000 in
theorem lfO_at (w0 w : World) (Ba Bl nb : Nat) (l r : List Int) (h : NxAt w0 Ba Bl nb l r w) (hn : l.length ≤ 1000000) :
    Calls Try.prog 62 #[(.func (.func 76) #[] #[.pointer (some ⟨Ba, 0, none⟩), .pointer (some ⟨Bl, 0, none⟩)]), .int .i64 5, (.func (.func 59) #[] #[.pointer (some ⟨nb, 0, none⟩)])] w (LfTold 1 dSx (rdL 5 rdIs) w0 Ba Bl nb l r w) := by
  obtain ⟨i0, hi0, hz0, hs0, hby0⟩ := info_parts infoIntsI
  obtain ⟨M, hM⟩ : ∃ M, (if 5 < hdI r then (5 : Int) else hdI r) = M := ⟨_, rfl⟩
  have hMm : M ≤ 5 := by rw [← hM]; split <;> omega
  have CE : Hid (cntI (hdI r) 5 = M.toNat) := Lib.hid (by unfold cntI; rw [hM])
  have geA := h.geA
  have hltA := h.ltA
  have hltL := h.ltL
  have hltN := h.ltN
  have H0 := Lib.hid h
  obtain ⟨hd, hhd⟩ : ∃ x, x = hdI r := ⟨_, rfl⟩
  rw [← hhd] at hM
  have HHD := Lib.hid hhd
  clear h hhd
  go_enter Try.func62, Try.ntmps62
  go_wp2_with fail
  refine (next_at w0 _ Ba Bl nb l r H0.out hn).mono ?_
  rintro e w1 ⟨rfl, hN1, hg1⟩
  rw [← HHD.out]
  have N1 := Lib.hid hN1
  have G1 := Lib.hid hg1
  have hsz1 := hg1.size
  clear hN1 hg1
  go_wp2_with fail
  go_loopw [7, 12] (fun v i wr => ∃ (j : Nat) (acc : List _) (rr : List Int), i = .int .i64 j ∧ (j : Int) ≤ max M 0 ∧ rdTimes rdIs j r.tail = (acc, rr) ∧ acc.length = j ∧ Bld False (fun q => w.heap.size ≤ q) 22 1 w0 wr.heap.size wr v (acc.map dSx) ∧ NxAt w0 Ba Bl nb l rr wr ∧ w.grownBy wr (some Ba)) (fun _ i _ => M.toNat - (intOf i).toNat)
  case atStart => exact ⟨0, [], r.tail, rfl, by omega, rfl, rfl, ⟨Own.nil N1.out.bel, fun k hk => by simp [Value.ownBlock] at hk⟩, N1.out, G1.out⟩
  case round =>
    obtain ⟨j, acc, rr, rfl, hj, hrd, hlen, hB, hN, hg⟩ := hrel
    obtain ⟨wr1, hw1⟩ : ∃ x, x = wr := ⟨_, rfl⟩
    subst hw1
    obtain ⟨va, vc, e⟩ := hB.own.slice
    rw [List.length_map, hlen] at e
    subst e
    have RD := Lib.hid hrd
    have LEN := Lib.hid hlen
    have HB := Lib.hid hB
    have HN := Lib.hid hN
    have HG := Lib.hid hg
    have hszr := hg.size
    by_cases hlt : (j : Int) < M
    · have RN := Lib.hid (rd_next rdIs j r.tail hrd)
      clear hrd hlen hB hN hg
      go_wp2_with fail
      refine (rintsl_at w0 _ Ba Bl nb l rr HN.out hn).mono ?_
      rintro e w2 ⟨ua, uk, uc, rfl, hU, hN2, hg2⟩
      have N2 : Hid (NxAt w0 Ba Bl nb l (rdIs rr).2 w2) := Lib.hid hN2
      have G2 := Lib.hid hg2
      have hsz2 := hg2.size
      obtain ⟨x, hx⟩ : ∃ x, x = (rdIs rr).1 := ⟨_, rfl⟩
      have XQ : Hid (x = (rdIs rr).1) := Lib.hid hx
      have HH : Hid (HoldsL False (fun q => wr1.heap.size ≤ q) w2 [.slice ua uk uc] (dSx x)) := Lib.hid (by rw [hx]; exact hl_cons hU hl_nil)
      clear hx hU hN2 hg2
      have HB2 := Lib.hid ((HB.out.near G2.out geA (fun k hk e => by subst e; omega)).later' (below_new w2 (.cells #[.slice ua uk uc] 22)))
      have LIM : Hid (∀ k, (Value.slice va j vc).ownBlock = some k → k < wr1.heap.size) := Lib.hid (fun k hk => (HB.out.own.ge k hk).2)
      have G3 := Lib.hid (near_step (near_step HG.out G2.out (fun k e => .inr (Option.some.inj e).symm)) (grown_of_below (below_new w2 (.cells #[.slice ua uk uc] 22)) none) (fun _ e => by cases e))
      have hszz := G2.out.size
      have INP : Hid (∀ k, (Value.slice va j vc).ownBlock = some k → w.heap.size ≤ k) := Lib.hid HB.out.inP
      clear HB G2
      go_wp2_with (at_builtin; refine appL rfl _ _ 24 22 i0 (.slice none 0 0) 1 24 rfl Try.underlying24 hi0 hz0 hs0 hby0 rfl (by decide) False (fun q => w.heap.size ≤ q) w0 (w2.alloc (.cells #[.slice ua uk uc] 22)).heap.size _ (acc.map dSx) [dSx x] j 1 1 (j + 1) rfl HB2.out.own (by rw [List.length_map]; exact LEN.out) (some ⟨w2.heap.size, 0, none⟩) rfl [.slice ua uk uc] news_new (fun e => by cases e) (by intro ds hds; rw [List.mem_singleton] at hds; subst hds; rfl) rfl ?c1 rfl (by unfold maxLen; omega) (by omega) ?_)
      case c1 => exact (HH.out.later (below_new w2 _)).wide (fun k hk hf => ⟨by omega, fun e => by have := LIM.out k e; omega, fun s => s.elim⟩)
      intro ao cv w3 hO hg3 hb3
      have B3 := Lib.hid (Bld.of (w := w2.alloc (.cells #[.slice ua uk uc] 22)) hO HB2.out.inP (by rw [size_new]; exact hb3) (by rw [size_new]; omega))
      have N3 : Hid (NxAt w0 Ba Bl nb l (rdIs rr).2 w3) := Lib.hid ((N2.out.later (below_new w2 (.cells #[.slice ua uk uc] 22))).grown hg3 (fun e => by have := INP.out _ e; have := H0.out.ltA; omega) (fun e => by have := INP.out _ e; omega) (fun e => by have := INP.out _ e; omega) (fun k e => by have := INP.out _ e; have := H0.out.bel.size; omega))
      have G4 := Lib.hid (near_step G3.out hg3 (fun k e => .inl (INP.out k e)))
      clear hO hg3 hb3 HB2 G3 HH
      go_wp2_with fail
      go_roundw
      case rel => exact ⟨j + 1, acc ++ [(rdIs rr).1], (rdIs rr).2, by go_num, by omega, RN.out, by rw [List.length_append, LEN.out]; rfl, by rw [List.map_append]; exact XQ.out ▸ B3.out, N3.out, G4.out⟩
      case measure => simp [intOf]; omega
    · have hE : rdL 5 rdIs r = (acc, rr) := by
        unfold rdL
        rw [CE.out, show M.toNat = j by omega]
        exact hrd
      have HE := Lib.hid hE
      have HF := Lib.hid (hB.own.holds hB.inP)
      clear hrd hlen hB hN hg hE
      go_wp2_with fail
      go_ret
      exact ⟨_, _, _, rfl, by rw [HE.out]; exact HF.out, by rw [HE.out]; exact HN.out, HG.out⟩
end Go.Proofs.Ytcopedhoepblpaa
