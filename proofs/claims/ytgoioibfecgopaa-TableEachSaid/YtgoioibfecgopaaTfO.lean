/- One state of a table that may be written. -/
import Derived.Test.YtgoioibfecgopaaTfN
namespace Go.Proofs.Ytgoioibfecgopaa
open Go.RowKit Go.PlainAid

theorem OpenRow.set {w : World} {b cap n : Nat} (h : OpenRow w b cap n) (o : Nat) (v : Value) : OpenRow (w.setCell ⟨b, o, none⟩ v) b cap n := by
  obtain ⟨h1, cur, e, h2, h3⟩ := h
  exact ⟨h1, _, e, heap_setCell_at h2 o v, by simpa using h3⟩
theorem set_far {w : World} {a : Addr} {v u : Value} {b o : Nat} (h : b ≠ a.block ∨ o ≠ a.off) (hc : w.cell? a = some u) : (w.setCell ⟨b, o, none⟩ v).cell? a = some u := by
  rw [World.cell?_setCell_other _ _ _ _ (by intro e; subst e; simp at h)]
  exact hc
theorem set_at {w : World} {b o : Nat} {u v : Value} (hc : w.cell? ⟨b, o, none⟩ = some u) : (w.setCell ⟨b, o, none⟩ v).cell? ⟨b, o, none⟩ = some v := World.cell?_setCell_same w _ _ hc
theorem st_openL {P : Nat → Prop} {w : World} {cs : List Value} {s : St} (h : HoldsL True P w cs s.d) :
    ∃ (v1 v2 v3 : Value) (P1 P2 P3 : Nat → Prop), cs = [.int .i64 s.mode, v1, v2, v3] ∧ Holds True P1 w v1 (dInts s.waits) ∧ Holds True P2 w v2 (dPicks s.picks) ∧ Holds True P3 w v3 (dTakes s.takes) ∧ (∀ k, P1 k → P k) ∧ (∀ k, P2 k → P k) ∧ (∀ k, P3 k → P k) ∧ (∀ k, P1 k → ¬ P2 k) ∧ (∀ k, P1 k → ¬ P3 k) ∧ (∀ k, P2 k → ¬ P3 k) := by
  obtain ⟨hl, fp, f1, f2, f3⟩ := h
  match cs, hl with
  | [c0, v1, v2, v3], _ =>
    have e := (f3 0 c0 _ rfl rfl).val
    subst e
    refine ⟨v1, v2, v3, fp 1, fp 2, fp 3, rfl, f3 1 _ _ rfl rfl, f3 2 _ _ rfl rfl, f3 3 _ _ rfl rfl, f1 1, f1 2, f1 3, fun k a b => ?_, fun k a b => ?_, fun k a b => ?_⟩
    · have := f2 trivial _ _ _ a b; omega
    · have := f2 trivial _ _ _ a b; omega
    · have := f2 trivial _ _ _ a b; omega
theorem table_focus {P : Nat → Prop} {y : World} {mb mo len cap i k : Nat} {M : Tab} {x : Nd} {t : St} (h : Holds True P y (.slice (some ⟨mb, mo, none⟩) len cap) (dTab M)) (hPy : ∀ q, P q → q < y.heap.size) (hx : M[i]? = some x) (ht : x.states[k]? = some t) :
    ∃ (Q2 : Nat → Prop) (sb sc : Nat) (cs : List Value), mo = 0 ∧ P mb ∧ P sb ∧ mb ≠ sb ∧ y.cell? ⟨mb, i * 2 + 1, none⟩ = some (.slice (some ⟨sb, 0, none⟩) x.states.length sc) ∧ (∀ (j : Nat) (c : Value), cs[j]? = some c → y.cell? ⟨sb, k * 4 + j, none⟩ = some c) ∧ OpenRow y sb sc 4 ∧ (∀ q, Q2 q → P q) ∧ ¬ Q2 sb ∧ ¬ Q2 mb ∧ HoldsL True Q2 y cs t.d ∧
      ∀ (wq : World) (s' : St) (m' v1 v2 v3 : Value), SameOn (fun q => q < y.heap.size ∧ ¬ Q2 q) y wq → HoldsL True (fun q => Q2 q ∨ y.heap.size ≤ q) wq [m', v1, v2, v3] s'.d →
        Has ((((wq.setCell ⟨sb, k * 4, none⟩ m').setCell ⟨sb, k * 4 + 1, none⟩ v1).setCell ⟨sb, k * 4 + 2, none⟩ v2).setCell ⟨sb, k * 4 + 3, none⟩ v3) (.slice (some ⟨mb, mo, none⟩) len cap) (dTab (M.set i ⟨x.start, x.states.set k s'⟩)) := by
  obtain ⟨Q1, c, rfl, hPm, hOm, hmb, hcm, hQ1P, hQ1m, hst, hF⟩ := h.focus (i := i) (j := 1) (ds := x.d) (d := dStates x.states) (by rw [List.getElem?_map, hx]; rfl) rfl
  obtain ⟨sa, sc, rfl⟩ := hst.len
  rw [List.length_map] at hcm hst
  obtain ⟨sb, so, sc', s1, s2, s3, e, _, _, _, _, _, _, _, _, _⟩ := st_cells hst.weak ht
  simp only [Value.slice.injEq] at e
  obtain ⟨rfl, _, _⟩ := e
  obtain ⟨Q2, cs, rfl, hQ1s, hOs, hsb, hdl, hcs, hQ21, hQ2s, hL, hE⟩ := hst.elem (i := k) (ds := t.d) (by rw [List.getElem?_map, ht]; rfl)
  have hne : mb ≠ sb := fun e => hQ1m (by rw [e]; exact hQ1s)
  refine ⟨Q2, sb, sc, cs, rfl, hPm, hQ1P _ hQ1s, hne, hcm, hcs, hOs, fun q hq => hQ1P q (hQ21 q hq), hQ2s, fun hq => hQ1m (hQ21 _ hq), hL, ?_⟩
  intro wq s' m' v1 v2 v3 hs hn
  have hOq : OpenRow wq sb sc 4 := hOs.same hs ⟨hsb, hQ2s⟩ hsb
  have hlen := hL.1
  rw [hdl] at hlen
  have old : ∀ j, j < 4 → ∃ u, wq.cell? ⟨sb, k * 4 + j, none⟩ = some u := fun j hj => by
    obtain ⟨u, hu⟩ := some_of_lt (l := cs) (i := j) (by omega)
    exact ⟨u, (hs.cell (a := ⟨sb, k * 4 + j, none⟩) ⟨hsb, hQ2s⟩ hsb).trans (hcs j u hu)⟩
  obtain ⟨u0, h0⟩ := old 0 (by omega)
  obtain ⟨u1, h1⟩ := old 1 (by omega)
  obtain ⟨u2, h2⟩ := old 2 (by omega)
  obtain ⟨u3, h3⟩ := old 3 (by omega)
  rw [Nat.add_zero] at h0
  obtain ⟨w9, hw9⟩ : ∃ w9, w9 = (((wq.setCell ⟨sb, k * 4, none⟩ m').setCell ⟨sb, k * 4 + 1, none⟩ v1).setCell ⟨sb, k * 4 + 2, none⟩ v2).setCell ⟨sb, k * 4 + 3, none⟩ v3 := ⟨_, rfl⟩
  have hsame : ∀ R : Nat → Prop, ¬ R sb → SameOn R wq w9 := fun R hR => by
    rw [hw9]; exact ((((SameOn.refl _ _).set _ _ hR).set _ _ hR).set _ _ hR).set _ _ hR
  have hrow : Holds True (fun q => Q1 q ∨ (Q2 q ∨ y.heap.size ≤ q)) w9 (.slice (some ⟨sb, 0, none⟩) x.states.length sc) (.row 4 ((x.states.map St.d).set k s'.d)) := by
    refine hE w9 [m', v1, v2, v3] s'.d (fun q => Q2 q ∨ y.heap.size ≤ q) ((hs.sub (fun q hq => ⟨hPy q (hQ1P q hq.1), hq.2.2⟩)).trans (hsame _ (fun hq => hq.2.1 rfl))) (by rw [hw9]; exact (((hOq.set _ _).set _ _).set _ _).set _ _) rfl (fun j c hj => ?_) (fun o c ho hc => ?_) (hn.same (hsame _ (fun hq => hq.elim hQ2s (fun h => by omega)))) (fun q hq => ?_)
    · rw [hw9]
      match j, hj with
      | 0, hj =>
        simp at hj; subst hj
        exact set_far (.inr (by simp)) (set_far (.inr (by simp)) (set_far (.inr (by simp)) (set_at h0)))
      | 1, hj =>
        simp at hj; subst hj
        exact set_far (.inr (by simp)) (set_far (.inr (by simp)) (set_at (set_far (.inr (by simp)) h1)))
      | 2, hj =>
        simp at hj; subst hj
        exact set_far (.inr (by simp)) (set_at (set_far (.inr (by simp)) (set_far (.inr (by simp)) h2)))
      | 3, hj =>
        simp at hj; subst hj
        exact set_at (set_far (.inr (by simp)) (set_far (.inr (by simp)) (set_far (.inr (by simp)) h3)))
      | j + 4, hj => simp at hj
    · have hcq : wq.cell? ⟨sb, o, none⟩ = some c := (hs.cell (a := ⟨sb, o, none⟩) ⟨hsb, hQ2s⟩ hsb).trans hc
      rw [hw9]
      exact set_far (.inr (by show _ ≠ o; omega)) (set_far (.inr (by show _ ≠ o; omega)) (set_far (.inr (by show _ ≠ o; omega)) (set_far (.inr (by show _ ≠ o; omega)) hcq)))
    · rcases hq with hq | hq
      · exact ⟨fun e => hQ2s (by rw [← e]; exact hq), .inl hq⟩
      · exact ⟨by omega, .inr (fun h => by have := hPy q (hQ1P q h); omega)⟩
  rw [← hw9]
  have hd : dTab (M.set i ⟨x.start, x.states.set k s'⟩) = .row 2 ((M.map Nd.d).set i (x.d.set 1 (.row 4 ((x.states.map St.d).set k s'.d)))) := by
    unfold dTab
    rw [List.map_set]
    simp [Nd.d, dStates, List.map_set]
  rw [hd]
  refine (hF w9 (.slice (some ⟨sb, 0, none⟩) x.states.length sc) _ (fun q => Q1 q ∨ (Q2 q ∨ y.heap.size ≤ q)) ((hs.sub (fun q hq => ⟨hPy q hq.1, fun h => hq.2.2 (hQ21 q h)⟩)).trans (hsame _ (fun hq => hq.2.2 hQ1s))) ?_ hrow (fun q hq => ?_)).weak
  · rw [heap_setCell_self hcm]
    have e1 := (hsame (fun q => q = mb) (fun e => hne e.symm)).2 mb rfl (Nat.lt_of_lt_of_le hmb hs.1)
    exact e1.trans (hs.2 mb ⟨hmb, fun hq => hQ1m (hQ21 _ hq)⟩ hmb)
  · rcases hq with hq | hq | hq
    · exact ⟨fun e => hQ1m (by rw [← e]; exact hq), .inl hq⟩
    · exact ⟨fun e => hQ1m (by rw [← e]; exact hQ21 _ hq), .inl (hQ21 _ hq)⟩
    · exact ⟨by omega, .inr (fun h => by have := hPy q h; omega)⟩
theorem consE {w : World} {c : Value} {d : D} {cs : List Value} {ds : List D} (h : Holds True (fun _ => False) w c d) (h' : HoldsL True (fun _ => False) w cs ds) : HoldsL True (fun _ => False) w (c :: cs) (d :: ds) := by
  obtain ⟨h1, fp, h2, h3, h4⟩ := h'
  refine ⟨by simp [h1], fun _ _ => False, fun _ _ h => h.elim, fun _ _ _ _ h => h.elim, fun j c' d' hc hd => ?_⟩
  cases j with
  | zero => simp at hc hd; subst hc hd; exact h
  | succ j => exact (h4 j c' d' (by simpa using hc) (by simpa using hd)).wide (fun k _ hk => h2 j k hk)
theorem and7 (x : Int) : ∃ q : Nat, bits .and .i64 x 7 = (q : Int) ∧ q < 8 := by
  have h : (BitVec.ofInt 64 x &&& BitVec.ofInt 64 7).toNat ≤ 7 := by
    rw [BitVec.toNat_and]
    exact Nat.le_trans Nat.and_le_right (by decide)
  refine ⟨(BitVec.ofInt 64 x &&& BitVec.ofInt 64 7).toNat, ?_, by omega⟩
  show IntKind.i64.wrap ((BitVec.ofInt 64 x &&& BitVec.ofInt 64 7).toNat : Int) = _
  rw [IntWalk.i64_in _ (by omega)]

/-- A table with one state in another's place. -/
def setSt (M : Tab) (i k : Nat) (x : Nd) (s' : St) : Tab := M.set i ⟨x.start, x.states.set k s'⟩
theorem setSt_place {N : Int} {L : Lks} {M : Tab} {i k : Nat} {x : Nd} {s' : St} (h : TabOK N L (setSt M i k x s')) (hi : i < M.length) (hk : k < x.states.length) : PlaceOK L ⟨s', i, x.states.set k s'⟩ :=
  (h.2.2 i ⟨x.start, x.states.set k s'⟩ (by unfold setSt; rw [List.getElem?_set_self hi])).2.2.1 s' (List.mem_of_getElem? (by show (x.states.set k s')[k]? = some s'; rw [List.getElem?_set_self hk]))
theorem setSt_small {M : Tab} {i k : Nat} {x : Nd} {s' : St} (h : SmallTab M) (hx : M[i]? = some x) (hs : SmallSt s') : SmallTab (setSt M i k x s') := by
  refine ⟨by unfold setSt; rw [List.length_set]; exact h.1, fun y hy => ?_⟩
  rcases List.mem_or_eq_of_mem_set hy with hy | rfl
  · exact h.2 y hy
  · refine ⟨by simp; exact (h.2 x (List.mem_of_getElem? hx)).1, fun s hs' => ?_⟩
    rcases List.mem_or_eq_of_mem_set hs' with hs' | rfl
    · exact (h.2 x (List.mem_of_getElem? hx)).2 s hs'
    · exact hs
theorem no_self {N : Int} {L : Lks} (h : RightG N L) (i : Int) : (i, i) ∉ L := fun hm => h.2.2.2.1.irr _ hm rfl
theorem no_minus {N : Int} {L : Lks} (h : RightG N L) (i : Int) : (-1, i) ∉ L := fun hm => by have := (h.2.2.2.1.inr _ hm).1; simp at this
end Go.Proofs.Ytgoioibfecgopaa
