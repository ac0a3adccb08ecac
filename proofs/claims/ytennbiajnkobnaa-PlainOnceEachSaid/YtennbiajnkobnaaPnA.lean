/- PlainOnceEach: what its loop keeps in memory. -/
import Derived.Test.YtennbiajnkobnaaQ30
import Derived.Test.YtennbiajnkobnaaQ36
import Derived.Test.YtennbiajnkobnaaQ38
import Derived.Test.YtennbiajnkobnaaQ41
import Derived.Test.YtennbiajnkobnaaQ42
import Derived.Test.YtennbiajnkobnaaQ43
import Derived.Test.YtennbiajnkobnaaQ44
import Derived.Test.YtennbiajnkobnaaQ48
set_option linter.unusedSimpArgs false
set_option linter.unusedVariables false
namespace Go.Proofs.Ytennbiajnkobnaa
open Go.RowKit Go.PlainAid

def dLln (G : List (List Int)) : D := .row 1 (G.map fun g => [dInts g])
theorem infoIntsL : (Try.prog.info? 28).map (fun i => (i.zero, i.size, i.bytes)) = some (some (.slice none 0 0), 1, 24) := by kernel_rfl
theorem make_lln (n : Nat) (h : n ≤ 1000000) (w : World) : (Instr.makeSlice 61 (.int .i64 (n : Int)) (.int .i64 (n : Int))).run Try.prog w = .ok (.slice (some ⟨w.heap.size, 0, none⟩) n n) (w.alloc (.cells (madeCells #[.slice none 0 0] n) 28)) := by
  obtain ⟨i, hi, hz, h1, h2⟩ := info_parts infoIntsL
  have := run_make (P := Try.prog) w 61 28 i (.slice none 0 0) Try.underlying61 hi hz .i64 .i64 n n (by omega) (by omega) (by rw [h2]; omega) (by omega)
  rw [this, h1]
  simp [Value.cells]
theorem made_lln (n : Nat) (h : n ≤ 1000000) (w : World) : Holds True (fun q => q = w.heap.size) (w.alloc (.cells (madeCells #[.slice none 0 0] n) 28)) (.slice (some ⟨w.heap.size, 0, none⟩) n n) (dLln (List.replicate n [])) := by
  refine holds_mk (Q := fun _ => False) (cells := List.replicate n (.slice none 0 0)) (by simp) rfl (heap_alloc_new w _) (Nat.le_refl _) (by unfold maxLen; omega) (by rw [size_madeCells, Nat.mul_one]) ?_ (by intro ds hd; obtain ⟨_, _, rfl⟩ := List.mem_map.1 hd; rfl) ?_ (fun _ h => h.elim) (fun h => h)
  · rw [Nat.mul_one]
    apply List.ext_getElem
    · simp [size_madeCells, madeCells]
    · intro i h1 h2
      simp [madeCells, Nat.mod_one]
  · refine ⟨?_, fun _ _ => False, fun _ _ h => h, fun _ _ _ _ h => h.elim, fun j c d hc hd => ?_⟩
    · rw [flatten_len (n := 1) (by intro ds hd; obtain ⟨_, _, rfl⟩ := List.mem_map.1 hd; rfl)]; simp
    · have hj := lt_of_some hc
      simp at hj
      rw [List.getElem?_replicate, if_pos hj] at hc
      cases hc
      have e := flatten_get (n := 1) (ys := (List.replicate n ([] : List Int)).map fun m => [dInts m]) (i := j) (j := 0) (ds := [dInts []]) (by intro ds hd; obtain ⟨_, _, rfl⟩ := List.mem_map.1 hd; rfl) (by rw [List.getElem?_map, List.getElem?_replicate, if_pos hj]; rfl) (by decide)
      rw [Nat.mul_one, Nat.add_zero, hd] at e
      simp at e
      subst e
      exact .nil _ _ _ _ _
theorem lln_focus {P : Nat → Prop} {w : World} {g k cap i : Nat} {ls : List (List Int)} {m : List Int} (h : Holds True P w (.slice (some ⟨g, 0, none⟩) k cap) (dLln ls)) (hm : ls[i]? = some m) :
    ∃ (Q : Nat → Prop) (ma : Option Addr) (mc : Nat), k = ls.length ∧ P g ∧ g < w.heap.size ∧ w.cell? ⟨g, i, none⟩ = some (.slice ma m.length mc) ∧ OpenRow w g cap 1 ∧ (∀ q, Q q → P q) ∧ ¬ Q g ∧ Holds True Q w (.slice ma m.length mc) (dInts m) ∧
      ∀ (w2 : World) (v : Value) (m' : List Int) (Q' : Nat → Prop), SameOn (fun q => P q ∧ ¬ Q q) w w2 → Holds True Q' w2 v (dInts m') → (∀ q, Q' q → q ≠ g ∧ (Q q ∨ ¬ P q)) → Holds True (fun q => P q ∨ Q' q) (w2.setCell ⟨g, i, none⟩ v) (.slice (some ⟨g, 0, none⟩) k cap) (dLln (ls.set i m')) := by
  have hk : k = ls.length := by obtain ⟨_, _, e⟩ := Holds.len h; rw [List.length_map] at e; cases e; rfl
  obtain ⟨Q, c, _, hP, hO, hb, hc, hQP, hQb, hH, hF⟩ := h.focus (i := i) (j := 0) (ds := [dInts m]) (d := dInts m) (by rw [List.getElem?_map, hm]; rfl) rfl
  obtain ⟨ma, mc, rfl⟩ := slice_of hH.weak
  rw [Nat.mul_one, Nat.add_zero] at hc hF
  refine ⟨Q, ma, mc, hk, hP, hb, hc, hO, hQP, hQb, hH, fun w2 v m' Q' hs hn hq => ?_⟩
  have e : (ls.set i m').map (fun m => [dInts m]) = (ls.map fun m => [dInts m]).set i ([dInts m].set 0 (dInts m')) := by rw [List.map_set]; rfl
  unfold dLln
  rw [e]
  refine hF (w2.setCell ⟨g, i, none⟩ v) v (dInts m') Q' ((hs.sub (fun q hq => ⟨hq.1, hq.2.2⟩)).set _ _ (fun h => h.2.1 rfl)) ?_ (hn.same ((SameOn.refl _ _).set _ _ (fun h => (hq _ h).1 rfl))) hq
  have e2 := hs.2 g ⟨hP, hQb⟩ hb
  obtain ⟨_, cur, e0, hg, _⟩ := hO
  rw [heap_setCell_at (e2.trans hg), heap_setCell_at hg]

theorem small_okE {A : Ap} {c : Cf} (h : CfOK A c) : SmallCf c := by
 have h1 := h.1.1.2.2.1
 have h2 := h.1.1.2.1
 have h3 := h.2.states
 have h4 := h.2.links
 have h5 := h.2.sent
 refine ⟨by omega, by omega, by omega, fun m hm => ?_⟩
 obtain ⟨i, hi⟩ := List.mem_iff_getElem?.1 hm
 obtain ⟨q, m', _, hm', hk⟩ := cf_at h (i := i) (by have := lt_of_get hi; omega)
 rw [hi] at hm'
 cases hm'
 have := linkOK_len hk
 omega
theorem applied_smallE {A : Ap} {c : Cf} {s : Sp} (h : CfOK A c) : SmallCf (applied A c s) := by
 unfold applied
 split
 ·next e => exact small_okE (doneOf_ok h e)
 ·exact ⟨by decide, by decide, by decide, fun m hm => by cases hm⟩
/-- A configuration's box and the rows of what was delivered. -/
structure EachM (y : World) (pc gb gl : Nat) (c : Cf) (G : List (List Int)) (V1 V2 V3 : Value) (PC PG : Nat → Prop) (wr : World) : Prop where
  bel : Below y.heap.size y wr
  box : BoxAt pc [V1, V2, V3] wr
  opn : OpenRow wr pc 1 3
  cf : HoldsL False PC wr [V1, V2, V3] c.d
  got : Holds True PG wr (.slice (some ⟨gb, 0, none⟩) gl gl) (dLln G)
  pcy : y.heap.size ≤ pc
  npc : ¬ PC pc
  npg : ¬ PG pc
  dis : ∀ q, PG q → ¬ PC q
  low : ∀ q, PG q → y.heap.size ≤ q ∧ q < wr.heap.size
  top : ∀ q, PC q → q < wr.heap.size
section
variable {y wr : World} {pc gb gl : Nat} {c : Cf} {G : List (List Int)} {V1 V2 V3 : Value} {PC PG : Nat → Prop}
theorem EachM.pcl (h : EachM y pc gb gl c G V1 V2 V3 PC PG wr) : pc < wr.heap.size := World.block_lt_of_cell? wr _ (h.box 0 _ rfl)
theorem EachM.later (h : EachM y pc gb gl c G V1 V2 V3 PC PG wr) {wx : World} (hb : Below wr.heap.size wr wx) : EachM y pc gb gl c G V1 V2 V3 PC PG wx :=
  ⟨below_step' h.bel hb, h.box.below hb, h.opn.same (SameOn.of_below (P := fun _ => True) hb) trivial h.pcl, h.cf.later hb, h.got.later hb, h.pcy, h.npc, h.npg, h.dis, fun q hq => ⟨(h.low q hq).1, Nat.lt_of_lt_of_le (h.low q hq).2 hb.size⟩, fun q hq => Nat.lt_of_lt_of_le (h.top q hq) hb.size⟩
theorem EachM.move (h : EachM y pc gb gl c G V1 V2 V3 PC PG wr) {d : Cf} {W1 W2 W3 : Value} {PD : Nat → Prop} (hd : HoldsL False PD wr [W1, W2, W3] d.d) (h1 : ∀ q, PD q → q < wr.heap.size) (h2 : ¬ PD pc) (h3 : ∀ q, PG q → ¬ PD q) :
    EachM y pc gb gl d G W1 W2 W3 PD PG (((wr.setCell ⟨pc, 0, none⟩ W1).setCell ⟨pc, 1, none⟩ W2).setCell ⟨pc, 2, none⟩ W3) := by
  have ss : SameOn (fun q => q ≠ pc) wr (((wr.setCell ⟨pc, 0, none⟩ W1).setCell ⟨pc, 1, none⟩ W2).setCell ⟨pc, 2, none⟩ W3) := (((SameOn.refl _ wr).set ⟨pc, 0, none⟩ _ (fun h => h rfl)).set ⟨pc, 1, none⟩ _ (fun h => h rfl)).set ⟨pc, 2, none⟩ _ (fun h => h rfl)
  exact ⟨((h.bel.setCell h.pcy _).setCell h.pcy _).setCell h.pcy _, boxAt_set (j := 2) (u := W3) (boxAt_set (j := 1) (u := W2) (boxAt_set (j := 0) (u := W1) h.box)), ((h.opn.set 0 _).set 1 _).set 2 _,
    hd.same (ss.sub (fun q hq e => h2 (e ▸ hq))), h.got.same (ss.sub (fun q hq e => h.npg (e ▸ hq))), h.pcy, h2, h.npg, h3, fun q hq => ⟨(h.low q hq).1, Nat.lt_of_lt_of_le (h.low q hq).2 ss.1⟩, fun q hq => Nat.lt_of_lt_of_le (h1 q hq) ss.1⟩
theorem EachM.push (h : EachM y pc gb gl c G V1 V2 V3 PC PG wr) {k : Nat} {g : List Int} (hg : G[k]? = some g) :
    ∃ (Q : Nat → Prop) (ra : Option Addr) (rc : Nat), gl = G.length ∧ wr.cell? ⟨gb, k, none⟩ = some (.slice ra g.length rc) ∧ OpenRow wr gb gl 1 ∧ gb < wr.heap.size ∧ PG gb ∧ (∀ q, Q q → PG q) ∧ ¬ Q gb ∧ Holds True Q wr (.slice ra g.length rc) (dInts g) ∧
      ∀ (w6 : World) (v : Value) (g' : List Int) (Q' : Nat → Prop), Below y.heap.size y w6 → SameOn (fun q => ¬ Q q) wr w6 → Holds True Q' w6 v (dInts g') → (∀ q, Q' q → (Q q ∨ wr.heap.size ≤ q) ∧ q < w6.heap.size) →
        EachM y pc gb gl c (G.set k g') V1 V2 V3 PC (fun q => PG q ∨ Q' q) (w6.setCell ⟨gb, k, none⟩ v) := by
  obtain ⟨Q, ra, rc, hk, hP, hgb, hcell, hO, hQP, hQg, hH, hF⟩ := lln_focus h.got hg
  refine ⟨Q, ra, rc, hk, hcell, hO, hgb, hP, hQP, hQg, hH, fun w6 v g' Q' hb hs hn hq => ?_⟩
  have ss : SameOn (fun q => ¬ PG q) wr (w6.setCell ⟨gb, k, none⟩ v) := (hs.sub (fun q hq h => hq (hQP q h))).set _ _ (fun hh => hh hP)
  have s6 : w6.heap.size ≤ (w6.setCell ⟨gb, k, none⟩ v).heap.size := (SameOn.set (SameOn.refl (fun q => q ≠ gb) w6) ⟨gb, k, none⟩ v (fun hh => hh rfl)).1
  refine ⟨hb.setCell (h.low gb hP).1 _, h.box.same ss h.npg, h.opn.same ss h.npg h.pcl, h.cf.same (ss.sub (fun q hq hp => h.dis q hp hq)), hF w6 v g' Q' (hs.sub (fun q hq => hq.2)) hn (fun q hq' => ⟨fun e => ?_, ?_⟩), h.pcy, h.npc, fun hp => ?_, fun q hp hc => ?_, fun q hp => ?_, fun q hq => Nat.lt_of_lt_of_le (h.top q hq) ss.1⟩
  · rcases (hq q hq').1 with h' | h'
    · exact hQg (e ▸ h')
    · omega
  · rcases (hq q hq').1 with h' | h'
    · exact .inl h'
    · exact .inr (fun hp => by have := (h.low q hp).2; omega)
  · rcases hp with hp | hp
    · exact h.npg hp
    · rcases (hq pc hp).1 with h' | h'
      · exact h.npg (hQP _ h')
      · have := h.pcl; omega
  · rcases hp with hp | hp
    · exact h.dis q hp hc
    · rcases (hq q hp).1 with h' | h'
      · exact h.dis q (hQP _ h') hc
      · have := h.top q hc; omega
  · rcases hp with hp | hp
    · exact ⟨(h.low q hp).1, by have := (h.low q hp).2; have := ss.1; omega⟩
    · refine ⟨?_, by have := (hq q hp).2; omega⟩
      rcases (hq q hp).1 with h' | h'
      · exact (h.low q (hQP _ h')).1
      · have := h.bel.size; omega
end
/-- The loop's state. -/
def EachS (A : Ap) (y : World) (pc gb gl : Nat) (wr : World) : Prop := ∃ (c : Cf) (G : List (List Int)) (a1 a2 a3 : Option Addr) (n1 e1 e2 e3 : Nat) (PC PG : Nat → Prop), CfOK A c ∧ Gots A c G ∧ EachM y pc gb gl c G (.slice a1 n1 e1) (.slice a2 gl e2) (.slice a3 gl e3) PC PG wr
theorem EachS.later {A : Ap} {y wr wx : World} {pc gb gl : Nat} (h : EachS A y pc gb gl wr) (hb : Below wr.heap.size wr wx) : EachS A y pc gb gl wx := by
  obtain ⟨c, G, a1, a2, a3, n1, e1, e2, e3, PC, PG, h1, h2, h3⟩ := h
  exact ⟨c, G, a1, a2, a3, n1, e1, e2, e3, PC, PG, h1, h2, h3.later hb⟩
/-- What Start and make leave. -/
def EachB (A : Ap) (y : World) (gl : Nat) (sp sg : Value) (wx : World) : Prop := ∃ (pc gb : Nat), sp = .pointer (some ⟨pc, 0, none⟩) ∧ sg = .slice (some ⟨gb, 0, none⟩) gl gl ∧ EachS A y pc gb gl wx
theorem eachB_mk {A : Ap} {y wx : World} {gl pc gb b0 b1 : Nat} {a1 a2 a3 : Option Addr} {n1 n2 n3 e1 e2 e3 : Nat} (hT : TabOK A.n A.l A.t) (hgl : gl = A.l.length) (hb : Below y.heap.size y wx) (hbox : BoxAt pc [.slice a1 n1 e1, .slice a2 n2 e2, .slice a3 n3 e3] wx) (ho : OpenRow wx pc 1 3)
    (hc : HoldsL False (fun q => b0 ≤ q ∧ q < b1) wx [.slice a1 n1 e1, .slice a2 n2 e2, .slice a3 n3 e3] (startOf A).d) (hg : Holds True (fun q => q = gb) wx (.slice (some ⟨gb, 0, none⟩) gl gl) (dLln (List.replicate gl [])))
    (h1 : y.heap.size ≤ pc) (h2 : ¬ (b0 ≤ pc ∧ pc < b1)) (h3 : pc ≠ gb) (h4 : ¬ (b0 ≤ gb ∧ gb < b1)) (h5 : y.heap.size ≤ gb ∧ gb < wx.heap.size) (h6 : b1 ≤ wx.heap.size) : EachB A y gl (.pointer (some ⟨pc, 0, none⟩)) (.slice (some ⟨gb, 0, none⟩) gl gl) wx := by
  have hl := cf_has hc.weak
  have e2' : n2 = gl := by
    obtain ⟨_, _, e⟩ := slice_of hl.2.1
    injection e with _ e _
    rw [e, hgl]; simp [startOf]
  have e3' : n3 = gl := by
    obtain ⟨_, _, e⟩ := slice_of hl.2.2
    injection e with _ e _
    rw [e, hgl]; simp [startOf]
  subst e2' e3'
  refine ⟨pc, gb, rfl, rfl, startOf A, A.l.map fun _ => [], a1, a2, a3, n1, e1, e2, e3, (fun q => b0 ≤ q ∧ q < b1), (fun q => q = gb), startOf_ok hT, gots_start A, hb, hbox, ho, hc, ?_, h1, h2, h3, fun q hq => ?_, fun q hq => ?_, fun q hq => by omega⟩
  · have e : (A.l.map fun _ => ([] : List Int)) = List.replicate n3 [] := by rw [hgl]; exact List.map_const' ..
    rw [e]; exact hg
  · subst hq; exact h4
  · subst hq; exact h5
/-- What Apply tells, laid in a box. -/
def AppBoxE (d : Cf) (er : Int) (y : World) (sp se : Value) (wx : World) : Prop := ∃ (p : Nat) (a1 a2 a3 : Option Addr) (n1 n2 n3 e1 e2 e3 : Nat), sp = .pointer (some ⟨p, 0, none⟩) ∧ se = .int .i64 er ∧ BoxAt p [.slice a1 n1 e1, .slice a2 n2 e2, .slice a3 n3 e3] wx ∧ y.heap.size ≤ p ∧
  HoldsL False (fun q => y.heap.size ≤ q ∧ q ≠ p) wx [.slice a1 n1 e1, .slice a2 n2 e2, .slice a3 n3 e3] d.d ∧ Below y.heap.size y wx
theorem err_kind {A : Ap} {c : Cf} {s : Sp} (h : errOf A c s = 0) : (s.kind = 0 ∧ applied A c s = donePick A c s) ∨ (s.kind = 1 ∧ errDel A c s = 0 ∧ applied A c s = doneDel A c s) := by
  have ha : applied A c s = doneOf A c s := by unfold applied; rw [if_pos h]
  unfold errOf at h
  split at h
  · next e => exact .inl ⟨e, by rw [ha]; unfold doneOf; rw [if_pos e]⟩
  · next e =>
    split at h
    · next e1 => exact .inr ⟨e1, h, by rw [ha]; unfold doneOf; rw [if_neg e]⟩
    · cases h
theorem applied_ok {A : Ap} {c : Cf} {s : Sp} (hc : CfOK A c) (h : errOf A c s = 0) : CfOK A (applied A c s) := by
  have ha : applied A c s = doneOf A c s := by unfold applied; rw [if_pos h]
  rw [ha]; exact doneOf_ok hc h
end Go.Proofs.Ytennbiajnkobnaa
