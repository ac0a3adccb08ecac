/- A table's demands: the closures, and what they ask of a place. -/
import Derived.Test.YtgoioibfecgopaaTbE
import Derived.Test.YtgoioibfecgopaaTbH
import Derived.Test.YtgoioibfecgopaaTbJ
import Derived.Test.YtgoioibfecgopaaTbK
namespace Go.Proofs.Ytgoioibfecgopaa
open Go.RowKit Go.PlainAid

theorem picksOK_short (m : Int) (v1 v3 : Value) (a2 : Option Addr) (n c2 : Nat) (node : Int) (v4 : Value) (a : Nat) (r : Bool) (w : World) (h : 4 < n ∨ n = 0 ∨ m ≠ 1) (hn : n ≤ 1000000) (hr : r = true ↔ n = 0) :
    Calls Try.prog 79 #[.agg #[.int .i64 m, v1, .slice a2 n c2, v3, .int .i64 node, v4], fnGoes a] w fun e w' => e = .returned (.bool r) ∧ Below w.heap.size w w' := by
  unfold fnGoes
  by_cases h0 : n = 0
  · subst h0
    obtain rfl := bool_yes hr rfl
    clear hr h
    go_enter Try.func79, Try.ntmps79
    try simp only [List.append_eq, List.cons_append, List.nil_append]
    go_wp2_with fail
    refine wp_loop_rounds 1 ?_
    rw [rounds_succ]
    go_wp2_with fail
    go_ret
    exact ⟨rfl, by go_grown⟩
  · obtain rfl := bool_no hr h0
    by_cases h4 : 4 < n
    · have h4' : (4 : Int) < n := by omega
      have h4'' : decide ((4 : Int) < n) = true := by simp; omega
      clear hr h h0
      go_enter Try.func79, Try.ntmps79
      try simp only [List.append_eq, List.cons_append, List.nil_append]
      go_wp2_with fail
      go_ret
      exact ⟨rfl, by go_grown⟩
    · have h4' : ¬ (4 : Int) < n := by omega
      have h4'' : decide ((4 : Int) < n) = false := by simp; omega
      have hm : m ≠ 1 := by omega
      have hm1 : (m == 1) = false := by simpa using hm
      have h1 : (0 : Int) < n := by omega
      have h2 : decide ((0 : Int) < n) = true := by simp; omega
      clear hr h h0 hm
      go_enter Try.func79, Try.ntmps79
      try simp only [List.append_eq, List.cons_append, List.nil_append]
      go_wp2_with fail
      go_ret
      exact ⟨rfl, by go_grown⟩
theorem picksOK_at (L : Lks) (p : Pl) (v : Value) (a : Nat) (r : Bool) (w : World) (h : IsPl w p v) (hl : GoesAt w a L) (hn : L.length ≤ 1000000) (hxn : p.st.picks.length ≤ 1000000) (hr : r = true ↔ PicksOK L p.node p.all p.st) :
    Calls Try.prog 79 #[v, fnGoes a] w fun e w' => e = .returned (.bool r) ∧ Below w.heap.size w w' := by
  obtain ⟨a1, c1, a2, c2, a3, c3, a4, c4, rfl, _, h2, _, _⟩ := isPl_open h
  by_cases hs : 4 < p.st.picks.length ∨ p.st.picks.length = 0 ∨ p.st.mode ≠ 1
  · refine picksOK_short _ _ _ _ _ _ _ _ _ _ _ hs hxn (hr.trans ⟨fun g => ?_, fun g => ⟨by omega, by omega, fun i q hq => ?_⟩⟩)
    · by_cases h0 : p.st.picks.length = 0
      · exact h0
      · have := g.1
        have := g.2.1 (by omega)
        omega
    · have := lt_of_some hq; omega
  · exact picksOK_loop L p.node p.st.mode a2 c2 p.st.picks p.all a4 c4 _ _ a r w (by omega) (by omega) (by omega) h2 hl hn (hr.trans ⟨fun g => g.2.2, fun g => ⟨by omega, fun _ => by omega, g⟩⟩)
theorem takesOK_at (L : Lks) (p : Pl) (v : Value) (a : Nat) (r : Bool) (w : World) (h : IsPl w p v) (hl : GoesAt w a L) (hn : L.length ≤ 1000000) (hlow : Low L) (hxn : p.st.takes.length ≤ 1000000) (hr : r = true ↔ TakesOK L p.node p.all p.st.takes) :
    Calls Try.prog 81 #[v, fnGoes a] w fun e w' => e = .returned (.bool r) ∧ Below w.heap.size w w' := by
  obtain ⟨a1, c1, a2, c2, a3, c3, a4, c4, rfl, _, _, h3, _⟩ := isPl_open h
  exact takesOK_loop L p.node p.st.mode a3 c3 p.st.takes p.all a4 c4 _ _ a r w hxn h3 hl hn hlow hr
theorem staysOK_at (p : Pl) (v : Value) (r : Bool) (w : World) (h : IsPl w p v) (hw6 : p.st.waits.length ≤ 1000000) (hxn : p.st.takes.length ≤ 1000000) (hall : ∀ s ∈ p.all, s.waits.length ≤ 1000000) (hnx : ∀ t ∈ p.st.takes, HasS p.all t.next) (hr : r = true ↔ StaysOK p.all p.st) :
    Calls Try.prog 82 #[v] w fun e w' => e = .returned (.bool r) ∧ Below w.heap.size w w' := by
  obtain ⟨a1, c1, a2, c2, a3, c3, a4, c4, rfl, h1, _, h3, h4⟩ := isPl_open h
  exact staysOK_loop _ _ a1 c1 p.st.waits _ a3 c3 p.st.takes a4 c4 p.all r w hxn hw6 h1 h3 h4 hall hnx hr

/-- The variables that the closures have captured. -/
structure DemAt (w : World) (b c : Nat) (L : Lks) : Prop where
  g : GoesAt w b L
  fc : w.cell? ⟨c, 0, none⟩ = some (fnGoes b)
theorem DemAt.below {w w' : World} {b c : Nat} {L : Lks} (h : DemAt w b c L) (hb : Below w.heap.size w w') : DemAt w' b c L :=
  ⟨h.g.below hb, (hb.cell (World.block_lt_of_cell? w _ h.fc)).trans h.fc⟩
theorem waitsC_at (L : Lks) (p : Pl) (v : Value) (b c : Nat) (r : Bool) (w : World) (h : IsPl w p v) (hd : DemAt w b c L) (hn : L.length ≤ 1000000) (hxn : p.st.waits.length ≤ 1000000) (hr : r = true ↔ WaitsOK L p.node p.st) :
    Calls Try.prog 76 #[v, .pointer (some ⟨b, 0, none⟩)] w fun e w' => e = .returned (.bool r) ∧ Below w.heap.size w w' := by
  obtain ⟨a, h1, hl⟩ := hd.g.ex
  have H := Lib.hid h
  have H1 := Lib.hid hl
  have Hr := Lib.hid hr
  have h2 := cell_more h1
  unfold fnLinked at h2
  obtain ⟨a1, c1, a2, c2, a3, c3, a4, c4, rfl, _⟩ := isPl_open h
  clear h hl hr h1 hd
  go_enter Try.func76, Try.ntmps76
  go_wp2_with fail
  refine (waitsOK_at L p _ a r _ (H.out.later (below_new _ _)) (H1.out.below (below_new _ _)) hn hxn Hr.out).mono ?_
  rintro e w' ⟨rfl, hb⟩
  have B := Lib.hid ((below_new w _).trans (hb.mono (by simp)))
  clear hb
  go_wp2_with fail
  go_ret
  exact ⟨rfl, B.out⟩
theorem picksC_at (L : Lks) (p : Pl) (v : Value) (b c : Nat) (r : Bool) (w : World) (h : IsPl w p v) (hd : DemAt w b c L) (hn : L.length ≤ 1000000) (hxn : p.st.picks.length ≤ 1000000) (hr : r = true ↔ PicksOK L p.node p.all p.st) :
    Calls Try.prog 78 #[v, .pointer (some ⟨c, 0, none⟩)] w fun e w' => e = .returned (.bool r) ∧ Below w.heap.size w w' := by
  have H := Lib.hid h
  have H1 := Lib.hid hd.g
  have Hr := Lib.hid hr
  have h2 := cell_more hd.fc
  unfold fnGoes at h2
  obtain ⟨a1, c1, a2, c2, a3, c3, a4, c4, rfl, _⟩ := isPl_open h
  clear h hr hd
  go_enter Try.func78, Try.ntmps78
  go_wp2_with fail
  refine (picksOK_at L p _ b r _ (H.out.later (below_new _ _)) (H1.out.below (below_new _ _)) hn hxn Hr.out).mono ?_
  rintro e w' ⟨rfl, hb⟩
  have B := Lib.hid ((below_new w _).trans (hb.mono (by simp)))
  clear hb
  go_wp2_with fail
  go_ret
  exact ⟨rfl, B.out⟩
theorem takesC_at (L : Lks) (p : Pl) (v : Value) (b c : Nat) (r : Bool) (w : World) (h : IsPl w p v) (hd : DemAt w b c L) (hn : L.length ≤ 1000000) (hlow : Low L) (hxn : p.st.takes.length ≤ 1000000) (hr : r = true ↔ TakesOK L p.node p.all p.st.takes) :
    Calls Try.prog 80 #[v, .pointer (some ⟨c, 0, none⟩)] w fun e w' => e = .returned (.bool r) ∧ Below w.heap.size w w' := by
  have H := Lib.hid h
  have H1 := Lib.hid hd.g
  have Hr := Lib.hid hr
  have Hlow := Lib.hid hlow
  have h2 := cell_more hd.fc
  unfold fnGoes at h2
  obtain ⟨a1, c1, a2, c2, a3, c3, a4, c4, rfl, _⟩ := isPl_open h
  clear h hr hd hlow
  go_enter Try.func80, Try.ntmps80
  go_wp2_with fail
  refine (takesOK_at L p _ b r _ (H.out.later (below_new _ _)) (H1.out.below (below_new _ _)) hn Hlow.out hxn Hr.out).mono ?_
  rintro e w' ⟨rfl, hb⟩
  have B := Lib.hid ((below_new w _).trans (hb.mono (by simp)))
  clear hb
  go_wp2_with fail
  go_ret
  exact ⟨rfl, B.out⟩
end Go.Proofs.Ytgoioibfecgopaa
