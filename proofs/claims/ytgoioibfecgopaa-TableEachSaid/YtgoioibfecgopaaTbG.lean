/- The closures of a table's demands: linked, goes. -/
import Derived.Test.YtgoioibfecgopaaTbC
import Derived.Test.YtgoioibfecgopaaBa3
import Derived.Deep.RegionHeld3
namespace Go.Proofs.Ytgoioibfecgopaa
open Go.RowKit Go.PlainAid

theorem bool_yes {r : Bool} {p : Prop} (h : r = true ↔ p) (hp : p) : r = true := h.2 hp
theorem bool_no {r : Bool} {p : Prop} (h : r = true ↔ p) (hp : ¬ p) : r = false := by
  cases r with
  | false => rfl
  | true => exact absurd (h.1 rfl) hp
theorem bool_some (p : Prop) : ∃ r : Bool, r = true ↔ p := by
  by_cases h : p
  · exact ⟨true, by simp [h]⟩
  · exact ⟨false, by simp [h]⟩

def fnLinked (a : Nat) : Value := .func (.func 72) #[] #[.pointer (some ⟨a, 0, none⟩)]
def fnGoes (a : Nat) : Value := .func (.func 74) #[] #[.pointer (some ⟨a, 0, none⟩)]
/-- What the closure linked has captured: the graph's box. -/
structure LinkedAt (w : World) (a : Nat) (L : Lks) : Prop where
  ex : ∃ (N : Int) (v : Value), w.cell? ⟨a, 0, none⟩ = some (.int .i64 N) ∧ w.cell? ⟨a, 1, none⟩ = some v ∧ LinksAt w v L
structure GoesAt (w : World) (c : Nat) (L : Lks) : Prop where
  ex : ∃ a, w.cell? ⟨c, 0, none⟩ = some (fnLinked a) ∧ LinkedAt w a L
theorem LinkedAt.below {w w' : World} {a : Nat} {L : Lks} (h : LinkedAt w a L) (hb : Below w.heap.size w w') : LinkedAt w' a L := by
  obtain ⟨N, v, h1, h2, h3⟩ := h.ex
  have := World.block_lt_of_cell? w _ h1
  exact ⟨N, v, (hb.cell this).trans h1, (hb.cell (by exact this)).trans h2, h3.below hb⟩
theorem GoesAt.below {w w' : World} {a : Nat} {L : Lks} (h : GoesAt w a L) (hb : Below w.heap.size w w') : GoesAt w' a L := by
  obtain ⟨c, h1, h2⟩ := h.ex
  have := World.block_lt_of_cell? w _ h1
  exact ⟨c, (hb.cell this).trans h1, h2.below hb⟩

set_option maxHeartbeats 1000000 in
theorem linked_at (a : Nat) (L : Lks) (x y : Int) (r : Bool) (w : World) (h : LinkedAt w a L) (hn : L.length ≤ 1000000) (hr : r = true ↔ (x, y) ∈ L) :
    Calls Try.prog 72 #[.int .i64 x, .int .i64 y, .pointer (some ⟨a, 0, none⟩)] w fun e w' => e = .returned (.bool r) ∧ Below w.heap.size w w' := by
  obtain ⟨N, v, h1, h2, h3⟩ := h.ex
  obtain ⟨ao, cap, rfl⟩ := h3.at
  have H := Lib.hid h3
  have Hn := Lib.hid hn
  obtain ⟨q, hq⟩ : ∃ q, q = findL L (x, y) := ⟨_, rfl⟩
  have Hr : Hid (decide (0 ≤ q) = r) := Lib.hid (by
    rw [hq]
    by_cases hm : (x, y) ∈ L
    · rw [bool_yes hr hm]
      have : ¬ findL L (x, y) < 0 := fun h => (findL_neg.1 h) hm
      simp; omega
    · rw [bool_no hr hm]
      have := findL_neg.2 hm
      simp; omega)
  have Hq := Lib.hid hq.symm
  clear h h3 hn hr hq
  go_enter Try.func72, Try.ntmps72
  go_wp2_with fail
  refine (find_at N x y q _ L _ H.out Hn.out Hq.out).mono ?_
  rintro e w' ⟨rfl, hb⟩
  have B := Lib.hid hb
  clear hb
  go_wp2_with fail
  go_ret
  refine ⟨?_, B.out⟩
  rw [← Hr.out]; rfl

theorem linked_yes (a : Nat) (L : Lks) (x y : Int) (w : World) (h : LinkedAt w a L) (hn : L.length ≤ 1000000) (hr : (x, y) ∈ L) :
    Calls Try.prog 72 #[.int .i64 x, .int .i64 y, .pointer (some ⟨a, 0, none⟩)] w fun e w' => e = .returned (.bool true) ∧ Below w.heap.size w w' := linked_at a L x y true w h hn (by simp [hr])
theorem linked_no (a : Nat) (L : Lks) (x y : Int) (w : World) (h : LinkedAt w a L) (hn : L.length ≤ 1000000) (hr : ¬ (x, y) ∈ L) :
    Calls Try.prog 72 #[.int .i64 x, .int .i64 y, .pointer (some ⟨a, 0, none⟩)] w fun e w' => e = .returned (.bool false) ∧ Below w.heap.size w w' := linked_at a L x y false w h hn (by simp [hr])
def Goes (L : Lks) (x y c : Int) : Prop := (x, y) ∈ L ∧ 0 ≤ c ∧ c < 4
set_option maxHeartbeats 2000000 in
theorem goes_at (a : Nat) (L : Lks) (x y c : Int) (r : Bool) (w : World) (h : GoesAt w a L) (hn : L.length ≤ 1000000) (hr : r = true ↔ Goes L x y c) :
    Calls Try.prog 74 #[.int .i64 x, .int .i64 y, .int .i64 c, .pointer (some ⟨a, 0, none⟩)] w fun e w' => e = .returned (.bool r) ∧ Below w.heap.size w w' := by
  obtain ⟨b, h1, h2⟩ := h.ex
  unfold fnLinked at h1
  have H := Lib.hid h2
  have Hn := Lib.hid hn
  have Hr := Lib.hid hr
  clear h h2 hn hr
  by_cases hm : (x, y) ∈ L
  · have Hl := Lib.hid hm
    by_cases c0 : 0 ≤ c
    · by_cases c3 : c < 4
      · have hf : r = true := bool_yes Hr.out ⟨hm, c0, c3⟩
        have Hf := Lib.hid hf
        clear hf hm
        go_enter Try.func74, Try.ntmps74
        go_wp2_with fail
        refine (linked_yes b L x y _ H.out Hn.out Hl.out).mono ?_
        rintro e w' ⟨rfl, hb⟩
        have B := Lib.hid hb
        clear hb
        go_wp2_with fail
        go_ret
        exact ⟨by rw [Hf.out]; first | rfl | simp [*], B.out⟩
      · have hf : r = false := bool_no Hr.out (fun h => c3 h.2.2)
        have Hf := Lib.hid hf
        clear hf hm
        go_enter Try.func74, Try.ntmps74
        go_wp2_with fail
        refine (linked_yes b L x y _ H.out Hn.out Hl.out).mono ?_
        rintro e w' ⟨rfl, hb⟩
        have B := Lib.hid hb
        clear hb
        go_wp2_with fail
        go_ret
        exact ⟨by rw [Hf.out]; first | rfl | simp [*], B.out⟩
    · have hf : r = false := bool_no Hr.out (fun h => c0 h.2.1)
      have Hf := Lib.hid hf
      clear hf hm
      go_enter Try.func74, Try.ntmps74
      go_wp2_with fail
      refine (linked_yes b L x y _ H.out Hn.out Hl.out).mono ?_
      rintro e w' ⟨rfl, hb⟩
      have B := Lib.hid hb
      clear hb
      go_wp2_with fail
      go_ret
      exact ⟨by rw [Hf.out]; first | rfl | simp [*], B.out⟩
  · have Hl := Lib.hid hm
    have hf : r = false := bool_no Hr.out (fun h => hm h.1)
    have Hf := Lib.hid hf
    clear hf hm
    go_enter Try.func74, Try.ntmps74
    go_wp2_with fail
    refine (linked_no b L x y _ H.out Hn.out Hl.out).mono ?_
    rintro e w' ⟨rfl, hb⟩
    have B := Lib.hid hb
    clear hb
    go_wp2_with fail
    go_ret
    exact ⟨by rw [Hf.out]; first | rfl | simp [*], B.out⟩

/-- A place in a box of its own. -/
structure PlAt (w : World) (b : Nat) (p : Pl) : Prop where
  ex : ∃ a1 c1 a2 c2 a3 c3 a4 c4, w.cell? ⟨b, 0, none⟩ = some (.int .i64 p.st.mode) ∧ w.cell? ⟨b, 1, none⟩ = some (.slice a1 p.st.waits.length c1) ∧ w.cell? ⟨b, 2, none⟩ = some (.slice a2 p.st.picks.length c2) ∧ w.cell? ⟨b, 3, none⟩ = some (.slice a3 p.st.takes.length c3) ∧
    w.cell? ⟨b, 4, none⟩ = some (.int .i64 p.node) ∧ w.cell? ⟨b, 5, none⟩ = some (.slice a4 p.all.length c4) ∧ Has w (.slice a1 p.st.waits.length c1) (dInts p.st.waits) ∧ Has w (.slice a2 p.st.picks.length c2) (dPicks p.st.picks) ∧ Has w (.slice a3 p.st.takes.length c3) (dTakes p.st.takes) ∧ Has w (.slice a4 p.all.length c4) (dStates p.all)

set_option maxHeartbeats 1000000 in
theorem modeOK_at (p : Pl) (v : Value) (r : Bool) (w : World) (h : IsPl w p v) (hr : r = true ↔ 0 ≤ p.st.mode ∧ p.st.mode ≤ 2) :
    Calls Try.prog 75 #[v] w fun e w' => e = .returned (.bool r) ∧ Below w.heap.size w w' := by
  obtain ⟨cs, rfl, hc⟩ := h
  obtain ⟨v1, v2, v3, v4, rfl, _⟩ := hasL_pl hc
  obtain ⟨m, hm⟩ : ∃ m, m = p.st.mode := ⟨_, rfl⟩
  rw [← hm] at hr ⊢
  clear hc hm
  by_cases h0 : 0 ≤ m
  · by_cases h2 : m < 3
    · have hf : r = true := bool_yes hr ⟨h0, by omega⟩
      subst hf
      clear hr
      go_enter Try.func75, Try.ntmps75
      go_wp2_with fail
      go_ret
      exact ⟨rfl, by go_grown⟩
    · have hf : r = false := bool_no hr (by omega)
      subst hf
      clear hr
      go_enter Try.func75, Try.ntmps75
      go_wp2_with fail
      go_ret
      exact ⟨rfl, by go_grown⟩
  · have hf : r = false := bool_no hr (by omega)
    subst hf
    clear hr
    go_enter Try.func75, Try.ntmps75
    go_wp2_with fail
    go_ret
    exact ⟨rfl, by go_grown⟩
end Go.Proofs.Ytgoioibfecgopaa
