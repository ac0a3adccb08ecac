/- How each law begins; what it asks. -/
import Derived.Test.YtegpdfocfohkcaaGrX
namespace Go.Proofs.Ytegpdfocfohkcaa
open Go.RowKit Go.PlainAid

theorem take_le (L : Lks) : (L.take 40).length ≤ 40 := by rw [List.length_take]; omega
theorem cut_at (a : Option Addr) (cap : Nat) (L : Lks) (N : Int) (w : World) (h : LinksAt w (.slice a L.length cap) L) :
    Calls Try.prog 10 #[gv N (.slice a L.length cap)] w fun e w' => e = .returned (gv N (.slice a (L.take 40).length cap)) ∧ Below w.heap.size w w' := by
  rcases h with ⟨a', cap', e0, rfl⟩ | ⟨b, off, len, cap', e0, hl, hp, hb, hlc, hc⟩
  · simp only [List.length_nil]
    unfold gv
    cases a with
    | none =>
      go_enter Try.func10, Try.ntmps10
      go_wp2_with fail
      refine bodyPost_ret (v := .agg #[.int .i64 N, .slice none 0 cap]) (by simp [results, Try.results10, go_sem]) rfl ⟨rfl, ?_⟩
      go_grown
    | some a =>
      go_enter Try.func10, Try.ntmps10
      go_wp2_with fail
      refine bodyPost_ret (v := .agg #[.int .i64 N, .slice (some a) 0 cap]) (by simp [results, Try.results10, go_sem]) rfl ⟨rfl, ?_⟩
      go_grown
  · simp only [Value.slice.injEq] at e0
    obtain ⟨rfl, _, rfl⟩ := e0
    exact cut_some b off L.length cap (L.take 40).length N w (by omega) (by rw [List.length_take]; split <;> omega) (by rw [List.length_take]; omega)
theorem linksAt_cut {a : Option Addr} {cap : Nat} {L : Lks} {w : World} (h : LinksAt w (.slice a L.length cap) L) : LinksAt w (.slice a (L.take 40).length cap) (L.take 40) := by
  rcases h with ⟨a', cap', e0, rfl⟩ | ⟨b, off, len, cap', e0, hl, hp, hb, hlc, hc⟩
  · exact .inl ⟨a, cap, rfl, by simp⟩
  · simp only [Value.slice.injEq] at e0
    obtain ⟨rfl, _, rfl⟩ := e0
    have := LinksAt.take hl hb hlc hc (L.take 40).length (by rw [List.length_take]; omega)
    rw [show L.take (L.take 40).length = L.take 40 by rw [List.length_take, List.take_eq_take_iff]; omega] at this
    exact this

theorem Box.start (w : World) (N : Int) (v : Value) (T : TypeId) : Box (w.alloc (.cells #[.int .i64 N, v] T)) w.heap.size (.int .i64 N) v :=
  ⟨World.cell?_alloc_at _ _ _ _ rfl, World.cell?_alloc_at _ _ _ _ rfl, World.frozen?_alloc_at _ _ _ _ rfl, World.frozen?_alloc_at _ _ _ _ rfl⟩
theorem law_box {w w1 : World} {N : Int} {v v' : Value} {M : Lks} {T : TypeId} (hb : Below (w.alloc (.cells #[.int .i64 N, v] T)).heap.size (w.alloc (.cells #[.int .i64 N, v] T)) w1) (hM : LinksAt w v' M) :
    Box w1 w.heap.size (.int .i64 N) v ∧ ∃ we, we = (w1.setCell ⟨w.heap.size, 0, none⟩ (.int .i64 N)).setCell ⟨w.heap.size, 1, none⟩ v' ∧ KAt w N v' M we := by
  have h1 := (Box.start w N v T).below hb
  have hbw : Below w.heap.size w w1 := below_step (by simp) ((Below.refl _ w).alloc (Nat.le_refl _) _) hb
  have h2 := h1.fill (.int .i64 N) v'
  have h3 : Below w.heap.size w ((w1.setCell ⟨w.heap.size, 0, none⟩ (.int .i64 N)).setCell ⟨w.heap.size, 1, none⟩ v') := (hbw.setCell (by simp) _).setCell (by simp) _
  exact ⟨h1, _, rfl, ⟨h3, h2.1, h2.2.1, hM.below h3⟩⟩
theorem wf_take {L : Lks} (h : ∀ p ∈ L, wfp p) : ∀ p ∈ L.take 40, wfp p := fun p hp => h p (List.mem_of_mem_take hp)

theorem right_at (N : Int) (v : Value) (L : Lks) (r : Bool) (w : World) (h : LinksAt w v L) (hW : ∀ p ∈ L, wfp p) (hr : r = true ↔ RightG N L) :
    Calls Try.prog 29 #[gv N v] w fun e w' => e = .returned (.bool r) ∧ Below w.heap.size w w' := by
  cases r with
  | true => exact right_true N v L w h hW (hr.1 rfl)
  | false => exact right_false N v L w h hW (fun hg => by have := hr.2 hg; cases this)
theorem rright_at (N : Int) (v : Value) (L : Lks) (r : Bool) (w : World) (h : LinksAt w v L) (hr : r = true ↔ RightG N L) :
    Calls Try.prog 23 #[gv N v] w fun e w' => e = .returned (.bool r) ∧ Below w.heap.size w w' := by
  cases r with
  | true => exact rright_true N v L w h (hr.1 rfl)
  | false => exact rright_false N v L w h (fun hg => by have := hr.2 hg; cases this)
theorem bool_of (p : Prop) : ∃ r : Bool, r = true ↔ p := by
  by_cases h : p
  · exact ⟨true, by simp [h]⟩
  · exact ⟨false, by simp [h]⟩
theorem rfind_at2 (N x y q : Int) (v : Value) (L : Lks) (w : World) (h : LinksAt w v L) (hn : L.length ≤ 1000000) (hq : findL L (x, y) = q) :
    Calls Try.prog 21 #[gv N v, .int .i64 x, .int .i64 y] w fun e w' => e = .returned (.int .i64 q) ∧ Below w.heap.size w w' := by
  subst hq; exact rfind_any N x y v L w h hn
/-- How far nodes are, whatever the number asked. -/
theorem dist_both (N : Nat) (n : Int) (L : Lks) (hR : InR N L) (h1 : 1 ≤ N) (h6 : N ≤ 6) (hn : L.length ≤ 1000000) : ∃ D : List Int, D.length ≤ 6 ∧ (∀ a : Nat, n = (a : Int) → a < N → IsDist N L a D) ∧
    (∀ v w, LinksAt w v L → Calls Try.prog 43 #[gv N v, .int .i64 n] w fun e w' => ∃ s c, e = .returned (.slice s D.length c) ∧ IntsAt w' (.slice s D.length c) D ∧ Below w.heap.size w w') ∧
    (∀ v w, LinksAt w v L → Calls Try.prog 39 #[gv N v, .int .i64 n] w fun e w' => ∃ s c, e = .returned (.slice s D.length c) ∧ IntsAt w' (.slice s D.length c) D ∧ Below w.heap.size w w') := by
  by_cases hin : 0 ≤ n ∧ n < N
  · obtain ⟨a, rfl⟩ : ∃ a : Nat, n = (a : Int) := ⟨n.toNat, by omega⟩
    have ha : a < N := by omega
    obtain ⟨D, hD⟩ := isDist_ex N a L
    refine ⟨D, by rw [hD.1]; exact h6, fun a' e _ => by rw [← e]; exact hD, fun v w hL => dists_at N a v L D w hL hR h1 h6 ha hn hD, fun v w hL => ?_⟩
    refine (rdist_at N a v L D w hL hR h1 h6 ha hn hD).mono ?_
    rintro e w' ⟨u, rfl, hi, hb⟩
    obtain ⟨s, c, rfl⟩ := intsAt_slice hi
    exact ⟨s, c, rfl, hi, hb⟩
  · refine ⟨[], by simp, fun a e ha => absurd ⟨by omega, by omega⟩ hin, fun v w _ => ?_, fun v w _ => ?_⟩
    · refine (dist_out N n v w hin).mono ?_
      rintro e w' ⟨u, rfl, hi, hb⟩
      obtain ⟨s, c, rfl⟩ := intsAt_slice hi
      exact ⟨s, c, rfl, hi, hb⟩
    · refine (rdist_no N n v w hin).mono ?_
      rintro e w' ⟨u, rfl, hi, hb⟩
      obtain ⟨s, c, rfl⟩ := intsAt_slice hi
      exact ⟨s, c, rfl, hi, hb⟩
end Go.Proofs.Ytegpdfocfohkcaa
