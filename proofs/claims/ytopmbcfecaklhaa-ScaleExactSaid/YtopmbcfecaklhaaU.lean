/- Floats of bits. -/
import Derived.Test.YtopmbcfecaklhaaT
namespace Go.Proofs.Ytopmbcfecaklhaa
open Go.RowKit Go.PlainAid Go.Sort Go.Lib

set_option maxHeartbeats 1000000 in
set_option maxRecDepth 100000 in
theorem rrank_none (a : Option Addr) (cap : Nat) (w : World) :
    Calls Try.prog 23 #[.slice a 0 cap] w fun e w' => ∃ u, e = .returned u ∧ IntsAt w' u [] ∧ Below w.heap.size w w' := by
  have Hb := Lib.hid ((Below.refl w.heap.size w).alloc (Nat.le_refl _) (.cells #[] 3))
  go_enter Try.func23, Try.ntmps23
  go_wp2_with fail
  refine wp_loop_rounds 1 ?_
  rw [rounds_succ]
  go_wp2_with fail
  go_ret
  exact ⟨_, rfl, .inl ⟨_, _, rfl, rfl⟩, Hb.out⟩

theorem rrank_any (v : Value) (xs : List Nat) (w : World) (h : FloatsAt w v xs) (hx : ∀ i, xs.getD i 0 < 18446744073709551616) (hn : xs.length ≤ 1000000) :
    Calls Try.prog 23 #[v] w fun e w' => ∃ u r, e = .returned u ∧ IsRank xs r ∧ IntsAt w' u (r.map Int.ofNat) ∧ Below w.heap.size w w' := by
  rcases h with ⟨a, cap, rfl, rfl⟩ | ⟨b, off, len, cap, rfl, hl, hp, hb, hlc, hc⟩
  · refine (rrank_none a cap w).mono ?_
    rintro e w' ⟨u, rfl, h1, h2⟩
    exact ⟨u, [], rfl, ⟨by simp, by simp⟩, h1, h2⟩
  · exact rrank_some b off len cap xs w hl hb hc hx (by omega)

/-- A slice of bits in memory. -/
def BitsAt (w : World) (v : Value) (xs : List Nat) : Prop :=
  (∃ a cap, v = .slice a 0 cap ∧ xs = []) ∨
  ∃ b off len cap, v = .slice (some ⟨b, off, none⟩) len cap ∧ xs.length = len ∧ 0 < len ∧ b < w.heap.size ∧ len ≤ cap ∧ ∀ i, i < len → w.cell? ⟨b, off + i, none⟩ = some (.int .u64 (xs.getD i 0 : Nat))
theorem BitsAt.below {w w' : World} {v : Value} {xs : List Nat} (h : BitsAt w v xs) (hb : Below w.heap.size w w') : BitsAt w' v xs := by
  rcases h with h | ⟨b, off, len, cap, h1, h2, h3, h4, h6, h5⟩
  · exact .inl h
  · exact .inr ⟨b, off, len, cap, h1, h2, h3, by have := hb.size; omega, h6, fun i hi => (hb.cell (by exact h4)).trans (h5 i hi)⟩

theorem FloatsAt.owns {w : World} {base : Nat} {e : TypeId} {v : Value} {xs : List Nat} (h : w.ownsRow base e 1 v xs.length (xs.map (Value.float .f64))) : FloatsAt w v xs := by
  by_cases hx : xs.length = 0
  · obtain ⟨ao, cap, rfl⟩ := owns_slice h
    exact .inl ⟨ao, cap, by rw [hx], List.length_eq_zero_iff.1 hx⟩
  · have hc := fun g => h.cells (g := g)
    rcases h.2 with ⟨_, h0⟩ | ⟨g, cap, cur, rfl, _, hg, hle, _⟩
    · omega
    · refine .inr ⟨g, 0, xs.length, cap, rfl, rfl, by omega, lt_of_block hg, hle, fun i hi => ?_⟩
      have := hc g rfl i (.float .f64 (xs.getD i 0)) (by simp [List.getD, hi])
      have e : (⟨g, 0, none⟩ : Addr).add i = ⟨g, 0 + i, none⟩ := by unfold Addr.add; split <;> simp_all
      rw [e] at this; exact this

def FlHead (xs : List Nat) (w : World) (k : Nat) (v : Value) (wr : World) : Prop :=
  k ≤ xs.length ∧ k ≤ 20 ∧ wr.ownsRow w.heap.size 22 1 v k ((xs.map (Value.float .f64)).take k) ∧ Below w.heap.size w wr
theorem FlHead.more {xs : List Nat} {w wr w' : World} {k : Nat} {v v' : Value} (h : FlHead xs w k v wr) (hk : k < xs.length) (h20 : k < 20)
    (hown : w'.ownsRow w.heap.size 22 1 v' (k + 1) ((xs.map (Value.float .f64)).take k ++ [.float .f64 (xs.getD k 0)])) (hb : Below w.heap.size wr w') : FlHead xs w (k + 1) v' w' := by
  refine ⟨by omega, by omega, ?_, h.2.2.2.trans hb⟩
  have e : (xs.map (Value.float .f64)).take (k + 1) = (xs.map (Value.float .f64)).take k ++ [.float .f64 (xs.getD k 0)] := by
    rw [List.take_add_one]; simp [List.getD, hk]
  rw [e]; exact hown

set_option maxHeartbeats 2000000 in
set_option maxRecDepth 100000 in
theorem floats_some (b off m cap : Nat) (xs : List Nat) (w : World) (hl : xs.length = m) (hb : b < w.heap.size) (hc : ∀ i, i < m → w.cell? ⟨b, off + i, none⟩ = some (.int .u64 (xs.getD i 0 : Nat))) :
    Calls Try.prog 13 #[.slice (some ⟨b, off, none⟩) m cap] w fun e w' => ∃ u, e = .returned u ∧ FloatsAt w' u (xs.take 20) ∧ Below w.heap.size w w' := by
  obtain ⟨i0, hi0, hz0, hz1, hz2⟩ := info_parts infoFloat
  have Hc := Lib.hid hc
  have Hl := Lib.hid hl
  clear hc hl
  go_enter Try.func13, Try.ntmps13
  go_wp2_with fail
  have hst : FlHead xs w 0 (.slice (some ⟨w.heap.size, 0, none⟩) 0 0) (w.alloc (.cells #[] 22)) :=
    ⟨by omega, by omega, World.ownsRow_made w #[] 0 (Nat.le_refl _) (by omega) rfl, (Below.refl _ _).alloc (Nat.le_refl _) _⟩
  have Hst := Lib.hid hst
  clear hst
  go_loopw [3, 4] (fun v i wr => ∃ k : Nat, i = .int .i64 k ∧ FlHead xs w k v wr) (fun _ i _ => 30 - (intOf i).toNat)
  case atStart => exact ⟨0, rfl, Hst.out⟩
  case round =>
    obtain ⟨k, rfl, hF⟩ := hrel
    obtain ⟨ao, cv, rfl⟩ := owns_slice hF.2.2.1
    have HF := Lib.hid hF
    obtain ⟨hk, h20, hown, hbel⟩ := hF
    rw [Hl.out] at hk
    have hz := hbel.size
    by_cases hlt : k < m
    · have hlt' : (k : Int) < m := by omega
      by_cases h2 : k < 20
      · have h2' : (k : Int) < 20 := by omega
        have c1 : wr.cell? ⟨b, off + k, none⟩ = some (.int .u64 (xs.getD k 0 : Nat)) := (hbel.cell (by exact hb)).trans (Hc.out k hlt)
        have HO := Lib.hid hown
        obtain ⟨x, hx⟩ : ∃ x, x = xs.getD k 0 := ⟨_, rfl⟩
        rw [← hx] at c1
        have Hx := Lib.hid hx
        clear hown hbel hx
        have HB := Lib.hid (HF.out.2.2.2)
        go_wp2_with (at_builtin; refine wpList_append_own _ rfl _ _ 29 rfl w.heap.size 22 i0 (.float .f64 0) 1 8 Try.underlying29 hi0 hz0 hz1 hz2 rfl (by decide) _ _ _ rfl (HO.out.alloc _) ⟨wr.heap.size, 0, none⟩ 1 1 [.float .f64 x] rfl rfl (cell_one_new _ _ _) ?c2 ?c3 ?c4 ?c5 ?_)
        case c2 => intro u hu; simp at hu; subst hu; rfl
        case c3 => unfold maxLen; omega
        case c4 => omega
        case c5 => rw [size_new]; omega
        intro v1 w1 hown1 hg1 _
        have hB1 : Below w.heap.size wr w1 := ((Below.refl w.heap.size wr).alloc hz _).grown hg1 (by rw [size_new]; omega) (fun k hk => (HO.out.lt k hk).1)
        have hnext : FlHead xs w (k + 1) v1 w1 := HF.out.more (by rw [Hl.out]; exact hlt) h2 (by rw [← Hx.out]; exact hown1) hB1
        have Hnext := Lib.hid hnext
        clear hown1 hg1 hB1 hnext
        go_wp2_with fail
        go_roundw
        case rel => exact ⟨k + 1, by go_num, Hnext.out⟩
        case measure => simp [intOf]; omega
      · have h2' : ¬ (k : Int) < 20 := by omega
        obtain rfl : k = 20 := by omega
        clear hown
        have hend : FloatsAt wr (.slice ao 20 cv) (xs.take 20) := by
          have h := HF.out.2.2.1
          have e : (xs.take 20).length = 20 := by rw [List.length_take, Hl.out]; omega
          rw [← List.map_take] at h
          have h' : wr.ownsRow w.heap.size 22 1 (.slice ao 20 cv) (xs.take 20).length ((xs.take 20).map (Value.float .f64)) := by rw [e]; exact h
          exact FloatsAt.owns h'
        have Hend := Lib.hid hend
        have HB := Lib.hid hbel
        clear hend hbel
        go_wp2_with fail
        go_ret
        exact ⟨_, rfl, Hend.out, HB.out⟩
    · have hlt' : ¬ (k : Int) < m := by omega
      obtain rfl : m = k := by omega
      clear hown
      have hend : FloatsAt wr (.slice ao m cv) (xs.take 20) := by
        have h := HF.out.2.2.1
        have e : (xs.take m).length = m := by rw [List.length_take, Hl.out]; omega
        have e2 : xs.take 20 = xs.take m := by rw [List.take_of_length_le (by rw [Hl.out]; omega), List.take_of_length_le (by rw [Hl.out]; omega)]
        rw [← List.map_take] at h
        rw [e2]
        have h' : wr.ownsRow w.heap.size 22 1 (.slice ao m cv) (xs.take m).length ((xs.take m).map (Value.float .f64)) := by rw [e]; exact h
        have := FloatsAt.owns h'
        exact this
      have Hend := Lib.hid hend
      have HB := Lib.hid hbel
      clear hend hbel
      go_wp2_with fail
      go_ret
      exact ⟨_, rfl, Hend.out, HB.out⟩

set_option maxHeartbeats 1000000 in
set_option maxRecDepth 100000 in
theorem floats_none (a : Option Addr) (cap : Nat) (w : World) :
    Calls Try.prog 13 #[.slice a 0 cap] w fun e w' => ∃ u, e = .returned u ∧ FloatsAt w' u [] ∧ Below w.heap.size w w' := by
  have Hb := Lib.hid ((Below.refl w.heap.size w).alloc (Nat.le_refl _) (.cells #[] 22))
  go_enter Try.func13, Try.ntmps13
  go_wp2_with fail
  refine wp_loop_rounds 1 ?_
  rw [rounds_succ]
  go_wp2_with fail
  go_ret
  exact ⟨_, rfl, .inl ⟨_, _, rfl, rfl⟩, Hb.out⟩

theorem floats_any (v : Value) (xs : List Nat) (w : World) (h : BitsAt w v xs) :
    Calls Try.prog 13 #[v] w fun e w' => ∃ u, e = .returned u ∧ FloatsAt w' u (xs.take 20) ∧ Below w.heap.size w w' := by
  rcases h with ⟨a, cap, rfl, rfl⟩ | ⟨b, off, len, cap, rfl, hl, hp, hb, hlc, hc⟩
  · exact floats_none a cap w
  · exact floats_some b off len cap xs w hl hb hc
end Go.Proofs.Ytopmbcfecaklhaa
