/- Clone of both. -/
import Derived.Test.YtgoioibfecgopaaBa4
import Derived.Handy
import Derived.WalkSpells
import Derived.WalkLawsBesides
namespace Go.Proofs.Ytgoioibfecgopaa
open Go.RowKit Go.PlainAid

def fresh (w : World) : Nat → Prop := fun k => w.heap.size ≤ k
theorem infoI : (Try.prog.info? 3).map (fun i => (i.zero, i.size, i.bytes)) = some (some (.int .i64 0), 1, 8) := by kernel_rfl
theorem infoSend : (Try.prog.info? 53).map (fun i => (i.zero, i.size, i.bytes)) = some (some (.agg #[.int .i64 0, .int .i64 0]), 2, 16) := by kernel_rfl

set_option maxRecDepth 100000 in
theorem clone_some (ad : Addr) (n cap : Nat) (xs : List Int) (w : World) (h : Has w (.slice (some ad) n cap) (dInts xs)) (hn : n ≤ 1000000) :
    Calls Try.prog 54 #[.slice (some ad) n cap] w fun e w' => ∃ u, e = .returned u ∧ Holds True (fresh w) w' u (dInts xs) ∧ Below w.heap.size w w' := by
  obtain ⟨i0, hi0, hz0, hz1, hz2⟩ := info_parts infoI
  have H := Lib.hid (Holds.later h (below_new w (.cells #[] 3)))
  have O := Lib.hid (Own.made (S := True) (P := fresh w) (E := 3) (n := 1) (Below.refl w.heap.size w))
  have hq := @Lib.run_eql_slice_nil Try.prog
  clear h
  go_enter Try.func54, Try.ntmps54
  go_wp2_with (at_builtin; refine app_rows rfl _ _ 26 3 i0 (.int .i64 0) 1 8 rfl Try.underlying26 hi0 hz0 hz1 hz2 rfl (by decide) True (fresh w) w _ _ [] _ 0 n cap n rfl O.out rfl (some ad) rfl H.out (flat_ints xs) (Nat.zero_add n) ?c1 ?c2 ?_)
  case c1 => unfold maxLen; omega
  case c2 => omega
  intro ao cv w' hO _
  have R := Lib.hid (show Holds True (fresh w) w' (.slice ao n cv) (dInts xs) from hO.holds fun k hk => (hO.ge k hk).1)
  have B := Lib.hid hO.bel
  clear hO
  go_wp2_with fail
  go_ret
  exact ⟨_, rfl, R.out, B.out⟩
set_option maxRecDepth 100000 in
theorem clone_none (n cap : Nat) (w : World) :
    Calls Try.prog 54 #[.slice none n cap] w fun e w' => e = .returned (.slice none 0 0) ∧ w = w' := by
  have hq := @Lib.run_eql_slice_nil Try.prog
  go_enter Try.func54, Try.ntmps54
  go_wp2_with fail
  go_ret
  exact ⟨rfl, rfl⟩
theorem clone_ints (v : Value) (xs : List Int) (w : World) (h : Has w v (dInts xs)) (hn : xs.length ≤ 1000000) :
    Calls Try.prog 54 #[v] w fun e w' => ∃ u, e = .returned u ∧ Holds True (fresh w) w' u (dInts xs) ∧ Below w.heap.size w w' := by
  obtain ⟨a, c, rfl⟩ := Holds.len h
  rw [List.length_map] at h ⊢
  cases a with
  | some ad => exact clone_some ad _ c xs w h hn
  | none =>
    refine (clone_none _ c w).mono ?_
    rintro e w' ⟨rfl, rfl⟩
    obtain rfl : xs = [] := by simpa using (Has.none h rfl).1
    exact ⟨_, rfl, .nil _ _ _ _ _, Below.refl _ _⟩

set_option maxRecDepth 100000 in
theorem cloneS_some (ad : Addr) (n cap : Nat) (xs : Lks) (w : World) (h : Has w (.slice (some ad) n cap) (dLinks xs)) (hn : n ≤ 1000000) :
    Calls Try.prog 56 #[.slice (some ad) n cap] w fun e w' => ∃ u, e = .returned u ∧ Holds True (fresh w) w' u (dLinks xs) ∧ Below w.heap.size w w' := by
  obtain ⟨i0, hi0, hz0, hz1, hz2⟩ := info_parts infoSend
  have H := Lib.hid (Holds.later h (below_new w (.cells #[] 53)))
  have O := Lib.hid (Own.made (S := True) (P := fresh w) (E := 53) (n := 2) (Below.refl w.heap.size w))
  have hq := @Lib.run_eql_slice_nil Try.prog
  clear h
  go_enter Try.func56, Try.ntmps56
  go_wp2_with (at_builtin; refine app_rows rfl _ _ 44 53 i0 (.agg #[.int .i64 0, .int .i64 0]) 2 16 rfl Try.underlying44 hi0 hz0 hz1 hz2 rfl (by decide) True (fresh w) w _ _ [] _ 0 n cap n rfl O.out rfl (some ad) rfl H.out (flat_links xs) (Nat.zero_add n) ?c1 ?c2 ?_)
  case c1 => unfold maxLen; omega
  case c2 => omega
  intro ao cv w' hO _
  have R := Lib.hid (show Holds True (fresh w) w' (.slice ao n cv) (dLinks xs) from hO.holds fun k hk => (hO.ge k hk).1)
  have B := Lib.hid hO.bel
  clear hO
  go_wp2_with fail
  go_ret
  exact ⟨_, rfl, R.out, B.out⟩
set_option maxRecDepth 100000 in
theorem cloneS_none (n cap : Nat) (w : World) :
    Calls Try.prog 56 #[.slice none n cap] w fun e w' => e = .returned (.slice none 0 0) ∧ w = w' := by
  have hq := @Lib.run_eql_slice_nil Try.prog
  go_enter Try.func56, Try.ntmps56
  go_wp2_with fail
  go_ret
  exact ⟨rfl, rfl⟩
theorem clone_sends (v : Value) (xs : Lks) (w : World) (h : Has w v (dLinks xs)) (hn : xs.length ≤ 1000000) :
    Calls Try.prog 56 #[v] w fun e w' => ∃ u, e = .returned u ∧ Holds True (fresh w) w' u (dLinks xs) ∧ Below w.heap.size w w' := by
  obtain ⟨a, c, rfl⟩ := Holds.len h
  rw [List.length_map] at h ⊢
  cases a with
  | some ad => exact cloneS_some ad _ c xs w h hn
  | none =>
    refine (cloneS_none _ c w).mono ?_
    rintro e w' ⟨rfl, rfl⟩
    obtain rfl : xs = [] := by simpa using (Has.none h rfl).1
    exact ⟨_, rfl, .nil _ _ _ _ _, Below.refl _ _⟩
end Go.Proofs.Ytgoioibfecgopaa
