/- Small functions: has, turned, Index. -/
import Derived.Test.YtegpdfocfohkcaaGrB
import Derived.Handy
namespace Go.Proofs.Ytegpdfocfohkcaa
open Go.RowKit Go.PlainAid

def gv (N : Int) (v : Value) : Value := .agg #[.int .i64 N, v]
def pv (p : Int × Int) : Value := .agg #[.int .i64 p.1, .int .i64 p.2]

theorem has_any (N n : Int) (v : Value) (r : Bool) (w : World) (hr : decide (0 ≤ n ∧ n < N) = r) :
    Calls Try.prog 55 #[gv N v, .int .i64 n] w fun e w' => e = .returned (.bool r) ∧ Below w.heap.size w w' := by
  have Hb := Lib.hid ((Below.refl w.heap.size w).alloc (Nat.le_refl _) (.cells #[.int .i64 N, v] 25))
  unfold gv
  by_cases h0 : 0 ≤ n
  · by_cases h1 : n < N
    · have hr' : r = true := by rw [← hr]; simp [h0, h1]
      have Hr := Lib.hid hr'
      clear hr hr'
      go_enter Try.func55, Try.ntmps55
      go_wp2_with fail
      go_ret
      exact ⟨by rw [Hr.out]; rfl, Hb.out⟩
    · have hr' : r = false := by rw [← hr]; simp [h1]
      have Hr := Lib.hid hr'
      clear hr hr'
      go_enter Try.func55, Try.ntmps55
      go_wp2_with fail
      go_ret
      exact ⟨by rw [Hr.out]; rfl, Hb.out⟩
  · have hr' : r = false := by rw [← hr]; simp [h0]
    have Hr := Lib.hid hr'
    clear hr hr'
    go_enter Try.func55, Try.ntmps55
    go_wp2_with fail
    go_ret
    exact ⟨by rw [Hr.out]; rfl, Hb.out⟩

theorem turned_any (p : Int × Int) (w : World) :
    Calls Try.prog 56 #[pv p] w fun e w' => e = .returned (pv (p.2, p.1)) ∧ Below w.heap.size w w' := by
  obtain ⟨a, b⟩ := p
  unfold pv
  simp only
  go_enter Try.func56, Try.ntmps56
  go_wp2_with fail
  refine bodyPost_ret (v := .agg #[.int .i64 b, .int .i64 a]) (by simp [results, Try.results56, go_sem]) rfl ⟨rfl, ?_⟩
  go_grown

set_option maxHeartbeats 1000000 in
theorem index_some (b off len cap : Nat) (L : Lks) (p : Int × Int) (w : World) (hl : L.length = len) (hb : b < w.heap.size)
    (hc : ∀ i, i < len → w.cell? ⟨b, off + i * 2, none⟩ = some (.int .i64 (lk L i).1) ∧ w.cell? ⟨b, off + i * 2 + 1, none⟩ = some (.int .i64 (lk L i).2)) (hlb : len ≤ 1000000) :
    Calls Try.prog 60 #[.slice (some ⟨b, off, none⟩) len cap, pv p] w fun e w' => e = .returned (.int .i64 (findL L p)) ∧ Below w.heap.size w w' := by
  obtain ⟨x, y⟩ := p
  unfold pv
  simp only
  have hbel := (Below.refl w.heap.size w).alloc (Nat.le_refl _) (.cells #[.int .i64 x, .int .i64 y] 96)
  have hc' : ∀ i, i < len → (w.alloc (.cells #[.int .i64 x, .int .i64 y] 96)).cell? ⟨b, off + i * 2, none⟩ = some (.int .i64 (lk L i).1) ∧ (w.alloc (.cells #[.int .i64 x, .int .i64 y] 96)).cell? ⟨b, off + i * 2 + 1, none⟩ = some (.int .i64 (lk L i).2) :=
    fun i hi => ⟨(hbel.cell (by exact hb)).trans (hc i hi).1, (hbel.cell (by exact hb)).trans (hc i hi).2⟩
  have hx : (w.alloc (.cells #[.int .i64 x, .int .i64 y] 96)).cell? ⟨w.heap.size, 0, none⟩ = some (.int .i64 x) := World.cell?_alloc_at _ _ _ _ rfl
  have hy : (w.alloc (.cells #[.int .i64 x, .int .i64 y] 96)).cell? ⟨w.heap.size, 1, none⟩ = some (.int .i64 y) := World.cell?_alloc_at _ _ _ _ rfl
  have Hc := Lib.hid hc'
  have Hl := Lib.hid hl
  have Hb := Lib.hid hbel
  clear hc hc' hl hbel
  go_enter Try.func60, Try.ntmps60
  go_wp2_with fail
  generalize w.alloc (.cells #[.int .i64 x, .int .i64 y] 96) = wb at *
  go_loopw [8] (fun i wr => ∃ k : Nat, i = .int .i64 k ∧ k ≤ len ∧ (∀ j, j < k → lk L j ≠ (x, y)) ∧ ∃ n, wr = wb.drewN n) (fun i _ => len - (intOf i).toNat)
  case atStart => exact ⟨0, rfl, by omega, fun j hj => by omega, 0, rfl⟩
  case round =>
    obtain ⟨k, rfl, hk, hno, n, rfl⟩ := hrel
    have Hs := Lib.hid hno
    clear hno
    by_cases hlt : k < len
    · have hlt' : (k : Int) < len := by omega
      obtain ⟨c1, c2⟩ := Hc.out k hlt
      obtain ⟨e1, he1⟩ : ∃ e1, e1 = (lk L k).1 := ⟨_, rfl⟩
      obtain ⟨e2, he2⟩ : ∃ e2, e2 = (lk L k).2 := ⟨_, rfl⟩
      rw [← he1] at c1
      rw [← he2] at c2
      have He1 := Lib.hid he1
      have He2 := Lib.hid he2
      clear he1 he2
      by_cases hq : (x == e1 && y == e2) = true
      · have Hq := Lib.hid hq
        go_wp2_with fail
        go_quiet (fail)
        go_wp2_with fail
        go_ret
        refine ⟨?_, below_drewN (below_drewN Hb.out _) _⟩
        have hh := Hq.out
        simp only [Bool.and_eq_true, beq_iff_eq] at hh
        rw [findL_hit (L := L) (p := (x, y)) (k := k) (by rw [Hl.out]; exact hlt) (by rw [hh.1, hh.2, He1.out, He2.out]) Hs.out]
        rfl
      · have Hq := Lib.hid hq
        have hq' : (x == e1 && y == e2) = false := by simpa using hq
        clear hq
        go_wp2_with fail
        go_quiet (fail)
        go_wp2_with fail
        go_roundw
        case rel =>
          refine ⟨k + 1, by go_num, by omega, fun j hj => ?_, _, rfl⟩
          by_cases hjk : j < k
          · exact Hs.out j hjk
          · obtain rfl : j = k := by omega
            intro h
            apply Hq.out
            rw [He1.out, He2.out, h]
            simp
        case measure => simp [intOf]; omega
    · have hlt' : ¬ (k : Int) < len := by omega
      go_wp2_with fail
      go_ret
      refine ⟨?_, below_drewN Hb.out _⟩
      rw [findL_miss (L := L) (p := (x, y)) (fun j hj => Hs.out j (by rw [Hl.out] at hj; omega))]
      rfl

theorem index_any (v : Value) (L : Lks) (p : Int × Int) (w : World) (h : LinksAt w v L) (hn : L.length ≤ 1000000) :
    Calls Try.prog 60 #[v, pv p] w fun e w' => e = .returned (.int .i64 (findL L p)) ∧ Below w.heap.size w w' := by
  rcases h with ⟨a, cap, rfl, rfl⟩ | ⟨b, off, len, cap, rfl, hl, hp, hb, hlc, hc⟩
  · obtain ⟨x, y⟩ := p
    unfold pv
    simp only
    go_enter Try.func60, Try.ntmps60
    go_wp2_with fail
    refine wp_loop_rounds 1 ?_
    rw [rounds_succ]
    go_wp2_with fail
    go_ret
    exact ⟨rfl, by go_grown⟩
  · exact index_some b off len cap L p w hl hb hc (by omega)
end Go.Proofs.Ytegpdfocfohkcaa
