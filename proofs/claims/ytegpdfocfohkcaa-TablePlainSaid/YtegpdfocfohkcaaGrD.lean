/- The document's Find; Find, Back of both. -/
import Derived.Test.YtegpdfocfohkcaaGrC
namespace Go.Proofs.Ytegpdfocfohkcaa
open Go.RowKit Go.PlainAid

set_option maxHeartbeats 1000000 in
theorem rfind_some (b off len cap : Nat) (L : Lks) (N x y : Int) (w : World) (hl : L.length = len) (hb : b < w.heap.size)
    (hc : ∀ i, i < len → w.cell? ⟨b, off + i * 2, none⟩ = some (.int .i64 (lk L i).1) ∧ w.cell? ⟨b, off + i * 2 + 1, none⟩ = some (.int .i64 (lk L i).2)) (hlb : len ≤ 1000000) :
    Calls Try.prog 21 #[gv N (.slice (some ⟨b, off, none⟩) len cap), .int .i64 x, .int .i64 y] w fun e w' => e = .returned (.int .i64 (findL L (x, y))) ∧ Below w.heap.size w w' := by
  unfold gv
  obtain ⟨wb, hwb⟩ : ∃ wb, wb = w.alloc (.cells #[.int .i64 N, .slice (some ⟨b, off, none⟩) len cap] 34) := ⟨_, rfl⟩
  have hbel : Below w.heap.size w wb := by rw [hwb]; exact (Below.refl w.heap.size w).alloc (Nat.le_refl _) _
  have hc' : ∀ i, i < len → wb.cell? ⟨b, off + i * 2, none⟩ = some (.int .i64 (lk L i).1) ∧ wb.cell? ⟨b, off + i * 2 + 1, none⟩ = some (.int .i64 (lk L i).2) :=
    fun i hi => ⟨(hbel.cell (by exact hb)).trans (hc i hi).1, (hbel.cell (by exact hb)).trans (hc i hi).2⟩
  have hx : wb.cell? ⟨w.heap.size, 1, none⟩ = some (.slice (some ⟨b, off, none⟩) len cap) := by rw [hwb]; exact World.cell?_alloc_at _ _ _ _ rfl
  have Hc := Lib.hid hc'
  have Hl := Lib.hid hl
  have Hb := Lib.hid hbel
  clear hc hc' hl hbel
  go_enter Try.func21, Try.ntmps21
  go_wp2_with fail
  rw [← hwb]
  clear hwb
  go_loopw [7] (fun i wr => ∃ k : Nat, i = .int .i64 k ∧ k ≤ len ∧ (∀ j, j < k → lk L j ≠ (x, y)) ∧ wr = wb) (fun i _ => len - (intOf i).toNat)
  case atStart => exact ⟨0, rfl, by omega, fun j hj => by omega, rfl⟩
  case round =>
    obtain ⟨k, rfl, hk, hno, rfl⟩ := hrel
    have Hs := Lib.hid hno
    clear hno
    by_cases hlt : k < len
    · have hlt' : (k : Int) < len := by omega
      obtain ⟨c1, c2⟩ := Hc.out k hlt
      obtain ⟨e1, he1⟩ : ∃ e1, e1 = (lk L k).1 := ⟨_, rfl⟩
      obtain ⟨e2, he2⟩ : ∃ e2, e2 = (lk L k).2 := ⟨_, rfl⟩
      rw [← he1] at c1
      rw [← he2] at c2
      have He1 := Lib.hid he1
      have He2 := Lib.hid he2
      clear he1 he2
      by_cases hq : (e1 == x) = true
      · by_cases hr : (e2 == y) = true
        · have Hq := Lib.hid hq
          have Hr := Lib.hid hr
          go_wp2_with fail
          go_ret
          refine ⟨?_, Hb.out⟩
          have hh := Hq.out
          have hi := Hr.out
          simp only [beq_iff_eq] at hh hi
          rw [findL_hit (L := L) (p := (x, y)) (k := k) (by rw [Hl.out]; exact hlt) (by rw [← hh, ← hi, He1.out, He2.out]) Hs.out]
          rfl
        · have Hr := Lib.hid hr
          have hr' : (e2 == y) = false := by simpa using hr
          clear hr
          go_wp2_with fail
          go_roundw
          case rel =>
            refine ⟨k + 1, by go_num, by omega, fun j hj => ?_, trivial⟩
            by_cases hjk : j < k
            · exact Hs.out j hjk
            · obtain rfl : j = k := by omega
              intro h
              apply Hr.out
              rw [He2.out, h]
              simp
          case measure => simp [intOf]; omega
      · have Hq := Lib.hid hq
        have hq' : (e1 == x) = false := by simpa using hq
        clear hq
        go_wp2_with fail
        go_roundw
        case rel =>
          refine ⟨k + 1, by go_num, by omega, fun j hj => ?_, trivial⟩
          by_cases hjk : j < k
          · exact Hs.out j hjk
          · obtain rfl : j = k := by omega
            intro h
            apply Hq.out
            rw [He1.out, h]
            simp
        case measure => simp [intOf]; omega
    · have hlt' : ¬ (k : Int) < len := by omega
      go_wp2_with fail
      go_ret
      refine ⟨?_, Hb.out⟩
      rw [findL_miss (L := L) (p := (x, y)) (fun j hj => Hs.out j (by rw [Hl.out] at hj; omega))]
      rfl

theorem rfind_any (N x y : Int) (v : Value) (L : Lks) (w : World) (h : LinksAt w v L) (hn : L.length ≤ 1000000) :
    Calls Try.prog 21 #[gv N v, .int .i64 x, .int .i64 y] w fun e w' => e = .returned (.int .i64 (findL L (x, y))) ∧ Below w.heap.size w w' := by
  rcases h with ⟨a, cap, rfl, rfl⟩ | ⟨b, off, len, cap, rfl, hl, hp, hb, hlc, hc⟩
  · unfold gv
    go_enter Try.func21, Try.ntmps21
    go_wp2_with fail
    refine wp_loop_rounds 1 ?_
    rw [rounds_succ]
    go_wp2_with fail
    go_ret
    exact ⟨rfl, by go_grown⟩
  · exact rfind_some b off len cap L N x y w hl hb hc (by omega)

theorem find_any (N x y : Int) (v : Value) (L : Lks) (w : World) (h : LinksAt w v L) (hn : L.length ≤ 1000000) :
    Calls Try.prog 45 #[gv N v, .int .i64 x, .int .i64 y] w fun e w' => e = .returned (.int .i64 (findL L (x, y))) ∧ Below w.heap.size w w' := by
  have Hb := Lib.hid ((Below.refl w.heap.size w).alloc (Nat.le_refl _) (.cells #[.int .i64 N, v] 25))
  have H := Lib.hid (h.below Hb.out)
  unfold gv
  clear h
  go_enter Try.func45, Try.ntmps45
  go_wp2_with fail
  refine (index_any v L (x, y) _ H.out hn).mono ?_
  rintro e w' ⟨rfl, hb⟩
  have Hb2 := Lib.hid hb
  clear hb
  go_wp2_with fail
  go_ret
  exact ⟨rfl, below_step (by simp) Hb.out Hb2.out⟩
end Go.Proofs.Ytegpdfocfohkcaa
