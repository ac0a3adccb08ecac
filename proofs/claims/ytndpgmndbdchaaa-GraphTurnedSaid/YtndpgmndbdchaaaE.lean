/- Back, of both. -/
import Derived.Test.YtndpgmndbdchaaaD
namespace Go.Proofs.Ytndpgmndbdchaaa
open Go.RowKit Go.PlainAid

theorem LinksAt.at {w : World} {v : Value} {L : Lks} (h : LinksAt w v L) : ∃ a cap, v = .slice a L.length cap := by
  rcases h with ⟨a, cap, rfl, rfl⟩ | ⟨b, off, len, cap, rfl, hl, -⟩
  · exact ⟨a, cap, rfl⟩
  · exact ⟨_, cap, by rw [hl]⟩

/-- A boxed graph. -/
theorem boxed (N : Int) (v : Value) (t : TypeId) (L : Lks) (w : World) (h : LinksAt w v L) :
    ∃ wb, wb = w.alloc (.cells #[.int .i64 N, v] t) ∧ Below w.heap.size w wb ∧ LinksAt wb v L ∧ wb.cell? ⟨w.heap.size, 0, none⟩ = some (.int .i64 N) ∧ wb.cell? ⟨w.heap.size, 1, none⟩ = some v ∧ w.heap.size < wb.heap.size := by
  have hb := (Below.refl w.heap.size w).alloc (Nat.le_refl _) (.cells #[.int .i64 N, v] t)
  exact ⟨_, rfl, hb, h.below hb, World.cell?_alloc_at _ _ _ _ rfl, World.cell?_alloc_at _ _ _ _ rfl, by simp⟩

set_option maxHeartbeats 1000000 in
theorem back_any (N l : Int) (v : Value) (L : Lks) (w : World) (h : LinksAt w v L) (hn : L.length ≤ 1000000) :
    Calls Try.prog 25 #[gv N v, .int .i64 l] w fun e w' => e = .returned (.int .i64 (backL L l)) ∧ Below w.heap.size w w' := by
  obtain ⟨wb, hwb, hbel, hL, hx0, hx1, hsz⟩ := boxed N v 24 L w h
  obtain ⟨a, cap, hv⟩ := hL.at
  have Hb := Lib.hid hbel
  unfold gv
  by_cases h0 : l < 0
  · have hr : backL L l = -1 := by unfold backL; rw [if_pos (.inl h0)]
    have Hr := Lib.hid hr
    subst hv
    clear hr h hL
    go_enter Try.func25, Try.ntmps25
    go_wp2_with fail
    go_ret
    refine ⟨by rw [Hr.out]; rfl, by rw [← hwb]; exact Hb.out⟩
  · by_cases h1 : (L.length : Int) ≤ l
    · have hr : backL L l = -1 := by unfold backL; rw [if_pos (.inr h1)]
      have Hr := Lib.hid hr
      subst hv
      clear hr h hL
      go_enter Try.func25, Try.ntmps25
      go_wp2_with fail
      go_ret
      refine ⟨by rw [Hr.out]; rfl, by rw [← hwb]; exact Hb.out⟩
    · obtain ⟨k, rfl⟩ : ∃ k : Nat, l = (k : Int) := ⟨l.toNat, by omega⟩
      have hk : k < L.length := by omega
      have hr : backL L (k : Int) = findL L ((lk L k).2, (lk L k).1) := by unfold backL; rw [if_neg (by omega), Int.toNat_natCast]
      have Hr := Lib.hid hr
      rcases id hL with ⟨a, cap, rfl, rfl⟩ | ⟨b, off, len, cap, rfl, hl, hp, hb, hlc, hc⟩
      · simp at hk
      · obtain ⟨c1, c2⟩ := hc k (by omega)
        have hk' : k < len := by omega
        obtain ⟨p, hp'⟩ : ∃ p, p = lk L k := ⟨_, rfl⟩
        obtain ⟨x, y⟩ := p
        rw [← hp'] at c1 c2
        have Hp := Lib.hid hp'
        have HL := Lib.hid hL
        have Hl := Lib.hid hl
        have hk2 : (k : Int) < len := by omega
        clear hr h hL hp' hc hv hl hk h1
        go_enter Try.func25, Try.ntmps25
        go_wp2_with fail
        rw [← hwb]
        clear hwb
        go_region_held3 (fun w' => w'.cell? ⟨w.heap.size, 1, none⟩ = some (.slice (some ⟨b, off, none⟩) len cap) ∧ w'.cell? ⟨b, off + k * 2, none⟩ = some (.int .i64 x) ∧ w'.cell? ⟨b, off + k * 2 + 1, none⟩ = some (.int .i64 y)) (first | exact ⟨hx1, c1, c2⟩ | exact K1.out | exact K2.out)
          (first
            | (go_at_call 33; refine (turned_any (x, y) _).mono ?_; rintro e w1 ⟨rfl, hb0⟩; have hb1 : Below wb.heap.size wb w1 := (below_drewN (Below.refl _ wb) 1).trans hb0; have HL1 := Lib.hid (HL.out.below hb1); have K1 := Lib.hid (show w1.cell? ⟨w.heap.size, 1, none⟩ = some (.slice (some ⟨b, off, none⟩) len cap) ∧ w1.cell? ⟨b, off + k * 2, none⟩ = some (.int .i64 x) ∧ w1.cell? ⟨b, off + k * 2 + 1, none⟩ = some (.int .i64 y) from ⟨(hb1.cell (by exact hsz)).trans hx1, (hb1.cell (by exact hb)).trans c1, (hb1.cell (by exact hb)).trans c2⟩); have HB1 := Lib.hid hb1; clear hb1 hb0)
            | (go_at_call 32; refine (index_any _ L (y, x) _ HL1.out hn).mono ?_; rintro e w2 ⟨rfl, hb2⟩; have K2 := Lib.hid (show w2.cell? ⟨w.heap.size, 1, none⟩ = some (.slice (some ⟨b, off, none⟩) len cap) ∧ w2.cell? ⟨b, off + k * 2, none⟩ = some (.int .i64 x) ∧ w2.cell? ⟨b, off + k * 2 + 1, none⟩ = some (.int .i64 y) from ⟨(hb2.cell (Nat.lt_of_lt_of_le hsz HB1.out.size)).trans K1.out.1, (hb2.cell (Nat.lt_of_lt_of_le hb HB1.out.size)).trans K1.out.2.1, (hb2.cell (Nat.lt_of_lt_of_le hb HB1.out.size)).trans K1.out.2.2⟩); have HB2 := Lib.hid hb2; clear hb2))
        go_wp2_with fail
        go_ret
        exact ⟨by rw [Hr.out, ← Hp.out]; rfl, below_step (Nat.le_trans (Nat.le_of_lt hsz) HB1.out.size) (below_step (Nat.le_of_lt hsz) Hb.out HB1.out) HB2.out⟩

set_option maxHeartbeats 1000000 in
theorem rback_any (N l : Int) (v : Value) (L : Lks) (w : World) (h : LinksAt w v L) (hn : L.length ≤ 1000000) :
    Calls Try.prog 26 #[gv N v, .int .i64 l] w fun e w' => e = .returned (.int .i64 (backL L l)) ∧ Below w.heap.size w w' := by
  obtain ⟨wb, hwb, hbel, hL, hx0, hx1, hsz⟩ := boxed N v 28 L w h
  obtain ⟨a, cap, hv⟩ := hL.at
  have Hb := Lib.hid hbel
  unfold gv
  by_cases h0 : l < 0
  · have hr : backL L l = -1 := by unfold backL; rw [if_pos (.inl h0)]
    have Hr := Lib.hid hr
    subst hv
    clear hr h hL
    go_enter Try.func26, Try.ntmps26
    go_wp2_with fail
    go_ret
    refine ⟨by rw [Hr.out]; rfl, by rw [← hwb]; exact Hb.out⟩
  · by_cases h1 : (L.length : Int) ≤ l
    · have hr : backL L l = -1 := by unfold backL; rw [if_pos (.inr h1)]
      have Hr := Lib.hid hr
      subst hv
      clear hr h hL
      go_enter Try.func26, Try.ntmps26
      go_wp2_with fail
      go_ret
      refine ⟨by rw [Hr.out]; rfl, by rw [← hwb]; exact Hb.out⟩
    · obtain ⟨k, rfl⟩ : ∃ k : Nat, l = (k : Int) := ⟨l.toNat, by omega⟩
      have hk : k < L.length := by omega
      have hr : backL L (k : Int) = findL L ((lk L k).2, (lk L k).1) := by unfold backL; rw [if_neg (by omega), Int.toNat_natCast]
      have Hr := Lib.hid hr
      rcases id hL with ⟨a, cap, rfl, rfl⟩ | ⟨b, off, len, cap, rfl, hl, hp, hb, hlc, hc⟩
      · simp at hk
      · obtain ⟨c1, c2⟩ := hc k (by omega)
        have hk' : k < len := by omega
        obtain ⟨p, hp'⟩ : ∃ p, p = lk L k := ⟨_, rfl⟩
        obtain ⟨x, y⟩ := p
        rw [← hp'] at c1 c2
        have Hp := Lib.hid hp'
        have HL := Lib.hid hL
        have Hl := Lib.hid hl
        have hk2 : (k : Int) < len := by omega
        clear hr h hL hp' hc hv hl hk h1
        go_enter Try.func26, Try.ntmps26
        go_wp2_with fail
        rw [← hwb]
        clear hwb
        go_region_held3 (fun w' => w'.cell? ⟨w.heap.size, 0, none⟩ = some (.int .i64 N) ∧ w'.cell? ⟨w.heap.size, 1, none⟩ = some (.slice (some ⟨b, off, none⟩) len cap) ∧ w'.cell? ⟨b, off + k * 2, none⟩ = some (.int .i64 x) ∧ w'.cell? ⟨b, off + k * 2 + 1, none⟩ = some (.int .i64 y)) (first | exact ⟨hx0, hx1, c1, c2⟩ | exact K1.out)
          (first
            | (go_at_call 24; refine (rfind_any N y x _ L _ (show LinksAt wb.drew _ L from HL.out.below (below_drewN (Below.refl _ wb) 1)) hn).mono ?_; rintro e w1 ⟨rfl, hb0⟩; have hb1 : Below wb.heap.size wb w1 := (below_drewN (Below.refl _ wb) 1).trans hb0; have K1 := Lib.hid (show w1.cell? ⟨w.heap.size, 0, none⟩ = some (.int .i64 N) ∧ w1.cell? ⟨w.heap.size, 1, none⟩ = some (.slice (some ⟨b, off, none⟩) len cap) ∧ w1.cell? ⟨b, off + k * 2, none⟩ = some (.int .i64 x) ∧ w1.cell? ⟨b, off + k * 2 + 1, none⟩ = some (.int .i64 y) from ⟨(hb1.cell (by exact hsz)).trans hx0, (hb1.cell (by exact hsz)).trans hx1, (hb1.cell (by exact hb)).trans c1, (hb1.cell (by exact hb)).trans c2⟩); have HB1 := Lib.hid hb1; clear hb1 hb0))
        go_wp2_with fail
        go_ret
        exact ⟨by rw [Hr.out, ← Hp.out]; rfl, below_step (Nat.le_of_lt hsz) Hb.out HB1.out⟩
end Go.Proofs.Ytndpgmndbdchaaa
