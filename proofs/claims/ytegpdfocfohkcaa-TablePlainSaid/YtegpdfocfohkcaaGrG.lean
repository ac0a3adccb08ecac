/- Out and In, of both: the walks. -/
import Derived.Test.YtegpdfocfohkcaaGrF
namespace Go.Proofs.Ytegpdfocfohkcaa
open Go.RowKit Go.PlainAid

def sideOf (e : Nat) (p : Int × Int) : Int := if e = 0 then p.1 else p.2
def sel (e : Nat) (L : Lks) (n : Int) : List Int := selL (fun i => sideOf e (lk L i) == n) L.length

set_option maxHeartbeats 2000000 in
set_option maxRecDepth 100000 in
theorem touching_some0 (b off len cap : Nat) (L : Lks) (N n : Int) (w : World) (hl : L.length = len) (hb : b < w.heap.size)
    (hc : ∀ i, i < len → w.cell? ⟨b, off + i * 2, none⟩ = some (.int .i64 (lk L i).1) ∧ w.cell? ⟨b, off + i * 2 + 1, none⟩ = some (.int .i64 (lk L i).2)) (hlb : len ≤ 1000000) :
    Calls Try.prog 62 #[gv N (.slice (some ⟨b, off, none⟩) len cap), .int .i64 0, .int .i64 n] w fun z w' => ∃ u, z = .returned u ∧ IntsAt w' u (sel 0 L n) ∧ (∀ k, u.ownBlock = some k → w.heap.size ≤ k) ∧ Below w.heap.size w w' := by
  unfold gv
  obtain ⟨i0, hi0, hz0, hz1, hz2⟩ := info_parts infoInt
  obtain ⟨wb, hwb⟩ : ∃ wb, wb = w.alloc (.cells #[.int .i64 N, .slice (some ⟨b, off, none⟩) len cap] 25) := ⟨_, rfl⟩
  have hbel : Below w.heap.size w wb := by rw [hwb]; exact (Below.refl w.heap.size w).alloc (Nat.le_refl _) _
  have hx : wb.cell? ⟨w.heap.size, 1, none⟩ = some (.slice (some ⟨b, off, none⟩) len cap) := by rw [hwb]; exact World.cell?_alloc_at _ _ _ _ rfl
  have hst : SelHead (fun i => sideOf 0 (lk L i) == n) w 0 (.slice none 0 0) wb := ⟨World.ownsRow_nil _ _ _ _, hbel⟩
  have Hst := Lib.hid hst
  have Hc := Lib.hid hc
  have Hl := Lib.hid hl
  clear hc hl hst hbel
  go_enter Try.func62, Try.ntmps62
  go_wp2_with fail
  rw [← hwb]
  clear hwb
  go_loopw [7, 13] (fun v i wr => ∃ k : Nat, i = .int .i64 k ∧ k ≤ len ∧ SelHead (fun i => sideOf 0 (lk L i) == n) w k v wr) (fun _ i _ => len - (intOf i).toNat)
  case atStart => exact ⟨0, rfl, by omega, Hst.out⟩
  case round =>
    obtain ⟨k, rfl, hk, hF⟩ := hrel
    obtain ⟨ao, cv, rfl⟩ := owns_slice hF.1
    have HF := Lib.hid hF
    obtain ⟨hown, hbel⟩ := hF
    have hz := hbel.size
    have hs := selL_le (fun i => sideOf 0 (lk L i) == n) k
    by_cases hlt : k < len
    · have hlt' : (k : Int) < len := by omega
      obtain ⟨c1, c2⟩ := Hc.out k hlt
      have c1' := (hbel.cell (by exact hb)).trans c1
      have c2' := (hbel.cell (by exact hb)).trans c2
      obtain ⟨x, hx⟩ : ∃ x, x = (lk L k).1 := ⟨_, rfl⟩
      obtain ⟨y, hy⟩ : ∃ y, y = (lk L k).2 := ⟨_, rfl⟩
      rw [← hx] at c1'
      rw [← hy] at c2'
      have HO := Lib.hid hown
      have hside : sideOf 0 (lk L k) = x := by first | (rw [hx]; rfl) | (rw [hy]; rfl)
      have Hside := Lib.hid hside
      obtain ⟨m, hm⟩ : ∃ m, m = (selL (fun i => sideOf 0 (lk L i) == n) k).length := ⟨_, rfl⟩
      rw [← hm] at hs
      have Hm := Lib.hid hm
      clear hown c1 c2 hx hy hside hm
      by_cases hq : (x == n) = true
      · have hp : (sideOf 0 (lk L k) == n) = true := by rw [Hside.out]; exact hq
        have Hp := Lib.hid hp
        clear hp
        go_wp2_with (at_builtin; refine wpList_append_own _ rfl _ _ 26 rfl w.heap.size 3 i0 (.int .i64 0) 1 8 Try.underlying26 hi0 hz0 hz1 hz2 rfl (by decide) _ _ _ rfl ((HO.out.alloc _).alloc _) ⟨wr.heap.size + 1, 0, none⟩ 1 1 [.int .i64 (k : Int)] rfl rfl (cell_one_at _ _ _ _ (size_alloc _ _).symm) ?c2 ?c3 ?c4 ?c5 ?_)
        case c2 => intro u hu; simp at hu; subst hu; rfl
        case c3 => unfold maxLen; rw [← Hm.out]; omega
        case c4 => rw [← Hm.out]; omega
        case c5 => first | omega | (simp; omega)
        intro v1 w1 hown1 hg1 _
        have hB1 : Below w.heap.size wr w1 := (((Below.refl w.heap.size wr).alloc hz _).alloc (by simp; omega) _).grown hg1 (by simp; omega) (fun k hk => (HO.out.lt k hk).1)
        have hnext : SelHead (fun i => sideOf 0 (lk L i) == n) w (k + 1) v1 w1 := HF.out.more Hp.out hown1 hB1
        have Hnext := Lib.hid hnext
        clear hown1 hg1 hB1 hnext
        go_wp2_with fail
        go_roundw
        case rel => exact ⟨k + 1, by go_num, by omega, Hnext.out⟩
        case measure => simp [intOf]; omega
      · have hq' : (x == n) = false := by simpa using hq
        have hp : (sideOf 0 (lk L k) == n) = false := by rw [Hside.out]; exact hq'
        have hB1 : Below wr.heap.size wr (wr.alloc (.cells #[.int .i64 x, .int .i64 y] 96)) := (Below.refl _ wr).alloc (Nat.le_refl _) _
        have Hnext := Lib.hid (HF.out.skip hp hB1 hz)
        clear hp hB1 hq
        go_wp2_with fail
        go_roundw
        case rel => exact ⟨k + 1, by go_num, by omega, Hnext.out⟩
        case measure => simp [intOf]; omega
    · have hlt' : ¬ (k : Int) < len := by omega
      obtain rfl : len = k := by omega
      have hend := IntsAt.owns HF.out.1
      have Hend := Lib.hid hend
      have HB := Lib.hid hbel
      have Hlt := Lib.hid (fun k hk => (HF.out.1.lt k hk).1)
      clear hown hend hbel
      go_wp2_with fail
      go_ret
      exact ⟨_, rfl, by unfold sel; rw [Hl.out]; exact Hend.out, Hlt.out, HB.out⟩

set_option maxHeartbeats 2000000 in
set_option maxRecDepth 100000 in
theorem touching_some1 (b off len cap : Nat) (L : Lks) (N n : Int) (w : World) (hl : L.length = len) (hb : b < w.heap.size)
    (hc : ∀ i, i < len → w.cell? ⟨b, off + i * 2, none⟩ = some (.int .i64 (lk L i).1) ∧ w.cell? ⟨b, off + i * 2 + 1, none⟩ = some (.int .i64 (lk L i).2)) (hlb : len ≤ 1000000) :
    Calls Try.prog 62 #[gv N (.slice (some ⟨b, off, none⟩) len cap), .int .i64 1, .int .i64 n] w fun z w' => ∃ u, z = .returned u ∧ IntsAt w' u (sel 1 L n) ∧ (∀ k, u.ownBlock = some k → w.heap.size ≤ k) ∧ Below w.heap.size w w' := by
  unfold gv
  obtain ⟨i0, hi0, hz0, hz1, hz2⟩ := info_parts infoInt
  obtain ⟨wb, hwb⟩ : ∃ wb, wb = w.alloc (.cells #[.int .i64 N, .slice (some ⟨b, off, none⟩) len cap] 25) := ⟨_, rfl⟩
  have hbel : Below w.heap.size w wb := by rw [hwb]; exact (Below.refl w.heap.size w).alloc (Nat.le_refl _) _
  have hx : wb.cell? ⟨w.heap.size, 1, none⟩ = some (.slice (some ⟨b, off, none⟩) len cap) := by rw [hwb]; exact World.cell?_alloc_at _ _ _ _ rfl
  have hst : SelHead (fun i => sideOf 1 (lk L i) == n) w 0 (.slice none 0 0) wb := ⟨World.ownsRow_nil _ _ _ _, hbel⟩
  have Hst := Lib.hid hst
  have Hc := Lib.hid hc
  have Hl := Lib.hid hl
  clear hc hl hst hbel
  go_enter Try.func62, Try.ntmps62
  go_wp2_with fail
  rw [← hwb]
  clear hwb
  go_loopw [7, 13] (fun v i wr => ∃ k : Nat, i = .int .i64 k ∧ k ≤ len ∧ SelHead (fun i => sideOf 1 (lk L i) == n) w k v wr) (fun _ i _ => len - (intOf i).toNat)
  case atStart => exact ⟨0, rfl, by omega, Hst.out⟩
  case round =>
    obtain ⟨k, rfl, hk, hF⟩ := hrel
    obtain ⟨ao, cv, rfl⟩ := owns_slice hF.1
    have HF := Lib.hid hF
    obtain ⟨hown, hbel⟩ := hF
    have hz := hbel.size
    have hs := selL_le (fun i => sideOf 1 (lk L i) == n) k
    by_cases hlt : k < len
    · have hlt' : (k : Int) < len := by omega
      obtain ⟨c1, c2⟩ := Hc.out k hlt
      have c1' := (hbel.cell (by exact hb)).trans c1
      have c2' := (hbel.cell (by exact hb)).trans c2
      obtain ⟨x, hx⟩ : ∃ x, x = (lk L k).1 := ⟨_, rfl⟩
      obtain ⟨y, hy⟩ : ∃ y, y = (lk L k).2 := ⟨_, rfl⟩
      rw [← hx] at c1'
      rw [← hy] at c2'
      have HO := Lib.hid hown
      have hside : sideOf 1 (lk L k) = y := by first | (rw [hx]; rfl) | (rw [hy]; rfl)
      have Hside := Lib.hid hside
      obtain ⟨m, hm⟩ : ∃ m, m = (selL (fun i => sideOf 1 (lk L i) == n) k).length := ⟨_, rfl⟩
      rw [← hm] at hs
      have Hm := Lib.hid hm
      clear hown c1 c2 hx hy hside hm
      by_cases hq : (y == n) = true
      · have hp : (sideOf 1 (lk L k) == n) = true := by rw [Hside.out]; exact hq
        have Hp := Lib.hid hp
        clear hp
        go_wp2_with (at_builtin; refine wpList_append_own _ rfl _ _ 26 rfl w.heap.size 3 i0 (.int .i64 0) 1 8 Try.underlying26 hi0 hz0 hz1 hz2 rfl (by decide) _ _ _ rfl ((HO.out.alloc _).alloc _) ⟨wr.heap.size + 1, 0, none⟩ 1 1 [.int .i64 (k : Int)] rfl rfl (cell_one_at _ _ _ _ (size_alloc _ _).symm) ?c2 ?c3 ?c4 ?c5 ?_)
        case c2 => intro u hu; simp at hu; subst hu; rfl
        case c3 => unfold maxLen; rw [← Hm.out]; omega
        case c4 => rw [← Hm.out]; omega
        case c5 => first | omega | (simp; omega)
        intro v1 w1 hown1 hg1 _
        have hB1 : Below w.heap.size wr w1 := (((Below.refl w.heap.size wr).alloc hz _).alloc (by simp; omega) _).grown hg1 (by simp; omega) (fun k hk => (HO.out.lt k hk).1)
        have hnext : SelHead (fun i => sideOf 1 (lk L i) == n) w (k + 1) v1 w1 := HF.out.more Hp.out hown1 hB1
        have Hnext := Lib.hid hnext
        clear hown1 hg1 hB1 hnext
        go_wp2_with fail
        go_roundw
        case rel => exact ⟨k + 1, by go_num, by omega, Hnext.out⟩
        case measure => simp [intOf]; omega
      · have hq' : (y == n) = false := by simpa using hq
        have hp : (sideOf 1 (lk L k) == n) = false := by rw [Hside.out]; exact hq'
        have hB1 : Below wr.heap.size wr (wr.alloc (.cells #[.int .i64 x, .int .i64 y] 96)) := (Below.refl _ wr).alloc (Nat.le_refl _) _
        have Hnext := Lib.hid (HF.out.skip hp hB1 hz)
        clear hp hB1 hq
        go_wp2_with fail
        go_roundw
        case rel => exact ⟨k + 1, by go_num, by omega, Hnext.out⟩
        case measure => simp [intOf]; omega
    · have hlt' : ¬ (k : Int) < len := by omega
      obtain rfl : len = k := by omega
      have hend := IntsAt.owns HF.out.1
      have Hend := Lib.hid hend
      have HB := Lib.hid hbel
      have Hlt := Lib.hid (fun k hk => (HF.out.1.lt k hk).1)
      clear hown hend hbel
      go_wp2_with fail
      go_ret
      exact ⟨_, rfl, by unfold sel; rw [Hl.out]; exact Hend.out, Hlt.out, HB.out⟩

theorem touching0 (N n : Int) (v : Value) (L : Lks) (w : World) (h : LinksAt w v L) (hn : L.length ≤ 1000000) :
    Calls Try.prog 62 #[gv N v, .int .i64 0, .int .i64 n] w fun z w' => ∃ u, z = .returned u ∧ IntsAt w' u (sel 0 L n) ∧ (∀ k, u.ownBlock = some k → w.heap.size ≤ k) ∧ Below w.heap.size w w' := by
  rcases h with ⟨a, cap, rfl, rfl⟩ | ⟨b, off, len, cap, rfl, hl, hp, hb, hlc, hc⟩
  · unfold gv
    go_enter Try.func62, Try.ntmps62
    go_wp2_with fail
    refine wp_loop_rounds 1 ?_
    rw [rounds_succ]
    go_wp2_with fail
    go_ret
    exact ⟨_, rfl, .inl ⟨none, 0, rfl, rfl⟩, fun k hk => by simp [Value.ownBlock] at hk, by go_grown⟩
  · exact touching_some0 b off len cap L N n w hl hb hc (by omega)
theorem touching1 (N n : Int) (v : Value) (L : Lks) (w : World) (h : LinksAt w v L) (hn : L.length ≤ 1000000) :
    Calls Try.prog 62 #[gv N v, .int .i64 1, .int .i64 n] w fun z w' => ∃ u, z = .returned u ∧ IntsAt w' u (sel 1 L n) ∧ (∀ k, u.ownBlock = some k → w.heap.size ≤ k) ∧ Below w.heap.size w w' := by
  rcases h with ⟨a, cap, rfl, rfl⟩ | ⟨b, off, len, cap, rfl, hl, hp, hb, hlc, hc⟩
  · unfold gv
    go_enter Try.func62, Try.ntmps62
    go_wp2_with fail
    refine wp_loop_rounds 1 ?_
    rw [rounds_succ]
    go_wp2_with fail
    go_ret
    exact ⟨_, rfl, .inl ⟨none, 0, rfl, rfl⟩, fun k hk => by simp [Value.ownBlock] at hk, by go_grown⟩
  · exact touching_some1 b off len cap L N n w hl hb hc (by omega)
end Go.Proofs.Ytegpdfocfohkcaa
