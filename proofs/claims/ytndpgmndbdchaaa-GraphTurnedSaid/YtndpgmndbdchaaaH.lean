/- Out and In: the wrappers, and the document's. -/
import Derived.Test.YtndpgmndbdchaaaG
namespace Go.Proofs.Ytndpgmndbdchaaa
open Go.RowKit Go.PlainAid

theorem out_any (N n : Int) (v : Value) (L : Lks) (w : World) (h : LinksAt w v L) (hn : L.length ≤ 1000000) :
    Calls Try.prog 19 #[gv N v, .int .i64 n] w fun z w' => ∃ u, z = .returned u ∧ IntsAt w' u (sel 0 L n) ∧ (∀ k, u.ownBlock = some k → w.heap.size ≤ k) ∧ Below w.heap.size w w' := by
  have Hb := Lib.hid ((Below.refl w.heap.size w).alloc (Nat.le_refl _) (.cells #[.int .i64 N, v] 24))
  have H := Lib.hid (h.below Hb.out)
  unfold gv
  clear h
  go_enter Try.func19, Try.ntmps19
  go_wp2_with fail
  refine (touching0 N n v L _ H.out hn).mono ?_
  rintro e w' ⟨u, rfl, hi, hlt, hb⟩
  have Hb2 := Lib.hid hb
  have Hi := Lib.hid hi
  have Hlt := Lib.hid hlt
  clear hb hi hlt
  go_wp2_with fail
  go_ret
  exact ⟨_, rfl, Hi.out, fun k hk => by have := Hlt.out k hk; simp at this; omega, below_step (by simp) Hb.out Hb2.out⟩

theorem in_any (N n : Int) (v : Value) (L : Lks) (w : World) (h : LinksAt w v L) (hn : L.length ≤ 1000000) :
    Calls Try.prog 21 #[gv N v, .int .i64 n] w fun z w' => ∃ u, z = .returned u ∧ IntsAt w' u (sel 1 L n) ∧ Below w.heap.size w w' := by
  have Hb := Lib.hid ((Below.refl w.heap.size w).alloc (Nat.le_refl _) (.cells #[.int .i64 N, v] 24))
  have H := Lib.hid (h.below Hb.out)
  unfold gv
  clear h
  go_enter Try.func21, Try.ntmps21
  go_wp2_with fail
  refine (touching1 N n v L _ H.out hn).mono ?_
  rintro e w' ⟨u, rfl, hi, _, hb⟩
  have Hb2 := Lib.hid hb
  have Hi := Lib.hid hi
  clear hb hi
  go_wp2_with fail
  go_ret
  exact ⟨_, rfl, Hi.out, below_step (by simp) Hb.out Hb2.out⟩

set_option maxHeartbeats 2000000 in
set_option maxRecDepth 100000 in
theorem rout_some (b off len cap : Nat) (L : Lks) (N n : Int) (w : World) (hl : L.length = len) (hb : b < w.heap.size)
    (hc : ∀ i, i < len → w.cell? ⟨b, off + i * 2, none⟩ = some (.int .i64 (lk L i).1) ∧ w.cell? ⟨b, off + i * 2 + 1, none⟩ = some (.int .i64 (lk L i).2)) (hlb : len ≤ 1000000) :
    Calls Try.prog 20 #[gv N (.slice (some ⟨b, off, none⟩) len cap), .int .i64 n] w fun z w' => ∃ u, z = .returned u ∧ IntsAt w' u (sel 0 L n) ∧ Below w.heap.size w w' := by
  unfold gv
  obtain ⟨i0, hi0, hz0, hz1, hz2⟩ := info_parts infoInt
  obtain ⟨wb, hwb⟩ : ∃ wb, wb = w.alloc (.cells #[.int .i64 N, .slice (some ⟨b, off, none⟩) len cap] 28) := ⟨_, rfl⟩
  have hbel : Below w.heap.size w wb := by rw [hwb]; exact (Below.refl w.heap.size w).alloc (Nat.le_refl _) _
  have hbox : wb.cell? ⟨w.heap.size, 1, none⟩ = some (.slice (some ⟨b, off, none⟩) len cap) := by rw [hwb]; exact World.cell?_alloc_at _ _ _ _ rfl
  have hsz : wb.heap.size = w.heap.size + 1 := by rw [hwb]; simp
  have hst : SelHead (fun i => sideOf 0 (lk L i) == n) wb 0 (.slice (some ⟨w.heap.size + 1, 0, none⟩) 0 0) (wb.alloc (.cells #[] 3)) := by
    refine ⟨?_, (Below.refl _ wb).alloc (Nat.le_refl _) _⟩
    rw [← hsz]
    exact World.ownsRow_made (base := wb.heap.size) (e := 3) (size := 1) wb #[] 0 (Nat.le_refl _) (by omega) rfl
  have hb2 : b < wb.heap.size := by omega
  have hc' : ∀ i, i < len → wb.cell? ⟨b, off + i * 2, none⟩ = some (.int .i64 (lk L i).1) ∧ wb.cell? ⟨b, off + i * 2 + 1, none⟩ = some (.int .i64 (lk L i).2) :=
    fun i hi => ⟨(hbel.cell (by exact hb)).trans (hc i hi).1, (hbel.cell (by exact hb)).trans (hc i hi).2⟩
  have hbx : w.heap.size < wb.heap.size := by omega
  have HB0 := Lib.hid hbel
  have Hst := Lib.hid hst
  have Hc := Lib.hid hc'
  have Hl := Lib.hid hl
  clear hc hc' hl hst hbel hsz
  go_enter Try.func20, Try.ntmps20
  go_wp2_with fail
  rw [← hwb]
  clear hwb
  go_loopw [5, 6] (fun v i wr => ∃ k : Nat, i = .int .i64 k ∧ k ≤ len ∧ SelHead (fun i => sideOf 0 (lk L i) == n) wb k v wr) (fun _ i _ => len - (intOf i).toNat)
  case atStart => exact ⟨0, rfl, by omega, Hst.out⟩
  case round =>
    obtain ⟨k, rfl, hk, hF⟩ := hrel
    obtain ⟨ao, cv, rfl⟩ := owns_slice hF.1
    have HF := Lib.hid hF
    obtain ⟨hown, hbel2⟩ := hF
    have hz := hbel2.size
    have cb := (hbel2.cell (by exact hbx)).trans hbox
    have hs := selL_le (fun i => sideOf 0 (lk L i) == n) k
    by_cases hlt : k < len
    · have hlt' : (k : Int) < len := by omega
      obtain ⟨c1, c2⟩ := Hc.out k hlt
      have c1' := (hbel2.cell (by exact hb2)).trans c1
      have c2' := (hbel2.cell (by exact hb2)).trans c2
      obtain ⟨x, hx⟩ : ∃ x, x = (lk L k).1 := ⟨_, rfl⟩
      obtain ⟨y, hy⟩ : ∃ y, y = (lk L k).2 := ⟨_, rfl⟩
      rw [← hx] at c1'
      rw [← hy] at c2'
      have HO := Lib.hid hown
      have hside : sideOf 0 (lk L k) = x := by rw [hx]; rfl
      have Hside := Lib.hid hside
      obtain ⟨m, hm⟩ : ∃ m, m = (selL (fun i => sideOf 0 (lk L i) == n) k).length := ⟨_, rfl⟩
      rw [← hm] at hs
      have Hm := Lib.hid hm
      clear hown c1 c2 hx hy hside hm
      by_cases hq : (x == n) = true
      · have hp : (sideOf 0 (lk L k) == n) = true := by rw [Hside.out]; exact hq
        have Hp := Lib.hid hp
        clear hp
        go_wp2_with (at_builtin; refine wpList_append_own _ rfl _ _ 35 rfl wb.heap.size 3 i0 (.int .i64 0) 1 8 Try.underlying35 hi0 hz0 hz1 hz2 rfl (by decide) _ _ _ rfl (HO.out.alloc _) ⟨wr.heap.size, 0, none⟩ 1 1 [.int .i64 (k : Int)] rfl rfl (cell_one_at _ _ _ _ rfl) ?c2 ?c3 ?c4 ?c5 ?_)
        case c2 => intro u hu; simp at hu; subst hu; rfl
        case c3 => unfold maxLen; rw [← Hm.out]; omega
        case c4 => rw [← Hm.out]; omega
        case c5 => first | omega | (simp; omega)
        intro v1 w1 hown1 hg1 _
        have hB1 : Below wb.heap.size wr w1 := ((Below.refl wb.heap.size wr).alloc hz _).grown hg1 (by simp; omega) (fun k hk => (HO.out.lt k hk).1)
        have hnext : SelHead (fun i => sideOf 0 (lk L i) == n) wb (k + 1) v1 w1 := HF.out.more Hp.out hown1 hB1
        have Hnext := Lib.hid hnext
        clear hown1 hg1 hB1 hnext
        go_wp2_with fail
        go_roundw
        case rel => exact ⟨k + 1, by go_num, by omega, Hnext.out⟩
        case measure => simp [intOf]; omega
      · have hq' : (x == n) = false := by simpa using hq
        have hp : (sideOf 0 (lk L k) == n) = false := by rw [Hside.out]; exact hq'
        have Hnext := Lib.hid (HF.out.skip hp (Below.refl _ wr) hz)
        clear hp hq
        go_wp2_with fail
        go_roundw
        case rel => exact ⟨k + 1, by go_num, by omega, Hnext.out⟩
        case measure => simp [intOf]; omega
    · have hlt' : ¬ (k : Int) < len := by omega
      obtain rfl : len = k := by omega
      have hend := IntsAt.owns HF.out.1
      have Hend := Lib.hid hend
      have HB := Lib.hid hbel2
      clear hown hend hbel2
      go_wp2_with fail
      go_ret
      exact ⟨_, rfl, by unfold sel; rw [Hl.out]; exact Hend.out, below_step (by omega) HB0.out HB.out⟩

theorem rout_any (N n : Int) (v : Value) (L : Lks) (w : World) (h : LinksAt w v L) (hn : L.length ≤ 1000000) :
    Calls Try.prog 20 #[gv N v, .int .i64 n] w fun z w' => ∃ u, z = .returned u ∧ IntsAt w' u (sel 0 L n) ∧ Below w.heap.size w w' := by
  rcases h with ⟨a, cap, rfl, rfl⟩ | ⟨b, off, len, cap, rfl, hl, hp, hb, hlc, hc⟩
  · unfold gv
    go_enter Try.func20, Try.ntmps20
    go_wp2_with fail
    refine wp_loop_rounds 1 ?_
    rw [rounds_succ]
    go_wp2_with fail
    go_ret
    exact ⟨_, rfl, .inl ⟨_, 0, rfl, rfl⟩, by go_grown⟩
  · exact rout_some b off len cap L N n w hl hb hc (by omega)

set_option maxHeartbeats 2000000 in
set_option maxRecDepth 100000 in
theorem rin_some (b off len cap : Nat) (L : Lks) (N n : Int) (w : World) (hl : L.length = len) (hb : b < w.heap.size)
    (hc : ∀ i, i < len → w.cell? ⟨b, off + i * 2, none⟩ = some (.int .i64 (lk L i).1) ∧ w.cell? ⟨b, off + i * 2 + 1, none⟩ = some (.int .i64 (lk L i).2)) (hlb : len ≤ 1000000) :
    Calls Try.prog 22 #[gv N (.slice (some ⟨b, off, none⟩) len cap), .int .i64 n] w fun z w' => ∃ u, z = .returned u ∧ IntsAt w' u (sel 1 L n) ∧ Below w.heap.size w w' := by
  unfold gv
  obtain ⟨i0, hi0, hz0, hz1, hz2⟩ := info_parts infoInt
  obtain ⟨wb, hwb⟩ : ∃ wb, wb = w.alloc (.cells #[.int .i64 N, .slice (some ⟨b, off, none⟩) len cap] 28) := ⟨_, rfl⟩
  have hbel : Below w.heap.size w wb := by rw [hwb]; exact (Below.refl w.heap.size w).alloc (Nat.le_refl _) _
  have hbox : wb.cell? ⟨w.heap.size, 1, none⟩ = some (.slice (some ⟨b, off, none⟩) len cap) := by rw [hwb]; exact World.cell?_alloc_at _ _ _ _ rfl
  have hsz : wb.heap.size = w.heap.size + 1 := by rw [hwb]; simp
  have hst : SelHead (fun i => sideOf 1 (lk L i) == n) wb 0 (.slice (some ⟨w.heap.size + 1, 0, none⟩) 0 0) (wb.alloc (.cells #[] 3)) := by
    refine ⟨?_, (Below.refl _ wb).alloc (Nat.le_refl _) _⟩
    rw [← hsz]
    exact World.ownsRow_made (base := wb.heap.size) (e := 3) (size := 1) wb #[] 0 (Nat.le_refl _) (by omega) rfl
  have hb2 : b < wb.heap.size := by omega
  have hc' : ∀ i, i < len → wb.cell? ⟨b, off + i * 2, none⟩ = some (.int .i64 (lk L i).1) ∧ wb.cell? ⟨b, off + i * 2 + 1, none⟩ = some (.int .i64 (lk L i).2) :=
    fun i hi => ⟨(hbel.cell (by exact hb)).trans (hc i hi).1, (hbel.cell (by exact hb)).trans (hc i hi).2⟩
  have hbx : w.heap.size < wb.heap.size := by omega
  have HB0 := Lib.hid hbel
  have Hst := Lib.hid hst
  have Hc := Lib.hid hc'
  have Hl := Lib.hid hl
  clear hc hc' hl hst hbel hsz
  go_enter Try.func22, Try.ntmps22
  go_wp2_with fail
  rw [← hwb]
  clear hwb
  go_loopw [5, 6] (fun v i wr => ∃ k : Nat, i = .int .i64 k ∧ k ≤ len ∧ SelHead (fun i => sideOf 1 (lk L i) == n) wb k v wr) (fun _ i _ => len - (intOf i).toNat)
  case atStart => exact ⟨0, rfl, by omega, Hst.out⟩
  case round =>
    obtain ⟨k, rfl, hk, hF⟩ := hrel
    obtain ⟨ao, cv, rfl⟩ := owns_slice hF.1
    have HF := Lib.hid hF
    obtain ⟨hown, hbel2⟩ := hF
    have hz := hbel2.size
    have cb := (hbel2.cell (by exact hbx)).trans hbox
    have hs := selL_le (fun i => sideOf 1 (lk L i) == n) k
    by_cases hlt : k < len
    · have hlt' : (k : Int) < len := by omega
      obtain ⟨c1, c2⟩ := Hc.out k hlt
      have c1' := (hbel2.cell (by exact hb2)).trans c1
      have c2' := (hbel2.cell (by exact hb2)).trans c2
      obtain ⟨x, hx⟩ : ∃ x, x = (lk L k).1 := ⟨_, rfl⟩
      obtain ⟨y, hy⟩ : ∃ y, y = (lk L k).2 := ⟨_, rfl⟩
      rw [← hx] at c1'
      rw [← hy] at c2'
      have HO := Lib.hid hown
      have hside : sideOf 1 (lk L k) = y := by rw [hy]; rfl
      have Hside := Lib.hid hside
      obtain ⟨m, hm⟩ : ∃ m, m = (selL (fun i => sideOf 1 (lk L i) == n) k).length := ⟨_, rfl⟩
      rw [← hm] at hs
      have Hm := Lib.hid hm
      clear hown c1 c2 hx hy hside hm
      by_cases hq : (y == n) = true
      · have hp : (sideOf 1 (lk L k) == n) = true := by rw [Hside.out]; exact hq
        have Hp := Lib.hid hp
        clear hp
        go_wp2_with (at_builtin; refine wpList_append_own _ rfl _ _ 35 rfl wb.heap.size 3 i0 (.int .i64 0) 1 8 Try.underlying35 hi0 hz0 hz1 hz2 rfl (by decide) _ _ _ rfl (HO.out.alloc _) ⟨wr.heap.size, 0, none⟩ 1 1 [.int .i64 (k : Int)] rfl rfl (cell_one_at _ _ _ _ rfl) ?c2 ?c3 ?c4 ?c5 ?_)
        case c2 => intro u hu; simp at hu; subst hu; rfl
        case c3 => unfold maxLen; rw [← Hm.out]; omega
        case c4 => rw [← Hm.out]; omega
        case c5 => first | omega | (simp; omega)
        intro v1 w1 hown1 hg1 _
        have hB1 : Below wb.heap.size wr w1 := ((Below.refl wb.heap.size wr).alloc hz _).grown hg1 (by simp; omega) (fun k hk => (HO.out.lt k hk).1)
        have hnext : SelHead (fun i => sideOf 1 (lk L i) == n) wb (k + 1) v1 w1 := HF.out.more Hp.out hown1 hB1
        have Hnext := Lib.hid hnext
        clear hown1 hg1 hB1 hnext
        go_wp2_with fail
        go_roundw
        case rel => exact ⟨k + 1, by go_num, by omega, Hnext.out⟩
        case measure => simp [intOf]; omega
      · have hq' : (y == n) = false := by simpa using hq
        have hp : (sideOf 1 (lk L k) == n) = false := by rw [Hside.out]; exact hq'
        have Hnext := Lib.hid (HF.out.skip hp (Below.refl _ wr) hz)
        clear hp hq
        go_wp2_with fail
        go_roundw
        case rel => exact ⟨k + 1, by go_num, by omega, Hnext.out⟩
        case measure => simp [intOf]; omega
    · have hlt' : ¬ (k : Int) < len := by omega
      obtain rfl : len = k := by omega
      have hend := IntsAt.owns HF.out.1
      have Hend := Lib.hid hend
      have HB := Lib.hid hbel2
      clear hown hend hbel2
      go_wp2_with fail
      go_ret
      exact ⟨_, rfl, by unfold sel; rw [Hl.out]; exact Hend.out, below_step (by omega) HB0.out HB.out⟩

theorem rin_any (N n : Int) (v : Value) (L : Lks) (w : World) (h : LinksAt w v L) (hn : L.length ≤ 1000000) :
    Calls Try.prog 22 #[gv N v, .int .i64 n] w fun z w' => ∃ u, z = .returned u ∧ IntsAt w' u (sel 1 L n) ∧ Below w.heap.size w w' := by
  rcases h with ⟨a, cap, rfl, rfl⟩ | ⟨b, off, len, cap, rfl, hl, hp, hb, hlc, hc⟩
  · unfold gv
    go_enter Try.func22, Try.ntmps22
    go_wp2_with fail
    refine wp_loop_rounds 1 ?_
    rw [rounds_succ]
    go_wp2_with fail
    go_ret
    exact ⟨_, rfl, .inl ⟨_, 0, rfl, rfl⟩, by go_grown⟩
  · exact rin_some b off len cap L N n w hl hb hc (by omega)

end Go.Proofs.Ytndpgmndbdchaaa
