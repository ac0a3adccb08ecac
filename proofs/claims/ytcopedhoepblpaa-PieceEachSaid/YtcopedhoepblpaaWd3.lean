/- Numbers as bytes: texts put together. -/
import Derived.Test.YtcopedhoepblpaaCm02
import Derived.Test.YtcopedhoepblpaaWd2
import Derived.Deep.QuietTactic
import Derived.BigQuiet
set_option maxRecDepth 100000
namespace Go.Proofs.Ytcopedhoepblpaa
open Go.RowKit Go.PlainAid
def takeR (s : ByteArray) (at_ most : Int) : Int × ByteArray × Int :=
  if (getR s at_).1 ≠ 0 then ((getR s at_).1, ⟨#[]⟩, 0)
  else if max most 0 < (getR s at_).2.1 then (2, ⟨#[]⟩, 0)
  else if (s.size : Int) - (getR s at_).2.2 < (getR s at_).2.1 then (5, ⟨#[]⟩, 0)
  else (0, s.extract (getR s at_).2.2.toNat ((getR s at_).2.2 + (getR s at_).2.1).toNat, (getR s at_).2.2 + (getR s at_).2.1)
theorem getR_in {s : ByteArray} {a : Int} (h : (getR s a).1 = 0) : 0 ≤ a ∧ a < (getR s a).2.2 ∧ (getR s a).2.2 ≤ s.size ∧ 0 ≤ (getR s a).2.1 ∧ (getR s a).2.1 ≤ 2147483647 ∧ (getR s a).2.2 ≤ a + 5 := by
  unfold getR at *
  split at h
  · simp at h
  · rename_i h1
    rw [if_neg h1]
    split at h
    · rename_i h2
      rw [if_pos h2]
      obtain ⟨g1, g2, g3, g4, g5⟩ := num_in s a.toNat h2
      dsimp only
      omega
    · rename_i h2; exact absurd h h2
def TextPost (s : ByteArray) (at_ most : Int) (w : World) (e : Ending) (w' : World) : Prop :=
  Below w.heap.size w w' ∧ (((takeR s at_ most).1 ≠ 0 ∧ Panics (takeR s at_ most).1 e) ∨
    ((takeR s at_ most).1 = 0 ∧ e = .returned (.tuple #[.string (takeR s at_ most).2.1, .int .i64 (takeR s at_ most).2.2])))
def TakeWork (s : ByteArray) (at_ most : Int) (Bx Bt : Nat) (w : World) (e : Ending) (w' : World) : Prop :=
  ∃ w1, Below w.heap.size w w1 ∧ (((takeR s at_ most).1 ≠ 0 ∧ Panics (takeR s at_ most).1 e ∧ w1 = w') ∨
    ((takeR s at_ most).1 = 0 ∧ e = .returned (.tuple #[]) ∧ (w1.setCell ⟨Bx, 0, none⟩ (.string (takeR s at_ most).2.1)).setCell ⟨Bt, 0, none⟩ (.int .i64 (takeR s at_ most).2.2) = w'))
/-- Behind the guard in Take: what the two named results' cells hold. -/
def TakeMid (w : World) (x : ByteArray) (t : Int) (w' : World) : Prop :=
  Below w.heap.size w w' ∧ w.heap.size + 5 ≤ w'.heap.size ∧ w'.heap[w.heap.size + 3]? = some (.cells #[.string x] 9 (0, 0)) ∧ w'.heap[w.heap.size + 4]? = some (.cells #[.int .i64 t] 3 (0, 0))
theorem TakeMid.set {w w' : World} {x : ByteArray} {t : Int} (h : TakeMid w x t w') (k : Nat) (hk : w.heap.size + 5 ≤ k) (v : Value) : TakeMid w x t (w'.setCell ⟨k, 0, none⟩ v) := by
  obtain ⟨h1, h2, h3, h4⟩ := h
  refine ⟨h1.setCell (by simp; omega) _, by simpa using h2, ?_, ?_⟩
  · rw [Below.heap_setCell _ _ _ _ (by simp; omega)]; exact h3
  · rw [Below.heap_setCell _ _ _ _ (by simp; omega)]; exact h4
theorem takeR_zero {s : ByteArray} {a m : Int} (h : (takeR s a m).1 ≠ 0) : (takeR s a m).2.1 = ⟨#[]⟩ ∧ (takeR s a m).2.2 = 0 := by
  unfold takeR at *
  split
  · exact ⟨rfl, rfl⟩
  · split
    · exact ⟨rfl, rfl⟩
    · split
      · exact ⟨rfl, rfl⟩
      · simp_all
end Go.Proofs.Ytcopedhoepblpaa
namespace Go.Proofs.Ytcopedhoepblpaa
open Go.RowKit Go.PlainAid
set_option maxHeartbeats 400000 in
theorem rcut_any (n : Int) (w : World) :
    Calls Try.prog 72 #[.int .i64 n] w fun e w' => e = .returned (.int .i64 (max 0 (min n 2147483647))) ∧ w = w' := by
  go_enter Try.func72, Try.ntmps72
  go_wp2
  go_ret
  exact ⟨rfl, rfl⟩
theorem conv_one (w : World) (c : Int) (b : UInt8) (h : (b.toNat : Int) = c) :
    (convert 53 9 (.slice (some ⟨w.heap.size, 0, none⟩) 1 1)).run Try.prog (w.alloc (.cells #[.int .u8 c] 5)) = .ok (.string (strB [b])) (w.alloc (.cells #[.int .u8 c] 5)) := by
  refine run_convert_bytes_back _ _ _ _ _ 1 [b] Try.underlying53 Try.underlying5 Try.underlying9 ?_
  intro j hj
  obtain rfl : j = 0 := by simp at hj; omega
  rw [cell_one_new _ _ _ 0 (.int .u8 c) rfl]
  simp [h]
theorem strB_append (a b : List UInt8) : strB a ++ strB b = strB (a ++ b) := by
  ext1; simp [strB]
def RPutHead (n : Int) (w : World) (m : Nat) (v : Value) (wr : World) : Prop :=
  m ≤ 2147483647 ∧ ∃ f acc, m < 128 ^ (f + 1) ∧ putB n = acc ++ putGo f m ∧ acc.length + f ≤ 4 ∧ v = .string (strB acc) ∧ Below w.heap.size w wr
set_option maxHeartbeats 1000000 in
theorem rput_any (n : Int) (w : World) :
    Calls Try.prog 51 #[.int .i64 n] w fun e w' => e = .returned (.string (strB (putB n))) ∧ Below w.heap.size w w' := by
  have hcut : putB n = putGo 4 (min (max n 0) 2147483647).toNat := rfl
  obtain ⟨m0, hm0⟩ : ∃ m : Nat, max 0 (min n 2147483647) = (m : Int) := ⟨(min (max n 0) 2147483647).toNat, by omega⟩
  have hm1 : m0 ≤ 2147483647 := by omega
  have hm2 : (min (max n 0) 2147483647).toNat = m0 := by omega
  rw [hm2] at hcut
  have Hcut := Lib.hid hcut
  clear hcut hm2
  go_enter Try.func51, Try.ntmps51
  go_wp2_with fail
  refine (rcut_any _ _).mono ?_
  rintro e w' ⟨rfl, rfl⟩
  rw [hm0]
  clear hm0
  go_wp2_with fail
  go_loopw [0, 3] (fun i v wr => ∃ m : Nat, i = .int .i64 m ∧ RPutHead n w m v wr) (fun i _ _ => (intOf i).toNat)
  case atStart => exact ⟨m0, rfl, hm1, 4, [], by omega, Hcut.out, by simp, rfl, Below.refl _ _⟩
  case round =>
    obtain ⟨m, rfl, hmx, f, acc, hm, hput, hl, rfl, hbel⟩ := hrel
    have Hput := Lib.hid hput
    have Hbel := Lib.hid hbel
    have hz := hbel.size
    have hsz : (strB acc).size ≤ 4 := by rw [strB_size]; omega
    clear hput hbel
    by_cases hlt : 127 < m
    · obtain ⟨g, rfl, hg1, hg2⟩ := putGo_more hlt hm
      have Hg1 := Lib.hid hg1
      have Hm := Lib.hid hm
      have Hg2 := Lib.hid hg2
      clear hg1 hm hg2
      go_wp2_with fail
      rw [conv_one wr _ (UInt8.ofNat (m % 128 + 128)) (by rw [toNat_ofNat8 (by omega)]; omega)]
      simp only [Result.andThen]
      rw [Oper.upon_value]
      generalize UInt8.ofNat (m % 128 + 128) = b at *
      have hs1 : (strB [b]).size ≤ 1 := by rw [strB_size]; simp
      go_wp2_with fail
      go_roundw
      case rel =>
        refine ⟨m / 128, by go_num, by omega, g, acc ++ [b], Hg2.out, by rw [Hput.out, Hg1.out]; simp, by simp; omega, by rw [strB_append], Hbel.out.alloc (by omega) _⟩
      case measure => simp [intOf]; omega
    · have hge : m ≤ 127 := by omega
      have Hm := Lib.hid hm
      clear hm
      go_wp2_with fail
      rw [conv_one wr _ (UInt8.ofNat m) (by rw [toNat_ofNat8 (by omega)])]
      simp only [Result.andThen]
      rw [Oper.upon_value]
      have hp1 := putGo_last (f := f) hge
      have Hp1 := Lib.hid hp1
      clear hp1
      generalize UInt8.ofNat m = b at *
      have hs1 : (strB [b]).size ≤ 1 := by rw [strB_size]; simp
      go_wp2_with fail
      go_ret
      exact ⟨by rw [Hput.out, Hp1.out, ← strB_append]; rfl, Hbel.out.alloc (by omega) _⟩
set_option maxHeartbeats 1000000 in
theorem rputs_some (b off len cap : Nat) (xs : List Int) (w : World) (hl : xs.length = len) (hsz : len ≤ 1000000) (hb : b < w.heap.size)
    (hc : ∀ i, i < len → w.cell? ⟨b, off + i, none⟩ = some (.int .i64 (xs.getD i 0))) :
    Calls Try.prog 26 #[.slice (some ⟨b, off, none⟩) len cap] w fun e w' => e = .returned (.string (strB (putsB xs))) ∧ Below w.heap.size w w' := by
  have Hc := Lib.hid hc
  have Hl := Lib.hid hl
  clear hc hl
  go_enter Try.func26, Try.ntmps26
  go_wp2_with fail
  go_loopw [3, 4] (fun v i wr => ∃ k : Nat, i = .int .i64 k ∧ k ≤ len ∧ v = .string (strB (putsB (xs.take k))) ∧ Below w.heap.size w wr) (fun _ i _ => len - (intOf i).toNat)
  case atStart => exact ⟨0, rfl, by omega, rfl, Below.refl _ _⟩
  case round =>
    obtain ⟨k, rfl, hk, rfl, hbel⟩ := hrel
    have hz := hbel.size
    have Hbel := Lib.hid hbel
    clear hbel
    by_cases hlt : k < len
    · have hcell : wr.cell? ⟨b, off + k, none⟩ = some (.int .i64 (xs.getD k 0)) := (Hbel.out.cell (by exact hb)).trans (Hc.out k hlt)
      obtain ⟨x, hx⟩ : ∃ x, x = xs.getD k 0 := ⟨_, rfl⟩
      rw [← hx] at hcell
      have htk := take_snocI xs k (by rw [Hl.out]; exact hlt)
      rw [← hx] at htk
      have hsz1 : (strB (putsB (xs.take k))).size ≤ 5000000 := by
        rw [strB_size]; have := putsB_len (xs.take k); have := List.length_take_le k xs; omega
      have hsz2 : (strB (putB x)).size ≤ 5 := by rw [strB_size]; exact putB_len x
      have hfin : putsB (xs.take (k + 1)) = putsB (xs.take k) ++ putB x := by rw [htk, putsB_snoc]
      have Hfin := Lib.hid hfin
      clear hx htk hfin
      go_wp2_with fail
      refine (rput_any x wr).mono ?_
      rintro e w1 ⟨rfl, hb1⟩
      go_wp2_with fail
      go_roundw
      case rel =>
        exact ⟨k + 1, by go_num, by omega, by rw [Hfin.out, ← strB_append], Hbel.out.trans (hb1.mono hz)⟩
      case measure => simp [intOf]; omega
    · go_wp2_with fail
      go_ret
      exact ⟨by rw [List.take_of_length_le (by rw [Hl.out]; omega)]; rfl, Hbel.out⟩
set_option maxHeartbeats 1000000 in
theorem rputs_none (a : Option Addr) (cap : Nat) (w : World) :
    Calls Try.prog 26 #[.slice a 0 cap] w fun e w' => e = .returned (.string (strB (putsB []))) ∧ Below w.heap.size w w' := by
  go_enter Try.func26, Try.ntmps26
  go_wp2_with fail
  refine wp_loop_rounds 1 ?_
  rw [rounds_succ]
  go_wp2_with fail
  go_ret
  exact ⟨rfl, Below.refl _ _⟩
def RGetHead (s : ByteArray) (a k : Nat) (m t : Int) : Prop :=
  k ≤ 5 ∧ 0 ≤ m ∧ m < 128 ^ k ∧ t = 128 ^ k ∧ numGo s (5 - k) (a + k) k m = num s a
set_option maxHeartbeats 4000000 in
theorem rget_any (s : ByteArray) (at_ : Int) (w : World) (hs : s.size ≤ 1000000) :
    Calls Try.prog 46 #[.string s, .int .i64 at_] w fun e w' =>
      e = .returned (.tuple #[.int .i64 (getR s at_).2.1, .int .i64 (getR s at_).2.2, .int .i64 (getR s at_).1]) ∧ w = w' := by
  by_cases h : at_ < 0 ∨ (s.size : Int) < at_
  · have hg := Lib.hid (getR_bad h)
    rcases h with h | h
    · go_enter Try.func46, Try.ntmps46
      go_wp2_with fail
      go_ret3
      exact ⟨by rw [hg.out]; rfl, rfl⟩
    · by_cases h0 : at_ < 0
      · omega
      · go_enter Try.func46, Try.ntmps46
        go_wp2_with fail
        go_ret3
        exact ⟨by rw [hg.out]; rfl, rfl⟩
  · have h0 : 0 ≤ at_ := by omega
    have h1 : at_ ≤ s.size := by omega
    obtain ⟨a, rfl⟩ := Int.eq_ofNat_of_zero_le h0
    have hle : a ≤ s.size := by omega
    have hge := @getR_err s a hle
    have hgo := @getR_ok s a hle
    have Hge := Lib.hid hge
    have Hgo := Lib.hid hgo
    clear h hge hgo
    go_enter Try.func46, Try.ntmps46
    go_wp2_with fail
    go_loop [7, 8, 9] (fun n tm i => ∃ (k : Nat) (m t : Int), i = .int .i64 k ∧ n = .int .i64 m ∧ tm = .int .i64 t ∧ RGetHead s a k m t) (fun _ _ i => 6 - (intOf i).toNat)
    case atStart => exact ⟨0, 0, 1, rfl, rfl, rfl, by omega, by omega, by decide, by decide, rfl⟩
    case round =>
      obtain ⟨k, m, t, rfl, rfl, rfl, hk, m0, m1, ht, hgo⟩ := hrel
      by_cases hk5 : k = 5
      · have hn : num s a = (2, 0, 0) := by rw [← hgo, hk5]; rfl
        have Hn := Lib.hid (Hge.out (by rw [hn]; decide))
        rw [hn] at Hn
        have hk6 : ¬ (k : Int) < 5 := by omega
        clear hk5 hgo hn
        go_wp2_with fail
        go_ret3
        exact ⟨by rw [Hn.out]; rfl, rfl⟩
      · have hk4 : k ≤ 4 := by omega
        by_cases hlt : a + k < s.size
        · have e1 := get_bt s (a + k) hlt
          rw [numGo_eq s k (a + k) m hk4 hlt, ← ht] at hgo
          have b0 := bt_nonneg s (a + k)
          have b1 := bt_le s (a + k)
          obtain ⟨p1, p2, p3⟩ := pow128 k hk4
          rw [← ht] at m1 p2 p3
          have hnx : t * 128 = 128 ^ (k + 1) := by rw [ht, Int.pow_succ]
          have q0 : 0 ≤ bt s (a + k) % 128 * t := Int.mul_nonneg (by omega) (by omega)
          have q1 : bt s (a + k) % 128 * t ≤ 127 * t := Int.mul_le_mul_of_nonneg_right (by omega) (by omega)
          generalize bt s (a + k) = b at *
          generalize hq : b % 128 * t = q at *
          have hv1 : m + q < 128 ^ (k + 1) := by rw [← hnx]; omega
          have Hgo2 := Lib.hid hgo
          have Hv1 := Lib.hid hv1
          have Hnx := Lib.hid hnx
          clear hgo hv1 hnx ht p1
          have hk6 : (k : Int) < 5 := by omega
          clear hk hk5
          by_cases c1 : 2147483647 < m + q
          · have hn : num s a = (2, 0, 0) := by rw [← Hgo2.out, if_pos (.inl c1)]
            have Hn := Lib.hid (Hge.out (by rw [hn]; decide))
            rw [hn] at Hn
            clear hn
            go_wp2_with fail
            go_ret3
            exact ⟨by rw [Hn.out]; rfl, rfl⟩
          · by_cases c2 : 128 ≤ b
            · by_cases c3 : 4 ≤ k
              · have hn : num s a = (2, 0, 0) := by rw [← Hgo2.out, if_pos (.inr ⟨by omega, c2⟩)]
                have Hn := Lib.hid (Hge.out (by rw [hn]; decide))
                rw [hn] at Hn
                have h4 : ((k : Int) == 4) = true := beq_iff_eq.2 (by omega)
                clear hn
                go_wp2_with fail
                go_ret3
                exact ⟨by rw [Hn.out]; rfl, rfl⟩
              · have h4 : ((k : Int) == 4) = false := beq_eq_false_iff_ne.2 (by omega)
                have hr := Lib.hid (Hgo2.out.symm.trans ((if_neg (by omega)).trans ((if_neg (by omega)).trans (if_neg (by omega)))))
                go_wp2_with fail
                go_round
                case rel => exact ⟨_, _, _, _, _, _, ⟨k + 1, rfl, _, rfl, _, rfl, by omega, by omega, Hv1.out, Hnx.out, hr.out.symm⟩, rfl, rfl, rfl, rfl, rfl, by go_num⟩
                case measure => simp [intOf]; omega
            · have h4 : ¬ 127 < b := by omega
              by_cases c3 : b = 0 ∧ 0 < k
              · have hn : num s a = (4, 0, 0) := by rw [← Hgo2.out, if_neg (by omega), if_pos c3]
                have Hn := Lib.hid (Hge.out (by rw [hn]; decide))
                rw [hn] at Hn
                have hb0 : (b == 0) = true := beq_iff_eq.2 c3.1
                have hk0 : 0 < k := c3.2
                clear hn c3
                by_cases h5 : (k : Int) == 4
                all_goals
                  go_wp2_with fail
                  go_ret3
                  exact ⟨by rw [Hn.out]; rfl, rfl⟩
              · have hn : num s a = (0, m + q, k + 1) := by rw [← Hgo2.out, if_neg (by omega), if_neg (by omega), if_pos (by omega)]
                have Hn := Lib.hid (Hgo.out (by rw [hn]))
                rw [hn] at Hn
                have h6 : 0 < b ∨ k < 1 := by omega
                clear hn c3
                rcases h6 with h6 | h6
                · have hb0 : (b == 0) = false := beq_eq_false_iff_ne.2 (by omega)
                  by_cases h5 : (k : Int) == 4
                  all_goals
                    go_wp2_with fail
                    go_ret3
                    exact ⟨by rw [Hn.out]; simp; omega, rfl⟩
                · have h5 : ((k : Int) == 4) = false := beq_eq_false_iff_ne.2 (by omega)
                  go_wp2_with fail
                  all_goals
                    go_ret3
                    exact ⟨by rw [Hn.out]; simp; omega, rfl⟩
        · have hn : num s a = (5, 0, 0) := by
            rw [← hgo]
            have : 5 - k = (4 - k) + 1 := by omega
            rw [this, numGo, if_pos (by omega)]
          have Hn := Lib.hid (Hge.out (by rw [hn]; decide))
          rw [hn] at Hn
          have hk6 : (k : Int) < 5 := by omega
          clear hn hgo ht m1 hk hk5
          go_wp2_with fail
          go_ret3
          exact ⟨by rw [Hn.out]; rfl, rfl⟩
end Go.Proofs.Ytcopedhoepblpaa
namespace Go.Proofs.Ytcopedhoepblpaa
open Go.RowKit Go.PlainAid
def RAllHead (s : ByteArray) (w : World) (p : Nat) (acc : List Int) (v : Value) (wr : World) : Prop :=
  p ≤ s.size ∧ acc.length ≤ p ∧ (∃ f, s.size < p + f ∧ allGo s f p acc = allR s) ∧ Below w.heap.size w wr ∧
  wr.ownsRow w.heap.size 3 1 v acc.length (acc.map (Value.int .i64))
theorem getR_num {s : ByteArray} {p : Nat} (h : p ≤ s.size) : (getR s p).1 = (num s p).1 ∧ ((num s p).1 = 0 → (getR s p).2.1 = (num s p).2.1 ∧ (getR s p).2.2 = (p + (num s p).2.2 : Nat)) := by
  by_cases e : (num s p).1 = 0
  · rw [getR_ok h e]; exact ⟨e.symm, fun _ => ⟨rfl, by simp⟩⟩
  · rw [getR_err h e]; exact ⟨rfl, fun h => absurd h e⟩
set_option maxHeartbeats 1000000 in
theorem rall_any (s : ByteArray) (w : World) (hs : s.size ≤ 1000000) :
    Calls Try.prog 21 #[.string s] w (AllPost s w) := by
  obtain ⟨i0, hi, hz0, hz1, hz2⟩ := info_parts Try.info3
  go_enter Try.func21, Try.ntmps21
  go_wp2_with fail
  go_loopw [4, 5] (fun v i wr => ∃ (p : Nat) (acc : List Int), i = .int .i64 p ∧ RAllHead s w p acc v wr) (fun _ i _ => s.size - (intOf i).toNat)
  case atStart =>
    refine ⟨0, [], rfl, by omega, by simp, ⟨s.size + 1, by omega, rfl⟩, (Below.refl _ _).alloc (Nat.le_refl _) _, ?_⟩
    exact World.ownsRow_made w #[] 0 (Nat.le_refl _) (by omega) rfl
  case round =>
    obtain ⟨p, acc, rfl, h1, h2, h3, h4, h8⟩ := hrel
    by_cases hlt : p < s.size
    · have hget := rget_any s p wr hs
      obtain ⟨r1, r2⟩ := getR_num h1
      by_cases heq : (num s p).1 = 0
      · obtain ⟨g1, g2, g3, g4, g5⟩ := num_in s p heq
        obtain ⟨q1, q2⟩ := r2 heq
        rw [q1, q2, r1, heq] at hget
        obtain ⟨f, h9, h10⟩ := h3
        have hnext : ∃ f, s.size < p + (num s p).2.2 + f ∧ allGo s f (p + (num s p).2.2) (acc ++ [(num s p).2.1]) = allR s := by
          cases f with
          | zero => omega
          | succ f => exact ⟨f, by omega, by rw [← h10, allGo, if_neg (by omega), if_pos heq]⟩
        have Hnext := Lib.hid hnext
        have Hget := Lib.hid hget
        have HO := Lib.hid h8
        have HB := Lib.hid h4
        have hz := h4.size
        clear hnext hget h8 h4 h9 h10 r1 r2 q1 q2 heq
        generalize num s p = r at *
        obtain ⟨r0, n, sz⟩ := r
        dsimp only at g1 g2 g3 g4 g5
        go_wp2_with fail
        refine Hget.out.mono ?_
        rintro e w1 ⟨rfl, rfl⟩
        go_wp2_with (at_builtin; refine wpList_append_own _ rfl _ _ 22 rfl w.heap.size 3 i0 (.int .i64 0) 1 8 Try.underlying22 hi hz0 hz1 hz2 rfl (by decide) _ _ _ rfl (HO.out.alloc _) ⟨wr.heap.size, 0, none⟩ 1 1 [.int .i64 n] rfl rfl (cell_one_new _ _ _) ?c2 ?c3 ?c4 ?c5 ?_)
        case c2 => intro u hu; simp at hu; subst hu; rfl
        case c3 => unfold maxLen; omega
        case c4 => omega
        case c5 => rw [size_new]; omega
        intro v' w2 hown hg _
        have hB2 : Below w.heap.size w w2 := (HB.out.alloc hz _).grown hg (by rw [size_new]; omega) (fun k hk => (HO.out.lt k hk).1)
        have Hown := Lib.hid hown
        have HB2 := Lib.hid hB2
        clear hown hg hB2
        go_wp2_with fail
        go_roundw
        case rel => exact ⟨p + sz, acc ++ [n], by go_num, by omega, by simp; omega, Hnext.out, HB2.out, by simpa using Hown.out⟩
        case measure => simp [intOf]; omega
      · have hall : allR s = ((num s p).1, []) := by
          obtain ⟨f, h9, h10⟩ := h3
          rw [← h10]
          cases f with
          | zero => omega
          | succ f => rw [allGo, if_neg (by omega), if_neg heq]
        rw [r1] at hget
        have Hget := Lib.hid hget
        have Hall := Lib.hid hall
        have Hne := Lib.hid heq
        have hnb : ((num s p).1 != 0) = true := by simp [heq]
        have HB := Lib.hid h4
        clear hget hall heq h4 h8 h3 r1 r2
        go_wp2_with fail
        refine Hget.out.mono ?_
        rintro e w1 ⟨rfl, rfl⟩
        generalize (num s p).1 = x at *
        go_wp2_with fail
        go_ret2
        exact ⟨_, by rw [Hall.out]; rfl, by rw [Hall.out]; exact World.ownsRow_nil _ _ _ _, HB.out⟩
    · obtain ⟨f, h9, h10⟩ := h3
      have hall : allR s = (0, acc) := by
        rw [← h10]
        cases f with
        | zero => omega
        | succ f => rw [allGo, if_pos (by omega)]
      have Hall := Lib.hid hall
      clear hall h10
      go_wp2_with fail
      go_ret2
      exact ⟨_, by rw [Hall.out]; rfl, by rw [Hall.out]; exact h8, h4⟩
end Go.Proofs.Ytcopedhoepblpaa
