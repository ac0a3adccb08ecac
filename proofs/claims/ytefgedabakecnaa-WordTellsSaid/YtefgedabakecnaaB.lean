/- The walk of word.number. -/
import Derived.Test.YtefgedabakecnaaA
import Derived.Test.YtefgedabakecnaaS
import Derived.Lib.Hide
namespace Go.Proofs.Ytefgedabakecnaa
open Go.RowKit Go.PlainAid

def Panics (k : Int) (e : Ending) : Prop := e = .panicked [{ v := .iface 24 (.int .i64 k), recovered := false }]

/-- What number comes to: its panic, or its two results and the place moved. -/
def NumPost (s : ByteArray) (a Ba : Nat) (w : World) (e : Ending) (w' : World) : Prop :=
  Only Ba w w' ∧ (((num s a).1 ≠ 0 ∧ Panics (num s a).1 e) ∨
    ((num s a).1 = 0 ∧ e = .returned (.tuple #[.int .i64 (num s a).2.1, .int .i64 ((num s a).2.2 : Nat)]) ∧ w'.heap[Ba]? = some (.cells #[.int .i64 ((a + (num s a).2.2 : Nat) : Int)] 3 (0, 0))))

theorem np_panic {s : ByteArray} {a Ba : Nat} {w w' : World} {c : Int} {x : Int × Nat} (hn : num s a = (c, x)) (hc : c ≠ 0) (ho : Only Ba w w') :
    NumPost s a Ba w (.panicked [{ v := .iface 24 (.int .i64 c), recovered := false }]) w' :=
  ⟨ho, .inl (by rw [hn]; exact ⟨hc, rfl⟩)⟩
theorem np_ret {s : ByteArray} {a Ba : Nat} {w w' : World} {v : Int} {k : Nat} (hn : num s a = (0, v, k)) (ho : Only Ba w w') (hb : w'.heap[Ba]? = some (.cells #[.int .i64 ((a + k : Nat) : Int)] 3 (0, 0))) :
    NumPost s a Ba w (.returned (.tuple #[.int .i64 v, .int .i64 (k : Int)])) w' :=
  ⟨ho, .inr (by rw [hn]; exact ⟨rfl, rfl, hb⟩)⟩

/-- The head of the loop's round: k bytes are read, they make m. -/
def NumHead (s : ByteArray) (a Ba : Nat) (w : World) (k : Nat) (m : Int) (wr : World) : Prop :=
  k ≤ 4 ∧ 0 ≤ m ∧ m < 128 ^ k ∧ numGo s (5 - k) (a + k) k m = num s a ∧ Only Ba w wr ∧ wr.heap[Ba]? = some (.cells #[.int .i64 ((a + k : Nat) : Int)] 3 (0, 0))

theorem numGo_eq (s : ByteArray) (k p : Nat) (m : Int) (hk : k ≤ 4) (h : p < s.size) : numGo s (5 - k) p k m =
    if 2147483647 < m + bt s p % 128 * 128 ^ k ∨ (k = 4 ∧ 128 ≤ bt s p) then (2, 0, 0)
    else if bt s p = 0 ∧ 0 < k then (4, 0, 0)
    else if bt s p < 128 then (0, m + bt s p % 128 * 128 ^ k, k + 1)
    else numGo s (5 - (k + 1)) (p + 1) (k + 1) (m + bt s p % 128 * 128 ^ k) := by
  have : 5 - k = (4 - k) + 1 := by omega
  rw [this, numGo, if_neg (by omega)]
  have e : 5 - (k + 1) = 4 - k := by omega
  have e4 : (4 - k = 0) = (k = 4) := by simp; omega
  rw [e]; simp only [e4]

set_option maxHeartbeats 1000000 in
theorem number_any (s : ByteArray) (a Ba Bs : Nat) (w : World) (hA : w.heap[Ba]? = some (.cells #[.int .i64 a] 3 (0, 0))) (hS : w.heap[Bs]? = some (.cells #[.string s] 9 (0, 0)))
    (hs : s.size ≤ maxLen) (hne : Bs ≠ Ba) :
    Calls Try.prog 38 #[.func (.func 42) #[] #[.pointer (some ⟨Ba, 0, none⟩), .pointer (some ⟨Bs, 0, none⟩)]] w (NumPost s a Ba w) := by
  unfold maxLen at hs
  go_enter Try.func38, Try.ntmps38
  go_wp2
  go_loopw [2, 3] (fun n i wr => ∃ (k : Nat) (m : Int), i = .int .i64 k ∧ n = .int .i64 m ∧ NumHead s a Ba w k m wr) (fun _ i _ => 5 - (intOf i).toNat)
  case atStart => exact ⟨0, 0, rfl, rfl, by omega, by omega, by decide, rfl, Only.refl _ _, hA⟩
  case round =>
    obtain ⟨k, m, rfl, rfl, hk, m0, m1, hgo, ho, hA'⟩ := hrel
    have hS' : wr.heap[Bs]? = some (.cells #[.string s] 9 (0, 0)) := by rw [ho.block _ hne]; exact hS
    by_cases hlt : a + k < s.size
    · have hin := fun w0 h1 h2 => next_in s (a + k) Ba Bs w0 h1 h2 (by unfold maxLen; omega) hlt
      have hone := one_setCell (u := .int .i64 ((a + k + 1 : Nat) : Int)) hA'
      have hon := ho.trans (Only.setCell wr Ba 0 (.int .i64 ((a + k + 1 : Nat) : Int)))
      rw [numGo_eq s k (a + k) m hk hlt] at hgo
      have b0 := bt_nonneg s (a + k)
      have b1 := bt_le s (a + k)
      generalize bt s (a + k) = b at *
      obtain ⟨v, hv⟩ : ∃ v, v = m + b % 128 * 128 ^ k := ⟨_, rfl⟩
      obtain ⟨hor, v0, v1⟩ := orIn m b k hk m0 m1 b0 b1
      have hp := pow128 k hk
      rw [← hv] at hor v0 v1 hgo
      have Hin := Lib.hid hin
      have Hone := Lib.hid hone
      have Hon := Lib.hid hon
      have HA := Lib.hid hA'
      have HS := Lib.hid hS'
      have Hgo := Lib.hid hgo
      have Hv1 := Lib.hid v1
      clear hin hone hon hA' hS' hv hA hS m1 hp v1 hgo
      by_cases c1 : 2147483647 < v
      · go_wp2_with (go_at_call 42; refine (Hin.out _ HA.out HS.out).mono ?_; rintro e w' ⟨rfl, rfl⟩)
        exact ⟨rfl, np_panic (x := (0, 0)) (by rw [← Hgo.out, if_pos (.inl c1)]) (by decide) Hon.out⟩
      · by_cases c2 : 128 ≤ b
        · have hb := and128_hi b b1 c2
          by_cases c3 : 4 ≤ k
          · go_wp2_with (go_at_call 42; refine (Hin.out _ HA.out HS.out).mono ?_; rintro e w' ⟨rfl, rfl⟩)
            exact ⟨rfl, np_panic (x := (0, 0)) (by rw [← Hgo.out, if_pos (.inr ⟨by omega, c2⟩)]) (by decide) Hon.out⟩
          · go_wp2_with (go_at_call 42; refine (Hin.out _ HA.out HS.out).mono ?_; rintro e w' ⟨rfl, rfl⟩)
            go_roundw
            case rel =>
              refine ⟨k + 1, v, by go_num, rfl, by omega, v0, Hv1.out, ?_, Hon.out, Hone.out⟩
              rw [← Hgo.out, if_neg (by omega), if_neg (by omega), if_neg (by omega)]; rfl
            case measure => simp [intOf]; omega
        · have hb := and128_lo b b0 (by omega)
          by_cases c3 : b ≤ 0 ∧ 0 < k
          · have hb0 : (b == 0) = true := beq_iff_eq.2 (by omega)
            have c4 := c3.1
            have c5 := c3.2
            have Hc := Lib.hid c3
            clear c3
            go_wp2_with (go_at_call 42; refine (Hin.out _ HA.out HS.out).mono ?_; rintro e w' ⟨rfl, rfl⟩)
            all_goals exact ⟨rfl, np_panic (x := (0, 0)) (by rw [← Hgo.out, if_neg (by omega), if_pos ⟨by omega, Hc.out.2⟩]) (by decide) Hon.out⟩
          · have hfin : num s a = (0, v, k + 1) := by rw [← Hgo.out, if_neg (by omega), if_neg (by omega), if_pos (by omega)]
            have Hfin := Lib.hid hfin
            have h3 : 0 < b ∨ k < 1 := by omega
            clear hfin c3
            rcases h3 with h3 | h3
            · have hb0 : (b == 0) = false := beq_eq_false_iff_ne.2 (by omega)
              by_cases c6 : 4 ≤ k
              · obtain rfl : k = 4 := by omega
                have hor4 : bits BinOp.or IntKind.i64 m (wrap64 (wrap64 (bits BinOp.and IntKind.u8 b 127) * 268435456)) = v := by simpa using hor
                clear hor
                go_wp2_with (go_at_call 42; refine (Hin.out _ HA.out HS.out).mono ?_; rintro e w' ⟨rfl, rfl⟩)
                go_ret2
                exact np_ret Hfin.out Hon.out Hone.out
              · have hk5 : ((k : Int) + 1 == 5) = false := beq_eq_false_iff_ne.2 (by omega)
                go_wp2_with (go_at_call 42; refine (Hin.out _ HA.out HS.out).mono ?_; rintro e w' ⟨rfl, rfl⟩)
                all_goals
                  go_ret2
                  exact np_ret Hfin.out Hon.out Hone.out
            · go_wp2_with (go_at_call 42; refine (Hin.out _ HA.out HS.out).mono ?_; rintro e w' ⟨rfl, rfl⟩)
              go_ret2
              exact np_ret Hfin.out Hon.out Hone.out
    · have hnum : num s a = (5, 0, 0) := by
        rw [← hgo]
        have : 5 - k = (4 - k) + 1 := by omega
        rw [this, numGo, if_pos (by omega)]
      go_wp2_with (go_at_call 42; refine (next_out s (a + k) Ba Bs _ hA' hS' (by omega)).mono ?_; rintro e w' ⟨rfl, rfl⟩)
      exact ⟨rfl, np_panic (x := (0, 0)) hnum (by decide) ho⟩
end Go.Proofs.Ytefgedabakecnaa
