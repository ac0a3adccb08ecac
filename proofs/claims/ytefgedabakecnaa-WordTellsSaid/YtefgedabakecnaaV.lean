/- The walks of the laws: Size, Back, Once. -/
import Derived.Test.YtefgedabakecnaaU
namespace Go.Proofs.Ytefgedabakecnaa
open Go.RowKit Go.PlainAid

def SizeHead (x : Int) (k : Nat) (t : Int) : Prop := k ≤ 4 ∧ (k = 0 ∨ (128 : Int) ^ k ≤ x) ∧ t = (128 : Int) ^ (k + 1)

set_option maxHeartbeats 4000000 in
theorem walkWordSize (a b : Int) (w : World) (_wa : (Lit.int .i64 a).wf = true) (_wb : (Lit.int .i64 b).wf = true) :
    Calls Try.prog 9 #[.int .i64 a, .int .i64 b] w fun e w' => e = .returned (.bool true) ∧ Below w.heap.size w w' := by
  have hlen := fun k h1 h2 h3 => @putB_length a k h1 h2 h3
  have hmono := @putB_mono a b
  have hpa := putB_pos a
  have hpb := putB_pos b
  obtain ⟨x, hx⟩ : ∃ x, x = max 0 (min a 2147483647) := ⟨_, rfl⟩
  have x0 : 0 ≤ x := by omega
  have x1 : x ≤ 2147483647 := by omega
  rw [← hx] at hlen
  have Hx := Lib.hid hx.symm
  have Hlen := Lib.hid hlen
  have Hmono := Lib.hid hmono
  clear hx hlen hmono
  go_enter Try.func9, Try.ntmps9
  go_wp2_with fail
  rw [Hx.out]
  clear Hx
  go_loop [6, 7, 8] (fun n t i => ∃ (k : Nat) (t' : Int), i = .int .i64 k ∧ n = .int .i64 ((k + 1 : Nat) : Int) ∧ t = .int .i64 t' ∧ SizeHead x k t') (fun _ _ i => 6 - (intOf i).toNat)
  case atStart => exact ⟨0, 128, rfl, rfl, rfl, by omega, .inl rfl, by decide⟩
  case round =>
    obtain ⟨k, t, rfl, rfl, rfl, hk, hlo, ht⟩ := hrel
    have hp := pow128 k hk
    have ht2 : t = 128 ^ k * 128 := by rw [ht, Int.pow_succ]
    have t0 : 128 ≤ t := by omega
    have t1 : t ≤ 34359738368 := by omega
    by_cases hlt : t ≤ x
    · have hk3 : k ≤ 3 := by
        by_cases h4 : k = 4
        · subst h4; simp at ht; omega
        · omega
      have Ht := Lib.hid ht
      clear ht ht2 hp hlo
      go_wp2_with fail
      go_round
      case rel => exact ⟨k + 1, t * 128, by go_num, by go_num, rfl, by omega, .inr (by rw [← Ht.out]; exact hlt), by rw [Ht.out, ← Int.pow_succ]⟩
      case measure => simp [intOf]; omega
    · have hl := Hlen.out k hlo (by rw [← ht]; omega) hk
      have Hl := Lib.hid hl
      have hb1 : (((strB (putB a)).size : Int) == (k : Int) + 1) = true := beq_iff_eq.2 (by omega)
      clear ht ht2 hp hlo hl
      by_cases hab : b < a
      · go_wp2_with fail
        refine (put_any _ _).mono ?_
        rintro e w1 ⟨rfl, hb⟩
        have H1 := Lib.hid hb
        have z1 := H1.out.size
        clear hb
        generalize strB (putB a) = S at *
        go_wp2_with fail
        refine (fixed_any _).mono ?_
        rintro e w3 ⟨rfl, hb⟩
        have H3 := Lib.hid (below_step z1 H1.out hb)
        clear hb
        go_wp2_with fail
        go_ret
        exact ⟨rfl, H3.out⟩
      · have hm := Hmono.out (by omega)
        have pa := Lib.hid (fun w => put_any a w)
        have pb := Lib.hid (fun w => put_any b w)
        go_wp2_with fail
        refine (pa.out _).mono ?_
        rintro e w1 ⟨rfl, hb⟩
        have H1 := Lib.hid hb
        have z1 := H1.out.size
        clear hb
        go_wp2_with fail
        refine (pa.out _).mono ?_
        rintro e w2 ⟨rfl, hb⟩
        have H2 := Lib.hid (below_step z1 H1.out hb)
        have z2 := H2.out.size
        clear hb H1 z1
        go_wp2_with fail
        refine (pb.out _).mono ?_
        rintro e w3 ⟨rfl, hb⟩
        have H3 := Lib.hid (below_step z2 H2.out hb)
        have z3 := H3.out.size
        clear hb H2 z2
        generalize strB (putB a) = S at *
        generalize strB (putB b) = T at *
        go_wp2_with fail
        refine (fixed_any _).mono ?_
        rintro e w4 ⟨rfl, hb⟩
        have H4 := Lib.hid (below_step z3 H3.out hb)
        clear hb
        go_wp2_with fail
        go_ret
        exact ⟨rfl, H4.out⟩
end Go.Proofs.Ytefgedabakecnaa
