/- The walks of the laws: Back, Once. -/
import Derived.Test.YtefgedabakecnaaV
namespace Go.Proofs.Ytefgedabakecnaa
open Go.RowKit Go.PlainAid

theorem cut_size (s : ByteArray) (k : Nat) : (s.extract 0 (min (s.size : Int) (k : Int)).toNat).size ≤ k := by
  rw [ByteArray.size_extract]; omega

set_option maxHeartbeats 4000000 in
theorem walkWordBack (n : Int) (s1 s2 : ByteArray) (w : World) (_wa : (Lit.int .i64 n).wf = true) (h1 : s1.size ≤ maxLen) (h2 : s2.size ≤ maxLen) :
    Calls Try.prog 4 #[.int .i64 n, .string s1, .string s2] w fun e w' => e = .returned (.bool true) ∧ Below w.heap.size w w' := by
  unfold maxLen at h1 h2
  have hA := cut_size s1 60
  have hB := cut_size s2 60
  go_enter Try.func4, Try.ntmps4
  go_wp2_with fail
  generalize s1.extract 0 (min (s1.size : Int) 60).toNat = A at *
  generalize s2.extract 0 (min (s2.size : Int) 60).toNat = B at *
  refine (put_any _ _).mono ?_
  rintro e w1 ⟨rfl, hb⟩
  have H1 := Lib.hid hb
  have z1 := H1.out.size
  have g1 := Lib.hid (getR_put A B n)
  have g2 := Lib.hid (getR_short A n)
  have hp := putB_pos n
  have hbb : (max 0 (min n 2147483647) == max 0 (min n 2147483647)) = true := beq_self_eq_true _
  clear hb
  generalize strB (putB n) = S at *
  have hs1 : (A ++ S ++ B).size ≤ maxLen := by rw [ByteArray.size_append, ByteArray.size_append]; unfold maxLen; omega
  have hs2 : (A ++ S.extract 0 (S.size - 1)).size ≤ maxLen := by rw [ByteArray.size_append, ByteArray.size_extract]; unfold maxLen; omega
  have hs3 : (A ++ S).size ≤ 65 := by rw [ByteArray.size_append]; omega
  have hs4 : (S.extract 0 (S.size - 1)).size ≤ 5 := by rw [ByteArray.size_extract]; omega
  go_wp2_with fail
  refine (get_at _ _ _ _ _ g1.out hs1 _).mono ?_
  rintro e w2 ⟨rfl, hb⟩
  have H2 := Lib.hid (below_step z1 H1.out hb)
  have z2 := H2.out.size
  clear hb H1 z1
  go_wp2_with fail
  refine (get_at _ _ _ _ _ g2.out hs2 _).mono ?_
  rintro e w3 ⟨rfl, hb⟩
  have H3 := Lib.hid (below_step z2 H2.out hb)
  have z3 := H3.out.size
  clear hb H2 z2
  go_wp2_with fail
  refine (fixed_any _).mono ?_
  rintro e w4 ⟨rfl, hb⟩
  have H4 := Lib.hid (below_step z3 H3.out hb)
  clear hb
  go_wp2_with fail
  go_ret
  exact ⟨rfl, H4.out⟩
end Go.Proofs.Ytefgedabakecnaa
