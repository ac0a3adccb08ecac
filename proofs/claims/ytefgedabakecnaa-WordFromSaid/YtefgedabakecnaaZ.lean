/- The walks of the laws: Texts. -/
import Derived.Test.YtefgedabakecnaaY
namespace Go.Proofs.Ytefgedabakecnaa
open Go.RowKit Go.PlainAid

set_option maxHeartbeats 2000000 in
theorem walkWordTexts (s1 s2 : ByteArray) (most : Int) (w : World) (h1 : s1.size ≤ maxLen) (h2 : s2.size ≤ maxLen) (_wa : (Lit.int .i64 most).wf = true) :
    Calls Try.prog 7 #[.string s1, .string s2, .int .i64 most] w fun e w' => e = .returned (.bool true) ∧ Below w.heap.size w w' := by
  unfold maxLen at h1 h2
  have hA := cut_size s1 300
  have hB := cut_size s2 60
  go_enter Try.func7, Try.ntmps7
  go_wp2_with fail
  generalize s1.extract 0 (min (s1.size : Int) 300).toNat = s at *
  generalize s2.extract 0 (min (s2.size : Int) 60).toNat = B at *
  clear h1 h2
  have ht := takeR_text s B most (by omega)
  have hX : (strB (putB s.size) ++ s).size ≤ 305 := by rw [ByteArray.size_append]; have := (putB_pos s.size).2; omega
  have htext := fun w => text_any s w (by omega)
  generalize strB (putB s.size) ++ s = X at *
  have hXB : (X ++ B).size ≤ 1000000 := by rw [ByteArray.size_append]; omega
  have htake := fun k x t h w => take_at (X ++ B) 0 most k x t h hXB w
  have Htext := Lib.hid htext
  have Htake := Lib.hid htake
  clear htext htake
  refine (Htext.out _).mono ?_
  rintro e w1 ⟨rfl, hb⟩
  have H1 := Lib.hid hb
  have z1 := H1.out.size
  clear hb
  by_cases c : max 0 most < (s.size : Int)
  · rw [if_pos (by omega)] at ht
    have Ht := Lib.hid ht
    clear ht
    go_wp2_with fail
    refine (Htake.out _ _ _ Ht.out _).mono ?_
    rintro e w2 ⟨rfl, hb⟩
    have H2 := Lib.hid (below_step z1 H1.out hb)
    have z2 := H2.out.size
    clear hb H1 z1
    go_wp2_with fail
    refine (fixed_any _).mono ?_
    rintro e w3 ⟨rfl, hb⟩
    have H3 := Lib.hid (below_step z2 H2.out hb)
    clear hb
    go_wp2_with fail
    go_ret
    exact ⟨rfl, H3.out⟩
  · rw [if_neg (by omega)] at ht
    have Ht := Lib.hid ht
    have hss : (s.toList == s.toList) = true := by simp
    clear ht
    go_wp2_with fail
    refine (Htake.out _ _ _ Ht.out _).mono ?_
    rintro e w2 ⟨rfl, hb⟩
    have H2 := Lib.hid (below_step z1 H1.out hb)
    have z2 := H2.out.size
    clear hb H1 z1
    go_wp2_with fail
    refine (Htext.out _).mono ?_
    rintro e w3 ⟨rfl, hb⟩
    have H3 := Lib.hid (below_step z2 H2.out hb)
    have z3 := H3.out.size
    clear hb H2 z2
    go_wp2_with fail
    refine (fixed_any _).mono ?_
    rintro e w4 ⟨rfl, hb⟩
    have H4 := Lib.hid (below_step z3 H3.out hb)
    clear hb
    go_wp2_with fail
    go_ret
    exact ⟨rfl, H4.out⟩

end Go.Proofs.Ytefgedabakecnaa
