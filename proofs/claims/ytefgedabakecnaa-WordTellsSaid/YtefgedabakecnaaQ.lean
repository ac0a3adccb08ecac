/- The walks of the laws: Apart, Size. -/
import Derived.Test.YtefgedabakecnaaT
namespace Go.Proofs.Ytefgedabakecnaa
open Go.RowKit Go.PlainAid

theorem strB_data (l : List UInt8) : (strB l).data.toList = l := rfl
theorem toList_data (s : ByteArray) : s.toList = s.data.toList := ByteArray.toList_eq s
theorem bt_strB (l : List UInt8) (i : Nat) (h : i < l.length) : bt (strB l) i = (l[i].toNat : Int) := by
  unfold bt
  rw [dif_pos (by rw [strB_size]; exact h)]
  rfl
theorem has_strB (l m r : List UInt8) : Has (strB (l ++ m ++ r)) l.length m := by
  refine ⟨by rw [strB_size]; simp, fun i hi => ?_⟩
  rw [bt_strB _ _ (by simp; omega)]
  congr 1
  simp [List.getElem_append_right, List.getElem_append_left, hi]
/-- Of unlike numbers neither one's bytes begin the other one's. -/
theorem putB_apart {a b : Int} {r : List UInt8} (h : putB b = putB a ++ r) : cutN a = cutN b := by
  have h1 : num (strB (putB b)) 0 = (0, (cutN b : Int), (putB b).length) := num_put (by have := has_strB [] (putB b) []; simpa using this)
  have h2 : num (strB (putB b)) 0 = (0, (cutN a : Int), (putB a).length) := num_put (by rw [h]; have := has_strB [] (putB a) r; simpa using this)
  rw [h1] at h2
  simp at h2
  omega
theorem extract_self (s : ByteArray) : (s.extract 0 s.size).toList = s.toList := by
  rw [toList_data, toList_data]; simp
theorem extract_pre {a b : List UInt8} (h : ((strB b).extract 0 (strB a).size).toList = (strB a).toList) : ∃ r, b = a ++ r := by
  rw [toList_data, toList_data] at h
  simp [strB] at h
  refine ⟨b.drop (ByteArray.size ⟨a.toArray⟩), ?_⟩
  conv => rhs; arg 1; rw [← h]
  exact (List.take_append_drop _ _).symm

set_option maxHeartbeats 2000000 in
theorem walkWordApart (a b : Int) (w : World) (_wa : (Lit.int .i64 a).wf = true) (_wb : (Lit.int .i64 b).wf = true) :
    Calls Try.prog 8 #[.int .i64 a, .int .i64 b] w fun e w' => e = .returned (.bool true) ∧ Below w.heap.size w w' := by
  have ca := cutN_int a
  have cb := cutN_int b
  by_cases hxy : max 0 (min a 2147483647) = max 0 (min b 2147483647)
  · have hput : putB a = putB b := by unfold putB; rw [show cutN a = cutN b by omega]
    have h1 : (max 0 (min a 2147483647) == max 0 (min b 2147483647)) = true := beq_iff_eq.2 hxy
    have pa := fun w => put_any a w
    rw [hput] at pa
    have he := beq_iff_eq.2 (extract_self (strB (putB b)))
    clear ca cb hxy
    go_enter Try.func8, Try.ntmps8
    have Pa := Lib.hid pa
    have pb := Lib.hid (fun w => put_any b w)
    clear pa
    go_wp2_with fail
    refine (Pa.out _).mono ?_
    rintro e w1 ⟨rfl, hb⟩
    have H1 := Lib.hid hb
    have z1 := H1.out.size
    clear hb
    go_wp2_with fail
    refine (pb.out _).mono ?_
    rintro e w2 ⟨rfl, hb⟩
    have H2 := Lib.hid (below_step z1 H1.out hb)
    have z2 := H2.out.size
    clear hb H1 z1 pb Pa hput
    generalize strB (putB b) = S at *
    go_wp2_with fail
    refine (fixed_any _).mono ?_
    rintro e w3 ⟨rfl, hb⟩
    have H3 := Lib.hid (below_step z2 H2.out hb)
    clear hb
    go_wp2_with fail
    go_ret
    exact ⟨rfl, H3.out⟩
  · have h1 : (max 0 (min a 2147483647) == max 0 (min b 2147483647)) = false := beq_eq_false_iff_ne.2 hxy
    have n1 : (((strB (putB b)).extract 0 (strB (putB a)).size).toList == (strB (putB a)).toList) = false := beq_eq_false_iff_ne.2 (fun h => by
      obtain ⟨r, hr⟩ := extract_pre h
      have := putB_apart hr; omega)
    have n2 : (((strB (putB a)).extract 0 (strB (putB b)).size).toList == (strB (putB b)).toList) = false := beq_eq_false_iff_ne.2 (fun h => by
      obtain ⟨r, hr⟩ := extract_pre h
      have := putB_apart hr; omega)
    have n3 : ((strB (putB a)).toList == (strB (putB b)).toList) = false := beq_eq_false_iff_ne.2 (fun h => by
      rw [toList_data, toList_data, strB_data, strB_data] at h
      have := putB_apart (a := a) (b := b) (r := []) (by rw [h]; simp)
      omega)
    have pa := Lib.hid (fun w => put_any a w)
    have pb := Lib.hid (fun w => put_any b w)
    clear ca cb hxy
    generalize strB (putB a) = S at *
    generalize strB (putB b) = T at *
    by_cases c1 : S.size ≤ T.size
    all_goals by_cases c2 : T.size ≤ S.size
    all_goals
      go_enter Try.func8, Try.ntmps8
      go_wp2_with fail
      refine (pa.out _).mono ?_
      rintro e w1 ⟨rfl, hb⟩
      have H1 := Lib.hid hb
      have z1 := H1.out.size
      clear hb
      go_wp2_with fail
      refine (pb.out _).mono ?_
      rintro e w2 ⟨rfl, hb⟩
      have H2 := Lib.hid (below_step z1 H1.out hb)
      have z2 := H2.out.size
      clear hb H1 z1
      go_wp2_with fail
      refine (fixed_any _).mono ?_
      rintro e w3 ⟨rfl, hb⟩
      have H3 := Lib.hid (below_step z2 H2.out hb)
      clear hb
      go_wp2_with fail
      go_ret
      exact ⟨rfl, H3.out⟩
end Go.Proofs.Ytefgedabakecnaa
