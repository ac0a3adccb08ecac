/- PieceCut: the walk. Written by gen_pcuts.py. -/
import Derived.Test.YtcopedhoepblpaaPkP
import Derived.Deep.CutRange
set_option linter.unusedSimpArgs false
set_option linter.unusedVariables false
set_option maxRecDepth 100000
namespace Go.Proofs.Ytcopedhoepblpaa
open Go.RowKit Go.PlainAid

theorem putB_front {x y : Int} {A B : List UInt8} (h : putB x ++ A = putB y ++ B) : cutW x = cutW y := by
  have h1 : num (strB (putB x ++ A)) 0 = (0, (cutW x : Int), (putB x).length) := num_put (by have := has_strB [] (putB x) A; simpa using this)
  have h2 : num (strB (putB x ++ A)) 0 = (0, (cutW y : Int), (putB y).length) := num_put (by rw [h]; have := has_strB [] (putB y) B; simpa using this)
  rw [h1] at h2
  simp at h2
  omega
theorem putsB_pre : ∀ (ys xs : List Int) (r : List UInt8), (∀ x ∈ xs, 0 ≤ x ∧ x ≤ 2147483647) → (∀ y ∈ ys, 0 ≤ y ∧ y ≤ 2147483647) → putsB xs = putsB ys ++ r → ∃ rest, xs = ys ++ rest ∧ putsB rest = r := by
  intro ys
  induction ys with
  | nil => intro xs r _ _ h; exact ⟨xs, rfl, h⟩
  | cons y ys ih =>
    intro xs r hx hy h
    cases xs with
    | nil =>
      exfalso
      have h1 := congrArg List.length h
      have h2 := (putB_pos y).1
      rw [strB_size] at h2
      simp only [putsB, List.flatMap_nil, List.flatMap_cons, List.length_append, List.length_nil] at h1
      omega
    | cons x xs =>
      have h0 : putB x ++ putsB xs = putB y ++ (putsB ys ++ r) := by simpa [putsB] using h
      have h1 := putB_front h0
      have hx1 := hx x List.mem_cons_self
      have hy1 := hy y List.mem_cons_self
      obtain rfl : x = y := by unfold cutW at h1; omega
      obtain ⟨rest, h2, h3⟩ := ih xs r (fun z hz => hx z (List.mem_cons_of_mem _ hz)) (fun z hz => hy z (List.mem_cons_of_mem _ hz)) (List.append_cancel_left h0)
      exact ⟨rest, by rw [h2]; rfl, h3⟩
theorem strB_inj {a b : List UInt8} (h : strB a = strB b) : a = b := by have := congrArg (fun s : ByteArray => s.data.toList) h; exact this
theorem pieces_apart {p q : Pc} (hp : okB p = true) (hq : okB q = true) {r : List UInt8} (h : putsB (numsOf p) = putsB (numsOf q) ++ r) : r = [] := by
  obtain ⟨rest, h1, h2⟩ := putsB_pre _ _ _ (nums_in hp) (nums_in hq) h
  have h3 := (nums_apart hp hq h1).2
  rw [h3] at h2
  exact h2.symm
theorem dec_short {p : Pc} (hp : okB p = true) (k : Nat) (hk : k < (strB (putsB (numsOf p))).size) : decR ((strB (putsB (numsOf p))).extract 0 k) = (Pc.zero, 4) := by
  refine (decR_cases _).resolve_left ?_
  rintro ⟨q, hq⟩
  obtain ⟨h1, h2⟩ := decR_ok.1 hq
  have h3 : putsB (numsOf q) = (putsB (numsOf p)).take k := by
    have := congrArg (fun s : ByteArray => s.data.toList) h2
    simpa [strB] using this
  have h4 : putsB (numsOf p) = putsB (numsOf q) ++ (putsB (numsOf p)).drop k := by rw [h3, List.take_append_drop]
  have h5 := congrArg List.length (pieces_apart hp h1 h4)
  rw [strB_size] at hk
  simp at h5
  omega
theorem dec_long {p : Pc} (hp : okB p = true) (b : UInt8) : decR (strB (putsB (numsOf p)) ++ strB [b]) = (Pc.zero, 4) := by
  refine (decR_cases _).resolve_left ?_
  rintro ⟨q, hq⟩
  obtain ⟨h1, h2⟩ := decR_ok.1 hq
  rw [strB_append] at h2
  have h5 := pieces_apart h1 hp (strB_inj h2)
  simp at h5
theorem enc_pos (p : Pc) : 1 ≤ (strB (putsB (numsOf p))).size := by
  rw [strB_size]
  have h2 := (putB_pos p.node).1
  rw [strB_size] at h2
  simp only [numsOf, putsB, List.flatMap_cons, List.length_append]
  omega
theorem cut_size (p : Pc) : (strB (putsB (numsOf (cutP p)))).size ≤ 3000 := by
  rw [strB_size]
  have h0 := putsB_len (numsOf (cutP p))
  have h1 := flat_le (f := msgsN) (c := 41) (cutP p).inn (fun m hm => by
    obtain ⟨x, _, rfl⟩ := List.mem_map.1 hm
    have h2 := flat_le (f := pairN) (c := 2) (x.take 20) (fun x _ => Nat.le_refl 2)
    have := List.length_take_le 20 x
    show (msgsN (x.take 20)).length ≤ 41
    rw [msgsN_eq, List.length_cons]; omega)
  have h2 := flat_le (f := intsN) (c := 21) (cutP p).out (fun l hl => by
    obtain ⟨x, _, rfl⟩ := List.mem_map.1 hl
    have := List.length_take_le 20 x
    show (intsN (x.take 20)).length ≤ 21
    unfold intsN; rw [List.length_cons]; omega)
  have e1 : (cutP p).inn.length ≤ 7 := by have := List.length_take_le 7 p.inn; show ((p.inn.take 7).map (·.take 20)).length ≤ _; rw [List.length_map]; omega
  have e2 : (cutP p).out.length ≤ 7 := by have := List.length_take_le 7 p.out; show ((p.out.take 7).map (·.take 20)).length ≤ _; rw [List.length_map]; omega
  have e3 : (cutP p).sent.length ≤ 7 := by have := List.length_take_le 7 p.sent; show (p.sent.take 7).length ≤ _; omega
  have h3 : (numsOf (cutP p)).length ≤ 500 := by
    simp only [numsOf, List.length_cons, List.length_append]
    have : (intsN (cutP p).sent).length = (cutP p).sent.length + 1 := by unfold intsN; rw [List.length_cons]
    omega
  omega
theorem at_of (a : Int) (N : Nat) (h0 : 0 ≤ a) (h : 1 ≤ N) : ∃ k : Nat, a.tmod (N : Int) = (k : Int) ∧ k < N := by
  refine ⟨(a.tmod (N : Int)).toNat, ?_, ?_⟩
  · rw [Int.toNat_of_nonneg (Int.tmod_nonneg _ h0)]
  · have := Int.tmod_lt_of_pos a (show (0 : Int) < N by omega)
    have := Int.tmod_nonneg (N : Int) h0
    omega
set_option maxHeartbeats 8000000 in
theorem walkPieceCut (p : Pc) (v1 v2 v3 : Value) (a c : Int) (w : World) (h : HasL w [v1, v2, v3] p.d) (ha0 : 0 ≤ a) (ha1 : a < 65536) (hc0 : 0 ≤ c) (hc1 : c < 256) :
    Calls Try.prog 7 #[pcv p v1 v2 v3, .int .u16 a, .int .u8 c] w fun e w' => e = .returned (.bool true) ∧ Below w.heap.size w w' := by
  have CT := fun y (hb : Below w.heap.size w y) => cut_at p v1 v2 v3 y (h.later hb)
  obtain ⟨a1, a2, a3, n1, n2, n3, e1, e2, e3, ee1, ee2, ee3⟩ := pc_slices h
  subst ee1
  subst ee2
  subst ee3
  have HCT := Lib.hid CT
  clear h CT
  obtain ⟨m0, hm0⟩ : ∃ m, m = p.node := ⟨_, rfl⟩
  obtain ⟨m1, hm1⟩ : ∃ m, m = p.state := ⟨_, rfl⟩
  obtain ⟨m2, hm2⟩ : ∃ m, m = p.steps := ⟨_, rfl⟩
  have PQ : Hid (∀ x y z, pcv (cutP p) x y z = .agg #[.int .i64 m0, .int .i64 m1, .int .i64 m2, x, y, z]) := Lib.hid (fun x y z => by rw [hm0, hm1, hm2]; rfl)
  unfold pcv at HCT ⊢
  rw [← hm0, ← hm1, ← hm2] at HCT ⊢
  clear hm0 hm1 hm2
  go_enter Try.func7, Try.ntmps7
  try simp only [List.append_eq, List.cons_append, List.nil_append]
  go_upto_region 1 with fail
  obtain ⟨bc, hbc⟩ : ∃ b, b = w.heap.size := ⟨_, rfl⟩
  obtain ⟨y0, hy0⟩ : ∃ y, y = w.alloc (.cells #[.int .i64 m0, .int .i64 m1, .int .i64 m2, .slice a1 n1 e1, .slice a2 n2 e2, .slice a3 n3 e3] 26) := ⟨_, rfl⟩
  have hb0 : Below w.heap.size w y0 := by rw [hy0]; exact below_new _ _
  have hx0 : BoxAt bc [.int .i64 m0, .int .i64 m1, .int .i64 m2, .slice a1 n1 e1, .slice a2 n2 e2, .slice a3 n3 e3] y0 := by rw [hbc, hy0]; exact boxAt_new w [.int .i64 m0, .int .i64 m1, .int .i64 m2, .slice a1 n1 e1, .slice a2 n2 e2, .slice a3 n3 e3] _
  have hf0 : ∀ i, y0.frozen? ⟨bc, i, none⟩ = false := fun i => by rw [hbc, hy0]; exact frozen_new w _ _ i
  have hbl : bc < y0.heap.size ∧ w.heap.size ≤ bc := by rw [hbc, hy0, size_new]; omega
  rw [← hy0, ← hbc]
  have B0 := Lib.hid hb0
  have K0 := Lib.hid hx0
  have F0 := Lib.hid hf0
  have BL := Lib.hid hbl
  clear hy0 hb0 hx0 hf0 hbl hbc
  have p0 := K0.out 0 _ rfl
  have p1 := K0.out 1 _ rfl
  have p2 := K0.out 2 _ rfl
  have p3 := K0.out 3 _ rfl
  have p4 := K0.out 4 _ rfl
  have p5 := K0.out 5 _ rfl
  go_wp2_with fail
  refine (HCT.out _ B0.out).mono ?_
  rintro e w1 ⟨v1, v2, v3, rfl, hC, hb⟩
  obtain ⟨b1, b2, b3, l1, l2, l3, f1, f2, f3, ee1, ee2, ee3⟩ := pc_slices hC.weak
  subst ee1
  subst ee2
  subst ee3
  rw [PQ.out]
  obtain ⟨pc, hpc⟩ : ∃ q, q = cutP p := ⟨_, rfl⟩
  have SPC : Hid (SmallPc pc) := Lib.hid (by rw [hpc]; exact cutP_small p)
  have PV : Hid (∀ x y z, pcv pc x y z = .agg #[.int .i64 m0, .int .i64 m1, .int .i64 m2, x, y, z]) := Lib.hid (by rw [hpc]; exact PQ.out)
  rw [← hpc] at hC
  have PCD := Lib.hid hpc
  have B1 := Lib.hid hb
  have HC1 := Lib.hid hC
  clear hb hC hpc p0 p1 p2 p3 p4 p5 HCT PQ
  have p0 := K0.out.below B1.out 0 _ rfl
  have p1 := K0.out.below B1.out 1 _ rfl
  have p2 := K0.out.below B1.out 2 _ rfl
  have p3 := K0.out.below B1.out 3 _ rfl
  have p4 := K0.out.below B1.out 4 _ rfl
  have p5 := K0.out.below B1.out 5 _ rfl
  have g0 : w1.frozen? ⟨bc, 0, none⟩ = false := (B1.out.frozen (p := ⟨bc, 0, none⟩) BL.out.1).trans (F0.out 0)
  have g1 : w1.frozen? ⟨bc, 1, none⟩ = false := (B1.out.frozen (p := ⟨bc, 1, none⟩) BL.out.1).trans (F0.out 1)
  have g2 : w1.frozen? ⟨bc, 2, none⟩ = false := (B1.out.frozen (p := ⟨bc, 2, none⟩) BL.out.1).trans (F0.out 2)
  have g3 : w1.frozen? ⟨bc, 3, none⟩ = false := (B1.out.frozen (p := ⟨bc, 3, none⟩) BL.out.1).trans (F0.out 3)
  have g4 : w1.frozen? ⟨bc, 4, none⟩ = false := (B1.out.frozen (p := ⟨bc, 4, none⟩) BL.out.1).trans (F0.out 4)
  have g5 : w1.frozen? ⟨bc, 5, none⟩ = false := (B1.out.frozen (p := ⟨bc, 5, none⟩) BL.out.1).trans (F0.out 5)
  go_upto_region 2 with fail
  obtain ⟨wc, hwc⟩ : ∃ x, x = set6 w1 bc (.int .i64 m0) (.int .i64 m1) (.int .i64 m2) (.slice b1 l1 f1) (.slice b2 l2 f2) (.slice b3 l3 f3) := ⟨_, rfl⟩
  have KC : Hid (BoxAt bc [.int .i64 m0, .int .i64 m1, .int .i64 m2, .slice b1 l1 f1, .slice b2 l2 f2, .slice b3 l3 f3] wc) := Lib.hid (by rw [hwc]; exact box_set6 (K0.out.below B1.out))
  have HC : Hid (HasL wc [.slice b1 l1 f1, .slice b2 l2 f2, .slice b3 l3 f3] pc.d) := Lib.hid (by rw [hwc]; exact (HC1.out.same (set6_same (fun (h : y0.heap.size ≤ bc) => by have := BL.out.1; omega))).weak)
  have BC : Hid (Below w.heap.size w wc) := Lib.hid (by rw [hwc]; exact set6_below (below_step' B0.out B1.out) BL.out.2)
  rw [show ((((((w1.setCell ⟨bc, 0, none⟩ (.int .i64 m0)).setCell ⟨bc, 1, none⟩ (.int .i64 m1)).setCell ⟨bc, 2, none⟩ (.int .i64 m2)).setCell ⟨bc, 3, none⟩ (.slice b1 l1 f1)).setCell ⟨bc, 4, none⟩ (.slice b2 l2 f2)).setCell ⟨bc, 5, none⟩ (.slice b3 l3 f3)) = wc from hwc.symm]
  clear hwc p0 p1 p2 p3 p4 p5 g0 g1 g2 g3 g4 g5 B1 HC1 K0 F0
  have p0 := KC.out.below (Below.refl _ wc) 0 _ rfl
  have p1 := KC.out.below (Below.refl _ wc) 1 _ rfl
  have p2 := KC.out.below (Below.refl _ wc) 2 _ rfl
  have p3 := KC.out.below (Below.refl _ wc) 3 _ rfl
  have p4 := KC.out.below (Below.refl _ wc) 4 _ rfl
  have p5 := KC.out.below (Below.refl _ wc) 5 _ rfl
  have ET := Lib.hid (encode_at pc _ _ _ wc HC.out SPC.out)
  rw [PV.out] at ET
  cases hok : okB pc with
  | false =>
    rw [enc_no hok] at ET
    clear hok
    go_wp2_with fail
    refine ET.out.mono ?_
    rintro e w2 ⟨rfl, hb⟩
    have B2 := Lib.hid hb
    clear hb p0 p1 p2 p3 p4 p5 ET
    go_wp2_with fail
    refine (fixed6_any _).mono ?_
    rintro e w10 ⟨rfl, hb⟩
    have B10 := Lib.hid (below_step' B2.out hb)
    clear hb
    go_wp2_with fail
    go_ret
    exact ⟨rfl, below_step' BC.out B10.out⟩
  | true =>
    have EN := Lib.hid (enc_ok hok)
    have ESZ : Hid ((strB (putsB (numsOf pc))).size ≤ 3000) := Lib.hid (by rw [PCD.out]; exact cut_size p)
    rw [EN.out] at ET
    have EP := enc_pos pc
    have DS := Lib.hid (dec_short hok)
    have DL := Lib.hid (dec_long hok)
    clear hok EN
    obtain ⟨er, her⟩ : ∃ x, x = strB (putsB (numsOf pc)) := ⟨_, rfl⟩
    rw [← her] at ET ESZ DS DL EP
    have hes : er.size ≤ 3000 := ESZ.out
    obtain ⟨k, hk, hkl⟩ := at_of a er.size ha0 EP
    clear her ESZ
    go_wp2_with fail
    refine ET.out.mono ?_
    rintro e w2 ⟨rfl, hb⟩
    have B2 := Lib.hid hb
    clear hb p0 p1 p2 p3 p4 p5 ET
    have hne : (er.size : Int) ≠ 0 := by omega
    have ZV : ∀ x y z, pcv Pc.zero x y z = .agg #[.int .i64 0, .int .i64 0, .int .i64 0, x, y, z] := fun _ _ _ => rfl
    go_upto_region 5 with fail
    have DSk := Lib.hid (DS.out k hkl)
    go_wp2_with fail
    refine (decode_at _ _ (by rw [ByteArray.size_extract]; omega)).mono ?_
    rintro e w3 ⟨v1, v2, v3, rfl, hX, hb⟩
    rw [DSk.out] at hX ⊢
    obtain ⟨h1, h2, h3, i1, i2, i3, j1, j2, j3, ee1, ee2, ee3⟩ := pc_slices hX.weak
    subst ee1
    subst ee2
    subst ee3
    rw [ZV]
    have B3 := Lib.hid (below_step' B2.out hb)
    have hb4 := below_new w3 (.cells #[.int .i64 0, .int .i64 0, .int .i64 0, .slice h1 i1 j1, .slice h2 i2 j2, .slice h3 i3 j3] 26)
    clear hb hX
    go_upto_region 6 with fail
    obtain ⟨w4, hw4⟩ : ∃ x, x = w3.alloc (.cells #[.int .i64 0, .int .i64 0, .int .i64 0, .slice h1 i1 j1, .slice h2 i2 j2, .slice h3 i3 j3] 26) := ⟨_, rfl⟩
    rw [← hw4] at hb4 ⊢
    have B4 := Lib.hid (below_step' B3.out hb4)
    clear hw4 hb4
    go_wp2_with fail
    rw [conv_one w4 _ (UInt8.ofNat c.toNat) (by rw [toNat_ofNat8 (by omega)]; omega)]
    simp only [Result.andThen]
    rw [Oper.upon_value]
    have DLc := Lib.hid (DL.out (UInt8.ofNat c.toNat))
    generalize UInt8.ofNat c.toNat = cb at *
    have hs1 : (strB [cb]).size ≤ 1 := by rw [strB_size]; simp
    go_wp2_with fail
    refine (decode_at _ _ (by rw [ByteArray.size_append]; omega)).mono ?_
    rintro e w5 ⟨v1, v2, v3, rfl, hX, hb⟩
    rw [DLc.out] at hX ⊢
    obtain ⟨g1, g2, g3, u1, u2, u3, q1, q2, q3, ee1, ee2, ee3⟩ := pc_slices hX.weak
    subst ee1
    subst ee2
    subst ee3
    rw [ZV]
    have B5 := Lib.hid (below_step' (below_step' B4.out (below_new _ _)) hb)
    have hb6 := below_new w5 (.cells #[.int .i64 0, .int .i64 0, .int .i64 0, .slice g1 u1 q1, .slice g2 u2 q2, .slice g3 u3 q3] 26)
    clear hb hX
    go_upto_region 7 with fail
    obtain ⟨w6, hw6⟩ : ∃ x, x = w5.alloc (.cells #[.int .i64 0, .int .i64 0, .int .i64 0, .slice g1 u1 q1, .slice g2 u2 q2, .slice g3 u3 q3] 26) := ⟨_, rfl⟩
    rw [← hw6] at hb6 ⊢
    have B6 := Lib.hid (below_step' B5.out hb6)
    clear hw6 hb6
    go_wp2_with fail
    refine (fixed6_any _).mono ?_
    rintro e w10 ⟨rfl, hb⟩
    have B10 := Lib.hid (below_step' B6.out hb)
    clear hb
    go_wp2_with fail
    go_ret
    exact ⟨rfl, below_step' BC.out B10.out⟩
end Go.Proofs.Ytcopedhoepblpaa
