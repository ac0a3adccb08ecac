/- The walk of the law Many. -/
import Derived.Test.YtefgedabakecnaaY
import Derived.Deep.AppendLies
namespace Go.Proofs.Ytefgedabakecnaa
open Go.RowKit Go.PlainAid

/-- What a slice of integers is, and a part of it from its beginning. -/
theorem IntsAt.take {w : World} {v : Value} {xs : List Int} (h : IntsAt w v xs) (k : Nat) : ∃ a len cap, v = .slice a len cap ∧ len = xs.length ∧ (len ≤ cap ∨ len = 0) ∧ ∀ n cap', n = min len k → n ≤ cap' ∨ n = 0 → IntsAt w (.slice a n cap') (xs.take k) := by
  rcases h with ⟨a, cap, rfl, rfl⟩ | ⟨b, off, len, cap, rfl, hl, hp, hb, hlc, hc⟩
  · exact ⟨a, 0, cap, rfl, rfl, .inr rfl, fun n cap' hn _ => .inl ⟨a, cap', by rw [hn]; simp, by simp⟩⟩
  · refine ⟨some ⟨b, off, none⟩, len, cap, rfl, hl.symm, .inl hlc, fun n cap' hn hc' => ?_⟩
    by_cases hk : k = 0
    · subst hk; exact .inl ⟨some ⟨b, off, none⟩, cap', by rw [hn]; simp, by simp⟩
    · refine .inr ⟨b, off, n, cap', rfl, by rw [List.length_take, hl, hn, Nat.min_comm], by omega, hb, by omega, fun i hi => ?_⟩
      rw [hc i (by omega)]
      simp only [List.getD, List.getElem?_take]
      rw [if_pos (by omega)]
theorem IntsAt.index {w : World} {a : Option Addr} {n cap : Nat} {xs : List Int} (h : IntsAt w (.slice a n cap) xs) {k : Nat} (hk : k < n) : ∃ b off, a = some ⟨b, off, none⟩ ∧ b < w.heap.size ∧ w.cell? ⟨b, off + k, none⟩ = some (.int .i64 (xs.getD k 0)) := by
  rcases h with ⟨a', cap', hv, _⟩ | ⟨b, off, len, cap', hv, hl, hp, hb, hlc, hc⟩
  · injection hv with _ hn _; omega
  · injection hv with ha hn _
    exact ⟨b, off, ha, hb, hc k (by omega)⟩
theorem IntsAt.len {w : World} {a : Option Addr} {n cap : Nat} {xs : List Int} (h : IntsAt w (.slice a n cap) xs) : xs.length = n := by
  rcases h with ⟨a', cap', hv, hx⟩ | ⟨b, off, len, cap', hv, hl, hp, hb, hlc, hc⟩
  · injection hv with _ hn _; rw [hx, hn]; rfl
  · injection hv with ha hn _; omega
theorem ownsRow_below {w w' : World} {base : Nat} {e : TypeId} {size : Nat} {v : Value} {n : Nat} {xs : List Value} (h : w.ownsRow base e size v n xs) (hb : Below w.heap.size w w') : w'.ownsRow base e size v n xs :=
  h.kept (row := none) ⟨hb.os, hb.tape, hb.output, hb.size, fun k hk _ => hb.block k hk⟩ (by cases hv : v.ownBlock with | none => exact .inl rfl | some g => exact .inr (by simp))

def cutI (n : Int) : Int := max 0 (min n 2147483647)
def ManyHead (w wr : World) (v : Value) (xs : List Int) : Prop :=
  ∃ g cap, v = .slice (some ⟨g, 0, none⟩) xs.length cap ∧ wr.ownsRow w.heap.size 3 1 v xs.length (xs.map (Value.int .i64)) ∧ Below w.heap.size w wr

theorem many_step {w wr w2 : World} {g cap g' cap' : Nat} {xs : List Int} {x : Int} {o : Obj} (hown : wr.ownsRow w.heap.size 3 1 (.slice (some ⟨g, 0, none⟩) xs.length cap) xs.length (xs.map (Value.int .i64))) (hb : Below w.heap.size w wr)
    (hown' : w2.ownsRow w.heap.size 3 1 (.slice (some ⟨g', 0, none⟩) (xs.length + 1) cap') (xs.length + 1) (xs.map (Value.int .i64) ++ [.int .i64 x])) (hg : (wr.alloc o).grownBy w2 (Value.ownBlock (.slice (some ⟨g, 0, none⟩) xs.length cap))) :
    ManyHead w w2 (.slice (some ⟨g', 0, none⟩) (xs.length + 1) cap') (xs ++ [x]) := by
  have hz := hb.size
  refine ⟨g', cap', by simp, by simpa using hown', (hb.alloc hz o).grown hg (by rw [size_new]; omega) (fun k hk => (hown.lt k hk).1)⟩

theorem all_puts (s : ByteArray) (L : List Int) (hs : s = strB (putsB L)) (hL : L.length ≤ 100) (w : World) :
    Calls Try.prog 13 #[.string s] w fun e w' => ∃ ao cap, e = .returned (.tuple #[.slice ao L.length cap, .int .i64 0]) ∧
      w'.ownsRow w.heap.size 3 1 (.slice ao L.length cap) (L.map cutI).length ((L.map cutI).map (Value.int .i64)) ∧ Below w.heap.size w w' := by
  have hz : s.size ≤ 1000000 := by rw [hs, strB_size]; have := putsB_len L; omega
  have h := allR_puts L
  rw [← hs] at h
  refine (all_any s w hz).mono ?_
  rintro e w' ⟨v, rfl, hown, hb⟩
  rw [h] at hown
  obtain ⟨ao, cap, rfl⟩ := owns_slice hown
  rw [h]
  refine ⟨ao, cap, by simp, ?_, hb⟩
  have e : (List.map (fun n => max 0 (min n 2147483647)) L) = L.map cutI := rfl
  rw [e] at hown
  simpa using hown

/-- The second loop's head: the wanted numbers, and the first list's. -/
def ManyHead2 (w wr : World) (v va : Value) (xs la : List Int) : Prop :=
  ManyHead w wr v xs ∧ wr.ownsRow w.heap.size 3 1 va la.length (la.map (Value.int .i64)) ∧ (va.ownBlock = none ∨ va.ownBlock ≠ v.ownBlock)

theorem many_step2 {w wr w2 : World} {g cap g' cap' : Nat} {xs la : List Int} {va : Value} {x : Int} {o : Obj} (h : ManyHead2 w wr (.slice (some ⟨g, 0, none⟩) xs.length cap) va xs la)
    (hown : wr.ownsRow w.heap.size 3 1 (.slice (some ⟨g, 0, none⟩) xs.length cap) xs.length (xs.map (Value.int .i64)))
    (hown' : w2.ownsRow w.heap.size 3 1 (.slice (some ⟨g', 0, none⟩) (xs.length + 1) cap') (xs.length + 1) (xs.map (Value.int .i64) ++ [.int .i64 x])) (hg : (wr.alloc o).grownBy w2 (Value.ownBlock (.slice (some ⟨g, 0, none⟩) xs.length cap)))
    (hor : Value.ownBlock (.slice (some ⟨g, 0, none⟩) xs.length cap) = some g' ∨ g' = wr.heap.size + 1) :
    ManyHead2 w w2 (.slice (some ⟨g', 0, none⟩) (xs.length + 1) cap') va (xs ++ [x]) la := by
  obtain ⟨⟨_, _, _, _, hb⟩, hva, hne⟩ := h
  refine ⟨many_step hown hb hown' hg, (hva.alloc _).kept hg hne, ?_⟩
  rcases hne with hne | hne
  · exact .inl hne
  · rcases hor with hor | hor
    · exact .inr (by rw [hor] at hne; exact hne)
    · cases hv : va.ownBlock with
      | none => exact .inl rfl
      | some k =>
        have := (hva.lt k hv).2
        exact .inr (by simp [Value.ownBlock]; omega)

set_option maxHeartbeats 8000000 in
set_option maxRecDepth 100000 in
theorem walkWordMany (v1 : Value) (l : List Int) (v2 : Value) (k : List Int) (w : World) (h1 : IntsAt w v1 l) (h2 : IntsAt w v2 k) :
    Calls Try.prog 6 #[v1, v2] w fun e w' => e = .returned (.bool true) ∧ Below w.heap.size w w' := by
  obtain ⟨i0, hi, hz0, hz1, hz2⟩ := info_parts Try.info3
  obtain ⟨a1, len1, cap1, rfl, hl1, hc1, t1⟩ := h1.take 30
  obtain ⟨a2, len2, cap2, rfl, hl2, hc2, t2⟩ := h2.take 30
  have b1 : min (len1 : Int) 30 ≤ cap1 := by omega
  have b2 : min (len2 : Int) 30 ≤ cap2 := by omega
  have I1 := Lib.hid (t1 (min (len1 : Int) 30).toNat cap1 (by omega) (by omega))
  have I2 := Lib.hid (t2 (min (len2 : Int) 30).toNat cap2 (by omega) (by omega))
  have hn1 : (min (len1 : Int) 30).toNat ≤ 30 := by omega
  have hn2 : (min (len2 : Int) 30).toNat ≤ 30 := by omega
  have hk1 : (min (len1 : Int) 30).toNat ≤ cap1 := by omega
  clear hl1 hl2 hc1 hc2 t1 t2 h1 h2
  go_enter Try.func6, Try.ntmps6
  go_wp2_with fail
  generalize (min (len1 : Int) 30).toNat = n1 at *
  generalize (min (len2 : Int) 30).toNat = n2 at *
  generalize l.take 30 = L at *
  generalize k.take 30 = K at *
  have hL := I1.out.len
  have hK := I2.out.len
  have HL := Lib.hid hL
  have HK := Lib.hid hK
  clear hL hK
  go_loopw [5, 6] (fun v i wr => ∃ k : Nat, i = .int .i64 k ∧ k ≤ n1 ∧ ManyHead w wr v ((L.take k).map cutI)) (fun _ i _ => n1 - (intOf i).toNat)
  case atStart => exact ⟨0, rfl, by omega, w.heap.size, 0, rfl, World.ownsRow_made w #[] 0 (Nat.le_refl _) (by omega) rfl, (Below.refl _ _).alloc (Nat.le_refl _) _⟩
  case round =>
    obtain ⟨k, rfl, hk, g, cap, rfl, hown, hbel⟩ := hrel
    have HO := Lib.hid hown
    have HB := Lib.hid hbel
    have hz := hbel.size
    by_cases hlt : k < n1
    · obtain ⟨b, off, ha, hb, hcell0⟩ := I1.out.index hlt
      subst ha
      have hcell : wr.cell? ⟨b, off + k, none⟩ = some (.int .i64 (L.getD k 0)) := (hbel.cell (by exact hb)).trans hcell0
      have hlen : ((L.take k).map cutI).length = k := by rw [List.length_map, List.length_take, HL.out]; omega
      have htk : (L.take (k + 1)).map cutI = (L.take k).map cutI ++ [cutI (L.getD k 0)] := by rw [take_snocI L k (by rw [HL.out]; exact hlt)]; simp
      have Htk := Lib.hid htk
      have Hlen := Lib.hid hlen
      obtain ⟨x, hx⟩ : ∃ x, x = L.getD k 0 := ⟨_, rfl⟩
      rw [← hx] at hcell
      have Hx := Lib.hid hx
      have hlen2 : ((L.take k).map cutI).length ≤ 30 := by omega
      clear hx hcell0 htk hlen hown hbel
      generalize (L.take k).map cutI = X at *
      go_wp2_with (at_builtin; refine wpList_append_lies _ rfl _ _ 22 rfl w.heap.size 3 i0 (.int .i64 0) 1 8 Try.underlying22 hi hz0 hz1 hz2 rfl (by decide) _ _ _ rfl (HO.out.alloc _) ⟨wr.heap.size, 0, none⟩ 1 1 [.int .i64 (max 0 (min x 2147483647))] rfl rfl (cell_one_new _ _ _) ?c2 (by omega) ?c3 ?c4 ?c5 _ rfl ?_)
      case c2 => intro u hu; simp at hu; subst hu; rfl
      case c3 => unfold maxLen; omega
      case c4 => omega
      case c5 => rw [size_new]; omega
      intro g' cap' w2 hown' hg _ _
      have hst := Lib.hid (many_step HO.out HB.out hown' hg)
      clear hown' hg
      go_wp2_with fail
      go_roundw
      case rel =>
        refine ⟨k + 1, by go_num, by omega, ?_⟩
        rw [Htk.out, ← Hx.out]; exact hst.out
      case measure => simp [intOf]; omega
    · have hkn : k = n1 := by omega
      have hx1 : (L.take k).map cutI = L.map cutI := by rw [List.take_of_length_le (by rw [HL.out]; omega)]
      rw [hx1] at hown HO
      have hlen : (L.map cutI).length = n1 := by rw [List.length_map, HL.out]
      rw [hx1, hlen]
      rw [hlen] at hown HO
      subst hkn
      have J1 := Lib.hid (I1.out.below hbel)
      clear hx1 hlen hown hbel hlt
      have Pl := Lib.hid (fun w v h => puts_at v L w h (by rw [HL.out]; omega))
      have Pk := Lib.hid (fun w v h => puts_at v K w h (by rw [HK.out]; omega))
      have Al := Lib.hid (fun s hs w => all_puts s L hs (by rw [HL.out]; omega) w)
      rw [HL.out] at Al
      go_wp2_with fail
      refine (Pl.out _ _ J1.out).mono ?_
      rintro e w1 ⟨rfl, hb⟩
      have H1 := Lib.hid (below_step hz HB.out hb)
      have O1 := Lib.hid (ownsRow_below HO.out hb)
      have z1 := H1.out.size
      clear hb
      go_wp2_with fail
      refine (Al.out _ rfl _).mono ?_
      rintro e w2 ⟨ao, cp, rfl, hva, hb⟩
      have H2 := Lib.hid (below_step z1 H1.out hb)
      have O2 := Lib.hid (ownsRow_below O1.out hb)
      have z2 := H2.out.size
      have hne : Value.ownBlock (.slice ao k cp) = none ∨ Value.ownBlock (.slice ao k cp) ≠ Value.ownBlock (.slice (some ⟨g, 0, none⟩) k cap) := by
        cases ha : Value.ownBlock (.slice ao k cp) with
        | none => exact .inl rfl
        | some b =>
          have q1 := (hva.lt b ha).1
          have q2 := (O1.out.lt g rfl).2
          exact .inr (by simp [Value.ownBlock]; omega)
      have Hne := Lib.hid hne
      have HV := Lib.hid (ownsRow_base hva z1)
      clear hb hva hne
      go_wp2_with fail
      go_loopw [5, 9] (fun v i wr => ∃ q : Nat, i = .int .i64 q ∧ q ≤ n2 ∧ ManyHead2 w wr v (.slice ao k cp) (L.map cutI ++ (K.take q).map cutI) (L.map cutI)) (fun _ i _ => n2 - (intOf i).toNat)
      case atStart =>
        refine ⟨0, rfl, by omega, ?_⟩
        have e0 : L.map cutI ++ (K.take 0).map cutI = L.map cutI := by simp
        have e1 : (L.map cutI).length = k := by rw [List.length_map, HL.out]
        rw [e0]
        exact ⟨⟨g, cap, by rw [e1], by rw [e1]; exact O2.out, H2.out⟩, HV.out, Hne.out⟩
      case round =>
        obtain ⟨q, rfl, hq, hh⟩ := hrel
        have HH := Lib.hid hh
        obtain ⟨⟨g2, cap2', rfl, hown, hbel⟩, hva, hne⟩ := hh
        have HO3 := Lib.hid hown
        have HB3 := Lib.hid hbel
        have hz3 := hbel.size
        by_cases hlt : q < n2
        · obtain ⟨b, off, ha, hb, hcell0⟩ := I2.out.index hlt
          subst ha
          have hcell : wr.cell? ⟨b, off + q, none⟩ = some (.int .i64 (K.getD q 0)) := (hbel.cell (by exact hb)).trans hcell0
          have hlen : (L.map cutI ++ (K.take q).map cutI).length = k + q := by rw [List.length_append, List.length_map, List.length_map, List.length_take, HL.out, HK.out]; omega
          have htk : L.map cutI ++ (K.take (q + 1)).map cutI = (L.map cutI ++ (K.take q).map cutI) ++ [cutI (K.getD q 0)] := by rw [take_snocI K q (by rw [HK.out]; exact hlt)]; simp
          have Htk := Lib.hid htk
          obtain ⟨x, hx⟩ : ∃ x, x = K.getD q 0 := ⟨_, rfl⟩
          rw [← hx] at hcell
          have Hx := Lib.hid hx
          have hlen2 : (L.map cutI ++ (K.take q).map cutI).length ≤ 60 := by omega
          clear hx hcell0 htk hlen hown hbel hva hne
          generalize L.map cutI ++ (K.take q).map cutI = X at *
          go_wp2_with (at_builtin; refine wpList_append_lies _ rfl _ _ 22 rfl w.heap.size 3 i0 (.int .i64 0) 1 8 Try.underlying22 hi hz0 hz1 hz2 rfl (by decide) _ _ _ rfl (HO3.out.alloc _) ⟨wr.heap.size, 0, none⟩ 1 1 [.int .i64 (max 0 (min x 2147483647))] rfl rfl (cell_one_new _ _ _) ?c2 (by omega) ?c3 ?c4 ?c5 _ rfl ?_)
          case c2 => intro u hu; simp at hu; subst hu; rfl
          case c3 => unfold maxLen; omega
          case c4 => omega
          case c5 => rw [size_new]; omega
          intro g' cap' w3 hown' hg hor _
          have hst := Lib.hid (many_step2 HH.out HO3.out hown' hg hor)
          clear hown' hg hor
          go_wp2_with fail
          go_roundw
          case rel =>
            refine ⟨q + 1, by go_num, by omega, ?_⟩
            rw [Htk.out, ← Hx.out]; exact hst.out
          case measure => simp [intOf]; omega
        · have hqn : q = n2 := by omega
          have hx1 : L.map cutI ++ (K.take q).map cutI = L.map cutI ++ K.map cutI := by rw [List.take_of_length_le (by rw [HK.out]; omega)]
          have hl2 : (L.map cutI ++ K.map cutI).length = k + n2 := by rw [List.length_append, List.length_map, List.length_map, HL.out, HK.out]
          rw [hx1] at hown
          have hW := IntsAt.owns hown
          have hA := IntsAt.owns hva
          have hk2 : k ≤ cap2' := by
            obtain ⟨a, len, c, hv, hl, hc, ht⟩ := hW.take k
            injection hv with _ e1 e2
            omega
          have hT : IntsAt wr (.slice (some ⟨g2, 0, none⟩) k cap2') (L.map cutI) := by
            obtain ⟨a, len, c, hv, hl, hc, ht⟩ := hW.take k
            injection hv with e0 e1 e2
            have := ht k cap2' (by omega) (by omega)
            rw [List.take_left' (by rw [List.length_map, HL.out]), ← e0] at this
            exact this
          rw [hl2] at hW
          rw [hx1, hl2]
          have Alk := Lib.hid (fun s hs w => all_puts s (L ++ K) hs (by rw [List.length_append, HL.out, HK.out]; omega) w)
          rw [List.length_append, HL.out, HK.out, List.map_append] at Alk
          have hs1 : (strB (putsB L)).size ≤ 1000 := by rw [strB_size]; have := putsB_len L; have := HL.out; omega
          have hs2 : (strB (putsB K)).size ≤ 1000 := by rw [strB_size]; have := putsB_len K; have := HK.out; omega
          have HW := Lib.hid hW
          have HA := Lib.hid hA
          have HT := Lib.hid hT
          have Hs := Lib.hid (show strB (putsB L) ++ strB (putsB K) = strB (putsB (L ++ K)) by rw [strB_append, putsB_append])
          have q1 := Lib.hid (I1.out.below hbel)
          have q2 := Lib.hid (I2.out.below hbel)
          have l1 : (L.map cutI).length ≤ 1000000 := by rw [List.length_map, HL.out]; omega
          have l2 : (L.map cutI ++ K.map cutI).length ≤ 1000000 := by rw [hl2]; omega
          have L1 := Lib.hid l1
          have L2 := Lib.hid l2
          clear hx1 hl2 hown hbel hva hne hW hA hT l1 l2 hqn HH HO3 Hne HV O2 O1 H2 H1 HO HB J1 Al
          generalize strB (putsB L) = S1 at *
          generalize strB (putsB K) = S2 at *
          generalize L.map cutI ++ K.map cutI = X at *
          generalize L.map cutI = Y at *
          go_wp2_with fail
          refine (Pl.out _ _ q1.out).mono ?_
          rintro e w1 ⟨rfl, hb⟩
          have H1 := Lib.hid (below_step hz3 HB3.out hb)
          have y1 := H1.out.size
          have T1 := Lib.hid (HT.out.below hb)
          have A1 := Lib.hid (HA.out.below hb)
          have W1 := Lib.hid (HW.out.below hb)
          have B1 := Lib.hid (I2.out.below H1.out)
          clear hb
          go_wp2_with fail
          refine (Pk.out _ _ B1.out).mono ?_
          rintro e w3 ⟨rfl, hb⟩
          have H2 := Lib.hid (below_step y1 H1.out hb)
          have y2 := H2.out.size
          have T2 := Lib.hid (T1.out.below hb)
          have A2 := Lib.hid (A1.out.below hb)
          have W2 := Lib.hid (W1.out.below hb)
          clear hb
          go_wp2_with fail
          refine (Alk.out _ Hs.out _).mono ?_
          rintro e w4 ⟨ao2, cp2, rfl, hvb, hb⟩
          have H3 := Lib.hid (below_step y2 H2.out hb)
          have y3 := H3.out.size
          have T3 := Lib.hid (T2.out.below hb)
          have A3 := Lib.hid (A2.out.below hb)
          have W3 := Lib.hid (W2.out.below hb)
          have V3 := Lib.hid (IntsAt.owns hvb)
          clear hb hvb
          go_wp2_with fail
          refine (rints_any _ _ _ _ _ A3.out T3.out L1.out L1.out).mono ?_
          rintro e w5 ⟨rfl, n, rfl⟩
          rw [show decide (Y = Y) = true by simp]
          have H4 := Lib.hid (below_drewN H3.out n)
          have y4 := H4.out.size
          have W4 := Lib.hid (W3.out.below (below_drewN (Below.refl _ w4) n))
          have V4 := Lib.hid (V3.out.below (below_drewN (Below.refl _ w4) n))
          go_wp2_with fail
          refine (rints_any _ _ _ _ _ V4.out W4.out L2.out L2.out).mono ?_
          rintro e w6 ⟨rfl, m, rfl⟩
          rw [show decide (X = X) = true by simp]
          have H5 := Lib.hid (below_drewN H3.out (n + m))
          have y5 := H5.out.size
          go_wp2_with fail
          refine (fixed_any _).mono ?_
          rintro e w7 ⟨rfl, hb⟩
          have H6 := Lib.hid (below_step y5 H5.out hb)
          clear hb
          go_wp2_with fail
          go_ret
          exact ⟨rfl, H6.out⟩
end Go.Proofs.Ytefgedabakecnaa
