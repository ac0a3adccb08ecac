/- TablePlain, walked. Written by gen_plain.py. -/
import Derived.Test.YtegpdfocfohkcaaTeA
import Derived.Test.YtegpdfocfohkcaaTbX
set_option linter.unusedSimpArgs false
namespace Go.Proofs.Ytegpdfocfohkcaa
open Go.RowKit Go.PlainAid

theorem infoSt : (Try.prog.info? 40).map (fun i => (i.zero, i.size, i.bytes)) = some (some (.agg #[.int .i64 0, .slice none 0 0]), 2, 32) := by kernel_rfl
set_option maxHeartbeats 8000000 in
set_option maxRecDepth 100000 in
theorem walkTablePlain (N0 : Int) (u0 : Value) (L0 : Lks) (v1 : Value) (bs : List Bool) (w : World) (wL0 : LinksAt w u0 L0) (wW0 : ∀ p ∈ L0, wfp p) (wB : Has w v1 (.row 1 (bs.map fun b => [dB b]))) :
    Calls Try.prog 8 #[.agg #[.int .i64 N0, u0], v1] w fun e w' => e = .returned (.bool true) ∧ Below w.heap.size w w' := by
  obtain ⟨a, cap, hv⟩ := wL0.at
  subst hv
  have HL0 := Lib.hid wL0
  obtain ⟨ba, bc, hv1⟩ := slice_of wB
  subst hv1
  have HB := Lib.hid wB
  obtain ⟨bl, hbl⟩ : ∃ bl, bl = bs.length := ⟨_, rfl⟩
  have BL := Lib.hid hbl
  rw [← hbl] at HB ⊢
  obtain ⟨iN, hiN, hzN, hsN, hbN⟩ := info_parts infoSt
  obtain ⟨iI, hiI, hzI, hsI, hbI⟩ := info_parts infoI
  clear wB hbl
  have HM := Lib.hid (linksAt_cut wL0)
  have hW := wf_take wW0
  have hMl := take_le L0
  obtain ⟨M, hMe⟩ : ∃ M, M = L0.take 40 := ⟨_, rfl⟩
  have HMe := Lib.hid hMe
  rw [← hMe] at HM hW hMl
  have HW := Lib.hid hW
  have hn6 : M.length ≤ 1000000 := by omega
  obtain ⟨r, hr⟩ := bool_of (RightG N0 M)
  have HR := Lib.hid hr
  clear wL0 wW0 hW hMe hr
  go_enter Try.func8, Try.ntmps8
  try simp only [List.append_eq, List.cons_append, List.nil_append]
  go_wp2_with fail
  refine (cut_at a cap L0 N0 _ (HL0.out.below (below_alloc _ _))).mono ?_
  rintro e x1 ⟨rfl, hb⟩
  rw [← HMe.out]
  simp only [gv]
  obtain ⟨hbox, x2, hx2, hK⟩ := law_box hb HM.out
  have q0 := hbox.1
  have q1 := hbox.2.1
  have q2 := hbox.2.2.1
  have q3 := hbox.2.2.2
  have T := Lib.hid hK
  have z0 := hK.b0
  have z1 := hK.b1
  clear hb hbox hK
  go_wp2_with fail
  rw [← hx2]
  clear hx2 q0 q1 q2 q3
  refine (ref_slice _ _ _ _ _).mono ?_
  rintro e x3 ⟨rfl, hb⟩
  have T := Lib.hid (T.out.below hb)
  clear hb z0 z1
  go_wp2_with fail
  refine (rright_at N0 _ M r _ T.out.l HR.out).mono ?_
  rintro e x4 ⟨rfl, hb⟩
  have T := Lib.hid (T.out.below hb)
  have z0 := T.out.b0
  have z1 := T.out.b1
  clear hb
  by_cases hG : RightG N0 M
  · have hrt : r = true := HR.out.2 hG
    subst hrt
    obtain ⟨N, hN⟩ := Int.eq_ofNat_of_zero_le (show 0 ≤ N0 by have := hG.1; omega)
    subst hN
    have h6 : N ≤ 6 := by have := hG.2.1; omega
    have h1 : 1 ≤ N := by have := hG.1; omega
    have HG := Lib.hid hG
    have O0 := Lib.hid (Own.made (S := False) (P := All) (E := 40) (n := 2) (Below.refl x4.heap.size x4))
    have T4' := Lib.hid T.out
    have T4 := Lib.hid (T.out.below (below_new x4 (.cells #[] 40)))
    clear hG z0 z1
    go_wp2_with fail
    go_loopw [5, 6] (fun q i wr => ∃ k : Nat, i = .int .i64 k ∧ k ≤ N ∧ KAt w N (.slice a M.length cap) M wr ∧ Own False All 40 2 x4 wr.heap.size wr q ((tabN M bs N k).map Nd.d)) (fun _ i _ => N - (intOf i).toNat)
    case atStart => exact ⟨0, rfl, by omega, T4.out, by have := O0.out; rw [show (x4.alloc (.cells #[] 40)).heap.size = x4.heap.size + 1 by simp]; exact this⟩
    case round =>
      rename Value => q
      obtain ⟨k, rfl, hk, hT, hO⟩ := hrel
      have TT := Lib.hid hT
      have OO := Lib.hid hO
      have z0 := hT.b0
      obtain ⟨qa, qc, hq⟩ := hO.slice
      rw [List.length_map, tabN_len] at hq
      subst hq
      clear hT hO
      by_cases hlt : k < N
      · have hlt' : (k : Int) < N := by omega
        obtain ⟨wo, hwo⟩ : ∃ wo, wo = wr := ⟨_, rfl⟩
        subst hwo
        have I0 := Lib.hid (InAt.start wo)
        have hwo : wo.heap.size = wo.heap.size := rfl
        clear hwo
        go_wp2_with fail
        go_loopw [8] (fun i wr => ∃ (j : Nat) (m : Int) (v : Value), i = .int .i64 j ∧ j ≤ N ∧ (¬ bs[k]? = some true → j = 0) ∧ InAt wo m v (hears M k j) wr) (fun i _ => N - (intOf i).toNat)
        case atStart => exact ⟨0, _, _, rfl, by omega, fun _ => rfl, I0.out⟩
        case round =>
          obtain ⟨j, m, v, rfl, hj, hflag, hI⟩ := hrel
          have hbw := hI.f1.bld.own.bel
          have hT := TT.out.below hbw
          have TT8 := Lib.hid hT
          have BW := Lib.hid hbw
          have II := Lib.hid hI
          have y0 := hT.b0
          have y1 := hT.b1
          have Fl := Lib.hid hflag
          have hB := HB.out.later (below_step TT8.out.bel.size TT8.out.bel (Below.refl _ _))
          obtain ⟨va, vc, hv⟩ := hI.f1.bld.own.slice
          rw [List.length_map] at hv
          obtain ⟨nl, hnl⟩ : ∃ nl, nl = (hears M k j).length := ⟨_, rfl⟩
          rw [← hnl] at hv
          have NL := Lib.hid hnl
          have hnl6 : nl ≤ 6 := by have := hears_len M k j; omega
          subst hv
          have c0 := hI.c0
          have c1 := hI.f1.cell
          have c2 := hI.c2
          have c3 := hI.c3
          have f0 := hI.z0
          have f1 := hI.f1.frz
          clear hT hI hflag hnl hbw
          by_cases hlj : j < N
          · have hlj' : (j : Int) < N := by omega
            by_cases hn : k < bl
            · have hn' : (k : Int) < bl := by omega
              obtain ⟨β, hβ⟩ := some_of_lt (l := bs) (i := k) (by rw [← BL.out]; exact hn)
              obtain ⟨bb, bo, bcap, e, hbb, _, cs, hcs, hcell⟩ := cells_of (f := fun b : Bool => [dB b]) hB hβ
              obtain ⟨c, r', rfl, g1, g2⟩ := hcs.cons
              obtain rfl := Holds.val g1
              have b0 := hcell 0 _ rfl
              rw [Nat.mul_one, Nat.add_zero] at b0
              rw [← BL.out] at e
              simp only [Value.slice.injEq] at e
              obtain ⟨e, _, e'⟩ := e
              subst e e'
              have Hβ := Lib.hid hβ
              clear hB hcs g1 g2 hcell hβ
              cases β with
              | true =>
                go_wp2_with fail
                refine (ref_slice _ _ _ _ _).mono ?_
                rintro e x8 ⟨rfl, hb⟩
                have TT9 := Lib.hid (TT8.out.below hb)
                have II := Lib.hid (II.out.below hb)
                clear hb y0 y1 c0 c1 c2 c3 f0 f1 b0
                obtain ⟨fq, hfq⟩ : ∃ fq, fq = findL M ((j : Int), (k : Int)) := ⟨_, rfl⟩
                have Hfq := Lib.hid hfq
                clear hfq
                go_wp2_with fail
                refine (rfind_at N j k _ M fq _ TT9.out.l hn6 Hfq.out).mono ?_
                rintro e x9 ⟨rfl, hb⟩
                have II := Lib.hid (II.out.below hb)
                clear hb
                have c0 := II.out.c0
                have c1 := II.out.f1.cell
                have f0 := II.out.z0
                by_cases hm : ((j : Int), (k : Int)) ∈ M
                · have hq0 : (0 : Int) ≤ fq := by
                    have : ¬ findL M ((j : Int), (k : Int)) < 0 := fun h => (findL_neg.1 h) hm
                    rw [Hfq.out]; omega
                  have hq1 : decide ((0 : Int) ≤ fq) = true := by simpa using hq0
                  have Hm := Lib.hid hm
                  have O10 := Lib.hid ((II.out.f1.bld.own.set ⟨wo.heap.size, 0, none⟩ (.int .i64 2) (by simp) (by simp) (fun e => by have := II.out.f1.bld.inP _ e; simp at this)).later (below_new _ (.cells #[.int .i64 (j : Int)] 3)))
                  clear hm
                  go_wp2_with (at_builtin; refine appL rfl _ _ 26 3 iI (.int .i64 0) 1 8 rfl Try.underlying26 hiI hzI hsI hbI rfl (by decide) False (fun kz => wo.heap.size < kz) wo x9.heap.size _ ((hears M k j).map fun a => [dI a]) [[dI (j : Int)]] nl 1 1 (nl + 1) rfl O10.out (by rw [List.length_map]; exact NL.out.symm) (some ⟨x9.heap.size, 0, none⟩) rfl [.int .i64 (j : Int)] ?c1 (fun e => by cases e) (by simp) rfl (consF (.atom _ _ _ rfl) (nilF _ _)) rfl ?c2 ?c3 ?_)
                  case c1 =>
                    intro a0 ha j0 u hj0
                    cases ha
                    rw [Go.WideShapes.add_plain, Nat.zero_add, World.cell?_alloc_at _ _ _ _ (by simp), List.getElem?_toArray]
                    exact hj0
                  case c2 => unfold maxLen; omega
                  case c3 => omega
                  intro ao cv w12 hO12 hg12 hb12
                  have e12 : (hears M k j).map (fun a => [dI a]) ++ [[dI (j : Int)]] = (hears M k j ++ [(j : Int)]).map (fun a => [dI a]) := by simp
                  rw [e12] at hO12
                  obtain ⟨hI, c6, f6⟩ := II.out.push _ hO12 hg12 (by rw [show ((x9.setCell ⟨wo.heap.size, 0, none⟩ (.int .i64 2)).alloc (.cells #[.int .i64 (j : Int)] 3)).heap.size = x9.heap.size + 1 by simp]; exact hb12)
                  have CN := Lib.hid hI
                  clear hO12 hg12 hb12 hI e12
                  go_wp2_with fail
                  go_roundw
                  case rel => exact ⟨j + 1, 2, _, by go_num, by omega, fun h => absurd Hβ.out h, by rw [hears_succ, if_pos Hm.out]; exact CN.out⟩
                  case measure => simp [intOf]; omega
                · have hq0 : ¬ (0 : Int) ≤ fq := by
                    have := findL_neg.2 hm
                    rw [Hfq.out]; omega
                  have hq1 : decide ((0 : Int) ≤ fq) = false := by simpa using hq0
                  have Hm := Lib.hid hm
                  clear hm
                  go_wp2_with fail
                  go_roundw
                  case rel => exact ⟨j + 1, m, _, by go_num, by omega, fun h => absurd Hβ.out h, by rw [hears_succ, if_neg Hm.out]; exact II.out⟩
                  case measure => simp [intOf]; omega
              | false =>
                have hj0 : j = 0 := Fl.out (by rw [Hβ.out]; simp)
                have EX : Hid (stN M bs N k = ⟨m, hears M k j, [], []⟩) := Lib.hid (by
                  have e := II.out.hm
                  rw [hj0] at e ⊢
                  unfold stN
                  rw [if_neg (by rw [Hβ.out]; simp), e]
                  rfl)
                obtain ⟨wZ, hwZ⟩ : ∃ wZ, wZ = (wr.alloc (.cells #[.int .i64 m, .slice va nl vc, .slice none 0 0, .slice none 0 0] 58)).alloc (.cells #[.int .i64 0, .slice (some ⟨wr.heap.size, 0, none⟩) 1 1] 40) := ⟨_, rfl⟩
                have hbZ : Below wr.heap.size wr wZ := by rw [hwZ]; go_grown
                have OZ := Lib.hid ((OO.out.later BW.out).later hbZ)
                have n0 : wZ.cell? ⟨wr.heap.size + 1, 0, none⟩ = some (.int .i64 0) := by rw [hwZ]; go_cell
                have n1 : wZ.cell? ⟨wr.heap.size + 1, 1, none⟩ = some (.slice (some ⟨wr.heap.size, 0, none⟩) 1 1) := by rw [hwZ]; go_cell
                have s0 : wZ.cell? ⟨wr.heap.size, 0, none⟩ = some (.int .i64 m) := by rw [hwZ]; go_cell
                have s1 : wZ.cell? ⟨wr.heap.size, 1, none⟩ = some (.slice va nl vc) := by rw [hwZ]; go_cell
                have s2 : wZ.cell? ⟨wr.heap.size, 2, none⟩ = some (.slice none 0 0) := by rw [hwZ]; go_cell
                have s3 : wZ.cell? ⟨wr.heap.size, 3, none⟩ = some (.slice none 0 0) := by rw [hwZ]; go_cell
                have hzw := BW.out.size
                have hPz : ∀ kz, wo.heap.size < kz → (fun kz => All kz ∧ (Value.slice qa k qc).ownBlock ≠ some kz ∧ (False → wo.heap.size ≤ kz)) kz := fun kz hk => ⟨trivial, fun e => by have := OO.out.blk kz e; omega, fun f => f.elim⟩
                have hlw : wo.heap.size < wr.heap.size := World.block_lt_of_cell? wr _ c0
                have HLZ := Lib.hid (show HoldsL False (fun kz => All kz ∧ (Value.slice qa k qc).ownBlock ≠ some kz ∧ (False → wo.heap.size ≤ kz)) wZ [.int .i64 0, .slice (some ⟨wr.heap.size, 0, none⟩) 1 1] (Nd.d (ndN M bs N k)) from
                  consF (.atom _ _ _ rfl) (consF (holds_block (xs := [St.d (stN M bs N k)]) (hPz _ hlw) [[.int .i64 m, .slice va nl vc, .slice none 0 0, .slice none 0 0]] rfl (by simp) (World.block_lt_of_cell? wZ _ s0) (by simp) (by simp [St.d])
                    (fun i cs hi j0 c hj0 => by
                      match i, hi with
                      | 0, hi =>
                        simp at hi; subst hi
                        match j0, hj0 with
                        | 0, hj0 => simp at hj0; subst hj0; simpa using s0
                        | 1, hj0 => simp at hj0; subst hj0; simpa using s1
                        | 2, hj0 => simp at hj0; subst hj0; simpa using s2
                        | 3, hj0 => simp at hj0; subst hj0; simpa using s3
                        | j0 + 4, hj0 => simp at hj0
                      | i + 1, hi => simp at hi)
                    (fun i cs ds hi hd => by
                      match i, hi, hd with
                      | 0, hi, hd =>
                        simp at hi hd; subst hi hd
                        rw [EX.out]
                        exact consF (.atom _ _ _ rfl) (consF ((II.out.f1.bld.holds.later hbZ).wide (fun b _ p => hPz b p)) (consF (.nil _ _ _ _ _) (consF (.nil _ _ _ _ _) (nilF _ _))))
                      | i + 1, hi, hd => simp at hi)) (nilF _ _)))
                have C1 := Lib.hid (show ∀ a0 : Addr, some (⟨wr.heap.size + 1, 0, none⟩ : Addr) = some a0 → ∀ (j0 : Nat) (u : Value), [Value.int .i64 0, .slice (some ⟨wr.heap.size, 0, none⟩) 1 1][j0]? = some u → wZ.cell? (a0.add j0) = some u from fun a0 ha j0 u hj0 => by
                  cases ha
                  rw [Go.WideShapes.add_plain]
                  match j0, hj0 with
                  | 0, hj0 => simp at hj0; subst hj0; simpa using n0
                  | 1, hj0 => simp at hj0; subst hj0; simpa using n1
                  | j0 + 2, hj0 => simp at hj0)
                have BZ := Lib.hid (below_step BW.out.size BW.out hbZ)
                have WZ := Lib.hid hwZ
                clear hbZ n0 n1 s0 s1 s2 s3 hzw hPz hlw hwZ
                go_wp2_with (at_builtin; go_loud (rw [← WZ.out]; refine appL rfl _ _ 22 40 iN (.agg #[.int .i64 0, .slice none 0 0]) 2 32 rfl Try.underlying22 hiN hzN hsN hbN rfl (by decide) False All x4 wo.heap.size _ ((tabN M bs N k).map Nd.d) [Nd.d (ndN M bs N k)] k 1 1 (k + 1) rfl OZ.out (by rw [List.length_map, tabN_len]) (some ⟨wr.heap.size + 1, 0, none⟩) rfl [.int .i64 0, .slice (some ⟨wr.heap.size, 0, none⟩) 1 1] C1.out (fun e => by cases e) (by simp [Nd.d]) rfl (by rw [List.flatten_cons, List.flatten_nil, List.append_nil]; exact HLZ.out) rfl (by unfold maxLen; omega) (by omega) ?_))
                intro ao cv w13 hO13 hg13 _
                have e13 : (tabN M bs N k).map Nd.d ++ [Nd.d (ndN M bs N k)] = (tabN M bs N (k + 1)).map Nd.d := by rw [tabN_succ, List.map_append]; rfl
                rw [e13] at hO13
                have O13 := Lib.hid hO13
                clear hO13 hg13 e13
                go_wp2_with fail
                go_roundw
                case rel => exact ⟨k + 1, by go_num, by omega, T4'.out.below O13.out.bel, O13.out⟩
                case measure => simp [intOf]; omega
            · have hn' : ¬ (k : Int) < bl := by omega
              have hno : ¬ bs[k]? = some true := by rw [List.getElem?_eq_none (by rw [← BL.out]; omega)]; simp
              have hj0 : j = 0 := Fl.out hno
              have EX : Hid (stN M bs N k = ⟨m, hears M k j, [], []⟩) := Lib.hid (by
                have e := II.out.hm
                rw [hj0] at e ⊢
                unfold stN
                rw [if_neg hno, e]
                rfl)
              clear hno hB
              obtain ⟨wZ, hwZ⟩ : ∃ wZ, wZ = (wr.alloc (.cells #[.int .i64 m, .slice va nl vc, .slice none 0 0, .slice none 0 0] 58)).alloc (.cells #[.int .i64 0, .slice (some ⟨wr.heap.size, 0, none⟩) 1 1] 40) := ⟨_, rfl⟩
              have hbZ : Below wr.heap.size wr wZ := by rw [hwZ]; go_grown
              have OZ := Lib.hid ((OO.out.later BW.out).later hbZ)
              have n0 : wZ.cell? ⟨wr.heap.size + 1, 0, none⟩ = some (.int .i64 0) := by rw [hwZ]; go_cell
              have n1 : wZ.cell? ⟨wr.heap.size + 1, 1, none⟩ = some (.slice (some ⟨wr.heap.size, 0, none⟩) 1 1) := by rw [hwZ]; go_cell
              have s0 : wZ.cell? ⟨wr.heap.size, 0, none⟩ = some (.int .i64 m) := by rw [hwZ]; go_cell
              have s1 : wZ.cell? ⟨wr.heap.size, 1, none⟩ = some (.slice va nl vc) := by rw [hwZ]; go_cell
              have s2 : wZ.cell? ⟨wr.heap.size, 2, none⟩ = some (.slice none 0 0) := by rw [hwZ]; go_cell
              have s3 : wZ.cell? ⟨wr.heap.size, 3, none⟩ = some (.slice none 0 0) := by rw [hwZ]; go_cell
              have hzw := BW.out.size
              have hPz : ∀ kz, wo.heap.size < kz → (fun kz => All kz ∧ (Value.slice qa k qc).ownBlock ≠ some kz ∧ (False → wo.heap.size ≤ kz)) kz := fun kz hk => ⟨trivial, fun e => by have := OO.out.blk kz e; omega, fun f => f.elim⟩
              have hlw : wo.heap.size < wr.heap.size := World.block_lt_of_cell? wr _ c0
              have HLZ := Lib.hid (show HoldsL False (fun kz => All kz ∧ (Value.slice qa k qc).ownBlock ≠ some kz ∧ (False → wo.heap.size ≤ kz)) wZ [.int .i64 0, .slice (some ⟨wr.heap.size, 0, none⟩) 1 1] (Nd.d (ndN M bs N k)) from
                consF (.atom _ _ _ rfl) (consF (holds_block (xs := [St.d (stN M bs N k)]) (hPz _ hlw) [[.int .i64 m, .slice va nl vc, .slice none 0 0, .slice none 0 0]] rfl (by simp) (World.block_lt_of_cell? wZ _ s0) (by simp) (by simp [St.d])
                  (fun i cs hi j0 c hj0 => by
                    match i, hi with
                    | 0, hi =>
                      simp at hi; subst hi
                      match j0, hj0 with
                      | 0, hj0 => simp at hj0; subst hj0; simpa using s0
                      | 1, hj0 => simp at hj0; subst hj0; simpa using s1
                      | 2, hj0 => simp at hj0; subst hj0; simpa using s2
                      | 3, hj0 => simp at hj0; subst hj0; simpa using s3
                      | j0 + 4, hj0 => simp at hj0
                    | i + 1, hi => simp at hi)
                  (fun i cs ds hi hd => by
                    match i, hi, hd with
                    | 0, hi, hd =>
                      simp at hi hd; subst hi hd
                      rw [EX.out]
                      exact consF (.atom _ _ _ rfl) (consF ((II.out.f1.bld.holds.later hbZ).wide (fun b _ p => hPz b p)) (consF (.nil _ _ _ _ _) (consF (.nil _ _ _ _ _) (nilF _ _))))
                    | i + 1, hi, hd => simp at hi)) (nilF _ _)))
              have C1 := Lib.hid (show ∀ a0 : Addr, some (⟨wr.heap.size + 1, 0, none⟩ : Addr) = some a0 → ∀ (j0 : Nat) (u : Value), [Value.int .i64 0, .slice (some ⟨wr.heap.size, 0, none⟩) 1 1][j0]? = some u → wZ.cell? (a0.add j0) = some u from fun a0 ha j0 u hj0 => by
                cases ha
                rw [Go.WideShapes.add_plain]
                match j0, hj0 with
                | 0, hj0 => simp at hj0; subst hj0; simpa using n0
                | 1, hj0 => simp at hj0; subst hj0; simpa using n1
                | j0 + 2, hj0 => simp at hj0)
              have BZ := Lib.hid (below_step BW.out.size BW.out hbZ)
              have WZ := Lib.hid hwZ
              clear hbZ n0 n1 s0 s1 s2 s3 hzw hPz hlw hwZ
              go_wp2_with (at_builtin; go_loud (rw [← WZ.out]; refine appL rfl _ _ 22 40 iN (.agg #[.int .i64 0, .slice none 0 0]) 2 32 rfl Try.underlying22 hiN hzN hsN hbN rfl (by decide) False All x4 wo.heap.size _ ((tabN M bs N k).map Nd.d) [Nd.d (ndN M bs N k)] k 1 1 (k + 1) rfl OZ.out (by rw [List.length_map, tabN_len]) (some ⟨wr.heap.size + 1, 0, none⟩) rfl [.int .i64 0, .slice (some ⟨wr.heap.size, 0, none⟩) 1 1] C1.out (fun e => by cases e) (by simp [Nd.d]) rfl (by rw [List.flatten_cons, List.flatten_nil, List.append_nil]; exact HLZ.out) rfl (by unfold maxLen; omega) (by omega) ?_))
              intro ao cv w13 hO13 hg13 _
              have e13 : (tabN M bs N k).map Nd.d ++ [Nd.d (ndN M bs N k)] = (tabN M bs N (k + 1)).map Nd.d := by rw [tabN_succ, List.map_append]; rfl
              rw [e13] at hO13
              have O13 := Lib.hid hO13
              clear hO13 hg13 e13
              go_wp2_with fail
              go_roundw
              case rel => exact ⟨k + 1, by go_num, by omega, T4'.out.below O13.out.bel, O13.out⟩
              case measure => simp [intOf]; omega
          · have hlj' : ¬ (j : Int) < N := by omega
            obtain rfl : j = N := by omega
            have EX : Hid (stN M bs j k = ⟨m, hears M k j, [], []⟩) := Lib.hid (by
              have hb : bs[k]? = some true := by
                by_cases h : bs[k]? = some true
                · exact h
                · have := Fl.out h; omega
              unfold stN
              rw [if_pos hb, II.out.hm])
            clear hB
            obtain ⟨wZ, hwZ⟩ : ∃ wZ, wZ = (wr.alloc (.cells #[.int .i64 m, .slice va nl vc, .slice none 0 0, .slice none 0 0] 58)).alloc (.cells #[.int .i64 0, .slice (some ⟨wr.heap.size, 0, none⟩) 1 1] 40) := ⟨_, rfl⟩
            have hbZ : Below wr.heap.size wr wZ := by rw [hwZ]; go_grown
            have OZ := Lib.hid ((OO.out.later BW.out).later hbZ)
            have n0 : wZ.cell? ⟨wr.heap.size + 1, 0, none⟩ = some (.int .i64 0) := by rw [hwZ]; go_cell
            have n1 : wZ.cell? ⟨wr.heap.size + 1, 1, none⟩ = some (.slice (some ⟨wr.heap.size, 0, none⟩) 1 1) := by rw [hwZ]; go_cell
            have s0 : wZ.cell? ⟨wr.heap.size, 0, none⟩ = some (.int .i64 m) := by rw [hwZ]; go_cell
            have s1 : wZ.cell? ⟨wr.heap.size, 1, none⟩ = some (.slice va nl vc) := by rw [hwZ]; go_cell
            have s2 : wZ.cell? ⟨wr.heap.size, 2, none⟩ = some (.slice none 0 0) := by rw [hwZ]; go_cell
            have s3 : wZ.cell? ⟨wr.heap.size, 3, none⟩ = some (.slice none 0 0) := by rw [hwZ]; go_cell
            have hzw := BW.out.size
            have hPz : ∀ kz, wo.heap.size < kz → (fun kz => All kz ∧ (Value.slice qa k qc).ownBlock ≠ some kz ∧ (False → wo.heap.size ≤ kz)) kz := fun kz hk => ⟨trivial, fun e => by have := OO.out.blk kz e; omega, fun f => f.elim⟩
            have hlw : wo.heap.size < wr.heap.size := World.block_lt_of_cell? wr _ c0
            have HLZ := Lib.hid (show HoldsL False (fun kz => All kz ∧ (Value.slice qa k qc).ownBlock ≠ some kz ∧ (False → wo.heap.size ≤ kz)) wZ [.int .i64 0, .slice (some ⟨wr.heap.size, 0, none⟩) 1 1] (Nd.d (ndN M bs j k)) from
              consF (.atom _ _ _ rfl) (consF (holds_block (xs := [St.d (stN M bs j k)]) (hPz _ hlw) [[.int .i64 m, .slice va nl vc, .slice none 0 0, .slice none 0 0]] rfl (by simp) (World.block_lt_of_cell? wZ _ s0) (by simp) (by simp [St.d])
                (fun i cs hi j0 c hj0 => by
                  match i, hi with
                  | 0, hi =>
                    simp at hi; subst hi
                    match j0, hj0 with
                    | 0, hj0 => simp at hj0; subst hj0; simpa using s0
                    | 1, hj0 => simp at hj0; subst hj0; simpa using s1
                    | 2, hj0 => simp at hj0; subst hj0; simpa using s2
                    | 3, hj0 => simp at hj0; subst hj0; simpa using s3
                    | j0 + 4, hj0 => simp at hj0
                  | i + 1, hi => simp at hi)
                (fun i cs ds hi hd => by
                  match i, hi, hd with
                  | 0, hi, hd =>
                    simp at hi hd; subst hi hd
                    rw [EX.out]
                    exact consF (.atom _ _ _ rfl) (consF ((II.out.f1.bld.holds.later hbZ).wide (fun b _ p => hPz b p)) (consF (.nil _ _ _ _ _) (consF (.nil _ _ _ _ _) (nilF _ _))))
                  | i + 1, hi, hd => simp at hi)) (nilF _ _)))
            have C1 := Lib.hid (show ∀ a0 : Addr, some (⟨wr.heap.size + 1, 0, none⟩ : Addr) = some a0 → ∀ (j0 : Nat) (u : Value), [Value.int .i64 0, .slice (some ⟨wr.heap.size, 0, none⟩) 1 1][j0]? = some u → wZ.cell? (a0.add j0) = some u from fun a0 ha j0 u hj0 => by
              cases ha
              rw [Go.WideShapes.add_plain]
              match j0, hj0 with
              | 0, hj0 => simp at hj0; subst hj0; simpa using n0
              | 1, hj0 => simp at hj0; subst hj0; simpa using n1
              | j0 + 2, hj0 => simp at hj0)
            have BZ := Lib.hid (below_step BW.out.size BW.out hbZ)
            have WZ := Lib.hid hwZ
            clear hbZ n0 n1 s0 s1 s2 s3 hzw hPz hlw hwZ
            go_wp2_with (at_builtin; go_loud (rw [← WZ.out]; refine appL rfl _ _ 22 40 iN (.agg #[.int .i64 0, .slice none 0 0]) 2 32 rfl Try.underlying22 hiN hzN hsN hbN rfl (by decide) False All x4 wo.heap.size _ ((tabN M bs j k).map Nd.d) [Nd.d (ndN M bs j k)] k 1 1 (k + 1) rfl OZ.out (by rw [List.length_map, tabN_len]) (some ⟨wr.heap.size + 1, 0, none⟩) rfl [.int .i64 0, .slice (some ⟨wr.heap.size, 0, none⟩) 1 1] C1.out (fun e => by cases e) (by simp [Nd.d]) rfl (by rw [List.flatten_cons, List.flatten_nil, List.append_nil]; exact HLZ.out) rfl (by unfold maxLen; omega) (by omega) ?_))
            intro ao cv w13 hO13 hg13 _
            have e13 : (tabN M bs j k).map Nd.d ++ [Nd.d (ndN M bs j k)] = (tabN M bs j (k + 1)).map Nd.d := by rw [tabN_succ, List.map_append]; rfl
            rw [e13] at hO13
            have O13 := Lib.hid hO13
            clear hO13 hg13 e13
            go_wp2_with fail
            go_roundw
            case rel => exact ⟨k + 1, by go_num, by omega, T4'.out.below O13.out.bel, O13.out⟩
            case measure => simp [intOf]; omega
      · have hlt' : ¬ (k : Int) < N := by omega
        obtain rfl : k = N := by omega
        have z1 := TT.out.b1
        clear z0
        have z0 := TT.out.b0
        have h1k : (1 : Int) ≤ (k : Int) := by omega
        have hown := OO.out.holds (fun _ _ => trivial)
        have HT := Lib.hid hown
        clear hown
        by_cases hqc : qc = 1
        · subst hqc
          go_wp2_with fail
          have T := Lib.hid (TT.out.below (below_drewN (Below.refl _ wr) 1))
          have HT := Lib.hid (HT.out.later (below_drewN (Below.refl _ wr) 1))
          refine wp_region_held_drew (S := (fun w' => w'.cell? ⟨w.heap.size, 0, none⟩ = some (.int .i64 (k : Int)) ∧ w'.cell? ⟨w.heap.size, 1, none⟩ = some (.slice a M.length cap))) (by kernel_rfl) ?_ (fun hHeld => ?_)
          · exact ⟨T.out.b0, T.out.b1⟩
          refine wpAnyH_take (i := 0) (v := ?_) rfl (by kernel_rfl) (by kernel_rfl) (by kernel_rfl) (fun _ _ _ h => h) (Or.inl ⟨by rfl, ?hy0⟩) (by assumption) ?_
          case hy0 => (intro w hSw; (try dsimp only at hSw); go_simp; try (with_reducible rfl))
          try simp only [Act.put, List.getElem_toArray, List.getElem_cons_zero, List.getElem_cons_succ, List.setIfInBounds_toArray, List.set_cons_zero, List.set_cons_succ]
          refine wpAnyH_take (i := 1) (v := ?_) rfl (by kernel_rfl) (by kernel_rfl) (by kernel_rfl) (fun _ _ _ h => h) (Or.inl ⟨by rfl, ?hy1⟩) (by assumption) ?_
          case hy1 => (intro w hSw; (try dsimp only at hSw); go_simp; try (with_reducible rfl))
          try simp only [Act.put, List.getElem_toArray, List.getElem_cons_zero, List.getElem_cons_succ, List.setIfInBounds_toArray, List.set_cons_zero, List.set_cons_succ]
          refine wpAnyH_ready (rs := [2]) (by kernel_rfl) (by simp) ?_
          refine AllReadyH.cons rfl (fun K hK => ?_) AllReadyH.nil
          go_simp
          refine (tright_at k _ M (tabN M bs k k) _ true _ HT.out T.out.l HW.out hn6 (tabN_small M bs h6) ⟨fun _ => tabN_ok bs HG.out, fun _ => rfl⟩).mono ?_
          rintro e wn ⟨rfl, hbn⟩
          have T := Lib.hid (T.out.below hbn)
          have HT := Lib.hid (HT.out.later hbn)
          clear hbn
          go_wp2_with fail
          refine hK.out _ _ ?_ (fun hHeld => ?_)
          · exact ⟨T.out.b0, T.out.b1⟩
          clear hK K
          try simp only [Act.put, List.getElem_toArray, List.getElem_cons_zero, List.getElem_cons_succ, List.setIfInBounds_toArray, List.set_cons_zero, List.set_cons_succ]
          refine wpAnyH_take (i := 3) (v := ?_) rfl (by kernel_rfl) (by kernel_rfl) (by kernel_rfl) (fun _ _ _ h => h) (Or.inl ⟨by rfl, ?hy3⟩) (by assumption) ?_
          case hy3 => (intro w hSw; (try dsimp only at hSw); go_simp; try (with_reducible rfl))
          try simp only [Act.put, List.getElem_toArray, List.getElem_cons_zero, List.getElem_cons_succ, List.setIfInBounds_toArray, List.set_cons_zero, List.set_cons_succ]
          refine wpAnyH_take (i := 4) (v := ?_) rfl (by kernel_rfl) (by kernel_rfl) (by kernel_rfl) (fun _ _ _ h => h) (Or.inl ⟨by rfl, ?hy4⟩) (by assumption) ?_
          case hy4 => (intro w hSw; (try dsimp only at hSw); go_simp; try (with_reducible rfl))
          try simp only [Act.put, List.getElem_toArray, List.getElem_cons_zero, List.getElem_cons_succ, List.setIfInBounds_toArray, List.set_cons_zero, List.set_cons_succ]
          refine wpAnyH_take (i := 5) (v := ?_) rfl (by kernel_rfl) (by kernel_rfl) (by kernel_rfl) (fun _ _ _ h => h) (Or.inl ⟨by rfl, ?hy5⟩) (by assumption) ?_
          case hy5 => (intro w hSw; (try dsimp only at hSw); go_simp; try (with_reducible rfl))
          try simp only [Act.put, List.getElem_toArray, List.getElem_cons_zero, List.getElem_cons_succ, List.setIfInBounds_toArray, List.set_cons_zero, List.set_cons_succ]
          refine wpAnyH_take (i := 6) (v := ?_) rfl (by kernel_rfl) (by kernel_rfl) (by kernel_rfl) (fun _ _ _ h => h) (Or.inl ⟨by rfl, ?hy6⟩) (by assumption) ?_
          case hy6 => (intro w hSw; (try dsimp only at hSw); go_simp; try (with_reducible rfl))
          try simp only [Act.put, List.getElem_toArray, List.getElem_cons_zero, List.getElem_cons_succ, List.setIfInBounds_toArray, List.set_cons_zero, List.set_cons_succ]
          refine wpAnyH_ready (rs := [7]) (by kernel_rfl) (by simp) ?_
          refine AllReadyH.cons rfl (fun K hK => ?_) AllReadyH.nil
          go_simp
          refine (tright_graph k _ M _ _ _ _ T.out.l HW.out (.inr ⟨HG.out, by omega⟩)).mono ?_
          rintro e wn ⟨rfl, hbn⟩
          have T := Lib.hid (T.out.below hbn)
          have HT := Lib.hid (HT.out.later hbn)
          clear hbn
          go_wp2_with fail
          refine hK.out _ _ ?_ (fun hHeld => ?_)
          · exact ⟨T.out.b0, T.out.b1⟩
          clear hK K
          try simp only [Act.put, List.getElem_toArray, List.getElem_cons_zero, List.getElem_cons_succ, List.setIfInBounds_toArray, List.set_cons_zero, List.set_cons_succ]
          refine wpAnyH_take (i := 8) (v := ?_) rfl (by kernel_rfl) (by kernel_rfl) (by kernel_rfl) (fun _ _ _ h => h) (Or.inl ⟨by rfl, ?hy8⟩) (by assumption) ?_
          case hy8 => (intro w hSw; (try dsimp only at hSw); go_simp; try (with_reducible rfl))
          try simp only [Act.put, List.getElem_toArray, List.getElem_cons_zero, List.getElem_cons_succ, List.setIfInBounds_toArray, List.set_cons_zero, List.set_cons_succ]
          refine wpAnyH_take (i := 9) (v := ?_) rfl (by kernel_rfl) (by kernel_rfl) (by kernel_rfl) (fun _ _ _ h => h) (Or.inl ⟨by rfl, ?hy9⟩) (by assumption) ?_
          case hy9 => (intro w hSw; (try dsimp only at hSw); go_simp; try (with_reducible rfl))
          try simp only [Act.put, List.getElem_toArray, List.getElem_cons_zero, List.getElem_cons_succ, List.setIfInBounds_toArray, List.set_cons_zero, List.set_cons_succ]
          refine wpAnyH_take (i := 10) (v := ?_) rfl (by kernel_rfl) (by kernel_rfl) (by kernel_rfl) (fun _ _ _ h => h) (Or.inl ⟨by rfl, ?hy10⟩) (by assumption) ?_
          case hy10 => (intro w hSw; (try dsimp only at hSw); go_simp; try (with_reducible rfl))
          try simp only [Act.put, List.getElem_toArray, List.getElem_cons_zero, List.getElem_cons_succ, List.setIfInBounds_toArray, List.set_cons_zero, List.set_cons_succ]
          refine wpAnyH_ready (rs := [11]) (by kernel_rfl) (by simp) ?_
          refine AllReadyH.cons rfl (fun K hK => ?_) AllReadyH.nil
          go_simp
          refine (fixed4_any _).mono ?_
          rintro e wn ⟨rfl, hbn⟩
          have T := Lib.hid (T.out.below hbn)
          have HT := Lib.hid (HT.out.later hbn)
          clear hbn
          go_wp2_with fail
          refine hK.out _ _ ?_ (fun hHeld => ?_)
          · exact ⟨T.out.b0, T.out.b1⟩
          clear hK K
          try simp only [Act.put, List.getElem_toArray, List.getElem_cons_zero, List.getElem_cons_succ, List.setIfInBounds_toArray, List.set_cons_zero, List.set_cons_succ]
          refine wpAnyH_take (i := 12) (v := ?_) rfl (by kernel_rfl) (by kernel_rfl) (by kernel_rfl) (fun _ _ _ h => h) (Or.inl ⟨by rfl, ?hy12⟩) (by assumption) ?_
          case hy12 => (intro w hSw; (try dsimp only at hSw); go_simp; try (with_reducible rfl))
          try simp only [Act.put, List.getElem_toArray, List.getElem_cons_zero, List.getElem_cons_succ, List.setIfInBounds_toArray, List.set_cons_zero, List.set_cons_succ]
          refine wpAnyH_take (i := 13) (v := ?_) rfl (by kernel_rfl) (by kernel_rfl) (by kernel_rfl) (fun _ _ _ h => h) (Or.inl ⟨by rfl, ?hy13⟩) (by assumption) ?_
          case hy13 => (intro w hSw; (try dsimp only at hSw); go_simp; try (with_reducible rfl))
          try simp only [Act.put, List.getElem_toArray, List.getElem_cons_zero, List.getElem_cons_succ, List.setIfInBounds_toArray, List.set_cons_zero, List.set_cons_succ]
          refine wpAnyH_done (by kernel_rfl) ?_ _
          go_wp2_with fail
          go_ret
          exact ⟨rfl, T.out.bel⟩
        · go_wp2_with fail
          have T := Lib.hid (TT.out.below (below_drewN (Below.refl _ wr) 1))
          have HT := Lib.hid (HT.out.later (below_drewN (Below.refl _ wr) 1))
          refine wp_region_held_drew (S := (fun w' => w'.cell? ⟨w.heap.size, 0, none⟩ = some (.int .i64 (k : Int)) ∧ w'.cell? ⟨w.heap.size, 1, none⟩ = some (.slice a M.length cap))) (by kernel_rfl) ?_ (fun hHeld => ?_)
          · exact ⟨T.out.b0, T.out.b1⟩
          refine wpAnyH_take (i := 0) (v := ?_) rfl (by kernel_rfl) (by kernel_rfl) (by kernel_rfl) (fun _ _ _ h => h) (Or.inl ⟨by rfl, ?hy0⟩) (by assumption) ?_
          case hy0 => (intro w hSw; (try dsimp only at hSw); go_simp; try (with_reducible rfl))
          try simp only [Act.put, List.getElem_toArray, List.getElem_cons_zero, List.getElem_cons_succ, List.setIfInBounds_toArray, List.set_cons_zero, List.set_cons_succ]
          refine wpAnyH_take (i := 1) (v := ?_) rfl (by kernel_rfl) (by kernel_rfl) (by kernel_rfl) (fun _ _ _ h => h) (Or.inl ⟨by rfl, ?hy1⟩) (by assumption) ?_
          case hy1 => (intro w hSw; (try dsimp only at hSw); go_simp; try (with_reducible rfl))
          try simp only [Act.put, List.getElem_toArray, List.getElem_cons_zero, List.getElem_cons_succ, List.setIfInBounds_toArray, List.set_cons_zero, List.set_cons_succ]
          refine wpAnyH_ready (rs := [2]) (by kernel_rfl) (by simp) ?_
          refine AllReadyH.cons rfl (fun K hK => ?_) AllReadyH.nil
          go_simp
          refine (tright_at k _ M (tabN M bs k k) _ true _ HT.out T.out.l HW.out hn6 (tabN_small M bs h6) ⟨fun _ => tabN_ok bs HG.out, fun _ => rfl⟩).mono ?_
          rintro e wn ⟨rfl, hbn⟩
          have T := Lib.hid (T.out.below hbn)
          have HT := Lib.hid (HT.out.later hbn)
          clear hbn
          go_wp2_with fail
          refine hK.out _ _ ?_ (fun hHeld => ?_)
          · exact ⟨T.out.b0, T.out.b1⟩
          clear hK K
          try simp only [Act.put, List.getElem_toArray, List.getElem_cons_zero, List.getElem_cons_succ, List.setIfInBounds_toArray, List.set_cons_zero, List.set_cons_succ]
          refine wpAnyH_take (i := 3) (v := ?_) rfl (by kernel_rfl) (by kernel_rfl) (by kernel_rfl) (fun _ _ _ h => h) (Or.inl ⟨by rfl, ?hy3⟩) (by assumption) ?_
          case hy3 => (intro w hSw; (try dsimp only at hSw); go_simp; try (with_reducible rfl))
          try simp only [Act.put, List.getElem_toArray, List.getElem_cons_zero, List.getElem_cons_succ, List.setIfInBounds_toArray, List.set_cons_zero, List.set_cons_succ]
          refine wpAnyH_take (i := 4) (v := ?_) rfl (by kernel_rfl) (by kernel_rfl) (by kernel_rfl) (fun _ _ _ h => h) (Or.inl ⟨by rfl, ?hy4⟩) (by assumption) ?_
          case hy4 => (intro w hSw; (try dsimp only at hSw); go_simp; try (with_reducible rfl))
          try simp only [Act.put, List.getElem_toArray, List.getElem_cons_zero, List.getElem_cons_succ, List.setIfInBounds_toArray, List.set_cons_zero, List.set_cons_succ]
          refine wpAnyH_take (i := 5) (v := ?_) rfl (by kernel_rfl) (by kernel_rfl) (by kernel_rfl) (fun _ _ _ h => h) (Or.inl ⟨by rfl, ?hy5⟩) (by assumption) ?_
          case hy5 => (intro w hSw; (try dsimp only at hSw); go_simp; try (with_reducible rfl))
          try simp only [Act.put, List.getElem_toArray, List.getElem_cons_zero, List.getElem_cons_succ, List.setIfInBounds_toArray, List.set_cons_zero, List.set_cons_succ]
          refine wpAnyH_take (i := 6) (v := ?_) rfl (by kernel_rfl) (by kernel_rfl) (by kernel_rfl) (fun _ _ _ h => h) (Or.inl ⟨by rfl, ?hy6⟩) (by assumption) ?_
          case hy6 => (intro w hSw; (try dsimp only at hSw); go_simp; try (with_reducible rfl))
          try simp only [Act.put, List.getElem_toArray, List.getElem_cons_zero, List.getElem_cons_succ, List.setIfInBounds_toArray, List.set_cons_zero, List.set_cons_succ]
          refine wpAnyH_ready (rs := [7]) (by kernel_rfl) (by simp) ?_
          refine AllReadyH.cons rfl (fun K hK => ?_) AllReadyH.nil
          go_simp
          refine (tright_graph k _ M _ _ _ _ T.out.l HW.out (.inr ⟨HG.out, by omega⟩)).mono ?_
          rintro e wn ⟨rfl, hbn⟩
          have T := Lib.hid (T.out.below hbn)
          have HT := Lib.hid (HT.out.later hbn)
          clear hbn
          go_wp2_with fail
          refine hK.out _ _ ?_ (fun hHeld => ?_)
          · exact ⟨T.out.b0, T.out.b1⟩
          clear hK K
          try simp only [Act.put, List.getElem_toArray, List.getElem_cons_zero, List.getElem_cons_succ, List.setIfInBounds_toArray, List.set_cons_zero, List.set_cons_succ]
          refine wpAnyH_take (i := 8) (v := ?_) rfl (by kernel_rfl) (by kernel_rfl) (by kernel_rfl) (fun _ _ _ h => h) (Or.inl ⟨by rfl, ?hy8⟩) (by assumption) ?_
          case hy8 => (intro w hSw; (try dsimp only at hSw); go_simp; try (with_reducible rfl))
          try simp only [Act.put, List.getElem_toArray, List.getElem_cons_zero, List.getElem_cons_succ, List.setIfInBounds_toArray, List.set_cons_zero, List.set_cons_succ]
          refine wpAnyH_take (i := 9) (v := ?_) rfl (by kernel_rfl) (by kernel_rfl) (by kernel_rfl) (fun _ _ _ h => h) (Or.inl ⟨by rfl, ?hy9⟩) (by assumption) ?_
          case hy9 => (intro w hSw; (try dsimp only at hSw); go_simp; try (with_reducible rfl))
          try simp only [Act.put, List.getElem_toArray, List.getElem_cons_zero, List.getElem_cons_succ, List.setIfInBounds_toArray, List.set_cons_zero, List.set_cons_succ]
          refine wpAnyH_take (i := 10) (v := ?_) rfl (by kernel_rfl) (by kernel_rfl) (by kernel_rfl) (fun _ _ _ h => h) (Or.inl ⟨by rfl, ?hy10⟩) (by assumption) ?_
          case hy10 => (intro w hSw; (try dsimp only at hSw); go_simp; try (with_reducible rfl))
          try simp only [Act.put, List.getElem_toArray, List.getElem_cons_zero, List.getElem_cons_succ, List.setIfInBounds_toArray, List.set_cons_zero, List.set_cons_succ]
          refine wpAnyH_ready (rs := [11]) (by kernel_rfl) (by simp) ?_
          refine AllReadyH.cons rfl (fun K hK => ?_) AllReadyH.nil
          go_simp
          refine (fixed4_any _).mono ?_
          rintro e wn ⟨rfl, hbn⟩
          have T := Lib.hid (T.out.below hbn)
          have HT := Lib.hid (HT.out.later hbn)
          clear hbn
          go_wp2_with fail
          refine hK.out _ _ ?_ (fun hHeld => ?_)
          · exact ⟨T.out.b0, T.out.b1⟩
          clear hK K
          try simp only [Act.put, List.getElem_toArray, List.getElem_cons_zero, List.getElem_cons_succ, List.setIfInBounds_toArray, List.set_cons_zero, List.set_cons_succ]
          refine wpAnyH_take (i := 12) (v := ?_) rfl (by kernel_rfl) (by kernel_rfl) (by kernel_rfl) (fun _ _ _ h => h) (Or.inl ⟨by rfl, ?hy12⟩) (by assumption) ?_
          case hy12 => (intro w hSw; (try dsimp only at hSw); go_simp; try (with_reducible rfl))
          try simp only [Act.put, List.getElem_toArray, List.getElem_cons_zero, List.getElem_cons_succ, List.setIfInBounds_toArray, List.set_cons_zero, List.set_cons_succ]
          refine wpAnyH_take (i := 13) (v := ?_) rfl (by kernel_rfl) (by kernel_rfl) (by kernel_rfl) (fun _ _ _ h => h) (Or.inl ⟨by rfl, ?hy13⟩) (by assumption) ?_
          case hy13 => (intro w hSw; (try dsimp only at hSw); go_simp; try (with_reducible rfl))
          try simp only [Act.put, List.getElem_toArray, List.getElem_cons_zero, List.getElem_cons_succ, List.setIfInBounds_toArray, List.set_cons_zero, List.set_cons_succ]
          refine wpAnyH_done (by kernel_rfl) ?_ _
          go_wp2_with fail
          go_ret
          exact ⟨rfl, T.out.bel⟩
  · have hrf : r = false := by
      cases r with
      | false => rfl
      | true => exact absurd (HR.out.1 rfl) hG
    subst hrf
    have HG := Lib.hid hG
    have y0 := fun o o' => cell_more (cell_more z0 o) o'
    have y1 := fun o o' => cell_more (cell_more z1 o) o'
    clear hG z0 z1
    go_wp2_with fail
    refine (tright_graph N0 _ M _ 1 1 _ (T.out.l.below (by go_grown)) HW.out (.inl HG.out)).mono ?_
    rintro e x5 ⟨rfl, hb⟩
    have B5 := Lib.hid (below_step T.out.bel.size T.out.bel (below_step (by go_grown) (show Below x4.heap.size x4 _ by go_grown) hb))
    clear hb y0 y1
    go_wp2_with fail
    refine (fixed4_any _).mono ?_
    rintro e x6 ⟨rfl, hb⟩
    have B6 := Lib.hid (below_step B5.out.size B5.out hb)
    clear hb
    go_wp2_with fail
    go_ret
    exact ⟨rfl, B6.out⟩
end Go.Proofs.Ytegpdfocfohkcaa
