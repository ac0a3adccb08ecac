/- Marks: the links that are left (MarkOrder); bytes as they come in. -/
import Derived.Test.YtlhclnhdcenkhaaMkL
set_option linter.unusedSimpArgs false
set_option linter.unusedVariables false
set_option maxRecDepth 100000
namespace Go.Proofs.Ytlhclnhdcenkhaa
open Go.RowKit Go.PlainAid

def dU8 (xs : List (Fin 256)) : D := .row 1 (xs.map fun a => [.atom (.int .u8 (a.val : Int))])
theorem u8_at {w : World} {a : Option Addr} {k cap i : Nat} {xs : List (Fin 256)} {x : Fin 256} (h : Has w (.slice a k cap) (dU8 xs)) (hx : xs[i]? = some x) : ∃ b o, a = some ⟨b, o, none⟩ ∧ w.cell? ⟨b, o + i, none⟩ = some (.int .u8 (x.val : Int)) := by
  obtain ⟨b, o, c, e, h1, h2, cs, hcs, hc⟩ := cells_of (f := fun a : Fin 256 => [.atom (.int .u8 (a.val : Int))]) h hx
  obtain ⟨v, r, rfl, hv, hr⟩ := hcs.cons
  obtain rfl := Holds.val hv
  simp only [Value.slice.injEq] at e
  have := hc 0 _ rfl
  rw [Nat.mul_one, Nat.add_zero] at this
  exact ⟨b, o, e.1, this⟩
section
open Go.ChangeShapes Go.WideShapes Go.Lib Go.Deep
variable {H : Type} {enc : TypeId × Value → H} {W : World} {n : Nat} {y : DataW H × List MemPlace}
theorem open_bytes {b0 : Nat} {v : Value} {d : DataW H} {ps : List MemPlace} (hval : Value.okWide Try.prog W .any b0 60 v) (hd : DataW.Trod enc Try.prog W 0 (fun _ => true) true 60 v d ps) : ∃ xs : List (Fin 256), Has W v (dU8 xs) := by
  obtain ⟨a, len, cap, rfl⟩ := okWide_slice Try.underlying60 hval
  obtain ⟨m, hm⟩ := hd
  exact row_of_trod Try.underlying60 (by kernel_rfl) (by omega) (fun m cs y h => by
    obtain ⟨a, rfl, -, hw⟩ := DataW.trod_int Try.underlying5 h
    have hb : 0 ≤ a ∧ a < 256 := by simp [Lit.wf, IntKind.min, IntKind.max, IntKind.signed, IntKind.bits] at hw; omega
    refine ⟨⟨a.toNat, by omega⟩, ?_, rfl⟩
    have e : ((a.toNat : Nat) : Int) = a := by omega
    show HasL W [.int .u8 a] [.atom (.int .u8 ((a.toNat : Nat) : Int))]
    rw [e]
    exact .mk (.atom _ _ _ rfl) (hasL_nil _ _ _)) (by simpa [Value.cells] using hm)
end
def dNats (l : List Nat) : D := dInts (l.map fun x : Nat => (x : Int))
def mO (n : Nat) (left : List Nat) : Mk := ⟨9, (List.range n).map (fun i => decide (i ∈ left)), tellP (endsH n 3)⟩
theorem mO_len (n : Nat) (l : List Nat) : (mO n l).op.length = n := by unfold mO; simp
theorem mO_small {n : Nat} {l : List Nat} (hn : n ≤ 6) : SmallMk (mO n l) := ⟨by rw [mO_len]; omega, (begin_small (e := 1) (ends_small n 3 hn).1).p⟩
theorem mO_begin (n : Nat) : beginM (endsH n 3) 9 = mO n (List.range n) := by
  unfold beginM mO
  simp only [Mk.mk.injEq, true_and, and_true]
  apply List.ext_getElem?
  intro i
  have : (endsH n 3).inn.length = n := by unfold endsH; simp
  rw [this, List.getElem?_replicate, List.getElem?_map]
  by_cases hi : i < n
  · rw [if_pos hi, List.getElem?_range hi]; simp [hi]
  · rw [if_neg hi, List.getElem?_eq_none (by simp; omega)]; rfl
theorem mO_get {n : Nat} {l : List Nat} {i : Nat} (hi : i < n) : (mO n l).op[i]? = some (decide (i ∈ l)) := by
  unfold mO
  rw [List.getElem?_map, List.getElem?_range hi]; rfl
theorem mO_full {n : Nat} {l : List Nat} {x : Nat} (hx : x ∈ l) (hn : x < n) : doneM (mO n l) 9 = false := by
  have : hasT (mO n l).op = true := by
    unfold hasT
    rw [List.contains_iff_mem]
    exact List.mem_of_getElem? (i := x) (by rw [mO_get hn]; simp [hx])
  unfold doneM; rw [this]; simp
theorem mO_empty (n : Nat) : doneM (mO n []) 9 = true := by
  have : hasT (mO n []).op = false := by
    unfold hasT mO
    simp [List.contains_eq_mem]
  unfold doneM; rw [this]; rfl
theorem mO_eight (n : Nat) (l : List Nat) : doneM (mO n l) 8 = false := by
  unfold doneM
  have : ¬ (mO n l).ep = 8 := by show ¬ (9 : Int) = 8; decide
  simp [this]
theorem mO_next {n : Nat} {l : List Nat} {k x : Nat} (hn : l.Nodup) (hk : l[k]? = some x) (hx : x < n) (s : Nat) : markM (mO n l) (endsH n s) 9 (x : Int) = (mO n (l.eraseIdx k), false) := by
  unfold markM
  have e : (mO n l).ep = 9 := rfl
  simp only [e, if_true]
  rw [mO_len, if_pos (by simp [inB]; omega)]
  have : closeM (mO n l) (x : Int) = mO n (l.eraseIdx k) := by
    unfold closeM
    have e2 : (mO n l).op.set ((x : Nat) : Int).toNat false = (mO n (l.eraseIdx k)).op := by
      apply List.ext_getElem?
      intro i
      rw [List.getElem?_set, mO_len]
      have hkl := lt_of_some hk
      have hxk : l[k] = x := by rw [List.getElem?_eq_getElem hkl] at hk; exact Option.some.inj hk
      have hm : ∀ a, a ∈ l.eraseIdx k ↔ a ≠ x ∧ a ∈ l := fun a => by
        rw [List.mem_eraseIdx_iff_getElem?]
        constructor
        · rintro ⟨q, hq, ha⟩
          refine ⟨fun e => hq ?_, List.mem_of_getElem? ha⟩
          subst e
          exact (List.getElem?_inj (lt_of_some ha) hn).1 (ha.trans hk.symm)
        · rintro ⟨ha, hm⟩
          obtain ⟨q, hq, e⟩ := List.mem_iff_getElem.1 hm
          refine ⟨q, fun e' => ha ?_, by rw [List.getElem?_eq_getElem hq, e]⟩
          subst e'
          exact e.symm.trans hxk
      by_cases hi : i < n
      · rw [mO_get hi, mO_get hi]
        by_cases e3 : x = i
        · subst e3
          have : ¬ x ∈ l.eraseIdx k := fun h => ((hm x).1 h).1 rfl
          simp [hi, this]
        · have : (i ∈ l.eraseIdx k) ↔ i ∈ l := ⟨fun h => ((hm i).1 h).2, fun h => (hm i).2 ⟨fun e => e3 e.symm, h⟩⟩
          simp [e3, this]
      · rw [List.getElem?_eq_none (by rw [mO_len]; omega), List.getElem?_eq_none (by rw [mO_len]; omega)]
        split
        · rw [if_neg (by omega)]
        · rfl
    show (⟨_, _, _⟩ : Mk) = _
    rw [e2]; rfl
  rw [this]; rfl
/-- The links that are left: each once. -/
structure LeftOK (n j : Nat) (l : List Nat) : Prop where
  nodup : l.Nodup
  lt : ∀ x ∈ l, x < n
  len : l.length + j = n
theorem LeftOK.start (n : Nat) : LeftOK n 0 (List.range n) := ⟨List.nodup_range, fun x h => by simpa using h, by simp⟩
theorem LeftOK.next {n j k : Nat} {l : List Nat} (h : LeftOK n j l) (hk : k < l.length) : LeftOK n (j + 1) (l.eraseIdx k) :=
  ⟨h.nodup.sublist (List.eraseIdx_sublist l k), fun x hx => h.lt x ((List.eraseIdx_sublist l k).subset hx), by rw [List.length_eraseIdx]; have := h.len; simp [hk]; omega⟩
theorem erase_rows {l : List Nat} {k : Nat} : (l.take k).map (fun x : Nat => [dI (x : Int)]) ++ (l.drop (k + 1)).map (fun x : Nat => [dI (x : Int)]) = (l.eraseIdx k).map (fun x : Nat => [dI (x : Int)]) := by rw [← List.map_append, List.eraseIdx_eq_take_drop_succ]
theorem dNats_eq (l : List Nat) : dNats l = .row 1 (l.map fun x : Nat => [dI (x : Int)]) := by unfold dNats dInts; rw [List.map_map]; rfl
theorem hold_one (j : Int) (w : World) : HoldsL True (fun _ => False) w [.int .i64 j] ([[dI j]] : List (List D)).flatten :=
  ⟨rfl, fun _ _ => False, fun _ _ h => h, fun _ _ _ _ h => h.elim, fun i c d hc hd => by
    match i, hc, hd with
    | 0, hc, hd => simp at hc hd; subst hc hd; exact has_int _ _ _ _
    | i + 1, hc, hd => simp at hc⟩
theorem flat_nats (l : List Nat) : Flat (l.map fun x : Nat => [dI (x : Int)]).flatten := by
  intro d hd
  rw [List.mem_flatten] at hd
  obtain ⟨l, hl, hd⟩ := hd
  obtain ⟨p, _, rfl⟩ := List.mem_map.1 hl
  simp at hd
  exact ⟨_, hd⟩
end Go.Proofs.Ytlhclnhdcenkhaa
