/- Plain facts, more: many numbers; texts; places moved. -/
import Derived.Test.YtefgedabakecnaaW
namespace Go.Proofs.Ytefgedabakecnaa
open Go.RowKit Go.PlainAid

/-! Many numbers. -/
theorem num_strB {l : List UInt8} {p : Nat} (h : (num (strB l) p).1 = 0) : ∃ r, l.drop p = putB (num (strB l) p).2.1 ++ r ∧ r = l.drop (p + (num (strB l) p).2.2) := by
  obtain ⟨h1, h2⟩ := num_has h
  have h3 := has_extract h1
  obtain ⟨g1, g2, g3, g4, g5⟩ := num_in _ _ h
  rw [strB_size] at g2
  have h4 : (l.drop p).take (putB (num (strB l) p).2.1).length = putB (num (strB l) p).2.1 := by
    have := congrArg (fun b : ByteArray => b.data.toList) h3
    simpa [strB] using this
  refine ⟨_, ?_, rfl⟩
  rw [h2]
  conv => lhs; rw [← List.take_append_drop (putB (num (strB l) p).2.1).length (l.drop p), h4, List.drop_drop]

theorem allGo_has (l : List UInt8) : ∀ (f p : Nat) (acc out : List Int), l.length < p + f → p ≤ l.length → l.take p = putsB acc → allGo (strB l) f p acc = (0, out) → putsB out = l := by
  intro f
  induction f with
  | zero => intro p acc out h hp; omega
  | succ f ih =>
    intro p acc out h hp ht ha
    rw [allGo] at ha
    split at ha
    · rename_i h1
      rw [strB_size] at h1
      simp at ha
      rw [← ha, ← ht, List.take_of_length_le (by omega)]
    · rename_i h1
      rw [strB_size] at h1
      split at ha
      · rename_i h2
        obtain ⟨r, h3, h4⟩ := num_strB h2
        obtain ⟨h5, h6⟩ := num_has h2
        obtain ⟨g1, g2, g3, g4, g5⟩ := num_in _ _ h2
        rw [strB_size] at g2
        refine ih _ _ _ (by omega) g2 ?_ ha
        clear h4 h5 ih ha
        generalize num (strB l) p = nm at *
        rw [putsB_snoc, ← ht]
        have e1 : l = l.take p ++ (putB nm.2.1 ++ r) := by rw [← h3, List.take_append_drop]
        conv => lhs; rw [e1]
        rw [← List.append_assoc, List.take_left' (by rw [List.length_append, List.length_take, Nat.min_eq_left hp, ← h6])]
      · simp at ha; omega
theorem allR_has {s : ByteArray} (h : (allR s).1 = 0) : strB (putsB (allR s).2) = s := by
  obtain ⟨l, rfl⟩ := exists_strB s
  rw [allGo_has l (strB l).size.succ 0 [] (allR (strB l)).2 (by rw [strB_size]; omega) (by omega) rfl (by
    have : allR (strB l) = ((allR (strB l)).1, (allR (strB l)).2) := rfl
    rw [h] at this; exact this)]

theorem allGo_puts (l : List UInt8) : ∀ (rest : List Int) (f p : Nat) (acc : List Int), l.length < p + f → p ≤ l.length → l.drop p = putsB rest → allGo (strB l) f p acc = (0, acc ++ rest.map fun n => (cutN n : Int)) := by
  intro rest
  induction rest with
  | nil =>
    intro f p acc h hp hd
    have hl : l.length ≤ p := by
      have := congrArg List.length hd
      simp [putsB] at this; omega
    cases f with
    | zero => omega
    | succ f => rw [allGo, if_pos (by rw [strB_size]; omega)]; simp
  | cons n rest ih =>
    intro f p acc h hp hd
    have hd' : l.drop p = putB n ++ putsB rest := by rw [hd]; simp [putsB]
    have hlen := congrArg List.length hd'
    rw [List.length_append, List.length_drop] at hlen
    have hpos : 1 ≤ (putB n).length := by have := (putB_pos n).1; rwa [strB_size] at this
    have hl : l = l.take p ++ putB n ++ putsB rest := by rw [List.append_assoc, ← hd', List.take_append_drop]
    have hh : Has (strB l) p (putB n) := by
      have := has_strB (l.take p) (putB n) (putsB rest)
      rw [← hl, List.length_take, Nat.min_eq_left hp] at this
      exact this
    have hn := num_put hh
    cases f with
    | zero => omega
    | succ f =>
      rw [allGo, if_neg (by rw [strB_size]; omega), hn, if_pos rfl]
      dsimp only
      rw [ih f (p + (putB n).length) (acc ++ [(cutN n : Int)]) (by omega) (by omega) ?_]
      · simp
      · rw [← List.drop_drop, hd', List.drop_left]
theorem allR_puts (l : List Int) : allR (strB (putsB l)) = (0, l.map fun n => max 0 (min n 2147483647)) := by
  unfold allR
  rw [allGo_puts (putsB l) l _ 0 [] (by rw [strB_size]; omega) (by omega) rfl]
  simp only [List.nil_append]
  congr 1
  exact List.map_congr_left fun n _ => cutN_int n
theorem putsB_append (l k : List Int) : putsB (l ++ k) = putsB l ++ putsB k := by simp [putsB]

/-! Places moved. -/
theorem bt_drop (s : ByteArray) (k p : Nat) (hk : k ≤ s.size) : bt (s.extract k s.size) p = bt s (k + p) := by
  unfold bt
  have hs : (s.extract k s.size).size = s.size - k := by rw [ByteArray.size_extract]; omega
  by_cases h : k + p < s.size
  · rw [dif_pos (by rw [hs]; omega), dif_pos h]
    rw [ByteArray.getElem_extract]
  · rw [dif_neg (by rw [hs]; omega), dif_neg h]
theorem numGo_shift (s : ByteArray) (j : Nat) (hj : j ≤ s.size) : ∀ (f p k : Nat) (m : Int), numGo (s.extract j s.size) f p k m = numGo s f (j + p) k m := by
  have hs : (s.extract j s.size).size = s.size - j := by rw [ByteArray.size_extract]; omega
  intro f
  induction f with
  | zero => intro p k m; rfl
  | succ f ih =>
    intro p k m
    simp only [numGo, bt_drop s j p hj]
    have e : ((s.extract j s.size).size ≤ p) = (s.size ≤ j + p) := by rw [hs]; simp; omega
    simp only [e]
    rw [ih (p + 1), show j + (p + 1) = j + p + 1 by omega]
theorem num_shift (s : ByteArray) (j : Nat) (hj : j ≤ s.size) : num (s.extract j s.size) 0 = num s j := by
  unfold num; rw [numGo_shift s j hj]; rfl
theorem getR_shift (s : ByteArray) (j : Nat) (hj : j ≤ s.size) : (getR (s.extract j s.size) 0).1 = (getR s j).1 ∧ (getR (s.extract j s.size) 0).2.1 = (getR s j).2.1 ∧
    ((getR s j).1 ≠ 0 → (getR s j).2.2 = 0 ∧ (getR (s.extract j s.size) 0).2.2 = 0) ∧ ((getR s j).1 = 0 → (getR s j).2.2 = (getR (s.extract j s.size) 0).2.2 + j) := by
  have h := num_shift s j hj
  by_cases e : (num s j).1 = 0
  · have a := getR_ok hj e
    have b := getR_ok (s := s.extract j s.size) (a := 0) (by omega) (by rw [h]; exact e)
    rw [h] at b
    have b' : getR (s.extract j s.size) 0 = _ := b
    rw [a, b']
    refine ⟨rfl, rfl, fun h => absurd rfl h, fun _ => ?_⟩
    dsimp only; omega
  · have a := getR_err hj e
    have b := getR_err (s := s.extract j s.size) (a := 0) (by omega) (by rw [h]; exact e)
    rw [h] at b
    have b' : getR (s.extract j s.size) 0 = _ := b
    rw [a, b']
    exact ⟨rfl, rfl, fun _ => ⟨rfl, rfl⟩, fun h => absurd h e⟩
theorem takeR_ok {s : ByteArray} {a m : Int} (e : (getR s a).1 = 0) : takeR s a m = if max m 0 < (getR s a).2.1 then (2, ⟨#[]⟩, 0)
    else if (s.size : Int) - (getR s a).2.2 < (getR s a).2.1 then (5, ⟨#[]⟩, 0)
    else (0, s.extract (getR s a).2.2.toNat ((getR s a).2.2 + (getR s a).2.1).toNat, (getR s a).2.2 + (getR s a).2.1) := by
  unfold takeR; rw [if_neg (by simp [e])]
theorem takeR_shift (s : ByteArray) (j : Nat) (most : Int) (hj : j ≤ s.size) : (takeR (s.extract j s.size) 0 most).1 = (takeR s j most).1 ∧ (takeR (s.extract j s.size) 0 most).2.1 = (takeR s j most).2.1 ∧
    ((takeR s j most).1 ≠ 0 → (takeR s j most).2.2 = 0 ∧ (takeR (s.extract j s.size) 0 most).2.2 = 0) ∧ ((takeR s j most).1 = 0 → (takeR s j most).2.2 = (takeR (s.extract j s.size) 0 most).2.2 + j) := by
  obtain ⟨h1, h2, h3, h4⟩ := getR_shift s j hj
  have hs : (s.extract j s.size).size = s.size - j := by rw [ByteArray.size_extract]; omega
  by_cases e : (getR s j).1 = 0
  · have h5 := h4 e
    obtain ⟨g0, g1, g2, g3, g4, g5⟩ := getR_in e
    obtain ⟨k0, k1, k2, k3, k4, k5⟩ := getR_in (h1.trans e)
    rw [takeR_ok e, takeR_ok (h1.trans e), h2, h5, hs]
    generalize (getR (s.extract j s.size) 0).2.2 = t at *
    generalize (getR s j).2.1 = n at *
    by_cases c1 : max most 0 < n
    · rw [if_pos c1, if_pos c1]; exact ⟨rfl, rfl, fun _ => ⟨rfl, rfl⟩, fun h => by simp at h⟩
    · rw [if_neg c1, if_neg c1]
      have ec : (((s.size - j : Nat) : Int) - t < n) = ((s.size : Int) - (t + j) < n) := by simp; omega
      simp only [ec]
      by_cases c2 : (s.size : Int) - (t + j) < n
      · rw [if_pos c2, if_pos c2]; exact ⟨rfl, rfl, fun _ => ⟨rfl, rfl⟩, fun h => by simp at h⟩
      · rw [if_neg c2, if_neg c2]
        refine ⟨rfl, ?_, fun h => absurd rfl h, fun _ => ?_⟩
        · dsimp only
          rw [ByteArray.extract_extract]
          congr 1 <;> omega
        · dsimp only; omega
  · have a : takeR s j most = ((getR s j).1, ⟨#[]⟩, 0) := by unfold takeR; rw [if_pos e]
    have b : takeR (s.extract j s.size) 0 most = ((getR s j).1, ⟨#[]⟩, 0) := by unfold takeR; rw [if_pos (by rw [h1]; exact e), h1]
    rw [a, b]
    exact ⟨rfl, rfl, fun _ => ⟨rfl, rfl⟩, fun h => absurd h e⟩

/-! A text as it was laid. -/
theorem takeR_text (s B : ByteArray) (most : Int) (hs : s.size ≤ 2147483647) : takeR (strB (putB s.size) ++ s ++ B) 0 most =
    if max most 0 < (s.size : Int) then (2, ⟨#[]⟩, 0) else (0, s, (((strB (putB s.size) ++ s).size : Nat) : Int)) := by
  have h := getR_put ⟨#[]⟩ (s ++ B) s.size
  have e0 : (⟨#[]⟩ : ByteArray) ++ strB (putB s.size) ++ (s ++ B) = strB (putB s.size) ++ s ++ B := by
    obtain ⟨l, rfl⟩ := exists_strB s
    obtain ⟨b, rfl⟩ := exists_strB B
    show strB [] ++ _ ++ _ = _
    simp only [strB_append]; simp
  rw [e0] at h
  have e1 : max (0 : Int) (min (s.size : Int) 2147483647) = s.size := by omega
  have e2 : ((ByteArray.size ⟨#[]⟩ : Nat) : Int) = 0 := rfl
  rw [e1, e2, Int.zero_add] at h
  unfold takeR
  rw [h]
  dsimp only
  rw [if_neg (by simp)]
  by_cases c : max most 0 < (s.size : Int)
  · rw [if_pos c, if_pos c]
  · rw [if_neg c, if_neg c, if_neg (by rw [ByteArray.size_append, ByteArray.size_append]; omega)]
    refine congrArg (Prod.mk 0) ?_
    refine Prod.ext ?_ ?_
    · dsimp only
      obtain ⟨l, rfl⟩ := exists_strB s
      obtain ⟨b, rfl⟩ := exists_strB B
      rw [strB_append, strB_append]
      rw [strB_size, strB_size]
      ext1
      simp [strB]
      rw [(show ∀ x : Nat, ((x : Int) + (l.length : Int)).toNat - x = l.length from fun x => by omega) _, List.take_left]
    · dsimp only; rw [ByteArray.size_append]; omega
end Go.Proofs.Ytefgedabakecnaa
