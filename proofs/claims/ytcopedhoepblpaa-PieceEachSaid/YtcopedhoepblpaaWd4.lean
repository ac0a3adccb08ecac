/- Numbers as bytes: texts put together. -/
import Derived.Test.YtcopedhoepblpaaCm02
import Derived.Test.YtcopedhoepblpaaWd3
set_option maxRecDepth 100000
namespace Go.Proofs.Ytcopedhoepblpaa
open Go.RowKit Go.PlainAid
/-- The bytes l stand in s from place p on. -/
def HasB (s : ByteArray) (p : Nat) (l : List UInt8) : Prop := p + l.length ≤ s.size ∧ ∀ i, (h : i < l.length) → bt s (p + i) = (l[i].toNat : Int)
theorem HasB.tail {s : ByteArray} {p : Nat} {b : UInt8} {l : List UInt8} (h : HasB s p (b :: l)) : HasB s (p + 1) l := by
  obtain ⟨h1, h2⟩ := h
  refine ⟨by simp at h1; omega, fun i hi => ?_⟩
  have := h2 (i + 1) (by simp; omega)
  simpa [Nat.add_assoc, Nat.add_comm 1 i] using this
theorem HasB.head {s : ByteArray} {p : Nat} {b : UInt8} {l : List UInt8} (h : HasB s p (b :: l)) : p < s.size ∧ bt s p = (b.toNat : Int) := by
  obtain ⟨h1, h2⟩ := h
  exact ⟨by simp at h1; omega, by have := h2 0 (by simp); simpa using this⟩
theorem HasB.cons {s : ByteArray} {p : Nat} {b : UInt8} {l : List UInt8} (_h : p < s.size) (hb : bt s p = (b.toNat : Int)) (ht : HasB s (p + 1) l) : HasB s p (b :: l) := by
  obtain ⟨h1, h2⟩ := ht
  refine ⟨by simp; omega, fun i hi => ?_⟩
  cases i with
  | zero => simpa using hb
  | succ i => have := h2 i (by simpa using hi); simpa [Nat.add_assoc, Nat.add_comm 1 i] using this
theorem nat8 {m : Nat} (h : m < 256) : (UInt8.ofNat m).toNat = m := by simp [Nat.mod_eq_of_lt h]
/-- A number's bytes are got as the number. -/
theorem numGo_put (s : ByteArray) : ∀ (f n p k : Nat) (m : Nat), k + f = 4 → n < 128 ^ (f + 1) → (0 < n ∨ k = 0) → m + n * 128 ^ k ≤ 2147483647 → HasB s p (putGo f n) →
    numGo s (f + 1) p k (m : Int) = (0, ((m + n * 128 ^ k : Nat) : Int), k + (putGo f n).length) := by
  intro f
  induction f with
  | zero =>
    intro n p k m hk hn hz hm hh
    obtain ⟨h1, h2⟩ := HasB.head (l := []) hh
    have hn' : n < 128 := by simpa using hn
    have hk4 : k = 4 := by omega
    rw [nat8 (by omega)] at h2
    have e : (m : Int) + (n : Int) % 128 * 128 ^ k = ((m + n * 128 ^ k : Nat) : Int) := by
      rw [Int.emod_eq_of_lt (by omega) (by omega)]; simp
    rw [numGo, if_neg (by omega), h2, e, if_neg (by omega), if_neg (by omega), if_pos (by omega)]
    rfl
  | succ f ih =>
    intro n p k m hk hn hz hm hh
    have hpk : (0 : Nat) < 128 ^ k := Nat.pow_pos (by omega)
    by_cases h127 : 127 < n
    · rw [putGo, if_pos h127] at hh ⊢
      obtain ⟨h1, h2⟩ := hh.head
      rw [nat8 (by omega)] at h2
      have e : (m : Int) + ((n % 128 + 128 : Nat) : Int) % 128 * 128 ^ k = ((m + n % 128 * 128 ^ k : Nat) : Int) := by
        have : ((n % 128 + 128 : Nat) : Int) % 128 = ((n % 128 : Nat) : Int) := by omega
        rw [this]; simp
      have e2 : m + n % 128 * 128 ^ k + n / 128 * 128 ^ (k + 1) = m + n * 128 ^ k := by
        have := Nat.div_add_mod n 128
        rw [Nat.pow_succ, show n / 128 * (128 ^ k * 128) = (128 * (n / 128)) * 128 ^ k by rw [Nat.mul_comm (128 ^ k) 128, ← Nat.mul_assoc, Nat.mul_comm 128 (n / 128)], Nat.add_assoc, ← Nat.add_mul, Nat.add_comm (n % 128), this]
      have e3 : m + n % 128 * 128 ^ k ≤ 2147483647 := by omega
      rw [numGo, if_neg (by omega), h2, e, if_neg (by omega), if_neg (by omega), if_neg (by omega)]
      rw [ih (n / 128) (p + 1) (k + 1) (m + n % 128 * 128 ^ k) (by omega) (by rw [Nat.pow_succ] at hn; exact Nat.div_lt_of_lt_mul (by omega)) (by omega) (by omega) hh.tail, e2]
      simp only [List.length_cons]
      rw [show k + 1 + (putGo f (n / 128)).length = k + ((putGo f (n / 128)).length + 1) by omega]
    · rw [putGo, if_neg h127] at hh ⊢
      obtain ⟨h1, h2⟩ := hh.head
      rw [nat8 (by omega)] at h2
      have e : (m : Int) + (n : Int) % 128 * 128 ^ k = ((m + n * 128 ^ k : Nat) : Int) := by
        rw [Int.emod_eq_of_lt (by omega) (by omega)]; simp
      rw [numGo, if_neg (by omega), h2, e, if_neg (by omega), if_neg (by omega), if_pos (by omega)]
      rfl
theorem cutN_le (n : Int) : cutW n ≤ 2147483647 := by unfold cutW; omega
theorem cutN_int (n : Int) : (cutW n : Int) = max 0 (min n 2147483647) := by unfold cutW; omega
theorem num_put {s : ByteArray} {p : Nat} {n : Int} (h : HasB s p (putB n)) : num s p = (0, (cutW n : Int), (putB n).length) := by
  have h1 := cutN_le n
  have := numGo_put s 4 (cutW n) p 0 0 (by omega) (by omega) (by omega) (by omega) h
  simpa [num, putB] using this
/-- What is got as a number is that number's bytes. -/
theorem numGo_has (s : ByteArray) : ∀ (f p k : Nat) (m : Int) (r : Int) (sz : Nat), k + f = 4 → numGo s (f + 1) p k m = (0, r, sz) →
    ∃ n : Nat, r = m + n * 128 ^ k ∧ sz = k + (putGo f n).length ∧ HasB s p (putGo f n) ∧ n < 128 ^ (f + 1) ∧ (0 < n ∨ k = 0) := by
  intro f
  induction f with
  | zero =>
    intro p k m r sz hk h
    have b0 := bt_nonneg s p
    rw [numGo] at h
    split at h
    · simp at h
    · split at h
      · simp at h
      · split at h
        · simp at h
        · split at h
          · simp only [Prod.mk.injEq, true_and] at h
            obtain ⟨rfl, rfl⟩ := h
            have e : bt s p % 128 = bt s p := Int.emod_eq_of_lt (by omega) (by omega)
            refine ⟨(bt s p).toNat, by rw [e, Int.toNat_of_nonneg b0], rfl, HasB.cons (by omega) (by rw [nat8 (by omega)]; omega) ⟨by simp; omega, fun i hi => by simp at hi⟩, by simp; omega, by omega⟩
          · rw [numGo] at h; simp at h
  | succ f ih =>
    intro p k m r sz hk h
    have b0 := bt_nonneg s p
    have b1 := bt_le s p
    rw [numGo] at h
    split at h
    · simp at h
    · split at h
      · simp at h
      · split at h
        · simp at h
        · split at h
          · simp only [Prod.mk.injEq, true_and] at h
            obtain ⟨rfl, rfl⟩ := h
            have e : bt s p % 128 = bt s p := Int.emod_eq_of_lt (by omega) (by omega)
            have h128 : 128 ≤ 128 ^ (f + 1 + 1) := by
              have : 0 < 128 ^ (f + 1) := Nat.pow_pos (by omega)
              rw [Nat.pow_succ]; omega
            refine ⟨(bt s p).toNat, by rw [e, Int.toNat_of_nonneg b0], by rw [putGo, if_neg (by omega)]; rfl, ?_, by omega, by omega⟩
            rw [putGo, if_neg (by omega)]
            exact HasB.cons (by omega) (by rw [nat8 (by omega)]; omega) ⟨by simp; omega, fun i hi => by simp at hi⟩
          · obtain ⟨n, h1, h2, h3, h4, h5⟩ := ih _ _ _ _ _ (by omega) h
            have hn0 : 0 < n := by omega
            have hd : (128 * n + (bt s p - 128).toNat) / 128 = n := by omega
            have hm : (128 * n + (bt s p - 128).toNat) % 128 = (bt s p - 128).toNat := by omega
            have hput : putGo (f + 1) (128 * n + (bt s p - 128).toNat) = UInt8.ofNat ((bt s p - 128).toNat + 128) :: putGo f n := by
              rw [putGo, if_pos (by omega), hd, hm]
            refine ⟨128 * n + (bt s p - 128).toNat, ?_, by rw [hput, h2]; simp; omega, ?_, ?_, by omega⟩
            · rw [h1]
              have e : bt s p % 128 = bt s p - 128 := by omega
              have e2 : (((128 * n + (bt s p - 128).toNat : Nat)) : Int) = 128 * (n : Int) + (bt s p - 128) := by omega
              rw [e, e2, Int.pow_succ, Int.add_mul, Int.mul_assoc, Int.mul_comm 128 ((n : Int) * 128 ^ k), Int.mul_assoc]
              omega
            · rw [hput]
              exact HasB.cons (by omega) (by rw [nat8 (by omega)]; omega) h3
            · rw [Nat.pow_succ]; omega
theorem num_has {s : ByteArray} {p : Nat} (h : (num s p).1 = 0) : HasB s p (putB (num s p).2.1) ∧ (num s p).2.2 = (putB (num s p).2.1).length := by
  obtain ⟨g1, g2, g3, g4, g5⟩ := num_in s p h
  obtain ⟨n, h1, h2, h3, h4, h5⟩ := numGo_has s 4 p 0 0 (num s p).2.1 (num s p).2.2 (by omega) (by
    have : num s p = ((num s p).1, (num s p).2.1, (num s p).2.2) := rfl
    rw [h] at this; exact this)
  have hc : cutW (num s p).2.1 = n := by unfold cutW; simp at h1; omega
  unfold putB
  rw [hc]
  exact ⟨h3, by simpa using h2⟩
end Go.Proofs.Ytcopedhoepblpaa
namespace Go.Proofs.Ytcopedhoepblpaa
open Go.RowKit Go.PlainAid
theorem strB_data (l : List UInt8) : (strB l).data.toList = l := rfl
theorem toList_data (s : ByteArray) : s.toList = s.data.toList := ByteArray.toList_eq s
theorem bt_strB (l : List UInt8) (i : Nat) (h : i < l.length) : bt (strB l) i = (l[i].toNat : Int) := by
  unfold bt
  rw [dif_pos (by rw [strB_size]; exact h)]
  rfl
theorem has_strB (l m r : List UInt8) : HasB (strB (l ++ m ++ r)) l.length m := by
  refine ⟨by rw [strB_size]; simp, fun i hi => ?_⟩
  rw [bt_strB _ _ (by simp; omega)]
  congr 1
  simp [List.getElem_append_right, List.getElem_append_left, hi]
/-- Of unlike numbers neither one's bytes begin the other one's. -/
theorem putB_apart {a b : Int} {r : List UInt8} (h : putB b = putB a ++ r) : cutW a = cutW b := by
  have h1 : num (strB (putB b)) 0 = (0, (cutW b : Int), (putB b).length) := num_put (by have := has_strB [] (putB b) []; simpa using this)
  have h2 : num (strB (putB b)) 0 = (0, (cutW a : Int), (putB a).length) := num_put (by rw [h]; have := has_strB [] (putB a) r; simpa using this)
  rw [h1] at h2
  simp at h2
  omega
theorem extract_self (s : ByteArray) : (s.extract 0 s.size).toList = s.toList := by
  rw [toList_data, toList_data]; simp
theorem extract_pre {a b : List UInt8} (h : ((strB b).extract 0 (strB a).size).toList = (strB a).toList) : ∃ r, b = a ++ r := by
  rw [toList_data, toList_data] at h
  simp [strB] at h
  refine ⟨b.drop (ByteArray.size ⟨a.toArray⟩), ?_⟩
  conv => rhs; arg 1; rw [← h]
  exact (List.take_append_drop _ _).symm
end Go.Proofs.Ytcopedhoepblpaa
namespace Go.Proofs.Ytcopedhoepblpaa
open Go.RowKit Go.PlainAid
/-! Lengths. -/
theorem putGo_length : ∀ (f n k : Nat), (k = 0 ∨ 128 ^ k ≤ n) → n < 128 ^ (k + 1) → k ≤ f → (putGo f n).length = k + 1 := by
  intro f
  induction f with
  | zero => intro n k _ _ hk; rw [show k = 0 from Nat.le_zero.1 hk]; rfl
  | succ f ih =>
    intro n k h1 h2 hk
    have hp : 0 < 128 ^ k := Nat.pow_pos (by omega)
    cases k with
    | zero => rw [putGo_last (by simp at h2; omega)]; rfl
    | succ k =>
      have h3 : 128 ^ (k + 1) ≤ n := by rcases h1 with h1 | h1; omega; exact h1
      have h4 : 128 ≤ 128 ^ (k + 1) := by
        have : 0 < 128 ^ k := Nat.pow_pos (by omega)
        rw [Nat.pow_succ]; omega
      rw [putGo, if_pos (by omega), List.length_cons, ih (n / 128) k (.inr ?_) ?_ (by omega)]
      · rw [Nat.pow_succ] at h3; exact (Nat.le_div_iff_mul_le (by omega)).2 h3
      · rw [Nat.pow_succ] at h2; exact Nat.div_lt_of_lt_mul (by omega)
theorem putGo_mono : ∀ (f a b : Nat), a ≤ b → (putGo f a).length ≤ (putGo f b).length := by
  intro f
  induction f with
  | zero => intro a b _; simp [putGo]
  | succ f ih =>
    intro a b h
    simp only [putGo]
    split <;> split
    · have := ih (a / 128) (b / 128) (Nat.div_le_div_right h); simp; omega
    · omega
    · simp
    · simp
theorem putB_mono {a b : Int} (h : a ≤ b) : (strB (putB a)).size ≤ (strB (putB b)).size := by
  rw [strB_size, strB_size]
  exact putGo_mono 4 _ _ (by unfold cutW; omega)
theorem putB_length {n : Int} {k : Nat} (h1 : k = 0 ∨ (128 : Int) ^ k ≤ max 0 (min n 2147483647)) (h2 : max 0 (min n 2147483647) < (128 : Int) ^ (k + 1)) (hk : k ≤ 4) : (strB (putB n)).size = k + 1 := by
  have hc := cutN_int n
  have e1 : ((128 ^ k : Nat) : Int) = (128 : Int) ^ k := by simp
  have e2 : ((128 ^ (k + 1) : Nat) : Int) = (128 : Int) ^ (k + 1) := by simp
  rw [strB_size]
  exact putGo_length 4 (cutW n) k (by omega) (by omega) hk
theorem putB_pos (n : Int) : 1 ≤ (strB (putB n)).size ∧ (strB (putB n)).size ≤ 5 := by
  rw [strB_size]
  refine ⟨?_, putB_len n⟩
  unfold putB
  rw [putGo]; split <;> simp
/-! Bytes that end too early. -/
theorem numGo_short (s : ByteArray) : ∀ (f n p k : Nat) (m : Nat), k + f = 4 → n < 128 ^ (f + 1) → m + n * 128 ^ k ≤ 2147483647 → HasB s p (putGo f n).dropLast → s.size = p + (putGo f n).dropLast.length →
    numGo s (f + 1) p k (m : Int) = (5, 0, 0) := by
  intro f
  induction f with
  | zero =>
    intro n p k m _ _ _ _ hs
    simp [putGo] at hs
    rw [numGo, if_pos (by omega)]
  | succ f ih =>
    intro n p k m hk hn hm hh hs
    by_cases h127 : 127 < n
    · have hne : putGo f (n / 128) ≠ [] := by
        cases f with
        | zero => simp [putGo]
        | succ f => rw [putGo]; split <;> simp
      rw [putGo, if_pos h127, List.dropLast_cons_of_ne_nil hne] at hh hs
      obtain ⟨h1, h2⟩ := hh.head
      rw [nat8 (by omega)] at h2
      have e : (m : Int) + ((n % 128 + 128 : Nat) : Int) % 128 * 128 ^ k = ((m + n % 128 * 128 ^ k : Nat) : Int) := by
        have : ((n % 128 + 128 : Nat) : Int) % 128 = ((n % 128 : Nat) : Int) := by omega
        rw [this]; simp
      have e2 : m + n % 128 * 128 ^ k + n / 128 * 128 ^ (k + 1) = m + n * 128 ^ k := by
        have := Nat.div_add_mod n 128
        rw [Nat.pow_succ, show n / 128 * (128 ^ k * 128) = (128 * (n / 128)) * 128 ^ k by rw [Nat.mul_comm (128 ^ k) 128, ← Nat.mul_assoc, Nat.mul_comm 128 (n / 128)], Nat.add_assoc, ← Nat.add_mul, Nat.add_comm (n % 128), this]
      have e3 : m + n % 128 * 128 ^ k ≤ 2147483647 := by omega
      rw [numGo, if_neg (by omega), h2, e, if_neg (by omega), if_neg (by omega), if_neg (by omega)]
      exact ih (n / 128) (p + 1) (k + 1) (m + n % 128 * 128 ^ k) (by omega) (by rw [Nat.pow_succ] at hn; exact Nat.div_lt_of_lt_mul (by omega)) (by omega) hh.tail (by simp at hs; rw [hs]; simp; omega)
    · rw [putGo, if_neg h127] at hs
      simp at hs
      rw [numGo, if_pos (by omega)]
theorem num_short {s : ByteArray} {p : Nat} {n : Int} (h : HasB s p (putB n).dropLast) (hs : s.size = p + (putB n).dropLast.length) : num s p = (5, 0, 0) := by
  have h1 := cutN_le n
  have := numGo_short s 4 (cutW n) p 0 0 (by omega) (by omega) (by omega) h hs
  simpa [num, putB] using this
theorem exists_strB (s : ByteArray) : ∃ l, s = strB l := ⟨s.data.toList, by simp [strB]⟩
theorem getR_put (A B : ByteArray) (n : Int) : getR (A ++ strB (putB n) ++ B) A.size = (0, max 0 (min n 2147483647), (A.size : Int) + (strB (putB n)).size) := by
  obtain ⟨a, rfl⟩ := exists_strB A
  obtain ⟨b, rfl⟩ := exists_strB B
  rw [strB_append, strB_append, strB_size a]
  have h := num_put (has_strB a (putB n) b)
  rw [getR_ok (by rw [strB_size]; simp) (by rw [h]), h, strB_size, ← cutN_int]
theorem getR_short (A : ByteArray) (n : Int) : getR (A ++ (strB (putB n)).extract 0 ((strB (putB n)).size - 1)) A.size = (5, 0, 0) := by
  obtain ⟨a, rfl⟩ := exists_strB A
  have e : (strB (putB n)).extract 0 ((strB (putB n)).size - 1) = strB (putB n).dropLast := by
    rw [strB_size]; ext1; simp [strB, List.dropLast_eq_take]
  rw [e, strB_append, strB_size a]
  have hh := has_strB a (putB n).dropLast []
  rw [List.append_nil] at hh
  have h := num_short (n := n) hh (by rw [strB_size]; simp)
  rw [getR_err (by rw [strB_size]; simp) (by rw [h]; decide), h]
/-! What is got is the number's bytes. -/
theorem has_extract {s : ByteArray} {p : Nat} {l : List UInt8} (h : HasB s p l) : s.extract p (p + l.length) = strB l := by
  obtain ⟨b, rfl⟩ := exists_strB s
  obtain ⟨h1, h2⟩ := h
  rw [strB_size] at h1
  have : (b.drop p).take l.length = l := by
    apply List.ext_getElem
    · simp; omega
    · intro i g1 g2
      have := h2 i g2
      rw [bt_strB b (p + i) (by omega)] at this
      simp
      exact UInt8.toNat_inj.1 (by exact_mod_cast this)
  ext1
  simp [strB]
  exact this
theorem getR_has {s : ByteArray} {a : Int} (h : (getR s a).1 = 0) : s.extract a.toNat (getR s a).2.2.toNat = strB (putB (getR s a).2.1) := by
  obtain ⟨g0, g1, g2, g3, g4, g5⟩ := getR_in h
  obtain ⟨p, rfl⟩ := Int.eq_ofNat_of_zero_le g0
  have hp : p ≤ s.size := by omega
  obtain ⟨q1, q2⟩ := getR_num hp
  rw [h] at q1
  obtain ⟨q3, q4⟩ := q2 q1.symm
  obtain ⟨n1, n2⟩ := num_has q1.symm
  rw [q3, q4, Int.toNat_natCast, Int.toNat_natCast, n2]
  exact has_extract n1
end Go.Proofs.Ytcopedhoepblpaa
namespace Go.Proofs.Ytcopedhoepblpaa
open Go.RowKit Go.PlainAid
/-! Many numbers. -/
theorem num_strB {l : List UInt8} {p : Nat} (h : (num (strB l) p).1 = 0) : ∃ r, l.drop p = putB (num (strB l) p).2.1 ++ r ∧ r = l.drop (p + (num (strB l) p).2.2) := by
  obtain ⟨h1, h2⟩ := num_has h
  have h3 := has_extract h1
  obtain ⟨g1, g2, g3, g4, g5⟩ := num_in _ _ h
  rw [strB_size] at g2
  have h4 : (l.drop p).take (putB (num (strB l) p).2.1).length = putB (num (strB l) p).2.1 := by
    have := congrArg (fun b : ByteArray => b.data.toList) h3
    simpa [strB] using this
  refine ⟨_, ?_, rfl⟩
  rw [h2]
  conv => lhs; rw [← List.take_append_drop (putB (num (strB l) p).2.1).length (l.drop p), h4, List.drop_drop]
theorem allGo_has (l : List UInt8) : ∀ (f p : Nat) (acc out : List Int), l.length < p + f → p ≤ l.length → l.take p = putsB acc → allGo (strB l) f p acc = (0, out) → putsB out = l := by
  intro f
  induction f with
  | zero => intro p acc out h hp; omega
  | succ f ih =>
    intro p acc out h hp ht ha
    rw [allGo] at ha
    split at ha
    · rename_i h1
      rw [strB_size] at h1
      simp at ha
      rw [← ha, ← ht, List.take_of_length_le (by omega)]
    · rename_i h1
      rw [strB_size] at h1
      split at ha
      · rename_i h2
        obtain ⟨r, h3, h4⟩ := num_strB h2
        obtain ⟨h5, h6⟩ := num_has h2
        obtain ⟨g1, g2, g3, g4, g5⟩ := num_in _ _ h2
        rw [strB_size] at g2
        refine ih _ _ _ (by omega) g2 ?_ ha
        clear h4 h5 ih ha
        generalize num (strB l) p = nm at *
        rw [putsB_snoc, ← ht]
        have e1 : l = l.take p ++ (putB nm.2.1 ++ r) := by rw [← h3, List.take_append_drop]
        conv => lhs; rw [e1]
        rw [← List.append_assoc, List.take_left' (by rw [List.length_append, List.length_take, Nat.min_eq_left hp, ← h6])]
      · simp at ha; omega
theorem allR_has {s : ByteArray} (h : (allR s).1 = 0) : strB (putsB (allR s).2) = s := by
  obtain ⟨l, rfl⟩ := exists_strB s
  rw [allGo_has l (strB l).size.succ 0 [] (allR (strB l)).2 (by rw [strB_size]; omega) (by omega) rfl (by
    have : allR (strB l) = ((allR (strB l)).1, (allR (strB l)).2) := rfl
    rw [h] at this; exact this)]
theorem allGo_puts (l : List UInt8) : ∀ (rest : List Int) (f p : Nat) (acc : List Int), l.length < p + f → p ≤ l.length → l.drop p = putsB rest → allGo (strB l) f p acc = (0, acc ++ rest.map fun n => (cutW n : Int)) := by
  intro rest
  induction rest with
  | nil =>
    intro f p acc h hp hd
    have hl : l.length ≤ p := by
      have := congrArg List.length hd
      simp [putsB] at this; omega
    cases f with
    | zero => omega
    | succ f => rw [allGo, if_pos (by rw [strB_size]; omega)]; simp
  | cons n rest ih =>
    intro f p acc h hp hd
    have hd' : l.drop p = putB n ++ putsB rest := by rw [hd]; simp [putsB]
    have hlen := congrArg List.length hd'
    rw [List.length_append, List.length_drop] at hlen
    have hpos : 1 ≤ (putB n).length := by have := (putB_pos n).1; rwa [strB_size] at this
    have hl : l = l.take p ++ putB n ++ putsB rest := by rw [List.append_assoc, ← hd', List.take_append_drop]
    have hh : HasB (strB l) p (putB n) := by
      have := has_strB (l.take p) (putB n) (putsB rest)
      rw [← hl, List.length_take, Nat.min_eq_left hp] at this
      exact this
    have hn := num_put hh
    cases f with
    | zero => omega
    | succ f =>
      rw [allGo, if_neg (by rw [strB_size]; omega), hn, if_pos rfl]
      dsimp only
      rw [ih f (p + (putB n).length) (acc ++ [(cutW n : Int)]) (by omega) (by omega) ?_]
      · simp
      · rw [← List.drop_drop, hd', List.drop_left]
theorem allR_puts (l : List Int) : allR (strB (putsB l)) = (0, l.map fun n => max 0 (min n 2147483647)) := by
  unfold allR
  rw [allGo_puts (putsB l) l _ 0 [] (by rw [strB_size]; omega) (by omega) rfl]
  simp only [List.nil_append]
  congr 1
  exact List.map_congr_left fun n _ => cutN_int n
theorem putsB_append (l k : List Int) : putsB (l ++ k) = putsB l ++ putsB k := by simp [putsB]
/-! Places moved. -/
theorem bt_drop (s : ByteArray) (k p : Nat) (hk : k ≤ s.size) : bt (s.extract k s.size) p = bt s (k + p) := by
  unfold bt
  have hs : (s.extract k s.size).size = s.size - k := by rw [ByteArray.size_extract]; omega
  by_cases h : k + p < s.size
  · rw [dif_pos (by rw [hs]; omega), dif_pos h]
    rw [ByteArray.getElem_extract]
  · rw [dif_neg (by rw [hs]; omega), dif_neg h]
theorem numGo_shift (s : ByteArray) (j : Nat) (hj : j ≤ s.size) : ∀ (f p k : Nat) (m : Int), numGo (s.extract j s.size) f p k m = numGo s f (j + p) k m := by
  have hs : (s.extract j s.size).size = s.size - j := by rw [ByteArray.size_extract]; omega
  intro f
  induction f with
  | zero => intro p k m; rfl
  | succ f ih =>
    intro p k m
    simp only [numGo, bt_drop s j p hj]
    have e : ((s.extract j s.size).size ≤ p) = (s.size ≤ j + p) := by rw [hs]; simp; omega
    simp only [e]
    rw [ih (p + 1), show j + (p + 1) = j + p + 1 by omega]
theorem num_shift (s : ByteArray) (j : Nat) (hj : j ≤ s.size) : num (s.extract j s.size) 0 = num s j := by
  unfold num; rw [numGo_shift s j hj]; rfl
theorem getR_shift (s : ByteArray) (j : Nat) (hj : j ≤ s.size) : (getR (s.extract j s.size) 0).1 = (getR s j).1 ∧ (getR (s.extract j s.size) 0).2.1 = (getR s j).2.1 ∧
    ((getR s j).1 ≠ 0 → (getR s j).2.2 = 0 ∧ (getR (s.extract j s.size) 0).2.2 = 0) ∧ ((getR s j).1 = 0 → (getR s j).2.2 = (getR (s.extract j s.size) 0).2.2 + j) := by
  have h := num_shift s j hj
  by_cases e : (num s j).1 = 0
  · have a := getR_ok hj e
    have b := getR_ok (s := s.extract j s.size) (a := 0) (by omega) (by rw [h]; exact e)
    rw [h] at b
    have b' : getR (s.extract j s.size) 0 = _ := b
    rw [a, b']
    refine ⟨rfl, rfl, fun h => absurd rfl h, fun _ => ?_⟩
    dsimp only; omega
  · have a := getR_err hj e
    have b := getR_err (s := s.extract j s.size) (a := 0) (by omega) (by rw [h]; exact e)
    rw [h] at b
    have b' : getR (s.extract j s.size) 0 = _ := b
    rw [a, b']
    exact ⟨rfl, rfl, fun _ => ⟨rfl, rfl⟩, fun h => absurd h e⟩
theorem takeR_ok {s : ByteArray} {a m : Int} (e : (getR s a).1 = 0) : takeR s a m = if max m 0 < (getR s a).2.1 then (2, ⟨#[]⟩, 0)
    else if (s.size : Int) - (getR s a).2.2 < (getR s a).2.1 then (5, ⟨#[]⟩, 0)
    else (0, s.extract (getR s a).2.2.toNat ((getR s a).2.2 + (getR s a).2.1).toNat, (getR s a).2.2 + (getR s a).2.1) := by
  unfold takeR; rw [if_neg (by simp [e])]
theorem takeR_shift (s : ByteArray) (j : Nat) (most : Int) (hj : j ≤ s.size) : (takeR (s.extract j s.size) 0 most).1 = (takeR s j most).1 ∧ (takeR (s.extract j s.size) 0 most).2.1 = (takeR s j most).2.1 ∧
    ((takeR s j most).1 ≠ 0 → (takeR s j most).2.2 = 0 ∧ (takeR (s.extract j s.size) 0 most).2.2 = 0) ∧ ((takeR s j most).1 = 0 → (takeR s j most).2.2 = (takeR (s.extract j s.size) 0 most).2.2 + j) := by
  obtain ⟨h1, h2, h3, h4⟩ := getR_shift s j hj
  have hs : (s.extract j s.size).size = s.size - j := by rw [ByteArray.size_extract]; omega
  by_cases e : (getR s j).1 = 0
  · have h5 := h4 e
    obtain ⟨g0, g1, g2, g3, g4, g5⟩ := getR_in e
    obtain ⟨k0, k1, k2, k3, k4, k5⟩ := getR_in (h1.trans e)
    rw [takeR_ok e, takeR_ok (h1.trans e), h2, h5, hs]
    generalize (getR (s.extract j s.size) 0).2.2 = t at *
    generalize (getR s j).2.1 = n at *
    by_cases c1 : max most 0 < n
    · rw [if_pos c1, if_pos c1]; exact ⟨rfl, rfl, fun _ => ⟨rfl, rfl⟩, fun h => by simp at h⟩
    · rw [if_neg c1, if_neg c1]
      have ec : (((s.size - j : Nat) : Int) - t < n) = ((s.size : Int) - (t + j) < n) := by simp; omega
      simp only [ec]
      by_cases c2 : (s.size : Int) - (t + j) < n
      · rw [if_pos c2, if_pos c2]; exact ⟨rfl, rfl, fun _ => ⟨rfl, rfl⟩, fun h => by simp at h⟩
      · rw [if_neg c2, if_neg c2]
        refine ⟨rfl, ?_, fun h => absurd rfl h, fun _ => ?_⟩
        · dsimp only
          rw [ByteArray.extract_extract]
          congr 1 <;> omega
        · dsimp only; omega
  · have a : takeR s j most = ((getR s j).1, ⟨#[]⟩, 0) := by unfold takeR; rw [if_pos e]
    have b : takeR (s.extract j s.size) 0 most = ((getR s j).1, ⟨#[]⟩, 0) := by unfold takeR; rw [if_pos (by rw [h1]; exact e), h1]
    rw [a, b]
    exact ⟨rfl, rfl, fun _ => ⟨rfl, rfl⟩, fun h => absurd h e⟩
/-! A text as it was laid. -/
theorem takeR_text (s B : ByteArray) (most : Int) (hs : s.size ≤ 2147483647) : takeR (strB (putB s.size) ++ s ++ B) 0 most =
    if max most 0 < (s.size : Int) then (2, ⟨#[]⟩, 0) else (0, s, (((strB (putB s.size) ++ s).size : Nat) : Int)) := by
  have h := getR_put ⟨#[]⟩ (s ++ B) s.size
  have e0 : (⟨#[]⟩ : ByteArray) ++ strB (putB s.size) ++ (s ++ B) = strB (putB s.size) ++ s ++ B := by
    obtain ⟨l, rfl⟩ := exists_strB s
    obtain ⟨b, rfl⟩ := exists_strB B
    show strB [] ++ _ ++ _ = _
    simp only [strB_append]; simp
  rw [e0] at h
  have e1 : max (0 : Int) (min (s.size : Int) 2147483647) = s.size := by omega
  have e2 : ((ByteArray.size ⟨#[]⟩ : Nat) : Int) = 0 := rfl
  rw [e1, e2, Int.zero_add] at h
  unfold takeR
  rw [h]
  dsimp only
  rw [if_neg (by simp)]
  by_cases c : max most 0 < (s.size : Int)
  · rw [if_pos c, if_pos c]
  · rw [if_neg c, if_neg c, if_neg (by rw [ByteArray.size_append, ByteArray.size_append]; omega)]
    refine congrArg (Prod.mk 0) ?_
    refine Prod.ext ?_ ?_
    · dsimp only
      obtain ⟨l, rfl⟩ := exists_strB s
      obtain ⟨b, rfl⟩ := exists_strB B
      rw [strB_append, strB_append]
      rw [strB_size, strB_size]
      ext1
      simp [strB]
      rw [(show ∀ x : Nat, ((x : Int) + (l.length : Int)).toNat - x = l.length from fun x => by omega) _, List.take_left]
    · dsimp only; rw [ByteArray.size_append]; omega
end Go.Proofs.Ytcopedhoepblpaa
