/- Pieces: plain facts. -/
import Derived.Test.YtcopedhoepblpaaWd4
namespace Go.Proofs.Ytcopedhoepblpaa
open Go.RowKit Go.PlainAid

structure Pc where
  node : Int
  state : Int
  steps : Int
  sent : List Int
  inn : List Lks
  out : List (List Int)
def Pc.zero : Pc := ⟨0, 0, 0, [], [], []⟩
/-- Is n one of a to b? -/
def wi (n a b : Int) : Bool := decide (a ≤ n) && decide (n ≤ b)
theorem wi_iff {n a b : Int} : wi n a b = true ↔ a ≤ n ∧ n ≤ b := by simp [wi]
def riseB : Int → Lks → Bool
  | _, [] => true
  | a, m :: r => wi m.1 (a + 1) 500 && wi m.2 0 3 && riseB m.1 r
def lettersB (l : List Int) : Bool := decide (l.length ≤ 500) && l.all fun x => wi x 0 3
def sentsB (l : List Int) : Bool := decide (l.length ≤ 5) && l.all fun x => wi x 0 500
def innB (l : List Lks) : Bool := decide (l.length ≤ 5) && l.all fun m => riseB 0 m
def outB (l : List (List Int)) : Bool := decide (l.length ≤ 5) && l.all lettersB
def okB (p : Pc) : Bool := wi p.node 0 5 && wi p.state 0 7 && wi p.steps 0 2147483647 && sentsB p.sent && innB p.inn && outB p.out

def msgsN (m : Lks) : List Int := (m.length : Int) :: m.flatMap fun x => [x.1, x.2]
def intsN (l : List Int) : List Int := (l.length : Int) :: l
def numsOf (p : Pc) : List Int := p.node :: p.state :: p.steps :: (intsN p.sent ++ ((p.inn.length : Int) :: p.inn.flatMap msgsN) ++ ((p.out.length : Int) :: p.out.flatMap intsN))

def hdI (r : List Int) : Int := r.headD 0
def rdTimes {α : Type} (f : List Int → α × List Int) : Nat → List Int → List α × List Int
  | 0, r => ([], r)
  | k + 1, r => ((f r).1 :: (rdTimes f k (f r).2).1, (rdTimes f k (f r).2).2)
theorem rdTimes_snoc {α : Type} (f : List Int → α × List Int) : ∀ (k : Nat) (r : List Int), rdTimes f (k + 1) r = ((rdTimes f k r).1 ++ [(f (rdTimes f k r).2).1], (f (rdTimes f k r).2).2) := by
  intro k
  induction k with
  | zero => intro r; rfl
  | succ k ih =>
    intro r
    rw [show rdTimes f (k + 1 + 1) r = ((f r).1 :: (rdTimes f (k + 1) (f r).2).1, (rdTimes f (k + 1) (f r).2).2) from rfl, ih]
    rfl
theorem rdTimes_len {α : Type} (f : List Int → α × List Int) : ∀ (k : Nat) (r : List Int), (rdTimes f k r).1.length = k := by
  intro k
  induction k with
  | zero => intro r; rfl
  | succ k ih => intro r; simp [rdTimes, ih]
/-- How many are read: no more than 'most'. -/
def cntI (n : Int) (most : Int) : Nat := (if most < n then most else n).toNat
def rdN (r : List Int) : Int × List Int := (hdI r, r.tail)
def rdM (r : List Int) : (Int × Int) × List Int := ((hdI r, hdI r.tail), r.tail.tail)
def rdL {α : Type} (most : Int) (f : List Int → α × List Int) (r : List Int) : List α × List Int := rdTimes f (cntI (hdI r) most) r.tail
theorem cntI_le {n most : Int} (h : 0 ≤ most) : (cntI n most : Int) ≤ most := by unfold cntI; split <;> omega
theorem rdL_len {α : Type} {most : Int} {f : List Int → α × List Int} {r : List Int} (h : 0 ≤ most) : ((rdL most f r).1.length : Int) ≤ most := by unfold rdL; rw [rdTimes_len]; exact cntI_le h
def rdMs : List Int → Lks × List Int := rdL 500 rdM
def rdIs : List Int → List Int × List Int := rdL 500 rdN
def rdS (r : List Int) : List Int × List Int := rdL 5 rdN r.tail.tail.tail
def rdIn (r : List Int) : List Lks × List Int := rdL 5 rdMs (rdS r).2
def rdOut (r : List Int) : List (List Int) × List Int := rdL 5 rdIs (rdIn r).2
def rdPc (r : List Int) : Pc := ⟨hdI r, hdI r.tail, hdI r.tail.tail, (rdS r).1, (rdIn r).1, (rdOut r).1⟩

/-- What is encoded by parts is read so. -/
theorem rdTimes_back {α : Type} {f : List Int → α × List Int} {g : α → List Int} : ∀ (l : List α) (rest : List Int), (∀ x ∈ l, ∀ rest, f (g x ++ rest) = (x, rest)) → rdTimes f l.length (l.flatMap g ++ rest) = (l, rest) := by
  intro l
  induction l with
  | nil => intro rest _; rfl
  | cons x l ih =>
    intro rest h
    have e := h x (List.mem_cons_self ..) (l.flatMap g ++ rest)
    have ih' := ih rest (fun y hy => h y (List.mem_cons_of_mem _ hy))
    rw [List.length_cons, List.flatMap_cons, List.append_assoc]
    show ((f (g x ++ (l.flatMap g ++ rest))).1 :: (rdTimes f l.length (f (g x ++ (l.flatMap g ++ rest))).2).1, (rdTimes f l.length (f (g x ++ (l.flatMap g ++ rest))).2).2) = _
    rw [e, ih']
theorem rdL_back {α : Type} {f : List Int → α × List Int} {g : α → List Int} {most : Int} (l : List α) (rest : List Int) (hl : (l.length : Int) ≤ most) (h : ∀ x ∈ l, ∀ rest, f (g x ++ rest) = (x, rest)) : rdL most f (((l.length : Int) :: l.flatMap g) ++ rest) = (l, rest) := by
  unfold rdL
  have e : cntI (hdI (((l.length : Int) :: l.flatMap g) ++ rest)) most = l.length := by
    show cntI (l.length : Int) most = _
    unfold cntI; rw [if_neg (by omega)]; simp
  rw [e]
  exact rdTimes_back l rest h
theorem flat_self (l : List Int) : l.flatMap (fun x => [x]) = l := by induction l with
  | nil => rfl
  | cons x l ih => rw [List.flatMap_cons, ih]; rfl
theorem rdI_back {most : Int} (l rest : List Int) (hl : (l.length : Int) ≤ most) : rdL most rdN (intsN l ++ rest) = (l, rest) := by
  have := rdL_back (f := rdN) (g := fun x : Int => [x]) l rest hl (fun x _ r => rfl)
  rw [flat_self] at this
  exact this
theorem riseB_len : ∀ (m : Lks) (a : Int), riseB a m = true → a ≤ 500 → (m.length : Int) ≤ 500 - a := by
  intro m
  induction m with
  | nil => intro a _ _; simp; omega
  | cons x m ih =>
    intro a h ha
    simp only [riseB, Bool.and_eq_true, wi_iff] at h
    have := ih x.1 h.2 h.1.1.2
    rw [List.length_cons]; omega
theorem rdMs_back (m : Lks) (rest : List Int) (h : riseB 0 m = true) : rdMs (msgsN m ++ rest) = (m, rest) :=
  rdL_back (f := rdM) (g := fun x : Int × Int => [x.1, x.2]) m rest (by have := riseB_len m 0 h (by omega); omega) (fun x _ r => rfl)
theorem okB_parts {p : Pc} (h : okB p = true) : (0 ≤ p.node ∧ p.node ≤ 5) ∧ (0 ≤ p.state ∧ p.state ≤ 7) ∧ (0 ≤ p.steps ∧ p.steps ≤ 2147483647) ∧ (p.sent.length ≤ 5 ∧ ∀ x ∈ p.sent, 0 ≤ x ∧ x ≤ 500) ∧ (p.inn.length ≤ 5 ∧ ∀ m ∈ p.inn, riseB 0 m = true) ∧ (p.out.length ≤ 5 ∧ ∀ l ∈ p.out, l.length ≤ 500 ∧ ∀ x ∈ l, 0 ≤ x ∧ x ≤ 3) := by
  simp only [okB, sentsB, innB, outB, lettersB, Bool.and_eq_true, wi_iff, decide_eq_true_eq, List.all_eq_true] at h
  obtain ⟨⟨⟨⟨⟨h1, h2⟩, h3⟩, h4⟩, h5⟩, h6⟩ := h
  exact ⟨h1, h2, h3, h4, h5, h6⟩
/-- A piece that may be is read out of its numbers, whatever stands behind. -/
theorem rd_back {p : Pc} (h : okB p = true) (rest : List Int) : rdPc (numsOf p ++ rest) = p ∧ (rdOut (numsOf p ++ rest)).2 = rest := by
  obtain ⟨_, _, _, h4, h5, h6⟩ := okB_parts h
  have e1 : rdS (numsOf p ++ rest) = (p.sent, ((p.inn.length : Int) :: p.inn.flatMap msgsN) ++ (((p.out.length : Int) :: p.out.flatMap intsN) ++ rest)) := by
    show rdL 5 rdN ((intsN p.sent ++ ((p.inn.length : Int) :: p.inn.flatMap msgsN) ++ ((p.out.length : Int) :: p.out.flatMap intsN)) ++ rest) = _
    rw [List.append_assoc, List.append_assoc]
    exact rdI_back _ _ (by omega)
  have e2 : rdIn (numsOf p ++ rest) = (p.inn, ((p.out.length : Int) :: p.out.flatMap intsN) ++ rest) := by
    unfold rdIn
    rw [e1]
    exact rdL_back _ _ (by omega) (fun m hm r => rdMs_back m r (h5.2 m hm))
  have e3 : rdOut (numsOf p ++ rest) = (p.out, rest) := by
    unfold rdOut
    rw [e2]
    exact rdL_back _ _ (by omega) (fun l hl r => rdI_back l r (by have := (h6.2 l hl).1; omega))
  refine ⟨?_, by rw [e3]⟩
  unfold rdPc
  rw [e1, e2, e3]
  rfl
theorem rd_self {p : Pc} (h : okB p = true) : rdPc (numsOf p) = p := by have := (rd_back h []).1; rwa [List.append_nil] at this
/-- Pieces that may be, the numbers of one of which begin the other's, are one. -/
theorem nums_apart {p q : Pc} (hp : okB p = true) (hq : okB q = true) {rest : List Int} (h : numsOf p = numsOf q ++ rest) : p = q ∧ rest = [] := by
  have h1 := rd_back hp []
  have h2 := rd_back hq rest
  rw [← h] at h2
  rw [List.append_nil] at h1
  exact ⟨h1.1.symm.trans h2.1, h2.2.symm.trans h1.2⟩
theorem nums_in {p : Pc} (h : okB p = true) : ∀ x ∈ numsOf p, 0 ≤ x ∧ x ≤ 2147483647 := by
  obtain ⟨h1, h2, h3, h4, h5, h6⟩ := okB_parts h
  have hr : ∀ (m : Lks) (a : Int), 0 ≤ a → riseB a m = true → ∀ y ∈ m, 0 ≤ y.1 ∧ y.1 ≤ 500 ∧ 0 ≤ y.2 ∧ y.2 ≤ 3 := by
    intro m
    induction m with
    | nil => intro a _ _ y hy; simp at hy
    | cons z m ih =>
      intro a ha h y hy
      simp only [riseB, Bool.and_eq_true, wi_iff] at h
      rcases List.mem_cons.1 hy with rfl | hy
      · omega
      · exact ih z.1 (by omega) h.2 y hy
  intro x hx
  simp only [numsOf, intsN, List.mem_cons, List.mem_append, List.mem_flatMap, msgsN] at hx
  rcases hx with rfl | rfl | rfl | (((rfl | hx) | (rfl | ⟨m, hm, hx⟩)) | (rfl | ⟨l, hl, (rfl | hx)⟩))
  · omega
  · omega
  · omega
  · omega
  · have := h4.2 x hx; omega
  · omega
  · have hm5 := h5.2 m hm
    have hl5 := riseB_len m 0 hm5 (by omega)
    rcases hx with rfl | ⟨y, hy, hx⟩
    · omega
    · have hy5 := hr m 0 (by omega) hm5 y hy
      simp only [List.not_mem_nil, or_false] at hx
      rcases hx with rfl | rfl <;> omega
  · omega
  · have := (h6.2 l hl).1; omega
  · have := (h6.2 l hl).2 x hx; omega
theorem cut_id {l : List Int} (h : ∀ x ∈ l, 0 ≤ x ∧ x ≤ 2147483647) : (l.map fun n => max 0 (min n 2147483647)) = l := by
  have : ∀ x ∈ l, (fun n : Int => max 0 (min n 2147483647)) x = id x := fun x hx => by have := h x hx; show max 0 (min x 2147483647) = x; omega
  rw [List.map_congr_left this, List.map_id]
/-- The numbers of a piece's bytes. -/
theorem all_nums {p : Pc} (h : okB p = true) : allR (strB (putsB (numsOf p))) = (0, numsOf p) := by rw [allR_puts, cut_id (nums_in h)]
/-- A piece's bytes; what is wrong. -/
def encR (p : Pc) : ByteArray × Int := if okB p then (strB (putsB (numsOf p)), 0) else (strB [], 4)
/-- The piece of bytes; what is wrong. -/
def decR (s : ByteArray) : Pc × Int := if (allR s).1 = 0 ∧ okB (rdPc (allR s).2) = true ∧ strB (putsB (numsOf (rdPc (allR s).2))) = s then (rdPc (allR s).2, 0) else (Pc.zero, 4)
theorem decR_ok {s : ByteArray} {p : Pc} : decR s = (p, 0) ↔ okB p = true ∧ strB (putsB (numsOf p)) = s := by
  constructor
  · intro h
    unfold decR at h
    split at h
    · next hc => cases h; exact hc.2
    · cases h
  · rintro ⟨h1, rfl⟩
    have e := all_nums h1
    unfold decR
    rw [e]
    simp only [rd_self h1]
    rw [if_pos ⟨trivial, h1, trivial⟩]
theorem decR_cases (s : ByteArray) : (∃ p, decR s = (p, 0)) ∨ decR s = (Pc.zero, 4) := by
  unfold decR
  split
  · exact .inl ⟨_, rfl⟩
  · exact .inr rfl
end Go.Proofs.Ytcopedhoepblpaa
