/- The law's two nodes. -/
import Derived.Test.YtgoioibfecgopaaTbO
import Derived.Test.YtgoioibfecgopaaBa3
set_option linter.unusedSimpArgs false
namespace Go.Proofs.Ytgoioibfecgopaa
open Go.RowKit Go.PlainAid

theorem has_block {w : World} {b n cap : Nat} {xs : List (List D)} (css : List (List Value)) (hl : css.length = xs.length) (h0 : 0 < xs.length) (hb : b < w.heap.size) (hc : xs.length ≤ cap) (hn : ∀ ds ∈ xs, ds.length = n)
    (hcell : ∀ (i : Nat) (cs : List Value), css[i]? = some cs → ∀ (j : Nat) (c : Value), cs[j]? = some c → w.cell? ⟨b, i * n + j, none⟩ = some c) (hh : ∀ (i : Nat) (cs : List Value) (ds : List D), css[i]? = some cs → xs[i]? = some ds → HasL w cs ds) : Has w (.slice (some ⟨b, 0, none⟩) xs.length cap) (.row n xs) := by
  have key : ∀ (i : Nat) (ds : List D), xs[i]? = some ds → ∃ cs, css[i]? = some cs ∧ cs.length = n ∧ HasL w cs ds := fun i ds hi => by
    obtain ⟨cs, hcs⟩ := some_of_lt (l := css) (i := i) (by rw [hl]; exact lt_of_some hi)
    have h := hh i cs ds hcs hi
    exact ⟨cs, hcs, by rw [h.1]; exact hn ds (List.mem_of_getElem? hi), h⟩
  refine .row _ _ b 0 cap n xs (fun i j => (css.getD i []).getD j (.bool true)) (fun _ _ => All) h0 hb hc trivial (fun i ds hi => hn ds (List.mem_of_getElem? hi)) (fun i j hi hj => ?_) (fun i j ds d h1 h2 => ?_) (fun _ _ _ _ => trivial) (fun s => s.elim) (fun s => s.elim)
  · obtain ⟨ds, hds⟩ := some_of_lt hi
    obtain ⟨cs, hcs, hlen, _⟩ := key i ds hds
    have hjl : j < cs.length := by omega
    rw [Nat.zero_add, hcell i cs hcs j cs[j] (List.getElem?_eq_getElem hjl)]
    simp [List.getD, hcs, hjl]
  · obtain ⟨cs, hcs, hlen, hL⟩ := key i ds h1
    have hjl : j < cs.length := by rw [hL.1]; exact lt_of_some h2
    obtain ⟨_, fp, _, _, g⟩ := hL
    have := (g j cs[j] d (List.getElem?_eq_getElem hjl) h2).weak
    simpa [List.getD, hcs, hjl] using this

def twoT (m0 x : Int) : Tab := [⟨0, [⟨m0, [], [⟨1, [(1, 1)]⟩], []⟩, ⟨0, [], [], []⟩]⟩, ⟨0, [⟨2, [x], [], [⟨0, 1, 1⟩]⟩, ⟨0, [], [], []⟩]⟩]
def zI : Value := .int .i64 0
def zS : Value := .slice none 0 0
def sl (b n : Nat) : Value := .slice (some ⟨b, 0, none⟩) n n
def twoCells (h : Nat) (m0 : Int) (wb : Nat) (x : Int) : List (Addr × Value) :=
  [(⟨h, 0, none⟩, .int .i64 1), (⟨h, 1, none⟩, .int .i64 1), (⟨h + 1, 0, none⟩, .int .i64 1), (⟨h + 1, 1, none⟩, sl h 1),
   (⟨h + 1 + 1, 0, none⟩, .int .i64 m0), (⟨h + 1 + 1, 1, none⟩, zS), (⟨h + 1 + 1, 2, none⟩, sl (h + 1) 1), (⟨h + 1 + 1, 3, none⟩, zS), (⟨h + 1 + 1, 4, none⟩, zI), (⟨h + 1 + 1, 5, none⟩, zS), (⟨h + 1 + 1, 6, none⟩, zS), (⟨h + 1 + 1, 7, none⟩, zS),
   (⟨wb, 0, none⟩, .int .i64 x), (⟨h + 1 + 1 + 1 + 1, 0, none⟩, .int .i64 0), (⟨h + 1 + 1 + 1 + 1, 1, none⟩, .int .i64 1), (⟨h + 1 + 1 + 1 + 1, 2, none⟩, .int .i64 1),
   (⟨h + 1 + 1 + 1 + 1 + 1, 0, none⟩, .int .i64 2), (⟨h + 1 + 1 + 1 + 1 + 1, 1, none⟩, sl wb 1), (⟨h + 1 + 1 + 1 + 1 + 1, 2, none⟩, zS), (⟨h + 1 + 1 + 1 + 1 + 1, 3, none⟩, sl (h + 1 + 1 + 1 + 1) 1), (⟨h + 1 + 1 + 1 + 1 + 1, 4, none⟩, zI), (⟨h + 1 + 1 + 1 + 1 + 1, 5, none⟩, zS), (⟨h + 1 + 1 + 1 + 1 + 1, 6, none⟩, zS), (⟨h + 1 + 1 + 1 + 1 + 1, 7, none⟩, zS),
   (⟨h + 1 + 1 + 1 + 1 + 1 + 1, 0, none⟩, .int .i64 0), (⟨h + 1 + 1 + 1 + 1 + 1 + 1, 1, none⟩, sl (h + 1 + 1) 2), (⟨h + 1 + 1 + 1 + 1 + 1 + 1, 2, none⟩, .int .i64 0), (⟨h + 1 + 1 + 1 + 1 + 1 + 1, 3, none⟩, sl (h + 1 + 1 + 1 + 1 + 1) 2)]
def TwoAt (w : World) (h : Nat) (m0 : Int) (wb : Nat) (x : Int) : Prop := ∀ p ∈ twoCells h m0 wb x, w.cell? p.1 = some p.2
theorem TwoAt.below {w w' : World} {h : Nat} {m0 : Int} {wb : Nat} {x : Int} (g : TwoAt w h m0 wb x) (hb : Below w.heap.size w w') : TwoAt w' h m0 wb x := fun p hp => (hb.cell (World.block_lt_of_cell? w _ (g p hp))).trans (g p hp)

set_option maxHeartbeats 2000000 in
theorem two_at (w : World) : Calls Try.prog 52 #[] w fun e w' => e = .returned (.slice (some ⟨w.heap.size + 1 + 1 + 1 + 1 + 1 + 1, 0, none⟩) 2 2) ∧ TwoAt w' w.heap.size 1 (w.heap.size + 1 + 1 + 1) 0 ∧ Below w.heap.size w w' ∧ w'.heap.size = w.heap.size + 7 ∧ ∀ b i, w.heap.size ≤ b → b < w'.heap.size → w'.frozen? ⟨b, i, none⟩ = false := by
  go_enter Try.func52, Try.ntmps52
  go_wp2_with fail
  go_ret
  refine ⟨rfl, fun p hp => ?_, by go_grown, by simp, fun b i h1 h2 => ?_⟩
  · simp only [twoCells, List.mem_cons, List.mem_nil_iff, or_false] at hp
    rcases hp with rfl | rfl | rfl | rfl | rfl | rfl | rfl | rfl | rfl | rfl | rfl | rfl | rfl | rfl | rfl | rfl | rfl | rfl | rfl | rfl | rfl | rfl | rfl | rfl | rfl | rfl | rfl | rfl <;> (simp only [sl, zI, zS]; go_cell)
  · simp only [frozen?_alloc_cells]
    have : w.heap[b]? = none := by simp; omega
    simp [World.frozen?, this]

theorem two_has {w : World} {h : Nat} {m0 : Int} {wb : Nat} {x : Int} (g : TwoAt w h m0 wb x) : Has w (.slice (some ⟨h + 1 + 1 + 1 + 1 + 1 + 1, 0, none⟩) 2 2) (dTab (twoT m0 x)) := by
  have c := fun (b o : Nat) (v : Value) (hm : ((⟨b, o, none⟩ : Addr), v) ∈ twoCells h m0 wb x) => g _ hm
  have lt : ∀ (b o : Nat) (v : Value), ((⟨b, o, none⟩ : Addr), v) ∈ twoCells h m0 wb x → b < w.heap.size := fun b o v hm => World.block_lt_of_cell? w _ (g _ hm)
  have sends : Has w (sl h 1) (dLinks [(1, 1)]) := has_block (xs := [((1 : Int), (1 : Int))].map fun p : Int × Int => [dI p.1, dI p.2]) [[.int .i64 1, .int .i64 1]] rfl (by simp) (lt h 0 (.int .i64 1) (by simp [twoCells, zS, zI, sl])) (by simp) (by simp)
    (fun i cs hi j cv hj => by
      match i, hi with
      | 0, hi => simp at hi; subst hi
                 match j, hj with
                 | 0, hj => simp at hj; subst hj; exact c _ _ _ (by simp [twoCells, zS, zI, sl])
                 | 1, hj => simp at hj; subst hj; exact c _ _ _ (by simp [twoCells, zS, zI, sl])
                 | j + 2, hj => simp at hj
      | i + 1, hi => simp at hi)
    (fun i cs ds hi hd => by
      match i, hi, hd with
      | 0, hi, hd => simp at hi hd; subst hi hd; exact .mk (has_int _ _ _ _) (.mk (has_int _ _ _ _) (hasL_nil _ _ _))
      | i + 1, hi, hd => simp at hi)
  have picks : Has w (sl (h + 1) 1) (dPicks [⟨1, [(1, 1)]⟩]) := has_block (xs := [(⟨1, [(1, 1)]⟩ : Pk)].map Pk.d) [[.int .i64 1, sl h 1]] rfl (by simp) (lt (h + 1) 0 (.int .i64 1) (by simp [twoCells, zS, zI, sl])) (by simp) (by simp [Pk.d])
    (fun i cs hi j cv hj => by
      match i, hi with
      | 0, hi => simp at hi; subst hi
                 match j, hj with
                 | 0, hj => simp at hj; subst hj; exact c _ _ _ (by simp [twoCells, zS, zI, sl])
                 | 1, hj => simp at hj; subst hj; exact c _ _ _ (by simp [twoCells, zS, zI, sl])
                 | j + 2, hj => simp at hj
      | i + 1, hi => simp at hi)
    (fun i cs ds hi hd => by
      match i, hi, hd with
      | 0, hi, hd => simp at hi hd; subst hi hd; exact .mk (has_int _ _ _ _) (.mk sends (hasL_nil _ _ _))
      | i + 1, hi, hd => simp at hi)
  have waits : Has w (sl wb 1) (dInts [x]) := has_block (xs := [x].map fun a => [dI a]) [[.int .i64 x]] rfl (by simp) (lt wb 0 (.int .i64 x) (by simp [twoCells, zS, zI, sl])) (by simp) (by simp)
    (fun i cs hi j cv hj => by
      match i, hi with
      | 0, hi => simp at hi; subst hi
                 match j, hj with
                 | 0, hj => simp at hj; subst hj; exact c _ _ _ (by simp [twoCells, zS, zI, sl])
                 | j + 1, hj => simp at hj
      | i + 1, hi => simp at hi)
    (fun i cs ds hi hd => by
      match i, hi, hd with
      | 0, hi, hd => simp at hi hd; subst hi hd; exact .mk (has_int _ _ _ _) (hasL_nil _ _ _)
      | i + 1, hi, hd => simp at hi)
  have takes : Has w (sl (h + 1 + 1 + 1 + 1) 1) (dTakes [⟨0, 1, 1⟩]) := has_block (xs := [(⟨0, 1, 1⟩ : Tk)].map Tk.d) [[.int .i64 0, .int .i64 1, .int .i64 1]] rfl (by simp) (lt (h + 1 + 1 + 1 + 1) 0 (.int .i64 0) (by simp [twoCells, zS, zI, sl])) (by simp) (by simp [Tk.d])
    (fun i cs hi j cv hj => by
      match i, hi with
      | 0, hi => simp at hi; subst hi
                 match j, hj with
                 | 0, hj => simp at hj; subst hj; exact c _ _ _ (by simp [twoCells, zS, zI, sl])
                 | 1, hj => simp at hj; subst hj; exact c _ _ _ (by simp [twoCells, zS, zI, sl])
                 | 2, hj => simp at hj; subst hj; exact c _ _ _ (by simp [twoCells, zS, zI, sl])
                 | j + 3, hj => simp at hj
      | i + 1, hi => simp at hi)
    (fun i cs ds hi hd => by
      match i, hi, hd with
      | 0, hi, hd => simp at hi hd; subst hi hd; exact .mk (has_int _ _ _ _) (.mk (has_int _ _ _ _) (.mk (has_int _ _ _ _) (hasL_nil _ _ _)))
      | i + 1, hi, hd => simp at hi)
  have nil1 : Has w zS (dInts []) := .nil _ _ _ _ _
  have nil2 : Has w zS (dPicks []) := .nil _ _ _ _ _
  have nil3 : Has w zS (dTakes []) := .nil _ _ _ _ _
  have st0 : Has w (sl (h + 1 + 1) 2) (dStates [⟨m0, [], [⟨1, [(1, 1)]⟩], []⟩, ⟨0, [], [], []⟩]) := has_block (xs := [(⟨m0, [], [⟨1, [(1, 1)]⟩], []⟩ : St), ⟨0, [], [], []⟩].map St.d) [[.int .i64 m0, zS, sl (h + 1) 1, zS], [zI, zS, zS, zS]] rfl (by simp) (lt (h + 1 + 1) 0 (.int .i64 m0) (by simp [twoCells, zS, zI, sl])) (by simp) (by simp [St.d])
    (fun i cs hi j cv hj => by
      match i, hi with
      | 0, hi => simp at hi; subst hi
                 match j, hj with
                 | 0, hj => simp at hj; subst hj; exact c _ _ _ (by simp [twoCells, zS, zI, sl])
                 | 1, hj => simp at hj; subst hj; exact c _ _ _ (by simp [twoCells, zS, zI, sl])
                 | 2, hj => simp at hj; subst hj; exact c _ _ _ (by simp [twoCells, zS, zI, sl])
                 | 3, hj => simp at hj; subst hj; exact c _ _ _ (by simp [twoCells, zS, zI, sl])
                 | j + 4, hj => simp at hj
      | 1, hi => simp at hi; subst hi
                 match j, hj with
                 | 0, hj => simp at hj; subst hj; exact c _ _ _ (by simp [twoCells, zS, zI, sl])
                 | 1, hj => simp at hj; subst hj; exact c _ _ _ (by simp [twoCells, zS, zI, sl])
                 | 2, hj => simp at hj; subst hj; exact c _ _ _ (by simp [twoCells, zS, zI, sl])
                 | 3, hj => simp at hj; subst hj; exact c _ _ _ (by simp [twoCells, zS, zI, sl])
                 | j + 4, hj => simp at hj
      | i + 2, hi => simp at hi)
    (fun i cs ds hi hd => by
      match i, hi, hd with
      | 0, hi, hd => simp at hi hd; subst hi hd; exact st_hasL (s := ⟨m0, [], [⟨1, [(1, 1)]⟩], []⟩) nil1 picks nil3
      | 1, hi, hd => simp at hi hd; subst hi hd; exact st_hasL (s := ⟨0, [], [], []⟩) nil1 nil2 nil3
      | i + 2, hi, hd => simp at hi)
  have st1 : Has w (sl (h + 1 + 1 + 1 + 1 + 1) 2) (dStates [⟨2, [x], [], [⟨0, 1, 1⟩]⟩, ⟨0, [], [], []⟩]) := has_block (xs := [(⟨2, [x], [], [⟨0, 1, 1⟩]⟩ : St), ⟨0, [], [], []⟩].map St.d) [[.int .i64 2, sl wb 1, zS, sl (h + 1 + 1 + 1 + 1) 1], [zI, zS, zS, zS]] rfl (by simp) (lt (h + 1 + 1 + 1 + 1 + 1) 0 (.int .i64 2) (by simp [twoCells, zS, zI, sl])) (by simp) (by simp [St.d])
    (fun i cs hi j cv hj => by
      match i, hi with
      | 0, hi => simp at hi; subst hi
                 match j, hj with
                 | 0, hj => simp at hj; subst hj; exact c _ _ _ (by simp [twoCells, zS, zI, sl])
                 | 1, hj => simp at hj; subst hj; exact c _ _ _ (by simp [twoCells, zS, zI, sl])
                 | 2, hj => simp at hj; subst hj; exact c _ _ _ (by simp [twoCells, zS, zI, sl])
                 | 3, hj => simp at hj; subst hj; exact c _ _ _ (by simp [twoCells, zS, zI, sl])
                 | j + 4, hj => simp at hj
      | 1, hi => simp at hi; subst hi
                 match j, hj with
                 | 0, hj => simp at hj; subst hj; exact c _ _ _ (by simp [twoCells, zS, zI, sl])
                 | 1, hj => simp at hj; subst hj; exact c _ _ _ (by simp [twoCells, zS, zI, sl])
                 | 2, hj => simp at hj; subst hj; exact c _ _ _ (by simp [twoCells, zS, zI, sl])
                 | 3, hj => simp at hj; subst hj; exact c _ _ _ (by simp [twoCells, zS, zI, sl])
                 | j + 4, hj => simp at hj
      | i + 2, hi => simp at hi)
    (fun i cs ds hi hd => by
      match i, hi, hd with
      | 0, hi, hd => simp at hi hd; subst hi hd; exact st_hasL (s := ⟨2, [x], [], [⟨0, 1, 1⟩]⟩) waits nil2 takes
      | 1, hi, hd => simp at hi hd; subst hi hd; exact st_hasL (s := ⟨0, [], [], []⟩) nil1 nil2 nil3
      | i + 2, hi, hd => simp at hi)
  exact has_block (xs := (twoT m0 x).map Nd.d) [[.int .i64 0, sl (h + 1 + 1) 2], [.int .i64 0, sl (h + 1 + 1 + 1 + 1 + 1) 2]] rfl (by simp [twoT]) (lt (h + 1 + 1 + 1 + 1 + 1 + 1) 0 (.int .i64 0) (by simp [twoCells, zS, zI, sl])) (by simp [twoT]) (by simp [twoT, Nd.d])
    (fun i cs hi j cv hj => by
      match i, hi with
      | 0, hi => simp at hi; subst hi
                 match j, hj with
                 | 0, hj => simp at hj; subst hj; exact c _ _ _ (by simp [twoCells, zS, zI, sl])
                 | 1, hj => simp at hj; subst hj; exact c _ _ _ (by simp [twoCells, zS, zI, sl])
                 | j + 2, hj => simp at hj
      | 1, hi => simp at hi; subst hi
                 match j, hj with
                 | 0, hj => simp at hj; subst hj; exact c _ _ _ (by simp [twoCells, zS, zI, sl])
                 | 1, hj => simp at hj; subst hj; exact c _ _ _ (by simp [twoCells, zS, zI, sl])
                 | j + 2, hj => simp at hj
      | i + 2, hi => simp at hi)
    (fun i cs ds hi hd => by
      match i, hi, hd with
      | 0, hi, hd => simp [twoT] at hi hd; subst hi hd; exact .mk (has_int _ _ _ _) (.mk st0 (hasL_nil _ _ _))
      | 1, hi, hd => simp [twoT] at hi hd; subst hi hd; exact .mk (has_int _ _ _ _) (.mk st1 (hasL_nil _ _ _))
      | i + 2, hi, hd => simp at hi)

theorem rightF2 : RightG 2 F2 := by
  refine ⟨by omega, by omega, by decide, rg_of (by decide) (by decide) (by decide) (by decide), fun y hy => ?_⟩
  have : y = 0 ∨ y = 1 := by omega
  rcases this with rfl | rfl
  · exact ⟨0, rfl⟩
  · exact ⟨1, 0, rfl, by decide⟩
theorem zeroOK (L : Lks) (n : Int) (all : List St) : PlaceOK L ⟨⟨0, [], [], []⟩, n, all⟩ :=
  ⟨⟨Int.le_refl _, by show (0 : Int) ≤ 2; decide⟩, ⟨by simp, fun i x h => by simp at h⟩, ⟨by simp, by simp, fun i x h => by simp at h⟩, fun i x h => by simp at h⟩
theorem twoSmall (m0 x : Int) : SmallTab (twoT m0 x) := by
  refine ⟨by simp [twoT], fun y hy => ?_⟩
  simp [twoT] at hy
  rcases hy with rfl | rfl
  · refine ⟨by simp, fun s hs => ?_⟩
    simp at hs
    rcases hs with rfl | rfl <;> simp [SmallSt]
  · refine ⟨by simp, fun s hs => ?_⟩
    simp at hs
    rcases hs with rfl | rfl <;> simp [SmallSt]
theorem twoOK : TabOK 2 F2 (twoT 1 0) := by
  refine ⟨rightF2, rfl, fun n x hx => ?_⟩
  match n, hx with
  | 0, hx =>
    simp [twoT] at hx; subst hx
    refine ⟨by simp, ⟨by simp, by simp⟩, fun t ht => ?_, fun t ht => ?_⟩
    · simp at ht
      rcases ht with rfl | rfl
      · refine ⟨⟨by decide, by decide⟩, ⟨by simp, fun i x h => by simp at h⟩, ⟨by simp, by simp, fun i p h => ?_⟩, fun i x h => by simp at h⟩
        match i, h with
        | 0, h =>
          simp at h; subst h
          refine ⟨⟨by simp, by simp⟩, by simp, fun j q hq => ?_⟩
          match j, hq with
          | 0, hq => simp at hq; subst hq; exact ⟨by decide, by decide, by decide⟩
          | j + 1, hq => simp at hq
        | i + 1, h => simp at h
      · exact zeroOK _ _ _
    · simp at ht
      rcases ht with rfl | rfl <;> (intro i u h; simp at h)
  | 1, hx =>
    simp [twoT] at hx; subst hx
    refine ⟨by simp, ⟨by simp, by simp⟩, fun t ht => ?_, fun t ht => ?_⟩
    · simp at ht
      rcases ht with rfl | rfl
      · refine ⟨⟨by decide, by decide⟩, ⟨by simp, fun i x h => ?_⟩, ⟨by simp, by simp, fun i p h => by simp at h⟩, fun i u h => ?_⟩
        · match i, h with
          | 0, h => simp at h; subst h; exact ⟨by decide, fun u h => by omega⟩
          | i + 1, h => simp at h
        · match i, h with
          | 0, h => simp at h; subst h; exact ⟨⟨by decide, by decide, by decide⟩, ⟨by simp, by simp⟩, fun j u hj => by omega⟩
          | i + 1, h => simp at h
      · exact zeroOK _ _ _
    · simp at ht
      rcases ht with rfl | rfl
      · intro i u h j y hy hne
        match i, h with
        | 0, h =>
          simp at h; subst h
          match j, hy with
          | 0, hy => simp at hy; subst hy; exact absurd rfl hne
          | j + 1, hy => simp at hy
        | i + 1, h => simp at h
      · intro i u h; simp at h
  | n + 2, hx => simp [twoT] at hx
theorem badNo : ¬ TabOK 2 F2 (twoT 1 1) := fun h => by
  have := (h.2.2 1 _ rfl).2.2.1 ⟨2, [1], [], [⟨0, 1, 1⟩]⟩ (by simp)
  have := (this.2.1.2 0 1 rfl).1
  exact absurd this (by decide)
theorem idleNo : ¬ TabOK 2 F2 (twoT 0 0) := fun h => by
  have := (h.2.2 0 _ rfl).2.2.1 ⟨0, [], [⟨1, [(1, 1)]⟩], []⟩ (by simp)
  have := this.2.2.1.2.1 (by simp)
  simp at this
theorem threeNo (L : Lks) (m0 x : Int) : ¬ TabOK 3 L (twoT m0 x) := fun h => by have := h.2.1; simp [twoT] at this
theorem nilNo : ¬ TabOK 0 [] [] := fun h => no0 h.1
end Go.Proofs.Ytgoioibfecgopaa
