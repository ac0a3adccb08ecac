/- Texts put together. -/
import Derived.Test.YtlhclnhdcenkhaaMq00
import Derived.Test.YtlhclnhdcenkhaaMq01
import Derived.Lib.SmallJoins
import Derived.Deep.WholeRow
import Derived.BigRegion
import Derived.Deep.RegionHeld3
import Derived.BigQuiet
import Derived.MapKept
import Derived.Carry
import Derived.Deep.CutRange
namespace Go.Proofs.Ytlhclnhdcenkhaa
open Go.RowKit Go.PlainAid Go.ChangeShapes Go.WideShapes Go.Lib Go.Deep
set_option maxRecDepth 100000 in
theorem row_of_trod {H : Type} {enc : TypeId × Value → H} {W : World} {α : Type} {f : α → List D} {t e : TypeId} {k : Nat} (ht : Try.prog.underlying t = some (.slice e)) (hc : Try.prog.cellsOf e = k) (hk : 0 < k)
    (rd : ∀ (m : Nat) (cs : List Value) (y : DataW H × List MemPlace), DataW.trod enc Try.prog W 0 (fun _ => true) true m e cs = some y → ∃ x : α, HasL W cs (f x) ∧ (f x).length = k)
    {v : Value} {n : Nat} {y : DataW H × List MemPlace} (hd : DataW.trod enc Try.prog W 0 (fun _ => true) true n t [v] = some y) : ∃ xs : List α, Has W v (.row k (xs.map f)) := by
  rcases open_slice ht hd with ⟨h, _⟩ | ⟨a, len, cap, m, n', _, _, h, _, hlc, _, hm, _, hi⟩
  · simp at h
    subst h
    exact ⟨[], .nil _ _ _ _ _⟩
  · simp at h hm
    subst h hm
    rw [hc] at hi
    by_cases h0 : len = 0
    · subst h0; exact ⟨[], .nil _ _ _ _ _⟩
    · have hex : ∀ i : Nat, ∃ q : List Value × α, i < m → (∀ j, j < k → W.cell? (a.add (i * k + j)) = q.1[j]?) ∧ HasL W q.1 (f q.2) ∧ (f q.2).length = k := by
        intro i
        by_cases him : i < m
        · obtain ⟨cs', hcs, ht'⟩ := hi i him
          obtain ⟨_, hcl, hat⟩ := World.cells?_some hcs
          obtain ⟨x, hx, hl⟩ := rd _ _ _ ht'
          refine ⟨(cs', x), fun _ => ⟨fun j hj => ?_, hx, hl⟩⟩
          have := hat j hj
          rw [Go.Deep.add_add] at this
          exact this
        · obtain ⟨cs', hcs, ht'⟩ := hi 0 (by omega)
          obtain ⟨x, hx, hl⟩ := rd _ _ _ ht'
          exact ⟨(cs', x), fun h => absurd h him⟩
      obtain ⟨q, hq⟩ := Classical.axiomOfChoice hex
      obtain ⟨b, off, spot⟩ := a
      have hlen : ∀ i, i < m → (q i).1.length = k := fun i hi => by rw [(hq i hi).2.1.1]; exact (hq i hi).2.2
      have hsome : ∀ i j, i < m → j < k → ∃ c, (q i).1[j]? = some c ∧ W.cell? ((⟨b, off, spot⟩ : Addr).add (i * k + j)) = some c := fun i j hi hj => by
        obtain ⟨c, hc'⟩ := some_of_lt (l := (q i).1) (i := j) (by rw [hlen i hi]; exact hj)
        exact ⟨c, hc', by rw [(hq i hi).1 j hj]; exact hc'⟩
      have hspot : spot = none := by
        obtain ⟨c, _, hc'⟩ := hsome 0 0 (by omega) hk
        simpa [Addr.add] using World.cell?_spot hc'
      subst hspot
      refine ⟨(List.range len).map fun i => (q i).2, ?_⟩
      have e : len = (((List.range len).map fun i => (q i).2).map f).length := by simp
      have hget : ∀ (i : Nat) (ds : List D), (((List.range len).map fun i => (q i).2).map f)[i]? = some ds → i < len ∧ ds = f (q i).2 := fun i ds h => by
        have hil := lt_of_some h
        simp at hil
        refine ⟨hil, ?_⟩
        simp [List.getElem?_range hil] at h
        exact h.symm
      have := Holds.row (S := False) All W b off m k (((List.range len).map fun i => (q i).2).map f) (fun i j => (q i).1.getD j (.bool true)) (fun _ _ => All) (by omega) (by
          obtain ⟨c, _, hc'⟩ := hsome 0 0 (by omega) hk
          have := World.block_lt_of_cell? W _ hc'
          simpa [Addr.add] using this) (by omega) trivial (fun i ds h => by rw [(hget i ds h).2]; exact (hq i (by have := (hget i ds h).1; omega)).2.2)
        (fun i j hi hj => by
          rw [← e] at hi
          obtain ⟨c, h1, h2⟩ := hsome i j (by omega) hj
          rw [Go.WideShapes.add_plain] at h2
          rw [Nat.add_assoc, h2]
          simp [List.getD, h1])
        (fun i j ds d h1 h2 => by
          obtain ⟨hil, rfl⟩ := hget i ds h1
          obtain ⟨hl, fp, _, _, g⟩ := (hq i (by omega)).2.1
          have hj := lt_of_some h2
          obtain ⟨c, hc'⟩ := some_of_lt (l := (q i).1) (i := j) (by rw [hl]; exact hj)
          have := (g j c d hc' h2).weak
          simpa [List.getD, hc'] using this)
        (fun _ _ _ _ => trivial) (fun s => s.elim) (fun s => s.elim)
      rw [← e] at this
      exact this
end Go.Proofs.Ytlhclnhdcenkhaa
namespace Go.Proofs.Ytlhclnhdcenkhaa
/-- An application: how many nodes, links, table, first in first out. -/
structure Ap where
 n : Int
 l : Lks
 t : Tab
 ff : Bool
/-- A configuration: states, messages (how many-th, letter), sent. -/
structure Cf where
 states : List Int
 links : List Lks
 sent : List Int
/-- A step. -/
structure Sp where
 kind : Int
 node : Int
 k : Int
 link : Int
 seq : Int
deriving DecidableEq
def Cf.zero : Cf := ⟨[], [], []⟩
/-- The messages of a link may be: they rise, none is beyond what was sent. -/
def MsgsOK : Int → Int → Lks → Prop
 | _, _, [] => True
 | last, q, m :: r => last < m.1 ∧ m.1 ≤ q ∧ 0 ≤ m.2 ∧ m.2 < 4 ∧ MsgsOK m.1 q r
end Go.Proofs.Ytlhclnhdcenkhaa
namespace Go.Proofs.Ytlhclnhdcenkhaa
open Go.RowKit Go.PlainAid
theorem msg_at {w : World} {sa : Option Addr} {sl sc i : Nat} {l : Lks} {p : Int × Int} (h : Has w (.slice sa sl sc) (dLinks l)) (hx : l[i]? = some p) : ∃ b o, sa = some ⟨b, o, none⟩ ∧ w.cell? ⟨b, o + i * 2, none⟩ = some (.int .i64 p.1) ∧ w.cell? ⟨b, o + i * 2 + 1, none⟩ = some (.int .i64 p.2) := by
 obtain ⟨b, off, cap, e, _, _, cs, hcs, hc⟩ := cells_of (f := fun p : Int × Int => [dI p.1, dI p.2]) h hx
 obtain ⟨c, r, rfl, h1, hcs⟩ := hcs.cons
 obtain ⟨c2, r, rfl, h2, hcs⟩ := HasL.cons hcs
 obtain rfl := Holds.val h1
 obtain rfl := Holds.val h2
 simp only [Value.slice.injEq] at e
 exact ⟨b, off, e.1, hc 0 _ rfl, hc 1 _ rfl⟩
end Go.Proofs.Ytlhclnhdcenkhaa
set_option linter.unusedSimpArgs false
namespace Go.Proofs.Ytlhclnhdcenkhaa
open Go.RowKit Go.PlainAid
theorem infoMsg : (Try.prog.info? 38).map (fun i => (i.zero, i.size, i.bytes)) = some (some (.agg #[.int .i64 0, .int .i64 0]), 2, 16) := by kernel_rfl
end Go.Proofs.Ytlhclnhdcenkhaa
set_option linter.unusedSimpArgs false
namespace Go.Proofs.Ytlhclnhdcenkhaa
open Go.RowKit Go.PlainAid
theorem copyRunL {ops : Array Oper} {rest : List Oper} {o : Oper} {a : Act} {R : Exit → Act → World → Prop} {w w' : World} {v dv sv : Value} (hgd : o.guard = none) (d s : Operand) (T T' : TypeId)
  (ho : o.op = .call { callee := .builtin .copy, args := #[d, s], argTypes := #[T, T'] }) (hd : a.eval d = dv) (hs : a.eval s = sv) (hr : (Builtin.copy_ #[T, T'] o.type #[dv, sv]).run Try.prog w = .ok v w')
  (H : wpList Try.prog ops R rest (a.put o.dst v) w') : wpList Try.prog ops R (o :: rest) a w := by
 refine wpList_plain hgd fun K' hK => ?_
 unfold Oper.wp execOp
 simp only [ho, resolve, invoke, builtin, Sem.run_bind, Sem.run_pure, Result.andThen_ok, List.map_toArray, List.map_cons, List.map_nil, hd, hs, hr]
 exact hK _ _ H
theorem run_copy_all {w : World} (T E ty : TypeId) (i : TypeInfo) (ht : Try.prog.underlying T = some (.slice E)) (hi : Try.prog.info? E = some i) (g k sc : Nat) (cur : Array Value) (e : TypeId) (hg : w.heap[g]? = some (.cells cur e (0, 0))) (hcur : cur.size = k * i.size)
  (ad : Option Addr) (cells : List Value) (hl : cells.length = k * i.size) (hnone : ad = none → k = 0) (hnews : ∀ a, ad = some a → ∀ j u, cells[j]? = some u → w.cell? (a.add j) = some u) (h1 : ∀ u ∈ cells, u.oneCell' = true) :
  (Builtin.copy_ #[T, T] ty #[.slice (some ⟨g, 0, none⟩) k k, .slice ad k sc]).run Try.prog w = .ok (goInt k) (w.setRow g cells.toArray) := by
 have h3 := run_storeCells_at Try.prog g 0 e cells 0 cur w hg (by omega) h1
 have e1 : (cur.toList.take (0 + 0) ++ cells ++ cur.toList.drop (0 + 0 + cells.length)).toArray = cells.toArray := by
  have : cur.toList.drop cells.length = [] := List.drop_eq_nil_of_le (by simp; omega)
  simp [this]
 rw [e1] at h3
 cases ad with
 | none =>
  have hk := hnone rfl
  subst hk
  obtain rfl : cells = [] := List.eq_nil_of_length_eq_zero (by omega)
  simp [Builtin.copy_, run_underlying ht, sizeOf, typeInfo, hi, Builtin.lenOf, Builtin.firstCells, h3]
 | some a =>
  have h2 := run_firstCells_some (P := Try.prog) w i.size k a k sc cells hl (hnews a rfl)
  simp [Builtin.copy_, run_underlying ht, sizeOf, typeInfo, hi, Builtin.lenOf, h2, h3]
end Go.Proofs.Ytlhclnhdcenkhaa
set_option linter.unusedSimpArgs false
namespace Go.Proofs.Ytlhclnhdcenkhaa
open Go.RowKit Go.PlainAid
def zI : Value := .int .i64 0
def zS : Value := .slice none 0 0
def sl (b n : Nat) : Value := .slice (some ⟨b, 0, none⟩) n n
def twoCells (h : Nat) (m0 : Int) (wb : Nat) (x : Int) : List (Addr × Value) :=
  [(⟨h, 0, none⟩, .int .i64 1), (⟨h, 1, none⟩, .int .i64 1), (⟨h + 1, 0, none⟩, .int .i64 1), (⟨h + 1, 1, none⟩, sl h 1),
   (⟨h + 1 + 1, 0, none⟩, .int .i64 m0), (⟨h + 1 + 1, 1, none⟩, zS), (⟨h + 1 + 1, 2, none⟩, sl (h + 1) 1), (⟨h + 1 + 1, 3, none⟩, zS), (⟨h + 1 + 1, 4, none⟩, zI), (⟨h + 1 + 1, 5, none⟩, zS), (⟨h + 1 + 1, 6, none⟩, zS), (⟨h + 1 + 1, 7, none⟩, zS),
   (⟨wb, 0, none⟩, .int .i64 x), (⟨h + 1 + 1 + 1 + 1, 0, none⟩, .int .i64 0), (⟨h + 1 + 1 + 1 + 1, 1, none⟩, .int .i64 1), (⟨h + 1 + 1 + 1 + 1, 2, none⟩, .int .i64 1),
   (⟨h + 1 + 1 + 1 + 1 + 1, 0, none⟩, .int .i64 2), (⟨h + 1 + 1 + 1 + 1 + 1, 1, none⟩, sl wb 1), (⟨h + 1 + 1 + 1 + 1 + 1, 2, none⟩, zS), (⟨h + 1 + 1 + 1 + 1 + 1, 3, none⟩, sl (h + 1 + 1 + 1 + 1) 1), (⟨h + 1 + 1 + 1 + 1 + 1, 4, none⟩, zI), (⟨h + 1 + 1 + 1 + 1 + 1, 5, none⟩, zS), (⟨h + 1 + 1 + 1 + 1 + 1, 6, none⟩, zS), (⟨h + 1 + 1 + 1 + 1 + 1, 7, none⟩, zS),
   (⟨h + 1 + 1 + 1 + 1 + 1 + 1, 0, none⟩, .int .i64 0), (⟨h + 1 + 1 + 1 + 1 + 1 + 1, 1, none⟩, sl (h + 1 + 1) 2), (⟨h + 1 + 1 + 1 + 1 + 1 + 1, 2, none⟩, .int .i64 0), (⟨h + 1 + 1 + 1 + 1 + 1 + 1, 3, none⟩, sl (h + 1 + 1 + 1 + 1 + 1) 2)]
def TwoAt (w : World) (h : Nat) (m0 : Int) (wb : Nat) (x : Int) : Prop := ∀ p ∈ twoCells h m0 wb x, w.cell? p.1 = some p.2
theorem TwoAt.below {w w' : World} {h : Nat} {m0 : Int} {wb : Nat} {x : Int} (g : TwoAt w h m0 wb x) (hb : Below w.heap.size w w') : TwoAt w' h m0 wb x := fun p hp => (hb.cell (World.block_lt_of_cell? w _ (g p hp))).trans (g p hp)
end Go.Proofs.Ytlhclnhdcenkhaa
set_option linter.unusedSimpArgs false
namespace Go.Proofs.Ytlhclnhdcenkhaa
open Go.RowKit Go.PlainAid
theorem twoCells_block {h : Nat} {m0 : Int} {wb : Nat} {x : Int} : ∀ p ∈ twoCells h m0 wb x, (h ≤ p.1.block ∧ p.1.block ≤ h + 6) ∨ p.1.block = wb := by
 intro p hp
 simp only [twoCells, List.mem_cons, List.mem_nil_iff, or_false] at hp
 rcases hp with rfl | rfl | rfl | rfl | rfl | rfl | rfl | rfl | rfl | rfl | rfl | rfl | rfl | rfl | rfl | rfl | rfl | rfl | rfl | rfl | rfl | rfl | rfl | rfl | rfl | rfl | rfl | rfl <;> first | (left; constructor <;> simp <;> omega) | (right; rfl)
theorem TwoAt.far {w : World} {h : Nat} {m0 : Int} {wb : Nat} {x : Int} (g : TwoAt w h m0 wb x) (a : Addr) (u : Value) (h1 : a.block < h ∨ h + 6 < a.block) (h2 : wb ≠ a.block) : TwoAt (w.setCell a u) h m0 wb x := fun p hp => by
 rw [World.cell?_setCell_other _ _ _ _ (by intro e; have := twoCells_block p hp; rw [← e] at this; omega)]
 exact g p hp
structure FixAt (w0 : World) (h1 hb hi gb pb wb : Nat) (ga : Option Addr) (gc : Nat) (ua : Option Addr) (uc : Nat) (wr : World) : Prop where
 bel : Below w0.heap.size w0 wr
 t : TwoAt wr h1 1 (h1 + 1 + 1 + 1) 0
 b : TwoAt wr hb 1 wb 1
 i : TwoAt wr hi 0 (hi + 1 + 1 + 1) 0
 g0 : wr.cell? ⟨gb, 0, none⟩ = some (.int .i64 2)
 g1 : wr.cell? ⟨gb, 1, none⟩ = some (.slice ga 2 gc)
 gl : LinksAt wr (.slice ga 2 gc) F2
 p0 : wr.cell? ⟨pb, 0, none⟩ = some (.int .i64 1)
 p1 : wr.cell? ⟨pb, 1, none⟩ = some (.slice ua 1 uc)
theorem FixAt.below {w0 : World} {h1 hb hi gb pb wb : Nat} {ga : Option Addr} {gc : Nat} {ua : Option Addr} {uc : Nat} {w w' : World} (f : FixAt w0 h1 hb hi gb pb wb ga gc ua uc w) (hb' : Below w.heap.size w w') : FixAt w0 h1 hb hi gb pb wb ga gc ua uc w' := by
 have k := fun (p : Addr) (v : Value) (e : w.cell? p = some v) => (hb'.cell (World.block_lt_of_cell? w _ e)).trans e
 exact ⟨below_step f.bel.size f.bel hb', f.t.below hb', f.b.below hb', f.i.below hb', k _ _ f.g0, k _ _ f.g1, f.gl.below hb', k _ _ f.p0, k _ _ f.p1⟩
end Go.Proofs.Ytlhclnhdcenkhaa
set_option linter.unusedSimpArgs false
namespace Go.Proofs.Ytlhclnhdcenkhaa
open Go.RowKit Go.PlainAid
structure KpS (b1 b2 : Nat) (b o k n1 c1 : Nat) (x m2 : Int) (a2 : Option Addr) (n2 c2 : Nat) (w : World) : Prop where
 s : w.cell? ⟨b1, 1, none⟩ = some (.slice (some ⟨b, o, none⟩) n1 c1) ∧ w.cell? ⟨b2, 0, none⟩ = some (.int .i64 m2) ∧ w.cell? ⟨b2, 1, none⟩ = some (.slice a2 n2 c2) ∧ w.cell? ⟨b, o + k, none⟩ = some (.int .i64 x)
theorem KpS.below {b1 b2 : Nat} {b o k n1 c1 : Nat} {x m2 : Int} {a2 : Option Addr} {n2 c2 : Nat} {w w' : World} (h : KpS b1 b2 b o k n1 c1 x m2 a2 n2 c2 w) (hb : Below w.heap.size w w') : KpS b1 b2 b o k n1 c1 x m2 a2 n2 c2 w' := by
 obtain ⟨h1, h2, h3, h4⟩ := h
 have k := fun (p : Addr) (v : Value) (e : w.cell? p = some v) => (hb.cell (World.block_lt_of_cell? w _ e)).trans e
 exact ⟨k _ _ h1, k _ _ h2, k _ _ h3, k _ _ h4⟩
/-- What the walk of picks needs. -/
structure QkAt (w : World) (bx bg : Nat) (a2 : Option Addr) (c2 : Nat) (l : List Pk) (N : Int) (ga : Option Addr) (gc : Nat) (L : Lks) : Prop where
 f2 : w.cell? ⟨bx, 2, none⟩ = some (.slice a2 l.length c2)
 g0 : w.cell? ⟨bg, 0, none⟩ = some (.int .i64 N)
 g1 : w.cell? ⟨bg, 1, none⟩ = some (.slice ga L.length gc)
 hp : Has w (.slice a2 l.length c2) (dPicks l)
 hl : LinksAt w (.slice ga L.length gc) L
theorem QkAt.below {w w' : World} {bx bg : Nat} {a2 : Option Addr} {c2 : Nat} {l : List Pk} {N : Int} {ga : Option Addr} {gc : Nat} {L : Lks} (h : QkAt w bx bg a2 c2 l N ga gc L) (hb : Below w.heap.size w w') : QkAt w' bx bg a2 c2 l N ga gc L := by
 have k := fun (p : Addr) (v : Value) (e : w.cell? p = some v) => (hb.cell (World.block_lt_of_cell? w _ e)).trans e
 exact ⟨k _ _ h.f2, k _ _ h.g0, k _ _ h.g1, h.hp.later hb, h.hl.below hb⟩
structure QkS (bo bg b o k n1 c1 : Nat) (q1 q2 : Int) (N : Int) (ga : Option Addr) (ll gc : Nat) (L : Lks) (w : World) : Prop where
 s : w.cell? ⟨bo, 1, none⟩ = some (.slice (some ⟨b, o, none⟩) n1 c1) ∧ w.cell? ⟨bg, 0, none⟩ = some (.int .i64 N) ∧ w.cell? ⟨bg, 1, none⟩ = some (.slice ga ll gc) ∧ w.cell? ⟨b, o + k * 2, none⟩ = some (.int .i64 q1) ∧ w.cell? ⟨b, o + k * 2 + 1, none⟩ = some (.int .i64 q2)
 l : LinksAt w (.slice ga ll gc) L
theorem QkS.below {bo bg b o k n1 c1 : Nat} {q1 q2 : Int} {N : Int} {ga : Option Addr} {ll gc : Nat} {L : Lks} {w w' : World} (h : QkS bo bg b o k n1 c1 q1 q2 N ga ll gc L w) (hb : Below w.heap.size w w') : QkS bo bg b o k n1 c1 q1 q2 N ga ll gc L w' := by
 obtain ⟨⟨h1, h2, h3, h4, h5⟩, h6⟩ := h
 have k := fun (p : Addr) (v : Value) (e : w.cell? p = some v) => (hb.cell (World.block_lt_of_cell? w _ e)).trans e
 exact ⟨⟨k _ _ h1, k _ _ h2, k _ _ h3, k _ _ h4, k _ _ h5⟩, h6.below hb⟩
end Go.Proofs.Ytlhclnhdcenkhaa
namespace Go.Proofs.Ytlhclnhdcenkhaa
open Go.RowKit Go.PlainAid
/-- A state that lies in a row. -/
structure EBox (w : World) (b o nx : Nat) (m : Int) (a1 : Option Addr) (n1 c1 : Nat) (a2 : Option Addr) (n2 c2 : Nat) (a3 : Option Addr) (n3 c3 : Nat) (s : St) : Prop where
 e0 : w.cell? ⟨b, o + nx * 4, none⟩ = some (.int .i64 m)
 e1 : w.cell? ⟨b, o + nx * 4 + 1, none⟩ = some (.slice a1 n1 c1)
 e2 : w.cell? ⟨b, o + nx * 4 + 2, none⟩ = some (.slice a2 n2 c2)
 e3 : w.cell? ⟨b, o + nx * 4 + 3, none⟩ = some (.slice a3 n3 c3)
 st : IsSt w s (.agg #[.int .i64 m, .slice a1 n1 c1, .slice a2 n2 c2, .slice a3 n3 c3])
theorem EBox.below {w w' : World} {b o nx : Nat} {m : Int} {a1 : Option Addr} {n1 c1 : Nat} {a2 : Option Addr} {n2 c2 : Nat} {a3 : Option Addr} {n3 c3 : Nat} {s : St} (h : EBox w b o nx m a1 n1 c1 a2 n2 c2 a3 n3 c3 s) (hb : Below w.heap.size w w') : EBox w' b o nx m a1 n1 c1 a2 n2 c2 a3 n3 c3 s := by
 have k := fun (p : Addr) (v : Value) (e : w.cell? p = some v) => (hb.cell (World.block_lt_of_cell? w _ e)).trans e
 exact ⟨k _ _ h.e0, k _ _ h.e1, k _ _ h.e2, k _ _ h.e3, h.st.later hb⟩
end Go.Proofs.Ytlhclnhdcenkhaa
set_option linter.unusedSimpArgs false
namespace Go.Proofs.Ytlhclnhdcenkhaa
open Go.RowKit Go.PlainAid
structure TqAt (w : World) (bx bn bg : Nat) (m : Int) (a1 : Option Addr) (n1 c1 : Nat) (a2 : Option Addr) (n2 c2 : Nat) (a3 : Option Addr) (n3 c3 : Nat) (a4 : Option Addr) (n4 c4 : Nat) (N : Int) (ga : Option Addr) (ll gc : Nat) (s : St) (all : List St) (L : Lks) : Prop where
 x0 : w.cell? ⟨bx, 0, none⟩ = some (.int .i64 m)
 x1 : w.cell? ⟨bx, 1, none⟩ = some (.slice a1 n1 c1)
 x2 : w.cell? ⟨bx, 2, none⟩ = some (.slice a2 n2 c2)
 x3 : w.cell? ⟨bx, 3, none⟩ = some (.slice a3 n3 c3)
 nn : w.cell? ⟨bn, 1, none⟩ = some (.slice a4 n4 c4)
 g0 : w.cell? ⟨bg, 0, none⟩ = some (.int .i64 N)
 g1 : w.cell? ⟨bg, 1, none⟩ = some (.slice ga ll gc)
 ht : Has w (.slice a3 n3 c3) (dTakes s.takes)
 st : IsSt w s (.agg #[.int .i64 m, .slice a1 n1 c1, .slice a2 n2 c2, .slice a3 n3 c3])
 hs : Has w (.slice a4 n4 c4) (dStates all)
 hl : LinksAt w (.slice ga ll gc) L
theorem TqAt.below {w w' : World} {bx bn bg : Nat} {m : Int} {a1 : Option Addr} {n1 c1 : Nat} {a2 : Option Addr} {n2 c2 : Nat} {a3 : Option Addr} {n3 c3 : Nat} {a4 : Option Addr} {n4 c4 : Nat} {N : Int} {ga : Option Addr} {ll gc : Nat} {s : St} {all : List St} {L : Lks}
  (h : TqAt w bx bn bg m a1 n1 c1 a2 n2 c2 a3 n3 c3 a4 n4 c4 N ga ll gc s all L) (hb : Below w.heap.size w w') : TqAt w' bx bn bg m a1 n1 c1 a2 n2 c2 a3 n3 c3 a4 n4 c4 N ga ll gc s all L := by
 have k := fun (p : Addr) (v : Value) (e : w.cell? p = some v) => (hb.cell (World.block_lt_of_cell? w _ e)).trans e
 exact ⟨k _ _ h.x0, k _ _ h.x1, k _ _ h.x2, k _ _ h.x3, k _ _ h.nn, k _ _ h.g0, k _ _ h.g1, h.ht.later hb, h.st.later hb, h.hs.later hb, h.hl.below hb⟩
/-- The take's box. -/
structure TBox (w : World) (x : Nat) (q1 q2 q3 : Int) : Prop where
 y0 : w.cell? ⟨x, 0, none⟩ = some (.int .i64 q1)
 y1 : w.cell? ⟨x, 1, none⟩ = some (.int .i64 q2)
 y2 : w.cell? ⟨x, 2, none⟩ = some (.int .i64 q3)
theorem TBox.below {w w' : World} {x : Nat} {q1 q2 q3 : Int} (h : TBox w x q1 q2 q3) (hb : Below w.heap.size w w') : TBox w' x q1 q2 q3 := by
 have k := fun (p : Addr) (v : Value) (e : w.cell? p = some v) => (hb.cell (World.block_lt_of_cell? w _ e)).trans e
 exact ⟨k _ _ h.y0, k _ _ h.y1, k _ _ h.y2⟩
end Go.Proofs.Ytlhclnhdcenkhaa
set_option linter.unusedSimpArgs false
namespace Go.Proofs.Ytlhclnhdcenkhaa
open Go.RowKit Go.PlainAid
structure RdAt (w : World) (bg : Nat) (v : Value) (M : Tab) (N : Int) (ga : Option Addr) (ll gc : Nat) (L : Lks) : Prop where
 g0 : w.cell? ⟨bg, 0, none⟩ = some (.int .i64 N)
 g1 : w.cell? ⟨bg, 1, none⟩ = some (.slice ga ll gc)
 tab : Has w v (dTab M)
 hl : LinksAt w (.slice ga ll gc) L
theorem RdAt.below {w w' : World} {bg : Nat} {v : Value} {M : Tab} {N : Int} {ga : Option Addr} {ll gc : Nat} {L : Lks} (h : RdAt w bg v M N ga ll gc L) (hb : Below w.heap.size w w') : RdAt w' bg v M N ga ll gc L := by
 have k := fun (p : Addr) (v : Value) (e : w.cell? p = some v) => (hb.cell (World.block_lt_of_cell? w _ e)).trans e
 exact ⟨k _ _ h.g0, k _ _ h.g1, h.tab.later hb, h.hl.below hb⟩
structure SBox (w : World) (x : Nat) (m : Int) (a1 : Option Addr) (n1 c1 : Nat) (a2 : Option Addr) (n2 c2 : Nat) (a3 : Option Addr) (n3 c3 : Nat) (s : St) : Prop where
 y0 : w.cell? ⟨x, 0, none⟩ = some (.int .i64 m)
 y1 : w.cell? ⟨x, 1, none⟩ = some (.slice a1 n1 c1)
 y2 : w.cell? ⟨x, 2, none⟩ = some (.slice a2 n2 c2)
 y3 : w.cell? ⟨x, 3, none⟩ = some (.slice a3 n3 c3)
 st : IsSt w s (.agg #[.int .i64 m, .slice a1 n1 c1, .slice a2 n2 c2, .slice a3 n3 c3])
theorem SBox.below {w w' : World} {x : Nat} {m : Int} {a1 : Option Addr} {n1 c1 : Nat} {a2 : Option Addr} {n2 c2 : Nat} {a3 : Option Addr} {n3 c3 : Nat} {s : St} (h : SBox w x m a1 n1 c1 a2 n2 c2 a3 n3 c3 s) (hb : Below w.heap.size w w') : SBox w' x m a1 n1 c1 a2 n2 c2 a3 n3 c3 s := by
 have k := fun (p : Addr) (v : Value) (e : w.cell? p = some v) => (hb.cell (World.block_lt_of_cell? w _ e)).trans e
 exact ⟨k _ _ h.y0, k _ _ h.y1, k _ _ h.y2, k _ _ h.y3, h.st.later hb⟩
/-- A node's two cells. -/
structure NBox (w : World) (b o : Nat) (q : Int) (a4 : Option Addr) (n4 c4 : Nat) (x : Nd) : Prop where
 z0 : w.cell? ⟨b, o, none⟩ = some (.int .i64 q)
 z1 : w.cell? ⟨b, o + 1, none⟩ = some (.slice a4 n4 c4)
 hx : HasL w [.int .i64 q, .slice a4 n4 c4] x.d
 hs : Has w (.slice a4 n4 c4) (dStates x.states)
theorem NBox.below {w w' : World} {b o : Nat} {q : Int} {a4 : Option Addr} {n4 c4 : Nat} {x : Nd} (h : NBox w b o q a4 n4 c4 x) (hb : Below w.heap.size w w') : NBox w' b o q a4 n4 c4 x := by
 have k := fun (p : Addr) (v : Value) (e : w.cell? p = some v) => (hb.cell (World.block_lt_of_cell? w _ e)).trans e
 exact ⟨k _ _ h.z0, k _ _ h.z1, h.hx.later hb, h.hs.later hb⟩
end Go.Proofs.Ytlhclnhdcenkhaa
set_option linter.unusedSimpArgs false
namespace Go.Proofs.Ytlhclnhdcenkhaa
open Go.RowKit Go.PlainAid
theorem holdsL_of {P : Nat → Prop} {w : World} {cs : List Value} {ds : List D} (Q : Nat → Nat → Prop) (hl : cs.length = ds.length) (h : ∀ j c d, cs[j]? = some c → ds[j]? = some d → Holds True (Q j) w c d) (hd : ∀ i j k, i < j → Q i k → ¬ Q j k) (hq : ∀ j k, Q j k → P k) : HoldsL True P w cs ds := by
 refine ⟨hl, Q, hq, fun _ j j' k a b => ?_, h⟩
 rcases Nat.lt_trichotomy j j' with e | e | e
 ·exact absurd b (hd j j' k e a)
 ·exact e
 ·exact absurd a (hd j' j k e b)
end Go.Proofs.Ytlhclnhdcenkhaa
set_option linter.unusedSimpArgs false
namespace Go.Proofs.Ytlhclnhdcenkhaa
open Go.RowKit Go.PlainAid
end Go.Proofs.Ytlhclnhdcenkhaa
set_option linter.unusedSimpArgs false
namespace Go.Proofs.Ytlhclnhdcenkhaa
open Go.RowKit Go.PlainAid
end Go.Proofs.Ytlhclnhdcenkhaa
set_option linter.unusedSimpArgs false
namespace Go.Proofs.Ytlhclnhdcenkhaa
open Go.RowKit Go.PlainAid
end Go.Proofs.Ytlhclnhdcenkhaa
set_option linter.unusedSimpArgs false
namespace Go.Proofs.Ytlhclnhdcenkhaa
open Go.RowKit Go.PlainAid
def dLls (ls : List Lks) : D := .row 1 (ls.map fun m => [dLinks m])
def Cf.d (c : Cf) : List D := [dInts c.states, dLls c.links, dInts c.sent]
/-- One link's messages, to read. -/
theorem lls_at {w : World} {a : Option Addr} {k cap i : Nat} {ls : List Lks} {m : Lks} (h : Has w (.slice a k cap) (dLls ls)) (hm : ls[i]? = some m) :
  ∃ b o ma mc, a = some ⟨b, o, none⟩ ∧ b < w.heap.size ∧ k = ls.length ∧ w.cell? ⟨b, o + i, none⟩ = some (.slice ma m.length mc) ∧ Has w (.slice ma m.length mc) (dLinks m) := by
 obtain ⟨b, o, c, e, h1, h2, cs, hcs, hc⟩ := cells_of (f := fun m => [dLinks m]) h hm
 obtain ⟨v, r, rfl, hv, hr⟩ := hcs.cons
 obtain ⟨ma, mc, rfl⟩ := slice_of hv
 simp only [Value.slice.injEq] at e
 obtain ⟨rfl, rfl, rfl⟩ := e
 have := hc 0 _ rfl
 rw [Nat.mul_one, Nat.add_zero] at this
 exact ⟨b, o, ma, mc, rfl, h1, rfl, this, hv⟩
/-- One link's messages, to be written. -/
theorem lls_focus {P : Nat → Prop} {w : World} {a : Option Addr} {k cap i : Nat} {ls : List Lks} {m : Lks} (h : Holds True P w (.slice a k cap) (dLls ls)) (hm : ls[i]? = some m) :
  ∃ (g : Nat) (Q : Nat → Prop) (ma : Option Addr) (mc : Nat), a = some ⟨g, 0, none⟩ ∧ k = ls.length ∧ P g ∧ g < w.heap.size ∧ w.cell? ⟨g, i, none⟩ = some (.slice ma m.length mc) ∧ OpenRow w g cap 1 ∧ (∀ q, Q q → P q) ∧ ¬ Q g ∧ Holds True Q w (.slice ma m.length mc) (dLinks m) ∧
   ∀ (w2 : World) (v : Value) (m' : Lks) (Q' : Nat → Prop), SameOn (fun q => P q ∧ ¬ Q q) w w2 → Holds True Q' w2 v (dLinks m') → (∀ q, Q' q → q ≠ g ∧ (Q q ∨ ¬ P q)) → Holds True (fun q => P q ∨ Q' q) (w2.setCell ⟨g, i, none⟩ v) (.slice a k cap) (dLls (ls.set i m')) := by
 obtain ⟨b, o, _, _, rfl, _, hk, _, _⟩ := lls_at h.weak hm
 obtain ⟨Q, c, rfl, hP, hO, hb, hc, hQP, hQb, hH, hF⟩ := h.focus (i := i) (j := 0) (ds := [dLinks m]) (d := dLinks m) (by rw [List.getElem?_map, hm]; rfl) rfl
 obtain ⟨ma, mc, rfl⟩ := slice_of hH.weak
 rw [Nat.mul_one, Nat.add_zero] at hc hF
 refine ⟨b, Q, ma, mc, rfl, hk, hP, hb, hc, hO, hQP, hQb, hH, fun w2 v m' Q' hs hn hq => ?_⟩
 have e : (ls.set i m').map (fun m => [dLinks m]) = (ls.map fun m => [dLinks m]).set i ([dLinks m].set 0 (dLinks m')) := by rw [List.map_set]; rfl
 unfold dLls
 rw [e]
 refine hF (w2.setCell ⟨b, i, none⟩ v) v (dLinks m') Q' ((hs.sub (fun q hq => ⟨hq.1, hq.2.2⟩)).set _ _ (fun h => h.2.1 rfl)) ?_ (hn.same ((SameOn.refl _ _).set _ _ (fun h => (hq _ h).1 rfl))) hq
 obtain ⟨u, hu⟩ : ∃ u, u = w.heap[b]? := ⟨_, rfl⟩
 have e2 := hs.2 b ⟨hP, hQb⟩ hb
 obtain ⟨_, cur, e0, hg, _⟩ := hO
 rw [heap_setCell_at (e2.trans hg), heap_setCell_at hg]
/-- A number of a list, to be written. -/
theorem ints_len {S : Prop} {P : Nat → Prop} {w : World} {a : Option Addr} {k cap : Nat} {xs : List Int} (h : Holds S P w (.slice a k cap) (dInts xs)) : k = xs.length := by
 obtain ⟨_, _, e⟩ := Holds.len h
 rw [List.length_map] at e
 simp only [Value.slice.injEq] at e
 exact e.2.1
theorem lls_len {S : Prop} {P : Nat → Prop} {w : World} {a : Option Addr} {k cap : Nat} {xs : List Lks} (h : Holds S P w (.slice a k cap) (dLls xs)) : k = xs.length := by
 obtain ⟨_, _, e⟩ := Holds.len h
 rw [List.length_map] at e
 simp only [Value.slice.injEq] at e
 exact e.2.1
theorem infoMsgs : (Try.prog.info? 57).map (fun i => (i.zero, i.size, i.bytes)) = some (some (.slice none 0 0), 1, 24) := by kernel_rfl
end Go.Proofs.Ytlhclnhdcenkhaa
set_option linter.unusedSimpArgs false
set_option linter.unusedVariables false
namespace Go.Proofs.Ytlhclnhdcenkhaa
open Go.RowKit Go.PlainAid
instance msgsOK_dec : ∀ (m : Lks) (a q : Int), Decidable (MsgsOK a q m)
 | [], _, _ => isTrue trivial
 | x :: r, a, q => by
  have := msgsOK_dec r x.1 q
  unfold MsgsOK
  infer_instance
end Go.Proofs.Ytlhclnhdcenkhaa
set_option linter.unusedSimpArgs false
set_option linter.unusedVariables false
namespace Go.Proofs.Ytlhclnhdcenkhaa
open Go.RowKit Go.PlainAid Go.Maps Go.MapKept
end Go.Proofs.Ytlhclnhdcenkhaa
set_option linter.unusedSimpArgs false
set_option linter.unusedVariables false
namespace Go.Proofs.Ytlhclnhdcenkhaa
open Go.RowKit Go.PlainAid
theorem num_at {w : World} {a : Option Addr} {k cap i : Nat} {xs : List Int} {x : Int} (h : Has w (.slice a k cap) (dInts xs)) (hx : xs[i]? = some x) : ∃ b o, a = some ⟨b, o, none⟩ ∧ w.cell? ⟨b, o + i, none⟩ = some (.int .i64 x) := by
 obtain ⟨b, o, c, e, h1, h2, cs, hcs, hc⟩ := cells_of (f := fun a => [dI a]) h hx
 obtain ⟨v, r, rfl, hv, hr⟩ := hcs.cons
 obtain rfl := Holds.val hv
 simp only [Value.slice.injEq] at e
 have := hc 0 _ rfl
 rw [Nat.mul_one, Nat.add_zero] at this
 exact ⟨b, o, e.1, this⟩
end Go.Proofs.Ytlhclnhdcenkhaa
set_option linter.unusedSimpArgs false
set_option linter.unusedVariables false
namespace Go.Proofs.Ytlhclnhdcenkhaa
open Go.RowKit Go.PlainAid
theorem take_next {α : Type} {xs ys : List α} {j : Nat} {x y : α} (hx : xs[j]? = some x) (hy : ys[j]? = some y) (h : xs.take j = ys.take j) (e : x = y) : xs.take (j + 1) = ys.take (j + 1) := by
 rw [List.take_add_one, List.take_add_one, hx, hy, h, e]
end Go.Proofs.Ytlhclnhdcenkhaa
set_option linter.unusedSimpArgs false
set_option linter.unusedVariables false
namespace Go.Proofs.Ytlhclnhdcenkhaa
open Go.RowKit Go.PlainAid
theorem run_eqMsg (w : World) (a b c d : Int) : (Op.equalIn 10000 38 (.agg #[.int .i64 a, .int .i64 b]) (.agg #[.int .i64 c, .int .i64 d])).run Try.prog w = .ok (a == c && b == d) w := by
 rw [Op.equalIn]
 simp only [Sem.run_bind, run_underlying Try.underlying38, Result.andThen_ok]
 have p0 : ∀ x y : Int, (part 3 #[.int .i64 x, .int .i64 y] 0).run Try.prog w = .ok (.int .i64 x) w := fun x y => by simp [part, isAgg, run_underlying Try.underlying3]
 have p1 : ∀ x y : Int, (part 3 #[.int .i64 x, .int .i64 y] 1).run Try.prog w = .ok (.int .i64 y) w := fun x y => by simp [part, isAgg, run_underlying Try.underlying3]
 have pe : ∀ x y : Int, (Op.equalIn 9999 3 (.int .i64 x) (.int .i64 y)).run Try.prog w = .ok (x == y) w := fun x y => run_equalIn_int w 9998 _ .i64 .i64 x y Try.underlying3
 simp [List.forIn_cons, List.forIn_nil, Sem.run_bind, p0, p1, pe, Result.andThen_ok]
 by_cases h1 : a = c <;> by_cases h2 : b = d <;> simp [h1, h2]
attribute [go_sem] run_eqMsg
end Go.Proofs.Ytlhclnhdcenkhaa
set_option linter.unusedSimpArgs false
set_option linter.unusedVariables false
namespace Go.Proofs.Ytlhclnhdcenkhaa
open Go.RowKit Go.PlainAid
end Go.Proofs.Ytlhclnhdcenkhaa
set_option linter.unusedSimpArgs false
set_option linter.unusedVariables false
namespace Go.Proofs.Ytlhclnhdcenkhaa
open Go.RowKit Go.PlainAid
/-- A row that is written out. -/
theorem holds_new {P : Nat → Prop} {w : World} {vs : List Value} (T : TypeId) {n k : Nat} {xs : List (List D)} (hP : P w.heap.size) (hn : ∀ ds ∈ xs, ds.length = n) (hk : k = xs.length) (h0 : 0 < k) (h : HoldsL False P w vs xs.flatten) :
  Holds False P (w.alloc (.cells vs.toArray T)) (.slice (some ⟨w.heap.size, 0, none⟩) k k) (.row n xs) := by
 subst hk
 have hl : vs.length = xs.length * n := by rw [h.1, flatten_len hn]
 refine .row _ _ w.heap.size 0 xs.length n xs (fun i j => vs.getD (i * n + j) (.bool true)) (fun _ _ => P) h0 (by simp) (Nat.le_refl _) hP (fun i ds hi => hn ds (List.mem_of_getElem? hi)) (fun i j hi hj => ?_) (fun i j ds d h1 h2 => ?_) (fun _ _ _ h => h) (fun s => s.elim) (fun s => s.elim)
 ·have hij : i * n + j < vs.length := by rw [hl]; have h3 : (i + 1) * n ≤ xs.length * n := Nat.mul_le_mul_right n hi; rw [Nat.succ_mul] at h3; omega
  rw [Nat.zero_add, World.cell?_alloc_at _ _ _ _ rfl, List.getElem?_toArray]
  simp [List.getD, hij]
 ·have hj : j < n := by have := lt_of_some h2; rw [hn ds (List.mem_of_getElem? h1)] at this; exact this
  have hi := lt_of_some h1
  have hij : i * n + j < vs.length := by rw [hl]; have h3 : (i + 1) * n ≤ xs.length * n := Nat.mul_le_mul_right n hi; rw [Nat.succ_mul] at h3; omega
  have e := flatten_get hn h1 hj
  obtain ⟨_, fp, hfp, _, g⟩ := h
  have := ((g (i * n + j) vs[i * n + j] d (List.getElem?_eq_getElem hij) (by rw [e, h2])).later (below_new w (.cells vs.toArray T))).wide (P' := P) (fun b _ hb => hfp _ _ hb)
  simpa [List.getD, hij] using this
theorem has_new {w : World} {vs : List Value} (T : TypeId) {n k : Nat} {xs : List (List D)} (hn : ∀ ds ∈ xs, ds.length = n) (hk : k = xs.length) (h0 : 0 < k) (h : HasL w vs xs.flatten) :
 Has (w.alloc (.cells vs.toArray T)) (.slice (some ⟨w.heap.size, 0, none⟩) k k) (.row n xs) := holds_new T trivial hn hk h0 h
theorem hl_nil {P : Nat → Prop} {w : World} : HoldsL False P w [] [] := hasL_nil _ _ _
theorem hl_cons {P : Nat → Prop} {w : World} {c : Value} {d : D} {cs : List Value} {ds : List D} (h : Holds False P w c d) (h' : HoldsL False P w cs ds) : HoldsL False P w (c :: cs) (d :: ds) := by
 obtain ⟨hl, fp, hfp, _, g⟩ := h'
 refine ⟨by simp [hl], fun _ => P, fun _ _ h => h, fun s => s.elim, fun j c' d' hc hd => ?_⟩
 cases j with
 | zero => simp at hc hd; subst hc hd; exact h
 | succ j => exact (g j c' d' (by simpa using hc) (by simpa using hd)).wide (fun b _ hb => hfp _ _ hb)
theorem hl_int {P : Nat → Prop} {w : World} {x : Int} {cs : List Value} {ds : List D} (h : HoldsL False P w cs ds) : HoldsL False P w (.int .i64 x :: cs) (dI x :: ds) := hl_cons (has_int _ _ _ _) h
theorem holds_drop {w : World} {a : Option Addr} {n c m k : Nat} {xs : List (List D)} (h : Has w (.slice a n c) (.row m xs)) (hk : k ≤ n) : Has w (.slice (if c = k then a else a.map (fun x => x.add (k * m))) (n - k) (c - k)) (.row m (xs.drop k)) := by
 obtain ⟨P0, hP0⟩ : ∃ P : Nat → Prop, P = All := ⟨_, rfl⟩
 unfold Has at h ⊢
 generalize hv : Value.slice a n c = v at h
 generalize hd : D.row m xs = d at h
 cases h with
 | atom _ _ v h1 => cases hd
 | nil _ _ a' cap n' hop =>
  cases hd
  simp only [Value.slice.injEq] at hv
  obtain ⟨rfl, rfl, rfl⟩ := hv
  obtain rfl : k = 0 := by omega
  exact .nil _ _ _ _ _
 | row _ _ b off cap n' xs' cs fp h0 hb hc hP hn hcell hrec hfp hb2 hd' hop =>
  cases hd
  simp only [Value.slice.injEq] at hv
  obtain ⟨rfl, rfl, rfl⟩ := hv
  by_cases hkn : k = xs.length
  ·subst hkn
   rw [List.drop_length, Nat.sub_self]
   exact .nil _ _ _ _ _
  ·have hkc : ¬ c = k := by omega
   rw [if_neg hkc]
   have e : xs.length - k = (xs.drop k).length := by simp
   rw [e]
   have ea : (some (⟨b, off, none⟩ : Addr)).map (fun x => x.add (k * m)) = some ⟨b, off + k * m, none⟩ := by rw [Option.map_some, Go.WideShapes.add_plain]
   rw [ea]
   refine .row _ _ b (off + k * m) (c - k) m (xs.drop k) (fun i j => cs (i + k) j) (fun _ _ => All) (by simp; omega) hb (by simp; omega) trivial (fun i ds h => hn (i + k) ds (by rw [List.getElem?_drop] at h; rw [Nat.add_comm]; exact h)) (fun i j hi hj => ?_) (fun i j ds d h1 h2 => (hrec (i + k) j ds d (by rw [List.getElem?_drop] at h1; rw [Nat.add_comm]; exact h1) h2).weak) (fun _ _ _ _ => trivial) (fun s => s.elim) (fun s => s.elim)
   have := hcell (i + k) j (by simp at hi; omega) hj
   rw [← this]
   congr 2
   rw [Nat.add_mul]; omega
theorem Holds.loose {S : Prop} {P : Nat → Prop} {w : World} {v : Value} {d : D} (h : Holds S P w v d) : Holds False P w v d := by
 induction h with
 | atom P w v h1 => exact .atom _ _ _ h1
 | nil P w a cap n hop => exact .nil _ _ _ _ _
 | row P w b off cap n xs cs fp h0 hb hc hP hn hcell hrec hfp hb2 hd hop ih =>
  exact .row _ _ b off cap n xs cs fp h0 hb hc hP hn hcell (fun i j ds d h1 h2 => ih i j ds d h1 h2) hfp (fun s => s.elim) (fun s => s.elim)
theorem HoldsL.loose {S : Prop} {P : Nat → Prop} {w : World} {cs : List Value} {ds : List D} (h : HoldsL S P w cs ds) : HoldsL False P w cs ds := by
 obtain ⟨hl, fp, h1, _, g⟩ := h
 exact ⟨hl, fp, h1, fun s => s.elim, fun j c d hc hd => (g j c d hc hd).loose⟩
end Go.Proofs.Ytlhclnhdcenkhaa
set_option linter.unusedSimpArgs false
set_option linter.unusedVariables false
namespace Go.Proofs.Ytlhclnhdcenkhaa
open Go.RowKit Go.PlainAid
set_option maxHeartbeats 8000000 in
set_option maxRecDepth 100000 in
theorem rmsgs_at (xs ys : Lks) (r : Bool) (v1 v2 : Value) (w : World) (h1 : Has w v1 (dLinks xs)) (h2 : Has w v2 (dLinks ys)) (hn : xs.length ≤ 1000000) (hr : r = true ↔ xs = ys) :
  Calls Try.prog 22 #[v1, v2] w fun e w' => e = .returned (.bool r) ∧ Below w.heap.size w w' := by
 obtain ⟨a1, c1, ee⟩ := slice_of h1
 subst ee
 obtain ⟨a2, c2, ee⟩ := slice_of h2
 subst ee
 have H1 := Lib.hid h1
 have H2 := Lib.hid h2
 have HR := Lib.hid hr
 by_cases hl : xs.length = ys.length
 ·obtain ⟨n, hx⟩ : ∃ n, n = xs.length := ⟨_, rfl⟩
  have hy : n = ys.length := by rw [hx]; exact hl
  rw [← hx] at h1 hn ⊢
  rw [← hy] at h2 ⊢
  replace H1 := Lib.hid h1
  replace H2 := Lib.hid h2
  have HX := Lib.hid hx
  have HY := Lib.hid hy
  clear h1 h2 hr hl hx hy
  go_enter Try.func22, Try.ntmps22
  try simp only [List.append_eq, List.cons_append, List.nil_append]
  go_wp2_with fail
  go_loopw [5] (fun i wr => ∃ j : Nat, i = .int .i64 j ∧ j ≤ n ∧ xs.take j = ys.take j ∧ Below w.heap.size w wr) (fun i _ => n - (intOf i).toNat)
  case atStart => exact ⟨0, rfl, by omega, rfl, Below.refl _ _⟩
  case round =>
   obtain ⟨j, rfl, hj, heq, hb⟩ := hrel
   have BW := Lib.hid hb
   by_cases hlt : j < n
   ·have hlt' : (j : Int) < n := by omega
    obtain ⟨⟨x1, x2⟩, hx⟩ := some_of_lt (l := xs) (i := j) (by rw [← HX.out]; exact hlt)
    obtain ⟨⟨y1, y2⟩, hy⟩ := some_of_lt (l := ys) (i := j) (by rw [← HY.out]; exact hlt)
    obtain ⟨b, o, e, p1, p2⟩ := msg_at (H1.out.later hb) hx
    subst e
    obtain ⟨b', o', e, q1, q2⟩ := msg_at (H2.out.later hb) hy
    subst e
    simp only at p1 p2 q1 q2
    have GX := Lib.hid hx
    have GY := Lib.hid hy
    have EQ := Lib.hid heq
    clear hx hy heq hb
    by_cases hxy : x1 = y1 ∧ x2 = y2
    ·obtain ⟨rfl, rfl⟩ := hxy
     go_wp2_with fail
     go_quiet (fail)
     have hbq : Below wr.heap.size wr (wr.drewN nq) := below_drewN (Below.refl _ wr) nq
     have BQ := Lib.hid (below_step' BW.out hbq)
     clear hbq
     go_wp2_with fail
     go_roundw
     case rel => exact ⟨j + 1, by go_num, by omega, take_next GX.out GY.out EQ.out rfl, BQ.out⟩
     case measure => simp [intOf]; omega
    ·have hne : (x1 == y1 && x2 == y2) = false := by
      cases h1 : (x1 == y1 && x2 == y2) with
      | false => rfl
      | true => simp at h1; exact absurd h1 hxy
     have hrf : r = false := by
      cases r with
      | false => rfl
      | true =>
       have e := HR.out.1 rfl
       have h := GX.out
       rw [e, GY.out] at h
       cases h
       exact absurd ⟨rfl, rfl⟩ hxy
     subst hrf
     by_cases hx1 : x1 = y1
     ·subst hx1
      have hx2 : ¬ x2 = y2 := fun e => hxy ⟨rfl, e⟩
      have hx3 : (x2 == y2) = false := by simpa using hx2
      clear hxy hne
      go_wp2_with fail
      go_quiet (fail)
      have hbq : Below wr.heap.size wr (wr.drewN nq) := below_drewN (Below.refl _ wr) nq
      have BQ := Lib.hid (below_step' BW.out hbq)
      clear hbq
      go_wp2_with fail
      go_ret
      exact ⟨rfl, BQ.out⟩
     ·have hx3 : (x1 == y1) = false := by simpa using hx1
      clear hxy hne
      go_wp2_with fail
      go_quiet (fail)
      have hbq : Below wr.heap.size wr (wr.drewN nq) := below_drewN (Below.refl _ wr) nq
      have BQ := Lib.hid (below_step' BW.out hbq)
      clear hbq
      go_wp2_with fail
      go_ret
      exact ⟨rfl, BQ.out⟩
   ·obtain rfl : j = n := by omega
    have hj3 : ¬ (j : Int) < j := by omega
    have hrt : r = true := HR.out.2 (by
     have h := heq
     rw [List.take_of_length_le (by rw [HX.out]; exact Nat.le_refl _), List.take_of_length_le (by rw [HY.out]; exact Nat.le_refl _)] at h
     exact h)
    subst hrt
    clear heq hb
    go_wp2_with fail
    go_ret
    exact ⟨rfl, BW.out⟩
 ·have hrf : r = false := by
   cases r with
   | false => rfl
   | true => exact absurd (congrArg List.length (hr.1 rfl)) hl
  subst hrf
  obtain ⟨n, hx⟩ : ∃ n, n = xs.length := ⟨_, rfl⟩
  obtain ⟨m, hy⟩ : ∃ n, n = ys.length := ⟨_, rfl⟩
  rw [← hx, ← hy] at hl ⊢
  have hl1 : ¬ (n : Int) = m := by omega
  have hl2 : ((n : Int) != m) = true := by simp; omega
  clear h1 h2 hr hx hy HR H1 H2 hn
  go_enter Try.func22, Try.ntmps22
  try simp only [List.append_eq, List.cons_append, List.nil_append]
  go_wp2_with fail
  go_ret
  exact ⟨rfl, Below.refl _ _⟩
end Go.Proofs.Ytlhclnhdcenkhaa
set_option linter.unusedSimpArgs false
set_option linter.unusedVariables false
namespace Go.Proofs.Ytlhclnhdcenkhaa
open Go.RowKit Go.PlainAid
theorem rints_at (xs ys : List Int) (r : Bool) (v u : Value) (w : World) (h1 : Has w v (dInts xs)) (h2 : Has w u (dInts ys)) (hn : xs.length ≤ 1000000) (hm : ys.length ≤ 1000000) (hr : r = true ↔ xs = ys) :
  Calls Try.prog 38 #[v, u] w fun e w' => e = .returned (.bool r) ∧ Below w.heap.size w w' := by
 refine (rints_any v u xs ys w h1.ints h2.ints hn hm).mono ?_
 rintro e w' ⟨rfl, n, rfl⟩
 refine ⟨?_, below_drewN (Below.refl _ w) n⟩
 have : decide (xs = ys) = r := by
  cases r with
  | true => simpa using hr.1 rfl
  | false => simp only [decide_eq_false_iff_not]; intro e; have := hr.2 e; cases this
 rw [this]
theorem no_of {r : Bool} {p : Prop} (hr : r = true ↔ p) (h : ¬ p) : r = false := by
 cases r with
 | false => rfl
 | true => exact absurd (hr.1 rfl) h
end Go.Proofs.Ytlhclnhdcenkhaa
set_option linter.unusedSimpArgs false
set_option linter.unusedVariables false
namespace Go.Proofs.Ytlhclnhdcenkhaa
open Go.RowKit Go.PlainAid
end Go.Proofs.Ytlhclnhdcenkhaa
set_option linter.unusedSimpArgs false
set_option linter.unusedVariables false
namespace Go.Proofs.Ytlhclnhdcenkhaa
open Go.RowKit Go.PlainAid
def Sp.d (s : Sp) : List D := [dI s.kind, dI s.node, dI s.k, dI s.link, dI s.seq]
def dSteps (l : List Sp) : D := .row 5 (l.map Sp.d)
end Go.Proofs.Ytlhclnhdcenkhaa
namespace Go.Proofs.Ytlhclnhdcenkhaa
open Go.RowKit Go.PlainAid Go.ChangeShapes Go.WideShapes Go.Lib Go.Deep
section
variable {H : Type} {enc : TypeId × Value → H} {W : World} {n : Nat} {y : DataW H × List MemPlace}
set_option maxRecDepth 100000
theorem msgs_of_trod {v : Value} (hd : DataW.trod enc Try.prog W 0 (fun _ => true) true n 57 [v] = some y) : ∃ xs : Lks, Has W v (dLinks xs) :=
 row_of_trod Try.underlying57 (by kernel_rfl) (by omega) (fun m cs y h => by
  obtain ⟨y0, y1, k, -, hl, h0, h1⟩ := trod_struct2 Try.underlying38 h
  rw [show Try.prog.cellsOf 38 = 2 by kernel_rfl] at hl
  obtain ⟨a, ha, -, -⟩ := DataW.trod_int Try.underlying3 h0
  obtain ⟨b, hb, -, -⟩ := DataW.trod_int Try.underlying3 h1
  match cs, hl with
  | [c0, c1], _ =>
   rw [show Try.prog.cellsOf 3 = 1 by kernel_rfl] at ha hb
   simp at ha hb
   subst ha hb
   exact ⟨(a, b), .mk (has_int _ _ _ _) (.mk (has_int _ _ _ _) (hasL_nil _ _ _)), rfl⟩) hd
theorem lls_of_trod {v : Value} (hd : DataW.trod enc Try.prog W 0 (fun _ => true) true n 23 [v] = some y) : ∃ xs : List Lks, Has W v (dLls xs) :=
 row_of_trod Try.underlying23 (by kernel_rfl) (by omega) (fun m cs y h => by
  have hc : ∃ c0, cs = [c0] := by
   rcases open_slice Try.underlying57 h with ⟨h, _⟩ | ⟨a, len, cap, m, n', _, _, h, _⟩
   ·exact ⟨_, h⟩
   ·exact ⟨_, h⟩
  obtain ⟨c0, rfl⟩ := hc
  obtain ⟨xs, hx⟩ := msgs_of_trod h
  exact ⟨xs, .mk hx (hasL_nil _ _ _), rfl⟩) hd
end
end Go.Proofs.Ytlhclnhdcenkhaa
set_option linter.unusedSimpArgs false
set_option linter.unusedVariables false
namespace Go.Proofs.Ytlhclnhdcenkhaa
open Go.RowKit Go.PlainAid
theorem ahead_mem {md : Region.Mode} {ops : Array Oper} {g e : Nat} (h : (aheadOf md ops g).contains e = true) : e ∈ aheadOf md ops g := by simpa using h
theorem wp_if {b : Bool} {X F : Prop} (h : if b = true then X else F) (hb : b = true) : X := by rwa [if_pos hb] at h
theorem ev_of {a : Act} {t : Nat} {v : Value} (h : a.tmps[t]? = some v) : a.eval (.tmp t) = v := by simp [Act.eval, Array.getD_eq_getD_getElem?, h]
theorem fl_ints (xs : List Int) : ∀ ds ∈ xs.map (fun a => [dI a]), ds.length = 1 := by intro ds h; obtain ⟨_, _, rfl⟩ := List.mem_map.1 h; rfl
theorem take_of_min {α : Type} {xs : List α} {n k m : Nat} (hn : n = xs.length) (hk : k = min n m) : xs.take m = xs.take k := by
 rw [List.take_eq_take_min]; congr 1; omega
/-- The copy under way: its box, and the links done. -/
structure CutAt (yb w9 : World) (p : Nat) (u1 u3 v : Value) (ls : List Lks) (wr : World) : Prop where
 c0 : wr.cell? ⟨p, 0, none⟩ = some u1
 c2 : wr.cell? ⟨p, 2, none⟩ = some u3
 f : Fld False (fun q => w9.heap.size ≤ q) 57 1 yb wr p 1 v (ls.map fun m => [dLinks m])
 s : SameOn (fun q => q < w9.heap.size ∧ q ≠ p) w9 wr
theorem CutAt.push {yb w9 : World} {p : Nat} {u1 u3 v v' : Value} {ls : List Lks} {m : Lks} {wr w5 w6 : World} (h : CutAt yb w9 p u1 u3 v ls wr) (hp : p < w9.heap.size) (hb : Below wr.heap.size wr w5)
  (hO : Own False (fun q => w9.heap.size ≤ q) 57 1 yb w6.heap.size w6 v' (ls.map (fun m => [dLinks m]) ++ [[dLinks m]])) (hg : w5.grownBy w6 v.ownBlock) (hv : v'.ownBlock = v.ownBlock ∨ v'.ownBlock = some w5.heap.size) :
  CutAt yb w9 p u1 u3 v' (ls ++ [m]) (w6.setCell ⟨p, 1, none⟩ v') ∧ w6.cell? ⟨p, 1, none⟩ = some v ∧ w6.frozen? ⟨p, 1, none⟩ = false ∧ (∀ (c : Addr) (u : Value), w5.cell? c = some u → c.block < w9.heap.size → w6.cell? c = some u ∧ (c.block ≠ p → (w6.setCell ⟨p, 1, none⟩ v').cell? c = some u)) := by
 have hs := h.s.1
 obtain ⟨a1, a2, a3, a4, a5, a6, a7⟩ := h.f.push hb hO hg hv (Nat.le_trans hs hb.size)
 have hne : ∀ k, k < w9.heap.size → v.ownBlock ≠ some k := fun k hk e => by
  have h1 : w9.heap.size ≤ k := h.f.bld.inP k e
  omega
 have k0 := (hb.cell (World.block_lt_of_cell? wr _ h.c0)).trans h.c0
 have k2 := (hb.cell (World.block_lt_of_cell? wr _ h.c2)).trans h.c2
 have e1 := h.s
 have e2 := a5 (fun q => q < w9.heap.size ∧ q ≠ p) (fun q (hq : q < w9.heap.size ∧ q ≠ p) => Nat.not_le.2 hq.1) (fun hq => hq.2 rfl)
 have e3 : SameOn (fun q => q < w9.heap.size ∧ q ≠ p) wr w5 := SameOn.of_below hb
 refine ⟨⟨a6 _ _ k0 (Nat.not_le.2 hp) (by simp), a6 _ _ k2 (Nat.not_le.2 hp) (by simp), ?_, ?_⟩, a2, a3, fun c u hc hlt => ⟨(World.cell?_of_block (hg.block c.block (World.block_lt_of_cell? w5 _ hc) (fun e => hne _ hlt e.symm))).trans hc, fun e => a6 c u hc (Nat.not_le.2 hlt) (fun h => e (by rw [h]))⟩⟩
 ·rw [List.map_append]
  exact a1
 ·exact ⟨Nat.le_trans e1.1 (Nat.le_trans e3.1 e2.1), fun b hq hb' => (e2.2 b hq (Nat.lt_of_lt_of_le hb' (Nat.le_trans e1.1 e3.1))).trans ((e3.2 b hq (Nat.lt_of_lt_of_le hb' e1.1)).trans (e1.2 b hq hb'))⟩
theorem fl_links (xs : Lks) : ∀ ds ∈ xs.map (fun p => [dI p.1, dI p.2]), ds.length = 2 := by intro ds h; obtain ⟨_, _, rfl⟩ := List.mem_map.1 h; rfl
theorem Holds.low {P : Nat → Prop} {w : World} {v : Value} {d : D} (h : Holds False P w v d) : Holds False (fun q => P q ∧ q ≠ w.heap.size) w v d := h.wide (fun _ hb hp => ⟨hp, Nat.ne_of_lt hb⟩)
end Go.Proofs.Ytlhclnhdcenkhaa

