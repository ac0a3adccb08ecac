/- A map that counts links. -/
import Derived.Test.YtegpdfocfohkcaaGrO
import Derived.Maps.Own
import Derived.Maps.OwnOps
import Derived.Maps.Views
import Derived.WideKeyPair
import Derived.WideKeyEntry
namespace Go.Proofs.Ytegpdfocfohkcaa
open Go.RowKit Go.PlainAid Go.Maps

theorem arrKey : WideMaps.ArrKey Try.prog 96 3 2 := ⟨Try.underlying96, by kernel_rfl, by kernel_rfl, by kernel_rfl⟩
theorem arrKeyed : Keyed Try.prog 96 := Keyed.of_law arrKey.law
theorem zeroInt (w : World) : (zeroValue 3).run Try.prog w = .ok (.int .i64 0) w := by kernel_rfl

def wfp (p : Int × Int) : Prop := (Lit.int .i64 p.1).wf = true ∧ (Lit.int .i64 p.2).wf = true
def klOf (p : Int × Int) : Lit := .string (keyBytes [.int .i64 p.1, .int .i64 p.2])
theorem keyOf_p {p : Int × Int} (h : wfp p) : keyOf Try.prog 96 (pv p) = some (klOf p) := WideMaps.keyOf_pair arrKey Try.underlying3 (by exact ⟨_, rfl⟩) h.1 h.2
theorem kl_inj {p q : Int × Int} (hp : wfp p) (hq : wfp q) (h : klOf p = klOf q) : p = q := by
  have := arrKey.law.inj (keyOf_p hp) (by rw [h]; exact keyOf_p hq)
  obtain ⟨a, b⟩ := p
  obtain ⟨c, d⟩ := q
  simp [pv] at this
  simp [this.1, this.2]

/-- A map whose entry at a link is f of it. -/
def CMap (w : World) (b n : Nat) (f : Int × Int → Int) : Prop :=
  ∃ D : DataW Unit, IsMap D ∧ w.ownsMap Try.prog 96 (plainElem Try.prog 3) b n D ∧ ∀ p, wfp p → D.atKey (klOf p) (.lit (.int .i64 0)) = .lit (.int .i64 (f p))

theorem CMap.made (w : World) : CMap (w.alloc (.map #[] 0)) w.heap.size 0 (fun _ => 0) :=
  ⟨.map [], isMap_empty, World.ownsMap_made _ _ _ _, fun _ _ => rfl⟩
theorem CMap.lt {w : World} {b n : Nat} {f : Int × Int → Int} (h : CMap w b n f) : b < w.heap.size := by obtain ⟨D, _, h, _⟩ := h; exact h.lt
theorem CMap.kept {w w' : World} {b n : Nat} {f : Int × Int → Int} {row : Option Nat} (h : CMap w b n f) (hg : w.grownBy w' row) (hne : some b ≠ row) : CMap w' b n f := by
  obtain ⟨D, h1, h2, h3⟩ := h
  exact ⟨D, h1, h2.kept hg hne, h3⟩
theorem CMap.below {w w' : World} {b n : Nat} {f : Int × Int → Int} (h : CMap w b n f) (hb : Below w.heap.size w w') : CMap w' b n f :=
  h.kept (row := none) ⟨hb.os, hb.tape, hb.output, hb.size, fun k hk _ => hb.block k hk⟩ (by simp)
theorem CMap.look {w : World} {b n : Nat} {f : Int × Int → Int} (h : CMap w b n f) {p : Int × Int} (hp : wfp p) :
    (Instr.lookup 110 (.map (some b)) (pv p) false).run Try.prog w = .ok (.int .i64 (f p)) w := by
  obtain ⟨D, h1, h2, h3⟩ := h
  obtain ⟨c, hrun, hat, _⟩ := h2.lookup_int arrKeyed Try.underlying110 Try.underlying3 (zeroInt w) (keyOf_p hp)
  rw [h3 p hp] at hat
  simp only [DataW.lit.injEq, Lit.int.injEq, true_and] at hat
  rw [hat]; exact hrun

theorem isKey (p : Int × Int) : WideAt.IsKeyLit (klOf p) := by simp [klOf, WideAt.IsKeyLit]

theorem CMap.entry {w : World} {b n : Nat} {f : Int × Int → Int} (h : CMap w b n f) {p : Int × Int} (hp : wfp p) (hn : n < maxLen) :
    ∃ v0 st w1, (Instr.mapEntry 110 (.map (some b)) (pv p)).run Try.prog w = .ok (.tuple #[v0, goInt st]) w1 ∧
      (Instr.lookup 110 (.map (some b)) (pv p) false).run Try.prog w1 = .ok (.int .i64 (f p)) w1 ∧
      ∀ x : Int, (Lit.int .i64 x).wf = true → ∃ w2, (Instr.entryStore 110 (.map (some b)) (goInt st) (.int .i64 x)).run Try.prog w1 = .ok () w2 ∧
        CMap w2 b (n + 1) (fun q => if q = p then x else f q) ∧ w.grownBy w2 (some b) := by
  obtain ⟨D, hD, hown, hat⟩ := h
  have hown0 := hown
  obtain ⟨es, clock, hb, F, hs, hDe⟩ := hown
  have hkey := keyOf_p hp
  obtain ⟨v0, st, es1, clock1, hE, hv0, hS⟩ := WideElems.entry_then_store arrKey.law Try.underlying110 zeroInt hb F hkey
  have hb1 : (ChangeMaps.setBlock w b (.map es1 clock1)).heap[b]? = some (.map es1 clock1) := ChangeMaps.heap_setBlock_same hb _
  refine ⟨v0, st, _, hE, ?_, fun x hx => ?_⟩
  · have hfp := hat p hp
    rcases Maps.fit_look false arrKeyed Try.underlying110 (zeroInt w) hb F hkey with ⟨_, hno, hz⟩ | ⟨e0, y, hm0, he0, hrun, hRv, hz, _⟩
    · have hf0 : f p = 0 := by
        rw [hDe, hz] at hfp
        simpa using hfp.symm
      rw [hf0]
      rcases arrKey.law.find w hkey es.toList F.keys with ⟨h1, h2⟩ | ⟨j, e0, h1, h2, h3⟩
      · have hE2 : (Instr.mapEntry 110 (.map (some b)) (pv p)).run Try.prog w = .ok (.tuple #[.int .i64 0, goInt clock]) (ChangeMaps.setBlock w b (.map (es.push ⟨pv p, .int .i64 0, clock⟩) (clock + 1))) := by
          simp [Instr.mapEntry, run_underlying Try.underlying110, MapKept.run_getObj_map hb, arrKey.law.check w false hkey, h1, MapKept.run_setObj_map _ hb, Result.andThen, ChangeMaps.setBlock]
        have hw : ChangeMaps.setBlock w b (.map es1 clock1) = ChangeMaps.setBlock w b (.map (es.push ⟨pv p, .int .i64 0, clock⟩) (clock + 1)) := by
          have := hE.symm.trans hE2
          simp only [Result.ok.injEq] at this
          exact this.2
        rw [hw] at hb1 ⊢
        have hb2 : (ChangeMaps.setBlock w b (.map (es.push ⟨pv p, .int .i64 0, clock⟩) (clock + 1))).heap[b]? = some (.map (es.push ⟨pv p, .int .i64 0, clock⟩) (clock + 1)) := ChangeMaps.heap_setBlock_same hb _
        have hkeys : ∀ e ∈ (es.push ⟨pv p, .int .i64 0, clock⟩).toList, ∃ l, keyOf Try.prog 96 e.key = some l := by
          intro e he
          rw [Array.toList_push] at he
          rcases List.mem_append.1 he with he | he
          · exact F.keys e he
          · simp at he; subst he; exact ⟨_, hkey⟩
        rcases arrKey.law.find (ChangeMaps.setBlock w b (.map (es.push ⟨pv p, .int .i64 0, clock⟩) (clock + 1))) hkey _ hkeys with ⟨q1, q2⟩ | ⟨j, e0, q1, q2, q3⟩
        · exact absurd rfl (q2 ⟨pv p, .int .i64 0, clock⟩ (by simp))
        · have hme : e0 ∈ (es.push ⟨pv p, .int .i64 0, clock⟩).toList := List.mem_of_getElem? q2
          rw [Array.toList_push] at hme
          have hv : e0.val = .int .i64 0 := by
            rcases List.mem_append.1 hme with he | he
            · exact absurd q3 (hno e0 he)
            · simp at he; rw [he]
          rw [Array.toList_push] at q1
          simp [Instr.lookup, run_underlying Try.underlying110, MapKept.run_getObj_map hb2, arrKey.law.check _ false hkey, q1, hv, Result.andThen]
      · exact absurd h3 (hno e0 (List.mem_of_getElem? h2))
    · rcases arrKey.law.find w hkey es.toList F.keys with ⟨h1, h2⟩ | ⟨j, e1, h1, h2, h3⟩
      · exact absurd he0 (h2 e0 hm0)
      · have hj : es[j]? = some e1 := by simpa using h2
        have hsame : es.modify j (fun e => { e with key := pv p }) = es := by
          apply Array.ext'
          rw [Array.toList_modify]
          apply List.ext_getElem?
          intro i
          rw [List.getElem?_modify]
          by_cases hij : j = i
          · subst hij
            rw [h2]
            have : ({ e1 with key := pv p } : MapEntry) = e1 := by rw [← h3]
            simp [this]
          · simp [hij]
        have hE2 : (Instr.mapEntry 110 (.map (some b)) (pv p)).run Try.prog w = .ok (.tuple #[e1.val, goInt e1.born]) (ChangeMaps.setBlock w b (.map es clock)) := by
          simp [Instr.mapEntry, run_underlying Try.underlying110, MapKept.run_getObj_map hb, arrKey.law.check w false hkey, h1, hj, h3, arrKey.law.stays w hkey, hsame, MapKept.run_setObj_map _ hb, Result.andThen, ChangeMaps.setBlock]
        have hw : ChangeMaps.setBlock w b (.map es1 clock1) = ChangeMaps.setBlock w b (.map es clock) := by
          have := hE.symm.trans hE2
          simp only [Result.ok.injEq] at this
          exact this.2
        have hb2 : (ChangeMaps.setBlock w b (.map es clock)).heap[b]? = some (.map es clock) := ChangeMaps.heap_setBlock_same hb _
        rw [hw]
        have hc : CMap (ChangeMaps.setBlock w b (.map es clock)) b n f := ⟨D, hD, ⟨es, clock, hb2, F, hs, hDe⟩, hat⟩
        exact hc.look hp
  · obtain ⟨es', clock', hrun, hupd⟩ := hS (ChangeMaps.setBlock w b (.map es1 clock1)) (.int .i64 x) hb1
    obtain ⟨w', hw', hown', hg'⟩ := hown0.update arrKeyed Try.underlying110 hn hkey (plainElem_int Try.underlying3 hx)
    have hww : w' = ChangeMaps.setBlock w b (.map es' clock') := by
      have := hw'.symm.trans hupd
      simpa using this
    have hset : ChangeMaps.setBlock (ChangeMaps.setBlock w b (.map es1 clock1)) b (.map es' clock') = w' := by
      rw [hww]
      simp [ChangeMaps.setBlock]
    refine ⟨w', by rw [hrun, hset], ⟨_, hD.put _ _, hown', fun q hq => ?_⟩, hg'⟩
    by_cases e : q = p
    · subst e
      show _ = DataW.lit (.int .i64 (if q = q then x else f q))
      rw [if_pos rfl, atKey_put_same hD (isKey q)]
    · show _ = DataW.lit (.int .i64 (if q = p then x else f q))
      rw [if_neg e, atKey_put_other (fun h => e (kl_inj hq hp h))]
      exact hat q hq
end Go.Proofs.Ytegpdfocfohkcaa
