/- A map of the call's own whose keys are links: the links that it holds, in the order of their coming; a range over it. -/
import Derived.Test.YtbjjgcfmdlinaaaSlL
import Derived.Maps.OwnOps
import Derived.Maps.RangeWalk
import Derived.DeepKeys4
import Derived.RangeFuncNested
import Derived.RangeFuncBound
import Derived.RangeFuncCalls
import Derived.RangeFuncLeaves
import Derived.Shelf.Abstract
import Derived.Shelf.AbstractIn
import Derived.Shelf.RegionOpen
import Derived.WalkKit
import Derived.OwnWalkIn
import Derived.TacticsInMore
import Derived.RegionIn
import Derived.LoopNIn
import Derived.LoopIn
import Derived.Sort.MapsRangeIn
namespace Go.Proofs.Ytbjjgcfmdlinaaa
open Go.RowKit Go.Maps Go.ChangeMaps Go.MapKept
def lkV (p : Int × Int) : Value := .agg #[.int .i64 p.1, .int .i64 p.2]
theorem lkV_inj {p q : Int × Int} (h : lkV p = lkV q) : p = q := by
  unfold lkV at h
  simp only [Value.agg.injEq, Array.mk.injEq, List.cons.injEq, Value.int.injEq, true_and, and_true] at h
  exact Prod.ext h.1 h.2
theorem laidProg : laidOutB Try.prog = true := by kernel_rfl
theorem linkRow : (38 : TypeId) < Try.prog.types.size := of_decide_eq_true (by kernel_rfl)
theorem linkDeep : Try.prog.keyTypeAt 2 38 = true := by kernel_rfl
theorem linkKey : Try.prog.keyType 38 = true := by kernel_rfl
theorem linkKeyed : Keyed Try.prog 38 := Keyed.of_law (deep_law_laid laidProg (m := 2) (by omega) linkRow linkDeep (by rw [Try.underlying38]))
theorem keyOf_two {P : Program} {k e : TypeId} {m : Nat} {s0 s1 : String} {b0 b1 : Nat} {x y : Int} (hk : P.underlying k = some (.struct #[{ name := s0, type := e, offset := 0, embedded := false, tag := "", pkgPath := "", byteOffset := b0 }, { name := s1, type := e, offset := 1, embedded := false, tag := "", pkgPath := "", byteOffset := b1 }]))
    (n0 : s0 ≠ "_") (n1 : s1 ≠ "_") (he : P.underlying e = some (.int .i64)) (hc2 : P.cellsOf k = 2) (hc1 : P.cellsOf e = 1) (hkey : P.keyType k = true) (hsz : P.types.size = m + 1) (hx : (Lit.int .i64 x).wf = true) (hy : (Lit.int .i64 y).wf = true) :
    ∃ l, keyOf P k (.agg #[.int .i64 x, .int .i64 y]) = some l := by
  have hf : (Value.agg #[.int .i64 x, .int .i64 y]).formed P k = true := by simp [Value.formed, hk, hc2]
  have hcs : (Value.agg #[.int .i64 x, .int .i64 y]).cells.toList = [.int .i64 x, .int .i64 y] := rfl
  have l0 : ∀ z, (Lit.int .i64 z).wf = true → P.keyLits (m + 1) e [.int .i64 z] = some [.int .i64 z] := fun z hz => by
    simp [Program.keyLits, he, hz]
  have hl : P.keyLits (P.types.size + 1) k [.int .i64 x, .int .i64 y] = some [.int .i64 x, .int .i64 y] := by
    rw [hsz]
    unfold Program.keyLits
    rw [hk]
    simp [hc2, hc1, n0, n1, l0 x hx, l0 y hy]
  refine ⟨.string (keyBytes [.int .i64 x, .int .i64 y]), ?_⟩
  unfold keyOf
  rw [hk]
  simp only [hkey, hf, Bool.and_self, if_true]
  rw [hcs, hl]
  rfl
def FitP (p : Int × Int) : Prop := (Lit.int .i64 p.1).wf = true ∧ (Lit.int .i64 p.2).wf = true
theorem keyOf_link {p : Int × Int} (h : FitP p) : ∃ l, keyOf Try.prog 38 (lkV p) = some l := by
  obtain ⟨m, hm⟩ : ∃ m, Try.prog.types.size = m + 1 := ⟨Try.prog.types.size - 1, by have h : 38 < Try.prog.types.size := linkRow; omega⟩
  exact keyOf_two Try.underlying38 (by decide) (by decide) Try.underlying3 (by kernel_rfl) (by kernel_rfl) linkKey hm h.1 h.2
/-- Block b is a map; its keys are the links S, in the order of their coming. -/
def MapP (w : World) (b : Nat) (S : List (Int × Int)) : Prop :=
  ∃ es clock, w.heap[b]? = some (.map es clock) ∧ es.toList.map (·.key) = S.map lkV ∧ (∀ p ∈ S, FitP p) ∧ Stamped es clock
theorem mapP_made (w : World) : MapP (w.alloc (.map #[] 0)) w.heap.size [] := ⟨#[], 0, (MapKept.heap_alloc w _).1, rfl, (fun _ h => by cases h), stamped_empty 0⟩
theorem MapP.lt {w : World} {b : Nat} {S : List (Int × Int)} (h : MapP w b S) : b < w.heap.size := by
  obtain ⟨es, clock, hb, _⟩ := h
  exact (Array.getElem?_eq_some_iff.1 hb).1
theorem MapP.kept {w w' : World} {b : Nat} {S : List (Int × Int)} {row : Option Nat} (h : MapP w b S) (hg : w.grownBy w' row) (hne : some b ≠ row) : MapP w' b S := by
  have hlt := h.lt
  obtain ⟨es, clock, hb, r⟩ := h
  exact ⟨es, clock, (hg.block b hlt hne).trans hb, r⟩
theorem MapP.below {w w' : World} {b : Nat} {S : List (Int × Int)} (h : MapP w b S) (hb : Below w.heap.size w w') : MapP w' b S :=
  h.kept (row := none) ⟨hb.os, hb.tape, hb.output, hb.size, fun k hk _ => hb.block k hk⟩ (by simp)
theorem MapP.up {w w' : World} {b C : Nat} {S : List (Int × Int)} (h : MapP w b S) (hb : Below C w w') (hC : b < C) : MapP w' b S := by
  obtain ⟨es, clock, h1, r⟩ := h
  exact ⟨es, clock, (hb.block b hC).trans h1, r⟩
theorem MapP.nodup {w : World} {b : Nat} {S : List (Int × Int)} (h : MapP w b S) : S.Nodup := by
  obtain ⟨es, clock, _, hk, _, hst⟩ := h
  have h3 := ((stamped_iff es clock).1 hst).2.2
  have h4 : (es.toList.map (·.key)).Pairwise (· ≠ ·) := List.pairwise_map.2 h3
  rw [hk] at h4
  exact (List.pairwise_map.1 h4).imp (fun h e => h (by rw [e]))
theorem MapP.fit {w : World} {b : Nat} {S : List (Int × Int)} (h : MapP w b S) : ∀ p ∈ S, FitP p := by
  obtain ⟨_, _, _, _, hf, _⟩ := h
  exact hf
def addP (S : List (Int × Int)) (p : Int × Int) : List (Int × Int) := if p ∈ S then S else S ++ [p]
theorem addP_mem {S : List (Int × Int)} {p q : Int × Int} : q ∈ addP S p ↔ q ∈ S ∨ q = p := by
  unfold addP
  split
  · rename_i h
    exact ⟨.inl, fun h1 => h1.elim id (fun e => e ▸ h)⟩
  · simp
theorem addP_len (S : List (Int × Int)) (p : Int × Int) : (addP S p).length ≤ S.length + 1 := by
  unfold addP
  split <;> simp
theorem ent_key {es : Array MapEntry} {S : List (Int × Int)} (hk : es.toList.map (·.key) = S.map lkV) {e : MapEntry} (he : e ∈ es.toList) : ∃ p ∈ S, e.key = lkV p := by
  have h1 : e.key ∈ es.toList.map (·.key) := List.mem_map.2 ⟨e, he, rfl⟩
  rw [hk] at h1
  obtain ⟨p, hp, h2⟩ := List.mem_map.1 h1
  exact ⟨p, hp, h2.symm⟩
theorem key_ent {es : Array MapEntry} {S : List (Int × Int)} (hk : es.toList.map (·.key) = S.map lkV) {p : Int × Int} (hp : p ∈ S) : ∃ e ∈ es.toList, e.key = lkV p := by
  have h1 : lkV p ∈ S.map lkV := List.mem_map.2 ⟨p, hp, rfl⟩
  rw [← hk] at h1
  obtain ⟨e, he, h2⟩ := List.mem_map.1 h1
  exact ⟨e, he, h2⟩
section
variable {w : World} {b : Nat} {S : List (Int × Int)} {t e : TypeId}
/-- 'm[p] = v'. -/
theorem MapP.put (h : MapP w b S) (ht : Try.prog.underlying t = some (.map 38 e)) {p : Int × Int} (hp : FitP p) (v : Value) :
    ∃ w', (Instr.mapUpdate t (.map (some b)) (lkV p) v).run Try.prog w = .ok () w' ∧ MapP w' b (addP S p) ∧ w.grownBy w' (some b) := by
  obtain ⟨es, clock, hb, hk, hf, hst⟩ := h
  have K := linkKeyed
  obtain ⟨kl, hkey⟩ := keyOf_link hp
  have hkeys : ∀ e ∈ es.toList, ∃ l, keyOf Try.prog 38 e.key = some l := fun e he => by
    obtain ⟨q, hq, h1⟩ := ent_key hk he
    rw [h1]
    exact keyOf_link (hf q hq)
  have grow : ∀ es' clock', w.grownBy (setBlock w b (.map es' clock')) (some b) := fun es' clock' => ⟨rfl, rfl, rfl, by simp [setBlock], fun i _ hi => heap_setBlock_other hb _ (fun e => hi (by rw [e]))⟩
  rcases K.find w hkey es.toList hkeys with ⟨g1, g2⟩ | ⟨j, e0, g1, g2, g3⟩
  · have hnew : ¬ p ∈ S := fun hm => by
      obtain ⟨e1, he1, h1⟩ := key_ent hk hm
      exact g2 e1 he1 h1
    refine ⟨_, by simp [Instr.mapUpdate, run_underlying ht, MapKept.run_getObj_map hb, K.check w false hkey, g1, MapKept.run_setObj_map _ hb, Result.andThen]; rfl, ⟨es.push ⟨lkV p, v, clock⟩, clock + 1, heap_setBlock_same hb _, ?_, ?_, stamped_push hst g2⟩, grow _ _⟩
    · unfold addP
      rw [if_neg hnew]
      simp [hk]
    · intro q hq
      rcases addP_mem.1 hq with h1 | rfl
      · exact hf q h1
      · exact hp
  · have hj : es[j]? = some e0 := by simpa using g2
    have hold : p ∈ S := by
      obtain ⟨q, hq, h1⟩ := ent_key hk (List.mem_of_getElem? g2)
      rw [g3] at h1
      rw [lkV_inj h1]
      exact hq
    have hkeyf : ∀ e', es[j]? = some e' → ({ e' with key := lkV p, val := v } : MapEntry).key = e'.key := fun e' he' => by rw [hj] at he'; cases he'; exact g3.symm
    refine ⟨_, by simp [Instr.mapUpdate, run_underlying ht, MapKept.run_getObj_map hb, K.check w false hkey, g1, hj, g3, K.stays w hkey, MapKept.run_setObj_map _ hb, Result.andThen]; rfl, ⟨es.modify j (fun e' => { e' with key := lkV p, val := v }), clock, heap_setBlock_same hb _, ?_, ?_, stamped_modify hst _ _ (fun _ _ => rfl) (fun e' _ he' => hkeyf e' he')⟩, grow _ _⟩
    · unfold addP
      rw [if_pos hold, ← hk, Array.toList_modify, modify_eq_set _ _ _ _ g2, List.map_set]
      apply List.ext_getElem?
      intro i
      rw [List.getElem?_set]
      split
      · rename_i h1
        subst h1
        split
        · rw [List.getElem?_map, g2]
          simp [g3]
        · rename_i h2
          rw [List.getElem?_eq_none (by simpa using h2)]
      · rfl
    · intro q hq
      unfold addP at hq
      rw [if_pos hold] at hq
      exact hf q hq
/-- .. at the operation, for the walk. -/
theorem wp_mapPutP {ops : Array Oper} {rest : List Oper} {o : Oper} {a : Act} {Q : Exit → Act → World → Prop} (hg : o.guard = none) (m key v : Operand) (hop : o.op = Op.mapUpdate t m key v)
    (h : MapP w b S) (ht : Try.prog.underlying t = some (.map 38 e)) {x y : Int} (hm : a.eval m = .map (some b)) (hkey : a.eval key = .agg #[.int .i64 x, .int .i64 y]) (hx : FitP (x, y))
    {val : Value} (hv : a.eval v = val) (hK : ∀ w', MapP w' b (addP S (x, y)) → w.grownBy w' (some b) → wpList Try.prog ops Q rest (a.put o.dst undef) w') : wpList Try.prog ops Q (o :: rest) a w := by
  refine wpList_plain hg fun K' hK' => ?_
  obtain ⟨w', hrun, r1, r2⟩ := h.put ht hx val
  unfold Oper.wp
  rw [show lkV (x, y) = .agg #[.int .i64 x, .int .i64 y] from rfl] at hrun
  simp [execOp, hop, hm, hkey, hv, hrun, Result.andThen]
  exact hK' _ _ (hK w' r1 r2)
end
theorem nodup_subP : ∀ {l m : List (Int × Int)}, l.Nodup → (∀ x, x ∈ l → x ∈ m) → l.length ≤ m.length
  | [], _, _, _ => Nat.zero_le _
  | x :: r, m, hd, h => by
    have hx := h x (List.mem_cons_self ..)
    have h1 := List.nodup_cons.1 hd
    have ih := nodup_subP (l := r) (m := m.erase x) h1.2 (fun y hy => (List.mem_erase_of_ne (fun (e : y = x) => h1.1 (by rw [← e]; exact hy))).2 (h y (List.mem_cons_of_mem _ hy)))
    have hl := List.length_erase_of_mem hx
    have hp : 0 < m.length := List.length_pos_of_mem hx
    simp only [List.length_cons]
    omega
/-- A range over such a map under way: which links have come. -/
def RangeP (w : World) (b r : Nat) (S ss : List (Int × Int)) : Prop :=
  ∃ es clock since seen c0, w.heap[b]? = some (.map es clock) ∧ es.toList.map (·.key) = S.map lkV ∧ (∀ p ∈ S, FitP p) ∧ Stamped es clock ∧ w.heap[r]? = some (.mapIter (some b) since seen c0) ∧
    (∀ x ∈ es.toList, x.born < since) ∧ since ≤ c0 ∧ since ≤ clock ∧ ss.Nodup ∧ ∀ p, p ∈ ss ↔ ∃ e ∈ es.toList, e.key = lkV p ∧ seen.contains e.born = true
theorem RangeP.of_walks {w w' : World} {b r : Nat} {S ss : List (Int × Int)} (h : RangeP w b r S ss) (hk : KeepsWalks w w') : RangeP w' b r S ss := by
  obtain ⟨es, clock, since, seen, c0, hb, h1, h2, h3, hr, rest⟩ := h
  exact ⟨es, clock, since, seen, c0, hk.same b _ hb rfl, h1, h2, h3, hk.same r _ hr rfl, rest⟩
theorem RangeP.walk {w : World} {b r : Nat} {S ss : List (Int × Int)} (h : RangeP w b r S ss) : ∃ o : Obj, w.heap[r]? = some o ∧ o.isWalk = true := by
  obtain ⟨es, clock, since, seen, c0, _, _, _, _, hr, _⟩ := h
  exact ⟨_, hr, rfl⟩
theorem RangeP.left_walks {w w' : World} {b r : Nat} {S ss : List (Int × Int)} (h : RangeP w b r S ss) (hk : KeepsWalks w w') : w'.rangeLeft b r = w.rangeLeft b r := by
  obtain ⟨es, clock, since, seen, c0, hb, h1, h2, h3, hr, rest⟩ := h
  simp only [World.rangeLeft, hk.same b _ hb rfl, hk.same r _ hr rfl, hb, hr]
theorem MapP.range {w : World} {b : Nat} {S : List (Int × Int)} {t e : TypeId} (h : MapP w b S) (ht : Try.prog.underlying t = some (.map 38 e)) :
    ∃ w', (Instr.range t (.map (some b))).run Try.prog w = .ok (.pointer (some ⟨w.heap.size, 0, none⟩)) w' ∧ RangeP w' b w.heap.size S [] ∧ w.grownBy w' none ∧ w'.heap.size = w.heap.size + 1 := by
  have hlt := h.lt
  obtain ⟨es, clock, hb, hk, hf, hst⟩ := h
  refine ⟨_, run_range_map w t _ e b es clock ht hb, ⟨es, clock, clock, #[], clock, ((MapKept.heap_alloc w _).2 b hlt).trans hb, hk, hf, hst, (MapKept.heap_alloc w _).1, ((stamped_iff es clock).1 hst).1, Nat.le_refl _, Nat.le_refl _, List.nodup_nil, fun p => ?_⟩, World.grownBy_alloc w _ none, by simp⟩
  simp
theorem RangeP.next {w : World} {b r : Nat} {S ss : List (Int × Int)} (h : RangeP w b r S ss) (ty : TypeId) :
    (S.Perm ss ∧ (Instr.next (.pointer (some ⟨r, 0, none⟩)) false ty).run Try.prog w = .ok (.tuple #[.bool false]) w) ∨
    ∃ p v w', FitP p ∧ (ss ++ [p]).length ≤ S.length ∧ (Instr.next (.pointer (some ⟨r, 0, none⟩)) false ty).run Try.prog w = .ok (.tuple #[.bool true, lkV p, v]) w' ∧ RangeP w' b r S (ss ++ [p]) ∧ w'.rangeLeft b r < w.rangeLeft b r ∧
      w.grownBy w' (some r) ∧ w'.heap.size = w.heap.size ∧ (Instr.entry (.pointer (some ⟨r, 0, none⟩))).run Try.prog w' = .ok (.tuple #[lkV p, v]) w' := by
  obtain ⟨es, clock, since, seen, c0, hb, hk, hf, hst, hr, hold, hsc, hsk, hnd, hmem⟩ := h
  have hst3 := (stamped_iff es clock).1 hst
  have hSnd : S.Nodup := by
    have h4 : (es.toList.map (·.key)).Pairwise (· ≠ ·) := List.pairwise_map.2 hst3.2.2
    rw [hk] at h4
    exact (List.pairwise_map.1 h4).imp (fun h e => h (by rw [e]))
  have hne : r ≠ b := fun e => by rw [e, hb] at hr; cases hr
  rcases run_next_at (P := Try.prog) w ty r b since c0 seen es clock hr hb hold hsc with ⟨h0, hrun⟩ | ⟨e, he, w1, hal, hrun⟩
  · refine .inl ⟨(List.perm_ext_iff_of_nodup hSnd hnd).2 fun p => ?_, hrun⟩
    rw [hmem]
    constructor
    · intro hp
      obtain ⟨e, he, h1⟩ := key_ent hk hp
      exact ⟨e, he, h1, all_seen es seen h0 e he⟩
    · rintro ⟨e, he, h1, _⟩
      obtain ⟨q, hq, h2⟩ := ent_key hk he
      rw [lkV_inj (h1.symm.trans h2)]
      exact hq
  · obtain ⟨hem, hes⟩ := mem_left he
    obtain ⟨p, hp, hkp⟩ := ent_key hk hem
    have hpn : ¬ p ∈ ss := fun hm => by
      obtain ⟨e1, he1, h1, h2⟩ := (hmem p).1 hm
      have := entry_eq_of_key hst3.2.2 he1 hem (h1.trans hkp.symm)
      rw [this, hes] at h2
      cases h2
    have hnd2 : (ss ++ [p]).Nodup := by
      rw [List.nodup_append]
      exact ⟨hnd, List.nodup_cons.2 ⟨by simp, List.nodup_nil⟩, fun x hx z hz => by rw [List.mem_singleton] at hz; rintro rfl; exact hpn (hz ▸ hx)⟩
    have hr1 : w1.heap[r]? = some (.mapIter (some b) since seen c0) := by rcases hal with rfl | rfl <;> exact hr
    have hb1 : w1.heap[b]? = some (.map es clock) := by rcases hal with rfl | rfl <;> exact hb
    have hset := heap_set (o' := .mapIter (some b) since (seen.push e.born) clock) hr1
    have hb' : (setBlock w1 r (.mapIter (some b) since (seen.push e.born) clock)).heap[b]? = some (.map es clock) := (hset.2 b (fun e1 => hne e1.symm)).trans hb1
    have hr' : (setBlock w1 r (.mapIter (some b) since (seen.push e.born) clock)).heap[r]? = some (.mapIter (some b) since (seen.push e.born) clock) := hset.1
    have hmem2 : ∀ q, q ∈ ss ++ [p] ↔ ∃ e' ∈ es.toList, e'.key = lkV q ∧ (seen.push e.born).contains e'.born = true := fun q => by
      rw [List.mem_append, List.mem_singleton, hmem]
      constructor
      · rintro (⟨e1, he1, h1, h2⟩ | rfl)
        · exact ⟨e1, he1, h1, by simp at h2 ⊢; exact .inl h2⟩
        · exact ⟨e, hem, hkp, by simp⟩
      · rintro ⟨e1, he1, h1, h2⟩
        have h2' : e1.born ∈ seen ∨ e1.born = e.born := by simpa using h2
        rcases h2' with h3 | h3
        · exact .inl ⟨e1, he1, h1, by simpa using h3⟩
        · have := born_inj hst3.2.1 he1 hem h3
          subst this
          exact .inr (lkV_inj (h1.symm.trans hkp))
    have hsub : ∀ q, q ∈ ss ++ [p] → q ∈ S := fun q hq => by
      obtain ⟨e1, he1, h1, _⟩ := (hmem2 q).1 hq
      obtain ⟨q', hq', h2⟩ := ent_key hk he1
      rw [lkV_inj (h1.symm.trans h2)]
      exact hq'
    refine .inr ⟨p, e.val, _, hf p hp, nodup_subP hnd2 hsub, by rw [← hkp]; exact hrun, ⟨es, clock, since, seen.push e.born, clock, hb', hk, hf, hst, hset.1, hold, hsk, hsk, hnd2, hmem2⟩, ?_, ?_, ?_, ?_⟩
    · simp only [World.rangeLeft, hb', hr', hb, hr]
      exact left_shrinks es seen e he
    · rcases hal with rfl | rfl
      · exact ⟨rfl, rfl, rfl, by simp [setBlock], fun i _ hi => hset.2 i (fun e1 => hi (by rw [e1]))⟩
      · exact ⟨rfl, rfl, rfl, by simp [setBlock], fun i _ hi => hset.2 i (fun e1 => hi (by rw [e1]))⟩
    · rcases hal with rfl | rfl <;> simp [setBlock]
    · rw [← hkp]
      exact run_entry_at _ r b since seen es clock e hset.1 hb' hem hst3.2.1
end Go.Proofs.Ytbjjgcfmdlinaaa
/- maps.Keys of a map whose keys are links: its iterator, for every loop body that keeps its word. -/
namespace Go.Proofs.Ytbjjgcfmdlinaaa
open Go.RowKit Go.Shelf
section
variable {F : Fence} {n : Nat} {w : World} {ops : Array Oper} {rest : List Oper} {o : Oper} {a : Act} {Q : Exit → Act → World → Prop}
/-- 'range m'. -/
theorem wpIn_rangeP (hg : o.guard = none) (m : Operand) (t : TypeId) (hop : o.op = Op.range t m) (e : TypeId) (ht : Try.prog.underlying t = some (.map 38 e)) (b : Nat) (S : List (Int × Int))
    (hm : a.eval m = .map (some b)) (hown : MapP w b S)
    (hK : ∀ w', RangeP w' b w.heap.size S [] → w.grownBy w' none → w'.heap.size = w.heap.size + 1 → wpListIn F n Try.prog ops Q rest (a.put o.dst (.pointer (some ⟨w.heap.size, 0, none⟩))) w') :
    wpListIn F n Try.prog ops Q (o :: rest) a w := by
  refine wpListIn_plain hg fun K' hK' => ?_
  obtain ⟨w', hrun, r1, r2, r3⟩ := hown.range ht
  unfold Oper.wpIn
  refine ⟨by simp [Oper.about, hop], ?_⟩
  rw [Oper.semAt_plain F _ _ (by rw [hop]; intro c hc'; cases hc')]
  simp [execOp, hop, hm, hrun, Result.andThen]
  exact hK' _ _ (hK w' r1 r2 r3)
/-- The step. -/
theorem wpIn_nextP (hg : o.guard = none) (it : Operand) (hop : o.op = Op.next it false) (b r : Nat) (S ss : List (Int × Int)) (hit : a.eval it = .pointer (some ⟨r, 0, none⟩)) (h : RangeP w b r S ss)
    (hDone : S.Perm ss → wpListIn F n Try.prog ops Q rest (a.put o.dst (.tuple #[.bool false])) w)
    (hMore : ∀ (x y : Int) (v : Value) (w' : World), FitP (x, y) → ss.length < S.length → RangeP w' b r S (ss ++ [(x, y)]) → w'.rangeLeft b r < w.rangeLeft b r → w.grownBy w' (some r) → w'.heap.size = w.heap.size →
      (Instr.entry (.pointer (some ⟨r, 0, none⟩))).run Try.prog w' = .ok (.tuple #[.agg #[.int .i64 x, .int .i64 y], v]) w' → wpListIn F n Try.prog ops Q rest (a.put o.dst (.tuple #[.bool true, .agg #[.int .i64 x, .int .i64 y], v])) w') :
    wpListIn F n Try.prog ops Q (o :: rest) a w := by
  refine wpListIn_plain hg fun K' hK' => ?_
  unfold Oper.wpIn
  refine ⟨by simp [Oper.about, hop], ?_⟩
  rw [Oper.semAt_plain F _ _ (by rw [hop]; intro c hc'; cases hc')]
  rcases h.next o.type with ⟨hp, hrun⟩ | ⟨⟨x, y⟩, v, w', hf, hlen, hrun, hrg, hlt, hgr, hsz, hen⟩
  · simp [execOp, hop, hit, hrun, Result.andThen]
    exact hK' _ _ (hDone hp)
  · rw [show lkV (x, y) = .agg #[.int .i64 x, .int .i64 y] from rfl] at hrun hen
    simp [execOp, hop, hit, hrun, Result.andThen]
    exact hK' _ _ (hMore x y v w' hf (by simp at hlen; omega) hrg hlt hgr hsz hen)
end
set_option maxRecDepth 100000 in
set_option maxHeartbeats 1600000 in
theorem keys1_in (F : Fence) (n : Nat) (hF : F.fn 83) (hro : F.round = none) (hn : 1 ≤ n) (l Bm b : Nat) (S : List (Int × Int)) (J Jx : List (Int × Int) → World → Prop)
    (hY : ∀ pre (x : Int × Int) W, J pre W → pre.length < S.length → YieldAt F (n - 1) Try.prog l #[.agg #[.int .i64 x.1, .int .i64 x.2]] W fun e W' =>
      (e = .returned (.bool true) ∧ J (pre ++ [x]) W' ∧ KeepsWalks W W') ∨ (e = .returned (.bool false) ∧ Jx (pre ++ [x]) W'))
    (W : World) (hJ : AbidesFrom W.heap.size J) (hm : W.cell? ⟨Bm, 0, none⟩ = some (.map (some b))) (hown : MapP W b S) (h0 : J [] W) :
    CallsIn F n Try.prog 83 #[.func (.yield l) #[] #[], .pointer (some ⟨Bm, 0, none⟩)] W fun e W' => (∃ v, e = .returned v) ∧ ((∃ xs, S.Perm xs ∧ J xs W') ∨ (∃ pre, True ∧ Jx pre W')) := by
  refine callsIn_of_wp Try.func83 rfl hF ?_ hro
  simp only [Try.ntmps83, List.size_toArray, List.length_cons, List.length_nil, Nat.reduceAdd, Nat.reduceSub, Array.replicate_succ, Array.replicate_zero, List.push_toArray, List.append_toArray, List.nil_append, List.cons_append]
  gi_wp2_with (first
    | (gi_at_range; refine wpIn_rangeP rfl _ 64 rfl _ Try.underlying64 b S rfl hown ?_; intro w0 hrg0 hg0 hs0)
    | gi_in)
  go_frame
  gi_loopw [3] (fun _ wr => ∃ ss : List (Int × Int), RangeP wr b W.heap.size S ss ∧ J ss wr) (fun _ wr => wr.rangeLeft b W.heap.size)
  case atStart =>
    exact ⟨[], hrg0, hJ [] W w0 none h0 hg0 (fun r e => by cases e)⟩
  case round =>
    obtain ⟨ss, hrg, hJs⟩ := hrel
    gi_wp2_with (first
      | (gi_at_next; refine wpIn_nextP rfl _ rfl b W.heap.size S ss rfl hrg ?_ ?_)
      | gi_in)
    · intro hp
      gi_wp2
      go_end0
      exact ⟨⟨_, rfl⟩, .inl ⟨ss, hp, hJs⟩⟩
    · intro x y v w2 hfit hlen hrg2 hlt hg2 hs2 hen
      have hJ2 : J ss w2 := hJ ss wr w2 (some W.heap.size) hJs hg2 (fun r e => by cases e; exact ⟨Nat.le_refl _, hrg.walk⟩)
      have hJ3 : J ss (w2.alloc (.cells #[.int .i64 x, .int .i64 y] 38)) := hJ ss w2 _ none hJ2 (World.grownBy_alloc w2 _ none) (fun r e => by cases e)
      obtain ⟨fn, tmps, assign, body, hy, hR⟩ := hY ss (x, y) _ hJ3 hlen
      dsimp only at hy
      clear hs2
      gi_wp2
      refine hR.mono ?_
      rintro e W3 (⟨rfl, hJ4, hk4⟩ | ⟨rfl, hJx4⟩)
      · have hk3 : KeepsWalks w2 W3 := (KeepsWalks.alloc w2 _).trans hk4
        have hrg3 := hrg2.of_walks hk3
        have hlf := hrg2.left_walks hk3
        gi_wp2
        go_roundw
        case rel => exact ⟨ss ++ [(x, y)], hrg3, hJ4⟩
        case measure => rw [hlf]; exact hlt
      · gi_wp2
        refine bodyPost_ret (results_none rfl _ _ _) rfl ?_
        exact ⟨⟨_, rfl⟩, .inr ⟨_, trivial, hJx4⟩⟩
set_option maxHeartbeats 1000000 in
theorem keys_in (F : Fence) (n : Nat) (hF : F.fn 66) (hro : F.round = none) (mb : Option Nat) (w : World) :
    CallsIn F n Try.prog 66 #[.map mb] w fun e w' => e = .returned (.func (.func 83) #[] #[.pointer (some ⟨w.heap.size, 0, none⟩)]) ∧ w' = w.alloc (.cells #[.map mb] 64) := by
  refine callsIn_of_wp Try.func66 rfl hF ?_ hro
  simp only [Try.ntmps66, List.size_toArray, List.length_cons, List.length_nil, Nat.reduceAdd, Nat.reduceSub, Array.replicate_succ, Array.replicate_zero, List.push_toArray, List.append_toArray, List.nil_append, List.cons_append]
  gi_wp2
  go_ret
  exact ⟨rfl, rfl⟩
theorem keys_stops (F : Fence) (n : Nat) (hF : F.fn 83) (hro : F.round = none) (hn : 1 ≤ n) (Bm b : Nat) (S : List (Int × Int)) (w : World) (hBm : Bm < w.heap.size)
    (hm : w.cell? ⟨Bm, 0, none⟩ = some (.map (some b))) (hown : MapP w b S) :
    SeqStopsK F n Try.prog 83 #[.pointer (some ⟨Bm, 0, none⟩)] (fun x : Int × Int => #[Value.agg #[.int .i64 x.1, .int .i64 x.2]]) KeepsWalks (fun xs => S.Perm xs) (fun _ => True) S.length w := fun l J Jx W hW hJ _ hY h0 =>
  keys1_in F n hF hro hn l Bm b S J Jx hY W hJ ((hW.cell (p := ⟨Bm, 0, none⟩) hBm).trans hm) (hown.below hW) h0
end Go.Proofs.Ytbjjgcfmdlinaaa
/- slices.AppendSeq of links, over whatever iterator keeps its word. -/
namespace Go.Proofs.Ytbjjgcfmdlinaaa
open Go.RowKit Go.Shelf
attribute [local go_sem] Oper.semAt_some
/-- Block B holds one link. -/
def LinkAt (W : World) (B : Nat) (x : Int × Int) : Prop := W.heap[B]? = some (.cells #[.int .i64 x.1, .int .i64 x.2] 38 (0, 0))
theorem linkAt_own (B : Nat) (x : Int × Int) : Go.Own (fun (_ : Unit) W => LinkAt W B x) := fun _ X Y row hs hg hrow => by
  have hs' : X.heap[B]? = some (.cells #[.int .i64 x.1, .int .i64 x.2] 38 (0, 0)) := hs
  exact (grownBy_keeps_cells hg hrow hs' rfl).trans hs'
theorem LinkAt.pair {W : World} {B : Nat} {x : Int × Int} (h : LinkAt W B x) : W.cell? ⟨B, 0, none⟩ = some (.int .i64 x.1) ∧ W.cell? ⟨B, 1, none⟩ = some (.int .i64 x.2) := by
  have h' : W.heap[B]? = some (.cells #[.int .i64 x.1, .int .i64 x.2] 38 (0, 0)) := h
  exact ⟨by simp [World.cell?, h'], by simp [World.cell?, h']⟩
theorem cell_two_new (w : World) (x y : Value) (t : TypeId) : ∀ j u, [x, y][j]? = some u → (w.alloc (.cells #[x, y] t)).cell? ((⟨w.heap.size, 0, none⟩ : Addr).add j) = some u := by
  intro j u hj
  match j, hj with
  | 0, hj => simp at hj; subst hj; simp [Addr.add]
  | 1, hj => simp at hj; subst hj; simp [Addr.add]
set_option maxRecDepth 100000 in
set_option maxHeartbeats 1600000 in
theorem appendSeq_in (F : Fence) (n : Nat) (hF : F.fn 65) (hro : F.round = none) (hn : 3 ≤ n) (lo g c0 : Nat) (w : World) (hlo : lo ≤ w.heap.size) (hv0 : w.ownsRow lo 38 2 (.slice (some ⟨g, 0, none⟩) 0 c0) 0 [])
    (gf : Nat) (lb : Array Value) (hFg : F.fn gf) (eg : ∀ args w, (callFunc gf args).run Try.prog w = .ok (.enter gf args) w) (S Sp : List (Int × Int) → Prop) (N : Nat) (hN : N ≤ 1048576) (hseq : SeqStopsK F (n - 1) Try.prog gf lb (fun x : Int × Int => #[Value.agg #[.int .i64 x.1, .int .i64 x.2]]) KeepsWalks S Sp N w) :
    CallsIn F n Try.prog 65 #[.slice (some ⟨g, 0, none⟩) 0 c0, .func (.func gf) #[] lb] w fun e w' => ∃ v xs, e = .returned v ∧ S xs ∧ w'.ownsRow lo 38 2 v xs.length ((flatL xs).map (.int .i64)) ∧ Below lo w w' := by
  have h1 : 1 ≤ n := by omega
  obtain ⟨i0, hi, hz0, hz1, hz2⟩ := info_parts info_link
  refine callsIn_of_wp_marks Try.func65 rfl hF ?_ hro
  simp only [Try.ntmps65, List.size_toArray, List.length_cons, List.length_nil, Nat.reduceAdd, Nat.reduceSub, Array.replicate_succ, Array.replicate_zero, List.push_toArray, List.append_toArray, List.nil_append, List.cons_append]
  gi_wp2
  have hzv : (w.alloc (.cells #[.slice (some ⟨g, 0, none⟩) 0 c0] 24)).heap.size = w.heap.size + 1 := by simp
  refine wpIn_rangeFunc_ownH hro h1 (gf := gf) (lb := lb) rfl hFg eg hseq walksK_t walksK_b ((Below.refl _ _).alloc (Nat.le_refl _) _) (fun _ => rfl)
    (fun pre W => (∃ v, Boxed W w.heap.size 24 v ∧ W.ownsRow lo 38 2 v pre.length ((flatL pre).map (.int .i64)) ∧ True) ∧ Below lo w W)
    (fun _ _ _ => False)
    (OwnFrom.and (Go.Own.from (holdsRow_own lo w.heap.size 24 38 2 (fun pre : List (Int × Int) => pre.length) (fun pre => (flatL pre).map (.int .i64)) (fun _ _ => True)) _) (ownFrom_below hlo (by rw [hzv]; omega)))
    (fun _ _ _ _ _ hs _ _ => hs)
    ⟨⟨_, Boxed.new w _ _, hv0.alloc _, trivial⟩, (Below.refl lo w).alloc hlo _⟩
    (fun x a' W => ∃ Bx, w.heap.size < Bx ∧ LinkAt W Bx x ∧ a' = { tmps := #[.slice (some ⟨g, 0, none⟩) 0 c0, .func (.func gf) #[] lb, .pointer (some ⟨w.heap.size, 0, none⟩), undef, .slice none 0 0, .pointer (some ⟨Bx, 0, none⟩), .func (.func gf) #[] lb, .agg #[.int .i64 x.1, .int .i64 x.2], undef, undef, undef, undef, undef], defers := [] })
    (fun x a' => fun s X Y row hs hg hr => by
      obtain ⟨Bx, h1, h2, h3⟩ := hs
      exact ⟨Bx, h1, linkAt_own Bx x s X Y row h2 hg (fun r e => (hr r e).2), h3⟩) ?assign ?body ?done ?stop
  case assign =>
    rintro l pre x W K ⟨⟨v, hv, hrow, _⟩, hB⟩ hK
    gi_wp2
    exact hK _ _ ((KeepsOthers.alloc _ _).from _) (KeepsWalks.alloc _ _) ⟨⟨v, hv.alloc _, hrow.alloc _, trivial⟩, hB.alloc (Nat.le_trans hlo (by have := hB.size; omega)) _⟩ ⟨W.heap.size, hv.lt, World.alloc_heap_new W _, rfl⟩
  case body =>
    rintro l pre x a' W hl ⟨r, hr⟩ ⟨⟨v, hv, hrow, _⟩, hB⟩ ⟨Bx, hBx, bX, rfl⟩ hlt
    have hc := hv.cell
    obtain ⟨hx0, hx1⟩ := bX.pair
    have hsz := hB.size
    gi_wp2_with (gi_at_builtin; refine wpListIn_append_own _ rfl _ _ 24 rfl lo 38 i0 (.agg #[.int .i64 0, .int .i64 0]) 2 16 Try.underlying24 hi hz0 hz1 hz2 rfl (by decide) _ _ _ rfl (hrow.alloc _) ⟨W.heap.size, 0, none⟩ 1 1 [.int .i64 x.1, .int .i64 x.2] rfl rfl (cell_two_new _ _ _ _) (by simp [Value.oneCell']) (by unfold maxLen; omega) (by omega) (by simp; omega) ?_; intro v' w1 hown' hgrow _; obtain ⟨g', cap', rfl⟩ := ownsRow_succ hown'; obtain ⟨hv1, hv2, hr2, hk2, hb2⟩ := hv.appended (by decide) hrow (Nat.le_trans hlo hsz) hlo hown' hgrow; have hc1 := hv1.cell; have hf1 := hv1.frozen)
    refine ⟨hk2.from _, hk2.walks, ⟨_, hv2, ?_, trivial⟩, hB.trans hb2⟩
    rw [flatL_append, List.map_append, List.length_append]
    exact hr2
  case done =>
    rintro D xs W hD hS ⟨⟨v, hv, hrow, _⟩, hB⟩ hK
    have hc := hv.cell
    gi_wp2
    refine ⟨by simp, .inl ⟨_, _, rfl, run_takeDeferred hK, ?_⟩⟩
    exact ⟨_, results_tmp rfl _ _ _, v, xs, rfl, hS, ownsRow_putObj hrow _ hK rfl, hB.trans (belowK_b (w := w) hlo W D _ _ (by rw [hzv] at hD; omega) hK rfl rfl)⟩
  case stop =>
    rintro D c pre W _ _ h _
    exact h.elim
end Go.Proofs.Ytbjjgcfmdlinaaa
