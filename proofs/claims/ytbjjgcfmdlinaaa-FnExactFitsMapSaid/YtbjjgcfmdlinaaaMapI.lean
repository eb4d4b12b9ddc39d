/- A map of the call's own, keyed by integers: what it holds, key by key. -/
import Derived.Test.YtbjjgcfmdlinaaaSl
import Derived.Maps.OwnOps
namespace Go.Proofs.Ytbjjgcfmdlinaaa
open Go.RowKit Go.Maps Go.ChangeMaps Go.MapKept
/-- Block b is a map of n entries; at the key x it holds F x. -/
def MapI (w : World) (b n : Nat) (F : Int → Option Value) : Prop :=
  ∃ es clock, w.heap[b]? = some (.map es clock) ∧ es.size = n ∧ (∀ e ∈ es.toList, ∃ x : Int, e.key = .int .i64 x ∧ (Lit.int .i64 x).wf = true ∧ F x = some e.val) ∧ ∀ (x : Int) (v : Value), F x = some v → ∃ e ∈ es.toList, e.key = .int .i64 x
theorem mapI_made (w : World) : MapI (w.alloc (.map #[] 0)) w.heap.size 0 (fun _ => none) :=
  ⟨#[], 0, (MapKept.heap_alloc w _).1, rfl, by simp, fun _ _ h => by cases h⟩
theorem MapI.lt {w : World} {b n : Nat} {F : Int → Option Value} (h : MapI w b n F) : b < w.heap.size := by
  obtain ⟨es, clock, hb, _⟩ := h
  exact (Array.getElem?_eq_some_iff.1 hb).1
theorem MapI.kept {w w' : World} {b n : Nat} {F : Int → Option Value} {row : Option Nat} (h : MapI w b n F) (hg : w.grownBy w' row) (hne : some b ≠ row) : MapI w' b n F := by
  have hlt := h.lt
  obtain ⟨es, clock, hb, r⟩ := h
  exact ⟨es, clock, (hg.block b hlt hne).trans hb, r⟩
theorem MapI.below {w w' : World} {b n : Nat} {F : Int → Option Value} (h : MapI w b n F) (hb : Below w.heap.size w w') : MapI w' b n F :=
  h.kept (row := none) ⟨hb.os, hb.tape, hb.output, hb.size, fun k hk _ => hb.block k hk⟩ (by simp)
theorem MapI.moved {w w' : World} {b n lo hi : Nat} {F : Int → Option Value} (h : MapI w b n F) (hm : Moved lo hi w w') (ho : ¬ (lo ≤ b ∧ b < hi)) : MapI w' b n F := by
  have hlt := h.lt
  obtain ⟨es, clock, hb, r⟩ := h
  exact ⟨es, clock, (hm.block b hlt ho).trans hb, r⟩
theorem MapI.alloc {w : World} {b n : Nat} {F : Int → Option Value} (h : MapI w b n F) (o : Obj) : MapI (w.alloc o) b n F := h.below ((Below.refl _ _).alloc (Nat.le_refl _) _)
section
variable {P : Program} {k e t : TypeId} {w : World} {b n : Nat} {F : Int → Option Value}
theorem keys_of (hk : P.underlying k = some (.int .i64)) {es : Array MapEntry} (h : ∀ e ∈ es.toList, ∃ x : Int, e.key = .int .i64 x ∧ (Lit.int .i64 x).wf = true ∧ F x = some e.val) : ∀ e ∈ es.toList, ∃ l, keyOf P k e.key = some l := fun e he => by
  obtain ⟨x, hx, hw, _⟩ := h e he
  exact ⟨_, by rw [hx]; exact keyOf_int_mk hk hw⟩
/-- 'm[x]'. -/
theorem MapI.look (h : MapI w b n F) (hk : P.underlying k = some (.int .i64)) (ht : P.underlying t = some (.map k e)) {z : Value} (hz : (zeroValue e).run P w = .ok z w) {x : Int} (hx : (Lit.int .i64 x).wf = true) (c : Bool) :
    (Instr.lookup t (.map (some b)) (.int .i64 x) c).run P w = .ok (match F x with | some v => if c then .tuple #[v, .bool true] else v | none => if c then .tuple #[z, .bool false] else z) w := by
  obtain ⟨es, clock, hb, _, h1, h2⟩ := h
  have K : Keyed P k := int_keyed hk
  have hkey := keyOf_int_mk hk hx
  rcases K.find w hkey es.toList (keys_of hk h1) with ⟨g1, g2⟩ | ⟨j, e0, g1, g2, g3⟩
  · have hF : F x = none := by
      cases hF : F x with
      | none => rfl
      | some v =>
        obtain ⟨e1, he1, hk1⟩ := h2 x v hF
        exact absurd hk1 (g2 e1 he1)
    rw [hF]
    simp [Instr.lookup, run_underlying ht, MapKept.run_getObj_map hb, K.check w _ hkey, g1, hz, Result.andThen]
  · obtain ⟨y, hy, _, hFy⟩ := h1 e0 (List.mem_of_getElem? g2)
    obtain rfl : x = y := by rw [g3] at hy; simpa using hy
    rw [hFy]
    simp [Instr.lookup, run_underlying ht, MapKept.run_getObj_map hb, K.check w _ hkey, g1, Result.andThen]
/-- 'm[x] = v'. -/
theorem MapI.put (h : MapI w b n F) (hk : P.underlying k = some (.int .i64)) (ht : P.underlying t = some (.map k e)) {x : Int} (hx : (Lit.int .i64 x).wf = true) (hnew : F x = none) (v : Value) :
    ∃ w', (Instr.mapUpdate t (.map (some b)) (.int .i64 x) v).run P w = .ok () w' ∧ MapI w' b (n + 1) (fun y => if y = x then some v else F y) ∧ w.grownBy w' (some b) := by
  obtain ⟨es, clock, hb, hs, h1, h2⟩ := h
  have K : Keyed P k := int_keyed hk
  have hkey := keyOf_int_mk hk hx
  have grow : ∀ es' clock', w.grownBy (setBlock w b (.map es' clock')) (some b) := fun es' clock' => ⟨rfl, rfl, rfl, by simp [setBlock], fun i _ hi => heap_setBlock_other hb _ (fun e => hi (by rw [e]))⟩
  rcases K.find w hkey es.toList (keys_of hk h1) with ⟨g1, g2⟩ | ⟨j, e0, g1, g2, g3⟩
  · refine ⟨_, by simp [Instr.mapUpdate, run_underlying ht, MapKept.run_getObj_map hb, K.check w false hkey, g1, MapKept.run_setObj_map _ hb, Result.andThen]; rfl, ⟨es.push ⟨.int .i64 x, v, clock⟩, clock + 1, heap_setBlock_same hb _, by simp [hs], ?_, ?_⟩, grow _ _⟩
    · intro e1 he1
      simp only [Array.toList_push, List.mem_append, List.mem_singleton] at he1
      rcases he1 with he1 | rfl
      · obtain ⟨y, hy, hw, hF⟩ := h1 e1 he1
        refine ⟨y, hy, hw, ?_⟩
        have : y ≠ x := fun e => g2 e1 he1 (by rw [hy, e])
        simp only [this, if_false]
        exact hF
      · exact ⟨x, rfl, hx, by simp⟩
    · intro y u hu
      simp only [Array.toList_push, List.mem_append, List.mem_singleton]
      by_cases e : y = x
      · exact ⟨_, .inr rfl, by rw [e]⟩
      · simp only [e, if_false] at hu
        obtain ⟨e1, he1, hk1⟩ := h2 y u hu
        exact ⟨e1, .inl he1, hk1⟩
  · obtain ⟨y, hy, _, hFy⟩ := h1 e0 (List.mem_of_getElem? g2)
    obtain rfl : x = y := by rw [g3] at hy; simpa using hy
    rw [hnew] at hFy
    cases hFy
/-- .. at the operation, for the walk. -/
theorem wp_mapPut {ops : Array Oper} {rest : List Oper} {o : Oper} {a : Act} {Q : Exit → Act → World → Prop} (hg : o.guard = none) (m key v : Operand) (hop : o.op = Op.mapUpdate t m key v ∨ o.op = Op.insert t m key v)
    (h : MapI w b n F) (hk : P.underlying k = some (.int .i64)) (ht : P.underlying t = some (.map k e)) {x : Int} (hm : a.eval m = .map (some b)) (hkey : a.eval key = .int .i64 x) (hx : (Lit.int .i64 x).wf = true) (hnew : F x = none)
    {val : Value} (hv : a.eval v = val) (hK : ∀ w', MapI w' b (n + 1) (fun y => if y = x then some val else F y) → w.grownBy w' (some b) → wpList P ops Q rest (a.put o.dst undef) w') : wpList P ops Q (o :: rest) a w := by
  refine wpList_plain hg fun K' hK' => ?_
  obtain ⟨w', hrun, r1, r2⟩ := h.put hk ht hx hnew val
  unfold Oper.wp
  rcases hop with hop | hop
  · simp [execOp, hop, hm, hkey, hv, hrun, Result.andThen]
    exact hK' _ _ (hK w' r1 r2)
  · simp [execOp, hop, hm, hkey, hv, hrun, Result.andThen]
    exact hK' _ _ (hK w' r1 r2)
end
end Go.Proofs.Ytbjjgcfmdlinaaa
