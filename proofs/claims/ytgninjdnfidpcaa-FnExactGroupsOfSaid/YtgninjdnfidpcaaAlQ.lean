/- Replies of the call's own in the words of the library's sort, and back. -/
import Derived.Test.YtgninjdnfidpcaaAlU
import Derived.Shelf.GgSortFunc.InsertionK
import Derived.Sort.OwnSortedInts
namespace Go.Proofs.Ytgninjdnfidpcaa
open Go.RowKit Go.Sort
def encY (p : Int × Int × Int) : List Value := [.int .i64 p.1, .int .i64 p.2.1, .int .i64 p.2.2]
theorem encY_len (p : Int × Int × Int) : (encY p).length = 3 := rfl
theorem encY_one (p : Int × Int × Int) : ∀ v ∈ encY p, v.oneCell' = true := fun v hv => by
  simp only [encY, List.mem_cons, List.not_mem_nil, or_false] at hv
  rcases hv with rfl | rfl | rfl <;> rfl
theorem arr_get (zs : List (Int × Int × Int)) (j : Nat) (hj : j < zs.length) : zs.toArray[j]! = zs.getD j (0, 0, 0) := by
  simp [List.getD, hj]
theorem flatK_toList (zs : List (Int × Int × Int)) : (flatK encY 3 zs.toArray).toList = (flatY zs).map (Value.int .i64) := by
  apply List.ext_getElem?
  intro t
  by_cases ht : t < zs.length * 3
  · have h1 : (flatK encY 3 zs.toArray)[t]! = (encY zs.toArray[t / 3]!)[t % 3]! := get_flatK _ _ _ t (by simpa using ht)
    have hs : t < (flatK encY 3 zs.toArray).size := by simpa using ht
    rw [getElem!_pos _ t hs] at h1
    rw [Array.getElem?_toList, Array.getElem?_eq_getElem hs, h1, List.getElem?_map]
    obtain ⟨k, hk⟩ : ∃ k, t = k * 3 ∨ t = k * 3 + 1 ∨ t = k * 3 + 2 := ⟨t / 3, by omega⟩
    obtain ⟨f0, f1, f2⟩ := flatY_at zs k (by omega)
    rcases hk with rfl | rfl | rfl
    · rw [f0, show k * 3 / 3 = k by omega, show k * 3 % 3 = 0 by omega, arr_get zs k (by omega)]; rfl
    · rw [f1, show (k * 3 + 1) / 3 = k by omega, show (k * 3 + 1) % 3 = 1 by omega, arr_get zs k (by omega)]; rfl
    · rw [f2, show (k * 3 + 2) / 3 = k by omega, show (k * 3 + 2) % 3 = 2 by omega, arr_get zs k (by omega)]; rfl
  · rw [List.getElem?_eq_none (by simp; omega), List.getElem?_eq_none (by rw [List.length_map, flatY_len]; omega)]
theorem holdsK_own {w : World} {lo hi g len cap : Nat} {zs : List (Int × Int × Int)} (h : OwnY w lo hi (some ⟨g, 0, none⟩) len cap zs) : HoldsK encY 3 w g 0 zs.toArray := by
  intro t ht
  have ht3 : t < zs.length * 3 := by simpa using ht
  have hl := h.1
  have h1 : (flatK encY 3 zs.toArray)[t]! = (encY zs.toArray[t / 3]!)[t % 3]! := get_flatK _ _ _ t (by simpa using ht3)
  rw [Nat.zero_add, h1]
  obtain ⟨k, hk⟩ : ∃ k, t = k * 3 ∨ t = k * 3 + 1 ∨ t = k * 3 + 2 := ⟨t / 3, by omega⟩
  obtain ⟨c0, c1, c2, hf⟩ := h.spotAt k (by omega)
  rcases hk with rfl | rfl | rfl
  · rw [c0, show k * 3 / 3 = k by omega, show k * 3 % 3 = 0 by omega, arr_get zs k (by omega)]; exact ⟨rfl, hf _⟩
  · rw [c1, show (k * 3 + 1) / 3 = k by omega, show (k * 3 + 1) % 3 = 1 by omega, arr_get zs k (by omega)]; exact ⟨rfl, hf _⟩
  · rw [c2, show (k * 3 + 2) / 3 = k by omega, show (k * 3 + 2) % 3 = 2 by omega, arr_get zs k (by omega)]; exact ⟨rfl, hf _⟩
theorem heap_sortedK {w : World} {g n : Nat} {os : Array Obj} {cur : Array Value} {e : TypeId} {fr : Nat × Nat} (F : Array Value) (hb : w.heap[g]? = some (.cells cur e fr)) :
    (grow (putRow id (Sort.ahead w n) g 0 F) os).heap[g]? = some (.cells (putCells id 0 F cur) e fr) := by
  have hg : g < w.heap.size := (Array.getElem?_eq_some_iff.1 hb).1
  rw [heap_grow_old _ _ (by simpa using hg)]
  simp [putRow, mapBlock, Sort.ahead, Array.getElem?_modify, hb, onCells]
theorem grownBy_sortedK {w : World} {g n : Nat} {os : Array Obj} (F : Array Value) : w.grownBy (grow (putRow id (Sort.ahead w n) g 0 F) os) (some g) := by
  refine ⟨rfl, rfl, rfl, by simp, fun k hk hne => ?_⟩
  rw [heap_grow_old _ _ (by simpa using hk)]
  have : g ≠ k := fun e => hne (by rw [e])
  simp [putRow, mapBlock, Sort.ahead, Array.getElem?_modify, this]
theorem take_putCellsK (cur F : Array Value) (h : F.size ≤ cur.size) : (putCells id 0 F cur).toList.take F.size = F.toList := by
  apply List.ext_getElem?
  intro j
  by_cases hj : j < F.size
  · rw [List.getElem?_take_of_lt hj, Array.getElem?_toList]
    simp [putCells, hj, show j < cur.size by omega]
  · rw [List.getElem?_take_eq_none (by omega), List.getElem?_eq_none (by simp; omega)]
/-- Behind a sort: the same row, in another order. -/
theorem OwnY.sorted {w : World} {lo hi g len cap n : Nat} {os : Array Obj} {zs ys : List (Int × Int × Int)} (h : OwnY w lo hi (some ⟨g, 0, none⟩) len cap zs) (hp : zs.Perm ys) :
    OwnY (sortWorldK encY 3 w g 0 n ys.toArray os) lo hi (some ⟨g, 0, none⟩) len cap ys ∧ Moved lo hi w (sortWorldK encY 3 w g 0 n ys.toArray os) := by
  have hgr : w.grownBy (sortWorldK encY 3 w g 0 n ys.toArray os) (some g) := grownBy_sortedK (flatK encY 3 ys.toArray)
  have hb := h.2.2.2.2 _ rfl
  simp only at hb
  have hl : ys.length = len := by rw [← hp.length_eq]; exact h.1
  refine ⟨⟨hl, fun p hp2 => h.2.1 p (hp.mem_iff.2 hp2), Nat.le_trans h.2.2.1 hgr.size, ⟨by rw [List.length_map, flatY_len, hl], ?_⟩, h.2.2.2.2⟩, Moved.of_grown hgr hb.1 hb.2⟩
  rcases h.2.2.2.1.2 with ⟨hv, _⟩ | ⟨g', c, cur, hv, hlo, hg, hnc, hcm, hcs, htk⟩
  · cases hv
  · cases hv
    refine .inr ⟨g, cap, _, rfl, hlo, heap_sortedK _ hg, hnc, hcm, by simp [putCells, hcs], ?_⟩
    have ht := take_putCellsK cur (flatK encY 3 ys.toArray) (by rw [size_flatK, hcs]; simp only [List.size_toArray]; omega)
    rw [flatK_toList] at ht
    rw [size_flatK, List.size_toArray, hl] at ht
    exact ht
theorem perm_list {zs : List (Int × Int × Int)} {d : Array (Int × Int × Int)} (h : PermIn 0 zs.length zs.toArray d) : zs.Perm d.toList := by
  obtain ⟨h1, _, h3⟩ := h
  have e1 : d.extract 0 zs.length = d := by
    have : zs.length = d.size := by rw [h1]; simp
    rw [this]; simp
  have e2 : zs.toArray.extract 0 zs.length = zs.toArray := by simp
  rw [e1, e2] at h3
  exact h3.symm
end Go.Proofs.Ytgninjdnfidpcaa
