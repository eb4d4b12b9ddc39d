/- Links of the call's own in the words of the library's sort, and back; links in order. -/
import Derived.Test.YtbjjgcfmdlinaaaTrF
import Derived.Test.YtbjjgcfmdlinaaaSlL
import Derived.Shelf.GgSortFunc.InsertionK
import Derived.Sort.OwnSortedInts
import Derived.Test.YtbjjgcfmdlinaaaCmpI
import Derived.Test.YtbjjgcfmdlinaaaShelfS
import Derived.Shelf.SlSortCmp.NoneTotal
import Derived.Test.YtbjjgcfmdlinaaaMapP
import Derived.Test.YtbjjgcfmdlinaaaIntW
namespace Go.Proofs.Ytbjjgcfmdlinaaa
open Go.RowKit Go.Sort
def encL (p : Int × Int) : List Value := [.int .i64 p.1, .int .i64 p.2]
theorem encL_len (p : Int × Int) : (encL p).length = 2 := rfl
theorem encL_one (p : Int × Int) : ∀ v ∈ encL p, v.oneCell' = true := fun v hv => by
  simp only [encL, List.mem_cons, List.not_mem_nil, or_false] at hv
  rcases hv with rfl | rfl <;> rfl
theorem arr_getL (zs : List (Int × Int)) (j : Nat) (hj : j < zs.length) : zs.toArray[j]! = zs.getD j (0, 0) := by
  simp [List.getD, hj]
theorem flatKL (zs : List (Int × Int)) : (flatK encL 2 zs.toArray).toList = (flatL zs).map (Value.int .i64) := by
  apply List.ext_getElem?
  intro t
  by_cases ht : t < zs.length * 2
  · have h1 : (flatK encL 2 zs.toArray)[t]! = (encL zs.toArray[t / 2]!)[t % 2]! := get_flatK _ _ _ t (by simpa using ht)
    have hs : t < (flatK encL 2 zs.toArray).size := by simpa using ht
    rw [getElem!_pos _ t hs] at h1
    rw [Array.getElem?_toList, Array.getElem?_eq_getElem hs, h1, List.getElem?_map]
    obtain ⟨k, hk⟩ : ∃ k, t = k * 2 ∨ t = k * 2 + 1 := ⟨t / 2, by omega⟩
    rcases hk with rfl | rfl
    · rw [flatL_num zs k (by omega), show k * 2 / 2 = k by omega, show k * 2 % 2 = 0 by omega, arr_getL zs k (by omega)]; rfl
    · rw [flatL_den zs k (by omega), show (k * 2 + 1) / 2 = k by omega, show (k * 2 + 1) % 2 = 1 by omega, arr_getL zs k (by omega)]; rfl
  · rw [List.getElem?_eq_none (by simp; omega), List.getElem?_eq_none (by rw [List.length_map, flatL_len]; omega)]
theorem holdsKL {w : World} {lo hi g len cap : Nat} {zs : List (Int × Int)} (h : OwnL w lo hi (some ⟨g, 0, none⟩) len cap zs) : HoldsK encL 2 w g 0 zs.toArray := by
  intro t ht
  have ht3 : t < zs.length * 2 := by simpa using ht
  have hl := h.1
  have h1 : (flatK encL 2 zs.toArray)[t]! = (encL zs.toArray[t / 2]!)[t % 2]! := get_flatK _ _ _ t (by simpa using ht3)
  rw [Nat.zero_add, h1]
  obtain ⟨k, hk⟩ : ∃ k, t = k * 2 ∨ t = k * 2 + 1 := ⟨t / 2, by omega⟩
  obtain ⟨c0, c1, hf⟩ := h.spotAt k (by omega)
  rcases hk with rfl | rfl
  · rw [c0, show k * 2 / 2 = k by omega, show k * 2 % 2 = 0 by omega, arr_getL zs k (by omega)]; exact ⟨rfl, hf _⟩
  · rw [c1, show (k * 2 + 1) / 2 = k by omega, show (k * 2 + 1) % 2 = 1 by omega, arr_getL zs k (by omega)]; exact ⟨rfl, hf _⟩
theorem heap_sortedL {w : World} {g n : Nat} {os : Array Obj} {cur : Array Value} {e : TypeId} {fr : Nat × Nat} (F : Array Value) (hb : w.heap[g]? = some (.cells cur e fr)) :
    (grow (putRow id (Sort.ahead w n) g 0 F) os).heap[g]? = some (.cells (putCells id 0 F cur) e fr) := by
  have hg : g < w.heap.size := (Array.getElem?_eq_some_iff.1 hb).1
  rw [heap_grow_old _ _ (by simpa using hg)]
  simp [putRow, mapBlock, Sort.ahead, Array.getElem?_modify, hb, onCells]
theorem grownBy_sortedL {w : World} {g n : Nat} {os : Array Obj} (F : Array Value) : w.grownBy (grow (putRow id (Sort.ahead w n) g 0 F) os) (some g) := by
  refine ⟨rfl, rfl, rfl, by simp, fun k hk hne => ?_⟩
  rw [heap_grow_old _ _ (by simpa using hk)]
  have : g ≠ k := fun e => hne (by rw [e])
  simp [putRow, mapBlock, Sort.ahead, Array.getElem?_modify, this]
theorem take_putCellsL (cur F : Array Value) (h : F.size ≤ cur.size) : (putCells id 0 F cur).toList.take F.size = F.toList := by
  apply List.ext_getElem?
  intro j
  by_cases hj : j < F.size
  · rw [List.getElem?_take_of_lt hj, Array.getElem?_toList]
    simp [putCells, hj, show j < cur.size by omega]
  · rw [List.getElem?_take_eq_none (by omega), List.getElem?_eq_none (by simp; omega)]
/-- Behind a sort: the same row, in another order. -/
theorem OwnL.sorted {w : World} {lo hi g len cap n : Nat} {os : Array Obj} {zs ys : List (Int × Int)} (h : OwnL w lo hi (some ⟨g, 0, none⟩) len cap zs) (hp : zs.Perm ys) :
    OwnL (sortWorldK encL 2 w g 0 n ys.toArray os) lo hi (some ⟨g, 0, none⟩) len cap ys ∧ Moved lo hi w (sortWorldK encL 2 w g 0 n ys.toArray os) := by
  have hgr : w.grownBy (sortWorldK encL 2 w g 0 n ys.toArray os) (some g) := grownBy_sortedL (flatK encL 2 ys.toArray)
  have hb := h.2.2.2.2 _ rfl
  simp only at hb
  have hl : ys.length = len := by rw [← hp.length_eq]; exact h.1
  refine ⟨⟨hl, fun p hp2 => h.2.1 p (hp.mem_iff.2 hp2), Nat.le_trans h.2.2.1 hgr.size, ⟨by rw [List.length_map, flatL_len, hl], ?_⟩, h.2.2.2.2⟩, Moved.of_grown hgr hb.1 hb.2⟩
  rcases h.2.2.2.1.2 with ⟨hv, _⟩ | ⟨g', c, cur, hv, hlo, hg, hnc, hcm, hcs, htk⟩
  · cases hv
  · cases hv
    refine .inr ⟨g, cap, _, rfl, hlo, heap_sortedL _ hg, hnc, hcm, by simp [putCells, hcs], ?_⟩
    have ht := take_putCellsL cur (flatK encL 2 ys.toArray) (by rw [size_flatK, hcs]; simp only [List.size_toArray]; omega)
    rw [flatKL] at ht
    rw [size_flatK, List.size_toArray, hl] at ht
    exact ht
theorem perm_listL {zs : List (Int × Int)} {d : Array (Int × Int)} (h : PermIn 0 zs.length zs.toArray d) : zs.Perm d.toList := by
  obtain ⟨h1, _, h3⟩ := h
  have e1 : d.extract 0 zs.length = d := by
    have : zs.length = d.size := by rw [h1]; simp
    rw [this]; simp
  have e2 : zs.toArray.extract 0 zs.length = zs.toArray := by simp
  rw [e1, e2] at h3
  exact h3.symm
/-- The order of links. -/
def cmpP (p q : Int × Int) : Int := if p.1 < q.1 then -1 else if q.1 < p.1 then 1 else if p.2 < q.2 then -1 else if q.2 < p.2 then 1 else 0
theorem ltL_iff {p q : Int × Int} : ltL p q = true ↔ p.1 < q.1 ∨ (p.1 = q.1 ∧ p.2 < q.2) := by simp [ltL]
/-- Strictly in order. -/
def AscL (l : List (Int × Int)) : Prop := l.Pairwise (fun p q => ltL p q = true)
theorem ascL_uniq {xs ys : List (Int × Int)} (hx : AscL xs) (hy : AscL ys) (h : ∀ p, p ∈ xs ↔ p ∈ ys) : xs = ys := by
  have nd : ∀ {l : List (Int × Int)}, AscL l → l.Nodup := fun hl => hl.imp (fun {a b} h1 e => by rw [e, ltL_iff] at h1; omega)
  have hp := (List.perm_ext_iff_of_nodup (nd hx) (nd hy)).2 h
  refine List.Perm.eq_of_pairwise (fun a b _ _ h1 h2 => ?_) hx hy hp
  rw [ltL_iff] at h1 h2
  omega
theorem ascL_of {ys : List (Int × Int)} (hd : ys.Nodup) (h : ys.Pairwise (fun p q => ¬ ltL q p = true)) : AscL ys :=
  (hd.and h).imp (fun {a b} h1 => by
    obtain ⟨h2, h3⟩ := h1
    rw [ltL_iff] at h3 ⊢
    have : ¬ (a.1 = b.1 ∧ a.2 = b.2) := fun e => h2 (Prod.ext e.1 e.2)
    omega)
theorem putL_asc {x : Int × Int} : ∀ {l : List (Int × Int)}, AscL l → AscL (putL x l)
  | [], _ => List.pairwise_singleton _ _
  | y :: r, h => by
    obtain ⟨h1, h2⟩ := List.pairwise_cons.1 h
    unfold putL
    split
    · rename_i hlt
      refine List.pairwise_cons.2 ⟨fun z hz => ?_, putL_asc (l := r) h2⟩
      rcases putL_mem.1 hz with rfl | hz
      · exact hlt
      · exact h1 z hz
    · rename_i hlt
      split
      · exact h
      · rename_i hne
        refine List.pairwise_cons.2 ⟨fun z hz => ?_, h⟩
        have hxy : ltL x y = true := by
          rw [ltL_iff] at hlt ⊢
          have : ¬ (y.1 = x.1 ∧ y.2 = x.2) := fun e => hne (Prod.ext e.1 e.2)
          omega
        rcases List.mem_cons.1 hz with rfl | hz
        · exact hxy
        · have := h1 z hz
          rw [ltL_iff] at this hxy ⊢
          omega
theorem mapR_asc (h : List Int) {acc : List (Int × Int)} (ha : AscL acc) : ∀ k, AscL (mapR h acc k)
  | 0 => ha
  | k + 1 => by
    unfold mapR
    split
    · exact ha
    · split
      · exact putL_asc (mapR_asc h ha k)
      · exact mapR_asc h ha k
theorem mapK_asc (ms : List (List Int)) : ∀ i, AscL (mapK ms i)
  | 0 => List.Pairwise.nil
  | i + 1 => mapR_asc _ (mapK_asc ms i) _
end Go.Proofs.Ytbjjgcfmdlinaaa
/- The links of a map in order, the program's. -/
namespace Go.Proofs.Ytbjjgcfmdlinaaa
open Go.RowKit Go.Sort
theorem ltP (p q : Int × Int) : ltOf cmpP p q = ltL p q := by
  have h : (cmpP p q < 0) ↔ ltL p q = true := by
    rw [ltL_iff]
    unfold cmpP
    split
    · omega
    · split
      · omega
      · split
        · omega
        · split <;> omega
  unfold ltOf
  cases h1 : ltL p q
  · rw [decide_eq_false (fun h2 => by rw [h.1 h2] at h1; cases h1)]
  · rw [decide_eq_true (h.2 h1)]
theorem swoP : SWO (ltOf cmpP) where
  irrefl x := by rw [ltP]; simp [ltL]
  trans x y z h1 h2 := by rw [ltP, ltL_iff] at *; omega
  ntrans x y z h1 h2 := by
    rw [ltP] at *
    cases h3 : ltL x z
    · rfl
    · rw [ltL_iff] at h3
      have g1 : ¬ ltL x y = true := by rw [h1]; decide
      have g2 : ¬ ltL y z = true := by rw [h2]; decide
      rw [ltL_iff] at g1 g2
      omega
def orV (x y : Int) : Int := if x = 0 then y else x
set_option maxHeartbeats 800000 in
theorem or_any (W : World) (g : Nat) (x y : Int) (h0 : W.cell? ⟨g, 0, none⟩ = some (.int .i64 x)) (h1 : W.cell? ⟨g, 1, none⟩ = some (.int .i64 y)) :
    Calls Try.prog 69 #[.slice (some ⟨g, 0, none⟩) 2 2] W fun e w' => e = .returned (.int .i64 (orV x y)) ∧ W = w' := by
  obtain ⟨v, hv⟩ : ∃ v, v = orV x y := ⟨_, rfl⟩
  rw [← hv]
  have HV := Lib.hid hv
  clear hv
  go_enter Try.func69, Try.ntmps69
  go_wp2
  go_loopw [8, 5] (fun i _ wr => ∃ k : Nat, i = .int .i64 k ∧ wr = W ∧ ((k = 0) ∨ (k = 1 ∧ x = 0) ∨ (k = 2 ∧ x = 0 ∧ y = 0))) (fun i _ _ => 2 - (intOf i).toNat)
  case atStart => exact ⟨0, rfl, rfl, .inl rfl⟩
  case round =>
    obtain ⟨k, rfl, rfl, h | ⟨h, hx⟩ | ⟨h, hx, hy⟩⟩ := hrel
    · subst h
      by_cases hx : x = 0
      · have hxb : (x != 0) = false := by simp [hx]
        go_wp2
        go_roundw
        case rel => exact ⟨1, by go_num, by trivial, .inr (.inl ⟨rfl, hx⟩)⟩
        case measure => simp [intOf]
      · have hxb : (x != 0) = true := by simp [hx]
        go_wp2
        go_ret
        exact ⟨ret_int (by rw [HV.out, orV, if_neg hx]), rfl⟩
    · subst h
      by_cases hy : y = 0
      · have hyb : (y != 0) = false := by simp [hy]
        go_wp2
        go_roundw
        case rel => exact ⟨2, by go_num, by trivial, .inr (.inr ⟨rfl, hx, hy⟩)⟩
        case measure => simp [intOf]
      · have hyb : (y != 0) = true := by simp [hy]
        go_wp2
        go_ret
        exact ⟨ret_int (by rw [HV.out, orV, if_pos hx]), rfl⟩
    · subst h
      go_wp2
      go_ret
      exact ⟨ret_int (by rw [HV.out, orV, if_pos hx, hy]), rfl⟩
def cmp3 (x y : Int) : Int := if x < y then -1 else if y < x then 1 else 0
theorem cmp3_P (a b c d : Int) : orV (cmp3 a c) (cmp3 b d) = cmpP (a, b) (c, d) := by
  unfold orV cmp3 cmpP
  simp only
  by_cases h1 : a < c
  · simp [h1]
  · by_cases h2 : c < a
    · simp [h1, h2]
    · simp [h1, h2]
set_option maxRecDepth 20000 in
set_option maxHeartbeats 1600000 in
theorem cmpP1_any (a b c d : Int) (W : World) : Calls Try.prog 68 #[.agg #[.int .i64 a, .int .i64 b], .agg #[.int .i64 c, .int .i64 d]] W fun e w' => e = .returned (.int .i64 (cmpP (a, b) (c, d))) ∧ ∃ n os', w' = grow (W.drewN n) os' := by
  rw [← cmp3_P]
  obtain ⟨r1, h1⟩ : ∃ r, r = cmp3 a c := ⟨_, rfl⟩
  obtain ⟨r2, h2⟩ : ∃ r, r = cmp3 b d := ⟨_, rfl⟩
  rw [← h1, ← h2]
  have hc1 : ∀ W', Calls Try.prog 70 #[.int .i64 a, .int .i64 c] W' fun e w' => e = .returned (.int .i64 r1) ∧ W' = w' := fun W' => cmpIntV_any a c r1 W' h1
  have hc2 : ∀ W', Calls Try.prog 70 #[.int .i64 b, .int .i64 d] W' fun e w' => e = .returned (.int .i64 r2) ∧ W' = w' := fun W' => cmpIntV_any b d r2 W' h2
  clear h1 h2
  obtain ⟨V, hV⟩ : ∃ V, V = (W.alloc (.cells #[.int .i64 a, .int .i64 b] 38)).alloc (.cells #[.int .i64 c, .int .i64 d] 38) := ⟨_, rfl⟩
  have a0 : V.cell? ⟨W.heap.size, 0, none⟩ = some (.int .i64 a) := by rw [hV]; go_simp
  have a1 : V.cell? ⟨W.heap.size, 1, none⟩ = some (.int .i64 b) := by rw [hV]; go_simp
  have b0 : V.cell? ⟨W.heap.size + 1, 0, none⟩ = some (.int .i64 c) := by rw [hV]; go_simp
  have b1 : V.cell? ⟨W.heap.size + 1, 1, none⟩ = some (.int .i64 d) := by rw [hV]; go_simp
  go_enter Try.func68, Try.ntmps68
  go_wp2_with fail
  rw [← hV]
  have HVG : Hid (V = grow W #[.cells #[.int .i64 a, .int .i64 b] 38, .cells #[.int .i64 c, .int .i64 d] 38]) := Lib.hid (by rw [hV, alloc_eq_grow, alloc_eq_grow, grow_grow]; rfl)
  clear hV
  have HC1 := Lib.hid hc1
  have HC2 := Lib.hid hc2
  have hlt0 : W.heap.size < V.heap.size := by rw [HVG.out]; simp
  have hlt1 : W.heap.size + 1 < V.heap.size := by rw [HVG.out]; simp
  clear hc1 hc2
  go_region_held3 (fun w' => (w'.cell? ⟨W.heap.size, 0, none⟩ = some (.int .i64 a) ∧ w'.cell? ⟨W.heap.size, 1, none⟩ = some (.int .i64 b)) ∧ (w'.cell? ⟨W.heap.size + 1, 0, none⟩ = some (.int .i64 c) ∧ w'.cell? ⟨W.heap.size + 1, 1, none⟩ = some (.int .i64 d))) (go_keep) (first
    | (go_at_call 69; refine (or_any _ _ r1 r2 (by go_simp) (by go_simp)).mono ?_; rintro e w' ⟨rfl, rfl⟩)
    | (go_at_call 70; first
      | (with_reducible refine (HC1.out _).mono ?_; rintro e w' ⟨rfl, rfl⟩)
      | (with_reducible refine (HC2.out _).mono ?_; rintro e w' ⟨rfl, rfl⟩)))
  go_wp2
  go_ret
  exact ⟨rfl, 1, _, by rw [HVG.out, alloc_eq_grow, grow_grow, drew_grow]; rfl⟩
theorem cmpP1_lays (blk off size : Nat) (w : World) : CmpLays Try.prog 68 #[] encL 2 cmpP blk off size w :=
  fun _ _ _ _ x y => cmpP1_any x.1 x.2 y.1 y.2 _
set_option maxHeartbeats 1600000 in
theorem sortL_any (W : World) (lo hi : Nat) (a : Option Addr) (len cap : Nat) (zs : List (Int × Int)) (hl : len ≤ 1048576) (ho : OwnL W lo hi a len cap zs) :
    Calls Try.prog 67 #[.slice a len cap, .func (.func 68) #[] #[]] W fun e w' => e = .returned (.tuple #[]) ∧ ∃ ys, zs.Perm ys ∧ ys.Pairwise (fun p q => ¬ ltL q p = true) ∧ OwnL w' lo hi a len cap ys ∧ Moved lo hi W w' := by
  by_cases h0 : len = 0
  · subst h0
    have hn := AnyF.slices_SortFunc_none Try.sortL a cap (.func (.func 68) #[] #[]) W
    change Calls Try.prog 67 _ _ _ at hn
    refine hn.mono ?_
    rintro e w' ⟨rfl, rfl⟩
    have e0 : zs = [] := List.eq_nil_of_length_eq_zero ho.1
    exact ⟨rfl, zs, List.Perm.refl _, by rw [e0]; exact List.Pairwise.nil, ho, Moved.refl _ _ _⟩
  · rcases ho.spot with ⟨_, h, _⟩ | ⟨g, rfl, hg0, hg1, _⟩
    · exact absurd h h0
    · have eg : ∀ args w, (callFunc 68 args).run Try.prog w = .ok (.enter 68 args) w := enters_of Try.func68 (by kernel_rfl) rfl
      have hz := ho.1
      subst hz
      have hcon := AnyQ.slices_SortFunc Try.sortL 2 Try.isAgg38 Try.sizeOf38 encL encL_len encL_one cmpP swoP 68 #[] g 0 cap zs.toArray W eg (cmpP1_lays g 0 zs.toArray.size W) (holdsKL ho) (Nat.lt_of_lt_of_le hg1 ho.2.2.1) (by rw [List.size_toArray]; omega)
      change Calls Try.prog 67 _ _ _ at hcon
      rw [List.size_toArray] at hcon
      refine hcon.mono ?_
      rintro e w' ⟨rfl, d', n, os, hp, hs, rfl⟩
      have hpl := perm_listL hp
      have hr := ho.sorted (n := n) (os := os) hpl
      refine ⟨rfl, d'.toList, hpl, ?_, hr.1, hr.2⟩
      refine List.pairwise_iff_getElem.2 fun i j hi hj hij => ?_
      have hsz : d'.toList.length = zs.length := hpl.length_eq.symm
      have := hs i j (Nat.zero_le _) hij (by omega)
      have hi2 : i < d'.size := by simpa using hi
      have hj2 : j < d'.size := by simpa using hj
      rw [getElem!_pos d' i hi2, getElem!_pos d' j hj2, ltP] at this
      rw [Array.getElem_toList, Array.getElem_toList, this]
      decide
theorem keysP_any (W : World) (mb : Option Nat) : Calls Try.prog 66 #[.map mb] W fun e w' => e = .returned (.func (.func 83) #[] #[.pointer (some ⟨W.heap.size, 0, none⟩)]) ∧ w' = W.alloc (.cells #[.map mb] 64) :=
  callsIn_wide.1 (keys_in Fence.wide 5 trivial rfl mb W)
theorem aseP_any (W : World) (lo g c0 Bm b : Nat) (S : List (Int × Int)) (hlo : lo ≤ W.heap.size) (hv0 : W.ownsRow lo 38 2 (.slice (some ⟨g, 0, none⟩) 0 c0) 0 []) (hBm : Bm < W.heap.size) (hm : W.cell? ⟨Bm, 0, none⟩ = some (.map (some b))) (hown : MapP W b S) (hN : S.length ≤ 1048576) :
    Calls Try.prog 65 #[.slice (some ⟨g, 0, none⟩) 0 c0, .func (.func 83) #[] #[.pointer (some ⟨Bm, 0, none⟩)]] W fun e w' =>
      ∃ a l c xs, e = .returned (.slice a l c) ∧ S.Perm xs ∧ OwnL w' lo w'.heap.size a l c xs ∧ Below lo W w' := by
  refine (callsIn_wide.1 (appendSeq_in Fence.wide 5 trivial rfl (by omega) lo g c0 W hlo hv0 _ _ trivial (fun _ _ => by kernel_rfl) _ _ S.length hN (keys_stops Fence.wide 4 trivial rfl (by omega) Bm b S W hBm hm hown))).mono ?_
  rintro e w' ⟨v, xs, rfl, hp, ho, hb⟩
  obtain ⟨a, c, rfl⟩ := own_shapeL ho
  exact ⟨a, _, c, xs, rfl, hp, ownL_of ho (fun p h => hown.fit p (hp.mem_iff.2 h)), hb⟩
set_option maxHeartbeats 1600000 in
/-- The links of a map, in order: a slice of its own. -/
theorem inOrder_any (W : World) (b : Nat) (S : List (Int × Int)) (hm : MapP W b S) (hlen : S.length ≤ 1048576) :
    Calls Try.prog 38 #[.map (some b)] W fun e w' => ∃ ys, S.Perm ys ∧ AscL ys ∧ MadeL ys W e w' := by
  have HM := Lib.hid hm
  have HND := Lib.hid hm.nodup
  clear hm
  go_enter Try.func38, Try.ntmps38
  obtain ⟨V, hV⟩ : ∃ V, V = (W.alloc (.cells #[] 38)).alloc (.cells #[.map (some b)] 64) := ⟨_, rfl⟩
  have HBV : Hid (Below W.heap.size W V) := Lib.hid (by rw [hV]; exact ((Below.refl _ _).alloc (Nat.le_refl _) _).alloc (by simp) _)
  have HOV : Hid (V.ownsRow W.heap.size 38 2 (.slice (some ⟨W.heap.size, 0, none⟩) 0 0) 0 []) := Lib.hid (by rw [hV]; exact (ownL_empty W W.heap.size (Nat.le_refl _)).2.2.2.1.alloc _)
  have HMV := Lib.hid (HM.out.below HBV.out)
  have HCV : Hid (V.cell? ⟨W.heap.size + 1, 0, none⟩ = some (.map (some b))) := Lib.hid (by rw [hV]; go_simp)
  have HLV : Hid (W.heap.size + 1 < V.heap.size) := Lib.hid (by rw [hV]; simp)
  go_wp2_with (first
    | (go_at_call 66; refine (keysP_any _ _).mono ?_; rintro e w' ⟨rfl, rfl⟩; simp only [World.size_alloc]; rw [← hV]; clear hV)
    | (go_at_call 65; refine (aseP_any V W.heap.size W.heap.size 0 (W.heap.size + 1) b S HBV.out.size HOV.out HLV.out HCV.out HMV.out hlen).mono ?_; rintro e w2 ⟨a, l, c, xs, rfl, hp, ho, hb⟩; have HP := Lib.hid hp; have HL2 := Lib.hid (show l ≤ 1048576 by rw [← ho.1, ← hp.length_eq]; exact hlen); have HO2 := Lib.hid ho; have HB2 := Lib.hid (HBV.out.trans hb); clear hp ho hb)
    | (go_at_call 67; refine (sortL_any _ _ _ _ _ _ _ HL2.out HO2.out).mono ?_; rintro e w3 ⟨rfl, ys, hp3, hs3, ho3, hm3⟩; have HP3 := Lib.hid (HP.out.trans hp3); have HS3 := Lib.hid hs3; have HO3 := Lib.hid (ho3.wide (Nat.le_refl _) hm3.size (Nat.le_refl _)); have HB3 := Lib.hid (below_moved HB2.out hm3 (Nat.le_refl _) (Nat.le_refl _)); clear hp3 hs3 ho3 hm3))
  go_ret
  exact ⟨_, HP3.out, ascL_of (HP3.out.nodup HND.out) HS3.out, _, _, _, rfl, HO3.out, HB3.out⟩
end Go.Proofs.Ytbjjgcfmdlinaaa
