/- The library's Repeat and Clone of a list of intervals. -/
import Derived.Test.YthcinjlghhfhmaaSlV
import Derived.Test.YthcinjlghhfhmaaIvF
import Derived.Lib.SliceRun
namespace Go.Proofs.Ythcinjlghhfhmaa
open Go.RowKit
theorem flatV_take : ∀ (xs : List (Int × Int)) (k : Nat), flatV (xs.take k) = (flatV xs).take (k * 2)
  | [], k => by simp [flatV]
  | p :: r, 0 => by simp [flatV]
  | p :: r, k + 1 => by
    rw [List.take_succ_cons, flatV, flatV, flatV_take r k, show (k + 1) * 2 = k * 2 + 1 + 1 by omega, List.take_succ_cons, List.take_succ_cons]
theorem flatV_drop : ∀ (xs : List (Int × Int)) (k : Nat), flatV (xs.drop k) = (flatV xs).drop (k * 2)
  | [], k => by simp [flatV]
  | p :: r, 0 => by simp [flatV]
  | p :: r, k + 1 => by
    rw [List.drop_succ_cons, flatV, flatV_drop r k, show (k + 1) * 2 = k * 2 + 1 + 1 by omega, List.drop_succ_cons, List.drop_succ_cons]
theorem spliceV_take {α : Type} (A F cs : List α) (a L : Nat) (h : A.take L = F) (hl : a + cs.length ≤ L) (hA : L ≤ A.length) : (A.take a ++ cs ++ A.drop (a + cs.length)).take L = F.take a ++ (cs ++ F.drop (a + cs.length)) := by
  subst h
  rw [List.take_append, List.take_of_length_le (by simp; omega), List.append_assoc]
  congr 1
  · rw [List.take_take, Nat.min_eq_left (by omega)]
  · congr 1
    rw [List.length_append, List.length_take, Nat.min_eq_left (by omega), List.drop_take]
theorem flatV_fit {xs : List (Int × Int)} : ∀ v ∈ (flatV xs).map (Value.int .i64), v.oneCell' = true := ints_oneCell _ _
theorem run_copy_ownV {P : Program} (w : World) (dT sT ty : TypeId) (i : TypeInfo) (hu : P.underlying dT = some (.slice 33)) (hi : P.info? 33 = some i) (hsize : i.size = 2) {lo hi2 g len cap : Nat} {xs : List (Int × Int)} (h : OwnV w lo hi2 (some ⟨g, 0, none⟩) len cap xs)
    (o dLen dCap : Nat) (a : Addr) (sLen sCap : Nat) (ps : List (Int × Int)) (hn : ps.length = Nat.min sLen dLen) (hfit : o + ps.length ≤ len) (hf : FitV ps) (hsrc : ∀ j v, ((flatV ps).map (Value.int .i64))[j]? = some v → w.cell? (a.add j) = some v) :
    ∃ w', (Builtin.copy_ #[dT, sT] ty #[.slice (some ⟨g, o * 2, none⟩) dLen dCap, .slice (some a) sLen sCap]).run P w = .ok (goInt ps.length) w' ∧ OwnV w' lo hi2 (some ⟨g, 0, none⟩) len cap (xs.take o ++ (ps ++ xs.drop (o + ps.length))) ∧ Moved lo hi2 w w' := by
  obtain ⟨h1, h2, h3, h4, h5⟩ := h
  have hb := h5 _ rfl
  simp only at hb
  rcases h4.2 with ⟨hv, _⟩ | ⟨g', c, cur, hv, hlo, hg, hnc, hcm, hcs, htk⟩
  · cases hv
  simp only [Value.slice.injEq, Option.some.injEq, Addr.mk.injEq, and_true, true_and] at hv
  obtain ⟨rfl, rfl⟩ := hv
  have hlen : ((flatV ps).map (Value.int .i64)).length = ps.length * 2 := by rw [List.length_map, flatV_len]
  have hl := run_loadCells_list (P := P) w a ((flatV ps).map (Value.int .i64)) hsrc
  have hst := run_storeCells_at P g (o * 2) 33 ((flatV ps).map (Value.int .i64)) 0 cur w hg (by rw [hlen, hcs]; omega) flatV_fit
  rw [hlen] at hl
  obtain ⟨row, hrow⟩ : ∃ row, row = (cur.toList.take (o * 2 + 0) ++ (flatV ps).map (Value.int .i64) ++ cur.toList.drop (o * 2 + 0 + ((flatV ps).map (Value.int .i64)).length)).toArray := ⟨_, rfl⟩
  rw [← hrow] at hst
  refine ⟨w.setRow g row, ?_, ⟨?_, ?_, ?_, ?_, h5⟩, ?_⟩
  rotate_left
  · simp only [List.length_append, List.length_take, List.length_drop]; omega
  · intro p hp
    rcases List.mem_append.1 hp with hp | hp
    · exact h2 p (List.mem_of_mem_take hp)
    · rcases List.mem_append.1 hp with hp | hp
      · exact hf p hp
      · exact h2 p (List.mem_of_mem_drop hp)
  · simpa [World.setRow] using h3
  · refine ⟨by rw [List.length_map, flatV_len]; simp only [List.length_append, List.length_take, List.length_drop]; omega, .inr ⟨g, cap, row, rfl, hlo, setRow_heap w g cur _ 33 _ hg, hnc, hcm, ?_, ?_⟩⟩
    · rw [hrow]
      simp only [List.size_toArray, List.length_append, List.length_take, List.length_drop, Array.length_toList, hlen]; omega
    · have e := spliceV_take cur.toList ((flatV xs).map (Value.int .i64)) ((flatV ps).map (Value.int .i64)) (o * 2 + 0) (len * 2) htk (by rw [hlen]; omega) (by rw [Array.length_toList, hcs]; omega)
      rw [flatV_append, flatV_append, flatV_take, flatV_drop, List.map_append, List.map_append, List.map_take, List.map_drop]
      rw [hlen, Nat.add_zero] at e
      rw [show (o + ps.length) * 2 = o * 2 + ps.length * 2 by omega]
      rw [hrow, hlen, Nat.add_zero]
      exact e
  · exact ⟨rfl, rfl, rfl, by simp [World.setRow], fun k hk hne => setRow_other w g k _ (by omega)⟩
  · simp [Builtin.copy_, run_underlying hu, Builtin.lenOf, Builtin.firstCells, sizeOf, typeInfo, hi, hsize, ← hn]
    rw [hl]
    simp [hst]
theorem overV_repl (p z : Int × Int) {n k m : Nat} (h : k + m ≤ n) : (overV (List.replicate n p) (List.replicate n z) k).take k ++ (List.replicate m p ++ (overV (List.replicate n p) (List.replicate n z) k).drop (k + m)) = overV (List.replicate n p) (List.replicate n z) (k + m) := by
  have e : ∀ j, j ≤ n → overV (List.replicate n p) (List.replicate n z) j = List.replicate j p ++ List.replicate (n - j) z := fun j hj => by
    unfold overV
    rw [List.take_replicate, List.drop_replicate, Nat.min_eq_left hj]
  rw [e k (by omega), e (k + m) h, List.take_left' (by simp), List.drop_append, List.drop_of_length_le (by simp), List.nil_append, List.drop_replicate, List.length_replicate, ← List.append_assoc, List.replicate_append_replicate]
  congr 2
  omega
/-- A copy inside an own row of intervals, as a step of a region that draws its order. -/
theorem step_copy_ownV {P : Program} {ops : Array Oper} {o : Oper} {a : Act} {w : World} {K : Act → World → Prop} {Q : Exit → Act → World → Prop} {E : Prop} (hgd : o.guard = none) (d s : Operand) (dT sT : TypeId)
    (ho : o.op = .call { callee := .builtin .copy, args := #[d, s], argTypes := #[dT, sT] }) (i : TypeInfo) (hu : P.underlying dT = some (.slice 33)) (hi : P.info? 33 = some i) (hsize : i.size = 2) {lo hi2 g len cap : Nat} {xs : List (Int × Int)} (h : OwnV w lo hi2 (some ⟨g, 0, none⟩) len cap xs)
    (k dLen dCap : Nat) (ad : Addr) (sLen sCap : Nat) (hd : a.eval d = .slice (some ⟨g, k * 2, none⟩) dLen dCap) (hs : a.eval s = .slice (some ad) sLen sCap) (ps : List (Int × Int)) (hn : ps.length = Nat.min sLen dLen) (hfit : k + ps.length ≤ len) (hf : FitV ps) (hsrc : ∀ j v, ((flatV ps).map (Value.int .i64))[j]? = some v → w.cell? (ad.add j) = some v)
    (hk : ∀ w', OwnV w' lo hi2 (some ⟨g, 0, none⟩) len cap (xs.take k ++ (ps ++ xs.drop (k + ps.length))) → Moved lo hi2 w w' → K (a.put o.dst (goInt ps.length)) w') :
    if Region.wanted o (yielded ops a.tmps) = true then Oper.wp P o a w K Q else E := by
  have hw : Region.wanted o (yielded ops a.tmps) = true := by simp [Region.wanted, hgd]
  rw [if_pos hw]
  obtain ⟨w', hr, h1, h2⟩ := run_copy_ownV (P := P) w dT sT o.type i hu hi hsize h k dLen dCap ad sLen sCap ps hn hfit hf hsrc
  unfold Oper.wp
  simp [execOp, ho, resolve, invoke, builtin, hd, hs, hr, Result.andThen]
  exact hk w' h1 h2
theorem wp_copy_ownV {P : Program} {w : World} {ops : Array Oper} {rest : List Oper} {o : Oper} {a : Act} {Q : Exit → Act → World → Prop} (hgd : o.guard = none) (d s : Operand) (dT sT : TypeId)
    (ho : o.op = .call { callee := .builtin .copy, args := #[d, s], argTypes := #[dT, sT] }) (i : TypeInfo) (hu : P.underlying dT = some (.slice 33)) (hi : P.info? 33 = some i) (hsize : i.size = 2) {lo hi2 g len cap : Nat} {xs : List (Int × Int)} (h : OwnV w lo hi2 (some ⟨g, 0, none⟩) len cap xs)
    (k dLen dCap : Nat) (ad : Addr) (sLen sCap : Nat) (hd : a.eval d = .slice (some ⟨g, k * 2, none⟩) dLen dCap) (hs : a.eval s = .slice (some ad) sLen sCap) (ps : List (Int × Int)) (hn : ps.length = Nat.min sLen dLen) (hfit : k + ps.length ≤ len) (hf : FitV ps) (hsrc : ∀ j v, ((flatV ps).map (Value.int .i64))[j]? = some v → w.cell? (ad.add j) = some v)
    (hk : ∀ w', OwnV w' lo hi2 (some ⟨g, 0, none⟩) len cap (xs.take k ++ (ps ++ xs.drop (k + ps.length))) → Moved lo hi2 w w' → wpList P ops Q rest (a.put o.dst (goInt ps.length)) w') : wpList P ops Q (o :: rest) a w := by
  obtain ⟨w', hr, h1, h2⟩ := run_copy_ownV (P := P) w dT sT o.type i hu hi hsize h k dLen dCap ad sLen sCap ps hn hfit hf hsrc
  refine wpList_plain hgd fun K hK => ?_
  unfold Oper.wp
  simp [execOp, ho, resolve, invoke, builtin, hd, hs, hr, Result.andThen]
  exact hK _ _ (hk w' h1 h2)
set_option maxHeartbeats 1600000 in
theorem mul1V_any (n : Nat) (h1 : 1 ≤ n) (h6 : n ≤ 6) (W : World) : Calls Try.prog 71 #[.int .u64 1, .int .u64 (n : Int)] W fun e w' => e = .returned (.tuple #[.int .u64 0, .int .u64 (n : Int)]) ∧ W = w' := by
  have hn : n = 1 ∨ n = 2 ∨ n = 3 ∨ n = 4 ∨ n = 5 ∨ n = 6 := by omega
  rcases hn with rfl | rfl | rfl | rfl | rfl | rfl
  all_goals
    go_enter Try.func71, Try.ntmps71
    go_wp2
    go_ret2
    exact ⟨rfl, rfl⟩
theorem SeesV.src {w : World} {b off len : Nat} {xs : List (Int × Int)} (h : SeesV w (some ⟨b, off, none⟩) len xs) (m : Nat) : ∀ j v, ((flatV (xs.take m)).map (Value.int .i64))[j]? = some v → w.cell? ((⟨b, off, none⟩ : Addr).add j) = some v := by
  intro j v hv
  rw [flatV_take, List.map_take, List.getElem?_take] at hv
  split at hv
  · rename_i hj
    have hlt := (List.getElem?_eq_some_iff.1 hv).1
    rw [List.length_map, flatV_len, h.1] at hlt
    rcases h.2.2 with h0 | ⟨b2, o2, ha, _, hc⟩
    · omega
    · cases ha
      obtain ⟨k, hk⟩ : ∃ k, j = k * 2 ∨ j = k * 2 + 1 := ⟨j / 2, by omega⟩
      have hcell := hc k (by omega)
      rw [List.getElem?_map] at hv
      rw [add_plain]
      rcases hk with rfl | rfl
      · rw [flatV_num xs k (by rw [h.1]; omega)] at hv
        rw [hcell.1, ← hv]
        rfl
      · rw [flatV_den xs k (by rw [h.1]; omega)] at hv
        rw [← Nat.add_assoc, hcell.2, ← hv]
        rfl
  · cases hv
theorem overV_front (p z : Int × Int) {n k m : Nat} (h : k ≤ n) (hm : m ≤ k) : (overV (List.replicate n p) (List.replicate n z) k).take m = List.replicate m p := by
  unfold overV
  rw [List.take_replicate, Nat.min_eq_left h, List.take_append_of_le_length (by simpa using hm), List.take_replicate, Nat.min_eq_left hm]
theorem fitV_repl {n : Nat} : FitV (List.replicate n ((0, 100000) : Int × Int)) := fun p hp => by
  rw [List.eq_of_mem_replicate hp]
  exact ⟨by decide, by decide⟩
theorem copyV_first (w1 : World) (lo hi2 g b n : Nat) (h1 : 1 ≤ n) (HO : OwnV w1 lo hi2 (some ⟨g, 0, none⟩) n n (List.replicate n (0, 0))) (HS : SeesV w1 (some ⟨b, 0, none⟩) 1 [(0, 100000)]) :
    ∃ w2, (Builtin.copy_ #[25, 25] 3 #[.slice (some ⟨g, 0, none⟩) n n, .slice (some ⟨b, 0, none⟩) 1 1]).run Try.prog w1 = .ok (.int .i64 1) w2 ∧ OwnV w2 lo hi2 (some ⟨g, 0, none⟩) n n (overV (List.replicate n (0, 100000)) (List.replicate n (0, 0)) 1) ∧ Moved lo hi2 w1 w2 := by
  obtain ⟨i0, hi, _, hz1, _⟩ := info_parts info_iv
  obtain ⟨w2, hr, ho, hm⟩ := run_copy_ownV (P := Try.prog) w1 25 25 3 i0 Try.underlying25 hi hz1 HO 0 n n ⟨b, 0, none⟩ 1 1 (List.replicate 1 (0, 100000)) (by rw [List.length_replicate]; exact (Nat.min_eq_left h1).symm) (by rw [List.length_replicate]; omega) fitV_repl (HS.src 1)
  have e := overV_repl (0, 100000) (0, 0) (n := n) (k := 0) (m := 1) (by omega)
  rw [overV_zero] at e
  rw [List.length_replicate, e] at ho
  exact ⟨w2, hr, ho, hm⟩
theorem copyV_next (wr : World) (lo hi2 g n k m : Nat) (hk : k ≤ n) (hm : m = Nat.min k (n - k)) (HO : OwnV wr lo hi2 (some ⟨g, 0, none⟩) n n (overV (List.replicate n (0, 100000)) (List.replicate n (0, 0)) k)) :
    ∃ w3, (Builtin.copy_ #[25, 25] 3 #[.slice (some ⟨g, k * 2, none⟩) (n - k) (n - k), .slice (some ⟨g, 0, none⟩) k n]).run Try.prog wr = .ok (.int .i64 (m : Int)) w3 ∧ OwnV w3 lo hi2 (some ⟨g, 0, none⟩) n n (overV (List.replicate n (0, 100000)) (List.replicate n (0, 0)) (k + m)) ∧ Moved lo hi2 wr w3 := by
  obtain ⟨i0, hi, _, hz1, _⟩ := info_parts info_iv
  have h1 : m ≤ k := by rw [hm]; exact Nat.min_le_left _ _
  have h2 : m ≤ n - k := by rw [hm]; exact Nat.min_le_right _ _
  have hs := HO.sees.src m
  rw [overV_front _ _ hk h1] at hs
  obtain ⟨w2, hr, ho, hmv⟩ := run_copy_ownV (P := Try.prog) wr 25 25 3 i0 Try.underlying25 hi hz1 HO k (n - k) (n - k) ⟨g, 0, none⟩ k n (List.replicate m (0, 100000)) (by rw [List.length_replicate]; exact hm) (by rw [List.length_replicate]; omega) fitV_repl hs
  rw [List.length_replicate] at hr
  rw [List.length_replicate, overV_repl _ _ (by omega)] at ho
  exact ⟨w2, hr, ho, hmv⟩
set_option maxRecDepth 20000 in
set_option maxHeartbeats 1600000 in
theorem repeatV_any (W : World) (b n : Nat) (h1 : 1 ≤ n) (h6 : n ≤ 6) (hs : SeesV W (some ⟨b, 0, none⟩) 1 [(0, 100000)]) :
    Calls Try.prog 52 #[.slice (some ⟨b, 0, none⟩) 1 1, .int .i64 (n : Int)] W (MadeV (List.replicate n (0, 100000)) W) := by
  have HS := Lib.hid hs
  clear hs
  obtain ⟨i0, hi, hz0, hz1, hz2⟩ := info_parts info_iv
  have wu : IntKind.u64.wrap (n : Int) = (n : Int) := by rw [IntKind.wrap_u64]; omega
  have wi : IntKind.i64.wrap (n : Int) = (n : Int) := IntWalk.i64_in _ (by omega)
  have n0 : ¬ (n : Int) < 0 := by omega
  go_enter Try.func52, Try.ntmps52
  go_wp2_with (first
    | (go_at_call 71; refine (mul1V_any n h1 h6 _).mono ?_; rintro e w' ⟨rfl, rfl⟩)
    | (at_make; refine wpList_make_full _ rfl _ _ 25 rfl W.heap.size 33 i0 (.agg #[.int .i64 0, .int .i64 0]) 2 Try.underlying25 hi hz0 hz1 _ _ _ _ n rfl rfl rfl rfl (by rw [hz2]; omega) (by unfold maxLen; omega) (by simp) ?_; intro w1 hown1 hgrow1; have HO1 := Lib.hid (madeV_row w1 W.heap.size n W.heap.size hown1); have HB1 := Lib.hid ((Below.refl W.heap.size W).grown hgrow1 (Nat.le_refl _) (fun k e => by cases e)); obtain ⟨w2, hr2, ho2, hm2⟩ := copyV_first w1 _ _ _ b n h1 HO1.out (HS.out.below HB1.out); have HO2 := Lib.hid ho2; have HB2 := Lib.hid (below_moved HB1.out hm2 (Nat.le_refl _) (Nat.le_refl _)); clear hown1 hgrow1 ho2 hm2))
  go_loopw [8] (fun i wr => ∃ k : Nat, 1 ≤ k ∧ k ≤ n ∧ i = .int .i64 k ∧ OwnV wr W.heap.size w1.heap.size (some ⟨W.heap.size, 0, none⟩) n n (overV (List.replicate n (0, 100000)) (List.replicate n (0, 0)) k) ∧ Below W.heap.size W wr) (fun i _ => n - (intOf i).toNat)
  case atStart => exact ⟨1, Nat.le_refl _, h1, rfl, HO2.out, HB2.out⟩
  case round =>
    obtain ⟨k, hk1, hk, rfl, ho, hb⟩ := hrel
    have HO := Lib.hid ho
    have HB := Lib.hid hb
    clear ho hb
    by_cases hlt : k < n
    · obtain ⟨m, hm⟩ : ∃ m, m = Nat.min k (n - k) := ⟨_, rfl⟩
      have hm1 : 1 ≤ m ∧ m ≤ k ∧ k + m ≤ n := by
        rcases Nat.le_total k (n - k) with h | h
        · have : m = k := by rw [hm]; exact Nat.min_eq_left h
          omega
        · have : m = n - k := by rw [hm]; exact Nat.min_eq_right h
          omega
      have HM := Lib.hid hm
      clear hm
      have i0k : (0 : Int) ≤ (k : Int) := by omega
      have i1k : (k : Int) ≤ (n : Int) := by omega
      have i2k : (k : Int) < (n : Int) := by omega
      have wkm : IntKind.i64.wrap ((k : Int) + (m : Int)) = (k : Int) + (m : Int) := IntWalk.i64_in _ (by omega)
      go_wp2_with fail
      go_region_held3 (fun _ => True) (trivial) (first
        | (refine step_copy_ownV rfl _ _ 25 25 rfl i0 Try.underlying25 hi hz1 (by first | exact HO.out | exact HO.out.below (Below.refl _ _).drew) k (n - k) (n - k) ⟨W.heap.size, 0, none⟩ k n (by show Value.slice (if n = k then (some ⟨W.heap.size, 0, none⟩ : Option Addr) else some ⟨W.heap.size, k * 2, none⟩) (n - k) (n - k) = _; rw [if_neg (by omega)]) rfl (List.replicate m (0, 100000)) (by rw [List.length_replicate]; exact HM.out) (by rw [List.length_replicate]; omega) fitV_repl (by first | (have h := (HO.out.sees.src m); rw [overV_front _ _ hk hm1.2.1] at h; exact h) | (have h := ((HO.out.below (Below.refl _ _).drew).sees.src m); rw [overV_front _ _ hk hm1.2.1] at h; exact h)) ?_; rw [List.length_replicate]; intro w3 ho3 hm3; rw [overV_repl _ _ hm1.2.2] at ho3; have HO3 := Lib.hid ho3; have HB3 := Lib.hid (below_moved (by first | exact HB.out | exact HB.out.drew) hm3 (Nat.le_refl _) (Nat.le_refl _)); clear ho3 hm3))
      all_goals go_wp2
      all_goals
        go_roundw
        case rel => exact ⟨k + m, by omega, by omega, by go_num, HO3.out, HB3.out⟩
        case measure => simp [intOf]; omega
    · obtain rfl : k = n := by omega
      have e : overV (List.replicate k ((0, 100000) : Int × Int)) (List.replicate k (0, 0)) k = List.replicate k (0, 100000) := by
        have := overV_all (List.replicate k ((0, 100000) : Int × Int)) (List.replicate k (0, 0)) (by simp)
        rwa [List.length_replicate] at this
      have HE := Lib.hid e
      clear e
      go_wp2
      go_ret
      exact ⟨_, _, _, rfl, by have h := HO.out; rw [HE.out] at h; exact h.wide (Nat.le_refl _) h.2.2.1 (Nat.le_refl _), HB.out⟩
set_option maxHeartbeats 1600000 in
theorem cloneV_any (W : World) (a : Option Addr) (len cap : Nat) (xs : List (Int × Int)) (hl : len ≤ 1073741824) (h1 : 0 < len) (hs : SeesV W a len xs) :
    Calls Try.prog 61 #[.slice a len cap] W (MadeV xs W) := by
  have HS := Lib.hid hs
  rcases hs.2.2 with h0 | ⟨b, off, rfl, hb, _⟩
  · omega
  clear hs
  obtain ⟨i0, hi, hz0, hz1, hz2⟩ := info_parts info_iv
  have hnil := Lib.run_eql_slice_nil (P := Try.prog) W 25 33 (some ⟨b, off, none⟩) len cap 0 0 Try.underlying25
  go_enter Try.func61, Try.ntmps61
  go_wp2_with (at_builtin; refine wp_append_seesV rfl _ _ 25 rfl i0 Try.underlying25 hi hz0 hz1 hz2 _ _ _ _ rfl W.heap.size _ (ownV_empty W _ (Nat.le_refl _)) _ _ _ xs rfl (HS.out.alloc _) (by unfold maxLen; omega) (by omega) (by simp) ?_; intro a3 len3 cap3 w3 hlen3 ho3 hm3; rw [List.nil_append] at ho3; have HO3 := Lib.hid ho3; have HM3 := Lib.hid (below_moved ((Below.refl W.heap.size W).alloc (Nat.le_refl _) _) hm3 (Nat.le_refl _) (Nat.le_refl _)); clear hlen3 ho3 hm3)
  go_ret
  exact ⟨_, _, _, rfl, HO3.out, HM3.out⟩
end Go.Proofs.Ythcinjlghhfhmaa
