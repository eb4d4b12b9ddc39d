/- MeetAll: plain words, and the model's. -/
import Derived.Test.YtiehnhocmoodaaaSlV
namespace Go.Proofs.Ytiehnhocmoodaaa
open Go.RowKit
def stepV (acc : Option (Int × Int)) (p : Int × Int) : Option (Int × Int) := match acc with
  | none => none
  | some q => if meetOk q.1 q.2 p.1 p.2 = true then some (maxV q.1 p.1, minV q.2 p.2) else none
/-- What the first k intervals have in common. -/
def allK (xs : List (Int × Int)) (k : Nat) : Option (Int × Int) := (xs.take k).foldl stepV (some (-100000, 100000))
def allOk (xs : List (Int × Int)) : Bool := !decide (xs.length = 0) && (allK xs xs.length).isSome
def allLo (xs : List (Int × Int)) : Int := if allOk xs = true then ((allK xs xs.length).getD (0, 0)).1 else 0
def allHi (xs : List (Int × Int)) : Int := if allOk xs = true then ((allK xs xs.length).getD (0, 0)).2 else 0
theorem allK_next {xs : List (Int × Int)} {k : Nat} (h : k < xs.length) : allK xs (k + 1) = stepV (allK xs k) (xs.getD k (0, 0)) := by
  unfold allK
  rw [List.take_add_one, List.foldl_append]
  simp [List.getD, h]
theorem fold_none : ∀ l : List (Int × Int), l.foldl stepV none = none
  | [] => rfl
  | _ :: r => fold_none r
theorem allK_none {xs : List (Int × Int)} {k : Nat} (h : allK xs k = none) : allK xs xs.length = none := by
  unfold allK at h ⊢
  rw [List.take_length]
  conv => lhs; rw [← List.take_append_drop k xs]
  rw [List.foldl_append, h]
  exact fold_none _
theorem all_no {xs : List (Int × Int)} (h : allOk xs = false) : allLo xs = 0 ∧ allHi xs = 0 ∧ allOk xs = false := by simp [allLo, allHi, h]
theorem all_stop {xs : List (Int × Int)} {k : Nat} (h : allK xs k = none) : allLo xs = 0 ∧ allHi xs = 0 ∧ allOk xs = false := by
  refine all_no ?_
  unfold allOk
  rw [allK_none h]
  simp
theorem all_empty {xs : List (Int × Int)} (h : xs.length = 0) : allLo xs = 0 ∧ allHi xs = 0 ∧ allOk xs = false := all_no (by unfold allOk; simp [h])
theorem all_yes {xs : List (Int × Int)} {p q : Int} (h0 : ¬ xs.length = 0) (h : allK xs xs.length = some (p, q)) : allLo xs = p ∧ allHi xs = q ∧ allOk xs = true := by
  have hk : allOk xs = true := by
    unfold allOk
    rw [h, decide_eq_false h0]
    rfl
  simp [allLo, allHi, hk, h]
theorem stepV_yes {p q c d : Int} (h : meetOk p q c d = true) : stepV (some (p, q)) (c, d) = some (meetLo p q c d, meetHi p q c d) := by simp [stepV, h, meetLo, meetHi]
theorem stepV_no {p q c d : Int} (h : meetOk p q c d = false) : stepV (some (p, q)) (c, d) = none := by simp [stepV, h]
def CutAt2 (W0 : World) (N D : Int) (K : Bool) (s5 s6 : Value) (wx : World) : Prop := ∃ g : Nat, s5 = .pointer (some ⟨g, 0, none⟩) ∧ s6 = .bool K ∧ PairAt wx g N D ∧ Below W0.heap.size W0 wx
theorem PairAt.setOther {w : World} {B C o : Nat} {x y : Int} (h : PairAt w B x y) (hne : B ≠ C) (v : Value) : PairAt (w.setCell ⟨C, o, none⟩ v) B x y := by
  refine ⟨(World.cell?_setCell_other _ _ _ _ (by simp)).trans h.c0, (World.cell?_setCell_other _ _ _ _ (by simp)).trans h.c1, ?_, ?_, by simpa [World.setCell] using h.lt⟩
  · rw [World.frozen?_setCell]; exact h.f0
  · rw [World.frozen?_setCell]; exact h.f1
theorem SeesV.spot {w : World} {a : Option Addr} {len : Nat} {xs : List (Int × Int)} (h : SeesV w a len xs) {k : Nat} (hk : k < len) :
    ∃ b off, a = some ⟨b, off, none⟩ ∧ b < w.heap.size ∧ w.cell? ⟨b, off + k * 2, none⟩ = some (.int .i64 (xs.getD k (0, 0)).1) ∧ w.cell? ⟨b, off + k * 2 + 1, none⟩ = some (.int .i64 (xs.getD k (0, 0)).2) := by
  rcases h.2.2 with h0 | ⟨b, off, ha, hb, hc⟩
  · omega
  · exact ⟨b, off, ha, hb, (hc k hk).1, (hc k hk).2⟩
set_option maxRecDepth 20000 in
set_option maxHeartbeats 3200000 in
theorem specAll_any (W : World) (a : Option Addr) (len cap : Nat) (xs : List (Int × Int)) (hl : len ≤ 1073741824) (hs : SeesV W a len xs) :
    Calls Try.prog 24 #[.slice a len cap] W (IvRes (allLo xs) (allHi xs) (allOk xs) W) := by
  obtain ⟨V, hV⟩ : ∃ V, V = (W.alloc (.cells #[.int .i64 0, .int .i64 0] 26)).alloc (.cells #[.int .i64 (-100000), .int .i64 100000] 26) := ⟨_, rfl⟩
  have HBV : Hid (Below W.heap.size W V) := Lib.hid (by rw [hV]; exact ((Below.refl _ _).alloc (Nat.le_refl _) _).alloc (by simp) _)
  have HR := Lib.hid (show PairAt V W.heap.size 0 0 by rw [hV]; exact (pair_new W 0 0 _).alloc _)
  have HX := Lib.hid (show PairAt V (W.heap.size + 1) (-100000) 100000 by rw [hV]; have h := pair_new (W.alloc (.cells #[.int .i64 0, .int .i64 0] 26)) (-100000) 100000 26; rw [World.size_alloc] at h; exact h)
  have HS := Lib.hid hs
  have HL := Lib.hid hs.1
  obtain ⟨lo, hlo⟩ : ∃ q, q = allLo xs := ⟨_, rfl⟩
  obtain ⟨hi, hhi⟩ : ∃ q, q = allHi xs := ⟨_, rfl⟩
  obtain ⟨t, ht⟩ : ∃ q, q = allOk xs := ⟨_, rfl⟩
  have HRES : Hid (∀ u v z, allLo xs = u ∧ allHi xs = v ∧ allOk xs = z → lo = u ∧ hi = v ∧ t = z) := Lib.hid (fun u v z h => ⟨hlo.trans h.1, hhi.trans h.2.1, ht.trans h.2.2⟩)
  rw [← hlo, ← hhi, ← ht]
  clear hs hlo hhi ht
  go_enter Try.func24, Try.ntmps24
  go_wp2_with fail
  rw [← hV]
  clear hV
  go_loopw [5, 6, 7] (fun i _ _ wr => ∃ (k : Nat) (p q : Int), k ≤ len ∧ i = .int .i64 k ∧ Hid (allK xs k = some (p, q)) ∧ PairAt wr (W.heap.size + 1) p q ∧ PairAt wr W.heap.size 0 0 ∧ Below W.heap.size W wr) (fun i _ _ _ => len - (intOf i).toNat)
  case atStart => exact ⟨0, _, _, Nat.zero_le _, rfl, Lib.hid rfl, HX.out, HR.out, HBV.out⟩
  case round =>
    clear HX HR
    obtain ⟨k, p, q, hk, rfl, HK, hx, hr, hb⟩ := hrel
    have HX := Lib.hid hx
    have HR := Lib.hid hr
    have HB := Lib.hid hb
    by_cases hlt : k < len
    · obtain ⟨b, off, rfl, hb0, hc0, hc1⟩ := (HS.out.below hb).spot hlt
      obtain ⟨c, d, hcd⟩ : ∃ c d, xs.getD k (0, 0) = (c, d) := ⟨_, _, rfl⟩
      rw [hcd] at hc0 hc1
      have HN : Hid (allK xs (k + 1) = stepV (some (p, q)) (c, d)) := Lib.hid (by rw [allK_next (by rw [HL.out]; exact hlt), HK.out, hcd])
      have x0 := hx.c0
      have x1 := hx.c1
      have HC0 := Lib.hid hc0
      have HC1 := Lib.hid hc1
      obtain ⟨N, hN⟩ : ∃ n, n = meetLo p q c d := ⟨_, rfl⟩
      obtain ⟨D, hD⟩ : ∃ n, n = meetHi p q c d := ⟨_, rfl⟩
      obtain ⟨K, hK⟩ : ∃ n, n = meetOk p q c d := ⟨_, rfl⟩
      have HNN := Lib.hid hN
      have HDD := Lib.hid hD
      have HKK := Lib.hid hK
      have hlx := hx.lt
      have i0k : (0 : Int) ≤ (k : Int) := by omega
      have i1k : (k : Int) < (len : Int) := by omega
      have ne1 := World.new_ne wr _ hc0
      have ne2 := World.new_ne wr _ hc1
      have ne3 := World.new_ne wr _ x0
      have ne4 := World.new_ne wr _ x1
      clear hcd hN hD hK hx hr hb
      go_wp2_with fail
      go_cut [6, 7] (CutAt2 wr N D K)
      case first =>
        go_region_held3 (fun w' => w'.cell? ⟨W.heap.size + 1, 0, none⟩ = some (.int .i64 p) ∧ w'.cell? ⟨W.heap.size + 1, 1, none⟩ = some (.int .i64 q) ∧ w'.cell? ⟨b, off + k * 2, none⟩ = some (.int .i64 c) ∧ w'.cell? ⟨b, off + k * 2 + 1, none⟩ = some (.int .i64 d)) (go_keep) (first
          | (go_at_call 20; refine (specMeet_any p q c d _).mono ?_; rw [← HNN.out, ← HDD.out, ← HKK.out]; rintro e w4 ⟨rfl, hb4⟩; have G4 := Lib.hid (below_up (w0 := wr) (by first | exact (Below.refl _ _).drew | exact ((Below.refl wr.heap.size wr).alloc (Nat.le_refl _) _).drew) hb4 (Nat.le_refl _)); have k1 := (G4.out.cell (p := ⟨W.heap.size + 1, 0, none⟩) hlx).trans x0; have k2 := (G4.out.cell (p := ⟨W.heap.size + 1, 1, none⟩) hlx).trans x1; have k3 := (G4.out.cell (p := ⟨b, off + k * 2, none⟩) hb0).trans HC0.out; have k4 := (G4.out.cell (p := ⟨b, off + k * 2 + 1, none⟩) hb0).trans HC1.out; have P4 := Lib.hid (((pair_new wr 0 0 26).drew).below hb4); have y0 := P4.out.c0; have y1 := P4.out.c1; have yf0 := P4.out.f0; have yf1 := P4.out.f1; clear hb4)
          | (go_at_call 20; refine (specMeet_any p q c d _).mono ?_; rw [← HNN.out, ← HDD.out, ← HKK.out]; rintro e w4 ⟨rfl, hb4⟩; have G4 := Lib.hid (below_up (w0 := wr) (by first | exact (Below.refl _ _).drew | exact ((Below.refl wr.heap.size wr).alloc (Nat.le_refl _) _).drew) hb4 (Nat.le_refl _)); have k1 := (G4.out.cell (p := ⟨W.heap.size + 1, 0, none⟩) hlx).trans x0; have k2 := (G4.out.cell (p := ⟨W.heap.size + 1, 1, none⟩) hlx).trans x1; have k3 := (G4.out.cell (p := ⟨b, off + k * 2, none⟩) hb0).trans HC0.out; have k4 := (G4.out.cell (p := ⟨b, off + k * 2 + 1, none⟩) hb0).trans HC1.out; clear hb4))
        all_goals go_wp2_with fail
        all_goals go_meet
        all_goals exact ⟨_, rfl, rfl, (by first | with_reducible exact pair_new _ _ _ _ | exact pair_putV P4.out _ _), (by repeat (first | exact G4.out | refine below_allocV ?_ (Nat.le_refl _) _ | refine Below.setCell ?_ (by exact Nat.le_refl _) _))⟩
      case rest =>
        obtain ⟨g, rfl, rfl, hpg, hbg⟩ := hcut
        have HY := Lib.hid hpg
        have HX2 := Lib.hid (HX.out.below hbg)
        have HR2 := Lib.hid (HR.out.below hbg)
        have HB2 := Lib.hid (below_up HB.out hbg (by have := HB.out.size; omega))
        have y0 := HY.out.c0
        have y1 := HY.out.c1
        clear hpg hbg x0 x1 hc0 hc1 ne1 ne2 ne3 ne4 hlx
        cases K
        · have HE := Lib.hid (HRES.out _ _ _ (all_stop (k := k + 1) (by rw [HN.out]; exact stepV_no HKK.out.symm)))
          have r0 := HR2.out.c0
          have r1 := HR2.out.c1
          have s0 := HR2.out.f0
          have s1 := HR2.out.f1
          go_wp2_with fail
          refine bodyPost_ret (v := .tuple #[.agg #[.int .i64 0, .int .i64 0], .bool false]) (by simp [results, Try.results24, go_sem, r0, r1]) rfl ⟨by rw [HE.out.1, HE.out.2.1, HE.out.2.2], ?_⟩
          repeat (first | exact HB2.out | refine Below.setCell ?_ (by simp <;> omega) _)
        · have HE : Hid (allK xs (k + 1) = some (N, D)) := Lib.hid (by rw [HN.out, stepV_yes HKK.out.symm, HNN.out, HDD.out])
          have x0 := HX2.out.c0
          have x1 := HX2.out.c1
          have xf0 := HX2.out.f0
          have xf1 := HX2.out.f1
          go_wp2_with fail
          go_roundw
          case rel => exact ⟨k + 1, N, D, hlt, by go_num, HE, pair_putV HX2.out _ _, (HR2.out.setOther (by omega) _).setOther (by omega) _, by repeat (first | exact HB2.out | refine Below.setCell ?_ (by simp <;> omega) _)⟩
          case measure => simp [intOf]; omega
    · obtain rfl : k = len := by omega
      have x0 := hx.c0
      have x1 := hx.c1
      have r0 := hr.c0
      have r1 := hr.c1
      have s0 := hr.f0
      have s1 := hr.f1
      clear hx hr hb
      by_cases h0 : k = 0
      · have HE := Lib.hid (HRES.out _ _ _ (all_empty (by rw [HL.out]; exact h0)))
        subst h0
        go_wp2_with fail
        refine bodyPost_ret (v := .tuple #[.agg #[.int .i64 0, .int .i64 0], .bool false]) (by simp [results, Try.results24, go_sem, r0, r1]) rfl ⟨by rw [HE.out.1, HE.out.2.1, HE.out.2.2], ?_⟩
        repeat (first | exact HB.out | refine Below.setCell ?_ (by simp <;> omega) _)
      · have HE := Lib.hid (HRES.out _ _ _ (all_yes (by rw [HL.out]; exact h0) (by rw [HL.out]; exact HK.out)))
        have h1 : ¬ (k : Int) = 0 := by omega
        go_wp2_with fail
        refine bodyPost_ret (v := .tuple #[.agg #[.int .i64 p, .int .i64 q], .bool true]) (by simp [results, Try.results24, go_sem, r0, r1]) rfl ⟨by rw [HE.out.1, HE.out.2.1, HE.out.2.2], ?_⟩
        repeat (first | exact HB.out | refine Below.setCell ?_ (by simp <;> omega) _)
end Go.Proofs.Ytiehnhocmoodaaa
