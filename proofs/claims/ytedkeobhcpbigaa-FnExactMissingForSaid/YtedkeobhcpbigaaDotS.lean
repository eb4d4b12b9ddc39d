/- Integers times fractions: the model's sum. -/
import Derived.Test.YtedkeobhcpbigaaSysV
import Derived.Test.YtedkeobhcpbigaaRatI
namespace Go.Proofs.Ytedkeobhcpbigaa
open Go.RowKit
def dN (r : Option (Int × Int)) : Int := (r.getD (0, 0)).1
def dD (r : Option (Int × Int)) : Int := (r.getD (0, 0)).2
theorem PairAt.put {w : World} {B : Nat} {x y : Int} (h : PairAt w B x y) (p q : Int) : PairAt ((w.setCell ⟨B, 0, none⟩ (.int .i64 p)).setCell ⟨B, 1, none⟩ (.int .i64 q)) B p q := by
  have h1 : (w.setCell ⟨B, 0, none⟩ (.int .i64 p)).cell? ⟨B, 1, none⟩ = some (.int .i64 y) := (World.cell?_setCell_other _ _ _ _ (by simp)).trans h.c1
  refine ⟨(World.cell?_setCell_other _ _ _ _ (by simp)).trans (World.cell?_setCell_same _ _ _ h.c0), World.cell?_setCell_same _ _ _ h1, ?_, ?_, by simpa [World.setCell] using h.lt⟩
  · rw [World.frozen?_setCell, World.frozen?_setCell]; exact h.f0
  · rw [World.frozen?_setCell, World.frozen?_setCell]; exact h.f1
theorem below_put {B : Nat} {w0 w : World} {C : Nat} (h : Below B w0 w) (hB : B ≤ C) (u v : Value) : Below B w0 ((w.setCell ⟨C, 0, none⟩ u).setCell ⟨C, 1, none⟩ v) := (h.setCell hB _).setCell hB _
theorem mulN_i64 (a b c d : Int) : IsI64 (mulN a b c d) ∧ IsI64 (mulD a b c d) := by
  by_cases h : MulOk a b c d
  · have v := mul_valid h
    exact ⟨⟨by have := v.1; omega, by have := v.2.1; omega⟩, ⟨by have := v.2.2.1; omega, by have := v.2.2.2.1; omega⟩⟩
  · unfold mulN mulD
    rw [if_neg h, if_neg h]
    exact ⟨⟨by decide, by decide⟩, ⟨by decide, by decide⟩⟩
theorem addN_i64 (a b c d : Int) : IsI64 (addN a b c d) ∧ IsI64 (addD a b c d) := by
  by_cases h : AddOk a b c d
  · have v := add_valid h
    exact ⟨⟨by have := v.1; omega, by have := v.2.1; omega⟩, ⟨by have := v.2.2.1; omega, by have := v.2.2.2.1; omega⟩⟩
  · unfold addN addD
    rw [if_neg h, if_neg h]
    exact ⟨⟨by decide, by decide⟩, ⟨by decide, by decide⟩⟩
theorem sMulV_any (a b c d x y : Int) (k : Bool) (w : World) (hx : x = mulN a b c d) (hy : y = mulD a b c d) (hk : k = mulOk a b c d) :
    Calls Try.prog 97 #[.agg #[.int .i64 a, .int .i64 b], .agg #[.int .i64 c, .int .i64 d]] w (RatRes x y k w) := by
  subst hx hy hk
  exact specMul_any a b c d w
theorem sAddV_any (a b c d x y : Int) (k : Bool) (w : World) (hx : x = addN a b c d) (hy : y = addD a b c d) (hk : k = addOk a b c d) :
    Calls Try.prog 98 #[.agg #[.int .i64 a, .int .i64 b], .agg #[.int .i64 c, .int .i64 d]] w (RatRes x y k w) := by
  subst hx hy hk
  exact specAdd_any a b c d w
theorem dotR_next {z : List Int} {xs : List (Int × Int)} {k : Nat} {s t : Int} (h : dotR z xs k = some (s, t)) {n c d x y p q : Int} (hn : n = vec z k) (hx : xs.getD k (0, 0) = (c, d)) (h1 : x = mulN n 1 c d) (h2 : y = mulD n 1 c d) (h3 : p = addN s t x y) (h4 : q = addD s t x y) (hm : true = mulOk n 1 c d) (ha : true = addOk s t x y) : dotR z xs (k + 1) = some (p, q) := by
  subst hn
  show (dotR z xs k).bind _ = _
  rw [h, hx]
  show stepR (s, t) (vec z k) (c, d) = _
  unfold stepR
  have hm' : MulOk (vec z k) 1 c d := of_decide_eq_true hm.symm
  have ha' : AddOk s t x y := of_decide_eq_true ha.symm
  rw [if_pos hm']
  simp only
  rw [← h1, ← h2, if_pos ha', ← h3, ← h4]
theorem dotR_stop1 {z : List Int} {xs : List (Int × Int)} {k m : Nat} {s t : Int} (h : dotR z xs k = some (s, t)) (hk : k < m) {n c d : Int} (hn : n = vec z k) (hx : xs.getD k (0, 0) = (c, d)) (hm : false = mulOk n 1 c d) : dotR z xs m = none := by
  subst hn
  have e : dotR z xs (k + 1) = none := by
    show (dotR z xs k).bind _ = _
    rw [h, hx]
    show stepR (s, t) (vec z k) (c, d) = _
    unfold stepR
    rw [if_neg (of_decide_eq_false hm.symm)]
  have := dotR_none e (m - (k + 1))
  rwa [show k + 1 + (m - (k + 1)) = m by omega] at this
theorem dotR_stop2 {z : List Int} {xs : List (Int × Int)} {k m : Nat} {s t : Int} (h : dotR z xs k = some (s, t)) (hk : k < m) {n c d x y : Int} (hn : n = vec z k) (hx : xs.getD k (0, 0) = (c, d)) (h1 : x = mulN n 1 c d) (h2 : y = mulD n 1 c d) (ha : false = addOk s t x y) : dotR z xs m = none := by
  subst hn
  have e : dotR z xs (k + 1) = none := by
    show (dotR z xs k).bind _ = _
    rw [h, hx]
    show stepR (s, t) (vec z k) (c, d) = _
    have ha' : ¬ AddOk s t x y := of_decide_eq_false ha.symm
    unfold stepR
    split
    · simp only
      rw [← h1, ← h2, if_neg ha']
    · rfl
  have := dotR_none e (m - (k + 1))
  rwa [show k + 1 + (m - (k + 1)) = m by omega] at this
set_option maxRecDepth 20000 in
set_option maxHeartbeats 3200000 in
theorem specDot6_any (W : World) (b : Option Addr) (lb cb : Nat) (z : List Int) (a : Option Addr) (len cap : Nat) (xs : List (Int × Int)) (hlb : lb ≤ 1073741824) (hl : len ≤ 1073741824) (hs : Sees .i64 W b lb z) (hs2 : SeesR W a len xs) (r : Option (Int × Int)) (hr : r = dotR z xs (min lb len)) :
    Calls Try.prog 81 #[.slice b lb cb, .slice a len cap] W (RatRes (dN r) (dD r) r.isSome W) := by
  have HZ := Lib.hid hs
  have HX := Lib.hid hs2
  have HR := Lib.hid hr
  clear hs hs2 hr
  go_enter Try.func81, Try.ntmps81
  go_wp2_with fail
  go_loopw [7, 8, 9] (fun i _ _ wr => ∃ (k : Nat) (s t : Int), k ≤ lb ∧ k ≤ len ∧ i = .int .i64 k ∧ Hid (dotR z xs k = some (s, t)) ∧ PairAt wr W.heap.size 0 0 ∧ PairAt wr (W.heap.size + 1) s t ∧ Below W.heap.size W wr) (fun i _ _ _ => lb - (intOf i).toNat)
  case atStart =>
    refine ⟨0, 0, 1, Nat.zero_le _, Nat.zero_le _, rfl, Lib.hid rfl, (pair_new W 0 0 30).alloc _, ?_, (((Below.refl _ _).alloc (Nat.le_refl _) _).alloc (by simp) _)⟩
    have h := pair_new (W.alloc (.cells #[.int .i64 0, .int .i64 0] 30)) 0 1 30
    rw [World.size_alloc] at h
    exact h
  case round =>
    obtain ⟨k, s, t, hk1, hk2, rfl, HDK, hpr, hps, hb⟩ := hrel
    have HPR := Lib.hid hpr
    have HPS := Lib.hid hps
    have HB := Lib.hid hb
    have hsz := hb.size
    by_cases hlt1 : k < lb
    · by_cases hlt2 : k < len
      · rcases HZ.out.2.2 with h0 | ⟨b1, o1, rfl, hb10, hc1⟩
        · omega
        · rcases HX.out.2.2 with h0 | ⟨b2, o2, rfl, hb20, hc2⟩
          · omega
          · have hb1 := Nat.lt_of_lt_of_le hb10 hsz
            have hb2 := Nat.lt_of_lt_of_le hb20 hsz
            have hz0 := (hb.cell (p := ⟨b1, o1 + k, none⟩) hb10).trans (hc1 k hlt1)
            have hx0 := (hb.cell (p := ⟨b2, o2 + k * 2, none⟩) hb20).trans (hc2 k hlt2).1
            have hx1 := (hb.cell (p := ⟨b2, o2 + k * 2 + 1, none⟩) hb20).trans (hc2 k hlt2).2
            obtain ⟨n, hn⟩ : ∃ n, n = z.getD k 0 := ⟨_, rfl⟩
            rw [← hn] at hz0
            obtain ⟨c, d, hcd⟩ : ∃ c d, xs.getD k (0, 0) = (c, d) := ⟨_, _, rfl⟩
            rw [hcd] at hx0 hx1
            have HN : Hid (n = vec z k) := Lib.hid hn
            have HCD := Lib.hid hcd
            have HC0 := Lib.hid hz0
            have HC1 := Lib.hid hx0
            have HC2 := Lib.hid hx1
            obtain ⟨x, hx⟩ : ∃ x, x = mulN n 1 c d := ⟨_, rfl⟩
            obtain ⟨y, hy⟩ : ∃ y, y = mulD n 1 c d := ⟨_, rfl⟩
            obtain ⟨u, hu⟩ : ∃ u, u = mulOk n 1 c d := ⟨_, rfl⟩
            have HXX := Lib.hid hx
            have HYY := Lib.hid hy
            have HU := Lib.hid hu
            have i0k : (0 : Int) ≤ (k : Int) := by omega
            have i1k : (k : Int) < (lb : Int) := by omega
            have i2k : (k : Int) < (len : Int) := by omega
            have ne1 := World.new_ne wr _ hz0
            have ne2 := World.new_ne wr _ hx0
            have ne3 := World.new_ne wr _ hx1
            clear hc1 hc2 hn hcd hpr hps hb hb10 hb20 hx hy hu
            cases u
            · have HE : Hid (r = none) := Lib.hid (HR.out.trans (dotR_stop1 HDK.out (by omega) HN.out HCD.out HU.out))
              go_wp2_with fail
              go_region_held3 (fun w' => w'.cell? ⟨b1, o1 + k, none⟩ = some (.int .i64 n) ∧ w'.cell? ⟨b2, o2 + k * 2, none⟩ = some (.int .i64 c) ∧ w'.cell? ⟨b2, o2 + k * 2 + 1, none⟩ = some (.int .i64 d)) (go_keep) (first
                | (go_at_call 97; refine (sMulV_any n 1 c d x y false _ HXX.out HYY.out HU.out).mono ?_; rintro e w4 ⟨rfl, hb4⟩; have G4 := Lib.hid (below_up (w0 := wr) (by first | exact (Below.refl _ _).drew | exact ((Below.refl wr.heap.size wr).alloc (Nat.le_refl _) _).drew) hb4 (Nat.le_refl _)); have k1 := (G4.out.cell (p := ⟨b1, o1 + k, none⟩) hb1).trans HC0.out; have k2 := (G4.out.cell (p := ⟨b2, o2 + k * 2, none⟩) hb2).trans HC1.out; have k3 := (G4.out.cell (p := ⟨b2, o2 + k * 2 + 1, none⟩) hb2).trans HC2.out; have P4 := Lib.hid (((pair_new wr 0 0 30).drew).below hb4); have q0 := P4.out.c0; have q1 := P4.out.c1; have qf0 := P4.out.f0; have qf1 := P4.out.f1; clear hb4)
                | (go_at_call 97; refine (sMulV_any n 1 c d x y false _ HXX.out HYY.out HU.out).mono ?_; rintro e w4 ⟨rfl, hb4⟩; have G4 := Lib.hid (below_up (w0 := wr) (by first | exact (Below.refl _ _).drew | exact ((Below.refl wr.heap.size wr).alloc (Nat.le_refl _) _).drew) hb4 (Nat.le_refl _)); have k1 := (G4.out.cell (p := ⟨b1, o1 + k, none⟩) hb1).trans HC0.out; have k2 := (G4.out.cell (p := ⟨b2, o2 + k * 2, none⟩) hb2).trans HC1.out; have k3 := (G4.out.cell (p := ⟨b2, o2 + k * 2 + 1, none⟩) hb2).trans HC2.out; clear hb4))
              · obtain ⟨V, hV⟩ : ∃ V, V = w4.alloc (.cells #[.int .i64 x, .int .i64 y] 30) := ⟨_, rfl⟩
                have HG : Hid (Below wr.heap.size wr V) := Lib.hid (by rw [hV]; exact G4.out.alloc G4.out.size _)
                have HY : Hid (PairAt V w4.heap.size x y) := Lib.hid (by rw [hV]; exact pair_new _ _ _ _)
                rw [← hV]
                clear hV
                have HS5 := Lib.hid (HPS.out.below HG.out)
                have HR5 := Lib.hid (HPR.out.below HG.out)
                have r0 := HR5.out.c0
                have r1 := HR5.out.c1
                have rf0 := HR5.out.f0
                have rf1 := HR5.out.f1
                go_wp2
                refine bodyPost_ret (v := .tuple #[.agg #[.int .i64 0, .int .i64 0], .bool false]) (by simp [results, Try.results81, go_sem, r0, r1]) rfl ⟨by rw [HE.out]; rfl, below_put (HB.out.trans (HG.out.mono hsz)) (Nat.le_refl _) _ _⟩
              · obtain ⟨V, hV⟩ : ∃ V, V = (w4.setCell ⟨wr.heap.size, 0, none⟩ (.int .i64 x)).setCell ⟨wr.heap.size, 1, none⟩ (.int .i64 y) := ⟨_, rfl⟩
                have HG : Hid (Below wr.heap.size wr V) := Lib.hid (by rw [hV]; exact below_put G4.out (Nat.le_refl _) _ _)
                have HY : Hid (PairAt V wr.heap.size x y) := Lib.hid (by rw [hV]; exact P4.out.put x y)
                rw [← hV]
                clear hV
                have HS5 := Lib.hid (HPS.out.below HG.out)
                have HR5 := Lib.hid (HPR.out.below HG.out)
                have r0 := HR5.out.c0
                have r1 := HR5.out.c1
                have rf0 := HR5.out.f0
                have rf1 := HR5.out.f1
                go_wp2
                refine bodyPost_ret (v := .tuple #[.agg #[.int .i64 0, .int .i64 0], .bool false]) (by simp [results, Try.results81, go_sem, r0, r1]) rfl ⟨by rw [HE.out]; rfl, below_put (HB.out.trans (HG.out.mono hsz)) (Nat.le_refl _) _ _⟩
            · obtain ⟨p, hp⟩ : ∃ p, p = addN s t x y := ⟨_, rfl⟩
              obtain ⟨q, hq⟩ : ∃ q, q = addD s t x y := ⟨_, rfl⟩
              obtain ⟨u2, hu2⟩ : ∃ u, u = addOk s t x y := ⟨_, rfl⟩
              have HP := Lib.hid hp
              have HQ := Lib.hid hq
              have HU2 := Lib.hid hu2
              clear hp hq hu2
              cases u2
              · have HE : Hid (r = none) := Lib.hid (HR.out.trans (dotR_stop2 HDK.out (by omega) HN.out HCD.out HXX.out HYY.out HU2.out))
                go_wp2_with fail
                go_region_held3 (fun w' => w'.cell? ⟨b1, o1 + k, none⟩ = some (.int .i64 n) ∧ w'.cell? ⟨b2, o2 + k * 2, none⟩ = some (.int .i64 c) ∧ w'.cell? ⟨b2, o2 + k * 2 + 1, none⟩ = some (.int .i64 d)) (go_keep) (first
                  | (go_at_call 97; refine (sMulV_any n 1 c d x y true _ HXX.out HYY.out HU.out).mono ?_; rintro e w4 ⟨rfl, hb4⟩; have G4 := Lib.hid (below_up (w0 := wr) (by first | exact (Below.refl _ _).drew | exact ((Below.refl wr.heap.size wr).alloc (Nat.le_refl _) _).drew) hb4 (Nat.le_refl _)); have k1 := (G4.out.cell (p := ⟨b1, o1 + k, none⟩) hb1).trans HC0.out; have k2 := (G4.out.cell (p := ⟨b2, o2 + k * 2, none⟩) hb2).trans HC1.out; have k3 := (G4.out.cell (p := ⟨b2, o2 + k * 2 + 1, none⟩) hb2).trans HC2.out; have P4 := Lib.hid (((pair_new wr 0 0 30).drew).below hb4); have q0 := P4.out.c0; have q1 := P4.out.c1; have qf0 := P4.out.f0; have qf1 := P4.out.f1; clear hb4)
                  | (go_at_call 97; refine (sMulV_any n 1 c d x y true _ HXX.out HYY.out HU.out).mono ?_; rintro e w4 ⟨rfl, hb4⟩; have G4 := Lib.hid (below_up (w0 := wr) (by first | exact (Below.refl _ _).drew | exact ((Below.refl wr.heap.size wr).alloc (Nat.le_refl _) _).drew) hb4 (Nat.le_refl _)); have k1 := (G4.out.cell (p := ⟨b1, o1 + k, none⟩) hb1).trans HC0.out; have k2 := (G4.out.cell (p := ⟨b2, o2 + k * 2, none⟩) hb2).trans HC1.out; have k3 := (G4.out.cell (p := ⟨b2, o2 + k * 2 + 1, none⟩) hb2).trans HC2.out; clear hb4))
                · obtain ⟨V, hV⟩ : ∃ V, V = w4.alloc (.cells #[.int .i64 x, .int .i64 y] 30) := ⟨_, rfl⟩
                  have HG : Hid (Below wr.heap.size wr V) := Lib.hid (by rw [hV]; exact G4.out.alloc G4.out.size _)
                  have HY : Hid (PairAt V w4.heap.size x y) := Lib.hid (by rw [hV]; exact pair_new _ _ _ _)
                  rw [← hV]
                  clear hV
                  have HS5 := Lib.hid (HPS.out.below HG.out)
                  have HR5 := Lib.hid (HPR.out.below HG.out)
                  have s0 := HS5.out.c0
                  have s1 := HS5.out.c1
                  have y0 := HY.out.c0
                  have y1 := HY.out.c1
                  go_wp2_with (go_at_call 98; refine (sAddV_any s t x y p q false _ HP.out HQ.out HU2.out).mono ?_; rintro e w6 ⟨rfl, hb6⟩; have HS6 := Lib.hid (HS5.out.below hb6); have HR6 := Lib.hid (HR5.out.below hb6); have HG6 := Lib.hid (below_up HG.out hb6 (Nat.le_refl _)); have sc0 := HS6.out.c0; have sc1 := HS6.out.c1; have sf0 := HS6.out.f0; have sf1 := HS6.out.f1; have r0 := HR6.out.c0; have r1 := HR6.out.c1; have rf0 := HR6.out.f0; have rf1 := HR6.out.f1; clear hb6)
                  refine bodyPost_ret (v := .tuple #[.agg #[.int .i64 0, .int .i64 0], .bool false]) (by simp [results, Try.results81, go_sem, r0, r1]) rfl ⟨by rw [HE.out]; rfl, below_put (below_put (HB.out.trans (HG6.out.mono hsz)) (Nat.le_succ _) _ _) (Nat.le_refl _) _ _⟩
                · obtain ⟨V, hV⟩ : ∃ V, V = (w4.setCell ⟨wr.heap.size, 0, none⟩ (.int .i64 x)).setCell ⟨wr.heap.size, 1, none⟩ (.int .i64 y) := ⟨_, rfl⟩
                  have HG : Hid (Below wr.heap.size wr V) := Lib.hid (by rw [hV]; exact below_put G4.out (Nat.le_refl _) _ _)
                  have HY : Hid (PairAt V wr.heap.size x y) := Lib.hid (by rw [hV]; exact P4.out.put x y)
                  rw [← hV]
                  clear hV
                  have HS5 := Lib.hid (HPS.out.below HG.out)
                  have HR5 := Lib.hid (HPR.out.below HG.out)
                  have s0 := HS5.out.c0
                  have s1 := HS5.out.c1
                  have y0 := HY.out.c0
                  have y1 := HY.out.c1
                  go_wp2_with (go_at_call 98; refine (sAddV_any s t x y p q false _ HP.out HQ.out HU2.out).mono ?_; rintro e w6 ⟨rfl, hb6⟩; have HS6 := Lib.hid (HS5.out.below hb6); have HR6 := Lib.hid (HR5.out.below hb6); have HG6 := Lib.hid (below_up HG.out hb6 (Nat.le_refl _)); have sc0 := HS6.out.c0; have sc1 := HS6.out.c1; have sf0 := HS6.out.f0; have sf1 := HS6.out.f1; have r0 := HR6.out.c0; have r1 := HR6.out.c1; have rf0 := HR6.out.f0; have rf1 := HR6.out.f1; clear hb6)
                  refine bodyPost_ret (v := .tuple #[.agg #[.int .i64 0, .int .i64 0], .bool false]) (by simp [results, Try.results81, go_sem, r0, r1]) rfl ⟨by rw [HE.out]; rfl, below_put (below_put (HB.out.trans (HG6.out.mono hsz)) (Nat.le_succ _) _ _) (Nat.le_refl _) _ _⟩
              · have HD := Lib.hid (dotR_next HDK.out HN.out HCD.out HXX.out HYY.out HP.out HQ.out HU.out HU2.out)
                go_wp2_with fail
                go_region_held3 (fun w' => w'.cell? ⟨b1, o1 + k, none⟩ = some (.int .i64 n) ∧ w'.cell? ⟨b2, o2 + k * 2, none⟩ = some (.int .i64 c) ∧ w'.cell? ⟨b2, o2 + k * 2 + 1, none⟩ = some (.int .i64 d)) (go_keep) (first
                  | (go_at_call 97; refine (sMulV_any n 1 c d x y true _ HXX.out HYY.out HU.out).mono ?_; rintro e w4 ⟨rfl, hb4⟩; have G4 := Lib.hid (below_up (w0 := wr) (by first | exact (Below.refl _ _).drew | exact ((Below.refl wr.heap.size wr).alloc (Nat.le_refl _) _).drew) hb4 (Nat.le_refl _)); have k1 := (G4.out.cell (p := ⟨b1, o1 + k, none⟩) hb1).trans HC0.out; have k2 := (G4.out.cell (p := ⟨b2, o2 + k * 2, none⟩) hb2).trans HC1.out; have k3 := (G4.out.cell (p := ⟨b2, o2 + k * 2 + 1, none⟩) hb2).trans HC2.out; have P4 := Lib.hid (((pair_new wr 0 0 30).drew).below hb4); have q0 := P4.out.c0; have q1 := P4.out.c1; have qf0 := P4.out.f0; have qf1 := P4.out.f1; clear hb4)
                  | (go_at_call 97; refine (sMulV_any n 1 c d x y true _ HXX.out HYY.out HU.out).mono ?_; rintro e w4 ⟨rfl, hb4⟩; have G4 := Lib.hid (below_up (w0 := wr) (by first | exact (Below.refl _ _).drew | exact ((Below.refl wr.heap.size wr).alloc (Nat.le_refl _) _).drew) hb4 (Nat.le_refl _)); have k1 := (G4.out.cell (p := ⟨b1, o1 + k, none⟩) hb1).trans HC0.out; have k2 := (G4.out.cell (p := ⟨b2, o2 + k * 2, none⟩) hb2).trans HC1.out; have k3 := (G4.out.cell (p := ⟨b2, o2 + k * 2 + 1, none⟩) hb2).trans HC2.out; clear hb4))
                · obtain ⟨V, hV⟩ : ∃ V, V = w4.alloc (.cells #[.int .i64 x, .int .i64 y] 30) := ⟨_, rfl⟩
                  have HG : Hid (Below wr.heap.size wr V) := Lib.hid (by rw [hV]; exact G4.out.alloc G4.out.size _)
                  have HY : Hid (PairAt V w4.heap.size x y) := Lib.hid (by rw [hV]; exact pair_new _ _ _ _)
                  rw [← hV]
                  clear hV
                  have HS5 := Lib.hid (HPS.out.below HG.out)
                  have HR5 := Lib.hid (HPR.out.below HG.out)
                  have s0 := HS5.out.c0
                  have s1 := HS5.out.c1
                  have y0 := HY.out.c0
                  have y1 := HY.out.c1
                  go_wp2_with (go_at_call 98; refine (sAddV_any s t x y p q true _ HP.out HQ.out HU2.out).mono ?_; rintro e w6 ⟨rfl, hb6⟩; have HS6 := Lib.hid (HS5.out.below hb6); have HR6 := Lib.hid (HR5.out.below hb6); have HG6 := Lib.hid (below_up HG.out hb6 (Nat.le_refl _)); have sc0 := HS6.out.c0; have sc1 := HS6.out.c1; have sf0 := HS6.out.f0; have sf1 := HS6.out.f1; have r0 := HR6.out.c0; have r1 := HR6.out.c1; have rf0 := HR6.out.f0; have rf1 := HR6.out.f1; clear hb6)
                  go_roundw
                  case rel => exact ⟨k + 1, p, q, by omega, by omega, by go_num, HD.out, (HR6.out.set _ (by omega)).set _ (by omega), HS6.out.put p q, below_put (HB.out.trans (HG6.out.mono hsz)) (Nat.le_succ _) _ _⟩
                  case measure => simp [intOf]; omega
                · obtain ⟨V, hV⟩ : ∃ V, V = (w4.setCell ⟨wr.heap.size, 0, none⟩ (.int .i64 x)).setCell ⟨wr.heap.size, 1, none⟩ (.int .i64 y) := ⟨_, rfl⟩
                  have HG : Hid (Below wr.heap.size wr V) := Lib.hid (by rw [hV]; exact below_put G4.out (Nat.le_refl _) _ _)
                  have HY : Hid (PairAt V wr.heap.size x y) := Lib.hid (by rw [hV]; exact P4.out.put x y)
                  rw [← hV]
                  clear hV
                  have HS5 := Lib.hid (HPS.out.below HG.out)
                  have HR5 := Lib.hid (HPR.out.below HG.out)
                  have s0 := HS5.out.c0
                  have s1 := HS5.out.c1
                  have y0 := HY.out.c0
                  have y1 := HY.out.c1
                  go_wp2_with (go_at_call 98; refine (sAddV_any s t x y p q true _ HP.out HQ.out HU2.out).mono ?_; rintro e w6 ⟨rfl, hb6⟩; have HS6 := Lib.hid (HS5.out.below hb6); have HR6 := Lib.hid (HR5.out.below hb6); have HG6 := Lib.hid (below_up HG.out hb6 (Nat.le_refl _)); have sc0 := HS6.out.c0; have sc1 := HS6.out.c1; have sf0 := HS6.out.f0; have sf1 := HS6.out.f1; have r0 := HR6.out.c0; have r1 := HR6.out.c1; have rf0 := HR6.out.f0; have rf1 := HR6.out.f1; clear hb6)
                  go_roundw
                  case rel => exact ⟨k + 1, p, q, by omega, by omega, by go_num, HD.out, (HR6.out.set _ (by omega)).set _ (by omega), HS6.out.put p q, below_put (HB.out.trans (HG6.out.mono hsz)) (Nat.le_succ _) _ _⟩
                  case measure => simp [intOf]; omega
      · obtain rfl : k = len := by omega
        have HE : Hid (r = some (s, t)) := Lib.hid (by rw [HR.out, Nat.min_eq_right (by omega)]; exact HDK.out)
        have r0 := hpr.c0
        have r1 := hpr.c1
        have rf0 := hpr.f0
        have rf1 := hpr.f1
        have s0 := hps.c0
        have s1 := hps.c1
        clear hpr hps hb
        go_wp2
        refine bodyPost_ret (v := .tuple #[.agg #[.int .i64 s, .int .i64 t], .bool true]) (by simp [results, Try.results81, go_sem, r0, r1]) rfl ⟨by rw [HE.out]; rfl, below_put HB.out (Nat.le_refl _) _ _⟩
    · obtain rfl : k = lb := by omega
      have HE : Hid (r = some (s, t)) := Lib.hid (by rw [HR.out, Nat.min_eq_left (by omega)]; exact HDK.out)
      have r0 := hpr.c0
      have r1 := hpr.c1
      have rf0 := hpr.f0
      have rf1 := hpr.f1
      have s0 := hps.c0
      have s1 := hps.c1
      clear hpr hps hb
      go_wp2
      refine bodyPost_ret (v := .tuple #[.agg #[.int .i64 s, .int .i64 t], .bool true]) (by simp [results, Try.results81, go_sem, r0, r1]) rfl ⟨by rw [HE.out]; rfl, below_put HB.out (Nat.le_refl _) _ _⟩
end Go.Proofs.Ytedkeobhcpbigaa
/- Integers times fractions: the program's sum. -/
namespace Go.Proofs.Ytedkeobhcpbigaa
open Go.RowKit
/-- What the program's sum is behind the first k products. -/
structure SumAt (z : List Int) (xs : List (Int × Int)) (k : Nat) (s t : Int) (o : Bool) : Prop where
  es : s = dN (dotR z xs k)
  et : t = dD (dotR z xs k)
  eo : o = (dotR z xs k).isSome
  is : IsI64 s
  it : IsI64 t
theorem sum_start (z : List Int) (xs : List (Int × Int)) : SumAt z xs 0 0 1 true := ⟨rfl, rfl, rfl, ⟨by decide, by decide⟩, ⟨by decide, by decide⟩⟩
theorem not_isR0 : ¬ IsR 0 0 := fun h => by have := h.2.2.1; omega
theorem SumAt.step {z : List Int} {xs : List (Int × Int)} {k : Nat} {s t : Int} {o : Bool} (h : SumAt z xs k s t o) {n c d x y p q : Int} {u : Bool} (hn : n = vec z k) (hx : xs.getD k (0, 0) = (c, d)) (h1 : x = mulN n 1 c d) (h2 : y = mulD n 1 c d) (h3 : p = addN s t x y) (h4 : q = addD s t x y) (h5 : u = addOk s t x y) : SumAt z xs (k + 1) p q u := by
  have hi := addN_i64 s t x y
  rw [← h3, ← h4] at hi
  have key : p = dN (dotR z xs (k + 1)) ∧ q = dD (dotR z xs (k + 1)) ∧ u = (dotR z xs (k + 1)).isSome := by
    have e : dotR z xs (k + 1) = (dotR z xs k).bind fun s => stepR s (vec z k) (xs.getD k (0, 0)) := rfl
    have no : ¬ AddOk s t x y → dotR z xs (k + 1) = none → p = dN (dotR z xs (k + 1)) ∧ q = dD (dotR z xs (k + 1)) ∧ u = (dotR z xs (k + 1)).isSome := fun ha hd => by
      rw [hd, h3, h4, h5]
      unfold addN addD addOk
      rw [if_neg ha, if_neg ha, decide_eq_false ha]
      exact ⟨rfl, rfl, rfl⟩
    cases hd : dotR z xs k with
    | none =>
      have hs := h.es
      have ht := h.et
      rw [hd] at hs ht e
      refine no (fun ha => not_isR0 ?_) e
      have := ha.1
      rw [hs, ht] at this
      exact this
    | some sp =>
      have hs := h.es
      have ht := h.et
      rw [hd] at hs ht e
      obtain ⟨s0, t0⟩ := sp
      obtain rfl : s = s0 := hs
      obtain rfl : t = t0 := ht
      rw [hx] at e
      have e2 : dotR z xs (k + 1) = stepR (s, t) (vec z k) (c, d) := e
      unfold stepR at e2
      by_cases hm : MulOk (vec z k) 1 c d
      · rw [if_pos hm] at e2
        simp only at e2
        rw [← hn, ← h1, ← h2] at e2
        by_cases ha : AddOk s t x y
        · rw [if_pos ha, ← h3, ← h4] at e2
          rw [e2, h5]
          unfold addOk
          rw [decide_eq_true ha]
          exact ⟨rfl, rfl, rfl⟩
        · rw [if_neg ha] at e2
          exact no ha e2
      · rw [if_neg hm] at e2
        refine no (fun ha => not_isR0 ?_) e2
        have h6 := ha.2.1
        rw [← hn] at hm
        rw [h1, h2] at h6
        unfold mulN mulD at h6
        rw [if_neg hm, if_neg hm] at h6
        exact h6
  exact ⟨key.1, key.2.1, key.2.2, hi.1, hi.2⟩
end Go.Proofs.Ytedkeobhcpbigaa
/- Systems: the model's ValueOf. -/
namespace Go.Proofs.Ytedkeobhcpbigaa
open Go.RowKit
/-- The value of a row, if it follows. -/
def valR (ms : List (List Int)) (vs : List Int) (z : List Int) : Option (Int × Int) := if (solvB ms vs (z.length : Int) && inSpanV ms z) = true then dotR z (solL ms vs (z.length : Int)) z.length else none
theorem valR_no1 {ms : List (List Int)} {vs z : List Int} (h : solvB ms vs (z.length : Int) = false) : valR ms vs z = none := by unfold valR; rw [h]; rfl
theorem valR_no2 {ms : List (List Int)} {vs z : List Int} (h : inSpanV ms z = false) : valR ms vs z = none := by unfold valR; rw [h, Bool.and_false]; rfl
theorem valR_yes {ms : List (List Int)} {vs z : List Int} (h1 : solvB ms vs (z.length : Int) = true) (h2 : inSpanV ms z = true) : valR ms vs z = dotR z (solL ms vs (z.length : Int)) z.length := by unfold valR; rw [h1, h2]; rfl
theorem solL_len {ms : List (List Int)} {vs : List Int} {q : Nat} (h : solvB ms vs (q : Int) = true) : (solL ms vs (q : Int)).length = q := by rw [solL_yes h, solAt_len]
set_option maxRecDepth 20000 in
set_option maxHeartbeats 1600000 in
theorem specVal_any (W : World) (a : Option Addr) (len cap : Nat) (ms : List (List Int)) (b : Option Addr) (lb cb : Nat) (vs : List Int) (c : Option Addr) (lc cc : Nat) (z : List Int) (hsm : SmallM ms) (hs : SeesM W a len ms) (hl : lb ≤ 1073741824) (hs2 : Sees .i64 W b lb vs) (hlc : lc ≤ 1073741824) (hcc : lc ≤ cc) (hcx : cc ≤ maxLen) (hs3 : Sees .i64 W c lc z) (r : Option (Int × Int)) (hr : r = valR ms vs z) :
    Calls Try.prog 56 #[.slice a len cap, .slice b lb cb, .slice c lc cc] W (RatRes (dN r) (dD r) r.isSome W) := by
  have HSM := Lib.hid hsm
  have HZL := Lib.hid hs3.1
  have HCX := Lib.hid hcx
  have HR := Lib.hid hr
  obtain ⟨W1, hW1⟩ : ∃ W1, W1 = W.alloc (.cells #[.int .i64 0, .int .i64 0] 30) := ⟨_, rfl⟩
  have HB0 : Hid (Below W.heap.size W W1) := Lib.hid (by rw [hW1]; exact (Below.refl _ _).alloc (Nat.le_refl _) _)
  have HPR : Hid (PairAt W1 W.heap.size 0 0) := Lib.hid (by rw [hW1]; exact pair_new W 0 0 _)
  have HS := Lib.hid (hs.below HB0.out)
  have HV := Lib.hid (hs2.below HB0.out)
  have HZ := Lib.hid (hs3.below HB0.out)
  clear hs hsm hs2 hs3 hcx hr
  cases hsol : solvB ms vs (lc : Int)
  · have HY := Lib.hid hsol
    have HE : Hid (r = none) := Lib.hid (HR.out.trans (valR_no1 (by rw [HZL.out]; exact hsol)))
    clear hsol
    go_enter Try.func56, Try.ntmps56
    go_wp2_with fail
    rw [← hW1]
    clear hW1
    go_wp2_with (go_at_call 80; refine (specSol_any _ _ _ _ ms _ _ _ vs (lc : Int) HSM.out HS.out hl HV.out (by omega) (by omega)).mono ?_; rintro e w2 ⟨a2, l2, c2, he2, _, hb2⟩; rw [HY.out] at he2; subst he2; have HB2 := Lib.hid (below_up HB0.out hb2 (Nat.le_refl _)); have HP2 := Lib.hid (HPR.out.below hb2); have r0 := HP2.out.c0; have r1 := HP2.out.c1; have rf0 := HP2.out.f0; have rf1 := HP2.out.f1; clear hb2)
    refine bodyPost_ret (v := .tuple #[.agg #[.int .i64 0, .int .i64 0], .bool false]) (by simp [results, Try.results56, go_sem, r0, r1]) rfl ⟨by rw [HE.out]; rfl, below_put HB2.out (Nat.le_refl _) _ _⟩
  · have HY := Lib.hid hsol
    have hxl : (solL ms vs (lc : Int)).length = lc := solL_len hsol
    obtain ⟨xs, hxs⟩ : ∃ xs, xs = solL ms vs (lc : Int) := ⟨_, rfl⟩
    rw [← hxs] at hxl
    have HXS := Lib.hid hxs
    cases hsp : inSpanV ms z
    · have HE : Hid (r = none) := Lib.hid (HR.out.trans (valR_no2 hsp))
      have HP := Lib.hid hsp
      clear hsol hsp hxs
      go_enter Try.func56, Try.ntmps56
      go_wp2_with fail
      rw [← hW1]
      clear hW1
      go_wp2_with (first
        | (go_at_call 80; refine (specSol_any _ _ _ _ ms _ _ _ vs (lc : Int) HSM.out HS.out hl HV.out (by omega) (by omega)).mono ?_; rintro e w2 ⟨a2, l2, c2, he2, _, hb2⟩; rw [HY.out] at he2; subst he2; have HB2 := Lib.hid hb2; clear hb2)
        | (go_at_call 55; refine (specSpan_any _ _ _ _ ms _ _ _ z HSM.out (HS.out.below HB2.out) hlc hcc HCX.out (HZ.out.below HB2.out)).mono ?_; rw [HP.out]; rintro e w3 ⟨rfl, hb3⟩; have HB3' := Lib.hid (below_up HB2.out hb3 (Nat.le_refl _)); have HB3 := Lib.hid (below_up HB0.out HB3'.out (Nat.le_refl _)); have HP2 := Lib.hid (HPR.out.below HB3'.out); have r0 := HP2.out.c0; have r1 := HP2.out.c1; have rf0 := HP2.out.f0; have rf1 := HP2.out.f1; clear hb3))
      refine bodyPost_ret (v := .tuple #[.agg #[.int .i64 0, .int .i64 0], .bool false]) (by simp [results, Try.results56, go_sem, r0, r1]) rfl ⟨by rw [HE.out]; rfl, below_put HB3.out (Nat.le_refl _) _ _⟩
    · have HD : Hid (r = dotR z xs (min lc lc)) := Lib.hid (by rw [HR.out, valR_yes (by rw [HZL.out]; exact hsol) hsp, HZL.out, ← hxs, Nat.min_self])
      have HP := Lib.hid hsp
      clear hsol hsp hxs
      obtain ⟨x, hx⟩ : ∃ x, x = dN r := ⟨_, rfl⟩
      obtain ⟨y, hy⟩ : ∃ y, y = dD r := ⟨_, rfl⟩
      obtain ⟨o, ho⟩ : ∃ o, o = r.isSome := ⟨_, rfl⟩
      have HXN := Lib.hid hx
      have HYN := Lib.hid hy
      have HON := Lib.hid ho
      clear hx hy ho
      go_enter Try.func56, Try.ntmps56
      go_wp2_with fail
      rw [← hW1]
      clear hW1
      go_wp2_with (first
        | (go_at_call 81; refine (specDot6_any _ _ _ _ z _ _ _ xs hlc hlc (HZ.out.below HB3'.out) (HX2.out.below HB3x.out) r HD.out).mono ?_; rintro e w4 ⟨he4, hb4⟩; rw [← HXN.out, ← HYN.out, ← HON.out] at he4; subst he4; have HB4' := Lib.hid (below_up HB3'.out hb4 (Nat.le_refl _)); have HB4 := Lib.hid (below_up HB0.out HB4'.out (Nat.le_refl _)); have HP2 := Lib.hid (HPR.out.below HB4'.out); have r0 := HP2.out.c0; have r1 := HP2.out.c1; have rf0 := HP2.out.f0; have rf1 := HP2.out.f1; clear hb4)
        | (go_at_call 55; refine (specSpan_any _ _ _ _ ms _ _ _ z HSM.out (HS.out.below HB2.out) hlc hcc HCX.out (HZ.out.below HB2.out)).mono ?_; rw [HP.out]; rintro e w3 ⟨rfl, hb3⟩; have HB3x := Lib.hid hb3; have HB3' := Lib.hid (below_up HB2.out hb3 (Nat.le_refl _)); clear hb3)
        | (go_at_call 80; refine (specSol_any _ _ _ _ ms _ _ _ vs (lc : Int) HSM.out HS.out hl HV.out (by omega) (by omega)).mono ?_; rintro e w2 ⟨a2, l2, c2, he2, ho2, hb2⟩; rw [HY.out] at he2; subst he2; rw [← HXS.out] at ho2; have hl2 : lc = l2 := hxl.symm.trans ho2.1; subst hl2; have HX2 := Lib.hid ho2.sees; have HB2 := Lib.hid hb2; clear hb2 ho2))
      refine bodyPost_ret (v := .tuple #[.agg #[.int .i64 x, .int .i64 y], .bool o]) (by simp [results, Try.results56, go_sem, r0, r1]) rfl ⟨by rw [HXN.out, HYN.out, HON.out], below_put HB4.out (Nat.le_refl _) _ _⟩
end Go.Proofs.Ytedkeobhcpbigaa
