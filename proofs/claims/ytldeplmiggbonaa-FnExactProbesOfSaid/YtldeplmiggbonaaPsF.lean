/- ProbesOf: in plain words, and the model's. -/
import Derived.Test.YtldeplmiggbonaaPrbP
import Derived.Test.YtldeplmiggbonaaAppQ
namespace Go.Proofs.Ytldeplmiggbonaa
open Go.RowKit
/-- One pair of hosts: its probe is added, if there is one and there is room. -/
noncomputable def stepQ (n : Int) (ls : List (Int × Int)) (acc : List Prb) (x y : Int) : List Prb := if (probeV n ls x y).2 = true ∧ acc.length < 12 then acc ++ [(probeV n ls x y).1] else acc
/-- One host with some of those behind it. -/
noncomputable def inQ (n : Int) (ls : List (Int × Int)) (x : Int) (l : List Int) (acc : List Prb) : List Prb := l.foldl (fun acc y => stepQ n ls acc x y) acc
/-- The first i hosts, each with all those behind it. -/
noncomputable def outQ (n : Int) (ls : List (Int × Int)) (hs : List Int) : Nat → List Prb
  | 0 => []
  | i + 1 => inQ n ls (hs.getD i 0) (hs.drop (i + 1)) (outQ n ls hs i)
noncomputable def probesV (n : Int) (ls : List (Int × Int)) (hs : List Int) : List Prb := outQ n ls hs hs.length
theorem stepQ_no {n : Int} {ls : List (Int × Int)} {acc : List Prb} {x y : Int} (h : (probeV n ls x y).2 = false) : stepQ n ls acc x y = acc := by
  unfold stepQ
  rw [if_neg (by rw [h]; simp)]
theorem stepQ_full {n : Int} {ls : List (Int × Int)} {acc : List Prb} {x y : Int} (h : ¬ acc.length < 12) : stepQ n ls acc x y = acc := by
  unfold stepQ
  rw [if_neg (fun e => h e.2)]
theorem stepQ_add {n : Int} {ls : List (Int × Int)} {acc : List Prb} {x y : Int} (h : (probeV n ls x y).2 = true) (hl : acc.length < 12) : stepQ n ls acc x y = acc ++ [(probeV n ls x y).1] := by
  unfold stepQ
  rw [if_pos ⟨h, hl⟩]
theorem stepQ_len {n : Int} {ls : List (Int × Int)} {acc : List Prb} {x y : Int} (h : acc.length ≤ 12) : (stepQ n ls acc x y).length ≤ 12 := by
  unfold stepQ
  split
  · rename_i h2
    rw [List.length_append]
    simp
    omega
  · exact h
theorem inQ_next (n : Int) (ls : List (Int × Int)) (x : Int) {l : List Int} (acc : List Prb) {j : Nat} (hj : j < l.length) : inQ n ls x (l.take (j + 1)) acc = stepQ n ls (inQ n ls x (l.take j) acc) x (l.getD j 0) := by
  unfold inQ
  rw [List.take_add_one, List.foldl_append]
  simp [List.getD, hj]
theorem inQ_full {n : Int} {ls : List (Int × Int)} {x : Int} : ∀ {l : List Int} {acc : List Prb}, ¬ acc.length < 12 → inQ n ls x l acc = acc
  | [], _, _ => rfl
  | y :: r, acc, h => by
    show inQ n ls x r (stepQ n ls acc x y) = acc
    rw [stepQ_full h]
    exact inQ_full h
theorem inQ_len {n : Int} {ls : List (Int × Int)} {x : Int} : ∀ {l : List Int} {acc : List Prb}, acc.length ≤ 12 → (inQ n ls x l acc).length ≤ 12
  | [], _, h => h
  | _ :: r, _, h => inQ_len (l := r) (stepQ_len h)
theorem inQ_append (n : Int) (ls : List (Int × Int)) (x : Int) (l m : List Int) (acc : List Prb) : inQ n ls x (l ++ m) acc = inQ n ls x m (inQ n ls x l acc) := by
  unfold inQ
  rw [List.foldl_append]
theorem outQ_len {n : Int} {ls : List (Int × Int)} {hs : List Int} : ∀ i, (outQ n ls hs i).length ≤ 12
  | 0 => Nat.zero_le _
  | i + 1 => inQ_len (outQ_len i)
theorem outQ_full {n : Int} {ls : List (Int × Int)} {hs : List Int} {i : Nat} (h : ¬ (outQ n ls hs i).length < 12) : ∀ d, outQ n ls hs (i + d) = outQ n ls hs i
  | 0 => rfl
  | d + 1 => by
    show inQ n ls _ _ (outQ n ls hs (i + d)) = _
    rw [outQ_full h d]
    exact inQ_full h
/-- Once there are twelve, these are all. -/
theorem probesV_full {n : Int} {ls : List (Int × Int)} {hs : List Int} {i j : Nat} (hi : i < hs.length) (h : ¬ (inQ n ls (hs.getD i 0) ((hs.drop (i + 1)).take j) (outQ n ls hs i)).length < 12) : probesV n ls hs = inQ n ls (hs.getD i 0) ((hs.drop (i + 1)).take j) (outQ n ls hs i) := by
  have e : outQ n ls hs (i + 1) = inQ n ls (hs.getD i 0) ((hs.drop (i + 1)).take j) (outQ n ls hs i) := by
    show inQ n ls _ _ _ = _
    conv => lhs; rw [← List.take_append_drop j (hs.drop (i + 1))]
    rw [inQ_append]
    exact inQ_full h
  unfold probesV
  have e2 : hs.length = i + 1 + (hs.length - (i + 1)) := by omega
  rw [e2, outQ_full (by rw [e]; exact h), e]
theorem probe_ends {n : Int} {ls : List (Int × Int)} {x y : Int} {p : Prb} {t : Bool} (h : probeV n ls x y = (p, t)) (hx : (Lit.int .i64 x).wf = true) (hy : (Lit.int .i64 y).wf = true) : (Lit.int .i64 p.1).wf = true ∧ (Lit.int .i64 p.2.1).wf = true := by
  unfold probeV at h
  split at h
  · simp only [Prod.mk.injEq] at h
    rw [← h.1]
    exact ⟨by decide, by decide⟩
  · simp only [Prod.mk.injEq] at h
    rw [← h.1]
    exact ⟨hx, hy⟩
theorem ownQ_nil0 (W : World) : OwnQ (W.alloc (.cells #[] 28)) W.heap.size (W.heap.size + 1) (some ⟨W.heap.size, 0, none⟩) 0 0 [] :=
  ⟨rfl, fun _ h => by simp at h, by simp, fun x hx => by cases hx; exact ⟨Nat.le_refl _, Nat.lt_succ_self _⟩, fun _ => none, fun _ => 0, ⟨rfl, .inr ⟨W.heap.size, 0, #[], rfl, Nat.le_refl _, heap_alloc_new W _, Nat.le_refl _, Nat.zero_le _, rfl, rfl⟩⟩, fun r hr => absurd hr (Nat.not_lt_zero _)⟩
theorem ownQ_nilB {W : World} {B : Nat} (hB : B = W.heap.size) : OwnQ (W.alloc (.cells #[] 28)) W.heap.size (W.alloc (.cells #[] 28)).heap.size (some ⟨B, 0, none⟩) 0 0 [] := by
  subst hB
  exact (ownQ_nil0 W).wide (Nat.le_refl _) (ownQ_nil0 W).2.2.1 (Nat.le_refl _)
/-- Block B may be written. -/
structure FreeP (w : World) (B : Nat) : Prop where
  f0 : w.frozen? ⟨B, 0, none⟩ = false
  f1 : w.frozen? ⟨B, 1, none⟩ = false
  f2 : w.frozen? ⟨B, 2, none⟩ = false
  lt : B < w.heap.size
theorem free_new (w : World) (x y : Int) (a : Option Addr) (len cap : Nat) (t : TypeId) : FreeP (w.alloc (.cells #[.int .i64 x, .int .i64 y, .slice a len cap] t)) w.heap.size :=
  ⟨by go_simp, by go_simp, by go_simp, by simp⟩
theorem FreeP.below {w w' : World} {B : Nat} (h : FreeP w B) (hb : Below w.heap.size w w') : FreeP w' B :=
  ⟨(hb.frozen (p := ⟨B, 0, none⟩) h.lt).trans h.f0, (hb.frozen (p := ⟨B, 1, none⟩) h.lt).trans h.f1, (hb.frozen (p := ⟨B, 2, none⟩) h.lt).trans h.f2, Nat.lt_of_lt_of_le h.lt hb.size⟩
def set3 (w : World) (B : Nat) (x y : Int) (a : Option Addr) (len cap : Nat) : World := ((w.setCell ⟨B, 0, none⟩ (.int .i64 x)).setCell ⟨B, 1, none⟩ (.int .i64 y)).setCell ⟨B, 2, none⟩ (.slice a len cap)
theorem PrbAt.put {w : World} {B : Nat} {x y : Int} {a : Option Addr} {len cap : Nat} (h : PrbAt w B x y a len cap) (p q : Int) (a' : Option Addr) (l' c' : Nat) : PrbAt (set3 w B p q a' l' c') B p q a' l' c' := by
  have h1 : (w.setCell ⟨B, 0, none⟩ (.int .i64 p)).cell? ⟨B, 1, none⟩ = some (.int .i64 y) := (World.cell?_setCell_other _ _ _ _ (by simp)).trans h.c1
  have h2 : ((w.setCell ⟨B, 0, none⟩ (.int .i64 p)).setCell ⟨B, 1, none⟩ (.int .i64 q)).cell? ⟨B, 2, none⟩ = some (.slice a len cap) := (World.cell?_setCell_other _ _ _ _ (by simp)).trans ((World.cell?_setCell_other _ _ _ _ (by simp)).trans h.c2)
  refine ⟨?_, ?_, World.cell?_setCell_same _ _ _ h2, by simpa [set3, World.setCell] using h.lt⟩
  · exact (World.cell?_setCell_other _ _ _ _ (by simp)).trans ((World.cell?_setCell_other _ _ _ _ (by simp)).trans (World.cell?_setCell_same _ _ _ h.c0))
  · exact (World.cell?_setCell_other _ _ _ _ (by simp)).trans (World.cell?_setCell_same _ _ _ h1)
theorem below_set3 {B : Nat} {w0 w : World} {C : Nat} (h : Below B w0 w) (hB : B ≤ C) (x y : Int) (a : Option Addr) (len cap : Nat) : Below B w0 (set3 w C x y a len cap) := ((h.setCell hB _).setCell hB _).setCell hB _
theorem moved_put3 (w : World) (C : Nat) (x y : Int) (a : Option Addr) (len cap : Nat) : Moved C (C + 1) w (set3 w C x y a len cap) :=
  ((moved_set3 _ _ _ _ (Nat.le_refl _) (Nat.lt_succ_self _)).trans (moved_set3 _ _ _ _ (Nat.le_refl _) (Nat.lt_succ_self _))).trans (moved_set3 _ _ _ _ (Nat.le_refl _) (Nat.lt_succ_self _))
theorem Sees.spot {k : IntKind} {w : World} {a : Option Addr} {len : Nat} {zs : List Int} (h : Sees k w a len zs) (h0 : 0 < len) : ∃ b off, a = some ⟨b, off, none⟩ ∧ b < w.heap.size ∧ ∀ j, j < len → w.cell? ⟨b, off + j, none⟩ = some (.int k (zs.getD j 0)) := by
  rcases h.2.2 with h1 | h1
  · omega
  · exact h1
theorem drop_getD (hs : List Int) (i j : Nat) : (hs.drop i).getD j 0 = hs.getD (i + j) 0 := by simp [List.getD]
set_option maxRecDepth 20000 in
set_option maxHeartbeats 4000000 in
theorem specProbes_any (W : World) (n : Int) (a : Option Addr) (len cap : Nat) (ls : List (Int × Int)) (q : Option Addr) (lh ch : Nat) (hs : List Int) (hl : len ≤ 1048576) (hsl : SeesL W a len ls) (hlh : lh ≤ 1048576) (hq : Sees .i64 W q lh hs) :
    Calls Try.prog 17 #[.agg #[.int .i64 n, .slice a len cap], .slice q lh ch] W (MadeQ (probesV n ls hs) W) := by
  obtain ⟨V, hV⟩ : ∃ V, V = W.alloc (.cells #[.int .i64 n, .slice a len cap] 33) := ⟨_, rfl⟩
  have HBV : Hid (Below W.heap.size W V) := Lib.hid (by rw [hV]; exact below_new _ _)
  have HN := Lib.hid (show NetAt V W.heap.size n a len cap by rw [hV]; exact net_new _ _ _ _ _ _)
  have HS := Lib.hid (hsl.below HBV.out)
  have HQ := Lib.hid (hq.below HBV.out)
  have HL := Lib.hid hq.1
  clear hsl hq
  obtain ⟨i1, hi1, hz10, hz11, hz12⟩ := info_parts info_prb
  have HO0 := Lib.hid (ownQ_nilB (W := V) (B := W.heap.size + 1) (by rw [hV]; simp))
  go_enter Try.func17, Try.ntmps17
  go_wp2_with fail
  rw [← hV]
  clear hV
  go_wp2_with fail
  go_loopw [5, 6, 7, 8, 9] (fun v i _ _ _ wr => ∃ (k : Nat) (a' : Option Addr) (l' c' : Nat), k ≤ lh ∧ (outQ n ls hs k).length = l' ∧ i = .int .i64 k ∧ v = .slice a' l' c' ∧ OwnQ wr V.heap.size wr.heap.size a' l' c' (outQ n ls hs k) ∧ Below V.heap.size V wr) (fun _ i _ _ _ _ => lh - (intOf i).toNat)
  case atStart => exact ⟨0, _, _, _, Nat.zero_le _, rfl, rfl, rfl, HO0.out, below_new _ _⟩
  case round =>
    obtain ⟨i, a', l', c', hk, hln, rfl, rfl, ho, hb⟩ := hrel
    obtain ⟨Vr, rfl⟩ : ∃ Vr, Vr = wr := ⟨_, rfl⟩
    have HO := Lib.hid ho
    have HB := Lib.hid hb
    have HLN := Lib.hid hln
    by_cases hlt : i < lh
    · have hkm : i < hs.length := by rw [HL.out]; exact hlt
      obtain ⟨b1, o1, rfl, hb10, hcs⟩ := HQ.out.spot (by omega)
      obtain ⟨x, hx⟩ : ∃ x, x = hs.getD i 0 := ⟨_, rfl⟩
      obtain ⟨rest, hrest⟩ : ∃ r, r = hs.drop (i + 1) := ⟨_, rfl⟩
      obtain ⟨acc0, hacc⟩ : ∃ r, r = outQ n ls hs i := ⟨_, rfl⟩
      have HRL : Hid (rest.length = lh - (i + 1)) := Lib.hid (by rw [hrest, List.length_drop, HL.out])
      have HX := Lib.hid hx
      have HRest := Lib.hid hrest
      have HAcc := Lib.hid hacc
      have HCS := Lib.hid hcs
      have HFX : Hid ((Lit.int .i64 x).wf = true) := Lib.hid (by rw [hx]; exact HQ.out.2.1 _ (getD_mem hkm))
      rw [← hacc] at HO HLN
      have hx0 : V.cell? ⟨b1, o1 + i, none⟩ = some (.int .i64 x) := by rw [hx]; exact hcs i hlt
      have HX0 := Lib.hid hx0
      clear hx hrest hacc hcs hln ho hb hx0
      go_wp2_with fail
      go_loopw [5, 7, 8, 9] (fun v i2 _ _ wr => ∃ (j m : Nat) (a' : Option Addr) (l' c' : Nat), m = i + 1 + j ∧ m ≤ lh ∧ (inQ n ls x (rest.take j) acc0).length = l' ∧ (inQ n ls x (rest.take j) acc0).length ≤ 12 ∧ i2 = .int .i64 (m : Int) ∧ v = .slice a' l' c' ∧ OwnQ wr V.heap.size wr.heap.size a' l' c' (inQ n ls x (rest.take j) acc0) ∧ Below V.heap.size V wr) (fun _ i2 _ _ _ => lh - (intOf i2).toNat)
      case atStart => exact ⟨0, i + 1, _, _, _, rfl, hlt, HLN.out, by rw [HAcc.out]; exact outQ_len _, by go_num, rfl, HO.out, HB.out⟩
      case round =>
        clear HO HB HLN
        obtain ⟨j, m, a', l', c', hjm, hm, hln, hl12, rfl, rfl, ho, hb⟩ := hrel
        have HJM := Lib.hid hjm
        clear hjm
        have HO := Lib.hid ho
        have HB := Lib.hid hb
        have HLN := Lib.hid hln
        have HL12 := Lib.hid hl12
        have hl12' : l' ≤ 12 := by omega
        have hszr := hb.size
        clear hln hl12
        by_cases hjl : m < lh
        · obtain ⟨y, hy⟩ : ∃ y, y = hs.getD m 0 := ⟨_, rfl⟩
          have HJ : Hid (j < rest.length) := Lib.hid (by have h1 := HRL.out; have h2 := HJM.out; omega)
          have HY : Hid (rest.getD j 0 = y) := Lib.hid (by rw [HRest.out, drop_getD, ← HJM.out]; exact hy.symm)
          have hb1 : b1 < wr.heap.size := Nat.lt_of_lt_of_le hb10 hb.size
          have hc0 := (hb.cell (p := ⟨b1, o1 + i, none⟩) hb10).trans HX0.out
          have hc1 : wr.cell? ⟨b1, o1 + m, none⟩ = some (.int .i64 y) := by rw [hy]; exact (hb.cell (p := ⟨b1, o1 + m, none⟩) hb10).trans (HCS.out m hjl)
          have hfy : (Lit.int .i64 y).wf = true := by rw [hy]; exact HQ.out.2.1 _ (getD_mem (by rw [HL.out]; exact hjl))
          obtain ⟨px, py, pzs, pt, hpq⟩ : ∃ px py pzs pt, probeV n ls x y = ((px, py, pzs), pt) := ⟨_, _, _, _, rfl⟩
          have HFW := Lib.hid (probe_ends hpq HFX.out hfy)
          have HPQ := Lib.hid hpq
          have HNW := Lib.hid (HN.out.below hb)
          have HSW := Lib.hid (HS.out.below hb)
          have hn0 := HNW.out.c0
          have hn1 := HNW.out.c1
          have HC0 := Lib.hid hc0
          have HC1 := Lib.hid hc1
          have HN0 := Lib.hid hn0
          have HN1 := Lib.hid hn1
          have HSD : Hid (SeesL wr.drew a len ls) := Lib.hid (HSW.out.below (Below.refl _ _).drew)
          have HSA : Hid (SeesL (wr.alloc (.cells #[.int .i64 0, .int .i64 0, .slice none 0 0] 28)).drew a len ls) := Lib.hid ((HSW.out.below (below_new _ _)).below (Below.refl _ _).drew)
          have i0 : (0 : Int) ≤ (i : Int) := by omega
          have i1k : (i : Int) < (lh : Int) := by omega
          have j0 : (0 : Int) ≤ (m : Int) := by omega
          have j1k : (m : Int) < (lh : Int) := by omega
          have ne1 := World.new_ne wr _ hc0
          have ne2 := World.new_ne wr _ hc1
          have ne3 := World.new_ne wr _ hn0
          have ne4 := World.new_ne wr _ hn1
          clear hy hfy hpq ho hb
          go_wp2_with fail
          go_region_held3 (fun w' => w'.cell? ⟨b1, o1 + i, none⟩ = some (.int .i64 x) ∧ w'.cell? ⟨b1, o1 + m, none⟩ = some (.int .i64 y) ∧ w'.cell? ⟨W.heap.size, 0, none⟩ = some (.int .i64 n) ∧ w'.cell? ⟨W.heap.size, 1, none⟩ = some (.slice a len cap)) (go_keep) (first
            | (go_at_call 9; refine (specProbeX _ n a len cap ls x y px py pzs.length pzs pt hl (HSA.out) HPQ.out rfl).mono ?_; rintro e w4 ⟨b2, c2, rfl, ho4, hb4⟩; have G4 := Lib.hid (below_up (w0 := wr) (by first | exact (Below.refl _ _).drew | exact ((Below.refl wr.heap.size wr).alloc (Nat.le_refl _) _).drew) hb4 (Nat.le_refl _)); have k1 := (G4.out.cell (p := ⟨b1, o1 + i, none⟩) hb1).trans HC0.out; have k2 := (G4.out.cell (p := ⟨b1, o1 + m, none⟩) hb1).trans HC1.out; have k3 := (G4.out.cell (p := ⟨W.heap.size, 0, none⟩) HNW.out.lt).trans HN0.out; have k4 := (G4.out.cell (p := ⟨W.heap.size, 1, none⟩) HNW.out.lt).trans HN1.out; have HO4 := Lib.hid ho4; have HZ4 := Lib.hid hb4.size; have P4 := Lib.hid (((prb_new wr 0 0 none 0 0 28).below (Below.refl _ _).drew).below hb4); have F4 := Lib.hid (((free_new wr 0 0 none 0 0 28).below (Below.refl _ _).drew).below hb4); have q0 := P4.out.c0; have q1 := P4.out.c1; have q2 := P4.out.c2; have qf0 := F4.out.f0; have qf1 := F4.out.f1; have qf2 := F4.out.f2; clear hb4 ho4)
            | (go_at_call 9; refine (specProbeX _ n a len cap ls x y px py pzs.length pzs pt hl HSD.out HPQ.out rfl).mono ?_; rintro e w4 ⟨b2, c2, rfl, ho4, hb4⟩; have G4 := Lib.hid (below_up (w0 := wr) (by first | exact (Below.refl _ _).drew | exact ((Below.refl wr.heap.size wr).alloc (Nat.le_refl _) _).drew) hb4 (Nat.le_refl _)); have k1 := (G4.out.cell (p := ⟨b1, o1 + i, none⟩) hb1).trans HC0.out; have k2 := (G4.out.cell (p := ⟨b1, o1 + m, none⟩) hb1).trans HC1.out; have k3 := (G4.out.cell (p := ⟨W.heap.size, 0, none⟩) HNW.out.lt).trans HN0.out; have k4 := (G4.out.cell (p := ⟨W.heap.size, 1, none⟩) HNW.out.lt).trans HN1.out; have HO4 := Lib.hid ho4; have HZ4 := Lib.hid hb4.size; clear hb4 ho4))
          · obtain ⟨V2, hV2⟩ : ∃ V, V = w4.alloc (.cells #[.int .i64 px, .int .i64 py, .slice b2 pzs.length c2] 28) := ⟨_, rfl⟩
            have HG : Hid (Below wr.heap.size wr V2) := Lib.hid (by rw [hV2]; exact G4.out.alloc G4.out.size _)
            have HPr : Hid (PrbAt V2 w4.heap.size px py b2 pzs.length c2) := Lib.hid (by rw [hV2]; exact prb_new _ _ _ _ _ _ _)
            have HN2 : Hid (Own .i64 3 V2 wr.heap.size V2.heap.size b2 pzs.length c2 pzs) := Lib.hid (by rw [hV2]; exact ((HO4.out.below (below_new _ _)).wide (Nat.le_refl _) (by simp) (Nat.le_refl _)))
            rw [← hV2]
            clear hV2
            have HOV := Lib.hid (HO.out.below HG.out)
            have p0 := HPr.out.c0
            have p1 := HPr.out.c1
            have p2 := HPr.out.c2
            cases pt
            · have HE : Hid (inQ n ls x (rest.take (j + 1)) acc0 = inQ n ls x (rest.take j) acc0) := Lib.hid (by rw [inQ_next n ls x acc0 HJ.out, stepQ_no (by rw [HY.out, HPQ.out])])
              go_wp2
              go_roundw
              case rel =>
                have ho := HOV.out.wide (Nat.le_refl _) HG.out.size (Nat.le_refl _)
                exact ⟨j + 1, m + 1, _, _, _, by have := HJM.out; omega, hjl, by rw [HE.out]; exact HLN.out, by rw [HE.out]; exact HL12.out, by go_num, rfl, by rw [HE.out]; exact ho, below_up HB.out HG.out (Nat.le_refl _)⟩
              case measure => simp [intOf]; omega
            · by_cases hlt12 : l' < 12
              · have HE : Hid (inQ n ls x (rest.take (j + 1)) acc0 = inQ n ls x (rest.take j) acc0 ++ [(px, py, pzs)]) := Lib.hid (by rw [inQ_next n ls x acc0 HJ.out, stepQ_add (by rw [HY.out, HPQ.out]) (by rw [HLN.out]; exact hlt12), HY.out, HPQ.out])
                go_wp2_with (at_builtin; refine wp_append_ownQ rfl _ _ 40 rfl i1 Try.underlying40 hi1 hz10 hz11 hz12 _ _ _ rfl V2.heap.size rfl _ V.heap.size wr.heap.size (HOV.out.below (below_new _ _)) b2 c2 (px, py, pzs) HFW.out (by go_simp) (by go_simp) (by go_simp) wr.heap.size V2.heap.size (HN2.out.below (below_new _ _)) (Nat.le_refl _) hszr (by omega) (Nat.le_trans hszr (Nat.le_trans HG.out.size (below_new _ _).size)) ?_; intro g4 c4 w4 ho4 hm4; have HO4 := Lib.hid ho4; have HM4 := Lib.hid hm4; clear ho4 hm4)
                go_roundw
                case rel =>
                  have hb4 := below_moved (below_up (below_up HB.out HG.out (Nat.le_refl _)) (below_new V2 _) (Nat.le_refl _)) HM4.out (Nat.le_refl _) (Nat.le_refl _)
                  exact ⟨j + 1, m + 1, _, _, _, by have := HJM.out; omega, hjl, by rw [HE.out, List.length_append, HLN.out]; rfl, by rw [HE.out, List.length_append, HLN.out]; simp; omega, by go_num, rfl, by rw [HE.out]; exact HO4.out, hb4⟩
                case measure => simp [intOf]; omega
              · have HE : Hid (inQ n ls x (rest.take (j + 1)) acc0 = inQ n ls x (rest.take j) acc0) := Lib.hid (by rw [inQ_next n ls x acc0 HJ.out, stepQ_full (by rw [HLN.out]; exact hlt12)])
                go_wp2
                go_roundw
                case rel =>
                  have ho := HOV.out.wide (Nat.le_refl _) HG.out.size (Nat.le_refl _)
                  exact ⟨j + 1, m + 1, _, _, _, by have := HJM.out; omega, hjl, by rw [HE.out]; exact HLN.out, by rw [HE.out]; exact HL12.out, by go_num, rfl, by rw [HE.out]; exact ho, below_up HB.out HG.out (Nat.le_refl _)⟩
                case measure => simp [intOf]; omega
          · obtain ⟨V2, hV2⟩ : ∃ V, V = set3 w4 wr.heap.size px py b2 pzs.length c2 := ⟨_, rfl⟩
            have HG : Hid (Below wr.heap.size wr V2) := Lib.hid (by rw [hV2]; exact below_set3 G4.out (Nat.le_refl _) _ _ _ _ _)
            have HPr : Hid (PrbAt V2 wr.heap.size px py b2 pzs.length c2) := Lib.hid (by rw [hV2]; exact P4.out.put _ _ _ _ _)
            have HN2 : Hid (Own .i64 3 V2 wr.heap.size V2.heap.size b2 pzs.length c2 pzs) := Lib.hid (by rw [hV2]; exact ((HO4.out.moved (moved_put3 _ _ _ _ _ _ _) (.inr (by simp))).wide (by simp) (moved_put3 _ _ _ _ _ _ _).size (Nat.le_refl _)))
            have hS : ((w4.setCell ⟨wr.heap.size, 0, none⟩ (.int .i64 px)).setCell ⟨wr.heap.size, 1, none⟩ (.int .i64 py)).setCell ⟨wr.heap.size, 2, none⟩ (.slice b2 pzs.length c2) = V2 := by rw [hV2]; rfl
            rw [hS]
            clear hV2 hS
            have HOV := Lib.hid (HO.out.below HG.out)
            have p0 := HPr.out.c0
            have p1 := HPr.out.c1
            have p2 := HPr.out.c2
            cases pt
            · have HE : Hid (inQ n ls x (rest.take (j + 1)) acc0 = inQ n ls x (rest.take j) acc0) := Lib.hid (by rw [inQ_next n ls x acc0 HJ.out, stepQ_no (by rw [HY.out, HPQ.out])])
              go_wp2
              go_roundw
              case rel =>
                have ho := HOV.out.wide (Nat.le_refl _) HG.out.size (Nat.le_refl _)
                exact ⟨j + 1, m + 1, _, _, _, by have := HJM.out; omega, hjl, by rw [HE.out]; exact HLN.out, by rw [HE.out]; exact HL12.out, by go_num, rfl, by rw [HE.out]; exact ho, below_up HB.out HG.out (Nat.le_refl _)⟩
              case measure => simp [intOf]; omega
            · by_cases hlt12 : l' < 12
              · have HE : Hid (inQ n ls x (rest.take (j + 1)) acc0 = inQ n ls x (rest.take j) acc0 ++ [(px, py, pzs)]) := Lib.hid (by rw [inQ_next n ls x acc0 HJ.out, stepQ_add (by rw [HY.out, HPQ.out]) (by rw [HLN.out]; exact hlt12), HY.out, HPQ.out])
                go_wp2_with (at_builtin; refine wp_append_ownQ rfl _ _ 40 rfl i1 Try.underlying40 hi1 hz10 hz11 hz12 _ _ _ rfl V2.heap.size rfl _ V.heap.size wr.heap.size (HOV.out.below (below_new _ _)) b2 c2 (px, py, pzs) HFW.out (by go_simp) (by go_simp) (by go_simp) wr.heap.size V2.heap.size (HN2.out.below (below_new _ _)) (Nat.le_refl _) hszr (by omega) (Nat.le_trans hszr (Nat.le_trans HG.out.size (below_new _ _).size)) ?_; intro g4 c4 w4 ho4 hm4; have HO4 := Lib.hid ho4; have HM4 := Lib.hid hm4; clear ho4 hm4)
                go_roundw
                case rel =>
                  have hb4 := below_moved (below_up (below_up HB.out HG.out (Nat.le_refl _)) (below_new V2 _) (Nat.le_refl _)) HM4.out (Nat.le_refl _) (Nat.le_refl _)
                  exact ⟨j + 1, m + 1, _, _, _, by have := HJM.out; omega, hjl, by rw [HE.out, List.length_append, HLN.out]; rfl, by rw [HE.out, List.length_append, HLN.out]; simp; omega, by go_num, rfl, by rw [HE.out]; exact HO4.out, hb4⟩
                case measure => simp [intOf]; omega
              · have HE : Hid (inQ n ls x (rest.take (j + 1)) acc0 = inQ n ls x (rest.take j) acc0) := Lib.hid (by rw [inQ_next n ls x acc0 HJ.out, stepQ_full (by rw [HLN.out]; exact hlt12)])
                go_wp2
                go_roundw
                case rel =>
                  have ho := HOV.out.wide (Nat.le_refl _) HG.out.size (Nat.le_refl _)
                  exact ⟨j + 1, m + 1, _, _, _, by have := HJM.out; omega, hjl, by rw [HE.out]; exact HLN.out, by rw [HE.out]; exact HL12.out, by go_num, rfl, by rw [HE.out]; exact ho, below_up HB.out HG.out (Nat.le_refl _)⟩
                case measure => simp [intOf]; omega
        · obtain rfl : m = lh := by omega
          have hjj : j = rest.length := by have h1 := HRL.out; have h2 := HJM.out; omega
          have HE : Hid (outQ n ls hs (i + 1) = inQ n ls x (rest.take j) acc0) := Lib.hid (by rw [hjj, List.take_length, HX.out, HRest.out, HAcc.out]; rfl)
          clear hjj
          clear ho hb
          go_wp2_with fail
          go_roundw
          case rel => exact ⟨i + 1, _, _, _, by omega, by rw [HE.out]; exact HLN.out, by go_num, rfl, by rw [HE.out]; exact HO.out, HB.out⟩
          case measure => simp [intOf]; omega
    · obtain rfl : i = lh := by omega
      have HE : Hid (outQ n ls hs i = probesV n ls hs) := Lib.hid (by rw [← HL.out]; rfl)
      clear ho hb
      go_wp2
      go_ret
      have ho := HO.out
      rw [HE.out] at ho
      exact ⟨_, _, _, rfl, ho.wide HBV.out.size (Nat.le_refl _) (Nat.le_refl _), HBV.out.trans (HB.out.mono HBV.out.size)⟩
end Go.Proofs.Ytldeplmiggbonaa
