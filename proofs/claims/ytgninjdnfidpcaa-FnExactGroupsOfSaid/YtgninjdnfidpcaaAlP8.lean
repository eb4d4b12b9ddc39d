/- GroupsOf, the program's. -/
import Derived.Test.YtgninjdnfidpcaaAlP7
namespace Go.Proofs.Ytgninjdnfidpcaa
open Go.RowKit
theorem keep_skip {ad ps : List Int} {k : Nat} (h : (fromV ad ps ((k : Nat) : Int)).length = 0) : keepG (rootsK ad ps (k + 1)) = keepG (rootsK ad ps k) := by
  rw [rootsK_next]
  unfold keepG
  rw [List.filter_append, List.filter_cons_of_neg (by simp [h])]
  simp
theorem keep_more {ad ps : List Int} {k : Nat} (h : 0 < (fromV ad ps ((k : Nat) : Int)).length) : keepG (rootsK ad ps (k + 1)) = keepG (rootsK ad ps k) ++ [fromV ad ps ((k : Nat) : Int)] := by
  rw [rootsK_next]
  unfold keepG
  rw [List.filter_append, List.filter_cons_of_pos (by simpa using h)]
  simp
theorem keep_len (ad ps : List Int) (k : Nat) : (keepG (rootsK ad ps k)).length ≤ k := by
  have := List.length_filter_le (fun g : List Int => decide (0 < g.length)) (rootsK ad ps k)
  rw [rootsK_len] at this
  exact this
set_option maxRecDepth 20000 in
set_option maxHeartbeats 6400000 in
theorem groupsP_any (W : World) (aa : Option Addr) (n ca : Nat) (ad : List Int) (pa : Option Addr) (cp : Nat) (ps : List Int) (hn : n ≤ 12) (hsa : Sees .i64 W aa n ad) (hsp : Sees .i64 W pa n ps) :
    Calls Try.prog 73 #[.agg #[.slice aa n ca, .slice pa n cp]] W (MadeM (keepG (rootsK ad ps n)) W) := by
  obtain ⟨V, hV⟩ : ∃ V, V = W.alloc (.cells #[.slice aa n ca, .slice pa n cp] 80) := ⟨_, rfl⟩
  have hBV : Below W.heap.size W V := by rw [hV]; exact (Below.refl _ _).alloc (Nat.le_refl _) _
  have hsV : V.heap.size = W.heap.size + 1 := by rw [hV]; simp
  have c0 : V.cell? ⟨W.heap.size, 0, none⟩ = some (.slice aa n ca) := by rw [hV]; simp
  have c1 : V.cell? ⟨W.heap.size, 1, none⟩ = some (.slice pa n cp) := by rw [hV]; simp
  have HSA := Lib.hid (hsa.below hBV)
  have HSP := Lib.hid (hsp.below hBV)
  have HLP := Lib.hid hsp.1
  have HC := Lib.hid (And.intro c0 c1)
  have HBV := Lib.hid hBV
  have HSV := Lib.hid hsV
  have HV := Lib.hid hV
  obtain ⟨i0, hi, hz0, hz1, hz2⟩ := info_parts info_i64
  obtain ⟨i1, hi1, hz10, hz11, hz12⟩ := info_parts info_row
  clear hsa hsp c0 c1 hBV hsV hV
  go_enter Try.func73, Try.ntmps73
  go_wp2_with fail
  go_loopw [3, 4, 5, 10] (fun v _ _ s wr => ∃ (k g l' c' : Nat), k ≤ n ∧ l' ≤ k ∧ s = .int .i64 k ∧ v = .slice (some ⟨g, 0, none⟩) l' c' ∧ OwnM wr V.heap.size wr.heap.size (some ⟨g, 0, none⟩) l' c' (keepG (rootsK ad ps k)) ∧ Below V.heap.size V wr) (fun _ _ _ s _ => n - (intOf s).toNat)
  case atStart =>
    have e := HV.out
    subst e
    have h := ownM_nil0 (W.alloc (.cells #[.slice aa n ca, .slice pa n cp] 80))
    have h2 := h.wide (lo2 := (W.alloc (.cells #[.slice aa n ca, .slice pa n cp] 80)).heap.size) (Nat.le_refl _) h.2.1 (Nat.le_refl _)
    rw [World.size_alloc] at h2
    exact ⟨0, _, _, _, Nat.zero_le _, Nat.zero_le _, rfl, rfl, by rw [World.size_alloc]; exact h2, (Below.refl _ _).alloc (Nat.le_refl _) _⟩
  case round =>
    obtain ⟨k, g, l', c', hk, hl', rfl, rfl, ho, hb⟩ := hrel
    have HO := Lib.hid ho
    have HB := Lib.hid hb
    have hszw := hb.size
    have hb0 : W.heap.size < V.heap.size := by rw [HSV.out]; exact Nat.lt_succ_self _
    have d0 := (hb.cell (p := ⟨W.heap.size, 0, none⟩) hb0).trans HC.out.1
    have d1 := (hb.cell (p := ⟨W.heap.size, 1, none⟩) hb0).trans HC.out.2
    by_cases hlt : k < n
    · obtain ⟨gs, hgs⟩ : ∃ gs, gs = fromV ad ps ((k : Nat) : Int) := ⟨_, rfl⟩
      have HFR : Hid (Calls Try.prog 101 #[.agg #[.slice aa n ca, .slice pa n cp], .int .i64 (k : Int)] wr (Made .i64 3 gs wr)) := Lib.hid (by rw [hgs]; exact fromP_any wr aa n ca ad pa n cp ps _ hn (Nat.le_refl _) (HSA.out.below hb) (HSP.out.below hb))
      by_cases h0 : gs.length = 0
      · have HN : Hid (keepG (rootsK ad ps (k + 1)) = keepG (rootsK ad ps k)) := Lib.hid (keep_skip (by rw [← hgs]; exact h0))
        have H0 := Lib.hid h0
        clear h0 hgs ho hb
        go_wp2_with (go_at_call 101; refine HFR.out.mono ?_; rintro e w2 ⟨a2, l2, c2, rfl, ho2, hb2⟩; have hl2 : l2 = 0 := (by rw [← ho2.1]; exact H0.out); subst hl2; have HB2 := Lib.hid (hb2.mono hszw); have HO2 := Lib.hid (HO.out.below hb2); have hsz2 := hb2.size; clear ho2 hb2)
        go_roundw
        case rel => exact ⟨k + 1, _, _, _, by omega, by omega, by go_num, rfl, by rw [HN.out]; exact HO2.out.wide (Nat.le_refl _) hsz2 (Nat.le_refl _), HB.out.trans HB2.out⟩
        case measure => simp [intOf]; omega
      · have HN : Hid (keepG (rootsK ad ps (k + 1)) = keepG (rootsK ad ps k) ++ [gs]) := Lib.hid (by rw [hgs]; exact keep_more (by rw [← hgs]; omega))
        have hgl : 0 < gs.length := by omega
        clear h0 hgs ho hb
        go_wp2_with (first
          | (go_at_call 101; refine HFR.out.mono ?_; rintro e w2 ⟨a2, l2, c2, rfl, ho2, hb2⟩; have hl2 : gs.length = l2 := ho2.1; have hl3 : (0 : Int) < (l2 : Int) := (by omega); have hsz2 := hb2.size; have HO2 := Lib.hid ho2; have HM2 := Lib.hid (HO.out.below hb2); have HB2 := Lib.hid (hb2.mono hszw); subst hl2; clear ho2 hb2)
          | (at_builtin; refine wp_append_ownG rfl _ _ 50 rfl i1 Try.underlying50 hi1 hz10 hz11 hz12 g _ _ rfl w2.heap.size rfl _ V.heap.size wr.heap.size (HM2.out.alloc _) a2 c2 gs (by simp) wr.heap.size _ (HO2.out.alloc _) (Nat.le_refl _) hszw (by omega) (by simp; omega) ?_; intro g4 c4 w4 ho4 hm4 hn4 hg4; have HO4 := Lib.hid ho4; have HM4 := Lib.hid hm4; clear ho4 hm4 hn4 hg4))
        go_roundw
        case rel => exact ⟨k + 1, _, _, _, by omega, by omega, by go_num, rfl, by rw [HN.out]; exact HO4.out, HB.out.trans (below_moved (HB2.out.alloc (Nat.le_trans hszw hsz2) _) HM4.out hszw (Nat.le_refl _))⟩
        case measure => simp [intOf]; omega
    · obtain rfl : k = n := by omega
      clear ho hb
      go_wp2
      go_ret
      exact ⟨_, _, _, rfl, HO.out.wide HBV.out.size (Nat.le_refl _) (Nat.le_refl _), HBV.out.trans (HB.out.mono HBV.out.size)⟩
theorem grp_keep {xs : List (Int × Int × Int)} (h : areR xs = true) : keepG (rootsK (addrV xs) (parsK xs (addrV xs) (addrV xs).length) (addrV xs).length) = grpV xs := by
  rw [keep_grp xs (addrV xs) _ (Nat.le_refl _), List.take_length]
  unfold grpV
  rw [if_pos h]
set_option maxHeartbeats 3200000 in
theorem grp1_good (W : World) (p : Nat) (a : Option Addr) (len cap : Nat) (xs : List (Int × Int × Int)) (hl : len ≤ 1073741824) (hs : SeesY W a len xs) (cp : W.cell? ⟨p, 0, none⟩ = some (.slice a len cap)) (h : areR xs = true) :
    Calls Try.prog 70 #[.pointer (some ⟨p, 0, none⟩)] W (MadeM (grpV xs) W) := by
  have HBT := Lib.hid (byTime_good W a len cap xs hl hs hs.addr h)
  have HR := Lib.hid h
  have HK := Lib.hid (grp_keep h)
  have hal : (addrV xs).length ≤ 12 := Nat.le_trans (addr_len xs) (areR_true.1 h).2
  have hx12 : xs.length ≤ 12 := (areR_true.1 h).2
  clear hs h
  go_enter Try.func70, Try.ntmps70
  go_wp2_with (first
    | (go_at_call 72; refine HBT.out.mono ?_; rintro e w1 ⟨a1, l1, c1, ys, rfl, hys, ho1, hb1⟩; have HYS := Lib.hid hys; have hl1 : l1 ≤ 1048576 := (by rw [← ho1.1, ← hys.1.length_eq]; omega); have HO1 := Lib.hid ho1.sees; have HB1 := Lib.hid hb1; clear hys ho1 hb1)
    | (go_at_call 71; refine (unionP_any _ _ _ _ xs ys hl1 HO1.out HYS.out HR.out).mono ?_; rintro e w2 ⟨aa, ca, pa, cp2, rfl, hsa, hsp, hb2⟩; have HSA := Lib.hid hsa; have HSP := Lib.hid hsp; have HB2 := Lib.hid (below_up HB1.out hb2 (Nat.le_refl _)); clear hsa hsp hb2)
    | (go_at_call 73; refine (groupsP_any _ _ _ _ _ _ _ _ hal HSA.out HSP.out).mono ?_; rw [HK.out]; rintro e w3 ⟨a3, l3, c3, rfl, ho3, hb3⟩; have HO3 := Lib.hid (ho3.wide HB2.out.size (Nat.le_refl _) (Nat.le_refl _)); have HB3 := Lib.hid (below_up HB2.out hb3 (Nat.le_refl _)); clear ho3 hb3))
  go_ret
  exact ⟨_, _, _, rfl, HO3.out, HB3.out⟩
set_option maxHeartbeats 3200000 in
theorem grp1_bad (W : World) (p : Nat) (a : Option Addr) (len cap : Nat) (xs : List (Int × Int × Int)) (hl : len ≤ 1073741824) (hs : SeesY W a len xs) (cp : W.cell? ⟨p, 0, none⟩ = some (.slice a len cap)) (h : areR xs = false) :
    Calls Try.prog 70 #[.pointer (some ⟨p, 0, none⟩)] W (Panics W) := by
  have HBT := Lib.hid (byTime_bad W a len cap xs hl hs h)
  clear hs h
  go_enter Try.func70, Try.ntmps70
  go_wp2_with (first
    | (go_at_call 72; refine HBT.out.mono ?_; rintro e w1 ⟨pv, rfl, hb1⟩; have HB1 := Lib.hid hb1; clear hb1))
  exact ⟨rfl, pv, rfl, HB1.out⟩
set_option maxHeartbeats 1600000 in
theorem grpP_any (W : World) (a : Option Addr) (len cap : Nat) (xs : List (Int × Int × Int)) (hl0 : len ≤ 1048576) (hs : SeesY W a len xs) :
    Calls Try.prog 35 #[.slice a len cap] W (MadeM (grpV xs) W) := by
  have hl : len ≤ 1073741824 := by omega
  obtain ⟨U, hU⟩ : ∃ U, U = W.alloc (.cells #[.slice a len cap] 48) := ⟨_, rfl⟩
  obtain ⟨V, hV⟩ : ∃ V, V = U.alloc (.cells #[] 24) := ⟨_, rfl⟩
  have hBU : Below W.heap.size W U := by rw [hU]; exact (Below.refl _ _).alloc (Nat.le_refl _) _
  have hsU : U.heap.size = W.heap.size + 1 := by rw [hU]; simp
  have hBV : Below U.heap.size U V := by rw [hV]; exact (Below.refl _ _).alloc (Nat.le_refl _) _
  have c0 : U.cell? ⟨W.heap.size, 0, none⟩ = some (.slice a len cap) := by rw [hU]; simp
  have h0 : W.heap.size < U.heap.size := by rw [hsU]; exact Nat.lt_succ_self _
  have d0 : V.cell? ⟨W.heap.size, 0, none⟩ = some (.slice a len cap) := (hBV.cell (p := ⟨W.heap.size, 0, none⟩) h0).trans c0
  have hW : Below W.heap.size W V := hBU.trans (hBV.mono hBU.size)
  have hn := (ownM_nil0 U).wide (lo2 := U.heap.size) (Nat.le_refl _) (by simp) (Nat.le_refl _)
  rw [← hV] at hn
  have HX : Hid (Calls Try.prog 69 #[.slice (some ⟨U.heap.size, 0, none⟩) 0 0, .func (.func 70) #[] #[.pointer (some ⟨W.heap.size, 0, none⟩)]] V fun e w' => ∃ a3 l3 c3, e = .returned (.slice a3 l3 c3) ∧ OwnM w' W.heap.size w'.heap.size a3 l3 c3 (grpV xs) ∧ Below W.heap.size W w') := Lib.hid (by
    cases hA : areR xs
    · rw [grp_none hA]
      refine (orR_no V (.slice (some ⟨U.heap.size, 0, none⟩) 0 0) (fun _ _ => by kernel_rfl) ⟨_, _, _, rfl⟩ (fun X hX _ => grp1_bad X _ a len cap xs hl (hs.below (below_up hW hX (Nat.le_refl _))) ((cell_at hX _ 0 (Nat.lt_of_lt_of_le h0 hBV.size)).trans d0) hA)).mono ?_
      rintro e w ⟨rfl, hb⟩
      exact ⟨_, _, _, rfl, (hn.below hb).wide hBU.size hb.size (Nat.le_refl _), below_up hW hb (Nat.le_refl _)⟩
    · refine (orM_any V _ _ _ (grpV xs) (fun _ _ => by kernel_rfl) (fun X hX => grp1_good X _ a len cap xs hl (hs.below (below_up hW hX (Nat.le_refl _))) ((cell_at hX _ 0 (Nat.lt_of_lt_of_le h0 hBV.size)).trans d0) hA)).mono ?_
      rintro e w ⟨a3, l3, c3, rfl, ho, hb⟩
      exact ⟨_, _, _, rfl, ho.wide (Nat.le_trans hBU.size hBV.size) (Nat.le_refl _) (Nat.le_refl _), below_up hW hb (Nat.le_refl _)⟩)
  have HU := Lib.hid hU
  have HV := Lib.hid hV
  rw [hsU] at HX
  clear hs c0 d0 h0 hW hn hBV hBU hsU hU hV
  have hmf : ∀ (fn : Fn) (first cap : Array Value) (w : World), (Instr.makeFunc fn first cap).run Try.prog w = .ok (.func fn first cap) w := fun _ _ _ _ => rfl
  go_enter Try.func35, Try.ntmps35
  go_wp2_with fail
  rw [← HU.out, ← HV.out]
  go_wp2_with (go_at_call 69; refine HX.out.mono ?_; rintro e w2 ⟨a3, l3, c3, rfl, ho3, hb3⟩; have HO3 := Lib.hid ho3; have HB3 := Lib.hid hb3; clear ho3 hb3)
  go_ret
  exact ⟨_, _, _, rfl, HO3.out, HB3.out⟩
end Go.Proofs.Ytgninjdnfidpcaa
