/- Byte strings read: the model's ReadBytes and the program's. -/
import Derived.Test.YtnhpkiddepfjoaaLawR
import Derived.Test.YtnhpkiddepfjoaaEncI
namespace Go.Proofs.Ytnhpkiddepfjoaa
open Go.RowKit
/-- What ReadBytes finds. -/
def rdB (zs : List Int) (o most : Int) : Option (List Int × Int) :=
  match rd zs o with
  | none => none
  | some (n, q) => if most < n ∨ (zs.length : Int) - q < n then none else some ((zs.drop q.toNat).take n.toNat, q + n)
theorem rdB_none {zs : List Int} {o most : Int} (h : rd zs o = none) : rdB zs o most = none := by unfold rdB; rw [h]
theorem rdB_far {zs : List Int} {o most n q : Int} (h : rd zs o = some (n, q)) (hc : most < n ∨ (zs.length : Int) - q < n) : rdB zs o most = none := by unfold rdB; rw [h]; exact if_pos hc
theorem rdB_some {zs : List Int} {o most n q : Int} (h : rd zs o = some (n, q)) (hc : ¬ (most < n ∨ (zs.length : Int) - q < n)) : rdB zs o most = some ((zs.drop q.toNat).take n.toNat, q + n) := by unfold rdB; rw [h]; exact if_neg hc
/-- What a call leaves that makes a slice of numbers, and returns a number and a yes or no with it. -/
def MadeT (k : IntKind) (e : TypeId) (zs : List Int) (q : Int) (ok : Bool) (w : World) (E : Ending) (w' : World) : Prop :=
  ∃ a len cap, E = .returned (.tuple #[.slice a len cap, .int .i64 q, .bool ok]) ∧ Own k e w' w.heap.size w'.heap.size a len cap zs ∧ Below w.heap.size w w'
/-- The three results. -/
def MadeR (k : IntKind) (e : TypeId) (r : Option (List Int × Int)) (w : World) (E : Ending) (w' : World) : Prop :=
  match r with
  | none => MadeT k e [] 0 false w E w'
  | some (l, q) => MadeT k e l q true w E w'
theorem madeR_none {k : IntKind} {e : TypeId} {r : Option (List Int × Int)} {w w' : World} {E : Ending} (h : r = none) (g : MadeT k e [] 0 false w E w') : MadeR k e r w E w' := by rw [h]; exact g
theorem madeR_some {k : IntKind} {e : TypeId} {r : Option (List Int × Int)} {l : List Int} {q : Int} {w w' : World} {E : Ending} (h : r = some (l, q)) (g : MadeT k e l q true w E w') : MadeR k e r w E w' := by rw [h]; exact g
/-- The empty slice that is returned with a no. -/
theorem madeT_nil (k : IntKind) (e : TypeId) (q : Int) (ok : Bool) {w w1 : World} (hb : Below w.heap.size w w1) : MadeT k e [] q ok w (.returned (.tuple #[.slice (some ⟨w1.heap.size, 0, none⟩) 0 0, .int .i64 q, .bool ok])) (w1.alloc (.cells #[] e)) :=
  ⟨_, _, _, rfl, (own_nil k e w1).wide hb.size (by simp) (Nat.le_refl _), hb.alloc hb.size _⟩
theorem sees_nil (k : IntKind) (w : World) (a : Option Addr) : Sees k w a 0 [] := ⟨rfl, (fun _ h => by cases h), .inl rfl⟩
theorem sees_cut {k : IntKind} {w : World} {b off len : Nat} {zs : List Int} (h : Sees k w (some ⟨b, off, none⟩) len zs) (q n : Nat) (hq : q + n ≤ len) : Sees k w (some ⟨b, off + q, none⟩) n ((zs.drop q).take n) := by
  obtain ⟨h1, h2, h3⟩ := h
  refine ⟨by simp; omega, fun x hx => h2 x (List.mem_of_mem_drop (List.mem_of_mem_take hx)), ?_⟩
  rcases h3 with h3 | ⟨b', off', ha, hb, hc⟩
  · exact .inl (by omega)
  · simp only [Option.some.injEq, Addr.mk.injEq, and_true] at ha
    obtain ⟨rfl, rfl⟩ := ha
    refine .inr ⟨b, off + q, rfl, hb, fun j hj => ?_⟩
    rw [Nat.add_assoc, hc (q + j) (by omega)]
    congr 2
    simp [List.getD, hj]
theorem sees_cut' {k : IntKind} {w : World} {b off len m : Nat} {zs : List Int} (h : Sees k w (some ⟨b, off, none⟩) len zs) (q n : Nat) (hq : q + n ≤ len) (hm : m = n) : Sees k w (some ⟨b, off + q, none⟩) m ((zs.drop q).take n) := by
  subst hm
  exact sees_cut h q m hq
theorem sees_nil' (k : IntKind) (w : World) (a : Option Addr) {m : Nat} (hm : m = 0) : Sees k w a m [] := by
  subst hm
  exact sees_nil k w a
set_option maxHeartbeats 1600000 in
theorem specReadB_any (W : World) (a : Option Addr) (len cap : Nat) (zs : List Int) (o most : Int) (hl : len ≤ 1073741824) (hlc : len ≤ cap) (ho0 : -9223372036854775808 ≤ o) (ho1 : o ≤ 9223372036854775807) (hs : Sees .u8 W a len zs) :
    Calls Try.prog 32 #[.slice a len cap, .int .i64 o, .int .i64 most] W (MadeR .u8 5 (rdB zs o most) W) := by
  have HS := Lib.hid hs
  have HL := Lib.hid hs.1
  clear hs
  obtain ⟨i0, hi, hz0, hz1, hz2⟩ := info_parts info_u8
  rcases hr : rd zs o with _ | ⟨n, q⟩
  · have HR := Lib.hid hr
    clear hr
    go_enter Try.func32, Try.ntmps32
    go_wp2_with fail
    go_at_call 18
    refine (specRead_no _ _ _ _ zs o hl ho0 ho1 HR.out HS.out).mono ?_
    rintro e w1 ⟨rfl, hb⟩
    have HB := Lib.hid hb
    clear hb
    go_wp2
    go_ret3
    exact madeR_none (rdB_none HR.out) (madeT_nil _ _ _ _ HB.out)
  · have HR := Lib.hid hr
    obtain ⟨g0, g1, g2, g4, g3, g5⟩ := rd_some (fun x hx => bounds_u8 (HS.out.2.1 x hx)) hr
    rw [HL.out] at g2
    obtain ⟨q, rfl⟩ : ∃ p : Nat, q = p := ⟨q.toNat, by omega⟩
    obtain ⟨n, rfl, hn⟩ := inU_nat g3
    have hq : q ≤ len := by omega
    have hq0 : 0 < q := by omega
    clear hr g0 g1 g2 g3 g4 g5
    by_cases hbad : most < n ∨ (len : Int) - q < n
    · have HN := Lib.hid (rdB_far (most := most) HR.out (by rw [HL.out]; exact hbad))
      go_enter Try.func32, Try.ntmps32
      go_wp2_with fail
      go_at_call 18
      refine (specRead_yes _ _ _ _ zs o _ _ hl ho0 ho1 HR.out HS.out).mono ?_
      rintro e w1 ⟨rfl, hb⟩
      have HB := Lib.hid hb
      clear hb
      by_cases hm : most < n
      · clear hbad
        go_wp2
        go_ret3
        exact madeR_none HN.out (madeT_nil _ _ _ _ HB.out)
      · have hm2 : (len : Int) - q < n := by omega
        clear hbad
        go_wp2
        go_ret3
        exact madeR_none HN.out (madeT_nil _ _ _ _ HB.out)
    · have HN := Lib.hid (rdB_some (most := most) HR.out (by rw [HL.out]; exact hbad))
      have hm1 : (n : Int) ≤ most := by omega
      have hm2 : q + n ≤ len := by omega
      clear hbad
      rcases HS.out.2.2 with hx | ⟨b, off, rfl, hbB, hcell⟩
      · omega
      · clear hcell
        have eq1 : ((q : Int)).toNat = q := by omega
        have eq2 : ((n : Int)).toNat = n := by omega
        rw [eq1, eq2] at HN
        clear eq1 eq2
        by_cases hn0 : 0 < n
        · go_enter Try.func32, Try.ntmps32
          go_wp2_with fail
          go_at_call 18
          refine (specRead_yes _ _ _ _ zs o _ _ hl ho0 ho1 HR.out HS.out).mono ?_
          rintro e w1 ⟨rfl, hb⟩
          have HB := Lib.hid hb
          have hsz := hb.size
          clear hb
          go_wp2_with (at_builtin; refine wp_append_sees rfl _ _ 22 rfl 5 i0 .u8 1 Try.underlying22 hi hz0 hz1 hz2 _ _ _ _ rfl _ _ (own_nil _ _ _) _ _ _ _ rfl (sees_cut' ((HS.out.below HB.out).alloc _) q n hm2 (by omega)) (by unfold maxLen; omega) (by omega) (by simp) ?_; intro b2 l2 c2 w2 hlen2 ho2 hm2; clear hlen2; have HO2 := Lib.hid ho2; have HM2 := Lib.hid hm2; clear ho2 hm2)
          go_ret3
          exact madeR_some HN.out ⟨_, _, _, rfl, HO2.out.wide hsz (Nat.le_refl _) (Nat.le_refl _), below_moved (HB.out.alloc hsz _) HM2.out (Nat.le_refl _) hsz⟩
        · obtain rfl : n = 0 := by omega
          go_enter Try.func32, Try.ntmps32
          go_wp2_with fail
          go_at_call 18
          refine (specRead_yes _ _ _ _ zs o _ _ hl ho0 ho1 HR.out HS.out).mono ?_
          rintro e w1 ⟨rfl, hb⟩
          have HB := Lib.hid hb
          have hsz := hb.size
          clear hb
          go_wp2_with (at_builtin; refine wp_append_sees rfl _ _ 22 rfl 5 i0 .u8 1 Try.underlying22 hi hz0 hz1 hz2 _ _ _ _ rfl _ _ (own_nil _ _ _) _ _ _ _ rfl (sees_nil' _ _ _ (by omega)) (by unfold maxLen; omega) (by omega) (by simp) ?_; intro b2 l2 c2 w2 hlen2 ho2 hm2; clear hlen2; have HO2 := Lib.hid ho2; have HM2 := Lib.hid hm2; clear ho2 hm2)
          all_goals go_ret3
          all_goals exact madeR_some HN.out ⟨_, _, _, rfl, HO2.out.wide hsz (Nat.le_refl _) (Nat.le_refl _), below_moved (HB.out.alloc hsz _) HM2.out (Nat.le_refl _) hsz⟩
set_option maxHeartbeats 1600000 in
theorem readB_any (W : World) (a : Option Addr) (len cap : Nat) (zs : List Int) (o most : Int) (hl : len ≤ 1073741824) (hlc : len ≤ cap) (ho0 : -9223372036854775808 ≤ o) (ho1 : o ≤ 9223372036854775807) (hs : Sees .u8 W a len zs) :
    Calls Try.prog 21 #[.slice a len cap, .int .i64 o, .int .i64 most] W (MadeR .u8 5 (rdB zs o most) W) := by
  have HS := Lib.hid hs
  have HL := Lib.hid hs.1
  clear hs
  rcases hr : rd zs o with _ | ⟨n, q⟩
  · have HR := Lib.hid hr
    clear hr
    go_enter Try.func21, Try.ntmps21
    go_wp2_with fail
    go_at_call 15
    refine (read_no _ _ _ _ zs o hl hlc ho0 ho1 HR.out HS.out).mono ?_
    rintro e w1 ⟨rfl, hb⟩
    have HB := Lib.hid hb
    clear hb
    go_wp2
    go_ret3
    exact madeR_none (rdB_none HR.out) (madeT_nil _ _ _ _ HB.out)
  · have HR := Lib.hid hr
    obtain ⟨g0, g1, g2, g4, g3, g5⟩ := rd_some (fun x hx => bounds_u8 (HS.out.2.1 x hx)) hr
    rw [HL.out] at g2
    obtain ⟨q, rfl⟩ : ∃ p : Nat, q = p := ⟨q.toNat, by omega⟩
    obtain ⟨n, rfl, hn⟩ := inU_nat g3
    have hq : q ≤ len := by omega
    have hq0 : 0 < q := by omega
    clear hr g0 g1 g2 g3 g4 g5
    by_cases hbad : most < n ∨ (len : Int) - q < n
    · have HN := Lib.hid (rdB_far (most := most) HR.out (by rw [HL.out]; exact hbad))
      go_enter Try.func21, Try.ntmps21
      go_wp2_with fail
      go_at_call 15
      refine (read_yes _ _ _ _ zs o _ _ hl hlc ho0 ho1 HR.out HS.out).mono ?_
      rintro e w1 ⟨rfl, hb⟩
      have HB := Lib.hid hb
      clear hb
      by_cases hm : most < n
      · clear hbad
        go_wp2
        go_ret3
        exact madeR_none HN.out (madeT_nil _ _ _ _ HB.out)
      · have hm2 : (len : Int) - q < n := by omega
        clear hbad
        go_wp2
        go_ret3
        exact madeR_none HN.out (madeT_nil _ _ _ _ HB.out)
    · have HN := Lib.hid (rdB_some (most := most) HR.out (by rw [HL.out]; exact hbad))
      have hm1 : (n : Int) ≤ most := by omega
      have hm2 : q + n ≤ len := by omega
      clear hbad
      rcases HS.out.2.2 with hx | ⟨b, off, rfl, hbB, hcell⟩
      · omega
      · clear hcell
        have eq1 : ((q : Int)).toNat = q := by omega
        have eq2 : ((n : Int)).toNat = n := by omega
        rw [eq1, eq2] at HN
        clear eq1 eq2
        by_cases hn0 : 0 < n
        · go_enter Try.func21, Try.ntmps21
          go_wp2_with fail
          go_at_call 15
          refine (read_yes _ _ _ _ zs o _ _ hl hlc ho0 ho1 HR.out HS.out).mono ?_
          rintro e w1 ⟨rfl, hb⟩
          have HB := Lib.hid hb
          have hsz := hb.size
          clear hb
          go_wp2_with fail
          go_at_call 46
          refine (copyBytes_any _ _ _ _ _ _ (by omega) (by omega) (by omega) (sees_cut' (HS.out.below HB.out) q n hm2 (by omega))).mono ?_
          rintro e w2 ⟨b2, l2, c2, rfl, ho2, hb2⟩
          have HO2 := Lib.hid ho2
          have HB2 := Lib.hid hb2
          clear ho2 hb2
          go_wp2
          go_ret3
          exact madeR_some HN.out ⟨_, _, _, rfl, HO2.out.wide hsz (Nat.le_refl _) (Nat.le_refl _), below_up HB.out HB2.out (Nat.le_refl _)⟩
        · obtain rfl : n = 0 := by omega
          go_enter Try.func21, Try.ntmps21
          go_wp2_with fail
          go_at_call 15
          refine (read_yes _ _ _ _ zs o _ _ hl hlc ho0 ho1 HR.out HS.out).mono ?_
          rintro e w1 ⟨rfl, hb⟩
          have HB := Lib.hid hb
          have hsz := hb.size
          clear hb
          go_wp2_with fail
          all_goals
            go_at_call 46
            refine (copyBytes_any _ _ _ _ _ _ (by omega) (by omega) (by omega) (sees_nil' _ _ _ (by omega))).mono ?_
            rintro e w2 ⟨b2, l2, c2, rfl, ho2, hb2⟩
            have HO2 := Lib.hid ho2
            have HB2 := Lib.hid hb2
            clear ho2 hb2
            go_wp2
            go_ret3
            exact madeR_some HN.out ⟨_, _, _, rfl, HO2.out.wide hsz (Nat.le_refl _) (Nat.le_refl _), below_up HB.out HB2.out (Nat.le_refl _)⟩
end Go.Proofs.Ytnhpkiddepfjoaa
