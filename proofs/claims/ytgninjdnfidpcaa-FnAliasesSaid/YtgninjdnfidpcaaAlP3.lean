/- Replies in the order of their times, the program's. -/
import Derived.Test.YtgninjdnfidpcaaAlQ
import Derived.Test.YtgninjdnfidpcaaAlP1
import Derived.Test.YtgninjdnfidpcaaCmpI
import Derived.Test.YtgninjdnfidpcaaShelfS
import Derived.Shelf.SlSortCmp.NoneTotal
import Derived.Lib.SliceRun
namespace Go.Proofs.Ytgninjdnfidpcaa
open Go.RowKit Go.Sort
def cmpT (p q : Int × Int × Int) : Int := if p.2.1 < q.2.1 then -1 else if q.2.1 < p.2.1 then 1 else 0
theorem ltT (p q : Int × Int × Int) : ltOf cmpT p q = decide (p.2.1 < q.2.1) := by
  unfold ltOf cmpT
  by_cases h1 : p.2.1 < q.2.1
  · simp [h1]
  · by_cases h2 : q.2.1 < p.2.1 <;> simp [h1, h2]
theorem swoT : SWO (ltOf cmpT) where
  irrefl x := by rw [ltT]; simp
  trans x y z h1 h2 := by rw [ltT] at *; simp at *; omega
  ntrans x y z h1 h2 := by rw [ltT] at *; simp at *; omega
set_option maxHeartbeats 1000000 in
theorem byTime1_any (p q : Int × Int × Int) (W : World) : Calls Try.prog 99 #[.agg #[.int .i64 p.1, .int .i64 p.2.1, .int .i64 p.2.2], .agg #[.int .i64 q.1, .int .i64 q.2.1, .int .i64 q.2.2]] W fun e w' => e = .returned (.int .i64 (cmpT p q)) ∧ ∃ n os', w' = grow (W.drewN n) os' := by
  have hcon := fun W' => cmpInt_any p.2.1 q.2.1 W'
  obtain ⟨r, hr⟩ : ∃ r, r = cmpT p q := ⟨_, rfl⟩
  rw [← hr]
  have hcon2 : ∀ W', Calls Try.prog 100 #[.int .i64 p.2.1, .int .i64 q.2.1] W' fun e w' => e = .returned (.int .i64 r) ∧ W' = w' := fun W' => by rw [hr]; exact hcon W'
  clear hr hcon
  go_enter Try.func99, Try.ntmps99
  go_wp2_with (go_at_call 100; refine (hcon2 _).mono ?_; rintro e w' ⟨rfl, rfl⟩)
  go_ret
  exact ⟨rfl, 0, _, by rw [alloc_eq_grow, alloc_eq_grow, grow_grow]; rfl⟩
theorem byTime1_lays (blk off size : Nat) (w : World) : CmpLays Try.prog 99 #[] encY 3 cmpT blk off size w :=
  fun _ _ _ _ x y => byTime1_any x y _
theorem sortY_any (W : World) (lo hi : Nat) (a : Option Addr) (len cap : Nat) (zs : List (Int × Int × Int)) (hl : len ≤ 1048576) (ho : OwnY W lo hi a len cap zs) :
    Calls Try.prog 98 #[.slice a len cap, .func (.func 99) #[] #[]] W fun e w' => e = .returned (.tuple #[]) ∧ ∃ ys, Sorted zs ys ∧ OwnY w' lo hi a len cap ys ∧ Moved lo hi W w' := by
  by_cases h0 : len = 0
  · subst h0
    have hn := AnyF.slices_SortFunc_none Try.sortY a cap (.func (.func 99) #[] #[]) W
    change Calls Try.prog 98 _ _ _ at hn
    refine hn.mono ?_
    rintro e w' ⟨rfl, rfl⟩
    have e0 : zs = [] := List.eq_nil_of_length_eq_zero ho.1
    exact ⟨rfl, zs, ⟨List.Perm.refl _, by rw [e0]; exact List.Pairwise.nil⟩, ho, Moved.refl _ _ _⟩
  · rcases ho.spot with ⟨_, h, _⟩ | ⟨g, rfl, hg0, hg1, _⟩
    · exact absurd h h0
    · have eg : ∀ args w, (callFunc 99 args).run Try.prog w = .ok (.enter 99 args) w := enters_of Try.func99 (by kernel_rfl) rfl
      have hz := ho.1
      subst hz
      have hcon := AnyQ.slices_SortFunc Try.sortY 3 Try.isAgg86 Try.sizeOf86 encY encY_len encY_one cmpT swoT 99 #[] g 0 cap zs.toArray W eg (byTime1_lays g 0 zs.toArray.size W) (holdsK_own ho) (Nat.lt_of_lt_of_le hg1 ho.2.2.1) (by rw [List.size_toArray]; omega)
      change Calls Try.prog 98 _ _ _ at hcon
      rw [List.size_toArray] at hcon
      refine hcon.mono ?_
      rintro e w' ⟨rfl, d', n, os, hp, hs, rfl⟩
      have hpl := perm_list hp
      have hr := ho.sorted (n := n) (os := os) hpl
      refine ⟨rfl, d'.toList, ⟨hpl, ?_⟩, hr.1, hr.2⟩
      refine List.pairwise_iff_getElem.2 fun i j hi hj hij => ?_
      have hsz : d'.toList.length = zs.length := hpl.length_eq.symm
      have := hs i j (Nat.zero_le _) hij (by omega)
      rw [ltT, decide_eq_false_iff_not] at this
      have hi2 : i < d'.size := by simpa using hi
      have hj2 : j < d'.size := by simpa using hj
      rw [getElem!_pos d' i hi2, getElem!_pos d' j hj2] at this
      simpa using this
theorem ownY_none (w : World) (lo hi : Nat) (h : hi ≤ w.heap.size) : OwnY w lo hi none 0 0 [] := ⟨rfl, (fun _ h => by cases h), h, ⟨rfl, .inl ⟨rfl, rfl⟩⟩, fun x hx => by cases hx⟩
set_option maxHeartbeats 1600000 in
theorem cloneY_any (W : World) (a : Option Addr) (len cap : Nat) (xs : List (Int × Int × Int)) (hl : len ≤ 1073741824) (hs : SeesY W a len xs) (hnn : a = none → len = 0) :
    Calls Try.prog 97 #[.slice a len cap] W (MadeY xs W) := by
  have HS := Lib.hid hs
  have hxl := hs.1
  clear hs
  obtain ⟨i0, hi, hz0, hz1, hz2⟩ := info_parts info_rep
  cases a with
  | none =>
    obtain rfl := hnn rfl
    obtain rfl : xs = [] := List.eq_nil_of_length_eq_zero hxl
    have hnil := Lib.run_eql_slice_nil (P := Try.prog) W 48 86 none 0 cap 0 0 Try.underlying48
    go_enter Try.func97, Try.ntmps97
    go_wp2
    go_ret
    exact ⟨_, _, _, rfl, ownY_none _ _ _ (Nat.le_refl _), Below.refl _ _⟩
  | some ad =>
    have hnil := Lib.run_eql_slice_nil (P := Try.prog) W 48 86 (some ad) len cap 0 0 Try.underlying48
    go_enter Try.func97, Try.ntmps97
    go_wp2_with (at_builtin; refine wp_append_seesY rfl _ _ 48 rfl i0 Try.underlying48 hi hz0 hz1 hz2 _ _ _ _ rfl W.heap.size _ (ownY_empty W _ (Nat.le_refl _)) _ _ _ xs rfl (HS.out.alloc _) (by unfold maxLen; omega) (by omega) (by simp) ?_; intro a3 len3 cap3 w3 hlen3 ho3 hm3; rw [List.nil_append] at ho3; have e3 : len3 = len := (by omega); clear hlen3; subst e3; have HO3 := Lib.hid ho3; have HM3 := Lib.hid (below_moved ((Below.refl W.heap.size W).alloc (Nat.le_refl _) _) hm3 (Nat.le_refl _) (Nat.le_refl _)); clear ho3 hm3)
    go_ret
    exact ⟨_, _, _, rfl, HO3.out, HM3.out⟩
/-- What leaves by a panic that a deferred call can recover from. -/
def Panics (W : World) (e : Ending) (w' : World) : Prop := ∃ pv, e = .panicked [{ v := .iface 9 pv, recovered := false }] ∧ Below W.heap.size W w'
def InOrder (xs : List (Int × Int × Int)) (W : World) (e : Ending) (w' : World) : Prop :=
  ∃ a len cap ys, e = .returned (.slice a len cap) ∧ Sorted xs ys ∧ OwnY w' W.heap.size w'.heap.size a len cap ys ∧ Below W.heap.size W w'
set_option maxHeartbeats 1600000 in
theorem byTime_bad (W : World) (a : Option Addr) (len cap : Nat) (xs : List (Int × Int × Int)) (hl : len ≤ 1073741824) (hs : SeesY W a len xs) (h : areR xs = false) :
    Calls Try.prog 72 #[.slice a len cap] W (Panics W) := by
  have HS := Lib.hid hs
  have H := Lib.hid h
  clear hs h
  go_enter Try.func72, Try.ntmps72
  go_wp2_with (first | (go_at_call 36; refine (areRP_any _ a len cap xs hl HS.out).mono ?_; rw [H.out]; rintro e w1 ⟨rfl, hb1⟩; have HB1 := Lib.hid hb1; clear hb1))
  exact ⟨rfl, _, rfl, HB1.out⟩
set_option maxHeartbeats 1600000 in
theorem byTime_good (W : World) (a : Option Addr) (len cap : Nat) (xs : List (Int × Int × Int)) (hl : len ≤ 1073741824) (hs : SeesY W a len xs) (hnn : a = none → len = 0) (h : areR xs = true) :
    Calls Try.prog 72 #[.slice a len cap] W (InOrder xs W) := by
  have HS := Lib.hid hs
  have H := Lib.hid h
  have HL := Lib.hid hs.1
  have HN := Lib.hid hnn
  have hx12 : xs.length ≤ 12 := (areR_true.1 h).2
  clear hs h hnn
  go_enter Try.func72, Try.ntmps72
  go_wp2_with (first
    | (go_at_call 36; refine (areRP_any _ a len cap xs hl HS.out).mono ?_; rw [H.out]; rintro e w1 ⟨rfl, hb1⟩; have HB1 := Lib.hid hb1; clear hb1)
    | (go_at_call 97; refine (cloneY_any _ a len cap xs hl (HS.out.below HB1.out) HN.out).mono ?_; rintro e w2 ⟨a2, l2, c2, rfl, ho2, hb2⟩; have HO2 := Lib.hid (ho2.wide HB1.out.size (Nat.le_refl _) (Nat.le_refl _)); have HB2 := Lib.hid (below_up HB1.out hb2 (Nat.le_refl _)); clear ho2 hb2)
    | (go_at_call 98; refine (sortY_any _ _ _ _ _ _ _ (by rw [← HO2.out.1]; omega) HO2.out).mono ?_; rintro e w3 ⟨rfl, ys, hys, ho3, hm3⟩; have HYS := Lib.hid hys; have HO3 := Lib.hid (ho3.wide (Nat.le_refl _) (Nat.le_trans ho3.2.2.1 (Nat.le_refl _)) (Nat.le_refl _)); have HB3 := Lib.hid (below_moved HB2.out hm3 (Nat.le_refl _) (Nat.le_refl _)); clear hys ho3 hm3))
  go_ret
  exact ⟨_, _, _, _, rfl, HYS.out, HO3.out, HB3.out⟩
end Go.Proofs.Ytgninjdnfidpcaa
