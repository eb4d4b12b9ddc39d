/- Slices of integers joined: the library's Grow and Concat. -/
import Derived.Test.YtedkeobhcpbigaaSlA
import Derived.Lib.AppendZerosOnto
namespace Go.Proofs.Ytedkeobhcpbigaa
open Go.RowKit
theorem own_none (k : IntKind) (e : TypeId) (w : World) (lo hi : Nat) (h : hi ≤ w.heap.size) : Own k e w lo hi none 0 0 [] :=
  ⟨rfl, (fun _ h => by cases h), h, ⟨rfl, .inl ⟨rfl, rfl⟩⟩, fun x hx => by cases hx⟩
/-- A literal of one element. -/
theorem own_one {k : IntKind} {x : Int} (h : (Lit.int k x).wf = true) (e : TypeId) (w : World) : Own k e (w.alloc (.cells #[.int k x] e)) w.heap.size (w.heap.size + 1) (some ⟨w.heap.size, 0, none⟩) 1 1 [x] := by
  refine ⟨rfl, by simpa using h, by simp, ⟨rfl, .inr ⟨w.heap.size, 1, #[.int k x], rfl, Nat.le_refl _, heap_alloc_new w _, Nat.le_refl _, by unfold maxLen; omega, rfl, rfl⟩⟩, fun x hx => ?_⟩
  obtain rfl := Option.some.inj hx
  exact ⟨Nat.le_refl _, Nat.lt_succ_self _⟩
theorem own_room (e : TypeId) (w : World) (C : Array Value) (G : Nat) (hG : G ≤ maxLen) (hC : C.size = G) :
    Own .i64 e (w.alloc (.cells C e)) w.heap.size (w.heap.size + 1) (some ⟨w.heap.size, 0, none⟩) 0 G [] := by
  refine ⟨rfl, (fun _ h => by cases h), by simp, ⟨rfl, .inr ⟨w.heap.size, G, C, rfl, Nat.le_refl _, heap_alloc_new w _, Nat.zero_le _, hG, by rw [hC, Nat.mul_one], by simp⟩⟩, fun x hx => ?_⟩
  obtain rfl := Option.some.inj hx
  exact ⟨Nat.le_refl _, Nat.lt_succ_self _⟩
theorem zeroCells_size (n : Nat) : (Builtin.zeroCells (Value.int .i64 0).cells n).size = n := by
  have : (Value.int .i64 0).cells = #[Value.int .i64 0] := rfl
  simp [this, Builtin.zeroCells]
set_option maxRecDepth 20000 in
set_option maxHeartbeats 1600000 in
theorem grow_any (W : World) (n : Nat) (hn : n ≤ 1073741840) : Calls Try.prog 88 #[.slice none 0 0, .int .i64 n] W (Made .i64 3 [] W) := by
  by_cases h0 : n = 0
  · subst h0
    go_enter Try.func88, Try.ntmps88
    go_wp2
    go_ret
    exact ⟨_, _, _, rfl, own_none _ _ _ _ _ (Nat.le_refl _), Below.refl _ _⟩
  · obtain ⟨i0, hi, hz0, hz1, hz2⟩ := info_parts info_i64
    have hrz : ∀ ty, (Builtin.append_ #[25, 3] ty #[.slice none 0 0, .int .i64 (n : Int)]).run Try.prog W =
        .ok (.slice (some ⟨W.heap.size, 0, none⟩) n (grownCap W n 0 3)) (W.drew.alloc (.cells ((#[] : Array Value) ++ Builtin.zeroCells (Value.int .i64 0).cells n ++ Builtin.zeroCells (Value.int .i64 0).cells (grownCap W n 0 3 - n)) 3)) := fun ty => by
      have hold : (Builtin.firstCells i0.size 0 (.slice none 0 0)).run Try.prog W.drew = .ok ([] : List Value).toArray W.drew := run_firstCells_none _ _ _ _ _
      have h := Lib.run_append_grow_zeros W 25 3 ty 3 i0 (.int .i64 0) .i64 .i64 Try.underlying25 Try.underlying3 hi hz0 none 0 0 [] hold n (by omega) (by rw [hz1]; decide) (by omega) (by omega) (by rw [hz2]; omega)
        (by rw [Nat.zero_add]; exact growslice_fits (by omega) (by rw [hz2]; omega))
      rw [Nat.zero_add] at h
      exact h
    obtain ⟨Z, hZ⟩ : ∃ Z, Z = ((#[] : Array Value) ++ Builtin.zeroCells (Value.int .i64 0).cells n ++ Builtin.zeroCells (Value.int .i64 0).cells (grownCap W n 0 3 - n)) := ⟨_, rfl⟩
    rw [← hZ] at hrz
    have HRZ := Lib.hid hrz
    have hG1 : n ≤ grownCap W n 0 3 := grownCap_ge W _ _ _
    have hG2 := grownCap_le_maxLen W n 0 3 (by unfold maxLen; omega)
    obtain ⟨G, hG⟩ : ∃ G, G = grownCap W n 0 3 := ⟨_, rfl⟩
    rw [← hG] at HRZ hG1 hG2 hZ
    have hZs : Hid (Z.size = G) := Lib.hid (by rw [hZ]; simp only [Array.size_append, zeroCells_size]; simp; omega)
    have hG3 := hG2
    unfold maxLen at hG3
    clear hG hrz hZ
    go_enter Try.func88, Try.ntmps88
    go_wp2_with (at_builtin; refine Lib.wpList_append_run _ rfl _ _ _ _ rfl _ _ rfl rfl _ _ (HRZ.out _) ?_)
    go_ret
    have ho := (own_room 3 W Z G hG2 hZs.out).below (Below.refl _ _).drew
    exact ⟨_, _, _, rfl, ho.wide (Nat.le_refl _) (by simp) (Nat.le_refl _), ((Below.refl _ _).alloc (Nat.le_refl _) _).drew⟩
/-- The lengths of the first parts together. -/
def totC (f : Nat → Nat) : Nat → Nat
  | 0 => 0
  | k + 1 => totC f k + f k
theorem totC_le (f : Nat → Nat) {k n : Nat} (h : k ≤ n) : totC f k ≤ totC f n := by
  induction n with
  | zero => rw [Nat.le_zero.1 h]; exact Nat.le_refl _
  | succ n ih =>
    rcases Nat.lt_or_ge n k with h1 | h1
    · rw [show k = n + 1 by omega]; exact Nat.le_refl _
    · exact Nat.le_trans (ih h1) (Nat.le_add_right _ _)
/-- The first parts, one behind the other. -/
def cat (Z : Nat → List Int) : Nat → List Int
  | 0 => []
  | k + 1 => cat Z k ++ Z k
theorem cat_len {Z : Nat → List Int} {f : Nat → Nat} {n : Nat} (h : ∀ j, j < n → (Z j).length = f j) : ∀ k, k ≤ n → (cat Z k).length = totC f k := by
  intro k
  induction k with
  | zero => intro _; rfl
  | succ k ih => intro hk; rw [cat, List.length_append, ih (by omega), h k (by omega)]; rfl
/-- What a slice of slices holds. -/
structure Parts (W : World) (L n : Nat) (A : Nat → Option Addr) (f C : Nat → Nat) (Z : Nat → List Int) : Prop where
  lt : L < W.heap.size
  cell : ∀ j, j < n → W.cell? ⟨L, j, none⟩ = some (.slice (A j) (f j) (C j))
  sees : ∀ j, j < n → Sees .i64 W (A j) (f j) (Z j)
set_option maxRecDepth 20000 in
set_option maxHeartbeats 1600000 in
theorem concat_any (W : World) (L n : Nat) (A : Nat → Option Addr) (f C : Nat → Nat) (Z : Nat → List Int) (hn : n ≤ 1000) (ht : totC f n ≤ 1073741840) (hp : Parts W L n A f C Z) :
    Calls Try.prog 66 #[.slice (some ⟨L, 0, none⟩) n n] W (Made .i64 3 (cat Z n) W) := by
  have HP := Lib.hid hp
  have hL := hp.lt
  have HT := Lib.hid (fun k (h : k ≤ n) => totC_le f h)
  have HC := Lib.hid (cat_len (fun j hj => (hp.sees j hj).1))
  clear hp
  obtain ⟨i0, hi, hz0, hz1, hz2⟩ := info_parts info_i64
  go_enter Try.func66, Try.ntmps66
  go_wp2
  go_loop [3, 11] (fun s i => ∃ (k : Nat) (x : Nat), k ≤ n ∧ i = .int .i64 k ∧ s = .int .i64 x ∧ x = totC f k) (fun _ i => n - (intOf i).toNat)
  case atStart => exact ⟨0, 0, Nat.zero_le _, rfl, rfl, rfl⟩
  case round =>
    obtain ⟨k, x, hk, rfl, rfl, hx⟩ := hrel
    have hx1 := HT.out k hk
    rw [← hx] at hx1
    have HX := Lib.hid hx
    clear hx
    by_cases hlt : k < n
    · have hc := HP.out.cell k hlt
      have hs := HT.out (k + 1) hlt
      have HS : Hid (totC f (k + 1) = x + f k) := Lib.hid (by rw [HX.out]; rfl)
      rw [HS.out] at hs
      obtain ⟨ak, hak⟩ : ∃ y, y = A k := ⟨_, rfl⟩
      obtain ⟨fk, hfk⟩ : ∃ y, y = f k := ⟨_, rfl⟩
      obtain ⟨ck, hck⟩ : ∃ y, y = C k := ⟨_, rfl⟩
      rw [← hak, ← hfk, ← hck] at hc
      rw [← hfk] at hs HS
      clear hak hfk hck
      go_wp2
      go_round
      case rel => exact ⟨k + 1, x + fk, by omega, by go_num, by go_num, HS.out.symm⟩
      case measure => simp [intOf]; omega
    · obtain rfl : k = n := by omega
      go_wp2_with fail
      go_at_call 88
      refine (grow_any _ x (by omega)).mono ?_
      rintro e w1 ⟨a1, l1, c1, rfl, ho1, hb1⟩
      have hl1 : l1 ≤ 0 := by have := ho1.1; simp at this; omega
      have HO1 := Lib.hid ho1
      have HB1 := Lib.hid hb1
      clear ho1 hb1
      go_wp2_with fail
      go_loopw [6, 27] (fun v i wr => ∃ (m : Nat) (a' : Option Addr) (l' c' : Nat), m ≤ k ∧ i = .int .i64 m ∧ v = .slice a' l' c' ∧ Own .i64 3 wr W.heap.size wr.heap.size a' l' c' (cat Z m) ∧ Below W.heap.size W wr) (fun _ i _ => k - (intOf i).toNat)
      case atStart => exact ⟨0, _, _, _, Nat.zero_le _, rfl, rfl, HO1.out, HB1.out⟩
      case round =>
        obtain ⟨m, a', l', c', hm, rfl, rfl, ho, hb⟩ := hrel
        have HO := Lib.hid ho
        have HB := Lib.hid hb
        have hsz := hb.size
        by_cases hlt2 : m < k
        · have hc := (hb.cell (p := ⟨L, m, none⟩) hL).trans (HP.out.cell m hlt2)
          have HSE := Lib.hid ((HP.out.sees m hlt2).below hb)
          have h1 := HT.out (m + 1) hlt2
          have h2 : l' = totC f m := by rw [← ho.1]; exact HC.out m hm
          have h3 : totC f (m + 1) = totC f m + f m := rfl
          rw [h3, ← h2] at h1
          obtain ⟨ak, hak⟩ : ∃ y, y = A m := ⟨_, rfl⟩
          obtain ⟨fk, hfk⟩ : ∃ y, y = f m := ⟨_, rfl⟩
          obtain ⟨ck, hck⟩ : ∃ y, y = C m := ⟨_, rfl⟩
          rw [← hak, ← hfk] at HSE
          rw [← hak, ← hfk, ← hck] at hc
          rw [← hfk] at h1
          clear hak hfk hck h2 h3 ho hb
          go_wp2_with (at_builtin; refine wp_append_sees rfl _ _ 25 rfl 3 i0 .i64 8 Try.underlying25 hi hz0 hz1 hz2 _ _ _ _ rfl _ _ HO.out _ _ _ _ rfl HSE.out (by unfold maxLen; omega) (by omega) hsz ?_; intro b2 len2 cap2 w2 hlen2 ho2 hm2; clear hlen2; have HO2 := Lib.hid ho2; have HM2 := Lib.hid hm2; clear ho2 hm2)
          go_roundw
          case rel => exact ⟨m + 1, _, _, _, by omega, by go_num, rfl, HO2.out, below_moved HB.out HM2.out (Nat.le_refl _) (Nat.le_refl _)⟩
          case measure => simp [intOf]; omega
        · obtain rfl : m = k := by omega
          clear ho hb
          go_wp2_with fail
          go_ret
          exact ⟨_, _, _, rfl, HO.out, HB.out⟩
end Go.Proofs.Ytedkeobhcpbigaa
