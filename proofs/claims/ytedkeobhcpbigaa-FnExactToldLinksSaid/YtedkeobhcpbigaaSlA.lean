/- What the laws do to slices of bytes: copy, compare, mark, look for the marks. -/
import Derived.Test.YtedkeobhcpbigaaSl
import Derived.OpenShut
import Derived.Outline
import Derived.LoopTactic
import Derived.Deep.QuietTactic
import Derived.BigQuiet
import Derived.WalkSmall
import Derived.Deep.RegionHeld3
namespace Go.Proofs.Ytedkeobhcpbigaa
open Go.RowKit
theorem info_u8 : (Try.prog.info? 5).map (fun i => (i.zero, i.size, i.bytes)) = some (some (.int .u8 0), 1, 1) := by kernel_rfl
theorem made_row (k : IntKind) (w : World) (lo len g : Nat) (e : TypeId) (h : w.ownsRow lo e 1 (.slice (some ⟨g, 0, none⟩) len len) len (madeCells (Value.int k 0).cells (len * 1)).toList) : Own k e w lo w.heap.size (some ⟨g, 0, none⟩) len len (List.replicate len 0) := by
  refine own_of (n := len) ?_ ?_
  · rw [List.map_replicate]
    have : (Value.int k 0).cells = #[Value.int k 0] := rfl
    rw [this, toList_madeCells_one, Nat.mul_one] at h
    exact h
  · intro n hn
    rw [List.mem_replicate] at hn
    obtain ⟨_, rfl⟩ := hn
    cases k <;> decide
/-- The marks from m on. -/
def marks8 (m : Int) (n : Nat) : List Int := (List.range n).map (fun (j : Nat) => (m + (j : Int)) % 256)
theorem marks8_len (m : Int) (n : Nat) : (marks8 m n).length = n := by simp [marks8]
theorem marks8_at (m : Int) (n j : Nat) (h : j < n) : (marks8 m n).getD j 0 = (m + j) % 256 := by simp [marks8, List.getD, h]
theorem marks8_wf (m : Int) (n : Nat) : ∀ x ∈ marks8 m n, (Lit.int .u8 x).wf = true := by
  intro x hx
  obtain ⟨j, _, rfl⟩ := List.mem_map.1 hx
  exact WalkArith.wf_u8 (by omega)
end Go.Proofs.Ytedkeobhcpbigaa
/- What the laws do to slices of integers: copy, compare, mark, look for the marks. -/
namespace Go.Proofs.Ytedkeobhcpbigaa
open Go.RowKit
theorem info_i64 : (Try.prog.info? 3).map (fun i => (i.zero, i.size, i.bytes)) = some (some (.int .i64 0), 1, 8) := by kernel_rfl
set_option maxHeartbeats 400000 in
theorem toI_any (W : World) (a : Option Addr) (len cap : Nat) (zs : List Int) (hl : len ≤ 1073741824) (hs : Sees .i64 W a len zs) : Calls Try.prog 33 #[.slice a len cap] W (Made .i64 3 zs W) := by
  have HS := Lib.hid hs
  have HL := Lib.hid hs.1
  clear hs
  obtain ⟨i0, hi, hz0, hz1, hz2⟩ := info_parts info_i64
  go_enter Try.func33, Try.ntmps33
  go_wp2_with (at_make; refine wpList_make_full _ rfl _ _ 25 rfl W.heap.size 3 i0 (.int .i64 0) 1 Try.underlying25 hi hz0 hz1 _ _ _ _ len rfl rfl rfl rfl (by rw [hz2]; omega) (by unfold maxLen; omega) (by simp) ?_; intro w1 hown1 hgrow1; have HO1 := Lib.hid (made_row .i64 w1 _ len _ _ hown1); have HB1 := Lib.hid ((Below.refl W.heap.size W).grown hgrow1 (Nat.le_refl _) (fun k e => by cases e)); clear hown1 hgrow1)
  go_loopw [4] (fun i wr => ∃ k : Nat, k ≤ len ∧ i = .int .i64 k ∧ Own .i64 3 wr W.heap.size w1.heap.size (some ⟨W.heap.size, 0, none⟩) len len (over zs (List.replicate len 0) k) ∧ Below W.heap.size W wr) (fun i _ => len - (intOf i).toNat)
  case atStart => exact ⟨0, Nat.zero_le _, rfl, by rw [over_zero]; exact HO1.out, HB1.out⟩
  case round =>
    obtain ⟨k, hk, rfl, ho, hb⟩ := hrel
    have HO := Lib.hid ho
    have HB := Lib.hid hb
    by_cases hlt : k < len
    · rcases HS.out.2.2 with h0 | ⟨b, off, rfl, hbB, hcell⟩
      · omega
      · have hc := (hb.cell (p := ⟨b, off + k, none⟩) hbB).trans (hcell k hlt)
        have hsp := ho.spot
        rcases hsp with ⟨hx, _⟩ | ⟨g, hg, _, _, _, _, hcs, hfz⟩
        · cases hx
        · obtain rfl : W.heap.size = g := by simpa using hg
          have hcd := hcs k hlt
          have hfd := hfz k
          clear hcell hcs hfz ho hb hg
          go_wp2
          go_roundw
          case rel =>
            have hst := HO.out.stored k (zs.getD k 0) (HS.out.2.1 _ (getD_mem (by rw [HL.out]; exact hlt)))
            rw [over_set _ _ _ (by rw [HL.out]; simp) (by rw [HL.out]; exact hlt)] at hst
            have hst1 := hst.1
            have hst2 := below_moved HB.out hst.2 (Nat.le_refl _) (Nat.le_refl _)
            simp [List.getD, HL.out, hlt] at hst1 hst2 ⊢
            exact ⟨k + 1, by omega, by omega, hst1, hst2⟩
          case measure => simp [intOf]; omega
    · clear ho hb
      obtain rfl : k = len := by omega
      go_wp2
      go_ret
      have h := HO.out
      have e : over zs (List.replicate k 0) k = zs := by
        have := over_all zs (List.replicate k 0) (by rw [HL.out]; simp)
        rwa [HL.out] at this
      rw [e] at h
      exact ⟨_, _, _, rfl, h.wide (Nat.le_refl _) h.2.2.1 (Nat.le_refl _), HB.out⟩
/-- The marks from m on. -/
def marksI (m : Int) (n : Nat) : List Int := (List.range n).map (fun (j : Nat) => m + (j : Int))
theorem marksI_len (m : Int) (n : Nat) : (marksI m n).length = n := by simp [marksI]
theorem marksI_at (m : Int) (n j : Nat) (h : j < n) : (marksI m n).getD j 0 = m + j := by simp [marksI, List.getD, h]
theorem marksI_wf (m : Int) (n : Nat) (h0 : 0 ≤ m) (h1 : m + n ≤ 9223372036854775807) : ∀ x ∈ marksI m n, (Lit.int .i64 x).wf = true := by
  intro x hx
  obtain ⟨j, hj, rfl⟩ := List.mem_map.1 hx
  have := List.mem_range.1 hj
  exact WalkArith.wf_i64 (by omega)
set_option maxHeartbeats 400000 in
theorem eqI_yes (W : World) (a b : Option Addr) (len capa capb : Nat) (zs : List Int) (hl : len ≤ 1073741824) (ha : Sees .i64 W a len zs) (hb : Sees .i64 W b len zs) :
    Calls Try.prog 24 #[.slice a len capa, .slice b len capb] W fun e w' => e = .returned (.bool true) ∧ Below W.heap.size W w' := by
  have HA := Lib.hid ha
  have HZ := Lib.hid hb
  clear ha hb
  go_enter Try.func24, Try.ntmps24
  go_wp2
  go_loopw [5] (fun i wr => ∃ k : Nat, k ≤ len ∧ i = .int .i64 k ∧ Below W.heap.size W wr) (fun i _ => len - (intOf i).toNat)
  case atStart => exact ⟨0, Nat.zero_le _, rfl, Below.refl _ _⟩
  case round =>
    obtain ⟨k, hk, rfl, hbw⟩ := hrel
    have HB := Lib.hid hbw
    by_cases hlt : k < len
    · rcases HA.out.2.2 with h0 | ⟨b1, o1, rfl, hb1, hc1⟩
      · omega
      · rcases HZ.out.2.2 with h0 | ⟨b2, o2, rfl, hb2, hc2⟩
        · omega
        · have hx := (hbw.cell (p := ⟨b1, o1 + k, none⟩) hb1).trans (hc1 k hlt)
          have hy := (hbw.cell (p := ⟨b2, o2 + k, none⟩) hb2).trans (hc2 k hlt)
          clear hc1 hc2 hbw
          go_wp2
          go_quiet (fail)
          go_wp2
          go_roundw
          case rel => exact ⟨k + 1, by omega, by go_num, below_drewN HB.out _⟩
          case measure => simp [intOf]; omega
    · clear hbw
      go_wp2
      go_ret
      exact ⟨rfl, HB.out⟩
set_option maxHeartbeats 400000 in
theorem markI_any (W : World) (lo hi : Nat) (a : Option Addr) (len cap : Nat) (zs : List Int) (m : Int) (hl : len ≤ 1073741824) (hm0 : 0 ≤ m) (hm1 : m ≤ 4611686018427387904) (ho : Own .i64 3 W lo hi a len cap zs) :
    Calls Try.prog 25 #[.slice a len cap, .int .i64 m] W fun e w' => e = .returned (.int .i64 (m + len)) ∧ Own .i64 3 w' lo hi a len cap (marksI m len) ∧ Moved lo hi W w' := by
  have HO0 := Lib.hid ho
  have HL := Lib.hid ho.1
  clear ho
  go_enter Try.func25, Try.ntmps25
  go_wp2
  go_loopw [1, 5] (fun q i wr => ∃ k : Nat, k ≤ len ∧ i = .int .i64 k ∧ q = .int .i64 (m + k) ∧ Own .i64 3 wr lo hi a len cap (over (marksI m len) zs k) ∧ Moved lo hi W wr) (fun _ i _ => len - (intOf i).toNat)
  case atStart => exact ⟨0, Nat.zero_le _, rfl, by simp, by rw [over_zero]; exact HO0.out, Moved.refl _ _ _⟩
  case round =>
    obtain ⟨k, hk, rfl, rfl, ho, hb⟩ := hrel
    have HO := Lib.hid ho
    have HB := Lib.hid hb
    by_cases hlt : k < len
    · have hsp := ho.spot
      rcases hsp with ⟨_, hx, _⟩ | ⟨g, rfl, _, _, _, _, hcs, hfz⟩
      · omega
      · have hcd := hcs k hlt
        have hfd := hfz k
        clear hcs hfz ho hb
        go_wp2
        go_roundw
        case rel =>
          have hst := HO.out.stored k (m + k) (WalkArith.wf_i64 (by omega))
          have e := over_set (marksI m len) zs k (by rw [HL.out, marksI_len]) (by rw [marksI_len]; exact hlt)
          rw [marksI_at _ _ _ hlt] at e
          rw [e] at hst
          exact ⟨k + 1, by omega, by go_num, by go_num, hst.1, HB.out.trans hst.2⟩
        case measure => simp [intOf]; omega
    · clear ho hb
      obtain rfl : k = len := by omega
      go_wp2
      go_ret
      have h := HO.out
      have e : over (marksI m k) zs k = marksI m k := by
        have := over_all (marksI m k) zs (by rw [HL.out, marksI_len])
        rwa [marksI_len] at this
      rw [e] at h
      exact ⟨rfl, h, HB.out⟩
set_option maxHeartbeats 400000 in
theorem heldI_any (W : World) (a : Option Addr) (len cap : Nat) (m : Int) (hl : len ≤ 1073741824) (hm0 : 0 ≤ m) (hm1 : m ≤ 4611686018427387904) (ha : Sees .i64 W a len (marksI m len)) :
    Calls Try.prog 26 #[.slice a len cap, .int .i64 m] W fun e w' => e = .returned (.int .i64 (m + len)) ∧ Below W.heap.size W w' := by
  have HA := Lib.hid ha
  clear ha
  go_enter Try.func26, Try.ntmps26
  go_wp2
  go_loopw [1, 5] (fun q i wr => ∃ k : Nat, k ≤ len ∧ i = .int .i64 k ∧ q = .int .i64 (m + k) ∧ Below W.heap.size W wr) (fun _ i _ => len - (intOf i).toNat)
  case atStart => exact ⟨0, Nat.zero_le _, rfl, by simp, Below.refl _ _⟩
  case round =>
    obtain ⟨k, hk, rfl, rfl, hbw⟩ := hrel
    have HB := Lib.hid hbw
    by_cases hlt : k < len
    · rcases HA.out.2.2 with h0 | ⟨b1, o1, rfl, hb1, hc1⟩
      · omega
      · have hx := (hbw.cell (p := ⟨b1, o1 + k, none⟩) hb1).trans (hc1 k hlt)
        rw [marksI_at _ _ _ hlt] at hx
        clear hc1 hbw
        go_wp2
        go_roundw
        case rel => exact ⟨k + 1, by omega, by go_num, by go_num, HB.out⟩
        case measure => simp [intOf]; omega
    · clear hbw
      obtain rfl : k = len := by omega
      go_wp2
      go_ret
      exact ⟨rfl, HB.out⟩
end Go.Proofs.Ytedkeobhcpbigaa
/- Slices of slices of integers: what is seen of one, what a call owns. -/
namespace Go.Proofs.Ytedkeobhcpbigaa
open Go.RowKit
/-- Row r. -/
def row (ms : List (List Int)) (r : Nat) : List Int := ms.getD r []
theorem row_set_same {ms : List (List Int)} {r : Nat} {z : List Int} (h : r < ms.length) : row (ms.set r z) r = z := by simp [row, List.getD, h]
theorem row_set_other {ms : List (List Int)} {r s : Nat} {z : List Int} (h : s ≠ r) : row (ms.set r z) s = row ms s := by
  unfold row List.getD
  rw [List.getElem?_set_ne (fun e => h e.symm)]
/-- The rows are ms. -/
def SeesM (w : World) (a : Option Addr) (len : Nat) (ms : List (List Int)) : Prop :=
  ms.length = len ∧ ∀ r, r < len → ∃ b off ar cr, a = some ⟨b, off, none⟩ ∧ b < w.heap.size ∧ w.cell? ⟨b, off + r, none⟩ = some (.slice ar (row ms r).length cr) ∧ (row ms r).length ≤ cr ∧ cr ≤ maxLen ∧ Sees .i64 w ar (row ms r).length (row ms r)
theorem SeesM.below {w w' : World} {a : Option Addr} {len : Nat} {ms : List (List Int)} (h : SeesM w a len ms) (hb : Below w.heap.size w w') : SeesM w' a len ms := by
  refine ⟨h.1, fun r hr => ?_⟩
  obtain ⟨b, off, ar, cr, ha, hlt, hc, hl, hm, hs⟩ := h.2 r hr
  exact ⟨b, off, ar, cr, ha, Nat.lt_of_lt_of_le hlt hb.size, (hb.cell (p := ⟨b, off + r, none⟩) hlt).trans hc, hl, hm, hs.below hb⟩
/-- The rows as the reader of an argument finds them. -/
theorem seesM_open {w : World} {base : Nat} {a : Addr} {len cap : Nat} {A : Nat → Option Addr} {L C : Nat → Nat} {Z : Nat → List Int} (hl : len ≤ cap)
    (h : ∀ r, r < cap → w.cell? (a.add r) = some (.slice (A r) (L r) (C r)) ∧ L r ≤ C r ∧ C r ≤ maxLen ∧ (Z r).length = C r ∧ (∀ n ∈ Z r, (Lit.int .i64 n).wf = true) ∧ (A r = none → C r = 0) ∧
        ∀ a', A r = some a' → base ≤ a'.block ∧ ∀ c, c < C r → w.cell? (a'.add c) = some (.int .i64 ((Z r).getD c 0))) :
    SeesM w (some a) len ((List.range len).map fun r => (Z r).take (L r)) := by
  refine ⟨by simp, fun r hr => ?_⟩
  obtain ⟨h1, h2, h3, h4, h5, h6, h7⟩ := h r (by omega)
  have er : row ((List.range len).map fun r => (Z r).take (L r)) r = (Z r).take (L r) := by simp [row, List.getD, hr]
  have el : ((Z r).take (L r)).length = L r := by simp; omega
  obtain ⟨b, off, spot⟩ := a
  have hs : spot = none := by simpa [Addr.add] using World.cell?_spot (h 0 (by omega)).1
  subst hs
  rw [er, el]
  have hi : IsRow .i64 w (A r) (L r) (C r) (Z r) := by
    cases hA : A r with
    | none =>
      have := h6 hA
      exact .inl ⟨rfl, by omega, this, List.eq_nil_of_length_eq_zero (by omega)⟩
    | some a' => exact .inr ⟨a', rfl, h2, h3, h4, fun i hi => (h7 a' hA).2 i (by omega), h5⟩
  rw [add_plain] at h1
  exact ⟨b, off, A r, C r, rfl, World.block_lt_of_cell? w _ h1, h1, h2, h3, row_sees hi⟩
/-- What a law's walk is told of an argument. -/
def IsRows (w : World) (a : Option Addr) (len : Nat) (ms : List (List Int)) : Prop := SeesM w a len ms ∧ len ≤ maxLen
theorem isRows_nil (w : World) (a : Option Addr) : IsRows w a 0 [] := ⟨⟨rfl, fun r hr => by omega⟩, Nat.zero_le _⟩
/-! ### What a call owns -/
theorem Own.off {k : IntKind} {e : TypeId} {w w' : World} {lo hi G H : Nat} {a : Option Addr} {len cap : Nat} {zs : List Int} (h : Own k e w lo hi a len cap zs) (hm : Moved G H w w') (hne : ∀ x, a = some x → ¬ (G ≤ x.block ∧ x.block < H)) : Own k e w' lo hi a len cap zs := by
  obtain ⟨h1, h2, h3, h4, h5⟩ := h
  refine ⟨h1, h2, Nat.le_trans h3 hm.size, ⟨h4.1, ?_⟩, h5⟩
  rcases h4.2 with h | ⟨g, c, cur, hv, hlo, hg, rest⟩
  · exact .inl h
  · refine .inr ⟨g, c, cur, hv, hlo, ?_, rest⟩
    have hgs := (Array.getElem?_eq_some_iff.1 hg).1
    simp only [Value.slice.injEq, true_and] at hv
    have hb := hne _ hv.1
    simp only at hb
    rw [hm.block g hgs hb]
    exact hg
/-- An own row with a block lies in that block alone. -/
theorem Own.narrow {k : IntKind} {e : TypeId} {w : World} {lo hi g : Nat} {len cap : Nat} {zs : List Int} (h : Own k e w lo hi (some ⟨g, 0, none⟩) len cap zs) : Own k e w g (g + 1) (some ⟨g, 0, none⟩) len cap zs := by
  obtain ⟨h1, h2, h3, h4, h5⟩ := h
  have hb := h5 _ rfl
  simp only at hb
  refine ⟨h1, h2, by omega, ⟨h4.1, ?_⟩, fun x hx => by cases hx; simp⟩
  rcases h4.2 with h | ⟨g', c, cur, hv, hlo, rest⟩
  · exact .inl h
  · simp only [Value.slice.injEq, Option.some.injEq, Addr.mk.injEq, and_true, true_and] at hv
    obtain ⟨rfl, rfl⟩ := hv
    exact .inr ⟨g, cap, cur, rfl, Nat.le_refl _, rest⟩
theorem Own.nil {k : IntKind} {e : TypeId} {w : World} {lo hi lo2 hi2 : Nat} {len cap : Nat} {zs : List Int} (h : Own k e w lo hi none len cap zs) (h2 : hi2 ≤ w.heap.size) : Own k e w lo2 hi2 none len cap zs := by
  obtain ⟨g1, g2, _, g4, _⟩ := h
  rcases g4.2 with ⟨hv, hn⟩ | ⟨g, c, cur, hv, _⟩
  · exact ⟨g1, g2, h2, ⟨g4.1, .inl ⟨hv, hn⟩⟩, fun x hx => by cases hx⟩
  · simp at hv
theorem own_none0 (k : IntKind) (e : TypeId) (w : World) (lo : Nat) {hi : Nat} (h : hi ≤ w.heap.size) : Own k e w lo hi none 0 0 [] :=
  ⟨rfl, (fun n hn => by cases hn), h, World.ownsRow_nil w lo e 1, (fun x hx => by cases hx)⟩
/-- The rows' slices as the outer row holds them. -/
def heads (A : Nat → Option Addr) (C : Nat → Nat) (ms : List (List Int)) : List Value := (List.range ms.length).map fun r => .slice (A r) (row ms r).length (C r)
theorem heads_len (A : Nat → Option Addr) (C : Nat → Nat) (ms : List (List Int)) : (heads A C ms).length = ms.length := by simp [heads]
theorem heads_at {A : Nat → Option Addr} {C : Nat → Nat} {ms : List (List Int)} {r : Nat} (h : r < ms.length) : (heads A C ms)[r]? = some (.slice (A r) (row ms r).length (C r)) := by simp [heads, h]
/-- Each row is the call's own, in a block of its own. -/
def Apart (w : World) (lo hi : Nat) (a : Option Addr) (ms : List (List Int)) (A : Nat → Option Addr) (C : Nat → Nat) : Prop :=
  ∀ r, r < ms.length → Own .i64 3 w lo hi (A r) (row ms r).length (C r) (row ms r) ∧
    ∀ x, A r = some x → (∀ y, a = some y → x.block ≠ y.block) ∧ ∀ s, s < ms.length → s ≠ r → ∀ y, A s = some y → x.block ≠ y.block
/-- A slice of slices of the call's own. -/
def OwnM (w : World) (lo hi : Nat) (a : Option Addr) (len cap : Nat) (ms : List (List Int)) : Prop :=
  ms.length = len ∧ hi ≤ w.heap.size ∧ (∀ x, a = some x → lo ≤ x.block ∧ x.block < hi) ∧
    ∃ A C, w.ownsRow lo 25 1 (.slice a len cap) len (heads A C ms) ∧ Apart w lo hi a ms A C
theorem Own.cap {k : IntKind} {e : TypeId} {w : World} {lo hi : Nat} {a : Option Addr} {len cap : Nat} {zs : List Int} (h : Own k e w lo hi a len cap zs) : len ≤ cap := by
  rcases h.spot with ⟨_, h1, h2, _⟩ | ⟨g, _, _, _, h1, _⟩
  · omega
  · exact h1
theorem Own.capMax {k : IntKind} {e : TypeId} {w : World} {lo hi : Nat} {a : Option Addr} {len cap : Nat} {zs : List Int} (h : Own k e w lo hi a len cap zs) : cap ≤ maxLen := by
  rcases h.spot with ⟨_, h1, h2, _⟩ | ⟨g, _, _, _, _, h1, _⟩
  · omega
  · exact h1
theorem ownsRow_spot {w : World} {lo : Nat} {e : TypeId} {a : Option Addr} {n cap : Nat} {xs : List Value} (h : w.ownsRow lo e 1 (.slice a n cap) n xs) :
    (a = none ∧ n = 0) ∨ ∃ g, a = some ⟨g, 0, none⟩ ∧ lo ≤ g ∧ g < w.heap.size ∧ n ≤ cap ∧ cap ≤ maxLen ∧ (∀ j, j < n → w.cell? ⟨g, j, none⟩ = xs[j]?) ∧ ∀ j, w.frozen? ⟨g, j, none⟩ = false := by
  have h' := h
  rcases h.2 with ⟨hv, hn⟩ | ⟨g, c, cur, hv, hlo, hg, hnc, hcm, hcs, htk⟩
  · simp only [Value.slice.injEq] at hv
    exact .inl ⟨hv.1, hn⟩
  · simp only [Value.slice.injEq, true_and] at hv
    obtain ⟨rfl, rfl⟩ := hv
    exact .inr ⟨g, rfl, hlo, (Array.getElem?_eq_some_iff.1 hg).1, hnc, hcm, fun j hj => h'.cellAt j (by omega), fun j => h'.frozenAt j⟩
theorem OwnM.sees {w : World} {lo hi : Nat} {a : Option Addr} {len cap : Nat} {ms : List (List Int)} (h : OwnM w lo hi a len cap ms) : SeesM w a len ms := by
  obtain ⟨h1, h2, h3, A, C, h4, h5⟩ := h
  refine ⟨h1, fun r hr => ?_⟩
  rcases ownsRow_spot h4 with ⟨_, h0⟩ | ⟨g, rfl, _, hg, _, _, hc, _⟩
  · omega
  · have ho := (h5 r (by omega)).1
    exact ⟨g, 0, A r, C r, rfl, hg, by rw [Nat.zero_add, hc r hr, heads_at (by omega)], ho.cap, ho.capMax, ho.sees⟩
theorem ownsRow_kept {w w' : World} {lo lo2 hi2 : Nat} {e : TypeId} {a : Option Addr} {n cap : Nat} {xs : List Value} (h : w.ownsRow lo e 1 (.slice a n cap) n xs) (hm : Moved lo2 hi2 w w') (hne : ∀ x, a = some x → ¬ (lo2 ≤ x.block ∧ x.block < hi2)) : w'.ownsRow lo e 1 (.slice a n cap) n xs := by
  refine ⟨h.1, ?_⟩
  rcases h.2 with h | ⟨g, c, cur, hv, hlo, hg, rest⟩
  · exact .inl h
  · refine .inr ⟨g, c, cur, hv, hlo, ?_, rest⟩
    simp only [Value.slice.injEq, true_and] at hv
    rw [hm.block g (Array.getElem?_eq_some_iff.1 hg).1 (hne _ hv.1)]
    exact hg
theorem ownsRow_wide {w : World} {lo lo2 : Nat} {e : TypeId} {a : Option Addr} {n cap : Nat} {xs : List Value} (h : w.ownsRow lo e 1 (.slice a n cap) n xs) (hl : lo2 ≤ lo) : w.ownsRow lo2 e 1 (.slice a n cap) n xs := by
  refine ⟨h.1, ?_⟩
  rcases h.2 with h | ⟨g, c, cur, hv, hlo, rest⟩
  · exact .inl h
  · exact .inr ⟨g, c, cur, hv, Nat.le_trans hl hlo, rest⟩
theorem OwnM.moved {w w' : World} {lo hi lo2 hi2 : Nat} {a : Option Addr} {len cap : Nat} {ms : List (List Int)} (h : OwnM w lo hi a len cap ms) (hm : Moved lo2 hi2 w w') (ho : hi ≤ lo2 ∨ hi2 ≤ lo) : OwnM w' lo hi a len cap ms := by
  obtain ⟨h1, h2, h3, A, C, h4, h5⟩ := h
  refine ⟨h1, Nat.le_trans h2 hm.size, h3, A, C, ownsRow_kept h4 hm (fun x hx => by have := h3 x hx; omega), fun r hr => ⟨?_, (h5 r hr).2⟩⟩
  exact (h5 r hr).1.moved hm ho
theorem OwnM.below {w w' : World} {lo hi : Nat} {a : Option Addr} {len cap : Nat} {ms : List (List Int)} (h : OwnM w lo hi a len cap ms) (hb : Below w.heap.size w w') : OwnM w' lo hi a len cap ms :=
  h.moved (Moved.of_below (lo := hi) (hi := hi) hb) (.inl (Nat.le_refl _))
theorem OwnM.wide {w : World} {lo hi lo2 hi2 : Nat} {a : Option Addr} {len cap : Nat} {ms : List (List Int)} (h : OwnM w lo hi a len cap ms) (h1 : lo2 ≤ lo) (h2 : hi ≤ hi2) (h3 : hi2 ≤ w.heap.size) : OwnM w lo2 hi2 a len cap ms := by
  obtain ⟨g1, _, g3, A, C, g4, g5⟩ := h
  exact ⟨g1, h3, fun x hx => ⟨Nat.le_trans h1 (g3 x hx).1, Nat.lt_of_lt_of_le (g3 x hx).2 h2⟩, A, C, ownsRow_wide g4 h1, fun r hr => ⟨(g5 r hr).1.wide h1 h2 h3, (g5 r hr).2⟩⟩
/-- A new row is put into place k. -/
theorem OwnM.put {w w' : World} {lo hi g : Nat} {len cap : Nat} {ms : List (List Int)} (h : OwnM w lo hi (some ⟨g, 0, none⟩) len cap ms) (hlo : lo ≤ w.heap.size) (hb : Below w.heap.size w w') {a' : Option Addr} {c' : Nat} {zs : List Int} (hn : Own .i64 3 w' w.heap.size w'.heap.size a' zs.length c' zs) (k : Nat) (hk : k < len) :
    OwnM (w'.setCell ⟨g, k, none⟩ (.slice a' zs.length c')) lo w'.heap.size (some ⟨g, 0, none⟩) len cap (ms.set k zs) ∧ Moved lo hi w (w'.setCell ⟨g, k, none⟩ (.slice a' zs.length c')) := by
  have hM := h.below hb
  obtain ⟨h1, h2, h3, A, C, h4, h5⟩ := hM
  have hg := h3 _ rfl
  simp only at hg
  have hiw : hi ≤ w.heap.size := h.2.1
  obtain ⟨s1, s2⟩ := h4.stored k (.slice a' zs.length c')
  have hmg : Moved g (g + 1) w' (w'.setCell ⟨g, k, none⟩ (.slice a' zs.length c')) := Moved.of_grown s2 (Nat.le_refl _) (by omega)
  refine ⟨⟨by simpa using h1, by simp [World.setCell], fun x hx => by cases hx; simp; omega, fun r => if r = k then a' else A r, fun r => if r = k then c' else C r, ?_, ?_⟩, ?_⟩
  · have e : (heads A C ms).set k (.slice a' zs.length c') = heads (fun r => if r = k then a' else A r) (fun r => if r = k then c' else C r) (ms.set k zs) := by
      apply List.ext_getElem?
      intro i
      by_cases hi : i < ms.length
      · rw [heads_at (by simpa using hi), List.getElem?_set]
        by_cases hik : k = i
        · subst hik
          rw [if_pos rfl, if_pos (by rw [heads_len]; exact hi), row_set_same hi]
          simp
        · rw [if_neg hik, heads_at hi, row_set_other (fun e => hik e.symm)]
          rw [if_neg (fun e => hik e.symm), if_neg (fun e => hik e.symm)]
      · rw [List.getElem?_eq_none (by rw [List.length_set, heads_len]; omega), List.getElem?_eq_none (by rw [heads_len, List.length_set]; omega)]
    rw [← e]
    exact s1
  · intro r hr
    have hr' : r < ms.length := by simpa using hr
    by_cases hrk : r = k
    · subst hrk
      simp only [if_true]
      rw [row_set_same hr']
      refine ⟨(hn.off hmg (fun x hx => ?_)).wide (by omega) (Nat.le_refl _) (by simp [World.setCell]), fun x hx => ?_⟩
      · have := hn.2.2.2.2 x hx
        omega
      · have hx1 := hn.2.2.2.2 x hx
        refine ⟨fun y hy => by cases hy; simp only; omega, fun s hs hsr y hy => ?_⟩
        rw [if_neg hsr] at hy
        have := ((h5 s (by simpa using hs)).1).2.2.2.2 y hy
        omega
    · simp only [hrk, if_false]
      rw [row_set_other hrk]
      obtain ⟨o1, o2⟩ := h5 r hr'
      have hblk : ∀ x, A r = some x → x.block ≠ g := fun x hx => (o2 x hx).1 _ rfl
      refine ⟨(o1.off hmg (fun x hx => by have := hblk x hx; omega)).wide (Nat.le_refl _) (by have := hb.size; omega) (by simp [World.setCell]), fun x hx => ⟨(o2 x hx).1, fun s hs hsr y hy => ?_⟩⟩
      by_cases hsk : s = k
      · rw [if_pos hsk] at hy
        have h6 := hn.2.2.2.2 y hy
        have h7 := o1.2.2.2.2 x hx
        omega
      · rw [if_neg hsk] at hy
        exact (o2 x hx).2 s (by simpa using hs) hsr y hy
  · exact (Moved.of_below (lo := lo) (hi := hi) hb).trans (Moved.of_grown s2 (by omega) (by omega))
/-- Row i alone: what turns it turns nothing else. -/
theorem OwnM.inner {w : World} {lo hi : Nat} {a : Option Addr} {len cap : Nat} {ms : List (List Int)} (h : OwnM w lo hi a len cap ms) (i : Nat) (hi' : i < len) (hlo : lo ≤ w.heap.size) :
    ∃ g ai ci l2 h2, a = some ⟨g, 0, none⟩ ∧ w.cell? ⟨g, i, none⟩ = some (.slice ai (row ms i).length ci) ∧ Own .i64 3 w l2 h2 ai (row ms i).length ci (row ms i) ∧
      ∀ w' zs', Own .i64 3 w' l2 h2 ai (row ms i).length ci zs' → Moved l2 h2 w w' → OwnM w' lo hi a len cap (ms.set i zs') ∧ Moved lo hi w w' := by
  obtain ⟨h1, h2, h3, A, C, h4, h5⟩ := h
  rcases ownsRow_spot h4 with ⟨_, h0⟩ | ⟨g, rfl, hlg, hg, _, _, hc, _⟩
  · omega
  obtain ⟨o1, o2⟩ := h5 i (by omega)
  have hgb := h3 _ rfl
  simp only at hgb
  have main : ∀ l2 h2', lo ≤ l2 → h2' ≤ hi ∨ h2' ≤ l2 → Own .i64 3 w l2 h2' (A i) (row ms i).length (C i) (row ms i) → (∀ y, A i ≠ some y → True) → ¬ (l2 ≤ g ∧ g < h2') → (∀ s, s < ms.length → s ≠ i → ∀ y, A s = some y → ¬ (l2 ≤ y.block ∧ y.block < h2')) →
      (∀ x, A i = some x → lo ≤ x.block ∧ x.block < hi) →
      ∀ w' zs', Own .i64 3 w' l2 h2' (A i) (row ms i).length (C i) zs' → Moved l2 h2' w w' → OwnM w' lo hi (some ⟨g, 0, none⟩) len cap (ms.set i zs') ∧ Moved lo hi w w' := by
    intro l2 h2' hl2 hh2 _ _ hng hoff hin w' zs' ho' hm'
    have hlz : zs'.length = (row ms i).length := ho'.1
    refine ⟨⟨by simpa using h1, Nat.le_trans h2 hm'.size, h3, A, C, ?_, ?_⟩, ?_⟩
    · have e : heads A C (ms.set i zs') = heads A C ms := by
        apply List.ext_getElem?
        intro j
        by_cases hj : j < ms.length
        · rw [heads_at (by simpa using hj), heads_at hj]
          by_cases hji : j = i
          · subst hji; rw [row_set_same hj, hlz]
          · rw [row_set_other hji]
        · rw [List.getElem?_eq_none (by rw [heads_len, List.length_set]; omega), List.getElem?_eq_none (by rw [heads_len]; omega)]
      rw [e]
      exact ownsRow_kept h4 hm' (fun x hx => by cases hx; exact hng)
    · intro r hr
      have hr' : r < ms.length := by simpa using hr
      by_cases hri : r = i
      · subst hri
        rw [row_set_same hr', hlz]
        refine ⟨?_, fun x hx => ⟨(o2 x hx).1, fun s hs => (o2 x hx).2 s (by simpa using hs)⟩⟩
        obtain ⟨g1, g2, _, g4, _⟩ := ho'
        exact ⟨g1, g2, Nat.le_trans h2 hm'.size, ownsRow_wide g4 hl2, hin⟩
      · rw [row_set_other hri]
        obtain ⟨p1, p2⟩ := h5 r hr'
        exact ⟨p1.off hm' (fun x hx => hoff r hr' hri x hx), fun x hx => ⟨(p2 x hx).1, fun s hs => (p2 x hx).2 s (by simpa using hs)⟩⟩
    · refine ⟨hm'.os, hm'.tape, hm'.output, hm'.size, fun k hk hne => hm'.block k hk (by omega)⟩
  cases hA : A i with
  | none =>
    refine ⟨g, none, C i, lo, lo, rfl, by rw [hc i hi', heads_at (by omega), hA], by rw [hA] at o1; exact o1.nil hlo, ?_⟩
    have := main lo lo (Nat.le_refl _) (.inr (Nat.le_refl _)) (by rw [hA]; rw [hA] at o1; exact o1.nil hlo) (fun _ _ => trivial) (by omega) (fun _ _ _ _ _ => by omega) (fun x hx => by rw [hA] at hx; cases hx)
    rw [hA] at this
    exact this
  | some x =>
    have o1' := o1
    rw [hA] at o1'
    obtain ⟨G, hG⟩ : ∃ G, x = ⟨G, 0, none⟩ := by
      rcases o1'.spot with ⟨hx, _⟩ | ⟨G, hx, _⟩
      · cases hx
      · exact ⟨G, Option.some.inj hx⟩
    subst hG
    have hb := o1.2.2.2.2 _ hA
    simp only at hb
    have hq := o2 _ hA
    simp only at hq
    refine ⟨g, some ⟨G, 0, none⟩, C i, G, G + 1, rfl, by rw [hc i hi', heads_at (by omega), hA], o1'.narrow, ?_⟩
    have := main G (G + 1) hb.1 (.inl (by omega)) (by rw [hA]; exact o1'.narrow) (fun _ _ => trivial) (by have := hq.1 _ rfl; simp only at this; omega) (fun s hs hsi y hy => by have := hq.2 s hs hsi y hy; omega) (fun x hx => by rw [hA] at hx; cases hx; exact hb)
    rw [hA] at this
    exact this
end Go.Proofs.Ytedkeobhcpbigaa
/- What the laws do to slices of slices of integers: measure, copy, compare, mark, look for the marks. -/
namespace Go.Proofs.Ytedkeobhcpbigaa
open Go.RowKit
/-- How many integers the first rows have. -/
def tot (ms : List (List Int)) : Nat → Nat
  | 0 => 0
  | r + 1 => tot ms r + (row ms r).length
theorem tot_mono (ms : List (List Int)) {a b : Nat} (h : a ≤ b) : tot ms a ≤ tot ms b := by
  induction b with
  | zero => rw [Nat.le_zero.1 h]; exact Nat.le_refl _
  | succ b ih =>
    rcases Nat.lt_or_eq_of_le h with h1 | rfl
    · exact Nat.le_trans (ih (by omega)) (Nat.le_add_right _ _)
    · exact Nat.le_refl _
def SmallM (ms : List (List Int)) : Prop := ms.length + tot ms ms.length ≤ 1048576
theorem SmallM.row {ms : List (List Int)} (h : SmallM ms) {r : Nat} (hr : r < ms.length) : tot ms r + (row ms r).length ≤ 1048576 := by
  have := tot_mono ms (show r + 1 ≤ ms.length by omega)
  unfold SmallM at h
  simp only [tot] at this
  omega
/-- What is left of 2^20. -/
def szV (ms : List (List Int)) : Int := if ms.length + tot ms ms.length ≤ 1048576 then 1048576 - (ms.length : Int) - (tot ms ms.length : Int) else -1
theorem szV_small {ms : List (List Int)} (h : SmallM ms) : szV ms = 1048576 - (ms.length : Int) - (tot ms ms.length : Int) := if_pos h
theorem szV_big {ms : List (List Int)} (h : ¬ SmallM ms) : szV ms = -1 := if_neg h
theorem ret_intV {k : IntKind} {a b : Int} (h : a = b) : Ending.returned (.int k a) = .returned (.int k b) := by rw [h]
theorem szI_any (W : World) (a : Option Addr) (len cap : Nat) (left v : Int) (hl : len ≤ maxLen) (h0 : 0 ≤ left) (h1 : left ≤ 1048576) (hv : v = if left < (len : Int) then -1 else left - (len : Int)) :
    Calls Try.prog 53 #[.slice a len cap, .int .i64 left] W fun e w' => e = .returned (.int .i64 v) ∧ W = w' := by
  unfold maxLen at hl
  by_cases h : left < (len : Int)
  · rw [if_pos h] at hv
    subst hv
    go_enter Try.func53, Try.ntmps53
    go_wp2
    go_ret
    exact ⟨rfl, rfl⟩
  · rw [if_neg h] at hv
    have HV := Lib.hid hv
    clear hv
    have h2 : ¬ left - (len : Int) < 0 := by omega
    go_enter Try.func53, Try.ntmps53
    go_wp2
    go_ret
    exact ⟨ret_intV HV.out.symm, rfl⟩
set_option maxHeartbeats 400000 in
theorem szM_any (W : World) (a : Option Addr) (len cap : Nat) (ms : List (List Int)) (v : Int) (hl : len ≤ maxLen) (hs : SeesM W a len ms) (hv : v = szV ms) :
    Calls Try.prog 27 #[.slice a len cap, .int .i64 1048576] W fun e w' => e = .returned (.int .i64 v) ∧ Below W.heap.size W w' := by
  have HS := Lib.hid hs
  have HL := Lib.hid hs.1
  have HV := Lib.hid hv
  clear hs hv
  unfold maxLen at hl
  by_cases h0 : (1048576 : Int) - (len : Int) < 0
  · have hn : ¬ SmallM ms := by unfold SmallM; rw [HL.out]; omega
    have HE := Lib.hid (HV.out.trans (szV_big hn))
    go_enter Try.func27, Try.ntmps27
    go_wp2
    go_ret
    exact ⟨ret_intV HE.out.symm, Below.refl _ _⟩
  · go_enter Try.func27, Try.ntmps27
    go_wp2
    go_loopw [1, 5] (fun q i wr => ∃ (k : Nat) (x : Int), k ≤ len ∧ i = .int .i64 k ∧ q = .int .i64 x ∧ x = 1048576 - (len : Int) - (tot ms k : Int) ∧ 0 ≤ x ∧ Below W.heap.size W wr) (fun _ i _ => len - (intOf i).toNat)
    case atStart => exact ⟨0, _, Nat.zero_le _, rfl, rfl, by simp [tot], by omega, Below.refl _ _⟩
    case round =>
      obtain ⟨k, x, hk, rfl, rfl, hx, hx0, hb⟩ := hrel
      have HB := Lib.hid hb
      have HX := Lib.hid hx
      have hx1 : x ≤ 1048576 := by omega
      clear hx
      by_cases hlt : k < len
      · obtain ⟨b, off, ar, cr, rfl, hbl, hc, hle, hcm, hsr⟩ := HS.out.2 k hlt
        have hcw := (hb.cell (p := ⟨b, off + k, none⟩) hbl).trans hc
        obtain ⟨L, hL⟩ : ∃ L, L = (row ms k).length := ⟨_, rfl⟩
        rw [← hL] at hcw hle
        have HLr := Lib.hid hL
        have hLm : L ≤ maxLen := Nat.le_trans hle hcm
        clear hc hb hsr hL hle hcm
        by_cases hneg : x < (L : Int)
        · have hn : ¬ SmallM ms := fun hsm => by
            have := hsm.row (r := k) (by rw [HL.out]; exact hlt)
            have h2 := tot_mono ms (show k + 1 ≤ ms.length by rw [HL.out]; omega)
            unfold SmallM at hsm
            simp only [tot] at h2
            have h3 := HLr.out
            have h4 := HX.out
            have h5 := HL.out
            omega
          have HE := Lib.hid (HV.out.trans (szV_big hn))
          clear hn
          go_wp2_with (go_at_call 53; refine (szI_any _ _ L _ x (-1) hLm hx0 hx1 (by rw [if_pos hneg])).mono ?_; rintro e w2 ⟨rfl, rfl⟩)
          go_ret
          exact ⟨ret_intV HE.out.symm, HB.out⟩
        · obtain ⟨y, hy⟩ : ∃ y, y = x - (L : Int) := ⟨_, rfl⟩
          have hy0 : ¬ y < 0 := by omega
          have HY := Lib.hid hy
          clear hy
          go_wp2_with (go_at_call 53; refine (szI_any _ _ L _ x y hLm hx0 hx1 (by rw [if_neg hneg]; exact HY.out)).mono ?_; rintro e w2 ⟨rfl, rfl⟩)
          go_roundw
          case rel => exact ⟨k + 1, y, by omega, by go_num, rfl, by have h3 := HLr.out; have h4 := HX.out; have h5 := HY.out; simp only [tot]; omega, by omega, HB.out⟩
          case measure => simp [intOf]; omega
      · obtain rfl : k = len := by omega
        have hsm : SmallM ms := by
          unfold SmallM
          have h4 := HX.out
          rw [HL.out]
          omega
        have HE : Hid (v = x) := Lib.hid (by rw [HV.out, szV_small hsm, HL.out, HX.out])
        clear hb hsm
        go_wp2
        go_ret
        exact ⟨ret_intV HE.out.symm, HB.out⟩
/-! ### Copies -/
/-- The first k rows, and nothing behind. -/
def upTo (ms : List (List Int)) (k : Nat) : List (List Int) := ms.take k ++ List.replicate (ms.length - k) []
theorem upTo_len (ms : List (List Int)) {k : Nat} (h : k ≤ ms.length) : (upTo ms k).length = ms.length := by simp [upTo]; omega
theorem upTo_zero (ms : List (List Int)) : upTo ms 0 = List.replicate ms.length [] := by simp [upTo]
theorem upTo_all (ms : List (List Int)) : upTo ms ms.length = ms := by simp [upTo]
theorem upTo_set (ms : List (List Int)) {k : Nat} (h : k < ms.length) : (upTo ms k).set k (row ms k) = upTo ms (k + 1) := by
  apply List.ext_getElem?
  intro i
  unfold upTo row
  rw [List.getElem?_set]
  by_cases hik : k = i
  · subst hik
    rw [if_pos rfl, if_pos (by simp; omega), List.getElem?_append_left (by simp; omega), List.getElem?_take, if_pos (by omega)]
    simp [List.getD, h]
  · rw [if_neg hik]
    rcases Nat.lt_or_ge i k with h1 | h1
    · rw [List.getElem?_append_left (by simp; omega), List.getElem?_append_left (by simp; omega), List.getElem?_take, List.getElem?_take, if_pos h1, if_pos (by omega)]
    · rw [List.getElem?_append_right (by simp; omega), List.getElem?_append_right (by simp; omega), List.getElem?_replicate, List.getElem?_replicate]
      simp only [List.length_take]
      congr 1
      rw [eq_iff_iff]
      omega
theorem row_repl (n r : Nat) : row (List.replicate n []) r = [] := by
  unfold row List.getD
  rw [List.getElem?_replicate]
  split <;> rfl
theorem info_row : (Try.prog.info? 25).map (fun i => (i.zero, i.size, i.bytes)) = some (some (.slice none 0 0), 1, 24) := by kernel_rfl
theorem made_rows (w : World) (lo len g : Nat) (hlo : lo ≤ g) (hg : g < w.heap.size) (h : w.ownsRow lo 25 1 (.slice (some ⟨g, 0, none⟩) len len) len (madeCells (Value.slice none 0 0).cells (len * 1)).toList) : OwnM w lo w.heap.size (some ⟨g, 0, none⟩) len len (List.replicate len []) := by
  refine ⟨by simp, Nat.le_refl _, fun x hx => by cases hx; exact ⟨hlo, hg⟩, fun _ => none, fun _ => 0, ?_, fun r hr => ⟨?_, fun x hx => by cases hx⟩⟩
  · have : (Value.slice none 0 0).cells = #[Value.slice none 0 0] := rfl
    rw [this, toList_madeCells_one, Nat.mul_one] at h
    have e : heads (fun _ => none) (fun _ => 0) (List.replicate len []) = List.replicate len (.slice none 0 0) := by
      apply List.ext_getElem?
      intro i
      by_cases hi : i < len
      · rw [heads_at (by simpa using hi), row_repl, List.getElem?_replicate, if_pos hi]
        rfl
      · rw [List.getElem?_eq_none (by rw [heads_len]; simp; omega), List.getElem?_eq_none (by simp; omega)]
    rw [e]
    exact h
  · rw [row_repl]
    exact own_none0 _ _ _ _ (Nat.le_refl _)
/-- What a call leaves that makes a slice of slices. -/
def MadeM (ms : List (List Int)) (w : World) (E : Ending) (w' : World) : Prop :=
  ∃ a len cap, E = .returned (.slice a len cap) ∧ OwnM w' w.heap.size w'.heap.size a len cap ms ∧ Below w.heap.size w w'
end Go.Proofs.Ytedkeobhcpbigaa
/- What the laws do to slices of slices of integers, second part: copy, compare, mark, look for the marks. -/
namespace Go.Proofs.Ytedkeobhcpbigaa
open Go.RowKit
set_option maxHeartbeats 800000 in
theorem toM_any (W : World) (a : Option Addr) (len cap : Nat) (ms : List (List Int)) (hsm : SmallM ms) (hs : SeesM W a len ms) : Calls Try.prog 29 #[.slice a len cap] W (MadeM ms W) := by
  have HS := Lib.hid hs
  have HL := Lib.hid hs.1
  have HM := Lib.hid hsm
  have hl : len ≤ 1048576 := by unfold SmallM at hsm; have := hs.1; omega
  clear hs hsm
  obtain ⟨i0, hi, hz0, hz1, hz2⟩ := info_parts info_row
  go_enter Try.func29, Try.ntmps29
  go_wp2_with (at_make; refine wpList_make_full _ rfl _ _ 24 rfl W.heap.size 25 i0 (.slice none 0 0) 1 Try.underlying24 hi hz0 hz1 _ _ _ _ len rfl rfl rfl rfl (by rw [hz2]; omega) (by unfold maxLen; omega) (by simp) ?_; intro w1 hown1 hgrow1; have HB1 := Lib.hid ((Below.refl W.heap.size W).grown hgrow1 (Nat.le_refl _) (fun k e => by cases e)); have HO1 := Lib.hid (made_rows w1 W.heap.size len W.heap.size (Nat.le_refl _) (hown1.lt _ rfl).2 hown1); clear hown1 hgrow1)
  go_loopw [4] (fun i wr => ∃ k : Nat, k ≤ len ∧ i = .int .i64 k ∧ OwnM wr W.heap.size wr.heap.size (some ⟨W.heap.size, 0, none⟩) len len (upTo ms k) ∧ Below W.heap.size W wr) (fun i _ => len - (intOf i).toNat)
  case atStart => exact ⟨0, Nat.zero_le _, rfl, by rw [upTo_zero, HL.out]; exact HO1.out, HB1.out⟩
  case round =>
    obtain ⟨k, hk, rfl, ho, hb⟩ := hrel
    have HO := Lib.hid ho
    have HB := Lib.hid hb
    by_cases hlt : k < len
    · obtain ⟨b, off, ar, cr, rfl, hbl, hc, hle, hcm, hsr⟩ := HS.out.2 k hlt
      have hcw := (hb.cell (p := ⟨b, off + k, none⟩) hbl).trans hc
      obtain ⟨zs, hzs⟩ : ∃ zs, zs = row ms k := ⟨_, rfl⟩
      rw [← hzs] at hcw hle hsr
      have hrl : zs.length ≤ 1073741824 := by
        have := HM.out.row (r := k) (by rw [HL.out]; exact hlt)
        rw [hzs]
        omega
      have HZ := Lib.hid hzs
      have HR : Hid (Sees .i64 wr ar zs.length zs) := Lib.hid (by
        refine ⟨hsr.1, hsr.2.1, ?_⟩
        rcases hsr.2.2 with h0 | ⟨b2, o2, ha2, hlt2, hc2⟩
        · exact .inl h0
        · exact .inr ⟨b2, o2, ha2, Nat.lt_of_lt_of_le hlt2 hb.size, fun j hj => (hb.cell (p := ⟨b2, o2 + j, none⟩) hlt2).trans (hc2 j hj)⟩)
      clear hc hsr hzs hle hcm ho hb
      go_wp2_with fail
      go_at_call 33
      refine (toI_any _ _ zs.length _ zs hrl HR.out).mono ?_
      rintro e w2 ⟨a2, l2, c2, rfl, ho2, hb2⟩
      obtain rfl : zs.length = l2 := ho2.1
      have HO2 := Lib.hid ho2
      have HP := Lib.hid (HO.out.put (by have := HB.out.size; omega) hb2 ho2 k hlt)
      have HM2 := HO.out.below hb2
      obtain ⟨_, _, hin, A, C, hrow, _⟩ := HM2
      have hfz := hrow.frozenAt k
      have hcd := (hrow.cellAt k (by omega)).trans (heads_at (by rw [upTo_len _ (by rw [HL.out]; omega), HL.out]; exact hlt))
      have HB2 := Lib.hid hb2
      clear hrow hin ho2 hb2
      go_wp2
      go_roundw
      case rel =>
        have hp := HP.out.1
        have hset := upTo_set ms (k := k) (by rw [HL.out]; exact hlt)
        rw [← HZ.out] at hset
        rw [hset] at hp
        exact ⟨k + 1, by omega, by go_num, by simpa [World.setCell] using hp, below_moved HB.out HP.out.2 (Nat.le_refl _) (Nat.le_refl _)⟩
      case measure => simp [intOf]; omega
    · clear ho hb
      obtain rfl : k = len := by omega
      go_wp2
      go_ret
      have h := HO.out
      have e : upTo ms k = ms := by rw [← HL.out]; exact upTo_all ms
      rw [e] at h
      exact ⟨_, _, _, rfl, h, HB.out⟩
theorem Sees.up {w w' : World} {k : IntKind} {B : Nat} {a : Option Addr} {len : Nat} {zs : List Int} (h : Sees k w a len zs) (hB : w.heap.size ≤ B) (hb : Below B w w') : Sees k w' a len zs := by
  refine ⟨h.1, h.2.1, ?_⟩
  rcases h.2.2 with h0 | ⟨b2, o2, ha2, hlt2, hc2⟩
  · exact .inl h0
  · exact .inr ⟨b2, o2, ha2, Nat.lt_of_lt_of_le hlt2 hb.size, fun j hj => (hb.cell (p := ⟨b2, o2 + j, none⟩) (Nat.lt_of_lt_of_le hlt2 hB)).trans (hc2 j hj)⟩
set_option maxHeartbeats 800000 in
theorem eqM_yes (W : World) (a b : Option Addr) (len capa capb : Nat) (ms : List (List Int)) (hsm : SmallM ms) (ha : SeesM W a len ms) (hb : SeesM W b len ms) :
    Calls Try.prog 30 #[.slice a len capa, .slice b len capb] W fun e w' => e = .returned (.bool true) ∧ Below W.heap.size W w' := by
  have HA := Lib.hid ha
  have HZ := Lib.hid hb
  have HM := Lib.hid hsm
  have HL := Lib.hid ha.1
  have hl : len ≤ 1048576 := by unfold SmallM at hsm; have := ha.1; omega
  clear ha hb hsm
  go_enter Try.func30, Try.ntmps30
  go_wp2
  go_loopw [5] (fun i wr => ∃ k : Nat, k ≤ len ∧ i = .int .i64 k ∧ Below W.heap.size W wr) (fun i _ => len - (intOf i).toNat)
  case atStart => exact ⟨0, Nat.zero_le _, rfl, Below.refl _ _⟩
  case round =>
    obtain ⟨k, hk, rfl, hbw⟩ := hrel
    have HB := Lib.hid hbw
    by_cases hlt : k < len
    · obtain ⟨b1, o1, a1, c1, rfl, hb1, hc1, _, _, hs1⟩ := HA.out.2 k hlt
      obtain ⟨b2, o2, a2, c2, rfl, hb2, hc2, _, _, hs2⟩ := HZ.out.2 k hlt
      have hx := (hbw.cell (p := ⟨b1, o1 + k, none⟩) hb1).trans hc1
      have hy := (hbw.cell (p := ⟨b2, o2 + k, none⟩) hb2).trans hc2
      have hs1w := Lib.hid (hs1.below hbw)
      have hs2w := Lib.hid (hs2.below hbw)
      obtain ⟨zs, hzs⟩ : ∃ zs, zs = row ms k := ⟨_, rfl⟩
      rw [← hzs] at hx hy hs1w hs2w
      have hrl : zs.length ≤ 1073741824 := by
        have := HM.out.row (r := k) (by rw [HL.out]; exact hlt)
        rw [hzs]
        omega
      have hk0 : (0 : Int) ≤ (k : Int) := Int.natCast_nonneg _
      have hk1 : (k : Int) < (len : Int) := by omega
      clear hc1 hc2 hs1 hs2 hzs hbw
      go_wp2_with fail
      go_region_held3 (fun w' => w'.cell? ⟨b1, o1 + k, none⟩ = some (.slice a1 zs.length c1) ∧ w'.cell? ⟨b2, o2 + k, none⟩ = some (.slice a2 zs.length c2)) (go_keep) (first
        | (go_at_call 24; refine (eqI_yes _ _ _ zs.length _ _ zs hrl (hs1w.out.below (Below.refl _ _).drew) (hs2w.out.below (Below.refl _ _).drew)).mono ?_; rintro e w2 ⟨rfl, hb⟩; have HB2 := Lib.hid (below_up (w0 := wr) (Below.refl _ _).drew hb (Nat.le_refl _)); have hx := (HB2.out.cell (p := ⟨b1, o1 + k, none⟩) (World.block_lt_of_cell? _ _ hx)).trans hx; have hy := (HB2.out.cell (p := ⟨b2, o2 + k, none⟩) (World.block_lt_of_cell? _ _ hy)).trans hy; clear hb))
      go_wp2
      go_roundw
      case rel => exact ⟨k + 1, by omega, by go_num, HB.out.trans (HB2.out.mono HB.out.size)⟩
      case measure => simp [intOf]; omega
    · clear hbw
      go_wp2
      go_ret
      exact ⟨rfl, HB.out⟩
/-! ### Marks -/
/-- The first k rows hold the marks from m on. -/
def marked (m : Int) (ms : List (List Int)) (k : Nat) : List (List Int) := (List.range ms.length).map fun r => if r < k then marksI (m + (tot ms r : Int)) (row ms r).length else row ms r
theorem marked_len (m : Int) (ms : List (List Int)) (k : Nat) : (marked m ms k).length = ms.length := by simp [marked]
theorem marked_row {m : Int} {ms : List (List Int)} {k r : Nat} (h : r < ms.length) : row (marked m ms k) r = if r < k then marksI (m + (tot ms r : Int)) (row ms r).length else row ms r := by
  simp [marked, row, List.getD, h]
theorem marked_row_len {m : Int} {ms : List (List Int)} {k r : Nat} (h : r < ms.length) : (row (marked m ms k) r).length = (row ms r).length := by
  rw [marked_row h]
  split
  · exact marksI_len _ _
  · rfl
theorem marked_zero (m : Int) (ms : List (List Int)) : marked m ms 0 = ms := by
  apply List.ext_getElem?
  intro i
  by_cases hi : i < ms.length
  · simp [marked, row, List.getD, hi]
  · rw [List.getElem?_eq_none (by rw [marked_len]; omega), List.getElem?_eq_none (by omega)]
theorem marked_set {m : Int} {ms : List (List Int)} {k : Nat} (h : k < ms.length) : (marked m ms k).set k (marksI (m + (tot ms k : Int)) (row ms k).length) = marked m ms (k + 1) := by
  apply List.ext_getElem?
  intro i
  by_cases hi : i < ms.length
  · rw [List.getElem?_set]
    by_cases hik : k = i
    · subst hik
      rw [if_pos rfl, if_pos (by rw [marked_len]; exact h)]
      simp [marked, h]
    · rw [if_neg hik]
      have e : (i < k) = (i < k + 1) := by rw [eq_iff_iff]; omega
      simp [marked, hi, e]
  · rw [List.getElem?_eq_none (by rw [List.length_set, marked_len]; omega), List.getElem?_eq_none (by rw [marked_len]; omega)]
set_option maxHeartbeats 800000 in
theorem markM_any (W : World) (lo hi : Nat) (a : Option Addr) (len cap : Nat) (ms : List (List Int)) (m : Int) (hsm : SmallM ms) (hm0 : 0 ≤ m) (hm1 : m ≤ 2305843009213693952) (hlo : lo ≤ W.heap.size) (ho : OwnM W lo hi a len cap ms) :
    Calls Try.prog 31 #[.slice a len cap, .int .i64 m] W fun e w' => e = .returned (.int .i64 (m + (tot ms len : Int))) ∧ OwnM w' lo hi a len cap (marked m ms len) ∧ Moved lo hi W w' := by
  have HO0 := Lib.hid ho
  have HL := Lib.hid ho.1
  have HM := Lib.hid hsm
  have hl : len ≤ 1048576 := by unfold SmallM at hsm; have := ho.1; omega
  clear ho hsm
  go_enter Try.func31, Try.ntmps31
  go_wp2
  go_loopw [1, 5] (fun q i wr => ∃ (k : Nat) (x : Int), k ≤ len ∧ i = .int .i64 k ∧ q = .int .i64 x ∧ x = m + (tot ms k : Int) ∧ OwnM wr lo hi a len cap (marked m ms k) ∧ Moved lo hi W wr) (fun _ i _ => len - (intOf i).toNat)
  case atStart => exact ⟨0, m, Nat.zero_le _, rfl, rfl, by simp [tot], by rw [marked_zero]; exact HO0.out, Moved.refl _ _ _⟩
  case round =>
    obtain ⟨k, x, hk, rfl, rfl, hx, ho, hb⟩ := hrel
    have HO := Lib.hid ho
    have HB := Lib.hid hb
    have HX := Lib.hid hx
    clear hx
    by_cases hlt : k < len
    · have hkm : k < ms.length := by rw [HL.out]; exact hlt
      have hrow := HM.out.row hkm
      have HX0 : Hid (0 ≤ x ∧ x ≤ 4611686018427387904) := Lib.hid (by have := HX.out; omega)
      obtain ⟨g, ai, ci, l2, h2, rfl, hc, hin, hlens⟩ := ho.inner k hlt (Nat.le_trans hlo hb.size)
      rw [marked_row hkm, if_neg (Nat.lt_irrefl _)] at hc hin hlens
      have HIN := Lib.hid hin
      have HLN := Lib.hid hlens
      obtain ⟨n, hn⟩ : ∃ n, n = (row ms k).length := ⟨_, rfl⟩
      rw [← hn] at hc
      have hnl : n ≤ 1073741824 := by omega
      have HN := Lib.hid hn
      clear ho hb hin hlens hrow
      go_wp2_with fail
      go_at_call 25
      rw [HN.out] at hnl
      refine (markI_any _ l2 h2 _ _ _ _ x hnl HX0.out.1 HX0.out.2 HIN.out).mono ?_
      rintro e w2 ⟨rfl, ho2, hm2⟩
      have HF := Lib.hid (HLN.out w2 _ ho2 hm2)
      have HE : Hid (x + ((row ms k).length : Int) = m + (tot ms (k + 1) : Int)) := Lib.hid (by have := HX.out; simp only [tot]; omega)
      rw [HE.out]
      clear ho2 hm2 hn hnl hc
      obtain ⟨y, hy⟩ : ∃ y, y = m + (tot ms (k + 1) : Int) := ⟨_, rfl⟩
      rw [← hy]
      have HY := Lib.hid hy
      clear hy
      go_wp2
      go_roundw
      case rel =>
        have hf := HF.out
        rw [HX.out, marked_set hkm] at hf
        exact ⟨k + 1, y, by omega, by go_num, rfl, HY.out, hf.1, HB.out.trans hf.2⟩
      case measure => simp [intOf]; omega
    · obtain rfl : k = len := by omega
      clear ho hb
      go_wp2
      go_ret
      exact ⟨ret_intV HX.out, HO.out, HB.out⟩
end Go.Proofs.Ytedkeobhcpbigaa
