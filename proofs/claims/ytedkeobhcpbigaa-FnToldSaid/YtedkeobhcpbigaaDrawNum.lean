/- A new cursor over the bytes of a law, and the numbers drawn from it. -/
import Derived.Test.YtedkeobhcpbigaaDraw
import Derived.Test.YtedkeobhcpbigaaRow
namespace Go.Proofs.Ytedkeobhcpbigaa
open Go.RowKit
theorem code_of {W : World} {a : Option Addr} {len cap : Nat} {zs : List Int} (h : IsRow .u8 W a len cap zs) : CodeAt W W.heap.size a len := by
  rcases row_spot h with h0 | ⟨b, off, rfl, hb, h1, h2, h3, h4, h5⟩
  · exact .inl h0
  · refine .inr ⟨b, off, rfl, hb, fun j hj => ⟨zs.getD j 0, h4 j (by omega), ?_⟩⟩
    exact bounds_u8 (h5 _ (by simp [List.getD, show j < zs.length by omega]))
theorem CodeAt.below {W W' : World} {B : Nat} {a : Option Addr} {len : Nat} (h : CodeAt W B a len) (hb : Below B W W') : CodeAt W' B a len := by
  rcases h with h | ⟨b, off, ha, hlt, hc⟩
  · exact .inl h
  · refine .inr ⟨b, off, ha, hlt, fun j hj => ?_⟩
    obtain ⟨c, h1, h2⟩ := hc j hj
    exact ⟨c, (hb.cell (p := ⟨b, off + j, none⟩) hlt).trans h1, h2⟩
theorem CodeAt.mono {W : World} {B B' : Nat} {a : Option Addr} {len : Nat} (h : CodeAt W B a len) (hb : B ≤ B') : CodeAt W B' a len := by
  rcases h with h | ⟨b, off, ha, hlt, hc⟩
  · exact .inl h
  · exact .inr ⟨b, off, ha, by omega, hc⟩
/-- What a new cursor is. -/
def NewCur (W : World) (e : Ending) (W' : World) : Prop := e = .returned (.pointer (some ⟨W.heap.size, 0, none⟩)) ∧ Cur W' W.heap.size ∧ Below W.heap.size W W' ∧ W.heap.size < W'.heap.size
theorem cur_new (W : World) (a : Option Addr) (len cap : Nat) (h : Int) (hl : len ≤ 1048576) (hc : CodeAt W W.heap.size a len) :
    NewCur W (.returned (.pointer (some ⟨W.heap.size, 0, none⟩))) (W.alloc (.cells #[.slice a len cap, .int .i64 0, .int .i64 h] 70)) := by
  refine ⟨rfl, ⟨a, len, cap, 0, h, ?_, ?_, ?_, ?_, ?_, by omega, by omega, hl, ?_⟩, (Below.refl _ _).alloc (Nat.le_refl _) _, by simp⟩
  · go_simp
  · go_simp
  · go_simp
  · go_simp
  · go_simp
  · exact hc.below ((Below.refl _ _).alloc (Nat.le_refl _) _)
theorem and_30 (x : Int) : 0 ≤ bits .and .i64 x 1073741823 ∧ bits .and .i64 x 1073741823 ≤ 1073741823 := and_mask x 1073741823 (by decide)
set_option maxHeartbeats 400000 in
set_option maxRecDepth 20000 in
theorem new_any (W : World) (a : Option Addr) (len cap : Nat) (hl : len ≤ 1048576) (hc : CodeAt W W.heap.size a len) : Calls Try.prog 38 #[.slice a len cap] W (NewCur W) := by
  have HC := Lib.hid hc
  clear hc
  go_enter Try.func38, Try.ntmps38
  go_wp2
  go_loop [3, 4] (fun h i => ∃ (k : Nat) (x : Int), k ≤ len ∧ i = .int .i64 k ∧ h = .int .i64 x ∧ 0 ≤ x ∧ x ≤ 1073741823) (fun _ i => len - (intOf i).toNat)
  case atStart => exact ⟨0, 193017 + len, Nat.zero_le _, rfl, rfl, by omega, by omega⟩
  case round =>
    obtain ⟨k, x, hk, rfl, rfl, hx0, hx1⟩ := hrel
    by_cases hlt : k < len
    · rcases HC.out with h0 | ⟨b, off, rfl, hbB, hcell⟩
      · omega
      · obtain ⟨c, hcc, hc0, hc1⟩ := hcell k hlt
        have hm := and_30 (x * 137 + c + 11)
        obtain ⟨hm0, hm1⟩ := hm
        clear hcell
        by_cases h4 : k < 4000
        · go_wp2
          go_round
          case rel => exact ⟨k + 1, _, by omega, by go_num, rfl, hm0, hm1⟩
          case measure => simp [intOf]; omega
        · go_wp2
          go_ret
          exact cur_new W _ len cap x hl HC.out
    · go_wp2
      go_ret
      exact cur_new W _ len cap x hl HC.out
/-! ### Strings from a list -/
def StrsAt (W : World) (L : Nat) (vals : List ByteArray) : Prop := ∀ j, j < vals.length → W.cell? ⟨L, j, none⟩ = some (.string (vals.getD j ByteArray.empty))
theorem strsAt_new (W : World) (vals : List ByteArray) (C : Array Value) (t : TypeId) (h : C = (vals.map Value.string).toArray) : StrsAt (W.alloc (.cells C t)) W.heap.size vals := by
  intro j hj
  subst h
  simp [List.getD, hj]
theorem mem_getS {l : List ByteArray} {j : Nat} (h : j < l.length) : l.getD j ByteArray.empty ∈ l := by
  simp [List.getD, h]
/-- What a draw of a string leaves. -/
def DrewS (B : Nat) (w : World) (P : ByteArray → Prop) (e : Ending) (w' : World) : Prop := ∃ x : ByteArray, P x ∧ e = .returned (.string x) ∧ Cur w' B ∧ w.grownBy w' (some B)
/-- A number drawn from the bytes of a law. -/
def GotI (w : World) (e : Ending) (w' : World) : Prop := ∃ x : Int, IsI64 x ∧ e = .returned (.int .i64 x) ∧ Below w.heap.size w w'
def GotII (w : World) (e : Ending) (w' : World) : Prop := ∃ x y : Int, IsI64 x ∧ IsI64 y ∧ e = .returned (.tuple #[.int .i64 x, .int .i64 y]) ∧ Below w.heap.size w w'
def GotS (n : Nat) (w : World) (e : Ending) (w' : World) : Prop := ∃ x : ByteArray, x.size ≤ n ∧ e = .returned (.string x) ∧ Below w.heap.size w w'
end Go.Proofs.Ytedkeobhcpbigaa
