/- The model's cursor over the bytes of a draw: each draw gives a number in its range, moves the cursor, and writes nothing else. -/
import Derived.Test.YtedkeobhcpbigaaProg
import Derived.WalkKit
import Derived.ProofKit
import Derived.Lib.Hide
import Derived.OpenShut
import Derived.Outline
import Derived.LoopTactic
import Derived.Deep.QuietTactic
import Derived.BigQuiet
import Derived.WalkSmall
namespace Go.Proofs.Ytedkeobhcpbigaa
open Go.RowKit
/-! ### Masks -/
theorem and_mask (x : Int) (m : Nat) (hm : m < 9223372036854775808) : 0 ≤ bits .and .i64 x (m : Int) ∧ bits .and .i64 x (m : Int) ≤ m := by
  have h2 : (BitVec.ofInt 64 (m : Int)).toNat = m := by
    rw [BitVec.ofInt_natCast, BitVec.toNat_ofNat]; exact Nat.mod_eq_of_lt (by omega)
  have h3 : (BitVec.ofInt 64 x).toNat &&& m ≤ m := Nat.and_le_right
  have e : bits .and .i64 x (m : Int) = IntKind.i64.wrap (((BitVec.ofInt 64 x).toNat &&& m : Nat) : Int) := by
    show IntKind.i64.wrap ((BitVec.ofInt 64 x &&& BitVec.ofInt 64 (m : Int)).toNat : Int) = _
    rw [BitVec.toNat_and, h2]
  rw [e, IntWalk.i64_in _ (by omega)]
  omega
theorem and_255 (x : Int) : 0 ≤ bits .and .i64 x 255 ∧ bits .and .i64 x 255 ≤ 255 := and_mask x 255 (by decide)
/-! ### The cursor -/
/-- The bytes that a cursor reads: none, or so many cells of a block that lies before it. -/
def CodeAt (W : World) (B : Nat) (a : Option Addr) (len : Nat) : Prop :=
  len = 0 ∨ ∃ b off, a = some ⟨b, off, none⟩ ∧ b < B ∧ ∀ j, j < len → ∃ c : Int, W.cell? ⟨b, off + j, none⟩ = some (.int .u8 c) ∧ 0 ≤ c ∧ c ≤ 255
def CurIs (W : World) (B : Nat) (a : Option Addr) (len cap : Nat) (i h : Int) : Prop :=
  W.cell? ⟨B, 0, none⟩ = some (.slice a len cap) ∧ W.cell? ⟨B, 1, none⟩ = some (.int .i64 i) ∧ W.cell? ⟨B, 2, none⟩ = some (.int .i64 h) ∧
    W.frozen? ⟨B, 1, none⟩ = false ∧ W.frozen? ⟨B, 2, none⟩ = false ∧ 0 ≤ i ∧ i ≤ len ∧ len ≤ 1048576 ∧ CodeAt W B a len
def Cur (W : World) (B : Nat) : Prop := ∃ (a : Option Addr) (len cap : Nat) (i h : Int), CurIs W B a len cap i h
theorem CodeAt.kept {W W' : World} {B : Nat} {a : Option Addr} {len : Nat} (h : CodeAt W B a len) (hg : W.grownBy W' (some B)) : CodeAt W' B a len := by
  rcases h with h | ⟨b, off, ha, hb, hc⟩
  · exact .inl h
  · refine .inr ⟨b, off, ha, hb, fun j hj => ?_⟩
    obtain ⟨c, h1, h2⟩ := hc j hj
    exact ⟨c, hg.cell h1 (by simp; omega), h2⟩
theorem CodeAt.kept2 {W W' : World} {B : Nat} {a : Option Addr} {len : Nat} {row : Option Nat} (h : CodeAt W B a len) (hg : W.grownBy W' row) (hr : ∀ k, row = some k → B < k) : CodeAt W' B a len := by
  rcases h with h | ⟨b, off, ha, hb, hc⟩
  · exact .inl h
  · refine .inr ⟨b, off, ha, hb, fun j hj => ?_⟩
    obtain ⟨c, h1, h2⟩ := hc j hj
    exact ⟨c, hg.cell h1 (fun e => by have := hr b e.symm; omega), h2⟩
theorem grown_cell {W W' : World} {row : Option Nat} (hg : W.grownBy W' row) {a : Addr} {v : Value} (h : W.cell? a = some v) (hne : some a.block ≠ row) : W'.cell? a = some v := hg.cell h hne
theorem grown_frozen {W W' : World} {row : Option Nat} (hg : W.grownBy W' row) {a : Addr} {v : Value} (h : W.cell? a = some v) (hne : some a.block ≠ row) {o : Nat} : W'.frozen? ⟨a.block, o, none⟩ = W.frozen? ⟨a.block, o, none⟩ :=
  World.frozen?_of_block (hg.block a.block (World.block_lt_of_cell? W a h) hne)
/-- A cursor stays while other blocks are made or written. -/
theorem Cur.kept {W W' : World} {B : Nat} {row : Option Nat} (h : Cur W B) (hg : W.grownBy W' row) (hr : ∀ k, row = some k → B < k) : Cur W' B := by
  obtain ⟨a, len, cap, i, h0, c0, c1, c2, f1, f2, g1, g2, g3, hc⟩ := h
  have hne : some B ≠ row := fun e => by have := hr B e.symm; omega
  exact ⟨a, len, cap, i, h0, hg.cell c0 hne, hg.cell c1 hne, hg.cell c2 hne, (grown_frozen hg c0 hne).trans f1, (grown_frozen hg c0 hne).trans f2, g1, g2, g3, hc.kept2 hg hr⟩
theorem Cur.lt {W : World} {B : Nat} (h : Cur W B) : B < W.heap.size := by
  obtain ⟨a, len, cap, i, h0, c0, _⟩ := h
  exact World.block_lt_of_cell? W _ c0
theorem Cur.alloc {W : World} {B : Nat} (h : Cur W B) (o : Obj) : Cur (W.alloc o) B := h.kept (World.grownBy_alloc W o none) (fun k e => by cases e)
theorem grown_drewN (w : World) (n : Nat) (row : Option Nat) : w.grownBy (w.drewN n) row := ⟨rfl, rfl, rfl, Nat.le_refl _, fun _ _ _ => rfl⟩
theorem Cur.drewN {W : World} {B : Nat} (h : Cur W B) (n : Nat) : Cur (W.drewN n) B := h.kept (grown_drewN W n none) (fun k e => by cases e)
theorem grown_trans {a b c : World} {row : Option Nat} (h : a.grownBy b row) (g : b.grownBy c row) : a.grownBy c row :=
  ⟨g.os.trans h.os, g.tape.trans h.tape, g.output.trans h.output, Nat.le_trans h.size g.size, fun k hk hne => (g.block k (Nat.lt_of_lt_of_le hk h.size) hne).trans (h.block k hk hne)⟩
theorem grown_refl (w : World) (row : Option Nat) : w.grownBy w row := ⟨rfl, rfl, rfl, Nat.le_refl _, fun _ _ _ => rfl⟩
theorem grown_setCell (w : World) (B o : Nat) (v : Value) : w.grownBy (w.setCell ⟨B, o, none⟩ v) (some B) :=
  ⟨rfl, rfl, rfl, (by simp [World.setCell]), fun k _ hne => Below.heap_setCell w _ v k (by simpa using hne)⟩
theorem grown_below {w w' : World} {B : Nat} (h : w.grownBy w' (some B)) : Below B w w' ∨ w.heap.size < B := by
  rcases Nat.lt_or_ge w.heap.size B with k | k
  · exact .inr k
  · exact .inl ⟨h.os, h.tape, h.output, h.size, fun j hj => h.block j (by omega) (by simp; omega)⟩
theorem grown_below' {w w' : World} {B : Nat} (h : w.grownBy w' (some B)) (hB : B ≤ w.heap.size) : Below B w w' := ⟨h.os, h.tape, h.output, h.size, fun j hj => h.block j (by omega) (by simp; omega)⟩
theorem CurIs.setH {W : World} {B : Nat} {a : Option Addr} {len cap : Nat} {i h : Int} (hc : CurIs W B a len cap i h) (h' : Int) : CurIs (W.setCell ⟨B, 2, none⟩ (.int .i64 h')) B a len cap i h' := by
  obtain ⟨c0, c1, c2, f1, f2, g1, g2, g3, hcode⟩ := hc
  exact ⟨by go_simp, by go_simp, by go_simp, by go_simp, by go_simp, g1, g2, g3, hcode.kept (grown_setCell _ _ _ _)⟩
theorem CurIs.setI {W : World} {B : Nat} {a : Option Addr} {len cap : Nat} {i h : Int} (hc : CurIs W B a len cap i h) (i' : Int) (h0 : 0 ≤ i') (h1 : i' ≤ len) : CurIs (W.setCell ⟨B, 1, none⟩ (.int .i64 i')) B a len cap i' h := by
  obtain ⟨c0, c1, c2, f1, f2, g1, g2, g3, hcode⟩ := hc
  exact ⟨by go_simp, by go_simp, by go_simp, by go_simp, by go_simp, h0, h1, g3, hcode.kept (grown_setCell _ _ _ _)⟩
theorem CurIs.drewN {W : World} {B : Nat} {a : Option Addr} {len cap : Nat} {i h : Int} (hc : CurIs W B a len cap i h) (n : Nat) : CurIs (W.drewN n) B a len cap i h := by
  obtain ⟨c0, c1, c2, f1, f2, g1, g2, g3, hcode⟩ := hc
  exact ⟨by go_simp, by go_simp, by go_simp, by go_simp, by go_simp, g1, g2, g3, hcode.kept (grown_drewN _ _ _)⟩
/-- What a draw of a number leaves. -/
def Drew (B : Nat) (w : World) (P : Int → Prop) (e : Ending) (w' : World) : Prop := ∃ x : Int, P x ∧ e = .returned (.int .i64 x) ∧ Cur w' B ∧ w.grownBy w' (some B)
def IsByte (x : Int) : Prop := 0 ≤ x ∧ x ≤ 255
set_option maxHeartbeats 400000 in
theorem byte_any (W : World) (B : Nat) (hc : Cur W B) : Calls Try.prog 58 #[.pointer (some ⟨B, 0, none⟩)] W (Drew B W IsByte) := by
  obtain ⟨a, len, cap, i, h, hcur⟩ := hc
  have HC := Lib.hid hcur
  obtain ⟨c0, c1, c2, f1, f2, g1, g2, g3, hcode⟩ := hcur
  by_cases hlt : i < len
  · rcases hcode with h0 | ⟨b, off, rfl, hbB, hcell⟩
    · omega
    · obtain ⟨c, hcc, hc0, hc1⟩ := hcell i.toNat (by omega)
      have hne : b ≠ B := by omega
      clear hcell
      go_enter Try.func58, Try.ntmps58
      go_wp2
      go_quiet (fail)
      go_wp2
      go_quiet (fail)
      go_wp2
      go_quiet (fail)
      go_wp2
      go_ret
      exact ⟨_, and_255 _, rfl, ⟨_, _, _, _, _, ((HC.out.setH _).drewN _).setI _ (by omega) (by omega)⟩, grown_trans (grown_trans (grown_setCell _ _ _ _) (grown_drewN _ _ _)) (grown_setCell _ _ _ _)⟩
  · clear hcode
    go_enter Try.func58, Try.ntmps58
    go_wp2
    go_quiet (fail)
    go_wp2
    go_quiet (fail)
    go_wp2
    go_ret
    exact ⟨_, and_255 _, rfl, ⟨_, _, _, _, _, ((HC.out.setH _).drewN _).drewN _⟩, grown_trans (grown_trans (grown_setCell _ _ _ _) (grown_drewN _ _ _)) (grown_drewN _ _ _)⟩
def IsBelow (n x : Int) : Prop := 0 ≤ x ∧ (x < n ∨ n ≤ 0 ∧ x = 0)
set_option maxHeartbeats 400000 in
theorem below_any (W : World) (B : Nat) (n : Int) (hn : n ≤ 16777216) (hc : Cur W B) : Calls Try.prog 39 #[.pointer (some ⟨B, 0, none⟩), .int .i64 n] W (Drew B W (IsBelow n)) := by
  have HC0 := Lib.hid hc
  clear hc
  by_cases h0 : n ≤ 0
  · go_enter Try.func39, Try.ntmps39
    go_wp2
    go_ret
    exact ⟨0, ⟨by omega, .inr ⟨h0, rfl⟩⟩, rfl, HC0.out, grown_refl _ _⟩
  · by_cases h1 : n ≤ 256
    · go_enter Try.func39, Try.ntmps39
      go_wp2_with (go_at_call 58; refine (byte_any _ B HC0.out).mono ?_; rintro e w1 ⟨x1, ⟨hx1, hy1⟩, rfl, hc1, hg1⟩; have HC1 := Lib.hid hc1; have HG1 := Lib.hid hg1; clear hc1 hg1)
      go_ret
      exact ⟨_, ⟨Int.emod_nonneg _ (by omega), .inl (Int.emod_lt_of_pos _ (by omega))⟩, rfl, HC1.out, HG1.out⟩
    · go_enter Try.func39, Try.ntmps39
      go_wp2_with fail
      go_at_call 58; refine (byte_any _ B HC0.out).mono ?_; rintro e w1 ⟨x1, ⟨hx1, hy1⟩, rfl, hc1, hg1⟩; have HC1 := Lib.hid hc1; have HG1 := Lib.hid hg1; clear hc1 hg1
      go_wp2_with fail
      go_at_call 58; refine (byte_any _ B HC1.out).mono ?_; rintro e w2 ⟨x2, ⟨hx2, hy2⟩, rfl, hc2, hg2⟩; have HC2 := Lib.hid hc2; have HG2 := Lib.hid hg2; clear hc2 hg2
      go_wp2_with fail
      go_at_call 58; refine (byte_any _ B HC2.out).mono ?_; rintro e w3 ⟨x3, ⟨hx3, hy3⟩, rfl, hc3, hg3⟩; have HC3 := Lib.hid hc3; have HG3 := Lib.hid hg3; clear hc3 hg3
      go_wp2_with fail
      go_ret
      exact ⟨_, ⟨Int.emod_nonneg _ (by omega), .inl (Int.emod_lt_of_pos _ (by omega))⟩, rfl, HC3.out, grown_trans (grown_trans HG1.out HG2.out) HG3.out⟩
/-- What a draw of a bool leaves. -/
def DrewB (B : Nat) (w : World) (e : Ending) (w' : World) : Prop := ∃ x : Bool, e = .returned (.bool x) ∧ Cur w' B ∧ w.grownBy w' (some B)
theorem once_any (W : World) (B : Nat) (n : Int) (hn : n ≤ 16777216) (hc : Cur W B) : Calls Try.prog 60 #[.pointer (some ⟨B, 0, none⟩), .int .i64 n] W (DrewB B W) := by
  go_enter Try.func60, Try.ntmps60
  go_wp2_with (go_at_call 39; refine (below_any _ B _ hn hc).mono ?_; rintro e w1 ⟨x, hx, rfl, hc1, hg1⟩; have HC1 := Lib.hid hc1; have HG1 := Lib.hid hg1; clear hc1 hg1 hc hx)
  go_ret
  exact ⟨_, rfl, HC1.out, HG1.out⟩
theorem mem_getD {l : List Int} {j : Nat} (h : j < l.length) : l.getD j 0 ∈ l := by
  simp [List.getD, h]
/-- A list of numbers in a block other than the cursor's. -/
def IntsAt (W : World) (L : Nat) (vals : List Int) : Prop := ∀ j, j < vals.length → W.cell? ⟨L, j, none⟩ = some (.int .i64 (vals.getD j 0))
theorem intsAt_new (W : World) (vals : List Int) (C : Array Value) (t : TypeId) (h : C = (vals.map (Value.int .i64)).toArray) : IntsAt (W.alloc (.cells C t)) W.heap.size vals := by
  intro j hj
  subst h
  simp [List.getD, hj]
theorem int_any (W : World) (B L n : Nat) (vals : List Int) (hlen : vals.length = n) (h1 : 1 ≤ n) (h2 : n ≤ 256) (hl : IntsAt W L vals) (hne : L ≠ B) (hc : Cur W B) :
    Calls Try.prog 62 #[.pointer (some ⟨B, 0, none⟩), .slice (some ⟨L, 0, none⟩) n n] W (Drew B W (· ∈ vals)) := by
  have HL := Lib.hid hl
  have HC := Lib.hid hc
  have HN := Lib.hid hlen
  clear hl hc hlen
  go_enter Try.func62, Try.ntmps62
  go_wp2_with fail
  go_at_call 39
  refine (below_any _ B _ (by omega) HC.out).mono ?_
  rintro e w1 ⟨x, ⟨hx0, hx1⟩, rfl, hc1, hg1⟩
  have HC1 := Lib.hid hc1
  have HG1 := Lib.hid hg1
  have hxl : x < n := by omega
  have hcx := hg1.cell (HL.out x.toNat (by rw [HN.out]; omega)) (by simp; omega)
  clear hc1 hg1 hx1
  go_wp2_with fail
  go_ret
  exact ⟨_, mem_getD (by rw [HN.out]; omega), rfl, HC1.out, HG1.out⟩
theorem Drew.mono {B : Nat} {w : World} {P Q : Int → Prop} {e : Ending} {w' : World} (h : Drew B w P e w') (hpq : ∀ x, P x → Q x) : Drew B w Q e w' := by
  obtain ⟨x, hx, h2⟩ := h
  exact ⟨x, hpq x hx, h2⟩
theorem Drew.from {B : Nat} {w0 w : World} {P : Int → Prop} {e : Ending} {w' : World} (h : Drew B w P e w') (hg : w0.grownBy w (some B)) : Drew B w0 P e w' := by
  obtain ⟨x, hx, he, hc, hg2⟩ := h
  exact ⟨x, hx, he, hc, grown_trans hg hg2⟩
/-- A literal list, laid and drawn from at once. -/
theorem int_new (W : World) (B n : Nat) (vals : List Int) (C : Array Value) (t : TypeId) (h : C = (vals.map (Value.int .i64)).toArray) (hlen : vals.length = n) (h1 : 1 ≤ n) (h2 : n ≤ 256) (hc : Cur W B) :
    Calls Try.prog 62 #[.pointer (some ⟨B, 0, none⟩), .slice (some ⟨W.heap.size, 0, none⟩) n n] (W.alloc (.cells C t)) (Drew B W (· ∈ vals)) :=
  (int_any _ B _ n vals hlen h1 h2 (intsAt_new W vals C t h) (by have := hc.lt; omega) (hc.alloc _)).mono fun _ _ hd => hd.from (World.grownBy_alloc W _ _)
def IsI64 (x : Int) : Prop := -9223372036854775808 ≤ x ∧ x ≤ 9223372036854775807
end Go.Proofs.Ytedkeobhcpbigaa
