/- The program's key stream: a function that counts its calls. -/
import Derived.Test.YtklookaggnohdaaKeyed
import Derived.Test.YtklookaggnohdaaEncI
namespace Go.Proofs.Ytklookaggnohdaa
open Go.RowKit
/-- What the stream adds at a place. -/
def strm (key : Int) (i : Nat) : Int := keyV key [(i : Int)] % 256
theorem strm_bd (key : Int) (i : Nat) : 0 ≤ strm key i ∧ strm key i ≤ 255 := by unfold strm; omega
/-- The two variables that the stream captures: the key and the count. -/
def StrmAt (w : World) (B1 B2 : Nat) (key : Int) (i : Nat) : Prop :=
  w.cell? ⟨B1, 0, none⟩ = some (.int .i64 key) ∧ w.cell? ⟨B2, 0, none⟩ = some (.int .i64 i) ∧ w.frozen? ⟨B2, 0, none⟩ = false ∧ B1 < B2 ∧ B2 < w.heap.size
theorem StrmAt.below {w w' : World} {B1 B2 B : Nat} {key : Int} {i : Nat} (h : StrmAt w B1 B2 key i) (hb : Below B w w') (hB : B2 < B) : StrmAt w' B1 B2 key i := by
  obtain ⟨h1, h2, h3, h4, h5⟩ := h
  exact ⟨(hb.cell (p := ⟨B1, 0, none⟩) (Nat.lt_trans h4 hB)).trans h1, (hb.cell (p := ⟨B2, 0, none⟩) hB).trans h2, (hb.frozen (p := ⟨B2, 0, none⟩) hB).trans h3, h4, Nat.lt_of_lt_of_le h5 hb.size⟩
theorem StrmAt.moved {w w' : World} {B1 B2 lo hi : Nat} {key : Int} {i : Nat} (h : StrmAt w B1 B2 key i) (hm : Moved lo hi w w') (hB : B2 < lo) : StrmAt w' B1 B2 key i := by
  obtain ⟨h1, h2, h3, h4, h5⟩ := h
  have hb : ∀ k, k ≤ B2 → w'.heap[k]? = w.heap[k]? := fun k hk => hm.block k (by omega) (by omega)
  exact ⟨(World.cell?_of_block (a := ⟨B1, 0, none⟩) (hb B1 (by omega))).trans h1, (World.cell?_of_block (a := ⟨B2, 0, none⟩) (hb B2 (by omega))).trans h2, (World.frozen?_of_block (a := ⟨B2, 0, none⟩) (hb B2 (by omega))).trans h3, h4, Nat.lt_of_lt_of_le h5 hm.size⟩
theorem StrmAt.drew {w : World} {B1 B2 : Nat} {key : Int} {i : Nat} (h : StrmAt w B1 B2 key i) : StrmAt w.drew B1 B2 key i := h.below (B := w.heap.size) (Below.refl _ _).drew h.2.2.2.2
theorem Moved.cell {lo hi b o : Nat} {w w' : World} (h : Moved lo hi w w') (h1 : b < w.heap.size) (h2 : ¬ (lo ≤ b ∧ b < hi)) : w'.cell? ⟨b, o, none⟩ = w.cell? ⟨b, o, none⟩ := World.cell?_of_block (a := ⟨b, o, none⟩) (h.block b h1 h2)
theorem Moved.frozen {lo hi b o : Nat} {w w' : World} (h : Moved lo hi w w') (h1 : b < w.heap.size) (h2 : ¬ (lo ≤ b ∧ b < hi)) : w'.frozen? ⟨b, o, none⟩ = w.frozen? ⟨b, o, none⟩ := World.frozen?_of_block (a := ⟨b, o, none⟩) (h.block b h1 h2)
/-- What a new stream is. -/
def NewStrm (key : Int) (w : World) (e : Ending) (w' : World) : Prop :=
  e = .returned (.func (.func 62) #[] #[.pointer (some ⟨w.heap.size, 0, none⟩), .pointer (some ⟨w.heap.size + 1, 0, none⟩)]) ∧ StrmAt w' w.heap.size (w.heap.size + 1) key 0 ∧ Below w.heap.size w w' ∧ w'.heap.size = w.heap.size + 2
theorem keyStream_any (W : World) (key : Int) : Calls Try.prog 48 #[.int .i64 key] W (NewStrm key W) := by
  go_enter Try.func48, Try.ntmps48
  go_wp2
  go_ret
  refine ⟨rfl, ⟨?_, ?_, ?_, by omega, by simp⟩, ((Below.refl _ _).alloc (Nat.le_refl _) _).alloc (by simp) _, by simp⟩
  · go_simp
  · go_simp
  · go_simp
theorem setCell_moved (w : World) (B : Nat) (v : Value) : Moved B (B + 1) w (w.setCell ⟨B, 0, none⟩ v) :=
  ⟨rfl, rfl, rfl, by simp [World.setCell], fun k _ hne => Below.heap_setCell w _ v k (by simp; omega)⟩
/-- What a call of the stream leaves. -/
def Nexted (key : Int) (i B1 B2 : Nat) (w : World) (e : Ending) (w' : World) : Prop :=
  e = .returned (.int .u8 (strm key i)) ∧ StrmAt w' B1 B2 key (i + 1) ∧ Moved B2 (B2 + 1) w w'
set_option maxHeartbeats 800000 in
theorem next_any (W : World) (B1 B2 : Nat) (key : Int) (i : Nat) (hk0 : -9223372036854775808 ≤ key) (hk1 : key ≤ 9223372036854775807) (hi : i ≤ 1073741824) (hs : StrmAt W B1 B2 key i) :
    Calls Try.prog 62 #[.pointer (some ⟨B1, 0, none⟩), .pointer (some ⟨B2, 0, none⟩)] W (Nexted key i B1 B2 W) := by
  have HS := Lib.hid hs
  obtain ⟨h1, h2, h3, h4, h5⟩ := hs
  go_enter Try.func62, Try.ntmps62
  go_wp2_with fail
  go_at_call 19
  refine (keyed_any _ key _ _ _ [(i : Int)] hk0 hk1 (by decide) (sees_one (WalkArith.wf_i64 (by omega)) W _)).mono ?_
  rintro e w1 ⟨rfl, hb⟩
  have HS1 := Lib.hid ((HS.out.below ((Below.refl _ _).alloc (Nat.le_refl _) _) h5).below hb (by simp; omega))
  have HB1 := Lib.hid (((Below.refl W.heap.size W).alloc (Nat.le_refl _) (.cells #[.int .i64 (i : Int)] 3)).trans (hb.mono (by simp)))
  have hx := keyV_bd key [(i : Int)]
  have HX : Hid (strm key i = keyV key [(i : Int)] % 256) := Lib.hid rfl
  obtain ⟨x, hxe⟩ : ∃ x, x = keyV key [(i : Int)] := ⟨_, rfl⟩
  rw [← hxe] at hx HX
  have HXE := Lib.hid hxe
  obtain ⟨hx0, hx1⟩ := hx
  have hc1 := HS1.out.1
  have hc2 := HS1.out.2.1
  have hf2 := HS1.out.2.2.1
  clear h1 h2 h3 hb
  rw [← hxe]
  clear hxe
  have hz := HS1.out.2.2.2.2
  have hne : B1 ≠ B2 := by omega
  go_wp2
  go_ret
  refine ⟨?_, ⟨?_, ?_, ?_, h4, ?_⟩, ?_⟩
  · exact ret_int HX.out.symm
  · go_simp
  · go_simp
  · go_simp
  · simpa [World.setCell] using hz
  · exact (Moved.of_below HB1.out).trans (setCell_moved _ _ _)
end Go.Proofs.Ytklookaggnohdaa
