/- Numbers of the call's own, those for which a plain function holds struck, by Go's library. -/
import Derived.Test.YtgninjdnfidpcaaShelfD
import Derived.Test.YtgninjdnfidpcaaIntW
import Derived.Test.YtgninjdnfidpcaaBrU
import Derived.Test.YtgninjdnfidpcaaCtfI
import Derived.Lib.OwnBridge
namespace Go.Proofs.Ytgninjdnfidpcaa
open Go.RowKit Go.Sort Go.Shelf Go.Lib
theorem noNext_gives (x : Int) (w : World) : FnGives Try.prog 56 #[] #[.int .i64 x] (.bool (decide (x = -1))) w := by
  show Calls Try.prog 56 #[.int .i64 x] w _
  go_enter Try.func56, Try.ntmps56
  go_wp2
  all_goals (go_ret; exact ⟨by simp_all <;> rfl, 0, rfl⟩)
theorem noNext_says : SaysI 56 (fun x => decide (x = -1)) := by
  refine ⟨fun _ _ => by kernel_rfl, fun x w => (noNext_gives x w).mono ?_⟩
  rintro e w' ⟨rfl, q, rfl⟩
  exact ⟨rfl, ⟨rfl, rfl, rfl, Nat.le_refl _, fun _ _ => rfl⟩⟩
theorem holds_ownD {w : World} {g : Nat} {zs : List Int} (h : ∀ j, j < zs.length → w.cell? ⟨g, j, none⟩ = some (.int .i64 (zs.getD j 0))) (hf : ∀ j, w.frozen? ⟨g, j, none⟩ = false) : Holds (Value.int .i64) w g 0 zs.toArray := by
  intro j hj
  have hj2 : j < zs.length := by simpa using hj
  rw [Nat.zero_add, h j hj2]
  refine ⟨?_, hf j⟩
  simp [List.getD, hj2]
theorem strike_any (W : World) (lo hi : Nat) (g : Nat) (len cap : Nat) (zs : List Int) (hl : len ≤ 1048576) (ho : Own .i64 3 W lo hi (some ⟨g, 0, none⟩) len cap zs) (hlc : len ≤ cap) (h0 : len ≠ 0) :
    Calls Try.prog 53 #[.slice (some ⟨g, 0, none⟩) len cap, .func (.func 56) #[] #[]] W fun E w' => E = .returned (.slice (some ⟨g, 0, none⟩) (struck zs).length cap) ∧ Own .i64 3 w' lo hi (some ⟨g, 0, none⟩) (struck zs).length cap (struck zs) ∧ Moved lo hi W w' := by
  have hz := ho.1
  have eg : ∀ args w, (callFunc 56 args).run Try.prog w = .ok (.enter 56 args) w := fun _ _ => by kernel_rfl
  rcases ho.spot with ⟨hn, _, _⟩ | ⟨q, hq, hg0, hg1, hlc2, hcm, hc, hf⟩
  · cases hn
  · obtain rfl : g = q := by simpa using hq
    subst hz
    have hle : (struck zs).length ≤ zs.length := List.length_filter_le _ _
    have hcon := AnyE.slices_DeleteFunc Try.delI (Value.int .i64) (fun _ => rfl) (fun x => decide (x = -1)) 56 #[] eg 0 (fun _ => by kernel_rfl) g 0 cap zs.toArray W (fun W' x _ => noNext_gives x W') (fun n os dk x _ => noNext_gives x _) (holds_ownD hc hf) (by simp; omega) (by simpa using hlc)
    simp only [List.size_toArray] at hcon
    refine hcon.mono ?_
    rintro E w' ⟨rfl, q2, rfl⟩
    have hown := Lib.ownsRow_putRow (q := q2) (k := (struck zs).length) (ys := struck zs ++ List.replicate (zs.length - (struck zs).length) 0) ho.2.2.2.1 (by simp; omega) hle
    rw [List.take_left] at hown
    refine ⟨rfl, ⟨rfl, fun x hx => ho.2.1 x ((List.mem_filter.1 hx).1), ?_, hown, ho.2.2.2.2⟩, ⟨rfl, rfl, rfl, ?_, fun k hk hne => ?_⟩⟩
    · simpa [putRow, mapBlock, Sort.ahead] using ho.2.2.1
    · simp [putRow, mapBlock, Sort.ahead]
    · simp [putRow, mapBlock, Sort.ahead, Array.getElem?_modify, show g ≠ k by omega]
set_option maxHeartbeats 1600000 in
theorem strikeE_any (W : World) (a : Option Addr) (cap : Nat) :
    Calls Try.prog 53 #[.slice a 0 cap, .func (.func 56) #[] #[]] W fun E w' => E = .returned (.slice a 0 cap) ∧ Below W.heap.size W w' := by
  go_enter Try.func53, Try.ntmps53
  have hI : idxG (fun x : Int => decide (x = -1)) [] = -1 := rfl
  have HI := Lib.hid hI
  clear hI
  go_wp2_with (go_at_call 88; refine (idxI_any noNext_says _ a 0 cap [] (by decide) ⟨rfl, (fun _ h => by cases h), .inl rfl⟩).mono ?_; rw [HI.out]; rintro e w2 ⟨rfl, hb2⟩; have HB2 := Lib.hid hb2; clear hb2)
  go_ret
  exact ⟨rfl, HB2.out⟩
end Go.Proofs.Ytgninjdnfidpcaa
