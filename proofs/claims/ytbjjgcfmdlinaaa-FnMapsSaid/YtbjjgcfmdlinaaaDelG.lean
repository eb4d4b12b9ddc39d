/- Numbers of the call's own, those for which a plain function holds struck, by Go's library: any function. -/
import Derived.Test.YtbjjgcfmdlinaaaShelfD
import Derived.Test.YtbjjgcfmdlinaaaIntW
import Derived.Test.YtbjjgcfmdlinaaaCtfI
import Derived.Lib.OwnBridge
namespace Go.Proofs.Ytbjjgcfmdlinaaa
open Go.RowKit Go.Sort Go.Shelf Go.Lib
theorem says_gives {K : Nat} {p : Int → Bool} (hK : Plain K) (hg : ∀ (x : Int) (w : World), FnGives Try.prog K #[] #[.int .i64 x] (.bool (p x)) w) : SaysI K p := by
  refine ⟨hK, fun x w => (hg x w).mono ?_⟩
  rintro e w' ⟨rfl, q, rfl⟩
  exact ⟨rfl, ⟨rfl, rfl, rfl, Nat.le_refl _, fun _ _ => rfl⟩⟩
theorem holds_ownG {w : World} {g : Nat} {zs : List Int} (h : ∀ j, j < zs.length → w.cell? ⟨g, j, none⟩ = some (.int .i64 (zs.getD j 0))) (hf : ∀ j, w.frozen? ⟨g, j, none⟩ = false) : Holds (Value.int .i64) w g 0 zs.toArray := by
  intro j hj
  have hj2 : j < zs.length := by simpa using hj
  rw [Nat.zero_add, h j hj2]
  refine ⟨?_, hf j⟩
  simp [List.getD, hj2]
theorem strikeG_any {K : Nat} {p : Int → Bool} (hK : Plain K) (hg : ∀ (x : Int) (w : World), FnGives Try.prog K #[] #[.int .i64 x] (.bool (p x)) w) (W : World) (lo hi : Nat) (g : Nat) (len cap : Nat) (zs : List Int) (hl : len ≤ 1048576) (ho : Own .i64 3 W lo hi (some ⟨g, 0, none⟩) len cap zs) (hlc : len ≤ cap) :
    Calls Try.prog 72 #[.slice (some ⟨g, 0, none⟩) len cap, .func (.func K) #[] #[]] W fun E w' => E = .returned (.slice (some ⟨g, 0, none⟩) (zs.filter (fun x => !p x)).length cap) ∧ Own .i64 3 w' lo hi (some ⟨g, 0, none⟩) (zs.filter (fun x => !p x)).length cap (zs.filter (fun x => !p x)) ∧ Moved lo hi W w' := by
  have hz := ho.1
  have eg : ∀ args w, (callFunc K args).run Try.prog w = .ok (.enter K args) w := hK
  rcases ho.spot with ⟨hn, _, _⟩ | ⟨q, hq, hg0, hg1, hlc2, hcm, hc, hf⟩
  · cases hn
  · obtain rfl : g = q := by simpa using hq
    subst hz
    have hle : (zs.filter (fun x => !p x)).length ≤ zs.length := List.length_filter_le _ _
    have hcon := AnyE.slices_DeleteFunc Try.delI (Value.int .i64) (fun _ => rfl) p K #[] eg 0 (fun _ => by kernel_rfl) g 0 cap zs.toArray W (fun W' x _ => hg x W') (fun n os dk x _ => hg x _) (holds_ownG hc hf) (by simp; omega) (by simpa using hlc)
    simp only [List.size_toArray] at hcon
    refine hcon.mono ?_
    rintro E w' ⟨rfl, q2, rfl⟩
    have hown := Lib.ownsRow_putRow (q := q2) (k := (zs.filter (fun x => !p x)).length) (ys := zs.filter (fun x => !p x) ++ List.replicate (zs.length - (zs.filter (fun x => !p x)).length) 0) ho.2.2.2.1 (by simp; omega) hle
    rw [List.take_left] at hown
    refine ⟨rfl, ⟨rfl, fun x hx => ho.2.1 x ((List.mem_filter.1 hx).1), ?_, hown, ho.2.2.2.2⟩, ⟨rfl, rfl, rfl, ?_, fun k hk hne => ?_⟩⟩
    · simpa [putRow, mapBlock, Sort.ahead] using ho.2.2.1
    · simp [putRow, mapBlock, Sort.ahead]
    · simp [putRow, mapBlock, Sort.ahead, Array.getElem?_modify, show g ≠ k by omega]
set_option maxHeartbeats 1600000 in
theorem strikeGE_any {K : Nat} {p : Int → Bool} (hK : SaysI K p) (W : World) (a : Option Addr) (cap : Nat) :
    Calls Try.prog 72 #[.slice a 0 cap, .func (.func K) #[] #[]] W fun E w' => E = .returned (.slice a 0 cap) ∧ Below W.heap.size W w' := by
  go_enter Try.func72, Try.ntmps72
  have hI : idxG p [] = -1 := rfl
  have HI := Lib.hid hI
  have HK := Lib.hid hK
  clear hI hK
  go_wp2_with (go_at_call 87; refine (idxI_any HK.out _ a 0 cap [] (by decide) ⟨rfl, (fun _ h => by cases h), .inl rfl⟩).mono ?_; rw [HI.out]; rintro e w2 ⟨rfl, hb2⟩; have HB2 := Lib.hid hb2; clear hb2)
  go_ret
  exact ⟨rfl, HB2.out⟩
end Go.Proofs.Ytbjjgcfmdlinaaa
