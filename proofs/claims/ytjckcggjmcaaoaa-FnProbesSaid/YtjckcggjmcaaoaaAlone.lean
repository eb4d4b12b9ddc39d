/- AloneOn: in plain words, and the model's. -/
import Derived.Test.YtjckcggjmcaaoaaSlQ
namespace Go.Proofs.Ytjckcggjmcaaoaa
open Go.RowKit
/-- The first probe whose path is the link alone, or -1. -/
def aloneV (ps : List Prb) (l : Int) : Int := match ps.findIdx? (fun p => p.2.2 == [l]) with
  | some i => (i : Int)
  | none => -1
theorem aloneV_at {ps : List Prb} {l : Int} {k : Nat} (hk : k < ps.length) (h1 : (prb ps k).2.2 = [l]) (h2 : ∀ r, r < k → (prb ps r).2.2 ≠ [l]) : aloneV ps l = (k : Int) := by
  have h : ps.findIdx? (fun p => p.2.2 == [l]) = some k := by
    rw [List.findIdx?_eq_some_iff_getElem]
    have hg : ∀ r (hr : r < ps.length), ps[r] = prb ps r := fun r hr => by simp [prb, List.getD, hr]
    exact ⟨hk, by rw [hg]; simpa using h1, fun j hj => by rw [hg]; simpa using h2 j hj⟩
  unfold aloneV
  rw [h]
theorem aloneV_none {ps : List Prb} {l : Int} (h2 : ∀ r, r < ps.length → (prb ps r).2.2 ≠ [l]) : aloneV ps l = -1 := by
  have h : ps.findIdx? (fun p => p.2.2 == [l]) = none := by
    rw [List.findIdx?_eq_none_iff]
    intro p hp
    obtain ⟨r, hr, rfl⟩ := List.getElem_of_mem hp
    have hg : ps[r] = prb ps r := by simp [prb, List.getD, hr]
    rw [hg]
    simpa using h2 r hr
  unfold aloneV
  rw [h]
theorem one_of {zs : List Int} {l : Int} (h1 : zs.length = 1) (h2 : zs.getD 0 0 = l) : zs = [l] := by
  match zs, h1 with
  | [x], _ => simp at h2; rw [h2]
theorem not_one_len {zs : List Int} {l : Int} (h1 : zs.length ≠ 1) : zs ≠ [l] := by
  rintro rfl
  simp at h1
theorem not_one_at {zs : List Int} {l : Int} (h1 : zs.getD 0 0 ≠ l) : zs ≠ [l] := by
  rintro rfl
  simp at h1
end Go.Proofs.Ytjckcggjmcaaoaa
