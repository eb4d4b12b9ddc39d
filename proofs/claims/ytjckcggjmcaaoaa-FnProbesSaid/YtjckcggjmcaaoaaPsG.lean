/- What is true of all probes of hosts. -/
import Derived.Test.YtjckcggjmcaaoaaPsF
import Derived.Test.YtjckcggjmcaaoaaSlW
namespace Go.Proofs.Ytjckcggjmcaaoaa
open Go.RowKit
theorem stepQ_all {n : Int} {ls : List (Int × Int)} {G : Prb → Prop} (hg : ∀ x y, (probeV n ls x y).2 = true → G (probeV n ls x y).1) {acc : List Prb} {x y : Int} (h : ∀ p ∈ acc, G p) : ∀ p ∈ stepQ n ls acc x y, G p := by
  unfold stepQ
  split
  · rename_i h2
    intro p hp
    rcases List.mem_append.1 hp with hp | hp
    · exact h p hp
    · rw [List.mem_singleton] at hp
      subst hp
      exact hg x y h2.1
  · exact h
theorem inQ_all {n : Int} {ls : List (Int × Int)} {G : Prb → Prop} (hg : ∀ x y, (probeV n ls x y).2 = true → G (probeV n ls x y).1) {x : Int} : ∀ {l : List Int} {acc : List Prb}, (∀ p ∈ acc, G p) → ∀ p ∈ inQ n ls x l acc, G p
  | [], _, h => h
  | _ :: r, _, h => inQ_all hg (l := r) (stepQ_all hg h)
theorem outQ_all {n : Int} {ls : List (Int × Int)} {hs : List Int} {G : Prb → Prop} (hg : ∀ x y, (probeV n ls x y).2 = true → G (probeV n ls x y).1) : ∀ i, ∀ p ∈ outQ n ls hs i, G p
  | 0 => fun _ h => by simp [outQ] at h
  | i + 1 => inQ_all hg (outQ_all hg i)
theorem probesV_all {n : Int} {ls : List (Int × Int)} {hs : List Int} {G : Prb → Prop} (hg : ∀ x y, (probeV n ls x y).2 = true → G (probeV n ls x y).1) : ∀ p ∈ probesV n ls hs, G p := outQ_all hg _
theorem probesV_len (n : Int) (ls : List (Int × Int)) (hs : List Int) : (probesV n ls hs).length ≤ 12 := outQ_len _
theorem probesV_small (n : Int) (ls : List (Int × Int)) (hs : List Int) : SmallM (pathsOf (probesV n ls hs)) := by
  have h1 := probesV_len n ls hs
  have h2 : ∀ i, i < (pathsOf (probesV n ls hs)).length → (row (pathsOf (probesV n ls hs)) i).length ≤ 8 := fun i hi => by
    rw [pathsOf_len] at hi
    rw [pathsOf_row hi]
    exact probesV_all (G := fun p => p.2.2.length ≤ 8) (fun x y _ => probe_len n ls x y) _ (prb_mem hi)
  have h3 := tot_cap h2 _ (Nat.le_refl _)
  unfold SmallM
  rw [pathsOf_len] at h3 ⊢
  omega
end Go.Proofs.Ytjckcggjmcaaoaa
