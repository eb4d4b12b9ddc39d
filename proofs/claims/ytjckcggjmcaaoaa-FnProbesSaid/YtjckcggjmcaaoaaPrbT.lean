/- What the law on probes asks of all probes of hosts. -/
import Derived.Test.YtjckcggjmcaaoaaPsG
import Derived.Test.YtjckcggjmcaaoaaAreQ
import Derived.Test.YtjckcggjmcaaoaaNetsF
import Derived.Test.YtjckcggjmcaaoaaSeenF
import Derived.Test.YtjckcggjmcaaoaaAlone
import Derived.Test.YtjckcggjmcaaoaaMatQ
namespace Go.Proofs.Ytjckcggjmcaaoaa
open Go.RowKit
/-- A probe goes along a route of its network. -/
def Routed (n : Int) (ls : List (Int × Int)) (p : Prb) : Prop := p.2.2 = routeV n ls p.1 p.2.1 ∧ ¬ p.2.2.length = 0
theorem probe_routed {n : Int} {ls : List (Int × Int)} (x y : Int) (h : (probeV n ls x y).2 = true) : Routed n ls (probeV n ls x y).1 := by
  unfold probeV at h ⊢
  split
  · rename_i h2
    rw [if_pos h2] at h
    cases h
  · rename_i h2
    refine ⟨rfl, fun e => h2 (List.eq_nil_of_length_eq_zero e)⟩
theorem probesV_routed (n : Int) (ls : List (Int × Int)) (hs : List Int) : ∀ p ∈ probesV n ls hs, Routed n ls p := probesV_all probe_routed
theorem routed_leads {n : Int} {ls : List (Int × Int)} {p : Prb} (h : Routed n ls p) : leadsB ls p = true ∧ netB n ls = true := by
  obtain ⟨x, y, zs⟩ := p
  obtain ⟨h1, h2⟩ := h
  simp only at h1 h2
  have h3 := route_path (n := n) (ls := ls) (a := x) (b := y) (by rw [← h1]; exact h2)
  rw [← h1] at h3
  exact ⟨by rw [leads_cons h2]; exact h3.1, h3.2⟩
theorem netB_six {n : Int} {ls : List (Int × Int)} (h : netB n ls = true) : 1 ≤ ls.length ∧ ls.length ≤ 6 := by
  unfold netB at h
  simp only [Bool.and_eq_true] at h
  have := inR_true.1 h.2.1
  omega
theorem routed_links {n : Int} {ls : List (Int × Int)} {p : Prb} (h : Routed n ls p) : p.2.2.Nodup ∧ ∀ x ∈ p.2.2, 0 ≤ x ∧ x < (ls.length : Int) := by
  obtain ⟨h1, h2⟩ := h
  rcases route_cases n ls p.1 p.2.1 with e | ⟨_, h4⟩
  · rw [h1, e] at h2
    exact absurd rfl h2
  · rw [← h1] at h4
    exact ⟨best_nodup h4, endO_bound h4.1⟩
/-- Probes of hosts are probes. -/
theorem probesV_are {n : Int} {ls : List (Int × Int)} {hs : List Int} (h : ¬ (probesV n ls hs).length = 0) : areQ n ls (probesV n ls hs) = true := by
  have hr := probesV_routed n ls hs
  have hall : (probesV n ls hs).all (leadsB ls) = true := by
    rw [List.all_eq_true]
    exact fun p hp => (routed_leads (hr p hp)).1
  have hnet : netB n ls = true := (routed_leads (hr _ (prb_mem (r := 0) (by omega)))).2
  rw [areQ_all hall, hnet, decide_eq_true (probesV_len n ls hs)]
  rfl
theorem rowA_routed {n : Int} {ls : List (Int × Int)} {p : Prb} (h : Routed n ls p) : rowA p.2.2 (ls.length : Int) = rowL p.2.2 ls.length := by
  have h6 := netB_six (routed_leads h).2
  unfold rowA
  rw [if_pos (inR_true.2 (by omega)), Int.toNat_natCast]
/-- The row of a probe has as many ones as its path has links. -/
theorem routed_sum {n : Int} {ls : List (Int × Int)} {p : Prb} (h : Routed n ls p) : sumN (rowA p.2.2 (ls.length : Int)) (rowA p.2.2 (ls.length : Int)).length = (p.2.2.length : Int) := by
  rw [rowA_routed h, rowL_len]
  exact row_sum _ _ (routed_links h).1 (routed_links h).2
theorem rowL_get {p : List Int} {m j : Nat} (h : j < m) : (rowL p m).getD j 0 = if hasB p (j : Int) = true then 1 else 0 := by simp [rowL, List.getD, h]
/-- And a one for each of them. -/
theorem routed_one {n : Int} {ls : List (Int × Int)} {p : Prb} (h : Routed n ls p) {k : Nat} (hk : k < p.2.2.length) : ∃ m : Nat, p.2.2.getD k 0 = (m : Int) ∧ m < (rowA p.2.2 (ls.length : Int)).length ∧ (rowA p.2.2 (ls.length : Int)).getD m 0 = 1 := by
  have hm := getD_mem (l := p.2.2) (j := k) hk
  have hb := (routed_links h).2 _ hm
  refine ⟨(p.2.2.getD k 0).toNat, by omega, ?_, ?_⟩
  · rw [rowA_routed h, rowL_len]
    omega
  · rw [rowA_routed h]
    have hlt : (p.2.2.getD k 0).toNat < ls.length := by omega
    have hh : hasB p.2.2 (((p.2.2.getD k 0).toNat : Nat) : Int) = true := by
      rw [show (((p.2.2.getD k 0).toNat : Nat) : Int) = p.2.2.getD k 0 by omega]
      exact decide_eq_true hm
    rw [rowL_get hlt, if_pos hh]
/-- No more links are seen than there are. -/
theorem seen_few (n : Int) (ls : List (Int × Int)) (hs : List Int) : (seenV (probesV n ls hs)).length ≤ ls.length := by
  have hb : ∀ x ∈ seenV (probesV n ls hs), 0 ≤ x ∧ x < (ls.length : Int) := fun x hx => by
    obtain ⟨r, hr, hx⟩ := seen_mem.1 hx
    exact (routed_links (probesV_routed n ls hs _ (prb_mem hr))).2 x hx
  rcases asc_len (seen_asc _) hb with h | h
  · omega
  · rw [h]; exact Nat.zero_le _
theorem alone_cases (ps : List Prb) (l : Int) : aloneV ps l = -1 ∨ ∃ k : Nat, aloneV ps l = (k : Int) ∧ k < ps.length ∧ (prb ps k).2.2 = [l] := by
  unfold aloneV
  split
  · rename_i i h
    right
    rw [List.findIdx?_eq_some_iff_getElem] at h
    obtain ⟨h1, h2, _⟩ := h
    refine ⟨i, rfl, h1, ?_⟩
    have : ps[i] = prb ps i := by simp [prb, List.getD, h1]
    rw [this] at h2
    simpa using h2
  · exact .inl rfl
end Go.Proofs.Ytjckcggjmcaaoaa
