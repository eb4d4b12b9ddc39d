/- AloneOn: in plain words, and the model's. -/
import Derived.Test.YtldeplmiggbonaaSlQo
namespace Go.Proofs.Ytldeplmiggbonaa
open Go.RowKit
/-- The first probe whose path is the link alone, or -1. -/
def aloneV (ps : List Prb) (l : Int) : Int := match ps.findIdx? (fun p => p.2.2 == [l]) with
  | some i => (i : Int)
  | none => -1
theorem aloneV_at {ps : List Prb} {l : Int} {k : Nat} (hk : k < ps.length) (h1 : (prb ps k).2.2 = [l]) (h2 : ∀ r, r < k → (prb ps r).2.2 ≠ [l]) : aloneV ps l = (k : Int) := by
  have h : ps.findIdx? (fun p => p.2.2 == [l]) = some k := by
    rw [List.findIdx?_eq_some_iff_getElem]
    have hg : ∀ r (hr : r < ps.length), ps[r] = prb ps r := fun r hr => by simp [prb, List.getD, hr]
    exact ⟨hk, by rw [hg]; simpa using h1, fun j hj => by rw [hg]; simpa using h2 j hj⟩
  unfold aloneV
  rw [h]
theorem aloneV_none {ps : List Prb} {l : Int} (h2 : ∀ r, r < ps.length → (prb ps r).2.2 ≠ [l]) : aloneV ps l = -1 := by
  have h : ps.findIdx? (fun p => p.2.2 == [l]) = none := by
    rw [List.findIdx?_eq_none_iff]
    intro p hp
    obtain ⟨r, hr, rfl⟩ := List.getElem_of_mem hp
    have hg : ps[r] = prb ps r := by simp [prb, List.getD, hr]
    rw [hg]
    simpa using h2 r hr
  unfold aloneV
  rw [h]
theorem one_of {zs : List Int} {l : Int} (h1 : zs.length = 1) (h2 : zs.getD 0 0 = l) : zs = [l] := by
  match zs, h1 with
  | [x], _ => simp at h2; rw [h2]
theorem not_one_len {zs : List Int} {l : Int} (h1 : zs.length ≠ 1) : zs ≠ [l] := by
  rintro rfl
  simp at h1
theorem not_one_at {zs : List Int} {l : Int} (h1 : zs.getD 0 0 ≠ l) : zs ≠ [l] := by
  rintro rfl
  simp at h1
set_option maxRecDepth 20000 in
set_option maxHeartbeats 1600000 in
theorem specAlone_any (W : World) (a : Option Addr) (len cap : Nat) (ps : List Prb) (l : Int) (hl : len ≤ 1073741824) (hs : SeesQ W a len ps) :
    Calls Try.prog 34 #[.slice a len cap, .int .i64 l] W fun e w' => e = .returned (.int .i64 (aloneV ps l)) ∧ Below W.heap.size W w' := by
  have HS := Lib.hid hs
  have HL := Lib.hid hs.1
  obtain ⟨v, hv⟩ : ∃ v, v = aloneV ps l := ⟨_, rfl⟩
  have HV := Lib.hid hv
  rw [← hv]
  clear hs hv
  go_enter Try.func34, Try.ntmps34
  go_wp2
  go_loopw [5] (fun i wr => ∃ k : Nat, k ≤ len ∧ i = .int .i64 k ∧ (∀ r, r < k → (prb ps r).2.2 ≠ [l]) ∧ W = wr) (fun i _ => len - (intOf i).toNat)
  case atStart => exact ⟨0, Nat.zero_le _, rfl, fun r hr => by omega, rfl⟩
  case round =>
    obtain ⟨k, hk, rfl, hno, rfl⟩ := hrel
    have HN := Lib.hid hno
    clear hno
    by_cases hlt : k < len
    · have hkm : k < ps.length := by rw [HL.out]; exact hlt
      obtain ⟨b, off, ar, cr, rfl, hbl, hc0, hc1, hc2, hle, hcm, hsr⟩ := HS.out.2.2 k hlt
      obtain ⟨zs, hzs⟩ : ∃ zs, zs = (prb ps k).2.2 := ⟨_, rfl⟩
      rw [← hzs] at hc2 hle hsr
      have HZ := Lib.hid hzs
      have HLE := Lib.hid hle
      clear hc0 hc1 hzs hle
      by_cases h1 : zs.length = 1
      · obtain ⟨b2, o2, rfl, hb2, hcc⟩ : ∃ b2 o2, ar = some ⟨b2, o2, none⟩ ∧ b2 < W.heap.size ∧ W.cell? ⟨b2, o2, none⟩ = some (.int .i64 (zs.getD 0 0)) := by
          rcases hsr.2.2 with h0 | ⟨b2, o2, ha2, hlt2, hcc⟩
          · omega
          · exact ⟨b2, o2, ha2, hlt2, by have := hcc 0 (by omega); simpa using this⟩
        obtain ⟨z, hz⟩ : ∃ z, z = zs.getD 0 0 := ⟨_, rfl⟩
        rw [← hz] at hcc
        have HZ2 := Lib.hid hz
        have HZ1 := Lib.hid h1
        rw [h1] at hc2
        clear hsr hz h1
        by_cases hzl : z = l
        · have HE : Hid (v = (k : Int)) := Lib.hid (by rw [HV.out, aloneV_at hkm (by rw [← HZ.out]; exact one_of HZ1.out (by rw [← HZ2.out]; exact hzl)) HN.out])
          subst hzl
          go_wp2
          go_ret
          exact ⟨ret_intV HE.out.symm, Below.refl _ _⟩
        · have HN2 : Hid (∀ r, r < k + 1 → (prb ps r).2.2 ≠ [l]) := Lib.hid (fun r hr => by
            by_cases hrk : r < k
            · exact HN.out r hrk
            · obtain rfl : r = k := by omega
              rw [← HZ.out]
              exact not_one_at (by rw [← HZ2.out]; exact hzl))
          go_wp2
          go_roundw
          case rel => exact ⟨k + 1, by omega, by go_num, HN2.out, trivial⟩
          case measure => simp [intOf]; omega
      · have HN2 : Hid (∀ r, r < k + 1 → (prb ps r).2.2 ≠ [l]) := Lib.hid (fun r hr => by
          by_cases hrk : r < k
          · exact HN.out r hrk
          · obtain rfl : r = k := by omega
            rw [← HZ.out]
            exact not_one_len h1)
        obtain ⟨n, hn⟩ : ∃ n, n = zs.length := ⟨_, rfl⟩
        rw [← hn] at hc2 h1
        have hn1 : ¬ (n : Int) = 1 := by omega
        clear hsr hn
        go_wp2
        go_roundw
        case rel => exact ⟨k + 1, by omega, by go_num, HN2.out, trivial⟩
        case measure => simp [intOf]; omega
    · obtain rfl : k = len := by omega
      have HE : Hid (v = -1) := Lib.hid (by rw [HV.out, aloneV_none (by rw [HL.out]; exact HN.out)])
      go_wp2
      go_ret
      exact ⟨ret_intV HE.out.symm, Below.refl _ _⟩
end Go.Proofs.Ytldeplmiggbonaa
