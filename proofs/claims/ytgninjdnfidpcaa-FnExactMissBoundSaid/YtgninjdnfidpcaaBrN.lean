/- NextFor, the model's. -/
import Derived.Test.YtgninjdnfidpcaaBrM
namespace Go.Proofs.Ytgninjdnfidpcaa
open Go.RowKit
theorem sees_pair {x y : Int} (hx : (Lit.int .i64 x).wf = true) (hy : (Lit.int .i64 y).wf = true) (w : World) (t : TypeId) : Sees .i64 (w.alloc (.cells #[.int .i64 x, .int .i64 y] t)) (some ⟨w.heap.size, 0, none⟩) 2 [x, y] := by
  refine ⟨rfl, fun n hn => ?_, .inr ⟨_, _, rfl, by simp, fun j hj => ?_⟩⟩
  · simp only [List.mem_cons, List.not_mem_nil, or_false] at hn
    rcases hn with rfl | rfl
    · exact hx
    · exact hy
  · have h2 : j = 0 ∨ j = 1 := by omega
    rcases h2 with rfl | rfl <;> simp
theorem mod_next {nd : Int} {nx : List Int} {f : Int} (h : brOk nd nx = true) : modV (hashV [nd, f]) (nx.length : Int) = (nextAt nd nx f : Int) := by
  have hl := brOk_len h
  unfold modV nextAt
  rw [if_pos (inR_true.2 (by omega))]
  have h1 := Int.emod_nonneg (hashV [nd, f]) (b := (nx.length : Int)) (by omega)
  omega
set_option maxRecDepth 20000 in
set_option maxHeartbeats 3200000 in
theorem specNext_any (W : World) (nd : Int) (a : Option Addr) (len cap : Nat) (nx : List Int) (f : Int) (hl : len ≤ 1073741824) (hlc : len ≤ cap) (hs : Sees .i64 W a len nx) (hn : (Lit.int .i64 nd).wf = true) (hf : (Lit.int .i64 f).wf = true) :
    Calls Try.prog 25 #[.agg #[.int .i64 nd, .slice a len cap], .int .i64 f] W fun e w' => e = .returned (.int .i64 (nextV nd nx f)) ∧ Below W.heap.size W w' := by
  have HL := Lib.hid hs.1
  obtain ⟨V, hV⟩ : ∃ V, V = W.alloc (.cells #[.int .i64 nd, .slice a len cap] 26) := ⟨_, rfl⟩
  have HBV : Hid (Below W.heap.size W V) := Lib.hid (by rw [hV]; exact below_newB _ _)
  have HN := Lib.hid (show BrAt V W.heap.size nd a len cap by rw [hV]; exact br_new _ _ _ _ _ _)
  have HS := Lib.hid (hs.below HBV.out)
  clear hs
  obtain ⟨v, hv⟩ : ∃ v : Int, v = nextV nd nx f := ⟨_, rfl⟩
  rw [← hv]
  have HV := Lib.hid hv
  have c0 := HN.out.c0
  have c1 := HN.out.c1
  clear hv
  cases h1 : brOk nd nx
  · have H1 := Lib.hid h1
    have HE : Hid (-1 = v) := Lib.hid (by rw [HV.out]; unfold nextV; rw [h1]; rfl)
    clear h1
    go_enter Try.func25, Try.ntmps25
    go_wp2_with fail
    rw [← hV]
    clear hV
    go_wp2_with (go_at_call 21; refine (specBr_any _ nd a len cap nx hl hlc HS.out).mono ?_; rw [H1.out]; rintro e w2 ⟨rfl, hb⟩; have HB2 := Lib.hid (below_up HBV.out hb (Nat.le_refl _)); clear hb)
    go_ret
    exact ⟨ret_int HE.out, HB2.out⟩
  · have H1 := Lib.hid h1
    cases h2 : inR f 0 9999
    · have H2 := Lib.hid h2
      have HE : Hid (-1 = v) := Lib.hid (by rw [HV.out]; unfold nextV; rw [h1, h2]; rfl)
      clear h1 h2
      go_enter Try.func25, Try.ntmps25
      go_wp2_with fail
      rw [← hV]
      clear hV
      go_wp2_with (first
        | (go_at_call 21; refine (specBr_any _ nd a len cap nx hl hlc HS.out).mono ?_; rw [H1.out]; rintro e w2 ⟨rfl, hb⟩; have HB2 := Lib.hid (below_up HBV.out hb (Nat.le_refl _)); clear hb)
        | (go_at_call 61; refine (l1In_any _ _ _ _).mono ?_; rw [H2.out]; rintro e w' ⟨rfl, rfl⟩))
      go_ret
      exact ⟨ret_int HE.out, HB2.out⟩
    · have H2 := Lib.hid h2
      obtain ⟨k, hk⟩ : ∃ k, k = nextAt nd nx f := ⟨_, rfl⟩
      have hln := brOk_len h1
      have hkl : k < len := by rw [hk]; have := nextAt_lt (nd := nd) (f := f) hln.1; rw [HL.out] at this; exact this
      have HE : Hid (nx.getD k 0 = v) := Lib.hid (by rw [HV.out]; unfold nextV; rw [h1, h2, hk]; rfl)
      have HMD : Hid (modV (hashV [nd, f]) (len : Int) = (k : Int)) := Lib.hid (by rw [hk, ← HL.out]; exact mod_next h1)
      have HH := Lib.hid (hashV_bd [nd, f])
      obtain ⟨hh, hhe⟩ : ∃ x, x = hashV [nd, f] := ⟨_, rfl⟩
      have HHE := Lib.hid hhe
      rw [← hhe] at HMD HH
      have HNW := Lib.hid hn
      have HFW := Lib.hid hf
      have k0 : (0 : Int) ≤ (k : Int) := by omega
      have k1 : (k : Int) < (len : Int) := by omega
      clear h1 h2 hk hln hhe hn hf
      go_enter Try.func25, Try.ntmps25
      go_wp2_with fail
      rw [← hV]
      clear hV
      go_wp2_with (first
        | (go_at_call 21; refine (specBr_any _ nd a len cap nx hl hlc HS.out).mono ?_; rw [H1.out]; rintro e w2 ⟨rfl, hb⟩; have HB2 := Lib.hid (below_up HBV.out hb (Nat.le_refl _)); have HN2 := Lib.hid (HN.out.below hb); have HS2 := Lib.hid (HS.out.below hb); have c0 := HN2.out.c0; have c1 := HN2.out.c1; clear hb)
        | (go_at_call 61; refine (l1In_any _ _ _ _).mono ?_; rw [H2.out]; rintro e w' ⟨rfl, rfl⟩))
      rcases HS2.out.2.2 with h0 | ⟨b, o, rfl, hb0, hc⟩
      · omega
      have cx := hc k hkl
      rw [HE.out] at cx
      clear hc
      go_region_held3 (fun w' => (w'.cell? ⟨W.heap.size, 0, none⟩ = some (.int .i64 nd) ∧ w'.cell? ⟨W.heap.size, 1, none⟩ = some (.slice (some ⟨b, o, none⟩) len cap)) ∧ w'.cell? ⟨b, o + k, none⟩ = some (.int .i64 v)) (go_keep) (first
        | (go_at_call 67; refine (specHash_any _ _ 2 2 [nd, f] (by decide) ((sees_pair HNW.out HFW.out _ _).below (Below.refl _ _).drew)).mono ?_; rw [← HHE.out]; rintro e w' ⟨rfl, rfl⟩)
        | (go_at_call 66; refine (specMod_any hh (len : Int) _ ⟨by have := HH.out.1; omega, by have := HH.out.2; omega⟩).mono ?_; rw [HMD.out]; rintro e w' ⟨rfl, rfl⟩))
      all_goals go_wp2
      all_goals go_ret
      all_goals exact ⟨rfl, by first | exact (HB2.out.alloc HB2.out.size _).drew | exact HB2.out.drew.alloc HB2.out.size _⟩
end Go.Proofs.Ytgninjdnfidpcaa
