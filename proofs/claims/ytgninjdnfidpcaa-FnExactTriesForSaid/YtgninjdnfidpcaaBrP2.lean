/- A branch read through a closure over the hash; NextFor, the program's. -/
import Derived.Test.YtgninjdnfidpcaaBrP1
import Derived.Test.YtgninjdnfidpcaaBrN
namespace Go.Proofs.Ytgninjdnfidpcaa
open Go.RowKit
/-- What a reader holds: whether the branch is one, and the branch. -/
structure ReadAt (w : World) (C B : Nat) (nd : Int) (a : Option Addr) (len cap : Nat) (nx : List Int) : Prop where
  br : BrAt w B nd a len cap
  ok : w.cell? ⟨C, 0, none⟩ = some (.bool (brOk nd nx))
  lt : C < w.heap.size
  sees : Sees .i64 w a len nx
theorem ReadAt.below {w w' : World} {C B : Nat} {nd : Int} {a : Option Addr} {len cap : Nat} {nx : List Int} (h : ReadAt w C B nd a len cap nx) (hb : Below w.heap.size w w') : ReadAt w' C B nd a len cap nx :=
  ⟨h.br.below hb, (hb.cell (p := ⟨C, 0, none⟩) h.lt).trans h.ok, Nat.lt_of_lt_of_le h.lt hb.size, h.sees.below hb⟩
/-- What is left where a reader was made. -/
def MadeRd (nd : Int) (a : Option Addr) (len cap : Nat) (nx : List Int) (W : World) (e : Ending) (w' : World) : Prop :=
  ∃ C B, e = .returned (.func (.func 91) #[] #[.pointer (some ⟨C, 0, none⟩), .pointer (some ⟨B, 0, none⟩)]) ∧ ReadAt w' C B nd a len cap nx ∧ Below W.heap.size W w'
set_option maxRecDepth 20000 in
set_option maxHeartbeats 3200000 in
theorem read1_any (W : World) (C B : Nat) (nd : Int) (a : Option Addr) (len cap : Nat) (nx : List Int) (f : Int) (hr : ReadAt W C B nd a len cap nx) (hn : (Lit.int .i64 nd).wf = true) (hf : (Lit.int .i64 f).wf = true) :
    Calls Try.prog 91 #[.int .i64 f, .pointer (some ⟨C, 0, none⟩), .pointer (some ⟨B, 0, none⟩)] W fun e w' => e = .returned (.int .i64 (nextV nd nx f)) ∧ Below W.heap.size W w' := by
  have HL := Lib.hid hr.sees.1
  have HS := Lib.hid hr.sees
  obtain ⟨v, hv⟩ : ∃ v : Int, v = nextV nd nx f := ⟨_, rfl⟩
  rw [← hv]
  have HV := Lib.hid hv
  have c0 := hr.br.c0
  have c1 := hr.br.c1
  have ck := hr.ok
  have HLT := Lib.hid hr.br.lt
  clear hv hr
  cases h1 : brOk nd nx
  · rw [h1] at ck
    have HE : Hid (-1 = v) := Lib.hid (by rw [HV.out]; unfold nextV; rw [h1]; rfl)
    clear h1
    go_enter Try.func91, Try.ntmps91
    go_wp2_with fail
    go_ret
    exact ⟨ret_int HE.out, Below.refl _ _⟩
  · rw [h1] at ck
    cases h2 : inR f 0 9999
    · have H2 := Lib.hid h2
      have HE : Hid (-1 = v) := Lib.hid (by rw [HV.out]; unfold nextV; rw [h1, h2]; rfl)
      clear h1 h2
      go_enter Try.func91, Try.ntmps91
      go_wp2_with (go_at_call 58; refine (inRange_any _ _ _ _).mono ?_; rw [H2.out]; rintro e w' ⟨rfl, rfl⟩)
      go_ret
      exact ⟨ret_int HE.out, Below.refl _ _⟩
    · have H2 := Lib.hid h2
      obtain ⟨k, hk⟩ : ∃ k, k = nextAt nd nx f := ⟨_, rfl⟩
      have hln := brOk_len h1
      have hkl : k < len := by rw [hk]; have := nextAt_lt (nd := nd) (f := f) hln.1; rw [HL.out] at this; exact this
      have HE : Hid (nx.getD k 0 = v) := Lib.hid (by rw [HV.out]; unfold nextV; rw [h1, h2, hk]; rfl)
      have HMD : Hid (modV (hashV [nd, f]) (len : Int) = (k : Int)) := Lib.hid (by rw [hk, ← HL.out]; exact mod_next h1)
      have HH := Lib.hid (hashV_bd [nd, f])
      obtain ⟨hh, hhe⟩ : ∃ x, x = hashV [nd, f] := ⟨_, rfl⟩
      have HHE := Lib.hid hhe
      rw [← hhe] at HMD HH
      have HNW := Lib.hid hn
      have HFW := Lib.hid hf
      have k0 : (0 : Int) ≤ (k : Int) := by omega
      have k1 : (k : Int) < (len : Int) := by omega
      rcases HS.out.2.2 with h0 | ⟨b, o, rfl, hb0, hc⟩
      · omega
      have cx := hc k hkl
      rw [HE.out] at cx
      clear h1 h2 hk hln hhe hn hf hc
      go_enter Try.func91, Try.ntmps91
      go_wp2_with (go_at_call 58; refine (inRange_any _ _ _ _).mono ?_; rw [H2.out]; rintro e w' ⟨rfl, rfl⟩)
      go_region_held3 (fun w' => (w'.cell? ⟨B, 0, none⟩ = some (.int .i64 nd) ∧ w'.cell? ⟨B, 1, none⟩ = some (.slice (some ⟨b, o, none⟩) len cap)) ∧ w'.cell? ⟨b, o + k, none⟩ = some (.int .i64 v)) (go_keep) (first
        | (go_at_call 93; refine (hash_any _ _ 2 2 [nd, f] (by decide) ((sees_pair HNW.out HFW.out _ _).below (Below.refl _ _).drew)).mono ?_; rw [← HHE.out]; rintro e w' ⟨rfl, rfl⟩)
        | (go_at_call 92; refine (mod_any hh (len : Int) _ ⟨by have := HH.out.1; omega, by have := HH.out.2; omega⟩).mono ?_; rw [HMD.out]; rintro e w' ⟨rfl, rfl⟩))
      all_goals go_wp2
      all_goals go_ret
      all_goals exact ⟨rfl, by first | exact ((Below.refl _ _).alloc (Nat.le_refl _) _).drew | exact (Below.refl _ _).drew.alloc (Nat.le_refl _) _⟩
set_option maxRecDepth 20000 in
set_option maxHeartbeats 3200000 in
theorem reader_any (W : World) (nd : Int) (a : Option Addr) (len cap : Nat) (nx : List Int) (hl : len ≤ 1073741824) (hlc : len ≤ cap) (hs : Sees .i64 W a len nx) :
    Calls Try.prog 55 #[.agg #[.int .i64 nd, .slice a len cap]] W (MadeRd nd a len cap nx W) := by
  obtain ⟨V, hV⟩ : ∃ V, V = W.alloc (.cells #[.int .i64 nd, .slice a len cap] 26) := ⟨_, rfl⟩
  have HBV : Hid (Below W.heap.size W V) := Lib.hid (by rw [hV]; exact below_newB _ _)
  have HN := Lib.hid (show BrAt V W.heap.size nd a len cap by rw [hV]; exact br_new _ _ _ _ _ _)
  have HS := Lib.hid (hs.below HBV.out)
  have hmf : ∀ (fn : Fn) (first cap : Array Value) (w : World), (Instr.makeFunc fn first cap).run Try.prog w = .ok (.func fn first cap) w := fun _ _ _ _ => rfl
  have c0 := HN.out.c0
  have c1 := HN.out.c1
  clear hs
  go_enter Try.func55, Try.ntmps55
  go_wp2_with fail
  rw [← hV]
  clear hV
  go_wp2_with (go_at_call 23; refine (brP_any _ nd a len cap nx hl hlc HS.out).mono ?_; rintro e w2 ⟨rfl, hb⟩; have HB2 := Lib.hid hb; clear hb)
  go_ret
  have hbA : Below V.heap.size V (w2.alloc (.cells #[.bool (brOk nd nx)] 4)) := HB2.out.alloc HB2.out.size _
  exact ⟨w2.heap.size, W.heap.size, rfl, ⟨HN.out.below hbA, by simp, by simp, HS.out.below hbA⟩, below_up HBV.out hbA (Nat.le_refl _)⟩
set_option maxRecDepth 20000 in
set_option maxHeartbeats 3200000 in
theorem nextP_any (W : World) (nd : Int) (a : Option Addr) (len cap : Nat) (nx : List Int) (f : Int) (hl : len ≤ 1073741824) (hlc : len ≤ cap) (hs : Sees .i64 W a len nx) (hn : (Lit.int .i64 nd).wf = true) (hf : (Lit.int .i64 f).wf = true) :
    Calls Try.prog 16 #[.agg #[.int .i64 nd, .slice a len cap], .int .i64 f] W fun e w' => e = .returned (.int .i64 (nextV nd nx f)) ∧ Below W.heap.size W w' := by
  obtain ⟨V, hV⟩ : ∃ V, V = W.alloc (.cells #[.int .i64 nd, .slice a len cap] 26) := ⟨_, rfl⟩
  have HBV : Hid (Below W.heap.size W V) := Lib.hid (by rw [hV]; exact below_newB _ _)
  have HN := Lib.hid (show BrAt V W.heap.size nd a len cap by rw [hV]; exact br_new _ _ _ _ _ _)
  have HS := Lib.hid (hs.below HBV.out)
  have hcf : ∀ (args : Array Value) (w : World), Sem.run Try.prog (callFunc 91 args) w = .ok (.enter 91 args) w := fun _ _ => by kernel_rfl
  have HNW := Lib.hid hn
  have HFW := Lib.hid hf
  have c0 := HN.out.c0
  have c1 := HN.out.c1
  clear hs hn hf
  go_enter Try.func16, Try.ntmps16
  go_wp2_with fail
  rw [← hV]
  clear hV
  go_wp2_with (first
    | (go_at_call 55; refine (reader_any _ nd a len cap nx hl hlc HS.out).mono ?_; rintro e w2 ⟨C, B, rfl, hr, hb⟩; have HR := Lib.hid hr; have HB2 := Lib.hid (below_up HBV.out hb (Nat.le_refl _)); clear hr hb)
    | (go_at_call 91; refine (read1_any _ C B nd a len cap nx f HR.out HNW.out HFW.out).mono ?_; rintro e w3 ⟨rfl, hb⟩; have HB3 := Lib.hid (below_up HB2.out hb (Nat.le_refl _)); clear hb))
  go_ret
  exact ⟨rfl, HB3.out⟩
end Go.Proofs.Ytgninjdnfidpcaa
