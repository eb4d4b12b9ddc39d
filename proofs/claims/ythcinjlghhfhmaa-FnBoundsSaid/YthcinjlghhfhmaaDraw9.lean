/- Draws of chapter 9: intervals. -/
import Derived.Test.YthcinjlghhfhmaaDrawB
import Derived.Test.YthcinjlghhfhmaaDrawNum
import Derived.Test.YthcinjlghhfhmaaRaw9
import Derived.Test.YthcinjlghhfhmaaSlV
namespace Go.Proofs.Ythcinjlghhfhmaa
open Go.RowKit
/-- What a draw of an interval leaves. -/
def DrewV (B : Nat) (w : World) (e : Ending) (w' : World) : Prop := ∃ x y : Int, IsI64 x ∧ IsI64 y ∧ e = .returned (.agg #[.int .i64 x, .int .i64 y]) ∧ Cur w' B ∧ w.grownBy w' (some B)
set_option maxHeartbeats 1600000 in
theorem any9_any (W : World) (B : Nat) (hc : Cur W B) : Calls Try.prog 58 #[.pointer (some ⟨B, 0, none⟩)] W (DrewV B W) := by
  have HC0 := Lib.hid hc
  have hB := hc.lt
  clear hc
  go_enter Try.func58, Try.ntmps58
  go_wp2_with fail
  go_at_call 57
  refine (below_any _ B 50 (by decide) (HC0.out.alloc _)).mono ?_
  rintro e w1 ⟨x, ⟨hx0, hx1⟩, rfl, hc1, hg1⟩
  have hx2 : x ≤ 49 := by omega
  have hw1 : IntKind.i64.wrap (x - 10) = x - 10 := IntWalk.i64_in _ (by omega)
  have HC1 := Lib.hid hc1
  have HR1 := Lib.hid ((pair_new W 0 0 33).grown hg1 (by omega))
  have HG1 := Lib.hid (grown_trans (World.grownBy_alloc W _ _) hg1)
  have hz1 := HR1.out.lt
  clear hc1 hg1 hx1
  go_wp2_with fail
  go_at_call 57
  refine (below_any _ B 20 (by decide) HC1.out).mono ?_
  rintro e w2 ⟨y, ⟨hy0, hy1⟩, rfl, hc2, hg2⟩
  have hy2 : y ≤ 19 := by omega
  have HC2 := Lib.hid hc2
  have HR2 := Lib.hid (HR1.out.grown hg2 (by omega))
  have HG2 := Lib.hid (grown_trans HG1.out hg2)
  have hz2 := HR2.out.lt
  clear hc2 hg2 hy1
  obtain ⟨n, hn⟩ : ∃ n, n = x - 10 := ⟨_, rfl⟩
  obtain ⟨d, hd⟩ : ∃ d, d = n + y := ⟨_, rfl⟩
  have hnb : IsI64 n := ⟨by omega, by omega⟩
  have hdb : IsI64 d := ⟨by omega, by omega⟩
  have HN := Lib.hid hnb
  have HD := Lib.hid hdb
  go_wp2_with fail
  rw [← hn, ← hd]
  clear hn hd hnb hdb hw1 hx0 hx2 hy0 hy2
  go_at_call 57
  refine (below_any _ B 8 (by decide) (HC2.out.alloc _)).mono ?_
  rintro e w3 ⟨k, ⟨hk0, hk1⟩, rfl, hc3, hg3⟩
  have hk2 : k ≤ 7 := by omega
  have HC3 := Lib.hid hc3
  have HR3 := Lib.hid ((HR2.out.alloc _).grown hg3 (by omega))
  have HT3 := Lib.hid ((pair_new w2 n d 33).grown hg3 (by omega))
  have HG3 := Lib.hid (grown_trans (grown_newalloc HG2.out _) hg3)
  have hne : W.heap.size ≠ w2.heap.size := by omega
  have hw1 : W.heap.size ≤ w2.heap.size := by omega
  have hB1 : B < w2.heap.size := by omega
  clear hc3 hg3 hk1
  by_cases h0 : k = 0
  · subst h0
    go_wp2_with fail
    go_at_call 60
    refine (raw9_any _ B HC3.out).mono ?_
    rintro e w4 ⟨v, hv, rfl, hc4, hg4⟩
    have HV := Lib.hid hv
    have HC4 := Lib.hid hc4
    have HR4 := Lib.hid (HR3.out.grown hg4 (by omega))
    have HT4 := Lib.hid (HT3.out.grown hg4 (by omega))
    have HG4 := Lib.hid (grown_trans HG3.out hg4)
    clear hc4 hg4 hv
    have r0 := HR4.out.c0
    have r1 := HR4.out.c1
    have q0 := HR4.out.f0
    have q1 := HR4.out.f1
    have t0 := HT4.out.c0
    have t1 := HT4.out.c1
    have s0 := HT4.out.f0
    have s1 := HT4.out.f1
    go_wp2
    refine bodyPost_ret (v := .agg #[.int .i64 v, .int .i64 d]) (by simp [results, Try.results58, go_sem, r0, r1]) rfl ⟨v, d, HV.out, HD.out, rfl, ?_, ?_⟩
    · repeat (first | with_reducible exact HC4.out | refine Cur.kept ?_ (grown_setCell _ _ _ _) (fun k e => by cases e; omega))
    · repeat (first | with_reducible exact HG4.out | refine grown_newset ?_ _ (by omega))
  by_cases h1 : k = 1
  · subst h1
    go_wp2_with fail
    go_at_call 60
    refine (raw9_any _ B HC3.out).mono ?_
    rintro e w4 ⟨v, hv, rfl, hc4, hg4⟩
    have HV := Lib.hid hv
    have HC4 := Lib.hid hc4
    have HR4 := Lib.hid (HR3.out.grown hg4 (by omega))
    have HT4 := Lib.hid (HT3.out.grown hg4 (by omega))
    have HG4 := Lib.hid (grown_trans HG3.out hg4)
    clear hc4 hg4 hv
    have r0 := HR4.out.c0
    have r1 := HR4.out.c1
    have q0 := HR4.out.f0
    have q1 := HR4.out.f1
    have t0 := HT4.out.c0
    have t1 := HT4.out.c1
    have s0 := HT4.out.f0
    have s1 := HT4.out.f1
    go_wp2
    refine bodyPost_ret (v := .agg #[.int .i64 n, .int .i64 v]) (by simp [results, Try.results58, go_sem, r0, r1]) rfl ⟨n, v, HN.out, HV.out, rfl, ?_, ?_⟩
    · repeat (first | with_reducible exact HC4.out | refine Cur.kept ?_ (grown_setCell _ _ _ _) (fun k e => by cases e; omega))
    · repeat (first | with_reducible exact HG4.out | refine grown_newset ?_ _ (by omega))
  · have h2 : 2 ≤ k := by omega
    have r0 := HR3.out.c0
    have r1 := HR3.out.c1
    have q0 := HR3.out.f0
    have q1 := HR3.out.f1
    have t0 := HT3.out.c0
    have t1 := HT3.out.c1
    have s0 := HT3.out.f0
    have s1 := HT3.out.f1
    go_wp2
    refine bodyPost_ret (v := .agg #[.int .i64 n, .int .i64 d]) (by simp [results, Try.results58, go_sem, r0, r1]) rfl ⟨n, d, HN.out, HD.out, rfl, ?_, ?_⟩
    · repeat (first | with_reducible exact HC3.out | refine Cur.kept ?_ (grown_setCell _ _ _ _) (fun k e => by cases e; omega))
    · repeat (first | with_reducible exact HG3.out | refine grown_newset ?_ _ (by omega))
/-- A list of drawn intervals. -/
def DrewVs (W : World) (e : Ending) (w' : World) : Prop := ∃ (xs : List (Int × Int)) (a : Option Addr) (len cap : Nat), len ≤ 4 ∧ e = .returned (.slice a len cap) ∧ OwnV w' W.heap.size w'.heap.size a len cap xs ∧ Below W.heap.size W w'
theorem OwnV.grown {w w' : World} {lo hi B : Nat} {a : Option Addr} {len cap : Nat} {xs : List (Int × Int)} (h : OwnV w lo hi a len cap xs) (hg : w.grownBy w' (some B)) (hB : B < lo) : OwnV w' lo hi a len cap xs :=
  h.moved (Moved.of_grown hg (lo := B) (hi := B + 1) (Nat.le_refl _) (Nat.lt_succ_self _)) (.inr hB)
end Go.Proofs.Ythcinjlghhfhmaa
