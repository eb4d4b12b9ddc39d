/- What is found, or the fallback if finding leaves by a panic: the program's. -/
import Derived.Test.YtgninjdnfidpcaaAlP3
import Derived.Test.YtgninjdnfidpcaaAlH
import Derived.Recover
namespace Go.Proofs.Ytgninjdnfidpcaa
open Go.RowKit
theorem frozen_below {B : Nat} {w w' : World} (h : Below B w w') {p : Addr} (hp : p.block < B) : w'.frozen? p = w.frozen? p := by
  unfold World.frozen?
  rw [h.block p.block hp]

theorem catchB_idle (p q : Addr) (w : World) :
    CallsD Try.prog 104 #[.pointer (some p), .pointer (some q)] .returning w fun e u' w' => e = .returned (.tuple #[]) ∧ u' = .returning ∧ w' = w := by
  refine callsD_of_wpS Try.func104 rfl fun c₀ cs hu => ?_
  apply wpS_seq
  apply wpS_region
  simp [wpOpsS, go_sem, recoverD, hu, Try.ntmps104, Exit.thenS]
  refine wpS_cond (t := false) (by simp [Act.eval, Array.replicate]) ?_
  simp only [Bool.false_eq_true, if_false]
  refine wpS_of_wp (wp_skip ?_)
  cases c₀
  simp_all [bodyPostS, results, Try.results104]
theorem catchB_panicking (p q : Addr) (x y : Value) (hx1 : x.oneCell' = true) (u : TypeId) (pv : Value) (older : List PanicEntry) (w : World) (hc : w.cell? p = some x) (hq : w.cell? q = some y) (hz : w.frozen? q = false) (hx : ∃ b, x = .bool b) :
    CallsD Try.prog 104 #[.pointer (some p), .pointer (some q)] (.panicking ({ v := .iface u pv, recovered := false } :: older)) w fun e u' w' =>
      e = .returned (.tuple #[]) ∧ u' = .panicking ({ v := .iface u pv, recovered := true } :: older) ∧ w' = w.setCell q x := by
  obtain ⟨b, rfl⟩ := hx
  refine callsD_of_wpS Try.func104 rfl fun c₀ cs hu => ?_
  apply wpS_seq
  apply wpS_region
  simp [wpOpsS, go_sem, recoverD, hu, Try.ntmps104, Exit.thenS]
  refine wpS_cond (t := true) (by simp [Act.eval, Array.replicate]) ?_
  simp only [if_true]
  apply wpS_region
  simp [wpOpsS, go_sem, hc, hq, hz, bodyPostS, results, Try.results104]

theorem catchR_idle (p q : Addr) (w : World) :
    CallsD Try.prog 95 #[.pointer (some p), .pointer (some q)] .returning w fun e u' w' => e = .returned (.tuple #[]) ∧ u' = .returning ∧ w' = w := by
  refine callsD_of_wpS Try.func95 rfl fun c₀ cs hu => ?_
  apply wpS_seq
  apply wpS_region
  simp [wpOpsS, go_sem, recoverD, hu, Try.ntmps95, Exit.thenS]
  refine wpS_cond (t := false) (by simp [Act.eval, Array.replicate]) ?_
  simp only [Bool.false_eq_true, if_false]
  refine wpS_of_wp (wp_skip ?_)
  cases c₀
  simp_all [bodyPostS, results, Try.results95]
theorem catchR_panicking (p q : Addr) (x y : Value) (hx1 : x.oneCell' = true) (u : TypeId) (pv : Value) (older : List PanicEntry) (w : World) (hc : w.cell? p = some x) (hq : w.cell? q = some y) (hz : w.frozen? q = false) (hx : ∃ a l c, x = .slice a l c) :
    CallsD Try.prog 95 #[.pointer (some p), .pointer (some q)] (.panicking ({ v := .iface u pv, recovered := false } :: older)) w fun e u' w' =>
      e = .returned (.tuple #[]) ∧ u' = .panicking ({ v := .iface u pv, recovered := true } :: older) ∧ w' = w.setCell q x := by
  obtain ⟨a, l, c, rfl⟩ := hx
  refine callsD_of_wpS Try.func95 rfl fun c₀ cs hu => ?_
  apply wpS_seq
  apply wpS_region
  simp [wpOpsS, go_sem, recoverD, hu, Try.ntmps95, Exit.thenS]
  refine wpS_cond (t := true) (by simp [Act.eval, Array.replicate]) ?_
  simp only [if_true]
  apply wpS_region
  simp [wpOpsS, go_sem, hc, hq, hz, bodyPostS, results, Try.results95]

set_option maxRecDepth 20000 in
set_option maxHeartbeats 1600000 in
theorem orB_yes {K : Nat} {caps : Array Value} (W : World) (d : Value) (hP : Plain K) (hd : ∃ b, d = .bool b) (Q : Value → World → World → Prop)
    (hK : ∀ V, Below W.heap.size W V → V.heap.size = W.heap.size + 2 → Calls Try.prog K caps V fun e w' => ∃ v, e = .returned v ∧ (∃ b, v = .bool b) ∧ Q v V w' ∧ Below V.heap.size V w') :
    Calls Try.prog 80 #[d, .func (.func K) #[] caps] W fun e w' => ∃ v V w2, e = .returned v ∧ Q v V w2 ∧ Below W.heap.size W V ∧ V.heap.size = W.heap.size + 2 ∧ Below V.heap.size V w2 ∧ w' = w2.setCell ⟨W.heap.size + 1, 0, none⟩ v := by
  have hmf : ∀ (fn : Fn) (first cap : Array Value) (w : World), (Instr.makeFunc fn first cap).run Try.prog w = .ok (.func fn first cap) w := fun _ _ _ _ => rfl
  obtain ⟨b0, rfl⟩ := hd
  obtain ⟨V, hV⟩ : ∃ V, V = (W.alloc (.cells #[.bool b0] 4)).alloc (.cells #[.bool false] 4) := ⟨_, rfl⟩
  have hBV : Below W.heap.size W V := by rw [hV]; exact ((Below.refl _ _).alloc (Nat.le_refl _) _).alloc (by simp) _
  have hsV : V.heap.size = W.heap.size + 2 := by rw [hV]; simp
  have c0 : V.cell? ⟨W.heap.size, 0, none⟩ = some (.bool b0) := by rw [hV]; simp
  have c1 : V.cell? ⟨W.heap.size + 1, 0, none⟩ = some (.bool false) := by
    have h := World.cell?_alloc_new (W.alloc (.cells #[.bool b0] 4)) #[.bool false] 4 0
    rw [World.size_alloc] at h
    rw [hV]; simp
  have f1 : V.frozen? ⟨W.heap.size + 1, 0, none⟩ = false := by rw [hV]; simp [go_sem]
  have HK := Lib.hid (hK V hBV hsV)
  have HPL := Lib.hid hP
  have HBV := Lib.hid hBV
  have HSV := Lib.hid hsV
  have HC := Lib.hid (And.intro c0 (And.intro c1 f1))
  have HV := Lib.hid hV
  clear hK hP hBV hsV c0 c1 f1 hV
  go_enter_defers Try.func80, Try.ntmps80
  go_wp2_with fail
  rw [← HV.out, HPL.out caps V]
  go_wp2_with (refine HK.out.mono ?_; rintro e w2 ⟨v, rfl, ⟨b, rfl⟩, hQ, hb2⟩; have HQ := Lib.hid hQ; have HB2 := Lib.hid hb2; have c1 := (hb2.cell (p := ⟨W.heap.size + 1, 0, none⟩) (by rw [HSV.out]; exact Nat.lt_succ_self _)).trans HC.out.2.1; have f1 := (frozen_below hb2 (p := ⟨W.heap.size + 1, 0, none⟩) (by rw [HSV.out]; exact Nat.lt_succ_self _)).trans HC.out.2.2; clear hQ hb2)
  refine leaves_cons (f := 104) (args := #[.pointer (some ⟨W.heap.size, 0, none⟩), .pointer (some ⟨W.heap.size + 1, 0, none⟩)]) (by simp) (by simp [go_sem]) ?_
  refine (catchB_idle ⟨W.heap.size, 0, none⟩ ⟨W.heap.size + 1, 0, none⟩ _).mono ?_
  rintro e u' w'' ⟨rfl, rfl, rfl⟩
  exact ⟨.bool b, by simp [results, Try.results80, go_sem, c1], _, V, w2, rfl, HQ.out, HBV.out, HSV.out, HB2.out, rfl⟩

set_option maxRecDepth 20000 in
set_option maxHeartbeats 1600000 in
theorem orB_no {K : Nat} {caps : Array Value} (W : World) (d : Value) (hP : Plain K) (hd : ∃ b, d = .bool b)
    (hK : ∀ V, Below W.heap.size W V → V.heap.size = W.heap.size + 2 → Calls Try.prog K caps V (Panics V)) :
    Calls Try.prog 80 #[d, .func (.func K) #[] caps] W fun e w' => e = .returned d ∧ Below W.heap.size W w' := by
  have hmf : ∀ (fn : Fn) (first cap : Array Value) (w : World), (Instr.makeFunc fn first cap).run Try.prog w = .ok (.func fn first cap) w := fun _ _ _ _ => rfl
  obtain ⟨b0, rfl⟩ := hd
  obtain ⟨V, hV⟩ : ∃ V, V = (W.alloc (.cells #[.bool b0] 4)).alloc (.cells #[.bool false] 4) := ⟨_, rfl⟩
  have hBV : Below W.heap.size W V := by rw [hV]; exact ((Below.refl _ _).alloc (Nat.le_refl _) _).alloc (by simp) _
  have hsV : V.heap.size = W.heap.size + 2 := by rw [hV]; simp
  have c0 : V.cell? ⟨W.heap.size, 0, none⟩ = some (.bool b0) := by rw [hV]; simp
  have c1 : V.cell? ⟨W.heap.size + 1, 0, none⟩ = some (.bool false) := by
    have h := World.cell?_alloc_new (W.alloc (.cells #[.bool b0] 4)) #[.bool false] 4 0
    rw [World.size_alloc] at h
    rw [hV]; simp
  have f1 : V.frozen? ⟨W.heap.size + 1, 0, none⟩ = false := by rw [hV]; simp [go_sem]
  have HK := Lib.hid (hK V hBV hsV)
  have HPL := Lib.hid hP
  have HBV := Lib.hid hBV
  have HSV := Lib.hid hsV
  have HC := Lib.hid (And.intro c0 (And.intro c1 f1))
  have HV := Lib.hid hV
  clear hK hP hBV hsV c0 c1 f1 hV
  go_enter_defers Try.func80, Try.ntmps80
  go_wp2_with fail
  rw [← HV.out, HPL.out caps V]
  go_wp2_with (refine HK.out.mono ?_; rintro e w2 ⟨pv, rfl, hb2⟩; have HB2 := Lib.hid hb2; have c0 := (hb2.cell (p := ⟨W.heap.size, 0, none⟩) (by rw [HSV.out]; exact Nat.lt_add_of_pos_right (by decide))).trans HC.out.1; have c1 := (hb2.cell (p := ⟨W.heap.size + 1, 0, none⟩) (by rw [HSV.out]; exact Nat.lt_succ_self _)).trans HC.out.2.1; have f1 := (frozen_below hb2 (p := ⟨W.heap.size + 1, 0, none⟩) (by rw [HSV.out]; exact Nat.lt_succ_self _)).trans HC.out.2.2; clear hb2)
  refine leaves_cons (f := 104) (args := #[.pointer (some ⟨W.heap.size, 0, none⟩), .pointer (some ⟨W.heap.size + 1, 0, none⟩)]) (by simp) (by simp [go_sem]) ?_
  refine (catchB_panicking ⟨W.heap.size, 0, none⟩ ⟨W.heap.size + 1, 0, none⟩ (.bool b0) (.bool false) rfl _ _ _ _ c0 c1 f1 ⟨_, rfl⟩).mono ?_
  rintro e u' w'' ⟨rfl, rfl, rfl⟩
  exact ⟨.bool b0, by simp [results, Try.results80, go_sem, c1], rfl, Below.setCell (HBV.out.trans (HB2.out.mono HBV.out.size)) (Nat.le_succ _) _⟩

set_option maxRecDepth 20000 in
set_option maxHeartbeats 1600000 in
theorem orR_yes {K : Nat} {caps : Array Value} (W : World) (d : Value) (hP : Plain K) (hd : ∃ a l c, d = .slice a l c) (Q : Value → World → World → Prop)
    (hK : ∀ V, Below W.heap.size W V → V.heap.size = W.heap.size + 2 → Calls Try.prog K caps V fun e w' => ∃ v, e = .returned v ∧ (∃ a l c, v = .slice a l c) ∧ Q v V w' ∧ Below V.heap.size V w') :
    Calls Try.prog 69 #[d, .func (.func K) #[] caps] W fun e w' => ∃ v V w2, e = .returned v ∧ Q v V w2 ∧ Below W.heap.size W V ∧ V.heap.size = W.heap.size + 2 ∧ Below V.heap.size V w2 ∧ w' = w2.setCell ⟨W.heap.size + 1, 0, none⟩ v := by
  have hmf : ∀ (fn : Fn) (first cap : Array Value) (w : World), (Instr.makeFunc fn first cap).run Try.prog w = .ok (.func fn first cap) w := fun _ _ _ _ => rfl
  obtain ⟨a0, l0, k0, rfl⟩ := hd
  obtain ⟨V, hV⟩ : ∃ V, V = (W.alloc (.cells #[.slice a0 l0 k0] 50)).alloc (.cells #[.slice none 0 0] 50) := ⟨_, rfl⟩
  have hBV : Below W.heap.size W V := by rw [hV]; exact ((Below.refl _ _).alloc (Nat.le_refl _) _).alloc (by simp) _
  have hsV : V.heap.size = W.heap.size + 2 := by rw [hV]; simp
  have c0 : V.cell? ⟨W.heap.size, 0, none⟩ = some (.slice a0 l0 k0) := by rw [hV]; simp
  have c1 : V.cell? ⟨W.heap.size + 1, 0, none⟩ = some (.slice none 0 0) := by
    have h := World.cell?_alloc_new (W.alloc (.cells #[.slice a0 l0 k0] 50)) #[.slice none 0 0] 50 0
    rw [World.size_alloc] at h
    rw [hV]; simp
  have f1 : V.frozen? ⟨W.heap.size + 1, 0, none⟩ = false := by rw [hV]; simp [go_sem]
  have HK := Lib.hid (hK V hBV hsV)
  have HPL := Lib.hid hP
  have HBV := Lib.hid hBV
  have HSV := Lib.hid hsV
  have HC := Lib.hid (And.intro c0 (And.intro c1 f1))
  have HV := Lib.hid hV
  clear hK hP hBV hsV c0 c1 f1 hV
  go_enter_defers Try.func69, Try.ntmps69
  go_wp2_with fail
  rw [← HV.out, HPL.out caps V]
  go_wp2_with (refine HK.out.mono ?_; rintro e w2 ⟨v, rfl, ⟨a, l, c, rfl⟩, hQ, hb2⟩; have HQ := Lib.hid hQ; have HB2 := Lib.hid hb2; have c1 := (hb2.cell (p := ⟨W.heap.size + 1, 0, none⟩) (by rw [HSV.out]; exact Nat.lt_succ_self _)).trans HC.out.2.1; have f1 := (frozen_below hb2 (p := ⟨W.heap.size + 1, 0, none⟩) (by rw [HSV.out]; exact Nat.lt_succ_self _)).trans HC.out.2.2; clear hQ hb2)
  refine leaves_cons (f := 95) (args := #[.pointer (some ⟨W.heap.size, 0, none⟩), .pointer (some ⟨W.heap.size + 1, 0, none⟩)]) (by simp) (by simp [go_sem]) ?_
  refine (catchR_idle ⟨W.heap.size, 0, none⟩ ⟨W.heap.size + 1, 0, none⟩ _).mono ?_
  rintro e u' w'' ⟨rfl, rfl, rfl⟩
  exact ⟨.slice a l c, by simp [results, Try.results69, go_sem, c1], _, V, w2, rfl, HQ.out, HBV.out, HSV.out, HB2.out, rfl⟩

set_option maxRecDepth 20000 in
set_option maxHeartbeats 1600000 in
theorem orR_no {K : Nat} {caps : Array Value} (W : World) (d : Value) (hP : Plain K) (hd : ∃ a l c, d = .slice a l c)
    (hK : ∀ V, Below W.heap.size W V → V.heap.size = W.heap.size + 2 → Calls Try.prog K caps V (Panics V)) :
    Calls Try.prog 69 #[d, .func (.func K) #[] caps] W fun e w' => e = .returned d ∧ Below W.heap.size W w' := by
  have hmf : ∀ (fn : Fn) (first cap : Array Value) (w : World), (Instr.makeFunc fn first cap).run Try.prog w = .ok (.func fn first cap) w := fun _ _ _ _ => rfl
  obtain ⟨a0, l0, k0, rfl⟩ := hd
  obtain ⟨V, hV⟩ : ∃ V, V = (W.alloc (.cells #[.slice a0 l0 k0] 50)).alloc (.cells #[.slice none 0 0] 50) := ⟨_, rfl⟩
  have hBV : Below W.heap.size W V := by rw [hV]; exact ((Below.refl _ _).alloc (Nat.le_refl _) _).alloc (by simp) _
  have hsV : V.heap.size = W.heap.size + 2 := by rw [hV]; simp
  have c0 : V.cell? ⟨W.heap.size, 0, none⟩ = some (.slice a0 l0 k0) := by rw [hV]; simp
  have c1 : V.cell? ⟨W.heap.size + 1, 0, none⟩ = some (.slice none 0 0) := by
    have h := World.cell?_alloc_new (W.alloc (.cells #[.slice a0 l0 k0] 50)) #[.slice none 0 0] 50 0
    rw [World.size_alloc] at h
    rw [hV]; simp
  have f1 : V.frozen? ⟨W.heap.size + 1, 0, none⟩ = false := by rw [hV]; simp [go_sem]
  have HK := Lib.hid (hK V hBV hsV)
  have HPL := Lib.hid hP
  have HBV := Lib.hid hBV
  have HSV := Lib.hid hsV
  have HC := Lib.hid (And.intro c0 (And.intro c1 f1))
  have HV := Lib.hid hV
  clear hK hP hBV hsV c0 c1 f1 hV
  go_enter_defers Try.func69, Try.ntmps69
  go_wp2_with fail
  rw [← HV.out, HPL.out caps V]
  go_wp2_with (refine HK.out.mono ?_; rintro e w2 ⟨pv, rfl, hb2⟩; have HB2 := Lib.hid hb2; have c0 := (hb2.cell (p := ⟨W.heap.size, 0, none⟩) (by rw [HSV.out]; exact Nat.lt_add_of_pos_right (by decide))).trans HC.out.1; have c1 := (hb2.cell (p := ⟨W.heap.size + 1, 0, none⟩) (by rw [HSV.out]; exact Nat.lt_succ_self _)).trans HC.out.2.1; have f1 := (frozen_below hb2 (p := ⟨W.heap.size + 1, 0, none⟩) (by rw [HSV.out]; exact Nat.lt_succ_self _)).trans HC.out.2.2; clear hb2)
  refine leaves_cons (f := 95) (args := #[.pointer (some ⟨W.heap.size, 0, none⟩), .pointer (some ⟨W.heap.size + 1, 0, none⟩)]) (by simp) (by simp [go_sem]) ?_
  refine (catchR_panicking ⟨W.heap.size, 0, none⟩ ⟨W.heap.size + 1, 0, none⟩ (.slice a0 l0 k0) (.slice none 0 0) rfl _ _ _ _ c0 c1 f1 ⟨_, _, _, rfl⟩).mono ?_
  rintro e u' w'' ⟨rfl, rfl, rfl⟩
  exact ⟨.slice a0 l0 k0, by simp [results, Try.results69, go_sem, c1], rfl, Below.setCell (HBV.out.trans (HB2.out.mono HBV.out.size)) (Nat.le_succ _) _⟩

/-- A bool that is found. -/
theorem orB_any {K : Nat} {caps : Array Value} (W : World) (d v : Bool) (hP : Plain K) (hK : ∀ V, Below W.heap.size W V → Calls Try.prog K caps V fun e w' => e = .returned (.bool v) ∧ Below V.heap.size V w') :
    Calls Try.prog 80 #[.bool d, .func (.func K) #[] caps] W fun e w' => e = .returned (.bool v) ∧ Below W.heap.size W w' := by
  refine (orB_yes W (.bool d) hP ⟨_, rfl⟩ (fun u _ _ => u = .bool v) (fun V hV _ => (hK V hV).mono ?_)).mono ?_
  · rintro e w ⟨rfl, hb⟩
    exact ⟨_, rfl, ⟨_, rfl⟩, rfl, hb⟩
  · rintro e w ⟨u, V, w2, rfl, rfl, hV, hs, hb, rfl⟩
    exact ⟨rfl, Below.setCell (hV.trans (hb.mono hV.size)) (Nat.le_succ _) _⟩
/-- Rows that are found. -/
theorem orM_any {K : Nat} {caps : Array Value} (W : World) (a0 : Option Addr) (l0 k0 : Nat) (ms : List (List Int)) (hP : Plain K) (hK : ∀ V, Below W.heap.size W V → Calls Try.prog K caps V (MadeM ms V)) :
    Calls Try.prog 69 #[.slice a0 l0 k0, .func (.func K) #[] caps] W (MadeM ms W) := by
  refine (orR_yes W (.slice a0 l0 k0) hP ⟨_, _, _, rfl⟩ (fun u V w => ∃ a l c, u = .slice a l c ∧ OwnM w V.heap.size w.heap.size a l c ms) (fun V hV _ => (hK V hV).mono ?_)).mono ?_
  · rintro e w ⟨a, l, c, rfl, ho, hb⟩
    exact ⟨_, rfl, ⟨_, _, _, rfl⟩, ⟨_, _, _, rfl, ho⟩, hb⟩
  · rintro e w ⟨u, V, w2, rfl, ⟨a, l, c, rfl, ho⟩, hV, hs, hb, rfl⟩
    have hm : Moved (W.heap.size + 1) (W.heap.size + 1 + 1) w2 (w2.setCell ⟨W.heap.size + 1, 0, none⟩ (.slice a l c)) := moved_cell _ _ _ _
    have h1 := ho.moved hm (.inr (by omega))
    refine ⟨_, _, _, rfl, h1.wide (by omega) hm.size (Nat.le_refl _), Below.setCell (hV.trans (hb.mono hV.size)) (Nat.le_succ _) _⟩
end Go.Proofs.Ytgninjdnfidpcaa
