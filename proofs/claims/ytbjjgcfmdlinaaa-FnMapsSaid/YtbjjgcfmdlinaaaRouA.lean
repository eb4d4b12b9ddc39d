/- Routes, in plain words; a row of the call's own that lies in one known block. -/
import Derived.Test.YtbjjgcfmdlinaaaNetW
import Derived.Test.YtbjjgcfmdlinaaaNetR
import Derived.Test.YtbjjgcfmdlinaaaStepSl
namespace Go.Proofs.Ytbjjgcfmdlinaaa
open Go.RowKit
/-- A valid network: its nodes are the numbers below m, its links have two ends each. -/
theorem netB_ends {n : Int} {ls : List (Int × Int)} (h : netB n ls = true) : ∃ m : Nat, n = m ∧ 1 ≤ m ∧ m ≤ 8 ∧ 1 ≤ ls.length ∧ ls.length ≤ 6 ∧ Ends m ls := by
  unfold netB at h
  simp only [Bool.and_eq_true] at h
  obtain ⟨h1, h2, h3⟩ := h
  have h1 := inR_true.1 h1
  have h2 := inR_true.1 h2
  refine ⟨n.toNat, by omega, by omega, by omega, by omega, by omega, fun l hl => ?_⟩
  obtain ⟨k, hk, rfl⟩ := List.getElem_of_mem hl
  have h4 := List.all_eq_true.1 h3 k (List.mem_range.2 hk)
  have e : ls.getD k (0, 0) = ls[k] := by simp [List.getD, hk]
  unfold netOkAt at h4
  rw [e] at h4
  simp only [Bool.and_eq_true] at h4
  obtain ⟨a1, a2, a3, _⟩ := h4
  have a1 := inR_true.1 a1
  have a2 := inR_true.1 a2
  have a3 := of_decide_eq_true a3
  exact ⟨by omega, by omega, by omega, by omega, a3⟩
/-- The condition under which there is a route at all. -/
def askR (n : Int) (ls : List (Int × Int)) (a b : Int) : Bool := netB n ls && (inR a 0 (n - 1) && inR b 0 (n - 1))
open Classical in
noncomputable def routeV (n : Int) (ls : List (Int × Int)) (a b : Int) : List Int :=
  if askR n ls a b = true then (if h : ∃ p, Best ls a b p then Classical.choose h else []) else []
theorem route_no {n : Int} {ls : List (Int × Int)} {a b : Int} (h : askR n ls a b = false) : routeV n ls a b = [] := by
  unfold routeV
  rw [h]
  exact if_neg (by decide)
theorem route_best {n : Int} {ls : List (Int × Int)} {a b : Int} {p : List Int} (h : askR n ls a b = true) (hp : Best ls a b p) : routeV n ls a b = p := by
  have hex : ∃ p, Best ls a b p := ⟨p, hp⟩
  unfold routeV
  rw [if_pos h, dif_pos hex]
  exact best_unique (Classical.choose_spec hex) hp
theorem route_none {n : Int} {ls : List (Int × Int)} {a b : Int} (h : ∀ q, endO ls q a ≠ some b) : routeV n ls a b = [] := by
  have hno : ¬ ∃ p, Best ls a b p := fun ⟨p, hp⟩ => h p hp.1
  unfold routeV
  by_cases h1 : askR n ls a b = true
  · rw [if_pos h1, dif_neg hno]
  · rw [if_neg h1]
theorem ask_true {n : Int} {ls : List (Int × Int)} {a b : Int} (h : askR n ls a b = true) : ∃ m x y : Nat, n = m ∧ a = x ∧ b = y ∧ 1 ≤ m ∧ m ≤ 8 ∧ x < m ∧ y < m ∧ 1 ≤ ls.length ∧ ls.length ≤ 6 ∧ Ends m ls := by
  unfold askR at h
  simp only [Bool.and_eq_true] at h
  obtain ⟨h1, h2, h3⟩ := h
  obtain ⟨m, rfl, g1, g8, g3, g4, he⟩ := netB_ends h1
  have h2 := inR_true.1 h2
  have h3 := inR_true.1 h3
  exact ⟨m, a.toNat, b.toNat, rfl, by omega, by omega, g1, g8, by omega, by omega, g3, g4, he⟩
/-- How one tried link changes what is known. -/
theorem step_ab {ls : List (Int × Int)} {i : Nat} {a b v w : Nat} (hi : i < ls.length) (hcd : ls.getD i (0, 0) = ((a : Int), (b : Int))) (h : stepN ls (i : Int) v = some (w : Int)) : (v = a ∧ w = b) ∨ (v = b ∧ w = a) := by
  rw [step_in hi, hcd] at h
  unfold other at h
  simp only at h
  split at h
  · rename_i e; simp only [Option.some.injEq] at h; exact .inl ⟨by omega, by omega⟩
  · split at h
    · rename_i e; simp only [Option.some.injEq] at h; exact .inr ⟨by omega, by omega⟩
    · cases h
theorem step_to {ls : List (Int × Int)} {i : Nat} {a b : Int} (hi : i < ls.length) (hcd : ls.getD i (0, 0) = (a, b)) : stepN ls (i : Int) a = some b := by
  rw [step_in hi, hcd]
  simp [other]
theorem step_from {ls : List (Int × Int)} {i : Nat} {a b : Int} (hi : i < ls.length) (hcd : ls.getD i (0, 0) = (a, b)) : stepN ls (i : Int) b = some a := step_back (step_to hi hcd)
theorem dist_skip {n : Nat} {ls : List (Int × Int)} {b0 : Int} {d : List Int} {r i a b : Nat} (h : Dist n ls b0 d r i) (hi : i < ls.length) (hcd : ls.getD i (0, 0) = ((a : Int), (b : Int))) (h1 : d.getD b 0 = (r : Int) → 0 ≤ d.getD a 0) (h2 : d.getD a 0 = (r : Int) → 0 ≤ d.getD b 0) : Dist n ls b0 d r (i + 1) :=
  h.keep fun v w _ _ hs hd => by
    rcases step_ab hi hcd hs with ⟨rfl, rfl⟩ | ⟨rfl, rfl⟩
    · exact h1 hd
    · exact h2 hd
/-- A row that lies in the block g. -/
def OwnB (w : World) (g len cap : Nat) (zs : List Int) : Prop := Own .i64 3 w g (g + 1) (some ⟨g, 0, none⟩) len cap zs
theorem ownB_new (w : World) : OwnB (w.alloc (.cells #[] 3)) w.heap.size 0 0 [] := own_nil _ _ _
theorem OwnB.lt {w : World} {g len cap : Nat} {zs : List Int} (h : OwnB w g len cap zs) : g < w.heap.size := h.2.2.1
theorem OwnB.below {w w' : World} {g len cap : Nat} {zs : List Int} (h : OwnB w g len cap zs) (hb : Below w.heap.size w w') : OwnB w' g len cap zs := Own.below h hb
theorem OwnB.off {w w' : World} {g len cap x : Nat} {zs : List Int} (h : OwnB w g len cap zs) (hm : Moved x (x + 1) w w') (hne : g ≠ x) : OwnB w' g len cap zs := Own.moved h hm (by omega)
theorem OwnB.spot {w : World} {g len cap : Nat} {zs : List Int} (h : OwnB w g len cap zs) : zs.length = len ∧ len ≤ cap ∧ cap ≤ maxLen ∧ (∀ j, j < len → w.cell? ⟨g, j, none⟩ = some (.int .i64 (zs.getD j 0))) ∧ ∀ j, w.frozen? ⟨g, j, none⟩ = false := by
  rcases Own.spot h with ⟨h0, _⟩ | ⟨g', hg, _, _, h1, h2, hc, hf⟩
  · cases h0
  · cases hg; exact ⟨h.1, h1, h2, hc, hf⟩
theorem OwnB.stored {w : World} {g len cap : Nat} {zs : List Int} (h : OwnB w g len cap zs) (j : Nat) (x : Int) (hx : (Lit.int .i64 x).wf = true) : OwnB (w.setCell ⟨g, j, none⟩ (.int .i64 x)) g len cap (zs.set j x) ∧ Moved g (g + 1) w (w.setCell ⟨g, j, none⟩ (.int .i64 x)) := Own.stored h j x hx
theorem NetAt.off {w w' : World} {B x : Nat} {n : Int} {a : Option Addr} {len cap : Nat} (h : NetAt w B n a len cap) (hm : Moved x (x + 1) w w') (hne : B ≠ x) : NetAt w' B n a len cap :=
  ⟨(World.cell?_of_block (w := w) (a := ⟨B, 0, none⟩) (hm.block B h.lt (by omega))).trans h.c0, (World.cell?_of_block (w := w) (a := ⟨B, 1, none⟩) (hm.block B h.lt (by omega))).trans h.c1, Nat.lt_of_lt_of_le h.lt hm.size⟩
/-- One more number behind such a row: it stays in its block, or goes to a new one. -/
theorem wp_append_blk {P : Program} {w : World} {ops : Array Oper} {rest : List Oper} {o : Oper} {act : Act} {Q : Exit → Act → World → Prop} (hgd : o.guard = none) (s x : Operand) (t : TypeId)
    (ho : o.op = .call { callee := .builtin .append, args := #[s, x], argTypes := #[t, t] }) (i : TypeInfo) (ht : P.underlying t = some (.slice 3)) (hi : P.info? 3 = some i)
    (hz : i.zero = some (.int .i64 0)) (hsize : i.size = 1) (hby : i.bytes = 8) (g len cap : Nat) (zs : List Int) (hs : act.eval s = .slice (some ⟨g, 0, none⟩) len cap) (hown : OwnB w g len cap zs)
    (ad : Addr) (y : Int) (c2 : Nat) (hx : act.eval x = .slice (some ad) 1 c2) (hsee : Sees .i64 w (some ad) 1 [y]) (h8 : len ≤ 1073741824)
    (h : ∀ g' cap' w', OwnB w' g' (len + 1) cap' (zs ++ [y]) → (g' = g ∨ g' = w.heap.size) → Moved g (g + 1) w w' → wpList P ops Q rest (act.put o.dst (.slice (some ⟨g', 0, none⟩) (len + 1) cap')) w') : wpList P ops Q (o :: rest) act w := by
  have hwf : ∀ n ∈ zs ++ [y], (Lit.int .i64 n).wf = true := by
    intro n hn
    rcases List.mem_append.1 hn with hn | hn
    · exact hown.2.1 n hn
    · exact hsee.2.1 n hn
  refine wpList_append_own_at w hgd s x t ho g 3 i (.int .i64 0) 1 8 ht hi hz hsize hby rfl (by decide) _ len (zs.map (.int .i64)) hs hown.2.2.2.1 ad 1 c2 [.int .i64 y] hx rfl ?_ (ints_oneCell _ [y]) (by unfold maxLen; omega) (by omega) (Nat.le_of_lt hown.lt) ?_
  · intro j u hu
    have hj := (List.getElem?_eq_some_iff.1 hu).1
    simp at hj
    subst hj
    rcases hsee.2.2 with h0 | ⟨b, off, ha, _, hc⟩
    · omega
    · obtain rfl := Option.some.inj ha
      rw [add_plain, hc 0 (by omega), ← hu]
      rfl
  · intro v' w' ho' hg _ hat
    obtain ⟨a', cap', rfl⟩ := own_shape ho'
    have hOwn : Own .i64 3 w' g w'.heap.size a' (len + 1) cap' (zs ++ [y]) := own_of (n := len + 1) (by rw [List.map_append]; exact ho') hwf
    rcases hOwn.spot with ⟨_, h0, _⟩ | ⟨g', rfl, _⟩
    · omega
    · refine h g' cap' w' hOwn.narrow ?_ ⟨hg.os, hg.tape, hg.output, hg.size, fun k hk hne => hg.block k hk fun e => hne ?_⟩
      · simpa [Value.ownBlock] using hat
      · simp only [Value.ownBlock, Option.some.injEq] at e
        omega
/-- The link that leads nearer. -/
def Near (ls : List (Int × Int)) (d : List Int) (x j : Nat) : Prop := ∃ w : Nat, stepN ls (j : Int) x = some (w : Int) ∧ d.getD w 0 = d.getD x 0 - 1
/-- The distances, as a function. -/
def distF (d : List Int) (v : Int) : Int := d.getD v.toNat 0
theorem best_next {m : Nat} {ls : List (Int × Int)} {t : Nat} {d : List Int} (he : Ends m ls) (hd : Dist m ls (t : Int) d m 0) {x f : Nat} (hx : x < m) (hne : x ≠ t) (hpos : 0 ≤ d.getD x 0) (hn : Near ls d x f) (hfirst : ∀ j : Nat, j < f → ¬ Near ls d x j) {rest : List Int} (hb : Best ls x t rest) :
    ∃ (w : Nat) (rest' : List Int), w < m ∧ stepN ls (f : Int) x = some (w : Int) ∧ Best ls w t rest' ∧ rest = (f : Int) :: rest' ∧ 0 ≤ d.getD w 0 ∧ d.getD w 0 = d.getD x 0 - 1 := by
  obtain ⟨w, hs, hw⟩ := hn
  have hwn := step_ends he hs
  have hD : ∀ v, 0 ≤ v ∧ v < (m : Int) → DistOk ls t (distF d v) v := fun v hv => by
    obtain ⟨k, rfl⟩ : ∃ k : Nat, v = k := ⟨v.toNat, by omega⟩
    exact hd.all he k (by omega)
  have hx0 : 0 < d.getD x 0 := by
    rcases hd.all he x hx with ⟨h1, _⟩ | ⟨_, ⟨p, hp, hl⟩, _⟩
    · omega
    · cases p with
      | nil => simp only [endO, Option.some.injEq] at hp; omega
      | cons i p => simp only [List.length_cons] at hl; omega
  have hdw : distF d (w : Int) = d.getD w 0 := by unfold distF; rw [Int.toNat_natCast]
  have hdx : distF d (x : Int) = d.getD x 0 := by unfold distF; rw [Int.toNat_natCast]
  obtain ⟨rest', hr, _⟩ := best_exists hD he (d.getD w 0).toNat w ⟨hwn.1, hwn.2.1⟩ (by rw [hdw]; omega)
  have hcons := best_cons hD he (v := x) (w := w) (i := f) (p := rest') ⟨by omega, by omega⟩ (by omega) hs (by omega) (fun j u hj hsj e => by
    have hjb := step_bound hsj
    have hun := step_ends he hsj
    obtain ⟨jn, rfl⟩ : ∃ k : Nat, j = k := ⟨j.toNat, by omega⟩
    obtain ⟨un, rfl⟩ : ∃ k : Nat, u = k := ⟨u.toNat, by omega⟩
    have hdu : distF d (un : Int) = d.getD un 0 := by unfold distF; rw [Int.toNat_natCast]
    exact hfirst jn (by omega) ⟨un, hsj, by omega⟩) hr
  exact ⟨w, rest', by omega, hs, hr, best_unique hb hcons, by omega, hw⟩
theorem near_exists {m : Nat} {ls : List (Int × Int)} {t : Nat} {d : List Int} (he : Ends m ls) (hd : Dist m ls (t : Int) d m 0) {x : Nat} (hx : x < m) (hne : x ≠ t) (hpos : 0 ≤ d.getD x 0) : ∃ j : Nat, j < ls.length ∧ Near ls d x j := by
  rcases hd.all he x hx with ⟨h1, _⟩ | ⟨_, ⟨p, hp, hl⟩, h2⟩
  · omega
  · cases p with
    | nil => simp only [endO, Option.some.injEq] at hp; omega
    | cons i p =>
      obtain ⟨w, hs, hpw⟩ := endO_uncons hp
      have hwn := step_ends he hs
      have hib := step_bound hs
      obtain ⟨j, rfl⟩ : ∃ k : Nat, i = k := ⟨i.toNat, by omega⟩
      obtain ⟨wn, rfl⟩ : ∃ k : Nat, w = k := ⟨w.toNat, by omega⟩
      refine ⟨j, by omega, wn, hs, ?_⟩
      simp only [List.length_cons] at hl
      rcases hd.all he wn (by omega) with ⟨_, g2⟩ | ⟨_, ⟨p0, hp0, hl0⟩, g2⟩
      · exact absurd hpw (g2 p)
      · have g3 := g2 p hpw
        have g4 := h2 ((j : Int) :: p0) (endO_cons hs hp0)
        simp only [List.length_cons] at g4
        omega
theorem route_start {m : Nat} {ls : List (Int × Int)} {t : Nat} {d : List Int} (he : Ends m ls) (hd : Dist m ls (t : Int) d m 0) {x : Nat} (hx : x < m) (hpos : 0 ≤ d.getD x 0) : ∃ p, Best ls x t p := by
  have hD : ∀ v, 0 ≤ v ∧ v < (m : Int) → DistOk ls t (distF d v) v := fun v hv => by
    obtain ⟨k, rfl⟩ : ∃ k : Nat, v = k := ⟨v.toNat, by omega⟩
    exact hd.all he k (by omega)
  have hdx : distF d (x : Int) = d.getD x 0 := by unfold distF; rw [Int.toNat_natCast]
  obtain ⟨p, hp, _⟩ := best_exists hD he (d.getD x 0).toNat x ⟨by omega, by omega⟩ (by omega)
  exact ⟨p, hp⟩
theorem no_route {m : Nat} {ls : List (Int × Int)} {t : Nat} {d : List Int} (he : Ends m ls) (hd : Dist m ls (t : Int) d m 0) {x : Nat} (hx : x < m) (hneg : d.getD x 0 < 0) : ∀ q, endO ls q x ≠ some (t : Int) := by
  rcases hd.all he x hx with ⟨_, h⟩ | ⟨h, _⟩
  · exact h
  · omega
theorem endV_one (ls : List (Int × Int)) (i v : Int) : endV ls [i] v = (stepN ls i v).getD (-1) := by unfold endV; rw [endO_one]
end Go.Proofs.Ytbjjgcfmdlinaaa
