/- More on slices of rows of the call's own: two rows change places, the first rows alone, one row held against another. -/
import Derived.Test.YthcinjlghhfhmaaSlA
import Derived.Test.YthcinjlghhfhmaaHold
import Derived.Test.YthcinjlghhfhmaaRedW
import Derived.WalkLawsBesides
import Derived.Test.YthcinjlghhfhmaaClr
import Derived.Test.YthcinjlghhfhmaaMat
namespace Go.Proofs.Ythcinjlghhfhmaa
open Go.RowKit
/-- Row i alone, and another row d that it is held against. -/
theorem OwnM.inner2 {w : World} {lo hi : Nat} {a : Option Addr} {len cap : Nat} {ms : List (List Int)} (h : OwnM w lo hi a len cap ms) (i : Nat) (hi' : i < len) (d : Nat) (hd : d < len) (hdi : d ≠ i) (hlo : lo ≤ w.heap.size) :
    ∃ g ai ci l2 h2 ad cd, (w.cell? ⟨g, d, none⟩ = some (.slice ad (row ms d).length cd) ∧ Sees .i64 w ad (row ms d).length (row ms d) ∧ ∀ x, ad = some x → ¬ (l2 ≤ x.block ∧ x.block < h2)) ∧ a = some ⟨g, 0, none⟩ ∧ w.cell? ⟨g, i, none⟩ = some (.slice ai (row ms i).length ci) ∧ Own .i64 3 w l2 h2 ai (row ms i).length ci (row ms i) ∧
      ∀ w' zs', Own .i64 3 w' l2 h2 ai (row ms i).length ci zs' → Moved l2 h2 w w' → OwnM w' lo hi a len cap (ms.set i zs') ∧ Moved lo hi w w' := by
  obtain ⟨h1, h2, h3, A, C, h4, h5⟩ := h
  rcases ownsRow_spot h4 with ⟨_, h0⟩ | ⟨g, rfl, hlg, hg, _, _, hc, _⟩
  · omega
  obtain ⟨o1, o2⟩ := h5 i (by omega)
  have hgb := h3 _ rfl
  simp only at hgb
  have main : ∀ l2 h2', lo ≤ l2 → h2' ≤ hi ∨ h2' ≤ l2 → Own .i64 3 w l2 h2' (A i) (row ms i).length (C i) (row ms i) → (∀ y, A i ≠ some y → True) → ¬ (l2 ≤ g ∧ g < h2') → (∀ s, s < ms.length → s ≠ i → ∀ y, A s = some y → ¬ (l2 ≤ y.block ∧ y.block < h2')) →
      (∀ x, A i = some x → lo ≤ x.block ∧ x.block < hi) →
      ∀ w' zs', Own .i64 3 w' l2 h2' (A i) (row ms i).length (C i) zs' → Moved l2 h2' w w' → OwnM w' lo hi (some ⟨g, 0, none⟩) len cap (ms.set i zs') ∧ Moved lo hi w w' := by
    intro l2 h2' hl2 hh2 _ _ hng hoff hin w' zs' ho' hm'
    have hlz : zs'.length = (row ms i).length := ho'.1
    refine ⟨⟨by simpa using h1, Nat.le_trans h2 hm'.size, h3, A, C, ?_, ?_⟩, ?_⟩
    · have e : heads A C (ms.set i zs') = heads A C ms := by
        apply List.ext_getElem?
        intro j
        by_cases hj : j < ms.length
        · rw [heads_at (by simpa using hj), heads_at hj]
          by_cases hji : j = i
          · subst hji; rw [row_set_same hj, hlz]
          · rw [row_set_other hji]
        · rw [List.getElem?_eq_none (by rw [heads_len, List.length_set]; omega), List.getElem?_eq_none (by rw [heads_len]; omega)]
      rw [e]
      exact ownsRow_kept h4 hm' (fun x hx => by cases hx; exact hng)
    · intro r hr
      have hr' : r < ms.length := by simpa using hr
      by_cases hri : r = i
      · subst hri
        rw [row_set_same hr', hlz]
        refine ⟨?_, fun x hx => ⟨(o2 x hx).1, fun s hs => (o2 x hx).2 s (by simpa using hs)⟩⟩
        obtain ⟨g1, g2, _, g4, _⟩ := ho'
        exact ⟨g1, g2, Nat.le_trans h2 hm'.size, ownsRow_wide g4 hl2, hin⟩
      · rw [row_set_other hri]
        obtain ⟨p1, p2⟩ := h5 r hr'
        exact ⟨p1.off hm' (fun x hx => hoff r hr' hri x hx), fun x hx => ⟨(p2 x hx).1, fun s hs => (p2 x hx).2 s (by simpa using hs)⟩⟩
    · refine ⟨hm'.os, hm'.tape, hm'.output, hm'.size, fun k hk hne => hm'.block k hk (by omega)⟩
  cases hA : A i with
  | none =>
    refine ⟨g, none, C i, lo, lo, A d, C d, ⟨by rw [hc d hd, heads_at (by omega)], (h5 d (by omega)).1.sees, fun x _ => by omega⟩, rfl, by rw [hc i hi', heads_at (by omega), hA], by rw [hA] at o1; exact o1.nil hlo, ?_⟩
    have := main lo lo (Nat.le_refl _) (.inr (Nat.le_refl _)) (by rw [hA]; rw [hA] at o1; exact o1.nil hlo) (fun _ _ => trivial) (by omega) (fun _ _ _ _ _ => by omega) (fun x hx => by rw [hA] at hx; cases hx)
    rw [hA] at this
    exact this
  | some x =>
    have o1' := o1
    rw [hA] at o1'
    obtain ⟨G, hG⟩ : ∃ G, x = ⟨G, 0, none⟩ := by
      rcases o1'.spot with ⟨hx, _⟩ | ⟨G, hx, _⟩
      · cases hx
      · exact ⟨G, Option.some.inj hx⟩
    subst hG
    have hb := o1.2.2.2.2 _ hA
    simp only at hb
    have hq := o2 _ hA
    simp only at hq
    refine ⟨g, some ⟨G, 0, none⟩, C i, G, G + 1, A d, C d, ⟨by rw [hc d hd, heads_at (by omega)], (h5 d (by omega)).1.sees, fun y hy => by have := hq.2 d (by omega) hdi y hy; omega⟩, rfl, by rw [hc i hi', heads_at (by omega), hA], o1'.narrow, ?_⟩
    have := main G (G + 1) hb.1 (.inl (by omega)) (by rw [hA]; exact o1'.narrow) (fun _ _ => trivial) (by have := hq.1 _ rfl; simp only at this; omega) (fun s hs hsi y hy => by have := hq.2 s hs hsi y hy; omega) (fun x hx => by rw [hA] at hx; cases hx; exact hb)
    rw [hA] at this
    exact this
/-- Two rows change places. -/
theorem OwnM.swap {w : World} {lo hi g : Nat} {len cap : Nat} {ms : List (List Int)} (h : OwnM w lo hi (some ⟨g, 0, none⟩) len cap ms) {r p : Nat} (hr : r < len) (hp : p < len) {vr vp : Value} (cr : w.cell? ⟨g, r, none⟩ = some vr) (cp : w.cell? ⟨g, p, none⟩ = some vp) :
    OwnM ((w.setCell ⟨g, r, none⟩ vp).setCell ⟨g, p, none⟩ vr) lo hi (some ⟨g, 0, none⟩) len cap ((ms.set r (row ms p)).set p (row ms r)) ∧ Moved lo hi w ((w.setCell ⟨g, r, none⟩ vp).setCell ⟨g, p, none⟩ vr) := by
  obtain ⟨h1, h2, h3, A, C, h4, h5⟩ := h
  have hg := h3 _ rfl
  simp only at hg
  rcases ownsRow_spot h4 with ⟨h0, _⟩ | ⟨g', hg', _, _, _, _, hc, _⟩
  · cases h0
  cases hg'
  rw [hc r hr, heads_at (by omega)] at cr
  rw [hc p hp, heads_at (by omega)] at cp
  obtain rfl := Option.some.inj cr
  obtain rfl := Option.some.inj cp
  obtain ⟨s1, s2⟩ := h4.stored r (.slice (A p) (row ms p).length (C p))
  obtain ⟨s3, s4⟩ := s1.stored p (.slice (A r) (row ms r).length (C r))
  have hm1 : Moved g (g + 1) w (w.setCell ⟨g, r, none⟩ (.slice (A p) (row ms p).length (C p))) := Moved.of_grown s2 (Nat.le_refl _) (Nat.lt_succ_self _)
  have hm2 : Moved g (g + 1) (w.setCell ⟨g, r, none⟩ (.slice (A p) (row ms p).length (C p))) _ := Moved.of_grown s4 (Nat.le_refl _) (Nat.lt_succ_self _)
  have hm := hm1.trans hm2
  let tr : Nat → Nat := fun i => if i = p then r else if i = r then p else i
  have tr_lt : ∀ i, i < ms.length → tr i < ms.length := fun i hi => by simp only [tr]; split <;> (try split) <;> omega
  have tr_inj : ∀ i j, i ≠ j → tr i ≠ tr j := fun i j hij => by simp only [tr]; split <;> split <;> (try split) <;> (try split) <;> omega
  have hrow : ∀ i, i < ms.length → row ((ms.set r (row ms p)).set p (row ms r)) i = row ms (tr i) := fun i hi => by
    simp only [tr]
    by_cases e1 : i = p
    · subst e1; rw [row_set_same (by simpa using hi), if_pos rfl]
    · rw [row_set_other e1, if_neg e1]
      by_cases e2 : i = r
      · subst e2; rw [row_set_same hi, if_pos rfl]
      · rw [row_set_other e2, if_neg e2]
  refine ⟨⟨by simpa using h1, by simpa [World.setCell] using h2, h3, fun i => A (tr i), fun i => C (tr i), ?_, fun i hi => ?_⟩, ⟨hm.os, hm.tape, hm.output, hm.size, fun k hk hne => hm.block k hk (by omega)⟩⟩
  · have e : ((heads A C ms).set r (.slice (A p) (row ms p).length (C p))).set p (.slice (A r) (row ms r).length (C r)) = heads (fun i => A (tr i)) (fun i => C (tr i)) ((ms.set r (row ms p)).set p (row ms r)) := by
      apply List.ext_getElem?
      intro i
      by_cases hi : i < ms.length
      · rw [heads_at (by simpa using hi), hrow i hi, List.getElem?_set]
        simp only [tr]
        by_cases e1 : p = i
        · subst e1
          rw [if_pos rfl, if_pos (by rw [List.length_set, heads_len]; exact hi), if_pos rfl]
        · have e1' : ¬ i = p := fun e => e1 e.symm
          rw [if_neg e1]
          simp only [e1', if_false]
          rw [List.getElem?_set]
          by_cases e2 : r = i
          · subst e2
            rw [if_pos rfl, if_pos (by rw [heads_len]; exact hi)]
            simp only [if_true]
          · have e2' : ¬ i = r := fun e => e2 e.symm
            rw [if_neg e2]
            simp only [e2', if_false]
            exact heads_at hi
      · rw [List.getElem?_eq_none (by rw [List.length_set, List.length_set, heads_len]; omega), List.getElem?_eq_none (by rw [heads_len, List.length_set, List.length_set]; omega)]
    rw [← e]
    exact s3
  · have hi' : i < ms.length := by simpa using hi
    rw [hrow i hi']
    obtain ⟨o1, o2⟩ := h5 (tr i) (tr_lt i hi')
    refine ⟨o1.off hm (fun x hx => by have := (o2 x hx).1 _ rfl; simp only at this; omega), fun x hx => ⟨(o2 x hx).1, fun s hs hsi => (o2 x hx).2 (tr s) (tr_lt s (by simpa using hs)) (tr_inj s i hsi)⟩⟩
/-- The first rows alone. -/
theorem OwnM.front {w : World} {lo hi : Nat} {a : Option Addr} {len cap : Nat} {ms : List (List Int)} (h : OwnM w lo hi a len cap ms) {r : Nat} (hr : r ≤ len) : OwnM w lo hi a r cap (ms.take r) := by
  obtain ⟨h1, h2, h3, A, C, h4, h5⟩ := h
  have hl : (ms.take r).length = r := by rw [List.length_take]; omega
  have hrow : ∀ i, i < r → row (ms.take r) i = row ms i := fun i hi => by
    unfold row List.getD
    rw [List.getElem?_take, if_pos hi]
  refine ⟨hl, h2, h3, A, C, ?_, fun i hi => ?_⟩
  · have e : heads A C (ms.take r) = (heads A C ms).take r := by
      apply List.ext_getElem?
      intro i
      rw [List.getElem?_take]
      by_cases hi : i < r
      · rw [heads_at (by omega), if_pos hi, heads_at (by omega), hrow i hi]
      · rw [if_neg hi, List.getElem?_eq_none (by rw [heads_len]; omega)]
    rw [e]
    refine ⟨by rw [List.length_take, heads_len]; omega, ?_⟩
    rcases h4.2 with ⟨hv, hn⟩ | ⟨g, c, cur, hv, hlo, hg, hnc, hcm, hcs, htk⟩
    · simp only [Value.slice.injEq] at hv
      obtain ⟨rfl, h6, rfl⟩ := hv
      obtain rfl : r = 0 := by omega
      exact .inl ⟨rfl, rfl⟩
    · simp only [Value.slice.injEq, true_and] at hv
      obtain ⟨rfl, rfl⟩ := hv
      refine .inr ⟨g, cap, cur, rfl, hlo, hg, by omega, hcm, hcs, ?_⟩
      rw [← htk, List.take_take]
      congr 1
      omega
  · rw [hl] at hi
    rw [hrow i hi]
    obtain ⟨o1, o2⟩ := h5 i (by omega)
    exact ⟨o1, fun x hx => ⟨(o2 x hx).1, fun s hs hsi => (o2 x hx).2 s (by omega) hsi⟩⟩
end Go.Proofs.Ythcinjlghhfhmaa
/- Slices of rows of the call's own grow: by a row, and a row by an integer. -/
namespace Go.Proofs.Ythcinjlghhfhmaa
open Go.RowKit
theorem heads_append {A : Nat → Option Addr} {C : Nat → Nat} {ms : List (List Int)} {z : List Int} {ar : Option Addr} {cr : Nat} :
    heads A C ms ++ [.slice ar z.length cr] = heads (fun r => if r = ms.length then ar else A r) (fun r => if r = ms.length then cr else C r) (ms ++ [z]) := by
  apply List.ext_getElem?
  intro j
  rcases Nat.lt_trichotomy j ms.length with hj | hj | hj
  · rw [List.getElem?_append_left (by rw [heads_len]; omega), heads_at (by omega), heads_at (by simp; omega), row_append_left (by omega), if_neg (by omega), if_neg (by omega)]
  · subst hj
    rw [List.getElem?_append_right (by rw [heads_len]; omega), heads_at (by simp), if_pos rfl, if_pos rfl, row_append_last, heads_len]
    simp
  · rw [List.getElem?_eq_none (by simp [heads_len]; omega), List.getElem?_eq_none (by rw [heads_len]; simp; omega)]
theorem run_append_ownM {P : Program} (w : World) (t ty : TypeId) (i : TypeInfo) (ht : P.underlying t = some (.slice 26)) (hi : P.info? 26 = some i)
    (hz : i.zero = some (.slice none 0 0)) (hsize : i.size = 1) (hby : i.bytes = 24) (a1 : Option Addr) (len1 cap1 : Nat) (ms : List (List Int)) (lo hi1 : Nat) (hown : OwnM w lo hi1 a1 len1 cap1 ms)
    (b : Nat) (ar : Option Addr) (cr : Nat) (z : List Int) (hc : w.cell? ⟨b, 0, none⟩ = some (.slice ar z.length cr)) (lo2 hi2 : Nat) (hs : Own .i64 3 w lo2 hi2 ar z.length cr z) (h12 : hi1 ≤ lo2) (hlo2 : lo ≤ lo2) (h63 : len1 + 1 ≤ 1073741824) (hlo : lo ≤ w.heap.size) :
    ∃ g cap' w', (Builtin.append_ #[t, t] ty #[.slice a1 len1 cap1, .slice (some ⟨b, 0, none⟩) 1 1]).run P w = .ok (.slice (some ⟨g, 0, none⟩) (len1 + 1) cap') w' ∧ OwnM w' lo w'.heap.size (some ⟨g, 0, none⟩) (len1 + 1) cap' (ms ++ [z]) ∧ Moved lo hi1 w w' := by
  obtain ⟨e1, e0, e3, A, C, e2, e5⟩ := hown
  obtain ⟨g, cap', w', hr, o1, o2, o3, o4⟩ := run_append_lies (P := P) w t ty lo 26 i (.slice none 0 0) 1 24 ht hi hz hsize hby rfl (by decide) _ len1 _ e2 ⟨b, 0, none⟩ 1 1 [.slice ar z.length cr] rfl (fun j u hu => by
      obtain rfl : j = 0 := by have := (List.getElem?_eq_some_iff.1 hu).1; simp at this; omega
      simp at hu
      subst hu
      rw [add_plain]
      exact hc) (fun u hu => by rw [List.mem_singleton] at hu; subst hu; rfl) (by decide) (by unfold maxLen; omega) (by omega) hlo _ rfl
  have hoff : ∃ l h, Moved l h w w' ∧ (l = h ∨ lo ≤ l ∧ h ≤ hi1) ∧ ∀ x, l ≤ x → x < h → ∃ y, a1 = some y ∧ y.block = x := by
    cases a1 with
    | none => exact ⟨lo, lo, ⟨o2.os, o2.tape, o2.output, o2.size, fun k hk _ => o2.block k hk (by simp [Value.ownBlock])⟩, .inl rfl, fun x h1 h2 => by omega⟩
    | some y =>
      have := e3 y rfl
      exact ⟨y.block, y.block + 1, Moved.of_grown o2 (Nat.le_refl _) (Nat.lt_succ_self _), .inr this, fun x h1 h2 => ⟨y, rfl, by omega⟩⟩
  obtain ⟨l, h, hm, hlh, hin⟩ := hoff
  have hgin : ∀ y, a1 = some y → y.block < hi1 := fun y hy => (e3 y hy).2
  have hg : (∃ y, a1 = some y ∧ y.block = g) ∨ g = w.heap.size := by
    rcases o3 with o3 | o3
    · cases a1 with
      | none => simp [Value.ownBlock] at o3
      | some y =>
        simp only [Value.ownBlock, Option.some.injEq] at o3
        exact .inl ⟨y, rfl, o3⟩
    · exact .inr o3
  have hsz := o2.size
  have hm2 : Moved lo hi1 w w' := ⟨hm.os, hm.tape, hm.output, hm.size, fun k hk hne => hm.block k hk (fun hk2 => by
    obtain ⟨y, hy, he⟩ := hin k hk2.1 hk2.2
    have := e3 y hy
    omega)⟩
  refine ⟨g, cap', w', hr, ⟨by simp [e1], Nat.le_refl _, fun x hx => ?_, fun r => if r = len1 then ar else A r, fun r => if r = len1 then cr else C r, ?_, fun r hr2 => ?_⟩, hm2⟩
  · cases hx
    rcases hg with ⟨y, hy, he⟩ | he
    · have := e3 y hy; exact ⟨by simp only; omega, o4⟩
    · exact ⟨by simp only; omega, o4⟩
  · have e := heads_append (A := A) (C := C) (ms := ms) (z := z) (ar := ar) (cr := cr)
    rw [e1] at e
    rw [← e]
    exact o1
  · have hr3 : r < len1 + 1 := by rw [List.length_append, e1] at hr2; simpa using hr2
    by_cases hrl : r = len1
    · subst hrl
      simp only [if_true]
      rw [← e1, row_append_last]
      refine ⟨(hs.off hm (fun x hx hx2 => ?_)).wide hlo2 (Nat.le_trans hs.2.2.1 hsz) (Nat.le_refl _), fun x hx => ⟨fun y hy => ?_, fun s hs2 hsr y hy => ?_⟩⟩
      · obtain ⟨y, hy, he⟩ := hin _ hx2.1 hx2.2
        have h1 := hgin y hy
        have h2 := hs.2.2.2.2 x hx
        omega
      · cases hy
        have h2 := hs.2.2.2.2 x hx
        have h3 := hs.2.2.1
        rcases hg with ⟨y, hy, he⟩ | he
        · have h1 := hgin y hy; simp only; omega
        · simp only; omega
      · rw [if_neg (by omega)] at hy
        have h1 := ((e5 s (by rw [List.length_append] at hs2; simp at hs2; omega)).1).2.2.2.2 y hy
        have h2 := hs.2.2.2.2 x hx
        omega
    · have hr4 : r < ms.length := by omega
      simp only [hrl, if_false]
      rw [row_append_left hr4]
      obtain ⟨q1, q2⟩ := e5 r hr4
      have hq := q1.2.2.2.2
      refine ⟨(q1.off hm (fun x hx hx2 => ?_)).wide (Nat.le_refl _) (Nat.le_trans e0 hsz) (Nat.le_refl _), fun x hx => ⟨fun y hy => ?_, fun s hs2 hsr y hy => ?_⟩⟩
      · obtain ⟨y, hy, he⟩ := hin _ hx2.1 hx2.2
        exact (q2 x hx).1 y hy he.symm
      · cases hy
        rcases hg with ⟨y, hy, he⟩ | he
        · have := (q2 x hx).1 y hy; simp only; omega
        · have := hq x hx; simp only; omega
      · by_cases hsl : s = len1
        · rw [if_pos hsl] at hy
          have h1 := hs.2.2.2.2 y hy
          have h2 := hq x hx
          omega
        · rw [if_neg hsl] at hy
          exact (q2 x hx).2 s (by rw [List.length_append] at hs2; simp at hs2; omega) hsr y hy
theorem wp_append_ownM {P : Program} {w : World} {ops : Array Oper} {rest : List Oper} {o : Oper} {act : Act} {Q : Exit → Act → World → Prop} (hgd : o.guard = none) (s x : Operand) (t : TypeId)
    (ho : o.op = .call { callee := .builtin .append, args := #[s, x], argTypes := #[t, t] }) (i : TypeInfo) (ht : P.underlying t = some (.slice 26)) (hi : P.info? 26 = some i)
    (hz : i.zero = some (.slice none 0 0)) (hsize : i.size = 1) (hby : i.bytes = 24) (a1 : Option Addr) (len1 cap1 : Nat) (hsv : act.eval s = .slice a1 len1 cap1) (b : Nat) (hxv : act.eval x = .slice (some ⟨b, 0, none⟩) 1 1) (ms : List (List Int)) (lo hi1 : Nat) (hown : OwnM w lo hi1 a1 len1 cap1 ms)
    (ar : Option Addr) (cr : Nat) (z : List Int) (hc : w.cell? ⟨b, 0, none⟩ = some (.slice ar z.length cr)) (lo2 hi2 : Nat) (hs : Own .i64 3 w lo2 hi2 ar z.length cr z) (h12 : hi1 ≤ lo2) (hlo2 : lo ≤ lo2) (h63 : len1 + 1 ≤ 1073741824) (hlo : lo ≤ w.heap.size)
    (h : ∀ g cap' w', OwnM w' lo w'.heap.size (some ⟨g, 0, none⟩) (len1 + 1) cap' (ms ++ [z]) → Moved lo hi1 w w' → wpList P ops Q rest (act.put o.dst (.slice (some ⟨g, 0, none⟩) (len1 + 1) cap')) w') : wpList P ops Q (o :: rest) act w := by
  obtain ⟨g, cap', w', hr, k1, k2⟩ := run_append_ownM (P := P) w t o.type i ht hi hz hsize hby a1 len1 cap1 ms lo hi1 hown b ar cr z hc lo2 hi2 hs h12 hlo2 h63 hlo
  refine wpList_plain hgd fun K hK => ?_
  unfold Oper.wp execOp
  simp only [ho, resolve, invoke, builtin, Sem.run_bind, Sem.run_pure, Result.andThen_ok, List.map_toArray, List.map_cons, List.map_nil, hsv, hxv, hr]
  exact hK _ _ (h g cap' w' k1 k2)
/-- A row is replaced by another one of the call's own. -/
theorem OwnM.replace {w w' : World} {lo hi g : Nat} {len cap : Nat} {ms : List (List Int)} (h : OwnM w lo hi (some ⟨g, 0, none⟩) len cap ms) {i : Nat} (hi' : i < len) {l2 h2 : Nat} (hm : Moved l2 h2 w w') (hng : ¬ (l2 ≤ g ∧ g < h2))
    {a' : Option Addr} {c' : Nat} {zs : List Int} (hn : Own .i64 3 w' lo w'.heap.size a' zs.length c' zs) (hoth : ∀ A : Nat → Option Addr, ∀ s, s < len → s ≠ i → (∃ C, w.cell? ⟨g, s, none⟩ = some (.slice (A s) (row ms s).length C)) → ∀ y, A s = some y → ¬ (l2 ≤ y.block ∧ y.block < h2) ∧ ∀ x, a' = some x → x.block ≠ y.block) (hag : ∀ x, a' = some x → x.block ≠ g) :
    OwnM (w'.setCell ⟨g, i, none⟩ (.slice a' zs.length c')) lo w'.heap.size (some ⟨g, 0, none⟩) len cap (ms.set i zs) ∧ (hi ≤ w.heap.size → Below lo w w' → Below lo w (w'.setCell ⟨g, i, none⟩ (.slice a' zs.length c'))) := by
  obtain ⟨h1, h0, h3, A, C, h4, h5⟩ := h
  have hgb := h3 _ rfl
  simp only at hgb
  rcases ownsRow_spot h4 with ⟨hx, _⟩ | ⟨g', hg', _, hgs, _, _, hc, _⟩
  · cases hx
  cases hg'
  have h4' := ownsRow_kept h4 hm (fun x hx => by cases hx; exact hng)
  obtain ⟨s1, s2⟩ := h4'.stored i (.slice a' zs.length c')
  have hmg : Moved g (g + 1) w' (w'.setCell ⟨g, i, none⟩ (.slice a' zs.length c')) := Moved.of_grown s2 (Nat.le_refl _) (Nat.lt_succ_self _)
  have hsz := hm.size
  have ho : ∀ s, s < len → s ≠ i → ∀ y, A s = some y → ¬ (l2 ≤ y.block ∧ y.block < h2) ∧ ∀ x, a' = some x → x.block ≠ y.block := fun s hs hsi => hoth A s hs hsi ⟨C s, by rw [hc s hs, heads_at (by omega)]⟩
  refine ⟨⟨by simpa using h1, by simp [World.setCell], fun x hx => by cases hx; exact ⟨hgb.1, by simp only; omega⟩, fun r => if r = i then a' else A r, fun r => if r = i then c' else C r, ?_, fun r hr => ?_⟩, fun _ hb => hb.trans (hmg.below hgb.1 (by omega))⟩
  · have e : (heads A C ms).set i (.slice a' zs.length c') = heads (fun r => if r = i then a' else A r) (fun r => if r = i then c' else C r) (ms.set i zs) := by
      apply List.ext_getElem?
      intro j
      by_cases hj : j < ms.length
      · rw [heads_at (by simpa using hj), List.getElem?_set]
        by_cases hij : i = j
        · subst hij
          rw [if_pos rfl, if_pos (by rw [heads_len]; exact hj), row_set_same hj]
          simp
        · rw [if_neg hij, heads_at hj, row_set_other (fun e => hij e.symm)]
          rw [if_neg (fun e => hij e.symm), if_neg (fun e => hij e.symm)]
      · rw [List.getElem?_eq_none (by rw [List.length_set, heads_len]; omega), List.getElem?_eq_none (by rw [heads_len, List.length_set]; omega)]
    rw [← e]
    exact s1
  · have hr' : r < ms.length := by simpa using hr
    by_cases hri : r = i
    · subst hri
      simp only [if_true]
      rw [row_set_same hr']
      refine ⟨(hn.off hmg (fun x hx => by have := hag x hx; omega)).wide (Nat.le_refl _) (Nat.le_refl _) (by simp [World.setCell]), fun x hx => ⟨fun y hy => by cases hy; exact hag x hx, fun s hs hsr y hy => ?_⟩⟩
      rw [if_neg hsr] at hy
      exact (ho s (by simpa [h1] using hs) hsr y hy).2 x hx
    · simp only [hri, if_false]
      rw [row_set_other hri]
      obtain ⟨q1, q2⟩ := h5 r hr'
      refine ⟨((q1.off hm (fun x hx => (ho r (by omega) hri x hx).1)).off hmg (fun x hx => by have := (q2 x hx).1 _ rfl; simp only at this; omega)).wide (Nat.le_refl _) (by omega) (by simp [World.setCell]), fun x hx => ⟨(q2 x hx).1, fun s hs hsr y hy => ?_⟩⟩
      by_cases hsi : s = i
      · rw [if_pos hsi] at hy
        exact fun e => (ho r (by omega) hri x hx).2 y hy e.symm
      · rw [if_neg hsi] at hy
        exact (q2 x hx).2 s (by simpa using hs) hsr y hy
/-- An integer goes behind row i. -/
theorem OwnM.grow {P : Program} {w : World} {lo hi1 g : Nat} {len cap : Nat} {ms : List (List Int)} (h : OwnM w lo hi1 (some ⟨g, 0, none⟩) len cap ms) (hlo : lo ≤ w.heap.size) {k : Nat} (hk : k < len) (t ty : TypeId) (i : TypeInfo) (ht : P.underlying t = some (.slice 3)) (hi : P.info? 3 = some i)
    (hz : i.zero = some (.int .i64 0)) (hsize : i.size = 1) (hby : i.bytes = 8) (b : Nat) (x : Int) (hb : w.cell? ⟨b, 0, none⟩ = some (.int .i64 x)) (hx : (Lit.int .i64 x).wf = true) (hsm : (row ms k).length + 1 ≤ 1073741824) {ak : Option Addr} {ck : Nat} (hck : w.cell? ⟨g, k, none⟩ = some (.slice ak (row ms k).length ck)) :
    ∃ a' c' w', (Builtin.append_ #[t, t] ty #[.slice ak (row ms k).length ck, .slice (some ⟨b, 0, none⟩) 1 1]).run P w = .ok (.slice a' ((row ms k).length + 1) c') w' ∧ w'.cell? ⟨g, k, none⟩ = some (.slice ak (row ms k).length ck) ∧ w'.frozen? ⟨g, k, none⟩ = false ∧
      OwnM (w'.setCell ⟨g, k, none⟩ (.slice a' ((row ms k).length + 1) c')) lo (w'.setCell ⟨g, k, none⟩ (.slice a' ((row ms k).length + 1) c')).heap.size (some ⟨g, 0, none⟩) len cap (ms.set k (row ms k ++ [x])) ∧ Moved lo hi1 w (w'.setCell ⟨g, k, none⟩ (.slice a' ((row ms k).length + 1) c')) := by
  have h0 := h
  obtain ⟨e1, e0, e3, A, C, e2, e5⟩ := h
  rcases ownsRow_spot e2 with ⟨hx0, _⟩ | ⟨g', hg', _, hgs, _, _, hc, hf⟩
  · cases hx0
  cases hg'
  have hgb := e3 _ rfl
  simp only at hgb
  have hA : A k = ak ∧ C k = ck := by
    have := hc k hk
    rw [hck, heads_at (by omega)] at this
    simp only [Option.some.injEq, Value.slice.injEq, true_and] at this
    exact ⟨this.1.symm, this.2.symm⟩
  obtain ⟨q1, q2⟩ := e5 k (by omega)
  rw [hA.1, hA.2] at q1
  rw [hA.1] at q2
  obtain ⟨g2, cap', w', hr, o1, o2, o3, o4⟩ := run_append_lies (P := P) w t ty lo 3 i (.int .i64 0) 1 8 ht hi hz hsize hby rfl (by decide) _ (row ms k).length _ q1.2.2.2.1 ⟨b, 0, none⟩ 1 1 [.int .i64 x] rfl (fun j u hu => by
      obtain rfl : j = 0 := by have := (List.getElem?_eq_some_iff.1 hu).1; simp at this; omega
      simp at hu
      subst hu
      rw [add_plain]
      exact hb) (fun u hu => by rw [List.mem_singleton] at hu; subst hu; rfl) (by decide) (by unfold maxLen; omega) (by omega) hlo _ rfl
  have hsz := o2.size
  -- which block may have turned: the row's own
  have hmv : ∃ l h, Moved l h w w' ∧ ∀ y, l ≤ y → y < h → ∃ z, ak = some z ∧ z.block = y := by
    cases ak with
    | none => exact ⟨lo, lo, ⟨o2.os, o2.tape, o2.output, o2.size, fun k hk _ => o2.block k hk (by simp [Value.ownBlock])⟩, fun x h1 h2 => by omega⟩
    | some y => exact ⟨y.block, y.block + 1, Moved.of_grown o2 (Nat.le_refl _) (Nat.lt_succ_self _), fun x h1 h2 => ⟨y, rfl, by omega⟩⟩
  obtain ⟨l, hh, hm, hin⟩ := hmv
  have hg2 : (∃ y, ak = some y ∧ y.block = g2) ∨ g2 = w.heap.size := by
    rcases o3 with o3 | o3
    · cases ak with
      | none => simp [Value.ownBlock] at o3
      | some y =>
        simp only [Value.ownBlock, Option.some.injEq] at o3
        exact .inl ⟨y, rfl, o3⟩
    · exact .inr o3
  have hwf : ∀ n ∈ row ms k ++ [x], (Lit.int .i64 n).wf = true := by
    intro n hn
    rcases List.mem_append.1 hn with hn | hn
    · exact q1.2.1 n hn
    · rw [List.mem_singleton] at hn; rw [hn]; exact hx
  have hnew : Own .i64 3 w' lo w'.heap.size (some ⟨g2, 0, none⟩) (row ms k ++ [x]).length cap' (row ms k ++ [x]) := by
    have := own_of (n := (row ms k).length + 1) (zs := row ms k ++ [x]) (k := .i64) (by rw [List.map_append]; exact o1) hwf
    rw [show (row ms k ++ [x]).length = (row ms k).length + 1 by simp]
    exact this
  have hng : ¬ (l ≤ g ∧ g < hh) := fun hx2 => by
    obtain ⟨z, hz2, he⟩ := hin g hx2.1 hx2.2
    exact (q2 z hz2).1 _ rfl he
  have hag : g2 ≠ g := fun e => by
    rcases hg2 with ⟨y, hy, he⟩ | he
    · exact (q2 y hy).1 _ rfl (by simp only; omega)
    · omega
  have hrep := h0.replace hk hm hng (a' := some ⟨g2, 0, none⟩) (c' := cap') hnew (fun B s hs hsk hB y hy => by
    obtain ⟨D, hD⟩ := hB
    rw [hc s hs, heads_at (by omega)] at hD
    simp only [Option.some.injEq, Value.slice.injEq, true_and] at hD
    rw [← hD.1] at hy
    have hys := ((e5 s (by omega)).1).2.2.2.2 y hy
    refine ⟨fun hx2 => ?_, fun z hz2 => ?_⟩
    · obtain ⟨z, hz2, he⟩ := hin _ hx2.1 hx2.2
      exact (q2 z hz2).2 s (by omega) hsk y hy he
    · cases hz2
      rcases hg2 with ⟨z, hz2, he⟩ | he
      · have := (q2 z hz2).2 s (by omega) hsk y hy; simp only; omega
      · simp only; omega) (fun z hz2 => by cases hz2; exact hag)
  have hlen : (row ms k ++ [x]).length = (row ms k).length + 1 := by simp
  rw [hlen] at hrep
  refine ⟨some ⟨g2, 0, none⟩, cap', w', hr, (World.cell?_of_block (w := w) (a := ⟨g, k, none⟩) (hm.block g hgs hng)).trans hck, (World.frozen?_of_block (w := w) (a := ⟨g, k, none⟩) (hm.block g hgs hng)).trans (hf k), ?_, ?_⟩
  · have h1 := hrep.1
    exact ⟨h1.1, by simp, fun y hy => ⟨(h1.2.2.1 y hy).1, by have := (h1.2.2.1 y hy).2; simp [World.setCell]; omega⟩, by
      obtain ⟨_, _, _, A', C', k4, k5⟩ := h1
      exact ⟨A', C', k4, fun r hr2 => ⟨(k5 r hr2).1.wide (Nat.le_refl _) (by simp [World.setCell]) (Nat.le_refl _), (k5 r hr2).2⟩⟩⟩
  · have hmset : Moved g (g + 1) w' (w'.setCell ⟨g, k, none⟩ (.slice (some ⟨g2, 0, none⟩) ((row ms k).length + 1) cap')) := ⟨rfl, rfl, rfl, by simp [World.setCell], fun j _ hne => Below.heap_setCell w' _ _ j (by simp; omega)⟩
    have hlow : ∀ z, ak = some z → lo ≤ z.block ∧ z.block < hi1 := q1.2.2.2.2
    refine ⟨hmset.os.trans hm.os, hmset.tape.trans hm.tape, hmset.output.trans hm.output, Nat.le_trans hm.size hmset.size, fun j hj hne => ?_⟩
    rw [hmset.block j (Nat.lt_of_lt_of_le hj hm.size) (by omega)]
    refine hm.block j hj (fun hx2 => ?_)
    obtain ⟨z, hz2, he⟩ := hin j hx2.1 hx2.2
    have := hlow z hz2
    omega
end Go.Proofs.Ythcinjlghhfhmaa
/- The program's copies: of a row, of rows. -/
namespace Go.Proofs.Ythcinjlghhfhmaa
open Go.RowKit
end Go.Proofs.Ythcinjlghhfhmaa
/- The program's elimination. -/
namespace Go.Proofs.Ythcinjlghhfhmaa
open Go.RowKit
/-- Rows whose elimination stays in range, over all n columns. -/
structure ElimOk (n : Nat) (ms : List (List Int)) : Prop where
  n7 : n ≤ 7
  len : ms.length ≤ 12
  wid : ∀ i, i < ms.length → (row ms i).length = n
  small : ∀ i, i < ms.length → Fit 1000 (row ms i)
  fit : ∀ k, k < n → ∀ i, i < ms.length → Fit 2000000000 (row (redL (ms.map tidyL) k).1 i)
  col : ∀ k, k < n → ∀ i, i < ms.length → -1000000000 ≤ vec (row (redL (ms.map tidyL) k).1 i) k ∧ vec (row (redL (ms.map tidyL) k).1 i) k ≤ 1000000000
theorem ElimOk.inv {n : Nat} {ms : List (List Int)} (h : ElimOk n ms) {k : Nat} (hk : k ≤ n) : InvL n n ms (redL (ms.map tidyL) k) k := inv_red (Nat.le_refl n) h.wid k hk
/-- The cells as the elimination of a matrix leaves them. -/
theorem fine_fit {n : Nat} {ms : List (List Int)} (hf : Fine n n ms) {k : Nat} (hk : k < n) {i : Nat} (hi : i < ms.length) : Fit 2985984 (row (redL (ms.map tidyL) k).1 i) := fun j => by
  have I := hf.inv (k := k) (by omega)
  rcases Nat.lt_or_ge j n with hj | hj
  · have := inv_bound (N := 2) I hk hf.q6 hf.small (j := j) (fun i hi => hf.small i hi j hj) hi
    omega
  · rw [vec_beyond (by rw [I.wid i hi]; exact hj)]
    decide
theorem Fine.elimOk {n : Nat} {ms : List (List Int)} (hf : Fine n n ms) : ElimOk n ms :=
  ⟨hf.n7, hf.len, hf.wid, fun i hi j => hf.fit i hi j, fun _ hk _ hi => (fine_fit hf hk hi).up (by decide), fun k hk i hi => by have := fine_fit hf hk hi k; omega⟩
/-- What a call of eliminate finds: the rows P, of which the first r are reduced, at column k. -/
structure ElimAt (n : Nat) (ms P : List (List Int)) (r k : Nat) : Prop where
  sim : Sim P (redL (ms.map tidyL) k).1
  same : 1 ≤ r → P = (redL (ms.map tidyL) k).1
  zero : r = 0 → P = ms
  rr : r = (redL (ms.map tidyL) k).2
theorem ElimAt.len {n : Nat} {ms P : List (List Int)} {r k : Nat} (h : ElimAt n ms P r k) (hf : ElimOk n ms) (hk : k ≤ n) : P.length = ms.length := by
  rw [h.sim.1, (hf.inv hk).len]
theorem ElimAt.fit {n : Nat} {ms P : List (List Int)} {r k : Nat} (h : ElimAt n ms P r k) (hf : ElimOk n ms) (hk : k < n) {i : Nat} (hi : i < P.length) : Fit 2000000000 (row P i) ∧ -1000000000 ≤ vec (row P i) k ∧ vec (row P i) k ≤ 1000000000 := by
  rw [h.len hf (Nat.le_of_lt hk)] at hi
  rcases Nat.eq_zero_or_pos r with h0 | h0
  · rw [h.zero h0]
    have hs := hf.small i hi
    exact ⟨hs.up (by decide), by have := hs k; omega⟩
  · rw [h.same h0]
    exact ⟨hf.fit k hk i hi, hf.col k hk i hi⟩
theorem ElimAt.wid {n : Nat} {ms P : List (List Int)} {r k : Nat} (h : ElimAt n ms P r k) (hf : ElimOk n ms) (hk : k ≤ n) {i : Nat} (hi : i < P.length) : (row P i).length = n := by
  have h1 := h.sim.2 i hi
  have h2 := (hf.inv hk).wid i (by rw [← h.len hf hk]; exact hi)
  rw [← h1, tidyL_len] at h2
  exact h2
theorem ElimAt.rle {n : Nat} {ms P : List (List Int)} {r k : Nat} (h : ElimAt n ms P r k) (hf : ElimOk n ms) (hk : k ≤ n) : r ≤ P.length := by
  rw [h.len hf hk, h.rr]
  exact (hf.inv hk).rle
theorem ElimAt.front {n : Nat} {ms P : List (List Int)} {r k : Nat} (h : ElimAt n ms P r k) : P.take r = (redL (ms.map tidyL) k).1.take r := by
  rcases Nat.eq_zero_or_pos r with h0 | h0
  · subst h0; rfl
  · rw [h.same h0]
theorem ElimAt.start {n : Nat} {ms : List (List Int)} : ElimAt n ms ms 0 0 :=
  ⟨sim_start ms, fun h => absurd h (by decide), fun _ => rfl, rfl⟩
theorem ElimAt.pass {n : Nat} {ms P : List (List Int)} {r k : Nat} (h : ElimAt n ms P r k) (hp : findP P r k = P.length) (hr : r ≤ P.length) : ElimAt n ms P r (k + 1) := by
  have e : redL (ms.map tidyL) (k + 1) = redL (ms.map tidyL) k := stepL_pass (by rw [← h.rr, ← h.sim.find hr, hp, h.sim.1])
  exact ⟨by rw [e]; exact h.sim, fun h1 => by rw [e]; exact h.same h1, h.zero, by rw [e]; exact h.rr⟩
theorem ElimAt.step {n : Nat} {ms P : List (List Int)} {r k : Nat} (h : ElimAt n ms P r k) (hf : ElimOk n ms) (hk : k < n) (hp : findP P r k ≠ P.length) :
    ElimAt n ms (clrBy (fun z => clearL z (row (pswap P r (findP P r k)) r) k) (pswap P r (findP P r k)) r P.length) (r + 1) (k + 1) := by
  have hr := h.rle hf (Nat.le_of_lt hk)
  have hfd := h.sim.find (k := k) hr
  have e : (clrBy (fun z => clearL z (row (pswap P r (findP P r k)) r) k) (pswap P r (findP P r k)) r P.length, r + 1) = redL (ms.map tidyL) (k + 1) := by
    show _ = stepL k (redL (ms.map tidyL) k)
    have := h.sim.step (n := n) (k := k) (s := redL (ms.map tidyL) k) (fun i hi => h.wid hf (Nat.le_of_lt hk) hi) hk (by rw [← h.rr]; exact hr) (by rw [← h.rr, ← hfd, ← h.sim.1]; exact hp)
    rw [← h.rr, ← hfd] at this
    exact this
  have e1 := congrArg Prod.fst e
  have e2 := congrArg Prod.snd e
  simp only at e1 e2
  exact ⟨by rw [e1]; exact sim_self (hf.inv (k := k + 1) (by omega)), fun _ => e1, fun h0 => absurd h0 (by omega), e2⟩
theorem tidy_col {B : Int} {z : List Int} {k : Nat} (h : -B ≤ vec z k ∧ vec z k ≤ B) : -B ≤ vec (tidyL z) k ∧ vec (tidyL z) k ≤ B := by
  rcases Nat.lt_or_ge k z.length with hj | hj
  · unfold tidyL
    split
    · exact h
    · rw [vec_mapL hj]
      exact tdiv_fit h.1 h.2
  · rw [vec_beyond (by rw [tidyL_len]; exact hj)]
    omega
/-- What eliminate leaves. -/
def ElimEnd (n : Nat) (ms : List (List Int)) (lo hi : Nat) (a : Option Addr) (cap : Nat) (w : World) (e : Ending) (w' : World) : Prop :=
  ∃ r, e = .returned (.slice a r cap) ∧ OwnM w' lo hi a r cap (rrL ms n) ∧ Moved lo hi w w'
theorem OwnM.block {w : World} {lo hi : Nat} {a : Option Addr} {len cap : Nat} {ms : List (List Int)} (h : OwnM w lo hi a len cap ms) (hl : 0 < len) : ∃ g, a = some ⟨g, 0, none⟩ ∧ g < w.heap.size ∧ len ≤ cap ∧ ∀ i, i < len → w.frozen? ⟨g, i, none⟩ = false := by
  obtain ⟨h1, h2, h3, A, C, h4, h5⟩ := h
  rcases ownsRow_spot h4 with ⟨_, h0⟩ | ⟨g, rfl, _, hg, hc, _, _, hf⟩
  · omega
  · exact ⟨g, rfl, hg, hc, fun i _ => hf i⟩
end Go.Proofs.Ythcinjlghhfhmaa
/- The program's ReduceRows and RankOf. -/
namespace Go.Proofs.Ythcinjlghhfhmaa
open Go.RowKit
theorem rrL_nil (n : Nat) : rrL [] n = [] := by
  have : ∀ k, (redL (([] : List (List Int)).map tidyL) k).1 = [] := by
    intro k
    have h : (redL (([] : List (List Int)).map tidyL) k).1.length = 0 := by
      induction k with
      | zero => rfl
      | succ k ih =>
        show (stepL k (redL _ k)).1.length = 0
        unfold stepL
        split
        · exact ih
        · rw [clrBy_len, swapL_len]; exact ih
    exact List.eq_nil_of_length_eq_zero h
  unfold rrL
  rw [this n]
  simp
theorem ownM_nil (W : World) : OwnM (W.alloc (.cells #[] 26)) W.heap.size (W.heap.size + 1) (some ⟨W.heap.size, 0, none⟩) 0 0 [] :=
  ⟨rfl, by simp, fun x hx => by cases hx; exact ⟨Nat.le_refl _, Nat.lt_succ_self _⟩, fun _ => none, fun _ => 0, ⟨rfl, .inr ⟨W.heap.size, 0, #[], rfl, Nat.le_refl _, heap_alloc_new W _, Nat.le_refl _, Nat.zero_le _, rfl, rfl⟩⟩, fun r hr => absurd hr (Nat.not_lt_zero _)⟩
end Go.Proofs.Ythcinjlghhfhmaa
