/- More on slices of rows of the call's own: two rows change places, the first rows alone, one row held against another. -/
import Derived.Test.YtedkeobhcpbigaaSlA
import Derived.Test.YtedkeobhcpbigaaHold
import Derived.Test.YtedkeobhcpbigaaRedW
import Derived.WalkLawsBesides
import Derived.Test.YtedkeobhcpbigaaClr
import Derived.Test.YtedkeobhcpbigaaMat
namespace Go.Proofs.Ytedkeobhcpbigaa
open Go.RowKit
/-- Row i alone, and another row d that it is held against. -/
theorem OwnM.inner2 {w : World} {lo hi : Nat} {a : Option Addr} {len cap : Nat} {ms : List (List Int)} (h : OwnM w lo hi a len cap ms) (i : Nat) (hi' : i < len) (d : Nat) (hd : d < len) (hdi : d ≠ i) (hlo : lo ≤ w.heap.size) :
    ∃ g ai ci l2 h2 ad cd, (w.cell? ⟨g, d, none⟩ = some (.slice ad (row ms d).length cd) ∧ Sees .i64 w ad (row ms d).length (row ms d) ∧ ∀ x, ad = some x → ¬ (l2 ≤ x.block ∧ x.block < h2)) ∧ a = some ⟨g, 0, none⟩ ∧ w.cell? ⟨g, i, none⟩ = some (.slice ai (row ms i).length ci) ∧ Own .i64 3 w l2 h2 ai (row ms i).length ci (row ms i) ∧
      ∀ w' zs', Own .i64 3 w' l2 h2 ai (row ms i).length ci zs' → Moved l2 h2 w w' → OwnM w' lo hi a len cap (ms.set i zs') ∧ Moved lo hi w w' := by
  obtain ⟨h1, h2, h3, A, C, h4, h5⟩ := h
  rcases ownsRow_spot h4 with ⟨_, h0⟩ | ⟨g, rfl, hlg, hg, _, _, hc, _⟩
  · omega
  obtain ⟨o1, o2⟩ := h5 i (by omega)
  have hgb := h3 _ rfl
  simp only at hgb
  have main : ∀ l2 h2', lo ≤ l2 → h2' ≤ hi ∨ h2' ≤ l2 → Own .i64 3 w l2 h2' (A i) (row ms i).length (C i) (row ms i) → (∀ y, A i ≠ some y → True) → ¬ (l2 ≤ g ∧ g < h2') → (∀ s, s < ms.length → s ≠ i → ∀ y, A s = some y → ¬ (l2 ≤ y.block ∧ y.block < h2')) →
      (∀ x, A i = some x → lo ≤ x.block ∧ x.block < hi) →
      ∀ w' zs', Own .i64 3 w' l2 h2' (A i) (row ms i).length (C i) zs' → Moved l2 h2' w w' → OwnM w' lo hi (some ⟨g, 0, none⟩) len cap (ms.set i zs') ∧ Moved lo hi w w' := by
    intro l2 h2' hl2 hh2 _ _ hng hoff hin w' zs' ho' hm'
    have hlz : zs'.length = (row ms i).length := ho'.1
    refine ⟨⟨by simpa using h1, Nat.le_trans h2 hm'.size, h3, A, C, ?_, ?_⟩, ?_⟩
    · have e : heads A C (ms.set i zs') = heads A C ms := by
        apply List.ext_getElem?
        intro j
        by_cases hj : j < ms.length
        · rw [heads_at (by simpa using hj), heads_at hj]
          by_cases hji : j = i
          · subst hji; rw [row_set_same hj, hlz]
          · rw [row_set_other hji]
        · rw [List.getElem?_eq_none (by rw [heads_len, List.length_set]; omega), List.getElem?_eq_none (by rw [heads_len]; omega)]
      rw [e]
      exact ownsRow_kept h4 hm' (fun x hx => by cases hx; exact hng)
    · intro r hr
      have hr' : r < ms.length := by simpa using hr
      by_cases hri : r = i
      · subst hri
        rw [row_set_same hr', hlz]
        refine ⟨?_, fun x hx => ⟨(o2 x hx).1, fun s hs => (o2 x hx).2 s (by simpa using hs)⟩⟩
        obtain ⟨g1, g2, _, g4, _⟩ := ho'
        exact ⟨g1, g2, Nat.le_trans h2 hm'.size, ownsRow_wide g4 hl2, hin⟩
      · rw [row_set_other hri]
        obtain ⟨p1, p2⟩ := h5 r hr'
        exact ⟨p1.off hm' (fun x hx => hoff r hr' hri x hx), fun x hx => ⟨(p2 x hx).1, fun s hs => (p2 x hx).2 s (by simpa using hs)⟩⟩
    · refine ⟨hm'.os, hm'.tape, hm'.output, hm'.size, fun k hk hne => hm'.block k hk (by omega)⟩
  cases hA : A i with
  | none =>
    refine ⟨g, none, C i, lo, lo, A d, C d, ⟨by rw [hc d hd, heads_at (by omega)], (h5 d (by omega)).1.sees, fun x _ => by omega⟩, rfl, by rw [hc i hi', heads_at (by omega), hA], by rw [hA] at o1; exact o1.nil hlo, ?_⟩
    have := main lo lo (Nat.le_refl _) (.inr (Nat.le_refl _)) (by rw [hA]; rw [hA] at o1; exact o1.nil hlo) (fun _ _ => trivial) (by omega) (fun _ _ _ _ _ => by omega) (fun x hx => by rw [hA] at hx; cases hx)
    rw [hA] at this
    exact this
  | some x =>
    have o1' := o1
    rw [hA] at o1'
    obtain ⟨G, hG⟩ : ∃ G, x = ⟨G, 0, none⟩ := by
      rcases o1'.spot with ⟨hx, _⟩ | ⟨G, hx, _⟩
      · cases hx
      · exact ⟨G, Option.some.inj hx⟩
    subst hG
    have hb := o1.2.2.2.2 _ hA
    simp only at hb
    have hq := o2 _ hA
    simp only at hq
    refine ⟨g, some ⟨G, 0, none⟩, C i, G, G + 1, A d, C d, ⟨by rw [hc d hd, heads_at (by omega)], (h5 d (by omega)).1.sees, fun y hy => by have := hq.2 d (by omega) hdi y hy; omega⟩, rfl, by rw [hc i hi', heads_at (by omega), hA], o1'.narrow, ?_⟩
    have := main G (G + 1) hb.1 (.inl (by omega)) (by rw [hA]; exact o1'.narrow) (fun _ _ => trivial) (by have := hq.1 _ rfl; simp only at this; omega) (fun s hs hsi y hy => by have := hq.2 s hs hsi y hy; omega) (fun x hx => by rw [hA] at hx; cases hx; exact hb)
    rw [hA] at this
    exact this
/-- Two rows change places. -/
theorem OwnM.swap {w : World} {lo hi g : Nat} {len cap : Nat} {ms : List (List Int)} (h : OwnM w lo hi (some ⟨g, 0, none⟩) len cap ms) {r p : Nat} (hr : r < len) (hp : p < len) {vr vp : Value} (cr : w.cell? ⟨g, r, none⟩ = some vr) (cp : w.cell? ⟨g, p, none⟩ = some vp) :
    OwnM ((w.setCell ⟨g, r, none⟩ vp).setCell ⟨g, p, none⟩ vr) lo hi (some ⟨g, 0, none⟩) len cap ((ms.set r (row ms p)).set p (row ms r)) ∧ Moved lo hi w ((w.setCell ⟨g, r, none⟩ vp).setCell ⟨g, p, none⟩ vr) := by
  obtain ⟨h1, h2, h3, A, C, h4, h5⟩ := h
  have hg := h3 _ rfl
  simp only at hg
  rcases ownsRow_spot h4 with ⟨h0, _⟩ | ⟨g', hg', _, _, _, _, hc, _⟩
  · cases h0
  cases hg'
  rw [hc r hr, heads_at (by omega)] at cr
  rw [hc p hp, heads_at (by omega)] at cp
  obtain rfl := Option.some.inj cr
  obtain rfl := Option.some.inj cp
  obtain ⟨s1, s2⟩ := h4.stored r (.slice (A p) (row ms p).length (C p))
  obtain ⟨s3, s4⟩ := s1.stored p (.slice (A r) (row ms r).length (C r))
  have hm1 : Moved g (g + 1) w (w.setCell ⟨g, r, none⟩ (.slice (A p) (row ms p).length (C p))) := Moved.of_grown s2 (Nat.le_refl _) (Nat.lt_succ_self _)
  have hm2 : Moved g (g + 1) (w.setCell ⟨g, r, none⟩ (.slice (A p) (row ms p).length (C p))) _ := Moved.of_grown s4 (Nat.le_refl _) (Nat.lt_succ_self _)
  have hm := hm1.trans hm2
  let tr : Nat → Nat := fun i => if i = p then r else if i = r then p else i
  have tr_lt : ∀ i, i < ms.length → tr i < ms.length := fun i hi => by simp only [tr]; split <;> (try split) <;> omega
  have tr_inj : ∀ i j, i ≠ j → tr i ≠ tr j := fun i j hij => by simp only [tr]; split <;> split <;> (try split) <;> (try split) <;> omega
  have hrow : ∀ i, i < ms.length → row ((ms.set r (row ms p)).set p (row ms r)) i = row ms (tr i) := fun i hi => by
    simp only [tr]
    by_cases e1 : i = p
    · subst e1; rw [row_set_same (by simpa using hi), if_pos rfl]
    · rw [row_set_other e1, if_neg e1]
      by_cases e2 : i = r
      · subst e2; rw [row_set_same hi, if_pos rfl]
      · rw [row_set_other e2, if_neg e2]
  refine ⟨⟨by simpa using h1, by simpa [World.setCell] using h2, h3, fun i => A (tr i), fun i => C (tr i), ?_, fun i hi => ?_⟩, ⟨hm.os, hm.tape, hm.output, hm.size, fun k hk hne => hm.block k hk (by omega)⟩⟩
  · have e : ((heads A C ms).set r (.slice (A p) (row ms p).length (C p))).set p (.slice (A r) (row ms r).length (C r)) = heads (fun i => A (tr i)) (fun i => C (tr i)) ((ms.set r (row ms p)).set p (row ms r)) := by
      apply List.ext_getElem?
      intro i
      by_cases hi : i < ms.length
      · rw [heads_at (by simpa using hi), hrow i hi, List.getElem?_set]
        simp only [tr]
        by_cases e1 : p = i
        · subst e1
          rw [if_pos rfl, if_pos (by rw [List.length_set, heads_len]; exact hi), if_pos rfl]
        · have e1' : ¬ i = p := fun e => e1 e.symm
          rw [if_neg e1]
          simp only [e1', if_false]
          rw [List.getElem?_set]
          by_cases e2 : r = i
          · subst e2
            rw [if_pos rfl, if_pos (by rw [heads_len]; exact hi)]
            simp only [if_true]
          · have e2' : ¬ i = r := fun e => e2 e.symm
            rw [if_neg e2]
            simp only [e2', if_false]
            exact heads_at hi
      · rw [List.getElem?_eq_none (by rw [List.length_set, List.length_set, heads_len]; omega), List.getElem?_eq_none (by rw [heads_len, List.length_set, List.length_set]; omega)]
    rw [← e]
    exact s3
  · have hi' : i < ms.length := by simpa using hi
    rw [hrow i hi']
    obtain ⟨o1, o2⟩ := h5 (tr i) (tr_lt i hi')
    refine ⟨o1.off hm (fun x hx => by have := (o2 x hx).1 _ rfl; simp only at this; omega), fun x hx => ⟨(o2 x hx).1, fun s hs hsi => (o2 x hx).2 (tr s) (tr_lt s (by simpa using hs)) (tr_inj s i hsi)⟩⟩
/-- The first rows alone. -/
theorem OwnM.front {w : World} {lo hi : Nat} {a : Option Addr} {len cap : Nat} {ms : List (List Int)} (h : OwnM w lo hi a len cap ms) {r : Nat} (hr : r ≤ len) : OwnM w lo hi a r cap (ms.take r) := by
  obtain ⟨h1, h2, h3, A, C, h4, h5⟩ := h
  have hl : (ms.take r).length = r := by rw [List.length_take]; omega
  have hrow : ∀ i, i < r → row (ms.take r) i = row ms i := fun i hi => by
    unfold row List.getD
    rw [List.getElem?_take, if_pos hi]
  refine ⟨hl, h2, h3, A, C, ?_, fun i hi => ?_⟩
  · have e : heads A C (ms.take r) = (heads A C ms).take r := by
      apply List.ext_getElem?
      intro i
      rw [List.getElem?_take]
      by_cases hi : i < r
      · rw [heads_at (by omega), if_pos hi, heads_at (by omega), hrow i hi]
      · rw [if_neg hi, List.getElem?_eq_none (by rw [heads_len]; omega)]
    rw [e]
    refine ⟨by rw [List.length_take, heads_len]; omega, ?_⟩
    rcases h4.2 with ⟨hv, hn⟩ | ⟨g, c, cur, hv, hlo, hg, hnc, hcm, hcs, htk⟩
    · simp only [Value.slice.injEq] at hv
      obtain ⟨rfl, h6, rfl⟩ := hv
      obtain rfl : r = 0 := by omega
      exact .inl ⟨rfl, rfl⟩
    · simp only [Value.slice.injEq, true_and] at hv
      obtain ⟨rfl, rfl⟩ := hv
      refine .inr ⟨g, cap, cur, rfl, hlo, hg, by omega, hcm, hcs, ?_⟩
      rw [← htk, List.take_take]
      congr 1
      omega
  · rw [hl] at hi
    rw [hrow i hi]
    obtain ⟨o1, o2⟩ := h5 i (by omega)
    exact ⟨o1, fun x hx => ⟨(o2 x hx).1, fun s hs hsi => (o2 x hx).2 s (by omega) hsi⟩⟩
end Go.Proofs.Ytedkeobhcpbigaa
/- Slices of rows of the call's own grow: by a row, and a row by an integer. -/
namespace Go.Proofs.Ytedkeobhcpbigaa
open Go.RowKit
theorem heads_append {A : Nat → Option Addr} {C : Nat → Nat} {ms : List (List Int)} {z : List Int} {ar : Option Addr} {cr : Nat} :
    heads A C ms ++ [.slice ar z.length cr] = heads (fun r => if r = ms.length then ar else A r) (fun r => if r = ms.length then cr else C r) (ms ++ [z]) := by
  apply List.ext_getElem?
  intro j
  rcases Nat.lt_trichotomy j ms.length with hj | hj | hj
  · rw [List.getElem?_append_left (by rw [heads_len]; omega), heads_at (by omega), heads_at (by simp; omega), row_append_left (by omega), if_neg (by omega), if_neg (by omega)]
  · subst hj
    rw [List.getElem?_append_right (by rw [heads_len]; omega), heads_at (by simp), if_pos rfl, if_pos rfl, row_append_last, heads_len]
    simp
  · rw [List.getElem?_eq_none (by simp [heads_len]; omega), List.getElem?_eq_none (by rw [heads_len]; simp; omega)]
theorem run_append_ownM {P : Program} (w : World) (t ty : TypeId) (i : TypeInfo) (ht : P.underlying t = some (.slice 25)) (hi : P.info? 25 = some i)
    (hz : i.zero = some (.slice none 0 0)) (hsize : i.size = 1) (hby : i.bytes = 24) (a1 : Option Addr) (len1 cap1 : Nat) (ms : List (List Int)) (lo hi1 : Nat) (hown : OwnM w lo hi1 a1 len1 cap1 ms)
    (b : Nat) (ar : Option Addr) (cr : Nat) (z : List Int) (hc : w.cell? ⟨b, 0, none⟩ = some (.slice ar z.length cr)) (lo2 hi2 : Nat) (hs : Own .i64 3 w lo2 hi2 ar z.length cr z) (h12 : hi1 ≤ lo2) (hlo2 : lo ≤ lo2) (h63 : len1 + 1 ≤ 1073741824) (hlo : lo ≤ w.heap.size) :
    ∃ g cap' w', (Builtin.append_ #[t, t] ty #[.slice a1 len1 cap1, .slice (some ⟨b, 0, none⟩) 1 1]).run P w = .ok (.slice (some ⟨g, 0, none⟩) (len1 + 1) cap') w' ∧ OwnM w' lo w'.heap.size (some ⟨g, 0, none⟩) (len1 + 1) cap' (ms ++ [z]) ∧ Moved lo hi1 w w' := by
  obtain ⟨e1, e0, e3, A, C, e2, e5⟩ := hown
  obtain ⟨g, cap', w', hr, o1, o2, o3, o4⟩ := run_append_lies (P := P) w t ty lo 25 i (.slice none 0 0) 1 24 ht hi hz hsize hby rfl (by decide) _ len1 _ e2 ⟨b, 0, none⟩ 1 1 [.slice ar z.length cr] rfl (fun j u hu => by
      obtain rfl : j = 0 := by have := (List.getElem?_eq_some_iff.1 hu).1; simp at this; omega
      simp at hu
      subst hu
      rw [add_plain]
      exact hc) (fun u hu => by rw [List.mem_singleton] at hu; subst hu; rfl) (by decide) (by unfold maxLen; omega) (by omega) hlo _ rfl
  have hoff : ∃ l h, Moved l h w w' ∧ (l = h ∨ lo ≤ l ∧ h ≤ hi1) ∧ ∀ x, l ≤ x → x < h → ∃ y, a1 = some y ∧ y.block = x := by
    cases a1 with
    | none => exact ⟨lo, lo, ⟨o2.os, o2.tape, o2.output, o2.size, fun k hk _ => o2.block k hk (by simp [Value.ownBlock])⟩, .inl rfl, fun x h1 h2 => by omega⟩
    | some y =>
      have := e3 y rfl
      exact ⟨y.block, y.block + 1, Moved.of_grown o2 (Nat.le_refl _) (Nat.lt_succ_self _), .inr this, fun x h1 h2 => ⟨y, rfl, by omega⟩⟩
  obtain ⟨l, h, hm, hlh, hin⟩ := hoff
  have hgin : ∀ y, a1 = some y → y.block < hi1 := fun y hy => (e3 y hy).2
  have hg : (∃ y, a1 = some y ∧ y.block = g) ∨ g = w.heap.size := by
    rcases o3 with o3 | o3
    · cases a1 with
      | none => simp [Value.ownBlock] at o3
      | some y =>
        simp only [Value.ownBlock, Option.some.injEq] at o3
        exact .inl ⟨y, rfl, o3⟩
    · exact .inr o3
  have hsz := o2.size
  have hm2 : Moved lo hi1 w w' := ⟨hm.os, hm.tape, hm.output, hm.size, fun k hk hne => hm.block k hk (fun hk2 => by
    obtain ⟨y, hy, he⟩ := hin k hk2.1 hk2.2
    have := e3 y hy
    omega)⟩
  refine ⟨g, cap', w', hr, ⟨by simp [e1], Nat.le_refl _, fun x hx => ?_, fun r => if r = len1 then ar else A r, fun r => if r = len1 then cr else C r, ?_, fun r hr2 => ?_⟩, hm2⟩
  · cases hx
    rcases hg with ⟨y, hy, he⟩ | he
    · have := e3 y hy; exact ⟨by simp only; omega, o4⟩
    · exact ⟨by simp only; omega, o4⟩
  · have e := heads_append (A := A) (C := C) (ms := ms) (z := z) (ar := ar) (cr := cr)
    rw [e1] at e
    rw [← e]
    exact o1
  · have hr3 : r < len1 + 1 := by rw [List.length_append, e1] at hr2; simpa using hr2
    by_cases hrl : r = len1
    · subst hrl
      simp only [if_true]
      rw [← e1, row_append_last]
      refine ⟨(hs.off hm (fun x hx hx2 => ?_)).wide hlo2 (Nat.le_trans hs.2.2.1 hsz) (Nat.le_refl _), fun x hx => ⟨fun y hy => ?_, fun s hs2 hsr y hy => ?_⟩⟩
      · obtain ⟨y, hy, he⟩ := hin _ hx2.1 hx2.2
        have h1 := hgin y hy
        have h2 := hs.2.2.2.2 x hx
        omega
      · cases hy
        have h2 := hs.2.2.2.2 x hx
        have h3 := hs.2.2.1
        rcases hg with ⟨y, hy, he⟩ | he
        · have h1 := hgin y hy; simp only; omega
        · simp only; omega
      · rw [if_neg (by omega)] at hy
        have h1 := ((e5 s (by rw [List.length_append] at hs2; simp at hs2; omega)).1).2.2.2.2 y hy
        have h2 := hs.2.2.2.2 x hx
        omega
    · have hr4 : r < ms.length := by omega
      simp only [hrl, if_false]
      rw [row_append_left hr4]
      obtain ⟨q1, q2⟩ := e5 r hr4
      have hq := q1.2.2.2.2
      refine ⟨(q1.off hm (fun x hx hx2 => ?_)).wide (Nat.le_refl _) (Nat.le_trans e0 hsz) (Nat.le_refl _), fun x hx => ⟨fun y hy => ?_, fun s hs2 hsr y hy => ?_⟩⟩
      · obtain ⟨y, hy, he⟩ := hin _ hx2.1 hx2.2
        exact (q2 x hx).1 y hy he.symm
      · cases hy
        rcases hg with ⟨y, hy, he⟩ | he
        · have := (q2 x hx).1 y hy; simp only; omega
        · have := hq x hx; simp only; omega
      · by_cases hsl : s = len1
        · rw [if_pos hsl] at hy
          have h1 := hs.2.2.2.2 y hy
          have h2 := hq x hx
          omega
        · rw [if_neg hsl] at hy
          exact (q2 x hx).2 s (by rw [List.length_append] at hs2; simp at hs2; omega) hsr y hy
theorem wp_append_ownM {P : Program} {w : World} {ops : Array Oper} {rest : List Oper} {o : Oper} {act : Act} {Q : Exit → Act → World → Prop} (hgd : o.guard = none) (s x : Operand) (t : TypeId)
    (ho : o.op = .call { callee := .builtin .append, args := #[s, x], argTypes := #[t, t] }) (i : TypeInfo) (ht : P.underlying t = some (.slice 25)) (hi : P.info? 25 = some i)
    (hz : i.zero = some (.slice none 0 0)) (hsize : i.size = 1) (hby : i.bytes = 24) (a1 : Option Addr) (len1 cap1 : Nat) (hsv : act.eval s = .slice a1 len1 cap1) (b : Nat) (hxv : act.eval x = .slice (some ⟨b, 0, none⟩) 1 1) (ms : List (List Int)) (lo hi1 : Nat) (hown : OwnM w lo hi1 a1 len1 cap1 ms)
    (ar : Option Addr) (cr : Nat) (z : List Int) (hc : w.cell? ⟨b, 0, none⟩ = some (.slice ar z.length cr)) (lo2 hi2 : Nat) (hs : Own .i64 3 w lo2 hi2 ar z.length cr z) (h12 : hi1 ≤ lo2) (hlo2 : lo ≤ lo2) (h63 : len1 + 1 ≤ 1073741824) (hlo : lo ≤ w.heap.size)
    (h : ∀ g cap' w', OwnM w' lo w'.heap.size (some ⟨g, 0, none⟩) (len1 + 1) cap' (ms ++ [z]) → Moved lo hi1 w w' → wpList P ops Q rest (act.put o.dst (.slice (some ⟨g, 0, none⟩) (len1 + 1) cap')) w') : wpList P ops Q (o :: rest) act w := by
  obtain ⟨g, cap', w', hr, k1, k2⟩ := run_append_ownM (P := P) w t o.type i ht hi hz hsize hby a1 len1 cap1 ms lo hi1 hown b ar cr z hc lo2 hi2 hs h12 hlo2 h63 hlo
  refine wpList_plain hgd fun K hK => ?_
  unfold Oper.wp execOp
  simp only [ho, resolve, invoke, builtin, Sem.run_bind, Sem.run_pure, Result.andThen_ok, List.map_toArray, List.map_cons, List.map_nil, hsv, hxv, hr]
  exact hK _ _ (h g cap' w' k1 k2)
/-- A row is replaced by another one of the call's own. -/
theorem OwnM.replace {w w' : World} {lo hi g : Nat} {len cap : Nat} {ms : List (List Int)} (h : OwnM w lo hi (some ⟨g, 0, none⟩) len cap ms) {i : Nat} (hi' : i < len) {l2 h2 : Nat} (hm : Moved l2 h2 w w') (hng : ¬ (l2 ≤ g ∧ g < h2))
    {a' : Option Addr} {c' : Nat} {zs : List Int} (hn : Own .i64 3 w' lo w'.heap.size a' zs.length c' zs) (hoth : ∀ A : Nat → Option Addr, ∀ s, s < len → s ≠ i → (∃ C, w.cell? ⟨g, s, none⟩ = some (.slice (A s) (row ms s).length C)) → ∀ y, A s = some y → ¬ (l2 ≤ y.block ∧ y.block < h2) ∧ ∀ x, a' = some x → x.block ≠ y.block) (hag : ∀ x, a' = some x → x.block ≠ g) :
    OwnM (w'.setCell ⟨g, i, none⟩ (.slice a' zs.length c')) lo w'.heap.size (some ⟨g, 0, none⟩) len cap (ms.set i zs) ∧ (hi ≤ w.heap.size → Below lo w w' → Below lo w (w'.setCell ⟨g, i, none⟩ (.slice a' zs.length c'))) := by
  obtain ⟨h1, h0, h3, A, C, h4, h5⟩ := h
  have hgb := h3 _ rfl
  simp only at hgb
  rcases ownsRow_spot h4 with ⟨hx, _⟩ | ⟨g', hg', _, hgs, _, _, hc, _⟩
  · cases hx
  cases hg'
  have h4' := ownsRow_kept h4 hm (fun x hx => by cases hx; exact hng)
  obtain ⟨s1, s2⟩ := h4'.stored i (.slice a' zs.length c')
  have hmg : Moved g (g + 1) w' (w'.setCell ⟨g, i, none⟩ (.slice a' zs.length c')) := Moved.of_grown s2 (Nat.le_refl _) (Nat.lt_succ_self _)
  have hsz := hm.size
  have ho : ∀ s, s < len → s ≠ i → ∀ y, A s = some y → ¬ (l2 ≤ y.block ∧ y.block < h2) ∧ ∀ x, a' = some x → x.block ≠ y.block := fun s hs hsi => hoth A s hs hsi ⟨C s, by rw [hc s hs, heads_at (by omega)]⟩
  refine ⟨⟨by simpa using h1, by simp [World.setCell], fun x hx => by cases hx; exact ⟨hgb.1, by simp only; omega⟩, fun r => if r = i then a' else A r, fun r => if r = i then c' else C r, ?_, fun r hr => ?_⟩, fun _ hb => hb.trans (hmg.below hgb.1 (by omega))⟩
  · have e : (heads A C ms).set i (.slice a' zs.length c') = heads (fun r => if r = i then a' else A r) (fun r => if r = i then c' else C r) (ms.set i zs) := by
      apply List.ext_getElem?
      intro j
      by_cases hj : j < ms.length
      · rw [heads_at (by simpa using hj), List.getElem?_set]
        by_cases hij : i = j
        · subst hij
          rw [if_pos rfl, if_pos (by rw [heads_len]; exact hj), row_set_same hj]
          simp
        · rw [if_neg hij, heads_at hj, row_set_other (fun e => hij e.symm)]
          rw [if_neg (fun e => hij e.symm), if_neg (fun e => hij e.symm)]
      · rw [List.getElem?_eq_none (by rw [List.length_set, heads_len]; omega), List.getElem?_eq_none (by rw [heads_len, List.length_set]; omega)]
    rw [← e]
    exact s1
  · have hr' : r < ms.length := by simpa using hr
    by_cases hri : r = i
    · subst hri
      simp only [if_true]
      rw [row_set_same hr']
      refine ⟨(hn.off hmg (fun x hx => by have := hag x hx; omega)).wide (Nat.le_refl _) (Nat.le_refl _) (by simp [World.setCell]), fun x hx => ⟨fun y hy => by cases hy; exact hag x hx, fun s hs hsr y hy => ?_⟩⟩
      rw [if_neg hsr] at hy
      exact (ho s (by simpa [h1] using hs) hsr y hy).2 x hx
    · simp only [hri, if_false]
      rw [row_set_other hri]
      obtain ⟨q1, q2⟩ := h5 r hr'
      refine ⟨((q1.off hm (fun x hx => (ho r (by omega) hri x hx).1)).off hmg (fun x hx => by have := (q2 x hx).1 _ rfl; simp only at this; omega)).wide (Nat.le_refl _) (by omega) (by simp [World.setCell]), fun x hx => ⟨(q2 x hx).1, fun s hs hsr y hy => ?_⟩⟩
      by_cases hsi : s = i
      · rw [if_pos hsi] at hy
        exact fun e => (ho r (by omega) hri x hx).2 y hy e.symm
      · rw [if_neg hsi] at hy
        exact (q2 x hx).2 s (by simpa using hs) hsr y hy
/-- An integer goes behind row i. -/
theorem OwnM.grow {P : Program} {w : World} {lo hi1 g : Nat} {len cap : Nat} {ms : List (List Int)} (h : OwnM w lo hi1 (some ⟨g, 0, none⟩) len cap ms) (hlo : lo ≤ w.heap.size) {k : Nat} (hk : k < len) (t ty : TypeId) (i : TypeInfo) (ht : P.underlying t = some (.slice 3)) (hi : P.info? 3 = some i)
    (hz : i.zero = some (.int .i64 0)) (hsize : i.size = 1) (hby : i.bytes = 8) (b : Nat) (x : Int) (hb : w.cell? ⟨b, 0, none⟩ = some (.int .i64 x)) (hx : (Lit.int .i64 x).wf = true) (hsm : (row ms k).length + 1 ≤ 1073741824) {ak : Option Addr} {ck : Nat} (hck : w.cell? ⟨g, k, none⟩ = some (.slice ak (row ms k).length ck)) :
    ∃ a' c' w', (Builtin.append_ #[t, t] ty #[.slice ak (row ms k).length ck, .slice (some ⟨b, 0, none⟩) 1 1]).run P w = .ok (.slice a' ((row ms k).length + 1) c') w' ∧ w'.cell? ⟨g, k, none⟩ = some (.slice ak (row ms k).length ck) ∧ w'.frozen? ⟨g, k, none⟩ = false ∧
      OwnM (w'.setCell ⟨g, k, none⟩ (.slice a' ((row ms k).length + 1) c')) lo (w'.setCell ⟨g, k, none⟩ (.slice a' ((row ms k).length + 1) c')).heap.size (some ⟨g, 0, none⟩) len cap (ms.set k (row ms k ++ [x])) ∧ Moved lo hi1 w (w'.setCell ⟨g, k, none⟩ (.slice a' ((row ms k).length + 1) c')) := by
  have h0 := h
  obtain ⟨e1, e0, e3, A, C, e2, e5⟩ := h
  rcases ownsRow_spot e2 with ⟨hx0, _⟩ | ⟨g', hg', _, hgs, _, _, hc, hf⟩
  · cases hx0
  cases hg'
  have hgb := e3 _ rfl
  simp only at hgb
  have hA : A k = ak ∧ C k = ck := by
    have := hc k hk
    rw [hck, heads_at (by omega)] at this
    simp only [Option.some.injEq, Value.slice.injEq, true_and] at this
    exact ⟨this.1.symm, this.2.symm⟩
  obtain ⟨q1, q2⟩ := e5 k (by omega)
  rw [hA.1, hA.2] at q1
  rw [hA.1] at q2
  obtain ⟨g2, cap', w', hr, o1, o2, o3, o4⟩ := run_append_lies (P := P) w t ty lo 3 i (.int .i64 0) 1 8 ht hi hz hsize hby rfl (by decide) _ (row ms k).length _ q1.2.2.2.1 ⟨b, 0, none⟩ 1 1 [.int .i64 x] rfl (fun j u hu => by
      obtain rfl : j = 0 := by have := (List.getElem?_eq_some_iff.1 hu).1; simp at this; omega
      simp at hu
      subst hu
      rw [add_plain]
      exact hb) (fun u hu => by rw [List.mem_singleton] at hu; subst hu; rfl) (by decide) (by unfold maxLen; omega) (by omega) hlo _ rfl
  have hsz := o2.size
  -- which block may have turned: the row's own
  have hmv : ∃ l h, Moved l h w w' ∧ ∀ y, l ≤ y → y < h → ∃ z, ak = some z ∧ z.block = y := by
    cases ak with
    | none => exact ⟨lo, lo, ⟨o2.os, o2.tape, o2.output, o2.size, fun k hk _ => o2.block k hk (by simp [Value.ownBlock])⟩, fun x h1 h2 => by omega⟩
    | some y => exact ⟨y.block, y.block + 1, Moved.of_grown o2 (Nat.le_refl _) (Nat.lt_succ_self _), fun x h1 h2 => ⟨y, rfl, by omega⟩⟩
  obtain ⟨l, hh, hm, hin⟩ := hmv
  have hg2 : (∃ y, ak = some y ∧ y.block = g2) ∨ g2 = w.heap.size := by
    rcases o3 with o3 | o3
    · cases ak with
      | none => simp [Value.ownBlock] at o3
      | some y =>
        simp only [Value.ownBlock, Option.some.injEq] at o3
        exact .inl ⟨y, rfl, o3⟩
    · exact .inr o3
  have hwf : ∀ n ∈ row ms k ++ [x], (Lit.int .i64 n).wf = true := by
    intro n hn
    rcases List.mem_append.1 hn with hn | hn
    · exact q1.2.1 n hn
    · rw [List.mem_singleton] at hn; rw [hn]; exact hx
  have hnew : Own .i64 3 w' lo w'.heap.size (some ⟨g2, 0, none⟩) (row ms k ++ [x]).length cap' (row ms k ++ [x]) := by
    have := own_of (n := (row ms k).length + 1) (zs := row ms k ++ [x]) (k := .i64) (by rw [List.map_append]; exact o1) hwf
    rw [show (row ms k ++ [x]).length = (row ms k).length + 1 by simp]
    exact this
  have hng : ¬ (l ≤ g ∧ g < hh) := fun hx2 => by
    obtain ⟨z, hz2, he⟩ := hin g hx2.1 hx2.2
    exact (q2 z hz2).1 _ rfl he
  have hag : g2 ≠ g := fun e => by
    rcases hg2 with ⟨y, hy, he⟩ | he
    · exact (q2 y hy).1 _ rfl (by simp only; omega)
    · omega
  have hrep := h0.replace hk hm hng (a' := some ⟨g2, 0, none⟩) (c' := cap') hnew (fun B s hs hsk hB y hy => by
    obtain ⟨D, hD⟩ := hB
    rw [hc s hs, heads_at (by omega)] at hD
    simp only [Option.some.injEq, Value.slice.injEq, true_and] at hD
    rw [← hD.1] at hy
    have hys := ((e5 s (by omega)).1).2.2.2.2 y hy
    refine ⟨fun hx2 => ?_, fun z hz2 => ?_⟩
    · obtain ⟨z, hz2, he⟩ := hin _ hx2.1 hx2.2
      exact (q2 z hz2).2 s (by omega) hsk y hy he
    · cases hz2
      rcases hg2 with ⟨z, hz2, he⟩ | he
      · have := (q2 z hz2).2 s (by omega) hsk y hy; simp only; omega
      · simp only; omega) (fun z hz2 => by cases hz2; exact hag)
  have hlen : (row ms k ++ [x]).length = (row ms k).length + 1 := by simp
  rw [hlen] at hrep
  refine ⟨some ⟨g2, 0, none⟩, cap', w', hr, (World.cell?_of_block (w := w) (a := ⟨g, k, none⟩) (hm.block g hgs hng)).trans hck, (World.frozen?_of_block (w := w) (a := ⟨g, k, none⟩) (hm.block g hgs hng)).trans (hf k), ?_, ?_⟩
  · have h1 := hrep.1
    exact ⟨h1.1, by simp, fun y hy => ⟨(h1.2.2.1 y hy).1, by have := (h1.2.2.1 y hy).2; simp [World.setCell]; omega⟩, by
      obtain ⟨_, _, _, A', C', k4, k5⟩ := h1
      exact ⟨A', C', k4, fun r hr2 => ⟨(k5 r hr2).1.wide (Nat.le_refl _) (by simp [World.setCell]) (Nat.le_refl _), (k5 r hr2).2⟩⟩⟩
  · have hmset : Moved g (g + 1) w' (w'.setCell ⟨g, k, none⟩ (.slice (some ⟨g2, 0, none⟩) ((row ms k).length + 1) cap')) := ⟨rfl, rfl, rfl, by simp [World.setCell], fun j _ hne => Below.heap_setCell w' _ _ j (by simp; omega)⟩
    have hlow : ∀ z, ak = some z → lo ≤ z.block ∧ z.block < hi1 := q1.2.2.2.2
    refine ⟨hmset.os.trans hm.os, hmset.tape.trans hm.tape, hmset.output.trans hm.output, Nat.le_trans hm.size hmset.size, fun j hj hne => ?_⟩
    rw [hmset.block j (Nat.lt_of_lt_of_le hj hm.size) (by omega)]
    refine hm.block j hj (fun hx2 => ?_)
    obtain ⟨z, hz2, he⟩ := hin j hx2.1 hx2.2
    have := hlow z hz2
    omega
end Go.Proofs.Ytedkeobhcpbigaa
/- The program's copies: of a row, of rows. -/
namespace Go.Proofs.Ytedkeobhcpbigaa
open Go.RowKit
theorem clone_any (W : World) (a : Option Addr) (len cap : Nat) (zs : List Int) (hl : len ≤ 1073741824) (h1 : 0 < len) (hs : Sees .i64 W a len zs) :
    Calls Try.prog 72 #[.slice a len cap] W (Made .i64 3 zs W) := by
  have HS := Lib.hid hs
  rcases hs.2.2 with h0 | ⟨b, off, rfl, hb, _⟩
  · omega
  clear hs
  obtain ⟨i0, hi, hz0, hz1, hz2⟩ := info_parts info_i64
  have hnil := Lib.run_eql_slice_nil (P := Try.prog) W 25 3 (some ⟨b, off, none⟩) len cap 0 0 Try.underlying25
  go_enter Try.func72, Try.ntmps72
  go_wp2_with (at_builtin; refine wp_append_sees rfl _ _ 25 rfl 3 i0 .i64 8 Try.underlying25 hi hz0 hz1 hz2 _ _ _ _ rfl _ _ (own_nil _ _ _) _ _ _ _ rfl (HS.out.alloc _) (by unfold maxLen; omega) (by omega) (by simp) ?_; intro a3 len3 cap3 w3 hlen3 ho3 hm3; rw [List.nil_append] at ho3; have HO3 := Lib.hid (ho3.wide (lo2 := W.heap.size) (Nat.le_refl _) (Nat.le_refl _) (Nat.le_refl _)); have HM3 := Lib.hid (below_moved ((Below.refl W.heap.size W).alloc (Nat.le_refl _) _) hm3 (Nat.le_refl _) (Nat.le_refl _)); clear hlen3 ho3 hm3)
  go_ret
  exact ⟨_, _, _, rfl, HO3.out, HM3.out⟩
set_option maxRecDepth 20000 in
set_option maxHeartbeats 800000 in
theorem copyRows_any (W : World) (a : Option Addr) (len cap : Nat) (ms : List (List Int)) (hsm : SmallM ms) (hs : SeesM W a len ms) (h1 : ∀ r, r < ms.length → 0 < (row ms r).length) : Calls Try.prog 75 #[.slice a len cap] W (MadeM ms W) := by
  have HS := Lib.hid hs
  have HL := Lib.hid hs.1
  have HM := Lib.hid hsm
  have H1 := Lib.hid h1
  have hl : len ≤ 1048576 := by unfold SmallM at hsm; have := hs.1; omega
  clear hs hsm h1
  obtain ⟨i0, hi, hz0, hz1, hz2⟩ := info_parts info_row
  go_enter Try.func75, Try.ntmps75
  go_wp2_with (at_make; refine wpList_make_full _ rfl _ _ 24 rfl W.heap.size 25 i0 (.slice none 0 0) 1 Try.underlying24 hi hz0 hz1 _ _ _ _ len rfl rfl rfl rfl (by rw [hz2]; omega) (by unfold maxLen; omega) (by simp) ?_; intro w1 hown1 hgrow1; have HB1 := Lib.hid ((Below.refl W.heap.size W).grown hgrow1 (Nat.le_refl _) (fun k e => by cases e)); have HO1 := Lib.hid (made_rows w1 W.heap.size len W.heap.size (Nat.le_refl _) (hown1.lt _ rfl).2 hown1); clear hown1 hgrow1)
  go_loopw [11, 4, 5] (fun i _ _ wr => ∃ k : Nat, k ≤ len ∧ i = .int .i64 k ∧ OwnM wr W.heap.size wr.heap.size (some ⟨W.heap.size, 0, none⟩) len len (upTo ms k) ∧ Below W.heap.size W wr) (fun i _ _ _ => len - (intOf i).toNat)
  case atStart => exact ⟨0, Nat.zero_le _, rfl, by rw [upTo_zero, HL.out]; exact HO1.out, HB1.out⟩
  case round =>
    obtain ⟨k, hk, rfl, ho, hb⟩ := hrel
    have HO := Lib.hid ho
    have HB := Lib.hid hb
    by_cases hlt : k < len
    · obtain ⟨b, off, ar, cr, rfl, hbl, hc, hle, hcm, hsr⟩ := HS.out.2 k hlt
      have hcw := (hb.cell (p := ⟨b, off + k, none⟩) hbl).trans hc
      obtain ⟨zs, hzs⟩ : ∃ zs, zs = row ms k := ⟨_, rfl⟩
      rw [← hzs] at hcw hle hsr
      have hr1 : 0 < zs.length := by rw [hzs]; exact H1.out k (by rw [HL.out]; exact hlt)
      have hrl : zs.length ≤ 1073741824 := by
        have := HM.out.row (r := k) (by rw [HL.out]; exact hlt)
        rw [hzs]
        omega
      have HZ := Lib.hid hzs
      have HR : Hid (Sees .i64 wr ar zs.length zs) := Lib.hid (hsr.up (Nat.le_refl _) hb)
      clear hc hsr hzs hle hcm ho hb
      go_wp2_with fail
      go_at_call 72
      refine (clone_any _ _ zs.length _ zs hrl hr1 HR.out).mono ?_
      rintro e w2 ⟨a2, l2, c2, rfl, ho2, hb2⟩
      obtain rfl : zs.length = l2 := ho2.1
      have HO2 := Lib.hid ho2
      have HP := Lib.hid (HO.out.put (by have := HB.out.size; omega) hb2 ho2 k hlt)
      have HM2 := HO.out.below hb2
      obtain ⟨_, _, hin, A, C, hrow, _⟩ := HM2
      have hfz := hrow.frozenAt k
      have hcd := (hrow.cellAt k (by omega)).trans (heads_at (by rw [upTo_len _ (by rw [HL.out]; omega), HL.out]; exact hlt))
      have HB2 := Lib.hid hb2
      clear hrow hin ho2 hb2
      go_wp2
      go_roundw
      case rel =>
        have hp := HP.out.1
        have hset := upTo_set ms (k := k) (by rw [HL.out]; exact hlt)
        rw [← HZ.out] at hset
        rw [hset] at hp
        exact ⟨k + 1, by omega, by go_num, by simpa [World.setCell] using hp, below_moved HB.out HP.out.2 (Nat.le_refl _) (Nat.le_refl _)⟩
      case measure => simp [intOf]; omega
    · clear ho hb
      obtain rfl : k = len := by omega
      go_wp2
      go_ret
      have h := HO.out
      have e : upTo ms k = ms := by rw [← HL.out]; exact upTo_all ms
      rw [e] at h
      exact ⟨_, _, _, rfl, h, HB.out⟩
end Go.Proofs.Ytedkeobhcpbigaa
/- The program's elimination. -/
namespace Go.Proofs.Ytedkeobhcpbigaa
open Go.RowKit
/-- Rows whose elimination stays in range, over all n columns. -/
structure ElimOk (n : Nat) (ms : List (List Int)) : Prop where
  n7 : n ≤ 7
  len : ms.length ≤ 12
  wid : ∀ i, i < ms.length → (row ms i).length = n
  small : ∀ i, i < ms.length → Fit 1000 (row ms i)
  fit : ∀ k, k < n → ∀ i, i < ms.length → Fit 2000000000 (row (redL (ms.map tidyL) k).1 i)
  col : ∀ k, k < n → ∀ i, i < ms.length → -1000000000 ≤ vec (row (redL (ms.map tidyL) k).1 i) k ∧ vec (row (redL (ms.map tidyL) k).1 i) k ≤ 1000000000
theorem ElimOk.inv {n : Nat} {ms : List (List Int)} (h : ElimOk n ms) {k : Nat} (hk : k ≤ n) : InvL n n ms (redL (ms.map tidyL) k) k := inv_red (Nat.le_refl n) h.wid k hk
/-- The cells as the elimination of a matrix leaves them. -/
theorem fine_fit {n : Nat} {ms : List (List Int)} (hf : Fine n n ms) {k : Nat} (hk : k < n) {i : Nat} (hi : i < ms.length) : Fit 2985984 (row (redL (ms.map tidyL) k).1 i) := fun j => by
  have I := hf.inv (k := k) (by omega)
  rcases Nat.lt_or_ge j n with hj | hj
  · have := inv_bound (N := 2) I hk hf.q6 hf.small (j := j) (fun i hi => hf.small i hi j hj) hi
    omega
  · rw [vec_beyond (by rw [I.wid i hi]; exact hj)]
    decide
theorem Fine.elimOk {n : Nat} {ms : List (List Int)} (hf : Fine n n ms) : ElimOk n ms :=
  ⟨hf.n7, hf.len, hf.wid, fun i hi j => hf.fit i hi j, fun _ hk _ hi => (fine_fit hf hk hi).up (by decide), fun k hk i hi => by have := fine_fit hf hk hi k; omega⟩
/-- What a call of eliminate finds: the rows P, of which the first r are reduced, at column k. -/
structure ElimAt (n : Nat) (ms P : List (List Int)) (r k : Nat) : Prop where
  sim : Sim P (redL (ms.map tidyL) k).1
  same : 1 ≤ r → P = (redL (ms.map tidyL) k).1
  zero : r = 0 → P = ms
  rr : r = (redL (ms.map tidyL) k).2
theorem ElimAt.len {n : Nat} {ms P : List (List Int)} {r k : Nat} (h : ElimAt n ms P r k) (hf : ElimOk n ms) (hk : k ≤ n) : P.length = ms.length := by
  rw [h.sim.1, (hf.inv hk).len]
theorem ElimAt.fit {n : Nat} {ms P : List (List Int)} {r k : Nat} (h : ElimAt n ms P r k) (hf : ElimOk n ms) (hk : k < n) {i : Nat} (hi : i < P.length) : Fit 2000000000 (row P i) ∧ -1000000000 ≤ vec (row P i) k ∧ vec (row P i) k ≤ 1000000000 := by
  rw [h.len hf (Nat.le_of_lt hk)] at hi
  rcases Nat.eq_zero_or_pos r with h0 | h0
  · rw [h.zero h0]
    have hs := hf.small i hi
    exact ⟨hs.up (by decide), by have := hs k; omega⟩
  · rw [h.same h0]
    exact ⟨hf.fit k hk i hi, hf.col k hk i hi⟩
theorem ElimAt.wid {n : Nat} {ms P : List (List Int)} {r k : Nat} (h : ElimAt n ms P r k) (hf : ElimOk n ms) (hk : k ≤ n) {i : Nat} (hi : i < P.length) : (row P i).length = n := by
  have h1 := h.sim.2 i hi
  have h2 := (hf.inv hk).wid i (by rw [← h.len hf hk]; exact hi)
  rw [← h1, tidyL_len] at h2
  exact h2
theorem ElimAt.rle {n : Nat} {ms P : List (List Int)} {r k : Nat} (h : ElimAt n ms P r k) (hf : ElimOk n ms) (hk : k ≤ n) : r ≤ P.length := by
  rw [h.len hf hk, h.rr]
  exact (hf.inv hk).rle
theorem ElimAt.front {n : Nat} {ms P : List (List Int)} {r k : Nat} (h : ElimAt n ms P r k) : P.take r = (redL (ms.map tidyL) k).1.take r := by
  rcases Nat.eq_zero_or_pos r with h0 | h0
  · subst h0; rfl
  · rw [h.same h0]
theorem ElimAt.start {n : Nat} {ms : List (List Int)} : ElimAt n ms ms 0 0 :=
  ⟨sim_start ms, fun h => absurd h (by decide), fun _ => rfl, rfl⟩
theorem ElimAt.pass {n : Nat} {ms P : List (List Int)} {r k : Nat} (h : ElimAt n ms P r k) (hp : findP P r k = P.length) (hr : r ≤ P.length) : ElimAt n ms P r (k + 1) := by
  have e : redL (ms.map tidyL) (k + 1) = redL (ms.map tidyL) k := stepL_pass (by rw [← h.rr, ← h.sim.find hr, hp, h.sim.1])
  exact ⟨by rw [e]; exact h.sim, fun h1 => by rw [e]; exact h.same h1, h.zero, by rw [e]; exact h.rr⟩
theorem ElimAt.step {n : Nat} {ms P : List (List Int)} {r k : Nat} (h : ElimAt n ms P r k) (hf : ElimOk n ms) (hk : k < n) (hp : findP P r k ≠ P.length) :
    ElimAt n ms (clrBy (fun z => clearL z (row (pswap P r (findP P r k)) r) k) (pswap P r (findP P r k)) r P.length) (r + 1) (k + 1) := by
  have hr := h.rle hf (Nat.le_of_lt hk)
  have hfd := h.sim.find (k := k) hr
  have e : (clrBy (fun z => clearL z (row (pswap P r (findP P r k)) r) k) (pswap P r (findP P r k)) r P.length, r + 1) = redL (ms.map tidyL) (k + 1) := by
    show _ = stepL k (redL (ms.map tidyL) k)
    have := h.sim.step (n := n) (k := k) (s := redL (ms.map tidyL) k) (fun i hi => h.wid hf (Nat.le_of_lt hk) hi) hk (by rw [← h.rr]; exact hr) (by rw [← h.rr, ← hfd, ← h.sim.1]; exact hp)
    rw [← h.rr, ← hfd] at this
    exact this
  have e1 := congrArg Prod.fst e
  have e2 := congrArg Prod.snd e
  simp only at e1 e2
  exact ⟨by rw [e1]; exact sim_self (hf.inv (k := k + 1) (by omega)), fun _ => e1, fun h0 => absurd h0 (by omega), e2⟩
theorem tidy_col {B : Int} {z : List Int} {k : Nat} (h : -B ≤ vec z k ∧ vec z k ≤ B) : -B ≤ vec (tidyL z) k ∧ vec (tidyL z) k ≤ B := by
  rcases Nat.lt_or_ge k z.length with hj | hj
  · unfold tidyL
    split
    · exact h
    · rw [vec_mapL hj]
      exact tdiv_fit h.1 h.2
  · rw [vec_beyond (by rw [tidyL_len]; exact hj)]
    omega
/-- What eliminate leaves. -/
def ElimEnd (n : Nat) (ms : List (List Int)) (lo hi : Nat) (a : Option Addr) (cap : Nat) (w : World) (e : Ending) (w' : World) : Prop :=
  ∃ r, e = .returned (.slice a r cap) ∧ OwnM w' lo hi a r cap (rrL ms n) ∧ Moved lo hi w w'
theorem OwnM.block {w : World} {lo hi : Nat} {a : Option Addr} {len cap : Nat} {ms : List (List Int)} (h : OwnM w lo hi a len cap ms) (hl : 0 < len) : ∃ g, a = some ⟨g, 0, none⟩ ∧ g < w.heap.size ∧ len ≤ cap ∧ ∀ i, i < len → w.frozen? ⟨g, i, none⟩ = false := by
  obtain ⟨h1, h2, h3, A, C, h4, h5⟩ := h
  rcases ownsRow_spot h4 with ⟨_, h0⟩ | ⟨g, rfl, _, hg, hc, _, _, hf⟩
  · omega
  · exact ⟨g, rfl, hg, hc, fun i _ => hf i⟩
set_option maxRecDepth 20000 in
set_option maxHeartbeats 4000000 in
theorem elimP_any (n : Nat) (ms : List (List Int)) (hf : ElimOk n ms) (hn1 : 1 ≤ n) : ∀ (d k r : Nat) (P : List (List Int)) (W : World) (lo hi : Nat) (a : Option Addr) (len cap : Nat), k + d = n → ElimAt n ms P r k → OwnM W lo hi a len cap P → 0 < len → lo ≤ W.heap.size →
    Calls Try.prog 67 #[.slice a len cap, .int .i64 (r : Int), .int .i64 (k : Int)] W (ElimEnd n ms lo hi a cap W) := by
  intro d
  induction d with
  | zero =>
    intro k r P W lo hi a len cap hkd hE hO hl1 hlo
    obtain rfl : k = n := by omega
    have HO := Lib.hid hO
    have HL := Lib.hid hO.1
    have hl12 : len ≤ 12 := by have := hf.len; rw [← hE.len hf (Nat.le_refl _), hO.1] at this; exact this
    have hrl : r ≤ len := by have := hE.rle hf (Nat.le_refl _); rw [hO.1] at this; exact this
    have hn6 : k ≤ 7 := hf.n7
    obtain ⟨g, rfl, hgs, hcap, _⟩ := hO.block hl1
    have HX : Hid (P.take r = rrL ms k) := Lib.hid (by rw [hE.front, hE.rr]; rfl)
    by_cases hrk : r = len
    · subst hrk
      clear hE hO hf
      go_enter Try.func67, Try.ntmps67
      go_wp2
      go_ret
      exact ⟨_, rfl, by rw [← HX.out]; exact HO.out.front (Nat.le_refl _), Moved.refl _ _ _⟩
    · have hrlt : r < len := by omega
      obtain ⟨b, off, ar, cr, ha, _, hc, _, _, _⟩ := hO.sees.2 r hrlt
      cases ha
      rw [Nat.zero_add, hE.wid hf (Nat.le_refl _) (by rw [hO.1]; exact hrlt)] at hc
      clear hE hO hf
      go_enter Try.func67, Try.ntmps67
      go_wp2
      go_ret
      exact ⟨_, rfl, by rw [← HX.out]; exact HO.out.front hrl, Moved.refl _ _ _⟩
  | succ d ih =>
    intro k r P W lo hi a len cap hkd hE hO hl1 hlo
    have HE := Lib.hid hE
    have HO := Lib.hid hO
    have HL := Lib.hid hO.1
    have HF := Lib.hid hf
    have HIH := Lib.hid ih
    have hl12 : len ≤ 12 := by have := hf.len; rw [← hE.len hf (by omega), hO.1] at this; exact this
    have hrl : r ≤ len := by have := hE.rle hf (by omega); rw [hO.1] at this; exact this
    have hn6 : n ≤ 7 := hf.n7
    obtain ⟨g, rfl, hgs, hcap, hfz⟩ := hO.block hl1
    have HFZ := Lib.hid hfz
    have HW : Hid (∀ i, i < len → (row P i).length = n) := Lib.hid (fun i hi => hE.wid hf (by omega) (by rw [hO.1]; exact hi))
    have hkn : k < n := by omega
    have HFT : Hid (∀ i, i < len → Fit 2000000000 (row P i)) := Lib.hid (fun i hi => (hE.fit hf hkn (by rw [hO.1]; exact hi)).1)
    have HFC : Hid (∀ i, i < len → -1000000000 ≤ vec (row P i) k ∧ vec (row P i) k ≤ 1000000000) := Lib.hid (fun i hi => (hE.fit hf hkn (by rw [hO.1]; exact hi)).2)
    have HS := Lib.hid hO.sees
    clear hE hO hf ih hfz
    by_cases hrk : r = len
    · have HX : Hid (P.take r = rrL ms n) := Lib.hid (by
        have h1 := HE.out.front
        rw [h1]
        unfold rrL
        have h2 := red_full (rows := ms.map tidyL) (k := k) (by rw [← HE.out.rr, ← HE.out.sim.1, HL.out]; exact hrk) (d + 1)
        rw [hkd] at h2
        rw [h2, ← HE.out.rr])
      subst hrk
      go_enter Try.func67, Try.ntmps67
      go_wp2
      go_ret
      exact ⟨_, rfl, by rw [← HX.out]; exact HO.out.front (Nat.le_refl _), Moved.refl _ _ _⟩
    · have hrlt : r < len := by omega
      obtain ⟨b0, off0, ar, cr, ha, _, hcr, _, _, _⟩ := HS.out.2 r hrlt
      cases ha
      rw [Nat.zero_add, HW.out r hrlt] at hcr
      obtain ⟨p1, p2, p3, p4⟩ := findP_spec (rows := P) (r := r) (k := k) (by rw [HL.out]; exact hrl)
      have HST : Hid (findP P r k ≠ P.length → ElimAt n ms (clrBy (fun z => clearL z (row (pswap P r (findP P r k)) r) k) (pswap P r (findP P r k)) r P.length) (r + 1) (k + 1)) := Lib.hid (fun h => HE.out.step HF.out hkn h)
      have HPS : Hid (findP P r k = P.length → ElimAt n ms P r (k + 1)) := Lib.hid (fun h => HE.out.pass h (by rw [HL.out]; exact hrl))
      obtain ⟨x, hx⟩ : ∃ x, x = findP P r k := ⟨_, rfl⟩
      rw [← hx] at p1 p2 p3 p4 HST HPS
      rw [HL.out] at p2 p4 HST HPS
      have HPZ := Lib.hid p3
      have HPN := Lib.hid p4
      have hrkb : ((r : Int) == (len : Int)) = false := by simp; omega
      have hknb : ((k : Int) == (n : Int)) = false := by simp; omega
      clear hx p3 p4
      go_enter Try.func67, Try.ntmps67
      go_wp2_with fail
      go_loop [7] (fun p => ∃ i : Nat, r ≤ i ∧ i ≤ x ∧ p = .int .i64 i) (fun p => len - (intOf p).toNat)
      case atStart => exact ⟨r, Nat.le_refl _, p1, rfl⟩
      case round =>
        obtain ⟨i, hi0, hi1, rfl⟩ := hrel
        by_cases hix : i < x
        · obtain ⟨b1, off1, ax, cx, ha, _, hcx, _, _, hsx⟩ := HS.out.2 i (by omega)
          cases ha
          rw [Nat.zero_add, HW.out i (by omega)] at hcx
          rw [HW.out i (by omega)] at hsx
          rcases hsx.2.2 with h0 | ⟨b2, o2, rfl, hb2, hc2⟩
          · omega
          · have hcc := hc2 k hkn
            rw [show (row P i).getD k 0 = 0 from HPZ.out i hi0 hix] at hcc
            clear hsx hc2
            go_wp2
            go_round
            case rel => exact ⟨i + 1, by omega, by omega, by go_num⟩
            case measure => simp [intOf]; omega
        · obtain rfl : i = x := by omega
          by_cases hxk : i = len
          · subst hxk
            go_wp2_with (go_at_call 67; refine (HIH.out (k + 1) r P _ lo hi (some ⟨g, 0, none⟩) i cap (by omega) (HPS.out rfl) HO.out hl1 hlo).mono ?_; rintro e w2 ⟨r2, rfl, ho2, hm2⟩; have HO2 := Lib.hid ho2; have HM2 := Lib.hid hm2; clear ho2 hm2)
            go_ret
            exact ⟨_, rfl, HO2.out, HM2.out⟩
          · have hil : i < len := by omega
            have hne : vec (row P i) k ≠ 0 := HPN.out.resolve_left hxk
            obtain ⟨b1, off1, ax, cx, ha, _, hcx, _, _, hsx⟩ := HS.out.2 i hil
            cases ha
            rw [Nat.zero_add, HW.out i hil] at hcx
            rw [HW.out i hil] at hsx
            have hfi := HFZ.out i hil
            have hfr := HFZ.out r hrlt
            have HSW := Lib.hid (HO.out.swap hrlt hil hcr hcx)
            rcases hsx.2.2 with h0 | ⟨b2, o2, rfl, hb2, hc2⟩
            · omega
            · have hcc := hc2 k hkn
              obtain ⟨y, hy⟩ : ∃ y, y = vec (row P i) k := ⟨_, rfl⟩
              rw [show (row P i).getD k 0 = y from hy.symm] at hcc
              rw [← hy] at hne
              have hi0' : (0 : Int) ≤ (i : Int) := Int.natCast_nonneg _
              have hii : (i : Int) < (len : Int) := by omega
              have hr0' : (0 : Int) ≤ (r : Int) := Int.natCast_nonneg _
              have hri : (r : Int) < (len : Int) := by omega
              clear hsx hc2 hy
              by_cases hir : i = r
              · subst hir
                have hEq := hcr.symm.trans hcx
                simp only [Option.some.injEq, Value.slice.injEq, true_and] at hEq
                obtain ⟨rfl, rfl⟩ := hEq
                obtain ⟨V, hV⟩ : ∃ V, V = ((W.setCell ⟨g, i, none⟩ (.slice (some ⟨b2, o2, none⟩) n cr)).setCell ⟨g, i, none⟩ (.slice (some ⟨b2, o2, none⟩) n cr)).drew := ⟨_, rfl⟩
                have HV : Hid (OwnM V lo hi (some ⟨g, 0, none⟩) len cap ((P.set i (row P i)).set i (row P i)) ∧ Moved lo hi W V) := Lib.hid (by rw [hV]; exact ⟨HSW.out.1.below (Below.refl _ _).drew, HSW.out.2.trans (Moved.of_below (Below.refl _ _).drew)⟩)
                have hrowR : row ((P.set i (row P i)).set i (row P i)) i = row P i := (by rw [row_set_same (by rw [List.length_set, HL.out]; exact hil)])
                have hVs : lo ≤ V.heap.size := Nat.le_trans hlo HV.out.2.size
                obtain ⟨g', aR, cR, l2, h2, hg', hcR, hoR, hkR⟩ := HV.out.1.inner i (by omega) hVs
                cases hg'
                rw [hrowR, HW.out i hil] at hcR hoR hkR
                have HOR := Lib.hid hoR
                have HKR := Lib.hid hkR
                have hn7 : n ≤ 1073741824 := by omega
                have HSL : Hid ((pswap P i i).length = len) := Lib.hid (by rw [pswap_len, HL.out])
                have HSQ : Hid (∀ Q : List Int → Prop, Q (tidyL (row P i)) → (∀ u, u < len → Q (row P u)) → ∀ u, u < len → Q (row (pswap P i i) u)) := Lib.hid (fun Q h0 h1 u hu => by
                  by_cases e : u = i
                  · subst e; rw [pswap_at (by rw [HL.out]; exact hu)]; exact h0
                  · rw [pswap_off (by rw [HL.out]; exact hil) e]
                    refine h1 _ ?_
                    unfold swp
                    split <;> (try split) <;> omega)
                have HSW2 := Lib.hid (HSQ.out (fun z => z.length = n) (by rw [tidyL_len]; exact HW.out i hil) HW.out)
                have HSF := Lib.hid (HSQ.out (Fit 2000000000) (HFT.out i hil).tidy HFT.out)
                have HSC := Lib.hid (HSQ.out (fun z => -1000000000 ≤ vec z k ∧ vec z k ≤ 1000000000) (tidy_col (HFC.out i hil)) HFC.out)
                have HSP : Hid (((P.set i (row P i)).set i (row P i)).set i (tidyL (row P i)) = pswap P i i) := Lib.hid rfl
                have hxk2 : i ≠ len := hxk
                have HST2 := Lib.hid (HST.out hxk2)
                have HVM := Lib.hid HV.out.2
                clear hoR hkR hrowR HSQ HSW HS
                go_wp2_with fail
                go_region_with (fail)
                all_goals (rw [← hV])
                all_goals (clear hV hcr hcx hcc hfi hfr)
                all_goals
                  go_wp2_with (go_at_call 89; refine (shorten_any _ l2 h2 aR n cR (row P i) hn7 HOR.out ((HFT.out i hil).up (by decide))).mono ?_; rintro e w2 ⟨rfl, ho2, hm2⟩; have HK2 := Lib.hid (HKR.out w2 _ ho2 hm2); clear ho2 hm2)
                all_goals
                  obtain ⟨S, hS⟩ : ∃ S, S = pswap P i i := ⟨_, rfl⟩
                  rw [HSP.out, ← hS] at HK2
                  rw [← hS] at HSL HSW2 HSF HSC HST2
                  clear hS HSP hcR HOR HKR HV
                  go_loopw [73, 8, 9] (fun ix _ _ wr => ∃ u : Nat, u ≤ len ∧ ix = .int .i64 u ∧ OwnM wr lo hi (some ⟨g, 0, none⟩) len cap (clrBy (fun z => clearL z (row S i) k) S i u) ∧ Moved lo hi W wr) (fun ix _ _ _ => len - (intOf ix).toNat)
                  case atStart => exact ⟨0, Nat.zero_le _, rfl, by rw [clrBy_zero]; exact HK2.out.1, HVM.out.trans HK2.out.2⟩
                  case round =>
                    obtain ⟨u, hu, rfl, ho, hb⟩ := hrel
                    have HO3 := Lib.hid ho
                    have HB3 := Lib.hid hb
                    have hlo3 : lo ≤ wr.heap.size := Nat.le_trans hlo hb.size
                    by_cases hul : u < len
                    · by_cases huR : u = i
                      · have hsu := ho.sees.2 u hul
                        obtain ⟨b5, off5, au, cu, ha5, _, hcu, _, _, _⟩ := hsu
                        cases ha5
                        rw [Nat.zero_add] at hcu
                        rw [clrBy_ahead (by rw [HSL.out]; exact hul) (Nat.le_refl _), HSW2.out u hul] at hcu
                        clear ho hb
                        subst huR
                        go_wp2
                        go_roundw
                        case rel => exact ⟨u + 1, by omega, by go_num, by rw [← clrBy_same (by rw [HSL.out]; exact hul) (.inl rfl)]; exact HO3.out, HB3.out⟩
                        case measure => simp [intOf]; omega
                      · have hin := ho.inner2 u hul i (by omega) (fun e => huR e.symm) hlo3
                        rw [clrBy_pivot (by rw [HSL.out]; omega), clrBy_ahead (by rw [HSL.out]; exact hul) (Nat.le_refl _), HSW2.out u hul, HSW2.out i (by omega)] at hin
                        obtain ⟨g', au, cu, l3, h3, aR3, cR3, ⟨hcR3, hsR3, hnR3⟩, hg', hcu, hou, hku⟩ := hin
                        cases hg'
                        have HSET := Lib.hid (clrBy_set (f := fun z => clearL z (row S i) k) (R := S) (r := i) (u := u) (by rw [HSL.out]; exact hul) huR)
                        have HSR3 := Lib.hid hsR3
                        have HNR3 := Lib.hid hnR3
                        have HOU := Lib.hid hou
                        have HKU := Lib.hid hku
                        have huRb : ((u : Int) != (i : Int)) = true := by simp; omega
                        clear ho hb hsR3 hnR3 hou hku
                        go_wp2_with (go_at_call 73; refine (clearCol_any _ l3 h3 au n cu aR3 cR3 (row S u) (row S i) k hn7 hkn HOU.out HSR3.out HNR3.out (HSF.out u hul) (HSF.out i (by omega)) (HSC.out u hul) (HSC.out i (by omega))).mono ?_; rintro e w5 ⟨rfl, ho5, hm5⟩; have HK5 := Lib.hid (HKU.out w5 _ ho5 hm5); clear ho5 hm5)
                        go_roundw
                        case rel => exact ⟨u + 1, by omega, by go_num, by have h := HK5.out.1; rw [HSET.out] at h; exact h, HB3.out.trans HK5.out.2⟩
                        case measure => simp [intOf]; omega
                    · obtain rfl : u = len := by omega
                      clear ho hb
                      go_wp2_with (go_at_call 67; refine (HIH.out (k + 1) (i + 1) _ _ lo hi (some ⟨g, 0, none⟩) u cap (by omega) HST2.out HO3.out hl1 hlo3).mono ?_; rintro e w6 ⟨r6, rfl, ho6, hm6⟩; have HO6 := Lib.hid ho6; have HM6 := Lib.hid hm6; clear ho6 hm6)
                      go_ret
                      exact ⟨_, rfl, HO6.out, HB3.out.trans HM6.out⟩
              · have hri2 : ¬ r = i := fun e => hir e.symm
                obtain ⟨V, hV⟩ : ∃ V, V = ((W.setCell ⟨g, r, none⟩ (.slice (some ⟨b2, o2, none⟩) n cx)).setCell ⟨g, i, none⟩ (.slice ar n cr)).drew := ⟨_, rfl⟩
                have HV : Hid (OwnM V lo hi (some ⟨g, 0, none⟩) len cap ((P.set r (row P i)).set i (row P r)) ∧ Moved lo hi W V) := Lib.hid (by rw [hV]; exact ⟨HSW.out.1.below (Below.refl _ _).drew, HSW.out.2.trans (Moved.of_below (Below.refl _ _).drew)⟩)
                have hrowR : row ((P.set r (row P i)).set i (row P r)) r = row P i := (by rw [row_set_other hri2, row_set_same (by rw [HL.out]; exact hrlt)])
                have hVs : lo ≤ V.heap.size := Nat.le_trans hlo HV.out.2.size
                obtain ⟨g', aR, cR, l2, h2, hg', hcR, hoR, hkR⟩ := HV.out.1.inner r (by omega) hVs
                cases hg'
                rw [hrowR, HW.out i hil] at hcR hoR hkR
                have HOR := Lib.hid hoR
                have HKR := Lib.hid hkR
                have hn7 : n ≤ 1073741824 := by omega
                have HSL : Hid ((pswap P r i).length = len) := Lib.hid (by rw [pswap_len, HL.out])
                have HSQ : Hid (∀ Q : List Int → Prop, Q (tidyL (row P i)) → (∀ u, u < len → Q (row P u)) → ∀ u, u < len → Q (row (pswap P r i) u)) := Lib.hid (fun Q h0 h1 u hu => by
                  by_cases e : u = r
                  · subst e; rw [pswap_at (by rw [HL.out]; exact hu)]; exact h0
                  · rw [pswap_off (by rw [HL.out]; exact hil) e]
                    refine h1 _ ?_
                    unfold swp
                    split <;> (try split) <;> omega)
                have HSW2 := Lib.hid (HSQ.out (fun z => z.length = n) (by rw [tidyL_len]; exact HW.out i hil) HW.out)
                have HSF := Lib.hid (HSQ.out (Fit 2000000000) (HFT.out i hil).tidy HFT.out)
                have HSC := Lib.hid (HSQ.out (fun z => -1000000000 ≤ vec z k ∧ vec z k ≤ 1000000000) (tidy_col (HFC.out i hil)) HFC.out)
                have HSP : Hid (((P.set r (row P i)).set i (row P r)).set r (tidyL (row P i)) = pswap P r i) := Lib.hid rfl
                have hxk2 : i ≠ len := hxk
                have HST2 := Lib.hid (HST.out hxk2)
                have HVM := Lib.hid HV.out.2
                clear hoR hkR hrowR HSQ HSW HS
                go_wp2_with fail
                go_region_with (fail)
                all_goals (rw [← hV])
                all_goals (clear hV hcr hcx hcc hfi hfr)
                all_goals
                  go_wp2_with (go_at_call 89; refine (shorten_any _ l2 h2 aR n cR (row P i) hn7 HOR.out ((HFT.out i hil).up (by decide))).mono ?_; rintro e w2 ⟨rfl, ho2, hm2⟩; have HK2 := Lib.hid (HKR.out w2 _ ho2 hm2); clear ho2 hm2)
                all_goals
                  obtain ⟨S, hS⟩ : ∃ S, S = pswap P r i := ⟨_, rfl⟩
                  rw [HSP.out, ← hS] at HK2
                  rw [← hS] at HSL HSW2 HSF HSC HST2
                  clear hS HSP hcR HOR HKR HV
                  go_loopw [73, 8, 9] (fun ix _ _ wr => ∃ u : Nat, u ≤ len ∧ ix = .int .i64 u ∧ OwnM wr lo hi (some ⟨g, 0, none⟩) len cap (clrBy (fun z => clearL z (row S r) k) S r u) ∧ Moved lo hi W wr) (fun ix _ _ _ => len - (intOf ix).toNat)
                  case atStart => exact ⟨0, Nat.zero_le _, rfl, by rw [clrBy_zero]; exact HK2.out.1, HVM.out.trans HK2.out.2⟩
                  case round =>
                    obtain ⟨u, hu, rfl, ho, hb⟩ := hrel
                    have HO3 := Lib.hid ho
                    have HB3 := Lib.hid hb
                    have hlo3 : lo ≤ wr.heap.size := Nat.le_trans hlo hb.size
                    by_cases hul : u < len
                    · by_cases huR : u = r
                      · have hsu := ho.sees.2 u hul
                        obtain ⟨b5, off5, au, cu, ha5, _, hcu, _, _, _⟩ := hsu
                        cases ha5
                        rw [Nat.zero_add] at hcu
                        rw [clrBy_ahead (by rw [HSL.out]; exact hul) (Nat.le_refl _), HSW2.out u hul] at hcu
                        clear ho hb
                        subst huR
                        go_wp2
                        go_roundw
                        case rel => exact ⟨u + 1, by omega, by go_num, by rw [← clrBy_same (by rw [HSL.out]; exact hul) (.inl rfl)]; exact HO3.out, HB3.out⟩
                        case measure => simp [intOf]; omega
                      · have hin := ho.inner2 u hul r (by omega) (fun e => huR e.symm) hlo3
                        rw [clrBy_pivot (by rw [HSL.out]; omega), clrBy_ahead (by rw [HSL.out]; exact hul) (Nat.le_refl _), HSW2.out u hul, HSW2.out r (by omega)] at hin
                        obtain ⟨g', au, cu, l3, h3, aR3, cR3, ⟨hcR3, hsR3, hnR3⟩, hg', hcu, hou, hku⟩ := hin
                        cases hg'
                        have HSET := Lib.hid (clrBy_set (f := fun z => clearL z (row S r) k) (R := S) (r := r) (u := u) (by rw [HSL.out]; exact hul) huR)
                        have HSR3 := Lib.hid hsR3
                        have HNR3 := Lib.hid hnR3
                        have HOU := Lib.hid hou
                        have HKU := Lib.hid hku
                        have huRb : ((u : Int) != (r : Int)) = true := by simp; omega
                        clear ho hb hsR3 hnR3 hou hku
                        go_wp2_with (go_at_call 73; refine (clearCol_any _ l3 h3 au n cu aR3 cR3 (row S u) (row S r) k hn7 hkn HOU.out HSR3.out HNR3.out (HSF.out u hul) (HSF.out r (by omega)) (HSC.out u hul) (HSC.out r (by omega))).mono ?_; rintro e w5 ⟨rfl, ho5, hm5⟩; have HK5 := Lib.hid (HKU.out w5 _ ho5 hm5); clear ho5 hm5)
                        go_roundw
                        case rel => exact ⟨u + 1, by omega, by go_num, by have h := HK5.out.1; rw [HSET.out] at h; exact h, HB3.out.trans HK5.out.2⟩
                        case measure => simp [intOf]; omega
                    · obtain rfl : u = len := by omega
                      clear ho hb
                      go_wp2_with (go_at_call 67; refine (HIH.out (k + 1) (r + 1) _ _ lo hi (some ⟨g, 0, none⟩) u cap (by omega) HST2.out HO3.out hl1 hlo3).mono ?_; rintro e w6 ⟨r6, rfl, ho6, hm6⟩; have HO6 := Lib.hid ho6; have HM6 := Lib.hid hm6; clear ho6 hm6)
                      go_ret
                      exact ⟨_, rfl, HO6.out, HB3.out.trans HM6.out⟩
end Go.Proofs.Ytedkeobhcpbigaa
/- The program's ReduceRows and RankOf. -/
namespace Go.Proofs.Ytedkeobhcpbigaa
open Go.RowKit
theorem rrL_nil (n : Nat) : rrL [] n = [] := by
  have : ∀ k, (redL (([] : List (List Int)).map tidyL) k).1 = [] := by
    intro k
    have h : (redL (([] : List (List Int)).map tidyL) k).1.length = 0 := by
      induction k with
      | zero => rfl
      | succ k ih =>
        show (stepL k (redL _ k)).1.length = 0
        unfold stepL
        split
        · exact ih
        · rw [clrBy_len, swapL_len]; exact ih
    exact List.eq_nil_of_length_eq_zero h
  unfold rrL
  rw [this n]
  simp
theorem elimP_nil (n : Nat) (W : World) (lo hi : Nat) (a : Option Addr) (cap : Nat) (hO : OwnM W lo hi a 0 cap []) :
    Calls Try.prog 67 #[.slice a 0 cap, .int .i64 0, .int .i64 0] W (ElimEnd n [] lo hi a cap W) := by
  have HO := Lib.hid hO
  have HX := Lib.hid (rrL_nil n)
  cases a with
  | none =>
    clear hO
    go_enter Try.func67, Try.ntmps67
    go_wp2
    go_ret
    exact ⟨0, rfl, by rw [HX.out]; exact HO.out, Moved.refl _ _ _⟩
  | some x =>
    have hx : ∃ g, x = ⟨g, 0, none⟩ := by
      obtain ⟨_, _, _, A, C, h4, _⟩ := hO
      rcases ownsRow_spot h4 with ⟨h0, _⟩ | ⟨g, ha, _⟩
      · cases h0
      · exact ⟨g, Option.some.inj ha⟩
    obtain ⟨g, rfl⟩ := hx
    clear hO
    go_enter Try.func67, Try.ntmps67
    go_wp2
    go_ret
    exact ⟨0, rfl, by rw [HX.out]; exact HO.out, Moved.refl _ _ _⟩
theorem elimP_start (n : Nat) (ms : List (List Int)) (hf : ElimOk n ms) (hn1 : 1 ≤ n) (W : World) (lo hi : Nat) (a : Option Addr) (len cap : Nat) (hO : OwnM W lo hi a len cap ms) (hlo : lo ≤ W.heap.size) :
    Calls Try.prog 67 #[.slice a len cap, .int .i64 0, .int .i64 0] W (ElimEnd n ms lo hi a cap W) := by
  rcases Nat.eq_zero_or_pos len with h0 | h0
  · subst h0
    obtain rfl : ms = [] := List.eq_nil_of_length_eq_zero hO.1
    exact elimP_nil n W lo hi a cap hO
  · have := elimP_any n ms hf hn1 n 0 0 ms W lo hi a len cap (by omega) ElimAt.start hO h0 hlo
    simpa using this
theorem ownM_nil (W : World) : OwnM (W.alloc (.cells #[] 25)) W.heap.size (W.heap.size + 1) (some ⟨W.heap.size, 0, none⟩) 0 0 [] :=
  ⟨rfl, by simp, fun x hx => by cases hx; exact ⟨Nat.le_refl _, Nat.lt_succ_self _⟩, fun _ => none, fun _ => 0, ⟨rfl, .inr ⟨W.heap.size, 0, #[], rfl, Nat.le_refl _, heap_alloc_new W _, Nat.le_refl _, Nat.zero_le _, rfl, rfl⟩⟩, fun r hr => absurd hr (Nat.not_lt_zero _)⟩
set_option maxRecDepth 20000 in
set_option maxHeartbeats 800000 in
theorem rrP_any (W : World) (a : Option Addr) (len cap : Nat) (ms : List (List Int)) (cols : Int) (hsm : SmallM ms) (hn : -9223372036854775808 ≤ cols) (hm : cols ≤ 9223372036854775807) (hs : SeesM W a len ms) :
    Calls Try.prog 51 #[.slice a len cap, .int .i64 cols] W (MadeM (rrV ms cols) W) := by
  have HS := Lib.hid hs
  have HSM := Lib.hid hsm
  clear hs hsm
  cases hv : isMat ms cols
  · have HE : Hid (rrV ms cols = []) := Lib.hid (by unfold rrV; rw [hv]; rfl)
    have HV := Lib.hid hv
    clear hv
    go_enter Try.func51, Try.ntmps51
    go_wp2_with (go_at_call 19; refine (isM_any _ a len cap ms cols HSM.out hn hm HS.out).mono ?_; rw [HV.out]; rintro e w1 ⟨rfl, hb1⟩; have HB1 := Lib.hid hb1; clear hb1)
    go_ret
    rw [HE.out]
    exact ⟨_, _, _, rfl, (ownM_nil w1).wide HB1.out.size (by simp) (Nat.le_refl _), HB1.out.alloc HB1.out.size _⟩
  · have HF := Lib.hid (fine_of hv)
    have hc := (isMat_true hv).1
    have HW : Hid (∀ r, r < ms.length → 0 < (row ms r).length) := Lib.hid (fun r hr => by have := ((isMat_true hv).2.2 r hr).1; omega)
    have HE : Hid (rrV ms cols = rrL ms cols.toNat) := Lib.hid (by unfold rrV; rw [if_pos hv])
    have hn1 : 1 ≤ cols.toNat := by omega
    have HV := Lib.hid hv
    clear hv
    go_enter Try.func51, Try.ntmps51
    go_wp2_with (first
      | (go_at_call 19; refine (isM_any _ a len cap ms cols HSM.out hn hm HS.out).mono ?_; rw [HV.out]; rintro e w1 ⟨rfl, hb1⟩; have HB1 := Lib.hid hb1; clear hb1)
      | (go_at_call 75; refine (copyRows_any _ a len cap ms HSM.out (HS.out.below HB1.out) HW.out).mono ?_; rintro e w2 ⟨a2, l2, c2, rfl, ho2, hb2⟩; have HO2 := Lib.hid ho2; have HB2 := Lib.hid hb2; clear ho2 hb2)
      | (go_at_call 67; refine (elimP_start cols.toNat ms HF.out.elimOk hn1 _ w1.heap.size w2.heap.size a2 l2 c2 HO2.out HB2.out.size).mono ?_; rintro e w3 ⟨r3, rfl, ho3, hm3⟩; have HO3 := Lib.hid ho3; have HM3 := Lib.hid hm3; clear ho3 hm3))
    go_ret
    rw [HE.out]
    exact ⟨_, _, _, rfl, HO3.out.wide HB1.out.size HM3.out.size (Nat.le_refl _), below_moved (below_up HB1.out HB2.out (Nat.le_refl _)) HM3.out (Nat.le_refl _) HB1.out.size⟩
set_option maxRecDepth 20000 in
theorem rank_any (W : World) (a : Option Addr) (len cap : Nat) (ms : List (List Int)) (cols : Int) (hsm : SmallM ms) (hn : -9223372036854775808 ≤ cols) (hm : cols ≤ 9223372036854775807) (hs : SeesM W a len ms) :
    Calls Try.prog 21 #[.slice a len cap, .int .i64 cols] W fun e w' => e = .returned (.int .i64 ((rrV ms cols).length : Int)) ∧ Below W.heap.size W w' := by
  have HS := Lib.hid hs
  have HSM := Lib.hid hsm
  clear hs hsm
  go_enter Try.func21, Try.ntmps21
  go_wp2_with (go_at_call 51; refine (rrP_any _ a len cap ms cols HSM.out hn hm HS.out).mono ?_; rintro e w1 ⟨a1, l1, c1, rfl, hs1, hb1⟩; have HL1 := Lib.hid hs1.1; have HB1 := Lib.hid hb1; clear hs1 hb1)
  go_ret
  exact ⟨ret_intV (by rw [HL1.out]), HB1.out⟩
end Go.Proofs.Ytedkeobhcpbigaa
