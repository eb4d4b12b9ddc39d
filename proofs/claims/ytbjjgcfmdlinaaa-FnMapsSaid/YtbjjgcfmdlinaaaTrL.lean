/- Slices of traces, and what the laws do to them: copy, measure, compare, mark. -/
import Derived.Test.YtbjjgcfmdlinaaaSlA
import Derived.Test.YtbjjgcfmdlinaaaPair
import Derived.Test.YtbjjgcfmdlinaaaIntW
namespace Go.Proofs.Ytbjjgcfmdlinaaa
open Go.RowKit
theorem below_newT (W : World) (o : Obj) : Below W.heap.size W (W.alloc o) := (Below.refl _ _).alloc (Nat.le_refl _) _
theorem info_trace : (Try.prog.info? 36).map (fun i => (i.zero, i.size, i.bytes)) = some (some (.agg #[.slice none 0 0]), 1, 24) := by kernel_rfl
/-- A slice of traces of the call's own. -/
def OwnT (w : World) (lo hi : Nat) (a : Option Addr) (len cap : Nat) (ms : List (List Int)) : Prop :=
  ms.length = len ∧ hi ≤ w.heap.size ∧ (∀ x, a = some x → lo ≤ x.block ∧ x.block < hi) ∧
    ∃ A C, w.ownsRow lo 36 1 (.slice a len cap) len (heads A C ms) ∧ Apart w lo hi a ms A C
theorem OwnT.sees {w : World} {lo hi : Nat} {a : Option Addr} {len cap : Nat} {ms : List (List Int)} (h : OwnT w lo hi a len cap ms) : SeesM w a len ms := by
  obtain ⟨h1, h2, h3, A, C, h4, h5⟩ := h
  refine ⟨h1, fun r hr => ?_⟩
  rcases ownsRow_spot h4 with ⟨_, h0⟩ | ⟨g, rfl, _, hg, _, _, hc, _⟩
  · omega
  · have ho := (h5 r (by omega)).1
    exact ⟨g, 0, A r, C r, rfl, hg, by rw [Nat.zero_add, hc r hr, heads_at (by omega)], ho.cap, ho.capMax, ho.sees⟩
theorem OwnT.moved {w w' : World} {lo hi lo2 hi2 : Nat} {a : Option Addr} {len cap : Nat} {ms : List (List Int)} (h : OwnT w lo hi a len cap ms) (hm : Moved lo2 hi2 w w') (ho : hi ≤ lo2 ∨ hi2 ≤ lo) : OwnT w' lo hi a len cap ms := by
  obtain ⟨h1, h2, h3, A, C, h4, h5⟩ := h
  refine ⟨h1, Nat.le_trans h2 hm.size, h3, A, C, ownsRow_kept h4 hm (fun x hx => by have := h3 x hx; omega), fun r hr => ⟨?_, (h5 r hr).2⟩⟩
  exact (h5 r hr).1.moved hm ho
theorem OwnT.below {w w' : World} {lo hi : Nat} {a : Option Addr} {len cap : Nat} {ms : List (List Int)} (h : OwnT w lo hi a len cap ms) (hb : Below w.heap.size w w') : OwnT w' lo hi a len cap ms :=
  h.moved (Moved.of_below (lo := hi) (hi := hi) hb) (.inl (Nat.le_refl _))
theorem OwnT.wide {w : World} {lo hi lo2 hi2 : Nat} {a : Option Addr} {len cap : Nat} {ms : List (List Int)} (h : OwnT w lo hi a len cap ms) (h1 : lo2 ≤ lo) (h2 : hi ≤ hi2) (h3 : hi2 ≤ w.heap.size) : OwnT w lo2 hi2 a len cap ms := by
  obtain ⟨g1, _, g3, A, C, g4, g5⟩ := h
  exact ⟨g1, h3, fun x hx => ⟨Nat.le_trans h1 (g3 x hx).1, Nat.lt_of_lt_of_le (g3 x hx).2 h2⟩, A, C, ownsRow_wide g4 h1, fun r hr => ⟨(g5 r hr).1.wide h1 h2 h3, (g5 r hr).2⟩⟩
/-- A new row is put into place k. -/
theorem OwnT.put {w w' : World} {lo hi g : Nat} {len cap : Nat} {ms : List (List Int)} (h : OwnT w lo hi (some ⟨g, 0, none⟩) len cap ms) (hlo : lo ≤ w.heap.size) (hb : Below w.heap.size w w') {a' : Option Addr} {c' : Nat} {zs : List Int} (hn : Own .i64 3 w' w.heap.size w'.heap.size a' zs.length c' zs) (k : Nat) (hk : k < len) :
    OwnT (w'.setCell ⟨g, k, none⟩ (.slice a' zs.length c')) lo w'.heap.size (some ⟨g, 0, none⟩) len cap (ms.set k zs) ∧ Moved lo hi w (w'.setCell ⟨g, k, none⟩ (.slice a' zs.length c')) := by
  have hM := h.below hb
  obtain ⟨h1, h2, h3, A, C, h4, h5⟩ := hM
  have hg := h3 _ rfl
  simp only at hg
  have hiw : hi ≤ w.heap.size := h.2.1
  obtain ⟨s1, s2⟩ := h4.stored k (.slice a' zs.length c')
  have hmg : Moved g (g + 1) w' (w'.setCell ⟨g, k, none⟩ (.slice a' zs.length c')) := Moved.of_grown s2 (Nat.le_refl _) (by omega)
  refine ⟨⟨by simpa using h1, by simp [World.setCell], fun x hx => by cases hx; simp; omega, fun r => if r = k then a' else A r, fun r => if r = k then c' else C r, ?_, ?_⟩, ?_⟩
  · have e : (heads A C ms).set k (.slice a' zs.length c') = heads (fun r => if r = k then a' else A r) (fun r => if r = k then c' else C r) (ms.set k zs) := by
      apply List.ext_getElem?
      intro i
      by_cases hi : i < ms.length
      · rw [heads_at (by simpa using hi), List.getElem?_set]
        by_cases hik : k = i
        · subst hik
          rw [if_pos rfl, if_pos (by rw [heads_len]; exact hi), row_set_same hi]
          simp
        · rw [if_neg hik, heads_at hi, row_set_other (fun e => hik e.symm)]
          rw [if_neg (fun e => hik e.symm), if_neg (fun e => hik e.symm)]
      · rw [List.getElem?_eq_none (by rw [List.length_set, heads_len]; omega), List.getElem?_eq_none (by rw [heads_len, List.length_set]; omega)]
    rw [← e]
    exact s1
  · intro r hr
    have hr' : r < ms.length := by simpa using hr
    by_cases hrk : r = k
    · subst hrk
      simp only [if_true]
      rw [row_set_same hr']
      refine ⟨(hn.off hmg (fun x hx => ?_)).wide (by omega) (Nat.le_refl _) (by simp [World.setCell]), fun x hx => ?_⟩
      · have := hn.2.2.2.2 x hx
        omega
      · have hx1 := hn.2.2.2.2 x hx
        refine ⟨fun y hy => by cases hy; simp only; omega, fun s hs hsr y hy => ?_⟩
        rw [if_neg hsr] at hy
        have := ((h5 s (by simpa using hs)).1).2.2.2.2 y hy
        omega
    · simp only [hrk, if_false]
      rw [row_set_other hrk]
      obtain ⟨o1, o2⟩ := h5 r hr'
      have hblk : ∀ x, A r = some x → x.block ≠ g := fun x hx => (o2 x hx).1 _ rfl
      refine ⟨(o1.off hmg (fun x hx => by have := hblk x hx; omega)).wide (Nat.le_refl _) (by have := hb.size; omega) (by simp [World.setCell]), fun x hx => ⟨(o2 x hx).1, fun s hs hsr y hy => ?_⟩⟩
      by_cases hsk : s = k
      · rw [if_pos hsk] at hy
        have h6 := hn.2.2.2.2 y hy
        have h7 := o1.2.2.2.2 x hx
        omega
      · rw [if_neg hsk] at hy
        exact (o2 x hx).2 s (by simpa using hs) hsr y hy
  · exact (Moved.of_below (lo := lo) (hi := hi) hb).trans (Moved.of_grown s2 (by omega) (by omega))
/-- Row i alone: what turns it turns nothing else. -/
theorem OwnT.inner {w : World} {lo hi : Nat} {a : Option Addr} {len cap : Nat} {ms : List (List Int)} (h : OwnT w lo hi a len cap ms) (i : Nat) (hi' : i < len) (hlo : lo ≤ w.heap.size) :
    ∃ g ai ci l2 h2, a = some ⟨g, 0, none⟩ ∧ w.cell? ⟨g, i, none⟩ = some (.slice ai (row ms i).length ci) ∧ Own .i64 3 w l2 h2 ai (row ms i).length ci (row ms i) ∧
      ∀ w' zs', Own .i64 3 w' l2 h2 ai (row ms i).length ci zs' → Moved l2 h2 w w' → OwnT w' lo hi a len cap (ms.set i zs') ∧ Moved lo hi w w' := by
  obtain ⟨h1, h2, h3, A, C, h4, h5⟩ := h
  rcases ownsRow_spot h4 with ⟨_, h0⟩ | ⟨g, rfl, hlg, hg, _, _, hc, _⟩
  · omega
  obtain ⟨o1, o2⟩ := h5 i (by omega)
  have hgb := h3 _ rfl
  simp only at hgb
  have main : ∀ l2 h2', lo ≤ l2 → h2' ≤ hi ∨ h2' ≤ l2 → Own .i64 3 w l2 h2' (A i) (row ms i).length (C i) (row ms i) → (∀ y, A i ≠ some y → True) → ¬ (l2 ≤ g ∧ g < h2') → (∀ s, s < ms.length → s ≠ i → ∀ y, A s = some y → ¬ (l2 ≤ y.block ∧ y.block < h2')) →
      (∀ x, A i = some x → lo ≤ x.block ∧ x.block < hi) →
      ∀ w' zs', Own .i64 3 w' l2 h2' (A i) (row ms i).length (C i) zs' → Moved l2 h2' w w' → OwnT w' lo hi (some ⟨g, 0, none⟩) len cap (ms.set i zs') ∧ Moved lo hi w w' := by
    intro l2 h2' hl2 hh2 _ _ hng hoff hin w' zs' ho' hm'
    have hlz : zs'.length = (row ms i).length := ho'.1
    refine ⟨⟨by simpa using h1, Nat.le_trans h2 hm'.size, h3, A, C, ?_, ?_⟩, ?_⟩
    · have e : heads A C (ms.set i zs') = heads A C ms := by
        apply List.ext_getElem?
        intro j
        by_cases hj : j < ms.length
        · rw [heads_at (by simpa using hj), heads_at hj]
          by_cases hji : j = i
          · subst hji; rw [row_set_same hj, hlz]
          · rw [row_set_other hji]
        · rw [List.getElem?_eq_none (by rw [heads_len, List.length_set]; omega), List.getElem?_eq_none (by rw [heads_len]; omega)]
      rw [e]
      exact ownsRow_kept h4 hm' (fun x hx => by cases hx; exact hng)
    · intro r hr
      have hr' : r < ms.length := by simpa using hr
      by_cases hri : r = i
      · subst hri
        rw [row_set_same hr', hlz]
        refine ⟨?_, fun x hx => ⟨(o2 x hx).1, fun s hs => (o2 x hx).2 s (by simpa using hs)⟩⟩
        obtain ⟨g1, g2, _, g4, _⟩ := ho'
        exact ⟨g1, g2, Nat.le_trans h2 hm'.size, ownsRow_wide g4 hl2, hin⟩
      · rw [row_set_other hri]
        obtain ⟨p1, p2⟩ := h5 r hr'
        exact ⟨p1.off hm' (fun x hx => hoff r hr' hri x hx), fun x hx => ⟨(p2 x hx).1, fun s hs => (p2 x hx).2 s (by simpa using hs)⟩⟩
    · refine ⟨hm'.os, hm'.tape, hm'.output, hm'.size, fun k hk hne => hm'.block k hk (by omega)⟩
  cases hA : A i with
  | none =>
    refine ⟨g, none, C i, lo, lo, rfl, by rw [hc i hi', heads_at (by omega), hA], by rw [hA] at o1; exact o1.nil hlo, ?_⟩
    have := main lo lo (Nat.le_refl _) (.inr (Nat.le_refl _)) (by rw [hA]; rw [hA] at o1; exact o1.nil hlo) (fun _ _ => trivial) (by omega) (fun _ _ _ _ _ => by omega) (fun x hx => by rw [hA] at hx; cases hx)
    rw [hA] at this
    exact this
  | some x =>
    have o1' := o1
    rw [hA] at o1'
    obtain ⟨G, hG⟩ : ∃ G, x = ⟨G, 0, none⟩ := by
      rcases o1'.spot with ⟨hx, _⟩ | ⟨G, hx, _⟩
      · cases hx
      · exact ⟨G, Option.some.inj hx⟩
    subst hG
    have hb := o1.2.2.2.2 _ hA
    simp only at hb
    have hq := o2 _ hA
    simp only at hq
    refine ⟨g, some ⟨G, 0, none⟩, C i, G, G + 1, rfl, by rw [hc i hi', heads_at (by omega), hA], o1'.narrow, ?_⟩
    have := main G (G + 1) hb.1 (.inl (by omega)) (by rw [hA]; exact o1'.narrow) (fun _ _ => trivial) (by have := hq.1 _ rfl; simp only at this; omega) (fun s hs hsi y hy => by have := hq.2 s hs hsi y hy; omega) (fun x hx => by rw [hA] at hx; cases hx; exact hb)
    rw [hA] at this
    exact this
theorem made_traces (w : World) (lo len g : Nat) (hlo : lo ≤ g) (hg : g < w.heap.size) (h : w.ownsRow lo 36 1 (.slice (some ⟨g, 0, none⟩) len len) len (madeCells (Value.agg #[.slice none 0 0]).cells (len * 1)).toList) : OwnT w lo w.heap.size (some ⟨g, 0, none⟩) len len (List.replicate len []) := by
  refine ⟨by simp, Nat.le_refl _, fun x hx => by cases hx; exact ⟨hlo, hg⟩, fun _ => none, fun _ => 0, ?_, fun r hr => ⟨?_, fun x hx => by cases hx⟩⟩
  · have : (Value.agg #[.slice none 0 0]).cells = #[Value.slice none 0 0] := rfl
    rw [this, toList_madeCells_one, Nat.mul_one] at h
    have e : heads (fun _ => none) (fun _ => 0) (List.replicate len []) = List.replicate len (.slice none 0 0) := by
      apply List.ext_getElem?
      intro i
      by_cases hi : i < len
      · rw [heads_at (by simpa using hi), row_repl, List.getElem?_replicate, if_pos hi]
        rfl
      · rw [List.getElem?_eq_none (by rw [heads_len]; simp; omega), List.getElem?_eq_none (by simp; omega)]
    rw [e]
    exact h
  · rw [row_repl]
    exact own_none0 _ _ _ _ (Nat.le_refl _)
/-- What a call leaves that makes a slice of traces. -/
def MadeTr (ms : List (List Int)) (w : World) (E : Ending) (w' : World) : Prop :=
  ∃ a len cap, E = .returned (.slice a len cap) ∧ OwnT w' w.heap.size w'.heap.size a len cap ms ∧ Below w.heap.size w w'
/-- What a call leaves that copies one trace. -/
def MadeT1 (zs : List Int) (w : World) (E : Ending) (w' : World) : Prop :=
  ∃ a len cap, E = .returned (.agg #[.slice a len cap]) ∧ Own .i64 3 w' w.heap.size w'.heap.size a len cap zs ∧ Below w.heap.size w w'
theorem moved_setT {lo hi : Nat} (w : World) (C o : Nat) (v : Value) (h1 : lo ≤ C) (h2 : C < hi) : Moved lo hi w (w.setCell ⟨C, o, none⟩ v) := Moved.of_grown (grown_setCell _ _ _ _) h1 h2
set_option maxRecDepth 20000 in
set_option maxHeartbeats 1600000 in
theorem toTr1_any (W : World) (a : Option Addr) (len cap : Nat) (zs : List Int) (hl : len ≤ 1073741824) (hs : Sees .i64 W a len zs) :
    Calls Try.prog 52 #[.agg #[.slice a len cap]] W (MadeT1 zs W) := by
  obtain ⟨V, hV⟩ : ∃ V, V = ((W.alloc (.cells #[.slice a len cap] 80)).alloc (.cells #[.slice none 0 0] 36)).alloc (.cells #[.slice none 0 0] 36) := ⟨_, rfl⟩
  have hb0 : Below W.heap.size W V := by
    rw [hV]
    exact (((Below.refl _ _).alloc (Nat.le_refl _) _).alloc (by simp) _).alloc (by simp; omega) _
  have hz : V.heap.size = W.heap.size + 3 := by rw [hV]; simp
  have k0 : V.cell? ⟨W.heap.size, 0, none⟩ = some (.slice a len cap) := by rw [hV]; go_simp
  have k1 : V.cell? ⟨W.heap.size + 1, 0, none⟩ = some (.slice none 0 0) := by rw [hV]; go_simp
  have k3 : V.cell? ⟨W.heap.size + 1 + 1, 0, none⟩ = some (.slice none 0 0) := by rw [hV]; go_simp
  have f1 : V.frozen? ⟨W.heap.size + 1, 0, none⟩ = false := by rw [hV]; go_simp
  have f3 : V.frozen? ⟨W.heap.size + 1 + 1, 0, none⟩ = false := by rw [hV]; go_simp
  have HS := Lib.hid (hs.below hb0)
  have HB0 := Lib.hid hb0
  clear hs hb0
  go_enter Try.func52, Try.ntmps52
  go_wp2_with fail
  rw [← hV]
  clear hV
  go_wp2_with fail
  refine (toI_any V a len cap zs hl HS.out).mono ?_
  rintro e w1 ⟨a1, l1, c1, rfl, ho, hb⟩
  have HO := Lib.hid ho
  have HB1 := Lib.hid hb
  have g1 := (hb.cell (p := ⟨W.heap.size + 1, 0, none⟩) (by simp [hz])).trans k1
  have g3 := (hb.cell (p := ⟨W.heap.size + 1 + 1, 0, none⟩) (by simp [hz])).trans k3
  have e1 := (hb.frozen (p := ⟨W.heap.size + 1, 0, none⟩) (by simp [hz])).trans f1
  have e3 := (hb.frozen (p := ⟨W.heap.size + 1 + 1, 0, none⟩) (by simp [hz])).trans f3
  clear ho hb k0 k1 k3 f1 f3
  go_wp2
  have hm : Moved W.heap.size V.heap.size w1 ((w1.setCell ⟨W.heap.size + 1 + 1, 0, none⟩ (.slice a1 l1 c1)).setCell ⟨W.heap.size + 1, 0, none⟩ (.slice a1 l1 c1)) := (moved_setT _ _ _ _ (by omega) (by omega)).trans (moved_setT _ _ _ _ (by omega) (by omega))
  refine bodyPost_ret (v := .agg #[.slice a1 l1 c1]) (by simp [results, Try.results52, go_sem, g1]) rfl ⟨a1, l1, c1, rfl, ?_, ?_⟩
  · exact (HO.out.moved hm (.inr (Nat.le_refl _))).wide (by omega) hm.size (Nat.le_refl _)
  · exact below_moved (below_up HB0.out HB1.out (Nat.le_refl _)) hm (Nat.le_refl _) (Nat.le_refl _)
theorem eqTr1_yes (W : World) (a b : Option Addr) (len capa capb : Nat) (zs : List Int) (hl : len ≤ 1073741824) (ha : Sees .i64 W a len zs) (hb : Sees .i64 W b len zs) :
    Calls Try.prog 53 #[.agg #[.slice a len capa], .agg #[.slice b len capb]] W fun e w' => e = .returned (.bool true) ∧ Below W.heap.size W w' := by
  have hbV : Below W.heap.size W ((W.alloc (.cells #[.slice a len capa] 36)).alloc (.cells #[.slice b len capb] 36)) := ((Below.refl _ _).alloc (Nat.le_refl _) _).alloc (by simp) _
  have HA := Lib.hid (ha.below hbV)
  have HZ := Lib.hid (hb.below hbV)
  have HBV := Lib.hid hbV
  clear ha hb hbV
  go_enter Try.func53, Try.ntmps53
  go_wp2_with (go_at_call 79; refine (eqI_yes _ a b len capa capb zs hl HA.out HZ.out).mono ?_; rintro e w2 ⟨rfl, hb2⟩; have HB2 := Lib.hid (below_up HBV.out hb2 (Nat.le_refl _)); clear hb2)
  go_ret
  exact ⟨rfl, HB2.out⟩
set_option maxHeartbeats 800000 in
theorem toT_any (W : World) (a : Option Addr) (len cap : Nat) (ms : List (List Int)) (hsm : SmallM ms) (hs : SeesM W a len ms) : Calls Try.prog 20 #[.slice a len cap] W (MadeTr ms W) := by
  have HS := Lib.hid hs
  have HL := Lib.hid hs.1
  have HM := Lib.hid hsm
  have hl : len ≤ 1048576 := by unfold SmallM at hsm; have := hs.1; omega
  clear hs hsm
  obtain ⟨i0, hi, hz0, hz1, hz2⟩ := info_parts info_trace
  go_enter Try.func20, Try.ntmps20
  go_wp2_with (at_make; refine wpList_make_full _ rfl _ _ 27 rfl W.heap.size 36 i0 (.agg #[.slice none 0 0]) 1 Try.underlying27 hi hz0 hz1 _ _ _ _ len rfl rfl rfl rfl (by rw [hz2]; omega) (by unfold maxLen; omega) (by simp) ?_; intro w1 hown1 hgrow1; have HB1 := Lib.hid ((Below.refl W.heap.size W).grown hgrow1 (Nat.le_refl _) (fun k e => by cases e)); have HO1 := Lib.hid (made_traces w1 W.heap.size len W.heap.size (Nat.le_refl _) (hown1.lt _ rfl).2 hown1); clear hown1 hgrow1)
  go_loopw [4] (fun i wr => ∃ k : Nat, k ≤ len ∧ i = .int .i64 k ∧ OwnT wr W.heap.size wr.heap.size (some ⟨W.heap.size, 0, none⟩) len len (upTo ms k) ∧ Below W.heap.size W wr) (fun i _ => len - (intOf i).toNat)
  case atStart => exact ⟨0, Nat.zero_le _, rfl, by rw [upTo_zero, HL.out]; exact HO1.out, HB1.out⟩
  case round =>
    obtain ⟨k, hk, rfl, ho, hb⟩ := hrel
    have HO := Lib.hid ho
    have HB := Lib.hid hb
    by_cases hlt : k < len
    · obtain ⟨b, off, ar, cr, rfl, hbl, hc, hle, hcm, hsr⟩ := HS.out.2 k hlt
      have hcw := (hb.cell (p := ⟨b, off + k, none⟩) hbl).trans hc
      obtain ⟨zs, hzs⟩ : ∃ zs, zs = row ms k := ⟨_, rfl⟩
      rw [← hzs] at hcw hle hsr
      have hrl : zs.length ≤ 1073741824 := by
        have := HM.out.row (r := k) (by rw [HL.out]; exact hlt)
        rw [hzs]
        omega
      have HZ := Lib.hid hzs
      have HR : Hid (Sees .i64 wr ar zs.length zs) := Lib.hid (by
        refine ⟨hsr.1, hsr.2.1, ?_⟩
        rcases hsr.2.2 with h0 | ⟨b2, o2, ha2, hlt2, hc2⟩
        · exact .inl h0
        · exact .inr ⟨b2, o2, ha2, Nat.lt_of_lt_of_le hlt2 hb.size, fun j hj => (hb.cell (p := ⟨b2, o2 + j, none⟩) hlt2).trans (hc2 j hj)⟩)
      clear hc hsr hzs hle hcm ho hb
      go_wp2_with fail
      go_at_call 52
      refine (toTr1_any _ _ zs.length _ zs hrl HR.out).mono ?_
      rintro e w2 ⟨a2, l2, c2, rfl, ho2, hb2⟩
      obtain rfl : zs.length = l2 := ho2.1
      have HO2 := Lib.hid ho2
      have HP := Lib.hid (HO.out.put (by have := HB.out.size; omega) hb2 ho2 k hlt)
      have HM2 := HO.out.below hb2
      obtain ⟨_, _, hin, A, C, hrow, _⟩ := HM2
      have hfz := hrow.frozenAt k
      have hcd := (hrow.cellAt k (by omega)).trans (heads_at (by rw [upTo_len _ (by rw [HL.out]; omega), HL.out]; exact hlt))
      have HB2 := Lib.hid hb2
      clear hrow hin ho2 hb2
      go_wp2
      go_roundw
      case rel =>
        have hp := HP.out.1
        have hset := upTo_set ms (k := k) (by rw [HL.out]; exact hlt)
        rw [← HZ.out] at hset
        rw [hset] at hp
        exact ⟨k + 1, by omega, by go_num, by simpa [World.setCell] using hp, below_moved HB.out HP.out.2 (Nat.le_refl _) (Nat.le_refl _)⟩
      case measure => simp [intOf]; omega
    · clear ho hb
      obtain rfl : k = len := by omega
      go_wp2
      go_ret
      have h := HO.out
      have e : upTo ms k = ms := by rw [← HL.out]; exact upTo_all ms
      rw [e] at h
      exact ⟨_, _, _, rfl, h, HB.out⟩
set_option maxHeartbeats 800000 in
theorem eqT_yes (W : World) (a b : Option Addr) (len capa capb : Nat) (ms : List (List Int)) (hsm : SmallM ms) (ha : SeesM W a len ms) (hb : SeesM W b len ms) :
    Calls Try.prog 21 #[.slice a len capa, .slice b len capb] W fun e w' => e = .returned (.bool true) ∧ Below W.heap.size W w' := by
  have HA := Lib.hid ha
  have HZ := Lib.hid hb
  have HM := Lib.hid hsm
  have HL := Lib.hid ha.1
  have hl : len ≤ 1048576 := by unfold SmallM at hsm; have := ha.1; omega
  clear ha hb hsm
  go_enter Try.func21, Try.ntmps21
  go_wp2
  go_loopw [5] (fun i wr => ∃ k : Nat, k ≤ len ∧ i = .int .i64 k ∧ Below W.heap.size W wr) (fun i _ => len - (intOf i).toNat)
  case atStart => exact ⟨0, Nat.zero_le _, rfl, Below.refl _ _⟩
  case round =>
    obtain ⟨k, hk, rfl, hbw⟩ := hrel
    have HB := Lib.hid hbw
    by_cases hlt : k < len
    · obtain ⟨b1, o1, a1, c1, rfl, hb1, hc1, _, _, hs1⟩ := HA.out.2 k hlt
      obtain ⟨b2, o2, a2, c2, rfl, hb2, hc2, _, _, hs2⟩ := HZ.out.2 k hlt
      have hx := (hbw.cell (p := ⟨b1, o1 + k, none⟩) hb1).trans hc1
      have hy := (hbw.cell (p := ⟨b2, o2 + k, none⟩) hb2).trans hc2
      have hs1w := Lib.hid (hs1.below hbw)
      have hs2w := Lib.hid (hs2.below hbw)
      obtain ⟨zs, hzs⟩ : ∃ zs, zs = row ms k := ⟨_, rfl⟩
      rw [← hzs] at hx hy hs1w hs2w
      have hrl : zs.length ≤ 1073741824 := by
        have := HM.out.row (r := k) (by rw [HL.out]; exact hlt)
        rw [hzs]
        omega
      have hk0 : (0 : Int) ≤ (k : Int) := Int.natCast_nonneg _
      have hk1 : (k : Int) < (len : Int) := by omega
      clear hc1 hc2 hs1 hs2 hzs hbw
      go_wp2_with fail
      go_region_held3 (fun w' => w'.cell? ⟨b1, o1 + k, none⟩ = some (.slice a1 zs.length c1) ∧ w'.cell? ⟨b2, o2 + k, none⟩ = some (.slice a2 zs.length c2)) (go_keep) (first
        | (go_at_call 53; refine (eqTr1_yes _ _ _ zs.length _ _ zs hrl (hs1w.out.below (Below.refl _ _).drew) (hs2w.out.below (Below.refl _ _).drew)).mono ?_; rintro e w2 ⟨rfl, hb⟩; have HB2 := Lib.hid (below_up (w0 := wr) (Below.refl _ _).drew hb (Nat.le_refl _)); have hx := (HB2.out.cell (p := ⟨b1, o1 + k, none⟩) (World.block_lt_of_cell? _ _ hx)).trans hx; have hy := (HB2.out.cell (p := ⟨b2, o2 + k, none⟩) (World.block_lt_of_cell? _ _ hy)).trans hy; clear hb))
      go_wp2
      go_roundw
      case rel => exact ⟨k + 1, by omega, by go_num, HB.out.trans (HB2.out.mono HB.out.size)⟩
      case measure => simp [intOf]; omega
    · clear hbw
      go_wp2
      go_ret
      exact ⟨rfl, HB.out⟩
set_option maxHeartbeats 800000 in
theorem markT_any (W : World) (lo hi : Nat) (a : Option Addr) (len cap : Nat) (ms : List (List Int)) (m : Int) (hsm : SmallM ms) (hm0 : 0 ≤ m) (hm1 : m ≤ 2305843009213693952) (hlo : lo ≤ W.heap.size) (ho : OwnT W lo hi a len cap ms) :
    Calls Try.prog 24 #[.slice a len cap, .int .i64 m] W fun e w' => e = .returned (.int .i64 (m + (tot ms len : Int))) ∧ OwnT w' lo hi a len cap (marked m ms len) ∧ Moved lo hi W w' := by
  have HO0 := Lib.hid ho
  have HL := Lib.hid ho.1
  have HM := Lib.hid hsm
  have hl : len ≤ 1048576 := by unfold SmallM at hsm; have := ho.1; omega
  clear ho hsm
  go_enter Try.func24, Try.ntmps24
  go_wp2
  go_loopw [1, 5] (fun q i wr => ∃ (k : Nat) (x : Int), k ≤ len ∧ i = .int .i64 k ∧ q = .int .i64 x ∧ x = m + (tot ms k : Int) ∧ OwnT wr lo hi a len cap (marked m ms k) ∧ Moved lo hi W wr) (fun _ i _ => len - (intOf i).toNat)
  case atStart => exact ⟨0, m, Nat.zero_le _, rfl, rfl, by simp [tot], by rw [marked_zero]; exact HO0.out, Moved.refl _ _ _⟩
  case round =>
    obtain ⟨k, x, hk, rfl, rfl, hx, ho, hb⟩ := hrel
    have HO := Lib.hid ho
    have HB := Lib.hid hb
    have HX := Lib.hid hx
    clear hx
    by_cases hlt : k < len
    · have hkm : k < ms.length := by rw [HL.out]; exact hlt
      have hrow := HM.out.row hkm
      have HX0 : Hid (0 ≤ x ∧ x ≤ 4611686018427387904) := Lib.hid (by have := HX.out; omega)
      obtain ⟨g, ai, ci, l2, h2, rfl, hc, hin, hlens⟩ := ho.inner k hlt (Nat.le_trans hlo hb.size)
      rw [marked_row hkm, if_neg (Nat.lt_irrefl _)] at hc hin hlens
      have HIN := Lib.hid hin
      have HLN := Lib.hid hlens
      obtain ⟨n, hn⟩ : ∃ n, n = (row ms k).length := ⟨_, rfl⟩
      rw [← hn] at hc
      have hnl : n ≤ 1073741824 := by omega
      have HN := Lib.hid hn
      clear ho hb hin hlens hrow
      go_wp2_with fail
      go_at_call 58
      rw [HN.out] at hnl
      refine (markI_any _ l2 h2 _ _ _ _ x hnl HX0.out.1 HX0.out.2 HIN.out).mono ?_
      rintro e w2 ⟨rfl, ho2, hm2⟩
      have HF := Lib.hid (HLN.out w2 _ ho2 hm2)
      have HE : Hid (x + ((row ms k).length : Int) = m + (tot ms (k + 1) : Int)) := Lib.hid (by have := HX.out; simp only [tot]; omega)
      rw [HE.out]
      clear ho2 hm2 hn hnl hc
      obtain ⟨y, hy⟩ : ∃ y, y = m + (tot ms (k + 1) : Int) := ⟨_, rfl⟩
      rw [← hy]
      have HY := Lib.hid hy
      clear hy
      go_wp2
      go_roundw
      case rel =>
        have hf := HF.out
        rw [HX.out, marked_set hkm] at hf
        exact ⟨k + 1, y, by omega, by go_num, rfl, HY.out, hf.1, HB.out.trans hf.2⟩
      case measure => simp [intOf]; omega
    · obtain rfl : k = len := by omega
      clear ho hb
      go_wp2
      go_ret
      exact ⟨ret_intV HX.out, HO.out, HB.out⟩
theorem szT1_any (W : World) (a : Option Addr) (len cap : Nat) (left v : Int) (hl : len ≤ maxLen) (h0 : 0 ≤ left) (h1 : left ≤ 1048576) (hv : v = if left < (len : Int) then -1 else left - (len : Int)) :
    Calls Try.prog 51 #[.agg #[.slice a len cap], .int .i64 left] W fun e w' => e = .returned (.int .i64 v) ∧ Below W.heap.size W w' := by
  have HV := Lib.hid hv
  by_cases h : left < (len : Int)
  · have h2 : v = -1 := by rw [hv, if_pos h]
    subst h2
    clear hv h
    go_enter Try.func51, Try.ntmps51
    go_wp2_with (go_at_call 77; refine (szI_any _ a len cap left (-1) hl h0 h1 HV.out).mono ?_; rintro e w' ⟨rfl, rfl⟩)
    go_ret
    exact ⟨rfl, below_newT _ _⟩
  · have h2 : ¬ v < 0 := by rw [hv, if_neg h]; omega
    clear hv h
    go_enter Try.func51, Try.ntmps51
    go_wp2_with (go_at_call 77; refine (szI_any _ a len cap left v hl h0 h1 HV.out).mono ?_; rintro e w' ⟨rfl, rfl⟩)
    go_ret
    exact ⟨rfl, below_newT _ _⟩
set_option maxHeartbeats 800000 in
theorem szT_any (W : World) (a : Option Addr) (len cap : Nat) (ms : List (List Int)) (left v : Int) (hl : len ≤ maxLen) (hs : SeesM W a len ms) (h0 : 0 ≤ left) (h1 : left ≤ 1048576) (hv : v = if left < (ms.length : Int) + (tot ms ms.length : Int) then -1 else left - (ms.length : Int) - (tot ms ms.length : Int)) :
    Calls Try.prog 19 #[.slice a len cap, .int .i64 left] W fun e w' => e = .returned (.int .i64 v) ∧ Below W.heap.size W w' := by
  have HS := Lib.hid hs
  have HL := Lib.hid hs.1
  have HV := Lib.hid hv
  clear hs hv
  unfold maxLen at hl
  by_cases hn0 : left - (len : Int) < 0
  · have HE : Hid (-1 = v) := Lib.hid (by rw [HV.out, if_pos (by rw [HL.out]; omega)])
    go_enter Try.func19, Try.ntmps19
    go_wp2
    go_ret
    exact ⟨ret_intV HE.out, Below.refl _ _⟩
  · go_enter Try.func19, Try.ntmps19
    go_wp2
    go_loopw [1, 5] (fun q i wr => ∃ (k : Nat) (x : Int), k ≤ len ∧ i = .int .i64 k ∧ q = .int .i64 x ∧ x = left - (len : Int) - (tot ms k : Int) ∧ 0 ≤ x ∧ Below W.heap.size W wr) (fun _ i _ => len - (intOf i).toNat)
    case atStart => exact ⟨0, _, Nat.zero_le _, rfl, rfl, by simp [tot], by omega, Below.refl _ _⟩
    case round =>
      obtain ⟨k, x, hk, rfl, rfl, hx, hx0, hb⟩ := hrel
      have HB := Lib.hid hb
      have HX := Lib.hid hx
      have hx1 : x ≤ 1048576 := by omega
      clear hx
      by_cases hlt : k < len
      · obtain ⟨b, off, ar, cr, rfl, hbl, hc, hle, hcm, hsr⟩ := HS.out.2 k hlt
        have hcw := (hb.cell (p := ⟨b, off + k, none⟩) hbl).trans hc
        obtain ⟨L, hL⟩ : ∃ L, L = (row ms k).length := ⟨_, rfl⟩
        rw [← hL] at hcw hle
        have HLr := Lib.hid hL
        have hLm : L ≤ maxLen := Nat.le_trans hle hcm
        clear hc hb hsr hL hle hcm
        by_cases hneg : x < (L : Int)
        · have HE : Hid (-1 = v) := Lib.hid (by
            have h2 := tot_mono ms (show k + 1 ≤ ms.length by rw [HL.out]; omega)
            simp only [tot] at h2
            have h3 := HLr.out
            have h4 := HX.out
            have h5 := HL.out
            rw [HV.out, if_pos (by omega)])
          go_wp2_with (go_at_call 51; refine (szT1_any _ _ L _ x (-1) hLm hx0 hx1 (by rw [if_pos hneg])).mono ?_; rintro e w2 ⟨rfl, hb2⟩; have HB2 := Lib.hid (below_up HB.out hb2 (Nat.le_refl _)); clear hb2)
          go_ret
          exact ⟨ret_intV HE.out, HB2.out⟩
        · obtain ⟨y, hy⟩ : ∃ y, y = x - (L : Int) := ⟨_, rfl⟩
          have hy0 : ¬ y < 0 := by omega
          have HY := Lib.hid hy
          clear hy
          go_wp2_with (go_at_call 51; refine (szT1_any _ _ L _ x y hLm hx0 hx1 (by rw [if_neg hneg]; exact HY.out)).mono ?_; rintro e w2 ⟨rfl, hb2⟩; have HB2 := Lib.hid (below_up HB.out hb2 (Nat.le_refl _)); clear hb2)
          go_roundw
          case rel => exact ⟨k + 1, y, by omega, by go_num, rfl, by have h3 := HLr.out; have h4 := HX.out; have h5 := HY.out; simp only [tot]; omega, by omega, HB2.out⟩
          case measure => simp [intOf]; omega
      · obtain rfl : k = len := by omega
        have HE : Hid (x = v) := Lib.hid (by
          have h4 := HX.out
          have h5 := HL.out
          rw [HV.out, h5, if_neg (by omega)]
          exact h4)
        clear hb
        go_wp2
        go_ret
        exact ⟨ret_intV HE.out, HB.out⟩
theorem szTM_any (W : World) (a : Option Addr) (len cap : Nat) (ms : List (List Int)) (v : Int) (hl : len ≤ maxLen) (hs : SeesM W a len ms) (hv : v = szV ms) :
    Calls Try.prog 19 #[.slice a len cap, .int .i64 1048576] W fun e w' => e = .returned (.int .i64 v) ∧ Below W.heap.size W w' :=
  szT_any W a len cap ms 1048576 v hl hs (by omega) (by omega) (by
    rw [hv]
    unfold szV
    by_cases h : ms.length + tot ms ms.length ≤ 1048576
    · rw [if_pos h, if_neg (by omega)]
    · rw [if_neg h, if_pos (by omega)])
end Go.Proofs.Ytbjjgcfmdlinaaa
