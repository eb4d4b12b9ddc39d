/- The text of rows: what it is, and the program's two functions. -/
import Derived.Test.YtbclnklejleobaaDoorSlO
import Derived.Test.YtbclnklejleobaaDoorParseW
namespace Go.Proofs.YtbclnklejleobaaDoor
open Go.RowKit
/-- An integer's text, as a string. -/
def strN (n : Int) : ByteArray := ⟨(Lib.itoa n).toArray⟩
/-- A row's text. -/
def rowT (z : List Int) : List UInt8 := Lib.join (z.map Lib.itoa) [32]
def strR (z : List Int) : ByteArray := ⟨(rowT z).toArray⟩
def rowsT (ms : List (List Int)) : List UInt8 := Lib.join (ms.map rowT) [59, 32]
def fmtM (ms : List (List Int)) : ByteArray := if ms.length = 0 then ⟨#[45]⟩ else ⟨(rowsT ms).toArray⟩
theorem join_snoc (xs : List (List UInt8)) (y sep : List UInt8) : Lib.join (xs ++ [y]) sep = if xs.length = 0 then y else Lib.join xs sep ++ sep ++ y := by
  cases xs with
  | nil => simp [Lib.join_one]
  | cons x r =>
    rw [if_neg (by simp), List.cons_append, Lib.join_cons, Lib.join_cons]
    simp [Lib.joinTail, List.append_assoc]
theorem take_snocI {z : List Int} {k : Nat} (h : k < z.length) : z.take (k + 1) = z.take k ++ [z.getD k 0] := by
  rw [List.take_succ_eq_append_getElem h]
  simp [List.getD, h]
theorem take_snocM {ms : List (List Int)} {k : Nat} (h : k < ms.length) : ms.take (k + 1) = ms.take k ++ [row ms k] := by
  rw [List.take_succ_eq_append_getElem h]
  simp [row, List.getD, h]
theorem rowT_next {z : List Int} {k : Nat} (h : k < z.length) : rowT (z.take (k + 1)) = if k = 0 then Lib.itoa (z.getD k 0) else rowT (z.take k) ++ [32] ++ Lib.itoa (z.getD k 0) := by
  unfold rowT
  rw [take_snocI h, List.map_append, List.map_cons, List.map_nil, join_snoc, List.length_map, List.length_take, Nat.min_eq_left (Nat.le_of_lt h)]
theorem rowsT_next {ms : List (List Int)} {k : Nat} (h : k < ms.length) : rowsT (ms.take (k + 1)) = if k = 0 then rowT (row ms k) else rowsT (ms.take k) ++ [59, 32] ++ rowT (row ms k) := by
  unfold rowsT
  rw [take_snocM h, List.map_append, List.map_cons, List.map_nil, join_snoc, List.length_map, List.length_take, Nat.min_eq_left (Nat.le_of_lt h)]
theorem join_le (xs : List (List UInt8)) (sep : List UInt8) : (Lib.join xs sep).length ≤ sep.length * xs.length + Lib.lens xs := by
  cases xs with
  | nil => simp [Lib.join_nil]
  | cons x r =>
    rw [Lib.join_length]
    have := Nat.mul_le_mul_left sep.length (show r.length ≤ (x :: r).length by simp)
    omega
theorem lens_le {xs : List (List UInt8)} {B : Nat} (h : ∀ x ∈ xs, x.length ≤ B) : Lib.lens xs ≤ B * xs.length := by
  induction xs with
  | nil => simp [Lib.lens]
  | cons x r ih =>
    have h1 := ih fun y hy => h y (by simp [hy])
    have h2 := h x (by simp)
    simp only [Lib.lens, List.map_cons, List.sum_cons, List.length_cons, Nat.mul_succ] at h1 ⊢
    omega
/-- Cells that are machine integers. -/
def Fits (z : List Int) : Prop := ∀ n ∈ z, -9223372036854775808 ≤ n ∧ n ≤ 9223372036854775807
theorem Fits.take {z : List Int} (h : Fits z) (k : Nat) : Fits (z.take k) := fun n hn => h n (List.mem_of_mem_take hn)
theorem sees_fits {w : World} {a : Option Addr} {len : Nat} {z : List Int} (h : Sees .i64 w a len z) : Fits z := fun n hn => bounds_i64 (h.2.1 n hn)
theorem rowT_len {z : List Int} (h : Fits z) : (rowT z).length ≤ 22 * z.length := by
  have h1 := join_le (z.map Lib.itoa) [32]
  have h2 := lens_le (xs := z.map Lib.itoa) (B := 21) (fun x hx => by
    obtain ⟨n, hn, rfl⟩ := List.mem_map.1 hx
    exact Lib.itoa_length_le n (h n hn).1 (h n hn).2)
  unfold rowT
  simp only [List.length_map, List.length_cons, List.length_nil] at h1 h2
  omega
theorem rows_lens {ms : List (List Int)} (h : ∀ r, r < ms.length → Fits (row ms r)) : ∀ k, k ≤ ms.length → Lib.lens ((ms.map rowT).take k) ≤ 22 * tot ms k
  | 0, _ => by simp [Lib.lens]
  | k + 1, hk => by
    have h1 := rows_lens h k (by omega)
    have h2 := rowT_len (h k (by omega))
    rw [Lib.lens_take_succ (ms.map rowT) k (rowT (row ms k)) (by simp [row, List.getD, show k < ms.length by omega]), tot]
    omega
theorem rowsT_len {ms : List (List Int)} (h : ∀ r, r < ms.length → Fits (row ms r)) : (rowsT ms).length ≤ 2 * ms.length + 22 * tot ms ms.length := by
  have h1 := join_le (ms.map rowT) [59, 32]
  have h2 := rows_lens h ms.length (Nat.le_refl _)
  rw [List.take_of_length_le (by simp)] at h2
  unfold rowsT
  simp only [List.length_map, List.length_cons, List.length_nil] at h1
  omega
/-- The strings of the call's own. -/
def OwnS (w : World) (lo : Nat) (a : Option Addr) (len cap : Nat) (ss : List ByteArray) : Prop := ss.length = len ∧ w.ownsRow lo 9 1 (.slice a len cap) len (ss.map .string)
theorem info_str : (Tryd.prog.info? 9).map (fun i => (i.zero, i.size, i.bytes)) = some (some (.string ⟨#[]⟩), 1, 16) := by kernel_rfl
theorem madeS (w : World) (lo len g : Nat) (h : w.ownsRow lo 9 1 (.slice (some ⟨g, 0, none⟩) len len) len (madeCells (Value.string ⟨#[]⟩).cells (len * 1)).toList) : OwnS w lo (some ⟨g, 0, none⟩) len len (List.replicate len ⟨#[]⟩) := by
  have : (Value.string ⟨#[]⟩).cells = #[Value.string ⟨#[]⟩] := rfl
  rw [this, toList_madeCells_one, Nat.mul_one] at h
  exact ⟨by simp, by rw [List.map_replicate]; exact h⟩
/-- The first k words, and nothing behind. -/
def wordsTo (ss : List ByteArray) (k : Nat) : List ByteArray := ss.take k ++ List.replicate (ss.length - k) ⟨#[]⟩
theorem wordsTo_zero (ss : List ByteArray) : wordsTo ss 0 = List.replicate ss.length ⟨#[]⟩ := by simp [wordsTo]
theorem wordsTo_all (ss : List ByteArray) : wordsTo ss ss.length = ss := by simp [wordsTo]
theorem wordsTo_len (ss : List ByteArray) {k : Nat} (h : k ≤ ss.length) : (wordsTo ss k).length = ss.length := by simp [wordsTo]; omega
theorem wordsTo_set (ss : List ByteArray) {k : Nat} (h : k < ss.length) : (wordsTo ss k).set k ss[k] = wordsTo ss (k + 1) := by
  apply List.ext_getElem?
  intro i
  unfold wordsTo
  rw [List.getElem?_set]
  by_cases hik : k = i
  · subst hik
    rw [if_pos rfl, if_pos (by simp; omega), List.getElem?_append_left (by simp; omega), List.getElem?_take, if_pos (by omega)]
    simp [h]
  · rw [if_neg hik]
    rcases Nat.lt_or_ge i k with h1 | h1
    · rw [List.getElem?_append_left (by simp; omega), List.getElem?_append_left (by simp; omega), List.getElem?_take, List.getElem?_take, if_pos h1, if_pos (by omega)]
    · rw [List.getElem?_append_right (by simp; omega), List.getElem?_append_right (by simp; omega), List.getElem?_replicate, List.getElem?_replicate]
      simp only [List.length_take]
      congr 1
      rw [eq_iff_iff]
      omega
theorem OwnS.put {w : World} {lo g len cap : Nat} {ss : List ByteArray} (h : OwnS w lo (some ⟨g, 0, none⟩) len cap ss) (k : Nat) (s : ByteArray) : OwnS (w.setCell ⟨g, k, none⟩ (.string s)) lo (some ⟨g, 0, none⟩) len cap (ss.set k s) ∧ Below lo w (w.setCell ⟨g, k, none⟩ (.string s)) := by
  obtain ⟨h1, h2⟩ := h
  rcases ownsRow_spot h2 with ⟨h0, _⟩ | ⟨g', hg', hlo, hg, _, _, _, _⟩
  · cases h0
  cases hg'
  obtain ⟨s1, s2⟩ := h2.stored k (.string s)
  exact ⟨⟨by simpa using h1, by rw [List.map_set]; exact s1⟩, (Moved.of_grown (lo := g) (hi := g + 1) s2 (Nat.le_refl _) (Nat.lt_succ_self _)).below hlo (by omega)⟩
theorem OwnS.below {w w' : World} {lo : Nat} {a : Option Addr} {len cap : Nat} {ss : List ByteArray} (h : OwnS w lo a len cap ss) (hb : Below w.heap.size w w') : OwnS w' lo a len cap ss := by
  refine ⟨h.1, ownsRow_kept h.2 (Moved.of_below (lo := w.heap.size) (hi := w.heap.size) hb) (fun x _ => by omega)⟩
theorem OwnS.spot {w : World} {lo g len cap : Nat} {ss : List ByteArray} (h : OwnS w lo (some ⟨g, 0, none⟩) len cap ss) : g < w.heap.size ∧ len ≤ cap ∧ (∀ j x, ss[j]? = some x → w.cell? ⟨g, 0 + j, none⟩ = some (.string x)) ∧ ∀ j, w.frozen? ⟨g, j, none⟩ = false := by
  obtain ⟨h1, h2⟩ := h
  rcases ownsRow_spot h2 with ⟨h0, _⟩ | ⟨g', hg', _, hg, hc, _, hcell, hf⟩
  · cases h0
  cases hg'
  refine ⟨hg, hc, fun j x hx => ?_, hf⟩
  have hj := (List.getElem?_eq_some_iff.1 hx).1
  rw [Nat.zero_add, hcell j (by omega), List.getElem?_map, hx]
  rfl
set_option maxHeartbeats 800000 in
theorem fmtInts_any (W : World) (a : Option Addr) (len cap : Nat) (z : List Int) (hl : len ≤ 1048576) (hs : Sees .i64 W a len z) (hT : HasTab W) :
    Calls Tryd.prog 12 #[.slice a len cap] W fun e w' => e = .returned (.string (strR z)) ∧ Below W.heap.size W w' := by
  have HS := Lib.hid hs
  have HL := Lib.hid hs.1
  have HF := Lib.hid (sees_fits hs)
  have HT := Lib.hid hT
  clear hs hT
  obtain ⟨i0, hi, hz0, hz1, hz2⟩ := info_parts info_str
  go_enter Tryd.func12, Tryd.ntmps12
  go_wp2_with (at_make; refine wpList_make_full _ rfl _ _ 32 rfl W.heap.size 9 i0 (.string ⟨#[]⟩) 1 Tryd.underlying32 hi hz0 hz1 _ _ _ _ len rfl rfl rfl rfl (by rw [hz2]; omega) (by unfold maxLen; omega) (by simp) ?_; intro w1 hown1 hgrow1; have HB1 := Lib.hid ((Below.refl W.heap.size W).grown hgrow1 (Nat.le_refl _) (fun k e => by cases e)); have HO1 := Lib.hid (madeS w1 W.heap.size len W.heap.size hown1); clear hown1 hgrow1)
  go_loopw [11, 4, 5] (fun i _ _ wr => ∃ k : Nat, k ≤ len ∧ i = .int .i64 k ∧ OwnS wr W.heap.size (some ⟨W.heap.size, 0, none⟩) len len (wordsTo (z.map strN) k) ∧ Below W.heap.size W wr) (fun i _ _ _ => len - (intOf i).toNat)
  case atStart => exact ⟨0, Nat.zero_le _, rfl, by rw [wordsTo_zero, List.length_map, HL.out]; exact HO1.out, HB1.out⟩
  case round =>
    obtain ⟨k, hk, rfl, ho, hb⟩ := hrel
    have HO := Lib.hid ho
    have HB := Lib.hid hb
    by_cases hlt : k < len
    · rcases HS.out.2.2 with h0 | ⟨b, off, rfl, hbB, hcell⟩
      · omega
      · have hc := (hb.cell (p := ⟨b, off + k, none⟩) hbB).trans (hcell k hlt)
        have hvb := HF.out _ (getD_mem (l := z) (j := k) (by rw [HL.out]; exact hlt))
        obtain ⟨x, hx⟩ : ∃ x, x = z.getD k 0 := ⟨_, rfl⟩
        rw [← hx] at hc hvb
        obtain ⟨hv0, hv1⟩ := hvb
        have hset := wordsTo_set (z.map strN) (k := k) (by rw [List.length_map, HL.out]; exact hlt)
        rw [show (z.map strN)[k]'(by rw [List.length_map, HL.out]; exact hlt) = strN x by rw [hx]; simp [List.getD, show k < z.length by rw [HL.out]; exact hlt]] at hset
        have HSET := Lib.hid hset
        have HTR := Lib.hid (HT.out.below hb)
        clear hcell ho hb hx hset
        go_wp2_with (go_at_call 15; refine (format_any x _ hv0 hv1 HTR.out).mono ?_; rintro e w2 ⟨rfl, hb2⟩; have hO2 := HO.out.below hb2; have HO2 := Lib.hid hO2; have hcd := hO2.spot.2.2.1 k _ (List.getElem?_eq_getElem (show k < (wordsTo (z.map strN) k).length by rw [wordsTo_len _ (by rw [List.length_map, HL.out]; omega), List.length_map, HL.out]; exact hlt)); rw [Nat.zero_add] at hcd; have hfd := hO2.spot.2.2.2 k; have HB2 := Lib.hid (below_up HB.out hb2 (Nat.le_refl _)); clear hb2 hO2)
        go_roundw
        case rel =>
          have hp := HO2.out.put k (strN x)
          rw [HSET.out] at hp
          exact ⟨k + 1, by omega, by go_num, hp.1, HB2.out.trans hp.2⟩
        case measure => simp [intOf]; omega
    · obtain rfl : k = len := by omega
      have hO : OwnS wr W.heap.size (some ⟨W.heap.size, 0, none⟩) k k (z.map strN) := by
        have h := ho
        have e := wordsTo_all (z.map strN)
        rw [List.length_map, HL.out] at e
        rw [e] at h
        exact h
      have hlen : (z.map strN).length = k := by rw [List.length_map, HL.out]
      have htx : Lib.join ((z.map strN).map (·.data.toList)) (⟨#[32]⟩ : ByteArray).data.toList = rowT z := by
        unfold rowT strN
        rw [List.map_map]
        rfl
      have hle := rowT_len HF.out
      rw [HL.out] at hle
      have hj := Tryd.strings_Join W.heap.size 0 k (z.map strN) ⟨#[32]⟩ wr hO.spot.2.2.1 hO.spot.1 (by omega) (by omega) (by rw [htx]; omega)
      rw [htx, hlen] at hj
      have HJ := Lib.hid hj
      clear ho hb hO hlen htx hj hle
      go_wp2_with (go_at_call 13; refine HJ.out.mono ?_; rintro e w2 ⟨rfl, hb2⟩; have HB2 := Lib.hid (below_up HB.out hb2 (Nat.le_refl _)); clear hb2)
      go_ret
      exact ⟨rfl, HB2.out⟩
end Go.Proofs.YtbclnklejleobaaDoor
