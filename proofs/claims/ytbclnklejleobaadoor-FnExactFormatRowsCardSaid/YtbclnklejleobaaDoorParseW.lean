/- The contracts of FormatInt and ParseInt, the program's and the model's. -/
import Derived.Test.YtbclnklejleobaaDoorLaid
import Derived.Test.YtbclnklejleobaaDoorNumLib
import Derived.Test.YtbclnklejleobaaDoorFmtW
import Derived.Test.YtbclnklejleobaaDoorIntW
import Derived.Test.YtbclnklejleobaaDoorShelf
namespace Go.Proofs.YtbclnklejleobaaDoor
open Go.RowKit Go.Sort
theorem below_grow (w : World) (k : Nat) (os : Array Obj) : Below w.heap.size w (grow (w.drewN k) os) := ⟨rfl, rfl, rfl, by first | (simp [grow]; done) | (simp [grow]; omega), fun i hi => by show ((w.drewN k).heap ++ os)[i]? = _; rw [Array.getElem?_append_left (by show i < w.heap.size; omega)]; rfl⟩
theorem format_any (n : Int) (w : World) (h1 : -9223372036854775808 ≤ n) (h2 : n ≤ 9223372036854775807) (ht : HasTab w) : Calls Tryd.prog 15 #[.int .i64 n] w fun e w' => e = .returned (.string ⟨(Lib.itoa n).toArray⟩) ∧ Below w.heap.size w w' := by
  go_enter Tryd.func15, Tryd.ntmps15
  go_wp2_with (go_at_call 19; refine (Tryd.strconv_Itoa n h1 h2 _ ht.1).mono ?_; rintro e w' ⟨rfl, k, os, rfl⟩)
  go_ret
  exact ⟨rfl, below_grow w k os⟩
/-- A parse that fails: an error that is not nil. -/
def Fails (w : World) (e : Ending) (w' : World) : Prop := ∃ v t p, e = .returned (.tuple #[.int .i64 v, .iface t p]) ∧ Below w.heap.size w w'
theorem str_ne {l : List UInt8} {s : ByteArray} (h : l ≠ s.data.toList) : (!l == s.toList) = true := by
  rw [ByteArray.toList_eq]
  simpa using h
theorem str_eq {l : List UInt8} {s : ByteArray} (h : l = s.data.toList) : (!l == s.toList) = false := by
  rw [ByteArray.toList_eq]
  simpa using h
theorem itoa_no {s : ByteArray} (h : ∀ n, ¬ IsNum s.data.toList n) {v : Int} (h0 : 0 ≤ v) (h1 : v ≤ 1000000000000) : Lib.itoa v ≠ s.data.toList := by
  obtain ⟨m, rfl⟩ : ∃ m : Nat, v = (m : Int) := ⟨v.toNat, by omega⟩
  rw [Lib.itoa_nonneg]
  exact fun e => h m ⟨by omega, e.symm⟩
/-- The model's loop over the digits: what it has read so far. -/
theorem dec_lt {l : List UInt8} {k n : Nat} (h : Lib.decFrom 0 (l.take k) = some n) (hk : k ≤ 13) : n < 10000000000000 := by
  have h1 := Lib.decFrom_lt _ _ _ h
  have h2 : (l.take k).length ≤ 13 := Nat.le_trans (List.length_take_le _ _) hk
  have h3 : 10 ^ (l.take k).length ≤ 10 ^ 13 := Nat.pow_le_pow_right (by decide) h2
  omega
theorem at_list (s : ByteArray) (k : Nat) (h : k < s.size) : s.data.toList[k]? = some s[k] := by
  rw [Array.getElem?_toList, Array.getElem?_eq_getElem h]; rfl
def GotNum (n : Nat) (w : World) (e : Ending) (w' : World) : Prop := e = .returned (.tuple #[.int .i64 n, .bool true]) ∧ Below w.heap.size w w'
def GotNone (w : World) (e : Ending) (w' : World) : Prop := e = .returned (.tuple #[.int .i64 0, .bool false]) ∧ Below w.heap.size w w'
end Go.Proofs.YtbclnklejleobaaDoor
