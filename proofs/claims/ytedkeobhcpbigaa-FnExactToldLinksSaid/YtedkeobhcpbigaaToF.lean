/- Delays that follow: plain words. -/
import Derived.Test.YtedkeobhcpbigaaSpA
namespace Go.Proofs.Ytedkeobhcpbigaa
open Go.RowKit
def unitK (k : Int) : Nat → List Int
  | 0 => []
  | j + 1 => unitK k j ++ [if (j : Int) = k then 1 else 0]
/-- The row with one 1. -/
def unitV (k n : Int) : List Int := if inR n 1 6 = true ∧ inR k 0 (n - 1) = true then unitK k n.toNat else []
theorem unitK_len (k : Int) : ∀ n, (unitK k n).length = n
  | 0 => rfl
  | n + 1 => by rw [unitK, List.length_append, unitK_len k n]; rfl
theorem unitV_no {k n : Int} (h : inR n 1 6 = false) : unitV k n = [] := by unfold unitV; rw [if_neg (by rw [h]; simp)]
theorem unitV_out {k n : Int} (h : inR k 0 (n - 1) = false) : unitV k n = [] := by unfold unitV; rw [if_neg (by rw [h]; simp)]
theorem unitV_is {k n : Int} (h : inR n 1 6 = true) (h2 : inR k 0 (n - 1) = true) : unitV k n = unitK k n.toNat := by unfold unitV; rw [if_pos ⟨h, h2⟩]
theorem unitV_len (k n : Int) : (unitV k n).length ≤ 6 := by
  unfold unitV
  split
  · rename_i h
    have := inR_true.1 h.1
    rw [unitK_len]
    omega
  · exact Nat.zero_le _
/-- Which of the first k columns follow. -/
def toldK (ms : List (List Int)) (c : Int) : Nat → List Int
  | 0 => []
  | k + 1 => if inSpanV ms (unitV (k : Int) c) = true then toldK ms c k ++ [(k : Int)] else toldK ms c k
def toldV (ms : List (List Int)) (c : Int) : List Int := if isMat ms c = true then toldK ms c c.toNat else []
theorem toldK_len (ms : List (List Int)) (c : Int) : ∀ k, (toldK ms c k).length ≤ k
  | 0 => Nat.le_refl _
  | k + 1 => by
    have := toldK_len ms c k
    rw [toldK]
    split
    · rw [List.length_append]; simp; omega
    · omega
/-- Which of the first k rows do not follow from the ones ahead of them. -/
def usefK (ms : List (List Int)) : Nat → List Int
  | 0 => []
  | i + 1 => if inSpanV (ms.take i) (row ms i) = true then usefK ms i else usefK ms i ++ [(i : Int)]
def usefV (ms : List (List Int)) (c : Int) : List Int := if isMat ms c = true then usefK ms ms.length else []
theorem usefK_len (ms : List (List Int)) : ∀ k, (usefK ms k).length ≤ k
  | 0 => Nat.le_refl _
  | k + 1 => by
    have := usefK_len ms k
    rw [usefK]
    split
    · omega
    · rw [List.length_append]; simp; omega
def missV (ms : List (List Int)) (c : Int) : Int := if isMat ms c = true then c - ((rrV ms c).length : Int) else -1
/-- All rows have the same in the columns k and l. -/
def sameB (ms : List (List Int)) (k : Nat) (l : Int) : Nat → Bool
  | 0 => true
  | i + 1 => sameB ms k l i && decide ((row ms i).getD k 0 = (row ms i).getD l.toNat 0)
def twinB (ms : List (List Int)) (k : Nat) (l : Int) : Bool := !decide ((k : Int) = l) && sameB ms k l ms.length
def twinK (ms : List (List Int)) (l : Int) : Nat → List Int
  | 0 => []
  | k + 1 => if twinB ms k l = true then twinK ms l k ++ [(k : Int)] else twinK ms l k
def evenB (ms : List (List Int)) : Bool := (List.range ms.length).all fun i => decide ((row ms i).length = (row ms 0).length)
def twinV (ms : List (List Int)) (l : Int) : List Int := if 0 < ms.length ∧ inR l 0 (((row ms 0).length : Int) - 1) = true ∧ evenB ms = true then twinK ms l (row ms 0).length else []
end Go.Proofs.Ytedkeobhcpbigaa
