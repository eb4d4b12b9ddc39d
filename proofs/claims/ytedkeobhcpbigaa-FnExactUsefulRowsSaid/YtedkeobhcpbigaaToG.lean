/- How long the answers of chapter 14 are. -/
import Derived.Test.YtedkeobhcpbigaaToN
import Derived.Test.YtedkeobhcpbigaaToQ
namespace Go.Proofs.Ytedkeobhcpbigaa
open Go.RowKit
theorem OwnM.room {w : World} {lo hi : Nat} {a : Option Addr} {len cap : Nat} {ms : List (List Int)} (h : OwnM w lo hi a len cap ms) : len ≤ cap := by
  obtain ⟨_, _, _, A, C, h4, _⟩ := h
  rcases h4.2 with ⟨hv, hn⟩ | ⟨g, c, cur, hv, hlo, hg, hnc, hcm, hcs, htk⟩
  · simp only [Value.slice.injEq] at hv
    omega
  · simp only [Value.slice.injEq, true_and] at hv
    omega
theorem toldV_len (ms : List (List Int)) (c : Int) : (toldV ms c).length ≤ 6 := by
  unfold toldV
  split
  · rename_i h
    have h1 := (isMat_true h).1
    have := toldK_len ms c c.toNat
    omega
  · exact Nat.zero_le _
theorem usefV_len (ms : List (List Int)) (c : Int) : (usefV ms c).length ≤ 12 := by
  unfold usefV
  split
  · rename_i h
    have h1 := (isMat_true h).2.1
    have := usefK_len ms ms.length
    omega
  · exact Nat.zero_le _
theorem twinV_len (ms : List (List Int)) (l : Int) (h : SmallM ms) : (twinV ms l).length ≤ 1048576 := by
  unfold twinV
  split
  · rename_i h1
    have := twinK_len ms l (row ms 0).length
    have := h.row h1.1
    omega
  · exact Nat.zero_le _
end Go.Proofs.Ytedkeobhcpbigaa
