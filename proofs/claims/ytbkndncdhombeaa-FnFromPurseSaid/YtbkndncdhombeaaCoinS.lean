/- WaysOf in the model. -/
import Derived.Test.YtbkndncdhombeaaCoinT
namespace Go.Proofs.Ytbkndncdhombeaa
open Go.RowKit

/-- What WaysOf answers. -/
def waysV (cs : List Int) (a : Int) : Int := if vCoins cs = true ∧ inR a 0 120 = true then wyV cs a else -1

theorem grown_drewC {w w' : World} {row : Option Nat} (h : w.grownBy w' row) : w.grownBy w'.drew row := ⟨h.os, h.tape, h.output, h.size, h.block⟩

theorem wy_bounds {cs : List Int} (h : vCoins cs = true) (i : Nat) {x : Int} (hx : x ≤ 120) : 0 ≤ wyV (cs.take i) x ∧ wyV (cs.take i) x ≤ 25937424601 := by
  have := (vc_len h).2
  exact ⟨wy_nonneg _ _, wy_le ((vc_pos h).take i) (by rw [List.length_take]; omega) hx⟩

end Go.Proofs.Ytbkndncdhombeaa
