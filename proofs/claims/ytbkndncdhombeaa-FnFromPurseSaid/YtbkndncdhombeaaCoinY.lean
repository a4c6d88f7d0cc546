/- The greedy way, in the model. -/
import Derived.Test.YtbkndncdhombeaaCoinK
import Derived.Test.YtbkndncdhombeaaSM
namespace Go.Proofs.Ytbkndncdhombeaa
open Go.RowKit

theorem grR_app {cs : List Int} {i : Nat} (h : i < cs.length) (x : Int) (Q : List Int) :
    grR (cs.take (i + 1)).reverse x ++ Q = grR (cs.take i).reverse (x % cs.getD i 0) ++ (x / cs.getD i 0) :: Q := by
  rw [take_snoc cs h, List.reverse_append]
  show grR (cs.getD i 0 :: (cs.take i).reverse) x ++ Q = _
  rw [grR, List.append_assoc]
  rfl

/-- Is there an answer of GreedyCoins? -/
def cGre (cs : List Int) (a : Int) : Bool := vCoins cs && decide (cs.getD 0 0 = 1) && inR a 0 120
/-- What GreedyCoins answers. -/
def greL (cs : List Int) (a : Int) : List Int := if cGre cs a = true then grL cs a else []

/-- Does the greedy way always need the fewest? -/
def isgV (cs : List Int) : Bool := vCoins cs && decide (cs.getD 0 0 = 1) && isgT cs (endV cs).toNat

theorem endV_le {cs : List Int} (h : vCoins cs = true) : endV cs ≤ ((2 * cs.getD (cs.length - 1) 0 + 1).toNat : Nat) := by
  obtain ⟨l1, l5⟩ := vc_len h
  have h2 : cs.drop (cs.length - 2) = if cs.length = 1 then [cs.getD 0 0] else [cs.getD (cs.length - 2) 0, cs.getD (cs.length - 1) 0] := by
    apply List.ext_getElem
    · rw [List.length_drop]; split <;> simp <;> omega
    · intro i h1 h2
      rw [List.length_drop] at h1
      rw [List.getElem_drop]
      have e : ∀ j, (hj : j < cs.length) → cs[j] = cs.getD j 0 := fun j hj => by simp [List.getD, hj]
      rw [e]
      split
      · rename_i hl
        have : i = 0 := by omega
        subst this
        simp [hl]
      · rename_i hl
        rcases (show i = 0 ∨ i = 1 by omega) with rfl | rfl
        · rfl
        · have : cs.length - 2 + 1 = cs.length - 1 := by omega
          simp [this]
  unfold endV
  rw [h2]
  have a1 := vc_at h (i := cs.length - 1) (by omega)
  split
  · rename_i hl
    rw [hl] at a1 ⊢
    simp at a1 ⊢
    omega
  · rename_i hl
    have := vc_lt h (cs.length - 1) (cs.length - 2) (by omega) (by omega)
    have a2 := vc_at h (i := cs.length - 2) (by omega)
    simp only [List.sum_cons, List.sum_nil]
    omega

theorem isgV_is {cs : List Int} (h : vCoins cs = true) (h1 : cs.getD 0 0 = 1) {t : Nat} (ht : endV cs ≤ t) : isgV cs = isgT cs t := by
  unfold isgV
  rw [h, decide_eq_true h1, Bool.true_and, Bool.true_and]
  exact isgT_eq (vc_pos h) (by rw [vc_head h, h1]) (vc_sorted h) (by omega) ht

end Go.Proofs.Ytbkndncdhombeaa
