/- IsGreedy, in the model. -/
import Derived.Test.YtbkndncdhombeaaCoinY
import Derived.Deep.RegionHeld3
namespace Go.Proofs.Ytbkndncdhombeaa
open Go.RowKit

theorem grR_le : ∀ (R : List Int), (∀ c ∈ R, 1 ≤ c) → ∀ (x : Int), 0 ≤ x → ∀ k ∈ grR R x, 0 ≤ k ∧ k ≤ x
  | [], _, x, _, k, h => by simp [grR] at h
  | c :: R, hp, x, hx, k, h => by
    have hc := hp c (by simp)
    simp only [grR, List.mem_append, List.mem_singleton] at h
    rcases h with h | rfl
    · have h1 := grR_le R (fun d hd => hp d (by simp [hd])) _ (Int.emod_nonneg _ (by omega)) k h
      have h2 := Int.emod_lt_of_pos x (show 0 < c by omega)
      have h3 := Int.mul_ediv_add_emod x c
      have h4 := Int.mul_nonneg (show 0 ≤ c by omega) (Int.ediv_nonneg hx (show 0 ≤ c by omega))
      omega
    · exact ⟨Int.ediv_nonneg hx (by omega), Int.ediv_le_self _ hx⟩

theorem grL_fits {cs : List Int} (h : vCoins cs = true) {x : Nat} (hx : x ≤ 2000) : SumFits (grL cs (x : Int)) := by
  refine sumFits_abs _ 2000 (fun k hk => ?_) (by omega) ?_
  · have := grR_le cs.reverse (fun c hc => vc_pos h c (by simpa using hc)) (x : Int) (by omega) k hk
    omega
  · have := (vc_len h).2
    rw [grL_len]
    omega

end Go.Proofs.Ytbkndncdhombeaa
