/- Discounts: what is rounded away, and in which order they stand. -/
import Derived.Test.YtiffjeclpgcabaaOffV
namespace Go.Proofs.Ytiffjeclpgcabaa
open Go.RowKit

theorem exF_mul : ∀ (r : List Int) (p c : Int), exF r (p * c) = exF r p * c
  | [], _, _ => rfl
  | o :: r, p, c => by
    show exF r (p * c * (100 - o)) = exF r (p * (100 - o)) * c
    rw [show p * c * (100 - o) = p * (100 - o) * c by rw [Int.mul_assoc, Int.mul_comm c, ← Int.mul_assoc]]
    exact exF_mul r _ c

theorem exF_rev : ∀ (r : List Int) (p : Int), exF r.reverse p = exF r p
  | [], _ => rfl
  | o :: r, p => by
    rw [List.reverse_cons]
    show List.foldl _ p (r.reverse ++ [o]) = exF r (p * (100 - o))
    rw [List.foldl_append]
    show exF r.reverse p * (100 - o) = _
    rw [exF_rev r p, exF_mul]

theorem vListB_rev (lo hi m : Int) (xs : List Int) : vListB lo hi m xs.reverse = vListB lo hi m xs := by
  rw [Bool.eq_iff_iff, vListB_iff, vListB_iff, List.length_reverse]
  exact ⟨fun h => ⟨fun x hx => h.1 x (by simpa using hx), h.2⟩, fun h => ⟨fun x hx => h.1 x (by simpa using hx), h.2⟩⟩

theorem off_err {N N' X c K : Int} {k : Nat} (hK : 1 ≤ K) (hN : 0 ≤ N) (hc : 0 ≤ c ∧ c ≤ 100) (hN' : N' = (2 * N * c + 100) / 200)
    (h1 : -((k : Int) * K) ≤ 2 * (N * K - X)) (h2 : 2 * (N * K - X) ≤ (k : Int) * K) :
    0 ≤ N' ∧ N' ≤ N ∧ -(((k + 1 : Nat) : Int) * (K * 100)) ≤ 2 * (N' * (K * 100) - X * c) ∧ 2 * (N' * (K * 100) - X * c) ≤ ((k + 1 : Nat) : Int) * (K * 100) := by
  have p0 : 0 ≤ N * c := Int.mul_nonneg hN hc.1
  have p1 : N * c ≤ N * 100 := Int.mul_le_mul_of_nonneg_left hc.2 hN
  have pa : 2 * N * c = 2 * (N * c) := Int.mul_assoc _ _ _
  rw [pa] at hN'
  generalize hE : 200 * N' - 2 * (N * c) = E
  have hE1 : -99 ≤ E ∧ E ≤ 100 := by omega
  have hn0 : 0 ≤ N' := by omega
  have hn1 : N' ≤ N := by omega
  refine ⟨hn0, hn1, ?_⟩
  have t1 : K * E ≤ K * 100 := Int.mul_le_mul_of_nonneg_left hE1.2 (by omega)
  have t2 : K * (-99) ≤ K * E := Int.mul_le_mul_of_nonneg_left hE1.1 (by omega)
  generalize hM : (k : Int) * K = M at h1 h2
  have hM0 : 0 ≤ M := by rw [← hM]; exact Int.mul_nonneg (by omega) (by omega)
  generalize hD : 2 * (N * K - X) = D at h1 h2
  have u1 : c * D ≤ c * M := Int.mul_le_mul_of_nonneg_left h2 hc.1
  have u2 : c * (-M) ≤ c * D := Int.mul_le_mul_of_nonneg_left h1 hc.1
  have u3 : c * M ≤ 100 * M := Int.mul_le_mul_of_nonneg_right hc.2 hM0
  have u4 : c * (-M) = -(c * M) := Int.mul_neg _ _
  have e1 : K * E = 200 * (N' * K) - 2 * (N * c * K) := by
    rw [← hE, Int.mul_sub, show K * (200 * N') = 200 * (N' * K) by rw [Int.mul_left_comm, Int.mul_comm K], show K * (2 * (N * c)) = 2 * (N * c * K) by rw [Int.mul_left_comm, Int.mul_comm K]]
  have e2 : c * D = 2 * (N * c * K) - 2 * (X * c) := by
    rw [← hD, Int.mul_left_comm, Int.mul_sub, Int.mul_sub, show c * (N * K) = N * c * K by rw [← Int.mul_assoc, Int.mul_comm c], Int.mul_comm c X]
  have e3 : N' * (K * 100) = 100 * (N' * K) := by rw [← Int.mul_assoc, Int.mul_comm]
  have e4 : ((k + 1 : Nat) : Int) * (K * 100) = 100 * M + 100 * K := by
    rw [← hM]
    rw [show ((k + 1 : Nat) : Int) = (k : Int) + 1 by omega, Int.add_mul, Int.one_mul, ← Int.mul_assoc, Int.mul_comm _ 100, Int.mul_comm K]
  rw [e3, e4]
  omega

theorem off_all {xs : List Int} (hx : ∀ x ∈ xs, 0 ≤ x ∧ x ≤ 100) {p : Int} (hp : 0 ≤ p) : ∀ k : Nat, k ≤ xs.length →
    (0 ≤ nowF (xs.take k) p ∧ nowF (xs.take k) p ≤ p) ∧ -((k : Int) * 100 ^ k) ≤ 2 * (nowF (xs.take k) p * 100 ^ k - exF (xs.take k) p) ∧ 2 * (nowF (xs.take k) p * 100 ^ k - exF (xs.take k) p) ≤ (k : Int) * 100 ^ k
  | 0, _ => by
    show (0 ≤ p ∧ p ≤ p) ∧ _ ≤ 2 * (p * 1 - p) ∧ 2 * (p * 1 - p) ≤ _
    omega
  | k + 1, h => by
    have ih := off_all hx hp k (by omega)
    have ho := hx (xs.getD k 0) (by rw [getD_is (by omega)]; exact List.getElem_mem _)
    rw [nowF_succ xs p (by omega), exF_succ xs p (by omega), Int.pow_succ]
    have hK : 1 ≤ (100 : Int) ^ k := Int.pow_pos (by decide)
    have := off_err (c := 100 - xs.getD k 0) hK ih.1.1 (by omega) rfl ih.2.1 ih.2.2
    exact ⟨⟨this.1, by omega⟩, this.2.2⟩

end Go.Proofs.Ytiffjeclpgcabaa
