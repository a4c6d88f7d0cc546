/- The rows made of the first numbers. -/
import Derived.Test.YtlblhhfapeljfaaRGI
namespace Go.Proofs.Ytlblhhfapeljfaa
open Go.RowKit Flat

/-- One number more, at the end of the rows. -/
def pushC (m p : Nat) (o : List (List Int)) (x : Int) : List (List Int) := if p % m = 0 then o ++ [[x]] else o.set (p / m) (rowOf o (p / m) ++ [x])

/-- The rows made of the first p numbers. -/
def part (m : Nat) : Nat → (Nat → Int) → List (List Int)
  | 0, _ => []
  | p + 1, c => pushC m p (part m p c) (c p)

theorem part_congr (m : Nat) : ∀ p c c', (∀ q, q < p → c q = c' q) → part m p c = part m p c'
  | 0, _, _, _ => rfl
  | p + 1, c, c', h => by rw [part, part, part_congr m p c c' (fun q hq => h q (by omega)), h p (by omega)]

theorem part_upd (m p : Nat) (c : Nat → Int) (x : Int) : part m (p + 1) (upd c p x) = pushC m p (part m p c) x := by
  rw [part, part_congr m p (upd c p x) c (fun q hq => by unfold upd; rw [if_neg (by omega)])]
  unfold upd
  rw [if_pos rfl]

theorem unflat_succ (n m : Nat) (c : Nat → Int) : unflat (n + 1) m c = unflat n m c ++ [(List.range m).map fun k => c (n * m + k)] := by
  unfold unflat
  rw [List.range_succ, List.map_append]
  rfl

theorem part_row (m : Nat) (hm : 0 < m) (c : Nat → Int) (i : Nat) (h0 : part m (i * m) c = unflat i m c) : ∀ k, k ≤ m → part m (i * m + k) c = unflat i m c ++ if k = 0 then [] else [(List.range k).map fun k => c (i * m + k)]
  | 0, _ => by rw [Nat.add_zero, h0, if_pos rfl, List.append_nil]
  | k + 1, hk => by
    have ih := part_row m hm c i h0 k (by omega)
    have hd : (i * m + k) / m = i := by rw [Nat.mul_comm, Nat.mul_add_div hm, Nat.div_eq_of_lt (by omega), Nat.add_zero]
    have hr : (i * m + k) % m = k := by rw [Nat.mul_comm, Nat.mul_add_mod, Nat.mod_eq_of_lt (by omega)]
    rw [show i * m + (k + 1) = (i * m + k) + 1 by omega, part, ih]
    unfold pushC
    rw [hd, hr, if_neg (show ¬ k + 1 = 0 by omega)]
    have hl : (unflat i m c).length = i := by simp [unflat]
    by_cases h : k = 0
    · subst h
      rw [if_pos rfl, if_pos rfl, List.append_nil]
      rfl
    · rw [if_neg h, if_neg h, List.set_append_right _ _ (by omega), hl, Nat.sub_self]
      have hrow : rowOf (unflat i m c ++ [(List.range k).map fun k => c (i * m + k)]) i = (List.range k).map fun k => c (i * m + k) := by
        simp [rowOf, List.getD, hl]
      rw [hrow, List.range_succ, List.map_append]
      rfl

theorem part_full (m : Nat) (hm : 0 < m) (c : Nat → Int) : ∀ n, part m (n * m) c = unflat n m c
  | 0 => by rw [Nat.zero_mul]; rfl
  | n + 1 => by
    have h := part_row m hm c n (part_full m hm c n) m (Nat.le_refl _)
    rw [Nat.succ_mul, h, if_neg (by omega), unflat_succ]

theorem rowOf_unflat (n m : Nat) (c : Nat → Int) (i : Nat) (hi : i < n) : rowOf (unflat n m c) i = (List.range m).map fun k => c (i * m + k) := by
  simp [rowOf, unflat, List.getD, hi]

/-- Every choice goes on from what is there. -/
theorem C_out (f : Nat → Int) (inc : Nat → Bool) : ∀ r p c e, e ∈ C f inc r p c → ∀ q, q < p → e q = c q
  | 0, _, _, _, h, _, _ => by rw [C, List.mem_singleton] at h; rw [h]
  | r + 1, p, c, e, h, q, hq => by
    rw [C, List.mem_append] at h
    rcases h with h | h
    · rw [C_out f inc r (p + 1) _ e h q (by omega)]
      unfold upd; rw [if_neg (by omega)]
    · by_cases hi : inc p = true
      · rw [if_pos hi] at h
        rw [C_out f inc r (p + 1) _ e h q (by omega)]
        unfold upd; rw [if_neg (by omega)]
      · rw [if_neg hi] at h; cases h

/-- The model's search, r numbers ahead. -/
def fromM (g : List (List Int)) (u : Int) (m N : Nat) : Nat → List (List Int) → Option (List (List Int))
  | 0, o => if fitsB g u o = true then some o else none
  | r + 1, o =>
    if (N - (r + 1)) % m = 0 ∧ 0 < (N - (r + 1)) / m ∧ nearB (tot (rowOf o ((N - (r + 1)) / m - 1))) (tot (rowOf g ((N - (r + 1)) / m - 1))) u = false then none
    else match fromM g u m N r (pushC m (N - (r + 1)) o (fF g u (N - (r + 1)))) with
      | some t => some t
      | none => if incF g u (N - (r + 1)) = true then fromM g u m N r (pushC m (N - (r + 1)) o (fF g u (N - (r + 1)) + 1)) else none

end Go.Proofs.Ytlblhhfapeljfaa
