/- Plain mathematics: shares by rounded sums add up, are fair, and parts may be put together. -/
import Derived.Test.YtlibfmbbchhjeaaShare
import Derived.Test.YtlibfmbbchhjeaaFair
import Derived.Test.YtlibfmbbchhjeaaRestM
namespace Go.Proofs.Ytlibfmbbchhjeaa

theorem rd_full (t s : Int) (hs : 1 ≤ s) : rd t s s = t := by
  unfold rd
  have e : 2 * t * s + s = s + t * (2 * s) := by rw [Int.mul_comm 2 t, Int.mul_assoc]; omega
  rw [e, Int.add_mul_ediv_right _ _ (by omega), Int.ediv_eq_zero_of_lt (by omega) (by omega)]
  omega

theorem sums_prefix (t : Int) (xs : List Int) (hs : 1 ≤ tot xs) : ∀ n, tot ((List.range n).map (sumsAt t xs)) = rd t (tot xs) (tot (xs.take n)) := by
  intro n
  induction n with
  | zero => rw [show tot (xs.take 0) = 0 from rfl, rd_zero _ _ hs]; rfl
  | succ n ih =>
    rw [List.range_succ, List.map_append, tot_append, ih]
    have e : tot (List.map (sumsAt t xs) [n]) = sumsAt t xs n := by simp [tot]
    rw [e]
    unfold sumsAt
    omega

theorem sums_tot {t : Int} {xs : List Int} (h : cShare t xs = true) : tot (sumsL t xs) = t := by
  obtain ⟨t0, t1, hvp⟩ := cShare_facts h
  obtain ⟨hlen, hall, s0, s1, hsf⟩ := vParts_facts hvp
  rw [sumsL, if_pos h, sums_prefix t xs s0, List.take_of_length_le (Nat.le_refl _), rd_full _ _ s0]

theorem sums_ok {t : Int} {xs : List Int} (h : cShare t xs = true) (i : Nat) (hi : i < xs.length) : okAt t xs (sumsL t xs) i = true := by
  obtain ⟨t0, t1, hvp⟩ := cShare_facts h
  obtain ⟨hlen, hall, s0, s1, hsf⟩ := vParts_facts hvp
  have e : (sumsL t xs).getD i 0 = sumsAt t xs i := by rw [sumsL, if_pos h, getD_range _ _ _ hi]
  have ex : xs.getD i 0 = xs[i] := by simp [List.getD, hi]
  have hm := mul_facts t0 t1 hall i hi
  unfold okAt inR
  rw [e, ex, decide_eq_true_iff]
  unfold sumsAt rd
  rw [tot_take_succ xs i hi]
  generalize tot (xs.take i) = u
  generalize tot xs = s at *
  generalize xs[i] = x at *
  have e1 : 2 * t * (u + x) + s = (2 * t * u + s) + 2 * (t * x) := by rw [Int.mul_add, Int.mul_assoc 2 t x]; omega
  rw [e1]
  generalize t * x = B at *
  generalize 2 * t * u + s = A
  have d1 := Int.mul_ediv_add_emod A (2 * s)
  have d2 := Int.emod_nonneg A (show 2 * s ≠ 0 by omega)
  have d3 := Int.emod_lt_of_pos A (show 0 < 2 * s by omega)
  have f1 := Int.mul_ediv_add_emod B s
  have f2 := Int.emod_nonneg B (show s ≠ 0 by omega)
  have c1 := Int.mul_ediv_add_emod (B + s - 1) s
  have c2 := Int.emod_lt_of_pos (B + s - 1) (show 0 < s by omega)
  have c3 := Int.emod_nonneg (B + s - 1) (show s ≠ 0 by omega)
  have l : A / (2 * s) + B / s ≤ (A + 2 * B) / (2 * s) := by
    apply Int.le_ediv_of_mul_le (by omega)
    rw [Int.add_mul, Int.mul_comm (A / (2 * s)), Int.mul_comm (B / s), Int.mul_assoc 2 s (B / s)]
    omega
  have r : (A + 2 * B) / (2 * s) < A / (2 * s) + (B + s - 1) / s + 1 := by
    apply Int.ediv_lt_of_lt_mul (by omega)
    rw [Int.add_mul, Int.add_mul, Int.mul_comm (A / (2 * s)), Int.mul_comm ((B + s - 1) / s), Int.mul_assoc 2 s ((B + s - 1) / s)]
    omega
  omega

theorem sums_fair {t : Int} {xs : List Int} (h : cShare t xs = true) : fairL t xs (sumsL t xs) = true := by
  have hl : (sumsL t xs).length = xs.length := by rw [sumsL, if_pos h]; simp
  rw [fairL_yes h hl (fun k hk => sums_ok h k hk), sums_tot h]
  simp

/-- The last two parts put together. -/
def joined (xs : List Int) (n : Nat) : List Int := xs.take n ++ [xs.getD n 0 + xs.getD (n + 1) 0]

theorem take_two (xs : List Int) (n : Nat) (h : xs.length = n + 2) : xs = xs.take n ++ [xs.getD n 0, xs.getD (n + 1) 0] := by
  have h1 : n < xs.length := by omega
  have h2 : n + 1 < xs.length := by omega
  have e1 : xs.getD n 0 = xs[n] := by simp [List.getD, h1]
  have e2 : xs.getD (n + 1) 0 = xs[n + 1] := by simp [List.getD, h2]
  rw [e1, e2]
  have := List.take_append_drop n xs
  rw [List.drop_eq_getElem_cons h1, List.drop_eq_getElem_cons h2, List.drop_of_length_le (by omega)] at this
  exact this.symm

theorem joined_tot (xs : List Int) (n : Nat) (h : xs.length = n + 2) : tot (joined xs n) = tot xs := by
  conv => rhs; rw [take_two xs n h]
  unfold joined
  rw [tot_append, tot_append]
  simp [tot]

theorem joined_valid {t : Int} {xs : List Int} {n : Nat} (hc : cShare t xs = true) (h : xs.length = n + 2) (h50 : xs.getD n 0 + xs.getD (n + 1) 0 ≤ 50) : cShare t (joined xs n) = true := by
  obtain ⟨t0, t1, hvp⟩ := cShare_facts hc
  obtain ⟨hlen, hall, s0, s1, hsf⟩ := vParts_facts hvp
  have hl : (joined xs n).length = n + 1 := by unfold joined; simp; omega
  have g1 := hall (xs.getD n 0) (by have : n < xs.length := by omega
                                    simp [List.getD, this])
  have g2 := hall (xs.getD (n + 1) 0) (by have : n + 1 < xs.length := by omega
                                          simp [List.getD, this])
  have e0 : inR t 0 100000 = true := by unfold inR; rw [decide_eq_true_iff]; omega
  have e1 : inR ((joined xs n).length : Int) 1 8 = true := by unfold inR; rw [decide_eq_true_iff, hl]; omega
  have e2 : allR (joined xs n) 0 50 = true := by
    unfold allR
    rw [List.all_eq_true]
    intro x hx
    unfold inR
    rw [decide_eq_true_iff]
    rcases List.mem_append.1 hx with hx | hx
    · exact hall x (List.mem_of_mem_take hx)
    · simp only [List.mem_singleton] at hx; subst hx; omega
  unfold cShare vParts
  rw [e0, e1, e2, joined_tot xs n h]
  simp
  omega

theorem joined_take (xs : List Int) (n i : Nat) (h : xs.length = n + 2) (hi : i ≤ n) : (joined xs n).take i = xs.take i := by
  unfold joined
  rw [List.take_append_of_le_length (by simp; omega), List.take_take]
  congr 1
  omega

theorem joined_sums {t : Int} {xs : List Int} {n : Nat} (hc : cShare t xs = true) (h : xs.length = n + 2) (h50 : xs.getD n 0 + xs.getD (n + 1) 0 ≤ 50) :
    (sumsL t (joined xs n)).length = n + 1 ∧ (sumsL t (joined xs n)).take n = (sumsL t xs).take n ∧ (sumsL t (joined xs n)).getD n 0 = (sumsL t xs).getD n 0 + (sumsL t xs).getD (n + 1) 0 := by
  have hl : (joined xs n).length = n + 1 := by unfold joined; simp; omega
  have hj := joined_valid hc h h50
  have ej : sumsL t (joined xs n) = (List.range (n + 1)).map (sumsAt t (joined xs n)) := by rw [sumsL, if_pos hj, hl]
  have ex : sumsL t xs = (List.range (n + 2)).map (sumsAt t xs) := by rw [sumsL, if_pos hc, h]
  have hsame : ∀ i, i < n → sumsAt t (joined xs n) i = sumsAt t xs i := by
    intro i hi
    unfold sumsAt
    rw [joined_tot xs n h, joined_take xs n (i + 1) h (by omega), joined_take xs n i h (by omega)]
  refine ⟨by rw [ej]; simp, ?_, ?_⟩
  · rw [ej, ex, ← List.map_take, ← List.map_take, List.take_range, List.take_range]
    have a1 : min n (n + 1) = n := by omega
    have a2 : min n (n + 2) = n := by omega
    rw [a1, a2]
    apply List.map_congr_left
    intro i hi
    exact hsame i (by simpa using hi)
  · rw [ej, ex, getD_range _ _ _ (by omega), getD_range _ _ _ (by omega), getD_range _ _ _ (by omega)]
    unfold sumsAt
    rw [joined_tot xs n h, joined_take xs n n h (Nat.le_refl _)]
    have e1 : (joined xs n).take (n + 1) = joined xs n := List.take_of_length_le (by omega)
    have e2 : xs.take (n + 1 + 1) = xs := List.take_of_length_le (by omega)
    rw [e1, e2, joined_tot xs n h]
    omega

end Go.Proofs.Ytlibfmbbchhjeaa
