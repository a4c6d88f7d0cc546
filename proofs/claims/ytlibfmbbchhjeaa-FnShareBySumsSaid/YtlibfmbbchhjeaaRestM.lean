/- Plain mathematics: shares by the largest rests add up, are fair, and follow the weights. -/
import Derived.Test.YtlibfmbbchhjeaaRest
import Derived.Test.YtlibfmbbchhjeaaFair
namespace Go.Proofs.Ytlibfmbbchhjeaa

theorem firstMax_exists (f : Nat → Int) : ∀ n, 0 < n → ∃ m, FirstMax f n m := by
  intro n
  induction n with
  | zero => intro h; omega
  | succ n ih =>
    intro _
    by_cases h0 : n = 0
    · subst h0; exact ⟨0, firstMax_start f⟩
    · obtain ⟨m, hm⟩ := ih (by omega)
      by_cases hlt : f m < f n
      · exact ⟨n, firstMax_take hm hlt⟩
      · exact ⟨m, firstMax_keep hm (by omega)⟩

theorem inv_exists {r : Nat → Int} {n : Nat} (hr : ∀ j, j < n → 0 ≤ r j) : ∀ k, k ≤ n → ∃ p, Inv r n p k := by
  intro k
  induction k with
  | zero => intro _; exact ⟨_, inv_start r n⟩
  | succ k ih =>
    intro hk
    obtain ⟨p, hp⟩ := ih (by omega)
    obtain ⟨m, hm⟩ := firstMax_exists (restF r p) n (by omega)
    exact ⟨_, (inv_step hr hp (by omega) hm).2⟩

theorem tot_append (a b : List Int) : tot (a ++ b) = tot a + tot b := by unfold tot; rw [List.sum_append]

theorem tot_range_add (f : Nat → Int) (p : Nat → Bool) : ∀ n, tot ((List.range n).map fun i => f i + if p i = true then 1 else 0) = tot ((List.range n).map f) + ((List.range n).countP p : Int) := by
  intro n
  induction n with
  | zero => rfl
  | succ n ih =>
    rw [List.range_succ, List.map_append, List.map_append, List.countP_append, tot_append, tot_append, ih]
    have e1 : tot (List.map (fun i => f i + if p i = true then 1 else 0) [n]) = f n + if p n = true then 1 else 0 := by simp [tot]
    have e2 : tot (List.map f [n]) = f n := by simp [tot]
    have e3 : ((List.countP p [n] : Nat) : Int) = if p n = true then 1 else 0 := by rw [List.countP_singleton]; split <;> rfl
    rw [e1, e2, Int.natCast_add, e3]
    omega

/-- Shares by rests add up. -/
theorem rest_tot {t : Int} {xs : List Int} (h : cShare t xs = true) : tot (restL t xs) = t := by
  have hlb := left_bounds h
  have hl : 0 ≤ leftI t xs ∧ leftI t xs < xs.length := hlb
  obtain ⟨k, hk⟩ : ∃ k : Nat, leftI t xs = k := ⟨(leftI t xs).toNat, by omega⟩
  obtain ⟨p, hp⟩ := inv_exists (r := rAt t xs) (n := xs.length) (fun j _ => (qr_facts h j).2.1) k (by omega)
  rw [restL, if_pos h, ← outF_end hp hk]
  have e : (List.range xs.length).map (outF t xs p) = (List.range xs.length).map (fun i => qAt t xs i + if p i = true then 1 else 0) := rfl
  rw [e, tot_range_add, hp.1, qAt_list]
  have e2 : leftI t xs = t - tot (xs.map (fun x => t * x / tot xs)) := rfl
  omega

/-- Where rests are left over, more parts have a rest above 0 than are left over. -/
theorem pos_rests (s : Int) (r : Nat → Int) : ∀ n, (∀ j, j < n → 0 ≤ r j ∧ r j < s) → tot ((List.range n).map r) ≤ (s - 1) * ((List.range n).countP (fun j => decide (0 < r j)) : Int) := by
  intro n
  induction n with
  | zero => intro _; simp [tot]
  | succ n ih =>
    intro h
    have h1 := ih (fun j hj => h j (by omega))
    have h2 := h n (by omega)
    rw [List.range_succ, List.map_append, tot_append, List.countP_append, List.countP_singleton, Int.natCast_add, Int.mul_add]
    have e : tot (List.map r [n]) = r n := by simp [tot]
    rw [e]
    by_cases hp : 0 < r n
    · simp only [hp, decide_true, if_true]
      omega
    · simp only [hp, decide_false, Bool.false_eq_true, if_false]
      omega

theorem rest_sum {t : Int} {xs : List Int} (h : cShare t xs = true) : tot ((List.range xs.length).map (rAt t xs)) = tot xs * leftI t xs := by
  obtain ⟨t0, t1, hvp⟩ := cShare_facts h
  obtain ⟨hlen, hall, s0, s1, hsf⟩ := vParts_facts hvp
  have key : ∀ n, n ≤ xs.length → tot xs * tot ((List.range n).map (qAt t xs)) + tot ((List.range n).map (rAt t xs)) = t * tot (xs.take n) := by
    intro n
    induction n with
    | zero => intro _; simp [tot]
    | succ n ih =>
      intro hn
      have h1 := ih (by omega)
      rw [List.range_succ, List.map_append, List.map_append, tot_append, tot_append, tot_take_succ xs n (by omega)]
      have e1 : tot (List.map (qAt t xs) [n]) = qAt t xs n := by simp [tot]
      have e2 : tot (List.map (rAt t xs) [n]) = rAt t xs n := by simp [tot]
      rw [e1, e2, Int.mul_add, Int.mul_add]
      have e3 := Int.mul_ediv_add_emod (t * xs.getD n 0) (tot xs)
      have hn2 : n < xs.length := by omega
      have e4 : xs.getD n 0 = xs[n] := by simp [List.getD, hn2]
      unfold qAt rAt at *
      rw [e4] at e3 ⊢
      omega
  have := key xs.length (Nat.le_refl _)
  rw [List.take_of_length_le (Nat.le_refl _), qAt_list] at this
  unfold leftI
  rw [Int.mul_sub, Int.mul_comm (tot xs) t]
  omega

/-- A part without a rest gets none of what is left over. -/
theorem rest_zero {t : Int} {xs : List Int} (h : cShare t xs = true) {i : Nat} (hr : rAt t xs i = 0) : ¬ (cntA (rAt t xs) i xs.length : Int) < leftI t xs := by
  obtain ⟨t0, t1, hvp⟩ := cShare_facts h
  obtain ⟨hlen, hall, s0, s1, hsf⟩ := vParts_facts hvp
  have hlb := left_bounds h
  have hl : 0 ≤ leftI t xs ∧ leftI t xs < xs.length := hlb
  have hb := pos_rests (tot xs) (rAt t xs) xs.length (fun j _ => ⟨(qr_facts h j).2.1, Int.emod_lt_of_pos _ (by omega)⟩)
  rw [rest_sum h] at hb
  have hm := countP_range_mono (fun j => decide (0 < rAt t xs j)) (fun j => aheadB (rAt t xs) j i) xs.length (fun j _ hj => by
    rw [aheadB_iff, hr]
    left
    simpa using hj)
  have hc : cntA (rAt t xs) i xs.length = (List.range xs.length).countP (fun j => aheadB (rAt t xs) j i) := rfl
  intro hlt
  generalize (List.range xs.length).countP (fun j => decide (0 < rAt t xs j)) = m at hb hm
  have hml : (m : Int) < leftI t xs := by omega
  have h1 : (tot xs - 1) * (m : Int) ≤ tot xs * m := Int.mul_le_mul_of_nonneg_right (by omega) (by omega)
  have h2 : tot xs * (m : Int) < tot xs * leftI t xs := Int.mul_lt_mul_of_pos_left hml (by omega)
  omega

/-- Shares by rests are fair. -/
theorem rest_ok {t : Int} {xs : List Int} (h : cShare t xs = true) (i : Nat) (hi : i < xs.length) : okAt t xs (restL t xs) i = true := by
  obtain ⟨t0, t1, hvp⟩ := cShare_facts h
  obtain ⟨hlen, hall, s0, s1, hsf⟩ := vParts_facts hvp
  have e : (restL t xs).getD i 0 = restAt t xs i := by rw [restL, if_pos h, getD_range _ _ _ hi]
  have hup := div_up (a := t * xs.getD i 0) s0
  unfold okAt inR
  rw [e, decide_eq_true_iff]
  unfold restAt
  by_cases hlt : (cntA (rAt t xs) i xs.length : Int) < leftI t xs
  · rw [if_pos hlt]
    have hr : rAt t xs i ≠ 0 := fun hr => rest_zero h hr hlt
    have hr0 := (qr_facts h i).2.1
    have e3 := Int.mul_ediv_add_emod (t * xs.getD i 0) (tot xs)
    have hq : (t * xs.getD i 0) / tot xs + 1 ≤ (t * xs.getD i 0 + tot xs - 1) / tot xs := by
      apply Int.le_ediv_of_mul_le (by omega)
      rw [Int.add_mul, Int.mul_comm]
      unfold rAt at hr hr0
      omega
    unfold qAt
    omega
  · rw [if_neg hlt]
    unfold qAt
    omega

theorem rest_fair {t : Int} {xs : List Int} (h : cShare t xs = true) : fairL t xs (restL t xs) = true := by
  have hl : (restL t xs).length = xs.length := by rw [restL, if_pos h]; simp
  rw [fairL_yes h hl (fun k hk => rest_ok h k hk), rest_tot h]
  simp

theorem cnt_lt {r : Nat → Int} {n i k : Nat} (hi : i < n) (h : aheadB r i k = true) : cntA r i n < cntA r k n := by
  have hirr : aheadB r i i = false := by
    cases hx : aheadB r i i
    · rfl
    · rw [aheadB_iff] at hx; omega
  have h1 := countP_insert (fun j => aheadB r j i) i hirr n hi
  have h2 := countP_range_mono (fun j => aheadB r j i || decide (j = i)) (fun j => aheadB r j k) n (by
    intro j hj hq
    simp only [Bool.or_eq_true, decide_eq_true_eq] at hq
    rcases hq with hq | rfl
    · rw [aheadB_iff] at *; omega
    · exact h)
  unfold cntA
  omega

/-- No part gets less than one with less weight. -/
theorem rest_mono {t : Int} {xs : List Int} (h : cShare t xs = true) {i k : Nat} (hi : i < xs.length) (hw : xs.getD k 0 < xs.getD i 0) : restAt t xs k ≤ restAt t xs i := by
  obtain ⟨t0, t1, hvp⟩ := cShare_facts h
  obtain ⟨hlen, hall, s0, s1, hsf⟩ := vParts_facts hvp
  have hp : t * xs.getD k 0 ≤ t * xs.getD i 0 := Int.mul_le_mul_of_nonneg_left (by omega) t0
  have hq : qAt t xs k ≤ qAt t xs i := Int.ediv_le_ediv (by omega) hp
  unfold restAt
  by_cases hlt : (cntA (rAt t xs) k xs.length : Int) < leftI t xs
  · rw [if_pos hlt]
    by_cases he : qAt t xs k = qAt t xs i
    · have e1 := Int.mul_ediv_add_emod (t * xs.getD k 0) (tot xs)
      have e2 := Int.mul_ediv_add_emod (t * xs.getD i 0) (tot xs)
      have hr : rAt t xs k ≤ rAt t xs i := by
        unfold qAt at he
        unfold rAt
        rw [he] at e1
        omega
      by_cases ht : t = 0
      · exfalso
        have hz : rAt t xs k = 0 := by unfold rAt; rw [ht, Int.zero_mul]; exact Int.zero_emod _
        exact rest_zero h hz hlt
      · have hp2 : t * xs.getD k 0 < t * xs.getD i 0 := Int.mul_lt_mul_of_pos_left hw (by omega)
        have hr2 : rAt t xs k < rAt t xs i := by
          unfold qAt at he
          unfold rAt
          rw [he] at e1
          omega
        have hc := cnt_lt hi (show aheadB (rAt t xs) i k = true by rw [aheadB_iff]; exact .inl hr2)
        rw [if_pos (by omega)]
        omega
    · split <;> omega
  · rw [if_neg hlt]
    split <;> omega

theorem rest_same {t : Int} {xs : List Int} {i k : Nat} (hi : i < xs.length) (hw : xs.getD i 0 = xs.getD k 0) (hik : i < k) : restAt t xs k ≤ restAt t xs i ∧ restAt t xs i ≤ restAt t xs k + 1 := by
  have hq : qAt t xs i = qAt t xs k := by unfold qAt; rw [hw]
  have hr : rAt t xs i = rAt t xs k := by unfold rAt; rw [hw]
  have hc := cnt_lt hi (show aheadB (rAt t xs) i k = true by rw [aheadB_iff]; exact .inr ⟨hr, hik⟩)
  unfold restAt
  rw [hq]
  by_cases h1 : (cntA (rAt t xs) k xs.length : Int) < leftI t xs
  · rw [if_pos h1, if_pos (by omega)]; omega
  · rw [if_neg h1]
    split <;> omega

end Go.Proofs.Ytlibfmbbchhjeaa
