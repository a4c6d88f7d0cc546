/- Plain mathematics of shares by the largest rests: who is ahead of whom, and that picking the greatest again and again picks those of the least ranks. -/
import Derived.Test.YtlibfmbbchhjeaaShare
namespace Go.Proofs.Ytlibfmbbchhjeaa

/-- The number with the index j is ahead of that with the index i. -/
def aheadB (r : Nat → Int) (j i : Nat) : Bool := decide (r i < r j) || (decide (r j = r i) && decide (j < i))

theorem aheadB_iff (r : Nat → Int) (j i : Nat) : aheadB r j i = true ↔ r i < r j ∨ (r j = r i ∧ j < i) := by
  simp [aheadB]

/-- How many of the first n are ahead. -/
def cntA (r : Nat → Int) (i n : Nat) : Nat := (List.range n).countP (fun j => aheadB r j i)

theorem cntA_le (r : Nat → Int) (i n : Nat) : cntA r i n ≤ n := by
  have := List.countP_le_length (p := fun j => aheadB r j i) (l := List.range n)
  simpa [cntA] using this

theorem cntA_succ (r : Nat → Int) (i n : Nat) : cntA r i (n + 1) = cntA r i n + if aheadB r n i = true then 1 else 0 := by
  unfold cntA
  rw [List.range_succ, List.countP_append, List.countP_singleton]

theorem countP_range_mono (p q : Nat → Bool) (n : Nat) (h : ∀ j, j < n → p j = true → q j = true) : (List.range n).countP p ≤ (List.range n).countP q := by
  apply List.countP_mono_left
  intro x hx hp
  exact h x (by simpa using hx) hp

theorem countP_insert (p : Nat → Bool) (a : Nat) (hp : p a = false) : ∀ n, a < n → (List.range n).countP (fun j => p j || decide (j = a)) = (List.range n).countP p + 1 := by
  have hsame : ∀ n, n ≤ a → (List.range n).countP (fun j => p j || decide (j = a)) = (List.range n).countP p := by
    intro n hn
    apply List.countP_congr
    intro x hx
    have : x < n := by simpa using hx
    have e : x ≠ a := by omega
    simp [e]
  intro n
  induction n with
  | zero => intro h; omega
  | succ n ih =>
    intro h
    rw [List.range_succ, List.countP_append, List.countP_append, List.countP_singleton, List.countP_singleton]
    by_cases e : a = n
    · subst e
      rw [hsame a (Nat.le_refl _), hp]
      simp
    · rw [ih (by omega)]
      have e' : n ≠ a := fun h => e h.symm
      simp [e']
      omega

theorem exists_unpicked (p : Nat → Bool) (n : Nat) (h : (List.range n).countP p < n) : ∃ i, i < n ∧ p i = false := by
  apply Classical.byContradiction
  intro hno
  have hall : ∀ i ∈ List.range n, p i = true := by
    intro i hi
    have hin : i < n := by simpa using hi
    cases hpi : p i
    · exact absurd ⟨i, hin, hpi⟩ hno
    · rfl
  have := List.countP_eq_length.2 hall
  simp at this
  omega

/-- k of the first n are picked, each of them ahead of all others. -/
def Inv (r : Nat → Int) (n : Nat) (p : Nat → Bool) (k : Nat) : Prop :=
  (List.range n).countP p = k ∧ ∀ i j, i < n → j < n → p i = true → p j = false → aheadB r i j = true

/-- What is left to be picked. -/
def restF (r : Nat → Int) (p : Nat → Bool) (j : Nat) : Int := if p j = true then -1 else r j

/-- The first one of the greatest of the first n. -/
def FirstMax (f : Nat → Int) (n m : Nat) : Prop := m < n ∧ (∀ j, j < n → f j ≤ f m) ∧ ∀ j, j < m → f j < f m

theorem inv_start (r : Nat → Int) (n : Nat) : Inv r n (fun _ => false) 0 := by
  refine ⟨by simp, ?_⟩
  intro i j _ _ h
  cases h

theorem inv_step {r : Nat → Int} {n k m : Nat} {p : Nat → Bool} (hr : ∀ j, j < n → 0 ≤ r j) (h : Inv r n p k) (hk : k < n) (hm : FirstMax (restF r p) n m) :
    p m = false ∧ Inv r n (fun j => p j || decide (j = m)) (k + 1) := by
  obtain ⟨i0, hi0, hp0⟩ := exists_unpicked p n (by rw [h.1]; exact hk)
  have hpm : p m = false := by
    cases hpm : p m
    · rfl
    · have := hm.2.1 i0 hi0
      have h0 := hr i0 hi0
      unfold restF at this
      rw [hpm, hp0] at this
      simp at this
      omega
  refine ⟨hpm, by rw [countP_insert p m hpm n hm.1, h.1], ?_⟩
  intro i j hi hj hpi hpj
  simp only [Bool.or_eq_false_iff, decide_eq_false_iff_not] at hpj
  simp only [Bool.or_eq_true, decide_eq_true_eq] at hpi
  rcases hpi with hpi | rfl
  · exact h.2 i j hi hj hpi hpj.1
  · rw [aheadB_iff]
    have h1 := hm.2.1 j hj
    have h2 := hm.2.2 j
    unfold restF at h1 h2
    rw [hpj.1, hpm] at h1
    simp only [Bool.false_eq_true, if_false] at h1
    rw [hpj.1, hpm] at h2
    simp only [Bool.false_eq_true, if_false] at h2
    by_cases hlt : j < i
    · exact .inl (h2 hlt)
    · have hne := hpj.2
      by_cases he : r j = r i
      · exact .inr ⟨he.symm, by omega⟩
      · exact .inl (by omega)

theorem inv_end {r : Nat → Int} {n k : Nat} {p : Nat → Bool} (h : Inv r n p k) (i : Nat) (hi : i < n) : p i = true ↔ cntA r i n < k := by
  constructor
  · intro hp
    have hirr : aheadB r i i = false := by
      cases hx : aheadB r i i
      · rfl
      · rw [aheadB_iff] at hx; omega
    have h1 := countP_insert (fun j => aheadB r j i) i hirr n hi
    have h2 := countP_range_mono (fun j => aheadB r j i || decide (j = i)) p n (by
      intro j hj hq
      simp only [Bool.or_eq_true, decide_eq_true_eq] at hq
      rcases hq with hq | rfl
      · cases hpj : p j
        · have := h.2 i j hi hj hp hpj
          rw [aheadB_iff] at this hq
          omega
        · rfl
      · exact hp)
    have h3 := h.1
    unfold cntA
    omega
  · intro hlt
    cases hp : p i
    · have h2 := countP_range_mono p (fun j => aheadB r j i) n (fun j hj hpj => h.2 j i hj hi hpj hp)
      have h3 := h.1
      unfold cntA at hlt
      omega
    · rfl

theorem quot_sum (t s : Int) (hs : 1 ≤ s) (l : List Int) : ∃ R : Int, s * tot (l.map (fun x => t * x / s)) + R = t * tot l ∧ 0 ≤ R ∧ R ≤ (s - 1) * l.length := by
  unfold tot
  induction l with
  | nil => exact ⟨0, by simp, by omega, by simp⟩
  | cons a l ih =>
    obtain ⟨R, h1, h2, h3⟩ := ih
    have e1 := Int.mul_ediv_add_emod (t * a) s
    have e2 := Int.emod_nonneg (t * a) (show s ≠ 0 by omega)
    have e3 := Int.emod_lt_of_pos (t * a) (show 0 < s by omega)
    refine ⟨t * a % s + R, ?_, by omega, ?_⟩
    · simp only [List.map_cons, List.sum_cons, Int.mul_add]
      omega
    · simp only [List.length_cons, Int.natCast_add, Int.mul_add]
      omega

/-- What is left over is less than the number of parts. -/
theorem left_bounds {t : Int} {xs : List Int} (h : cShare t xs = true) :
    0 ≤ t - tot (xs.map (fun x => t * x / tot xs)) ∧ t - tot (xs.map (fun x => t * x / tot xs)) < xs.length := by
  obtain ⟨t0, t1, hvp⟩ := cShare_facts h
  obtain ⟨hlen, hall, s0, s1, hsf⟩ := vParts_facts hvp
  obtain ⟨R, h1, h2, h3⟩ := quot_sum t (tot xs) s0 xs
  generalize tot (xs.map (fun x => t * x / tot xs)) = Q at *
  generalize tot xs = s at *
  have e : s * (t - Q) = R := by rw [Int.mul_sub, Int.mul_comm s t]; omega
  have hn : (s - 1) * (xs.length : Int) = s * xs.length - xs.length := by rw [Int.sub_mul, Int.one_mul]
  constructor
  · apply Classical.byContradiction
    intro hneg
    have : s * (t - Q) < 0 := Int.mul_neg_of_pos_of_neg (by omega) (by omega)
    omega
  · apply Int.lt_of_mul_lt_mul_left (a := s) _ (by omega)
    omega

end Go.Proofs.Ytlibfmbbchhjeaa
