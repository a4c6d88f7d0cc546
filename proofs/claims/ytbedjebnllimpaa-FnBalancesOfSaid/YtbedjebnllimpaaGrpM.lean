/- Most groups that add up to nothing: the recursion. -/
import Derived.Test.YtbedjebnllimpaaGrpB
namespace Go.Proofs.Ytbedjebnllimpaa
open Go.RowKit

/-- The sum of those of the first friends that are in the set. -/
def ttN (xs : List Int) (s : Nat) : Nat → Int
  | 0 => 0
  | i + 1 => if bitN s i = 1 then ttN xs s i + xs.getD i 0 else ttN xs s i

/-- The most by leaving out one of the first friends of the set. -/
def mxN (s : Nat) (F : Nat → Int) : Nat → Int
  | 0 => 0
  | i + 1 => if bitN s i = 1 then max (mxN s F i) (F (s - 2 ^ i)) else mxN s F i

def gpF (xs : List Int) : Nat → Nat → Int
  | 0, _ => 0
  | f + 1, s => if s = 0 then 0 else mxN s (gpF xs f) xs.length + if ttN xs s xs.length = 0 then 1 else 0

/-- The most groups of the set. -/
def gp (xs : List Int) (s : Nat) : Int := gpF xs s s

theorem bit_le {s i : Nat} (h : bitN s i = 1) : 1 ≤ 2 ^ i ∧ 2 ^ i ≤ s := by
  have hp : 0 < 2 ^ i := Nat.pow_pos (by decide)
  refine ⟨hp, ?_⟩
  apply Classical.byContradiction
  intro hn
  unfold bitN at h
  rw [Nat.div_eq_of_lt (by omega)] at h
  exact absurd h (by decide)

theorem mxN_congr {s : Nat} {F F' : Nat → Int} : ∀ n, (∀ i, i < n → bitN s i = 1 → F (s - 2 ^ i) = F' (s - 2 ^ i)) → mxN s F n = mxN s F' n
  | 0, _ => rfl
  | n + 1, h => by
    rw [mxN, mxN, mxN_congr n (fun i hi => h i (by omega))]
    by_cases e : bitN s n = 1
    · rw [if_pos e, if_pos e, h n (by omega) e]
    · rw [if_neg e, if_neg e]

theorem gpF_at0 (xs : List Int) : ∀ f, gpF xs f 0 = 0
  | 0 => rfl
  | _ + 1 => rfl

theorem gpF_two (xs : List Int) : ∀ f s, s ≤ f → ∀ f', s ≤ f' → gpF xs f s = gpF xs f' s
  | 0, s, h, f', _ => by
    have : s = 0 := by omega
    subst this
    rw [gpF_at0, gpF_at0]
  | f + 1, 0, _, f', _ => by rw [gpF_at0, gpF_at0]
  | f + 1, s + 1, h, 0, h' => absurd h' (by omega)
  | f + 1, s + 1, h, f' + 1, h' => by
    rw [gpF, if_neg (Nat.succ_ne_zero s), gpF, if_neg (Nat.succ_ne_zero s)]
    congr 1
    refine mxN_congr _ fun i _ hb => ?_
    have hle := bit_le hb
    generalize 2 ^ i = p at *
    exact gpF_two xs f (s + 1 - p) (by omega) f' (by omega)

theorem gpF_fuel (xs : List Int) (f s : Nat) (h : s ≤ f) : gpF xs f s = gp xs s := gpF_two xs f s h s (Nat.le_refl _)

theorem gp_zero (xs : List Int) : gp xs 0 = 0 := rfl
theorem gp_eq (xs : List Int) {s : Nat} (hs : 1 ≤ s) : gp xs s = mxN s (gp xs) xs.length + if ttN xs s xs.length = 0 then 1 else 0 := by
  obtain ⟨s, rfl⟩ : ∃ t, s = t + 1 := ⟨s - 1, by omega⟩
  unfold gp
  rw [gpF, if_neg (by omega)]
  congr 1
  refine mxN_congr _ fun i _ hb => ?_
  have hle := bit_le hb
  exact gpF_fuel xs s (s + 1 - 2 ^ i) (by omega)

theorem mxN_bounds {s : Nat} {F : Nat → Int} {m : Int} (hm : 0 ≤ m) : ∀ n, (∀ i, i < n → bitN s i = 1 → F (s - 2 ^ i) ≤ m) → 0 ≤ mxN s F n ∧ mxN s F n ≤ m
  | 0, _ => ⟨Int.le_refl _, hm⟩
  | n + 1, h => by
    have ih := mxN_bounds hm n (fun i hi => h i (by omega))
    rw [mxN]
    by_cases e : bitN s n = 1
    · rw [if_pos e]
      have := h n (by omega) e
      omega
    · rw [if_neg e]; exact ih

theorem gp_bounds (xs : List Int) : ∀ f s, s ≤ f → 0 ≤ gp xs s ∧ gp xs s ≤ s
  | 0, s, h => by
    have : s = 0 := by omega
    subst this; exact ⟨Int.le_refl _, Int.le_refl _⟩
  | f + 1, 0, _ => ⟨Int.le_refl _, Int.le_refl _⟩
  | f + 1, s + 1, h => by
    rw [gp_eq xs (by omega)]
    have := mxN_bounds (s := s + 1) (F := gp xs) (m := s) (by omega) xs.length (fun i _ hb => by
      have hle := bit_le hb
      have := (gp_bounds xs f (s + 1 - 2 ^ i) (by omega)).2
      omega)
    split <;> omega

theorem ttN_bounds {xs : List Int} {m : Int} (h0 : 0 ≤ m) (hm : ∀ x ∈ xs, -m ≤ x ∧ x ≤ m) (s : Nat) : ∀ n : Nat, n ≤ xs.length → -(m * n) ≤ ttN xs s n ∧ ttN xs s n ≤ m * n
  | 0, _ => by simp [ttN]
  | n + 1, h => by
    have ih := ttN_bounds h0 hm s n (by omega)
    have hx := hm (xs.getD n 0) (by simp [List.getD, show n < xs.length by omega])
    rw [ttN, Int.natCast_add, Int.mul_add]
    split <;> omega

/-- The table of the most groups, with the sets before s done. -/
def gpT (xs : List Int) (N s : Nat) : List Int := (List.range N).map fun t => if t < s then gp xs t else 0

theorem gpT_len (xs : List Int) (N s : Nat) : (gpT xs N s).length = N := by simp [gpT]
theorem gpT_at (xs : List Int) (N s t : Nat) (ht : t < N) : (gpT xs N s).getD t 0 = if t < s then gp xs t else 0 := by simp [gpT, List.getD, ht]

theorem gpT_one (xs : List Int) (N : Nat) : gpT xs N 1 = List.replicate N 0 := by
  refine List.ext_getElem (by simp [gpT]) fun t h1 h2 => ?_
  simp only [gpT, List.getElem_map, List.getElem_range, List.getElem_replicate]
  by_cases h : t < 1
  · have : t = 0 := by omega
    subst this; rw [if_pos h]; rfl
  · rw [if_neg h]

theorem gpT_next (xs : List Int) (N s : Nat) : (gpT xs N s).set s (gp xs s) = gpT xs N (s + 1) := by
  refine List.ext_getElem (by simp [gpT]) fun t h1 h2 => ?_
  rw [List.getElem_set]
  by_cases e : s = t
  · subst e
    rw [if_pos rfl]
    simp [gpT]
  · rw [if_neg e]
    simp only [gpT, List.getElem_map, List.getElem_range]
    by_cases h : t < s
    · rw [if_pos h, if_pos (by omega)]
    · rw [if_neg h, if_neg (by omega)]

end Go.Proofs.Ytbedjebnllimpaa
