/- Most groups: bounds by the friends with nothing and those with something. -/
import Derived.Test.YtbedjebnllimpaaGrpM
namespace Go.Proofs.Ytbedjebnllimpaa
open Go.RowKit

set_option maxRecDepth 100000 in
theorem bit_sub : ∀ s, s < 64 → ∀ i, i < 6 → bitN s i = 1 → ∀ j, j < 6 → bitN (s - 2 ^ i) j = if j = i then 0 else bitN s j := by decide

/-- The values of those of the first friends that are in the set, added. -/
def sumB (f : Nat → Int) (s : Nat) : Nat → Int
  | 0 => 0
  | i + 1 => sumB f s i + if bitN s i = 1 then f i else 0

theorem ttN_sumB (xs : List Int) (s : Nat) : ∀ n, ttN xs s n = sumB (fun i => xs.getD i 0) s n
  | 0 => rfl
  | n + 1 => by
    rw [ttN, sumB, ttN_sumB xs s n]
    split <;> omega

theorem sumB_sub (f : Nat → Int) {s i : Nat} (hs : s < 64) (hi : i < 6) (hb : bitN s i = 1) : ∀ n, n ≤ 6 → sumB f (s - 2 ^ i) n = sumB f s n - if i < n then f i else 0
  | 0, _ => by simp [sumB]
  | n + 1, hn => by
    rw [sumB, sumB, sumB_sub f hs hi hb n (by omega), bit_sub s hs i hi hb n (by omega)]
    by_cases e : n = i
    · subst e
      rw [if_pos rfl, if_neg (Nat.lt_irrefl _), if_neg (by omega), if_pos hb, if_pos (Nat.lt_succ_self _)]
      omega
    · rw [if_neg e]
      generalize (if bitN s n = 1 then f n else 0) = y
      by_cases h1 : i < n
      · rw [if_pos h1, if_pos (by omega)]; omega
      · rw [if_neg h1, if_neg (by omega)]; omega

theorem sumB_nonneg {f : Nat → Int} (h : ∀ i, 0 ≤ f i) (s : Nat) : ∀ n, 0 ≤ sumB f s n
  | 0 => Int.le_refl _
  | n + 1 => by
    have h1 := sumB_nonneg h s n
    have h2 := h n
    rw [sumB]
    split <;> omega

theorem sumB_ge {f : Nat → Int} (h : ∀ i, 0 ≤ f i) {s i : Nat} (hb : bitN s i = 1) : ∀ n, i < n → f i ≤ sumB f s n
  | 0, hi => absurd hi (Nat.not_lt_zero _)
  | n + 1, hi => by
    rw [sumB]
    by_cases e : i = n
    · subst e
      have := sumB_nonneg h s i
      rw [if_pos hb]; omega
    · have h1 := sumB_ge h hb n (by omega)
      have h2 := h n
      split <;> omega

set_option maxRecDepth 100000 in
theorem some_bit : ∀ n, n ≤ 6 → ∀ s, s < 2 ^ n → 1 ≤ s → ∃ i, i < n ∧ bitN s i = 1 := by
  intro n hn s hs h1
  apply Classical.byContradiction
  intro hno
  have hz : ∀ i, i < n → bitN s i = 0 := fun i hi => by
    have h2 : bitN s i ≠ 1 := fun h => hno ⟨i, hi, h⟩
    unfold bitN at *; omega
  have key : ∀ m, m ≤ n → s % 2 ^ m = 0 := by
    intro m
    induction m with
    | zero => intro _; exact Nat.mod_one s
    | succ m ih =>
      intro hm
      have h3 := ih (by omega)
      have h4 := hz m (by omega)
      unfold bitN at h4
      rw [Nat.pow_succ]
      have h5 : s = 2 ^ m * (s / 2 ^ m) := by have := Nat.div_add_mod s (2 ^ m); omega
      have h6 : s / 2 ^ m = 2 * (s / 2 ^ m / 2) := by omega
      rw [h5, h6, ← Nat.mul_assoc]
      exact Nat.mul_mod_right _ _
  have := key n (Nat.le_refl _)
  rw [Nat.mod_eq_of_lt hs] at this
  omega

theorem mxN_ge {s : Nat} {F : Nat → Int} {i : Nat} (hb : bitN s i = 1) : ∀ n, i < n → F (s - 2 ^ i) ≤ mxN s F n
  | 0, hi => absurd hi (Nat.not_lt_zero _)
  | n + 1, hi => by
    rw [mxN]
    by_cases e : i = n
    · subst e
      rw [if_pos hb]; omega
    · have h1 := mxN_ge (F := F) hb n (by omega)
      split <;> omega

theorem mxN_le {s : Nat} {F : Nat → Int} {m : Int} (h0 : 0 ≤ m) : ∀ n, (∀ i, i < n → bitN s i = 1 → F (s - 2 ^ i) ≤ m) → mxN s F n ≤ m :=
  fun n h => (mxN_bounds h0 n h).2

/-- The friends of the set with nothing, and those with something. -/
def zB (xs : List Int) (s : Nat) : Int := sumB (fun i => if xs.getD i 0 = 0 then 1 else 0) s xs.length
def kB (xs : List Int) (s : Nat) : Int := sumB (fun i => if xs.getD i 0 = 0 then 0 else 1) s xs.length
def tB (xs : List Int) (s : Nat) : Int := ttN xs s xs.length

section
variable {xs : List Int} (hn : xs.length ≤ 6)
include hn

theorem sub_zero {s i : Nat} (hs : s < 64) (hi : i < xs.length) (hb : bitN s i = 1) (hx : xs.getD i 0 = 0) : zB xs (s - 2 ^ i) = zB xs s - 1 ∧ kB xs (s - 2 ^ i) = kB xs s ∧ tB xs (s - 2 ^ i) = tB xs s := by
  have hi6 : i < 6 := by omega
  unfold zB kB tB
  rw [ttN_sumB, ttN_sumB, sumB_sub _ hs hi6 hb _ hn, sumB_sub _ hs hi6 hb _ hn, sumB_sub _ hs hi6 hb _ hn, if_pos hi, if_pos hi, if_pos hi, if_pos hx, if_pos hx, hx]
  omega

theorem sub_some {s i : Nat} (hs : s < 64) (hi : i < xs.length) (hb : bitN s i = 1) (hx : xs.getD i 0 ≠ 0) : zB xs (s - 2 ^ i) = zB xs s ∧ kB xs (s - 2 ^ i) = kB xs s - 1 ∧ tB xs (s - 2 ^ i) = tB xs s - xs.getD i 0 := by
  have hi6 : i < 6 := by omega
  unfold zB kB tB
  rw [ttN_sumB, ttN_sumB, sumB_sub _ hs hi6 hb _ hn, sumB_sub _ hs hi6 hb _ hn, sumB_sub _ hs hi6 hb _ hn, if_pos hi, if_pos hi, if_pos hi, if_neg hx, if_neg hx]
  omega

theorem gp_upper : ∀ f s, s ≤ f → s < 2 ^ xs.length → 2 * gp xs s ≤ 2 * zB xs s + kB xs s - if tB xs s = 0 then 0 else 1
  | f, 0, _, _ => by
    have hz : zB xs 0 = 0 ∧ kB xs 0 = 0 ∧ tB xs 0 = 0 := by
      have h : ∀ (g : Nat → Int) n, sumB g 0 n = 0 := by
        intro g n
        induction n with
        | zero => rfl
        | succ n ih =>
          have : bitN 0 n = 0 := by unfold bitN; simp
          rw [sumB, ih, if_neg (by rw [this]; decide)]; rfl
      unfold zB kB tB
      rw [ttN_sumB]
      exact ⟨h _ _, h _ _, h _ _⟩
    rw [gp_zero, hz.1, hz.2.1, hz.2.2]
    decide
  | 0, s + 1, h, _ => absurd h (by omega)
  | f + 1, s + 1, h, hs => by
    have hp := pow_le6 hn
    have hs64 : s + 1 < 64 := by omega
    obtain ⟨i0, hi0, hb0⟩ := some_bit _ hn _ hs (by omega)
    have each : ∀ i, i < xs.length → bitN (s + 1) i = 1 → 2 * gp xs (s + 1 - 2 ^ i) ≤ 2 * zB xs (s + 1) + kB xs (s + 1) - if tB xs (s + 1) = 0 then 2 else 1 := by
      intro i hi hb
      have hle := bit_le hb
      have ih := gp_upper f (s + 1 - 2 ^ i) (by omega) (by omega)
      by_cases hx : xs.getD i 0 = 0
      · obtain ⟨e1, e2, e3⟩ := sub_zero hn hs64 hi hb hx
        rw [e1, e2, e3] at ih
        split <;> rename_i ht
        · rw [if_pos ht] at ih; omega
        · rw [if_neg ht] at ih; omega
      · obtain ⟨e1, e2, e3⟩ := sub_some hn hs64 hi hb hx
        rw [e1, e2, e3] at ih
        split <;> rename_i ht
        · rw [if_neg (by omega)] at ih; omega
        · split at ih <;> omega
    have h00 := (gp_bounds xs _ (s + 1 - 2 ^ i0) (Nat.le_refl _)).1
    have h01 := each i0 hi0 hb0
    rw [gp_eq xs (by omega)]
    change 2 * (_ + if tB xs (s + 1) = 0 then 1 else 0) ≤ _
    by_cases ht : tB xs (s + 1) = 0
    · simp only [if_pos ht] at *
      have := mxN_le (s := s + 1) (F := gp xs) (m := (2 * zB xs (s + 1) + kB xs (s + 1) - 2) / 2) (by omega) xs.length (fun i hi hb => by have := each i hi hb; omega)
      omega
    · simp only [if_neg ht] at *
      have := mxN_le (s := s + 1) (F := gp xs) (m := (2 * zB xs (s + 1) + kB xs (s + 1) - 1) / 2) (by omega) xs.length (fun i hi hb => by have := each i hi hb; omega)
      omega

omit hn in
theorem gp_drop {s i : Nat} (hs : 1 ≤ s) (hi : i < xs.length) (hb : bitN s i = 1) : gp xs (s - 2 ^ i) + (if tB xs s = 0 then 1 else 0) ≤ gp xs s := by
  rw [gp_eq xs hs]
  have := mxN_ge (F := gp xs) hb xs.length hi
  unfold tB
  omega

theorem gp_lower : ∀ f s, s ≤ f → s < 2 ^ xs.length → zB xs s ≤ gp xs s
  | f, 0, _, _ => by
    have hz : zB xs 0 = 0 := by
      have h : ∀ (g : Nat → Int) n, sumB g 0 n = 0 := by
        intro g n
        induction n with
        | zero => rfl
        | succ n ih =>
          have : bitN 0 n = 0 := by unfold bitN; simp
          rw [sumB, ih, if_neg (by rw [this]; decide)]; rfl
      exact h _ _
    rw [hz, gp_zero]; exact Int.le_refl _
  | 0, s + 1, h, _ => absurd h (by omega)
  | f + 1, s + 1, h, hs => by
    have hp := pow_le6 hn
    have hs64 : s + 1 < 64 := by omega
    by_cases hex : ∃ i, i < xs.length ∧ bitN (s + 1) i = 1 ∧ xs.getD i 0 ≠ 0
    · obtain ⟨i, hi, hb, hx⟩ := hex
      have hle := bit_le hb
      have ih := gp_lower f (s + 1 - 2 ^ i) (by omega) (by omega)
      have hd := gp_drop (by omega) hi hb
      rw [(sub_some hn hs64 hi hb hx).1] at ih
      split at hd <;> omega
    · obtain ⟨i, hi, hb⟩ := some_bit _ hn _ hs (by omega)
      have hx : ∀ j, j < xs.length → bitN (s + 1) j = 1 → xs.getD j 0 = 0 := fun j hj hbj => by
        apply Classical.byContradiction
        intro h; exact hex ⟨j, hj, hbj, h⟩
      have ht : tB xs (s + 1) = 0 := by
        unfold tB
        have : ∀ m, m ≤ xs.length → ttN xs (s + 1) m = 0 := by
          intro m
          induction m with
          | zero => intro _; rfl
          | succ m ih =>
            intro hm
            rw [ttN, ih (by omega)]
            split
            · rename_i hb; rw [hx m (by omega) hb]; rfl
            · rfl
        exact this _ (Nat.le_refl _)
      have hle := bit_le hb
      have ih := gp_lower f (s + 1 - 2 ^ i) (by omega) (by omega)
      have hd := gp_drop (by omega) hi hb
      rw [(sub_zero hn hs64 hi hb (hx i hi hb)).1] at ih
      rw [if_pos ht] at hd
      omega

end

end Go.Proofs.Ytbedjebnllimpaa
