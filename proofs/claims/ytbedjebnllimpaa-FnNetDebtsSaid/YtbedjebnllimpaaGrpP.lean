/- Most groups: all friends; one payment. -/
import Derived.Test.YtbedjebnllimpaaGrpL
import Derived.Test.YtbedjebnllimpaaBalV
namespace Go.Proofs.Ytbedjebnllimpaa
open Go.RowKit

set_option maxRecDepth 100000 in
theorem bit_full : ∀ n, n ≤ 6 → ∀ i, i < n → bitN (2 ^ n - 1) i = 1 := by decide
set_option maxRecDepth 100000 in
theorem bit_add : ∀ s, s < 64 → ∀ c, c < 6 → bitN s c = 0 → s + 2 ^ c < 64 ∧ ∀ j, j < 6 → bitN (s + 2 ^ c) j = if j = c then 1 else bitN s j := by decide

theorem bit_01 (s i : Nat) : bitN s i = 0 ∨ bitN s i = 1 := by unfold bitN; omega

theorem sumB_full (f : Nat → Int) {n : Nat} (hn : n ≤ 6) : ∀ m, m ≤ n → sumB f (2 ^ n - 1) m = sumB f 63 m
  | 0, _ => rfl
  | m + 1, h => by
    rw [sumB, sumB, sumB_full f hn m (by omega), bit_full n hn m (by omega), bit_full 6 (by decide) m (by omega)]

/-- How many of the first balances are not 0. -/
def kC (xs : List Int) : Nat → Int
  | 0 => 0
  | i + 1 => kC xs i + if xs.getD i 0 = 0 then 0 else 1

theorem full_facts (xs : List Int) (hn : xs.length ≤ 6) : zB xs (2 ^ xs.length - 1) = xs.length - kC xs xs.length ∧ kB xs (2 ^ xs.length - 1) = kC xs xs.length ∧ tB xs (2 ^ xs.length - 1) = tot xs := by
  have h1 : ∀ m, m ≤ xs.length → sumB (fun i => if xs.getD i 0 = 0 then 1 else 0) (2 ^ xs.length - 1) m = m - kC xs m ∧ sumB (fun i => if xs.getD i 0 = 0 then 0 else 1) (2 ^ xs.length - 1) m = kC xs m ∧ sumB (fun i => xs.getD i 0) (2 ^ xs.length - 1) m = tot (xs.take m) := by
    intro m
    induction m with
    | zero => intro _; simp [sumB, kC, tot]
    | succ m ih =>
      intro hm
      obtain ⟨e1, e2, e3⟩ := ih (by omega)
      have hb := bit_full xs.length hn m (by omega)
      rw [sumB, sumB, sumB, e1, e2, e3, if_pos hb, if_pos hb, if_pos hb, kC, tot_take_succ xs m (by omega)]
      have : xs.getD m 0 = xs[m]'(by omega) := by simp [List.getD, show m < xs.length by omega]
      rw [this]
      refine ⟨?_, rfl, rfl⟩
      split <;> simp <;> omega
  obtain ⟨e1, e2, e3⟩ := h1 xs.length (Nat.le_refl _)
  refine ⟨e1, e2, ?_⟩
  unfold tB
  rw [ttN_sumB, e3, List.take_length]

/-- What holds of the most groups. -/
theorem groups_facts {xs : List Int} (h : vBal xs = true) : (xs.length : Int) - kC xs xs.length ≤ gp xs (2 ^ xs.length - 1) ∧ (kC xs xs.length ≠ 0 → (xs.length : Int) - kC xs xs.length + 1 ≤ gp xs (2 ^ xs.length - 1)) ∧ 2 * gp xs (2 ^ xs.length - 1) ≤ 2 * (xs.length : Int) - kC xs xs.length ∧ 0 ≤ kC xs xs.length ∧ kC xs xs.length ≤ xs.length := by
  obtain ⟨_, hn, ht⟩ := (vBal_iff xs).1 h
  have hp := pow_le6 hn.2
  have hp1 : 2 ^ 1 ≤ 2 ^ xs.length := Nat.pow_le_pow_right (by decide) hn.1
  obtain ⟨e1, e2, e3⟩ := full_facts xs hn.2
  have u := gp_upper hn.2 _ (2 ^ xs.length - 1) (Nat.le_refl _) (by omega)
  have l := gp_lower hn.2 _ (2 ^ xs.length - 1) (Nat.le_refl _) (by omega)
  have hk : ∀ m, 0 ≤ kC xs m ∧ kC xs m ≤ m ∧ (kC xs m ≠ 0 → ∃ i, i < m ∧ xs.getD i 0 ≠ 0) := by
    intro m
    induction m with
    | zero => exact ⟨Int.le_refl _, Int.le_refl _, fun h => absurd rfl h⟩
    | succ m ih =>
      obtain ⟨i1, i2, i3⟩ := ih
      rw [kC]
      by_cases e : xs.getD m 0 = 0
      · rw [if_pos e]
        refine ⟨by omega, by omega, fun h => ?_⟩
        obtain ⟨i, hi, hx⟩ := i3 (by omega)
        exact ⟨i, by omega, hx⟩
      · rw [if_neg e]
        exact ⟨by omega, by omega, fun _ => ⟨m, by omega, e⟩⟩
  obtain ⟨k0, k1, k2⟩ := hk xs.length
  rw [e1, e2, e3, if_pos ht] at u
  rw [e1] at l
  refine ⟨l, fun hk0 => ?_, by omega, k0, k1⟩
  obtain ⟨i, hi, hx⟩ := k2 hk0
  have hb := bit_full xs.length hn.2 i hi
  have hle := bit_le hb
  have l2 := gp_lower hn.2 _ (2 ^ xs.length - 1 - 2 ^ i) (Nat.le_refl _) (by omega)
  rw [(sub_some hn.2 (by omega) hi hb hx).1, e1] at l2
  have hd := gp_drop (xs := xs) (s := 2 ^ xs.length - 1) (by omega) hi hb
  rw [e3, if_pos ht] at hd
  omega

section
variable {ys : List Int} (hn : ys.length ≤ 6)
include hn

/-- A friend with nothing is one group more, and no more. -/
theorem gp_zero_le {c : Nat} (hc : c < ys.length) (hy : ys.getD c 0 = 0) : ∀ f s, s ≤ f → s < 2 ^ ys.length → bitN s c = 1 → gp ys s ≤ gp ys (s - 2 ^ c) + 1
  | 0, s, h, _, hb => by
    have := bit_le hb
    omega
  | f + 1, s, h, hs, hb => by
    have hp := pow_le6 hn
    have hs64 : s < 64 := by omega
    have hlc := bit_le hb
    have hbs := bit_sub s hs64 c (by omega) hb
    obtain ⟨_, _, ht⟩ := sub_zero hn hs64 hc hb hy
    have h0 := (gp_bounds ys _ (s - 2 ^ c) (Nat.le_refl _)).1
    rw [gp_eq ys (show 1 ≤ s by omega)]
    change _ + (if tB ys s = 0 then 1 else 0) ≤ _
    have := mxN_le (s := s) (F := gp ys) (m := gp ys (s - 2 ^ c) + 1 - if tB ys s = 0 then 1 else 0) (by split <;> omega) ys.length (fun i hi hbi => by
      have hli := bit_le hbi
      by_cases e : i = c
      · subst e
        split <;> omega
      · have b1 : bitN (s - 2 ^ i) c = 1 := by
          rw [bit_sub s hs64 i (by omega) hbi c (by omega), if_neg (fun h => e h.symm)]; exact hb
        have b2 : bitN (s - 2 ^ c) i = 1 := by
          rw [hbs i (by omega), if_neg e]; exact hbi
        have l1 := bit_le b1
        have l2 := bit_le b2
        have ih := gp_zero_le hc hy f (s - 2 ^ i) (by omega) (by omega) b1
        have hd := gp_drop (xs := ys) (s := s - 2 ^ c) (by omega) hi b2
        rw [ht] at hd
        rw [show s - 2 ^ i - 2 ^ c = s - 2 ^ c - 2 ^ i by omega] at ih
        split at hd <;> rename_i h5
        · rw [if_pos h5]; omega
        · rw [if_neg h5]; omega)
    omega

variable {xs : List Int} (hl : xs.length = ys.length)
include hl

/-- The set in which c goes with d. -/
def withC (c d T : Nat) : Nat := if bitN T d = 1 then T + 2 ^ c else T

theorem tB_with {c d : Nat} (hc : c < ys.length) (hd : d < ys.length) (hs : ys.getD d 0 = xs.getD c 0 + xs.getD d 0) (ho : ∀ i, i < ys.length → i ≠ c → i ≠ d → ys.getD i 0 = xs.getD i 0) {T : Nat} (hT : T < 64) (hTc : bitN T c = 0) : tB xs (withC c d T) = tB ys T := by
  unfold tB
  rw [ttN_sumB, ttN_sumB, hl]
  have h1 : ∀ m, m ≤ ys.length → sumB (fun i => ys.getD i 0) T m = sumB (fun i => xs.getD i 0) T m + if d < m ∧ bitN T d = 1 then xs.getD c 0 else 0 := by
    intro m
    induction m with
    | zero => intro _; simp [sumB]
    | succ m ih =>
      intro hm
      rw [sumB, sumB, ih (by omega)]
      rcases bit_01 T m with hb | hb
      · rw [if_neg (show ¬ bitN T m = 1 by omega), if_neg (show ¬ bitN T m = 1 by omega)]
        by_cases e : d = m
        · subst e
          rw [if_neg (by omega), if_neg (by omega)] <;> omega
        · by_cases e2 : d < m ∧ bitN T d = 1
          · rw [if_pos e2, if_pos (by omega)] <;> omega
          · rw [if_neg e2, if_neg (by omega)] <;> omega
      · rw [if_pos hb, if_pos hb]
        by_cases e : d = m
        · subst e
          rw [if_neg (by omega), if_pos (by omega), hs]; omega
        · have hmc : m ≠ c := fun h => by rw [h] at hb; omega
          rw [ho m (by omega) hmc (fun h => e h.symm)]
          by_cases e2 : d < m ∧ bitN T d = 1
          · rw [if_pos e2, if_pos (by omega)]; omega
          · rw [if_neg e2, if_neg (by omega)]; omega
  rw [h1 _ (Nat.le_refl _)]
  unfold withC
  by_cases e : bitN T d = 1
  · obtain ⟨a1, a2⟩ := bit_add T hT c (by omega) hTc
    have hb : bitN (T + 2 ^ c) c = 1 := by rw [a2 c (by omega), if_pos rfl]
    have h2 := sumB_sub (fun i => xs.getD i 0) a1 (by omega) hb ys.length hn
    rw [Nat.add_sub_cancel, if_pos hc] at h2
    rw [if_pos e, if_pos ⟨hd, e⟩]
    omega
  · rw [if_neg e, if_neg (by omega)]; omega

theorem gp_with {c d : Nat} (hc : c < ys.length) (hd : d < ys.length) (hcd : c ≠ d) (hs : ys.getD d 0 = xs.getD c 0 + xs.getD d 0) (ho : ∀ i, i < ys.length → i ≠ c → i ≠ d → ys.getD i 0 = xs.getD i 0) : ∀ f T, T ≤ f → T < 2 ^ ys.length → bitN T c = 0 → gp ys T ≤ gp xs (withC c d T)
  | f, 0, _, _, _ => by
    rw [gp_zero]
    exact (gp_bounds xs _ _ (Nat.le_refl _)).1
  | 0, T + 1, h, _, _ => absurd h (by omega)
  | f + 1, T + 1, h, hT, hTc => by
    have hp := pow_le6 hn
    have hT64 : T + 1 < 64 := by omega
    have ht := tB_with hn hl hc hd hs ho hT64 hTc
    obtain ⟨a1, a2⟩ := bit_add (T + 1) hT64 c (by omega) hTc
    have hpc : 0 < 2 ^ c := Nat.pow_pos (by decide)
    have each : ∀ i, i < ys.length → bitN (T + 1) i = 1 → gp ys (T + 1 - 2 ^ i) + (if tB ys (T + 1) = 0 then 1 else 0) ≤ gp xs (withC c d (T + 1)) := by
      intro i hi hbi
      have hli := bit_le hbi
      have hic : i ≠ c := fun e => by rw [e] at hbi; omega
      have bs := bit_sub (T + 1) hT64 i (by omega) hbi
      have ih := gp_with hc hd hcd hs ho f (T + 1 - 2 ^ i) (by omega) (by omega) (by rw [bs c (by omega), if_neg (fun e => hic e.symm)]; exact hTc)
      rw [← ht]
      by_cases hid : i = d
      · subst hid
        have bd : bitN (T + 1 - 2 ^ i) i = 0 := by rw [bs i (by omega), if_pos rfl]
        have e1 : withC c i (T + 1 - 2 ^ i) = T + 1 - 2 ^ i := by unfold withC; rw [bd]; rfl
        have e2 : withC c i (T + 1) = T + 1 + 2 ^ c := by unfold withC; rw [if_pos hbi]
        rw [e1] at ih
        rw [e2]
        have d1 := gp_drop (xs := xs) (s := T + 1 + 2 ^ c) (i := c) (by omega) (by omega) (by rw [a2 c (by omega), if_pos rfl])
        rw [Nat.add_sub_cancel] at d1
        have d2 := gp_drop (xs := xs) (s := T + 1) (by omega) (show i < xs.length by omega) hbi
        split at d2 <;> omega
      · have e1 : withC c d (T + 1 - 2 ^ i) = withC c d (T + 1) - 2 ^ i := by
          have bd : bitN (T + 1 - 2 ^ i) d = bitN (T + 1) d := by rw [bs d (by omega), if_neg (fun e => hid e.symm)]
          unfold withC
          rw [bd]
          split <;> omega
        have b1 : bitN (withC c d (T + 1)) i = 1 := by
          unfold withC
          split
          · rw [a2 i (by omega), if_neg hic]; exact hbi
          · exact hbi
        rw [e1] at ih
        have l1 := bit_le b1
        have d1 := gp_drop (xs := xs) (s := withC c d (T + 1)) (by omega) (show i < xs.length by omega) b1
        omega
    obtain ⟨i0, hi0, hb0⟩ := some_bit _ hn _ hT (by omega)
    have z0 := (gp_bounds ys _ (T + 1 - 2 ^ i0) (Nat.le_refl _)).1
    have e0 := each i0 hi0 hb0
    rw [gp_eq ys (by omega)]
    change _ + (if tB ys (T + 1) = 0 then 1 else 0) ≤ _
    have := mxN_le (s := T + 1) (F := gp ys) (m := gp xs (withC c d (T + 1)) - if tB ys (T + 1) = 0 then 1 else 0) (by omega) ys.length (fun i hi hb => by have := each i hi hb; omega)
    omega

/-- One payment by which a friend has nothing left takes at most one group away. -/
theorem gp_pay {c d : Nat} (hc : c < ys.length) (hd : d < ys.length) (hcd : c ≠ d) (hy : ys.getD c 0 = 0) (hs : ys.getD d 0 = xs.getD c 0 + xs.getD d 0) (ho : ∀ i, i < ys.length → i ≠ c → i ≠ d → ys.getD i 0 = xs.getD i 0) : gp ys (2 ^ ys.length - 1) ≤ gp xs (2 ^ xs.length - 1) + 1 := by
  have hp := pow_le6 hn
  have hb := bit_full ys.length hn
  have hlc := bit_le (hb c hc)
  have h1 := gp_zero_le hn hc hy _ (2 ^ ys.length - 1) (Nat.le_refl _) (by omega) (hb c hc)
  have bs := bit_sub (2 ^ ys.length - 1) (by omega) c (by omega) (hb c hc)
  have h2 := gp_with hn hl hc hd hcd hs ho _ (2 ^ ys.length - 1 - 2 ^ c) (Nat.le_refl _) (by omega) (by rw [bs c (by omega), if_pos rfl])
  have e : withC c d (2 ^ ys.length - 1 - 2 ^ c) = 2 ^ ys.length - 1 := by
    have bd : bitN (2 ^ ys.length - 1 - 2 ^ c) d = 1 := by rw [bs d (by omega), if_neg (fun e => hcd e.symm)]; exact hb d hd
    unfold withC
    rw [if_pos bd]
    omega
  rw [e] at h2
  rw [hl]
  omega

end

end Go.Proofs.Ytbedjebnllimpaa
