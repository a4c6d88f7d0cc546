/- Counting through all choices of rounded numbers, in order: plain mathematics. -/
import Derived.Test.YtlibfmbbchhjeaaCand
namespace Go.Proofs.Ytlibfmbbchhjeaa.Flat

variable (f : Nat → Int) (inc : Nat → Bool)

def upd (c : Nat → Int) (p : Nat) (x : Int) : Nat → Int := fun q => if q = p then x else c q

/-- The next choice: from position q - 1 down. -/
def lin : Nat → (Nat → Int) → Bool × (Nat → Int)
  | 0, c => (false, c)
  | q + 1, c => if c q = f q ∧ inc q = true then (true, upd c q (c q + 1)) else lin q (upd c q (f q))

/-- All choices for the r positions from p on. -/
def C : Nat → Nat → (Nat → Int) → List (Nat → Int)
  | 0, _, c => [c]
  | r + 1, p, c => C r (p + 1) (upd c p (f p)) ++ if inc p = true then C r (p + 1) (upd c p (f p + 1)) else []

/-- Those behind c. -/
def after : Nat → Nat → (Nat → Int) → List (Nat → Int)
  | 0, _, _ => []
  | r + 1, p, c => after r (p + 1) c ++ if c p = f p ∧ inc p = true then C f inc r (p + 1) (upd c p (f p + 1)) else []

def dn (r p : Nat) (c : Nat → Int) : Nat → Int := fun q => if p ≤ q ∧ q < p + r then f q else c q

def suf : Nat → Nat → (Nat → Int) → Bool × (Nat → Int)
  | 0, _, c => (false, c)
  | r + 1, p, c => if (suf r (p + 1) c).1 = true then suf r (p + 1) c else if c p = f p ∧ inc p = true then (true, upd (suf r (p + 1) c).2 p (c p + 1)) else (false, upd (suf r (p + 1) c).2 p (f p))

theorem suf_out : ∀ r p c q, (q < p ∨ p + r ≤ q) → (suf f inc r p c).2 q = c q
  | 0, _, _, _, _ => rfl
  | r + 1, p, c, q, h => by
    have ih := suf_out r (p + 1) c q (by omega)
    unfold suf
    split
    · exact ih
    · split
      · show upd _ _ _ q = _
        unfold upd; rw [if_neg (by omega), ih]
      · show upd _ _ _ q = _
        unfold upd; rw [if_neg (by omega), ih]

theorem lin_suf : ∀ r p c, lin f inc (p + r) c = if (suf f inc r p c).1 = true then suf f inc r p c else lin f inc p (suf f inc r p c).2
  | 0, p, c => by simp [suf]
  | r + 1, p, c => by
    have ih := lin_suf r (p + 1) c
    have ho := suf_out f inc r (p + 1) c p (by omega)
    rw [show p + (r + 1) = p + 1 + r by omega, ih]
    by_cases hs : (suf f inc r (p + 1) c).1 = true
    · rw [if_pos hs]
      rw [show suf f inc (r + 1) p c = suf f inc r (p + 1) c by rw [suf, if_pos hs], if_pos hs]
    · rw [if_neg hs]
      rw [lin, ho]
      by_cases hc : c p = f p ∧ inc p = true
      · rw [if_pos hc, show suf f inc (r + 1) p c = (true, upd (suf f inc r (p + 1) c).2 p (c p + 1)) by rw [suf, if_neg hs, if_pos hc], if_pos rfl]
      · rw [if_neg hc, show suf f inc (r + 1) p c = (false, upd (suf f inc r (p + 1) c).2 p (f p)) by rw [suf, if_neg hs, if_neg hc], if_neg (show ¬ (false = true) by decide)]

theorem lin_eq (n : Nat) (c : Nat → Int) : lin f inc n c = suf f inc n 0 c := by
  have h := lin_suf f inc n 0 c
  rw [Nat.zero_add] at h
  rw [h]
  by_cases hs : (suf f inc n 0 c).1 = true
  · rw [if_pos hs]
  · rw [if_neg hs, lin]
    have : (suf f inc n 0 c).1 = false := by simpa using hs
    rw [← this]

theorem C_congr : ∀ r p c c', (∀ q, q < p ∨ p + r ≤ q → c q = c' q) → C f inc r p c = C f inc r p c'
  | 0, p, c, c', h => by
    have : c = c' := funext fun q => h q (by omega)
    rw [this]
  | r + 1, p, c, c', h => by
    have hu : ∀ x q, q < p + 1 ∨ p + 1 + r ≤ q → upd c p x q = upd c' p x q := by
      intro x q hq
      unfold upd
      by_cases e : q = p
      · rw [if_pos e, if_pos e]
      · rw [if_neg e, if_neg e]; exact h q (by omega)
    unfold C
    rw [C_congr r (p + 1) _ _ (hu (f p)), C_congr r (p + 1) _ _ (hu (f p + 1))]

theorem dn_step (r p : Nat) (c : Nat → Int) : dn f r (p + 1) (upd c p (f p)) = dn f (r + 1) p c := by
  funext q
  unfold dn upd
  by_cases h : q = p
  · subst h; rw [if_neg (by omega), if_pos rfl, if_pos (by omega)]
  · by_cases h2 : p + 1 ≤ q ∧ q < p + 1 + r
    · rw [if_pos h2, if_pos (by omega)]
    · rw [if_neg h2, if_neg h, if_neg (by omega)]
theorem upd_dn (r p : Nat) (c : Nat → Int) (x : Int) : upd (dn f r (p + 1) c) p x = dn f r (p + 1) (upd c p x) := by
  funext q
  unfold dn upd
  by_cases h : q = p
  · subst h; rw [if_pos rfl, if_neg (by omega), if_pos rfl]
  · rw [if_neg h, if_neg h]

theorem suf_no : ∀ r p c, (suf f inc r p c).1 = false → (suf f inc r p c).2 = dn f r p c ∧ after f inc r p c = []
  | 0, p, c, _ => by
    refine ⟨?_, rfl⟩
    funext q
    unfold dn suf
    rw [if_neg (by omega)]
  | r + 1, p, c, h => by
    unfold suf at h ⊢
    by_cases hs : (suf f inc r (p + 1) c).1 = true
    · rw [if_pos hs] at h; rw [hs] at h; exact absurd h (by decide)
    · rw [if_neg hs] at h ⊢
      by_cases hc : c p = f p ∧ inc p = true
      · rw [if_pos hc] at h; exact absurd h (by simp)
      · rw [if_neg hc]
        obtain ⟨e1, e2⟩ := suf_no r (p + 1) c (by simpa using hs)
        refine ⟨?_, by unfold after; rw [e2, if_neg hc]; rfl⟩
        show upd _ _ _ = _
        rw [e1, upd_dn, dn_step]

theorem C_dn : ∀ r p c, C f inc r p c = dn f r p c :: after f inc r p (dn f r p c)
  | 0, p, c => by
    have : dn f 0 p c = c := by funext q; unfold dn; rw [if_neg (by omega)]
    rw [this]; rfl
  | r + 1, p, c => by
    have hd : dn f (r + 1) p c p = f p := by unfold dn; rw [if_pos (by omega)]
    have hcong : C f inc r (p + 1) (upd (dn f (r + 1) p c) p (f p + 1)) = C f inc r (p + 1) (upd c p (f p + 1)) := by
      refine C_congr f inc r (p + 1) _ _ fun q hq => ?_
      unfold upd dn
      by_cases e : q = p
      · rw [if_pos e, if_pos e]
      · rw [if_neg e, if_neg e, if_neg (by omega)]
    unfold C after
    rw [C_dn r (p + 1) (upd c p (f p)), dn_step, hd, hcong]
    by_cases hi : inc p = true
    · rw [if_pos hi, if_pos ⟨rfl, hi⟩]; rfl
    · rw [if_neg hi, if_neg (fun e => hi e.2)]; rfl

theorem suf_yes : ∀ r p c, (suf f inc r p c).1 = true → after f inc r p c = (suf f inc r p c).2 :: after f inc r p (suf f inc r p c).2
  | 0, p, c, h => absurd h (by simp [suf])
  | r + 1, p, c, h => by
    by_cases hs : (suf f inc r (p + 1) c).1 = true
    · have e : suf f inc (r + 1) p c = suf f inc r (p + 1) c := by rw [suf, if_pos hs]
      have ih := suf_yes r (p + 1) c hs
      have ho := suf_out f inc r (p + 1) c p (by omega)
      have hcong : C f inc r (p + 1) (upd (suf f inc r (p + 1) c).2 p (f p + 1)) = C f inc r (p + 1) (upd c p (f p + 1)) := by
        refine C_congr f inc r (p + 1) _ _ fun q hq => ?_
        unfold upd
        by_cases e : q = p
        · rw [if_pos e, if_pos e]
        · rw [if_neg e, if_neg e]; exact suf_out f inc r (p + 1) c q hq
      rw [e]
      conv => lhs; unfold after
      conv => rhs; unfold after
      rw [ho, hcong, ih]
      rfl
    · obtain ⟨e1, e2⟩ := suf_no f inc r (p + 1) c (by simpa using hs)
      by_cases hc : c p = f p ∧ inc p = true
      · have e : suf f inc (r + 1) p c = (true, upd (suf f inc r (p + 1) c).2 p (c p + 1)) := by rw [suf, if_neg hs, if_pos hc]
        rw [e]
        show after f inc (r + 1) p c = upd (suf f inc r (p + 1) c).2 p (c p + 1) :: after f inc (r + 1) p (upd (suf f inc r (p + 1) c).2 p (c p + 1))
        rw [e1, upd_dn, hc.1]
        have hp : dn f r (p + 1) (upd c p (f p + 1)) p = f p + 1 := by unfold dn upd; rw [if_neg (by omega), if_pos rfl]
        conv => lhs; unfold after
        rw [e2, if_pos hc, C_dn]
        conv => rhs; unfold after
        rw [hp, if_neg (by omega), List.append_nil]
        rfl
      · have e : suf f inc (r + 1) p c = (false, upd (suf f inc r (p + 1) c).2 p (f p)) := by rw [suf, if_neg hs, if_neg hc]
        rw [e] at h
        exact absurd h (by simp)

/-- The search. -/
def seekF (fit : (Nat → Int) → Bool) (n : Nat) : Nat → (Nat → Int) → Option (Nat → Int)
  | 0, _ => none
  | k + 1, c => if fit c = true then some c else if (lin f inc n c).1 = true then seekF fit n k (lin f inc n c).2 else none

theorem seekF_eq (fit : (Nat → Int) → Bool) (n : Nat) : ∀ k c, (after f inc n 0 c).length < k → seekF f inc fit n k c = (c :: after f inc n 0 c).find? fit
  | 0, _, h => absurd h (Nat.not_lt_zero _)
  | k + 1, c, h => by
    unfold seekF
    rw [lin_eq, List.find?_cons]
    by_cases hf : fit c = true
    · rw [if_pos hf, hf]
    · rw [if_neg hf]
      have hf' : fit c = false := by simpa using hf
      rw [hf']
      by_cases hs : (suf f inc n 0 c).1 = true
      · have e := suf_yes f inc n 0 c hs
        rw [if_pos hs, seekF_eq fit n k _ (by rw [e, List.length_cons] at h; omega)]
        rw [e]
      · rw [if_neg hs, (suf_no f inc n 0 c (by simpa using hs)).2]
        rfl

end Go.Proofs.Ytlibfmbbchhjeaa.Flat
