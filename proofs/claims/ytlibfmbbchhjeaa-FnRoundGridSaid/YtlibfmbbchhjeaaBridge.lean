/- The program's search, as a search through all choices. -/
import Derived.Test.YtlibfmbbchhjeaaFlat
namespace Go.Proofs.Ytlibfmbbchhjeaa
open Go.RowKit Flat

/-- The numbers of a table of m columns in one row. -/
def flat (m : Nat) (o : List (List Int)) : Nat → Int := fun p => cellOf o (p / m) (p % m)
def unflat (n m : Nat) (c : Nat → Int) : List (List Int) := (List.range n).map fun i => (List.range m).map fun k => c (i * m + k)

theorem flat_at (m : Nat) (o : List (List Int)) (i k : Nat) (hk : k < m) : flat m o (i * m + k) = cellOf o i k := by
  unfold flat
  rw [Nat.mul_comm, Nat.mul_add_div (by omega), Nat.div_eq_of_lt hk, Nat.add_zero, Nat.mul_add_mod, Nat.mod_eq_of_lt hk]

theorem flat_set (m : Nat) (o : List (List Int)) (i k : Nat) (x : Int) (hk : k < m) (hi : i < o.length) (hkl : k < (rowOf o i).length) : flat m (setC o i k x) = upd (flat m o) (i * m + k) x := by
  funext p
  unfold upd
  by_cases h : p = i * m + k
  · rw [if_pos h, h, flat_at m _ i k hk, cellOf_setC o i k x i k hi hkl, if_pos ⟨rfl, rfl⟩]
  · rw [if_neg h]
    unfold flat
    rw [cellOf_setC o i k x _ _ hi hkl, if_neg]
    rintro ⟨h1, h2⟩
    have := Nat.div_add_mod p m
    rw [h1, h2, Nat.mul_comm] at this
    exact h this.symm

section
variable {g : List (List Int)} {u : Int}

def fF (g : List (List Int)) (u : Int) : Nat → Int := fun p => flat (rowOf g 0).length g p / u
def incF (g : List (List Int)) (u : Int) : Nat → Bool := fun p => decide (flat (rowOf g 0).length g p % u ≠ 0)

theorem nextIn_lin (h1 : vGrid g u = true) {i : Nat} (hi : i < g.length) : ∀ k, k ≤ (rowOf g i).length → ∀ o, sameForm g o →
    lin (fF g u) (incF g u) (i * (rowOf g 0).length + k) (flat (rowOf g 0).length o) = if (nextIn g u i k o).1 = true then (true, flat (rowOf g 0).length (nextIn g u i k o).2) else lin (fF g u) (incF g u) (i * (rowOf g 0).length) (flat (rowOf g 0).length (nextIn g u i k o).2)
  | 0, _, o, _ => by rw [nextIn, if_neg (show ¬ (false = true) by decide), Nat.add_zero]
  | k + 1, hk, o, hs => by
    have hrow := ((small_vGrid h1).2.2 i hi).1
    have hkm : k < (rowOf g 0).length := by omega
    have hio : i < o.length := by rw [hs.1]; exact hi
    have hko : k < (rowOf o i).length := by rw [hs.2]; omega
    have e1 := flat_at (rowOf g 0).length o i k hkm
    have e2 : fF g u (i * (rowOf g 0).length + k) = cellOf g i k / u := by unfold fF; rw [flat_at _ g i k hkm]
    have e3 : incF g u (i * (rowOf g 0).length + k) = true ↔ cellOf g i k % u ≠ 0 := by unfold incF; rw [flat_at _ g i k hkm]; simp
    rw [show i * (rowOf g 0).length + (k + 1) = (i * (rowOf g 0).length + k) + 1 by omega, lin, e1, e2]
    by_cases hc : cellOf o i k = cellOf g i k / u ∧ cellOf g i k % u ≠ 0
    · rw [if_pos ⟨hc.1, e3.2 hc.2⟩, nextIn_yes hc, if_pos rfl, flat_set _ o i k _ hkm hio hko]
    · rw [if_neg (fun e => hc ⟨e.1, e3.1 e.2⟩), nextIn_no hc, ← flat_set _ o i k _ hkm hio hko]
      exact nextIn_lin h1 hi k (by omega) _ (hs.set hi k _)

theorem sameForm_in (h1 : vGrid g u = true) {i : Nat} (hi : i < g.length) : ∀ k, ∀ o, sameForm g o → sameForm g (nextIn g u i k o).2
  | 0, _, h => h
  | k + 1, o, h => by
    by_cases hc : cellOf o i k = cellOf g i k / u ∧ cellOf g i k % u ≠ 0
    · rw [nextIn_yes hc]; exact h.set hi k _
    · rw [nextIn_no hc]; exact sameForm_in h1 hi k _ (h.set hi k _)

theorem nextAll_lin (h1 : vGrid g u = true) : ∀ i, i ≤ g.length → ∀ o, sameForm g o →
    lin (fF g u) (incF g u) (i * (rowOf g 0).length) (flat (rowOf g 0).length o) = ((nextAll g u i o).1, flat (rowOf g 0).length (nextAll g u i o).2)
  | 0, _, o, _ => by rw [Nat.zero_mul]; rfl
  | i + 1, hi, o, hs => by
    have hrow := ((small_vGrid h1).2.2 i (by omega)).1
    have h := nextIn_lin h1 (i := i) (by omega) (rowOf g i).length (Nat.le_refl _) o hs
    have hsf := sameForm_in h1 (i := i) (by omega) (rowOf g i).length o hs
    rw [show (i + 1) * (rowOf g 0).length = i * (rowOf g 0).length + (rowOf g i).length by rw [hrow, Nat.succ_mul], h]
    unfold nextAll
    by_cases hb : (nextIn g u i (rowOf g i).length o).1 = true
    · rw [if_pos hb, if_pos hb]
    · rw [if_neg hb, if_neg hb]
      exact nextAll_lin h1 i (by omega) _ hsf

theorem sameForm_all (h1 : vGrid g u = true) : ∀ i, i ≤ g.length → ∀ o, sameForm g o → sameForm g (nextAll g u i o).2
  | 0, _, _, h => h
  | i + 1, hi, o, h => by
    have hin := sameForm_in h1 (i := i) (by omega) (rowOf g i).length o h
    unfold nextAll
    by_cases hb : (nextIn g u i (rowOf g i).length o).1 = true
    · rw [if_pos hb]; exact hin
    · rw [if_neg hb]; exact sameForm_all h1 i (by omega) _ hin

theorem unflat_flat (h1 : vGrid g u = true) {o : List (List Int)} (hs : sameForm g o) : unflat g.length (rowOf g 0).length (flat (rowOf g 0).length o) = o := by
  have hg := small_vGrid h1
  apply List.ext_getElem
  · simp [unflat, hs.1]
  · intro i h2 h3
    have hi : i < g.length := by rw [← hs.1]; exact h3
    have hlen : (rowOf o i).length = (rowOf g 0).length := by rw [hs.2, (hg.2.2 i hi).1]
    have ho : rowOf o i = o[i] := by simp [rowOf, List.getD, h3]
    have e : (unflat g.length (rowOf g 0).length (flat (rowOf g 0).length o))[i] = (List.range (rowOf g 0).length).map fun k => flat (rowOf g 0).length o (i * (rowOf g 0).length + k) := by
      simp [unflat]
    rw [e]
    apply List.ext_getElem
    · rw [← ho, hlen]; simp
    · intro k h4 h5
      have hk : k < (rowOf g 0).length := by simpa using h4
      rw [List.getElem_map, List.getElem_range, flat_at _ o i k hk]
      unfold cellOf
      simp only [ho]
      simp [List.getD, h5]

def fitF (g : List (List Int)) (u : Int) : (Nat → Int) → Bool := fun c => roundS g u (unflat g.length (rowOf g 0).length c)

theorem seek_flat (h1 : vGrid g u = true) : ∀ k o, sameForm g o → seek g u k o = (seekF (fF g u) (incF g u) (fitF g u) (g.length * (rowOf g 0).length) k (flat (rowOf g 0).length o)).map (unflat g.length (rowOf g 0).length)
  | 0, _, _ => rfl
  | k + 1, o, hs => by
    have hl := nextAll_lin h1 g.length (Nat.le_refl _) o hs
    have ih := seek_flat h1 k _ (sameForm_all h1 g.length (Nat.le_refl _) o hs)
    have hf : fitF g u (flat (rowOf g 0).length o) = roundS g u o := by unfold fitF; rw [unflat_flat h1 hs]
    unfold seek seekF
    rw [hf, hl]
    by_cases hr : roundS g u o = true
    · rw [if_pos hr, if_pos hr, Option.map_some, unflat_flat h1 hs]
    · rw [if_neg hr, if_neg hr]
      by_cases hb : (nextAll g u g.length o).1 = true
      · rw [if_pos hb, if_pos hb, ih]
      · rw [if_neg hb, if_neg hb]; rfl

end
end Go.Proofs.Ytlibfmbbchhjeaa
