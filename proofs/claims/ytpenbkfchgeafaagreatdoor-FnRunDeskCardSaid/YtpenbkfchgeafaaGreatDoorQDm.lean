/- A desk's texts: pieces between bytes of a kind, numbers in decimal. -/
import Derived.Lib.ItoaNum
import Derived.Lib.AtoiAll
import Derived.Lib.Split
import Derived.Lib.SplitLaws
import Derived.Lib.IndexBytes
namespace Go.Proofs.YtpenbkfchgeafaaGreatDoor
open Go.Lib

/-- A byte ahead of the first piece. -/
def conHead (b : UInt8) : List (List UInt8) → List (List UInt8)
  | [] => [[b]]
  | p :: ps => (b :: p) :: ps
/-- The pieces of a text between the bytes of a kind. -/
def pieces (c : UInt8) : List UInt8 → List (List UInt8)
  | [] => [[]]
  | b :: l => if b = c then [] :: pieces c l else conHead b (pieces c l)
theorem pieces_ne (c : UInt8) : ∀ l, pieces c l ≠ []
  | [] => by simp [pieces]
  | b :: l => by
    unfold pieces
    split
    · simp
    · cases pieces c l <;> simp [conHead]
theorem index_nil1 (c : UInt8) : index [] [c] = -1 := rfl
theorem index_same (c : UInt8) (l : List UInt8) : index (c :: l) [c] = 0 := by simp [index]
theorem index_else {b c : UInt8} (h : b ≠ c) (l : List UInt8) : index (b :: l) [c] = if index l [c] == -1 then -1 else index l [c] + 1 := by
  have : ([c] : List UInt8).isPrefixOf (b :: l) = false := by simp [List.isPrefixOf, Ne.symm h]
  rw [index, this]
  rfl
theorem splitK_pieces (c : UInt8) : ∀ (l : List UInt8) (k : Nat), l.count c ≤ k → splitK [c] 0 k l = pieces c l
  | [], k, _ => by
    cases k with
    | zero => rfl
    | succ k => simp [splitK, index_nil1, pieces]
  | b :: l, k, h => by
    by_cases hb : b = c
    · subst hb
      cases k with
      | zero => simp at h
      | succ k =>
        have ih := splitK_pieces b l k (by simpa using h)
        simp [splitK, index_same, pieces, ih]
    · have hc : (b :: l).count c = l.count c := by simp [hb]
      rw [hc] at h
      have ih := splitK_pieces c l k h
      rw [pieces, if_neg hb, ← ih]
      cases k with
      | zero => rfl
      | succ k =>
        rw [splitK, splitK, index_else hb]
        by_cases hi : index l [c] = -1
        · simp [hi, conHead]
        · have hge := index_ge l [c]
          obtain ⟨i, hi2⟩ : ∃ i : Nat, index l [c] = i := ⟨(index l [c]).toNat, by omega⟩
          rw [hi2]
          have e1 : (((i : Int) == -1) = true) = False := by simp
          have e2 : (((i : Int) + 1 == -1) = true) = False := by simp; omega
          have e3 : ((i : Int) + 1).toNat = i + 1 := by omega
          simp [e1, e2, e3, conHead]
theorem split_pieces (c : UInt8) (l : List UInt8) : split l [c] = pieces c l := by
  unfold split
  exact splitK_pieces c l _ (by rw [count_one]; exact Nat.le_refl _)

/-- What the model's reader has come to. -/
def readRaw (n : Nat) : List UInt8 → Option Nat
  | [] => some n
  | b :: r => if b.toNat < 48 ∨ 57 < b.toNat ∨ 100000 < n then none else readRaw (10 * n + (b.toNat - 48)) r
/-- The number of a text in decimal of at least 0, -1 if there is none. -/
def readV (l : List UInt8) : Int := match readRaw 0 l with
  | none => -1
  | some n => if l = [] ∨ itoa n ≠ l then -1 else n
/-- The number that the program reads. -/
def numV (l : List UInt8) : Option Int := match atoiAll l with
  | .ok n => if itoa n = l then some n else none
  | _ => none

theorem readRaw_le : ∀ (l : List UInt8) (n m : Nat), readRaw n l = some m → n ≤ 1000009 → m ≤ 1000009
  | [], n, m, h, hn => by simp only [readRaw, Option.some.injEq] at h; omega
  | b :: r, n, m, h, hn => by
    simp only [readRaw] at h
    split at h
    · cases h
    · rename_i hc
      exact readRaw_le r _ m h (by omega)
theorem readRaw_parse : ∀ (l : List UInt8) (n m : Nat), readRaw n l = some m → parseUint10 n l = .ok m
  | [], n, m, h => by simp only [readRaw, Option.some.injEq] at h; rw [h]; rfl
  | b :: r, n, m, h => by
    simp only [readRaw] at h
    split at h
    · cases h
    · rename_i hc
      have ih := readRaw_parse r _ m h
      rw [parseUint10, if_pos (by omega), if_neg (by omega), if_neg (by omega), Nat.mul_comm n 10]
      exact ih
theorem readRaw_append : ∀ (l : List UInt8) (n : Nat) (d : UInt8), readRaw n (l ++ [d]) = (readRaw n l).bind fun m => if d.toNat < 48 ∨ 57 < d.toNat ∨ 100000 < m then none else some (10 * m + (d.toNat - 48))
  | [], n, d => by simp [readRaw]
  | b :: r, n, d => by
    simp only [List.cons_append, readRaw]
    split
    · rfl
    · exact readRaw_append r _ d
theorem digit_val {k : Nat} (h : k < 10) : (UInt8.ofNat (48 + k)).toNat = 48 + k := by
  rw [UInt8.toNat_ofNat']; omega
theorem readRaw_digits (u : Nat) (h : u / 10 ≤ 100000) : readRaw 0 (decDigits u) = some u := by
  induction u using Nat.strongRecOn with
  | ind u ih =>
    rw [decDigits]
    by_cases hu : u < 10
    · rw [dif_pos hu]
      simp only [readRaw, digit_val hu]
      rw [if_neg (by omega)]
      simp only [Option.some.injEq]
      omega
    · have hd := digit_val (Nat.mod_lt u (show 0 < 10 by omega))
      rw [dif_neg hu, readRaw_append, ih (u / 10) (by omega) (by omega)]
      simp only [Option.bind_some, hd]
      rw [if_neg (by omega)]
      simp only [Option.some.injEq]
      omega
theorem decDigits_ne (u : Nat) : decDigits u ≠ [] := by
  rw [decDigits]
  split <;> simp
/-- What the model reads, the program reads. -/
theorem read_num {l : List UInt8} (h : 0 ≤ readV l) : numV l = some (readV l) ∧ readV l ≤ 1000009 := by
  unfold readV at h ⊢
  cases hr : readRaw 0 l with
  | none => rw [hr] at h; simp at h
  | some n =>
    rw [hr] at h
    simp only [] at h ⊢
    split at h
    · simp at h
    · rename_i hc
      rw [if_neg hc]
      have hne : l ≠ [] := fun e => hc (.inl e)
      have hi : itoa (n : Int) = l := Decidable.of_not_not fun e => hc (.inr e)
      have hle := readRaw_le l 0 n hr (by omega)
      refine ⟨?_, by omega⟩
      have hp := readRaw_parse l 0 n hr
      have hat : atoiAll l = .ok (n : Int) := by
        cases l with
        | nil => exact absurd rfl hne
        | cons b r =>
          have hb : ¬ (b.toNat < 48 ∨ 57 < b.toNat) := fun hb => by
            simp only [readRaw] at hr
            rw [if_pos (by omega)] at hr
            cases hr
          have hpm : parseMag (b :: r) = .ok n := by
            unfold parseMag
            rw [if_neg (by simp)]
            exact hp
          simp only [atoiAll]
          rw [if_neg (by omega), hpm]
          simp only []
          rw [if_neg (by omega), if_neg (by omega), if_neg (by omega)]
      unfold numV
      rw [hat]
      simp only []
      rw [if_pos hi]
/-- What the model does not read is none for the program, or out of all ranges. -/
theorem read_none {l : List UInt8} (h : readV l < 0) : numV l = none ∨ ∃ n, numV l = some n ∧ (n < 0 ∨ 1000009 < n) := by
  unfold numV
  cases ha : atoiAll l with
  | ok n =>
    simp only []
    by_cases hi : itoa n = l
    · rw [if_pos hi]
      refine .inr ⟨n, rfl, ?_⟩
      by_cases h0 : n < 0
      · exact .inl h0
      · by_cases h1 : 1000009 < n
        · exact .inr h1
        · exfalso
          obtain ⟨u, rfl⟩ : ∃ u : Nat, n = u := ⟨n.toNat, by omega⟩
          have hl : decDigits u = l := by
            rw [← hi]
            unfold itoa
            rw [if_neg (by omega), Int.toNat_natCast]
          have hr := readRaw_digits u (by omega)
          rw [hl] at hr
          unfold readV at h
          rw [hr] at h
          simp only [] at h
          rw [if_neg] at h
          · omega
          · rintro (e | e)
            · exact decDigits_ne u (hl.trans e)
            · exact e hi
    · rw [if_neg hi]
      exact .inl rfl
  | range => exact .inl rfl
  | _ => exact .inl rfl
end Go.Proofs.YtpenbkfchgeafaaGreatDoor
