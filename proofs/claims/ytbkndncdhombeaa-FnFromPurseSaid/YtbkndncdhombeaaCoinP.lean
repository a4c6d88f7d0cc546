/- Coins: how many pay an amount; the fewest. -/
import Derived.Test.YtbkndncdhombeaaNum
namespace Go.Proofs.Ytbkndncdhombeaa

/-- So many of the coins pay an amount. -/
inductive Pays (cs : List Int) : Nat → Int → Prop
  | zero : Pays cs 0 0
  | more {n : Nat} {x c : Int} : c ∈ cs → Pays cs n x → Pays cs (n + 1) (x + c)

/-- All coins are of at least 1. -/
def Pos (cs : List Int) : Prop := ∀ c ∈ cs, 1 ≤ c

theorem Pays.nonneg {cs : List Int} (hp : Pos cs) {n : Nat} {x : Int} (h : Pays cs n x) : (n : Int) ≤ x := by
  induction h with
  | zero => omega
  | more hc _ ih => have := hp _ hc; omega

theorem Pays.upper {cs : List Int} {m : Int} (hp : ∀ c ∈ cs, c ≤ m) {n : Nat} {x : Int} (h : Pays cs n x) : x ≤ n * m := by
  induction h with
  | zero => omega
  | more hc _ ih =>
    have := hp _ hc
    rw [Int.natCast_add, Int.add_mul]
    omega

theorem Pays.mono {cs ds : List Int} (hs : ∀ c ∈ cs, c ∈ ds) {n : Nat} {x : Int} (h : Pays cs n x) : Pays ds n x := by
  induction h with
  | zero => exact .zero
  | more hc _ ih => exact .more (hs _ hc) ih

theorem Pays.add {cs : List Int} {n m : Nat} {x y : Int} (h : Pays cs n x) (k : Pays cs m y) : Pays cs (n + m) (x + y) := by
  induction k with
  | zero => simpa using h
  | more hc _ ih => rw [← Int.add_assoc]; exact .more hc ih

theorem Pays.times {cs : List Int} {c : Int} (hc : c ∈ cs) : ∀ k : Nat, Pays cs k (k * c)
  | 0 => by simpa using Pays.zero
  | k + 1 => by
    rw [Int.natCast_add, Int.add_mul]
    have := Pays.more hc (Pays.times hc k)
    simpa using this

theorem pays_zero {cs : List Int} {x : Int} : Pays cs 0 x ↔ x = 0 := by
  constructor
  · intro h
    cases h
    rfl
  · rintro rfl
    exact .zero

theorem pays_succ {cs : List Int} {n : Nat} {x : Int} : Pays cs (n + 1) x ↔ ∃ c ∈ cs, Pays cs n (x - c) := by
  constructor
  · intro h
    cases h with
    | more hc h1 => exact ⟨_, hc, by rw [Int.add_sub_cancel]; exact h1⟩
  · rintro ⟨c, hc, h⟩
    have := Pays.more hc h
    rwa [Int.sub_add_cancel] at this

theorem pays_nil {n : Nat} {x : Int} : Pays [] n x ↔ n = 0 ∧ x = 0 := by
  cases n with
  | zero => rw [pays_zero]; simp
  | succ n => rw [pays_succ]; simp

/-- A coin more: none of it, or one of it and what is left. -/
theorem pays_snoc {P : List Int} {c : Int} {n : Nat} {x : Int} : Pays (P ++ [c]) n x ↔ Pays P n x ∨ ∃ m, n = m + 1 ∧ Pays (P ++ [c]) m (x - c) := by
  constructor
  · intro h
    induction h with
    | zero => exact .inl .zero
    | @more n x d hd h ih =>
      simp only [List.mem_append, List.mem_singleton] at hd
      rcases hd with hd | rfl
      · rcases ih with ih | ⟨m, rfl, ih⟩
        · exact .inl (.more hd ih)
        · refine .inr ⟨m + 1, rfl, ?_⟩
          have := Pays.more (cs := P ++ [c]) (c := d) (by simp [hd]) ih
          rwa [show x - c + d = x + d - c by omega] at this
      · exact .inr ⟨n, rfl, by rw [Int.add_sub_cancel]; exact h⟩
  · rintro (h | ⟨m, rfl, h⟩)
    · exact h.mono (fun _ hc => by simp [hc])
    · exact pays_succ.2 ⟨c, by simp, h⟩

/-- The same, reckoned. -/
def paysB (cs : List Int) : Nat → Int → Bool
  | 0, x => x == 0
  | n + 1, x => cs.any fun c => paysB cs n (x - c)

theorem paysB_iff (cs : List Int) : ∀ (n : Nat) (x : Int), paysB cs n x = true ↔ Pays cs n x
  | 0, x => by rw [pays_zero]; simp [paysB]
  | n + 1, x => by
    rw [pays_succ]
    simp only [paysB, List.any_eq_true]
    exact ⟨fun ⟨c, hc, h⟩ => ⟨c, hc, (paysB_iff cs n _).1 h⟩, fun ⟨c, hc, h⟩ => ⟨c, hc, (paysB_iff cs n _).2 h⟩⟩

/-- The first number from one on at which a test holds; -1 where none of so many does. -/
def firstN (f : Nat → Bool) : Nat → Nat → Int
  | 0, _ => -1
  | k + 1, s => if f s then (s : Int) else firstN f k (s + 1)

theorem firstN_cases (f : Nat → Bool) : ∀ (k s : Nat), (firstN f k s = -1 ∧ ∀ n, s ≤ n → n < s + k → f n = false) ∨ (∃ n, s ≤ n ∧ n < s + k ∧ firstN f k s = (n : Int) ∧ f n = true ∧ ∀ m, s ≤ m → m < n → f m = false)
  | 0, s => .inl ⟨rfl, fun n h1 h2 => by omega⟩
  | k + 1, s => by
    unfold firstN
    cases hf : f s with
    | true => exact .inr ⟨s, Nat.le_refl _, by omega, by simp, hf, fun m h1 h2 => by omega⟩
    | false =>
      simp only [Bool.false_eq_true, if_false]
      rcases firstN_cases f k (s + 1) with ⟨h1, h2⟩ | ⟨n, h1, h2, h3, h4, h5⟩
      · refine .inl ⟨h1, fun n h3 h4 => ?_⟩
        by_cases he : n = s
        · rw [he]; exact hf
        · exact h2 n (by omega) (by omega)
      · refine .inr ⟨n, by omega, by omega, h3, h4, fun m h6 h7 => ?_⟩
        by_cases he : m = s
        · rw [he]; exact hf
        · exact h5 m (by omega) h7

/-- The fewest coins that pay an amount, -1 where none do. -/
def fwV (cs : List Int) (x : Int) : Int := firstN (fun n => paysB cs n x) (x.toNat + 1) 0

theorem fw_cases {cs : List Int} (hp : Pos cs) (x : Int) : (fwV cs x = -1 ∧ ∀ n, ¬ Pays cs n x) ∨ (∃ n : Nat, fwV cs x = (n : Int) ∧ Pays cs n x ∧ ∀ m : Nat, Pays cs m x → n ≤ m) := by
  rcases firstN_cases (fun n => paysB cs n x) (x.toNat + 1) 0 with ⟨h1, h2⟩ | ⟨n, h1, h2, h3, h4, h5⟩
  · refine .inl ⟨h1, fun n hn => ?_⟩
    have h3 := hn.nonneg hp
    have h4 := h2 n (Nat.zero_le _) (by omega)
    have h4' : paysB cs n x = false := h4
    rw [(paysB_iff cs n x).2 hn] at h4'
    cases h4'
  · refine .inr ⟨n, h3, (paysB_iff cs n x).1 h4, fun m hm => ?_⟩
    by_cases hlt : m < n
    · have h6 : paysB cs m x = false := h5 m (Nat.zero_le _) hlt
      rw [(paysB_iff cs m x).2 hm] at h6
      cases h6
    · omega

theorem fw_of {cs : List Int} (hp : Pos cs) {x : Int} {n : Nat} (h : Pays cs n x) (hm : ∀ m : Nat, Pays cs m x → n ≤ m) : fwV cs x = n := by
  rcases fw_cases hp x with ⟨_, h2⟩ | ⟨k, h1, h2, h3⟩
  · exact absurd h (h2 n)
  · have := h3 n h
    have := hm k h2
    rw [h1]
    omega

theorem fw_none {cs : List Int} (hp : Pos cs) {x : Int} (h : ∀ n, ¬ Pays cs n x) : fwV cs x = -1 := by
  rcases fw_cases hp x with ⟨h1, _⟩ | ⟨k, _, h2, _⟩
  · exact h1
  · exact absurd h2 (h k)

theorem fw_le {cs : List Int} (hp : Pos cs) {x : Int} {n : Nat} (h : Pays cs n x) : 0 ≤ fwV cs x ∧ fwV cs x ≤ n := by
  rcases fw_cases hp x with ⟨_, h2⟩ | ⟨k, h1, _, h3⟩
  · exact absurd h (h2 n)
  · have := h3 n h
    rw [h1]
    omega

theorem fw_pays {cs : List Int} (hp : Pos cs) {x : Int} (h : 0 ≤ fwV cs x) : Pays cs (fwV cs x).toNat x := by
  rcases fw_cases hp x with ⟨h1, _⟩ | ⟨k, h1, h2, _⟩
  · omega
  · rw [h1]; exact h2

theorem fw_ge {cs : List Int} (hp : Pos cs) (x : Int) : -1 ≤ fwV cs x := by
  rcases fw_cases hp x with ⟨h1, _⟩ | ⟨k, h1, _, _⟩ <;> omega

theorem fw_lt {cs : List Int} (hp : Pos cs) {x : Int} (h : fwV cs x < 0) : fwV cs x = -1 := by
  have := fw_ge hp x
  omega

theorem fw_bound {cs : List Int} (hp : Pos cs) {x : Int} (h : 0 ≤ fwV cs x) : fwV cs x ≤ x := by
  have := (fw_pays hp h).nonneg hp
  omega

theorem fw_zero {cs : List Int} (hp : Pos cs) : fwV cs 0 = 0 := fw_of hp .zero (fun m _ => Nat.zero_le m)

theorem fw_neg {cs : List Int} (hp : Pos cs) {x : Int} (h : x < 0) : fwV cs x = -1 := fw_none hp (fun n hn => by have := hn.nonneg hp; omega)

theorem fw_eq_zero {cs : List Int} (hp : Pos cs) {x : Int} (h : fwV cs x = 0) : x = 0 := by
  have := fw_pays hp (x := x) (by omega)
  rw [h] at this
  exact pays_zero.1 this

/-! The model's way: the fewest of an amount out of those of less. -/

/-- The best of coins so far: b is -1 as long as none serves, else one more than the least. -/
def Best (cs P : List Int) (x b : Int) : Prop :=
  (b = -1 ∧ ∀ c ∈ P, fwV cs (x - c) < 0) ∨ (0 ≤ b ∧ (∃ c ∈ P, 0 ≤ fwV cs (x - c) ∧ b = fwV cs (x - c) + 1) ∧ ∀ c ∈ P, 0 ≤ fwV cs (x - c) → b ≤ fwV cs (x - c) + 1)

theorem best_nil (cs : List Int) (x : Int) : Best cs [] x (-1) := .inl ⟨rfl, fun c hc => by cases hc⟩

/-- One coin more, which serves, and better. -/
theorem best_take {cs P : List Int} {x b c : Int} (h : Best cs P x b) (h1 : 0 ≤ fwV cs (x - c)) (h2 : b < 0 ∨ fwV cs (x - c) + 1 < b) : Best cs (P ++ [c]) x (fwV cs (x - c) + 1) := by
  refine .inr ⟨by omega, ⟨c, by simp, h1, rfl⟩, fun d hd h3 => ?_⟩
  simp only [List.mem_append, List.mem_singleton] at hd
  rcases hd with hd | rfl
  · rcases h with ⟨_, h4⟩ | ⟨_, _, h4⟩
    · have := h4 d hd; omega
    · have := h4 d hd h3; omega
  · omega

theorem best_keep {cs P : List Int} {x b c : Int} (h : Best cs P x b) (h1 : ¬ (0 ≤ fwV cs (x - c) ∧ (b < 0 ∨ fwV cs (x - c) + 1 < b))) : Best cs (P ++ [c]) x b := by
  rcases h with ⟨h2, h3⟩ | ⟨h2, ⟨d, hd, h4, h5⟩, h6⟩
  · refine .inl ⟨h2, fun d hd => ?_⟩
    simp only [List.mem_append, List.mem_singleton] at hd
    rcases hd with hd | rfl
    · exact h3 d hd
    · omega
  · refine .inr ⟨h2, ⟨d, by simp [hd], h4, h5⟩, fun e he h7 => ?_⟩
    simp only [List.mem_append, List.mem_singleton] at he
    rcases he with he | rfl
    · exact h6 e he h7
    · omega

/-- Coins that are too great don't serve. -/
theorem best_rest {cs P Q : List Int} (hp : Pos cs) {x b : Int} (h : Best cs P x b) (hq : ∀ c ∈ Q, x < c) : Best cs (P ++ Q) x b := by
  rcases h with ⟨h2, h3⟩ | ⟨h2, ⟨d, hd, h4, h5⟩, h6⟩
  · refine .inl ⟨h2, fun d hd => ?_⟩
    simp only [List.mem_append] at hd
    rcases hd with hd | hd
    · exact h3 d hd
    · have := hq d hd
      rw [fw_neg hp (by omega)]; omega
  · refine .inr ⟨h2, ⟨d, by simp [hd], h4, h5⟩, fun e he h7 => ?_⟩
    simp only [List.mem_append] at he
    rcases he with he | he
    · exact h6 e he h7
    · have := hq e he
      rw [fw_neg hp (by omega)] at h7
      omega

theorem best_all {cs : List Int} (hp : Pos cs) {x b : Int} (hx : 1 ≤ x) (h : Best cs cs x b) : fwV cs x = b := by
  rcases h with ⟨h2, h3⟩ | ⟨h2, ⟨d, hd, h4, h5⟩, h6⟩
  · rw [h2]
    refine fw_none hp (fun n hn => ?_)
    cases n with
    | zero => have := pays_zero.1 hn; omega
    | succ n =>
      obtain ⟨c, hc, h7⟩ := pays_succ.1 hn
      have := h3 c hc
      have := (fw_le hp h7).1
      omega
  · have h8 := fw_pays hp h4
    have h9 : Pays cs ((fwV cs (x - d)).toNat + 1) x := pays_succ.2 ⟨d, hd, h8⟩
    rw [fw_of hp h9]
    · omega
    · intro m hm
      cases m with
      | zero => have := pays_zero.1 hm; omega
      | succ m =>
        obtain ⟨c, hc, h7⟩ := pays_succ.1 hm
        have h10 := fw_le hp h7
        have := h6 c hc h10.1
        omega

/-! The program's way: coin by coin. -/

/-- The fewest, 1921 where none do. -/
def fuV (cs : List Int) (x : Int) : Int := if fwV cs x < 0 then 1921 else fwV cs x

theorem fu_nil (x : Int) : fuV [] x = if x = 0 then 0 else 1921 := by
  have hp : Pos [] := fun c hc => by cases hc
  unfold fuV
  by_cases h : x = 0
  · subst h
    rw [fw_zero hp]
    simp
  · rw [fw_none hp (fun n hn => h (pays_nil.1 hn).2)]
    simp [h]

theorem fu_bounds {cs : List Int} (hp : Pos cs) {x : Int} (h0 : 0 ≤ x) (h : x ≤ 1920) : 0 ≤ fuV cs x ∧ fuV cs x ≤ 1921 ∧ (0 ≤ fwV cs x → fuV cs x ≤ x) := by
  unfold fuV
  split
  · omega
  · have := fw_bound hp (x := x) (by omega)
    omega

theorem fu_unpaid {cs : List Int} (hp : Pos cs) {x : Int} (h : x ≤ 1920) : fuV cs x = 1921 ↔ fwV cs x < 0 := by
  unfold fuV
  split
  · simp [*]
  · have := fw_bound hp (x := x) (by omega)
    omega

theorem Pos.left {P Q : List Int} (h : Pos (P ++ Q)) : Pos P := fun c hc => h c (by simp [hc])

theorem fw_snoc_less {P : List Int} {c x : Int} (hp : Pos (P ++ [c])) (h : x < c) : fwV (P ++ [c]) x = fwV P x := by
  rcases fw_cases hp.left x with ⟨h1, h2⟩ | ⟨n, h1, h2, h3⟩
  · rw [h1]
    refine fw_none hp (fun n hn => ?_)
    rcases pays_snoc.1 hn with hn | ⟨m, _, hm⟩
    · exact h2 n hn
    · have := hm.nonneg hp; omega
  · rw [h1]
    refine fw_of hp (pays_snoc.2 (.inl h2)) (fun m hm => ?_)
    rcases pays_snoc.1 hm with hm | ⟨m, _, hm⟩
    · exact h3 _ hm
    · have := hm.nonneg hp; omega

theorem fu_snoc_less {P : List Int} {c x : Int} (hp : Pos (P ++ [c])) (h : x < c) : fuV (P ++ [c]) x = fuV P x := by
  unfold fuV
  rw [fw_snoc_less hp h]

theorem fu_snoc {P : List Int} {c x : Int} (hp : Pos (P ++ [c])) (_h : c ≤ x) (hx : x ≤ 1920) : fuV (P ++ [c]) x = min (fuV P x) (fuV (P ++ [c]) (x - c) + 1) := by
  have hc := hp c (by simp)
  rcases fw_cases hp x with ⟨h1, h2⟩ | ⟨n, h1, h2, h3⟩
  · have e1 : fwV P x = -1 := fw_none hp.left (fun n hn => h2 n (pays_snoc.2 (.inl hn)))
    have e2 : fwV (P ++ [c]) (x - c) = -1 := fw_none hp (fun n hn => h2 (n + 1) (pays_snoc.2 (.inr ⟨n, rfl, hn⟩)))
    unfold fuV
    rw [h1, e1, e2]
    simp
    omega
  · have b := h2.nonneg hp
    have e0 : fuV (P ++ [c]) x = n := by unfold fuV; rw [h1]; split <;> omega
    rw [e0]
    have l1 : (n : Int) ≤ fuV P x := by
      unfold fuV
      split
      · omega
      · have := fw_pays hp.left (x := x) (by omega)
        have := h3 _ (pays_snoc.2 (.inl this))
        omega
    have l2 : (n : Int) ≤ fuV (P ++ [c]) (x - c) + 1 := by
      unfold fuV
      split
      · omega
      · have := fw_pays hp (x := x - c) (by omega)
        have := h3 _ (pays_snoc.2 (.inr ⟨_, rfl, this⟩))
        omega
    rcases pays_snoc.1 h2 with h4 | ⟨m, rfl, h4⟩
    · have := fw_le hp.left h4
      have : fuV P x ≤ n := by unfold fuV; split <;> omega
      omega
    · have := fw_le hp h4
      have : fuV (P ++ [c]) (x - c) ≤ m := by unfold fuV; split <;> omega
      omega

/-! Can an amount be paid. -/

def pyB (cs : List Int) (x : Int) : Bool := decide (0 ≤ fwV cs x)

theorem pyB_iff {cs : List Int} (hp : Pos cs) {x : Int} : pyB cs x = true ↔ ∃ n, Pays cs n x := by
  unfold pyB
  rw [decide_eq_true_iff]
  exact ⟨fun h => ⟨_, fw_pays hp h⟩, fun ⟨n, h⟩ => (fw_le hp h).1⟩

theorem py_nil (x : Int) : pyB [] x = decide (x = 0) := by
  have hp : Pos [] := fun c hc => by cases hc
  by_cases h : x = 0
  · subst h
    rw [(pyB_iff hp).2 ⟨0, .zero⟩]
    simp
  · have : pyB [] x ≠ true := fun hc => by
      obtain ⟨n, hn⟩ := (pyB_iff hp).1 hc
      exact h (pays_nil.1 hn).2
    rw [Bool.eq_false_iff.2 this]
    simp [h]

theorem py_snoc_less {P : List Int} {c x : Int} (hp : Pos (P ++ [c])) (h : x < c) : pyB (P ++ [c]) x = pyB P x := by
  unfold pyB
  rw [fw_snoc_less hp h]

theorem py_snoc {P : List Int} {c x : Int} (hp : Pos (P ++ [c])) : pyB (P ++ [c]) x = (pyB P x || pyB (P ++ [c]) (x - c)) := by
  rw [Bool.eq_iff_iff, Bool.or_eq_true, pyB_iff hp, pyB_iff hp.left, pyB_iff hp]
  constructor
  · rintro ⟨n, hn⟩
    rcases pays_snoc.1 hn with hn | ⟨m, _, hm⟩
    · exact .inl ⟨n, hn⟩
    · exact .inr ⟨m, hm⟩
  · rintro (⟨n, hn⟩ | ⟨n, hn⟩)
    · exact ⟨n, pays_snoc.2 (.inl hn)⟩
    · exact ⟨n + 1, pays_snoc.2 (.inr ⟨n, rfl, hn⟩)⟩

/-! In how many ways. -/

/-- One coin more: x with none of it, with one of it, and so on. -/
def addW (c : Int) (f : Int → Int) : Nat → Int → Int
  | 0, x => f x
  | k + 1, x => if x < c then f x else f x + addW c f k (x - c)

theorem addW_fuel (c : Int) (hc : 1 ≤ c) (f : Int → Int) : ∀ (k m : Nat) (x : Int), x.toNat ≤ k → x.toNat ≤ m → addW c f k x = addW c f m x
  | 0, m, x, h1, h2 => by
    cases m with
    | zero => rfl
    | succ m => unfold addW; rw [if_pos (by omega)]
  | k + 1, 0, x, h1, h2 => by
    unfold addW
    rw [if_pos (by omega)]
  | k + 1, m + 1, x, h1, h2 => by
    unfold addW
    split
    · rfl
    · rw [addW_fuel c hc f k m (x - c) (by omega) (by omega)]

/-- In how many ways coins, the last one first, pay an amount. -/
def wyR : List Int → Int → Int
  | [], x => if x = 0 then 1 else 0
  | c :: R, x => addW c (wyR R) x.toNat x

/-- In how many ways coins pay an amount. -/
def wyV (cs : List Int) (x : Int) : Int := wyR cs.reverse x

theorem wy_nil (x : Int) : wyV [] x = if x = 0 then 1 else 0 := rfl

theorem wy_snoc_less {P : List Int} {c x : Int} (h : x < c) (hc : 1 ≤ c) : wyV (P ++ [c]) x = wyV P x := by
  unfold wyV
  rw [List.reverse_append]
  show addW c (wyR P.reverse) x.toNat x = _
  rw [addW_fuel c hc _ x.toNat (x.toNat + 1) x (by omega) (by omega), addW, if_pos h]

theorem wy_snoc {P : List Int} {c x : Int} (h : c ≤ x) (hc : 1 ≤ c) : wyV (P ++ [c]) x = wyV P x + wyV (P ++ [c]) (x - c) := by
  unfold wyV
  rw [List.reverse_append]
  show addW c (wyR P.reverse) x.toNat x = _ + addW c (wyR P.reverse) (x - c).toNat (x - c)
  rw [addW_fuel c hc _ x.toNat (x.toNat + 1) x (by omega) (by omega), addW, if_neg (by omega), addW_fuel c hc _ x.toNat (x - c).toNat (x - c) (by omega) (by omega)]

theorem addW_nonneg (c : Int) (f : Int → Int) (hf : ∀ x, 0 ≤ f x) : ∀ (k : Nat) (x : Int), 0 ≤ addW c f k x
  | 0, x => hf x
  | k + 1, x => by
    unfold addW
    have := hf x
    have := addW_nonneg c f hf k (x - c)
    split <;> omega

theorem wyR_nonneg : ∀ (R : List Int) (x : Int), 0 ≤ wyR R x
  | [], x => by unfold wyR; split <;> omega
  | c :: R, x => addW_nonneg c _ (wyR_nonneg R) _ x

theorem wy_nonneg (cs : List Int) (x : Int) : 0 ≤ wyV cs x := wyR_nonneg _ _

theorem addW_le (c : Int) (hc : 1 ≤ c) (f : Int → Int) (B : Int) (hB : 0 ≤ B) (hf : ∀ x, x ≤ 120 → f x ≤ B) : ∀ (k : Nat) (x : Int), x ≤ 120 → addW c f k x ≤ (k + 1) * B
  | 0, x, h => by simpa [addW] using hf x h
  | k + 1, x, h => by
    unfold addW
    have h1 := hf x h
    have h2 := addW_le c hc f B hB hf k (x - c) (by omega)
    have e : ((k + 1 : Nat) : Int) + 1 = (k : Int) + 1 + 1 := by omega
    rw [e, Int.add_mul _ 1 B]
    have h3 : 0 ≤ ((k : Int) + 1) * B := Int.mul_nonneg (by omega) hB
    split <;> omega

theorem wyR_le : ∀ (R : List Int) (_ : ∀ c ∈ R, 1 ≤ c) (x : Int), x ≤ 120 → wyR R x ≤ 121 ^ R.length
  | [], _, x, _ => by unfold wyR; split <;> simp
  | c :: R, hp, x, h => by
    have ih := wyR_le R (fun d hd => hp d (by simp [hd]))
    have hB : (0 : Int) ≤ 121 ^ R.length := by
      have : (0 : Int) < 121 ^ R.length := Int.pow_pos (by omega)
      omega
    have h1 := addW_le c (hp c (by simp)) (wyR R) (121 ^ R.length) hB ih x.toNat x h
    have h2 : ((x.toNat : Int) + 1) * 121 ^ R.length ≤ 121 * 121 ^ R.length := Int.mul_le_mul_of_nonneg_right (by omega) hB
    show addW c (wyR R) x.toNat x ≤ 121 ^ (R.length + 1)
    rw [Int.pow_succ, Int.mul_comm _ 121]
    omega

theorem wy_le {cs : List Int} (hp : Pos cs) (hl : cs.length ≤ 5) {x : Int} (h : x ≤ 120) : wyV cs x ≤ 25937424601 := by
  have h1 := wyR_le cs.reverse (fun c hc => hp c (by simpa using hc)) x h
  rw [List.length_reverse] at h1
  have h2 : (121 : Int) ^ cs.length ≤ 121 ^ 5 := by
    rcases (show cs.length = 0 ∨ cs.length = 1 ∨ cs.length = 2 ∨ cs.length = 3 ∨ cs.length = 4 ∨ cs.length = 5 by omega) with e | e | e | e | e | e <;> rw [e] <;> decide
  have h3 : (121 : Int) ^ 5 = 25937424601 := by decide
  unfold wyV
  omega

theorem snoc_ind {p : List Int → Prop} (h0 : p []) (h1 : ∀ P c, p P → p (P ++ [c])) (l : List Int) : p l := by
  have h : ∀ r : List Int, p r.reverse := by
    intro r
    induction r with
    | nil => exact h0
    | cons a r ih => rw [List.reverse_cons]; exact h1 _ _ ih
  have := h l.reverse
  rwa [List.reverse_reverse] at this

/-- There are ways exactly if some coins pay. -/
theorem wy_pos (cs : List Int) : Pos cs → ∀ (n : Nat) (x : Int), x.toNat ≤ n → (0 < wyV cs x ↔ ∃ k, Pays cs k x) := by
  refine snoc_ind (p := fun cs => Pos cs → ∀ (n : Nat) (x : Int), x.toNat ≤ n → (0 < wyV cs x ↔ ∃ k, Pays cs k x)) ?_ ?_ cs
  · intro _ n x _
    rw [wy_nil]
    constructor
    · intro h
      by_cases h0 : x = 0
      · exact ⟨0, by rw [h0]; exact .zero⟩
      · rw [if_neg h0] at h; omega
    · rintro ⟨k, hk⟩
      rw [if_pos (pays_nil.1 hk).2]; omega
  · intro P c ih hp n
    have hc := hp c (by simp)
    induction n with
    | zero =>
      intro x hx
      rw [wy_snoc_less (by omega) hc, ih hp.left 0 x hx]
      constructor
      · rintro ⟨k, hk⟩; exact ⟨k, pays_snoc.2 (.inl hk)⟩
      · rintro ⟨k, hk⟩
        rcases pays_snoc.1 hk with hk | ⟨m, _, hk⟩
        · exact ⟨k, hk⟩
        · have := hk.nonneg hp; omega
    | succ n ih2 =>
      intro x hx
      by_cases hlt : x < c
      · rw [wy_snoc_less hlt hc, ih hp.left (n + 1) x hx]
        constructor
        · rintro ⟨k, hk⟩; exact ⟨k, pays_snoc.2 (.inl hk)⟩
        · rintro ⟨k, hk⟩
          rcases pays_snoc.1 hk with hk | ⟨m, _, hk⟩
          · exact ⟨k, hk⟩
          · have := hk.nonneg hp; omega
      · rw [wy_snoc (by omega) hc]
        have h1 := wy_nonneg P x
        have h2 := wy_nonneg (P ++ [c]) (x - c)
        have h3 := ih hp.left (n + 1) x hx
        have h4 := ih2 (x - c) (by omega)
        constructor
        · intro h
          by_cases h5 : 0 < wyV P x
          · obtain ⟨k, hk⟩ := h3.1 h5
            exact ⟨k, pays_snoc.2 (.inl hk)⟩
          · obtain ⟨k, hk⟩ := h4.1 (by omega)
            exact ⟨k + 1, pays_snoc.2 (.inr ⟨k, rfl, hk⟩)⟩
        · rintro ⟨k, hk⟩
          rcases pays_snoc.1 hk with hk | ⟨m, _, hk⟩
          · have := h3.2 ⟨k, hk⟩; omega
          · have := h4.2 ⟨m, hk⟩; omega

theorem wy_pos_iff {cs : List Int} (hp : Pos cs) {x : Int} : 0 < wyV cs x ↔ 0 ≤ fwV cs x := by
  rw [wy_pos cs hp _ x (Nat.le_refl _)]
  exact ⟨fun ⟨_, h⟩ => (fw_le hp h).1, fun h => ⟨_, fw_pays hp h⟩⟩

end Go.Proofs.Ytbkndncdhombeaa
