/- Lists of ints in memory: what a slice value reads as, and small functions on numbers, contracts that every chapter uses. Coins: how many pay an amount; the fewest. Coins: how many of each in the fewest; the greedy way, and where it fails. Numbers in a range, in the program. math/bits.Mul at one times a small number. Sums, in the model. Sums, in the model. The sum of numbers, in the program. The weights of parts: contracts of sums, ranges, ValidParts, in the program and in its model. -/
import Derived.Test.YtpenbkfchgeafaaGreatDoorProg
import Derived.WalkKit
import Derived.Lib.Hide
import Derived.Laws.Shifts
import Derived.Laws.Bits64
namespace Go.Proofs.YtpenbkfchgeafaaGreatDoor
open Go.RowKit

/-- The slice value v reads as the list xs of ints in the world w: its cells hold them, whatever its address where there is none. -/
def IsInts (w : World) (v : Value) (xs : List Int) : Prop :=
  ∃ a cap, v = .slice a xs.length cap ∧ ∀ j, j < xs.length → ∃ b off, a = some ⟨b, off, none⟩ ∧ w.cell? ⟨b, off + j, none⟩ = some (.int .i64 (xs.getD j 0))

/-- Every number fits an int. -/
def Fits (xs : List Int) : Prop := ∀ x ∈ xs, -9223372036854775808 ≤ x ∧ x ≤ 9223372036854775807

theorem IsInts.below {w w' : World} {v : Value} {xs : List Int} (h : IsInts w v xs) (hb : Below w.heap.size w w') : IsInts w' v xs := by
  obtain ⟨a, cap, rfl, hc⟩ := h
  refine ⟨a, cap, rfl, fun j hj => ?_⟩
  obtain ⟨b, off, ha, hcell⟩ := hc j hj
  exact ⟨b, off, ha, (hb.cell (p := ⟨b, off + j, none⟩) (World.block_lt_of_cell? w _ hcell)).trans hcell⟩

theorem Fits.getD {xs : List Int} (h : Fits xs) (j : Nat) : -9223372036854775808 ≤ xs.getD j 0 ∧ xs.getD j 0 ≤ 9223372036854775807 := by
  by_cases hj : j < xs.length
  · have := h (xs[j]) (List.getElem_mem hj)
    simpa [List.getD, hj] using this
  · simp [List.getD, Nat.not_lt.1 hj]

theorem ret_int {k : IntKind} {a b : Int} (h : a = b) : Ending.returned (.int k a) = .returned (.int k b) := by rw [h]
theorem ret_bool {a b : Bool} (h : a = b) : Ending.returned (.bool a) = .returned (.bool b) := by rw [h]

/-- low <= n && n <= high -/
def inR (n lo hi : Int) : Bool := decide (lo ≤ n ∧ n ≤ hi)

theorem inR_true {n lo hi : Int} (h : inR n lo hi = true) : lo ≤ n ∧ n ≤ hi := by simpa [inR] using h
theorem inR_false {n lo hi : Int} (h : inR n lo hi = false) : n < lo ∨ hi < n := by
  have : ¬ (lo ≤ n ∧ n ≤ hi) := by simpa [inR] using h
  omega

set_option maxHeartbeats 400000 in
theorem inRange_impl (n lo hi : Int) (w : World) :
    Calls Tryz.prog 73 #[.int .i64 n, .int .i64 lo, .int .i64 hi] w fun e w' => e = .returned (.bool (inR n lo hi)) ∧ w = w' := by
  by_cases h1 : lo ≤ n
  · have hd : decide (lo ≤ n) = true := by simpa using h1
    go_enter Tryz.func73, Tryz.ntmps73
    go_wp2
    go_ret
    exact ⟨by simp [inR, h1], rfl⟩
  · have hd : decide (lo ≤ n) = false := by simpa using h1
    go_enter Tryz.func73, Tryz.ntmps73
    go_wp2
    go_ret
    exact ⟨ret_bool (by unfold inR; symm; rw [decide_eq_false_iff_not]; omega), rfl⟩

set_option maxHeartbeats 400000 in
theorem inRange_spec (n lo hi : Int) (w : World) :
    Calls Tryz.prog 38 #[.int .i64 n, .int .i64 lo, .int .i64 hi] w fun e w' => e = .returned (.bool (inR n lo hi)) ∧ w = w' := by
  by_cases h1 : lo ≤ n
  · have hd : decide (lo ≤ n) = true := by simpa using h1
    go_enter Tryz.func38, Tryz.ntmps38
    go_wp2
    go_ret
    exact ⟨by simp [inR, h1], rfl⟩
  · have hd : decide (lo ≤ n) = false := by simpa using h1
    go_enter Tryz.func38, Tryz.ntmps38
    go_wp2
    go_ret
    exact ⟨ret_bool (by unfold inR; symm; rw [decide_eq_false_iff_not]; omega), rfl⟩

/-- The sum of numbers. -/
def tot (xs : List Int) : Int := xs.sum

theorem tot_take_succ (xs : List Int) (k : Nat) (h : k < xs.length) : tot (xs.take (k + 1)) = tot (xs.take k) + xs[k] := by
  unfold tot
  rw [List.take_succ_eq_append_getElem h, List.sum_append]
  simp

theorem tot_bounds (xs : List Int) (m : Int) (hm : ∀ x ∈ xs, 0 ≤ x ∧ x ≤ m) : 0 ≤ tot xs ∧ tot xs ≤ m * xs.length := by
  unfold tot
  induction xs with
  | nil => simp
  | cons a l ih =>
    have h1 := hm a (by simp)
    have h2 := ih (fun x hx => hm x (by simp [hx]))
    simp only [List.sum_cons, List.length_cons]
    rw [Int.natCast_add, Int.mul_add]
    omega

/-- Every sum of the first numbers fits an int. -/
def SumFits (xs : List Int) : Prop := ∀ k, -9223372036854775808 ≤ tot (xs.take k) ∧ tot (xs.take k) ≤ 9223372036854775807

theorem sumFits_of (xs : List Int) (m : Int) (hm : ∀ x ∈ xs, 0 ≤ x ∧ x ≤ m) (h0 : 0 ≤ m) (h : m * xs.length ≤ 9223372036854775807) : SumFits xs := by
  intro k
  have := tot_bounds (xs.take k) m (fun x hx => hm x (List.mem_of_mem_take hx))
  have hl : (xs.take k).length ≤ xs.length := by simp; omega
  have h2 : m * ((xs.take k).length : Int) ≤ m * (xs.length : Int) := Int.mul_le_mul_of_nonneg_left (by omega) h0
  omega

end Go.Proofs.YtpenbkfchgeafaaGreatDoor

namespace Go.Proofs.YtpenbkfchgeafaaGreatDoor

/-- So many of the coins pay an amount. -/
inductive Pays (cs : List Int) : Nat → Int → Prop
  | zero : Pays cs 0 0
  | more {n : Nat} {x c : Int} : c ∈ cs → Pays cs n x → Pays cs (n + 1) (x + c)

/-- All coins are of at least 1. -/
def Pos (cs : List Int) : Prop := ∀ c ∈ cs, 1 ≤ c

theorem Pays.nonneg {cs : List Int} (hp : Pos cs) {n : Nat} {x : Int} (h : Pays cs n x) : (n : Int) ≤ x := by
  induction h with
  | zero => omega
  | more hc _ ih => have := hp _ hc; omega

theorem Pays.upper {cs : List Int} {m : Int} (hp : ∀ c ∈ cs, c ≤ m) {n : Nat} {x : Int} (h : Pays cs n x) : x ≤ n * m := by
  induction h with
  | zero => omega
  | more hc _ ih =>
    have := hp _ hc
    rw [Int.natCast_add, Int.add_mul]
    omega

theorem Pays.mono {cs ds : List Int} (hs : ∀ c ∈ cs, c ∈ ds) {n : Nat} {x : Int} (h : Pays cs n x) : Pays ds n x := by
  induction h with
  | zero => exact .zero
  | more hc _ ih => exact .more (hs _ hc) ih

theorem Pays.add {cs : List Int} {n m : Nat} {x y : Int} (h : Pays cs n x) (k : Pays cs m y) : Pays cs (n + m) (x + y) := by
  induction k with
  | zero => simpa using h
  | more hc _ ih => rw [← Int.add_assoc]; exact .more hc ih

theorem Pays.times {cs : List Int} {c : Int} (hc : c ∈ cs) : ∀ k : Nat, Pays cs k (k * c)
  | 0 => by simpa using Pays.zero
  | k + 1 => by
    rw [Int.natCast_add, Int.add_mul]
    have := Pays.more hc (Pays.times hc k)
    simpa using this

theorem pays_zero {cs : List Int} {x : Int} : Pays cs 0 x ↔ x = 0 := by
  constructor
  · intro h
    cases h
    rfl
  · rintro rfl
    exact .zero

theorem pays_succ {cs : List Int} {n : Nat} {x : Int} : Pays cs (n + 1) x ↔ ∃ c ∈ cs, Pays cs n (x - c) := by
  constructor
  · intro h
    cases h with
    | more hc h1 => exact ⟨_, hc, by rw [Int.add_sub_cancel]; exact h1⟩
  · rintro ⟨c, hc, h⟩
    have := Pays.more hc h
    rwa [Int.sub_add_cancel] at this

theorem pays_nil {n : Nat} {x : Int} : Pays [] n x ↔ n = 0 ∧ x = 0 := by
  cases n with
  | zero => rw [pays_zero]; simp
  | succ n => rw [pays_succ]; simp

/-- A coin more: none of it, or one of it and what is left. -/
theorem pays_snoc {P : List Int} {c : Int} {n : Nat} {x : Int} : Pays (P ++ [c]) n x ↔ Pays P n x ∨ ∃ m, n = m + 1 ∧ Pays (P ++ [c]) m (x - c) := by
  constructor
  · intro h
    induction h with
    | zero => exact .inl .zero
    | @more n x d hd h ih =>
      simp only [List.mem_append, List.mem_singleton] at hd
      rcases hd with hd | rfl
      · rcases ih with ih | ⟨m, rfl, ih⟩
        · exact .inl (.more hd ih)
        · refine .inr ⟨m + 1, rfl, ?_⟩
          have := Pays.more (cs := P ++ [c]) (c := d) (by simp [hd]) ih
          rwa [show x - c + d = x + d - c by omega] at this
      · exact .inr ⟨n, rfl, by rw [Int.add_sub_cancel]; exact h⟩
  · rintro (h | ⟨m, rfl, h⟩)
    · exact h.mono (fun _ hc => by simp [hc])
    · exact pays_succ.2 ⟨c, by simp, h⟩

/-- The same, reckoned. -/
def paysB (cs : List Int) : Nat → Int → Bool
  | 0, x => x == 0
  | n + 1, x => cs.any fun c => paysB cs n (x - c)

theorem paysB_iff (cs : List Int) : ∀ (n : Nat) (x : Int), paysB cs n x = true ↔ Pays cs n x
  | 0, x => by rw [pays_zero]; simp [paysB]
  | n + 1, x => by
    rw [pays_succ]
    simp only [paysB, List.any_eq_true]
    exact ⟨fun ⟨c, hc, h⟩ => ⟨c, hc, (paysB_iff cs n _).1 h⟩, fun ⟨c, hc, h⟩ => ⟨c, hc, (paysB_iff cs n _).2 h⟩⟩

/-- The first number from one on at which a test holds; -1 where none of so many does. -/
def firstN (f : Nat → Bool) : Nat → Nat → Int
  | 0, _ => -1
  | k + 1, s => if f s then (s : Int) else firstN f k (s + 1)

theorem firstN_cases (f : Nat → Bool) : ∀ (k s : Nat), (firstN f k s = -1 ∧ ∀ n, s ≤ n → n < s + k → f n = false) ∨ (∃ n, s ≤ n ∧ n < s + k ∧ firstN f k s = (n : Int) ∧ f n = true ∧ ∀ m, s ≤ m → m < n → f m = false)
  | 0, s => .inl ⟨rfl, fun n h1 h2 => by omega⟩
  | k + 1, s => by
    unfold firstN
    cases hf : f s with
    | true => exact .inr ⟨s, Nat.le_refl _, by omega, by simp, hf, fun m h1 h2 => by omega⟩
    | false =>
      simp only [Bool.false_eq_true, if_false]
      rcases firstN_cases f k (s + 1) with ⟨h1, h2⟩ | ⟨n, h1, h2, h3, h4, h5⟩
      · refine .inl ⟨h1, fun n h3 h4 => ?_⟩
        by_cases he : n = s
        · rw [he]; exact hf
        · exact h2 n (by omega) (by omega)
      · refine .inr ⟨n, by omega, by omega, h3, h4, fun m h6 h7 => ?_⟩
        by_cases he : m = s
        · rw [he]; exact hf
        · exact h5 m (by omega) h7

/-- The fewest coins that pay an amount, -1 where none do. -/
def fwV (cs : List Int) (x : Int) : Int := firstN (fun n => paysB cs n x) (x.toNat + 1) 0

theorem fw_cases {cs : List Int} (hp : Pos cs) (x : Int) : (fwV cs x = -1 ∧ ∀ n, ¬ Pays cs n x) ∨ (∃ n : Nat, fwV cs x = (n : Int) ∧ Pays cs n x ∧ ∀ m : Nat, Pays cs m x → n ≤ m) := by
  rcases firstN_cases (fun n => paysB cs n x) (x.toNat + 1) 0 with ⟨h1, h2⟩ | ⟨n, h1, h2, h3, h4, h5⟩
  · refine .inl ⟨h1, fun n hn => ?_⟩
    have h3 := hn.nonneg hp
    have h4 := h2 n (Nat.zero_le _) (by omega)
    have h4' : paysB cs n x = false := h4
    rw [(paysB_iff cs n x).2 hn] at h4'
    cases h4'
  · refine .inr ⟨n, h3, (paysB_iff cs n x).1 h4, fun m hm => ?_⟩
    by_cases hlt : m < n
    · have h6 : paysB cs m x = false := h5 m (Nat.zero_le _) hlt
      rw [(paysB_iff cs m x).2 hm] at h6
      cases h6
    · omega

theorem fw_of {cs : List Int} (hp : Pos cs) {x : Int} {n : Nat} (h : Pays cs n x) (hm : ∀ m : Nat, Pays cs m x → n ≤ m) : fwV cs x = n := by
  rcases fw_cases hp x with ⟨_, h2⟩ | ⟨k, h1, h2, h3⟩
  · exact absurd h (h2 n)
  · have := h3 n h
    have := hm k h2
    rw [h1]
    omega

theorem fw_none {cs : List Int} (hp : Pos cs) {x : Int} (h : ∀ n, ¬ Pays cs n x) : fwV cs x = -1 := by
  rcases fw_cases hp x with ⟨h1, _⟩ | ⟨k, _, h2, _⟩
  · exact h1
  · exact absurd h2 (h k)

theorem fw_le {cs : List Int} (hp : Pos cs) {x : Int} {n : Nat} (h : Pays cs n x) : 0 ≤ fwV cs x ∧ fwV cs x ≤ n := by
  rcases fw_cases hp x with ⟨_, h2⟩ | ⟨k, h1, _, h3⟩
  · exact absurd h (h2 n)
  · have := h3 n h
    rw [h1]
    omega

theorem fw_pays {cs : List Int} (hp : Pos cs) {x : Int} (h : 0 ≤ fwV cs x) : Pays cs (fwV cs x).toNat x := by
  rcases fw_cases hp x with ⟨h1, _⟩ | ⟨k, h1, h2, _⟩
  · omega
  · rw [h1]; exact h2

theorem fw_ge {cs : List Int} (hp : Pos cs) (x : Int) : -1 ≤ fwV cs x := by
  rcases fw_cases hp x with ⟨h1, _⟩ | ⟨k, h1, _, _⟩ <;> omega

theorem fw_lt {cs : List Int} (hp : Pos cs) {x : Int} (h : fwV cs x < 0) : fwV cs x = -1 := by
  have := fw_ge hp x
  omega

theorem fw_bound {cs : List Int} (hp : Pos cs) {x : Int} (h : 0 ≤ fwV cs x) : fwV cs x ≤ x := by
  have := (fw_pays hp h).nonneg hp
  omega

theorem fw_zero {cs : List Int} (hp : Pos cs) : fwV cs 0 = 0 := fw_of hp .zero (fun m _ => Nat.zero_le m)

theorem fw_neg {cs : List Int} (hp : Pos cs) {x : Int} (h : x < 0) : fwV cs x = -1 := fw_none hp (fun n hn => by have := hn.nonneg hp; omega)

theorem fw_eq_zero {cs : List Int} (hp : Pos cs) {x : Int} (h : fwV cs x = 0) : x = 0 := by
  have := fw_pays hp (x := x) (by omega)
  rw [h] at this
  exact pays_zero.1 this

/-! The model's way: the fewest of an amount out of those of less. -/

/-- The best of coins so far: b is -1 as long as none serves, else one more than the least. -/
def Best (cs P : List Int) (x b : Int) : Prop :=
  (b = -1 ∧ ∀ c ∈ P, fwV cs (x - c) < 0) ∨ (0 ≤ b ∧ (∃ c ∈ P, 0 ≤ fwV cs (x - c) ∧ b = fwV cs (x - c) + 1) ∧ ∀ c ∈ P, 0 ≤ fwV cs (x - c) → b ≤ fwV cs (x - c) + 1)

theorem best_nil (cs : List Int) (x : Int) : Best cs [] x (-1) := .inl ⟨rfl, fun c hc => by cases hc⟩

/-- One coin more, which serves, and better. -/
theorem best_take {cs P : List Int} {x b c : Int} (h : Best cs P x b) (h1 : 0 ≤ fwV cs (x - c)) (h2 : b < 0 ∨ fwV cs (x - c) + 1 < b) : Best cs (P ++ [c]) x (fwV cs (x - c) + 1) := by
  refine .inr ⟨by omega, ⟨c, by simp, h1, rfl⟩, fun d hd h3 => ?_⟩
  simp only [List.mem_append, List.mem_singleton] at hd
  rcases hd with hd | rfl
  · rcases h with ⟨_, h4⟩ | ⟨_, _, h4⟩
    · have := h4 d hd; omega
    · have := h4 d hd h3; omega
  · omega

theorem best_keep {cs P : List Int} {x b c : Int} (h : Best cs P x b) (h1 : ¬ (0 ≤ fwV cs (x - c) ∧ (b < 0 ∨ fwV cs (x - c) + 1 < b))) : Best cs (P ++ [c]) x b := by
  rcases h with ⟨h2, h3⟩ | ⟨h2, ⟨d, hd, h4, h5⟩, h6⟩
  · refine .inl ⟨h2, fun d hd => ?_⟩
    simp only [List.mem_append, List.mem_singleton] at hd
    rcases hd with hd | rfl
    · exact h3 d hd
    · omega
  · refine .inr ⟨h2, ⟨d, by simp [hd], h4, h5⟩, fun e he h7 => ?_⟩
    simp only [List.mem_append, List.mem_singleton] at he
    rcases he with he | rfl
    · exact h6 e he h7
    · omega

/-- Coins that are too great don't serve. -/
theorem best_rest {cs P Q : List Int} (hp : Pos cs) {x b : Int} (h : Best cs P x b) (hq : ∀ c ∈ Q, x < c) : Best cs (P ++ Q) x b := by
  rcases h with ⟨h2, h3⟩ | ⟨h2, ⟨d, hd, h4, h5⟩, h6⟩
  · refine .inl ⟨h2, fun d hd => ?_⟩
    simp only [List.mem_append] at hd
    rcases hd with hd | hd
    · exact h3 d hd
    · have := hq d hd
      rw [fw_neg hp (by omega)]; omega
  · refine .inr ⟨h2, ⟨d, by simp [hd], h4, h5⟩, fun e he h7 => ?_⟩
    simp only [List.mem_append] at he
    rcases he with he | he
    · exact h6 e he h7
    · have := hq e he
      rw [fw_neg hp (by omega)] at h7
      omega

theorem best_all {cs : List Int} (hp : Pos cs) {x b : Int} (hx : 1 ≤ x) (h : Best cs cs x b) : fwV cs x = b := by
  rcases h with ⟨h2, h3⟩ | ⟨h2, ⟨d, hd, h4, h5⟩, h6⟩
  · rw [h2]
    refine fw_none hp (fun n hn => ?_)
    cases n with
    | zero => have := pays_zero.1 hn; omega
    | succ n =>
      obtain ⟨c, hc, h7⟩ := pays_succ.1 hn
      have := h3 c hc
      have := (fw_le hp h7).1
      omega
  · have h8 := fw_pays hp h4
    have h9 : Pays cs ((fwV cs (x - d)).toNat + 1) x := pays_succ.2 ⟨d, hd, h8⟩
    rw [fw_of hp h9]
    · omega
    · intro m hm
      cases m with
      | zero => have := pays_zero.1 hm; omega
      | succ m =>
        obtain ⟨c, hc, h7⟩ := pays_succ.1 hm
        have h10 := fw_le hp h7
        have := h6 c hc h10.1
        omega

/-! The program's way: coin by coin. -/

/-- The fewest, 1921 where none do. -/
def fuV (cs : List Int) (x : Int) : Int := if fwV cs x < 0 then 1921 else fwV cs x

theorem fu_nil (x : Int) : fuV [] x = if x = 0 then 0 else 1921 := by
  have hp : Pos [] := fun c hc => by cases hc
  unfold fuV
  by_cases h : x = 0
  · subst h
    rw [fw_zero hp]
    simp
  · rw [fw_none hp (fun n hn => h (pays_nil.1 hn).2)]
    simp [h]

theorem fu_bounds {cs : List Int} (hp : Pos cs) {x : Int} (h0 : 0 ≤ x) (h : x ≤ 1920) : 0 ≤ fuV cs x ∧ fuV cs x ≤ 1921 ∧ (0 ≤ fwV cs x → fuV cs x ≤ x) := by
  unfold fuV
  split
  · omega
  · have := fw_bound hp (x := x) (by omega)
    omega

theorem fu_unpaid {cs : List Int} (hp : Pos cs) {x : Int} (h : x ≤ 1920) : fuV cs x = 1921 ↔ fwV cs x < 0 := by
  unfold fuV
  split
  · simp [*]
  · have := fw_bound hp (x := x) (by omega)
    omega

theorem Pos.left {P Q : List Int} (h : Pos (P ++ Q)) : Pos P := fun c hc => h c (by simp [hc])

theorem fw_snoc_less {P : List Int} {c x : Int} (hp : Pos (P ++ [c])) (h : x < c) : fwV (P ++ [c]) x = fwV P x := by
  rcases fw_cases hp.left x with ⟨h1, h2⟩ | ⟨n, h1, h2, h3⟩
  · rw [h1]
    refine fw_none hp (fun n hn => ?_)
    rcases pays_snoc.1 hn with hn | ⟨m, _, hm⟩
    · exact h2 n hn
    · have := hm.nonneg hp; omega
  · rw [h1]
    refine fw_of hp (pays_snoc.2 (.inl h2)) (fun m hm => ?_)
    rcases pays_snoc.1 hm with hm | ⟨m, _, hm⟩
    · exact h3 _ hm
    · have := hm.nonneg hp; omega

theorem fu_snoc_less {P : List Int} {c x : Int} (hp : Pos (P ++ [c])) (h : x < c) : fuV (P ++ [c]) x = fuV P x := by
  unfold fuV
  rw [fw_snoc_less hp h]

theorem fu_snoc {P : List Int} {c x : Int} (hp : Pos (P ++ [c])) (_h : c ≤ x) (hx : x ≤ 1920) : fuV (P ++ [c]) x = min (fuV P x) (fuV (P ++ [c]) (x - c) + 1) := by
  have hc := hp c (by simp)
  rcases fw_cases hp x with ⟨h1, h2⟩ | ⟨n, h1, h2, h3⟩
  · have e1 : fwV P x = -1 := fw_none hp.left (fun n hn => h2 n (pays_snoc.2 (.inl hn)))
    have e2 : fwV (P ++ [c]) (x - c) = -1 := fw_none hp (fun n hn => h2 (n + 1) (pays_snoc.2 (.inr ⟨n, rfl, hn⟩)))
    unfold fuV
    rw [h1, e1, e2]
    simp
    omega
  · have b := h2.nonneg hp
    have e0 : fuV (P ++ [c]) x = n := by unfold fuV; rw [h1]; split <;> omega
    rw [e0]
    have l1 : (n : Int) ≤ fuV P x := by
      unfold fuV
      split
      · omega
      · have := fw_pays hp.left (x := x) (by omega)
        have := h3 _ (pays_snoc.2 (.inl this))
        omega
    have l2 : (n : Int) ≤ fuV (P ++ [c]) (x - c) + 1 := by
      unfold fuV
      split
      · omega
      · have := fw_pays hp (x := x - c) (by omega)
        have := h3 _ (pays_snoc.2 (.inr ⟨_, rfl, this⟩))
        omega
    rcases pays_snoc.1 h2 with h4 | ⟨m, rfl, h4⟩
    · have := fw_le hp.left h4
      have : fuV P x ≤ n := by unfold fuV; split <;> omega
      omega
    · have := fw_le hp h4
      have : fuV (P ++ [c]) (x - c) ≤ m := by unfold fuV; split <;> omega
      omega

/-! Can an amount be paid. -/

def pyB (cs : List Int) (x : Int) : Bool := decide (0 ≤ fwV cs x)

theorem pyB_iff {cs : List Int} (hp : Pos cs) {x : Int} : pyB cs x = true ↔ ∃ n, Pays cs n x := by
  unfold pyB
  rw [decide_eq_true_iff]
  exact ⟨fun h => ⟨_, fw_pays hp h⟩, fun ⟨n, h⟩ => (fw_le hp h).1⟩

theorem py_nil (x : Int) : pyB [] x = decide (x = 0) := by
  have hp : Pos [] := fun c hc => by cases hc
  by_cases h : x = 0
  · subst h
    rw [(pyB_iff hp).2 ⟨0, .zero⟩]
    simp
  · have : pyB [] x ≠ true := fun hc => by
      obtain ⟨n, hn⟩ := (pyB_iff hp).1 hc
      exact h (pays_nil.1 hn).2
    rw [Bool.eq_false_iff.2 this]
    simp [h]

theorem py_snoc_less {P : List Int} {c x : Int} (hp : Pos (P ++ [c])) (h : x < c) : pyB (P ++ [c]) x = pyB P x := by
  unfold pyB
  rw [fw_snoc_less hp h]

theorem py_snoc {P : List Int} {c x : Int} (hp : Pos (P ++ [c])) : pyB (P ++ [c]) x = (pyB P x || pyB (P ++ [c]) (x - c)) := by
  rw [Bool.eq_iff_iff, Bool.or_eq_true, pyB_iff hp, pyB_iff hp.left, pyB_iff hp]
  constructor
  · rintro ⟨n, hn⟩
    rcases pays_snoc.1 hn with hn | ⟨m, _, hm⟩
    · exact .inl ⟨n, hn⟩
    · exact .inr ⟨m, hm⟩
  · rintro (⟨n, hn⟩ | ⟨n, hn⟩)
    · exact ⟨n, pays_snoc.2 (.inl hn)⟩
    · exact ⟨n + 1, pays_snoc.2 (.inr ⟨n, rfl, hn⟩)⟩

/-! In how many ways. -/

/-- One coin more: x with none of it, with one of it, and so on. -/
def addW (c : Int) (f : Int → Int) : Nat → Int → Int
  | 0, x => f x
  | k + 1, x => if x < c then f x else f x + addW c f k (x - c)

theorem addW_fuel (c : Int) (hc : 1 ≤ c) (f : Int → Int) : ∀ (k m : Nat) (x : Int), x.toNat ≤ k → x.toNat ≤ m → addW c f k x = addW c f m x
  | 0, m, x, h1, h2 => by
    cases m with
    | zero => rfl
    | succ m => unfold addW; rw [if_pos (by omega)]
  | k + 1, 0, x, h1, h2 => by
    unfold addW
    rw [if_pos (by omega)]
  | k + 1, m + 1, x, h1, h2 => by
    unfold addW
    split
    · rfl
    · rw [addW_fuel c hc f k m (x - c) (by omega) (by omega)]

/-- In how many ways coins, the last one first, pay an amount. -/
def wyR : List Int → Int → Int
  | [], x => if x = 0 then 1 else 0
  | c :: R, x => addW c (wyR R) x.toNat x

/-- In how many ways coins pay an amount. -/
def wyV (cs : List Int) (x : Int) : Int := wyR cs.reverse x

theorem wy_nil (x : Int) : wyV [] x = if x = 0 then 1 else 0 := rfl

theorem wy_snoc_less {P : List Int} {c x : Int} (h : x < c) (hc : 1 ≤ c) : wyV (P ++ [c]) x = wyV P x := by
  unfold wyV
  rw [List.reverse_append]
  show addW c (wyR P.reverse) x.toNat x = _
  rw [addW_fuel c hc _ x.toNat (x.toNat + 1) x (by omega) (by omega), addW, if_pos h]

theorem wy_snoc {P : List Int} {c x : Int} (h : c ≤ x) (hc : 1 ≤ c) : wyV (P ++ [c]) x = wyV P x + wyV (P ++ [c]) (x - c) := by
  unfold wyV
  rw [List.reverse_append]
  show addW c (wyR P.reverse) x.toNat x = _ + addW c (wyR P.reverse) (x - c).toNat (x - c)
  rw [addW_fuel c hc _ x.toNat (x.toNat + 1) x (by omega) (by omega), addW, if_neg (by omega), addW_fuel c hc _ x.toNat (x - c).toNat (x - c) (by omega) (by omega)]

theorem addW_nonneg (c : Int) (f : Int → Int) (hf : ∀ x, 0 ≤ f x) : ∀ (k : Nat) (x : Int), 0 ≤ addW c f k x
  | 0, x => hf x
  | k + 1, x => by
    unfold addW
    have := hf x
    have := addW_nonneg c f hf k (x - c)
    split <;> omega

theorem wyR_nonneg : ∀ (R : List Int) (x : Int), 0 ≤ wyR R x
  | [], x => by unfold wyR; split <;> omega
  | c :: R, x => addW_nonneg c _ (wyR_nonneg R) _ x

theorem wy_nonneg (cs : List Int) (x : Int) : 0 ≤ wyV cs x := wyR_nonneg _ _

theorem addW_le (c : Int) (hc : 1 ≤ c) (f : Int → Int) (B : Int) (hB : 0 ≤ B) (hf : ∀ x, x ≤ 120 → f x ≤ B) : ∀ (k : Nat) (x : Int), x ≤ 120 → addW c f k x ≤ (k + 1) * B
  | 0, x, h => by simpa [addW] using hf x h
  | k + 1, x, h => by
    unfold addW
    have h1 := hf x h
    have h2 := addW_le c hc f B hB hf k (x - c) (by omega)
    have e : ((k + 1 : Nat) : Int) + 1 = (k : Int) + 1 + 1 := by omega
    rw [e, Int.add_mul _ 1 B]
    have h3 : 0 ≤ ((k : Int) + 1) * B := Int.mul_nonneg (by omega) hB
    split <;> omega

theorem wyR_le : ∀ (R : List Int) (_ : ∀ c ∈ R, 1 ≤ c) (x : Int), x ≤ 120 → wyR R x ≤ 121 ^ R.length
  | [], _, x, _ => by unfold wyR; split <;> simp
  | c :: R, hp, x, h => by
    have ih := wyR_le R (fun d hd => hp d (by simp [hd]))
    have hB : (0 : Int) ≤ 121 ^ R.length := by
      have : (0 : Int) < 121 ^ R.length := Int.pow_pos (by omega)
      omega
    have h1 := addW_le c (hp c (by simp)) (wyR R) (121 ^ R.length) hB ih x.toNat x h
    have h2 : ((x.toNat : Int) + 1) * 121 ^ R.length ≤ 121 * 121 ^ R.length := Int.mul_le_mul_of_nonneg_right (by omega) hB
    show addW c (wyR R) x.toNat x ≤ 121 ^ (R.length + 1)
    rw [Int.pow_succ, Int.mul_comm _ 121]
    omega

theorem wy_le {cs : List Int} (hp : Pos cs) (hl : cs.length ≤ 5) {x : Int} (h : x ≤ 120) : wyV cs x ≤ 25937424601 := by
  have h1 := wyR_le cs.reverse (fun c hc => hp c (by simpa using hc)) x h
  rw [List.length_reverse] at h1
  have h2 : (121 : Int) ^ cs.length ≤ 121 ^ 5 := by
    rcases (show cs.length = 0 ∨ cs.length = 1 ∨ cs.length = 2 ∨ cs.length = 3 ∨ cs.length = 4 ∨ cs.length = 5 by omega) with e | e | e | e | e | e <;> rw [e] <;> decide
  have h3 : (121 : Int) ^ 5 = 25937424601 := by decide
  unfold wyV
  omega

theorem snoc_ind {p : List Int → Prop} (h0 : p []) (h1 : ∀ P c, p P → p (P ++ [c])) (l : List Int) : p l := by
  have h : ∀ r : List Int, p r.reverse := by
    intro r
    induction r with
    | nil => exact h0
    | cons a r ih => rw [List.reverse_cons]; exact h1 _ _ ih
  have := h l.reverse
  rwa [List.reverse_reverse] at this

/-- There are ways exactly if some coins pay. -/
theorem wy_pos (cs : List Int) : Pos cs → ∀ (n : Nat) (x : Int), x.toNat ≤ n → (0 < wyV cs x ↔ ∃ k, Pays cs k x) := by
  refine snoc_ind (p := fun cs => Pos cs → ∀ (n : Nat) (x : Int), x.toNat ≤ n → (0 < wyV cs x ↔ ∃ k, Pays cs k x)) ?_ ?_ cs
  · intro _ n x _
    rw [wy_nil]
    constructor
    · intro h
      by_cases h0 : x = 0
      · exact ⟨0, by rw [h0]; exact .zero⟩
      · rw [if_neg h0] at h; omega
    · rintro ⟨k, hk⟩
      rw [if_pos (pays_nil.1 hk).2]; omega
  · intro P c ih hp n
    have hc := hp c (by simp)
    induction n with
    | zero =>
      intro x hx
      rw [wy_snoc_less (by omega) hc, ih hp.left 0 x hx]
      constructor
      · rintro ⟨k, hk⟩; exact ⟨k, pays_snoc.2 (.inl hk)⟩
      · rintro ⟨k, hk⟩
        rcases pays_snoc.1 hk with hk | ⟨m, _, hk⟩
        · exact ⟨k, hk⟩
        · have := hk.nonneg hp; omega
    | succ n ih2 =>
      intro x hx
      by_cases hlt : x < c
      · rw [wy_snoc_less hlt hc, ih hp.left (n + 1) x hx]
        constructor
        · rintro ⟨k, hk⟩; exact ⟨k, pays_snoc.2 (.inl hk)⟩
        · rintro ⟨k, hk⟩
          rcases pays_snoc.1 hk with hk | ⟨m, _, hk⟩
          · exact ⟨k, hk⟩
          · have := hk.nonneg hp; omega
      · rw [wy_snoc (by omega) hc]
        have h1 := wy_nonneg P x
        have h2 := wy_nonneg (P ++ [c]) (x - c)
        have h3 := ih hp.left (n + 1) x hx
        have h4 := ih2 (x - c) (by omega)
        constructor
        · intro h
          by_cases h5 : 0 < wyV P x
          · obtain ⟨k, hk⟩ := h3.1 h5
            exact ⟨k, pays_snoc.2 (.inl hk)⟩
          · obtain ⟨k, hk⟩ := h4.1 (by omega)
            exact ⟨k + 1, pays_snoc.2 (.inr ⟨k, rfl, hk⟩)⟩
        · rintro ⟨k, hk⟩
          rcases pays_snoc.1 hk with hk | ⟨m, _, hk⟩
          · have := h3.2 ⟨k, hk⟩; omega
          · have := h4.2 ⟨m, hk⟩; omega

theorem wy_pos_iff {cs : List Int} (hp : Pos cs) {x : Int} : 0 < wyV cs x ↔ 0 ≤ fwV cs x := by
  rw [wy_pos cs hp _ x (Nat.le_refl _)]
  exact ⟨fun ⟨_, h⟩ => (fw_le hp h).1, fun h => ⟨_, fw_pays hp h⟩⟩

end Go.Proofs.YtpenbkfchgeafaaGreatDoor

namespace Go.Proofs.YtpenbkfchgeafaaGreatDoor

/-- The value of so many of each coin. -/
def dotL : List Int → List Int → Int
  | c :: cs, k :: ks => c * k + dotL cs ks
  | _, _ => 0

theorem dotL_snoc : ∀ (P K : List Int) (c k : Int), P.length = K.length → dotL (P ++ [c]) (K ++ [k]) = dotL P K + c * k
  | [], [], c, k, _ => by simp [dotL]
  | p :: P, j :: K, c, k, h => by
    have := dotL_snoc P K c k (by simpa using h)
    simp only [List.cons_append, dotL]
    omega

theorem sum_snoc (K : List Int) (k : Int) : (K ++ [k]).sum = K.sum + k := by simp

theorem sum_nonneg : ∀ (K : List Int), (∀ k ∈ K, 0 ≤ k) → 0 ≤ K.sum
  | [], _ => by simp
  | k :: K, h => by
    have h1 := sum_nonneg K (fun j hj => h j (by simp [hj]))
    have h2 := h k (by simp)
    rw [List.sum_cons]
    omega

/-- So many of each coin pay their value. -/
theorem pays_counts {ds : List Int} : ∀ (cs ks : List Int), (∀ c ∈ cs, c ∈ ds) → cs.length = ks.length → (∀ k ∈ ks, 0 ≤ k) → Pays ds ks.sum.toNat (dotL cs ks)
  | [], [], _, _, _ => by simpa [dotL] using Pays.zero
  | c :: cs, k :: ks, hs, hl, hk => by
    have h1 := pays_counts cs ks (fun d hd => hs d (by simp [hd])) (by simpa using hl) (fun j hj => hk j (by simp [hj]))
    have h2 := Pays.times (hs c (by simp)) k.toNat
    have hk0 := hk k (by simp)
    have h4 := sum_nonneg ks (fun j hj => hk j (by simp [hj]))
    have h3 := h2.add h1
    rw [List.sum_cons, show (k + ks.sum).toNat = k.toNat + ks.sum.toNat by omega]
    show Pays ds _ (c * k + dotL cs ks)
    rw [show ((k.toNat : Nat) : Int) = k by omega, Int.mul_comm] at h3
    exact h3

/-- One of them less. -/
theorem pays_less {ds : List Int} : ∀ (cs ks : List Int) (i : Nat), (∀ c ∈ cs, c ∈ ds) → cs.length = ks.length → (∀ k ∈ ks, 0 ≤ k) → i < ks.length → 1 ≤ ks.getD i 0 → Pays ds (ks.sum.toNat - 1) (dotL cs ks - cs.getD i 0)
  | [], [], i, _, _, _, hi, _ => by simp at hi
  | c :: cs, k :: ks, 0, hs, hl, hk, _, h1 => by
    have h2 := pays_counts cs ks (fun d hd => hs d (by simp [hd])) (by simpa using hl) (fun j hj => hk j (by simp [hj]))
    have h3 := Pays.times (hs c (by simp)) (k - 1).toNat
    have hk0 : 1 ≤ k := by simpa using h1
    have h4 := sum_nonneg ks (fun j hj => hk j (by simp [hj]))
    have h5 := h3.add h2
    rw [List.sum_cons, show (k + ks.sum).toNat - 1 = (k - 1).toNat + ks.sum.toNat by omega]
    show Pays ds _ (c * k + dotL cs ks - c)
    rw [show (((k - 1).toNat : Nat) : Int) = k - 1 by omega, Int.mul_comm, Int.mul_sub, Int.mul_one, show c * k - c + dotL cs ks = c * k + dotL cs ks - c by omega] at h5
    exact h5
  | c :: cs, k :: ks, i + 1, hs, hl, hk, hi, h1 => by
    have h2 := pays_less cs ks i (fun d hd => hs d (by simp [hd])) (by simpa using hl) (fun j hj => hk j (by simp [hj])) (by simpa using hi) (by simpa using h1)
    have h3 := Pays.times (hs c (by simp)) k.toNat
    have hk0 := hk k (by simp)
    have h4 := sum_nonneg ks (fun j hj => hk j (by simp [hj]))
    have h7 : 1 ≤ ks.sum := by
      have : ∀ (ks : List Int) (i : Nat), (∀ k ∈ ks, 0 ≤ k) → 1 ≤ ks.getD i 0 → 1 ≤ ks.sum := by
        intro ks
        induction ks with
        | nil => intro i _ h; simp at h
        | cons a l ih =>
          intro i hp h
          have ha := hp a (by simp)
          have hl0 := sum_nonneg l (fun j hj => hp j (by simp [hj]))
          rw [List.sum_cons]
          cases i with
          | zero => have : 1 ≤ a := by simpa using h
                    omega
          | succ i => have := ih i (fun j hj => hp j (by simp [hj])) (by simpa using h); omega
      exact this ks i (fun j hj => hk j (by simp [hj])) (by simpa using h1)
    have h5 := h3.add h2
    rw [List.sum_cons, show (k + ks.sum).toNat - 1 = k.toNat + (ks.sum.toNat - 1) by omega]
    show Pays ds _ (c * k + dotL cs ks - cs.getD i 0)
    rw [show ((k.toNat : Nat) : Int) = k by omega, Int.mul_comm, show c * k + (dotL cs ks - cs.getD i 0) = c * k + dotL cs ks - cs.getD i 0 by omega] at h5
    exact h5

/-! How many of each coin in the fewest. -/

/-- How many of a coin are taken. -/
def takeN (cs : List Int) (c : Int) : Nat → Int → Nat
  | 0, _ => 0
  | f + 1, x => if c ≤ x ∧ fwV cs (x - c) = fwV cs x - 1 then takeN cs c f (x - c) + 1 else 0

theorem takeN_fuel (cs : List Int) {c : Int} (hc : 1 ≤ c) : ∀ (f g : Nat) (x : Int), x.toNat ≤ f → x.toNat ≤ g → takeN cs c f x = takeN cs c g x
  | 0, 0, x, _, _ => rfl
  | 0, g + 1, x, h1, _ => by unfold takeN; rw [if_neg (by omega)]
  | f + 1, 0, x, _, h2 => by unfold takeN; rw [if_neg (by omega)]
  | f + 1, g + 1, x, h1, h2 => by
    unfold takeN
    split
    · rw [takeN_fuel cs hc f g (x - c) (by omega) (by omega)]
    · rfl

/-- All that are taken. -/
def takeC (cs : List Int) (c x : Int) : Nat := takeN cs c x.toNat x

theorem takeC_more {cs : List Int} {c x : Int} (hc : 1 ≤ c) (h1 : c ≤ x) (h2 : fwV cs (x - c) = fwV cs x - 1) : takeC cs c x = takeC cs c (x - c) + 1 := by
  unfold takeC
  rw [takeN_fuel cs hc x.toNat (x.toNat + 1) x (by omega) (by omega), takeN, if_pos ⟨h1, h2⟩, takeN_fuel cs hc x.toNat (x - c).toNat (x - c) (by omega) (by omega)]

theorem takeC_end {cs : List Int} {c x : Int} (hc : 1 ≤ c) (h : ¬ (c ≤ x ∧ fwV cs (x - c) = fwV cs x - 1)) : takeC cs c x = 0 := by
  unfold takeC
  rw [takeN_fuel cs hc x.toNat (x.toNat + 1) x (by omega) (by omega), takeN, if_neg h]

/-- How many of each coin, the greatest first taken. -/
def cntR (cs : List Int) : List Int → Int → List Int
  | [], _ => []
  | c :: R, x => cntR cs R (x - takeC cs c x * c) ++ [((takeC cs c x : Nat) : Int)]

theorem cntR_len (cs : List Int) : ∀ (R : List Int) (x : Int), (cntR cs R x).length = R.length
  | [], _ => rfl
  | c :: R, x => by simp [cntR, cntR_len cs R]

theorem cntR_nonneg (cs : List Int) : ∀ (R : List Int) (x : Int), ∀ k ∈ cntR cs R x, 0 ≤ k
  | [], _, k, h => by simp [cntR] at h
  | c :: R, x, k, h => by
    simp only [cntR, List.mem_append, List.mem_singleton] at h
    rcases h with h | rfl
    · exact cntR_nonneg cs R _ k h
    · omega

/-- How many of each coin in the fewest. -/
def fcL (cs : List Int) (x : Int) : List Int := cntR cs cs.reverse x

theorem fcL_len (cs : List Int) (x : Int) : (fcL cs x).length = cs.length := by unfold fcL; rw [cntR_len, List.length_reverse]

theorem take_facts {cs : List Int} (hp : Pos cs) {c : Int} (hc : c ∈ cs) : ∀ (n : Nat) (x : Int), x.toNat ≤ n → 0 ≤ fwV cs x →
    fwV cs (x - takeC cs c x * c) = fwV cs x - takeC cs c x ∧ 0 ≤ fwV cs (x - takeC cs c x * c) ∧ ¬ (c ≤ x - takeC cs c x * c ∧ fwV cs (x - takeC cs c x * c - c) = fwV cs (x - takeC cs c x * c) - 1)
  | 0, x, hn, h0 => by
    have h1 := hp c hc
    have e := takeC_end (cs := cs) (x := x) h1 (by omega)
    rw [e]
    simp only [Int.natCast_zero, Int.zero_mul, Int.sub_zero]
    exact ⟨trivial, h0, fun h => by omega⟩
  | n + 1, x, hn, h0 => by
    have h1 := hp c hc
    by_cases h : c ≤ x ∧ fwV cs (x - c) = fwV cs x - 1
    · rw [takeC_more h1 h.1 h.2]
      have hx : fwV cs x ≠ 0 := fun e => by have := fw_eq_zero hp e; omega
      have ih := take_facts hp hc n (x - c) (by omega) (by omega)
      have e : x - ((takeC cs c (x - c) + 1 : Nat) : Int) * c = x - c - takeC cs c (x - c) * c := by
        rw [Int.natCast_add, Int.add_mul]; omega
      rw [e]
      exact ⟨by rw [ih.1, h.2]; omega, ih.2.1, ih.2.2⟩
    · have e := takeC_end (cs := cs) (x := x) h1 h
      rw [e]
      simp only [Int.natCast_zero, Int.zero_mul, Int.sub_zero]
      exact ⟨trivial, h0, h⟩

/-- What is taken first among the fewest stays so. -/
theorem pick_back {cs : List Int} (hp : Pos cs) {c d x : Int} {k : Nat} (hc : c ∈ cs) (hd : d ∈ cs) (h1 : fwV cs (x - k * c) = fwV cs x - k) (h2 : 0 ≤ fwV cs (x - k * c)) (h3 : d ≤ x - k * c ∧ fwV cs (x - k * c - d) = fwV cs (x - k * c) - 1) :
    d ≤ x ∧ fwV cs (x - d) = fwV cs x - 1 := by
  have hc1 := hp c hc
  have hd1 := hp d hd
  have hkc : 0 ≤ (k : Int) * c := Int.mul_nonneg (by omega) (by omega)
  have hx : fwV cs (x - k * c) ≠ 0 := fun e => by have := fw_eq_zero hp e; omega
  have p1 := fw_pays hp (x := x - k * c - d) (by omega)
  have p2 := p1.add (Pays.times hc k)
  have l1 := fw_le hp p2
  have e : x - k * c - d + k * c = x - d := by omega
  rw [e] at l1
  have p3 := fw_pays hp l1.1
  have p4 := pays_succ.2 ⟨d, hd, p3⟩
  have l2 := fw_le hp p4
  exact ⟨by omega, by omega⟩

theorem cnt_facts {cs : List Int} (hp : Pos cs) : ∀ (R : List Int) (x : Int), (∀ c ∈ R, c ∈ cs) → 0 ≤ fwV cs x → (∀ d ∈ cs, d ∉ R → ¬ (d ≤ x ∧ fwV cs (x - d) = fwV cs x - 1)) →
    (cntR cs R x).sum = fwV cs x ∧ dotL R.reverse (cntR cs R x) = x
  | [], x, _, h0, h => by
    have hx : fwV cs x = 0 := by
      by_cases hz : fwV cs x = 0
      · exact hz
      · exfalso
        obtain ⟨m, hm⟩ : ∃ m, (fwV cs x).toNat = m + 1 := ⟨(fwV cs x).toNat - 1, by omega⟩
        have p := fw_pays hp h0
        rw [hm] at p
        obtain ⟨d, hd, hq⟩ := pays_succ.1 p
        have l := fw_le hp hq
        have u := hq.nonneg hp
        have p3 := pays_succ.2 ⟨d, hd, fw_pays hp l.1⟩
        have l2 := fw_le hp p3
        exact h d hd (by simp) ⟨by omega, by omega⟩
    have := fw_eq_zero hp hx
    subst this
    rw [hx]
    exact ⟨rfl, rfl⟩
  | c :: R, x, hs, h0, h => by
    have hc := hs c (by simp)
    obtain ⟨t1, t2, t3⟩ := take_facts hp hc _ x (Nat.le_refl _) h0
    have ih := cnt_facts hp R (x - takeC cs c x * c) (fun d hd => hs d (by simp [hd])) t2 (fun d hd hn hk => by
      by_cases hdc : d = c
      · subst hdc; exact t3 hk
      · exact h d hd (by simp [hdc, hn]) (pick_back hp hc hd t1 t2 hk))
    unfold cntR
    rw [sum_snoc, List.reverse_cons, dotL_snoc _ _ _ _ (by rw [cntR_len, List.length_reverse]), ih.1, ih.2, t1]
    refine ⟨by omega, ?_⟩
    rw [Int.mul_comm]
    omega

/-- The fewest coins pay the amount, so many. -/
theorem fcL_facts {cs : List Int} (hp : Pos cs) {x : Int} (h : 0 ≤ fwV cs x) : (fcL cs x).sum = fwV cs x ∧ dotL cs (fcL cs x) = x := by
  have := cnt_facts hp cs.reverse x (fun c hc => by simpa using hc) h (fun d hd hn => absurd (by simpa using hd) hn)
  rw [List.reverse_reverse] at this
  exact this

theorem fcL_nonneg (cs : List Int) (x : Int) : ∀ k ∈ fcL cs x, 0 ≤ k := cntR_nonneg cs _ x

/-- Of a coin that is among them one less is the fewest for what is left. -/
theorem fcL_less {cs : List Int} (hp : Pos cs) {x : Int} (h : 0 ≤ fwV cs x) {i : Nat} (hi : i < cs.length) (h1 : 1 ≤ (fcL cs x).getD i 0) : fwV cs (x - cs.getD i 0) = fwV cs x - 1 := by
  obtain ⟨e1, e2⟩ := fcL_facts hp h
  have p := pays_less (ds := cs) cs (fcL cs x) i (fun _ hc => hc) (fcL_len cs x).symm (fcL_nonneg cs x) (by rw [fcL_len]; exact hi) h1
  rw [e1, e2] at p
  have l := fw_le hp p
  have hm : cs.getD i 0 ∈ cs := by
    have : cs.getD i 0 = cs[i] := by simp [List.getD, hi]
    rw [this]; exact List.getElem_mem hi
  have p2 := pays_succ.2 ⟨_, hm, fw_pays hp l.1⟩
  have l2 := fw_le hp p2
  have hx : fwV cs x ≠ 0 := fun e => by
    have h0 := fw_eq_zero hp e
    have u := p.nonneg hp
    have := hp _ hm
    omega
  omega

/-! The greedy way. -/

def grR : List Int → Int → List Int
  | [], _ => []
  | c :: R, x => grR R (x % c) ++ [x / c]

theorem grR_len : ∀ (R : List Int) (x : Int), (grR R x).length = R.length
  | [], _ => rfl
  | c :: R, x => by simp [grR, grR_len R]

/-- How many of each coin the greedy way takes. -/
def grL (cs : List Int) (x : Int) : List Int := grR cs.reverse x

theorem grL_len (cs : List Int) (x : Int) : (grL cs x).length = cs.length := by unfold grL; rw [grR_len, List.length_reverse]

theorem grR_nonneg : ∀ (R : List Int), (∀ c ∈ R, 1 ≤ c) → ∀ (x : Int), 0 ≤ x → ∀ k ∈ grR R x, 0 ≤ k
  | [], _, x, _, k, h => by simp [grR] at h
  | c :: R, hp, x, hx, k, h => by
    have hc := hp c (by simp)
    simp only [grR, List.mem_append, List.mem_singleton] at h
    rcases h with h | rfl
    · exact grR_nonneg R (fun d hd => hp d (by simp [hd])) _ (Int.emod_nonneg _ (by omega)) k h
    · exact Int.ediv_nonneg hx (by omega)

theorem grR_dot : ∀ (R : List Int), R.getLast? = some 1 → ∀ (x : Int), dotL R.reverse (grR R x) = x
  | [], h, _ => by simp at h
  | [c], h, x => by
    have : c = 1 := by simpa using h
    subst this
    simp [grR, dotL]
  | c :: d :: R, h, x => by
    have ih := grR_dot (d :: R) (by simpa using h) (x % c)
    show dotL (c :: d :: R).reverse (grR (d :: R) (x % c) ++ [x / c]) = x
    rw [List.reverse_cons, dotL_snoc _ _ _ _ (by rw [grR_len, List.length_reverse]), ih]
    have := Int.mul_ediv_add_emod x c
    omega

/-- So many coins the greedy way takes. -/
def gsV (cs : List Int) (x : Int) : Int := (grL cs x).sum

theorem grL_dot {cs : List Int} (h1 : cs.head? = some 1) (x : Int) : dotL cs (grL cs x) = x := by
  have := grR_dot cs.reverse (by rw [List.getLast?_reverse]; exact h1) x
  rw [List.reverse_reverse] at this
  exact this

theorem grL_nonneg {cs : List Int} (hp : Pos cs) {x : Int} (hx : 0 ≤ x) : ∀ k ∈ grL cs x, 0 ≤ k := grR_nonneg _ (fun c hc => hp c (by simpa using hc)) x hx

theorem gs_pays {cs : List Int} (hp : Pos cs) (h1 : cs.head? = some 1) {x : Int} (hx : 0 ≤ x) : 0 ≤ gsV cs x ∧ Pays cs (gsV cs x).toNat x := by
  have h := pays_counts (ds := cs) cs (grL cs x) (fun _ hc => hc) (grL_len cs x).symm (grL_nonneg hp hx)
  rw [grL_dot h1] at h
  exact ⟨sum_nonneg _ (grL_nonneg hp hx), h⟩

theorem gs_ge {cs : List Int} (hp : Pos cs) (h1 : cs.head? = some 1) {x : Int} (hx : 0 ≤ x) : 0 ≤ fwV cs x ∧ fwV cs x ≤ gsV cs x := by
  have h := gs_pays hp h1 hx
  have := fw_le hp h.2
  omega

theorem gs_step {P : List Int} {c x : Int} (hc : 1 ≤ c) : gsV (P ++ [c]) x = 1 + gsV (P ++ [c]) (x - c) := by
  unfold gsV grL
  rw [List.reverse_append]
  show (grR P.reverse (x % c) ++ [x / c]).sum = 1 + (grR P.reverse ((x - c) % c) ++ [(x - c) / c]).sum
  rw [sum_snoc, sum_snoc, Int.sub_emod_right, show (x - c) / c = x / c - 1 by
    rw [show x - c = x + (-1) * c by omega, Int.add_mul_ediv_right _ _ (by omega)]; omega]
  omega

/-- Where the greedy way fails it fails below the sum of the two greatest coins. -/
theorem greedy_all {P : List Int} {p q : Int} (hp : Pos (P ++ [p] ++ [q])) (h1 : (P ++ [p] ++ [q]).head? = some 1) (hle : ∀ c ∈ P ++ [p], c ≤ p)
    (H : ∀ x, 0 ≤ x → x < p + q → gsV (P ++ [p] ++ [q]) x = fwV (P ++ [p] ++ [q]) x) : ∀ (n : Nat) (x : Int), x.toNat ≤ n → 0 ≤ x → gsV (P ++ [p] ++ [q]) x = fwV (P ++ [p] ++ [q]) x := by
  generalize hcs : P ++ [p] ++ [q] = cs at *
  have hq : 1 ≤ q := hp q (by rw [← hcs]; simp)
  have hqm : q ∈ cs := by rw [← hcs]; simp
  have hp1 : 1 ≤ p := hp p (by rw [← hcs]; simp)
  have st : ∀ x, gsV cs x = 1 + gsV cs (x - q) := fun x => by rw [← hcs]; exact gs_step hq
  intro n
  induction n with
  | zero => intro x h h0; exact H x h0 (by omega)
  | succ n ih =>
    intro x hn h0
    by_cases hlt : x < p + q
    · exact H x h0 hlt
    have g0 := gs_ge hp h1 h0
    have i1 := ih (x - q) (by omega) (by omega)
    have e1 := st x
    have f1 := fw_eq_zero hp (x := x)
    have hx : fwV cs x ≠ 0 := fun e => by have := f1 e; omega
    obtain ⟨m, hm⟩ : ∃ m, (fwV cs x).toNat = m + 1 := ⟨(fwV cs x).toNat - 1, by omega⟩
    have pp := fw_pays hp g0.1
    rw [hm] at pp
    obtain ⟨d, hd, hdp⟩ := pays_succ.1 pp
    have l1 := fw_le hp hdp
    by_cases hdq : d = q
    · subst hdq
      omega
    · have hd2 : d ≤ p := by
        refine hle d ?_
        rw [← hcs] at hd
        simp only [List.mem_append, List.mem_singleton] at hd ⊢
        rcases hd with hd | hd
        · exact hd
        · exact absurd hd hdq
      have hd1 := hp d hd
      have i2 := ih (x - d) (by omega) (by omega)
      have e2 := st (x - d)
      have g2 := gs_pays hp h1 (x := x - d - q) (by omega)
      have p3 := pays_succ.2 ⟨d, hd, (show Pays cs (gsV cs (x - d - q)).toNat (x - q - d) by rw [show x - q - d = x - d - q by omega]; exact g2.2)⟩
      have l3 := fw_le hp p3
      omega

theorem greedy_one {x : Int} (hx : 0 ≤ x) : gsV [1] x = fwV [1] x := by
  have hp : Pos [1] := fun c hc => by simp at hc; omega
  have e : gsV [1] x = x := by simp [gsV, grL, grR]
  have g := gs_pays hp rfl hx
  rw [e] at g ⊢
  symm
  rw [fw_of hp g.2]
  · omega
  · intro m hm
    have := hm.upper (m := 1) (fun c hc => by simp at hc; omega)
    omega

/-- Is the greedy way as good for all amounts below an end? -/
def isgT (cs : List Int) (t : Nat) : Bool := (List.range t).all fun x => gsV cs (x : Int) == fwV cs (x : Int)

theorem isgT_iff (cs : List Int) (t : Nat) : isgT cs t = true ↔ ∀ x : Nat, x < t → gsV cs x = fwV cs x := by
  unfold isgT
  simp

theorem isgT_false {cs : List Int} {t x : Nat} (hx : x < t) (h : gsV cs x ≠ fwV cs x) : isgT cs t = false := by
  rw [Bool.eq_false_iff]
  intro hc
  exact h ((isgT_iff cs t).1 hc x hx)

/-- The end up to which it is enough to look. -/
def endV (cs : List Int) : Int := (cs.drop (cs.length - 2)).sum

/-- Enough is looked at below the sum of the two greatest. -/
theorem isg_any {cs : List Int} (hp : Pos cs) (h1 : cs.head? = some 1) (hs : cs.Pairwise (· < ·)) {t : Nat} (ht : endV cs ≤ t) (h : isgT cs t = true) {x : Int} (hx : 0 ≤ x) : gsV cs x = fwV cs x := by
  rw [isgT_iff] at h
  obtain ⟨Q, hQ⟩ : ∃ Q, cs.reverse = Q := ⟨_, rfl⟩
  have hcs : cs = Q.reverse := by rw [← hQ, List.reverse_reverse]
  cases Q with
  | nil => rw [hcs] at h1; simp at h1
  | cons q R =>
    cases R with
    | nil =>
      have e : cs = [q] := by simpa using hcs
      rw [e] at h1
      have : q = 1 := by simpa using h1
      rw [e, this]
      exact greedy_one hx
    | cons p S =>
      have e : cs = S.reverse ++ [p] ++ [q] := by rw [hcs]; simp
      have ee : endV cs = p + q := by
        unfold endV
        rw [e]
        simp
      rw [ee] at ht
      rw [e] at hp h1 h hs ⊢
      refine greedy_all hp h1 ?_ (fun y h0 hy => ?_) _ x (Nat.le_refl _) hx
      · intro c hc
        rw [List.pairwise_append] at hs
        have h2 := hs.1
        rw [List.pairwise_append] at h2
        simp only [List.mem_append, List.mem_singleton] at hc
        rcases hc with hc | rfl
        · have := h2.2.2 c hc p (by simp)
          omega
        · omega
      · have := h y.toNat (by omega)
        rw [show ((y.toNat : Nat) : Int) = y by omega] at this
        exact this

theorem isgT_eq {cs : List Int} (hp : Pos cs) (h1 : cs.head? = some 1) (hs : cs.Pairwise (· < ·)) {t u : Nat} (ht : endV cs ≤ t) (hu : endV cs ≤ u) : isgT cs t = isgT cs u := by
  rw [Bool.eq_iff_iff]
  constructor
  · intro h
    exact (isgT_iff cs u).2 (fun x _ => isg_any hp h1 hs ht h (by omega))
  · intro h
    exact (isgT_iff cs t).2 (fun x _ => isg_any hp h1 hs hu h (by omega))

end Go.Proofs.YtpenbkfchgeafaaGreatDoor

namespace Go.Proofs.YtpenbkfchgeafaaGreatDoor
open Go.RowKit

/-- All numbers are from lo up to hi. -/
def allR (xs : List Int) (lo hi : Int) : Bool := xs.all fun x => inR x lo hi

theorem allR_true {xs : List Int} {lo hi : Int} (h : allR xs lo hi = true) : ∀ x ∈ xs, lo ≤ x ∧ x ≤ hi := by
  intro x hx
  exact inR_true (List.all_eq_true.1 h x hx)

theorem allR_take_succ (xs : List Int) (lo hi : Int) (k : Nat) (h : k < xs.length) : allR (xs.take (k + 1)) lo hi = (allR (xs.take k) lo hi && inR xs[k] lo hi) := by
  unfold allR
  rw [List.take_succ_eq_append_getElem h, List.all_append]
  simp

theorem allR_false_of (xs : List Int) (lo hi : Int) (k : Nat) (h : k < xs.length) (hf : inR xs[k] lo hi = false) : allR xs lo hi = false := by
  unfold allR
  rw [List.all_eq_false]
  exact ⟨xs[k], List.getElem_mem h, by simp [hf]⟩

set_option maxHeartbeats 400000 in
theorem allInRange_impl (v : Value) (xs : List Int) (lo hi : Int) (w : World) (hv : IsInts w v xs) (hl : xs.length ≤ 9223372036854775807) :
    Calls Tryz.prog 74 #[v, .int .i64 lo, .int .i64 hi] w fun e w' => e = .returned (.bool (allR xs lo hi)) ∧ w = w' := by
  obtain ⟨a, cap, rfl, hc⟩ := hv
  go_enter Tryz.func74, Tryz.ntmps74
  go_wp2
  go_loop [11] (fun i => ∃ k : Nat, k ≤ xs.length ∧ i = .int .i64 k ∧ allR (xs.take k) lo hi = true) (fun i => xs.length - (intOf i).toNat)
  case atStart => exact ⟨0, Nat.zero_le _, rfl, rfl⟩
  case round =>
    obtain ⟨k, hk, rfl, hall⟩ := hrel
    have HA := Lib.hid hall
    clear hall
    by_cases hlt : k < xs.length
    · obtain ⟨b, off, rfl, hcell⟩ := hc k hlt
      have HK := Lib.hid (allR_take_succ xs lo hi k hlt)
      cases hr : inR xs[k] lo hi
      · go_wp2_with (go_at_call 73; refine (inRange_impl _ _ _ _).mono ?_; rintro e w' ⟨rfl, rfl⟩)
        go_ret
        exact ⟨ret_bool (allR_false_of xs lo hi k hlt hr).symm, rfl⟩
      · go_wp2_with (go_at_call 73; refine (inRange_impl _ _ _ _).mono ?_; rintro e w' ⟨rfl, rfl⟩)
        go_round
        case rel => exact ⟨k + 1, by omega, by go_num, by rw [HK.out, HA.out, hr]; rfl⟩
        case measure => simp [intOf]; omega
    · go_wp2
      go_ret
      exact ⟨ret_bool (by rw [← HA.out, List.take_of_length_le (by omega)]), rfl⟩

end Go.Proofs.YtpenbkfchgeafaaGreatDoor

namespace Go.Proofs.YtpenbkfchgeafaaGreatDoor
open Go.RowKit

theorem and_low (n : Nat) (h : n < 4294967296) : bits .and .u64 (n : Int) 4294967295 = (n : Int) := by
  have h1 : (BitVec.ofInt 64 (n : Int)).toNat = n := by
    rw [BitVec.ofInt_natCast, BitVec.toNat_ofNat]; exact Nat.mod_eq_of_lt (by omega)
  have h2 : (BitVec.ofInt 64 (4294967295 : Int)).toNat = 2 ^ 32 - 1 := by decide
  show IntKind.u64.wrap ((BitVec.ofInt 64 (n : Int) &&& BitVec.ofInt 64 (4294967295 : Int)).toNat : Int) = _
  rw [BitVec.toNat_and, h1, h2, Nat.and_two_pow_sub_one_eq_mod, IntKind.wrap_u64]
  omega

set_option maxRecDepth 100000 in
set_option maxHeartbeats 1600000 in
theorem Mul64_one (n : Nat) (w : World) (h : n ≤ 1100) :
    Calls Tryz.prog 138 #[.int .u64 1, .int .u64 (n : Int)] w fun e w' => e = .returned (.tuple #[.int .u64 0, .int .u64 (n : Int)]) ∧ w = w' := by
  have a1 := and_low n (by omega)
  have a2 : bits .and .u64 1 4294967295 = 1 := and_low 1 (by omega)
  have a3 : (n : Int) / 4294967296 = 0 := by omega
  have a4 : bits .and .u64 0 4294967295 = 0 := and_low 0 (by omega)
  go_enter Tryz.func138, Tryz.ntmps138
  go_wp2
  go_ret2
  exact ⟨rfl, rfl⟩

set_option maxRecDepth 100000 in
set_option maxHeartbeats 1600000 in
theorem Mul_one (n : Nat) (w : World) (h : n ≤ 1100) :
    Calls Tryz.prog 134 #[.int .u64 1, .int .u64 (n : Int)] w fun e w' => e = .returned (.tuple #[.int .u64 0, .int .u64 (n : Int)]) ∧ w = w' := by
  have HM := Lib.hid (Mul64_one n w h)
  go_enter Tryz.func134, Tryz.ntmps134
  go_wp2_with (go_at_call 138; refine HM.out.mono ?_; rintro e w' ⟨rfl, rfl⟩)
  go_ret2
  exact ⟨rfl, rfl⟩

end Go.Proofs.YtpenbkfchgeafaaGreatDoor

namespace Go.Proofs.YtpenbkfchgeafaaGreatDoor
open Go.RowKit

theorem tot_abs (xs : List Int) (m : Int) (hm : ∀ x ∈ xs, -m ≤ x ∧ x ≤ m) : -(m * xs.length) ≤ tot xs ∧ tot xs ≤ m * xs.length := by
  induction xs with
  | nil => simp [tot]
  | cons x xs ih =>
    have h1 := hm x (by simp)
    have h2 := ih (fun y hy => hm y (by simp [hy]))
    have e : tot (x :: xs) = x + tot xs := by simp [tot]
    rw [e, List.length_cons, Int.natCast_add, Int.mul_add]
    omega

theorem sumFits_abs (xs : List Int) (m : Int) (hm : ∀ x ∈ xs, -m ≤ x ∧ x ≤ m) (h0 : 0 ≤ m) (h : m * xs.length ≤ 9223372036854775807) : SumFits xs := by
  intro k
  have h1 := tot_abs (xs.take k) m (fun x hx => hm x (List.mem_of_mem_take hx))
  have h2 : ((xs.take k).length : Int) ≤ xs.length := by rw [List.length_take]; omega
  have h3 := Int.mul_le_mul_of_nonneg_left h2 h0
  omega

end Go.Proofs.YtpenbkfchgeafaaGreatDoor

namespace Go.Proofs.YtpenbkfchgeafaaGreatDoor
open Go.RowKit

set_option maxHeartbeats 400000 in
theorem sum_spec (v : Value) (xs : List Int) (w : World) (hv : IsInts w v xs) (hl : xs.length ≤ 9223372036854775807) (hs : SumFits xs) :
    Calls Tryz.prog 48 #[v] w fun e w' => e = .returned (.int .i64 (tot xs)) ∧ w = w' := by
  obtain ⟨a, cap, rfl, hc⟩ := hv
  go_enter Tryz.func48, Tryz.ntmps48
  go_wp2
  go_loop [3, 4] (fun t i => ∃ k : Nat, k ≤ xs.length ∧ i = .int .i64 k ∧ t = .int .i64 (tot (xs.take k))) (fun _ i => xs.length - (intOf i).toNat)
  case atStart => exact ⟨0, Nat.zero_le _, rfl, rfl⟩
  case round =>
    obtain ⟨k, hk, rfl, rfl⟩ := hrel
    by_cases hlt : k < xs.length
    · obtain ⟨b, off, rfl, hcell⟩ := hc k hlt
      have hsk := tot_take_succ xs k hlt
      have h1 := hs (k + 1)
      have h0 := hs k
      rw [hsk] at h1
      have HS := Lib.hid hsk
      clear hsk
      go_wp2
      go_round
      case rel => exact ⟨k + 1, by omega, by go_num, by rw [HS.out]⟩
      case measure => simp [intOf]; omega
    · go_wp2
      go_ret
      exact ⟨ret_int (by rw [List.take_of_length_le (by omega)]), rfl⟩

end Go.Proofs.YtpenbkfchgeafaaGreatDoor

namespace Go.Proofs.YtpenbkfchgeafaaGreatDoor
open Go.RowKit

set_option maxHeartbeats 400000 in
theorem sum_impl (v : Value) (xs : List Int) (w : World) (hv : IsInts w v xs) (hl : xs.length ≤ 9223372036854775807) (hs : SumFits xs) :
    Calls Tryz.prog 70 #[v] w fun e w' => e = .returned (.int .i64 (tot xs)) ∧ w = w' := by
  obtain ⟨a, cap, rfl, hc⟩ := hv
  go_enter Tryz.func70, Tryz.ntmps70
  go_wp2
  go_loop [3, 8] (fun t i => ∃ k : Nat, k ≤ xs.length ∧ i = .int .i64 k ∧ t = .int .i64 (tot (xs.take k))) (fun _ i => xs.length - (intOf i).toNat)
  case atStart => exact ⟨0, Nat.zero_le _, rfl, rfl⟩
  case round =>
    obtain ⟨k, hk, rfl, rfl⟩ := hrel
    by_cases hlt : k < xs.length
    · obtain ⟨b, off, rfl, hcell⟩ := hc k hlt
      have hsk := tot_take_succ xs k hlt
      have h1 := hs (k + 1)
      have h0 := hs k
      rw [hsk] at h1
      have HS := Lib.hid hsk
      clear hsk
      go_wp2
      go_round
      case rel => exact ⟨k + 1, by omega, by go_num, by rw [HS.out]⟩
      case measure => simp [intOf]; omega
    · go_wp2
      go_ret
      exact ⟨ret_int (by rw [List.take_of_length_le (by omega)]), rfl⟩

end Go.Proofs.YtpenbkfchgeafaaGreatDoor

namespace Go.Proofs.YtpenbkfchgeafaaGreatDoor
open Go.RowKit

/-- The weights of parts. -/
def vParts (xs : List Int) : Bool := inR xs.length 1 8 && allR xs 0 50 && decide (0 < tot xs)

theorem vParts_sumFits {xs : List Int} (hl : inR xs.length 1 8 = true) (ha : allR xs 0 50 = true) : SumFits xs := by
  have h1 := inR_true hl
  exact sumFits_of xs 50 (allR_true ha) (by omega) (by omega)

set_option maxHeartbeats 400000 in
theorem ValidParts_impl (v : Value) (xs : List Int) (w : World) (hv : IsInts w v xs) (hl : xs.length ≤ 9223372036854775807) :
    Calls Tryz.prog 87 #[v] w fun e w' => e = .returned (.bool (vParts xs)) ∧ w = w' := by
  have hv' := hv
  obtain ⟨a, cap, rfl, hc⟩ := hv
  cases h1 : inR xs.length 1 8
  · go_enter Tryz.func87, Tryz.ntmps87
    go_wp2_with (go_at_call 73; refine (inRange_impl _ _ _ _).mono ?_; rintro e w' ⟨rfl, rfl⟩)
    go_ret
    exact ⟨ret_bool (by rw [vParts, h1]; rfl), rfl⟩
  · cases h2 : allR xs 0 50
    · go_enter Tryz.func87, Tryz.ntmps87
      go_wp2_with (first | (go_at_call 73; refine (inRange_impl _ _ _ _).mono ?_; rintro e w' ⟨rfl, rfl⟩) | (go_at_call 74; refine (allInRange_impl _ _ _ _ _ hv' hl).mono ?_; rintro e w' ⟨rfl, rfl⟩))
      go_ret
      exact ⟨ret_bool (by rw [vParts, h1, h2]; rfl), rfl⟩
    · have hsf := vParts_sumFits h1 h2
      go_enter Tryz.func87, Tryz.ntmps87
      go_wp2_with (first | (go_at_call 73; refine (inRange_impl _ _ _ _).mono ?_; rintro e w' ⟨rfl, rfl⟩) | (go_at_call 74; refine (allInRange_impl _ _ _ _ _ hv' hl).mono ?_; rintro e w' ⟨rfl, rfl⟩) | (go_at_call 70; refine (sum_impl _ _ _ hv' hl hsf).mono ?_; rintro e w' ⟨rfl, rfl⟩))
      go_ret
      exact ⟨ret_bool (by rw [vParts, h1, h2]; rfl), rfl⟩

set_option maxHeartbeats 400000 in
theorem validParts_spec (v : Value) (xs : List Int) (w : World) (hv : IsInts w v xs) (hl : xs.length ≤ 9223372036854775807) :
    Calls Tryz.prog 49 #[v] w fun e w' => e = .returned (.bool (vParts xs)) ∧ w = w' := by
  have hv' := hv
  obtain ⟨a, cap, rfl, hc⟩ := hv
  go_enter Tryz.func49, Tryz.ntmps49
  go_wp2
  go_loop [3] (fun i => ∃ k : Nat, k ≤ xs.length ∧ i = .int .i64 k ∧ allR (xs.take k) 0 50 = true) (fun i => xs.length - (intOf i).toNat)
  case atStart => exact ⟨0, Nat.zero_le _, rfl, rfl⟩
  case round =>
    obtain ⟨k, hk, rfl, hall⟩ := hrel
    have HA := Lib.hid hall
    clear hall
    by_cases hlt : k < xs.length
    · have hv2 := hv'
      clear hv'
      obtain ⟨b, off, rfl, hcell⟩ := hc k hlt
      have HK := Lib.hid (allR_take_succ xs 0 50 k hlt)
      cases hr : inR xs[k] 0 50
      · go_wp2_with (go_at_call 38; refine (inRange_spec _ _ _ _).mono ?_; rintro e w' ⟨rfl, rfl⟩)
        go_ret
        exact ⟨ret_bool (by rw [vParts, allR_false_of xs 0 50 k hlt hr]; simp), rfl⟩
      · go_wp2_with (go_at_call 38; refine (inRange_spec _ _ _ _).mono ?_; rintro e w' ⟨rfl, rfl⟩)
        go_round
        case rel => exact ⟨k + 1, by omega, by go_num, by rw [HK.out, HA.out, hr]; rfl⟩
        case measure => simp [intOf]; omega
    · have hall : allR xs 0 50 = true := by rw [← HA.out, List.take_of_length_le (by omega)]
      have HB := Lib.hid hall
      clear hall
      cases h1 : inR xs.length 1 8
      · go_wp2_with (go_at_call 38; refine (inRange_spec _ _ _ _).mono ?_; rintro e w' ⟨rfl, rfl⟩)
        go_ret
        exact ⟨ret_bool (by rw [vParts, h1]; rfl), rfl⟩
      · have hsf := vParts_sumFits h1 HB.out
        go_wp2_with (first | (go_at_call 38; refine (inRange_spec _ _ _ _).mono ?_; rintro e w' ⟨rfl, rfl⟩) | (go_at_call 48; refine (sum_spec _ _ _ hv' hl hsf).mono ?_; rintro e w' ⟨rfl, rfl⟩))
        go_ret
        exact ⟨ret_bool (by rw [vParts, h1, HB.out]; rfl), rfl⟩

end Go.Proofs.YtpenbkfchgeafaaGreatDoor
