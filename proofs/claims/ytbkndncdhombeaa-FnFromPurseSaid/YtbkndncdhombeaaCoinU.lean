/- Coins: change, and purses. -/
import Derived.Test.YtbkndncdhombeaaCoinG
namespace Go.Proofs.Ytbkndncdhombeaa

/-! Change. -/

/-- The fewest coins that change hands, of what is given back below so much; -1 where it can't be. -/
def bestH (cs : List Int) (a : Int) : Nat → Int
  | 0 => -1
  | k + 1 => if 0 ≤ fwV cs (a + k) ∧ 0 ≤ fwV cs k ∧ (bestH cs a k < 0 ∨ fwV cs (a + k) + fwV cs k < bestH cs a k) then fwV cs (a + k) + fwV cs k else bestH cs a k

/-- The same, 1921 where it can't be. -/
def leastH (cs : List Int) (a : Int) : Nat → Int
  | 0 => 1921
  | k + 1 => min (leastH cs a k) (fuV cs (a + k) + fuV cs k)

theorem bestH_ge (cs : List Int) (a : Int) : ∀ k, -1 ≤ bestH cs a k
  | 0 => by simp [bestH]
  | k + 1 => by
    have := bestH_ge cs a k
    unfold bestH
    split <;> omega

theorem leastH_eq {cs : List Int} (hp : Pos cs) {a : Int} (h0 : 0 ≤ a) (ha : a ≤ 120) : ∀ k : Nat, k ≤ 901 → leastH cs a k = (if bestH cs a k < 0 then 1921 else bestH cs a k) ∧ bestH cs a k ≤ 1920
  | 0, _ => ⟨rfl, by simp [bestH]⟩
  | k + 1, hk => by
    obtain ⟨ih, ih2⟩ := leastH_eq hp h0 ha k (by omega)
    have g := bestH_ge cs a k
    have g1 := fw_ge hp (a + k)
    have g2 := fw_ge hp (k : Int)
    have b1 : 0 ≤ fwV cs (a + k) → fwV cs (a + k) ≤ a + k := fw_bound hp
    have b2 : 0 ≤ fwV cs (k : Int) → fwV cs (k : Int) ≤ k := fw_bound hp
    unfold leastH bestH
    rw [ih]
    unfold fuV
    by_cases h1 : 0 ≤ fwV cs (a + k) ∧ 0 ≤ fwV cs k ∧ (bestH cs a k < 0 ∨ fwV cs (a + k) + fwV cs k < bestH cs a k)
    · rw [if_pos h1, if_neg (show ¬ fwV cs (a + k) < 0 by omega), if_neg (show ¬ fwV cs (k : Int) < 0 by omega), if_neg (show ¬ fwV cs (a + k) + fwV cs k < 0 by omega)]
      refine ⟨?_, by omega⟩
      split <;> omega
    · rw [if_neg h1]
      refine ⟨?_, ih2⟩
      split <;> split <;> split <;> omega

theorem leastH_bounds {cs : List Int} (hp : Pos cs) {a : Int} (h0 : 0 ≤ a) (ha : a ≤ 120) {k : Nat} (hk : k ≤ 901) : 0 ≤ leastH cs a k ∧ leastH cs a k ≤ 1921 := by
  obtain ⟨h1, h2⟩ := leastH_eq hp h0 ha k hk
  rw [h1]
  split <;> omega

/-- It is there exactly if some amount is paid, and what is too much, too; and it is the least. -/
theorem bestH_facts {cs : List Int} (hp : Pos cs) (a : Int) : ∀ k : Nat, (bestH cs a k = -1 ∧ ∀ j : Nat, j < k → ¬ (0 ≤ fwV cs (a + j) ∧ 0 ≤ fwV cs j)) ∨ (0 ≤ bestH cs a k ∧ (∃ j : Nat, j < k ∧ 0 ≤ fwV cs (a + j) ∧ 0 ≤ fwV cs j ∧ bestH cs a k = fwV cs (a + j) + fwV cs j) ∧ ∀ j : Nat, j < k → 0 ≤ fwV cs (a + j) → 0 ≤ fwV cs j → bestH cs a k ≤ fwV cs (a + j) + fwV cs j)
  | 0 => .inl ⟨rfl, fun j hj => by omega⟩
  | k + 1 => by
    have ih := bestH_facts hp a k
    by_cases h1 : 0 ≤ fwV cs (a + k) ∧ 0 ≤ fwV cs k ∧ (bestH cs a k < 0 ∨ fwV cs (a + k) + fwV cs k < bestH cs a k)
    · have e : bestH cs a (k + 1) = fwV cs (a + k) + fwV cs k := by rw [bestH, if_pos h1]
      refine .inr ⟨by omega, ⟨k, by omega, h1.1, h1.2.1, e⟩, fun j hj h2 h3 => ?_⟩
      by_cases hjk : j = k
      · subst hjk; omega
      · rcases ih with ⟨_, h4⟩ | ⟨_, _, h4⟩
        · exact absurd ⟨h2, h3⟩ (h4 j (by omega))
        · have := h4 j (by omega) h2 h3; omega
    · have e : bestH cs a (k + 1) = bestH cs a k := by rw [bestH, if_neg h1]
      rw [e]
      rcases ih with ⟨h2, h3⟩ | ⟨h2, ⟨j, hj, h3⟩, h4⟩
      · refine .inl ⟨h2, fun j hj h4 => ?_⟩
        by_cases hjk : j = k
        · subst hjk; exact h1 ⟨h4.1, h4.2, by omega⟩
        · exact h3 j (by omega) h4
      · refine .inr ⟨h2, ⟨j, by omega, h3⟩, fun i hi h5 h6 => ?_⟩
        by_cases hik : i = k
        · subst hik; omega
        · exact h4 i (by omega) h5 h6

/-! Purses: pairs of a coin and how many of it there are, the last one first. -/

/-- The best number of one coin out of so many: the rest is paid by the others. -/
def bestK (f : Int → Int) : Nat → Int
  | 0 => -1
  | k + 1 => if 0 ≤ f k ∧ (bestK f k < 0 ∨ f k + k < bestK f k) then f k + k else bestK f k

/-- The fewest coins of a purse, -1 where none do. -/
def fpR : List (Int × Int) → Int → Int
  | [], x => if x = 0 then 0 else -1
  | (c, m) :: R, x => if x = 0 then 0 else bestK (fun k => fpR R (x - k * c)) (m.toNat + 1)

/-- So many coins of a purse pay an amount. -/
def BP : List (Int × Int) → Int → Int → Prop
  | [], n, x => n = 0 ∧ x = 0
  | (c, m) :: R, n, x => ∃ k : Int, 0 ≤ k ∧ k ≤ m ∧ BP R (n - k) (x - k * c)

/-- A purse: coins of at least 1, numbers of at least 0. -/
def Purse (R : List (Int × Int)) : Prop := ∀ p ∈ R, 1 ≤ p.1 ∧ 0 ≤ p.2

theorem BP.bounds : ∀ {R : List (Int × Int)} (_ : Purse R) {n x : Int}, BP R n x → 0 ≤ n ∧ n ≤ x
  | [], _, n, x, h => by have h1 : n = 0 ∧ x = 0 := h; omega
  | (c, m) :: R, hp, n, x, ⟨k, h1, h2, h⟩ => by
    have h3 := BP.bounds (R := R) (fun p hq => hp p (by simp [hq])) h
    have h4 : 1 ≤ c := (hp (c, m) (by simp)).1
    have h5 := Int.mul_le_mul_of_nonneg_left h4 h1
    omega

theorem BP_zero : ∀ {R : List (Int × Int)} (_ : Purse R), BP R 0 0
  | [], _ => ⟨rfl, rfl⟩
  | (c, m) :: R, hp => ⟨0, by omega, (hp (c, m) (by simp)).2, by simpa using BP_zero (R := R) (fun p hq => hp p (by simp [hq]))⟩

theorem bestK_ge (f : Int → Int) : ∀ k, -1 ≤ bestK f k
  | 0 => by simp [bestK]
  | k + 1 => by
    have := bestK_ge f k
    unfold bestK
    split <;> omega

theorem bestK_facts (f : Int → Int) : ∀ n : Nat, (bestK f n = -1 ∧ ∀ k : Nat, k < n → f k < 0) ∨ (0 ≤ bestK f n ∧ (∃ k : Nat, k < n ∧ 0 ≤ f k ∧ bestK f n = f k + k) ∧ ∀ k : Nat, k < n → 0 ≤ f k → bestK f n ≤ f k + k)
  | 0 => .inl ⟨rfl, fun k hk => by omega⟩
  | n + 1 => by
    have ih := bestK_facts f n
    by_cases h1 : 0 ≤ f n ∧ (bestK f n < 0 ∨ f n + n < bestK f n)
    · have e : bestK f (n + 1) = f n + n := by rw [bestK, if_pos h1]
      refine .inr ⟨by omega, ⟨n, by omega, h1.1, e⟩, fun j hj h2 => ?_⟩
      by_cases hjk : j = n
      · subst hjk; omega
      · rcases ih with ⟨_, h4⟩ | ⟨_, _, h4⟩
        · have := h4 j (by omega); omega
        · have := h4 j (by omega) h2; omega
    · have e : bestK f (n + 1) = bestK f n := by rw [bestK, if_neg h1]
      rw [e]
      rcases ih with ⟨h2, h3⟩ | ⟨h2, ⟨j, hj, h3⟩, h4⟩
      · refine .inl ⟨h2, fun j hj => ?_⟩
        by_cases hjk : j = n
        · subst hjk; omega
        · exact h3 j (by omega)
      · refine .inr ⟨h2, ⟨j, by omega, h3⟩, fun i hi h5 => ?_⟩
        by_cases hik : i = n
        · subst hik; omega
        · exact h4 i (by omega) h5

theorem fp_cases : ∀ {R : List (Int × Int)} (_ : Purse R) (x : Int), (fpR R x = -1 ∧ ∀ n, ¬ BP R n x) ∨ (0 ≤ fpR R x ∧ BP R (fpR R x) x ∧ ∀ n, BP R n x → fpR R x ≤ n)
  | [], _, x => by
    unfold fpR
    by_cases h : x = 0
    · rw [if_pos h]
      refine .inr ⟨by omega, ⟨rfl, h⟩, fun n hn => ?_⟩
      have h1 : n = 0 ∧ x = 0 := hn
      omega
    · rw [if_neg h]
      exact .inl ⟨rfl, fun n hn => h hn.2⟩
  | (c, m) :: R, hp, x => by
    have hpR : Purse R := fun p hq => hp p (by simp [hq])
    have hm := hp (c, m) (by simp)
    have hm0 : 0 ≤ m := hm.2
    by_cases h : x = 0
    · subst h
      have e : fpR ((c, m) :: R) 0 = 0 := by rw [fpR, if_pos rfl]
      rw [e]
      exact .inr ⟨by omega, BP_zero hp, fun n hn => (BP.bounds hp hn).1⟩
    · have e : fpR ((c, m) :: R) x = bestK (fun k => fpR R (x - k * c)) (m.toNat + 1) := by rw [fpR, if_neg h]
      rw [e]
      rcases bestK_facts (fun k => fpR R (x - k * c)) (m.toNat + 1) with ⟨h1, h2⟩ | ⟨h1, ⟨k, hk, h2, h3⟩, h4⟩
      · refine .inl ⟨h1, ?_⟩
        rintro n ⟨k, hk0, hkm, hk⟩
        have h3 : fpR R (x - (k.toNat : Int) * c) < 0 := h2 k.toNat (by omega)
        rw [Int.toNat_of_nonneg hk0] at h3
        rcases fp_cases hpR (x - k * c) with ⟨_, h5⟩ | ⟨h5, _⟩
        · exact h5 _ hk
        · omega
      · refine .inr ⟨h1, ?_, ?_⟩
        · refine ⟨k, by omega, by omega, ?_⟩
          rcases fp_cases hpR (x - k * c) with ⟨h5, _⟩ | ⟨_, h5, _⟩
          · have h6 : 0 ≤ fpR R (x - k * c) := h2
            omega
          · rw [h3, show fpR R (x - k * c) + k - k = fpR R (x - k * c) by omega]
            exact h5
        · rintro n ⟨k', hk0, hkm, hk'⟩
          have h6 : 0 ≤ fpR R (x - (k'.toNat : Int) * c) → bestK (fun k => fpR R (x - k * c)) (m.toNat + 1) ≤ fpR R (x - (k'.toNat : Int) * c) + (k'.toNat : Int) := h4 k'.toNat (by omega)
          rw [Int.toNat_of_nonneg hk0] at h6
          rcases fp_cases hpR (x - k' * c) with ⟨_, h5⟩ | ⟨h5, _, h7⟩
          · exact absurd hk' (h5 _)
          · have := h7 _ hk'
            have := h6 h5
            omega

theorem fp_neg {R : List (Int × Int)} (hp : Purse R) {x : Int} (h : x < 0) : fpR R x = -1 := by
  rcases fp_cases hp x with ⟨h1, _⟩ | ⟨_, h1, _⟩
  · exact h1
  · have := BP.bounds hp h1; omega

/-- Beyond what the amount allows nothing is better. -/
theorem bestK_stop {R : List (Int × Int)} (hp : Purse R) {c x : Int} : ∀ (j k : Nat), x < k * c → 1 ≤ c → bestK (fun i => fpR R (x - i * c)) (k + j) = bestK (fun i => fpR R (x - i * c)) k
  | 0, _, _, _ => rfl
  | j + 1, k, h, hc => by
    rw [← Nat.add_assoc, bestK, if_neg]
    · exact bestK_stop hp j k h hc
    · rintro ⟨h1, _⟩
      have h2 := Int.mul_le_mul_of_nonneg_right (show (k : Int) ≤ (k + j : Nat) by omega) (show 0 ≤ c by omega)
      rw [fp_neg hp (by omega)] at h1
      omega

/-- The same, 1921 where none do. -/
def upV (R : List (Int × Int)) (x : Int) : Int := if fpR R x < 0 then 1921 else fpR R x

theorem up_nil (x : Int) : upV [] x = if x = 0 then 0 else 1921 := by
  unfold upV fpR
  by_cases h : x = 0 <;> simp [h]

theorem fp_of {R : List (Int × Int)} (hp : Purse R) {n x : Int} (h : BP R n x) : 0 ≤ fpR R x ∧ fpR R x ≤ n := by
  rcases fp_cases hp x with ⟨_, h2⟩ | ⟨h1, _, h3⟩
  · exact absurd h (h2 n)
  · exact ⟨h1, h3 n h⟩

theorem fp_bp {R : List (Int × Int)} (hp : Purse R) {x : Int} (h : 0 ≤ fpR R x) : BP R (fpR R x) x := by
  rcases fp_cases hp x with ⟨h1, _⟩ | ⟨_, h2, _⟩
  · omega
  · exact h2

theorem fp_ge {R : List (Int × Int)} (hp : Purse R) (x : Int) : -1 ≤ fpR R x := by
  rcases fp_cases hp x with ⟨h1, _⟩ | ⟨h1, _, _⟩ <;> omega

theorem up_bounds {R : List (Int × Int)} (hp : Purse R) {x : Int} (h : x ≤ 1920) : 0 ≤ upV R x ∧ upV R x ≤ 1921 := by
  unfold upV
  split
  · omega
  · have := BP.bounds hp (fp_bp hp (x := x) (by omega))
    omega

theorem up_unpaid {R : List (Int × Int)} (hp : Purse R) {x : Int} (h : x ≤ 1920) : upV R x = 1921 ↔ fpR R x < 0 := by
  unfold upV
  split
  · simp [*]
  · have := BP.bounds hp (fp_bp hp (x := x) (by omega))
    omega

theorem fp_none (c : Int) {R : List (Int × Int)} (hp : Purse R) (hc : 1 ≤ c) (x : Int) : fpR ((c, 0) :: R) x = fpR R x := by
  have hp2 : Purse ((c, 0) :: R) := fun p hq => by
    simp only [List.mem_cons] at hq
    rcases hq with rfl | hq
    · exact ⟨hc, by simp⟩
    · exact hp p hq
  have e : ∀ n, BP ((c, 0) :: R) n x ↔ BP R n x := fun n => by
    constructor
    · rintro ⟨k, h1, h2, h⟩
      obtain rfl : k = 0 := by omega
      simpa using h
    · intro h
      exact ⟨0, by omega, by omega, by simpa using h⟩
  rcases fp_cases hp2 x with ⟨h1, h2⟩ | ⟨h1, h2, h3⟩
  · rcases fp_cases hp x with ⟨k1, _⟩ | ⟨_, k2, _⟩
    · rw [h1, k1]
    · exact absurd ((e _).2 k2) (h2 _)
  · have l := fp_of hp ((e _).1 h2)
    have := h3 _ ((e _).2 (fp_bp hp l.1))
    omega

theorem up_none (c : Int) {R : List (Int × Int)} (hp : Purse R) (hc : 1 ≤ c) (x : Int) : upV ((c, 0) :: R) x = upV R x := by
  unfold upV
  rw [fp_none c hp hc]

theorem BP_one {c m : Int} {R : List (Int × Int)} (hm : 0 ≤ m) (n x : Int) : BP ((c, m + 1) :: R) n x ↔ BP ((c, m) :: R) n x ∨ BP ((c, m) :: R) (n - 1) (x - c) := by
  constructor
  · rintro ⟨k, h1, h2, h⟩
    by_cases hk : k ≤ m
    · exact .inl ⟨k, h1, hk, h⟩
    · refine .inr ⟨k - 1, by omega, by omega, ?_⟩
      rw [show n - 1 - (k - 1) = n - k by omega, Int.sub_mul, Int.one_mul, show x - c - (k * c - c) = x - k * c by omega]
      exact h
  · rintro (⟨k, h1, h2, h⟩ | ⟨k, h1, h2, h⟩)
    · exact ⟨k, h1, by omega, h⟩
    · refine ⟨k + 1, by omega, by omega, ?_⟩
      rw [show n - (k + 1) = n - 1 - k by omega, Int.add_mul, Int.one_mul, show x - (k * c + c) = x - c - k * c by omega]
      exact h

theorem purse_cons {c m : Int} {R : List (Int × Int)} (hp : Purse R) (hc : 1 ≤ c) (hm : 0 ≤ m) : Purse ((c, m) :: R) := fun p hq => by
  simp only [List.mem_cons] at hq
  rcases hq with rfl | hq
  · exact ⟨hc, hm⟩
  · exact hp p hq

theorem up_one {c m x : Int} {R : List (Int × Int)} (hp : Purse R) (hc : 1 ≤ c) (hm : 0 ≤ m) (hx : x ≤ 1920) (hcx : c ≤ x) :
    upV ((c, m + 1) :: R) x = min (upV ((c, m) :: R) x) (upV ((c, m) :: R) (x - c) + 1) := by
  have p1 := purse_cons hp hc hm
  have p2 := purse_cons hp hc (show 0 ≤ m + 1 by omega)
  have e := BP_one (c := c) (m := m) (R := R) hm
  unfold upV
  rcases fp_cases p2 x with ⟨h1, h2⟩ | ⟨h1, h2, h3⟩
  · have e1 : fpR ((c, m) :: R) x < 0 := by
      by_cases h : fpR ((c, m) :: R) x < 0
      · exact h
      · exact absurd ((e _ _).2 (.inl (fp_bp p1 (by omega)))) (h2 _)
    have e2 : fpR ((c, m) :: R) (x - c) < 0 := by
      by_cases h : fpR ((c, m) :: R) (x - c) < 0
      · exact h
      · refine absurd ((e (fpR ((c, m) :: R) (x - c) + 1) _).2 (.inr ?_)) (h2 _)
        rw [Int.add_sub_cancel]
        exact fp_bp p1 (by omega)
    rw [if_pos (by omega), if_pos e1, if_pos e2]
    omega
  · have b := BP.bounds p2 h2
    rw [if_neg (by omega)]
    have l1 : 0 ≤ fpR ((c, m) :: R) x → fpR ((c, m + 1) :: R) x ≤ fpR ((c, m) :: R) x := fun h => h3 _ ((e _ _).2 (.inl (fp_bp p1 h)))
    have l2 : 0 ≤ fpR ((c, m) :: R) (x - c) → fpR ((c, m + 1) :: R) x ≤ fpR ((c, m) :: R) (x - c) + 1 := fun h => h3 _ ((e _ _).2 (.inr (by rw [Int.add_sub_cancel]; exact fp_bp p1 h)))
    rcases (e _ _).1 h2 with h4 | h4
    · have := fp_of p1 h4
      split <;> split <;> omega
    · have := fp_of p1 h4
      split <;> split <;> omega

theorem up_one_less {c m x : Int} {R : List (Int × Int)} (hp : Purse R) (hc : 1 ≤ c) (hm : 0 ≤ m) (hcx : x < c) :
    upV ((c, m + 1) :: R) x = upV ((c, m) :: R) x := by
  have p1 := purse_cons hp hc hm
  have p2 := purse_cons hp hc (show 0 ≤ m + 1 by omega)
  have e := BP_one (c := c) (m := m) (R := R) hm
  have e2 : fpR ((c, m + 1) :: R) x = fpR ((c, m) :: R) x := by
    have no : ∀ n, ¬ BP ((c, m) :: R) (n - 1) (x - c) := fun n hn => by have := BP.bounds p1 hn; omega
    rcases fp_cases p2 x with ⟨h1, h2⟩ | ⟨h1, h2, h3⟩
    · rcases fp_cases p1 x with ⟨k1, _⟩ | ⟨_, k2, _⟩
      · rw [h1, k1]
      · exact absurd ((e _ _).2 (.inl k2)) (h2 _)
    · rcases (e _ _).1 h2 with h4 | h4
      · have l := fp_of p1 h4
        have := h3 _ ((e _ _).2 (.inl (fp_bp p1 l.1)))
        omega
      · exact absurd h4 (no _)
  unfold upV
  rw [e2]

/-- The purse of coins and numbers. -/
def prs (cs ps : List Int) : List (Int × Int) := (cs.zip ps).reverse

theorem prs_snoc {P K : List Int} (h : P.length = K.length) (c k : Int) : prs (P ++ [c]) (K ++ [k]) = (c, k) :: prs P K := by
  unfold prs
  rw [List.zip_append h, List.reverse_append]
  rfl

theorem prs_purse {cs ps : List Int} (hp : Pos cs) (hk : ∀ k ∈ ps, 0 ≤ k) : Purse (prs cs ps) := by
  rintro ⟨a, b⟩ hq
  unfold prs at hq
  rw [List.mem_reverse] at hq
  exact ⟨hp a (List.of_mem_zip hq).1, hk b (List.of_mem_zip hq).2⟩

/-- Coins of a purse are coins. -/
theorem BP.pays {cs : List Int} : ∀ {R : List (Int × Int)} (_ : ∀ p ∈ R, p.1 ∈ cs) (_ : Purse R) {n x : Int}, BP R n x → Pays cs n.toNat x
  | [], _, _, n, x, h => by
    have h1 : n = 0 ∧ x = 0 := h
    rw [h1.1, h1.2]
    exact .zero
  | (c, m) :: R, hs, hp, n, x, ⟨k, h1, h2, h⟩ => by
    have hpR : Purse R := fun p hq => hp p (by simp [hq])
    have ih := BP.pays (R := R) (fun p hq => hs p (by simp [hq])) hpR h
    have b := BP.bounds hpR h
    have h3 := ih.add (Pays.times (hs (c, m) (by simp)) k.toNat)
    rw [Int.toNat_of_nonneg h1] at h3
    rw [show n.toNat = (n - k).toNat + k.toNat by omega, show x = x - k * c + k * c by omega]
    exact h3

theorem prs_pays {cs ps : List Int} (hp : Pos cs) (hk : ∀ k ∈ ps, 0 ≤ k) {n x : Int} (h : BP (prs cs ps) n x) : Pays cs n.toNat x := by
  refine BP.pays (fun p hq => ?_) (prs_purse hp hk) h
  unfold prs at hq
  rw [List.mem_reverse] at hq
  exact (List.of_mem_zip (show (p.1, p.2) ∈ _ from hq)).1

/-- At most all that is there. -/
theorem BP.most : ∀ {R : List (Int × Int)} {n x : Int}, BP R n x → n ≤ (R.map (·.2)).sum
  | [], n, x, h => by have h1 : n = 0 ∧ x = 0 := h; simp [h1.1]
  | (c, m) :: R, n, x, ⟨k, h1, h2, h⟩ => by
    have := BP.most (R := R) h
    simp only [List.map_cons, List.sum_cons]
    omega

theorem sum_rev (l : List Int) : l.reverse.sum = l.sum := by
  induction l with
  | nil => rfl
  | cons a l ih => rw [List.reverse_cons, sum_snoc, ih, List.sum_cons]; omega

theorem prs_most {cs ps : List Int} (hl : ps.length = cs.length) {n x : Int} (h : BP (prs cs ps) n x) : n ≤ ps.sum := by
  have h1 := BP.most h
  unfold prs at h1
  rw [List.map_reverse, sum_rev] at h1
  have e : (cs.zip ps).map (·.2) = ps := List.map_snd_zip (by omega)
  rw [e] at h1
  exact h1

/-- Counts of at most what is there are of the purse. -/
theorem BP_counts : ∀ (R : List (Int × Int)) (K : List Int), R.length = K.length → (∀ i, i < K.length → 0 ≤ K.getD i 0 ∧ K.getD i 0 ≤ (R.map (·.2)).getD i 0) → BP R K.sum (dotL (R.map (·.1)) K)
  | [], [], _, _ => ⟨rfl, rfl⟩
  | (c, m) :: R, k :: K, hl, hk => by
    have h0 := hk 0 (by simp)
    simp only [List.getD_cons_zero, List.map_cons] at h0
    have ih := BP_counts R K (by simpa using hl) (fun i hi => by
      have := hk (i + 1) (by simpa using hi)
      simpa using this)
    refine ⟨k, h0.1, h0.2, ?_⟩
    rw [List.sum_cons, show k + K.sum - k = K.sum by omega]
    show BP R K.sum (c * k + dotL (R.map (·.1)) K - k * c)
    rw [Int.mul_comm c k, show k * c + dotL (R.map (·.1)) K - k * c = dotL (R.map (·.1)) K by omega]
    exact ih

theorem dotL_rev : ∀ (cs ks : List Int), cs.length = ks.length → dotL cs.reverse ks.reverse = dotL cs ks
  | [], [], _ => rfl
  | c :: cs, k :: ks, h => by
    have h1 : cs.length = ks.length := by simpa using h
    rw [List.reverse_cons, List.reverse_cons, dotL_snoc _ _ _ _ (by simpa using h1), dotL_rev cs ks h1]
    show _ = c * k + dotL cs ks
    omega

theorem prs_counts {cs ps ks : List Int} (hl : ps.length = cs.length) (hk : ks.length = cs.length) (h : ∀ i, i < ks.length → 0 ≤ ks.getD i 0 ∧ ks.getD i 0 ≤ ps.getD i 0) : BP (prs cs ps) ks.sum (dotL cs ks) := by
  have h1 := BP_counts (prs cs ps) ks.reverse (by simp [prs, hl, hk]) (fun i hi => by
    unfold prs
    rw [List.map_reverse, show (cs.zip ps).map (·.2) = ps from List.map_snd_zip (by omega)]
    rw [List.length_reverse] at hi
    have e1 : ks.reverse.getD i 0 = ks.getD (ks.length - 1 - i) 0 := by
      rw [List.getD_eq_getElem?_getD, List.getD_eq_getElem?_getD, List.getElem?_reverse hi]
    have e2 : ps.reverse.getD i 0 = ps.getD (ks.length - 1 - i) 0 := by
      rw [List.getD_eq_getElem?_getD, List.getD_eq_getElem?_getD, List.getElem?_reverse (by omega), hl, hk]
    rw [e1, e2]
    exact h _ (by omega))
  rw [sum_rev] at h1
  unfold prs at h1 ⊢
  rw [List.map_reverse, show (cs.zip ps).map (·.1) = cs from List.map_fst_zip (by omega), dotL_rev _ _ hk.symm] at h1
  exact h1

end Go.Proofs.Ytbkndncdhombeaa
