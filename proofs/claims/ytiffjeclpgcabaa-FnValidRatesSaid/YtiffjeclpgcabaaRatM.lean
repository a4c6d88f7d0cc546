/- Products of rates on ways: the plain mathematics. -/
import Derived.Test.YtiffjeclpgcabaaNum
namespace Go.Proofs.Ytiffjeclpgcabaa

/-- No more, as fractions. -/
def rLe (x y : Int × Int) : Prop := x.1 * y.2 ≤ y.1 * x.2
/-- The product, as it comes. -/
def rMul (x y : Int × Int) : Int × Int := (x.1 * y.1, x.2 * y.2)
/-- Both numbers are at least 1 and at most m. -/
def rB (x : Int × Int) (m : Int) : Prop := (1 ≤ x.1 ∧ x.1 ≤ m) ∧ 1 ≤ x.2 ∧ x.2 ≤ m
/-- Both numbers are positive. -/
def rPos (x : Int × Int) : Prop := 1 ≤ x.1 ∧ 1 ≤ x.2
/-- The greatest common divisor of both numbers. -/
def rG (x : Int × Int) : Int := ((Nat.gcd x.1.toNat x.2.toNat : Nat) : Int)
/-- Without a common factor. -/
def rRed (x : Int × Int) : Int × Int := (x.1 / rG x, x.2 / rG x)
/-- The product without a common factor. -/
def rProd (x y : Int × Int) : Int × Int := rRed (rMul x y)
/-- The second one where it is more, or else the first one. -/
def rMax (x y : Int × Int) : Int × Int := if x.1 * y.2 < y.1 * x.2 then y else x
/-- No common factor. -/
def rCo (x : Int × Int) : Prop := Nat.gcd x.1.toNat x.2.toNat = 1

theorem rB.pos {x : Int × Int} {m : Int} (h : rB x m) : rPos x := ⟨h.1.1, h.2.1⟩

theorem rLe_refl (x : Int × Int) : rLe x x := Int.le_refl _

theorem rLe_trans {x y z : Int × Int} (hx : rPos x) (hy : rPos y) (hz : rPos z) (h1 : rLe x y) (h2 : rLe y z) : rLe x z := by
  unfold rLe at *
  have a := Int.mul_le_mul_of_nonneg_right h1 (show 0 ≤ z.2 by have := hz.2; omega)
  have b := Int.mul_le_mul_of_nonneg_right h2 (show 0 ≤ x.2 by have := hx.2; omega)
  have e1 : x.1 * y.2 * z.2 = x.1 * z.2 * y.2 := by rw [Int.mul_assoc, Int.mul_comm y.2, ← Int.mul_assoc]
  have e2 : y.1 * x.2 * z.2 = y.1 * z.2 * x.2 := by rw [Int.mul_assoc, Int.mul_comm x.2, ← Int.mul_assoc]
  have e3 : z.1 * y.2 * x.2 = z.1 * x.2 * y.2 := by rw [Int.mul_assoc, Int.mul_comm y.2, ← Int.mul_assoc]
  have key : x.1 * z.2 * y.2 ≤ z.1 * x.2 * y.2 := by
    rw [← e1, ← e3]
    refine Int.le_trans a ?_
    rw [e2]
    exact b
  exact Int.le_of_mul_le_mul_right key (Int.lt_of_lt_of_le (by decide : (0 : Int) < 1) hy.2)

theorem four_mul (a b c d : Int) : a * b * (c * d) = a * c * (b * d) := by
  rw [Int.mul_assoc, Int.mul_assoc, ← Int.mul_assoc b, Int.mul_comm b c, Int.mul_assoc c]

theorem rLe_mul {x y z t : Int × Int} (hx : rPos x) (hy : rPos y) (hz : rPos z) (ht : rPos t) (h1 : rLe x y) (h2 : rLe z t) : rLe (rMul x z) (rMul y t) := by
  unfold rLe rMul at *
  have n1 := hx.1; have n2 := hx.2; have n3 := hy.1; have n4 := hy.2; have n5 := hz.1; have n6 := hz.2; have n7 := ht.1; have n8 := ht.2
  show x.1 * z.1 * (y.2 * t.2) ≤ y.1 * t.1 * (x.2 * z.2)
  rw [four_mul, four_mul y.1]
  exact Int.mul_le_mul h1 h2 (Int.mul_nonneg (by omega) (by omega)) (Int.mul_nonneg (by omega) (by omega))

theorem rMul_pos {x y : Int × Int} (hx : rPos x) (hy : rPos y) : rPos (rMul x y) := by
  have a := Int.mul_le_mul hx.1 hy.1 (by omega) (by have := hx.1; omega)
  have b := Int.mul_le_mul hx.2 hy.2 (by omega) (by have := hx.2; omega)
  exact ⟨by simpa [rMul] using a, by simpa [rMul] using b⟩

theorem rMul_bd {x y : Int × Int} {m k : Int} (hx : rB x m) (hy : rB y k) : rB (rMul x y) (m * k) := by
  have p := rMul_pos hx.pos hy.pos
  have n1 := hx.1.1; have n2 := hx.2.1; have n3 := hy.1.1; have n4 := hy.2.1
  exact ⟨⟨p.1, Int.mul_le_mul hx.1.2 hy.1.2 (by omega) (by have := hx.1.2; omega)⟩, p.2, Int.mul_le_mul hx.2.2 hy.2.2 (by omega) (by have := hx.2.2; omega)⟩

theorem rMul_assoc (x y z : Int × Int) : rMul (rMul x y) z = rMul x (rMul y z) := by simp [rMul, Int.mul_assoc]
theorem rMul_one (x : Int × Int) : rMul x (1, 1) = x := by simp [rMul]
theorem one_rMul (x : Int × Int) : rMul (1, 1) x = x := by simp [rMul]
theorem rPos_one : rPos (1, 1) := ⟨by decide, by decide⟩

theorem rG_facts {x : Int × Int} (hx : rPos x) : 1 ≤ rG x ∧ x.1 = rG x * (rRed x).1 ∧ x.2 = rG x * (rRed x).2 := by
  have h0 : 0 < Nat.gcd x.1.toNat x.2.toNat := Nat.gcd_pos_of_pos_left _ (by have := hx.1; omega)
  have d1 : rG x ∣ x.1 := by
    have := Int.ofNat_dvd.2 (Nat.gcd_dvd_left x.1.toNat x.2.toNat)
    rwa [Int.toNat_of_nonneg (by have := hx.1; omega)] at this
  have d2 : rG x ∣ x.2 := by
    have := Int.ofNat_dvd.2 (Nat.gcd_dvd_right x.1.toNat x.2.toNat)
    rwa [Int.toNat_of_nonneg (by have := hx.2; omega)] at this
  refine ⟨by unfold rG; omega, ?_, ?_⟩
  · exact (Int.mul_ediv_cancel' d1).symm
  · exact (Int.mul_ediv_cancel' d2).symm

theorem rRed_pos {x : Int × Int} (hx : rPos x) : rPos (rRed x) := by
  obtain ⟨h0, h1, h2⟩ := rG_facts hx
  have n1 := hx.1
  have n2 := hx.2
  constructor
  · refine Int.not_lt.1 (fun h => ?_)
    have := Int.mul_nonpos_of_nonneg_of_nonpos (show 0 ≤ rG x by omega) (show (rRed x).1 ≤ 0 by omega)
    omega
  · refine Int.not_lt.1 (fun h => ?_)
    have := Int.mul_nonpos_of_nonneg_of_nonpos (show 0 ≤ rG x by omega) (show (rRed x).2 ≤ 0 by omega)
    omega

theorem rRed_bd {x : Int × Int} {m : Int} (hx : rB x m) : rB (rRed x) m := by
  obtain ⟨h0, h1, h2⟩ := rG_facts hx.pos
  have p := rRed_pos hx.pos
  refine ⟨⟨p.1, ?_⟩, p.2, ?_⟩
  · have := Int.mul_le_mul_of_nonneg_right h0 (show 0 ≤ (rRed x).1 by have := p.1; omega)
    have := hx.1.2
    omega
  · have := Int.mul_le_mul_of_nonneg_right h0 (show 0 ≤ (rRed x).2 by have := p.2; omega)
    have := hx.2.2
    omega

theorem rRed_eq {x : Int × Int} (hx : rPos x) : x.1 * (rRed x).2 = (rRed x).1 * x.2 := by
  obtain ⟨_, h1, h2⟩ := rG_facts hx
  calc x.1 * (rRed x).2 = rG x * (rRed x).1 * (rRed x).2 := by rw [← h1]
    _ = (rRed x).1 * (rG x * (rRed x).2) := by rw [Int.mul_comm (rG x), Int.mul_assoc]
    _ = (rRed x).1 * x.2 := by rw [← h2]

theorem rRed_le {x : Int × Int} (hx : rPos x) : rLe (rRed x) x := by unfold rLe; rw [rRed_eq hx]; exact Int.le_refl _
theorem le_rRed {x : Int × Int} (hx : rPos x) : rLe x (rRed x) := by unfold rLe; rw [rRed_eq hx]; exact Int.le_refl _

theorem rRed_co {x : Int × Int} (hx : rPos x) : rCo (rRed x) := by
  obtain ⟨h0, h1, h2⟩ := rG_facts hx
  have p := rRed_pos hx
  have n1 := hx.1
  have n2 := hx.2
  have e1 : x.1.toNat = (rG x).toNat * (rRed x).1.toNat := by
    rw [← Int.toNat_mul (by omega) (by have := p.1; omega), ← h1]
  have e2 : x.2.toNat = (rG x).toNat * (rRed x).2.toNat := by
    rw [← Int.toNat_mul (by omega) (by have := p.2; omega), ← h2]
  have e3 : (rG x).toNat = Nat.gcd x.1.toNat x.2.toNat := by simp [rG]
  have e4 : Nat.gcd x.1.toNat x.2.toNat = (rG x).toNat * Nat.gcd (rRed x).1.toNat (rRed x).2.toNat := by
    rw [e1, e2, Nat.gcd_mul_left]
  unfold rCo
  rw [← e3] at e4
  exact Nat.eq_of_mul_eq_mul_left (show 0 < (rG x).toNat by omega) (by omega)

theorem rProd_pos {x y : Int × Int} (hx : rPos x) (hy : rPos y) : rPos (rProd x y) := rRed_pos (rMul_pos hx hy)
theorem rProd_bd {x y : Int × Int} {m k : Int} (hx : rB x m) (hy : rB y k) : rB (rProd x y) (m * k) := rRed_bd (rMul_bd hx hy)
theorem rProd_co {x y : Int × Int} (hx : rPos x) (hy : rPos y) : rCo (rProd x y) := rRed_co (rMul_pos hx hy)

/-- Two ratios without a common factor that are equal as fractions are the same. -/
theorem rCo_eq {x y : Int × Int} (hx : rPos x) (hy : rPos y) (cx : rCo x) (cy : rCo y) (h : x.1 * y.2 = y.1 * x.2) : x = y := by
  have n1 := hx.1; have n2 := hx.2; have n3 := hy.1; have n4 := hy.2
  have e : x.1.toNat * y.2.toNat = y.1.toNat * x.2.toNat := by
    rw [← Int.toNat_mul (by omega) (by omega), h, Int.toNat_mul (by omega) (by omega)]
  have d1 : x.1.toNat ∣ y.1.toNat := Nat.Coprime.dvd_of_dvd_mul_right cx ⟨_, e.symm⟩
  have d2 : y.1.toNat ∣ x.1.toNat := Nat.Coprime.dvd_of_dvd_mul_right cy ⟨_, e⟩
  have e1 : x.1.toNat = y.1.toNat := Nat.dvd_antisymm d1 d2
  have e2 : x.1 = y.1 := by omega
  rw [e2] at h
  have e3 : x.2 = y.2 := (Int.eq_of_mul_eq_mul_left (show y.1 ≠ 0 by omega) h).symm
  exact Prod.ext e2 e3

theorem rMax_or (x y : Int × Int) : rMax x y = x ∨ rMax x y = y := by
  unfold rMax
  split
  · exact .inr rfl
  · exact .inl rfl
theorem rMax_l (x y : Int × Int) : rLe x (rMax x y) := by
  unfold rMax rLe
  split
  · omega
  · exact Int.le_refl _
theorem rMax_r (x y : Int × Int) : rLe y (rMax x y) := by
  unfold rMax rLe
  split
  · exact Int.le_refl _
  · omega
theorem rMax_no {x y : Int × Int} (h : rLe y x) : rMax x y = x := by
  unfold rMax rLe at *
  rw [if_neg (by omega)]

/-- One more is used. -/
def setU (u : Nat → Bool) (k : Nat) : Nat → Bool := fun j => decide (j = k) || u j

section
variable (W : Nat → Nat → Int × Int) (N to : Nat)

/-- The best one of the straight way and those over the first k moneys. -/
def bestK (rec : (Nat → Bool) → Nat → Int × Int → Int × Int) (u : Nat → Bool) (a : Nat) (now : Int × Int) : Nat → Int × Int
  | 0 => rProd now (W a to)
  | k + 1 => if u k = false ∧ k ≠ to then rMax (bestK rec u a now k) (rec (setU u k) k (rProd now (W a k))) else bestK rec u a now k

/-- The best product on ways over at most so many moneys. -/
def bestM : Nat → (Nat → Bool) → Nat → Int × Int → Int × Int
  | 0 => fun _ a now => rProd now (W a to)
  | f + 1 => fun u a now => bestK W to (bestM f) u a now N

/-- How many of the first moneys are free. -/
def freeC (u : Nat → Bool) : Nat → Nat
  | 0 => 0
  | k + 1 => freeC u k + (if u k = false ∧ k ≠ to then 1 else 0)

/-- The product on a way. -/
def pw : List Nat → Int × Int
  | [] => (1, 1)
  | [_] => (1, 1)
  | a :: b :: l => rMul (W a b) (pw (b :: l))
end

section
variable {W : Nat → Nat → Int × Int} {N to : Nat}

theorem freeC_le (u : Nat → Bool) (k j : Nat) (hk : k < j) (hf : u k = false ∧ k ≠ to) : freeC to (setU u k) j + 1 = freeC to u j := by
  have hlow : ∀ i, i ≤ k → freeC to (setU u k) i = freeC to u i := by
    intro i
    induction i with
    | zero => intro _; rfl
    | succ i ih =>
      intro hi
      rw [freeC, freeC, ih (by omega)]
      have : setU u k i = u i := by simp [setU]; omega
      rw [this]
  induction j with
  | zero => omega
  | succ j ih =>
    rw [freeC, freeC]
    by_cases e : j = k
    · subst e
      rw [hlow j (Nat.le_refl _), if_pos hf]
      have : setU u j j = true := by simp [setU]
      rw [if_neg (by simp [this])]
    · have := ih (by omega)
      have e2 : setU u k j = u j := by simp [setU, e]
      rw [e2]
      omega

theorem freeC_none {u : Nat → Bool} {j : Nat} (h : freeC to u j = 0) {k : Nat} (hk : k < j) : ¬ (u k = false ∧ k ≠ to) := by
  intro hf
  have := freeC_le u k j hk hf
  omega

theorem bestK_none (rec : (Nat → Bool) → Nat → Int × Int → Int × Int) {u : Nat → Bool} {a : Nat} {now : Int × Int} : ∀ j, freeC to u j = 0 → bestK W to rec u a now j = rProd now (W a to) := by
  intro j
  induction j with
  | zero => intro _; rfl
  | succ j ih =>
    intro h
    rw [bestK, if_neg (freeC_none h (Nat.lt_succ_self j))]
    refine ih ?_
    rw [freeC] at h
    omega

theorem bestK_bd {rec : (Nat → Bool) → Nat → Int × Int → Int × Int} {u : Nat → Bool} {a : Nat} {now : Int × Int} {m : Int} (h0 : rB (rProd now (W a to)) m) : ∀ j, (∀ k, k < j → rB (rec (setU u k) k (rProd now (W a k))) m) → rB (bestK W to rec u a now j) m := by
  intro j
  induction j with
  | zero => intro _; exact h0
  | succ j ih =>
    intro h
    have i0 := ih (fun k hk => h k (by omega))
    rw [bestK]
    split
    · rcases rMax_or (bestK W to rec u a now j) (rec (setU u j) j (rProd now (W a j))) with e | e
      · rw [e]; exact i0
      · rw [e]; exact h j (Nat.lt_succ_self j)
    · exact i0

theorem rB.mono {x : Int × Int} {m k : Int} (h : rB x m) (hm : m ≤ k) : rB x k := ⟨⟨h.1.1, by have := h.1.2; omega⟩, h.2.1, by have := h.2.2; omega⟩

theorem bestM_bd (hW : ∀ i j, i < N → j < N → rB (W i j) 20) (ht : to < N) : ∀ (f : Nat) (u : Nat → Bool) (a : Nat) (now : Int × Int) (m : Int), a < N → rB now m → rB (bestM W N to f u a now) (m * 20 ^ (f + 1)) := by
  intro f
  induction f with
  | zero => intro u a now m ha hn; simpa [bestM] using rProd_bd hn (hW a to ha ht)
  | succ f ih =>
    intro u a now m ha hn
    have hm : 1 ≤ m := by have := hn.1.1; have := hn.1.2; omega
    have e : m * 20 ^ (f + 1 + 1) = m * 20 * 20 ^ (f + 1) := by rw [Int.pow_succ, Int.mul_assoc, Int.mul_comm (20 ^ (f + 1)) 20]
    have hp : (1 : Int) ≤ 20 ^ (f + 1) := Int.pow_pos (by decide)
    rw [bestM, e]
    refine bestK_bd ?_ N (fun k hk => ih _ k _ _ hk (rProd_bd hn (hW a k ha hk)))
    refine (rProd_bd hn (hW a to ha ht)).mono ?_
    have := Int.mul_le_mul_of_nonneg_left hp (show 0 ≤ m * 20 by omega)
    omega

theorem bestK_co {rec : (Nat → Bool) → Nat → Int × Int → Int × Int} {u : Nat → Bool} {a : Nat} {now : Int × Int} (h0 : rCo (rProd now (W a to))) : ∀ j, (∀ k, k < j → rCo (rec (setU u k) k (rProd now (W a k)))) → rCo (bestK W to rec u a now j) := by
  intro j
  induction j with
  | zero => intro _; exact h0
  | succ j ih =>
    intro h
    have i0 := ih (fun k hk => h k (by omega))
    rw [bestK]
    split
    · rcases rMax_or (bestK W to rec u a now j) (rec (setU u j) j (rProd now (W a j))) with e | e
      · rw [e]; exact i0
      · rw [e]; exact h j (Nat.lt_succ_self j)
    · exact i0

theorem bestM_co (hW : ∀ i j, i < N → j < N → rB (W i j) 20) (ht : to < N) : ∀ (f : Nat) (u : Nat → Bool) (a : Nat) (now : Int × Int), a < N → rPos now → rCo (bestM W N to f u a now) := by
  intro f
  induction f with
  | zero => intro u a now ha hn; exact rProd_co hn (hW a to ha ht).pos
  | succ f ih =>
    intro u a now ha hn
    rw [bestM]
    exact bestK_co (rProd_co hn (hW a to ha ht).pos) N (fun k hk => ih _ k _ hk (rProd_pos hn (hW a k ha hk).pos))

theorem bestM_pos (hW : ∀ i j, i < N → j < N → rB (W i j) 20) (ht : to < N) (f : Nat) (u : Nat → Bool) (a : Nat) (now : Int × Int) (ha : a < N) (hn : rPos now) : rPos (bestM W N to f u a now) := by
  refine (bestM_bd hW ht f u a now (max now.1 now.2) ha ⟨⟨hn.1, by omega⟩, hn.2, by omega⟩).pos

theorem bestK_pos {rec : (Nat → Bool) → Nat → Int × Int → Int × Int} {u : Nat → Bool} {a : Nat} {now : Int × Int} (h0 : rPos (rProd now (W a to))) : ∀ j, (∀ k, k < j → rPos (rec (setU u k) k (rProd now (W a k)))) → rPos (bestK W to rec u a now j) := by
  intro j
  induction j with
  | zero => intro _; exact h0
  | succ j ih =>
    intro h
    have i0 := ih (fun k hk => h k (by omega))
    rw [bestK]
    split
    · rcases rMax_or (bestK W to rec u a now j) (rec (setU u j) j (rProd now (W a j))) with e | e
      · rw [e]; exact i0
      · rw [e]; exact h j (Nat.lt_succ_self j)
    · exact i0

/-- The straight way, and each one over a free money, is no more than the best one. -/
theorem bestK_ge {rec : (Nat → Bool) → Nat → Int × Int → Int × Int} {u : Nat → Bool} {a : Nat} {now : Int × Int} (h0 : rPos (rProd now (W a to))) : ∀ j, (∀ k, k < j → rPos (rec (setU u k) k (rProd now (W a k)))) → rLe (rProd now (W a to)) (bestK W to rec u a now j) ∧ ∀ k, k < j → u k = false → k ≠ to → rLe (rec (setU u k) k (rProd now (W a k))) (bestK W to rec u a now j) := by
  intro j
  induction j with
  | zero => intro _; exact ⟨rLe_refl _, fun k hk => by omega⟩
  | succ j ih =>
    intro h
    have i0 := ih (fun k hk => h k (by omega))
    have p0 := bestK_pos h0 j (fun k hk => h k (by omega))
    have p1 := bestK_pos h0 (j + 1) h
    rw [bestK] at p1 ⊢
    split
    · rename_i hc
      rw [if_pos hc] at p1
      have hl := rMax_l (bestK W to rec u a now j) (rec (setU u j) j (rProd now (W a j)))
      refine ⟨rLe_trans h0 p0 p1 i0.1 hl, fun k hk hu hn => ?_⟩
      by_cases e : k = j
      · subst e; exact rMax_r _ _
      · exact rLe_trans (h k hk) p0 p1 (i0.2 k (by omega) hu hn) hl
    · rename_i hc
      refine ⟨i0.1, fun k hk hu hn => ?_⟩
      by_cases e : k = j
      · subst e; exact absurd ⟨hu, hn⟩ hc
      · exact i0.2 k (by omega) hu hn

theorem pw_pos (hW : ∀ i j, i < N → j < N → rB (W i j) 20) : ∀ l : List Nat, (∀ x ∈ l, x < N) → rPos (pw W l) := by
  intro l
  induction l with
  | nil => intro _; exact rPos_one
  | cons a t ih =>
    intro h
    cases t with
    | nil => exact rPos_one
    | cons b l => exact rMul_pos (hW a b (h a (by simp)) (h b (by simp))).pos (ih (fun x hx => h x (by simp [hx])))

/-- A way of different moneys gives no more than the best one. -/
theorem bestM_ge (hW : ∀ i j, i < N → j < N → rB (W i j) 20) (ht : to < N) : ∀ (p : List Nat) (f : Nat) (u : Nat → Bool) (a : Nat) (now : Int × Int), a < N → rPos now → p.length ≤ f → p.Nodup → (∀ x ∈ p, x < N ∧ u x = false ∧ x ≠ to) → rLe (rMul now (pw W (a :: (p ++ [to])))) (bestM W N to f u a now) := by
  intro p
  induction p with
  | nil =>
    intro f u a now ha hn _ _ _
    have hp : pw W (a :: ([] ++ [to])) = W a to := by simp [pw, rMul_one]
    rw [hp]
    have w0 := (hW a to ha ht).pos
    have h1 := le_rRed (rMul_pos hn w0)
    cases f with
    | zero => exact h1
    | succ f =>
      have h2 := (bestK_ge (rec := bestM W N to f) (u := u) (rProd_pos hn w0) N (fun k hk => bestM_pos hW ht f _ k _ hk (rProd_pos hn (hW a k ha hk).pos))).1
      exact rLe_trans (rMul_pos hn w0) (rProd_pos hn w0) (bestM_pos hW ht (f + 1) u a now ha hn) h1 h2
  | cons k p ih =>
    intro f u a now ha hn hl hd hx
    obtain ⟨hkN, hku, hkt⟩ := hx k (by simp)
    cases f with
    | zero => simp at hl
    | succ f =>
      have w0 := (hW a k ha hkN).pos
      have hd' := List.nodup_cons.1 hd
      have h1 := ih f (setU u k) k (rProd now (W a k)) hkN (rProd_pos hn w0) (by simp at hl; omega) hd'.2 (fun x hx' => by
        obtain ⟨g1, g2, g3⟩ := hx x (by simp [hx'])
        refine ⟨g1, ?_, g3⟩
        have : x ≠ k := fun e => hd'.1 (e ▸ hx')
        simp [setU, g2, this])
      have h2 := (bestK_ge (rec := bestM W N to f) (u := u) (rProd_pos hn (hW a to ha ht).pos) N (fun k hk => bestM_pos hW ht f _ k _ hk (rProd_pos hn (hW a k ha hk).pos))).2 k hkN hku hkt
      have hall : ∀ x ∈ k :: (p ++ [to]), x < N := by
        intro x hx'
        simp at hx'
        rcases hx' with rfl | hx' | rfl
        · exact hkN
        · exact (hx x (by simp [hx'])).1
        · exact ht
      have pp := pw_pos hW _ hall
      have e : rMul now (pw W (a :: (k :: p ++ [to]))) = rMul (rMul now (W a k)) (pw W (k :: (p ++ [to]))) := by
        rw [rMul_assoc]; rfl
      rw [e]
      have h0 := rLe_mul (rMul_pos hn w0) (rProd_pos hn w0) pp pp (le_rRed (rMul_pos hn w0)) (rLe_refl _)
      have q0 := rMul_pos (rMul_pos hn w0) pp
      have q1 := rMul_pos (rProd_pos hn w0) pp
      have q2 := bestM_pos hW ht f (setU u k) k (rProd now (W a k)) hkN (rProd_pos hn w0)
      have q3 := bestM_pos hW ht (f + 1) u a now ha hn
      exact rLe_trans q0 q1 q3 h0 (rLe_trans q1 q2 q3 h1 h2)

/-- The best one is one of a way. -/
theorem bestM_is (hW : ∀ i j, i < N → j < N → rB (W i j) 20) (ht : to < N) : ∀ (f : Nat) (u : Nat → Bool) (a : Nat) (now : Int × Int), a < N → rPos now → ∃ q : List Nat, (∀ x ∈ q, x < N) ∧ rLe (bestM W N to f u a now) (rMul now (pw W (a :: (q ++ [to])))) := by
  have straight : ∀ (a : Nat) (now : Int × Int), a < N → rPos now → ∃ q : List Nat, (∀ x ∈ q, x < N) ∧ rLe (rProd now (W a to)) (rMul now (pw W (a :: (q ++ [to])))) := by
    intro a now ha hn
    refine ⟨[], by simp, ?_⟩
    have hp : pw W (a :: ([] ++ [to])) = W a to := by simp [pw, rMul_one]
    rw [hp]
    exact rRed_le (rMul_pos hn (hW a to ha ht).pos)
  intro f
  induction f with
  | zero => intro u a now ha hn; exact straight a now ha hn
  | succ f ih =>
    intro u a now ha hn
    rw [bestM]
    have : ∀ j, j ≤ N → ∃ q : List Nat, (∀ x ∈ q, x < N) ∧ rLe (bestK W to (bestM W N to f) u a now j) (rMul now (pw W (a :: (q ++ [to])))) := by
      intro j
      induction j with
      | zero => intro _; exact straight a now ha hn
      | succ j ihj =>
        intro hj
        have i0 := ihj (by omega)
        rw [bestK]
        split
        · rcases rMax_or (bestK W to (bestM W N to f) u a now j) (bestM W N to f (setU u j) j (rProd now (W a j))) with e | e
          · rw [e]; exact i0
          · rw [e]
            have w0 := (hW a j ha (by omega)).pos
            obtain ⟨q, hq, hle⟩ := ih (setU u j) j (rProd now (W a j)) (by omega) (rProd_pos hn w0)
            have hall : ∀ x ∈ j :: (q ++ [to]), x < N := by
              intro x hx'
              simp at hx'
              rcases hx' with rfl | hx' | rfl
              · omega
              · exact hq x hx'
              · exact ht
            have pp := pw_pos hW _ hall
            refine ⟨j :: q, fun x hx => ?_, ?_⟩
            · rcases List.mem_cons.1 hx with rfl | hx
              · omega
              · exact hq x hx
            · have e2 : rMul now (pw W (a :: (j :: q ++ [to]))) = rMul (rMul now (W a j)) (pw W (j :: (q ++ [to]))) := by
                rw [rMul_assoc]; rfl
              rw [e2]
              have h0 := rLe_mul (rProd_pos hn w0) (rMul_pos hn w0) pp pp (rRed_le (rMul_pos hn w0)) (rLe_refl _)
              exact rLe_trans (bestM_pos hW ht f _ j _ (by omega) (rProd_pos hn w0)) (rMul_pos (rProd_pos hn w0) pp) (rMul_pos (rMul_pos hn w0) pp) hle h0
        · exact i0
    exact this N (Nat.le_refl _)

end

end Go.Proofs.Ytiffjeclpgcabaa
