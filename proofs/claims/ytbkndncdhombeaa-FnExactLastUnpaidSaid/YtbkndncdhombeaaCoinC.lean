/- Coins: the greatest common divisor, which amounts are paid, two coins. -/
import Derived.Test.YtbkndncdhombeaaCoinP
namespace Go.Proofs.Ytbkndncdhombeaa

/-- The greatest common divisor of all numbers. -/
def gcdL (cs : List Int) : Int := cs.foldl (fun g c => ((Nat.gcd g.toNat c.toNat : Nat) : Int)) 0

theorem gcdL_snoc (P : List Int) (c : Int) : gcdL (P ++ [c]) = ((Nat.gcd (gcdL P).toNat c.toNat : Nat) : Int) := by
  unfold gcdL
  rw [List.foldl_append]
  rfl

theorem bezout : ∀ (b a : Nat), ∃ u v : Int, (a : Int) * u + b * v = (Nat.gcd a b : Nat) := by
  intro b a
  induction a, b using Nat.gcd.induction with
  | H0 n => exact ⟨0, 1, by simp⟩
  | H1 m n hm ih =>
    obtain ⟨u, v, h⟩ := ih
    rw [Nat.gcd_rec m n]
    refine ⟨v - (n / m : Nat) * u, u, ?_⟩
    rw [← h]
    have e : ((n % m : Nat) : Int) = n - m * (n / m : Nat) := by
      have := Nat.mod_add_div n m
      have h2 : ((n % m + m * (n / m) : Nat) : Int) = n := by rw [this]
      rw [Int.natCast_add, Int.natCast_mul] at h2
      omega
    rw [e, Int.mul_sub, Int.sub_mul, Int.mul_assoc]
    omega

theorem gcdL_nonneg (cs : List Int) : 0 ≤ gcdL cs := by
  refine snoc_ind (p := fun cs => 0 ≤ gcdL cs) (by simp [gcdL]) (fun P c _ => ?_) cs
  rw [gcdL_snoc]
  omega

theorem gcdL_pos {cs : List Int} (hp : Pos cs) (hne : cs ≠ []) : 1 ≤ gcdL cs := by
  revert hp hne
  refine snoc_ind (p := fun cs => Pos cs → cs ≠ [] → 1 ≤ gcdL cs) (fun _ h => absurd rfl h) (fun P c _ hp _ => ?_) cs
  have := hp c (by simp)
  rw [gcdL_snoc]
  have : 0 < Nat.gcd (gcdL P).toNat c.toNat := Nat.gcd_pos_of_pos_right _ (by omega)
  omega

theorem gcdL_dvd {cs : List Int} (hp : Pos cs) : ∀ c ∈ cs, gcdL cs ∣ c := by
  revert hp
  refine snoc_ind (p := fun cs => Pos cs → ∀ c ∈ cs, gcdL cs ∣ c) (fun _ c hc => by cases hc) (fun P d ih hp c hc => ?_) cs
  rw [gcdL_snoc]
  simp only [List.mem_append, List.mem_singleton] at hc
  have hg := gcdL_nonneg P
  rcases hc with hc | rfl
  · have h1 := ih hp.left c hc
    have h2 : ((Nat.gcd (gcdL P).toNat d.toNat : Nat) : Int) ∣ gcdL P := by
      have h3 : ((Nat.gcd (gcdL P).toNat d.toNat : Nat) : Int) ∣ ((gcdL P).toNat : Int) := Int.natCast_dvd_natCast.2 (Nat.gcd_dvd_left _ _)
      rwa [Int.toNat_of_nonneg hg] at h3
    exact Int.dvd_trans h2 h1
  · have h1 := hp c (by simp)
    have h3 : ((Nat.gcd (gcdL P).toNat c.toNat : Nat) : Int) ∣ (c.toNat : Int) := Int.natCast_dvd_natCast.2 (Nat.gcd_dvd_right _ _)
    rwa [Int.toNat_of_nonneg (by omega)] at h3

/-- What is paid is a multiple. -/
theorem pays_dvd {cs : List Int} (hp : Pos cs) {n : Nat} {x : Int} (h : Pays cs n x) : gcdL cs ∣ x := by
  induction h with
  | zero => exact Int.dvd_zero _
  | more hc _ ih => exact Int.dvd_add ih (gcdL_dvd hp _ hc)

/-- Some number of one coin leaves a multiple of the others. -/
theorem some_left {D c x : Int} (hD : 1 ≤ D) (hc : 1 ≤ c) (h : ((Nat.gcd D.toNat c.toNat : Nat) : Int) ∣ x) :
    ∃ (t : Nat) (q : Int), D = q * (Nat.gcd D.toNat c.toNat : Nat) ∧ (t : Int) < q ∧ D ∣ x - t * c := by
  obtain ⟨u, v, huv⟩ := bezout c.toNat D.toNat
  rw [Int.toNat_of_nonneg (show 0 ≤ D by omega), Int.toNat_of_nonneg (show 0 ≤ c by omega)] at huv
  have hgp : 0 < Nat.gcd D.toNat c.toNat := Nat.gcd_pos_of_pos_right _ (by omega)
  have d1 : ((Nat.gcd D.toNat c.toNat : Nat) : Int) ∣ D := by
    have h3 : ((Nat.gcd D.toNat c.toNat : Nat) : Int) ∣ (D.toNat : Int) := Int.natCast_dvd_natCast.2 (Nat.gcd_dvd_left _ _)
    rwa [Int.toNat_of_nonneg (by omega)] at h3
  have d2 : ((Nat.gcd D.toNat c.toNat : Nat) : Int) ∣ c := by
    have h3 : ((Nat.gcd D.toNat c.toNat : Nat) : Int) ∣ (c.toNat : Int) := Int.natCast_dvd_natCast.2 (Nat.gcd_dvd_right _ _)
    rwa [Int.toNat_of_nonneg (by omega)] at h3
  have hg : (1 : Int) ≤ ((Nat.gcd D.toNat c.toNat : Nat) : Int) := by omega
  clear hgp
  generalize ((Nat.gcd D.toNat c.toNat : Nat) : Int) = g at *
  obtain ⟨q, hq⟩ := d1
  obtain ⟨r, hr⟩ := d2
  obtain ⟨k, hk⟩ := h
  have hq1 : 1 ≤ q := by
    by_cases h0 : 1 ≤ q
    · exact h0
    · have := Int.mul_le_mul_of_nonneg_left (show q ≤ 0 by omega) (show 0 ≤ g by omega)
      omega
  have m1 := Int.emod_nonneg (v * k) (show q ≠ 0 by omega)
  have m2 := Int.emod_lt_of_pos (v * k) (show 0 < q by omega)
  have m3 := Int.mul_ediv_add_emod (v * k) q
  refine ⟨(v * k % q).toNat, q, by rw [hq, Int.mul_comm], by omega, ?_⟩
  rw [Int.toNat_of_nonneg m1]
  refine ⟨u * k + r * (v * k / q), ?_⟩
  have e1 : v * k % q = v * k - q * (v * k / q) := by omega
  rw [e1, Int.sub_mul, Int.mul_add]
  have e2 : x = D * u * k + c * v * k := by rw [hk, ← huv, Int.add_mul]
  have e3 : D * (u * k) = D * u * k := by rw [Int.mul_assoc]
  have e4 : v * k * c = c * v * k := by rw [Int.mul_comm (v * k) c, Int.mul_assoc]
  have e5 : q * (v * k / q) * c = D * (r * (v * k / q)) := by
    rw [hq, hr]
    generalize v * k / q = s
    rw [Int.mul_comm g q, Int.mul_assoc q g, Int.mul_assoc q s, Int.mul_comm g r, Int.mul_left_comm g r s, Int.mul_comm s (r * g), Int.mul_assoc r g s]
  omega

/-- From somewhere on all multiples are paid. -/
theorem cover {M : Int} (cs : List Int) : Pos cs → (∀ c ∈ cs, c ≤ M) → ∀ a : Int, cs.head? = some a → ∀ x : Int, gcdL cs ∣ x → ∀ p : Int, a = p * gcdL cs → 0 ≤ x → (p - 1) * M ≤ x → ∃ n, Pays cs n x := by
  refine snoc_ind (p := fun cs => Pos cs → (∀ c ∈ cs, c ≤ M) → ∀ a : Int, cs.head? = some a → ∀ x : Int, gcdL cs ∣ x → ∀ p : Int, a = p * gcdL cs → 0 ≤ x → (p - 1) * M ≤ x → ∃ n, Pays cs n x) ?_ ?_ cs
  · intro _ _ a h
    simp at h
  · intro P c ih hp hM a ha x hx p' hp' h0 hge
    have hc := hp c (by simp)
    have hcM := hM c (by simp)
    by_cases hP : P = []
    · subst hP
      have e : gcdL ([] ++ [c]) = c := by
        rw [gcdL_snoc]
        show ((Nat.gcd 0 c.toNat : Nat) : Int) = c
        rw [Nat.gcd_zero_left]
        omega
      rw [e] at hx
      obtain ⟨k, rfl⟩ := hx
      have hk : 0 ≤ k := by
        by_cases hk : 0 ≤ k
        · exact hk
        · have := Int.mul_lt_mul_of_pos_left (show k < 0 by omega) (show 0 < c by omega)
          omega
      have := Pays.times (cs := [] ++ [c]) (c := c) (by simp) k.toNat
      rw [Int.toNat_of_nonneg hk, Int.mul_comm] at this
      exact ⟨_, this⟩
    · have hD := gcdL_pos hp.left hP
      have ha' : P.head? = some a := by
        cases P with
        | nil => exact absurd rfl hP
        | cons b Q => simpa using ha
      have haP : a ∈ P := List.mem_of_mem_head? (by rw [ha']; rfl)
      have ha1 := hp a (by simp [haP])
      rw [gcdL_snoc] at hx hp'
      obtain ⟨t, q, hq, ht, hd⟩ := some_left hD hc hx
      obtain ⟨p, hpD⟩ := gcdL_dvd hp.left a haP
      have hg1 : (1 : Int) ≤ ((Nat.gcd (gcdL P).toNat c.toNat : Nat) : Int) := by
        have : 0 < Nat.gcd (gcdL P).toNat c.toNat := Nat.gcd_pos_of_pos_right _ (by omega)
        omega
      generalize ((Nat.gcd (gcdL P).toNat c.toNat : Nat) : Int) = g at *
      have hp1 : 1 ≤ p := by
        by_cases h : 1 ≤ p
        · exact h
        · have := Int.mul_le_mul_of_nonneg_left (show p ≤ 0 by omega) (show 0 ≤ gcdL P by omega)
          omega
      have epq : p' = p * q := by
        have e1 : p' * g = (p * q) * g := by
          rw [← hp', hpD, Int.mul_assoc, ← hq, Int.mul_comm]
        exact Int.eq_of_mul_eq_mul_right (by omega) e1
      have hM0 : 1 ≤ M := by omega
      have htc : (t : Int) * c ≤ (q - 1) * M := by
        have h1 := Int.mul_le_mul_of_nonneg_left hcM (show 0 ≤ (t : Int) by omega)
        have h2 := Int.mul_le_mul_of_nonneg_right (show (t : Int) ≤ q - 1 by omega) (show 0 ≤ M by omega)
        omega
      have hpos := Int.mul_nonneg (Int.mul_nonneg (show 0 ≤ p - 1 by omega) (show 0 ≤ q - 1 by omega)) (show 0 ≤ M by omega)
      have e2 : (p - 1) * (q - 1) * M = p * q * M - p * M - q * M + M := by
        rw [Int.sub_mul p 1, Int.mul_sub p q 1, Int.one_mul, Int.mul_one, Int.sub_mul, Int.sub_mul, Int.sub_mul, Int.one_mul]
        omega
      rw [epq, Int.sub_mul, Int.one_mul] at hge
      rw [Int.sub_mul, Int.one_mul] at htc
      have hpM : (p - 1) * M = p * M - M := by rw [Int.sub_mul, Int.one_mul]
      have hpM0 := Int.mul_nonneg (show 0 ≤ p - 1 by omega) (show 0 ≤ M by omega)
      obtain ⟨n, hn⟩ := ih hp.left (fun d hd => hM d (by simp [hd])) a ha' (x - t * c) hd p (by rw [hpD, Int.mul_comm]) (by omega) (by omega)
      have h5 := (hn.mono (ds := P ++ [c]) (fun d hd => by simp [hd])).add (Pays.times (cs := P ++ [c]) (c := c) (by simp) t)
      rw [Int.sub_add_cancel] at h5
      exact ⟨_, h5⟩

/-- Without a common divisor all amounts from (least - 1) times greatest on are paid. -/
theorem cover_one {cs : List Int} (hp : Pos cs) {a M : Int} (ha : cs.head? = some a) (hM : ∀ c ∈ cs, c ≤ M) (hg : gcdL cs = 1) {x : Int} (h0 : 0 ≤ x) (hx : (a - 1) * M ≤ x) : 0 ≤ fwV cs x := by
  obtain ⟨n, hn⟩ := cover cs hp hM a ha x (by rw [hg]; exact Int.one_dvd _) a (by rw [hg]; omega) h0 hx
  exact (fw_le hp hn).1

/-- Coins of at most 30 pay all multiples from 870 on. -/
theorem cover_30 {cs : List Int} (hp : Pos cs) (hne : cs ≠ []) (hM : ∀ c ∈ cs, c ≤ 30) {x : Int} (hx : gcdL cs ∣ x) (h : 870 ≤ x) : 0 ≤ fwV cs x := by
  cases cs with
  | nil => exact absurd rfl hne
  | cons a R =>
    have hg := gcdL_pos hp hne
    have h1 := hp a (by simp)
    have h2 := hM a (by simp)
    obtain ⟨p, hpa⟩ := gcdL_dvd hp a (by simp)
    have hp30 : p ≤ 30 := by
      by_cases h3 : p ≤ 30
      · exact h3
      · have := Int.mul_le_mul_of_nonneg_right hg (show 0 ≤ p by omega)
        omega
    obtain ⟨n, hn⟩ := cover (a :: R) hp hM a rfl x hx p (by rw [Int.mul_comm]; exact hpa) (by omega) (by omega)
    exact (fw_le hp hn).1

/-! What can't be paid: the last one, and how many. -/

def lastU (p : Nat → Bool) : Nat → Int × Int
  | 0 => (0, 0)
  | t + 1 => if p (t + 1) then lastU p t else (((t + 1 : Nat) : Int), (lastU p t).2 + 1)

theorem lastU_ext {p : Nat → Bool} {t : Nat} : ∀ k : Nat, (∀ x, t < x → x ≤ t + k → p x = true) → lastU p (t + k) = lastU p t
  | 0, _ => rfl
  | k + 1, h => by
    rw [← Nat.add_assoc, lastU, if_pos (h _ (by omega) (by omega))]
    exact lastU_ext k (fun x h1 h2 => h x h1 (by omega))

theorem lastU_facts (p : Nat → Bool) : ∀ t : Nat, 0 ≤ (lastU p t).1 ∧ (lastU p t).1 ≤ t ∧ 0 ≤ (lastU p t).2 ∧ (lastU p t).2 ≤ t ∧ (∀ x : Nat, (lastU p t).1 < x → x ≤ t → p x = true) ∧ ((lastU p t).1 = 0 ∨ p (lastU p t).1.toNat = false)
  | 0 => ⟨by simp [lastU], by simp [lastU], by simp [lastU], by simp [lastU], fun x h1 h2 => by simp [lastU] at h1; omega, .inl rfl⟩
  | t + 1 => by
    obtain ⟨h1, h2, h3, h4, h5, h6⟩ := lastU_facts p t
    unfold lastU
    split
    · rename_i hp
      refine ⟨h1, by omega, h3, by omega, fun x h7 h8 => ?_, h6⟩
      by_cases he : x = t + 1
      · rw [he]; exact hp
      · exact h5 x h7 (by omega)
    · rename_i hp
      refine ⟨by simp only []; omega, by simp only []; omega, by simp only []; omega, by simp only []; omega, fun x h7 h8 => ?_, .inr ?_⟩
      · simp only [] at h7; omega
      · simp only [Int.toNat_natCast]
        simpa using hp

/-- How many are not paid below an end. -/
def cntU (p : Nat → Bool) : Nat → Int
  | 0 => 0
  | t + 1 => cntU p t + (if p t then 0 else 1)

theorem lastU_count {p : Nat → Bool} (h0 : p 0 = true) : ∀ t : Nat, (lastU p t).2 = cntU p (t + 1)
  | 0 => by simp [lastU, cntU, h0]
  | t + 1 => by
    rw [cntU, ← lastU_count h0 t]
    show (if p (t + 1) = true then lastU p t else (((t + 1 : Nat) : Int), (lastU p t).2 + 1)).2 = (lastU p t).2 + (if p (t + 1) = true then 0 else 1)
    cases p (t + 1) <;> simp

def sumF (f : Nat → Int) : Nat → Int
  | 0 => 0
  | n + 1 => sumF f n + f n

theorem sumF_front (f : Nat → Int) : ∀ n : Nat, sumF f (n + 1) = f 0 + sumF (fun x => f (x + 1)) n
  | 0 => by simp [sumF]
  | n + 1 => by
    rw [sumF, sumF_front f n]
    show f 0 + sumF (fun x => f (x + 1)) n + f (n + 1) = f 0 + (sumF (fun x => f (x + 1)) n + f (n + 1))
    omega

theorem sumF_back (f : Nat → Int) : ∀ n : Nat, sumF (fun x => f (n - 1 - x)) n = sumF f n
  | 0 => rfl
  | n + 1 => by
    rw [sumF_front]
    have := sumF_back f n
    have e : sumF (fun x => f (n + 1 - 1 - (x + 1))) n = sumF (fun x => f (n - 1 - x)) n := by
      congr 1
      funext x
      congr 1
      omega
    rw [e, this]
    show f (n + 1 - 1 - 0) + sumF f n = sumF f n + f n
    rw [show n + 1 - 1 - 0 = n by omega]
    omega

theorem sumF_pair {f g : Nat → Int} : ∀ n : Nat, (∀ x, x < n → f x + g x = 1) → sumF f n + sumF g n = n
  | 0, _ => rfl
  | n + 1, h => by
    have := sumF_pair n (fun x hx => h x (by omega))
    have := h n (by omega)
    show sumF f n + f n + (sumF g n + g n) = _
    omega

theorem cntU_sum (p : Nat → Bool) : ∀ n : Nat, cntU p n = sumF (fun x => if p x then 0 else 1) n
  | 0 => rfl
  | n + 1 => by rw [cntU, cntU_sum p n]; rfl

/-! Two coins. -/

theorem pays_two {a b x : Int} : (∃ n, Pays [a, b] n x) ↔ ∃ u v : Int, 0 ≤ u ∧ 0 ≤ v ∧ x = u * a + v * b := by
  constructor
  · rintro ⟨n, h⟩
    induction h with
    | zero => exact ⟨0, 0, by omega, by omega, by simp⟩
    | @more n x c hc _ ih =>
      obtain ⟨u, v, hu, hv, rfl⟩ := ih
      simp only [List.mem_cons, List.not_mem_nil, or_false] at hc
      rcases hc with rfl | rfl
      · exact ⟨u + 1, v, by omega, hv, by rw [Int.add_mul, Int.one_mul]; omega⟩
      · exact ⟨u, v + 1, hu, by omega, by rw [Int.add_mul, Int.one_mul]; omega⟩
  · rintro ⟨u, v, hu, hv, rfl⟩
    have h1 := Pays.times (cs := [a, b]) (c := a) (by simp) u.toNat
    have h2 := Pays.times (cs := [a, b]) (c := b) (by simp) v.toNat
    rw [Int.toNat_of_nonneg hu] at h1
    rw [Int.toNat_of_nonneg hv] at h2
    exact ⟨_, h1.add h2⟩

theorem gcd_two (a b : Int) : gcdL [a, b] = ((Nat.gcd a.toNat b.toNat : Nat) : Int) := by
  show ((Nat.gcd ((Nat.gcd (0 : Int).toNat a.toNat : Nat) : Int).toNat b.toNat : Nat) : Int) = _
  rw [show (0 : Int).toNat = 0 from rfl, Nat.gcd_zero_left, Int.toNat_natCast]

theorem two_swap {a b : Int} (ha : 1 ≤ a) (hb : 1 ≤ b) (hg : gcdL [a, b] = 1) (x : Int) : pyB [a, b] (a * b - a - b - x) = !pyB [a, b] x := by
  have hp : Pos [a, b] := fun c hc => by
    simp only [List.mem_cons, List.not_mem_nil, or_false] at hc
    omega
  obtain ⟨u0, v0, h0⟩ := bezout b.toNat a.toNat
  rw [gcd_two a b] at hg
  rw [hg, Int.toNat_of_nonneg (show 0 ≤ a by omega), Int.toNat_of_nonneg (show 0 ≤ b by omega)] at h0
  have hnot : ¬ (pyB [a, b] x = true ∧ pyB [a, b] (a * b - a - b - x) = true) := by
    rintro ⟨h1, h2⟩
    obtain ⟨u, v, hu, hv, e1⟩ := pays_two.1 ((pyB_iff hp).1 h1)
    obtain ⟨u', v', hu', hv', e2⟩ := pays_two.1 ((pyB_iff hp).1 h2)
    have e3 : a * b = (u + u' + 1) * a + (v + v' + 1) * b := by
      rw [Int.add_mul, Int.add_mul, Int.add_mul, Int.add_mul, Int.one_mul, Int.one_mul]
      omega
    have hd : b ∣ (u + u' + 1) := by
      refine ⟨(a - (v + v' + 1)) * u0 + (u + u' + 1) * v0, ?_⟩
      have e4 : (u + u' + 1) * a = b * (a - (v + v' + 1)) := by
        rw [Int.mul_sub, Int.mul_comm b a, Int.mul_comm b]; omega
      have e5 : (u + u' + 1) * (a * u0 + b * v0) = (u + u' + 1) := by rw [h0]; simp
      have e6 : (u + u' + 1) * (a * u0) = b * ((a - (v + v' + 1)) * u0) := by rw [← Int.mul_assoc, e4, Int.mul_assoc]
      have e7 : (u + u' + 1) * (b * v0) = b * ((u + u' + 1) * v0) := Int.mul_left_comm _ _ _
      rw [Int.mul_add] at e5
      rw [Int.mul_add]
      omega
    obtain ⟨k, hk⟩ := hd
    have hk1 : 1 ≤ k := by
      by_cases h : 1 ≤ k
      · exact h
      · have := Int.mul_le_mul_of_nonneg_left (show k ≤ 0 by omega) (show 0 ≤ b by omega)
        omega
    have h3 : b ≤ u + u' + 1 := by
      have := Int.mul_le_mul_of_nonneg_left hk1 (show 0 ≤ b by omega)
      omega
    have h4 := Int.mul_le_mul_of_nonneg_right h3 (show 0 ≤ a by omega)
    have h5 := Int.mul_le_mul_of_nonneg_right (show 1 ≤ v + v' + 1 by omega) (show 0 ≤ b by omega)
    rw [Int.mul_comm b a] at h4
    omega
  have hsome : pyB [a, b] x = true ∨ pyB [a, b] (a * b - a - b - x) = true := by
    have m1 := Int.emod_nonneg (v0 * x) (show a ≠ 0 by omega)
    have m2 := Int.emod_lt_of_pos (v0 * x) (show 0 < a by omega)
    have m3 := Int.mul_ediv_add_emod (v0 * x) a
    generalize v0 * x % a = V at *
    generalize v0 * x / a = q at *
    have e1 : x = (u0 * x + q * b) * a + V * b := by
      have e2 : x = x * (a * u0 + b * v0) := by rw [h0]; simp
      have e3 : x * (a * u0 + b * v0) = u0 * x * a + b * (v0 * x) := by
        rw [Int.mul_add]
        have : x * (a * u0) = u0 * x * a := by rw [Int.mul_comm a u0, ← Int.mul_assoc, Int.mul_comm x u0]
        have h2 : x * (b * v0) = b * (v0 * x) := by rw [Int.mul_left_comm, Int.mul_comm x v0]
        omega
      rw [Int.add_mul]
      have e4 : b * (v0 * x) = q * b * a + V * b := by
        rw [← m3, Int.mul_add]
        have : b * (a * q) = q * b * a := by rw [Int.mul_comm a q, ← Int.mul_assoc, Int.mul_comm b q]
        have h2 : b * V = V * b := Int.mul_comm _ _
        omega
      omega
    generalize u0 * x + q * b = U at *
    by_cases hU : 0 ≤ U
    · exact .inl ((pyB_iff hp).2 (pays_two.2 ⟨U, V, hU, m1, e1⟩))
    · refine .inr ((pyB_iff hp).2 (pays_two.2 ⟨-1 - U, a - 1 - V, by omega, by omega, ?_⟩))
      rw [Int.sub_mul, Int.sub_mul, Int.sub_mul, Int.one_mul]
      have : -1 * a = - a := by omega
      omega
  cases h1 : pyB [a, b] x with
  | true =>
    cases h2 : pyB [a, b] (a * b - a - b - x) with
    | true => exact absurd ⟨h1, h2⟩ hnot
    | false => rfl
  | false =>
    cases h2 : pyB [a, b] (a * b - a - b - x) with
    | true => rfl
    | false => rw [h1, h2] at hsome; simp at hsome

/-- Of two coins the last amount that can't be paid, and how many can't. -/
theorem two_last {a b : Int} (ha : 2 ≤ a) (hb : 2 ≤ b) (hg : gcdL [a, b] = 1) {t : Nat} (ht : a * b - a - b ≤ t) :
    lastU (fun x => pyB [a, b] x) t = (a * b - a - b, (a - 1) * (b - 1) / 2) := by
  have hp : Pos [a, b] := fun c hc => by
    simp only [List.mem_cons, List.not_mem_nil, or_false] at hc
    omega
  have hsw := two_swap (show 1 ≤ a by omega) (show 1 ≤ b by omega) hg
  have hN : 0 ≤ a * b - a - b := by
    have := Int.mul_nonneg (show 0 ≤ a - 2 by omega) (show 0 ≤ b - 2 by omega)
    rw [Int.sub_mul, Int.mul_sub] at this
    omega
  have eN : (a - 1) * (b - 1) = a * b - a - b + 1 := by
    rw [Int.sub_mul, Int.mul_sub]
    omega
  rw [eN]
  obtain ⟨N, hN2⟩ : ∃ N : Nat, a * b - a - b = N := ⟨_, (Int.toNat_of_nonneg hN).symm⟩
  rw [hN2] at hsw ht ⊢
  have py0 : pyB [a, b] 0 = true := (pyB_iff hp).2 ⟨0, .zero⟩
  have pyN : pyB [a, b] (N : Int) = false := by
    have := hsw 0
    rw [py0, Int.sub_zero] at this
    exact this
  have hN1 : N ≠ 0 := fun e => by rw [e] at pyN; rw [show ((0 : Nat) : Int) = 0 from rfl, py0] at pyN; cases pyN
  have hbig : ∀ x : Nat, N < x → x ≤ N + (t - N) → pyB [a, b] (x : Int) = true := by
    intro x hx _
    have h1 := hsw x
    have h2 : pyB [a, b] ((N : Int) - x) = false := by
      unfold pyB
      rw [fw_neg hp (by omega)]
      rfl
    rw [h2] at h1
    simpa using h1.symm
  have e1 : lastU (fun x => pyB [a, b] x) t = lastU (fun x => pyB [a, b] x) N := by
    have := lastU_ext (p := fun x => pyB [a, b] (x : Int)) (t := N) (t - N) hbig
    rwa [show N + (t - N) = t by omega] at this
  rw [e1]
  have e2 : (lastU (fun x => pyB [a, b] x) N).1 = N := by
    cases N with
    | zero => exact absurd rfl hN1
    | succ N =>
      unfold lastU
      rw [if_neg (by rw [pyN]; simp)]
  have e3 : 2 * (lastU (fun x => pyB [a, b] x) N).2 = N + 1 := by
    rw [lastU_count (p := fun x => pyB [a, b] x) py0, cntU_sum]
    have h1 := sumF_pair (f := fun x : Nat => if pyB [a, b] x then 0 else 1) (g := fun x : Nat => (fun y : Nat => if pyB [a, b] y then (0 : Int) else 1) (N + 1 - 1 - x)) (N + 1) (fun x hx => by
      have h2 := hsw x
      rw [show ((N : Int) - x) = ((N + 1 - 1 - x : Nat) : Int) by omega] at h2
      show (if pyB [a, b] x then (0 : Int) else 1) + (if pyB [a, b] ((N + 1 - 1 - x : Nat) : Int) then 0 else 1) = 1
      rw [h2]
      cases pyB [a, b] (x : Int) <;> rfl)
    rw [sumF_back (fun y : Nat => if pyB [a, b] y then (0 : Int) else 1) (N + 1)] at h1
    omega
  refine Prod.ext e2 ?_
  show (lastU (fun x => pyB [a, b] x) N).2 = _
  omega

end Go.Proofs.Ytbkndncdhombeaa
