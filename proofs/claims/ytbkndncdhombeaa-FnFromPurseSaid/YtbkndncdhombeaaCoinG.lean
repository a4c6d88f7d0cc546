/- Coins: how many of each in the fewest; the greedy way, and where it fails. -/
import Derived.Test.YtbkndncdhombeaaCoinP
namespace Go.Proofs.Ytbkndncdhombeaa

/-- The value of so many of each coin. -/
def dotL : List Int → List Int → Int
  | c :: cs, k :: ks => c * k + dotL cs ks
  | _, _ => 0

theorem dotL_snoc : ∀ (P K : List Int) (c k : Int), P.length = K.length → dotL (P ++ [c]) (K ++ [k]) = dotL P K + c * k
  | [], [], c, k, _ => by simp [dotL]
  | p :: P, j :: K, c, k, h => by
    have := dotL_snoc P K c k (by simpa using h)
    simp only [List.cons_append, dotL]
    omega

theorem sum_snoc (K : List Int) (k : Int) : (K ++ [k]).sum = K.sum + k := by simp

theorem sum_nonneg : ∀ (K : List Int), (∀ k ∈ K, 0 ≤ k) → 0 ≤ K.sum
  | [], _ => by simp
  | k :: K, h => by
    have h1 := sum_nonneg K (fun j hj => h j (by simp [hj]))
    have h2 := h k (by simp)
    rw [List.sum_cons]
    omega

/-- So many of each coin pay their value. -/
theorem pays_counts {ds : List Int} : ∀ (cs ks : List Int), (∀ c ∈ cs, c ∈ ds) → cs.length = ks.length → (∀ k ∈ ks, 0 ≤ k) → Pays ds ks.sum.toNat (dotL cs ks)
  | [], [], _, _, _ => by simpa [dotL] using Pays.zero
  | c :: cs, k :: ks, hs, hl, hk => by
    have h1 := pays_counts cs ks (fun d hd => hs d (by simp [hd])) (by simpa using hl) (fun j hj => hk j (by simp [hj]))
    have h2 := Pays.times (hs c (by simp)) k.toNat
    have hk0 := hk k (by simp)
    have h4 := sum_nonneg ks (fun j hj => hk j (by simp [hj]))
    have h3 := h2.add h1
    rw [List.sum_cons, show (k + ks.sum).toNat = k.toNat + ks.sum.toNat by omega]
    show Pays ds _ (c * k + dotL cs ks)
    rw [show ((k.toNat : Nat) : Int) = k by omega, Int.mul_comm] at h3
    exact h3

/-- One of them less. -/
theorem pays_less {ds : List Int} : ∀ (cs ks : List Int) (i : Nat), (∀ c ∈ cs, c ∈ ds) → cs.length = ks.length → (∀ k ∈ ks, 0 ≤ k) → i < ks.length → 1 ≤ ks.getD i 0 → Pays ds (ks.sum.toNat - 1) (dotL cs ks - cs.getD i 0)
  | [], [], i, _, _, _, hi, _ => by simp at hi
  | c :: cs, k :: ks, 0, hs, hl, hk, _, h1 => by
    have h2 := pays_counts cs ks (fun d hd => hs d (by simp [hd])) (by simpa using hl) (fun j hj => hk j (by simp [hj]))
    have h3 := Pays.times (hs c (by simp)) (k - 1).toNat
    have hk0 : 1 ≤ k := by simpa using h1
    have h4 := sum_nonneg ks (fun j hj => hk j (by simp [hj]))
    have h5 := h3.add h2
    rw [List.sum_cons, show (k + ks.sum).toNat - 1 = (k - 1).toNat + ks.sum.toNat by omega]
    show Pays ds _ (c * k + dotL cs ks - c)
    rw [show (((k - 1).toNat : Nat) : Int) = k - 1 by omega, Int.mul_comm, Int.mul_sub, Int.mul_one, show c * k - c + dotL cs ks = c * k + dotL cs ks - c by omega] at h5
    exact h5
  | c :: cs, k :: ks, i + 1, hs, hl, hk, hi, h1 => by
    have h2 := pays_less cs ks i (fun d hd => hs d (by simp [hd])) (by simpa using hl) (fun j hj => hk j (by simp [hj])) (by simpa using hi) (by simpa using h1)
    have h3 := Pays.times (hs c (by simp)) k.toNat
    have hk0 := hk k (by simp)
    have h4 := sum_nonneg ks (fun j hj => hk j (by simp [hj]))
    have h7 : 1 ≤ ks.sum := by
      have : ∀ (ks : List Int) (i : Nat), (∀ k ∈ ks, 0 ≤ k) → 1 ≤ ks.getD i 0 → 1 ≤ ks.sum := by
        intro ks
        induction ks with
        | nil => intro i _ h; simp at h
        | cons a l ih =>
          intro i hp h
          have ha := hp a (by simp)
          have hl0 := sum_nonneg l (fun j hj => hp j (by simp [hj]))
          rw [List.sum_cons]
          cases i with
          | zero => have : 1 ≤ a := by simpa using h
                    omega
          | succ i => have := ih i (fun j hj => hp j (by simp [hj])) (by simpa using h); omega
      exact this ks i (fun j hj => hk j (by simp [hj])) (by simpa using h1)
    have h5 := h3.add h2
    rw [List.sum_cons, show (k + ks.sum).toNat - 1 = k.toNat + (ks.sum.toNat - 1) by omega]
    show Pays ds _ (c * k + dotL cs ks - cs.getD i 0)
    rw [show ((k.toNat : Nat) : Int) = k by omega, Int.mul_comm, show c * k + (dotL cs ks - cs.getD i 0) = c * k + dotL cs ks - cs.getD i 0 by omega] at h5
    exact h5

/-! How many of each coin in the fewest. -/

/-- How many of a coin are taken. -/
def takeN (cs : List Int) (c : Int) : Nat → Int → Nat
  | 0, _ => 0
  | f + 1, x => if c ≤ x ∧ fwV cs (x - c) = fwV cs x - 1 then takeN cs c f (x - c) + 1 else 0

theorem takeN_fuel (cs : List Int) {c : Int} (hc : 1 ≤ c) : ∀ (f g : Nat) (x : Int), x.toNat ≤ f → x.toNat ≤ g → takeN cs c f x = takeN cs c g x
  | 0, 0, x, _, _ => rfl
  | 0, g + 1, x, h1, _ => by unfold takeN; rw [if_neg (by omega)]
  | f + 1, 0, x, _, h2 => by unfold takeN; rw [if_neg (by omega)]
  | f + 1, g + 1, x, h1, h2 => by
    unfold takeN
    split
    · rw [takeN_fuel cs hc f g (x - c) (by omega) (by omega)]
    · rfl

/-- All that are taken. -/
def takeC (cs : List Int) (c x : Int) : Nat := takeN cs c x.toNat x

theorem takeC_more {cs : List Int} {c x : Int} (hc : 1 ≤ c) (h1 : c ≤ x) (h2 : fwV cs (x - c) = fwV cs x - 1) : takeC cs c x = takeC cs c (x - c) + 1 := by
  unfold takeC
  rw [takeN_fuel cs hc x.toNat (x.toNat + 1) x (by omega) (by omega), takeN, if_pos ⟨h1, h2⟩, takeN_fuel cs hc x.toNat (x - c).toNat (x - c) (by omega) (by omega)]

theorem takeC_end {cs : List Int} {c x : Int} (hc : 1 ≤ c) (h : ¬ (c ≤ x ∧ fwV cs (x - c) = fwV cs x - 1)) : takeC cs c x = 0 := by
  unfold takeC
  rw [takeN_fuel cs hc x.toNat (x.toNat + 1) x (by omega) (by omega), takeN, if_neg h]

/-- How many of each coin, the greatest first taken. -/
def cntR (cs : List Int) : List Int → Int → List Int
  | [], _ => []
  | c :: R, x => cntR cs R (x - takeC cs c x * c) ++ [((takeC cs c x : Nat) : Int)]

theorem cntR_len (cs : List Int) : ∀ (R : List Int) (x : Int), (cntR cs R x).length = R.length
  | [], _ => rfl
  | c :: R, x => by simp [cntR, cntR_len cs R]

theorem cntR_nonneg (cs : List Int) : ∀ (R : List Int) (x : Int), ∀ k ∈ cntR cs R x, 0 ≤ k
  | [], _, k, h => by simp [cntR] at h
  | c :: R, x, k, h => by
    simp only [cntR, List.mem_append, List.mem_singleton] at h
    rcases h with h | rfl
    · exact cntR_nonneg cs R _ k h
    · omega

/-- How many of each coin in the fewest. -/
def fcL (cs : List Int) (x : Int) : List Int := cntR cs cs.reverse x

theorem fcL_len (cs : List Int) (x : Int) : (fcL cs x).length = cs.length := by unfold fcL; rw [cntR_len, List.length_reverse]

theorem take_facts {cs : List Int} (hp : Pos cs) {c : Int} (hc : c ∈ cs) : ∀ (n : Nat) (x : Int), x.toNat ≤ n → 0 ≤ fwV cs x →
    fwV cs (x - takeC cs c x * c) = fwV cs x - takeC cs c x ∧ 0 ≤ fwV cs (x - takeC cs c x * c) ∧ ¬ (c ≤ x - takeC cs c x * c ∧ fwV cs (x - takeC cs c x * c - c) = fwV cs (x - takeC cs c x * c) - 1)
  | 0, x, hn, h0 => by
    have h1 := hp c hc
    have e := takeC_end (cs := cs) (x := x) h1 (by omega)
    rw [e]
    simp only [Int.natCast_zero, Int.zero_mul, Int.sub_zero]
    exact ⟨trivial, h0, fun h => by omega⟩
  | n + 1, x, hn, h0 => by
    have h1 := hp c hc
    by_cases h : c ≤ x ∧ fwV cs (x - c) = fwV cs x - 1
    · rw [takeC_more h1 h.1 h.2]
      have hx : fwV cs x ≠ 0 := fun e => by have := fw_eq_zero hp e; omega
      have ih := take_facts hp hc n (x - c) (by omega) (by omega)
      have e : x - ((takeC cs c (x - c) + 1 : Nat) : Int) * c = x - c - takeC cs c (x - c) * c := by
        rw [Int.natCast_add, Int.add_mul]; omega
      rw [e]
      exact ⟨by rw [ih.1, h.2]; omega, ih.2.1, ih.2.2⟩
    · have e := takeC_end (cs := cs) (x := x) h1 h
      rw [e]
      simp only [Int.natCast_zero, Int.zero_mul, Int.sub_zero]
      exact ⟨trivial, h0, h⟩

/-- What is taken first among the fewest stays so. -/
theorem pick_back {cs : List Int} (hp : Pos cs) {c d x : Int} {k : Nat} (hc : c ∈ cs) (hd : d ∈ cs) (h1 : fwV cs (x - k * c) = fwV cs x - k) (h2 : 0 ≤ fwV cs (x - k * c)) (h3 : d ≤ x - k * c ∧ fwV cs (x - k * c - d) = fwV cs (x - k * c) - 1) :
    d ≤ x ∧ fwV cs (x - d) = fwV cs x - 1 := by
  have hc1 := hp c hc
  have hd1 := hp d hd
  have hkc : 0 ≤ (k : Int) * c := Int.mul_nonneg (by omega) (by omega)
  have hx : fwV cs (x - k * c) ≠ 0 := fun e => by have := fw_eq_zero hp e; omega
  have p1 := fw_pays hp (x := x - k * c - d) (by omega)
  have p2 := p1.add (Pays.times hc k)
  have l1 := fw_le hp p2
  have e : x - k * c - d + k * c = x - d := by omega
  rw [e] at l1
  have p3 := fw_pays hp l1.1
  have p4 := pays_succ.2 ⟨d, hd, p3⟩
  have l2 := fw_le hp p4
  exact ⟨by omega, by omega⟩

theorem cnt_facts {cs : List Int} (hp : Pos cs) : ∀ (R : List Int) (x : Int), (∀ c ∈ R, c ∈ cs) → 0 ≤ fwV cs x → (∀ d ∈ cs, d ∉ R → ¬ (d ≤ x ∧ fwV cs (x - d) = fwV cs x - 1)) →
    (cntR cs R x).sum = fwV cs x ∧ dotL R.reverse (cntR cs R x) = x
  | [], x, _, h0, h => by
    have hx : fwV cs x = 0 := by
      by_cases hz : fwV cs x = 0
      · exact hz
      · exfalso
        obtain ⟨m, hm⟩ : ∃ m, (fwV cs x).toNat = m + 1 := ⟨(fwV cs x).toNat - 1, by omega⟩
        have p := fw_pays hp h0
        rw [hm] at p
        obtain ⟨d, hd, hq⟩ := pays_succ.1 p
        have l := fw_le hp hq
        have u := hq.nonneg hp
        have p3 := pays_succ.2 ⟨d, hd, fw_pays hp l.1⟩
        have l2 := fw_le hp p3
        exact h d hd (by simp) ⟨by omega, by omega⟩
    have := fw_eq_zero hp hx
    subst this
    rw [hx]
    exact ⟨rfl, rfl⟩
  | c :: R, x, hs, h0, h => by
    have hc := hs c (by simp)
    obtain ⟨t1, t2, t3⟩ := take_facts hp hc _ x (Nat.le_refl _) h0
    have ih := cnt_facts hp R (x - takeC cs c x * c) (fun d hd => hs d (by simp [hd])) t2 (fun d hd hn hk => by
      by_cases hdc : d = c
      · subst hdc; exact t3 hk
      · exact h d hd (by simp [hdc, hn]) (pick_back hp hc hd t1 t2 hk))
    unfold cntR
    rw [sum_snoc, List.reverse_cons, dotL_snoc _ _ _ _ (by rw [cntR_len, List.length_reverse]), ih.1, ih.2, t1]
    refine ⟨by omega, ?_⟩
    rw [Int.mul_comm]
    omega

/-- The fewest coins pay the amount, so many. -/
theorem fcL_facts {cs : List Int} (hp : Pos cs) {x : Int} (h : 0 ≤ fwV cs x) : (fcL cs x).sum = fwV cs x ∧ dotL cs (fcL cs x) = x := by
  have := cnt_facts hp cs.reverse x (fun c hc => by simpa using hc) h (fun d hd hn => absurd (by simpa using hd) hn)
  rw [List.reverse_reverse] at this
  exact this

theorem fcL_nonneg (cs : List Int) (x : Int) : ∀ k ∈ fcL cs x, 0 ≤ k := cntR_nonneg cs _ x

/-- Of a coin that is among them one less is the fewest for what is left. -/
theorem fcL_less {cs : List Int} (hp : Pos cs) {x : Int} (h : 0 ≤ fwV cs x) {i : Nat} (hi : i < cs.length) (h1 : 1 ≤ (fcL cs x).getD i 0) : fwV cs (x - cs.getD i 0) = fwV cs x - 1 := by
  obtain ⟨e1, e2⟩ := fcL_facts hp h
  have p := pays_less (ds := cs) cs (fcL cs x) i (fun _ hc => hc) (fcL_len cs x).symm (fcL_nonneg cs x) (by rw [fcL_len]; exact hi) h1
  rw [e1, e2] at p
  have l := fw_le hp p
  have hm : cs.getD i 0 ∈ cs := by
    have : cs.getD i 0 = cs[i] := by simp [List.getD, hi]
    rw [this]; exact List.getElem_mem hi
  have p2 := pays_succ.2 ⟨_, hm, fw_pays hp l.1⟩
  have l2 := fw_le hp p2
  have hx : fwV cs x ≠ 0 := fun e => by
    have h0 := fw_eq_zero hp e
    have u := p.nonneg hp
    have := hp _ hm
    omega
  omega

/-! The greedy way. -/

def grR : List Int → Int → List Int
  | [], _ => []
  | c :: R, x => grR R (x % c) ++ [x / c]

theorem grR_len : ∀ (R : List Int) (x : Int), (grR R x).length = R.length
  | [], _ => rfl
  | c :: R, x => by simp [grR, grR_len R]

/-- How many of each coin the greedy way takes. -/
def grL (cs : List Int) (x : Int) : List Int := grR cs.reverse x

theorem grL_len (cs : List Int) (x : Int) : (grL cs x).length = cs.length := by unfold grL; rw [grR_len, List.length_reverse]

theorem grR_nonneg : ∀ (R : List Int), (∀ c ∈ R, 1 ≤ c) → ∀ (x : Int), 0 ≤ x → ∀ k ∈ grR R x, 0 ≤ k
  | [], _, x, _, k, h => by simp [grR] at h
  | c :: R, hp, x, hx, k, h => by
    have hc := hp c (by simp)
    simp only [grR, List.mem_append, List.mem_singleton] at h
    rcases h with h | rfl
    · exact grR_nonneg R (fun d hd => hp d (by simp [hd])) _ (Int.emod_nonneg _ (by omega)) k h
    · exact Int.ediv_nonneg hx (by omega)

theorem grR_dot : ∀ (R : List Int), R.getLast? = some 1 → ∀ (x : Int), dotL R.reverse (grR R x) = x
  | [], h, _ => by simp at h
  | [c], h, x => by
    have : c = 1 := by simpa using h
    subst this
    simp [grR, dotL]
  | c :: d :: R, h, x => by
    have ih := grR_dot (d :: R) (by simpa using h) (x % c)
    show dotL (c :: d :: R).reverse (grR (d :: R) (x % c) ++ [x / c]) = x
    rw [List.reverse_cons, dotL_snoc _ _ _ _ (by rw [grR_len, List.length_reverse]), ih]
    have := Int.mul_ediv_add_emod x c
    omega

/-- So many coins the greedy way takes. -/
def gsV (cs : List Int) (x : Int) : Int := (grL cs x).sum

theorem grL_dot {cs : List Int} (h1 : cs.head? = some 1) (x : Int) : dotL cs (grL cs x) = x := by
  have := grR_dot cs.reverse (by rw [List.getLast?_reverse]; exact h1) x
  rw [List.reverse_reverse] at this
  exact this

theorem grL_nonneg {cs : List Int} (hp : Pos cs) {x : Int} (hx : 0 ≤ x) : ∀ k ∈ grL cs x, 0 ≤ k := grR_nonneg _ (fun c hc => hp c (by simpa using hc)) x hx

theorem gs_pays {cs : List Int} (hp : Pos cs) (h1 : cs.head? = some 1) {x : Int} (hx : 0 ≤ x) : 0 ≤ gsV cs x ∧ Pays cs (gsV cs x).toNat x := by
  have h := pays_counts (ds := cs) cs (grL cs x) (fun _ hc => hc) (grL_len cs x).symm (grL_nonneg hp hx)
  rw [grL_dot h1] at h
  exact ⟨sum_nonneg _ (grL_nonneg hp hx), h⟩

theorem gs_ge {cs : List Int} (hp : Pos cs) (h1 : cs.head? = some 1) {x : Int} (hx : 0 ≤ x) : 0 ≤ fwV cs x ∧ fwV cs x ≤ gsV cs x := by
  have h := gs_pays hp h1 hx
  have := fw_le hp h.2
  omega

theorem gs_step {P : List Int} {c x : Int} (hc : 1 ≤ c) : gsV (P ++ [c]) x = 1 + gsV (P ++ [c]) (x - c) := by
  unfold gsV grL
  rw [List.reverse_append]
  show (grR P.reverse (x % c) ++ [x / c]).sum = 1 + (grR P.reverse ((x - c) % c) ++ [(x - c) / c]).sum
  rw [sum_snoc, sum_snoc, Int.sub_emod_right, show (x - c) / c = x / c - 1 by
    rw [show x - c = x + (-1) * c by omega, Int.add_mul_ediv_right _ _ (by omega)]; omega]
  omega

/-- Where the greedy way fails it fails below the sum of the two greatest coins. -/
theorem greedy_all {P : List Int} {p q : Int} (hp : Pos (P ++ [p] ++ [q])) (h1 : (P ++ [p] ++ [q]).head? = some 1) (hle : ∀ c ∈ P ++ [p], c ≤ p)
    (H : ∀ x, 0 ≤ x → x < p + q → gsV (P ++ [p] ++ [q]) x = fwV (P ++ [p] ++ [q]) x) : ∀ (n : Nat) (x : Int), x.toNat ≤ n → 0 ≤ x → gsV (P ++ [p] ++ [q]) x = fwV (P ++ [p] ++ [q]) x := by
  generalize hcs : P ++ [p] ++ [q] = cs at *
  have hq : 1 ≤ q := hp q (by rw [← hcs]; simp)
  have hqm : q ∈ cs := by rw [← hcs]; simp
  have hp1 : 1 ≤ p := hp p (by rw [← hcs]; simp)
  have st : ∀ x, gsV cs x = 1 + gsV cs (x - q) := fun x => by rw [← hcs]; exact gs_step hq
  intro n
  induction n with
  | zero => intro x h h0; exact H x h0 (by omega)
  | succ n ih =>
    intro x hn h0
    by_cases hlt : x < p + q
    · exact H x h0 hlt
    have g0 := gs_ge hp h1 h0
    have i1 := ih (x - q) (by omega) (by omega)
    have e1 := st x
    have f1 := fw_eq_zero hp (x := x)
    have hx : fwV cs x ≠ 0 := fun e => by have := f1 e; omega
    obtain ⟨m, hm⟩ : ∃ m, (fwV cs x).toNat = m + 1 := ⟨(fwV cs x).toNat - 1, by omega⟩
    have pp := fw_pays hp g0.1
    rw [hm] at pp
    obtain ⟨d, hd, hdp⟩ := pays_succ.1 pp
    have l1 := fw_le hp hdp
    by_cases hdq : d = q
    · subst hdq
      omega
    · have hd2 : d ≤ p := by
        refine hle d ?_
        rw [← hcs] at hd
        simp only [List.mem_append, List.mem_singleton] at hd ⊢
        rcases hd with hd | hd
        · exact hd
        · exact absurd hd hdq
      have hd1 := hp d hd
      have i2 := ih (x - d) (by omega) (by omega)
      have e2 := st (x - d)
      have g2 := gs_pays hp h1 (x := x - d - q) (by omega)
      have p3 := pays_succ.2 ⟨d, hd, (show Pays cs (gsV cs (x - d - q)).toNat (x - q - d) by rw [show x - q - d = x - d - q by omega]; exact g2.2)⟩
      have l3 := fw_le hp p3
      omega

theorem greedy_one {x : Int} (hx : 0 ≤ x) : gsV [1] x = fwV [1] x := by
  have hp : Pos [1] := fun c hc => by simp at hc; omega
  have e : gsV [1] x = x := by simp [gsV, grL, grR]
  have g := gs_pays hp rfl hx
  rw [e] at g ⊢
  symm
  rw [fw_of hp g.2]
  · omega
  · intro m hm
    have := hm.upper (m := 1) (fun c hc => by simp at hc; omega)
    omega

/-- Is the greedy way as good for all amounts below an end? -/
def isgT (cs : List Int) (t : Nat) : Bool := (List.range t).all fun x => gsV cs (x : Int) == fwV cs (x : Int)

theorem isgT_iff (cs : List Int) (t : Nat) : isgT cs t = true ↔ ∀ x : Nat, x < t → gsV cs x = fwV cs x := by
  unfold isgT
  simp

theorem isgT_false {cs : List Int} {t x : Nat} (hx : x < t) (h : gsV cs x ≠ fwV cs x) : isgT cs t = false := by
  rw [Bool.eq_false_iff]
  intro hc
  exact h ((isgT_iff cs t).1 hc x hx)

/-- The end up to which it is enough to look. -/
def endV (cs : List Int) : Int := (cs.drop (cs.length - 2)).sum

/-- Enough is looked at below the sum of the two greatest. -/
theorem isg_any {cs : List Int} (hp : Pos cs) (h1 : cs.head? = some 1) (hs : cs.Pairwise (· < ·)) {t : Nat} (ht : endV cs ≤ t) (h : isgT cs t = true) {x : Int} (hx : 0 ≤ x) : gsV cs x = fwV cs x := by
  rw [isgT_iff] at h
  obtain ⟨Q, hQ⟩ : ∃ Q, cs.reverse = Q := ⟨_, rfl⟩
  have hcs : cs = Q.reverse := by rw [← hQ, List.reverse_reverse]
  cases Q with
  | nil => rw [hcs] at h1; simp at h1
  | cons q R =>
    cases R with
    | nil =>
      have e : cs = [q] := by simpa using hcs
      rw [e] at h1
      have : q = 1 := by simpa using h1
      rw [e, this]
      exact greedy_one hx
    | cons p S =>
      have e : cs = S.reverse ++ [p] ++ [q] := by rw [hcs]; simp
      have ee : endV cs = p + q := by
        unfold endV
        rw [e]
        simp
      rw [ee] at ht
      rw [e] at hp h1 h hs ⊢
      refine greedy_all hp h1 ?_ (fun y h0 hy => ?_) _ x (Nat.le_refl _) hx
      · intro c hc
        rw [List.pairwise_append] at hs
        have h2 := hs.1
        rw [List.pairwise_append] at h2
        simp only [List.mem_append, List.mem_singleton] at hc
        rcases hc with hc | rfl
        · have := h2.2.2 c hc p (by simp)
          omega
        · omega
      · have := h y.toNat (by omega)
        rw [show ((y.toNat : Nat) : Int) = y by omega] at this
        exact this

theorem isgT_eq {cs : List Int} (hp : Pos cs) (h1 : cs.head? = some 1) (hs : cs.Pairwise (· < ·)) {t u : Nat} (ht : endV cs ≤ t) (hu : endV cs ≤ u) : isgT cs t = isgT cs u := by
  rw [Bool.eq_iff_iff]
  constructor
  · intro h
    exact (isgT_iff cs u).2 (fun x _ => isg_any hp h1 hs ht h (by omega))
  · intro h
    exact (isgT_iff cs t).2 (fun x _ => isg_any hp h1 hs hu h (by omega))

end Go.Proofs.Ytbkndncdhombeaa
