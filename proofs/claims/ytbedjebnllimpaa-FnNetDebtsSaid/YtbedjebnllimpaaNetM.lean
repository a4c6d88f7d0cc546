/- Debts without circles: what holds of a circle that is taken down. -/
import Derived.Test.YtbedjebnllimpaaCircM
import Derived.Test.YtbedjebnllimpaaDebtB
namespace Go.Proofs.Ytbedjebnllimpaa
open Go.RowKit

/-- One number of a table set. -/
def setC (g : List (List Int)) (a b : Nat) (x : Int) : List (List Int) := g.set a ((rowOf g a).set b x)

theorem setC_len (g : List (List Int)) (a b : Nat) (x : Int) : (setC g a b x).length = g.length := by simp [setC]

theorem setC_row (g : List (List Int)) (a b : Nat) (x : Int) (i : Nat) (hi : i < g.length) : rowOf (setC g a b x) i = if i = a then (rowOf g a).set b x else rowOf g i := by
  unfold setC
  by_cases e : i = a
  · subst e; rw [if_pos rfl]; simp [rowOf, List.getD, hi]
  · rw [if_neg e]
    have e' : ¬ a = i := fun h => e h.symm
    simp [rowOf, List.getD, e']

theorem setC_cell (g : List (List Int)) (a b : Nat) (x : Int) (i k : Nat) (hi : i < g.length) (hk : k < (rowOf g i).length) : cellOf (setC g a b x) i k = if i = a ∧ k = b then x else cellOf g i k := by
  unfold cellOf
  rw [setC_row g a b x i hi]
  by_cases e : i = a
  · subst e
    rw [if_pos rfl, getD_set_int _ b k x hk]
    by_cases e2 : k = b
    · rw [if_pos e2, if_pos ⟨rfl, e2⟩]
    · rw [if_neg e2, if_neg (fun h => e2 h.2)]
  · rw [if_neg e, if_neg (fun h => e h.1)]

theorem setC_rowlen (g : List (List Int)) (a b : Nat) (x : Int) (i : Nat) (hi : i < g.length) : (rowOf (setC g a b x) i).length = (rowOf g i).length := by
  rw [setC_row g a b x i hi]
  by_cases e : i = a
  · subst e; rw [if_pos rfl]; simp
  · rw [if_neg e]

/-- A table of as many rows as columns. -/
def Sq (g : List (List Int)) : Prop := ∀ i, i < g.length → (rowOf g i).length = g.length

theorem Sq.set {g : List (List Int)} (h : Sq g) (a b : Nat) (x : Int) : Sq (setC g a b x) := by
  intro i hi
  rw [setC_len] at hi ⊢
  rw [setC_rowlen g a b x i hi]; exact h i hi

/-- The friend behind the one with the index i of a circle. -/
def nxC (c : List Nat) (i : Nat) : Nat := c.getD ((i + 1) % c.length) 0
/-- The debt with the index i of a circle. -/
def edgeC (g : List (List Int)) (c : List Nat) (i : Nat) : Int := cellOf g (c.getD i 0) (nxC c i)
/-- The least of 50 and the first debts of a circle. -/
def minE (g : List (List Int)) (c : List Nat) : Nat → Int
  | 0 => 50
  | k + 1 => if edgeC g c k < minE g c k then edgeC g c k else minE g c k
/-- The table with the first debts of a circle made less by L. -/
def takeK (g : List (List Int)) (c : List Nat) (L : Int) : Nat → List (List Int)
  | 0 => g
  | k + 1 => setC (takeK g c L k) (c.getD k 0) (nxC c k) (cellOf (takeK g c L k) (c.getD k 0) (nxC c k) - L)
/-- The table with a circle taken down. -/
def downC (g : List (List Int)) (c : List Nat) : List (List Int) := takeK g c (minE g c c.length) c.length

theorem takeK_len (g : List (List Int)) (c : List Nat) (L : Int) : ∀ k, (takeK g c L k).length = g.length
  | 0 => rfl
  | k + 1 => by rw [takeK, setC_len, takeK_len g c L k]

theorem takeK_sq {g : List (List Int)} (h : Sq g) (c : List Nat) (L : Int) : ∀ k, Sq (takeK g c L k)
  | 0 => h
  | k + 1 => by rw [takeK]; exact (takeK_sq h c L k).set _ _ _

/-- How much a debt has become less. -/
def dE (c : List Nat) (L : Int) (a b : Nat) : Nat → Int
  | 0 => 0
  | k + 1 => dE c L a b k + if c.getD k 0 = a ∧ nxC c k = b then L else 0

theorem takeK_cell {g : List (List Int)} (h : Sq g) (c : List Nat) (L : Int) (a b : Nat) (ha : a < g.length) (hb : b < g.length) : ∀ k, cellOf (takeK g c L k) a b = cellOf g a b - dE c L a b k
  | 0 => by simp [takeK, dE]
  | k + 1 => by
    have ih := takeK_cell h c L a b ha hb k
    rw [takeK, setC_cell _ _ _ _ a b (by rw [takeK_len]; exact ha) (by rw [takeK_sq h c L k a (by rw [takeK_len]; exact ha), takeK_len]; exact hb), dE]
    by_cases e : a = c.getD k 0 ∧ b = nxC c k
    · rw [if_pos e, if_pos ⟨e.1.symm, e.2.symm⟩, ← e.1, ← e.2, ih]; omega
    · rw [if_neg e, if_neg (fun h2 => e ⟨h2.1.symm, h2.2.symm⟩), ih]; omega

/-- The friends on a way differ, are among all, and each owes the next one. -/
structure GoodC (g : List (List Int)) (hd : List Nat) : Prop where
  nd : ∀ i j, i < hd.length → j < hd.length → hd.getD i 0 = hd.getD j 0 → i = j
  lt : ∀ i, i < hd.length → hd.getD i 0 < g.length
  ch : ∀ i, i + 1 < hd.length → 0 < cellOf g (hd.getD i 0) (hd.getD (i + 1) 0)

theorem dE_nd {g : List (List Int)} {c : List Nat} (hg : GoodC g c) (L : Int) (a b : Nat) : ∀ k, k ≤ c.length → dE c L a b k = 0 ∨ ∃ i, i < k ∧ c.getD i 0 = a ∧ nxC c i = b ∧ dE c L a b k = L
  | 0, _ => .inl rfl
  | k + 1, hk => by
    rw [dE]
    by_cases e : c.getD k 0 = a ∧ nxC c k = b
    · rw [if_pos e]
      rcases dE_nd hg L a b k (by omega) with h | ⟨i, hi, h1, h2, _⟩
      · exact .inr ⟨k, by omega, e.1, e.2, by omega⟩
      · exfalso
        have := hg.nd i k (by omega) (by omega) (by rw [h1, e.1])
        omega
    · rw [if_neg e, Int.add_zero]
      rcases dE_nd hg L a b k (by omega) with h | ⟨i, hi, h1, h2, h3⟩
      · exact .inl h
      · exact .inr ⟨i, by omega, h1, h2, h3⟩

theorem getD_snoc_ltN {l : List Nat} {x i : Nat} (h : i < l.length) : (l ++ [x]).getD i 0 = l.getD i 0 := by simp [List.getD, List.getElem?_append_left h]
theorem getD_snoc_eqN {l : List Nat} {x : Nat} : (l ++ [x]).getD l.length 0 = x := by simp [List.getD]

theorem contains_getD {l : List Nat} {b : Nat} (h : l.contains b = false) {i : Nat} (hi : i < l.length) : l.getD i 0 ≠ b := by
  intro e
  have : b ∈ l := by
    rw [← e]; simp [List.getD, hi]
  rw [← List.contains_iff_mem, h] at this
  cases this

theorem GoodC.snoc {g : List (List Int)} {hd : List Nat} (h : GoodC g hd) {b : Nat} (hb : b < g.length) (hp : 0 < hd.length) (hn : nextOK g hd b = true) : GoodC g (hd ++ [b]) := by
  unfold nextOK at hn
  rw [Bool.and_eq_true, Bool.not_eq_true', decide_eq_true_eq] at hn
  have hl : (hd ++ [b]).length = hd.length + 1 := by simp
  refine ⟨fun i j hi hj e => ?_, fun i hi => ?_, fun i hi => ?_⟩
  · rw [hl] at hi hj
    by_cases h1 : i < hd.length
    · rw [getD_snoc_ltN h1] at e
      by_cases h2 : j < hd.length
      · rw [getD_snoc_ltN h2] at e
        exact h.nd i j h1 h2 e
      · have : j = hd.length := by omega
        subst this
        rw [getD_snoc_eqN] at e
        exact absurd e (contains_getD hn.1 h1)
    · have : i = hd.length := by omega
      subst this
      rw [getD_snoc_eqN] at e
      by_cases h2 : j < hd.length
      · rw [getD_snoc_ltN h2] at e
        exact absurd e.symm (contains_getD hn.1 h2)
      · omega
  · rw [hl] at hi
    by_cases h1 : i < hd.length
    · rw [getD_snoc_ltN h1]; exact h.lt i h1
    · have : i = hd.length := by omega
      subst this
      rw [getD_snoc_eqN]; exact hb
  · rw [hl] at hi
    by_cases h1 : i + 1 < hd.length
    · rw [getD_snoc_ltN h1, getD_snoc_ltN (by omega)]; exact h.ch i h1
    · have : i + 1 = hd.length := by omega
      rw [this, getD_snoc_eqN, getD_snoc_ltN (by omega)]
      have e : hd.length - 1 = i := by omega
      rw [e] at hn
      exact hn.2

theorem scanC_some {g : List (List Int)} {hd : List Nat} {F : List Nat → Option (List Nat)} {P : List Nat → Prop} {N : Nat} (hF : ∀ b t, b < N → nextOK g hd b = true → F (hd ++ [b]) = some t → P t) : ∀ r b t, b + r ≤ N → scanC g hd F r b = some t → P t
  | 0, _, _, _, h => by cases h
  | r + 1, b, t, hb, h => by
    rw [scanC] at h
    split at h
    · rename_i hn
      cases hf : F (hd ++ [b]) with
      | some t' =>
        rw [hf] at h
        simp only [orC, Option.some.injEq] at h
        subst h
        exact hF b t' (by omega) hn hf
      | none =>
        rw [hf] at h
        exact scanC_some hF r (b + 1) t (by omega) h
    · exact scanC_some hF r (b + 1) t (by omega) h

theorem circF_good {g : List (List Int)} : ∀ f hd t, 0 < hd.length → GoodC g hd → circF g f hd = some t → GoodC g t ∧ closes g t = true
  | 0, _, _, _, _, h => by cases h
  | f + 1, hd, t, hp, hg, h => by
    rw [circF] at h
    split at h
    · rename_i hc
      simp only [Option.some.injEq] at h
      subst h; exact ⟨hg, hc⟩
    · have h0 := hg.lt 0 hp
      exact scanC_some (N := g.length) (P := fun t => GoodC g t ∧ closes g t = true) (fun b t hb hn ht => circF_good f (hd ++ [b]) t (by simp) (hg.snoc hb hp hn) ht) _ _ t (by omega) h

section
variable {g : List (List Int)} {c : List Nat}

theorem closes_iff : closes g c = true ↔ 1 < c.length ∧ 0 < cellOf g (c.getD (c.length - 1) 0) (c.getD 0 0) := by
  unfold closes
  rw [Bool.and_eq_true, decide_eq_true_eq, decide_eq_true_eq]

theorem nxC_lt (_hl : 1 < c.length) {i : Nat} (hi : i + 1 < c.length) : nxC c i = c.getD (i + 1) 0 := by
  unfold nxC; rw [Nat.mod_eq_of_lt hi]
theorem nxC_last (hl : 1 < c.length) : nxC c (c.length - 1) = c.getD 0 0 := by
  unfold nxC
  rw [show c.length - 1 + 1 = c.length by omega, Nat.mod_self]

theorem GoodC.edges (h : GoodC g c) (hc : closes g c = true) {i : Nat} (hi : i < c.length) : 0 < edgeC g c i ∧ nxC c i < g.length ∧ nxC c i ≠ c.getD i 0 := by
  obtain ⟨hl, h0⟩ := closes_iff.1 hc
  unfold edgeC
  by_cases e : i + 1 < c.length
  · rw [nxC_lt hl e]
    exact ⟨h.ch i e, h.lt _ e, fun e2 => by have := h.nd _ _ e hi e2; omega⟩
  · have : i = c.length - 1 := by omega
    subst this
    rw [nxC_last hl]
    exact ⟨h0, h.lt 0 (by omega), fun e2 => by have := h.nd _ _ (by omega) hi e2; omega⟩

theorem minE_le (h50 : ∀ i, i < c.length → edgeC g c i ≤ 50) : ∀ k, k ≤ c.length → minE g c k ≤ 50 ∧ (∀ i, i < k → minE g c k ≤ edgeC g c i) ∧ (minE g c k = 50 ∨ ∃ i, i < k ∧ minE g c k = edgeC g c i)
  | 0, _ => ⟨Int.le_refl _, fun i hi => absurd hi (Nat.not_lt_zero _), .inl rfl⟩
  | k + 1, hk => by
    obtain ⟨h1, h2, h3⟩ := minE_le h50 k (by omega)
    rw [minE]
    by_cases e : edgeC g c k < minE g c k
    · rw [if_pos e]
      refine ⟨by omega, fun i hi => ?_, .inr ⟨k, by omega, rfl⟩⟩
      by_cases e2 : i = k
      · subst e2; exact Int.le_refl _
      · have := h2 i (by omega); omega
    · rw [if_neg e]
      refine ⟨h1, fun i hi => ?_, ?_⟩
      · by_cases e2 : i = k
        · subst e2; omega
        · exact h2 i (by omega)
      · rcases h3 with h3 | ⟨i, hi, h3⟩
        · exact .inl h3
        · exact .inr ⟨i, by omega, h3⟩

/-- The least debt of a circle of debts. -/
theorem least_facts (hv : vDebts g = true) (h : GoodC g c) (hc : closes g c = true) : 1 ≤ minE g c c.length ∧ minE g c c.length ≤ 50 ∧ (∀ i, i < c.length → minE g c c.length ≤ edgeC g c i) ∧ ∃ i, i < c.length ∧ minE g c c.length = edgeC g c i := by
  obtain ⟨hl, _⟩ := closes_iff.1 hc
  have hrow := ((vDebts_iff g).1 hv).2
  have hb : ∀ i, i < c.length → edgeC g c i ≤ 50 := fun i hi => ((hrow _ (h.lt i hi)).2.2 _ (h.edges hc hi).2.1).2
  obtain ⟨h1, h2, h3⟩ := minE_le hb c.length (Nat.le_refl _)
  have h4 : ∃ i, i < c.length ∧ minE g c c.length = edgeC g c i := by
    rcases h3 with h3 | h3
    · refine ⟨0, by omega, ?_⟩
      have := h2 0 (by omega)
      have := hb 0 (by omega)
      omega
    · exact h3
  refine ⟨?_, h1, h2, h4⟩
  obtain ⟨i, hi, e⟩ := h4
  have := (h.edges hc hi).1
  omega

theorem vDebts_sq (hv : vDebts g = true) : Sq g := fun i hi => (((vDebts_iff g).1 hv).2 i hi).1

/-- The cells while a circle is taken down. -/
theorem takeK_bounds (hv : vDebts g = true) (h : GoodC g c) (hc : closes g c = true) (k : Nat) (hk : k ≤ c.length) (a b : Nat) (ha : a < g.length) (hb : b < g.length) : 0 ≤ cellOf (takeK g c (minE g c c.length) k) a b ∧ cellOf (takeK g c (minE g c c.length) k) a b ≤ cellOf g a b ∧ (a = b → cellOf (takeK g c (minE g c c.length) k) a b = cellOf g a b) := by
  obtain ⟨l1, l2, l3, _⟩ := least_facts hv h hc
  have hrow := ((vDebts_iff g).1 hv).2 a ha
  have h0 := hrow.2.2 b hb
  rw [takeK_cell (vDebts_sq hv) c _ a b ha hb]
  rcases dE_nd h (minE g c c.length) a b k hk with e | ⟨i, hi, e1, e2, e⟩
  · rw [e]; omega
  · have h3 := l3 i (by omega)
    unfold edgeC at h3
    rw [e1, e2] at h3
    rw [e]
    refine ⟨by omega, by omega, fun hab => ?_⟩
    exfalso
    have := (h.edges hc (i := i) (by omega)).2.2
    rw [e1, e2] at this
    exact this hab.symm

theorem takeK_vDebts (hv : vDebts g = true) (h : GoodC g c) (hc : closes g c = true) (k : Nat) (hk : k ≤ c.length) : vDebts (takeK g c (minE g c c.length) k) = true := by
  obtain ⟨hn, hrow⟩ := (vDebts_iff g).1 hv
  have hl := takeK_len g c (minE g c c.length) k
  rw [vDebts_iff, hl]
  refine ⟨hn, fun a ha => ⟨?_, ?_, fun b hb => ?_⟩⟩
  · have := takeK_sq (vDebts_sq hv) c (minE g c c.length) k a (by rw [hl]; exact ha)
    rw [hl] at this; exact this
  · rw [(takeK_bounds hv h hc k hk a a ha ha).2.2 rfl]; exact (hrow a ha).2.1
  · have h1 := takeK_bounds hv h hc k hk a b ha hb
    have h2 := (hrow a ha).2.2 b hb
    omega

end

/-- The sum of all debts. -/
def sumG (g : List (List Int)) : Int := sumN (fun a => sumN (cellOf g a) g.length) g.length

theorem sumN_point {f f' : Nat → Int} {b : Nat} {d : Int} (ho : ∀ k, k ≠ b → f' k = f k) (hb : f' b = f b + d) : ∀ n, sumN f' n = sumN f n + if b < n then d else 0
  | 0 => by simp [sumN]
  | n + 1 => by
    rw [sumN, sumN, sumN_point ho hb n]
    by_cases e : n = b
    · subst e
      rw [hb, if_neg (Nat.lt_irrefl _), if_pos (Nat.lt_succ_self _)]; omega
    · rw [ho n e]
      by_cases h : b < n
      · rw [if_pos h, if_pos (by omega)]; omega
      · rw [if_neg h, if_neg (by omega)]; omega

theorem sumN_pointB {f f' : Nat → Int} {b n : Nat} {d : Int} (ho : ∀ k, k < n → k ≠ b → f' k = f k) (hb : b < n → f' b = f b + d) : sumN f' n = sumN f n + if b < n then d else 0 := by
  have e : sumN f' n = sumN (fun k => if k = b then f k + d else f k) n := sumN_congr n fun k hk => by
    by_cases e : k = b
    · subst e; rw [if_pos rfl]; exact hb hk
    · rw [if_neg e]; exact ho k hk e
  rw [e]
  exact sumN_point (f := f) (f' := fun k => if k = b then f k + d else f k) (b := b) (d := d) (fun k hk => if_neg hk) (if_pos rfl) n

/-- What is owed by a friend, and to a friend. -/
def outS (g : List (List Int)) (k : Nat) : Int := sumN (cellOf g k) g.length
def inS (g : List (List Int)) (k : Nat) : Int := sumN (fun x => cellOf g x k) g.length

theorem out_set {g : List (List Int)} (h : Sq g) {a b : Nat} (_ha : a < g.length) (hb : b < g.length) (L : Int) (k : Nat) (hk : k < g.length) : outS (setC g a b (cellOf g a b - L)) k = outS g k - if a = k then L else 0 := by
  unfold outS
  rw [setC_len]
  by_cases e : a = k
  · subst e
    rw [if_pos rfl, sumN_pointB (b := b) (d := -L) (f := cellOf g a) (fun j hj hjb => ?_) (fun _ => ?_), if_pos hb]
    · omega
    · rw [setC_cell _ _ _ _ _ _ hk (by rw [h _ hk]; exact hj), if_neg (fun h2 => hjb h2.2)]
    · rw [setC_cell _ _ _ _ _ _ hk (by rw [h _ hk]; exact hb), if_pos ⟨rfl, rfl⟩]; omega
  · rw [if_neg e, Int.sub_zero]
    refine sumN_congr _ fun j hj => ?_
    rw [setC_cell _ _ _ _ _ _ hk (by rw [h _ hk]; exact hj), if_neg (fun h2 => e h2.1.symm)]

theorem in_set {g : List (List Int)} (h : Sq g) {a b : Nat} (ha : a < g.length) (hb : b < g.length) (L : Int) (k : Nat) (hk : k < g.length) : inS (setC g a b (cellOf g a b - L)) k = inS g k - if b = k then L else 0 := by
  unfold inS
  rw [setC_len]
  by_cases e : b = k
  · subst e
    rw [if_pos rfl, sumN_pointB (b := a) (d := -L) (f := fun x => cellOf g x b) (fun j hj hjb => ?_) (fun _ => ?_), if_pos ha]
    · omega
    · show cellOf _ j b = _
      rw [setC_cell _ _ _ _ _ _ hj (by rw [h _ hj]; exact hb), if_neg (fun h2 => hjb h2.1)]
    · show cellOf _ a b = _
      rw [setC_cell _ _ _ _ _ _ ha (by rw [h _ ha]; exact hb), if_pos ⟨rfl, rfl⟩]; omega
  · rw [if_neg e, Int.sub_zero]
    refine sumN_congr _ fun j hj => ?_
    rw [setC_cell _ _ _ _ _ _ hj (by rw [h _ hj]; exact hk), if_neg (fun h2 => e h2.2.symm)]

theorem sumG_set {g : List (List Int)} (h : Sq g) {a b : Nat} (ha : a < g.length) (hb : b < g.length) (L : Int) : sumG (setC g a b (cellOf g a b - L)) = sumG g - L := by
  have e : sumG (setC g a b (cellOf g a b - L)) = sumN (outS (setC g a b (cellOf g a b - L))) g.length := by
    unfold sumG outS
    rw [setC_len]
  rw [e]
  have e2 : sumG g = sumN (outS g) g.length := rfl
  rw [e2, sumN_pointB (b := a) (d := -L) (f := outS g) (fun j hj hja => ?_) (fun _ => ?_), if_pos ha]
  · omega
  · rw [out_set h ha hb L j hj, if_neg (fun h2 => hja h2.symm)]; omega
  · rw [out_set h ha hb L a ha, if_pos rfl]; omega

/-- L as many times as a friend comes among the first ones. -/
def cntL (h : Nat → Nat) (L : Int) (k : Nat) : Nat → Int
  | 0 => 0
  | j + 1 => cntL h L k j + if h j = k then L else 0

theorem cntL_congr {h h' : Nat → Nat} {L : Int} {k : Nat} : ∀ n, (∀ i, i < n → h i = h' i) → cntL h L k n = cntL h' L k n
  | 0, _ => rfl
  | n + 1, hh => by rw [cntL, cntL, cntL_congr n (fun i hi => hh i (by omega)), hh n (by omega)]

theorem cntL_shift (h : Nat → Nat) (L : Int) (k : Nat) : ∀ n, cntL (fun i => h (i + 1)) L k n + (if h 0 = k then L else 0) = cntL h L k (n + 1)
  | 0 => by simp [cntL]
  | n + 1 => by
    rw [cntL, cntL, ← cntL_shift h L k n]
    omega

section
variable {g : List (List Int)} {c : List Nat}

theorem takeK_sums (hs : Sq g) (h : GoodC g c) (hc : closes g c = true) (L : Int) (k : Nat) (hk : k < g.length) : ∀ j, j ≤ c.length → outS (takeK g c L j) k = outS g k - cntL (fun i => c.getD i 0) L k j ∧ inS (takeK g c L j) k = inS g k - cntL (nxC c) L k j ∧ sumG (takeK g c L j) = sumG g - L * j
  | 0, _ => by simp [takeK, cntL]
  | j + 1, hj => by
    obtain ⟨h1, h2, h3⟩ := takeK_sums hs h hc L k hk j (by omega)
    have hl := takeK_len g c L j
    have hsj := takeK_sq hs c L j
    have ha : c.getD j 0 < (takeK g c L j).length := by rw [hl]; exact h.lt j (by omega)
    have hb : nxC c j < (takeK g c L j).length := by rw [hl]; exact (h.edges hc (by omega)).2.1
    rw [takeK, out_set hsj ha hb L k (by rw [hl]; exact hk), in_set hsj ha hb L k (by rw [hl]; exact hk), sumG_set hsj ha hb L, h1, h2, h3, cntL, cntL, Int.natCast_add, Int.mul_add]
    refine ⟨by omega, by omega, by omega⟩

theorem cnt_same (hc : closes g c = true) (L : Int) (k : Nat) : cntL (nxC c) L k c.length = cntL (fun i => c.getD i 0) L k c.length := by
  obtain ⟨hl, _⟩ := closes_iff.1 hc
  obtain ⟨m, hm⟩ : ∃ m, c.length = m + 1 := ⟨c.length - 1, by omega⟩
  have h1 := cntL_shift (fun i => c.getD i 0) L k m
  have h2 : cntL (nxC c) L k m = cntL (fun i => c.getD (i + 1) 0) L k m := cntL_congr m fun i hi => nxC_lt hl (by omega)
  have h3 := nxC_last hl
  rw [show c.length - 1 = m by omega] at h3
  rw [hm, ← h1, cntL, h2, h3]

theorem down_bal (hs : Sq g) (h : GoodC g c) (hc : closes g c = true) : balL (downC g c) = balL g := by
  have hl : (downC g c).length = g.length := takeK_len _ _ _ _
  refine list_ext0 (by rw [balL_len, balL_len, hl]) fun k hk => ?_
  rw [balL_len, hl] at hk
  rw [balL_at _ k (by rw [hl]; exact hk), balL_at g k hk]
  obtain ⟨h1, h2, _⟩ := takeK_sums hs h hc (minE g c c.length) k hk c.length (Nat.le_refl _)
  have h3 := cnt_same hc (minE g c c.length) k
  have e1 : sumN (fun x => cellOf (downC g c) x k) (downC g c).length = inS (takeK g c (minE g c c.length) c.length) k := rfl
  have e2 : sumN (cellOf (downC g c) k) (downC g c).length = outS (takeK g c (minE g c c.length) c.length) k := rfl
  have e3 : sumN (fun x => cellOf g x k) g.length = inS g k := rfl
  have e4 : sumN (cellOf g k) g.length = outS g k := rfl
  rw [e1, e2, e3, e4, h1, h2, h3]
  omega

theorem down_facts (hv : vDebts g = true) (h : GoodC g c) (hc : closes g c = true) : vDebts (downC g c) = true ∧ (downC g c).length = g.length ∧ sumG (downC g c) + 2 ≤ sumG g ∧ (∀ a b, a < g.length → b < g.length → cellOf (downC g c) a b ≤ cellOf g a b) ∧ balL (downC g c) = balL g := by
  obtain ⟨hl, _⟩ := closes_iff.1 hc
  obtain ⟨l1, _, _, _⟩ := least_facts hv h hc
  refine ⟨takeK_vDebts hv h hc _ (Nat.le_refl _), takeK_len _ _ _ _, ?_, fun a b ha hb => (takeK_bounds hv h hc _ (Nat.le_refl _) a b ha hb).2.1, down_bal (vDebts_sq hv) h hc⟩
  have h3 := (takeK_sums (vDebts_sq hv) h hc (minE g c c.length) 0 (by have := h.lt 0 (by omega); omega) c.length (Nat.le_refl _)).2.2
  have e : sumG (downC g c) = sumG (takeK g c (minE g c c.length) c.length) := rfl
  rw [e, h3]
  have hm : (2 : Int) ≤ minE g c c.length * (c.length : Int) := by
    have := Int.mul_le_mul l1 (show (2 : Int) ≤ c.length by omega) (by omega) (by omega)
    omega
  omega

end

end Go.Proofs.Ytbedjebnllimpaa
