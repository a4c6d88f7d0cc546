/- The program's test of tables is the model's. -/
import Derived.Test.YtlibfmbbchhjeaaIsRS
namespace Go.Proofs.Ytlibfmbbchhjeaa
open Go.RowKit

theorem wrap64_near {n : Int} (h : 0 ≤ n ∧ n ≤ 200000) : wrap64 n = n := by unfold wrap64; omega

section row
variable {T : Nat → Int} {g : List (List Int)} {i : Nat}

theorem rowFold_cell (i' j : Nat) (hi : i < 3) (hi' : i' < 3) (hj : j < 3) : ∀ k, k ≤ 3 → rowFold T g i k (i' * 4 + j) = if i' = i ∧ j < k then cellOf g i j else T (i' * 4 + j)
  | 0, _ => by simp [rowFold]
  | k + 1, hk => by
    show addCell (rowFold T g i k) i k (cellOf g i k) (i' * 4 + j) = _
    have ih := rowFold_cell i' j hi hi' hj k (by omega)
    unfold addCell
    by_cases h0 : i' = i ∧ j = k
    · obtain ⟨rfl, rfl⟩ := h0
      rw [if_pos rfl, if_pos ⟨rfl, by omega⟩]
    · rw [if_neg (by omega), if_neg (by omega), ih]
      by_cases h1 : i' = i ∧ j < k
      · rw [if_pos h1, if_pos ⟨h1.1, by omega⟩]
      · rw [if_neg h1, if_neg (by omega)]

theorem rowFold_row {m : Int} (h : SmallT T m) (hm : m ≤ 90000) (i' : Nat) (hi : i < 3) (hi' : i' < 3) : ∀ k, k ≤ 3 → k ≤ (rowOf g i).length → (∀ j, j < k → 0 ≤ cellOf g i j ∧ cellOf g i j ≤ 50) → rowFold T g i k (i' * 4 + 3) = if i' = i then T (i' * 4 + 3) + tot ((rowOf g i).take k) else T (i' * 4 + 3)
  | 0, _, _, _ => by simp [rowFold, tot]
  | k + 1, hk, hl, hn => by
    have ih := rowFold_row h hm i' hi hi' k (by omega) (by omega) (fun j hj => hn j (by omega))
    have hs := rowFold_small h hm g i k (by omega) (fun j hj => hn j (by omega)) (i' * 4 + 3)
    have hx := hn k (by omega)
    show addCell (rowFold T g i k) i k (cellOf g i k) (i' * 4 + 3) = _
    unfold addCell
    by_cases h0 : i' = i
    · subst h0
      rw [if_neg (by omega), if_pos (by omega), if_pos rfl, wrap64_near (by omega), ih, if_pos rfl, tot_take_succ _ _ (by omega)]
      rw [show (rowOf g i')[k]'(by omega) = cellOf g i' k by simp [cellOf, List.getD, show k < (rowOf g i').length by omega]]
      omega
    · rw [if_neg (by omega), if_neg (by omega), ih, if_neg h0, if_neg h0]

theorem rowFold_col {m : Int} (h : SmallT T m) (hm : m ≤ 90000) (j : Nat) (hi : i < 3) (hj : j < 3) : ∀ k, k ≤ 3 → (∀ j, j < k → 0 ≤ cellOf g i j ∧ cellOf g i j ≤ 50) → rowFold T g i k (12 + j) = if j < k then T (12 + j) + cellOf g i j else T (12 + j)
  | 0, _, _ => by simp [rowFold]
  | k + 1, hk, hn => by
    have ih := rowFold_col h hm j hi hj k (by omega) (fun j hj => hn j (by omega))
    have hs := rowFold_small h hm g i k (by omega) (fun j hj => hn j (by omega)) (12 + j)
    have hx := hn k (by omega)
    show addCell (rowFold T g i k) i k (cellOf g i k) (12 + j) = _
    unfold addCell
    by_cases h0 : j = k
    · subst h0
      rw [if_neg (by omega), if_pos (by omega), if_pos (by omega), wrap64_near (by omega), ih, if_neg (by omega)]
    · rw [if_neg (by omega), if_neg (by omega), ih]
      by_cases h1 : j < k
      · rw [if_pos h1, if_pos (by omega)]
      · rw [if_neg h1, if_neg (by omega)]

theorem rowFold_all {m : Int} (h : SmallT T m) (hm : m ≤ 90000) (hi : i < 3) : ∀ k, k ≤ 3 → k ≤ (rowOf g i).length → (∀ j, j < k → 0 ≤ cellOf g i j ∧ cellOf g i j ≤ 50) → rowFold T g i k 15 = T 15 + tot ((rowOf g i).take k)
  | 0, _, _, _ => by simp [rowFold, tot]
  | k + 1, hk, hl, hn => by
    have ih := rowFold_all h hm hi k (by omega) (by omega) (fun j hj => hn j (by omega))
    have hs := rowFold_small h hm g i k (by omega) (fun j hj => hn j (by omega)) 15
    have hx := hn k (by omega)
    show addCell (rowFold T g i k) i k (cellOf g i k) 15 = _
    unfold addCell
    rw [if_neg (by omega), if_pos (by omega), wrap64_near (by omega), ih, tot_take_succ _ _ (by omega)]
    rw [show (rowOf g i)[k]'(by omega) = cellOf g i k by simp [cellOf, List.getD, show k < (rowOf g i).length by omega]]
    omega

end row

theorem tabFold_cell (g : List (List Int)) (n : Nat) (hn : n ≤ 3) (hr : ∀ i, i < g.length → (rowOf g i).length = n) (i j : Nat) (hi : i < 3) (hj : j < 3) : ∀ m, m ≤ 3 → m ≤ g.length → tabFold g m (i * 4 + j) = if i < m ∧ j < n then cellOf g i j else 0
  | 0, _, _ => by simp [tabFold]
  | m + 1, h3, hm => by
    have ih := tabFold_cell g n hn hr i j hi hj m (by omega) (by omega)
    show rowFold (tabFold g m) g m (rowOf g m).length (i * 4 + j) = _
    rw [hr m (by omega), rowFold_cell i j (by omega) hi hj n hn, ih]
    by_cases h0 : i = m ∧ j < n
    · obtain ⟨rfl, h1⟩ := h0
      rw [if_pos ⟨rfl, h1⟩, if_pos ⟨by omega, h1⟩]
    · rw [if_neg h0]
      by_cases h1 : i < m ∧ j < n
      · rw [if_pos h1, if_pos ⟨by omega, h1.2⟩]
      · rw [if_neg h1, if_neg (by omega)]

section small
variable {g : List (List Int)} {n : Nat}

theorem Small.tab (h : Small g n) (m : Nat) (h3 : m ≤ 3) (hm : m ≤ g.length) : SmallT (tabFold g m) (150 * m) :=
  tabFold_small g (fun i hi => by rw [(h.2.2 i hi).1]; exact h.2.1.2) (fun i k hi hk => (h.2.2 i hi).2 k (by rw [← (h.2.2 i hi).1]; exact hk)) m h3 hm

theorem tabFold_row (h : Small g n) (i : Nat) (hi : i < 3) : ∀ m, m ≤ 3 → m ≤ g.length → tabFold g m (i * 4 + 3) = if i < m then tot (rowOf g i) else 0
  | 0, _, _ => by simp [tabFold]
  | m + 1, h3, hm => by
    have ih := tabFold_row h i hi m (by omega) (by omega)
    have hr := h.2.2 m (by omega)
    have hn := h.2.1
    show rowFold (tabFold g m) g m (rowOf g m).length (i * 4 + 3) = _
    rw [rowFold_row (h.tab m (by omega) (by omega)) (by omega) i (by omega) hi _ (by omega) (Nat.le_refl _) (fun j hj => hr.2 j (by omega)), ih, List.take_of_length_le (Nat.le_refl _)]
    by_cases h0 : i = m
    · subst h0
      rw [if_pos rfl, if_neg (by omega), if_pos (by omega)]
      omega
    · rw [if_neg h0]
      by_cases h1 : i < m
      · rw [if_pos h1, if_pos (by omega)]
      · rw [if_neg h1, if_neg (by omega)]

theorem tabFold_col (h : Small g n) (j : Nat) (hj : j < 3) : ∀ m, m ≤ 3 → m ≤ g.length → tabFold g m (12 + j) = if j < n then colS g j m else 0
  | 0, _, _ => by simp [tabFold, colS]
  | m + 1, h3, hm => by
    have ih := tabFold_col h j hj m (by omega) (by omega)
    have hr := h.2.2 m (by omega)
    have hn := h.2.1
    show rowFold (tabFold g m) g m (rowOf g m).length (12 + j) = _
    rw [hr.1, rowFold_col (h.tab m (by omega) (by omega)) (by omega) j (by omega) hj _ (by omega) (fun j hj => hr.2 j (by omega)), ih]
    by_cases h0 : j < n
    · rw [if_pos h0, if_pos h0, if_pos h0]; rfl
    · rw [if_neg h0, if_neg h0, if_neg h0]

theorem tabFold_all (h : Small g n) : ∀ m, m ≤ 3 → m ≤ g.length → tabFold g m 15 = allS g m
  | 0, _, _ => by simp [tabFold, allS]
  | m + 1, h3, hm => by
    have ih := tabFold_all h m (by omega) (by omega)
    have hr := h.2.2 m (by omega)
    have hn := h.2.1
    show rowFold (tabFold g m) g m (rowOf g m).length 15 = _
    rw [rowFold_all (h.tab m (by omega) (by omega)) (by omega) (by omega) _ (by omega) (Nat.le_refl _) (fun j hj => hr.2 j (by omega)), ih, List.take_of_length_le (Nat.le_refl _)]
    rfl

end small

theorem nearTabs_iff {g o : List (List Int)} {u : Int} (hu : 1 ≤ u) : nearTabs g u o = true ↔ ∀ k, k < 16 → nearB (tabFold o o.length k) (tabFold g g.length k) u = true := by
  unfold nearTabs
  rw [eqT_iff]
  constructor
  · intro h k hk
    exact (nearI_eq hu).1 (h k hk)
  · intro h k hk
    exact (nearI_eq hu).2 (h k hk)

theorem nearB_zero {u : Int} (hu : 1 ≤ u) : nearB 0 0 u = true := by
  rw [nearB_iff hu]
  simp

theorem idx16 (p : Nat → Prop) (h1 : ∀ i j, i < 3 → j < 3 → p (i * 4 + j)) (h2 : ∀ i, i < 3 → p (i * 4 + 3)) (h3 : ∀ j, j < 3 → p (12 + j)) (h4 : p 15) : ∀ k, k < 16 → p k := by
  intro k hk
  by_cases e15 : k = 15
  · subst e15; exact h4
  by_cases e12 : 12 ≤ k
  · have := h3 (k - 12) (by omega)
    rwa [show 12 + (k - 12) = k by omega] at this
  by_cases e3 : k % 4 = 3
  · have := h2 (k / 4) (by omega)
    rwa [show k / 4 * 4 + 3 = k by omega] at this
  · have := h1 (k / 4) (k % 4) (by omega) (by omega)
    rwa [show k / 4 * 4 + k % 4 = k by omega] at this

theorem nearTabs_eq {g o : List (List Int)} {u : Int} (h1 : vGrid g u = true) (h2 : sameB g o = true) : nearTabs g u o = true ↔ (∀ i, i < g.length → rowNear g u o i = true) ∧ fitsB g u o = true := by
  obtain ⟨hlen, hrows⟩ := (sameB_iff g o).1 h2
  have hg := small_vGrid h1
  have hu := ((vGrid_iff g u).1 h1).2.1
  have hn := hg.2.1
  have hl := hg.1
  have hro : ∀ i, i < o.length → (rowOf o i).length = (rowOf g 0).length := fun i hi => by rw [← hrows i (by omega)]; exact (hg.2.2 i (by omega)).1
  have hcg := fun i j hi hj => tabFold_cell g _ hn.2 (fun i hi => (hg.2.2 i hi).1) i j hi hj g.length hl.2 (Nat.le_refl _)
  have hco := fun i j hi hj => tabFold_cell o _ hn.2 hro i j hi hj o.length (by omega) (Nat.le_refl _)
  rw [nearTabs_iff hu.1]
  constructor
  · intro h
    have hcells : ∀ i, i < g.length → rowNear g u o i = true := by
      intro i hi
      refine rowNear_iff.2 ⟨hro i (by omega), fun k hk => ?_⟩
      have := h (i * 4 + k) (by omega)
      rw [hcg i k (by omega) (by omega), hco i k (by omega) (by omega), if_pos ⟨by omega, hk⟩, if_pos ⟨hi, hk⟩] at this
      exact this
    have ho := small_of_near h1 hlen.symm hcells
    refine ⟨hcells, ?_⟩
    rw [fitsB_yes]
    · have := h 15 (by omega)
      rw [tabFold_all ho _ (by omega) (Nat.le_refl _), tabFold_all hg _ hl.2 (Nat.le_refl _), ← hlen] at this
      exact this
    · intro i hi
      have := h (i * 4 + 3) (by omega)
      rw [tabFold_row ho i (by omega) _ (by omega) (Nat.le_refl _), tabFold_row hg i (by omega) _ hl.2 (Nat.le_refl _), if_pos (by omega), if_pos hi] at this
      exact this
    · intro k hk
      have := h (12 + k) (by omega)
      rw [tabFold_col ho k (by omega) _ (by omega) (Nat.le_refl _), tabFold_col hg k (by omega) _ hl.2 (Nat.le_refl _), if_pos hk, if_pos hk, ← hlen] at this
      exact this
  · rintro ⟨hcells, hfit⟩
    have ho := small_of_near h1 hlen.symm hcells
    simp only [fitsB, Bool.and_eq_true, List.all_eq_true, List.mem_range] at hfit
    obtain ⟨⟨f1, f2⟩, f3⟩ := hfit
    refine idx16 (fun k => nearB (tabFold o o.length k) (tabFold g g.length k) u = true) ?_ ?_ ?_ ?_
    · intro i j hi hj
      show nearB (tabFold o o.length (i * 4 + j)) (tabFold g g.length (i * 4 + j)) u = true
      rw [hcg i j hi hj, hco i j hi hj, ← hlen]
      by_cases h0 : i < g.length ∧ j < (rowOf g 0).length
      · rw [if_pos h0, if_pos h0]
        exact (rowNear_iff.1 (hcells i h0.1)).2 j h0.2
      · rw [if_neg h0, if_neg h0]
        exact nearB_zero hu.1
    · intro i hi
      show nearB (tabFold o o.length (i * 4 + 3)) (tabFold g g.length (i * 4 + 3)) u = true
      rw [tabFold_row ho i hi _ (by omega) (Nat.le_refl _), tabFold_row hg i hi _ hl.2 (Nat.le_refl _), ← hlen]
      by_cases h0 : i < g.length
      · rw [if_pos h0, if_pos h0]
        exact f1 i h0
      · rw [if_neg h0, if_neg h0]
        exact nearB_zero hu.1
    · intro j hj
      show nearB (tabFold o o.length (12 + j)) (tabFold g g.length (12 + j)) u = true
      rw [tabFold_col ho j hj _ (by omega) (Nat.le_refl _), tabFold_col hg j hj _ hl.2 (Nat.le_refl _), ← hlen]
      by_cases h0 : j < (rowOf g 0).length
      · rw [if_pos h0, if_pos h0]
        exact f2 j h0
      · rw [if_neg h0, if_neg h0]
        exact nearB_zero hu.1
    · show nearB (tabFold o o.length 15) (tabFold g g.length 15) u = true
      rw [tabFold_all ho _ (by omega) (Nat.le_refl _), tabFold_all hg _ hl.2 (Nat.le_refl _), ← hlen]
      exact f3

theorem roundP_eq (g : List (List Int)) (u : Int) (o : List (List Int)) : roundP g u o = roundS g u o := by
  cases h1 : vGrid g u
  · rw [roundP, roundS, h1]; rfl
  · cases h2 : sameB g o
    · rw [roundP, h2]
      cases h3 : roundS g u o
      · simp
      · exfalso
        simp only [roundS, Bool.and_eq_true, List.all_eq_true, List.mem_range, decide_eq_true_eq] at h3
        obtain ⟨⟨⟨_, h4⟩, h5⟩, _⟩ := h3
        have hg := small_vGrid h1
        have : sameB g o = true := (sameB_iff g o).2 ⟨h4.symm, fun i hi => by rw [(hg.2.2 i hi).1, (rowNear_iff.1 (h5 i hi)).1]⟩
        rw [this] at h2
        exact absurd h2 (by decide)
    · have hlen := ((sameB_iff g o).1 h2).1
      have hiff := nearTabs_eq h1 h2
      rw [Bool.eq_iff_iff, roundP, roundS, h1, h2, decide_eq_true hlen.symm]
      simp only [Bool.true_and, Bool.and_eq_true, List.all_eq_true, List.mem_range]
      exact hiff

end Go.Proofs.Ytlibfmbbchhjeaa
