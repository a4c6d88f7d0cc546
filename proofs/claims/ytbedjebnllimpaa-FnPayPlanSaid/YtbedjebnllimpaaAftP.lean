/- A plan settles all; payments back. -/
import Derived.Test.YtbedjebnllimpaaAftM
namespace Go.Proofs.Ytbedjebnllimpaa
open Go.RowKit

theorem afterF_cons (p : Int × Int × Int) (st : List (Int × Int × Int)) : ∀ r k xs, afterF (p :: st) r (k + 1) xs = afterF st r k xs
  | 0, _, _ => rfl
  | r + 1, k, xs => by
    have e : pF (p :: st) (k + 1) = pF st k ∧ pT (p :: st) (k + 1) = pT st k ∧ pA (p :: st) (k + 1) = pA st k := by simp [pF, pT, pA, List.getD]
    rw [afterF, afterF, e.1, e.2.1, e.2.2, afterF_cons p st r (k + 1)]

theorem after_plan : ∀ (f : Nat) (xs : List Int), vBal xs = true → kC xs xs.length ≤ f → ∃ ys, afterF (planF f xs) (planF f xs).length 0 xs = some ys ∧ ys.length = xs.length ∧ ∀ j, j < ys.length → ys.getD j 0 = 0
  | f, xs, hv, hf => by
    by_cases h : loV xs = hiV xs
    · have e : planF f xs = [] := by
        cases f with
        | zero => rfl
        | succ f => rw [planF, if_pos h]
      exact ⟨xs, by rw [e]; rfl, rfl, plan_settled hv h⟩
    · cases f with
      | zero =>
        have := (step_kC hv h).2
        omega
      | succ f =>
        obtain ⟨hs, hx⟩ := step_vBal hv h
        have hk := step_kC hv h
        obtain ⟨p1, p2, _⟩ := plan_bounds hv
        obtain ⟨_, _, o3⟩ := plan_open hv h
        obtain ⟨ys, h1, h2, h3⟩ := after_plan f (stepP xs) hs (by rw [stepP_length]; omega)
        rw [stepP_length] at h2
        refine ⟨ys, ?_, h2, h3⟩
        rw [planF, if_neg h, List.length_cons, afterF]
        have e : pF ((((loN xs xs.length : Nat) : Int), ((hiN xs xs.length : Nat) : Int), payX xs) :: planF f (stepP xs)) 0 = (loN xs xs.length : Nat) ∧ pT ((((loN xs xs.length : Nat) : Int), ((hiN xs xs.length : Nat) : Int), payX xs) :: planF f (stepP xs)) 0 = (hiN xs xs.length : Nat) ∧ pA ((((loN xs xs.length : Nat) : Int), ((hiN xs xs.length : Nat) : Int), payX xs) :: planF f (stepP xs)) 0 = payX xs := by simp [pF, pT, pA]
        have hok : payOK xs.length (loN xs xs.length : Nat) (hiN xs xs.length : Nat) (payX xs) = true := payOK_iff.2 ⟨by omega, by omega, by omega, by omega⟩
        rw [e.1, e.2.1, e.2.2, if_pos hok, afterF_cons]
        have ha : applyP xs (loN xs xs.length : Nat) (hiN xs xs.length : Nat) (payX xs) = stepP xs := by
          unfold applyP stepP
          simp only [Int.toNat_natCast]
          rw [getD_setI _ _ _ _ p2, if_neg (fun e => o3 e.symm)]
          rfl
        rw [ha]
        exact h1

/-- AfterPays of a plan. -/
theorem after_planL {xs : List Int} (hv : vBal xs = true) : ∃ ys, afterL xs (planF xs.length xs) = some ys ∧ ys.length = xs.length ∧ ∀ j, j < ys.length → ys.getD j 0 = 0 := by
  have hk := kC_nonneg xs xs.length
  obtain ⟨_, hn, _⟩ := (vBal_iff xs).1 hv
  obtain ⟨ys, h1, h2, h3⟩ := after_plan xs.length xs hv hk.2
  have hs := plan_short xs.length xs hv hk.2
  have hl : (planF xs.length xs).length ≤ 12 := by
    rcases hs with hs | hs
    · omega
    · rw [hs]; decide
  refine ⟨ys, ?_, h2, h3⟩
  have ht := (afterF_tot _ _ _ _ _ h1).1
  obtain ⟨_, _, ht0⟩ := (vBal_iff xs).1 hv
  have hvy : vBal ys = true := (vBal_iff ys).2 ⟨fun x hx => by
    obtain ⟨j, hj, rfl⟩ := mem_getD hx
    rw [h3 j hj]; omega, by omega, by omega⟩
  rw [afterL, if_pos ⟨hv, hl⟩, h1]
  show okBal (some ys) = some ys
  show (if vBal ys = true then some ys else none) = some ys
  rw [if_pos hvy]

/-- Back the other way round. -/
def backP (st : List (Int × Int × Int)) : List (Int × Int × Int) := (st.map fun p => (p.2.1, p.1, p.2.2)).reverse

theorem apply_back {xs : List Int} {f t a : Int} (h : payOK xs.length f t a = true) : applyP (applyP xs f t a) t f a = xs := by
  obtain ⟨h1, h2, h3, h4⟩ := payOK_iff.1 h
  have hf : f.toNat < xs.length := by omega
  have ht : t.toNat < xs.length := by omega
  have hne : ¬ f.toNat = t.toNat := by omega
  have hne2 : ¬ t.toNat = f.toNat := by omega
  refine List.ext_getElem (by simp [applyP]) fun j h5 h6 => ?_
  have hj : j < xs.length := h6
  have key : (applyP (applyP xs f t a) t f a).getD j 0 = xs.getD j 0 := by
    unfold applyP
    rw [getD_setI _ _ j _ (by simpa using hj), getD_setI _ _ j _ (by simpa using hj), getD_setI _ _ j _ (by simpa using hj), getD_setI _ _ j _ hj,
      getD_setI _ _ f.toNat _ (by simpa using hf), getD_setI _ _ f.toNat _ (by simpa using hf), getD_setI _ _ f.toNat _ hf,
      getD_setI _ _ t.toNat _ (by simpa using ht), getD_setI _ _ t.toNat _ ht]
    by_cases e1 : j = f.toNat
    · subst e1
      simp [hne]
    · by_cases e2 : j = t.toNat
      · subst e2
        simp [hne2]
      · simp [e1, e2]
  simpa [List.getD, h5, h6] using key

/-- The balances behind the payments of a list. -/
def afterR : List (Int × Int × Int) → List Int → Option (List Int)
  | [], xs => some xs
  | p :: st, xs => if payOK xs.length p.1 p.2.1 p.2.2 = true then afterR st (applyP xs p.1 p.2.1 p.2.2) else none

theorem afterF_list : ∀ (st : List (Int × Int × Int)) (xs : List Int), afterF st st.length 0 xs = afterR st xs
  | [], _ => rfl
  | p :: st, xs => by
    have e : pF (p :: st) 0 = p.1 ∧ pT (p :: st) 0 = p.2.1 ∧ pA (p :: st) 0 = p.2.2 := by simp [pF, pT, pA]
    rw [List.length_cons, afterF, e.1, e.2.1, e.2.2, afterF_cons, afterF_list st]
    rfl

theorem afterR_append : ∀ (a b : List (Int × Int × Int)) (xs : List Int), afterR (a ++ b) xs = (afterR a xs).bind (afterR b)
  | [], _, _ => rfl
  | p :: a, b, xs => by
    rw [List.cons_append, afterR, afterR]
    split
    · exact afterR_append a b _
    · rfl

theorem payOK_back {n : Nat} {f t a : Int} (h : payOK n f t a = true) : payOK n t f a = true := by
  obtain ⟨h1, h2, h3, h4⟩ := payOK_iff.1 h
  exact payOK_iff.2 ⟨h2, h1, fun e => h3 e.symm, h4⟩

/-- With as many payments back the balances are as before. -/
theorem afterR_back : ∀ (st : List (Int × Int × Int)) (xs ys : List Int), afterR st xs = some ys → afterR (backP st) ys = some xs
  | [], xs, ys, h => by
    simp only [afterR, Option.some.injEq] at h
    subst h; rfl
  | p :: st, xs, ys, h => by
    rw [afterR] at h
    by_cases e : payOK xs.length p.1 p.2.1 p.2.2 = true
    · rw [if_pos e] at h
      have ih := afterR_back st _ _ h
      have hb : backP (p :: st) = backP st ++ [(p.2.1, p.1, p.2.2)] := by simp [backP]
      rw [hb, afterR_append, ih]
      show afterR [(p.2.1, p.1, p.2.2)] (applyP xs p.1 p.2.1 p.2.2) = some xs
      rw [afterR]
      simp only [applyP_length]
      rw [if_pos (payOK_back e), apply_back e]
      rfl
    · rw [if_neg e] at h; cases h

end Go.Proofs.Ytbedjebnllimpaa
