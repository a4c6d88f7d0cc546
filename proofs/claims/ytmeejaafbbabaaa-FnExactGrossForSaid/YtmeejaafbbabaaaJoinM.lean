/- Two taxes joined: the plain mathematics. -/
import Derived.Test.YtmeejaafbbabaaaTaxJ
namespace Go.Proofs.Ytmeejaafbbabaaa

/-- The first k incomes. -/
def incs (k : Nat) : List Int := List.map (fun i : Nat => (i : Int)) (List.range k)
theorem incs_succ (k : Nat) : incs k ++ [(k : Int)] = incs (k + 1) := by simp [incs, List.range_succ]
theorem incs_length (k : Nat) : (incs k).length = k := by simp [incs]

/-- The rate of both. -/
def joinR (a b : List (Int × Int)) (x : Int) : Int := rateT a x + rateT b x
/-- One income more: the steps so far, and the last rate. -/
def joinStep (a b : List (Int × Int)) (p : List (Int × Int) × Int) (x : Int) : List (Int × Int) × Int := if joinR a b x = p.2 then p else (p.1 ++ [(x, joinR a b x)], joinR a b x)
def joinF (a b : List (Int × Int)) (xs : List Int) : List (Int × Int) × Int := xs.foldl (joinStep a b) ([], -1)
theorem joinF_snoc (a b : List (Int × Int)) (xs : List Int) (x : Int) : joinF a b (xs ++ [x]) = joinStep a b (joinF a b xs) x := by simp [joinF]
theorem joinF_len (a b : List (Int × Int)) (xs : List Int) : (joinF a b xs).1.length ≤ xs.length := by
  have : ∀ (xs : List Int) (p : List (Int × Int) × Int), (xs.foldl (joinStep a b) p).1.length ≤ p.1.length + xs.length := by
    intro xs
    induction xs with
    | nil => intro p; simp
    | cons x xs ih =>
      intro p
      have h := ih (joinStep a b p x)
      have h2 : (joinStep a b p x).1.length ≤ p.1.length + 1 := by unfold joinStep; split <;> simp
      simp only [List.foldl_cons, List.length_cons]
      omega
  have := this xs ([], -1)
  simpa [joinF] using this

/-- The steps behind the first k incomes. -/
def js (a b : List (Int × Int)) (k : Nat) : List (Int × Int) := (joinF a b (incs k)).1
theorem joinF_succ (a b : List (Int × Int)) (k : Nat) : joinF a b (incs (k + 1)) = joinStep a b (joinF a b (incs k)) k := by rw [← incs_succ, joinF_snoc]

theorem joinF_snd (a b : List (Int × Int)) (k : Nat) : (joinF a b (incs (k + 1))).2 = joinR a b k := by
  rw [joinF_succ]
  unfold joinStep
  split
  · next h => exact h.symm
  · rfl

theorem js_succ_same {a b : List (Int × Int)} {k : Nat} (h : joinR a b k = (joinF a b (incs k)).2) : js a b (k + 1) = js a b k := by
  unfold js; rw [joinF_succ]; unfold joinStep; rw [if_pos h]
theorem js_succ_new {a b : List (Int × Int)} {k : Nat} (h : joinR a b k ≠ (joinF a b (incs k)).2) : js a b (k + 1) = js a b k ++ [((k : Int), joinR a b k)] := by
  unfold js; rw [joinF_succ]; unfold joinStep; rw [if_neg h]

theorem frm_snoc (st : List (Int × Int)) (f r : Int) : frm (st ++ [(f, r)]) st.length = f ∧ rat (st ++ [(f, r)]) st.length = r := by simp [frm, rat, List.getD]
theorem frm_app {st tl : List (Int × Int)} {i : Nat} (h : i < st.length) : frm (st ++ tl) i = frm st i ∧ rat (st ++ tl) i = rat st i := by
  simp [frm, rat, List.getD, List.getElem?_append_left h]

theorem joinR_nonneg {a b : List (Int × Int)} (ha : Steps a) (hb : Steps b) (x : Int) : 0 ≤ joinR a b x ∧ joinR a b x ≤ 200 := by
  have h1 := ha.rate_bounds x
  have h2 := hb.rate_bounds x
  unfold joinR
  omega

/-- What holds of the steps behind the first k + 1 incomes: there are some, the last one has the last rate; they begin below k + 1; no two rates behind each other are the same. -/
theorem js_facts {a b : List (Int × Int)} (ha : Steps a) (hb : Steps b) (k : Nat) :
    0 < (js a b (k + 1)).length ∧ rat (js a b (k + 1)) ((js a b (k + 1)).length - 1) = joinR a b k ∧
    (∀ i, i < (js a b (k + 1)).length → 0 ≤ frm (js a b (k + 1)) i ∧ frm (js a b (k + 1)) i ≤ k) ∧
    (∀ i, 0 < i → i < (js a b (k + 1)).length → rat (js a b (k + 1)) i ≠ rat (js a b (k + 1)) (i - 1)) := by
  induction k with
  | zero =>
    have h0 := joinR_nonneg ha hb 0
    have e : js a b (0 + 1) = [((0 : Int), joinR a b 0)] := by
      rw [js_succ_new (show joinR a b ((0 : Nat) : Int) ≠ (joinF a b (incs 0)).2 by show joinR a b 0 ≠ -1; omega)]
      rfl
    rw [e]
    refine ⟨by simp, by simp [rat], fun i hi => ?_, fun i h0 hi => by simp at hi; omega⟩
    have : i = 0 := by simpa using hi
    subst this
    simp [frm]
  | succ k ih =>
    obtain ⟨h1, h2, h3, h4⟩ := ih
    by_cases h : joinR a b ((k + 1 : Nat) : Int) = (joinF a b (incs (k + 1))).2
    · rw [js_succ_same h]
      refine ⟨h1, by rw [h2, h, joinF_snd], fun i hi => by have := h3 i hi; omega, h4⟩
    · rw [js_succ_new h]
      have hl : (js a b (k + 1) ++ [(((k + 1 : Nat) : Int), joinR a b ((k + 1 : Nat) : Int))]).length = (js a b (k + 1)).length + 1 := by simp
      have hs := frm_snoc (js a b (k + 1)) ((k + 1 : Nat) : Int) (joinR a b ((k + 1 : Nat) : Int))
      rw [joinF_snd, ← h2] at h
      generalize js a b (k + 1) = st at *
      refine ⟨by omega, by rw [hl, Nat.add_sub_cancel]; exact hs.2, fun i hi => ?_, fun i h0 hi => ?_⟩
      · by_cases e : i < st.length
        · rw [(frm_app e).1]; have := h3 i e; omega
        · rw [show i = st.length by omega, hs.1]; omega
      · by_cases e : i < st.length
        · rw [(frm_app e).2, (frm_app (show i - 1 < st.length by omega)).2]; exact h4 i h0 e
        · rw [show i = st.length by omega, hs.2, (frm_app (show st.length - 1 < st.length by omega)).2]; exact h

theorem js_grows (a b : List (Int × Int)) (k d : Nat) : ∃ tl, js a b (k + d) = js a b k ++ tl ∧ ∀ p ∈ tl, (k : Int) ≤ p.1 := by
  induction d with
  | zero => exact ⟨[], by simp, by simp⟩
  | succ d ih =>
    obtain ⟨tl, h1, h2⟩ := ih
    by_cases h : joinR a b ((k + d : Nat) : Int) = (joinF a b (incs (k + d))).2
    · exact ⟨tl, by rw [← Nat.add_assoc, js_succ_same h, h1], h2⟩
    · refine ⟨tl ++ [(((k + d : Nat) : Int), joinR a b ((k + d : Nat) : Int))], by rw [← Nat.add_assoc, js_succ_new h, h1, List.append_assoc], fun p hp => ?_⟩
      rcases List.mem_append.1 hp with hp | hp
      · exact h2 p hp
      · rw [List.mem_singleton.1 hp]; show (k : Int) ≤ ((k + d : Nat) : Int); omega

/-- The rates of the steps joined are those of both. -/
theorem js_rate {a b : List (Int × Int)} (ha : Steps a) (hb : Steps b) (hj : Steps (js a b 2001)) {k : Nat} (hk : k ≤ 2000) : rateT (js a b 2001) k = joinR a b k := by
  obtain ⟨h1, h2, h3, _⟩ := js_facts ha hb k
  obtain ⟨tl, ht, hp⟩ := js_grows a b (k + 1) (2000 - k)
  rw [show k + 1 + (2000 - k) = 2001 by omega] at ht
  have hl : (js a b 2001).length = (js a b (k + 1)).length + tl.length := by rw [ht]; simp
  have hat : atX (js a b 2001) (k : Int) = (js a b (k + 1)).length - 1 := by
    refine hj.atX_eq (by omega) (by omega) ?_ (fun j hj1 hj2 => ?_)
    · rw [ht, (frm_app (by omega)).1]
      have := h3 ((js a b (k + 1)).length - 1) (by omega)
      omega
    · have hge : (js a b (k + 1)).length ≤ j := by omega
      have : frm (js a b 2001) j = (tl.getD (j - (js a b (k + 1)).length) (0, 0)).1 := by
        rw [ht]
        unfold frm
        rw [List.getD_eq_getElem?_getD, List.getElem?_append_right hge, ← List.getD_eq_getElem?_getD]
      rw [this]
      have hlt : j - (js a b (k + 1)).length < tl.length := by omega
      have hm : tl.getD (j - (js a b (k + 1)).length) (0, 0) ∈ tl := by
        rw [List.getD_eq_getElem?_getD, List.getElem?_eq_getElem hlt]
        exact List.getElem_mem hlt
      have := hp _ hm
      omega
  unfold rateT
  rw [hat, ht, (frm_app (by omega)).2, h2]

theorem js_tax {a b : List (Int × Int)} (ha : Steps a) (hb : Steps b) (hj : Steps (js a b 2001)) (k : Nat) (hk : k ≤ 2000) : taxT (js a b 2001) k = taxT a k + taxT b k := by
  induction k with
  | zero => show taxT _ 0 = taxT _ 0 + taxT _ 0; rw [hj.tax_zero, ha.tax_zero, hb.tax_zero]; rfl
  | succ k ih =>
    have h1 := ih (by omega)
    have h2 := js_rate ha hb hj (show k ≤ 2000 by omega)
    have e : ((k + 1 : Nat) : Int) = (k : Int) + 1 := by omega
    rw [e, hj.tax_succ (by omega), ha.tax_succ (by omega), hb.tax_succ (by omega), h1, h2]
    unfold joinR
    omega

theorem rate_same {st : List (Int × Int)} (h : Steps st) {x : Int} (hx : 0 ≤ x) (hn : ∀ i, i < st.length → frm st i ≠ x + 1) : rateT st (x + 1) = rateT st x := by
  have a1 := h.atX_lt x
  have a2 := h.atX_at hx
  have : atX st (x + 1) = atX st x := h.atX_eq (by omega) a1 (by omega) (fun j h1 h2 => by
    have := Steps.atX_over h1 h2
    have := hn j h2
    omega)
  unfold rateT
  rw [this]

/-- What JoinSteps answers. -/
def joinA (a b : List (Int × Int)) : List (Int × Int) × Bool := if vSteps a && vSteps b && vSteps (js a b 2001) then (js a b 2001, true) else ([], false)

theorem js_len (a b : List (Int × Int)) (k : Nat) : (js a b k).length ≤ k := by
  have := joinF_len a b (incs k)
  rwa [incs_length] at this

end Go.Proofs.Ytmeejaafbbabaaa
