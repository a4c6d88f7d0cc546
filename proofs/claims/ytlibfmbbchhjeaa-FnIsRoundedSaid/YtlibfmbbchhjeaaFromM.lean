/- The model's search finds the first choice that fits. -/
import Derived.Test.YtlibfmbbchhjeaaBridge
namespace Go.Proofs.Ytlibfmbbchhjeaa

section
open Go.RowKit Flat

section
variable {g : List (List Int)} {u : Int}

theorem ends_of (h1 : vGrid g u = true) : ∀ k o, sameForm g o → (after (fF g u) (incF g u) (g.length * (rowOf g 0).length) 0 (flat (rowOf g 0).length o)).length < k → ends g u k o
  | 0, _, _, h => absurd h (Nat.not_lt_zero _)
  | k + 1, o, hs, h => by
    have hl := nextAll_lin h1 g.length (Nat.le_refl _) o hs
    rw [lin_eq] at hl
    unfold ends
    by_cases hb : (nextAll g u g.length o).1 = true
    · refine .inr (.inr (ends_of h1 k _ (sameForm_all h1 g.length (Nat.le_refl _) o hs) ?_))
      have e := suf_yes (fF g u) (incF g u) (g.length * (rowOf g 0).length) 0 (flat (rowOf g 0).length o) (by rw [hl]; exact hb)
      rw [hl] at e
      rw [e, List.length_cons] at h
      simp only at h
      omega
    · exact .inr (.inl (by simpa using hb))

/-- The first choice that fits. -/
def firstFit (g : List (List Int)) (u : Int) : Option (List (List Int)) :=
  ((C (fF g u) (incF g u) (g.length * (rowOf g 0).length) 0 (flat (rowOf g 0).length (downG g u))).find? (fitF g u)).map (unflat g.length (rowOf g 0).length)

theorem down_dn (h1 : vGrid g u = true) : dn (fF g u) (g.length * (rowOf g 0).length) 0 (flat (rowOf g 0).length (downG g u)) = flat (rowOf g 0).length (downG g u) := by
  have hg := small_vGrid h1
  funext p
  unfold dn
  by_cases h : 0 ≤ p ∧ p < 0 + g.length * (rowOf g 0).length
  · rw [if_pos h]
    have hm : 0 < (rowOf g 0).length := by have := hg.2.1; omega
    have hk : p % (rowOf g 0).length < (rowOf g 0).length := Nat.mod_lt _ hm
    have hi : p / (rowOf g 0).length < g.length := (Nat.div_lt_iff_lt_mul hm).2 (by omega)
    unfold fF flat cellOf
    rw [downG_row g u _ hi]
    have hkl : p % (rowOf g 0).length < (rowOf g (p / (rowOf g 0).length)).length := by rw [(hg.2.2 _ hi).1]; exact hk
    simp [List.getD, hkl]
  · rw [if_neg h]

theorem seek_first (h1 : vGrid g u = true) : ∃ F, ends g u F (downG g u) ∧ seek g u F (downG g u) = firstFit g u := by
  have hs := (candOK_down h1).1
  refine ⟨(after (fF g u) (incF g u) (g.length * (rowOf g 0).length) 0 (flat (rowOf g 0).length (downG g u))).length + 1, ends_of h1 _ _ hs (by omega), ?_⟩
  rw [seek_flat h1 _ _ hs, seekF_eq _ _ _ _ _ _ (by omega)]
  unfold firstFit
  rw [C_dn, down_dn h1]

end

/-- What RoundGrid answers. -/
def roundedG (g : List (List Int)) (u : Int) : Option (List (List Int)) := if vGrid g u = true then firstFit g u else none

set_option maxRecDepth 100000 in
set_option maxHeartbeats 1600000 in
theorem RoundGrid_impl (v : Value) (g : List (List Int)) (u : Int) (w : World) (hv : IsGrid w v g) (hl : g.length ≤ 9223372036854775807) (hr : ∀ i, i < g.length → (rowOf g i).length ≤ 9223372036854775807) :
    Calls Try.prog 37 #[v, .int .i64 u] w fun e w' => ∃ v', e = .returned v' ∧ answers w' w.heap.size v' (roundedG g u) ∧ Below w.heap.size w w' := by
  cases h1 : vGrid g u
  · obtain ⟨a, cap, rfl, _⟩ := id hv
    go_enter Try.func37, Try.ntmps37
    go_wp2_with (go_at_call 70; refine (canRound_impl _ _ _ _ hv hl hr).mono ?_; rw [h1]; rintro e w' ⟨rfl, rfl⟩)
    go_ret
    refine ⟨.slice none 0 0, rfl, ?_, Below.refl _ _⟩
    rw [roundedG, h1]
    rfl
  · obtain ⟨F, he, hs⟩ := seek_first h1
    have h := roundGrid_impl v g u w F hv h1 he (candOK_down h1) (fun o ho => candOK_all h1 g.length (Nat.le_refl _) o ho)
    rw [hs] at h
    rw [roundedG, h1, if_pos rfl]
    exact h

end

section
open Go.RowKit Flat

/-- One number more, at the end of the rows. -/
def pushC (m p : Nat) (o : List (List Int)) (x : Int) : List (List Int) := if p % m = 0 then o ++ [[x]] else o.set (p / m) (rowOf o (p / m) ++ [x])

/-- The rows made of the first p numbers. -/
def part (m : Nat) : Nat → (Nat → Int) → List (List Int)
  | 0, _ => []
  | p + 1, c => pushC m p (part m p c) (c p)

theorem part_congr (m : Nat) : ∀ p c c', (∀ q, q < p → c q = c' q) → part m p c = part m p c'
  | 0, _, _, _ => rfl
  | p + 1, c, c', h => by rw [part, part, part_congr m p c c' (fun q hq => h q (by omega)), h p (by omega)]

theorem part_upd (m p : Nat) (c : Nat → Int) (x : Int) : part m (p + 1) (upd c p x) = pushC m p (part m p c) x := by
  rw [part, part_congr m p (upd c p x) c (fun q hq => by unfold upd; rw [if_neg (by omega)])]
  unfold upd
  rw [if_pos rfl]

theorem unflat_succ (n m : Nat) (c : Nat → Int) : unflat (n + 1) m c = unflat n m c ++ [(List.range m).map fun k => c (n * m + k)] := by
  unfold unflat
  rw [List.range_succ, List.map_append]
  rfl

theorem part_row (m : Nat) (hm : 0 < m) (c : Nat → Int) (i : Nat) (h0 : part m (i * m) c = unflat i m c) : ∀ k, k ≤ m → part m (i * m + k) c = unflat i m c ++ if k = 0 then [] else [(List.range k).map fun k => c (i * m + k)]
  | 0, _ => by rw [Nat.add_zero, h0, if_pos rfl, List.append_nil]
  | k + 1, hk => by
    have ih := part_row m hm c i h0 k (by omega)
    have hd : (i * m + k) / m = i := by rw [Nat.mul_comm, Nat.mul_add_div hm, Nat.div_eq_of_lt (by omega), Nat.add_zero]
    have hr : (i * m + k) % m = k := by rw [Nat.mul_comm, Nat.mul_add_mod, Nat.mod_eq_of_lt (by omega)]
    rw [show i * m + (k + 1) = (i * m + k) + 1 by omega, part, ih]
    unfold pushC
    rw [hd, hr, if_neg (show ¬ k + 1 = 0 by omega)]
    have hl : (unflat i m c).length = i := by simp [unflat]
    by_cases h : k = 0
    · subst h
      rw [if_pos rfl, if_pos rfl, List.append_nil]
      rfl
    · rw [if_neg h, if_neg h, List.set_append_right _ _ (by omega), hl, Nat.sub_self]
      have hrow : rowOf (unflat i m c ++ [(List.range k).map fun k => c (i * m + k)]) i = (List.range k).map fun k => c (i * m + k) := by
        simp [rowOf, List.getD, hl]
      rw [hrow, List.range_succ, List.map_append]
      rfl

theorem part_full (m : Nat) (hm : 0 < m) (c : Nat → Int) : ∀ n, part m (n * m) c = unflat n m c
  | 0 => by rw [Nat.zero_mul]; rfl
  | n + 1 => by
    have h := part_row m hm c n (part_full m hm c n) m (Nat.le_refl _)
    rw [Nat.succ_mul, h, if_neg (by omega), unflat_succ]

theorem rowOf_unflat (n m : Nat) (c : Nat → Int) (i : Nat) (hi : i < n) : rowOf (unflat n m c) i = (List.range m).map fun k => c (i * m + k) := by
  simp [rowOf, unflat, List.getD, hi]

/-- Every choice goes on from what is there. -/
theorem C_out (f : Nat → Int) (inc : Nat → Bool) : ∀ r p c e, e ∈ C f inc r p c → ∀ q, q < p → e q = c q
  | 0, _, _, _, h, _, _ => by rw [C, List.mem_singleton] at h; rw [h]
  | r + 1, p, c, e, h, q, hq => by
    rw [C, List.mem_append] at h
    rcases h with h | h
    · rw [C_out f inc r (p + 1) _ e h q (by omega)]
      unfold upd; rw [if_neg (by omega)]
    · by_cases hi : inc p = true
      · rw [if_pos hi] at h
        rw [C_out f inc r (p + 1) _ e h q (by omega)]
        unfold upd; rw [if_neg (by omega)]
      · rw [if_neg hi] at h; cases h

/-- The model's search, r numbers ahead. -/
def fromM (g : List (List Int)) (u : Int) (m N : Nat) : Nat → List (List Int) → Option (List (List Int))
  | 0, o => if fitsB g u o = true then some o else none
  | r + 1, o =>
    if (N - (r + 1)) % m = 0 ∧ 0 < (N - (r + 1)) / m ∧ nearB (tot (rowOf o ((N - (r + 1)) / m - 1))) (tot (rowOf g ((N - (r + 1)) / m - 1))) u = false then none
    else match fromM g u m N r (pushC m (N - (r + 1)) o (fF g u (N - (r + 1)))) with
      | some t => some t
      | none => if incF g u (N - (r + 1)) = true then fromM g u m N r (pushC m (N - (r + 1)) o (fF g u (N - (r + 1)) + 1)) else none

end

open Go.RowKit Flat

theorem up_div {p u : Int} (hu : 1 ≤ u ∧ u ≤ 12) (h : p % u ≠ 0) : p / u + 1 = (p + u - 1) / u := by
  have : u = 1 ∨ u = 2 ∨ u = 3 ∨ u = 4 ∨ u = 5 ∨ u = 6 ∨ u = 7 ∨ u = 8 ∨ u = 9 ∨ u = 10 ∨ u = 11 ∨ u = 12 := by omega
  rcases this with rfl | rfl | rfl | rfl | rfl | rfl | rfl | rfl | rfl | rfl | rfl | rfl <;> omega

section
variable {g : List (List Int)} {u : Int}

/-- The numbers below p are choices. -/
def okTo (g : List (List Int)) (u : Int) (p : Nat) (c : Nat → Int) : Prop := ∀ q, q < p → c q = fF g u q ∨ (incF g u q = true ∧ c q = fF g u q + 1)

theorem okTo.upd {p : Nat} {c : Nat → Int} (h : okTo g u p c) {x : Int} (hx : x = fF g u p ∨ (incF g u p = true ∧ x = fF g u p + 1)) : okTo g u (p + 1) (Flat.upd c p x) := by
  intro q hq
  unfold Flat.upd
  by_cases e : q = p
  · subst e; rw [if_pos rfl]; exact hx
  · rw [if_neg e]; exact h q (by omega)

theorem fitF_ok (h1 : vGrid g u = true) {c : Nat → Int} (h : okTo g u (g.length * (rowOf g 0).length) c) : fitF g u c = fitsB g u (unflat g.length (rowOf g 0).length c) := by
  have hg := small_vGrid h1
  have hu := ((vGrid_iff g u).1 h1).2.1
  unfold fitF
  refine roundS_yes h1 (by simp [unflat]) fun i hi => rowNear_iff.2 ⟨by rw [rowOf_unflat _ _ _ _ hi]; simp, fun k hk => ?_⟩
  have hq : i * (rowOf g 0).length + k < g.length * (rowOf g 0).length := by
    have h2 : (i + 1) * (rowOf g 0).length ≤ g.length * (rowOf g 0).length := Nat.mul_le_mul_right _ (by omega)
    rw [Nat.succ_mul] at h2
    omega
  have e : cellOf (unflat g.length (rowOf g 0).length c) i k = c (i * (rowOf g 0).length + k) := by
    unfold cellOf
    rw [rowOf_unflat _ _ _ _ hi]
    simp [List.getD, hk]
  rw [e, nearB_iff hu.1]
  have ef : fF g u (i * (rowOf g 0).length + k) = cellOf g i k / u := by unfold fF; rw [flat_at _ g i k hk]
  rcases h _ hq with h2 | ⟨h2, h3⟩
  · left; rw [h2, ef]
  · right
    unfold incF at h2
    rw [flat_at _ g i k hk] at h2
    rw [h3, ef, up_div hu (by simpa using h2)]

theorem fromM_eq (h1 : vGrid g u = true) : ∀ r p c, p + r = g.length * (rowOf g 0).length → okTo g u p c →
    fromM g u (rowOf g 0).length (g.length * (rowOf g 0).length) r (part (rowOf g 0).length p c) = ((C (fF g u) (incF g u) r p c).find? (fitF g u)).map (unflat g.length (rowOf g 0).length)
  | 0, p, c, hp, hok => by
    have hg := small_vGrid h1
    have hm : 0 < (rowOf g 0).length := by have := hg.2.1; omega
    rw [Nat.add_zero] at hp
    subst hp
    rw [fromM, part_full _ hm, C, List.find?_cons, fitF_ok h1 hok]
    cases fitsB g u (unflat g.length (rowOf g 0).length c)
    · rfl
    · rfl
  | r + 1, p, c, hp, hok => by
    have hg := small_vGrid h1
    have hm : 0 < (rowOf g 0).length := by have := hg.2.1; omega
    have eN : g.length * (rowOf g 0).length - (r + 1) = p := by omega
    rw [fromM, eN]
    by_cases hpr : p % (rowOf g 0).length = 0 ∧ 0 < p / (rowOf g 0).length ∧ nearB (tot (rowOf (part (rowOf g 0).length p c) (p / (rowOf g 0).length - 1))) (tot (rowOf g (p / (rowOf g 0).length - 1))) u = false
    · rw [if_pos hpr]
      obtain ⟨h2, h3, h4⟩ := hpr
      have hnone : (C (fF g u) (incF g u) (r + 1) p c).find? (fitF g u) = none := by
        rw [List.find?_eq_none]
        intro e he hfit
        have hout := C_out _ _ _ _ _ _ he
        have hpm : p = p / (rowOf g 0).length * (rowOf g 0).length := by
          have := Nat.div_add_mod p (rowOf g 0).length
          rw [h2, Nat.add_zero, Nat.mul_comm] at this
          exact this.symm
        have hlt : p / (rowOf g 0).length < g.length := (Nat.div_lt_iff_lt_mul hm).2 (by omega)
        have e1 : rowOf (part (rowOf g 0).length p c) (p / (rowOf g 0).length - 1) = rowOf (unflat g.length (rowOf g 0).length e) (p / (rowOf g 0).length - 1) := by
          have hpf := part_full (rowOf g 0).length hm c (p / (rowOf g 0).length)
          rw [← hpm] at hpf
          rw [hpf, rowOf_unflat _ _ _ _ (by omega), rowOf_unflat _ _ _ _ (by omega)]
          apply List.map_congr_left
          intro k hk
          have hk' := List.mem_range.1 hk
          refine (hout _ ?_).symm
          have h5 : (p / (rowOf g 0).length - 1 + 1) * (rowOf g 0).length = p := by rw [show p / (rowOf g 0).length - 1 + 1 = p / (rowOf g 0).length by omega]; exact hpm.symm
          rw [Nat.succ_mul] at h5
          omega
        rw [e1] at h4
        have hfb := fitsB_no1 (o := unflat g.length (rowOf g 0).length e) (i := p / (rowOf g 0).length - 1) (by omega) h4
        unfold fitF roundS at hfit
        rw [hfb] at hfit
        simp at hfit
      rw [hnone]
      rfl
    · rw [if_neg hpr, ← part_upd, ← part_upd, fromM_eq h1 r (p + 1) _ (by omega) (hok.upd (.inl rfl)), C, List.find?_append]
      cases hA : (C (fF g u) (incF g u) r (p + 1) (Flat.upd c p (fF g u p))).find? (fitF g u) with
      | some t => rfl
      | none =>
        by_cases hi : incF g u p = true
        · rw [if_pos hi, if_pos hi, fromM_eq h1 r (p + 1) _ (by omega) (hok.upd (.inr ⟨hi, rfl⟩))]
          rfl
        · rw [if_neg hi, if_neg hi]
          rfl

/-- The two searches find the same. -/
theorem fromM_first (h1 : vGrid g u = true) : fromM g u (rowOf g 0).length (g.length * (rowOf g 0).length) (g.length * (rowOf g 0).length) [] = firstFit g u :=
  fromM_eq h1 (g.length * (rowOf g 0).length) 0 (flat (rowOf g 0).length (downG g u)) (by omega) (fun q hq => absurd hq (Nat.not_lt_zero _))

end

end Go.Proofs.Ytlibfmbbchhjeaa
