/- RoundGrid in the program: the first choice that fits. -/
import Derived.Test.YtlibfmbbchhjeaaBridge
namespace Go.Proofs.Ytlibfmbbchhjeaa
open Go.RowKit Flat

section
variable {g : List (List Int)} {u : Int}

theorem ends_of (h1 : vGrid g u = true) : ∀ k o, sameForm g o → (after (fF g u) (incF g u) (g.length * (rowOf g 0).length) 0 (flat (rowOf g 0).length o)).length < k → ends g u k o
  | 0, _, _, h => absurd h (Nat.not_lt_zero _)
  | k + 1, o, hs, h => by
    have hl := nextAll_lin h1 g.length (Nat.le_refl _) o hs
    rw [lin_eq] at hl
    unfold ends
    by_cases hb : (nextAll g u g.length o).1 = true
    · refine .inr (.inr (ends_of h1 k _ (sameForm_all h1 g.length (Nat.le_refl _) o hs) ?_))
      have e := suf_yes (fF g u) (incF g u) (g.length * (rowOf g 0).length) 0 (flat (rowOf g 0).length o) (by rw [hl]; exact hb)
      rw [hl] at e
      rw [e, List.length_cons] at h
      simp only at h
      omega
    · exact .inr (.inl (by simpa using hb))

/-- The first choice that fits. -/
def firstFit (g : List (List Int)) (u : Int) : Option (List (List Int)) :=
  ((C (fF g u) (incF g u) (g.length * (rowOf g 0).length) 0 (flat (rowOf g 0).length (downG g u))).find? (fitF g u)).map (unflat g.length (rowOf g 0).length)

theorem down_dn (h1 : vGrid g u = true) : dn (fF g u) (g.length * (rowOf g 0).length) 0 (flat (rowOf g 0).length (downG g u)) = flat (rowOf g 0).length (downG g u) := by
  have hg := small_vGrid h1
  funext p
  unfold dn
  by_cases h : 0 ≤ p ∧ p < 0 + g.length * (rowOf g 0).length
  · rw [if_pos h]
    have hm : 0 < (rowOf g 0).length := by have := hg.2.1; omega
    have hk : p % (rowOf g 0).length < (rowOf g 0).length := Nat.mod_lt _ hm
    have hi : p / (rowOf g 0).length < g.length := (Nat.div_lt_iff_lt_mul hm).2 (by omega)
    unfold fF flat cellOf
    rw [downG_row g u _ hi]
    have hkl : p % (rowOf g 0).length < (rowOf g (p / (rowOf g 0).length)).length := by rw [(hg.2.2 _ hi).1]; exact hk
    simp [List.getD, hkl]
  · rw [if_neg h]

theorem seek_first (h1 : vGrid g u = true) : ∃ F, ends g u F (downG g u) ∧ seek g u F (downG g u) = firstFit g u := by
  have hs := (candOK_down h1).1
  refine ⟨(after (fF g u) (incF g u) (g.length * (rowOf g 0).length) 0 (flat (rowOf g 0).length (downG g u))).length + 1, ends_of h1 _ _ hs (by omega), ?_⟩
  rw [seek_flat h1 _ _ hs, seekF_eq _ _ _ _ _ _ (by omega)]
  unfold firstFit
  rw [C_dn, down_dn h1]

end

/-- What RoundGrid answers. -/
def roundedG (g : List (List Int)) (u : Int) : Option (List (List Int)) := if vGrid g u = true then firstFit g u else none

set_option maxRecDepth 100000 in
set_option maxHeartbeats 1600000 in
theorem RoundGrid_impl (v : Value) (g : List (List Int)) (u : Int) (w : World) (hv : IsGrid w v g) (hl : g.length ≤ 9223372036854775807) (hr : ∀ i, i < g.length → (rowOf g i).length ≤ 9223372036854775807) :
    Calls Try.prog 37 #[v, .int .i64 u] w fun e w' => ∃ v', e = .returned v' ∧ answers w' w.heap.size v' (roundedG g u) ∧ Below w.heap.size w w' := by
  cases h1 : vGrid g u
  · obtain ⟨a, cap, rfl, _⟩ := id hv
    go_enter Try.func37, Try.ntmps37
    go_wp2_with (go_at_call 70; refine (canRound_impl _ _ _ _ hv hl hr).mono ?_; rw [h1]; rintro e w' ⟨rfl, rfl⟩)
    go_ret
    refine ⟨.slice none 0 0, rfl, ?_, Below.refl _ _⟩
    rw [roundedG, h1]
    rfl
  · obtain ⟨F, he, hs⟩ := seek_first h1
    have h := roundGrid_impl v g u w F hv h1 he (candOK_down h1) (fun o ho => candOK_all h1 g.length (Nat.le_refl _) o ho)
    rw [hs] at h
    rw [roundedG, h1, if_pos rfl]
    exact h

end Go.Proofs.Ytlibfmbbchhjeaa
