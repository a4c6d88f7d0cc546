/- Balances of friends: valid ones, in the model. -/
import Derived.Test.YtbedjebnllimpaaSMs
import Derived.Test.YtbedjebnllimpaaSM
import Derived.Test.YtbedjebnllimpaaWorld
namespace Go.Proofs.Ytbedjebnllimpaa
open Go.RowKit

def vBal (xs : List Int) : Bool := (xs.all fun x => inR x (-300) 300) && inR xs.length 1 6 && decide (tot xs = 0)

theorem vBal_iff (xs : List Int) : vBal xs = true ↔ (∀ x ∈ xs, -300 ≤ x ∧ x ≤ 300) ∧ (1 ≤ xs.length ∧ xs.length ≤ 6) ∧ tot xs = 0 := by
  simp only [vBal, Bool.and_eq_true, List.all_eq_true, decide_eq_true_eq]
  constructor
  · rintro ⟨⟨h1, h2⟩, h3⟩
    exact ⟨fun x hx => inR_true (h1 x hx), by have := inR_true h2; omega, h3⟩
  · rintro ⟨h1, h2, h3⟩
    refine ⟨⟨fun x hx => ?_, ?_⟩, h3⟩
    · unfold inR; exact decide_eq_true (h1 x hx)
    · unfold inR; exact decide_eq_true (by omega)

theorem vBal_no {xs : List Int} {k : Nat} (hk : k < xs.length) (h : inR (xs.getD k 0) (-300) 300 = false) : vBal xs = false := by
  have : (xs.all fun x => inR x (-300) 300) = false := by
    rw [List.all_eq_false]
    exact ⟨xs.getD k 0, by simp [List.getD, hk], by rw [h]; decide⟩
  rw [vBal, this]; rfl

theorem all_of_take {xs : List Int} (h : ∀ k, k < xs.length → inR (xs.getD k 0) (-300) 300 = true) : (xs.all fun x => inR x (-300) 300) = true := by
  rw [List.all_eq_true]
  intro x hx
  obtain ⟨k, hk, rfl⟩ := List.getElem_of_mem hx
  have := h k hk
  simpa [List.getD, hk] using this

set_option maxHeartbeats 1600000 in
theorem validBalances_spec (v : Value) (xs : List Int) (w : World) (hv : IsInts w v xs) (hl : xs.length ≤ 9223372036854775807) :
    Calls Try.prog 79 #[v] w fun e w' => e = .returned (.bool (vBal xs)) ∧ w = w' := by
  have HV := Lib.hid hv
  obtain ⟨a, cap, rfl, hc⟩ := hv
  go_enter Try.func79, Try.ntmps79
  go_wp2
  go_loop [3] (fun s => ∃ k : Nat, k ≤ xs.length ∧ s = .int .i64 k ∧ (∀ j, j < k → inR (xs.getD j 0) (-300) 300 = true)) (fun s => xs.length - (intOf s).toNat)
  case atStart => exact ⟨0, Nat.zero_le _, rfl, fun j hj => absurd hj (Nat.not_lt_zero _)⟩
  case round =>
    obtain ⟨k, hk, rfl, hok⟩ := hrel
    have HOK := Lib.hid hok
    clear hok
    by_cases hlt : k < xs.length
    · obtain ⟨b, off, rfl, hcell⟩ := hc k hlt
      have k1 : (k : Int) < (xs.length : Int) := by omega
      clear hc
      have HNO : Hid (inR (xs.getD k 0) (-300) 300 = false → vBal xs = false) := fun h => vBal_no hlt h
      generalize hx : xs.getD k 0 = x at hcell HNO
      have HX := Lib.hid hx
      clear hx
      cases h4 : inR x (-300) 300
      · have HF : Hid (vBal xs = false) := HNO.out h4
        go_wp2_with (go_at_call 88; refine (inRange_spec _ _ _ _).mono ?_; rintro e w' ⟨rfl, rfl⟩)
        go_ret
        exact ⟨ret_bool HF.out.symm, rfl⟩
      · go_wp2_with (go_at_call 88; refine (inRange_spec _ _ _ _).mono ?_; rintro e w' ⟨rfl, rfl⟩)
        go_round
        case rel =>
          refine ⟨k + 1, by omega, by go_num, fun j hj => ?_⟩
          by_cases hjk : j = k
          · subst hjk; rw [HX.out]; exact h4
          · exact HOK.out j (by omega)
        case measure => simp [intOf]; omega
    · have ha := all_of_take (fun j hj => HOK.out j (by omega))
      cases h6 : inR xs.length 1 6
      · have HF : Hid (vBal xs = false) := by show vBal xs = false; rw [vBal, ha, h6]; rfl
        clear ha hc
        go_wp2_with (go_at_call 88; refine (inRange_spec _ _ _ _).mono ?_; rintro e w' ⟨rfl, rfl⟩)
        go_ret
        exact ⟨ret_bool HF.out.symm, rfl⟩
      · have h6b := inR_true h6
        have hb : ∀ x ∈ xs, -300 ≤ x ∧ x ≤ 300 := fun x hx => inR_true (List.all_eq_true.1 ha x hx)
        have hsf : SumFits xs := sumFits_abs xs 300 hb (by decide) (by omega)
        have HF : Hid (vBal xs = decide (tot xs = 0)) := by show vBal xs = _; rw [vBal, ha, h6]; rfl
        have HS := Lib.hid (sum_spec _ xs w HV.out hl hsf)
        clear ha hb hsf hc
        go_wp2_with (go_at_call 88; refine (inRange_spec _ _ _ _).mono ?_; rw [h6]; rintro e w' ⟨rfl, rfl⟩)
        go_wp2_with fail
        refine HS.out.mono ?_
        rintro e w' ⟨rfl, rfl⟩
        have he : (tot xs == 0) = decide (tot xs = 0) := by
          by_cases h : tot xs = 0 <;> simp [h]
        generalize tot xs = t at he HF
        go_wp2
        go_ret
        exact ⟨ret_bool (by rw [HF.out] <;> exact he), rfl⟩

end Go.Proofs.Ytbedjebnllimpaa
