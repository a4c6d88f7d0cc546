/- Debts of friends: valid ones, in the model. -/
import Derived.Test.YtbedjebnllimpaaTK
namespace Go.Proofs.Ytbedjebnllimpaa
open Go.RowKit

/-- What one friend owes. -/
def rowD (g : List (List Int)) (a : Nat) : Bool := decide ((rowOf g a).length = g.length) && decide (cellOf g a a = 0) && (List.range g.length).all fun b => inR (cellOf g a b) 0 50

def vDebts (g : List (List Int)) : Bool := (List.range g.length).all (rowD g) && inR g.length 1 6

theorem vDebts_no {g : List (List Int)} {a : Nat} (ha : a < g.length) (h : rowD g a = false) : vDebts g = false := by
  have : (List.range g.length).all (rowD g) = false := by
    rw [List.all_eq_false]
    exact ⟨a, by simpa using ha, by simp [h]⟩
  rw [vDebts, this]; rfl
theorem vDebts_all {g : List (List Int)} (h : ∀ a, a < g.length → rowD g a = true) : vDebts g = inR g.length 1 6 := by
  have : (List.range g.length).all (rowD g) = true := by
    rw [List.all_eq_true]
    intro a ha
    exact h a (by simpa using ha)
  rw [vDebts, this]; rfl
theorem rowD_no {g : List (List Int)} {a b : Nat} (hb : b < g.length) (h : inR (cellOf g a b) 0 50 = false) : rowD g a = false := by
  have : ((List.range g.length).all fun b => inR (cellOf g a b) 0 50) = false := by
    rw [List.all_eq_false]
    exact ⟨b, by simpa using hb, by simp [h]⟩
  rw [rowD, this]; simp
theorem rowD_yes {g : List (List Int)} {a : Nat} (h1 : (rowOf g a).length = g.length) (h2 : cellOf g a a = 0) (h : ∀ b, b < g.length → inR (cellOf g a b) 0 50 = true) : rowD g a = true := by
  have : ((List.range g.length).all fun b => inR (cellOf g a b) 0 50) = true := by
    rw [List.all_eq_true]
    intro b hb
    exact h b (by simpa using hb)
  rw [rowD, this, decide_eq_true h1, decide_eq_true h2]; rfl

theorem vDebts_iff (g : List (List Int)) : vDebts g = true ↔ (1 ≤ g.length ∧ g.length ≤ 6) ∧ ∀ a, a < g.length → (rowOf g a).length = g.length ∧ cellOf g a a = 0 ∧ ∀ b, b < g.length → 0 ≤ cellOf g a b ∧ cellOf g a b ≤ 50 := by
  constructor
  · intro h
    simp only [vDebts, Bool.and_eq_true, List.all_eq_true, List.mem_range] at h
    obtain ⟨h1, h2⟩ := h
    have h2' := inR_true h2
    refine ⟨by omega, fun a ha => ?_⟩
    have h4 := h1 a ha
    simp only [rowD, Bool.and_eq_true, decide_eq_true_eq, List.all_eq_true, List.mem_range] at h4
    exact ⟨h4.1.1, h4.1.2, fun b hb => inR_true (h4.2 b hb)⟩
  · rintro ⟨h1, h2⟩
    rw [vDebts_all (fun a ha => rowD_yes (h2 a ha).1 (h2 a ha).2.1 (fun b hb => by unfold inR; exact decide_eq_true ((h2 a ha).2.2 b hb)))]
    unfold inR
    exact decide_eq_true (by omega)

set_option maxRecDepth 100000 in
set_option maxHeartbeats 3200000 in
theorem validDebts_spec (v : Value) (g : List (List Int)) (w : World) (hv : IsGrid w v g) (hl : g.length ≤ 9223372036854775807) (hr : ∀ i, i < g.length → (rowOf g i).length ≤ 9223372036854775807) :
    Calls Try.prog 68 #[v] w fun e w' => e = .returned (.bool (vDebts g)) ∧ w = w' := by
  obtain ⟨a, cap, rfl, _⟩ := id hv
  go_enter Try.func68, Try.ntmps68
  go_wp2
  go_loop [3, 4] (fun s _ => ∃ i : Nat, i ≤ g.length ∧ s = .int .i64 i ∧ (∀ j, j < i → rowD g j = true)) (fun s _ => g.length - (intOf s).toNat)
  case atStart => exact ⟨0, Nat.zero_le _, rfl, fun j hj => absurd hj (Nat.not_lt_zero _)⟩
  case round =>
    obtain ⟨i, hi, rfl, hok⟩ := hrel
    have HOK := Lib.hid hok
    clear hok
    by_cases hlt : i < g.length
    · obtain ⟨b, off, ar, cr, rfl, ci, cc⟩ := hv.row i hlt
      have hli := hr i hlt
      have i1 : (i : Int) < (g.length : Int) := by omega
      have HCC := Lib.hid cc
      clear cc
      by_cases hsame : (rowOf g i).length = g.length
      · have hne : (((rowOf g i).length : Int) != (g.length : Int)) = false := by simp; omega
        have k1 : (i : Int) < ((rowOf g i).length : Int) := by omega
        obtain ⟨br, fr, rfl, ck⟩ := HCC.out i (by omega)
        have HSM := Lib.hid hsame
        clear hsame
        by_cases hz : cellOf g i i = 0
        · have hz1 : (cellOf g i i != 0) = false := by simp [hz]
          have HZ := Lib.hid hz
          clear hz
          go_wp2
          go_loop [4] (fun s => ∃ k : Nat, k ≤ g.length ∧ s = .int .i64 k ∧ (∀ j, j < k → inR (cellOf g i j) 0 50 = true)) (fun s => g.length - (intOf s).toNat)
          case atStart => exact ⟨0, Nat.zero_le _, rfl, fun j hj => absurd hj (Nat.not_lt_zero _)⟩
          case round =>
            obtain ⟨k, hk, rfl, hck⟩ := hrel
            have HCK := Lib.hid hck
            clear hck
            by_cases hlk : k < g.length
            · obtain ⟨br2, fr2, er, ck2⟩ := HCC.out k (by rw [HSM.out]; exact hlk)
              simp only [Option.some.injEq, Addr.mk.injEq, and_true] at er
              obtain ⟨rfl, rfl⟩ := er
              have k2 : (k : Int) < ((rowOf g i).length : Int) := by rw [HSM.out]; omega
              cases h4 : inR (cellOf g i k) 0 50
              · have HF : Hid (vDebts g = false) := vDebts_no hlt (rowD_no hlk h4)
                go_wp2_with (go_at_call 88; refine (inRange_spec _ _ _ _).mono ?_; rintro e w' ⟨rfl, rfl⟩)
                go_ret
                exact ⟨ret_bool HF.out.symm, rfl⟩
              · go_wp2_with (go_at_call 88; refine (inRange_spec _ _ _ _).mono ?_; rintro e w' ⟨rfl, rfl⟩)
                go_round
                case rel =>
                  refine ⟨k + 1, by omega, by go_num, fun j hj => ?_⟩
                  by_cases hjk : j = k
                  · subst hjk; exact h4
                  · exact HCK.out j (by omega)
                case measure => simp [intOf]; omega
            · have HR : Hid (rowD g i = true) := rowD_yes HSM.out HZ.out (fun j hj => HCK.out j (by omega))
              go_wp2
              go_round
              case rel =>
                refine ⟨i + 1, by omega, by go_num, fun j hj => ?_⟩
                by_cases hji : j = i
                · subst hji; exact HR.out
                · exact HOK.out j (by omega)
              case measure => simp [intOf]; omega
        · have hz1 : (cellOf g i i != 0) = true := by simp [hz]
          have HF : Hid (vDebts g = false) := vDebts_no hlt (by unfold rowD; rw [decide_eq_false hz]; simp)
          clear hz
          go_wp2
          go_ret
          exact ⟨ret_bool HF.out.symm, rfl⟩
      · have hne : (((rowOf g i).length : Int) != (g.length : Int)) = true := by simp; omega
        have HF : Hid (vDebts g = false) := vDebts_no hlt (by unfold rowD; rw [decide_eq_false hsame]; simp)
        clear hsame
        go_wp2
        go_ret
        exact ⟨ret_bool HF.out.symm, rfl⟩
    · have HV := Lib.hid (vDebts_all (fun j hj => HOK.out j (by omega)))
      go_wp2_with (go_at_call 88; refine (inRange_spec _ _ _ _).mono ?_; rintro e w' ⟨rfl, rfl⟩)
      go_ret
      exact ⟨ret_bool HV.out.symm, rfl⟩

set_option maxHeartbeats 400000 in
theorem ValidDebts_spec (v : Value) (g : List (List Int)) (w : World) (hv : IsGrid w v g) (hl : g.length ≤ 9223372036854775807) (hr : ∀ i, i < g.length → (rowOf g i).length ≤ 9223372036854775807) :
    Calls Try.prog 21 #[v] w fun e w' => e = .returned (.bool (vDebts g)) ∧ w = w' := by
  have H := Lib.hid (validDebts_spec v g w hv hl hr)
  obtain ⟨a, cap, rfl, _⟩ := hv
  go_enter Try.func21, Try.ntmps21
  go_wp2_with fail
  refine H.out.mono ?_
  rintro e w' ⟨rfl, rfl⟩
  go_wp2
  go_ret
  exact ⟨rfl, rfl⟩

end Go.Proofs.Ytbedjebnllimpaa
