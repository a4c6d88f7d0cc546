/- IsClosed, in the model. -/
import Derived.Test.YtiffjeclpgcabaaGanS
namespace Go.Proofs.Ytiffjeclpgcabaa
open Go.RowKit

/-- What IsClosed answers. -/
def closedW (g : List (List (Int × Int))) : Bool := vRates g && (decide (g.length < 2) || decide ((gainV (cellX g) g.length).1 ≤ (gainV (cellX g) g.length).2))

set_option maxRecDepth 100000 in
set_option maxHeartbeats 3200000 in
theorem IsClosed_spec (v : Value) (g : List (List (Int × Int))) (w : World) (hv : IsGridR w v g) (hl : g.length ≤ 9223372036854775807) (hr : ∀ i, i < g.length → (rowR g i).length ≤ 9223372036854775807) :
    Calls Try.prog 31 #[v] w fun e w' => e = .returned (.bool (closedW g)) ∧ Below w.heap.size w w' := by
  have HVR := Lib.hid (validRates_spec v g w hv hl hr)
  have HGO := Lib.hid (fun wx hb => GainOf_spec v g wx (hv.below (w := w) hb) hl hr)
  obtain ⟨av, cap, rfl, _⟩ := hv
  cases h1 : vRates g
  · have E : Hid (closedW g = false) := by show _ = _; unfold closedW; rw [h1]; rfl
    rw [h1] at HVR
    go_enter Try.func31, Try.ntmps31
    go_wp2_with fail
    refine HVR.out.mono ?_
    rintro e w2 ⟨rfl, d2⟩
    go_wp2
    go_ret
    exact ⟨ret_bool E.out.symm, d2⟩
  rw [h1] at HVR
  by_cases h2 : 2 ≤ g.length
  · have E : Hid (closedW g = decide ((gainV (cellX g) g.length).1 ≤ (gainV (cellX g) g.length).2)) := by show _ = _; unfold closedW; rw [h1, decide_eq_false (by omega)]; rfl
    have EG : Hid (gainW g = (gainV (cellX g) g.length, true)) := by show _ = _; unfold gainW; rw [h1, decide_eq_true h2]; rfl
    rw [EG.out] at HGO
    generalize gainV (cellX g) g.length = G at *
    obtain ⟨gu, gd⟩ := G
    simp only at HGO E
    go_enter Try.func31, Try.ntmps31
    go_wp2_with fail
    refine HVR.out.mono ?_
    rintro e w2 ⟨rfl, d2⟩
    go_wp2_with fail
    refine (HGO.out _ d2).mono ?_
    rintro e w3 ⟨rfl, d3⟩
    have b3 := d2.trans (d3.mono d2.size)
    have b4 := b3.alloc b3.size (.cells #[.int .i64 gu, .int .i64 gd] 31)
    clear d2 d3 b3
    go_wp2
    go_ret
    exact ⟨ret_bool E.out.symm, b4⟩
  · have E : Hid (closedW g = true) := by show _ = _; unfold closedW; rw [h1, decide_eq_true (show g.length < 2 by omega)]; rfl
    have EG : Hid (gainW g = ((0, 0), false)) := gainW_no (by rw [h1, decide_eq_false h2]; rfl)
    rw [EG.out] at HGO
    simp only at HGO
    go_enter Try.func31, Try.ntmps31
    go_wp2_with fail
    refine HVR.out.mono ?_
    rintro e w2 ⟨rfl, d2⟩
    go_wp2_with fail
    refine (HGO.out _ d2).mono ?_
    rintro e w3 ⟨rfl, d3⟩
    have b3 := d2.trans (d3.mono d2.size)
    have b4 := b3.alloc b3.size (.cells #[.int .i64 0, .int .i64 0] 31)
    clear d2 d3 b3
    go_wp2
    go_ret
    exact ⟨ret_bool E.out.symm, b4⟩

end Go.Proofs.Ytiffjeclpgcabaa
