/- Steps of a tax in memory: what a slice value reads as. -/
import Derived.Test.YtmeejaafbbabaaaNum
import Derived.WalkSmall
import Derived.BigQuiet
import Derived.Deep.QuietTactic
import Derived.OwnWalk
namespace Go.Proofs.Ytmeejaafbbabaaa
open Go.RowKit

/-- From of step i. -/
def frm (st : List (Int × Int)) (i : Nat) : Int := (st.getD i (0, 0)).1
/-- Rate of step i. -/
def rat (st : List (Int × Int)) (i : Nat) : Int := (st.getD i (0, 0)).2

/-- The slice value v reads as the steps st in the world w. -/
def IsSteps (w : World) (v : Value) (st : List (Int × Int)) : Prop :=
  ∃ a cap, v = .slice a st.length cap ∧ ∀ j, j < st.length → ∃ b off, a = some ⟨b, off, none⟩ ∧ w.cell? ⟨b, off + j * 2, none⟩ = some (.int .i64 (frm st j)) ∧ w.cell? ⟨b, off + j * 2 + 1, none⟩ = some (.int .i64 (rat st j))

theorem IsSteps.below {w w' : World} {v : Value} {st : List (Int × Int)} (h : IsSteps w v st) (hb : Below w.heap.size w w') : IsSteps w' v st := by
  obtain ⟨a, cap, rfl, hc⟩ := h
  refine ⟨a, cap, rfl, fun j hj => ?_⟩
  obtain ⟨b, off, ha, h1, h2⟩ := hc j hj
  exact ⟨b, off, ha, (hb.cell (p := ⟨b, off + j * 2, none⟩) (World.block_lt_of_cell? w _ h1)).trans h1, (hb.cell (p := ⟨b, off + j * 2 + 1, none⟩) (World.block_lt_of_cell? w _ h2)).trans h2⟩

/-- Every number of the steps fits an int. -/
def FitsS (st : List (Int × Int)) : Prop := ∀ i, (-9223372036854775808 ≤ frm st i ∧ frm st i ≤ 9223372036854775807) ∧ (-9223372036854775808 ≤ rat st i ∧ rat st i ≤ 9223372036854775807)

/-- A step may be one of a tax. -/
def okStep (f r : Int) : Bool := inR f 0 2000 && inR r 0 100

set_option maxHeartbeats 400000 in
theorem isValid_impl (f r : Int) (w : World) :
    Calls Try.prog 52 #[.agg #[.int .i64 f, .int .i64 r]] w fun e w' => e = .returned (.bool (okStep f r)) ∧ Below w.heap.size w w' := by
  cases h1 : inR f 0 2000
  · go_enter Try.func52, Try.ntmps52
    go_wp2_with (go_at_call 51; refine (inRange_impl _ _ _ _).mono ?_; rintro e w' ⟨rfl, rfl⟩)
    go_ret
    exact ⟨ret_bool (by rw [okStep, h1]; rfl), (Below.refl _ _).alloc (Nat.le_refl _) _⟩
  · go_enter Try.func52, Try.ntmps52
    go_wp2_with (go_at_call 51; refine (inRange_impl _ _ _ _).mono ?_; rintro e w' ⟨rfl, rfl⟩)
    go_ret
    exact ⟨ret_bool (by rw [okStep, h1]; rfl), (Below.refl _ _).alloc (Nat.le_refl _) _⟩

set_option maxHeartbeats 400000 in
theorem hundredUpTo_impl (f r x : Int) (w : World) (hf : 0 ≤ f ∧ f ≤ 2000) (hr : 0 ≤ r ∧ r ≤ 100) (hx : 0 ≤ x ∧ x ≤ 2000) :
    Calls Try.prog 68 #[.agg #[.int .i64 f, .int .i64 r], .int .i64 x] w fun e w' => e = .returned (.int .i64 ((x - f) * r)) ∧ Below w.heap.size w w' := by
  have h1 : (x - f) * r ≤ 2000 * 100 := Int.le_trans (Int.mul_le_mul_of_nonneg_right (by omega) hr.1) (Int.mul_le_mul_of_nonneg_left hr.2 (by omega))
  have h2 : -2000 * 100 ≤ (x - f) * r := Int.le_trans (Int.mul_le_mul_of_nonpos_left (by omega) hr.2) (Int.mul_le_mul_of_nonneg_right (by omega) hr.1)
  go_enter Try.func68, Try.ntmps68
  go_wp2
  go_ret
  exact ⟨rfl, (Below.refl _ _).alloc (Nat.le_refl _) _⟩

end Go.Proofs.Ytmeejaafbbabaaa
