/- Ratios, in the model: validRatio, Exchange. -/
import Derived.Test.YtiffjeclpgcabaaOffV
import Derived.Test.YtiffjeclpgcabaaOwnB
namespace Go.Proofs.Ytiffjeclpgcabaa
open Go.RowKit

/-- The value of a ratio. -/
abbrev rv (u d : Int) : Value := .agg #[.int .i64 u, .int .i64 d]
def vRat (u d : Int) : Bool := inR u 1 20 && inR d 1 20
/-- What Exchange answers. -/
def exchV (a u d : Int) : Int := if (inR a 0 100000 && vRat u d) = true then a * u / d else -1

/-- A ratio in memory. -/
def IsBoxR (w : World) (b : Nat) (u d : Int) : Prop := w.heap[b]? = some (.cells #[.int .i64 u, .int .i64 d] 31 (0, 0))

theorem IsBoxR.cells {w : World} {b : Nat} {u d : Int} (h : IsBoxR w b u d) : (w.cell? ⟨b, 0, none⟩ = some (.int .i64 u) ∧ w.cell? ⟨b, 1, none⟩ = some (.int .i64 d)) ∧ ∀ j, w.frozen? ⟨b, j, none⟩ = false := by
  refine ⟨⟨?_, ?_⟩, fun j => frozen_of_row w b j _ _ h⟩
  · rw [cell_of_row w b 0 _ _ _ h]; rfl
  · rw [cell_of_row w b 1 _ _ _ h]; rfl
theorem IsBoxR.lt {w : World} {b : Nat} {u d : Int} (h : IsBoxR w b u d) : b < w.heap.size := (Array.getElem?_eq_some_iff.1 h).1
theorem IsBoxR.kept {w w' : World} {b : Nat} {u d : Int} {row : Option Nat} (h : IsBoxR w b u d) (g : w.grownBy w' row) (hne : some b ≠ row) : IsBoxR w' b u d := (g.block b h.lt hne).trans h
theorem IsBoxR.below {w w' : World} {b : Nat} {u d : Int} (h : IsBoxR w b u d) (hb : Below w.heap.size w w') : IsBoxR w' b u d := (hb.block _ h.lt).trans h
theorem IsBoxR.new (w : World) (u d : Int) : IsBoxR (w.alloc (.cells #[.int .i64 u, .int .i64 d] 31)) w.heap.size u d := heap_alloc_new _ _

theorem vRat_iff {u d : Int} : vRat u d = true ↔ (1 ≤ u ∧ u ≤ 20) ∧ 1 ≤ d ∧ d ≤ 20 := by
  unfold vRat
  rw [Bool.and_eq_true]
  exact ⟨fun h => ⟨inR_true h.1, inR_true h.2⟩, fun h => ⟨by unfold inR; exact decide_eq_true h.1, by unfold inR; exact decide_eq_true h.2⟩⟩

theorem inRange_atR (x lo hi : Int) (r : Bool) (w : World) (h : inR x lo hi = r) : Calls Try.prog 63 #[.int .i64 x, .int .i64 lo, .int .i64 hi] w fun e w' => e = .returned (.bool r) ∧ w = w' := by
  subst h; exact inRange_spec _ _ _ _

set_option maxHeartbeats 1600000 in
theorem validRatio_spec (u d : Int) (w : World) :
    Calls Try.prog 71 #[rv u d] w fun e w' => e = .returned (.bool (vRat u d)) ∧ Below w.heap.size w w' := by
  have hb : Below w.heap.size w (w.alloc (.cells #[.int .i64 u, .int .i64 d] 31)) := (Below.refl _ _).alloc (Nat.le_refl _) _
  have HCC := Lib.hid inRange_atR
  cases h1 : inR u 1 20
  · have E : Hid (vRat u d = false) := by show _ = _; unfold vRat; rw [h1]; rfl
    go_enter Try.func71, Try.ntmps71
    go_wp2_with (go_at_call 63; refine (HCC.out _ _ _ _ _ h1).mono ?_; rintro e w' ⟨rfl, rfl⟩)
    go_ret
    exact ⟨ret_bool E.out.symm, hb⟩
  · have E : Hid (vRat u d = inR d 1 20) := by show _ = _; unfold vRat; rw [h1]; rfl
    go_enter Try.func71, Try.ntmps71
    go_wp2_with (go_at_call 63; (first | (with_reducible refine (HCC.out u _ _ _ _ h1).mono ?_) | (with_reducible refine (HCC.out d _ _ _ _ rfl).mono ?_)); rintro e w' ⟨rfl, rfl⟩)
    go_ret
    exact ⟨ret_bool E.out.symm, hb⟩

theorem validRatio_at (u d : Int) (r : Bool) (w : World) (h : vRat u d = r) :
    Calls Try.prog 71 #[rv u d] w fun e w' => e = .returned (.bool r) ∧ Below w.heap.size w w' := by
  subst h; exact validRatio_spec _ _ _

set_option maxHeartbeats 1600000 in
theorem Exchange_spec (a u d : Int) (w : World) :
    Calls Try.prog 34 #[.int .i64 a, rv u d] w fun e w' => e = .returned (.int .i64 (exchV a u d)) ∧ Below w.heap.size w w' := by
  have HCC := Lib.hid inRange_atR
  have HV := Lib.hid (validRatio_at u d)
  have hh : (w.alloc (.cells #[.int .i64 u, .int .i64 d] 31)).heap.size = w.heap.size + 1 := by simp
  have HH := Lib.hid hh
  clear hh
  have hb : Below w.heap.size w (w.alloc (.cells #[.int .i64 u, .int .i64 d] 31)) := (Below.refl _ _).alloc (Nat.le_refl _) _
  have HNO : Hid ((inR a 0 100000 && vRat u d) = false → exchV a u d = -1) := fun h => by unfold exchV; rw [h]; rfl
  cases h1 : inR a 0 100000
  · have E := Lib.hid (HNO.out (by rw [h1]; rfl))
    go_enter Try.func34, Try.ntmps34
    go_wp2_with (go_at_call 63; refine (HCC.out _ _ _ _ _ h1).mono ?_; rintro e w' ⟨rfl, rfl⟩)
    go_ret
    exact ⟨ret_int E.out.symm, hb⟩
  have hn := IsBoxR.new w u d
  cases h2 : vRat u d
  · have E := Lib.hid (HNO.out (by rw [h1, h2]; rfl))
    go_enter Try.func34, Try.ntmps34
    go_wp2_with (go_at_call 63; refine (HCC.out _ _ _ _ _ h1).mono ?_; rintro e w' ⟨rfl, rfl⟩)
    refine (HV.out _ _ h2).mono ?_
    rintro e w2 ⟨rfl, b2⟩
    have b3 := hb.trans (b2.mono hb.size)
    clear hn b2 hb
    go_wp2
    go_ret
    exact ⟨ret_int E.out.symm, b3⟩
  · have E : Hid (exchV a u d = a * u / d) := by show _ = _; unfold exchV; rw [h1, h2]; rfl
    obtain ⟨hu, hd⟩ := vRat_iff.1 h2
    have ha := inR_true h1
    have m1 : 0 ≤ a * u := Int.mul_nonneg ha.1 (by omega)
    have m2 : a * u ≤ 100000 * 20 := Int.mul_le_mul ha.2 hu.2 (by omega) (by omega)
    have W1 : IntKind.i64.wrap (a * u) = a * u := IntWalk.i64_in _ (by omega)
    have q0 := Int.ediv_nonneg m1 (show 0 ≤ d by omega)
    have q1 := Int.ediv_le_self d m1
    have hd0 : d ≠ 0 := by omega
    go_enter Try.func34, Try.ntmps34
    go_wp2_with (go_at_call 63; refine (HCC.out _ _ _ _ _ h1).mono ?_; rintro e w' ⟨rfl, rfl⟩)
    refine (HV.out _ _ h2).mono ?_
    rintro e w2 ⟨rfl, b2⟩
    have b3 := hb.trans (b2.mono hb.size)
    obtain ⟨⟨c0, c1⟩, _⟩ := (hn.below b2).cells
    clear hn b2 hb
    go_wp2
    go_ret
    exact ⟨ret_int E.out.symm, b3⟩

end Go.Proofs.Ytiffjeclpgcabaa
