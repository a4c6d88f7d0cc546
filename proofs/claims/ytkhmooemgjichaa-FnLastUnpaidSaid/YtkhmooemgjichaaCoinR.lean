/- What the laws of chapter 5 draw. -/
import Derived.Test.YtkhmooemgjichaaCoinD
namespace Go.Proofs.Ytkhmooemgjichaa
open Go.RowKit

theorem DrawLastUnpaid_any (a : Option Addr) (n cap : Nat) (w : World) (h : IsBytes w a n) (hc : n ≤ cap) :
    Calls Try.prog 13 #[.slice a n cap] w fun e w' => ∃ v xs, e = .returned v ∧ Own w' w.heap.size v xs ∧ xs.length ≤ 6 ∧ Below w.heap.size w w' := by
  go_enter Try.func13, Try.ntmps13
  go_wp2_with fail
  refine (newReader_any a n cap _ h hc).mono ?_
  rintro e w1 ⟨rfl, h1, b1⟩
  go_wp2_with fail
  refine (someCoins_any _ _ _ _ _ h1 (by omega)).mono ?_
  rintro e w2 ⟨v, xs, rfl, o2, hb, h2, g2⟩
  have b2 := below_reader b1 g2
  have O := Lib.hid (o2.base b1.size)
  clear o2 h2 g2 h1
  go_wp2
  go_ret
  exact ⟨_, _, rfl, O.out, hb, b2⟩

theorem DrawWaysOf_any (a : Option Addr) (n cap : Nat) (w : World) (h : IsBytes w a n) (hc : n ≤ cap) :
    Calls Try.prog 7 #[.slice a n cap] w fun e w' => ∃ v xs z, e = .returned (.tuple #[v, .int .i64 z]) ∧ Own w' w.heap.size v xs ∧ xs.length ≤ 6 ∧ (-1 ≤ z ∧ z ≤ 121) ∧ Below w.heap.size w w' := by
  go_enter Try.func7, Try.ntmps7
  go_wp2_with fail
  refine (newReader_any a n cap _ h hc).mono ?_
  rintro e w1 ⟨rfl, h1, b1⟩
  go_wp2_with fail
  refine (someCoins_any _ _ _ _ _ h1 (by omega)).mono ?_
  rintro e w2 ⟨v, xs, rfl, o2, hb, h2, g2⟩
  have hne := o2.neBlock h1.lt.2
  go_wp2_with fail
  refine (anAmount_any _ _ _ _ _ h2 (by omega)).mono ?_
  rintro e w3 ⟨z, rfl, hz, h3, g3⟩
  have o3 := o2.kept g3 (.inr hne)
  have b3 := below_reader b1 (g2.trans g3)
  have O := Lib.hid (o3.base b1.size)
  clear o2 h2 g2 h1 o3 h3 g3 hne
  go_wp2
  go_ret2
  exact ⟨_, _, _, rfl, O.out, hb, hz, b3⟩

theorem DrawFewestHands_any (a : Option Addr) (n cap : Nat) (w : World) (h : IsBytes w a n) (hc : n ≤ cap) :
    Calls Try.prog 16 #[.slice a n cap] w fun e w' => ∃ v xs z, e = .returned (.tuple #[v, .int .i64 z]) ∧ Own w' w.heap.size v xs ∧ xs.length ≤ 6 ∧ (-1 ≤ z ∧ z ≤ 121) ∧ Below w.heap.size w w' := by
  go_enter Try.func16, Try.ntmps16
  go_wp2_with fail
  refine (newReader_any a n cap _ h hc).mono ?_
  rintro e w1 ⟨rfl, h1, b1⟩
  go_wp2_with fail
  refine (someCoins_any _ _ _ _ _ h1 (by omega)).mono ?_
  rintro e w2 ⟨v, xs, rfl, o2, hb, h2, g2⟩
  have hne := o2.neBlock h1.lt.2
  go_wp2_with fail
  refine (anAmount_any _ _ _ _ _ h2 (by omega)).mono ?_
  rintro e w3 ⟨z, rfl, hz, h3, g3⟩
  have o3 := o2.kept g3 (.inr hne)
  have b3 := below_reader b1 (g2.trans g3)
  have O := Lib.hid (o3.base b1.size)
  clear o2 h2 g2 h1 o3 h3 g3 hne
  go_wp2
  go_ret2
  exact ⟨_, _, _, rfl, O.out, hb, hz, b3⟩

theorem own_apart {w : World} {B2 : Nat} {v u : Value} {ys : List Int} (hk : ∀ k, v.ownBlock = some k → k < B2) (hu : Own w B2 u ys) : v.ownBlock = none ∨ v.ownBlock ≠ u.ownBlock := by
  cases hv : v.ownBlock with
  | none => exact .inl rfl
  | some k => exact .inr (fun e => by have h1 := (hu.lt k e.symm).1; have h2 := hk k hv; omega)

end Go.Proofs.Ytkhmooemgjichaa
