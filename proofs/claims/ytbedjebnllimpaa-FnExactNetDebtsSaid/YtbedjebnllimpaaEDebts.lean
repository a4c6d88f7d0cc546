/- The laws FnExactValidDebts and FnExactBalancesOf: the walks. -/
import Derived.Test.YtbedjebnllimpaaOwnI
import Derived.Test.YtbedjebnllimpaaOwnH
import Derived.Test.YtbedjebnllimpaaDebtI
namespace Go.Proofs.Ytbedjebnllimpaa
open Go.RowKit

theorem toIntSS_grid (v : Value) (g : List (List Int)) (w : World) (hv : IsGrid w v g) (hs : Sized g) :
    Calls Try.prog 51 #[v] w fun e w' => ∃ v', e = .returned v' ∧ IsGrid w' v' g ∧ Below w.heap.size w w' :=
  (toIntSS_own v g w hv hs).mono (by rintro e w' ⟨v', rfl, ho, hb⟩; exact ⟨v', rfl, ho.grid, hb⟩)

set_option maxRecDepth 100000 in
set_option maxHeartbeats 1600000 in
theorem FnExactValidDebts_walk (v : Value) (g : List (List Int)) (w : World) (hv : IsGrid w v g) (hl : g.length ≤ 9223372036854775807) (hr : ∀ i, i < g.length → (rowOf g i).length ≤ 9223372036854775807) (_hfg : FitsG g) :
    Calls Try.prog 11 #[v] w fun e w' => e = .returned (.bool true) ∧ Below w.heap.size w w' := by
  have hv' := hv
  obtain ⟨a, cap, rfl, _⟩ := hv
  go_enter Try.func11, Try.ntmps11
  go_wp2_with fail
  refine (szIntSS_sum _ g _ _ hv' hl hr (by omega)).mono ?_
  rintro e w' ⟨r, rfl, hc, rfl⟩
  rcases hc with rfl | ⟨hr0, hr1, hsg, hpg⟩
  · go_wp2
    go_ret
    exact ⟨rfl, Below.refl _ _⟩
  have hn : ¬ (r < 0) := by omega
  go_wp2_with fail
  refine (toIntSS_grid _ g _ hv' hsg).mono ?_
  rintro e w1 ⟨v1, rfl, g1, b1⟩
  go_wp2_with fail
  refine (ValidDebts_spec _ g _ g1 hl hr).mono ?_
  rintro e w' ⟨rfl, rfl⟩
  go_wp2_with fail
  refine (toIntSS_grid _ g _ (hv'.below b1) hsg).mono ?_
  rintro e w2 ⟨v2, rfl, g2, d2⟩
  have b2 : Below w.heap.size w w2 := b1.trans (d2.mono b1.size)
  go_wp2_with fail
  refine (ValidDebts_impl _ g _ g2 hl hr).mono ?_
  rintro e w' ⟨rfl, rfl⟩
  have hbb : (vDebts g != vDebts g) = false := by simp
  go_wp2_with fail
  refine (toIntSS_grid _ g _ (hv'.below b2) hsg).mono ?_
  rintro e w3 ⟨v3, rfl, g3, d3⟩
  have b3 : Below w.heap.size w w3 := b2.trans (d3.mono b2.size)
  go_wp2_with fail
  refine (eqIntSS_same _ _ g _ (g2.below d3) g3 hl hr).mono ?_
  rintro e w4 ⟨rfl, hb4⟩
  have b4 := b3.trans (hb4.mono b3.size)
  go_wp2
  go_ret
  exact ⟨rfl, b4⟩

theorem balancesL_length (g : List (List Int)) : (balancesL g).length ≤ 6 := by
  unfold balancesL
  split
  · rename_i h
    rw [balL_len]
    exact ((vDebts_iff g).1 h).1.2
  · exact Nat.zero_le _

set_option maxRecDepth 100000 in
set_option maxHeartbeats 3200000 in
theorem FnExactBalancesOf_walk (v : Value) (g : List (List Int)) (w : World) (hv : IsGrid w v g) (hl : g.length ≤ 9223372036854775807) (hr : ∀ i, i < g.length → (rowOf g i).length ≤ 9223372036854775807) (_hfg : FitsG g) :
    Calls Try.prog 12 #[v] w fun e w' => e = .returned (.bool true) ∧ Below w.heap.size w w' := by
  have hv' := hv
  have hL := balancesL_length g
  obtain ⟨a, cap, rfl, _⟩ := hv
  go_enter Try.func12, Try.ntmps12
  go_wp2_with fail
  refine (szIntSS_sum _ g _ _ hv' hl hr (by omega)).mono ?_
  rintro e w' ⟨r, rfl, hc, rfl⟩
  rcases hc with rfl | ⟨hr0, hr1, hsg, hpg⟩
  · go_wp2
    go_ret
    exact ⟨rfl, Below.refl _ _⟩
  have hn : ¬ (r < 0) := by omega
  go_wp2_with fail
  refine (toIntSS_grid _ g _ hv' hsg).mono ?_
  rintro e w1 ⟨v1, rfl, g1, b1⟩
  go_wp2_with fail
  refine (BalancesOf_spec _ g _ g1 hl hr).mono ?_
  rintro e w2 ⟨v2, rfl, ho2, hb2⟩
  have i2 := ho2.ints
  have b2 : Below w.heap.size w w2 := b1.trans (hb2.mono b1.size)
  generalize hT : balancesL g = t at *
  clear g1 hb2 ho2
  go_wp2_with fail
  refine (toIntSS_own _ g _ (hv'.below b2) hsg).mono ?_
  rintro e w3 ⟨v3, rfl, hx3, d3⟩
  obtain ⟨vs3, x3⟩ := hx3.values
  clear hx3
  have lt3 := x3.lt
  have b3 : Below w.heap.size w w3 := b2.trans (d3.mono b2.size)
  go_wp2_with fail
  refine (BalancesOf_impl _ g _ x3.table.grid hl hr).mono ?_
  rintro e w4 ⟨v4, rfl, y4, hb4⟩
  rw [hT] at y4
  have x4 := x3.below hb4
  have d4 : Below w2.heap.size w2 w4 := d3.trans (hb4.mono d3.size)
  have b4 : Below w.heap.size w w4 := b3.trans (hb4.mono b3.size)
  have c4 : w3.heap.size ≤ w4.heap.size := hb4.size
  clear x3 hb4 b3
  go_wp2_with fail
  refine (eqIntS_any _ _ t t _ y4.ints (i2.below d4) (by omega)).mono ?_
  rintro e w5 ⟨rfl, hb5⟩
  have x5 := x4.below hb5
  have y5 := y4.below hb5
  have d5 := d4.trans (hb5.mono d4.size)
  have b5 := b4.trans (hb5.mono b4.size)
  have c5 : w3.heap.size ≤ w5.heap.size := Nat.le_trans c4 hb5.size
  clear hb5 x4 y4 d4 b4 c4
  go_wp2_with fail
  refine (toIntSS_grid _ g _ (hv'.below b5) hsg).mono ?_
  rintro e w6 ⟨v6, rfl, g6, hb6⟩
  have x6 := x5.below hb6
  have y6 := y5.below hb6
  have d6 := d5.trans (hb6.mono d5.size)
  have b6 := b5.trans (hb6.mono b5.size)
  have c6 : w3.heap.size ≤ w6.heap.size := Nat.le_trans c5 hb6.size
  clear hb6 x5 y5 d5 b5 c5
  go_wp2_with fail
  refine (eqIntSS_same _ _ g _ x6.table.grid g6 hl hr).mono ?_
  rintro e w7 ⟨rfl, hb7⟩
  have x7 := x6.below hb7
  have y7 := y6.below hb7
  have d7 := d6.trans (hb7.mono d6.size)
  have b7 := b6.trans (hb7.mono b6.size)
  have c7 : w3.heap.size ≤ w7.heap.size := Nat.le_trans c6 hb7.size
  clear hb7 x6 y6 d6 b6 g6 c6
  go_wp2_with fail
  refine (markIntSS_any _ vs3 g 1 w2.heap.size w3.heap.size _ x7 d7.size (fun i hi k hk => (lt3.2 i hi k hk).2) hsg (by omega) (by omega)).mono ?_
  rintro e w8 ⟨rfl, _, sp8⟩
  have d8 := d7.trans sp8.1
  have b8 := b7.trans (sp8.1.mono b2.size)
  have y8 := sp8.2.2 _ _ _ y7 (Nat.le_refl _)
  have c8 : w3.heap.size ≤ w8.heap.size := Nat.le_trans c7 sp8.1.size
  have k0 : ¬ (1 + (pre g g.length : Int) < 0) := by omega
  have k0' : decide (1 + (pre g g.length : Int) < 0) = false := decide_eq_false k0
  clear sp8 x7 y7 d7 b7 lt3 c7
  go_wp2_with fail
  refine (eqIntS_any _ _ t t _ y8.ints (i2.below d8) (by omega)).mono ?_
  rintro e w9 ⟨rfl, hb9⟩
  have y9 := y8.below hb9
  have d9 := d8.trans (hb9.mono d8.size)
  have b9 := b8.trans (hb9.mono b8.size)
  have c9 : w3.heap.size ≤ w9.heap.size := Nat.le_trans c8 hb9.size
  clear hb9 y8 d8 b8 c8
  go_wp2_with fail
  refine (markIntS_any _ _ 1 _ _ y9 (by omega) (by omega) (by omega)).mono ?_
  rintro e w10 ⟨rfl, y10, hg10⟩
  have e10 := y9.pushed_below hg10 c9
  have d10 := d9.trans (e10.mono d3.size)
  have b10 := b9.trans (e10.mono (Nat.le_trans b2.size d3.size))
  clear y9 d9 b9 c9 e10 hg10
  go_wp2_with fail
  refine (heldIntS_any _ _ 1 _ y10.ints (by omega) (by omega) (by omega)).mono ?_
  rintro e w' ⟨rfl, rfl⟩
  have q0 : ¬ (1 + (t.length : Int) < 0) := by omega
  have hne : ((1 + (t.length : Int)) != (1 + (t.length : Int))) = false := by simp
  go_wp2_with fail
  refine (toIntSS_grid _ g _ (hv'.below b10) hsg).mono ?_
  rintro e w11 ⟨v11, rfl, g11, hb11⟩
  have y11 := y10.below hb11
  have d11 := d10.trans (hb11.mono d10.size)
  have b11 := b10.trans (hb11.mono b10.size)
  clear hb11 y10 d10 b10
  go_wp2_with fail
  refine (BalancesOf_impl _ g _ g11 hl hr).mono ?_
  rintro e w12 ⟨v12, rfl, z12, hb12⟩
  rw [hT] at z12
  have y12 := y11.below hb12
  have d12 := d11.trans (hb12.mono d11.size)
  have b12 := b11.trans (hb12.mono b11.size)
  clear hb12 y11 d11 b11 g11
  go_wp2_with fail
  refine (eqIntS_any _ _ t t _ z12.ints (i2.below d12) (by omega)).mono ?_
  rintro e w13 ⟨rfl, hb13⟩
  have y13 := y12.below hb13
  have b13 := b12.trans (hb13.mono b12.size)
  clear hb13 y12 d12 b12 z12
  go_wp2_with fail
  refine (heldIntS_any _ _ 1 _ y13.ints (by omega) (by omega) (by omega)).mono ?_
  rintro e w' ⟨rfl, rfl⟩
  go_wp2
  go_ret
  exact ⟨rfl, b13⟩

end Go.Proofs.Ytbedjebnllimpaa
