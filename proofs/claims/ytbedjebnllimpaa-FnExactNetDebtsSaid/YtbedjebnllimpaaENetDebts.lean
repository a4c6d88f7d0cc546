/- The law FnExactNetDebts: the walk. -/
import Derived.Test.YtbedjebnllimpaaNetI
import Derived.Test.YtbedjebnllimpaaNetS
import Derived.Test.YtbedjebnllimpaaEDebts
namespace Go.Proofs.Ytbedjebnllimpaa
open Go.RowKit

/-- Netted debts are small. -/
theorem net_small (g : List (List Int)) : Sized (netL g) ∧ pre (netL g) (netL g).length ≤ 36 := by
  cases hd : vDebts g
  · have e : netL g = [] := by rw [netL, hd]; rfl
    rw [e]
    exact ⟨⟨Nat.zero_le _, fun i hi => absurd hi (Nat.not_lt_zero _)⟩, Nat.zero_le _⟩
  · have h1 := (net_facts hd).1
    have h6 := ((vDebts_iff _).1 h1).1.2
    have hs := vDebts_sq h1
    have hp : ∀ i, i ≤ (netL g).length → pre (netL g) i ≤ i * 6 := by
      intro i
      induction i with
      | zero => intro _; simp [pre]
      | succ i ih => intro hi; have := ih (by omega); have := hs i (by omega); rw [pre]; omega
    refine ⟨⟨by omega, fun i hi => by rw [hs i hi]; omega⟩, ?_⟩
    have := hp _ (Nat.le_refl _)
    omega

set_option maxRecDepth 100000 in
set_option maxHeartbeats 3200000 in
theorem FnExactNetDebts_walk (v : Value) (g : List (List Int)) (w : World) (hv : IsGrid w v g) (hl : g.length ≤ 9223372036854775807) (hr : ∀ i, i < g.length → (rowOf g i).length ≤ 9223372036854775807) (_hfg : FitsG g) :
    Calls Try.prog 13 #[v] w fun e w' => e = .returned (.bool true) ∧ Below w.heap.size w w' := by
  have hv' := hv
  obtain ⟨hts, htp⟩ := net_small g
  have hlt := (sized_rows hts).1
  have hrt := (sized_rows hts).2
  obtain ⟨a, cap, rfl, _⟩ := hv
  go_enter Try.func13, Try.ntmps13
  go_wp2_with fail
  refine (szIntSS_sum _ g _ _ hv' hl hr (by omega)).mono ?_
  rintro e w' ⟨r, rfl, hc, rfl⟩
  rcases hc with rfl | ⟨hr0, hr1, hsg, hpg⟩
  · go_wp2
    go_ret
    exact ⟨rfl, Below.refl _ _⟩
  have hn : ¬ (r < 0) := by omega
  go_wp2_with fail
  refine (toIntSS_grid _ g _ hv' hsg).mono ?_
  rintro e w1 ⟨v1, rfl, g1, b1⟩
  go_wp2_with fail
  refine (NetDebts_spec _ g _ g1 hl hr).mono ?_
  rintro e w2 ⟨v2, rfl, ht2, hb2⟩
  have i2 := ht2.grid
  have b2 : Below w.heap.size w w2 := b1.trans (hb2.mono b1.size)
  generalize hT : netL g = t at *
  clear g1 hb2 ht2
  go_wp2_with fail
  refine (toIntSS_own _ g _ (hv'.below b2) hsg).mono ?_
  rintro e w3 ⟨v3, rfl, hx3, d3⟩
  obtain ⟨vs3, x3⟩ := hx3.values
  clear hx3
  have lt3 := x3.lt
  have b3 : Below w.heap.size w w3 := b2.trans (d3.mono b2.size)
  go_wp2_with fail
  refine (NetDebts_impl _ g _ x3.table.grid hl hr).mono ?_
  rintro e w4 ⟨v4, rfl, ha4, hb4⟩
  obtain ⟨vs4, y4⟩ := ha4.values
  rw [hT] at y4
  have x4 := x3.below hb4
  have d4 : Below w2.heap.size w2 w4 := d3.trans (hb4.mono d3.size)
  have b4 : Below w.heap.size w w4 := b3.trans (hb4.mono b3.size)
  have c4 : w3.heap.size ≤ w4.heap.size := hb4.size
  clear ha4 x3 hb4 b3
  go_wp2_with fail
  refine (eqIntSS_same _ _ t _ y4.table.grid (i2.below d4) hlt hrt).mono ?_
  rintro e w5 ⟨rfl, hb5⟩
  have x5 := x4.below hb5
  have y5 := y4.below hb5
  have d5 := d4.trans (hb5.mono d4.size)
  have b5 := b4.trans (hb5.mono b4.size)
  have c5 : w3.heap.size ≤ w5.heap.size := Nat.le_trans c4 hb5.size
  clear hb5 x4 y4 d4 b4 c4
  go_wp2_with fail
  refine (toIntSS_grid _ g _ (hv'.below b5) hsg).mono ?_
  rintro e w6 ⟨v6, rfl, g6, hb6⟩
  have x6 := x5.below hb6
  have y6 := y5.below hb6
  have d6 := d5.trans (hb6.mono d5.size)
  have b6 := b5.trans (hb6.mono b5.size)
  have c6 : w3.heap.size ≤ w6.heap.size := Nat.le_trans c5 hb6.size
  clear hb6 x5 y5 d5 b5 c5
  go_wp2_with fail
  refine (eqIntSS_same _ _ g _ x6.table.grid g6 hl hr).mono ?_
  rintro e w7 ⟨rfl, hb7⟩
  have x7 := x6.below hb7
  have y7 := y6.below hb7
  have d7 := d6.trans (hb7.mono d6.size)
  have b7 := b6.trans (hb7.mono b6.size)
  have c7 : w3.heap.size ≤ w7.heap.size := Nat.le_trans c6 hb7.size
  clear hb7 x6 y6 d6 b6 g6 c6
  go_wp2_with fail
  refine (markIntSS_any _ vs3 g 1 w2.heap.size w3.heap.size _ x7 d7.size (fun i hi k hk => (lt3.2 i hi k hk).2) hsg (by omega) (by omega)).mono ?_
  rintro e w8 ⟨rfl, _, sp8⟩
  have d8 := d7.trans sp8.1
  have b8 := b7.trans (sp8.1.mono b2.size)
  have y8 := sp8.2.1 _ _ _ _ y7 (Nat.le_refl _)
  have c8 : w3.heap.size ≤ w8.heap.size := Nat.le_trans c7 sp8.1.size
  have k0 : ¬ (1 + (pre g g.length : Int) < 0) := by omega
  have k0' : decide (1 + (pre g g.length : Int) < 0) = false := decide_eq_false k0
  clear sp8 x7 y7 d7 b7 lt3 c7
  go_wp2_with fail
  refine (eqIntSS_same _ _ t _ y8.table.grid (i2.below d8) hlt hrt).mono ?_
  rintro e w9 ⟨rfl, hb9⟩
  have y9 := y8.below hb9
  have d9 := d8.trans (hb9.mono d8.size)
  have b9 := b8.trans (hb9.mono b8.size)
  have c9 : w3.heap.size ≤ w9.heap.size := Nat.le_trans c8 hb9.size
  have lt9 := y9.lt
  clear hb9 y8 d8 b8 c8
  go_wp2_with fail
  refine (markIntSS_any _ vs4 t 1 w3.heap.size w9.heap.size _ y9 c9 (fun i hi k hk => (lt9.2 i hi k hk).2) hts (by omega) (by omega)).mono ?_
  rintro e w10 ⟨rfl, ⟨o', y10, m10⟩, sp10⟩
  have d10 := d9.trans (sp10.1.mono d3.size)
  have b10 := b9.trans (sp10.1.mono (Nat.le_trans b2.size d3.size))
  clear sp10 y9 d9 b9 lt9 c9
  go_wp2_with fail
  refine (heldIntSS_any _ t o' 1 _ y10.table.grid m10 hts (by omega) (by omega)).mono ?_
  rintro e w' ⟨rfl, rfl⟩
  have q0 : ¬ (1 + (pre t t.length : Int) < 0) := by omega
  have hne : ((1 + (pre t t.length : Int)) != (1 + (pre t t.length : Int))) = false := by simp
  go_wp2_with fail
  refine (toIntSS_grid _ g _ (hv'.below b10) hsg).mono ?_
  rintro e w11 ⟨v11, rfl, g11, hb11⟩
  have y11 := y10.below hb11
  have d11 := d10.trans (hb11.mono d10.size)
  have b11 := b10.trans (hb11.mono b10.size)
  clear hb11 y10 d10 b10
  go_wp2_with fail
  refine (NetDebts_impl _ g _ g11 hl hr).mono ?_
  rintro e w12 ⟨v12, rfl, ha12, hb12⟩
  have z12 := ha12.grid
  rw [hT] at z12
  have y12 := y11.below hb12
  have d12 := d11.trans (hb12.mono d11.size)
  have b12 := b11.trans (hb12.mono b11.size)
  clear hb12 y11 d11 b11 ha12 g11
  go_wp2_with fail
  refine (eqIntSS_same _ _ t _ z12 (i2.below d12) hlt hrt).mono ?_
  rintro e w13 ⟨rfl, hb13⟩
  have y13 := y12.below hb13
  have b13 := b12.trans (hb13.mono b12.size)
  clear hb13 y12 d12 b12 z12
  go_wp2_with fail
  refine (heldIntSS_any _ t o' 1 _ y13.table.grid m10 hts (by omega) (by omega)).mono ?_
  rintro e w' ⟨rfl, rfl⟩
  go_wp2
  go_ret
  exact ⟨rfl, b13⟩

end Go.Proofs.Ytbedjebnllimpaa
