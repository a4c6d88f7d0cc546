/- The law FnExactIsRounded: the walk. -/
import Derived.Test.YtlibfmbbchhjeaaSC
namespace Go.Proofs.Ytlibfmbbchhjeaa
open Go.RowKit

theorem sized_rows {g : List (List Int)} (h : Sized g) : g.length ≤ 9223372036854775807 ∧ ∀ i, i < g.length → (rowOf g i).length ≤ 9223372036854775807 :=
  ⟨Nat.le_trans h.1 (by decide), fun i hi => Nat.le_trans (h.2 i hi) (by decide)⟩

set_option maxRecDepth 100000 in
set_option maxHeartbeats 1600000 in
theorem FnExactIsRounded_walk (v : Value) (g : List (List Int)) (u : Int) (z : Value) (o : List (List Int)) (w : World) (hv : IsGrid w v g) (hl : g.length ≤ 9223372036854775807) (hr : ∀ i, i < g.length → (rowOf g i).length ≤ 9223372036854775807) (_hfg : FitsG g) (_hu : -9223372036854775808 ≤ u ∧ u ≤ 9223372036854775807)
    (hz : IsGrid w z o) (hlo : o.length ≤ 9223372036854775807) (hro : ∀ i, i < o.length → (rowOf o i).length ≤ 9223372036854775807) (hf : FitsG o) :
    Calls Try.prog 15 #[v, .int .i64 u, z] w fun e w' => e = .returned (.bool true) ∧ Below w.heap.size w w' := by
  have hv' := hv
  have hz' := hz
  obtain ⟨a, cap, rfl, _⟩ := hv
  obtain ⟨a2, cap2, rfl, _⟩ := hz
  go_enter Try.func15, Try.ntmps15
  go_wp2_with fail
  refine (szIntSS_any _ g _ _ hv' hl hr (by omega)).mono ?_
  rintro e w' ⟨r, rfl, hc, rfl⟩
  rcases hc with rfl | ⟨hr0, hr1, hsg⟩
  · go_wp2
    go_ret
    exact ⟨rfl, Below.refl _ _⟩
  have hn : ¬ (r < 0) := by omega
  go_wp2_with fail
  refine (szIntSS_any _ o _ _ hz' hlo hro ⟨hr0, hr1⟩).mono ?_
  rintro e w' ⟨r2, rfl, hc, rfl⟩
  rcases hc with rfl | ⟨hr20, hr21, hso⟩
  · go_wp2
    go_ret
    exact ⟨rfl, Below.refl _ _⟩
  have hn2 : ¬ (r2 < 0) := by omega
  go_wp2_with fail
  refine (toIntSS_any _ g _ hv' hsg).mono ?_
  rintro e w1 ⟨v1, rfl, g1, b1⟩
  go_wp2_with fail
  refine (toIntSS_any _ o _ (hz'.below b1) hso).mono ?_
  rintro e w2 ⟨v2, rfl, g2, hb2⟩
  have b2 : Below w.heap.size w w2 := b1.trans (hb2.mono b1.size)
  go_wp2_with fail
  refine (isRounded_spec _ _ g o u _ (g1.below hb2) g2 hl hr).mono ?_
  rintro e w3 ⟨rfl, hd3⟩
  have b3 : Below w.heap.size w w3 := b2.trans (hd3.below.mono b2.size)
  clear g1 g2 hb2 hd3
  go_wp2_with fail
  refine (toIntSS_any _ g _ (hv'.below b3) hsg).mono ?_
  rintro e w4 ⟨v4, rfl, g4, hb4⟩
  have b4 : Below w.heap.size w w4 := b3.trans (hb4.mono b3.size)
  go_wp2_with fail
  refine (toIntSS_any _ o _ (hz'.below b4) hso).mono ?_
  rintro e w5 ⟨v5, rfl, g5, hb5⟩
  have b5 : Below w.heap.size w w5 := b4.trans (hb5.mono b4.size)
  have g4a := g4.below hb5
  clear g4 hb4 hb5
  go_wp2_with fail
  refine (isRounded_impl _ _ g o u _ g4a g5 hl hr hf).mono ?_
  rintro e w6 ⟨rfl, hb6⟩
  rw [roundP_eq]
  have b6 : Below w.heap.size w w6 := b5.trans (hb6.mono b5.size)
  have g4b := g4a.below hb6
  have g5b := g5.below hb6
  clear g4a g5 hb6
  generalize roundS g u o = rb
  have hrb : (rb != rb) = false := by simp
  go_wp2_with fail
  refine (toIntSS_any _ g _ (hv'.below b6) hsg).mono ?_
  rintro e w7 ⟨v7, rfl, g7, hb7⟩
  have b7 : Below w.heap.size w w7 := b6.trans (hb7.mono b6.size)
  have g4c := g4b.below hb7
  have g5c := g5b.below hb7
  clear g4b g5b hb7
  go_wp2_with fail
  refine (eqIntSS_same _ _ g _ g4c g7 hl hr).mono ?_
  rintro e w8 ⟨rfl, hb8⟩
  have b8 : Below w.heap.size w w8 := b7.trans (hb8.mono b7.size)
  have g5d := g5c.below hb8
  clear g4c g5c g7 hb8
  go_wp2_with fail
  refine (toIntSS_any _ o _ (hz'.below b8) hso).mono ?_
  rintro e w9 ⟨v9, rfl, g9, hb9⟩
  have b9 : Below w.heap.size w w9 := b8.trans (hb9.mono b8.size)
  have g5e := g5d.below hb9
  clear g5d hb9
  go_wp2_with fail
  refine (eqIntSS_same _ _ o _ g5e g9 hlo hro).mono ?_
  rintro e w10 ⟨rfl, hb10⟩
  have b10 : Below w.heap.size w w10 := b9.trans (hb10.mono b9.size)
  go_wp2
  go_ret
  exact ⟨rfl, b10⟩

end Go.Proofs.Ytlibfmbbchhjeaa
