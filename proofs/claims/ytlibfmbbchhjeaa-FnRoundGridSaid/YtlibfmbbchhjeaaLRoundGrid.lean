/- The law FnRoundGrid: the walk. -/
import Derived.Test.YtlibfmbbchhjeaaDrawsG
import Derived.Test.YtlibfmbbchhjeaaEqL
namespace Go.Proofs.Ytlibfmbbchhjeaa
open Go.RowKit Flat

set_option maxRecDepth 100000 in
set_option maxHeartbeats 3200000 in
theorem FnRoundGrid_walk (a : Option Addr) (n cap : Nat) (w : World) (h : IsBytes w a n) (hc : n ≤ cap) :
    Calls Try.prog 9 #[.slice a n cap] w fun e w' => e = .returned (.bool true) ∧ Below w.heap.size w w' := by
  by_cases hbig : (1048576 : Int) < (n : Int)
  · go_enter Try.func9, Try.ntmps9
    go_wp2
    go_ret
    exact ⟨rfl, Below.refl _ _⟩
  · go_enter Try.func9, Try.ntmps9
    go_wp2_with fail
    refine (DrawRoundGrid_any a n cap w h hc).mono ?_
    rintro e w1 ⟨v, g, u, rfl, g1, r36, hu, b1⟩
    have hsz := sized_rows r36.sized
    have G1 := Lib.hid g1
    obtain ⟨av, cv, rfl, _⟩ := g1
    obtain ⟨hts, _⟩ := rounded_small g u
    have hlt := (sized_rows hts).1
    have hrt := (sized_rows hts).2
    go_wp2_with fail
    refine (RoundGrid_impl _ g u _ G1.out hsz.1 hsz.2).mono ?_
    rintro e w2 ⟨z, rfl, ha, hb2⟩
    have i2 := ha.table.grid
    have b2 : Below w.heap.size w w2 := b1.trans (hb2.mono b1.size)
    have g2 := G1.out.below hb2
    clear ha G1
    go_wp2_with fail
    refine (RoundGrid_spec _ g u _ g2 hsz.1 hsz.2).mono ?_
    rintro e w3 ⟨y, rfl, ht, hb3⟩
    have b3 : Below w.heap.size w w3 := b2.trans (hb3.mono b2.size)
    have i3 := i2.below hb3
    have g3 := g2.below hb3
    go_wp2_with fail
    refine (equalLists_same _ _ _ _ i3 ht.table.grid hlt hrt).mono ?_
    rintro e w4 ⟨rfl, hb4⟩
    have b4 : Below w.heap.size w w4 := b3.trans (hb4.mono b3.size)
    have i4 := i3.below hb4
    have g4 := g3.below hb4
    clear i2 g2 ht i3 g3 hb2 hb3 hb4
    cases hT : roundedG g u with
    | none =>
      rw [hT] at i4
      obtain ⟨az, cz, rfl, hcz⟩ := id i4
      simp only [Option.getD_none, List.length_nil] at *
      have I4 := Lib.hid i4
      clear hcz i4
      go_wp2_with fail
      refine (RoundGrid_spec _ g u _ g4 hsz.1 hsz.2).mono ?_
      rintro e w5 ⟨y5, rfl, ht5, hb5⟩
      rw [hT] at ht5
      have b5 : Below w.heap.size w w5 := b4.trans (hb5.mono b4.size)
      have i5 := I4.out.below hb5
      go_wp2_with fail
      refine (equalLists_same _ _ [] _ i5 ht5.table.grid (by decide) (fun i hi => absurd hi (Nat.not_lt_zero _))).mono ?_
      rintro e w6 ⟨rfl, hb6⟩
      have b6 : Below w.heap.size w w6 := b5.trans (hb6.mono b5.size)
      go_wp2
      go_ret
      exact ⟨rfl, b6⟩
    | some t =>
      rw [hT] at i4
      rw [Option.getD_some] at i4
      have h1 := (rounded_facts hT).1
      have hsm := (rounded_facts hT).2.1
      have hrs := (rounded_facts hT).2.2.2.1
      have hone := (rounded_facts hT).2.2.2.2
      have hu1 := ((vGrid_iff g u).1 h1).2.1
      obtain ⟨az, cz, rfl, _⟩ := id i4
      have tl1 : 0 < t.length := by have := hsm.1; omega
      have tlz : ((t.length : Int) == 0) = false := beq_eq_false_iff_ne.2 (by omega)
      have HRS := Lib.hid hrs
      have HONE := Lib.hid hone
      have hft := hsm.rows36.fits
      clear hsm hrs hone hT
      go_wp2_with fail
      refine (isRounded_impl _ _ g t u _ g4 i4 hsz.1 hsz.2 hft).mono ?_
      rintro e w5 ⟨rfl, hb5⟩
      rw [roundP_eq, HRS.out]
      have b5 : Below w.heap.size w w5 := b4.trans (hb5.mono b4.size)
      have i5 := i4.below hb5
      have g5 := g4.below hb5
      clear i4 g4 hb5
      by_cases h2 : 1 < u
      · have hd : decide (1 < u) = true := decide_eq_true h2
        go_wp2
        go_ret
        exact ⟨rfl, b5⟩
      · have hd : decide (1 < u) = false := decide_eq_false h2
        obtain rfl := HONE.out (by omega)
        go_wp2_with fail
        refine (equalLists_same _ _ t _ i5 g5 hsz.1 hsz.2).mono ?_
        rintro e w6 ⟨rfl, hb6⟩
        have b6 : Below w.heap.size w w6 := b5.trans (hb6.mono b5.size)
        go_wp2
        go_ret
        exact ⟨rfl, b6⟩

end Go.Proofs.Ytlibfmbbchhjeaa
